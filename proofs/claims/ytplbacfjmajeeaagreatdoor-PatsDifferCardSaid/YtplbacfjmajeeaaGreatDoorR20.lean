/- A part of the proof of the statement on PatsDiffer: hgref2.(*spots).walk at a PatBytes. (gen_MA.py) -/
import Derived.Test.YtplbacfjmajeeaaGreatDoorR17
import Derived.Deep.CutRange
import Derived.Deep.DeepCutAuto
namespace Go.Proofs.YtplbacfjmajeeaaGreatDoor
open Go.RowKit

theorem lt_of_map {w : World} {b : Nat} {es : Array MapEntry} {c : Nat} (h : w.heap[b]? = some (.map es c)) : b < w.heap.size := (Array.getElem?_eq_some_iff.1 h).1
def LS1 (w0 : World) (X : Nat) (l h : Int) (w : World) : Prop := w.cell? ⟨w0.heap.size, 0, none⟩ = some (.pointer (some ⟨X, 0, none⟩)) ∧ w.cell? ⟨w0.heap.size + 1, 1, none⟩ = some (.int .i64 l) ∧ w.cell? ⟨w0.heap.size + 1, 2, none⟩ = some (.int .i64 h)
def LS2 (X : Nat) (V : SpV) (w : World) : Prop := w.cell? ⟨X, 0, none⟩ = some V.lo ∧ w.cell? ⟨X, 1, none⟩ = some V.hi ∧ w.cell? ⟨X, 2, none⟩ = some V.ma
def LS3 (X : Nat) (fo la : Value) (w : World) : Prop := w.cell? ⟨X, 3, none⟩ = some fo ∧ w.cell? ⟨X, 4, none⟩ = some la
def T4 (j : Nat) : Bool := j == 28 || j == 31 || j == 34
theorem T4_spec {j : Nat} (h : T4 j = true) : j = 28 ∨ j = 31 ∨ j = 34 := by unfold T4 at h; simp at h; omega
def T5 (j : Nat) : Bool := j == 17 || j == 20
theorem T5_spec {j : Nat} (h : T5 j = true) : j = 17 ∨ j = 20 ∨ j = 20 := by unfold T5 at h; simp at h; omega
/-- The boxes of walk's parameters. -/
def boxes (w0 : World) (X : Nat) (l h : Int) (av : Option Addr) (n0 cap : Nat) : List (Nat × Array Value × TypeId) :=
  [(w0.heap.size + 1, #[.int .i64 1, .int .i64 l, .int .i64 h, .slice av n0 cap], 28), (w0.heap.size, #[.pointer (some ⟨X, 0, none⟩)], 85)]
theorem lS1_of {w0 w : World} {rs0 : List Row} {base X : Nat} {xc : Array Value} {extra rs : List Row} {Ns : List (Nat × Array Value × TypeId)} {Ms : List Nat} {l h : Int} (av : Option Addr) (n0 cap : Nat) (M : Md w0 rs0 base X xc extra rs Ns Ms w) (hb : ∀ n ∈ boxes w0 X l h av n0 cap, n ∈ Ns) : LS1 w0 X l h w := by
  have h1 := (M.news (w0.heap.size, #[.pointer (some ⟨X, 0, none⟩)], 85) (hb _ (by simp [boxes]))).1
  have h2 := (M.news (w0.heap.size + 1, #[.int .i64 1, .int .i64 l, .int .i64 h, .slice av n0 cap], 28) (hb _ (by simp [boxes]))).1
  exact ⟨cell_of_block h1 0, cell_of_block h2 1, cell_of_block h2 2⟩
theorem lS2_of {w0 w : World} {rs0 : List Row} {base X : Nat} {V : SpV} {fo la fi : Value} {extra rs : List Row} {Ns : List (Nat × Array Value × TypeId)} {Ms : List Nat} (M : Md w0 rs0 base X #[V.lo, V.hi, V.ma, fo, la, fi] extra rs Ns Ms w) : LS2 X V w := ⟨M.cellX 0, M.cellX 1, M.cellX 2⟩
theorem lS3_of {w0 w : World} {rs0 : List Row} {base X : Nat} {a b c fo la fi : Value} {extra rs : List Row} {Ns : List (Nat × Array Value × TypeId)} {Ms : List Nat} (M : Md w0 rs0 base X #[a, b, c, fo, la, fi] extra rs Ns Ms w) : LS3 X fo la w := ⟨M.cellX 3, M.cellX 4⟩
theorem sp_md {w : World} {base X : Nat} {d : SpD} {c : Nat} {V : SpV} {extra : List Row} (S : Sp w base X d c V extra) (l h : Int) (av : Option Addr) (n0 cap : Nat) :
    Md w (spRows d V) base X #[V.lo, V.hi, V.ma, V.fo, V.la, V.fi] extra (spRows d V) (boxes w X l h av n0 cap) [] ((w.alloc (.cells #[.pointer (some ⟨X, 0, none⟩)] 85)).alloc (.cells #[.int .i64 1, .int .i64 l, .int .i64 h, .slice av n0 cap] 28)) := by
  have M0 : Md w (spRows d V) base X #[V.lo, V.hi, V.ma, V.fo, V.la, V.fi] extra (spRows d V) [] [] w := by
    refine ⟨S.blk, S.rows, Ext.refl _ _ _, fun n hn => by simp at hn, fun n hn => by simp at hn, S.size, fun r hr => ?_⟩
    rcases List.mem_append.1 hr with hr | hr
    · simp only [spRows, List.mem_cons, List.not_mem_nil, or_false] at hr
      rcases hr with rfl | rfl | rfl | rfl | rfl <;> (simp only; decide)
    · rw [S.ek r hr]; decide
  have M1 := (M0.alloc1 #[.pointer (some ⟨X, 0, none⟩)] 85).alloc1 #[.int .i64 1, .int .i64 l, .int .i64 h, .slice av n0 cap] 28
  have e : (w.alloc (.cells #[.pointer (some ⟨X, 0, none⟩)] 85)).heap.size = w.heap.size + 1 := by simp
  rw [e] at M1
  exact M1
def leafD (d : SpD) (l h m : Int) (mm : Nat) : SpD := ⟨d.lo ++ [l], d.hi ++ [h], d.ma ++ [m], d.fo ++ [mm], d.la ++ [false], d.F⟩
def LeafPost (w : World) (base X : Nat) (d : SpD) (c : Nat) (V : SpV) (extra : List Row) (l h m : Int) (e : Ending) (w' : World) : Prop :=
  ∃ g V' mm, e = .returned (.tuple #[.slice (some ⟨g, 0, none⟩) 1 1, .slice (some ⟨g, 0, none⟩) 1 1, .bool false]) ∧ Sp w' base X (leafD d l h m mm) c V' extra ∧ Ext X w (spRows d V) w' (spRows (leafD d l h m mm) V') ∧
    w'.heap[g]? = some (.cells #[.int .i64 (d.n : Int)] 3 (0, 0)) ∧ w.heap.size ≤ g ∧ g ≠ X ∧ NotOf (spRows (leafD d l h m mm) V' ++ extra) g ∧ V'.fi = V.fi ∧ w.heap.size ≤ mm
theorem leaf_done {w wc : World} {base X : Nat} {d : SpD} {c : Nat} {V : SpV} {extra : List Row} {l h m : Int} {lo hi ma fo la : Value} {mm : Nat} {Ns : List (Nat × Array Value × TypeId)} (S : Sp w base X d c V extra) (hF : ∀ i k, d.F i k → i < d.n)
    (M : Md w (spRows d V) base X #[lo, hi, ma, fo, la, V.fi] extra [⟨3, lo, intC d.lo ++ [.int .i64 l]⟩, ⟨3, hi, intC d.hi ++ [.int .i64 h]⟩, ⟨3, ma, intC d.ma ++ [.int .i64 m]⟩, ⟨165, fo, mapC d.fo ++ [.map (some mm)]⟩, ⟨4, la, boolC d.la ++ [.bool false]⟩] Ns [mm] wc) :
    LeafPost w base X d c V extra l h m (.returned (.tuple #[.slice (some ⟨wc.heap.size, 0, none⟩) 1 1, .slice (some ⟨wc.heap.size, 0, none⟩) 1 1, .bool false])) (wc.alloc (.cells #[.int .i64 (d.lo.length : Int)] 3)) := by
  have A := M.alloc (.cells #[.int .i64 (d.lo.length : Int)] 3)
  have er : [⟨3, lo, intC d.lo ++ [.int .i64 l]⟩, ⟨3, hi, intC d.hi ++ [.int .i64 h]⟩, ⟨3, ma, intC d.ma ++ [.int .i64 m]⟩, ⟨165, fo, mapC d.fo ++ [.map (some mm)]⟩, ⟨4, la, boolC d.la ++ [.bool false]⟩] = spRows (leafD d l h m mm) ⟨lo, hi, ma, fo, la, V.fi⟩ := by
    simp [spRows, leafD, intC, mapC, boolC]
  rw [er] at A M
  obtain ⟨l1, l2, l3, l4⟩ := S.len
  have hn : (leafD d l h m mm).n = d.n + 1 := by simp [SpD.n, leafD]
  obtain ⟨m1, m2⟩ := A.mps mm (by simp)
  refine ⟨wc.heap.size, ⟨lo, hi, ma, fo, la, V.fi⟩, mm, rfl, ⟨A.blk, A.rows, ?_, fun i q hq => ?_, ?_, A.size, S.ek⟩, A.ext, heap_alloc_new wc _, M.ext.frm.size, fun e => ?_, M.rows.new (Nat.le_refl _), rfl, m2⟩
  · rw [hn]
    simp only [leafD, List.length_append, List.length_singleton]
    omega
  · simp only [leafD] at hq ⊢
    rcases Nat.lt_or_ge i d.fo.length with hi' | hi'
    · rw [List.getElem?_append_left hi'] at hq
      obtain ⟨h1, h2⟩ := S.maps i q hq
      obtain ⟨es, cc, hb⟩ := h2.blk
      refine ⟨h1, h2.same ?_⟩
      rw [A.ext.frm.block q (lt_of_map hb) ⟨fun e => by rw [e, S.blk] at hb; simp at hb, S.rows.left.not_map hb⟩]
    · rw [List.getElem?_append_right hi'] at hq
      have hi2 : i = d.fo.length := by
        rcases Nat.eq_or_lt_of_le hi' with h | h
        · exact h.symm
        · rw [List.getElem?_eq_none (by simp; omega)] at hq; cases hq
      subst hi2
      simp only [Nat.sub_self, List.getElem?_cons_zero, Option.some.injEq] at hq
      subst hq
      refine ⟨Nat.le_trans S.size m2, (m1.mono (Nat.zero_le c)).iff (fun k => ⟨fun h => h.elim, fun h => ?_⟩)⟩
      have := hF _ _ h
      omega
  · simp only [leafD]
    rw [List.nodup_append]
    refine ⟨S.nd, by simp, fun a ha b hb e => ?_⟩
    simp only [List.mem_singleton] at hb
    subst hb
    subst e
    obtain ⟨i, hi'⟩ := List.getElem?_of_mem ha
    obtain ⟨es, cc, hb⟩ := (S.maps i _ hi').2.blk
    have := lt_of_map hb
    omega
  · have := lt_of_block M.blk
    omega
def Rel4 (w0 : World) (base X : Nat) (d : SpD) (V : SpV) (extra : List Row) (l h m : Int) (av : Option Addr) (n0 cap : Nat) (w : World) : Prop :=
  ∃ a1 c1 a2 c2 a3 c3 n1 n2 n3, ∃ Ns, Md w0 (spRows d V) base X #[.slice a1 n1 c1, .slice a2 n2 c2, .slice a3 n3 c3, V.fo, V.la, V.fi] extra [⟨3, .slice a1 n1 c1, intC d.lo ++ [.int .i64 l]⟩, ⟨3, .slice a2 n2 c2, intC d.hi ++ [.int .i64 h]⟩, ⟨3, .slice a3 n3 c3, intC d.ma ++ [.int .i64 m]⟩, ⟨165, V.fo, mapC d.fo⟩, ⟨4, V.la, boolC d.la⟩] Ns [] w ∧ ∀ n ∈ boxes w0 X l h av n0 cap, n ∈ Ns
def Rel5 (w0 : World) (base X : Nat) (d : SpD) (V : SpV) (extra : List Row) (l h m : Int) (av : Option Addr) (n0 cap : Nat) (w : World) : Prop :=
  ∃ a n1 c1 hi ma fo la mm, ∃ Ns, Md w0 (spRows d V) base X #[.slice a n1 c1, hi, ma, fo, la, V.fi] extra [⟨3, .slice a n1 c1, intC d.lo ++ [.int .i64 l]⟩, ⟨3, hi, intC d.hi ++ [.int .i64 h]⟩, ⟨3, ma, intC d.ma ++ [.int .i64 m]⟩, ⟨165, fo, mapC d.fo ++ [.map (some mm)]⟩, ⟨4, la, boolC d.la ++ [.bool false]⟩] Ns [mm] w ∧ ∀ n ∈ boxes w0 X l h av n0 cap, n ∈ Ns

set_option maxHeartbeats 10000000 in
set_option maxRecDepth 100000 in
theorem walk_leaf (l h m : Int) (av : Option Addr) (n0 cap : Nat) (w : World) (base X : Nat) (d : SpD) (c : Nat) (V : SpV) (extra : List Row) (S : Sp w base X d c V extra) (hn : d.n ≤ 100000) (hF : ∀ i k, d.F i k → i < d.n) :
    Calls Tryz.prog 78 #[.pointer (some ⟨X, 0, none⟩), .agg #[.int .i64 1, .int .i64 l, .int .i64 h, .slice av n0 cap], .int .i64 m] w (LeafPost w base X d c V extra l h m) := by
  obtain ⟨hl1, hl2, hl3, hl4⟩ := S.len
  have hL1 : (intC d.lo).length ≤ 1000000 := by rw [intC_len]; unfold SpD.n at hn; omega
  have hL2 : (intC d.hi).length ≤ 1000000 := by rw [intC_len]; omega
  have hL3 : (intC d.ma).length ≤ 1000000 := by rw [intC_len]; omega
  have hL4 : (mapC d.fo).length ≤ 1000000 := by simp only [mapC, List.length_map]; omega
  have hL5 : (boolC d.la).length ≤ 1000000 := by simp only [boolC, List.length_map]; omega
  have HS := Lib.hid S
  have HF := Lib.hid hF
  have H1 := Lib.hid hL1
  have H2 := Lib.hid hL2
  have H3 := Lib.hid hL3
  have H4 := Lib.hid hL4
  have H5 := Lib.hid hL5
  have M0 := sp_md S l h av n0 cap
  clear S hF hl1 hl2 hl3 hl4 hL1 hL2 hL3 hL4 hL5
  have HM := Lib.hid M0
  clear M0
  go_enter Tryz.func78, Tryz.ntmps78
  go_wp2_with fail
  generalize ((w.alloc (.cells #[.pointer (some ⟨X, 0, none⟩)] 85)).alloc (.cells #[.int .i64 1, .int .i64 l, .int .i64 h, .slice av n0 cap] 28)) = W at HM ⊢
  go_cut [] (fun wx => Rel4 w base X d V extra l h m av n0 cap wx)
  case first =>
    have M := HM.out.drew
    refine wp_region_K2 (LS1 w X l h) (LS2 X V) T4 35 #[false, false, false, false, false, false, false, false, false, false, false, false, false, false, false, false, false, false, false, false, false, false, false, false, false, false, false, false, false, false, false, false, false, false, false] (by kernel_rfl) (by kernel_rfl) (by kernel_rfl) ?_
    refine wpAnyK_take1 (i := 0) (some 26) (v := (.pointer (some ⟨X, 0, none⟩))) rfl rfl (by kernel_rfl) (by kernel_rfl) (by kernel_rfl) (fun _ _ _ h => h) (.inl ⟨by rfl, fun w' hw' => run_load1 85 _ ⟨w.heap.size, 0, none⟩ _ (by simp) rfl hw'.1⟩) (lS1_of av n0 cap M (fun n hn => by simp [hn])) ?_
    simp only [Act.put, List.setIfInBounds_toArray, List.set_cons_zero, List.set_cons_succ]
    refine wpAnyK_take1 (i := 1) (some 27) (v := (.pointer (some ⟨X, 0, none⟩))) rfl rfl (by kernel_rfl) (by kernel_rfl) (by kernel_rfl) (fun _ _ _ h => h) (.inl ⟨by rfl, fun w' hw' => run_load1 85 _ ⟨w.heap.size, 0, none⟩ _ (by simp) rfl hw'.1⟩) (lS1_of av n0 cap M (fun n hn => by simp [hn])) ?_
    simp only [Act.put, List.setIfInBounds_toArray, List.set_cons_zero, List.set_cons_succ]
    refine wpAnyK_take1 (i := 2) (some 28) (v := (.pointer (some ⟨X, 0, none⟩))) rfl rfl (by kernel_rfl) (by kernel_rfl) (by kernel_rfl) (fun _ _ _ h => h) (.inl ⟨by rfl, fun w' hw' => run_load1 85 _ ⟨w.heap.size, 0, none⟩ _ (by simp) rfl hw'.1⟩) (lS1_of av n0 cap M (fun n hn => by simp [hn])) ?_
    simp only [Act.put, List.setIfInBounds_toArray, List.set_cons_zero, List.set_cons_succ]
    refine wpAnyK_take1 (i := 3) (some 29) (v := (.pointer (some ⟨X, 0, none⟩))) rfl rfl (by kernel_rfl) (by kernel_rfl) (by kernel_rfl) (fun _ _ _ h => h) (.inl ⟨by rfl, fun w' hw' => run_load1 85 _ ⟨w.heap.size, 0, none⟩ _ (by simp) rfl hw'.1⟩) (lS1_of av n0 cap M (fun n hn => by simp [hn])) ?_
    simp only [Act.put, List.setIfInBounds_toArray, List.set_cons_zero, List.set_cons_succ]
    refine wpAnyK_take1 (i := 11) (some 37) (v := (.pointer (some ⟨X, 0, none⟩))) rfl rfl (by kernel_rfl) (by kernel_rfl) (by kernel_rfl) (fun _ _ _ h => h) (.inl ⟨by rfl, fun w' hw' => run_load1 85 _ ⟨w.heap.size, 0, none⟩ _ (by simp) rfl hw'.1⟩) (lS1_of av n0 cap M (fun n hn => by simp [hn])) ?_
    simp only [Act.put, List.setIfInBounds_toArray, List.set_cons_zero, List.set_cons_succ]
    refine wpAnyK_take1 (i := 19) (some 45) (v := (.pointer (some ⟨X, 0, none⟩))) rfl rfl (by kernel_rfl) (by kernel_rfl) (by kernel_rfl) (fun _ _ _ h => h) (.inl ⟨by rfl, fun w' hw' => run_load1 85 _ ⟨w.heap.size, 0, none⟩ _ (by simp) rfl hw'.1⟩) (lS1_of av n0 cap M (fun n hn => by simp [hn])) ?_
    simp only [Act.put, List.setIfInBounds_toArray, List.set_cons_zero, List.set_cons_succ]
    refine wpAnyK_take1 (i := 4) (some 30) (v := (.pointer (some ⟨X, 0, none⟩))) rfl rfl (by kernel_rfl) (by kernel_rfl) (by kernel_rfl) (fun _ _ _ h => h) (.inl ⟨by rfl, fun w' hw' => run_nil1 _ _ rfl⟩) (lS1_of av n0 cap M (fun n hn => by simp [hn])) ?_
    simp only [Act.put, List.setIfInBounds_toArray, List.set_cons_zero, List.set_cons_succ]
    refine wpAnyK_take1 (i := 12) (some 38) (v := (.pointer (some ⟨X, 0, none⟩))) rfl rfl (by kernel_rfl) (by kernel_rfl) (by kernel_rfl) (fun _ _ _ h => h) (.inl ⟨by rfl, fun w' hw' => run_nil1 _ _ rfl⟩) (lS1_of av n0 cap M (fun n hn => by simp [hn])) ?_
    simp only [Act.put, List.setIfInBounds_toArray, List.set_cons_zero, List.set_cons_succ]
    refine wpAnyK_take1 (i := 20) (some 46) (v := (.pointer (some ⟨X, 0, none⟩))) rfl rfl (by kernel_rfl) (by kernel_rfl) (by kernel_rfl) (fun _ _ _ h => h) (.inl ⟨by rfl, fun w' hw' => run_nil1 _ _ rfl⟩) (lS1_of av n0 cap M (fun n hn => by simp [hn])) ?_
    simp only [Act.put, List.setIfInBounds_toArray, List.set_cons_zero, List.set_cons_succ]
    refine wpAnyK_take1 (i := 5) (some 31) (v := (.pointer (some ⟨X, 0, none⟩))) rfl rfl (by kernel_rfl) (by kernel_rfl) (by kernel_rfl) (fun _ _ _ h => h) (.inl ⟨by rfl, fun w' hw' => run_field97 _ X 0 (by omega) rfl⟩) (lS1_of av n0 cap M (fun n hn => by simp [hn])) ?_
    simp only [Act.put, List.setIfInBounds_toArray, List.set_cons_zero, List.set_cons_succ]
    refine wpAnyK_take1 (i := 13) (some 39) (v := (.pointer (some ⟨X, 1, none⟩))) rfl rfl (by kernel_rfl) (by kernel_rfl) (by kernel_rfl) (fun _ _ _ h => h) (.inl ⟨by rfl, fun w' hw' => run_field97 _ X 1 (by omega) rfl⟩) (lS1_of av n0 cap M (fun n hn => by simp [hn])) ?_
    simp only [Act.put, List.setIfInBounds_toArray, List.set_cons_zero, List.set_cons_succ]
    refine wpAnyK_take1 (i := 21) (some 47) (v := (.pointer (some ⟨X, 2, none⟩))) rfl rfl (by kernel_rfl) (by kernel_rfl) (by kernel_rfl) (fun _ _ _ h => h) (.inl ⟨by rfl, fun w' hw' => run_field97 _ X 2 (by omega) rfl⟩) (lS1_of av n0 cap M (fun n hn => by simp [hn])) ?_
    simp only [Act.put, List.setIfInBounds_toArray, List.set_cons_zero, List.set_cons_succ]
    refine wpAnyK_take2 (i := 6) (some 32) (v := V.lo) rfl rfl (by kernel_rfl) (by kernel_rfl) (by kernel_rfl) (fun _ _ _ h => h) (by intro j hj; rcases T4_spec hj with rfl | rfl | rfl <;> kernel_rfl) (.inl ⟨by rfl, fun w' hw' => run_load1 22 _ ⟨X, 0, none⟩ _ (by simp) rfl hw'.2.1⟩) ⟨lS1_of av n0 cap M (fun n hn => by simp [hn]), lS2_of M⟩ ?_
    simp only [Act.put, List.setIfInBounds_toArray, List.set_cons_zero, List.set_cons_succ]
    refine wpAnyK_take2 (i := 14) (some 40) (v := V.hi) rfl rfl (by kernel_rfl) (by kernel_rfl) (by kernel_rfl) (fun _ _ _ h => h) (by intro j hj; rcases T4_spec hj with rfl | rfl | rfl <;> kernel_rfl) (.inl ⟨by rfl, fun w' hw' => run_load1 22 _ ⟨X, 1, none⟩ _ (by simp) rfl hw'.2.2.1⟩) ⟨lS1_of av n0 cap M (fun n hn => by simp [hn]), lS2_of M⟩ ?_
    simp only [Act.put, List.setIfInBounds_toArray, List.set_cons_zero, List.set_cons_succ]
    refine wpAnyK_take2 (i := 22) (some 48) (v := V.ma) rfl rfl (by kernel_rfl) (by kernel_rfl) (by kernel_rfl) (fun _ _ _ h => h) (by intro j hj; rcases T4_spec hj with rfl | rfl | rfl <;> kernel_rfl) (.inl ⟨by rfl, fun w' hw' => run_load1 22 _ ⟨X, 2, none⟩ _ (by simp) rfl hw'.2.2.2⟩) ⟨lS1_of av n0 cap M (fun n hn => by simp [hn]), lS2_of M⟩ ?_
    simp only [Act.put, List.setIfInBounds_toArray, List.set_cons_zero, List.set_cons_succ]
    refine wpAnyK_take1 (i := 7) (some 33) (v := (.pointer (some ⟨w.heap.size + 1, 1, none⟩))) rfl rfl (by kernel_rfl) (by kernel_rfl) (by kernel_rfl) (fun _ _ _ h => h) (.inl ⟨by rfl, fun w' hw' => run_field28 _ (w.heap.size + 1) 1 (by omega) rfl⟩) (lS1_of av n0 cap M (fun n hn => by simp [hn])) ?_
    simp only [Act.put, List.setIfInBounds_toArray, List.set_cons_zero, List.set_cons_succ]
    refine wpAnyK_take1 (i := 15) (some 41) (v := (.pointer (some ⟨w.heap.size + 1, 2, none⟩))) rfl rfl (by kernel_rfl) (by kernel_rfl) (by kernel_rfl) (fun _ _ _ h => h) (.inl ⟨by rfl, fun w' hw' => run_field28 _ (w.heap.size + 1) 2 (by omega) rfl⟩) (lS1_of av n0 cap M (fun n hn => by simp [hn])) ?_
    simp only [Act.put, List.setIfInBounds_toArray, List.set_cons_zero, List.set_cons_succ]
    refine wpAnyK_take1 (i := 8) (some 34) (v := (.int .i64 l)) rfl rfl (by kernel_rfl) (by kernel_rfl) (by kernel_rfl) (fun _ _ _ h => h) (.inl ⟨by rfl, fun w' hw' => run_load1 3 _ ⟨w.heap.size + 1, 1, none⟩ _ (by simp) rfl hw'.2.1⟩) (lS1_of av n0 cap M (fun n hn => by simp [hn])) ?_
    simp only [Act.put, List.setIfInBounds_toArray, List.set_cons_zero, List.set_cons_succ]
    refine wpAnyK_take1 (i := 16) (some 42) (v := (.int .i64 h)) rfl rfl (by kernel_rfl) (by kernel_rfl) (by kernel_rfl) (fun _ _ _ h => h) (.inl ⟨by rfl, fun w' hw' => run_load1 3 _ ⟨w.heap.size + 1, 2, none⟩ _ (by simp) rfl hw'.2.2⟩) (lS1_of av n0 cap M (fun n hn => by simp [hn])) ?_
    simp only [Act.put, List.setIfInBounds_toArray, List.set_cons_zero, List.set_cons_succ]
    refine wpAnyK_take1 (i := 23) (some 49) (v := (.int .i64 m)) rfl rfl (by kernel_rfl) (by kernel_rfl) (by kernel_rfl) (fun _ _ _ h => h) (.inl ⟨by rfl, fun w' hw' => run_move1 _⟩) (lS1_of av n0 cap M (fun n hn => by simp [hn])) ?_
    simp only [Act.put, List.setIfInBounds_toArray, List.set_cons_zero, List.set_cons_succ]
    refine wpAnyK_all3 (i := 9) (j := 17) (k := 24) (by kernel_rfl) ?_ ?_ ?_
    · refine wpOp_buildI (d := some 35) rfl M l rfl (fun k2 w3 M1 => ?_)
      refine ⟨⟨lS1_of av n0 cap M1 (fun n hn => by simp [hn]), .inr fun _ => lS2_of M1⟩, ?_⟩
      simp only [Act.put, List.setIfInBounds_toArray, List.set_cons_zero, List.set_cons_succ]
      refine wpAnyK_all3 (i := 10) (j := 17) (k := 24) (by kernel_rfl) ?_ ?_ ?_
      · refine wpOp_append (d := some 36) 22 rfl M1 0 (r := ⟨3, V.lo, intC d.lo⟩) rfl (.int .i64 0) 8 Tryz.underlying22 info3 rfl (by decide) k2 (.int .i64 l) 3 (by simp [boxes]) rfl H1.out rfl rfl (fun a5 n6 c7 w8 M4 => ?_)
        refine ⟨⟨lS1_of av n0 cap M4 (fun n hn => by simp [hn]), .inr fun _ => lS2_of M4⟩, ?_⟩
        simp only [Act.put, List.setIfInBounds_toArray, List.set_cons_zero, List.set_cons_succ]
        refine wpAnyK_all2 (i := 17) (j := 24) (by kernel_rfl) ?_ ?_
        · refine wpOp_buildI (d := some 43) rfl M4 h rfl (fun k10 w11 M9 => ?_)
          refine ⟨⟨lS1_of av n0 cap M9 (fun n hn => by simp [hn]), .inr fun _ => lS2_of M9⟩, ?_⟩
          simp only [Act.put, List.setIfInBounds_toArray, List.set_cons_zero, List.set_cons_succ]
          refine wpAnyK_all2 (i := 18) (j := 24) (by kernel_rfl) ?_ ?_
          · refine wpOp_append (d := some 44) 22 rfl M9 1 (r := ⟨3, V.hi, intC d.hi⟩) rfl (.int .i64 0) 8 Tryz.underlying22 info3 rfl (by decide) k10 (.int .i64 h) 3 (by simp [boxes]) rfl H2.out rfl rfl (fun a13 n14 c15 w16 M12 => ?_)
            refine ⟨⟨lS1_of av n0 cap M12 (fun n hn => by simp [hn]), .inr fun _ => lS2_of M12⟩, ?_⟩
            simp only [Act.put, List.setIfInBounds_toArray, List.set_cons_zero, List.set_cons_succ]
            refine wpAnyK_all1 (i := 24) (by kernel_rfl) ?_
            refine wpOp_buildI (d := some 50) rfl M12 m rfl (fun k18 w19 M17 => ?_)
            refine ⟨⟨lS1_of av n0 cap M17 (fun n hn => by simp [hn]), .inr fun _ => lS2_of M17⟩, ?_⟩
            simp only [Act.put, List.setIfInBounds_toArray, List.set_cons_zero, List.set_cons_succ]
            refine wpAnyK_all1 (i := 25) (by kernel_rfl) ?_
            refine wpOp_append (d := some 51) 22 rfl M17 2 (r := ⟨3, V.ma, intC d.ma⟩) rfl (.int .i64 0) 8 Tryz.underlying22 info3 rfl (by decide) k18 (.int .i64 m) 3 (by simp [boxes]) rfl H3.out rfl rfl (fun a21 n22 c23 w24 M20 => ?_)
            refine ⟨⟨lS1_of av n0 cap M20 (fun n hn => by simp [hn]), .inr fun _ => lS2_of M20⟩, ?_⟩
            simp only [Act.put, List.setIfInBounds_toArray, List.set_cons_zero, List.set_cons_succ]
            refine wpAnyK_all1 (i := 26) (by kernel_rfl) (wpOp_ran2 (some 52) rfl rfl rfl (run_nil1 _ ⟨X, 0, none⟩ rfl) ⟨⟨lS1_of av n0 cap M20 (fun n hn => by simp [hn]), .inr id⟩, ?_⟩)
            simp only [Act.put, List.setIfInBounds_toArray, List.set_cons_zero, List.set_cons_succ]
            refine wpAnyK_all1 (i := 27) (by kernel_rfl) (wpOp_ran2 (some 53) rfl rfl rfl (run_field97 _ X 0 (by omega) rfl) ⟨⟨lS1_of av n0 cap M20 (fun n hn => by simp [hn]), .inr id⟩, ?_⟩)
            simp only [Act.put, List.setIfInBounds_toArray, List.set_cons_zero, List.set_cons_succ]
            refine wpAnyK_all1 (i := 28) (by kernel_rfl) (wpOp_storeX (d := none) rfl M20 (by simp) 0 _ _ _ _ rfl rfl rfl (fun w26 M25 => ⟨⟨lS1_of av n0 cap M25 (fun n hn => by simp [hn]), .inl rfl⟩, ?_⟩))
            simp only [List.setIfInBounds_toArray, List.set_cons_zero] at M25
            simp only [Act.put, List.setIfInBounds_toArray, List.set_cons_zero, List.set_cons_succ]
            refine wpAnyK_all1 (i := 29) (by kernel_rfl) (wpOp_ran2 (some 54) rfl rfl rfl (run_nil1 _ ⟨X, 0, none⟩ rfl) ⟨⟨lS1_of av n0 cap M25 (fun n hn => by simp [hn]), .inr id⟩, ?_⟩)
            simp only [Act.put, List.setIfInBounds_toArray, List.set_cons_zero, List.set_cons_succ]
            refine wpAnyK_all1 (i := 30) (by kernel_rfl) (wpOp_ran2 (some 55) rfl rfl rfl (run_field97 _ X 1 (by omega) rfl) ⟨⟨lS1_of av n0 cap M25 (fun n hn => by simp [hn]), .inr id⟩, ?_⟩)
            simp only [Act.put, List.setIfInBounds_toArray, List.set_cons_zero, List.set_cons_succ]
            refine wpAnyK_all1 (i := 31) (by kernel_rfl) (wpOp_storeX (d := none) rfl M25 (by simp) 1 _ _ _ _ rfl rfl rfl (fun w28 M27 => ⟨⟨lS1_of av n0 cap M27 (fun n hn => by simp [hn]), .inl rfl⟩, ?_⟩))
            simp only [List.setIfInBounds_toArray, List.set_cons_zero, List.set_cons_succ] at M27
            simp only [Act.put, List.setIfInBounds_toArray, List.set_cons_zero, List.set_cons_succ]
            refine wpAnyK_all1 (i := 32) (by kernel_rfl) (wpOp_ran2 (some 56) rfl rfl rfl (run_nil1 _ ⟨X, 0, none⟩ rfl) ⟨⟨lS1_of av n0 cap M27 (fun n hn => by simp [hn]), .inr id⟩, ?_⟩)
            simp only [Act.put, List.setIfInBounds_toArray, List.set_cons_zero, List.set_cons_succ]
            refine wpAnyK_all1 (i := 33) (by kernel_rfl) (wpOp_ran2 (some 57) rfl rfl rfl (run_field97 _ X 2 (by omega) rfl) ⟨⟨lS1_of av n0 cap M27 (fun n hn => by simp [hn]), .inr id⟩, ?_⟩)
            simp only [Act.put, List.setIfInBounds_toArray, List.set_cons_zero, List.set_cons_succ]
            refine wpAnyK_all1 (i := 34) (by kernel_rfl) (wpOp_storeX (d := none) rfl M27 (by simp) 2 _ _ _ _ rfl rfl rfl (fun w30 M29 => ⟨⟨lS1_of av n0 cap M29 (fun n hn => by simp [hn]), .inl rfl⟩, ?_⟩))
            simp only [List.setIfInBounds_toArray, List.set_cons_zero, List.set_cons_succ] at M29
            simp only [Act.put, List.setIfInBounds_toArray, List.set_cons_zero, List.set_cons_succ]
            refine wpAnyK_done (by kernel_rfl) ?_ _
            go_wp2_with fail
            go_meet
            exact ⟨_, _, _, _, _, _, _, _, _, _, M29, fun n hn => by simp [hn]⟩
          · refine wpOp_buildI (d := some 50) rfl M9 m rfl (fun k32 w33 M31 => ?_)
            refine ⟨⟨lS1_of av n0 cap M31 (fun n hn => by simp [hn]), .inr fun _ => lS2_of M31⟩, ?_⟩
            simp only [Act.put, List.setIfInBounds_toArray, List.set_cons_zero, List.set_cons_succ]
            refine wpAnyK_all1 (i := 18) (by kernel_rfl) ?_
            refine wpOp_append (d := some 44) 22 rfl M31 1 (r := ⟨3, V.hi, intC d.hi⟩) rfl (.int .i64 0) 8 Tryz.underlying22 info3 rfl (by decide) k10 (.int .i64 h) 3 (by simp [boxes]) rfl H2.out rfl rfl (fun a35 n36 c37 w38 M34 => ?_)
            refine ⟨⟨lS1_of av n0 cap M34 (fun n hn => by simp [hn]), .inr fun _ => lS2_of M34⟩, ?_⟩
            simp only [Act.put, List.setIfInBounds_toArray, List.set_cons_zero, List.set_cons_succ]
            refine wpAnyK_all1 (i := 25) (by kernel_rfl) ?_
            refine wpOp_append (d := some 51) 22 rfl M34 2 (r := ⟨3, V.ma, intC d.ma⟩) rfl (.int .i64 0) 8 Tryz.underlying22 info3 rfl (by decide) k32 (.int .i64 m) 3 (by simp [boxes]) rfl H3.out rfl rfl (fun a40 n41 c42 w43 M39 => ?_)
            refine ⟨⟨lS1_of av n0 cap M39 (fun n hn => by simp [hn]), .inr fun _ => lS2_of M39⟩, ?_⟩
            simp only [Act.put, List.setIfInBounds_toArray, List.set_cons_zero, List.set_cons_succ]
            refine wpAnyK_all1 (i := 26) (by kernel_rfl) (wpOp_ran2 (some 52) rfl rfl rfl (run_nil1 _ ⟨X, 0, none⟩ rfl) ⟨⟨lS1_of av n0 cap M39 (fun n hn => by simp [hn]), .inr id⟩, ?_⟩)
            simp only [Act.put, List.setIfInBounds_toArray, List.set_cons_zero, List.set_cons_succ]
            refine wpAnyK_all1 (i := 27) (by kernel_rfl) (wpOp_ran2 (some 53) rfl rfl rfl (run_field97 _ X 0 (by omega) rfl) ⟨⟨lS1_of av n0 cap M39 (fun n hn => by simp [hn]), .inr id⟩, ?_⟩)
            simp only [Act.put, List.setIfInBounds_toArray, List.set_cons_zero, List.set_cons_succ]
            refine wpAnyK_all1 (i := 28) (by kernel_rfl) (wpOp_storeX (d := none) rfl M39 (by simp) 0 _ _ _ _ rfl rfl rfl (fun w45 M44 => ⟨⟨lS1_of av n0 cap M44 (fun n hn => by simp [hn]), .inl rfl⟩, ?_⟩))
            simp only [List.setIfInBounds_toArray, List.set_cons_zero] at M44
            simp only [Act.put, List.setIfInBounds_toArray, List.set_cons_zero, List.set_cons_succ]
            refine wpAnyK_all1 (i := 29) (by kernel_rfl) (wpOp_ran2 (some 54) rfl rfl rfl (run_nil1 _ ⟨X, 0, none⟩ rfl) ⟨⟨lS1_of av n0 cap M44 (fun n hn => by simp [hn]), .inr id⟩, ?_⟩)
            simp only [Act.put, List.setIfInBounds_toArray, List.set_cons_zero, List.set_cons_succ]
            refine wpAnyK_all1 (i := 30) (by kernel_rfl) (wpOp_ran2 (some 55) rfl rfl rfl (run_field97 _ X 1 (by omega) rfl) ⟨⟨lS1_of av n0 cap M44 (fun n hn => by simp [hn]), .inr id⟩, ?_⟩)
            simp only [Act.put, List.setIfInBounds_toArray, List.set_cons_zero, List.set_cons_succ]
            refine wpAnyK_all1 (i := 31) (by kernel_rfl) (wpOp_storeX (d := none) rfl M44 (by simp) 1 _ _ _ _ rfl rfl rfl (fun w47 M46 => ⟨⟨lS1_of av n0 cap M46 (fun n hn => by simp [hn]), .inl rfl⟩, ?_⟩))
            simp only [List.setIfInBounds_toArray, List.set_cons_zero, List.set_cons_succ] at M46
            simp only [Act.put, List.setIfInBounds_toArray, List.set_cons_zero, List.set_cons_succ]
            refine wpAnyK_all1 (i := 32) (by kernel_rfl) (wpOp_ran2 (some 56) rfl rfl rfl (run_nil1 _ ⟨X, 0, none⟩ rfl) ⟨⟨lS1_of av n0 cap M46 (fun n hn => by simp [hn]), .inr id⟩, ?_⟩)
            simp only [Act.put, List.setIfInBounds_toArray, List.set_cons_zero, List.set_cons_succ]
            refine wpAnyK_all1 (i := 33) (by kernel_rfl) (wpOp_ran2 (some 57) rfl rfl rfl (run_field97 _ X 2 (by omega) rfl) ⟨⟨lS1_of av n0 cap M46 (fun n hn => by simp [hn]), .inr id⟩, ?_⟩)
            simp only [Act.put, List.setIfInBounds_toArray, List.set_cons_zero, List.set_cons_succ]
            refine wpAnyK_all1 (i := 34) (by kernel_rfl) (wpOp_storeX (d := none) rfl M46 (by simp) 2 _ _ _ _ rfl rfl rfl (fun w49 M48 => ⟨⟨lS1_of av n0 cap M48 (fun n hn => by simp [hn]), .inl rfl⟩, ?_⟩))
            simp only [List.setIfInBounds_toArray, List.set_cons_zero, List.set_cons_succ] at M48
            simp only [Act.put, List.setIfInBounds_toArray, List.set_cons_zero, List.set_cons_succ]
            refine wpAnyK_done (by kernel_rfl) ?_ _
            go_wp2_with fail
            go_meet
            exact ⟨_, _, _, _, _, _, _, _, _, _, M48, fun n hn => by simp [hn]⟩
        · refine wpOp_buildI (d := some 50) rfl M4 m rfl (fun k51 w52 M50 => ?_)
          refine ⟨⟨lS1_of av n0 cap M50 (fun n hn => by simp [hn]), .inr fun _ => lS2_of M50⟩, ?_⟩
          simp only [Act.put, List.setIfInBounds_toArray, List.set_cons_zero, List.set_cons_succ]
          refine wpAnyK_all1 (i := 17) (by kernel_rfl) ?_
          refine wpOp_buildI (d := some 43) rfl M50 h rfl (fun k54 w55 M53 => ?_)
          refine ⟨⟨lS1_of av n0 cap M53 (fun n hn => by simp [hn]), .inr fun _ => lS2_of M53⟩, ?_⟩
          simp only [Act.put, List.setIfInBounds_toArray, List.set_cons_zero, List.set_cons_succ]
          refine wpAnyK_all1 (i := 18) (by kernel_rfl) ?_
          refine wpOp_append (d := some 44) 22 rfl M53 1 (r := ⟨3, V.hi, intC d.hi⟩) rfl (.int .i64 0) 8 Tryz.underlying22 info3 rfl (by decide) k54 (.int .i64 h) 3 (by simp [boxes]) rfl H2.out rfl rfl (fun a57 n58 c59 w60 M56 => ?_)
          refine ⟨⟨lS1_of av n0 cap M56 (fun n hn => by simp [hn]), .inr fun _ => lS2_of M56⟩, ?_⟩
          simp only [Act.put, List.setIfInBounds_toArray, List.set_cons_zero, List.set_cons_succ]
          refine wpAnyK_all1 (i := 25) (by kernel_rfl) ?_
          refine wpOp_append (d := some 51) 22 rfl M56 2 (r := ⟨3, V.ma, intC d.ma⟩) rfl (.int .i64 0) 8 Tryz.underlying22 info3 rfl (by decide) k51 (.int .i64 m) 3 (by simp [boxes]) rfl H3.out rfl rfl (fun a62 n63 c64 w65 M61 => ?_)
          refine ⟨⟨lS1_of av n0 cap M61 (fun n hn => by simp [hn]), .inr fun _ => lS2_of M61⟩, ?_⟩
          simp only [Act.put, List.setIfInBounds_toArray, List.set_cons_zero, List.set_cons_succ]
          refine wpAnyK_all1 (i := 26) (by kernel_rfl) (wpOp_ran2 (some 52) rfl rfl rfl (run_nil1 _ ⟨X, 0, none⟩ rfl) ⟨⟨lS1_of av n0 cap M61 (fun n hn => by simp [hn]), .inr id⟩, ?_⟩)
          simp only [Act.put, List.setIfInBounds_toArray, List.set_cons_zero, List.set_cons_succ]
          refine wpAnyK_all1 (i := 27) (by kernel_rfl) (wpOp_ran2 (some 53) rfl rfl rfl (run_field97 _ X 0 (by omega) rfl) ⟨⟨lS1_of av n0 cap M61 (fun n hn => by simp [hn]), .inr id⟩, ?_⟩)
          simp only [Act.put, List.setIfInBounds_toArray, List.set_cons_zero, List.set_cons_succ]
          refine wpAnyK_all1 (i := 28) (by kernel_rfl) (wpOp_storeX (d := none) rfl M61 (by simp) 0 _ _ _ _ rfl rfl rfl (fun w67 M66 => ⟨⟨lS1_of av n0 cap M66 (fun n hn => by simp [hn]), .inl rfl⟩, ?_⟩))
          simp only [List.setIfInBounds_toArray, List.set_cons_zero] at M66
          simp only [Act.put, List.setIfInBounds_toArray, List.set_cons_zero, List.set_cons_succ]
          refine wpAnyK_all1 (i := 29) (by kernel_rfl) (wpOp_ran2 (some 54) rfl rfl rfl (run_nil1 _ ⟨X, 0, none⟩ rfl) ⟨⟨lS1_of av n0 cap M66 (fun n hn => by simp [hn]), .inr id⟩, ?_⟩)
          simp only [Act.put, List.setIfInBounds_toArray, List.set_cons_zero, List.set_cons_succ]
          refine wpAnyK_all1 (i := 30) (by kernel_rfl) (wpOp_ran2 (some 55) rfl rfl rfl (run_field97 _ X 1 (by omega) rfl) ⟨⟨lS1_of av n0 cap M66 (fun n hn => by simp [hn]), .inr id⟩, ?_⟩)
          simp only [Act.put, List.setIfInBounds_toArray, List.set_cons_zero, List.set_cons_succ]
          refine wpAnyK_all1 (i := 31) (by kernel_rfl) (wpOp_storeX (d := none) rfl M66 (by simp) 1 _ _ _ _ rfl rfl rfl (fun w69 M68 => ⟨⟨lS1_of av n0 cap M68 (fun n hn => by simp [hn]), .inl rfl⟩, ?_⟩))
          simp only [List.setIfInBounds_toArray, List.set_cons_zero, List.set_cons_succ] at M68
          simp only [Act.put, List.setIfInBounds_toArray, List.set_cons_zero, List.set_cons_succ]
          refine wpAnyK_all1 (i := 32) (by kernel_rfl) (wpOp_ran2 (some 56) rfl rfl rfl (run_nil1 _ ⟨X, 0, none⟩ rfl) ⟨⟨lS1_of av n0 cap M68 (fun n hn => by simp [hn]), .inr id⟩, ?_⟩)
          simp only [Act.put, List.setIfInBounds_toArray, List.set_cons_zero, List.set_cons_succ]
          refine wpAnyK_all1 (i := 33) (by kernel_rfl) (wpOp_ran2 (some 57) rfl rfl rfl (run_field97 _ X 2 (by omega) rfl) ⟨⟨lS1_of av n0 cap M68 (fun n hn => by simp [hn]), .inr id⟩, ?_⟩)
          simp only [Act.put, List.setIfInBounds_toArray, List.set_cons_zero, List.set_cons_succ]
          refine wpAnyK_all1 (i := 34) (by kernel_rfl) (wpOp_storeX (d := none) rfl M68 (by simp) 2 _ _ _ _ rfl rfl rfl (fun w71 M70 => ⟨⟨lS1_of av n0 cap M70 (fun n hn => by simp [hn]), .inl rfl⟩, ?_⟩))
          simp only [List.setIfInBounds_toArray, List.set_cons_zero, List.set_cons_succ] at M70
          simp only [Act.put, List.setIfInBounds_toArray, List.set_cons_zero, List.set_cons_succ]
          refine wpAnyK_done (by kernel_rfl) ?_ _
          go_wp2_with fail
          go_meet
          exact ⟨_, _, _, _, _, _, _, _, _, _, M70, fun n hn => by simp [hn]⟩
      · refine wpOp_buildI (d := some 43) rfl M1 h rfl (fun k73 w74 M72 => ?_)
        refine ⟨⟨lS1_of av n0 cap M72 (fun n hn => by simp [hn]), .inr fun _ => lS2_of M72⟩, ?_⟩
        simp only [Act.put, List.setIfInBounds_toArray, List.set_cons_zero, List.set_cons_succ]
        refine wpAnyK_all2 (i := 10) (j := 24) (by kernel_rfl) ?_ ?_
        · refine wpOp_append (d := some 36) 22 rfl M72 0 (r := ⟨3, V.lo, intC d.lo⟩) rfl (.int .i64 0) 8 Tryz.underlying22 info3 rfl (by decide) k2 (.int .i64 l) 3 (by simp [boxes]) rfl H1.out rfl rfl (fun a76 n77 c78 w79 M75 => ?_)
          refine ⟨⟨lS1_of av n0 cap M75 (fun n hn => by simp [hn]), .inr fun _ => lS2_of M75⟩, ?_⟩
          simp only [Act.put, List.setIfInBounds_toArray, List.set_cons_zero, List.set_cons_succ]
          refine wpAnyK_all2 (i := 18) (j := 24) (by kernel_rfl) ?_ ?_
          · refine wpOp_append (d := some 44) 22 rfl M75 1 (r := ⟨3, V.hi, intC d.hi⟩) rfl (.int .i64 0) 8 Tryz.underlying22 info3 rfl (by decide) k73 (.int .i64 h) 3 (by simp [boxes]) rfl H2.out rfl rfl (fun a81 n82 c83 w84 M80 => ?_)
            refine ⟨⟨lS1_of av n0 cap M80 (fun n hn => by simp [hn]), .inr fun _ => lS2_of M80⟩, ?_⟩
            simp only [Act.put, List.setIfInBounds_toArray, List.set_cons_zero, List.set_cons_succ]
            refine wpAnyK_all1 (i := 24) (by kernel_rfl) ?_
            refine wpOp_buildI (d := some 50) rfl M80 m rfl (fun k86 w87 M85 => ?_)
            refine ⟨⟨lS1_of av n0 cap M85 (fun n hn => by simp [hn]), .inr fun _ => lS2_of M85⟩, ?_⟩
            simp only [Act.put, List.setIfInBounds_toArray, List.set_cons_zero, List.set_cons_succ]
            refine wpAnyK_all1 (i := 25) (by kernel_rfl) ?_
            refine wpOp_append (d := some 51) 22 rfl M85 2 (r := ⟨3, V.ma, intC d.ma⟩) rfl (.int .i64 0) 8 Tryz.underlying22 info3 rfl (by decide) k86 (.int .i64 m) 3 (by simp [boxes]) rfl H3.out rfl rfl (fun a89 n90 c91 w92 M88 => ?_)
            refine ⟨⟨lS1_of av n0 cap M88 (fun n hn => by simp [hn]), .inr fun _ => lS2_of M88⟩, ?_⟩
            simp only [Act.put, List.setIfInBounds_toArray, List.set_cons_zero, List.set_cons_succ]
            refine wpAnyK_all1 (i := 26) (by kernel_rfl) (wpOp_ran2 (some 52) rfl rfl rfl (run_nil1 _ ⟨X, 0, none⟩ rfl) ⟨⟨lS1_of av n0 cap M88 (fun n hn => by simp [hn]), .inr id⟩, ?_⟩)
            simp only [Act.put, List.setIfInBounds_toArray, List.set_cons_zero, List.set_cons_succ]
            refine wpAnyK_all1 (i := 27) (by kernel_rfl) (wpOp_ran2 (some 53) rfl rfl rfl (run_field97 _ X 0 (by omega) rfl) ⟨⟨lS1_of av n0 cap M88 (fun n hn => by simp [hn]), .inr id⟩, ?_⟩)
            simp only [Act.put, List.setIfInBounds_toArray, List.set_cons_zero, List.set_cons_succ]
            refine wpAnyK_all1 (i := 28) (by kernel_rfl) (wpOp_storeX (d := none) rfl M88 (by simp) 0 _ _ _ _ rfl rfl rfl (fun w94 M93 => ⟨⟨lS1_of av n0 cap M93 (fun n hn => by simp [hn]), .inl rfl⟩, ?_⟩))
            simp only [List.setIfInBounds_toArray, List.set_cons_zero] at M93
            simp only [Act.put, List.setIfInBounds_toArray, List.set_cons_zero, List.set_cons_succ]
            refine wpAnyK_all1 (i := 29) (by kernel_rfl) (wpOp_ran2 (some 54) rfl rfl rfl (run_nil1 _ ⟨X, 0, none⟩ rfl) ⟨⟨lS1_of av n0 cap M93 (fun n hn => by simp [hn]), .inr id⟩, ?_⟩)
            simp only [Act.put, List.setIfInBounds_toArray, List.set_cons_zero, List.set_cons_succ]
            refine wpAnyK_all1 (i := 30) (by kernel_rfl) (wpOp_ran2 (some 55) rfl rfl rfl (run_field97 _ X 1 (by omega) rfl) ⟨⟨lS1_of av n0 cap M93 (fun n hn => by simp [hn]), .inr id⟩, ?_⟩)
            simp only [Act.put, List.setIfInBounds_toArray, List.set_cons_zero, List.set_cons_succ]
            refine wpAnyK_all1 (i := 31) (by kernel_rfl) (wpOp_storeX (d := none) rfl M93 (by simp) 1 _ _ _ _ rfl rfl rfl (fun w96 M95 => ⟨⟨lS1_of av n0 cap M95 (fun n hn => by simp [hn]), .inl rfl⟩, ?_⟩))
            simp only [List.setIfInBounds_toArray, List.set_cons_zero, List.set_cons_succ] at M95
            simp only [Act.put, List.setIfInBounds_toArray, List.set_cons_zero, List.set_cons_succ]
            refine wpAnyK_all1 (i := 32) (by kernel_rfl) (wpOp_ran2 (some 56) rfl rfl rfl (run_nil1 _ ⟨X, 0, none⟩ rfl) ⟨⟨lS1_of av n0 cap M95 (fun n hn => by simp [hn]), .inr id⟩, ?_⟩)
            simp only [Act.put, List.setIfInBounds_toArray, List.set_cons_zero, List.set_cons_succ]
            refine wpAnyK_all1 (i := 33) (by kernel_rfl) (wpOp_ran2 (some 57) rfl rfl rfl (run_field97 _ X 2 (by omega) rfl) ⟨⟨lS1_of av n0 cap M95 (fun n hn => by simp [hn]), .inr id⟩, ?_⟩)
            simp only [Act.put, List.setIfInBounds_toArray, List.set_cons_zero, List.set_cons_succ]
            refine wpAnyK_all1 (i := 34) (by kernel_rfl) (wpOp_storeX (d := none) rfl M95 (by simp) 2 _ _ _ _ rfl rfl rfl (fun w98 M97 => ⟨⟨lS1_of av n0 cap M97 (fun n hn => by simp [hn]), .inl rfl⟩, ?_⟩))
            simp only [List.setIfInBounds_toArray, List.set_cons_zero, List.set_cons_succ] at M97
            simp only [Act.put, List.setIfInBounds_toArray, List.set_cons_zero, List.set_cons_succ]
            refine wpAnyK_done (by kernel_rfl) ?_ _
            go_wp2_with fail
            go_meet
            exact ⟨_, _, _, _, _, _, _, _, _, _, M97, fun n hn => by simp [hn]⟩
          · refine wpOp_buildI (d := some 50) rfl M75 m rfl (fun k100 w101 M99 => ?_)
            refine ⟨⟨lS1_of av n0 cap M99 (fun n hn => by simp [hn]), .inr fun _ => lS2_of M99⟩, ?_⟩
            simp only [Act.put, List.setIfInBounds_toArray, List.set_cons_zero, List.set_cons_succ]
            refine wpAnyK_all1 (i := 18) (by kernel_rfl) ?_
            refine wpOp_append (d := some 44) 22 rfl M99 1 (r := ⟨3, V.hi, intC d.hi⟩) rfl (.int .i64 0) 8 Tryz.underlying22 info3 rfl (by decide) k73 (.int .i64 h) 3 (by simp [boxes]) rfl H2.out rfl rfl (fun a103 n104 c105 w106 M102 => ?_)
            refine ⟨⟨lS1_of av n0 cap M102 (fun n hn => by simp [hn]), .inr fun _ => lS2_of M102⟩, ?_⟩
            simp only [Act.put, List.setIfInBounds_toArray, List.set_cons_zero, List.set_cons_succ]
            refine wpAnyK_all1 (i := 25) (by kernel_rfl) ?_
            refine wpOp_append (d := some 51) 22 rfl M102 2 (r := ⟨3, V.ma, intC d.ma⟩) rfl (.int .i64 0) 8 Tryz.underlying22 info3 rfl (by decide) k100 (.int .i64 m) 3 (by simp [boxes]) rfl H3.out rfl rfl (fun a108 n109 c110 w111 M107 => ?_)
            refine ⟨⟨lS1_of av n0 cap M107 (fun n hn => by simp [hn]), .inr fun _ => lS2_of M107⟩, ?_⟩
            simp only [Act.put, List.setIfInBounds_toArray, List.set_cons_zero, List.set_cons_succ]
            refine wpAnyK_all1 (i := 26) (by kernel_rfl) (wpOp_ran2 (some 52) rfl rfl rfl (run_nil1 _ ⟨X, 0, none⟩ rfl) ⟨⟨lS1_of av n0 cap M107 (fun n hn => by simp [hn]), .inr id⟩, ?_⟩)
            simp only [Act.put, List.setIfInBounds_toArray, List.set_cons_zero, List.set_cons_succ]
            refine wpAnyK_all1 (i := 27) (by kernel_rfl) (wpOp_ran2 (some 53) rfl rfl rfl (run_field97 _ X 0 (by omega) rfl) ⟨⟨lS1_of av n0 cap M107 (fun n hn => by simp [hn]), .inr id⟩, ?_⟩)
            simp only [Act.put, List.setIfInBounds_toArray, List.set_cons_zero, List.set_cons_succ]
            refine wpAnyK_all1 (i := 28) (by kernel_rfl) (wpOp_storeX (d := none) rfl M107 (by simp) 0 _ _ _ _ rfl rfl rfl (fun w113 M112 => ⟨⟨lS1_of av n0 cap M112 (fun n hn => by simp [hn]), .inl rfl⟩, ?_⟩))
            simp only [List.setIfInBounds_toArray, List.set_cons_zero] at M112
            simp only [Act.put, List.setIfInBounds_toArray, List.set_cons_zero, List.set_cons_succ]
            refine wpAnyK_all1 (i := 29) (by kernel_rfl) (wpOp_ran2 (some 54) rfl rfl rfl (run_nil1 _ ⟨X, 0, none⟩ rfl) ⟨⟨lS1_of av n0 cap M112 (fun n hn => by simp [hn]), .inr id⟩, ?_⟩)
            simp only [Act.put, List.setIfInBounds_toArray, List.set_cons_zero, List.set_cons_succ]
            refine wpAnyK_all1 (i := 30) (by kernel_rfl) (wpOp_ran2 (some 55) rfl rfl rfl (run_field97 _ X 1 (by omega) rfl) ⟨⟨lS1_of av n0 cap M112 (fun n hn => by simp [hn]), .inr id⟩, ?_⟩)
            simp only [Act.put, List.setIfInBounds_toArray, List.set_cons_zero, List.set_cons_succ]
            refine wpAnyK_all1 (i := 31) (by kernel_rfl) (wpOp_storeX (d := none) rfl M112 (by simp) 1 _ _ _ _ rfl rfl rfl (fun w115 M114 => ⟨⟨lS1_of av n0 cap M114 (fun n hn => by simp [hn]), .inl rfl⟩, ?_⟩))
            simp only [List.setIfInBounds_toArray, List.set_cons_zero, List.set_cons_succ] at M114
            simp only [Act.put, List.setIfInBounds_toArray, List.set_cons_zero, List.set_cons_succ]
            refine wpAnyK_all1 (i := 32) (by kernel_rfl) (wpOp_ran2 (some 56) rfl rfl rfl (run_nil1 _ ⟨X, 0, none⟩ rfl) ⟨⟨lS1_of av n0 cap M114 (fun n hn => by simp [hn]), .inr id⟩, ?_⟩)
            simp only [Act.put, List.setIfInBounds_toArray, List.set_cons_zero, List.set_cons_succ]
            refine wpAnyK_all1 (i := 33) (by kernel_rfl) (wpOp_ran2 (some 57) rfl rfl rfl (run_field97 _ X 2 (by omega) rfl) ⟨⟨lS1_of av n0 cap M114 (fun n hn => by simp [hn]), .inr id⟩, ?_⟩)
            simp only [Act.put, List.setIfInBounds_toArray, List.set_cons_zero, List.set_cons_succ]
            refine wpAnyK_all1 (i := 34) (by kernel_rfl) (wpOp_storeX (d := none) rfl M114 (by simp) 2 _ _ _ _ rfl rfl rfl (fun w117 M116 => ⟨⟨lS1_of av n0 cap M116 (fun n hn => by simp [hn]), .inl rfl⟩, ?_⟩))
            simp only [List.setIfInBounds_toArray, List.set_cons_zero, List.set_cons_succ] at M116
            simp only [Act.put, List.setIfInBounds_toArray, List.set_cons_zero, List.set_cons_succ]
            refine wpAnyK_done (by kernel_rfl) ?_ _
            go_wp2_with fail
            go_meet
            exact ⟨_, _, _, _, _, _, _, _, _, _, M116, fun n hn => by simp [hn]⟩
        · refine wpOp_buildI (d := some 50) rfl M72 m rfl (fun k119 w120 M118 => ?_)
          refine ⟨⟨lS1_of av n0 cap M118 (fun n hn => by simp [hn]), .inr fun _ => lS2_of M118⟩, ?_⟩
          simp only [Act.put, List.setIfInBounds_toArray, List.set_cons_zero, List.set_cons_succ]
          refine wpAnyK_all1 (i := 10) (by kernel_rfl) ?_
          refine wpOp_append (d := some 36) 22 rfl M118 0 (r := ⟨3, V.lo, intC d.lo⟩) rfl (.int .i64 0) 8 Tryz.underlying22 info3 rfl (by decide) k2 (.int .i64 l) 3 (by simp [boxes]) rfl H1.out rfl rfl (fun a122 n123 c124 w125 M121 => ?_)
          refine ⟨⟨lS1_of av n0 cap M121 (fun n hn => by simp [hn]), .inr fun _ => lS2_of M121⟩, ?_⟩
          simp only [Act.put, List.setIfInBounds_toArray, List.set_cons_zero, List.set_cons_succ]
          refine wpAnyK_all1 (i := 18) (by kernel_rfl) ?_
          refine wpOp_append (d := some 44) 22 rfl M121 1 (r := ⟨3, V.hi, intC d.hi⟩) rfl (.int .i64 0) 8 Tryz.underlying22 info3 rfl (by decide) k73 (.int .i64 h) 3 (by simp [boxes]) rfl H2.out rfl rfl (fun a127 n128 c129 w130 M126 => ?_)
          refine ⟨⟨lS1_of av n0 cap M126 (fun n hn => by simp [hn]), .inr fun _ => lS2_of M126⟩, ?_⟩
          simp only [Act.put, List.setIfInBounds_toArray, List.set_cons_zero, List.set_cons_succ]
          refine wpAnyK_all1 (i := 25) (by kernel_rfl) ?_
          refine wpOp_append (d := some 51) 22 rfl M126 2 (r := ⟨3, V.ma, intC d.ma⟩) rfl (.int .i64 0) 8 Tryz.underlying22 info3 rfl (by decide) k119 (.int .i64 m) 3 (by simp [boxes]) rfl H3.out rfl rfl (fun a132 n133 c134 w135 M131 => ?_)
          refine ⟨⟨lS1_of av n0 cap M131 (fun n hn => by simp [hn]), .inr fun _ => lS2_of M131⟩, ?_⟩
          simp only [Act.put, List.setIfInBounds_toArray, List.set_cons_zero, List.set_cons_succ]
          refine wpAnyK_all1 (i := 26) (by kernel_rfl) (wpOp_ran2 (some 52) rfl rfl rfl (run_nil1 _ ⟨X, 0, none⟩ rfl) ⟨⟨lS1_of av n0 cap M131 (fun n hn => by simp [hn]), .inr id⟩, ?_⟩)
          simp only [Act.put, List.setIfInBounds_toArray, List.set_cons_zero, List.set_cons_succ]
          refine wpAnyK_all1 (i := 27) (by kernel_rfl) (wpOp_ran2 (some 53) rfl rfl rfl (run_field97 _ X 0 (by omega) rfl) ⟨⟨lS1_of av n0 cap M131 (fun n hn => by simp [hn]), .inr id⟩, ?_⟩)
          simp only [Act.put, List.setIfInBounds_toArray, List.set_cons_zero, List.set_cons_succ]
          refine wpAnyK_all1 (i := 28) (by kernel_rfl) (wpOp_storeX (d := none) rfl M131 (by simp) 0 _ _ _ _ rfl rfl rfl (fun w137 M136 => ⟨⟨lS1_of av n0 cap M136 (fun n hn => by simp [hn]), .inl rfl⟩, ?_⟩))
          simp only [List.setIfInBounds_toArray, List.set_cons_zero] at M136
          simp only [Act.put, List.setIfInBounds_toArray, List.set_cons_zero, List.set_cons_succ]
          refine wpAnyK_all1 (i := 29) (by kernel_rfl) (wpOp_ran2 (some 54) rfl rfl rfl (run_nil1 _ ⟨X, 0, none⟩ rfl) ⟨⟨lS1_of av n0 cap M136 (fun n hn => by simp [hn]), .inr id⟩, ?_⟩)
          simp only [Act.put, List.setIfInBounds_toArray, List.set_cons_zero, List.set_cons_succ]
          refine wpAnyK_all1 (i := 30) (by kernel_rfl) (wpOp_ran2 (some 55) rfl rfl rfl (run_field97 _ X 1 (by omega) rfl) ⟨⟨lS1_of av n0 cap M136 (fun n hn => by simp [hn]), .inr id⟩, ?_⟩)
          simp only [Act.put, List.setIfInBounds_toArray, List.set_cons_zero, List.set_cons_succ]
          refine wpAnyK_all1 (i := 31) (by kernel_rfl) (wpOp_storeX (d := none) rfl M136 (by simp) 1 _ _ _ _ rfl rfl rfl (fun w139 M138 => ⟨⟨lS1_of av n0 cap M138 (fun n hn => by simp [hn]), .inl rfl⟩, ?_⟩))
          simp only [List.setIfInBounds_toArray, List.set_cons_zero, List.set_cons_succ] at M138
          simp only [Act.put, List.setIfInBounds_toArray, List.set_cons_zero, List.set_cons_succ]
          refine wpAnyK_all1 (i := 32) (by kernel_rfl) (wpOp_ran2 (some 56) rfl rfl rfl (run_nil1 _ ⟨X, 0, none⟩ rfl) ⟨⟨lS1_of av n0 cap M138 (fun n hn => by simp [hn]), .inr id⟩, ?_⟩)
          simp only [Act.put, List.setIfInBounds_toArray, List.set_cons_zero, List.set_cons_succ]
          refine wpAnyK_all1 (i := 33) (by kernel_rfl) (wpOp_ran2 (some 57) rfl rfl rfl (run_field97 _ X 2 (by omega) rfl) ⟨⟨lS1_of av n0 cap M138 (fun n hn => by simp [hn]), .inr id⟩, ?_⟩)
          simp only [Act.put, List.setIfInBounds_toArray, List.set_cons_zero, List.set_cons_succ]
          refine wpAnyK_all1 (i := 34) (by kernel_rfl) (wpOp_storeX (d := none) rfl M138 (by simp) 2 _ _ _ _ rfl rfl rfl (fun w141 M140 => ⟨⟨lS1_of av n0 cap M140 (fun n hn => by simp [hn]), .inl rfl⟩, ?_⟩))
          simp only [List.setIfInBounds_toArray, List.set_cons_zero, List.set_cons_succ] at M140
          simp only [Act.put, List.setIfInBounds_toArray, List.set_cons_zero, List.set_cons_succ]
          refine wpAnyK_done (by kernel_rfl) ?_ _
          go_wp2_with fail
          go_meet
          exact ⟨_, _, _, _, _, _, _, _, _, _, M140, fun n hn => by simp [hn]⟩
      · refine wpOp_buildI (d := some 50) rfl M1 m rfl (fun k143 w144 M142 => ?_)
        refine ⟨⟨lS1_of av n0 cap M142 (fun n hn => by simp [hn]), .inr fun _ => lS2_of M142⟩, ?_⟩
        simp only [Act.put, List.setIfInBounds_toArray, List.set_cons_zero, List.set_cons_succ]
        refine wpAnyK_all2 (i := 10) (j := 17) (by kernel_rfl) ?_ ?_
        · refine wpOp_append (d := some 36) 22 rfl M142 0 (r := ⟨3, V.lo, intC d.lo⟩) rfl (.int .i64 0) 8 Tryz.underlying22 info3 rfl (by decide) k2 (.int .i64 l) 3 (by simp [boxes]) rfl H1.out rfl rfl (fun a146 n147 c148 w149 M145 => ?_)
          refine ⟨⟨lS1_of av n0 cap M145 (fun n hn => by simp [hn]), .inr fun _ => lS2_of M145⟩, ?_⟩
          simp only [Act.put, List.setIfInBounds_toArray, List.set_cons_zero, List.set_cons_succ]
          refine wpAnyK_all1 (i := 17) (by kernel_rfl) ?_
          refine wpOp_buildI (d := some 43) rfl M145 h rfl (fun k151 w152 M150 => ?_)
          refine ⟨⟨lS1_of av n0 cap M150 (fun n hn => by simp [hn]), .inr fun _ => lS2_of M150⟩, ?_⟩
          simp only [Act.put, List.setIfInBounds_toArray, List.set_cons_zero, List.set_cons_succ]
          refine wpAnyK_all1 (i := 18) (by kernel_rfl) ?_
          refine wpOp_append (d := some 44) 22 rfl M150 1 (r := ⟨3, V.hi, intC d.hi⟩) rfl (.int .i64 0) 8 Tryz.underlying22 info3 rfl (by decide) k151 (.int .i64 h) 3 (by simp [boxes]) rfl H2.out rfl rfl (fun a154 n155 c156 w157 M153 => ?_)
          refine ⟨⟨lS1_of av n0 cap M153 (fun n hn => by simp [hn]), .inr fun _ => lS2_of M153⟩, ?_⟩
          simp only [Act.put, List.setIfInBounds_toArray, List.set_cons_zero, List.set_cons_succ]
          refine wpAnyK_all1 (i := 25) (by kernel_rfl) ?_
          refine wpOp_append (d := some 51) 22 rfl M153 2 (r := ⟨3, V.ma, intC d.ma⟩) rfl (.int .i64 0) 8 Tryz.underlying22 info3 rfl (by decide) k143 (.int .i64 m) 3 (by simp [boxes]) rfl H3.out rfl rfl (fun a159 n160 c161 w162 M158 => ?_)
          refine ⟨⟨lS1_of av n0 cap M158 (fun n hn => by simp [hn]), .inr fun _ => lS2_of M158⟩, ?_⟩
          simp only [Act.put, List.setIfInBounds_toArray, List.set_cons_zero, List.set_cons_succ]
          refine wpAnyK_all1 (i := 26) (by kernel_rfl) (wpOp_ran2 (some 52) rfl rfl rfl (run_nil1 _ ⟨X, 0, none⟩ rfl) ⟨⟨lS1_of av n0 cap M158 (fun n hn => by simp [hn]), .inr id⟩, ?_⟩)
          simp only [Act.put, List.setIfInBounds_toArray, List.set_cons_zero, List.set_cons_succ]
          refine wpAnyK_all1 (i := 27) (by kernel_rfl) (wpOp_ran2 (some 53) rfl rfl rfl (run_field97 _ X 0 (by omega) rfl) ⟨⟨lS1_of av n0 cap M158 (fun n hn => by simp [hn]), .inr id⟩, ?_⟩)
          simp only [Act.put, List.setIfInBounds_toArray, List.set_cons_zero, List.set_cons_succ]
          refine wpAnyK_all1 (i := 28) (by kernel_rfl) (wpOp_storeX (d := none) rfl M158 (by simp) 0 _ _ _ _ rfl rfl rfl (fun w164 M163 => ⟨⟨lS1_of av n0 cap M163 (fun n hn => by simp [hn]), .inl rfl⟩, ?_⟩))
          simp only [List.setIfInBounds_toArray, List.set_cons_zero] at M163
          simp only [Act.put, List.setIfInBounds_toArray, List.set_cons_zero, List.set_cons_succ]
          refine wpAnyK_all1 (i := 29) (by kernel_rfl) (wpOp_ran2 (some 54) rfl rfl rfl (run_nil1 _ ⟨X, 0, none⟩ rfl) ⟨⟨lS1_of av n0 cap M163 (fun n hn => by simp [hn]), .inr id⟩, ?_⟩)
          simp only [Act.put, List.setIfInBounds_toArray, List.set_cons_zero, List.set_cons_succ]
          refine wpAnyK_all1 (i := 30) (by kernel_rfl) (wpOp_ran2 (some 55) rfl rfl rfl (run_field97 _ X 1 (by omega) rfl) ⟨⟨lS1_of av n0 cap M163 (fun n hn => by simp [hn]), .inr id⟩, ?_⟩)
          simp only [Act.put, List.setIfInBounds_toArray, List.set_cons_zero, List.set_cons_succ]
          refine wpAnyK_all1 (i := 31) (by kernel_rfl) (wpOp_storeX (d := none) rfl M163 (by simp) 1 _ _ _ _ rfl rfl rfl (fun w166 M165 => ⟨⟨lS1_of av n0 cap M165 (fun n hn => by simp [hn]), .inl rfl⟩, ?_⟩))
          simp only [List.setIfInBounds_toArray, List.set_cons_zero, List.set_cons_succ] at M165
          simp only [Act.put, List.setIfInBounds_toArray, List.set_cons_zero, List.set_cons_succ]
          refine wpAnyK_all1 (i := 32) (by kernel_rfl) (wpOp_ran2 (some 56) rfl rfl rfl (run_nil1 _ ⟨X, 0, none⟩ rfl) ⟨⟨lS1_of av n0 cap M165 (fun n hn => by simp [hn]), .inr id⟩, ?_⟩)
          simp only [Act.put, List.setIfInBounds_toArray, List.set_cons_zero, List.set_cons_succ]
          refine wpAnyK_all1 (i := 33) (by kernel_rfl) (wpOp_ran2 (some 57) rfl rfl rfl (run_field97 _ X 2 (by omega) rfl) ⟨⟨lS1_of av n0 cap M165 (fun n hn => by simp [hn]), .inr id⟩, ?_⟩)
          simp only [Act.put, List.setIfInBounds_toArray, List.set_cons_zero, List.set_cons_succ]
          refine wpAnyK_all1 (i := 34) (by kernel_rfl) (wpOp_storeX (d := none) rfl M165 (by simp) 2 _ _ _ _ rfl rfl rfl (fun w168 M167 => ⟨⟨lS1_of av n0 cap M167 (fun n hn => by simp [hn]), .inl rfl⟩, ?_⟩))
          simp only [List.setIfInBounds_toArray, List.set_cons_zero, List.set_cons_succ] at M167
          simp only [Act.put, List.setIfInBounds_toArray, List.set_cons_zero, List.set_cons_succ]
          refine wpAnyK_done (by kernel_rfl) ?_ _
          go_wp2_with fail
          go_meet
          exact ⟨_, _, _, _, _, _, _, _, _, _, M167, fun n hn => by simp [hn]⟩
        · refine wpOp_buildI (d := some 43) rfl M142 h rfl (fun k170 w171 M169 => ?_)
          refine ⟨⟨lS1_of av n0 cap M169 (fun n hn => by simp [hn]), .inr fun _ => lS2_of M169⟩, ?_⟩
          simp only [Act.put, List.setIfInBounds_toArray, List.set_cons_zero, List.set_cons_succ]
          refine wpAnyK_all1 (i := 10) (by kernel_rfl) ?_
          refine wpOp_append (d := some 36) 22 rfl M169 0 (r := ⟨3, V.lo, intC d.lo⟩) rfl (.int .i64 0) 8 Tryz.underlying22 info3 rfl (by decide) k2 (.int .i64 l) 3 (by simp [boxes]) rfl H1.out rfl rfl (fun a173 n174 c175 w176 M172 => ?_)
          refine ⟨⟨lS1_of av n0 cap M172 (fun n hn => by simp [hn]), .inr fun _ => lS2_of M172⟩, ?_⟩
          simp only [Act.put, List.setIfInBounds_toArray, List.set_cons_zero, List.set_cons_succ]
          refine wpAnyK_all1 (i := 18) (by kernel_rfl) ?_
          refine wpOp_append (d := some 44) 22 rfl M172 1 (r := ⟨3, V.hi, intC d.hi⟩) rfl (.int .i64 0) 8 Tryz.underlying22 info3 rfl (by decide) k170 (.int .i64 h) 3 (by simp [boxes]) rfl H2.out rfl rfl (fun a178 n179 c180 w181 M177 => ?_)
          refine ⟨⟨lS1_of av n0 cap M177 (fun n hn => by simp [hn]), .inr fun _ => lS2_of M177⟩, ?_⟩
          simp only [Act.put, List.setIfInBounds_toArray, List.set_cons_zero, List.set_cons_succ]
          refine wpAnyK_all1 (i := 25) (by kernel_rfl) ?_
          refine wpOp_append (d := some 51) 22 rfl M177 2 (r := ⟨3, V.ma, intC d.ma⟩) rfl (.int .i64 0) 8 Tryz.underlying22 info3 rfl (by decide) k143 (.int .i64 m) 3 (by simp [boxes]) rfl H3.out rfl rfl (fun a183 n184 c185 w186 M182 => ?_)
          refine ⟨⟨lS1_of av n0 cap M182 (fun n hn => by simp [hn]), .inr fun _ => lS2_of M182⟩, ?_⟩
          simp only [Act.put, List.setIfInBounds_toArray, List.set_cons_zero, List.set_cons_succ]
          refine wpAnyK_all1 (i := 26) (by kernel_rfl) (wpOp_ran2 (some 52) rfl rfl rfl (run_nil1 _ ⟨X, 0, none⟩ rfl) ⟨⟨lS1_of av n0 cap M182 (fun n hn => by simp [hn]), .inr id⟩, ?_⟩)
          simp only [Act.put, List.setIfInBounds_toArray, List.set_cons_zero, List.set_cons_succ]
          refine wpAnyK_all1 (i := 27) (by kernel_rfl) (wpOp_ran2 (some 53) rfl rfl rfl (run_field97 _ X 0 (by omega) rfl) ⟨⟨lS1_of av n0 cap M182 (fun n hn => by simp [hn]), .inr id⟩, ?_⟩)
          simp only [Act.put, List.setIfInBounds_toArray, List.set_cons_zero, List.set_cons_succ]
          refine wpAnyK_all1 (i := 28) (by kernel_rfl) (wpOp_storeX (d := none) rfl M182 (by simp) 0 _ _ _ _ rfl rfl rfl (fun w188 M187 => ⟨⟨lS1_of av n0 cap M187 (fun n hn => by simp [hn]), .inl rfl⟩, ?_⟩))
          simp only [List.setIfInBounds_toArray, List.set_cons_zero] at M187
          simp only [Act.put, List.setIfInBounds_toArray, List.set_cons_zero, List.set_cons_succ]
          refine wpAnyK_all1 (i := 29) (by kernel_rfl) (wpOp_ran2 (some 54) rfl rfl rfl (run_nil1 _ ⟨X, 0, none⟩ rfl) ⟨⟨lS1_of av n0 cap M187 (fun n hn => by simp [hn]), .inr id⟩, ?_⟩)
          simp only [Act.put, List.setIfInBounds_toArray, List.set_cons_zero, List.set_cons_succ]
          refine wpAnyK_all1 (i := 30) (by kernel_rfl) (wpOp_ran2 (some 55) rfl rfl rfl (run_field97 _ X 1 (by omega) rfl) ⟨⟨lS1_of av n0 cap M187 (fun n hn => by simp [hn]), .inr id⟩, ?_⟩)
          simp only [Act.put, List.setIfInBounds_toArray, List.set_cons_zero, List.set_cons_succ]
          refine wpAnyK_all1 (i := 31) (by kernel_rfl) (wpOp_storeX (d := none) rfl M187 (by simp) 1 _ _ _ _ rfl rfl rfl (fun w190 M189 => ⟨⟨lS1_of av n0 cap M189 (fun n hn => by simp [hn]), .inl rfl⟩, ?_⟩))
          simp only [List.setIfInBounds_toArray, List.set_cons_zero, List.set_cons_succ] at M189
          simp only [Act.put, List.setIfInBounds_toArray, List.set_cons_zero, List.set_cons_succ]
          refine wpAnyK_all1 (i := 32) (by kernel_rfl) (wpOp_ran2 (some 56) rfl rfl rfl (run_nil1 _ ⟨X, 0, none⟩ rfl) ⟨⟨lS1_of av n0 cap M189 (fun n hn => by simp [hn]), .inr id⟩, ?_⟩)
          simp only [Act.put, List.setIfInBounds_toArray, List.set_cons_zero, List.set_cons_succ]
          refine wpAnyK_all1 (i := 33) (by kernel_rfl) (wpOp_ran2 (some 57) rfl rfl rfl (run_field97 _ X 2 (by omega) rfl) ⟨⟨lS1_of av n0 cap M189 (fun n hn => by simp [hn]), .inr id⟩, ?_⟩)
          simp only [Act.put, List.setIfInBounds_toArray, List.set_cons_zero, List.set_cons_succ]
          refine wpAnyK_all1 (i := 34) (by kernel_rfl) (wpOp_storeX (d := none) rfl M189 (by simp) 2 _ _ _ _ rfl rfl rfl (fun w192 M191 => ⟨⟨lS1_of av n0 cap M191 (fun n hn => by simp [hn]), .inl rfl⟩, ?_⟩))
          simp only [List.setIfInBounds_toArray, List.set_cons_zero, List.set_cons_succ] at M191
          simp only [Act.put, List.setIfInBounds_toArray, List.set_cons_zero, List.set_cons_succ]
          refine wpAnyK_done (by kernel_rfl) ?_ _
          go_wp2_with fail
          go_meet
          exact ⟨_, _, _, _, _, _, _, _, _, _, M191, fun n hn => by simp [hn]⟩
    · refine wpOp_buildI (d := some 43) rfl M h rfl (fun k194 w195 M193 => ?_)
      refine ⟨⟨lS1_of av n0 cap M193 (fun n hn => by simp [hn]), .inr fun _ => lS2_of M193⟩, ?_⟩
      simp only [Act.put, List.setIfInBounds_toArray, List.set_cons_zero, List.set_cons_succ]
      refine wpAnyK_all2 (i := 9) (j := 24) (by kernel_rfl) ?_ ?_
      · refine wpOp_buildI (d := some 35) rfl M193 l rfl (fun k197 w198 M196 => ?_)
        refine ⟨⟨lS1_of av n0 cap M196 (fun n hn => by simp [hn]), .inr fun _ => lS2_of M196⟩, ?_⟩
        simp only [Act.put, List.setIfInBounds_toArray, List.set_cons_zero, List.set_cons_succ]
        refine wpAnyK_all2 (i := 10) (j := 24) (by kernel_rfl) ?_ ?_
        · refine wpOp_append (d := some 36) 22 rfl M196 0 (r := ⟨3, V.lo, intC d.lo⟩) rfl (.int .i64 0) 8 Tryz.underlying22 info3 rfl (by decide) k197 (.int .i64 l) 3 (by simp [boxes]) rfl H1.out rfl rfl (fun a200 n201 c202 w203 M199 => ?_)
          refine ⟨⟨lS1_of av n0 cap M199 (fun n hn => by simp [hn]), .inr fun _ => lS2_of M199⟩, ?_⟩
          simp only [Act.put, List.setIfInBounds_toArray, List.set_cons_zero, List.set_cons_succ]
          refine wpAnyK_all2 (i := 18) (j := 24) (by kernel_rfl) ?_ ?_
          · refine wpOp_append (d := some 44) 22 rfl M199 1 (r := ⟨3, V.hi, intC d.hi⟩) rfl (.int .i64 0) 8 Tryz.underlying22 info3 rfl (by decide) k194 (.int .i64 h) 3 (by simp [boxes]) rfl H2.out rfl rfl (fun a205 n206 c207 w208 M204 => ?_)
            refine ⟨⟨lS1_of av n0 cap M204 (fun n hn => by simp [hn]), .inr fun _ => lS2_of M204⟩, ?_⟩
            simp only [Act.put, List.setIfInBounds_toArray, List.set_cons_zero, List.set_cons_succ]
            refine wpAnyK_all1 (i := 24) (by kernel_rfl) ?_
            refine wpOp_buildI (d := some 50) rfl M204 m rfl (fun k210 w211 M209 => ?_)
            refine ⟨⟨lS1_of av n0 cap M209 (fun n hn => by simp [hn]), .inr fun _ => lS2_of M209⟩, ?_⟩
            simp only [Act.put, List.setIfInBounds_toArray, List.set_cons_zero, List.set_cons_succ]
            refine wpAnyK_all1 (i := 25) (by kernel_rfl) ?_
            refine wpOp_append (d := some 51) 22 rfl M209 2 (r := ⟨3, V.ma, intC d.ma⟩) rfl (.int .i64 0) 8 Tryz.underlying22 info3 rfl (by decide) k210 (.int .i64 m) 3 (by simp [boxes]) rfl H3.out rfl rfl (fun a213 n214 c215 w216 M212 => ?_)
            refine ⟨⟨lS1_of av n0 cap M212 (fun n hn => by simp [hn]), .inr fun _ => lS2_of M212⟩, ?_⟩
            simp only [Act.put, List.setIfInBounds_toArray, List.set_cons_zero, List.set_cons_succ]
            refine wpAnyK_all1 (i := 26) (by kernel_rfl) (wpOp_ran2 (some 52) rfl rfl rfl (run_nil1 _ ⟨X, 0, none⟩ rfl) ⟨⟨lS1_of av n0 cap M212 (fun n hn => by simp [hn]), .inr id⟩, ?_⟩)
            simp only [Act.put, List.setIfInBounds_toArray, List.set_cons_zero, List.set_cons_succ]
            refine wpAnyK_all1 (i := 27) (by kernel_rfl) (wpOp_ran2 (some 53) rfl rfl rfl (run_field97 _ X 0 (by omega) rfl) ⟨⟨lS1_of av n0 cap M212 (fun n hn => by simp [hn]), .inr id⟩, ?_⟩)
            simp only [Act.put, List.setIfInBounds_toArray, List.set_cons_zero, List.set_cons_succ]
            refine wpAnyK_all1 (i := 28) (by kernel_rfl) (wpOp_storeX (d := none) rfl M212 (by simp) 0 _ _ _ _ rfl rfl rfl (fun w218 M217 => ⟨⟨lS1_of av n0 cap M217 (fun n hn => by simp [hn]), .inl rfl⟩, ?_⟩))
            simp only [List.setIfInBounds_toArray, List.set_cons_zero] at M217
            simp only [Act.put, List.setIfInBounds_toArray, List.set_cons_zero, List.set_cons_succ]
            refine wpAnyK_all1 (i := 29) (by kernel_rfl) (wpOp_ran2 (some 54) rfl rfl rfl (run_nil1 _ ⟨X, 0, none⟩ rfl) ⟨⟨lS1_of av n0 cap M217 (fun n hn => by simp [hn]), .inr id⟩, ?_⟩)
            simp only [Act.put, List.setIfInBounds_toArray, List.set_cons_zero, List.set_cons_succ]
            refine wpAnyK_all1 (i := 30) (by kernel_rfl) (wpOp_ran2 (some 55) rfl rfl rfl (run_field97 _ X 1 (by omega) rfl) ⟨⟨lS1_of av n0 cap M217 (fun n hn => by simp [hn]), .inr id⟩, ?_⟩)
            simp only [Act.put, List.setIfInBounds_toArray, List.set_cons_zero, List.set_cons_succ]
            refine wpAnyK_all1 (i := 31) (by kernel_rfl) (wpOp_storeX (d := none) rfl M217 (by simp) 1 _ _ _ _ rfl rfl rfl (fun w220 M219 => ⟨⟨lS1_of av n0 cap M219 (fun n hn => by simp [hn]), .inl rfl⟩, ?_⟩))
            simp only [List.setIfInBounds_toArray, List.set_cons_zero, List.set_cons_succ] at M219
            simp only [Act.put, List.setIfInBounds_toArray, List.set_cons_zero, List.set_cons_succ]
            refine wpAnyK_all1 (i := 32) (by kernel_rfl) (wpOp_ran2 (some 56) rfl rfl rfl (run_nil1 _ ⟨X, 0, none⟩ rfl) ⟨⟨lS1_of av n0 cap M219 (fun n hn => by simp [hn]), .inr id⟩, ?_⟩)
            simp only [Act.put, List.setIfInBounds_toArray, List.set_cons_zero, List.set_cons_succ]
            refine wpAnyK_all1 (i := 33) (by kernel_rfl) (wpOp_ran2 (some 57) rfl rfl rfl (run_field97 _ X 2 (by omega) rfl) ⟨⟨lS1_of av n0 cap M219 (fun n hn => by simp [hn]), .inr id⟩, ?_⟩)
            simp only [Act.put, List.setIfInBounds_toArray, List.set_cons_zero, List.set_cons_succ]
            refine wpAnyK_all1 (i := 34) (by kernel_rfl) (wpOp_storeX (d := none) rfl M219 (by simp) 2 _ _ _ _ rfl rfl rfl (fun w222 M221 => ⟨⟨lS1_of av n0 cap M221 (fun n hn => by simp [hn]), .inl rfl⟩, ?_⟩))
            simp only [List.setIfInBounds_toArray, List.set_cons_zero, List.set_cons_succ] at M221
            simp only [Act.put, List.setIfInBounds_toArray, List.set_cons_zero, List.set_cons_succ]
            refine wpAnyK_done (by kernel_rfl) ?_ _
            go_wp2_with fail
            go_meet
            exact ⟨_, _, _, _, _, _, _, _, _, _, M221, fun n hn => by simp [hn]⟩
          · refine wpOp_buildI (d := some 50) rfl M199 m rfl (fun k224 w225 M223 => ?_)
            refine ⟨⟨lS1_of av n0 cap M223 (fun n hn => by simp [hn]), .inr fun _ => lS2_of M223⟩, ?_⟩
            simp only [Act.put, List.setIfInBounds_toArray, List.set_cons_zero, List.set_cons_succ]
            refine wpAnyK_all1 (i := 18) (by kernel_rfl) ?_
            refine wpOp_append (d := some 44) 22 rfl M223 1 (r := ⟨3, V.hi, intC d.hi⟩) rfl (.int .i64 0) 8 Tryz.underlying22 info3 rfl (by decide) k194 (.int .i64 h) 3 (by simp [boxes]) rfl H2.out rfl rfl (fun a227 n228 c229 w230 M226 => ?_)
            refine ⟨⟨lS1_of av n0 cap M226 (fun n hn => by simp [hn]), .inr fun _ => lS2_of M226⟩, ?_⟩
            simp only [Act.put, List.setIfInBounds_toArray, List.set_cons_zero, List.set_cons_succ]
            refine wpAnyK_all1 (i := 25) (by kernel_rfl) ?_
            refine wpOp_append (d := some 51) 22 rfl M226 2 (r := ⟨3, V.ma, intC d.ma⟩) rfl (.int .i64 0) 8 Tryz.underlying22 info3 rfl (by decide) k224 (.int .i64 m) 3 (by simp [boxes]) rfl H3.out rfl rfl (fun a232 n233 c234 w235 M231 => ?_)
            refine ⟨⟨lS1_of av n0 cap M231 (fun n hn => by simp [hn]), .inr fun _ => lS2_of M231⟩, ?_⟩
            simp only [Act.put, List.setIfInBounds_toArray, List.set_cons_zero, List.set_cons_succ]
            refine wpAnyK_all1 (i := 26) (by kernel_rfl) (wpOp_ran2 (some 52) rfl rfl rfl (run_nil1 _ ⟨X, 0, none⟩ rfl) ⟨⟨lS1_of av n0 cap M231 (fun n hn => by simp [hn]), .inr id⟩, ?_⟩)
            simp only [Act.put, List.setIfInBounds_toArray, List.set_cons_zero, List.set_cons_succ]
            refine wpAnyK_all1 (i := 27) (by kernel_rfl) (wpOp_ran2 (some 53) rfl rfl rfl (run_field97 _ X 0 (by omega) rfl) ⟨⟨lS1_of av n0 cap M231 (fun n hn => by simp [hn]), .inr id⟩, ?_⟩)
            simp only [Act.put, List.setIfInBounds_toArray, List.set_cons_zero, List.set_cons_succ]
            refine wpAnyK_all1 (i := 28) (by kernel_rfl) (wpOp_storeX (d := none) rfl M231 (by simp) 0 _ _ _ _ rfl rfl rfl (fun w237 M236 => ⟨⟨lS1_of av n0 cap M236 (fun n hn => by simp [hn]), .inl rfl⟩, ?_⟩))
            simp only [List.setIfInBounds_toArray, List.set_cons_zero] at M236
            simp only [Act.put, List.setIfInBounds_toArray, List.set_cons_zero, List.set_cons_succ]
            refine wpAnyK_all1 (i := 29) (by kernel_rfl) (wpOp_ran2 (some 54) rfl rfl rfl (run_nil1 _ ⟨X, 0, none⟩ rfl) ⟨⟨lS1_of av n0 cap M236 (fun n hn => by simp [hn]), .inr id⟩, ?_⟩)
            simp only [Act.put, List.setIfInBounds_toArray, List.set_cons_zero, List.set_cons_succ]
            refine wpAnyK_all1 (i := 30) (by kernel_rfl) (wpOp_ran2 (some 55) rfl rfl rfl (run_field97 _ X 1 (by omega) rfl) ⟨⟨lS1_of av n0 cap M236 (fun n hn => by simp [hn]), .inr id⟩, ?_⟩)
            simp only [Act.put, List.setIfInBounds_toArray, List.set_cons_zero, List.set_cons_succ]
            refine wpAnyK_all1 (i := 31) (by kernel_rfl) (wpOp_storeX (d := none) rfl M236 (by simp) 1 _ _ _ _ rfl rfl rfl (fun w239 M238 => ⟨⟨lS1_of av n0 cap M238 (fun n hn => by simp [hn]), .inl rfl⟩, ?_⟩))
            simp only [List.setIfInBounds_toArray, List.set_cons_zero, List.set_cons_succ] at M238
            simp only [Act.put, List.setIfInBounds_toArray, List.set_cons_zero, List.set_cons_succ]
            refine wpAnyK_all1 (i := 32) (by kernel_rfl) (wpOp_ran2 (some 56) rfl rfl rfl (run_nil1 _ ⟨X, 0, none⟩ rfl) ⟨⟨lS1_of av n0 cap M238 (fun n hn => by simp [hn]), .inr id⟩, ?_⟩)
            simp only [Act.put, List.setIfInBounds_toArray, List.set_cons_zero, List.set_cons_succ]
            refine wpAnyK_all1 (i := 33) (by kernel_rfl) (wpOp_ran2 (some 57) rfl rfl rfl (run_field97 _ X 2 (by omega) rfl) ⟨⟨lS1_of av n0 cap M238 (fun n hn => by simp [hn]), .inr id⟩, ?_⟩)
            simp only [Act.put, List.setIfInBounds_toArray, List.set_cons_zero, List.set_cons_succ]
            refine wpAnyK_all1 (i := 34) (by kernel_rfl) (wpOp_storeX (d := none) rfl M238 (by simp) 2 _ _ _ _ rfl rfl rfl (fun w241 M240 => ⟨⟨lS1_of av n0 cap M240 (fun n hn => by simp [hn]), .inl rfl⟩, ?_⟩))
            simp only [List.setIfInBounds_toArray, List.set_cons_zero, List.set_cons_succ] at M240
            simp only [Act.put, List.setIfInBounds_toArray, List.set_cons_zero, List.set_cons_succ]
            refine wpAnyK_done (by kernel_rfl) ?_ _
            go_wp2_with fail
            go_meet
            exact ⟨_, _, _, _, _, _, _, _, _, _, M240, fun n hn => by simp [hn]⟩
        · refine wpOp_buildI (d := some 50) rfl M196 m rfl (fun k243 w244 M242 => ?_)
          refine ⟨⟨lS1_of av n0 cap M242 (fun n hn => by simp [hn]), .inr fun _ => lS2_of M242⟩, ?_⟩
          simp only [Act.put, List.setIfInBounds_toArray, List.set_cons_zero, List.set_cons_succ]
          refine wpAnyK_all1 (i := 10) (by kernel_rfl) ?_
          refine wpOp_append (d := some 36) 22 rfl M242 0 (r := ⟨3, V.lo, intC d.lo⟩) rfl (.int .i64 0) 8 Tryz.underlying22 info3 rfl (by decide) k197 (.int .i64 l) 3 (by simp [boxes]) rfl H1.out rfl rfl (fun a246 n247 c248 w249 M245 => ?_)
          refine ⟨⟨lS1_of av n0 cap M245 (fun n hn => by simp [hn]), .inr fun _ => lS2_of M245⟩, ?_⟩
          simp only [Act.put, List.setIfInBounds_toArray, List.set_cons_zero, List.set_cons_succ]
          refine wpAnyK_all1 (i := 18) (by kernel_rfl) ?_
          refine wpOp_append (d := some 44) 22 rfl M245 1 (r := ⟨3, V.hi, intC d.hi⟩) rfl (.int .i64 0) 8 Tryz.underlying22 info3 rfl (by decide) k194 (.int .i64 h) 3 (by simp [boxes]) rfl H2.out rfl rfl (fun a251 n252 c253 w254 M250 => ?_)
          refine ⟨⟨lS1_of av n0 cap M250 (fun n hn => by simp [hn]), .inr fun _ => lS2_of M250⟩, ?_⟩
          simp only [Act.put, List.setIfInBounds_toArray, List.set_cons_zero, List.set_cons_succ]
          refine wpAnyK_all1 (i := 25) (by kernel_rfl) ?_
          refine wpOp_append (d := some 51) 22 rfl M250 2 (r := ⟨3, V.ma, intC d.ma⟩) rfl (.int .i64 0) 8 Tryz.underlying22 info3 rfl (by decide) k243 (.int .i64 m) 3 (by simp [boxes]) rfl H3.out rfl rfl (fun a256 n257 c258 w259 M255 => ?_)
          refine ⟨⟨lS1_of av n0 cap M255 (fun n hn => by simp [hn]), .inr fun _ => lS2_of M255⟩, ?_⟩
          simp only [Act.put, List.setIfInBounds_toArray, List.set_cons_zero, List.set_cons_succ]
          refine wpAnyK_all1 (i := 26) (by kernel_rfl) (wpOp_ran2 (some 52) rfl rfl rfl (run_nil1 _ ⟨X, 0, none⟩ rfl) ⟨⟨lS1_of av n0 cap M255 (fun n hn => by simp [hn]), .inr id⟩, ?_⟩)
          simp only [Act.put, List.setIfInBounds_toArray, List.set_cons_zero, List.set_cons_succ]
          refine wpAnyK_all1 (i := 27) (by kernel_rfl) (wpOp_ran2 (some 53) rfl rfl rfl (run_field97 _ X 0 (by omega) rfl) ⟨⟨lS1_of av n0 cap M255 (fun n hn => by simp [hn]), .inr id⟩, ?_⟩)
          simp only [Act.put, List.setIfInBounds_toArray, List.set_cons_zero, List.set_cons_succ]
          refine wpAnyK_all1 (i := 28) (by kernel_rfl) (wpOp_storeX (d := none) rfl M255 (by simp) 0 _ _ _ _ rfl rfl rfl (fun w261 M260 => ⟨⟨lS1_of av n0 cap M260 (fun n hn => by simp [hn]), .inl rfl⟩, ?_⟩))
          simp only [List.setIfInBounds_toArray, List.set_cons_zero] at M260
          simp only [Act.put, List.setIfInBounds_toArray, List.set_cons_zero, List.set_cons_succ]
          refine wpAnyK_all1 (i := 29) (by kernel_rfl) (wpOp_ran2 (some 54) rfl rfl rfl (run_nil1 _ ⟨X, 0, none⟩ rfl) ⟨⟨lS1_of av n0 cap M260 (fun n hn => by simp [hn]), .inr id⟩, ?_⟩)
          simp only [Act.put, List.setIfInBounds_toArray, List.set_cons_zero, List.set_cons_succ]
          refine wpAnyK_all1 (i := 30) (by kernel_rfl) (wpOp_ran2 (some 55) rfl rfl rfl (run_field97 _ X 1 (by omega) rfl) ⟨⟨lS1_of av n0 cap M260 (fun n hn => by simp [hn]), .inr id⟩, ?_⟩)
          simp only [Act.put, List.setIfInBounds_toArray, List.set_cons_zero, List.set_cons_succ]
          refine wpAnyK_all1 (i := 31) (by kernel_rfl) (wpOp_storeX (d := none) rfl M260 (by simp) 1 _ _ _ _ rfl rfl rfl (fun w263 M262 => ⟨⟨lS1_of av n0 cap M262 (fun n hn => by simp [hn]), .inl rfl⟩, ?_⟩))
          simp only [List.setIfInBounds_toArray, List.set_cons_zero, List.set_cons_succ] at M262
          simp only [Act.put, List.setIfInBounds_toArray, List.set_cons_zero, List.set_cons_succ]
          refine wpAnyK_all1 (i := 32) (by kernel_rfl) (wpOp_ran2 (some 56) rfl rfl rfl (run_nil1 _ ⟨X, 0, none⟩ rfl) ⟨⟨lS1_of av n0 cap M262 (fun n hn => by simp [hn]), .inr id⟩, ?_⟩)
          simp only [Act.put, List.setIfInBounds_toArray, List.set_cons_zero, List.set_cons_succ]
          refine wpAnyK_all1 (i := 33) (by kernel_rfl) (wpOp_ran2 (some 57) rfl rfl rfl (run_field97 _ X 2 (by omega) rfl) ⟨⟨lS1_of av n0 cap M262 (fun n hn => by simp [hn]), .inr id⟩, ?_⟩)
          simp only [Act.put, List.setIfInBounds_toArray, List.set_cons_zero, List.set_cons_succ]
          refine wpAnyK_all1 (i := 34) (by kernel_rfl) (wpOp_storeX (d := none) rfl M262 (by simp) 2 _ _ _ _ rfl rfl rfl (fun w265 M264 => ⟨⟨lS1_of av n0 cap M264 (fun n hn => by simp [hn]), .inl rfl⟩, ?_⟩))
          simp only [List.setIfInBounds_toArray, List.set_cons_zero, List.set_cons_succ] at M264
          simp only [Act.put, List.setIfInBounds_toArray, List.set_cons_zero, List.set_cons_succ]
          refine wpAnyK_done (by kernel_rfl) ?_ _
          go_wp2_with fail
          go_meet
          exact ⟨_, _, _, _, _, _, _, _, _, _, M264, fun n hn => by simp [hn]⟩
      · refine wpOp_buildI (d := some 50) rfl M193 m rfl (fun k267 w268 M266 => ?_)
        refine ⟨⟨lS1_of av n0 cap M266 (fun n hn => by simp [hn]), .inr fun _ => lS2_of M266⟩, ?_⟩
        simp only [Act.put, List.setIfInBounds_toArray, List.set_cons_zero, List.set_cons_succ]
        refine wpAnyK_all1 (i := 9) (by kernel_rfl) ?_
        refine wpOp_buildI (d := some 35) rfl M266 l rfl (fun k270 w271 M269 => ?_)
        refine ⟨⟨lS1_of av n0 cap M269 (fun n hn => by simp [hn]), .inr fun _ => lS2_of M269⟩, ?_⟩
        simp only [Act.put, List.setIfInBounds_toArray, List.set_cons_zero, List.set_cons_succ]
        refine wpAnyK_all1 (i := 10) (by kernel_rfl) ?_
        refine wpOp_append (d := some 36) 22 rfl M269 0 (r := ⟨3, V.lo, intC d.lo⟩) rfl (.int .i64 0) 8 Tryz.underlying22 info3 rfl (by decide) k270 (.int .i64 l) 3 (by simp [boxes]) rfl H1.out rfl rfl (fun a273 n274 c275 w276 M272 => ?_)
        refine ⟨⟨lS1_of av n0 cap M272 (fun n hn => by simp [hn]), .inr fun _ => lS2_of M272⟩, ?_⟩
        simp only [Act.put, List.setIfInBounds_toArray, List.set_cons_zero, List.set_cons_succ]
        refine wpAnyK_all1 (i := 18) (by kernel_rfl) ?_
        refine wpOp_append (d := some 44) 22 rfl M272 1 (r := ⟨3, V.hi, intC d.hi⟩) rfl (.int .i64 0) 8 Tryz.underlying22 info3 rfl (by decide) k194 (.int .i64 h) 3 (by simp [boxes]) rfl H2.out rfl rfl (fun a278 n279 c280 w281 M277 => ?_)
        refine ⟨⟨lS1_of av n0 cap M277 (fun n hn => by simp [hn]), .inr fun _ => lS2_of M277⟩, ?_⟩
        simp only [Act.put, List.setIfInBounds_toArray, List.set_cons_zero, List.set_cons_succ]
        refine wpAnyK_all1 (i := 25) (by kernel_rfl) ?_
        refine wpOp_append (d := some 51) 22 rfl M277 2 (r := ⟨3, V.ma, intC d.ma⟩) rfl (.int .i64 0) 8 Tryz.underlying22 info3 rfl (by decide) k267 (.int .i64 m) 3 (by simp [boxes]) rfl H3.out rfl rfl (fun a283 n284 c285 w286 M282 => ?_)
        refine ⟨⟨lS1_of av n0 cap M282 (fun n hn => by simp [hn]), .inr fun _ => lS2_of M282⟩, ?_⟩
        simp only [Act.put, List.setIfInBounds_toArray, List.set_cons_zero, List.set_cons_succ]
        refine wpAnyK_all1 (i := 26) (by kernel_rfl) (wpOp_ran2 (some 52) rfl rfl rfl (run_nil1 _ ⟨X, 0, none⟩ rfl) ⟨⟨lS1_of av n0 cap M282 (fun n hn => by simp [hn]), .inr id⟩, ?_⟩)
        simp only [Act.put, List.setIfInBounds_toArray, List.set_cons_zero, List.set_cons_succ]
        refine wpAnyK_all1 (i := 27) (by kernel_rfl) (wpOp_ran2 (some 53) rfl rfl rfl (run_field97 _ X 0 (by omega) rfl) ⟨⟨lS1_of av n0 cap M282 (fun n hn => by simp [hn]), .inr id⟩, ?_⟩)
        simp only [Act.put, List.setIfInBounds_toArray, List.set_cons_zero, List.set_cons_succ]
        refine wpAnyK_all1 (i := 28) (by kernel_rfl) (wpOp_storeX (d := none) rfl M282 (by simp) 0 _ _ _ _ rfl rfl rfl (fun w288 M287 => ⟨⟨lS1_of av n0 cap M287 (fun n hn => by simp [hn]), .inl rfl⟩, ?_⟩))
        simp only [List.setIfInBounds_toArray, List.set_cons_zero] at M287
        simp only [Act.put, List.setIfInBounds_toArray, List.set_cons_zero, List.set_cons_succ]
        refine wpAnyK_all1 (i := 29) (by kernel_rfl) (wpOp_ran2 (some 54) rfl rfl rfl (run_nil1 _ ⟨X, 0, none⟩ rfl) ⟨⟨lS1_of av n0 cap M287 (fun n hn => by simp [hn]), .inr id⟩, ?_⟩)
        simp only [Act.put, List.setIfInBounds_toArray, List.set_cons_zero, List.set_cons_succ]
        refine wpAnyK_all1 (i := 30) (by kernel_rfl) (wpOp_ran2 (some 55) rfl rfl rfl (run_field97 _ X 1 (by omega) rfl) ⟨⟨lS1_of av n0 cap M287 (fun n hn => by simp [hn]), .inr id⟩, ?_⟩)
        simp only [Act.put, List.setIfInBounds_toArray, List.set_cons_zero, List.set_cons_succ]
        refine wpAnyK_all1 (i := 31) (by kernel_rfl) (wpOp_storeX (d := none) rfl M287 (by simp) 1 _ _ _ _ rfl rfl rfl (fun w290 M289 => ⟨⟨lS1_of av n0 cap M289 (fun n hn => by simp [hn]), .inl rfl⟩, ?_⟩))
        simp only [List.setIfInBounds_toArray, List.set_cons_zero, List.set_cons_succ] at M289
        simp only [Act.put, List.setIfInBounds_toArray, List.set_cons_zero, List.set_cons_succ]
        refine wpAnyK_all1 (i := 32) (by kernel_rfl) (wpOp_ran2 (some 56) rfl rfl rfl (run_nil1 _ ⟨X, 0, none⟩ rfl) ⟨⟨lS1_of av n0 cap M289 (fun n hn => by simp [hn]), .inr id⟩, ?_⟩)
        simp only [Act.put, List.setIfInBounds_toArray, List.set_cons_zero, List.set_cons_succ]
        refine wpAnyK_all1 (i := 33) (by kernel_rfl) (wpOp_ran2 (some 57) rfl rfl rfl (run_field97 _ X 2 (by omega) rfl) ⟨⟨lS1_of av n0 cap M289 (fun n hn => by simp [hn]), .inr id⟩, ?_⟩)
        simp only [Act.put, List.setIfInBounds_toArray, List.set_cons_zero, List.set_cons_succ]
        refine wpAnyK_all1 (i := 34) (by kernel_rfl) (wpOp_storeX (d := none) rfl M289 (by simp) 2 _ _ _ _ rfl rfl rfl (fun w292 M291 => ⟨⟨lS1_of av n0 cap M291 (fun n hn => by simp [hn]), .inl rfl⟩, ?_⟩))
        simp only [List.setIfInBounds_toArray, List.set_cons_zero, List.set_cons_succ] at M291
        simp only [Act.put, List.setIfInBounds_toArray, List.set_cons_zero, List.set_cons_succ]
        refine wpAnyK_done (by kernel_rfl) ?_ _
        go_wp2_with fail
        go_meet
        exact ⟨_, _, _, _, _, _, _, _, _, _, M291, fun n hn => by simp [hn]⟩
    · refine wpOp_buildI (d := some 50) rfl M m rfl (fun k294 w295 M293 => ?_)
      refine ⟨⟨lS1_of av n0 cap M293 (fun n hn => by simp [hn]), .inr fun _ => lS2_of M293⟩, ?_⟩
      simp only [Act.put, List.setIfInBounds_toArray, List.set_cons_zero, List.set_cons_succ]
      refine wpAnyK_all2 (i := 9) (j := 17) (by kernel_rfl) ?_ ?_
      · refine wpOp_buildI (d := some 35) rfl M293 l rfl (fun k297 w298 M296 => ?_)
        refine ⟨⟨lS1_of av n0 cap M296 (fun n hn => by simp [hn]), .inr fun _ => lS2_of M296⟩, ?_⟩
        simp only [Act.put, List.setIfInBounds_toArray, List.set_cons_zero, List.set_cons_succ]
        refine wpAnyK_all2 (i := 10) (j := 17) (by kernel_rfl) ?_ ?_
        · refine wpOp_append (d := some 36) 22 rfl M296 0 (r := ⟨3, V.lo, intC d.lo⟩) rfl (.int .i64 0) 8 Tryz.underlying22 info3 rfl (by decide) k297 (.int .i64 l) 3 (by simp [boxes]) rfl H1.out rfl rfl (fun a300 n301 c302 w303 M299 => ?_)
          refine ⟨⟨lS1_of av n0 cap M299 (fun n hn => by simp [hn]), .inr fun _ => lS2_of M299⟩, ?_⟩
          simp only [Act.put, List.setIfInBounds_toArray, List.set_cons_zero, List.set_cons_succ]
          refine wpAnyK_all1 (i := 17) (by kernel_rfl) ?_
          refine wpOp_buildI (d := some 43) rfl M299 h rfl (fun k305 w306 M304 => ?_)
          refine ⟨⟨lS1_of av n0 cap M304 (fun n hn => by simp [hn]), .inr fun _ => lS2_of M304⟩, ?_⟩
          simp only [Act.put, List.setIfInBounds_toArray, List.set_cons_zero, List.set_cons_succ]
          refine wpAnyK_all1 (i := 18) (by kernel_rfl) ?_
          refine wpOp_append (d := some 44) 22 rfl M304 1 (r := ⟨3, V.hi, intC d.hi⟩) rfl (.int .i64 0) 8 Tryz.underlying22 info3 rfl (by decide) k305 (.int .i64 h) 3 (by simp [boxes]) rfl H2.out rfl rfl (fun a308 n309 c310 w311 M307 => ?_)
          refine ⟨⟨lS1_of av n0 cap M307 (fun n hn => by simp [hn]), .inr fun _ => lS2_of M307⟩, ?_⟩
          simp only [Act.put, List.setIfInBounds_toArray, List.set_cons_zero, List.set_cons_succ]
          refine wpAnyK_all1 (i := 25) (by kernel_rfl) ?_
          refine wpOp_append (d := some 51) 22 rfl M307 2 (r := ⟨3, V.ma, intC d.ma⟩) rfl (.int .i64 0) 8 Tryz.underlying22 info3 rfl (by decide) k294 (.int .i64 m) 3 (by simp [boxes]) rfl H3.out rfl rfl (fun a313 n314 c315 w316 M312 => ?_)
          refine ⟨⟨lS1_of av n0 cap M312 (fun n hn => by simp [hn]), .inr fun _ => lS2_of M312⟩, ?_⟩
          simp only [Act.put, List.setIfInBounds_toArray, List.set_cons_zero, List.set_cons_succ]
          refine wpAnyK_all1 (i := 26) (by kernel_rfl) (wpOp_ran2 (some 52) rfl rfl rfl (run_nil1 _ ⟨X, 0, none⟩ rfl) ⟨⟨lS1_of av n0 cap M312 (fun n hn => by simp [hn]), .inr id⟩, ?_⟩)
          simp only [Act.put, List.setIfInBounds_toArray, List.set_cons_zero, List.set_cons_succ]
          refine wpAnyK_all1 (i := 27) (by kernel_rfl) (wpOp_ran2 (some 53) rfl rfl rfl (run_field97 _ X 0 (by omega) rfl) ⟨⟨lS1_of av n0 cap M312 (fun n hn => by simp [hn]), .inr id⟩, ?_⟩)
          simp only [Act.put, List.setIfInBounds_toArray, List.set_cons_zero, List.set_cons_succ]
          refine wpAnyK_all1 (i := 28) (by kernel_rfl) (wpOp_storeX (d := none) rfl M312 (by simp) 0 _ _ _ _ rfl rfl rfl (fun w318 M317 => ⟨⟨lS1_of av n0 cap M317 (fun n hn => by simp [hn]), .inl rfl⟩, ?_⟩))
          simp only [List.setIfInBounds_toArray, List.set_cons_zero] at M317
          simp only [Act.put, List.setIfInBounds_toArray, List.set_cons_zero, List.set_cons_succ]
          refine wpAnyK_all1 (i := 29) (by kernel_rfl) (wpOp_ran2 (some 54) rfl rfl rfl (run_nil1 _ ⟨X, 0, none⟩ rfl) ⟨⟨lS1_of av n0 cap M317 (fun n hn => by simp [hn]), .inr id⟩, ?_⟩)
          simp only [Act.put, List.setIfInBounds_toArray, List.set_cons_zero, List.set_cons_succ]
          refine wpAnyK_all1 (i := 30) (by kernel_rfl) (wpOp_ran2 (some 55) rfl rfl rfl (run_field97 _ X 1 (by omega) rfl) ⟨⟨lS1_of av n0 cap M317 (fun n hn => by simp [hn]), .inr id⟩, ?_⟩)
          simp only [Act.put, List.setIfInBounds_toArray, List.set_cons_zero, List.set_cons_succ]
          refine wpAnyK_all1 (i := 31) (by kernel_rfl) (wpOp_storeX (d := none) rfl M317 (by simp) 1 _ _ _ _ rfl rfl rfl (fun w320 M319 => ⟨⟨lS1_of av n0 cap M319 (fun n hn => by simp [hn]), .inl rfl⟩, ?_⟩))
          simp only [List.setIfInBounds_toArray, List.set_cons_zero, List.set_cons_succ] at M319
          simp only [Act.put, List.setIfInBounds_toArray, List.set_cons_zero, List.set_cons_succ]
          refine wpAnyK_all1 (i := 32) (by kernel_rfl) (wpOp_ran2 (some 56) rfl rfl rfl (run_nil1 _ ⟨X, 0, none⟩ rfl) ⟨⟨lS1_of av n0 cap M319 (fun n hn => by simp [hn]), .inr id⟩, ?_⟩)
          simp only [Act.put, List.setIfInBounds_toArray, List.set_cons_zero, List.set_cons_succ]
          refine wpAnyK_all1 (i := 33) (by kernel_rfl) (wpOp_ran2 (some 57) rfl rfl rfl (run_field97 _ X 2 (by omega) rfl) ⟨⟨lS1_of av n0 cap M319 (fun n hn => by simp [hn]), .inr id⟩, ?_⟩)
          simp only [Act.put, List.setIfInBounds_toArray, List.set_cons_zero, List.set_cons_succ]
          refine wpAnyK_all1 (i := 34) (by kernel_rfl) (wpOp_storeX (d := none) rfl M319 (by simp) 2 _ _ _ _ rfl rfl rfl (fun w322 M321 => ⟨⟨lS1_of av n0 cap M321 (fun n hn => by simp [hn]), .inl rfl⟩, ?_⟩))
          simp only [List.setIfInBounds_toArray, List.set_cons_zero, List.set_cons_succ] at M321
          simp only [Act.put, List.setIfInBounds_toArray, List.set_cons_zero, List.set_cons_succ]
          refine wpAnyK_done (by kernel_rfl) ?_ _
          go_wp2_with fail
          go_meet
          exact ⟨_, _, _, _, _, _, _, _, _, _, M321, fun n hn => by simp [hn]⟩
        · refine wpOp_buildI (d := some 43) rfl M296 h rfl (fun k324 w325 M323 => ?_)
          refine ⟨⟨lS1_of av n0 cap M323 (fun n hn => by simp [hn]), .inr fun _ => lS2_of M323⟩, ?_⟩
          simp only [Act.put, List.setIfInBounds_toArray, List.set_cons_zero, List.set_cons_succ]
          refine wpAnyK_all1 (i := 10) (by kernel_rfl) ?_
          refine wpOp_append (d := some 36) 22 rfl M323 0 (r := ⟨3, V.lo, intC d.lo⟩) rfl (.int .i64 0) 8 Tryz.underlying22 info3 rfl (by decide) k297 (.int .i64 l) 3 (by simp [boxes]) rfl H1.out rfl rfl (fun a327 n328 c329 w330 M326 => ?_)
          refine ⟨⟨lS1_of av n0 cap M326 (fun n hn => by simp [hn]), .inr fun _ => lS2_of M326⟩, ?_⟩
          simp only [Act.put, List.setIfInBounds_toArray, List.set_cons_zero, List.set_cons_succ]
          refine wpAnyK_all1 (i := 18) (by kernel_rfl) ?_
          refine wpOp_append (d := some 44) 22 rfl M326 1 (r := ⟨3, V.hi, intC d.hi⟩) rfl (.int .i64 0) 8 Tryz.underlying22 info3 rfl (by decide) k324 (.int .i64 h) 3 (by simp [boxes]) rfl H2.out rfl rfl (fun a332 n333 c334 w335 M331 => ?_)
          refine ⟨⟨lS1_of av n0 cap M331 (fun n hn => by simp [hn]), .inr fun _ => lS2_of M331⟩, ?_⟩
          simp only [Act.put, List.setIfInBounds_toArray, List.set_cons_zero, List.set_cons_succ]
          refine wpAnyK_all1 (i := 25) (by kernel_rfl) ?_
          refine wpOp_append (d := some 51) 22 rfl M331 2 (r := ⟨3, V.ma, intC d.ma⟩) rfl (.int .i64 0) 8 Tryz.underlying22 info3 rfl (by decide) k294 (.int .i64 m) 3 (by simp [boxes]) rfl H3.out rfl rfl (fun a337 n338 c339 w340 M336 => ?_)
          refine ⟨⟨lS1_of av n0 cap M336 (fun n hn => by simp [hn]), .inr fun _ => lS2_of M336⟩, ?_⟩
          simp only [Act.put, List.setIfInBounds_toArray, List.set_cons_zero, List.set_cons_succ]
          refine wpAnyK_all1 (i := 26) (by kernel_rfl) (wpOp_ran2 (some 52) rfl rfl rfl (run_nil1 _ ⟨X, 0, none⟩ rfl) ⟨⟨lS1_of av n0 cap M336 (fun n hn => by simp [hn]), .inr id⟩, ?_⟩)
          simp only [Act.put, List.setIfInBounds_toArray, List.set_cons_zero, List.set_cons_succ]
          refine wpAnyK_all1 (i := 27) (by kernel_rfl) (wpOp_ran2 (some 53) rfl rfl rfl (run_field97 _ X 0 (by omega) rfl) ⟨⟨lS1_of av n0 cap M336 (fun n hn => by simp [hn]), .inr id⟩, ?_⟩)
          simp only [Act.put, List.setIfInBounds_toArray, List.set_cons_zero, List.set_cons_succ]
          refine wpAnyK_all1 (i := 28) (by kernel_rfl) (wpOp_storeX (d := none) rfl M336 (by simp) 0 _ _ _ _ rfl rfl rfl (fun w342 M341 => ⟨⟨lS1_of av n0 cap M341 (fun n hn => by simp [hn]), .inl rfl⟩, ?_⟩))
          simp only [List.setIfInBounds_toArray, List.set_cons_zero] at M341
          simp only [Act.put, List.setIfInBounds_toArray, List.set_cons_zero, List.set_cons_succ]
          refine wpAnyK_all1 (i := 29) (by kernel_rfl) (wpOp_ran2 (some 54) rfl rfl rfl (run_nil1 _ ⟨X, 0, none⟩ rfl) ⟨⟨lS1_of av n0 cap M341 (fun n hn => by simp [hn]), .inr id⟩, ?_⟩)
          simp only [Act.put, List.setIfInBounds_toArray, List.set_cons_zero, List.set_cons_succ]
          refine wpAnyK_all1 (i := 30) (by kernel_rfl) (wpOp_ran2 (some 55) rfl rfl rfl (run_field97 _ X 1 (by omega) rfl) ⟨⟨lS1_of av n0 cap M341 (fun n hn => by simp [hn]), .inr id⟩, ?_⟩)
          simp only [Act.put, List.setIfInBounds_toArray, List.set_cons_zero, List.set_cons_succ]
          refine wpAnyK_all1 (i := 31) (by kernel_rfl) (wpOp_storeX (d := none) rfl M341 (by simp) 1 _ _ _ _ rfl rfl rfl (fun w344 M343 => ⟨⟨lS1_of av n0 cap M343 (fun n hn => by simp [hn]), .inl rfl⟩, ?_⟩))
          simp only [List.setIfInBounds_toArray, List.set_cons_zero, List.set_cons_succ] at M343
          simp only [Act.put, List.setIfInBounds_toArray, List.set_cons_zero, List.set_cons_succ]
          refine wpAnyK_all1 (i := 32) (by kernel_rfl) (wpOp_ran2 (some 56) rfl rfl rfl (run_nil1 _ ⟨X, 0, none⟩ rfl) ⟨⟨lS1_of av n0 cap M343 (fun n hn => by simp [hn]), .inr id⟩, ?_⟩)
          simp only [Act.put, List.setIfInBounds_toArray, List.set_cons_zero, List.set_cons_succ]
          refine wpAnyK_all1 (i := 33) (by kernel_rfl) (wpOp_ran2 (some 57) rfl rfl rfl (run_field97 _ X 2 (by omega) rfl) ⟨⟨lS1_of av n0 cap M343 (fun n hn => by simp [hn]), .inr id⟩, ?_⟩)
          simp only [Act.put, List.setIfInBounds_toArray, List.set_cons_zero, List.set_cons_succ]
          refine wpAnyK_all1 (i := 34) (by kernel_rfl) (wpOp_storeX (d := none) rfl M343 (by simp) 2 _ _ _ _ rfl rfl rfl (fun w346 M345 => ⟨⟨lS1_of av n0 cap M345 (fun n hn => by simp [hn]), .inl rfl⟩, ?_⟩))
          simp only [List.setIfInBounds_toArray, List.set_cons_zero, List.set_cons_succ] at M345
          simp only [Act.put, List.setIfInBounds_toArray, List.set_cons_zero, List.set_cons_succ]
          refine wpAnyK_done (by kernel_rfl) ?_ _
          go_wp2_with fail
          go_meet
          exact ⟨_, _, _, _, _, _, _, _, _, _, M345, fun n hn => by simp [hn]⟩
      · refine wpOp_buildI (d := some 43) rfl M293 h rfl (fun k348 w349 M347 => ?_)
        refine ⟨⟨lS1_of av n0 cap M347 (fun n hn => by simp [hn]), .inr fun _ => lS2_of M347⟩, ?_⟩
        simp only [Act.put, List.setIfInBounds_toArray, List.set_cons_zero, List.set_cons_succ]
        refine wpAnyK_all1 (i := 9) (by kernel_rfl) ?_
        refine wpOp_buildI (d := some 35) rfl M347 l rfl (fun k351 w352 M350 => ?_)
        refine ⟨⟨lS1_of av n0 cap M350 (fun n hn => by simp [hn]), .inr fun _ => lS2_of M350⟩, ?_⟩
        simp only [Act.put, List.setIfInBounds_toArray, List.set_cons_zero, List.set_cons_succ]
        refine wpAnyK_all1 (i := 10) (by kernel_rfl) ?_
        refine wpOp_append (d := some 36) 22 rfl M350 0 (r := ⟨3, V.lo, intC d.lo⟩) rfl (.int .i64 0) 8 Tryz.underlying22 info3 rfl (by decide) k351 (.int .i64 l) 3 (by simp [boxes]) rfl H1.out rfl rfl (fun a354 n355 c356 w357 M353 => ?_)
        refine ⟨⟨lS1_of av n0 cap M353 (fun n hn => by simp [hn]), .inr fun _ => lS2_of M353⟩, ?_⟩
        simp only [Act.put, List.setIfInBounds_toArray, List.set_cons_zero, List.set_cons_succ]
        refine wpAnyK_all1 (i := 18) (by kernel_rfl) ?_
        refine wpOp_append (d := some 44) 22 rfl M353 1 (r := ⟨3, V.hi, intC d.hi⟩) rfl (.int .i64 0) 8 Tryz.underlying22 info3 rfl (by decide) k348 (.int .i64 h) 3 (by simp [boxes]) rfl H2.out rfl rfl (fun a359 n360 c361 w362 M358 => ?_)
        refine ⟨⟨lS1_of av n0 cap M358 (fun n hn => by simp [hn]), .inr fun _ => lS2_of M358⟩, ?_⟩
        simp only [Act.put, List.setIfInBounds_toArray, List.set_cons_zero, List.set_cons_succ]
        refine wpAnyK_all1 (i := 25) (by kernel_rfl) ?_
        refine wpOp_append (d := some 51) 22 rfl M358 2 (r := ⟨3, V.ma, intC d.ma⟩) rfl (.int .i64 0) 8 Tryz.underlying22 info3 rfl (by decide) k294 (.int .i64 m) 3 (by simp [boxes]) rfl H3.out rfl rfl (fun a364 n365 c366 w367 M363 => ?_)
        refine ⟨⟨lS1_of av n0 cap M363 (fun n hn => by simp [hn]), .inr fun _ => lS2_of M363⟩, ?_⟩
        simp only [Act.put, List.setIfInBounds_toArray, List.set_cons_zero, List.set_cons_succ]
        refine wpAnyK_all1 (i := 26) (by kernel_rfl) (wpOp_ran2 (some 52) rfl rfl rfl (run_nil1 _ ⟨X, 0, none⟩ rfl) ⟨⟨lS1_of av n0 cap M363 (fun n hn => by simp [hn]), .inr id⟩, ?_⟩)
        simp only [Act.put, List.setIfInBounds_toArray, List.set_cons_zero, List.set_cons_succ]
        refine wpAnyK_all1 (i := 27) (by kernel_rfl) (wpOp_ran2 (some 53) rfl rfl rfl (run_field97 _ X 0 (by omega) rfl) ⟨⟨lS1_of av n0 cap M363 (fun n hn => by simp [hn]), .inr id⟩, ?_⟩)
        simp only [Act.put, List.setIfInBounds_toArray, List.set_cons_zero, List.set_cons_succ]
        refine wpAnyK_all1 (i := 28) (by kernel_rfl) (wpOp_storeX (d := none) rfl M363 (by simp) 0 _ _ _ _ rfl rfl rfl (fun w369 M368 => ⟨⟨lS1_of av n0 cap M368 (fun n hn => by simp [hn]), .inl rfl⟩, ?_⟩))
        simp only [List.setIfInBounds_toArray, List.set_cons_zero] at M368
        simp only [Act.put, List.setIfInBounds_toArray, List.set_cons_zero, List.set_cons_succ]
        refine wpAnyK_all1 (i := 29) (by kernel_rfl) (wpOp_ran2 (some 54) rfl rfl rfl (run_nil1 _ ⟨X, 0, none⟩ rfl) ⟨⟨lS1_of av n0 cap M368 (fun n hn => by simp [hn]), .inr id⟩, ?_⟩)
        simp only [Act.put, List.setIfInBounds_toArray, List.set_cons_zero, List.set_cons_succ]
        refine wpAnyK_all1 (i := 30) (by kernel_rfl) (wpOp_ran2 (some 55) rfl rfl rfl (run_field97 _ X 1 (by omega) rfl) ⟨⟨lS1_of av n0 cap M368 (fun n hn => by simp [hn]), .inr id⟩, ?_⟩)
        simp only [Act.put, List.setIfInBounds_toArray, List.set_cons_zero, List.set_cons_succ]
        refine wpAnyK_all1 (i := 31) (by kernel_rfl) (wpOp_storeX (d := none) rfl M368 (by simp) 1 _ _ _ _ rfl rfl rfl (fun w371 M370 => ⟨⟨lS1_of av n0 cap M370 (fun n hn => by simp [hn]), .inl rfl⟩, ?_⟩))
        simp only [List.setIfInBounds_toArray, List.set_cons_zero, List.set_cons_succ] at M370
        simp only [Act.put, List.setIfInBounds_toArray, List.set_cons_zero, List.set_cons_succ]
        refine wpAnyK_all1 (i := 32) (by kernel_rfl) (wpOp_ran2 (some 56) rfl rfl rfl (run_nil1 _ ⟨X, 0, none⟩ rfl) ⟨⟨lS1_of av n0 cap M370 (fun n hn => by simp [hn]), .inr id⟩, ?_⟩)
        simp only [Act.put, List.setIfInBounds_toArray, List.set_cons_zero, List.set_cons_succ]
        refine wpAnyK_all1 (i := 33) (by kernel_rfl) (wpOp_ran2 (some 57) rfl rfl rfl (run_field97 _ X 2 (by omega) rfl) ⟨⟨lS1_of av n0 cap M370 (fun n hn => by simp [hn]), .inr id⟩, ?_⟩)
        simp only [Act.put, List.setIfInBounds_toArray, List.set_cons_zero, List.set_cons_succ]
        refine wpAnyK_all1 (i := 34) (by kernel_rfl) (wpOp_storeX (d := none) rfl M370 (by simp) 2 _ _ _ _ rfl rfl rfl (fun w373 M372 => ⟨⟨lS1_of av n0 cap M372 (fun n hn => by simp [hn]), .inl rfl⟩, ?_⟩))
        simp only [List.setIfInBounds_toArray, List.set_cons_zero, List.set_cons_succ] at M372
        simp only [Act.put, List.setIfInBounds_toArray, List.set_cons_zero, List.set_cons_succ]
        refine wpAnyK_done (by kernel_rfl) ?_ _
        go_wp2_with fail
        go_meet
        exact ⟨_, _, _, _, _, _, _, _, _, _, M372, fun n hn => by simp [hn]⟩
  case rest =>
    obtain ⟨a1, c1, a2, c2, a3, c3, n1, n2, n3, Ns, M4, hNs⟩ := hcut
    have HM4 := Lib.hid M4
    have HN4 := Lib.hid hNs
    clear M4 hNs
    go_wp2_with fail
    go_cut [] (fun wx => Rel5 w base X d V extra l h m av n0 cap wx)
    case first =>
      have M := HM4.out.drew
      have hNs := HN4.out
      refine wp_region_K2 (LS1 w X l h) (LS3 X V.fo V.la) T5 21 #[false, false, false, false, false, false, false, false, false, false, false, false, false, false, false, false, false, false, false, false, false] (by kernel_rfl) (by kernel_rfl) (by kernel_rfl) ?_
      refine wpAnyK_take1 (i := 0) (some 58) (v := (.pointer (some ⟨X, 0, none⟩))) rfl rfl (by kernel_rfl) (by kernel_rfl) (by kernel_rfl) (fun _ _ _ h => h) (.inl ⟨by rfl, fun w' hw' => run_load1 85 _ ⟨w.heap.size, 0, none⟩ _ (by simp) rfl hw'.1⟩) (lS1_of av n0 cap M (fun n hn => by have := hNs n hn; simp [this])) ?_
      simp only [Act.put, List.setIfInBounds_toArray, List.set_cons_zero, List.set_cons_succ]
      refine wpAnyK_take1 (i := 1) (some 59) (v := (.pointer (some ⟨X, 0, none⟩))) rfl rfl (by kernel_rfl) (by kernel_rfl) (by kernel_rfl) (fun _ _ _ h => h) (.inl ⟨by rfl, fun w' hw' => run_load1 85 _ ⟨w.heap.size, 0, none⟩ _ (by simp) rfl hw'.1⟩) (lS1_of av n0 cap M (fun n hn => by have := hNs n hn; simp [this])) ?_
      simp only [Act.put, List.setIfInBounds_toArray, List.set_cons_zero, List.set_cons_succ]
      refine wpAnyK_take1 (i := 2) (some 60) (v := (.pointer (some ⟨X, 0, none⟩))) rfl rfl (by kernel_rfl) (by kernel_rfl) (by kernel_rfl) (fun _ _ _ h => h) (.inl ⟨by rfl, fun w' hw' => run_load1 85 _ ⟨w.heap.size, 0, none⟩ _ (by simp) rfl hw'.1⟩) (lS1_of av n0 cap M (fun n hn => by have := hNs n hn; simp [this])) ?_
      simp only [Act.put, List.setIfInBounds_toArray, List.set_cons_zero, List.set_cons_succ]
      refine wpAnyK_take1 (i := 9) (some 67) (v := (.pointer (some ⟨X, 0, none⟩))) rfl rfl (by kernel_rfl) (by kernel_rfl) (by kernel_rfl) (fun _ _ _ h => h) (.inl ⟨by rfl, fun w' hw' => run_load1 85 _ ⟨w.heap.size, 0, none⟩ _ (by simp) rfl hw'.1⟩) (lS1_of av n0 cap M (fun n hn => by have := hNs n hn; simp [this])) ?_
      simp only [Act.put, List.setIfInBounds_toArray, List.set_cons_zero, List.set_cons_succ]
      refine wpAnyK_take1 (i := 3) (some 61) (v := (.pointer (some ⟨X, 0, none⟩))) rfl rfl (by kernel_rfl) (by kernel_rfl) (by kernel_rfl) (fun _ _ _ h => h) (.inl ⟨by rfl, fun w' hw' => run_nil1 _ _ rfl⟩) (lS1_of av n0 cap M (fun n hn => by have := hNs n hn; simp [this])) ?_
      simp only [Act.put, List.setIfInBounds_toArray, List.set_cons_zero, List.set_cons_succ]
      refine wpAnyK_take1 (i := 10) (some 68) (v := (.pointer (some ⟨X, 0, none⟩))) rfl rfl (by kernel_rfl) (by kernel_rfl) (by kernel_rfl) (fun _ _ _ h => h) (.inl ⟨by rfl, fun w' hw' => run_nil1 _ _ rfl⟩) (lS1_of av n0 cap M (fun n hn => by have := hNs n hn; simp [this])) ?_
      simp only [Act.put, List.setIfInBounds_toArray, List.set_cons_zero, List.set_cons_succ]
      refine wpAnyK_take1 (i := 4) (some 62) (v := (.pointer (some ⟨X, 3, none⟩))) rfl rfl (by kernel_rfl) (by kernel_rfl) (by kernel_rfl) (fun _ _ _ h => h) (.inl ⟨by rfl, fun w' hw' => run_field97 _ X 3 (by omega) rfl⟩) (lS1_of av n0 cap M (fun n hn => by have := hNs n hn; simp [this])) ?_
      simp only [Act.put, List.setIfInBounds_toArray, List.set_cons_zero, List.set_cons_succ]
      refine wpAnyK_take1 (i := 11) (some 69) (v := (.pointer (some ⟨X, 4, none⟩))) rfl rfl (by kernel_rfl) (by kernel_rfl) (by kernel_rfl) (fun _ _ _ h => h) (.inl ⟨by rfl, fun w' hw' => run_field97 _ X 4 (by omega) rfl⟩) (lS1_of av n0 cap M (fun n hn => by have := hNs n hn; simp [this])) ?_
      simp only [Act.put, List.setIfInBounds_toArray, List.set_cons_zero, List.set_cons_succ]
      refine wpAnyK_take2 (i := 5) (some 63) (v := V.fo) rfl rfl (by kernel_rfl) (by kernel_rfl) (by kernel_rfl) (fun _ _ _ h => h) (by intro j hj; rcases T5_spec hj with rfl | rfl | rfl <;> kernel_rfl) (.inl ⟨by rfl, fun w' hw' => run_load1 94 _ ⟨X, 3, none⟩ _ (by simp) rfl hw'.2.1⟩) ⟨lS1_of av n0 cap M (fun n hn => by have := hNs n hn; simp [this]), lS3_of M⟩ ?_
      simp only [Act.put, List.setIfInBounds_toArray, List.set_cons_zero, List.set_cons_succ]
      refine wpAnyK_take2 (i := 12) (some 70) (v := V.la) rfl rfl (by kernel_rfl) (by kernel_rfl) (by kernel_rfl) (fun _ _ _ h => h) (by intro j hj; rcases T5_spec hj with rfl | rfl | rfl <;> kernel_rfl) (.inl ⟨by rfl, fun w' hw' => run_load1 95 _ ⟨X, 4, none⟩ _ (by simp) rfl hw'.2.2⟩) ⟨lS1_of av n0 cap M (fun n hn => by have := hNs n hn; simp [this]), lS3_of M⟩ ?_
      simp only [Act.put, List.setIfInBounds_toArray, List.set_cons_zero, List.set_cons_succ]
      refine wpAnyK_all2 (i := 6) (j := 13) (by kernel_rfl) ?_ ?_
      · refine wpOp_makeM (d := some 64) rfl M (fun k375 w376 M374 => ?_)
        refine ⟨⟨lS1_of av n0 cap M374 (fun n hn => by have := hNs n hn; simp [this]), .inr fun _ => lS3_of M374⟩, ?_⟩
        simp only [Act.put, List.setIfInBounds_toArray, List.set_cons_zero, List.set_cons_succ]
        refine wpAnyK_all2 (i := 7) (j := 13) (by kernel_rfl) ?_ ?_
        · refine wpOp_buildM (d := some 65) rfl M374 (some k375) rfl (fun k378 w379 M377 => ?_)
          refine ⟨⟨lS1_of av n0 cap M377 (fun n hn => by have := hNs n hn; simp [this]), .inr fun _ => lS3_of M377⟩, ?_⟩
          simp only [Act.put, List.setIfInBounds_toArray, List.set_cons_zero, List.set_cons_succ]
          refine wpAnyK_all2 (i := 8) (j := 13) (by kernel_rfl) ?_ ?_
          · refine wpOp_append (d := some 66) 94 rfl M377 3 (r := ⟨165, V.fo, mapC d.fo⟩) rfl (.map Option.none) 8 Tryz.underlying94 info165 rfl (by decide) k378 (.map (some k375)) 165 (by simp []) rfl H4.out rfl rfl (fun a381 n382 c383 w384 M380 => ?_)
            refine ⟨⟨lS1_of av n0 cap M380 (fun n hn => by have := hNs n hn; simp [this]), .inr fun _ => lS3_of M380⟩, ?_⟩
            simp only [Act.put, List.setIfInBounds_toArray, List.set_cons_zero, List.set_cons_succ]
            refine wpAnyK_all1 (i := 13) (by kernel_rfl) ?_
            refine wpOp_buildB (d := some 71) rfl M380 false rfl (fun k386 w387 M385 => ?_)
            refine ⟨⟨lS1_of av n0 cap M385 (fun n hn => by have := hNs n hn; simp [this]), .inr fun _ => lS3_of M385⟩, ?_⟩
            simp only [Act.put, List.setIfInBounds_toArray, List.set_cons_zero, List.set_cons_succ]
            refine wpAnyK_all1 (i := 14) (by kernel_rfl) ?_
            refine wpOp_append (d := some 72) 95 rfl M385 4 (r := ⟨4, V.la, boolC d.la⟩) rfl (.bool false) 1 Tryz.underlying95 info4b rfl (by decide) k386 (.bool false) 4 (by simp []) rfl H5.out rfl rfl (fun a389 n390 c391 w392 M388 => ?_)
            refine ⟨⟨lS1_of av n0 cap M388 (fun n hn => by have := hNs n hn; simp [this]), .inr fun _ => lS3_of M388⟩, ?_⟩
            simp only [Act.put, List.setIfInBounds_toArray, List.set_cons_zero, List.set_cons_succ]
            refine wpAnyK_all1 (i := 15) (by kernel_rfl) (wpOp_ran2 (some 73) rfl rfl rfl (run_nil1 _ ⟨X, 0, none⟩ rfl) ⟨⟨lS1_of av n0 cap M388 (fun n hn => by have := hNs n hn; simp [this]), .inr id⟩, ?_⟩)
            simp only [Act.put, List.setIfInBounds_toArray, List.set_cons_zero, List.set_cons_succ]
            refine wpAnyK_all1 (i := 16) (by kernel_rfl) (wpOp_ran2 (some 74) rfl rfl rfl (run_field97 _ X 3 (by omega) rfl) ⟨⟨lS1_of av n0 cap M388 (fun n hn => by have := hNs n hn; simp [this]), .inr id⟩, ?_⟩)
            simp only [Act.put, List.setIfInBounds_toArray, List.set_cons_zero, List.set_cons_succ]
            refine wpAnyK_all1 (i := 17) (by kernel_rfl) (wpOp_storeX (d := none) rfl M388 (by simp) 3 _ _ _ _ rfl rfl rfl (fun w394 M393 => ⟨⟨lS1_of av n0 cap M393 (fun n hn => by have := hNs n hn; simp [this]), .inl rfl⟩, ?_⟩))
            simp only [List.setIfInBounds_toArray, List.set_cons_zero, List.set_cons_succ] at M393
            simp only [Act.put, List.setIfInBounds_toArray, List.set_cons_zero, List.set_cons_succ]
            refine wpAnyK_all1 (i := 18) (by kernel_rfl) (wpOp_ran2 (some 75) rfl rfl rfl (run_nil1 _ ⟨X, 0, none⟩ rfl) ⟨⟨lS1_of av n0 cap M393 (fun n hn => by have := hNs n hn; simp [this]), .inr id⟩, ?_⟩)
            simp only [Act.put, List.setIfInBounds_toArray, List.set_cons_zero, List.set_cons_succ]
            refine wpAnyK_all1 (i := 19) (by kernel_rfl) (wpOp_ran2 (some 76) rfl rfl rfl (run_field97 _ X 4 (by omega) rfl) ⟨⟨lS1_of av n0 cap M393 (fun n hn => by have := hNs n hn; simp [this]), .inr id⟩, ?_⟩)
            simp only [Act.put, List.setIfInBounds_toArray, List.set_cons_zero, List.set_cons_succ]
            refine wpAnyK_all1 (i := 20) (by kernel_rfl) (wpOp_storeX (d := none) rfl M393 (by simp) 4 _ _ _ _ rfl rfl rfl (fun w396 M395 => ⟨⟨lS1_of av n0 cap M395 (fun n hn => by have := hNs n hn; simp [this]), .inl rfl⟩, ?_⟩))
            simp only [List.setIfInBounds_toArray, List.set_cons_zero, List.set_cons_succ] at M395
            simp only [Act.put, List.setIfInBounds_toArray, List.set_cons_zero, List.set_cons_succ]
            refine wpAnyK_done (by kernel_rfl) ?_ _
            go_wp2_with fail
            go_meet
            exact ⟨_, _, _, _, _, _, _, _, _, M395, fun n hn => by have := hNs n hn; simp [this]⟩
          · refine wpOp_buildB (d := some 71) rfl M377 false rfl (fun k398 w399 M397 => ?_)
            refine ⟨⟨lS1_of av n0 cap M397 (fun n hn => by have := hNs n hn; simp [this]), .inr fun _ => lS3_of M397⟩, ?_⟩
            simp only [Act.put, List.setIfInBounds_toArray, List.set_cons_zero, List.set_cons_succ]
            refine wpAnyK_all1 (i := 8) (by kernel_rfl) ?_
            refine wpOp_append (d := some 66) 94 rfl M397 3 (r := ⟨165, V.fo, mapC d.fo⟩) rfl (.map Option.none) 8 Tryz.underlying94 info165 rfl (by decide) k378 (.map (some k375)) 165 (by simp []) rfl H4.out rfl rfl (fun a401 n402 c403 w404 M400 => ?_)
            refine ⟨⟨lS1_of av n0 cap M400 (fun n hn => by have := hNs n hn; simp [this]), .inr fun _ => lS3_of M400⟩, ?_⟩
            simp only [Act.put, List.setIfInBounds_toArray, List.set_cons_zero, List.set_cons_succ]
            refine wpAnyK_all1 (i := 14) (by kernel_rfl) ?_
            refine wpOp_append (d := some 72) 95 rfl M400 4 (r := ⟨4, V.la, boolC d.la⟩) rfl (.bool false) 1 Tryz.underlying95 info4b rfl (by decide) k398 (.bool false) 4 (by simp []) rfl H5.out rfl rfl (fun a406 n407 c408 w409 M405 => ?_)
            refine ⟨⟨lS1_of av n0 cap M405 (fun n hn => by have := hNs n hn; simp [this]), .inr fun _ => lS3_of M405⟩, ?_⟩
            simp only [Act.put, List.setIfInBounds_toArray, List.set_cons_zero, List.set_cons_succ]
            refine wpAnyK_all1 (i := 15) (by kernel_rfl) (wpOp_ran2 (some 73) rfl rfl rfl (run_nil1 _ ⟨X, 0, none⟩ rfl) ⟨⟨lS1_of av n0 cap M405 (fun n hn => by have := hNs n hn; simp [this]), .inr id⟩, ?_⟩)
            simp only [Act.put, List.setIfInBounds_toArray, List.set_cons_zero, List.set_cons_succ]
            refine wpAnyK_all1 (i := 16) (by kernel_rfl) (wpOp_ran2 (some 74) rfl rfl rfl (run_field97 _ X 3 (by omega) rfl) ⟨⟨lS1_of av n0 cap M405 (fun n hn => by have := hNs n hn; simp [this]), .inr id⟩, ?_⟩)
            simp only [Act.put, List.setIfInBounds_toArray, List.set_cons_zero, List.set_cons_succ]
            refine wpAnyK_all1 (i := 17) (by kernel_rfl) (wpOp_storeX (d := none) rfl M405 (by simp) 3 _ _ _ _ rfl rfl rfl (fun w411 M410 => ⟨⟨lS1_of av n0 cap M410 (fun n hn => by have := hNs n hn; simp [this]), .inl rfl⟩, ?_⟩))
            simp only [List.setIfInBounds_toArray, List.set_cons_zero, List.set_cons_succ] at M410
            simp only [Act.put, List.setIfInBounds_toArray, List.set_cons_zero, List.set_cons_succ]
            refine wpAnyK_all1 (i := 18) (by kernel_rfl) (wpOp_ran2 (some 75) rfl rfl rfl (run_nil1 _ ⟨X, 0, none⟩ rfl) ⟨⟨lS1_of av n0 cap M410 (fun n hn => by have := hNs n hn; simp [this]), .inr id⟩, ?_⟩)
            simp only [Act.put, List.setIfInBounds_toArray, List.set_cons_zero, List.set_cons_succ]
            refine wpAnyK_all1 (i := 19) (by kernel_rfl) (wpOp_ran2 (some 76) rfl rfl rfl (run_field97 _ X 4 (by omega) rfl) ⟨⟨lS1_of av n0 cap M410 (fun n hn => by have := hNs n hn; simp [this]), .inr id⟩, ?_⟩)
            simp only [Act.put, List.setIfInBounds_toArray, List.set_cons_zero, List.set_cons_succ]
            refine wpAnyK_all1 (i := 20) (by kernel_rfl) (wpOp_storeX (d := none) rfl M410 (by simp) 4 _ _ _ _ rfl rfl rfl (fun w413 M412 => ⟨⟨lS1_of av n0 cap M412 (fun n hn => by have := hNs n hn; simp [this]), .inl rfl⟩, ?_⟩))
            simp only [List.setIfInBounds_toArray, List.set_cons_zero, List.set_cons_succ] at M412
            simp only [Act.put, List.setIfInBounds_toArray, List.set_cons_zero, List.set_cons_succ]
            refine wpAnyK_done (by kernel_rfl) ?_ _
            go_wp2_with fail
            go_meet
            exact ⟨_, _, _, _, _, _, _, _, _, M412, fun n hn => by have := hNs n hn; simp [this]⟩
        · refine wpOp_buildB (d := some 71) rfl M374 false rfl (fun k415 w416 M414 => ?_)
          refine ⟨⟨lS1_of av n0 cap M414 (fun n hn => by have := hNs n hn; simp [this]), .inr fun _ => lS3_of M414⟩, ?_⟩
          simp only [Act.put, List.setIfInBounds_toArray, List.set_cons_zero, List.set_cons_succ]
          refine wpAnyK_all1 (i := 7) (by kernel_rfl) ?_
          refine wpOp_buildM (d := some 65) rfl M414 (some k375) rfl (fun k418 w419 M417 => ?_)
          refine ⟨⟨lS1_of av n0 cap M417 (fun n hn => by have := hNs n hn; simp [this]), .inr fun _ => lS3_of M417⟩, ?_⟩
          simp only [Act.put, List.setIfInBounds_toArray, List.set_cons_zero, List.set_cons_succ]
          refine wpAnyK_all1 (i := 8) (by kernel_rfl) ?_
          refine wpOp_append (d := some 66) 94 rfl M417 3 (r := ⟨165, V.fo, mapC d.fo⟩) rfl (.map Option.none) 8 Tryz.underlying94 info165 rfl (by decide) k418 (.map (some k375)) 165 (by simp []) rfl H4.out rfl rfl (fun a421 n422 c423 w424 M420 => ?_)
          refine ⟨⟨lS1_of av n0 cap M420 (fun n hn => by have := hNs n hn; simp [this]), .inr fun _ => lS3_of M420⟩, ?_⟩
          simp only [Act.put, List.setIfInBounds_toArray, List.set_cons_zero, List.set_cons_succ]
          refine wpAnyK_all1 (i := 14) (by kernel_rfl) ?_
          refine wpOp_append (d := some 72) 95 rfl M420 4 (r := ⟨4, V.la, boolC d.la⟩) rfl (.bool false) 1 Tryz.underlying95 info4b rfl (by decide) k415 (.bool false) 4 (by simp []) rfl H5.out rfl rfl (fun a426 n427 c428 w429 M425 => ?_)
          refine ⟨⟨lS1_of av n0 cap M425 (fun n hn => by have := hNs n hn; simp [this]), .inr fun _ => lS3_of M425⟩, ?_⟩
          simp only [Act.put, List.setIfInBounds_toArray, List.set_cons_zero, List.set_cons_succ]
          refine wpAnyK_all1 (i := 15) (by kernel_rfl) (wpOp_ran2 (some 73) rfl rfl rfl (run_nil1 _ ⟨X, 0, none⟩ rfl) ⟨⟨lS1_of av n0 cap M425 (fun n hn => by have := hNs n hn; simp [this]), .inr id⟩, ?_⟩)
          simp only [Act.put, List.setIfInBounds_toArray, List.set_cons_zero, List.set_cons_succ]
          refine wpAnyK_all1 (i := 16) (by kernel_rfl) (wpOp_ran2 (some 74) rfl rfl rfl (run_field97 _ X 3 (by omega) rfl) ⟨⟨lS1_of av n0 cap M425 (fun n hn => by have := hNs n hn; simp [this]), .inr id⟩, ?_⟩)
          simp only [Act.put, List.setIfInBounds_toArray, List.set_cons_zero, List.set_cons_succ]
          refine wpAnyK_all1 (i := 17) (by kernel_rfl) (wpOp_storeX (d := none) rfl M425 (by simp) 3 _ _ _ _ rfl rfl rfl (fun w431 M430 => ⟨⟨lS1_of av n0 cap M430 (fun n hn => by have := hNs n hn; simp [this]), .inl rfl⟩, ?_⟩))
          simp only [List.setIfInBounds_toArray, List.set_cons_zero, List.set_cons_succ] at M430
          simp only [Act.put, List.setIfInBounds_toArray, List.set_cons_zero, List.set_cons_succ]
          refine wpAnyK_all1 (i := 18) (by kernel_rfl) (wpOp_ran2 (some 75) rfl rfl rfl (run_nil1 _ ⟨X, 0, none⟩ rfl) ⟨⟨lS1_of av n0 cap M430 (fun n hn => by have := hNs n hn; simp [this]), .inr id⟩, ?_⟩)
          simp only [Act.put, List.setIfInBounds_toArray, List.set_cons_zero, List.set_cons_succ]
          refine wpAnyK_all1 (i := 19) (by kernel_rfl) (wpOp_ran2 (some 76) rfl rfl rfl (run_field97 _ X 4 (by omega) rfl) ⟨⟨lS1_of av n0 cap M430 (fun n hn => by have := hNs n hn; simp [this]), .inr id⟩, ?_⟩)
          simp only [Act.put, List.setIfInBounds_toArray, List.set_cons_zero, List.set_cons_succ]
          refine wpAnyK_all1 (i := 20) (by kernel_rfl) (wpOp_storeX (d := none) rfl M430 (by simp) 4 _ _ _ _ rfl rfl rfl (fun w433 M432 => ⟨⟨lS1_of av n0 cap M432 (fun n hn => by have := hNs n hn; simp [this]), .inl rfl⟩, ?_⟩))
          simp only [List.setIfInBounds_toArray, List.set_cons_zero, List.set_cons_succ] at M432
          simp only [Act.put, List.setIfInBounds_toArray, List.set_cons_zero, List.set_cons_succ]
          refine wpAnyK_done (by kernel_rfl) ?_ _
          go_wp2_with fail
          go_meet
          exact ⟨_, _, _, _, _, _, _, _, _, M432, fun n hn => by have := hNs n hn; simp [this]⟩
      · refine wpOp_buildB (d := some 71) rfl M false rfl (fun k435 w436 M434 => ?_)
        refine ⟨⟨lS1_of av n0 cap M434 (fun n hn => by have := hNs n hn; simp [this]), .inr fun _ => lS3_of M434⟩, ?_⟩
        simp only [Act.put, List.setIfInBounds_toArray, List.set_cons_zero, List.set_cons_succ]
        refine wpAnyK_all1 (i := 6) (by kernel_rfl) ?_
        refine wpOp_makeM (d := some 64) rfl M434 (fun k438 w439 M437 => ?_)
        refine ⟨⟨lS1_of av n0 cap M437 (fun n hn => by have := hNs n hn; simp [this]), .inr fun _ => lS3_of M437⟩, ?_⟩
        simp only [Act.put, List.setIfInBounds_toArray, List.set_cons_zero, List.set_cons_succ]
        refine wpAnyK_all1 (i := 7) (by kernel_rfl) ?_
        refine wpOp_buildM (d := some 65) rfl M437 (some k438) rfl (fun k441 w442 M440 => ?_)
        refine ⟨⟨lS1_of av n0 cap M440 (fun n hn => by have := hNs n hn; simp [this]), .inr fun _ => lS3_of M440⟩, ?_⟩
        simp only [Act.put, List.setIfInBounds_toArray, List.set_cons_zero, List.set_cons_succ]
        refine wpAnyK_all1 (i := 8) (by kernel_rfl) ?_
        refine wpOp_append (d := some 66) 94 rfl M440 3 (r := ⟨165, V.fo, mapC d.fo⟩) rfl (.map Option.none) 8 Tryz.underlying94 info165 rfl (by decide) k441 (.map (some k438)) 165 (by simp []) rfl H4.out rfl rfl (fun a444 n445 c446 w447 M443 => ?_)
        refine ⟨⟨lS1_of av n0 cap M443 (fun n hn => by have := hNs n hn; simp [this]), .inr fun _ => lS3_of M443⟩, ?_⟩
        simp only [Act.put, List.setIfInBounds_toArray, List.set_cons_zero, List.set_cons_succ]
        refine wpAnyK_all1 (i := 14) (by kernel_rfl) ?_
        refine wpOp_append (d := some 72) 95 rfl M443 4 (r := ⟨4, V.la, boolC d.la⟩) rfl (.bool false) 1 Tryz.underlying95 info4b rfl (by decide) k435 (.bool false) 4 (by simp []) rfl H5.out rfl rfl (fun a449 n450 c451 w452 M448 => ?_)
        refine ⟨⟨lS1_of av n0 cap M448 (fun n hn => by have := hNs n hn; simp [this]), .inr fun _ => lS3_of M448⟩, ?_⟩
        simp only [Act.put, List.setIfInBounds_toArray, List.set_cons_zero, List.set_cons_succ]
        refine wpAnyK_all1 (i := 15) (by kernel_rfl) (wpOp_ran2 (some 73) rfl rfl rfl (run_nil1 _ ⟨X, 0, none⟩ rfl) ⟨⟨lS1_of av n0 cap M448 (fun n hn => by have := hNs n hn; simp [this]), .inr id⟩, ?_⟩)
        simp only [Act.put, List.setIfInBounds_toArray, List.set_cons_zero, List.set_cons_succ]
        refine wpAnyK_all1 (i := 16) (by kernel_rfl) (wpOp_ran2 (some 74) rfl rfl rfl (run_field97 _ X 3 (by omega) rfl) ⟨⟨lS1_of av n0 cap M448 (fun n hn => by have := hNs n hn; simp [this]), .inr id⟩, ?_⟩)
        simp only [Act.put, List.setIfInBounds_toArray, List.set_cons_zero, List.set_cons_succ]
        refine wpAnyK_all1 (i := 17) (by kernel_rfl) (wpOp_storeX (d := none) rfl M448 (by simp) 3 _ _ _ _ rfl rfl rfl (fun w454 M453 => ⟨⟨lS1_of av n0 cap M453 (fun n hn => by have := hNs n hn; simp [this]), .inl rfl⟩, ?_⟩))
        simp only [List.setIfInBounds_toArray, List.set_cons_zero, List.set_cons_succ] at M453
        simp only [Act.put, List.setIfInBounds_toArray, List.set_cons_zero, List.set_cons_succ]
        refine wpAnyK_all1 (i := 18) (by kernel_rfl) (wpOp_ran2 (some 75) rfl rfl rfl (run_nil1 _ ⟨X, 0, none⟩ rfl) ⟨⟨lS1_of av n0 cap M453 (fun n hn => by have := hNs n hn; simp [this]), .inr id⟩, ?_⟩)
        simp only [Act.put, List.setIfInBounds_toArray, List.set_cons_zero, List.set_cons_succ]
        refine wpAnyK_all1 (i := 19) (by kernel_rfl) (wpOp_ran2 (some 76) rfl rfl rfl (run_field97 _ X 4 (by omega) rfl) ⟨⟨lS1_of av n0 cap M453 (fun n hn => by have := hNs n hn; simp [this]), .inr id⟩, ?_⟩)
        simp only [Act.put, List.setIfInBounds_toArray, List.set_cons_zero, List.set_cons_succ]
        refine wpAnyK_all1 (i := 20) (by kernel_rfl) (wpOp_storeX (d := none) rfl M453 (by simp) 4 _ _ _ _ rfl rfl rfl (fun w456 M455 => ⟨⟨lS1_of av n0 cap M455 (fun n hn => by have := hNs n hn; simp [this]), .inl rfl⟩, ?_⟩))
        simp only [List.setIfInBounds_toArray, List.set_cons_zero, List.set_cons_succ] at M455
        simp only [Act.put, List.setIfInBounds_toArray, List.set_cons_zero, List.set_cons_succ]
        refine wpAnyK_done (by kernel_rfl) ?_ _
        go_wp2_with fail
        go_meet
        exact ⟨_, _, _, _, _, _, _, _, _, M455, fun n hn => by have := hNs n hn; simp [this]⟩
    case rest =>
      obtain ⟨a, n1, c1, hi, ma, fo, la, mm, Ns5, M5, hN5⟩ := hcut
      have hb5 := cell_of_block M5.blk 0
      have ho5 := M5.rows.get (j := 0) rfl
      simp only [List.getElem?_toArray, List.getElem?_cons_zero] at hb5
      obtain ⟨a', c', e'⟩ := ownsRow_slice ho5
      simp only [Value.slice.injEq, List.length_append, intC_len, List.length_cons, List.length_nil] at e'
      obtain ⟨_, rfl, _⟩ := e'
      have hx5 := (M5.news (w.heap.size, #[.pointer (some ⟨X, 0, none⟩)], 85) (hN5 _ (by simp [boxes]))).1
      have hbx := cell_of_block hx5 0
      simp only [List.getElem?_toArray, List.getElem?_cons_zero] at hbx
      have HM5 := Lib.hid M5
      have hlo : (d.lo.length : Int) ≤ 100000 := by unfold SpD.n at hn; omega
      have hlo0 : (0 : Int) ≤ d.lo.length := by omega
      have HL := Lib.hid (leaf_done HS.out HF.out M5)
      rw [show d.lo.length + (0 + 1) = d.lo.length + 1 from rfl] at hb5
      clear M5 ho5 hx5 hN5
      go_wp2_with fail
      exact bodyPost_ret (v := .tuple #[.slice (some ⟨wc.heap.size, 0, none⟩) 1 1, .slice (some ⟨wc.heap.size, 0, none⟩) 1 1, .bool false]) (by simp [results, Tryz.results78, go_sem]) rfl HL.out
end Go.Proofs.YtplbacfjmajeeaaGreatDoor
