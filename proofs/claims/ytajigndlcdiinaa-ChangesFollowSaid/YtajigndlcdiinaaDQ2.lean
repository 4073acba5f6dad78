/- Package edit: Both. Package edit: Past. Package edit: Past, walked. Package edit: the steps of two right changes are there. Package edit: Past and Both of right changes. -/
import Derived.Test.YtajigndlcdiinaaDR8
import Derived.Test.YtajigndlcdiinaaDRa
import Derived.Test.YtajigndlcdiinaaDP2
namespace Go.Proofs.Ytajigndlcdiinaa
open Go.RowKit Go.Shelf
attribute [local go_sem] Oper.semAt_some

def drZ : Dr := ⟨[], 0, 0, ⟨#[]⟩⟩
def Dr.put (d : Dr) (s : ByteArray) : Dr := { d with txt := d.txt ++ s }
def Dr.drop (d : Dr) (long : Int) : Dr := { d with old := d.old + long }
/-- A step of Both. -/
def bothS (d : Dr) (x : Stp) : Dr := if x.ai || x.bi then ((d.put x.ab.new).put x.bb.new).drop x.long else ((d.put x.ab.new).put x.bb.new).keep x.long

def StpOk (x : Stp) : Prop := 0 ≤ x.long ∧ x.long ≤ 20000 ∧ x.ab.new.size ≤ 40000 ∧ x.bb.new.size ≤ 40000

/-- What Both answers, the steps known. -/
def bothE (n : Int) (es fs : List Ed) (xs : List Stp) : Int :=
  if bothFaultv n es fs ≠ 0 then bothFaultv n es fs else if (xs.foldl bothS drZ).close.out.length > 2000 ∨ lenGo n (xs.foldl bothS drZ).close.out > 20000 then 2 else 0
def bothL (n : Int) (es fs : List Ed) (xs : List Stp) : List Ed := if bothE n es fs xs = 0 then (xs.foldl bothS drZ).close.out else []

def BothPost (l : List Ed) (er : Int) (w : World) (e : Ending) (w' : World) : Prop :=
  ∃ v, e = .returned (.tuple #[v, .int .i64 er]) ∧ w'.ownsRow w.heap.size 47 3 v l.length (edC l) ∧ w.grownBy w' none

theorem own_keep {W W' : World} {base e size n : Nat} {v : Value} {xs : List Value} (h : W.ownsRow base e size v n xs) (k : ∀ (b : Nat) (cs : Array Value), W.heap[b]? = some (Obj.cells cs e (0, 0)) → W'.heap[b]? = some (Obj.cells cs e (0, 0))) : W'.ownsRow base e size v n xs := by
  obtain ⟨h1, h3⟩ := h
  refine ⟨h1, ?_⟩
  rcases h3 with h3 | ⟨g', cap, cur, hv, hg, hh, r⟩
  · exact .inl h3
  · exact .inr ⟨g', cap, cur, hv, hg, k _ _ hh, r⟩
theorem Turn.cells {B0 : Nat} {U : TypeId → Bool} {W W' : World} (t : Turn B0 U W W') (b : Nat) (cs : Array Value) (e : TypeId) (he : U e = false) (hb : W.heap[b]? = some (Obj.cells cs e (0, 0))) : W'.heap[b]? = some (Obj.cells cs e (0, 0)) := by
  obtain ⟨row, g, hr⟩ := t
  refine (g.block b (lt_of_block hb) ?_).trans hb
  intro h
  obtain ⟨_, o, ho, hu⟩ := hr b h.symm
  rw [hb] at ho; cases ho
  rw [hu _ _ _ rfl] at he; cases he
theorem DrAt.turn {W W' : World} {base B B0 : Nat} {d : Dr} {ev pv : Value} {ps : List ByteArray} (h : DrAt W base B d ev pv ps) (t : Turn B0 Uu W W') : DrAt W' base B d ev pv ps :=
  ⟨t.cells _ _ _ rfl h.box, own_keep h.eds (fun b cs hb => t.cells b cs _ rfl hb), ⟨own_keep h.prs.row (fun b cs hb => t.cells b cs _ rfl hb), h.prs.full⟩, h.txt⟩
theorem grow_turn {w A B : World} {B0 : Nat} {U : TypeId → Bool} (h : w.grownBy A none) (hB : w.heap.size ≤ B0) (t : Turn B0 U A B) : w.grownBy B none := by
  obtain ⟨row, g, hr⟩ := t
  exact ⟨g.os.trans h.os, g.tape.trans h.tape, g.output.trans h.output, Nat.le_trans h.size g.size, fun k hk hn => (g.block k (Nat.lt_of_lt_of_le hk h.size) (fun e => by have := (hr k e.symm).1; omega)).trans (h.block k hk hn)⟩
theorem DrAt.rows {W : World} {base B : Nat} {d : Dr} {ev pv : Value} {ps : List ByteArray} (h : DrAt W base B d ev pv ps) (k : Nat) (hk : ¬ DrP B ev pv k none) : (k = B ∨ base ≤ k) ∧ ∃ cs t, W.heap[k]? = some (Obj.cells cs t (0, 0)) ∧ Tt t = true := by
  by_cases h1 : k = B
  · subst h1; exact ⟨.inl rfl, _, _, h.box, rfl⟩
  by_cases h2 : some k = ev.ownBlock
  · obtain ⟨hb, c, hc⟩ := ownsRow_block h.eds k h2.symm
    exact ⟨.inr hb, c, _, hc, rfl⟩
  by_cases h3 : some k = pv.ownBlock
  · obtain ⟨hb, c, hc⟩ := ownsRow_block h.prs.row k h3.symm
    exact ⟨.inr hb, c, _, hc, rfl⟩
  exact absurd ⟨h1, h2, h3⟩ hk
theorem DrAt.mv {W W' : World} {base B : Nat} {d : Dr} {ev pv : Value} {ps : List ByteArray} (h : DrAt W base B d ev pv ps) (f : Frm (DrP B ev pv) W W') : Mv Tt W W' :=
  ⟨f.size, fun k o hk ho => by
    refine (f.block k (Array.getElem?_eq_some_iff.1 hk).1 ?_).trans hk
    by_cases hp : DrP B ev pv k none
    · exact hp
    · obtain ⟨_, cs, t, hc, ht⟩ := h.rows k hp
      rw [hk] at hc; cases hc
      rw [ho _ _ _ rfl] at ht; cases ht⟩
theorem DrAt.grow {w W W' : World} {base B : Nat} {d : Dr} {ev pv : Value} {ps : List ByteArray} (h : DrAt W base B d ev pv ps) (f : Frm (DrP B ev pv) W W') (g : w.grownBy W none) (hB : w.heap.size ≤ B) (hb : w.heap.size ≤ base) : w.grownBy W' none :=
  ⟨f.os.trans g.os, f.tape.trans g.tape, f.output.trans g.output, Nat.le_trans g.size f.size, fun k hk hn => by
    refine (f.block k (Nat.lt_of_lt_of_le hk g.size) ?_).trans (g.block k hk hn)
    by_cases hp : DrP B ev pv k none
    · exact hp
    · have := (h.rows k hp).1
      omega⟩
theorem Mv.trans {T : TypeId → Bool} {A B C : World} (h : Mv T A B) (k : Mv T B C) : Mv T A C := ⟨Nat.le_trans h.size k.size, fun i o hi ho => k.same i o (h.same i o hi ho) ho⟩
theorem Mv.grown {T : TypeId → Bool} {A B : World} (g : A.grownBy B none) : Mv T A B := ⟨g.size, fun _ _ hi _ => grow_new g hi⟩

theorem edC_cells : ∀ (l : List Ed), edC l = edCells l
  | [] => by first | rfl | simp [edC, edCells]
  | e :: r => by have := edC_cells r; simp [edC, edCells, this]

/-- How much there can be in a draft. -/
def DrB (d : Dr) (k : Nat) : Prop := d.out.length ≤ k ∧ d.txt.size ≤ 80000 * k ∧ (0 ≤ d.at_ ∧ 0 ≤ d.old) ∧ d.at_ + d.old ≤ 20000 * (k : Int)
theorem DrB.keep {d : Dr} {k : Nat} {long : Int} (h : DrB d k) (hl : 0 ≤ long ∧ long ≤ 20000) : DrB (d.keep long) (k + 1) := by
  obtain ⟨h1, h2, ⟨h3, h4⟩, h5⟩ := h
  unfold Dr.keep
  split
  · exact ⟨by omega, by omega, ⟨h3, h4⟩, by omega⟩
  · unfold Dr.close
    split
    · exact ⟨by simp only; omega, by simp only; omega, ⟨by simp only; omega, h4⟩, by simp only; omega⟩
    · refine ⟨by simp; omega, (by show (0 : Nat) ≤ _; omega), ⟨by simp only; omega, by simp⟩, by simp only; omega⟩
theorem both_step {d : Dr} {x : Stp} {k : Nat} (h : DrB d k) (hx : StpOk x) : DrB (bothS d x) (k + 1) := by
  obtain ⟨h1, h2, ⟨h3, h4⟩, h5⟩ := h
  obtain ⟨x1, x2, x3, x4⟩ := hx
  have ht : ((d.put x.ab.new).put x.bb.new).txt.size = d.txt.size + x.ab.new.size + x.bb.new.size := by simp [Dr.put, ByteArray.size_append]
  unfold bothS
  split
  · exact ⟨by show d.out.length ≤ _; omega, by show ((d.put x.ab.new).put x.bb.new).txt.size ≤ _; rw [ht]; omega, ⟨h3, by show 0 ≤ d.old + x.long; omega⟩, by show d.at_ + (d.old + x.long) ≤ _; omega⟩
  · generalize hd2 : (d.put x.ab.new).put x.bb.new = d2 at ht
    have e1 : d2.out = d.out := by rw [← hd2]; rfl
    have e2 : d2.at_ = d.at_ := by rw [← hd2]; rfl
    have e3 : d2.old = d.old := by rw [← hd2]; rfl
    unfold Dr.keep
    split
    · exact ⟨by rw [e1]; omega, by rw [ht]; omega, ⟨by rw [e2]; exact h3, by rw [e3]; exact h4⟩, by rw [e2, e3]; omega⟩
    · unfold Dr.close
      split
      · exact ⟨by simp only; rw [e1]; omega, by simp only; rw [ht]; omega, ⟨by simp only; rw [e2]; omega, by simp only; rw [e3]; exact h4⟩, by simp only; rw [e2, e3]; omega⟩
      · refine ⟨by simp; rw [e1]; omega, (by show (0 : Nat) ≤ _; omega), ⟨by simp only; rw [e2, e3]; omega, by simp⟩, by simp only; rw [e2, e3]; omega⟩
theorem DrB.mono {d : Dr} {k m : Nat} (h : DrB d k) (hm : k ≤ m) : DrB d m := by
  obtain ⟨h1, h2, h3, h4⟩ := h
  exact ⟨by omega, by omega, h3, by omega⟩
theorem both_bd (xs : List Stp) (h : ∀ x ∈ xs, StpOk x) : ∀ (k : Nat), DrB ((xs.take k).foldl bothS drZ) k
  | 0 => ⟨Nat.le_refl _, (by show (0 : Nat) ≤ _; omega), ⟨by simp [drZ], by simp [drZ]⟩, by simp [drZ]⟩
  | k + 1 => by
    have ih := both_bd xs h k
    by_cases hk : k < xs.length
    · rw [List.take_add_one, List.getElem?_eq_getElem hk]
      simp only [Option.toList, List.foldl_append, List.foldl_cons, List.foldl_nil]
      exact both_step ih (h _ (List.getElem_mem hk))
    · rw [List.take_of_length_le (by omega)]
      rw [List.take_of_length_le (by omega)] at ih
      exact ih.mono (Nat.le_succ _)
/-- What holds between two rounds. -/
structure BothI (w : World) (Bd : Nat) (xs : List Stp) (k : Nat) (W : World) : Prop where
  ex : ∃ ev pv ps, DrAt W w.heap.size Bd ((xs.take k).foldl bothS drZ) ev pv ps ∧ ps.length ≤ 2 * k
  gr : w.grownBy W none
theorem BothI.turn {w W W' : World} {Bd k B0 : Nat} {xs : List Stp} (h : BothI w Bd xs k W) (hB : w.heap.size ≤ B0) (t : Turn B0 Uu W W') : BothI w Bd xs k W' := by
  obtain ⟨⟨ev, pv, ps, hd, hp⟩, g⟩ := h
  exact ⟨⟨ev, pv, ps, hd.turn t, hp⟩, grow_turn g hB t⟩

set_option maxHeartbeats 4000000 in
set_option maxRecDepth 100000 in
theorem both_any (n : Int) (a b : Option Addr) (c1 c2 : Nat) (es fs : List Ed) (xs : List Stp) (w : World) (hl : es.length ≤ 1000000) (hl2 : fs.length ≤ 1000000) (hE : Eds w a es) (hF : Eds w b fs) (hS : EdsSmall es) (hT : EdsSmall fs)
    (hx : bothFaultv n es fs = 0 → Runs (goP es 0) (goP fs 0) n 0 pcZ 0 pcZ 0 xs) (hxs : ∀ x ∈ xs, StpOk x) (hxl : xs.length ≤ 20001) (hout : ∀ e ∈ (xs.foldl bothS drZ).close.out, 0 ≤ e.old ∧ e.old ≤ 20000 ∧ e.new.size ≤ 1099511627776) :
    Calls Try.prog 32 #[.int .i64 n, .slice a es.length c1, .slice b fs.length c2] w (BothPost (bothL n es fs xs) (bothE n es fs xs) w) := by
  obtain ⟨P, hP⟩ : ∃ P, BothPost (bothL n es fs xs) (bothE n es fs xs) w = P := ⟨_, rfl⟩
  rw [hP]
  have HP := Lib.hid hP
  have HX := Lib.hid hx
  have HXS := Lib.hid hxs
  have HOUT := Lib.hid hout
  have HCK := Lib.hid (checkTwo_any n a b c1 c2 es fs w hl hl2 hE hF hS hT)
  have HEF := Lib.hid (And.intro hE hF)
  clear hP hx hxs hE hF hout
  refine (callsIn_wide (n := 3)).1 ?_
  refine callsIn_of_wp_marks Try.func32 rfl trivial ?_ rfl
  simp only [Try.ntmps32, List.size_toArray, List.length_cons, List.length_nil, Nat.reduceAdd, Nat.reduceSub, Array.replicate_succ, Array.replicate_zero, List.push_toArray, List.append_toArray, List.nil_append, List.cons_append]
  gi_wp2
  refine ⟨trivial, callsIn_wide.2 (HCK.out.mono ?_)⟩
  rintro e w1 ⟨rfl, g1⟩
  by_cases h0 : bothFaultv n es fs = 0
  case neg =>
    have ht : (bothFaultv n es fs == 0) = false := by simpa using h0
    have hE := Lib.hid (show bothE n es fs xs = bothFaultv n es fs by rw [bothE, if_pos h0])
    have hL := Lib.hid (show bothL n es fs xs = [] by rw [bothL, hE.out, if_neg h0])
    gi_wp2
    rw [← HP.out, hE.out, hL.out]
    refine ⟨_, by simp [results, Try.results32, go_sem], _, rfl, World.ownsRow_nil _ _ _ _, g1⟩
  rw [h0]
  have hr1 : changeFault n es = 0 := by
    by_cases h1 : changeFault n es = 0
    · exact h1
    · rw [bothFaultv, if_pos h1] at h0; exact h0
  have hr2 : changeFault n fs = 0 := by
    rw [bothFaultv, if_neg (by simp [hr1])] at h0; exact h0
  have HRA := Lib.hid (right_all hr1)
  have HRB := Lib.hid (right_all hr2)
  have HRuns := Lib.hid (HX.out h0)
  have H0 := Lib.hid h0
  clear hr1 hr2 h0
  gi_wp2
  have gb := World.grownBy_alloc w1 (.cells #[.slice none 0 0, .int .i64 0, .int .i64 0, .slice none 0 0] 104) none
  have hbx := heap_alloc_new w1 (.cells #[.slice none 0 0, .int .i64 0, .int .i64 0, .slice none 0 0] 104)
  have hBd : w.heap.size ≤ w1.heap.size := g1.size
  have hBl : w1.heap.size < (w1.alloc (.cells #[.slice none 0 0, .int .i64 0, .int .i64 0, .slice none 0 0] 104)).heap.size := by simp
  have g2 := grownBy_trans g1 gb
  clear gb g1
  generalize w1.alloc (.cells #[.slice none 0 0, .int .i64 0, .int .i64 0, .slice none 0 0] 104) = w2 at hbx hBl g2 ⊢
  generalize w1.heap.size = Bd at hbx hBd hBl ⊢
  refine ⟨trivial, callsIn_wide.2 ((goings_any a c1 es 0 (by omega) w2 HRA.out.2.1 (HEF.out.1.grown g2 (by simp)) HRA.out.2.2.2.1).mono ?_)⟩
  rintro e w3 ⟨rfl, hGA, g3⟩
  have hGAl : w2.heap.size < w3.heap.size := by obtain ⟨C, hb, _⟩ := hGA; exact lt_of_block hb
  gi_wp2
  refine ⟨trivial, callsIn_wide.2 ((goings_any b c2 fs 0 (by omega) w3 HRB.out.2.1 (HEF.out.2.grown (grownBy_trans g2 g3) (by simp)) HRB.out.2.2.2.1).mono ?_)⟩
  rintro e w4 ⟨rfl, hGB, g4⟩
  gi_wp2
  refine ⟨trivial, callsIn_wide.2 ((steps_any n _ _ _ _ _ _ w4).mono ?_)⟩
  rintro e w5 ⟨Ba, Bb, Bn, rfl, ha, hb, hn, g5⟩
  have HBX := Lib.hid (grow_new (grownBy_trans (grownBy_trans g3 g4) g5) hbx)
  have HGr := Lib.hid (grownBy_trans (grownBy_trans (grownBy_trans g2 g3) g4) g5)
  have HSE : Hid (SEnv w5 Ba Bb Bn w2.heap.size w3.heap.size (goP es 0) (goP fs 0) n) := Lib.hid (by
    obtain ⟨CA, hA1, _⟩ := hGA.kept (grownBy_trans g4 g5)
    obtain ⟨CB, hB1, _⟩ := hGB.kept g5
    exact ⟨by simpa [goP] using ha, by simpa [goP] using hb, hn, ⟨CA, hA1, (hGA.kept (grownBy_trans g4 g5)).pcs⟩, ⟨CB, hB1, (hGB.kept g5).pcs⟩⟩)
  have HBd := Lib.hid (And.intro hBd (Nat.lt_of_lt_of_le (Nat.lt_of_lt_of_le (Nat.lt_of_lt_of_le hBl g3.size) g4.size) g5.size))
  clear hbx hBd hBl g2 g3 g4 g5 ha hb hn hGA hGB hGAl
  gi_wp2
  generalize w2.heap.size = GA at HSE ⊢
  generalize w3.heap.size = GB at HSE ⊢
  have H0I : BothI w Bd xs 0 w5 := ⟨⟨.slice none 0 0, .slice none 0 0, [], ⟨HBX.out, World.ownsRow_nil _ _ _ _, ⟨World.ownsRow_nil _ _ _ _, fun p hp => by cases hp⟩, rfl⟩, Nat.le_refl _⟩, HGr.out⟩
  have hws : w.heap.size ≤ w5.heap.size := HGr.out.size
  refine wp_seq (gf := 85) (lb := #[.pointer (some ⟨Ba, 0, none⟩), .pointer (some ⟨Bb, 0, none⟩), .pointer (some ⟨Bn, 0, none⟩)]) rfl (enters_of Try.func85 (by kernel_rfl) rfl) (U := Uu) (T := Tt) (encs := fun x => #[.agg (stpV x)]) (fun x => rfl) (xs := xs)
    (steps1_runs _ Ba Bb Bn GA GB (goP es 0) (goP fs 0) n xs w5 (by have := HRA.out.2.1; simp [goP]; omega) (by have := HRB.out.2.1; simp [goP]; omega) ?okA ?okB (by have := HRA.out.1; omega) HSE.out HRuns.out)
    (BothI w Bd xs) (fun k x a₁ W => ∃ M, BothI w Bd xs k W ∧ W.heap[M]? = some (Obj.cells (stpV x) 112 (0, 0)) ∧ a₁ = { tmps := #[.int .i64 n, .slice a es.length c1, .slice b fs.length c2, undef, undef, undef, .slice none 0 0, .int .i64 0, .int .i64 0, .pointer (some ⟨Bd, 0, none⟩), .pointer (some ⟨M, 0, none⟩), undef, .int .i64 n, .slice a es.length c1, .slice b fs.length c2, .int .i64 0, .int .i64 0, .bool false, undef, .int .i64 n, .slice a es.length c1, .slice (some ⟨GA, 0, none⟩) es.length es.length, .slice b fs.length c2, .slice (some ⟨GB, 0, none⟩) fs.length fs.length, .func (.func 85) #[] #[.pointer (some ⟨Ba, 0, none⟩), .pointer (some ⟨Bb, 0, none⟩), .pointer (some ⟨Bn, 0, none⟩)], .agg (stpV x), undef, undef, undef, undef, undef, undef, undef, undef, undef, undef, undef, undef, undef, undef, undef, undef, undef, undef, undef, undef, undef, undef, undef, undef, undef, undef, undef, undef, undef, undef, undef, undef, undef, undef, undef], defers := [] })
    (fun k A B h t => h.turn hws t) ?hIa H0I ?assign ?body ?done
  case okA =>
    intro p hp
    obtain ⟨e, he, rfl⟩ := List.mem_map.1 hp
    have := HRA.out.2.2.2.1 e he
    refine ⟨?_, ?_, ?_, ?_⟩ <;> (simp only; omega)
  case okB =>
    intro p hp
    obtain ⟨e, he, rfl⟩ := List.mem_map.1 hp
    have := HRB.out.2.2.2.1 e he
    refine ⟨?_, ?_, ?_, ?_⟩ <;> (simp only; omega)
  case hIa =>
    rintro k x a₁ W l o o' ⟨M, hI, hM, rfl⟩ hl ho hc
    refine ⟨M, hI.turn hws (Turn.put o' hl ho hc), ?_, rfl⟩
    refine (World.putObj_heap_other ?_).trans hM
    rintro rfl
    rw [hM] at ho; cases ho; cases hc
  case assign =>
    intro l k x W hx hI
    have HTH := Lib.hid (show (W.alloc (.cells stpZ 112)).there W.heap.size 0 20 from fun j hj => ⟨by
      rw [Nat.zero_add, cell_of_block (heap_alloc_new W (.cells stpZ 112))]
      have : j < stpZ.size := hj
      simp [this], free_of_block (heap_alloc_new W (.cells stpZ 112)) _⟩)
    have HIN := Lib.hid (show (Try.prog.info? 112).map (·.size) = some 20 by kernel_rfl)
    have HM4 := Lib.hid (heap_setCells_all (b := W.heap.size) (t := 112) (stpV x).toList [] stpZ.toList (W.alloc (.cells stpZ 112)) rfl (heap_alloc_new W (.cells stpZ 112)))
    have HG4 := Lib.hid (grow_setCells (w := W) (b := W.heap.size) (Nat.le_refl _) (stpV x).toList 0 _ (World.grownBy_alloc W (.cells stpZ 112) none))
    have H1C := Lib.hid (show (stpV x).all (·.oneCell') = true by simp [stpV, Value.oneCell'])
    have HI := Lib.hid hI
    unfold stpZ at HTH HM4 HG4
    obtain ⟨sv, hsv⟩ : ∃ sv, stpV x = sv := ⟨_, rfl⟩
    have HSV := Lib.hid hsv
    have hsz : sv.size = 20 := by rw [← hsv]; rfl
    have HSZ := Lib.hid hsz
    rw [hsv] at HM4 HG4 H1C ⊢
    clear hsv hI hsz
    gi_wp2_with (refine wpListIn_store_mid (by rfl) 112 (.tmp 10) (.tmp 25) (by rfl) W.heap.size 0 sv (by rfl) (by rfl) (by rw [HSZ.out]; exact HTH.out) (by rw [HSZ.out]; exact HIN.out) H1C.out ?_)
    refine ⟨Mv.grown HG4.out, W.heap.size, HI.out.turn hws (.new HG4.out), ?_, ?_⟩
    · exact HM4.out
    · rfl
  case body =>
    rintro l k x a₁ W hx ⟨M, hI, hM, rfl⟩
    obtain ⟨⟨ev, pv, ps, hd, hp⟩, hg⟩ := hI
    have hxo := HXS.out x (List.mem_of_getElem? hx)
    have hkl : k < xs.length := (List.getElem?_eq_some_iff.1 hx).1
    have HNX := Lib.hid (show (xs.take (k + 1)).foldl bothS drZ = bothS ((xs.take k).foldl bothS drZ) x by
      rw [List.take_add_one, hx]; simp)
    have hbd := both_bd xs HXS.out k
    generalize (xs.take k).foldl bothS drZ = d at hd HNX hbd
    obtain ⟨hb1, hb2, ⟨hb3, hb3'⟩, hb4⟩ := hbd
    obtain ⟨x1, x2, x3, x4⟩ := hxo
    have HD := Lib.hid hd
    have HGW := Lib.hid hg
    have HM := Lib.hid hM
    clear hx hd hg hM
    obtain ⟨xa, xl, ⟨aba, abo, abn⟩, ai, ⟨ala, all, ⟨ale, alf, aln⟩⟩, ⟨bba, bbo, bbn⟩, bi, ⟨bla, bll, ⟨ble, blf, bln⟩⟩⟩ := x
    simp only at x1 x2 x3 x4
    simp only [stpV] at HM ⊢
    have m4 := cell_of_block HM.out 4
    simp only [List.getElem?_toArray, List.getElem?_cons_zero, List.getElem?_cons_succ] at m4
    have HPA := Lib.hid (dput_any w.heap.size Bd d ev pv ps abn W HD.out (by omega) HGW.out.size)
    unfold DrPost at HPA
    gi_wp2
    refine ⟨trivial, CallsIn.inRound l (callsIn_wide.2 (HPA.out.mono ?_))⟩
    rintro e W1 ⟨⟨v, rfl⟩, ev1, pv1, ps1, hd1, f1, -, -, hp1⟩
    have HG1 := Lib.hid (HD.out.grow f1 HGW.out HBd.out.1 (Nat.le_refl _))
    have HV1 := Lib.hid (HD.out.mv f1)
    have HM1 := Lib.hid (HV1.out.same _ _ HM.out (fun _ _ _ e => by cases e; rfl))
    have HD1 := Lib.hid hd1
    clear hd1 f1 HPA m4
    have m13 := cell_of_block HM1.out 13
    simp only [List.getElem?_toArray, List.getElem?_cons_zero, List.getElem?_cons_succ] at m13
    have HPB := Lib.hid (dput_any w.heap.size Bd _ ev1 pv1 ps1 bbn W1 HD1.out (by omega) HG1.out.size)
    unfold DrPost at HPB
    gi_wp2
    refine ⟨trivial, CallsIn.inRound l (callsIn_wide.2 (HPB.out.mono ?_))⟩
    rintro e W2 ⟨⟨v2, rfl⟩, ev2, pv2, ps2, hd2, f2, -, -, hp2⟩
    have HG2 := Lib.hid (HD1.out.grow f2 HG1.out HBd.out.1 (Nat.le_refl _))
    have HV2 := Lib.hid (HV1.out.trans (HD1.out.mv f2))
    have HM2 := Lib.hid (HV2.out.same _ _ HM.out (fun _ _ _ e => by cases e; rfl))
    have HD2 := Lib.hid hd2
    clear hd2 f2 HPB m13 HV1 HG1 HD1
    have m1 := cell_of_block HM2.out 1
    have m5 := cell_of_block HM2.out 5
    have m14 := cell_of_block HM2.out 14
    simp only [List.getElem?_toArray, List.getElem?_cons_zero, List.getElem?_cons_succ] at m1 m5 m14
    have ht1 : (d.txt ++ abn ++ bbn).size = d.txt.size + abn.size + bbn.size := by simp [ByteArray.size_append]
    by_cases hin : (ai || bi) = true
    · have HPC := Lib.hid (ddrop_any w.heap.size Bd _ ev2 pv2 ps2 xl W2 HD2.out (by simp only; omega))
      unfold DrPost at HPC
      have HNX2 := Lib.hid (HNX.out.trans (if_pos hin))
      cases ai with
      | true =>
        gi_wp2
        refine ⟨trivial, CallsIn.inRound l (callsIn_wide.2 (HPC.out.mono ?_))⟩
        rintro e W3 ⟨⟨v3, rfl⟩, ev3, pv3, ps3, hd3, f3, -, -, hp3⟩
        gi_wp2
        exact ⟨HV2.out.trans (HD2.out.mv f3), ⟨⟨ev3, pv3, ps3, by rw [HNX2.out]; exact hd3, by omega⟩, HD2.out.grow f3 HG2.out HBd.out.1 (Nat.le_refl _)⟩⟩
      | false =>
        have hbi : bi = true := by simpa using hin
        subst hbi
        gi_wp2
        refine ⟨trivial, CallsIn.inRound l (callsIn_wide.2 (HPC.out.mono ?_))⟩
        rintro e W3 ⟨⟨v3, rfl⟩, ev3, pv3, ps3, hd3, f3, -, -, hp3⟩
        gi_wp2
        exact ⟨HV2.out.trans (HD2.out.mv f3), ⟨⟨ev3, pv3, ps3, by rw [HNX2.out]; exact hd3, by omega⟩, HD2.out.grow f3 HG2.out HBd.out.1 (Nat.le_refl _)⟩⟩
    · have HPC := Lib.hid (dkeep_any w.heap.size Bd _ ev2 pv2 ps2 xl W2 HD2.out (by omega) (by simp only; omega) (by simp only; rw [ht1]; omega) HG2.out.size (by simp only; omega) (by simp only; omega) (by omega))
      unfold DrPost at HPC
      have HNX2 := Lib.hid (HNX.out.trans (if_neg hin))
      have hai : ai = false := by cases ai <;> simp_all
      have hbi : bi = false := by cases bi <;> simp_all
      subst hai
      subst hbi
      gi_wp2
      refine ⟨trivial, CallsIn.inRound l (callsIn_wide.2 (HPC.out.mono ?_))⟩
      rintro e W3 ⟨⟨v3, rfl⟩, ev3, pv3, ps3, hd3, f3, -, -, hp3⟩
      gi_wp2
      exact ⟨HV2.out.trans (HD2.out.mv f3), ⟨⟨ev3, pv3, ps3, by rw [HNX2.out]; exact hd3, by omega⟩, HD2.out.grow f3 HG2.out HBd.out.1 (Nat.le_refl _)⟩⟩
  case done =>
    intro D W hD hI hK
    obtain ⟨⟨ev, pv, ps, hd, hp⟩, hg⟩ := hI
    have hbd := both_bd xs HXS.out xs.length
    rw [List.take_length] at hd hbd
    obtain ⟨er, her⟩ : ∃ er, bothE n es fs xs = er := ⟨_, rfl⟩
    have hE := her
    unfold bothE at hE
    rw [if_neg (by simp [H0.out])] at hE
    have hL : bothL n es fs xs = if er = 0 then (xs.foldl bothS drZ).close.out else [] := by rw [bothL, her]
    have HR := Lib.hid (show P = BothPost (if er = 0 then (xs.foldl bothS drZ).close.out else []) er w by rw [← HP.out, hL, her])
    have hout := HOUT.out
    obtain ⟨hb1, hb2, ⟨hb3, hb3'⟩, hb4⟩ := hbd
    have hcl : (xs.foldl bothS drZ).close.out.length ≤ xs.length + 1 := by
      unfold Dr.close; split
      · omega
      · simp; omega
    have HCH := dchange_any w.heap.size Bd _ ev pv ps W hd (by omega) (by omega) (by omega) hg.size (by omega) (by omega)
    generalize (xs.foldl bothS drZ) = d at hd HCH HR hE hout hcl
    generalize hdc : d.close = dc at HCH HR hE hout hcl
    have HE := Lib.hid hE
    have HO := Lib.hid hout
    have HD := Lib.hid hd
    have HGW := Lib.hid hg
    have HK := Lib.hid hK
    have HCl := Lib.hid hcl
    unfold ChgPost at HCH
    replace HCH := Lib.hid HCH
    clear her hE hL hout hd hg hK hb1 hb2 hb3 hb3' hb4 hp hdc hcl
    gi_wp2
    refine ⟨trivial, callsIn_wide.2 (HCH.out.mono ?_)⟩
    rintro e W1 ⟨ev1, pv1, ps1, rfl, hd1, f1, -, -⟩
    have HG1 := Lib.hid (HD.out.grow f1 HGW.out HBd.out.1 (Nat.le_refl _))
    have HK1 := Lib.hid ((HD.out.mv f1).same _ _ HK.out (fun _ _ _ e => by cases e))
    obtain ⟨la, lc, rfl⟩ := ownsRow_slice hd1.eds
    have HD1 := Lib.hid hd1
    clear hd1 f1 HCH
    obtain ⟨sa, sc, hsl, hEds, hlo⟩ := eds_of_own (es := dc.out) (by rw [← edC_cells]; exact HD1.out.eds)
    cases hsl
    have HEd := Lib.hid hEds
    have HPUT : ∀ (W2 : World), W2.heap[D]? = some (.deferred (some [])) → w.grownBy W2 none → ∀ (v : Value) (l : List Ed), W2.ownsRow w.heap.size 47 3 v l.length (edC l) → BothPost l er w (.returned (.tuple #[v, .int .i64 er])) (W2.putObj D (.deferred none)) := fun W2 h1 h2 v l h3 =>
      ⟨v, rfl, own_keep h3 (fun b cs hb => (World.putObj_heap_other (by rintro rfl; rw [h1] at hb; cases hb)).trans hb), grow_turn (U := Uu) h2 hws (Turn.put _ hD h1 rfl)⟩
    replace HPUT := Lib.hid HPUT
    clear hEds hlo
    gi_wp2
    · have hlen : dc.out.length ≤ 2000 := by omega
      have HLN := Lib.hid (length_any n la lc dc.out W1 (by have := HRA.out.1; omega) hlen HEd.out HO.out)
      have HE2 := Lib.hid (show (if lenGo n dc.out > 20000 then 2 else 0) = er by
        rw [← HE.out]
        by_cases hq : lenGo n dc.out > 20000
        · rw [if_pos hq, if_pos (.inr hq)]
        · rw [if_neg hq, if_neg (by rintro (h | h); exact absurd h (by omega); exact hq h)])
      generalize lenGo n dc.out = ln at HLN HE2
      refine ⟨trivial, callsIn_wide.2 (HLN.out.mono ?_)⟩
      rintro e W2 ⟨rfl, g2⟩
      have HK2 := Lib.hid (grow_new g2 HK1.out)
      have HG2 := Lib.hid (grownBy_trans HG1.out g2)
      have HO2 := Lib.hid (own_grown HD1.out.eds g2)
      clear g2 HLN
      by_cases hq : 20000 < ln
      · have her : er = 2 := by rw [← HE2.out]; exact if_pos hq
        subst her
        gi_wp2
        rw [HR.out, if_neg (by decide)]
        refine ⟨by simp, .inl ⟨D, _, rfl, run_takeDeferred HK2.out, ?_⟩⟩
        exact ⟨_, by simp [results, Try.results32, go_sem], HPUT.out W2 HK2.out HG2.out (.slice none 0 0) [] (World.ownsRow_nil _ _ _ _)⟩
      · have her : er = 0 := by rw [← HE2.out]; exact if_neg hq
        subst her
        gi_wp2
        rw [HR.out, if_pos (by simp)]
        refine ⟨by simp, .inl ⟨D, _, rfl, run_takeDeferred HK2.out, ?_⟩⟩
        exact ⟨_, by simp [results, Try.results32, go_sem], HPUT.out W2 HK2.out HG2.out (.slice la dc.out.length lc) dc.out HO2.out⟩
    · have hlen : 2000 < dc.out.length := by omega
      have her : er = 2 := by rw [← HE.out]; exact if_pos (.inl hlen)
      subst her
      refine ⟨trivial, ?_⟩
      gi_wp2
      rw [HR.out, if_neg (by decide)]
      refine ⟨by simp, .inl ⟨D, _, rfl, run_takeDeferred HK1.out, ?_⟩⟩
      exact ⟨_, by simp [results, Try.results32, go_sem], HPUT.out W1 HK1.out HG1.out (.slice none 0 0) [] (World.ownsRow_nil _ _ _ _)⟩
end Go.Proofs.Ytajigndlcdiinaa
namespace Go.Proofs.Ytajigndlcdiinaa
open Go.RowKit Go.Shelf
attribute [local go_sem] Oper.semAt_some

/-- Two values that own no block together. -/
def Dj (v u : Value) : Prop := ∀ r, v.ownBlock = some r → u.ownBlock ≠ some r
theorem Dj.symm {v u : Value} (h : Dj v u) : Dj u v := fun r h1 h2 => h r h2 h1
theorem Dj.new {v v' u : Value} {W : World} (h : Dj v u) (n : NB v' v W) (hu : ∀ r, u.ownBlock = some r → r < W.heap.size) : Dj v' u := fun r h1 h2 => by
  rcases n with n | n
  · exact h r (n ▸ h1) h2
  · have := n r h1; have := hu r h2; omega
theorem own_lt {W : World} {base e size n : Nat} {v : Value} {xs : List Value} (h : W.ownsRow base e size v n xs) : ∀ r, v.ownBlock = some r → r < W.heap.size := fun r hr => by
  obtain ⟨_, c, hc⟩ := ownsRow_block h r hr
  exact lt_of_block hc

theorem DrAt.other {W W' : World} {base BA BB : Nat} {dA dB : Dr} {evA pvA evB pvB : Value} {psA psB : List ByteArray} (hB : DrAt W base BB dB evB pvB psB) (hA : DrAt W base BA dA evA pvA psA) (hne : BA ≠ BB) (he : Dj evA evB) (hp : Dj pvA pvB) (f : Frm (DrP BA evA pvA) W W') : DrAt W' base BB dB evB pvB psB := by
  have k : ∀ (b : Nat) (cs : Array Value) (t : TypeId), W.heap[b]? = some (Obj.cells cs t (0, 0)) → b ≠ BA → some b ≠ evA.ownBlock → some b ≠ pvA.ownBlock → W'.heap[b]? = some (Obj.cells cs t (0, 0)) := fun b cs t hb h1 h2 h3 => (f.block b (lt_of_block hb) ⟨h1, h2, h3⟩).trans hb
  have tA : ∀ (b : Nat), some b = evA.ownBlock → ∃ c, W.heap[b]? = some (Obj.cells c 47 (0, 0)) := fun b hb => (ownsRow_block hA.eds b hb.symm).2
  have tP : ∀ (b : Nat), some b = pvA.ownBlock → ∃ c, W.heap[b]? = some (Obj.cells c 9 (0, 0)) := fun b hb => (ownsRow_block hA.prs.row b hb.symm).2
  have row : ∀ {e size n : Nat} {v : Value} {xs : List Value}, W.ownsRow base e size v n xs → e ≠ 104 → (∀ b, v.ownBlock = some b → some b ≠ evA.ownBlock ∧ some b ≠ pvA.ownBlock) → W'.ownsRow base e size v n xs := by
    intro e size n v xs h h1 h2
    obtain ⟨h3, h4⟩ := h
    refine ⟨h3, ?_⟩
    rcases h4 with h4 | ⟨g', cap, cur, hv, hg, hh, r⟩
    · exact .inl h4
    · have hob : v.ownBlock = some g' := by rw [hv]; rfl
      refine .inr ⟨g', cap, cur, hv, hg, k _ _ _ hh ?_ (h2 _ hob).1 (h2 _ hob).2, r⟩
      rintro rfl
      rw [hA.box] at hh; cases hh; exact h1 rfl
  refine ⟨k _ _ _ hB.box hne.symm ?_ ?_, row hB.eds (by decide) ?_, ⟨row hB.prs.row (by decide) ?_, hB.prs.full⟩, hB.txt⟩
  · intro h; obtain ⟨c, hc⟩ := tA _ h; rw [hB.box] at hc; cases hc
  · intro h; obtain ⟨c, hc⟩ := tP _ h; rw [hB.box] at hc; cases hc
  · intro b hb
    refine ⟨fun h => he b h.symm hb, fun h => ?_⟩
    obtain ⟨c, hc⟩ := tP _ h
    obtain ⟨_, c2, hc2⟩ := ownsRow_block hB.eds b hb
    rw [hc] at hc2; cases hc2
  · intro b hb
    refine ⟨fun h => ?_, fun h => hp b h.symm hb⟩
    obtain ⟨c, hc⟩ := tA _ h
    obtain ⟨_, c2, hc2⟩ := ownsRow_block hB.prs.row b hb
    rw [hc] at hc2; cases hc2

/-- The steps of the two changes past one another. -/
def pastA (d : Dr) (x : Stp) : Dr := if x.ai then (d.keep x.ab.new.size).put x.bb.new else if x.bi then ((d.keep x.ab.new.size).put x.bb.new).drop x.long else ((d.keep x.ab.new.size).put x.bb.new).keep x.long
def pastB (d : Dr) (x : Stp) : Dr := if x.bi then (d.put x.ab.new).keep x.bb.new.size else if x.ai then ((d.put x.ab.new).keep x.bb.new.size).drop x.long else ((d.put x.ab.new).keep x.bb.new.size).keep x.long

def DrQ (d : Dr) (m k : Nat) : Prop := d.out.length ≤ m ∧ d.txt.size ≤ k ∧ (0 ≤ d.at_ ∧ 0 ≤ d.old) ∧ d.at_ + d.old ≤ (k : Int)
theorem DrQ.keep {d : Dr} {m k : Nat} {long : Int} (h : DrQ d m k) (hl : 0 ≤ long ∧ long ≤ 40000) : DrQ (d.keep long) (m + 1) (k + 40000) := by
  obtain ⟨h1, h2, ⟨h3, h4⟩, h5⟩ := h
  unfold Dr.keep
  split
  · exact ⟨by omega, by omega, ⟨h3, h4⟩, by omega⟩
  · unfold Dr.close
    split
    · exact ⟨by simp only; omega, by simp only; omega, ⟨by simp only; omega, h4⟩, by simp only; omega⟩
    · refine ⟨by simp; omega, (by show (0 : Nat) ≤ _; omega), ⟨by simp only; omega, by simp⟩, by simp only; omega⟩
theorem DrQ.put {d : Dr} {m k : Nat} {s : ByteArray} (h : DrQ d m k) (hs : s.size ≤ 40000) : DrQ (d.put s) m (k + 40000) := by
  obtain ⟨h1, h2, h3, h5⟩ := h
  exact ⟨h1, by show (d.txt ++ s).size ≤ _; rw [ByteArray.size_append]; omega, h3, by show d.at_ + d.old ≤ _; omega⟩
theorem DrQ.drop {d : Dr} {m k : Nat} {long : Int} (h : DrQ d m k) (hl : 0 ≤ long ∧ long ≤ 40000) : DrQ (d.drop long) m (k + 40000) := by
  obtain ⟨h1, h2, ⟨h3, h4⟩, h5⟩ := h
  exact ⟨h1, by show d.txt.size ≤ _; omega, ⟨h3, by show 0 ≤ d.old + long; omega⟩, by show d.at_ + (d.old + long) ≤ _; omega⟩
theorem DrQ.mono {d : Dr} {m k m' k' : Nat} (h : DrQ d m k) (hm : m ≤ m') (hk : k ≤ k') : DrQ d m' k' := by
  obtain ⟨h1, h2, h3, h5⟩ := h
  exact ⟨by omega, by omega, h3, by omega⟩
theorem pastA_q {d : Dr} {x : Stp} {m k : Nat} (h : DrQ d m k) (hx : StpOk x) : DrQ (pastA d x) (m + 2) (k + 120000) := by
  obtain ⟨x1, x2, x3, x4⟩ := hx
  have h1 := (h.keep (long := x.ab.new.size) ⟨by omega, by omega⟩).put x4
  unfold pastA
  split
  · exact h1.mono (by omega) (by omega)
  · split
    · exact (h1.drop ⟨x1, by omega⟩).mono (by omega) (by omega)
    · exact (h1.keep ⟨x1, by omega⟩).mono (by omega) (by omega)
theorem pastB_q {d : Dr} {x : Stp} {m k : Nat} (h : DrQ d m k) (hx : StpOk x) : DrQ (pastB d x) (m + 2) (k + 120000) := by
  obtain ⟨x1, x2, x3, x4⟩ := hx
  have h1 := (h.put x3).keep (long := x.bb.new.size) ⟨by omega, by omega⟩
  unfold pastB
  split
  · exact h1.mono (by omega) (by omega)
  · split
    · exact (h1.drop ⟨x1, by omega⟩).mono (by omega) (by omega)
    · exact (h1.keep ⟨x1, by omega⟩).mono (by omega) (by omega)
theorem past_q (xs : List Stp) (h : ∀ x ∈ xs, StpOk x) (f : Dr → Stp → Dr) (hf : ∀ {d x m k}, DrQ d m k → StpOk x → DrQ (f d x) (m + 2) (k + 120000)) : ∀ (k : Nat), DrQ ((xs.take k).foldl f drZ) (2 * k) (120000 * k)
  | 0 => ⟨Nat.le_refl _, (by show (0 : Nat) ≤ _; omega), ⟨by simp [drZ], by simp [drZ]⟩, by simp [drZ]⟩
  | k + 1 => by
    have ih := past_q xs h f hf k
    by_cases hk : k < xs.length
    · rw [List.take_add_one, List.getElem?_eq_getElem hk]
      simp only [Option.toList, List.foldl_append, List.foldl_cons, List.foldl_nil]
      exact hf ih (h _ (List.getElem_mem hk))
    · rw [List.take_of_length_le (by omega)]
      rw [List.take_of_length_le (by omega)] at ih
      exact ih.mono (by omega) (by omega)

/-- What holds between two rounds of Past. -/
structure PastI (w : World) (BA BB : Nat) (xs : List Stp) (k : Nat) (W : World) : Prop where
  ex : ∃ eA pA sA eB pB sB, DrAt W w.heap.size BA ((xs.take k).foldl pastA drZ) eA pA sA ∧ sA.length ≤ k ∧ DrAt W w.heap.size BB ((xs.take k).foldl pastB drZ) eB pB sB ∧ sB.length ≤ k ∧ Dj eA eB ∧ Dj pA pB
  gr : w.grownBy W none
theorem PastI.turn {w W W' : World} {BA BB k B0 : Nat} {xs : List Stp} (h : PastI w BA BB xs k W) (hB : w.heap.size ≤ B0) (t : Turn B0 Uu W W') : PastI w BA BB xs k W' := by
  obtain ⟨⟨eA, pA, sA, eB, pB, sB, h1, h2, h3, h4, h5, h6⟩, g⟩ := h
  exact ⟨⟨eA, pA, sA, eB, pB, sB, h1.turn t, h2, h3.turn t, h4, h5, h6⟩, grow_turn g hB t⟩
end Go.Proofs.Ytajigndlcdiinaa
namespace Go.Proofs.Ytajigndlcdiinaa
open Go.RowKit Go.Shelf
attribute [local go_sem] Oper.semAt_some

/-- What Past answers, the steps known. -/
def pastE (n : Int) (es fs : List Ed) (xs : List Stp) : Int :=
  if bothFaultv n es fs ≠ 0 then bothFaultv n es fs else if (xs.foldl pastA drZ).close.out.length > 2000 ∨ (xs.foldl pastB drZ).close.out.length > 2000 ∨ lenGo (lenGo n es) (xs.foldl pastA drZ).close.out > 20000 then 2 else 0
def pastLA (n : Int) (es fs : List Ed) (xs : List Stp) : List Ed := if pastE n es fs xs = 0 then (xs.foldl pastA drZ).close.out else []
def pastLB (n : Int) (es fs : List Ed) (xs : List Stp) : List Ed := if pastE n es fs xs = 0 then (xs.foldl pastB drZ).close.out else []
def PastPost (lA lB : List Ed) (er : Int) (w : World) (e : Ending) (w' : World) : Prop :=
  ∃ v u, e = .returned (.tuple #[v, u, .int .i64 er]) ∧ w'.ownsRow w.heap.size 47 3 v lA.length (edC lA) ∧ w'.ownsRow w.heap.size 47 3 u lB.length (edC lB) ∧ w.grownBy w' none

set_option maxHeartbeats 4000000 in
set_option maxRecDepth 100000 in
theorem past_any (n : Int) (a b : Option Addr) (c1 c2 : Nat) (es fs : List Ed) (xs : List Stp) (w : World) (hl : es.length ≤ 1000000) (hl2 : fs.length ≤ 1000000) (hE : Eds w a es) (hF : Eds w b fs) (hS : EdsSmall es) (hT : EdsSmall fs)
    (hx : bothFaultv n es fs = 0 → Runs (goP es 0) (goP fs 0) n 0 pcZ 0 pcZ 0 xs) (hxs : ∀ x ∈ xs, StpOk x) (hxl : xs.length ≤ 20001) (hout : ∀ e ∈ (xs.foldl pastA drZ).close.out, 0 ≤ e.old ∧ e.old ≤ 20000 ∧ e.new.size ≤ 1099511627776) (hln : bothFaultv n es fs = 0 → -1000000 ≤ lenGo n es ∧ lenGo n es ≤ 1000000) :
    Calls Try.prog 31 #[.int .i64 n, .slice a es.length c1, .slice b fs.length c2] w (PastPost (pastLA n es fs xs) (pastLB n es fs xs) (pastE n es fs xs) w) := by
  obtain ⟨P, hP⟩ : ∃ P, PastPost (pastLA n es fs xs) (pastLB n es fs xs) (pastE n es fs xs) w = P := ⟨_, rfl⟩
  rw [hP]
  have HP := Lib.hid hP
  have HX := Lib.hid hx
  have HXS := Lib.hid hxs
  have HOUT := Lib.hid hout
  have HCK := Lib.hid (checkTwo_any n a b c1 c2 es fs w hl hl2 hE hF hS hT)
  have HEF := Lib.hid (And.intro hE hF)
  have HLn := Lib.hid hln
  clear hln hP hx hxs hE hF hout
  refine (callsIn_wide (n := 3)).1 ?_
  refine callsIn_of_wp_marks Try.func31 rfl trivial ?_ rfl
  simp only [Try.ntmps31, List.size_toArray, List.length_cons, List.length_nil, Nat.reduceAdd, Nat.reduceSub, Array.replicate_succ, Array.replicate_zero, List.push_toArray, List.append_toArray, List.nil_append, List.cons_append]
  gi_wp2
  refine ⟨trivial, callsIn_wide.2 (HCK.out.mono ?_)⟩
  rintro e w1 ⟨rfl, g1⟩
  by_cases h0 : bothFaultv n es fs = 0
  case neg =>
    have ht : (bothFaultv n es fs == 0) = false := by simpa using h0
    have hE := Lib.hid (show pastE n es fs xs = bothFaultv n es fs by rw [pastE, if_pos h0])
    have hL := Lib.hid (show pastLA n es fs xs = [] by rw [pastLA, hE.out, if_neg h0])
    have hL2 := Lib.hid (show pastLB n es fs xs = [] by rw [pastLB, hE.out, if_neg h0])
    gi_wp2
    rw [← HP.out, hE.out, hL.out, hL2.out]
    refine ⟨_, by simp [results, Try.results31, go_sem], _, _, rfl, World.ownsRow_nil _ _ _ _, World.ownsRow_nil _ _ _ _, g1⟩
  rw [h0]
  have hr1 : changeFault n es = 0 := by
    by_cases h1 : changeFault n es = 0
    · exact h1
    · rw [bothFaultv, if_pos h1] at h0; exact h0
  have hr2 : changeFault n fs = 0 := by
    rw [bothFaultv, if_neg (by simp [hr1])] at h0; exact h0
  have HRA := Lib.hid (right_all hr1)
  have HRB := Lib.hid (right_all hr2)
  have HRuns := Lib.hid (HX.out h0)
  have H0 := Lib.hid h0
  clear hr1 hr2 h0
  gi_wp2
  have ga := World.grownBy_alloc w1 (.cells #[.slice none 0 0, .int .i64 0, .int .i64 0, .slice none 0 0] 104) none
  have gb := World.grownBy_alloc (w1.alloc (.cells #[.slice none 0 0, .int .i64 0, .int .i64 0, .slice none 0 0] 104)) (.cells #[.slice none 0 0, .int .i64 0, .int .i64 0, .slice none 0 0] 104) none
  have hba := grow_new gb (heap_alloc_new w1 (.cells #[.slice none 0 0, .int .i64 0, .int .i64 0, .slice none 0 0] 104))
  have hbb := heap_new_at (w1.alloc (.cells #[.slice none 0 0, .int .i64 0, .int .i64 0, .slice none 0 0] 104)) (.cells #[.slice none 0 0, .int .i64 0, .int .i64 0, .slice none 0 0] 104) (w1.heap.size + 1) (by simp)
  have hBd : w.heap.size ≤ w1.heap.size := g1.size
  have hBl : w1.heap.size + 1 < ((w1.alloc (.cells #[.slice none 0 0, .int .i64 0, .int .i64 0, .slice none 0 0] 104)).alloc (.cells #[.slice none 0 0, .int .i64 0, .int .i64 0, .slice none 0 0] 104)).heap.size := by simp
  have g2 := grownBy_trans g1 (grownBy_trans ga gb)
  clear ga gb g1
  generalize (w1.alloc (.cells #[.slice none 0 0, .int .i64 0, .int .i64 0, .slice none 0 0] 104)).alloc (.cells #[.slice none 0 0, .int .i64 0, .int .i64 0, .slice none 0 0] 104) = w2 at hba hbb hBl g2 ⊢
  have hne : w1.heap.size ≠ w1.heap.size + 1 := by omega
  have hBe : w.heap.size ≤ w1.heap.size + 1 := by omega
  generalize w1.heap.size + 1 = BB at hbb hBl hne hBe ⊢
  generalize w1.heap.size = BA at hba hBd hne ⊢
  refine ⟨trivial, callsIn_wide.2 ((goings_any a c1 es 0 (by omega) w2 HRA.out.2.1 (HEF.out.1.grown g2 (by simp)) HRA.out.2.2.2.1).mono ?_)⟩
  rintro e w3 ⟨rfl, hGA, g3⟩
  have hGAl : w2.heap.size < w3.heap.size := by obtain ⟨C, hb, _⟩ := hGA; exact lt_of_block hb
  gi_wp2
  refine ⟨trivial, callsIn_wide.2 ((goings_any b c2 fs 0 (by omega) w3 HRB.out.2.1 (HEF.out.2.grown (grownBy_trans g2 g3) (by simp)) HRB.out.2.2.2.1).mono ?_)⟩
  rintro e w4 ⟨rfl, hGB, g4⟩
  gi_wp2
  refine ⟨trivial, callsIn_wide.2 ((steps_any n _ _ _ _ _ _ w4).mono ?_)⟩
  rintro e w5 ⟨Ba, Bb, Bn, rfl, ha, hb, hn, g5⟩
  have HXA := Lib.hid (grow_new (grownBy_trans (grownBy_trans g3 g4) g5) hba)
  have HXB := Lib.hid (grow_new (grownBy_trans (grownBy_trans g3 g4) g5) hbb)
  have HGr := Lib.hid (grownBy_trans (grownBy_trans (grownBy_trans g2 g3) g4) g5)
  have HSE : Hid (SEnv w5 Ba Bb Bn w2.heap.size w3.heap.size (goP es 0) (goP fs 0) n) := Lib.hid (by
    obtain ⟨CA, hA1, _⟩ := hGA.kept (grownBy_trans g4 g5)
    obtain ⟨CB, hB1, _⟩ := hGB.kept g5
    exact ⟨by simpa [goP] using ha, by simpa [goP] using hb, hn, ⟨CA, hA1, (hGA.kept (grownBy_trans g4 g5)).pcs⟩, ⟨CB, hB1, (hGB.kept g5).pcs⟩⟩)
  have HBd := Lib.hid (And.intro hBd hBe)
  have HEw := Lib.hid (fun (W : World) (g : w.grownBy W none) => HEF.out.1.grown g (by simp))
  clear hba hbb hBd hBl hBe g2 g3 g4 g5 ha hb hn hGA hGB hGAl
  gi_wp2
  generalize w2.heap.size = GA at HSE ⊢
  generalize w3.heap.size = GB at HSE ⊢
  have HNE := Lib.hid hne
  have H0I : PastI w BA BB xs 0 w5 := ⟨⟨.slice none 0 0, .slice none 0 0, [], .slice none 0 0, .slice none 0 0, [], ⟨HXA.out, World.ownsRow_nil _ _ _ _, ⟨World.ownsRow_nil _ _ _ _, fun p hp => by cases hp⟩, rfl⟩, Nat.le_refl _, ⟨HXB.out, World.ownsRow_nil _ _ _ _, ⟨World.ownsRow_nil _ _ _ _, fun p hp => by cases hp⟩, rfl⟩, Nat.le_refl _, (fun r h => by cases h), (fun r h => by cases h)⟩, HGr.out⟩
  have hws : w.heap.size ≤ w5.heap.size := HGr.out.size
  refine wp_seq (gf := 85) (lb := #[.pointer (some ⟨Ba, 0, none⟩), .pointer (some ⟨Bb, 0, none⟩), .pointer (some ⟨Bn, 0, none⟩)]) rfl (enters_of Try.func85 (by kernel_rfl) rfl) (U := Uu) (T := Tt) (encs := fun x => #[.agg (stpV x)]) (fun x => rfl) (xs := xs)
    (steps1_runs _ Ba Bb Bn GA GB (goP es 0) (goP fs 0) n xs w5 (by have := HRA.out.2.1; simp [goP]; omega) (by have := HRB.out.2.1; simp [goP]; omega) ?okA ?okB (by have := HRA.out.1; omega) HSE.out HRuns.out)
    (PastI w BA BB xs) (fun k x a₁ W => ∃ M, PastI w BA BB xs k W ∧ W.heap[M]? = some (Obj.cells (stpV x) 112 (0, 0)) ∧ a₁ = { tmps := #[.int .i64 n, .slice a es.length c1, .slice b fs.length c2, undef, undef, undef, .slice none 0 0, .slice none 0 0, .int .i64 0, .int .i64 0, .pointer (some ⟨BA, 0, none⟩), .pointer (some ⟨BB, 0, none⟩), .pointer (some ⟨M, 0, none⟩), undef, undef, .int .i64 n, .slice a es.length c1, .slice b fs.length c2, .int .i64 0, .int .i64 0, .bool false, undef, .int .i64 n, .slice a es.length c1, .slice (some ⟨GA, 0, none⟩) es.length es.length, .slice b fs.length c2, .slice (some ⟨GB, 0, none⟩) fs.length fs.length, .func (.func 85) #[] #[.pointer (some ⟨Ba, 0, none⟩), .pointer (some ⟨Bb, 0, none⟩), .pointer (some ⟨Bn, 0, none⟩)], .agg (stpV x), undef, undef, undef, undef, undef, undef, undef, undef, undef, undef, undef, undef, undef, undef, undef, undef, undef, undef, undef, undef, undef, undef, undef, undef, undef, undef, undef, undef, undef, undef, undef, undef, undef, undef, undef, undef, undef, undef, undef, undef, undef, undef, undef, undef, undef, undef, undef, undef, undef, undef, undef, undef, undef, undef, undef, undef, undef, undef, undef, undef, undef, undef, undef, undef, undef, undef, undef, undef, undef, undef, undef], defers := [] })
    (fun k A B h t => h.turn hws t) ?hIa H0I ?assign ?body ?done
  case okA =>
    intro p hp
    obtain ⟨e, he, rfl⟩ := List.mem_map.1 hp
    have := HRA.out.2.2.2.1 e he
    refine ⟨?_, ?_, ?_, ?_⟩ <;> (simp only; omega)
  case okB =>
    intro p hp
    obtain ⟨e, he, rfl⟩ := List.mem_map.1 hp
    have := HRB.out.2.2.2.1 e he
    refine ⟨?_, ?_, ?_, ?_⟩ <;> (simp only; omega)
  case hIa =>
    rintro k x a₁ W l o o' ⟨M, hI, hM, rfl⟩ hl ho hc
    refine ⟨M, hI.turn hws (Turn.put o' hl ho hc), ?_, rfl⟩
    refine (World.putObj_heap_other ?_).trans hM
    rintro rfl
    rw [hM] at ho; cases ho; cases hc
  case assign =>
    intro l k x W hx hI
    have HTH := Lib.hid (show (W.alloc (.cells stpZ 112)).there W.heap.size 0 20 from fun j hj => ⟨by
      rw [Nat.zero_add, cell_of_block (heap_alloc_new W (.cells stpZ 112))]
      have : j < stpZ.size := hj
      simp [this], free_of_block (heap_alloc_new W (.cells stpZ 112)) _⟩)
    have HIN := Lib.hid (show (Try.prog.info? 112).map (·.size) = some 20 by kernel_rfl)
    have HM4 := Lib.hid (heap_setCells_all (b := W.heap.size) (t := 112) (stpV x).toList [] stpZ.toList (W.alloc (.cells stpZ 112)) rfl (heap_alloc_new W (.cells stpZ 112)))
    have HG4 := Lib.hid (grow_setCells (w := W) (b := W.heap.size) (Nat.le_refl _) (stpV x).toList 0 _ (World.grownBy_alloc W (.cells stpZ 112) none))
    have H1C := Lib.hid (show (stpV x).all (·.oneCell') = true by simp [stpV, Value.oneCell'])
    have HI := Lib.hid hI
    unfold stpZ at HTH HM4 HG4
    obtain ⟨sv, hsv⟩ : ∃ sv, stpV x = sv := ⟨_, rfl⟩
    have HSV := Lib.hid hsv
    have hsz : sv.size = 20 := by rw [← hsv]; rfl
    have HSZ := Lib.hid hsz
    rw [hsv] at HM4 HG4 H1C ⊢
    clear hsv hI hsz
    gi_wp2_with (refine wpListIn_store_mid (by rfl) 112 (.tmp 12) (.tmp 28) (by rfl) W.heap.size 0 sv (by rfl) (by rfl) (by rw [HSZ.out]; exact HTH.out) (by rw [HSZ.out]; exact HIN.out) H1C.out ?_)
    refine ⟨Mv.grown HG4.out, W.heap.size, HI.out.turn hws (.new HG4.out), ?_, ?_⟩
    · exact HM4.out
    · rfl
  case body =>
    rintro l k x a₁ W hx ⟨M, hI, hM, rfl⟩
    obtain ⟨⟨eA, pA, sA, eB, pB, sB, hA, hsA, hB, hsB, hde, hdp⟩, hg⟩ := hI
    have hxo := HXS.out x (List.mem_of_getElem? hx)
    have hkl : k < xs.length := (List.getElem?_eq_some_iff.1 hx).1
    have HNA := Lib.hid (show (xs.take (k + 1)).foldl pastA drZ = pastA ((xs.take k).foldl pastA drZ) x by
      rw [List.take_add_one, hx]; simp)
    have HNB := Lib.hid (show (xs.take (k + 1)).foldl pastB drZ = pastB ((xs.take k).foldl pastB drZ) x by
      rw [List.take_add_one, hx]; simp)
    have QA0 := Lib.hid (past_q xs HXS.out pastA pastA_q k)
    have QB0 := Lib.hid (past_q xs HXS.out pastB pastB_q k)
    generalize (xs.take k).foldl pastA drZ = dA at hA HNA QA0
    generalize (xs.take k).foldl pastB drZ = dB at hB HNB QB0
    obtain ⟨x1, x2, x3, x4⟩ := hxo
    have HA0 := Lib.hid hA
    have HB0 := Lib.hid hB
    have HDE0 := Lib.hid hde
    have HDP0 := Lib.hid hdp
    have HG0 := Lib.hid hg
    have HM := Lib.hid hM
    have HV0 := Lib.hid (show Mv Tt W W from Mv.grown (grow_self W))
    obtain ⟨W0, hW0⟩ : ∃ W0, W = W0 := ⟨_, rfl⟩
    clear hx hg hM hA hB hde hdp
    obtain ⟨xa, xl, ⟨aba, abo, abn⟩, ai, ⟨ala, all, ⟨ale, alf, aln⟩⟩, ⟨bba, bbo, bbn⟩, bi, ⟨bla, bll, ⟨ble, blf, bln⟩⟩⟩ := x
    simp only at x1 x2 x3 x4
    simp only [stpV] at HM ⊢
    clear hW0
    have hl1 : (0 : Int) ≤ (abn.size : Int) ∧ (abn.size : Int) ≤ 40000 := ⟨by omega, by omega⟩
    have hl2 : (0 : Int) ≤ (bbn.size : Int) ∧ (bbn.size : Int) ≤ 40000 := ⟨by omega, by omega⟩
    have hl3 : (0 : Int) ≤ xl ∧ xl ≤ 40000 := ⟨x1, by omega⟩
    have m4 := cell_of_block HM.out 4
    simp only [List.getElem?_toArray, List.getElem?_cons_zero, List.getElem?_cons_succ] at m4
    have HC1 := Lib.hid (dkeep_any w.heap.size BA (dA) eA pA sA (abn.size : Int) W HA0.out (by omega) (by have := QA0.out.1; omega) (by have := QA0.out.2.1; omega) HG0.out.size (by have := QA0.out.2.2; omega) (by have := QA0.out.2.2; omega) (by omega))
    unfold DrPost at HC1
    gi_wp2
    refine ⟨trivial, CallsIn.inRound l (callsIn_wide.2 (HC1.out.mono ?_))⟩
    rintro e W1 ⟨⟨v1, rfl⟩, e1, p1, s1, hd1, f1, n1, nn1, hs1⟩
    have HG1 := Lib.hid (HA0.out.grow f1 HG0.out HBd.out.1 (Nat.le_refl _))
    have HV1 := Lib.hid (HV0.out.trans (HA0.out.mv f1))
    have HM1 := Lib.hid (HV1.out.same _ _ HM.out (fun _ _ _ e => by cases e; rfl))
    have HA1 : Hid (DrAt W1 w.heap.size BA ((dA).keep (abn.size : Int)) e1 p1 s1) := Lib.hid hd1
    have HB1 := Lib.hid (HB0.out.other HA0.out HNE.out HDE0.out HDP0.out f1)
    have HDE1 := Lib.hid (HDE0.out.new n1 (own_lt HB0.out.eds))
    have HDP1 := Lib.hid (HDP0.out.new nn1 (own_lt HB0.out.prs.row))
    have QA1 := Lib.hid (QA0.out.keep hl1)
    clear hd1 f1 n1 nn1 HC1 m4
    have m13 := cell_of_block HM1.out 13
    simp only [List.getElem?_toArray, List.getElem?_cons_zero, List.getElem?_cons_succ] at m13
    have HC2 := Lib.hid (dput_any w.heap.size BA ((dA).keep (abn.size : Int)) e1 p1 s1 bbn W1 HA1.out (by omega) HG1.out.size)
    unfold DrPost at HC2
    gi_wp2
    refine ⟨trivial, CallsIn.inRound l (callsIn_wide.2 (HC2.out.mono ?_))⟩
    rintro e W2 ⟨⟨v2, rfl⟩, e2, p2, s2, hd2, f2, n2, nn2, hs2⟩
    have HG2 := Lib.hid (HA1.out.grow f2 HG1.out HBd.out.1 (Nat.le_refl _))
    have HV2 := Lib.hid (HV1.out.trans (HA1.out.mv f2))
    have HM2 := Lib.hid (HV2.out.same _ _ HM.out (fun _ _ _ e => by cases e; rfl))
    have HA2 : Hid (DrAt W2 w.heap.size BA (((dA).keep (abn.size : Int)).put bbn) e2 p2 s2) := Lib.hid hd2
    have HB2 := Lib.hid (HB1.out.other HA1.out HNE.out HDE1.out HDP1.out f2)
    have HDE2 := Lib.hid (HDE1.out.new n2 (own_lt HB1.out.eds))
    have HDP2 := Lib.hid (HDP1.out.new nn2 (own_lt HB1.out.prs.row))
    have QA2 := Lib.hid (QA1.out.put x4)
    clear hd2 f2 n2 nn2 HC2 m13
    have m4 := cell_of_block HM2.out 4
    simp only [List.getElem?_toArray, List.getElem?_cons_zero, List.getElem?_cons_succ] at m4
    have HC3 := Lib.hid (dput_any w.heap.size BB (dB) eB pB sB abn W2 HB2.out (by omega) HG2.out.size)
    unfold DrPost at HC3
    gi_wp2
    refine ⟨trivial, CallsIn.inRound l (callsIn_wide.2 (HC3.out.mono ?_))⟩
    rintro e W3 ⟨⟨v3, rfl⟩, e3, p3, s3, hd3, f3, n3, nn3, hs3⟩
    have HG3 := Lib.hid (HB2.out.grow f3 HG2.out HBd.out.2 (Nat.le_refl _))
    have HV3 := Lib.hid (HV2.out.trans (HB2.out.mv f3))
    have HM3 := Lib.hid (HV3.out.same _ _ HM.out (fun _ _ _ e => by cases e; rfl))
    have HB3 : Hid (DrAt W3 w.heap.size BB ((dB).put abn) e3 p3 s3) := Lib.hid hd3
    have HA3 := Lib.hid (HA2.out.other HB2.out HNE.out.symm HDE2.out.symm HDP2.out.symm f3)
    have HDE3 := Lib.hid (HDE2.out.symm.new n3 (own_lt HA2.out.eds)).symm
    have HDP3 := Lib.hid (HDP2.out.symm.new nn3 (own_lt HA2.out.prs.row)).symm
    have QB3 := Lib.hid (QB0.out.put x3)
    clear hd3 f3 n3 nn3 HC3 m4
    have m13 := cell_of_block HM3.out 13
    simp only [List.getElem?_toArray, List.getElem?_cons_zero, List.getElem?_cons_succ] at m13
    have HC4 := Lib.hid (dkeep_any w.heap.size BB ((dB).put abn) e3 p3 s3 (bbn.size : Int) W3 HB3.out (by omega) (by have := QB3.out.1; omega) (by have := QB3.out.2.1; omega) HG3.out.size (by have := QB3.out.2.2; omega) (by have := QB3.out.2.2; omega) (by omega))
    unfold DrPost at HC4
    gi_wp2
    refine ⟨trivial, CallsIn.inRound l (callsIn_wide.2 (HC4.out.mono ?_))⟩
    rintro e W4 ⟨⟨v4, rfl⟩, e4, p4, s4, hd4, f4, n4, nn4, hs4⟩
    have HG4 := Lib.hid (HB3.out.grow f4 HG3.out HBd.out.2 (Nat.le_refl _))
    have HV4 := Lib.hid (HV3.out.trans (HB3.out.mv f4))
    have HM4 := Lib.hid (HV4.out.same _ _ HM.out (fun _ _ _ e => by cases e; rfl))
    have HB4 : Hid (DrAt W4 w.heap.size BB (((dB).put abn).keep (bbn.size : Int)) e4 p4 s4) := Lib.hid hd4
    have HA4 := Lib.hid (HA3.out.other HB3.out HNE.out.symm HDE3.out.symm HDP3.out.symm f4)
    have HDE4 := Lib.hid (HDE3.out.symm.new n4 (own_lt HA3.out.eds)).symm
    have HDP4 := Lib.hid (HDP3.out.symm.new nn4 (own_lt HA3.out.prs.row)).symm
    have QB4 := Lib.hid (QB3.out.keep hl2)
    clear hd4 f4 n4 nn4 HC4 m13
    have m1 := cell_of_block HM4.out 1
    have m5 := cell_of_block HM4.out 5
    have m14 := cell_of_block HM4.out 14
    simp only [List.getElem?_toArray, List.getElem?_cons_zero, List.getElem?_cons_succ] at m1 m5 m14
    cases ai with
    | true =>
      cases bi with
      | true =>
        gi_wp2
        exact ⟨HV4.out, ⟨⟨e2, p2, s2, e4, p4, s4, by rw [HNA.out]; exact HA4.out, by omega, by rw [HNB.out]; exact HB4.out, by omega, HDE4.out, HDP4.out⟩, HG4.out⟩⟩
      | false =>
        have HC5 := Lib.hid (ddrop_any w.heap.size BB (((dB).put abn).keep (bbn.size : Int)) e4 p4 s4 xl W4 HB4.out (by have := QB4.out.2.2; omega))
        unfold DrPost at HC5
        gi_wp2
        refine ⟨trivial, CallsIn.inRound l (callsIn_wide.2 (HC5.out.mono ?_))⟩
        rintro e W5 ⟨⟨v5, rfl⟩, e5, p5, s5, hd5, f5, n5, nn5, hs5⟩
        have HG5 := Lib.hid (HB4.out.grow f5 HG4.out HBd.out.2 (Nat.le_refl _))
        have HV5 := Lib.hid (HV4.out.trans (HB4.out.mv f5))
        have HM5 := Lib.hid (HV5.out.same _ _ HM.out (fun _ _ _ e => by cases e; rfl))
        have HB5 : Hid (DrAt W5 w.heap.size BB ((((dB).put abn).keep (bbn.size : Int)).drop xl) e5 p5 s5) := Lib.hid hd5
        have HA5 := Lib.hid (HA4.out.other HB4.out HNE.out.symm HDE4.out.symm HDP4.out.symm f5)
        have HDE5 := Lib.hid (HDE4.out.symm.new n5 (own_lt HA4.out.eds)).symm
        have HDP5 := Lib.hid (HDP4.out.symm.new nn5 (own_lt HA4.out.prs.row)).symm
        have QB5 := Lib.hid (QB4.out.drop hl3)
        clear hd5 f5 n5 nn5 HC5
        gi_wp2
        exact ⟨HV5.out, ⟨⟨e2, p2, s2, e5, p5, s5, by rw [HNA.out]; exact HA5.out, by omega, by rw [HNB.out]; exact HB5.out, by omega, HDE5.out, HDP5.out⟩, HG5.out⟩⟩
    | false =>
      cases bi with
      | true =>
        have HC5 := Lib.hid (ddrop_any w.heap.size BA (((dA).keep (abn.size : Int)).put bbn) e2 p2 s2 xl W4 HA4.out (by have := QA2.out.2.2; omega))
        unfold DrPost at HC5
        gi_wp2
        refine ⟨trivial, CallsIn.inRound l (callsIn_wide.2 (HC5.out.mono ?_))⟩
        rintro e W5 ⟨⟨v5, rfl⟩, e5, p5, s5, hd5, f5, n5, nn5, hs5⟩
        have HG5 := Lib.hid (HA4.out.grow f5 HG4.out HBd.out.1 (Nat.le_refl _))
        have HV5 := Lib.hid (HV4.out.trans (HA4.out.mv f5))
        have HM5 := Lib.hid (HV5.out.same _ _ HM.out (fun _ _ _ e => by cases e; rfl))
        have HA5 : Hid (DrAt W5 w.heap.size BA ((((dA).keep (abn.size : Int)).put bbn).drop xl) e5 p5 s5) := Lib.hid hd5
        have HB5 := Lib.hid (HB4.out.other HA4.out HNE.out HDE4.out HDP4.out f5)
        have HDE5 := Lib.hid (HDE4.out.new n5 (own_lt HB4.out.eds))
        have HDP5 := Lib.hid (HDP4.out.new nn5 (own_lt HB4.out.prs.row))
        have QA5 := Lib.hid (QA2.out.drop hl3)
        clear hd5 f5 n5 nn5 HC5
        gi_wp2
        exact ⟨HV5.out, ⟨⟨e5, p5, s5, e4, p4, s4, by rw [HNA.out]; exact HA5.out, by omega, by rw [HNB.out]; exact HB5.out, by omega, HDE5.out, HDP5.out⟩, HG5.out⟩⟩
      | false =>
        have HC5 := Lib.hid (dkeep_any w.heap.size BA (((dA).keep (abn.size : Int)).put bbn) e2 p2 s2 xl W4 HA4.out (by omega) (by have := QA2.out.1; omega) (by have := QA2.out.2.1; omega) HG4.out.size (by have := QA2.out.2.2; omega) (by have := QA2.out.2.2; omega) (by omega))
        unfold DrPost at HC5
        gi_wp2
        refine ⟨trivial, CallsIn.inRound l (callsIn_wide.2 (HC5.out.mono ?_))⟩
        rintro e W5 ⟨⟨v5, rfl⟩, e5, p5, s5, hd5, f5, n5, nn5, hs5⟩
        have HG5 := Lib.hid (HA4.out.grow f5 HG4.out HBd.out.1 (Nat.le_refl _))
        have HV5 := Lib.hid (HV4.out.trans (HA4.out.mv f5))
        have HM5 := Lib.hid (HV5.out.same _ _ HM.out (fun _ _ _ e => by cases e; rfl))
        have HA5 : Hid (DrAt W5 w.heap.size BA ((((dA).keep (abn.size : Int)).put bbn).keep xl) e5 p5 s5) := Lib.hid hd5
        have HB5 := Lib.hid (HB4.out.other HA4.out HNE.out HDE4.out HDP4.out f5)
        have HDE5 := Lib.hid (HDE4.out.new n5 (own_lt HB4.out.eds))
        have HDP5 := Lib.hid (HDP4.out.new nn5 (own_lt HB4.out.prs.row))
        have QA5 := Lib.hid (QA2.out.keep hl3)
        clear hd5 f5 n5 nn5 HC5
        have m1b := cell_of_block HM5.out 1
        simp only [List.getElem?_toArray, List.getElem?_cons_zero, List.getElem?_cons_succ] at m1b
        have HC6 := Lib.hid (dkeep_any w.heap.size BB (((dB).put abn).keep (bbn.size : Int)) e4 p4 s4 xl W5 HB5.out (by omega) (by have := QB4.out.1; omega) (by have := QB4.out.2.1; omega) HG5.out.size (by have := QB4.out.2.2; omega) (by have := QB4.out.2.2; omega) (by omega))
        unfold DrPost at HC6
        gi_wp2
        refine ⟨trivial, CallsIn.inRound l (callsIn_wide.2 (HC6.out.mono ?_))⟩
        rintro e W6 ⟨⟨v6, rfl⟩, e6, p6, s6, hd6, f6, n6, nn6, hs6⟩
        have HG6 := Lib.hid (HB5.out.grow f6 HG5.out HBd.out.2 (Nat.le_refl _))
        have HV6 := Lib.hid (HV5.out.trans (HB5.out.mv f6))
        have HM6 := Lib.hid (HV6.out.same _ _ HM.out (fun _ _ _ e => by cases e; rfl))
        have HB6 : Hid (DrAt W6 w.heap.size BB ((((dB).put abn).keep (bbn.size : Int)).keep xl) e6 p6 s6) := Lib.hid hd6
        have HA6 := Lib.hid (HA5.out.other HB5.out HNE.out.symm HDE5.out.symm HDP5.out.symm f6)
        have HDE6 := Lib.hid (HDE5.out.symm.new n6 (own_lt HA5.out.eds)).symm
        have HDP6 := Lib.hid (HDP5.out.symm.new nn6 (own_lt HA5.out.prs.row)).symm
        have QB6 := Lib.hid (QB4.out.keep hl3)
        clear hd6 f6 n6 nn6 HC6
        gi_wp2
        exact ⟨HV6.out, ⟨⟨e5, p5, s5, e6, p6, s6, by rw [HNA.out]; exact HA6.out, by omega, by rw [HNB.out]; exact HB6.out, by omega, HDE6.out, HDP6.out⟩, HG6.out⟩⟩
  case done =>
    intro D W hD hI hK
    obtain ⟨⟨eA, pA, sA, eB, pB, sB, hA, hsA, hB, hsB, hde, hdp⟩, hg⟩ := hI
    have hqA := past_q xs HXS.out pastA pastA_q xs.length
    have hqB := past_q xs HXS.out pastB pastB_q xs.length
    rw [List.take_length] at hA hB hqA hqB
    obtain ⟨er, her⟩ : ∃ er, pastE n es fs xs = er := ⟨_, rfl⟩
    have hE := her
    unfold pastE at hE
    rw [if_neg (by simp [H0.out])] at hE
    have hL : pastLA n es fs xs = if er = 0 then (xs.foldl pastA drZ).close.out else [] := by rw [pastLA, her]
    have hL2 : pastLB n es fs xs = if er = 0 then (xs.foldl pastB drZ).close.out else [] := by rw [pastLB, her]
    have HR := Lib.hid (show P = PastPost (if er = 0 then (xs.foldl pastA drZ).close.out else []) (if er = 0 then (xs.foldl pastB drZ).close.out else []) er w by rw [← HP.out, hL, hL2, her])
    have hout := HOUT.out
    have HLB := Lib.hid (HLn.out H0.out)
    obtain ⟨ha1, ha2, ⟨ha3, ha3'⟩, ha4⟩ := hqA
    obtain ⟨hb1, hb2, ⟨hb3, hb3'⟩, hb4⟩ := hqB
    have hca : (xs.foldl pastA drZ).close.out.length ≤ 100000 := by
      unfold Dr.close; split
      · omega
      · simp; omega
    have hcb : (xs.foldl pastB drZ).close.out.length ≤ 100000 := by
      unfold Dr.close; split
      · omega
      · simp; omega
    generalize (xs.foldl pastA drZ) = dA at hA HR hE hout hca ha1 ha2 ha3 ha3' ha4
    generalize (xs.foldl pastB drZ) = dB at hB HR hE hcb hb1 hb2 hb3 hb3' hb4
    have HCA := dchange_any w.heap.size BA dA eA pA sA W hA (by omega) (by omega) (by omega) hg.size (by omega) (by omega)
    have HCB : ∀ (W1 : World), DrAt W1 w.heap.size BB dB eB pB sB → w.heap.size ≤ W1.heap.size → _ := fun W1 h1 h2 => dchange_any w.heap.size BB dB eB pB sB W1 h1 (by omega) (by omega) (by omega) h2 (by omega) (by omega)
    generalize dA.close = ca at HCA HR hE hout hca
    generalize dB.close = cb at HCB HR hE hcb
    have HE := Lib.hid hE
    have HO := Lib.hid hout
    have HA := Lib.hid hA
    have HB := Lib.hid hB
    have HDE := Lib.hid hde
    have HDP := Lib.hid hdp
    have HGW := Lib.hid hg
    have HK := Lib.hid hK
    have HCl := Lib.hid (And.intro hca hcb)
    unfold ChgPost at HCA HCB
    replace HCA := Lib.hid HCA
    replace HCB := Lib.hid HCB
    clear her hE hL hL2 hout hA hB hde hdp hg hK hb1 hb2 hb3 hb3' hb4 ha1 ha2 ha3 ha3' ha4 hca hcb hsA hsB
    gi_wp2
    refine ⟨trivial, callsIn_wide.2 (HCA.out.mono ?_)⟩
    rintro e W1 ⟨ev1, pv1, ps1, rfl, hd1, f1, n1, nn1⟩
    have HG1 := Lib.hid (HA.out.grow f1 HGW.out HBd.out.1 (Nat.le_refl _))
    have HK1 := Lib.hid ((HA.out.mv f1).same _ _ HK.out (fun _ _ _ e => by cases e))
    have HB1 := Lib.hid (HB.out.other HA.out HNE.out HDE.out HDP.out f1)
    have HDE1 := Lib.hid (HDE.out.new n1 (own_lt HB.out.eds))
    have HDP1 := Lib.hid (HDP.out.new nn1 (own_lt HB.out.prs.row))
    have HA1 := Lib.hid hd1
    have HCB1 := Lib.hid (HCB.out W1 HB1.out HG1.out.size)
    clear hd1 f1 n1 nn1 HCA HCB
    gi_wp2
    refine ⟨trivial, callsIn_wide.2 (HCB1.out.mono ?_)⟩
    rintro e W2 ⟨ev2, pv2, ps2, rfl, hd2, f2, -, -⟩
    have HG2 := Lib.hid (HB1.out.grow f2 HG1.out HBd.out.2 (Nat.le_refl _))
    have HK2 := Lib.hid ((HB1.out.mv f2).same _ _ HK1.out (fun _ _ _ e => by cases e))
    have hA2 := HA1.out.other HB1.out HNE.out.symm HDE1.out.symm HDP1.out.symm f2
    obtain ⟨la, lc, rfl⟩ := ownsRow_slice hA2.eds
    obtain ⟨lb, lc2, rfl⟩ := ownsRow_slice hd2.eds
    have HA2 := Lib.hid hA2
    have HB2 := Lib.hid hd2
    clear hd2 f2 hA2 HCB1
    obtain ⟨sa, sc, hsl, hEds, hlo⟩ := eds_of_own (es := ca.out) (by rw [← edC_cells]; exact HA2.out.eds)
    cases hsl
    have HEd := Lib.hid hEds
    have HPUT : ∀ (W2 : World), W2.heap[D]? = some (.deferred (some [])) → w.grownBy W2 none → ∀ (v u : Value) (l m : List Ed), W2.ownsRow w.heap.size 47 3 v l.length (edC l) → W2.ownsRow w.heap.size 47 3 u m.length (edC m) → PastPost l m er w (.returned (.tuple #[v, u, .int .i64 er])) (W2.putObj D (.deferred none)) := fun W2 h1 h2 v u l m h3 h4 =>
      ⟨v, u, rfl, own_keep h3 (fun b cs hb => (World.putObj_heap_other (by rintro rfl; rw [h1] at hb; cases hb)).trans hb), own_keep h4 (fun b cs hb => (World.putObj_heap_other (by rintro rfl; rw [h1] at hb; cases hb)).trans hb), grow_turn (U := Uu) h2 hws (Turn.put _ hD h1 rfl)⟩
    replace HPUT := Lib.hid HPUT
    clear hEds hlo
    gi_wp2
    · have hla : ca.out.length ≤ 2000 := by omega
      have hlb : cb.out.length ≤ 2000 := by omega
      have HL0 := Lib.hid (length_any n a c1 es W2 (by have := HRA.out.1; omega) HRA.out.2.1 (HEF.out.1.grown HG2.out (by simp)) (fun e he => by have := HRA.out.2.2.2.1 e he; omega))
      have HL1 := fun (W3 : World) (h : Eds W3 la ca.out) => length_any (lenGo n es) la lc ca.out W3 HLB.out hla h HO.out
      have HE2 := Lib.hid (show (if lenGo (lenGo n es) ca.out > 20000 then 2 else 0) = er by
        rw [← HE.out]
        by_cases hq : lenGo (lenGo n es) ca.out > 20000
        · rw [if_pos hq, if_pos (.inr (.inr hq))]
        · rw [if_neg hq, if_neg (by rintro (h | h | h); exact absurd h (by omega); exact absurd h (by omega); exact hq h)])
      generalize lenGo (lenGo n es) ca.out = ln at HL1 HE2
      generalize lenGo n es = l0 at HL0 HL1
      replace HL1 := Lib.hid HL1
      refine ⟨trivial, callsIn_wide.2 (HL0.out.mono ?_)⟩
      rintro e W3 ⟨rfl, g3⟩
      have HK3 := Lib.hid (grow_new g3 HK2.out)
      have HG3 := Lib.hid (grownBy_trans HG2.out g3)
      have HA3 := Lib.hid (own_grown HA2.out.eds g3)
      have HB3 := Lib.hid (own_grown HB2.out.eds g3)
      have HL2 := Lib.hid (HL1.out W3 (HEd.out.grown g3 (by simp)))
      clear g3 HL0 HL1
      gi_wp2
      refine ⟨trivial, callsIn_wide.2 (HL2.out.mono ?_)⟩
      rintro e W4 ⟨rfl, g4⟩
      have HK4 := Lib.hid (grow_new g4 HK3.out)
      have HG4 := Lib.hid (grownBy_trans HG3.out g4)
      have HA4 := Lib.hid (own_grown HA3.out g4)
      have HB4 := Lib.hid (own_grown HB3.out g4)
      clear g4 HL2
      by_cases hq : 20000 < ln
      · have her : er = 2 := by rw [← HE2.out]; exact if_pos hq
        subst her
        gi_wp2
        rw [HR.out, if_neg (by decide), if_neg (by decide)]
        refine ⟨by simp, .inl ⟨D, _, rfl, run_takeDeferred HK4.out, ?_⟩⟩
        exact ⟨_, by simp [results, Try.results31, go_sem], HPUT.out W4 HK4.out HG4.out (.slice none 0 0) (.slice none 0 0) [] [] (World.ownsRow_nil _ _ _ _) (World.ownsRow_nil _ _ _ _)⟩
      · have her : er = 0 := by rw [← HE2.out]; exact if_neg hq
        subst her
        gi_wp2
        rw [HR.out, if_pos (by simp), if_pos (by simp)]
        refine ⟨by simp, .inl ⟨D, _, rfl, run_takeDeferred HK4.out, ?_⟩⟩
        exact ⟨_, by simp [results, Try.results31, go_sem], HPUT.out W4 HK4.out HG4.out (.slice la ca.out.length lc) (.slice lb cb.out.length lc2) ca.out cb.out HA4.out HB4.out⟩
    all_goals
      have her : er = 2 := by rw [← HE.out]; exact if_pos (by omega)
      subst her
      refine ⟨trivial, ?_⟩
      gi_wp2
      refine ⟨trivial, ?_⟩
      gi_wp2
      rw [HR.out, if_neg (by decide), if_neg (by decide)]
      refine ⟨by simp, .inl ⟨D, _, rfl, run_takeDeferred HK2.out, ?_⟩⟩
      exact ⟨_, by simp [results, Try.results31, go_sem], HPUT.out W2 HK2.out HG2.out (.slice none 0 0) (.slice none 0 0) [] [] (World.ownsRow_nil _ _ _ _) (World.ownsRow_nil _ _ _ _)⟩
end Go.Proofs.Ytajigndlcdiinaa
namespace Go.Proofs.Ytajigndlcdiinaa
open Go.RowKit

/-- Pieces in their order, none before `b`, none that touch. -/
def Ord (n : Int) : Int → List Pce → Prop
  | _, [] => True
  | b, p :: r => b ≤ p.at_ ∧ 0 ≤ p.long ∧ p.at_ + p.long ≤ n ∧ p.ed.new.size ≤ 40000 ∧ Ord n (p.at_ + p.long + 1) r
theorem Ord.mono {n b b' : Int} {ps : List Pce} (h : Ord n b ps) (hb : b' ≤ b) : Ord n b' ps := by
  cases ps with
  | nil => trivial
  | cons p r => exact ⟨by have := h.1; omega, h.2⟩
theorem goP_ord (n : Int) : ∀ (es : List Ed) (b : Int), Right n b es → (∀ e ∈ es, e.new.size ≤ 40000) → Ord n (b + 1) (goP es 0)
  | [], _, _, _ => trivial
  | e :: r, b, h, hs => by
    obtain ⟨q1, q2, q3, q4, q5, q6⟩ := h
    have ih := goP_ord n r _ q6 (fun x hx => hs x (List.mem_cons_of_mem _ hx))
    refine ⟨?_, ?_, ?_, hs e List.mem_cons_self, ?_⟩
    · simp only; omega
    · simp only; omega
    · simp only; omega
    · simpa [goP] using ih

structure Wst (n : Int) (ps : List Pce) (la : Pce) (j : Nat) (at_ : Int) : Prop where
  rest : Ord n at_ (ps.drop j)
  fin : la.at_ + la.long ≤ n
  gap : at_ < la.at_ + la.long → Ord n (la.at_ + la.long + 1) (ps.drop j)
theorem Wst.arr {n at_ : Int} {ps : List Pce} {la : Pce} {j : Nat} (h : Wst n ps la j at_) :
    Ord n (at_ + 1) (ps.drop (arrJ ps j at_)) ∧ (arrP ps la j at_).at_ + (arrP ps la j at_).long ≤ n ∧ (at_ < (arrP ps la j at_).at_ + (arrP ps la j at_).long → Ord n ((arrP ps la j at_).at_ + (arrP ps la j at_).long + 1) (ps.drop (arrJ ps j at_))) ∧ (arrB ps j at_).new.size ≤ 40000 := by
  obtain ⟨h1, h2, h3⟩ := h
  unfold arrJ arrP arrB
  by_cases hj : j < ps.length
  · have hd : ps.drop j = ps[j] :: ps.drop (j + 1) := List.drop_eq_getElem_cons hj
    simp only [dif_pos hj]
    have h1' := h1
    rw [hd] at h1'
    obtain ⟨a1, a2, a3, a4, a5⟩ := h1'
    by_cases he : ps[j].at_ = at_
    · simp only [if_pos he]
      exact ⟨a5.mono (by omega), a3, fun _ => a5, a4⟩
    · simp only [if_neg he]
      refine ⟨?_, h2, h3, (by show (0 : Nat) ≤ _; omega)⟩
      rw [hd]
      exact ⟨by omega, a2, a3, a4, a5⟩
  · simp only [dif_neg hj]
    have hd : ps.drop j = [] := List.drop_of_length_le (by omega)
    rw [hd]
    exact ⟨trivial, h2, fun _ => trivial, (by show (0 : Nat) ≤ _; omega)⟩
theorem nxt_of {n at_ : Int} {ps : List Pce} {la : Pce} {j : Nat} (ha : at_ ≤ n) (h1 : Ord n (at_ + 1) (ps.drop j)) (h2 : la.at_ + la.long ≤ n) (h3 : at_ < la.at_ + la.long → Ord n (la.at_ + la.long + 1) (ps.drop j)) :
    (at_ < n → at_ < nxtV ps la j at_ n) ∧ nxtV ps la j at_ n ≤ n ∧ at_ ≤ nxtV ps la j at_ n ∧ (∀ t, at_ < t → t ≤ nxtV ps la j at_ n → Wst n ps la j t) := by
  unfold nxtV
  by_cases hl : at_ < la.at_ + la.long
  · simp only [if_pos hl]
    exact ⟨fun _ => hl, h2, by omega, fun t t1 t2 => ⟨(h3 hl).mono (by omega), h2, fun _ => h3 hl⟩⟩
  · simp only [if_neg hl]
    by_cases hj : j < ps.length
    · have hd : ps.drop j = ps[j] :: ps.drop (j + 1) := List.drop_eq_getElem_cons hj
      simp only [dif_pos hj]
      rw [hd] at h1
      obtain ⟨a1, a2, a3, a4, a5⟩ := h1
      refine ⟨fun _ => by omega, by omega, by omega, fun t t1 t2 => ⟨by rw [hd]; exact ⟨t2, a2, a3, a4, a5⟩, h2, fun h => absurd h (by omega)⟩⟩
    · simp only [dif_neg hj]
      have hd : ps.drop j = [] := List.drop_of_length_le (by omega)
      exact ⟨fun h => h, Int.le_refl _, ha, fun t t1 t2 => ⟨by rw [hd]; trivial, h2, fun h => absurd h (by omega)⟩⟩

/-- How far steps go. -/
def longs : List Stp → Int
  | [] => 0
  | x :: r => x.long + longs r
theorem runs_of (n : Int) (hn : n ≤ 20000) (A B : List Pce) : ∀ (k : Nat) (at_ : Int) (la : Pce) (ja : Nat) (lb : Pce) (jb : Nat), 0 ≤ at_ → at_ ≤ n → n - at_ ≤ k → Wst n A la ja at_ → Wst n B lb jb at_ →
    ∃ xs, Runs A B n at_ la ja lb jb xs ∧ (∀ x ∈ xs, StpOk x) ∧ xs.length ≤ k + 1 ∧ longs xs ≤ n - at_ := by
  intro k
  induction k with
  | zero =>
    intro at_ la ja lb jb h0 h1 hk hA hB
    obtain rfl : at_ = n := by omega
    obtain ⟨a1, a2, a3, a4⟩ := hA.arr
    obtain ⟨b1, b2, b3, b4⟩ := hB.arr
    obtain ⟨-, na2, na3, -⟩ := nxt_of (Int.le_refl _) a1 a2 a3
    obtain ⟨-, nb2, nb3, -⟩ := nxt_of (Int.le_refl _) b1 b2 b3
    refine ⟨_, .last h0, ?_, by simp, by simp only [longs, stpA, toV]; omega⟩
    intro x hx
    obtain rfl := List.mem_singleton.1 hx
    refine ⟨?_, ?_, a4, b4⟩ <;> (simp only [stpA, toV]; omega)
  | succ k ih =>
    intro at_ la ja lb jb h0 h1 hk hA hB
    obtain ⟨a1, a2, a3, a4⟩ := hA.arr
    obtain ⟨b1, b2, b3, b4⟩ := hB.arr
    obtain ⟨na1, na2, na3, na4⟩ := nxt_of h1 a1 a2 a3
    obtain ⟨nb1, nb2, nb3, nb4⟩ := nxt_of h1 b1 b2 b3
    by_cases he : at_ = n
    · subst he
      refine ⟨_, .last h0, ?_, by simp, by simp only [longs, stpA, toV]; omega⟩
      intro x hx
      obtain rfl := List.mem_singleton.1 hx
      refine ⟨?_, ?_, a4, b4⟩ <;> (simp only [stpA, toV]; omega)
    · have hlt : at_ < n := by omega
      have := na1 hlt
      have := nb1 hlt
      obtain ⟨xs, r1, r2, r3, r4⟩ := ih (toV A B n at_ (arrP A la ja at_) (arrJ A ja at_) (arrP B lb jb at_) (arrJ B jb at_)) _ _ _ _ (by simp only [toV]; omega) (by simp only [toV]; omega) (by simp only [toV]; omega) (na4 _ (by simp only [toV]; omega) (by simp only [toV]; omega)) (nb4 _ (by simp only [toV]; omega) (by simp only [toV]; omega))
      refine ⟨_, .more h0 hlt (by simp only [toV]; omega) r1, ?_, by simp; omega, by simp only [longs, stpA]; omega⟩
      intro x hx
      rcases List.mem_cons.1 hx with rfl | hx
      · refine ⟨?_, ?_, a4, b4⟩ <;> (simp only [stpA, toV]; omega)
      · exact r2 x hx

/-- The steps of two right changes. -/
theorem steps_there {n : Int} {es fs : List Ed} (h : changeFault n es = 0) (g : changeFault n fs = 0) :
    ∃ xs, Runs (goP es 0) (goP fs 0) n 0 pcZ 0 pcZ 0 xs ∧ (∀ x ∈ xs, StpOk x) ∧ xs.length ≤ 20001 ∧ longs xs ≤ 20000 := by
  obtain ⟨hn, -, hr, -⟩ := changeFault_zero h
  obtain ⟨-, -, gr, -⟩ := changeFault_zero g
  have a := goP_ord n es _ hr (fun e he => ((right_all h).2.2.2.1 e he).2.2.2.2)
  have b := goP_ord n fs _ gr (fun e he => ((right_all g).2.2.2.1 e he).2.2.2.2)
  obtain ⟨xs, r1, r2, r3, r4⟩ := runs_of n hn.2 (goP es 0) (goP fs 0) 20000 0 pcZ 0 pcZ 0 (Int.le_refl _) hn.1 (by have := hn.2; omega)
    ⟨a, by simp [pcZ]; omega, fun h => absurd h (by simp [pcZ])⟩ ⟨b, by simp [pcZ]; omega, fun h => absurd h (by simp [pcZ])⟩
  exact ⟨xs, r1, r2, r3, by have := hn.2; omega⟩

/-- What a draft's edits reach. -/
def DrO (d : Dr) (s : Int) (k : Nat) : Prop := (∀ e ∈ d.out, 0 ≤ e.old ∧ e.old ≤ s ∧ e.new.size ≤ k) ∧ (0 ≤ d.old ∧ d.old ≤ s) ∧ d.txt.size ≤ k
theorem DrO.close {d : Dr} {s : Int} {k : Nat} (h : DrO d s k) : DrO d.close s k := by
  obtain ⟨h1, ⟨h2, h2'⟩, h3⟩ := h
  unfold Dr.close
  split
  · exact ⟨h1, ⟨h2, h2'⟩, h3⟩
  · refine ⟨?_, ⟨Int.le_refl _, by simp only; omega⟩, by show (0 : Nat) ≤ _; omega⟩
    intro e he
    rcases List.mem_append.1 he with he | he
    · exact h1 e he
    · obtain rfl := List.mem_singleton.1 he
      exact ⟨h2, h2', h3⟩
theorem DrO.keep {d : Dr} {s : Int} {k : Nat} (h : DrO d s k) (l : Int) : DrO (d.keep l) s k := by
  unfold Dr.keep
  split
  · exact h
  · exact h.close
theorem DrO.put {d : Dr} {s : Int} {k : Nat} (h : DrO d s k) {t : ByteArray} (ht : t.size ≤ 40000) : DrO (d.put t) s (k + 40000) := by
  obtain ⟨h1, h2, h3⟩ := h
  exact ⟨fun e he => by have := h1 e he; omega, h2, by show (d.txt ++ t).size ≤ _; rw [ByteArray.size_append]; omega⟩
theorem DrO.drop {d : Dr} {s : Int} {k : Nat} (h : DrO d s k) {l : Int} (hl : 0 ≤ l) : DrO (d.drop l) (s + l) k := by
  obtain ⟨h1, ⟨h2, h2'⟩, h3⟩ := h
  exact ⟨fun e he => by have := h1 e he; omega, ⟨by show 0 ≤ d.old + l; omega, by show d.old + l ≤ _; omega⟩, h3⟩
theorem DrO.mono {d : Dr} {s s' : Int} {k k' : Nat} (h : DrO d s k) (hs : s ≤ s') (hk : k ≤ k') : DrO d s' k' := by
  obtain ⟨h1, ⟨h2, h2'⟩, h3⟩ := h
  exact ⟨fun e he => by have := h1 e he; omega, ⟨h2, by omega⟩, by omega⟩
theorem DrO.pastA {d : Dr} {s : Int} {k : Nat} {x : Stp} (h : DrO d s k) (hx : StpOk x) : DrO (pastA d x) (s + x.long) (k + 80000) := by
  obtain ⟨x1, x2, x3, x4⟩ := hx
  have h1 := (h.keep x.ab.new.size).put x4
  unfold Ytajigndlcdiinaa.pastA
  split
  · exact h1.mono (by omega) (by omega)
  · split
    · exact (h1.drop x1).mono (Int.le_refl _) (by omega)
    · exact (h1.keep _).mono (by omega) (by omega)
theorem DrO.pastB {d : Dr} {s : Int} {k : Nat} {x : Stp} (h : DrO d s k) (hx : StpOk x) : DrO (pastB d x) (s + x.long) (k + 80000) := by
  obtain ⟨x1, x2, x3, x4⟩ := hx
  have h1 := (h.put x3).keep x.bb.new.size
  unfold Ytajigndlcdiinaa.pastB
  split
  · exact h1.mono (by omega) (by omega)
  · split
    · exact (h1.drop x1).mono (Int.le_refl _) (by omega)
    · exact (h1.keep _).mono (by omega) (by omega)
theorem DrO.bothS {d : Dr} {s : Int} {k : Nat} {x : Stp} (h : DrO d s k) (hx : StpOk x) : DrO (bothS d x) (s + x.long) (k + 80000) := by
  obtain ⟨x1, x2, x3, x4⟩ := hx
  have h1 := (h.put x3).put x4
  unfold Ytajigndlcdiinaa.bothS
  split
  · exact (h1.drop x1).mono (Int.le_refl _) (by omega)
  · exact (h1.keep _).mono (by omega) (by omega)
theorem DrO.fold (f : Dr → Stp → Dr) (hf : ∀ {d s k x}, DrO d s k → StpOk x → DrO (f d x) (s + x.long) (k + 80000)) : ∀ (xs : List Stp) (d : Dr) (s : Int) (k : Nat), (∀ x ∈ xs, StpOk x) → DrO d s k → DrO (xs.foldl f d) (s + longs xs) (k + 80000 * xs.length)
  | [], d, s, k, _, h => h.mono (by simp [longs]) (by simp)
  | x :: r, d, s, k, hx, h => by
    have := DrO.fold f hf r (f d x) _ _ (fun y hy => hx y (List.mem_cons_of_mem _ hy)) (hf h (hx x List.mem_cons_self))
    exact this.mono (by simp only [longs]; omega) (by simp only [List.length_cons]; omega)
theorem DrO.ends {f : Dr → Stp → Dr} (hf : ∀ {d s k x}, DrO d s k → StpOk x → DrO (f d x) (s + x.long) (k + 80000)) {xs : List Stp} (hx : ∀ x ∈ xs, StpOk x) (hl : longs xs ≤ 20000) (hn : xs.length ≤ 20001) : ∀ e ∈ (xs.foldl f drZ).close.out, 0 ≤ e.old ∧ e.old ≤ 20000 ∧ e.new.size ≤ 1099511627776 := by
  have h0 : DrO drZ 0 0 := ⟨fun e he => by simp [drZ] at he, ⟨Int.le_refl _, Int.le_refl _⟩, Nat.le_refl _⟩
  have h := (DrO.fold f hf xs drZ 0 0 hx h0).close
  intro e he
  obtain ⟨h1, h2, h3⟩ := h.1 e he
  exact ⟨h1, by omega, by omega⟩
end Go.Proofs.Ytajigndlcdiinaa
namespace Go.Proofs.Ytajigndlcdiinaa
open Go.RowKit

theorem lenGo_sum : ∀ (es : List Ed) (n : Int), lenGo n es = n + newSum es - oldSum es
  | [], n => by simp [lenGo, newSum, oldSum]
  | e :: r, n => by rw [lenGo, lenGo_sum r]; simp only [newSum, oldSum]; omega
theorem oldSum_pos : ∀ (n b : Int) (es : List Ed), Right n b es → 0 ≤ oldSum es ∧ (b ≤ n → oldSum es ≤ n - b)
  | _, _, [], _ => by simp only [oldSum]; omega
  | n, b, e :: r, h => by
    obtain ⟨q1, q2, q3, q4, q5, q6⟩ := h
    have := oldSum_pos n _ r q6
    simp only [oldSum]
    omega
theorem lenGo_right {n : Int} {es : List Ed} (h : changeFault n es = 0) : -1000000 ≤ lenGo n es ∧ lenGo n es ≤ 1000000 := by
  obtain ⟨hn, -, hr, hs⟩ := changeFault_zero h
  have := oldSum_pos n _ es hr
  rw [lenGo_sum]
  omega
theorem both_zero {n : Int} {es fs : List Ed} (h : bothFaultv n es fs = 0) : changeFault n es = 0 ∧ changeFault n fs = 0 := by
  unfold bothFaultv at h
  split at h
  · contradiction
  · rename_i h1
    exact ⟨by omega, h⟩
theorem steps_ex (n : Int) (es fs : List Ed) : ∃ xs, (bothFaultv n es fs = 0 → Runs (goP es 0) (goP fs 0) n 0 pcZ 0 pcZ 0 xs) ∧ (∀ x ∈ xs, StpOk x) ∧ xs.length ≤ 20001 ∧ longs xs ≤ 20000 := by
  by_cases h : bothFaultv n es fs = 0
  · obtain ⟨h1, h2⟩ := both_zero h
    obtain ⟨xs, r1, r2⟩ := steps_there h1 h2
    exact ⟨xs, fun _ => r1, r2⟩
  · exact ⟨[], fun g => absurd g h, by simp, by simp, by simp [longs]⟩
/-- The steps of two changes. -/
noncomputable def stepsOf (n : Int) (es fs : List Ed) : List Stp := (steps_ex n es fs).choose

theorem past_steps (n : Int) (a b : Option Addr) (c1 c2 : Nat) (es fs : List Ed) (w : World) (hl : es.length ≤ 1000000) (hl2 : fs.length ≤ 1000000) (hE : Eds w a es) (hF : Eds w b fs) (hS : EdsSmall es) (hT : EdsSmall fs) :
    Calls Try.prog 31 #[.int .i64 n, .slice a es.length c1, .slice b fs.length c2] w (PastPost (pastLA n es fs (stepsOf n es fs)) (pastLB n es fs (stepsOf n es fs)) (pastE n es fs (stepsOf n es fs)) w) := by
  obtain ⟨h1, h2, h3, h4⟩ := (steps_ex n es fs).choose_spec
  exact past_any n a b c1 c2 es fs _ w hl hl2 hE hF hS hT h1 h2 h3 (DrO.ends DrO.pastA h2 h4 h3) (fun h => lenGo_right (both_zero h).1)
theorem both_steps (n : Int) (a b : Option Addr) (c1 c2 : Nat) (es fs : List Ed) (w : World) (hl : es.length ≤ 1000000) (hl2 : fs.length ≤ 1000000) (hE : Eds w a es) (hF : Eds w b fs) (hS : EdsSmall es) (hT : EdsSmall fs) :
    Calls Try.prog 32 #[.int .i64 n, .slice a es.length c1, .slice b fs.length c2] w (BothPost (bothL n es fs (stepsOf n es fs)) (bothE n es fs (stepsOf n es fs)) w) := by
  obtain ⟨h1, h2, h3, h4⟩ := (steps_ex n es fs).choose_spec
  exact both_any n a b c1 c2 es fs _ w hl hl2 hE hF hS hT h1 h2 h3 (DrO.ends DrO.bothS h2 h4 h3)
end Go.Proofs.Ytajigndlcdiinaa
