/- slices.Insert at edits, the values in a block of their own. -/
import Derived.Test.YtajigndlcdiinaaDTl
import Derived.Test.YtajigndlcdiinaaDTk
import Derived.Lib.Overlaps
import Derived.Lib.AppendZerosOnto
import Derived.Laws.Externs
namespace Go.Proofs.Ytajigndlcdiinaa
open Go Go.RowKit
attribute [local go_sem] Oper.semAt_some

/-- A row of edits' cells, known whole. -/
def RpPost (base : Nat) (w0 : World) (k : Nat) (Z : List Value) (e : Ending) (w' : World) : Prop := ∃ v', e = .returned v' ∧ w'.ownsRow base 47 3 v' k Z ∧ Below base w0 w'
theorem below_grown {B : Nat} {w0 w w' : World} {r : Option Nat} (h : Below B w0 w) (g : w.grownBy w' r) (hB : B ≤ w.heap.size) (hr : ∀ b, r = some b → B ≤ b) : Below B w0 w' :=
  h.trans ⟨g.os, g.tape, g.output, g.size, fun k hk => g.block k (by omega) (fun e => by have := hr k e.symm; omega)⟩

theorem splice_in (C X Y : List Value) (i n m : Nat) (hX : C.take n = X) (hf : n + m ≤ C.length) (hi : i ≤ n) (hY : Y.length = m) : (splice (splice C (i + m) (X.drop i)) i Y).take (n + m) = X.take i ++ Y ++ X.drop i := by
  have hXl : X.length = n := by rw [← hX, List.length_take]; omega
  obtain ⟨D, hD⟩ : ∃ D, splice C (i + m) (X.drop i) = D := ⟨_, rfl⟩
  have e1 : D.take i = X.take i := by
    rw [← hD]
    unfold splice
    rw [List.take_append_of_le_length (by rw [List.length_take]; omega), List.take_take, ← hX, List.take_take]
    congr 1; omega
  have e2 : D.drop (i + m) = X.drop i ++ C.drop (i + m + (X.drop i).length) := by
    rw [← hD]
    unfold splice
    rw [List.drop_left' (by rw [List.length_take]; omega)]
  rw [hD]
  unfold splice
  rw [hY, e1, e2]
  rw [show X.take i ++ (Y ++ (X.drop i ++ C.drop (i + m + (X.drop i).length))) = (X.take i ++ Y ++ X.drop i) ++ C.drop (i + m + (X.drop i).length) by simp only [List.append_assoc]]
  rw [List.take_left' (by simp only [List.length_append, List.length_take, List.length_drop]; omega)]

theorem splice_new (R A Y D : List Value) (i m k : Nat) (hA : R.take i = A) (hf : i + m ≤ R.length) (hY : Y.length = m) (hk : D.length = k) : (splice (splice R i Y) (i + m) D).take (i + m + k) = A ++ Y ++ D := by
  have hAl : A.length = i := by rw [← hA, List.length_take]; omega
  have e1 : (splice R i Y).take (i + m) = A ++ Y := by
    unfold splice
    rw [hA, ← List.append_assoc, List.take_left' (by rw [List.length_append]; omega)]
  unfold splice at e1 ⊢
  rw [e1, ← List.append_assoc, List.take_left' (by simp only [List.length_append]; omega)]

set_option maxHeartbeats 1000000 in
set_option maxRecDepth 100000 in
theorem insert_any (base : Nat) (sa va : Option Addr) (sc vc n i m : Nat) (X Y : List Value) (w w0 : World) (hb : Below base w0 w) (hbs : base ≤ w.heap.size) (hs : w.ownsRow base 47 3 (.slice sa n sc) n X) (hv : w.ownsRow base 47 3 (.slice va m vc) m Y)
    (hne : ∀ a b, sa = some a → va = some b → b.block ≠ a.block) (hi : i ≤ n) (hn : n ≤ 100000) (hm : m ≤ 100000) (hX : ∀ v ∈ X, v.oneCell' = true) (hY : ∀ v ∈ Y, v.oneCell' = true) :
    Calls Try.prog 95 #[.slice sa n sc, .int .i64 i, .slice va m vc] w (RpPost base w0 (n + m) (X.take (i * 3) ++ Y ++ X.drop (i * 3))) := by
  obtain ⟨i0, hi0, hz0, hz1, hz2⟩ := info_parts infoEdit
  obtain ⟨Z, hZ⟩ : ∃ Z, X.take (i * 3) ++ Y ++ X.drop (i * 3) = Z := ⟨_, rfl⟩
  rw [hZ]
  obtain ⟨P, hP⟩ : ∃ P, RpPost base w0 (n + m) Z = P := ⟨_, rfl⟩
  rw [hP]
  have HP := Lib.hid hP
  have HZ := Lib.hid hZ
  have HS := Lib.hid hs
  have HV := Lib.hid hv
  have HX := Lib.hid hX
  have HY := Lib.hid hY
  have HB := Lib.hid hb
  have HNE := Lib.hid hne
  clear hP hZ hs hv hX hY hb hne
  have hXl := HS.out.1
  have hYl := HV.out.1
  by_cases hm0 : m = 0
  · have b1 : ((m : Int) == 0) = true := by simp [hm0]
    have hr : P (.returned (.slice sa n sc)) w := by
      rw [← HP.out]
      refine ⟨_, rfl, ?_, HB.out⟩
      have : Y = [] := List.eq_nil_of_length_eq_zero (by omega)
      rw [← HZ.out, this, hm0]
      simpa using HS.out
    have HR := Lib.hid hr
    clear hr hm0
    rcases HS.out.2 with ⟨hsn, hn0⟩ | ⟨g, cap, cur, hsv, hbg, hg, hnc, hcm, hcs, htk⟩
    · obtain ⟨rfl, rfl, rfl⟩ : sa = none ∧ n = 0 ∧ sc = 0 := by simpa using hsn
      obtain rfl : i = 0 := by omega
      clear hsn hn0
      go_enter Try.func95, Try.ntmps95
      go_wp2_with fail
      all_goals first | exact HR.out | (go_ret; exact HR.out)
    · obtain ⟨rfl, rfl⟩ : sa = some ⟨g, 0, none⟩ ∧ sc = cap := by simpa using hsv
      clear hsv hcs htk
      unfold maxLen at hcm
      by_cases hic : i = sc
      · subst hic
        go_enter Try.func95, Try.ntmps95
        go_wp2_with fail
        all_goals exact HR.out
      · go_enter Try.func95, Try.ntmps95
        go_wp2_with fail
        all_goals exact HR.out
  by_cases hin : i = n
  · subst hin
    have b1 : ((m : Int) == 0) = false := by simp [hm0]
    have b2 : ((i : Int) == (i : Int)) = true := by simp
    obtain ⟨vb, vcap, vcur, hvv, hvbg, hvg, hvnc, hvcm, hvcs, hvtk⟩ : ∃ g cap cur, Value.slice va m vc = .slice (some ⟨g, 0, none⟩) m cap ∧ base ≤ g ∧ w.heap[g]? = some (.cells cur 47 (0, 0)) ∧ m ≤ cap ∧ cap ≤ maxLen ∧ cur.size = cap * 3 ∧ cur.toList.take (m * 3) = Y := by
      rcases HV.out.2 with ⟨-, h⟩ | h
      · exact absurd h hm0
      · exact h
    obtain ⟨rfl, rfl⟩ : va = some ⟨vb, 0, none⟩ ∧ vc = vcap := by simpa using hvv
    have HVC := Lib.hid (HV.out.cells (g := vb) rfl)
    have HFIN := Lib.hid (show ∀ v' w', w'.ownsRow base 47 3 v' (i + m) (X ++ Y) → w.grownBy w' (Value.slice sa i sc).ownBlock → P (.returned v') w' from fun v' w' h1 h2 => by
      rw [← HP.out]
      refine ⟨v', rfl, ?_, below_grown HB.out h2 hbs ?_⟩
      · rw [← HZ.out, List.take_of_length_le (by omega), List.drop_eq_nil_of_le (by omega), List.append_nil]; exact h1
      · intro b hb
        rcases HS.out.2 with ⟨h3, -⟩ | ⟨g, cap, cur, h3, h4, -⟩
        · rw [h3] at hb; cases hb
        · rw [h3] at hb; simp only [Value.ownBlock, Option.some.injEq] at hb; omega)
    clear hvv hvcs hvtk
    rcases HS.out.2 with ⟨hsn, hn0⟩ | ⟨g, cap, cur, hsv, hbg, hg, hnc, hcm, hcs, htk⟩
    · obtain ⟨rfl, rfl, rfl⟩ : sa = none ∧ i = 0 ∧ sc = 0 := by simpa using hsn
      clear hsn hn0
      go_enter Try.func95, Try.ntmps95
      go_wp2_with (at_builtin; refine wpList_append_own _ rfl _ _ _ rfl base 47 i0 _ 3 32 rfl hi0 hz0 hz1 hz2 rfl (by omega) _ _ _ rfl HS.out _ m _ Y rfl hYl HVC.out HY.out (by unfold maxLen; omega) (by omega) hbs ?_; intro v' w1 own1 g1 _; have OWN1 := Lib.hid own1; clear own1)
      all_goals first | exact HFIN.out _ _ OWN1.out g1 | (go_ret; exact HFIN.out _ _ OWN1.out g1)
    · obtain ⟨rfl, rfl⟩ : sa = some ⟨g, 0, none⟩ ∧ sc = cap := by simpa using hsv
      clear hsv hcs htk
      unfold maxLen at hcm
      go_enter Try.func95, Try.ntmps95
      go_wp2_with (at_builtin; refine wpList_append_own _ rfl _ _ _ rfl base 47 i0 _ 3 32 rfl hi0 hz0 hz1 hz2 rfl (by omega) _ _ _ rfl HS.out _ m _ Y rfl hYl HVC.out HY.out (by unfold maxLen; omega) (by omega) hbs ?_; intro v' w1 own1 g1 _; have OWN1 := Lib.hid own1; clear own1)
      all_goals first | exact HFIN.out _ _ OWN1.out g1 | (go_ret; exact HFIN.out _ _ OWN1.out g1)
  obtain ⟨vb, vcap, vcur, hvv, hvbg, hvg, hvnc, hvcm, hvcs, hvtk⟩ : ∃ g cap cur, Value.slice va m vc = .slice (some ⟨g, 0, none⟩) m cap ∧ base ≤ g ∧ w.heap[g]? = some (.cells cur 47 (0, 0)) ∧ m ≤ cap ∧ cap ≤ maxLen ∧ cur.size = cap * 3 ∧ cur.toList.take (m * 3) = Y := by
    rcases HV.out.2 with ⟨-, h⟩ | h
    · exact absurd h hm0
    · exact h
  obtain ⟨rfl, rfl⟩ : va = some ⟨vb, 0, none⟩ ∧ vc = vcap := by simpa using hvv
  obtain ⟨g, cap, cur, hsv, hbg, hg, hnc, hcm, hcs, htk⟩ : ∃ g cap cur, Value.slice sa n sc = .slice (some ⟨g, 0, none⟩) n cap ∧ base ≤ g ∧ w.heap[g]? = some (.cells cur 47 (0, 0)) ∧ n ≤ cap ∧ cap ≤ maxLen ∧ cur.size = cap * 3 ∧ cur.toList.take (n * 3) = X := by
    rcases HS.out.2 with ⟨-, h⟩ | h
    · omega
    · exact h
  obtain ⟨rfl, rfl⟩ : sa = some ⟨g, 0, none⟩ ∧ sc = cap := by simpa using hsv
  have hvb : vb ≠ g := HNE.out _ _ rfl rfl
  have HVC := Lib.hid (HV.out.cells (g := vb) rfl)
  have HSC := Lib.hid (HS.out.cells (g := g) rfl)
  obtain ⟨C, rfl⟩ : ∃ C : List Value, cur = C.toArray := ⟨cur.toList, by simp⟩
  simp only [List.size_toArray] at hcs htk
  have HCS := Lib.hid hcs
  have HTK := Lib.hid htk
  clear hvv hvcs hvtk hsv hcs htk
  unfold maxLen at hcm
  have b1 : ((m : Int) == 0) = false := by simp [hm0]
  have b2 : ((i : Int) == (n : Int)) = false := by simp; omega
  have hsz : (Try.prog.info? 47).map (·.size) = some 3 := by rw [hi0]; simp [hz1]
  by_cases hroom : n + m ≤ sc
  · have b3 : decide ((sc : Int) < (n : Int) + (m : Int)) = false := by simp; omega
    have hz : ∀ w, (Go.sizeOf 47).run Try.prog w = .ok 3 w := fun w => by simp [sizeOf, typeInfo, hi0, hz1]
    have hov : ∀ lb cb, (callFunc 96 #[.slice (some ⟨vb, 0, none⟩) m vc, .slice (some ⟨g, (i + m) * 3, none⟩) lb cb]).run Try.prog w = .ok (.value (.bool false)) w := fun lb cb => by
      rw [run_callFunc_extern Try.func96 (by kernel_rfl) (by kernel_rfl) (by kernel_rfl) (e := Extern.SlicesOverlaps.overlaps #[28, 28] #[4]) (by kernel_rfl),
        Lib.run_overlaps_apart w 28 4 47 rfl 3 hz ⟨vb, 0, none⟩ ⟨g, (i + m) * 3, none⟩ m vc lb cb hvb 47 47 vcur.size C.length (by simp [World.shape?, hvg]) (by simp [World.shape?, hg]) (by rw [HCS.out]; omega) (by simp [World.frozen?, hvg]) (by simp [World.frozen?, hvg])]
      rfl
    have hw1 : IntKind.i64.wrap ((i : Int) + (m : Int)) = (i : Int) + (m : Int) := by rw [IntKind.wrap_i64]; omega
    have hb1 : (0 : Int) ≤ (i : Int) + (m : Int) := by omega
    have htn : ((i : Int) + (m : Int)).toNat = i + m := by omega
    have hb2 : ¬ (sc = i + m) := by omega
    have hb3 : (i : Int) ≤ (n : Int) + (m : Int) := by omega
    have hb4 : ¬ (sc = i) := by omega
    have mixed : Try.prog.follows Departure.mixedOrders = true := by kernel_rfl
    go_enter Try.func95, Try.ntmps95
    go_wp2_with (simp only [hov])
    have HN1 := Lib.hid (show (X.drop (i * 3)).length = Nat.min (n + m - i) (n + m - (i + m)) * 3 by rw [List.length_drop, hXl]; simp only [Nat.min_def]; split <;> omega)
    have HPOS1 := Lib.hid (show 0 < (X.drop (i * 3)).length → (some ⟨g, (i + m) * 3, none⟩ : Option Addr) = some ⟨g, (i + m) * 3, none⟩ ∧ ∃ ad, (some ⟨g, i * 3, none⟩ : Option Addr) = some ad ∧ ∀ j v, (X.drop (i * 3))[j]? = some v → w.cell? (ad.add j) = some v from fun _ => ⟨rfl, _, rfl, fun j v hj => by
      rw [List.getElem?_drop] at hj
      have := HSC.out _ _ hj
      rw [Addr.add_lit] at this ⊢
      simpa using this⟩)
    have HFIT1 := Lib.hid (show (i + m) * 3 + (X.drop (i * 3)).length ≤ C.length by rw [List.length_drop, hXl, HCS.out]; omega)
    have HX1 := Lib.hid (show ∀ v ∈ X.drop (i * 3), v.oneCell' = true from fun v hv => HX.out v (List.mem_of_mem_drop hv))
    have HBd := Lib.hid (show Below base w0 w.drew from HB.out.trans ⟨rfl, rfl, rfl, Nat.le_refl _, fun _ _ => rfl⟩)
    obtain ⟨D, hD⟩ : ∃ D, splice C ((i + m) * 3) (X.drop (i * 3)) = D := ⟨_, rfl⟩
    have HD := Lib.hid hD
    have HDl := Lib.hid (show D.length = sc * 3 by rw [← hD, length_splice _ _ _ HFIT1.out, HCS.out])
    clear hD
    go_region_law_o (refine step_copy_spliceK rfl _ _ 28 28 rfl 47 3 (by omega) rfl hsz (some ⟨g, (i + m) * 3, none⟩) (some ⟨g, i * 3, none⟩) (n + m - (i + m)) (sc - (i + m)) (n + m - i) (sc - i) (by simp [Act.eval, Act.put]) (by simp [Act.eval, Act.put]) g ((i + m) * 3) C 47 hg (X.drop (i * 3)) HN1.out HPOS1.out HFIT1.out HX1.out base w0 HBd.out hbg ?_; rw [HD.out]; intro w2 HG2 hB2)
    have HB2 := Lib.hid hB2
    clear hB2
    have HN2 := Lib.hid (show Y.length = Nat.min m (n + m - i) * 3 by rw [hYl]; simp only [Nat.min_def]; split <;> omega)
    have hsame : w2.heap[vb]? = w.heap[vb]? := HG2.out.2.1 vb hvb
    have HPOS2 := Lib.hid (show 0 < Y.length → (some ⟨g, i * 3, none⟩ : Option Addr) = some ⟨g, i * 3, none⟩ ∧ ∃ ad, (some ⟨vb, 0, none⟩ : Option Addr) = some ad ∧ ∀ j v, Y[j]? = some v → w2.cell? (ad.add j) = some v from fun _ => ⟨rfl, _, rfl, fun j v hj => by
      have := HVC.out _ _ hj
      rw [Addr.add_lit] at this ⊢
      rw [← this]
      exact World.cell?_of_block hsame⟩)
    have HFIT2 := Lib.hid (show i * 3 + Y.length ≤ D.length by rw [hYl, HDl.out]; omega)
    have hg2 := HG2.out.1
    go_wp2_with (refine wpList_copy_spliceK rfl (.tmp 80) (.tmp 81) 28 28 rfl 47 3 (by omega) rfl hsz (some ⟨g, i * 3, none⟩) (some ⟨vb, 0, none⟩) (n + m - i) (sc - i) m vc rfl rfl g (i * 3) D 47 hg2 Y HN2.out HPOS2.out HFIT2.out HY.out base w0 HB2.out hbg ?_; intro w3 HG3 hB3; have HB3 := Lib.hid hB3; clear hB3)
    try go_ret
    rw [← HP.out]
    have hl : (X.take (i * 3) ++ Y ++ X.drop (i * 3)).length = (n + m) * 3 := by simp only [List.length_append, List.length_take, List.length_drop]; omega
    refine ⟨_, rfl, ⟨by rw [← HZ.out, hl], .inr ⟨g, sc, _, rfl, hbg, HG3.out.1, hroom, by unfold maxLen; omega, ?_, ?_⟩⟩, HB3.out⟩
    · rw [List.size_toArray, length_splice _ _ _ HFIT2.out, HDl.out]
    · rw [← HZ.out, ← HD.out]
      have := splice_in C X Y (i * 3) (n * 3) (m * 3) HTK.out (by rw [HCS.out]; omega) (by omega) hYl
      rw [show (n + m) * 3 = n * 3 + m * 3 by omega, show (i + m) * 3 = i * 3 + m * 3 by omega]
      exact this
  · have b3 : decide ((sc : Int) < (n : Int) + (m : Int)) = true := by simp; omega
    have hkk : (n : Int) + (m : Int) - (i : Int) = ((n + m - i : Nat) : Int) := by omega
    have hik : i + (n + m - i) = n + m := by omega
    have hlt : g < w.heap.size := (Array.getElem?_eq_some_iff.1 hg).1
    have hltv : vb < w.heap.size := (Array.getElem?_eq_some_iff.1 hvg).1
    obtain ⟨R, G, W1, hrz, hRt, hRl, hGn, hG63, hgN, hold, HB1⟩ : ∃ (R : List Value) (G : Nat) (W1 : World), (∀ ty, (Builtin.append_ #[28, 3] ty #[.slice (some ⟨g, 0, none⟩) i sc, .int .i64 ((n : Int) + (m : Int) - (i : Int))]).run Try.prog w = .ok (.slice (some ⟨w.heap.size, 0, none⟩) (n + m) G) W1)
        ∧ Hid (R.take (i * 3) = X.take (i * 3)) ∧ Hid (R.length = G * 3) ∧ n + m ≤ G ∧ G ≤ maxLen ∧ W1.heap[w.heap.size]? = some (.cells R.toArray 47 (0, 0)) ∧ Hid (∀ b, b < w.heap.size → W1.heap[b]? = w.heap[b]?) ∧ Hid (Below base w0 W1) := by
      have hfc : (Builtin.firstCells i0.size i (.slice (some ⟨g, 0, none⟩) i sc)).run Try.prog w.drew = .ok (X.take (i * 3)).toArray w.drew := by
        rw [hz1]
        exact run_firstCells_some w.drew 3 i ⟨g, 0, none⟩ i sc (X.take (i * 3)) (by rw [List.length_take]; omega) (fun j v hj => by
          rw [List.getElem?_take] at hj
          split at hj
          · exact HSC.out j v hj
          · cases hj)
      have hbig : (n + m) * 32 ≤ 140737488355328 := by omega
      have hr := fun ty => Lib.run_append_grow_zeros w 28 3 ty 47 i0 _ .i64 .i64 rfl rfl hi0 hz0 (some ⟨g, 0, none⟩) i sc (X.take (i * 3)) hfc (n + m - i) (by omega) (by omega) (by omega) (by omega) (by rw [hz2]; omega) (by rw [hz2, hik]; exact growslice_fits (by omega) hbig)
      rw [hik] at hr
      refine ⟨((X.take (i * 3)).toArray ++ Builtin.zeroCells (Value.agg #[.int .i64 0, .int .i64 0, .string ⟨#[]⟩]).cells (n + m - i) ++ Builtin.zeroCells (Value.agg #[.int .i64 0, .int .i64 0, .string ⟨#[]⟩]).cells (grownCap w (n + m) sc 47 - (n + m))).toList, grownCap w (n + m) sc 47, _, fun ty => by rw [hkk]; exact hr ty, Lib.hid ?_, Lib.hid ?_, grownCap_ge w _ _ _, grownCap_le_maxLen w _ _ _ (by unfold maxLen; omega), ?_, Lib.hid ?_, Lib.hid ?_⟩
      · rw [Array.toList_append, Array.toList_append, List.append_assoc, List.take_left' (by rw [List.length_take]; omega)]
      · have := grownCap_ge w (n + m) sc 47
        rw [Array.length_toList, Array.size_append, Array.size_append, size_zeroCells, size_zeroCells, List.size_toArray, List.length_take]
        have e : (Value.agg #[.int .i64 0, .int .i64 0, .string ⟨#[]⟩]).cells.size = 3 := rfl
        rw [e]; omega
      · rw [Array.toArray_toList]; exact heap_alloc_new w.drew _
      · exact fun b hb => heap_alloc_old w.drew _ hb
      · exact HB.out.trans ⟨rfl, rfl, rfl, by simp [World.alloc], fun k hk => heap_alloc_old w.drew _ (show k < w.heap.size by omega)⟩
    unfold maxLen at hG63
    obtain ⟨N, hN⟩ : ∃ N, N = w.heap.size := ⟨_, rfl⟩
    rw [← hN] at hrz hgN hlt hltv hold
    have hgN' : g ≠ N := by omega
    have hvN' : vb ≠ N := by omega
    have hNb : base ≤ N := by omega
    clear hN
    have HN1 := Lib.hid (show Y.length = Nat.min m (n + m - i) * 3 by rw [hYl]; simp only [Nat.min_def]; split <;> omega)
    have HPOS1 := Lib.hid (show 0 < Y.length → (some ⟨N, i * 3, none⟩ : Option Addr) = some ⟨N, i * 3, none⟩ ∧ ∃ ad, (some ⟨vb, 0, none⟩ : Option Addr) = some ad ∧ ∀ j v, Y[j]? = some v → W1.cell? (ad.add j) = some v from fun _ => ⟨rfl, _, rfl, fun j v hj => by
      have := HVC.out _ _ hj
      rw [Addr.add_lit] at this ⊢
      rw [← this]
      exact World.cell?_of_block (hold.out vb hltv)⟩)
    have HFIT1 := Lib.hid (show i * 3 + Y.length ≤ R.length by rw [hYl, hRl.out]; omega)
    obtain ⟨D, hD⟩ : ∃ D, splice R (i * 3) Y = D := ⟨_, rfl⟩
    have HD := Lib.hid hD
    have HDl := Lib.hid (show D.length = G * 3 by rw [← hD, length_splice _ _ _ HFIT1.out, hRl.out])
    clear hD
    have hw1 : IntKind.i64.wrap ((i : Int) + (m : Int)) = (i : Int) + (m : Int) := by rw [IntKind.wrap_i64]; omega
    have hb1 : (0 : Int) ≤ (i : Int) + (m : Int) := by omega
    have htn : ((i : Int) + (m : Int)).toNat = i + m := by omega
    have hGi : ¬ (G = i) := by omega
    have hGim : ¬ (G = i + m) := by omega
    have hci : ¬ (sc = i) := by omega
    have hb3 : (i : Int) ≤ (n : Int) := by omega
    have mixed : Try.prog.follows Departure.mixedOrders = true := by kernel_rfl
    clear hkk hik
    go_enter Try.func95, Try.ntmps95
    go_wp2_with (first | (at_builtin; refine Lib.wpList_append_run _ rfl _ _ _ _ rfl _ _ rfl rfl _ _ (hrz _) ?_) | (refine wpList_copy_spliceK rfl (.tmp 43) (.tmp 44) 28 28 rfl 47 3 (by omega) rfl hsz (some ⟨N, i * 3, none⟩) (some ⟨vb, 0, none⟩) (n + m - i) (G - i) m vc rfl rfl N (i * 3) R 47 hgN Y HN1.out HPOS1.out HFIT1.out HY.out base w0 HB1.out hNb ?_; rw [HD.out]; intro w2 HG2 hB2; have HB2 := Lib.hid hB2; clear hB2))
    have HN2 := Lib.hid (show (X.drop (i * 3)).length = Nat.min (n - i) (n + m - (i + m)) * 3 by rw [List.length_drop, hXl]; simp only [Nat.min_def]; split <;> omega)
    have HPOS2 := Lib.hid (show 0 < (X.drop (i * 3)).length → (some ⟨N, (i + m) * 3, none⟩ : Option Addr) = some ⟨N, (i + m) * 3, none⟩ ∧ ∃ ad, (some ⟨g, i * 3, none⟩ : Option Addr) = some ad ∧ ∀ j v, (X.drop (i * 3))[j]? = some v → w2.cell? (ad.add j) = some v from fun _ => ⟨rfl, _, rfl, fun j v hj => by
      rw [List.getElem?_drop] at hj
      have := HSC.out _ _ hj
      rw [Addr.add_lit] at this ⊢
      rw [← show w2.cell? ⟨g, 0 + (i * 3 + j), none⟩ = _ from (World.cell?_of_block ((HG2.out.2.1 g hgN').trans (hold.out g hlt))).trans this, Nat.zero_add]⟩)
    have HFIT2 := Lib.hid (show (i + m) * 3 + (X.drop (i * 3)).length ≤ D.length by rw [List.length_drop, hXl, HDl.out]; omega)
    have HX2 := Lib.hid (show ∀ v ∈ X.drop (i * 3), v.oneCell' = true from fun v hv => HX.out v (List.mem_of_mem_drop hv))
    have HB2d := Lib.hid (show Below base w0 w2.drew from HB2.out.trans ⟨rfl, rfl, rfl, Nat.le_refl _, fun _ _ => rfl⟩)
    have hg2 := HG2.out.1
    go_region_law_o (refine step_copy_spliceK rfl _ _ 28 28 rfl 47 3 (by omega) rfl hsz (some ⟨N, (i + m) * 3, none⟩) (some ⟨g, i * 3, none⟩) (n + m - (i + m)) (G - (i + m)) (n - i) (sc - i) (by simp [Act.eval, Act.put]) (by simp [Act.eval, Act.put]) N ((i + m) * 3) D 47 hg2 (X.drop (i * 3)) HN2.out HPOS2.out HFIT2.out HX2.out base w0 HB2d.out hNb ?_; intro w3 HG3 hB3; have HB3 := Lib.hid hB3; clear hB3)
    go_wp2
    try go_ret
    rw [← HP.out]
    have hl : (X.take (i * 3) ++ Y ++ X.drop (i * 3)).length = (n + m) * 3 := by simp only [List.length_append, List.length_take, List.length_drop]; omega
    refine ⟨_, rfl, ⟨by rw [← HZ.out, hl], .inr ⟨N, G, _, rfl, hNb, HG3.out.1, hGn, by unfold maxLen; omega, ?_, ?_⟩⟩, HB3.out⟩
    · rw [List.size_toArray, length_splice _ _ _ HFIT2.out, HDl.out]
    · rw [← HZ.out, ← HD.out]
      have := splice_new R (X.take (i * 3)) Y (X.drop (i * 3)) (i * 3) (m * 3) (n * 3 - i * 3) hRt.out (by rw [hRl.out]; omega) hYl (by rw [List.length_drop, hXl])
      rw [show (n + m) * 3 = i * 3 + m * 3 + (n * 3 - i * 3) by omega, show (i + m) * 3 = i * 3 + m * 3 by omega]
      exact this
end Go.Proofs.Ytajigndlcdiinaa
