/- The law ChangesMade. -/
import Derived.Test.YtajigndlcdiinaaAB
import Derived.Test.YtajigndlcdiinaaAC
import Derived.Test.YtajigndlcdiinaaA8
import Derived.Test.YtajigndlcdiinaaL1
namespace Go.Proofs.Ytajigndlcdiinaa
open Go.RowKit

set_option maxHeartbeats 8000000 in
set_option maxRecDepth 100000 in
theorem changesMade_any (av : Option Addr) (cap : Nat) (xs : List Int) (w : World) (hx2 : xs.length ≤ 9223372036854775807)
    (hel : ∀ j, j < xs.length → ∃ bl off, av = some ⟨bl, off, none⟩ ∧ w.cell? ⟨bl, off + j, none⟩ = some (.int .i64 (xs.getD j 0))) :
    Calls Try.prog 3 #[.slice av xs.length cap] w (LawPost w) := by
  have S0 : Strm w.heap.size av cap xs (w.alloc (.cells #[.slice av xs.length cap, .int .i64 0] 25)) 0 := by
    refine ⟨heap_alloc_new w _, fun j hj => ?_⟩
    obtain ⟨bl, off, e, hc⟩ := hel j hj
    have := World.block_lt_of_cell? w _ hc
    exact ⟨bl, off, e, by simp at this; omega, World.grownBy.cell (World.grownBy_alloc w _ none) hc (by simp)⟩
  have G0 := World.grownBy_alloc w (.cells #[.slice av xs.length cap, .int .i64 0] 25) none
  clear hel
  go_enter Try.func3, Try.ntmps3
  go_wp2_with fail
  refine (letters_any 10 (by omega) (by omega) hx2 S0).mono ?_
  rintro e w1 ⟨rfl, T1⟩
  have r1 := rangev_bd xs 0 0 10
  have hsz := lettersTo_size xs (0 + 1) (rangev xs 0 0 10).toNat
  have G1 := sto_none T1 G0 (Nat.le_refl _)
  generalize lettersTo xs (0 + 1) (rangev xs 0 0 10).toNat = s at hsz ⊢
  obtain ⟨k1, hk1⟩ : ∃ k, k = 0 + 1 + (rangev xs 0 0 10).toNat := ⟨_, rfl⟩
  rw [← hk1] at T1
  have hk1b : k1 ≤ 11 := by omega
  have hsz2 : s.size ≤ 10 := by omega
  clear r1 hsz hk1 S0 G0
  go_wp2_with fail
  refine (pick_new [(s.size : Int), (s.size : Int), 5, 0, -1, 20000, 20001] (by simp) (by simp) (by omega) hx2 T1.strm).mono ?_
  rintro e w2 ⟨rfl, T2⟩
  have p1 : -1 ≤ pickv xs k1 [(s.size : Int), (s.size : Int), 5, 0, -1, 20000, 20001] ∧ pickv xs k1 [(s.size : Int), (s.size : Int), 5, 0, -1, 20000, 20001] ≤ 20001 := pickv_all (fun x => -1 ≤ x ∧ x ≤ 20001) _ _ _ (by simp) (by intro x hx; simp at hx; omega)
  generalize pickv xs k1 [(s.size : Int), (s.size : Int), 5, 0, -1, 20000, 20001] = n at p1 ⊢
  have G2 := sto_none T2 G1 (Nat.le_refl _)
  have T12 := Lib.hid (T1.trans T2)
  have T2s := T2.strm
  clear T1 T2 G1
  go_wp2_with fail
  refine (change_any (s.size : Int) (by omega) (by omega) hx2 T2s).mono ?_
  rintro e w3 ⟨v, rfl, own, T3⟩
  obtain ⟨c1, c2, c3, c4⟩ := change_small xs (k1 + 1) s.size (by omega)
  have G3 := sto_none T3 G2 (Nat.le_refl _)
  obtain ⟨k2, hk2⟩ : ∃ k, k = changeK xs (k1 + 1) s.size := ⟨_, rfl⟩
  rw [← hk2] at T3 c3 c4
  have hk2b : k2 ≤ 40 := by omega
  generalize changeV xs (k1 + 1) s.size = es at c1 c2 own
  have hsm := small_of es c1
  have T3s := T3.strm
  have HT3 := Lib.hid T3
  obtain ⟨a, cp, rfl, hE2, hab⟩ := eds_of_own own
  have hab2 : ∀ x, a = some x → some x.block ≠ some w.heap.size := fun x hx => by have := hab x hx; have := G2.size; have := T2s.lt; simp; omega
  clear own hab c1 hk2 c3 c4 T3
  go_wp2_with fail
  obtain ⟨D, hD⟩ : ∃ D, min (max n 0) 12 = D := ⟨_, rfl⟩
  rw [hD]
  have hD2 : 0 ≤ D ∧ D ≤ 12 := by omega
  clear hD
  refine (change_any D (by omega) (by omega) hx2 T3s).mono ?_
  rintro e w4 ⟨v, rfl, own, T4⟩
  obtain ⟨c1, c3, c4, c5⟩ := change_small xs k2 D (by omega)
  have G4 := sto_none T4 G3 (Nat.le_refl _)
  generalize changeV xs k2 D = fs at c1 c3 own
  have hsm2 := small_of fs c1
  have hE4 := Lib.hid (hE2.grown T4.grow hab2)
  obtain ⟨a2, cp2, rfl, hF0, _⟩ := eds_of_own own
  have hF4 := Lib.hid hF0
  have HG4 := Lib.hid G4
  clear own c1 c4 c5 T4 HT3 T12 T2s T3s hE2 hab2 hF0 G2 G3 G4 hD2
  obtain ⟨F1, hF1⟩ : ∃ F, changeFault s.size es = F := ⟨_, rfl⟩
  obtain ⟨F2, hF2⟩ : ∃ F, changeFault n fs = F := ⟨_, rfl⟩
  have HF1 := Lib.hid hF1
  have HF2 := Lib.hid hF2
  have hft : faultText s es = F1 := by rw [faultText, if_neg (by omega)]; exact hF1
  -- what the program answers
  have CA := Lib.hid (fun W (g : w4.grownBy W none) => apply_any s a cp es W (by omega) (by omega) (hE4.out.grown g (by simp)) hsm)
  have CL := Lib.hid (fun W (g : w4.grownBy W none) => lengthP_any n a2 cp2 fs W (by omega) (hF4.out.grown g (by simp)) hsm2)
  have CO := Lib.hid (fun W (g : w4.grownBy W none) => origin_any (s.size : Int) a cp es W (by omega) (hE4.out.grown g (by simp)) hsm)
  have CI := Lib.hid (fun W (g : w4.grownBy W none) => inverse_any s a cp es W (by omega) (by omega) (hE4.out.grown g (by simp)) hsm)
  have CQ := Lib.hid (fun W (g : w4.grownBy W none) => squeezed_any s a cp es W (by omega) (by omega) (hE4.out.grown g (by simp)) hsm)
  have CF := Lib.hid (fun W (g : w4.grownBy W none) => changeFault_any (s.size : Int) a cp es W (by omega) (hE4.out.grown g (by simp)) hsm)
  have CG := Lib.hid (fun W (g : w4.grownBy W none) => changeFault_any n a2 cp2 fs W (by omega) (hF4.out.grown g (by simp)) hsm2)
  have CK := Lib.hid (fun W (g : w4.grownBy W none) => check_any n a2 cp2 fs W (by omega) (hF4.out.grown g (by simp)) hsm2)
  unfold ApplyEPost at CA
  unfold LenPost at CL
  unfold IntsErrP at CO
  unfold EdsErrP at CI CQ
  rw [hft] at CA CI CQ
  rw [hF1] at CO CF
  rw [hF2] at CL CG CK
  obtain ⟨X, hX⟩ : ∃ X : ByteArray, (if F1 ≠ 0 then ⟨#[]⟩ else ⟨(applyL s (flowL es s.size)).toArray⟩) = X := ⟨_, rfl⟩
  obtain ⟨ML, hML⟩ : ∃ X : Int, (if F2 ≠ 0 then 0 else lenGo n fs) = X := ⟨_, rfl⟩
  obtain ⟨OL, hOL⟩ : ∃ X : List Int, (if F1 ≠ 0 then [] else (flowL es s.size).map (·.1)) = X := ⟨_, rfl⟩
  obtain ⟨IL, hIL⟩ : ∃ X : List Ed, (if F1 ≠ 0 then [] else invGo s 0 es) = X := ⟨_, rfl⟩
  obtain ⟨QL, hQL⟩ : ∃ X : List Ed, (if F1 ≠ 0 then [] else squeezedV s es) = X := ⟨_, rfl⟩
  rw [hX] at CA
  rw [hML] at CL
  rw [hOL] at CO
  rw [hIL] at CI
  rw [hQL] at CQ
  have HX := Lib.hid hX
  have HML := Lib.hid hML
  have HOL := Lib.hid hOL
  have HIL := Lib.hid hIL
  have HQL := Lib.hid hQL
  have HOb : OL.length ≤ 100000 := by
    rw [← hOL]
    split
    · simp
    · rename_i h; rw [List.length_map]; have := (right_all (show changeFault s.size es = 0 by omega)).2.2.2.2.2; omega
  have HIb : IL.length ≤ 100000 := by
    rw [← hIL]
    split
    · simp
    · rw [invGo_len]; omega
  have HQb : QL.length ≤ 100000 := by
    rw [← hQL]
    split
    · simp
    · have := sqTo_len s es es.length (Nat.le_refl _); unfold squeezedV; omega
  clear hF1 hF2 hft hX hML hOL hIL hQL hsm hsm2
  go_wp2_with fail
  refine (CA.out _ (grow_self w4)).mono ?_
  rintro e u1 ⟨rfl, g⟩
  replace HG4 := Lib.hid (And.intro (grow_trans HG4.out g) g)
  clear g CA
  go_wp2_with fail
  refine (CL.out _ HG4.out.2).mono ?_
  rintro e u2 ⟨rfl, g⟩
  replace HG4 := Lib.hid (And.intro (grow_trans HG4.out.1 g) (grow_trans HG4.out.2 g))
  clear g CL
  go_wp2_with fail
  refine (CO.out _ HG4.out.2).mono ?_
  rintro e u3 ⟨vo, rfl, own, g⟩
  have OO := Lib.hid own
  replace HG4 := Lib.hid (And.intro (grow_trans HG4.out.1 g) (grow_trans HG4.out.2 g))
  obtain ⟨oa, oc, rfl⟩ := ownsRow_slice OO.out
  clear g CO own
  go_wp2_with fail
  refine (CI.out _ HG4.out.2).mono ?_
  rintro e u4 ⟨vi, rfl, own, g⟩
  have OI := Lib.hid own
  replace OO := Lib.hid (own_grow OO.out g)
  replace HG4 := Lib.hid (And.intro (grow_trans HG4.out.1 g) (grow_trans HG4.out.2 g))
  obtain ⟨ia, ic, rfl⟩ := ownsRow_slice OI.out
  clear g CI own
  go_wp2_with fail
  refine (CQ.out _ HG4.out.2).mono ?_
  rintro e u5 ⟨vq, rfl, own, g⟩
  have OQ := Lib.hid own
  replace OO := Lib.hid (own_grow OO.out g)
  replace OI := Lib.hid (own_grow OI.out g)
  replace HG4 := Lib.hid (And.intro (grow_trans HG4.out.1 g) (grow_trans HG4.out.2 g))
  obtain ⟨qa, qc, rfl⟩ := ownsRow_slice OQ.out
  clear g CQ own
  go_wp2_with fail
  refine (CF.out _ HG4.out.2).mono ?_
  rintro e u6 ⟨rfl, g⟩
  replace OO := Lib.hid (own_grow OO.out g)
  replace OI := Lib.hid (own_grow OI.out g)
  replace OQ := Lib.hid (own_grow OQ.out g)
  replace HG4 := Lib.hid (And.intro (grow_trans HG4.out.1 g) (grow_trans HG4.out.2 g))
  clear g CF
  go_wp2_with fail
  refine (CG.out _ HG4.out.2).mono ?_
  rintro e u7 ⟨rfl, g⟩
  replace OO := Lib.hid (own_grow OO.out g)
  replace OI := Lib.hid (own_grow OI.out g)
  replace OQ := Lib.hid (own_grow OQ.out g)
  replace HG4 := Lib.hid (And.intro (grow_trans HG4.out.1 g) (grow_trans HG4.out.2 g))
  clear g CG
  go_upto_if 85 with (fail)
  go_cut [20, 22, 23, 24] (fun x20 x22 x23 x24 wx => x20 = .string X ∧ Hid (wx.ownsRow w.heap.size 3 1 x22 OL.length (intCells OL)) ∧ Hid (wx.ownsRow w.heap.size 47 3 x23 IL.length (edCells IL)) ∧ Hid (wx.ownsRow w.heap.size 47 3 x24 QL.length (edCells QL)) ∧ Hid (u7.grownBy wx none))
  case first =>
    by_cases h1 : F1 = 0
    · have hb : (F1 == 0) = true := by simp [h1]
      have hf : changeFault s.size es = 0 := by rw [HF1.out]; exact h1
      obtain ⟨r1, r2, r3, r4, r5, r6⟩ := right_all hf
      have hm := right_mem s.size es _ (changeFault_zero hf).2.2.1
      have DA := Lib.hid (fun W (g : w4.grownBy W none) => applyOf_any s a cp es W r2 (by omega) (hE4.out.grown g (by simp)) r3 r4 r5)
      have DO := Lib.hid (fun W (g : w4.grownBy W none) => originOf_any (s.size : Int) a cp es W hf (hE4.out.grown g (by simp)))
      have DI := Lib.hid (fun W (g : w4.grownBy W none) => inverseOf_any s a cp es W hf (hE4.out.grown g (by simp)))
      have DQ := Lib.hid (fun W (g : w4.grownBy W none) => squeezedOf_any s a cp es W (by omega) r2 (hE4.out.grown g (by simp)) (fun e he => by have := hm e he; have := r4 e he; omega))
      have e1 := HX.out
      have e2 := HOL.out
      have e3 := HIL.out
      have e4 := HQL.out
      rw [if_neg (by simp [h1])] at e1 e2 e3 e4
      unfold ApplyPost at DA
      unfold IntsPost at DO
      unfold EditsPost at DI DQ
      rw [e1] at DA
      rw [e2] at DO
      rw [inverse_same s es hf, e3] at DI
      rw [e4] at DQ
      clear e1 e2 e3 e4 r1 r2 r3 r4 r5 r6 hm hf h1
      have hw := Lib.hid (show w.heap.size ≤ u7.heap.size from HG4.out.1.size)
      have HU := Lib.hid (And.intro HG4.out.2 (grow_self u7))
      go_wp2_with fail
      refine (DA.out _ HU.out.1).mono ?_
      rintro e y1 ⟨rfl, g⟩
      replace HU := Lib.hid (And.intro (grow_trans HU.out.1 g) (grow_trans HU.out.2 g))
      clear g DA
      go_wp2_with fail
      refine (DO.out _ HU.out.1).mono ?_
      rintro e y2 ⟨vo, rfl, own, g⟩
      have PO := Lib.hid (ownsRow_base own (Nat.le_trans hw.out HU.out.2.size))
      replace HU := Lib.hid (And.intro (grow_trans HU.out.1 g) (grow_trans HU.out.2 g))
      clear g DO own
      go_wp2_with fail
      refine (DI.out _ HU.out.1).mono ?_
      rintro e y3 ⟨vi, rfl, own, g⟩
      have PI := Lib.hid (ownsRow_base own (Nat.le_trans hw.out HU.out.2.size))
      replace PO := Lib.hid (own_grow PO.out g)
      replace HU := Lib.hid (And.intro (grow_trans HU.out.1 g) (grow_trans HU.out.2 g))
      clear g DI own
      go_wp2_with fail
      refine (DQ.out _ HU.out.1).mono ?_
      rintro e y4 ⟨vq, rfl, own, g⟩
      have PQ := Lib.hid (ownsRow_base own (Nat.le_trans hw.out HU.out.2.size))
      replace PO := Lib.hid (own_grow PO.out g)
      replace PI := Lib.hid (own_grow PI.out g)
      replace HU := Lib.hid (And.intro (grow_trans HU.out.1 g) (grow_trans HU.out.2 g))
      clear g DQ own
      go_wp2_with fail
      go_meet
      exact ⟨rfl, PO, PI, PQ, Lib.hid HU.out.2⟩
    · have hb : (F1 == 0) = false := by simp [h1]
      have e1 := HX.out
      have e2 := HOL.out
      have e3 := HIL.out
      have e4 := HQL.out
      rw [if_pos h1] at e1 e2 e3 e4
      clear h1
      go_wp2_with fail
      go_meet
      exact ⟨by rw [← e1], Lib.hid (by rw [← e2]; exact World.ownsRow_nil _ _ _ _), Lib.hid (by rw [← e3]; exact World.ownsRow_nil _ _ _ _), Lib.hid (by rw [← e4]; exact World.ownsRow_nil _ _ _ _), Lib.hid (grow_self _)⟩
  case rest =>
    obtain ⟨rfl, PO, PI, PQ, HU⟩ := hcut
    obtain ⟨u8, rfl⟩ : ∃ v : World, v = wc := ⟨_, rfl⟩
    replace OO := Lib.hid (own_grow OO.out HU.out)
    replace OI := Lib.hid (own_grow OI.out HU.out)
    replace OQ := Lib.hid (own_grow OQ.out HU.out)
    replace HG4 := Lib.hid (And.intro (grow_trans HG4.out.1 HU.out) (grow_trans HG4.out.2 HU.out))
    obtain ⟨oa2, oc2, rfl⟩ := ownsRow_slice PO.out
    obtain ⟨ia2, ic2, rfl⟩ := ownsRow_slice PI.out
    obtain ⟨qa2, qc2, rfl⟩ := ownsRow_slice PQ.out
    clear HU
    go_upto_if 100 with (fail)
    go_cut [21] (fun v wx => v = .int .i64 ML ∧ Hid (u8.grownBy wx none))
    case first =>
      by_cases h2 : F2 = 0
      · have hb : (F2 == 0) = true := by simp [h2]
        have hf : changeFault n fs = 0 := by rw [HF2.out]; exact h2
        have DL := Lib.hid (fun W (g : w4.grownBy W none) => lengthOf_any n a2 cp2 fs W hf (hF4.out.grown g (by simp)))
        have e1 := HML.out
        rw [if_neg (by simp [h2]), lenGo_flow hf] at e1
        rw [e1] at DL
        clear e1 hf h2
        go_wp2_with fail
        refine (DL.out _ HG4.out.2).mono ?_
        rintro e y1 ⟨rfl, g⟩
        have HU := Lib.hid g
        clear g DL
        go_wp2_with fail
        go_meet
        exact ⟨rfl, HU⟩
      · have hb : (F2 == 0) = false := by simp [h2]
        have e1 := HML.out
        rw [if_pos h2] at e1
        clear h2
        go_wp2_with fail
        go_meet
        exact ⟨by rw [← e1], Lib.hid (grow_self _)⟩
    case rest =>
      obtain ⟨rfl, HU⟩ := hcut
      obtain ⟨u9, rfl⟩ : ∃ v : World, v = wc := ⟨_, rfl⟩
      replace OO := Lib.hid (own_grow OO.out HU.out)
      replace OI := Lib.hid (own_grow OI.out HU.out)
      replace OQ := Lib.hid (own_grow OQ.out HU.out)
      replace PO := Lib.hid (own_grow PO.out HU.out)
      replace PI := Lib.hid (own_grow PI.out HU.out)
      replace PQ := Lib.hid (own_grow PQ.out HU.out)
      replace HG4 := Lib.hid (And.intro (grow_trans HG4.out.1 HU.out) (grow_trans HG4.out.2 HU.out))
      clear HU HX HML HOL HIL HQL HF1 HF2
      have t1 : (F1 == F1) = true := by simp
      have t2 : (F2 == F2) = true := by simp
      have t3 : (ML == ML) = true := by simp
      have t4 : (X.toList == X.toList) = true := by simp
      go_wp2_with fail
      refine (CK.out _ HG4.out.2).mono ?_
      rintro e z1 ⟨rfl, g⟩
      replace OO := Lib.hid (own_grow OO.out g)
      replace OI := Lib.hid (own_grow OI.out g)
      replace OQ := Lib.hid (own_grow OQ.out g)
      replace PO := Lib.hid (own_grow PO.out g)
      replace PI := Lib.hid (own_grow PI.out g)
      replace PQ := Lib.hid (own_grow PQ.out g)
      replace HG4 := Lib.hid (grow_trans HG4.out.1 g)
      clear g CK
      go_wp2_with fail
      refine (equalInt_own (by omega) OO.out PO.out).mono ?_
      rintro e z2 ⟨rfl, g⟩
      replace OI := Lib.hid (own_grow OI.out g)
      replace OQ := Lib.hid (own_grow OQ.out g)
      replace PI := Lib.hid (own_grow PI.out g)
      replace PQ := Lib.hid (own_grow PQ.out g)
      replace HG4 := Lib.hid (grow_trans HG4.out g)
      clear g OO PO
      go_wp2_with fail
      refine (equalEd_own (by omega) OI.out PI.out).mono ?_
      rintro e z3 ⟨rfl, g⟩
      replace OQ := Lib.hid (own_grow OQ.out g)
      replace PQ := Lib.hid (own_grow PQ.out g)
      replace HG4 := Lib.hid (grow_trans HG4.out g)
      clear g OI PI
      go_wp2_with fail
      refine (equalEd_own (by omega) OQ.out PQ.out).mono ?_
      rintro e z4 ⟨rfl, g⟩
      replace HG4 := Lib.hid (grow_trans HG4.out g)
      clear g OQ PQ
      go_wp2_with fail
      refine (edited_any _).mono ?_
      rintro e z5 ⟨rfl, g⟩
      replace HG4 := Lib.hid (grow_trans HG4.out g)
      clear g
      go_wp2_with fail
      go_ret
      exact ⟨rfl, HG4.out⟩
end Go.Proofs.Ytajigndlcdiinaa
