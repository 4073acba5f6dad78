/- The law ChangesPass. -/
import Derived.Test.YtajigndlcdiinaaCSe
import Derived.Test.YtajigndlcdiinaaCRf
import Derived.Test.YtajigndlcdiinaaCA4
import Derived.Test.YtajigndlcdiinaaCJ3
import Derived.Test.YtajigndlcdiinaaCQ4
namespace Go.Proofs.Ytajigndlcdiinaa
open Go.RowKit

def PassPost (w : World) (e : Ending) (w' : World) : Prop := e = .returned (.bool true) ∧ w.grownBy w' none
theorem sto_pass {b av cap xs w w' k} (h : Sto b av cap xs w w' k) {w0 : World} (g : w0.grownBy w none) (hb : w0.heap.size ≤ b) : w0.grownBy w' none :=
  ⟨h.grow.os.trans g.os, h.grow.tape.trans g.tape, h.grow.output.trans g.output, Nat.le_trans g.size h.grow.size, fun k hk hn =>
    (h.grow.block k (Nat.lt_of_lt_of_le hk g.size) (by simp; omega)).trans (g.block k hk hn)⟩
theorem own_capS {w : World} {base e size n cap m : Nat} {a : Option Addr} {xs : List Value} (h : w.ownsRow base e size (.slice a n cap) m xs) : n ≤ cap := by
  rcases h.2 with ⟨h, h0⟩ | ⟨g, c, cur, h, _, _, hc, _⟩
  · cases h; omega
  · cases h; exact hc
theorem errs_two (x y : Int) : errsv [x, y] = if x ≠ 0 then x else y := by
  by_cases h : x = 0 <;> by_cases h2 : y = 0 <;> simp [errsv, h, h2]
theorem own_grw {w w' : World} {base : Nat} {e : TypeId} {size : Nat} {v : Value} {n : Nat} {xs : List Value} (h : w.ownsRow base e size v n xs) (g : w.grownBy w' none) : w'.ownsRow base e size v n xs := own_apart h g (by simp)
/-- The program's answers are the reference's, and not too long. -/
theorem past_both (n : Int) (es fs : List Ed) : ∃ (LA LB BL : List Ed) (PE BE : Int), LA.length ≤ 1000000 ∧ LB.length ≤ 1000000 ∧ BL.length ≤ 1000000 ∧
    (pastLA n es fs (stepsOf n es fs) = LA ∧ pastLB n es fs (stepsOf n es fs) = LB ∧ pastE n es fs (stepsOf n es fs) = PE ∧ bothL n es fs (stepsOf n es fs) = BL ∧ bothE n es fs (stepsOf n es fs) = BE) ∧
    (if pastRE n es fs = 0 then pastRA n es fs else []) = LA ∧ (if pastRE n es fs = 0 then pastRB n es fs else []) = LB ∧ pastRE n es fs = PE ∧ (if bothRE n es fs = 0 then bothRL n es fs else []) = BL ∧ bothRE n es fs = BE := by
  obtain ⟨p1, p2, p3⟩ := past_same n es fs
  obtain ⟨q1, q2⟩ := both_same n es fs
  refine ⟨_, _, _, _, _, ?_, ?_, ?_, ⟨p2, p3, p1, q2, q1⟩, rfl, rfl, rfl, rfl, rfl⟩
  · split
    · rename_i h
      unfold pastRE at h
      by_cases h0 : bothFaultv n es fs = 0
      · obtain ⟨g1, g2⟩ := both_zero h0
        have := (pastR_len n es fs g1 g2).1; omega
      · rw [if_pos h0] at h; omega
    · simp
  · split
    · rename_i h
      unfold pastRE at h
      by_cases h0 : bothFaultv n es fs = 0
      · obtain ⟨g1, g2⟩ := both_zero h0
        have := (pastR_len n es fs g1 g2).2; omega
      · rw [if_pos h0] at h; omega
    · simp
  · split
    · rename_i h
      unfold bothRE at h
      by_cases h0 : bothFaultv n es fs = 0
      · obtain ⟨g1, g2⟩ := both_zero h0
        have h1 := mixTo_right g1 g2
        have h2 := editsLen2 (mixTo (goP es 0) (goP fs 0) n 0 (n + 1).toNat) n
        unfold bothRL; omega
      · rw [if_pos h0] at h; omega
    · simp
theorem clash_both (n : Int) (es fs : List Ed) (h : bothFaultv n es fs = 0) : clashGo es fs = clashV es fs := by
  obtain ⟨g1, g2⟩ := both_zero h
  exact clash_same n es fs (-1) (-1) (changeFault_zero g1).2.2.1 (changeFault_zero g2).2.2.1

set_option maxHeartbeats 8000000 in
set_option maxRecDepth 100000 in
theorem changesPass_any (av : Option Addr) (cap : Nat) (xs : List Int) (w : World) (hx2 : xs.length ≤ 9223372036854775807)
    (hel : ∀ j, j < xs.length → ∃ bl off, av = some ⟨bl, off, none⟩ ∧ w.cell? ⟨bl, off + j, none⟩ = some (.int .i64 (xs.getD j 0))) :
    Calls Try.prog 5 #[.slice av xs.length cap] w (PassPost w) := by
  have S0 : Strm w.heap.size av cap xs (w.alloc (.cells #[.slice av xs.length cap, .int .i64 0] 25)) 0 := by
    refine ⟨heap_alloc_new w _, fun j hj => ?_⟩
    obtain ⟨bl, off, e, hc⟩ := hel j hj
    have := World.block_lt_of_cell? w _ hc
    exact ⟨bl, off, e, by simp at this; omega, World.grownBy.cell (World.grownBy_alloc w _ none) hc (by simp)⟩
  have G0 := World.grownBy_alloc w (.cells #[.slice av xs.length cap, .int .i64 0] 25) none
  clear hel
  go_enter Try.func5, Try.ntmps5
  go_wp2_with fail
  refine (range_any 0 10 (by omega) (by omega) (by omega) hx2 S0).mono ?_
  rintro e w1 ⟨rfl, T1⟩
  have r1 := rangev_bd xs 0 0 10
  have rk1 := rangek_le 0 0 10
  have G1 := sto_pass T1 G0 (Nat.le_refl _)
  generalize rangev xs 0 0 10 = n at r1 ⊢
  obtain ⟨k1, hk1⟩ : ∃ k, k = rangek 0 0 10 := ⟨_, rfl⟩
  rw [← hk1] at T1 rk1
  have hn : 0 ≤ n ∧ n ≤ 10 := by omega
  clear r1 hk1 S0 G0
  go_wp2_with fail
  refine (change_any n (by omega) (by omega) hx2 T1.strm).mono ?_
  rintro e w2 ⟨v, rfl, own, T2⟩
  obtain ⟨c1, c2, c3, c4⟩ := change_small xs k1 n (by omega)
  have G2 := sto_pass T2 G1 (Nat.le_refl _)
  obtain ⟨k2, hk2⟩ : ∃ k, k = changeK xs k1 n := ⟨_, rfl⟩
  rw [← hk2] at T2 c3 c4
  have hk2b : k2 ≤ 40 := by omega
  generalize changeV xs k1 n = es at c1 c2 own
  have hsm := small_of es c1
  obtain ⟨a, cp, rfl, hE2, hab⟩ := eds_of_own own
  have hcp := own_capS own
  have hab2 : ∀ x, a = some x → some x.block ≠ some w.heap.size := fun x hx => by have := hab x hx; have := G1.size; have := T1.strm.lt; simp; omega
  have T2s := T2.strm
  clear own hab c1 hk2 c3 c4 T1 rk1 G1 T2
  go_wp2_with fail
  refine (change_any n (by omega) (by omega) hx2 T2s).mono ?_
  rintro e w3 ⟨v, rfl, own, T3⟩
  obtain ⟨c1, c3, c4, c5⟩ := change_small xs k2 n (by omega)
  have G3 := sto_pass T3 G2 (Nat.le_refl _)
  generalize changeV xs k2 n = fs at c1 c3 own
  have hsm2 := small_of fs c1
  have hE3 := Lib.hid (hE2.grown T3.grow hab2)
  obtain ⟨b, cq, rfl, hF0, _⟩ := eds_of_own own
  have hcq := own_capS own
  have hF3 := Lib.hid hF0
  have HG := Lib.hid (And.intro G3 (grow_self w3))
  clear own c1 c4 c5 T3 T2s hE2 hab2 hF0 G2 G3
  obtain ⟨LA, LB, BL, PE, BE, bA, bB, bL, ⟨e1, e2, e3, e4, e5⟩, f1, f2, f3, f4, f5⟩ := past_both n es fs
  have CP := Lib.hid (fun W (g : w3.grownBy W none) => past_steps n a b cp cq es fs W (by omega) (by omega) (hE3.out.grown g (by simp)) (hF3.out.grown g (by simp)) hsm hsm2)
  have CB := Lib.hid (fun W (g : w3.grownBy W none) => both_steps n a b cp cq es fs W (by omega) (by omega) (hE3.out.grown g (by simp)) (hF3.out.grown g (by simp)) hsm hsm2)
  have DP := Lib.hid (fun W (g : w3.grownBy W none) => pastOf_any n a b cp cq es fs W (by omega) (by omega) (hE3.out.grown g (by simp)) (hF3.out.grown g (by simp)) hsm hsm2)
  have DB := Lib.hid (fun W (g : w3.grownBy W none) => bothOf_any n a b cp cq es fs W (by omega) (by omega) (hE3.out.grown g (by simp)) (hF3.out.grown g (by simp)) hsm hsm2)
  rw [f1, f2, f3] at DP
  rw [f4, f5] at DB
  rw [e1, e2, e3] at CP
  rw [e4, e5] at CB
  clear e1 e2 e3 e4 e5 f1 f2 f3 f4 f5
  unfold PastPost at CP DP
  unfold BothPost at CB DB
  simp only [edC_cells] at CP DP CB DB
  have CC := Lib.hid (fun W (g : w3.grownBy W none) => clash_any n a b cp cq es fs W (by omega) (by omega) (hE3.out.grown g (by simp)) (hF3.out.grown g (by simp)) hsm hsm2 hcp hcq)
  have CF := Lib.hid (fun W (g : w3.grownBy W none) => changeFault_any n a cp es W (by omega) (hE3.out.grown g (by simp)) hsm)
  have CG := Lib.hid (fun W (g : w3.grownBy W none) => changeFault_any n b cq fs W (by omega) (hF3.out.grown g (by simp)) hsm2)
  have HCL := Lib.hid (clash_both n es fs)
  have hfe : bothFaultv n es fs = errsv [changeFault n es, changeFault n fs] := by rw [errs_two]; rfl
  have HOK := Lib.hid (show bothFaultv n es fs = 0 → ∀ W, w3.grownBy W none → Calls Try.prog 37 #[.slice a es.length cp, .slice b fs.length cq] W fun e w' => e = .returned (.bool (clashV es fs)) ∧ W.grownBy w' none from fun h W g => by
    obtain ⟨g1, g2⟩ := both_zero h
    exact clashOf_any a b cp cq es fs W (by omega) (by omega) (hE3.out.grown g (by simp)) (hF3.out.grown g (by simp)) (fun e he => by have := right_bd g1 e he; omega) (fun e he => by have := right_bd g2 e he; omega))
  generalize clashV es fs = cv at HCL HOK
  obtain ⟨CLV, hcl⟩ : ∃ c, (if bothFaultv n es fs = 0 then clashGo es fs else false) = c := ⟨_, rfl⟩
  rw [hcl] at CC
  have HCV := Lib.hid (show bothFaultv n es fs = 0 → cv = CLV from fun h => by rw [← hcl, if_pos h, HCL.out h])
  have HCN := Lib.hid (show bothFaultv n es fs ≠ 0 → CLV = false from fun h => by rw [← hcl, if_neg h])
  have hF1 : ∃ F, changeFault n es = F := ⟨_, rfl⟩
  obtain ⟨F1, hF1⟩ := hF1
  obtain ⟨F2, hF2⟩ : ∃ F, changeFault n fs = F := ⟨_, rfl⟩
  rw [hF1, hF2] at hfe
  rw [hF1] at CF
  rw [hF2] at CG
  have HER := Lib.hid (show ∀ W : World, Calls Try.prog 34 #[.slice (some ⟨W.heap.size, 0, none⟩) 2 2] (W.alloc (.cells #[.int .i64 F1, .int .i64 F2] 30)) fun x w' => x = .returned (.int .i64 (bothFaultv n es fs)) ∧ W.alloc (.cells #[.int .i64 F1, .int .i64 F2] 30) = w' from fun W => by rw [hfe]; exact errs_new [F1, F2] W (by simp))
  generalize bothFaultv n es fs = FT at *
  clear hcl HCL hfe hF1 hF2 hE3 hF3 hsm hsm2 hcp hcq
  go_wp2_with fail
  refine (CP.out _ HG.out.2).mono ?_
  rintro e u1 ⟨vx, vy, rfl, o1, o2, g⟩
  have OX := Lib.hid o1
  have OY := Lib.hid o2
  obtain ⟨xa, xc, rfl⟩ := ownsRow_slice o1
  obtain ⟨ya, yc, rfl⟩ := ownsRow_slice o2
  replace HG := Lib.hid (And.intro (grow_trans HG.out.1 g) (grow_trans HG.out.2 g))
  clear g CP o1 o2
  go_wp2_with fail
  refine (CB.out _ HG.out.2).mono ?_
  rintro e u2 ⟨vz, rfl, o3, g⟩
  have OZ := Lib.hid o3
  obtain ⟨za, zc, rfl⟩ := ownsRow_slice o3
  replace OX := Lib.hid (own_grw OX.out g)
  replace OY := Lib.hid (own_grw OY.out g)
  replace HG := Lib.hid (And.intro (grow_trans HG.out.1 g) (grow_trans HG.out.2 g))
  clear g CB o3
  go_wp2_with fail
  refine (CC.out _ HG.out.2).mono ?_
  rintro e u3 ⟨rfl, g⟩
  replace OX := Lib.hid (own_grw OX.out g)
  replace OY := Lib.hid (own_grw OY.out g)
  replace OZ := Lib.hid (own_grw OZ.out g)
  replace HG := Lib.hid (And.intro (grow_trans HG.out.1 g) (grow_trans HG.out.2 g))
  clear g CC
  go_wp2_with fail
  refine (CF.out _ HG.out.2).mono ?_
  rintro e u4 ⟨rfl, g⟩
  replace OX := Lib.hid (own_grw OX.out g)
  replace OY := Lib.hid (own_grw OY.out g)
  replace OZ := Lib.hid (own_grw OZ.out g)
  replace HG := Lib.hid (And.intro (grow_trans HG.out.1 g) (grow_trans HG.out.2 g))
  clear g CF
  go_wp2_with fail
  refine (CG.out _ HG.out.2).mono ?_
  rintro e u5 ⟨rfl, g⟩
  replace OX := Lib.hid (own_grw OX.out g)
  replace OY := Lib.hid (own_grw OY.out g)
  replace OZ := Lib.hid (own_grw OZ.out g)
  replace HG := Lib.hid (And.intro (grow_trans HG.out.1 g) (grow_trans HG.out.2 g))
  clear g CG
  go_wp2_with fail
  refine (HER.out u5).mono ?_
  rintro e u6 ⟨rfl, rfl⟩
  have g := World.grownBy_alloc u5 (.cells #[.int .i64 F1, .int .i64 F2] 30) none
  replace OX := Lib.hid (own_grw OX.out g)
  replace OY := Lib.hid (own_grw OY.out g)
  replace OZ := Lib.hid (own_grw OZ.out g)
  replace HG := Lib.hid (And.intro (grow_trans HG.out.1 g) (grow_trans HG.out.2 g))
  clear g HER
  generalize u5.alloc (.cells #[.int .i64 F1, .int .i64 F2] 30) = u6 at OX OY OZ HG ⊢
  go_wp2_with fail
  refine (DP.out _ HG.out.2).mono ?_
  rintro e u7 ⟨vx, vy, rfl, o1, o2, g⟩
  have PX := Lib.hid o1
  have PY := Lib.hid o2
  obtain ⟨xa2, xc2, rfl⟩ := ownsRow_slice o1
  obtain ⟨ya2, yc2, rfl⟩ := ownsRow_slice o2
  replace OX := Lib.hid (own_grw OX.out g)
  replace OY := Lib.hid (own_grw OY.out g)
  replace OZ := Lib.hid (own_grw OZ.out g)
  replace HG := Lib.hid (And.intro (grow_trans HG.out.1 g) (grow_trans HG.out.2 g))
  clear g DP o1 o2
  go_wp2_with fail
  refine (DB.out _ HG.out.2).mono ?_
  rintro e u8 ⟨vz, rfl, o3, g⟩
  have PZ := Lib.hid o3
  obtain ⟨za2, zc2, rfl⟩ := ownsRow_slice o3
  replace OX := Lib.hid (own_grw OX.out g)
  replace OY := Lib.hid (own_grw OY.out g)
  replace OZ := Lib.hid (own_grw OZ.out g)
  replace PX := Lib.hid (own_grw PX.out g)
  replace PY := Lib.hid (own_grw PY.out g)
  replace HG := Lib.hid (And.intro (grow_trans HG.out.1 g) (grow_trans HG.out.2 g))
  clear g DB o3
  go_upto_region 10 with (fail)
  go_cut [20] (fun v wx => v = .bool CLV ∧ Hid (u8.grownBy wx none))
  case first =>
    by_cases h1 : FT = 0
    · have hb : (FT == 0) = true := by simp [h1]
      have hcv := HCV.out h1
      have HO := Lib.hid (HOK.out h1 _ HG.out.2)
      rw [hcv] at HO
      clear h1 hcv
      go_wp2_with fail
      refine HO.out.mono ?_
      rintro e y1 ⟨rfl, g⟩
      have HU := Lib.hid g
      clear g HO
      go_wp2_with fail
      go_meet
      exact ⟨rfl, HU⟩
    · have hb : (FT == 0) = false := by simp [h1]
      have hcv := HCN.out h1
      have HV := Lib.hid hcv
      clear h1 hcv
      go_wp2_with fail
      go_meet
      exact ⟨by rw [HV.out], Lib.hid (grow_self _)⟩
  case rest =>
    obtain ⟨rfl, HU⟩ := hcut
    obtain ⟨u9, rfl⟩ : ∃ v : World, v = wc := ⟨_, rfl⟩
    replace OX := Lib.hid (own_grw OX.out HU.out)
    replace OY := Lib.hid (own_grw OY.out HU.out)
    replace OZ := Lib.hid (own_grw OZ.out HU.out)
    replace PX := Lib.hid (own_grw PX.out HU.out)
    replace PY := Lib.hid (own_grw PY.out HU.out)
    replace PZ := Lib.hid (own_grw PZ.out HU.out)
    replace HG := Lib.hid (grow_trans HG.out.1 HU.out)
    clear HU HOK HCV HCN
    have t1 : (PE == PE) = true := by simp
    have t2 : (BE == BE) = true := by simp
    have t3 : (FT == FT) = true := by simp
    have t4 : (CLV == CLV) = true := by simp
    go_wp2_with fail
    refine (equalEd_own (by omega) OX.out PX.out).mono ?_
    rintro e z1 ⟨rfl, g⟩
    replace OY := Lib.hid (own_grw OY.out g)
    replace OZ := Lib.hid (own_grw OZ.out g)
    replace PY := Lib.hid (own_grw PY.out g)
    replace PZ := Lib.hid (own_grw PZ.out g)
    replace HG := Lib.hid (grow_trans HG.out g)
    clear g OX PX
    go_wp2_with fail
    refine (equalEd_own (by omega) OY.out PY.out).mono ?_
    rintro e z2 ⟨rfl, g⟩
    replace OZ := Lib.hid (own_grw OZ.out g)
    replace PZ := Lib.hid (own_grw PZ.out g)
    replace HG := Lib.hid (grow_trans HG.out g)
    clear g OY PY
    go_wp2_with fail
    refine (equalEd_own (by omega) OZ.out PZ.out).mono ?_
    rintro e z3 ⟨rfl, g⟩
    replace HG := Lib.hid (grow_trans HG.out g)
    clear g OZ PZ
    go_wp2_with fail
    refine (edited_any _).mono ?_
    rintro e z4 ⟨rfl, g⟩
    replace HG := Lib.hid (grow_trans HG.out g)
    clear g
    go_wp2_with fail
    go_ret
    exact ⟨rfl, HG.out⟩
end Go.Proofs.Ytajigndlcdiinaa
