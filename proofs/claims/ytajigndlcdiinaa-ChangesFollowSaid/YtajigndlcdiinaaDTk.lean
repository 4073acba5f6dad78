/- Package edit: checkFold. -/
import Derived.Test.YtajigndlcdiinaaDQ4
import Derived.Test.YtajigndlcdiinaaDA2
import Derived.Test.YtajigndlcdiinaaDQ5
namespace Go.Proofs.Ytajigndlcdiinaa
open Go.RowKit

def foldFault (n : Int) (cs : List (List Ed)) : Int := if ¬ (0 ≤ n ∧ n ≤ 20000) then 1 else foldChk n cs
theorem fault_nil (n : Int) : changeFault n [] = if ¬ (0 ≤ n ∧ n ≤ 20000) then 1 else 0 := by
  unfold changeFault
  by_cases h : 0 ≤ n ∧ n ≤ 20000
  · rw [if_neg (by simpa using h), if_neg (by simp), faultGo, if_neg (by omega), if_neg (by simpa using h)]
  · rw [if_pos h, if_pos h]
theorem len_flow {n : Int} {es : List Ed} (h : changeFault n es = 0) : lenGo n es = ((flowL es n).length : Int) := by
  obtain ⟨h1, h2, h3, h4⟩ := changeFault_zero h
  have := flowGo_len n es 0 (-1) h3 (by omega) (by omega) h1.1
  rw [lenGo_sum, flowL_go, this]; omega

set_option maxHeartbeats 2000000 in
set_option maxRecDepth 100000 in
theorem checkFold_any (n : Int) (a : Option Addr) (cap : Nat) (cs : List (List Ed)) (w : World) (hl : cs.length ≤ 1000000) (hC : Chs w a cs) (hS : ∀ c, c ∈ cs → EdsSmall c ∧ c.length ≤ 1000000) :
    Calls Try.prog 60 #[.int .i64 n, .slice a cs.length cap] w fun e w' => e = .returned (.int .i64 (foldFault n cs)) ∧ w.grownBy w' none := by
  by_cases h0 : 0 ≤ n ∧ n ≤ 20000
  · have HR := Lib.hid (show foldFault n cs = foldChk n (cs.drop 0) from if_neg (by simpa using h0))
    have HZ := Lib.hid (show changeFault n [] = 0 by rw [fault_nil, if_neg (by simpa using h0)])
    have HCC := Lib.hid hC
    clear hC
    go_enter Try.func60, Try.ntmps60
    go_wp2_with fail
    refine (check_any n none 0 [] w (by simp) (by intro j hj; simp at hj) (by intro e he; cases he)).mono ?_
    rintro e w1 ⟨rfl, g1⟩
    rw [HZ.out]
    go_wp2_with fail
    go_loopw [0, 16] (fun m i wr => ∃ (j : Nat) (mm : Int), j ≤ cs.length ∧ i = .int .i64 j ∧ m = .int .i64 mm ∧ Hid (foldFault n cs = foldChk mm (cs.drop j)) ∧ w.grownBy wr none) (fun _ i _ => cs.length - (intOf i).toNat)
    case atStart => exact ⟨0, n, Nat.zero_le _, rfl, rfl, HR, g1⟩
    case round =>
      clear HR HZ
      obtain ⟨j, mm, hj, rfl, rfl, HH, hg⟩ := hrel
      by_cases hlt : j < cs.length
      · obtain ⟨g, off, av, cp, rfl, c1, hE⟩ := HCC.out j hlt
        have hs := hS _ (List.getElem_mem hlt)
        have HD := Lib.hid (show cs.drop j = cs[j] :: cs.drop (j + 1) from List.drop_eq_getElem_cons hlt)
        generalize cs[j] = c at c1 hE hs HD
        replace c1 := hg.cell c1 (by simp)
        replace hE := hE.grown hg (by simp)
        by_cases hc : changeFault mm c = 0
        · have HH2 := Lib.hid (show foldFault n cs = foldChk (lenGo mm c) (cs.drop (j + 1)) by rw [HH.out, HD.out, foldChk, if_neg (by rw [hc]; decide), len_flow hc])
          have hb : (changeFault mm c != 0) = false := by rw [hc]; rfl
          obtain ⟨k1, k2, -, -⟩ := changeFault_zero hc
          have HN := Lib.hid ((right_all hc).2.2.2.1)
          clear hc
          go_wp2_with fail
          refine (check_any mm av cp c wr hs.2 hE hs.1).mono ?_
          rintro e w2 ⟨rfl, g2⟩
          go_wp2_with fail
          refine (length_any mm av cp c w2 (by omega) k2 (hE.grown g2 (by simp)) (fun e he => by have := HN.out e he; omega)).mono ?_
          rintro e w3 ⟨rfl, g3⟩
          have G2 := grownBy_trans hg (grownBy_trans g2 g3)
          clear g2 g3 hg
          go_wp2_with fail
          go_roundw
          case rel => exact ⟨j + 1, _, by omega, by go_num, rfl, HH2, G2⟩
          case measure => simp [intOf]; omega
        · have HH2 := Lib.hid (show foldFault n cs = changeFault mm c by rw [HH.out, HD.out, foldChk]; exact if_pos hc)
          have hb : (changeFault mm c != 0) = true := by simp [hc]
          clear hc
          go_wp2_with fail
          refine (check_any mm av cp c wr hs.2 hE hs.1).mono ?_
          rintro e w2 ⟨rfl, g2⟩
          go_wp2_with fail
          go_ret
          rw [HH2.out]
          exact ⟨rfl, grownBy_trans hg g2⟩
      · obtain rfl : j = cs.length := by omega
        have HH2 := Lib.hid (show foldFault n cs = 0 by rw [HH.out, List.drop_length, foldChk])
        clear HH
        go_wp2_with fail
        go_ret
        rw [HH2.out]
        exact ⟨rfl, hg⟩
  · have HR := Lib.hid (show foldFault n cs = 1 from if_pos h0)
    have HZ := Lib.hid (show changeFault n [] = 1 by rw [fault_nil, if_pos h0])
    go_enter Try.func60, Try.ntmps60
    go_wp2_with fail
    refine (check_any n none 0 [] w (by simp) (by intro j hj; simp at hj) (by intro e he; cases he)).mono ?_
    rintro e w1 ⟨rfl, g1⟩
    rw [HZ.out]
    go_wp2_with fail
    go_ret
    rw [HR.out]
    exact ⟨rfl, g1⟩
end Go.Proofs.Ytajigndlcdiinaa
