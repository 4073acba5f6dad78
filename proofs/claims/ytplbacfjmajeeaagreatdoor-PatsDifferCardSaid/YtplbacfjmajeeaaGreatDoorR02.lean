/- A part of the proof of the statement on PatsDiffer: lex.hasForm, checkDeep, CheckPat. lex.checkDeep, CheckPat. lex.fitsEmpty. scan.isLetter, isDigit, isNameByte, IsName. scan.IsName at "a"; lex.checkMarks at one mark. -/
import Derived.Test.YtplbacfjmajeeaaGreatDoorR01
namespace Go.Proofs.YtplbacfjmajeeaaGreatDoor
open Go.RowKit

/-- a pattern that has the fields that its Op uses, and no others -/
def formB (o l h : Int) (n : Nat) : Bool := if o = 1 then decide (n = 0) else if o = 2 then decide (n ≠ 1) && decide (l = 0) && decide (h = 0) else if o = 3 then decide (2 ≤ n) && decide (l = 0) && decide (h = 0) else decide (n = 1) && decide (l = 0) && decide (h = 0)

set_option maxHeartbeats 4000000 in
theorem hasForm_any (o l h : Int) (x : Option Addr) (n c : Nat) (w : World) (hn : n ≤ 1000000) :
    Calls Tryz.prog 90 #[.agg #[.int .i64 o, .int .i64 l, .int .i64 h, .slice x n c]] w fun e w' => e = .returned (.bool (formB o l h n)) ∧ w.grownBy w' none := by
  have hg := grow_alloc (grow_self w) (.cells #[.int .i64 o, .int .i64 l, .int .i64 h, .slice x n c] 28)
  by_cases o1 : o = 1
  · have o1b : (o == 1) = true := by simp [o1]
    by_cases n0 : n = 0
    · have n0b : ((n : Int) == 0) = true := by simp [n0]
      have H := Lib.hid (show formB o l h n = true by simp [formB, o1, n0])
      clear o1 n0
      go_enter Tryz.func90, Tryz.ntmps90
      go_wp2_with fail
      go_ret
      exact ⟨ret_bool (by rw [H.out]), hg⟩
    · have n0b : ((n : Int) == 0) = false := by simp [n0]
      have H := Lib.hid (show formB o l h n = false by simp [formB, o1, n0])
      clear o1 n0
      go_enter Tryz.func90, Tryz.ntmps90
      go_wp2_with fail
      go_ret
      exact ⟨ret_bool (by rw [H.out]), hg⟩
  · have o1b : (o == 1) = false := by simp [o1]
    by_cases o2 : o = 2
    · have o2b : (o == 2) = true := by simp [o2]
      by_cases n1 : n = 1
      · have n1b : ((n : Int) != 1) = false := by simp [n1]
        by_cases l0 : l = 0
        · have l0b : (l == 0) = true := by simp [l0]
          by_cases h0 : h = 0
          · have h0b : (h == 0) = true := by simp [h0]
            have H := Lib.hid (show formB o l h n = false by simp [formB, o2, n1, l0, h0])
            clear o1 o2 n1 l0 h0
            go_enter Tryz.func90, Tryz.ntmps90
            go_wp2_with fail
            go_ret
            exact ⟨ret_bool (by rw [H.out]), hg⟩
          · have h0b : (h == 0) = false := by simp [h0]
            have H := Lib.hid (show formB o l h n = false by simp [formB, o2, n1, l0, h0])
            clear o1 o2 n1 l0 h0
            go_enter Tryz.func90, Tryz.ntmps90
            go_wp2_with fail
            go_ret
            exact ⟨ret_bool (by rw [H.out]), hg⟩
        · have l0b : (l == 0) = false := by simp [l0]
          by_cases h0 : h = 0
          · have h0b : (h == 0) = true := by simp [h0]
            have H := Lib.hid (show formB o l h n = false by simp [formB, o2, n1, l0, h0])
            clear o1 o2 n1 l0 h0
            go_enter Tryz.func90, Tryz.ntmps90
            go_wp2_with fail
            go_ret
            exact ⟨ret_bool (by rw [H.out]), hg⟩
          · have h0b : (h == 0) = false := by simp [h0]
            have H := Lib.hid (show formB o l h n = false by simp [formB, o2, n1, l0, h0])
            clear o1 o2 n1 l0 h0
            go_enter Tryz.func90, Tryz.ntmps90
            go_wp2_with fail
            go_ret
            exact ⟨ret_bool (by rw [H.out]), hg⟩
      · have n1b : ((n : Int) != 1) = true := by simp; omega
        by_cases l0 : l = 0
        · have l0b : (l == 0) = true := by simp [l0]
          by_cases h0 : h = 0
          · have h0b : (h == 0) = true := by simp [h0]
            have H := Lib.hid (show formB o l h n = true by simp [formB, o2, n1, l0, h0])
            clear o1 o2 n1 l0 h0
            go_enter Tryz.func90, Tryz.ntmps90
            go_wp2_with fail
            go_ret
            exact ⟨ret_bool (by rw [H.out]), hg⟩
          · have h0b : (h == 0) = false := by simp [h0]
            have H := Lib.hid (show formB o l h n = false by simp [formB, o2, n1, l0, h0])
            clear o1 o2 n1 l0 h0
            go_enter Tryz.func90, Tryz.ntmps90
            go_wp2_with fail
            go_ret
            exact ⟨ret_bool (by rw [H.out]), hg⟩
        · have l0b : (l == 0) = false := by simp [l0]
          by_cases h0 : h = 0
          · have h0b : (h == 0) = true := by simp [h0]
            have H := Lib.hid (show formB o l h n = false by simp [formB, o2, n1, l0, h0])
            clear o1 o2 n1 l0 h0
            go_enter Tryz.func90, Tryz.ntmps90
            go_wp2_with fail
            go_ret
            exact ⟨ret_bool (by rw [H.out]), hg⟩
          · have h0b : (h == 0) = false := by simp [h0]
            have H := Lib.hid (show formB o l h n = false by simp [formB, o2, n1, l0, h0])
            clear o1 o2 n1 l0 h0
            go_enter Tryz.func90, Tryz.ntmps90
            go_wp2_with fail
            go_ret
            exact ⟨ret_bool (by rw [H.out]), hg⟩
    · have o2b : (o == 2) = false := by simp [o2]
      by_cases o3 : o = 3
      · have o3b : (o == 3) = true := by simp [o3]
        by_cases n3 : 2 ≤ n
        · have n3b : decide ((2 : Int) ≤ (n : Int)) = true := by simp; omega
          by_cases l0 : l = 0
          · have l0b : (l == 0) = true := by simp [l0]
            by_cases h0 : h = 0
            · have h0b : (h == 0) = true := by simp [h0]
              have H := Lib.hid (show formB o l h n = true by simp [formB, o3, n3, l0, h0])
              clear o1 o2 o3 n3 l0 h0
              go_enter Tryz.func90, Tryz.ntmps90
              go_wp2_with fail
              go_ret
              exact ⟨ret_bool (by rw [H.out]), hg⟩
            · have h0b : (h == 0) = false := by simp [h0]
              have H := Lib.hid (show formB o l h n = false by simp [formB, o3, n3, l0, h0])
              clear o1 o2 o3 n3 l0 h0
              go_enter Tryz.func90, Tryz.ntmps90
              go_wp2_with fail
              go_ret
              exact ⟨ret_bool (by rw [H.out]), hg⟩
          · have l0b : (l == 0) = false := by simp [l0]
            by_cases h0 : h = 0
            · have h0b : (h == 0) = true := by simp [h0]
              have H := Lib.hid (show formB o l h n = false by simp [formB, o3, n3, l0, h0])
              clear o1 o2 o3 n3 l0 h0
              go_enter Tryz.func90, Tryz.ntmps90
              go_wp2_with fail
              go_ret
              exact ⟨ret_bool (by rw [H.out]), hg⟩
            · have h0b : (h == 0) = false := by simp [h0]
              have H := Lib.hid (show formB o l h n = false by simp [formB, o3, n3, l0, h0])
              clear o1 o2 o3 n3 l0 h0
              go_enter Tryz.func90, Tryz.ntmps90
              go_wp2_with fail
              go_ret
              exact ⟨ret_bool (by rw [H.out]), hg⟩
        · have n3b : decide ((2 : Int) ≤ (n : Int)) = false := by simp; omega
          by_cases l0 : l = 0
          · have l0b : (l == 0) = true := by simp [l0]
            by_cases h0 : h = 0
            · have h0b : (h == 0) = true := by simp [h0]
              have H := Lib.hid (show formB o l h n = false by simp [formB, o3, n3, l0, h0])
              clear o1 o2 o3 n3 l0 h0
              go_enter Tryz.func90, Tryz.ntmps90
              go_wp2_with fail
              go_ret
              exact ⟨ret_bool (by rw [H.out]), hg⟩
            · have h0b : (h == 0) = false := by simp [h0]
              have H := Lib.hid (show formB o l h n = false by simp [formB, o3, n3, l0, h0])
              clear o1 o2 o3 n3 l0 h0
              go_enter Tryz.func90, Tryz.ntmps90
              go_wp2_with fail
              go_ret
              exact ⟨ret_bool (by rw [H.out]), hg⟩
          · have l0b : (l == 0) = false := by simp [l0]
            by_cases h0 : h = 0
            · have h0b : (h == 0) = true := by simp [h0]
              have H := Lib.hid (show formB o l h n = false by simp [formB, o3, n3, l0, h0])
              clear o1 o2 o3 n3 l0 h0
              go_enter Tryz.func90, Tryz.ntmps90
              go_wp2_with fail
              go_ret
              exact ⟨ret_bool (by rw [H.out]), hg⟩
            · have h0b : (h == 0) = false := by simp [h0]
              have H := Lib.hid (show formB o l h n = false by simp [formB, o3, n3, l0, h0])
              clear o1 o2 o3 n3 l0 h0
              go_enter Tryz.func90, Tryz.ntmps90
              go_wp2_with fail
              go_ret
              exact ⟨ret_bool (by rw [H.out]), hg⟩
      · have o3b : (o == 3) = false := by simp [o3]
        by_cases n1 : n = 1
        · have n1b : ((n : Int) == 1) = true := by simp [n1]
          by_cases l0 : l = 0
          · have l0b : (l == 0) = true := by simp [l0]
            by_cases h0 : h = 0
            · have h0b : (h == 0) = true := by simp [h0]
              have H := Lib.hid (show formB o l h n = true by simp [formB, o1, o2, o3, n1, l0, h0])
              clear o1 o2 o3 n1 l0 h0
              go_enter Tryz.func90, Tryz.ntmps90
              go_wp2_with fail
              go_ret
              exact ⟨ret_bool (by rw [H.out]), hg⟩
            · have h0b : (h == 0) = false := by simp [h0]
              have H := Lib.hid (show formB o l h n = false by simp [formB, o1, o2, o3, n1, l0, h0])
              clear o1 o2 o3 n1 l0 h0
              go_enter Tryz.func90, Tryz.ntmps90
              go_wp2_with fail
              go_ret
              exact ⟨ret_bool (by rw [H.out]), hg⟩
          · have l0b : (l == 0) = false := by simp [l0]
            by_cases h0 : h = 0
            · have h0b : (h == 0) = true := by simp [h0]
              have H := Lib.hid (show formB o l h n = false by simp [formB, o1, o2, o3, n1, l0, h0])
              clear o1 o2 o3 n1 l0 h0
              go_enter Tryz.func90, Tryz.ntmps90
              go_wp2_with fail
              go_ret
              exact ⟨ret_bool (by rw [H.out]), hg⟩
            · have h0b : (h == 0) = false := by simp [h0]
              have H := Lib.hid (show formB o l h n = false by simp [formB, o1, o2, o3, n1, l0, h0])
              clear o1 o2 o3 n1 l0 h0
              go_enter Tryz.func90, Tryz.ntmps90
              go_wp2_with fail
              go_ret
              exact ⟨ret_bool (by rw [H.out]), hg⟩
        · have n1b : ((n : Int) == 1) = false := by simp; omega
          by_cases l0 : l = 0
          · have l0b : (l == 0) = true := by simp [l0]
            by_cases h0 : h = 0
            · have h0b : (h == 0) = true := by simp [h0]
              have H := Lib.hid (show formB o l h n = false by simp [formB, o1, o2, o3, n1, l0, h0])
              clear o1 o2 o3 n1 l0 h0
              go_enter Tryz.func90, Tryz.ntmps90
              go_wp2_with fail
              go_ret
              exact ⟨ret_bool (by rw [H.out]), hg⟩
            · have h0b : (h == 0) = false := by simp [h0]
              have H := Lib.hid (show formB o l h n = false by simp [formB, o1, o2, o3, n1, l0, h0])
              clear o1 o2 o3 n1 l0 h0
              go_enter Tryz.func90, Tryz.ntmps90
              go_wp2_with fail
              go_ret
              exact ⟨ret_bool (by rw [H.out]), hg⟩
          · have l0b : (l == 0) = false := by simp [l0]
            by_cases h0 : h = 0
            · have h0b : (h == 0) = true := by simp [h0]
              have H := Lib.hid (show formB o l h n = false by simp [formB, o1, o2, o3, n1, l0, h0])
              clear o1 o2 o3 n1 l0 h0
              go_enter Tryz.func90, Tryz.ntmps90
              go_wp2_with fail
              go_ret
              exact ⟨ret_bool (by rw [H.out]), hg⟩
            · have h0b : (h == 0) = false := by simp [h0]
              have H := Lib.hid (show formB o l h n = false by simp [formB, o1, o2, o3, n1, l0, h0])
              clear o1 o2 o3 n1 l0 h0
              go_enter Tryz.func90, Tryz.ntmps90
              go_wp2_with fail
              go_ret
              exact ⟨ret_bool (by rw [H.out]), hg⟩
end Go.Proofs.YtplbacfjmajeeaaGreatDoor
namespace Go.Proofs.YtplbacfjmajeeaaGreatDoor
open Go.RowKit

mutual
/-- what is wrong with a pattern of a depth, but for how many there are -/
def Pt.fault : Pt → Int → Int
  | .mk o l h ps, d => if 30 < d then 2 else if ¬ (1 ≤ o ∧ o ≤ 4) then 4 else if formB o l h ps.length = false then 3 else if ¬ (0 ≤ l ∧ l ≤ 255 ∧ l ≤ h ∧ h ≤ 255) then 1 else faults ps (d + 1)
def faults : List Pt → Int → Int
  | [], _ => 0
  | p :: ps, d => if p.fault d = 0 then faults ps d else p.fault d
end
def patFault (p : Pt) : Int := if p.fault 1 = 0 then (if 2000 < p.size then 2 else 0) else p.fault 1

theorem len_sizes (ps : List Pt) : ps.length ≤ sizes ps := by
  induction ps with
  | nil => simp
  | cons p ps ih => obtain ⟨o, l, h, bs⟩ := p; simp only [List.length_cons, sizes, Pt.size]; omega
theorem size_le_sizes (ps : List Pt) (q : Pt) (h : q ∈ ps) : q.size ≤ sizes ps := by
  induction ps with
  | nil => cases h
  | cons p ps ih =>
    simp only [sizes]
    rcases List.mem_cons.1 h with rfl | h
    · omega
    · have := ih h; omega

set_option maxHeartbeats 4000000 in
theorem checkDeep_any (p : Pt) : ∀ (v : Value) (w : World) (d : Int), 0 ≤ d → d + p.size ≤ 1000000 → PtAt w p v → Calls Tryz.prog 66 #[v, .int .i64 d] w fun e w' => e = .returned (.int .i64 (p.fault d)) ∧ w.grownBy w' none := by
  induction p using Pt.ind with
  | h o l hi ps ih =>
    intro v w d hd hs hp
    obtain ⟨av, cap, rfl, ha⟩ := hp
    simp only [Pt.size] at hs
    have hlen := len_sizes ps
    have HA := Lib.hid ha
    clear ha
    have hg := grow_alloc (grow_self w) (.cells #[.int .i64 o, .int .i64 l, .int .i64 hi, .slice av ps.length cap] 28)
    have hbx := heap_alloc_new w (.cells #[.int .i64 o, .int .i64 l, .int .i64 hi, .slice av ps.length cap] 28)
    by_cases t1 : 30 < d
    · have H := Lib.hid (show (Pt.mk o l hi ps).fault d = 2 by simp [Pt.fault, t1])
      go_enter Tryz.func66, Tryz.ntmps66
      go_wp2_with fail
      go_ret
      exact ⟨ret_i64 (by rw [H.out]), hg⟩
    by_cases t2 : o < 1
    · have H := Lib.hid (show (Pt.mk o l hi ps).fault d = 4 by rw [Pt.fault, if_neg t1, if_pos (by omega)])
      go_enter Tryz.func66, Tryz.ntmps66
      go_wp2_with fail
      go_ret
      exact ⟨ret_i64 (by rw [H.out]), hg⟩
    by_cases t3 : 4 < o
    · have H := Lib.hid (show (Pt.mk o l hi ps).fault d = 4 by rw [Pt.fault, if_neg t1, if_pos (by omega)])
      go_enter Tryz.func66, Tryz.ntmps66
      go_wp2_with fail
      go_ret
      exact ⟨ret_i64 (by rw [H.out]), hg⟩
    by_cases t4 : formB o l hi ps.length = false
    · have H := Lib.hid (show (Pt.mk o l hi ps).fault d = 3 by rw [Pt.fault, if_neg t1, if_neg (by omega), if_pos t4])
      have T4 := Lib.hid t4
      clear t4
      go_enter Tryz.func66, Tryz.ntmps66
      go_wp2_with fail
      refine (hasForm_any o l hi av ps.length cap _ (by omega)).mono ?_
      rw [T4.out]
      rintro e w1 ⟨rfl, g1⟩
      go_wp2_with fail
      go_ret
      exact ⟨ret_i64 (by rw [H.out]), grownBy_trans hg g1⟩
    have t4b : formB o l hi ps.length = true := by simpa using t4
    have T4 := Lib.hid t4b
    have T4n := Lib.hid t4
    clear t4b t4
    by_cases t5 : 0 ≤ l ∧ l ≤ 255 ∧ l ≤ hi ∧ hi ≤ 255
    · have H := Lib.hid (show (Pt.mk o l hi ps).fault d = faults ps (d + 1) by rw [Pt.fault, if_neg t1, if_neg (by omega), if_neg T4n.out, if_neg (by omega)])
      obtain ⟨u1, u2, u3, u4⟩ := t5
      go_enter Tryz.func66, Tryz.ntmps66
      go_wp2_with fail
      refine (hasForm_any o l hi av ps.length cap _ (by omega)).mono ?_
      rw [T4.out]
      rintro e w1 ⟨rfl, g1⟩
      have bx := grow_new g1 hbx
      have cx1 := cell_of_block bx 1
      have cx2 := cell_of_block bx 2
      have cx3 := cell_of_block bx 3
      simp only [List.getElem?_toArray, List.getElem?_cons_zero, List.getElem?_cons_succ] at cx1 cx2 cx3
      have hg1 := grownBy_trans hg g1
      clear bx g1 hg hbx
      go_wp2_with fail
      go_loopw [48] (fun i wr => ∃ j : Nat, j ≤ ps.length ∧ i = .int .i64 j ∧ Hid (faults ps (d + 1) = faults (ps.drop j) (d + 1)) ∧ w.grownBy wr none) (fun i _ => ps.length - (intOf i).toNat)
      case atStart => exact ⟨0, Nat.zero_le _, rfl, Lib.hid rfl, hg1⟩
      case round =>
        obtain ⟨j, hj, rfl, HF, hg⟩ := hrel
        by_cases hlt : j < ps.length
        · obtain ⟨b, off, xo, xl, xh, xa, xn, xc, rfl, h0, h1, h2, h3, hq⟩ := PtAt.elem HA.out j hlt
          replace h0 := cell_grown h0 hg
          replace h1 := cell_grown h1 hg
          replace h2 := cell_grown h2 hg
          replace h3 := cell_grown h3 hg
          have hle : ps[j].size ≤ sizes ps := size_le_sizes ps _ (List.getElem_mem hlt)
          have hcons : ps.drop j = ps[j] :: ps.drop (j + 1) := List.drop_eq_getElem_cons hlt
          have HF2 := Lib.hid (HF.out.trans (by rw [hcons, faults]))
          have H2 := Lib.hid (ih ps[j] (List.getElem_mem hlt))
          have hq2 := PtAt.grow (grow_alloc hg (.cells #[.int .i64 xo, .int .i64 xl, .int .i64 xh, .slice xa xn xc] 28)) _ _ hq
          have hw2 : w.grownBy (wr.alloc (.cells #[.int .i64 xo, .int .i64 xl, .int .i64 xh, .slice xa xn xc] 28)) none := grow_alloc hg _
          clear hcons HF
          generalize ps[j] = q at H2 hq hq2 hle HF2
          by_cases z : q.fault (d + 1) = 0
          · have HF3 := Lib.hid (HF2.out.trans (if_pos z))
            have Z := Lib.hid z
            clear z HF2
            go_wp2_with fail
            refine (H2.out _ _ (d + 1) (by omega) (by omega) hq2).mono ?_
            rw [Z.out]
            rintro e w1 ⟨rfl, g1⟩
            go_wp2_with fail
            go_roundw
            case rel => exact ⟨j + 1, by omega, by go_num, HF3, grownBy_trans hw2 g1⟩
            case measure => simp [intOf]; omega
          · have HF3 := Lib.hid (HF2.out.trans (if_neg z))
            have zb : (q.fault (d + 1) != 0) = true := by simp [z]
            clear z HF2
            go_wp2_with fail
            refine (H2.out _ _ (d + 1) (by omega) (by omega) hq2).mono ?_
            rintro e w1 ⟨rfl, g1⟩
            go_wp2_with fail
            go_ret
            exact ⟨ret_i64 (by rw [H.out, HF3.out]), grownBy_trans hw2 g1⟩
        · have HE := Lib.hid (show faults (ps.drop j) (d + 1) = 0 by rw [List.drop_eq_nil_of_le (by omega)]; rfl)
          go_wp2_with fail
          go_ret
          exact ⟨ret_i64 (by rw [H.out, HF.out, HE.out]), hg⟩
    · have H := Lib.hid (show (Pt.mk o l hi ps).fault d = 1 by rw [Pt.fault, if_neg t1, if_neg (by omega), if_neg T4n.out, if_pos t5])
      have t6 : l < 0 ∨ (0 ≤ l ∧ 255 < l) ∨ (0 ≤ l ∧ l ≤ 255 ∧ hi < l) ∨ (0 ≤ l ∧ l ≤ 255 ∧ l ≤ hi ∧ 255 < hi) := by omega
      clear t5
      rcases t6 with t6 | ⟨t6, t7⟩ | ⟨t6, t7, t8⟩ | ⟨t6, t7, t8, t9⟩
      all_goals
        go_enter Tryz.func66, Tryz.ntmps66
        go_wp2_with fail
        refine (hasForm_any o l hi av ps.length cap _ (by omega)).mono ?_
        rw [T4.out]
        rintro e w1 ⟨rfl, g1⟩
        have bx := grow_new g1 hbx
        have cx1 := cell_of_block bx 1
        have cx2 := cell_of_block bx 2
        simp only [List.getElem?_toArray, List.getElem?_cons_zero, List.getElem?_cons_succ] at cx1 cx2
        have hg1 := grownBy_trans hg g1
        clear bx g1 hg hbx
        go_wp2_with fail
        go_ret
        exact ⟨ret_i64 (by rw [H.out]), hg1⟩

set_option maxHeartbeats 1000000 in
theorem checkPat_any (p : Pt) (v : Value) (w : World) (hs : p.size ≤ 100000) (hp : PtAt w p v) : Calls Tryz.prog 38 #[v] w fun e w' => e = .returned (.int .i64 (patFault p)) ∧ w.grownBy w' none := by
  have hp0 := hp
  obtain ⟨o, l, hi, ps⟩ := p
  obtain ⟨av, cap, rfl, ha⟩ := hp0
  clear ha
  have hg := grow_alloc (grow_self w) (.cells #[.int .i64 o, .int .i64 l, .int .i64 hi, .slice av ps.length cap] 28)
  have hbx := heap_alloc_new w (.cells #[.int .i64 o, .int .i64 l, .int .i64 hi, .slice av ps.length cap] 28)
  have hp2 := PtAt.grow hg _ _ hp
  have hfa : (Pt.mk o l hi ps).fault 1 = (Pt.mk o l hi ps).fault 1 := rfl
  generalize Pt.mk o l hi ps = p at *
  clear hfa
  by_cases z : p.fault 1 = 0
  · have Z := Lib.hid z
    have HF := Lib.hid (show patFault p = (if 2000 < p.size then 2 else 0) from if_pos z)
    clear z
    go_enter Tryz.func38, Tryz.ntmps38
    go_wp2_with fail
    refine (checkDeep_any p _ _ 1 (by omega) (by omega) hp2).mono ?_
    rw [Z.out]
    rintro e w1 ⟨rfl, g1⟩
    have bx := grow_new g1 hbx
    have cx0 := cell_of_block bx 0
    have cx1 := cell_of_block bx 1
    have cx2 := cell_of_block bx 2
    have cx3 := cell_of_block bx 3
    simp only [List.getElem?_toArray, List.getElem?_cons_zero, List.getElem?_cons_succ] at cx0 cx1 cx2 cx3
    have hp3 := PtAt.grow g1 _ _ hp2
    have hg1 := grownBy_trans hg g1
    clear bx g1 hg hbx hp2
    go_wp2_with fail
    refine (size_any p _ _ (by omega) hp3).mono ?_
    rintro e w2 ⟨rfl, g2⟩
    have hg2 := grownBy_trans hg1 g2
    by_cases hz : 2000 < p.size
    · have HF2 := Lib.hid (HF.out.trans (if_pos hz))
      go_wp2_with fail
      go_ret
      exact ⟨ret_i64 (by rw [HF2.out]), hg2⟩
    · have HF2 := Lib.hid (HF.out.trans (if_neg hz))
      go_wp2_with fail
      go_ret
      exact ⟨ret_i64 (by rw [HF2.out]), hg2⟩
  · have zb : (p.fault 1 != 0) = true := by simp [z]
    have HF := Lib.hid (show patFault p = p.fault 1 from if_neg z)
    clear z
    go_enter Tryz.func38, Tryz.ntmps38
    go_wp2_with fail
    refine (checkDeep_any p _ _ 1 (by omega) (by omega) hp2).mono ?_
    rintro e w1 ⟨rfl, g1⟩
    go_wp2_with fail
    go_ret
    exact ⟨ret_i64 (by rw [HF.out]), grownBy_trans hg g1⟩
end Go.Proofs.YtplbacfjmajeeaaGreatDoor
namespace Go.Proofs.YtplbacfjmajeeaaGreatDoor
open Go.RowKit

def idxPt (P : Pt → Bool) : Nat → List Pt → Int
  | _, [] => -1
  | j, p :: ps => if P p = true then (j : Int) else idxPt P (j + 1) ps
theorem idxPt_any (P : Pt → Bool) : ∀ (ps : List Pt) (j : Nat), decide (0 ≤ idxPt P j ps) = ps.any P
  | [], j => by simp [idxPt]
  | p :: ps, j => by
    rw [idxPt]
    by_cases h : P p = true
    · simp [h]
    · rw [if_neg h, idxPt_any P ps (j + 1)]; simp [h]
def notNul (p : Pt) : Bool := !p.nul
theorem any_nul : ∀ ps : List Pt, ps.any Pt.nul = nulAny ps
  | [] => rfl
  | p :: ps => by simp [nulAny, any_nul ps]
theorem any_notNul : ∀ ps : List Pt, (!ps.any notNul) = nulAll ps
  | [] => rfl
  | p :: ps => by simp only [List.any_cons, nulAll, Bool.not_or, any_notNul ps]; simp [notNul]

set_option maxHeartbeats 4000000 in
theorem indexPat_e (ps : List Pt) (av : Option Addr) (cap : Nat) (w : World) (hl : ps.length ≤ 1000000) (ha : ps = [] ∨ ∃ b off, av = some ⟨b, off, none⟩ ∧ PtsAt w ps b off)
    (hF : ∀ q ∈ ps, ∀ (v : Value) (w : World), PtAt w q v → Calls Tryz.prog 91 #[v] w fun e w' => e = .returned (.bool (Pt.nul q)) ∧ w.grownBy w' none) :
    Calls Tryz.prog 126 #[.slice av ps.length cap, .func (Fn.func 91) #[] #[]] w fun e w' => e = .returned (.int .i64 (idxPt Pt.nul 0 ps)) ∧ w.grownBy w' none := by
  have HA := Lib.hid ha
  have H := Lib.hid hF
  clear ha hF
  go_enter Tryz.func126, Tryz.ntmps126
  go_wp2_with fail
  go_loopw [8] (fun i wr => ∃ j : Nat, j ≤ ps.length ∧ i = .int .i64 j ∧ Hid (idxPt Pt.nul 0 ps = idxPt Pt.nul j (ps.drop j)) ∧ w.grownBy wr none) (fun i _ => ps.length - (intOf i).toNat)
  case atStart => exact ⟨0, Nat.zero_le _, rfl, Lib.hid rfl, grow_self w⟩
  case round =>
    obtain ⟨j, hj, rfl, HF, hg⟩ := hrel
    by_cases hlt : j < ps.length
    · obtain ⟨b, off, xo, xl, xh, xa, xn, xc, rfl, h0, h1, h2, h3, hq⟩ := PtAt.elem HA.out j hlt
      replace h0 := cell_grown h0 hg
      replace h1 := cell_grown h1 hg
      replace h2 := cell_grown h2 hg
      replace h3 := cell_grown h3 hg
      have hcons : ps.drop j = ps[j] :: ps.drop (j + 1) := List.drop_eq_getElem_cons hlt
      have HF2 := Lib.hid (HF.out.trans (by rw [hcons, idxPt]))
      have H2 := Lib.hid (H.out ps[j] (List.getElem_mem hlt))
      have hq2 := PtAt.grow hg _ _ hq
      clear hcons HF
      generalize ps[j] = q at H2 hq hq2 HF2
      by_cases z : Pt.nul q = true
      · have HF3 := Lib.hid (HF2.out.trans (if_pos z))
        have Z := Lib.hid z
        clear z HF2
        go_wp2_with fail
        refine (H2.out _ _ hq2).mono ?_
        rw [Z.out]
        rintro e w1 ⟨rfl, g1⟩
        go_wp2_with fail
        go_ret
        exact ⟨ret_i64 (by rw [HF3.out]), grownBy_trans hg g1⟩
      · have z' : Pt.nul q = false := by simpa using z
        have HF3 := Lib.hid (HF2.out.trans (if_neg z))
        have Z := Lib.hid z'
        clear z z' HF2
        go_wp2_with fail
        refine (H2.out _ _ hq2).mono ?_
        rw [Z.out]
        rintro e w1 ⟨rfl, g1⟩
        have hg2 := grownBy_trans hg g1
        go_wp2_with fail
        go_roundw
        case rel => exact ⟨j + 1, by omega, by go_num, HF3, hg2⟩
        case measure => simp [intOf]; omega
    · have HE := Lib.hid (show idxPt Pt.nul j (ps.drop j) = -1 by rw [List.drop_eq_nil_of_le (by omega)]; rfl)
      go_wp2_with fail
      go_ret
      exact ⟨ret_i64 (by rw [HF.out, HE.out]), hg⟩

theorem containsPat_e (ps : List Pt) (av : Option Addr) (cap : Nat) (w : World) (hl : ps.length ≤ 1000000) (ha : ps = [] ∨ ∃ b off, av = some ⟨b, off, none⟩ ∧ PtsAt w ps b off)
    (hF : ∀ q ∈ ps, ∀ (v : Value) (w : World), PtAt w q v → Calls Tryz.prog 91 #[v] w fun e w' => e = .returned (.bool (Pt.nul q)) ∧ w.grownBy w' none) :
    Calls Tryz.prog 110 #[.slice av ps.length cap, .func (Fn.func 91) #[] #[]] w fun e w' => e = .returned (.bool (ps.any Pt.nul)) ∧ w.grownBy w' none := by
  have H := Lib.hid (indexPat_e ps av cap w hl ha hF)
  have HB := Lib.hid (idxPt_any Pt.nul ps 0)
  clear ha hF
  go_enter Tryz.func110, Tryz.ntmps110
  go_wp2_with fail
  refine H.out.mono ?_
  rintro e w1 ⟨rfl, g1⟩
  go_wp2_with fail
  go_ret
  exact ⟨ret_bool HB.out, g1⟩

set_option maxHeartbeats 4000000 in
theorem indexPat_n (ps : List Pt) (av : Option Addr) (cap : Nat) (w : World) (hl : ps.length ≤ 1000000) (ha : ps = [] ∨ ∃ b off, av = some ⟨b, off, none⟩ ∧ PtsAt w ps b off)
    (hF : ∀ q ∈ ps, ∀ (v : Value) (w : World), PtAt w q v → Calls Tryz.prog 111 #[v] w fun e w' => e = .returned (.bool (notNul q)) ∧ w.grownBy w' none) :
    Calls Tryz.prog 126 #[.slice av ps.length cap, .func (Fn.func 111) #[] #[]] w fun e w' => e = .returned (.int .i64 (idxPt notNul 0 ps)) ∧ w.grownBy w' none := by
  have HA := Lib.hid ha
  have H := Lib.hid hF
  clear ha hF
  go_enter Tryz.func126, Tryz.ntmps126
  go_wp2_with fail
  go_loopw [8] (fun i wr => ∃ j : Nat, j ≤ ps.length ∧ i = .int .i64 j ∧ Hid (idxPt notNul 0 ps = idxPt notNul j (ps.drop j)) ∧ w.grownBy wr none) (fun i _ => ps.length - (intOf i).toNat)
  case atStart => exact ⟨0, Nat.zero_le _, rfl, Lib.hid rfl, grow_self w⟩
  case round =>
    obtain ⟨j, hj, rfl, HF, hg⟩ := hrel
    by_cases hlt : j < ps.length
    · obtain ⟨b, off, xo, xl, xh, xa, xn, xc, rfl, h0, h1, h2, h3, hq⟩ := PtAt.elem HA.out j hlt
      replace h0 := cell_grown h0 hg
      replace h1 := cell_grown h1 hg
      replace h2 := cell_grown h2 hg
      replace h3 := cell_grown h3 hg
      have hcons : ps.drop j = ps[j] :: ps.drop (j + 1) := List.drop_eq_getElem_cons hlt
      have HF2 := Lib.hid (HF.out.trans (by rw [hcons, idxPt]))
      have H2 := Lib.hid (H.out ps[j] (List.getElem_mem hlt))
      have hq2 := PtAt.grow hg _ _ hq
      clear hcons HF
      generalize ps[j] = q at H2 hq hq2 HF2
      by_cases z : notNul q = true
      · have HF3 := Lib.hid (HF2.out.trans (if_pos z))
        have Z := Lib.hid z
        clear z HF2
        go_wp2_with fail
        refine (H2.out _ _ hq2).mono ?_
        rw [Z.out]
        rintro e w1 ⟨rfl, g1⟩
        go_wp2_with fail
        go_ret
        exact ⟨ret_i64 (by rw [HF3.out]), grownBy_trans hg g1⟩
      · have z' : notNul q = false := by simpa using z
        have HF3 := Lib.hid (HF2.out.trans (if_neg z))
        have Z := Lib.hid z'
        clear z z' HF2
        go_wp2_with fail
        refine (H2.out _ _ hq2).mono ?_
        rw [Z.out]
        rintro e w1 ⟨rfl, g1⟩
        have hg2 := grownBy_trans hg g1
        go_wp2_with fail
        go_roundw
        case rel => exact ⟨j + 1, by omega, by go_num, HF3, hg2⟩
        case measure => simp [intOf]; omega
    · have HE := Lib.hid (show idxPt notNul j (ps.drop j) = -1 by rw [List.drop_eq_nil_of_le (by omega)]; rfl)
      go_wp2_with fail
      go_ret
      exact ⟨ret_i64 (by rw [HF.out, HE.out]), hg⟩

theorem containsPat_n (ps : List Pt) (av : Option Addr) (cap : Nat) (w : World) (hl : ps.length ≤ 1000000) (ha : ps = [] ∨ ∃ b off, av = some ⟨b, off, none⟩ ∧ PtsAt w ps b off)
    (hF : ∀ q ∈ ps, ∀ (v : Value) (w : World), PtAt w q v → Calls Tryz.prog 111 #[v] w fun e w' => e = .returned (.bool (notNul q)) ∧ w.grownBy w' none) :
    Calls Tryz.prog 110 #[.slice av ps.length cap, .func (Fn.func 111) #[] #[]] w fun e w' => e = .returned (.bool (ps.any notNul)) ∧ w.grownBy w' none := by
  have H := Lib.hid (indexPat_n ps av cap w hl ha hF)
  have HB := Lib.hid (idxPt_any notNul ps 0)
  clear ha hF
  go_enter Tryz.func110, Tryz.ntmps110
  go_wp2_with fail
  refine H.out.mono ?_
  rintro e w1 ⟨rfl, g1⟩
  go_wp2_with fail
  go_ret
  exact ⟨ret_bool HB.out, g1⟩

set_option maxHeartbeats 1000000 in
theorem notEmpty_of (q : Pt) (h : ∀ (v : Value) (w : World), PtAt w q v → Calls Tryz.prog 91 #[v] w fun e w' => e = .returned (.bool q.nul) ∧ w.grownBy w' none) (v : Value) (w : World) (hp : PtAt w q v) :
    Calls Tryz.prog 111 #[v] w fun e w' => e = .returned (.bool (notNul q)) ∧ w.grownBy w' none := by
  have H := Lib.hid h
  clear h
  have hp0 := hp
  obtain ⟨o, l, hi, ps⟩ := q
  obtain ⟨av, cap, rfl, ha⟩ := hp0
  clear ha
  have hg := grow_alloc (grow_self w) (.cells #[.int .i64 o, .int .i64 l, .int .i64 hi, .slice av ps.length cap] 28)
  have hp2 := PtAt.grow hg _ _ hp
  have hfa : (Pt.mk o l hi ps).fault 1 = (Pt.mk o l hi ps).fault 1 := rfl
  generalize Pt.mk o l hi ps = p at *
  clear hfa
  go_enter Tryz.func111, Tryz.ntmps111
  go_wp2_with fail
  refine (H.out _ _ hp2).mono ?_
  rintro e w1 ⟨rfl, g1⟩
  go_wp2_with fail
  go_ret
  exact ⟨ret_bool rfl, grownBy_trans hg g1⟩

set_option maxHeartbeats 1000000 in
theorem fitsEmpty_any (p : Pt) : ∀ (v : Value) (w : World), p.size ≤ 1000000 → PtAt w p v → Calls Tryz.prog 91 #[v] w fun e w' => e = .returned (.bool p.nul) ∧ w.grownBy w' none := by
  induction p using Pt.ind with
  | h o l hi ps ih =>
    intro v w hs hp
    obtain ⟨av, cap, rfl, ha⟩ := hp
    simp only [Pt.size] at hs
    have hlen := len_sizes ps
    have hg := grow_alloc (grow_self w) (.cells #[.int .i64 o, .int .i64 l, .int .i64 hi, .slice av ps.length cap] 28)
    have ha2 : ps = [] ∨ ∃ b off, av = some ⟨b, off, none⟩ ∧ PtsAt (w.alloc (.cells #[.int .i64 o, .int .i64 l, .int .i64 hi, .slice av ps.length cap] 28)) ps b off := by
      rcases ha with h | ⟨b, off, h1, h2⟩
      · exact .inl h
      · exact .inr ⟨b, off, h1, PtsAt.grow hg _ _ _ h2⟩
    have ihe : ∀ q ∈ ps, ∀ (v : Value) (w : World), PtAt w q v → Calls Tryz.prog 91 #[v] w fun e w' => e = .returned (.bool q.nul) ∧ w.grownBy w' none := fun q hq v w h => ih q hq v w (by have := size_le_sizes ps q hq; omega) h
    have HE := Lib.hid (containsPat_e ps av cap _ (by omega) ha2 ihe)
    have HN := Lib.hid (containsPat_n ps av cap _ (by omega) ha2 (fun q hq => notEmpty_of q (ihe q hq)))
    clear ihe ih ha ha2
    by_cases o1 : o = 1
    · have ob : (o == 1) = true := by simp [o1]
      have H := Lib.hid (show (Pt.mk o l hi ps).nul = false by simp [Pt.nul, o1])
      clear o1
      go_enter Tryz.func91, Tryz.ntmps91
      go_wp2_with fail
      go_ret
      exact ⟨ret_bool (by rw [H.out]), hg⟩
    have ob1 : (o == 1) = false := by simp [o1]
    by_cases o2 : o = 2
    · have ob : (o == 2) = true := by simp [o2]
      have H := Lib.hid (show (Pt.mk o l hi ps).nul = (!ps.any notNul) by rw [any_notNul]; simp [Pt.nul, o2])
      clear o1 o2
      go_enter Tryz.func91, Tryz.ntmps91
      go_wp2_with fail
      refine HN.out.mono ?_
      rintro e w1 ⟨rfl, g1⟩
      go_wp2_with fail
      go_ret
      exact ⟨ret_bool (by rw [H.out]), grownBy_trans hg g1⟩
    have ob2 : (o == 2) = false := by simp [o2]
    by_cases o3 : o = 3
    · have ob : (o == 3) = true := by simp [o3]
      have H := Lib.hid (show (Pt.mk o l hi ps).nul = ps.any Pt.nul by rw [any_nul]; simp [Pt.nul, o3])
      clear o1 o2 o3
      go_enter Tryz.func91, Tryz.ntmps91
      go_wp2_with fail
      refine HE.out.mono ?_
      rintro e w1 ⟨rfl, g1⟩
      go_wp2_with fail
      go_ret
      exact ⟨ret_bool (by rw [H.out]), grownBy_trans hg g1⟩
    · have ob : (o == 3) = false := by simp [o3]
      have H := Lib.hid (show (Pt.mk o l hi ps).nul = true by simp [Pt.nul, o1, o2, o3])
      clear o1 o2 o3
      go_enter Tryz.func91, Tryz.ntmps91
      go_wp2_with fail
      go_ret
      exact ⟨ret_bool (by rw [H.out]), hg⟩
end Go.Proofs.YtplbacfjmajeeaaGreatDoor
namespace Go.Proofs.YtplbacfjmajeeaaGreatDoor
open Go.RowKit

def lettB (c : UInt8) : Bool := decide (97 ≤ (c.toNat : Int)) && decide ((c.toNat : Int) ≤ 122)
def digB (c : UInt8) : Bool := decide (48 ≤ (c.toNat : Int)) && decide ((c.toNat : Int) ≤ 57)
def nmB (c : UInt8) : Bool := lettB c || digB c || decide ((c.toNat : Int) = 95)
/-- a name -/
def nameB (l : List UInt8) : Bool := decide (1 ≤ l.length) && decide (l.length ≤ 40) && lettB (l.getD 0 0) && l.all nmB

set_option maxHeartbeats 400000 in
theorem isLetter_any (c : UInt8) (w : World) : Calls Tryz.prog 119 #[.int .u8 c.toNat] w fun e w' => e = .returned (.bool (lettB c)) ∧ w = w' := by
  by_cases h : 97 ≤ (c.toNat : Int)
  · go_enter Tryz.func119, Tryz.ntmps119
    go_wp2_with fail
    go_ret
    exact ⟨ret_bool (by simp [lettB] <;> omega), rfl⟩
  · go_enter Tryz.func119, Tryz.ntmps119
    go_wp2_with fail
    go_ret
    exact ⟨ret_bool (by simp [lettB] <;> omega), rfl⟩
set_option maxHeartbeats 400000 in
theorem isDigit_any (c : UInt8) (w : World) : Calls Tryz.prog 130 #[.int .u8 c.toNat] w fun e w' => e = .returned (.bool (digB c)) ∧ w = w' := by
  by_cases h : 48 ≤ (c.toNat : Int)
  · go_enter Tryz.func130, Tryz.ntmps130
    go_wp2_with fail
    go_ret
    exact ⟨ret_bool (by simp [digB] <;> omega), rfl⟩
  · go_enter Tryz.func130, Tryz.ntmps130
    go_wp2_with fail
    go_ret
    exact ⟨ret_bool (by simp [digB] <;> omega), rfl⟩

theorem isLetter_is (c : UInt8) (b : Bool) (h : lettB c = b) (w : World) : Calls Tryz.prog 119 #[.int .u8 c.toNat] w fun e w' => e = .returned (.bool b) ∧ w = w' := h ▸ isLetter_any c w
theorem isDigit_is (c : UInt8) (b : Bool) (h : digB c = b) (w : World) : Calls Tryz.prog 130 #[.int .u8 c.toNat] w fun e w' => e = .returned (.bool b) ∧ w = w' := h ▸ isDigit_any c w
set_option maxHeartbeats 400000 in
theorem isNameByte_any (c : UInt8) (w : World) : Calls Tryz.prog 120 #[.int .u8 c.toNat] w fun e w' => e = .returned (.bool (nmB c)) ∧ w = w' := by
  obtain ⟨r, hr⟩ : ∃ r, nmB c = r := ⟨_, rfl⟩
  rw [hr]
  cases hc1 : lettB c with
  | true =>
    obtain rfl : r = true := by rw [← hr, nmB, hc1]; rfl
    have HC1 := Lib.hid hc1
    clear hc1 hr
    go_enter Tryz.func120, Tryz.ntmps120
    go_wp2_with fail
    refine (isLetter_is _ _ HC1.out _).mono ?_
    rintro e w1 ⟨rfl, rfl⟩
    go_wp2_with fail
    go_ret
    exact ⟨rfl, rfl⟩
  | false =>
    cases hc2 : digB c with
    | true =>
      obtain rfl : r = true := by rw [← hr, nmB, hc1, hc2]; rfl
      have HC1 := Lib.hid hc1
      have HC2 := Lib.hid hc2
      clear hc1 hc2 hr
      go_enter Tryz.func120, Tryz.ntmps120
      go_wp2_with fail
      refine (isLetter_is _ _ HC1.out _).mono ?_
      rintro e w1 ⟨rfl, rfl⟩
      go_wp2_with fail
      refine (isDigit_is _ _ HC2.out _).mono ?_
      rintro e w1 ⟨rfl, rfl⟩
      go_wp2_with fail
      go_ret
      exact ⟨rfl, rfl⟩
    | false =>
      have HC1 := Lib.hid hc1
      have HC2 := Lib.hid hc2
      have HR := Lib.hid (show r = decide ((c.toNat : Int) = 95) by rw [← hr, nmB, hc1, hc2]; rfl)
      clear hc1 hc2 hr
      go_enter Tryz.func120, Tryz.ntmps120
      go_wp2_with fail
      refine (isLetter_is _ _ HC1.out _).mono ?_
      rintro e w1 ⟨rfl, rfl⟩
      go_wp2_with fail
      refine (isDigit_is _ _ HC2.out _).mono ?_
      rintro e w1 ⟨rfl, rfl⟩
      go_wp2_with fail
      go_ret
      exact ⟨ret_bool (by rw [HR.out]; rfl), rfl⟩
theorem isNameByte_is (c : UInt8) (b : Bool) (h : nmB c = b) (w : World) : Calls Tryz.prog 120 #[.int .u8 c.toNat] w fun e w' => e = .returned (.bool b) ∧ w = w' := h ▸ isNameByte_any c w
theorem ba_getD (s : ByteArray) (k : Nat) (h : k < s.size) : s.data.toList.getD k 0 = s[k] := by
  have h2 : k < s.data.toList.length := by simpa using h
  rw [List.getD_eq_getElem?_getD, List.getElem?_eq_getElem h2]
  rfl
set_option maxHeartbeats 1000000 in
theorem isName_any (s : ByteArray) (w : World) (hs : s.size ≤ 1000000) : Calls Tryz.prog 102 #[.string s] w fun e w' => e = .returned (.bool (nameB s.data.toList)) ∧ w = w' := by
  have hlen : s.data.toList.length = s.size := by rw [Array.length_toList]; rfl
  obtain ⟨r, hr⟩ : ∃ r, nameB s.data.toList = r := ⟨_, rfl⟩
  rw [hr]
  have HR := Lib.hid hr
  have HLEN := Lib.hid hlen
  clear hr hlen
  by_cases h1 : s.size < 1
  · have hr2 : r = false := by rw [← HR.out, nameB, HLEN.out]; simp [show ¬ 1 ≤ s.size by omega]
    go_enter Tryz.func102, Tryz.ntmps102
    go_wp2_with fail
    go_ret
    exact ⟨rfl, rfl⟩
  · by_cases h2 : 40 < s.size
    · have hr2 : r = false := by rw [← HR.out, nameB, HLEN.out]; simp [show ¬ s.size ≤ 40 by omega]
      go_enter Tryz.func102, Tryz.ntmps102
      go_wp2_with fail
      go_ret
      exact ⟨rfl, rfl⟩
    · have h0 : 0 < s.size := by omega
      cases hl : lettB s[0] with
      | false =>
        have hr2 : r = false := by
          have : s.data.toList.getD 0 0 = s[0] := ba_getD s 0 h0
          rw [← HR.out, nameB, this, hl]; simp
        have HL := Lib.hid hl
        have HR2 := Lib.hid hr2
        clear hl hr2
        go_enter Tryz.func102, Tryz.ntmps102
        go_wp2_with fail
        refine (isLetter_is _ _ HL.out _).mono ?_
        rintro e w1 ⟨rfl, rfl⟩
        go_wp2_with fail
        go_ret
        exact ⟨by rw [HR2.out]; rfl, rfl⟩
      | true =>
        have HL := Lib.hid hl
        have HG := Lib.hid (show r = s.data.toList.all nmB by
          have : s.data.toList.getD 0 0 = s[0] := ba_getD s 0 h0
          rw [← HR.out, nameB, this, hl, HLEN.out]
          simp [show 1 ≤ s.size by omega, show s.size ≤ 40 by omega])
        clear hl
        go_enter Tryz.func102, Tryz.ntmps102
        go_wp2_with fail
        refine (isLetter_is _ _ HL.out _).mono ?_
        rintro e w1 ⟨rfl, rfl⟩
        go_wp2_with fail
        go_loopw [20] (fun i wr => ∃ j : Nat, j ≤ s.size ∧ i = .int .i64 j ∧ w = wr ∧ Hid ((s.data.toList.drop j).all nmB = r)) (fun i _ => s.size - (intOf i).toNat)
        case atStart => exact ⟨0, Nat.zero_le _, rfl, rfl, Lib.hid (by simpa using HG.out.symm)⟩
        case round =>
          obtain ⟨j, hj, rfl, rfl, HA⟩ := hrel
          by_cases hlt : j < s.size
          · have HA2 := Lib.hid (show (nmB s[j] && (s.data.toList.drop (j + 1)).all nmB) = r by
              rw [← HA.out, show s.data.toList.drop j = s.data.toList[j]'(by rw [HLEN.out]; exact hlt) :: s.data.toList.drop (j + 1) from List.drop_eq_getElem_cons _]; rfl)
            clear HA
            cases hc1 : nmB s[j] with
            | true =>
              have HC1 := Lib.hid hc1
              clear hc1
              go_wp2_with fail
              refine (isNameByte_is _ _ HC1.out _).mono ?_
              rintro e w1 ⟨rfl, rfl⟩
              go_wp2_with fail
              go_roundw
              case rel => exact ⟨j + 1, by omega, by go_num, trivial, Lib.hid (by rw [← HA2.out, HC1.out]; rfl)⟩
              case measure => simp [intOf]; omega
            | false =>
              have hr2 := Lib.hid (show r = false by rw [← HA2.out, hc1]; rfl)
              have HC1 := Lib.hid hc1
              clear hc1
              go_wp2_with fail
              refine (isNameByte_is _ _ HC1.out _).mono ?_
              rintro e w1 ⟨rfl, rfl⟩
              go_wp2_with fail
              go_ret
              exact ⟨by rw [hr2.out]; rfl, rfl⟩
          · have hr2 := Lib.hid (show r = true by rw [← HA.out, List.drop_eq_nil_of_le (by rw [HLEN.out]; omega)]; rfl)
            go_wp2_with fail
            go_ret
            exact ⟨by rw [hr2.out]; rfl, rfl⟩
end Go.Proofs.YtplbacfjmajeeaaGreatDoor
namespace Go.Proofs.YtplbacfjmajeeaaGreatDoor
open Go.RowKit

set_option maxHeartbeats 400000 in
theorem isLetter_a (w : World) : Calls Tryz.prog 119 #[.int .u8 97] w fun e w' => e = .returned (.bool true) ∧ w = w' := by
  go_enter Tryz.func119, Tryz.ntmps119
  go_wp2_with fail
  go_ret
  exact ⟨rfl, rfl⟩
theorem isName_a (w : World) : Calls Tryz.prog 102 #[.string ⟨#[97]⟩] w fun e w' => e = .returned (.bool true) ∧ w = w' := isName_any ⟨#[97]⟩ w (by decide)

def thePat : Pt := .mk 1 97 97 []
theorem thePat_at (w : World) : PtAt w thePat (.agg #[.int .i64 1, .int .i64 97, .int .i64 97, .slice none 0 0]) := ⟨none, 0, rfl, .inl rfl⟩
set_option maxHeartbeats 1000000 in
theorem checkMarks_a (B : Nat) (w : World) (hb : w.heap[B]? = some (.cells #[.string ⟨#[97]⟩, .int .i64 1, .int .i64 97, .int .i64 97, .slice none 0 0] 88 (0, 0))) :
    Calls Tryz.prog 81 #[.slice (some ⟨B, 0, none⟩) 1 1] w fun e w' => e = .returned (.int .i64 0) ∧ w.grownBy w' none := by
  have c0 := cell_of_block hb 0
  have c1 := cell_of_block hb 1
  have c2 := cell_of_block hb 2
  have c3 := cell_of_block hb 3
  have c4 := cell_of_block hb 4
  simp only [List.getElem?_toArray, List.getElem?_cons_zero, List.getElem?_cons_succ] at c0 c1 c2 c3 c4
  go_enter Tryz.func81, Tryz.ntmps81
  go_wp2_with fail
  refine wp_loop_rounds 2 ?_
  rw [rounds_succ]
  go_wp2_with fail
  refine (isName_a _).mono ?_
  rintro e w1 ⟨rfl, rfl⟩
  go_wp2_with fail
  refine (checkPat_any thePat _ _ (by decide) (thePat_at _)).mono ?_
  rintro e w1 ⟨rfl, g1⟩
  have g1' := grownBy_trans (World.grownBy_alloc w (.cells #[.string ⟨#[97]⟩, .int .i64 1, .int .i64 97, .int .i64 97, .slice none 0 0] 88) none) g1
  have b1 := grow_new g1 (heap_alloc_new w (.cells #[.string ⟨#[97]⟩, .int .i64 1, .int .i64 97, .int .i64 97, .slice none 0 0] 88))
  rw [show patFault thePat = 0 by decide]
  have d1 := cell_of_block b1 1
  have d2 := cell_of_block b1 2
  have d3 := cell_of_block b1 3
  have d4 := cell_of_block b1 4
  simp only [List.getElem?_toArray, List.getElem?_cons_zero, List.getElem?_cons_succ] at d1 d2 d3 d4
  have HB1 := Lib.hid b1
  clear b1 g1
  go_wp2_with fail
  refine (fitsEmpty_any thePat _ _ (by decide) (thePat_at _)).mono ?_
  rintro e w2 ⟨rfl, g2⟩
  have g2' := grownBy_trans g1' g2
  have b2 := grow_new g2 HB1.out
  rw [show thePat.nul = false by decide]
  have e1 := cell_of_block b2 1
  have e2 := cell_of_block b2 2
  have e3 := cell_of_block b2 3
  have e4 := cell_of_block b2 4
  simp only [List.getElem?_toArray, List.getElem?_cons_zero, List.getElem?_cons_succ] at e1 e2 e3 e4
  clear b2 g2 d1 d2 d3 d4
  go_wp2_with fail
  refine (size_any thePat _ _ (by decide) (thePat_at _)).mono ?_
  rintro e w3 ⟨rfl, g3⟩
  have g3' := grownBy_trans g2' g3
  rw [show ((thePat.size : Nat) : Int) = 1 by decide]
  clear g3
  go_wp2_with fail
  rw [rounds_succ]
  go_wp2_with fail
  go_ret
  exact ⟨rfl, g3'⟩
end Go.Proofs.YtplbacfjmajeeaaGreatDoor
