/- Package edit: Check, checkText. -/
import Derived.Test.YtajigndlcdiinaaDQ1
namespace Go.Proofs.Ytajigndlcdiinaa
open Go.RowKit

theorem all_take {P : Ed → Prop} {es : List Ed} {j : Nat} (h : ∀ e, e ∈ es.take j → P e) (hj : j < es.length) (hp : P es[j]) : ∀ e, e ∈ es.take (j + 1) → P e := by
  rw [List.take_succ_eq_append_getElem hj]
  intro e he
  rcases List.mem_append.1 he with he | he
  · exact h e he
  · simp at he; subst he; exact hp

set_option maxHeartbeats 8000000 in
theorem check_any (n : Int) (a : Option Addr) (cap : Nat) (es : List Ed) (w : World) (hl : es.length ≤ 1000000) (hE : Eds w a es) (hS : EdsSmall es) :
    Calls Try.prog 21 #[.int .i64 n, .slice a es.length cap] w fun e w' => e = .returned (.int .i64 (changeFault n es)) ∧ w.grownBy w' none := by
  by_cases h0 : 0 ≤ n ∧ n ≤ 20000
  · by_cases h1 : es.length ≤ 2000
    · have HF := Lib.hid (show changeFault n es = faultGo n (-1) n es by rw [changeFault, if_neg (by omega), if_neg (by omega)])
      have HL : Hid (lenGo n es = lenGo n (es.drop 0)) := Lib.hid rfl
      have HS := Lib.hid hS
      have HE := Lib.hid hE
      clear hS
      have d1 : decide (2000 < (es.length : Int)) = false := by simp; omega
      go_enter Try.func21, Try.ntmps21
      go_wp2_with fail
      go_loopw [5, 19] (fun bh i wr => ∃ (j : Nat) (behind long : Int), j ≤ es.length ∧ i = .int .i64 j ∧ bh = .int .i64 behind ∧ -1 ≤ behind ∧ behind ≤ 20000
        ∧ Hid (changeFault n es = faultGo n behind long (es.drop j)) ∧ Hid (lenGo n es = lenGo long (es.drop j)) ∧ Hid (∀ e, e ∈ es.take j → 0 ≤ e.old ∧ e.old ≤ 20000 ∧ e.new.size ≤ 1099511627776) ∧ w.grownBy wr none) (fun _ i _ => es.length - (intOf i).toNat)
      case atStart => exact ⟨0, -1, n, Nat.zero_le _, rfl, rfl, by omega, by omega, HF, HL, Lib.hid (by simp), grow_refl _ _⟩
      case round =>
        obtain ⟨j, behind, long, hj, rfl, rfl, b1, b2, HH, HM, HT, hg⟩ := hrel
        by_cases hlt : j < es.length
        · obtain ⟨g, off, rfl, c1, c2, c3⟩ := hE j hlt
          replace c1 := hg.cell c1 (by simp)
          replace c2 := hg.cell c2 (by simp)
          replace c3 := hg.cell c3 (by simp)
          have hs := HS.out _ (List.getElem_mem hlt)
          have hcons : es.drop j = es[j] :: es.drop (j + 1) := List.drop_eq_getElem_cons hlt
          have HH2 := Lib.hid (HH.out.trans (by rw [hcons, faultGo]))
          have HM2 := Lib.hid (HM.out.trans (by rw [hcons, lenGo]))
          have HT2 := Lib.hid (fun hp => all_take HT.out hlt hp)
          clear hcons HH HM HT
          generalize es[j] = e at c1 c2 c3 hs HH2 HM2 HT2
          obtain ⟨ea, eo, en⟩ := e
          simp only at c1 c2 c3 hs HH2 HM2 HT2
          have hgw : w.grownBy (wr.alloc (.cells #[.int .i64 ea, .int .i64 eo, .string en] 47)) none := grow_trans hg (World.grownBy_alloc _ _ _)
          by_cases t1 : ea < 0
          · have HH4 := Lib.hid (HH2.out.trans (if_pos (Or.inl (by omega))))
            clear HH2 HM2 HT2
            go_wp2_with fail
            go_ret
            rw [HH4.out]
            exact ⟨rfl, hgw⟩
          by_cases t2 : n < ea
          · have HH4 := Lib.hid (HH2.out.trans (if_pos (Or.inl (by omega))))
            clear HH2 HM2 HT2
            go_wp2_with fail
            go_ret
            rw [HH4.out]
            exact ⟨rfl, hgw⟩
          by_cases t3 : eo < 0
          · have HH4 := Lib.hid (HH2.out.trans (if_pos (Or.inr (by omega))))
            clear HH2 HM2 HT2
            go_wp2_with fail
            go_ret
            rw [HH4.out]
            exact ⟨rfl, hgw⟩
          by_cases t4 : n - ea < eo
          · have HH4 := Lib.hid (HH2.out.trans (if_pos (Or.inr (by omega))))
            clear HH2 HM2 HT2
            go_wp2_with fail
            go_ret
            rw [HH4.out]
            exact ⟨rfl, hgw⟩
          have HH3 := Lib.hid (HH2.out.trans (if_neg (by omega)))
          clear HH2
          by_cases t6 : ea ≤ behind
          · by_cases t5 : eo = 0
            · by_cases t7 : en.size = 0
              · have z := isEmpty_of_size t7
                have HH4 := Lib.hid (HH3.out.trans (if_pos ⟨t5, t7⟩))
                have t3b : (eo == 0) = true := by simp [t5]
                clear HH3 HM2 HT2 t5 t7
                go_wp2_with fail
                go_ret
                rw [HH4.out]
                exact ⟨rfl, hgw⟩
              · have z := not_isEmpty_of_size t7
                have HH4 := Lib.hid (HH3.out.trans ((if_neg (by omega)).trans (if_pos t6)))
                have t3b : (eo == 0) = true := by simp [t5]
                clear HH3 HM2 HT2 t5 t7
                go_wp2_with fail
                go_ret
                rw [HH4.out]
                exact ⟨rfl, hgw⟩
            · have HH4 := Lib.hid (HH3.out.trans ((if_neg (by omega)).trans (if_pos t6)))
              have t3b : (eo == 0) = false := by simp [t5]
              clear HH3 HM2 HT2 t5
              go_wp2_with fail
              go_ret
              rw [HH4.out]
              exact ⟨rfl, hgw⟩
          · have HT3 := Lib.hid (HT2.out ⟨by omega, by omega, by omega⟩)
            have hgx : w.grownBy ((wr.alloc (.cells #[.int .i64 ea, .int .i64 eo, .string en] 47)).alloc (.cells #[.int .i64 ea, .int .i64 eo, .string en] 47)) none := grow_trans hgw (World.grownBy_alloc _ _ _)
            clear HT2 hgw
            by_cases t5 : eo = 0
            · by_cases t7 : en.size = 0
              · have z := isEmpty_of_size t7
                have hgw : w.grownBy (wr.alloc (.cells #[.int .i64 ea, .int .i64 eo, .string en] 47)) none := grow_trans hg (World.grownBy_alloc _ _ _)
                have HH4 := Lib.hid (HH3.out.trans (if_pos ⟨t5, t7⟩))
                have t3b : (eo == 0) = true := by simp [t5]
                clear HH3 HM2 HT3 t5 t7
                go_wp2_with fail
                go_ret
                rw [HH4.out]
                exact ⟨rfl, hgw⟩
              · have z := not_isEmpty_of_size t7
                have HH4 := Lib.hid (HH3.out.trans ((if_neg (by omega)).trans (if_neg t6)))
                have t3b : (eo == 0) = true := by simp [t5]
                clear HH3 t5 t7
                go_wp2_with (go_at_call 50; refine (end_any _ _ _ _ (by omega) (by omega)).mono ?_; rintro e' w1 ⟨rfl, rfl⟩)
                go_roundw
                case rel => exact ⟨j + 1, _, _, by omega, by go_num, rfl, by omega, by omega, HH4, HM2, HT3, hgx⟩
                case measure => simp [intOf]; omega
            · have HH4 := Lib.hid (HH3.out.trans ((if_neg (by omega)).trans (if_neg t6)))
              have t3b : (eo == 0) = false := by simp [t5]
              clear HH3 t5
              go_wp2_with (go_at_call 50; refine (end_any _ _ _ _ (by omega) (by omega)).mono ?_; rintro e' w1 ⟨rfl, rfl⟩)
              go_roundw
              case rel => exact ⟨j + 1, _, _, by omega, by go_num, rfl, by omega, by omega, HH4, HM2, HT3, hgx⟩
              case measure => simp [intOf]; omega
        · obtain rfl : j = es.length := by omega
          have HH2 := Lib.hid (HH.out.trans (by rw [List.drop_length, faultGo]))
          have HM2 := Lib.hid (HM.out.trans (by rw [List.drop_length, lenGo]))
          have HLen := length_any n a cap es wr (by omega) h1 (hE.grown hg (by simp)) (by have := HT.out; rwa [List.take_length] at this)
          rw [HM2.out] at HLen
          have HLn := Lib.hid HLen
          clear HH HM HM2 HLen HT
          by_cases t : long > 20000
          · have HH4 := Lib.hid (HH2.out.trans (if_pos t))
            clear HH2
            go_wp2_with fail
            refine HLn.out.mono ?_
            rintro e w1 ⟨rfl, g1⟩
            go_wp2_with fail
            go_ret
            rw [HH4.out]
            exact ⟨rfl, grow_trans hg g1⟩
          · have HH4 := Lib.hid (HH2.out.trans (if_neg t))
            clear HH2
            go_wp2_with fail
            refine HLn.out.mono ?_
            rintro e w1 ⟨rfl, g1⟩
            go_wp2_with fail
            go_ret
            rw [HH4.out]
            exact ⟨rfl, grow_trans hg g1⟩
    · have HF := Lib.hid (show changeFault n es = 2 by rw [changeFault, if_neg (by omega), if_pos (by omega)])
      have d1 : decide (2000 < (es.length : Int)) = true := by simp; omega
      go_enter Try.func21, Try.ntmps21
      go_wp2_with fail
      go_ret
      rw [HF.out]
      exact ⟨rfl, grow_refl _ _⟩
  · have HF := Lib.hid (show changeFault n es = 1 by rw [changeFault, if_pos h0])
    by_cases a1 : n < 0
    · go_enter Try.func21, Try.ntmps21
      go_wp2_with fail
      go_ret
      rw [HF.out]
      exact ⟨rfl, grow_refl _ _⟩
    · have a2 : 20000 < n := by omega
      go_enter Try.func21, Try.ntmps21
      go_wp2_with fail
      go_ret
      rw [HF.out]
      exact ⟨rfl, grow_refl _ _⟩

def faultText (s : ByteArray) (es : List Ed) : Int := if s.size > 20000 then 2 else changeFault s.size es
theorem checkText_any (s : ByteArray) (a : Option Addr) (cap : Nat) (es : List Ed) (w : World) (hs : s.size ≤ 1000000000) (hl : es.length ≤ 1000000) (hE : Eds w a es) (hS : EdsSmall es) :
    Calls Try.prog 46 #[.string s, .slice a es.length cap] w fun e w' => e = .returned (.int .i64 (faultText s es)) ∧ w.grownBy w' none := by
  by_cases h : s.size > 20000
  · have HF := Lib.hid (show faultText s es = 2 by rw [faultText, if_pos h])
    have d1 : decide (20000 < (s.size : Int)) = true := by simp; omega
    clear hE
    go_enter Try.func46, Try.ntmps46
    go_wp2_with fail
    go_ret
    rw [HF.out]
    exact ⟨rfl, grow_refl _ _⟩
  · have HF := Lib.hid (show faultText s es = changeFault s.size es by rw [faultText, if_neg h])
    have d1 : decide (20000 < (s.size : Int)) = false := by simp; omega
    go_enter Try.func46, Try.ntmps46
    go_wp2_with fail
    refine (check_any s.size a cap es w hl hE hS).mono ?_
    rintro e w1 ⟨rfl, g1⟩
    go_wp2_with fail
    go_ret
    rw [HF.out]
    exact ⟨rfl, g1⟩
end Go.Proofs.Ytajigndlcdiinaa
