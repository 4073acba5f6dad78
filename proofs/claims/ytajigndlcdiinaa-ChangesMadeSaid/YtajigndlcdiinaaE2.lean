/- Edits, the reference's: ChangeFault. -/
import Derived.Test.YtajigndlcdiinaaE1
namespace Go.Proofs.Ytajigndlcdiinaa
open Go.RowKit

structure Ed where
  at_ : Int
  old : Int
  new : ByteArray

/-- The slice that begins at `a` holds these edits. -/
def Eds (w : World) (a : Option Addr) (es : List Ed) : Prop := ∀ j, (h : j < es.length) → ∃ g off, a = some ⟨g, off, none⟩ ∧
  w.cell? ⟨g, off + j * 3, none⟩ = some (.int .i64 es[j].at_) ∧ w.cell? ⟨g, off + j * 3 + 1, none⟩ = some (.int .i64 es[j].old) ∧ w.cell? ⟨g, off + j * 3 + 2, none⟩ = some (.string es[j].new)

theorem Eds.grown {w w' : World} {a es} {row : Option Nat} (h : Eds w a es) (g : w.grownBy w' row) (ha : ∀ x, a = some x → some x.block ≠ row) : Eds w' a es := by
  intro j hj
  obtain ⟨b, off, e, h1, h2, h3⟩ := h j hj
  have := ha _ e
  exact ⟨b, off, e, g.cell h1 this, g.cell h2 this, g.cell h3 this⟩

/-- Sizes of what is put in, and numbers that fit. -/
def EdsSmall (es : List Ed) : Prop := ∀ e, e ∈ es → e.new.size ≤ 1099511627776 ∧ -9223372036854775808 ≤ e.at_ ∧ e.at_ ≤ 9223372036854775807 ∧ -9223372036854775808 ≤ e.old ∧ e.old ≤ 9223372036854775807

def faultGo (n : Int) : Int → Int → List Ed → Int
  | _, long, [] => if long > 20000 then 2 else 0
  | behind, long, e :: r =>
    if ¬ (0 ≤ e.at_ ∧ e.at_ ≤ n) ∨ ¬ (0 ≤ e.old ∧ e.old ≤ n - e.at_) then 1
    else if e.old = 0 ∧ e.new.size = 0 then 3
    else if e.at_ ≤ behind then 7
    else faultGo n (e.at_ + e.old) (long + (e.new.size - e.old)) r
def changeFault (n : Int) (es : List Ed) : Int :=
  if ¬ (0 ≤ n ∧ n ≤ 20000) then 1 else if es.length > 2000 then 2 else faultGo n (-1) n es

theorem grow_refl (w : World) (r : Option Nat) : w.grownBy w r := ⟨rfl, rfl, rfl, Nat.le_refl _, fun _ _ _ => rfl⟩

theorem grow_trans {w0 w1 w2 : World} {r : Option Nat} (h : w0.grownBy w1 r) (g : w1.grownBy w2 r) : w0.grownBy w2 r := grownBy_trans h g
theorem isEmpty_size (s : ByteArray) : s.toList.isEmpty = decide (s.size = 0) := by
  rw [ByteArray.toList_eq]
  obtain ⟨⟨d⟩⟩ := s
  cases d <;> simp [ByteArray.size]
theorem isEmpty_of_size {s : ByteArray} (h : s.size = 0) : s.toList.isEmpty = true := by rw [isEmpty_size]; simp [h]
theorem not_isEmpty_of_size {s : ByteArray} (h : ¬ s.size = 0) : s.toList.isEmpty = false := by rw [isEmpty_size]; simp [h]

set_option maxHeartbeats 4000000 in
theorem changeFault_any (n : Int) (a : Option Addr) (cap : Nat) (es : List Ed) (w : World) (hl : es.length ≤ 1000000) (hE : Eds w a es) (hS : EdsSmall es) :
    Calls Try.prog 15 #[.int .i64 n, .slice a es.length cap] w fun e w' => e = .returned (.int .i64 (changeFault n es)) ∧ w.grownBy w' none := by
  by_cases h0 : 0 ≤ n ∧ n ≤ 20000
  · by_cases h1 : es.length ≤ 2000
    · have HF := Lib.hid (show changeFault n es = faultGo n (-1) n es by rw [changeFault, if_neg (by omega), if_neg (by omega)])
      have i1 := inB_yes h0
      have d1 : decide (2000 < (es.length : Int)) = false := by simp; omega
      go_enter Try.func15, Try.ntmps15
      go_wp2_with fail
      refine (in_any _ _ _ _).mono ?_
      rintro e w1 ⟨rfl, rfl⟩
      go_wp2_with fail
      go_loopw [5, 6, 20] (fun bh lg i wr => ∃ (j : Nat) (behind long : Int), j ≤ es.length ∧ i = .int .i64 j ∧ bh = .int .i64 behind ∧ lg = .int .i64 long ∧ -1 ≤ behind ∧ behind ≤ 20000 ∧ -20000 * (j : Int) ≤ long ∧ long ≤ n + 1099511627776 * (j : Int)
        ∧ Hid (changeFault n es = faultGo n behind long (es.drop j)) ∧ w.grownBy wr none) (fun _ _ i _ => es.length - (intOf i).toNat)
      case atStart => exact ⟨0, -1, n, Nat.zero_le _, rfl, rfl, rfl, by omega, by omega, by omega, by omega, HF, grow_refl _ _⟩
      case round =>
        obtain ⟨j, behind, long, hj, rfl, rfl, rfl, b1, b2, l1, l2, HH, hg⟩ := hrel
        by_cases hlt : j < es.length
        · obtain ⟨g, off, rfl, c1, c2, c3⟩ := hE j hlt
          replace c1 := hg.cell c1 (by simp)
          replace c2 := hg.cell c2 (by simp)
          replace c3 := hg.cell c3 (by simp)
          have hs := hS _ (List.getElem_mem hlt)
          have hcons : es.drop j = es[j] :: es.drop (j + 1) := List.drop_eq_getElem_cons hlt
          have HH2 := Lib.hid (HH.out.trans (by rw [hcons, faultGo]))
          clear hcons HH
          generalize es[j] = e at c1 c2 c3 hs HH2
          obtain ⟨ea, eo, en⟩ := e
          simp only at c1 c2 c3 hs HH2
          have hgw : w.grownBy (wr.alloc (.cells #[.int .i64 ea, .int .i64 eo, .string en] 47 /-t:hedgelayer/api.Edit-/)) none := grow_trans hg (World.grownBy_alloc _ _ _)
          by_cases t1 : 0 ≤ ea ∧ ea ≤ n
          · by_cases t2 : 0 ≤ eo ∧ eo ≤ n - ea
            · have i1 := inB_yes t1
              have i2 := inB_yes t2
              have HH3 := Lib.hid (HH2.out.trans (if_neg (by omega)))
              clear HH2
              by_cases t4 : ea ≤ behind
              · by_cases t3 : eo = 0
                · by_cases t5 : en.size = 0
                  · have z := isEmpty_of_size t5
                    have HH4 := Lib.hid (HH3.out.trans (if_pos ⟨t3, t5⟩))
                    have t3b : (eo == 0) = true := by simp [t3]
                    clear HH3 t3 t5
                    go_wp2_with (go_at_call 53; refine (in_any _ _ _ _).mono ?_; rintro e' w1 ⟨rfl, rfl⟩)
                    go_ret
                    rw [HH4.out]
                    exact ⟨rfl, hgw⟩
                  · have z := not_isEmpty_of_size t5
                    have HH4 := Lib.hid (HH3.out.trans ((if_neg (by omega)).trans (if_pos t4)))
                    have t3b : (eo == 0) = true := by simp [t3]
                    clear HH3 t3 t5
                    go_wp2_with (go_at_call 53; refine (in_any _ _ _ _).mono ?_; rintro e' w1 ⟨rfl, rfl⟩)
                    go_ret
                    rw [HH4.out]
                    exact ⟨rfl, hgw⟩
                · have HH4 := Lib.hid (HH3.out.trans ((if_neg (by omega)).trans (if_pos t4)))
                  have t3b : (eo == 0) = false := by simp [t3]
                  clear HH3 t3
                  go_wp2_with (go_at_call 53; refine (in_any _ _ _ _).mono ?_; rintro e' w1 ⟨rfl, rfl⟩)
                  go_ret
                  rw [HH4.out]
                  exact ⟨rfl, hgw⟩
              · by_cases t3 : eo = 0
                · by_cases t5 : en.size = 0
                  · have z := isEmpty_of_size t5
                    have HH4 := Lib.hid (HH3.out.trans (if_pos ⟨t3, t5⟩))
                    have t3b : (eo == 0) = true := by simp [t3]
                    clear HH3 t3 t5
                    go_wp2_with (go_at_call 53; refine (in_any _ _ _ _).mono ?_; rintro e' w1 ⟨rfl, rfl⟩)
                    go_ret
                    rw [HH4.out]
                    exact ⟨rfl, hgw⟩
                  · have z := not_isEmpty_of_size t5
                    have HH4 := Lib.hid (HH3.out.trans ((if_neg (by omega)).trans (if_neg t4)))
                    have t3b : (eo == 0) = true := by simp [t3]
                    clear HH3 t3 t5
                    go_wp2_with (go_at_call 53; refine (in_any _ _ _ _).mono ?_; rintro e' w1 ⟨rfl, rfl⟩)
                    go_roundw
                    case rel => exact ⟨j + 1, _, _, by omega, by go_num, rfl, rfl, by omega, by omega, by omega, by omega, HH4, hgw⟩
                    case measure => simp [intOf]; omega
                · have HH4 := Lib.hid (HH3.out.trans ((if_neg (by omega)).trans (if_neg t4)))
                  have t3b : (eo == 0) = false := by simp [t3]
                  clear HH3 t3
                  go_wp2_with (go_at_call 53; refine (in_any _ _ _ _).mono ?_; rintro e' w1 ⟨rfl, rfl⟩)
                  go_roundw
                  case rel => exact ⟨j + 1, _, _, by omega, by go_num, rfl, rfl, by omega, by omega, by omega, by omega, HH4, hgw⟩
                  case measure => simp [intOf]; omega
            · have i1 := inB_yes t1
              have i2 := inB_no t2
              have w1 : IntKind.i64.wrap (n - ea) = n - ea := IntWalk.i64_in _ (by omega)
              have HH4 := Lib.hid (HH2.out.trans (if_pos (Or.inr t2)))
              clear HH2
              go_wp2_with (go_at_call 53; refine (in_any _ _ _ _).mono ?_; rintro e' w1 ⟨rfl, rfl⟩)
              go_ret
              rw [HH4.out]
              exact ⟨rfl, hgw⟩
          · have i1 := inB_no t1
            have HH4 := Lib.hid (HH2.out.trans (if_pos (Or.inl t1)))
            clear HH2
            go_wp2_with (go_at_call 53; refine (in_any _ _ _ _).mono ?_; rintro e' w1 ⟨rfl, rfl⟩)
            go_ret
            rw [HH4.out]
            exact ⟨rfl, hgw⟩
        · obtain rfl : j = es.length := by omega
          have HH2 := Lib.hid (HH.out.trans (by rw [List.drop_length, faultGo]))
          clear HH
          by_cases t : long > 20000
          · have HH4 := Lib.hid (HH2.out.trans (if_pos t))
            clear HH2
            go_wp2_with fail
            go_ret
            rw [HH4.out]
            exact ⟨rfl, hg⟩
          · have HH4 := Lib.hid (HH2.out.trans (if_neg t))
            clear HH2
            go_wp2_with fail
            go_ret
            rw [HH4.out]
            exact ⟨rfl, hg⟩
    · have HF := Lib.hid (show changeFault n es = 2 by rw [changeFault, if_neg (by omega), if_pos (by omega)])
      have i1 := inB_yes h0
      have d1 : decide (2000 < (es.length : Int)) = true := by simp; omega
      go_enter Try.func15, Try.ntmps15
      go_wp2_with (go_at_call 53; refine (in_any _ _ _ _).mono ?_; rintro e' w1 ⟨rfl, rfl⟩)
      go_ret
      rw [HF.out]
      exact ⟨rfl, grow_refl _ _⟩
  · have HF := Lib.hid (show changeFault n es = 1 by rw [changeFault, if_pos h0])
    have i1 := inB_no h0
    go_enter Try.func15, Try.ntmps15
    go_wp2_with (go_at_call 53; refine (in_any _ _ _ _).mono ?_; rintro e' w1 ⟨rfl, rfl⟩)
    go_ret
    rw [HF.out]
    exact ⟨rfl, grow_refl _ _⟩
end Go.Proofs.Ytajigndlcdiinaa
