/- InverseOf: where an old byte stands in a flow. -/
import Derived.Test.YtajigndlcdiinaaH4
namespace Go.Proofs.Ytajigndlcdiinaa
open Go.RowKit

def idxGo (i : Int) : Nat → List Let → Int
  | _, [] => -1
  | k, x :: r => if x.1 = i then (k : Int) else idxGo i (k + 1) r
def idxL (ls : List Let) (i : Int) : Int := idxGo i 0 ls
theorem idxGo_bd (i : Int) : ∀ (ls : List Let) (k : Nat), -1 ≤ idxGo i k ls ∧ idxGo i k ls < (k + ls.length : Nat) ∨ idxGo i k ls = -1
  | [], k => by simp [idxGo]
  | x :: r, k => by
    rw [idxGo]
    split
    · left; simp; omega
    · rcases idxGo_bd i r (k + 1) with h | h
      · left; simp at h ⊢; omega
      · right; exact h

theorem invClosure (x1 : Int) (x2 : UInt8) (b : Nat) (i : Int) (w : World) (hb : w.heap[b]? = some (.cells #[.int .i64 i] 3 /-t:int-/ (0, 0))) :
    Calls Try.prog 58 #[.agg #[.int .i64 x1, .int .u8 x2.toNat], .pointer (some ⟨b, 0, none⟩)] w fun e w' => e = .returned (.bool (x1 == i)) ∧ w.grownBy w' none := by
  have c0 : ∀ o, (w.alloc o).cell? ⟨b, 0, none⟩ = some (.int .i64 i) := fun o => cell_of_block ((Below.heap_alloc w o b (lt_of_block hb)).trans hb) 0
  go_enter Try.func58, Try.ntmps58
  go_wp2_with fail
  go_ret
  exact ⟨ret_bool rfl, World.grownBy_alloc _ _ _⟩

set_option maxHeartbeats 4000000 in
set_option maxRecDepth 100000 in
theorem indexFunc_any (lv : Value) (base : Nat) (ls : List Let) (b : Nat) (i : Int) (w : World) (hl : ls.length ≤ 100000) (hb : w.heap[b]? = some (.cells #[.int .i64 i] 3 /-t:int-/ (0, 0)))
    (hown : w.ownsRow base 88 /-t:hedgelayer/hgref2.letter-/ 2 lv ls.length (letCells ls)) :
    Calls Try.prog 57 #[lv, .func (Fn.func 58) #[] #[.pointer (some ⟨b, 0, none⟩)]] w fun e w' => e = .returned (.int .i64 (idxL ls i)) ∧ w.grownBy w' none := by
  obtain ⟨av, cv, rfl⟩ := ownsRow_slice hown
  have HH := Lib.hid (show idxL ls i = idxGo i 0 (ls.drop 0) from rfl)
  go_enter Try.func57, Try.ntmps57
  go_wp2_with fail
  go_loopw [8] (fun q wr => ∃ j : Nat, j ≤ ls.length ∧ q = .int .i64 j ∧ Hid (idxL ls i = idxGo i j (ls.drop j)) ∧ w.grownBy wr none) (fun q _ => ls.length - (intOf q).toNat)
  case atStart => exact ⟨0, Nat.zero_le _, rfl, HH, grow_self w⟩
  case round =>
    obtain ⟨j, hj, rfl, HJ, hg⟩ := hrel
    clear HH
    by_cases hlt : j < ls.length
    · have hownr := ownsRow_frm (Frm.of_grown hg (fun _ _ => True)) hown (fun _ _ _ _ => trivial)
      obtain ⟨g, cap2, hv, hgb, hc⟩ := ownsRow_cell hownr (by omega)
      simp only [Value.slice.injEq] at hv
      obtain ⟨rfl, _, rfl⟩ := hv
      have hc0 := hc _ _ (letCells_get ls j hlt).1
      have hc1 := hc _ _ (letCells_get ls j hlt).2
      have hbr : wr.heap[b]? = some (.cells #[.int .i64 i] 3 /-t:int-/ (0, 0)) := by rw [hg.block b (lt_of_block hb) (by simp)]; exact hb
      have HD := Lib.hid (show ls.drop j = ls[j] :: ls.drop (j + 1) from List.drop_eq_getElem_cons hlt)
      clear hc hownr
      generalize ls[j] = x at hc0 hc1 HD
      obtain ⟨x1, x2⟩ := x
      simp only at hc0 hc1
      by_cases hx : x1 = i
      · have HR := Lib.hid (show idxL ls i = (j : Int) by rw [HJ.out, HD.out, idxGo]; exact if_pos hx)
        have hbx : (x1 == i) = true := by simp [hx]
        clear hx
        go_wp2_with fail
        refine (invClosure x1 x2 b i wr hbr).mono ?_
        rintro e w1 ⟨rfl, g1⟩
        go_wp2_with fail
        go_ret
        exact ⟨ret_i64 HR.out.symm, grownBy_trans hg g1⟩
      · have HR := Lib.hid (show idxL ls i = idxGo i (j + 1) (ls.drop (j + 1)) by rw [HJ.out, HD.out, idxGo]; exact if_neg hx)
        have hbx : (x1 == i) = false := by simp [hx]
        clear hx
        go_wp2_with fail
        refine (invClosure x1 x2 b i wr hbr).mono ?_
        rintro e w1 ⟨rfl, g1⟩
        have G1 := grownBy_trans hg g1
        go_wp2_with fail
        go_roundw
        case rel => exact ⟨j + 1, by omega, by go_num, HR, G1⟩
        case measure => simp [intOf]; omega
    · obtain rfl : j = ls.length := by omega
      have HR := Lib.hid (show idxL ls i = -1 by rw [HJ.out, List.drop_length, idxGo])
      go_wp2_with fail
      go_ret
      exact ⟨ret_i64 HR.out.symm, hg⟩
end Go.Proofs.Ytajigndlcdiinaa
