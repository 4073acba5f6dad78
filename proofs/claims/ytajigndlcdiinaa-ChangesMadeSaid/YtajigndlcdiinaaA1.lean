/- Package edit: end, growth, length. -/
import Derived.Test.YtajigndlcdiinaaE2
namespace Go.Proofs.Ytajigndlcdiinaa
open Go.RowKit

def lenGo : Int → List Ed → Int
  | n, [] => n
  | n, e :: r => lenGo (n + (e.new.size - e.old)) r

theorem end_any (x y : Int) (s : ByteArray) (w : World) (hx : -1000000000000 ≤ x ∧ x ≤ 1000000000000) (hy : -1000000000000 ≤ y ∧ y ≤ 1000000000000) :
    Calls Try.prog 50 #[.agg #[.int .i64 x, .int .i64 y, .string s]] w fun e w' => e = .returned (.int .i64 (x + y)) ∧ w.alloc (.cells #[.int .i64 x, .int .i64 y, .string s] 47) = w' := by
  go_enter Try.func50, Try.ntmps50
  go_wp2_with fail
  go_ret
  exact ⟨rfl, rfl⟩

theorem growth_any (x y : Int) (s : ByteArray) (w : World) (hy : -1000000000000 ≤ y ∧ y ≤ 1000000000000) (hs : s.size ≤ 1099511627776) :
    Calls Try.prog 78 #[.agg #[.int .i64 x, .int .i64 y, .string s]] w fun e w' => e = .returned (.int .i64 (s.size - y)) ∧ w.alloc (.cells #[.int .i64 x, .int .i64 y, .string s] 47) = w' := by
  go_enter Try.func78, Try.ntmps78
  go_wp2_with fail
  go_ret
  exact ⟨rfl, rfl⟩

set_option maxHeartbeats 4000000 in
theorem length_any (n : Int) (a : Option Addr) (cap : Nat) (es : List Ed) (w : World) (hn : -1000000 ≤ n ∧ n ≤ 1000000) (hl : es.length ≤ 2000) (hE : Eds w a es) (hS : ∀ e, e ∈ es → 0 ≤ e.old ∧ e.old ≤ 20000 ∧ e.new.size ≤ 1099511627776) :
    Calls Try.prog 48 #[.int .i64 n, .slice a es.length cap] w fun e w' => e = .returned (.int .i64 (lenGo n es)) ∧ w.grownBy w' none := by
  have HF : Hid (lenGo n es = lenGo n (es.drop 0)) := Lib.hid rfl
  go_enter Try.func48, Try.ntmps48
  go_wp2_with fail
  go_loopw [0, 9] (fun nv i wr => ∃ (j : Nat) (m : Int), j ≤ es.length ∧ i = .int .i64 j ∧ nv = .int .i64 m ∧ n - 20000 * (j : Int) ≤ m ∧ m ≤ n + 1099511627776 * (j : Int)
    ∧ Hid (lenGo n es = lenGo m (es.drop j)) ∧ w.grownBy wr none) (fun _ i _ => es.length - (intOf i).toNat)
  case atStart => exact ⟨0, n, Nat.zero_le _, rfl, rfl, by omega, by omega, HF, grow_refl _ _⟩
  case round =>
    obtain ⟨j, m, hj, rfl, rfl, l1, l2, HH, hg⟩ := hrel
    by_cases hlt : j < es.length
    · obtain ⟨g, off, rfl, c1, c2, c3⟩ := hE j hlt
      replace c1 := hg.cell c1 (by simp)
      replace c2 := hg.cell c2 (by simp)
      replace c3 := hg.cell c3 (by simp)
      have hs := hS _ (List.getElem_mem hlt)
      have hcons : es.drop j = es[j] :: es.drop (j + 1) := List.drop_eq_getElem_cons hlt
      have HH2 := Lib.hid (HH.out.trans (by rw [hcons, lenGo]))
      clear hcons HH
      generalize es[j] = e at c1 c2 c3 hs HH2
      obtain ⟨ea, eo, en⟩ := e
      simp only at c1 c2 c3 hs HH2
      have hgw : w.grownBy ((wr.alloc (.cells #[.int .i64 ea, .int .i64 eo, .string en] 47)).alloc (.cells #[.int .i64 ea, .int .i64 eo, .string en] 47)) none := grow_trans (grow_trans hg (World.grownBy_alloc _ _ _)) (World.grownBy_alloc _ _ _)
      go_wp2_with (go_at_call 78; refine (growth_any _ _ _ _ (by omega) (by omega)).mono ?_; rintro e' w1 ⟨rfl, rfl⟩)
      go_roundw
      case rel => exact ⟨j + 1, _, by omega, by go_num, rfl, by omega, by omega, HH2, hgw⟩
      case measure => simp [intOf]; omega
    · obtain rfl : j = es.length := by omega
      have HH2 := Lib.hid (HH.out.trans (by rw [List.drop_length, lenGo]))
      clear HH
      go_wp2_with fail
      go_ret
      rw [HH2.out]
      exact ⟨rfl, hg⟩
end Go.Proofs.Ytajigndlcdiinaa
