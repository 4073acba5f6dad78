/- Package edit: Clash and the reference's test on two right changes, plain. -/
import Derived.Test.YtajigndlcdiinaaCRf
import Derived.Test.YtajigndlcdiinaaCJ3
namespace Go.Proofs.Ytajigndlcdiinaa
open Go.RowKit

theorem right_gt {n : Int} : ∀ (es : List Ed) (b : Int), Right n b es → ∀ e ∈ es, b < e.at_
  | [], _, _, e, he => by simp at he
  | x :: r, b, h, e, he => by
    obtain ⟨q1, q2, q3, q4, q5, q6⟩ := h
    rcases List.mem_cons.1 he with rfl | he
    · exact q1
    · have := right_gt r _ q6 e he; omega
theorem right_from {n b : Int} {x : Ed} {r : List Ed} (h : Right n b (x :: r)) : ∀ e ∈ x :: r, x.at_ ≤ e.at_ := by
  obtain ⟨q1, q2, q3, q4, q5, q6⟩ := h
  intro e he
  rcases List.mem_cons.1 he with rfl | he
  · exact Int.le_refl _
  · have := right_gt r _ q6 e he; omega
theorem clash_same (n : Int) (es fs : List Ed) : ∀ (b c : Int), Right n b es → Right n c fs → clashGo es fs = clashV es fs := by
  induction es, fs using clashGo.induct with
  | case1 e es f fs h ih =>
    intro b c hE hF
    rw [clashGo, if_pos h, ih _ _ hE.2.2.2.2.2 hF]
    have hn : (f :: fs).any (touch e) = false := by
      rw [List.any_eq_false]
      intro x hx
      have := right_from hF x hx
      simp [touch]; omega
    rw [clashV, clashV, List.any_cons (l := es), hn, Bool.false_or]
  | case2 e es f fs h1 h2 ih =>
    intro b c hE hF
    rw [clashGo, if_neg h1, if_pos h2, ih _ _ hE hF.2.2.2.2.2]
    rw [clashV, clashV, Bool.eq_iff_iff]
    simp only [List.any_eq_true]
    refine exists_congr fun x => and_congr_right fun hx => ?_
    have := right_from hE x hx
    have ht : touch x f = false := by simp [touch]; omega
    constructor
    · rintro ⟨y, hy, hxy⟩; exact ⟨y, List.mem_cons_of_mem _ hy, hxy⟩
    · rintro ⟨y, hy, hxy⟩
      rcases List.mem_cons.1 hy with rfl | hy
      · rw [ht] at hxy; cases hxy
      · exact ⟨y, hy, hxy⟩
  | case3 e es f fs h1 h2 =>
    intro b c hE hF
    rw [clashGo, if_neg h1, if_neg h2]
    have : touch e f = true := by simp [touch]; omega
    simp [clashV, this]
  | case4 es fs h =>
    intro b c hE hF
    rw [clashGo.eq_def]
    cases es with
    | nil => rfl
    | cons e es =>
      cases fs with
      | nil => simp [clashV]
      | cons f fs => exact absurd rfl (h e es f fs rfl)
end Go.Proofs.Ytajigndlcdiinaa
