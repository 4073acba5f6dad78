/- Plain facts on right changes. -/
import Derived.Test.YtajigndlcdiinaaDF3
namespace Go.Proofs.Ytajigndlcdiinaa

def Right (n : Int) : Int → List Ed → Prop
  | _, [] => True
  | b, e :: r => b < e.at_ ∧ 0 ≤ e.at_ ∧ e.at_ ≤ n ∧ 0 ≤ e.old ∧ e.old ≤ n - e.at_ ∧ Right n (e.at_ + e.old) r
def newSum : List Ed → Nat
  | [] => 0
  | e :: r => e.new.size + newSum r
def oldSum : List Ed → Int
  | [] => 0
  | e :: r => e.old + oldSum r
def lastEnd : Int → List Ed → Int
  | c, [] => c
  | _, e :: r => lastEnd (e.at_ + e.old) r

theorem faultGo_zero (n : Int) : ∀ (es : List Ed) (b long : Int), faultGo n b long es = 0 → Right n b es ∧ long + newSum es - oldSum es ≤ 20000
  | [], b, long, h => by
    rw [faultGo] at h
    by_cases hl : long > 20000
    · rw [if_pos hl] at h; omega
    · simp [Right, newSum, oldSum]; omega
  | e :: r, b, long, h => by
    rw [faultGo] at h
    by_cases h1 : ¬ (0 ≤ e.at_ ∧ e.at_ ≤ n) ∨ ¬ (0 ≤ e.old ∧ e.old ≤ n - e.at_)
    · rw [if_pos h1] at h; omega
    · rw [if_neg h1] at h
      by_cases h2 : e.old = 0 ∧ e.new.size = 0
      · rw [if_pos h2] at h; omega
      · rw [if_neg h2] at h
        by_cases h3 : e.at_ ≤ b
        · rw [if_pos h3] at h; omega
        · rw [if_neg h3] at h
          obtain ⟨q1, q2⟩ := faultGo_zero n r _ _ h
          refine ⟨⟨by omega, by omega, by omega, by omega, by omega, q1⟩, ?_⟩
          simp only [newSum, oldSum]
          omega

theorem changeFault_zero {n : Int} {es : List Ed} (h : changeFault n es = 0) : (0 ≤ n ∧ n ≤ 20000) ∧ es.length ≤ 2000 ∧ Right n (-1) es ∧ n + newSum es - oldSum es ≤ 20000 := by
  unfold changeFault at h
  by_cases h1 : ¬ (0 ≤ n ∧ n ≤ 20000)
  · rw [if_pos h1] at h; omega
  · rw [if_neg h1] at h
    by_cases h2 : es.length > 2000
    · rw [if_pos h2] at h; omega
    · rw [if_neg h2] at h
      obtain ⟨q1, q2⟩ := faultGo_zero n es _ _ h
      exact ⟨by omega, by omega, q1, q2⟩

theorem flowTo_go (n : Int) (es : List Ed) : ∀ j, j ≤ es.length → (flowTo es j).1 ++ flowGo n (flowTo es j).2 (es.drop j) = flowGo n 0 es
  | 0, _ => by simp [flowTo]
  | j + 1, h => by
    have hj : j < es.length := by omega
    rw [← flowTo_go n es j (by omega), List.drop_eq_getElem_cons hj, flowGo, flowTo, List.getElem?_eq_getElem hj]
    simp [List.append_assoc]

theorem flowL_go (n : Int) (es : List Ed) : flowL es n = flowGo n 0 es := by
  have := flowTo_go n es es.length (Nat.le_refl _)
  rw [List.drop_length, flowGo] at this
  exact this

theorem newL_full (s : ByteArray) : (newL s s.size).length = s.size := by simp [newL]
theorem gapL_len (a b : Int) : (gapL a b).length = (b - a).toNat := keepL_len _ _

theorem oldSum_le (n : Int) : ∀ (es : List Ed) (c : Int), Right n c es → oldSum es ≤ lastEnd c es - c ∧ 0 ≤ oldSum es ∧ (c ≤ n → lastEnd c es ≤ n) ∧ c ≤ lastEnd c es
  | [], c, _ => by simp [oldSum, lastEnd]
  | e :: r, c, h => by
    obtain ⟨h1, h2, h3, h4, h5, h6⟩ := h
    have ih := oldSum_le n r _ h6
    simp only [oldSum, lastEnd]
    refine ⟨by omega, by omega, fun _ => ih.2.2.1 (by omega), by omega⟩

theorem flowGo_len (n : Int) : ∀ (es : List Ed) (a b : Int), Right n b es → 0 ≤ a → a ≤ b + 1 → a ≤ n → ((flowGo n a es).length : Int) = (n - a) + newSum es - oldSum es
  | [], a, b, _, h0, h1, h2 => by rw [flowGo, gapL_len]; simp [newSum, oldSum]; omega
  | e :: r, a, b, h, h0, h1, h2 => by
    obtain ⟨q1, q2, q3, q4, q5, q6⟩ := h
    have ih := flowGo_len n r (e.at_ + e.old) (e.at_ + e.old) q6 (by omega) (by omega) (by omega)
    rw [flowGo, List.length_append, List.length_append, gapL_len, newL_full]
    simp only [newSum, oldSum]
    omega

theorem keepL_mem (a : Int) (j : Nat) : ∀ x, x ∈ keepL a j → a ≤ x.1 ∧ x.1 < a + j := by
  induction j with
  | zero => simp [keepL]
  | succ j ih =>
    intro x hx
    rw [keepL, List.mem_append] at hx
    rcases hx with hx | hx
    · have := ih x hx; omega
    · simp at hx; subst hx; simp only; omega
theorem flowGo_mem (n : Int) (hn : 0 ≤ n) : ∀ (es : List Ed) (a b : Int), Right n b es → ∀ x, x ∈ flowGo n a es → x.1 < n
  | [], a, b, _, x, hx => by
    rw [flowGo, gapL] at hx
    have := keepL_mem _ _ x hx
    omega
  | e :: r, a, b, h, x, hx => by
    obtain ⟨q1, q2, q3, q4, q5, q6⟩ := h
    rw [flowGo, List.mem_append, List.mem_append] at hx
    rcases hx with (hx | hx) | hx
    · have := keepL_mem _ _ x hx; omega
    · simp only [newL, List.mem_map] at hx
      obtain ⟨c, _, rfl⟩ := hx
      simp only; omega
    · exact flowGo_mem n hn r _ _ q6 x hx

theorem right_mem (n : Int) : ∀ (es : List Ed) (b : Int), Right n b es → ∀ e, e ∈ es → 0 ≤ e.at_ ∧ e.at_ ≤ n ∧ 0 ≤ e.old ∧ e.old ≤ n ∧ e.new.size ≤ newSum es ∧ e.at_ + e.old ≤ n
  | [], _, _, e, he => by simp at he
  | x :: r, b, h, e, he => by
    obtain ⟨q1, q2, q3, q4, q5, q6⟩ := h
    simp only [newSum]
    rcases List.mem_cons.1 he with rfl | he
    · omega
    · have := right_mem n r _ q6 e he; omega

/-- All that the reference's functions ask of a right change. -/
theorem right_all {n : Int} {es : List Ed} (h : changeFault n es = 0) :
    (0 ≤ n ∧ n ≤ 20000) ∧ es.length ≤ 2000 ∧
    (∀ j, j ≤ es.length → (flowTo es j).1.length ≤ 60000 ∧ 0 ≤ (flowTo es j).2 ∧ (flowTo es j).2 ≤ 20000) ∧
    (∀ e, e ∈ es → 0 ≤ e.at_ ∧ e.at_ ≤ 20000 ∧ 0 ≤ e.old ∧ e.old ≤ 20000 ∧ e.new.size ≤ 40000) ∧
    (∀ x, x ∈ flowL es n → x.1 < n) ∧ (flowL es n).length ≤ 20000 := by
  obtain ⟨hn, hl, hr, hs⟩ := changeFault_zero h
  have ho := oldSum_le n es _ hr
  have hlen := flowGo_len n es 0 (-1) hr (by omega) (by omega) (by omega)
  have hm := right_mem n es _ hr
  have hle : (flowGo n 0 es).length ≤ 20000 := by omega
  have hold : oldSum es ≤ n := by
    cases es with
    | nil => simp [oldSum]; omega
    | cons e r =>
      obtain ⟨q1, q2, q3, q4, q5, q6⟩ := hr
      have := oldSum_le n r _ q6
      simp only [oldSum]
      have := this.2.2.1 (by omega)
      omega
  refine ⟨hn, hl, fun j hj => ?_, fun e he => ?_, ?_, by rw [flowL_go]; exact hle⟩
  · have hf := flowTo_go n es j hj
    have : (flowTo es j).1.length ≤ (flowGo n 0 es).length := by rw [← hf, List.length_append]; omega
    refine ⟨by omega, ?_⟩
    cases j with
    | zero => simp [flowTo]
    | succ j =>
      rw [flowTo, List.getElem?_eq_getElem (by omega)]
      have := hm _ (List.getElem_mem (show j < es.length by omega))
      simp only
      omega
  · have := hm e he; omega
  · rw [flowL_go]; exact flowGo_mem n hn.1 es 0 _ hr

theorem lastEnd_get : ∀ (es : List Ed) (c : Int) (h : 0 < es.length), lastEnd c es = es[es.length - 1].at_ + es[es.length - 1].old
  | [e], c, _ => by simp [lastEnd]
  | e :: x :: r, c, _ => by
    have := lastEnd_get (x :: r) (e.at_ + e.old) (by simp)
    rw [lastEnd, this]
    simp

/-- .. and what HullOf asks of one that is not empty. -/
theorem right_hull {n : Int} {es : List Ed} (h : changeFault n es = 0) (h0 : 0 < es.length) :
    es[es.length - 1].at_ + es[es.length - 1].old ≤ n ∧ es[0].at_ + (n - (es[es.length - 1].at_ + es[es.length - 1].old)) ≤ (flowL es n).length := by
  obtain ⟨hn, hl, hr, hs⟩ := changeFault_zero h
  have hlen := flowGo_len n es 0 (-1) hr (by omega) (by omega) (by omega)
  rw [flowL_go, hlen]
  have hle := lastEnd_get es (-1) h0
  cases es with
  | nil => simp at h0
  | cons e r =>
    obtain ⟨q1, q2, q3, q4, q5, q6⟩ := hr
    have ho := oldSum_le n r _ q6
    have h2 := ho.2.2.1 (by omega)
    rw [← hle]
    simp only [lastEnd, oldSum, List.getElem_cons_zero]
    omega
end Go.Proofs.Ytajigndlcdiinaa
