/- Package edit: the text after a change, an offset at a time, plain. -/
import Derived.Test.YtajigndlcdiinaaDTa
import Derived.Test.YtajigndlcdiinaaDQ3
namespace Go.Proofs.Ytajigndlcdiinaa
open Go.RowKit

theorem comG_ord (n : Int) : ∀ (es : List Ed) (b sh : Int), b ≤ n → Right n b es → (∀ e ∈ es, e.new.size ≤ 40000) → Ord (n + sh + newSum es - oldSum es) (b + 1 + sh) (comG sh es)
  | [], _, _, _, _, _ => trivial
  | e :: r, b, sh, hb, h, hs => by
    obtain ⟨q1, q2, q3, q4, q5, q6⟩ := h
    have ih := comG_ord n r (e.at_ + e.old) (sh + (e.new.size - e.old)) (by omega) q6 (fun x hx => hs x (List.mem_cons_of_mem _ hx))
    have ho := (oldSum_pos n _ r q6).2 (by omega)
    rw [comG]
    simp only [newSum, oldSum]
    refine ⟨by simp only; omega, by simp only; omega, ?_, hs e List.mem_cons_self, ?_⟩
    · simp only; omega
    · have e1 : n + (sh + ((e.new.size : Int) - e.old)) + newSum r - oldSum r = n + sh + ((e.new.size + newSum r : Nat) : Int) - (e.old + oldSum r) := by omega
      have e2 : e.at_ + e.old + 1 + (sh + ((e.new.size : Int) - e.old)) = e.at_ + sh + (e.new.size : Int) + 1 := by omega
      rw [e1, e2] at ih
      exact ih
/-- The letter at an offset of the new text, by the pieces that were put in. -/
def lk : List Pce → Int → Int → Let
  | [], sh, i => (i - sh, 0)
  | q :: r, sh, i => if i < q.at_ then (i - sh, 0) else if i < q.at_ + q.long then (-1, q.ed.new.data.toList.getD (i - q.at_).toNat 0) else lk r (sh + (q.long - q.ed.old)) i
theorem shTo_cons (e : Ed) (r : List Ed) : ∀ j, shTo (e :: r) (j + 1) = (e.new.size - e.old) + shTo r j
  | 0 => by simp [shTo]
  | j + 1 => by
    rw [shTo, List.getElem?_cons_succ, shTo_cons e r j, shTo]
    cases hj : r[j]? with
    | none => rfl
    | some x => simp only; omega
theorem lk_state (la : Pce) (p : Int) : ∀ (es : List Ed) (sh : Int) (j : Nat), (∀ i (h : i < (comG sh es).length), i < j → (comG sh es)[i].at_ ≤ p ∧ ((comG sh es)[i].at_ + (comG sh es)[i].long ≤ p ∨ (comG sh es)[i] = la)) → (∀ i (h : i < (comG sh es).length), j ≤ i → p < (comG sh es)[i].at_) → j ≤ es.length →
    (p < la.at_ + la.long → ∃ i, ∃ h : i < (comG sh es).length, i < j ∧ (comG sh es)[i] = la) → lk (comG sh es) sh p = if p < la.at_ + la.long then (-1, la.ed.new.data.toList.getD (p - la.at_).toNat 0) else (p - (sh + shTo es j), 0)
  | [], sh, j, _, _, hj, hc => by
    obtain rfl : j = 0 := by simpa using hj
    rw [if_neg (fun h => by obtain ⟨i, hi, hij, _⟩ := hc h; omega)]
    simp [comG, lk, shTo]
  | e :: r, sh, 0, _, hb, _, hc => by
    rw [if_neg (fun h => by obtain ⟨i, hi, hij, _⟩ := hc h; omega)]
    have := hb 0 (by simp [comG]) (Nat.le_refl _)
    simp only [comG, List.getElem_cons_zero] at this
    rw [comG, lk, if_pos this]
    simp [shTo]
  | e :: r, sh, j + 1, ha, hb, hj, hc => by
    have h0 := ha 0 (by simp [comG]) (by omega)
    simp only [comG, List.getElem_cons_zero] at h0
    rw [comG, lk, if_neg (by simp only; omega)]
    by_cases hin : p < e.at_ + sh + (e.new.size : Int)
    · have hl : (⟨e.at_ + sh, e.new.size, e⟩ : Pce) = la := by
        rcases h0.2 with h | h
        · omega
        · exact h
      rw [if_pos hin, ← hl, if_pos hin]
    · rw [if_neg hin]
      have ih := lk_state la p r (sh + ((e.new.size : Int) - e.old)) j (fun i hi hij => by
        have := ha (i + 1) (by simp only [comG, List.length_cons]; omega) (by omega)
        simpa only [comG, List.getElem_cons_succ] using this) (fun i hi hij => by
        have := hb (i + 1) (by simp only [comG, List.length_cons]; omega) (by omega)
        simpa only [comG, List.getElem_cons_succ] using this) (by simpa using hj) (fun h => by
        obtain ⟨i, hi, hij, he⟩ := hc h
        cases i with
        | zero =>
          simp only [comG, List.getElem_cons_zero] at he
          rw [← he] at h
          exact absurd h hin
        | succ i =>
          exact ⟨i, by simpa [comG] using hi, by omega, by simpa only [comG, List.getElem_cons_succ] using he⟩)
      rw [shTo_cons]
      simp only
      rw [ih, Int.add_assoc]
theorem keepL_getD (a : Int) (k i : Nat) (h : i < k) : (keepL a k)[i]? = some (a + (i : Int), 0) := by
  rw [keepL_map]
  simp [h]
/-- The letters of a change, by the pieces that it puts in. -/
theorem flow_lk (n : Int) : ∀ (es : List Ed) (b a sh i : Int), Right n b es → a ≤ b + 1 → a ≤ n → a + sh ≤ i → i < n + sh + newSum es - oldSum es → (flowGo n a es)[(i - (a + sh)).toNat]? = some (lk (comG sh es) sh i)
  | [], b, a, sh, i, _, _, ha, h1, h2 => by
    simp only [newSum, oldSum] at h2
    rw [flowGo, gapL, comG, lk, keepL_getD _ _ _ (by omega)]
    congr 2; omega
  | e :: r, b, a, sh, i, h, hab, ha, h1, h2 => by
    obtain ⟨q1, q2, q3, q4, q5, q6⟩ := h
    have hnl : (newL e.new e.new.size).length = e.new.size := by simp [newL]
    simp only [newSum, oldSum] at h2
    rw [flowGo, gapL, comG, lk]
    by_cases c1 : i < e.at_ + sh
    · rw [if_pos c1, List.append_assoc, List.getElem?_append_left (by rw [keepL_len]; omega), keepL_getD _ _ _ (by omega)]
      congr 2; omega
    · rw [if_neg c1]
      by_cases c2 : i < e.at_ + sh + (e.new.size : Int)
      · rw [if_pos c2, List.append_assoc, List.getElem?_append_right (by rw [keepL_len]; omega), List.getElem?_append_left (by rw [keepL_len, hnl]; omega), newL_all, List.getElem?_map]
        have ek : (i - (a + sh)).toNat - (keepL a (e.at_ - a).toNat).length = (i - (e.at_ + sh)).toNat := by rw [keepL_len]; omega
        have hlt : (i - (e.at_ + sh)).toNat < e.new.data.toList.length := by
          have : e.new.data.toList.length = e.new.size := by rw [Array.length_toList]; rfl
          omega
        rw [ek, List.getElem?_eq_getElem hlt]
        simp [List.getD_eq_getElem?_getD, List.getElem?_eq_getElem hlt]
      · rw [if_neg c2]
        have ih := flow_lk n r (e.at_ + e.old) (e.at_ + e.old) (sh + ((e.new.size : Int) - e.old)) i q6 (by omega) (by omega) (by omega) (by omega)
        rw [List.getElem?_append_right (by rw [List.length_append, keepL_len, hnl]; omega)]
        have ek : (i - (a + sh)).toNat - (keepL a (e.at_ - a).toNat ++ newL e.new e.new.size).length = (i - (e.at_ + e.old + (sh + ((e.new.size : Int) - e.old)))).toNat := by
          rw [List.length_append, keepL_len, hnl]; omega
        rw [ek, ih]
end Go.Proofs.Ytajigndlcdiinaa
