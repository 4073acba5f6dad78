/- Package edit's reference past: plain facts on its indices. -/
import Derived.Test.YtajigndlcdiinaaCQ3
import Derived.Test.YtajigndlcdiinaaCRy
namespace Go.Proofs.Ytajigndlcdiinaa
open Go.RowKit

theorem ownIdx_take (gl : List Let) (j : Nat) (h : j < gl.length) : ownIdx 0 (gl.take (j + 1)) = ownIdx 0 (gl.take j) ++ if gl[j].1 < 0 then [(j : Int)] else [] := by
  rw [List.take_succ_eq_append_getElem h, ownIdx_app]
  congr 1
  simp only [ownIdx, List.length_take]
  have : min j gl.length = j := by omega
  rw [this]
  split <;> simp
theorem oldF_take (gl : List Let) (o : Int → Int) (j : Nat) (h : j < gl.length) : oldF o 0 (gl.take (j + 1)) = if gl[j].1 < 0 then oldF o 0 (gl.take j) else fun i => if i = gl[j].1 then (j : Int) else oldF o 0 (gl.take j) i := by
  rw [List.take_succ_eq_append_getElem h, oldF_app]
  simp only [oldF, List.length_take]
  have : min j gl.length = j := by omega
  rw [this]
  split <;> simp
theorem ownIdx_bd : ∀ (l : List Let) (q : Int), ∀ x ∈ ownIdx q l, q ≤ x ∧ x < q + l.length
  | [], q, x, hx => by cases hx
  | y :: l, q, x, hx => by
    rw [ownIdx] at hx
    have := ownIdx_bd l (q + 1)
    simp only [List.length_cons]
    split at hx
    · rcases List.mem_cons.1 hx with rfl | hx
      · omega
      · have := this x hx; omega
    · have := this x hx; omega
theorem oldF_bd : ∀ (l : List Let) (o : Int → Int) (q i : Int), oldF o q l i = o i ∨ (q ≤ oldF o q l i ∧ oldF o q l i < q + l.length)
  | [], o, q, i => .inl rfl
  | y :: l, o, q, i => by
    rw [oldF]
    have h := oldF_bd l (if y.1 < 0 then o else fun i => if i = y.1 then q else o i) (q + 1) i
    simp only [List.length_cons]
    rcases h with h | h
    · rw [h]
      by_cases h1 : y.1 < 0
      · rw [if_pos h1]; exact .inl rfl
      · rw [if_neg h1]
        split
        · right; omega
        · left; rfl
    · right; omega
/-- How many letters the first one put in. -/
def cntT (L : List (Let × Bool)) : Nat := (L.filter fun x => decide (x.1.1 < 0) && x.2).length
theorem cntT_cons (x : Let × Bool) (L : List (Let × Bool)) : cntT (x :: L) = (if (decide (x.1.1 < 0) && x.2) = true then 1 else 0) + cntT L := by
  unfold cntT; rw [List.filter_cons]; split <;> simp; omega
theorem cntT_app (L M : List (Let × Bool)) : cntT (L ++ M) = cntT L + cntT M := by unfold cntT; rw [List.filter_append, List.length_append]
theorem cntT_true : ∀ (l : List Let), (∀ x ∈ l, x.1 = -1) → cntT (l.map (·, true)) = l.length
  | [], _ => rfl
  | x :: l, h => by
    have hx := h x List.mem_cons_self
    rw [List.map_cons, cntT_cons, cntT_true l (fun y hy => h y (List.mem_cons_of_mem _ hy))]
    simp [hx]; omega
theorem cntT_false : ∀ (l : List Let), cntT (l.map (·, false)) = 0
  | [] => rfl
  | x :: l => by rw [List.map_cons, cntT_cons, cntT_false l]; simp
theorem ownIdx_lenq : ∀ (l : List Let) (q q' : Int), (ownIdx q l).length = (ownIdx q' l).length
  | [], _, _ => rfl
  | x :: l, q, q' => by
    rw [ownIdx, ownIdx]
    split
    · rw [List.length_cons, List.length_cons, ownIdx_lenq l (q + 1) (q' + 1)]
    · exact ownIdx_lenq l _ _
theorem ownIdx_len (A : List Pce) (n : Int) (f : Bool) (B : List Pce) : ∀ (k : Nat) (p q : Int), 0 ≤ p → cntT (mixB f A B n p k) = (ownIdx q (gTo A n p k)).length
  | 0, _, _, _ => rfl
  | k + 1, p, q, hp => by
    have ih := ownIdx_len A n f B k (p + 1)
    have hA := news_neg A p
    have hn : ∀ (l : List Let) (q : Int), (∀ x ∈ l, x.1 = -1) → (ownIdx q l).length = l.length := by
      intro l
      induction l with
      | nil => intro q _; rfl
      | cons x l ih =>
        intro q h
        have hx := h x List.mem_cons_self
        rw [ownIdx, if_pos (by omega), List.length_cons, ih _ (fun y hy => h y (List.mem_cons_of_mem _ hy)), List.length_cons]
    have hk : cntT (if p < n ∧ goneP A p = false ∧ goneP B p = false then [((p, (0 : UInt8)), false)] else []) = 0 := by
      split
      · simp [cntT]
      · rfl
    rw [mixB, gTo, cntT_app, cntT_app, hk, ih 0 (by omega), ownIdx_app, ownIdx_app, List.length_append, List.length_append, hn _ q hA]
    rw [ownIdx_kept _ (if p < n ∧ goneP A p = false then [(p, (0 : UInt8))] else []) (by
        intro x hx
        split at hx
        · obtain rfl := List.mem_singleton.1 hx; exact hp
        · cases hx)]
    cases f with
    | true => simp only [if_true]; rw [cntT_app, cntT_true _ hA, cntT_false]; simp; exact ownIdx_lenq _ _ _
    | false => simp only [Bool.false_eq_true, if_false]; rw [cntT_app, cntT_true _ hA, cntT_false]; simp; exact ownIdx_lenq _ _ _

/-- A row of numbers from an address on. -/
def Ixs (w : World) (sv : Option Addr) (r : List Int) : Prop := ∀ i (h : i < r.length), ∃ g off, sv = some ⟨g, off, none⟩ ∧ w.cell? ⟨g, off + i, none⟩ = some (.int .i64 r[i])
theorem ixs_of_own {w : World} {base : Nat} {v : Value} {l : List Int} (h : w.ownsRow base 3 1 v l.length (intCells l)) : ∃ sv cap, v = .slice sv l.length cap ∧ l.length ≤ cap ∧ Ixs w sv l := by
  rcases h.2 with ⟨rfl, h0⟩ | ⟨g, cap, cur, rfl, hg, hh, hn, hm, hs, ht⟩
  · refine ⟨none, 0, by rw [h0], by omega, fun i hi => by omega⟩
  · refine ⟨_, cap, rfl, hn, fun i hi => ⟨g, 0, rfl, ?_⟩⟩
    rw [cell_of_block hh, Nat.zero_add]
    have h1 : (intCells l)[i]? = some (.int .i64 l[i]) := by simp [intCells, hi]
    rw [← ht, List.getElem?_take] at h1
    split at h1
    · simpa using h1
    · cases h1
theorem Ixs.grown {w w' : World} {sv : Option Addr} {r : List Int} (h : Ixs w sv r) (g : w.grownBy w' none) : Ixs w' sv r := fun i hi => by
  obtain ⟨b, off, e, c⟩ := h i hi
  exact ⟨b, off, e, g.cell c (by simp)⟩
end Go.Proofs.Ytajigndlcdiinaa
