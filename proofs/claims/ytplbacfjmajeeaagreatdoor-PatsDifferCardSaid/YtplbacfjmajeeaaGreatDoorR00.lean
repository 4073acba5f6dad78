/- A part of the proof of the statement on PatsDiffer:  -/
namespace Go.Proofs.YtplbacfjmajeeaaGreatDoor

/-- A pattern as data. -/
inductive Pt where
  | mk (op low high : Int) (args : List Pt)

namespace Pt
def op : Pt → Int | mk o _ _ _ => o
def low : Pt → Int | mk _ l _ _ => l
def high : Pt → Int | mk _ _ h _ => h
def args : Pt → List Pt | mk _ _ _ a => a
end Pt

theorem Pt.ind {P : Pt → Prop} (h : ∀ o l hi as, (∀ a ∈ as, P a) → P (.mk o l hi as)) : ∀ p, P p := by
  intro p
  induction p using Pt.rec (motive_2 := fun l => ∀ a ∈ l, P a) with
  | mk o l hi as ih => exact h o l hi as ih
  | nil => rename_i ha; cases ha
  | cons a l iha ihl =>
    rename_i x hx
    rcases List.mem_cons.1 hx with rfl | hx
    · exact iha
    · exact ihl _ hx

mutual
def Pt.size : Pt → Nat
  | .mk _ _ _ as => 1 + sizes as
def sizes : List Pt → Nat
  | [] => 0
  | a :: as => a.size + sizes as
end
mutual
def Pt.deep : Pt → Nat
  | .mk _ _ _ as => 1 + deeps as
def deeps : List Pt → Nat
  | [] => 0
  | a :: as => max a.deep (deeps as)
end
mutual
/-- fits the empty string -/
def Pt.nul : Pt → Bool
  | .mk o _ _ as => if o = 1 then false else if o = 2 then nulAll as else if o = 3 then nulAny as else true
def nulAll : List Pt → Bool
  | [] => true
  | a :: as => a.nul && nulAll as
def nulAny : List Pt → Bool
  | [] => false
  | a :: as => a.nul || nulAny as
end
mutual
/-- how many PatBytes -/
def Pt.leaves : Pt → Nat
  | .mk o _ _ as => if o = 1 then 1 else leavesL as
def leavesL : List Pt → Nat
  | [] => 0
  | a :: as => a.leaves + leavesL as
end
mutual
/-- the bytes of the places -/
def Pt.bytes : Pt → List (Int × Int)
  | .mk o l h as => if o = 1 then [(l, h)] else bytesL as
def bytesL : List Pt → List (Int × Int)
  | [] => []
  | a :: as => a.bytes ++ bytesL as
end
mutual
def Pt.first : Pt → Nat → List Nat
  | .mk o _ _ as, b => if o = 1 then [b] else if o = 2 then firstT as b else firstO as b
def firstT : List Pt → Nat → List Nat
  | [], _ => []
  | a :: as, b => a.first b ++ if a.nul then firstT as (b + a.leaves) else []
def firstO : List Pt → Nat → List Nat
  | [], _ => []
  | a :: as, b => a.first b ++ firstO as (b + a.leaves)
end
mutual
def Pt.last : Pt → Nat → List Nat
  | .mk o _ _ as, b => if o = 1 then [b] else if o = 2 then lastT as b [] else lastO as b
/-- with what was last before -/
def lastT : List Pt → Nat → List Nat → List Nat
  | [], _, L => L
  | a :: as, b, L => lastT as (b + a.leaves) ((if a.nul then L else []) ++ a.last b)
def lastO : List Pt → Nat → List Nat
  | [], _ => []
  | a :: as, b => a.last b ++ lastO as (b + a.leaves)
end
mutual
/-- i can be followed by k -/
def Pt.fol : Pt → Nat → Nat → Nat → Prop
  | .mk o _ _ as, b, i, k => if o = 1 then False else if o = 2 then folT as b [] i k else if o = 3 then folO as b i k
      else folO as b i k ∨ (i ∈ lastO as b ∧ k ∈ firstO as b)
def folT : List Pt → Nat → List Nat → Nat → Nat → Prop
  | [], _, _, _, _ => False
  | a :: as, b, L, i, k => a.fol b i k ∨ (i ∈ L ∧ k ∈ a.first b) ∨ folT as (b + a.leaves) ((if a.nul then L else []) ++ a.last b) i k
def folO : List Pt → Nat → Nat → Nat → Prop
  | [], _, _, _ => False
  | a :: as, b, i, k => a.fol b i k ∨ folO as (b + a.leaves) i k
end
mutual
/-- what has been read can end with it -/
def Pt.dn (A : Nat → Bool) : Pt → Nat → Bool
  | .mk o _ _ as, b => if o = 1 then A b else if o = 2 then dnT A as b false else dnO A as b
def dnT (A : Nat → Bool) : List Pt → Nat → Bool → Bool
  | [], _, d => d
  | a :: as, b, d => dnT A as (b + a.leaves) (a.dn A b || d && a.nul)
def dnO (A : Nat → Bool) : List Pt → Nat → Bool
  | [], _ => false
  | a :: as, b => a.dn A b || dnO A as (b + a.leaves)
end
mutual
/-- the places that are open -/
def Pt.opn (A : Nat → Bool) : Pt → Nat → Bool → List Nat
  | .mk o _ _ as, b, β => if o = 1 then (if β then [b] else []) else if o = 2 then opnT A as b β else if o = 3 then opnO A as b β
      else opnO A as b (β || dnO A as b)
def opnT (A : Nat → Bool) : List Pt → Nat → Bool → List Nat
  | [], _, _ => []
  | a :: as, b, β => a.opn A b β ++ opnT A as (b + a.leaves) (a.dn A b || β && a.nul)
def opnO (A : Nat → Bool) : List Pt → Nat → Bool → List Nat
  | [], _, _ => []
  | a :: as, b, β => a.opn A b β ++ opnO A as (b + a.leaves) β
end

/-- the form that a right pattern has -/
def okForm (o : Int) (n : Nat) : Prop := (o = 1 ∧ n = 0) ∨ (o = 2 ∧ n ≠ 1) ∨ (o = 3 ∧ 2 ≤ n) ∨ (o = 4 ∧ n = 1)

/-- what has been read can end with it just if a last place is alive -/
theorem dn_last (A : Nat → Bool) (p : Pt) : ∀ b, p.dn A b = (p.last b).any A := by
  induction p using Pt.ind with
  | h o l hi as ih =>
    intro b
    have hT : ∀ (as : List Pt), (∀ a ∈ as, ∀ b, a.dn A b = (a.last b).any A) → ∀ b L d, d = List.any L A → dnT A as b d = (lastT as b L).any A := by
      intro as
      induction as with
      | nil => intro _ b L d hd; simpa [dnT, lastT] using hd
      | cons a as iha =>
        intro h b L d hd
        simp only [dnT, lastT]
        refine iha (fun x hx => h x (by simp [hx])) _ _ _ ?_
        rw [h a (by simp), List.any_append, hd, Bool.or_comm]
        cases a.nul <;> simp
    have hO : ∀ (as : List Pt), (∀ a ∈ as, ∀ b, a.dn A b = (a.last b).any A) → ∀ b, dnO A as b = (lastO as b).any A := by
      intro as
      induction as with
      | nil => intro _ b; simp [dnO, lastO]
      | cons a as iha =>
        intro h b
        simp only [dnO, lastO]
        rw [h a (by simp), List.any_append, iha (fun x hx => h x (by simp [hx]))]
    simp only [Pt.dn, Pt.last]
    split
    · simp
    · split
      · exact hT as ih b [] false (by simp)
      · exact hO as ih b

theorem dnO_last (A : Nat → Bool) (as : List Pt) : ∀ b, dnO A as b = (lastO as b).any A := by
  induction as with
  | nil => intro b; simp [dnO, lastO]
  | cons a as iha => intro b; simp only [dnO, lastO]; rw [dn_last, List.any_append, iha]

/-- a place is open just if it is a first one and the pattern begins, or one alive can be followed by it -/
theorem opn_iff (A : Nat → Bool) (p : Pt) : ∀ b β k, k ∈ p.opn A b β ↔ (β = true ∧ k ∈ p.first b) ∨ ∃ i, A i = true ∧ p.fol b i k := by
  induction p using Pt.ind with
  | h o l hi as ih =>
    intro b β k
    have hO : ∀ (as : List Pt), (∀ a ∈ as, ∀ b β k, k ∈ a.opn A b β ↔ (β = true ∧ k ∈ a.first b) ∨ ∃ i, A i = true ∧ a.fol b i k) →
        ∀ b β, k ∈ opnO A as b β ↔ (β = true ∧ k ∈ firstO as b) ∨ ∃ i, A i = true ∧ folO as b i k := by
      intro as
      induction as with
      | nil => intro _ b β; simp [opnO, firstO, folO]
      | cons a as iha =>
        intro h b β
        simp only [opnO, firstO, folO, List.mem_append]
        rw [h a (by simp), iha (fun x hx => h x (by simp [hx]))]
        constructor
        · rintro ((⟨h1, h2⟩ | ⟨i, h1, h2⟩) | ⟨h1, h2⟩ | ⟨i, h1, h2⟩)
          · exact .inl ⟨h1, .inl h2⟩
          · exact .inr ⟨i, h1, .inl h2⟩
          · exact .inl ⟨h1, .inr h2⟩
          · exact .inr ⟨i, h1, .inr h2⟩
        · rintro (⟨h1, h2 | h2⟩ | ⟨i, h1, h2 | h2⟩)
          · exact .inl (.inl ⟨h1, h2⟩)
          · exact .inr (.inl ⟨h1, h2⟩)
          · exact .inl (.inr ⟨i, h1, h2⟩)
          · exact .inr (.inr ⟨i, h1, h2⟩)
    have hT : ∀ (as : List Pt), (∀ a ∈ as, ∀ b β k, k ∈ a.opn A b β ↔ (β = true ∧ k ∈ a.first b) ∨ ∃ i, A i = true ∧ a.fol b i k) →
        ∀ b (L : List Nat) (β γ : Bool), β = (γ || L.any A) → (k ∈ opnT A as b β ↔ (γ = true ∧ k ∈ firstT as b) ∨ ∃ i, A i = true ∧ folT as b L i k) := by
      intro as
      induction as with
      | nil => intro _ b L β γ _; simp [opnT, firstT, folT]
      | cons a as iha =>
        intro h b L β γ hβ
        simp only [opnT, firstT, folT, List.mem_append]
        have e : (a.dn A b || β && a.nul) = ((γ && a.nul) || ((if a.nul then L else []) ++ a.last b).any A) := by
          rw [dn_last, hβ, List.any_append]
          cases a.nul <;> simp
          cases γ <;> cases L.any A <;> cases (a.last b).any A <;> rfl
        rw [h a (by simp), iha (fun x hx => h x (by simp [hx])) _ ((if a.nul then L else []) ++ a.last b) _ (γ && a.nul) e]
        have hb : β = true ↔ γ = true ∨ ∃ i, A i = true ∧ i ∈ L := by
          rw [hβ]; simp [List.any_eq_true]
          constructor
          · rintro (h | ⟨x, h1, h2⟩)
            · exact .inl h
            · exact .inr ⟨x, h2, h1⟩
          · rintro (h | ⟨x, h1, h2⟩)
            · exact .inl h
            · exact .inr ⟨x, h2, h1⟩
        rw [hb]
        constructor
        · rintro ((⟨h1 | ⟨i, h1, h3⟩, h2⟩ | ⟨i, h1, h2⟩) | ⟨h1, h2⟩ | ⟨i, h1, h2⟩)
          · exact .inl ⟨h1, .inl h2⟩
          · exact .inr ⟨i, h1, .inr (.inl ⟨h3, h2⟩)⟩
          · exact .inr ⟨i, h1, .inl h2⟩
          · simp at h1; exact .inl ⟨h1.1, .inr (by rw [if_pos h1.2]; exact h2)⟩
          · exact .inr ⟨i, h1, .inr (.inr h2)⟩
        · rintro (⟨h1, h2 | h2⟩ | ⟨i, h1, h2 | ⟨h3, h2⟩ | h2⟩)
          · exact .inl (.inl ⟨.inl h1, h2⟩)
          · split at h2
            · rename_i hn; exact .inr (.inl ⟨by simp [h1, hn], h2⟩)
            · cases h2
          · exact .inl (.inr ⟨i, h1, h2⟩)
          · exact .inl (.inl ⟨.inr ⟨i, h1, h3⟩, h2⟩)
          · exact .inr (.inr ⟨i, h1, h2⟩)
    simp only [Pt.opn, Pt.first, Pt.fol]
    split
    · cases β <;> simp
    · split
      · exact hT as ih b [] β β (by simp)
      · split
        · exact hO as ih b β
        · rw [hO as ih b, dnO_last]
          simp only [Bool.or_eq_true, List.any_eq_true]
          constructor
          · rintro (⟨h1 | ⟨i, h1, h3⟩, h2⟩ | ⟨i, h1, h2⟩)
            · exact .inl ⟨h1, h2⟩
            · exact .inr ⟨i, h3, .inr ⟨h1, h2⟩⟩
            · exact .inr ⟨i, h1, .inl h2⟩
          · rintro (⟨h1, h2⟩ | ⟨i, h1, h2 | ⟨h3, h2⟩⟩)
            · exact .inl ⟨.inl h1, h2⟩
            · exact .inr ⟨i, h1, h2⟩
            · exact .inl ⟨.inr ⟨i, h3, h1⟩, h2⟩
end Go.Proofs.YtplbacfjmajeeaaGreatDoor
namespace Go.Proofs.YtplbacfjmajeeaaGreatDoor

mutual
theorem Pt.bytes_length : (p : Pt) → p.bytes.length = p.leaves
  | .mk o l h as => by simp only [Pt.bytes, Pt.leaves]; split <;> simp [bytesL_length as]
theorem bytesL_length : (as : List Pt) → (bytesL as).length = leavesL as
  | [] => rfl
  | a :: as => by simp [bytesL, leavesL, Pt.bytes_length a, bytesL_length as]
end

/-- open places lie in their pattern, rising -/
theorem opn_bd (A : Nat → Bool) (p : Pt) : ∀ b β, (∀ k ∈ p.opn A b β, b ≤ k ∧ k < b + p.leaves) ∧ (p.opn A b β).Pairwise (· < ·) := by
  induction p using Pt.ind with
  | h o l hi as ih =>
    have hO : ∀ (as : List Pt), (∀ a ∈ as, ∀ b β, (∀ k ∈ a.opn A b β, b ≤ k ∧ k < b + a.leaves) ∧ (a.opn A b β).Pairwise (· < ·)) →
        ∀ b β, (∀ k ∈ opnO A as b β, b ≤ k ∧ k < b + leavesL as) ∧ (opnO A as b β).Pairwise (· < ·) := by
      intro as
      induction as with
      | nil => intro _ b β; simp [opnO]
      | cons a as iha =>
        intro h b β
        obtain ⟨h1, h2⟩ := h a (by simp) b β
        obtain ⟨h3, h4⟩ := iha (fun x hx => h x (by simp [hx])) (b + a.leaves) β
        simp only [opnO, leavesL, List.mem_append, List.pairwise_append]
        refine ⟨fun k hk => ?_, h2, h4, fun x hx y hy => ?_⟩
        · rcases hk with hk | hk
          · have := h1 k hk; omega
          · have := h3 k hk; omega
        · have := h1 x hx; have := h3 y hy; omega
    have hT : ∀ (as : List Pt), (∀ a ∈ as, ∀ b β, (∀ k ∈ a.opn A b β, b ≤ k ∧ k < b + a.leaves) ∧ (a.opn A b β).Pairwise (· < ·)) →
        ∀ b β, (∀ k ∈ opnT A as b β, b ≤ k ∧ k < b + leavesL as) ∧ (opnT A as b β).Pairwise (· < ·) := by
      intro as
      induction as with
      | nil => intro _ b β; simp [opnT]
      | cons a as iha =>
        intro h b β
        obtain ⟨h1, h2⟩ := h a (by simp) b β
        obtain ⟨h3, h4⟩ := iha (fun x hx => h x (by simp [hx])) (b + a.leaves) (a.dn A b || β && a.nul)
        simp only [opnT, leavesL, List.mem_append, List.pairwise_append]
        refine ⟨fun k hk => ?_, h2, h4, fun x hx y hy => ?_⟩
        · rcases hk with hk | hk
          · have := h1 k hk; omega
          · have := h3 k hk; omega
        · have := h1 x hx; have := h3 y hy; omega
    intro b β
    simp only [Pt.opn, Pt.leaves]
    split
    · cases β <;> simp
    · split
      · exact hT as ih b β
      · split
        · exact hO as ih b β
        · exact hO as ih b _
theorem opnO_bd (A : Nat → Bool) (as : List Pt) : ∀ b β, (∀ k ∈ opnO A as b β, b ≤ k ∧ k < b + leavesL as) ∧ (opnO A as b β).Pairwise (· < ·) := by
  induction as with
  | nil => intro b β; simp [opnO]
  | cons a as iha =>
    intro b β
    obtain ⟨h1, h2⟩ := opn_bd A a b β
    obtain ⟨h3, h4⟩ := iha (b + a.leaves) β
    simp only [opnO, leavesL, List.mem_append, List.pairwise_append]
    refine ⟨fun k hk => ?_, h2, h4, fun x hx y hy => ?_⟩
    · rcases hk with hk | hk
      · have := h1 k hk; omega
      · have := h3 k hk; omega
    · have := h1 x hx; have := h3 y hy; omega
theorem opnO_iff (A : Nat → Bool) (as : List Pt) : ∀ b β k, k ∈ opnO A as b β ↔ (β = true ∧ k ∈ firstO as b) ∨ ∃ i, A i = true ∧ folO as b i k := by
  induction as with
  | nil => intro b β k; simp [opnO, firstO, folO]
  | cons a as iha =>
    intro b β k
    simp only [opnO, firstO, folO, List.mem_append]
    rw [opn_iff, iha]
    constructor
    · rintro ((⟨h1, h2⟩ | ⟨i, h1, h2⟩) | ⟨h1, h2⟩ | ⟨i, h1, h2⟩)
      · exact .inl ⟨h1, .inl h2⟩
      · exact .inr ⟨i, h1, .inl h2⟩
      · exact .inl ⟨h1, .inr h2⟩
      · exact .inr ⟨i, h1, .inr h2⟩
    · rintro (⟨h1, h2 | h2⟩ | ⟨i, h1, h2 | h2⟩)
      · exact .inl (.inl ⟨h1, h2⟩)
      · exact .inr (.inl ⟨h1, h2⟩)
      · exact .inl (.inr ⟨i, h1, h2⟩)
      · exact .inr (.inr ⟨i, h1, h2⟩)

theorem dn_none (p : Pt) (b : Nat) : p.dn (fun _ => false) b = false := by rw [dn_last]; simp

/-- at the start just the first places are open -/
theorem opn_start (p : Pt) : ∀ b, p.opn (fun _ => false) b true = p.first b ∧ p.opn (fun _ => false) b false = [] := by
  induction p using Pt.ind with
  | h o l hi as ih =>
    have hO : ∀ (as : List Pt), (∀ a ∈ as, ∀ b, a.opn (fun _ => false) b true = a.first b ∧ a.opn (fun _ => false) b false = []) →
        ∀ b, opnO (fun _ => false) as b true = firstO as b ∧ opnO (fun _ => false) as b false = [] := by
      intro as
      induction as with
      | nil => intro _ b; simp [opnO, firstO]
      | cons a as iha =>
        intro h b
        obtain ⟨h1, h2⟩ := h a (by simp) b
        obtain ⟨h3, h4⟩ := iha (fun x hx => h x (by simp [hx])) (b + a.leaves)
        simp [opnO, firstO, h1, h2, h3, h4]
    have hT : ∀ (as : List Pt), (∀ a ∈ as, ∀ b, a.opn (fun _ => false) b true = a.first b ∧ a.opn (fun _ => false) b false = []) →
        ∀ b, opnT (fun _ => false) as b true = firstT as b ∧ opnT (fun _ => false) as b false = [] := by
      intro as
      induction as with
      | nil => intro _ b; simp [opnT, firstT]
      | cons a as iha =>
        intro h b
        obtain ⟨h1, h2⟩ := h a (by simp) b
        obtain ⟨h3, h4⟩ := iha (fun x hx => h x (by simp [hx])) (b + a.leaves)
        simp only [opnT, firstT, dn_none, h1, h2, Bool.false_or, Bool.true_and, Bool.false_and, h4]
        cases hn : a.nul <;> simp [h3, h4]
    intro b
    have hd : dnO (fun _ => false) as b = false := by rw [dnO_last]; simp
    simp only [Pt.opn, Pt.first, hd]
    split
    · simp
    · split
      · exact hT as ih b
      · split
        · exact hO as ih b
        · simpa using hO as ih b
theorem opnO_start (as : List Pt) : ∀ b, opnO (fun _ => false) as b true = firstO as b := by
  induction as with
  | nil => intro b; rfl
  | cons a as iha => intro b; simp [opnO, firstO, (opn_start a b).1, iha]

/-- rising lists with the same members are one -/
theorem rising_eq : ∀ (a b : List Nat), a.Pairwise (· < ·) → b.Pairwise (· < ·) → (∀ k, k ∈ a ↔ k ∈ b) → a = b
  | [], [], _, _, _ => rfl
  | [], y :: b, _, _, h => by have := (h y).2 (by simp); cases this
  | x :: a, [], _, _, h => by have := (h x).1 (by simp); cases this
  | x :: a, y :: b, ha, hb, h => by
    rw [List.pairwise_cons] at ha hb
    have e : x = y := by
      have h1 := (h x).1 (by simp)
      have h2 := (h y).2 (by simp)
      rcases List.mem_cons.1 h1 with h1 | h1
      · exact h1
      · rcases List.mem_cons.1 h2 with h2 | h2
        · exact h2.symm
        · have := ha.1 _ h2; have := hb.1 _ h1; omega
    subst e
    congr 1
    refine rising_eq a b ha.2 hb.2 (fun k => ?_)
    constructor
    · intro hk
      have := ha.1 _ hk
      rcases List.mem_cons.1 ((h k).1 (by simp [hk])) with e | e
      · omega
      · exact e
    · intro hk
      have := hb.1 _ hk
      rcases List.mem_cons.1 ((h k).2 (by simp [hk])) with e | e
      · omega
      · exact e

/-- the places of some that read a byte -/
def stepL (B : List (Int × Int)) (can : List Nat) (c : Nat) : List Nat := can.filter fun i => decide ((B.getD i (0, -1)).1 ≤ (c : Int)) && decide ((c : Int) ≤ (B.getD i (0, -1)).2)

/-- a set, with the least shortest string behind which it is -/
structure En where
  set : List Nat
  text : List UInt8
/-- the sets behind a set, by some bytes, put behind those that are known -/
def expand (B : List (Int × Int)) (can : List Nat) (text : List UInt8) : List Nat → List En → List En
  | [], L => L
  | c :: cs, L => expand B can text cs (if stepL B can c ∈ L.map En.set then L else L ++ [⟨stepL B can c, text ++ [UInt8.ofNat c]⟩])

theorem expand_append (B can text) (cs ds : List Nat) : ∀ L, expand B can text (cs ++ ds) L = expand B can text ds (expand B can text cs L) := by
  induction cs with
  | nil => intro L; rfl
  | cons c cs ih => intro L; simp only [List.cons_append, expand]; rw [ih]
theorem expand_known (B can text) (cs : List Nat) : ∀ L, (∀ c ∈ cs, stepL B can c ∈ L.map En.set) → expand B can text cs L = L := by
  induction cs with
  | nil => intro L _; rfl
  | cons c cs ih =>
    intro L h
    rw [expand, if_pos (h c (by simp))]
    exact ih L (fun x hx => h x (by simp [hx]))
theorem expand_prefix (B can text) (cs : List Nat) : ∀ L, ∃ M, expand B can text cs L = L ++ M := by
  induction cs with
  | nil => intro L; exact ⟨[], by simp [expand]⟩
  | cons c cs ih =>
    intro L
    rw [expand]
    split
    · exact ih L
    · obtain ⟨M, hM⟩ := ih (L ++ [⟨stepL B can c, text ++ [UInt8.ofNat c]⟩])
      exact ⟨⟨stepL B can c, text ++ [UInt8.ofNat c]⟩ :: M, by rw [hM]; simp⟩
theorem expand_mem (B can text) (cs : List Nat) : ∀ L c, c ∈ cs → stepL B can c ∈ (expand B can text cs L).map En.set := by
  induction cs with
  | nil => intro L c h; cases h
  | cons d cs ih =>
    intro L c h
    rw [expand]
    rcases List.mem_cons.1 h with rfl | h
    · obtain ⟨M, hM⟩ := expand_prefix B can text cs (if stepL B can c ∈ L.map En.set then L else L ++ [⟨stepL B can c, text ++ [UInt8.ofNat c]⟩])
      rw [hM, List.map_append, List.mem_append]
      left
      split
      · assumption
      · simp
    · exact ih _ c h
theorem expand_length_le (B can text) (cs : List Nat) : ∀ L, (expand B can text cs L).length ≤ L.length + cs.length := by
  induction cs with
  | nil => intro L; simp [expand]
  | cons c cs ih =>
    intro L
    rw [expand]
    refine Nat.le_trans (ih _) ?_
    split <;> simp <;> omega

/-- what can read the byte behind state i -/
def canAt (ps : List Pt) (L : List En) (i : Nat) : List Nat :=
  if i = 0 then firstO ps 0 else opnO (fun k => decide (k ∈ (L.getD (i - 1) ⟨[], []⟩).set)) ps 0 false
def textAt (L : List En) (i : Nat) : List UInt8 := if i = 0 then [] else (L.getD (i - 1) ⟨[], []⟩).text
/-- state i is done -/
def growAt (ps : List Pt) (L : List En) (i : Nat) : List En := expand (bytesL ps) (canAt ps L i) (textAt L i) (List.range 256) L
/-- all states from i on; none: there are too many -/
def bfs (ps : List Pt) (most : Nat) : Nat → Nat → List En → Option (List En)
  | 0, _, _ => none
  | f + 1, i, L => if L.length < i then some L else if most < (growAt ps L i).length then none else bfs ps most f (i + 1) (growAt ps L i)
def allSets (ps : List Pt) : Option (List En) := bfs ps 3000 3002 0 []

theorem bfs_prefix (ps most) : ∀ f i L R, bfs ps most f i L = some R → ∃ M, R = L ++ M := by
  intro f
  induction f with
  | zero => intro i L R h; cases h
  | succ f ih =>
    intro i L R h
    rw [bfs] at h
    split at h
    · exact ⟨[], by simpa using h.symm⟩
    · split at h
      · cases h
      · obtain ⟨M, hM⟩ := ih _ _ _ h
        obtain ⟨M2, hM2⟩ := expand_prefix (bytesL ps) (canAt ps L i) (textAt L i) (List.range 256) L
        exact ⟨M2 ++ M, by rw [hM, growAt, hM2, List.append_assoc]⟩
end Go.Proofs.YtplbacfjmajeeaaGreatDoor
