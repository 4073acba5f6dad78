/- The change back: its list of edits, and what the reference reckons, plain facts. -/
import Derived.Test.YtajigndlcdiinaaDQ4
import Derived.Test.YtajigndlcdiinaaDA3
namespace Go.Proofs.Ytajigndlcdiinaa
open Go.RowKit

/-- The edits of the change back, sh: how much further the text lies. -/
def invGo (s : ByteArray) : Int → List Ed → List Ed
  | _, [] => []
  | sh, e :: r => ⟨e.at_ + sh, e.new.size, s.extract e.at_.toNat (e.at_ + e.old).toNat⟩ :: invGo s (sh + (e.new.size - e.old)) r

/-- the state behind letters, from any state -/
def edFold (st : Int × ByteArray × List Ed) (ls : List Let) : Int × ByteArray × List Ed := ls.foldl edStep st
theorem editsOf_fold (n : Int) (ls : List Let) : editsOf n ls = closeE (edFold (0, ⟨#[]⟩, []) ls).1 n (edFold (0, ⟨#[]⟩, []) ls).2.1 (edFold (0, ⟨#[]⟩, []) ls).2.2 := by
  unfold editsOf edTo edFold; rw [List.take_length]
theorem edFold_app (st : Int × ByteArray × List Ed) (l m : List Let) : edFold st (l ++ m) = edFold (edFold st l) m := List.foldl_append ..

theorem closeE_same (a : Int) (es : List Ed) : closeE a a ⟨#[]⟩ es = es := by
  unfold closeE
  rw [if_neg]
  rintro (h | h)
  · omega
  · exact h rfl
/-- Kept bytes: the first closes, the others find nothing. -/
theorem edFold_kept (a : Int) (t : ByteArray) (es : List Ed) (x : Int) (hx : 0 ≤ x) (f : Nat → UInt8) : ∀ j, 0 < j → edFold (a, t, es) ((List.range j).map fun (i : Nat) => (x + (i : Int), f i)) = (x + j, ⟨#[]⟩, closeE a x t es)
  | 1, _ => by
    simp only [edFold, List.range_succ, List.range_zero, List.nil_append, List.map_cons, List.map_nil, List.foldl_cons, List.foldl_nil, edStep]
    rw [if_neg (by omega)]
    simp
  | j + 2, _ => by
    have ih := edFold_kept a t es x hx f (j + 1) (by omega)
    rw [List.range_succ, List.map_append, edFold_app, ih]
    simp only [edFold, List.map_cons, List.map_nil, List.foldl_cons, List.foldl_nil, edStep]
    rw [if_neg (by omega)]
    have e : x + ((j + 1 : Nat) : Int) = x + (j : Int) + 1 := by omega
    rw [e, closeE_same]
    simp only [Prod.mk.injEq, and_true]
    omega
/-- New bytes are gathered. -/
theorem edFold_new (a : Int) (es : List Ed) (l : List UInt8) : ∀ t : ByteArray, edFold (a, t, es) (l.map fun c => (-1, c)) = (a, t ++ ⟨l.toArray⟩, es) := by
  induction l with
  | nil => intro t; simp only [edFold, List.map_nil, List.foldl_nil, Prod.mk.injEq, true_and, and_true]; exact ByteArray.append_empty.symm
  | cons c l ih =>
    intro t
    have := ih (t ++ ⟨#[c]⟩)
    simp only [edFold, List.map_cons, List.foldl_cons] at this ⊢
    rw [show edStep (a, t, es) (-1, c) = (a, t ++ ⟨#[c]⟩, es) by simp [edStep]]
    rw [this]
    simp only [Prod.mk.injEq, true_and, and_true]
    rw [ByteArray.append_assoc]
    congr 1

/-- Where the old byte i stands in the new text; -1: nowhere. -/
def invPos (i : Int) : Int → List Ed → Int
  | sh, [] => i + sh
  | sh, e :: r => if i < e.at_ then i + sh else if i < e.at_ + e.old then -1 else invPos i (sh + (e.new.size - e.old)) r

theorem idxGo_app (i : Int) (m : List Let) : ∀ (l : List Let) (k : Nat), idxGo i k (l ++ m) = if idxGo i k l = -1 then idxGo i (k + l.length) m else idxGo i k l
  | [], k => by simp [idxGo]
  | x :: l, k => by
    rw [List.cons_append, idxGo, idxGo]
    by_cases h : x.1 = i
    · rw [if_pos h, if_pos h, if_neg (by omega)]
    · rw [if_neg h, if_neg h, idxGo_app i m l (k + 1)]
      congr 2
      simp; omega
theorem idxGo_none (i : Int) : ∀ (l : List Let) (k : Nat), (∀ x, x ∈ l → x.1 ≠ i) → idxGo i k l = -1
  | [], _, _ => rfl
  | x :: l, k, h => by
    rw [idxGo, if_neg (h x (by simp))]
    exact idxGo_none i l (k + 1) (fun y hy => h y (by simp [hy]))
theorem idxGo_keep (i a : Int) (k : Nat) : ∀ j, idxGo i k (keepL a j) = if a ≤ i ∧ i < a + (j : Int) then (k : Int) + (i - a) else -1
  | 0 => by simp only [keepL, idxGo]; rw [if_neg (by omega)]
  | j + 1 => by
    rw [keepL, idxGo_app, idxGo_keep i a k j, keepL_len]
    by_cases h : a ≤ i ∧ i < a + (j : Int)
    · rw [if_pos h, if_neg (by omega), if_pos (by omega)]
    · rw [if_neg h, if_pos rfl]
      simp only [idxGo]
      by_cases h2 : a + (j : Int) = i
      · rw [if_pos h2, if_pos (by omega)]; omega
      · rw [if_neg h2, if_neg (by omega)]
theorem newL_neg (s : ByteArray) (j : Nat) : ∀ x, x ∈ newL s j → x.1 = -1 := by
  intro x hx
  simp only [newL, List.mem_map] at hx
  obtain ⟨c, _, rfl⟩ := hx
  rfl
theorem flowGo_ge (n : Int) : ∀ (es : List Ed) (a : Int), (∃ b, Right n b es ∧ a ≤ b + 1) → ∀ x, x ∈ flowGo n a es → a ≤ x.1 ∨ x.1 = -1
  | [], a, _, x, hx => by
    rw [flowGo, gapL] at hx
    have := keepL_mem _ _ x hx; omega
  | e :: r, a, ⟨b, ⟨q1, q2, q3, q4, q5, q6⟩, hab⟩, x, hx => by
    rw [flowGo] at hx
    simp only [List.mem_append] at hx
    rcases hx with (hx | hx) | hx
    · rw [gapL] at hx; have := keepL_mem _ _ x hx; omega
    · right; exact newL_neg _ _ x hx
    · have := flowGo_ge n r (e.at_ + e.old) ⟨_, q6, by omega⟩ x hx
      omega
theorem idx_flow (n : Int) (i : Int) (hi : 0 ≤ i) (hin : i < n) : ∀ (es : List Ed) (a : Int) (k : Nat), (∃ b, Right n b es ∧ a ≤ b + 1) → a ≤ i → idxGo i k (flowGo n a es) = invPos i ((k : Int) - a) es
  | [], a, k, _, ha => by
    rw [flowGo, gapL, idxGo_keep, if_pos (by omega), invPos]; omega
  | e :: r, a, k, ⟨b, ⟨q1, q2, q3, q4, q5, q6⟩, hab⟩, ha => by
    rw [flowGo, List.append_assoc, idxGo_app, gapL, idxGo_keep, keepL_len, invPos]
    by_cases h : i < e.at_
    · have hk : (if a ≤ i ∧ i < a + ((e.at_ - a).toNat : Int) then (k : Int) + (i - a) else -1) = (k : Int) + (i - a) := if_pos (by omega)
      rw [hk, if_neg (by omega), if_pos h]; omega
    · have hk : (if a ≤ i ∧ i < a + ((e.at_ - a).toNat : Int) then (k : Int) + (i - a) else -1) = -1 := if_neg (by omega)
      rw [hk, if_pos rfl, if_neg h, idxGo_app, idxGo_none i (newL _ _) _ (fun x hx => by have := newL_neg _ _ x hx; omega), if_pos rfl, newL_full]
      by_cases h2 : i < e.at_ + e.old
      · rw [if_pos h2]
        exact idxGo_none i _ _ (fun x hx => by have := flowGo_ge n r (e.at_ + e.old) ⟨_, q6, by omega⟩ x hx; omega)
      · rw [if_neg h2, idx_flow n i hi hin r (e.at_ + e.old) _ ⟨_, q6, by omega⟩ (by omega)]
        congr 1
        omega

theorem right_form {n : Int} : ∀ (es : List Ed) (b long : Int), faultGo n b long es = 0 → ∀ e, e ∈ es → 0 < e.old ∨ e.new.size ≠ 0
  | [], _, _, _, e, he => by simp at he
  | x :: r, b, long, h, e, he => by
    rw [faultGo] at h
    by_cases h1 : ¬ (0 ≤ x.at_ ∧ x.at_ ≤ n) ∨ ¬ (0 ≤ x.old ∧ x.old ≤ n - x.at_)
    · rw [if_pos h1] at h; omega
    · rw [if_neg h1] at h
      by_cases h2 : x.old = 0 ∧ x.new.size = 0
      · rw [if_pos h2] at h; omega
      · rw [if_neg h2] at h
        by_cases h3 : x.at_ ≤ b
        · rw [if_pos h3] at h; omega
        · rw [if_neg h3] at h
          rcases List.mem_cons.1 he with rfl | he
          · omega
          · exact right_form r _ _ h e he
theorem change_form {n : Int} {es : List Ed} (h : changeFault n es = 0) : ∀ e, e ∈ es → 0 < e.old ∨ e.new.size ≠ 0 := by
  unfold changeFault at h
  by_cases h1 : ¬ (0 ≤ n ∧ n ≤ 20000)
  · rw [if_pos h1] at h; omega
  · rw [if_neg h1] at h
    by_cases h2 : es.length > 2000
    · rw [if_pos h2] at h; omega
    · rw [if_neg h2] at h
      exact right_form es _ _ h

/-- Letters of the old bytes from a on, ahead of b. -/
def seg (g : Nat → Let) (a b : Nat) : List Let := (List.range (b - a)).map fun i => g (a + i)
theorem seg_split (g : Nat → Let) (a b c : Nat) (h : a ≤ b) (h2 : b ≤ c) : seg g a c = seg g a b ++ seg g b c := by
  unfold seg
  rw [show c - a = (b - a) + (c - b) by omega, List.range_add, List.map_append, List.map_map]
  congr 1
  apply List.map_congr_left
  intro i _
  simp only [Function.comp_apply]
  congr 1
  omega
theorem seg_nil (g : Nat → Let) (a b : Nat) (h : b ≤ a) : seg g a b = [] := by unfold seg; rw [show b - a = 0 by omega]; rfl
theorem seg_cons (g : Nat → Let) (a b : Nat) (h : a < b) : seg g a b = g a :: seg g (a + 1) b := by
  rw [seg_split g a (a + 1) b (by omega) (by omega)]
  have : seg g a (a + 1) = [g a] := by unfold seg; rw [show a + 1 - a = 1 by omega]; simp [List.range_succ]
  rw [this]; rfl

def fin (m : Int) (st : Int × ByteArray × List Ed) : List Ed := closeE st.1 m st.2.1 st.2.2

theorem seg_kept (g : Nat → Let) (f : Nat → UInt8) (a b : Nat) (sh : Int) (x : Int) (out : List Ed) (hx : x = (a : Int) + sh) (h0 : 0 ≤ x) (hab : a ≤ b) (hg : ∀ i, a ≤ i → i < b → g i = ((i : Int) + sh, f i)) :
    edFold (x, ⟨#[]⟩, out) (seg g a b) = ((b : Int) + sh, ⟨#[]⟩, out) := by
  by_cases h : a = b
  · subst h; rw [seg_nil g a a (Nat.le_refl _), hx]; rfl
  · have e : seg g a b = (List.range (b - a)).map fun (i : Nat) => (x + (i : Int), f (a + i)) := by
      unfold seg
      apply List.map_congr_left
      intro i hi
      rw [List.mem_range] at hi
      rw [hg (a + i) (by omega) (by omega), hx]
      simp only [Prod.mk.injEq, and_true]
      omega
    rw [e, edFold_kept x ⟨#[]⟩ out x h0 (fun i => f (a + i)) (b - a) (by omega), closeE_same]
    simp only [Prod.mk.injEq, and_true]
    omega
theorem seg_gone (g : Nat → Let) (s : ByteArray) (a b : Nat) (A : Int) (out : List Ed) (hab : a ≤ b) (hb : b ≤ s.size) (hg : ∀ i, a ≤ i → i < b → g i = (-1, s.data.toList.getD i 0)) :
    edFold (A, ⟨#[]⟩, out) (seg g a b) = (A, s.extract a b, out) := by
  have e : seg g a b = ((s.extract a b).data.toList).map fun c => (-1, c) := by
    unfold seg
    rw [extract_list]
    apply List.ext_getElem
    · simp; omega
    · intro i h1 h2
      simp only [List.getElem_map, List.getElem_range, List.getElem_take, List.getElem_drop]
      have h3 : a + i < s.data.toList.length := by simp at h1 h2 ⊢; omega
      rw [hg (a + i) (by omega) (by simp at h1; omega), List.getD_eq_getElem?_getD, List.getElem?_eq_getElem h3]
      rfl
  rw [e, edFold_new]
  simp only [Prod.mk.injEq, true_and, and_true]
  rw [show (ByteArray.mk #[]) = ByteArray.empty from rfl, ByteArray.empty_append]
/-- What is pending is closed by the next kept byte, or at the end. -/
theorem fin_bridge (g : Nat → Let) (m : Int) (A x : Int) (t : ByteArray) (out : List Ed) (a n : Nat) (hx : 0 ≤ x) (h : (n ≤ a ∧ m = x) ∨ (a < n ∧ (g a).1 = x)) :
    fin m (edFold (A, t, out) (seg g a n)) = fin m (edFold (x, ⟨#[]⟩, closeE A x t out) (seg g a n)) := by
  rcases h with ⟨h, rfl⟩ | ⟨h, hg⟩
  · rw [seg_nil g a n h]
    simp only [edFold, List.foldl_nil, fin, closeE_same]
  · rw [seg_cons g a n h]
    simp only [edFold, List.foldl_cons]
    congr 2
    simp only [edStep, hg]
    rw [if_neg (by omega), if_neg (by omega), closeE_same]

theorem inv_go (s : ByteArray) (g : Nat → Let) (n : Nat) (hn : n ≤ s.size) (m : Int) : ∀ (es : List Ed) (a : Nat) (sh : Int) (out : List Ed), (∃ b, Right n b es ∧ (a : Int) ≤ b + 1) → (∀ e, e ∈ es → 0 < e.old ∨ e.new.size ≠ 0) → a ≤ n → 0 ≤ (a : Int) + sh →
    m = n + sh + newSum es - oldSum es → (∀ i : Nat, a ≤ i → i < n → g i = (invPos i sh es, s.data.toList.getD i 0)) → fin m (edFold ((a : Int) + sh, ⟨#[]⟩, out) (seg g a n)) = out ++ invGo s sh es
  | [], a, sh, out, _, _, han, h0, hm, hg => by
    rw [seg_kept g (fun i => s.data.toList.getD i 0) a n sh _ out rfl h0 han (fun i h1 h2 => by rw [hg i h1 h2, invPos])]
    simp only [newSum, oldSum] at hm
    simp only [fin, invGo, List.append_nil]
    rw [show m = (n : Int) + sh by omega, closeE_same]
  | e :: r, a, sh, out, ⟨b, ⟨q1, q2, q3, q4, q5, q6⟩, hab⟩, hf, han, h0, hm, hg => by
    obtain ⟨at_, hat⟩ := Int.eq_ofNat_of_zero_le q2
    obtain ⟨od, hod⟩ := Int.eq_ofNat_of_zero_le q4
    have hfe := hf e (by simp)
    have h1 : a ≤ at_ := by omega
    have h2 : at_ + od ≤ n := by omega
    rw [seg_split g a at_ n h1 (by omega), seg_split g at_ (at_ + od) n (by omega) h2, edFold_app,
      seg_kept g (fun i => s.data.toList.getD i 0) a at_ sh _ out rfl h0 h1 (fun i k1 k2 => by rw [hg i k1 (by omega), invPos, if_pos (by omega)]), edFold_app,
      seg_gone g s at_ (at_ + od) _ out (by omega) (by omega) (fun i k1 k2 => by rw [hg i (by omega) (by omega), invPos, if_neg (by omega), if_pos (by omega)])]
    have hs : newSum (e :: r) = e.new.size + newSum r := rfl
    have ho : oldSum (e :: r) = e.old + oldSum r := rfl
    have hgr : ∀ i : Nat, at_ + od ≤ i → i < n → g i = (invPos i (sh + (e.new.size - e.old)) r, s.data.toList.getD i 0) := fun i k1 k2 => by
      rw [hg i (by omega) k2, invPos, if_neg (by omega), if_neg (by omega)]
    have hx : 0 ≤ ((at_ + od : Nat) : Int) + (sh + (e.new.size - e.old)) := by omega
    rw [fin_bridge g m _ (((at_ + od : Nat) : Int) + (sh + (e.new.size - e.old))) _ out (at_ + od) n hx (by
      by_cases hlt : at_ + od < n
      · right
        refine ⟨hlt, ?_⟩
        rw [hgr (at_ + od) (Nat.le_refl _) hlt]
        cases r with
        | nil => simp only [invPos]
        | cons f r' =>
          simp only [invPos]
          rw [if_pos (by have := q6.1; omega)]
      · left
        refine ⟨by omega, ?_⟩
        cases r with
        | nil => rw [hm]; simp only [newSum, oldSum]; omega
        | cons f r' => have := q6.1; have := q6.2.2.1; omega)]
    rw [inv_go s g n hn m r (at_ + od) (sh + (e.new.size - e.old)) _ ⟨_, q6, by omega⟩ (fun y hy => hf y (by simp [hy])) h2 hx (by rw [hm, hs, ho]; omega) hgr]
    unfold closeE
    rw [invGo, if_pos (by
      by_cases hz : e.new.size = 0
      · right
        have : (s.extract at_ (at_ + od)).size = od := by simp; omega
        omega
      · left; omega), List.append_assoc]
    congr 1
    simp only [List.cons_append, List.nil_append, List.cons.injEq, Ed.mk.injEq, and_true]
    refine ⟨by omega, by omega, ?_⟩
    rw [hat, hod]
    congr 1

theorem inverse_same (s : ByteArray) (es : List Ed) (h : changeFault s.size es = 0) : inverseV s es = invGo s 0 es := by
  obtain ⟨h1, h2, h3, h4⟩ := changeFault_zero h
  have hlen := flowGo_len s.size es 0 (-1) h3 (by omega) (by omega) (by omega)
  unfold inverseV
  rw [editsOf_fold]
  have e : invTo s (flowL es s.size) s.size = seg (fun i => (invPos i 0 es, s.data.toList.getD i 0)) 0 s.size := by
    unfold invTo seg
    rw [Nat.sub_zero]
    apply List.map_congr_left
    intro i hi
    rw [List.mem_range] at hi
    rw [flowL_go, idxL, idx_flow s.size i (by omega) (by omega) es 0 0 ⟨_, h3, by omega⟩ (by omega)]
    simp
  rw [e, flowL_go]
  have := inv_go s (fun i => (invPos i 0 es, s.data.toList.getD i 0)) s.size (Nat.le_refl _) ((flowGo s.size 0 es).length : Int) es 0 0 [] ⟨_, h3, by omega⟩ (change_form h) (by omega) (by omega) (by rw [hlen]; omega) (fun i _ _ => rfl)
  simpa [fin] using this
end Go.Proofs.Ytajigndlcdiinaa
