/- What a drawn change is; the slices that hold it; HullOf, whatever the right change. -/
import Derived.Test.YtajigndlcdiinaaDS5
import Derived.Test.YtajigndlcdiinaaDF4
import Derived.Test.YtajigndlcdiinaaDP1
namespace Go.Proofs.Ytajigndlcdiinaa
open Go.RowKit

theorem edCells_get (es : List Ed) (j : Nat) (h : j < es.length) : (edCells es)[j * 3]? = some (.int .i64 es[j].at_) ∧ (edCells es)[j * 3 + 1]? = some (.int .i64 es[j].old) ∧ (edCells es)[j * 3 + 2]? = some (.string es[j].new) := by
  induction es generalizing j with
  | nil => simp at h
  | cons x l ih =>
    cases j with
    | zero => simp [edCells]
    | succ j =>
      have := ih j (by simpa using h)
      have e : edCells (x :: l) = .int .i64 x.at_ :: .int .i64 x.old :: .string x.new :: edCells l := rfl
      rw [e, show (j + 1) * 3 = j * 3 + 1 + 1 + 1 by omega]
      simpa using this

/-- An owned row of edits, as the other functions read it. -/
theorem eds_of_own {w : World} {base : Nat} {v : Value} {es : List Ed} (h : w.ownsRow base 47 /-t:hedgelayer/api.Edit-/ 3 v es.length (edCells es)) :
    ∃ a cap, v = .slice a es.length cap ∧ Eds w a es ∧ ∀ x, a = some x → base ≤ x.block := by
  by_cases h0 : es.length = 0
  · rcases h.2 with ⟨rfl, _⟩ | ⟨g, cap, cur, rfl, hg, _⟩
    · exact ⟨none, 0, by rw [h0], fun j hj => by omega, by simp⟩
    · exact ⟨_, _, rfl, fun j hj => by omega, fun x hx => by simp at hx; subst hx; exact hg⟩
  · obtain ⟨g, cap, rfl, hg, hc⟩ := ownsRow_cell h (by omega)
    refine ⟨_, _, rfl, fun j hj => ?_, fun x hx => by simp at hx; subst hx; exact hg⟩
    obtain ⟨h1, h2, h3⟩ := edCells_get es j hj
    exact ⟨g, 0, rfl, by rw [Nat.zero_add]; exact hc _ _ h1, by rw [Nat.zero_add]; exact hc _ _ h2, by rw [Nat.zero_add]; exact hc _ _ h3⟩

def edSmall (e : Ed) : Prop := e.new.size ≤ 4 ∧ -1099511627777 ≤ e.at_ ∧ e.at_ ≤ 1099511627777 ∧ -1099511627777 ≤ e.old ∧ e.old ≤ 1099511627777

theorem anEdit_small (xs : List Int) (k : Nat) (n : Int) (hn : 0 ≤ n ∧ n ≤ 1000000) : edSmall (anEditV xs k n) := by
  have l1 := nextv_lo xs k (n + 1)
  have l2 := nextv_hi xs k (n + 1) (by omega)
  have s1 : (somev xs (k + 2) editNews).size ≤ 4 := somev_all (fun x => x.size ≤ 4) xs _ editNews (by decide) (by decide)
  unfold anEditV
  split
  · have p1 : -1 ≤ pickv xs (k + 4) [-1, n + 1, nextv xs k (n + 1)] ∧ pickv xs (k + 4) [-1, n + 1, nextv xs k (n + 1)] ≤ n + 1 := pickv_all (fun x => -1 ≤ x ∧ x ≤ n + 1) _ _ _ (by simp) (by intro x hx; simp at hx; omega)
    have p2 : -1 ≤ pickv xs (k + 5) [0, -1, n + 1] ∧ pickv xs (k + 5) [0, -1, n + 1] ≤ n + 1 := pickv_all (fun x => -1 ≤ x ∧ x ≤ n + 1) _ _ _ (by simp) (by intro x hx; simp at hx; omega)
    exact ⟨s1, by simp only; omega, by simp only; omega, by simp only; omega, by simp only; omega⟩
  · have p1 : 0 ≤ pickv xs (k + 1) [0, 0, 1, 2, 5] ∧ pickv xs (k + 1) [0, 0, 1, 2, 5] ≤ 5 := pickv_all (fun x => 0 ≤ x ∧ x ≤ 5) _ _ _ (by decide) (by decide)
    refine ⟨s1, ?_, ?_, ?_, ?_⟩ <;> simp only [anEditBase] <;> omega

theorem changeTo_small (xs : List Int) (n : Int) (hn : 0 ≤ n ∧ n ≤ 1000000) : ∀ (m k : Nat) (a : Int) (out : List Ed), 0 ≤ a → (∀ e, e ∈ out → edSmall e) →
    (∀ e, e ∈ (changeTo xs n m k a out).1 → edSmall e) ∧ (changeTo xs n m k a out).1.length ≤ out.length + m ∧ k ≤ (changeTo xs n m k a out).2 ∧ (changeTo xs n m k a out).2 ≤ k + 3 * m
  | 0, k, a, out, _, h => by simp [changeTo]; exact h
  | m + 1, k, a, out, ha, h => by
    rw [changeTo]
    by_cases hna : n < a
    · rw [if_pos hna]; exact ⟨h, by simp, by simp, by simp⟩
    · rw [if_neg hna]
      have p2 : 0 ≤ pickv xs k [0, 1, 1, 2, 4] ∧ pickv xs k [0, 1, 1, 2, 4] ≤ 4 := pickv_all (fun x => 0 ≤ x ∧ x ≤ 4) _ _ _ (by decide) (by decide)
      have p3 : 1 ≤ pickv xs (k + 2) [1, 1, 2, 5] ∧ pickv xs (k + 2) [1, 1, 2, 5] ≤ 5 := pickv_all (fun x => 1 ≤ x ∧ x ≤ 5) _ _ _ (by decide) (by decide)
      have s1 : (somev xs (k + 1) chNews).size ≤ 4 := somev_all (fun x => x.size ≤ 4) xs _ chNews (by decide) (by decide)
      have s2 : edSmall (chEdit xs n k a) := by
        refine ⟨?_, ?_, ?_, ?_, ?_⟩ <;> simp only [chEdit] <;> try omega
        split
        · decide
        · exact s1
      have ho : 0 ≤ (chEdit xs n k a).old := by simp only [chEdit]; omega
      obtain ⟨r1, r2, r3, r4⟩ := changeTo_small xs n hn m (k + 3) (a + ((chEdit xs n k a).old + pickv xs (k + 2) [1, 1, 2, 5])) (out ++ [chEdit xs n k a]) (by omega) (by
        intro e he
        rcases List.mem_append.1 he with he | he
        · exact h e he
        · simp at he; subst he; exact s2)
      refine ⟨r1, ?_, by omega, by omega⟩
      simp at r2
      omega

theorem change_small (xs : List Int) (k : Nat) (n : Int) (hn : 0 ≤ n ∧ n ≤ 1000000) :
    (∀ e, e ∈ changeV xs k n → edSmall e) ∧ (changeV xs k n).length ≤ 4 ∧ k ≤ changeK xs k n ∧ changeK xs k n ≤ k + 20 := by
  have r1 := rangev_bd xs k 0 3
  have p1 : 0 ≤ pickv xs (k + 1) [0, 1, 1, 2, 3] ∧ pickv xs (k + 1) [0, 1, 1, 2, 3] ≤ 3 := pickv_all (fun x => 0 ≤ x ∧ x ≤ 3) _ _ _ (by decide) (by decide)
  obtain ⟨c1, c2, c3, c4⟩ := changeTo_small xs n hn (pickv xs (k + 1) [0, 1, 1, 2, 3]).toNat (k + 2) (rangev xs k 0 3) [] (by omega) (by simp)
  change (∀ e, e ∈ (changeP xs k n).1 → edSmall e) at c1
  change (changeP xs k n).1.length ≤ _ at c2
  change _ ≤ (changeP xs k n).2 at c3
  change (changeP xs k n).2 ≤ _ at c4
  simp at c2
  unfold changeV changeK
  by_cases hf : flipv xs (changeP xs k n).2 15 = true
  · rw [if_pos hf, if_pos hf]
    refine ⟨fun e he => ?_, by simp; omega, ?_, ?_⟩
    · rcases List.mem_append.1 he with he | he
      · exact c1 e he
      · simp at he; subst he; exact anEdit_small xs _ n hn
    · unfold anEditK; split <;> omega
    · unfold anEditK; split <;> omega
  · rw [if_neg hf, if_neg hf]
    exact ⟨c1, by omega, by omega, by omega⟩

theorem small_of (es : List Ed) (h : ∀ e, e ∈ es → edSmall e) : EdsSmall es := fun e he => by have := h e he; unfold edSmall at this; omega

/-- What Hull tells of a right change. -/
def hullE (s : ByteArray) (es : List Ed) : Ed :=
  match es with
  | [] => ⟨0, 0, ⟨#[]⟩⟩
  | e :: r => ⟨e.at_, ((e :: r).getLast (by simp)).at_ + ((e :: r).getLast (by simp)).old - e.at_, hullNew s (e :: r) e.at_ (((e :: r).getLast (by simp)).at_ + ((e :: r).getLast (by simp)).old)⟩
def hullB (es : List Ed) : Bool := !es.isEmpty

theorem hullOf_any (s : ByteArray) (a : Option Addr) (cap : Nat) (es : List Ed) (w : World) (h : changeFault s.size es = 0) (hE : Eds w a es) :
    Calls Try.prog 42 #[.int .i64 s.size, .slice a es.length cap, .string s] w (HullPost (hullE s es) (hullB es) w) := by
  obtain ⟨h1, h2, h3, h4, h5, h6⟩ := right_all h
  match es, h, hE, h2, h3, h4, h5 with
  | [], _, _, _, _, _, _ => exact hullOf_none _ _ _ _ _
  | e :: r, h, hE, h2, h3, h4, h5 =>
    obtain ⟨q1, q2⟩ := right_hull h (by simp)
    have hlast : (e :: r)[(e :: r).length - 1] = (e :: r).getLast (by simp) := (List.getLast_eq_getElem (by simp)).symm
    rw [hlast] at q1 q2
    refine (hullOf_some s a cap (e :: r) w h2 (by omega) hE h3 h4 h5 (by simp) _ (by rw [hlast]) q1 q2).mono ?_
    intro x w' hx
    exact hx
end Go.Proofs.Ytajigndlcdiinaa
