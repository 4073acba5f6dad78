/- flow.edits: the closure close. -/
import Derived.Test.YtajigndlcdiinaaDP2
namespace Go.Proofs.Ytajigndlcdiinaa
open Go.RowKit

/-- Edits that are being gathered: `at` in block A, `text` in X, `out` in O, its row from block B on. -/
structure GSt (B A X O : Nat) (w : World) (a : Int) (t : ByteArray) (v : Value) (es : List Ed) : Prop where
  hA : w.heap[A]? = some (.cells #[.int .i64 a] 3 /-t:int-/ (0, 0))
  hX : w.heap[X]? = some (.cells #[.string t] 9 /-t:string-/ (0, 0))
  hO : w.heap[O]? = some (.cells #[v] 28 /-t:[]api.Edit-/ (0, 0))
  own : w.ownsRow B 47 /-t:hedgelayer/api.Edit-/ 3 v es.length (edCells es)
  hB : B ≤ w.heap.size
def GP (B A X O : Nat) (k : Nat) (o : Option Obj) : Prop := k ≠ A ∧ k ≠ X ∧ k ≠ O ∧ (k < B ∨ ∀ c fr, o ≠ some (.cells c 47 /-t:hedgelayer/api.Edit-/ fr))

theorem GSt.ne {B A X O w a t v es} (S : GSt B A X O w a t v es) : A ≠ X ∧ A ≠ O ∧ X ≠ O := by
  refine ⟨fun e => ?_, fun e => ?_, fun e => ?_⟩
  · have h := S.hA; rw [e, S.hX] at h; simp at h
  · have h := S.hA; rw [e, S.hO] at h; simp at h
  · have h := S.hX; rw [e, S.hO] at h; simp at h
theorem GSt.alloc {B A X O w a t v es} (S : GSt B A X O w a t v es) (o : Obj) : GSt B A X O (w.alloc o) a t v es :=
  ⟨(Below.heap_alloc w o A (lt_of_block S.hA)).trans S.hA, (Below.heap_alloc w o X (lt_of_block S.hX)).trans S.hX, (Below.heap_alloc w o O (lt_of_block S.hO)).trans S.hO, S.own.alloc o, by have := S.hB; simp; omega⟩
theorem GSt.setA {B A X O w a t v es} (S : GSt B A X O w a t v es) (a' : Int) : GSt B A X O (w.setCell ⟨A, 0, none⟩ (.int .i64 a')) a' t v es ∧ Frm (GP B A X O) w (w.setCell ⟨A, 0, none⟩ (.int .i64 a')) := by
  have hn := S.ne
  refine ⟨⟨heap_setCell_self S.hA 0 _, ?_, ?_, ownsRow_setCell_block S.own S.hA (by decide) 0 _, ?_⟩, (Frm.refl _ w).setCell _ _ (fun h => h.1 rfl)⟩
  · rw [Below.heap_setCell _ _ _ _ (fun e => hn.1 e.symm)]; exact S.hX
  · rw [Below.heap_setCell _ _ _ _ (fun e => hn.2.1 e.symm)]; exact S.hO
  · have := S.hB; simpa [World.setCell] using this
theorem GSt.setX {B A X O w a t v es} (S : GSt B A X O w a t v es) (t' : ByteArray) : GSt B A X O (w.setCell ⟨X, 0, none⟩ (.string t')) a t' v es ∧ Frm (GP B A X O) w (w.setCell ⟨X, 0, none⟩ (.string t')) := by
  have hn := S.ne
  refine ⟨⟨?_, heap_setCell_self S.hX 0 _, ?_, ownsRow_setCell_block S.own S.hX (by decide) 0 _, ?_⟩, (Frm.refl _ w).setCell _ _ (fun h => h.2.1 rfl)⟩
  · rw [Below.heap_setCell _ _ _ _ hn.1]; exact S.hA
  · rw [Below.heap_setCell _ _ _ _ (fun e => hn.2.2 e.symm)]; exact S.hO
  · have := S.hB; simpa [World.setCell] using this
/-- Behind an append of one edit. -/
theorem GSt.mid {B A X O w a t v es} (S : GSt B A X O w a t v es) (o : Obj) {w1 : World} (g : (w.alloc o).grownBy w1 v.ownBlock) :
    w1.heap[A]? = some (.cells #[.int .i64 a] 3 /-t:int-/ (0, 0)) ∧ w1.heap[X]? = some (.cells #[.string t] 9 /-t:string-/ (0, 0)) ∧ w1.heap[O]? = some (.cells #[v] 28 /-t:[]api.Edit-/ (0, 0)) ∧ Frm (GP B A X O) w w1 := by
  have S' := S.alloc o
  refine ⟨grown_block S'.own g S'.hA (by decide), grown_block S'.own g S'.hX (by decide), grown_block S'.own g S'.hO (by decide), ?_⟩
  refine ((Frm.refl _ w).alloc o).grown g (fun k hk hp => ?_)
  obtain ⟨hB, c, hc⟩ := ownsRow_block S'.own k hk
  rcases hp.2.2.2 with h | h
  · omega
  · exact h _ _ hc
theorem GSt.push {B A X O w a t v es} (S : GSt B A X O w a t v es) (o : Obj) {w1 : World} {v' : Value} {e : Ed} {m : Nat} (hm : m = es.length + 1)
    (hown : w1.ownsRow B 47 /-t:hedgelayer/api.Edit-/ 3 v' m (edCells es ++ [.int .i64 e.at_, .int .i64 e.old, .string e.new])) (g : (w.alloc o).grownBy w1 v.ownBlock) :
    GSt B A X O (w1.setCell ⟨O, 0, none⟩ v') a t v' (es ++ [e]) ∧ Frm (GP B A X O) w (w1.setCell ⟨O, 0, none⟩ v') := by
  subst hm
  obtain ⟨hA, hX, hO, f⟩ := S.mid o g
  have hn := S.ne
  refine ⟨⟨?_, ?_, heap_setCell_self hO 0 v', ?_, ?_⟩, f.setCell _ _ (fun h => h.2.2.1 rfl)⟩
  · rw [Below.heap_setCell _ _ _ _ hn.2.1]; exact hA
  · rw [Below.heap_setCell _ _ _ _ hn.2.2]; exact hX
  · rw [edCells_snoc, List.length_append]
    exact ownsRow_setCell_block hown hO (by decide) 0 v'
  · have := f.size; have := S.hB; simp [World.setCell] at *; omega

def closeE (a to : Int) (t : ByteArray) (es : List Ed) : List Ed := if a < to ∨ t.size ≠ 0 then es ++ [⟨a, to - a, t⟩] else es
def ClosePost (B A X O : Nat) (a to : Int) (t : ByteArray) (es : List Ed) (w : World) (e : Ending) (w' : World) : Prop :=
  e = .returned (.tuple #[]) ∧ ∃ v', GSt B A X O w' a ⟨#[]⟩ v' (closeE a to t es) ∧ Frm (GP B A X O) w w'

set_option maxHeartbeats 4000000 in
set_option maxRecDepth 100000 in
theorem close_any (B A X O : Nat) (a to : Int) (t : ByteArray) (v : Value) (es : List Ed) (w : World) (ha : -1000000 ≤ a ∧ a ≤ 1000000) (hto : -1000000 ≤ to ∧ to ≤ 1000000) (hl : es.length ≤ 1000000) (S : GSt B A X O w a t v es) :
    Calls Try.prog 81 #[.int .i64 to, .pointer (some ⟨A, 0, none⟩), .pointer (some ⟨X, 0, none⟩), .pointer (some ⟨O, 0, none⟩)] w (ClosePost B A X O a to t es w) := by
  obtain ⟨i0, hi, hz0, hz1, hz2⟩ := info_parts infoEdit
  have cA := cell_of_block S.hA 0
  have cX := cell_of_block S.hX 0
  have fX := free_of_block S.hX 0
  have cO := cell_of_block S.hO 0
  have fO := free_of_block S.hO 0
  simp only [List.getElem?_toArray, List.getElem?_cons_zero] at cA cX cO
  by_cases h1 : a < to
  · have HC := Lib.hid (show closeE a to t es = es ++ [⟨a, to - a, t⟩] from if_pos (Or.inl h1))
    go_enter Try.func81, Try.ntmps81
    go_wp2_with (at_builtin; refine wpList_append_own _ rfl _ _ 28 /-t:[]api.Edit-/ rfl B 47 /-t:hedgelayer/api.Edit-/ i0 (.agg #[.int .i64 0, .int .i64 0, .string ⟨#[]⟩]) 3 32 Try.underlying28 /-t:[]api.Edit-/ hi hz0 hz1 hz2 rfl (by decide) _ _ _ rfl (S.own.alloc _) ⟨w.heap.size, 0, none⟩ 1 1 [.int .i64 a, .int .i64 (to - a), .string t] rfl rfl (cells_new _ _ _) (fun x hx => by simp at hx; rcases hx with rfl | rfl | rfl <;> rfl) (by unfold maxLen; omega) (by omega) (by have := S.hB; simp; omega) ?_; intro v' w1 hown' hgrow _; obtain ⟨av, cv, rfl⟩ := ownsRow_slice hown'; have M := S.mid _ hgrow; have cO1 := cell_of_block M.2.2.1 0; have fO1 := free_of_block M.2.2.1 0; have cX1 := cell_of_block M.2.1 0; have fX1 := free_of_block M.2.1 0; simp only [List.getElem?_toArray, List.getElem?_cons_zero] at cO1 cX1; have R := S.push _ (e := ⟨a, to - a, t⟩) rfl hown' hgrow; have hne := S.ne; clear hown' hgrow M)
    have R2 := R.1.setX ⟨#[]⟩
    go_end0
    exact ⟨rfl, _, by rw [HC.out]; exact R2.1, R.2.trans R2.2⟩
  · by_cases h2 : t.size = 0
    · have HC := Lib.hid (show closeE a to t es = es from if_neg (by omega))
      have z := isEmpty_of_size h2
      have z2 : (!t.toList.isEmpty) = false := by rw [z]; rfl
      have d1 : decide (a < to) = false := by simpa using h1
      clear h2
      have R2 := S.setX ⟨#[]⟩
      go_enter Try.func81, Try.ntmps81
      go_wp2_with fail
      go_end0
      exact ⟨rfl, _, by rw [HC.out]; exact R2.1, R2.2⟩
    · have HC := Lib.hid (show closeE a to t es = es ++ [⟨a, to - a, t⟩] from if_pos (Or.inr h2))
      have z := not_isEmpty_of_size h2
      have z2 : (!t.toList.isEmpty) = true := by rw [z]; rfl
      have d1 : decide (a < to) = false := by simpa using h1
      clear h2
      go_enter Try.func81, Try.ntmps81
      go_wp2_with (at_builtin; refine wpList_append_own _ rfl _ _ 28 /-t:[]api.Edit-/ rfl B 47 /-t:hedgelayer/api.Edit-/ i0 (.agg #[.int .i64 0, .int .i64 0, .string ⟨#[]⟩]) 3 32 Try.underlying28 /-t:[]api.Edit-/ hi hz0 hz1 hz2 rfl (by decide) _ _ _ rfl (S.own.alloc _) ⟨w.heap.size, 0, none⟩ 1 1 [.int .i64 a, .int .i64 (to - a), .string t] rfl rfl (cells_new _ _ _) (fun x hx => by simp at hx; rcases hx with rfl | rfl | rfl <;> rfl) (by unfold maxLen; omega) (by omega) (by have := S.hB; simp; omega) ?_; intro v' w1 hown' hgrow _; obtain ⟨av, cv, rfl⟩ := ownsRow_slice hown'; have M := S.mid _ hgrow; have cO1 := cell_of_block M.2.2.1 0; have fO1 := free_of_block M.2.2.1 0; have cX1 := cell_of_block M.2.1 0; have fX1 := free_of_block M.2.1 0; simp only [List.getElem?_toArray, List.getElem?_cons_zero] at cO1 cX1; have R := S.push _ (e := ⟨a, to - a, t⟩) rfl hown' hgrow; have hne := S.ne; clear hown' hgrow M)
      have R2 := R.1.setX ⟨#[]⟩
      go_end0
      exact ⟨rfl, _, by rw [HC.out]; exact R2.1, R.2.trans R2.2⟩
end Go.Proofs.Ytajigndlcdiinaa
