/- flowOf. -/
import Derived.Test.YtajigndlcdiinaaF0
import Derived.Test.YtajigndlcdiinaaE2
namespace Go.Proofs.Ytajigndlcdiinaa
open Go.RowKit

abbrev Let := Int × UInt8
def letCells (l : List Let) : List Value := l.flatMap fun x => [.int .i64 x.1, .int .u8 x.2.toNat]
theorem letCells_len (l : List Let) : (letCells l).length = l.length * 2 := by
  induction l with
  | nil => rfl
  | cons x l ih => simp only [letCells, List.flatMap_cons, List.length_append] at ih ⊢; rw [ih]; simp; omega
theorem letCells_snoc (l : List Let) (x : Let) : letCells (l ++ [x]) = letCells l ++ [.int .i64 x.1, .int .u8 x.2.toNat] := by simp [letCells]

theorem infoLet : (Try.prog.info? 88 /-t:hedgelayer/hgref2.letter-/).map (fun i => (i.zero, i.size, i.bytes)) = some (some (.agg #[.int .i64 0, .int .u8 0]), 2, 16) := by kernel_rfl

/-- A flow that is being made: `at` in block A, the flow in block F, the row of its letters from block B on. -/
structure FlowSt (B A F : Nat) (n : Int) (w : World) (a : Int) (lv : Value) (ls : List Let) : Prop where
  hA : w.heap[A]? = some (.cells #[.int .i64 a] 3 /-t:int-/ (0, 0))
  hF : w.heap[F]? = some (.cells #[.int .i64 n, lv] 85 /-t:hedgelayer/hgref2.flow-/ (0, 0))
  own : w.ownsRow B 88 /-t:hedgelayer/hgref2.letter-/ 2 lv ls.length (letCells ls)
  hB : B ≤ w.heap.size

/-- What is left alone while a flow is made. -/
def FlowP (B A F : Nat) (k : Nat) (o : Option Obj) : Prop := k ≠ A ∧ k ≠ F ∧ (k < B ∨ ∀ c fr, o ≠ some (.cells c 88 /-t:hedgelayer/hgref2.letter-/ fr))

/-- The letters of kept bytes from a on, ahead of b. -/
def keepL (a : Int) : Nat → List Let
  | 0 => []
  | j + 1 => keepL a j ++ [(a + (j : Int), 0)]
theorem keepL_len (a : Int) (j : Nat) : (keepL a j).length = j := by
  induction j with
  | zero => rfl
  | succ j ih => simp [keepL, ih]

def cellInt : Option Value → Int | some (.int _ q) => q | _ => 0

theorem FlowSt.ne {B A F n w a lv ls} (S : FlowSt B A F n w a lv ls) : A ≠ F := by
  intro e
  have h := S.hA
  rw [e, S.hF] at h
  simp at h
/-- Frames of an append to the letters. -/
theorem FlowSt.frm {B A F n w a lv ls} (S : FlowSt B A F n w a lv ls) (o : Obj) {w1 : World} (g : (w.alloc o).grownBy w1 lv.ownBlock) : Frm (FlowP B A F) w w1 := by
  refine ((Frm.refl _ w).alloc o).grown g (fun k hk hp => ?_)
  obtain ⟨hB, c, hc⟩ := ownsRow_block (S.own.alloc o) k hk
  rcases hp.2.2 with h | h
  · omega
  · exact h _ _ hc

/-- Behind the append: the two variables. -/
theorem FlowSt.mid {B A F n w a lv ls} (S : FlowSt B A F n w a lv ls) (o : Obj) {w1 : World} (g : (w.alloc o).grownBy w1 lv.ownBlock) :
    w1.heap[A]? = some (.cells #[.int .i64 a] 3 /-t:int-/ (0, 0)) ∧ w1.heap[F]? = some (.cells #[.int .i64 n, lv] 85 /-t:hedgelayer/hgref2.flow-/ (0, 0)) :=
  ⟨grown_block (S.own.alloc o) g ((Below.heap_alloc w o A (lt_of_block S.hA)).trans S.hA) (by decide),
   grown_block (S.own.alloc o) g ((Below.heap_alloc w o F (lt_of_block S.hF)).trans S.hF) (by decide)⟩

/-- Behind the append: what the store and the step of `at` lead to. -/
theorem FlowSt.push {B A F n w a lv ls} (S : FlowSt B A F n w a lv ls) (o : Obj) {w1 : World} {v' : Value} {x : Let} {m : Nat} (hm : m = ls.length + 1)
    (hown : w1.ownsRow B 88 /-t:hedgelayer/hgref2.letter-/ 2 v' m (letCells ls ++ [.int .i64 x.1, .int .u8 x.2.toNat])) (g : (w.alloc o).grownBy w1 lv.ownBlock) :
    FlowSt B A F n (w1.setCell ⟨F, 1, none⟩ v') a v' (ls ++ [x]) ∧ Frm (FlowP B A F) w (w1.setCell ⟨F, 1, none⟩ v') := by
  subst hm
  obtain ⟨hA, hF⟩ := S.mid o g
  refine ⟨⟨?_, ?_, ?_, ?_⟩, ?_⟩
  · rw [Below.heap_setCell _ _ _ _ S.ne]; exact hA
  · exact heap_setCell_self hF 1 v'
  · rw [letCells_snoc]
    simpa using ownsRow_setCell_block hown hF (by decide) 1 v'
  · have := g.size; have := S.hB; simp [World.setCell] at *; omega
  · exact (S.frm o g).setCell _ _ (fun h => h.2.1 rfl)

theorem FlowSt.step {B A F n w a lv ls} (S : FlowSt B A F n w a lv ls) (a' : Int) : FlowSt B A F n (w.setCell ⟨A, 0, none⟩ (.int .i64 a')) a' lv ls ∧ Frm (FlowP B A F) w (w.setCell ⟨A, 0, none⟩ (.int .i64 a')) := by
  refine ⟨⟨heap_setCell_self S.hA 0 _, ?_, ownsRow_setCell_block S.own S.hA (by decide) 0 _, ?_⟩, (Frm.refl _ w).setCell _ _ (fun h => h.1 rfl)⟩
  · rw [Below.heap_setCell _ _ _ _ (fun e => S.ne e.symm)]; exact S.hF
  · have := S.hB; simpa [World.setCell] using this

/-- What a call of `keep` leads to. -/
def KeepPost (B A F : Nat) (n a0 to : Int) (ls : List Let) (w : World) (e : Ending) (w' : World) : Prop :=
  e = .returned (.tuple #[]) ∧ ∃ lv', FlowSt B A F n w' (a0 + ((to - a0).toNat : Int)) lv' (ls ++ keepL a0 (to - a0).toNat) ∧ Frm (FlowP B A F) w w'
def KeepRel (B A F : Nat) (n a0 to : Int) (ls : List Let) (w wr : World) : Prop :=
  ∃ (j : Nat) (lv' : Value), j ≤ (to - a0).toNat ∧ FlowSt B A F n wr (a0 + (j : Int)) lv' (ls ++ keepL a0 j) ∧ Frm (FlowP B A F) w wr
theorem FlowSt.cellA {B A F n w a lv ls} (S : FlowSt B A F n w a lv ls) : cellInt (w.cell? ⟨A, 0, none⟩) = a := by rw [cell_of_block S.hA 0]; rfl

set_option maxHeartbeats 2000000 in
set_option maxRecDepth 100000 in
theorem keep_any (B A F : Nat) (n a0 to : Int) (lv : Value) (ls : List Let) (w : World) (ha : 0 ≤ a0 ∧ a0 ≤ 100000) (hto : to ≤ 100000) (hl : ls.length ≤ 100000) (S : FlowSt B A F n w a0 lv ls) :
    Calls Try.prog 79 #[.int .i64 to, .pointer (some ⟨A, 0, none⟩), .pointer (some ⟨F, 0, none⟩)] w (KeepPost B A F n a0 to ls w) := by
  obtain ⟨i0, hi, hz0, hz1, hz2⟩ := info_parts infoLet
  go_enter Try.func79, Try.ntmps79
  go_wp2_with fail
  go_loopw [] (fun wr => KeepRel B A F n a0 to ls w wr) (fun wr => (to - cellInt (wr.cell? ⟨A, 0, none⟩)).toNat)
  case atStart => exact ⟨0, lv, Nat.zero_le _, by simpa [keepL] using S, Frm.refl _ _⟩
  case round =>
    obtain ⟨j, lv', hj, T, hf⟩ := hrel
    have cA := cell_of_block T.hA 0
    have fA := free_of_block T.hA 0
    have cF := cell_of_block T.hF 1
    have fF := free_of_block T.hF 1
    have hm := Lib.hid T.cellA
    simp only [List.getElem?_toArray, List.getElem?_cons_zero, List.getElem?_cons_succ] at cA cF
    obtain ⟨L, hL⟩ : ∃ L, L = ls ++ keepL a0 j := ⟨_, rfl⟩
    have hlen : L.length ≤ 300000 := by rw [hL]; simp [keepL_len]; omega
    rw [← hL] at T
    have HL := Lib.hid hL
    clear hL
    by_cases hlt : a0 + (j : Int) < to
    · go_wp2_with (at_builtin; refine wpList_append_own _ rfl _ _ 83 /-t:[]hgref2.letter-/ rfl B 88 /-t:hedgelayer/hgref2.letter-/ i0 (.agg #[.int .i64 0, .int .u8 0]) 2 16 Try.underlying83 /-t:[]hgref2.letter-/ hi hz0 hz1 hz2 rfl (by decide) _ _ _ rfl (T.own.alloc _) ⟨wr.heap.size, 0, none⟩ 1 1 [.int .i64 (a0 + (j : Int)), .int .u8 0] rfl rfl (cells_new _ _ _) (fun x hx => by simp at hx; rcases hx with rfl | rfl <;> rfl) (by unfold maxLen; omega) (by omega) (by have := T.hB; simp; omega) ?_; intro v' w1 hown' hgrow _; obtain ⟨av, cv, rfl⟩ := ownsRow_slice hown'; have M := T.mid _ hgrow; have cF1 := cell_of_block M.2 1; have fF1 := free_of_block M.2 1; have cA1 := cell_of_block M.1 0; have fA1 := free_of_block M.1 0; simp only [List.getElem?_toArray, List.getElem?_cons_zero, List.getElem?_cons_succ] at cA1 cF1; have R := T.push _ (x := (a0 + (j : Int), 0)) rfl hown' hgrow; clear hown' hgrow M)
      have R2 := R.1.step (a0 + (j : Int) + 1)
      have e1 : a0 + (j : Int) + 1 = a0 + ((j + 1 : Nat) : Int) := by omega
      rw [e1] at R2
      go_roundw
      case rel =>
        refine ⟨j + 1, Value.slice av (L.length + 1) cv, by omega, ?_, hf.trans (R.2.trans ?_)⟩
        · rw [keepL, ← List.append_assoc, ← HL.out]
          rw [e1]
          exact R2.1
        · rw [e1]; exact R2.2
      case measure =>
        rw [hm.out, e1, R2.1.cellA]; omega
    · have e0 : j = (to - a0).toNat := by omega
      have HE := Lib.hid e0
      clear e0
      go_wp2_with fail
      go_end0
      refine ⟨rfl, lv', ?_, hf⟩
      rw [← HE.out, ← HL.out]
      exact T
end Go.Proofs.Ytajigndlcdiinaa
