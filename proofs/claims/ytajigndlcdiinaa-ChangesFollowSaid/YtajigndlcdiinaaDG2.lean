/- flow.edits. -/
import Derived.Test.YtajigndlcdiinaaDG1
import Derived.Laws.BytesArg
namespace Go.Proofs.Ytajigndlcdiinaa
open Go.RowKit

/-- The edits of a flow's letters: (at, text, out) behind the first j letters. -/
def edStep (s : Int × ByteArray × List Ed) (x : Let) : Int × ByteArray × List Ed :=
  if x.1 < 0 then (s.1, s.2.1 ++ ⟨#[x.2]⟩, s.2.2) else (x.1 + 1, ⟨#[]⟩, closeE s.1 x.1 s.2.1 s.2.2)
def edTo (ls : List Let) (j : Nat) : Int × ByteArray × List Ed := (ls.take j).foldl edStep (0, ⟨#[]⟩, [])
def editsOf (n : Int) (ls : List Let) : List Ed := closeE (edTo ls ls.length).1 n (edTo ls ls.length).2.1 (edTo ls ls.length).2.2

theorem edTo_succ (ls : List Let) (j : Nat) (h : j < ls.length) : edTo ls (j + 1) = edStep (edTo ls j) ls[j] := by
  unfold edTo; rw [List.take_succ_eq_append_getElem h, List.foldl_append]; rfl

theorem edTo_bd (ls : List Let) (hI : ∀ x, x ∈ ls → x.1 ≤ 100000) : ∀ j, j ≤ ls.length → 0 ≤ (edTo ls j).1 ∧ (edTo ls j).1 ≤ 100001 ∧ (edTo ls j).2.1.size ≤ j ∧ (edTo ls j).2.2.length ≤ j
  | 0, _ => ⟨by simp [edTo], by simp [edTo], by simp only [edTo, List.take_zero, List.foldl_nil]; decide, by simp [edTo]⟩
  | j + 1, h => by
    obtain ⟨h1, h2, h3, h4⟩ := edTo_bd ls hI j (by omega)
    rw [edTo_succ _ _ (by omega)]
    have := hI _ (List.getElem_mem (show j < ls.length by omega))
    unfold edStep
    split
    · refine ⟨h1, h2, ?_, by simp only; omega⟩
      simp only [ByteArray.size_append]
      have : (ByteArray.mk #[ls[j].2]).size = 1 := rfl
      omega
    · refine ⟨by simp only; omega, by simp only; omega, ?_, ?_⟩
      · have : (ByteArray.mk #[]).size = 0 := rfl
        simp only; omega
      · simp only [closeE]
        split
        · simp; omega
        · omega

theorem conv1 (W : World) (b : Nat) (c : UInt8) (h : W.cell? ⟨b, 0, none⟩ = some (.int .u8 c.toNat)) :
    (convert 80 /-t:[]uint8-/ 9 /-t:string-/ (.slice (some ⟨b, 0, none⟩) 1 1)).run Try.prog W = .ok (.string ⟨#[c]⟩) W := by
  rw [run_convert_bytes_arg W 80 /-t:[]uint8-/ 5 /-t:uint8-/ Try.underlying80 /-t:[]uint8-/ Try.underlying5 /-t:uint8-/ b 0 1 1 [(c.toNat : Int)] rfl (fun i hi => by
    obtain rfl : i = 0 := by omega
    simpa using h) 9 /-t:string-/ Try.underlying9 /-t:string-/]
  simp [strOfNums]

def EditsPost (l : List Ed) (w : World) (e : Ending) (w' : World) : Prop :=
  ∃ v, e = .returned v ∧ w'.ownsRow w.heap.size 47 /-t:hedgelayer/api.Edit-/ 3 v l.length (edCells l) ∧ w.grownBy w' none

def GRel (w : World) (F : Nat) (fl : Array Value) (ls : List Let) (j : Nat) (wr : World) : Prop :=
  ∃ v, GSt (w.heap.size + 4) (w.heap.size + 1 + 1) (w.heap.size + 1 + 1 + 1) (w.heap.size + 1) wr (edTo ls j).1 (edTo ls j).2.1 v (edTo ls j).2.2 ∧
    wr.heap[F]? = some (.cells fl 85 /-t:hedgelayer/hgref2.flow-/ (0, 0)) ∧ w.grownBy wr none

set_option maxHeartbeats 4000000 in
set_option maxRecDepth 100000 in
theorem edits_any (n : Int) (lv : Value) (base : Nat) (ls : List Let) (w : World) (hn : 0 ≤ n ∧ n ≤ 100000) (hl : ls.length ≤ 100000) (hI : ∀ x, x ∈ ls → x.1 ≤ 100000)
    (hown : w.ownsRow base 88 /-t:hedgelayer/hgref2.letter-/ 2 lv ls.length (letCells ls)) :
    Calls Try.prog 59 #[.agg #[.int .i64 n, lv]] w (EditsPost (editsOf n ls) w) := by
  have hbd := edTo_bd ls hI
  obtain ⟨av, cv, rfl⟩ := ownsRow_slice hown
  go_enter Try.func59, Try.ntmps59
  go_wp2_with fail
  go_loopw [13] (fun i wr => ∃ j : Nat, j ≤ ls.length ∧ i = .int .i64 j ∧ GRel w w.heap.size #[.int .i64 n, .slice av ls.length cv] ls j wr) (fun i _ => ls.length - (intOf i).toNat)
  case atStart =>
    refine ⟨0, Nat.zero_le _, rfl, .slice none 0 0, ⟨?_, ?_, ?_, World.ownsRow_nil _ _ _ _, by simp⟩, ?_, ?_⟩
    · exact (Below.heap_alloc _ _ _ (by simp)).trans (heap_new_at _ _ _ (by simp))
    · exact heap_new_at _ _ _ (by simp)
    · exact (Below.heap_alloc _ _ _ (by simp; try omega)).trans ((Below.heap_alloc _ _ _ (by simp)).trans (heap_new_at _ _ _ (by simp)))
    · exact (Below.heap_alloc _ _ _ (by simp; try omega)).trans ((Below.heap_alloc _ _ _ (by simp; try omega)).trans ((Below.heap_alloc _ _ _ (by simp)).trans (heap_alloc_new w _)))
    · exact grow_alloc (grow_alloc (grow_alloc (grow_alloc (grow_self w) _) _) _) _
  case round =>
    obtain ⟨j, hj, rfl, v, T, hF, hg⟩ := hrel
    obtain ⟨g1, g2, g3, g4⟩ := hbd j hj
    by_cases hlt : j < ls.length
    · have hownr := ownsRow_frm (Frm.of_grown hg (fun _ _ => True)) hown (fun _ _ _ _ => trivial)
      obtain ⟨g, cap2, hv, hgb, hc⟩ := ownsRow_cell hownr (by omega)
      simp only [Value.slice.injEq] at hv
      obtain ⟨rfl, _, rfl⟩ := hv
      have hc0 := hc _ _ (letCells_get ls j hlt).1
      have hc1 := hc _ _ (letCells_get ls j hlt).2
      have hx := hI _ (List.getElem_mem hlt)
      have HT := Lib.hid (edTo_succ ls j hlt)
      have HB := Lib.hid hbd
      clear hc hownr hbd
      generalize ls[j] = x at hc0 hc1 hx HT
      obtain ⟨x1, x2⟩ := x
      simp only at hc0 hc1 hx HT
      have cA : ∀ o, (wr.alloc o).cell? ⟨w.heap.size + 1 + 1, 0, none⟩ = some (.int .i64 (edTo ls j).1) := fun o => cell_of_block (T.alloc o).hA 0
      have fA : ∀ o, (wr.alloc o).frozen? ⟨w.heap.size + 1 + 1, 0, none⟩ = false := fun o => free_of_block (T.alloc o).hA 0
      have cX : ∀ o, (wr.alloc o).cell? ⟨w.heap.size + 1 + 1 + 1, 0, none⟩ = some (.string (edTo ls j).2.1) := fun o => cell_of_block (T.alloc o).hX 0
      have fX : ∀ o, (wr.alloc o).frozen? ⟨w.heap.size + 1 + 1 + 1, 0, none⟩ = false := fun o => free_of_block (T.alloc o).hX 0
      have hs1 := T.hB
      by_cases hp : x1 < 0
      · have HS := Lib.hid (show edTo ls (j + 1) = ((edTo ls j).1, (edTo ls j).2.1 ++ ⟨#[x2]⟩, (edTo ls j).2.2) by rw [HT.out]; unfold edStep; rw [if_pos hp])
        have T2 := ((T.alloc (.cells #[.int .i64 x1, .int .u8 x2.toNat] 88 /-t:hedgelayer/hgref2.letter-/)).alloc (.cells #[.int .u8 x2.toNat] 5 /-t:uint8-/)).setX ((edTo ls j).2.1 ++ ⟨#[x2]⟩)
        have hg2 := grow_setCell (grow_alloc (grow_alloc hg (.cells #[.int .i64 x1, .int .u8 x2.toNat] 88 /-t:hedgelayer/hgref2.letter-/)) (.cells #[.int .u8 x2.toNat] 5 /-t:uint8-/)) ⟨w.heap.size + 1 + 1 + 1, 0, none⟩ (.string ((edTo ls j).2.1 ++ ⟨#[x2]⟩)) (by simp; omega)
        have hF2 := T2.2.kept ((Below.heap_alloc _ _ _ (by have := lt_of_block hF; simp; omega)).trans ((Below.heap_alloc _ _ _ (lt_of_block hF)).trans hF)) ⟨by omega, by omega, by omega, Or.inl (by omega)⟩
        have fX2 : ∀ o o', ((wr.alloc o).alloc o').frozen? ⟨w.heap.size + 1 + 1 + 1, 0, none⟩ = false := fun o o' => free_of_block ((T.alloc o).alloc o').hX 0
        have cX2 : ∀ o o', ((wr.alloc o).alloc o').cell? ⟨w.heap.size + 1 + 1 + 1, 0, none⟩ = some (.string (edTo ls j).2.1) := fun o o' => cell_of_block ((T.alloc o).alloc o').hX 0
        clear T hF hg
        go_wp2_with fail
        rw [conv1 _ _ x2 (by simp)]
        simp only [Result.andThen]
        rw [Oper.upon_value]
        go_wp2_with fail
        go_roundw
        case rel =>
          refine ⟨j + 1, by omega, by go_num, v, ?_, hF2, hg2⟩
          rw [HS.out]
          exact T2.1
        case measure => simp [intOf]; omega
      · have HS := Lib.hid (show edTo ls (j + 1) = (x1 + 1, ⟨#[]⟩, closeE (edTo ls j).1 x1 (edTo ls j).2.1 (edTo ls j).2.2) by rw [HT.out]; unfold edStep; rw [if_neg hp])
        go_wp2_with fail
        refine (close_any _ _ _ _ _ x1 _ v _ _ (by omega) (by omega) (by omega) (T.alloc _)).mono ?_
        rintro e w2 ⟨rfl, v2, T2, F2⟩
        have hb2 := F2.kept (heap_alloc_new wr _) ⟨by omega, by omega, by omega, Or.inr (by intro c fr h; simp at h)⟩
        have hF2 := F2.kept ((Below.heap_alloc _ _ _ (lt_of_block hF)).trans hF) ⟨by omega, by omega, by omega, Or.inl (by omega)⟩
        have hg2 : w.grownBy w2 none := grow_frm (grow_alloc hg _) F2 (fun k o hk => ⟨by omega, by omega, by omega, Or.inl (by omega)⟩)
        have T3 := T2.setA (x1 + 1)
        have hF3 := T3.2.kept hF2 ⟨by omega, by omega, by omega, Or.inl (by omega)⟩
        have hg3 := grow_setCell hg2 ⟨w.heap.size + 1 + 1, 0, none⟩ (.int .i64 (x1 + 1)) (by simp; omega)
        have c0 := cell_of_block hb2 0
        have cA2 := cell_of_block T2.hA 0
        have fA2 := free_of_block T2.hA 0
        simp only [List.getElem?_toArray, List.getElem?_cons_zero] at c0 cA2
        clear T T2 F2 hb2 hF hF2 hg hg2
        go_wp2_with fail
        go_roundw
        case rel =>
          refine ⟨j + 1, by omega, by go_num, v2, ?_, hF3, hg3⟩
          rw [HS.out]
          exact T3.1
        case measure => simp [intOf]; omega
    · obtain rfl : j = ls.length := by omega
      have cF := cell_of_block hF 0
      simp only [List.getElem?_toArray, List.getElem?_cons_zero] at cF
      have HL := Lib.hid (show editsOf n ls = closeE (edTo ls ls.length).1 n (edTo ls ls.length).2.1 (edTo ls ls.length).2.2 from rfl)
      clear hbd
      go_wp2_with fail
      refine (close_any _ _ _ _ _ n _ v _ _ (by omega) (by omega) (by omega) T).mono ?_
      rintro e w2 ⟨rfl, v2, T2, F2⟩
      have hg2 : w.grownBy w2 none := grow_frm hg F2 (fun k o hk => ⟨by omega, by omega, by omega, Or.inl (by omega)⟩)
      have cO := cell_of_block T2.hO 0
      simp only [List.getElem?_toArray, List.getElem?_cons_zero] at cO
      have own2 := T2.own
      obtain ⟨av2, cv2, rfl⟩ := ownsRow_slice own2
      have HO := Lib.hid own2
      clear T T2 F2 own2 hF
      go_wp2_with fail
      go_ret
      refine ⟨_, rfl, ?_, hg2⟩
      rw [HL.out]
      exact ownsRow_base HO.out (by omega)
end Go.Proofs.Ytajigndlcdiinaa
