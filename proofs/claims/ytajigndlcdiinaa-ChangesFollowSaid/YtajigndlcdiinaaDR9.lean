/- Package edit: goings, checkTwo, steps. -/
import Derived.Test.YtajigndlcdiinaaDR5
import Derived.Test.YtajigndlcdiinaaDA5
namespace Go.Proofs.Ytajigndlcdiinaa
open Go.RowKit

/-- The first j pieces of a change's old text lie in block B. -/
def GoTo (W : World) (B n : Nat) (es : List Ed) (more : Int) (j : Nat) : Prop :=
  ∃ C : Array Value, W.heap[B]? = some (.cells C 76 (0, 0)) ∧ C.size = n * 5 ∧ ∀ i (h : i < es.length), i < j →
    C[i * 5]? = some (.int .i64 (es[i].at_ + more)) ∧ C[i * 5 + 1]? = some (.int .i64 es[i].old) ∧ C[i * 5 + 2]? = some (.int .i64 es[i].at_) ∧ C[i * 5 + 3]? = some (.int .i64 es[i].old) ∧ C[i * 5 + 4]? = some (.string es[i].new)

theorem GoTo.step {W : World} {B n j : Nat} {es : List Ed} {more : Int} (h : GoTo W B n es more j) (hj : j < n) (hn : n = es.length) {e : Ed} (he : es[j]? = some e) {x y z u : Int} {t : ByteArray} (hx : x = e.at_ + more) (hy : y = e.old) (hz : z = e.at_) (hu : u = e.old) (ht : t = e.new) :
    GoTo (((((W.setCell ⟨B, j * 5, none⟩ (.int .i64 x)).setCell ⟨B, j * 5 + 1, none⟩ (.int .i64 y)).setCell ⟨B, j * 5 + 2, none⟩ (.int .i64 z)).setCell ⟨B, j * 5 + 3, none⟩ (.int .i64 u)).setCell ⟨B, j * 5 + 4, none⟩ (.string t)) B n es more (j + 1) := by
  obtain ⟨C, hb, hs, hc⟩ := h
  have hel : es[j]'(by omega) = e := by rw [List.getElem?_eq_getElem (by omega)] at he; exact Option.some.inj he
  refine ⟨_, heap_setCell_self (heap_setCell_self (heap_setCell_self (heap_setCell_self (heap_setCell_self hb (j * 5) (.int .i64 x)) (j * 5 + 1) (.int .i64 y)) (j * 5 + 2) (.int .i64 z)) (j * 5 + 3) (.int .i64 u)) (j * 5 + 4) (.string t), by simp [hs], fun i hi hij => ?_⟩
  by_cases ei : i = j
  · subst ei
    rw [hel]
    subst hx hy hz hu ht
    refine ⟨?_, ?_, ?_, ?_, ?_⟩
    · rw [set_get_ne _ _ _ _ (by omega), set_get_ne _ _ _ _ (by omega), set_get_ne _ _ _ _ (by omega), set_get_ne _ _ _ _ (by omega), set_get_self _ _ _ (by first | omega | (simp; omega))]
    · rw [set_get_ne _ _ _ _ (by omega), set_get_ne _ _ _ _ (by omega), set_get_ne _ _ _ _ (by omega), set_get_self _ _ _ (by first | omega | (simp; omega))]
    · rw [set_get_ne _ _ _ _ (by omega), set_get_ne _ _ _ _ (by omega), set_get_self _ _ _ (by first | omega | (simp; omega))]
    · rw [set_get_ne _ _ _ _ (by omega), set_get_self _ _ _ (by first | omega | (simp; omega))]
    · exact set_get_self _ _ _ (by first | omega | (simp; omega))
  · obtain ⟨k1, k2, k3, k4, k5⟩ := hc i hi (by omega)
    refine ⟨?_, ?_, ?_, ?_, ?_⟩
    all_goals rw [set_get_ne _ _ _ _ (by omega), set_get_ne _ _ _ _ (by omega), set_get_ne _ _ _ _ (by omega), set_get_ne _ _ _ _ (by omega), set_get_ne _ _ _ _ (by omega)]; assumption

theorem GoTo.kept {W W' : World} {B n j : Nat} {es : List Ed} {more : Int} (h : GoTo W B n es more j) (g : W.grownBy W' none) : GoTo W' B n es more j := by
  obtain ⟨C, hb, r⟩ := h
  exact ⟨C, (g.block _ (lt_of_block hb) (by simp)).trans hb, r⟩

def GoPost (es : List Ed) (more : Int) (w : World) (e : Ending) (w' : World) : Prop :=
  e = .returned (.slice (some ⟨w.heap.size, 0, none⟩) es.length es.length) ∧ GoTo w' w.heap.size es.length es more es.length ∧ w.grownBy w' none

set_option maxHeartbeats 4000000 in
set_option maxRecDepth 100000 in
theorem goings_any (a : Option Addr) (cap : Nat) (es : List Ed) (more : Int) (hm : -1000000 ≤ more ∧ more ≤ 1000000) (w : World) (hl : es.length ≤ 2000) (hE : Eds w a es) (hS : ∀ e, e ∈ es → 0 ≤ e.at_ ∧ e.at_ ≤ 20000 ∧ 0 ≤ e.old ∧ e.old ≤ 20000 ∧ e.new.size ≤ 40000) :
    Calls Try.prog 67 #[.slice a es.length cap, .int .i64 more] w (GoPost es more w) := by
  obtain ⟨P, hP⟩ : ∃ P, GoPost es more w = P := ⟨_, rfl⟩
  rw [hP]
  unfold GoPost at hP
  have HP := Lib.hid hP
  have HE := Lib.hid hE
  clear hP hE
  obtain ⟨C, hC, hmk⟩ := mkPcs es.length (by omega) w
  have HC := Lib.hid hC
  clear hC
  go_enter Try.func67, Try.ntmps67
  go_wp2_with fail
  have r0 : Hid (GoTo (w.alloc (.cells C 76)) w.heap.size es.length es more 0) := Lib.hid ⟨C, heap_alloc_new _ _, HC.out, fun i _ hi => by omega⟩
  have G0 := Lib.hid (World.grownBy_alloc w (.cells C 76) none)
  obtain ⟨B, hB⟩ : ∃ B, B = w.heap.size := ⟨_, rfl⟩
  rw [← hB] at r0 HP ⊢
  have HB := Lib.hid (show w.heap.size ≤ B by omega)
  generalize w.alloc (.cells C 76) = w1 at r0 G0 ⊢
  clear hB hmk HC
  go_loopw [6, 13] (fun iv i wr => ∃ (j : Nat), j ≤ es.length ∧ i = .int .i64 j ∧ Hid (GoTo wr B es.length es more j) ∧ Hid (w.grownBy wr none)) (fun _ i _ => es.length - (intOf i).toNat)
  case atStart => exact ⟨0, Nat.zero_le _, rfl, r0, G0⟩
  case round =>
    obtain ⟨j, hj, rfl, HR, HG⟩ := hrel
    by_cases hlt : j < es.length
    · obtain ⟨g, off, rfl, c1, c2, c3⟩ := HE.out j hlt
      replace c1 := HG.out.cell c1 (by simp)
      replace c2 := HG.out.cell c2 (by simp)
      replace c3 := HG.out.cell c3 (by simp)
      have hs := hS _ (List.getElem_mem hlt)
      have HGE := Lib.hid (List.getElem?_eq_getElem hlt)
      generalize es[j] = e at c1 c2 c3 hs HGE
      obtain ⟨ea, eo, en⟩ := e
      simp only at c1 c2 c3 hs
      have b0 := heap_alloc_new wr (.cells #[.int .i64 ea, .int .i64 eo, .string en] 47)
      have HG1 := Lib.hid (grow_alloc HG.out (.cells #[.int .i64 ea, .int .i64 eo, .string en] 47))
      have HR1 := Lib.hid (HR.out.kept (World.grownBy_alloc wr (.cells #[.int .i64 ea, .int .i64 eo, .string en] 47) none))
      have hwne : wr.heap.size ≠ B := by
        obtain ⟨C, hb, _⟩ := HR.out
        have := lt_of_block hb; omega
      go_upto_region 5 with (fail)
      generalize wr.alloc _ = w3 at b0 HG1 HR1 ⊢
      generalize wr.heap.size = M at b0 hwne ⊢
      have x0 := cell_of_block b0 0
      have x1 := cell_of_block b0 1
      have x2 := cell_of_block b0 2
      simp only [List.getElem?_toArray, List.getElem?_cons_zero, List.getElem?_cons_succ] at x0 x1 x2
      obtain ⟨C3, hb3, hs3, _⟩ := HR1.out
      have y0 := (cell_of_block hb3 (j * 5)).trans (Array.getElem?_eq_getElem (show j * 5 < C3.size by omega))
      have y1 := (cell_of_block hb3 (j * 5 + 1)).trans (Array.getElem?_eq_getElem (show j * 5 + 1 < C3.size by omega))
      have y2 := (cell_of_block hb3 (j * 5 + 2)).trans (Array.getElem?_eq_getElem (show j * 5 + 2 < C3.size by omega))
      have y3 := (cell_of_block hb3 (j * 5 + 3)).trans (Array.getElem?_eq_getElem (show j * 5 + 3 < C3.size by omega))
      have y4 := (cell_of_block hb3 (j * 5 + 4)).trans (Array.getElem?_eq_getElem (show j * 5 + 4 < C3.size by omega))
      have f0 := free_of_block hb3 (j * 5)
      have f1 := free_of_block hb3 (j * 5 + 1)
      have f2 := free_of_block hb3 (j * 5 + 2)
      have f3 := free_of_block hb3 (j * 5 + 3)
      have f4 := free_of_block hb3 (j * 5 + 4)
      have HR2 := Lib.hid (GoTo.step (x := ea + more) (y := eo) (z := ea) (u := eo) (t := en) HR1.out hlt rfl HGE.out rfl rfl rfl rfl rfl)
      have hBB := HB.out
      have HG2 := Lib.hid (grow_setCell (grow_setCell (grow_setCell (grow_setCell (grow_setCell HG1.out ⟨B, j * 5, none⟩ (.int .i64 (ea + more)) hBB) ⟨B, j * 5 + 1, none⟩ (.int .i64 eo) hBB) ⟨B, j * 5 + 2, none⟩ (.int .i64 ea) hBB) ⟨B, j * 5 + 3, none⟩ (.int .i64 eo) hBB) ⟨B, j * 5 + 4, none⟩ (.string en) hBB)
      generalize C3[j * 5]'_ = v0 at y0
      generalize C3[j * 5 + 1]'_ = v1 at y1
      generalize C3[j * 5 + 2]'_ = v2 at y2
      generalize C3[j * 5 + 3]'_ = v3 at y3
      generalize C3[j * 5 + 4]'_ = v4 at y4
      clear b0 hb3 hs3 hBB c1 c2 c3 HR1 HG1
      have hw : IntKind.i64.wrap (ea + more) = ea + more := IntWalk.i64_in _ (by omega)
      go_wp2_with fail
      go_roundw
      case rel => exact ⟨j + 1, by omega, by go_num, HR2, HG2⟩
      case measure => simp [intOf]; omega
    · obtain rfl : j = es.length := by omega
      go_wp2_with fail
      try go_ret
      rw [← HP.out]
      exact ⟨rfl, HR.out, HG.out⟩


/-- The pieces that a change replaces. -/
def goP (es : List Ed) (more : Int) : List Pce := es.map fun e => ⟨e.at_ + more, e.old, e⟩
theorem GoTo.pcs {W : World} {B n : Nat} {es : List Ed} {more : Int} (h : GoTo W B n es more es.length) : PcsAt W B (goP es more) := by
  obtain ⟨C, hb, hs, hc⟩ := h
  intro i hi
  have hi' : i < es.length := by simpa [goP] using hi
  obtain ⟨k1, k2, k3, k4, k5⟩ := hc i hi' hi'
  have e : (goP es more)[i] = ⟨es[i].at_ + more, es[i].old, es[i]⟩ := by simp [goP]
  rw [e]
  exact ⟨(cell_of_block hb _).trans k1, (cell_of_block hb _).trans k2, (cell_of_block hb _).trans k3, (cell_of_block hb _).trans k4, (cell_of_block hb _).trans k5⟩
end Go.Proofs.Ytajigndlcdiinaa
