/- Package edit: comings, sideOf. -/
import Derived.Test.YtajigndlcdiinaaDA2
import Derived.Test.YtajigndlcdiinaaDQ1
import Derived.Laws.MakeOwn
import Derived.Deep.DeepCutAuto
namespace Go.Proofs.Ytajigndlcdiinaa
open Go.RowKit

theorem infoPc : (Try.prog.info? 76).map (fun i => (i.zero, i.size, i.bytes)) = some (some (.agg #[.int .i64 0, .int .i64 0, .int .i64 0, .int .i64 0, .string ⟨#[]⟩]), 5, 48) := by kernel_rfl
theorem mkPcs (n : Nat) (hn : n ≤ 1000000) (w : World) : ∃ C : Array Value, C.size = n * 5 ∧ (Instr.makeSlice 73 (.int .i64 n) (.int .i64 n)).run Try.prog w = .ok (.slice (some ⟨w.heap.size, 0, none⟩) n n) (w.alloc (.cells C 76)) := by
  obtain ⟨i, hi, z0, z1, z2⟩ := info_parts infoPc
  have := run_make (P := Try.prog) w 73 76 i (.agg #[.int .i64 0, .int .i64 0, .int .i64 0, .int .i64 0, .string ⟨#[]⟩]) Try.underlying73 hi z0 .i64 .i64 n n (by omega) (Int.le_refl _) (by rw [z2]; omega) (by omega)
  rw [z1] at this
  exact ⟨_, size_madeCells _ _, by simpa using this⟩

theorem set_get_ne (C : Array Value) (i k : Nat) (v : Value) (h : i ≠ k) : (C.setIfInBounds i v)[k]? = C[k]? := by
  simp [h]
theorem set_get_self (C : Array Value) (i : Nat) (v : Value) (h : i < C.size) : (C.setIfInBounds i v)[i]? = some v := by
  simp [h]

/-- How much further the text behind the first j edits lies. -/
def shTo (es : List Ed) : Nat → Int
  | 0 => 0
  | j + 1 => match es[j]? with
    | none => shTo es j
    | some e => shTo es j + (e.new.size - e.old)
theorem shTo_succ (es : List Ed) (j : Nat) (h : j < es.length) : shTo es (j + 1) = shTo es j + (es[j].new.size - es[j].old) := by
  rw [shTo, List.getElem?_eq_getElem h]
theorem shTo_bd (es : List Ed) (hS : ∀ e, e ∈ es → 0 ≤ e.at_ ∧ e.at_ ≤ 20000 ∧ 0 ≤ e.old ∧ e.old ≤ 20000 ∧ e.new.size ≤ 40000) : ∀ j, j ≤ es.length → -20000 * (j : Int) ≤ shTo es j ∧ shTo es j ≤ 40000 * (j : Int)
  | 0, _ => by simp [shTo]
  | j + 1, h => by
    obtain ⟨h1, h2⟩ := shTo_bd es hS j (by omega)
    have := hS _ (List.getElem_mem (show j < es.length by omega))
    rw [shTo_succ _ _ (by omega)]
    omega

/-- The first j pieces of a change's new text lie in block B. -/
def PcTo (W : World) (B n : Nat) (es : List Ed) (j : Nat) : Prop :=
  ∃ C : Array Value, W.heap[B]? = some (.cells C 76 (0, 0)) ∧ C.size = n * 5 ∧ ∀ i (h : i < es.length), i < j →
    C[i * 5]? = some (.int .i64 (es[i].at_ + shTo es i)) ∧ C[i * 5 + 1]? = some (.int .i64 es[i].new.size) ∧ C[i * 5 + 2]? = some (.int .i64 es[i].at_) ∧ C[i * 5 + 3]? = some (.int .i64 es[i].old) ∧ C[i * 5 + 4]? = some (.string es[i].new)

theorem PcTo.step {W : World} {B n j : Nat} {es : List Ed} (h : PcTo W B n es j) (hj : j < n) (hn : n = es.length) {e : Ed} (he : es[j]? = some e) {x y z u : Int} {t : ByteArray} (hx : x = e.at_ + shTo es j) (hy : y = e.new.size) (hz : z = e.at_) (hu : u = e.old) (ht : t = e.new) :
    PcTo (((((W.setCell ⟨B, j * 5, none⟩ (.int .i64 x)).setCell ⟨B, j * 5 + 1, none⟩ (.int .i64 y)).setCell ⟨B, j * 5 + 2, none⟩ (.int .i64 z)).setCell ⟨B, j * 5 + 3, none⟩ (.int .i64 u)).setCell ⟨B, j * 5 + 4, none⟩ (.string t)) B n es (j + 1) := by
  obtain ⟨C, hb, hs, hc⟩ := h
  have hel : es[j]'(by omega) = e := by rw [List.getElem?_eq_getElem (by omega)] at he; exact Option.some.inj he
  refine ⟨_, heap_setCell_self (heap_setCell_self (heap_setCell_self (heap_setCell_self (heap_setCell_self hb (j * 5) (.int .i64 x)) (j * 5 + 1) (.int .i64 y)) (j * 5 + 2) (.int .i64 z)) (j * 5 + 3) (.int .i64 u)) (j * 5 + 4) (.string t), by simp [hs], fun i hi hij => ?_⟩
  by_cases ei : i = j
  · subst ei
    rw [hel]
    subst hx hy hz hu ht
    refine ⟨?_, ?_, ?_, ?_, ?_⟩
    · rw [set_get_ne _ _ _ _ (by omega), set_get_ne _ _ _ _ (by omega), set_get_ne _ _ _ _ (by omega), set_get_ne _ _ _ _ (by omega), set_get_self _ _ _ (by first | omega | (simp; omega))]
    · rw [set_get_ne _ _ _ _ (by omega), set_get_ne _ _ _ _ (by omega), set_get_ne _ _ _ _ (by omega), set_get_self _ _ _ (by first | omega | (simp; omega))]
    · rw [set_get_ne _ _ _ _ (by omega), set_get_ne _ _ _ _ (by omega), set_get_self _ _ _ (by first | omega | (simp; omega))]
    · rw [set_get_ne _ _ _ _ (by omega), set_get_self _ _ _ (by first | omega | (simp; omega))]
    · exact set_get_self _ _ _ (by first | omega | (simp; omega))
  · obtain ⟨k1, k2, k3, k4, k5⟩ := hc i hi (by omega)
    refine ⟨?_, ?_, ?_, ?_, ?_⟩
    all_goals rw [set_get_ne _ _ _ _ (by omega), set_get_ne _ _ _ _ (by omega), set_get_ne _ _ _ _ (by omega), set_get_ne _ _ _ _ (by omega), set_get_ne _ _ _ _ (by omega)]; assumption

theorem PcTo.kept {W W' : World} {B n j : Nat} {es : List Ed} (h : PcTo W B n es j) (g : W.grownBy W' none) : PcTo W' B n es j := by
  obtain ⟨C, hb, r⟩ := h
  exact ⟨C, (g.block _ (lt_of_block hb) (by simp)).trans hb, r⟩

def ComPost (es : List Ed) (w : World) (e : Ending) (w' : World) : Prop :=
  e = .returned (.slice (some ⟨w.heap.size, 0, none⟩) es.length es.length) ∧ PcTo w' w.heap.size es.length es es.length ∧ w.grownBy w' none

set_option maxHeartbeats 4000000 in
set_option maxRecDepth 100000 in
theorem comings_any (a : Option Addr) (cap : Nat) (es : List Ed) (w : World) (hl : es.length ≤ 2000) (hE : Eds w a es) (hS : ∀ e, e ∈ es → 0 ≤ e.at_ ∧ e.at_ ≤ 20000 ∧ 0 ≤ e.old ∧ e.old ≤ 20000 ∧ e.new.size ≤ 40000) :
    Calls Try.prog 51 #[.slice a es.length cap] w (ComPost es w) := by
  obtain ⟨P, hP⟩ : ∃ P, ComPost es w = P := ⟨_, rfl⟩
  rw [hP]
  unfold ComPost at hP
  have HP := Lib.hid hP
  have HE := Lib.hid hE
  have HBD := Lib.hid (shTo_bd es hS)
  clear hP hE
  obtain ⟨C, hC, hmk⟩ := mkPcs es.length (by omega) w
  have HC := Lib.hid hC
  clear hC
  go_enter Try.func51, Try.ntmps51
  go_wp2_with fail
  have r0 : Hid (PcTo (w.alloc (.cells C 76)) w.heap.size es.length es 0) := Lib.hid ⟨C, heap_alloc_new _ _, HC.out, fun i _ hi => by omega⟩
  have G0 := Lib.hid (World.grownBy_alloc w (.cells C 76) none)
  obtain ⟨B, hB⟩ : ∃ B, B = w.heap.size := ⟨_, rfl⟩
  rw [← hB] at r0 HP ⊢
  have HB := Lib.hid (show w.heap.size ≤ B by omega)
  generalize w.alloc (.cells C 76) = w1 at r0 G0 ⊢
  clear hB hmk HC
  go_loopw [4, 5, 12] (fun shv iv i wr => ∃ (j : Nat) (sh : Int), j ≤ es.length ∧ i = .int .i64 j ∧ shv = .int .i64 sh ∧ Hid (shTo es j = sh) ∧ Hid (PcTo wr B es.length es j) ∧ Hid (w.grownBy wr none)) (fun _ _ i _ => es.length - (intOf i).toNat)
  case atStart => exact ⟨0, 0, Nat.zero_le _, rfl, rfl, Lib.hid rfl, r0, G0⟩
  case round =>
    obtain ⟨j, sh, hj, rfl, rfl, HSH, HR, HG⟩ := hrel
    by_cases hlt : j < es.length
    · obtain ⟨g, off, rfl, c1, c2, c3⟩ := HE.out j hlt
      replace c1 := HG.out.cell c1 (by simp)
      replace c2 := HG.out.cell c2 (by simp)
      replace c3 := HG.out.cell c3 (by simp)
      have hs := hS _ (List.getElem_mem hlt)
      have hbd := HBD.out j hj
      rw [HSH.out] at hbd
      have HS2 := Lib.hid (shTo_succ es j hlt)
      have HGE := Lib.hid (List.getElem?_eq_getElem hlt)
      rw [HSH.out] at HS2
      generalize es[j] = e at c1 c2 c3 hs HS2 HGE
      obtain ⟨ea, eo, en⟩ := e
      simp only at c1 c2 c3 hs HS2
      have b0 := heap_alloc_new wr (.cells #[.int .i64 ea, .int .i64 eo, .string en] 47)
      have HG1 := Lib.hid (grow_alloc HG.out (.cells #[.int .i64 ea, .int .i64 eo, .string en] 47))
      have HR1 := Lib.hid (HR.out.kept (World.grownBy_alloc wr (.cells #[.int .i64 ea, .int .i64 eo, .string en] 47) none))
      have hwne : wr.heap.size ≠ B := by
        obtain ⟨C, hb, _⟩ := HR.out
        have := lt_of_block hb; omega
      go_upto_region 6 with (fail)
      generalize wr.alloc _ = w3 at b0 HG1 HR1 ⊢
      generalize wr.heap.size = M at b0 hwne ⊢
      have x0 := cell_of_block b0 0
      have x1 := cell_of_block b0 1
      have x2 := cell_of_block b0 2
      simp only [List.getElem?_toArray, List.getElem?_cons_zero, List.getElem?_cons_succ] at x0 x1 x2
      obtain ⟨C3, hb3, hs3, _⟩ := HR1.out
      have y0 := (cell_of_block hb3 (j * 5)).trans (Array.getElem?_eq_getElem (show j * 5 < C3.size by omega))
      have y1 := (cell_of_block hb3 (j * 5 + 1)).trans (Array.getElem?_eq_getElem (show j * 5 + 1 < C3.size by omega))
      have y2 := (cell_of_block hb3 (j * 5 + 2)).trans (Array.getElem?_eq_getElem (show j * 5 + 2 < C3.size by omega))
      have y3 := (cell_of_block hb3 (j * 5 + 3)).trans (Array.getElem?_eq_getElem (show j * 5 + 3 < C3.size by omega))
      have y4 := (cell_of_block hb3 (j * 5 + 4)).trans (Array.getElem?_eq_getElem (show j * 5 + 4 < C3.size by omega))
      have f0 := free_of_block hb3 (j * 5)
      have f1 := free_of_block hb3 (j * 5 + 1)
      have f2 := free_of_block hb3 (j * 5 + 2)
      have f3 := free_of_block hb3 (j * 5 + 3)
      have f4 := free_of_block hb3 (j * 5 + 4)
      have HR2 := Lib.hid (PcTo.step (x := ea + sh) (y := en.size) (z := ea) (u := eo) (t := en) HR1.out hlt rfl HGE.out (by rw [HSH.out]) rfl rfl rfl rfl)
      have hBB := HB.out
      have HG2 := Lib.hid (grow_setCell (grow_setCell (grow_setCell (grow_setCell (grow_setCell HG1.out ⟨B, j * 5, none⟩ (.int .i64 (ea + sh)) hBB) ⟨B, j * 5 + 1, none⟩ (.int .i64 en.size) hBB) ⟨B, j * 5 + 2, none⟩ (.int .i64 ea) hBB) ⟨B, j * 5 + 3, none⟩ (.int .i64 eo) hBB) ⟨B, j * 5 + 4, none⟩ (.string en) hBB)
      generalize C3[j * 5]'_ = v0 at y0
      generalize C3[j * 5 + 1]'_ = v1 at y1
      generalize C3[j * 5 + 2]'_ = v2 at y2
      generalize C3[j * 5 + 3]'_ = v3 at y3
      generalize C3[j * 5 + 4]'_ = v4 at y4
      clear b0 hb3 hs3 hBB c1 c2 c3 HR1 HG1
      go_wp2_with (go_at_call 78; refine (growth_any _ _ _ _ (by omega) (by omega)).mono ?_; rintro e' w4 ⟨rfl, rfl⟩)
      have HR3 := Lib.hid (HR2.out.kept (World.grownBy_alloc _ (.cells #[.int .i64 ea, .int .i64 eo, .string en] 47) none))
      have HG3 := Lib.hid (grow_alloc HG2.out (.cells #[.int .i64 ea, .int .i64 eo, .string en] 47))
      go_roundw
      case rel => exact ⟨j + 1, _, by omega, by go_num, rfl, HS2, HR3, HG3⟩
      case measure => simp [intOf]; omega
    · obtain rfl : j = es.length := by omega
      go_wp2_with fail
      try go_ret
      rw [← HP.out]
      exact ⟨rfl, HR.out, HG.out⟩

theorem sideOf_any (x y z u : Int) (t : ByteArray) (behind : Bool) (v : Int) (w : World) (hx : -1000000000000 ≤ x ∧ x ≤ 1000000000000) (hy : -1000000000000 ≤ y ∧ y ≤ 1000000000000) (hv : (if behind then x + y else x) = v) :
    Calls Try.prog 75 #[.agg #[.int .i64 x, .int .i64 y, .int .i64 z, .int .i64 u, .string t], .bool behind] w fun e w' => e = .returned (.int .i64 v) ∧ w.alloc (.cells #[.int .i64 x, .int .i64 y, .int .i64 z, .int .i64 u, .string t] 76) = w' := by
  subst hv
  cases behind
  all_goals
    go_enter Try.func75, Try.ntmps75
    go_wp2_with fail
    go_ret
    exact ⟨rfl, rfl⟩
end Go.Proofs.Ytajigndlcdiinaa
