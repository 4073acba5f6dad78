/- then: one flow after another one. -/
import Derived.Test.YtajigndlcdiinaaH1
namespace Go.Proofs.Ytajigndlcdiinaa
open Go.RowKit

def thenX (fl : List Let) (x : Let) : Let := if 0 ≤ x.1 then fl.getD x.1.toNat (0, 0) else x
def thenL (fl gl : List Let) : List Let := gl.map (thenX fl)
theorem thenL_take (fl gl : List Let) (j : Nat) (h : j < gl.length) : thenL fl (gl.take (j + 1)) = thenL fl (gl.take j) ++ [thenX fl gl[j]] := by
  unfold thenL; rw [List.take_succ_eq_append_getElem h, List.map_append]; rfl

def FlPost (n : Int) (l : List Let) (w : World) (e : Ending) (w' : World) : Prop :=
  ∃ lv, e = .returned (.agg #[.int .i64 n, lv]) ∧ w'.ownsRow w.heap.size 88 /-t:hedgelayer/hgref2.letter-/ 2 lv l.length (letCells l) ∧ w.grownBy w' none

/-- While the flow is made: the argument's box F0, the other one's F1, the result's R, the new one's F. -/
def ThRel (w : World) (n m : Int) (fv gv : Value) (l : List Let) (wr : World) : Prop :=
  ∃ v, wr.heap[w.heap.size]? = some (.cells #[.int .i64 n, fv] 85 /-t:hedgelayer/hgref2.flow-/ (0, 0)) ∧ wr.heap[w.heap.size + 1]? = some (.cells #[.int .i64 m, gv] 85 /-t:hedgelayer/hgref2.flow-/ (0, 0)) ∧
    wr.heap[w.heap.size + 1 + 1]? = some (.cells #[.int .i64 0, .slice none 0 0] 85 /-t:hedgelayer/hgref2.flow-/ (0, 0)) ∧ wr.heap[w.heap.size + 1 + 1 + 1]? = some (.cells #[.int .i64 n, v] 85 /-t:hedgelayer/hgref2.flow-/ (0, 0)) ∧
    wr.ownsRow (w.heap.size + 4) 88 /-t:hedgelayer/hgref2.letter-/ 2 v l.length (letCells l) ∧ w.grownBy wr none

theorem ThRel.push {w : World} {n m : Int} {fv gv : Value} {l : List Let} {wr w1 : World} {v v' : Value} {x : Let} {k : Nat} (hk : k = l.length + 1) (o1 o2 : Obj)
    (h0 : wr.heap[w.heap.size]? = some (.cells #[.int .i64 n, fv] 85 /-t:hedgelayer/hgref2.flow-/ (0, 0))) (h1 : wr.heap[w.heap.size + 1]? = some (.cells #[.int .i64 m, gv] 85 /-t:hedgelayer/hgref2.flow-/ (0, 0)))
    (h2 : wr.heap[w.heap.size + 1 + 1]? = some (.cells #[.int .i64 0, .slice none 0 0] 85 /-t:hedgelayer/hgref2.flow-/ (0, 0))) (h3 : wr.heap[w.heap.size + 1 + 1 + 1]? = some (.cells #[.int .i64 n, v] 85 /-t:hedgelayer/hgref2.flow-/ (0, 0)))
    (own : wr.ownsRow (w.heap.size + 4) 88 /-t:hedgelayer/hgref2.letter-/ 2 v l.length (letCells l)) (hg : w.grownBy wr none)
    (hown : w1.ownsRow (w.heap.size + 4) 88 /-t:hedgelayer/hgref2.letter-/ 2 v' k (letCells l ++ [.int .i64 x.1, .int .u8 x.2.toNat])) (g : ((wr.alloc o1).alloc o2).grownBy w1 v.ownBlock) :
    w1.heap[w.heap.size + 1 + 1 + 1]? = some (.cells #[.int .i64 n, v] 85 /-t:hedgelayer/hgref2.flow-/ (0, 0)) ∧ ThRel w n m fv gv (l ++ [x]) (w1.setCell ⟨w.heap.size + 1 + 1 + 1, 1, none⟩ v') := by
  subst hk
  have own' := (own.alloc o1).alloc o2
  have up : ∀ {b : Nat} {cs : Array Value}, wr.heap[b]? = some (.cells cs 85 /-t:hedgelayer/hgref2.flow-/ (0, 0)) → w1.heap[b]? = some (.cells cs 85 /-t:hedgelayer/hgref2.flow-/ (0, 0)) := fun {b cs} h =>
    grown_block own' g ((Below.heap_alloc _ _ _ (by have := lt_of_block h; simp; omega)).trans ((Below.heap_alloc _ _ _ (lt_of_block h)).trans h)) (by decide)
  have u3 := up h3
  refine ⟨u3, v', ?_, ?_, ?_, heap_setCell_self u3 1 v', ?_, ?_⟩
  · rw [Below.heap_setCell _ _ _ _ (by simp; omega)]; exact up h0
  · rw [Below.heap_setCell _ _ _ _ (by simp)]; exact up h1
  · rw [Below.heap_setCell _ _ _ _ (by simp)]; exact up h2
  · rw [letCells_snoc, List.length_append]
    exact ownsRow_setCell_block hown u3 (by decide) 1 v'
  · exact grow_setCell (grow_row (grow_alloc (grow_alloc hg o1) o2) g (fun k hk => by have := (ownsRow_block own k hk).1; omega)) _ _ (by simp; omega)

set_option maxHeartbeats 4000000 in
set_option maxRecDepth 100000 in
theorem then_any (n m : Int) (fv gv : Value) (b1 b2 : Nat) (fl gl : List Let) (w : World) (hl : gl.length ≤ 100000) (hl1 : fl.length ≤ 100000) (hI : ∀ x, x ∈ gl → x.1 < fl.length)
    (hf : w.ownsRow b1 88 /-t:hedgelayer/hgref2.letter-/ 2 fv fl.length (letCells fl)) (hgv : w.ownsRow b2 88 /-t:hedgelayer/hgref2.letter-/ 2 gv gl.length (letCells gl)) :
    Calls Try.prog 63 #[.agg #[.int .i64 n, fv], .agg #[.int .i64 m, gv]] w (FlPost n (thenL fl gl) w) := by
  obtain ⟨i0, hi, hz0, hz1, hz2⟩ := info_parts infoLet
  obtain ⟨fa, fc, rfl⟩ := ownsRow_slice hf
  obtain ⟨ga, gc, rfl⟩ := ownsRow_slice hgv
  go_enter Try.func63, Try.ntmps63
  go_wp2_with fail
  go_loopw [14] (fun i wr => ∃ j : Nat, j ≤ gl.length ∧ i = .int .i64 j ∧ ThRel w n m (.slice fa fl.length fc) (.slice ga gl.length gc) (thenL fl (gl.take j)) wr) (fun i _ => gl.length - (intOf i).toNat)
  case atStart =>
    refine ⟨0, Nat.zero_le _, rfl, .slice none 0 0, ?_, ?_, ?_, heap_new_at _ _ _ (by simp), World.ownsRow_nil _ _ _ _, grow_alloc (grow_alloc (grow_alloc (grow_alloc (grow_self w) _) _) _) _⟩
    · exact (Below.heap_alloc _ _ _ (by simp; try omega)).trans ((Below.heap_alloc _ _ _ (by simp; try omega)).trans ((Below.heap_alloc _ _ _ (by simp)).trans (heap_alloc_new w _)))
    · exact (Below.heap_alloc _ _ _ (by simp; try omega)).trans ((Below.heap_alloc _ _ _ (by simp)).trans (heap_new_at _ _ _ (by simp)))
    · exact (Below.heap_alloc _ _ _ (by simp)).trans (heap_new_at _ _ _ (by simp))
  case round =>
    obtain ⟨j, hj, rfl, v, h0, h1, h2, h3, own, hg⟩ := hrel
    by_cases hlt : j < gl.length
    · have hgr := ownsRow_frm (Frm.of_grown hg (fun _ _ => True)) hgv (fun _ _ _ _ => trivial)
      obtain ⟨g, cap2, hv, hgb, hc⟩ := ownsRow_cell hgr (by omega)
      simp only [Value.slice.injEq] at hv
      obtain ⟨rfl, _, rfl⟩ := hv
      have hc0 := hc _ _ (letCells_get gl j hlt).1
      have hc1 := hc _ _ (letCells_get gl j hlt).2
      have hx := hI _ (List.getElem_mem hlt)
      have HT := Lib.hid (thenL_take fl gl j hlt)
      have hlen : (thenL fl (gl.take j)).length ≤ 100000 := by simp [thenL]; omega
      have hs4 := hg.size
      have hb4 := lt_of_block h3
      clear hc hgr
      generalize gl[j] = x at hc0 hc1 hx HT
      obtain ⟨x1, x2⟩ := x
      simp only at hc0 hc1 hx HT
      have d3 : ∀ o, (wr.alloc o).cell? ⟨w.heap.size + 1 + 1 + 1, 1, none⟩ = some v := fun o => cell_of_block ((Below.heap_alloc wr o _ (lt_of_block h3)).trans h3) 1
      have d0 : ∀ o, (wr.alloc o).cell? ⟨w.heap.size, 1, none⟩ = some (.slice fa fl.length fc) := fun o => cell_of_block ((Below.heap_alloc wr o _ (lt_of_block h0)).trans h0) 1
      generalize thenL fl (gl.take j) = L at own hlen HT ⊢
      by_cases hp : 0 ≤ x1
      · have hxl : x1.toNat < fl.length := by omega
        have hfr := ownsRow_frm (Frm.of_grown hg (fun _ _ => True)) hf (fun _ _ _ _ => trivial)
        obtain ⟨gf, cap3, hv, hgb3, hcf⟩ := ownsRow_cell hfr (by omega)
        simp only [Value.slice.injEq] at hv
        obtain ⟨rfl, _, rfl⟩ := hv
        have k0 := hcf _ _ (letCells_get fl x1.toNat hxl).1
        have k1 := hcf _ _ (letCells_get fl x1.toNat hxl).2
        have HX := Lib.hid (show thenX fl (x1, x2) = fl[x1.toNat] by unfold thenX; rw [if_pos hp, List.getD_eq_getElem?_getD, List.getElem?_eq_getElem hxl]; rfl)
        clear hcf hfr
        generalize fl[x1.toNat] = y at k0 k1 HX
        obtain ⟨y1, y2⟩ := y
        simp only at k0 k1 HX
        have k0a : ∀ o, (wr.alloc o).cell? ⟨gf, x1.toNat * 2, none⟩ = some (.int .i64 y1) := fun o => World.grownBy.cell (World.grownBy_alloc wr o none) k0 (by simp)
        have k1a : ∀ o, (wr.alloc o).cell? ⟨gf, x1.toNat * 2 + 1, none⟩ = some (.int .u8 y2.toNat) := fun o => World.grownBy.cell (World.grownBy_alloc wr o none) k1 (by simp)
        clear k0 k1
        go_wp2_with (at_builtin; refine wpList_append_own _ rfl _ _ 83 /-t:[]hgref2.letter-/ rfl (w.heap.size + 4) 88 /-t:hedgelayer/hgref2.letter-/ i0 (.agg #[.int .i64 0, .int .u8 0]) 2 16 Try.underlying83 /-t:[]hgref2.letter-/ hi hz0 hz1 hz2 rfl (by decide) _ _ _ rfl ((own.alloc _).alloc _) ⟨wr.heap.size + 1, 0, none⟩ 1 1 [.int .i64 y1, .int .u8 y2.toNat] rfl rfl (cells_new2 _ _ _ _) (fun x hx => by simp at hx; rcases hx with rfl | rfl <;> rfl) (by unfold maxLen; omega) (by omega) (by simp; omega) ?_; intro v' w1 hown' hgrow _; obtain ⟨av2, cv2, rfl⟩ := ownsRow_slice hown'; have R := ThRel.push (x := (y1, y2)) rfl _ _ h0 h1 h2 h3 own hg hown' hgrow; have cF0 := cell_of_block R.1 0; have cF1 := cell_of_block R.1 1; have fF1 := free_of_block R.1 1; simp only [List.getElem?_toArray, List.getElem?_cons_zero, List.getElem?_cons_succ] at cF0 cF1; have HR := Lib.hid R.2; clear hown' hgrow R own hg h0 h1 h2 h3)
        go_roundw
        case rel => exact ⟨j + 1, by omega, by go_num, by rw [HT.out, HX.out]; exact HR.out⟩
        case measure => simp [intOf]; omega
      · have HX := Lib.hid (show thenX fl (x1, x2) = (x1, x2) from if_neg hp)
        go_wp2_with (at_builtin; refine wpList_append_own _ rfl _ _ 83 /-t:[]hgref2.letter-/ rfl (w.heap.size + 4) 88 /-t:hedgelayer/hgref2.letter-/ i0 (.agg #[.int .i64 0, .int .u8 0]) 2 16 Try.underlying83 /-t:[]hgref2.letter-/ hi hz0 hz1 hz2 rfl (by decide) _ _ _ rfl ((own.alloc _).alloc _) ⟨wr.heap.size + 1, 0, none⟩ 1 1 [.int .i64 x1, .int .u8 x2.toNat] rfl rfl (cells_new2 _ _ _ _) (fun x hx => by simp at hx; rcases hx with rfl | rfl <;> rfl) (by unfold maxLen; omega) (by omega) (by simp; omega) ?_; intro v' w1 hown' hgrow _; obtain ⟨av2, cv2, rfl⟩ := ownsRow_slice hown'; have R := ThRel.push (x := (x1, x2)) rfl _ _ h0 h1 h2 h3 own hg hown' hgrow; have cF0 := cell_of_block R.1 0; have cF1 := cell_of_block R.1 1; have fF1 := free_of_block R.1 1; simp only [List.getElem?_toArray, List.getElem?_cons_zero, List.getElem?_cons_succ] at cF0 cF1; have HR := Lib.hid R.2; clear hown' hgrow R own hg h0 h1 h2 h3)
        go_roundw
        case rel => exact ⟨j + 1, by omega, by go_num, by rw [HT.out, HX.out]; exact HR.out⟩
        case measure => simp [intOf]; omega
    · obtain rfl : j = gl.length := by omega
      rw [List.take_length] at own
      have HO := Lib.hid own
      obtain ⟨av2, cv2, rfl⟩ := ownsRow_slice own
      have hs4 := hg.size
      have c30 := cell_of_block h3 0
      have c31 := cell_of_block h3 1
      have c20 := cell_of_block h2 0
      have c21 := cell_of_block h2 1
      have f20 := free_of_block h2 0
      have f21 := free_of_block h2 1
      simp only [List.getElem?_toArray, List.getElem?_cons_zero, List.getElem?_cons_succ] at c30 c31 c20 c21
      have o1 := ownsRow_setCell_block own h2 (by decide) 0 (.int .i64 n)
      have o2 := Lib.hid (ownsRow_setCell_block o1 (heap_setCell_self h2 0 (.int .i64 n)) (by decide) 1 (.slice av2 (thenL fl gl).length cv2))
      have hg2 := Lib.hid (grow_setCell (grow_setCell hg ⟨w.heap.size + 1 + 1, 0, none⟩ (.int .i64 n) (by simp; omega)) ⟨w.heap.size + 1 + 1, 1, none⟩ (.slice av2 (thenL fl gl).length cv2) (by simp; omega))
      clear own o1 hg h0 h1 h2 h3 HO
      obtain ⟨L, hL⟩ : ∃ L, L = thenL fl gl := ⟨_, rfl⟩
      rw [← hL] at o2 hg2 c31
      have HL := Lib.hid hL
      clear hL
      go_wp2_with fail
      refine bodyPost_ret (v := .agg #[.int .i64 n, .slice av2 L.length cv2]) (by simp [results, Try.results63, go_sem, c20, c21]) rfl ⟨_, rfl, ?_, hg2.out⟩
      rw [← HL.out]
      exact ownsRow_base o2.out (by omega)
end Go.Proofs.Ytajigndlcdiinaa
