/- LengthOf, OriginOf. then: one flow after another one. ThenOf; slices.Equal of edits. FoldOf. InverseOf: where an old byte stands in a flow. InverseOf. -/
import Derived.Test.YtajigndlcdiinaaDG2
namespace Go.Proofs.Ytajigndlcdiinaa
open Go.RowKit

theorem flowPost_len {n : Int} {es : List Ed} {w : World} {e : Ending} {w' : World} (h : FlowPost n es w e w') :
    ∃ lv, e = .returned (.agg #[.int .i64 n, lv]) ∧ w'.ownsRow (w.heap.size + 3) 88 /-t:hedgelayer/hgref2.letter-/ 2 lv (flowL es n).length (letCells (flowL es n)) ∧ w.grownBy w' none := h

set_option maxHeartbeats 1000000 in
set_option maxRecDepth 100000 in
theorem lengthOf_any (n : Int) (a : Option Addr) (cap : Nat) (es : List Ed) (w : World) (h : changeFault n es = 0) (hE : Eds w a es) :
    Calls Try.prog 20 #[.int .i64 n, .slice a es.length cap] w fun e w' => e = .returned (.int .i64 ((flowL es n).length : Int)) ∧ w.grownBy w' none := by
  obtain ⟨h1, h2, h3, h4, h5, h6⟩ := right_all h
  go_enter Try.func20, Try.ntmps20
  go_wp2_with fail
  refine (flowOf_any n a cap es w h2 h1 hE h3 h4).mono ?_
  rintro e w1 hp
  obtain ⟨lv, rfl, own, g⟩ := flowPost_len hp
  clear hp h3 h4 h5
  obtain ⟨ls, hls⟩ : ∃ ls, ls = flowL es n := ⟨_, rfl⟩
  rw [← hls] at own h6
  have HLS := Lib.hid hls
  clear hls
  obtain ⟨av, cv, rfl⟩ := ownsRow_slice own
  go_wp2_with fail
  rw [field_flow]
  simp only [Result.andThen]
  rw [Oper.upon_value]
  go_wp2_with fail
  go_ret
  rw [← HLS.out]
  exact ⟨rfl, g⟩

theorem infoInt : (Try.prog.info? 3 /-t:int-/).map (fun i => (i.zero, i.size, i.bytes)) = some (some (.int .i64 0), 1, 8) := by kernel_rfl
def intCells (l : List Int) : List Value := l.map (Value.int .i64)

theorem intCells_take (ls : List Let) (j : Nat) (h : j < ls.length) : intCells ((ls.take (j + 1)).map (·.1)) = intCells ((ls.take j).map (·.1)) ++ [.int .i64 ls[j].1] := by
  unfold intCells; rw [List.take_succ_eq_append_getElem h, List.map_append, List.map_append]; rfl

def IntsPost (l : List Int) (w : World) (e : Ending) (w' : World) : Prop :=
  ∃ v, e = .returned v ∧ w'.ownsRow w.heap.size 3 /-t:int-/ 1 v l.length (intCells l) ∧ w.grownBy w' none

set_option maxHeartbeats 4000000 in
set_option maxRecDepth 100000 in
theorem originOf_any (n : Int) (a : Option Addr) (cap : Nat) (es : List Ed) (w : World) (h : changeFault n es = 0) (hE : Eds w a es) :
    Calls Try.prog 17 #[.int .i64 n, .slice a es.length cap] w (IntsPost ((flowL es n).map (·.1)) w) := by
  obtain ⟨h1, h2, h3, h4, h5, h6⟩ := right_all h
  obtain ⟨i0, hi, hz0, hz1, hz2⟩ := info_parts infoInt
  go_enter Try.func17, Try.ntmps17
  go_wp2_with fail
  refine (flowOf_any n a cap es w h2 h1 hE h3 h4).mono ?_
  rintro e w1 hp
  obtain ⟨lv, rfl, own, g⟩ := flowPost_len hp
  obtain ⟨ls, hls⟩ : ∃ ls, ls = flowL es n := ⟨_, rfl⟩
  rw [← hls] at own h6
  have HLS := Lib.hid hls
  clear hp h3 h4 h5 hls hE
  obtain ⟨av, cv, rfl⟩ := ownsRow_slice own
  go_wp2_with fail
  rw [field_flow]
  simp only [Result.andThen]
  rw [Oper.upon_value]
  go_wp2_with fail
  go_loopw [5, 13] (fun v i wr => ∃ j : Nat, j ≤ ls.length ∧ i = .int .i64 j ∧ wr.ownsRow w.heap.size 3 /-t:int-/ 1 v j (intCells ((ls.take j).map (·.1))) ∧ wr.ownsRow (w.heap.size + 3) 88 /-t:hedgelayer/hgref2.letter-/ 2 (.slice av ls.length cv) ls.length (letCells ls) ∧ w.grownBy wr none) (fun _ i _ => ls.length - (intOf i).toNat)
  case atStart => exact ⟨0, Nat.zero_le _, rfl, World.ownsRow_nil _ _ _ _, own, g⟩
  case round =>
    clear own g
    obtain ⟨j, hj, rfl, ownv, own, hg⟩ := hrel
    by_cases hlt : j < ls.length
    · obtain ⟨g, cap2, hv, hgb, hc⟩ := ownsRow_cell own (by omega)
      simp only [Value.slice.injEq] at hv
      obtain ⟨rfl, _, rfl⟩ := hv
      have hc0 := hc _ _ (letCells_get ls j hlt).1
      have hc1 := hc _ _ (letCells_get ls j hlt).2
      have HT := Lib.hid (show intCells ((ls.take (j + 1)).map (·.1)) = intCells ((ls.take j).map (·.1)) ++ [.int .i64 ls[j].1] from intCells_take ls j hlt)
      clear hc
      generalize ls[j] = x at hc0 hc1 HT
      obtain ⟨x1, x2⟩ := x
      simp only at hc0 hc1 HT
      have hsz := hg.size
      go_wp2_with (at_builtin; refine wpList_append_own _ rfl _ _ 22 /-t:[]int-/ rfl w.heap.size 3 /-t:int-/ i0 (.int .i64 0) 1 8 Try.underlying22 /-t:[]int-/ hi hz0 hz1 hz2 rfl (by decide) _ _ _ rfl ((ownv.alloc _).alloc _) ⟨wr.heap.size + 1, 0, none⟩ 1 1 [.int .i64 x1] rfl rfl (cells_new2 _ _ _ _) (fun x hx => by simp at hx; subst hx; rfl) (by unfold maxLen; omega) (by omega) (by simp; omega) ?_; intro v' w2 hown' hgrow _; have hg2 := grow_row (grow_alloc (grow_alloc hg (.cells #[.int .i64 x1, .int .u8 x2.toNat] 88 /-t:hedgelayer/hgref2.letter-/)) _) hgrow (fun k hk => (ownsRow_block ownv k hk).1); have own2 := append_own (by decide) ((ownv.alloc (.cells #[.int .i64 x1, .int .u8 x2.toNat] 88 /-t:hedgelayer/hgref2.letter-/)).alloc _) hgrow ((own.alloc _).alloc _); have HO := Lib.hid hown'; clear hown' hgrow own ownv hg)
      go_roundw
      case rel => exact ⟨j + 1, by omega, by go_num, by rw [HT.out]; exact HO.out, own2, hg2⟩
      case measure => simp [intOf]; omega
    · obtain rfl : j = ls.length := by omega
      have HO := Lib.hid ownv
      clear ownv own
      go_wp2_with fail
      go_ret
      refine ⟨_, rfl, ?_, hg⟩
      rw [← HLS.out]
      have := HO.out
      rw [List.take_length] at this
      simpa using this
end Go.Proofs.Ytajigndlcdiinaa
namespace Go.Proofs.Ytajigndlcdiinaa
open Go.RowKit

def thenX (fl : List Let) (x : Let) : Let := if 0 ≤ x.1 then fl.getD x.1.toNat (0, 0) else x
def thenL (fl gl : List Let) : List Let := gl.map (thenX fl)
theorem thenL_take (fl gl : List Let) (j : Nat) (h : j < gl.length) : thenL fl (gl.take (j + 1)) = thenL fl (gl.take j) ++ [thenX fl gl[j]] := by
  unfold thenL; rw [List.take_succ_eq_append_getElem h, List.map_append]; rfl

def FlPost (n : Int) (l : List Let) (w : World) (e : Ending) (w' : World) : Prop :=
  ∃ lv, e = .returned (.agg #[.int .i64 n, lv]) ∧ w'.ownsRow w.heap.size 88 /-t:hedgelayer/hgref2.letter-/ 2 lv l.length (letCells l) ∧ w.grownBy w' none

/-- While the flow is made: the argument's box F0, the other one's F1, the result's R, the new one's F. -/
def ThRel (w : World) (n m : Int) (fv gv : Value) (l : List Let) (wr : World) : Prop :=
  ∃ v, wr.heap[w.heap.size]? = some (.cells #[.int .i64 n, fv] 85 /-t:hedgelayer/hgref2.flow-/ (0, 0)) ∧ wr.heap[w.heap.size + 1]? = some (.cells #[.int .i64 m, gv] 85 /-t:hedgelayer/hgref2.flow-/ (0, 0)) ∧
    wr.heap[w.heap.size + 1 + 1]? = some (.cells #[.int .i64 0, .slice none 0 0] 85 /-t:hedgelayer/hgref2.flow-/ (0, 0)) ∧ wr.heap[w.heap.size + 1 + 1 + 1]? = some (.cells #[.int .i64 n, v] 85 /-t:hedgelayer/hgref2.flow-/ (0, 0)) ∧
    wr.ownsRow (w.heap.size + 4) 88 /-t:hedgelayer/hgref2.letter-/ 2 v l.length (letCells l) ∧ w.grownBy wr none

theorem ThRel.push {w : World} {n m : Int} {fv gv : Value} {l : List Let} {wr w1 : World} {v v' : Value} {x : Let} {k : Nat} (hk : k = l.length + 1) (o1 o2 : Obj)
    (h0 : wr.heap[w.heap.size]? = some (.cells #[.int .i64 n, fv] 85 /-t:hedgelayer/hgref2.flow-/ (0, 0))) (h1 : wr.heap[w.heap.size + 1]? = some (.cells #[.int .i64 m, gv] 85 /-t:hedgelayer/hgref2.flow-/ (0, 0)))
    (h2 : wr.heap[w.heap.size + 1 + 1]? = some (.cells #[.int .i64 0, .slice none 0 0] 85 /-t:hedgelayer/hgref2.flow-/ (0, 0))) (h3 : wr.heap[w.heap.size + 1 + 1 + 1]? = some (.cells #[.int .i64 n, v] 85 /-t:hedgelayer/hgref2.flow-/ (0, 0)))
    (own : wr.ownsRow (w.heap.size + 4) 88 /-t:hedgelayer/hgref2.letter-/ 2 v l.length (letCells l)) (hg : w.grownBy wr none)
    (hown : w1.ownsRow (w.heap.size + 4) 88 /-t:hedgelayer/hgref2.letter-/ 2 v' k (letCells l ++ [.int .i64 x.1, .int .u8 x.2.toNat])) (g : ((wr.alloc o1).alloc o2).grownBy w1 v.ownBlock) :
    w1.heap[w.heap.size + 1 + 1 + 1]? = some (.cells #[.int .i64 n, v] 85 /-t:hedgelayer/hgref2.flow-/ (0, 0)) ∧ ThRel w n m fv gv (l ++ [x]) (w1.setCell ⟨w.heap.size + 1 + 1 + 1, 1, none⟩ v') := by
  subst hk
  have own' := (own.alloc o1).alloc o2
  have up : ∀ {b : Nat} {cs : Array Value}, wr.heap[b]? = some (.cells cs 85 /-t:hedgelayer/hgref2.flow-/ (0, 0)) → w1.heap[b]? = some (.cells cs 85 /-t:hedgelayer/hgref2.flow-/ (0, 0)) := fun {b cs} h =>
    grown_block own' g ((Below.heap_alloc _ _ _ (by have := lt_of_block h; simp; omega)).trans ((Below.heap_alloc _ _ _ (lt_of_block h)).trans h)) (by decide)
  have u3 := up h3
  refine ⟨u3, v', ?_, ?_, ?_, heap_setCell_self u3 1 v', ?_, ?_⟩
  · rw [Below.heap_setCell _ _ _ _ (by simp; omega)]; exact up h0
  · rw [Below.heap_setCell _ _ _ _ (by simp)]; exact up h1
  · rw [Below.heap_setCell _ _ _ _ (by simp)]; exact up h2
  · rw [letCells_snoc, List.length_append]
    exact ownsRow_setCell_block hown u3 (by decide) 1 v'
  · exact grow_setCell (grow_row (grow_alloc (grow_alloc hg o1) o2) g (fun k hk => by have := (ownsRow_block own k hk).1; omega)) _ _ (by simp; omega)

set_option maxHeartbeats 4000000 in
set_option maxRecDepth 100000 in
theorem then_any (n m : Int) (fv gv : Value) (b1 b2 : Nat) (fl gl : List Let) (w : World) (hl : gl.length ≤ 100000) (hl1 : fl.length ≤ 100000) (hI : ∀ x, x ∈ gl → x.1 < fl.length)
    (hf : w.ownsRow b1 88 /-t:hedgelayer/hgref2.letter-/ 2 fv fl.length (letCells fl)) (hgv : w.ownsRow b2 88 /-t:hedgelayer/hgref2.letter-/ 2 gv gl.length (letCells gl)) :
    Calls Try.prog 63 #[.agg #[.int .i64 n, fv], .agg #[.int .i64 m, gv]] w (FlPost n (thenL fl gl) w) := by
  obtain ⟨i0, hi, hz0, hz1, hz2⟩ := info_parts infoLet
  obtain ⟨fa, fc, rfl⟩ := ownsRow_slice hf
  obtain ⟨ga, gc, rfl⟩ := ownsRow_slice hgv
  go_enter Try.func63, Try.ntmps63
  go_wp2_with fail
  go_loopw [14] (fun i wr => ∃ j : Nat, j ≤ gl.length ∧ i = .int .i64 j ∧ ThRel w n m (.slice fa fl.length fc) (.slice ga gl.length gc) (thenL fl (gl.take j)) wr) (fun i _ => gl.length - (intOf i).toNat)
  case atStart =>
    refine ⟨0, Nat.zero_le _, rfl, .slice none 0 0, ?_, ?_, ?_, heap_new_at _ _ _ (by simp), World.ownsRow_nil _ _ _ _, grow_alloc (grow_alloc (grow_alloc (grow_alloc (grow_self w) _) _) _) _⟩
    · exact (Below.heap_alloc _ _ _ (by simp; try omega)).trans ((Below.heap_alloc _ _ _ (by simp; try omega)).trans ((Below.heap_alloc _ _ _ (by simp)).trans (heap_alloc_new w _)))
    · exact (Below.heap_alloc _ _ _ (by simp; try omega)).trans ((Below.heap_alloc _ _ _ (by simp)).trans (heap_new_at _ _ _ (by simp)))
    · exact (Below.heap_alloc _ _ _ (by simp)).trans (heap_new_at _ _ _ (by simp))
  case round =>
    obtain ⟨j, hj, rfl, v, h0, h1, h2, h3, own, hg⟩ := hrel
    by_cases hlt : j < gl.length
    · have hgr := ownsRow_frm (Frm.of_grown hg (fun _ _ => True)) hgv (fun _ _ _ _ => trivial)
      obtain ⟨g, cap2, hv, hgb, hc⟩ := ownsRow_cell hgr (by omega)
      simp only [Value.slice.injEq] at hv
      obtain ⟨rfl, _, rfl⟩ := hv
      have hc0 := hc _ _ (letCells_get gl j hlt).1
      have hc1 := hc _ _ (letCells_get gl j hlt).2
      have hx := hI _ (List.getElem_mem hlt)
      have HT := Lib.hid (thenL_take fl gl j hlt)
      have hlen : (thenL fl (gl.take j)).length ≤ 100000 := by simp [thenL]; omega
      have hs4 := hg.size
      have hb4 := lt_of_block h3
      clear hc hgr
      generalize gl[j] = x at hc0 hc1 hx HT
      obtain ⟨x1, x2⟩ := x
      simp only at hc0 hc1 hx HT
      have d3 : ∀ o, (wr.alloc o).cell? ⟨w.heap.size + 1 + 1 + 1, 1, none⟩ = some v := fun o => cell_of_block ((Below.heap_alloc wr o _ (lt_of_block h3)).trans h3) 1
      have d0 : ∀ o, (wr.alloc o).cell? ⟨w.heap.size, 1, none⟩ = some (.slice fa fl.length fc) := fun o => cell_of_block ((Below.heap_alloc wr o _ (lt_of_block h0)).trans h0) 1
      generalize thenL fl (gl.take j) = L at own hlen HT ⊢
      by_cases hp : 0 ≤ x1
      · have hxl : x1.toNat < fl.length := by omega
        have hfr := ownsRow_frm (Frm.of_grown hg (fun _ _ => True)) hf (fun _ _ _ _ => trivial)
        obtain ⟨gf, cap3, hv, hgb3, hcf⟩ := ownsRow_cell hfr (by omega)
        simp only [Value.slice.injEq] at hv
        obtain ⟨rfl, _, rfl⟩ := hv
        have k0 := hcf _ _ (letCells_get fl x1.toNat hxl).1
        have k1 := hcf _ _ (letCells_get fl x1.toNat hxl).2
        have HX := Lib.hid (show thenX fl (x1, x2) = fl[x1.toNat] by unfold thenX; rw [if_pos hp, List.getD_eq_getElem?_getD, List.getElem?_eq_getElem hxl]; rfl)
        clear hcf hfr
        generalize fl[x1.toNat] = y at k0 k1 HX
        obtain ⟨y1, y2⟩ := y
        simp only at k0 k1 HX
        have k0a : ∀ o, (wr.alloc o).cell? ⟨gf, x1.toNat * 2, none⟩ = some (.int .i64 y1) := fun o => World.grownBy.cell (World.grownBy_alloc wr o none) k0 (by simp)
        have k1a : ∀ o, (wr.alloc o).cell? ⟨gf, x1.toNat * 2 + 1, none⟩ = some (.int .u8 y2.toNat) := fun o => World.grownBy.cell (World.grownBy_alloc wr o none) k1 (by simp)
        clear k0 k1
        go_wp2_with (at_builtin; refine wpList_append_own _ rfl _ _ 83 /-t:[]hgref2.letter-/ rfl (w.heap.size + 4) 88 /-t:hedgelayer/hgref2.letter-/ i0 (.agg #[.int .i64 0, .int .u8 0]) 2 16 Try.underlying83 /-t:[]hgref2.letter-/ hi hz0 hz1 hz2 rfl (by decide) _ _ _ rfl ((own.alloc _).alloc _) ⟨wr.heap.size + 1, 0, none⟩ 1 1 [.int .i64 y1, .int .u8 y2.toNat] rfl rfl (cells_new2 _ _ _ _) (fun x hx => by simp at hx; rcases hx with rfl | rfl <;> rfl) (by unfold maxLen; omega) (by omega) (by simp; omega) ?_; intro v' w1 hown' hgrow _; obtain ⟨av2, cv2, rfl⟩ := ownsRow_slice hown'; have R := ThRel.push (x := (y1, y2)) rfl _ _ h0 h1 h2 h3 own hg hown' hgrow; have cF0 := cell_of_block R.1 0; have cF1 := cell_of_block R.1 1; have fF1 := free_of_block R.1 1; simp only [List.getElem?_toArray, List.getElem?_cons_zero, List.getElem?_cons_succ] at cF0 cF1; have HR := Lib.hid R.2; clear hown' hgrow R own hg h0 h1 h2 h3)
        go_roundw
        case rel => exact ⟨j + 1, by omega, by go_num, by rw [HT.out, HX.out]; exact HR.out⟩
        case measure => simp [intOf]; omega
      · have HX := Lib.hid (show thenX fl (x1, x2) = (x1, x2) from if_neg hp)
        go_wp2_with (at_builtin; refine wpList_append_own _ rfl _ _ 83 /-t:[]hgref2.letter-/ rfl (w.heap.size + 4) 88 /-t:hedgelayer/hgref2.letter-/ i0 (.agg #[.int .i64 0, .int .u8 0]) 2 16 Try.underlying83 /-t:[]hgref2.letter-/ hi hz0 hz1 hz2 rfl (by decide) _ _ _ rfl ((own.alloc _).alloc _) ⟨wr.heap.size + 1, 0, none⟩ 1 1 [.int .i64 x1, .int .u8 x2.toNat] rfl rfl (cells_new2 _ _ _ _) (fun x hx => by simp at hx; rcases hx with rfl | rfl <;> rfl) (by unfold maxLen; omega) (by omega) (by simp; omega) ?_; intro v' w1 hown' hgrow _; obtain ⟨av2, cv2, rfl⟩ := ownsRow_slice hown'; have R := ThRel.push (x := (x1, x2)) rfl _ _ h0 h1 h2 h3 own hg hown' hgrow; have cF0 := cell_of_block R.1 0; have cF1 := cell_of_block R.1 1; have fF1 := free_of_block R.1 1; simp only [List.getElem?_toArray, List.getElem?_cons_zero, List.getElem?_cons_succ] at cF0 cF1; have HR := Lib.hid R.2; clear hown' hgrow R own hg h0 h1 h2 h3)
        go_roundw
        case rel => exact ⟨j + 1, by omega, by go_num, by rw [HT.out, HX.out]; exact HR.out⟩
        case measure => simp [intOf]; omega
    · obtain rfl : j = gl.length := by omega
      rw [List.take_length] at own
      have HO := Lib.hid own
      obtain ⟨av2, cv2, rfl⟩ := ownsRow_slice own
      have hs4 := hg.size
      have c30 := cell_of_block h3 0
      have c31 := cell_of_block h3 1
      have c20 := cell_of_block h2 0
      have c21 := cell_of_block h2 1
      have f20 := free_of_block h2 0
      have f21 := free_of_block h2 1
      simp only [List.getElem?_toArray, List.getElem?_cons_zero, List.getElem?_cons_succ] at c30 c31 c20 c21
      have o1 := ownsRow_setCell_block own h2 (by decide) 0 (.int .i64 n)
      have o2 := Lib.hid (ownsRow_setCell_block o1 (heap_setCell_self h2 0 (.int .i64 n)) (by decide) 1 (.slice av2 (thenL fl gl).length cv2))
      have hg2 := Lib.hid (grow_setCell (grow_setCell hg ⟨w.heap.size + 1 + 1, 0, none⟩ (.int .i64 n) (by simp; omega)) ⟨w.heap.size + 1 + 1, 1, none⟩ (.slice av2 (thenL fl gl).length cv2) (by simp; omega))
      clear own o1 hg h0 h1 h2 h3 HO
      obtain ⟨L, hL⟩ : ∃ L, L = thenL fl gl := ⟨_, rfl⟩
      rw [← hL] at o2 hg2 c31
      have HL := Lib.hid hL
      clear hL
      go_wp2_with fail
      refine bodyPost_ret (v := .agg #[.int .i64 n, .slice av2 L.length cv2]) (by simp [results, Try.results63, go_sem, c20, c21]) rfl ⟨_, rfl, ?_, hg2.out⟩
      rw [← HL.out]
      exact ownsRow_base o2.out (by omega)
end Go.Proofs.Ytajigndlcdiinaa
namespace Go.Proofs.Ytajigndlcdiinaa
open Go.RowKit

def thenFl (n : Int) (a b : List Ed) : List Let := thenL (flowL a n) (flowL b ((flowL a n).length : Int))
def thenEr (n : Int) (a b : List Ed) : Int :=
  if changeFault n a ≠ 0 then changeFault n a
  else if changeFault ((flowL a n).length : Int) b ≠ 0 then changeFault ((flowL a n).length : Int) b
  else manyv (editsOf n (thenFl n a b)).length
def thenVl (n : Int) (a b : List Ed) : List Ed := if thenEr n a b ≠ 0 then [] else editsOf n (thenFl n a b)

def EdsErrPost (l : List Ed) (er : Int) (w : World) (e : Ending) (w' : World) : Prop :=
  ∃ v, e = .returned (.tuple #[v, .int .i64 er]) ∧ w'.ownsRow w.heap.size 47 /-t:hedgelayer/api.Edit-/ 3 v l.length (edCells l) ∧ w.grownBy w' none

theorem flowL_neg (n : Int) (es : List Ed) (h : changeFault n es = 0) : ∀ x, x ∈ flowL es n → x.1 < n := (right_all h).2.2.2.2.1

theorem thenFl_mem (n : Int) (a b : List Ed) (ha : changeFault n a = 0) : ∀ x, x ∈ thenFl n a b → x.1 ≤ 20000 := by
  intro x hx
  have hn := (right_all ha).1
  simp only [thenFl, thenL, List.mem_map] at hx
  obtain ⟨y, hy, rfl⟩ := hx
  unfold thenX
  split
  · rw [List.getD_eq_getElem?_getD]
    by_cases hl : y.1.toNat < (flowL a n).length
    · rw [List.getElem?_eq_getElem hl]
      have := flowL_neg n a ha _ (List.getElem_mem hl)
      simp only [Option.getD_some]; omega
    · rw [List.getElem?_eq_none (by omega)]; simp
  · omega

theorem edits_len (ls : List Let) (n : Int) (hI : ∀ x, x ∈ ls → x.1 ≤ 100000) : (editsOf n ls).length ≤ ls.length + 1 := by
  have := (edTo_bd ls hI ls.length (Nat.le_refl _)).2.2.2
  unfold editsOf closeE
  split
  · simp; omega
  · omega

set_option maxHeartbeats 4000000 in
set_option maxRecDepth 100000 in
theorem thenOf_any (n : Int) (a b : Option Addr) (c1 c2 : Nat) (es fs : List Ed) (w : World) (hl : es.length ≤ 1000000) (hl2 : fs.length ≤ 1000000) (hE : Eds w a es) (hF : Eds w b fs) (hS : EdsSmall es) (hT : EdsSmall fs) :
    Calls Try.prog 29 #[.int .i64 n, .slice a es.length c1, .slice b fs.length c2] w (EdsErrPost (thenVl n es fs) (thenEr n es fs) w) := by
  by_cases h1 : changeFault n es = 0
  · have H := right_all h1
    by_cases h2 : changeFault ((flowL es n).length : Int) fs = 0
    · have H2 := right_all h2
      have HE := Lib.hid (show thenEr n es fs = manyv (editsOf n (thenFl n es fs)).length by unfold thenEr; rw [if_neg (by rw [h1]; decide), if_neg (by rw [h2]; decide)])
      have hb1 : (changeFault n es != 0) = false := by rw [h1]; rfl
      have hb2 : (changeFault ((flowL es n).length : Int) fs != 0) = false := by rw [h2]; rfl
      have hmem := thenFl_mem n es fs h1
      have HI2 := Lib.hid (flowL_neg _ _ h2)
      have HH1 := Lib.hid h1
      have HH2 := Lib.hid h2
      obtain ⟨q1, q2, q3, q4, q5, q6⟩ := H
      obtain ⟨r1, r2, r3, r4, r5, r6⟩ := H2
      have HQ := Lib.hid (And.intro q3 q4)
      have HR := Lib.hid (And.intro r3 r4)
      clear h1 h2 q3 q4 q5 r3 r4 r5
      have hlen2 : (thenFl n es fs).length ≤ 20000 := by simp [thenFl, thenL]; simpa using r6
      have hed := edits_len (thenFl n es fs) n (fun x hx => by have := hmem x hx; omega)
      have HME := Lib.hid hmem
      clear hmem
      go_enter Try.func29, Try.ntmps29
      go_wp2_with fail
      refine (changeFault_any n a c1 es w hl hE hS).mono ?_
      rintro e w1 ⟨rfl, g1⟩
      go_wp2_with fail
      refine (lengthOf_any n a c1 es w1 HH1.out (hE.grown g1 (by simp))).mono ?_
      rintro e w2 ⟨rfl, g2⟩
      have G2 := grownBy_trans g1 g2
      go_wp2_with fail
      refine (changeFault_any _ b c2 fs w2 hl2 (hF.grown G2 (by simp)) hT).mono ?_
      rintro e w3 ⟨rfl, g3⟩
      have G3 := grownBy_trans G2 g3
      go_wp2_with fail
      refine (flowOf_any n a c1 es w3 q2 q1 (hE.grown G3 (by simp)) HQ.out.1 HQ.out.2).mono ?_
      rintro e w4 hp
      obtain ⟨lv, rfl, own, g4⟩ := flowPost_len hp
      have G4 := grownBy_trans G3 g4
      have hs3 := G3.size
      clear hp
      go_wp2_with fail
      refine (lengthOf_any n a c1 es w4 HH1.out (hE.grown G4 (by simp))).mono ?_
      rintro e w5 ⟨rfl, g5⟩
      have G5 := grownBy_trans G4 g5
      go_wp2_with fail
      refine (flowOf_any _ b c2 fs w5 r2 r1 (hF.grown G5 (by simp)) HR.out.1 HR.out.2).mono ?_
      rintro e w6 hp
      obtain ⟨lv2, rfl, own2, g6⟩ := flowPost_len hp
      have G6 := grownBy_trans G5 g6
      clear hp
      have own1 := ownsRow_frm (Frm.of_grown (grownBy_trans g5 g6) (fun _ _ => True)) own (fun _ _ _ _ => trivial)
      go_wp2_with fail
      refine (then_any n _ lv lv2 _ _ (flowL es n) (flowL fs ((flowL es n).length : Int)) w6 (by omega) (by omega) (fun x hx => by have := HI2.out x hx; omega) own1 own2).mono ?_
      rintro e w7 ⟨lv3, rfl, own3, g7⟩
      change w7.ownsRow _ _ _ _ (thenFl n es fs).length (letCells (thenFl n es fs)) at own3
      have G7 := grownBy_trans G6 g7
      clear own own1 own2
      go_wp2_with fail
      refine (edits_any n lv3 _ (thenFl n es fs) w7 (by omega) (by omega) (fun x hx => by have := HME.out x hx; omega) own3).mono ?_
      rintro e w8 ⟨v, rfl, own8, g8⟩
      have G8 := grownBy_trans G7 g8
      have hs7 := G7.size
      obtain ⟨L, hL⟩ : ∃ L, L = editsOf n (thenFl n es fs) := ⟨_, rfl⟩
      rw [← hL] at own8 hed
      have HL := Lib.hid hL
      obtain ⟨av, cv, rfl⟩ := ownsRow_slice own8
      clear own3 hL
      go_wp2_with fail
      refine (manyFault_any av L.length cv w8 (by omega)).mono ?_
      rintro e w9 ⟨rfl, rfl⟩
      by_cases hm : manyv L.length = 0
      · have hb : (manyv L.length != 0) = false := by simp [hm]
        have HM := Lib.hid hm
        clear hm
        go_wp2_with fail
        go_ret2
        have HE2 := HE.out
        rw [← HL.out, HM.out] at HE2
        refine ⟨.slice av L.length cv, by rw [HE2]; rfl, ?_, G8⟩
        have : thenVl n es fs = L := by unfold thenVl; rw [HE2, HL.out]; exact if_neg (by simp)
        rw [this]
        exact ownsRow_base own8 hs7
      · have hb : (manyv L.length != 0) = true := by simp [hm]
        have HM := Lib.hid hm
        clear hm
        go_wp2_with fail
        go_ret2
        have HE2 := HE.out
        rw [← HL.out] at HE2
        refine ⟨.slice none 0 0, by rw [HE2]; rfl, ?_, G8⟩
        have : thenVl n es fs = [] := by unfold thenVl; rw [HE2]; exact if_pos HM.out
        rw [this]
        exact World.ownsRow_nil _ _ _ _
    · have HE := Lib.hid (show thenEr n es fs = changeFault ((flowL es n).length : Int) fs by unfold thenEr; rw [if_neg (by rw [h1]; decide), if_pos h2])
      have HV := Lib.hid (show thenVl n es fs = [] by unfold thenVl; rw [HE.out]; exact if_pos h2)
      have hb1 : (changeFault n es != 0) = false := by rw [h1]; rfl
      have hb2 : (changeFault ((flowL es n).length : Int) fs != 0) = true := by simp [h2]
      have HH1 := Lib.hid h1
      clear h1 h2 H
      go_enter Try.func29, Try.ntmps29
      go_wp2_with fail
      refine (changeFault_any n a c1 es w hl hE hS).mono ?_
      rintro e w1 ⟨rfl, g1⟩
      go_wp2_with fail
      refine (lengthOf_any n a c1 es w1 HH1.out (hE.grown g1 (by simp))).mono ?_
      rintro e w2 ⟨rfl, g2⟩
      have G2 := grownBy_trans g1 g2
      go_wp2_with fail
      refine (changeFault_any _ b c2 fs w2 hl2 (hF.grown G2 (by simp)) hT).mono ?_
      rintro e w3 ⟨rfl, g3⟩
      have G3 := grownBy_trans G2 g3
      go_wp2_with fail
      go_ret2
      exact ⟨.slice none 0 0, by rw [HE.out]; rfl, by rw [HV.out]; exact World.ownsRow_nil _ _ _ _, G3⟩
  · have HE := Lib.hid (show thenEr n es fs = changeFault n es from if_pos h1)
    have HV := Lib.hid (show thenVl n es fs = [] by unfold thenVl; rw [HE.out]; exact if_pos h1)
    have hb1 : (changeFault n es != 0) = true := by simp [h1]
    clear h1
    go_enter Try.func29, Try.ntmps29
    go_wp2_with fail
    refine (changeFault_any n a c1 es w hl hE hS).mono ?_
    rintro e w1 ⟨rfl, g1⟩
    go_wp2_with fail
    go_ret2
    exact ⟨.slice none 0 0, by rw [HE.out]; rfl, by rw [HV.out]; exact World.ownsRow_nil _ _ _ _, g1⟩

set_option maxHeartbeats 4000000 in
set_option maxRecDepth 100000 in
/-- slices.Equal of two slices that hold the same edits. -/
theorem equalEd_same (a b : Option Addr) (c1 c2 : Nat) (es : List Ed) (w : World) (hl : es.length ≤ 1000000) (hE : Eds w a es) (hF : Eds w b es) :
    Calls Try.prog 23 #[.slice a es.length c1, .slice b es.length c2] w fun e w' => e = .returned (.bool true) ∧ ∃ k, w' = w.drewN k := by
  have hb : ((es.length : Int) != (es.length : Int)) = false := by simp
  have HE := Lib.hid hE
  have HF := Lib.hid hF
  clear hE hF
  go_enter Try.func23, Try.ntmps23
  go_wp2_with fail
  go_loopw [13] (fun i wr => ∃ j k : Nat, j ≤ es.length ∧ i = .int .i64 j ∧ wr = w.drewN k) (fun i _ => es.length - (intOf i).toNat)
  case atStart => exact ⟨0, 0, Nat.zero_le _, rfl, rfl⟩
  case round =>
    obtain ⟨j, k, hj, rfl, rfl⟩ := hrel
    by_cases hlt : j < es.length
    · obtain ⟨g, off, rfl, c1, c2, c3⟩ := HE.out j hlt
      obtain ⟨g2, off2, rfl, d1, d2, d3⟩ := HF.out j hlt
      generalize es[j] = e at c1 c2 c3 d1 d2 d3
      obtain ⟨ea, eo, en⟩ := e
      simp only at c1 c2 c3 d1 d2 d3
      have i1 : (0 : Int) ≤ (j : Int) := by omega
      have i2 : (j : Int) < (es.length : Int) := by omega
      go_wp2_with fail
      go_quiet (fail)
      go_wp2_with fail
      go_roundw
      case rel => exact ⟨j + 1, _, by omega, by go_num, rfl⟩
      case measure => simp [intOf]; omega
    · obtain rfl : j = es.length := by omega
      go_wp2_with fail
      go_ret
      exact ⟨rfl, k, rfl⟩

theorem grow_drewN (w : World) (k : Nat) : w.grownBy (w.drewN k) none := ⟨rfl, rfl, rfl, Nat.le_refl _, fun _ _ _ => rfl⟩
theorem equalEd_own {w : World} {b1 b2 : Nat} {v v2 : Value} {es : List Ed} (hl : es.length ≤ 1000000) (h1 : w.ownsRow b1 47 /-t:hedgelayer/api.Edit-/ 3 v es.length (edCells es)) (h2 : w.ownsRow b2 47 /-t:hedgelayer/api.Edit-/ 3 v2 es.length (edCells es)) :
    Calls Try.prog 23 #[v, v2] w fun e w' => e = .returned (.bool true) ∧ w.grownBy w' none := by
  obtain ⟨a, c, rfl, hE, _⟩ := eds_of_own h1
  obtain ⟨a2, c2, rfl, hE2, _⟩ := eds_of_own h2
  refine (equalEd_same a a2 c c2 es w hl hE hE2).mono ?_
  rintro e w' ⟨rfl, k, rfl⟩
  exact ⟨rfl, grow_drewN w k⟩
end Go.Proofs.Ytajigndlcdiinaa
namespace Go.Proofs.Ytajigndlcdiinaa
open Go.RowKit

def edMid (m : Nat) (e : Ed) : Prop := 0 ≤ e.at_ ∧ e.at_ ≤ 200000 ∧ -200000 ≤ e.old ∧ e.old ≤ 200000 ∧ e.new.size ≤ m

theorem closeE_mid (m : Nat) (a to : Int) (t : ByteArray) (es : List Ed) (ha : 0 ≤ a ∧ a ≤ 100001) (hto : 0 ≤ to ∧ to ≤ 100000) (ht : t.size ≤ m) (h : ∀ e, e ∈ es → edMid m e) : ∀ e, e ∈ closeE a to t es → edMid m e := by
  intro e he
  unfold closeE at he
  split at he
  · rcases List.mem_append.1 he with he | he
    · exact h e he
    · simp at he; subst he
      exact ⟨by simp only; omega, by simp only; omega, by simp only; omega, by simp only; omega, ht⟩
  · exact h e he

theorem edTo_mid (ls : List Let) (hI : ∀ x, x ∈ ls → x.1 ≤ 100000) : ∀ j, j ≤ ls.length → ∀ e, e ∈ (edTo ls j).2.2 → edMid ls.length e
  | 0, _ => by simp [edTo]
  | j + 1, h => by
    have ih := edTo_mid ls hI j (by omega)
    obtain ⟨h1, h2, h3, h4⟩ := edTo_bd ls hI j (by omega)
    rw [edTo_succ _ _ (by omega)]
    have := hI _ (List.getElem_mem (show j < ls.length by omega))
    unfold edStep
    split
    · exact ih
    · exact closeE_mid _ _ _ _ _ (by omega) (by omega) (by omega) ih

theorem editsOf_mid (n : Int) (ls : List Let) (hn : 0 ≤ n ∧ n ≤ 100000) (hI : ∀ x, x ∈ ls → x.1 ≤ 100000) : ∀ e, e ∈ editsOf n ls → edMid ls.length e := by
  obtain ⟨h1, h2, h3, h4⟩ := edTo_bd ls hI ls.length (Nat.le_refl _)
  exact closeE_mid _ _ _ _ _ (by omega) (by omega) h3 (edTo_mid ls hI _ (Nat.le_refl _))

theorem thenVl_ok (n : Int) (a b : List Ed) : EdsSmall (thenVl n a b) ∧ (thenVl n a b).length ≤ 20001 := by
  unfold thenVl
  by_cases h : thenEr n a b ≠ 0
  · rw [if_pos h]; exact ⟨by intro e he; simp at he, by simp⟩
  · rw [if_neg h]
    have h1 : changeFault n a = 0 := by
      refine Decidable.byContradiction fun hc => h ?_
      unfold thenEr; rw [if_pos hc]; exact hc
    have h2 : changeFault ((flowL a n).length : Int) b = 0 := by
      refine Decidable.byContradiction fun hc => h ?_
      unfold thenEr; rw [if_neg (by rw [h1]; decide), if_pos hc]; exact hc
    have hl : (thenFl n a b).length ≤ 20000 := by have := (right_all h2).2.2.2.2.2; simpa [thenFl, thenL] using this
    have hm : ∀ x, x ∈ thenFl n a b → x.1 ≤ 100000 := fun x hx => by have := thenFl_mem n a b h1 x hx; omega
    have hn := (right_all h1).1
    have := edits_len _ n hm
    refine ⟨fun e he => ?_, by omega⟩
    have := editsOf_mid n _ (by omega) hm e he
    unfold edMid at this
    omega

/-- A slice of changes. -/
def Chs (w : World) (a : Option Addr) (cs : List (List Ed)) : Prop := ∀ j, (h : j < cs.length) → ∃ g off av cap, a = some ⟨g, off, none⟩ ∧ w.cell? ⟨g, off + j, none⟩ = some (.slice av (cs[j]).length cap) ∧ Eds w av cs[j]
theorem Chs.grown {w w' : World} {a cs} (h : Chs w a cs) (g : w.grownBy w' none) : Chs w' a cs := by
  intro j hj
  obtain ⟨b, off, av, cap, e, h1, h2⟩ := h j hj
  exact ⟨b, off, av, cap, e, g.cell h1 (by simp), h2.grown g (by simp)⟩

def foldChk : Int → List (List Ed) → Int
  | _, [] => 0
  | m, c :: r => if changeFault m c ≠ 0 then changeFault m c else foldChk ((flowL c m).length : Int) r
def foldGo (n : Int) : List Ed → List (List Ed) → List Ed × Int
  | out, [] => (out, 0)
  | out, c :: r => if thenEr n out c ≠ 0 then ([], thenEr n out c) else foldGo n (thenVl n out c) r
def foldR (n : Int) (cs : List (List Ed)) : List Ed × Int :=
  if ¬ (0 ≤ n ∧ n ≤ 20000) then ([], 1) else if foldChk n cs ≠ 0 then ([], foldChk n cs) else foldGo n [] cs

set_option maxHeartbeats 8000000 in
set_option maxRecDepth 100000 in
theorem foldOf_any (n : Int) (a : Option Addr) (cap : Nat) (cs : List (List Ed)) (w : World) (hl : cs.length ≤ 1000000) (hC : Chs w a cs) (hS : ∀ c, c ∈ cs → EdsSmall c ∧ c.length ≤ 1000000) :
    Calls Try.prog 30 #[.int .i64 n, .slice a cs.length cap] w (EdsErrPost (foldR n cs).1 (foldR n cs).2 w) := by
  by_cases h0 : 0 ≤ n ∧ n ≤ 20000
  · have i1 := inB_yes h0
    have HR := Lib.hid (show foldR n cs = if foldChk n cs ≠ 0 then ([], foldChk n cs) else foldGo n [] cs from if_neg (by simpa using h0))
    have HK := Lib.hid (show foldChk n cs = foldChk n (cs.drop 0) from rfl)
    have HCC := Lib.hid hC
    clear hC
    go_enter Try.func30, Try.ntmps30
    go_wp2_with (go_at_call 53; refine (in_any _ _ _ _).mono ?_; rintro e' w1 ⟨rfl, rfl⟩)
    go_loopw [6, 21] (fun m i wr => ∃ (j : Nat) (mm : Int), j ≤ cs.length ∧ i = .int .i64 j ∧ m = .int .i64 mm ∧ Hid (foldChk n cs = foldChk mm (cs.drop j)) ∧ w.grownBy wr none) (fun _ i _ => cs.length - (intOf i).toNat)
    case atStart => exact ⟨0, n, Nat.zero_le _, rfl, rfl, HK, grow_self w⟩
    case round =>
      obtain ⟨j, mm, hj, rfl, rfl, HH, hg⟩ := hrel
      by_cases hlt : j < cs.length
      · obtain ⟨g, off, av, cp, rfl, c1, hE⟩ := HCC.out j hlt
        have hs := hS _ (List.getElem_mem hlt)
        have HD := Lib.hid (show cs.drop j = cs[j] :: cs.drop (j + 1) from List.drop_eq_getElem_cons hlt)
        generalize cs[j] = c at c1 hE hs HD
        replace c1 := hg.cell c1 (by simp)
        replace hE := hE.grown hg (by simp)
        by_cases hc : changeFault mm c = 0
        · have HH2 := Lib.hid (show foldChk n cs = foldChk ((flowL c mm).length : Int) (cs.drop (j + 1)) by rw [HH.out, HD.out, foldChk, if_neg (by rw [hc]; decide)])
          have hb : (changeFault mm c != 0) = false := by rw [hc]; rfl
          have HF := Lib.hid hc
          clear hc
          go_wp2_with fail
          refine (changeFault_any mm av cp c wr hs.2 hE hs.1).mono ?_
          rintro e w1 ⟨rfl, g1⟩
          go_wp2_with fail
          refine (lengthOf_any mm av cp c w1 HF.out (hE.grown g1 (by simp))).mono ?_
          rintro e w2 ⟨rfl, g2⟩
          have G2 := grownBy_trans hg (grownBy_trans g1 g2)
          clear g1 g2 hg
          go_wp2_with fail
          go_roundw
          case rel => exact ⟨j + 1, _, by omega, by go_num, rfl, HH2, G2⟩
          case measure => simp [intOf]; omega
        · have HH2 := Lib.hid (show foldChk n cs = changeFault mm c by rw [HH.out, HD.out, foldChk]; exact if_pos hc)
          have hb : (changeFault mm c != 0) = true := by simp [hc]
          have HF := Lib.hid hc
          clear hc
          go_wp2_with fail
          refine (changeFault_any mm av cp c wr hs.2 hE hs.1).mono ?_
          rintro e w1 ⟨rfl, g1⟩
          go_wp2_with fail
          go_ret2
          have : foldR n cs = ([], changeFault mm c) := by rw [HR.out, HH2.out]; exact if_pos HF.out
          rw [this]
          exact ⟨.slice none 0 0, rfl, World.ownsRow_nil _ _ _ _, grownBy_trans hg g1⟩
      · obtain rfl : j = cs.length := by omega
        have HR2 := Lib.hid (show foldR n cs = foldGo n [] (cs.drop 0) by rw [HR.out, HH.out, List.drop_length]; exact if_neg (by simp [foldChk]))
        obtain ⟨wo, rfl⟩ : ∃ wo : World, wo = wr := ⟨_, rfl⟩
        clear HH HR HK
        go_wp2_with fail
        go_loopw [10, 37] (fun v i wr => ∃ (j : Nat) (out : List Ed), j ≤ cs.length ∧ i = .int .i64 j ∧ EdsSmall out ∧ out.length ≤ 20001 ∧ Hid (foldR n cs = foldGo n out (cs.drop j)) ∧ wr.ownsRow w.heap.size 47 /-t:hedgelayer/api.Edit-/ 3 v out.length (edCells out) ∧ w.grownBy wr none) (fun _ i _ => cs.length - (intOf i).toNat)
        case atStart => exact ⟨0, [], Nat.zero_le _, rfl, by intro e he; simp at he, by simp, HR2, World.ownsRow_nil _ _ _ _, hg⟩
        case round =>
          clear hg HR2
          obtain ⟨j, out, hj2, rfl, hso, hlo, HH, own, hg⟩ := hrel
          by_cases hlt2 : j < cs.length
          · obtain ⟨g, off, av, cp, rfl, c1, hE⟩ := HCC.out j hlt2
            have hs := hS _ (List.getElem_mem hlt2)
            have HD := Lib.hid (show cs.drop j = cs[j] :: cs.drop (j + 1) from List.drop_eq_getElem_cons hlt2)
            generalize cs[j] = c at c1 hE hs HD
            replace c1 := hg.cell c1 (by simp)
            replace hE := hE.grown hg (by simp)
            obtain ⟨oa, oc, rfl, hO, _⟩ := eds_of_own own
            have hok := thenVl_ok n out c
            have hsz := hg.size
            by_cases hc : thenEr n out c = 0
            · have HH2 := Lib.hid (show foldR n cs = foldGo n (thenVl n out c) (cs.drop (j + 1)) by rw [HH.out, HD.out, foldGo]; exact if_neg (by rw [hc]; decide))
              have hb : (thenEr n out c != 0) = false := by rw [hc]; rfl
              clear hc
              go_wp2_with fail
              refine (thenOf_any n oa av oc cp out c wr (by omega) hs.2 hO hE hso hs.1).mono ?_
              rintro e w1 ⟨v, rfl, own1, g1⟩
              have own2 := ownsRow_base own1 hsz
              have G2 := grownBy_trans hg g1
              clear own own1 hg g1
              go_wp2_with fail
              go_roundw
              case rel => exact ⟨j + 1, _, by omega, by go_num, hok.1, hok.2, HH2, own2, G2⟩
              case measure => simp [intOf]; omega
            · have HH2 := Lib.hid (show foldR n cs = ([], thenEr n out c) by rw [HH.out, HD.out, foldGo]; exact if_pos hc)
              have hb : (thenEr n out c != 0) = true := by simp [hc]
              clear hc
              go_wp2_with fail
              refine (thenOf_any n oa av oc cp out c wr (by omega) hs.2 hO hE hso hs.1).mono ?_
              rintro e w1 ⟨v, rfl, own1, g1⟩
              go_wp2_with fail
              go_ret2
              rw [HH2.out]
              exact ⟨.slice none 0 0, rfl, World.ownsRow_nil _ _ _ _, grownBy_trans hg g1⟩
          · obtain rfl : j = cs.length := by omega
            have HH2 := Lib.hid (show foldR n cs = (out, 0) by rw [HH.out, List.drop_length, foldGo])
            have HO := Lib.hid own
            obtain ⟨oa, oc, rfl⟩ := ownsRow_slice own
            clear own HH
            go_wp2_with fail
            go_ret2
            rw [HH2.out]
            exact ⟨.slice oa out.length oc, rfl, HO.out, hg⟩
  · have i1 := inB_no h0
    have HR := Lib.hid (show foldR n cs = ([], 1) from if_pos h0)
    go_enter Try.func30, Try.ntmps30
    go_wp2_with (go_at_call 53; refine (in_any _ _ _ _).mono ?_; rintro e' w1 ⟨rfl, rfl⟩)
    go_ret2
    rw [HR.out]
    exact ⟨.slice none 0 0, rfl, World.ownsRow_nil _ _ _ _, grow_self w⟩
end Go.Proofs.Ytajigndlcdiinaa
namespace Go.Proofs.Ytajigndlcdiinaa
open Go.RowKit

def idxGo (i : Int) : Nat → List Let → Int
  | _, [] => -1
  | k, x :: r => if x.1 = i then (k : Int) else idxGo i (k + 1) r
def idxL (ls : List Let) (i : Int) : Int := idxGo i 0 ls
theorem idxGo_bd (i : Int) : ∀ (ls : List Let) (k : Nat), -1 ≤ idxGo i k ls ∧ idxGo i k ls < (k + ls.length : Nat) ∨ idxGo i k ls = -1
  | [], k => by simp [idxGo]
  | x :: r, k => by
    rw [idxGo]
    split
    · left; simp; omega
    · rcases idxGo_bd i r (k + 1) with h | h
      · left; simp at h ⊢; omega
      · right; exact h

theorem invClosure (x1 : Int) (x2 : UInt8) (b : Nat) (i : Int) (w : World) (hb : w.heap[b]? = some (.cells #[.int .i64 i] 3 /-t:int-/ (0, 0))) :
    Calls Try.prog 58 #[.agg #[.int .i64 x1, .int .u8 x2.toNat], .pointer (some ⟨b, 0, none⟩)] w fun e w' => e = .returned (.bool (x1 == i)) ∧ w.grownBy w' none := by
  have c0 : ∀ o, (w.alloc o).cell? ⟨b, 0, none⟩ = some (.int .i64 i) := fun o => cell_of_block ((Below.heap_alloc w o b (lt_of_block hb)).trans hb) 0
  go_enter Try.func58, Try.ntmps58
  go_wp2_with fail
  go_ret
  exact ⟨ret_bool rfl, World.grownBy_alloc _ _ _⟩

set_option maxHeartbeats 4000000 in
set_option maxRecDepth 100000 in
theorem indexFunc_any (lv : Value) (base : Nat) (ls : List Let) (b : Nat) (i : Int) (w : World) (hl : ls.length ≤ 100000) (hb : w.heap[b]? = some (.cells #[.int .i64 i] 3 /-t:int-/ (0, 0)))
    (hown : w.ownsRow base 88 /-t:hedgelayer/hgref2.letter-/ 2 lv ls.length (letCells ls)) :
    Calls Try.prog 57 #[lv, .func (Fn.func 58) #[] #[.pointer (some ⟨b, 0, none⟩)]] w fun e w' => e = .returned (.int .i64 (idxL ls i)) ∧ w.grownBy w' none := by
  obtain ⟨av, cv, rfl⟩ := ownsRow_slice hown
  have HH := Lib.hid (show idxL ls i = idxGo i 0 (ls.drop 0) from rfl)
  go_enter Try.func57, Try.ntmps57
  go_wp2_with fail
  go_loopw [8] (fun q wr => ∃ j : Nat, j ≤ ls.length ∧ q = .int .i64 j ∧ Hid (idxL ls i = idxGo i j (ls.drop j)) ∧ w.grownBy wr none) (fun q _ => ls.length - (intOf q).toNat)
  case atStart => exact ⟨0, Nat.zero_le _, rfl, HH, grow_self w⟩
  case round =>
    obtain ⟨j, hj, rfl, HJ, hg⟩ := hrel
    clear HH
    by_cases hlt : j < ls.length
    · have hownr := ownsRow_frm (Frm.of_grown hg (fun _ _ => True)) hown (fun _ _ _ _ => trivial)
      obtain ⟨g, cap2, hv, hgb, hc⟩ := ownsRow_cell hownr (by omega)
      simp only [Value.slice.injEq] at hv
      obtain ⟨rfl, _, rfl⟩ := hv
      have hc0 := hc _ _ (letCells_get ls j hlt).1
      have hc1 := hc _ _ (letCells_get ls j hlt).2
      have hbr : wr.heap[b]? = some (.cells #[.int .i64 i] 3 /-t:int-/ (0, 0)) := by rw [hg.block b (lt_of_block hb) (by simp)]; exact hb
      have HD := Lib.hid (show ls.drop j = ls[j] :: ls.drop (j + 1) from List.drop_eq_getElem_cons hlt)
      clear hc hownr
      generalize ls[j] = x at hc0 hc1 HD
      obtain ⟨x1, x2⟩ := x
      simp only at hc0 hc1
      by_cases hx : x1 = i
      · have HR := Lib.hid (show idxL ls i = (j : Int) by rw [HJ.out, HD.out, idxGo]; exact if_pos hx)
        have hbx : (x1 == i) = true := by simp [hx]
        clear hx
        go_wp2_with fail
        refine (invClosure x1 x2 b i wr hbr).mono ?_
        rintro e w1 ⟨rfl, g1⟩
        go_wp2_with fail
        go_ret
        exact ⟨ret_i64 HR.out.symm, grownBy_trans hg g1⟩
      · have HR := Lib.hid (show idxL ls i = idxGo i (j + 1) (ls.drop (j + 1)) by rw [HJ.out, HD.out, idxGo]; exact if_neg hx)
        have hbx : (x1 == i) = false := by simp [hx]
        clear hx
        go_wp2_with fail
        refine (invClosure x1 x2 b i wr hbr).mono ?_
        rintro e w1 ⟨rfl, g1⟩
        have G1 := grownBy_trans hg g1
        go_wp2_with fail
        go_roundw
        case rel => exact ⟨j + 1, by omega, by go_num, HR, G1⟩
        case measure => simp [intOf]; omega
    · obtain rfl : j = ls.length := by omega
      have HR := Lib.hid (show idxL ls i = -1 by rw [HJ.out, List.drop_length, idxGo])
      go_wp2_with fail
      go_ret
      exact ⟨ret_i64 HR.out.symm, hg⟩
end Go.Proofs.Ytajigndlcdiinaa
namespace Go.Proofs.Ytajigndlcdiinaa
open Go.RowKit

def invTo (s : ByteArray) (fl : List Let) (j : Nat) : List Let := (List.range j).map fun i : Nat => (idxL fl (i : Int), s.data.toList.getD i 0)
theorem invTo_succ (s : ByteArray) (fl : List Let) (j : Nat) : invTo s fl (j + 1) = invTo s fl j ++ [(idxL fl (j : Int), s.data.toList.getD j 0)] := by
  simp [invTo, List.range_succ]
theorem invTo_get (s : ByteArray) (fl : List Let) (j : Nat) (h : j < s.size) : invTo s fl (j + 1) = invTo s fl j ++ [(idxL fl (j : Int), s[j]'h)] := by
  rw [invTo_succ, List.getD_eq_getElem?_getD, List.getElem?_eq_getElem (by simpa using h)]; rfl
theorem invTo_len (s : ByteArray) (fl : List Let) (j : Nat) : (invTo s fl j).length = j := by simp [invTo]
def inverseV (s : ByteArray) (es : List Ed) : List Ed := editsOf ((flowL es s.size).length : Int) (invTo s (flowL es s.size) s.size)

/-- While the flow back is made: the flow's box and the new one's, behind the world w1. -/
def InvRel (w1 : World) (n m : Int) (lv : Value) (l : List Let) (wr : World) : Prop :=
  ∃ v, wr.heap[w1.heap.size]? = some (.cells #[.int .i64 n, lv] 85 /-t:hedgelayer/hgref2.flow-/ (0, 0)) ∧ wr.heap[w1.heap.size + 1]? = some (.cells #[.int .i64 m, v] 85 /-t:hedgelayer/hgref2.flow-/ (0, 0)) ∧
    wr.ownsRow (w1.heap.size + 2) 88 /-t:hedgelayer/hgref2.letter-/ 2 v l.length (letCells l) ∧ w1.grownBy wr none

theorem InvRel.push {w1 : World} {n m : Int} {lv : Value} {l : List Let} {wr w2 : World} {v v' : Value} {x : Let} {k : Nat} (hk : k = l.length + 1) (o : Obj)
    (h0 : wr.heap[w1.heap.size]? = some (.cells #[.int .i64 n, lv] 85 /-t:hedgelayer/hgref2.flow-/ (0, 0))) (h1 : wr.heap[w1.heap.size + 1]? = some (.cells #[.int .i64 m, v] 85 /-t:hedgelayer/hgref2.flow-/ (0, 0)))
    (own : wr.ownsRow (w1.heap.size + 2) 88 /-t:hedgelayer/hgref2.letter-/ 2 v l.length (letCells l)) (hg : w1.grownBy wr none)
    (hown : w2.ownsRow (w1.heap.size + 2) 88 /-t:hedgelayer/hgref2.letter-/ 2 v' k (letCells l ++ [.int .i64 x.1, .int .u8 x.2.toNat])) (g : (wr.alloc o).grownBy w2 v.ownBlock) :
    w2.heap[w1.heap.size + 1]? = some (.cells #[.int .i64 m, v] 85 /-t:hedgelayer/hgref2.flow-/ (0, 0)) ∧ InvRel w1 n m lv (l ++ [x]) (w2.setCell ⟨w1.heap.size + 1, 1, none⟩ v') := by
  subst hk
  have own' := own.alloc o
  have up : ∀ {b : Nat} {cs : Array Value}, wr.heap[b]? = some (.cells cs 85 /-t:hedgelayer/hgref2.flow-/ (0, 0)) → w2.heap[b]? = some (.cells cs 85 /-t:hedgelayer/hgref2.flow-/ (0, 0)) := fun {b cs} h =>
    grown_block own' g ((Below.heap_alloc _ _ _ (lt_of_block h)).trans h) (by decide)
  have u1 := up h1
  refine ⟨u1, v', ?_, heap_setCell_self u1 1 v', ?_, ?_⟩
  · rw [Below.heap_setCell _ _ _ _ (by simp)]; exact up h0
  · rw [letCells_snoc, List.length_append]
    exact ownsRow_setCell_block hown u1 (by decide) 1 v'
  · exact grow_setCell (grow_row (grow_alloc hg o) g (fun k hk => by have := (ownsRow_block own k hk).1; omega)) _ _ (by simp)

set_option maxHeartbeats 2000000 in
set_option maxRecDepth 100000 in
theorem inverseOf_any (s : ByteArray) (a : Option Addr) (cap : Nat) (es : List Ed) (w : World) (h : changeFault s.size es = 0) (hE : Eds w a es) :
    Calls Try.prog 18 #[.string s, .slice a es.length cap] w (EditsPost (inverseV s es) w) := by
  obtain ⟨h1, h2, h3, h4, h5, h6⟩ := right_all h
  obtain ⟨i0, hi, hz0, hz1, hz2⟩ := info_parts infoLet
  go_enter Try.func18, Try.ntmps18
  go_wp2_with fail
  refine (flowOf_any s.size a cap es w h2 h1 hE h3 h4).mono ?_
  rintro e w1 hp
  obtain ⟨lv, rfl, ownf, gf⟩ := flowPost_len hp
  have HV := Lib.hid (show inverseV s es = editsOf ((flowL es s.size).length : Int) (invTo s (flowL es s.size) s.size) from rfl)
  clear hp h3 h4 h5 hE
  obtain ⟨fl, hfl⟩ : ∃ fl, fl = flowL es s.size := ⟨_, rfl⟩
  rw [← hfl] at ownf h6 HV
  clear hfl
  have hss : s.size ≤ 20000 := by omega
  obtain ⟨av, cv, rfl⟩ := ownsRow_slice ownf
  go_wp2_with fail
  go_loopw [19] (fun i wr => ∃ j : Nat, j ≤ s.size ∧ i = .int .i64 j ∧ InvRel w1 s.size (fl.length : Int) (.slice av fl.length cv) (invTo s fl j) wr) (fun i _ => s.size - (intOf i).toNat)
  case atStart =>
    refine ⟨0, Nat.zero_le _, rfl, .slice none 0 0, ?_, heap_new_at _ _ _ (by simp), World.ownsRow_nil _ _ _ _, grow_alloc (grow_alloc (grow_self w1) _) _⟩
    exact (Below.heap_alloc _ _ _ (by simp)).trans (heap_alloc_new w1 _)
  case round =>
    obtain ⟨j, hj, rfl, v, h0, hF, own, hg⟩ := hrel
    by_cases hlt : j < s.size
    · have HT := Lib.hid (invTo_get s fl j hlt)
      have hlen := invTo_len s fl j
      have d0 : ∀ o, (wr.alloc o).cell? ⟨w1.heap.size, 1, none⟩ = some (.slice av fl.length cv) := fun o => cell_of_block ((Below.heap_alloc wr o _ (lt_of_block h0)).trans h0) 1
      have hown2 := ownsRow_frm (Frm.of_grown (grow_alloc hg (.cells #[.int .i64 (j : Int)] 3 /-t:int-/)) (fun _ _ => True)) ownf (fun _ _ _ _ => trivial)
      have b0 : (0 : Int) ≤ (j : Int) := Int.natCast_nonneg _
      have b1 : (j : Int) < (s.size : Int) := by omega
      go_wp2_with fail
      refine (indexFunc_any _ _ fl wr.heap.size (j : Int) _ (by omega) (heap_alloc_new wr _) hown2).mono ?_
      rintro e w3 ⟨rfl, g3⟩
      have hF3 := (g3.block _ (by have := lt_of_block hF; simp; omega) (by simp)).trans ((Below.heap_alloc _ _ _ (lt_of_block hF)).trans hF)
      have h03 := (g3.block _ (by have := lt_of_block h0; simp; omega) (by simp)).trans ((Below.heap_alloc _ _ _ (lt_of_block h0)).trans h0)
      have hI3 := (g3.block _ (by simp) (by simp)).trans (heap_alloc_new wr (.cells #[.int .i64 (j : Int)] 3 /-t:int-/))
      have own3 := ownsRow_frm (Frm.of_grown g3 (fun _ _ => True)) (own.alloc (.cells #[.int .i64 (j : Int)] 3 /-t:int-/)) (fun _ _ _ _ => trivial)
      have hg3 := grownBy_trans (grow_alloc hg (.cells #[.int .i64 (j : Int)] 3 /-t:int-/)) g3
      have hs3 := hg3.size
      have hsF := lt_of_block hF3
      clear hF h0 own hg g3 hown2 d0
      have cFa : ∀ o, (w3.alloc o).cell? ⟨w1.heap.size + 1, 1, none⟩ = some v := fun o => cell_of_block ((Below.heap_alloc w3 o _ (lt_of_block hF3)).trans hF3) 1
      have cIa : ∀ o, (w3.alloc o).cell? ⟨wr.heap.size, 0, none⟩ = some (.int .i64 (j : Int)) := fun o => cell_of_block ((Below.heap_alloc w3 o _ (lt_of_block hI3)).trans hI3) 0
      have cF := cell_of_block hF3 1
      have fF := free_of_block hF3 1
      have cI := cell_of_block hI3 0
      simp only [List.getElem?_toArray, List.getElem?_cons_zero, List.getElem?_cons_succ] at cF cI
      generalize idxL fl (j : Int) = ix at HT ⊢
      obtain ⟨L, hL⟩ : ∃ L, L = invTo s fl j := ⟨_, rfl⟩
      rw [← hL] at own3 HT hlen
      have hLl : L.length ≤ 20000 := by omega
      clear hL hlen
      go_wp2_with fail
      go_region_law (refine step_append_lies _ (by rfl) (.tmp 27) (.tmp 33) 83 /-t:[]hgref2.letter-/ (by rfl) (w1.heap.size + 2) 88 /-t:hedgelayer/hgref2.letter-/ i0 (.agg #[.int .i64 0, .int .u8 0]) 2 16 Try.underlying83 /-t:[]hgref2.letter-/ hi hz0 hz1 hz2 rfl (by omega) v L.length (letCells L) (by rfl) ((own3.alloc _).drew) ⟨w3.heap.size, 0, none⟩ 1 1 [.int .i64 ix, .int .u8 s[j].toNat] (by rfl) (by rfl) (World.news_of_block (cs := #[.int .i64 ix, .int .u8 s[j].toNat]) (t := 88 /-t:hedgelayer/hgref2.letter-/) (fr := (0, 0)) (heap_alloc_new w3 _)) (by simp [Value.oneCell']) (by omega) (by unfold maxLen; omega) (by omega) (by simp; omega) (w3.heap.size + 1) (by simp) ?_; intro gg cap1 w4 hown1 hgrow hat hlt1; have hgrow2 : (w3.alloc (.cells #[.int .i64 ix, .int .u8 s[j].toNat] 88 /-t:hedgelayer/hgref2.letter-/)).grownBy w4 v.ownBlock := ⟨hgrow.os, hgrow.tape, hgrow.output, hgrow.size, hgrow.block⟩; have R := InvRel.push (x := (ix, s[j])) rfl _ h03 hF3 own3 hg3 hown1 hgrow2; have cF1 := cell_of_block R.1 1; have fF1 := free_of_block R.1 1; simp only [List.getElem?_toArray, List.getElem?_cons_zero, List.getElem?_cons_succ] at cF1; have HR := Lib.hid R.2; clear hown1 hgrow hgrow2 hat hlt1 R)
      all_goals
        go_wp2_with fail
        go_roundw
        case rel => exact ⟨j + 1, by omega, by go_num, by rw [HT.out]; exact HR.out⟩
        case measure => simp [intOf]; omega
    · obtain rfl : j = s.size := by omega
      have hlen := invTo_len s fl s.size
      have hmem : ∀ x, x ∈ invTo s fl s.size → x.1 ≤ 100000 := by
        intro x hx
        simp only [invTo, List.mem_map] at hx
        obtain ⟨i, _, rfl⟩ := hx
        have := idxGo_bd (i : Int) fl 0
        simp only [idxL]
        omega
      have cF0 := cell_of_block hF 0
      have cF1 := cell_of_block hF 1
      simp only [List.getElem?_toArray, List.getElem?_cons_zero, List.getElem?_cons_succ] at cF0 cF1
      have G := grownBy_trans gf hg
      have HM := Lib.hid hmem
      clear hmem
      obtain ⟨L, hL⟩ : ∃ L, L = invTo s fl s.size := ⟨_, rfl⟩
      rw [← hL] at own hlen HM HV
      obtain ⟨av2, cv2, rfl⟩ := ownsRow_slice own
      have hlen2 : L.length ≤ 20000 := by omega
      clear hL hlen
      go_wp2_with fail
      refine (edits_any (fl.length : Int) _ _ L wr (by omega) (by omega) HM.out own).mono ?_
      rintro e w5 ⟨v5, rfl, own5, g5⟩
      have hsz := G.size
      obtain ⟨a5, c5, rfl⟩ := ownsRow_slice own5
      go_wp2_with fail
      go_ret
      refine ⟨_, rfl, ?_, grownBy_trans G g5⟩
      rw [HV.out]
      exact ownsRow_base own5 hsz
end Go.Proofs.Ytajigndlcdiinaa
