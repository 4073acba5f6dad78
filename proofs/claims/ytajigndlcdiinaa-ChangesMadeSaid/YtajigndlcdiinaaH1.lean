/- LengthOf, OriginOf. -/
import Derived.Test.YtajigndlcdiinaaG2
namespace Go.Proofs.Ytajigndlcdiinaa
open Go.RowKit

theorem flowPost_len {n : Int} {es : List Ed} {w : World} {e : Ending} {w' : World} (h : FlowPost n es w e w') :
    ∃ lv, e = .returned (.agg #[.int .i64 n, lv]) ∧ w'.ownsRow (w.heap.size + 3) 88 /-t:hedgelayer/hgref2.letter-/ 2 lv (flowL es n).length (letCells (flowL es n)) ∧ w.grownBy w' none := h

set_option maxHeartbeats 1000000 in
set_option maxRecDepth 100000 in
theorem lengthOf_any (n : Int) (a : Option Addr) (cap : Nat) (es : List Ed) (w : World) (h : changeFault n es = 0) (hE : Eds w a es) :
    Calls Try.prog 20 #[.int .i64 n, .slice a es.length cap] w fun e w' => e = .returned (.int .i64 ((flowL es n).length : Int)) ∧ w.grownBy w' none := by
  obtain ⟨h1, h2, h3, h4, h5, h6⟩ := right_all h
  go_enter Try.func20, Try.ntmps20
  go_wp2_with fail
  refine (flowOf_any n a cap es w h2 h1 hE h3 h4).mono ?_
  rintro e w1 hp
  obtain ⟨lv, rfl, own, g⟩ := flowPost_len hp
  clear hp h3 h4 h5
  obtain ⟨ls, hls⟩ : ∃ ls, ls = flowL es n := ⟨_, rfl⟩
  rw [← hls] at own h6
  have HLS := Lib.hid hls
  clear hls
  obtain ⟨av, cv, rfl⟩ := ownsRow_slice own
  go_wp2_with fail
  rw [field_flow]
  simp only [Result.andThen]
  rw [Oper.upon_value]
  go_wp2_with fail
  go_ret
  rw [← HLS.out]
  exact ⟨rfl, g⟩

theorem infoInt : (Try.prog.info? 3 /-t:int-/).map (fun i => (i.zero, i.size, i.bytes)) = some (some (.int .i64 0), 1, 8) := by kernel_rfl
def intCells (l : List Int) : List Value := l.map (Value.int .i64)

theorem intCells_take (ls : List Let) (j : Nat) (h : j < ls.length) : intCells ((ls.take (j + 1)).map (·.1)) = intCells ((ls.take j).map (·.1)) ++ [.int .i64 ls[j].1] := by
  unfold intCells; rw [List.take_succ_eq_append_getElem h, List.map_append, List.map_append]; rfl

def IntsPost (l : List Int) (w : World) (e : Ending) (w' : World) : Prop :=
  ∃ v, e = .returned v ∧ w'.ownsRow w.heap.size 3 /-t:int-/ 1 v l.length (intCells l) ∧ w.grownBy w' none

set_option maxHeartbeats 4000000 in
set_option maxRecDepth 100000 in
theorem originOf_any (n : Int) (a : Option Addr) (cap : Nat) (es : List Ed) (w : World) (h : changeFault n es = 0) (hE : Eds w a es) :
    Calls Try.prog 17 #[.int .i64 n, .slice a es.length cap] w (IntsPost ((flowL es n).map (·.1)) w) := by
  obtain ⟨h1, h2, h3, h4, h5, h6⟩ := right_all h
  obtain ⟨i0, hi, hz0, hz1, hz2⟩ := info_parts infoInt
  go_enter Try.func17, Try.ntmps17
  go_wp2_with fail
  refine (flowOf_any n a cap es w h2 h1 hE h3 h4).mono ?_
  rintro e w1 hp
  obtain ⟨lv, rfl, own, g⟩ := flowPost_len hp
  obtain ⟨ls, hls⟩ : ∃ ls, ls = flowL es n := ⟨_, rfl⟩
  rw [← hls] at own h6
  have HLS := Lib.hid hls
  clear hp h3 h4 h5 hls hE
  obtain ⟨av, cv, rfl⟩ := ownsRow_slice own
  go_wp2_with fail
  rw [field_flow]
  simp only [Result.andThen]
  rw [Oper.upon_value]
  go_wp2_with fail
  go_loopw [5, 13] (fun v i wr => ∃ j : Nat, j ≤ ls.length ∧ i = .int .i64 j ∧ wr.ownsRow w.heap.size 3 /-t:int-/ 1 v j (intCells ((ls.take j).map (·.1))) ∧ wr.ownsRow (w.heap.size + 3) 88 /-t:hedgelayer/hgref2.letter-/ 2 (.slice av ls.length cv) ls.length (letCells ls) ∧ w.grownBy wr none) (fun _ i _ => ls.length - (intOf i).toNat)
  case atStart => exact ⟨0, Nat.zero_le _, rfl, World.ownsRow_nil _ _ _ _, own, g⟩
  case round =>
    clear own g
    obtain ⟨j, hj, rfl, ownv, own, hg⟩ := hrel
    by_cases hlt : j < ls.length
    · obtain ⟨g, cap2, hv, hgb, hc⟩ := ownsRow_cell own (by omega)
      simp only [Value.slice.injEq] at hv
      obtain ⟨rfl, _, rfl⟩ := hv
      have hc0 := hc _ _ (letCells_get ls j hlt).1
      have hc1 := hc _ _ (letCells_get ls j hlt).2
      have HT := Lib.hid (show intCells ((ls.take (j + 1)).map (·.1)) = intCells ((ls.take j).map (·.1)) ++ [.int .i64 ls[j].1] from intCells_take ls j hlt)
      clear hc
      generalize ls[j] = x at hc0 hc1 HT
      obtain ⟨x1, x2⟩ := x
      simp only at hc0 hc1 HT
      have hsz := hg.size
      go_wp2_with (at_builtin; refine wpList_append_own _ rfl _ _ 22 /-t:[]int-/ rfl w.heap.size 3 /-t:int-/ i0 (.int .i64 0) 1 8 Try.underlying22 /-t:[]int-/ hi hz0 hz1 hz2 rfl (by decide) _ _ _ rfl ((ownv.alloc _).alloc _) ⟨wr.heap.size + 1, 0, none⟩ 1 1 [.int .i64 x1] rfl rfl (cells_new2 _ _ _ _) (fun x hx => by simp at hx; subst hx; rfl) (by unfold maxLen; omega) (by omega) (by simp; omega) ?_; intro v' w2 hown' hgrow _; have hg2 := grow_row (grow_alloc (grow_alloc hg (.cells #[.int .i64 x1, .int .u8 x2.toNat] 88 /-t:hedgelayer/hgref2.letter-/)) _) hgrow (fun k hk => (ownsRow_block ownv k hk).1); have own2 := append_own (by decide) ((ownv.alloc (.cells #[.int .i64 x1, .int .u8 x2.toNat] 88 /-t:hedgelayer/hgref2.letter-/)).alloc _) hgrow ((own.alloc _).alloc _); have HO := Lib.hid hown'; clear hown' hgrow own ownv hg)
      go_roundw
      case rel => exact ⟨j + 1, by omega, by go_num, by rw [HT.out]; exact HO.out, own2, hg2⟩
      case measure => simp [intOf]; omega
    · obtain rfl : j = ls.length := by omega
      have HO := Lib.hid ownv
      clear ownv own
      go_wp2_with fail
      go_ret
      refine ⟨_, rfl, ?_, hg⟩
      rw [← HLS.out]
      have := HO.out
      rw [List.take_length] at this
      simpa using this
end Go.Proofs.Ytajigndlcdiinaa
