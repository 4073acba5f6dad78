/- ApplyOf. -/
import Derived.Test.YtajigndlcdiinaaDF2
import Derived.Test.YtajigndlcdiinaaDB1
import Derived.Test.YtajigndlcdiinaaDShelf
namespace Go.Proofs.Ytajigndlcdiinaa
open Go.RowKit

theorem letCells_get (ls : List Let) (j : Nat) (h : j < ls.length) : (letCells ls)[j * 2]? = some (.int .i64 ls[j].1) ∧ (letCells ls)[j * 2 + 1]? = some (.int .u8 ls[j].2.toNat) := by
  induction ls generalizing j with
  | nil => simp at h
  | cons x l ih =>
    cases j with
    | zero => simp [letCells]
    | succ j =>
      have := ih j (by simpa using h)
      have e : letCells (x :: l) = .int .i64 x.1 :: .int .u8 x.2.toNat :: letCells l := rfl
      rw [e, show (j + 1) * 2 = j * 2 + 1 + 1 by omega]
      simpa using this

/-- The bytes that the first j letters become. -/
def letByte (s : ByteArray) (x : Let) : UInt8 := if 0 ≤ x.1 then s.data.toList.getD x.1.toNat 0 else x.2
theorem letByte_new (s : ByteArray) (x1 : Int) (x2 : UInt8) (h : ¬ 0 ≤ x1) : letByte s (x1, x2) = x2 := by unfold letByte; rw [if_neg h]
theorem letByte_old (s : ByteArray) (x1 : Int) (x2 : UInt8) (h : 0 ≤ x1) (hs : x1.toNat < s.size) : letByte s (x1, x2) = s[x1.toNat] := by
  unfold letByte; rw [if_pos h]
  rw [List.getD_eq_getElem?_getD, List.getElem?_eq_getElem (by simpa using hs)]; rfl
def applyL (s : ByteArray) (ls : List Let) : List UInt8 := ls.map (letByte s)

theorem field_flow (n : Int) (av : Option Addr) (l c : Nat) (w : World) : (Instr.field 85 /-t:hedgelayer/hgref2.flow-/ (.agg #[.int .i64 n, .slice av l c]) 1).run Try.prog w = .ok (.slice av l c) w := by kernel_rfl

theorem applyL_succ (s : ByteArray) (ls : List Let) (j : Nat) (h : j < ls.length) : applyL s (ls.take (j + 1)) = applyL s (ls.take j) ++ [letByte s ls[j]] := by
  unfold applyL; rw [List.take_succ_eq_append_getElem h, List.map_append]; rfl

def ApplyPost (s : ByteArray) (ls : List Let) (w : World) (e : Ending) (w' : World) : Prop := e = .returned (.string ⟨(applyL s ls).toArray⟩) ∧ w.grownBy w' none

def flowL (es : List Ed) (n : Int) : List Let := (flowTo es es.length).1 ++ gapL (flowTo es es.length).2 n

set_option maxHeartbeats 4000000 in
set_option maxRecDepth 100000 in
theorem applyOf_any (s : ByteArray) (a : Option Addr) (cap : Nat) (es : List Ed) (w : World) (hl : es.length ≤ 2000) (hn : s.size ≤ 20000) (hE : Eds w a es)
    (hG : ∀ j, j ≤ es.length → (flowTo es j).1.length ≤ 60000 ∧ 0 ≤ (flowTo es j).2 ∧ (flowTo es j).2 ≤ 20000)
    (hS : ∀ e, e ∈ es → 0 ≤ e.at_ ∧ e.at_ ≤ 20000 ∧ 0 ≤ e.old ∧ e.old ≤ 20000 ∧ e.new.size ≤ 40000)
    (hI : ∀ x, x ∈ flowL es s.size → x.1 < s.size) :
    Calls Try.prog 16 #[.string s, .slice a es.length cap] w (ApplyPost s (flowL es s.size) w) := by
  have hlen : (flowL es s.size).length ≤ 80000 := by
    have := hG es.length (Nat.le_refl _)
    simp only [flowL, gapL, List.length_append, keepL_len]; omega
  go_enter Try.func16, Try.ntmps16
  go_wp2_with fail
  refine (flowOf_any s.size a cap es _ hl (by omega) (hE.grown (World.grownBy_alloc w _ none) (by simp)) hG hS).mono ?_
  rintro e w1 ⟨lv, rfl, own, g⟩
  change w1.ownsRow _ _ _ _ (flowL es s.size).length (letCells (flowL es s.size)) at own
  obtain ⟨ls, hls⟩ : ∃ ls, ls = flowL es s.size := ⟨_, rfl⟩
  rw [← hls] at own hlen hI
  have HLS := Lib.hid hls
  clear hls
  obtain ⟨av, cv, rfl⟩ := ownsRow_slice own
  go_wp2_with fail
  rw [field_flow]
  simp only [Result.andThen]
  rw [Oper.upon_value]
  go_wp2_with fail
  go_loopw [14] (fun i wr => ∃ j : Nat, j ≤ ls.length ∧ i = .int .i64 j ∧ Bld w.heap.size w.heap.size (applyL s (ls.take j)) wr ∧ wr.ownsRow (w.heap.size + 1 + 3) 88 /-t:hedgelayer/hgref2.letter-/ 2 (.slice av ls.length cv) ls.length (letCells ls) ∧ w.grownBy wr none) (fun i _ => ls.length - (intOf i).toNat)
  case atStart =>
    refine ⟨0, Nat.zero_le _, rfl, ?_, ?_, grow_trans (World.grownBy_alloc w _ none) g⟩
    · exact Bld.grown (l := []) (Lib.fresh_isBuilder 82 /-t:strings.Builder-/ 5 /-t:uint8-/ w) g
    · simpa using own
  case round =>
    obtain ⟨j, hj, rfl, hB, own, hg⟩ := hrel
    have hsz := hg.size
    by_cases hlt : j < ls.length
    · obtain ⟨g, cap2, hv, hgb, hc⟩ := ownsRow_cell own (by omega)
      simp only [Value.slice.injEq] at hv
      obtain ⟨rfl, _, rfl⟩ := hv
      have hc0 := hc _ _ (letCells_get ls j hlt).1
      have hc1 := hc _ _ (letCells_get ls j hlt).2
      have hx := hI _ (List.getElem_mem hlt)
      have HC := Lib.hid hc
      have HT := Lib.hid (applyL_succ s ls j hlt)
      clear hc
      generalize ls[j] = x at hc0 hc1 hx HT
      obtain ⟨x1, x2⟩ := x
      simp only at hc0 hc1 hx HT
      by_cases hp : 0 ≤ x1
      · have hsb : x1.toNat < s.size := by omega
        have HB := Lib.hid (show letByte s (x1, x2) = s[x1.toNat] from letByte_old s x1 x2 hp hsb)
        go_wp2_with fail
        refine (writeByte_any w.heap.size w.heap.size _ (s[x1.toNat]) _ (hB.grown (World.grownBy_alloc wr _ none)) (by simp only [applyL, List.length_map, List.length_take]; omega) (by simp; omega)).mono ?_
        rintro e w2 ⟨rfl, hB2, F2⟩
        have hg2 := grown_of_bld (grow_trans hg (World.grownBy_alloc wr _ none)) F2 (Nat.le_refl _) (Nat.le_refl _)
        have own2 := ownsRow_frm F2 (own.alloc _) (fun k c hk hkc => ⟨by omega, Or.inr (by intro c' fr h; simp at h)⟩)
        clear hB own hg F2
        go_wp2_with fail
        go_roundw
        case rel => exact ⟨j + 1, by omega, by go_num, by rw [HT.out, HB.out]; exact Or.inr hB2, own2, hg2⟩
        case measure => simp [intOf]; omega
      · have hp' : x1 < 0 := by omega
        have HB := Lib.hid (show letByte s (x1, x2) = x2 from letByte_new s x1 x2 hp)
        go_wp2_with fail
        refine (writeByte_any w.heap.size w.heap.size _ (x2) _ (hB.grown (World.grownBy_alloc wr _ none)) (by simp only [applyL, List.length_map, List.length_take]; omega) (by simp; omega)).mono ?_
        rintro e w2 ⟨rfl, hB2, F2⟩
        have hg2 := grown_of_bld (grow_trans hg (World.grownBy_alloc wr _ none)) F2 (Nat.le_refl _) (Nat.le_refl _)
        have own2 := ownsRow_frm F2 (own.alloc _) (fun k c hk hkc => ⟨by omega, Or.inr (by intro c' fr h; simp at h)⟩)
        clear hB own hg F2
        go_wp2_with fail
        go_roundw
        case rel => exact ⟨j + 1, by omega, by go_num, by rw [HT.out, HB.out]; exact Or.inr hB2, own2, hg2⟩
        case measure => simp [intOf]; omega
    · obtain rfl : j = ls.length := by omega
      rw [List.take_length] at hB
      go_wp2_with fail
      refine (Try.Builder_String_any w.heap.size w.heap.size _ wr hB hsz).mono ?_
      rintro e w2 ⟨rfl, hb2⟩
      go_wp2_with fail
      go_ret
      unfold ApplyPost
      rw [← HLS.out]
      exact ⟨rfl, grow_below hg hb2⟩
end Go.Proofs.Ytajigndlcdiinaa
