/- InverseOf. -/
import Derived.Test.YtajigndlcdiinaaJ1
namespace Go.Proofs.Ytajigndlcdiinaa
open Go.RowKit

def invTo (s : ByteArray) (fl : List Let) (j : Nat) : List Let := (List.range j).map fun i : Nat => (idxL fl (i : Int), s.data.toList.getD i 0)
theorem invTo_succ (s : ByteArray) (fl : List Let) (j : Nat) : invTo s fl (j + 1) = invTo s fl j ++ [(idxL fl (j : Int), s.data.toList.getD j 0)] := by
  simp [invTo, List.range_succ]
theorem invTo_get (s : ByteArray) (fl : List Let) (j : Nat) (h : j < s.size) : invTo s fl (j + 1) = invTo s fl j ++ [(idxL fl (j : Int), s[j]'h)] := by
  rw [invTo_succ, List.getD_eq_getElem?_getD, List.getElem?_eq_getElem (by simpa using h)]; rfl
theorem invTo_len (s : ByteArray) (fl : List Let) (j : Nat) : (invTo s fl j).length = j := by simp [invTo]
def inverseV (s : ByteArray) (es : List Ed) : List Ed := editsOf ((flowL es s.size).length : Int) (invTo s (flowL es s.size) s.size)

/-- While the flow back is made: the flow's box and the new one's, behind the world w1. -/
def InvRel (w1 : World) (n m : Int) (lv : Value) (l : List Let) (wr : World) : Prop :=
  ∃ v, wr.heap[w1.heap.size]? = some (.cells #[.int .i64 n, lv] 85 /-t:hedgelayer/hgref2.flow-/ (0, 0)) ∧ wr.heap[w1.heap.size + 1]? = some (.cells #[.int .i64 m, v] 85 /-t:hedgelayer/hgref2.flow-/ (0, 0)) ∧
    wr.ownsRow (w1.heap.size + 2) 88 /-t:hedgelayer/hgref2.letter-/ 2 v l.length (letCells l) ∧ w1.grownBy wr none

theorem InvRel.push {w1 : World} {n m : Int} {lv : Value} {l : List Let} {wr w2 : World} {v v' : Value} {x : Let} {k : Nat} (hk : k = l.length + 1) (o : Obj)
    (h0 : wr.heap[w1.heap.size]? = some (.cells #[.int .i64 n, lv] 85 /-t:hedgelayer/hgref2.flow-/ (0, 0))) (h1 : wr.heap[w1.heap.size + 1]? = some (.cells #[.int .i64 m, v] 85 /-t:hedgelayer/hgref2.flow-/ (0, 0)))
    (own : wr.ownsRow (w1.heap.size + 2) 88 /-t:hedgelayer/hgref2.letter-/ 2 v l.length (letCells l)) (hg : w1.grownBy wr none)
    (hown : w2.ownsRow (w1.heap.size + 2) 88 /-t:hedgelayer/hgref2.letter-/ 2 v' k (letCells l ++ [.int .i64 x.1, .int .u8 x.2.toNat])) (g : (wr.alloc o).grownBy w2 v.ownBlock) :
    w2.heap[w1.heap.size + 1]? = some (.cells #[.int .i64 m, v] 85 /-t:hedgelayer/hgref2.flow-/ (0, 0)) ∧ InvRel w1 n m lv (l ++ [x]) (w2.setCell ⟨w1.heap.size + 1, 1, none⟩ v') := by
  subst hk
  have own' := own.alloc o
  have up : ∀ {b : Nat} {cs : Array Value}, wr.heap[b]? = some (.cells cs 85 /-t:hedgelayer/hgref2.flow-/ (0, 0)) → w2.heap[b]? = some (.cells cs 85 /-t:hedgelayer/hgref2.flow-/ (0, 0)) := fun {b cs} h =>
    grown_block own' g ((Below.heap_alloc _ _ _ (lt_of_block h)).trans h) (by decide)
  have u1 := up h1
  refine ⟨u1, v', ?_, heap_setCell_self u1 1 v', ?_, ?_⟩
  · rw [Below.heap_setCell _ _ _ _ (by simp)]; exact up h0
  · rw [letCells_snoc, List.length_append]
    exact ownsRow_setCell_block hown u1 (by decide) 1 v'
  · exact grow_setCell (grow_row (grow_alloc hg o) g (fun k hk => by have := (ownsRow_block own k hk).1; omega)) _ _ (by simp)

set_option maxHeartbeats 2000000 in
set_option maxRecDepth 100000 in
theorem inverseOf_any (s : ByteArray) (a : Option Addr) (cap : Nat) (es : List Ed) (w : World) (h : changeFault s.size es = 0) (hE : Eds w a es) :
    Calls Try.prog 18 #[.string s, .slice a es.length cap] w (EditsPost (inverseV s es) w) := by
  obtain ⟨h1, h2, h3, h4, h5, h6⟩ := right_all h
  obtain ⟨i0, hi, hz0, hz1, hz2⟩ := info_parts infoLet
  go_enter Try.func18, Try.ntmps18
  go_wp2_with fail
  refine (flowOf_any s.size a cap es w h2 h1 hE h3 h4).mono ?_
  rintro e w1 hp
  obtain ⟨lv, rfl, ownf, gf⟩ := flowPost_len hp
  have HV := Lib.hid (show inverseV s es = editsOf ((flowL es s.size).length : Int) (invTo s (flowL es s.size) s.size) from rfl)
  clear hp h3 h4 h5 hE
  obtain ⟨fl, hfl⟩ : ∃ fl, fl = flowL es s.size := ⟨_, rfl⟩
  rw [← hfl] at ownf h6 HV
  clear hfl
  have hss : s.size ≤ 20000 := by omega
  obtain ⟨av, cv, rfl⟩ := ownsRow_slice ownf
  go_wp2_with fail
  go_loopw [19] (fun i wr => ∃ j : Nat, j ≤ s.size ∧ i = .int .i64 j ∧ InvRel w1 s.size (fl.length : Int) (.slice av fl.length cv) (invTo s fl j) wr) (fun i _ => s.size - (intOf i).toNat)
  case atStart =>
    refine ⟨0, Nat.zero_le _, rfl, .slice none 0 0, ?_, heap_new_at _ _ _ (by simp), World.ownsRow_nil _ _ _ _, grow_alloc (grow_alloc (grow_self w1) _) _⟩
    exact (Below.heap_alloc _ _ _ (by simp)).trans (heap_alloc_new w1 _)
  case round =>
    obtain ⟨j, hj, rfl, v, h0, hF, own, hg⟩ := hrel
    by_cases hlt : j < s.size
    · have HT := Lib.hid (invTo_get s fl j hlt)
      have hlen := invTo_len s fl j
      have d0 : ∀ o, (wr.alloc o).cell? ⟨w1.heap.size, 1, none⟩ = some (.slice av fl.length cv) := fun o => cell_of_block ((Below.heap_alloc wr o _ (lt_of_block h0)).trans h0) 1
      have hown2 := ownsRow_frm (Frm.of_grown (grow_alloc hg (.cells #[.int .i64 (j : Int)] 3 /-t:int-/)) (fun _ _ => True)) ownf (fun _ _ _ _ => trivial)
      have b0 : (0 : Int) ≤ (j : Int) := Int.natCast_nonneg _
      have b1 : (j : Int) < (s.size : Int) := by omega
      go_wp2_with fail
      refine (indexFunc_any _ _ fl wr.heap.size (j : Int) _ (by omega) (heap_alloc_new wr _) hown2).mono ?_
      rintro e w3 ⟨rfl, g3⟩
      have hF3 := (g3.block _ (by have := lt_of_block hF; simp; omega) (by simp)).trans ((Below.heap_alloc _ _ _ (lt_of_block hF)).trans hF)
      have h03 := (g3.block _ (by have := lt_of_block h0; simp; omega) (by simp)).trans ((Below.heap_alloc _ _ _ (lt_of_block h0)).trans h0)
      have hI3 := (g3.block _ (by simp) (by simp)).trans (heap_alloc_new wr (.cells #[.int .i64 (j : Int)] 3 /-t:int-/))
      have own3 := ownsRow_frm (Frm.of_grown g3 (fun _ _ => True)) (own.alloc (.cells #[.int .i64 (j : Int)] 3 /-t:int-/)) (fun _ _ _ _ => trivial)
      have hg3 := grownBy_trans (grow_alloc hg (.cells #[.int .i64 (j : Int)] 3 /-t:int-/)) g3
      have hs3 := hg3.size
      have hsF := lt_of_block hF3
      clear hF h0 own hg g3 hown2 d0
      have cFa : ∀ o, (w3.alloc o).cell? ⟨w1.heap.size + 1, 1, none⟩ = some v := fun o => cell_of_block ((Below.heap_alloc w3 o _ (lt_of_block hF3)).trans hF3) 1
      have cIa : ∀ o, (w3.alloc o).cell? ⟨wr.heap.size, 0, none⟩ = some (.int .i64 (j : Int)) := fun o => cell_of_block ((Below.heap_alloc w3 o _ (lt_of_block hI3)).trans hI3) 0
      have cF := cell_of_block hF3 1
      have fF := free_of_block hF3 1
      have cI := cell_of_block hI3 0
      simp only [List.getElem?_toArray, List.getElem?_cons_zero, List.getElem?_cons_succ] at cF cI
      generalize idxL fl (j : Int) = ix at HT ⊢
      obtain ⟨L, hL⟩ : ∃ L, L = invTo s fl j := ⟨_, rfl⟩
      rw [← hL] at own3 HT hlen
      have hLl : L.length ≤ 20000 := by omega
      clear hL hlen
      go_wp2_with fail
      go_region_law (refine step_append_lies _ (by rfl) (.tmp 27) (.tmp 33) 83 /-t:[]hgref2.letter-/ (by rfl) (w1.heap.size + 2) 88 /-t:hedgelayer/hgref2.letter-/ i0 (.agg #[.int .i64 0, .int .u8 0]) 2 16 Try.underlying83 /-t:[]hgref2.letter-/ hi hz0 hz1 hz2 rfl (by omega) v L.length (letCells L) (by rfl) ((own3.alloc _).drew) ⟨w3.heap.size, 0, none⟩ 1 1 [.int .i64 ix, .int .u8 s[j].toNat] (by rfl) (by rfl) (World.news_of_block (cs := #[.int .i64 ix, .int .u8 s[j].toNat]) (t := 88 /-t:hedgelayer/hgref2.letter-/) (fr := (0, 0)) (heap_alloc_new w3 _)) (by simp [Value.oneCell']) (by omega) (by unfold maxLen; omega) (by omega) (by simp; omega) (w3.heap.size + 1) (by simp) ?_; intro gg cap1 w4 hown1 hgrow hat hlt1; have hgrow2 : (w3.alloc (.cells #[.int .i64 ix, .int .u8 s[j].toNat] 88 /-t:hedgelayer/hgref2.letter-/)).grownBy w4 v.ownBlock := ⟨hgrow.os, hgrow.tape, hgrow.output, hgrow.size, hgrow.block⟩; have R := InvRel.push (x := (ix, s[j])) rfl _ h03 hF3 own3 hg3 hown1 hgrow2; have cF1 := cell_of_block R.1 1; have fF1 := free_of_block R.1 1; simp only [List.getElem?_toArray, List.getElem?_cons_zero, List.getElem?_cons_succ] at cF1; have HR := Lib.hid R.2; clear hown1 hgrow hgrow2 hat hlt1 R)
      all_goals
        go_wp2_with fail
        go_roundw
        case rel => exact ⟨j + 1, by omega, by go_num, by rw [HT.out]; exact HR.out⟩
        case measure => simp [intOf]; omega
    · obtain rfl : j = s.size := by omega
      have hlen := invTo_len s fl s.size
      have hmem : ∀ x, x ∈ invTo s fl s.size → x.1 ≤ 100000 := by
        intro x hx
        simp only [invTo, List.mem_map] at hx
        obtain ⟨i, _, rfl⟩ := hx
        have := idxGo_bd (i : Int) fl 0
        simp only [idxL]
        omega
      have cF0 := cell_of_block hF 0
      have cF1 := cell_of_block hF 1
      simp only [List.getElem?_toArray, List.getElem?_cons_zero, List.getElem?_cons_succ] at cF0 cF1
      have G := grownBy_trans gf hg
      have HM := Lib.hid hmem
      clear hmem
      obtain ⟨L, hL⟩ : ∃ L, L = invTo s fl s.size := ⟨_, rfl⟩
      rw [← hL] at own hlen HM HV
      obtain ⟨av2, cv2, rfl⟩ := ownsRow_slice own
      have hlen2 : L.length ≤ 20000 := by omega
      clear hL hlen
      go_wp2_with fail
      refine (edits_any (fl.length : Int) _ _ L wr (by omega) (by omega) HM.out own).mono ?_
      rintro e w5 ⟨v5, rfl, own5, g5⟩
      have hsz := G.size
      obtain ⟨a5, c5, rfl⟩ := ownsRow_slice own5
      go_wp2_with fail
      go_ret
      refine ⟨_, rfl, ?_, grownBy_trans G g5⟩
      rw [HV.out]
      exact ownsRow_base own5 hsz
end Go.Proofs.Ytajigndlcdiinaa
