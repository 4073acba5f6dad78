/- HullOf. -/
import Derived.Test.YtajigndlcdiinaaDF3
import Derived.Deep.RegionHeld3
namespace Go.Proofs.Ytajigndlcdiinaa
open Go.RowKit

def hullNew (s : ByteArray) (es : List Ed) (f t : Int) : ByteArray :=
  (ByteArray.mk (applyL s (flowL es s.size)).toArray).extract f.toNat (((applyL s (flowL es s.size)).length : Int) - ((s.size : Int) - t)).toNat

def HullPost (ed : Ed) (ok : Bool) (w : World) (e : Ending) (w' : World) : Prop :=
  e = .returned (.tuple #[.agg #[.int .i64 ed.at_, .int .i64 ed.old, .string ed.new], .bool ok]) ∧ w.grownBy w' none

set_option maxHeartbeats 1000000 in
set_option maxRecDepth 100000 in
theorem hullOf_none (n : Int) (s : ByteArray) (a : Option Addr) (cap : Nat) (w : World) :
    Calls Try.prog 42 #[.int .i64 n, .slice a 0 cap, .string s] w (HullPost ⟨0, 0, ⟨#[]⟩⟩ false w) := by
  go_enter Try.func42, Try.ntmps42
  go_wp2_with fail
  refine bodyPost_ret (v := .tuple #[.agg #[.int .i64 0, .int .i64 0, .string ⟨#[]⟩], .bool false]) (by simp [results, Try.results42, go_sem]) rfl ⟨rfl, ?_⟩
  exact World.grownBy_alloc _ _ _

set_option maxHeartbeats 4000000 in
set_option maxRecDepth 100000 in
theorem hullOf_some (s : ByteArray) (a : Option Addr) (cap : Nat) (es : List Ed) (w : World) (hl : es.length ≤ 2000) (hn : s.size ≤ 20000) (hE : Eds w a es)
    (hG : ∀ j, j ≤ es.length → (flowTo es j).1.length ≤ 60000 ∧ 0 ≤ (flowTo es j).2 ∧ (flowTo es j).2 ≤ 20000)
    (hS : ∀ e, e ∈ es → 0 ≤ e.at_ ∧ e.at_ ≤ 20000 ∧ 0 ≤ e.old ∧ e.old ≤ 20000 ∧ e.new.size ≤ 40000)
    (hI : ∀ x, x ∈ flowL es s.size → x.1 < s.size) (h0 : 0 < es.length) (t : Int) (ht : t = es[es.length - 1].at_ + es[es.length - 1].old) (ht2 : t ≤ s.size)
    (hb : es[0].at_ + (s.size - t) ≤ (flowL es s.size).length) :
    Calls Try.prog 42 #[.int .i64 s.size, .slice a es.length cap, .string s] w (HullPost ⟨es[0].at_, t - es[0].at_, hullNew s es es[0].at_ t⟩ true w) := by
  obtain ⟨g, off, rfl, c1, c2, c3⟩ := hE 0 h0
  obtain ⟨g', off', e', d1, d2, d3⟩ := hE (es.length - 1) (by omega)
  simp only [Option.some.injEq, Addr.mk.injEq, and_true] at e'
  obtain ⟨rfl, rfl⟩ := e'
  have hs1 := hS _ (List.getElem_mem h0)
  have hs2 := hS _ (List.getElem_mem (show es.length - 1 < es.length by omega))
  generalize hx1 : es[0] = x1 at c1 c2 c3 hs1 hb ⊢
  generalize hx2 : es[es.length - 1] = x2 at d1 d2 d3 hs2 ht ⊢
  clear hx1 hx2
  obtain ⟨a1, o1, n1⟩ := x1
  obtain ⟨a2, o2, n2⟩ := x2
  simp only at c1 c2 c3 hs1 hb d1 d2 d3 hs2 ht ⊢
  subst ht
  obtain ⟨m, hm⟩ : ∃ m, es.length = m + 1 := ⟨es.length - 1, by omega⟩
  have hs3 : es.length - 1 = m := by omega
  rw [hs3] at d1 d2 d3
  simp only [Nat.zero_mul, Nat.add_zero] at c1 c2 c3
  have HX := Lib.hid hE
  have HM := Lib.hid hm
  rw [hm]
  have hm2 : m + 1 ≤ 2000 := by omega
  clear hE hs3 hm h0 hl
  have hz : (((m + 1 : Nat) : Int) == 0) = false := beq_eq_false_iff_ne.2 (by omega)
  have hz2 : ((m : Int) + 1 == 0) = false := beq_eq_false_iff_ne.2 (by omega)
  have AP : ∀ W, w.grownBy W none → Calls Try.prog 16 #[.string s, .slice (some ⟨g, off, none⟩) (m + 1) cap] W (ApplyPost s (flowL es s.size) W) := fun W hW => by
    have := applyOf_any s (some ⟨g, off, none⟩) cap es W (by rw [HM.out]; omega) hn (HX.out.grown hW (by simp)) hG hS hI
    rwa [HM.out] at this
  have hq : (flowL es s.size).length ≤ 90000 := by
    have := hG es.length (Nat.le_refl _)
    simp only [flowL, gapL, List.length_append, keepL_len]; omega
  have HAP := Lib.hid AP
  clear AP hG hI
  have wr1 : IntKind.i64.wrap (m : Int) = (m : Int) := IntWalk.i64_in _ (by omega)
  have i1 : (0 : Int) ≤ (m : Int) := by omega
  have i2 : (m : Int) < (m : Int) + 1 := by omega
  go_enter Try.func42, Try.ntmps42
  go_wp2_with fail
  go_region_held3 (fun w' => w'.cell? ⟨g, off, none⟩ = some (.int .i64 a1) ∧ w'.cell? ⟨g, off + 1, none⟩ = some (.int .i64 o1) ∧ w'.cell? ⟨g, off + 2, none⟩ = some (.string n1) ∧ w'.cell? ⟨g, off + m * 3, none⟩ = some (.int .i64 a2) ∧ w'.cell? ⟨g, off + m * 3 + 1, none⟩ = some (.int .i64 o2) ∧ w'.cell? ⟨g, off + m * 3 + 2, none⟩ = some (.string n2)) (((try dsimp only); refine ⟨?_, ?_, ?_, ?_, ?_, ?_⟩ <;> (refine cell_grown (w := w) (by assumption) ?_; repeat (first | exact grow_self _ | apply grow_alloc | apply grow_drew | (refine grow_setCell ?_ _ _ (by simp; try omega)))))) (fail)
  · go_wp2_with fail
    refine (HAP.out _ ?gw).mono ?_
    case gw => repeat (first | exact grow_self _ | apply grow_alloc | apply grow_drew)
    rintro e w9 ⟨rfl, g9⟩
    have bB : w9.heap[w.heap.size + 1]? = some (.cells #[.int .i64 a1, .int .i64 o1, .string n1] 47 /-t:hedgelayer/api.Edit-/) := by
      rw [g9.block _ (by simp [World.drew]) (by simp)]
      exact (Below.heap_alloc _ _ _ (by simp)).trans (heap_new_at _ _ _ (by simp))
    have bR : w9.heap[w.heap.size]? = some (.cells #[.int .i64 0, .int .i64 0, .string ⟨#[]⟩] 47 /-t:hedgelayer/api.Edit-/) := by
      rw [g9.block _ (by simp [World.drew]; omega) (by simp)]
      exact (Below.heap_alloc _ _ _ (by simp; omega)).trans ((Below.heap_alloc _ _ _ (by simp)).trans (heap_alloc_new w _))
    have G := Lib.hid (grownBy_trans (grow_drew (grow_alloc (grow_alloc (grow_alloc (grow_self w) (.cells #[.int .i64 0, .int .i64 0, .string ⟨#[]⟩] 47 /-t:hedgelayer/api.Edit-/)) (.cells #[.int .i64 a1, .int .i64 o1, .string n1] 47 /-t:hedgelayer/api.Edit-/)) (.cells #[.int .i64 a2, .int .i64 o2, .string n2] 47 /-t:hedgelayer/api.Edit-/))) g9)
    clear g9
    have cB0 := cell_of_block bB 0
    have cR0 := cell_of_block bR 0
    have cR1 := cell_of_block bR 1
    have cR2 := cell_of_block bR 2
    have fR0 := free_of_block bR 0
    have fR1 := free_of_block bR 1
    have fR2 := free_of_block bR 2
    simp only [List.getElem?_toArray, List.getElem?_cons_zero, List.getElem?_cons_succ] at cB0 cR0 cR1 cR2
    clear bB
    have hll : (applyL s (flowL es s.size)).length = (flowL es s.size).length := by simp [applyL]
    have HN := Lib.hid (show hullNew s es a1 (a2 + o2) = (ByteArray.mk (applyL s (flowL es s.size)).toArray).extract a1.toNat (((applyL s (flowL es s.size)).length : Int) - ((s.size : Int) - (a2 + o2))).toNat from rfl)
    have hne : w.heap.size ≠ w.heap.size + 1 + 1 := by omega
    have hne2 : w.heap.size + 1 + 1 ≠ w.heap.size := by omega
    rw [← hll] at hb hq
    clear hll
    generalize applyL s (flowL es s.size) = L at hb hq HN ⊢
    have v1 : IntKind.i64.wrap (a2 + o2 - a1) = a2 + o2 - a1 := IntWalk.i64_in _ (by omega)
    have v2 : IntKind.i64.wrap ((s.size : Int) - (a2 + o2)) = (s.size : Int) - (a2 + o2) := IntWalk.i64_in _ (by omega)
    have v3 : IntKind.i64.wrap ((L.length : Int) - ((s.size : Int) - (a2 + o2))) = (L.length : Int) - ((s.size : Int) - (a2 + o2)) := IntWalk.i64_in _ (by omega)
    have b1 : a1 ≤ (L.length : Int) - ((s.size : Int) - (a2 + o2)) := by omega
    have b2 : (L.length : Int) - ((s.size : Int) - (a2 + o2)) ≤ (L.length : Int) := by omega
    have b3 : 0 ≤ a1 := by omega
    go_wp2_with fail
    go_region_held3 (fun w' => w'.cell? ⟨w.heap.size + 1, 0, none⟩ = some (.int .i64 a1)) (first | go_keep) (fail)
    have G3 := Lib.hid (grow_setCell (grow_setCell (grow_setCell G.out ⟨w.heap.size, 0, none⟩ (.int .i64 a1) (Nat.le_refl _)) ⟨w.heap.size, 1, none⟩ (.int .i64 (a2 + o2 - a1)) (Nat.le_refl _)) ⟨w.heap.size, 2, none⟩ (.string ((ByteArray.mk L.toArray).extract a1.toNat ((L.length : Int) - ((s.size : Int) - (a2 + o2))).toNat)) (Nat.le_refl _))
    go_wp2_with fail
    refine bodyPost_ret (v := .tuple #[.agg #[.int .i64 a1, .int .i64 (a2 + o2 - a1), .string ((ByteArray.mk L.toArray).extract a1.toNat ((L.length : Int) - ((s.size : Int) - (a2 + o2))).toNat)], .bool true]) (by simp [results, Try.results42, go_sem, cR0, cR1, cR2]) rfl ⟨by rw [HN.out], grow_drew G3.out⟩
  · go_wp2_with fail
    refine (HAP.out _ ?gw).mono ?_
    case gw => repeat (first | exact grow_self _ | apply grow_alloc | apply grow_drew)
    rintro e w9 ⟨rfl, g9⟩
    have bB : w9.heap[w.heap.size + 1 + 1]? = some (.cells #[.int .i64 a1, .int .i64 o1, .string n1] 47 /-t:hedgelayer/api.Edit-/) := by
      rw [g9.block _ (by simp [World.drew]) (by simp)]
      exact heap_new_at _ _ _ (by simp)
    have bR : w9.heap[w.heap.size]? = some (.cells #[.int .i64 0, .int .i64 0, .string ⟨#[]⟩] 47 /-t:hedgelayer/api.Edit-/) := by
      rw [g9.block _ (by simp [World.drew]; omega) (by simp)]
      exact (Below.heap_alloc _ _ _ (by simp; omega)).trans ((Below.heap_alloc _ _ _ (by simp)).trans (heap_alloc_new w _))
    have G := Lib.hid (grownBy_trans (grow_drew (grow_alloc (grow_alloc (grow_alloc (grow_self w) (.cells #[.int .i64 0, .int .i64 0, .string ⟨#[]⟩] 47 /-t:hedgelayer/api.Edit-/)) (.cells #[.int .i64 a2, .int .i64 o2, .string n2] 47 /-t:hedgelayer/api.Edit-/)) (.cells #[.int .i64 a1, .int .i64 o1, .string n1] 47 /-t:hedgelayer/api.Edit-/))) g9)
    clear g9
    have cB0 := cell_of_block bB 0
    have cR0 := cell_of_block bR 0
    have cR1 := cell_of_block bR 1
    have cR2 := cell_of_block bR 2
    have fR0 := free_of_block bR 0
    have fR1 := free_of_block bR 1
    have fR2 := free_of_block bR 2
    simp only [List.getElem?_toArray, List.getElem?_cons_zero, List.getElem?_cons_succ] at cB0 cR0 cR1 cR2
    clear bB
    have hll : (applyL s (flowL es s.size)).length = (flowL es s.size).length := by simp [applyL]
    have HN := Lib.hid (show hullNew s es a1 (a2 + o2) = (ByteArray.mk (applyL s (flowL es s.size)).toArray).extract a1.toNat (((applyL s (flowL es s.size)).length : Int) - ((s.size : Int) - (a2 + o2))).toNat from rfl)
    have hne : w.heap.size ≠ w.heap.size + 1 + 1 := by omega
    have hne2 : w.heap.size + 1 + 1 ≠ w.heap.size := by omega
    rw [← hll] at hb hq
    clear hll
    generalize applyL s (flowL es s.size) = L at hb hq HN ⊢
    have v1 : IntKind.i64.wrap (a2 + o2 - a1) = a2 + o2 - a1 := IntWalk.i64_in _ (by omega)
    have v2 : IntKind.i64.wrap ((s.size : Int) - (a2 + o2)) = (s.size : Int) - (a2 + o2) := IntWalk.i64_in _ (by omega)
    have v3 : IntKind.i64.wrap ((L.length : Int) - ((s.size : Int) - (a2 + o2))) = (L.length : Int) - ((s.size : Int) - (a2 + o2)) := IntWalk.i64_in _ (by omega)
    have b1 : a1 ≤ (L.length : Int) - ((s.size : Int) - (a2 + o2)) := by omega
    have b2 : (L.length : Int) - ((s.size : Int) - (a2 + o2)) ≤ (L.length : Int) := by omega
    have b3 : 0 ≤ a1 := by omega
    go_wp2_with fail
    go_region_held3 (fun w' => w'.cell? ⟨w.heap.size + 1 + 1, 0, none⟩ = some (.int .i64 a1)) (first | go_keep) (fail)
    have G3 := Lib.hid (grow_setCell (grow_setCell (grow_setCell G.out ⟨w.heap.size, 0, none⟩ (.int .i64 a1) (Nat.le_refl _)) ⟨w.heap.size, 1, none⟩ (.int .i64 (a2 + o2 - a1)) (Nat.le_refl _)) ⟨w.heap.size, 2, none⟩ (.string ((ByteArray.mk L.toArray).extract a1.toNat ((L.length : Int) - ((s.size : Int) - (a2 + o2))).toNat)) (Nat.le_refl _))
    go_wp2_with fail
    refine bodyPost_ret (v := .tuple #[.agg #[.int .i64 a1, .int .i64 (a2 + o2 - a1), .string ((ByteArray.mk L.toArray).extract a1.toNat ((L.length : Int) - ((s.size : Int) - (a2 + o2))).toNat)], .bool true]) (by simp [results, Try.results42, go_sem, cR0, cR1, cR2]) rfl ⟨by rw [HN.out], grow_drew G3.out⟩
end Go.Proofs.Ytajigndlcdiinaa
