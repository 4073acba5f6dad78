/- Package edit: Apply, Hull; hglaw2.edited. -/
import Derived.Test.YtajigndlcdiinaaDA3
import Derived.Test.YtajigndlcdiinaaDP2
import Derived.Deep.RegionHeld3
namespace Go.Proofs.Ytajigndlcdiinaa
open Go.RowKit

def ApplyEPost (s : ByteArray) (es : List Ed) (w : World) (e : Ending) (w' : World) : Prop :=
  e = .returned (.tuple #[.string (if faultText s es ≠ 0 then ⟨#[]⟩ else ⟨(applyL s (flowL es s.size)).toArray⟩), .int .i64 (faultText s es)]) ∧ w.grownBy w' none

theorem apply_any (s : ByteArray) (a : Option Addr) (cap : Nat) (es : List Ed) (w : World) (hs : s.size ≤ 1000000000) (hl : es.length ≤ 1000000) (hE : Eds w a es) (hS : EdsSmall es) :
    Calls Try.prog 10 #[.string s, .slice a es.length cap] w (ApplyEPost s es w) := by
  obtain ⟨P, hP⟩ : ∃ P, ApplyEPost s es w = P := ⟨_, rfl⟩
  rw [hP]
  unfold ApplyEPost at hP
  have HC := Lib.hid (checkText_any s a cap es w hs hl hE hS)
  by_cases h : faultText s es = 0
  · have hf : changeFault s.size es = 0 := by
      unfold faultText at h
      split at h
      · omega
      · exact h
    have HAp := Lib.hid (fun W (g : w.grownBy W none) => applyP_any s a cap es W hf (hE.grown g (by simp)))
    rw [h] at HC hP
    rw [if_neg (by simp)] at hP
    have HP := Lib.hid hP
    clear h hf hP hE
    go_enter Try.func10, Try.ntmps10
    go_wp2_with fail
    refine HC.out.mono ?_
    rintro e w1 ⟨rfl, g1⟩
    go_wp2_with fail
    refine (HAp.out w1 g1).mono ?_
    rintro e w2 ⟨rfl, g2⟩
    have G := Lib.hid (grow_trans g1 g2)
    clear HAp HC g1 g2
    generalize applyL s (flowL es s.size) = L at HP ⊢
    go_wp2_with fail
    try go_ret2
    rw [← HP.out]
    exact ⟨rfl, G.out⟩
  · have hb : (faultText s es != 0) = true := by simpa using h
    rw [if_pos h] at hP
    clear hE h
    generalize faultText s es = F at HC hP hb
    have HP := Lib.hid hP
    clear hP
    go_enter Try.func10, Try.ntmps10
    go_wp2_with fail
    refine HC.out.mono ?_
    rintro e w1 ⟨rfl, g1⟩
    have G := Lib.hid g1
    clear g1 HC
    go_wp2_with fail
    try go_ret2
    rw [← HP.out]
    exact ⟨rfl, G.out⟩

theorem edited_any (w : World) : Calls Try.prog 24 #[] w fun e w' => e = .returned (.bool true) ∧ w.grownBy w' none := by
  have HA := Lib.hid (fun (cap : Nat) => apply_any ⟨#[97, 98]⟩ (some ⟨w.heap.size, 0, none⟩) cap [⟨1, 0, ⟨#[120]⟩⟩] (w.alloc (.cells #[.int .i64 1, .int .i64 0, .string ⟨#[120]⟩] 47)) (by decide) (by simp) (by
    intro j hj
    have hj0 : j = 0 := by simpa using hj
    subst hj0
    have b := heap_alloc_new w (.cells #[.int .i64 1, .int .i64 0, .string ⟨#[120]⟩] 47)
    exact ⟨w.heap.size, 0, rfl, cell_of_block b 0, cell_of_block b 1, cell_of_block b 2⟩) (by
    intro e he
    simp at he
    subst he
    refine ⟨by decide, ?_, ?_, ?_, ?_⟩ <;> simp only <;> omega))
  have h0 : faultText ⟨#[97, 98]⟩ [⟨1, 0, ⟨#[120]⟩⟩] = 0 := by decide
  have h1 : applyL ⟨#[97, 98]⟩ (flowL [⟨1, 0, ⟨#[120]⟩⟩] 2) = [97, 120, 98] := by decide
  unfold ApplyEPost at HA
  rw [h0, if_neg (by simp)] at HA
  rw [show ((ByteArray.mk #[97, 98]).size : Int) = 2 from rfl, h1] at HA
  clear h0 h1
  go_enter Try.func24, Try.ntmps24
  go_wp2_with fail
  refine (HA.out _).mono ?_
  rintro e w1 ⟨rfl, g1⟩
  have G := Lib.hid (grow_trans (World.grownBy_alloc _ _ _) g1)
  clear HA g1
  go_wp2_with fail
  go_ret
  exact ⟨ret_bool (by decide), G.out⟩

set_option maxHeartbeats 4000000 in
set_option maxRecDepth 100000 in
theorem hullP_any (s : ByteArray) (a : Option Addr) (cap : Nat) (es : List Ed) (w : World) (hss : s.size ≤ 20000) (hl : es.length ≤ 100000) (hE : Eds w a es) (hS : EdsSmall es) (hull : Ed) (hB : Bool)
    (hd : if changeFault s.size es ≠ 0 then hull = ⟨0, 0, ⟨#[]⟩⟩ ∧ hB = false else hull = hullE s es ∧ hB = hullB es) :
    Calls Try.prog 39 #[.string s, .slice a es.length cap] w fun e w' => e = .returned (.tuple #[.agg #[.int .i64 hull.at_, .int .i64 hull.old, .string hull.new], .bool hB, .int .i64 (changeFault s.size es)]) ∧ w.grownBy w' none := by
  have HC := checkText_any s a cap es (w.alloc (.cells #[.int .i64 0, .int .i64 0, .string ⟨#[]⟩] 47)) (by omega) (by omega) (hE.grown (World.grownBy_alloc _ _ none) (by simp)) hS
  rw [show faultText s es = changeFault s.size es by rw [faultText, if_neg (by omega)]] at HC
  by_cases h : changeFault s.size es = 0
  · rw [if_neg (by simp [h])] at hd
    obtain ⟨rfl, rfl⟩ := hd
    obtain ⟨r1, r2, r3, r4, r5, r6⟩ := right_all h
    have HAp := Lib.hid (fun W (g : w.grownBy W none) => applyP_any s a cap es W h (hE.grown g (by simp)))
    rw [h] at HC ⊢
    have HC := Lib.hid HC
    by_cases hn0 : es = []
    · subst hn0
      clear HAp hE h r1 r2 r3 r4 r5 r6
      go_enter Try.func39, Try.ntmps39
      go_wp2_with fail
      refine HC.out.mono ?_
      rintro e w1 ⟨rfl, g1⟩
      have bR := (g1.block _ (by simp) (by simp)).trans (heap_alloc_new w (.cells #[.int .i64 0, .int .i64 0, .string ⟨#[]⟩] 47))
      have cR0 := cell_of_block bR 0
      have cR1 := cell_of_block bR 1
      have cR2 := cell_of_block bR 2
      have fR0 := free_of_block bR 0
      have fR1 := free_of_block bR 1
      have fR2 := free_of_block bR 2
      simp only [List.getElem?_toArray, List.getElem?_cons_zero, List.getElem?_cons_succ] at cR0 cR1 cR2
      have G := Lib.hid (grow_trans (World.grownBy_alloc w (.cells #[.int .i64 0, .int .i64 0, .string ⟨#[]⟩] 47) none) g1)
      have G3 := Lib.hid (grow_setCell (grow_setCell (grow_setCell G.out ⟨w.heap.size, 0, none⟩ (.int .i64 0) (Nat.le_refl _)) ⟨w.heap.size, 1, none⟩ (.int .i64 0) (Nat.le_refl _)) ⟨w.heap.size, 2, none⟩ (.string ⟨#[]⟩) (Nat.le_refl _))
      clear bR g1 HC
      go_wp2_with fail
      refine bodyPost_ret (v := .tuple #[.agg #[.int .i64 0, .int .i64 0, .string ⟨#[]⟩], .bool false, .int .i64 0]) (by simp [results, Try.results39, go_sem, cR0, cR1, cR2]) rfl ⟨rfl, G3.out⟩
    · have h0 : 0 < es.length := by cases es with | nil => exact absurd rfl hn0 | cons _ _ => simp
      obtain ⟨q1, q2⟩ := right_hull h h0
      have HN : hullE s es = ⟨es[0].at_, es[es.length - 1].at_ + es[es.length - 1].old - es[0].at_, hullNew s es es[0].at_ (es[es.length - 1].at_ + es[es.length - 1].old)⟩ ∧ hullB es = true := by
        cases es with
        | nil => exact absurd rfl hn0
        | cons e r => rw [show (e :: r)[(e :: r).length - 1] = (e :: r).getLast (by simp) from (List.getLast_eq_getElem (by simp)).symm]; exact ⟨rfl, rfl⟩
      rw [HN.1, HN.2]
      clear HN hn0 h
      obtain ⟨g, off, rfl, c1, c2, c3⟩ := hE 0 h0
      obtain ⟨g', off', e', d1, d2, d3⟩ := hE (es.length - 1) (by omega)
      simp only [Option.some.injEq, Addr.mk.injEq, and_true] at e'
      obtain ⟨rfl, rfl⟩ := e'
      have hs1 := r4 _ (List.getElem_mem h0)
      have hs2 := r4 _ (List.getElem_mem (show es.length - 1 < es.length by omega))
      have hq : (flowL es s.size).length ≤ 20000 := r6
      generalize hx1 : es[0] = x1 at c1 c2 c3 hs1 q2 ⊢
      generalize hx2 : es[es.length - 1] = x2 at d1 d2 d3 hs2 q1 q2 ⊢
      clear hx1 hx2
      obtain ⟨a1, o1, n1⟩ := x1
      obtain ⟨a2, o2, n2⟩ := x2
      simp only at c1 c2 c3 hs1 q1 q2 d1 d2 d3 hs2 ⊢
      obtain ⟨m, hm⟩ : ∃ m, es.length = m + 1 := ⟨es.length - 1, by omega⟩
      have hs3 : es.length - 1 = m := by omega
      rw [hs3] at d1 d2 d3
      simp only [Nat.zero_mul, Nat.add_zero] at c1 c2 c3
      rw [hm] at HC HAp ⊢
      have hm2 : m + 1 ≤ 2000 := by omega
      have hne : w.heap.size ≠ g := by have := World.block_lt_of_cell? w _ c1; simp at this; omega
      have hne2 : g ≠ w.heap.size := Ne.symm hne
      clear hE hs3 hm h0 hl r2 r3 r4 r5 r6 hS
      have hz : (((m + 1 : Nat) : Int) == 0) = false := beq_eq_false_iff_ne.2 (by omega)
      have hz2 : ((m : Int) + 1 == 0) = false := beq_eq_false_iff_ne.2 (by omega)
      have wr1 : IntKind.i64.wrap (m : Int) = (m : Int) := IntWalk.i64_in _ (by omega)
      have i1 : (0 : Int) ≤ (m : Int) := by omega
      have i2 : (m : Int) < (m : Int) + 1 := by omega
      have hll : (applyL s (flowL es s.size)).length = (flowL es s.size).length := by simp [applyL]
      have HN := Lib.hid (show hullNew s es a1 (a2 + o2) = (ByteArray.mk (applyL s (flowL es s.size)).toArray).extract a1.toNat (((applyL s (flowL es s.size)).length : Int) - ((s.size : Int) - (a2 + o2))).toNat from rfl)
      rw [← hll] at q2 hq
      clear hll
      unfold ApplyPost at HAp
      generalize applyL s (flowL es s.size) = L at q2 hq HN HAp
      rw [HN.out]
      clear HN
      go_enter Try.func39, Try.ntmps39
      go_wp2_with fail
      refine HC.out.mono ?_
      rintro e w1 ⟨rfl, g1⟩
      have bR := (g1.block _ (by simp) (by simp)).trans (heap_alloc_new w (.cells #[.int .i64 0, .int .i64 0, .string ⟨#[]⟩] 47))
      have G := Lib.hid (grow_trans (World.grownBy_alloc w (.cells #[.int .i64 0, .int .i64 0, .string ⟨#[]⟩] 47) none) g1)
      have hlt := lt_of_block bR
      replace c1 := cell_grown c1 G.out
      replace c2 := cell_grown c2 G.out
      replace c3 := cell_grown c3 G.out
      replace d1 := cell_grown d1 G.out
      replace d2 := cell_grown d2 G.out
      replace d3 := cell_grown d3 G.out
      have BR := Lib.hid bR
      clear bR g1 HC
      go_wp2_with fail
      go_region_held3 (fun w' => w'.cell? ⟨g, off, none⟩ = some (.int .i64 a1) ∧ w'.cell? ⟨g, off + 1, none⟩ = some (.int .i64 o1) ∧ w'.cell? ⟨g, off + 2, none⟩ = some (.string n1) ∧ w'.cell? ⟨g, off + m * 3, none⟩ = some (.int .i64 a2) ∧ w'.cell? ⟨g, off + m * 3 + 1, none⟩ = some (.int .i64 o2) ∧ w'.cell? ⟨g, off + m * 3 + 2, none⟩ = some (.string n2)) (((try dsimp only); refine ⟨?_, ?_, ?_, ?_, ?_, ?_⟩ <;> (refine cell_grown (w := w1) (by assumption) ?_; repeat (first | exact grow_self _ | apply grow_alloc | apply grow_drew | (refine grow_setCell ?_ _ _ (by simp; try omega)))))) ((go_at_call 50; refine (end_any _ _ _ _ (by omega) (by omega)).mono ?_; rintro e' w2 ⟨rfl, rfl⟩))
      have v1 : IntKind.i64.wrap (a2 + o2 - a1) = a2 + o2 - a1 := IntWalk.i64_in _ (by omega)
      have v2 : IntKind.i64.wrap ((s.size : Int) - (a2 + o2)) = (s.size : Int) - (a2 + o2) := IntWalk.i64_in _ (by omega)
      have v3 : IntKind.i64.wrap ((L.length : Int) - ((s.size : Int) - (a2 + o2))) = (L.length : Int) - ((s.size : Int) - (a2 + o2)) := IntWalk.i64_in _ (by omega)
      have b1 : a1 ≤ (L.length : Int) - ((s.size : Int) - (a2 + o2)) := by omega
      have b2 : (L.length : Int) - ((s.size : Int) - (a2 + o2)) ≤ (L.length : Int) := by omega
      have b3 : 0 ≤ a1 := by omega
      go_wp2_with fail
      refine (HAp.out _ ?gw).mono ?_
      case gw => exact grow_trans G.out (by repeat (first | exact grow_self _ | apply grow_alloc | apply grow_drew))
      rintro e w9 ⟨rfl, g9⟩
      have bR := (g9.block w.heap.size (by simp [World.drew]; omega) (by simp)).trans ((Below.heap_alloc w1 (.cells #[.int .i64 a2, .int .i64 o2, .string n2] 47) _ hlt).trans BR.out)
      have G9 := Lib.hid (grow_trans (grow_trans G.out (grow_drew (grow_alloc (grow_self w1) (.cells #[.int .i64 a2, .int .i64 o2, .string n2] 47)))) g9)
      clear g9 HAp
      have cR0 := cell_of_block bR 0
      have cR1 := cell_of_block bR 1
      have cR2 := cell_of_block bR 2
      have fR0 := free_of_block bR 0
      have fR1 := free_of_block bR 1
      have fR2 := free_of_block bR 2
      simp only [List.getElem?_toArray, List.getElem?_cons_zero, List.getElem?_cons_succ] at cR0 cR1 cR2
      clear bR
      have G3 := Lib.hid (grow_setCell (grow_setCell (grow_setCell G9.out ⟨w.heap.size, 0, none⟩ (.int .i64 a1) (Nat.le_refl _)) ⟨w.heap.size, 1, none⟩ (.int .i64 (a2 + o2 - a1)) (Nat.le_refl _)) ⟨w.heap.size, 2, none⟩ (.string ((ByteArray.mk L.toArray).extract a1.toNat ((L.length : Int) - ((s.size : Int) - (a2 + o2))).toNat)) (Nat.le_refl _))
      go_wp2_with fail
      refine bodyPost_ret (v := .tuple #[.agg #[.int .i64 a1, .int .i64 (a2 + o2 - a1), .string ((ByteArray.mk L.toArray).extract a1.toNat ((L.length : Int) - ((s.size : Int) - (a2 + o2))).toNat)], .bool true, .int .i64 0]) (by simp [results, Try.results39, go_sem, cR0, cR1, cR2]) rfl ⟨rfl, G3.out⟩
  · rw [if_pos h] at hd
    obtain ⟨rfl, rfl⟩ := hd
    have hb : (changeFault s.size es != 0) = true := by simpa using h
    generalize changeFault s.size es = F at HC hb ⊢
    have HC := Lib.hid HC
    clear hE h
    go_enter Try.func39, Try.ntmps39
    go_wp2_with fail
    refine HC.out.mono ?_
    rintro e w1 ⟨rfl, g1⟩
    have bR := (g1.block _ (by simp) (by simp)).trans (heap_alloc_new w (.cells #[.int .i64 0, .int .i64 0, .string ⟨#[]⟩] 47))
    have cR0 := cell_of_block bR 0
    have cR1 := cell_of_block bR 1
    have cR2 := cell_of_block bR 2
    have fR0 := free_of_block bR 0
    have fR1 := free_of_block bR 1
    have fR2 := free_of_block bR 2
    simp only [List.getElem?_toArray, List.getElem?_cons_zero, List.getElem?_cons_succ] at cR0 cR1 cR2
    have G := Lib.hid (grow_trans (World.grownBy_alloc w (.cells #[.int .i64 0, .int .i64 0, .string ⟨#[]⟩] 47) none) g1)
    have G3 := Lib.hid (grow_setCell (grow_setCell (grow_setCell G.out ⟨w.heap.size, 0, none⟩ (.int .i64 0) (Nat.le_refl _)) ⟨w.heap.size, 1, none⟩ (.int .i64 0) (Nat.le_refl _)) ⟨w.heap.size, 2, none⟩ (.string ⟨#[]⟩) (Nat.le_refl _))
    clear bR g1 HC
    go_wp2_with fail
    refine bodyPost_ret (v := .tuple #[.agg #[.int .i64 0, .int .i64 0, .string ⟨#[]⟩], .bool false, .int .i64 F]) (by simp [results, Try.results39, go_sem, cR0, cR1, cR2]) rfl ⟨rfl, G3.out⟩
end Go.Proofs.Ytajigndlcdiinaa
