/- ThenOf; slices.Equal of edits. -/
import Derived.Test.YtajigndlcdiinaaH2
namespace Go.Proofs.Ytajigndlcdiinaa
open Go.RowKit

def thenFl (n : Int) (a b : List Ed) : List Let := thenL (flowL a n) (flowL b ((flowL a n).length : Int))
def thenEr (n : Int) (a b : List Ed) : Int :=
  if changeFault n a ≠ 0 then changeFault n a
  else if changeFault ((flowL a n).length : Int) b ≠ 0 then changeFault ((flowL a n).length : Int) b
  else manyv (editsOf n (thenFl n a b)).length
def thenVl (n : Int) (a b : List Ed) : List Ed := if thenEr n a b ≠ 0 then [] else editsOf n (thenFl n a b)

def EdsErrPost (l : List Ed) (er : Int) (w : World) (e : Ending) (w' : World) : Prop :=
  ∃ v, e = .returned (.tuple #[v, .int .i64 er]) ∧ w'.ownsRow w.heap.size 47 /-t:hedgelayer/api.Edit-/ 3 v l.length (edCells l) ∧ w.grownBy w' none

theorem flowL_neg (n : Int) (es : List Ed) (h : changeFault n es = 0) : ∀ x, x ∈ flowL es n → x.1 < n := (right_all h).2.2.2.2.1

theorem thenFl_mem (n : Int) (a b : List Ed) (ha : changeFault n a = 0) : ∀ x, x ∈ thenFl n a b → x.1 ≤ 20000 := by
  intro x hx
  have hn := (right_all ha).1
  simp only [thenFl, thenL, List.mem_map] at hx
  obtain ⟨y, hy, rfl⟩ := hx
  unfold thenX
  split
  · rw [List.getD_eq_getElem?_getD]
    by_cases hl : y.1.toNat < (flowL a n).length
    · rw [List.getElem?_eq_getElem hl]
      have := flowL_neg n a ha _ (List.getElem_mem hl)
      simp only [Option.getD_some]; omega
    · rw [List.getElem?_eq_none (by omega)]; simp
  · omega

theorem edits_len (ls : List Let) (n : Int) (hI : ∀ x, x ∈ ls → x.1 ≤ 100000) : (editsOf n ls).length ≤ ls.length + 1 := by
  have := (edTo_bd ls hI ls.length (Nat.le_refl _)).2.2.2
  unfold editsOf closeE
  split
  · simp; omega
  · omega

set_option maxHeartbeats 4000000 in
set_option maxRecDepth 100000 in
theorem thenOf_any (n : Int) (a b : Option Addr) (c1 c2 : Nat) (es fs : List Ed) (w : World) (hl : es.length ≤ 1000000) (hl2 : fs.length ≤ 1000000) (hE : Eds w a es) (hF : Eds w b fs) (hS : EdsSmall es) (hT : EdsSmall fs) :
    Calls Try.prog 29 #[.int .i64 n, .slice a es.length c1, .slice b fs.length c2] w (EdsErrPost (thenVl n es fs) (thenEr n es fs) w) := by
  by_cases h1 : changeFault n es = 0
  · have H := right_all h1
    by_cases h2 : changeFault ((flowL es n).length : Int) fs = 0
    · have H2 := right_all h2
      have HE := Lib.hid (show thenEr n es fs = manyv (editsOf n (thenFl n es fs)).length by unfold thenEr; rw [if_neg (by rw [h1]; decide), if_neg (by rw [h2]; decide)])
      have hb1 : (changeFault n es != 0) = false := by rw [h1]; rfl
      have hb2 : (changeFault ((flowL es n).length : Int) fs != 0) = false := by rw [h2]; rfl
      have hmem := thenFl_mem n es fs h1
      have HI2 := Lib.hid (flowL_neg _ _ h2)
      have HH1 := Lib.hid h1
      have HH2 := Lib.hid h2
      obtain ⟨q1, q2, q3, q4, q5, q6⟩ := H
      obtain ⟨r1, r2, r3, r4, r5, r6⟩ := H2
      have HQ := Lib.hid (And.intro q3 q4)
      have HR := Lib.hid (And.intro r3 r4)
      clear h1 h2 q3 q4 q5 r3 r4 r5
      have hlen2 : (thenFl n es fs).length ≤ 20000 := by simp [thenFl, thenL]; simpa using r6
      have hed := edits_len (thenFl n es fs) n (fun x hx => by have := hmem x hx; omega)
      have HME := Lib.hid hmem
      clear hmem
      go_enter Try.func29, Try.ntmps29
      go_wp2_with fail
      refine (changeFault_any n a c1 es w hl hE hS).mono ?_
      rintro e w1 ⟨rfl, g1⟩
      go_wp2_with fail
      refine (lengthOf_any n a c1 es w1 HH1.out (hE.grown g1 (by simp))).mono ?_
      rintro e w2 ⟨rfl, g2⟩
      have G2 := grownBy_trans g1 g2
      go_wp2_with fail
      refine (changeFault_any _ b c2 fs w2 hl2 (hF.grown G2 (by simp)) hT).mono ?_
      rintro e w3 ⟨rfl, g3⟩
      have G3 := grownBy_trans G2 g3
      go_wp2_with fail
      refine (flowOf_any n a c1 es w3 q2 q1 (hE.grown G3 (by simp)) HQ.out.1 HQ.out.2).mono ?_
      rintro e w4 hp
      obtain ⟨lv, rfl, own, g4⟩ := flowPost_len hp
      have G4 := grownBy_trans G3 g4
      have hs3 := G3.size
      clear hp
      go_wp2_with fail
      refine (lengthOf_any n a c1 es w4 HH1.out (hE.grown G4 (by simp))).mono ?_
      rintro e w5 ⟨rfl, g5⟩
      have G5 := grownBy_trans G4 g5
      go_wp2_with fail
      refine (flowOf_any _ b c2 fs w5 r2 r1 (hF.grown G5 (by simp)) HR.out.1 HR.out.2).mono ?_
      rintro e w6 hp
      obtain ⟨lv2, rfl, own2, g6⟩ := flowPost_len hp
      have G6 := grownBy_trans G5 g6
      clear hp
      have own1 := ownsRow_frm (Frm.of_grown (grownBy_trans g5 g6) (fun _ _ => True)) own (fun _ _ _ _ => trivial)
      go_wp2_with fail
      refine (then_any n _ lv lv2 _ _ (flowL es n) (flowL fs ((flowL es n).length : Int)) w6 (by omega) (by omega) (fun x hx => by have := HI2.out x hx; omega) own1 own2).mono ?_
      rintro e w7 ⟨lv3, rfl, own3, g7⟩
      change w7.ownsRow _ _ _ _ (thenFl n es fs).length (letCells (thenFl n es fs)) at own3
      have G7 := grownBy_trans G6 g7
      clear own own1 own2
      go_wp2_with fail
      refine (edits_any n lv3 _ (thenFl n es fs) w7 (by omega) (by omega) (fun x hx => by have := HME.out x hx; omega) own3).mono ?_
      rintro e w8 ⟨v, rfl, own8, g8⟩
      have G8 := grownBy_trans G7 g8
      have hs7 := G7.size
      obtain ⟨L, hL⟩ : ∃ L, L = editsOf n (thenFl n es fs) := ⟨_, rfl⟩
      rw [← hL] at own8 hed
      have HL := Lib.hid hL
      obtain ⟨av, cv, rfl⟩ := ownsRow_slice own8
      clear own3 hL
      go_wp2_with fail
      refine (manyFault_any av L.length cv w8 (by omega)).mono ?_
      rintro e w9 ⟨rfl, rfl⟩
      by_cases hm : manyv L.length = 0
      · have hb : (manyv L.length != 0) = false := by simp [hm]
        have HM := Lib.hid hm
        clear hm
        go_wp2_with fail
        go_ret2
        have HE2 := HE.out
        rw [← HL.out, HM.out] at HE2
        refine ⟨.slice av L.length cv, by rw [HE2]; rfl, ?_, G8⟩
        have : thenVl n es fs = L := by unfold thenVl; rw [HE2, HL.out]; exact if_neg (by simp)
        rw [this]
        exact ownsRow_base own8 hs7
      · have hb : (manyv L.length != 0) = true := by simp [hm]
        have HM := Lib.hid hm
        clear hm
        go_wp2_with fail
        go_ret2
        have HE2 := HE.out
        rw [← HL.out] at HE2
        refine ⟨.slice none 0 0, by rw [HE2]; rfl, ?_, G8⟩
        have : thenVl n es fs = [] := by unfold thenVl; rw [HE2]; exact if_pos HM.out
        rw [this]
        exact World.ownsRow_nil _ _ _ _
    · have HE := Lib.hid (show thenEr n es fs = changeFault ((flowL es n).length : Int) fs by unfold thenEr; rw [if_neg (by rw [h1]; decide), if_pos h2])
      have HV := Lib.hid (show thenVl n es fs = [] by unfold thenVl; rw [HE.out]; exact if_pos h2)
      have hb1 : (changeFault n es != 0) = false := by rw [h1]; rfl
      have hb2 : (changeFault ((flowL es n).length : Int) fs != 0) = true := by simp [h2]
      have HH1 := Lib.hid h1
      clear h1 h2 H
      go_enter Try.func29, Try.ntmps29
      go_wp2_with fail
      refine (changeFault_any n a c1 es w hl hE hS).mono ?_
      rintro e w1 ⟨rfl, g1⟩
      go_wp2_with fail
      refine (lengthOf_any n a c1 es w1 HH1.out (hE.grown g1 (by simp))).mono ?_
      rintro e w2 ⟨rfl, g2⟩
      have G2 := grownBy_trans g1 g2
      go_wp2_with fail
      refine (changeFault_any _ b c2 fs w2 hl2 (hF.grown G2 (by simp)) hT).mono ?_
      rintro e w3 ⟨rfl, g3⟩
      have G3 := grownBy_trans G2 g3
      go_wp2_with fail
      go_ret2
      exact ⟨.slice none 0 0, by rw [HE.out]; rfl, by rw [HV.out]; exact World.ownsRow_nil _ _ _ _, G3⟩
  · have HE := Lib.hid (show thenEr n es fs = changeFault n es from if_pos h1)
    have HV := Lib.hid (show thenVl n es fs = [] by unfold thenVl; rw [HE.out]; exact if_pos h1)
    have hb1 : (changeFault n es != 0) = true := by simp [h1]
    clear h1
    go_enter Try.func29, Try.ntmps29
    go_wp2_with fail
    refine (changeFault_any n a c1 es w hl hE hS).mono ?_
    rintro e w1 ⟨rfl, g1⟩
    go_wp2_with fail
    go_ret2
    exact ⟨.slice none 0 0, by rw [HE.out]; rfl, by rw [HV.out]; exact World.ownsRow_nil _ _ _ _, g1⟩

set_option maxHeartbeats 4000000 in
set_option maxRecDepth 100000 in
/-- slices.Equal of two slices that hold the same edits. -/
theorem equalEd_same (a b : Option Addr) (c1 c2 : Nat) (es : List Ed) (w : World) (hl : es.length ≤ 1000000) (hE : Eds w a es) (hF : Eds w b es) :
    Calls Try.prog 23 #[.slice a es.length c1, .slice b es.length c2] w fun e w' => e = .returned (.bool true) ∧ ∃ k, w' = w.drewN k := by
  have hb : ((es.length : Int) != (es.length : Int)) = false := by simp
  have HE := Lib.hid hE
  have HF := Lib.hid hF
  clear hE hF
  go_enter Try.func23, Try.ntmps23
  go_wp2_with fail
  go_loopw [13] (fun i wr => ∃ j k : Nat, j ≤ es.length ∧ i = .int .i64 j ∧ wr = w.drewN k) (fun i _ => es.length - (intOf i).toNat)
  case atStart => exact ⟨0, 0, Nat.zero_le _, rfl, rfl⟩
  case round =>
    obtain ⟨j, k, hj, rfl, rfl⟩ := hrel
    by_cases hlt : j < es.length
    · obtain ⟨g, off, rfl, c1, c2, c3⟩ := HE.out j hlt
      obtain ⟨g2, off2, rfl, d1, d2, d3⟩ := HF.out j hlt
      generalize es[j] = e at c1 c2 c3 d1 d2 d3
      obtain ⟨ea, eo, en⟩ := e
      simp only at c1 c2 c3 d1 d2 d3
      have i1 : (0 : Int) ≤ (j : Int) := by omega
      have i2 : (j : Int) < (es.length : Int) := by omega
      go_wp2_with fail
      go_quiet (fail)
      go_wp2_with fail
      go_roundw
      case rel => exact ⟨j + 1, _, by omega, by go_num, rfl⟩
      case measure => simp [intOf]; omega
    · obtain rfl : j = es.length := by omega
      go_wp2_with fail
      go_ret
      exact ⟨rfl, k, rfl⟩

theorem grow_drewN (w : World) (k : Nat) : w.grownBy (w.drewN k) none := ⟨rfl, rfl, rfl, Nat.le_refl _, fun _ _ _ => rfl⟩
theorem equalEd_own {w : World} {b1 b2 : Nat} {v v2 : Value} {es : List Ed} (hl : es.length ≤ 1000000) (h1 : w.ownsRow b1 47 /-t:hedgelayer/api.Edit-/ 3 v es.length (edCells es)) (h2 : w.ownsRow b2 47 /-t:hedgelayer/api.Edit-/ 3 v2 es.length (edCells es)) :
    Calls Try.prog 23 #[v, v2] w fun e w' => e = .returned (.bool true) ∧ w.grownBy w' none := by
  obtain ⟨a, c, rfl, hE, _⟩ := eds_of_own h1
  obtain ⟨a2, c2, rfl, hE2, _⟩ := eds_of_own h2
  refine (equalEd_same a a2 c c2 es w hl hE hE2).mono ?_
  rintro e w' ⟨rfl, k, rfl⟩
  exact ⟨rfl, grow_drewN w k⟩
end Go.Proofs.Ytajigndlcdiinaa
