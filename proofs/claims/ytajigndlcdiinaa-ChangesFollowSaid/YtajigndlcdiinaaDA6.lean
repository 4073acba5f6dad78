/- Package edit: Moved. -/
import Derived.Test.YtajigndlcdiinaaDA5
import Derived.Test.YtajigndlcdiinaaDP2
import Derived.Test.YtajigndlcdiinaaDQ1
import Derived.Deep.RegionHeld3
namespace Go.Proofs.Ytajigndlcdiinaa
open Go.RowKit

def movedE (n : Int) (es : List Ed) (at_ : Int) : Int := if changeFault n es ≠ 0 then changeFault n es else if at_ < 0 ∨ n < at_ then 1 else 0
def movedV (n : Int) (es : List Ed) (at_ : Int) (behind : Bool) : Int := if movedE n es at_ ≠ 0 then 0 else movedGo at_ behind 0 es

def MovedPost (v er : Int) (w : World) (e : Ending) (w' : World) : Prop := e = .returned (.tuple #[.int .i64 v, .int .i64 er]) ∧ w.grownBy w' none

set_option maxHeartbeats 4000000 in
set_option maxRecDepth 100000 in
theorem moved_any (n : Int) (a : Option Addr) (cap : Nat) (es : List Ed) (at_ : Int) (behind : Bool) (w : World) (hat : -100000 ≤ at_ ∧ at_ ≤ 100000) (hl : es.length ≤ 100000) (hS : EdsSmall es) (hE : Eds w a es) :
    Calls Try.prog 38 #[.int .i64 n, .slice a es.length cap, .int .i64 at_, .bool behind] w (MovedPost (movedV n es at_ behind) (movedE n es at_) w) := by
  obtain ⟨P, hP⟩ : ∃ P, MovedPost (movedV n es at_ behind) (movedE n es at_) w = P := ⟨_, rfl⟩
  rw [hP]
  unfold MovedPost at hP
  have HC := check_any n a cap es w (by omega) hE hS
  by_cases h : changeFault n es = 0
  · obtain ⟨r1, r2, r3, r4, r5, r6⟩ := right_all h
    have hme : movedE n es at_ = if at_ < 0 ∨ n < at_ then 1 else 0 := by rw [movedE, if_neg (by simp [h])]
    rw [h] at HC
    have HC := Lib.hid HC
    by_cases a1 : at_ < 0
    · have hv : movedE n es at_ = 1 := by rw [hme, if_pos (Or.inl a1)]
      rw [show movedV n es at_ behind = 0 by rw [movedV, hv]; rfl, hv] at hP
      have HP := Lib.hid hP
      clear hP hE h hme hv r3 r4 r5 r6 hS
      go_enter Try.func38, Try.ntmps38
      go_wp2_with fail
      refine HC.out.mono ?_
      rintro e w1 ⟨rfl, g1⟩
      have G := Lib.hid g1
      clear g1 HC
      go_wp2_with fail
      try go_ret2
      rw [← HP.out]
      exact ⟨rfl, G.out⟩
    by_cases a2 : n < at_
    · have hv : movedE n es at_ = 1 := by rw [hme, if_pos (Or.inr a2)]
      rw [show movedV n es at_ behind = 0 by rw [movedV, hv]; rfl, hv] at hP
      have HP := Lib.hid hP
      clear hP hE h hme hv r3 r4 r5 r6 hS
      go_enter Try.func38, Try.ntmps38
      go_wp2_with fail
      refine HC.out.mono ?_
      rintro e w1 ⟨rfl, g1⟩
      have G := Lib.hid g1
      clear g1 HC
      go_wp2_with fail
      try go_ret2
      rw [← HP.out]
      exact ⟨rfl, G.out⟩
    have hv : movedE n es at_ = 0 := by rw [hme, if_neg (by omega)]
    rw [show movedV n es at_ behind = movedGo at_ behind 0 es by rw [movedV, hv]; exact if_neg (by simp), hv] at hP
    have HP := Lib.hid hP
    have HF : Hid (movedGo at_ behind 0 es = movedGo at_ behind 0 (es.drop 0)) := Lib.hid rfl
    have HCo := Lib.hid (fun W (g : w.grownBy W none) => comings_any a cap es W r2 (hE.grown g (by simp)) r4)
    unfold ComPost at HCo
    have HBD := Lib.hid (shTo_bd es r4)
    have HR4 := Lib.hid r4
    clear hP hE h hme hv r3 r4 r5 r6 hS
    go_enter Try.func38, Try.ntmps38
    go_wp2_with fail
    refine HC.out.mono ?_
    rintro e w1 ⟨rfl, g1⟩
    have G1 := Lib.hid g1
    clear HC
    go_wp2_with fail
    refine (HCo.out w1 g1).mono ?_
    rintro e w2 ⟨rfl, hpc, g2⟩
    have G2 := Lib.hid (grow_trans G1.out g2)
    have HPc := Lib.hid hpc
    clear g1 g2 hpc HCo
    generalize w1.heap.size = B at HPc ⊢
    go_wp2_with fail
    go_loopw [11, 30] (fun shv i wr => ∃ (j : Nat) (sh : Int), j ≤ es.length ∧ i = .int .i64 j ∧ shv = .int .i64 sh ∧ Hid (shTo es j = sh) ∧ Hid (movedGo at_ behind 0 es = movedGo at_ behind sh (es.drop j)) ∧ Hid (PcTo wr B es.length es es.length) ∧ Hid (w.grownBy wr none)) (fun _ i _ => es.length - (intOf i).toNat)
    case atStart => exact ⟨0, 0, Nat.zero_le _, rfl, rfl, Lib.hid rfl, HF, HPc, G2⟩
    case round =>
      obtain ⟨j, sh, hj, rfl, rfl, HSH, HH, HR, HG⟩ := hrel
      have hbd := HBD.out j hj
      rw [HSH.out] at hbd
      by_cases hlt : j < es.length
      · obtain ⟨C, hb, hs, hc⟩ := HR.out
        obtain ⟨k1, k2, k3, k4, k5⟩ := hc j hlt hlt
        replace k1 := (cell_of_block hb _).trans k1
        replace k2 := (cell_of_block hb _).trans k2
        replace k3 := (cell_of_block hb _).trans k3
        replace k4 := (cell_of_block hb _).trans k4
        replace k5 := (cell_of_block hb _).trans k5
        rw [HSH.out] at k1
        have hs := HR4.out _ (List.getElem_mem hlt)
        have hcons : es.drop j = es[j] :: es.drop (j + 1) := List.drop_eq_getElem_cons hlt
        have HH2 := Lib.hid (HH.out.trans (by rw [hcons, movedGo]))
        have HS2 := Lib.hid (shTo_succ es j hlt)
        rw [HSH.out] at HS2
        clear hcons HH hc hb
        generalize es[j] = x at k1 k2 k3 k4 k5 hs HH2 HS2
        obtain ⟨ea, eo, en⟩ := x
        simp only at k1 k2 k3 k4 k5 hs HH2 HS2
        have HG1 := Lib.hid (grow_alloc HG.out (.cells #[.int .i64 (ea + sh), .int .i64 en.size, .int .i64 ea, .int .i64 eo, .string en] 76))
        have HR1 := Lib.hid (HR.out.kept (World.grownBy_alloc wr (.cells #[.int .i64 (ea + sh), .int .i64 en.size, .int .i64 ea, .int .i64 eo, .string en] 76) none))
        by_cases t1 : at_ < ea
        · have HH3 := Lib.hid (HH2.out.trans (if_pos t1))
          clear HH2
          go_wp2_with fail
          try go_ret2
          rw [← HP.out, HH3.out]
          exact ⟨rfl, HG1.out⟩
        · have HG2 := Lib.hid (grow_alloc HG1.out (.cells #[.int .i64 ea, .int .i64 eo, .string en] 47))
          have HR2 := Lib.hid (HR1.out.kept (World.grownBy_alloc _ (.cells #[.int .i64 ea, .int .i64 eo, .string en] 47) none))
          by_cases t2 : at_ ≤ ea + eo
          · obtain ⟨v, hv⟩ : ∃ v, (if behind then ea + sh + en.size else ea + sh) = v := ⟨_, rfl⟩
            have HH3 := Lib.hid (HH2.out.trans ((if_neg t1).trans ((if_pos t2).trans hv)))
            have HV := Lib.hid hv
            clear HH2 hv
            have HG3 := Lib.hid (grow_alloc HG2.out (.cells #[.int .i64 (ea + sh), .int .i64 en.size, .int .i64 ea, .int .i64 eo, .string en] 76))
            go_wp2_with fail
            refine (end_any _ _ _ _ (by omega) (by omega)).mono ?_
            rintro e' w3 ⟨rfl, rfl⟩
            go_wp2_with fail
            refine (sideOf_any _ _ _ _ _ _ v _ (by omega) (by omega) HV.out).mono ?_
            rintro e' w3 ⟨rfl, rfl⟩
            go_wp2_with fail
            try go_ret2
            rw [← HP.out, HH3.out]
            exact ⟨rfl, HG3.out⟩
          · have HH3 := Lib.hid (HH2.out.trans ((if_neg t1).trans (if_neg t2)))
            clear HH2
            go_wp2_with fail
            refine (end_any _ _ _ _ (by omega) (by omega)).mono ?_
            rintro e' w3 ⟨rfl, rfl⟩
            have bx := (Below.heap_alloc _ (.cells #[.int .i64 ea, .int .i64 eo, .string en] 47) _ (by simp)).trans (heap_alloc_new wr (.cells #[.int .i64 (ea + sh), .int .i64 en.size, .int .i64 ea, .int .i64 eo, .string en] 76))
            generalize ((wr.alloc (.cells #[.int .i64 (ea + sh), .int .i64 en.size, .int .i64 ea, .int .i64 eo, .string en] 76)).alloc (.cells #[.int .i64 ea, .int .i64 eo, .string en] 47)) = w3 at bx HG2 HR2 ⊢
            generalize wr.heap.size = M at bx ⊢
            have x0 := cell_of_block bx 0
            have x1 := cell_of_block bx 1
            have x2 := cell_of_block bx 2
            have x3 := cell_of_block bx 3
            have x4 := cell_of_block bx 4
            simp only [List.getElem?_toArray, List.getElem?_cons_zero, List.getElem?_cons_succ] at x0 x1 x2 x3 x4
            clear bx k1 k2 k3 k4 k5
            have v1 : IntKind.i64.wrap (ea + sh + en.size) = ea + sh + en.size := IntWalk.i64_in _ (by omega)
            have v2 : IntKind.i64.wrap (ea + sh + en.size - (ea + eo)) = sh + (en.size - eo) := by rw [IntWalk.i64_in _ (by omega)]; omega
            have HG3 := Lib.hid (grow_alloc HG2.out (.cells #[.int .i64 ea, .int .i64 eo, .string en] 47))
            have HR3 := Lib.hid (HR2.out.kept (World.grownBy_alloc _ (.cells #[.int .i64 ea, .int .i64 eo, .string en] 47) none))
            go_wp2_with fail
            go_region_held3 (fun w' => w'.cell? ⟨M, 0, none⟩ = some (.int .i64 (ea + sh)) ∧ w'.cell? ⟨M, 1, none⟩ = some (.int .i64 en.size) ∧ w'.cell? ⟨M, 2, none⟩ = some (.int .i64 ea) ∧ w'.cell? ⟨M, 3, none⟩ = some (.int .i64 eo) ∧ w'.cell? ⟨M, 4, none⟩ = some (.string en)) (((try dsimp only); refine ⟨?_, ?_, ?_, ?_, ?_⟩ <;> (refine cell_grown (w := w3) (by assumption) ?_; repeat (first | exact grow_self _ | apply grow_alloc | apply grow_drew)))) ((go_at_call 50; refine (end_any _ _ _ _ (by omega) (by omega)).mono ?_; rintro e' w2 ⟨rfl, rfl⟩))
            have HG4 := Lib.hid (grow_drew HG3.out)
            have HR4b := Lib.hid (HR3.out.kept (grow_drew (grow_self _)))
            go_wp2_with fail
            go_roundw
            case rel => exact ⟨j + 1, _, by omega, by go_num, rfl, HS2, HH3, HR4b, HG4⟩
            case measure => simp [intOf]; omega
      · obtain rfl : j = es.length := by omega
        have HH2 := Lib.hid (HH.out.trans (by rw [List.drop_length, movedGo]))
        clear HH
        go_wp2_with fail
        try go_ret2
        rw [← HP.out, HH2.out]
        exact ⟨rfl, HG.out⟩
  · have hme : movedE n es at_ = changeFault n es := by rw [movedE, if_pos h]
    rw [show movedV n es at_ behind = 0 by rw [movedV, hme, if_pos h], hme] at hP
    have hb : (changeFault n es != 0) = true := by simpa using h
    clear hE h hme hS
    generalize changeFault n es = F at HC hP hb
    have HC := Lib.hid HC
    have HP := Lib.hid hP
    clear hP
    go_enter Try.func38, Try.ntmps38
    go_wp2_with fail
    refine HC.out.mono ?_
    rintro e w1 ⟨rfl, g1⟩
    have G := Lib.hid g1
    clear g1 HC
    go_wp2_with fail
    try go_ret2
    rw [← HP.out]
    exact ⟨rfl, G.out⟩
end Go.Proofs.Ytajigndlcdiinaa
