/- Package edit: Squeezed. -/
import Derived.Test.YtajigndlcdiinaaA7
import Derived.Test.YtajigndlcdiinaaH4
import Derived.Deep.RegionLaw
namespace Go.Proofs.Ytajigndlcdiinaa
open Go.RowKit

/-- In a round: the edit's box B behind the world w, and the row that is made. -/
def SqI (w : World) (B : Nat) (v : Value) (out : List Ed) (p q : Int) (n : ByteArray) (wr : World) : Prop :=
  wr.heap[B]? = some (.cells #[.int .i64 p, .int .i64 q, .string n] 47 (0, 0)) ∧ v.ownBlock ≠ some B ∧
    wr.ownsRow w.heap.size 47 3 v out.length (edCells out) ∧ w.grownBy wr none ∧ w.heap.size ≤ B
theorem SqI.grow {w B v out p q n wr wx} (R : SqI w B v out p q n wr) (g : wr.grownBy wx none) : SqI w B v out p q n wx :=
  ⟨(g.block _ (lt_of_block R.1) (by simp)).trans R.1, R.2.1, ownsRow_frm (Frm.of_grown g (fun _ _ => True)) R.2.2.1 (fun _ _ _ _ => trivial), grow_trans R.2.2.2.1 g, R.2.2.2.2⟩
theorem SqI.drew {w B v out p q n wr} (R : SqI w B v out p q n wr) : SqI w B v out p q n wr.drew := R.grow (grow_drew (grow_self _))
theorem SqI.set3 {w B v out p q n wr} (R : SqI w B v out p q n wr) (p' q' : Int) (n' : ByteArray) :
    SqI w B v out p' q' n' (((wr.setCell ⟨B, 0, none⟩ (.int .i64 p')).setCell ⟨B, 1, none⟩ (.int .i64 q')).setCell ⟨B, 2, none⟩ (.string n')) :=
  SqRel.setC 2 _ (SqRel.setC 1 _ (SqRel.setC 0 _ R))

def EdsErrP (l : List Ed) (er : Int) (w : World) (e : Ending) (w' : World) : Prop :=
  ∃ v, e = .returned (.tuple #[v, .int .i64 er]) ∧ w'.ownsRow w.heap.size 47 3 v l.length (edCells l) ∧ w.grownBy w' none

set_option maxHeartbeats 4000000 in
set_option maxRecDepth 100000 in
theorem squeezed_any (s : ByteArray) (a : Option Addr) (cap : Nat) (es : List Ed) (w : World) (hs : s.size ≤ 1000000000) (hl : es.length ≤ 1000000) (hE : Eds w a es) (hS : EdsSmall es) :
    Calls Try.prog 14 #[.string s, .slice a es.length cap] w (EdsErrP (if faultText s es ≠ 0 then [] else squeezedV s es) (faultText s es) w) := by
  obtain ⟨P, hP⟩ : ∃ P, EdsErrP (if faultText s es ≠ 0 then [] else squeezedV s es) (faultText s es) w = P := ⟨_, rfl⟩
  rw [hP]
  unfold EdsErrP at hP
  have HC := Lib.hid (checkText_any s a cap es w hs hl hE hS)
  by_cases h : faultText s es = 0
  · have hf : changeFault s.size es = 0 := by
      unfold faultText at h
      split at h
      · omega
      · exact h
    obtain ⟨r1, r2, r3, r4, r5, r6⟩ := right_all hf
    have hR := (changeFault_zero hf).2.2.1
    have HM := Lib.hid (right_mem s.size es _ hR)
    have HE := Lib.hid hE
    have HV := Lib.hid (show squeezedV s es = sqTo s es es.length from rfl)
    obtain ⟨i0, hi, hz0, hz1, hz2⟩ := info_parts infoEdit
    rw [h] at HC hP
    rw [if_neg (by simp)] at hP
    have HP := Lib.hid hP
    clear h hf hP hE r3 r5 r6 hR hS
    have hss : s.size ≤ 20000 := by omega
    go_enter Try.func14, Try.ntmps14
    go_wp2_with fail
    refine HC.out.mono ?_
    rintro e w0 ⟨rfl, g0⟩
    have G0 := Lib.hid g0
    clear HC g0
    go_wp2_with fail
    go_loopw [7, 18] (fun v i wr => ∃ j : Nat, j ≤ es.length ∧ i = .int .i64 j ∧ Hid (wr.ownsRow w.heap.size 47 3 v (sqTo s es j).length (edCells (sqTo s es j))) ∧ Hid (w.grownBy wr none)) (fun _ i _ => es.length - (intOf i).toNat)
    case atStart => exact ⟨0, Nat.zero_le _, rfl, Lib.hid (World.ownsRow_nil _ _ _ _), G0⟩
    case round =>
      obtain ⟨wo, rfl⟩ : ∃ wo : World, wo = wr := ⟨_, rfl⟩
      obtain ⟨j, hj, rfl, OWN, HG⟩ := hrel
      by_cases hlt : j < es.length
      · obtain ⟨g, off, rfl, q1, q2, q3⟩ := HE.out j hlt
        replace q1 := HG.out.cell q1 (by simp)
        replace q2 := HG.out.cell q2 (by simp)
        replace q3 := HG.out.cell q3 (by simp)
        have hs1 := HM.out _ (List.getElem_mem hlt)
        have hs2 := r4 _ (List.getElem_mem hlt)
        have hlen := sqTo_len s es j hj
        have HT := Lib.hid (sqTo_succ s es j hlt)
        generalize es[j] = x at q1 q2 q3 hs1 hs2 HT
        obtain ⟨xa, xo, xn⟩ := x
        simp only at q1 q2 q3 hs1 hs2
        obtain ⟨p, rfl⟩ : ∃ p : Nat, xa = (p : Int) := ⟨xa.toNat, by omega⟩
        obtain ⟨q, rfl⟩ : ∃ q : Nat, xo = (q : Int) := ⟨xo.toNat, by omega⟩
        obtain ⟨L, hL⟩ : ∃ L, L = sqTo s es j := ⟨_, rfl⟩
        rw [← hL] at OWN HT hlen
        clear hL
        obtain ⟨av, cv, rfl⟩ := ownsRow_slice OWN.out
        have hpq : p + q ≤ s.size := by omega
        have hxn : xn.size ≤ 40000 := hs2.2.2.2.2
        go_upto_region 8 with (fail)
        have R0 := Lib.hid (show SqI w wo.heap.size (.slice av L.length cv) L p q xn (wo.alloc (.cells #[.int .i64 p, .int .i64 q, .string xn] 47)) from
          ⟨heap_alloc_new wo _, (fun hb => by
            obtain ⟨_, c, hc⟩ := ownsRow_block OWN.out _ hb
            have := lt_of_block hc
            omega), OWN.out.alloc _, grow_alloc HG.out _, HG.out.size⟩)
        have hB := heap_alloc_new wo (.cells #[.int .i64 (p : Int), .int .i64 (q : Int), .string xn] 47)
        generalize wo.alloc (.cells #[.int .i64 (p : Int), .int .i64 (q : Int), .string xn] 47) = w1 at R0 hB ⊢
        generalize wo.heap.size = B at R0 hB ⊢
        clear OWN HG q1 q2 q3 hs1 hs2
        have cX0 := cell_of_block hB 0
        have cX1 := cell_of_block hB 1
        have cX2 := cell_of_block hB 2
        have fX0 := free_of_block hB 0
        have fX1 := free_of_block hB 1
        have fX2 := free_of_block hB 2
        simp only [List.getElem?_toArray, List.getElem?_cons_zero, List.getElem?_cons_succ] at cX0 cX1 cX2
        clear hB
        have i1 : (0 : Int) ≤ (p : Int) := by omega
        have i2 : (p : Int) ≤ (p : Int) + (q : Int) := by omega
        have i3 : (p : Int) + (q : Int) ≤ (s.size : Int) := by omega
        obtain ⟨f, hf⟩ : ∃ f, sqE s ⟨p, q, xn⟩ = f := ⟨_, rfl⟩
        have HF := Lib.hid hf
        have HSq := Lib.hid (fun W => squeeze_any s p q xn hpq hss hxn W)
        unfold SqPost at HSq
        rw [hf] at HSq
        obtain ⟨fa, fo, fn⟩ := f
        replace HSq : Hid (∀ W, Calls Try.prog 52 #[.string (s.extract p (p + q)), .agg #[.int .i64 (p : Int), .int .i64 (q : Int), .string xn]] W fun e w' => e = .returned (.agg #[.int .i64 fa, .int .i64 fo, .string fn]) ∧ W.grownBy w' none) := HSq
        clear hf
        go_cut [] (fun wx => Hid (SqI w B (.slice av L.length cv) L fa fo fn wx))
        case first =>
          go_region_law (first | (go_simp; go_at_call 50; refine (end_any _ _ _ _ (by omega) (by omega)).mono ?_; rintro e' w2 ⟨rfl, hw2⟩; have R4 := Lib.hid (R0.out.grow (wx := w2) (by rw [← hw2]; repeat (first | exact grow_self _ | apply grow_alloc | apply grow_drew))); have cY0 := cell_of_block R4.out.1 0; have cY1 := cell_of_block R4.out.1 1; have cY2 := cell_of_block R4.out.1 2; simp only [List.getElem?_toArray, List.getElem?_cons_zero, List.getElem?_cons_succ] at cY0 cY1 cY2; clear hw2) | (go_simp; go_at_call 52; refine (HSq.out _).mono ?_; rintro e' w5 ⟨rfl, g2⟩; have R5 := Lib.hid ((R4.out.grow (by repeat (first | exact grow_self _ | apply grow_alloc | apply grow_drew))).grow g2); have cU0 := cell_of_block R5.out.1 0; have cU1 := cell_of_block R5.out.1 1; have cU2 := cell_of_block R5.out.1 2; have fU0 := free_of_block R5.out.1 0; have fU1 := free_of_block R5.out.1 1; have fU2 := free_of_block R5.out.1 2; simp only [List.getElem?_toArray, List.getElem?_cons_zero, List.getElem?_cons_succ] at cU0 cU1 cU2; clear g2))
          all_goals (go_wp2_with fail; go_meet)
          all_goals exact Lib.hid (by first | exact R5.out.set3 fa fo fn | exact (R5.out.set3 fa fo fn).drew | exact R5.out.drew.set3 fa fo fn)
        case rest =>
          have R2 := hcut
          obtain ⟨w3, rfl⟩ : ∃ v : World, v = wc := ⟨_, rfl⟩
          clear R0 HSq cX0 cX1 cX2 fX0 fX1 fX2
          have hX := R2.out.1
          have cX0 := cell_of_block hX 0
          have cX1 := cell_of_block hX 1
          have cX2 := cell_of_block hX 2
          simp only [List.getElem?_toArray, List.getElem?_cons_zero, List.getElem?_cons_succ] at cX0 cX1 cX2
          clear hX
          by_cases hd : 0 < fo
          · have d1 : decide ((0 : Int) < fo) = true := by simp; omega
            have HY := Lib.hid (HT.out.trans (sqStep_yes (L := L) HF.out (Or.inl hd)))
            have own' := R2.out.2.2.1
            have hg' := R2.out.2.2.2.1
            have hgs := hg'.size
            clear R2
            go_wp2_with (at_builtin; refine wpList_append_own _ rfl _ _ 28 rfl w.heap.size 47 i0 (.agg #[.int .i64 0, .int .i64 0, .string ⟨#[]⟩]) 3 32 Try.underlying28 hi hz0 hz1 hz2 rfl (by decide) _ _ _ rfl (own'.alloc _) ⟨w3.heap.size, 0, none⟩ 1 1 [.int .i64 fa, .int .i64 fo, .string fn] rfl rfl (cells_new _ _ _) (fun x hx => by simp at hx; rcases hx with rfl | rfl | rfl <;> rfl) (by unfold maxLen; omega) (by omega) (by simp at hgs ⊢; omega) ?_; intro v' w1 hown' hgrow _; obtain ⟨av2, cv2, rfl⟩ := ownsRow_slice hown'; have hgg := Lib.hid (grow_row (grow_alloc hg' _) hgrow (fun k hk => (ownsRow_block own' k hk).1)); have HO := Lib.hid hown'; clear hgrow own' hg' cX0 cX1 cX2 hown')
            go_roundw
            case rel =>
              refine ⟨j + 1, by omega, by go_num, Lib.hid ?_, hgg⟩
              rw [HY.out, edCells_snoc, List.length_append]
              exact HO.out
            case measure => simp [intOf]; omega
          · have d1 : decide ((0 : Int) < fo) = false := by simp; omega
            by_cases u2 : fn.size = 0
            · have z := isEmpty_of_size u2
              have HY := Lib.hid (HT.out.trans (sqStep_no (L := L) HF.out (by simp only; omega)))
              clear u2
              go_wp2_with fail
              go_roundw
              case rel => exact ⟨j + 1, by omega, by go_num, Lib.hid (by rw [HY.out]; exact R2.out.2.2.1), Lib.hid R2.out.2.2.2.1⟩
              case measure => simp [intOf]; omega
            · have z := not_isEmpty_of_size u2
              have HY := Lib.hid (HT.out.trans (sqStep_yes (L := L) HF.out (Or.inr u2)))
              clear u2
              have own' := R2.out.2.2.1
              have hg' := R2.out.2.2.2.1
              have hgs := hg'.size
              clear R2
              go_wp2_with (at_builtin; refine wpList_append_own _ rfl _ _ 28 rfl w.heap.size 47 i0 (.agg #[.int .i64 0, .int .i64 0, .string ⟨#[]⟩]) 3 32 Try.underlying28 hi hz0 hz1 hz2 rfl (by decide) _ _ _ rfl (own'.alloc _) ⟨w3.heap.size, 0, none⟩ 1 1 [.int .i64 fa, .int .i64 fo, .string fn] rfl rfl (cells_new _ _ _) (fun x hx => by simp at hx; rcases hx with rfl | rfl | rfl <;> rfl) (by unfold maxLen; omega) (by omega) (by simp at hgs ⊢; omega) ?_; intro v' w1 hown' hgrow _; obtain ⟨av2, cv2, rfl⟩ := ownsRow_slice hown'; have hgg := Lib.hid (grow_row (grow_alloc hg' _) hgrow (fun k hk => (ownsRow_block own' k hk).1)); have HO := Lib.hid hown'; clear hgrow own' hg' cX0 cX1 cX2 hown')
              go_roundw
              case rel =>
                refine ⟨j + 1, by omega, by go_num, Lib.hid ?_, hgg⟩
                rw [HY.out, edCells_snoc, List.length_append]
                exact HO.out
              case measure => simp [intOf]; omega
      · obtain rfl : j = es.length := by omega
        have HW := Lib.hid (HV.out.symm ▸ OWN.out)
        clear OWN
        obtain ⟨av, cv, rfl⟩ := ownsRow_slice HW.out
        go_wp2_with fail
        try go_ret2
        rw [← HP.out]
        exact ⟨_, rfl, HW.out, HG.out⟩
  · rw [if_pos h] at hP
    have hb : (faultText s es != 0) = true := by simpa using h
    generalize faultText s es = F at HC hP hb
    have HP := Lib.hid hP
    clear hP hE h hS
    go_enter Try.func14, Try.ntmps14
    go_wp2_with fail
    refine HC.out.mono ?_
    rintro e w1 ⟨rfl, g1⟩
    have G := Lib.hid g1
    clear g1 HC
    go_wp2_with fail
    try go_ret2
    rw [← HP.out]
    exact ⟨_, rfl, World.ownsRow_nil _ _ _ _, G.out⟩
end Go.Proofs.Ytajigndlcdiinaa
