/- SqueezedOf, the reference's. -/
import Derived.Test.YtajigndlcdiinaaA7
import Derived.Test.YtajigndlcdiinaaH4
namespace Go.Proofs.Ytajigndlcdiinaa
open Go.RowKit

theorem sqTo_bd (s : ByteArray) (es : List Ed) : ∀ j, j ≤ es.length → (sqTo s es j).length ≤ j := sqTo_len s es

set_option maxHeartbeats 4000000 in
set_option maxRecDepth 100000 in
theorem squeezedOf_any (s : ByteArray) (a : Option Addr) (cap : Nat) (es : List Ed) (w : World) (hn : s.size ≤ 20000) (hl : es.length ≤ 2000) (hE : Eds w a es)
    (hS : ∀ e, e ∈ es → 0 ≤ e.at_ ∧ 0 ≤ e.old ∧ e.at_ + e.old ≤ s.size ∧ e.new.size ≤ 40000) :
    Calls Try.prog 19 #[.string s, .slice a es.length cap] w (EditsPost (squeezedV s es) w) := by
  have HE := Lib.hid hE
  clear hE
  obtain ⟨i0, hi, hz0, hz1, hz2⟩ := info_parts infoEdit
  have HV := Lib.hid (show squeezedV s es = sqTo s es es.length from rfl)
  go_enter Try.func19, Try.ntmps19
  go_wp2_with fail
  go_loopw [5, 10] (fun v i wr => ∃ j : Nat, j ≤ es.length ∧ i = .int .i64 j ∧ wr.ownsRow w.heap.size 47 3 v (sqTo s es j).length (edCells (sqTo s es j)) ∧ w.grownBy wr none) (fun _ i _ => es.length - (intOf i).toNat)
  case atStart => exact ⟨0, Nat.zero_le _, rfl, World.ownsRow_nil _ _ _ _, grow_self w⟩
  case round =>
    obtain ⟨wo, rfl⟩ : ∃ wo : World, wo = wr := ⟨_, rfl⟩
    obtain ⟨j, hj, rfl, own, hg⟩ := hrel
    by_cases hlt : j < es.length
    · obtain ⟨g, off, rfl, q1, q2, q3⟩ := HE.out j hlt
      replace q1 := hg.cell q1 (by simp)
      replace q2 := hg.cell q2 (by simp)
      replace q3 := hg.cell q3 (by simp)
      have hs := hS _ (List.getElem_mem hlt)
      have hlen := sqTo_len s es j hj
      have HT := Lib.hid (sqTo_succ s es j hlt)
      generalize es[j] = x at q1 q2 q3 hs HT
      obtain ⟨xa, xo, xn⟩ := x
      simp only at q1 q2 q3 hs
      obtain ⟨p, rfl⟩ : ∃ p : Nat, xa = (p : Int) := ⟨xa.toNat, by omega⟩
      obtain ⟨q, rfl⟩ : ∃ q : Nat, xo = (q : Int) := ⟨xo.toNat, by omega⟩
      obtain ⟨L, hL⟩ : ∃ L, L = sqTo s es j := ⟨_, rfl⟩
      rw [← hL] at own HT hlen
      clear hL
      obtain ⟨av, cv, rfl⟩ := ownsRow_slice own
      have hpq : p + q ≤ s.size := by omega
      have hxn : xn.size ≤ 40000 := hs.2.2.2
      go_upto_block 2 with (fail)
      have R0 := Lib.hid (show SqRel w wo.heap.size (.slice av L.length cv) L p q xn (wo.alloc (.cells #[.int .i64 p, .int .i64 q, .string xn] 47)) from
        ⟨heap_alloc_new wo _, (fun hb => by
          obtain ⟨_, c, hc⟩ := ownsRow_block own _ hb
          have := lt_of_block hc
          omega), own.alloc _, grow_alloc hg _, hg.size⟩)
      generalize wo.alloc (.cells #[.int .i64 (p : Int), .int .i64 (q : Int), .string xn] 47) = w1 at R0 ⊢
      generalize wo.heap.size = B at R0 ⊢
      clear own hg q1 q2 q3 hs
      go_cut [] (fun wx => ∃ (p' q' : Nat) (n' : ByteArray), Hid (sqE s ⟨p, q, xn⟩ = sqRight s q' ⟨p', q', n'⟩) ∧ p' + q' ≤ s.size ∧ n'.size ≤ 40000 ∧ Hid (SqRel w B (.slice av L.length cv) L p' q' n' wx))
      case first =>
        go_wp2_with fail
        go_loopw [] (fun wv => ∃ (p' q' : Nat) (n' : ByteArray), Hid (sqLeft s q ⟨p, q, xn⟩ = sqLeft s q' ⟨p', q', n'⟩) ∧ p' + q' ≤ s.size ∧ n'.size ≤ 40000 ∧ Hid (SqRel w B (.slice av L.length cv) L p' q' n' wv)) (fun wv => (cellInt (wv.cell? ⟨B, 1, none⟩)).toNat)
        case atStart => exact ⟨p, q, xn, Lib.hid rfl, hpq, hxn, R0⟩
        case round =>
          clear R0
          obtain ⟨p', q', n', H1, hpq', hns, R⟩ := hrel
          have hX := R.out.1
          have cX0 := cell_of_block hX 0
          have cX1 := cell_of_block hX 1
          have cX2 := cell_of_block hX 2
          have fX0 := free_of_block hX 0
          have fX1 := free_of_block hX 1
          have fX2 := free_of_block hX 2
          simp only [List.getElem?_toArray, List.getElem?_cons_zero, List.getElem?_cons_succ] at cX0 cX1 cX2
          clear hX
          have R1 := Lib.hid R.out.drew
          by_cases t1 : 0 < q'
          · have d1 : decide ((0 : Int) < (q' : Int)) = true := by simp; omega
            by_cases t2 : n'.size = 0
            · have z := isEmpty_of_size t2
              have HQ := Lib.hid (sqE_mid (H1.out.trans (sqLeft_new0 s p' q' n' q' t2)))
              clear t2
              go_wp2_with fail
              go_region
              go_wp2_with fail
              go_meet
              exact ⟨p', q', n', HQ, hpq', hns, R1⟩
            · have z := not_isEmpty_of_size t2
              have i1 : p' < s.size := by omega
              have i2 : 0 < n'.size := by omega
              have i3 : (p' : Int) < (s.size : Int) := by omega
              have i4 : (0 : Int) ≤ (p' : Int) := Int.natCast_nonneg _
              have i5 : (1 : Int) ≤ (n'.size : Int) := by omega
              have i6 : 1 ≤ n'.size := by omega
              by_cases t3 : s[p'] = n'[0]
              · have e1 : ((s[p'].toNat : Int) == (n'[0].toNat : Int)) = true := by rw [t3]; simp
                have v1 : IntKind.i64.wrap ((p' : Int) + 1) = (p' : Int) + 1 := IntWalk.i64_in _ (by omega)
                have v2 : IntKind.i64.wrap ((q' : Int) - 1) = (q' : Int) - 1 := IntWalk.i64_in _ (by omega)
                have H2 := Lib.hid (H1.out.trans (sqLeft_go s p' q' (q' - 1) n' i1 i2 t3 (by omega)))
                have hns2 : (n'.extract 1 n'.size).size ≤ 40000 := by rw [ByteArray.size_extract]; omega
                have R2 := Lib.hid (SqRel.drew (SqRel.drew (R.out.set3 (a := (p' : Int) + 1) (b := (q' : Int) - 1) (p' := p' + 1) (q' := q' - 1) (n' := n'.extract 1 n'.size) (by omega) (by omega))))
                have hc := Lib.hid R.out.cell1
                clear t2 t3 R1
                go_wp2_with fail
                go_region
                go_wp2_with fail
                go_region_law (fail)
                all_goals
                  go_wp2_with fail
                  refine ⟨⟨p' + 1, q' - 1, n'.extract 1 n'.size, H2, by omega, hns2, R2⟩, ?_⟩
                  rw [hc.out, R2.out.cell1]; omega
              · have e1 : ((s[p'].toNat : Int) == (n'[0].toNat : Int)) = false := beq_eq_false_iff_ne.2 (fun h => t3 (UInt8.toNat_inj.1 (by omega)))
                have HQ := Lib.hid (sqE_mid (H1.out.trans (sqLeft_ne s p' q' n' q' i1 i2 t3)))
                clear t2 t3
                go_wp2_with fail
                go_region
                go_wp2_with fail
                go_meet
                exact ⟨p', q', n', HQ, hpq', hns, R1⟩
          · have d1 : decide ((0 : Int) < (q' : Int)) = false := by simp; omega
            have HQ := Lib.hid (sqE_mid (H1.out.trans (sqLeft_old0 s p' q' n' q' (by omega))))
            go_wp2_with fail
            go_region
            go_wp2_with fail
            go_meet
            exact ⟨p', q', n', HQ, hpq', hns, R1⟩
      case rest =>
        obtain ⟨p1, q1, n1, HQ, hpq1, hn1, R1⟩ := hcut
        obtain ⟨w2, rfl⟩ : ∃ v : World, v = wc := ⟨_, rfl⟩
        clear R0
        go_upto_block 4 with (fail)
        go_cut [] (fun wx => ∃ (q' : Nat) (n' : ByteArray), Hid (sqE s ⟨p, q, xn⟩ = ⟨p1, q', n'⟩) ∧ q' ≤ 20000 ∧ Hid (SqRel w B (.slice av L.length cv) L p1 q' n' wx))
        case first =>
          go_wp2_with fail
          go_loopw [] (fun wv => ∃ (q2 : Nat) (n2 : ByteArray), Hid (sqE s ⟨p, q, xn⟩ = sqRight s q2 ⟨p1, q2, n2⟩) ∧ p1 + q2 ≤ s.size ∧ n2.size ≤ 40000 ∧ Hid (SqRel w B (.slice av L.length cv) L p1 q2 n2 wv)) (fun wv => (cellInt (wv.cell? ⟨B, 1, none⟩)).toNat)
          case atStart => exact ⟨q1, n1, HQ, hpq1, hn1, R1⟩
          case round =>
            clear R1 HQ
            obtain ⟨q2, n2, H1, hpq2, hns2, R⟩ := hrel
            have hX := R.out.1
            have cX0 := cell_of_block hX 0
            have cX1 := cell_of_block hX 1
            have cX2 := cell_of_block hX 2
            have fX0 := free_of_block hX 0
            have fX1 := free_of_block hX 1
            have fX2 := free_of_block hX 2
            simp only [List.getElem?_toArray, List.getElem?_cons_zero, List.getElem?_cons_succ] at cX0 cX1 cX2
            clear hX
            have R2 := Lib.hid R.out.drew
            have hq2 : q2 ≤ 20000 := by omega
            by_cases u1 : 0 < q2
            · have d1 : decide ((0 : Int) < (q2 : Int)) = true := by simp; omega
              by_cases u2 : n2.size = 0
              · have z := isEmpty_of_size u2
                have HF := Lib.hid (H1.out.trans (sqRight_new0 s p1 q2 n2 q2 u2))
                clear u2
                go_wp2_with fail
                go_region
                go_wp2_with fail
                go_meet
                exact ⟨q2, n2, HF, hq2, R2⟩
              · have z := not_isEmpty_of_size u2
                obtain ⟨r, hr⟩ : ∃ r : Nat, (p1 : Int) + (q2 : Int) - 1 = (r : Int) := ⟨p1 + q2 - 1, by omega⟩
                obtain ⟨m, hm⟩ : ∃ m : Nat, n2.size = m + 1 := ⟨n2.size - 1, by omega⟩
                have i1 : r < s.size := by omega
                have i2 : m < n2.size := by omega
                have i3 : (r : Int) < (s.size : Int) := by omega
                have i4 : (0 : Int) ≤ (r : Int) := Int.natCast_nonneg _
                have i5 : (m : Int) < (n2.size : Int) := by omega
                have i6 : (0 : Int) ≤ (m : Int) := Int.natCast_nonneg _
                have i7 : (m : Int) ≤ (n2.size : Int) := by omega
                have v1 : IntKind.i64.wrap ((p1 : Int) + (q2 : Int)) = (p1 : Int) + (q2 : Int) := IntWalk.i64_in _ (by omega)
                have v2 : IntKind.i64.wrap ((p1 : Int) + (q2 : Int) - 1) = (r : Int) := by rw [hr]; exact IntWalk.i64_in _ (by omega)
                have v3 : IntKind.i64.wrap ((n2.size : Int) - 1) = (m : Int) := by rw [hm]; simpa using IntWalk.i64_in (m : Int) (by omega)
                have v4 : IntKind.i64.wrap ((q2 : Int) - 1) = (q2 : Int) - 1 := IntWalk.i64_in _ (by omega)
                by_cases u3 : s[r] = n2[m]
                · have e1 : ((s[r].toNat : Int) == (n2[m].toNat : Int)) = true := by rw [u3]; simp
                  have H2 := Lib.hid (H1.out.trans (sqRight_go s p1 q2 (q2 - 1) r m n2 hr hm i1 i2 u3 (by omega)))
                  have hns3 : (n2.extract 0 m).size ≤ 40000 := by rw [ByteArray.size_extract]; omega
                  have R3 := Lib.hid (SqRel.drew (SqRel.drew (R.out.set2 (b := (q2 : Int) - 1) (q' := q2 - 1) (n' := n2.extract 0 m) (by omega))))
                  have hc := Lib.hid R.out.cell1
                  clear hm hr u2 u3 R2
                  go_wp2_with fail
                  go_region
                  go_wp2_with fail
                  go_region_law (fail)
                  all_goals
                    go_wp2_with fail
                    refine ⟨⟨q2 - 1, n2.extract 0 m, H2, by omega, hns3, R3⟩, ?_⟩
                    rw [hc.out, R3.out.cell1]; omega
                · have e1 : ((s[r].toNat : Int) == (n2[m].toNat : Int)) = false := beq_eq_false_iff_ne.2 (fun h => u3 (UInt8.toNat_inj.1 (by omega)))
                  have HF := Lib.hid (H1.out.trans (sqRight_ne s p1 q2 r m n2 q2 hr hm i1 i2 u3))
                  clear hm hr u2 u3
                  go_wp2_with fail
                  go_region
                  go_wp2_with fail
                  go_meet
                  exact ⟨q2, n2, HF, hq2, R2⟩
            · have d1 : decide ((0 : Int) < (q2 : Int)) = false := by simp; omega
              have HF := Lib.hid (H1.out.trans (sqRight_old0 s p1 q2 n2 q2 (by omega)))
              go_wp2_with fail
              go_region
              go_wp2_with fail
              go_meet
              exact ⟨q2, n2, HF, hq2, R2⟩
        case rest =>
          obtain ⟨q2, n2, HF, hq2, R⟩ := hcut
          obtain ⟨w3, rfl⟩ : ∃ v : World, v = wc := ⟨_, rfl⟩
          clear R1 HQ
          have hX := R.out.1
          have cX0 := cell_of_block hX 0
          have cX1 := cell_of_block hX 1
          have cX2 := cell_of_block hX 2
          simp only [List.getElem?_toArray, List.getElem?_cons_zero, List.getElem?_cons_succ] at cX0 cX1 cX2
          clear hX
          by_cases hd : 0 < q2
          · have d1 : decide ((0 : Int) < (q2 : Int)) = true := by simp; omega
            have HY := Lib.hid (HT.out.trans (sqStep_yes (L := L) HF.out (Or.inl (by simp only; omega))))
            have own' := R.out.2.2.1
            have hg' := R.out.2.2.2.1
            have hgs := hg'.size
            clear R HF
            go_wp2_with (at_builtin; refine wpList_append_own _ rfl _ _ 28 rfl w.heap.size 47 i0 (.agg #[.int .i64 0, .int .i64 0, .string ⟨#[]⟩]) 3 32 Try.underlying28 hi hz0 hz1 hz2 rfl (by decide) _ _ _ rfl (own'.alloc _) ⟨w3.heap.size, 0, none⟩ 1 1 [.int .i64 (p1 : Int), .int .i64 (q2 : Int), .string n2] rfl rfl (cells_new _ _ _) (fun x hx => by simp at hx; rcases hx with rfl | rfl | rfl <;> rfl) (by unfold maxLen; omega) (by omega) (by simp at hgs ⊢; omega) ?_; intro v' w1 hown' hgrow _; obtain ⟨av2, cv2, rfl⟩ := ownsRow_slice hown'; have hgg := Lib.hid (grow_row (grow_alloc hg' _) hgrow (fun k hk => (ownsRow_block own' k hk).1)); have HO := Lib.hid hown'; clear hgrow own' hg' cX0 cX1 cX2 hown')
            go_roundw
            case rel =>
              refine ⟨j + 1, by omega, by go_num, ?_, hgg.out⟩
              rw [HY.out, edCells_snoc, List.length_append]
              exact HO.out
            case measure => simp [intOf]; omega
          · have d1 : decide ((0 : Int) < (q2 : Int)) = false := by simp; omega
            by_cases u2 : n2.size = 0
            · have z := isEmpty_of_size u2
              have HY := Lib.hid (HT.out.trans (sqStep_no (L := L) HF.out (by simp only; omega)))
              clear u2
              go_wp2_with fail
              go_roundw
              case rel => exact ⟨j + 1, by omega, by go_num, by rw [HY.out]; exact R.out.2.2.1, R.out.2.2.2.1⟩
              case measure => simp [intOf]; omega
            · have z := not_isEmpty_of_size u2
              have HY := Lib.hid (HT.out.trans (sqStep_yes (L := L) HF.out (Or.inr u2)))
              have own' := R.out.2.2.1
              have hg' := R.out.2.2.2.1
              have hgs := hg'.size
              clear R HF u2
              go_wp2_with (at_builtin; refine wpList_append_own _ rfl _ _ 28 rfl w.heap.size 47 i0 (.agg #[.int .i64 0, .int .i64 0, .string ⟨#[]⟩]) 3 32 Try.underlying28 hi hz0 hz1 hz2 rfl (by decide) _ _ _ rfl (own'.alloc _) ⟨w3.heap.size, 0, none⟩ 1 1 [.int .i64 (p1 : Int), .int .i64 (q2 : Int), .string n2] rfl rfl (cells_new _ _ _) (fun x hx => by simp at hx; rcases hx with rfl | rfl | rfl <;> rfl) (by unfold maxLen; omega) (by omega) (by simp at hgs ⊢; omega) ?_; intro v' w1 hown' hgrow _; obtain ⟨av2, cv2, rfl⟩ := ownsRow_slice hown'; have hgg := Lib.hid (grow_row (grow_alloc hg' _) hgrow (fun k hk => (ownsRow_block own' k hk).1)); have HO := Lib.hid hown'; clear hgrow own' hg' cX0 cX1 cX2 hown')
              go_roundw
              case rel =>
                refine ⟨j + 1, by omega, by go_num, ?_, hgg.out⟩
                rw [HY.out, edCells_snoc, List.length_append]
                exact HO.out
              case measure => simp [intOf]; omega
    · obtain rfl : j = es.length := by omega
      have HW := Lib.hid (HV.out.symm ▸ own)
      have HG := Lib.hid hg
      clear own hg
      go_wp2_with fail
      go_ret
      exact ⟨_, rfl, HW.out, HG.out⟩
end Go.Proofs.Ytajigndlcdiinaa
