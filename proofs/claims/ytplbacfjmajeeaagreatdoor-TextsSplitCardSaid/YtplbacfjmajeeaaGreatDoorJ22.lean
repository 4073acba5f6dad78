/- A part of the proof of the statement on TextsSplit. -/
import Derived.Test.YtplbacfjmajeeaaGreatDoorJA
import Derived.Test.YtplbacfjmajeeaaGreatDoorJ19
import Derived.Test.YtplbacfjmajeeaaGreatDoorJ02
import Derived.Test.YtplbacfjmajeeaaGreatDoorJ21
namespace Go.Proofs.YtplbacfjmajeeaaGreatDoor
open Go.Lib (hid)
set_option maxHeartbeats 4000000
set_option maxRecDepth 100000
open Go.RowKit
mutual
theorem PtAt.stays {w w' : World} (g : ∀ b off v, At4 w b off v → At4 w' b off v) : (p : Pt) → (v : Value) → PtAt w p v → PtAt w' p v
 | .mk o l h ps, v, hp => by
  obtain ⟨av, cap, hv, ha⟩ := hp
  refine ⟨av, cap, hv, ?_⟩
  rcases ha with ha | ⟨b, off, hb, ha⟩
  · exact .inl ha
  · exact .inr ⟨b, off, hb, PtsAt.stays g ps b off ha⟩
theorem PtsAt.stays {w w' : World} (g : ∀ b off v, At4 w b off v → At4 w' b off v) : (ps : List Pt) → (b off : Nat) → PtsAt w ps b off → PtsAt w' ps b off
 | [], _, _, _ => trivial
 | a :: ps, b, off, h => ⟨by obtain ⟨v, h1, h2⟩ := h.1; exact ⟨v, g _ _ _ h1, PtAt.stays g a v h2⟩, PtsAt.stays g ps b (off + 4) h.2⟩
end
def NumAt (w : World) (b : Nat) (m : Int) : Prop := w.heap[b]? = some (.cells #[.int .i64 m] 3 (0, 0))
theorem At4.num {w w' : World} {b mb off : Nat} {m : Int} {v : Value} (h : At4 w b off v) (hm : NumAt w mb m) (g : w.grownBy w' (some mb)) : At4 w' b off v := by
 obtain ⟨c0, c1, c2, c3, rfl, h0, h1, h2, h3⟩ := h
 have hb : b ≠ mb := by
  rintro rfl
  rw [cell_of_block hm (off + 1)] at h1
  simp at h1
 have hc : ∀ (o : Nat) (u : Value), w.cell? ⟨b, o, none⟩ = some u → w'.cell? ⟨b, o, none⟩ = some u := by
  intro o u hu
  exact g.cell hu (by simpa using hb)
 exact ⟨c0, c1, c2, c3, rfl, hc _ _ h0, hc _ _ h1, hc _ _ h2, hc _ _ h3⟩
theorem NumAt.cell {w : World} {b : Nat} {m : Int} (h : NumAt w b m) : w.cell? ⟨b, 0, none⟩ = some (.int .i64 m) := by rw [cell_of_block h 0]; rfl
theorem form_ways (o l hi : Int) (n : Nat) (ho : 1 ≤ o ∧ o ≤ 4) (t4 : formB o l hi n = false) : (o = 1 ∧ 0 < n) ∨ (o = 2 ∧ n = 1) ∨ (o = 2 ∧ n ≠ 1 ∧ l ≠ 0) ∨ (o = 2 ∧ n ≠ 1 ∧ l = 0 ∧ hi ≠ 0) ∨ (o = 3 ∧ n < 2) ∨ (o = 3 ∧ 2 ≤ n ∧ l ≠ 0) ∨ (o = 3 ∧ 2 ≤ n ∧ l = 0 ∧ hi ≠ 0) ∨ (o = 4 ∧ n ≠ 1) ∨ (o = 4 ∧ n = 1 ∧ l ≠ 0) ∨ (o = 4 ∧ n = 1 ∧ l = 0 ∧ hi ≠ 0) := by
 have h4 : o = 1 ∨ o = 2 ∨ o = 3 ∨ o = 4 := by omega
 unfold formB at t4
 rcases h4 with h | h | h | h
 · rw [if_pos h] at t4; simp only [decide_eq_false_iff_not] at t4; omega
 · rw [if_neg (by omega), if_pos h] at t4; simp only [Bool.and_eq_false_iff, decide_eq_false_iff_not] at t4; omega
 · rw [if_neg (by omega), if_neg (by omega), if_pos h] at t4; simp only [Bool.and_eq_false_iff, decide_eq_false_iff_not] at t4; omega
 · rw [if_neg (by omega), if_neg (by omega), if_neg (by omega)] at t4; simp only [Bool.and_eq_false_iff, decide_eq_false_iff_not] at t4; omega
theorem form_pass (o l hi : Int) (n : Nat) (ho : 1 ≤ o ∧ o ≤ 4) (t4 : formB o l hi n = true) : (o = 1 ∧ n = 0) ∨ (o = 2 ∧ n ≠ 1 ∧ l = 0 ∧ hi = 0) ∨ (o = 3 ∧ 2 ≤ n ∧ l = 0 ∧ hi = 0) ∨ (o = 4 ∧ n = 1 ∧ l = 0 ∧ hi = 0) := by
 have h4 : o = 1 ∨ o = 2 ∨ o = 3 ∨ o = 4 := by omega
 unfold formB at t4
 rcases h4 with h | h | h | h
 · rw [if_pos h] at t4; simp only [decide_eq_true_eq] at t4; omega
 · rw [if_neg (by omega), if_pos h] at t4; simp only [Bool.and_eq_true, decide_eq_true_eq] at t4; omega
 · rw [if_neg (by omega), if_neg (by omega), if_pos h] at t4; simp only [Bool.and_eq_true, decide_eq_true_eq] at t4; omega
 · rw [if_neg (by omega), if_neg (by omega), if_neg (by omega)] at t4; simp only [Bool.and_eq_true, decide_eq_true_eq] at t4; omega
theorem inB_iff (n lo hi : Int) : inB n lo hi = true ↔ lo ≤ n ∧ n ≤ hi := by simp [inB]
def CntPost (w : World) (mb : Nat) (m : Int) (p : Pt) (d : Int) (e : Ending) (w' : World) : Prop :=
 e = .returned (.int .i64 (p.fault d)) ∧ w.grownBy w' (some mb) ∧ ∃ m' : Int, NumAt w' mb m' ∧ (p.fault d = 0 → m' = m + p.size)
theorem refFault_any (p : Pt) : ∀ (v : Value) (w : World) (d m : Int) (mb : Nat), 0 ≤ d → d + p.size ≤ 1000000 → 0 ≤ m → m + p.size ≤ 2000000 → PtAt w p v → NumAt w mb m → Calls Tryz.prog 43 #[v, .int .i64 d, .pointer (some ⟨mb, 0, none⟩)] w (CntPost w mb m p d) := by
 induction p using Pt.ind with
 | h o l hi ps ih =>
  intro v w d m mb hd hs hm0 hm1 hp hN
  obtain ⟨av, cap, rfl, ha⟩ := hp
  simp only [Pt.size] at hs hm1
  have hlen := len_sizes ps
  have HA := hid ha
  have HNM := hid hN
  have cm : ∀ o, (w.alloc o).cell? ⟨mb, 0, none⟩ = some (.int .i64 m) := fun o => cell_grown hN.cell (World.grownBy_alloc w o none)
  have fm : ∀ o, (w.alloc o).frozen? ⟨mb, 0, none⟩ = false := fun o => free_of_block (grow_new (World.grownBy_alloc w o none) hN) 0
  clear ha hN
  have G1 : w.grownBy ((w.alloc (.cells #[.int .i64 o, .int .i64 l, .int .i64 hi, .slice av ps.length cap] 28)).setCell ⟨mb, 0, none⟩ (.int .i64 (m + 1))) (some mb) := grownBy_trans (World.grownBy_alloc _ _ _) (grow_cell 0 _)
  have N1 : NumAt ((w.alloc (.cells #[.int .i64 o, .int .i64 l, .int .i64 hi, .slice av ps.length cap] 28)).setCell ⟨mb, 0, none⟩ (.int .i64 (m + 1))) mb (m + 1) := by
   unfold NumAt
   rw [heap_setCell_self (grow_new (World.grownBy_alloc w _ none) HNM.out) 0 _]; rfl
  have hmb : mb < w.heap.size := lt_of_block HNM.out
  have BX := (Below.heap_setCell (w.alloc (.cells #[.int .i64 o, .int .i64 l, .int .i64 hi, .slice av ps.length cap] 28)) ⟨mb, 0, none⟩ (.int .i64 (m + 1)) w.heap.size (by simp; omega)).trans (heap_alloc_new w _)
  have bx0 := cell_of_block BX 0
  have bx1 := cell_of_block BX 1
  have bx2 := cell_of_block BX 2
  have bx3 := cell_of_block BX 3
  simp only [xGe, xGz, xGs] at bx0 bx1 bx2 bx3
  clear BX hmb
  have HG1 := hid G1
  have HN1 := hid N1
  clear G1 N1
  have hlp : (0 : Int) ≤ ps.length := by omega
  by_cases t1 : 30 < d
  · have H := hid (show (Pt.mk o l hi ps).fault d = 2 by simp [Pt.fault, t1])
    go_enter Tryz.func43, Tryz.ntmps43
    go_wp2_with fail
    go_ret
    exact ⟨ret_i64 (by rw [H.out]), HG1.out, _, HN1.out, fun h => by rw [H.out] at h; cases h⟩
  by_cases t2 : inB o 1 4 = false
  · have H := hid (show (Pt.mk o l hi ps).fault d = 4 by rw [Pt.fault, if_neg t1, if_pos (by rw [← inB_iff]; simp [t2])])
    go_enter Tryz.func43, Tryz.ntmps43
    go_wp2_with fail
    refine (in_any _ _ _ _).mono ?_
    rintro e w1 ⟨rfl, rfl⟩
    rw [t2]
    go_wp2_with fail
    go_ret
    exact ⟨ret_i64 (by rw [H.out]), HG1.out, _, HN1.out, fun h => by rw [H.out] at h; cases h⟩
  have t2b : inB o 1 4 = true := by simpa using t2
  have ho := (inB_iff o 1 4).1 t2b
  by_cases t4 : formB o l hi ps.length = false
  · have H := hid (show (Pt.mk o l hi ps).fault d = 3 by rw [Pt.fault, if_neg t1, if_neg (by omega), if_pos t4])
    have hway := form_ways o l hi ps.length (by omega) t4
    clear t4 t2
    rcases hway with ⟨rfl, h1⟩ | ⟨rfl, h1⟩ | ⟨rfl, h1, h2⟩ | ⟨rfl, h1, rfl, h3⟩ | ⟨rfl, h1⟩ | ⟨rfl, h1, h2⟩ | ⟨rfl, h1, rfl, h3⟩ | ⟨rfl, h1⟩ | ⟨rfl, h1, h2⟩ | ⟨rfl, h1, rfl, h3⟩
    · have e0 : (0 : Int) < ps.length := by omega
      clear h1
      go_enter Tryz.func43, Tryz.ntmps43
      go_wp2_with fail
      refine (in_any _ _ _ _).mono ?_
      rintro e w1 ⟨rfl, rfl⟩
      rw [t2b]
      go_wp2_with fail
      go_ret
      exact ⟨ret_i64 (by rw [H.out]), HG1.out, _, HN1.out, fun h => by rw [H.out] at h; cases h⟩
    · rw [h1] at bx0 bx1 bx2 bx3 HG1 HN1 ⊢
      go_enter Tryz.func43, Tryz.ntmps43
      go_wp2_with (go_at_call 62; refine (in_any _ _ _ _).mono ?_; rintro e w1 ⟨rfl, rfl⟩)
      go_ret
      exact ⟨ret_i64 (by rw [H.out]), HG1.out, _, HN1.out, fun h => by rw [H.out] at h; cases h⟩
    · have e1 : ((ps.length : Int) == 1) = false := by simp; omega
      have e3 : ((ps.length : Int) != 1) = true := by simp; omega
      have e4 : (l != 0) = true := by simpa using h2
      go_enter Tryz.func43, Tryz.ntmps43
      go_wp2_with (go_at_call 62; refine (in_any _ _ _ _).mono ?_; rintro e w1 ⟨rfl, rfl⟩)
      go_ret
      exact ⟨ret_i64 (by rw [H.out]), HG1.out, _, HN1.out, fun h => by rw [H.out] at h; cases h⟩
    · have e1 : ((ps.length : Int) == 1) = false := by simp; omega
      have e3 : ((ps.length : Int) != 1) = true := by simp; omega
      have e5 : (hi != 0) = true := by simpa using h3
      go_enter Tryz.func43, Tryz.ntmps43
      go_wp2_with (go_at_call 62; refine (in_any _ _ _ _).mono ?_; rintro e w1 ⟨rfl, rfl⟩)
      go_ret
      exact ⟨ret_i64 (by rw [H.out]), HG1.out, _, HN1.out, fun h => by rw [H.out] at h; cases h⟩
    · have e2 : (ps.length : Int) < 2 := by omega
      go_enter Tryz.func43, Tryz.ntmps43
      go_wp2_with (go_at_call 62; refine (in_any _ _ _ _).mono ?_; rintro e w1 ⟨rfl, rfl⟩)
      go_ret
      exact ⟨ret_i64 (by rw [H.out]), HG1.out, _, HN1.out, fun h => by rw [H.out] at h; cases h⟩
    · have e2 : ¬ (ps.length : Int) < 2 := by omega
      have e4 : (l != 0) = true := by simpa using h2
      go_enter Tryz.func43, Tryz.ntmps43
      go_wp2_with (go_at_call 62; refine (in_any _ _ _ _).mono ?_; rintro e w1 ⟨rfl, rfl⟩)
      go_ret
      exact ⟨ret_i64 (by rw [H.out]), HG1.out, _, HN1.out, fun h => by rw [H.out] at h; cases h⟩
    · have e2 : ¬ (ps.length : Int) < 2 := by omega
      have e5 : (hi != 0) = true := by simpa using h3
      go_enter Tryz.func43, Tryz.ntmps43
      go_wp2_with (go_at_call 62; refine (in_any _ _ _ _).mono ?_; rintro e w1 ⟨rfl, rfl⟩)
      go_ret
      exact ⟨ret_i64 (by rw [H.out]), HG1.out, _, HN1.out, fun h => by rw [H.out] at h; cases h⟩
    · have e1 : ((ps.length : Int) == 1) = false := by simp; omega
      have e3 : ((ps.length : Int) != 1) = true := by simp; omega
      go_enter Tryz.func43, Tryz.ntmps43
      go_wp2_with (go_at_call 62; refine (in_any _ _ _ _).mono ?_; rintro e w1 ⟨rfl, rfl⟩)
      go_ret
      exact ⟨ret_i64 (by rw [H.out]), HG1.out, _, HN1.out, fun h => by rw [H.out] at h; cases h⟩
    · rw [h1] at bx0 bx1 bx2 bx3 HG1 HN1 ⊢
      have e4 : (l != 0) = true := by simpa using h2
      go_enter Tryz.func43, Tryz.ntmps43
      go_wp2_with (go_at_call 62; refine (in_any _ _ _ _).mono ?_; rintro e w1 ⟨rfl, rfl⟩)
      go_ret
      exact ⟨ret_i64 (by rw [H.out]), HG1.out, _, HN1.out, fun h => by rw [H.out] at h; cases h⟩
    · rw [h1] at bx0 bx1 bx2 bx3 HG1 HN1 ⊢
      have e5 : (hi != 0) = true := by simpa using h3
      go_enter Tryz.func43, Tryz.ntmps43
      go_wp2_with (go_at_call 62; refine (in_any _ _ _ _).mono ?_; rintro e w1 ⟨rfl, rfl⟩)
      go_ret
      exact ⟨ret_i64 (by rw [H.out]), HG1.out, _, HN1.out, fun h => by rw [H.out] at h; cases h⟩
  have t4b : formB o l hi ps.length = true := by simpa using t4
  have hway := form_pass o l hi ps.length (by omega) t4b
  have T4n := hid t4
  by_cases t5 : inB l 0 255 = false ∨ inB hi l 255 = false
  · have H := hid (show (Pt.mk o l hi ps).fault d = 1 by
     rw [Pt.fault, if_neg t1, if_neg (by omega), if_neg T4n.out, if_pos (by
      intro hh
      rcases t5 with t5 | t5
      · rw [(inB_iff l 0 255).2 (by omega)] at t5; cases t5
      · rw [(inB_iff hi l 255).2 (by omega)] at t5; cases t5)])
    have hz : o = 1 ∧ ps.length = 0 := by
     rcases hway with h | ⟨_, _, rfl, rfl⟩ | ⟨_, _, rfl, rfl⟩ | ⟨_, _, rfl, rfl⟩
     · exact h
     all_goals (rcases t5 with t5 | t5 <;> simp [inB] at t5)
    obtain ⟨rfl, hn0⟩ := hz
    clear hway t4 t4b t2
    rw [hn0] at bx0 bx1 bx2 bx3 HG1 HN1 ⊢
    rcases hb : inB l 0 255 with _ | _
    · clear t5
      go_enter Tryz.func43, Tryz.ntmps43
      go_wp2_with fail
      refine (in_any _ _ _ _).mono ?_
      rintro e w1 ⟨rfl, rfl⟩
      rw [t2b]
      go_wp2_with fail
      refine (in_any _ _ _ _).mono ?_
      rintro e w1 ⟨rfl, rfl⟩
      rw [hb]
      go_wp2_with fail
      go_ret
      exact ⟨ret_i64 (by rw [H.out]), HG1.out, _, HN1.out, fun h => by rw [H.out] at h; cases h⟩
    · have hb2 : inB hi l 255 = false := by rcases t5 with t5 | t5; · rw [hb] at t5; cases t5
                                            · exact t5
      clear t5
      go_enter Tryz.func43, Tryz.ntmps43
      go_wp2_with fail
      refine (in_any _ _ _ _).mono ?_
      rintro e w1 ⟨rfl, rfl⟩
      rw [t2b]
      go_wp2_with fail
      refine (in_any _ _ _ _).mono ?_
      rintro e w1 ⟨rfl, rfl⟩
      rw [hb]
      go_wp2_with fail
      refine (in_any _ _ _ _).mono ?_
      rintro e w1 ⟨rfl, rfl⟩
      rw [hb2]
      go_wp2_with fail
      go_ret
      exact ⟨ret_i64 (by rw [H.out]), HG1.out, _, HN1.out, fun h => by rw [H.out] at h; cases h⟩
  · have b2 : inB l 0 255 = true := by rcases h : inB l 0 255 with _ | _; · exact absurd (.inl h) t5
                                       · rfl
    have b3 : inB hi l 255 = true := by rcases h : inB hi l 255 with _ | _; · exact absurd (.inr h) t5
                                        · rfl
    have H := hid (show (Pt.mk o l hi ps).fault d = faults ps (d + 1) by
     have c2 := (inB_iff l 0 255).1 b2
     have c3 := (inB_iff hi l 255).1 b3
     rw [Pt.fault, if_neg t1, if_neg (by omega), if_neg T4n.out, if_neg (by omega)])
    clear t5 t4 t4b t2
    rcases hway with ⟨rfl, h1⟩ | ⟨rfl, h1, rfl, rfl⟩ | ⟨rfl, h1, rfl, rfl⟩ | ⟨rfl, h1, rfl, rfl⟩
    · have hnil := List.eq_nil_of_length_eq_zero h1
      have HNL := hid hnil
      rw [h1] at bx0 bx1 bx2 bx3 HG1 HN1 ⊢
      clear hnil h1
      go_enter Tryz.func43, Tryz.ntmps43
      go_wp2_with fail
      refine (in_any _ _ _ _).mono ?_
      rintro e w1 ⟨rfl, rfl⟩
      rw [t2b]
      go_wp2_with fail
      refine (in_any _ _ _ _).mono ?_
      rintro e w1 ⟨rfl, rfl⟩
      rw [b2]
      go_wp2_with fail
      refine (in_any _ _ _ _).mono ?_
      rintro e w1 ⟨rfl, rfl⟩
      rw [b3]
      go_wp2_with fail
      refine wp_loop_rounds 1 ?_
      rw [rounds_succ]
      go_wp2_with fail
      go_ret
      exact ⟨ret_i64 (by rw [H.out, HNL.out]; rfl), HG1.out, _, HN1.out, fun _ => by rw [Pt.size, HNL.out]; simp [sizes]⟩
    · have e1 : ((ps.length : Int) == 1) = false := by simp; omega
      have e3 : ((ps.length : Int) != 1) = true := by simp; omega
      clear h1
      go_enter Tryz.func43, Tryz.ntmps43
      go_wp2_with fail
      refine (in_any _ _ _ _).mono ?_
      rintro e w1 ⟨rfl, rfl⟩
      rw [t2b]
      go_wp2_with fail
      refine (in_any _ _ _ _).mono ?_
      rintro e w1 ⟨rfl, rfl⟩
      rw [b2]
      go_wp2_with fail
      refine (in_any _ _ _ _).mono ?_
      rintro e w1 ⟨rfl, rfl⟩
      rw [b3]
      go_wp2_with fail
      generalize (w.alloc _).setCell _ _ = w5 at HG1 HN1 ⊢
      clear bx0 bx1 bx2 bx3 cm fm
      go_loopw [85] (fun i wr => ∃ (j : Nat) (mj : Int), j ≤ ps.length ∧ i = .int .i64 j ∧ Hid (faults ps (d + 1) = faults (ps.drop j) (d + 1)) ∧ Hid (w.grownBy wr (some mb)) ∧ Hid (NumAt wr mb mj) ∧ Hid (mj = m + 1 + sizes (ps.take j))) (fun i _ => ps.length - (intOf i).toNat)
      case atStart => exact ⟨0, m + 1, Nat.zero_le _, rfl, hid rfl, HG1, HN1, hid (by simp [sizes])⟩
      case round =>
       obtain ⟨j, mj, hj, rfl, HF, HG, HM, HMJ⟩ := hrel
       by_cases hlt : j < ps.length
       · have hA2 : ps = [] ∨ ∃ b off, av = some ⟨b, off, none⟩ ∧ PtsAt wr ps b off := HA.out.imp id (fun ⟨b, off, h1, h2⟩ => ⟨b, off, h1, PtsAt.stays (fun _ _ _ h => h.num HNM.out HG.out) _ _ _ h2⟩)
         obtain ⟨b, off, xo, xl, xh, xa, xn, xc, rfl, h0, h1, h2, h3, hq⟩ := PtAt.elem hA2 j hlt
         have hle : ps[j].size ≤ sizes ps := size_le_sizes ps _ (List.getElem_mem hlt)
         have hst := sizes_take ps j hlt
         have hst2 := sizes_take_le ps (j + 1)
         have hcons : ps.drop j = ps[j] :: ps.drop (j + 1) := List.drop_eq_getElem_cons hlt
         have HF2 := hid (HF.out.trans (by rw [hcons, faults]))
         have H2 := hid (ih ps[j] (List.getElem_mem hlt))
         have hq2 := PtAt.grow (World.grownBy_alloc wr (.cells #[.int .i64 xo, .int .i64 xl, .int .i64 xh, .slice xa xn xc] 28) none) _ _ hq
         have hN2 : NumAt (wr.alloc (.cells #[.int .i64 xo, .int .i64 xl, .int .i64 xh, .slice xa xn xc] 28)) mb mj := grow_new (World.grownBy_alloc wr _ none) HM.out
         have HW2 := hid (show w.grownBy (wr.alloc (.cells #[.int .i64 xo, .int .i64 xl, .int .i64 xh, .slice xa xn xc] 28)) (some mb) from grownBy_trans HG.out (World.grownBy_alloc _ _ _))
         have HS2 := hid hst
         have hb1 : mj + ps[j].size ≤ 2000000 := by have := HMJ.out; omega
         have hb2 : 0 ≤ mj := by have := HMJ.out; omega
         have HQ2 := hid hq2
         have HN2 := hid hN2
         clear hcons HF hst hst2 hq hq2 hN2 hA2
         generalize ps[j] = q at H2 HQ2 hle HF2 HS2 hb1
         by_cases z : q.fault (d + 1) = 0
         · have HF3 := hid (HF2.out.trans (if_pos z))
           have Z := hid z
           clear z HF2
           go_wp2_with fail
           refine (H2.out _ _ (d + 1) mj mb (by omega) (by omega) hb2 hb1 HQ2.out HN2.out).mono ?_
           rintro e w6 ⟨rfl, g6, m6, hN6, hm6⟩
           have HM6 := hid (hm6 Z.out)
           have HN6 := hid hN6
           have HG6 := hid (grownBy_trans HW2.out g6)
           rw [Z.out]
           clear hm6 hN6 g6
           go_wp2_with fail
           go_roundw
           case rel => exact ⟨j + 1, m6, by omega, by go_num, HF3, HG6, HN6, hid (by rw [HM6.out, HMJ.out, HS2.out]; omega)⟩
           case measure => simp [intOf]; omega
         · have HF3 := hid (HF2.out.trans (if_neg z))
           have zb : (q.fault (d + 1) != 0) = true := by simp [z]
           have Z := hid z
           clear z HF2
           go_wp2_with fail
           refine (H2.out _ _ (d + 1) mj mb (by omega) (by omega) hb2 hb1 HQ2.out HN2.out).mono ?_
           rintro e w6 ⟨rfl, g6, m6, hN6, hm6⟩
           have HN6 := hid hN6
           have HG6 := hid (grownBy_trans HW2.out g6)
           clear hm6 hN6 g6
           go_wp2_with fail
           go_ret
           exact ⟨ret_i64 (by rw [H.out, HF3.out]), HG6.out, _, HN6.out, fun h => by rw [H.out, HF3.out] at h; exact absurd h Z.out⟩
       · have HE := hid (show faults (ps.drop j) (d + 1) = 0 by rw [List.drop_eq_nil_of_le (by omega)]; rfl)
         have HT := hid (show ps.take j = ps from List.take_of_length_le (by omega))
         go_wp2_with fail
         go_ret
         exact ⟨ret_i64 (by rw [H.out, HF.out, HE.out]), HG.out, _, HM.out, fun _ => by rw [HMJ.out, HT.out, Pt.size]; omega⟩
    · have e2 : ¬ (ps.length : Int) < 2 := by omega
      clear h1
      go_enter Tryz.func43, Tryz.ntmps43
      go_wp2_with fail
      refine (in_any _ _ _ _).mono ?_
      rintro e w1 ⟨rfl, rfl⟩
      rw [t2b]
      go_wp2_with fail
      refine (in_any _ _ _ _).mono ?_
      rintro e w1 ⟨rfl, rfl⟩
      rw [b2]
      go_wp2_with fail
      refine (in_any _ _ _ _).mono ?_
      rintro e w1 ⟨rfl, rfl⟩
      rw [b3]
      go_wp2_with fail
      generalize (w.alloc _).setCell _ _ = w5 at HG1 HN1 ⊢
      clear bx0 bx1 bx2 bx3 cm fm
      go_loopw [85] (fun i wr => ∃ (j : Nat) (mj : Int), j ≤ ps.length ∧ i = .int .i64 j ∧ Hid (faults ps (d + 1) = faults (ps.drop j) (d + 1)) ∧ Hid (w.grownBy wr (some mb)) ∧ Hid (NumAt wr mb mj) ∧ Hid (mj = m + 1 + sizes (ps.take j))) (fun i _ => ps.length - (intOf i).toNat)
      case atStart => exact ⟨0, m + 1, Nat.zero_le _, rfl, hid rfl, HG1, HN1, hid (by simp [sizes])⟩
      case round =>
       obtain ⟨j, mj, hj, rfl, HF, HG, HM, HMJ⟩ := hrel
       by_cases hlt : j < ps.length
       · have hA2 : ps = [] ∨ ∃ b off, av = some ⟨b, off, none⟩ ∧ PtsAt wr ps b off := HA.out.imp id (fun ⟨b, off, h1, h2⟩ => ⟨b, off, h1, PtsAt.stays (fun _ _ _ h => h.num HNM.out HG.out) _ _ _ h2⟩)
         obtain ⟨b, off, xo, xl, xh, xa, xn, xc, rfl, h0, h1, h2, h3, hq⟩ := PtAt.elem hA2 j hlt
         have hle : ps[j].size ≤ sizes ps := size_le_sizes ps _ (List.getElem_mem hlt)
         have hst := sizes_take ps j hlt
         have hst2 := sizes_take_le ps (j + 1)
         have hcons : ps.drop j = ps[j] :: ps.drop (j + 1) := List.drop_eq_getElem_cons hlt
         have HF2 := hid (HF.out.trans (by rw [hcons, faults]))
         have H2 := hid (ih ps[j] (List.getElem_mem hlt))
         have hq2 := PtAt.grow (World.grownBy_alloc wr (.cells #[.int .i64 xo, .int .i64 xl, .int .i64 xh, .slice xa xn xc] 28) none) _ _ hq
         have hN2 : NumAt (wr.alloc (.cells #[.int .i64 xo, .int .i64 xl, .int .i64 xh, .slice xa xn xc] 28)) mb mj := grow_new (World.grownBy_alloc wr _ none) HM.out
         have HW2 := hid (show w.grownBy (wr.alloc (.cells #[.int .i64 xo, .int .i64 xl, .int .i64 xh, .slice xa xn xc] 28)) (some mb) from grownBy_trans HG.out (World.grownBy_alloc _ _ _))
         have HS2 := hid hst
         have hb1 : mj + ps[j].size ≤ 2000000 := by have := HMJ.out; omega
         have hb2 : 0 ≤ mj := by have := HMJ.out; omega
         have HQ2 := hid hq2
         have HN2 := hid hN2
         clear hcons HF hst hst2 hq hq2 hN2 hA2
         generalize ps[j] = q at H2 HQ2 hle HF2 HS2 hb1
         by_cases z : q.fault (d + 1) = 0
         · have HF3 := hid (HF2.out.trans (if_pos z))
           have Z := hid z
           clear z HF2
           go_wp2_with fail
           refine (H2.out _ _ (d + 1) mj mb (by omega) (by omega) hb2 hb1 HQ2.out HN2.out).mono ?_
           rintro e w6 ⟨rfl, g6, m6, hN6, hm6⟩
           have HM6 := hid (hm6 Z.out)
           have HN6 := hid hN6
           have HG6 := hid (grownBy_trans HW2.out g6)
           rw [Z.out]
           clear hm6 hN6 g6
           go_wp2_with fail
           go_roundw
           case rel => exact ⟨j + 1, m6, by omega, by go_num, HF3, HG6, HN6, hid (by rw [HM6.out, HMJ.out, HS2.out]; omega)⟩
           case measure => simp [intOf]; omega
         · have HF3 := hid (HF2.out.trans (if_neg z))
           have zb : (q.fault (d + 1) != 0) = true := by simp [z]
           have Z := hid z
           clear z HF2
           go_wp2_with fail
           refine (H2.out _ _ (d + 1) mj mb (by omega) (by omega) hb2 hb1 HQ2.out HN2.out).mono ?_
           rintro e w6 ⟨rfl, g6, m6, hN6, hm6⟩
           have HN6 := hid hN6
           have HG6 := hid (grownBy_trans HW2.out g6)
           clear hm6 hN6 g6
           go_wp2_with fail
           go_ret
           exact ⟨ret_i64 (by rw [H.out, HF3.out]), HG6.out, _, HN6.out, fun h => by rw [H.out, HF3.out] at h; exact absurd h Z.out⟩
       · have HE := hid (show faults (ps.drop j) (d + 1) = 0 by rw [List.drop_eq_nil_of_le (by omega)]; rfl)
         have HT := hid (show ps.take j = ps from List.take_of_length_le (by omega))
         go_wp2_with fail
         go_ret
         exact ⟨ret_i64 (by rw [H.out, HF.out, HE.out]), HG.out, _, HM.out, fun _ => by rw [HMJ.out, HT.out, Pt.size]; omega⟩
    · obtain ⟨q, hq1⟩ := List.length_eq_one_iff.1 h1
      subst hq1
      have hsq : sizes [q] = q.size := by simp [sizes]
      have HSQ := hid hsq
      have HFQ := hid (show faults [q] (d + 1) = q.fault (d + 1) by simp only [faults]; split <;> simp_all)
      have H2 := hid (ih q (by simp))
      have hqz : q.size ≤ sizes [q] := by omega
      simp only [List.length_singleton] at bx0 bx1 bx2 bx3 HG1 HN1 ⊢
      clear h1 hsq
      go_enter Tryz.func43, Tryz.ntmps43
      go_wp2_with fail
      refine (in_any _ _ _ _).mono ?_
      rintro e w1 ⟨rfl, rfl⟩
      rw [t2b]
      go_wp2_with fail
      refine (in_any _ _ _ _).mono ?_
      rintro e w1 ⟨rfl, rfl⟩
      rw [b2]
      go_wp2_with fail
      refine (in_any _ _ _ _).mono ?_
      rintro e w1 ⟨rfl, rfl⟩
      rw [b3]
      go_wp2_with fail
      generalize (w.alloc _).setCell _ _ = w5 at HG1 HN1 ⊢
      have hA2 : [q] = [] ∨ ∃ b off, av = some ⟨b, off, none⟩ ∧ PtsAt w5 [q] b off := HA.out.imp id (fun ⟨b, off, h1, h2⟩ => ⟨b, off, h1, PtsAt.stays (fun _ _ _ h => h.num HNM.out HG1.out) _ _ _ h2⟩)
      obtain ⟨b, off, xo, xl, xh, xa, xn, xc, rfl, h0, h1, h2, h3, hq⟩ := PtAt.elem hA2 0 (by simp)
      simp only [Nat.zero_mul, Nat.add_zero, List.getElem_cons_zero] at h0 h1 h2 h3 hq
      have hq2 := PtAt.grow (World.grownBy_alloc w5 (.cells #[.int .i64 xo, .int .i64 xl, .int .i64 xh, .slice xa xn xc] 28) none) _ _ hq
      have hN2 : NumAt (w5.alloc (.cells #[.int .i64 xo, .int .i64 xl, .int .i64 xh, .slice xa xn xc] 28)) mb (m + 1) := grow_new (World.grownBy_alloc w5 _ none) HN1.out
      have HW2 := hid (show w.grownBy (w5.alloc (.cells #[.int .i64 xo, .int .i64 xl, .int .i64 xh, .slice xa xn xc] 28)) (some mb) from grownBy_trans HG1.out (World.grownBy_alloc _ _ _))
      have HQ2 := hid hq2
      have HN2 := hid hN2
      clear hq hq2 hN2 hA2 bx0 bx1 bx2 bx3 cm fm
      refine wp_loop_rounds 2 ?_
      rw [rounds_succ]
      go_wp2_with fail
      refine (H2.out _ _ (d + 1) (m + 1) mb (by omega) (by omega) (by omega) (by omega) HQ2.out HN2.out).mono ?_
      rintro e w6 ⟨rfl, g6, m6, hN6, hm6⟩
      have HM6 := hid hm6
      have HN6 := hid hN6
      have HG6 := hid (grownBy_trans HW2.out g6)
      clear hm6 hN6 g6
      by_cases z : q.fault (d + 1) = 0
      · rw [z]
        have Z := hid z
        clear z
        go_wp2_with fail
        rw [rounds_succ]
        go_wp2_with fail
        go_ret
        exact ⟨ret_i64 (by rw [H.out, HFQ.out, Z.out]), HG6.out, _, HN6.out, fun _ => by rw [HM6.out Z.out, Pt.size, HSQ.out]; omega⟩
      · have zb : (q.fault (d + 1) != 0) = true := by simp [z]
        have Z := hid z
        clear z
        go_wp2_with fail
        go_ret
        exact ⟨ret_i64 (by rw [H.out, HFQ.out]), HG6.out, _, HN6.out, fun h => by rw [H.out, HFQ.out] at h; exact absurd h Z.out⟩
theorem refPatFault_any (p : Pt) (v : Value) (w : World) (hs : p.size ≤ 100000) (hp : PtAt w p v) : Calls Tryz.prog 10 #[v] w fun e w' => e = .returned (.int .i64 (patFault p)) ∧ w.grownBy w' none := by
 have HP := hid hp
 obtain ⟨o, l, h, as_⟩ := p
 obtain ⟨av, cap, rfl, _⟩ := hp
 generalize hpe : Pt.mk o l h as_ = p at hs HP ⊢
 clear hpe
 go_enter Tryz.func10, Tryz.ntmps10
 go_wp2_with fail
 have g0 : w.grownBy ((w.alloc (.cells #[.int .i64 o, .int .i64 l, .int .i64 h, .slice av as_.length cap] 28)).alloc (.cells #[.int .i64 0] 3)) none := grow_alloc (World.grownBy_alloc _ _ _) _
 have hn : NumAt ((w.alloc (.cells #[.int .i64 o, .int .i64 l, .int .i64 h, .slice av as_.length cap] 28)).alloc (.cells #[.int .i64 0] 3)) (w.heap.size + 1) 0 := heap_new_at _ _ _ (by simp)
 refine (refFault_any p _ _ 1 0 (w.heap.size + 1) (by omega) (by omega) (by omega) (by omega) (PtAt.grow g0 _ _ HP.out) hn).mono ?_
 rintro e w6 ⟨rfl, g6, m6, hN6, hm6⟩
 have HG6 := hid (show w.grownBy w6 none from grow_row g0 g6 (fun k hk => by (have hkk : w.heap.size + 1 = k := (by simpa using hk)); omega))
 have c6 := hN6.cell
 have HM6 := hid hm6
 clear g0 hn g6 hN6 hm6
 by_cases z : p.fault 1 = 0
 · rw [z]
   have Z := hid z
   have hm : m6 = p.size := by rw [HM6.out z]; omega
   subst hm
   clear z
   by_cases hb : 2000 < p.size
   · have H := hid (show patFault p = 2 by unfold patFault; rw [if_pos Z.out, if_pos hb])
     have hb2 : (2000 : Int) < p.size := by omega
     go_wp2_with fail
     go_ret
     exact ⟨ret_i64 (by rw [H.out]), HG6.out⟩
   · have H := hid (show patFault p = 0 by unfold patFault; rw [if_pos Z.out, if_neg hb])
     have hb2 : ¬ (2000 : Int) < p.size := by omega
     go_wp2_with fail
     go_ret
     exact ⟨ret_i64 (by rw [H.out]), HG6.out⟩
 · have zb : (p.fault 1 != 0) = true := by simp [z]
   have H := hid (show patFault p = p.fault 1 by unfold patFault; rw [if_neg z])
   clear z
   go_wp2_with fail
   go_ret
   exact ⟨ret_i64 (by rw [H.out]), HG6.out⟩
theorem zeros_len (n : Nat) : (zeros n).length = n := by simp [zeros]
theorem own_keep {w w' : World} {base : Nat} {e : TypeId} {size n : Nat} {v : Value} {xs : List Value} (h : w.ownsRow base e size v n xs) (g : w.grownBy w' none) : w'.ownsRow base e size v n xs :=
 ownsRow_frm (Frm.of_grown g (fun _ _ => True)) h (fun _ _ _ _ => trivial)
def ZPost (w : World) (n : Nat) (e : Ending) (w' : World) : Prop := ∃ v, e = .returned v ∧ Ints w' v (zeros n) ∧ w.grownBy w' none
theorem union_z (a b : Nat) (ha : a ≤ 1) (hb : b ≤ 1) (va vb : Value) (w : World) (h1 : Ints w va (zeros a)) (h2 : Ints w vb (zeros b)) : Calls Tryz.prog 84 #[va, vb] w (ZPost w (min (a + b) 1)) := by
 have hz : zeros a ++ zeros b = zeros (a + b) := by simp [zeros, List.replicate_append_replicate]
 have g0 := World.grownBy_alloc w (.cells #[va, vb] 22) none
 have HC := hid (concat_any va vb (zeros a) (zeros b) w.heap.size (0, 0) _ (h1.grow g0) (h2.grow g0) (by rw [zeros_len, zeros_len]; omega) (heap_alloc_new w _))
 have HG := hid g0
 rw [hz] at HC
 obtain ⟨a1, c1, rfl, _⟩ := h1
 obtain ⟨a2, c2, rfl, _⟩ := h2
 clear g0 hz
 go_enter Tryz.func84, Tryz.ntmps84
 go_wp2_with fail
 refine HC.out.mono ?_
 rintro e w1 ⟨v, rfl, own, g1⟩
 rw [zeros_len (a + b)] at own
 have HO := hid own
 have H1 := hid (grownBy_trans HG.out g1)
 have HS := hid (sort_z (a + b) (by omega) v w1 (Ints.of_own own))
 obtain ⟨av, cv, rfl⟩ := ownsRow_slice own
 clear own g1 HC HG
 go_wp2_with fail
 refine HS.out.mono ?_
 rintro e w2 ⟨rfl, g2⟩
 have own2 := own_keep HO.out g2
 have H2 := hid (grownBy_trans H1.out g2)
 have HK := hid (compact_z (a + b) (by omega) _ w2 _ own2)
 have HL := hid (fun k hk => (own2.lt k hk).1)
 clear g2 own2 HS
 go_wp2_with fail
 refine HK.out.mono ?_
 rintro e w3 ⟨v3, rfl, h3, g3⟩
 have H3 := hid (show w.grownBy w3 none from grow_row H2.out g3 (fun k hk => by have := HL.out k hk; simp at this; omega))
 have HI := hid h3
 clear g3 h3
 go_wp2_with fail
 go_ret
 exact ⟨_, rfl, HI.out, H3.out⟩
theorem search_z (v : Value) (w : World) (h : Ints w v (zeros 1)) : Calls Tryz.prog 85 #[v, .int .i64 0] w fun e w' => e = .returned (.tuple #[.int .i64 0, .bool true]) ∧ w.grownBy w' none := by
 obtain ⟨a, c, rfl, hc⟩ := h.elem
 obtain ⟨g, o, rfl, h0⟩ := hc 0 (by decide)
 simp only [zeros, List.replicate, List.getD_cons_zero, Nat.add_zero] at h0
 rw [show (zeros 1).length = 1 from rfl]
 clear hc h
 go_enter Tryz.func85, Tryz.ntmps85
 go_wp2_with fail
 refine wp_loop_rounds 2 ?_
 rw [rounds_succ]
 go_wp2_with fail
 refine (less_any 0 0 _).mono ?_
 rintro e w1 ⟨rfl, rfl⟩
 go_wp2_with fail
 rw [rounds_succ]
 go_wp2_with fail
 go_ret2
 exact ⟨rfl, grow_self w⟩
theorem contains_z (n : Nat) (hn : n ≤ 1) (v : Value) (w : World) (h : Ints w v (zeros n)) : Calls Tryz.prog 63 #[v, .int .i64 0] w fun e w' => e = .returned (.bool (decide (n = 1))) ∧ w.grownBy w' none := by
 have hz : n = 0 ∨ n = 1 := by omega
 have HI : Hid (Calls Tryz.prog 89 #[v, .int .i64 0] w fun e w' => e = .returned (.int .i64 (if n = 1 then 0 else -1)) ∧ w.grownBy w' none) := by
  refine hid ?_
  obtain ⟨a, c, rfl, hc⟩ := h.elem
  rw [zeros_len]
  rcases hz with rfl | rfl
  · clear hc h
    go_enter Tryz.func89, Tryz.ntmps89
    go_wp2_with fail
    refine wp_loop_rounds 1 ?_
    rw [rounds_succ]
    go_wp2_with fail
    go_ret
    exact ⟨rfl, grow_self w⟩
  · obtain ⟨g, o, rfl, h0⟩ := hc 0 (by decide)
    simp only [zeros, List.replicate, List.getD_cons_zero, Nat.add_zero] at h0
    clear hc h
    go_enter Tryz.func89, Tryz.ntmps89
    go_wp2_with fail
    refine wp_loop_rounds 1 ?_
    rw [rounds_succ]
    go_wp2_with fail
    go_ret
    exact ⟨rfl, grow_self w⟩
 obtain ⟨a, c, rfl, _⟩ := h
 rcases hz with rfl | rfl
 all_goals
  go_enter Tryz.func63, Tryz.ntmps63
  go_wp2_with fail
  refine HI.out.mono ?_
  rintro e w1 ⟨rfl, g1⟩
  have HG := hid g1
  clear g1
  go_wp2_with fail
  go_ret
  exact ⟨rfl, HG.out⟩
end Go.Proofs.YtplbacfjmajeeaaGreatDoor
