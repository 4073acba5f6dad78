/- Package edit: Inverse. -/
import Derived.Test.YtajigndlcdiinaaI0
import Derived.Test.YtajigndlcdiinaaA6
import Derived.Test.YtajigndlcdiinaaA9
import Derived.Deep.AppendLies
namespace Go.Proofs.Ytajigndlcdiinaa
open Go.RowKit

/-- The first j edits of the change back. -/
def invUp (s : ByteArray) (es : List Ed) (j : Nat) : List Ed := (invGo s 0 es).take j
theorem invGo_len (s : ByteArray) : ∀ (es : List Ed) (sh : Int), (invGo s sh es).length = es.length
  | [], _ => rfl
  | e :: r, sh => by simp [invGo, invGo_len s r]
theorem invGo_get (s : ByteArray) : ∀ (es : List Ed) (sh : Int) (j : Nat) (h : j < es.length), (invGo s sh es)[j]'(by rw [invGo_len]; exact h) = ⟨es[j].at_ + (sh + shTo es j), es[j].new.size, s.extract es[j].at_.toNat (es[j].at_ + es[j].old).toNat⟩
  | [], _, _, h => by simp at h
  | e :: r, sh, 0, _ => by simp [invGo, shTo]
  | e :: r, sh, j + 1, h => by
    have hr := invGo_get s r (sh + (e.new.size - e.old)) j (by simpa using h)
    simp only [invGo, List.getElem_cons_succ]
    rw [hr]
    have : ∀ k, k ≤ r.length → shTo (e :: r) (k + 1) = (e.new.size - e.old) + shTo r k := by
      intro k
      induction k with
      | zero => intro _; rw [shTo_succ _ _ (by simp)]; simp [shTo]
      | succ k ih =>
        intro hk
        rw [shTo_succ _ _ (by simp; omega), ih (by omega), shTo_succ _ _ (by omega)]
        simp only [List.getElem_cons_succ]
        omega
    rw [this j (by simp at h; omega)]
    simp only [Ed.mk.injEq, and_self, and_true]
    omega
theorem invUp_succ (s : ByteArray) (es : List Ed) (j : Nat) (h : j < es.length) : invUp s es (j + 1) = invUp s es j ++ [⟨es[j].at_ + shTo es j, es[j].new.size, s.extract es[j].at_.toNat (es[j].at_ + es[j].old).toNat⟩] := by
  unfold invUp
  rw [List.take_succ_eq_append_getElem (by rw [invGo_len]; exact h), invGo_get s es 0 j h]
  simp

set_option maxHeartbeats 4000000 in
set_option maxRecDepth 100000 in
theorem inverse_any (s : ByteArray) (a : Option Addr) (cap : Nat) (es : List Ed) (w : World) (hs : s.size ≤ 1000000000) (hl : es.length ≤ 1000000) (hE : Eds w a es) (hS : EdsSmall es) :
    Calls Try.prog 13 #[.string s, .slice a es.length cap] w (EdsErrP (if faultText s es ≠ 0 then [] else invGo s 0 es) (faultText s es) w) := by
  obtain ⟨P, hP⟩ : ∃ P, EdsErrP (if faultText s es ≠ 0 then [] else invGo s 0 es) (faultText s es) w = P := ⟨_, rfl⟩
  rw [hP]
  unfold EdsErrP at hP
  have HC := Lib.hid (checkText_any s a cap es w hs hl hE hS)
  by_cases h : faultText s es = 0
  · have hf : changeFault s.size es = 0 := by
      unfold faultText at h
      split at h
      · omega
      · exact h
    obtain ⟨r1, r2, r3, r4, r5, r6⟩ := right_all hf
    have hR := (changeFault_zero hf).2.2.1
    have HM := Lib.hid (right_mem s.size es _ hR)
    have HCo := Lib.hid (fun W (g : w.grownBy W none) => comings_any a cap es W r2 (hE.grown g (by simp)) r4)
    unfold ComPost at HCo
    have HBD := Lib.hid (shTo_bd es r4)
    have HV := Lib.hid (show invUp s es es.length = invGo s 0 es from List.take_of_length_le (by rw [invGo_len]; exact Nat.le_refl _))
    obtain ⟨i0, hi, hz0, hz1, hz2⟩ := info_parts infoEdit
    rw [h] at HC hP
    rw [if_neg (by simp)] at hP
    have HP := Lib.hid hP
    clear h hf hP hE r3 r5 r6 hR hS
    have hss : s.size ≤ 20000 := by omega
    go_enter Try.func13, Try.ntmps13
    go_wp2_with fail
    refine HC.out.mono ?_
    rintro e w0 ⟨rfl, g0⟩
    clear HC
    have G0 := Lib.hid g0
    go_wp2_with fail
    refine (HCo.out w0 g0).mono ?_
    rintro e w2 ⟨rfl, hpc, g2⟩
    have G2 := Lib.hid (grow_trans G0.out g2)
    have HPc := Lib.hid hpc
    clear g0 g2 hpc HCo G0
    generalize w0.heap.size = B at HPc ⊢
    go_wp2_with fail
    go_loopw [7, 19] (fun v i wr => ∃ j : Nat, j ≤ es.length ∧ i = .int .i64 j ∧ Hid (wr.ownsRow w.heap.size 47 3 v j (edCells (invUp s es j))) ∧ Hid (PcTo wr B es.length es es.length) ∧ Hid (w.grownBy wr none)) (fun _ i _ => es.length - (intOf i).toNat)
    case atStart => exact ⟨0, Nat.zero_le _, rfl, Lib.hid (World.ownsRow_nil _ _ _ _), HPc, G2⟩
    case round =>
      clear HPc G2
      obtain ⟨wo, rfl⟩ : ∃ wo : World, wo = wr := ⟨_, rfl⟩
      obtain ⟨j, hj, rfl, OWN, HR, HG⟩ := hrel
      have hbd := HBD.out j hj
      by_cases hlt : j < es.length
      · obtain ⟨C, hb, hsz, hc⟩ := HR.out
        obtain ⟨k1, k2, k3, k4, k5⟩ := hc j hlt hlt
        replace k1 := (cell_of_block hb _).trans k1
        replace k2 := (cell_of_block hb _).trans k2
        replace k3 := (cell_of_block hb _).trans k3
        replace k4 := (cell_of_block hb _).trans k4
        replace k5 := (cell_of_block hb _).trans k5
        have hs1 := HM.out _ (List.getElem_mem hlt)
        have hs2 := r4 _ (List.getElem_mem hlt)
        have HT := Lib.hid (invUp_succ s es j hlt)
        clear hc hb hsz
        generalize es[j] = x at k1 k2 k3 k4 k5 hs1 hs2 HT
        obtain ⟨xa, xo, xn⟩ := x
        simp only at k1 k2 k3 k4 k5 hs1 hs2 HT
        obtain ⟨p, rfl⟩ : ∃ p : Nat, xa = (p : Int) := ⟨xa.toNat, by omega⟩
        obtain ⟨q, rfl⟩ : ∃ q : Nat, xo = (q : Int) := ⟨xo.toNat, by omega⟩
        generalize shTo es j = sh at k1 HT hbd
        obtain ⟨av, cv, rfl⟩ := ownsRow_slice OWN.out
        rw [Int.toNat_natCast, show ((p : Int) + (q : Int)).toNat = p + q by omega] at HT
        have hpq : p + q ≤ s.size := by omega
        have i1 : (0 : Int) ≤ (p : Int) := by omega
        have i2 : (p : Int) ≤ (p : Int) + (q : Int) := by omega
        have i3 : (p : Int) + (q : Int) ≤ (s.size : Int) := by omega
        go_upto_region 8 with (fail)
        have bx := heap_alloc_new wo (.cells #[.int .i64 ((p : Int) + sh), .int .i64 xn.size, .int .i64 p, .int .i64 q, .string xn] 76)
        have OW1 := Lib.hid (OWN.out.alloc (.cells #[.int .i64 ((p : Int) + sh), .int .i64 xn.size, .int .i64 p, .int .i64 q, .string xn] 76))
        have HG1 := Lib.hid (grow_alloc HG.out (.cells #[.int .i64 ((p : Int) + sh), .int .i64 xn.size, .int .i64 p, .int .i64 q, .string xn] 76))
        have HR1 := Lib.hid (HR.out.kept (World.grownBy_alloc wo (.cells #[.int .i64 ((p : Int) + sh), .int .i64 xn.size, .int .i64 p, .int .i64 q, .string xn] 76) none))
        generalize wo.alloc (.cells #[.int .i64 ((p : Int) + sh), .int .i64 xn.size, .int .i64 p, .int .i64 q, .string xn] 76) = w3 at bx OW1 HG1 HR1 ⊢
        generalize wo.heap.size = M at bx ⊢
        have x0 := cell_of_block bx 0
        have x1 := cell_of_block bx 1
        have x2 := cell_of_block bx 2
        have x3 := cell_of_block bx 3
        have x4 := cell_of_block bx 4
        simp only [List.getElem?_toArray, List.getElem?_cons_zero, List.getElem?_cons_succ] at x0 x1 x2 x3 x4
        clear k1 k2 k3 k4 k5 OWN HG HR
        have hB3 := HG1.out.size
        have HT2 := Lib.hid (show edCells (invUp s es (j + 1)) = edCells (invUp s es j) ++ [.int .i64 ((p : Int) + sh), .int .i64 (xn.size : Int), .string (s.extract p (p + q))] by rw [HT.out, edCells_snoc])
        generalize edCells (invUp s es j) = L at OW1 HT2
        clear HT
        go_region_held3 (fun w' => w'.cell? ⟨M, 0, none⟩ = some (.int .i64 ((p : Int) + sh)) ∧ w'.cell? ⟨M, 1, none⟩ = some (.int .i64 xn.size) ∧ w'.cell? ⟨M, 2, none⟩ = some (.int .i64 p) ∧ w'.cell? ⟨M, 3, none⟩ = some (.int .i64 q) ∧ w'.cell? ⟨M, 4, none⟩ = some (.string xn)) (((try dsimp only); refine ⟨?_, ?_, ?_, ?_, ?_⟩ <;> first | assumption | (refine cell_grown (w := w3) (by assumption) ?_; repeat (first | exact grow_self _ | apply grow_alloc | apply grow_drew)))) (first | (go_at_call 50; refine (end_any _ _ _ _ (by omega) (by omega)).mono ?_; rintro e' w2 ⟨rfl, rfl⟩) | (refine step_append_lies _ (by rfl) (.tmp 23) (.tmp 37) 28 (by rfl) w.heap.size 47 i0 (.agg #[.int .i64 0, .int .i64 0, .string ⟨#[]⟩]) 3 32 Try.underlying28 hi hz0 hz1 hz2 rfl (by omega) (.slice av j cv) j L (by rfl) (((OW1.out.alloc _).alloc _).drew) ⟨w3.heap.size + 1, 0, none⟩ 1 1 [.int .i64 ((p : Int) + sh), .int .i64 (xn.size : Int), .string (s.extract p (p + q))] (by rfl) (by rfl) (World.news_of_block (cs := #[.int .i64 ((p : Int) + sh), .int .i64 (xn.size : Int), .string (s.extract p (p + q))]) (t := 47) (fr := (0, 0)) (heap_new_at _ _ _ (by simp))) (by simp [Value.oneCell']) (by omega) (by unfold maxLen; omega) (by omega) (by simp; omega) (w3.heap.size + 2) (by simp) ?_; intro gg cap1 w4 hown1 hgrow hat hlt1; have bm := grown_block (((OW1.out.alloc _).alloc _).drew) hgrow ((Below.heap_alloc _ _ M (by have := lt_of_block bx; simp; omega)).trans ((Below.heap_alloc w3 _ M (lt_of_block bx)).trans bx)) (by decide); have y0 := cell_of_block bm 0; have y1 := cell_of_block bm 1; have y2 := cell_of_block bm 2; have y3 := cell_of_block bm 3; have y4 := cell_of_block bm 4; simp only [List.getElem?_toArray, List.getElem?_cons_zero, List.getElem?_cons_succ] at y0 y1 y2 y3 y4))
        have OW4 := Lib.hid (show w4.ownsRow w.heap.size 47 3 (.slice (some ⟨gg, 0, none⟩) (j + 1) cap1) (j + 1) (edCells (invUp s es (j + 1))) from by rw [HT2.out]; exact hown1)
        have HG4 := Lib.hid (grow_row (grow_drew (grow_alloc (grow_alloc HG1.out (.cells #[.int .i64 p, .int .i64 q, .string xn] 47)) (.cells #[.int .i64 ((p : Int) + sh), .int .i64 xn.size, .string (s.extract p ((p : Int) + (q : Int)).toNat)] 47))) hgrow (fun k hk => (ownsRow_block OW1.out k hk).1))
        have HR4 : Hid (PcTo w4 B es.length es es.length) := Lib.hid (by
          obtain ⟨C, hb, r⟩ := HR1.out
          exact ⟨C, grown_block (((OW1.out.alloc _).alloc _).drew) hgrow ((Below.heap_alloc _ _ B (by have := lt_of_block hb; simp; omega)).trans ((Below.heap_alloc w3 _ B (lt_of_block hb)).trans hb)) (by decide), r⟩)
        clear hown1 hgrow hat hlt1 bm y0 y1 y2 y3 y4 x0 x1 x2 x3 x4 bx
        go_wp2_with fail
        go_roundw
        case rel => exact ⟨j + 1, by omega, by go_num, OW4, HR4, HG4⟩
        case measure => simp [intOf]; omega
      · obtain rfl : j = es.length := by omega
        obtain ⟨av, cv, rfl⟩ := ownsRow_slice OWN.out
        have HW := Lib.hid (show wo.ownsRow w.heap.size 47 3 (.slice av es.length cv) (invGo s 0 es).length (edCells (invGo s 0 es)) from by
          rw [invGo_len, ← HV.out]; exact OWN.out)
        clear OWN
        go_wp2_with fail
        try go_ret2
        rw [← HP.out]
        exact ⟨_, rfl, HW.out, HG.out⟩
  · rw [if_pos h] at hP
    have hb : (faultText s es != 0) = true := by simpa using h
    generalize faultText s es = F at HC hP hb
    have HP := Lib.hid hP
    clear hP hE h hS
    go_enter Try.func13, Try.ntmps13
    go_wp2_with fail
    refine HC.out.mono ?_
    rintro e w1 ⟨rfl, g1⟩
    have G := Lib.hid g1
    clear g1 HC
    go_wp2_with fail
    try go_ret2
    rw [← HP.out]
    exact ⟨_, rfl, World.ownsRow_nil _ _ _ _, G.out⟩
end Go.Proofs.Ytajigndlcdiinaa
