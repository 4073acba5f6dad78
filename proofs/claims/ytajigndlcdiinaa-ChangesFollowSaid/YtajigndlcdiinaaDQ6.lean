/- Package edit: then; what it wants, plain. Package edit: then, the walk. Package edit: Fold. Package edit: Fold, the walk. Package edit: Then; the contracts of ChangesFollow. -/
import Derived.Test.YtajigndlcdiinaaDTp
namespace Go.Proofs.Ytajigndlcdiinaa
open Go Go.RowKit

theorem ord_ok {n : Int} (hn : n ≤ 1000000) : ∀ (ps : List Pce) (b : Int), 0 ≤ b → Ord n b ps → ∀ p ∈ ps, p.Ok
  | [], _, _, _, p, hp => by cases hp
  | q :: r, b, hb, ⟨h1, h2, h3, h4, h5⟩, p, hp => by
    rcases List.mem_cons.1 hp with rfl | hp
    · exact ⟨by omega, by omega, h2, by omega⟩
    · exact ord_ok hn r (q.at_ + q.long + 1) (by omega) h5 p hp
theorem oldSum_n {n : Int} {es : List Ed} (h0 : 0 ≤ n) (hr : Right n (-1) es) : 0 ≤ oldSum es ∧ oldSum es ≤ n := by
  cases es with
  | nil => simp [oldSum]; omega
  | cons e r =>
    obtain ⟨q1, q2, q3, q4, q5, q6⟩ := hr
    have h := oldSum_le n r _ q6
    have h2 := h.2.2.1 (by omega)
    simp only [oldSum]
    omega
theorem then_prep {n m : Int} {es fs : List Ed} {g : Ed} {fr : List Ed} (hes : changeFault n es = 0) (hfs : changeFault m fs = 0) (hm : ((flowL es n).length : Int) = m) (hg : fs = g :: fr) {b0 bl : Int} (hb0 : g.at_ = b0) (hbl : lastEnd (-1) fs = bl) :
    ∃ A1 A A2 s xs m', es = A1 ++ (A ++ A2) ∧ nearGo b0 0 0 es = (A1.length, s) ∧ farGo bl A1.length s (es.drop A1.length) = A1.length + A.length ∧ (-100000 ≤ s ∧ s ≤ 100000) ∧ lenGo n A = m' ∧ (0 ≤ m' ∧ m' ≤ 1000000) ∧ (∀ p ∈ comP A, p.Ok) ∧ (∀ p ∈ goP fs (-s), p.Ok) ∧
      Runs (comP A) (goP fs (-s)) m' 0 pcZ 0 pcZ 0 xs ∧ (∀ x ∈ xs, StpT x) ∧ xs.length ≤ 40001 ∧ editsOf n (thenFl n es fs) = A1 ++ (xs.foldl thenS drZ).close.out ++ A2 := by
  obtain ⟨k1, k2, k3, k4⟩ := changeFault_zero hes
  obtain ⟨f1, f2, f3, f4⟩ := changeFault_zero hfs
  have hS := (right_all hes).2.2.2.1
  have hT := (right_all hfs).2.2.2.1
  have o1 := oldSum_n k1.1 k3
  obtain ⟨A1, A, A2, s, rfl, h2, h3, h4, h5, h6, h7⟩ := then_local k1.1 k3 (change_form hes) hm hg f3 hb0 hbl
  have hsv : s = newSum A1 - oldSum A1 := by
    have hg0 : -1 < g.at_ := by rw [hg] at f3; exact f3.1
    obtain ⟨B1, B2, e1, e2, -⟩ := near_spec b0 (A1 ++ (A ++ A2)) 0 0 (-1) (by omega)
    rw [h2] at e2
    rw [Nat.zero_add, Int.zero_add] at e2
    obtain ⟨e3, e4⟩ := Prod.mk.inj e2
    have : B1 = A1 := by
      have h := congrArg (List.take A1.length) e1
      rw [List.take_left' rfl, e3, List.take_left' rfl] at h
      exact h.symm
    rw [this] at e4
    omega
  rw [newSum_app, newSum_app] at k4
  rw [oldSum_app, oldSum_app] at k4 o1
  have oA1 := oldSum_n k1.1 k3.app.1
  have oA := oldSum_n k1.1 h4
  have oA2 : 0 ≤ oldSum A2 := (oldSum_le n A2 _ k3.app.2.app.2).2.1
  have hSA : ∀ e ∈ A, 0 ≤ e.at_ ∧ e.at_ ≤ 20000 ∧ 0 ≤ e.old ∧ e.old ≤ 20000 ∧ e.new.size ≤ 40000 := fun e he => hS e (by simp [he])
  obtain ⟨m', hm'⟩ : ∃ m' : Int, m' = n + newSum A - oldSum A := ⟨_, rfl⟩
  have b1 : m' ≤ 40000 := by omega
  rw [← hm'] at h5 h6
  obtain ⟨xs, x1, x2, x3, x4⟩ := merged_says (s := s) (fs := fs) k1.1 h4 hSA hm' h5 b1 h6 (fun e he => (hT e he).2.2.2.2)
  have c1 := comG_ord n A (-1) 0 (by omega) h4 (fun e he => (hSA e he).2.2.2.2)
  rw [show n + 0 + (newSum A : Int) - oldSum A = m' by omega] at c1
  have c2 := goS_ord m' s fs _ h6 (fun e he => (hT e he).2.2.2.2)
  refine ⟨A1, A, A2, s, xs, m', rfl, h2, h3, ⟨by omega, by omega⟩, by rw [lenGo_sum, hm'], ⟨h5, by omega⟩, ord_ok (by omega) _ _ (by omega) c1, ord_ok (by omega) _ _ (by omega) c2, x1, x2, x3, ?_⟩
  rw [h7, x4]
theorem then_nil {n : Int} {es : List Ed} (hes : changeFault n es = 0) : editsOf n (thenFl n es []) = es := by
  obtain ⟨k1, k2, k3, k4⟩ := changeFault_zero hes
  have e : thenFl n es [] = flowL es n := by
    unfold thenFl
    rw [flowL_go ((flowL es n).length : Int) [], flowGo]
    unfold gapL
    have := thenL_keep (flowL es n) 0 (flowL es n).length (by omega)
    rw [show (((flowL es n).length : Int) - 0).toNat = (flowL es n).length by omega]
    exact this.trans (by simp)
  rw [e, flow_edits k1.1 k3 (change_form hes)]
theorem eds_mid {w : World} {g : Nat} {A1 A A2 : List Ed} (h : Eds w (some ⟨g, 0, none⟩) (A1 ++ (A ++ A2))) : Eds w (some ⟨g, A1.length * 3, none⟩) A := by
  intro j hj
  obtain ⟨g', off', e, c1, c2, c3⟩ := h (A1.length + j) (by simp only [List.length_append]; omega)
  cases e
  have hk : (A1 ++ (A ++ A2))[A1.length + j]'(by simp only [List.length_append]; omega) = A[j] := by
    rw [List.getElem_append_right (by omega)]
    simp only [Nat.add_sub_cancel_left]
    rw [List.getElem_append_left]
  rw [hk] at c1 c2 c3
  rw [show 0 + (A1.length + j) * 3 = A1.length * 3 + j * 3 by omega] at c1 c2 c3
  exact ⟨g, A1.length * 3, rfl, c1, c2, c3⟩
theorem edC_take (A B : List Ed) : (edC (A ++ B)).take (A.length * 3) = edC A ∧ (edC (A ++ B)).drop (A.length * 3) = edC B := by
  rw [edC_append, ← edC_len]
  exact ⟨List.take_left' rfl, List.drop_left' rfl⟩
end Go.Proofs.Ytajigndlcdiinaa
namespace Go.Proofs.Ytajigndlcdiinaa
open Go Go.RowKit
attribute [local go_sem] Oper.semAt_some

set_option maxHeartbeats 2000000 in
set_option maxRecDepth 100000 in
theorem then_walk (base : Nat) (n m : Int) (aa bb : Option Addr) (ac bc : Nat) (es fs : List Ed) (w w0 : World) (hb : Below base w0 w) (hbs : base ≤ w.heap.size) (own : w.ownsRow base 47 3 (.slice aa es.length ac) es.length (edC es)) (hF : Eds w bb fs)
    (hes : changeFault n es = 0) (hfs : changeFault m fs = 0) (hm : ((flowL es n).length : Int) = m) :
    Calls Try.prog 62 #[.int .i64 n, .slice aa es.length ac, .slice bb fs.length bc] w (RpPost base w0 (editsOf n (thenFl n es fs)).length (edC (editsOf n (thenFl n es fs)))) := by
  rcases (show fs = [] ∨ ∃ g fr, fs = g :: fr from by cases fs with | nil => exact .inl rfl | cons g fr => exact .inr ⟨g, fr, rfl⟩) with hfc | ⟨g, fr, hfc⟩
  · subst hfc
    rw [then_nil hes]
    obtain ⟨P, hP⟩ : ∃ P, RpPost base w0 es.length (edC es) = P := ⟨_, rfl⟩
    rw [hP]
    have HF := Lib.hid (show P (.returned (.slice aa es.length ac)) w by rw [← hP]; exact ⟨_, rfl, own, hb⟩)
    clear hP own hb hF hes hfs hm
    go_enter Try.func62, Try.ntmps62
    go_wp2_with fail
    all_goals first | exact HF.out | (go_ret; exact HF.out)
  · obtain ⟨A1, A, A2, s, xs, m', ha, h2, h3, h4, h5, h6, h7, h8, h9, h10, h11, h12⟩ := then_prep hes hfs hm hfc rfl rfl
    obtain ⟨L, hL⟩ : ∃ L, (xs.foldl thenS drZ).close.out = L := ⟨_, rfl⟩
    rw [hL] at h12
    rw [h12]
    obtain ⟨k1, k2, k3, k4⟩ := changeFault_zero hes
    obtain ⟨f1, f2, f3, f4⟩ := changeFault_zero hfs
    have hS := (right_all hes).2.2.2.1
    have hT := (right_all hfs).2.2.2.1
    have hlen : es.length = A1.length + (A.length + A2.length) := by rw [ha]; simp
    obtain ⟨P, hP⟩ : ∃ P, RpPost base w0 (A1 ++ L ++ A2).length (edC (A1 ++ L ++ A2)) = P := ⟨_, rfl⟩
    rw [hP]
    have hEa : Eds w aa es := by
      rw [edC_cells] at own
      obtain ⟨a', c', e, h, -⟩ := eds_of_own own
      cases e
      exact h
    have hfl : fs.length = fr.length + 1 := by rw [hfc]; rfl
    have HNEAR := Lib.hid (near_any aa bb ac bc es fs fr.length w k2 f2 hfl hEa hF hS hT g.at_ (lastEnd (-1) fs) (by simp [hfc]) (by
      rw [lastEnd_get fs (-1) (by omega)]
      have e : fs.length - 1 = fr.length := by omega
      simp only [e]))
    rw [h2] at HNEAR
    simp only at HNEAR
    rw [h3] at HNEAR
    have H67 := Lib.hid (show ∀ W, w.grownBy W none → Calls Try.prog 67 #[.slice bb fs.length bc, .int .i64 (-s)] W (GoPost fs (-s) W) from fun W hW => goings_any bb bc fs (-s) (by omega) W f2 (hF.grown hW (by simp)) hT)
    have hSA : ∀ e ∈ A, 0 ≤ e.at_ ∧ e.at_ ≤ 20000 ∧ 0 ≤ e.old ∧ e.old ≤ 20000 ∧ e.new.size ≤ 40000 := fun e he => hS e (by rw [ha]; simp [he])
    have H84 := Lib.hid (show ∀ W x c GB, Eds W x A → GoTo W GB fs.length fs (-s) fs.length → Calls Try.prog 84 #[.int .i64 n, .slice x A.length c, .slice (some ⟨GB, 0, none⟩) fs.length fs.length] W (MgPost L W) from fun W x c GB hx hgo => by
      have hpl : (goP fs (-s)).length = fs.length := by simp [goP]
      have := merged_any n m' x c A GB (goP fs (-s)) xs W k1 h6 (by omega) hx hSA h7 (by omega) h8 (by
        have hgo2 := hgo
        obtain ⟨C, hb, -, -⟩ := hgo2
        exact ⟨C, hb, GoTo.pcs hgo⟩) h5 h9 h10 h11
      rw [hpl, hL] at this
      exact this)
    have H83 := Lib.hid (show ∀ W va vc, w.grownBy W none → W.ownsRow w.heap.size 47 3 (.slice va L.length vc) L.length (edC L) → L.length ≤ 100000 → Calls Try.prog 83 #[.slice aa es.length ac, .int .i64 (A1.length : Int), .int .i64 ((A1.length + A.length : Nat) : Int), .slice va L.length vc] W P from fun W va vc hg ho hll => by
      have hbW : Below base w0 W := below_grown hb hg hbs (by simp)
      have hown : W.ownsRow base 47 3 (.slice aa es.length ac) es.length (edC es) := by
        refine ⟨own.1, ?_⟩
        rcases own.2 with h | ⟨g', cap, cur, e, q1, q2, q3⟩
        · exact .inl h
        · exact .inr ⟨g', cap, cur, e, q1, (hg.block g' (Array.getElem?_eq_some_iff.1 q2).1 (by simp)).trans q2, q3⟩
      have := replace_any base aa va ac vc es.length A1.length (A1.length + A.length) L.length (edC es) (edC L) W w0 hbW (Nat.le_trans hbs hg.size) hown (ownsRow_base ho hbs) (fun a b ea eb => by
        have hblk : a.block < w.heap.size := by
          rcases own.2 with ⟨h, -⟩ | ⟨g', cap, cur, e, q1, q2, q3⟩
          · rw [ea] at h; simp at h
          · rw [ea] at e; simp at e; rw [e.1]; exact (Array.getElem?_eq_some_iff.1 q2).1
        have hblk2 : w.heap.size ≤ b.block := by
          rcases ho.2 with ⟨h, -⟩ | ⟨g', cap, cur, e, q1, q2, q3⟩
          · rw [eb] at h; simp at h
          · rw [eb] at e; simp at e; rw [e.1]; exact q1
        omega) (by omega) (by omega) (by omega) hll (edC_one es) (edC_one L)
      have e1 : A1.length + L.length + (es.length - (A1.length + A.length)) = (A1 ++ L ++ A2).length := by simp only [List.length_append]; omega
      have e2 : (edC es).take (A1.length * 3) ++ edC L ++ (edC es).drop ((A1.length + A.length) * 3) = edC (A1 ++ L ++ A2) := by
        have t1 := (edC_take A1 (A ++ A2)).1
        have t2 := (edC_take (A1 ++ A) A2).2
        rw [List.append_assoc, List.length_append] at t2
        rw [ha, t1, t2, edC_append, edC_append]
      rw [e1, e2, hP] at this
      exact this)
    have hnn : (aa = none ∧ es.length = 0 ∧ ac = 0) ∨ ∃ gg, aa = some ⟨gg, 0, none⟩ ∧ es.length ≤ ac ∧ ac ≤ 9223372036854775807 := by
      rcases own.2 with ⟨h, h0⟩ | ⟨g', cap, cur, e, q1, q2, q3, q4, -⟩
      · simp at h; exact .inl ⟨h.1, h0, h.2.2⟩
      · simp at e; exact .inr ⟨g', e.1, by omega, by unfold maxLen at q4; omega⟩
    have hLl : L.length ≤ 100000 := by
      have hq := (then_bd xs h10 xs.length).1
      rw [List.take_length] at hq
      rw [← hL]
      unfold Dr.close
      split
      · omega
      · simp only [List.length_append, List.length_cons, List.length_nil]; omega
    have hneg : IntKind.i64.wrap (-s) = -s := by rw [IntKind.wrap_i64]; omega
    have hz : ((fs.length : Int) == 0) = false := by simp only [beq_eq_false_iff_ne, ne_eq]; omega
    have hEs : Eds w none A ∨ True := .inr trivial
    have hmid := fun gg (h : aa = some ⟨gg, 0, none⟩) => show Eds w (some ⟨gg, A1.length * 3, none⟩) A from by rw [h, ha] at hEa; exact eds_mid hEa
    have HP := Lib.hid hP
    have mixed : Try.prog.follows Departure.mixedOrders = true := by kernel_rfl
    clear hfl hS hT hSA hEs h2 h3 h4 h5 h6 h7 h8 h9 h10 h11 h12 k1 k2 k3 k4 f1 f2 f3 f4 hb own hF hes hfs hm hL hP
    rcases hnn with ⟨rfl, e0, rfl⟩ | ⟨gg, rfl, hcl, hcm⟩
    · have e1 : A1.length = 0 := by omega
      have hA : A = [] := List.eq_nil_of_length_eq_zero (by omega)
      have H84b := Lib.hid (show ∀ W x c GB, GoTo W GB fs.length fs (-s) fs.length → Calls Try.prog 84 #[.int .i64 n, .slice x 0 c, .slice (some ⟨GB, 0, none⟩) fs.length fs.length] W (MgPost L W) from fun W x c GB h => by
        have := H84.out W x c GB (by rw [hA]; intro j hj; simp at hj) h
        rw [hA] at this
        exact this)
      have e2 : A1.length + A.length = 0 := by omega
      rw [e2, e1, e0] at H83 HNEAR
      rw [e0]
      have G0 : ∀ W W' : World, w.grownBy W none → W.drew.grownBy W' none → w.grownBy W' none := fun W W' h1 h2 => grownBy_trans h1 ⟨h2.os, h2.tape, h2.output, h2.size, h2.block⟩
      clear hlen ha hfc hmid hEa e0 e1 e2 hA
      go_enter Try.func62, Try.ntmps62
      go_wp2_with fail
      refine (HNEAR.out).mono ?_
      rintro e w1 ⟨rfl, g1⟩
      have HG1 := Lib.hid g1
      clear g1
      go_wp2_with fail
      go_region_law_o (first | (go_simp; go_at_call 67; refine (H67.out _ (by repeat (first | exact HG1.out | apply grow_drew))).mono ?_; rintro e' w2 ⟨rfl, hgo, g2⟩; have HGO := Lib.hid hgo; have HG2 := Lib.hid (G0 _ _ HG1.out g2); clear hgo g2) | (go_simp; go_at_call 84; refine (H84b.out _ _ _ _ HGO.out).mono ?_; rintro e' w3 ⟨v', rfl, ho3, g3⟩; obtain ⟨va, vc, rfl⟩ := ownsRow_slice ho3; have HG3 := Lib.hid (grownBy_trans HG2.out g3); have HO3 := Lib.hid (ownsRow_base ho3 HG2.out.size); clear ho3 g3) | (go_simp; go_at_call 83; refine (H83.out _ _ _ HG3.out HO3.out hLl).mono ?_; intro e' w4 h4; have h5 := h4; rw [← HP.out] at h5; obtain ⟨v4, rfl, -⟩ := h5; have H4 := Lib.hid h4; clear h4))
      all_goals (go_wp2; first | exact H4.out | (go_ret; exact H4.out))
    · have hmid1 := Lib.hid (hmid gg rfl)
      clear hmid hEa
      obtain ⟨p, hp⟩ : ∃ p, p = A1.length := ⟨_, rfl⟩
      obtain ⟨q, hq⟩ : ∃ q, q = p + A.length := ⟨_, rfl⟩
      rw [← hp] at HNEAR H83 hmid1 hlen
      rw [← hq] at HNEAR H83
      have b0 : p ≤ es.length := by omega
      have b1 : (p : Int) ≤ (q : Int) := by omega
      have b2 : p ≤ q := by omega
      have b3 : q ≤ ac := by omega
      have b3' : q ≤ es.length := by omega
      have b5 : q - p = A.length := by omega
      clear hp hq hlen ha hfc
      have G0 : ∀ W W' : World, w.grownBy W none → W.drew.grownBy W' none → w.grownBy W' none := fun W W' h1 h2 => grownBy_trans h1 ⟨h2.os, h2.tape, h2.output, h2.size, h2.block⟩
      by_cases hcut : ac = p
      · have hA : A = [] := List.eq_nil_of_length_eq_zero (by omega)
        have H84b := Lib.hid (show ∀ W x c GB, GoTo W GB fs.length fs (-s) fs.length → Calls Try.prog 84 #[.int .i64 n, .slice x 0 c, .slice (some ⟨GB, 0, none⟩) fs.length fs.length] W (MgPost L W) from fun W x c GB h => by
          have := H84.out W x c GB (by rw [hA]; intro j hj; simp at hj) h
          rw [hA] at this
          exact this)
        obtain rfl : q = p := by omega
        subst hcut
        clear hA b5 hmid1
        go_enter Try.func62, Try.ntmps62
        go_wp2_with fail
        refine (HNEAR.out).mono ?_
        rintro e w1 ⟨rfl, g1⟩
        have HG1 := Lib.hid g1
        clear g1
        go_wp2_with fail
        go_region_law_o (first | (go_simp; go_at_call 67; refine (H67.out _ (by repeat (first | exact HG1.out | apply grow_drew))).mono ?_; rintro e' w2 ⟨rfl, hgo, g2⟩; have HGO := Lib.hid hgo; have HG2 := Lib.hid (G0 _ _ HG1.out g2); clear hgo g2) | (go_simp; go_at_call 84; refine (H84b.out _ _ _ _ HGO.out).mono ?_; rintro e' w3 ⟨v', rfl, ho3, g3⟩; obtain ⟨va, vc, rfl⟩ := ownsRow_slice ho3; have HG3 := Lib.hid (grownBy_trans HG2.out g3); have HO3 := Lib.hid (ownsRow_base ho3 HG2.out.size); clear ho3 g3) | (go_simp; go_at_call 83; refine (H83.out _ _ _ HG3.out HO3.out hLl).mono ?_; intro e' w4 h4; have h5 := h4; rw [← HP.out] at h5; obtain ⟨v4, rfl, -⟩ := h5; have H4 := Lib.hid h4; clear h4))
        all_goals (go_wp2; first | exact H4.out | (go_ret; exact H4.out))
      · go_enter Try.func62, Try.ntmps62
        go_wp2_with fail
        refine (HNEAR.out).mono ?_
        rintro e w1 ⟨rfl, g1⟩
        have HG1 := Lib.hid g1
        clear g1
        go_wp2_with fail
        go_region_law_o (first | (go_simp; go_at_call 67; refine (H67.out _ (by repeat (first | exact HG1.out | apply grow_drew))).mono ?_; rintro e' w2 ⟨rfl, hgo, g2⟩; have HGO := Lib.hid hgo; have HG2 := Lib.hid (G0 _ _ HG1.out g2); clear hgo g2) | (go_simp; go_at_call 84; refine (H84.out _ _ _ _ (hmid1.out.grown HG2.out (by simp)) HGO.out).mono ?_; rintro e' w3 ⟨v', rfl, ho3, g3⟩; obtain ⟨va, vc, rfl⟩ := ownsRow_slice ho3; have HG3 := Lib.hid (grownBy_trans HG2.out g3); have HO3 := Lib.hid (ownsRow_base ho3 HG2.out.size); clear ho3 g3) | (go_simp; go_at_call 83; refine (H83.out _ _ _ HG3.out HO3.out hLl).mono ?_; intro e' w4 h4; have h5 := h4; rw [← HP.out] at h5; obtain ⟨v4, rfl, -⟩ := h5; have H4 := Lib.hid h4; clear h4))
        all_goals (go_wp2; first | exact H4.out | (go_ret; exact H4.out))
end Go.Proofs.Ytajigndlcdiinaa
namespace Go.Proofs.Ytajigndlcdiinaa
open Go Go.RowKit
attribute [local go_sem] Oper.semAt_some

theorem then_none {n : Int} (h0 : 0 ≤ n) : ∀ (es : List Ed) (x b : Int), Right n b es → x ≤ b + 1 → 0 ≤ x → thenL (keepL 0 n.toNat) (flowGo n x es) = flowGo n x es := by
  have key : ∀ x y : Int, 0 ≤ x → y ≤ n → thenL (keepL 0 n.toNat) (gapL x y) = gapL x y := by
    intro x y hx hy
    unfold gapL thenL
    rw [keepL_map x, List.map_map]
    apply List.map_congr_left
    intro i hi
    have hi := List.mem_range.1 hi
    show thenX (keepL 0 n.toNat) (x + (i : Int), 0) = (x + (i : Int), 0)
    unfold thenX
    rw [if_pos (by show 0 ≤ x + (i : Int); omega)]
    show (keepL 0 n.toNat).getD (x + (i : Int)).toNat _ = _
    rw [List.getD_eq_getElem?_getD, keepL_getD 0 n.toNat (x + (i : Int)).toNat (by omega), Option.getD_some]
    congr 1; omega
  intro es
  induction es with
  | nil => intro x b _ _ hx; exact key x n hx (Int.le_refl _)
  | cons e r ih =>
    intro x b ⟨q1, q2, q3, q4, q5, q6⟩ hb hx
    rw [flowGo, thenL_app, thenL_app, thenL_news, key x e.at_ hx q3, ih (e.at_ + e.old) (e.at_ + e.old) q6 (by omega) (by omega)]
theorem flow_nil {n : Int} (h0 : 0 ≤ n) : flowL [] n = keepL 0 n.toNat := by
  rw [flowL_go, flowGo, gapL]; congr 1; omega
theorem then_first {n : Int} {c : List Ed} (hc : changeFault n c = 0) : thenEr n [] c = 0 ∧ thenVl n [] c = c := by
  obtain ⟨k1, k2, k3, k4⟩ := changeFault_zero hc
  have e1 : changeFault n [] = 0 := by rw [fault_nil, if_neg (by omega)]
  have e2 : ((flowL [] n).length : Int) = n := by rw [flow_nil k1.1, keepL_len]; omega
  have e3 : thenFl n [] c = flowL c n := by
    unfold thenFl
    rw [e2, flow_nil k1.1, flowL_go n c, then_none k1.1 c 0 (-1) k3 (by omega) (Int.le_refl _)]
  have e4 : thenEr n [] c = 0 := by
    unfold thenEr
    rw [if_neg (by rw [e1]; decide), e2, if_neg (by rw [hc]; decide), e3, flow_edits k1.1 k3 (change_form hc)]
    unfold manyv
    rw [if_neg (by omega)]
  refine ⟨e4, ?_⟩
  unfold thenVl
  rw [if_neg (by rw [e4]; decide), e3, flow_edits k1.1 k3 (change_form hc)]
theorem then_next {n : Int} {out c : List Ed} (ho : changeFault n out = 0) (hc : changeFault ((flowL out n).length : Int) c = 0) :
    (2000 < (editsOf n (thenFl n out c)).length → thenEr n out c = 2) ∧ ((editsOf n (thenFl n out c)).length ≤ 2000 → thenEr n out c = 0 ∧ thenVl n out c = editsOf n (thenFl n out c) ∧ changeFault n (editsOf n (thenFl n out c)) = 0 ∧ (flowL (editsOf n (thenFl n out c)) n).length = (flowL c ((flowL out n).length : Int)).length) := by
  obtain ⟨k1, k2, k3, k4⟩ := changeFault_zero ho
  obtain ⟨f1, f2, f3, f4⟩ := changeFault_zero hc
  have e1 : thenEr n out c = manyv (editsOf n (thenFl n out c)).length := by
    unfold thenEr
    rw [if_neg (by rw [ho]; decide), if_neg (by rw [hc]; decide)]
  refine ⟨fun h => by rw [e1]; unfold manyv; rw [if_pos (by omega)], fun h => ?_⟩
  have e2 : thenEr n out c = 0 := by rw [e1]; unfold manyv; rw [if_neg (by omega)]
  obtain ⟨t1, t2⟩ := then_fit k1.1 k3 rfl f3
  have hlc := (right_all hc).2.2.2.2.2
  have e3 := fit_fault k1 t1 h (by omega)
  refine ⟨e2, by unfold thenVl; rw [if_neg (by rw [e2]; decide)], e3, ?_⟩
  have := len_flow e3
  rw [lenGo_sum] at this
  omega
end Go.Proofs.Ytajigndlcdiinaa
namespace Go.Proofs.Ytajigndlcdiinaa
open Go Go.RowKit
attribute [local go_sem] Oper.semAt_some

def FdR (w : World) (n : Int) (cs rest : List (List Ed)) (j : Nat) (v : Value) (wr : World) : Prop :=
  ∃ out, wr.ownsRow w.heap.size 47 3 v out.length (edC out) ∧ Below w.heap.size w wr ∧ changeFault n out = 0 ∧ foldChk ((flowL out n).length : Int) (rest.drop j) = 0 ∧ foldR n cs = foldGo n out (rest.drop j)
theorem grow_below2 {w w' : World} (h : w.grownBy w' none) : Below w.heap.size w w' := ⟨h.os, h.tape, h.output, h.size, fun k hk => h.block k hk (by simp)⟩
theorem below_grow {w w' : World} (h : Below w.heap.size w w') : w.grownBy w' none := ⟨h.os, h.tape, h.output, h.size, fun k hk _ => h.block k hk⟩

set_option maxHeartbeats 2000000 in
set_option maxRecDepth 100000 in
theorem fold_any (n : Int) (a : Option Addr) (cap : Nat) (cs : List (List Ed)) (w : World) (hn : -1000000 ≤ n ∧ n ≤ 1000000) (hl : cs.length ≤ 100000) (hcap : cs.length ≤ cap) (hS : ∀ c, c ∈ cs → EdsSmall c ∧ c.length ≤ 100000) (hC : Chs w a cs) :
    Calls Try.prog 28 #[.int .i64 n, .slice a cs.length cap] w (EdsErrPost (foldR n cs).1 (foldR n cs).2 w) := by
  obtain ⟨P, hP⟩ : ∃ P, EdsErrPost (foldR n cs).1 (foldR n cs).2 w = P := ⟨_, rfl⟩
  rw [hP]
  have HCF := Lib.hid (checkFold_any n a cap cs w (by omega) hC (fun c hc => ⟨(hS c hc).1, by have := (hS c hc).2; omega⟩))
  have HERR := Lib.hid (show ∀ er w', foldR n cs = ([], er) → w.grownBy w' none → P (.returned (.tuple #[.slice none 0 0, .int .i64 er])) w' from fun er w' h g => by
    rw [← hP, h]
    exact ⟨.slice none 0 0, rfl, World.ownsRow_nil _ _ _ _, g⟩)
  have HFF := Lib.hid (show foldFault n cs ≠ 0 → foldR n cs = ([], foldFault n cs) from fun h => by
    by_cases h0 : 0 ≤ n ∧ n ≤ 20000
    · have e : foldFault n cs = foldChk n cs := by unfold foldFault; rw [if_neg (by simpa using h0)]
      rw [e] at h ⊢
      unfold foldR
      rw [if_neg (by simpa using h0), if_pos h]
    · have e : foldFault n cs = 1 := if_pos h0
      rw [e]
      unfold foldR
      rw [if_pos h0])
  by_cases hf : foldFault n cs = 0
  · have hn2 : 0 ≤ n ∧ n ≤ 20000 := by
      unfold foldFault at hf
      split at hf
      · omega
      · rename_i h; omega
    have hchk : foldChk n cs = 0 := by
      unfold foldFault at hf
      rwa [if_neg (by omega)] at hf
    have hR : foldR n cs = foldGo n [] cs := by unfold foldR; rw [if_neg (by omega), if_neg (by rw [hchk]; decide)]
    rw [hf] at HCF
    cases cs with
    | nil =>
      have HE := Lib.hid (show foldR n ([] : List (List Ed)) = ([], 0) by rw [hR, foldGo])
      clear hR hchk hf hC hS HFF
      go_enter Try.func28, Try.ntmps28
      go_wp2_with fail
      refine (HCF.out).mono ?_
      rintro e w1 ⟨rfl, g1⟩
      go_wp2_with fail
      all_goals first | exact HERR.out _ _ HE.out g1 | (go_ret2; exact HERR.out _ _ HE.out g1)
    | cons c0 rest =>
      have hc0 : changeFault n c0 = 0 ∧ foldChk ((flowL c0 n).length : Int) rest = 0 := by
        rw [foldChk] at hchk
        by_cases h : changeFault n c0 = 0
        · rw [if_neg (by rw [h]; decide)] at hchk; exact ⟨h, hchk⟩
        · rw [if_pos h] at hchk; exact absurd hchk h
      have HR0 := Lib.hid (show foldR n (c0 :: rest) = foldGo n c0 rest by
        obtain ⟨t1, t2⟩ := then_first hc0.1
        rw [hR, foldGo, if_neg (by rw [t1]; decide), t2])
      have HC := Lib.hid hC
      obtain ⟨g, off, av, cp, rfl, cc, hE0⟩ := hC 0 (by simp)
      simp only [List.getElem_cons_zero, Nat.add_zero] at cc hE0
      have hl0 : c0.length ≤ 2000 := (changeFault_zero hc0.1).2.1
      have HC0 := Lib.hid hc0
      have HFIN := Lib.hid (show ∀ j v wr, FdR w n (c0 :: rest) rest j v wr → j = rest.length → P (.returned (.tuple #[v, .int .i64 0])) wr from fun j v wr h hj => by
        obtain ⟨out, o1, o2, o3, o4, o5⟩ := h
        rw [hj, List.drop_length, foldGo] at o5
        rw [← hP, o5]
        exact ⟨v, rfl, by rw [← edC_cells]; exact o1, below_grow o2⟩)
      have hlr : rest.length ≤ 100000 := by simp at hl; omega
      have hlc : (c0 :: rest).length = rest.length + 1 := by simp
      rw [hlc] at hcap HCF ⊢
      have b0 : ((rest.length : Int) + 1 == 0) = false := by simp only [beq_eq_false_iff_ne, ne_eq]; omega
      have b1 : (1 : Nat) ≤ rest.length + 1 := by omega
      have b2 : (1 : Int) ≤ (rest.length : Int) + 1 := by omega
      clear hR hchk hf hC hS HFF hc0 hlc hl hn
      by_cases hc1 : cap = 1
      · have hre : rest = [] := List.eq_nil_of_length_eq_zero (by omega)
        subst hre
        subst hc1
        go_enter Try.func28, Try.ntmps28
        go_wp2_with fail
        refine (HCF.out).mono ?_
        rintro e w1 ⟨rfl, g1⟩
        have cc1 := g1.cell cc (by simp)
        go_wp2_with fail
        refine (clone_any av cp c0 w1 (by omega) (hE0.grown g1 (by simp))).mono ?_
        rintro e w2 ⟨v, rfl, ho, g2⟩
        have hrel0 : FdR w n [c0] [] 0 v w2 := ⟨c0, ownsRow_base ho g1.size, grow_below2 (grownBy_trans g1 g2), HC0.out.1, by rw [List.drop_zero]; exact HC0.out.2, by rw [List.drop_zero]; exact HR0.out⟩
        obtain ⟨oa, oc, rfl⟩ := ownsRow_slice ho
        clear ho
        have HREL0 := Lib.hid hrel0
        clear hrel0
        clear HC HCF HC0 HR0 hE0 cc cc1 g1 g2
        go_wp2_with fail
        go_loopw [7, 28] (fun v i wr => v = .slice oa c0.length oc ∧ i = .int .i64 0 ∧ FdR w n [c0] [] 0 v wr) (fun _ i _ => 0 - (intOf i).toNat)
        case atStart => exact ⟨rfl, rfl, HREL0.out⟩
        case round =>
          clear HREL0
          obtain ⟨rfl, rfl, hfd⟩ := hrel
          have HFD := Lib.hid hfd
          clear hfd
          go_wp2_with fail
          all_goals first | exact HFIN.out _ _ _ HFD.out rfl | (go_ret2; exact HFIN.out _ _ _ HFD.out rfl)
      · go_enter Try.func28, Try.ntmps28
        go_wp2_with fail
        refine (HCF.out).mono ?_
        rintro e w1 ⟨rfl, g1⟩
        have cc1 := g1.cell cc (by simp)
        go_wp2_with fail
        refine (clone_any av cp c0 w1 (by omega) (hE0.grown g1 (by simp))).mono ?_
        rintro e w2 ⟨v, rfl, ho, g2⟩
        have hrel0 : FdR w n (c0 :: rest) rest 0 v w2 := ⟨c0, ownsRow_base ho g1.size, grow_below2 (grownBy_trans g1 g2), HC0.out.1, by rw [List.drop_zero]; exact HC0.out.2, by rw [List.drop_zero]; exact HR0.out⟩
        clear ho
        have HREL0 := Lib.hid hrel0
        clear hrel0
        have HW1 := Lib.hid (show ∀ j, (hj : j < rest.length) → ∃ av cp, w.cell? ⟨g, off + 1 + j, none⟩ = some (.slice av (rest[j]).length cp) ∧ Eds w av rest[j] from fun j hj => by
          obtain ⟨g', off', av', cp', e1, e2, e3⟩ := HC.out (j + 1) (by simp; omega)
          cases e1
          simp only [List.getElem_cons_succ] at e2 e3
          exact ⟨av', cp', by rw [show off + 1 + j = off + (j + 1) by omega]; exact e2, e3⟩)
        clear HC HCF HC0 HR0 hE0 cc cc1 g1 g2
        go_wp2_with fail
        go_loopw [7, 28] (fun v i wr => ∃ j : Nat, j ≤ rest.length ∧ i = .int .i64 j ∧ FdR w n (c0 :: rest) rest j v wr) (fun _ i _ => rest.length - (intOf i).toNat)
        case atStart => exact ⟨0, Nat.zero_le _, rfl, HREL0.out⟩
        case round =>
          clear HREL0
          obtain ⟨j, hj, rfl, hfd⟩ := hrel
          by_cases hlt : j < rest.length
          · obtain ⟨out, o1, o2, o3, o4, o5⟩ := hfd
            obtain ⟨av2, cp2, cc2, hE2⟩ := HW1.out j hlt
            have hD : rest.drop j = rest[j] :: rest.drop (j + 1) := List.drop_eq_getElem_cons hlt
            rw [hD] at o4 o5
            rw [foldChk] at o4
            rw [foldGo] at o5
            generalize rest[j] = c at cc2 hE2 o4 o5
            clear hD
            have hcf : changeFault ((flowL out n).length : Int) c = 0 := by
              by_cases h : changeFault ((flowL out n).length : Int) c = 0
              · exact h
              · rw [if_pos h] at o4; exact absurd o4 h
            rw [if_neg (by rw [hcf]; decide)] at o4
            have gw := below_grow o2
            have cc3 := gw.cell cc2 (by simp)
            obtain ⟨oa, oc, rfl⟩ := ownsRow_slice o1
            have HTH := Lib.hid (then_walk w.heap.size n ((flowL out n).length : Int) oa av2 oc cp2 out c _ w o2 o2.size o1 (hE2.grown gw (by simp)) o3 hcf rfl)
            obtain ⟨tn1, tn2⟩ := then_next o3 hcf
            obtain ⟨L, hL⟩ : ∃ L, editsOf n (thenFl n out c) = L := ⟨_, rfl⟩
            rw [hL] at HTH tn1 tn2
            clear hE2 o1 o2 gw cc2
            by_cases hbig : 2000 < L.length
            · have hd : decide ((2000 : Int) < (L.length : Int)) = true := by simp; omega
              have HE := Lib.hid (show foldR n (c0 :: rest) = ([], 2) by rw [o5, tn1 hbig]; rfl)
              clear o3 o4 o5 hcf tn1 tn2 hL
              go_wp2_with fail
              refine (HTH.out).mono ?_
              rintro e w4 ⟨v4, rfl, ho4, hb4⟩
              obtain ⟨ra, rc, rfl⟩ := ownsRow_slice ho4
              have HB4 := Lib.hid (below_grow hb4)
              clear ho4 hb4
              go_wp2_with fail
              all_goals first | exact HERR.out _ _ HE.out HB4.out | (go_ret2; exact HERR.out _ _ HE.out HB4.out)
            · have hd : decide ((2000 : Int) < (L.length : Int)) = false := by simp; omega
              obtain ⟨u1, u2, u3, u4⟩ := tn2 (by omega)
              have HNX := Lib.hid (show changeFault n L = 0 ∧ foldChk ((flowL L n).length : Int) (rest.drop (j + 1)) = 0 ∧ foldR n (c0 :: rest) = foldGo n L (rest.drop (j + 1)) from ⟨u3, by rw [u4]; exact o4, by rw [o5, if_neg (by rw [u1]; decide), u2]⟩)
              clear o3 o4 o5 hcf tn1 tn2 hL u1 u2 u3 u4
              go_wp2_with fail
              refine (HTH.out).mono ?_
              rintro e w4 ⟨v4, rfl, ho4, hb4⟩
              obtain ⟨ra, rc, rfl⟩ := ownsRow_slice ho4
              have HO4 := Lib.hid ho4
              have HB4 := Lib.hid hb4
              clear ho4 hb4
              go_wp2_with fail
              go_roundw
              case rel => exact ⟨j + 1, by omega, by go_num, L, HO4.out, HB4.out, HNX.out⟩
              case measure => simp [intOf]; omega
          · obtain rfl : j = rest.length := by omega
            have hfd2 := hfd
            obtain ⟨out, o1, -⟩ := hfd2
            obtain ⟨oa, oc, rfl⟩ := ownsRow_slice o1
            have HFD := Lib.hid hfd
            clear hfd o1
            go_wp2_with fail
            all_goals first | exact HFIN.out _ _ _ HFD.out rfl | (go_ret2; exact HFIN.out _ _ _ HFD.out rfl)
  · have hb : (foldFault n cs != 0) = true := by simp [hf]
    have HE := Lib.hid (HFF.out hf)
    clear HFF hf hC hS
    go_enter Try.func28, Try.ntmps28
    go_wp2_with fail
    refine (HCF.out).mono ?_
    rintro e w1 ⟨rfl, g1⟩
    go_wp2_with fail
    all_goals first | exact HERR.out _ _ HE.out g1 | (go_ret2; exact HERR.out _ _ HE.out g1)
end Go.Proofs.Ytajigndlcdiinaa
namespace Go.Proofs.Ytajigndlcdiinaa
open Go Go.RowKit
attribute [local go_sem] Oper.semAt_some

theorem fold_two (n : Int) (es fs : List Ed) : foldR n [es, fs] = (thenVl n es fs, thenEr n es fs) := by
  by_cases h0 : 0 ≤ n ∧ n ≤ 20000
  · by_cases h1 : changeFault n es = 0
    · by_cases h2 : changeFault ((flowL es n).length : Int) fs = 0
      · obtain ⟨t1, t2⟩ := then_first h1
        have e1 : foldChk n [es, fs] = 0 := by rw [foldChk, if_neg (by rw [h1]; decide), foldChk, if_neg (by rw [h2]; decide), foldChk]
        unfold foldR
        rw [if_neg (by simpa using h0), if_neg (by rw [e1]; decide), foldGo, if_neg (by rw [t1]; decide), t2, foldGo]
        by_cases h3 : thenEr n es fs = 0
        · rw [if_neg (by rw [h3]; decide), foldGo, h3]
        · rw [if_pos h3]
          unfold thenVl
          rw [if_pos h3]
      · have e0 : thenEr n es fs = changeFault ((flowL es n).length : Int) fs := by unfold thenEr; rw [if_neg (by rw [h1]; decide), if_pos h2]
        have e1 : foldChk n [es, fs] = thenEr n es fs := by rw [foldChk, if_neg (by rw [h1]; decide), foldChk, if_pos h2, e0]
        unfold foldR
        rw [if_neg (by simpa using h0), e1, if_pos (by rw [e0]; exact h2)]
        unfold thenVl
        rw [if_pos (by rw [e0]; exact h2)]
    · have e0 : thenEr n es fs = changeFault n es := by unfold thenEr; rw [if_pos h1]
      have e1 : foldChk n [es, fs] = thenEr n es fs := by rw [foldChk, if_pos h1, e0]
      unfold foldR
      rw [if_neg (by simpa using h0), e1, if_pos (by rw [e0]; exact h1)]
      unfold thenVl
      rw [if_pos (by rw [e0]; exact h1)]
  · have e2 : changeFault n es = 1 := by unfold changeFault; rw [if_pos h0]
    have e0 : thenEr n es fs = 1 := by unfold thenEr; rw [if_pos (by rw [e2]; decide), e2]
    unfold foldR
    rw [if_pos h0]
    unfold thenVl
    rw [if_pos (by rw [e0]; decide), e0]

set_option maxHeartbeats 1000000 in
set_option maxRecDepth 100000 in
theorem then_any2 (n : Int) (a b : Option Addr) (c1 c2 : Nat) (es fs : List Ed) (w : World) (hn : -1000000 ≤ n ∧ n ≤ 1000000) (hl : es.length ≤ 100000) (hl2 : fs.length ≤ 100000) (hS : EdsSmall es) (hT : EdsSmall fs) (hE : Eds w a es) (hF : Eds w b fs) :
    Calls Try.prog 27 #[.int .i64 n, .slice a es.length c1, .slice b fs.length c2] w (EdsErrPost (thenVl n es fs) (thenEr n es fs) w) := by
  obtain ⟨P, hP⟩ : ∃ P, EdsErrPost (thenVl n es fs) (thenEr n es fs) w = P := ⟨_, rfl⟩
  rw [hP]
  have HP := Lib.hid hP
  clear hP
  have G := World.grownBy_alloc w (.cells #[.slice a es.length c1, .slice b fs.length c2] 28) none
  have hblk := heap_alloc_new w (.cells #[.slice a es.length c1, .slice b fs.length c2] 28)
  have HFD := Lib.hid (fold_any n (some ⟨w.heap.size, 0, none⟩) 2 [es, fs] (w.alloc (.cells #[.slice a es.length c1, .slice b fs.length c2] 28)) hn (by simp) (by simp) (by
    intro c hc
    simp only [List.mem_cons, List.not_mem_nil, or_false] at hc
    rcases hc with rfl | rfl
    · exact ⟨hS, hl⟩
    · exact ⟨hT, hl2⟩) (by
    intro j hj
    match j, hj with
    | 0, _ => exact ⟨_, _, a, c1, rfl, (cell_of_block hblk _).trans rfl, hE.grown G (by simp)⟩
    | 1, _ => exact ⟨_, _, b, c2, rfl, (cell_of_block hblk _).trans rfl, hF.grown G (by simp)⟩
    | j + 2, h => exact absurd h (by simp)))
  rw [fold_two] at HFD
  have hG2 := Lib.hid G
  clear hS hT hE hF hblk G hl hl2 hn
  go_enter Try.func27, Try.ntmps27
  go_wp2_with fail
  refine (HFD.out).mono ?_
  rintro e w1 ⟨v, rfl, ho, g1⟩
  obtain ⟨ra, rc, rfl⟩ := ownsRow_slice ho
  have HF := Lib.hid (show P (.returned (.tuple #[.slice ra (thenVl n es fs).length rc, .int .i64 (thenEr n es fs)])) w1 by
    rw [← HP.out]
    exact ⟨_, rfl, ownsRow_base ho hG2.out.size, grownBy_trans hG2.out g1⟩)
  obtain ⟨T, hT⟩ : ∃ T, thenVl n es fs = T := ⟨_, rfl⟩
  obtain ⟨E, hE⟩ : ∃ E, thenEr n es fs = E := ⟨_, rfl⟩
  rw [hT, hE] at HF ⊢
  clear hT hE ho HFD HP hG2
  go_wp2_with fail
  all_goals first | exact HF.out | (go_ret2; exact HF.out)
end Go.Proofs.Ytajigndlcdiinaa
