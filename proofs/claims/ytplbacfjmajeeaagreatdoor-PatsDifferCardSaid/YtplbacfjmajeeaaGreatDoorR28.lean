/- A part of the proof of the statement on PatsDiffer: hglaw2.PatsDiffer returns true. -/
import Derived.Test.YtplbacfjmajeeaaGreatDoorR18
import Derived.Test.YtplbacfjmajeeaaGreatDoorR19
import Derived.Test.YtplbacfjmajeeaaGreatDoorR15
import Derived.Test.YtplbacfjmajeeaaGreatDoorR27
namespace Go.Proofs.YtplbacfjmajeeaaGreatDoor
open Go.RowKit Go.Region Go.Maps

theorem sto_none {b av cap xs w w' k} (h : Sto b av cap xs w w' k) {w0 : World} (g : w0.grownBy w none) (hb : w0.heap.size ≤ b) : w0.grownBy w' none :=
  ⟨h.grow.os.trans g.os, h.grow.tape.trans g.tape, h.grow.output.trans g.output, Nat.le_trans g.size h.grow.size, fun k hk hn =>
    (h.grow.block k (Nat.lt_of_lt_of_le hk g.size) (by simp; omega)).trans (g.block k hk hn)⟩

/-- Two patterns stand in two blocks, apart from the stream. -/
structure Pair (w W : World) (B4 B5 : Nat) (p q : Pt) (cp cq : Array Value) : Prop where
  b4 : W.heap[B4]? = some (.cells cp 28 (0, 0))
  b5 : W.heap[B5]? = some (.cells cq 28 (0, 0))
  hp : PtQ (fun x => x ≠ w.heap.size ∧ x ≠ B5) W p (.agg cp)
  hq : PtQ (fun x => x ≠ w.heap.size ∧ x ≠ B5) W q (.agg cq)
  gr : w.grownBy W none
  n4 : w.heap.size < B4
  n5 : B4 < B5
theorem Pair.grow {w W W' : World} {B4 B5 : Nat} {p q : Pt} {cp cq : Array Value} (h : Pair w W B4 B5 p q cp cq) (g : W.grownBy W' none) : Pair w W' B4 B5 p q cp cq :=
  ⟨grow_new g h.b4, grow_new g h.b5, PtQ.keep (kept_grown g (fun r hr => by cases hr) (fun _ h _ => h)) _ _ h.hp, PtQ.keep (kept_grown g (fun r hr => by cases hr) (fun _ h _ => h)) _ _ h.hq, grownBy_trans h.gr g, h.n4, h.n5⟩
theorem Pair.sto {w W W' : World} {B4 B5 : Nat} {p q : Pt} {cp cq : Array Value} {av cap xs k} (h : Pair w W B4 B5 p q cp cq) (T : Sto w.heap.size av cap xs W W' k) : Pair w W' B4 B5 p q cp cq :=
  ⟨T.kept h.b4 (by have := h.n4; omega), T.kept h.b5 (by have := h.n4; have := h.n5; omega), PtQ.keep (kept_grown T.grow (fun r hr hq => hq.1 (by simpa using hr.symm)) (fun _ h _ => h)) _ _ h.hp, PtQ.keep (kept_grown T.grow (fun r hr hq => hq.1 (by simpa using hr.symm)) (fun _ h _ => h)) _ _ h.hq, sto_none T h.gr (Nat.le_refl _), h.n4, h.n5⟩
/-- Another pattern takes the second block. -/
theorem Pair.other {w W W' : World} {B4 B5 : Nat} {p q q' : Pt} {cp : Array Value} {c0 c1 c2 c3 d0 d1 d2 d3 : Value} (h : Pair w W B4 B5 p q cp #[d0, d1, d2, d3]) (hq : PtQ (fun x => x ≠ w.heap.size ∧ x ≠ B5) W q' (.agg #[c0, c1, c2, c3]))
    (hW : (((W.setCell ⟨B5, 0, none⟩ c0).setCell ⟨B5, 1, none⟩ c1).setCell ⟨B5, 2, none⟩ c2).setCell ⟨B5, 3, none⟩ c3 = W') : Pair w W' B4 B5 p q' cp #[c0, c1, c2, c3] := by
  have h4 := h.n4
  have h5 := h.n5
  have b5 := heap_setCell_self (heap_setCell_self (heap_setCell_self (heap_setCell_self h.b5 0 c0) 1 c1) 2 c2) 3 c3
  have b4 : ((((W.setCell ⟨B5, 0, none⟩ c0).setCell ⟨B5, 1, none⟩ c1).setCell ⟨B5, 2, none⟩ c2).setCell ⟨B5, 3, none⟩ c3).heap[B4]? = some (.cells cp 28 (0, 0)) := by
    rw [Below.heap_setCell _ _ _ _ (by simp; omega), Below.heap_setCell _ _ _ _ (by simp; omega), Below.heap_setCell _ _ _ _ (by simp; omega), Below.heap_setCell _ _ _ _ (by simp; omega)]
    exact h.b4
  have hk : ∀ (V : World) (i : Nat) (u : Value), KeptQ (fun x => x ≠ w.heap.size ∧ x ≠ B5) (fun x => x ≠ w.heap.size ∧ x ≠ B5) V (V.setCell ⟨B5, i, none⟩ u) := fun V i u => kept_set _ _ (fun hx => hx.2 rfl)
  have g := grow_setCell (grow_setCell (grow_setCell (grow_setCell h.gr ⟨B5, 0, none⟩ c0 (by simp; omega)) ⟨B5, 1, none⟩ c1 (by simp; omega)) ⟨B5, 2, none⟩ c2 (by simp; omega)) ⟨B5, 3, none⟩ c3 (by simp; omega)
  have ka := fun (r : Pt) (v : Value) (hr : PtQ (fun x => x ≠ w.heap.size ∧ x ≠ B5) W r v) => PtQ.keep (hk _ 3 c3) r v (PtQ.keep (hk _ 2 c2) r v (PtQ.keep (hk _ 1 c1) r v (PtQ.keep (hk W 0 c0) r v hr)))
  have hp2 := ka _ _ h.hp
  have hq2 := ka _ _ hq
  simp only [List.setIfInBounds_toArray, List.set_cons_succ, List.set_cons_zero] at b5
  rw [hW] at b5 b4 g hp2 hq2
  exact ⟨b4, b5, hp2, hq2, g, h4, h5⟩

theorem errV_ne (p q : Pt) (h : errV [patFault p, patFault q] ≠ 0) : differ p q = ([], false, errV [patFault p, patFault q]) := by
  unfold differ
  simp only [errV] at h ⊢
  by_cases h1 : patFault p = 0
  · rw [if_neg (by simp [h1])]
    by_cases h2 : patFault q = 0
    · simp [h1, h2] at h
    · rw [if_pos h2, if_pos h1, if_neg h2]
  · rw [if_pos h1, if_neg h1]
theorem errV_zero (p q : Pt) (h : errV [patFault p, patFault q] = 0) : patFault p = 0 ∧ patFault q = 0 := by
  simp only [errV] at h
  by_cases h1 : patFault p = 0
  · rw [if_pos h1] at h
    by_cases h2 : patFault q = 0
    · exact ⟨h1, h2⟩
    · rw [if_neg h2] at h; exact absurd h h2
  · rw [if_neg h1] at h; exact absurd h h1
/-- A pattern that APat has made. -/
theorem apat_val {b : Nat} {av : Option Addr} {cap : Nat} {xs : List Int} {w : World} {k : Nat} {e : Ending} {w' : World} (h : PatPost b av cap xs w k 13 13 126 e w') :
    ∃ (p : Pt) (o l hi : Int) (a : Option Addr) (n c k' : Nat), e = .returned (.agg #[.int .i64 o, .int .i64 l, .int .i64 hi, .slice a n c]) ∧ Hid (PtQ (fun x => w.heap.size ≤ x) w' p (.agg #[.int .i64 o, .int .i64 l, .int .i64 hi, .slice a n c])) ∧ p.leaves ≤ 13 ∧ p.size ≤ 13 ∧ k' ≤ k + 126 ∧ Hid (Sto b av cap xs w w' k') := by
  obtain ⟨p, v, k', he, hp, hl, hs, hk, T⟩ := h
  obtain ⟨o, l, hi, ps⟩ := p
  have hp2 := hp
  obtain ⟨a, c, rfl, _⟩ := hp
  exact ⟨.mk o l hi ps, o, l, hi, a, ps.length, c, k', he, Lib.hid hp2, hl, hs, hk, Lib.hid T⟩

set_option maxHeartbeats 1000000 in
set_option maxRecDepth 100000 in
theorem patsDiffer_any (av : Option Addr) (cap : Nat) (xs : List Int) (w : World) (hx2 : xs.length ≤ 9223372036854775807)
    (hel : ∀ j, j < xs.length → ∃ bl off, av = some ⟨bl, off, none⟩ ∧ w.cell? ⟨bl, off + j, none⟩ = some (.int .i64 (xs.getD j 0))) :
    Calls Tryz.prog 3 #[.slice av xs.length cap] w fun e w' => e = .returned (.bool true) ∧ w.grownBy w' none := by
  have S0 : Strm w.heap.size av cap xs (w.alloc (.cells #[.slice av xs.length cap, .int .i64 0] 25)) 0 := by
    refine ⟨heap_alloc_new w _, fun j hj => ?_⟩
    obtain ⟨bl, off, e, hc⟩ := hel j hj
    have := World.block_lt_of_cell? w _ hc
    exact ⟨bl, off, e, by simp at this; omega, World.grownBy.cell (World.grownBy_alloc w _ none) hc (by simp)⟩
  have G0 := World.grownBy_alloc w (.cells #[.slice av xs.length cap, .int .i64 0] 25) none
  clear hel
  go_enter Tryz.func3, Tryz.ntmps3
  go_wp2_with fail
  generalize w.alloc _ = w0 at S0 G0 ⊢
  have hb0 := S0.lt
  refine (apat_3 hx2 0 w0 (by omega) S0).mono ?_
  intro e w1 hpo
  obtain ⟨p, o, l, hi, a, n, c, k1, rfl, HP, hpl, hps, hk1, HT⟩ := apat_val hpo
  have G1 := sto_none HT.out G0 (Nat.le_refl _)
  have hs1 := HT.out.grow.size
  have hka : KeptQ (fun x => w0.heap.size ≤ x) (fun x => x ≠ w.heap.size ∧ x ≠ w1.heap.size + 1) w1 ((w1.alloc (.cells #[.int .i64 o, .int .i64 l, .int .i64 hi, .slice a n c] 28)).alloc (.cells #[.int .i64 o, .int .i64 l, .int .i64 hi, .slice a n c] 28)) :=
    kept_grown (grow_alloc (World.grownBy_alloc _ _ none) _) (fun r hr => by cases hr) (fun x hx hl => ⟨by omega, by omega⟩)
  have P2 : Hid (Pair w ((w1.alloc (.cells #[.int .i64 o, .int .i64 l, .int .i64 hi, .slice a n c] 28)).alloc (.cells #[.int .i64 o, .int .i64 l, .int .i64 hi, .slice a n c] 28)) w1.heap.size (w1.heap.size + 1) p p #[.int .i64 o, .int .i64 l, .int .i64 hi, .slice a n c] #[.int .i64 o, .int .i64 l, .int .i64 hi, .slice a n c]) :=
    Lib.hid ⟨grow_new (World.grownBy_alloc _ _ none) (heap_alloc_new w1 _), heap_new_at _ _ _ (by simp), PtQ.keep hka _ _ HP.out, PtQ.keep hka _ _ HP.out, grow_alloc (grow_alloc G1 _) _, by omega, by omega⟩
  clear hka
  have HT2 := Lib.hid ((HT.out.alloc (.cells #[.int .i64 o, .int .i64 l, .int .i64 hi, .slice a n c] 28)).alloc (.cells #[.int .i64 o, .int .i64 l, .int .i64 hi, .slice a n c] 28))
  clear hpo G0 S0 G1 HT HP
  go_wp2_with fail
  generalize (w1.alloc _).alloc _ = w2 at P2 HT2 ⊢
  generalize w1.heap.size = B at P2 hs1 ⊢
  refine (flip_any 4 (by decide) (show k1 ≤ 1073741824 by omega) hx2 HT2.out.strm).mono ?_
  rintro e w3 ⟨rfl, T3⟩
  have P3 := Lib.hid (P2.out.sto T3)
  have HT3 := Lib.hid (HT2.out.trans T3)
  clear HT2 T3 P2
  generalize flipv xs k1 4 = fl
  go_upto_if 20 with (fail)
  go_cut [] (fun wx => ∃ (q : Pt) (o2 l2 hi2 : Int) (a2 : Option Addr) (n2 c2 : Nat), q.leaves ≤ 13 ∧ q.size ≤ 13 ∧ Hid (Pair w wx B (B + 1) p q #[.int .i64 o, .int .i64 l, .int .i64 hi, .slice a n c] #[.int .i64 o2, .int .i64 l2, .int .i64 hi2, .slice a2 n2 c2]))
  case first =>
    rcases fl with _ | _
    · go_wp2_with fail
      refine (apat_3 hx2 (k1 + 1) w3 (by omega) HT3.out.strm).mono ?_
      intro e w4 hpo
      obtain ⟨q, o2, l2, hi2, a2, n2, c2, k2, rfl, HQ, hql, hqs, hk2, HT4⟩ := apat_val hpo
      have P4 := Lib.hid (P3.out.sto HT4.out)
      have hB := lt_of_block P3.out.b5
      have hn4 := P3.out.n4
      have HQ4 := Lib.hid (PtQ.keep (kept_self (Q' := fun x => x ≠ w.heap.size ∧ x ≠ B + 1) (fun x hx => ⟨by omega, by omega⟩)) _ _ HQ.out)
      have z0 := cell_of_block P4.out.b5 0
      have z1 := cell_of_block P4.out.b5 1
      have z2 := cell_of_block P4.out.b5 2
      have z3 := cell_of_block P4.out.b5 3
      have f0 := free_of_block P4.out.b5 0
      have f1 := free_of_block P4.out.b5 1
      have f2 := free_of_block P4.out.b5 2
      have f3 := free_of_block P4.out.b5 3
      simp only [List.getElem?_toArray, List.getElem?_cons_zero, List.getElem?_cons_succ] at z0 z1 z2 z3
      clear hpo HQ HT4
      go_wp2_with fail
      go_meet
      exact ⟨q, o2, l2, hi2, a2, n2, c2, hql, hqs, Lib.hid (P4.out.other HQ4.out rfl)⟩
    · go_wp2_with fail
      go_meet
      exact ⟨p, o, l, hi, a, n, c, hpl, hps, P3⟩
  case rest =>
    obtain ⟨q, o2, l2, hi2, a2, n2, c2, hql, hqs, P4⟩ := hcut
    obtain ⟨w4, rfl⟩ : ∃ v : World, v = wc := ⟨_, rfl⟩
    clear P3 HT3
    have x0 := cell_of_block P4.out.b4 0
    have x1 := cell_of_block P4.out.b4 1
    have x2 := cell_of_block P4.out.b4 2
    have x3 := cell_of_block P4.out.b4 3
    have y0 := cell_of_block P4.out.b5 0
    have y1 := cell_of_block P4.out.b5 1
    have y2 := cell_of_block P4.out.b5 2
    have y3 := cell_of_block P4.out.b5 3
    simp only [List.getElem?_toArray, List.getElem?_cons_zero, List.getElem?_cons_succ] at x0 x1 x2 x3 y0 y1 y2 y3
    have hlv : leavesL [p, q] ≤ 26 := by simp only [leavesL]; omega
    have hsz : sizes [p, q] ≤ 26 := by simp only [sizes]; omega
    have HD := Lib.hid (differ_any p q _ _ w4 (by omega) (by omega) P4.out.hp.at_ P4.out.hq.at_)
    obtain ⟨rd, hrd⟩ : ∃ r, differ p q = r := ⟨_, rfl⟩
    rw [hrd] at HD
    have HRD := Lib.hid hrd
    clear hrd
    obtain ⟨rs, rb, re⟩ := rd
    have HD2 : Hid (Calls Tryz.prog 8 #[.agg #[.int .i64 o, .int .i64 l, .int .i64 hi, .slice a n c], .agg #[.int .i64 o2, .int .i64 l2, .int .i64 hi2, .slice a2 n2 c2]] w4 fun e w' => e = .returned (.tuple #[.string ⟨rs.toArray⟩, .bool rb, .int .i64 re]) ∧ w4.grownBy w' none) := Lib.hid HD.out
    clear HD
    obtain ⟨X, hX⟩ : ∃ X : ByteArray, (⟨rs.toArray⟩ : ByteArray) = X := ⟨_, rfl⟩
    rw [hX] at HD2
    have HX := Lib.hid hX
    clear hX
    go_wp2_with fail
    refine HD2.out.mono ?_
    rintro e w5 ⟨rfl, g5⟩
    have P5 := Lib.hid (P4.out.grow g5)
    have HF1 := Lib.hid (fun (W : World) (g : w5.grownBy W none) => refPatFault_any p _ W (by omega) (P5.out.grow g).hp.at_)
    have HF2 := Lib.hid (fun (W : World) (g : w5.grownBy W none) => refPatFault_any q _ W (by omega) (P5.out.grow g).hq.at_)
    clear g5 x0 x1 x2 x3 y0 y1 y2 y3 P4 HD2
    have x0 := cell_of_block P5.out.b4 0
    have x1 := cell_of_block P5.out.b4 1
    have x2 := cell_of_block P5.out.b4 2
    have x3 := cell_of_block P5.out.b4 3
    have y0 := cell_of_block P5.out.b5 0
    have y1 := cell_of_block P5.out.b5 1
    have y2 := cell_of_block P5.out.b5 2
    have y3 := cell_of_block P5.out.b5 3
    simp only [List.getElem?_toArray, List.getElem?_cons_zero, List.getElem?_cons_succ] at x0 x1 x2 x3 y0 y1 y2 y3
    obtain ⟨fp, hfp⟩ : ∃ f, patFault p = f := ⟨_, rfl⟩
    obtain ⟨fq, hfq⟩ : ∃ f, patFault q = f := ⟨_, rfl⟩
    rw [hfp] at HF1
    rw [hfq] at HF2
    have HFP := Lib.hid hfp
    have HFQ := Lib.hid hfq
    clear hfp hfq
    obtain ⟨F, hF⟩ : ∃ f, errV [fp, fq] = f := ⟨_, rfl⟩
    have HES : Hid (∀ (W : World) (B : Nat), W.heap[B]? = some (.cells #[.int .i64 fp, .int .i64 fq] 31 (0, 0)) → Calls Tryz.prog 9 #[.slice (some ⟨B, 0, none⟩) 2 2] W fun e w' => e = .returned (.int .i64 F) ∧ W = w') :=
      Lib.hid (fun W B hb => hF ▸ errs_any [fp, fq] _ W ⟨some ⟨B, 0, none⟩, 2, rfl, .inr ⟨B, 0, rfl, fun j u hu => by rw [Nat.zero_add, cell_of_block hb j]; simpa [intC] using hu⟩⟩ (by simp))
    have HFF := Lib.hid hF
    clear hF
    go_upto_region 7 with (fail)
    go_cut [9] (fun v wx => v = .int .i64 F ∧ Hid (w5.grownBy wx none))
    case first =>
      go_region_law (first
        | (have tok := g2; go_simp; go_at_call 9; refine (HES.out _ w7.heap.size (heap_alloc_new w7 _)).mono ?_; rintro e w8 ⟨rfl, rfl⟩)
        | (have tok := g1; go_simp; go_at_call 10; refine (HF2.out _ (by repeat (first | exact g1 | apply grow_drew))).mono ?_; rintro e w7 ⟨rfl, g2d⟩; have g2 : w6.grownBy w7 none := (by first | exact g2d | exact grow_undrew g2d | exact grow_undrew (grow_undrew g2d)); clear g2d)
        | (go_simp; go_at_call 10; refine (HF1.out _ (by repeat (first | exact grow_self _ | apply grow_drew))).mono ?_; rintro e w6 ⟨rfl, g1d⟩; have g1 : w5.grownBy w6 none := (by first | exact g1d | exact grow_undrew g1d | exact grow_undrew (grow_undrew g1d)); have z0 := cell_grown y0 g1; have z1 := cell_grown y1 g1; have z2 := cell_grown y2 g1; have z3 := cell_grown y3 g1; clear g1d))
      all_goals (go_wp2_with fail; go_meet)
      all_goals exact ⟨rfl, Lib.hid (by repeat (first | exact grownBy_trans g1 g2 | apply grow_drew | apply grow_alloc))⟩
    case rest =>
      obtain ⟨rfl, HG5⟩ := hcut
      obtain ⟨w9, rfl⟩ : ∃ v : World, v = wc := ⟨_, rfl⟩
      clear HF1 HF2 HES
      by_cases hz : F = 0
      · subst hz
        have hpq := errV_zero p q (by rw [HFP.out, HFQ.out]; exact HFF.out)
        have hgl := glue p q hpq.1 hpq.2
        rw [HRD.out] at hgl
        have HDO := Lib.hid (differOf_all p q _ _ w9 (right_fault p hpq.1) (right_fault q hpq.2) (by omega) (by omega) (P5.out.grow HG5.out).hp.at_ (P5.out.grow HG5.out).hq.at_)
        obtain ⟨rr, hrr⟩ : ∃ r, rdiffer p q = r := ⟨_, rfl⟩
        rw [hrr] at hgl HDO
        clear hrr hpq
        obtain ⟨ws, wb, wf⟩ := rr
        have HDO2 : Hid (Calls Tryz.prog 11 #[.agg #[.int .i64 o, .int .i64 l, .int .i64 hi, .slice a n c], .agg #[.int .i64 o2, .int .i64 l2, .int .i64 hi2, .slice a2 n2 c2]] w9 fun e w' => e = .returned (.tuple #[.string ⟨ws.toArray⟩, .bool wb, .int .i64 wf]) ∧ w9.grownBy w' none) := Lib.hid HDO.out
        have P9 := Lib.hid (P5.out.grow HG5.out)
        clear HDO x0 x1 x2 x3 y0 y1 y2 y3 P5 HG5
        have x0 := cell_of_block P9.out.b4 0
        have x1 := cell_of_block P9.out.b4 1
        have x2 := cell_of_block P9.out.b4 2
        have x3 := cell_of_block P9.out.b4 3
        have y0 := cell_of_block P9.out.b5 0
        have y1 := cell_of_block P9.out.b5 1
        have y2 := cell_of_block P9.out.b5 2
        have y3 := cell_of_block P9.out.b5 3
        simp only [List.getElem?_toArray, List.getElem?_cons_zero, List.getElem?_cons_succ] at x0 x1 x2 x3 y0 y1 y2 y3
        by_cases hwf : wf = 0
        · subst hwf
          rw [if_pos rfl] at hgl
          simp only [Prod.mk.injEq] at hgl
          obtain ⟨rfl, rfl, rfl⟩ := hgl
          have HX2 := HX.out
          rw [HX2] at HDO2
          clear HX2
          go_wp2_with fail
          refine HDO2.out.mono ?_
          rintro e w10 ⟨rfl, g10⟩
          have HG10 := Lib.hid (grownBy_trans P9.out.gr g10)
          clear g10
          go_wp2_with fail
          refine (lexed_any _).mono ?_
          rintro e w11 ⟨rfl, g11⟩
          have HG11 := Lib.hid (grownBy_trans HG10.out g11)
          clear g11
          go_wp2_with fail
          go_ret
          exact ⟨rfl, HG11.out⟩
        · rw [if_neg hwf] at hgl
          simp only [Prod.mk.injEq] at hgl
          obtain ⟨rfl, rfl, rfl⟩ := hgl
          obtain rfl : (⟨#[]⟩ : ByteArray) = X := HX.out
          have hwb : (re != 0) = true := by simpa using hwf
          clear hwf
          go_wp2_with fail
          refine HDO2.out.mono ?_
          rintro e w10 ⟨rfl, g10⟩
          have HG10 := Lib.hid (grownBy_trans P9.out.gr g10)
          clear g10
          go_wp2_with fail
          refine (lexed_any _).mono ?_
          rintro e w11 ⟨rfl, g11⟩
          have HG11 := Lib.hid (grownBy_trans HG10.out g11)
          clear g11
          go_wp2_with fail
          go_ret
          exact ⟨rfl, HG11.out⟩
      · have hd := errV_ne p q (by rw [HFP.out, HFQ.out, HFF.out]; exact hz)
        rw [HRD.out, HFP.out, HFQ.out, HFF.out] at hd
        simp only [Prod.mk.injEq] at hd
        obtain ⟨rfl, rfl, rfl⟩ := hd
        obtain rfl : (⟨#[]⟩ : ByteArray) = X := HX.out
        have HG9 := Lib.hid (P5.out.grow HG5.out).gr
        have hzb : (re == 0) = false := by simpa using hz
        have hzc : (re != 0) = true := by simpa using hz
        clear hz x0 x1 x2 x3 y0 y1 y2 y3 P5 HG5
        go_wp2_with fail
        refine (lexed_any _).mono ?_
        rintro e w11 ⟨rfl, g11⟩
        have HG11 := Lib.hid (grownBy_trans HG9.out g11)
        clear g11
        go_wp2_with fail
        go_ret
        exact ⟨rfl, HG11.out⟩
end Go.Proofs.YtplbacfjmajeeaaGreatDoor
