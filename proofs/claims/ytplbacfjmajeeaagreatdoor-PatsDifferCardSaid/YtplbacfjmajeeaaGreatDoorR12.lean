/- A part of the proof of the statement on PatsDiffer: lex.Differ. lex.checked at one mark. lex.(*machine).longest at "aa". lex.(*machine).pieces at "aa". -/
import Derived.Test.YtplbacfjmajeeaaGreatDoorR11
import Derived.Test.YtplbacfjmajeeaaGreatDoorR02
namespace Go.Proofs.YtplbacfjmajeeaaGreatDoor
open Go.RowKit Go.Region

/-- What Differ answers, in plain words. -/
def differ (p q : Pt) : List UInt8 × Bool × Int :=
  if patFault p ≠ 0 then ([], false, patFault p) else if patFault q ≠ 0 then ([], false, patFault q) else
  match allSets [p, q] with
  | none => ([], false, 12)
  | some L => if idxF oneFit (fitsAt [p, q] L) 0 (L.length + 1) = -1 then ([], false, 0) else (textAt L (idxF oneFit (fitsAt [p, q] L) 0 (L.length + 1)).toNat, true, 0)
def DifV (r : List UInt8 × Bool × Int) : Value := .tuple #[sKeyV r.1, .bool r.2.1, .int .i64 r.2.2]

theorem grow_exp {W w1 w2 : World} {bm gd gb : Nat} (g : W.grownBy w1 none) (F : Frm (OldP bm gd gb) w1 w2) (h1 : W.heap.size ≤ bm) (h2 : W.heap.size ≤ gd) (h3 : W.heap.size ≤ gb) : W.grownBy w2 none :=
  ⟨F.os.trans g.os, F.tape.trans g.tape, F.output.trans g.output, Nat.le_trans g.size F.size, fun k hk hr => (F.block k (Nat.lt_of_lt_of_le hk g.size) ⟨by omega, by omega, by omega⟩).trans (g.block k hk hr)⟩
theorem right_fault (p : Pt) (h : patFault p = 0) : Right p := by
  refine right_of_fault p 1 ?_
  unfold patFault at h
  split at h
  · assumption
  · exact h

theorem exp_cases {w2 : World} {bm gd gb most : Nat} {ps : List Pt} {C : Array Value} {e : Ending} {w' : World} (h : ExpPost w2 bm gd gb ps C most e w') :
    Frm (OldP bm gd gb) w2 w' ∧ ((bfs ps most (most + 2) 0 [] = none ∧ e = .returned (.bool false)) ∨ ∃ L, bfs ps most (most + 2) 0 [] = some L ∧ e = .returned (.bool true) ∧
      ∃ bx gm mm sv kv stv svs sts, XSt w2 w' bm bx gm mm gd gb (leavesL ps) (sizes ps) C L sv kv stv svs sts ∧ Links ps L sts ∧ Recs ps w' w2.heap.size L sts.length sts ∧ WsL (bytesL ps).length L ∧ L.length ≤ most) := by
  unfold ExpPost at h
  generalize bfs ps most (most + 2) 0 [] = r at h ⊢
  refine ⟨h.1, ?_⟩
  cases r with
  | none => exact .inl ⟨rfl, h.2⟩
  | some L => exact .inr ⟨L, rfl, h.2⟩

set_option maxHeartbeats 4000000 in
set_option maxRecDepth 100000 in
theorem differ_any (p q : Pt) (v u : Value) (w : World) (hP : leavesL [p, q] ≤ 64) (hN : sizes [p, q] ≤ 10000) (hp : PtAt w p v) (hq : PtAt w q u) :
    Calls Tryz.prog 8 #[v, u] w fun e w' => e = .returned (DifV (differ p q)) ∧ w.grownBy w' none := by
  have hps : p.size ≤ 100000 := by simp only [sizes] at hN; omega
  have hqs : q.size ≤ 100000 := by simp only [sizes] at hN; omega
  have HP := Lib.hid hp
  have HQ := Lib.hid hq
  obtain ⟨o1, l1, h1, as1⟩ := p
  obtain ⟨o2, l2, h2, as2⟩ := q
  obtain ⟨av1, cap1, rfl, _⟩ := hp
  obtain ⟨av2, cap2, rfl, _⟩ := hq
  have hd : Hid (differ (Pt.mk o1 l1 h1 as1) (Pt.mk o2 l2 h2 as2) = differ (Pt.mk o1 l1 h1 as1) (Pt.mk o2 l2 h2 as2)) := Lib.hid rfl
  generalize hpe : Pt.mk o1 l1 h1 as1 = p at hP hN hps HP hd ⊢
  generalize hqe : Pt.mk o2 l2 h2 as2 = q at hP hN hqs HQ hd ⊢
  have HPN := Lib.hid hP
  have HNN := Lib.hid hN
  clear hpe hqe hP hN
  go_enter Tryz.func8, Tryz.ntmps8
  go_wp2_with fail
  have g0 : w.grownBy (((w.alloc (.cells #[.int .i64 o1, .int .i64 l1, .int .i64 h1, .slice av1 as1.length cap1] 28)).alloc (.cells #[.int .i64 o2, .int .i64 l2, .int .i64 h2, .slice av2 as2.length cap2] 28)).alloc (.cells #[.int .i64 o1, .int .i64 l1, .int .i64 h1, .slice av1 as1.length cap1, .int .i64 o2, .int .i64 l2, .int .i64 h2, .slice av2 as2.length cap2] 28)) none := grow_alloc (grow_alloc (World.grownBy_alloc _ _ _) _) _
  have hb1 : (((w.alloc (.cells #[.int .i64 o1, .int .i64 l1, .int .i64 h1, .slice av1 as1.length cap1] 28)).alloc (.cells #[.int .i64 o2, .int .i64 l2, .int .i64 h2, .slice av2 as2.length cap2] 28)).alloc (.cells #[.int .i64 o1, .int .i64 l1, .int .i64 h1, .slice av1 as1.length cap1, .int .i64 o2, .int .i64 l2, .int .i64 h2, .slice av2 as2.length cap2] 28)).heap[w.heap.size]? = some (.cells #[.int .i64 o1, .int .i64 l1, .int .i64 h1, .slice av1 as1.length cap1] 28 (0, 0)) := grow_new (grow_alloc (World.grownBy_alloc _ _ _) _) (heap_alloc_new w _)
  have hb2 : (((w.alloc (.cells #[.int .i64 o1, .int .i64 l1, .int .i64 h1, .slice av1 as1.length cap1] 28)).alloc (.cells #[.int .i64 o2, .int .i64 l2, .int .i64 h2, .slice av2 as2.length cap2] 28)).alloc (.cells #[.int .i64 o1, .int .i64 l1, .int .i64 h1, .slice av1 as1.length cap1, .int .i64 o2, .int .i64 l2, .int .i64 h2, .slice av2 as2.length cap2] 28)).heap[w.heap.size + 1]? = some (.cells #[.int .i64 o2, .int .i64 l2, .int .i64 h2, .slice av2 as2.length cap2] 28 (0, 0)) := grow_new (World.grownBy_alloc _ _ _) (heap_new_at _ _ _ (by simp))
  have hb3 : (((w.alloc (.cells #[.int .i64 o1, .int .i64 l1, .int .i64 h1, .slice av1 as1.length cap1] 28)).alloc (.cells #[.int .i64 o2, .int .i64 l2, .int .i64 h2, .slice av2 as2.length cap2] 28)).alloc (.cells #[.int .i64 o1, .int .i64 l1, .int .i64 h1, .slice av1 as1.length cap1, .int .i64 o2, .int .i64 l2, .int .i64 h2, .slice av2 as2.length cap2] 28)).heap[w.heap.size + 2]? = some (.cells #[.int .i64 o1, .int .i64 l1, .int .i64 h1, .slice av1 as1.length cap1, .int .i64 o2, .int .i64 l2, .int .i64 h2, .slice av2 as2.length cap2] 28 (0, 0)) := heap_new_at _ _ _ (by simp)
  generalize ((w.alloc _).alloc _).alloc _ = w0 at g0 hb1 hb2 hb3 ⊢
  have HG0 := Lib.hid g0
  have HB1 := Lib.hid hb1
  have HB2 := Lib.hid hb2
  have HB3 := Lib.hid hb3
  clear g0 hb1 hb2 hb3
  go_loopw [17] (fun i wr => ∃ j : Nat, j ≤ 2 ∧ i = .int .i64 j ∧ Hid (1 ≤ j → patFault p = 0) ∧ Hid (2 ≤ j → patFault q = 0) ∧ Hid (w0.grownBy wr none)) (fun i _ => 2 - (intOf i).toNat)
  case atStart => exact ⟨0, by omega, rfl, Lib.hid (fun h => by omega), Lib.hid (fun h => by omega), Lib.hid (grow_self _)⟩
  case round =>
    obtain ⟨j, hj, rfl, HF1, HF2, HG⟩ := hrel
    have b3 := grow_new HG.out HB3.out
    have y0 := cell_of_block b3 0
    have y1 := cell_of_block b3 1
    have y2 := cell_of_block b3 2
    have y3 := cell_of_block b3 3
    have y4 := cell_of_block b3 4
    have y5 := cell_of_block b3 5
    have y6 := cell_of_block b3 6
    have y7 := cell_of_block b3 7
    simp only [List.getElem?_toArray, List.getElem?_cons_zero, List.getElem?_cons_succ] at y0 y1 y2 y3 y4 y5 y6 y7
    clear b3
    have hj3 : j = 0 ∨ j = 1 ∨ j = 2 := by omega
    rcases hj3 with rfl | rfl | rfl
    · go_wp2_with fail
      refine (checkPat_any p _ _ hps (PtAt.grow (grow_alloc (grownBy_trans HG0.out HG.out) _) _ _ HP.out)).mono ?_
      rintro e w1 ⟨rfl, g1⟩
      by_cases hz : patFault p = 0
      · rw [hz]
        have HZ := Lib.hid hz
        have HG1 := Lib.hid (grownBy_trans (grow_alloc HG.out _) g1)
        clear hz g1
        go_wp2_with fail
        go_roundw
        case rel => exact ⟨1, by omega, by go_num, Lib.hid (fun _ => HZ.out), Lib.hid (fun h => by omega), HG1⟩
        case measure => simp [intOf]
      · have hz1 : (patFault p != 0) = true := by simpa using hz
        have HZ := Lib.hid hz
        have HG1 := Lib.hid (grownBy_trans (grownBy_trans HG0.out (grow_alloc HG.out _)) g1)
        clear hz g1
        go_wp2_with fail
        go_ret3
        refine ⟨?_, HG1.out⟩
        have : differ p q = ([], false, patFault p) := by unfold differ; rw [if_pos HZ.out]
        rw [this]
        rfl
    · go_wp2_with fail
      refine (checkPat_any q _ _ hqs (PtAt.grow (grow_alloc (grownBy_trans HG0.out HG.out) _) _ _ HQ.out)).mono ?_
      rintro e w1 ⟨rfl, g1⟩
      by_cases hz : patFault q = 0
      · rw [hz]
        have HZ := Lib.hid hz
        have HG1 := Lib.hid (grownBy_trans (grow_alloc HG.out _) g1)
        clear hz g1
        go_wp2_with fail
        go_roundw
        case rel => exact ⟨2, by omega, by go_num, Lib.hid (fun _ => HF1.out (by omega)), Lib.hid (fun h => HZ.out), HG1⟩
        case measure => simp [intOf]
      · have hz1 : (patFault q != 0) = true := by simpa using hz
        have HZ := Lib.hid hz
        have HG1 := Lib.hid (grownBy_trans (grownBy_trans HG0.out (grow_alloc HG.out _)) g1)
        clear hz g1
        go_wp2_with fail
        go_ret3
        refine ⟨?_, HG1.out⟩
        have : differ p q = ([], false, patFault q) := by unfold differ; rw [if_neg (by rw [HF1.out (by omega)]; simp), if_pos HZ.out]
        rw [this]
        rfl
    · have b1 := grow_new HG.out HB1.out
      have b2 := grow_new HG.out HB2.out
      have x0 := cell_of_block b1 0
      have x1 := cell_of_block b1 1
      have x2 := cell_of_block b1 2
      have x3 := cell_of_block b1 3
      have x4 := cell_of_block b2 0
      have x5 := cell_of_block b2 1
      have x6 := cell_of_block b2 2
      have x7 := cell_of_block b2 3
      simp only [List.getElem?_toArray, List.getElem?_cons_zero, List.getElem?_cons_succ] at x0 x1 x2 x3 x4 x5 x6 x7
      clear b1 b2 y0 y1 y2 y3 y4 y5 y6 y7
      have hdp : differ p q = match allSets [p, q] with
        | none => ([], false, 12)
        | some L => if idxF oneFit (fitsAt [p, q] L) 0 (L.length + 1) = -1 then ([], false, 0) else (textAt L (idxF oneFit (fitsAt [p, q] L) 0 (L.length + 1)).toNat, true, 0) := by
        unfold differ
        rw [if_neg (by rw [HF1.out (by omega)]; simp), if_neg (by rw [HF2.out (by omega)]; simp)]
      have HDP := Lib.hid hdp
      have hR : ∀ x ∈ [p, q], Right x := by
        intro x hx
        rcases List.mem_cons.1 hx with rfl | hx
        · exact right_fault _ (HF1.out (by omega))
        · have : x = q := by simpa using hx
          subst this; exact right_fault _ (HF2.out (by omega))
      have HRR := Lib.hid hR
      have HGW := Lib.hid (grownBy_trans HG0.out HG.out)
      clear hdp hR
      go_wp2_with fail
      have hpts : PtsAt (wr.alloc (.cells #[.int .i64 o1, .int .i64 l1, .int .i64 h1, .slice av1 as1.length cap1, .int .i64 o2, .int .i64 l2, .int .i64 h2, .slice av2 as2.length cap2] 28)) [p, q] wr.heap.size 0 := by
        have hb := heap_alloc_new wr (.cells #[.int .i64 o1, .int .i64 l1, .int .i64 h1, .slice av1 as1.length cap1, .int .i64 o2, .int .i64 l2, .int .i64 h2, .slice av2 as2.length cap2] 28)
        exact ⟨⟨_, ⟨_, _, _, _, rfl, cell_of_block hb 0, cell_of_block hb 1, cell_of_block hb 2, cell_of_block hb 3⟩, PtAt.grow (grow_alloc HGW.out _) _ _ HP.out⟩, ⟨_, ⟨_, _, _, _, rfl, cell_of_block hb 4, cell_of_block hb 5, cell_of_block hb 6, cell_of_block hb 7⟩, PtAt.grow (grow_alloc HGW.out _) _ _ HQ.out⟩, trivial⟩
      have HGV := Lib.hid (grow_alloc HGW.out (.cells #[.int .i64 o1, .int .i64 l1, .int .i64 h1, .slice av1 as1.length cap1, .int .i64 o2, .int .i64 l2, .int .i64 h2, .slice av2 as2.length cap2] 28))
      generalize wr.alloc _ = W at hpts HGV ⊢
      refine (newMachine_any [p, q] (some ⟨wr.heap.size, 0, none⟩) 2 W HNN.out HPN.out (by simp) HRR.out (.inr ⟨_, _, rfl, hpts⟩)).mono ?_
      rintro e w3 ⟨rfl, ⟨gn, gr, gd, gb, C, lv, mv, gs, hM, h263⟩, g3⟩
      have HM := Lib.hid hM
      have HG3 := Lib.hid g3
      have H263 := Lib.hid h263
      clear hM g3 h263 hpts x0 x1 x2 x3 x4 x5 x6 x7
      go_wp2_with fail
      refine (explore_any w3 W.heap.size W.heap.size gn gr gd gb 3000 [p, q] C lv mv gs HPN.out HNN.out HRR.out (by omega) HM.out H263.out).mono ?_
      intro e w4 hpo
      obtain ⟨F4, hcs⟩ := exp_cases hpo
      clear hpo
      obtain ⟨_, _, _, od, ob⟩ := HM.out.old
      have HG4 := Lib.hid (grownBy_trans HGV.out (grow_exp HG3.out F4 (Nat.le_refl _) od ob))
      clear F4 od ob
      rcases hcs with ⟨hA0, rfl⟩ | ⟨L, hA0, rfl, bx, gm, mm, sv, kv, stv, svs, sts, hX, hLk, hRc, hWs, hLm⟩
      · have HA := Lib.hid (show allSets [p, q] = none from hA0)
        clear hA0
        go_wp2_with fail
        go_ret3
        refine ⟨?_, HG4.out⟩
        rw [HDP.out, HA.out]
        rfl
      · have HA := Lib.hid (show allSets [p, q] = some L from hA0)
        have HLE := Lib.hid (least_any w3 w4 W.heap.size W.heap.size gn gr gd gb bx gm mm [p, q] C lv mv gs L sv kv stv svs sts (by omega) (by simp) HM.out hX hLk hRc)
        clear hA0 hX hLk hRc hWs
        go_wp2_with fail
        refine HLE.out.mono ?_
        rintro e w5 ⟨g5, h5⟩
        have HG5 := Lib.hid (grownBy_trans HG4.out g5)
        clear g5
        rcases h5 with ⟨h6, rfl⟩ | ⟨k, hk, h6, rfl⟩
        · have H6 := Lib.hid h6
          clear h6
          go_wp2_with fail
          go_ret3
          refine ⟨?_, HG5.out⟩
          rw [HDP.out, HA.out]
          simp only
          rw [if_pos H6.out]
          rfl
        · have H6 := Lib.hid h6
          clear h6
          go_wp2_with fail
          go_ret3
          refine ⟨?_, HG5.out⟩
          rw [HDP.out, HA.out]
          simp only
          rw [if_neg (by rw [H6.out]; omega), H6.out]
          rfl
end Go.Proofs.YtplbacfjmajeeaaGreatDoor
namespace Go.Proofs.YtplbacfjmajeeaaGreatDoor
open Go.RowKit

theorem sets_a : allSets [thePat] = some [⟨[], [0]⟩, ⟨[0], [97]⟩] := by kernel_rfl
theorem lows_a : lowsP [thePat] = [0, 97, 98] := by kernel_rfl
theorem cls_a : cls (bytesL [thePat]) 97 = 1 := by kernel_rfl
theorem maskC_a : posM [⟨[], [0]⟩, ⟨[0], [97]⟩] (maskC [thePat] [⟨[], [0]⟩, ⟨[0], [97]⟩] 0 1) = some 2 := by kernel_rfl
theorem fits_a : fitsAt [thePat] [⟨[], [0]⟩, ⟨[0], [97]⟩] 2 = [0] := by kernel_rfl
theorem can_a : decide (maskOf (canAt [thePat] [⟨[], [0]⟩, ⟨[0], [97]⟩] 2) = 0) = true := by kernel_rfl
theorem right_a : ∀ p ∈ [thePat], Right p := by
  intro p hp
  have : p = thePat := by simpa using hp
  subst this
  exact right_of_fault thePat 1 (by decide)
theorem mkPat1 (w : World) : (Instr.makeSlice 26 (.int .i64 1) (.int .i64 1)).run Tryz.prog w = .ok (.slice (some ⟨w.heap.size, 0, none⟩) 1 1) (w.alloc (.cells #[.int .i64 0, .int .i64 0, .int .i64 0, .slice none 0 0] 28)) := by kernel_rfl

/-- What reading "a" with the machine asks of memory. -/
def LexM (W : World) (bm : Nat) : Prop :=
  ∃ sg sc n0 c0 f2 c2, W.cell? ⟨bm, 263, none⟩ = some (.slice (some ⟨sg, 0, none⟩) 3 sc) ∧ W.cell? ⟨bm, 100, none⟩ = some (.int .i64 1) ∧ W.cell? ⟨sg, 1, none⟩ = some (.slice (some ⟨n0, 0, none⟩) 3 c0) ∧ W.cell? ⟨n0, 1, none⟩ = some (.int .i64 2) ∧
    W.cell? ⟨sg, 10, none⟩ = some (.slice (some ⟨f2, 0, none⟩) 1 c2) ∧ W.cell? ⟨f2, 0, none⟩ = some (.int .i64 0) ∧ W.cell? ⟨sg, 12, none⟩ = some (.bool true)
theorem LexM.grow {W W' : World} {bm : Nat} (h : LexM W bm) (g : W.grownBy W' none) : LexM W' bm := by
  obtain ⟨sg, sc, n0, c0, f2, c2, h1, h2, h3, h4, h5, h6, h7⟩ := h
  exact ⟨sg, sc, n0, c0, f2, c2, cell_grown h1 g, cell_grown h2 g, cell_grown h3 g, cell_grown h4 g, cell_grown h5 g, cell_grown h6 g, cell_grown h7 g⟩

theorem lexM_of {w2 w : World} {base0 bm gn gr gd gb bx gm mm : Nat} {C : Array Value} {lv mv : Value} {gs : List Nat} {sv kv stv : Value} {svs : List Value} {sts : List StV}
    (hM : MacF w2 base0 bm gn gr gd gb [thePat] C lv mv gs) (hX : XSt w2 w bm bx gm mm gd gb (leavesL [thePat]) (sizes [thePat]) C [⟨[], [0]⟩, ⟨[0], [97]⟩] sv kv stv svs sts) (hRc : Recs [thePat] w w2.heap.size [⟨[], [0]⟩, ⟨[0], [97]⟩] sts.length sts) : LexM w bm := by
  obtain ⟨X, hsl⟩ := hX
  have hsl3 : sts.length = 3 := hsl
  obtain ⟨sg, sc, hst, _, hsc⟩ := ownsRow_cell X.str (by omega)
  subst hst
  have cb := cell_of_block X.mch 263
  rw [set_get_self _ _ _ (by rw [hM.csz]; omega), hsl3] at cb
  have cc := cell_of_block X.mch (3 + 97)
  rw [set_get_ne _ _ _ _ (by omega), hM.cc 97 (by omega), cls_a] at cc
  obtain ⟨s0, hs0⟩ : ∃ s, sts[0]? = some s := ⟨_, List.getElem?_eq_getElem (by omega)⟩
  obtain ⟨s2, hs2⟩ : ∃ s, sts[2]? = some s := ⟨_, List.getElem?_eq_getElem (by omega)⟩
  obtain ⟨_, ⟨R, hRl, hR, hRp⟩, _⟩ := hRc 0 s0 (by omega) hs0
  obtain ⟨hf, _, hk⟩ := hRc 2 s2 (by omega) hs2
  have hRl3 : R.length = 3 := by rw [hRl, lows_a]; rfl
  rw [fits_a] at hf
  rw [can_a] at hk
  obtain ⟨_, q1, _, _, _⟩ := stCells_get sts 0 s0 hs0
  obtain ⟨p0, _, p2, _, _⟩ := stCells_get sts 2 s2 hs2
  obtain ⟨n0, c0, hn, _, hnc⟩ := ownsRow_cell hR (by omega)
  obtain ⟨f2, c2, hfv, _, hfc⟩ := ownsRow_cell hf (by simp)
  obtain ⟨r, hr⟩ : ∃ r, R[1]? = some r := ⟨_, List.getElem?_eq_getElem (by omega)⟩
  have hr2 := hRp 1 r hr
  rw [maskC_a] at hr2
  obtain rfl : 2 = r := by simpa using hr2
  rw [hn, hRl3] at q1
  rw [hfv] at p0
  rw [hk] at p2
  refine ⟨sg, sc, n0, c0, f2, c2, cb, cc, hsc _ _ q1, hnc 1 _ (by simp [natCells, hr]), hsc _ _ p0, hfc 0 _ (by simp [natCells]), hsc _ _ p2⟩

set_option maxHeartbeats 1000000 in
set_option maxRecDepth 100000 in
theorem checked_a (B : Nat) (w : World) (hb : w.heap[B]? = some (.cells #[.string ⟨#[97]⟩, .int .i64 1, .int .i64 97, .int .i64 97, .slice none 0 0] 88 (0, 0))) :
    Calls Tryz.prog 49 #[.slice (some ⟨B, 0, none⟩) 1 1] w fun e w' => ∃ bm, e = .returned (.tuple #[.pointer (some ⟨bm, 0, none⟩), .int .i64 0]) ∧ LexM w' bm ∧ w.grownBy w' none := by
  have HB := Lib.hid hb
  have HCM := Lib.hid (checkMarks_a B w hb)
  have hmk := mkPat1
  clear hb
  go_enter Tryz.func49, Tryz.ntmps49
  go_wp2_with fail
  refine HCM.out.mono ?_
  rintro e w1 ⟨rfl, g1⟩
  have b1 := grow_new g1 HB.out
  have HB1 := Lib.hid b1
  have HG1 := Lib.hid g1
  clear b1 g1 HCM HB
  go_wp2_with fail
  refine wp_loop_rounds 2 ?_
  rw [rounds_succ]
  have b2 := grow_new (World.grownBy_alloc w1 (.cells #[.int .i64 0, .int .i64 0, .int .i64 0, .slice none 0 0] 28) none) HB1.out
  have p2 := heap_alloc_new w1 (.cells #[.int .i64 0, .int .i64 0, .int .i64 0, .slice none 0 0] 28)
  have g2 := grow_alloc HG1.out (.cells #[.int .i64 0, .int .i64 0, .int .i64 0, .slice none 0 0] 28)
  have hsz := HG1.out.size
  generalize w1.alloc (.cells #[.int .i64 0, .int .i64 0, .int .i64 0, .slice none 0 0] 28) = w2 at b2 p2 g2 ⊢
  generalize w1.heap.size = Q at hsz p2 ⊢
  have c0 := cell_of_block b2 0
  have c1 := cell_of_block b2 1
  have c2 := cell_of_block b2 2
  have c3 := cell_of_block b2 3
  have c4 := cell_of_block b2 4
  simp only [List.getElem?_toArray, List.getElem?_cons_zero, List.getElem?_cons_succ] at c0 c1 c2 c3 c4
  have P2 := Lib.hid p2
  have G2 := Lib.hid g2
  clear b2 p2 g2 HB1 HG1 hmk
  go_upto_region 8 with (fail)
  have m3 := heap_alloc_new w2 (.cells #[.string ⟨#[97]⟩, .int .i64 1, .int .i64 97, .int .i64 97, .slice none 0 0] 88)
  have p3 := grow_new (World.grownBy_alloc w2 (.cells #[.string ⟨#[97]⟩, .int .i64 1, .int .i64 97, .int .i64 97, .slice none 0 0] 88) none) P2.out
  have g3 := grow_alloc G2.out (.cells #[.string ⟨#[97]⟩, .int .i64 1, .int .i64 97, .int .i64 97, .slice none 0 0] 88)
  generalize w2.alloc _ = w3 at m3 p3 g3 ⊢
  generalize w2.heap.size = M at m3 ⊢
  have d1 := cell_of_block m3 1
  have d2 := cell_of_block m3 2
  have d3 := cell_of_block m3 3
  have d4 := cell_of_block m3 4
  have q0 := cell_of_block p3 0
  have q1 := cell_of_block p3 1
  have q2 := cell_of_block p3 2
  have q3 := cell_of_block p3 3
  simp only [List.getElem?_toArray, List.getElem?_cons_zero, List.getElem?_cons_succ] at d1 d2 d3 d4 q0 q1 q2 q3
  have f0 := free_of_block p3 0
  have f1 := free_of_block p3 1
  have f2 := free_of_block p3 2
  have f3 := free_of_block p3 3
  have P3 := Lib.hid (heap_setCell_self (heap_setCell_self (heap_setCell_self (heap_setCell_self p3 0 (.int .i64 1)) 1 (.int .i64 97)) 2 (.int .i64 97)) 3 (.slice none 0 0))
  simp only [List.setIfInBounds_toArray, List.set_cons_succ, List.set_cons_zero] at P3
  have G3 := Lib.hid (grow_setCell (grow_setCell (grow_setCell (grow_setCell g3 ⟨Q, 0, none⟩ (.int .i64 1) hsz) ⟨Q, 1, none⟩ (.int .i64 97) hsz) ⟨Q, 2, none⟩ (.int .i64 97) hsz) ⟨Q, 3, none⟩ (.slice none 0 0) hsz)
  clear m3 p3 g3 c0 c1 c2 c3 c4 P2 G2
  go_wp2_with fail
  rw [rounds_succ]
  go_wp2_with fail
  generalize (((w3.setCell _ _).setCell _ _).setCell _ _).setCell _ _ = w4 at P3 G3 ⊢
  have e0 := cell_of_block P3.out 0
  have e1 := cell_of_block P3.out 1
  have e2 := cell_of_block P3.out 2
  have e3 := cell_of_block P3.out 3
  simp only [List.getElem?_toArray, List.getElem?_cons_zero, List.getElem?_cons_succ] at e0 e1 e2 e3
  refine (newMachine_any [thePat] (some ⟨Q, 0, none⟩) 1 w4 (by decide) (by decide) (by simp) right_a (.inr ⟨Q, 0, rfl, ⟨_, ⟨_, _, _, _, rfl, e0, e1, e2, e3⟩, thePat_at _⟩, trivial⟩)).mono ?_
  rintro e w5 ⟨rfl, ⟨gn, gr, gd, gb, C, lv, mv, gs, hM, h263⟩, g5⟩
  have HM := Lib.hid hM
  have HG5 := Lib.hid g5
  have H263 := Lib.hid h263
  clear hM g5 h263 e0 e1 e2 e3 P3 d1 d2 d3 d4 q0 q1 q2 q3 f0 f1 f2 f3
  go_wp2_with fail
  refine (explore_any w5 w4.heap.size w4.heap.size gn gr gd gb 3000 [thePat] C lv mv gs (by decide) (by decide) right_a (by omega) HM.out H263.out).mono ?_
  rintro e w6 ⟨F6, hex⟩
  rw [show bfs [thePat] 3000 (3000 + 2) 0 [] = some [⟨[], [0]⟩, ⟨[0], [97]⟩] from sets_a] at hex
  obtain ⟨rfl, bx, gm, mm, sv, kv, stv, svs, sts, hX, hLk, hRc, hWs, hLm⟩ := hex
  obtain ⟨_, _, _, od, ob⟩ := HM.out.old
  have HG6 := Lib.hid (grownBy_trans G3.out (grow_exp HG5.out F6 (Nat.le_refl _) od ob))
  have HLX := Lib.hid (lexM_of HM.out hX hRc)
  clear F6 hX hLk hRc hWs hLm od ob
  go_wp2_with fail
  go_ret2
  exact ⟨_, rfl, HLX.out, HG6.out⟩
end Go.Proofs.YtplbacfjmajeeaaGreatDoor
namespace Go.Proofs.YtplbacfjmajeeaaGreatDoor
open Go.RowKit Go.Region

set_option maxHeartbeats 2000000 in
set_option maxRecDepth 100000 in
theorem longest_0 (bm : Nat) (w : World) (hM : LexM w bm) :
    Calls Tryz.prog 50 #[.pointer (some ⟨bm, 0, none⟩), .string ⟨#[97, 97]⟩, .int .i64 0] w fun e w' => e = .returned (.tuple #[.agg #[.int .i64 0, .int .i64 0, .int .i64 1, .int .i64 1], .bool true]) ∧ w.grownBy w' none := by
  obtain ⟨sg, sc, n0, c0, f2, c2, h1, h2, h3, h4, h5, h6, h7⟩ := hM
  have b1 := World.block_lt_of_cell? w _ h1
  have b2 := World.block_lt_of_cell? w _ h3
  have b3 := World.block_lt_of_cell? w _ h4
  have b4 := World.block_lt_of_cell? w _ h6
  simp only at b1 b2 b3 b4
  have HC := Lib.hid (show w.cell? ⟨bm, 263, none⟩ = some (.slice (some ⟨sg, 0, none⟩) 3 sc) ∧ w.cell? ⟨sg, 12, none⟩ = some (.bool true) from ⟨h1, h7⟩)
  have HD := Lib.hid (And.intro h2 (And.intro h3 (And.intro h4 (And.intro h5 h6))))
  clear h1 h2 h3 h4 h5 h6 h7
  go_enter Tryz.func50, Tryz.ntmps50
  go_upto_region 2 with (fail)
  have r0 := grow_new (World.grownBy_alloc (w.alloc (.cells #[.int .i64 0, .int .i64 0, .int .i64 0, .int .i64 0] 43)) (.cells #[.int .i64 0, .int .i64 0, .int .i64 0, .int .i64 3] 43) none) (heap_alloc_new w (.cells #[.int .i64 0, .int .i64 0, .int .i64 0, .int .i64 0] 43))
  have l0 : ((w.alloc (.cells #[.int .i64 0, .int .i64 0, .int .i64 0, .int .i64 0] 43)).alloc (.cells #[.int .i64 0, .int .i64 0, .int .i64 0, .int .i64 3] 43)).heap[w.heap.size + 1]? = some (.cells #[.int .i64 0, .int .i64 0, .int .i64 0, .int .i64 3] 43 (0, 0)) := heap_new_at _ _ _ (by simp)
  have g0 : w.grownBy ((w.alloc (.cells #[.int .i64 0, .int .i64 0, .int .i64 0, .int .i64 0] 43)).alloc (.cells #[.int .i64 0, .int .i64 0, .int .i64 0, .int .i64 3] 43)) none := grow_alloc (World.grownBy_alloc _ _ _) _
  generalize (w.alloc _).alloc _ = w1 at r0 l0 g0 ⊢
  have h1 := cell_grown HC.out.1 g0
  have h2 := cell_grown HD.out.1 g0
  have h3 := cell_grown HD.out.2.1 g0
  have h4 := cell_grown HD.out.2.2.1 g0
  have h5 := cell_grown HD.out.2.2.2.1 g0
  have h6 := cell_grown HD.out.2.2.2.2 g0
  have hl := lt_of_block l0
  have R0 := Lib.hid r0
  have L0 := Lib.hid l0
  have G0 := Lib.hid g0
  have f0 := free_of_block l0 0
  have f2' := free_of_block l0 2
  have l00 := cell_of_block l0 0
  have l02 := cell_of_block l0 2
  simp only [List.getElem?_toArray, List.getElem?_cons_zero, List.getElem?_cons_succ] at l00 l02
  clear r0 l0 g0
  go_wp2_with fail
  refine wp_loop_rounds 1 ?_
  rw [rounds_succ]
  go_wp2_with fail
  have hby : (⟨#[97, 97]⟩ : ByteArray)[0].toNat = 97 := rfl
  go_region
  clear hby
  go_upto_region 11 with (fail)
  have hlne : w.heap.size ≠ w.heap.size + 1 := by omega
  have L2 := heap_setCell_self (heap_setCell_self (show w1.heap[w.heap.size + 1]? = _ from L0.out) 0 (.int .i64 0)) 2 (.int .i64 1)
  simp only [List.setIfInBounds_toArray, List.set_cons_succ, List.set_cons_zero] at L2
  have R2 : ((w1.setCell ⟨w.heap.size + 1, 0, none⟩ (.int .i64 0)).setCell ⟨w.heap.size + 1, 2, none⟩ (.int .i64 1)).heap[w.heap.size]? = _ := (Below.heap_setCell _ _ _ _ hlne).trans ((Below.heap_setCell _ _ _ _ hlne).trans R0.out)
  have G2 := grow_setCell (grow_setCell G0.out ⟨w.heap.size + 1, 0, none⟩ (.int .i64 0) (by simp)) ⟨w.heap.size + 1, 2, none⟩ (.int .i64 1) (by simp)
  generalize (w1.setCell _ _).setCell _ _ = w2 at L2 R2 G2 ⊢
  have k1 := cell_grown HC.out.1 G2
  have k7 := cell_grown HC.out.2 G2
  have l3 := cell_of_block L2 3
  have fl3 := free_of_block L2 3
  simp only [List.getElem?_toArray, List.getElem?_cons_zero, List.getElem?_cons_succ] at l3
  have HL2 := Lib.hid L2
  have HR2 := Lib.hid R2
  have HG2 := Lib.hid G2
  clear L2 R2 G2 h1 h2 h3 h4 h5 h6 l00 l02 f0 f2' R0 L0 G0 hl
  go_wp2_with fail
  have L4 := heap_setCell_self HL2.out 3 (.int .i64 1)
  simp only [List.setIfInBounds_toArray, List.set_cons_succ, List.set_cons_zero] at L4
  have R4 : (w2.setCell ⟨w.heap.size + 1, 3, none⟩ (.int .i64 1)).heap[w.heap.size]? = _ := (Below.heap_setCell _ _ _ _ hlne).trans HR2.out
  have G4 := grow_setCell HG2.out ⟨w.heap.size + 1, 3, none⟩ (.int .i64 1) (by simp)
  generalize w2.setCell _ _ = w4 at L4 R4 G4 ⊢
  have x0 := cell_of_block L4 0
  have x1 := cell_of_block L4 1
  have x2 := cell_of_block L4 2
  have x3 := cell_of_block L4 3
  have y0 := cell_of_block R4 0
  have y1 := cell_of_block R4 1
  have y2 := cell_of_block R4 2
  have y3 := cell_of_block R4 3
  simp only [List.getElem?_toArray, List.getElem?_cons_zero, List.getElem?_cons_succ] at x0 x1 x2 x3 y0 y1 y2 y3
  have z0 := free_of_block R4 0
  have z1 := free_of_block R4 1
  have z2 := free_of_block R4 2
  have z3 := free_of_block R4 3
  have HR4 := Lib.hid R4
  have HG4 := Lib.hid G4
  clear L4 R4 G4 k1 k7 l3 fl3
  go_region
  all_goals go_wp2_with fail
  all_goals
    have R5 := heap_setCell_self (heap_setCell_self (heap_setCell_self (heap_setCell_self (show w4.heap[w.heap.size]? = _ from HR4.out) 0 (.int .i64 0)) 1 (.int .i64 0)) 2 (.int .i64 1)) 3 (.int .i64 1)
    have G5 := grow_setCell (grow_setCell (grow_setCell (grow_setCell HG4.out ⟨w.heap.size, 0, none⟩ (.int .i64 0) (by simp)) ⟨w.heap.size, 1, none⟩ (.int .i64 0) (by simp)) ⟨w.heap.size, 2, none⟩ (.int .i64 1) (by simp)) ⟨w.heap.size, 3, none⟩ (.int .i64 1) (by simp)
    simp only [List.setIfInBounds_toArray, List.set_cons_succ, List.set_cons_zero] at R5
    generalize (((w4.setCell _ _).setCell _ _).setCell _ _).setCell _ _ = w5 at R5 G5 ⊢
    have u0 := cell_of_block R5 0
    have u1 := cell_of_block R5 1
    have u2 := cell_of_block R5 2
    have u3 := cell_of_block R5 3
    simp only [List.getElem?_toArray, List.getElem?_cons_zero, List.getElem?_cons_succ] at u0 u1 u2 u3
    exact bodyPost_ret (v := .tuple #[.agg #[.int .i64 0, .int .i64 0, .int .i64 1, .int .i64 1], .bool true]) (by simp [results, Tryz.results50, go_sem, u0, u1, u2, u3]) rfl ⟨rfl, by first | exact G5 | exact grow_drew G5 | exact grow_drew (grow_drew G5)⟩
set_option maxHeartbeats 2000000 in
set_option maxRecDepth 100000 in
theorem longest_1 (bm : Nat) (w : World) (hM : LexM w bm) :
    Calls Tryz.prog 50 #[.pointer (some ⟨bm, 0, none⟩), .string ⟨#[97, 97]⟩, .int .i64 1] w fun e w' => e = .returned (.tuple #[.agg #[.int .i64 0, .int .i64 1, .int .i64 1, .int .i64 1], .bool true]) ∧ w.grownBy w' none := by
  obtain ⟨sg, sc, n0, c0, f2, c2, h1, h2, h3, h4, h5, h6, h7⟩ := hM
  have b1 := World.block_lt_of_cell? w _ h1
  have b2 := World.block_lt_of_cell? w _ h3
  have b3 := World.block_lt_of_cell? w _ h4
  have b4 := World.block_lt_of_cell? w _ h6
  simp only at b1 b2 b3 b4
  have HC := Lib.hid (show w.cell? ⟨bm, 263, none⟩ = some (.slice (some ⟨sg, 0, none⟩) 3 sc) ∧ w.cell? ⟨sg, 12, none⟩ = some (.bool true) from ⟨h1, h7⟩)
  have HD := Lib.hid (And.intro h2 (And.intro h3 (And.intro h4 (And.intro h5 h6))))
  clear h1 h2 h3 h4 h5 h6 h7
  go_enter Tryz.func50, Tryz.ntmps50
  go_upto_region 2 with (fail)
  have r0 := grow_new (World.grownBy_alloc (w.alloc (.cells #[.int .i64 0, .int .i64 0, .int .i64 0, .int .i64 0] 43)) (.cells #[.int .i64 0, .int .i64 1, .int .i64 0, .int .i64 2] 43) none) (heap_alloc_new w (.cells #[.int .i64 0, .int .i64 0, .int .i64 0, .int .i64 0] 43))
  have l0 : ((w.alloc (.cells #[.int .i64 0, .int .i64 0, .int .i64 0, .int .i64 0] 43)).alloc (.cells #[.int .i64 0, .int .i64 1, .int .i64 0, .int .i64 2] 43)).heap[w.heap.size + 1]? = some (.cells #[.int .i64 0, .int .i64 1, .int .i64 0, .int .i64 2] 43 (0, 0)) := heap_new_at _ _ _ (by simp)
  have g0 : w.grownBy ((w.alloc (.cells #[.int .i64 0, .int .i64 0, .int .i64 0, .int .i64 0] 43)).alloc (.cells #[.int .i64 0, .int .i64 1, .int .i64 0, .int .i64 2] 43)) none := grow_alloc (World.grownBy_alloc _ _ _) _
  generalize (w.alloc _).alloc _ = w1 at r0 l0 g0 ⊢
  have h1 := cell_grown HC.out.1 g0
  have h2 := cell_grown HD.out.1 g0
  have h3 := cell_grown HD.out.2.1 g0
  have h4 := cell_grown HD.out.2.2.1 g0
  have h5 := cell_grown HD.out.2.2.2.1 g0
  have h6 := cell_grown HD.out.2.2.2.2 g0
  have hl := lt_of_block l0
  have R0 := Lib.hid r0
  have L0 := Lib.hid l0
  have G0 := Lib.hid g0
  have f0 := free_of_block l0 0
  have f2' := free_of_block l0 2
  have l00 := cell_of_block l0 0
  have l02 := cell_of_block l0 2
  simp only [List.getElem?_toArray, List.getElem?_cons_zero, List.getElem?_cons_succ] at l00 l02
  clear r0 l0 g0
  go_wp2_with fail
  refine wp_loop_rounds 1 ?_
  rw [rounds_succ]
  go_wp2_with fail
  have hby : (⟨#[97, 97]⟩ : ByteArray)[1].toNat = 97 := rfl
  go_region
  clear hby
  go_upto_region 11 with (fail)
  have hlne : w.heap.size ≠ w.heap.size + 1 := by omega
  have L2 := heap_setCell_self (heap_setCell_self (show w1.heap[w.heap.size + 1]? = _ from L0.out) 0 (.int .i64 0)) 2 (.int .i64 1)
  simp only [List.setIfInBounds_toArray, List.set_cons_succ, List.set_cons_zero] at L2
  have R2 : ((w1.setCell ⟨w.heap.size + 1, 0, none⟩ (.int .i64 0)).setCell ⟨w.heap.size + 1, 2, none⟩ (.int .i64 1)).heap[w.heap.size]? = _ := (Below.heap_setCell _ _ _ _ hlne).trans ((Below.heap_setCell _ _ _ _ hlne).trans R0.out)
  have G2 := grow_setCell (grow_setCell G0.out ⟨w.heap.size + 1, 0, none⟩ (.int .i64 0) (by simp)) ⟨w.heap.size + 1, 2, none⟩ (.int .i64 1) (by simp)
  generalize (w1.setCell _ _).setCell _ _ = w2 at L2 R2 G2 ⊢
  have k1 := cell_grown HC.out.1 G2
  have k7 := cell_grown HC.out.2 G2
  have l3 := cell_of_block L2 3
  have fl3 := free_of_block L2 3
  simp only [List.getElem?_toArray, List.getElem?_cons_zero, List.getElem?_cons_succ] at l3
  have HL2 := Lib.hid L2
  have HR2 := Lib.hid R2
  have HG2 := Lib.hid G2
  clear L2 R2 G2 h1 h2 h3 h4 h5 h6 l00 l02 f0 f2' R0 L0 G0 hl
  go_wp2_with fail
  have L4 := heap_setCell_self HL2.out 3 (.int .i64 1)
  simp only [List.setIfInBounds_toArray, List.set_cons_succ, List.set_cons_zero] at L4
  have R4 : (w2.setCell ⟨w.heap.size + 1, 3, none⟩ (.int .i64 1)).heap[w.heap.size]? = _ := (Below.heap_setCell _ _ _ _ hlne).trans HR2.out
  have G4 := grow_setCell HG2.out ⟨w.heap.size + 1, 3, none⟩ (.int .i64 1) (by simp)
  generalize w2.setCell _ _ = w4 at L4 R4 G4 ⊢
  have x0 := cell_of_block L4 0
  have x1 := cell_of_block L4 1
  have x2 := cell_of_block L4 2
  have x3 := cell_of_block L4 3
  have y0 := cell_of_block R4 0
  have y1 := cell_of_block R4 1
  have y2 := cell_of_block R4 2
  have y3 := cell_of_block R4 3
  simp only [List.getElem?_toArray, List.getElem?_cons_zero, List.getElem?_cons_succ] at x0 x1 x2 x3 y0 y1 y2 y3
  have z0 := free_of_block R4 0
  have z1 := free_of_block R4 1
  have z2 := free_of_block R4 2
  have z3 := free_of_block R4 3
  have HR4 := Lib.hid R4
  have HG4 := Lib.hid G4
  clear L4 R4 G4 k1 k7 l3 fl3
  go_region
  all_goals go_wp2_with fail
  all_goals
    have R5 := heap_setCell_self (heap_setCell_self (heap_setCell_self (heap_setCell_self (show w4.heap[w.heap.size]? = _ from HR4.out) 0 (.int .i64 0)) 1 (.int .i64 1)) 2 (.int .i64 1)) 3 (.int .i64 1)
    have G5 := grow_setCell (grow_setCell (grow_setCell (grow_setCell HG4.out ⟨w.heap.size, 0, none⟩ (.int .i64 0) (by simp)) ⟨w.heap.size, 1, none⟩ (.int .i64 1) (by simp)) ⟨w.heap.size, 2, none⟩ (.int .i64 1) (by simp)) ⟨w.heap.size, 3, none⟩ (.int .i64 1) (by simp)
    simp only [List.setIfInBounds_toArray, List.set_cons_succ, List.set_cons_zero] at R5
    generalize (((w4.setCell _ _).setCell _ _).setCell _ _).setCell _ _ = w5 at R5 G5 ⊢
    have u0 := cell_of_block R5 0
    have u1 := cell_of_block R5 1
    have u2 := cell_of_block R5 2
    have u3 := cell_of_block R5 3
    simp only [List.getElem?_toArray, List.getElem?_cons_zero, List.getElem?_cons_succ] at u0 u1 u2 u3
    exact bodyPost_ret (v := .tuple #[.agg #[.int .i64 0, .int .i64 1, .int .i64 1, .int .i64 1], .bool true]) (by simp [results, Tryz.results50, go_sem, u0, u1, u2, u3]) rfl ⟨rfl, by first | exact G5 | exact grow_drew G5 | exact grow_drew (grow_drew G5)⟩
end Go.Proofs.YtplbacfjmajeeaaGreatDoor
namespace Go.Proofs.YtplbacfjmajeeaaGreatDoor
open Go.RowKit Go.Region

theorem info43 : (Tryz.prog.info? 43 /-t:api.Found-/).map (fun i => (i.zero, i.size, i.bytes)) = some (some (.agg #[.int .i64 0, .int .i64 0, .int .i64 0, .int .i64 0]), 4, 32) := by kernel_rfl
def PiecesPost (w : World) (e : Ending) (w' : World) : Prop :=
  ∃ g cap, e = .returned (.tuple #[.slice (some ⟨g, 0, none⟩) 2 cap, .int .i64 0, .int .i64 0]) ∧ w'.ownsRow w.heap.size 43 4 (.slice (some ⟨g, 0, none⟩) 2 cap) 2 [.int .i64 0, .int .i64 0, .int .i64 1, .int .i64 1, .int .i64 0, .int .i64 1, .int .i64 1, .int .i64 1] ∧ w.grownBy w' none
set_option maxHeartbeats 2000000 in
set_option maxRecDepth 100000 in
theorem pieces_a (bm : Nat) (w : World) (hM : LexM w bm) : Calls Tryz.prog 51 #[.pointer (some ⟨bm, 0, none⟩), .string ⟨#[97, 97]⟩] w (PiecesPost w) := by
  obtain ⟨i43, hi, hz0, hz1, hz2⟩ := info_parts info43
  have HI := Lib.hid hi
  have HZ0 := Lib.hid hz0
  have HZ1 := Lib.hid hz1
  have HZ2 := Lib.hid hz2
  have HM := Lib.hid hM
  have HGS := Lib.hid (grow_self w)
  clear hi hz0 hz1 hz2 hM
  go_enter Tryz.func51, Tryz.ntmps51
  go_wp2_with fail
  refine wp_loop_rounds 3 ?_
  rw [rounds_succ]
  go_wp2_with fail
  refine (longest_0 bm w (HM.out.grow HGS.out)).mono ?_
  rintro e wa ⟨rfl, ga⟩
  have F0 := heap_alloc_new wa (.cells #[.int .i64 0, .int .i64 0, .int .i64 1, .int .i64 1] 43)
  have OW0 : Hid (∀ W, w.grownBy W none → W.ownsRow w.heap.size 43 4 (.slice none 0 0) 0 []) := Lib.hid (fun W g => ownsRow_frm (Frm.of_grown g (fun _ _ => True)) (World.ownsRow_nil _ _ _ _) (fun _ _ _ _ => trivial))
  have GA0 := Lib.hid ga
  have GB0 := Lib.hid (grow_alloc ga (.cells #[.int .i64 0, .int .i64 0, .int .i64 1, .int .i64 1] 43))
  have HSZ0 := HGS.out.size
  have HSY0 := ga.size
  clear ga
  go_upto_region 9 with (fail)
  generalize hw0 : wa.alloc (.cells #[.int .i64 0, .int .i64 0, .int .i64 1, .int .i64 1] 43) = wb at F0 GB0 ⊢
  have hs0 : wb.heap.size = wa.heap.size + 1 := by rw [← hw0]; simp
  have HS0 := Lib.hid hs0
  have HSG0 : wa.heap.size < wb.heap.size := by omega
  clear hw0 hs0
  generalize wa.heap.size = f0 at F0 HSY0 HS0 HSG0 ⊢
  have x0 := cell_of_block F0 0
  have x1 := cell_of_block F0 1
  have x2 := cell_of_block F0 2
  have x3 := cell_of_block F0 3
  simp only [List.getElem?_toArray, List.getElem?_cons_zero, List.getElem?_cons_succ] at x0 x1 x2 x3
  have HF0 := Lib.hid F0
  clear F0
  go_wp2_with (at_builtin; refine wpList_append_lies _ rfl _ _ 46 rfl w.heap.size 43 i43 (.agg #[.int .i64 0, .int .i64 0, .int .i64 0, .int .i64 0]) 4 32 Tryz.underlying46 HI.out HZ0.out HZ1.out HZ2.out rfl (by omega) _ 0 [] rfl (OW0.out _ (grow_alloc GB0.out _)) ⟨wb.heap.size, 0, none⟩ 1 1 [.int .i64 0, .int .i64 0, .int .i64 1, .int .i64 1] rfl rfl (cells_new _ _ _) (by simp [Value.oneCell']) (by omega) (by decide) (by omega) (by simp <;> omega) (wb.heap.size + 1) (by simp) ?_; intro g0 cap0 w0c hown hgrow hat hlt; have HO0 := Lib.hid hown; have hgr0 : (wb.alloc (.cells #[.int .i64 0, .int .i64 0, .int .i64 1, .int .i64 1] 43)).grownBy w0c (Value.ownBlock (.slice none 0 0)) := hgrow; have HGR0 := Lib.hid hgr0; have HG0 := Lib.hid (grow_row (grow_alloc (grownBy_trans HGS.out GB0.out) (.cells #[.int .i64 0, .int .i64 0, .int .i64 1, .int .i64 1] 43)) hgr0 (fun r hr => (ownsRow_block (OW0.out _ (grow_alloc GB0.out (.cells #[.int .i64 0, .int .i64 0, .int .i64 1, .int .i64 1] 43))) r hr).1)); have y2 : w0c.cell? ⟨f0, 2, none⟩ = some (.int .i64 1) := hgr0.cell (cell_grown x2 (World.grownBy_alloc wb _ none)) (fun e => by cases e); have HLT0 : g0 < w0c.heap.size := hlt; clear hown hgrow hgr0 hat hlt)
  clear x0 x1 x2 x3 y2
  rw [rounds_succ]
  go_wp2_with fail
  refine (longest_1 bm w0c (HM.out.grow HG0.out)).mono ?_
  rintro e w0ca ⟨rfl, ga⟩
  have F1 := heap_alloc_new w0ca (.cells #[.int .i64 0, .int .i64 1, .int .i64 1, .int .i64 1] 43)
  have OW1 : Hid (∀ W, w0c.grownBy W none → W.ownsRow w.heap.size 43 4 (.slice (some ⟨g0, 0, none⟩) 1 cap0) 1 [.int .i64 0, .int .i64 0, .int .i64 1, .int .i64 1]) := Lib.hid (fun W g => ownsRow_frm (Frm.of_grown g (fun _ _ => True)) (HO0.out) (fun _ _ _ _ => trivial))
  have GA1 := Lib.hid ga
  have GB1 := Lib.hid (grow_alloc ga (.cells #[.int .i64 0, .int .i64 1, .int .i64 1, .int .i64 1] 43))
  have HSZ1 := HG0.out.size
  have HSY1 := ga.size
  clear ga
  go_upto_region 9 with (fail)
  generalize hw1 : w0ca.alloc (.cells #[.int .i64 0, .int .i64 1, .int .i64 1, .int .i64 1] 43) = w0cb at F1 GB1 ⊢
  have hs1 : w0cb.heap.size = w0ca.heap.size + 1 := by rw [← hw1]; simp
  have HS1 := Lib.hid hs1
  have HSG1 : w0ca.heap.size < w0cb.heap.size := by omega
  clear hw1 hs1
  generalize w0ca.heap.size = f1 at F1 HSY1 HS1 HSG1 ⊢
  have x0 := cell_of_block F1 0
  have x1 := cell_of_block F1 1
  have x2 := cell_of_block F1 2
  have x3 := cell_of_block F1 3
  simp only [List.getElem?_toArray, List.getElem?_cons_zero, List.getElem?_cons_succ] at x0 x1 x2 x3
  have HF1 := Lib.hid F1
  clear F1
  go_wp2_with (at_builtin; refine wpList_append_lies _ rfl _ _ 46 rfl w.heap.size 43 i43 (.agg #[.int .i64 0, .int .i64 0, .int .i64 0, .int .i64 0]) 4 32 Tryz.underlying46 HI.out HZ0.out HZ1.out HZ2.out rfl (by omega) _ 1 [.int .i64 0, .int .i64 0, .int .i64 1, .int .i64 1] rfl (OW1.out _ (grow_alloc GB1.out _)) ⟨w0cb.heap.size, 0, none⟩ 1 1 [.int .i64 0, .int .i64 1, .int .i64 1, .int .i64 1] rfl rfl (cells_new _ _ _) (by simp [Value.oneCell']) (by omega) (by decide) (by omega) (by simp <;> omega) (w0cb.heap.size + 1) (by simp) ?_; intro g1 cap1 w1c hown hgrow hat hlt; have HO1 := Lib.hid hown; have hgr1 : (w0cb.alloc (.cells #[.int .i64 0, .int .i64 1, .int .i64 1, .int .i64 1] 43)).grownBy w1c (Value.ownBlock (.slice (some ⟨g0, 0, none⟩) 1 cap0)) := hgrow; have HGR1 := Lib.hid hgr1; have HG1 := Lib.hid (grow_row (grow_alloc (grownBy_trans HG0.out GB1.out) (.cells #[.int .i64 0, .int .i64 1, .int .i64 1, .int .i64 1] 43)) hgr1 (fun r hr => (ownsRow_block (OW1.out _ (grow_alloc GB1.out (.cells #[.int .i64 0, .int .i64 1, .int .i64 1, .int .i64 1] 43))) r hr).1)); have y2 : w1c.cell? ⟨f1, 2, none⟩ = some (.int .i64 1) := hgr1.cell (cell_grown x2 (World.grownBy_alloc w0cb _ none)) (fun e => by (have e2 : f1 = g0 := (by simpa [Value.ownBlock] using e)); omega); have HLT1 : g1 < w1c.heap.size := hlt; clear hown hgrow hgr1 hat hlt)
  clear x0 x1 x2 x3 y2
  rw [rounds_succ]
  go_wp2_with fail
  go_ret3
  exact ⟨g1, cap1, rfl, HO1.out, HG1.out⟩
end Go.Proofs.YtplbacfjmajeeaaGreatDoor
