/- A part of the proof of the statement on PatsDiffer: explore. slices.Reverse of bytes. least: the state that is wanted. least: the string. -/
import Derived.Test.YtplbacfjmajeeaaGreatDoorR10
import Derived.Deep.RegionHeld3
import Derived.Deep.RegionLaw
import Derived.Deep.AppendLies
import Derived.Deep.DeepCutAuto
import Derived.Deep.CutRange
namespace Go.Proofs.YtplbacfjmajeeaaGreatDoor
open Go.RowKit Go.Region

def ExpPost (w2 : World) (bm gd gb : Nat) (ps : List Pt) (C : Array Value) (most : Nat) (e : Ending) (w' : World) : Prop :=
  Frm (OldP bm gd gb) w2 w' ∧
  match bfs ps most (most + 2) 0 [] with
  | none => e = .returned (.bool false)
  | some L => e = .returned (.bool true) ∧ ∃ bx gm mm sv kv stv svs sts, XSt w2 w' bm bx gm mm gd gb (leavesL ps) (sizes ps) C L sv kv stv svs sts ∧ Links ps L sts ∧ Recs ps w' w2.heap.size L sts.length sts ∧ WsL (bytesL ps).length L ∧ L.length ≤ most

/-- Ahead of a state. -/
def OutR (w2 : World) (bm bx gm mm gd gb : Nat) (ps : List Pt) (C : Array Value) (most i : Nat) (w : World) : Prop :=
  ∃ L sv kv stv svs sts, XSt w2 w bm bx gm mm gd gb (leavesL ps) (sizes ps) C L sv kv stv svs sts ∧ Links ps L sts ∧ Recs ps w w2.heap.size L i sts ∧ WsL (bytesL ps).length L ∧ L.length ≤ most ∧ i ≤ L.length + 1 ∧ bfs ps most (most + 2 - i) i L = bfs ps most (most + 2) 0 []

set_option maxHeartbeats 2000000 in
set_option maxRecDepth 100000 in
theorem explore_any (w2 : World) (base0 bm gn gr gd gb most : Nat) (ps : List Pt) (C : Array Value) (lv mv : Value) (gs : List Nat) (hP : leavesL ps ≤ 64) (hN : sizes ps ≤ 10000) (hr : ∀ p ∈ ps, Right p) (hm : most ≤ 10000)
    (hM : MacF w2 base0 bm gn gr gd gb ps C lv mv gs) (h263 : C[263]? = some (.slice none 0 0)) :
    Calls Tryz.prog 40 #[.pointer (some ⟨bm, 0, none⟩), .int .i64 most] w2 (ExpPost w2 bm gd gb ps C most) := by
  have HM := Lib.hid hM
  have HR := Lib.hid hr
  have h2 := cell_of_block hM.mac.blk 2
  rw [hM.mac.c2] at h2
  have hbm := lt_of_block hM.mac.blk
  have hfz := free_of_block hM.mac.blk 263
  clear hM hr
  have hmk : ∀ w : World, (Instr.makeMap 139 none).run Tryz.prog w = .ok (.map (some w.heap.size)) (w.alloc (.map #[] 0)) := fun w => by kernel_rfl
  go_enter Tryz.func40, Tryz.ntmps40
  go_wp2_with fail
  refine (newSet_any bm (leavesL ps) _ hP (cell_grown h2 (World.grownBy_alloc w2 _ none))).mono ?_
  rintro e w1 ⟨rfl, hw1⟩
  have g1 : w2.grownBy w1 none := by rw [← hw1]; exact grow_alloc (World.grownBy_alloc _ _ none) _
  have hmap : StrMap w1 w2.heap.size 0 (fun _ => none) := by rw [← hw1]; exact (strMap_new w2).kept (World.grownBy_alloc _ _ none) (by simp)
  have hset : OwnSet w1 (w2.alloc (.map #[] 0)).heap.size (leavesL ps) 0 := by rw [← hw1]; exact ownSet_new _ _
  rw [show (w2.alloc (.map #[] 0)).heap.size = w2.heap.size + 1 by simp] at hset ⊢
  have hsz1 : w1.heap.size = w2.heap.size + 2 := by rw [← hw1]; simp
  clear hw1
  have bA : ∀ o o2, ((w1.alloc o).alloc o2).heap[bm]? = some (.cells C 136 (0, 0)) := fun o o2 => grow_new (grow_alloc (grow_alloc g1 o) o2) HM.out.mac.blk
  have fA : ∀ o o2, ((w1.alloc o).alloc o2).frozen? ⟨bm, 263, none⟩ = false := fun o o2 => free_of_block (bA o o2) 263
  have cA : ∀ o o2, ((w1.alloc o).alloc o2).cell? ⟨bm, 263, none⟩ = some (.slice none 0 0) := fun o o2 => (cell_of_block (bA o o2) 263).trans h263
  go_wp2_with fail
  have I1 := init1 HM.out g1 hmap hset hsz1
  generalize ((w1.alloc _).alloc _).setCell _ _ = W at I1 ⊢
  have HI1 := Lib.hid I1
  have cB := cell_of_block I1.mch 2
  rw [Array.getElem?_setIfInBounds_ne (by omega), HM.out.mac.c2] at cB
  have hszW := I1.size
  have xB : ∀ o o2, ((W.alloc o).alloc o2).frozen? ⟨w2.heap.size + 2, 1, none⟩ = false := fun o o2 => free_of_block (grow_new (grow_alloc (grow_alloc (grow_self W) o) o2) I1.xb) 1
  have yB : ∀ o o2, ((W.alloc o).alloc o2).cell? ⟨w2.heap.size + 2, 1, none⟩ = some (.slice none 0 0) := fun o o2 => (cell_of_block (grow_new (grow_alloc (grow_alloc (grow_self W) o) o2) I1.xb) 1)
  clear I1 g1 hmap hset hsz1 bA fA cA hfz
  refine (newSet_any bm (leavesL ps) _ hP cB).mono ?_
  rintro e w3 ⟨rfl, rfl⟩
  rw [hszW]
  go_wp2_with fail
  have HX0 := Lib.hid (init3 HI1.out)
  go_loopw [6] (fun i wr => ∃ k : Nat, i = .int .i64 k ∧ OutR w2 bm (w2.heap.size + 2) (w2.heap.size + 1) w2.heap.size gd gb ps C most k wr) (fun i _ => most + 2 - (intOf i).toNat)
  case atStart =>
    refine ⟨0, rfl, [], _, _, _, _, _, ⟨HX0.out, rfl⟩, fun k s hk => by simp at hk, fun i s hi => by omega, fun e he => by simp at he, by simp, by omega, rfl⟩
  case round =>
    obtain ⟨k, rfl, L, sv, kv, stv, svs, sts, ⟨X, hsl⟩, hLk, hRc, hWs, hLm, hkl, hbfs⟩ := hrel
    have hstr := X.str
    obtain ⟨sg, sc, hstv, hsg, hstc⟩ := ownsRow_cell X.str (by omega)
    subst hstv
    obtain ⟨vg, vc, hsv, hvg, hvc⟩ := ownsRow_cell X.set (by have := X.svl; omega)
    subst hsv
    have cb := cell_of_block X.mch 263
    rw [set_get_self _ _ _ (by rw [HM.out.csz]; omega)] at cb
    have x0 := cell_of_block X.xb 0
    have x1 := cell_of_block X.xb 1
    simp only [List.getElem?_toArray, List.getElem?_cons_zero, List.getElem?_cons_succ] at x0 x1
    by_cases hlt : k < sts.length
    · have hkv : k < svs.length := by have := X.svl; omega
      obtain ⟨v, hv⟩ : ∃ v, svs[k]? = some v := ⟨_, List.getElem?_eq_getElem hkv⟩
      obtain ⟨g, c, rfl, hgc⟩ := X.sva k v hv
      have cv := hvc k _ hv
      have hi0 : (0 : Int) ≤ k := by omega
      have hi1 : (k : Int) < svs.length := by omega
      have HX := Lib.hid X
      have HLK := Lib.hid hLk
      have HRC := Lib.hid hRc
      have HWS := Lib.hid hWs
      have HBF := Lib.hid hbfs
      have HSL := Lib.hid hsl
      have HV := Lib.hid hv
      have hsts : sts.length ≤ 100001 := by omega
      have hsvs : svs.length ≤ 100001 := by have := X.svl; omega
      clear X hLk hRc hWs hbfs hsl hgc hstr hstc hvc hv
      go_wp2_with fail
      have hk0 : ((k : Int) == 0) = decide (k = 0) := by rw [Bool.eq_iff_iff]; simp
      rw [hk0]
      obtain ⟨D, hD, hDl⟩ := HX.out.dn
      obtain ⟨B, hB, hBl⟩ := HX.out.bgn
      refine (behind_any bm gn gr gd gb ps _ D B _ (maskAt L k) (decide (k = 0)) wr hP (by omega) HR.out (HX.out.mac HM.out) hD hDl hB hBl HM.out.ne (HX.out.setAt (by have := HSL.out; omega) HV.out)).mono ?_
      rintro e w4 ⟨bo, fv, rfl, hO, hbo, hfv, ⟨D', B', hD', hDl', hB', hBl'⟩, F4⟩
      have X4 := HX.out.behind F4 ⟨D', hD', hDl'⟩ ⟨B', hB', hBl'⟩
      have T4 : Frm T3 wr w4 := F4.mono (fun k hk hp => by obtain ⟨cs, fr, h3⟩ := hp; exact ⟨blk_ne h3 hD (by decide), blk_ne h3 hB (by decide)⟩)
      rw [open_can] at hO
      obtain ⟨cm, hcm⟩ := HX.out.met
      have hgm : bo ≠ w2.heap.size + 1 := by have := lt_of_block hcm.blk; omega
      have R4 : Recs ps w4 w2.heap.size L k sts := fun i s hi hs => (HRC.out i s hi hs).frm T4
      have hfv4 := row_base hfv HX.out.fr.size
      obtain ⟨fa, fc, hfs⟩ := ownsRow_slice hfv
      subst hfs
      have b4 := cell_of_block X4.mch 260
      rw [set_get_ne _ _ _ _ (by omega), HM.out.c5] at b4
      obtain ⟨mva, mvc, hmv⟩ := ownsRow_slice HM.out.mat
      subst hmv
      have hgl : gs.length ≤ 256 := by rw [HM.out.glen]; exact lowsP_le ps
      have hmk := mkInts gs.length (by omega)
      have HX4 := Lib.hid X4
      have HT4 := Lib.hid T4
      have HO4 := Lib.hid hO
      have HR4 := Lib.hid R4
      have HFV := Lib.hid hfv4
      have HGM := Lib.hid hgm
      clear X4 T4 hO R4 hfv hfv4 hgm hcm hbo F4 hD' hB' hDl' hBl' hD hB hDl hBl
      go_wp2_with fail
      have hBO : BytesOk (bytesL ps) := bytesOk_of _ ps (Nat.le_refl _) HR.out
      have IN0 : InR w2 w4 bm (w2.heap.size + 2) (w2.heap.size + 1) w2.heap.size gd gb bo ps C L sts k 0 (w4.alloc (.cells (natCells (List.replicate gs.length 0)).toArray 3)) _ _ _ svs sts :=
        ⟨⟨HX4.out.grow (World.grownBy_alloc _ _ _), HSL.out⟩, HLK.out, HWS.out, ⟨[], by simp⟩, Frm.of_grown (World.grownBy_alloc _ _ _) _, HO4.out.grow (World.grownBy_alloc _ _ none) (by simp)⟩
      have NR0 : NatRow (w4.alloc (.cells (natCells (List.replicate gs.length 0)).toArray 3)) w4.heap.size (List.replicate gs.length 0) := heap_alloc_new w4 _
      have hnx2 := HX4.out.fr.size
      generalize w4.alloc _ = w5 at IN0 NR0 ⊢
      generalize hnx4 : w4.heap.size = nx at NR0 hnx2 ⊢
      have HNX := Lib.hid hnx4
      have HIN0 := Lib.hid IN0
      have HNR0 := Lib.hid NR0
      have HBO := Lib.hid hBO
      clear IN0 NR0 hnx4 hBO b4 hmk
      go_loopw [54] (fun i wq => ∃ (q : Nat) (R : List Nat) (sv' kv' stv' : Value) (svs' : List Value) (sts' : List StV), q ≤ gs.length ∧ i = .int .i64 q ∧ InR w2 w4 bm (w2.heap.size + 2) (w2.heap.size + 1) w2.heap.size gd gb bo ps C L sts k q wq sv' kv' stv' svs' sts' ∧ NatRow wq nx R ∧ Filled ps L k q gs.length R) (fun i _ => gs.length - (intOf i).toNat)
      case atStart => exact ⟨0, _, _, _, _, _, _, Nat.zero_le _, rfl, HIN0.out, HNR0.out, ⟨by simp, fun κ r hκ => by omega⟩⟩
      case round =>
        obtain ⟨q, R, sv', kv', stv', svs', sts', hq, rfl, hI, hN, hF⟩ := hrel
        have HI := Lib.hid hI
        have HN := Lib.hid hN
        have HF := Lib.hid hF
        by_cases hlt2 : q < gs.length
        · have hqn : q < (lowsP ps).length := by rw [HM.out.glen] at hlt2; exact hlt2
          obtain ⟨rq, hR⟩ : ∃ rq, R[q]? = some rq := ⟨_, List.getElem?_eq_getElem (by rw [hF.1]; exact hlt2)⟩
          have hq0 : (0 : Int) ≤ q := by omega
          have hq1 : (q : Int) < gs.length := by omega
          have HRQ := Lib.hid hR
          have hkl2 : k ≤ L.length := by have := HSL.out; omega
          have hpl : (partL ps L k q).length ≤ 100000 := by have := partL_len ps L k q; omega
          clear hI hN hF hR
          go_wp2_with fail
          refine (follow_any w2 _ base0 bm gn gr gd gb (w2.heap.size + 2) (w2.heap.size + 1) w2.heap.size k q (maskOf (canAt ps L k)) ps C lv _ _ gs (partL ps L k q) sv' kv' stv' svs' sts' hP hpl (by omega) HM.out HI.out.x hlt2 hgl HI.out.own.set).mono ?_
          rintro e w6 hfol
          obtain ⟨j, rfl, hpj, F6, sv2, kv2, stv2, svs2, sts2, I6⟩ := follow_step HBO.out HI.out hqn hkl2 HGM.out hfol
          have N6 : NatRow w6 nx R := (F6.block nx (lt_of_block HN.out) ⟨_, _, HN.out⟩).trans HN.out
          have c6 := N6.cell HRQ.out
          have f6 := free_of_block N6 q
          have HI6 := Lib.hid I6
          have HN6 := Lib.hid N6
          have HPJ := Lib.hid hpj
          clear I6 N6 hpj F6 hfol
          go_wp2_with fail
          go_roundw
          case rel =>
            exact ⟨q + 1, _, _, _, _, _, _, by omega, by go_num, HI6.out.nat (by rw [HNX.out]; exact Nat.le_refl _) hnx2 HN6.out (grow_cell q _), HN6.out.set q j, HF.out.step hlt2 HPJ.out (partL_next ps HBO.out L k q hqn HI.out.ws)⟩
          case measure => simp [intOf]; omega
        · obtain rfl : q = gs.length := by omega
          have I7 := HI.out
          have X7 := I7.x.1
          obtain ⟨sg7, sc7, hst7, _, hstc7⟩ := ownsRow_cell X7.str (by have := I7.x.2; omega)
          subst hst7
          obtain ⟨M7, hM7⟩ := I7.pre
          have hk7 : k < sts'.length := by rw [hM7, List.length_append]; omega
          have hk8 : (k : Int) < sts'.length := by omega
          obtain ⟨s7, hs7⟩ : ∃ s7, sts'[k]? = some s7 := ⟨_, List.getElem?_eq_getElem hk7⟩
          have b7 := cell_of_block X7.mch 263
          rw [set_get_self _ _ _ (by rw [HM.out.csz]; omega)] at b7
          have nbs : bm ≠ sg7 := fun e => own_ne_block X7.str X7.mch (by decide) (by rw [e]; rfl)
          have hl7 : sts'.length ≤ 100001 := by have := I7.x.2; have := partL_len ps L k gs.length; omega
          obtain ⟨q0, q1, q2, _, _⟩ := stCells_get sts' k s7 hs7
          have s0 := hstc7 _ _ q0
          have s1 := hstc7 _ _ q1
          have s2 := hstc7 _ _ q2
          clear q0 q1 q2
          have f0 := X7.str.frozenAt (k * 5)
          have f1 := X7.str.frozenAt (k * 5 + 1)
          have f2 := X7.str.frozenAt (k * 5 + 2)
          clear I7 X7 hstc7
          obtain ⟨X8a, T8a⟩ := HI.out.x.1.setSt (by simp) (stCells_set0 sts' k s7 (.slice fa (fitsL ((maskAt L k).testBit ·) (decide (k = 0)) ps 0 0).length fc) hs7)
          obtain ⟨X8, T8b⟩ := X8a.setSt (by simp) (stCells_set1 _ k _ (.slice (some ⟨nx, 0, none⟩) gs.length gs.length) (List.getElem?_set_self hk7))
          rw [List.set_set] at X8
          have T8 := T8a.trans T8b
          have hs8 : (sts'.set k ⟨.slice fa (fitsL ((maskAt L k).testBit ·) (decide (k = 0)) ps 0 0).length fc, .slice (some ⟨nx, 0, none⟩) gs.length gs.length, s7.stuck, s7.frm, s7.cl⟩)[k]? = some _ := List.getElem?_set_self hk7
          go_wp2_with fail
          generalize hw8 : (wr.setCell _ _).setCell _ _ = w8 at X8 T8 ⊢
          have O8 : OwnSet w8 bo (leavesL ps) (maskOf (canAt ps L k)) := by
            rw [← hw8]
            refine ⟨HI.out.own.fits, ?_⟩
            rw [Below.heap_setCell _ _ _ _ (fun e => own_ne_block HI.out.x.1.str HI.out.own.blk (by decide) (by rw [e]; rfl)), Below.heap_setCell _ _ _ _ (fun e => own_ne_block HI.out.x.1.str HI.out.own.blk (by decide) (by rw [e]; rfl))]
            exact HI.out.own.blk
          have b8 := cell_of_block X8.mch 263
          rw [set_get_self _ _ _ (by rw [HM.out.csz]; omega)] at b8
          obtain ⟨_, _, q2, _, _⟩ := stCells_get _ k _ hs8
          obtain ⟨g9, _, he9, _, hc9⟩ := ownsRow_cell X8.str (by simp; omega)
          injection he9 with e1 e2 e3
          clear e2 e3
          injection e1 with e1
          injection e1 with e1
          subst e1
          have s8 := hc9 _ _ q2
          have hst8 := X8.str
          rw [show ∀ x : StV, (sts'.set k x).length = sts'.length from fun x => List.length_set ..] at hst8
          have f8 := hst8.frozenAt (k * 5 + 2)
          clear hst8
          have HSE := Lib.hid (fun (W : World) (g : w8.grownBy W none) => (O8.grow g (by simp)).set)
          have HX8 := Lib.hid X8
          have HT8 := Lib.hid T8
          have HS8 := Lib.hid hs8
          have HS7 := Lib.hid hs7
          have HM7 := Lib.hid hM7
          clear X8 T8 T8a T8b X8a hs8 hs7 hM7 q2 hc9 O8 hw8 b7 s0 s1 s2 f0 f1 f2
          go_region_law (first | (go_simp; go_at_call 73; refine (isEmpty_any _ _ _ _ (HSE.out _ (by repeat (first | exact grow_self _ | apply grow_drew | apply grow_alloc)))).mono ?_; rintro e w9 ⟨rfl, rfl⟩))
          all_goals go_wp2_with fail
          all_goals
            obtain ⟨X9a, T9a⟩ := HX8.out.setSt (by simp) (stCells_set2 _ k _ (decide (maskOf (canAt ps L k) = 0)) HS8.out)
            rw [List.set_set] at X9a
            have X9 := X9a.grow (grow_drew (grow_self _))
            have T9 : Frm T3 wr _ := (HT8.out.trans T9a).drew
            clear X9a T9a
            generalize (w8.setCell _ _).drew = w9 at X9 T9 ⊢
            have b9 := cell_of_block X9.mch 263
            rw [set_get_self _ _ _ (by rw [HM.out.csz]; omega)] at b9
            have HX9 := Lib.hid X9
            have HT9 := Lib.hid T9
            have hl9 : sts'.length = (partL ps L k gs.length).length + 1 := HI.out.x.2
            clear X9 T9
            refine (sets_any bm sts'.length sc7 _ w9 ⟨by omega, by omega⟩ b9).mono ?_
            rintro e w10 ⟨rfl, rfl⟩
            obtain ⟨hl10, hr10⟩ := out_step (w9 := w9) HI.out HM.out.glen (by have := HSL.out; omega) HSL.out HR4.out HFV.out HN.out hnx2 HF.out HS7.out HT9.out
            have HL10 := Lib.hid hl10
            have HR10 := Lib.hid hr10
            have hgrow : growAt ps L k = partL ps L k gs.length := by rw [← partL_all ps HBO.out L k]; congr 1; exact HM.out.glen.symm
            have hbs := bfs_step ps most k L (by have := HSL.out; omega) hLm
            rw [hgrow] at hbs
            have HBS := Lib.hid hbs
            clear hl10 hr10 hgrow hbs b9
            by_cases hbig : most < (partL ps L k gs.length).length
            · have hb1 : (most : Int) < ((sts'.length - 1 : Nat) : Int) := by omega
              go_wp2_with fail
              go_ret
              have hnone : bfs ps most (most + 2) 0 [] = none := by rw [← HBF.out, HBS.out, if_pos hbig]
              refine ⟨HX9.out.fr, ?_⟩
              rw [hnone]
              rfl
            · have hb1 : ¬ (most : Int) < ((sts'.length - 1 : Nat) : Int) := by omega
              have hsm : k ≤ most := by have := HSL.out; omega
              go_wp2_with fail
              go_roundw
              case rel =>
                obtain ⟨M2, hM2⟩ := partL_prefix ps L k gs.length
                exact ⟨k + 1, by go_num, partL ps L k gs.length, _, _, _, _, _, ⟨HX9.out, by simp only [List.length_set]; exact hl9⟩, HL10.out, HR10.out, HI.out.ws, by omega, by have := HSL.out; rw [hM2, List.length_append]; omega, by rw [← HBF.out, HBS.out, if_neg hbig]⟩
              case measure => simp [intOf]; omega
    · have hkk : L.length < k := by omega
      have HX := Lib.hid X
      have HLK := Lib.hid hLk
      have HRC := Lib.hid hRc
      have HWS := Lib.hid hWs
      have HBF := Lib.hid hbfs
      have HSL := Lib.hid hsl
      have hsts : sts.length ≤ 100001 := by omega
      clear X hLk hRc hWs hbfs hsl hstr hstc hvc
      go_wp2_with fail
      go_ret
      have hsome : bfs ps most (most + 2) 0 [] = some L := by rw [← HBF.out, bfs_end ps most k L hkk (by omega)]
      have hke : sts.length = k := by have := HSL.out; omega
      refine ⟨HX.out.fr, ?_⟩
      rw [hsome]
      exact ⟨rfl, _, _, _, _, _, _, _, _, ⟨HX.out, HSL.out⟩, HLK.out, by rw [hke]; exact HRC.out, HWS.out, hLm⟩
end Go.Proofs.YtplbacfjmajeeaaGreatDoor
namespace Go.Proofs.YtplbacfjmajeeaaGreatDoor
open Go.RowKit

theorem row_cell {w : World} {base : Nat} {e : TypeId} {size n g cap m : Nat} {xs : List Value} (h : w.ownsRow base e size (.slice (some ⟨g, 0, none⟩) n cap) m xs) (hn : 0 < m) : ∀ (j : Nat) (u : Value), xs[j]? = some u → w.cell? ⟨g, j, none⟩ = some u := by
  obtain ⟨g', c', he, _, hc⟩ := ownsRow_cell h hn
  injection he with e1 e2 e3
  injection e1 with e1
  injection e1 with e1
  subst e1
  exact hc
theorem grow_drew2 {w w' : World} {r : Option Nat} (g : w.grownBy w' r) : w.grownBy w'.drew r := ⟨g.os, g.tape, g.output, g.size, g.block⟩
/-- some are turned round -/
def Turned (l Y : List UInt8) (j : Nat) : Prop := Y.length = l.length ∧ ∀ i, i < l.length → Y[i]? = if i < j ∨ l.length ≤ i + j then l[l.length - 1 - i]? else l[i]?
theorem Turned.start (l : List UInt8) : Turned l l 0 := ⟨rfl, fun i hi => by rw [if_neg (by omega)]⟩
theorem Turned.done {l Y : List UInt8} {j : Nat} (h : Turned l Y j) (hj : l.length ≤ 2 * j + 1) : Y = l.reverse := by
  apply List.ext_getElem?
  intro i
  rcases Nat.lt_or_ge i l.length with hi | hi
  · rw [h.2 i hi, List.getElem?_reverse hi]
    split
    · rfl
    · congr 1; omega
  · rw [List.getElem?_eq_none (by rw [h.1]; exact hi), List.getElem?_eq_none (by simpa using hi)]
theorem Turned.step {l Y : List UInt8} {j : Nat} {a b : UInt8} (h : Turned l Y j) (hj : 2 * j + 1 < l.length) (ha : Y[j]? = some a) (hb : Y[l.length - 1 - j]? = some b) : Turned l ((Y.set j b).set (l.length - 1 - j) a) (j + 1) := by
  refine ⟨by simp [h.1], fun i hi => ?_⟩
  have h1 := h.2 j (by omega)
  have h2 := h.2 (l.length - 1 - j) (by omega)
  rw [if_neg (by omega), ha] at h1
  rw [if_neg (by omega), hb] at h2
  by_cases e1 : l.length - 1 - j = i
  · rw [e1, List.getElem?_set_self (by simp [h.1]; omega), if_pos (by omega), ← e1, h1]
    congr 1; omega
  · rw [List.getElem?_set_ne e1]
    by_cases e2 : j = i
    · rw [e2, List.getElem?_set_self (by rw [h.1]; omega), if_pos (by omega), ← e2, h2]
    · rw [List.getElem?_set_ne e2, h.2 i hi]
      by_cases e3 : i < j ∨ l.length ≤ i + j
      · rw [if_pos e3, if_pos (by omega)]
      · rw [if_neg e3, if_neg (by omega)]
theorem reverse_nil (w : World) : Calls Tryz.prog 77 #[.slice none 0 0] w fun e w' => e = .returned (.tuple #[]) ∧ w = w' := by
  go_enter Tryz.func77, Tryz.ntmps77
  go_wp2_with fail
  refine wp_loop_rounds 1 ?_
  rw [rounds_succ]
  go_wp2_with fail
  go_end0
  exact ⟨rfl, rfl⟩
set_option maxHeartbeats 2000000 in
theorem reverse_any (w : World) (base g n cap : Nat) (l : List UInt8) (hn : l.length = n) (hm : n ≤ 1000000) (h : w.ownsRow base 5 1 (.slice (some ⟨g, 0, none⟩) n cap) n (byteCells l)) :
    Calls Tryz.prog 77 #[.slice (some ⟨g, 0, none⟩) n cap] w fun e w' => e = .returned (.tuple #[]) ∧ w'.ownsRow base 5 1 (.slice (some ⟨g, 0, none⟩) n cap) n (byteCells l.reverse) ∧ w.grownBy w' (some g) := by
  have H := Lib.hid h
  have HN := Lib.hid hn
  clear h hn
  go_enter Tryz.func77, Tryz.ntmps77
  go_wp2_with fail
  go_loopw [2, 3] (fun i j wr => ∃ (k : Nat) (Y : List UInt8), i = .int .i64 k ∧ j = .int .i64 ((n : Int) - 1 - k) ∧ 2 * k ≤ n + 1 ∧ Hid (Turned l Y k) ∧ Hid (wr.ownsRow base 5 1 (.slice (some ⟨g, 0, none⟩) n cap) n (byteCells Y)) ∧ Hid (w.grownBy wr (some g))) (fun i _ _ => n - (intOf i).toNat)
  case atStart => exact ⟨0, l, rfl, by go_num, by omega, Lib.hid (Turned.start l), H, Lib.hid ⟨rfl, rfl, rfl, Nat.le_refl _, fun _ _ _ => rfl⟩⟩
  case round =>
    obtain ⟨k, Y, rfl, rfl, hk, HT, HO, HG⟩ := hrel
    by_cases hlt : (k : Int) < (n : Int) - 1 - k
    · have hl := HT.out.1
      rw [HN.out] at hl
      obtain ⟨a, ha⟩ : ∃ a, Y[k]? = some a := ⟨_, List.getElem?_eq_getElem (by omega)⟩
      obtain ⟨b, hb⟩ : ∃ b, Y[n - 1 - k]? = some b := ⟨_, List.getElem?_eq_getElem (by omega)⟩
      have hc := row_cell HO.out (by omega)
      have ca := hc k (.int .u8 a.toNat) (by simp [byteCells, ha])
      have cb := hc (n - 1 - k) (.int .u8 b.toNat) (by simp [byteCells, hb])
      have fa := HO.out.frozenAt k
      have fb := HO.out.frozenAt (n - 1 - k)
      obtain ⟨q, hq⟩ : ∃ q, n - 1 - k = q := ⟨_, rfl⟩
      have hqi : (n : Int) - 1 - k = q := by omega
      rw [hq] at cb fb
      have hqk : q ≠ k := by omega
      have hqn : (q : Int) < n := by omega
      have hkn : (k : Int) < n := by omega
      have HA := Lib.hid ha
      have HB := Lib.hid hb
      have HQ := Lib.hid hq
      rw [hqi] at hlt ⊢
      clear hc ha hb hq hl
      go_wp2_with fail
      go_region
      obtain ⟨O1, g1⟩ := HO.out.stored k (.int .u8 b.toNat)
      obtain ⟨O2, g2⟩ := O1.stored q (.int .u8 a.toNat)
      have e1 : ((byteCells Y).set k (.int .u8 b.toNat)).set q (.int .u8 a.toNat) = byteCells ((Y.set k b).set (n - 1 - k) a) := by rw [HQ.out]; simp [byteCells, List.map_set]
      rw [e1] at O2
      have G2 := grownBy_trans (grownBy_trans HG.out g1) g2
      have hst : Turned l ((Y.set k b).set (n - 1 - k) a) (k + 1) := by
        have := HT.out.step (by rw [HN.out]; omega) HA.out (by rw [HN.out]; exact HB.out)
        rw [HN.out] at this; exact this
      have HO2 := Lib.hid O2.drew
      have HG2 := Lib.hid (grow_drew2 G2)
      have HT2 := Lib.hid hst
      clear O1 g1 O2 g2 e1 G2 hst
      go_wp2_with fail
      go_roundw
      case rel => exact ⟨k + 1, _, by go_num, by go_num, by omega, HT2, HO2, HG2⟩
      case measure => simp [intOf]; omega
    · have hd := HT.out.done (by rw [HN.out]; omega)
      subst hd
      go_wp2_with fail
      go_end0
      exact ⟨rfl, HO.out, HG.out⟩
end Go.Proofs.YtplbacfjmajeeaaGreatDoor
namespace Go.Proofs.YtplbacfjmajeeaaGreatDoor
open Go.RowKit

def oneFit (F : List Nat) : Bool := decide (F.length = 1)
theorem one_any (a : Option Addr) (n c : Nat) (w : World) (_ : n ≤ 1000000) : Calls Tryz.prog 42 #[.slice a n c] w fun e w' => e = .returned (.bool (decide (n = 1))) ∧ w = w' := by
  go_enter Tryz.func42, Tryz.ntmps42
  go_wp2_with fail
  go_ret
  refine ⟨?_, rfl⟩
  have : ((n : Int) == 1) = decide (n = 1) := by rw [Bool.eq_iff_iff]; simp; omega
  rw [← this]
  rfl
theorem wanted_any (s : StV) (F : List Nat) (bp base : Nat) (w : World) (hc : w.cell? ⟨bp, 0, none⟩ = some (.func (Fn.func 42) #[] #[])) (hr : w.ownsRow base 3 1 s.fv F.length (natCells F)) (hn : F.length ≤ 1000000) :
    Calls Tryz.prog 76 #[.agg #[s.fv, s.nv, .bool s.stuck, .int .i64 s.frm, .int .i64 s.cl], .pointer (some ⟨bp, 0, none⟩)] w fun e w' => e = .returned (.bool (oneFit F)) ∧ w.grownBy w' none := by
  obtain ⟨a, c, hfv⟩ := ownsRow_slice hr
  obtain ⟨fv, nv, st, fr, cl⟩ := s
  simp only at hfv
  subst hfv
  have h0 : ∀ o, (w.alloc o).cell? ⟨bp, 0, none⟩ = some (.func (Fn.func 42) #[] #[]) := fun o => cell_grown hc (World.grownBy_alloc w o none)
  clear hr hc
  go_enter Tryz.func76, Tryz.ntmps76
  go_wp2_with fail
  refine (one_any _ _ _ _ hn).mono ?_
  rintro e w1 ⟨rfl, rfl⟩
  go_wp2_with fail
  go_ret
  exact ⟨rfl, World.grownBy_alloc w _ none⟩

/-- where the first is that is wanted -/
def idxF (W : List Nat → Bool) (F : Nat → List Nat) : Nat → Nat → Int
  | _, 0 => -1
  | j, n + 1 => if W (F j) = true then (j : Int) else idxF W F (j + 1) n
set_option maxHeartbeats 4000000 in
theorem indexSt_any (sts : List StV) (F : Nat → List Nat) (sg sc bp base : Nat) (w : World) (hl : sts.length ≤ 1000000) (hc : w.cell? ⟨bp, 0, none⟩ = some (.func (Fn.func 42) #[] #[]))
    (hcs : ∀ (j : Nat) (u : Value), (stCells sts)[j]? = some u → w.cell? ⟨sg, j, none⟩ = some u) (hr : ∀ (i : Nat) (s : StV), sts[i]? = some s → (F i).length ≤ 1000000 ∧ w.ownsRow base 3 1 s.fv (F i).length (natCells (F i))) :
    Calls Tryz.prog 75 #[.slice (some ⟨sg, 0, none⟩) sts.length sc, .func (Fn.func 76) #[] #[.pointer (some ⟨bp, 0, none⟩)]] w fun e w' => e = .returned (.int .i64 (idxF oneFit F 0 sts.length)) ∧ w.grownBy w' none := by
  have HC := Lib.hid hc
  have HS := Lib.hid hcs
  have HR := Lib.hid hr
  clear hc hcs hr
  go_enter Tryz.func75, Tryz.ntmps75
  go_wp2_with fail
  go_loopw [8] (fun i wr => ∃ j : Nat, j ≤ sts.length ∧ i = .int .i64 j ∧ Hid (idxF oneFit F 0 sts.length = idxF oneFit F j (sts.length - j)) ∧ w.grownBy wr none) (fun i _ => sts.length - (intOf i).toNat)
  case atStart => exact ⟨0, Nat.zero_le _, rfl, Lib.hid rfl, grow_self w⟩
  case round =>
    obtain ⟨j, hj, rfl, HF, hg⟩ := hrel
    by_cases hlt : j < sts.length
    · obtain ⟨s, hs⟩ : ∃ s, sts[j]? = some s := ⟨_, List.getElem?_eq_getElem hlt⟩
      obtain ⟨q0, q1, q2, q3, q4⟩ := stCells_get sts j s hs
      have c0 := cell_grown (HS.out _ _ q0) hg
      have c1 := cell_grown (HS.out _ _ q1) hg
      have c2 := cell_grown (HS.out _ _ q2) hg
      have c3 := cell_grown (HS.out _ _ q3) hg
      have c4 := cell_grown (HS.out _ _ q4) hg
      obtain ⟨hfl, hfr⟩ := HR.out j s hs
      have hfr2 := ownsRow_frm (Frm.of_grown hg (fun _ _ => True)) hfr (fun _ _ _ _ => trivial)
      have hcb := cell_grown HC.out hg
      have HW := Lib.hid (wanted_any s (F j) bp base wr hcb hfr2 hfl)
      have HF2 := Lib.hid (HF.out.trans (by rw [show sts.length - j = (sts.length - (j + 1)) + 1 by omega, idxF]))
      clear q0 q1 q2 q3 q4 hfr hfr2 hcb HF hs
      by_cases z : oneFit (F j) = true
      · have HF3 := Lib.hid (HF2.out.trans (if_pos z))
        have Z := Lib.hid z
        clear z HF2
        go_wp2_with fail
        refine HW.out.mono ?_
        rw [Z.out]
        rintro e w1 ⟨rfl, g1⟩
        go_wp2_with fail
        go_ret
        exact ⟨ret_i64 (by rw [HF3.out]), grownBy_trans hg g1⟩
      · have z' : oneFit (F j) = false := by simpa using z
        have HF3 := Lib.hid (HF2.out.trans (if_neg z))
        have Z := Lib.hid z'
        clear z z' HF2
        go_wp2_with fail
        refine HW.out.mono ?_
        rw [Z.out]
        rintro e w1 ⟨rfl, g1⟩
        have hg2 := grownBy_trans hg g1
        go_wp2_with fail
        go_roundw
        case rel => exact ⟨j + 1, by omega, by go_num, HF3, hg2⟩
        case measure => simp [intOf]; omega
    · have HE := Lib.hid (show idxF oneFit F j (sts.length - j) = -1 by rw [show sts.length - j = 0 by omega]; rfl)
      go_wp2_with fail
      go_ret
      exact ⟨ret_i64 (by rw [HF.out, HE.out]), hg⟩
end Go.Proofs.YtplbacfjmajeeaaGreatDoor
namespace Go.Proofs.YtplbacfjmajeeaaGreatDoor
open Go.RowKit Go.Region

theorem idxF_cases (W : List Nat → Bool) (F : Nat → List Nat) : ∀ (n j : Nat), (idxF W F j n = -1 ∧ ∀ i, j ≤ i → i < j + n → W (F i) = false) ∨ ∃ k : Nat, j ≤ k ∧ k < j + n ∧ idxF W F j n = k ∧ W (F k) = true ∧ ∀ i, j ≤ i → i < k → W (F i) = false := by
  intro n
  induction n with
  | zero => intro j; exact .inl ⟨rfl, fun i h1 h2 => by omega⟩
  | succ n ih =>
    intro j
    rw [idxF]
    by_cases h : W (F j) = true
    · rw [if_pos h]
      exact .inr ⟨j, Nat.le_refl _, by omega, rfl, h, fun i h1 h2 => by omega⟩
    · have h' : W (F j) = false := by simpa using h
      rw [if_neg h]
      rcases ih (j + 1) with ⟨h1, h2⟩ | ⟨k, h1, h2, h3, h4, h5⟩
      · refine .inl ⟨h1, fun i hi hi2 => ?_⟩
        rcases Nat.eq_or_lt_of_le hi with e | e
        · rw [← e]; exact h'
        · exact h2 i e (by omega)
      · refine .inr ⟨k, by omega, by omega, h3, h4, fun i hi hi2 => ?_⟩
        rcases Nat.eq_or_lt_of_le hi with e | e
        · rw [← e]; exact h'
        · exact h5 i e hi2

/-- What least answers. -/
def LeastPost (ps : List Pt) (L : List En) (w : World) (e : Ending) (w' : World) : Prop :=
  w.grownBy w' none ∧ ((idxF oneFit (fitsAt ps L) 0 (L.length + 1) = -1 ∧ e = .returned (.tuple #[sKeyV [], .bool false])) ∨ ∃ k : Nat, k ≤ L.length ∧ idxF oneFit (fitsAt ps L) 0 (L.length + 1) = k ∧ e = .returned (.tuple #[sKeyV (textAt L k), .bool true]))

set_option maxHeartbeats 4000000 in
set_option maxRecDepth 100000 in
theorem least_any (w2 w : World) (base0 bm gn gr gd gb bx gm mm : Nat) (ps : List Pt) (C : Array Value) (lv mv : Value) (gs : List Nat) (L : List En) (sv kv stv : Value) (svs : List Value) (sts : List StV) (hL : L.length ≤ 100000) (hps : ps.length ≤ 100000)
    (hM : MacF w2 base0 bm gn gr gd gb ps C lv mv gs) (hX : XSt w2 w bm bx gm mm gd gb (leavesL ps) (sizes ps) C L sv kv stv svs sts) (hLk : Links ps L sts) (hRc : Recs ps w w2.heap.size L sts.length sts) :
    Calls Tryz.prog 41 #[.pointer (some ⟨bm, 0, none⟩), .func (Fn.func 42) #[] #[]] w (LeastPost ps L w) := by
  obtain ⟨X, hsl⟩ := hX
  obtain ⟨D2, hD2, _⟩ := hM.dn
  obtain ⟨B2, hB2, _⟩ := hM.bgn
  obtain ⟨sg, sc, hst, _, hsc⟩ := ownsRow_cell X.str (by omega)
  subst hst
  have hlow := ownsRow_frm X.fr hM.low (fun k c _ hk => ⟨blk_ne hk hM.mac.blk (by decide), blk_ne hk hD2 (by decide), blk_ne hk hB2 (by decide)⟩)
  have hlp : 0 < (lowsP ps).length := lows_pos _ 256 (by omega)
  obtain ⟨lg, lc, hlv, _, hlc⟩ := ownsRow_cell hlow hlp
  subst hlv
  have cb := cell_of_block X.mch 263
  rw [set_get_self _ _ _ (by rw [hM.csz]; omega)] at cb
  have cl := cell_of_block X.mch 259
  rw [set_get_ne _ _ _ _ (by omega), hM.c4] at cl
  have hb0 : ∀ o, (w.alloc o).cell? ⟨bm, 263, none⟩ = _ := fun o => cell_grown cb (World.grownBy_alloc w o none)
  have HR := Lib.hid hRc
  have HLK := Lib.hid hLk
  have HSC := Lib.hid hsc
  have HLC := Lib.hid hlc
  have HSL := Lib.hid hsl
  have HCL := Lib.hid cl
  have HCB := Lib.hid cb
  have hsl2 : sts.length ≤ 1000000 := by omega
  have hIX := Lib.hid (fun (W : World) (bp : Nat) (g : w.grownBy W none) (hc : W.cell? ⟨bp, 0, none⟩ = some (.func (Fn.func 42) #[] #[])) => indexSt_any sts (fitsAt ps L) sg sc bp w2.heap.size W hsl2 hc (fun j u hj => cell_grown (hsc j u hj) g)
    (fun i s hs => ⟨by unfold fitsAt; have := fitsL_le ((maskAt L i).testBit ·) (decide (i = 0)) ps 0 0; omega, ownsRow_frm (Frm.of_grown g (fun _ _ => True)) (hRc i s (by
      rcases Nat.lt_or_ge i sts.length with h | h
      · exact h
      · rw [List.getElem?_eq_none h] at hs; cases hs) hs).1 (fun _ _ _ _ => trivial)⟩))
  obtain ⟨i5, hi5, a50, a51, a52⟩ := info_parts info5
  have hcase := idxF_cases oneFit (fitsAt ps L) sts.length 0
  clear hM X hRc hLk hsl hsc hlc hlow hD2 hB2 cl cb
  go_enter Tryz.func41, Tryz.ntmps41
  go_wp2_with fail
  refine (hIX.out _ w.heap.size (World.grownBy_alloc _ _ _) (cell_of_block (heap_alloc_new w _) 0)).mono ?_
  rintro e w1 ⟨rfl, g1'⟩
  have g1 : w.grownBy w1 none := grownBy_trans (World.grownBy_alloc _ _ none) g1'
  clear g1' hb0 hIX
  rcases hcase with ⟨h1, _⟩ | ⟨k, _, hk, h3, _⟩
  · rw [h1]
    have H1 := Lib.hid h1
    clear h1
    go_wp2_with fail
    go_ret2
    exact ⟨g1, .inl ⟨by rw [← HSL.out]; exact H1.out, rfl⟩⟩
  · rw [h3]
    have H3 := Lib.hid h3
    have hk0 : ¬ (k : Int) < 0 := by omega
    have hkL : k ≤ L.length := by have := HSL.out; omega
    have G1 := Lib.hid g1
    clear h3 g1
    go_wp2_with fail
    go_loopw [6, 7] (fun at_ s wr => ∃ (a : Nat) (l : List UInt8), at_ = .int .i64 a ∧ a ≤ L.length ∧ l.length + a ≤ L.length ∧ Hid (textAt L k = textAt L a ++ l.reverse) ∧ Hid (wr.ownsRow w.heap.size 5 1 s l.length (byteCells l)) ∧ Hid (w.grownBy wr none)) (fun at_ _ _ => (intOf at_).toNat)
    case atStart => exact ⟨k, [], rfl, hkL, by simpa using hkL, Lib.hid (by simp), Lib.hid (World.ownsRow_nil _ _ _ _), G1⟩
    case round =>
      obtain ⟨a, l, rfl, ha, hla, HTX, HO, HG⟩ := hrel
      by_cases hz : a = 0
      · have hk2 : textAt L k = l.reverse := by rw [HTX.out, hz]; rfl
        have HK2 := Lib.hid hk2
        have HZ := Lib.hid hz
        have hz2 : ((a : Int) != 0) = false := by subst hz; rfl
        clear hz hk2
        have hl6 : l.length ≤ 1000000 := by omega
        rcases HO.out.2 with ⟨rfl, h0⟩ | ⟨g, cap, cur, rfl, _⟩
        · have hl0 := List.eq_nil_of_length_eq_zero h0
          go_wp2_with fail
          refine (reverse_nil _).mono ?_
          rintro e w4 ⟨rfl, rfl⟩
          have hcv := conv_key (w := wr) (base := 0) (kv := .slice none 0 0) (l := []) (World.ownsRow_nil _ _ _ _)
          go_wp2_with fail
          go_ret2
          refine ⟨HG.out, .inr ⟨k, hkL, by rw [← HSL.out]; exact H3.out, ?_⟩⟩
          rw [HK2.out, hl0]
          rfl
        · go_wp2_with fail
          refine (reverse_any _ w.heap.size g l.length cap l rfl hl6 HO.out).mono ?_
          rintro e w4 ⟨rfl, O4, g4⟩
          have hcv := conv_key (w := w4) (l := l.reverse) (by rw [List.length_reverse]; exact O4)
          have HG4 := Lib.hid (grow_row HG.out g4 (fun k hk => by (have hkk : g = k := (by simpa using hk)); subst hkk; exact (HO.out.lt g rfl).1))
          clear O4 g4
          go_wp2_with fail
          go_ret2
          refine ⟨HG4.out, .inr ⟨k, hkL, by rw [← HSL.out]; exact H3.out, ?_⟩⟩
          rw [HK2.out]
          rfl
      · obtain ⟨b, rfl⟩ : ∃ b, a = b + 1 := ⟨a - 1, by omega⟩
        obtain ⟨s, hs⟩ : ∃ s, sts[b + 1]? = some s := ⟨_, List.getElem?_eq_getElem (by have := HSL.out; omega)⟩
        obtain ⟨hfr, hcl, htx⟩ := HLK.out b s (by omega) hs
        obtain ⟨_, _, _, q3, q4⟩ := stCells_get sts (b + 1) s hs
        have c3 := cell_grown (HSC.out _ _ q3) HG.out
        have c4 := cell_grown (HSC.out _ _ q4) HG.out
        have HC3 := Lib.hid (HSC.out _ _ q3)
        have cb := cell_grown HCB.out HG.out
        have cl := cell_grown HCL.out HG.out
        have cw := cell_grown (HLC.out s.cl (.int .u8 (UInt8.ofNat ((lowsP ps).getD s.cl 0)).toNat) (by
          have : (lows (bytesL ps) 256)[s.cl]? = some ((lowsP ps).getD s.cl 0) := by
            show (lowsP ps)[s.cl]? = _
            rw [List.getElem?_eq_getElem hcl]; simp [List.getD, hcl]
          simp only [byteCells, List.map_map, List.getElem?_map, this, Option.map_some, Function.comp])) HG.out
        obtain ⟨sa, sc2, hsa⟩ := ownsRow_slice HO.out
        subst hsa
        have hn0 : ((b + 1 : Nat) : Int) ≠ 0 := by omega
        have hb1 : ((b + 1 : Nat) : Int) < sts.length := by have := HSL.out; omega
        have hb2 : (0 : Int) ≤ ((b + 1 : Nat) : Int) := by omega
        have hcl1 : (s.cl : Int) < (lows (bytesL ps) 256).length := by have : s.cl < (lows (bytesL ps) 256).length := hcl
                                                                       omega
        have HTT := Lib.hid htx
        have hlow256 : (lows (bytesL ps) 256).length ≤ 256 := lowsP_le ps
        generalize (UInt8.ofNat ((lowsP ps).getD s.cl 0)) = ch at cw HTT
        generalize s.frm = fm at c3 hfr HTT HC3
        generalize s.cl = κ at c4 cw hcl hcl1
        generalize hB1 : b + 1 = a1 at HC3 c3 c4 hn0 hb1 hb2 hla HTX HTT ⊢
        clear q3 q4 hs htx hcl hz ha
        go_wp2_with fail
        go_region_law (refine step_append_lies _ (by rfl) (.tmp 26) (.tmp 41) 111 (by rfl) w.heap.size 5 i5 (.int .u8 0) 1 1 Tryz.underlying111 hi5 a50 a51 a52 rfl (by omega) _ l.length (byteCells l) (by rfl) ((HO.out.alloc _).drew) ⟨wr.heap.size, 0, none⟩ 1 1 [.int .u8 ch.toNat] (by rfl) (by rfl) (World.news_of_block (cs := #[.int .u8 ch.toNat]) (t := 5) (fr := (0, 0)) (heap_alloc_new wr _)) (by simp [Value.oneCell']) (by omega) (by unfold maxLen; omega) (by omega) (by have := HG.out.size; simp; omega) (wr.heap.size + 1) (by simp) ?_; intro gg cap1 w3 hown1 hgrow hat hlt1; have g3 : w.grownBy w3 none := grow_row (grow_drew (grow_alloc HG.out _)) hgrow (fun k hk => (HO.out.lt k hk).1); have b3 := cell_grown HCB.out g3; have s3 := cell_grown HC3.out g3; have HG3 := Lib.hid g3; clear g3 hgrow hat hlt1)
        all_goals
          have HO3 := Lib.hid hown1
          clear hown1
          go_wp2_with fail
          go_roundw
          case rel =>
            refine ⟨fm, l ++ [ch], rfl, by omega, by rw [List.length_append]; simp; omega, Lib.hid ?_, Lib.hid ?_, HG3⟩
            · rw [HTX.out, HTT.out]; simp
            · have := HO3.out
              rw [List.length_append]
              simpa [byteCells] using this
          case measure => simp [intOf]; omega
end Go.Proofs.YtplbacfjmajeeaaGreatDoor
