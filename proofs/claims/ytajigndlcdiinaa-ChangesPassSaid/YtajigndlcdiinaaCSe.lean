/- Package edit's reference: PastOf. -/
import Derived.Test.YtajigndlcdiinaaCSd
import Derived.Deep.RegionHeld3
namespace Go.Proofs.Ytajigndlcdiinaa
open Go.RowKit

theorem pastA_call (n : Int) (a : Option Addr) (c1 : Nat) (es fs : List Ed) (lv va : Value) (b1 b2 : Nat) (w : World) (h : changeFault n es = 0) (g : changeFault n fs = 0) (hE : Eds w a es)
    (hf : w.ownsRow b1 88 2 lv (mixR n es fs).length (letCells (mixR n es fs))) (hb : w.ownsRow b2 4 1 va ((mixRA n es fs).map (·.2)).length (blC ((mixRA n es fs).map (·.2)))) :
    Calls Try.prog 74 #[.int .i64 n, .slice a es.length c1, .agg #[.int .i64 n, lv], va] w (EditsPost (pastRA n es fs) w) := by
  obtain ⟨hn, -, -, -⟩ := right_all h
  have hM := mixTo_right h g
  have eg := gTo_right h
  obtain ⟨nn, rfl⟩ : ∃ nn : Nat, n = (nn : Int) := ⟨n.toNat, by omega⟩
  have el : mixR nn es fs = (mixRA nn es fs).map (·.1) := by unfold mixR mixRA; rw [mixB_true]
  change (mixR (nn : Int) es fs).length ≤ 40000 at hM
  rw [el] at hf hM
  have hc := ownIdx_len (goP es 0) nn true (goP fs 0) ((nn : Int) + 1).toNat 0 0 (Int.le_refl _)
  rw [eg] at hc
  refine (pastR_any nn a c1 es (mixRA nn es fs) lv va b1 b2 w h hE (by rw [List.length_map] at hM; omega) hf hb (mixB_lt true _ _ _ hn.1 _ _) (Nat.le_of_eq hc)).mono ?_
  rintro e w' ⟨o, hp⟩
  have hr := past_ref true (goP es 0) (goP fs 0) nn o ((nn : Int) + 1).toNat
  rw [eg] at hr
  unfold mixRA at hp
  rw [hr] at hp
  exact hp
theorem pastB_call (n : Int) (a : Option Addr) (c1 : Nat) (es fs : List Ed) (lv va : Value) (b1 b2 : Nat) (w : World) (h : changeFault n es = 0) (g : changeFault n fs = 0) (hF : Eds w a fs)
    (hf : w.ownsRow b1 88 2 lv (mixR n es fs).length (letCells (mixR n es fs))) (hb : w.ownsRow b2 4 1 va ((mixRB n es fs).map (·.2)).length (blC ((mixRB n es fs).map (·.2)))) :
    Calls Try.prog 74 #[.int .i64 n, .slice a fs.length c1, .agg #[.int .i64 n, lv], va] w (EditsPost (pastRB n es fs) w) := by
  obtain ⟨hn, -, -, -⟩ := right_all h
  have hM := mixTo_right h g
  have eg := gTo_right g
  obtain ⟨nn, rfl⟩ : ∃ nn : Nat, n = (nn : Int) := ⟨n.toNat, by omega⟩
  have el : mixR nn es fs = (mixRB nn es fs).map (·.1) := by unfold mixR mixRB; rw [mixB_false]
  change (mixR (nn : Int) es fs).length ≤ 40000 at hM
  rw [el] at hf hM
  have hc := ownIdx_len (goP fs 0) nn false (goP es 0) ((nn : Int) + 1).toNat 0 0 (Int.le_refl _)
  rw [eg] at hc
  refine (pastR_any nn a c1 fs (mixRB nn es fs) lv va b1 b2 w g hF (by rw [List.length_map] at hM; omega) hf hb (mixB_lt false _ _ _ hn.1 _ _) (Nat.le_of_eq hc)).mono ?_
  rintro e w' ⟨o, hp⟩
  have hr := past_ref false (goP fs 0) (goP es 0) nn o ((nn : Int) + 1).toNat
  rw [eg] at hr
  unfold mixRB at hp
  rw [hr] at hp
  exact hp
theorem edTo_len (ls : List Let) : ∀ j, j ≤ ls.length → (edTo ls j).2.2.length ≤ j
  | 0, _ => by simp [edTo]
  | j + 1, h => by
    have ih := edTo_len ls j (by omega)
    rw [edTo_succ _ _ (by omega)]
    unfold edStep
    split
    · simp only; omega
    · simp only [closeE]
      split
      · simp; omega
      · omega
theorem editsLen2 (ls : List Let) (n : Int) : (editsOf n ls).length ≤ ls.length + 1 := by
  have h := edTo_len ls ls.length (Nat.le_refl _)
  unfold editsOf closeE
  split
  · simp; omega
  · omega
theorem pastR_len (n : Int) (es fs : List Ed) (h : changeFault n es = 0) (g : changeFault n fs = 0) : (pastRA n es fs).length ≤ 50000 ∧ (pastRB n es fs).length ≤ 50000 := by
  have hM := mixTo_right h g
  have e1 := editsLen2 (pasTo true (goP es 0) (goP fs 0) n 0 0 (n + 1).toNat) (posTo (goP es 0) n 0 0 (n + 1).toNat)
  have e2 := editsLen2 (pasTo false (goP fs 0) (goP es 0) n 0 0 (n + 1).toNat) (posTo (goP fs 0) n 0 0 (n + 1).toNat)
  rw [pasTo_len] at e1 e2
  rw [mixTo_swap_len] at e2
  unfold pastRA pastRB
  omega

set_option maxHeartbeats 4000000 in
set_option maxRecDepth 100000 in
theorem pastOf_any (n : Int) (a b : Option Addr) (c1 c2 : Nat) (es fs : List Ed) (w : World) (hl : es.length ≤ 1000000) (hl2 : fs.length ≤ 1000000) (hE : Eds w a es) (hF : Eds w b fs) (hS : EdsSmall es) (hT : EdsSmall fs) :
    Calls Try.prog 35 #[.int .i64 n, .slice a es.length c1, .slice b fs.length c2] w (PastPost (if pastRE n es fs = 0 then pastRA n es fs else []) (if pastRE n es fs = 0 then pastRB n es fs else []) (pastRE n es fs) w) := by
  have HBF := Lib.hid (bothFault_any n a b c1 c2 es fs w hl hl2 hE hF hS hT)
  by_cases h0 : bothFaultv n es fs = 0
  · obtain ⟨g1, g2⟩ := both_zero h0
    obtain ⟨hn, -, -, -⟩ := right_all g1
    have hM : (mixR n es fs).length ≤ 40000 := mixTo_right g1 g2
    obtain ⟨hA, hB⟩ := pastR_len n es fs g1 g2
    have HRE := Lib.hid (show pastRE n es fs = if (mixR n es fs).length > 20000 then 2 else if manyv (pastRA n es fs).length ≠ 0 then manyv (pastRA n es fs).length else manyv (pastRB n es fs).length by
      unfold pastRE; rw [if_neg (by omega)]; rfl)
    have HMX := Lib.hid (fun (w1 : World) (g : w.grownBy w1 none) => mixedR_any n a b c1 c2 es fs w1 g1 g2 (eds_grown hE g) (eds_grown hF g))
    have HPA := Lib.hid (fun (lv va : Value) (b1 b2 : Nat) (w1 w2 : World) (gg : w.grownBy w1 none) (g : w1.grownBy w2 none) (hf : w1.ownsRow b1 88 2 lv (mixR n es fs).length (letCells (mixR n es fs))) (hb : w1.ownsRow b2 4 1 va ((mixRA n es fs).map (·.2)).length (blC ((mixRA n es fs).map (·.2)))) => pastA_call n a c1 es fs lv va b1 b2 w2 g1 g2 (eds_grown hE (grownBy_trans gg g)) (ownsRow_frm (Frm.of_grown g (fun _ _ => True)) hf (fun _ _ _ _ => trivial)) (ownsRow_frm (Frm.of_grown g (fun _ _ => True)) hb (fun _ _ _ _ => trivial)))
    have HPB := Lib.hid (fun (lv va : Value) (b1 b2 : Nat) (w1 w2 : World) (gg : w.grownBy w1 none) (g : w1.grownBy w2 none) (hf : w1.ownsRow b1 88 2 lv (mixR n es fs).length (letCells (mixR n es fs))) (hb : w1.ownsRow b2 4 1 va ((mixRB n es fs).map (·.2)).length (blC ((mixRB n es fs).map (·.2)))) => pastB_call n b c2 es fs lv va b1 b2 w2 g1 g2 (eds_grown hF (grownBy_trans gg g)) (ownsRow_frm (Frm.of_grown g (fun _ _ => True)) hf (fun _ _ _ _ => trivial)) (ownsRow_frm (Frm.of_grown g (fun _ _ => True)) hb (fun _ _ _ _ => trivial)))
    rw [h0] at HBF
    obtain ⟨P, hP⟩ : ∃ P : Ending → World → Prop, PastPost (if pastRE n es fs = 0 then pastRA n es fs else []) (if pastRE n es fs = 0 then pastRB n es fs else []) (pastRE n es fs) w = P := ⟨_, rfl⟩
    rw [hP]
    have HP := Lib.hid hP
    clear hP hE hF hS hT g1 g2 h0
    unfold MixPost at HMX
    generalize mixR n es fs = M at hM HRE HMX HPA HPB
    generalize (mixRA n es fs).map (·.2) = mA at HMX HPA
    generalize (mixRB n es fs).map (·.2) = mB at HMX HPB
    generalize pastRA n es fs = lA at hA HRE HPA HP
    generalize pastRB n es fs = lB at hB HRE HPB HP
    go_enter Try.func35, Try.ntmps35
    go_wp2_with fail
    refine HBF.out.mono ?_
    rintro e w1 ⟨rfl, g1⟩
    go_wp2_with fail
    refine (HMX.out w1 g1).mono ?_
    rintro e w2 ⟨lv, va, vb, rfl, o1, o2, o3, g2⟩
    have G2 := grownBy_trans g1 g2
    have hs1 := g1.size
    obtain ⟨al, cl, rfl⟩ := ownsRow_slice o1
    have hnb := heap_alloc_new w2 (.cells #[.int .i64 n, .slice al M.length cl] 85)
    have G3 := Lib.hid (grow_alloc G2 (.cells #[.int .i64 n, .slice al M.length cl] 85))
    have HO1 := Lib.hid (o1.alloc (.cells #[.int .i64 n, .slice al M.length cl] 85))
    have HO2 := Lib.hid (o2.alloc (.cells #[.int .i64 n, .slice al M.length cl] 85))
    have HO3 := Lib.hid (o3.alloc (.cells #[.int .i64 n, .slice al M.length cl] 85))
    have hsz2 := G2.size
    clear HBF HMX g1 g2 o1 o2 o3 G2
    have HNIL := Lib.hid (show pastRE n es fs = 2 → ∀ w4, w.grownBy w4 none → P (.returned (.tuple #[.slice none 0 0, .slice none 0 0, .int .i64 2])) w4 from fun h w4 g => HP.out ▸ ⟨_, _, by rw [h], by rw [h, if_neg (by decide)]; exact World.ownsRow_nil _ _ _ _, by rw [h, if_neg (by decide)]; exact World.ownsRow_nil _ _ _ _, g⟩)
    have HFULL := Lib.hid (show pastRE n es fs = 0 → ∀ (x y : Option Addr) (cx cy : Nat) (w4 : World), w4.ownsRow w.heap.size 47 3 (.slice x lA.length cx) lA.length (edCells lA) → w4.ownsRow w.heap.size 47 3 (.slice y lB.length cy) lB.length (edCells lB) → w.grownBy w4 none → P (.returned (.tuple #[.slice x lA.length cx, .slice y lB.length cy, .int .i64 0])) w4 from fun h x y cx cy w4 hx hy g => HP.out ▸ ⟨_, _, by rw [h], by rw [h, if_pos rfl, edC_cells]; exact hx, by rw [h, if_pos rfl, edC_cells]; exact hy, g⟩)
    have k0 := cell_of_block hnb 0
    have k1 := cell_of_block hnb 1
    simp only [List.getElem?_toArray, List.getElem?_cons_zero, List.getElem?_cons_succ] at k0 k1
    by_cases q1 : M.length > 20000
    · have HZ := Lib.hid (HNIL.out (by rw [HRE.out, if_pos q1]) _ G3.out)
      have q1i : (20000 : Int) < (M.length : Int) := by omega
      clear HNIL HFULL HP HRE HPA HPB
      go_wp2_with fail
      exact bodyPost_ret (v := .tuple #[.slice none 0 0, .slice none 0 0, .int .i64 2]) (by simp [results, Try.results35, go_sem]) rfl HZ.out
    · have q1i : decide ((20000 : Int) < (M.length : Int)) = false := by simp; omega
      have hle : M.length ≤ 20000 := by omega
      have HRE2 := Lib.hid (show pastRE n es fs = if manyv lA.length ≠ 0 then manyv lA.length else manyv lB.length by rw [HRE.out, if_neg q1])
      clear q1 HRE
      have HNA := Lib.hid (fun (w5 : World) (g : (w2.alloc (.cells #[.int .i64 n, .slice al M.length cl] 85)).grownBy w5 none) => HPA.out _ _ _ _ _ w5 G3.out g HO1.out HO2.out)
      have HNB := Lib.hid (fun (w5 : World) (g : (w2.alloc (.cells #[.int .i64 n, .slice al M.length cl] 85)).grownBy w5 none) => HPB.out _ _ _ _ _ w5 G3.out g HO1.out HO3.out)
      have HKK := Lib.hid (show ∀ w5, (w2.alloc (.cells #[.int .i64 n, .slice al M.length cl] 85)).grownBy w5 none → w5.cell? ⟨w2.heap.size, 0, none⟩ = some (.int .i64 n) ∧ w5.cell? ⟨w2.heap.size, 1, none⟩ = some (.slice al M.length cl) from fun w5 g => ⟨g.cell k0 (by simp), g.cell k1 (by simp)⟩)
      have HGG := Lib.hid (show ∀ w5, (w2.alloc (.cells #[.int .i64 n, .slice al M.length cl] 85)).grownBy w5 none → w.grownBy w5 none from fun w5 g => grownBy_trans G3.out g)
      have hszW : w.heap.size ≤ (w2.alloc (.cells #[.int .i64 n, .slice al M.length cl] 85)).heap.size := by simp; omega
      clear HPA HPB HO1 HO2 HO3 G3 hnb HP
      go_upto_region 7 with (fail)
      generalize w2.alloc (.cells #[.int .i64 n, .slice al M.length cl] 85) = W at *
      generalize w2.heap.size = B at *
      have kk : W.drew.cell? ⟨B, 0, none⟩ = some (.int .i64 n) ∧ W.drew.cell? ⟨B, 1, none⟩ = some (.slice al M.length cl) := ⟨k0, k1⟩
      go_cut [13, 14] (fun x y wx => ∃ (ax ay : Option Addr) (cx cy : Nat), x = .slice ax lA.length cx ∧ y = .slice ay lB.length cy ∧ Hid (wx.ownsRow w.heap.size 47 3 x lA.length (edCells lA)) ∧ Hid (wx.ownsRow w.heap.size 47 3 y lB.length (edCells lB)) ∧ Hid (w.grownBy wx none))
      case first =>
        go_region_held3 (fun w' => w'.cell? ⟨B, 0, none⟩ = some (.int .i64 n) ∧ w'.cell? ⟨B, 1, none⟩ = some (.slice al M.length cl)) ((first | assumption | exact kk)) (first | (have tok := HNA; clear tok; go_at_call 74; refine (HNA.out _ (grow_drew (grow_self W))).mono ?_; clear HNA; rintro e' w5 ⟨v5, rfl, own5, g5⟩; have G5 := grownBy_trans (grow_drew (grow_self W)) g5; have kk5 := HKK.out w5 G5; have HO5 := Lib.hid own5; have HG5 := Lib.hid G5; clear own5 g5 G5) | (go_at_call 74; refine (HNB.out w5 HG5.out).mono ?_; rintro e' w6 ⟨v6, rfl, own6, g6⟩; have HG6 := Lib.hid (grownBy_trans HG5.out g6); have HO6 := Lib.hid own6; have HO56 := Lib.hid (ownsRow_frm (Frm.of_grown g6 (fun _ _ => True)) HO5.out (fun _ _ _ _ => trivial)); have kk6 := HKK.out w6 HG6.out; clear own6 g6))
        all_goals
          obtain ⟨ax, cx, rfl⟩ := ownsRow_slice HO56.out
          obtain ⟨ay, cy, rfl⟩ := ownsRow_slice HO6.out
          have HX := Lib.hid (ownsRow_base HO56.out (show w.heap.size ≤ W.drew.heap.size from hszW))
          have HY := Lib.hid (ownsRow_base HO6.out (Nat.le_trans hszW HG5.out.size))
          have HG := Lib.hid (HGG.out w6 HG6.out)
          clear HO56 HO6 HO5 HG5 HG6 HGG HNB HKK kk kk5 kk6 k0 k1
          go_wp2_with fail
          go_meet
          exact ⟨ax, ay, cx, cy, rfl, rfl, HX, HY, HG⟩
      case rest =>
        clear HNA HNB HKK HGG kk k0 k1
        obtain ⟨ax, ay, cx, cy, rfl, rfl, HX, HY, HG⟩ := hcut
        obtain ⟨wq, rfl⟩ : ∃ wq : World, wq = wc := ⟨_, rfl⟩
        have g8 := World.grownBy_alloc wq (.cells #[.slice ax lA.length cx, .slice ay lB.length cy] 28) none
        have HG8 := Lib.hid (grownBy_trans HG.out g8)
        have HX8 := Lib.hid (ownsRow_frm (Frm.of_grown g8 (fun _ _ => True)) HX.out (fun _ _ _ _ => trivial))
        have HY8 := Lib.hid (ownsRow_frm (Frm.of_grown g8 (fun _ _ => True)) HY.out (fun _ _ _ _ => trivial))
        have HMA := Lib.hid (fun w8 => manyFault_any ax lA.length cx w8 (by omega))
        have HMB := Lib.hid (fun w8 => manyFault_any ay lB.length cy w8 (by omega))
        clear HX HY HG g8
        by_cases q2 : lA.length > 2000
        · have e2 : manyv lA.length = 2 := by rw [manyv, if_pos q2]
          have HZ := Lib.hid (HNIL.out (by rw [HRE2.out, e2, if_pos (by decide)]) _ HG8.out)
          rw [e2] at HMA
          clear HNIL HFULL HRE2 e2 HX8 HY8 HMB
          go_wp2_with fail
          refine wp_loop_rounds 1 ?_
          rw [rounds_succ]
          go_wp2_with fail
          refine (HMA.out _).mono ?_
          rintro e w9 ⟨rfl, rfl⟩
          go_wp2_with fail
          exact bodyPost_ret (v := .tuple #[.slice none 0 0, .slice none 0 0, .int .i64 2]) (by simp [results, Try.results35, go_sem]) rfl HZ.out
        · have e2 : manyv lA.length = 0 := by rw [manyv, if_neg q2]
          by_cases q3 : lB.length > 2000
          · have e3 : manyv lB.length = 2 := by rw [manyv, if_pos q3]
            have HZ := Lib.hid (HNIL.out (by rw [HRE2.out, e2, e3, if_neg (by decide)]) _ HG8.out)
            rw [e2] at HMA
            rw [e3] at HMB
            clear HNIL HFULL HRE2 e2 e3 HX8 HY8
            go_wp2_with fail
            refine wp_loop_rounds 2 ?_
            rw [rounds_succ]
            go_wp2_with fail
            refine (HMA.out _).mono ?_
            rintro e w9 ⟨rfl, rfl⟩
            go_wp2_with fail
            rw [rounds_succ]
            go_wp2_with fail
            refine (HMB.out _).mono ?_
            rintro e w9 ⟨rfl, rfl⟩
            go_wp2_with fail
            exact bodyPost_ret (v := .tuple #[.slice none 0 0, .slice none 0 0, .int .i64 2]) (by simp [results, Try.results35, go_sem]) rfl HZ.out
          · have e3 : manyv lB.length = 0 := by rw [manyv, if_neg q3]
            have HZ := Lib.hid (HFULL.out (by rw [HRE2.out, e2, e3, if_neg (by decide)]) _ _ _ _ _ HX8.out HY8.out HG8.out)
            rw [e2] at HMA
            rw [e3] at HMB
            clear HNIL HFULL HRE2 e2 e3 HX8 HY8
            go_wp2_with fail
            refine wp_loop_rounds 3 ?_
            rw [rounds_succ]
            go_wp2_with fail
            refine (HMA.out _).mono ?_
            rintro e w9 ⟨rfl, rfl⟩
            go_wp2_with fail
            rw [rounds_succ]
            go_wp2_with fail
            refine (HMB.out _).mono ?_
            rintro e w9 ⟨rfl, rfl⟩
            go_wp2_with fail
            rw [rounds_succ]
            go_wp2_with fail
            exact bodyPost_ret (v := .tuple #[.slice ax lA.length cx, .slice ay lB.length cy, .int .i64 0]) (by simp [results, Try.results35, go_sem]) rfl HZ.out
  · have HRE := Lib.hid (show pastRE n es fs = bothFaultv n es fs by unfold pastRE; rw [if_pos h0])
    have ht : (bothFaultv n es fs == 0) = false := by simpa using h0
    have ht2 : (bothFaultv n es fs != 0) = true := by simpa using h0
    obtain ⟨P, hP⟩ : ∃ P : Ending → World → Prop, PastPost (if pastRE n es fs = 0 then pastRA n es fs else []) (if pastRE n es fs = 0 then pastRB n es fs else []) (pastRE n es fs) w = P := ⟨_, rfl⟩
    rw [hP]
    have HNIL := Lib.hid (show ∀ w4, w.grownBy w4 none → P (.returned (.tuple #[.slice none 0 0, .slice none 0 0, .int .i64 (bothFaultv n es fs)])) w4 from fun w4 g => hP ▸ ⟨_, _, by rw [HRE.out], by rw [HRE.out, if_neg h0]; exact World.ownsRow_nil _ _ _ _, by rw [HRE.out, if_neg h0]; exact World.ownsRow_nil _ _ _ _, g⟩)
    clear hP HRE hE hF hS hT
    generalize bothFaultv n es fs = x at *
    go_enter Try.func35, Try.ntmps35
    go_wp2_with fail
    refine HBF.out.mono ?_
    rintro e w1 ⟨rfl, g1⟩
    have HZ := Lib.hid (HNIL.out w1 g1)
    clear HNIL g1 HBF
    go_wp2_with fail
    exact bodyPost_ret (v := .tuple #[.slice none 0 0, .slice none 0 0, .int .i64 x]) (by simp [results, Try.results35, go_sem]) rfl HZ.out
end Go.Proofs.Ytajigndlcdiinaa
