/- slices.Replace at edits: the walk. -/
import Derived.Test.YtajigndlcdiinaaDTn
namespace Go.Proofs.Ytajigndlcdiinaa
open Go Go.RowKit
attribute [local go_sem] Oper.semAt_some

set_option maxHeartbeats 2000000 in
set_option maxRecDepth 100000 in
theorem replace_any (base : Nat) (sa va : Option Addr) (sc vc n i j m : Nat) (X Y : List Value) (w w0 : World) (hb : Below base w0 w) (hbs : base ≤ w.heap.size) (hs : w.ownsRow base 47 3 (.slice sa n sc) n X) (hv : w.ownsRow base 47 3 (.slice va m vc) m Y)
    (hne : ∀ a b, sa = some a → va = some b → b.block ≠ a.block) (hij : i ≤ j) (hj : j ≤ n) (hn : n ≤ 100000) (hm : m ≤ 100000) (hX : ∀ v ∈ X, v.oneCell' = true) (hY : ∀ v ∈ Y, v.oneCell' = true) :
    Calls Try.prog 83 #[.slice sa n sc, .int .i64 i, .int .i64 j, .slice va m vc] w (RpPost base w0 (i + m + (n - j)) (X.take (i * 3) ++ Y ++ X.drop (j * 3))) := by
  by_cases he : i = j
  · subst he
    have HI := Lib.hid (insert_any base sa va sc vc n i m X Y w w0 hb hbs hs hv hne hj hn hm hX hY)
    have b1 : ((i : Int) == (i : Int)) = true := by simp
    rw [show i + m + (n - i) = n + m by omega]
    obtain ⟨P, hP⟩ : ∃ P, RpPost base w0 (n + m) (X.take (i * 3) ++ Y ++ X.drop (i * 3)) = P := ⟨_, rfl⟩
    rw [hP] at HI ⊢
    have HP := Lib.hid hP
    clear hP
    rcases hs.2 with ⟨hsn, hn0⟩ | ⟨g, cap, cur, hsv, hbg, hg, hnc, hcm, hcs, htk⟩
    · obtain ⟨rfl, rfl, rfl⟩ : sa = none ∧ n = 0 ∧ sc = 0 := by simpa using hsn
      obtain rfl : i = 0 := by omega
      clear hsn hn0 hs hv hX hY hb hne
      go_enter Try.func83, Try.ntmps83
      go_wp2_with fail
      refine (HI.out).mono ?_
      intro e w1 h1
      have H1 := Lib.hid h1
      rw [← HP.out] at h1
      obtain ⟨v', rfl, -⟩ := h1
      go_wp2_with fail
      all_goals first | exact H1.out | (go_ret; exact H1.out)
    · obtain ⟨rfl, rfl⟩ : sa = some ⟨g, 0, none⟩ ∧ sc = cap := by simpa using hsv
      clear hsv hcs htk hs hv hX hY hb hne
      unfold maxLen at hcm
      by_cases hic : i = sc
      · subst hic
        go_enter Try.func83, Try.ntmps83
        go_wp2_with fail
        refine (HI.out).mono ?_
        intro e w1 h1
        have H1 := Lib.hid h1
        rw [← HP.out] at h1
        obtain ⟨v', rfl, -⟩ := h1
        go_wp2_with fail
        all_goals first | exact H1.out | (go_ret; exact H1.out)
      · go_enter Try.func83, Try.ntmps83
        go_wp2_with fail
        refine (HI.out).mono ?_
        intro e w1 h1
        have H1 := Lib.hid h1
        rw [← HP.out] at h1
        obtain ⟨v', rfl, -⟩ := h1
        go_wp2_with fail
        all_goals first | exact H1.out | (go_ret; exact H1.out)
  have b1 : ((i : Int) == (j : Int)) = false := by simp; omega
  obtain ⟨i0, hi0, hz0, hz1, hz2⟩ := info_parts infoEdit
  obtain ⟨Z, hZ⟩ : ∃ Z, X.take (i * 3) ++ Y ++ X.drop (j * 3) = Z := ⟨_, rfl⟩
  rw [hZ]
  obtain ⟨P, hP⟩ : ∃ P, RpPost base w0 (i + m + (n - j)) Z = P := ⟨_, rfl⟩
  rw [hP]
  obtain ⟨g, cap, cur, hsv, hbg, hg, hnc, hcm, hcs, htk⟩ : ∃ g cap cur, Value.slice sa n sc = .slice (some ⟨g, 0, none⟩) n cap ∧ base ≤ g ∧ w.heap[g]? = some (.cells cur 47 (0, 0)) ∧ n ≤ cap ∧ cap ≤ maxLen ∧ cur.size = cap * 3 ∧ cur.toList.take (n * 3) = X := by
    rcases hs.2 with ⟨-, h⟩ | h
    · omega
    · exact h
  obtain ⟨rfl, rfl⟩ : sa = some ⟨g, 0, none⟩ ∧ sc = cap := by simpa using hsv
  obtain ⟨C, rfl⟩ : ∃ C : List Value, cur = C.toArray := ⟨cur.toList, by simp⟩
  simp only [List.size_toArray] at hcs htk
  have hXl := hs.1
  have hYl := hv.1
  have HVC := Lib.hid (show 0 < Y.length → ∃ vb, va = some ⟨vb, 0, none⟩ ∧ vb ≠ g ∧ (∀ j u, Y[j]? = some u → w.cell? ((⟨vb, 0, none⟩ : Addr).add j) = some u) ∧ ∃ vcur, w.heap[vb]? = some (.cells vcur 47 (0, 0)) from fun h => by
    rcases hv.2 with ⟨-, h0⟩ | ⟨vb, cap, vcur, hvv, hvbg, hvg, hvr⟩
    · omega
    · obtain ⟨rfl, rfl⟩ : va = some ⟨vb, 0, none⟩ ∧ vc = cap := by simpa using hvv
      exact ⟨vb, rfl, hne _ _ rfl rfl, hv.cells (g := vb) rfl, vcur, hvg⟩)
  have HSC := Lib.hid (hs.cells (g := g) rfl)
  have HP := Lib.hid hP
  have HZ := Lib.hid hZ
  have HX := Lib.hid hX
  have HY := Lib.hid hY
  have HB := Lib.hid hb
  have HV := Lib.hid hv
  have HCS := Lib.hid hcs
  have HTK := Lib.hid htk
  have hlt : g < w.heap.size := (Array.getElem?_eq_some_iff.1 hg).1
  have hsz : (Try.prog.info? 47).map (·.size) = some 3 := by rw [hi0]; simp [hz1]
  clear hP hZ hX hY hb hs hv hne hsv hcs htk
  unfold maxLen at hcm
  -- what the row is, once it is told by its cells
  have HEND := Lib.hid (show ∀ (k : Nat) (L : List Value) (c : Nat) (w' : World) (g' : Nat), k = i + m + (n - j) → base ≤ g' → w'.heap[g']? = some (.cells L.toArray 47 (0, 0)) → k ≤ c → c ≤ maxLen → L.length = c * 3 → L.take (k * 3) = X.take (i * 3) ++ Y ++ X.drop (j * 3) → Below base w0 w' → P (.returned (.slice (some ⟨g', 0, none⟩) k c)) w' from fun k L c w' g' hk hbg' h1 h2 h3 h4 h5 h6 => by
    rw [← HP.out]
    subst hk
    refine ⟨_, rfl, ⟨?_, .inr ⟨g', c, _, rfl, hbg', h1, h2, h3, by rw [List.size_toArray, h4], ?_⟩⟩, h6⟩
    · rw [← HZ.out]; simp only [List.length_append, List.length_take, List.length_drop]; omega
    · rw [← HZ.out]; exact h5)
  by_cases hjn : j = n
  · subst hjn
    have b2 : ((j : Int) == (j : Int)) = true := by simp
    by_cases hroom : i + m ≤ sc
    · obtain ⟨w1, hr1, hg1, hb1, ho1, hs1⟩ := run_append_spliceK (P := Try.prog) w 28 28 47 i0 3 (by omega) rfl hi0 hz1 g i sc C hg va m vc Y hYl (fun h => by obtain ⟨vb, h1, -, h2, -⟩ := HVC.out h; exact ⟨_, h1, h2⟩) HY.out hroom (by rw [hYl, HCS.out]; omega) base w0 HB.out hbg
      obtain ⟨D, hD⟩ : ∃ D, splice C (i * 3) Y = D := ⟨_, rfl⟩
      rw [hD] at hg1
      have HD := Lib.hid hD
      have HDl := Lib.hid (show D.length = sc * 3 by rw [← hD, length_splice _ _ _ (by rw [hYl, HCS.out]; omega), HCS.out])
      have HDt := Lib.hid (show D.take ((i + m) * 3) = X.take (i * 3) ++ Y by
        rw [← hD, show (i + m) * 3 = i * 3 + Y.length by omega, splice_take2 _ _ _ (by rw [HCS.out]; omega), ← HTK.out, List.take_take]
        congr 2; omega)
      have HB1 := Lib.hid hb1
      clear hD hb1 ho1
      have HE1 := Lib.hid (show X.take (i * 3) ++ Y ++ X.drop (j * 3) = X.take (i * 3) ++ Y by rw [List.drop_eq_nil_of_le (by omega), List.append_nil])
      by_cases hlt2 : i + m < j
      · have b3 : decide ((i : Int) + (m : Int) < (j : Int)) = true := by simp; omega
        have hk : ¬ (sc = i + m) := by omega
        obtain ⟨z1, z2⟩ := zE_cells (j - (i + m))
        go_enter Try.func83, Try.ntmps83
        go_wp2_with (first | (at_builtin; refine Lib.wpList_append_run _ rfl _ _ _ _ rfl _ _ rfl rfl _ _ hr1 ?_) | (refine wpList_clear_spliceK rfl (.tmp 43) 28 rfl 47 zE rfl zero_edit (some ⟨g, (i + m) * 3, none⟩) (j - (i + m)) (sc - (i + m)) rfl g ((i + m) * 3) D 47 hg1 (fun _ => rfl) z2 (by rw [z1, HDl.out]; omega) base w0 HB1.out hbg ?_; intro w2 HG2 hB2; have HB2 := Lib.hid hB2; clear hB2))
        try go_ret
        refine HEND.out (i + m) _ sc w2 g (by omega) hbg HG2.out.1 hroom (by unfold maxLen; omega) (by rw [length_splice _ _ _ (by rw [z1, HDl.out]; omega), HDl.out]) ?_ HB2.out
        rw [splice_take _ _ _ (by rw [HDl.out]; omega), HDt.out, HE1.out]
      · have b3 : decide ((i : Int) + (m : Int) < (j : Int)) = false := by simp; omega
        go_enter Try.func83, Try.ntmps83
        go_wp2_with (at_builtin; refine Lib.wpList_append_run _ rfl _ _ _ _ rfl _ _ rfl rfl _ _ hr1 ?_)
        try go_ret
        exact HEND.out (i + m) D sc w1 g (by omega) hbg hg1 hroom (by unfold maxLen; omega) HDl.out (by rw [HDt.out, HE1.out]) HB1.out
    · obtain ⟨vb, rfl, hvb, hvc, vcur, hvg⟩ := HVC.out (by omega)
      have HVC2 := Lib.hid hvc
      have HOI := Lib.hid (show w.ownsRow base 47 3 (.slice (some ⟨g, 0, none⟩) i sc) i (X.take (i * 3)) from ⟨by rw [List.length_take]; omega, .inr ⟨g, sc, _, rfl, hbg, hg, by omega, by unfold maxLen; omega, by rw [List.size_toArray, HCS.out], by
        show C.take (i * 3) = _
        rw [← HTK.out, List.take_take]; congr 1; omega⟩⟩)
      have b3 : decide ((i : Int) + (m : Int) < (j : Int)) = false := by simp; omega
      have HFIN := Lib.hid (show ∀ v' w', w'.ownsRow base 47 3 v' (i + m) (X.take (i * 3) ++ Y) → w.grownBy w' (Value.slice (some ⟨g, 0, none⟩) i sc).ownBlock → P (.returned v') w' from fun v' w' h1 h2 => by
        rw [← HP.out]
        refine ⟨v', rfl, ?_, below_grown HB.out h2 hbs ?_⟩
        · rw [← HZ.out, List.drop_eq_nil_of_le (by omega), List.append_nil, show i + m + (j - j) = i + m by omega]; exact h1
        · intro b hb
          simp only [Value.ownBlock, Option.some.injEq] at hb; omega)
      clear hvc HVC
      go_enter Try.func83, Try.ntmps83
      go_wp2_with (at_builtin; refine wpList_append_own _ rfl _ _ _ rfl base 47 i0 _ 3 32 rfl hi0 hz0 hz1 hz2 rfl (by omega) _ _ _ rfl HOI.out _ m _ Y rfl hYl HVC2.out HY.out (by unfold maxLen; omega) (by omega) hbs ?_; intro v' w1 own1 g1 _; obtain ⟨ra, rc, rfl⟩ := ownsRow_slice own1; have OWN1 := Lib.hid own1; clear own1)
      all_goals first | exact HFIN.out _ _ OWN1.out g1 | (go_ret; exact HFIN.out _ _ OWN1.out g1)
  have b2 : ((j : Int) == (n : Int)) = false := by simp; omega
  have mixed : Try.prog.follows Departure.mixedOrders = true := by kernel_rfl
  obtain ⟨tot, htot⟩ : ∃ tot : Nat, tot = i + m + (n - j) := ⟨_, rfl⟩
  have ht1 : IntKind.i64.wrap ((i : Int) + (m : Int)) = (i : Int) + (m : Int) := by rw [IntKind.wrap_i64]; omega
  have ht2 : IntKind.i64.wrap ((i : Int) + (m : Int) + ((n - j : Nat) : Int)) = (tot : Int) := by rw [IntKind.wrap_i64]; omega
  have hjn' : (j : Int) ≤ (n : Int) := by omega
  have hin' : (i : Int) ≤ (n : Int) := by omega
  have hcj : ¬ (sc = j) := by omega
  have hci : ¬ (sc = i) := by omega
  have hisc : i ≤ sc := by omega
  have hiscZ : (i : Int) ≤ (sc : Int) := by omega
  obtain ⟨W, hW⟩ : ∃ W, W = w.drew := ⟨_, rfl⟩
  have hgW : W.heap[g]? = some (.cells C.toArray 47 (0, 0)) := by rw [hW]; exact hg
  have HBW := Lib.hid (show Below base w0 W by rw [hW]; exact HB.out.trans ⟨rfl, rfl, rfl, Nat.le_refl _, fun _ _ => rfl⟩)
  have HSW := Lib.hid (show ∀ b : Nat, W.heap[b]? = w.heap[b]? by rw [hW]; exact fun _ => rfl)
  have hWs : W.heap.size = w.heap.size := by rw [hW]; rfl
  by_cases hroom : tot ≤ sc
  · have b3 : decide ((sc : Int) < (tot : Int)) = false := by simp; omega
    by_cases hfit : i + m ≤ j
    · have b4 : decide ((i : Int) + (m : Int) ≤ (j : Int)) = true := by simp; omega
      have hic2 : i < tot := by omega
      have himt : i + m < tot := by omega
      have hct : ¬ (sc = i + m) := by omega
      have htn : ((i : Int) + (m : Int)).toNat = i + m := by omega
      have hb1 : (0 : Int) ≤ (i : Int) + (m : Int) := by omega
      have hb5 : (i : Int) + (m : Int) ≤ (tot : Int) := by omega
      have hb6 : (i : Int) ≤ (tot : Int) := by omega
      have hb7 : (tot : Int) ≤ (n : Int) := by omega
      have HN1 := Lib.hid (show Y.length = Nat.min m (tot - i) * 3 by rw [hYl]; simp only [Nat.min_def]; split <;> omega)
      have HPOS1 := Lib.hid (show 0 < Y.length → ∃ ad, va = some ad ∧ ∀ j v, Y[j]? = some v → W.cell? (ad.add j) = some v from fun h => by
        obtain ⟨vb, h1, h2, h3, -⟩ := HVC.out h
        refine ⟨_, h1, fun j v hj => ?_⟩
        have h4 := h3 j v hj
        rw [Addr.add_lit] at h4 ⊢
        rw [← h4]
        exact World.cell?_of_block (HSW.out vb))
      have HFIT1 := Lib.hid (show i * 3 + Y.length ≤ C.length by rw [hYl, HCS.out]; omega)
      obtain ⟨D, hD⟩ : ∃ D, splice C (i * 3) Y = D := ⟨_, rfl⟩
      have HD := Lib.hid hD
      have HDl := Lib.hid (show D.length = sc * 3 by rw [← hD, length_splice _ _ _ HFIT1.out, HCS.out])
      clear hD
      have HTOT := Lib.hid htot
      clear htot
      go_enter Try.func83, Try.ntmps83
      go_wp2_with fail
      go_region
      rw [← hW]
      clear hW
      go_wp2_with (refine wpList_copy_spliceK rfl (.tmp 95) (.tmp 96) 28 28 rfl 47 3 (by omega) rfl hsz (some ⟨g, i * 3, none⟩) va (tot - i) (sc - i) m vc rfl rfl g (i * 3) C 47 hgW Y HN1.out (fun h => ⟨rfl, HPOS1.out h⟩) HFIT1.out HY.out base w0 HBW.out hbg ?_; rw [HD.out]; intro w2 HG2 hB2; have HB2 := Lib.hid hB2; clear hB2)
      have hg2 := HG2.out.1
      have HN2 := Lib.hid (show (X.drop (j * 3)).length = Nat.min (n - j) (tot - (i + m)) * 3 by rw [List.length_drop, hXl, HTOT.out]; simp only [Nat.min_def]; split <;> omega)
      have HPOS2 := Lib.hid (show ∃ ad, (some ⟨g, j * 3, none⟩ : Option Addr) = some ad ∧ ∀ k v, (X.drop (j * 3))[k]? = some v → w2.cell? (ad.add k) = some v from ⟨_, rfl, fun k v hk => by
        rw [List.getElem?_drop] at hk
        rw [Addr.add_lit]
        refine (cell_of_block hg2 _).trans ?_
        rw [List.getElem?_toArray, ← HD.out, splice_get_ge _ _ _ _ (by rw [hYl]; omega) (by rw [HCS.out]; omega)]
        rw [← HTK.out, List.getElem?_take] at hk
        split at hk
        · exact hk
        · cases hk⟩)
      have HFIT2 := Lib.hid (show (i + m) * 3 + (X.drop (j * 3)).length ≤ D.length by rw [List.length_drop, hXl, HDl.out]; omega)
      have HX2 := Lib.hid (show ∀ v ∈ X.drop (j * 3), v.oneCell' = true from fun v hv => HX.out v (List.mem_of_mem_drop hv))
      have HB2d := Lib.hid (show Below base w0 w2.drew from HB2.out.trans ⟨rfl, rfl, rfl, Nat.le_refl _, fun _ _ => rfl⟩)
      obtain ⟨E, hE⟩ : ∃ E, splice D ((i + m) * 3) (X.drop (j * 3)) = E := ⟨_, rfl⟩
      have HE := Lib.hid hE
      have HEl := Lib.hid (show E.length = sc * 3 by rw [← hE, length_splice _ _ _ HFIT2.out, HDl.out])
      clear hE
      go_region_law_o (refine step_copy_spliceK rfl _ _ 28 28 rfl 47 3 (by omega) rfl hsz (some ⟨g, (i + m) * 3, none⟩) (some ⟨g, j * 3, none⟩) (tot - (i + m)) (sc - (i + m)) (n - j) (sc - j) (by simp [Act.eval, Act.put]) (by simp [Act.eval, Act.put]) g ((i + m) * 3) D 47 hg2 (X.drop (j * 3)) HN2.out (fun _ => ⟨rfl, HPOS2.out⟩) HFIT2.out HX2.out base w0 HB2d.out hbg ?_; rw [HE.out]; intro w3 HG3 hB3; have HB3 := Lib.hid hB3; clear hB3)
      have hg3 := HG3.out.1
      have HEt := Lib.hid (show E.take (tot * 3) = X.take (i * 3) ++ Y ++ X.drop (j * 3) by
        have := splice_new C (X.take (i * 3)) Y (X.drop (j * 3)) (i * 3) (m * 3) (n * 3 - j * 3) (by rw [← HTK.out, List.take_take]; congr 1; omega) (by rw [HCS.out]; omega) hYl (by rw [List.length_drop, hXl])
        rw [← HE.out, ← HD.out, HTOT.out, show (i + m + (n - j)) * 3 = i * 3 + m * 3 + (n * 3 - j * 3) by omega, show (i + m) * 3 = i * 3 + m * 3 by omega]
        exact this)
      by_cases htc : sc = tot
      · subst htc
        obtain rfl : sc = n := by omega
        go_wp2_with (refine wpList_clear_spliceK rfl (.tmp 110) 28 rfl 47 zE rfl zero_edit _ 0 _ rfl g 0 E 47 hg3 (fun h => absurd h (by omega)) (zE_cells 0).2 (by rw [(zE_cells 0).1]; omega) base w0 HB3.out hbg ?_; intro w4 HG4 hB4; have HB4 := Lib.hid hB4; clear hB4)
        try go_ret
        have e0 : splice E 0 (Builtin.zeroCells zE.cells 0).toList = E := by
          have e1 : (Builtin.zeroCells zE.cells 0).toList = [] := by simp [Builtin.zeroCells]
          rw [e1]; simp [splice]
        refine HEND.out sc E sc w4 g HTOT.out hbg (by rw [← e0]; exact HG4.out.1) (Nat.le_refl _) (by unfold maxLen; omega) HEl.out HEt.out HB4.out
      · obtain ⟨z1, z2⟩ := zE_cells (n - tot)
        go_wp2_with (refine wpList_clear_spliceK rfl (.tmp 110) 28 rfl 47 zE rfl zero_edit (some ⟨g, tot * 3, none⟩) (n - tot) (sc - tot) rfl g (tot * 3) E 47 hg3 (fun _ => rfl) z2 (by rw [z1, HEl.out]; omega) base w0 HB3.out hbg ?_; intro w4 HG4 hB4; have HB4 := Lib.hid hB4; clear hB4)
        try go_ret
        refine HEND.out tot _ sc w4 g HTOT.out hbg HG4.out.1 hroom (by unfold maxLen; omega) (by rw [length_splice _ _ _ (by rw [z1, HEl.out]; omega), HEl.out]) ?_ HB4.out
        rw [splice_take _ _ _ (by rw [HEl.out]; omega), HEt.out]
    · have b4 : decide ((i : Int) + (m : Int) ≤ (j : Int)) = false := by simp; omega
      obtain ⟨vb, rfl, hvb, hvc, vcur, hvg⟩ := HVC.out (by omega)
      have HVC2 := Lib.hid hvc
      have hvgW : W.heap[vb]? = some (.cells vcur 47 (0, 0)) := (HSW.out vb).trans hvg
      have hvcn : vcur.size ≠ 0 := by
        intro h0
        have h1 := hvc 0 (Y[0]'(by omega)) (List.getElem?_eq_getElem (by omega))
        rw [Addr.add_lit] at h1
        rw [cell_of_block hvg, Array.getElem?_eq_none (by omega)] at h1
        cases h1
      clear hvc HVC
      have hz : ∀ w, (Go.sizeOf 47).run Try.prog w = .ok 3 w := fun w => by simp [sizeOf, typeInfo, hi0, hz1]
      have hov : ∀ lb cb, (callFunc 96 #[.slice (some ⟨g, (i + m) * 3, none⟩) lb cb, .slice (some ⟨vb, 0, none⟩) m vc]).run Try.prog W = .ok (.value (.bool false)) W := fun lb cb => by
        rw [run_callFunc_extern Try.func96 (by kernel_rfl) (by kernel_rfl) (by kernel_rfl) (e := Extern.SlicesOverlaps.overlaps #[28, 28] #[4]) (by kernel_rfl),
          Lib.run_overlaps_apart W 28 4 47 rfl 3 hz ⟨g, (i + m) * 3, none⟩ ⟨vb, 0, none⟩ lb cb m vc hvb.symm 47 47 C.length vcur.size (by simp [World.shape?, hgW]) (by simp [World.shape?, hvgW]) hvcn (by simp [World.frozen?, hgW]) (by simp [World.frozen?, hgW])]
        rfl
      have hic2 : i < tot := by omega
      have himt : i + m < tot := by omega
      have hct : ¬ (sc = i + m) := by omega
      have htn : ((i : Int) + (m : Int)).toNat = i + m := by omega
      have hb1 : (0 : Int) ≤ (i : Int) + (m : Int) := by omega
      have hb5 : (i : Int) + (m : Int) ≤ (tot : Int) := by omega
      have hb6 : (i : Int) ≤ (tot : Int) := by omega
      have HTOT := Lib.hid htot
      clear htot
      go_enter Try.func83, Try.ntmps83
      go_wp2_with fail
      go_region
      rw [← hW]
      clear hW
      go_wp2_with (simp only [hov])
      have HN1 := Lib.hid (show (X.drop (j * 3)).length = Nat.min (n - j) (tot - (i + m)) * 3 by rw [List.length_drop, hXl, HTOT.out]; simp only [Nat.min_def]; split <;> omega)
      have HPOS1 := Lib.hid (show ∃ ad, (some ⟨g, j * 3, none⟩ : Option Addr) = some ad ∧ ∀ k v, (X.drop (j * 3))[k]? = some v → W.cell? (ad.add k) = some v from ⟨_, rfl, fun k v hk => by
        rw [List.getElem?_drop] at hk
        rw [Addr.add_lit]
        refine (cell_of_block hgW _).trans ?_
        rw [List.getElem?_toArray]
        rw [← HTK.out, List.getElem?_take] at hk
        split at hk
        · exact hk
        · cases hk⟩)
      have HFIT1 := Lib.hid (show (i + m) * 3 + (X.drop (j * 3)).length ≤ C.length by rw [List.length_drop, hXl, HCS.out]; have := HTOT.out; omega)
      have HX1 := Lib.hid (show ∀ v ∈ X.drop (j * 3), v.oneCell' = true from fun v hv => HX.out v (List.mem_of_mem_drop hv))
      have HBWd := Lib.hid (show Below base w0 W.drew from HBW.out.trans ⟨rfl, rfl, rfl, Nat.le_refl _, fun _ _ => rfl⟩)
      obtain ⟨D, hD⟩ : ∃ D, splice C ((i + m) * 3) (X.drop (j * 3)) = D := ⟨_, rfl⟩
      have HD := Lib.hid hD
      have HDl := Lib.hid (show D.length = sc * 3 by rw [← hD, length_splice _ _ _ HFIT1.out, HCS.out])
      clear hD
      go_region_law_o (refine step_copy_spliceK rfl _ _ 28 28 rfl 47 3 (by omega) rfl hsz (some ⟨g, (i + m) * 3, none⟩) (some ⟨g, j * 3, none⟩) (tot - (i + m)) (sc - (i + m)) (n - j) (sc - j) (by simp [Act.eval, Act.put]) (by simp [Act.eval, Act.put]) g ((i + m) * 3) C 47 hgW (X.drop (j * 3)) HN1.out (fun _ => ⟨rfl, HPOS1.out⟩) HFIT1.out HX1.out base w0 HBWd.out hbg ?_; rw [HD.out]; intro w2 HG2 hB2; have HB2 := Lib.hid hB2; clear hB2)
      have hg2 := HG2.out.1
      have HN2 := Lib.hid (show Y.length = Nat.min m (tot - i) * 3 by rw [hYl]; simp only [Nat.min_def]; split <;> omega)
      have HPOS2 := Lib.hid (show ∃ ad, (some ⟨vb, 0, none⟩ : Option Addr) = some ad ∧ ∀ k v, Y[k]? = some v → w2.cell? (ad.add k) = some v from ⟨_, rfl, fun k v hk => by
        have := HVC2.out _ _ hk
        rw [Addr.add_lit] at this ⊢
        rw [← this]
        exact World.cell?_of_block ((HG2.out.2.1 vb hvb).trans (HSW.out vb))⟩)
      have HFIT2 := Lib.hid (show i * 3 + Y.length ≤ D.length by rw [hYl, HDl.out]; omega)
      go_wp2_with (refine wpList_copy_spliceK rfl (.tmp 133) (.tmp 134) 28 28 rfl 47 3 (by omega) rfl hsz (some ⟨g, i * 3, none⟩) (some ⟨vb, 0, none⟩) (tot - i) (sc - i) m vc rfl rfl g (i * 3) D 47 hg2 Y HN2.out (fun _ => ⟨rfl, HPOS2.out⟩) HFIT2.out HY.out base w0 HB2.out hbg ?_; intro w3 HG3 hB3; have HB3 := Lib.hid hB3; clear hB3)
      try go_ret
      refine HEND.out tot _ sc w3 g HTOT.out hbg HG3.out.1 hroom (by unfold maxLen; omega) (by rw [length_splice _ _ _ HFIT2.out, HDl.out]) ?_ HB3.out
      have := splice_in2 C Y (X.drop (j * 3)) (i * 3) (m * 3) (n * 3 - j * 3) (by rw [HCS.out]; omega) hYl (by rw [List.length_drop, hXl])
      rw [← HD.out, HTOT.out, show (i + m + (n - j)) * 3 = i * 3 + m * 3 + (n * 3 - j * 3) by omega, show (i + m) * 3 = i * 3 + m * 3 by omega, this, ← HTK.out, List.take_take]
      congr 3; omega
  · have b3 : decide ((sc : Int) < (tot : Int)) = true := by simp; omega
    obtain ⟨vb, rfl, hvb, hvc, vcur, hvg⟩ := HVC.out (by omega)
    have HVC2 := Lib.hid hvc
    have hltv : vb < w.heap.size := (Array.getElem?_eq_some_iff.1 hvg).1
    clear hvc HVC hvg
    have hit : i < tot := by omega
    have htm : tot ≤ 300000 := by omega
    have himt : i + m ≤ tot := by omega
    have hkk : (tot : Int) - (i : Int) = ((tot - i : Nat) : Int) := by omega
    have hik : i + (tot - i) = tot := by omega
    obtain ⟨R, G, W1, hrz, hRt, hRl, hGn, hG63, hgN, hold, HB1⟩ : ∃ (R : List Value) (G : Nat) (W1 : World), (∀ ty, (Builtin.append_ #[28, 3] ty #[.slice (some ⟨g, 0, none⟩) i sc, .int .i64 ((tot : Int) - (i : Int))]).run Try.prog W = .ok (.slice (some ⟨W.heap.size, 0, none⟩) tot G) W1)
        ∧ Hid (R.take (i * 3) = X.take (i * 3)) ∧ Hid (R.length = G * 3) ∧ tot ≤ G ∧ G ≤ maxLen ∧ W1.heap[W.heap.size]? = some (.cells R.toArray 47 (0, 0)) ∧ Hid (∀ b, b < W.heap.size → W1.heap[b]? = W.heap[b]?) ∧ Hid (Below base w0 W1) := by
      have hfc : (Builtin.firstCells i0.size i (.slice (some ⟨g, 0, none⟩) i sc)).run Try.prog W.drew = .ok (X.take (i * 3)).toArray W.drew := by
        rw [hz1]
        exact run_firstCells_some W.drew 3 i ⟨g, 0, none⟩ i sc (X.take (i * 3)) (by rw [List.length_take]; omega) (fun j v hj => by
          rw [List.getElem?_take] at hj
          split at hj
          · have h1 := HSC.out j v hj
            rw [Addr.add_lit] at h1 ⊢
            rw [← h1]
            exact World.cell?_of_block (HSW.out g)
          · cases hj)
      have hbig : tot * 32 ≤ 140737488355328 := by omega
      have hr := fun ty => Lib.run_append_grow_zeros W 28 3 ty 47 i0 _ .i64 .i64 rfl rfl hi0 hz0 (some ⟨g, 0, none⟩) i sc (X.take (i * 3)) hfc (tot - i) (by omega) (by omega) (by omega) (by omega) (by rw [hz2]; omega) (by rw [hz2, hik]; exact growslice_fits (by omega) hbig)
      rw [hik] at hr
      refine ⟨((X.take (i * 3)).toArray ++ Builtin.zeroCells (Value.agg #[.int .i64 0, .int .i64 0, .string ⟨#[]⟩]).cells (tot - i) ++ Builtin.zeroCells (Value.agg #[.int .i64 0, .int .i64 0, .string ⟨#[]⟩]).cells (grownCap W tot sc 47 - tot)).toList, grownCap W tot sc 47, _, fun ty => by rw [hkk]; exact hr ty, Lib.hid ?_, Lib.hid ?_, grownCap_ge W _ _ _, grownCap_le_maxLen W _ _ _ (by unfold maxLen; omega), ?_, Lib.hid ?_, Lib.hid ?_⟩
      · rw [Array.toList_append, Array.toList_append, List.append_assoc, List.take_left' (by rw [List.length_take]; omega)]
      · have := grownCap_ge W tot sc 47
        rw [Array.length_toList, Array.size_append, Array.size_append, size_zeroCells, size_zeroCells, List.size_toArray, List.length_take]
        have e : (Value.agg #[.int .i64 0, .int .i64 0, .string ⟨#[]⟩]).cells.size = 3 := rfl
        rw [e]; omega
      · rw [Array.toArray_toList]; exact heap_alloc_new W.drew _
      · exact fun b hb => heap_alloc_old W.drew _ hb
      · exact HBW.out.trans ⟨rfl, rfl, rfl, by simp [World.alloc], fun k hk => heap_alloc_old W.drew _ (show k < W.heap.size by omega)⟩
    unfold maxLen at hG63
    obtain ⟨N, hN⟩ : ∃ N, N = W.heap.size := ⟨_, rfl⟩
    rw [← hN] at hrz hgN hold hWs
    have hgN' : g ≠ N := by omega
    have hvN' : vb ≠ N := by omega
    have hNb : base ≤ N := by omega
    have hltN : g < N := by omega
    have hltvN : vb < N := by omega
    clear hN hWs
    have HN1 := Lib.hid (show Y.length = Nat.min m (tot - i) * 3 by rw [hYl]; simp only [Nat.min_def]; split <;> omega)
    have HPOS1 := Lib.hid (show ∃ ad, (some ⟨vb, 0, none⟩ : Option Addr) = some ad ∧ ∀ j v, Y[j]? = some v → W1.cell? (ad.add j) = some v from ⟨_, rfl, fun j v hj => by
      have := HVC2.out _ _ hj
      rw [Addr.add_lit] at this ⊢
      rw [← this]
      exact World.cell?_of_block ((hold.out vb hltvN).trans (HSW.out vb))⟩)
    have HFIT1 := Lib.hid (show i * 3 + Y.length ≤ R.length by rw [hYl, hRl.out]; omega)
    obtain ⟨D, hD⟩ : ∃ D, splice R (i * 3) Y = D := ⟨_, rfl⟩
    have HD := Lib.hid hD
    have HDl := Lib.hid (show D.length = G * 3 by rw [← hD, length_splice _ _ _ HFIT1.out, hRl.out])
    clear hD
    have htn : ((i : Int) + (m : Int)).toNat = i + m := by omega
    have hb1 : (0 : Int) ≤ (i : Int) + (m : Int) := by omega
    have hb5 : (i : Int) + (m : Int) ≤ (tot : Int) := by omega
    have hb6 : (i : Int) ≤ (tot : Int) := by omega
    have hGi : ¬ (G = i) := by omega
    have hGim : ¬ (G = i + m) := by omega
    have HTOT := Lib.hid htot
    clear hkk hik htot
    go_enter Try.func83, Try.ntmps83
    go_wp2_with fail
    go_region
    rw [← hW]
    clear hW
    go_wp2_with (first | (at_builtin; refine Lib.wpList_append_run _ rfl _ _ _ _ rfl _ _ rfl rfl _ _ (hrz _) ?_) | (refine wpList_copy_spliceK rfl (.tmp 70) (.tmp 71) 28 28 rfl 47 3 (by omega) rfl hsz (some ⟨N, i * 3, none⟩) (some ⟨vb, 0, none⟩) (tot - i) (G - i) m vc rfl rfl N (i * 3) R 47 hgN Y HN1.out (fun _ => ⟨rfl, HPOS1.out⟩) HFIT1.out HY.out base w0 HB1.out hNb ?_; rw [HD.out]; intro w2 HG2 hB2; have HB2 := Lib.hid hB2; clear hB2))
    have HN2 := Lib.hid (show (X.drop (j * 3)).length = Nat.min (n - j) (tot - (i + m)) * 3 by rw [List.length_drop, hXl, HTOT.out]; simp only [Nat.min_def]; split <;> omega)
    have HPOS2 := Lib.hid (show ∃ ad, (some ⟨g, j * 3, none⟩ : Option Addr) = some ad ∧ ∀ k v, (X.drop (j * 3))[k]? = some v → w2.cell? (ad.add k) = some v from ⟨_, rfl, fun k v hj => by
      rw [List.getElem?_drop] at hj
      have := HSC.out _ _ hj
      rw [Addr.add_lit] at this ⊢
      rw [← show w2.cell? ⟨g, 0 + (j * 3 + k), none⟩ = _ from (World.cell?_of_block ((HG2.out.2.1 g hgN').trans ((hold.out g hltN).trans (HSW.out g)))).trans this, Nat.zero_add]⟩)
    have HFIT2 := Lib.hid (show (i + m) * 3 + (X.drop (j * 3)).length ≤ D.length by rw [List.length_drop, hXl, HDl.out]; have := HTOT.out; omega)
    have HX2 := Lib.hid (show ∀ v ∈ X.drop (j * 3), v.oneCell' = true from fun v hv => HX.out v (List.mem_of_mem_drop hv))
    have HB2d := Lib.hid (show Below base w0 w2.drew from HB2.out.trans ⟨rfl, rfl, rfl, Nat.le_refl _, fun _ _ => rfl⟩)
    have hg2 := HG2.out.1
    go_region_law_o (refine step_copy_spliceK rfl _ _ 28 28 rfl 47 3 (by omega) rfl hsz (some ⟨N, (i + m) * 3, none⟩) (some ⟨g, j * 3, none⟩) (tot - (i + m)) (G - (i + m)) (n - j) (sc - j) (by simp [Act.eval, Act.put]) (by simp [Act.eval, Act.put]) N ((i + m) * 3) D 47 hg2 (X.drop (j * 3)) HN2.out (fun _ => ⟨rfl, HPOS2.out⟩) HFIT2.out HX2.out base w0 HB2d.out hNb ?_; intro w3 HG3 hB3; have HB3 := Lib.hid hB3; clear hB3)
    go_wp2
    try go_ret
    refine HEND.out tot _ G w3 N HTOT.out hNb HG3.out.1 hGn (by unfold maxLen; omega) (by rw [length_splice _ _ _ HFIT2.out, HDl.out]) ?_ HB3.out
    have := splice_new R (X.take (i * 3)) Y (X.drop (j * 3)) (i * 3) (m * 3) (n * 3 - j * 3) hRt.out (by rw [hRl.out]; omega) hYl (by rw [List.length_drop, hXl])
    rw [← HD.out, HTOT.out, show (i + m + (n - j)) * 3 = i * 3 + m * 3 + (n * 3 - j * 3) by omega, show (i + m) * 3 = i * 3 + m * 3 by omega]
    exact this
end Go.Proofs.Ytajigndlcdiinaa
