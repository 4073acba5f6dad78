import Derived.Test.YtplbacfjmajeeaaGreatDoorJ39
namespace Go.Proofs.YtplbacfjmajeeaaGreatDoor
open Go.Lib (hid)
set_option maxHeartbeats 4000000
set_option maxRecDepth 100000
open Go.RowKit
theorem pcEnd_ge : ∀ (l : List Pc) (a : Nat), a ≤ pcEnd a l
 | [], _ => Nat.le_refl _
 | x :: r, a => by have := pcEnd_ge r (a + x.2.2.1); simp only [pcEnd]; omega
theorem tkText_snoc (x : Tk) : ∀ T : List Tk, tkText (T ++ [x]) = tkText T ++ (x.2.1.data.toList ++ x.2.2.data.toList)
 | [] => by simp [tkText]
 | y :: T => by simp [tkText, tkText_snoc x T]
theorem ext_cat (s : ByteArray) (a b c : Nat) (h1 : a ≤ b) (h2 : b ≤ c) : (s.extract a b).data.toList ++ (s.extract b c).data.toList = (s.extract a c).data.toList := by
 rw [← ext_join s a b c h1 h2, ByteArray.data_append, Array.toList_append]
theorem toks_text (ms : List Mrk) (s : ByteArray) (N sz : Nat) : ∀ (l : List Pc) (a en : Nat) (acc : List Tk), PcOk N sz a l → en ≤ a →
 tkText (toksL ms s l en acc).1 ++ (s.extract (toksL ms s l en acc).2 (pcEnd a l)).data.toList = tkText acc ++ (s.extract en (pcEnd a l)).data.toList
 | [], _, _, _, _, _ => rfl
 | x :: r, a, en, acc, h, hen => by
  obtain ⟨_, h2, _, h4⟩ := h
  have hge := pcEnd_ge r (a + x.2.2.1)
  rw [toksL]
  split
  · exact toks_text ms s N sz r (a + x.2.2.1) en acc h4 (by omega)
  · rw [h2]
    have := toks_text ms s N sz r (a + x.2.2.1) (a + x.2.2.1) (acc ++ [(kindM ms x.1, s.extract en a, s.extract a (a + x.2.2.1))]) h4 (Nat.le_refl _)
    simp only [pcEnd]
    rw [this, tkText_snoc, List.append_assoc, List.append_assoc, ext_cat s a _ _ (by omega) hge, ext_cat s en a _ hen (by omega)]
theorem ext_all (s : ByteArray) : (s.extract 0 s.size).data.toList = s.data.toList := by
 rw [ext_list, List.drop_zero, List.take_of_length_le (by rw [Array.length_toList]; exact Nat.le_refl _)]
theorem split_text (ms : List Mrk) (s : ByteArray) (h : (piecesL (ms.map Mrk.pat) (setsM ms) s.data.toList).2.2 = 0) :
 tkText (toksL ms s (piecesL (ms.map Mrk.pat) (setsM ms) s.data.toList).1 0 []).1 ++ (s.extract (toksL ms s (piecesL (ms.map Mrk.pat) (setsM ms) s.data.toList).1 0 []).2 s.size).data.toList = s.data.toList := by
 have h1 := piecesL_ok _ _ _ h
 have h2 := piecesL_end _ _ _ h
 have hsl : s.data.toList.length = s.size := by rw [Array.length_toList]; rfl
 rw [hsl] at h2
 have := toks_text ms s _ _ _ 0 0 [] h1 (Nat.le_refl _)
 rw [h2, ext_all] at this
 exact this
theorem split_same (ms : List Mrk) (s : ByteArray) (hs : s.size ≤ 20000) (hc : chk ms = 0) : splitM ms s = ((splitR ms s).1, (splitR ms s).2.1, ((splitR ms s).2.2.1 : Int), ((splitR ms s).2.2.2 : Int)) := by
 unfold splitM splitR splitL
 rw [if_pos hc]
 have hperr : (piecesL (ms.map Mrk.pat) (setsM ms) s.data.toList).2.2 = 0 ∨ (piecesL (ms.map Mrk.pat) (setsM ms) s.data.toList).2.2 = 8 := by
  unfold piecesL
  rw [if_neg (by rw [Array.length_toList]; show ¬ 20000 < s.size; omega)]
  exact pcsL_err _ _ _ _ _ _
 by_cases h0 : (piecesL (ms.map Mrk.pat) (setsM ms) s.data.toList).2.2 = 0
 · rw [if_pos h0, if_pos h0]
   by_cases h1 : 2000 < (toksL ms s (piecesL (ms.map Mrk.pat) (setsM ms) s.data.toList).1 0 []).1.length
   · rw [if_pos h1, if_pos h1]
   · rw [if_neg h1, if_neg h1]
 · rw [if_neg h0, if_neg h0]
   have h8 : (piecesL (ms.map Mrk.pat) (setsM ms) s.data.toList).2.2 = 8 := by omega
   rw [h8]
theorem splitL_same (ms : List Mrk) (s : ByteArray) (hs : s.size ≤ 20000) : (splitL (ms.map Mrk.pat) (setsM ms) ms s).2.2.1 = (splitR ms s).1 ∧ (splitL (ms.map Mrk.pat) (setsM ms) ms s).2.2.2.1 = (splitR ms s).2.1 ∧ (splitL (ms.map Mrk.pat) (setsM ms) ms s).2.2.2.2.2 = (splitR ms s).2.2.2 := by
 unfold splitR splitL
 have hperr : (piecesL (ms.map Mrk.pat) (setsM ms) s.data.toList).2.2 = 0 ∨ (piecesL (ms.map Mrk.pat) (setsM ms) s.data.toList).2.2 = 8 := by
  unfold piecesL
  rw [if_neg (by rw [Array.length_toList]; show ¬ 20000 < s.size; omega)]
  exact pcsL_err _ _ _ _ _ _
 by_cases h0 : (piecesL (ms.map Mrk.pat) (setsM ms) s.data.toList).2.2 = 0
 · rw [if_pos h0, if_pos h0]
   by_cases h1 : 2000 < (toksL ms s (piecesL (ms.map Mrk.pat) (setsM ms) s.data.toList).1 0 []).1.length
   · rw [if_pos h1, if_pos h1]; exact ⟨rfl, rfl, rfl⟩
   · rw [if_neg h1, if_neg h1]; exact ⟨rfl, rfl, rfl⟩
 · rw [if_neg h0, if_neg h0]
   have h8 : (piecesL (ms.map Mrk.pat) (setsM ms) s.data.toList).2.2 = 8 := by omega
   exact ⟨rfl, rfl, h8⟩
theorem splitR_text (ms : List Mrk) (s : ByteArray) (h : (splitR ms s).2.2.2 = 0) : tkText (splitR ms s).1 ++ (splitR ms s).2.1.data.toList = s.data.toList := by
 unfold splitR at h ⊢
 by_cases h0 : (piecesL (ms.map Mrk.pat) (setsM ms) s.data.toList).2.2 = 0
 · rw [if_pos h0] at h ⊢
   by_cases h1 : 2000 < (toksL ms s (piecesL (ms.map Mrk.pat) (setsM ms) s.data.toList).1 0 []).1.length
   · rw [if_pos h1] at h; cases h
   · rw [if_neg h1]; exact split_text ms s h0
 · rw [if_neg h0] at h; cases h
theorem em0 : (⟨#[]⟩ : ByteArray).toList = [] := by rw [ByteArray.toList_eq]
theorem em_data (x : ByteArray) (h : x.toList.isEmpty = true) : x.data.toList = [] := by
 rw [← ByteArray.toList_eq]; exact List.isEmpty_iff.1 h
theorem into1_same (ms : List Mrk) (s : ByteArray) (hs : s.size ≤ 20000) : intoM ms s [(⟨#[]⟩, ⟨#[]⟩, s)] = into1 (splitR ms s) := by
 obtain ⟨e1, e2, e3⟩ := splitL_same ms s hs
 have ht := splitR_text ms s
 unfold intoM intoB into1
 rw [e1, e2, e3]
 generalize splitR ms s = r at ht
 obtain ⟨tk, tail, at_, er⟩ := r
 simp only at ht ⊢
 by_cases h0 : er = 0
 · have ht2 := ht h0
   match tk with
   | [] => simp [sameLT]
   | [(k, ld, tx)] =>
    simp only [List.length_singleton, sameLT, List.getD_cons_zero, decide_true, Bool.true_and, Bool.and_true]
    by_cases h1 : ld.toList.isEmpty = true
    · by_cases h2 : tail.toList.isEmpty = true
      · simp only [tkText] at ht2
        rw [em_data ld h1, em_data tail h2] at ht2
        have : tx = s := ba_list (by simpa using ht2)
        subst this
        rw [h1, h2, isE ld h1]
        simp [h0]
      · simp [h2]
    · have h3 : (ld.toList == (⟨#[]⟩ : ByteArray).toList) = false := by
       rw [beq_eq_false_iff_ne]
       intro e
       apply h1
       rw [e, em0]; rfl
      rw [h3]
      simp [h1]
   | _ :: _ :: _ => simp
 · simp [h0]
theorem into2_same (ms : List Mrk) (s l t : ByteArray) (hs : (s ++ l ++ t).size ≤ 20000) : intoM ms (s ++ l ++ t) [(⟨#[]⟩, ⟨#[]⟩, s), (⟨#[]⟩, l, t)] = into2 (splitR ms (s ++ l ++ t)) s l t := by
 obtain ⟨e1, e2, e3⟩ := splitL_same ms (s ++ l ++ t) hs
 unfold intoM intoB into2
 rw [e1, e2, e3]
 generalize splitR ms (s ++ l ++ t) = r
 obtain ⟨tk, tail, at_, er⟩ := r
 simp only
 match tk with
 | [] => simp
 | [_] => simp
 | [(k, ld, tx), (k1, ld1, tx1)] =>
  have h3 : (ld.toList == (⟨#[]⟩ : ByteArray).toList) = ld.toList.isEmpty := by
   rw [em0]
   cases ld.toList <;> rfl
  simp only [sameLT, List.getD_cons_zero, List.getD_cons_succ, h3]
  simp [Bool.and_assoc]
 | _ :: _ :: _ :: _ => simp
theorem betw_same (ms : List Mrk) (s t : ByteArray) (hs : s.size ≤ 9000) (ht : t.size ≤ 9000) : ∀ L : List ByteArray, (∀ l ∈ L, l.size ≤ 1) → betwL ms s t L = betwR ms s t L
 | [], _ => rfl
 | l :: r, h => by
  rw [betwL, betwR, into2_same ms s l t (size20 s l t (h l (by simp)) hs ht), betw_same ms s t hs ht r (fun x hx => h x (by simp [hx]))]
theorem between_same (ms : List Mrk) (s t : ByteArray) (hs : s.size ≤ 9000) (ht : t.size ≤ 9000) (hc : chk ms = 0) : betweenM ms s t = betweenR ms s t := by
 unfold betweenM betweenR
 rw [if_pos hc, into1_same ms s (by omega), into1_same ms t (by omega), betw_same ms s t hs ht leads (by decide)]
def smallsL : List UInt8 := [97, 98, 99, 100, 101, 102, 103, 104, 105, 106, 107, 108, 109, 110, 111, 112, 113, 114, 115, 116, 117, 118, 119, 120, 121, 122]
def nameL : List UInt8 := smallsL ++ [48, 49, 50, 51, 52, 53, 54, 55, 56, 57, 95]
theorem idx_small_nat : ∀ n : Fin 256, decide (Lib.indexByte smallsL (UInt8.ofNat n) < 0) = !lettB (UInt8.ofNat n) := by decide +kernel
theorem idx_name_nat : ∀ n : Fin 256, decide (Lib.indexByte nameL (UInt8.ofNat n) < 0) = !nmB (UInt8.ofNat n) := by decide +kernel
theorem idx_small (c : UInt8) : decide (Lib.indexByte smallsL c < 0) = !lettB c := by
 have := idx_small_nat ⟨c.toNat, c.toNat_lt⟩
 simpa using this
theorem idx_name (c : UInt8) : decide (Lib.indexByte nameL c < 0) = !nmB c := by
 have := idx_name_nat ⟨c.toNat, c.toNat_lt⟩
 simpa using this
theorem idxS (c : UInt8) (w : World) : Calls Tryz.prog 83 #[.string ⟨#[97, 98, 99, 100, 101, 102, 103, 104, 105, 106, 107, 108, 109, 110, 111, 112, 113, 114, 115, 116, 117, 118, 119, 120, 121, 122]⟩, .int .u8 c.toNat] w fun e w' => ∃ k : Int, e = .returned (.int .i64 k) ∧ decide (k < 0) = !lettB c ∧ w = w' := by
 refine (Tryz.strings_IndexByte _ _ w).mono ?_
 rintro e w' ⟨rfl, rfl⟩
 refine ⟨_, rfl, ?_, rfl⟩
 rw [show ((c.toNat : Int)).toNat.toUInt8 = c by simp]
 exact idx_small c
theorem idxN (c : UInt8) (w : World) : Calls Tryz.prog 83 #[.string ⟨#[97, 98, 99, 100, 101, 102, 103, 104, 105, 106, 107, 108, 109, 110, 111, 112, 113, 114, 115, 116, 117, 118, 119, 120, 121, 122, 48, 49, 50, 51, 52, 53, 54, 55, 56, 57, 95]⟩, .int .u8 c.toNat] w fun e w' => ∃ k : Int, e = .returned (.int .i64 k) ∧ decide (k < 0) = !nmB c ∧ w = w' := by
 refine (Tryz.strings_IndexByte _ _ w).mono ?_
 rintro e w' ⟨rfl, rfl⟩
 refine ⟨_, rfl, ?_, rfl⟩
 rw [show ((c.toNat : Int)).toNat.toUInt8 = c by simp]
 exact idx_name c
theorem nameOf_any (s : ByteArray) (w : World) (hs : s.size ≤ 1000000) : Calls Tryz.prog 56 #[.string s] w fun e w' => e = .returned (.bool (nameB s.data.toList)) ∧ w.grownBy w' none := by
 have hlen : s.data.toList.length = s.size := by rw [Array.length_toList]; rfl
 obtain ⟨r, hr⟩ : ∃ r, nameB s.data.toList = r := ⟨_, rfl⟩
 rw [hr]
 have HR := hid hr
 have HLEN := hid hlen
 clear hr hlen
 obtain ⟨bi, hbi⟩ : ∃ bi, inB (s.size : Int) 1 40 = bi := ⟨_, rfl⟩
 have HQ := hid (in_q (s.size : Int) 1 40)
 rw [hbi] at HQ
 have HBI := hid hbi
 clear hbi
 rcases bi with _ | _
 · have hr2 : r = false := by
    have h := HBI.out
    unfold inB at h
    rw [← HR.out, nameB, HLEN.out]
    have : ¬ (1 ≤ s.size ∧ s.size ≤ 40) := fun h2 => by simp at h; omega
    by_cases h1 : 1 ≤ s.size
    · have h40 : ¬ s.size ≤ 40 := fun h => this ⟨h1, h⟩
      simp [h40]
    · simp [h1]
   have HR2 := hid hr2
   clear hr2
   go_enter Tryz.func56, Tryz.ntmps56
   go_wp2_with fail
   refine (HQ.out _).mono ?_
   rintro e w1 ⟨rfl, rfl⟩
   go_wp2_with fail
   go_ret
   exact ⟨by rw [HR2.out]; rfl, grow_self _⟩
 · have hsz : 1 ≤ s.size ∧ s.size ≤ 40 := by
    have h := HBI.out
    unfold inB at h
    simp at h
    omega
   have h0 : 0 < s.size := by omega
   have h0i : (0 : Int) < (s.size : Int) := by omega
   have HX := hid (idxS s[0])
   cases hl : lettB s[0] with
   | false =>
    have hr2 : r = false := by
     have : s.data.toList.getD 0 0 = s[0] := ba_getD s 0 h0
     rw [← HR.out, nameB, this, hl]; simp
    have HL := hid hl
    have HR2 := hid hr2
    clear hl hr2
    go_enter Tryz.func56, Tryz.ntmps56
    go_wp2_with fail
    refine (HQ.out _).mono ?_
    rintro e w1 ⟨rfl, rfl⟩
    go_wp2_with fail
    refine (HX.out _).mono ?_
    rintro e w1 ⟨k, rfl, hk, rfl⟩
    rw [HL.out] at hk
    replace hk : decide (k < 0) = true := hk
    go_wp2_with fail
    go_ret
    exact ⟨by rw [HR2.out]; rfl, grow_self _⟩
   | true =>
    have HL := hid hl
    have HG := hid (show r = s.data.toList.all nmB by
     have : s.data.toList.getD 0 0 = s[0] := ba_getD s 0 h0
     rw [← HR.out, nameB, this, hl, HLEN.out]
     simp [hsz.1, hsz.2])
    clear hl
    go_enter Tryz.func56, Tryz.ntmps56
    go_wp2_with fail
    refine (HQ.out _).mono ?_
    rintro e w1 ⟨rfl, rfl⟩
    go_wp2_with fail
    refine (HX.out _).mono ?_
    rintro e w1 ⟨k, rfl, hk, rfl⟩
    rw [HL.out] at hk
    replace hk : decide (k < 0) = false := hk
    go_wp2_with fail
    go_loopw [16] (fun i wr => ∃ j : Nat, j ≤ s.size ∧ i = .int .i64 j ∧ w1 = wr ∧ Hid ((s.data.toList.drop j).all nmB = r)) (fun i _ => s.size - (intOf i).toNat)
    case atStart => exact ⟨0, Nat.zero_le _, rfl, rfl, hid (by simpa using HG.out.symm)⟩
    case round =>
     obtain ⟨j, hj, rfl, rfl, HA⟩ := hrel
     by_cases hlt : j < s.size
     · have HA2 := hid (show (nmB s[j] && (s.data.toList.drop (j + 1)).all nmB) = r by
        rw [← HA.out, show s.data.toList.drop j = s.data.toList[j]'(by rw [HLEN.out]; exact hlt) :: s.data.toList.drop (j + 1) from List.drop_eq_getElem_cons _]; rfl)
       have HN := hid (idxN s[j])
       clear HA
       cases hc : nmB s[j] with
       | true =>
        have HA3 := hid (show (s.data.toList.drop (j + 1)).all nmB = r by rw [← HA2.out, hc]; rfl)
        have HC := hid hc
        clear hc hk
        go_wp2_with fail
        refine (HN.out _).mono ?_
        rintro e w1 ⟨k2, rfl, hk, rfl⟩
        rw [HC.out] at hk
        replace hk : decide (k2 < 0) = false := hk
        go_wp2_with fail
        go_roundw
        case rel => exact ⟨j + 1, by omega, by go_num, trivial, HA3⟩
        case measure => simp [intOf]; omega
       | false =>
        have hr2 := hid (show r = false by rw [← HA2.out, hc]; rfl)
        have HC := hid hc
        clear hc hk
        go_wp2_with fail
        refine (HN.out _).mono ?_
        rintro e w1 ⟨k2, rfl, hk, rfl⟩
        rw [HC.out] at hk
        replace hk : decide (k2 < 0) = true := hk
        go_wp2_with fail
        go_ret
        exact ⟨by rw [hr2.out]; rfl, grow_self _⟩
     · have hr2 := hid (show r = true by rw [← HA.out, List.drop_eq_nil_of_le (by rw [HLEN.out]; omega)]; rfl)
       go_wp2_with fail
       go_ret
       exact ⟨by rw [hr2.out]; rfl, grow_self _⟩
open Go.RowKit Go.Maps
theorem run_eqNil (a : Option Addr) (n c : Nat) (w : World) : (binOp .eql 89 (.slice a n c) (.slice none 0 0)).run Tryz.prog w = .ok (.bool a.isNone) w :=
 @Lib.run_eql_slice_nil Tryz.prog w 89 92 a n c 0 0 Tryz.underlying89
theorem eqNil_yes (w : World) : (binOp .eql 89 (.slice none 0 0) (.slice none 0 0)).run Tryz.prog w = .ok (.bool true) w := run_eqNil none 0 0 w
theorem eqNil_no (g n c : Nat) (w : World) : (binOp .eql 89 (.slice (some ⟨g, 0, none⟩) n c) (.slice none 0 0)).run Tryz.prog w = .ok (.bool false) w := run_eqNil (some ⟨g, 0, none⟩) n c w
open Go.RowKit Go.Region
theorem fault_zero (p : Pt) (h : patFault p = 0) : p.fault 1 = 0 := by
 unfold patFault at h
 split at h
 · rename_i h1; exact h1
 · rename_i h1; exact absurd h h1
def chkEnd (ms : List Mrk) (F : Int) : Int := if F = 0 then (if allSets (ms.map Mrk.pat) = none then 12 else 0) else F
theorem chk_end (ms : List Mrk) : chk ms = chkEnd ms (marksFault ms) := rfl
theorem refMarks_any (ms : List Mrk) (av : Option Addr) (cap : Nat) (w : World) (hms : ∀ m ∈ ms, m.pat.size ≤ 1000 ∧ m.kind.size ≤ 1000000) (hl : ms.length ≤ 1000) (hn : leavesL (ms.map Mrk.pat) ≤ 64) (hsz : sizes (ms.map Mrk.pat) ≤ 500)
 (ha : ms = [] ∨ ∃ b off, av = some ⟨b, off, none⟩ ∧ MrkAt w ms b off) :
 Calls Tryz.prog 23 #[.slice av ms.length cap] w fun e w' => e = .returned (.int .i64 (chk ms)) ∧ w.grownBy w' none := by
 have HA := hid ha
 have HMS := hid hms
 clear ha hms
 rw [chk_end]
 obtain ⟨R, hR⟩ : ∃ r, chkEnd ms (marksFault ms) = r := ⟨_, rfl⟩
 rw [hR]
 have HSP : Hid (marksFault ms = 0 → ∀ W, w.grownBy W none → Calls Tryz.prog 46 #[.slice av ms.length cap] W fun e w' => ∃ X, e = .returned (.pointer (some ⟨X, 0, none⟩)) ∧ SpotRel W X (ms.map Mrk.pat) w') := hid (fun h0 W g => by
  have hne : ms ≠ [] := fun e => by rw [e] at h0; cases h0
  rcases HA.out with h | ⟨b, off, rfl, h⟩
  · exact absurd h hne
  · have h1 : ms.length ≠ 0 := fun e => hne (List.eq_nil_of_length_eq_zero e)
    have h2 : markLoop ms 0 = 0 := by
     unfold marksFault at h0
     rw [if_neg h1] at h0
     split at h0
     · cases h0
     · exact h0
    have hRR : ∀ p ∈ ms.map Mrk.pat, Right p := fun p hp => by
     obtain ⟨m, hm, rfl⟩ := List.mem_map.1 hp
     exact right_fault m.pat (markLoop_all ms 0 h2 m hm).2.1
    have := spotsOf_any (ms.map Mrk.pat) b off cap W hRR (mrk_mks (h.grow g)) (by omega) (by omega)
    rwa [List.length_map] at this)
 have HAL : Hid (∀ w0 W X, SpotRel w0 X (ms.map Mrk.pat) W → Calls Tryz.prog 47 #[.pointer (some ⟨X, 0, none⟩)] W (AllPost (ms.map Mrk.pat) W)) := hid (fun w0 W X S => all_spots (ms.map Mrk.pat) w0 W X S (by omega))
 by_cases h0 : ms.length = 0
 · have hf : R = 8 := by rw [← hR, chkEnd, marksFault, if_pos h0]; rfl
   subst hf
   clear hR
   have h0i : ((ms.length : Int) == 0) = true := by simp [h0]
   go_enter Tryz.func23, Tryz.ntmps23
   go_wp2_with fail
   go_ret
   exact ⟨rfl, grow_self w⟩
 · by_cases h60 : 60 < ms.length
   · have hf : R = 2 := by rw [← hR, chkEnd, marksFault, if_neg h0, if_pos h60]; rfl
     subst hf
     clear hR
     have h0i : ((ms.length : Int) == 0) = false := beq_eq_false_iff_ne.2 (by omega)
     have h60i : (60 : Int) < ms.length := by omega
     go_enter Tryz.func23, Tryz.ntmps23
     go_wp2_with fail
     go_ret
     exact ⟨rfl, grow_self w⟩
   · have HF := hid (show chkEnd ms (markLoop ms 0) = R by rw [← hR, marksFault, if_neg h0, if_neg h60])
     have HMF := hid (show marksFault ms = markLoop ms 0 by rw [marksFault, if_neg h0, if_neg h60])
     have h0i : ((ms.length : Int) == 0) = false := beq_eq_false_iff_ne.2 (by omega)
     have h60i : ¬ (60 : Int) < ms.length := by omega
     clear hR
     go_enter Tryz.func23, Tryz.ntmps23
     go_wp2_with fail
     have N0 := hid (show NumAt (w.alloc (.cells #[.int .i64 0] 3)) w.heap.size 0 from heap_alloc_new w _)
     have G0 := hid (xGa w (.cells #[.int .i64 0] 3) none)
     generalize w.alloc _ = w0 at N0 G0 ⊢
     go_loopw [17] (fun i wr => ∃ (j c : Nat), j ≤ ms.length ∧ i = .int .i64 j ∧ c ≤ j * 2000 ∧ Hid (markLoop (ms.drop j) c = markLoop ms 0) ∧ Hid (NumAt wr w.heap.size c) ∧ Hid (w.grownBy wr none)) (fun i _ => ms.length - (intOf i).toNat)
     case atStart => exact ⟨0, 0, Nat.zero_le _, rfl, by omega, hid rfl, N0, G0⟩
     case round =>
      obtain ⟨j, c, hj, rfl, hc, HE, HN, HG⟩ := hrel
      by_cases hlt : j < ms.length
      · obtain ⟨b, off, o, l, h, x, n, cc, rfl, h1, h2, h3, h4, h5, hp⟩ := MrkAt.elem HA.out j hlt
        replace h1 := cell_grown h1 HG.out
        replace h2 := cell_grown h2 HG.out
        replace h3 := cell_grown h3 HG.out
        replace h4 := cell_grown h4 HG.out
        replace h5 := cell_grown h5 HG.out
        obtain ⟨hps, hks⟩ := HMS.out ms[j] (List.getElem_mem hlt)
        have HE2 : Hid (markLoop (ms[j] :: ms.drop (j + 1)) c = markLoop ms 0) := hid (by rw [← HE.out, show ms.drop j = ms[j] :: ms.drop (j + 1) from List.drop_eq_getElem_cons _])
        have HP := hid (PtAt.grow HG.out _ _ hp)
        clear HE hp
        generalize ms[j] = m at h1 HE2 HP hps hks
        obtain ⟨kind, pat⟩ := m
        simp only at h1 hps hks HP
        have hj60 : j * 2000 ≤ 120000 := by omega
        have b0 := heap_alloc_new wr (.cells #[.string kind, .int .i64 o, .int .i64 l, .int .i64 h, .slice x n cc] 88)
        have G1 := hid (grow_alloc HG.out (.cells #[.string kind, .int .i64 o, .int .i64 l, .int .i64 h, .slice x n cc] 88))
        have HP1 := hid (PtAt.grow (xGa wr (.cells #[.string kind, .int .i64 o, .int .i64 l, .int .i64 h, .slice x n cc] 88) none) _ _ HP.out)
        have N1 := hid (show NumAt (wr.alloc (.cells #[.string kind, .int .i64 o, .int .i64 l, .int .i64 h, .slice x n cc] 88)) w.heap.size c from grow_new (xGa _ _ none) HN.out)
        have hnb : w.heap.size < wr.heap.size := lt_of_block HN.out
        obtain ⟨bad, hbad⟩ : ∃ b, badKind kind = b := ⟨_, rfl⟩
        have HBAD := hid hbad
        clear hbad HN HG HP
        go_upto_region 9 with (fail)
        generalize wr.alloc _ = w1 at b0 G1 HP1 N1 ⊢
        generalize wr.heap.size = B at b0 hnb ⊢
        have x0 := xCb b0 0
        have x1 := xCb b0 1
        have x2 := xCb b0 2
        have x3 := xCb b0 3
        have x4 := xCb b0 4
        simp only [xGe, xGz, xGs] at x0 x1 x2 x3 x4
        have HB0 := hid b0
        clear b0 h1 h2 h3 h4 h5
        go_cut [29] (fun v wx => v = .bool bad ∧ Hid (w1.grownBy wx none))
        case first =>
         by_cases hk : kind.toList = []
         · have hb : bad = false := by rw [← HBAD.out, badKind, hk]; rfl
           subst hb
           go_wp2_with fail
           go_meet
           exact ⟨rfl, hid (grow_self w1)⟩
         · have hk2 : kind.toList.isEmpty = false := by cases hh : kind.toList with | nil => exact absurd hh hk | cons _ _ => rfl
           have hb : bad = !nameB kind.data.toList := by rw [← HBAD.out, badKind, hk2]; rfl
           have HBB := hid hb
           clear hb hk
           go_wp2_with fail
           refine (nameOf_any kind _ hks).mono ?_
           rintro e w2 ⟨rfl, g2⟩
           have HG2 := hid g2
           clear g2
           go_wp2_with fail
           go_meet
           exact ⟨by rw [HBB.out], HG2⟩
        case rest =>
         obtain ⟨rfl, HG2⟩ := hcut
         obtain ⟨w2, rfl⟩ : ∃ v : World, v = wc := ⟨_, rfl⟩
         have b2 := grow_new HG2.out HB0.out
         have N2 := hid (show NumAt w2 w.heap.size c from grow_new HG2.out N1.out)
         have G2 := hid (grownBy_trans G1.out HG2.out)
         have HP2 := hid (PtAt.grow HG2.out _ _ HP1.out)
         clear x0 x1 x2 x3 x4
         have x1 := xCb b2 1
         have x2 := xCb b2 2
         have x3 := xCb b2 3
         have x4 := xCb b2 4
         simp only [xGe, xGz, xGs] at x1 x2 x3 x4
         have HB2 := hid b2
         clear b2 HB0 HP1 N1 G1 HG2
         rcases bad with _ | _
         · have HE3 := hid (show (if patFault pat ≠ 0 then patFault pat else if pat.nul = true then 16 else markLoop (ms.drop (j + 1)) (c + pat.size)) = markLoop ms 0 by rw [← HE2.out, markLoop, if_neg (show ¬ badKind kind = true by rw [HBAD.out]; simp)])
           clear HE2
           go_wp2_with fail
           refine (refPatFault_any pat _ _ (by omega) HP2.out).mono ?_
           rintro e w3 ⟨rfl, g3⟩
           obtain ⟨pf, hpf⟩ : ∃ f, patFault pat = f := ⟨_, rfl⟩
           rw [hpf] at HE3 ⊢
           have HPF := hid hpf
           clear hpf
           have HP3 := hid (PtAt.grow g3 _ _ HP2.out)
           have G3 := hid (grownBy_trans G2.out g3)
           have b3 := grow_new g3 HB2.out
           have N3 := hid (show NumAt w3 w.heap.size c from grow_new g3 N2.out)
           clear g3 x1 x2 x3 x4
           have x1 := xCb b3 1
           have x2 := xCb b3 2
           have x3 := xCb b3 3
           have x4 := xCb b3 4
           simp only [xGe, xGz, xGs] at x1 x2 x3 x4
           have HB3 := hid b3
           clear b3
           by_cases hz : pf = 0
           · subst hz
             have HRG := hid (right_fault pat HPF.out)
             have HFZ := hid (fault_zero pat HPF.out)
             have hps2 := fault_size pat HPF.out
             have HE4 := hid (show (if pat.nul = true then 16 else markLoop (ms.drop (j + 1)) (c + pat.size)) = markLoop ms 0 by rw [← HE3.out, if_neg (show ¬ (0 : Int) ≠ 0 by simp)])
             clear HE3
             go_wp2_with fail
             refine (fitsOf_z pat HRG.out _ _ (by omega) HP3.out).mono ?_
             rintro e w4 ⟨rfl, g4⟩
             obtain ⟨nl, hnl⟩ : ∃ f, pat.nul = f := ⟨_, rfl⟩
             rw [hnl] at HE4 ⊢
             clear hnl
             have HP4 := hid (PtAt.grow g4 _ _ HP3.out)
             have G4 := hid (grownBy_trans G3.out g4)
             have b4 := grow_new g4 HB3.out
             have N4 := hid (show NumAt w4 w.heap.size c from grow_new g4 N3.out)
             clear g4 x1 x2 x3 x4
             have x1 := xCb b4 1
             have x2 := xCb b4 2
             have x3 := xCb b4 3
             have x4 := xCb b4 4
             simp only [xGe, xGz, xGs] at x1 x2 x3 x4
             clear b4
             rcases nl with _ | _
             · have HE5 := hid (show markLoop (ms.drop (j + 1)) (c + pat.size) = markLoop ms 0 by rw [← HE4.out]; rfl)
               clear HE4
               go_wp2_with fail
               refine (refFault_any pat _ _ 1 c w.heap.size (by omega) (by omega) (by omega) (by omega) HP4.out N4.out).mono ?_
               rintro e w5 ⟨rfl, g5, m5, hn5, hm5⟩
               have hm6 := hm5 HFZ.out
               subst hm6
               have N5 := hid (show NumAt w5 w.heap.size ((c + pat.size : Nat) : Int) by rw [Int.natCast_add]; exact hn5)
               have G5 := hid (show w.grownBy w5 none from grow_row G4.out g5 (fun k hk => Nat.le_of_eq (by simpa using hk)))
               clear g5 hn5 hm5
               go_wp2_with fail
               go_roundw
               case rel => exact ⟨j + 1, c + pat.size, by omega, by go_num, by omega, HE5, N5, G5⟩
               case measure => simp [intOf]; omega
             · have HE5 := hid (show (16 : Int) = markLoop ms 0 by rw [← HE4.out]; rfl)
               have HR5 := hid (show (16 : Int) = R by rw [← HF.out, ← HE5.out]; rfl)
               clear HE4
               go_wp2_with fail
               go_ret
               exact ⟨by rw [← HR5.out]; rfl, G4.out⟩
           · have HE4 := hid (show pf = markLoop ms 0 by rw [← HE3.out, if_pos hz])
             have HR5 := hid (show pf = R by rw [← HF.out, ← HE4.out, chkEnd, if_neg hz])
             have hzb : (pf != 0) = true := by simpa using hz
             clear HE3 hz
             go_wp2_with fail
             go_ret
             exact ⟨by rw [← HR5.out]; rfl, G3.out⟩
         · have HE3 := hid (show (5 : Int) = markLoop ms 0 by rw [← HE2.out, markLoop, if_pos HBAD.out])
           have HR5 := hid (show (5 : Int) = R by rw [← HF.out, ← HE3.out]; rfl)
           go_wp2_with fail
           go_ret
           exact ⟨by rw [← HR5.out]; rfl, G2.out⟩
      · have HE2 := hid (show (if 2000 < c then (2 : Int) else 0) = markLoop ms 0 by rw [← HE.out, List.drop_eq_nil_of_le (by omega)]; rfl)
        have cc := HN.out.cell
        by_cases hbig : 2000 < c
        · have HR5 := hid (show (2 : Int) = R by rw [← HF.out, ← HE2.out, if_pos hbig]; rfl)
          have hb2 : (2000 : Int) < c := by omega
          go_wp2_with fail
          go_ret
          exact ⟨by rw [← HR5.out]; rfl, HG.out⟩
        · have hz0 : marksFault ms = 0 := by rw [HMF.out, ← HE2.out, if_neg hbig]
          have HRR := hid (show (if allSets (ms.map Mrk.pat) = none then (12 : Int) else 0) = R by rw [← HF.out, ← HE2.out, if_neg hbig, chkEnd, if_pos rfl])
          have hb2 : ¬ (2000 : Int) < c := by omega
          have HCS := hid (HSP.out hz0 wr HG.out)
          clear hz0
          go_wp2_with fail
          refine HCS.out.mono ?_
          rintro e w6 ⟨X, rfl, S6⟩
          have HCA := hid (HAL.out wr w6 X S6)
          have HG6 := hid (show w.grownBy w6 none from by
           obtain ⟨V, fo, a, n, k, e1, S, g⟩ := S6
           exact grownBy_trans HG.out g)
          clear S6
          go_wp2_with fail
          refine HCA.out.mono ?_
          rintro e w7 ⟨rv, rfl, g7, hv⟩
          have HG7 := hid (grownBy_trans HG6.out g7)
          clear g7
          rcases hv with ⟨hnone, rfl⟩ | ⟨a, c7, l, hsome, rfl, hpos, own, _⟩
          · have HNN := hid (show (12 : Int) = R by rw [← HRR.out, if_pos hnone])
            clear hnone
            have he := eqNil_yes w7
            go_wp2_with fail
            go_ret
            exact ⟨by rw [← HNN.out]; rfl, HG7.out⟩
          · obtain ⟨g, cap7, hv, _, _⟩ := ownsRow_cell own hpos
            have HNN := hid (show (0 : Int) = R by rw [← HRR.out, if_neg (by rw [hsome]; simp)])
            rw [hv]
            clear hsome own hv
            have he := eqNil_no g l.length cap7 w7
            go_wp2_with fail
            go_ret
            exact ⟨by rw [← HNN.out]; rfl, HG7.out⟩
end Go.Proofs.YtplbacfjmajeeaaGreatDoor
