/- Package edit: merged says what the reference's then says, plain. -/
import Derived.Test.YtajigndlcdiinaaDTd
namespace Go.Proofs.Ytajigndlcdiinaa
open Go.RowKit

theorem DF.thenS {d : Dr} {ls : List Let} {p : Int} (h : DF d ls p) {x : Stp} (ho : 0 ≤ x.ab.old) (hl : 0 ≤ x.long) :
    DF (thenS d x) (ls ++ (newL x.bb.new x.bb.new.size ++ if x.bi then [] else if x.ai then newL (x.al.ed.new.extract (x.at_ - x.al.at_).toNat (x.at_ - x.al.at_ + x.long).toNat) (x.al.ed.new.extract (x.at_ - x.al.at_).toNat (x.at_ - x.al.at_ + x.long).toNat).size else keepL (p + x.ab.old) x.long.toNat)) (if x.ai then p + x.ab.old else p + x.ab.old + x.long) := by
  have h1 := (h.drop ho).put x.bb.new
  unfold Ytajigndlcdiinaa.thenS
  cases ha : x.ai with
  | true =>
    cases hb : x.bi with
    | true => simpa using h1
    | false =>
      have h2 := h1.put (x.al.ed.new.extract (x.at_ - x.al.at_).toNat (x.at_ - x.al.at_ + x.long).toNat)
      rw [List.append_assoc] at h2
      simp only [Bool.false_eq_true, if_false, if_true]
      exact h2
  | false =>
    cases hb : x.bi with
    | true => simpa using h1.drop hl
    | false => simpa [List.append_assoc] using h1.keep hl
theorem arrJ_le2 {ps : List Pce} {j : Nat} {at_ : Int} (h : j ≤ ps.length) : arrJ ps j at_ ≤ ps.length := by
  unfold arrJ
  split
  · split <;> omega
  · exact h
theorem arrB_old {es : List Ed} (hS : ∀ e, e ∈ es → 0 ≤ e.at_ ∧ e.at_ ≤ 20000 ∧ 0 ≤ e.old ∧ e.old ≤ 20000 ∧ e.new.size ≤ 40000) (j : Nat) (at_ : Int) : 0 ≤ (arrB (comP es) j at_).old ∧ (arrB (comP es) j at_).old ≤ 20000 := by
  unfold arrB
  split
  · rename_i hj
    split
    · rw [comP_get es j hj]
      have := hS _ (List.getElem_mem (show j < es.length by rw [comP, comG_len] at hj; exact hj))
      simp only; omega
    · simp [edZ]
  · simp [edZ]
theorem stpT_of {m : Int} {es : List Ed} {B : List Pce} {la lb : Pce} {ja jb : Nat} {at_ : Int} (hS : ∀ e, e ∈ es → 0 ≤ e.at_ ∧ e.at_ ≤ 20000 ∧ 0 ≤ e.old ∧ e.old ≤ 20000 ∧ e.new.size ≤ 40000) (hm : 0 ≤ m ∧ m ≤ 1000000) (h0 : 0 ≤ at_) (h1 : at_ ≤ m)
    (ka : Wh m (comP es) (arrP (comP es) la ja at_) (arrJ (comP es) ja at_) at_) (wl : Wl (comP es) (arrP (comP es) la ja at_) (arrJ (comP es) ja at_) at_) (hl : inP (arrP (comP es) la ja at_) at_ = true → toV (comP es) B m at_ (arrP (comP es) la ja at_) (arrJ (comP es) ja at_) (arrP B lb jb at_) (arrJ B jb at_) ≤ (arrP (comP es) la ja at_).at_ + (arrP (comP es) la ja at_).long) (hx : StpW (stpA (comP es) B m at_ la ja lb jb)) : StpT (stpA (comP es) B m at_ la ja lb jb) := by
  refine ⟨hx, ?_, ?_, ?_⟩
  · exact arrB_old hS ja at_
  · simp only [stpA]; omega
  · intro hai
    simp only [stpA] at hai ⊢
    have hin : at_ < (arrP (comP es) la ja at_).at_ + (arrP (comP es) la ja at_).long := by simpa [inP] using hai
    have hl2 := hl hai
    obtain ⟨i, hi, hji, he⟩ := wl hin
    have hi' : i < es.length := by rw [comP, comG_len] at hi; exact hi
    have hb := (ka.bef i hi (by omega)).1
    have hs := hS _ (List.getElem_mem hi')
    have hsb := shTo_bd es hS i (by omega)
    rw [lastP, if_pos hai]
    have hz : (arrP (comP es) la ja at_).long = (arrP (comP es) la ja at_).ed.new.size := by rw [← he, comP_get es i hi]
    have hn : (arrP (comP es) la ja at_).ed.new.size ≤ 40000 := by rw [← he, comP_get es i hi]; exact hs.2.2.2.2
    have hlong := hx.1
    simp only [stpA] at hlong
    rw [he] at hb
    refine ⟨⟨?_, ?_⟩, ?_, ?_, hn⟩ <;> omega

theorem runs_then {n m : Int} {es : List Ed} {B : List Pce} (hr : Right n (-1) es) (h0n : 0 ≤ n) (hS : ∀ e, e ∈ es → 0 ≤ e.at_ ∧ e.at_ ≤ 20000 ∧ 0 ≤ e.old ∧ e.old ≤ 20000 ∧ e.new.size ≤ 40000) (hm : m = n + newSum es - oldSum es) (hm2 : 0 ≤ m ∧ m ≤ 1000000) {at_ : Int} {la : Pce} {ja : Nat} {lb : Pce} {jb : Nat} {xs : List Stp} (h : Runs (comP es) B m at_ la ja lb jb xs) :
    Wst m (comP es) la ja at_ → Wst m B lb jb at_ → Wg (comP es) la ja at_ → Wg B lb jb at_ → Wl (comP es) la ja at_ → ja ≤ (comP es).length → (∀ x ∈ xs, StpW x) → ∀ (d : Dr) (ls : List Let), DF d ls (orgPos es la ja at_) →
      at_ ≤ m ∧ (∀ x ∈ xs, StpT x) ∧ DF (xs.foldl thenS d) (ls ++ thTo (flowL es n) B m at_ (m - at_ + 1).toNat) n := by
  induction h with
  | @last la ja lb jb h0 =>
    intro sa sb ga gb wl hja hx d ls hd
    obtain ⟨ka, na⟩ := ga.arr sa
    obtain ⟨kb, nb⟩ := gb.arr sb
    obtain ⟨a1, a2, a3, a4⟩ := sa.arr
    obtain ⟨b1, b2, b3, b4⟩ := sb.arr
    have wl2 := wl.arr
    have hai : inP (arrP (comP es) la ja m) m = false := by simp only [inP, decide_eq_false_iff_not]; omega
    have hbi : inP (arrP B lb jb m) m = false := by simp only [inP, decide_eq_false_iff_not]; omega
    have ho := orgPos_arr sa
    have hxo := hx _ List.mem_cons_self
    have hlong : (stpA (comP es) B m m la ja lb jb).long = 0 := by
      have h1 := hxo.1
      have h2 : (stpA (comP es) B m m la ja lb jb).long ≤ 0 := by simp only [stpA, toV]; omega
      omega
    have hold := (arrB_old hS ja m).1
    have h4 := hd.thenS (x := stpA (comP es) B m m la ja lb jb) hold hxo.1
    have hend : (comP es).drop (arrJ (comP es) ja m) = [] := by
      cases hc : (comP es).drop (arrJ (comP es) ja m) with
      | nil => rfl
      | cons q r =>
        rw [hc] at a1
        obtain ⟨c1, c2, c3, -⟩ := a1
        omega
    have hlen : arrJ (comP es) ja m = es.length := by
      have h1 := arrJ_le2 (at_ := m) hja
      have h2 := List.drop_eq_nil_iff.1 hend
      have h3 : (comP es).length = es.length := comG_len es 0
      omega
    have hsum : ∀ l : List Ed, shTo l l.length = newSum l - oldSum l := by
      intro l
      induction l with
      | nil => rfl
      | cons e r ih => rw [List.length_cons, shTo_cons, ih]; simp only [newSum, oldSum]; omega
    have hpos : orgPos es (arrP (comP es) la ja m) (arrJ (comP es) ja m) m = n := by
      unfold orgPos
      rw [if_neg (by simpa [inP] using hai), hlen, hsum]; omega
    refine ⟨Int.le_refl _, ?_, ?_⟩
    · intro x hxm
      obtain rfl := List.mem_singleton.1 hxm
      exact stpT_of hS hm2 h0 (Int.le_refl _) ka wl2 (fun h => by rw [hai] at h; cases h) hxo
    · have e1 : (m - m + 1).toNat = 1 := by omega
      rw [e1, thTo, thTo, if_neg (by omega), nb]
      simp only [List.foldl_cons, List.foldl_nil, List.append_nil]
      have e2 : (stpA (comP es) B m m la ja lb jb).ai = false := hai
      have e3 : (stpA (comP es) B m m la ja lb jb).bi = false := hbi
      rw [e2, e3, hlong] at h4
      simp only [Bool.false_eq_true, if_false, Int.toNat_zero, keepL, List.append_nil, Int.add_zero] at h4
      have e4 : orgPos es la ja m + (stpA (comP es) B m m la ja lb jb).ab.old = n := by rw [← hpos, ← ho]; rfl
      rw [e4] at h4
      exact h4
  | @more at_ la ja lb jb xs h0 h1 h2 h3 ih =>
    intro sa sb ga gb wl hja hx d ls hd
    obtain ⟨ka, na⟩ := ga.arr sa
    obtain ⟨kb, nb⟩ := gb.arr sb
    obtain ⟨a1, a2, a3, a4⟩ := sa.arr
    obtain ⟨b1, b2, b3, b4⟩ := sb.arr
    have wl2 := wl.arr
    have hja2 := arrJ_le2 (at_ := at_) hja
    have hcl : (comP es).length = es.length := comG_len es 0
    obtain ⟨-, na2, na3, na4⟩ := nxt_of (Int.le_of_lt h1) a1 a2 a3
    obtain ⟨-, nb2, nb3, nb4⟩ := nxt_of (Int.le_of_lt h1) b1 b2 b3
    have ta : toV (comP es) B m at_ (arrP (comP es) la ja at_) (arrJ (comP es) ja at_) (arrP B lb jb at_) (arrJ B jb at_) ≤ nxtV (comP es) (arrP (comP es) la ja at_) (arrJ (comP es) ja at_) at_ m := by simp only [toV]; omega
    have tb : toV (comP es) B m at_ (arrP (comP es) la ja at_) (arrJ (comP es) ja at_) (arrP B lb jb at_) (arrJ B jb at_) ≤ nxtV B (arrP B lb jb at_) (arrJ B jb at_) at_ m := by simp only [toV]; omega
    have tn : toV (comP es) B m at_ (arrP (comP es) la ja at_) (arrJ (comP es) ja at_) (arrP B lb jb at_) (arrJ B jb at_) ≤ m := by simp only [toV]; omega
    have hxo := hx _ List.mem_cons_self
    have ho := orgPos_arr sa
    have hold := (arrB_old hS ja at_).1
    have h4 := hd.thenS (x := stpA (comP es) B m at_ la ja lb jb) hold hxo.1
    have wsa := na4 _ h2 ta
    have wsb := nb4 _ h2 tb
    have hseg := seg_step hr h0n hm h0 tn ka wsa.rest (by omega) wl2 (nxt_way ta) (Int.le_of_lt h2)
    have hth := th_step (fl := flowL es n) h0 tn h2 kb wsb.rest (nxt_way tb) nb
    have hst := stpT_of hS hm2 h0 (Int.le_of_lt h1) ka wl2 (fun hai => by
      have hin : at_ < (arrP (comP es) la ja at_).at_ + (arrP (comP es) la ja at_).long := by simpa [inP] using hai
      rcases nxt_way ta with g | g
      · exact g
      · omega) hxo
    have hlg : (stpA (comP es) B m at_ la ja lb jb).long = toV (comP es) B m at_ (arrP (comP es) la ja at_) (arrJ (comP es) ja at_) (arrP B lb jb at_) (arrJ B jb at_) - at_ := rfl
    have hat : (stpA (comP es) B m at_ la ja lb jb).at_ = at_ := rfl
    have hwn := nxt_way ta
    generalize htv : toV (comP es) B m at_ (arrP (comP es) la ja at_) (arrJ (comP es) ja at_) (arrP B lb jb at_) (arrJ B jb at_) = t at *
    have hpos : (if (stpA (comP es) B m at_ la ja lb jb).ai then orgPos es la ja at_ + (stpA (comP es) B m at_ la ja lb jb).ab.old else orgPos es la ja at_ + (stpA (comP es) B m at_ la ja lb jb).ab.old + (stpA (comP es) B m at_ la ja lb jb).long) = orgPos es (arrP (comP es) la ja at_) (arrJ (comP es) ja at_) t := by
      have e : orgPos es la ja at_ + (stpA (comP es) B m at_ la ja lb jb).ab.old = orgPos es (arrP (comP es) la ja at_) (arrJ (comP es) ja at_) at_ := ho
      rw [e, hlg]
      by_cases hin : at_ < (arrP (comP es) la ja at_).at_ + (arrP (comP es) la ja at_).long
      · have e2 : (stpA (comP es) B m at_ la ja lb jb).ai = true := by show inP _ _ = true; simpa [inP] using hin
        rw [if_pos e2, orgPos_in wl2 hin (Int.le_of_lt hin), orgPos_in wl2 hin (by rcases hwn with g | g <;> omega)]
      · have e2 : ¬ (stpA (comP es) B m at_ la ja lb jb).ai = true := by show ¬ inP _ _ = true; simpa [inP] using hin
        rw [if_neg e2]
        unfold orgPos
        rw [if_neg hin, if_neg (by omega)]; omega
    rw [hpos] at h4
    obtain ⟨-, ih1, ih2⟩ := ih wsa wsb (ka.on h2 hwn) (kb.on h2 (nxt_way tb)) (wl2.on (Int.le_of_lt h2)) hja2 (fun x hx' => hx x (List.mem_cons_of_mem _ hx')) _ _ h4
    refine ⟨Int.le_of_lt h1, ?_, ?_⟩
    · intro x hxm
      rcases List.mem_cons.1 hxm with rfl | hxm
      · exact hst
      · exact ih1 x hxm
    · rw [List.foldl_cons]
      have e1 : (m - at_ + 1).toNat = (t - at_).toNat + (m - t + 1).toNat := by omega
      have e2 : at_ + ((t - at_).toNat : Int) = t := by omega
      rw [e1, thTo_add, e2, ← List.append_assoc]
      have e3 : newL (stpA (comP es) B m at_ la ja lb jb).bb.new (stpA (comP es) B m at_ la ja lb jb).bb.new.size ++ (if (stpA (comP es) B m at_ la ja lb jb).bi then [] else if (stpA (comP es) B m at_ la ja lb jb).ai then newL ((stpA (comP es) B m at_ la ja lb jb).al.ed.new.extract ((stpA (comP es) B m at_ la ja lb jb).at_ - (stpA (comP es) B m at_ la ja lb jb).al.at_).toNat ((stpA (comP es) B m at_ la ja lb jb).at_ - (stpA (comP es) B m at_ la ja lb jb).al.at_ + (stpA (comP es) B m at_ la ja lb jb).long).toNat) ((stpA (comP es) B m at_ la ja lb jb).al.ed.new.extract ((stpA (comP es) B m at_ la ja lb jb).at_ - (stpA (comP es) B m at_ la ja lb jb).al.at_).toNat ((stpA (comP es) B m at_ la ja lb jb).at_ - (stpA (comP es) B m at_ la ja lb jb).al.at_ + (stpA (comP es) B m at_ la ja lb jb).long).toNat).size else keepL (orgPos es la ja at_ + (stpA (comP es) B m at_ la ja lb jb).ab.old) (stpA (comP es) B m at_ la ja lb jb).long.toNat) = thTo (flowL es n) B m at_ (t - at_).toNat := by
        rw [hth, hseg]
        have e : orgPos es la ja at_ + (stpA (comP es) B m at_ la ja lb jb).ab.old = orgPos es (arrP (comP es) la ja at_) (arrJ (comP es) ja at_) at_ := ho
        rw [e, hlg, hat]
        congr 1
        have e4 : (stpA (comP es) B m at_ la ja lb jb).bi = inP (arrP B lb jb at_) at_ := rfl
        have e5 : (stpA (comP es) B m at_ la ja lb jb).ai = inP (arrP (comP es) la ja at_) at_ := rfl
        rw [e4, e5]
        cases inP (arrP B lb jb at_) at_ with
        | true => simp
        | false =>
          cases hq : inP (arrP (comP es) la ja at_) at_ with
          | true =>
            have e6 : (stpA (comP es) B m at_ la ja lb jb).al = arrP (comP es) la ja at_ := by show lastP _ _ = _; rw [lastP, if_pos hq]
            rw [e6]
          | false => simp
      rw [← e3]
      exact ih2
end Go.Proofs.Ytajigndlcdiinaa
