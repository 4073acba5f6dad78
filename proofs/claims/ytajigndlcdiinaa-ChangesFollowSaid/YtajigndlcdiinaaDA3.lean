/- Package edit: apply, Apply; strings.Builder's WriteString. -/
import Derived.Test.YtajigndlcdiinaaDA2
import Derived.Test.YtajigndlcdiinaaDP1
import Derived.Lib.AppendStr
namespace Go.Proofs.Ytajigndlcdiinaa
open Go.RowKit

theorem byteCells_app (l m : List UInt8) : Lib.byteCells (l ++ m) = Lib.byteCells l ++ Lib.byteCells m := by simp [Lib.byteCells]

set_option maxHeartbeats 2000000 in
set_option maxRecDepth 100000 in
theorem writeString_any (B b : Nat) (l : List UInt8) (s : ByteArray) (w : World) (h : Bld B b l w) (hlen : l.length + s.size ≤ 1000000000) (hBw : B ≤ w.heap.size) :
    Calls Try.prog 77 #[.pointer (some ⟨b, 0, none⟩), .string s] w fun e w' => e = .returned (.tuple #[.int .i64 s.size, .nilIface]) ∧ BldU B b (l ++ s.data.toList) w' ∧ Frm (BldP B b) w w' := by
  obtain ⟨i0, hi, hz0, hz1, hz2⟩ := info_parts infoByte
  have hlc : (Lib.byteCells l).length = l.length := by simp [Lib.byteCells]
  unfold BldU; unfold Bld at h; rw [byteCells_app, show Lib.byteCells s.data.toList = Lib.strCells s from rfl]
  generalize Lib.byteCells l = bs at h hlc
  have hl2 : bs.length + s.size ≤ 1000000000 := by omega
  clear hlc
  go_enter Try.func77, Try.ntmps77
  go_wp2_with fail
  refine (copyCheck_any B b bs _ h).mono ?_
  rintro e w1 ⟨rfl, h1, F1⟩
  obtain ⟨hB, v, hbk, hown, hne⟩ := h1
  have c0 := cell_of_block hbk 0
  have c1 := cell_of_block hbk 1
  simp only [List.getElem?_toArray, List.getElem?_cons_zero, List.getElem?_cons_succ] at c0 c1
  have hsz := F1.size
  go_wp2_with (at_builtin; refine Lib.wpList_append_own_string _ rfl _ _ 80 /-t:[]uint8-/ 9 /-t:string-/ rfl B 5 /-t:uint8-/ i0 Try.underlying80 /-t:[]uint8-/ Try.underlying9 /-t:string-/ hi hz0 hz1 hz2 _ _ _ rfl hown s rfl (by unfold maxLen; omega) (by omega) (by omega) ?_; intro v' w2 hown' hgrow _; obtain ⟨ao, cap, rfl⟩ := ownsRow_slice hown'; have hb2 := grown_block hown hgrow hbk (by decide); have d0 := cell_of_block hb2 0; have d1 := cell_of_block hb2 1; have f1 := free_of_block hb2 1; simp only [List.getElem?_toArray, List.getElem?_cons_zero, List.getElem?_cons_succ] at d0 d1; have G2 := Lib.hid (F1.trans ((Frm.refl (BldP B b) w1).grown hgrow (fun k hk hp => by obtain ⟨hB, c, hc⟩ := ownsRow_block hown k hk; exact hp.2.elim (fun h => by omega) (fun h => h _ _ hc)))); have HB := Lib.hid hb2; have HO := Lib.hid hown'; clear hown' hgrow hb2)
  go_ret2
  refine ⟨rfl, ?_, G2.out.setCell ⟨b, 1, none⟩ _ (fun hp => hp.1 rfl)⟩
  exact Lib.BuilderAt.put (T := 82 /-t:strings.Builder-/) (e := 5 /-t:uint8-/) hB HB.out (bs' := bs ++ Lib.strCells s) (by simpa [Lib.strCells_length] using HO.out) (by decide)

theorem right_lt (n : Int) : ∀ (es : List Ed) (b : Int), Right n b es → ∀ j (h : j + 1 < es.length), es[j].at_ + es[j].old < es[j + 1].at_
  | [], _, _, _, h => by simp at h
  | [_], _, _, _, h => by simp at h
  | e :: f :: r, b, h, 0, _ => by simpa using h.2.2.2.2.2.1
  | _ :: f :: r, b, h, j + 1, hj => right_lt n (f :: r) _ h.2.2.2.2.2 j (by simpa using hj)
theorem right_to {n : Int} {es : List Ed} (h : Right n (-1) es) (j : Nat) (hj : j < es.length) : 0 ≤ (flowTo es j).2 ∧ (flowTo es j).2 ≤ es[j].at_ ∧ 0 ≤ es[j].old ∧ es[j].at_ + es[j].old ≤ n := by
  have hm := right_mem n es _ h _ (List.getElem_mem hj)
  cases j with
  | zero => simp only [flowTo]; omega
  | succ j =>
    have := right_lt n es _ h j hj
    have hm2 := right_mem n es _ h _ (List.getElem_mem (show j < es.length by omega))
    rw [flowTo, List.getElem?_eq_getElem (by omega)]
    simp only; omega
theorem right_end {n : Int} (hn : 0 ≤ n) {es : List Ed} (h : Right n (-1) es) : 0 ≤ (flowTo es es.length).2 ∧ (flowTo es es.length).2 ≤ n := by
  cases hl : es.length with
  | zero => simp only [flowTo]; omega
  | succ j =>
    have hm2 := right_mem n es _ h _ (List.getElem_mem (show j < es.length by omega))
    rw [flowTo, List.getElem?_eq_getElem (by omega)]
    simp only; omega

theorem extract_list (s : ByteArray) (i j : Nat) : (s.extract i j).data.toList = (s.data.toList.drop i).take (j - i) := by
  simp [ByteArray.data_extract, Array.toList_extract, List.extract]
theorem applyL_keep (s : ByteArray) (a : Nat) : ∀ j, a + j ≤ s.size → applyL s (keepL a j) = (s.data.toList.drop a).take j
  | 0, _ => by simp [keepL, applyL]
  | j + 1, h => by
    have ih := applyL_keep s a j (by omega)
    have hj : j < (s.data.toList.drop a).length := by simp; omega
    rw [keepL, applyL, List.map_append, List.take_succ_eq_append_getElem hj, ← ih]
    congr 1
    have : letByte s ((a : Int) + (j : Int), 0) = s[a + j] := by
      have e : ((a : Int) + (j : Int)).toNat = a + j := by omega
      rw [letByte_old s _ _ (by omega) (by omega)]
      congr 1
    simp only [List.map_cons, List.map_nil, this, List.getElem_drop]
    rfl
theorem applyL_gap (s : ByteArray) (a b : Nat) (h : a ≤ b) (hb : b ≤ s.size) : applyL s (gapL a b) = (s.extract a b).data.toList := by
  rw [gapL, applyL_keep s a _ (by omega), extract_list]; congr 1; omega
theorem applyL_new (s t : ByteArray) : applyL s (newL t t.size) = t.data.toList := by
  unfold applyL newL
  rw [List.take_of_length_le (by simp), List.map_map]
  conv => rhs; rw [← List.map_id t.data.toList]
  apply List.map_congr_left
  intro c _
  simp [letByte]
theorem applyL_app (s : ByteArray) (l m : List Let) : applyL s (l ++ m) = applyL s l ++ applyL s m := by simp [applyL]
theorem applyL_step (s : ByteArray) (es : List Ed) (j : Nat) (hj : j < es.length) (a b : Nat) (ha : (flowTo es j).2 = (a : Int)) (hb : es[j].at_ = (b : Int)) (h : a ≤ b) (hs : b ≤ s.size) :
    applyL s (flowTo es (j + 1)).1 = applyL s (flowTo es j).1 ++ (s.extract a b).data.toList ++ es[j].new.data.toList := by
  rw [flowTo, List.getElem?_eq_getElem hj]
  simp only [applyL_app, applyL_new, ha, hb, applyL_gap s a b h hs]

set_option maxHeartbeats 4000000 in
set_option maxRecDepth 100000 in
theorem applyP_any (s : ByteArray) (a : Option Addr) (cap : Nat) (es : List Ed) (w : World) (h : changeFault s.size es = 0) (hE : Eds w a es) :
    Calls Try.prog 47 #[.string s, .slice a es.length cap] w (ApplyPost s (flowL es s.size) w) := by
  obtain ⟨h1, h2, h3, h4, h5, h6⟩ := right_all h
  have hR := (changeFault_zero h).2.2.1
  have hto := Lib.hid (fun j hj => right_to hR j hj)
  obtain ⟨e0, e1⟩ := right_end h1.1 hR
  have h3' := Lib.hid h3
  have HE := Lib.hid hE
  clear h3 h5 hR hE
  obtain ⟨P, hP⟩ : ∃ P, ApplyPost s (flowL es s.size) w = P := ⟨_, rfl⟩
  rw [hP]
  unfold ApplyPost at hP
  have HP := Lib.hid hP
  clear hP h6
  have hss : s.size ≤ 20000 := by omega
  go_enter Try.func47, Try.ntmps47
  go_wp2_with fail
  go_loopw [6, 11] (fun av i wr => ∃ (j an : Nat), j ≤ es.length ∧ i = .int .i64 j ∧ av = .int .i64 an ∧ Hid ((flowTo es j).2 = (an : Int)) ∧ Bld w.heap.size w.heap.size (applyL s (flowTo es j).1) wr ∧ w.grownBy wr none) (fun _ i _ => es.length - (intOf i).toNat)
  case atStart =>
    refine ⟨0, 0, Nat.zero_le _, rfl, rfl, Lib.hid rfl, ?_, World.grownBy_alloc w _ none⟩
    exact Lib.fresh_isBuilder 82 5 w
  case round =>
    obtain ⟨j, an, hj, rfl, rfl, HA, hB, hg⟩ := hrel
    have hsz := hg.size
    have hb0 : w.heap.size < wr.heap.size := by rcases hB with h | h <;> exact h.lt
    by_cases hlt : j < es.length
    · obtain ⟨g, off, rfl, c1, c2, c3⟩ := HE.out j hlt
      replace c1 := hg.cell c1 (by simp)
      replace c2 := hg.cell c2 (by simp)
      replace c3 := hg.cell c3 (by simp)
      have hs := h4 _ (List.getElem_mem hlt)
      have ht := hto.out j hlt
      have hL := (h3'.out j hj).1
      have hL2 := (h3'.out (j + 1) (by omega)).1
      rw [HA.out] at ht
      obtain ⟨b, hb⟩ := Int.eq_ofNat_of_zero_le hs.1
      have HST := Lib.hid (applyL_step s es j hlt an b HA.out hb (by omega) (by omega))
      have HF2 : Hid ((flowTo es (j + 1)).2 = es[j].at_ + es[j].old) := Lib.hid (by rw [flowTo, List.getElem?_eq_getElem hlt])
      have hlen1 : (applyL s (flowTo es j).1).length ≤ 60000 := by simpa [applyL] using hL
      generalize es[j] = x at c1 c2 c3 hs ht hb HST HF2
      obtain ⟨xa, xo, xn⟩ := x
      simp only at c1 c2 c3 hs ht hb HST HF2
      subst hb
      obtain ⟨o, rfl⟩ := Int.eq_ofNat_of_zero_le hs.2.2.1
      have i1 : (0 : Int) ≤ (an : Int) := by omega
      have i2 : (an : Int) ≤ (b : Int) := by omega
      have i3 : (b : Int) ≤ (s.size : Int) := by omega
      have i4 : an ≤ b := by omega
      have i5 : b ≤ s.size := by omega
      go_wp2_with fail
      refine (writeString_any w.heap.size w.heap.size _ (s.extract an b) _ (hB.grown (World.grownBy_alloc wr _ none)) (by have : (s.extract an b).size ≤ 20000 := (by simp; omega); omega) (by simp; omega)).mono ?_
      rintro e w2 ⟨rfl, hB2, F2⟩
      have hg2 := grown_of_bld (grow_trans hg (World.grownBy_alloc wr _ none)) F2 (Nat.le_refl _) (Nat.le_refl _)
      have bx := (F2.block wr.heap.size (by simp) ⟨by omega, Or.inr (by intro c fr hc; rw [heap_alloc_new wr] at hc; simp at hc)⟩).trans (heap_alloc_new wr _)
      have cx0 := cell_of_block bx 0
      have cx1 := cell_of_block bx 1
      have cx2 := cell_of_block bx 2
      simp only [List.getElem?_toArray, List.getElem?_cons_zero, List.getElem?_cons_succ] at cx0 cx1 cx2
      have hsz2 := F2.size
      have hB2' : Bld w.heap.size w.heap.size (applyL s (flowTo es j).1 ++ (s.extract an b).data.toList) w2 := Or.inr hB2
      clear hB hB2 c1 c2 c3 hg
      go_wp2_with fail
      refine (writeString_any w.heap.size w.heap.size _ xn w2 hB2' (by have : (s.extract an b).data.toList.length ≤ 20000 := (by rw [extract_list]; simp; omega); rw [List.length_append]; omega) (by simp at hsz2; omega)).mono ?_
      rintro e w3 ⟨rfl, hB3, F3⟩
      have hg3 := grown_of_bld hg2 F3 (Nat.le_refl _) (Nat.le_refl _)
      have bx3 := (F3.block wr.heap.size (by simp at hsz2; omega) ⟨by omega, Or.inr (by intro c fr hc; rw [bx] at hc; simp at hc)⟩).trans bx
      have cy0 := cell_of_block bx3 0
      have cy1 := cell_of_block bx3 1
      have cy2 := cell_of_block bx3 2
      simp only [List.getElem?_toArray, List.getElem?_cons_zero, List.getElem?_cons_succ] at cy0 cy1 cy2
      clear hg2 F2 F3 bx bx3 cx0 cx1 cx2 hB2'
      go_wp2_with fail
      refine (end_any _ _ _ _ (by omega) (by omega)).mono ?_
      rintro e w4 ⟨rfl, rfl⟩
      have hg4 := grow_alloc hg3 (.cells #[.int .i64 (b : Int), .int .i64 (o : Int), .string xn] 47)
      have hB4 : Bld w.heap.size w.heap.size (applyL s (flowTo es (j + 1)).1) (w3.alloc (.cells #[.int .i64 (b : Int), .int .i64 (o : Int), .string xn] 47)) := by
        rw [HST.out]; exact Bld.grown (Or.inr hB3) (World.grownBy_alloc _ _ _)
      have HF3 : Hid ((flowTo es (j + 1)).2 = ((b + o : Nat) : Int)) := Lib.hid (by rw [HF2.out]; omega)
      clear hg3 hB3 HF2
      go_wp2_with fail
      go_roundw
      case rel => exact ⟨j + 1, b + o, by omega, by go_num, by go_num, HF3, hB4, hg4⟩
      case measure => simp [intOf]; omega
    · obtain rfl : j = es.length := by omega
      rw [HA.out] at e0 e1
      have hL := (h3'.out es.length (Nat.le_refl _)).1
      have hlen1 : (applyL s (flowTo es es.length).1).length ≤ 60000 := by simpa [applyL] using hL
      have HX := Lib.hid (show applyL s (flowL es s.size) = applyL s (flowTo es es.length).1 ++ (s.extract an s.size).data.toList by rw [flowL, applyL_app, HA.out, applyL_gap s an s.size (by omega) (Nat.le_refl _)])
      have i1 : (0 : Int) ≤ (an : Int) := by omega
      have i2 : (an : Int) ≤ (s.size : Int) := by omega
      have i4 : an ≤ s.size := by omega
      generalize applyL s (flowTo es es.length).1 = L at hB hlen1 HX
      go_wp2_with fail
      refine (writeString_any w.heap.size w.heap.size _ (s.extract an s.size) _ hB (by have : (s.extract an s.size).size ≤ 20000 := (by simp; omega); omega) (by omega)).mono ?_
      rintro e w2 ⟨rfl, hB2, F2⟩
      have hg2 := grown_of_bld hg F2 (Nat.le_refl _) (Nat.le_refl _)
      have hsz2 := hg2.size
      rw [← HX.out] at hB2
      clear HX
      generalize applyL s (flowL es s.size) = M at hB2 HP
      go_wp2_with fail
      refine (Try.Builder_String_any w.heap.size w.heap.size _ w2 (Or.inr hB2) hsz2).mono ?_
      rintro e w3 ⟨rfl, hb3⟩
      have HG := Lib.hid (grow_below hg2 hb3)
      clear hg2 hb3 hB2 hB hg F2
      go_wp2_with fail
      try go_ret
      rw [← HP.out]
      exact ⟨rfl, HG.out⟩
end Go.Proofs.Ytajigndlcdiinaa
