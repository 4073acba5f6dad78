/- Package edit: the steps of merged hand out the letters of both changes behind one another, plain. -/
import Derived.Test.YtajigndlcdiinaaDTc
namespace Go.Proofs.Ytajigndlcdiinaa
open Go.RowKit

/-- The letters of a change with pieces B behind the letters fl, an offset at a time. -/
def thTo (fl : List Let) (B : List Pce) (m : Int) : Int → Nat → List Let
  | _, 0 => []
  | p, k + 1 => newsAt B p ++ (if p < m ∧ goneP B p = false then [fl.getD p.toNat (0, 0)] else []) ++ thTo fl B m (p + 1) k
theorem thTo_add (fl : List Let) (B : List Pce) (m : Int) : ∀ (j : Nat) (a : Int) (k : Nat), thTo fl B m a (j + k) = thTo fl B m a j ++ thTo fl B m (a + j) k
  | 0, a, k => by simp [thTo]
  | j + 1, a, k => by
    rw [show j + 1 + k = (j + k) + 1 by omega, thTo, thTo_add fl B m j (a + 1) k, thTo]
    rw [show a + 1 + (j : Int) = a + ((j + 1 : Nat) : Int) by omega]
    simp only [List.append_assoc]
def segL (fl : List Let) (a : Int) (k : Nat) : List Let := (List.range k).map fun (i : Nat) => fl.getD (a + (i : Int)).toNat (0, 0)
theorem segL_cons (fl : List Let) (a : Int) (k : Nat) : segL fl a (k + 1) = fl.getD a.toNat (0, 0) :: segL fl (a + 1) k := by
  unfold segL
  rw [List.range_succ_eq_map, List.map_cons, List.map_map]
  congr 1
  · simp
  · apply List.map_congr_left
    intro i _
    simp only [Function.comp]
    congr 1; omega
theorem thTo_same (fl : List Let) (B : List Pce) (m : Int) (g : Bool) : ∀ (k : Nat) (a : Int), a + k ≤ m → (∀ p, a ≤ p → p < a + k → newsAt B p = [] ∧ goneP B p = g) → thTo fl B m a k = if g then [] else segL fl a k
  | 0, a, _, _ => by cases g <;> rfl
  | k + 1, a, hn, h => by
    obtain ⟨h1, h2⟩ := h a (Int.le_refl _) (by omega)
    rw [thTo, thTo_same fl B m g k (a + 1) (by omega) (fun p p1 p2 => h p (by omega) (by omega)), h1, h2]
    cases g with
    | true => simp
    | false => rw [if_pos ⟨by omega, rfl⟩, segL_cons]; rfl
theorem Ord.all {n : Int} : ∀ (ps : List Pce) (b : Int), Ord n b ps → ∀ q ∈ ps, b ≤ q.at_
  | [], _, _, q, hq => by cases hq
  | p :: r, b, h, q, hq => by
    obtain ⟨h1, h2, h3, h4, h5⟩ := h
    rcases List.mem_cons.1 hq with rfl | hq
    · exact h1
    · have := Ord.all r _ h5 q hq; omega

/-- Where the walk over a change's pieces stands: the last one is the one that has begun last. -/
def Wl (ps : List Pce) (la : Pce) (j : Nat) (at_ : Int) : Prop := at_ < la.at_ + la.long → ∃ i, ∃ h : i < ps.length, j = i + 1 ∧ ps[i] = la
theorem Wl.arr {ps : List Pce} {la : Pce} {j : Nat} {at_ : Int} (h : Wl ps la j at_) : Wl ps (arrP ps la j at_) (arrJ ps j at_) at_ := by
  unfold Wl arrP arrJ
  by_cases hj : j < ps.length
  · simp only [dif_pos hj]
    by_cases he : ps[j].at_ = at_
    · simp only [if_pos he]
      exact fun _ => ⟨j, hj, rfl, rfl⟩
    · simp only [if_neg he]; exact h
  · simp only [dif_neg hj]; exact h
theorem Wl.on {ps : List Pce} {la : Pce} {j : Nat} {at_ t : Int} (h : Wl ps la j at_) (ht : at_ ≤ t) : Wl ps la j t := fun hl => h (by omega)

/-- Where the draft stands in the old text. -/
def orgPos (es : List Ed) (la : Pce) (j : Nat) (at_ : Int) : Int := if at_ < la.at_ + la.long then la.ed.at_ + la.ed.old else at_ - shTo es j
theorem comP_get (es : List Ed) (i : Nat) (h : i < (comP es).length) : (comP es)[i] = ⟨(es[i]'(by rw [comP, comG_len] at h; exact h)).at_ + shTo es i, (es[i]'(by rw [comP, comG_len] at h; exact h)).new.size, es[i]'(by rw [comP, comG_len] at h; exact h)⟩ := by
  have h' : i < es.length := by rw [comP, comG_len] at h; exact h
  have := comG_get es 0 i h'
  rw [Int.zero_add] at this
  exact this
theorem orgPos_arr {m : Int} {es : List Ed} {la : Pce} {j : Nat} {at_ : Int} (s : Wst m (comP es) la j at_) : orgPos es la j at_ + (arrB (comP es) j at_).old = orgPos es (arrP (comP es) la j at_) (arrJ (comP es) j at_) at_ := by
  unfold arrB arrP arrJ
  by_cases hj : j < (comP es).length
  · have hj' : j < es.length := by rw [comP, comG_len] at hj; exact hj
    have hd : (comP es).drop j = (comP es)[j] :: (comP es).drop (j + 1) := List.drop_eq_getElem_cons hj
    simp only [dif_pos hj]
    by_cases he : (comP es)[j].at_ = at_
    · simp only [if_pos he]
      have hg := s.gap
      rw [hd] at hg
      have hla : ¬ at_ < la.at_ + la.long := fun h => by have := (hg h).1; omega
      have hc := comP_get es j hj
      rw [hc] at he
      simp only at he
      unfold orgPos
      rw [if_neg hla, hc]
      simp only
      rw [shTo_succ es j hj']
      split <;> omega
    · simp only [if_neg he]
      simp [edZ]
  · simp only [dif_neg hj]
    simp [edZ]
/-- Inside a piece the draft stands still. -/
theorem orgPos_in {es : List Ed} {la : Pce} {j : Nat} {at_ t : Int} (w : Wl (comP es) la j at_) (h1 : at_ < la.at_ + la.long) (h2 : t ≤ la.at_ + la.long) : orgPos es la j t = la.ed.at_ + la.ed.old := by
  obtain ⟨i, hi, rfl, he⟩ := w h1
  have hi' : i < es.length := by rw [comP, comG_len] at hi; exact hi
  rw [comP_get es i hi] at he
  unfold orgPos
  split
  · rfl
  · rw [← he] at h2 ⊢
    simp only at h2 ⊢
    rename_i h3
    rw [← he] at h3
    simp only at h3
    rw [shTo_succ es i hi']
    omega
theorem wh_lk {m : Int} {es : List Ed} {la : Pce} {j : Nat} {at_ t p : Int} (h0 : 0 ≤ at_) (k : Wh m (comP es) la j at_) (o : Ord m t ((comP es).drop j)) (hj : j ≤ es.length) (h1 : at_ ≤ p) (h2 : p < t) :
    lk (comP es) 0 p = if p < la.at_ + la.long then (-1, la.ed.new.data.toList.getD (p - la.at_).toNat 0) else (p - shTo es j, 0) := by
  have kb : ∀ i (hi : i < (comG 0 es).length), i < j → (comG 0 es)[i].at_ ≤ at_ ∧ ((comG 0 es)[i].at_ + (comG 0 es)[i].long ≤ at_ ∨ (comG 0 es)[i] = la) := k.bef
  have := lk_state la p es 0 j (fun i hi hij => by have := kb i hi hij; exact ⟨by omega, this.2.imp (fun g => by omega) id⟩) (fun i hi hij => by
    have hm : (comG 0 es)[i] ∈ (comP es).drop j := by
      rw [List.mem_drop_iff_getElem]
      exact ⟨i - j, by have : (comP es).length = (comG 0 es).length := rfl; omega, by
        have e : j + (i - j) = i := by omega
        simp only [comP, e]⟩
    have := Ord.all _ _ o _ hm; omega) hj (fun h => by
    rcases k.lst with e | ⟨i, hi, hij, e⟩
    · subst e; simp [pcZ] at h; omega
    · exact ⟨i, hi, hij, e⟩)
  rw [Int.zero_add] at this
  exact this
theorem newL_list (s : ByteArray) : newL s s.size = s.data.toList.map fun c => ((-1 : Int), c) := newL_all s
theorem sub_new (s : ByteArray) (f t : Nat) (ht : t ≤ s.size) : newL (s.extract f t) (s.extract f t).size = (List.range (t - f)).map fun i => ((-1 : Int), s.data.toList.getD (f + i) 0) := by
  rw [newL_all]
  apply List.ext_getElem?
  intro i
  have hs : s.data.toList.length = s.size := by rw [Array.length_toList]; rfl
  have he : (s.extract f t).data.toList = (s.data.toList.drop f).take (t - f) := by
    simp [ByteArray.data_extract, List.take_drop]
  rw [he]
  by_cases hi : i < t - f
  · have h3 : f + i < s.data.size := by have : s.data.size = s.size := rfl; omega
    simp [hi, List.getD_eq_getElem?_getD, Array.getElem?_eq_getElem h3]
  · simp [hi, List.getElem?_take]
/-- The letters of the text after a change that a step goes along. -/
theorem seg_step {n m : Int} {es : List Ed} (hr : Right n (-1) es) (h0n : 0 ≤ n) (hm : m = n + newSum es - oldSum es) {la : Pce} {j : Nat} {at_ t : Int} (h0 : 0 ≤ at_) (htm : t ≤ m) (k : Wh m (comP es) la j at_) (o : Ord m t ((comP es).drop j)) (hj : j ≤ es.length) (wl : Wl (comP es) la j at_) (wa : t ≤ la.at_ + la.long ∨ la.at_ + la.long ≤ at_) (ht : at_ ≤ t) :
    segL (flowL es n) at_ (t - at_).toNat = if inP la at_ then newL (la.ed.new.extract (at_ - la.at_).toNat (at_ - la.at_ + (t - at_)).toNat) (la.ed.new.extract (at_ - la.at_).toNat (at_ - la.at_ + (t - at_)).toNat).size else keepL (orgPos es la j at_) (t - at_).toNat := by
  have hf : ∀ p, at_ ≤ p → p < t → (flowL es n).getD p.toNat (0, 0) = if p < la.at_ + la.long then (-1, la.ed.new.data.toList.getD (p - la.at_).toNat 0) else (p - shTo es j, 0) := fun p p1 p2 => by
    have := flow_lk n es (-1) 0 0 p hr (by omega) h0n (by omega) (by omega)
    rw [Int.zero_add, Int.sub_zero] at this
    rw [flowL_go, List.getD_eq_getElem?_getD, this]
    exact wh_lk h0 k o hj p1 p2
  by_cases hin : at_ < la.at_ + la.long
  · rw [if_pos (by simpa [inP] using hin)]
    obtain ⟨i, hi, rfl, he⟩ := wl hin
    have hi' : i < es.length := by rw [comP, comG_len] at hi; exact hi
    have hb := (k.bef i hi (by omega)).1
    rw [he] at hb
    have hz : la.long = la.ed.new.size := by rw [← he, comP_get es i hi]
    have ht2 : t ≤ la.at_ + la.long := by rcases wa with h | h <;> omega
    rw [sub_new _ _ _ (by omega)]
    unfold segL
    rw [show (at_ - la.at_ + (t - at_)).toNat - (at_ - la.at_).toNat = (t - at_).toNat by omega]
    apply List.map_congr_left
    intro q hq
    have hq2 := List.mem_range.1 hq
    rw [hf _ (by omega) (by omega), if_pos (by omega)]
    congr 2; omega
  · rw [if_neg (by simpa [inP] using hin), keepL_map]
    unfold segL orgPos
    rw [if_neg hin]
    apply List.map_congr_left
    intro q hq
    have hq2 := List.mem_range.1 hq
    rw [hf _ (by omega) (by omega), if_neg (by omega)]
    congr 1; omega
theorem th_step {fl : List Let} {B : List Pce} {m at_ t : Int} {lb : Pce} {jb : Nat} (h0 : 0 ≤ at_) (hn : t ≤ m) (ht : at_ < t) (kb : Wh m B lb jb at_) (ob : Ord m t (B.drop jb)) (wb : t ≤ lb.at_ + lb.long ∨ lb.at_ + lb.long ≤ at_) {eb : Ed} (nb : newsAt B at_ = newL eb.new eb.new.size) :
    thTo fl B m at_ (t - at_).toNat = newL eb.new eb.new.size ++ if inP lb at_ then [] else segL fl at_ (t - at_).toNat := by
  obtain ⟨k, hk⟩ : ∃ k, (t - at_).toNat = k + 1 := ⟨(t - at_).toNat - 1, by omega⟩
  have gb : goneP B at_ = inP lb at_ := kb.gone h0 ob (Int.le_refl _) ht wb
  rw [hk, thTo, thTo_same fl B m (inP lb at_) k (at_ + 1) (by omega) (fun p p1 p2 => ⟨kb.news ob (by omega) (by omega), kb.gone h0 ob (by omega) (by omega) wb⟩), nb, gb, segL_cons]
  cases hg : inP lb at_ with
  | true => rw [if_neg (by rintro ⟨-, g⟩; cases g)]; simp
  | false => rw [if_pos ⟨by omega, rfl⟩]; simp
end Go.Proofs.Ytajigndlcdiinaa
