/- Package edit: a draft and the letters of its change, plain. Package edit: the letters of Both's steps are those of the two changes mixed, plain. Package edit: the letters of Past's steps, plain. Package edit: what the reference reckons for Past, a byte at a time, plain. Package edit: the reference's letters, a byte at a time, plain. Package edit: what the reference's Past says, plain. Package edit: how long a text is behind a draft's change, plain. -/
import Derived.Test.YtajigndlcdiinaaDQ2
import Derived.Test.YtajigndlcdiinaaDI0
namespace Go.Proofs.Ytajigndlcdiinaa
open Go.RowKit

theorem keepL_map (a : Int) : ∀ j : Nat, keepL a j = (List.range j).map fun (i : Nat) => (a + (i : Int), (0 : UInt8))
  | 0 => rfl
  | j + 1 => by rw [keepL, keepL_map a j, List.range_succ, List.map_append]; rfl
theorem newL_all (s : ByteArray) : newL s s.size = s.data.toList.map fun c => (-1, c) := by
  unfold newL
  rw [List.take_of_length_le]
  show s.data.toList.length ≤ s.data.size
  rw [Array.length_toList]
  exact Nat.le_refl _

/-- A draft that stands at p, and the letters behind it. -/
structure DF (d : Dr) (ls : List Let) (p : Int) : Prop where
  st : edFold (0, ⟨#[]⟩, []) ls = (d.at_, d.txt, d.out)
  pos : p = d.at_ + d.old
  old : 0 ≤ d.old
  bgn : 0 ≤ d.at_
theorem DF.zero : DF drZ [] 0 := ⟨rfl, rfl, Int.le_refl _, Int.le_refl _⟩
theorem DF.put {d : Dr} {ls : List Let} {p : Int} (h : DF d ls p) (s : ByteArray) : DF (d.put s) (ls ++ newL s s.size) p := by
  refine ⟨?_, h.pos, h.old, h.bgn⟩
  rw [edFold_app, h.st, newL_all, edFold_new]
  rfl
theorem DF.drop {d : Dr} {ls : List Let} {p : Int} (h : DF d ls p) {l : Int} (hl : 0 ≤ l) : DF (d.drop l) ls (p + l) :=
  ⟨h.st, by have := h.pos; show p + l = d.at_ + (d.old + l); omega, by have := h.old; show 0 ≤ d.old + l; omega, h.bgn⟩
theorem close_closeE (d : Dr) (h0 : 0 ≤ d.old) : d.close.out = closeE d.at_ (d.at_ + d.old) d.txt d.out ∧ d.close.at_ = d.at_ + d.old ∧ d.close.old = 0 ∧ d.close.txt.size = 0 := by
  unfold Dr.close closeE
  by_cases h : d.old = 0 ∧ d.txt.size = 0
  · rw [if_pos h, if_neg (by rintro (g | g) <;> omega)]
    exact ⟨rfl, by omega, h.1, h.2⟩
  · rw [if_neg h, if_pos (by omega)]
    refine ⟨?_, rfl, rfl, rfl⟩
    simp only
    congr 3
    omega
theorem size_nil {s : ByteArray} (h : s.size = 0) : (⟨#[]⟩ : ByteArray) = s := by
  obtain ⟨⟨l⟩⟩ := s
  cases l with
  | nil => rfl
  | cons a l => simp [ByteArray.size] at h
theorem DF.done {d : Dr} {ls : List Let} {p : Int} (h : DF d ls p) : d.close.out = editsOf p ls := by
  rw [editsOf_fold, h.st, h.pos]
  exact (close_closeE d h.old).1
theorem DF.keep {d : Dr} {ls : List Let} {p : Int} (h : DF d ls p) {l : Int} (hl : 0 ≤ l) : DF (d.keep l) (ls ++ keepL p l.toNat) (p + l) := by
  obtain ⟨c1, c2, c3, c4⟩ := close_closeE d h.old
  unfold Dr.keep
  by_cases h0 : l = 0
  · subst h0
    rw [if_pos rfl]
    simpa [keepL] using h
  · rw [if_neg h0]
    have hp := h.pos
    have ho := h.old
    have hb := h.bgn
    refine ⟨?_, ?_, ?_, ?_⟩
    · rw [edFold_app, h.st, keepL_map, edFold_kept d.at_ d.txt d.out p (by omega) (fun _ => 0) l.toNat (by omega), hp, ← c1]
      simp only [Prod.mk.injEq, and_true]
      exact ⟨by rw [c2]; omega, size_nil c4⟩
    · simp only; rw [c2, c3]; omega
    · simp only; rw [c3]; exact Int.le_refl _
    · simp only; rw [c2]; omega

/-- The letters of a step of Both. -/
def mixS (x : Stp) : List Let := newL x.ab.new x.ab.new.size ++ newL x.bb.new x.bb.new.size ++ if x.ai || x.bi then [] else keepL x.at_ x.long.toNat
theorem DF.both {d : Dr} {ls : List Let} {p : Int} (h : DF d ls p) {x : Stp} (hx : x.at_ = p) (hl : 0 ≤ x.long) : DF (bothS d x) (ls ++ mixS x) (p + x.long) := by
  have h1 := (h.put x.ab.new).put x.bb.new
  unfold bothS mixS
  by_cases hi : (x.ai || x.bi) = true
  · rw [if_pos hi, if_pos hi]
    simpa using h1.drop hl
  · rw [if_neg hi, if_neg hi, hx]
    simpa using h1.keep hl
theorem runs_both {A B : List Pce} {n at_ : Int} {la : Pce} {ja : Nat} {lb : Pce} {jb : Nat} {xs : List Stp} (h : Runs A B n at_ la ja lb jb xs) : (∀ x ∈ xs, StpOk x) → ∀ (d : Dr) (ls : List Let), DF d ls at_ → DF (xs.foldl bothS d) (ls ++ xs.flatMap mixS) n := by
  induction h with
  | @last la ja lb jb h0 =>
    intro hx d ls hd
    have hk := (hx _ List.mem_cons_self).1
    have h1 := hd.both (x := stpA A B n n la ja lb jb) rfl hk
    simp only [List.foldl_cons, List.foldl_nil, List.flatMap_cons, List.flatMap_nil, List.append_nil]
    refine ⟨h1.st, ?_, h1.old, h1.bgn⟩
    have h2 := h1.pos
    have h3 : (stpA A B n n la ja lb jb).long ≤ 0 := by simp only [stpA, toV]; omega
    rw [← h2]
    omega
  | more h0 h1 h2 h3 ih =>
    intro hx d ls hd
    have hk := (hx _ List.mem_cons_self).1
    have h4 := hd.both rfl hk
    simp only [List.foldl_cons, List.flatMap_cons]
    rw [← List.append_assoc]
    refine ih (fun x h => hx x (List.mem_cons_of_mem _ h)) _ _ ⟨h4.st, ?_, h4.old, h4.bgn⟩
    rw [← h4.pos]
    simp only [stpA]
    omega
/-- What Both's draft hands out, as the letters' edits. -/
theorem both_edits {n : Int} {A B : List Pce} {xs : List Stp} (h : Runs A B n 0 pcZ 0 pcZ 0 xs) (hx : ∀ x ∈ xs, StpOk x) : (xs.foldl bothS drZ).close.out = editsOf n (xs.flatMap mixS) := by
  have := (runs_both h hx drZ [] DF.zero).done
  simpa using this

/-- The letters of Past's first answer: in the text after the first change, from q on. -/
def pastAL : Int → List Stp → List Let
  | _, [] => []
  | q, x :: r => keepL q x.ab.new.size ++ newL x.bb.new x.bb.new.size ++
    if x.ai then pastAL (q + x.ab.new.size) r
    else (if x.bi then [] else keepL (q + x.ab.new.size) x.long.toNat) ++ pastAL (q + x.ab.new.size + x.long) r
/-- How long the text after the first change is from there on. -/
def lenAL : Int → List Stp → Int
  | q, [] => q
  | q, x :: r => if x.ai then lenAL (q + x.ab.new.size) r else lenAL (q + x.ab.new.size + x.long) r
def pastBL : Int → List Stp → List Let
  | _, [] => []
  | q, x :: r => newL x.ab.new x.ab.new.size ++ keepL q x.bb.new.size ++
    if x.bi then pastBL (q + x.bb.new.size) r
    else (if x.ai then [] else keepL (q + x.bb.new.size) x.long.toNat) ++ pastBL (q + x.bb.new.size + x.long) r
def lenBL : Int → List Stp → Int
  | q, [] => q
  | q, x :: r => if x.bi then lenBL (q + x.bb.new.size) r else lenBL (q + x.bb.new.size + x.long) r
theorem DF.keepN {d : Dr} {ls : List Let} {p : Int} (h : DF d ls p) (k : Nat) : DF (d.keep k) (ls ++ keepL p k) (p + k) := by
  simpa using h.keep (l := k) (by omega)
theorem pastA_fold : ∀ (xs : List Stp) (d : Dr) (ls : List Let) (q : Int), (∀ x ∈ xs, StpOk x) → DF d ls q → DF (xs.foldl pastA d) (ls ++ pastAL q xs) (lenAL q xs)
  | [], d, ls, q, _, h => by simpa [pastAL, lenAL] using h
  | x :: r, d, ls, q, hx, h => by
    have hk := (hx x List.mem_cons_self).1
    have hr := fun y hy => hx y (List.mem_cons_of_mem _ hy)
    have h1 := (h.keepN x.ab.new.size).put x.bb.new
    simp only [List.foldl_cons, pastAL, lenAL]
    by_cases ha : x.ai = true
    · rw [if_pos ha, if_pos ha]
      have h2 := pastA_fold r _ _ _ hr h1
      rw [pastA, if_pos ha]
      simpa [List.append_assoc] using h2
    · rw [if_neg ha, if_neg ha]
      by_cases hb : x.bi = true
      · rw [if_pos hb, pastA, if_neg ha, if_pos hb]
        have h2 := pastA_fold r _ _ _ hr (h1.drop hk)
        simpa [List.append_assoc] using h2
      · rw [if_neg hb, pastA, if_neg ha, if_neg hb]
        have h2 := pastA_fold r _ _ _ hr (h1.keep hk)
        simpa [List.append_assoc] using h2
theorem pastB_fold : ∀ (xs : List Stp) (d : Dr) (ls : List Let) (q : Int), (∀ x ∈ xs, StpOk x) → DF d ls q → DF (xs.foldl pastB d) (ls ++ pastBL q xs) (lenBL q xs)
  | [], d, ls, q, _, h => by simpa [pastBL, lenBL] using h
  | x :: r, d, ls, q, hx, h => by
    have hk := (hx x List.mem_cons_self).1
    have hr := fun y hy => hx y (List.mem_cons_of_mem _ hy)
    have h1 := (h.put x.ab.new).keepN x.bb.new.size
    simp only [List.foldl_cons, pastBL, lenBL]
    by_cases hb : x.bi = true
    · rw [if_pos hb, if_pos hb]
      have h2 := pastB_fold r _ _ _ hr h1
      rw [pastB, if_pos hb]
      simpa [List.append_assoc] using h2
    · rw [if_neg hb, if_neg hb]
      by_cases ha : x.ai = true
      · rw [if_pos ha, pastB, if_neg hb, if_pos ha]
        have h2 := pastB_fold r _ _ _ hr (h1.drop hk)
        simpa [List.append_assoc] using h2
      · rw [if_neg ha, pastB, if_neg hb, if_neg ha]
        have h2 := pastB_fold r _ _ _ hr (h1.keep hk)
        simpa [List.append_assoc] using h2
/-- What Past's drafts hand out. -/
theorem past_edits {xs : List Stp} (hx : ∀ x ∈ xs, StpOk x) : (xs.foldl pastA drZ).close.out = editsOf (lenAL 0 xs) (pastAL 0 xs) ∧ (xs.foldl pastB drZ).close.out = editsOf (lenBL 0 xs) (pastBL 0 xs) := by
  have h1 := (pastA_fold xs drZ [] 0 hx DF.zero).done
  have h2 := (pastB_fold xs drZ [] 0 hx DF.zero).done
  exact ⟨by simpa using h1, by simpa using h2⟩
end Go.Proofs.Ytajigndlcdiinaa
namespace Go.Proofs.Ytajigndlcdiinaa
open Go.RowKit

/-- What pieces put in ahead of byte p; whether one takes it out. -/
def newsAt (ps : List Pce) (p : Int) : List Let := ps.flatMap fun q => if q.at_ = p then newL q.ed.new q.ed.new.size else []
def goneP (ps : List Pce) (p : Int) : Bool := ps.any fun q => decide (q.at_ ≤ p) && decide (p < q.at_ + q.long)
def mixAt (A B : List Pce) (n p : Int) : List Let := newsAt A p ++ newsAt B p ++ if p < n ∧ goneP A p = false ∧ goneP B p = false then [(p, 0)] else []
def mixTo (A B : List Pce) (n a : Int) : Nat → List Let
  | 0 => []
  | k + 1 => mixAt A B n a ++ mixTo A B n (a + 1) k

theorem news_none {n : Int} : ∀ (ps : List Pce) (b p : Int), Ord n b ps → p < b → newsAt ps p = []
  | [], _, _, _, _ => rfl
  | q :: r, b, p, h, hp => by
    obtain ⟨h1, h2, h3, h4, h5⟩ := h
    have ih := news_none r _ p h5 (by omega)
    simp only [newsAt, List.flatMap_cons] at ih ⊢
    rw [if_neg (by omega), ih]; rfl
theorem gone_none {n : Int} : ∀ (ps : List Pce) (b p : Int), Ord n b ps → p < b → goneP ps p = false
  | [], _, _, _, _ => rfl
  | q :: r, b, p, h, hp => by
    obtain ⟨h1, h2, h3, h4, h5⟩ := h
    have ih := gone_none r _ p h5 (by omega)
    simp only [goneP, List.any_cons] at ih ⊢
    rw [ih]
    have : decide (q.at_ ≤ p) = false := by simp; omega
    rw [this]; rfl
theorem news_take (ps : List Pce) (p : Int) (j : Nat) (h : ∀ i (hi : i < ps.length), i < j → ps[i].at_ ≠ p) : newsAt (ps.take j) p = [] := by
  simp only [newsAt, List.flatMap_eq_nil_iff]
  intro q hq
  obtain ⟨i, hi, rfl⟩ := List.mem_take_iff_getElem.1 hq
  exact if_neg (h i (by omega) (by omega))
theorem news_split (ps : List Pce) (p : Int) (j : Nat) : newsAt ps p = newsAt (ps.take j) p ++ newsAt (ps.drop j) p := by
  have : ps = ps.take j ++ ps.drop j := (List.take_append_drop j ps).symm
  conv => lhs; rw [this]
  simp only [newsAt, List.flatMap_append]
theorem gone_split (ps : List Pce) (p : Int) (j : Nat) : goneP ps p = (goneP (ps.take j) p || goneP (ps.drop j) p) := by
  have : ps = ps.take j ++ ps.drop j := (List.take_append_drop j ps).symm
  conv => lhs; rw [this]
  simp only [goneP, List.any_append]

/-- What has begun before a step. -/
structure Wg (ps : List Pce) (la : Pce) (j : Nat) (at_ : Int) : Prop where
  bef : ∀ i (h : i < ps.length), i < j → ps[i].at_ < at_ ∧ (ps[i].at_ + ps[i].long ≤ at_ ∨ ps[i] = la)
  lst : la = pcZ ∨ ∃ i, ∃ h : i < ps.length, i < j ∧ ps[i] = la
/-- What has begun when a step has come to its offset. -/
structure Wh (n : Int) (ps : List Pce) (la : Pce) (j : Nat) (at_ : Int) : Prop where
  bef : ∀ i (h : i < ps.length), i < j → ps[i].at_ ≤ at_ ∧ (ps[i].at_ + ps[i].long ≤ at_ ∨ ps[i] = la)
  lst : la = pcZ ∨ ∃ i, ∃ h : i < ps.length, i < j ∧ ps[i] = la
theorem Wg.arr {n at_ : Int} {ps : List Pce} {la : Pce} {j : Nat} (h : Wg ps la j at_) (s : Wst n ps la j at_) : Wh n ps (arrP ps la j at_) (arrJ ps j at_) at_ ∧ newsAt ps at_ = newL (arrB ps j at_).new (arrB ps j at_).new.size := by
  obtain ⟨h1, h2⟩ := h
  have ht := news_take ps at_ j (fun i hi hj => by have := (h1 i hi hj).1; omega)
  rw [news_split ps at_ j, ht, List.nil_append]
  unfold arrP arrJ arrB
  by_cases hj : j < ps.length
  · have hd : ps.drop j = ps[j] :: ps.drop (j + 1) := List.drop_eq_getElem_cons hj
    have hr := s.rest
    have hg := s.gap
    rw [hd] at hr hg ⊢
    obtain ⟨a1, a2, a3, a4, a5⟩ := hr
    simp only [dif_pos hj]
    by_cases he : ps[j].at_ = at_
    · simp only [if_pos he]
      have hla : la.at_ + la.long ≤ at_ := by
        by_cases h : at_ < la.at_ + la.long
        · have := (hg h).1; omega
        · omega
      refine ⟨⟨?_, .inr ⟨j, hj, by omega, rfl⟩⟩, ?_⟩
      · intro i hi hij
        by_cases e : i = j
        · subst e; exact ⟨by omega, .inr rfl⟩
        · have := h1 i hi (by omega)
          refine ⟨by omega, .inl ?_⟩
          rcases this.2 with g | g
          · exact g
          · rw [g]; exact hla
      · have ih := news_none _ _ at_ a5 (by omega)
        simp only [newsAt, List.flatMap_cons] at ih ⊢
        rw [if_pos he, ih, List.append_nil]
    · simp only [if_neg he]
      refine ⟨⟨fun i hi hij => ⟨by have := (h1 i hi hij).1; omega, (h1 i hi hij).2⟩, h2⟩, ?_⟩
      have := news_none (ps[j] :: ps.drop (j + 1)) (at_ + 1) at_ ⟨by omega, a2, a3, a4, a5⟩ (by omega)
      rw [this]; rfl
  · simp only [dif_neg hj]
    refine ⟨⟨fun i hi hij => ⟨by have := (h1 i hi hij).1; omega, (h1 i hi hij).2⟩, h2⟩, ?_⟩
    rw [List.drop_of_length_le (by omega)]; rfl
theorem Wh.on {n at_ t : Int} {ps : List Pce} {la : Pce} {j : Nat} (h : Wh n ps la j at_) (ht : at_ < t) (_ : t ≤ la.at_ + la.long ∨ la.at_ + la.long ≤ at_) : Wg ps la j t :=
  ⟨fun i hi hij => ⟨by have := (h.bef i hi hij).1; omega, (h.bef i hi hij).2.imp (fun g => by omega) id⟩, h.lst⟩
theorem Wh.news {n at_ t p : Int} {ps : List Pce} {la : Pce} {j : Nat} (h : Wh n ps la j at_) (s : Ord n t (ps.drop j)) (h1 : at_ < p) (h2 : p < t) : newsAt ps p = [] := by
  rw [news_split ps p j, news_take ps p j (fun i hi hij => by have := (h.bef i hi hij).1; omega), news_none _ _ p s h2]; rfl
theorem Wh.gone {n at_ t p : Int} {ps : List Pce} {la : Pce} {j : Nat} (h : Wh n ps la j at_) (h0 : 0 ≤ at_) (s : Ord n t (ps.drop j)) (h1 : at_ ≤ p) (h2 : p < t) (hl : t ≤ la.at_ + la.long ∨ la.at_ + la.long ≤ at_) : goneP ps p = inP la at_ := by
  rw [gone_split ps p j, gone_none _ _ p s h2, Bool.or_false, Bool.eq_iff_iff]
  simp only [goneP, List.any_eq_true, Bool.and_eq_true, decide_eq_true_eq, inP]
  constructor
  · rintro ⟨q, hq, g1, g2⟩
    obtain ⟨i, hi, rfl⟩ := List.mem_take_iff_getElem.1 hq
    rcases (h.bef i (by omega) (by omega)).2 with g | g
    · omega
    · rw [g] at g2; omega
  · intro g
    rcases h.lst with e | ⟨i, hi, hij, e⟩
    · subst e; simp [pcZ] at g; omega
    · refine ⟨la, ?_, ?_, ?_⟩
      · rw [← e]; exact List.mem_take_iff_getElem.2 ⟨i, by omega, rfl⟩
      · have := (h.bef i hi hij).1; rw [e] at this; omega
      · omega

theorem mixTo_add (A B : List Pce) (n : Int) : ∀ (j : Nat) (a : Int) (k : Nat), mixTo A B n a (j + k) = mixTo A B n a j ++ mixTo A B n (a + j) k
  | 0, a, k => by simp [mixTo]
  | j + 1, a, k => by
    rw [show j + 1 + k = (j + k) + 1 by omega, mixTo, mixTo_add A B n j (a + 1) k, mixTo, List.append_assoc]
    congr 3; omega
theorem keepL_cons (a : Int) (j : Nat) : keepL a (j + 1) = (a, 0) :: keepL (a + 1) j := by
  rw [keepL_map, keepL_map, List.range_succ_eq_map, List.map_cons, List.map_map]
  congr 1
  · simp
  · apply List.map_congr_left
    intro i _
    simp only [Function.comp, Prod.mk.injEq, and_true]
    omega
/-- Offsets without news, all alike. -/
theorem mixTo_same (A B : List Pce) (n : Int) (g : Bool) : ∀ (k : Nat) (a : Int), a + k ≤ n → (∀ p, a ≤ p → p < a + k → newsAt A p = [] ∧ newsAt B p = [] ∧ (goneP A p || goneP B p) = g) → mixTo A B n a k = if g then [] else keepL a k
  | 0, a, _, _ => by cases g <;> rfl
  | k + 1, a, hn, h => by
    obtain ⟨h1, h2, h3⟩ := h a (Int.le_refl _) (by omega)
    rw [mixTo, mixTo_same A B n g k (a + 1) (by omega) (fun p p1 p2 => h p (by omega) (by omega)), mixAt, h1, h2]
    cases g with
    | true =>
      rw [if_neg (by rintro ⟨-, g1, g2⟩; rw [g1, g2] at h3; cases h3)]; rfl
    | false =>
      rw [Bool.or_eq_false_iff] at h3
      rw [if_pos ⟨by omega, h3.1, h3.2⟩, keepL_cons]; rfl

theorem nxt_way {n at_ t : Int} {ps : List Pce} {la : Pce} {j : Nat} (h : t ≤ nxtV ps la j at_ n) : t ≤ la.at_ + la.long ∨ la.at_ + la.long ≤ at_ := by
  unfold nxtV at h
  split at h
  · exact .inl h
  · exact .inr (by omega)
theorem step_mix {A B : List Pce} {n at_ t : Int} {la lb : Pce} {ja jb : Nat} (h0 : 0 ≤ at_) (hn : t ≤ n) (ht : at_ < t) (ka : Wh n A la ja at_) (kb : Wh n B lb jb at_) (oa : Ord n t (A.drop ja)) (ob : Ord n t (B.drop jb))
    (wa : t ≤ la.at_ + la.long ∨ la.at_ + la.long ≤ at_) (wb : t ≤ lb.at_ + lb.long ∨ lb.at_ + lb.long ≤ at_) {ea eb : Ed} (na : newsAt A at_ = newL ea.new ea.new.size) (nb : newsAt B at_ = newL eb.new eb.new.size) :
    mixTo A B n at_ (t - at_).toNat = newL ea.new ea.new.size ++ newL eb.new eb.new.size ++ if inP la at_ || inP lb at_ then [] else keepL at_ (t - at_).toNat := by
  obtain ⟨k, hk⟩ : ∃ k, (t - at_).toNat = k + 1 := ⟨(t - at_).toNat - 1, by omega⟩
  have ga : goneP A at_ = inP la at_ := ka.gone h0 oa (Int.le_refl _) ht wa
  have gb : goneP B at_ = inP lb at_ := kb.gone h0 ob (Int.le_refl _) ht wb
  rw [hk, mixTo, mixTo_same A B n (inP la at_ || inP lb at_) k (at_ + 1) (by omega) (fun p p1 p2 => ⟨ka.news oa (by omega) (by omega), kb.news ob (by omega) (by omega), by
    rw [ka.gone h0 oa (by omega) (by omega) wa, kb.gone h0 ob (by omega) (by omega) wb]⟩)]
  rw [mixAt, na, nb, ga, gb, keepL_cons]
  cases hg : (inP la at_ || inP lb at_) with
  | true =>
    rw [if_neg (by rintro ⟨-, g1, g2⟩; rw [g1, g2] at hg; cases hg)]
    simp
  | false =>
    rw [Bool.or_eq_false_iff] at hg
    rw [if_pos ⟨by omega, hg.1, hg.2⟩]
    simp
theorem last_mix {A B : List Pce} {n : Int} {ea eb : Ed} (na : newsAt A n = newL ea.new ea.new.size) (nb : newsAt B n = newL eb.new eb.new.size) : mixTo A B n n 1 = newL ea.new ea.new.size ++ newL eb.new eb.new.size := by
  rw [mixTo, mixTo, mixAt, na, nb, if_neg (by omega)]
  simp
theorem runs_mix {A B : List Pce} {n at_ : Int} {la : Pce} {ja : Nat} {lb : Pce} {jb : Nat} {xs : List Stp} (h : Runs A B n at_ la ja lb jb xs) :
    Wst n A la ja at_ → Wst n B lb jb at_ → Wg A la ja at_ → Wg B lb jb at_ → at_ ≤ n ∧ xs.flatMap mixS = mixTo A B n at_ (n - at_ + 1).toNat := by
  induction h with
  | @last la ja lb jb h0 =>
    intro sa sb ga gb
    obtain ⟨ka, na⟩ := ga.arr sa
    obtain ⟨kb, nb⟩ := gb.arr sb
    obtain ⟨a1, a2, a3, a4⟩ := sa.arr
    obtain ⟨b1, b2, b3, b4⟩ := sb.arr
    obtain ⟨-, na2, na3, -⟩ := nxt_of (Int.le_refl _) a1 a2 a3
    obtain ⟨-, nb2, nb3, -⟩ := nxt_of (Int.le_refl _) b1 b2 b3
    refine ⟨Int.le_refl _, ?_⟩
    have e1 : (n - n + 1).toNat = 1 := by omega
    have e2 : (toV A B n n (arrP A la ja n) (arrJ A ja n) (arrP B lb jb n) (arrJ B jb n) - n).toNat = 0 := by simp only [toV]; omega
    rw [e1, last_mix na nb]
    simp only [List.flatMap_cons, List.flatMap_nil, List.append_nil, mixS, stpA, e2, keepL]
    simp
  | @more at_ la ja lb jb xs h0 h1 h2 h3 ih =>
    intro sa sb ga gb
    obtain ⟨ka, na⟩ := ga.arr sa
    obtain ⟨kb, nb⟩ := gb.arr sb
    obtain ⟨a1, a2, a3, a4⟩ := sa.arr
    obtain ⟨b1, b2, b3, b4⟩ := sb.arr
    obtain ⟨-, na2, na3, na4⟩ := nxt_of (Int.le_of_lt h1) a1 a2 a3
    obtain ⟨-, nb2, nb3, nb4⟩ := nxt_of (Int.le_of_lt h1) b1 b2 b3
    have ta : toV A B n at_ (arrP A la ja at_) (arrJ A ja at_) (arrP B lb jb at_) (arrJ B jb at_) ≤ nxtV A (arrP A la ja at_) (arrJ A ja at_) at_ n := by simp only [toV]; omega
    have tb : toV A B n at_ (arrP A la ja at_) (arrJ A ja at_) (arrP B lb jb at_) (arrJ B jb at_) ≤ nxtV B (arrP B lb jb at_) (arrJ B jb at_) at_ n := by simp only [toV]; omega
    have tn : toV A B n at_ (arrP A la ja at_) (arrJ A ja at_) (arrP B lb jb at_) (arrJ B jb at_) ≤ n := by simp only [toV]; omega
    have hm := step_mix h0 tn h2 ka kb (na4 _ h2 ta).rest (nb4 _ h2 tb).rest (nxt_way ta) (nxt_way tb) na nb
    obtain ⟨-, hi⟩ := ih (na4 _ h2 ta) (nb4 _ h2 tb) (ka.on h2 (nxt_way ta)) (kb.on h2 (nxt_way tb))
    refine ⟨Int.le_of_lt h1, ?_⟩
    rw [List.flatMap_cons, hi]
    have hs : mixS (stpA A B n at_ la ja lb jb) = mixTo A B n at_ (toV A B n at_ (arrP A la ja at_) (arrJ A ja at_) (arrP B lb jb at_) (arrJ B jb at_) - at_).toNat := by rw [hm]; rfl
    rw [hs]
    generalize toV A B n at_ (arrP A la ja at_) (arrJ A ja at_) (arrP B lb jb at_) (arrJ B jb at_) = t at h2 tn ⊢
    have e1 : (n - at_ + 1).toNat = (t - at_).toNat + (n - t + 1).toNat := by omega
    have e2 : at_ + ((t - at_).toNat : Int) = t := by omega
    rw [e1, mixTo_add, e2]
/-- The steps of two right changes hand out the letters of both. -/
theorem steps_mix {n : Int} {es fs : List Ed} (h : changeFault n es = 0) (g : changeFault n fs = 0) {xs : List Stp} (hx : Runs (goP es 0) (goP fs 0) n 0 pcZ 0 pcZ 0 xs) : xs.flatMap mixS = mixTo (goP es 0) (goP fs 0) n 0 (n + 1).toNat := by
  obtain ⟨hn, -, hr, -⟩ := changeFault_zero h
  obtain ⟨-, -, gr, -⟩ := changeFault_zero g
  have a := goP_ord n es _ hr (fun e he => ((right_all h).2.2.2.1 e he).2.2.2.2)
  have b := goP_ord n fs _ gr (fun e he => ((right_all g).2.2.2.1 e he).2.2.2.2)
  have := (runs_mix hx ⟨a, by simp [pcZ]; omega, fun h => absurd h (by simp [pcZ])⟩ ⟨b, by simp [pcZ]; omega, fun h => absurd h (by simp [pcZ])⟩ ⟨fun i _ hi => by omega, .inl rfl⟩ ⟨fun i _ hi => by omega, .inl rfl⟩).2
  simpa using this
/-- What Both answers. -/
theorem both_says {n : Int} {es fs : List Ed} (h : changeFault n es = 0) (g : changeFault n fs = 0) {xs : List Stp} (hx : Runs (goP es 0) (goP fs 0) n 0 pcZ 0 pcZ 0 xs) (ho : ∀ x ∈ xs, StpOk x) : (xs.foldl bothS drZ).close.out = editsOf n (mixTo (goP es 0) (goP fs 0) n 0 (n + 1).toNat) := by
  rw [both_edits hx ho, steps_mix h g hx]
end Go.Proofs.Ytajigndlcdiinaa
namespace Go.Proofs.Ytajigndlcdiinaa
open Go.RowKit

/-- Where the text after the first change stands behind k offsets from p on; q: where it stands at p. -/
def posTo (A : List Pce) (n : Int) : Int → Int → Nat → Int
  | _, q, 0 => q
  | p, q, k + 1 => posTo A n (p + 1) (q + (newsAt A p).length + if p < n ∧ goneP A p = false then 1 else 0) k
/-- The letters of the change from the text after A into that after both; first: A's own come first. -/
def pasTo (first : Bool) (A B : List Pce) (n : Int) : Int → Int → Nat → List Let
  | _, _, 0 => []
  | p, q, k + 1 => (if first then keepL q (newsAt A p).length ++ newsAt B p else newsAt B p ++ keepL q (newsAt A p).length) ++
    (if p < n ∧ goneP A p = false ∧ goneP B p = false then [(q + (newsAt A p).length, 0)] else []) ++
    pasTo first A B n (p + 1) (q + (newsAt A p).length + if p < n ∧ goneP A p = false then 1 else 0) k
theorem posTo_add (A : List Pce) (n : Int) : ∀ (j : Nat) (p q : Int) (k : Nat), posTo A n p q (j + k) = posTo A n (p + j) (posTo A n p q j) k
  | 0, p, q, k => by simp [posTo]
  | j + 1, p, q, k => by
    rw [show j + 1 + k = (j + k) + 1 by omega, posTo, posTo_add A n j, posTo]
    congr 1; omega
theorem pasTo_add (f : Bool) (A B : List Pce) (n : Int) : ∀ (j : Nat) (p q : Int) (k : Nat), pasTo f A B n p q (j + k) = pasTo f A B n p q j ++ pasTo f A B n (p + j) (posTo A n p q j) k
  | 0, p, q, k => by simp [pasTo, posTo]
  | j + 1, p, q, k => by
    rw [show j + 1 + k = (j + k) + 1 by omega, pasTo, pasTo_add f A B n j, pasTo, posTo, List.append_assoc]
    rw [show p + 1 + (j : Int) = p + ((j + 1 : Nat) : Int) by omega]
    simp only [List.append_assoc]
theorem pasTo_same (f : Bool) (A B : List Pce) (n : Int) (g h : Bool) : ∀ (k : Nat) (p q : Int), p + k ≤ n → (∀ x, p ≤ x → x < p + k → newsAt A x = [] ∧ newsAt B x = [] ∧ goneP A x = g ∧ goneP B x = h) →
    pasTo f A B n p q k = (if g || h then [] else keepL q k) ∧ posTo A n p q k = if g then q else q + k
  | 0, p, q, _, _ => by cases g <;> cases h <;> simp [pasTo, posTo, keepL]
  | k + 1, p, q, hn, hs => by
    obtain ⟨h1, h2, h3, h4⟩ := hs p (Int.le_refl _) (by omega)
    have hp : p < n := by omega
    obtain ⟨i1, i2⟩ := pasTo_same f A B n g h k (p + 1) (q + (newsAt A p).length + if p < n ∧ goneP A p = false then 1 else 0) (by omega) (fun x x1 x2 => hs x (by omega) (by omega))
    rw [pasTo, posTo, i1, i2, h1, h2, h3, h4]
    have hz : (if f = true then keepL q ([] : List Let).length ++ [] else [] ++ keepL q ([] : List Let).length) = [] := by cases f <;> rfl
    rw [hz]
    cases g <;> cases h <;> simp [hp, keepL_cons] <;> omega
theorem newL_len (s : ByteArray) : (newL s s.size).length = s.size := by
  rw [newL_all, List.length_map, Array.length_toList]; rfl
theorem step_past (f : Bool) {A B : List Pce} {n at_ t q : Int} {la lb : Pce} {ja jb : Nat} (h0 : 0 ≤ at_) (hn : t ≤ n) (ht : at_ < t) (ka : Wh n A la ja at_) (kb : Wh n B lb jb at_) (oa : Ord n t (A.drop ja)) (ob : Ord n t (B.drop jb))
    (wa : t ≤ la.at_ + la.long ∨ la.at_ + la.long ≤ at_) (wb : t ≤ lb.at_ + lb.long ∨ lb.at_ + lb.long ≤ at_) {ea eb : Ed} (na : newsAt A at_ = newL ea.new ea.new.size) (nb : newsAt B at_ = newL eb.new eb.new.size) :
    pasTo f A B n at_ q (t - at_).toNat = (if f then keepL q ea.new.size ++ newL eb.new eb.new.size else newL eb.new eb.new.size ++ keepL q ea.new.size) ++ (if inP la at_ || inP lb at_ then [] else keepL (q + ea.new.size) (t - at_).toNat) ∧
      posTo A n at_ q (t - at_).toNat = if inP la at_ then q + ea.new.size else q + ea.new.size + (t - at_) := by
  obtain ⟨k, hk⟩ : ∃ k, (t - at_).toNat = k + 1 := ⟨(t - at_).toNat - 1, by omega⟩
  have ga : goneP A at_ = inP la at_ := ka.gone h0 oa (Int.le_refl _) ht wa
  have gb : goneP B at_ = inP lb at_ := kb.gone h0 ob (Int.le_refl _) ht wb
  have hp : at_ < n := by omega
  obtain ⟨i1, i2⟩ := pasTo_same f A B n (inP la at_) (inP lb at_) k (at_ + 1) (q + (newsAt A at_).length + if at_ < n ∧ goneP A at_ = false then 1 else 0) (by omega) (fun p p1 p2 => ⟨ka.news oa (by omega) (by omega), kb.news ob (by omega) (by omega), ka.gone h0 oa (by omega) (by omega) wa, kb.gone h0 ob (by omega) (by omega) wb⟩)
  rw [hk, pasTo, posTo, i1, i2, na, nb, ga, gb, newL_len]
  generalize inP la at_ = g
  generalize inP lb at_ = h
  have : (k : Int) + 1 = t - at_ := by omega
  cases g <;> cases h <;> simp [hp, keepL_cons] <;> omega
theorem last_past (f : Bool) {A B : List Pce} {n q : Int} {ea eb : Ed} (na : newsAt A n = newL ea.new ea.new.size) (nb : newsAt B n = newL eb.new eb.new.size) : pasTo f A B n n q 1 = (if f then keepL q ea.new.size ++ newL eb.new eb.new.size else newL eb.new eb.new.size ++ keepL q ea.new.size) ∧ posTo A n n q 1 = q + ea.new.size := by
  rw [pasTo, pasTo, posTo, posTo, na, nb, newL_len]
  simp

theorem runs_pastA {A B : List Pce} {n at_ : Int} {la : Pce} {ja : Nat} {lb : Pce} {jb : Nat} {xs : List Stp} (h : Runs A B n at_ la ja lb jb xs) :
    Wst n A la ja at_ → Wst n B lb jb at_ → Wg A la ja at_ → Wg B lb jb at_ → ∀ q, pastAL q xs = pasTo true A B n at_ q (n - at_ + 1).toNat ∧ lenAL q xs = posTo A n at_ q (n - at_ + 1).toNat := by
  induction h with
  | @last la ja lb jb h0 =>
    intro sa sb ga gb q
    obtain ⟨ka, na⟩ := ga.arr sa
    obtain ⟨kb, nb⟩ := gb.arr sb
    obtain ⟨a1, a2, a3, a4⟩ := sa.arr
    obtain ⟨b1, b2, b3, b4⟩ := sb.arr
    obtain ⟨-, na2, na3, -⟩ := nxt_of (Int.le_refl _) a1 a2 a3
    obtain ⟨-, nb2, nb3, -⟩ := nxt_of (Int.le_refl _) b1 b2 b3
    have e1 : (n - n + 1).toNat = 1 := by omega
    have e2 : toV A B n n (arrP A la ja n) (arrJ A ja n) (arrP B lb jb n) (arrJ B jb n) - n = 0 := by simp only [toV]; omega
    obtain ⟨l1, l2⟩ := last_past true na nb (q := q)
    rw [e1, l1, l2]
    simp only [pastAL, lenAL, stpA, e2]
    refine ⟨?_, ?_⟩
    · cases inP (arrP A la ja n) n <;> cases inP (arrP B lb jb n) n <;> simp [keepL]
    · split <;> omega
  | @more at_ la ja lb jb xs h0 h1 h2 h3 ih =>
    intro sa sb ga gb q
    obtain ⟨ka, na⟩ := ga.arr sa
    obtain ⟨kb, nb⟩ := gb.arr sb
    obtain ⟨a1, a2, a3, a4⟩ := sa.arr
    obtain ⟨b1, b2, b3, b4⟩ := sb.arr
    obtain ⟨-, na2, na3, na4⟩ := nxt_of (Int.le_of_lt h1) a1 a2 a3
    obtain ⟨-, nb2, nb3, nb4⟩ := nxt_of (Int.le_of_lt h1) b1 b2 b3
    have ta : toV A B n at_ (arrP A la ja at_) (arrJ A ja at_) (arrP B lb jb at_) (arrJ B jb at_) ≤ nxtV A (arrP A la ja at_) (arrJ A ja at_) at_ n := by simp only [toV]; omega
    have tb : toV A B n at_ (arrP A la ja at_) (arrJ A ja at_) (arrP B lb jb at_) (arrJ B jb at_) ≤ nxtV B (arrP B lb jb at_) (arrJ B jb at_) at_ n := by simp only [toV]; omega
    have tn : toV A B n at_ (arrP A la ja at_) (arrJ A ja at_) (arrP B lb jb at_) (arrJ B jb at_) ≤ n := by simp only [toV]; omega
    obtain ⟨m1, m2⟩ := step_past true h0 tn h2 ka kb (na4 _ h2 ta).rest (nb4 _ h2 tb).rest (nxt_way ta) (nxt_way tb) na nb (q := q)
    have hi := ih (na4 _ h2 ta) (nb4 _ h2 tb) (ka.on h2 (nxt_way ta)) (kb.on h2 (nxt_way tb))
    simp only [pastAL, lenAL, stpA]
    generalize toV A B n at_ (arrP A la ja at_) (arrJ A ja at_) (arrP B lb jb at_) (arrJ B jb at_) = t at h2 tn m1 m2 hi ⊢
    have e1 : (n - at_ + 1).toNat = (t - at_).toNat + (n - t + 1).toNat := by omega
    have e2 : at_ + ((t - at_).toNat : Int) = t := by omega
    rw [e1, pasTo_add, posTo_add, e2, m1, m2]
    by_cases hg : inP (arrP A la ja at_) at_ = true <;> by_cases hh : inP (arrP B lb jb at_) at_ = true <;> simp [hg, hh, (hi _).1, (hi _).2]

theorem runs_pastB {A B : List Pce} {n at_ : Int} {la : Pce} {ja : Nat} {lb : Pce} {jb : Nat} {xs : List Stp} (h : Runs A B n at_ la ja lb jb xs) :
    Wst n A la ja at_ → Wst n B lb jb at_ → Wg A la ja at_ → Wg B lb jb at_ → ∀ q, pastBL q xs = pasTo false B A n at_ q (n - at_ + 1).toNat ∧ lenBL q xs = posTo B n at_ q (n - at_ + 1).toNat := by
  induction h with
  | @last la ja lb jb h0 =>
    intro sa sb ga gb q
    obtain ⟨ka, na⟩ := ga.arr sa
    obtain ⟨kb, nb⟩ := gb.arr sb
    obtain ⟨a1, a2, a3, a4⟩ := sa.arr
    obtain ⟨b1, b2, b3, b4⟩ := sb.arr
    obtain ⟨-, na2, na3, -⟩ := nxt_of (Int.le_refl _) a1 a2 a3
    obtain ⟨-, nb2, nb3, -⟩ := nxt_of (Int.le_refl _) b1 b2 b3
    have e1 : (n - n + 1).toNat = 1 := by omega
    have e2 : toV A B n n (arrP A la ja n) (arrJ A ja n) (arrP B lb jb n) (arrJ B jb n) - n = 0 := by simp only [toV]; omega
    obtain ⟨l1, l2⟩ := last_past false nb na (q := q)
    rw [e1, l1, l2]
    simp only [pastBL, lenBL, stpA, e2]
    refine ⟨?_, ?_⟩
    · cases inP (arrP A la ja n) n <;> cases inP (arrP B lb jb n) n <;> simp [keepL]
    · split <;> omega
  | @more at_ la ja lb jb xs h0 h1 h2 h3 ih =>
    intro sa sb ga gb q
    obtain ⟨ka, na⟩ := ga.arr sa
    obtain ⟨kb, nb⟩ := gb.arr sb
    obtain ⟨a1, a2, a3, a4⟩ := sa.arr
    obtain ⟨b1, b2, b3, b4⟩ := sb.arr
    obtain ⟨-, na2, na3, na4⟩ := nxt_of (Int.le_of_lt h1) a1 a2 a3
    obtain ⟨-, nb2, nb3, nb4⟩ := nxt_of (Int.le_of_lt h1) b1 b2 b3
    have ta : toV A B n at_ (arrP A la ja at_) (arrJ A ja at_) (arrP B lb jb at_) (arrJ B jb at_) ≤ nxtV A (arrP A la ja at_) (arrJ A ja at_) at_ n := by simp only [toV]; omega
    have tb : toV A B n at_ (arrP A la ja at_) (arrJ A ja at_) (arrP B lb jb at_) (arrJ B jb at_) ≤ nxtV B (arrP B lb jb at_) (arrJ B jb at_) at_ n := by simp only [toV]; omega
    have tn : toV A B n at_ (arrP A la ja at_) (arrJ A ja at_) (arrP B lb jb at_) (arrJ B jb at_) ≤ n := by simp only [toV]; omega
    obtain ⟨m1, m2⟩ := step_past false h0 tn h2 kb ka (nb4 _ h2 tb).rest (na4 _ h2 ta).rest (nxt_way tb) (nxt_way ta) nb na (q := q)
    have hi := ih (na4 _ h2 ta) (nb4 _ h2 tb) (ka.on h2 (nxt_way ta)) (kb.on h2 (nxt_way tb))
    simp only [pastBL, lenBL, stpA]
    generalize toV A B n at_ (arrP A la ja at_) (arrJ A ja at_) (arrP B lb jb at_) (arrJ B jb at_) = t at h2 tn m1 m2 hi ⊢
    have e1 : (n - at_ + 1).toNat = (t - at_).toNat + (n - t + 1).toNat := by omega
    have e2 : at_ + ((t - at_).toNat : Int) = t := by omega
    rw [e1, pasTo_add, posTo_add, e2, m1, m2]
    by_cases hg : inP (arrP A la ja at_) at_ = true <;> by_cases hh : inP (arrP B lb jb at_) at_ = true <;> simp [hg, hh, (hi _).1, (hi _).2]

/-- What Past's drafts hand out. -/
theorem past_says {n : Int} {es fs : List Ed} (h : changeFault n es = 0) (g : changeFault n fs = 0) {xs : List Stp} (hx : Runs (goP es 0) (goP fs 0) n 0 pcZ 0 pcZ 0 xs) (ho : ∀ x ∈ xs, StpOk x) :
    (xs.foldl pastA drZ).close.out = editsOf (posTo (goP es 0) n 0 0 (n + 1).toNat) (pasTo true (goP es 0) (goP fs 0) n 0 0 (n + 1).toNat) ∧
    (xs.foldl pastB drZ).close.out = editsOf (posTo (goP fs 0) n 0 0 (n + 1).toNat) (pasTo false (goP fs 0) (goP es 0) n 0 0 (n + 1).toNat) := by
  obtain ⟨hn, -, hr, -⟩ := changeFault_zero h
  obtain ⟨-, -, gr, -⟩ := changeFault_zero g
  have a := goP_ord n es _ hr (fun e he => ((right_all h).2.2.2.1 e he).2.2.2.2)
  have b := goP_ord n fs _ gr (fun e he => ((right_all g).2.2.2.1 e he).2.2.2.2)
  have wa : Wst n (goP es 0) pcZ 0 0 := ⟨a, by simp [pcZ]; omega, fun h => absurd h (by simp [pcZ])⟩
  have wb : Wst n (goP fs 0) pcZ 0 0 := ⟨b, by simp [pcZ]; omega, fun h => absurd h (by simp [pcZ])⟩
  have ga : Wg (goP es 0) pcZ 0 0 := ⟨fun i _ hi => by omega, .inl rfl⟩
  have gb : Wg (goP fs 0) pcZ 0 0 := ⟨fun i _ hi => by omega, .inl rfl⟩
  obtain ⟨p1, p2⟩ := runs_pastA hx wa wb ga gb 0
  obtain ⟨q1, q2⟩ := runs_pastB hx wa wb ga gb 0
  rw [(past_edits ho).1, (past_edits ho).2, p1, p2, q1, q2]
  simp only [Int.sub_zero, and_self]
end Go.Proofs.Ytajigndlcdiinaa
namespace Go.Proofs.Ytajigndlcdiinaa
open Go.RowKit

/-- The letters of a change, a byte at a time. -/
def gTo (A : List Pce) (n : Int) : Int → Nat → List Let
  | _, 0 => []
  | p, k + 1 => newsAt A p ++ (if p < n ∧ goneP A p = false then [(p, 0)] else []) ++ gTo A n (p + 1) k
/-- The letters of both, and which of them the first one put in. -/
def mixB (first : Bool) (A B : List Pce) (n : Int) : Int → Nat → List (Let × Bool)
  | _, 0 => []
  | p, k + 1 => (if first then (newsAt A p).map (·, true) ++ (newsAt B p).map (·, false) else (newsAt B p).map (·, false) ++ (newsAt A p).map (·, true)) ++
    (if p < n ∧ goneP A p = false ∧ goneP B p = false then [((p, 0), false)] else []) ++ mixB first A B n (p + 1) k
/-- Where letters that are put in stand, from index q on. -/
def ownIdx : Int → List Let → List Int
  | _, [] => []
  | q, x :: r => if x.1 < 0 then q :: ownIdx (q + 1) r else ownIdx (q + 1) r
/-- What the reference makes of the letters. -/
def pastGo (old : Int → Int) : List Int → List (Let × Bool) → List Let
  | _, [] => []
  | own, (x, b) :: r => if 0 ≤ x.1 then (old x.1, x.2) :: pastGo old own r else if b then (own.headD 0, x.2) :: pastGo old own.tail r else x :: pastGo old own r
def erL (x : Let) : Let := if x.1 < 0 then x else (x.1, 0)
theorem editsOf_er (n : Int) (ls : List Let) : editsOf n (ls.map erL) = editsOf n ls := by
  have h : ∀ (ls : List Let) (st : Int × ByteArray × List Ed), edFold st (ls.map erL) = edFold st ls := by
    intro ls
    induction ls with
    | nil => intro st; rfl
    | cons x r ih =>
      intro st
      have hx : edStep st (erL x) = edStep st x := by
        unfold erL
        by_cases h : x.1 < 0
        · rw [if_pos h]
        · rw [if_neg h]; simp [edStep, h]
      have := ih (edStep st x)
      simp only [edFold, List.map_cons, List.foldl_cons] at this ⊢
      rw [hx]; exact this
  rw [editsOf_fold, editsOf_fold, h]

theorem ownIdx_app : ∀ (l m : List Let) (q : Int), ownIdx q (l ++ m) = ownIdx q l ++ ownIdx (q + l.length) m
  | [], m, q => by simp [ownIdx]
  | x :: l, m, q => by
    rw [List.cons_append, ownIdx, ownIdx, ownIdx_app l m (q + 1)]
    have : q + 1 + (l.length : Int) = q + ((x :: l).length : Int) := by simp; omega
    rw [this]
    split <;> rfl
theorem news_neg (A : List Pce) (p : Int) : ∀ x ∈ newsAt A p, x.1 = -1 := by
  intro x hx
  simp only [newsAt, List.mem_flatMap] at hx
  obtain ⟨q, _, hq⟩ := hx
  split at hq
  · exact newL_neg _ _ x hq
  · cases hq
/-- Own letters take their places. -/
theorem pastGo_own (old : Int → Int) (rest : List Int) (m : List (Let × Bool)) : ∀ (l : List Let) (q : Int), 0 ≤ q → (∀ x ∈ l, x.1 = -1) → (pastGo old (ownIdx q l ++ rest) (l.map (·, true) ++ m)).map erL = keepL q l.length ++ (pastGo old rest m).map erL
  | [], q, _, _ => by simp [ownIdx, keepL]
  | x :: l, q, hq, h => by
    have hx := h x List.mem_cons_self
    have ih := pastGo_own old rest m l (q + 1) (by omega) (fun y hy => h y (List.mem_cons_of_mem _ hy))
    have h1 : x.1 < 0 := by rw [hx]; decide
    have h2 : ¬ 0 ≤ x.1 := by rw [hx]; decide
    simp only [List.map_cons, List.cons_append, ownIdx, pastGo]
    rw [if_pos h1, if_neg h2, if_pos trivial, List.cons_append, List.headD_cons, List.tail_cons, List.map_cons, ih, List.length_cons, keepL_cons, List.cons_append]
    congr 1
    simp only [erL]
    rw [if_neg (by omega)]
/-- The other's letters stay. -/
theorem pastGo_oth (old : Int → Int) (own : List Int) (m : List (Let × Bool)) : ∀ (l : List Let), (∀ x ∈ l, x.1 = -1) → (pastGo old own (l.map (·, false) ++ m)).map erL = l ++ (pastGo old own m).map erL
  | [], _ => rfl
  | x :: l, h => by
    have hx := h x List.mem_cons_self
    have ih := pastGo_oth old own m l (fun y hy => h y (List.mem_cons_of_mem _ hy))
    simp only [List.map_cons, List.cons_append, pastGo]
    have h1 : x.1 < 0 := by rw [hx]; decide
    have h2 : ¬ 0 ≤ x.1 := by rw [hx]; decide
    rw [if_neg h2, if_neg (by decide), List.map_cons, ih]
    congr 1
    simp only [erL]
    rw [if_pos h1]
theorem ownIdx_kept (q : Int) (l : List Let) (h : ∀ x ∈ l, 0 ≤ x.1) : ownIdx q l = [] := by
  induction l generalizing q with
  | nil => rfl
  | cons x r ih =>
    have hx := h x List.mem_cons_self
    rw [ownIdx, if_neg (by omega), ih _ (fun y hy => h y (List.mem_cons_of_mem _ hy))]

theorem pasTo_ref (f : Bool) (A B : List Pce) (n : Int) (old : Int → Int) : ∀ (k : Nat) (p q : Int), 0 ≤ p → 0 ≤ q → (∀ j : Nat, j < k → p + j < n → goneP A (p + j) = false → old (p + j) = posTo A n p q j + (newsAt A (p + j)).length) →
    (pastGo old (ownIdx q (gTo A n p k)) (mixB f A B n p k)).map erL = pasTo f A B n p q k
  | 0, p, q, _, _, _ => rfl
  | k + 1, p, q, hp, hq, ho => by
    have ih := pasTo_ref f A B n old k (p + 1) (q + (newsAt A p).length + if p < n ∧ goneP A p = false then 1 else 0) (by omega) (by split <;> omega) (fun j hj h1 h2 => by
      have e : p + 1 + (j : Int) = p + ((j + 1 : Nat) : Int) := by omega
      rw [e] at h1 h2 ⊢
      have := ho (j + 1) (by omega) h1 h2
      rw [this, posTo])
    have h0 := ho 0 (by omega)
    simp only [Int.natCast_zero, Int.add_zero, posTo] at h0
    have hA := news_neg A p
    have hB := news_neg B p
    have hk : ∀ (rest : List (Let × Bool)), (pastGo old (ownIdx (q + (newsAt A p).length) ((if p < n ∧ goneP A p = false then [(p, (0 : UInt8))] else []) ++ gTo A n (p + 1) k)) ((if p < n ∧ goneP A p = false ∧ goneP B p = false then [((p, (0 : UInt8)), false)] else []) ++ mixB f A B n (p + 1) k)).map erL =
        (if p < n ∧ goneP A p = false ∧ goneP B p = false then [(q + (newsAt A p).length, (0 : UInt8))] else []) ++ pasTo f A B n (p + 1) (q + (newsAt A p).length + if p < n ∧ goneP A p = false then 1 else 0) k := by
      intro _
      rw [ownIdx_app, ownIdx_kept _ (if p < n ∧ goneP A p = false then [(p, (0 : UInt8))] else []) (by
        intro x hx
        split at hx
        · obtain rfl := List.mem_singleton.1 hx; exact hp
        · cases hx), List.nil_append]
      have hl : (((if p < n ∧ goneP A p = false then [(p, (0 : UInt8))] else []) : List Let).length : Int) = if p < n ∧ goneP A p = false then 1 else 0 := by split <;> rfl
      rw [hl]
      by_cases hc : p < n ∧ goneP A p = false ∧ goneP B p = false
      · rw [if_pos hc, if_pos hc, List.cons_append, List.nil_append, pastGo, if_pos (by simpa using hp)]
        rw [List.map_cons, ih]
        have h1 := h0 hc.1 hc.2.1
        rw [List.cons_append, List.nil_append]
        congr 1
        simp only [erL, h1]
        rw [if_neg (by omega)]
      · rw [if_neg hc, if_neg hc, List.nil_append, List.nil_append, ih]
    rw [gTo, mixB, pasTo, List.append_assoc, ownIdx_app]
    cases f with
    | true =>
      simp only [if_true, List.append_assoc]
      rw [pastGo_own old _ _ (newsAt A p) q hq hA, pastGo_oth old _ _ (newsAt B p) hB, hk []]
    | false =>
      simp only [Bool.false_eq_true, if_false, List.append_assoc]
      rw [pastGo_oth old _ _ (newsAt B p) hB, pastGo_own old _ _ (newsAt A p) q hq hA, hk []]
end Go.Proofs.Ytajigndlcdiinaa
namespace Go.Proofs.Ytajigndlcdiinaa
open Go.RowKit

theorem mixB_true (A B : List Pce) (n : Int) : ∀ (k : Nat) (p : Int), (mixB true A B n p k).map (·.1) = mixTo A B n p k
  | 0, _ => rfl
  | k + 1, p => by
    have hm : ∀ (b : Bool) (l : List Let), (l.map (·, b)).map (·.1) = l := fun b l => by simp [List.map_map, Function.comp_def]
    rw [mixB, mixTo, mixAt, List.map_append, mixB_true A B n k, if_pos rfl, List.map_append, List.map_append, hm, hm]
    congr 2
    split <;> rfl
theorem mixB_false (A B : List Pce) (n : Int) : ∀ (k : Nat) (p : Int), (mixB false B A n p k).map (·.1) = mixTo A B n p k
  | 0, _ => rfl
  | k + 1, p => by
    have hm : ∀ (b : Bool) (l : List Let), (l.map (·, b)).map (·.1) = l := fun b l => by simp [List.map_map, Function.comp_def]
    rw [mixB, mixTo, mixAt, List.map_append, mixB_false A B n k, if_neg (by decide), List.map_append, List.map_append, hm, hm]
    congr 2
    by_cases h : p < n ∧ goneP A p = false ∧ goneP B p = false
    · rw [if_pos h, if_pos ⟨h.1, h.2.2, h.2.1⟩]; rfl
    · rw [if_neg h, if_neg (fun g => h ⟨g.1, g.2.2, g.2.1⟩)]; rfl

theorem gTo_mix (A : List Pce) (n : Int) : ∀ (k : Nat) (p : Int), gTo A n p k = mixTo A [] n p k
  | 0, _ => rfl
  | k + 1, p => by
    rw [gTo, mixTo, mixAt, gTo_mix A n k]
    simp [newsAt, goneP]
theorem gTo_add (A : List Pce) (n : Int) (j : Nat) (p : Int) (k : Nat) : gTo A n p (j + k) = gTo A n p j ++ gTo A n (p + j) k := by
  rw [gTo_mix, gTo_mix, gTo_mix, mixTo_add]
theorem gTo_same (A : List Pce) (n : Int) (g : Bool) (k : Nat) (p : Int) (hn : p + k ≤ n) (h : ∀ x, p ≤ x → x < p + k → newsAt A x = [] ∧ goneP A x = g) : gTo A n p k = if g then [] else keepL p k := by
  rw [gTo_mix]
  exact mixTo_same A [] n g k p hn (fun x x1 x2 => ⟨(h x x1 x2).1, rfl, by rw [(h x x1 x2).2]; simp [goneP]⟩)
/-- Behind a piece only those behind it count. -/
theorem gTo_tail (q : Pce) (r : List Pce) (n : Int) : ∀ (k : Nat) (p : Int), q.at_ < p → q.at_ + q.long ≤ p → gTo (q :: r) n p k = gTo r n p k
  | 0, _, _, _ => rfl
  | k + 1, p, h1, h2 => by
    rw [gTo, gTo, gTo_tail q r n k (p + 1) (by omega) (by omega)]
    have e1 : newsAt (q :: r) p = newsAt r p := by simp only [newsAt, List.flatMap_cons]; rw [if_neg (by omega)]; rfl
    have e2 : goneP (q :: r) p = goneP r p := by
      simp only [goneP, List.any_cons]
      have : (decide (q.at_ ≤ p) && decide (p < q.at_ + q.long)) = false := by simp; omega
      rw [this]; rfl
    rw [e1, e2]
theorem gTo_flow (n : Int) : ∀ (es : List Ed) (a : Int), a ≤ n → Right n (a - 1) es → (∀ e ∈ es, e.new.size ≤ 40000) → gTo (goP es 0) n a (n - a + 1).toNat = flowGo n a es
  | [], a, ha, _, _ => by
    obtain ⟨k, hk⟩ : ∃ k, (n - a + 1).toNat = k + 1 := ⟨(n - a).toNat, by omega⟩
    rw [hk, gTo_add, gTo_same _ n false k a (by omega) (fun _ _ _ => ⟨rfl, rfl⟩)]
    have e1 : a + (k : Int) = n := by omega
    have e2 : (n - a).toNat = k := by omega
    rw [e1, flowGo, gapL, e2, gTo, gTo]
    simp [newsAt, goP, goneP]
  | e :: r, a, ha, h, hs => by
    have ho := goP_ord n (e :: r) _ h hs
    obtain ⟨q1, q2, q3, q4, q5, q6⟩ := h
    have hr := goP_ord n r _ q6 (fun x hx => hs x (List.mem_cons_of_mem _ hx))
    have hg : goP (e :: r) 0 = ⟨e.at_ + 0, e.old, e⟩ :: goP r 0 := rfl
    have ih := gTo_flow n r (e.at_ + e.old) (by omega)
    obtain ⟨j, hj⟩ : ∃ j : Nat, (j : Int) = e.at_ - a := ⟨(e.at_ - a).toNat, by omega⟩
    have e1 : (n - a + 1).toNat = j + (n - e.at_ + 1).toNat := by omega
    have e2 : a + (j : Int) = e.at_ := by omega
    have hof : Ord n e.at_ (goP (e :: r) 0) := by
      obtain ⟨o1, o2⟩ := ho
      exact ⟨by simp, o2⟩
    rw [e1, gTo_add, e2, gTo_same _ n false j a (by omega) (fun x x1 x2 => ⟨news_none _ _ x hof (by omega), gone_none _ _ x hof (by omega)⟩)]
    rw [flowGo, gapL, List.append_assoc]
    have e3 : (e.at_ - a).toNat = j := by omega
    rw [e3]
    congr 1
    have n1 : newsAt (goP (e :: r) 0) e.at_ = newL e.new e.new.size := by
      have := news_none _ _ e.at_ hr (by omega)
      rw [hg]
      simp only [newsAt, List.flatMap_cons] at this ⊢
      rw [if_pos (by simp), this, List.append_nil]
    obtain ⟨k, hk⟩ : ∃ k : Nat, (n - e.at_ + 1).toNat = k + 1 := ⟨(n - e.at_).toNat, by omega⟩
    have gr : ∀ x, x ≤ e.at_ + e.old → goneP (goP r 0) x = false := fun x hx => gone_none _ _ x hr (by omega)
    have nr : ∀ x, x ≤ e.at_ + e.old → newsAt (goP r 0) x = [] := fun x hx => news_none _ _ x hr (by omega)
    have hR : Right n (e.at_ + e.old - 1) r := by
      cases r with
      | nil => trivial
      | cons y r => exact ⟨by have := q6.1; omega, q6.2⟩
    have ih2 := ih hR (fun x hx => hs x (List.mem_cons_of_mem _ hx))
    by_cases ho0 : e.old = 0
    · have g1 : goneP (goP (e :: r) 0) e.at_ = false := by
        rw [hg]
        have := gr e.at_ (by omega)
        simp only [goneP, List.any_cons] at this ⊢
        rw [this, ho0]; simp
      rw [hk, gTo, n1, g1, hg, gTo_tail _ _ n k (e.at_ + 1) (by simp; omega) (by simp; omega), List.append_assoc]
      congr 1
      have e4 : (n - (e.at_ + e.old) + 1).toNat = k + 1 := by omega
      rw [← ih2, e4, ho0, Int.add_zero, gTo, nr e.at_ (by omega), gr e.at_ (by omega)]
      rfl
    · obtain ⟨m, hm⟩ : ∃ m : Nat, (m : Int) = e.old - 1 := ⟨(e.old - 1).toNat, by omega⟩
      have g0 : ∀ x, e.at_ ≤ x → x < e.at_ + e.old → goneP (goP (e :: r) 0) x = true := fun x x1 x2 => by
        rw [hg]
        simp only [goneP, List.any_cons]
        have : (decide (e.at_ + 0 ≤ x) && decide (x < e.at_ + 0 + e.old)) = true := by simp; omega
        rw [this]; rfl
      have e5 : k = m + (n - (e.at_ + e.old) + 1).toNat := by omega
      rw [hk, gTo, n1, g0 e.at_ (Int.le_refl _) (by omega), e5, gTo_add, gTo_same _ n true m (e.at_ + 1) (by omega) (fun x x1 x2 => ⟨by
        have := nr x (by omega)
        rw [hg]
        simp only [newsAt, List.flatMap_cons] at this ⊢
        rw [if_neg (by simp; omega), this]; rfl, g0 x (by omega) (by omega)⟩)]
      have e6 : e.at_ + 1 + (m : Int) = e.at_ + e.old := by omega
      rw [e6, hg, gTo_tail _ _ n _ _ (by simp; omega) (by simp), ← ih2]
      simp
end Go.Proofs.Ytajigndlcdiinaa
namespace Go.Proofs.Ytajigndlcdiinaa
open Go.RowKit

/-- Where old bytes stand among letters, from index q on. -/
def oldF (o : Int → Int) : Int → List Let → (Int → Int)
  | _, [] => o
  | q, x :: r => oldF (if x.1 < 0 then o else fun i => if i = x.1 then q else o i) (q + 1) r
theorem oldF_app : ∀ (l m : List Let) (o : Int → Int) (q : Int), oldF o q (l ++ m) = oldF (oldF o q l) (q + l.length) m
  | [], m, o, q => by simp [oldF]
  | x :: l, m, o, q => by
    rw [List.cons_append, oldF, oldF, oldF_app l m]
    congr 1; simp; omega
theorem oldF_news : ∀ (l : List Let) (o : Int → Int) (q : Int), (∀ x ∈ l, x.1 = -1) → oldF o q l = o
  | [], _, _, _ => rfl
  | x :: l, o, q, h => by
    have hx := h x List.mem_cons_self
    rw [oldF, if_pos (by omega), oldF_news l o _ (fun y hy => h y (List.mem_cons_of_mem _ hy))]
theorem oldF_out (p : Int) : ∀ (l : List Let) (o : Int → Int) (q : Int), (∀ x ∈ l, x.1 ≠ p) → oldF o q l p = o p
  | [], _, _, _ => rfl
  | x :: l, o, q, h => by
    rw [oldF, oldF_out p l _ _ (fun y hy => h y (List.mem_cons_of_mem _ hy))]
    by_cases hx : x.1 < 0
    · rw [if_pos hx]
    · rw [if_neg hx, if_neg (fun e => h x List.mem_cons_self e.symm)]
theorem gTo_ge (A : List Pce) (n : Int) : ∀ (k : Nat) (a : Int), ∀ x ∈ gTo A n a k, x.1 = -1 ∨ a ≤ x.1
  | 0, _, x, hx => by cases hx
  | k + 1, a, x, hx => by
    rw [gTo, List.mem_append, List.mem_append] at hx
    rcases hx with (hx | hx) | hx
    · exact .inl (news_neg A a x hx)
    · split at hx
      · obtain rfl := List.mem_singleton.1 hx; exact .inr (Int.le_refl _)
      · cases hx
    · rcases gTo_ge A n k (a + 1) x hx with h | h
      · exact .inl h
      · exact .inr (by omega)
theorem gTo_len (A : List Pce) (n : Int) : ∀ (k : Nat) (a q : Int), posTo A n a q k = q + (gTo A n a k).length
  | 0, a, q => by simp [posTo, gTo]
  | k + 1, a, q => by
    rw [posTo, gTo, gTo_len A n k]
    simp only [List.length_append]
    split <;> simp <;> omega
theorem oldF_at (A : List Pce) (n : Int) : ∀ (k : Nat) (a q : Int) (o : Int → Int), 0 ≤ a → ∀ j : Nat, j < k → a + j < n → goneP A (a + j) = false → oldF o q (gTo A n a k) (a + j) = posTo A n a q j + (newsAt A (a + j)).length
  | 0, _, _, _, _, j, hj, _, _ => by omega
  | k + 1, a, q, o, ha, 0, _, h1, h2 => by
    simp only [Int.natCast_zero, Int.add_zero] at h1 h2 ⊢
    rw [gTo, oldF_app, oldF_app, oldF_news _ _ _ (news_neg A a), if_pos ⟨h1, h2⟩, oldF_out a _ _ _ (fun x hx => by
      rcases gTo_ge A n k (a + 1) x hx with h | h <;> omega)]
    rw [oldF, oldF]
    have : ¬ (a, (0 : UInt8)).1 < 0 := by show ¬ a < 0; omega
    rw [if_neg this, if_pos rfl, posTo]
  | k + 1, a, q, o, ha, j + 1, hj, h1, h2 => by
    have e : a + ((j + 1 : Nat) : Int) = a + 1 + (j : Int) := by omega
    rw [e] at h1 h2 ⊢
    rw [gTo, oldF_app, oldF_at A n k (a + 1) _ _ (by omega) j (by omega) h1 h2, posTo]
    congr 2
    simp only [List.length_append]
    split <;> simp <;> omega

/-- The reference's Past says what the steps say. -/
theorem past_ref (f : Bool) (A B : List Pce) (n : Int) (o : Int → Int) (k : Nat) :
    editsOf ((gTo A n 0 k).length : Int) (pastGo (oldF o 0 (gTo A n 0 k)) (ownIdx 0 (gTo A n 0 k)) (mixB f A B n 0 k)) = editsOf (posTo A n 0 0 k) (pasTo f A B n 0 0 k) := by
  rw [← editsOf_er, pasTo_ref f A B n _ k 0 0 (Int.le_refl _) (Int.le_refl _) (fun j hj h1 h2 => oldF_at A n k 0 0 o (Int.le_refl _) j hj h1 h2), gTo_len]
  simp
end Go.Proofs.Ytajigndlcdiinaa
namespace Go.Proofs.Ytajigndlcdiinaa
open Go.RowKit

theorem newSum_app : ∀ (a b : List Ed), newSum (a ++ b) = newSum a + newSum b
  | [], b => by simp [newSum]
  | e :: r, b => by simp only [List.cons_append, newSum, newSum_app r b]; omega
theorem oldSum_app : ∀ (a b : List Ed), oldSum (a ++ b) = oldSum a + oldSum b
  | [], b => by simp [oldSum]
  | e :: r, b => by simp only [List.cons_append, oldSum, oldSum_app r b]; omega
/-- How many letters there are. -/
def DL (d : Dr) (m p : Int) : Prop := m = p + (newSum d.out : Int) - oldSum d.out + (d.txt.size : Int) - d.old
theorem DL.close {d : Dr} {m p : Int} (h : DL d m p) : DL d.close m p := by
  unfold Dr.close
  split
  · exact h
  · unfold DL at h ⊢
    simp only [newSum_app, oldSum_app, newSum, oldSum]
    have : (⟨#[]⟩ : ByteArray).size = 0 := rfl
    rw [this]
    omega
theorem DL.keep {d : Dr} {m p : Int} (h : DL d m p) (l : Int) : DL (d.keep l) (m + l) (p + l) := by
  unfold Dr.keep
  split
  · rename_i h0; subst h0; simpa using h
  · have := h.close
    unfold DL at this ⊢
    simp only
    omega
theorem DL.put {d : Dr} {m p : Int} (h : DL d m p) (s : ByteArray) : DL (d.put s) (m + s.size) p := by
  unfold DL at h ⊢
  show m + _ = p + (newSum d.out : Int) - oldSum d.out + ((d.txt ++ s).size : Int) - d.old
  rw [ByteArray.size_append]
  omega
theorem DL.drop {d : Dr} {m p : Int} (h : DL d m p) (l : Int) : DL (d.drop l) m (p + l) := by
  unfold DL at h ⊢
  show m = p + l + (newSum d.out : Int) - oldSum d.out + (d.txt.size : Int) - (d.old + l)
  omega
theorem DL.done {d : Dr} {m p : Int} (h : DL d m p) (ho : 0 ≤ d.old) : lenGo p d.close.out = m := by
  have hc := h.close
  obtain ⟨c1, c2, c3, c4⟩ := close_closeE d ho
  unfold DL at hc
  rw [c3, c4] at hc
  rw [lenGo_sum]
  omega
theorem keepL_length (a : Int) (j : Nat) : (keepL a j).length = j := keepL_len a j
theorem mixS_len (x : Stp) (hl : 0 ≤ x.long) : ((mixS x).length : Int) = x.ab.new.size + x.bb.new.size + if x.ai || x.bi then 0 else x.long := by
  unfold mixS
  rw [List.length_append, List.length_append, newL_len, newL_len]
  split
  · simp
  · rw [keepL_len]; omega
theorem both_DL : ∀ (xs : List Stp) (d : Dr) (m p : Int), (∀ x ∈ xs, StpOk x) → DL d m p → DL (xs.foldl bothS d) (m + (xs.flatMap mixS).length) (p + longs xs)
  | [], d, m, p, _, h => by simpa [longs] using h
  | x :: r, d, m, p, hx, h => by
    have hk := (hx x List.mem_cons_self).1
    have h1 := (h.put x.ab.new).put x.bb.new
    have hl := mixS_len x hk
    have h2 : DL (bothS d x) (m + (mixS x).length) (p + x.long) := by
      rw [hl]
      unfold bothS
      by_cases hi : (x.ai || x.bi) = true
      · rw [if_pos hi, if_pos hi]
        have := h1.drop x.long
        unfold DL at this ⊢; omega
      · rw [if_neg hi, if_neg hi]
        have := h1.keep x.long
        unfold DL at this ⊢; omega
    have h3 := both_DL r _ _ _ (fun y hy => hx y (List.mem_cons_of_mem _ hy)) h2
    rw [List.foldl_cons, List.flatMap_cons, List.length_append, longs]
    unfold DL at h3 ⊢
    omega
/-- The text after both is as long as there are letters. -/
theorem both_len {n : Int} {A B : List Pce} {xs : List Stp} (h : Runs A B n 0 pcZ 0 pcZ 0 xs) (hx : ∀ x ∈ xs, StpOk x) : lenGo n (xs.foldl bothS drZ).close.out = ((xs.flatMap mixS).length : Int) := by
  have hf := runs_both h hx drZ [] DF.zero
  have hd := both_DL xs drZ 0 0 hx (by unfold DL; simp [drZ, newSum, oldSum]; rfl)
  have hs : ∀ {at_ la ja lb jb xs}, Runs A B n at_ la ja lb jb xs → (∀ x ∈ xs, StpOk x) → longs xs = n - at_ := by
    intro at_ la ja lb jb xs h
    induction h with
    | @last la ja lb jb h0 =>
      intro hx
      have h1 := (hx _ List.mem_cons_self).1
      have h3 : (stpA A B n n la ja lb jb).long ≤ 0 := by simp only [stpA, toV]; omega
      simp only [longs]; omega
    | more h0 h1 h2 h3 ih =>
      intro hx
      rw [longs, ih (fun y hy => hx y (List.mem_cons_of_mem _ hy))]
      simp only [stpA]; omega
  rw [hs h hx] at hd
  have := hd.done hf.old
  simpa using this
end Go.Proofs.Ytajigndlcdiinaa
