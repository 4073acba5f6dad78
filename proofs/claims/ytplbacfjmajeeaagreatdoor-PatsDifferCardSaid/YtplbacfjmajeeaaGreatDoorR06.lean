/- A part of the proof of the statement on PatsDiffer: Classes of bytes. lex.(*machine).classify: what it leaves. -/
import Derived.Test.YtplbacfjmajeeaaGreatDoorR03
import Derived.Test.YtplbacfjmajeeaaGreatDoorR05
namespace Go.Proofs.YtplbacfjmajeeaaGreatDoor

/-- where a class begins: flags of 257 -/
def begSet : List (Int × Int) → List Bool → List Bool
  | [], L => L
  | p :: r, L => begSet r ((L.set p.1.toNat true).set (p.2 + 1).toNat true)
def noBegs : List Bool := List.replicate 257 false
theorem noBegs_len : noBegs.length = 257 := List.length_replicate
def begL (by_ : List (Int × Int)) : List Bool := begSet by_ (noBegs.set 0 true)
theorem begSet_len (r : List (Int × Int)) : ∀ L, (begSet r L).length = L.length := by
  induction r with
  | nil => intro L; rfl
  | cons p r ih => intro L; simp [begSet, ih]
theorem begSet_snoc (r : List (Int × Int)) (p : Int × Int) : ∀ L, begSet (r ++ [p]) L = ((begSet r L).set p.1.toNat true).set (p.2 + 1).toNat true := by
  induction r with
  | nil => intro L; rfl
  | cons q r ih => intro L; simp [begSet, ih]
theorem begL_len (by_ : List (Int × Int)) : (begL by_).length = 257 := by rw [begL, begSet_len, List.length_set, noBegs_len]
def BytesOk (by_ : List (Int × Int)) : Prop := ∀ p ∈ by_, 0 ≤ p.1 ∧ p.1 ≤ p.2 ∧ p.2 ≤ 255
theorem set_true_keep (L : List Bool) (i k : Nat) (h : L[k]? = some true) : (L.set i true)[k]? = some true := by
  by_cases e : i = k
  · subst e
    have hl : i < L.length := by
      rcases Nat.lt_or_ge i L.length with h' | h'
      · exact h'
      · rw [List.getElem?_eq_none h'] at h; cases h
    rw [List.getElem?_set_self hl]
  · rw [List.getElem?_set_ne e]; exact h
theorem begSet_keep (r : List (Int × Int)) : ∀ (L : List Bool) (k : Nat), L[k]? = some true → (begSet r L)[k]? = some true := by
  induction r with
  | nil => intro L k h; exact h
  | cons p r ih => intro L k h; exact ih _ k (set_true_keep _ _ _ (set_true_keep _ _ _ h))
theorem begSet_has (r : List (Int × Int)) : ∀ (L : List Bool), L.length = 257 → BytesOk r → ∀ p ∈ r, (begSet r L)[p.1.toNat]? = some true ∧ (begSet r L)[(p.2 + 1).toNat]? = some true := by
  induction r with
  | nil => intro L _ _ p hp; cases hp
  | cons q r ih =>
    intro L hl hok p hp
    simp only [begSet]
    rcases List.mem_cons.1 hp with rfl | hp
    · have := hok p (by simp)
      refine ⟨begSet_keep _ _ _ (set_true_keep _ _ _ ?_), begSet_keep _ _ _ ?_⟩
      · rw [List.getElem?_set_self (by omega)]
      · rw [List.getElem?_set_self (by simp; omega)]
    · exact ih _ (by simp [hl]) (fun x hx => hok x (by simp [hx])) p hp
/-- a class begins at k -/
def bg (by_ : List (Int × Int)) (k : Nat) : Bool := (begL by_).getD k false
theorem bg_zero (by_ : List (Int × Int)) : bg by_ 0 = true := by
  unfold bg begL
  have : (begSet by_ (noBegs.set 0 true))[0]? = some true := begSet_keep _ _ _ (by rw [List.getElem?_set_self (by rw [noBegs_len]; omega)])
  simp [List.getD, this]
theorem bg_has (by_ : List (Int × Int)) (h : BytesOk by_) (p : Int × Int) (hp : p ∈ by_) : bg by_ p.1.toNat = true ∧ bg by_ (p.2 + 1).toNat = true := by
  obtain ⟨h1, h2⟩ := begSet_has by_ (noBegs.set 0 true) (by rw [List.length_set, noBegs_len]) h p hp
  unfold bg begL
  simp [List.getD, h1, h2]

/-- the lowest bytes of the classes that begin ahead of k -/
def lows (by_ : List (Int × Int)) (k : Nat) : List Nat := (List.range k).filter (bg by_)
theorem lows_succ (by_ : List (Int × Int)) (k : Nat) : lows by_ (k + 1) = lows by_ k ++ (if bg by_ k then [k] else []) := by
  unfold lows
  rw [List.range_succ, List.filter_append]
  congr 1
  by_cases h : bg by_ k = true <;> simp [h]
/-- the class of a byte -/
def cls (by_ : List (Int × Int)) (c : Nat) : Nat := (lows by_ (c + 1)).length - 1
theorem lows_pos (by_ : List (Int × Int)) (k : Nat) (h : 0 < k) : 0 < (lows by_ k).length := by
  induction k with
  | zero => omega
  | succ k ih =>
    rw [lows_succ, List.length_append]
    rcases Nat.eq_zero_or_pos k with rfl | hk
    · simp [bg_zero]
    · have := ih hk; omega
theorem lows_mono (by_ : List (Int × Int)) {a b : Nat} (h : a ≤ b) : (lows by_ a).length ≤ (lows by_ b).length := by
  induction b with
  | zero => have : a = 0 := by omega
            subst this; exact Nat.le_refl _
  | succ b ih =>
    rcases Nat.lt_or_ge a (b + 1) with h1 | h1
    · rw [lows_succ, List.length_append]; have := ih (by omega); omega
    · have : a = b + 1 := by omega
      subst this; exact Nat.le_refl _
theorem cls_mono (by_ : List (Int × Int)) {a b : Nat} (h : a ≤ b) : cls by_ a ≤ cls by_ b := by
  have := lows_mono by_ (show a + 1 ≤ b + 1 by omega); unfold cls; omega
theorem cls_lt (by_ : List (Int × Int)) {a b : Nat} (h : a < b) (hb : bg by_ b = true) : cls by_ a < cls by_ b := by
  have h1 := lows_mono by_ (show a + 1 ≤ b by omega)
  have h2 : (lows by_ (b + 1)).length = (lows by_ b).length + 1 := by rw [lows_succ, hb]; simp
  have h3 := lows_pos by_ (a + 1) (by omega)
  unfold cls; omega
/-- bytes of a class are read at the same places -/
theorem cls_iff (by_ : List (Int × Int)) (h : BytesOk by_) (p : Int × Int) (hp : p ∈ by_) (c : Nat) : (cls by_ p.1.toNat ≤ cls by_ c ∧ cls by_ c ≤ cls by_ p.2.toNat) ↔ (p.1 ≤ (c : Int) ∧ (c : Int) ≤ p.2) := by
  have hb := bg_has by_ h p hp
  have ho := h p hp
  constructor
  · rintro ⟨h1, h2⟩
    constructor
    · rcases Nat.lt_or_ge c p.1.toNat with hc | hc
      · have := cls_lt by_ hc hb.1; omega
      · omega
    · rcases Nat.lt_or_ge c (p.2 + 1).toNat with hc | hc
      · omega
      · have h3 := cls_lt by_ (show p.2.toNat < (p.2 + 1).toNat by omega) hb.2
        have h4 := cls_mono by_ hc
        omega
  · rintro ⟨h1, h2⟩
    exact ⟨cls_mono by_ (by omega), cls_mono by_ (by omega)⟩
/-- the places at which a byte of a class is read, among the first ones -/
def matchL (by_ : List (Int × Int)) (n κ : Nat) : List Nat := (List.range n).filter fun pl => decide (cls by_ (by_.getD pl (0, -1)).1.toNat ≤ κ) && decide (κ ≤ cls by_ (by_.getD pl (0, -1)).2.toNat)
theorem step_match (by_ : List (Int × Int)) (h : BytesOk by_) (can : List Nat) (hc : ∀ k ∈ can, k < by_.length) (c : Nat) : stepL by_ can c = can.filter fun k => decide (k ∈ matchL by_ by_.length (cls by_ c)) := by
  unfold stepL
  refine List.filter_congr fun k hk => ?_
  have hkl := hc k hk
  have hg : by_.getD k (0, -1) = by_[k] := by simp [List.getD, hkl]
  have hi := cls_iff by_ h by_[k] (List.getElem_mem hkl) c
  simp only [matchL, List.mem_filter, List.mem_range, hg]
  rw [Bool.eq_iff_iff]
  simp only [Bool.and_eq_true, decide_eq_true_eq]
  rw [← hi]
  constructor
  · intro h; exact ⟨hkl, h⟩
  · intro h; exact h.2
/-- the lowest byte of a class has this class -/
theorem cls_low (by_ : List (Int × Int)) : ∀ (n κ : Nat) (h : κ < (lows by_ n).length), cls by_ (lows by_ n)[κ] = κ ∧ (lows by_ n)[κ] < n ∧ ∀ c, cls by_ c = κ → (lows by_ n)[κ] ≤ c := by
  intro n
  induction n with
  | zero => intro κ h; simp [lows] at h
  | succ n ih =>
    intro κ h
    have e := lows_succ by_ n
    by_cases hκ : κ < (lows by_ n).length
    · have e2 : (lows by_ (n + 1))[κ] = (lows by_ n)[κ] := by
        simp only [e]; rw [List.getElem_append_left hκ]
      rw [e2]
      obtain ⟨h1, h2, h3⟩ := ih κ hκ
      exact ⟨h1, by omega, h3⟩
    · have hb : bg by_ n = true := by
        by_cases hb : bg by_ n = true
        · exact hb
        · rw [e] at h; simp [hb] at h; omega
      have hl : (lows by_ (n + 1)).length = (lows by_ n).length + 1 := by rw [e, hb]; simp
      have hk : κ = (lows by_ n).length := by omega
      have e2 : (lows by_ (n + 1))[κ] = n := by
        have : (lows by_ (n + 1))[κ]? = some n := by rw [e, hb, List.getElem?_append_right (by omega), hk]; simp
        rw [List.getElem?_eq_getElem h] at this
        simpa using this
      rw [e2]
      refine ⟨by unfold cls; omega, by omega, fun c hc => ?_⟩
      rcases Nat.lt_or_ge c n with h1 | h1
      · have := cls_lt by_ h1 hb
        have : cls by_ n = κ := by unfold cls; omega
        omega
      · exact h1
end Go.Proofs.YtplbacfjmajeeaaGreatDoor
namespace Go.Proofs.YtplbacfjmajeeaaGreatDoor
open Go.RowKit

theorem info141 : (Tryz.prog.info? 141 /-t:lex.set-/).map (fun i => (i.zero, i.size, i.bytes)) = some (some (.slice none 0 0), 1, 24) := by kernel_rfl
theorem z173 : Tryz.zeroCells173 = (noBegs.map Value.bool).toArray := by kernel_rfl
def setV (P g : Nat) : Value := .slice (some ⟨g, 0, none⟩) (nw P) (nw P)
/-- The flags of the beginnings. -/
def ArrRow (w : World) (g : Nat) (L : List Bool) : Prop := w.heap[g]? = some (.cells (L.map Value.bool).toArray 173 (0, 0))
theorem ArrRow.cell {w : World} {g : Nat} {L : List Bool} (h : ArrRow w g L) {k : Nat} {x : Bool} (hk : L[k]? = some x) : w.cell? ⟨g, k, none⟩ = some (.bool x) := by
  rw [cell_of_block h k]; simp [hk]
theorem ArrRow.free {w : World} {g : Nat} {L : List Bool} (h : ArrRow w g L) (k : Nat) : w.frozen? ⟨g, k, none⟩ = false := free_of_block h k
theorem ArrRow.set {w : World} {g : Nat} {L : List Bool} (h : ArrRow w g L) (k : Nat) (x : Bool) : ArrRow (w.setCell ⟨g, k, none⟩ (.bool x)) g (L.set k x) := by
  unfold ArrRow
  rw [heap_setCell_self h k (.bool x)]
  simp
theorem ArrRow.kept {w w' : World} {g : Nat} {L : List Bool} {r : Option Nat} (h : ArrRow w g L) (hg : w.grownBy w' r) (hr : some g ≠ r) : ArrRow w' g L := by
  unfold ArrRow; rw [hg.block g (lt_of_block h) hr]; exact h

/-- A machine whose classes are being found. -/
structure ClsG (w : World) (bm : Nat) (C0 : Array Value) (P base : Nat) (by_ : List (Int × Int)) (j : Nat) (L : List Nat) (lv mv : Value) (gs : List Nat) (Ms : Nat → Nat) : Prop where
  blk : ∃ C : Array Value, w.heap[bm]? = some (.cells C 136 (0, 0)) ∧ C.size = 264 ∧ (∀ i : Nat, i < 3 ∨ 261 ≤ i → C[i]? = C0[i]?) ∧ C[259]? = some lv ∧ C[260]? = some mv ∧ ∀ b : Nat, b < j → C[3 + b]? = some (.int .i64 (cls by_ b : Nat))
  low : w.ownsRow base 5 1 lv L.length (byteCells (L.map UInt8.ofNat))
  mat : w.ownsRow base 141 1 mv gs.length (gs.map (setV P))
  nodup : gs.Nodup
  gbase : ∀ g ∈ gs, base ≤ g
  sets : ∀ (κ g : Nat), gs[κ]? = some g → OwnSet w g P (Ms κ)
def ClsP (bm : Nat) (k : Nat) (_ : Option Obj) : Prop := k ≠ bm
def ClsPost (w : World) (bm : Nat) (C0 : Array Value) (P : Nat) (by_ : List (Int × Int)) (e : Ending) (w' : World) : Prop :=
  e = .returned (.tuple #[]) ∧ (∃ lv mv gs, ClsG w' bm C0 P w.heap.size by_ 256 (lows by_ 256) lv mv gs (fun κ => maskOf (matchL by_ by_.length κ)) ∧ gs.length = (lows by_ 256).length) ∧ Frm (ClsP bm) w w'

theorem ClsG.mem {w bm C0 P base by_ j L lv mv gs Ms} (S : ClsG w bm C0 P base by_ j L lv mv gs Ms) : ∀ g ∈ gs, ∃ M, OwnSet w g P M := by
  intro g hg
  obtain ⟨κ, hκ, rfl⟩ := List.mem_iff_getElem.1 hg
  exact ⟨_, S.sets κ _ (List.getElem?_eq_getElem hκ)⟩
theorem ClsG.alloc {w bm C0 P base by_ j L lv mv gs Ms} (S : ClsG w bm C0 P base by_ j L lv mv gs Ms) (o : Obj) : ClsG (w.alloc o) bm C0 P base by_ j L lv mv gs Ms := by
  obtain ⟨C, hb, r⟩ := S.blk
  exact ⟨⟨C, (Below.heap_alloc w o bm (lt_of_block hb)).trans hb, r⟩, S.low.alloc o, S.mat.alloc o, S.nodup, S.gbase, fun κ g h => (S.sets κ g h).grow (World.grownBy_alloc w o none) (by simp)⟩
theorem set_get_ne (C : Array Value) (i k : Nat) (v : Value) (h : i ≠ k) : (C.setIfInBounds i v)[k]? = C[k]? := by
  rw [Array.getElem?_setIfInBounds]; simp [h]
theorem set_get_self (C : Array Value) (i : Nat) (v : Value) (h : i < C.size) : (C.setIfInBounds i v)[i]? = some v := by
  rw [Array.getElem?_setIfInBounds]; simp [h]
theorem ClsG.pushLow {w w1 : World} {bm : Nat} {C0 : Array Value} {P base : Nat} {by_ : List (Int × Int)} {j : Nat} {L : List Nat} {lv mv lv' : Value} {gs : List Nat} {Ms : Nat → Nat} {o : Obj} {n k : Nat} (S : ClsG w bm C0 P base by_ j L lv mv gs Ms) (hk : k < 256) (hn : n = L.length + 1)
    (own : w1.ownsRow base 5 1 lv' n (byteCells (L.map UInt8.ofNat) ++ [.int .u8 (k : Nat)])) (g : (w.alloc o).grownBy w1 lv.ownBlock) (_ : base ≤ bm ∨ bm < base) :
    ClsG (w1.setCell ⟨bm, 259, none⟩ lv') bm C0 P base by_ j (L ++ [k]) lv' mv gs Ms := by
  subst hn
  obtain ⟨C, hb, hs, h0, h4, h5, hc⟩ := (S.alloc o).blk
  have hb1 := grown_block (S.alloc o).low g hb (by decide)
  have e := heap_setCell_self hb1 259 lv'
  refine ⟨⟨_, e, by simp [hs], fun i hi => ?_, set_get_self _ _ _ (by omega), ?_, fun b hb => ?_⟩, ?_, ?_, S.nodup, S.gbase, fun κ gg h => ?_⟩
  · rw [set_get_ne _ _ _ _ (by omega)]; exact h0 i hi
  · rw [set_get_ne _ _ _ _ (by omega)]; exact h5
  · by_cases hb2 : 3 + b = 259
    · -- a byte is below 256
      rw [hb2, set_get_self _ _ _ (by omega)]
      have := hc b hb
      rw [hb2, h4] at this
      simp at this
      subst this
      rcases S.low.2 with ⟨hv, _⟩ | ⟨_, _, _, hv, _⟩ <;> cases hv
    · rw [set_get_ne _ _ _ _ (by omega)]; exact hc b hb
  · have h := ownsRow_setCell_block own hb1 (by decide) 259 lv'
    simp only [List.map_append, byteCells_append, List.length_append, List.map_cons, List.map_nil]
    have e2 : byteCells [UInt8.ofNat k] = [.int .u8 (k : Nat)] := by
      simp only [byteCells, List.map_cons, List.map_nil]
      have : (UInt8.ofNat k).toNat = k := by simp [UInt8.toNat_ofNat']; omega
      rw [this]
    rw [e2]
    exact h
  · exact ownsRow_setCell_block (append_own (by decide) (S.alloc o).low g (S.alloc o).mat) hb1 (by decide) 259 lv'
  · have hset := (S.alloc o).sets κ gg h
    have hb3 := grown_block (S.alloc o).low g hset.blk (by decide)
    exact ⟨hset.fits, by rw [Below.heap_setCell _ _ _ _ (fun e => blk_ne hb1 hb3 (by decide) e.symm)]; exact hb3⟩

theorem ClsG.grow {w w' : World} {bm C0 P base by_ j L lv mv gs Ms} (S : ClsG w bm C0 P base by_ j L lv mv gs Ms) (g : w.grownBy w' none) : ClsG w' bm C0 P base by_ j L lv mv gs Ms := by
  obtain ⟨C, hb, r⟩ := S.blk
  exact ⟨⟨C, grow_new g hb, r⟩, ownsRow_frm (Frm.of_grown g (fun _ _ => True)) S.low (fun _ _ _ _ => trivial), ownsRow_frm (Frm.of_grown g (fun _ _ => True)) S.mat (fun _ _ _ _ => trivial), S.nodup, S.gbase, fun κ gg h => (S.sets κ gg h).grow g (by simp)⟩
theorem ClsG.pushSet {w w2 w3 : World} {bm : Nat} {C0 : Array Value} {P base : Nat} {by_ : List (Int × Int)} {j : Nat} {L : List Nat} {lv mv mv' : Value} {gs : List Nat} {o : Obj} {n g : Nat} (S : ClsG w bm C0 P base by_ j L lv mv gs (fun _ => 0)) (hj : j ≤ 256) (hn : n = gs.length + 1)
    (g4 : w.grownBy w2 none) (hO : OwnSet w2 g P 0) (hgn : w.heap.size ≤ g) (hbase : base ≤ w.heap.size)
    (own : w3.ownsRow base 141 1 mv' n (gs.map (setV P) ++ [setV P g])) (hg : (w2.alloc o).grownBy w3 mv.ownBlock) :
    ClsG (w3.setCell ⟨bm, 260, none⟩ mv') bm C0 P base by_ j L lv mv' (gs ++ [g]) (fun _ => 0) := by
  subst hn
  have S2 := (S.grow g4).alloc o
  obtain ⟨C, hb, hs, h0, h4, h5, hc⟩ := S2.blk
  have hb1 := grown_block S2.mat hg hb (by decide)
  have e := heap_setCell_self hb1 260 mv'
  have keepSet : ∀ gg M, OwnSet (w2.alloc o) gg P M → OwnSet (w3.setCell ⟨bm, 260, none⟩ mv') gg P M := by
    intro gg M hset
    have hb3 := grown_block S2.mat hg hset.blk (by decide)
    exact ⟨hset.fits, by rw [Below.heap_setCell _ _ _ _ (fun e => blk_ne hb1 hb3 (by decide) e.symm)]; exact hb3⟩
  refine ⟨⟨_, e, by simp [hs], fun i hi => ?_, ?_, set_get_self _ _ _ (by omega), fun b hb => ?_⟩, ?_, ?_, ?_, ?_, fun κ gg h => ?_⟩
  · rw [set_get_ne _ _ _ _ (by omega)]; exact h0 i hi
  · rw [set_get_ne _ _ _ _ (by omega)]; exact h4
  · rw [set_get_ne _ _ _ _ (by omega)]; exact hc b hb
  · exact ownsRow_setCell_block (append_own (by decide) S2.mat hg S2.low) hb1 (by decide) 260 mv'
  · have h := ownsRow_setCell_block own hb1 (by decide) 260 mv'
    simpa using h
  · refine List.nodup_append.2 ⟨S.nodup, by simp, fun a ha b hb => ?_⟩
    simp at hb
    subst hb
    obtain ⟨M, hM⟩ := S.mem a ha
    have := lt_of_block hM.blk
    omega
  · intro x hx
    rcases List.mem_append.1 hx with hx | hx
    · exact S.gbase x hx
    · simp at hx; subst hx; omega
  · rcases Nat.lt_or_ge κ gs.length with hκ | hκ
    · rw [List.getElem?_append_left hκ] at h
      exact keepSet gg 0 (S2.sets κ gg h)
    · rw [List.getElem?_append_right hκ] at h
      have : gg = g := by
        rcases Nat.eq_zero_or_pos (κ - gs.length) with h0 | h0
        · rw [h0] at h; simpa using h.symm
        · rw [List.getElem?_eq_none (by simp; omega)] at h; cases h
      subst this
      exact keepSet gg 0 (hO.grow (World.grownBy_alloc w2 o none) (by simp))
theorem ClsG.setClass {w : World} {bm : Nat} {C0 : Array Value} {P base : Nat} {by_ : List (Int × Int)} {j : Nat} {L : List Nat} {lv mv : Value} {gs : List Nat} {Ms : Nat → Nat} (S : ClsG w bm C0 P base by_ j L lv mv gs Ms) (hj : j < 256) {x : Int} (hx : x = (cls by_ j : Nat)) :
    ClsG (w.setCell ⟨bm, 3 + j, none⟩ (.int .i64 x)) bm C0 P base by_ (j + 1) L lv mv gs Ms := by
  subst hx
  obtain ⟨C, hb, hs, h0, h4, h5, hc⟩ := S.blk
  have e := heap_setCell_self hb (3 + j) (.int .i64 (cls by_ j : Nat))
  refine ⟨⟨_, e, by simp [hs], fun i hi => ?_, ?_, ?_, fun b hb2 => ?_⟩, ownsRow_setCell_block S.low hb (by decide) _ _, ownsRow_setCell_block S.mat hb (by decide) _ _, S.nodup, S.gbase, fun κ g h => ?_⟩
  · rw [set_get_ne _ _ _ _ (by omega)]; exact h0 i hi
  · rw [set_get_ne _ _ _ _ (by omega)]; exact h4
  · rw [set_get_ne _ _ _ _ (by omega)]; exact h5
  · rcases Nat.lt_or_ge b j with h1 | h1
    · rw [set_get_ne _ _ _ _ (by omega)]; exact hc b h1
    · have : b = j := by omega
      subst this
      rw [set_get_self _ _ _ (by omega)]
  · have hset := S.sets κ g h
    exact ⟨hset.fits, by rw [Below.heap_setCell _ _ _ _ (fun e => blk_ne hb hset.blk (by decide) e.symm)]; exact hset.blk⟩
theorem ClsG.cells {w bm C0 P base by_ j L lv mv gs Ms} (S : ClsG w bm C0 P base by_ j L lv mv gs Ms) : w.cell? ⟨bm, 259, none⟩ = some lv ∧ w.cell? ⟨bm, 260, none⟩ = some mv ∧ (C0[2]? = some (.int .i64 P) → w.cell? ⟨bm, 2, none⟩ = some (.int .i64 P)) ∧ (∀ i, w.frozen? ⟨bm, i, none⟩ = false) ∧ (∀ i, i < 264 → ∃ v, w.cell? ⟨bm, i, none⟩ = some v) ∧ ∀ b, b < j → w.cell? ⟨bm, 3 + b, none⟩ = some (.int .i64 (cls by_ b : Nat)) := by
  obtain ⟨C, hb, hs, h0, h4, h5, hc⟩ := S.blk
  have := cell_of_block hb
  refine ⟨by rw [this]; exact h4, by rw [this]; exact h5, fun h => by rw [this, h0 2 (by omega)]; exact h, fun i => free_of_block hb i, fun i hi => ⟨C[i]'(by omega), ?_⟩, fun b hb => by rw [this]; exact hc b hb⟩
  rw [this, Array.getElem?_eq_getElem]
theorem ClsG.drew {w bm C0 P base by_ j L lv mv gs Ms} (S : ClsG w bm C0 P base by_ j L lv mv gs Ms) : ClsG w.drew bm C0 P base by_ j L lv mv gs Ms := S.grow (grow_drew (grow_self w))
theorem ClsG.setM {w w' : World} {bm : Nat} {C0 : Array Value} {P base : Nat} {by_ : List (Int × Int)} {j : Nat} {L : List Nat} {lv mv : Value} {gs : List Nat} {Ms : Nat → Nat} {c g M : Nat} (S : ClsG w bm C0 P base by_ j L lv mv gs Ms) (hc : gs[c]? = some g)
    (hO : OwnSet w' g P M) (hg : w.grownBy w' (some g)) : ClsG w' bm C0 P base by_ j L lv mv gs (fun κ => if κ = c then M else Ms κ) := by
  have hgo := S.sets c g hc
  obtain ⟨C, hb, r⟩ := S.blk
  refine ⟨⟨C, ?_, r⟩, S.low.kept hg ?_, S.mat.kept hg ?_, S.nodup, S.gbase, fun κ gg h => ?_⟩
  · rw [hg.block _ (lt_of_block hb) (by simpa using blk_ne hb hgo.blk (by decide))]; exact hb
  · right; intro e
    obtain ⟨_, cc, hcc⟩ := ownsRow_block S.low g e
    exact absurd rfl (blk_ne hcc hgo.blk (by decide))
  · right; intro e
    obtain ⟨_, cc, hcc⟩ := ownsRow_block S.mat g e
    exact absurd rfl (blk_ne hcc hgo.blk (by decide))
  · by_cases e : κ = c
    · subst e
      rw [hc] at h
      simp only [Option.some.injEq] at h
      subst h
      simpa using hO
    · rw [if_neg e]
      refine (S.sets κ gg h).grow hg (fun e2 => ?_)
      simp only [Option.some.injEq] at e2
      subst e2
      have h1 := List.getElem?_eq_some_iff.1 h
      have h2 := List.getElem?_eq_some_iff.1 hc
      obtain ⟨l1, e1⟩ := h1
      obtain ⟨l2, e2⟩ := h2
      exact e ((List.getElem_inj S.nodup).1 (e1.trans e2.symm))
theorem ClsG.congr {w : World} {bm : Nat} {C0 : Array Value} {P base : Nat} {by_ : List (Int × Int)} {j : Nat} {L : List Nat} {lv mv : Value} {gs : List Nat} {Ms Ns : Nat → Nat} (S : ClsG w bm C0 P base by_ j L lv mv gs Ms) (h : ∀ κ, Ms κ = Ns κ) : ClsG w bm C0 P base by_ j L lv mv gs Ns := by
  have : Ms = Ns := funext h
  subst this; exact S
theorem matchL_succ (by_ : List (Int × Int)) (n κ : Nat) : matchL by_ (n + 1) κ = matchL by_ n κ ++ (if cls by_ (by_.getD n (0, -1)).1.toNat ≤ κ ∧ κ ≤ cls by_ (by_.getD n (0, -1)).2.toNat then [n] else []) := by
  unfold matchL
  rw [List.range_succ, List.filter_append]
  congr 1
  by_cases h : cls by_ (by_.getD n (0, -1)).1.toNat ≤ κ ∧ κ ≤ cls by_ (by_.getD n (0, -1)).2.toNat
  · rw [if_pos h]; simp at h ⊢; exact h
  · rw [if_neg h]; simp at h ⊢; exact h
/-- while the places of a PatBytes are put in -/
def midM (by_ : List (Int × Int)) (n c κ : Nat) : Nat := if κ < c then maskOf (matchL by_ (n + 1) κ) else maskOf (matchL by_ n κ)
theorem midM_start (by_ : List (Int × Int)) (n c : Nat) (hc : c = cls by_ (by_.getD n (0, -1)).1.toNat) (κ : Nat) : maskOf (matchL by_ n κ) = midM by_ n c κ := by
  unfold midM
  split
  · rw [matchL_succ, if_neg (by omega)]; simp
  · rfl
theorem midM_end (by_ : List (Int × Int)) (n c : Nat) (hc : c = cls by_ (by_.getD n (0, -1)).2.toNat + 1) (κ : Nat) : midM by_ n c κ = maskOf (matchL by_ (n + 1) κ) := by
  unfold midM
  split
  · rfl
  · rw [matchL_succ, if_neg (by omega)]; simp
theorem midM_step (by_ : List (Int × Int)) (n c : Nat) (h1 : cls by_ (by_.getD n (0, -1)).1.toNat ≤ c) (h2 : c ≤ cls by_ (by_.getD n (0, -1)).2.toNat) (κ : Nat) : (if κ = c then midM by_ n c c ||| 2 ^ n else midM by_ n c κ) = midM by_ n (c + 1) κ := by
  unfold midM
  by_cases e : κ = c
  · subst e
    rw [if_pos rfl, if_neg (by omega), if_pos (by omega), matchL_succ, if_pos ⟨h1, h2⟩, maskOf_snoc]
  · rw [if_neg e]
    by_cases h : κ < c
    · rw [if_pos h, if_pos (by omega)]
    · rw [if_neg h, if_neg (by omega)]

theorem bp_cell (L : List Bp) (k : Nat) (x : Bp) (h : L[k]? = some x) : (bpCells L)[k * 4]? = some (.int .i64 1) ∧ (bpCells L)[k * 4 + 1]? = some (.int .i64 x.lo) ∧ (bpCells L)[k * 4 + 2]? = some (.int .i64 x.hi) ∧ (bpCells L)[k * 4 + 3]? = some (.slice x.a x.n x.c) := by
  induction L generalizing k with
  | nil => simp at h
  | cons y L ih =>
    cases k with
    | zero => simp at h; subst h; simp [bpCells]
    | succ k =>
      have := ih k (by simpa using h)
      simp only [bpCells, List.flatMap_cons] at this ⊢
      rw [show (k + 1) * 4 = k * 4 + 4 by omega]
      simpa using this
/-- What reading a PatBytes of a row gives. -/
theorem bp_at {w : World} {base : Nat} {bv : Value} {bs : List Bp} (h : w.ownsRow base 28 4 bv bs.length (bpCells bs)) (k : Nat) (hk : k < bs.length) :
    ∃ g c, bv = .slice (some ⟨g, 0, none⟩) bs.length c ∧ base ≤ g ∧ w.cell? ⟨g, k * 4, none⟩ = some (.int .i64 1) ∧ w.cell? ⟨g, k * 4 + 1, none⟩ = some (.int .i64 bs[k].lo) ∧ w.cell? ⟨g, k * 4 + 2, none⟩ = some (.int .i64 bs[k].hi) ∧ w.cell? ⟨g, k * 4 + 3, none⟩ = some (.slice bs[k].a bs[k].n bs[k].c) := by
  obtain ⟨g, c, hv, hb, hc⟩ := ownsRow_cell h (by omega)
  obtain ⟨h0, h1, h2, h3⟩ := bp_cell bs k bs[k] (List.getElem?_eq_getElem hk)
  exact ⟨g, c, hv, hb, hc _ _ h0, hc _ _ h1, hc _ _ h2, hc _ _ h3⟩
end Go.Proofs.YtplbacfjmajeeaaGreatDoor
