/- What is squeezed: plain facts. -/
import Derived.Test.YtajigndlcdiinaaS5
import Derived.Test.YtajigndlcdiinaaP1
namespace Go.Proofs.Ytajigndlcdiinaa
open Go.RowKit

/-- An edit without what stands at the beginning of both. -/
def sqLeft (s : ByteArray) : Nat → Ed → Ed
  | 0, e => e
  | k + 1, e => if 0 < e.old ∧ 0 < e.new.size ∧ s.data.toList.getD e.at_.toNat 0 = e.new.data.toList.getD 0 0 then sqLeft s k ⟨e.at_ + 1, e.old - 1, e.new.extract 1 e.new.size⟩ else e
/-- .. at the end of both. -/
def sqRight (s : ByteArray) : Nat → Ed → Ed
  | 0, e => e
  | k + 1, e => if 0 < e.old ∧ 0 < e.new.size ∧ s.data.toList.getD (e.at_ + e.old - 1).toNat 0 = e.new.data.toList.getD (e.new.size - 1) 0 then sqRight s k ⟨e.at_, e.old - 1, e.new.extract 0 (e.new.size - 1)⟩ else e
def sqE (s : ByteArray) (e : Ed) : Ed := sqRight s (sqLeft s e.old.toNat e).old.toNat (sqLeft s e.old.toNat e)
def sqStep (s : ByteArray) (L : List Ed) (e : Ed) : List Ed := if 0 < (sqE s e).old ∨ (sqE s e).new.size ≠ 0 then L ++ [sqE s e] else L
def sqTo (s : ByteArray) (es : List Ed) (j : Nat) : List Ed := (es.take j).foldl (sqStep s) []
def squeezedV (s : ByteArray) (es : List Ed) : List Ed := sqTo s es es.length
theorem sqTo_succ (s : ByteArray) (es : List Ed) (j : Nat) (h : j < es.length) : sqTo s es (j + 1) = sqStep s (sqTo s es j) es[j] := by
  unfold sqTo; rw [List.take_succ_eq_append_getElem h, List.foldl_append]; rfl
theorem sqTo_len (s : ByteArray) (es : List Ed) : ∀ j, j ≤ es.length → (sqTo s es j).length ≤ j
  | 0, _ => by simp [sqTo]
  | j + 1, h => by
    have := sqTo_len s es j (by omega)
    rw [sqTo_succ _ _ _ (by omega), sqStep]
    split
    · simp; omega
    · omega

theorem getD_at (s : ByteArray) (i : Nat) (h : i < s.size) : s.data.toList.getD i 0 = s[i] := by
  rw [List.getD_eq_getElem?_getD, List.getElem?_eq_getElem (by simpa using h)]; rfl
theorem sqLeft_old0 (s : ByteArray) (p q : Int) (n : ByteArray) (k : Nat) (h : ¬ 0 < q) : sqLeft s k ⟨p, q, n⟩ = ⟨p, q, n⟩ := by
  cases k <;> simp [sqLeft, h]
theorem sqLeft_new0 (s : ByteArray) (p q : Int) (n : ByteArray) (k : Nat) (h : n.size = 0) : sqLeft s k ⟨p, q, n⟩ = ⟨p, q, n⟩ := by
  cases k <;> simp [sqLeft, h]
theorem sqLeft_ne (s : ByteArray) (p : Nat) (q : Int) (n : ByteArray) (k : Nat) (h1 : p < s.size) (h2 : 0 < n.size) (h : ¬ s[p] = n[0]) : sqLeft s k ⟨p, q, n⟩ = ⟨p, q, n⟩ := by
  cases k
  · rfl
  · simp only [sqLeft, Int.toNat_natCast, getD_at s p h1, getD_at n 0 h2]
    rw [if_neg (fun hh => h hh.2.2)]
theorem sqLeft_go (s : ByteArray) (p q k : Nat) (n : ByteArray) (h1 : p < s.size) (h2 : 0 < n.size) (h : s[p] = n[0]) (hk : q = k + 1) : sqLeft s q ⟨p, q, n⟩ = sqLeft s k ⟨(p + 1 : Nat), k, n.extract 1 n.size⟩ := by
  subst hk
  rw [sqLeft]
  simp only [Int.toNat_natCast, getD_at s p h1, getD_at n 0 h2]
  rw [if_pos ⟨by omega, by omega, h⟩]
  congr 2 <;> omega
theorem sqRight_old0 (s : ByteArray) (p q : Int) (n : ByteArray) (k : Nat) (h : ¬ 0 < q) : sqRight s k ⟨p, q, n⟩ = ⟨p, q, n⟩ := by
  cases k <;> simp [sqRight, h]
theorem sqRight_new0 (s : ByteArray) (p q : Int) (n : ByteArray) (k : Nat) (h : n.size = 0) : sqRight s k ⟨p, q, n⟩ = ⟨p, q, n⟩ := by
  cases k <;> simp [sqRight, h]
theorem sqRight_ne (s : ByteArray) (p q : Int) (r m : Nat) (n : ByteArray) (k : Nat) (hr : p + q - 1 = (r : Int)) (hm : n.size = m + 1) (h1 : r < s.size) (h2 : m < n.size) (h : ¬ s[r] = n[m]) : sqRight s k ⟨p, q, n⟩ = ⟨p, q, n⟩ := by
  have hm1 : n.size - 1 = m := by omega
  cases k
  · rfl
  · simp only [sqRight, hr, hm1, Int.toNat_natCast, getD_at s r h1, getD_at n m h2]
    rw [if_neg (fun hh => h hh.2.2)]
theorem sqRight_go (s : ByteArray) (p : Int) (q k r m : Nat) (n : ByteArray) (hr : p + (q : Int) - 1 = (r : Int)) (hm : n.size = m + 1) (h1 : r < s.size) (h2 : m < n.size) (h : s[r] = n[m]) (hk : q = k + 1) : sqRight s q ⟨p, q, n⟩ = sqRight s k ⟨p, k, n.extract 0 m⟩ := by
  subst hk
  have hm1 : n.size - 1 = m := by omega
  rw [sqRight]
  simp only [hr, hm1, Int.toNat_natCast, getD_at s r h1, getD_at n m h2]
  rw [if_pos ⟨by omega, by omega, h⟩]
  congr 2; omega
theorem sqE_mid {s : ByteArray} {p q : Nat} {n : ByteArray} {p' q' : Nat} {n' : ByteArray} (h : sqLeft s q ⟨p, q, n⟩ = ⟨p', q', n'⟩) : sqE s ⟨p, q, n⟩ = sqRight s q' ⟨p', q', n'⟩ := by
  simp only [sqE, Int.toNat_natCast, h]
theorem sqStep_yes {s : ByteArray} {L : List Ed} {e f : Ed} (h : sqE s e = f) (hh : 0 < f.old ∨ f.new.size ≠ 0) : sqStep s L e = L ++ [f] := by unfold sqStep; rw [h, if_pos hh]
theorem sqStep_no {s : ByteArray} {L : List Ed} {e f : Ed} (h : sqE s e = f) (hh : ¬ (0 < f.old ∨ f.new.size ≠ 0)) : sqStep s L e = L := by unfold sqStep; rw [h, if_neg hh]

/-- In a round: the edit's box B behind the world w, and the row that is made. -/
def SqRel (w : World) (B : Nat) (v : Value) (out : List Ed) (p q : Nat) (n : ByteArray) (wr : World) : Prop :=
  wr.heap[B]? = some (.cells #[.int .i64 (p : Int), .int .i64 (q : Int), .string n] 47 (0, 0)) ∧ v.ownBlock ≠ some B ∧
    wr.ownsRow w.heap.size 47 3 v out.length (edCells out) ∧ w.grownBy wr none ∧ w.heap.size ≤ B

theorem SqRel.drew {w B v out p q n wr} (R : SqRel w B v out p q n wr) : SqRel w B v out p q n wr.drew := ⟨R.1, R.2.1, R.2.2.1.drew, grow_drew R.2.2.2.1, R.2.2.2.2⟩
theorem SqRel.setC {w : World} {B : Nat} {v : Value} {out : List Ed} {wr : World} {cs : Array Value} (i : Nat) (u : Value) (R : wr.heap[B]? = some (.cells cs 47 (0, 0)) ∧ v.ownBlock ≠ some B ∧ wr.ownsRow w.heap.size 47 3 v out.length (edCells out) ∧ w.grownBy wr none ∧ w.heap.size ≤ B) :
    (wr.setCell ⟨B, i, none⟩ u).heap[B]? = some (.cells (cs.setIfInBounds i u) 47 (0, 0)) ∧ v.ownBlock ≠ some B ∧ (wr.setCell ⟨B, i, none⟩ u).ownsRow w.heap.size 47 3 v out.length (edCells out) ∧ w.grownBy (wr.setCell ⟨B, i, none⟩ u) none ∧ w.heap.size ≤ B :=
  ⟨heap_setCell_self R.1 i u, R.2.1, ownsRow_setCell_other R.2.2.1 R.2.1 u, grow_setCell R.2.2.2.1 _ _ R.2.2.2.2, R.2.2.2.2⟩
theorem SqRel.set3 {w B v out p q n wr} (R : SqRel w B v out p q n wr) {a b : Int} {p' q' : Nat} {n' : ByteArray} (ha : a = (p' : Int)) (hb : b = (q' : Int)) :
    SqRel w B v out p' q' n' (((wr.setCell ⟨B, 0, none⟩ (.int .i64 a)).setCell ⟨B, 1, none⟩ (.int .i64 b)).setCell ⟨B, 2, none⟩ (.string n')) := by
  subst ha hb
  exact SqRel.setC 2 _ (SqRel.setC 1 _ (SqRel.setC 0 _ R))
theorem SqRel.set2 {w B v out p q n wr} (R : SqRel w B v out p q n wr) {b : Int} {q' : Nat} {n' : ByteArray} (hb : b = (q' : Int)) :
    SqRel w B v out p q' n' ((wr.setCell ⟨B, 1, none⟩ (.int .i64 b)).setCell ⟨B, 2, none⟩ (.string n')) := by
  subst hb
  exact SqRel.setC 2 _ (SqRel.setC 1 _ R)
theorem SqRel.cell1 {w B v out p q n wr} (R : SqRel w B v out p q n wr) : (cellInt (wr.cell? ⟨B, 1, none⟩)).toNat = q := by rw [cell_of_block R.1 1]; simp [cellInt, intOf]
end Go.Proofs.Ytajigndlcdiinaa
