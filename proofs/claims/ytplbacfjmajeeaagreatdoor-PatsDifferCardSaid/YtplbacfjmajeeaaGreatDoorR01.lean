/- A part of the proof of the statement on PatsDiffer: Stream basics: hgmake.Below and (*Stream).Next. Frames: what a piece of code leaves alone. Stream: Range, Flip, Pick, Some. Edits, the reference's: in, ChangeFault, MovedOf. Patterns in memory; what counts and checks them. -/
import Derived.Test.YtplbacfjmajeeaaGreatDoorRows
import Derived.WalkKit
import Derived.BigQuiet
import Derived.Deep.QuietTactic
import Derived.Lib.Hide
import Derived.IntWalk
import Derived.OneCell
import Derived.WalkSpells
import Derived.Test.YtplbacfjmajeeaaGreatDoorR00
namespace Go.Proofs.YtplbacfjmajeeaaGreatDoor
open Go.RowKit

/-- hgmake.Below on plain numbers. -/
def below (x n : Int) : Int := if n < 1 then 0 else if x.tmod n < 0 then x.tmod n + n else x.tmod n

theorem below_lo (x n : Int) : 0 ≤ below x n := by
  unfold below; split
  · omega
  · split
    · have := Int.lt_tmod_of_pos x (show 0 < n by omega); omega
    · omega
theorem below_hi (x n : Int) (h : 1 ≤ n) : below x n < n := by
  unfold below; rw [if_neg (by omega)]; split
  · omega
  · exact Int.tmod_lt_of_pos x (by omega)
theorem below_le (x n : Int) (h : 0 ≤ n) : below x n ≤ n := by
  by_cases h1 : 1 ≤ n
  · have := below_hi x n h1; omega
  · unfold below; rw [if_pos (by omega)]; exact h

theorem ret_i64 {a b : Int} (h : a = b) : Ending.returned (.int .i64 a) = .returned (.int .i64 b) := by rw [h]

set_option maxHeartbeats 400000 in
theorem below_any (x n : Int) (w : World) (hn : n ≤ 9223372036854775807) :
    Calls Tryz.prog 65 #[.int .i64 x, .int .i64 n] w fun e w' => e = .returned (.int .i64 (below x n)) ∧ w = w' := by
  by_cases h : n < 1
  · go_enter Tryz.func65, Tryz.ntmps65
    go_wp2
    go_ret
    exact ⟨by simp [below, h], rfl⟩
  · have h1 : ¬ n < 1 := h
    have t1 := Int.lt_tmod_of_pos x (show 0 < n by omega)
    have t2 := Int.tmod_lt_of_pos x (show 0 < n by omega)
    by_cases h2 : x.tmod n < 0
    · go_enter Tryz.func65, Tryz.ntmps65
      go_wp2
      go_ret
      exact ⟨ret_i64 (by rw [below, if_neg (by omega), if_pos h2]), rfl⟩
    · go_enter Tryz.func65, Tryz.ntmps65
      go_wp2
      go_ret
      exact ⟨ret_i64 (by rw [below, if_neg (by omega), if_neg (by omega)]), rfl⟩

/-- The stream in block b: its slice is `av` with `xs.length` numbers that are xs, and so many have been handed out. -/
structure Strm (b : Nat) (av : Option Addr) (cap : Nat) (xs : List Int) (w : World) (at_ : Nat) : Prop where
  blk : w.heap[b]? = some (.cells #[.slice av xs.length cap, .int .i64 at_] 25 /-t:hedgelayer/hgmake.Stream-/ (0, 0))
  el : ∀ j, j < xs.length → ∃ bl off, av = some ⟨bl, off, none⟩ ∧ bl ≠ b ∧ w.cell? ⟨bl, off + j, none⟩ = some (.int .i64 (xs.getD j 0))

theorem Strm.c0 {b av cap xs w at_} (h : Strm b av cap xs w at_) : w.cell? ⟨b, 0, none⟩ = some (.slice av xs.length cap) := by simp [World.cell?, h.blk]
theorem Strm.c1 {b av cap xs w at_} (h : Strm b av cap xs w at_) : w.cell? ⟨b, 1, none⟩ = some (.int .i64 at_) := by simp [World.cell?, h.blk]
theorem Strm.f1 {b av cap xs w at_} (h : Strm b av cap xs w at_) : w.frozen? ⟨b, 1, none⟩ = false := by simp [World.frozen?, h.blk]

/-- Between w and w' the stream alone has been written, and there are new blocks; the stream stands at k'. -/
structure Sto (b : Nat) (av : Option Addr) (cap : Nat) (xs : List Int) (w w' : World) (k' : Nat) : Prop where
  grow : w.grownBy w' (some b)
  strm : Strm b av cap xs w' k'

/-- What Next hands out when `k` numbers have been handed out before. -/
def nextv (xs : List Int) (k : Nat) (n : Int) : Int :=
  if xs.length = 0 then below (((k : Int) + 1) * 7919) n
  else below (below (xs.getD (k % xs.length) 0) 1073741824 + ((k / xs.length : Nat) : Int) * (7919 + ((k % xs.length : Nat) : Int))) n

set_option maxHeartbeats 1000000 in
theorem next_nil (b : Nat) (av : Option Addr) (cap k : Nat) (n : Int) (w : World) (hn : n ≤ 9223372036854775807) (hk : k ≤ 1073741824)
    (S : Strm b av cap [] w k) :
    Calls Tryz.prog 37 #[.pointer (some ⟨b, 0, none⟩), .int .i64 n] w fun e w' => e = .returned (.int .i64 (nextv [] k n)) ∧ w.setCell ⟨b, 1, none⟩ (.int .i64 ((k : Int) + 1)) = w' := by
  have h0 := S.c0
  have h1 := S.c1
  have hf := S.f1
  clear S
  go_enter Tryz.func37, Tryz.ntmps37
  go_wp2_with fail
  refine (below_any _ _ _ hn).mono ?_
  rintro e w' ⟨rfl, rfl⟩
  go_wp2_with fail
  go_ret
  exact ⟨ret_i64 (by simp [nextv]), rfl⟩

theorem div_bound (k n : Nat) (hn : 0 < n) (hk : k ≤ 1073741824) :
    (0 : Int) ≤ (k : Int) / (n : Int) * (7919 + (k : Int) % (n : Int)) ∧ (k : Int) / (n : Int) * (7919 + (k : Int) % (n : Int)) ≤ 8504035246080 := by
  have h1 := Nat.div_mul_le_self k n
  have h2 := Nat.mul_le_mul_left (k / n) (Nat.le_of_lt (Nat.mod_lt k hn))
  have h3 := Nat.div_le_self k n
  have e : (k : Int) / (n : Int) * (7919 + (k : Int) % (n : Int)) = ((k / n : Nat) : Int) * 7919 + ((k / n * (k % n) : Nat) : Int) := by
    rw [Int.mul_add, Int.natCast_mul, Int.natCast_ediv, Int.natCast_emod]
  rw [e]
  have h4 := Nat.le_trans h2 h1
  generalize k / n * (k % n) = p at h4 ⊢
  generalize k / n = q at h3 ⊢
  omega
set_option maxHeartbeats 1000000 in
theorem next_some (b : Nat) (av : Option Addr) (cap k : Nat) (n : Int) (xs : List Int) (w : World) (hn : n ≤ 9223372036854775807) (hk : k ≤ 1073741824) (hx : 1 ≤ xs.length) (hx2 : xs.length ≤ 9223372036854775807)
    (S : Strm b av cap xs w k) :
    Calls Tryz.prog 37 #[.pointer (some ⟨b, 0, none⟩), .int .i64 n] w fun e w' => e = .returned (.int .i64 (nextv xs k n)) ∧ ∃ m, (w.setCell ⟨b, 1, none⟩ (.int .i64 ((k : Int) + 1))).drewN m = w' := by
  have h0 := S.c0
  have h1 := S.c1
  have hf := S.f1
  have hm : k % xs.length < xs.length := Nat.mod_lt _ (by omega)
  obtain ⟨bl, off, rfl, hb, hc⟩ := S.el _ hm
  have hb' : b ≠ bl := fun e => hb e.symm
  have hz : ((xs.length : Int) == 0) = false := beq_eq_false_iff_ne.2 (by omega)
  have hp : (0 : Int) ≤ (k : Int) % (xs.length : Int) ∧ (k : Int) % (xs.length : Int) < xs.length := ⟨Int.emod_nonneg _ (by omega), Int.emod_lt_of_pos _ (by omega)⟩
  have hq : (0 : Int) ≤ (k : Int) / (xs.length : Int) ∧ (k : Int) / (xs.length : Int) ≤ k := ⟨Int.ediv_nonneg (by omega) (by omega), Int.ediv_le_self _ (by omega)⟩
  have hp3 : (k : Int) % (xs.length : Int) ≤ k := by have := Nat.mod_le k xs.length; omega
  have hr := div_bound k xs.length (by omega) hk
  clear S
  go_enter Tryz.func37, Tryz.ntmps37
  go_wp2_with fail
  go_quiet (fail)
  go_wp2_with fail
  go_quiet (fail)
  go_wp2_with fail
  refine (below_any _ _ _ (by omega)).mono ?_
  rintro e w' ⟨rfl, rfl⟩
  have l1 := below_lo xs[k % xs.length] 1073741824
  have l2 := below_hi xs[k % xs.length] 1073741824 (by omega)
  go_wp2_with fail
  refine (below_any _ _ _ hn).mono ?_
  rintro e w' ⟨rfl, rfl⟩
  go_wp2_with fail
  go_ret
  refine ⟨ret_i64 ?_, _, rfl⟩
  rw [nextv, if_neg (by omega)]
  simp [List.getD, hm]

theorem Strm.lt {b av cap xs w k} (h : Strm b av cap xs w k) : b < w.heap.size := lt_of_block h.blk

theorem Strm.grown {b av cap xs w w' k} {row : Option Nat} (h : Strm b av cap xs w k) (g : w.grownBy w' row) (hr : row ≠ some b)
    (he : ∀ a, av = some a → row ≠ some a.block) : Strm b av cap xs w' k := by
  refine ⟨by rw [g.block b h.lt (fun e => hr e.symm)]; exact h.blk, fun j hj => ?_⟩
  obtain ⟨bl, off, e, hb, hc⟩ := h.el j hj
  exact ⟨bl, off, e, hb, g.cell hc (fun e' => he _ e e'.symm)⟩

/-- The stream steps: a store into its second cell, and draws. -/
theorem Strm.step {b av cap xs w k} (h : Strm b av cap xs w k) (m k' : Nat) :
    Sto b av cap xs w ((w.setCell ⟨b, 1, none⟩ (.int .i64 (k' : Int))).drewN m) k' := by
  have hlt := h.lt
  have hb' : w.heap[b] = .cells #[.slice av xs.length cap, .int .i64 k] 25 /-t:hedgelayer/hgmake.Stream-/ (0, 0) := by simpa [Array.getElem?_eq_getElem hlt] using h.blk
  refine ⟨⟨rfl, rfl, rfl, by simp [World.setCell, World.drewN], fun i hi hne => ?_⟩, ?_, fun j hj => ?_⟩
  · exact Below.heap_setCell _ _ _ _ (fun e => hne (by rw [e]))
  · show (w.heap.modify b _)[b]? = _
    rw [Array.getElem?_eq_getElem (by simpa using hlt), Array.getElem_modify_self, hb']
    rfl
  · obtain ⟨bl, off, e, hb, hc⟩ := h.el j hj
    refine ⟨bl, off, e, hb, ?_⟩
    rw [← hc]
    exact World.cell?_of_block (w := w) (Below.heap_setCell _ _ _ _ hb)

theorem Sto.refl {b av cap xs w k} (h : Strm b av cap xs w k) : Sto b av cap xs w w k := ⟨⟨rfl, rfl, rfl, Nat.le_refl _, fun _ _ _ => rfl⟩, h⟩
theorem grownBy_trans {w0 w1 w2 : World} {r : Option Nat} (h : w0.grownBy w1 r) (g : w1.grownBy w2 r) : w0.grownBy w2 r :=
  ⟨g.os.trans h.os, g.tape.trans h.tape, g.output.trans h.output, Nat.le_trans h.size g.size, fun k hk hn => (g.block k (Nat.lt_of_lt_of_le hk h.size) hn).trans (h.block k hk hn)⟩
theorem Sto.trans {b av cap xs w0 w1 w2 k1 k2} (h : Sto b av cap xs w0 w1 k1) (g : Sto b av cap xs w1 w2 k2) : Sto b av cap xs w0 w2 k2 :=
  ⟨grownBy_trans h.grow g.grow, g.strm⟩

theorem Strm.alloc {b av cap xs w k} (h : Strm b av cap xs w k) (o : Obj) : Strm b av cap xs (w.alloc o) k := by
  refine ⟨by rw [Below.heap_alloc _ _ _ h.lt]; exact h.blk, fun j hj => ?_⟩
  obtain ⟨bl, off, e, hb, hc⟩ := h.el j hj
  exact ⟨bl, off, e, hb, World.grownBy.cell (World.grownBy_alloc w o none) hc (by simp)⟩
theorem Sto.alloc {b av cap xs w w' k} (h : Sto b av cap xs w w' k) (o : Obj) : Sto b av cap xs w (w'.alloc o) k :=
  ⟨grownBy_trans h.grow (World.grownBy_alloc w' o (some b)), h.strm.alloc o⟩
theorem Strm.drew {b av cap xs w k} (h : Strm b av cap xs w k) : Strm b av cap xs w.drew k := ⟨h.blk, h.el⟩
theorem Sto.drew {b av cap xs w w' k} (h : Sto b av cap xs w w' k) : Sto b av cap xs w w'.drew k := ⟨⟨h.grow.os, h.grow.tape, h.grow.output, h.grow.size, h.grow.block⟩, h.strm.drew⟩

theorem Sto.kept {b av cap xs w w' k} (h : Sto b av cap xs w w' k) {r : Nat} {o : Obj} (hr : w.heap[r]? = some o) (hb : r ≠ b) : w'.heap[r]? = some o := by
  rw [h.grow.block r (lt_of_block hr) (by simpa using hb)]; exact hr
/-- A store into a block that is newer than the call. -/
theorem Sto.setCell {b av cap xs w w' k k0} (h : Sto b av cap xs w w' k) (S : Strm b av cap xs w k0) (p : Addr) (u : Value) (hp : w.heap.size ≤ p.block) : Sto b av cap xs w (w'.setCell p u) k := by
  have hb := S.lt
  refine ⟨⟨h.grow.os, h.grow.tape, h.grow.output, by have := h.grow.size; simpa [World.setCell] using this, fun i hi hn => ?_⟩, ?_, fun j hj => ?_⟩
  · rw [Below.heap_setCell _ _ _ _ (by omega)]; exact h.grow.block i hi hn
  · rw [Below.heap_setCell _ _ _ _ (by omega)]; exact h.strm.blk
  · obtain ⟨bl, off, e, hb2, hc⟩ := h.strm.el j hj
    obtain ⟨bl', off', e', _, hc'⟩ := S.el j hj
    rw [e] at e'
    simp only [Option.some.injEq, Addr.mk.injEq] at e'
    have hlt : bl' < w.heap.size := World.block_lt_of_cell? w _ hc'
    have hne : bl ≠ p.block := by omega
    refine ⟨bl, off, e, hb2, ?_⟩
    rw [← hc]
    exact World.cell?_of_block (w := w') (Below.heap_setCell _ _ _ _ hne)

/-- What is written is newer than the call. -/
theorem Sto.newer {b av cap xs w w1 w2 k k0} {row : Option Nat} (h : Sto b av cap xs w w1 k) (S : Strm b av cap xs w k0) (g : w1.grownBy w2 row) (hr : ∀ r, row = some r → w.heap.size ≤ r) : Sto b av cap xs w w2 k := by
  have hb := S.lt
  have hs := h.grow.size
  have key : ∀ i, i < w.heap.size → w2.heap[i]? = w1.heap[i]? := fun i hi => g.block i (by omega) (fun e => by have := hr i e.symm; omega)
  refine ⟨⟨g.os.trans h.grow.os, g.tape.trans h.grow.tape, g.output.trans h.grow.output, Nat.le_trans hs g.size, fun i hi hn => (key i hi).trans (h.grow.block i hi hn)⟩, by rw [key b hb]; exact h.strm.blk, fun j hj => ?_⟩
  obtain ⟨bl, off, e, hb2, hc⟩ := h.strm.el j hj
  obtain ⟨bl', off', e', _, hc'⟩ := S.el j hj
  rw [e] at e'
  simp only [Option.some.injEq, Addr.mk.injEq] at e'
  have hlt : bl' < w.heap.size := World.block_lt_of_cell? w _ hc'
  refine ⟨bl, off, e, hb2, ?_⟩
  rw [← hc]
  exact World.cell?_of_block (w := w1) (key bl (by omega))

/-- Next, whatever the stream. -/
theorem next_any {b : Nat} {av : Option Addr} {cap k : Nat} {xs : List Int} {w : World} (n : Int) (hn : n ≤ 9223372036854775807) (hk : k ≤ 1073741824) (hx2 : xs.length ≤ 9223372036854775807)
    (S : Strm b av cap xs w k) :
    Calls Tryz.prog 37 #[.pointer (some ⟨b, 0, none⟩), .int .i64 n] w fun e w' => e = .returned (.int .i64 (nextv xs k n)) ∧ Sto b av cap xs w w' (k + 1) := by
  by_cases h : xs.length = 0
  · obtain rfl : xs = [] := List.eq_nil_of_length_eq_zero h
    refine (next_nil b av cap k n w hn hk S).mono ?_
    rintro e w' ⟨rfl, rfl⟩
    exact ⟨rfl, S.step 0 (k + 1)⟩
  · refine (next_some b av cap k n xs w hn hk (by omega) hx2 S).mono ?_
    rintro e w' ⟨rfl, m, rfl⟩
    exact ⟨rfl, S.step m (k + 1)⟩

theorem nextv_lo (xs : List Int) (k : Nat) (n : Int) : 0 ≤ nextv xs k n := by unfold nextv; split <;> exact below_lo _ _
theorem nextv_hi (xs : List Int) (k : Nat) (n : Int) (h : 1 ≤ n) : nextv xs k n < n := by unfold nextv; split <;> exact below_hi _ _ h
theorem nextv_le (xs : List Int) (k : Nat) (n : Int) (h : 0 ≤ n) : nextv xs k n ≤ n := by unfold nextv; split <;> exact below_le _ _ h
end Go.Proofs.YtplbacfjmajeeaaGreatDoor
namespace Go.Proofs.YtplbacfjmajeeaaGreatDoor
open Go.RowKit

/-- Blocks of which P is true are as they were; there may be new ones. -/
structure Frm (P : Nat → Option Obj → Prop) (w w' : World) : Prop where
  os : w'.os = w.os
  tape : w'.tape = w.tape
  output : w'.output = w.output
  size : w.heap.size ≤ w'.heap.size
  block : ∀ k, k < w.heap.size → P k w.heap[k]? → w'.heap[k]? = w.heap[k]?

theorem Frm.refl (P : Nat → Option Obj → Prop) (w : World) : Frm P w w := ⟨rfl, rfl, rfl, Nat.le_refl _, fun _ _ _ => rfl⟩
theorem Frm.trans {P : Nat → Option Obj → Prop} {a b c : World} (h : Frm P a b) (g : Frm P b c) : Frm P a c :=
  ⟨g.os.trans h.os, g.tape.trans h.tape, g.output.trans h.output, Nat.le_trans h.size g.size, fun k hk hp =>
    have e := h.block k hk hp
    (g.block k (Nat.lt_of_lt_of_le hk h.size) (by rw [e]; exact hp)).trans e⟩
theorem Frm.mono {P Q : Nat → Option Obj → Prop} {a b : World} (h : Frm P a b) (hq : ∀ k, k < a.heap.size → Q k a.heap[k]? → P k a.heap[k]?) : Frm Q a b :=
  ⟨h.os, h.tape, h.output, h.size, fun k hk hp => h.block k hk (hq k hk hp)⟩
theorem Frm.alloc {P : Nat → Option Obj → Prop} {a b : World} (h : Frm P a b) (o : Obj) : Frm P a (b.alloc o) :=
  h.trans ⟨rfl, rfl, rfl, by simp, fun k hk _ => Below.heap_alloc _ _ _ hk⟩
theorem Frm.drew {P : Nat → Option Obj → Prop} {a b : World} (h : Frm P a b) : Frm P a b.drew := ⟨h.os, h.tape, h.output, h.size, h.block⟩
theorem Frm.setCell {P : Nat → Option Obj → Prop} {a b : World} (h : Frm P a b) (p : Addr) (u : Value) (hp : ¬ P p.block b.heap[p.block]?) : Frm P a (b.setCell p u) :=
  h.trans ⟨rfl, rfl, rfl, by simp [World.setCell], fun k _ hk => Below.heap_setCell _ _ _ _ (fun e => hp (by rw [← e]; exact hk))⟩
theorem Frm.grown {P : Nat → Option Obj → Prop} {a b c : World} {row : Option Nat} (h : Frm P a b) (g : b.grownBy c row) (hr : ∀ k, row = some k → ¬ P k b.heap[k]?) : Frm P a c :=
  h.trans ⟨g.os, g.tape, g.output, g.size, fun k hk hp => g.block k hk (fun e => hr k e.symm hp)⟩

theorem heap_setCell_self {w : World} {b : Nat} {cs : Array Value} {t : TypeId} (h : w.heap[b]? = some (.cells cs t (0, 0))) (i : Nat) (u : Value) : (w.setCell ⟨b, i, none⟩ u).heap[b]? = some (.cells (cs.setIfInBounds i u) t (0, 0)) := by
  have hlt := lt_of_block h
  have h' : w.heap[b] = .cells cs t (0, 0) := by simpa [Array.getElem?_eq_getElem hlt] using h
  show (w.heap.modify b _)[b]? = _
  rw [Array.getElem?_eq_getElem (by simpa using hlt), Array.getElem_modify_self, h']
  rfl

theorem cells_new (w : World) (vs : List Value) (t : TypeId) : ∀ j u, vs[j]? = some u → (w.alloc (.cells vs.toArray t)).cell? ((⟨w.heap.size, 0, none⟩ : Addr).add j) = some u := by
  intro j u hj
  have e : ((⟨w.heap.size, 0, none⟩ : Addr).add j) = ⟨w.heap.size, j, none⟩ := by simp [Addr.add]; omega
  rw [e]
  unfold World.cell?
  rw [show (w.alloc (.cells vs.toArray t)).heap[(⟨w.heap.size, j, none⟩ : Addr).block]? = _ from heap_alloc_new w _]
  simpa using hj

/-- The block of a slice that the call owns: of its elements' type. -/
theorem ownsRow_block {w : World} {base : Nat} {e : TypeId} {size : Nat} {v : Value} {n : Nat} {xs : List Value} (h : w.ownsRow base e size v n xs) : ∀ k, v.ownBlock = some k → base ≤ k ∧ ∃ c, w.heap[k]? = some (.cells c e (0, 0)) := by
  intro k hk
  rcases h.2 with ⟨rfl, _⟩ | ⟨g, cap, cur, rfl, hg, hh, _⟩
  · simp [Value.ownBlock] at hk
  · simp [Value.ownBlock] at hk
    subst hk
    exact ⟨hg, cur, hh⟩

theorem cell_of_block {w : World} {b : Nat} {cs : Array Value} {t : TypeId} {fr : Nat × Nat} (h : w.heap[b]? = some (.cells cs t fr)) (i : Nat) : w.cell? ⟨b, i, none⟩ = cs[i]? := by simp [World.cell?, h]
theorem free_of_block {w : World} {b : Nat} {cs : Array Value} {t : TypeId} (h : w.heap[b]? = some (.cells cs t (0, 0))) (i : Nat) : w.frozen? ⟨b, i, none⟩ = false := by simp [World.frozen?, h]

/-- A store into a block of another kind leaves what is owned. -/
theorem ownsRow_setCell_block {w : World} {base : Nat} {e : TypeId} {size : Nat} {v : Value} {n : Nat} {xs : List Value} (h : w.ownsRow base e size v n xs)
    {b : Nat} {cs : Array Value} {t : TypeId} {fr : Nat × Nat} (hb : w.heap[b]? = some (.cells cs t fr)) (ht : t ≠ e) (i : Nat) (u : Value) : (w.setCell ⟨b, i, none⟩ u).ownsRow base e size v n xs := by
  refine ownsRow_setCell_other h (fun hk => ?_) u
  obtain ⟨_, c, hc⟩ := ownsRow_block h _ hk
  have := hb.symm.trans hc
  simp at this
  exact ht this.2.1
/-- What grows the row of a slice leaves blocks of another kind. -/
theorem grown_block {w w' : World} {base : Nat} {e : TypeId} {size : Nat} {v : Value} {n : Nat} {xs : List Value} (h : w.ownsRow base e size v n xs) (g : w.grownBy w' v.ownBlock)
    {b : Nat} {cs : Array Value} {t : TypeId} {fr : Nat × Nat} (hb : w.heap[b]? = some (.cells cs t fr)) (ht : t ≠ e) : w'.heap[b]? = some (.cells cs t fr) := by
  rw [g.block b (lt_of_block hb) (fun hk => ?_)]
  · exact hb
  · obtain ⟨_, c, hc⟩ := ownsRow_block h _ hk.symm
    have := hb.symm.trans hc
    simp at this
    exact ht this.2.1

theorem ownsRow_slice {w : World} {base : Nat} {e : TypeId} {size : Nat} {v : Value} {n : Nat} {xs : List Value} (h : w.ownsRow base e size v n xs) : ∃ a c, v = .slice a n c := by
  rcases h.2 with ⟨rfl, rfl⟩ | ⟨g, cap, cur, rfl, _⟩
  · exact ⟨none, 0, rfl⟩
  · exact ⟨_, _, rfl⟩

theorem heap_new_at (w : World) (o : Obj) (k : Nat) (h : w.heap.size = k) : (w.alloc o).heap[k]? = some o := by subst h; exact heap_alloc_new w o

theorem grow_setCell {w w1 : World} (h : w.grownBy w1 none) (p : Addr) (u : Value) (hp : w.heap.size ≤ p.block) : w.grownBy (w1.setCell p u) none :=
  ⟨h.os, h.tape, h.output, by have := h.size; simpa [World.setCell] using this, fun k hk hn => (Below.heap_setCell _ _ _ _ (by omega)).trans (h.block k hk hn)⟩

/-- What is owned stays so where blocks of its elements' type are left alone. -/
theorem ownsRow_frm {P : Nat → Option Obj → Prop} {w w' : World} (f : Frm P w w') {base : Nat} {e : TypeId} {size : Nat} {v : Value} {n : Nat} {xs : List Value} (h : w.ownsRow base e size v n xs)
    (hp : ∀ k c, base ≤ k → w.heap[k]? = some (.cells c e (0, 0)) → P k (some (.cells c e (0, 0)))) : w'.ownsRow base e size v n xs := by
  obtain ⟨h1, h2⟩ := h
  refine ⟨h1, ?_⟩
  rcases h2 with h2 | ⟨g, cap, cur, hv, hg, hh, r⟩
  · exact Or.inl h2
  · exact Or.inr ⟨g, cap, cur, hv, hg, by rw [f.block g (lt_of_block hh) (by rw [hh]; exact hp g cur hg hh)]; exact hh, r⟩
theorem Frm.of_grown {w w' : World} (g : w.grownBy w' none) (P : Nat → Option Obj → Prop) : Frm P w w' := ⟨g.os, g.tape, g.output, g.size, fun k hk _ => g.block k hk (by simp)⟩
/-- The cells of what is owned. -/
theorem ownsRow_cell {w : World} {base : Nat} {e : TypeId} {size : Nat} {v : Value} {n : Nat} {xs : List Value} (h : w.ownsRow base e size v n xs) (hn : 0 < n) :
    ∃ g cap, v = .slice (some ⟨g, 0, none⟩) n cap ∧ base ≤ g ∧ ∀ j u, xs[j]? = some u → w.cell? ⟨g, j, none⟩ = some u := by
  rcases h.2 with ⟨_, h0⟩ | ⟨g, cap, cur, hv, hg, hh, hnc, hcm, hcs, ht⟩
  · omega
  · refine ⟨g, cap, hv, hg, fun j u hj => ?_⟩
    rw [cell_of_block hh]
    rw [← ht, List.getElem?_take] at hj
    split at hj
    · simpa using hj
    · simp at hj

theorem grow_below {w wr w2 : World} (h : w.grownBy wr none) (b : Below w.heap.size wr w2) : w.grownBy w2 none :=
  ⟨b.os.trans h.os, b.tape.trans h.tape, b.output.trans h.output, Nat.le_trans h.size b.size, fun k hk hn => (b.block k hk).trans (h.block k hk hn)⟩

theorem cells_new2 (w : World) (o : Obj) (vs : List Value) (t : TypeId) : ∀ j u, vs[j]? = some u → ((w.alloc o).alloc (.cells vs.toArray t)).cell? ((⟨w.heap.size + 1, 0, none⟩ : Addr).add j) = some u := by
  intro j u hj
  have := cells_new (w.alloc o) vs t j u hj
  rwa [show (w.alloc o).heap.size = w.heap.size + 1 by simp] at this

theorem cell_grown {w w' : World} {p : Addr} {v : Value} (h : w.cell? p = some v) (g : w.grownBy w' none) : w'.cell? p = some v := g.cell h (by simp)
theorem grow_self (w : World) : w.grownBy w none := ⟨rfl, rfl, rfl, Nat.le_refl _, fun _ _ _ => rfl⟩
theorem grow_alloc {w w' : World} (g : w.grownBy w' none) (o : Obj) : w.grownBy (w'.alloc o) none := grownBy_trans g (World.grownBy_alloc _ _ _)
theorem grow_drew {w w' : World} (g : w.grownBy w' none) : w.grownBy w'.drew none := ⟨g.os, g.tape, g.output, g.size, g.block⟩

theorem grow_frm {P : Nat → Option Obj → Prop} {w wr w1 : World} (h : w.grownBy wr none) (f : Frm P wr w1) (hp : ∀ k o, k < w.heap.size → P k o) : w.grownBy w1 none :=
  ⟨f.os.trans h.os, f.tape.trans h.tape, f.output.trans h.output, Nat.le_trans h.size f.size, fun k hk _ => (f.block k (Nat.lt_of_lt_of_le hk h.size) (hp k _ hk)).trans (h.block k hk (by simp))⟩
theorem ownsRow_base {w : World} {base base' : Nat} {e : TypeId} {size : Nat} {v : Value} {n : Nat} {xs : List Value} (h : w.ownsRow base e size v n xs) (hb : base' ≤ base) : w.ownsRow base' e size v n xs := by
  refine ⟨h.1, ?_⟩
  rcases h.2 with h2 | ⟨g, cap, cur, hv, hg, r⟩
  · exact Or.inl h2
  · exact Or.inr ⟨g, cap, cur, hv, by omega, r⟩

/-- Behind a write to a row that is newer than the call. -/
theorem grow_row {w w1 w2 : World} {row : Option Nat} (h : w.grownBy w1 none) (g : w1.grownBy w2 row) (hr : ∀ k, row = some k → w.heap.size ≤ k) : w.grownBy w2 none :=
  ⟨g.os.trans h.os, g.tape.trans h.tape, g.output.trans h.output, Nat.le_trans h.size g.size, fun k hk hn =>
    (g.block k (Nat.lt_of_lt_of_le hk h.size) (fun e => by have := hr k e.symm; omega)).trans (h.block k hk hn)⟩
/-- A row of one kind behind an append to a row of another kind. -/
theorem append_own {w w' : World} {base base2 : Nat} {e e2 : TypeId} {size size2 : Nat} {v v2 : Value} {n n2 : Nat} {xs ys : List Value} (he : e2 ≠ e) (o : w.ownsRow base e size v n xs) (g : w.grownBy w' v.ownBlock)
    (o2 : w.ownsRow base2 e2 size2 v2 n2 ys) : w'.ownsRow base2 e2 size2 v2 n2 ys := by
  refine ⟨o2.1, ?_⟩
  rcases o2.2 with h | ⟨gg, cap, cur, hv, hg, hh, r⟩
  · exact Or.inl h
  · exact Or.inr ⟨gg, cap, cur, hv, hg, grown_block o g hh he, r⟩
end Go.Proofs.YtplbacfjmajeeaaGreatDoor
namespace Go.Proofs.YtplbacfjmajeeaaGreatDoor
open Go.RowKit

def rangev (xs : List Int) (k : Nat) (lo hi : Int) : Int := if hi < lo then lo else lo + nextv xs k (hi - lo + 1)
def rangek (k : Nat) (lo hi : Int) : Nat := if hi < lo then k else k + 1
theorem rangek_le (k : Nat) (lo hi : Int) : k ≤ rangek k lo hi ∧ rangek k lo hi ≤ k + 1 := by unfold rangek; split <;> omega
theorem rangev_bd (xs : List Int) (k : Nat) (lo hi : Int) : lo ≤ rangev xs k lo hi ∧ (lo ≤ hi → rangev xs k lo hi ≤ hi) := by
  unfold rangev; split
  · omega
  · have := nextv_lo xs k (hi - lo + 1); have := nextv_hi xs k (hi - lo + 1) (by omega); omega

theorem ret_bool {a b : Bool} (h : a = b) : Ending.returned (.bool a) = .returned (.bool b) := by rw [h]
theorem ret_str {a b : ByteArray} (h : a = b) : Ending.returned (.string a) = .returned (.string b) := by rw [h]

set_option maxHeartbeats 400000 in
theorem range_any {b : Nat} {av : Option Addr} {cap k : Nat} {xs : List Int} {w : World} (lo hi : Int) (hlo : -1000000000000 ≤ lo ∧ lo ≤ 1000000000000) (hhi : -1000000000000 ≤ hi ∧ hi ≤ 1000000000000)
    (hk : k ≤ 1073741824) (hx2 : xs.length ≤ 9223372036854775807) (S : Strm b av cap xs w k) :
    Calls Tryz.prog 15 #[.pointer (some ⟨b, 0, none⟩), .int .i64 lo, .int .i64 hi] w fun e w' => e = .returned (.int .i64 (rangev xs k lo hi)) ∧ Sto b av cap xs w w' (rangek k lo hi) := by
  by_cases h : hi < lo
  · go_enter Tryz.func15, Tryz.ntmps15
    go_wp2_with fail
    go_ret
    exact ⟨ret_i64 (by rw [rangev, if_pos h]), by rw [rangek, if_pos h]; exact Sto.refl S⟩
  · go_enter Tryz.func15, Tryz.ntmps15
    go_wp2_with fail
    refine (next_any _ (by omega) hk hx2 S).mono ?_
    rintro e w' ⟨rfl, T⟩
    have l1 := nextv_lo xs k (hi - lo + 1)
    have l2 := nextv_hi xs k (hi - lo + 1) (by omega)
    go_wp2_with fail
    go_ret
    exact ⟨ret_i64 (by rw [rangev, if_neg (by omega)]), by rw [rangek, if_neg (by omega)]; exact T⟩

def flipv (xs : List Int) (k : Nat) (n : Int) : Bool := nextv xs k n == 0

set_option maxHeartbeats 400000 in
theorem flip_any {b : Nat} {av : Option Addr} {cap k : Nat} {xs : List Int} {w : World} (n : Int) (hn : n ≤ 9223372036854775807)
    (hk : k ≤ 1073741824) (hx2 : xs.length ≤ 9223372036854775807) (S : Strm b av cap xs w k) :
    Calls Tryz.prog 7 #[.pointer (some ⟨b, 0, none⟩), .int .i64 n] w fun e w' => e = .returned (.bool (flipv xs k n)) ∧ Sto b av cap xs w w' (k + 1) := by
  go_enter Tryz.func7, Tryz.ntmps7
  go_wp2_with fail
  refine (next_any _ hn hk hx2 S).mono ?_
  rintro e w' ⟨rfl, T⟩
  go_wp2_with fail
  go_ret
  exact ⟨ret_bool rfl, T⟩

def pickv (xs : List Int) (k : Nat) (ls : List Int) : Int := ls.getD (nextv xs k ls.length).toNat 0

set_option maxHeartbeats 400000 in
theorem pick_any {b : Nat} {av : Option Addr} {cap k : Nat} {xs : List Int} {w : World} (p m : Nat) (ls : List Int) (hl : 1 ≤ ls.length) (hl2 : ls.length ≤ 1000000)
    (hp : p ≠ b) (hc : ∀ j, j < ls.length → w.cell? ⟨p, j, none⟩ = some (.int .i64 (ls.getD j 0)))
    (hk : k ≤ 1073741824) (hx2 : xs.length ≤ 9223372036854775807) (S : Strm b av cap xs w k) :
    Calls Tryz.prog 35 #[.pointer (some ⟨b, 0, none⟩), .slice (some ⟨p, 0, none⟩) ls.length m] w fun e w' => e = .returned (.int .i64 (pickv xs k ls)) ∧ Sto b av cap xs w w' (k + 1) := by
  have l1 := nextv_lo xs k ls.length
  have l2 := nextv_hi xs k ls.length (by omega)
  have H := Lib.hid hc
  clear hc
  go_enter Tryz.func35, Tryz.ntmps35
  go_wp2_with fail
  refine (next_any _ (by omega) hk hx2 S).mono ?_
  rintro e w' ⟨rfl, T⟩
  have hc' : w'.cell? ⟨p, (nextv xs k ls.length).toNat, none⟩ = some (.int .i64 (pickv xs k ls)) :=
    T.grow.cell (H.out _ (by omega)) (by simpa using hp)
  go_wp2_with fail
  go_ret
  exact ⟨rfl, T⟩

def somev (xs : List Int) (k : Nat) (ls : List ByteArray) : ByteArray := ls.getD (nextv xs k ls.length).toNat ByteArray.empty

set_option maxHeartbeats 400000 in
theorem some_any {b : Nat} {av : Option Addr} {cap k : Nat} {xs : List Int} {w : World} (p m : Nat) (ls : List ByteArray) (hl : 1 ≤ ls.length) (hl2 : ls.length ≤ 1000000)
    (hp : p ≠ b) (hc : ∀ j, j < ls.length → w.cell? ⟨p, j, none⟩ = some (.string (ls.getD j ByteArray.empty)))
    (hk : k ≤ 1073741824) (hx2 : xs.length ≤ 9223372036854775807) (S : Strm b av cap xs w k) :
    Calls Tryz.prog 21 #[.pointer (some ⟨b, 0, none⟩), .slice (some ⟨p, 0, none⟩) ls.length m] w fun e w' => e = .returned (.string (somev xs k ls)) ∧ Sto b av cap xs w w' (k + 1) := by
  have l1 := nextv_lo xs k ls.length
  have l2 := nextv_hi xs k ls.length (by omega)
  have H := Lib.hid hc
  clear hc
  go_enter Tryz.func21, Tryz.ntmps21
  go_wp2_with fail
  refine (next_any _ (by omega) hk hx2 S).mono ?_
  rintro e w' ⟨rfl, T⟩
  have hc' : w'.cell? ⟨p, (nextv xs k ls.length).toNat, none⟩ = some (.string (somev xs k ls)) :=
    T.grow.cell (H.out _ (by omega)) (by simpa using hp)
  go_wp2_with fail
  go_ret
  exact ⟨rfl, T⟩

theorem somev_all (P : ByteArray → Prop) (xs : List Int) (k : Nat) (ls : List ByteArray) (hl : 1 ≤ ls.length) (h : ∀ x, x ∈ ls → P x) : P (somev xs k ls) := by
  have l1 := nextv_lo xs k ls.length
  have l2 := nextv_hi xs k ls.length (by omega)
  unfold somev
  have hj : (nextv xs k ls.length).toNat < ls.length := by omega
  rw [List.getD_eq_getElem?_getD, List.getElem?_eq_getElem hj]
  exact h _ (List.getElem_mem hj)
theorem pickv_all (P : Int → Prop) (xs : List Int) (k : Nat) (ls : List Int) (hl : 1 ≤ ls.length) (h : ∀ x, x ∈ ls → P x) : P (pickv xs k ls) := by
  have l1 := nextv_lo xs k ls.length
  have l2 := nextv_hi xs k ls.length (by omega)
  unfold pickv
  have hj : (nextv xs k ls.length).toNat < ls.length := by omega
  rw [List.getD_eq_getElem?_getD, List.getElem?_eq_getElem hj]
  exact h _ (List.getElem_mem hj)

theorem new_cell (w : World) (vs : List Value) (t : TypeId) (j : Nat) (h : j < vs.length) : (w.alloc (.cells vs.toArray t)).cell? ⟨w.heap.size, j, none⟩ = some (vs[j]) := by
  unfold World.cell?
  rw [show (w.alloc (.cells vs.toArray t)).heap[(⟨w.heap.size, j, none⟩ : Addr).block]? = _ from heap_alloc_new w _]
  simp [h]

/-- Some over strings that have just been written out. -/
theorem some_new {b : Nat} {av : Option Addr} {cap k : Nat} {xs : List Int} {w : World} (ls : List ByteArray) (hl : 1 ≤ ls.length) (hl2 : ls.length ≤ 1000000)
    (hk : k ≤ 1073741824) (hx2 : xs.length ≤ 9223372036854775807) (S : Strm b av cap xs w k) :
    Calls Tryz.prog 21 #[.pointer (some ⟨b, 0, none⟩), .slice (some ⟨w.heap.size, 0, none⟩) ls.length ls.length] (w.alloc (.cells (ls.map Value.string).toArray 9 /-t:string-/)) fun e w' =>
      e = .returned (.string (somev xs k ls)) ∧ Sto b av cap xs w w' (k + 1) := by
  refine (some_any w.heap.size ls.length ls hl hl2 (by have := S.lt; omega) (fun j hj => ?_) hk hx2 (S.alloc _)).mono ?_
  · rw [new_cell _ _ _ _ (by simpa using hj)]; simp [hj, List.getD]
  · rintro e w' ⟨rfl, T⟩
    exact ⟨rfl, ((Sto.refl S).alloc _).trans T⟩

/-- Pick over numbers that have just been written out. -/
theorem pick_new {b : Nat} {av : Option Addr} {cap k : Nat} {xs : List Int} {w : World} (ls : List Int) (hl : 1 ≤ ls.length) (hl2 : ls.length ≤ 1000000)
    (hk : k ≤ 1073741824) (hx2 : xs.length ≤ 9223372036854775807) (S : Strm b av cap xs w k) :
    Calls Tryz.prog 35 #[.pointer (some ⟨b, 0, none⟩), .slice (some ⟨w.heap.size, 0, none⟩) ls.length ls.length] (w.alloc (.cells (ls.map (Value.int .i64)).toArray 3 /-t:int-/)) fun e w' =>
      e = .returned (.int .i64 (pickv xs k ls)) ∧ Sto b av cap xs w w' (k + 1) := by
  refine (pick_any w.heap.size ls.length ls hl hl2 (by have := S.lt; omega) (fun j hj => ?_) hk hx2 (S.alloc _)).mono ?_
  · rw [new_cell _ _ _ _ (by simpa using hj)]; simp [hj, List.getD]
  · rintro e w' ⟨rfl, T⟩
    exact ⟨rfl, ((Sto.refl S).alloc _).trans T⟩

/-- The same behind a draw. -/
theorem pick_new_drew {b : Nat} {av : Option Addr} {cap k : Nat} {xs : List Int} {w : World} (ls : List Int) (hl : 1 ≤ ls.length) (hl2 : ls.length ≤ 1000000)
    (hk : k ≤ 1073741824) (hx2 : xs.length ≤ 9223372036854775807) (S : Strm b av cap xs w k) :
    Calls Tryz.prog 35 #[.pointer (some ⟨b, 0, none⟩), .slice (some ⟨w.heap.size, 0, none⟩) ls.length ls.length] (w.alloc (.cells (ls.map (Value.int .i64)).toArray 3 /-t:int-/)).drew fun e w' =>
      e = .returned (.int .i64 (pickv xs k ls)) ∧ Sto b av cap xs w w' (k + 1) := by
  refine (pick_any w.heap.size ls.length ls hl hl2 (by have := S.lt; omega) (fun j hj => ?_) hk hx2 (S.alloc _).drew).mono ?_
  · show (w.alloc _).cell? _ = _
    rw [new_cell _ _ _ _ (by simpa using hj)]; simp [hj, List.getD]
  · rintro e w' ⟨rfl, T⟩
    exact ⟨rfl, (((Sto.refl S).alloc _).drew).trans T⟩
end Go.Proofs.YtplbacfjmajeeaaGreatDoor
namespace Go.Proofs.YtplbacfjmajeeaaGreatDoor
open Go.RowKit

def inB (n lo hi : Int) : Bool := decide (lo ≤ n ∧ n ≤ hi)
theorem inB_yes {n lo hi : Int} (h : lo ≤ n ∧ n ≤ hi) : inB n lo hi = true := by simp [inB, h]
theorem inB_no {n lo hi : Int} (h : ¬ (lo ≤ n ∧ n ≤ hi)) : inB n lo hi = false := by simp [inB]; omega

set_option maxHeartbeats 400000 in
theorem in_any (n lo hi : Int) (w : World) : Calls Tryz.prog 62 #[.int .i64 n, .int .i64 lo, .int .i64 hi] w fun e w' => e = .returned (.bool (inB n lo hi)) ∧ w = w' := by
  by_cases h1 : lo ≤ n
  · by_cases h2 : n ≤ hi
    · rw [inB_yes ⟨h1, h2⟩]
      go_enter Tryz.func62, Tryz.ntmps62
      go_wp2
      go_ret
      exact ⟨rfl, rfl⟩
    · rw [inB_no (by omega)]
      go_enter Tryz.func62, Tryz.ntmps62
      go_wp2
      go_ret
      exact ⟨rfl, rfl⟩
  · rw [inB_no (by omega)]
    have h1' : decide (lo ≤ n) = false := by simpa using h1
    go_enter Tryz.func62, Tryz.ntmps62
    go_wp2
    go_ret
    exact ⟨rfl, rfl⟩
end Go.Proofs.YtplbacfjmajeeaaGreatDoor
namespace Go.Proofs.YtplbacfjmajeeaaGreatDoor
open Go.RowKit

/-- The cells of a struct of four. -/
def At4 (w : World) (b off : Nat) (v : Value) : Prop := ∃ c0 c1 c2 c3, v = .agg #[c0, c1, c2, c3] ∧ w.cell? ⟨b, off, none⟩ = some c0 ∧ w.cell? ⟨b, off + 1, none⟩ = some c1 ∧ w.cell? ⟨b, off + 2, none⟩ = some c2 ∧ w.cell? ⟨b, off + 3, none⟩ = some c3
mutual
/-- The value reads ps the pattern. -/
def PtAt (w : World) : Pt → Value → Prop
  | .mk o l h ps, v => ∃ av cap, v = .agg #[.int .i64 o, .int .i64 l, .int .i64 h, .slice av ps.length cap] ∧ (ps = [] ∨ ∃ b off, av = some ⟨b, off, none⟩ ∧ PtsAt w ps b off)
/-- The patterns lie one behind the other. -/
def PtsAt (w : World) : List Pt → Nat → Nat → Prop
  | [], _, _ => True
  | a :: ps, b, off => (∃ v, At4 w b off v ∧ PtAt w a v) ∧ PtsAt w ps b (off + 4)
end

theorem At4.grow {w w' : World} {b off : Nat} {v : Value} (h : At4 w b off v) (g : w.grownBy w' none) : At4 w' b off v := by
  obtain ⟨c0, c1, c2, c3, rfl, h0, h1, h2, h3⟩ := h
  exact ⟨c0, c1, c2, c3, rfl, cell_grown h0 g, cell_grown h1 g, cell_grown h2 g, cell_grown h3 g⟩

/-- Cells that stay. -/
def Stays (w w' : World) : Prop := ∀ b o v, w.cell? ⟨b, o, none⟩ = some v → w'.cell? ⟨b, o, none⟩ = some v
theorem Stays.of_grow {w w' : World} (g : w.grownBy w' none) : Stays w w' := fun _ _ _ h => cell_grown h g
mutual
theorem PtAt.grow {w w' : World} (g : w.grownBy w' none) : (p : Pt) → (v : Value) → PtAt w p v → PtAt w' p v
  | .mk o l h ps, v, hp => by
    obtain ⟨av, cap, hv, ha⟩ := hp
    refine ⟨av, cap, hv, ?_⟩
    rcases ha with ha | ⟨b, off, hb, ha⟩
    · exact .inl ha
    · exact .inr ⟨b, off, hb, PtsAt.grow g ps b off ha⟩
theorem PtsAt.grow {w w' : World} (g : w.grownBy w' none) : (ps : List Pt) → (b off : Nat) → PtsAt w ps b off → PtsAt w' ps b off
  | [], _, _, _ => trivial
  | a :: ps, b, off, h => ⟨by obtain ⟨v, h1, h2⟩ := h.1; exact ⟨v, h1.grow g, PtAt.grow g a v h2⟩, PtsAt.grow g ps b (off + 4) h.2⟩
end

theorem PtsAt.at_ {w : World} : (ps : List Pt) → (b off : Nat) → PtsAt w ps b off → ∀ j (h : j < ps.length), ∃ v, At4 w b (off + j * 4) v ∧ PtAt w ps[j] v
  | [], _, _, _, j, hj => by simp at hj
  | a :: ps, b, off, h, 0, _ => by simpa using h.1
  | a :: ps, b, off, h, j + 1, hj => by
    have := PtsAt.at_ ps b (off + 4) h.2 j (by simpa using hj)
    rw [show off + (j + 1) * 4 = off + 4 + j * 4 by omega]
    simpa using this

/-- What reading an element gives. -/
theorem PtAt.elem {w : World} {ps : List Pt} {av : Option Addr} (ha : ps = [] ∨ ∃ b off, av = some ⟨b, off, none⟩ ∧ PtsAt w ps b off) (j : Nat) (hj : j < ps.length) :
    ∃ b off, ∃ (o l h : Int) (x : Option Addr) (n c : Nat), av = some ⟨b, off, none⟩ ∧ w.cell? ⟨b, off + j * 4, none⟩ = some (.int .i64 o) ∧ w.cell? ⟨b, off + j * 4 + 1, none⟩ = some (.int .i64 l) ∧ w.cell? ⟨b, off + j * 4 + 2, none⟩ = some (.int .i64 h) ∧ w.cell? ⟨b, off + j * 4 + 3, none⟩ = some (.slice x n c) ∧ PtAt w ps[j] (.agg #[.int .i64 o, .int .i64 l, .int .i64 h, .slice x n c]) := by
  rcases ha with rfl | ⟨b, off, hb, ha⟩
  · simp at hj
  · obtain ⟨v, ⟨c0, c1, c2, c3, rfl, h⟩, hp⟩ := PtsAt.at_ ps b off ha j hj
    generalize ps[j] = q at hp
    obtain ⟨o, l, hh, qs⟩ := q
    obtain ⟨x, c, hv, hx⟩ := hp
    simp only [Value.agg.injEq, Array.mk.injEq, List.cons.injEq, and_true] at hv
    obtain ⟨rfl, rfl, rfl, rfl⟩ := hv
    exact ⟨b, off, o, l, hh, x, qs.length, c, hb, h.1, h.2.1, h.2.2.1, h.2.2.2, x, c, rfl, hx⟩

theorem sizes_take (ps : List Pt) (j : Nat) (h : j < ps.length) : sizes (ps.take (j + 1)) = sizes (ps.take j) + ps[j].size := by
  induction ps generalizing j with
  | nil => simp at h
  | cons a ps ih =>
    cases j with
    | zero => simp [sizes]
    | succ j => simp only [List.take_succ_cons, sizes, List.getElem_cons_succ]; rw [ih j (by simpa using h)]; omega
theorem sizes_take_le (ps : List Pt) (j : Nat) : sizes (ps.take j) ≤ sizes ps := by
  induction ps generalizing j with
  | nil => simp [sizes]
  | cons a ps ih => cases j with
    | zero => simp [sizes]
    | succ j => simp only [List.take_succ_cons, sizes]; have := ih j; omega

theorem grow_new {w w' : World} (g : w.grownBy w' none) {b : Nat} {o : Obj} (hb : w.heap[b]? = some o) : w'.heap[b]? = some o := by
  rw [g.block b (lt_of_block hb) (by simp)]; exact hb

set_option maxHeartbeats 1000000 in
theorem size_any (p : Pt) : ∀ (v : Value) (w : World), p.size ≤ 1000000 → PtAt w p v → Calls Tryz.prog 67 #[v] w fun e w' => e = .returned (.int .i64 (p.size : Nat)) ∧ w.grownBy w' none := by
  induction p using Pt.ind with
  | h o l hi ps ih =>
    intro v w hs hp
    obtain ⟨av, cap, rfl, ha⟩ := hp
    simp only [Pt.size] at hs
    have hlen : ps.length ≤ sizes ps := by
      clear ih ha hs
      induction ps with
      | nil => simp
      | cons a ps ih => obtain ⟨o, l, h, bs⟩ := a; simp only [List.length_cons, sizes, Pt.size]; omega
    have HA := Lib.hid ha
    clear ha
    go_enter Tryz.func67, Tryz.ntmps67
    go_wp2_with fail
    go_loopw [3, 9] (fun n i wr => ∃ j : Nat, j ≤ ps.length ∧ i = .int .i64 j ∧ n = .int .i64 ((1 + sizes (ps.take j) : Nat) : Int) ∧ w.grownBy wr none) (fun _ i _ => ps.length - (intOf i).toNat)
    case atStart => exact ⟨0, Nat.zero_le _, rfl, by simp [sizes], grow_alloc (grow_self w) _⟩
    case round =>
      obtain ⟨j, hj, rfl, rfl, hg⟩ := hrel
      have hb := sizes_take_le ps j
      by_cases hlt : j < ps.length
      · obtain ⟨b, off, xo, xl, xh, xa, xn, xc, rfl, h0, h1, h2, h3, hq⟩ := PtAt.elem HA.out j hlt
        replace h0 := cell_grown h0 hg
        replace h1 := cell_grown h1 hg
        replace h2 := cell_grown h2 hg
        replace h3 := cell_grown h3 hg
        have ht := Lib.hid (sizes_take ps j hlt)
        have hle : ps[j].size ≤ 1000000 := by have := ht.out; have := sizes_take_le ps (j + 1); omega
        have H := Lib.hid (ih ps[j] (List.getElem_mem hlt))
        have hq2 := PtAt.grow (grow_alloc hg (.cells #[.int .i64 xo, .int .i64 xl, .int .i64 xh, .slice xa xn xc] 28)) _ _ hq
        have hw2 : w.grownBy (wr.alloc (.cells #[.int .i64 xo, .int .i64 xl, .int .i64 xh, .slice xa xn xc] 28)) none := grow_alloc hg _
        generalize ps[j] = q at H hq hq2 hle ht
        go_wp2_with fail
        refine (H.out _ _ hle hq2).mono ?_
        rintro e w1 ⟨rfl, g1⟩
        go_wp2_with fail
        go_roundw
        case rel => exact ⟨j + 1, by omega, by go_num, by rw [ht.out]; go_num, grownBy_trans hw2 g1⟩
        case measure => simp [intOf]; omega
      · have e0 : j = ps.length := by omega
        have HE := Lib.hid e0
        clear e0
        go_wp2_with fail
        go_ret
        exact ⟨ret_i64 (by rw [HE.out]; simp [Pt.size]), hg⟩
end Go.Proofs.YtplbacfjmajeeaaGreatDoor
