/- Stream basics: hgmake.Below and (*Stream).Next. -/
import Derived.Test.YtajigndlcdiinaaRows
import Derived.WalkKit
import Derived.BigQuiet
import Derived.Deep.QuietTactic
import Derived.Lib.Hide
import Derived.IntWalk
import Derived.OneCell
import Derived.WalkSpells
namespace Go.Proofs.Ytajigndlcdiinaa
open Go.RowKit

/-- hgmake.Below on plain numbers. -/
def below (x n : Int) : Int := if n < 1 then 0 else if x.tmod n < 0 then x.tmod n + n else x.tmod n

theorem below_lo (x n : Int) : 0 ≤ below x n := by
  unfold below; split
  · omega
  · split
    · have := Int.lt_tmod_of_pos x (show 0 < n by omega); omega
    · omega
theorem below_hi (x n : Int) (h : 1 ≤ n) : below x n < n := by
  unfold below; rw [if_neg (by omega)]; split
  · omega
  · exact Int.tmod_lt_of_pos x (by omega)
theorem below_le (x n : Int) (h : 0 ≤ n) : below x n ≤ n := by
  by_cases h1 : 1 ≤ n
  · have := below_hi x n h1; omega
  · unfold below; rw [if_pos (by omega)]; exact h

theorem ret_i64 {a b : Int} (h : a = b) : Ending.returned (.int .i64 a) = .returned (.int .i64 b) := by rw [h]

set_option maxHeartbeats 400000 in
theorem below_any (x n : Int) (w : World) (hn : n ≤ 9223372036854775807) :
    Calls Try.prog 76 #[.int .i64 x, .int .i64 n] w fun e w' => e = .returned (.int .i64 (below x n)) ∧ w = w' := by
  by_cases h : n < 1
  · go_enter Try.func76, Try.ntmps76
    go_wp2
    go_ret
    exact ⟨by simp [below, h], rfl⟩
  · have h1 : ¬ n < 1 := h
    have t1 := Int.lt_tmod_of_pos x (show 0 < n by omega)
    have t2 := Int.tmod_lt_of_pos x (show 0 < n by omega)
    by_cases h2 : x.tmod n < 0
    · go_enter Try.func76, Try.ntmps76
      go_wp2
      go_ret
      exact ⟨ret_i64 (by rw [below, if_neg (by omega), if_pos h2]), rfl⟩
    · go_enter Try.func76, Try.ntmps76
      go_wp2
      go_ret
      exact ⟨ret_i64 (by rw [below, if_neg (by omega), if_neg (by omega)]), rfl⟩

/-- The stream in block b: its slice is `av` with `xs.length` numbers that are xs, and so many have been handed out. -/
structure Strm (b : Nat) (av : Option Addr) (cap : Nat) (xs : List Int) (w : World) (at_ : Nat) : Prop where
  blk : w.heap[b]? = some (.cells #[.slice av xs.length cap, .int .i64 at_] 25 /-t:hedgelayer/hgmake.Stream-/ (0, 0))
  el : ∀ j, j < xs.length → ∃ bl off, av = some ⟨bl, off, none⟩ ∧ bl ≠ b ∧ w.cell? ⟨bl, off + j, none⟩ = some (.int .i64 (xs.getD j 0))

theorem Strm.c0 {b av cap xs w at_} (h : Strm b av cap xs w at_) : w.cell? ⟨b, 0, none⟩ = some (.slice av xs.length cap) := by simp [World.cell?, h.blk]
theorem Strm.c1 {b av cap xs w at_} (h : Strm b av cap xs w at_) : w.cell? ⟨b, 1, none⟩ = some (.int .i64 at_) := by simp [World.cell?, h.blk]
theorem Strm.f1 {b av cap xs w at_} (h : Strm b av cap xs w at_) : w.frozen? ⟨b, 1, none⟩ = false := by simp [World.frozen?, h.blk]

/-- Between w and w' the stream alone has been written, and there are new blocks; the stream stands at k'. -/
structure Sto (b : Nat) (av : Option Addr) (cap : Nat) (xs : List Int) (w w' : World) (k' : Nat) : Prop where
  grow : w.grownBy w' (some b)
  strm : Strm b av cap xs w' k'

/-- What Next hands out when `k` numbers have been handed out before. -/
def nextv (xs : List Int) (k : Nat) (n : Int) : Int :=
  if xs.length = 0 then below (((k : Int) + 1) * 7919) n
  else below (below (xs.getD (k % xs.length) 0) 1073741824 + ((k / xs.length : Nat) : Int) * (7919 + ((k % xs.length : Nat) : Int))) n

set_option maxHeartbeats 1000000 in
theorem next_nil (b : Nat) (av : Option Addr) (cap k : Nat) (n : Int) (w : World) (hn : n ≤ 9223372036854775807) (hk : k ≤ 1073741824)
    (S : Strm b av cap [] w k) :
    Calls Try.prog 44 #[.pointer (some ⟨b, 0, none⟩), .int .i64 n] w fun e w' => e = .returned (.int .i64 (nextv [] k n)) ∧ w.setCell ⟨b, 1, none⟩ (.int .i64 ((k : Int) + 1)) = w' := by
  have h0 := S.c0
  have h1 := S.c1
  have hf := S.f1
  clear S
  go_enter Try.func44, Try.ntmps44
  go_wp2_with fail
  refine (below_any _ _ _ hn).mono ?_
  rintro e w' ⟨rfl, rfl⟩
  go_wp2_with fail
  go_ret
  exact ⟨ret_i64 (by simp [nextv]), rfl⟩

theorem div_bound (k n : Nat) (hn : 0 < n) (hk : k ≤ 1073741824) :
    (0 : Int) ≤ (k : Int) / (n : Int) * (7919 + (k : Int) % (n : Int)) ∧ (k : Int) / (n : Int) * (7919 + (k : Int) % (n : Int)) ≤ 8504035246080 := by
  have h1 := Nat.div_mul_le_self k n
  have h2 := Nat.mul_le_mul_left (k / n) (Nat.le_of_lt (Nat.mod_lt k hn))
  have h3 := Nat.div_le_self k n
  have e : (k : Int) / (n : Int) * (7919 + (k : Int) % (n : Int)) = ((k / n : Nat) : Int) * 7919 + ((k / n * (k % n) : Nat) : Int) := by
    rw [Int.mul_add, Int.natCast_mul, Int.natCast_ediv, Int.natCast_emod]
  rw [e]
  have h4 := Nat.le_trans h2 h1
  generalize k / n * (k % n) = p at h4 ⊢
  generalize k / n = q at h3 ⊢
  omega
set_option maxHeartbeats 1000000 in
theorem next_some (b : Nat) (av : Option Addr) (cap k : Nat) (n : Int) (xs : List Int) (w : World) (hn : n ≤ 9223372036854775807) (hk : k ≤ 1073741824) (hx : 1 ≤ xs.length) (hx2 : xs.length ≤ 9223372036854775807)
    (S : Strm b av cap xs w k) :
    Calls Try.prog 44 #[.pointer (some ⟨b, 0, none⟩), .int .i64 n] w fun e w' => e = .returned (.int .i64 (nextv xs k n)) ∧ ∃ m, (w.setCell ⟨b, 1, none⟩ (.int .i64 ((k : Int) + 1))).drewN m = w' := by
  have h0 := S.c0
  have h1 := S.c1
  have hf := S.f1
  have hm : k % xs.length < xs.length := Nat.mod_lt _ (by omega)
  obtain ⟨bl, off, rfl, hb, hc⟩ := S.el _ hm
  have hb' : b ≠ bl := fun e => hb e.symm
  have hz : ((xs.length : Int) == 0) = false := beq_eq_false_iff_ne.2 (by omega)
  have hp : (0 : Int) ≤ (k : Int) % (xs.length : Int) ∧ (k : Int) % (xs.length : Int) < xs.length := ⟨Int.emod_nonneg _ (by omega), Int.emod_lt_of_pos _ (by omega)⟩
  have hq : (0 : Int) ≤ (k : Int) / (xs.length : Int) ∧ (k : Int) / (xs.length : Int) ≤ k := ⟨Int.ediv_nonneg (by omega) (by omega), Int.ediv_le_self _ (by omega)⟩
  have hp3 : (k : Int) % (xs.length : Int) ≤ k := by have := Nat.mod_le k xs.length; omega
  have hr := div_bound k xs.length (by omega) hk
  clear S
  go_enter Try.func44, Try.ntmps44
  go_wp2_with fail
  go_quiet (fail)
  go_wp2_with fail
  go_quiet (fail)
  go_wp2_with fail
  refine (below_any _ _ _ (by omega)).mono ?_
  rintro e w' ⟨rfl, rfl⟩
  have l1 := below_lo xs[k % xs.length] 1073741824
  have l2 := below_hi xs[k % xs.length] 1073741824 (by omega)
  go_wp2_with fail
  refine (below_any _ _ _ hn).mono ?_
  rintro e w' ⟨rfl, rfl⟩
  go_wp2_with fail
  go_ret
  refine ⟨ret_i64 ?_, _, rfl⟩
  rw [nextv, if_neg (by omega)]
  simp [List.getD, hm]

theorem Strm.lt {b av cap xs w k} (h : Strm b av cap xs w k) : b < w.heap.size := lt_of_block h.blk

theorem Strm.grown {b av cap xs w w' k} {row : Option Nat} (h : Strm b av cap xs w k) (g : w.grownBy w' row) (hr : row ≠ some b)
    (he : ∀ a, av = some a → row ≠ some a.block) : Strm b av cap xs w' k := by
  refine ⟨by rw [g.block b h.lt (fun e => hr e.symm)]; exact h.blk, fun j hj => ?_⟩
  obtain ⟨bl, off, e, hb, hc⟩ := h.el j hj
  exact ⟨bl, off, e, hb, g.cell hc (fun e' => he _ e e'.symm)⟩

/-- The stream steps: a store into its second cell, and draws. -/
theorem Strm.step {b av cap xs w k} (h : Strm b av cap xs w k) (m k' : Nat) :
    Sto b av cap xs w ((w.setCell ⟨b, 1, none⟩ (.int .i64 (k' : Int))).drewN m) k' := by
  have hlt := h.lt
  have hb' : w.heap[b] = .cells #[.slice av xs.length cap, .int .i64 k] 25 /-t:hedgelayer/hgmake.Stream-/ (0, 0) := by simpa [Array.getElem?_eq_getElem hlt] using h.blk
  refine ⟨⟨rfl, rfl, rfl, by simp [World.setCell, World.drewN], fun i hi hne => ?_⟩, ?_, fun j hj => ?_⟩
  · exact Below.heap_setCell _ _ _ _ (fun e => hne (by rw [e]))
  · show (w.heap.modify b _)[b]? = _
    rw [Array.getElem?_eq_getElem (by simpa using hlt), Array.getElem_modify_self, hb']
    rfl
  · obtain ⟨bl, off, e, hb, hc⟩ := h.el j hj
    refine ⟨bl, off, e, hb, ?_⟩
    rw [← hc]
    exact World.cell?_of_block (w := w) (Below.heap_setCell _ _ _ _ hb)

theorem Sto.refl {b av cap xs w k} (h : Strm b av cap xs w k) : Sto b av cap xs w w k := ⟨⟨rfl, rfl, rfl, Nat.le_refl _, fun _ _ _ => rfl⟩, h⟩
theorem grownBy_trans {w0 w1 w2 : World} {r : Option Nat} (h : w0.grownBy w1 r) (g : w1.grownBy w2 r) : w0.grownBy w2 r :=
  ⟨g.os.trans h.os, g.tape.trans h.tape, g.output.trans h.output, Nat.le_trans h.size g.size, fun k hk hn => (g.block k (Nat.lt_of_lt_of_le hk h.size) hn).trans (h.block k hk hn)⟩
theorem Sto.trans {b av cap xs w0 w1 w2 k1 k2} (h : Sto b av cap xs w0 w1 k1) (g : Sto b av cap xs w1 w2 k2) : Sto b av cap xs w0 w2 k2 :=
  ⟨grownBy_trans h.grow g.grow, g.strm⟩

theorem Strm.alloc {b av cap xs w k} (h : Strm b av cap xs w k) (o : Obj) : Strm b av cap xs (w.alloc o) k := by
  refine ⟨by rw [Below.heap_alloc _ _ _ h.lt]; exact h.blk, fun j hj => ?_⟩
  obtain ⟨bl, off, e, hb, hc⟩ := h.el j hj
  exact ⟨bl, off, e, hb, World.grownBy.cell (World.grownBy_alloc w o none) hc (by simp)⟩
theorem Sto.alloc {b av cap xs w w' k} (h : Sto b av cap xs w w' k) (o : Obj) : Sto b av cap xs w (w'.alloc o) k :=
  ⟨grownBy_trans h.grow (World.grownBy_alloc w' o (some b)), h.strm.alloc o⟩
theorem Strm.drew {b av cap xs w k} (h : Strm b av cap xs w k) : Strm b av cap xs w.drew k := ⟨h.blk, h.el⟩
theorem Sto.drew {b av cap xs w w' k} (h : Sto b av cap xs w w' k) : Sto b av cap xs w w'.drew k := ⟨⟨h.grow.os, h.grow.tape, h.grow.output, h.grow.size, h.grow.block⟩, h.strm.drew⟩

theorem Sto.kept {b av cap xs w w' k} (h : Sto b av cap xs w w' k) {r : Nat} {o : Obj} (hr : w.heap[r]? = some o) (hb : r ≠ b) : w'.heap[r]? = some o := by
  rw [h.grow.block r (lt_of_block hr) (by simpa using hb)]; exact hr
/-- A store into a block that is newer than the call. -/
theorem Sto.setCell {b av cap xs w w' k k0} (h : Sto b av cap xs w w' k) (S : Strm b av cap xs w k0) (p : Addr) (u : Value) (hp : w.heap.size ≤ p.block) : Sto b av cap xs w (w'.setCell p u) k := by
  have hb := S.lt
  refine ⟨⟨h.grow.os, h.grow.tape, h.grow.output, by have := h.grow.size; simpa [World.setCell] using this, fun i hi hn => ?_⟩, ?_, fun j hj => ?_⟩
  · rw [Below.heap_setCell _ _ _ _ (by omega)]; exact h.grow.block i hi hn
  · rw [Below.heap_setCell _ _ _ _ (by omega)]; exact h.strm.blk
  · obtain ⟨bl, off, e, hb2, hc⟩ := h.strm.el j hj
    obtain ⟨bl', off', e', _, hc'⟩ := S.el j hj
    rw [e] at e'
    simp only [Option.some.injEq, Addr.mk.injEq] at e'
    have hlt : bl' < w.heap.size := World.block_lt_of_cell? w _ hc'
    have hne : bl ≠ p.block := by omega
    refine ⟨bl, off, e, hb2, ?_⟩
    rw [← hc]
    exact World.cell?_of_block (w := w') (Below.heap_setCell _ _ _ _ hne)

/-- What is written is newer than the call. -/
theorem Sto.newer {b av cap xs w w1 w2 k k0} {row : Option Nat} (h : Sto b av cap xs w w1 k) (S : Strm b av cap xs w k0) (g : w1.grownBy w2 row) (hr : ∀ r, row = some r → w.heap.size ≤ r) : Sto b av cap xs w w2 k := by
  have hb := S.lt
  have hs := h.grow.size
  have key : ∀ i, i < w.heap.size → w2.heap[i]? = w1.heap[i]? := fun i hi => g.block i (by omega) (fun e => by have := hr i e.symm; omega)
  refine ⟨⟨g.os.trans h.grow.os, g.tape.trans h.grow.tape, g.output.trans h.grow.output, Nat.le_trans hs g.size, fun i hi hn => (key i hi).trans (h.grow.block i hi hn)⟩, by rw [key b hb]; exact h.strm.blk, fun j hj => ?_⟩
  obtain ⟨bl, off, e, hb2, hc⟩ := h.strm.el j hj
  obtain ⟨bl', off', e', _, hc'⟩ := S.el j hj
  rw [e] at e'
  simp only [Option.some.injEq, Addr.mk.injEq] at e'
  have hlt : bl' < w.heap.size := World.block_lt_of_cell? w _ hc'
  refine ⟨bl, off, e, hb2, ?_⟩
  rw [← hc]
  exact World.cell?_of_block (w := w1) (key bl (by omega))

/-- Next, whatever the stream. -/
theorem next_any {b : Nat} {av : Option Addr} {cap k : Nat} {xs : List Int} {w : World} (n : Int) (hn : n ≤ 9223372036854775807) (hk : k ≤ 1073741824) (hx2 : xs.length ≤ 9223372036854775807)
    (S : Strm b av cap xs w k) :
    Calls Try.prog 44 #[.pointer (some ⟨b, 0, none⟩), .int .i64 n] w fun e w' => e = .returned (.int .i64 (nextv xs k n)) ∧ Sto b av cap xs w w' (k + 1) := by
  by_cases h : xs.length = 0
  · obtain rfl : xs = [] := List.eq_nil_of_length_eq_zero h
    refine (next_nil b av cap k n w hn hk S).mono ?_
    rintro e w' ⟨rfl, rfl⟩
    exact ⟨rfl, S.step 0 (k + 1)⟩
  · refine (next_some b av cap k n xs w hn hk (by omega) hx2 S).mono ?_
    rintro e w' ⟨rfl, m, rfl⟩
    exact ⟨rfl, S.step m (k + 1)⟩

theorem nextv_lo (xs : List Int) (k : Nat) (n : Int) : 0 ≤ nextv xs k n := by unfold nextv; split <;> exact below_lo _ _
theorem nextv_hi (xs : List Int) (k : Nat) (n : Int) (h : 1 ≤ n) : nextv xs k n < n := by unfold nextv; split <;> exact below_hi _ _ h
theorem nextv_le (xs : List Int) (k : Nat) (n : Int) (h : 0 ≤ n) : nextv xs k n ≤ n := by unfold nextv; split <;> exact below_le _ _ h
end Go.Proofs.Ytajigndlcdiinaa
