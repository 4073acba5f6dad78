/- Stream basics: hgmake.Below and (*Stream).Next. Stream: Range, Flip, Pick, Some. Stream: Letters. Edits, the reference's: in, ChangeFault, MovedOf. Edits, the reference's: ChangeFault. Edits, the reference's: MovedOf, when, errs. Frames: what a piece of code leaves alone. flowOf. Package edit: end, growth, length. -/
import Derived.Test.YtajigndlcdiinaaRows
import Derived.WalkKit
import Derived.BigQuiet
import Derived.Deep.QuietTactic
import Derived.Lib.Hide
import Derived.IntWalk
import Derived.OneCell
import Derived.WalkSpells
namespace Go.Proofs.Ytajigndlcdiinaa
open Go.RowKit

/-- hgmake.Below on plain numbers. -/
def below (x n : Int) : Int := if n < 1 then 0 else if x.tmod n < 0 then x.tmod n + n else x.tmod n

theorem below_lo (x n : Int) : 0 ≤ below x n := by
  unfold below; split
  · omega
  · split
    · have := Int.lt_tmod_of_pos x (show 0 < n by omega); omega
    · omega
theorem below_hi (x n : Int) (h : 1 ≤ n) : below x n < n := by
  unfold below; rw [if_neg (by omega)]; split
  · omega
  · exact Int.tmod_lt_of_pos x (by omega)
theorem below_le (x n : Int) (h : 0 ≤ n) : below x n ≤ n := by
  by_cases h1 : 1 ≤ n
  · have := below_hi x n h1; omega
  · unfold below; rw [if_pos (by omega)]; exact h

theorem ret_i64 {a b : Int} (h : a = b) : Ending.returned (.int .i64 a) = .returned (.int .i64 b) := by rw [h]

set_option maxHeartbeats 400000 in
theorem below_any (x n : Int) (w : World) (hn : n ≤ 9223372036854775807) :
    Calls Try.prog 76 #[.int .i64 x, .int .i64 n] w fun e w' => e = .returned (.int .i64 (below x n)) ∧ w = w' := by
  by_cases h : n < 1
  · go_enter Try.func76, Try.ntmps76
    go_wp2
    go_ret
    exact ⟨by simp [below, h], rfl⟩
  · have h1 : ¬ n < 1 := h
    have t1 := Int.lt_tmod_of_pos x (show 0 < n by omega)
    have t2 := Int.tmod_lt_of_pos x (show 0 < n by omega)
    by_cases h2 : x.tmod n < 0
    · go_enter Try.func76, Try.ntmps76
      go_wp2
      go_ret
      exact ⟨ret_i64 (by rw [below, if_neg (by omega), if_pos h2]), rfl⟩
    · go_enter Try.func76, Try.ntmps76
      go_wp2
      go_ret
      exact ⟨ret_i64 (by rw [below, if_neg (by omega), if_neg (by omega)]), rfl⟩

/-- The stream in block b: its slice is `av` with `xs.length` numbers that are xs, and so many have been handed out. -/
structure Strm (b : Nat) (av : Option Addr) (cap : Nat) (xs : List Int) (w : World) (at_ : Nat) : Prop where
  blk : w.heap[b]? = some (.cells #[.slice av xs.length cap, .int .i64 at_] 25 /-t:hedgelayer/hgmake.Stream-/ (0, 0))
  el : ∀ j, j < xs.length → ∃ bl off, av = some ⟨bl, off, none⟩ ∧ bl ≠ b ∧ w.cell? ⟨bl, off + j, none⟩ = some (.int .i64 (xs.getD j 0))

theorem Strm.c0 {b av cap xs w at_} (h : Strm b av cap xs w at_) : w.cell? ⟨b, 0, none⟩ = some (.slice av xs.length cap) := by simp [World.cell?, h.blk]
theorem Strm.c1 {b av cap xs w at_} (h : Strm b av cap xs w at_) : w.cell? ⟨b, 1, none⟩ = some (.int .i64 at_) := by simp [World.cell?, h.blk]
theorem Strm.f1 {b av cap xs w at_} (h : Strm b av cap xs w at_) : w.frozen? ⟨b, 1, none⟩ = false := by simp [World.frozen?, h.blk]

/-- Between w and w' the stream alone has been written, and there are new blocks; the stream stands at k'. -/
structure Sto (b : Nat) (av : Option Addr) (cap : Nat) (xs : List Int) (w w' : World) (k' : Nat) : Prop where
  grow : w.grownBy w' (some b)
  strm : Strm b av cap xs w' k'

/-- What Next hands out when `k` numbers have been handed out before. -/
def nextv (xs : List Int) (k : Nat) (n : Int) : Int :=
  if xs.length = 0 then below (((k : Int) + 1) * 7919) n
  else below (below (xs.getD (k % xs.length) 0) 1073741824 + ((k / xs.length : Nat) : Int) * (7919 + ((k % xs.length : Nat) : Int))) n

set_option maxHeartbeats 1000000 in
theorem next_nil (b : Nat) (av : Option Addr) (cap k : Nat) (n : Int) (w : World) (hn : n ≤ 9223372036854775807) (hk : k ≤ 1073741824)
    (S : Strm b av cap [] w k) :
    Calls Try.prog 44 #[.pointer (some ⟨b, 0, none⟩), .int .i64 n] w fun e w' => e = .returned (.int .i64 (nextv [] k n)) ∧ w.setCell ⟨b, 1, none⟩ (.int .i64 ((k : Int) + 1)) = w' := by
  have h0 := S.c0
  have h1 := S.c1
  have hf := S.f1
  clear S
  go_enter Try.func44, Try.ntmps44
  go_wp2_with fail
  refine (below_any _ _ _ hn).mono ?_
  rintro e w' ⟨rfl, rfl⟩
  go_wp2_with fail
  go_ret
  exact ⟨ret_i64 (by simp [nextv]), rfl⟩

theorem div_bound (k n : Nat) (hn : 0 < n) (hk : k ≤ 1073741824) :
    (0 : Int) ≤ (k : Int) / (n : Int) * (7919 + (k : Int) % (n : Int)) ∧ (k : Int) / (n : Int) * (7919 + (k : Int) % (n : Int)) ≤ 8504035246080 := by
  have h1 := Nat.div_mul_le_self k n
  have h2 := Nat.mul_le_mul_left (k / n) (Nat.le_of_lt (Nat.mod_lt k hn))
  have h3 := Nat.div_le_self k n
  have e : (k : Int) / (n : Int) * (7919 + (k : Int) % (n : Int)) = ((k / n : Nat) : Int) * 7919 + ((k / n * (k % n) : Nat) : Int) := by
    rw [Int.mul_add, Int.natCast_mul, Int.natCast_ediv, Int.natCast_emod]
  rw [e]
  have h4 := Nat.le_trans h2 h1
  generalize k / n * (k % n) = p at h4 ⊢
  generalize k / n = q at h3 ⊢
  omega
set_option maxHeartbeats 1000000 in
theorem next_some (b : Nat) (av : Option Addr) (cap k : Nat) (n : Int) (xs : List Int) (w : World) (hn : n ≤ 9223372036854775807) (hk : k ≤ 1073741824) (hx : 1 ≤ xs.length) (hx2 : xs.length ≤ 9223372036854775807)
    (S : Strm b av cap xs w k) :
    Calls Try.prog 44 #[.pointer (some ⟨b, 0, none⟩), .int .i64 n] w fun e w' => e = .returned (.int .i64 (nextv xs k n)) ∧ ∃ m, (w.setCell ⟨b, 1, none⟩ (.int .i64 ((k : Int) + 1))).drewN m = w' := by
  have h0 := S.c0
  have h1 := S.c1
  have hf := S.f1
  have hm : k % xs.length < xs.length := Nat.mod_lt _ (by omega)
  obtain ⟨bl, off, rfl, hb, hc⟩ := S.el _ hm
  have hb' : b ≠ bl := fun e => hb e.symm
  have hz : ((xs.length : Int) == 0) = false := beq_eq_false_iff_ne.2 (by omega)
  have hp : (0 : Int) ≤ (k : Int) % (xs.length : Int) ∧ (k : Int) % (xs.length : Int) < xs.length := ⟨Int.emod_nonneg _ (by omega), Int.emod_lt_of_pos _ (by omega)⟩
  have hq : (0 : Int) ≤ (k : Int) / (xs.length : Int) ∧ (k : Int) / (xs.length : Int) ≤ k := ⟨Int.ediv_nonneg (by omega) (by omega), Int.ediv_le_self _ (by omega)⟩
  have hp3 : (k : Int) % (xs.length : Int) ≤ k := by have := Nat.mod_le k xs.length; omega
  have hr := div_bound k xs.length (by omega) hk
  clear S
  go_enter Try.func44, Try.ntmps44
  go_wp2_with fail
  go_quiet (fail)
  go_wp2_with fail
  go_quiet (fail)
  go_wp2_with fail
  refine (below_any _ _ _ (by omega)).mono ?_
  rintro e w' ⟨rfl, rfl⟩
  have l1 := below_lo xs[k % xs.length] 1073741824
  have l2 := below_hi xs[k % xs.length] 1073741824 (by omega)
  go_wp2_with fail
  refine (below_any _ _ _ hn).mono ?_
  rintro e w' ⟨rfl, rfl⟩
  go_wp2_with fail
  go_ret
  refine ⟨ret_i64 ?_, _, rfl⟩
  rw [nextv, if_neg (by omega)]
  simp [List.getD, hm]

theorem Strm.lt {b av cap xs w k} (h : Strm b av cap xs w k) : b < w.heap.size := lt_of_block h.blk

theorem Strm.grown {b av cap xs w w' k} {row : Option Nat} (h : Strm b av cap xs w k) (g : w.grownBy w' row) (hr : row ≠ some b)
    (he : ∀ a, av = some a → row ≠ some a.block) : Strm b av cap xs w' k := by
  refine ⟨by rw [g.block b h.lt (fun e => hr e.symm)]; exact h.blk, fun j hj => ?_⟩
  obtain ⟨bl, off, e, hb, hc⟩ := h.el j hj
  exact ⟨bl, off, e, hb, g.cell hc (fun e' => he _ e e'.symm)⟩

/-- The stream steps: a store into its second cell, and draws. -/
theorem Strm.step {b av cap xs w k} (h : Strm b av cap xs w k) (m k' : Nat) :
    Sto b av cap xs w ((w.setCell ⟨b, 1, none⟩ (.int .i64 (k' : Int))).drewN m) k' := by
  have hlt := h.lt
  have hb' : w.heap[b] = .cells #[.slice av xs.length cap, .int .i64 k] 25 /-t:hedgelayer/hgmake.Stream-/ (0, 0) := by simpa [Array.getElem?_eq_getElem hlt] using h.blk
  refine ⟨⟨rfl, rfl, rfl, by simp [World.setCell, World.drewN], fun i hi hne => ?_⟩, ?_, fun j hj => ?_⟩
  · exact Below.heap_setCell _ _ _ _ (fun e => hne (by rw [e]))
  · show (w.heap.modify b _)[b]? = _
    rw [Array.getElem?_eq_getElem (by simpa using hlt), Array.getElem_modify_self, hb']
    rfl
  · obtain ⟨bl, off, e, hb, hc⟩ := h.el j hj
    refine ⟨bl, off, e, hb, ?_⟩
    rw [← hc]
    exact World.cell?_of_block (w := w) (Below.heap_setCell _ _ _ _ hb)

theorem Sto.refl {b av cap xs w k} (h : Strm b av cap xs w k) : Sto b av cap xs w w k := ⟨⟨rfl, rfl, rfl, Nat.le_refl _, fun _ _ _ => rfl⟩, h⟩
theorem grownBy_trans {w0 w1 w2 : World} {r : Option Nat} (h : w0.grownBy w1 r) (g : w1.grownBy w2 r) : w0.grownBy w2 r :=
  ⟨g.os.trans h.os, g.tape.trans h.tape, g.output.trans h.output, Nat.le_trans h.size g.size, fun k hk hn => (g.block k (Nat.lt_of_lt_of_le hk h.size) hn).trans (h.block k hk hn)⟩
theorem Sto.trans {b av cap xs w0 w1 w2 k1 k2} (h : Sto b av cap xs w0 w1 k1) (g : Sto b av cap xs w1 w2 k2) : Sto b av cap xs w0 w2 k2 :=
  ⟨grownBy_trans h.grow g.grow, g.strm⟩

theorem Strm.alloc {b av cap xs w k} (h : Strm b av cap xs w k) (o : Obj) : Strm b av cap xs (w.alloc o) k := by
  refine ⟨by rw [Below.heap_alloc _ _ _ h.lt]; exact h.blk, fun j hj => ?_⟩
  obtain ⟨bl, off, e, hb, hc⟩ := h.el j hj
  exact ⟨bl, off, e, hb, World.grownBy.cell (World.grownBy_alloc w o none) hc (by simp)⟩
theorem Sto.alloc {b av cap xs w w' k} (h : Sto b av cap xs w w' k) (o : Obj) : Sto b av cap xs w (w'.alloc o) k :=
  ⟨grownBy_trans h.grow (World.grownBy_alloc w' o (some b)), h.strm.alloc o⟩
theorem Strm.drew {b av cap xs w k} (h : Strm b av cap xs w k) : Strm b av cap xs w.drew k := ⟨h.blk, h.el⟩
theorem Sto.drew {b av cap xs w w' k} (h : Sto b av cap xs w w' k) : Sto b av cap xs w w'.drew k := ⟨⟨h.grow.os, h.grow.tape, h.grow.output, h.grow.size, h.grow.block⟩, h.strm.drew⟩

theorem Sto.kept {b av cap xs w w' k} (h : Sto b av cap xs w w' k) {r : Nat} {o : Obj} (hr : w.heap[r]? = some o) (hb : r ≠ b) : w'.heap[r]? = some o := by
  rw [h.grow.block r (lt_of_block hr) (by simpa using hb)]; exact hr
/-- A store into a block that is newer than the call. -/
theorem Sto.setCell {b av cap xs w w' k k0} (h : Sto b av cap xs w w' k) (S : Strm b av cap xs w k0) (p : Addr) (u : Value) (hp : w.heap.size ≤ p.block) : Sto b av cap xs w (w'.setCell p u) k := by
  have hb := S.lt
  refine ⟨⟨h.grow.os, h.grow.tape, h.grow.output, by have := h.grow.size; simpa [World.setCell] using this, fun i hi hn => ?_⟩, ?_, fun j hj => ?_⟩
  · rw [Below.heap_setCell _ _ _ _ (by omega)]; exact h.grow.block i hi hn
  · rw [Below.heap_setCell _ _ _ _ (by omega)]; exact h.strm.blk
  · obtain ⟨bl, off, e, hb2, hc⟩ := h.strm.el j hj
    obtain ⟨bl', off', e', _, hc'⟩ := S.el j hj
    rw [e] at e'
    simp only [Option.some.injEq, Addr.mk.injEq] at e'
    have hlt : bl' < w.heap.size := World.block_lt_of_cell? w _ hc'
    have hne : bl ≠ p.block := by omega
    refine ⟨bl, off, e, hb2, ?_⟩
    rw [← hc]
    exact World.cell?_of_block (w := w') (Below.heap_setCell _ _ _ _ hne)

/-- What is written is newer than the call. -/
theorem Sto.newer {b av cap xs w w1 w2 k k0} {row : Option Nat} (h : Sto b av cap xs w w1 k) (S : Strm b av cap xs w k0) (g : w1.grownBy w2 row) (hr : ∀ r, row = some r → w.heap.size ≤ r) : Sto b av cap xs w w2 k := by
  have hb := S.lt
  have hs := h.grow.size
  have key : ∀ i, i < w.heap.size → w2.heap[i]? = w1.heap[i]? := fun i hi => g.block i (by omega) (fun e => by have := hr i e.symm; omega)
  refine ⟨⟨g.os.trans h.grow.os, g.tape.trans h.grow.tape, g.output.trans h.grow.output, Nat.le_trans hs g.size, fun i hi hn => (key i hi).trans (h.grow.block i hi hn)⟩, by rw [key b hb]; exact h.strm.blk, fun j hj => ?_⟩
  obtain ⟨bl, off, e, hb2, hc⟩ := h.strm.el j hj
  obtain ⟨bl', off', e', _, hc'⟩ := S.el j hj
  rw [e] at e'
  simp only [Option.some.injEq, Addr.mk.injEq] at e'
  have hlt : bl' < w.heap.size := World.block_lt_of_cell? w _ hc'
  refine ⟨bl, off, e, hb2, ?_⟩
  rw [← hc]
  exact World.cell?_of_block (w := w1) (key bl (by omega))

/-- Next, whatever the stream. -/
theorem next_any {b : Nat} {av : Option Addr} {cap k : Nat} {xs : List Int} {w : World} (n : Int) (hn : n ≤ 9223372036854775807) (hk : k ≤ 1073741824) (hx2 : xs.length ≤ 9223372036854775807)
    (S : Strm b av cap xs w k) :
    Calls Try.prog 44 #[.pointer (some ⟨b, 0, none⟩), .int .i64 n] w fun e w' => e = .returned (.int .i64 (nextv xs k n)) ∧ Sto b av cap xs w w' (k + 1) := by
  by_cases h : xs.length = 0
  · obtain rfl : xs = [] := List.eq_nil_of_length_eq_zero h
    refine (next_nil b av cap k n w hn hk S).mono ?_
    rintro e w' ⟨rfl, rfl⟩
    exact ⟨rfl, S.step 0 (k + 1)⟩
  · refine (next_some b av cap k n xs w hn hk (by omega) hx2 S).mono ?_
    rintro e w' ⟨rfl, m, rfl⟩
    exact ⟨rfl, S.step m (k + 1)⟩

theorem nextv_lo (xs : List Int) (k : Nat) (n : Int) : 0 ≤ nextv xs k n := by unfold nextv; split <;> exact below_lo _ _
theorem nextv_hi (xs : List Int) (k : Nat) (n : Int) (h : 1 ≤ n) : nextv xs k n < n := by unfold nextv; split <;> exact below_hi _ _ h
theorem nextv_le (xs : List Int) (k : Nat) (n : Int) (h : 0 ≤ n) : nextv xs k n ≤ n := by unfold nextv; split <;> exact below_le _ _ h
end Go.Proofs.Ytajigndlcdiinaa
namespace Go.Proofs.Ytajigndlcdiinaa
open Go.RowKit

def rangev (xs : List Int) (k : Nat) (lo hi : Int) : Int := if hi < lo then lo else lo + nextv xs k (hi - lo + 1)
def rangek (k : Nat) (lo hi : Int) : Nat := if hi < lo then k else k + 1
theorem rangek_le (k : Nat) (lo hi : Int) : k ≤ rangek k lo hi ∧ rangek k lo hi ≤ k + 1 := by unfold rangek; split <;> omega
theorem rangev_bd (xs : List Int) (k : Nat) (lo hi : Int) : lo ≤ rangev xs k lo hi ∧ (lo ≤ hi → rangev xs k lo hi ≤ hi) := by
  unfold rangev; split
  · omega
  · have := nextv_lo xs k (hi - lo + 1); have := nextv_hi xs k (hi - lo + 1) (by omega); omega

theorem ret_bool {a b : Bool} (h : a = b) : Ending.returned (.bool a) = .returned (.bool b) := by rw [h]
theorem ret_str {a b : ByteArray} (h : a = b) : Ending.returned (.string a) = .returned (.string b) := by rw [h]

set_option maxHeartbeats 400000 in
theorem range_any {b : Nat} {av : Option Addr} {cap k : Nat} {xs : List Int} {w : World} (lo hi : Int) (hlo : -1000000000000 ≤ lo ∧ lo ≤ 1000000000000) (hhi : -1000000000000 ≤ hi ∧ hi ≤ 1000000000000)
    (hk : k ≤ 1073741824) (hx2 : xs.length ≤ 9223372036854775807) (S : Strm b av cap xs w k) :
    Calls Try.prog 25 #[.pointer (some ⟨b, 0, none⟩), .int .i64 lo, .int .i64 hi] w fun e w' => e = .returned (.int .i64 (rangev xs k lo hi)) ∧ Sto b av cap xs w w' (rangek k lo hi) := by
  by_cases h : hi < lo
  · go_enter Try.func25, Try.ntmps25
    go_wp2_with fail
    go_ret
    exact ⟨ret_i64 (by rw [rangev, if_pos h]), by rw [rangek, if_pos h]; exact Sto.refl S⟩
  · go_enter Try.func25, Try.ntmps25
    go_wp2_with fail
    refine (next_any _ (by omega) hk hx2 S).mono ?_
    rintro e w' ⟨rfl, T⟩
    have l1 := nextv_lo xs k (hi - lo + 1)
    have l2 := nextv_hi xs k (hi - lo + 1) (by omega)
    go_wp2_with fail
    go_ret
    exact ⟨ret_i64 (by rw [rangev, if_neg (by omega)]), by rw [rangek, if_neg (by omega)]; exact T⟩

def flipv (xs : List Int) (k : Nat) (n : Int) : Bool := nextv xs k n == 0

set_option maxHeartbeats 400000 in
theorem flip_any {b : Nat} {av : Option Addr} {cap k : Nat} {xs : List Int} {w : World} (n : Int) (hn : n ≤ 9223372036854775807)
    (hk : k ≤ 1073741824) (hx2 : xs.length ≤ 9223372036854775807) (S : Strm b av cap xs w k) :
    Calls Try.prog 26 #[.pointer (some ⟨b, 0, none⟩), .int .i64 n] w fun e w' => e = .returned (.bool (flipv xs k n)) ∧ Sto b av cap xs w w' (k + 1) := by
  go_enter Try.func26, Try.ntmps26
  go_wp2_with fail
  refine (next_any _ hn hk hx2 S).mono ?_
  rintro e w' ⟨rfl, T⟩
  go_wp2_with fail
  go_ret
  exact ⟨ret_bool rfl, T⟩

def pickv (xs : List Int) (k : Nat) (ls : List Int) : Int := ls.getD (nextv xs k ls.length).toNat 0

set_option maxHeartbeats 400000 in
theorem pick_any {b : Nat} {av : Option Addr} {cap k : Nat} {xs : List Int} {w : World} (p m : Nat) (ls : List Int) (hl : 1 ≤ ls.length) (hl2 : ls.length ≤ 1000000)
    (hp : p ≠ b) (hc : ∀ j, j < ls.length → w.cell? ⟨p, j, none⟩ = some (.int .i64 (ls.getD j 0)))
    (hk : k ≤ 1073741824) (hx2 : xs.length ≤ 9223372036854775807) (S : Strm b av cap xs w k) :
    Calls Try.prog 8 #[.pointer (some ⟨b, 0, none⟩), .slice (some ⟨p, 0, none⟩) ls.length m] w fun e w' => e = .returned (.int .i64 (pickv xs k ls)) ∧ Sto b av cap xs w w' (k + 1) := by
  have l1 := nextv_lo xs k ls.length
  have l2 := nextv_hi xs k ls.length (by omega)
  have H := Lib.hid hc
  clear hc
  go_enter Try.func8, Try.ntmps8
  go_wp2_with fail
  refine (next_any _ (by omega) hk hx2 S).mono ?_
  rintro e w' ⟨rfl, T⟩
  have hc' : w'.cell? ⟨p, (nextv xs k ls.length).toNat, none⟩ = some (.int .i64 (pickv xs k ls)) :=
    T.grow.cell (H.out _ (by omega)) (by simpa using hp)
  go_wp2_with fail
  go_ret
  exact ⟨rfl, T⟩

def somev (xs : List Int) (k : Nat) (ls : List ByteArray) : ByteArray := ls.getD (nextv xs k ls.length).toNat ByteArray.empty

set_option maxHeartbeats 400000 in
theorem some_any {b : Nat} {av : Option Addr} {cap k : Nat} {xs : List Int} {w : World} (p m : Nat) (ls : List ByteArray) (hl : 1 ≤ ls.length) (hl2 : ls.length ≤ 1000000)
    (hp : p ≠ b) (hc : ∀ j, j < ls.length → w.cell? ⟨p, j, none⟩ = some (.string (ls.getD j ByteArray.empty)))
    (hk : k ≤ 1073741824) (hx2 : xs.length ≤ 9223372036854775807) (S : Strm b av cap xs w k) :
    Calls Try.prog 43 #[.pointer (some ⟨b, 0, none⟩), .slice (some ⟨p, 0, none⟩) ls.length m] w fun e w' => e = .returned (.string (somev xs k ls)) ∧ Sto b av cap xs w w' (k + 1) := by
  have l1 := nextv_lo xs k ls.length
  have l2 := nextv_hi xs k ls.length (by omega)
  have H := Lib.hid hc
  clear hc
  go_enter Try.func43, Try.ntmps43
  go_wp2_with fail
  refine (next_any _ (by omega) hk hx2 S).mono ?_
  rintro e w' ⟨rfl, T⟩
  have hc' : w'.cell? ⟨p, (nextv xs k ls.length).toNat, none⟩ = some (.string (somev xs k ls)) :=
    T.grow.cell (H.out _ (by omega)) (by simpa using hp)
  go_wp2_with fail
  go_ret
  exact ⟨rfl, T⟩

theorem somev_all (P : ByteArray → Prop) (xs : List Int) (k : Nat) (ls : List ByteArray) (hl : 1 ≤ ls.length) (h : ∀ x, x ∈ ls → P x) : P (somev xs k ls) := by
  have l1 := nextv_lo xs k ls.length
  have l2 := nextv_hi xs k ls.length (by omega)
  unfold somev
  have hj : (nextv xs k ls.length).toNat < ls.length := by omega
  rw [List.getD_eq_getElem?_getD, List.getElem?_eq_getElem hj]
  exact h _ (List.getElem_mem hj)
theorem pickv_all (P : Int → Prop) (xs : List Int) (k : Nat) (ls : List Int) (hl : 1 ≤ ls.length) (h : ∀ x, x ∈ ls → P x) : P (pickv xs k ls) := by
  have l1 := nextv_lo xs k ls.length
  have l2 := nextv_hi xs k ls.length (by omega)
  unfold pickv
  have hj : (nextv xs k ls.length).toNat < ls.length := by omega
  rw [List.getD_eq_getElem?_getD, List.getElem?_eq_getElem hj]
  exact h _ (List.getElem_mem hj)

theorem new_cell (w : World) (vs : List Value) (t : TypeId) (j : Nat) (h : j < vs.length) : (w.alloc (.cells vs.toArray t)).cell? ⟨w.heap.size, j, none⟩ = some (vs[j]) := by
  unfold World.cell?
  rw [show (w.alloc (.cells vs.toArray t)).heap[(⟨w.heap.size, j, none⟩ : Addr).block]? = _ from heap_alloc_new w _]
  simp [h]

/-- Some over strings that have just been written out. -/
theorem some_new {b : Nat} {av : Option Addr} {cap k : Nat} {xs : List Int} {w : World} (ls : List ByteArray) (hl : 1 ≤ ls.length) (hl2 : ls.length ≤ 1000000)
    (hk : k ≤ 1073741824) (hx2 : xs.length ≤ 9223372036854775807) (S : Strm b av cap xs w k) :
    Calls Try.prog 43 #[.pointer (some ⟨b, 0, none⟩), .slice (some ⟨w.heap.size, 0, none⟩) ls.length ls.length] (w.alloc (.cells (ls.map Value.string).toArray 9 /-t:string-/)) fun e w' =>
      e = .returned (.string (somev xs k ls)) ∧ Sto b av cap xs w w' (k + 1) := by
  refine (some_any w.heap.size ls.length ls hl hl2 (by have := S.lt; omega) (fun j hj => ?_) hk hx2 (S.alloc _)).mono ?_
  · rw [new_cell _ _ _ _ (by simpa using hj)]; simp [hj, List.getD]
  · rintro e w' ⟨rfl, T⟩
    exact ⟨rfl, ((Sto.refl S).alloc _).trans T⟩

/-- Pick over numbers that have just been written out. -/
theorem pick_new {b : Nat} {av : Option Addr} {cap k : Nat} {xs : List Int} {w : World} (ls : List Int) (hl : 1 ≤ ls.length) (hl2 : ls.length ≤ 1000000)
    (hk : k ≤ 1073741824) (hx2 : xs.length ≤ 9223372036854775807) (S : Strm b av cap xs w k) :
    Calls Try.prog 8 #[.pointer (some ⟨b, 0, none⟩), .slice (some ⟨w.heap.size, 0, none⟩) ls.length ls.length] (w.alloc (.cells (ls.map (Value.int .i64)).toArray 3 /-t:int-/)) fun e w' =>
      e = .returned (.int .i64 (pickv xs k ls)) ∧ Sto b av cap xs w w' (k + 1) := by
  refine (pick_any w.heap.size ls.length ls hl hl2 (by have := S.lt; omega) (fun j hj => ?_) hk hx2 (S.alloc _)).mono ?_
  · rw [new_cell _ _ _ _ (by simpa using hj)]; simp [hj, List.getD]
  · rintro e w' ⟨rfl, T⟩
    exact ⟨rfl, ((Sto.refl S).alloc _).trans T⟩

/-- The same behind a draw. -/
theorem pick_new_drew {b : Nat} {av : Option Addr} {cap k : Nat} {xs : List Int} {w : World} (ls : List Int) (hl : 1 ≤ ls.length) (hl2 : ls.length ≤ 1000000)
    (hk : k ≤ 1073741824) (hx2 : xs.length ≤ 9223372036854775807) (S : Strm b av cap xs w k) :
    Calls Try.prog 8 #[.pointer (some ⟨b, 0, none⟩), .slice (some ⟨w.heap.size, 0, none⟩) ls.length ls.length] (w.alloc (.cells (ls.map (Value.int .i64)).toArray 3 /-t:int-/)).drew fun e w' =>
      e = .returned (.int .i64 (pickv xs k ls)) ∧ Sto b av cap xs w w' (k + 1) := by
  refine (pick_any w.heap.size ls.length ls hl hl2 (by have := S.lt; omega) (fun j hj => ?_) hk hx2 (S.alloc _).drew).mono ?_
  · show (w.alloc _).cell? _ = _
    rw [new_cell _ _ _ _ (by simpa using hj)]; simp [hj, List.getD]
  · rintro e w' ⟨rfl, T⟩
    exact ⟨rfl, (((Sto.refl S).alloc _).drew).trans T⟩
end Go.Proofs.Ytajigndlcdiinaa
namespace Go.Proofs.Ytajigndlcdiinaa
open Go.RowKit

def letterList : List ByteArray := [⟨#[97]⟩, ⟨#[98]⟩, ⟨#[99]⟩, ⟨#[97]⟩, ⟨#[10]⟩]
def lettersTo (xs : List Int) (k : Nat) : Nat → ByteArray
  | 0 => ⟨#[]⟩
  | j + 1 => lettersTo xs k j ++ somev xs (k + j) letterList
theorem letter_size (xs : List Int) (k : Nat) : (somev xs k letterList).size = 1 :=
  somev_all (fun x => x.size = 1) xs k letterList (by decide) (by decide)
theorem lettersTo_size (xs : List Int) (k j : Nat) : (lettersTo xs k j).size = j := by
  induction j with
  | zero => rfl
  | succ j ih => rw [lettersTo, ByteArray.size_append, ih, letter_size]

set_option maxHeartbeats 1000000 in
theorem letters_any {b : Nat} {av : Option Addr} {cap k : Nat} {xs : List Int} {w : World} (most : Int) (hm : 0 ≤ most ∧ most ≤ 1000000)
    (hk : k ≤ 1000000000) (hx2 : xs.length ≤ 9223372036854775807) (S : Strm b av cap xs w k) :
    Calls Try.prog 7 #[.pointer (some ⟨b, 0, none⟩), .int .i64 most] w fun e w' =>
      e = .returned (.string (lettersTo xs (k + 1) (rangev xs k 0 most).toNat)) ∧ Sto b av cap xs w w' (k + 1 + (rangev xs k 0 most).toNat) := by
  have r1 := rangev_bd xs k 0 most
  have r2 : rangek k 0 most = k + 1 := by unfold rangek; rw [if_neg (by omega)]
  go_enter Try.func7, Try.ntmps7
  go_wp2_with fail
  refine (range_any 0 most (by omega) (by omega) (by omega) hx2 S).mono ?_
  rintro e w1 ⟨rfl, T⟩
  rw [r2] at T
  clear r2
  obtain ⟨n, hn⟩ := Int.eq_ofNat_of_zero_le r1.1
  rw [hn]
  have hn2 : n ≤ 1000000 := by omega
  have HN := Lib.hid hn
  clear r1 hn
  go_wp2_with fail
  go_loopw [5, 9] (fun out i wr => ∃ j : Nat, j ≤ n ∧ i = .int .i64 j ∧ out = .string (lettersTo xs (k + 1) j) ∧ Sto b av cap xs w wr (k + 1 + j)) (fun _ i _ => n - (intOf i).toNat)
  case atStart => exact ⟨0, Nat.zero_le _, rfl, rfl, T⟩
  case round =>
    obtain ⟨j, hj, rfl, rfl, T⟩ := hrel
    by_cases hlt : j < n
    · go_wp2_with fail
      refine (some_new letterList (by decide) (by decide) (by omega) hx2 T.strm).mono ?_
      rintro e w2 ⟨rfl, T2⟩
      have T3 := T.trans T2
      clear T T2
      have z1 : (lettersTo xs (k + 1) j).size ≤ 1000000 := by rw [lettersTo_size]; omega
      have z2 : (somev xs (k + 1 + j) letterList).size ≤ 1 := by rw [letter_size]; omega
      go_wp2_with fail
      go_roundw
      case rel => exact ⟨j + 1, by omega, by go_num, rfl, T3⟩
      case measure => simp [intOf]; omega
    · obtain rfl : j = n := by omega
      go_wp2_with fail
      go_ret
      rw [HN.out]
      exact ⟨rfl, T⟩
end Go.Proofs.Ytajigndlcdiinaa
namespace Go.Proofs.Ytajigndlcdiinaa
open Go.RowKit

def inB (n lo hi : Int) : Bool := decide (lo ≤ n ∧ n ≤ hi)
theorem inB_yes {n lo hi : Int} (h : lo ≤ n ∧ n ≤ hi) : inB n lo hi = true := by simp [inB, h]
theorem inB_no {n lo hi : Int} (h : ¬ (lo ≤ n ∧ n ≤ hi)) : inB n lo hi = false := by simp [inB]; omega

set_option maxHeartbeats 400000 in
theorem in_any (n lo hi : Int) (w : World) : Calls Try.prog 53 #[.int .i64 n, .int .i64 lo, .int .i64 hi] w fun e w' => e = .returned (.bool (inB n lo hi)) ∧ w = w' := by
  by_cases h1 : lo ≤ n
  · by_cases h2 : n ≤ hi
    · rw [inB_yes ⟨h1, h2⟩]
      go_enter Try.func53, Try.ntmps53
      go_wp2
      go_ret
      exact ⟨rfl, rfl⟩
    · rw [inB_no (by omega)]
      go_enter Try.func53, Try.ntmps53
      go_wp2
      go_ret
      exact ⟨rfl, rfl⟩
  · rw [inB_no (by omega)]
    have h1' : decide (lo ≤ n) = false := by simpa using h1
    go_enter Try.func53, Try.ntmps53
    go_wp2
    go_ret
    exact ⟨rfl, rfl⟩
end Go.Proofs.Ytajigndlcdiinaa
namespace Go.Proofs.Ytajigndlcdiinaa
open Go.RowKit

structure Ed where
  at_ : Int
  old : Int
  new : ByteArray

/-- The slice that begins at `a` holds these edits. -/
def Eds (w : World) (a : Option Addr) (es : List Ed) : Prop := ∀ j, (h : j < es.length) → ∃ g off, a = some ⟨g, off, none⟩ ∧
  w.cell? ⟨g, off + j * 3, none⟩ = some (.int .i64 es[j].at_) ∧ w.cell? ⟨g, off + j * 3 + 1, none⟩ = some (.int .i64 es[j].old) ∧ w.cell? ⟨g, off + j * 3 + 2, none⟩ = some (.string es[j].new)

theorem Eds.grown {w w' : World} {a es} {row : Option Nat} (h : Eds w a es) (g : w.grownBy w' row) (ha : ∀ x, a = some x → some x.block ≠ row) : Eds w' a es := by
  intro j hj
  obtain ⟨b, off, e, h1, h2, h3⟩ := h j hj
  have := ha _ e
  exact ⟨b, off, e, g.cell h1 this, g.cell h2 this, g.cell h3 this⟩

/-- Sizes of what is put in, and numbers that fit. -/
def EdsSmall (es : List Ed) : Prop := ∀ e, e ∈ es → e.new.size ≤ 1099511627776 ∧ -9223372036854775808 ≤ e.at_ ∧ e.at_ ≤ 9223372036854775807 ∧ -9223372036854775808 ≤ e.old ∧ e.old ≤ 9223372036854775807

def faultGo (n : Int) : Int → Int → List Ed → Int
  | _, long, [] => if long > 20000 then 2 else 0
  | behind, long, e :: r =>
    if ¬ (0 ≤ e.at_ ∧ e.at_ ≤ n) ∨ ¬ (0 ≤ e.old ∧ e.old ≤ n - e.at_) then 1
    else if e.old = 0 ∧ e.new.size = 0 then 3
    else if e.at_ ≤ behind then 7
    else faultGo n (e.at_ + e.old) (long + (e.new.size - e.old)) r
def changeFault (n : Int) (es : List Ed) : Int :=
  if ¬ (0 ≤ n ∧ n ≤ 20000) then 1 else if es.length > 2000 then 2 else faultGo n (-1) n es

theorem grow_refl (w : World) (r : Option Nat) : w.grownBy w r := ⟨rfl, rfl, rfl, Nat.le_refl _, fun _ _ _ => rfl⟩

theorem grow_trans {w0 w1 w2 : World} {r : Option Nat} (h : w0.grownBy w1 r) (g : w1.grownBy w2 r) : w0.grownBy w2 r := grownBy_trans h g
theorem isEmpty_size (s : ByteArray) : s.toList.isEmpty = decide (s.size = 0) := by
  rw [ByteArray.toList_eq]
  obtain ⟨⟨d⟩⟩ := s
  cases d <;> simp [ByteArray.size]
theorem isEmpty_of_size {s : ByteArray} (h : s.size = 0) : s.toList.isEmpty = true := by rw [isEmpty_size]; simp [h]
theorem not_isEmpty_of_size {s : ByteArray} (h : ¬ s.size = 0) : s.toList.isEmpty = false := by rw [isEmpty_size]; simp [h]

set_option maxHeartbeats 4000000 in
theorem changeFault_any (n : Int) (a : Option Addr) (cap : Nat) (es : List Ed) (w : World) (hl : es.length ≤ 1000000) (hE : Eds w a es) (hS : EdsSmall es) :
    Calls Try.prog 15 #[.int .i64 n, .slice a es.length cap] w fun e w' => e = .returned (.int .i64 (changeFault n es)) ∧ w.grownBy w' none := by
  by_cases h0 : 0 ≤ n ∧ n ≤ 20000
  · by_cases h1 : es.length ≤ 2000
    · have HF := Lib.hid (show changeFault n es = faultGo n (-1) n es by rw [changeFault, if_neg (by omega), if_neg (by omega)])
      have i1 := inB_yes h0
      have d1 : decide (2000 < (es.length : Int)) = false := by simp; omega
      go_enter Try.func15, Try.ntmps15
      go_wp2_with fail
      refine (in_any _ _ _ _).mono ?_
      rintro e w1 ⟨rfl, rfl⟩
      go_wp2_with fail
      go_loopw [5, 6, 20] (fun bh lg i wr => ∃ (j : Nat) (behind long : Int), j ≤ es.length ∧ i = .int .i64 j ∧ bh = .int .i64 behind ∧ lg = .int .i64 long ∧ -1 ≤ behind ∧ behind ≤ 20000 ∧ -20000 * (j : Int) ≤ long ∧ long ≤ n + 1099511627776 * (j : Int)
        ∧ Hid (changeFault n es = faultGo n behind long (es.drop j)) ∧ w.grownBy wr none) (fun _ _ i _ => es.length - (intOf i).toNat)
      case atStart => exact ⟨0, -1, n, Nat.zero_le _, rfl, rfl, rfl, by omega, by omega, by omega, by omega, HF, grow_refl _ _⟩
      case round =>
        obtain ⟨j, behind, long, hj, rfl, rfl, rfl, b1, b2, l1, l2, HH, hg⟩ := hrel
        by_cases hlt : j < es.length
        · obtain ⟨g, off, rfl, c1, c2, c3⟩ := hE j hlt
          replace c1 := hg.cell c1 (by simp)
          replace c2 := hg.cell c2 (by simp)
          replace c3 := hg.cell c3 (by simp)
          have hs := hS _ (List.getElem_mem hlt)
          have hcons : es.drop j = es[j] :: es.drop (j + 1) := List.drop_eq_getElem_cons hlt
          have HH2 := Lib.hid (HH.out.trans (by rw [hcons, faultGo]))
          clear hcons HH
          generalize es[j] = e at c1 c2 c3 hs HH2
          obtain ⟨ea, eo, en⟩ := e
          simp only at c1 c2 c3 hs HH2
          have hgw : w.grownBy (wr.alloc (.cells #[.int .i64 ea, .int .i64 eo, .string en] 47 /-t:hedgelayer/api.Edit-/)) none := grow_trans hg (World.grownBy_alloc _ _ _)
          by_cases t1 : 0 ≤ ea ∧ ea ≤ n
          · by_cases t2 : 0 ≤ eo ∧ eo ≤ n - ea
            · have i1 := inB_yes t1
              have i2 := inB_yes t2
              have HH3 := Lib.hid (HH2.out.trans (if_neg (by omega)))
              clear HH2
              by_cases t4 : ea ≤ behind
              · by_cases t3 : eo = 0
                · by_cases t5 : en.size = 0
                  · have z := isEmpty_of_size t5
                    have HH4 := Lib.hid (HH3.out.trans (if_pos ⟨t3, t5⟩))
                    have t3b : (eo == 0) = true := by simp [t3]
                    clear HH3 t3 t5
                    go_wp2_with (go_at_call 53; refine (in_any _ _ _ _).mono ?_; rintro e' w1 ⟨rfl, rfl⟩)
                    go_ret
                    rw [HH4.out]
                    exact ⟨rfl, hgw⟩
                  · have z := not_isEmpty_of_size t5
                    have HH4 := Lib.hid (HH3.out.trans ((if_neg (by omega)).trans (if_pos t4)))
                    have t3b : (eo == 0) = true := by simp [t3]
                    clear HH3 t3 t5
                    go_wp2_with (go_at_call 53; refine (in_any _ _ _ _).mono ?_; rintro e' w1 ⟨rfl, rfl⟩)
                    go_ret
                    rw [HH4.out]
                    exact ⟨rfl, hgw⟩
                · have HH4 := Lib.hid (HH3.out.trans ((if_neg (by omega)).trans (if_pos t4)))
                  have t3b : (eo == 0) = false := by simp [t3]
                  clear HH3 t3
                  go_wp2_with (go_at_call 53; refine (in_any _ _ _ _).mono ?_; rintro e' w1 ⟨rfl, rfl⟩)
                  go_ret
                  rw [HH4.out]
                  exact ⟨rfl, hgw⟩
              · by_cases t3 : eo = 0
                · by_cases t5 : en.size = 0
                  · have z := isEmpty_of_size t5
                    have HH4 := Lib.hid (HH3.out.trans (if_pos ⟨t3, t5⟩))
                    have t3b : (eo == 0) = true := by simp [t3]
                    clear HH3 t3 t5
                    go_wp2_with (go_at_call 53; refine (in_any _ _ _ _).mono ?_; rintro e' w1 ⟨rfl, rfl⟩)
                    go_ret
                    rw [HH4.out]
                    exact ⟨rfl, hgw⟩
                  · have z := not_isEmpty_of_size t5
                    have HH4 := Lib.hid (HH3.out.trans ((if_neg (by omega)).trans (if_neg t4)))
                    have t3b : (eo == 0) = true := by simp [t3]
                    clear HH3 t3 t5
                    go_wp2_with (go_at_call 53; refine (in_any _ _ _ _).mono ?_; rintro e' w1 ⟨rfl, rfl⟩)
                    go_roundw
                    case rel => exact ⟨j + 1, _, _, by omega, by go_num, rfl, rfl, by omega, by omega, by omega, by omega, HH4, hgw⟩
                    case measure => simp [intOf]; omega
                · have HH4 := Lib.hid (HH3.out.trans ((if_neg (by omega)).trans (if_neg t4)))
                  have t3b : (eo == 0) = false := by simp [t3]
                  clear HH3 t3
                  go_wp2_with (go_at_call 53; refine (in_any _ _ _ _).mono ?_; rintro e' w1 ⟨rfl, rfl⟩)
                  go_roundw
                  case rel => exact ⟨j + 1, _, _, by omega, by go_num, rfl, rfl, by omega, by omega, by omega, by omega, HH4, hgw⟩
                  case measure => simp [intOf]; omega
            · have i1 := inB_yes t1
              have i2 := inB_no t2
              have w1 : IntKind.i64.wrap (n - ea) = n - ea := IntWalk.i64_in _ (by omega)
              have HH4 := Lib.hid (HH2.out.trans (if_pos (Or.inr t2)))
              clear HH2
              go_wp2_with (go_at_call 53; refine (in_any _ _ _ _).mono ?_; rintro e' w1 ⟨rfl, rfl⟩)
              go_ret
              rw [HH4.out]
              exact ⟨rfl, hgw⟩
          · have i1 := inB_no t1
            have HH4 := Lib.hid (HH2.out.trans (if_pos (Or.inl t1)))
            clear HH2
            go_wp2_with (go_at_call 53; refine (in_any _ _ _ _).mono ?_; rintro e' w1 ⟨rfl, rfl⟩)
            go_ret
            rw [HH4.out]
            exact ⟨rfl, hgw⟩
        · obtain rfl : j = es.length := by omega
          have HH2 := Lib.hid (HH.out.trans (by rw [List.drop_length, faultGo]))
          clear HH
          by_cases t : long > 20000
          · have HH4 := Lib.hid (HH2.out.trans (if_pos t))
            clear HH2
            go_wp2_with fail
            go_ret
            rw [HH4.out]
            exact ⟨rfl, hg⟩
          · have HH4 := Lib.hid (HH2.out.trans (if_neg t))
            clear HH2
            go_wp2_with fail
            go_ret
            rw [HH4.out]
            exact ⟨rfl, hg⟩
    · have HF := Lib.hid (show changeFault n es = 2 by rw [changeFault, if_neg (by omega), if_pos (by omega)])
      have i1 := inB_yes h0
      have d1 : decide (2000 < (es.length : Int)) = true := by simp; omega
      go_enter Try.func15, Try.ntmps15
      go_wp2_with (go_at_call 53; refine (in_any _ _ _ _).mono ?_; rintro e' w1 ⟨rfl, rfl⟩)
      go_ret
      rw [HF.out]
      exact ⟨rfl, grow_refl _ _⟩
  · have HF := Lib.hid (show changeFault n es = 1 by rw [changeFault, if_pos h0])
    have i1 := inB_no h0
    go_enter Try.func15, Try.ntmps15
    go_wp2_with (go_at_call 53; refine (in_any _ _ _ _).mono ?_; rintro e' w1 ⟨rfl, rfl⟩)
    go_ret
    rw [HF.out]
    exact ⟨rfl, grow_refl _ _⟩
end Go.Proofs.Ytajigndlcdiinaa
namespace Go.Proofs.Ytajigndlcdiinaa
open Go.RowKit

/-- Edits with offsets and lengths as a right change has them. -/
def EdsOk (es : List Ed) : Prop := ∀ e, e ∈ es → 0 ≤ e.at_ ∧ e.at_ ≤ 20000 ∧ 0 ≤ e.old ∧ e.old ≤ 20000 ∧ e.new.size ≤ 1099511627776

def movedGo (at_ : Int) (behind : Bool) : Int → List Ed → Int
  | shift, [] => at_ + shift
  | shift, e :: r =>
    if at_ < e.at_ then at_ + shift
    else if at_ ≤ e.at_ + e.old then (if behind then e.at_ + shift + e.new.size else e.at_ + shift)
    else movedGo at_ behind (shift + (e.new.size - e.old)) r

set_option maxHeartbeats 4000000 in
theorem movedOf_any (n : Int) (a : Option Addr) (cap : Nat) (es : List Ed) (at_ : Int) (behind : Bool) (w : World) (hl : es.length ≤ 2000) (hat : -100000 ≤ at_ ∧ at_ ≤ 100000) (hE : Eds w a es) (hS : EdsOk es) :
    Calls Try.prog 41 #[.int .i64 n, .slice a es.length cap, .int .i64 at_, .bool behind] w fun e w' => e = .returned (.int .i64 (movedGo at_ behind 0 es)) ∧ w.grownBy w' none := by
  have HF : Hid (movedGo at_ behind 0 es = movedGo at_ behind 0 (es.drop 0)) := Lib.hid rfl
  go_enter Try.func41, Try.ntmps41
  go_wp2_with fail
  go_loopw [9, 14] (fun sh i wr => ∃ (j : Nat) (shift : Int), j ≤ es.length ∧ i = .int .i64 j ∧ sh = .int .i64 shift ∧ -20000 * (j : Int) ≤ shift ∧ shift ≤ 1099511627776 * (j : Int)
    ∧ Hid (movedGo at_ behind 0 es = movedGo at_ behind shift (es.drop j)) ∧ w.grownBy wr none) (fun _ i _ => es.length - (intOf i).toNat)
  case atStart => exact ⟨0, 0, Nat.zero_le _, rfl, rfl, by omega, by omega, HF, grow_refl _ _⟩
  case round =>
    obtain ⟨j, shift, hj, rfl, rfl, l1, l2, HH, hg⟩ := hrel
    by_cases hlt : j < es.length
    · obtain ⟨g, off, rfl, c1, c2, c3⟩ := hE j hlt
      replace c1 := hg.cell c1 (by simp)
      replace c2 := hg.cell c2 (by simp)
      replace c3 := hg.cell c3 (by simp)
      have hs := hS _ (List.getElem_mem hlt)
      have hcons : es.drop j = es[j] :: es.drop (j + 1) := List.drop_eq_getElem_cons hlt
      have HH2 := Lib.hid (HH.out.trans (by rw [hcons, movedGo]))
      clear hcons HH
      generalize es[j] = e at c1 c2 c3 hs HH2
      obtain ⟨ea, eo, en⟩ := e
      simp only at c1 c2 c3 hs HH2
      have hgw : w.grownBy (wr.alloc (.cells #[.int .i64 ea, .int .i64 eo, .string en] 47 /-t:hedgelayer/api.Edit-/)) none := grow_trans hg (World.grownBy_alloc _ _ _)
      by_cases t1 : at_ < ea
      · have HH3 := Lib.hid (HH2.out.trans (if_pos t1))
        clear HH2
        go_wp2_with fail
        go_ret
        rw [HH3.out]
        exact ⟨rfl, hgw⟩
      · by_cases t2 : at_ ≤ ea + eo
        · cases hb : behind
          · have HH3 := Lib.hid (HH2.out.trans ((if_neg t1).trans ((if_pos t2).trans (by rw [hb]))))
            subst hb
            clear HH2
            go_wp2_with fail
            go_ret
            rw [HH3.out]
            exact ⟨rfl, hgw⟩
          · have HH3 := Lib.hid (HH2.out.trans ((if_neg t1).trans ((if_pos t2).trans (by rw [hb]))))
            subst hb
            clear HH2
            go_wp2_with fail
            go_ret
            rw [HH3.out]
            exact ⟨rfl, hgw⟩
        · have HH3 := Lib.hid (HH2.out.trans ((if_neg t1).trans (if_neg t2)))
          clear HH2
          go_wp2_with fail
          go_roundw
          case rel => exact ⟨j + 1, _, by omega, by go_num, rfl, by omega, by omega, HH3, hgw⟩
          case measure => simp [intOf]; omega
    · obtain rfl : j = es.length := by omega
      have HH2 := Lib.hid (HH.out.trans (by rw [List.drop_length, movedGo]))
      clear HH
      go_wp2_with fail
      go_ret
      rw [HH2.out]
      exact ⟨rfl, hg⟩

def whenv (is : Bool) (e : Int) : Int := if is then e else 0
theorem when_any (is : Bool) (e : Int) (w : World) : Calls Try.prog 40 #[.bool is, .int .i64 e] w fun x w' => x = .returned (.int .i64 (whenv is e)) ∧ w = w' := by
  cases is
  all_goals
    go_enter Try.func40, Try.ntmps40
    go_wp2_with fail
    go_ret
    exact ⟨rfl, rfl⟩

def errsv : List Int → Int
  | [] => 0
  | e :: r => if e = 0 then errsv r else e

set_option maxHeartbeats 1000000 in
theorem errs_any (p m : Nat) (ls : List Int) (w : World) (hl : ls.length ≤ 1000) (hc : ∀ j, j < ls.length → w.cell? ⟨p, j, none⟩ = some (.int .i64 (ls.getD j 0))) :
    Calls Try.prog 34 #[.slice (some ⟨p, 0, none⟩) ls.length m] w fun x w' => x = .returned (.int .i64 (errsv ls)) ∧ w = w' := by
  have HC := Lib.hid hc
  clear hc
  have HF : Hid (errsv ls = errsv (ls.drop 0)) := Lib.hid rfl
  go_enter Try.func34, Try.ntmps34
  go_wp2_with fail
  go_loop [7] (fun i => ∃ j : Nat, j ≤ ls.length ∧ i = .int .i64 j ∧ Hid (errsv ls = errsv (ls.drop j))) (fun i => ls.length - (intOf i).toNat)
  case atStart => exact ⟨0, Nat.zero_le _, rfl, HF⟩
  case round =>
    obtain ⟨j, hj, rfl, HH⟩ := hrel
    by_cases hlt : j < ls.length
    · have hcons : ls.drop j = ls[j] :: ls.drop (j + 1) := List.drop_eq_getElem_cons hlt
      have HH2 := Lib.hid (HH.out.trans (by rw [hcons, errsv]))
      have hcell := HC.out j hlt
      rw [List.getD_eq_getElem?_getD, List.getElem?_eq_getElem hlt, Option.getD_some] at hcell
      clear hcons HH
      generalize ls[j] = e at hcell HH2
      by_cases h0 : e = 0
      · have HH3 := Lib.hid (HH2.out.trans (if_pos h0))
        clear HH2
        have hb : (e == 0) = true := by simp [h0]
        have hb2 : (e != 0) = false := by simp [h0]
        clear h0
        go_wp2_with fail
        go_round
        case rel => exact ⟨j + 1, by omega, by go_num, HH3⟩
        case measure => simp [intOf]; omega
      · have HH3 := Lib.hid (HH2.out.trans (if_neg h0))
        clear HH2
        have hb : (e == 0) = false := by simp [h0]
        have hb2 : (e != 0) = true := by simp [h0]
        clear h0
        go_wp2_with fail
        go_ret
        rw [HH3.out]
        exact ⟨rfl, rfl⟩
    · obtain rfl : j = ls.length := by omega
      have HH2 := Lib.hid (HH.out.trans (by rw [List.drop_length, errsv]))
      clear HH
      go_wp2_with fail
      go_ret
      rw [HH2.out]
      exact ⟨rfl, rfl⟩

theorem errs_new (ls : List Int) (w : World) (hl : ls.length ≤ 1000) :
    Calls Try.prog 34 #[.slice (some ⟨w.heap.size, 0, none⟩) ls.length ls.length] (w.alloc (.cells (ls.map (Value.int .i64)).toArray 30 /-t:hedgelayer/api.Errno-/)) fun x w' => x = .returned (.int .i64 (errsv ls)) ∧ w.alloc (.cells (ls.map (Value.int .i64)).toArray 30 /-t:hedgelayer/api.Errno-/) = w' := by
  refine errs_any w.heap.size ls.length ls _ hl (fun j hj => ?_)
  unfold World.cell?
  rw [show (w.alloc (.cells (ls.map (Value.int .i64)).toArray 30 /-t:hedgelayer/api.Errno-/)).heap[(⟨w.heap.size, j, none⟩ : Addr).block]? = _ from heap_alloc_new w _]
  simp [hj, List.getD]

def manyv (n : Nat) : Int := if n > 2000 then 2 else 0
theorem manyFault_any (a : Option Addr) (n cap : Nat) (w : World) (hn : n ≤ 1000000000) : Calls Try.prog 64 #[.slice a n cap] w fun x w' => x = .returned (.int .i64 (manyv n)) ∧ w = w' := by
  by_cases h : n > 2000
  · have HH := Lib.hid (show manyv n = 2 by rw [manyv, if_pos h])
    go_enter Try.func64, Try.ntmps64
    go_wp2_with fail
    go_ret
    rw [HH.out]
    exact ⟨rfl, rfl⟩
  · have HH := Lib.hid (show manyv n = 0 by rw [manyv, if_neg h])
    go_enter Try.func64, Try.ntmps64
    go_wp2_with fail
    go_ret
    rw [HH.out]
    exact ⟨rfl, rfl⟩

def bothFaultv (n : Int) (a b : List Ed) : Int := if changeFault n a ≠ 0 then changeFault n a else changeFault n b
set_option maxHeartbeats 1000000 in
theorem bothFault_any (n : Int) (a b : Option Addr) (c1 c2 : Nat) (es fs : List Ed) (w : World) (hl : es.length ≤ 1000000) (hl2 : fs.length ≤ 1000000) (hE : Eds w a es) (hF : Eds w b fs) (hS : EdsSmall es) (hT : EdsSmall fs) :
    Calls Try.prog 72 #[.int .i64 n, .slice a es.length c1, .slice b fs.length c2] w fun e w' => e = .returned (.int .i64 (bothFaultv n es fs)) ∧ w.grownBy w' none := by
  by_cases h : changeFault n es = 0
  · have HH := Lib.hid (show bothFaultv n es fs = changeFault n fs by rw [bothFaultv, if_neg (by simp [h])])
    have hb2 : (changeFault n es != 0) = false := by simp [h]
    clear h
    go_enter Try.func72, Try.ntmps72
    go_wp2_with fail
    refine (changeFault_any n a c1 es w hl hE hS).mono ?_
    rintro e w1 ⟨rfl, hg⟩
    go_wp2_with fail
    refine (changeFault_any n b c2 fs w1 hl2 (hF.grown hg (by simp)) hT).mono ?_
    rintro e w2 ⟨rfl, hg2⟩
    go_wp2_with fail
    go_ret
    rw [HH.out]
    exact ⟨rfl, grow_trans hg hg2⟩
  · have HH := Lib.hid (show bothFaultv n es fs = changeFault n es by rw [bothFaultv, if_pos h])
    have hb2 : (changeFault n es != 0) = true := by simp [h]
    clear h
    go_enter Try.func72, Try.ntmps72
    go_wp2_with fail
    refine (changeFault_any n a c1 es w hl hE hS).mono ?_
    rintro e w1 ⟨rfl, hg⟩
    go_wp2_with fail
    go_ret
    rw [HH.out]
    exact ⟨rfl, hg⟩
end Go.Proofs.Ytajigndlcdiinaa
namespace Go.Proofs.Ytajigndlcdiinaa
open Go.RowKit

/-- Blocks of which P is true are as they were; there may be new ones. -/
structure Frm (P : Nat → Option Obj → Prop) (w w' : World) : Prop where
  os : w'.os = w.os
  tape : w'.tape = w.tape
  output : w'.output = w.output
  size : w.heap.size ≤ w'.heap.size
  block : ∀ k, k < w.heap.size → P k w.heap[k]? → w'.heap[k]? = w.heap[k]?

theorem Frm.refl (P : Nat → Option Obj → Prop) (w : World) : Frm P w w := ⟨rfl, rfl, rfl, Nat.le_refl _, fun _ _ _ => rfl⟩
theorem Frm.trans {P : Nat → Option Obj → Prop} {a b c : World} (h : Frm P a b) (g : Frm P b c) : Frm P a c :=
  ⟨g.os.trans h.os, g.tape.trans h.tape, g.output.trans h.output, Nat.le_trans h.size g.size, fun k hk hp =>
    have e := h.block k hk hp
    (g.block k (Nat.lt_of_lt_of_le hk h.size) (by rw [e]; exact hp)).trans e⟩
theorem Frm.mono {P Q : Nat → Option Obj → Prop} {a b : World} (h : Frm P a b) (hq : ∀ k, k < a.heap.size → Q k a.heap[k]? → P k a.heap[k]?) : Frm Q a b :=
  ⟨h.os, h.tape, h.output, h.size, fun k hk hp => h.block k hk (hq k hk hp)⟩
theorem Frm.alloc {P : Nat → Option Obj → Prop} {a b : World} (h : Frm P a b) (o : Obj) : Frm P a (b.alloc o) :=
  h.trans ⟨rfl, rfl, rfl, by simp, fun k hk _ => Below.heap_alloc _ _ _ hk⟩
theorem Frm.drew {P : Nat → Option Obj → Prop} {a b : World} (h : Frm P a b) : Frm P a b.drew := ⟨h.os, h.tape, h.output, h.size, h.block⟩
theorem Frm.setCell {P : Nat → Option Obj → Prop} {a b : World} (h : Frm P a b) (p : Addr) (u : Value) (hp : ¬ P p.block b.heap[p.block]?) : Frm P a (b.setCell p u) :=
  h.trans ⟨rfl, rfl, rfl, by simp [World.setCell], fun k _ hk => Below.heap_setCell _ _ _ _ (fun e => hp (by rw [← e]; exact hk))⟩
theorem Frm.grown {P : Nat → Option Obj → Prop} {a b c : World} {row : Option Nat} (h : Frm P a b) (g : b.grownBy c row) (hr : ∀ k, row = some k → ¬ P k b.heap[k]?) : Frm P a c :=
  h.trans ⟨g.os, g.tape, g.output, g.size, fun k hk hp => g.block k hk (fun e => hr k e.symm hp)⟩

theorem heap_setCell_self {w : World} {b : Nat} {cs : Array Value} {t : TypeId} (h : w.heap[b]? = some (.cells cs t (0, 0))) (i : Nat) (u : Value) : (w.setCell ⟨b, i, none⟩ u).heap[b]? = some (.cells (cs.setIfInBounds i u) t (0, 0)) := by
  have hlt := lt_of_block h
  have h' : w.heap[b] = .cells cs t (0, 0) := by simpa [Array.getElem?_eq_getElem hlt] using h
  show (w.heap.modify b _)[b]? = _
  rw [Array.getElem?_eq_getElem (by simpa using hlt), Array.getElem_modify_self, h']
  rfl

theorem cells_new (w : World) (vs : List Value) (t : TypeId) : ∀ j u, vs[j]? = some u → (w.alloc (.cells vs.toArray t)).cell? ((⟨w.heap.size, 0, none⟩ : Addr).add j) = some u := by
  intro j u hj
  have e : ((⟨w.heap.size, 0, none⟩ : Addr).add j) = ⟨w.heap.size, j, none⟩ := by simp [Addr.add]; omega
  rw [e]
  unfold World.cell?
  rw [show (w.alloc (.cells vs.toArray t)).heap[(⟨w.heap.size, j, none⟩ : Addr).block]? = _ from heap_alloc_new w _]
  simpa using hj

/-- The block of a slice that the call owns: of its elements' type. -/
theorem ownsRow_block {w : World} {base : Nat} {e : TypeId} {size : Nat} {v : Value} {n : Nat} {xs : List Value} (h : w.ownsRow base e size v n xs) : ∀ k, v.ownBlock = some k → base ≤ k ∧ ∃ c, w.heap[k]? = some (.cells c e (0, 0)) := by
  intro k hk
  rcases h.2 with ⟨rfl, _⟩ | ⟨g, cap, cur, rfl, hg, hh, _⟩
  · simp [Value.ownBlock] at hk
  · simp [Value.ownBlock] at hk
    subst hk
    exact ⟨hg, cur, hh⟩

theorem cell_of_block {w : World} {b : Nat} {cs : Array Value} {t : TypeId} {fr : Nat × Nat} (h : w.heap[b]? = some (.cells cs t fr)) (i : Nat) : w.cell? ⟨b, i, none⟩ = cs[i]? := by simp [World.cell?, h]
theorem free_of_block {w : World} {b : Nat} {cs : Array Value} {t : TypeId} (h : w.heap[b]? = some (.cells cs t (0, 0))) (i : Nat) : w.frozen? ⟨b, i, none⟩ = false := by simp [World.frozen?, h]

/-- A store into a block of another kind leaves what is owned. -/
theorem ownsRow_setCell_block {w : World} {base : Nat} {e : TypeId} {size : Nat} {v : Value} {n : Nat} {xs : List Value} (h : w.ownsRow base e size v n xs)
    {b : Nat} {cs : Array Value} {t : TypeId} {fr : Nat × Nat} (hb : w.heap[b]? = some (.cells cs t fr)) (ht : t ≠ e) (i : Nat) (u : Value) : (w.setCell ⟨b, i, none⟩ u).ownsRow base e size v n xs := by
  refine ownsRow_setCell_other h (fun hk => ?_) u
  obtain ⟨_, c, hc⟩ := ownsRow_block h _ hk
  have := hb.symm.trans hc
  simp at this
  exact ht this.2.1
/-- What grows the row of a slice leaves blocks of another kind. -/
theorem grown_block {w w' : World} {base : Nat} {e : TypeId} {size : Nat} {v : Value} {n : Nat} {xs : List Value} (h : w.ownsRow base e size v n xs) (g : w.grownBy w' v.ownBlock)
    {b : Nat} {cs : Array Value} {t : TypeId} {fr : Nat × Nat} (hb : w.heap[b]? = some (.cells cs t fr)) (ht : t ≠ e) : w'.heap[b]? = some (.cells cs t fr) := by
  rw [g.block b (lt_of_block hb) (fun hk => ?_)]
  · exact hb
  · obtain ⟨_, c, hc⟩ := ownsRow_block h _ hk.symm
    have := hb.symm.trans hc
    simp at this
    exact ht this.2.1

theorem ownsRow_slice {w : World} {base : Nat} {e : TypeId} {size : Nat} {v : Value} {n : Nat} {xs : List Value} (h : w.ownsRow base e size v n xs) : ∃ a c, v = .slice a n c := by
  rcases h.2 with ⟨rfl, rfl⟩ | ⟨g, cap, cur, rfl, _⟩
  · exact ⟨none, 0, rfl⟩
  · exact ⟨_, _, rfl⟩

theorem heap_new_at (w : World) (o : Obj) (k : Nat) (h : w.heap.size = k) : (w.alloc o).heap[k]? = some o := by subst h; exact heap_alloc_new w o

theorem grow_setCell {w w1 : World} (h : w.grownBy w1 none) (p : Addr) (u : Value) (hp : w.heap.size ≤ p.block) : w.grownBy (w1.setCell p u) none :=
  ⟨h.os, h.tape, h.output, by have := h.size; simpa [World.setCell] using this, fun k hk hn => (Below.heap_setCell _ _ _ _ (by omega)).trans (h.block k hk hn)⟩

/-- What is owned stays so where blocks of its elements' type are left alone. -/
theorem ownsRow_frm {P : Nat → Option Obj → Prop} {w w' : World} (f : Frm P w w') {base : Nat} {e : TypeId} {size : Nat} {v : Value} {n : Nat} {xs : List Value} (h : w.ownsRow base e size v n xs)
    (hp : ∀ k c, base ≤ k → w.heap[k]? = some (.cells c e (0, 0)) → P k (some (.cells c e (0, 0)))) : w'.ownsRow base e size v n xs := by
  obtain ⟨h1, h2⟩ := h
  refine ⟨h1, ?_⟩
  rcases h2 with h2 | ⟨g, cap, cur, hv, hg, hh, r⟩
  · exact Or.inl h2
  · exact Or.inr ⟨g, cap, cur, hv, hg, by rw [f.block g (lt_of_block hh) (by rw [hh]; exact hp g cur hg hh)]; exact hh, r⟩
theorem Frm.of_grown {w w' : World} (g : w.grownBy w' none) (P : Nat → Option Obj → Prop) : Frm P w w' := ⟨g.os, g.tape, g.output, g.size, fun k hk _ => g.block k hk (by simp)⟩
/-- The cells of what is owned. -/
theorem ownsRow_cell {w : World} {base : Nat} {e : TypeId} {size : Nat} {v : Value} {n : Nat} {xs : List Value} (h : w.ownsRow base e size v n xs) (hn : 0 < n) :
    ∃ g cap, v = .slice (some ⟨g, 0, none⟩) n cap ∧ base ≤ g ∧ ∀ j u, xs[j]? = some u → w.cell? ⟨g, j, none⟩ = some u := by
  rcases h.2 with ⟨_, h0⟩ | ⟨g, cap, cur, hv, hg, hh, hnc, hcm, hcs, ht⟩
  · omega
  · refine ⟨g, cap, hv, hg, fun j u hj => ?_⟩
    rw [cell_of_block hh]
    rw [← ht, List.getElem?_take] at hj
    split at hj
    · simpa using hj
    · simp at hj

theorem grow_below {w wr w2 : World} (h : w.grownBy wr none) (b : Below w.heap.size wr w2) : w.grownBy w2 none :=
  ⟨b.os.trans h.os, b.tape.trans h.tape, b.output.trans h.output, Nat.le_trans h.size b.size, fun k hk hn => (b.block k hk).trans (h.block k hk hn)⟩

theorem cells_new2 (w : World) (o : Obj) (vs : List Value) (t : TypeId) : ∀ j u, vs[j]? = some u → ((w.alloc o).alloc (.cells vs.toArray t)).cell? ((⟨w.heap.size + 1, 0, none⟩ : Addr).add j) = some u := by
  intro j u hj
  have := cells_new (w.alloc o) vs t j u hj
  rwa [show (w.alloc o).heap.size = w.heap.size + 1 by simp] at this

theorem cell_grown {w w' : World} {p : Addr} {v : Value} (h : w.cell? p = some v) (g : w.grownBy w' none) : w'.cell? p = some v := g.cell h (by simp)
theorem grow_self (w : World) : w.grownBy w none := ⟨rfl, rfl, rfl, Nat.le_refl _, fun _ _ _ => rfl⟩
theorem grow_alloc {w w' : World} (g : w.grownBy w' none) (o : Obj) : w.grownBy (w'.alloc o) none := grownBy_trans g (World.grownBy_alloc _ _ _)
theorem grow_drew {w w' : World} (g : w.grownBy w' none) : w.grownBy w'.drew none := ⟨g.os, g.tape, g.output, g.size, g.block⟩

theorem grow_frm {P : Nat → Option Obj → Prop} {w wr w1 : World} (h : w.grownBy wr none) (f : Frm P wr w1) (hp : ∀ k o, k < w.heap.size → P k o) : w.grownBy w1 none :=
  ⟨f.os.trans h.os, f.tape.trans h.tape, f.output.trans h.output, Nat.le_trans h.size f.size, fun k hk _ => (f.block k (Nat.lt_of_lt_of_le hk h.size) (hp k _ hk)).trans (h.block k hk (by simp))⟩
theorem ownsRow_base {w : World} {base base' : Nat} {e : TypeId} {size : Nat} {v : Value} {n : Nat} {xs : List Value} (h : w.ownsRow base e size v n xs) (hb : base' ≤ base) : w.ownsRow base' e size v n xs := by
  refine ⟨h.1, ?_⟩
  rcases h.2 with h2 | ⟨g, cap, cur, hv, hg, r⟩
  · exact Or.inl h2
  · exact Or.inr ⟨g, cap, cur, hv, by omega, r⟩

/-- Behind a write to a row that is newer than the call. -/
theorem grow_row {w w1 w2 : World} {row : Option Nat} (h : w.grownBy w1 none) (g : w1.grownBy w2 row) (hr : ∀ k, row = some k → w.heap.size ≤ k) : w.grownBy w2 none :=
  ⟨g.os.trans h.os, g.tape.trans h.tape, g.output.trans h.output, Nat.le_trans h.size g.size, fun k hk hn =>
    (g.block k (Nat.lt_of_lt_of_le hk h.size) (fun e => by have := hr k e.symm; omega)).trans (h.block k hk hn)⟩
/-- A row of one kind behind an append to a row of another kind. -/
theorem append_own {w w' : World} {base base2 : Nat} {e e2 : TypeId} {size size2 : Nat} {v v2 : Value} {n n2 : Nat} {xs ys : List Value} (he : e2 ≠ e) (o : w.ownsRow base e size v n xs) (g : w.grownBy w' v.ownBlock)
    (o2 : w.ownsRow base2 e2 size2 v2 n2 ys) : w'.ownsRow base2 e2 size2 v2 n2 ys := by
  refine ⟨o2.1, ?_⟩
  rcases o2.2 with h | ⟨gg, cap, cur, hv, hg, hh, r⟩
  · exact Or.inl h
  · exact Or.inr ⟨gg, cap, cur, hv, hg, grown_block o g hh he, r⟩
end Go.Proofs.Ytajigndlcdiinaa
namespace Go.Proofs.Ytajigndlcdiinaa
open Go.RowKit

abbrev Let := Int × UInt8
def letCells (l : List Let) : List Value := l.flatMap fun x => [.int .i64 x.1, .int .u8 x.2.toNat]
theorem letCells_len (l : List Let) : (letCells l).length = l.length * 2 := by
  induction l with
  | nil => rfl
  | cons x l ih => simp only [letCells, List.flatMap_cons, List.length_append] at ih ⊢; rw [ih]; simp; omega
theorem letCells_snoc (l : List Let) (x : Let) : letCells (l ++ [x]) = letCells l ++ [.int .i64 x.1, .int .u8 x.2.toNat] := by simp [letCells]

theorem infoLet : (Try.prog.info? 88 /-t:hedgelayer/hgref2.letter-/).map (fun i => (i.zero, i.size, i.bytes)) = some (some (.agg #[.int .i64 0, .int .u8 0]), 2, 16) := by kernel_rfl

/-- A flow that is being made: `at` in block A, the flow in block F, the row of its letters from block B on. -/
structure FlowSt (B A F : Nat) (n : Int) (w : World) (a : Int) (lv : Value) (ls : List Let) : Prop where
  hA : w.heap[A]? = some (.cells #[.int .i64 a] 3 /-t:int-/ (0, 0))
  hF : w.heap[F]? = some (.cells #[.int .i64 n, lv] 85 /-t:hedgelayer/hgref2.flow-/ (0, 0))
  own : w.ownsRow B 88 /-t:hedgelayer/hgref2.letter-/ 2 lv ls.length (letCells ls)
  hB : B ≤ w.heap.size

/-- What is left alone while a flow is made. -/
def FlowP (B A F : Nat) (k : Nat) (o : Option Obj) : Prop := k ≠ A ∧ k ≠ F ∧ (k < B ∨ ∀ c fr, o ≠ some (.cells c 88 /-t:hedgelayer/hgref2.letter-/ fr))

/-- The letters of kept bytes from a on, ahead of b. -/
def keepL (a : Int) : Nat → List Let
  | 0 => []
  | j + 1 => keepL a j ++ [(a + (j : Int), 0)]
theorem keepL_len (a : Int) (j : Nat) : (keepL a j).length = j := by
  induction j with
  | zero => rfl
  | succ j ih => simp [keepL, ih]

def cellInt : Option Value → Int | some (.int _ q) => q | _ => 0

theorem FlowSt.ne {B A F n w a lv ls} (S : FlowSt B A F n w a lv ls) : A ≠ F := by
  intro e
  have h := S.hA
  rw [e, S.hF] at h
  simp at h
/-- Frames of an append to the letters. -/
theorem FlowSt.frm {B A F n w a lv ls} (S : FlowSt B A F n w a lv ls) (o : Obj) {w1 : World} (g : (w.alloc o).grownBy w1 lv.ownBlock) : Frm (FlowP B A F) w w1 := by
  refine ((Frm.refl _ w).alloc o).grown g (fun k hk hp => ?_)
  obtain ⟨hB, c, hc⟩ := ownsRow_block (S.own.alloc o) k hk
  rcases hp.2.2 with h | h
  · omega
  · exact h _ _ hc

/-- Behind the append: the two variables. -/
theorem FlowSt.mid {B A F n w a lv ls} (S : FlowSt B A F n w a lv ls) (o : Obj) {w1 : World} (g : (w.alloc o).grownBy w1 lv.ownBlock) :
    w1.heap[A]? = some (.cells #[.int .i64 a] 3 /-t:int-/ (0, 0)) ∧ w1.heap[F]? = some (.cells #[.int .i64 n, lv] 85 /-t:hedgelayer/hgref2.flow-/ (0, 0)) :=
  ⟨grown_block (S.own.alloc o) g ((Below.heap_alloc w o A (lt_of_block S.hA)).trans S.hA) (by decide),
   grown_block (S.own.alloc o) g ((Below.heap_alloc w o F (lt_of_block S.hF)).trans S.hF) (by decide)⟩

/-- Behind the append: what the store and the step of `at` lead to. -/
theorem FlowSt.push {B A F n w a lv ls} (S : FlowSt B A F n w a lv ls) (o : Obj) {w1 : World} {v' : Value} {x : Let} {m : Nat} (hm : m = ls.length + 1)
    (hown : w1.ownsRow B 88 /-t:hedgelayer/hgref2.letter-/ 2 v' m (letCells ls ++ [.int .i64 x.1, .int .u8 x.2.toNat])) (g : (w.alloc o).grownBy w1 lv.ownBlock) :
    FlowSt B A F n (w1.setCell ⟨F, 1, none⟩ v') a v' (ls ++ [x]) ∧ Frm (FlowP B A F) w (w1.setCell ⟨F, 1, none⟩ v') := by
  subst hm
  obtain ⟨hA, hF⟩ := S.mid o g
  refine ⟨⟨?_, ?_, ?_, ?_⟩, ?_⟩
  · rw [Below.heap_setCell _ _ _ _ S.ne]; exact hA
  · exact heap_setCell_self hF 1 v'
  · rw [letCells_snoc]
    simpa using ownsRow_setCell_block hown hF (by decide) 1 v'
  · have := g.size; have := S.hB; simp [World.setCell] at *; omega
  · exact (S.frm o g).setCell _ _ (fun h => h.2.1 rfl)

theorem FlowSt.step {B A F n w a lv ls} (S : FlowSt B A F n w a lv ls) (a' : Int) : FlowSt B A F n (w.setCell ⟨A, 0, none⟩ (.int .i64 a')) a' lv ls ∧ Frm (FlowP B A F) w (w.setCell ⟨A, 0, none⟩ (.int .i64 a')) := by
  refine ⟨⟨heap_setCell_self S.hA 0 _, ?_, ownsRow_setCell_block S.own S.hA (by decide) 0 _, ?_⟩, (Frm.refl _ w).setCell _ _ (fun h => h.1 rfl)⟩
  · rw [Below.heap_setCell _ _ _ _ (fun e => S.ne e.symm)]; exact S.hF
  · have := S.hB; simpa [World.setCell] using this

/-- What a call of `keep` leads to. -/
def KeepPost (B A F : Nat) (n a0 to : Int) (ls : List Let) (w : World) (e : Ending) (w' : World) : Prop :=
  e = .returned (.tuple #[]) ∧ ∃ lv', FlowSt B A F n w' (a0 + ((to - a0).toNat : Int)) lv' (ls ++ keepL a0 (to - a0).toNat) ∧ Frm (FlowP B A F) w w'
def KeepRel (B A F : Nat) (n a0 to : Int) (ls : List Let) (w wr : World) : Prop :=
  ∃ (j : Nat) (lv' : Value), j ≤ (to - a0).toNat ∧ FlowSt B A F n wr (a0 + (j : Int)) lv' (ls ++ keepL a0 j) ∧ Frm (FlowP B A F) w wr
theorem FlowSt.cellA {B A F n w a lv ls} (S : FlowSt B A F n w a lv ls) : cellInt (w.cell? ⟨A, 0, none⟩) = a := by rw [cell_of_block S.hA 0]; rfl

set_option maxHeartbeats 2000000 in
set_option maxRecDepth 100000 in
theorem keep_any (B A F : Nat) (n a0 to : Int) (lv : Value) (ls : List Let) (w : World) (ha : 0 ≤ a0 ∧ a0 ≤ 100000) (hto : to ≤ 100000) (hl : ls.length ≤ 100000) (S : FlowSt B A F n w a0 lv ls) :
    Calls Try.prog 79 #[.int .i64 to, .pointer (some ⟨A, 0, none⟩), .pointer (some ⟨F, 0, none⟩)] w (KeepPost B A F n a0 to ls w) := by
  obtain ⟨i0, hi, hz0, hz1, hz2⟩ := info_parts infoLet
  go_enter Try.func79, Try.ntmps79
  go_wp2_with fail
  go_loopw [] (fun wr => KeepRel B A F n a0 to ls w wr) (fun wr => (to - cellInt (wr.cell? ⟨A, 0, none⟩)).toNat)
  case atStart => exact ⟨0, lv, Nat.zero_le _, by simpa [keepL] using S, Frm.refl _ _⟩
  case round =>
    obtain ⟨j, lv', hj, T, hf⟩ := hrel
    have cA := cell_of_block T.hA 0
    have fA := free_of_block T.hA 0
    have cF := cell_of_block T.hF 1
    have fF := free_of_block T.hF 1
    have hm := Lib.hid T.cellA
    simp only [List.getElem?_toArray, List.getElem?_cons_zero, List.getElem?_cons_succ] at cA cF
    obtain ⟨L, hL⟩ : ∃ L, L = ls ++ keepL a0 j := ⟨_, rfl⟩
    have hlen : L.length ≤ 300000 := by rw [hL]; simp [keepL_len]; omega
    rw [← hL] at T
    have HL := Lib.hid hL
    clear hL
    by_cases hlt : a0 + (j : Int) < to
    · go_wp2_with (at_builtin; refine wpList_append_own _ rfl _ _ 83 /-t:[]hgref2.letter-/ rfl B 88 /-t:hedgelayer/hgref2.letter-/ i0 (.agg #[.int .i64 0, .int .u8 0]) 2 16 Try.underlying83 /-t:[]hgref2.letter-/ hi hz0 hz1 hz2 rfl (by decide) _ _ _ rfl (T.own.alloc _) ⟨wr.heap.size, 0, none⟩ 1 1 [.int .i64 (a0 + (j : Int)), .int .u8 0] rfl rfl (cells_new _ _ _) (fun x hx => by simp at hx; rcases hx with rfl | rfl <;> rfl) (by unfold maxLen; omega) (by omega) (by have := T.hB; simp; omega) ?_; intro v' w1 hown' hgrow _; obtain ⟨av, cv, rfl⟩ := ownsRow_slice hown'; have M := T.mid _ hgrow; have cF1 := cell_of_block M.2 1; have fF1 := free_of_block M.2 1; have cA1 := cell_of_block M.1 0; have fA1 := free_of_block M.1 0; simp only [List.getElem?_toArray, List.getElem?_cons_zero, List.getElem?_cons_succ] at cA1 cF1; have R := T.push _ (x := (a0 + (j : Int), 0)) rfl hown' hgrow; clear hown' hgrow M)
      have R2 := R.1.step (a0 + (j : Int) + 1)
      have e1 : a0 + (j : Int) + 1 = a0 + ((j + 1 : Nat) : Int) := by omega
      rw [e1] at R2
      go_roundw
      case rel =>
        refine ⟨j + 1, Value.slice av (L.length + 1) cv, by omega, ?_, hf.trans (R.2.trans ?_)⟩
        · rw [keepL, ← List.append_assoc, ← HL.out]
          rw [e1]
          exact R2.1
        · rw [e1]; exact R2.2
      case measure =>
        rw [hm.out, e1, R2.1.cellA]; omega
    · have e0 : j = (to - a0).toNat := by omega
      have HE := Lib.hid e0
      clear e0
      go_wp2_with fail
      go_end0
      refine ⟨rfl, lv', ?_, hf⟩
      rw [← HE.out, ← HL.out]
      exact T
end Go.Proofs.Ytajigndlcdiinaa
namespace Go.Proofs.Ytajigndlcdiinaa
open Go.RowKit

def lenGo : Int → List Ed → Int
  | n, [] => n
  | n, e :: r => lenGo (n + (e.new.size - e.old)) r

theorem end_any (x y : Int) (s : ByteArray) (w : World) (hx : -1000000000000 ≤ x ∧ x ≤ 1000000000000) (hy : -1000000000000 ≤ y ∧ y ≤ 1000000000000) :
    Calls Try.prog 50 #[.agg #[.int .i64 x, .int .i64 y, .string s]] w fun e w' => e = .returned (.int .i64 (x + y)) ∧ w.alloc (.cells #[.int .i64 x, .int .i64 y, .string s] 47) = w' := by
  go_enter Try.func50, Try.ntmps50
  go_wp2_with fail
  go_ret
  exact ⟨rfl, rfl⟩

theorem growth_any (x y : Int) (s : ByteArray) (w : World) (hy : -1000000000000 ≤ y ∧ y ≤ 1000000000000) (hs : s.size ≤ 1099511627776) :
    Calls Try.prog 78 #[.agg #[.int .i64 x, .int .i64 y, .string s]] w fun e w' => e = .returned (.int .i64 (s.size - y)) ∧ w.alloc (.cells #[.int .i64 x, .int .i64 y, .string s] 47) = w' := by
  go_enter Try.func78, Try.ntmps78
  go_wp2_with fail
  go_ret
  exact ⟨rfl, rfl⟩

set_option maxHeartbeats 4000000 in
theorem length_any (n : Int) (a : Option Addr) (cap : Nat) (es : List Ed) (w : World) (hn : -1000000 ≤ n ∧ n ≤ 1000000) (hl : es.length ≤ 2000) (hE : Eds w a es) (hS : ∀ e, e ∈ es → 0 ≤ e.old ∧ e.old ≤ 20000 ∧ e.new.size ≤ 1099511627776) :
    Calls Try.prog 48 #[.int .i64 n, .slice a es.length cap] w fun e w' => e = .returned (.int .i64 (lenGo n es)) ∧ w.grownBy w' none := by
  have HF : Hid (lenGo n es = lenGo n (es.drop 0)) := Lib.hid rfl
  go_enter Try.func48, Try.ntmps48
  go_wp2_with fail
  go_loopw [0, 9] (fun nv i wr => ∃ (j : Nat) (m : Int), j ≤ es.length ∧ i = .int .i64 j ∧ nv = .int .i64 m ∧ n - 20000 * (j : Int) ≤ m ∧ m ≤ n + 1099511627776 * (j : Int)
    ∧ Hid (lenGo n es = lenGo m (es.drop j)) ∧ w.grownBy wr none) (fun _ i _ => es.length - (intOf i).toNat)
  case atStart => exact ⟨0, n, Nat.zero_le _, rfl, rfl, by omega, by omega, HF, grow_refl _ _⟩
  case round =>
    obtain ⟨j, m, hj, rfl, rfl, l1, l2, HH, hg⟩ := hrel
    by_cases hlt : j < es.length
    · obtain ⟨g, off, rfl, c1, c2, c3⟩ := hE j hlt
      replace c1 := hg.cell c1 (by simp)
      replace c2 := hg.cell c2 (by simp)
      replace c3 := hg.cell c3 (by simp)
      have hs := hS _ (List.getElem_mem hlt)
      have hcons : es.drop j = es[j] :: es.drop (j + 1) := List.drop_eq_getElem_cons hlt
      have HH2 := Lib.hid (HH.out.trans (by rw [hcons, lenGo]))
      clear hcons HH
      generalize es[j] = e at c1 c2 c3 hs HH2
      obtain ⟨ea, eo, en⟩ := e
      simp only at c1 c2 c3 hs HH2
      have hgw : w.grownBy ((wr.alloc (.cells #[.int .i64 ea, .int .i64 eo, .string en] 47)).alloc (.cells #[.int .i64 ea, .int .i64 eo, .string en] 47)) none := grow_trans (grow_trans hg (World.grownBy_alloc _ _ _)) (World.grownBy_alloc _ _ _)
      go_wp2_with (go_at_call 78; refine (growth_any _ _ _ _ (by omega) (by omega)).mono ?_; rintro e' w1 ⟨rfl, rfl⟩)
      go_roundw
      case rel => exact ⟨j + 1, _, by omega, by go_num, rfl, by omega, by omega, HH2, hgw⟩
      case measure => simp [intOf]; omega
    · obtain rfl : j = es.length := by omega
      have HH2 := Lib.hid (HH.out.trans (by rw [List.drop_length, lenGo]))
      clear HH
      go_wp2_with fail
      go_ret
      rw [HH2.out]
      exact ⟨rfl, hg⟩
end Go.Proofs.Ytajigndlcdiinaa
