/- Frames: what a piece of code leaves alone. -/
import Derived.Test.YtajigndlcdiinaaS1
namespace Go.Proofs.Ytajigndlcdiinaa
open Go.RowKit

/-- Blocks of which P is true are as they were; there may be new ones. -/
structure Frm (P : Nat → Option Obj → Prop) (w w' : World) : Prop where
  os : w'.os = w.os
  tape : w'.tape = w.tape
  output : w'.output = w.output
  size : w.heap.size ≤ w'.heap.size
  block : ∀ k, k < w.heap.size → P k w.heap[k]? → w'.heap[k]? = w.heap[k]?

theorem Frm.refl (P : Nat → Option Obj → Prop) (w : World) : Frm P w w := ⟨rfl, rfl, rfl, Nat.le_refl _, fun _ _ _ => rfl⟩
theorem Frm.trans {P : Nat → Option Obj → Prop} {a b c : World} (h : Frm P a b) (g : Frm P b c) : Frm P a c :=
  ⟨g.os.trans h.os, g.tape.trans h.tape, g.output.trans h.output, Nat.le_trans h.size g.size, fun k hk hp =>
    have e := h.block k hk hp
    (g.block k (Nat.lt_of_lt_of_le hk h.size) (by rw [e]; exact hp)).trans e⟩
theorem Frm.mono {P Q : Nat → Option Obj → Prop} {a b : World} (h : Frm P a b) (hq : ∀ k, k < a.heap.size → Q k a.heap[k]? → P k a.heap[k]?) : Frm Q a b :=
  ⟨h.os, h.tape, h.output, h.size, fun k hk hp => h.block k hk (hq k hk hp)⟩
theorem Frm.alloc {P : Nat → Option Obj → Prop} {a b : World} (h : Frm P a b) (o : Obj) : Frm P a (b.alloc o) :=
  h.trans ⟨rfl, rfl, rfl, by simp, fun k hk _ => Below.heap_alloc _ _ _ hk⟩
theorem Frm.drew {P : Nat → Option Obj → Prop} {a b : World} (h : Frm P a b) : Frm P a b.drew := ⟨h.os, h.tape, h.output, h.size, h.block⟩
theorem Frm.setCell {P : Nat → Option Obj → Prop} {a b : World} (h : Frm P a b) (p : Addr) (u : Value) (hp : ¬ P p.block b.heap[p.block]?) : Frm P a (b.setCell p u) :=
  h.trans ⟨rfl, rfl, rfl, by simp [World.setCell], fun k _ hk => Below.heap_setCell _ _ _ _ (fun e => hp (by rw [← e]; exact hk))⟩
theorem Frm.grown {P : Nat → Option Obj → Prop} {a b c : World} {row : Option Nat} (h : Frm P a b) (g : b.grownBy c row) (hr : ∀ k, row = some k → ¬ P k b.heap[k]?) : Frm P a c :=
  h.trans ⟨g.os, g.tape, g.output, g.size, fun k hk hp => g.block k hk (fun e => hr k e.symm hp)⟩

theorem heap_setCell_self {w : World} {b : Nat} {cs : Array Value} {t : TypeId} (h : w.heap[b]? = some (.cells cs t (0, 0))) (i : Nat) (u : Value) : (w.setCell ⟨b, i, none⟩ u).heap[b]? = some (.cells (cs.setIfInBounds i u) t (0, 0)) := by
  have hlt := lt_of_block h
  have h' : w.heap[b] = .cells cs t (0, 0) := by simpa [Array.getElem?_eq_getElem hlt] using h
  show (w.heap.modify b _)[b]? = _
  rw [Array.getElem?_eq_getElem (by simpa using hlt), Array.getElem_modify_self, h']
  rfl

theorem cells_new (w : World) (vs : List Value) (t : TypeId) : ∀ j u, vs[j]? = some u → (w.alloc (.cells vs.toArray t)).cell? ((⟨w.heap.size, 0, none⟩ : Addr).add j) = some u := by
  intro j u hj
  have e : ((⟨w.heap.size, 0, none⟩ : Addr).add j) = ⟨w.heap.size, j, none⟩ := by simp [Addr.add]; omega
  rw [e]
  unfold World.cell?
  rw [show (w.alloc (.cells vs.toArray t)).heap[(⟨w.heap.size, j, none⟩ : Addr).block]? = _ from heap_alloc_new w _]
  simpa using hj

/-- The block of a slice that the call owns: of its elements' type. -/
theorem ownsRow_block {w : World} {base : Nat} {e : TypeId} {size : Nat} {v : Value} {n : Nat} {xs : List Value} (h : w.ownsRow base e size v n xs) : ∀ k, v.ownBlock = some k → base ≤ k ∧ ∃ c, w.heap[k]? = some (.cells c e (0, 0)) := by
  intro k hk
  rcases h.2 with ⟨rfl, _⟩ | ⟨g, cap, cur, rfl, hg, hh, _⟩
  · simp [Value.ownBlock] at hk
  · simp [Value.ownBlock] at hk
    subst hk
    exact ⟨hg, cur, hh⟩

theorem cell_of_block {w : World} {b : Nat} {cs : Array Value} {t : TypeId} {fr : Nat × Nat} (h : w.heap[b]? = some (.cells cs t fr)) (i : Nat) : w.cell? ⟨b, i, none⟩ = cs[i]? := by simp [World.cell?, h]
theorem free_of_block {w : World} {b : Nat} {cs : Array Value} {t : TypeId} (h : w.heap[b]? = some (.cells cs t (0, 0))) (i : Nat) : w.frozen? ⟨b, i, none⟩ = false := by simp [World.frozen?, h]

/-- A store into a block of another kind leaves what is owned. -/
theorem ownsRow_setCell_block {w : World} {base : Nat} {e : TypeId} {size : Nat} {v : Value} {n : Nat} {xs : List Value} (h : w.ownsRow base e size v n xs)
    {b : Nat} {cs : Array Value} {t : TypeId} {fr : Nat × Nat} (hb : w.heap[b]? = some (.cells cs t fr)) (ht : t ≠ e) (i : Nat) (u : Value) : (w.setCell ⟨b, i, none⟩ u).ownsRow base e size v n xs := by
  refine ownsRow_setCell_other h (fun hk => ?_) u
  obtain ⟨_, c, hc⟩ := ownsRow_block h _ hk
  have := hb.symm.trans hc
  simp at this
  exact ht this.2.1
/-- What grows the row of a slice leaves blocks of another kind. -/
theorem grown_block {w w' : World} {base : Nat} {e : TypeId} {size : Nat} {v : Value} {n : Nat} {xs : List Value} (h : w.ownsRow base e size v n xs) (g : w.grownBy w' v.ownBlock)
    {b : Nat} {cs : Array Value} {t : TypeId} {fr : Nat × Nat} (hb : w.heap[b]? = some (.cells cs t fr)) (ht : t ≠ e) : w'.heap[b]? = some (.cells cs t fr) := by
  rw [g.block b (lt_of_block hb) (fun hk => ?_)]
  · exact hb
  · obtain ⟨_, c, hc⟩ := ownsRow_block h _ hk.symm
    have := hb.symm.trans hc
    simp at this
    exact ht this.2.1

theorem ownsRow_slice {w : World} {base : Nat} {e : TypeId} {size : Nat} {v : Value} {n : Nat} {xs : List Value} (h : w.ownsRow base e size v n xs) : ∃ a c, v = .slice a n c := by
  rcases h.2 with ⟨rfl, rfl⟩ | ⟨g, cap, cur, rfl, _⟩
  · exact ⟨none, 0, rfl⟩
  · exact ⟨_, _, rfl⟩

theorem heap_new_at (w : World) (o : Obj) (k : Nat) (h : w.heap.size = k) : (w.alloc o).heap[k]? = some o := by subst h; exact heap_alloc_new w o

theorem grow_setCell {w w1 : World} (h : w.grownBy w1 none) (p : Addr) (u : Value) (hp : w.heap.size ≤ p.block) : w.grownBy (w1.setCell p u) none :=
  ⟨h.os, h.tape, h.output, by have := h.size; simpa [World.setCell] using this, fun k hk hn => (Below.heap_setCell _ _ _ _ (by omega)).trans (h.block k hk hn)⟩

/-- What is owned stays so where blocks of its elements' type are left alone. -/
theorem ownsRow_frm {P : Nat → Option Obj → Prop} {w w' : World} (f : Frm P w w') {base : Nat} {e : TypeId} {size : Nat} {v : Value} {n : Nat} {xs : List Value} (h : w.ownsRow base e size v n xs)
    (hp : ∀ k c, base ≤ k → w.heap[k]? = some (.cells c e (0, 0)) → P k (some (.cells c e (0, 0)))) : w'.ownsRow base e size v n xs := by
  obtain ⟨h1, h2⟩ := h
  refine ⟨h1, ?_⟩
  rcases h2 with h2 | ⟨g, cap, cur, hv, hg, hh, r⟩
  · exact Or.inl h2
  · exact Or.inr ⟨g, cap, cur, hv, hg, by rw [f.block g (lt_of_block hh) (by rw [hh]; exact hp g cur hg hh)]; exact hh, r⟩
theorem Frm.of_grown {w w' : World} (g : w.grownBy w' none) (P : Nat → Option Obj → Prop) : Frm P w w' := ⟨g.os, g.tape, g.output, g.size, fun k hk _ => g.block k hk (by simp)⟩
/-- The cells of what is owned. -/
theorem ownsRow_cell {w : World} {base : Nat} {e : TypeId} {size : Nat} {v : Value} {n : Nat} {xs : List Value} (h : w.ownsRow base e size v n xs) (hn : 0 < n) :
    ∃ g cap, v = .slice (some ⟨g, 0, none⟩) n cap ∧ base ≤ g ∧ ∀ j u, xs[j]? = some u → w.cell? ⟨g, j, none⟩ = some u := by
  rcases h.2 with ⟨_, h0⟩ | ⟨g, cap, cur, hv, hg, hh, hnc, hcm, hcs, ht⟩
  · omega
  · refine ⟨g, cap, hv, hg, fun j u hj => ?_⟩
    rw [cell_of_block hh]
    rw [← ht, List.getElem?_take] at hj
    split at hj
    · simpa using hj
    · simp at hj

theorem grow_below {w wr w2 : World} (h : w.grownBy wr none) (b : Below w.heap.size wr w2) : w.grownBy w2 none :=
  ⟨b.os.trans h.os, b.tape.trans h.tape, b.output.trans h.output, Nat.le_trans h.size b.size, fun k hk hn => (b.block k hk).trans (h.block k hk hn)⟩

theorem cells_new2 (w : World) (o : Obj) (vs : List Value) (t : TypeId) : ∀ j u, vs[j]? = some u → ((w.alloc o).alloc (.cells vs.toArray t)).cell? ((⟨w.heap.size + 1, 0, none⟩ : Addr).add j) = some u := by
  intro j u hj
  have := cells_new (w.alloc o) vs t j u hj
  rwa [show (w.alloc o).heap.size = w.heap.size + 1 by simp] at this

theorem cell_grown {w w' : World} {p : Addr} {v : Value} (h : w.cell? p = some v) (g : w.grownBy w' none) : w'.cell? p = some v := g.cell h (by simp)
theorem grow_self (w : World) : w.grownBy w none := ⟨rfl, rfl, rfl, Nat.le_refl _, fun _ _ _ => rfl⟩
theorem grow_alloc {w w' : World} (g : w.grownBy w' none) (o : Obj) : w.grownBy (w'.alloc o) none := grownBy_trans g (World.grownBy_alloc _ _ _)
theorem grow_drew {w w' : World} (g : w.grownBy w' none) : w.grownBy w'.drew none := ⟨g.os, g.tape, g.output, g.size, g.block⟩

theorem grow_frm {P : Nat → Option Obj → Prop} {w wr w1 : World} (h : w.grownBy wr none) (f : Frm P wr w1) (hp : ∀ k o, k < w.heap.size → P k o) : w.grownBy w1 none :=
  ⟨f.os.trans h.os, f.tape.trans h.tape, f.output.trans h.output, Nat.le_trans h.size f.size, fun k hk _ => (f.block k (Nat.lt_of_lt_of_le hk h.size) (hp k _ hk)).trans (h.block k hk (by simp))⟩
theorem ownsRow_base {w : World} {base base' : Nat} {e : TypeId} {size : Nat} {v : Value} {n : Nat} {xs : List Value} (h : w.ownsRow base e size v n xs) (hb : base' ≤ base) : w.ownsRow base' e size v n xs := by
  refine ⟨h.1, ?_⟩
  rcases h.2 with h2 | ⟨g, cap, cur, hv, hg, r⟩
  · exact Or.inl h2
  · exact Or.inr ⟨g, cap, cur, hv, by omega, r⟩

/-- Behind a write to a row that is newer than the call. -/
theorem grow_row {w w1 w2 : World} {row : Option Nat} (h : w.grownBy w1 none) (g : w1.grownBy w2 row) (hr : ∀ k, row = some k → w.heap.size ≤ k) : w.grownBy w2 none :=
  ⟨g.os.trans h.os, g.tape.trans h.tape, g.output.trans h.output, Nat.le_trans h.size g.size, fun k hk hn =>
    (g.block k (Nat.lt_of_lt_of_le hk h.size) (fun e => by have := hr k e.symm; omega)).trans (h.block k hk hn)⟩
/-- A row of one kind behind an append to a row of another kind. -/
theorem append_own {w w' : World} {base base2 : Nat} {e e2 : TypeId} {size size2 : Nat} {v v2 : Value} {n n2 : Nat} {xs ys : List Value} (he : e2 ≠ e) (o : w.ownsRow base e size v n xs) (g : w.grownBy w' v.ownBlock)
    (o2 : w.ownsRow base2 e2 size2 v2 n2 ys) : w'.ownsRow base2 e2 size2 v2 n2 ys := by
  refine ⟨o2.1, ?_⟩
  rcases o2.2 with h | ⟨gg, cap, cur, hv, hg, hh, r⟩
  · exact Or.inl h
  · exact Or.inr ⟨gg, cap, cur, hv, hg, grown_block o g hh he, r⟩
end Go.Proofs.Ytajigndlcdiinaa
