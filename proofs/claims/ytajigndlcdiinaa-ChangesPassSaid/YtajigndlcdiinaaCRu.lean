/- Package edit's reference: rows of letters and of marks that grow together, with blocks of single values beside them. -/
import Derived.Test.YtajigndlcdiinaaCRt
namespace Go.Proofs.Ytajigndlcdiinaa
open Go.RowKit

theorem infoB4 : (Try.prog.info? 4).map (fun i => (i.zero, i.size, i.bytes)) = some (some (.bool false), 1, 1) := by kernel_rfl
def blC (l : List Bool) : List Value := l.map .bool
theorem blC_len (l : List Bool) : (blC l).length = l.length := by simp [blC]
theorem rowOwn_lt {W : World} {base e size n : Nat} {v : Value} {xs : List Value} (h : W.ownsRow base e size v n xs) : ∀ r, v.ownBlock = some r → r < W.heap.size := fun r hr => by
  obtain ⟨_, c, hc⟩ := ownsRow_block h r hr
  exact lt_of_block hc
theorem own_apart {w w' : World} {base e size n : Nat} {v : Value} {xs : List Value} {r : Option Nat} (h : w.ownsRow base e size v n xs) (g : w.grownBy w' r) (hr : ∀ b, v.ownBlock = some b → r ≠ some b) : w'.ownsRow base e size v n xs := by
  obtain ⟨h1, h3⟩ := h
  refine ⟨h1, ?_⟩
  rcases h3 with h3 | ⟨g', cap, cur, hv, hg, hh, q⟩
  · exact .inl h3
  · exact .inr ⟨g', cap, cur, hv, hg, (g.block g' (lt_of_block hh) (fun e => hr g' (by rw [hv]; rfl) e.symm)).trans hh, q⟩

/-- Three rows (letters, two of marks) and single blocks, all newer than w0. -/
structure Rg (w0 : World) (base : Nat) (lv va vb : Value) (ls : List Let) (ma mb : List Bool) (bk : List (Nat × Array Value × TypeId)) (W : World) : Prop where
  rl : W.ownsRow base 88 2 lv ls.length (letCells ls)
  ra : W.ownsRow base 4 1 va ma.length (blC ma)
  rb : W.ownsRow base 4 1 vb mb.length (blC mb)
  dj : ∀ r, va.ownBlock = some r → vb.ownBlock ≠ some r
  bs : ∀ b ∈ bk, W.heap[b.1]? = some (.cells b.2.1 b.2.2 (0, 0)) ∧ w0.heap.size ≤ b.1 ∧ lv.ownBlock ≠ some b.1 ∧ va.ownBlock ≠ some b.1 ∧ vb.ownBlock ≠ some b.1
  nd : (bk.map (·.1)).Nodup
  gr : w0.grownBy W none
  hb : w0.heap.size ≤ base
  hs : base ≤ W.heap.size

section
variable {w0 W : World} {base : Nat} {lv va vb : Value} {ls : List Let} {ma mb : List Bool} {bk : List (Nat × Array Value × TypeId)}
theorem Rg.drew (R : Rg w0 base lv va vb ls ma mb bk W) : Rg w0 base lv va vb ls ma mb bk W.drew := ⟨R.rl.drew, R.ra.drew, R.rb.drew, R.dj, R.bs, R.nd, grow_drew R.gr, R.hb, R.hs⟩
theorem Rg.alloc (R : Rg w0 base lv va vb ls ma mb bk W) (o : Obj) : Rg w0 base lv va vb ls ma mb bk (W.alloc o) :=
  ⟨R.rl.alloc o, R.ra.alloc o, R.rb.alloc o, R.dj, fun b hb => ⟨(Below.heap_alloc W o _ (lt_of_block (R.bs b hb).1)).trans (R.bs b hb).1, (R.bs b hb).2⟩, R.nd, grow_alloc R.gr o, R.hb, by have := R.hs; simp; omega⟩
theorem Rg.alloc1 (R : Rg w0 base lv va vb ls ma mb bk W) (x : Array Value) (e : TypeId) : Rg w0 base lv va vb ls ma mb ((W.heap.size, x, e) :: bk) (W.alloc (.cells x e)) := by
  have A := R.alloc (.cells x e)
  have no : ∀ {v : Value} {e s n : Nat} {xs : List Value}, W.ownsRow base e s v n xs → v.ownBlock ≠ some W.heap.size := fun h h2 => by have := rowOwn_lt h _ h2; omega
  refine ⟨A.rl, A.ra, A.rb, A.dj, fun b hb => ?_, ?_, A.gr, A.hb, A.hs⟩
  · rcases List.mem_cons.1 hb with rfl | hb
    · exact ⟨heap_alloc_new W _, R.gr.size, no R.rl, no R.ra, no R.rb⟩
    · exact A.bs b hb
  · rw [List.map_cons, List.nodup_cons]
    refine ⟨fun h => ?_, R.nd⟩
    obtain ⟨b, hb, e⟩ := List.mem_map.1 h
    have := lt_of_block (R.bs b hb).1
    simp only at e
    omega
theorem Rg.sub (R : Rg w0 base lv va vb ls ma mb bk W) {bk' : List (Nat × Array Value × TypeId)} (h : List.Sublist bk' bk) : Rg w0 base lv va vb ls ma mb bk' W :=
  ⟨R.rl, R.ra, R.rb, R.dj, fun b hb => R.bs b (h.subset hb), (h.map _).nodup R.nd, R.gr, R.hb, R.hs⟩
theorem Rg.cell (R : Rg w0 base lv va vb ls ma mb bk W) {X : Nat} {xs : Array Value} {t : TypeId} (h : (X, xs, t) ∈ bk) (i : Nat) : W.cell? ⟨X, i, none⟩ = xs[i]? := cell_of_block (R.bs _ h).1 i
theorem Rg.free (R : Rg w0 base lv va vb ls ma mb bk W) {X : Nat} {xs : Array Value} {t : TypeId} (h : (X, xs, t) ∈ bk) (i : Nat) : W.frozen? ⟨X, i, none⟩ = false := free_of_block (R.bs _ h).1 i
theorem nodup_set {bk : List (Nat × Array Value × TypeId)} {j X : Nat} {xs ys : Array Value} {t t' : TypeId} (h : bk[j]? = some (X, xs, t)) : ((bk.set j (X, ys, t')).map (·.1)) = bk.map (·.1) := by
  rw [List.map_set]
  apply List.ext_getElem?
  intro i
  rw [List.getElem?_set]
  split
  · rename_i e
    subst e
    split
    · rw [List.getElem?_map, h]; rfl
    · rename_i hl
      rw [List.getElem?_eq_none (by omega)]
  · rfl
theorem Rg.store (R : Rg w0 base lv va vb ls ma mb bk W) (j : Nat) {X : Nat} {xs : Array Value} {t : TypeId} (h : bk[j]? = some (X, xs, t)) (i : Nat) (v : Value) : Rg w0 base lv va vb ls ma mb (bk.set j (X, xs.setIfInBounds i v, t)) (W.setCell ⟨X, i, none⟩ v) := by
  have hm := List.mem_of_getElem? h
  obtain ⟨b1, b2, b3, b4, b5⟩ := R.bs _ hm
  refine ⟨ownsRow_setCell_other R.rl b3 v, ownsRow_setCell_other R.ra b4 v, ownsRow_setCell_other R.rb b5 v, R.dj, fun b hb => ?_, ?_, grow_setCell R.gr _ _ b2, R.hb, by have := R.hs; simpa [World.setCell] using this⟩
  · obtain ⟨k, hk⟩ := List.getElem?_of_mem hb
    rw [List.getElem?_set] at hk
    split at hk
    · split at hk
      · cases hk
        exact ⟨heap_setCell_self b1 i v, b2, b3, b4, b5⟩
      · cases hk
    · rename_i hne
      have hb' := List.mem_of_getElem? hk
      obtain ⟨c1, c2⟩ := R.bs _ hb'
      refine ⟨(Below.heap_setCell _ _ _ _ (fun e => hne ?_)).trans c1, c2⟩
      simp only at e
      have hjl : j < bk.length := by
        rcases Nat.lt_or_ge j bk.length with h' | h'
        · exact h'
        · rw [List.getElem?_eq_none h'] at h; cases h
      have hkl : k < bk.length := by
        rcases Nat.lt_or_ge k bk.length with h' | h'
        · exact h'
        · rw [List.getElem?_eq_none h'] at hk; cases hk
      have hn := R.nd
      refine (List.getElem_inj (xs := bk.map (·.1)) (h₀ := by simpa using hjl) (h₁ := by simpa using hkl) hn).1 ?_
      rw [List.getElem_map, List.getElem_map]
      rw [List.getElem?_eq_getElem hjl] at h
      rw [List.getElem?_eq_getElem hkl] at hk
      simp only [Option.some.injEq] at h hk
      rw [h, hk]
      exact e.symm
  · rw [nodup_set h]; exact R.nd

theorem Rg.appL (R : Rg w0 base lv va vb ls ma mb bk W) {k : Nat} {x : Let} (hk : (k, #[.int .i64 x.1, .int .u8 x.2.toNat], 88) ∈ bk) (hl : ls.length ≤ 1000000) (ty : TypeId) :
    ∃ a n c w', (Builtin.append_ #[83, 83] ty #[lv, .slice (some ⟨k, 0, none⟩) 1 1]).run Try.prog W = .ok (.slice a n c) w' ∧ Rg w0 base (.slice a n c) va vb (ls ++ [x]) ma mb bk w' := by
  obtain ⟨i, h0, hz0, hs0, hb0⟩ := info_parts infoLet
  have bk0 := (R.bs _ hk).1
  obtain ⟨v', w', h1, h2, h3, _, h4⟩ := run_append_own_at (P := Try.prog) W base 83 ty 88 i (.agg #[.int .i64 0, .int .u8 0]) 2 16 Try.underlying83 h0 hz0 hs0 hb0 rfl (by decide) lv ls.length (letCells ls) R.rl ⟨k, 0, none⟩ 1 1 [.int .i64 x.1, .int .u8 x.2.toNat] rfl
    (fun a u ha => by
      rw [Addr.add_lit, cell_of_block bk0]
      rcases a with _ | _ | a
      · simpa using ha
      · simpa using ha
      · simp at ha)
    (fun u hu => by simp at hu; rcases hu with rfl | rfl <;> rfl) (by unfold maxLen; omega) (by omega) R.hs
  obtain ⟨a, c, rfl⟩ := ownsRow_slice h2
  have hlt : ∀ r, (Value.slice a (ls.length + 1) c).ownBlock = some r → lv.ownBlock = some r ∨ r = W.heap.size := fun r hr => by
    rcases h4 with h4 | h4
    · rw [h4] at hr; exact .inl hr
    · rw [h4] at hr; cases hr; exact .inr rfl
  refine ⟨a, _, c, w', h1, ?_, append_own (by decide) R.rl h3 R.ra, append_own (by decide) R.rl h3 R.rb, R.dj, fun b hb => ?_, R.nd, grow_row R.gr h3 (fun k hk => Nat.le_trans R.hb (ownsRow_block R.rl k hk).1), R.hb, Nat.le_trans R.hs h3.size⟩
  · have e : ls.length + 1 = (ls ++ [x]).length := by simp
    rw [← e, letCells_snoc]
    exact h2
  · obtain ⟨c1, c2, c3, c4, c5⟩ := R.bs b hb
    refine ⟨(h3.block _ (lt_of_block c1) (fun e => c3 e.symm)).trans c1, c2, fun h => ?_, c4, c5⟩
    rcases hlt _ h with h' | h'
    · exact c3 h'
    · have := lt_of_block c1; omega

theorem run_app_bool (R : W.ownsRow base 4 1 va ma.length (blC ma)) {k : Nat} {x : Bool} (bk0 : W.heap[k]? = some (.cells #[.bool x] 4 (0, 0))) (hl : ma.length ≤ 1000000) (ty : TypeId) (hs : base ≤ W.heap.size) :
    ∃ a n c w', (Builtin.append_ #[116, 116] ty #[va, .slice (some ⟨k, 0, none⟩) 1 1]).run Try.prog W = .ok (.slice a n c) w' ∧ w'.ownsRow base 4 1 (.slice a n c) (ma ++ [x]).length (blC (ma ++ [x])) ∧ W.grownBy w' va.ownBlock ∧ (∀ r, (Value.slice a n c).ownBlock = some r → va.ownBlock = some r ∨ r = W.heap.size) := by
  obtain ⟨i, h0, hz0, hs0, hb0⟩ := info_parts infoB4
  obtain ⟨v', w', h1, h2, h3, _, h4⟩ := run_append_own_at (P := Try.prog) W base 116 ty 4 i (.bool false) 1 1 Try.underlying116 h0 hz0 hs0 hb0 rfl (by decide) va ma.length (blC ma) R ⟨k, 0, none⟩ 1 1 [.bool x] rfl
    (fun a u ha => by
      rw [Addr.add_lit, cell_of_block bk0]
      rcases a with _ | a
      · simpa using ha
      · simp at ha)
    (fun u hu => by simp at hu; rcases hu with rfl; rfl) (by unfold maxLen; omega) (by omega) hs
  obtain ⟨a, c, rfl⟩ := ownsRow_slice h2
  refine ⟨a, _, c, w', h1, ?_, h3, fun r hr => ?_⟩
  · have e : ma.length + 1 = (ma ++ [x]).length := by simp
    have e2 : blC (ma ++ [x]) = blC ma ++ [.bool x] := by simp [blC]
    rw [← e, e2]
    exact h2
  · rcases h4 with h4 | h4
    · rw [h4] at hr; exact .inl hr
    · rw [h4] at hr; cases hr; exact .inr rfl
theorem Rg.appA (R : Rg w0 base lv va vb ls ma mb bk W) {k : Nat} {x : Bool} (hk : (k, #[.bool x], 4) ∈ bk) (hl : ma.length ≤ 1000000) (ty : TypeId) :
    ∃ a n c w', (Builtin.append_ #[116, 116] ty #[va, .slice (some ⟨k, 0, none⟩) 1 1]).run Try.prog W = .ok (.slice a n c) w' ∧ Rg w0 base lv (.slice a n c) vb ls (ma ++ [x]) mb bk w' := by
  obtain ⟨a, n, c, w', h1, h2, h3, hlt⟩ := run_app_bool R.ra (R.bs _ hk).1 hl ty R.hs
  refine ⟨a, n, c, w', h1, append_own (by decide) R.ra h3 R.rl, h2, own_apart R.rb h3 (fun b hb e => R.dj b e hb), fun r hr h => ?_, fun b hb => ?_, R.nd, grow_row R.gr h3 (fun k hk => Nat.le_trans R.hb (ownsRow_block R.ra k hk).1), R.hb, Nat.le_trans R.hs h3.size⟩
  · rcases hlt r hr with h' | h'
    · exact R.dj r h' h
    · have := rowOwn_lt R.rb r h; omega
  · obtain ⟨c1, c2, c3, c4, c5⟩ := R.bs b hb
    refine ⟨(h3.block _ (lt_of_block c1) (fun e => c4 e.symm)).trans c1, c2, c3, fun h => ?_, c5⟩
    rcases hlt _ h with h' | h'
    · exact c4 h'
    · have := lt_of_block c1; omega
theorem Rg.appB (R : Rg w0 base lv va vb ls ma mb bk W) {k : Nat} {x : Bool} (hk : (k, #[.bool x], 4) ∈ bk) (hl : mb.length ≤ 1000000) (ty : TypeId) :
    ∃ a n c w', (Builtin.append_ #[116, 116] ty #[vb, .slice (some ⟨k, 0, none⟩) 1 1]).run Try.prog W = .ok (.slice a n c) w' ∧ Rg w0 base lv va (.slice a n c) ls ma (mb ++ [x]) bk w' := by
  obtain ⟨a, n, c, w', h1, h2, h3, hlt⟩ := run_app_bool R.rb (R.bs _ hk).1 hl ty R.hs
  refine ⟨a, n, c, w', h1, append_own (by decide) R.rb h3 R.rl, own_apart R.ra h3 (fun b hb e => R.dj b hb e), h2, fun r hr h => ?_, fun b hb => ?_, R.nd, grow_row R.gr h3 (fun k hk => Nat.le_trans R.hb (ownsRow_block R.rb k hk).1), R.hb, Nat.le_trans R.hs h3.size⟩
  · rcases hlt r h with h' | h'
    · exact R.dj r hr h'
    · have := rowOwn_lt R.ra r hr; omega
  · obtain ⟨c1, c2, c3, c4, c5⟩ := R.bs b hb
    refine ⟨(h3.block _ (lt_of_block c1) (fun e => c5 e.symm)).trans c1, c2, c3, c4, fun h => ?_⟩
    rcases hlt _ h with h' | h'
    · exact c5 h'
    · have := lt_of_block c1; omega
end
end Go.Proofs.Ytajigndlcdiinaa
