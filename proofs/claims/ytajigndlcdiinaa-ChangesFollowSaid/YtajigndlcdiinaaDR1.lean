/- A range over a function whose iterator keeps its state in cells of types of its own: the law for the caller. -/
import Derived.RangeFuncNested
import Derived.RangeFuncBound
import Derived.RangeFuncCalls
import Derived.RangeFuncLeaves
import Derived.RangeFuncOwn
import Derived.RowKit
namespace Go.Proofs.Ytajigndlcdiinaa
open Go.RowKit

/-- Only cells of the types T turn; there may be new blocks. -/
structure Mv (T : TypeId → Bool) (W W' : World) : Prop where
  size : W.heap.size ≤ W'.heap.size
  same : ∀ (k : Nat) (o : Obj), W.heap[k]? = some o → (∀ cs t fr, o = .cells cs t fr → T t = false) → W'.heap[k]? = some o

/-- The same, of blocks of cells alone. -/
structure Kc (T : TypeId → Bool) (W W' : World) : Prop where
  size : W.heap.size ≤ W'.heap.size
  same : ∀ (k : Nat) (cs : Array Value) (t : TypeId) (fr : Nat × Nat), W.heap[k]? = some (.cells cs t fr) → T t = false → W'.heap[k]? = some (.cells cs t fr)

/-- New blocks; and at most one block that lay is turned: cells of a type in U, or no cells. -/
def Turn (B : Nat) (U : TypeId → Bool) (W W' : World) : Prop := ∃ row, W.grownBy W' row ∧ ∀ r, row = some r → B ≤ r ∧ ∃ o, W.heap[r]? = some o ∧ ∀ cs t fr, o = .cells cs t fr → U t = true
/-- The same, cells alone. -/
def TurnC (B : Nat) (U : TypeId → Bool) (W W' : World) : Prop := ∃ row, W.grownBy W' row ∧ ∀ r, row = some r → B ≤ r ∧ ∃ cs t fr, W.heap[r]? = some (.cells cs t fr) ∧ U t = true

theorem Kc.trans {T : TypeId → Bool} {A B C : World} (h : Kc T A B) (k : Kc T B C) : Kc T A C :=
  ⟨Nat.le_trans h.size k.size, fun i cs t fr hi ht => k.same i cs t fr (h.same i cs t fr hi ht) ht⟩
theorem Mv.kc {T : TypeId → Bool} {A B : World} (h : Mv T A B) : Kc T A B :=
  ⟨h.size, fun i cs t fr hi ht => h.same i _ hi (fun _ _ _ e => by cases e; exact ht)⟩
theorem Kc.put {T : TypeId → Bool} {W : World} {l : Nat} {o : Obj} (o' : Obj) (h : W.heap[l]? = some o) (ho : o.isCells = false) : Kc T W (W.putObj l o') :=
  ⟨by simp, fun i cs t fr hi _ => by
    by_cases e : i = l
    · subst e; rw [h] at hi; cases hi; cases ho
    · exact (World.putObj_heap_other e).trans hi⟩
theorem Turn.put {B : Nat} {U : TypeId → Bool} {W : World} {l : Nat} {o : Obj} (o' : Obj) (hB : B ≤ l) (h : W.heap[l]? = some o) (ho : o.isCells = false) : Turn B U W (W.putObj l o') :=
  ⟨some l, grownBy_putObj' W l o', fun r e => by cases e; exact ⟨hB, o, h, fun _ _ _ e2 => by subst e2; cases ho⟩⟩
theorem Turn.new {B : Nat} {U : TypeId → Bool} {W W' : World} (h : W.grownBy W' none) : Turn B U W W' := ⟨none, h, fun r e => by cases e⟩
theorem TurnC.new {B : Nat} {U : TypeId → Bool} {W W' : World} (h : W.grownBy W' none) : TurnC B U W W' := ⟨none, h, fun r e => by cases e⟩
theorem TurnC.turn {B B' : Nat} {U : TypeId → Bool} {W W' : World} (hB : B' ≤ B) (h : TurnC B U W W') : Turn B' U W W' := by
  obtain ⟨row, g, hr⟩ := h
  exact ⟨row, g, fun r e => by obtain ⟨hb, cs, t, fr, h1, h2⟩ := hr r e; exact ⟨Nat.le_trans hB hb, _, h1, fun _ _ _ e2 => by cases e2; exact h2⟩⟩
/-- What is no block of cells of U lies as it lay. -/
theorem TurnC.other {B : Nat} {U : TypeId → Bool} {W W' : World} (h : TurnC B U W W') {k : Nat} {o : Obj} (hk : W.heap[k]? = some o) (ho : ∀ cs t fr, o = .cells cs t fr → U t = false) : W'.heap[k]? = some o := by
  obtain ⟨row, g, hr⟩ := h
  refine (g.block k (Array.getElem?_eq_some_iff.1 hk).1 ?_).trans hk
  intro e
  obtain ⟨_, cs, t, fr, h1, h2⟩ := hr k e.symm
  rw [hk] at h1
  cases h1
  rw [ho _ _ _ rfl] at h2
  cases h2

/-- What an iterator promises that yields the values xs. -/
def SeqRuns {α : Type} (U T : TypeId → Bool) (n : Nat) (P : Program) (gf : Nat) (lb : Array Value) (encs : α → Array Value) (xs : List α) (w : World) : Prop :=
  ∀ (l : Nat) (J : Nat → World → Prop) (W : World), w.grownBy W none →
    (∀ k A B, J k A → TurnC W.heap.size U A B → J k B) →
    (∀ k x W1, xs[k]? = some x → J k W1 → YieldAt Fence.wide (n - 1) P l (encs x) W1 fun e W' => e = .returned (.bool true) ∧ J (k + 1) W' ∧ Kc T W1 W') →
    J 0 W → CallsIn Fence.wide n P gf (#[.func (.yield l) #[] #[]] ++ lb) W fun e W' => (∃ v, e = .returned v) ∧ J xs.length W'

theorem wp_seq {α : Type} {P : Program} {n : Nat} {g : Operand} {ps : Array Tmp} {assign body : Code} {Q : Exit → Act → World → Prop} {a : Act} {w : World}
    {gf : Nat} {lb : Array Value} (hg : a.eval g = .func (.func gf) #[] lb) (eg : ∀ args w, (callFunc gf args).run P w = .ok (.enter gf args) w)
    {U T : TypeId → Bool} {encs : α → Array Value} (hps : ∀ x, (encs x).size = ps.size) {xs : List α} (hseq : SeqRuns U T (n - 1) P gf lb encs xs w)
    (I : Nat → World → Prop) (Ia : Nat → α → Act → World → Prop) (hI : ∀ k A B, I k A → Turn w.heap.size U A B → I k B) (hIa : ∀ k x a W l o o', Ia k x a W → w.heap.size ≤ l → W.heap[l]? = some o → o.isCells = false → Ia k x a (W.putObj l o')) (h0 : I 0 w)
    (hassign : ∀ (l k : Nat) (x : α) (W : World), xs[k]? = some x → I k W →
      assign.wpIn (Fence.wide.inRound l) (n - 1 - 1) P (Exit.then (fun a₁ W₁ => Mv T W W₁ ∧ Ia k x a₁ W₁) (fun _ _ _ => False)) { tmps := (ps.zip (encs x)).foldl (fun t (p, v) => t.setIfInBounds p v) a.tmps, defers := [] } W)
    (hbody : ∀ (l k : Nat) (x : α) (a₁ : Act) (W : World), xs[k]? = some x → Ia k x a₁ W →
      body.wpIn (Fence.wide.inRound l) (n - 1 - 1) P (fun e _ W' => e = .normal ∧ Mv T W W' ∧ I (k + 1) W') a₁ W)
    (hdone : ∀ (D : Nat) (W : World), w.heap.size ≤ D → I xs.length W → W.heap[D]? = some (.deferred (some [])) → Q .normal { a with defers := { target := .collected D, args := #[] } :: a.defers } W) :
    (Code.rangeFunc g ps assign body).wpIn Fence.wide n P Q a w := by
  refine wpIn_rangeFunc ?_
  intro fn hfn
  rw [show Fence.wide.round = none from rfl]
  obtain ⟨rec, hrec⟩ : ∃ rec : LoopState → Option Code → Loop, rec = fun st pe => { state := st, pending := pe, fn, tmps := a.tmps, params := ps, assign, body, defers := w.heap.size } := ⟨_, rfl⟩
  obtain ⟨W1, hW1⟩ : ∃ W1, (w.alloc (.deferred (some []))).alloc (.loop (rec .ready none)) = W1 := ⟨_, rfl⟩
  have hL1 : W1.heap[w.heap.size + 1]? = some (.loop (rec .ready none)) := by
    rw [← hW1]; have := World.alloc_heap_new (w.alloc (.deferred (some []))) (.loop (rec .ready none)); rwa [World.size_alloc] at this
  have hK1 : W1.heap[w.heap.size]? = some (.deferred (some [])) := by
    rw [← hW1]; exact (Below.heap_alloc _ _ _ (by simp)).trans (World.alloc_heap_new w _)
  have hgr : w.grownBy W1 none := by
    rw [← hW1]
    obtain ⟨e1, e2, e3, e4, e5⟩ := World.grownBy_alloc w (.deferred (some [])) none
    obtain ⟨f1, f2, f3, f4, f5⟩ := World.grownBy_alloc (w.alloc (.deferred (some []))) (.loop (rec .ready none)) none
    exact ⟨f1.trans e1, f2.trans e2, f3.trans e3, Nat.le_trans e4 f4, fun k hk hne => (f5 k (Nat.lt_of_lt_of_le hk e4) hne).trans (e5 k hk hne)⟩
  have hI1 : I 0 W1 := hI _ _ _ h0 (.new hgr)
  refine ⟨w.heap.size + 1, [{ target := .collected w.heap.size, args := #[] }], W1, { target := .fn (.func gf) lb, args := #[.func (.yield (w.heap.size + 1)) #[] #[]] }, W1, gf,
    #[.func (.yield (w.heap.size + 1)) #[] #[]] ++ lb, W1, ?_, ?_, ?_, ?_, (fun h => by cases h), ?_⟩
  · rw [← hW1, hrec]; exact run_enterLoop_outer _ _ _ _ _
  · simp only [resolve, hg]
    simp [go_sem]
  · intro f' hf'; trivial
  · simp [invoke, go_sem, eg]
  · refine (hseq (w.heap.size + 1) (fun k W => I k W ∧ W.heap[w.heap.size + 1]? = some (.loop (rec .ready none)) ∧ W.heap[w.heap.size]? = some (.deferred (some []))) W1 hgr
      (fun k A B h t => ⟨hI k A B h.1 (t.turn hgr.size), t.other h.2.1 (fun _ _ _ e => by cases e), t.other h.2.2 (fun _ _ _ e => by cases e)⟩) ?_ ⟨hI1, hL1, hK1⟩).mono ?_
    · rintro k x W hx ⟨hi, hl, hk⟩
      have hlt : w.heap.size + 1 < W.heap.size := (Array.getElem?_eq_some_iff.1 hl).1
      have hy := run_yield (P := P) (args := encs x) hl (by rw [hrec]; exact hps x)
      rw [hrec] at hy
      refine ⟨fn, _, assign, body, hy, roundIn_of_wpIn hfn (wpIn_mono (hassign _ k x W hx hi) ?_)⟩
      rintro e a1 W2 hp
      cases e with
      | normal =>
        obtain ⟨m1, hia⟩ := hp
        have hl2 := m1.same _ _ hl (fun _ _ _ e => by cases e)
        have hk2 := m1.same _ _ hk (fun _ _ _ e => by cases e)
        have hlt2 : w.heap.size + 1 < W2.heap.size := (Array.getElem?_eq_some_iff.1 hl2).1
        refine ⟨_, run_beginRound hl2 (by rw [hrec]), ?_⟩
        have hl3 : (W2.putObj (w.heap.size + 1) (.loop { rec .ready none with state := .busy })).heap[w.heap.size + 1]? = some (.loop { rec .ready none with state := .busy }) := World.putObj_heap_same hlt2
        have hk3 : (W2.putObj (w.heap.size + 1) (.loop { rec .ready none with state := .busy })).heap[w.heap.size]? = some (.deferred (some [])) := (World.putObj_heap_other (by omega)).trans hk2
        have hia3 := hIa _ _ _ _ _ _ (.loop { rec .ready none with state := .busy }) hia (by omega) hl2 rfl
        refine wpIn_mono (hbody _ k x a1 _ hx hia3) ?_
        rintro e a3 W3 ⟨rfl, m3, hi3⟩
        have hl4 := m3.same _ _ hl3 (fun _ _ _ e => by cases e)
        have hk4 := m3.same _ _ hk3 (fun _ _ _ e => by cases e)
        have hlt4 : w.heap.size + 1 < W3.heap.size := (Array.getElem?_eq_some_iff.1 hl4).1
        have hr := run_endRound (P := P) none hl4
        refine ⟨_, _, hr, rfl, ⟨hI _ _ _ hi3 (Turn.put _ (by omega) hl4 rfl), ?_, (World.putObj_heap_other (by omega)).trans hk4⟩, ?_⟩
        · rw [hrec] at hr ⊢
          exact World.putObj_heap_same hlt4
        · exact ((m1.kc.trans (Kc.put _ hl2 rfl)).trans m3.kc).trans (Kc.put _ hl4 rfl)
      | ret => exact hp.elim
      | exit id => exact hp.elim
      | goto t => exact hp.elim
      | panic ch => exact hp.elim
      | outgrown => exact hp.elim
    · rintro e W2 ⟨⟨v, rfl⟩, hi, hl, hk⟩
      have he := run_endLoop (P := P) hl (by rw [hrec]; simp)
      rw [show (rec .ready none).pending = none by rw [hrec]] at he
      exact ⟨none, _, he, hdone _ _ (Nat.le_refl _) (hI _ _ _ hi (Turn.put _ (by omega) hl rfl)) ((World.putObj_heap_other (by omega)).trans hk)⟩
end Go.Proofs.Ytajigndlcdiinaa
