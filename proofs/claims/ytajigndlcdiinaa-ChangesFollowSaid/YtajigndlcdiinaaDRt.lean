/- A region that draws its order, loads fields and stores into the same fields at its end: a load may be taken first where those that write its cell wait for it (as in package lex). -/
import Derived.Test.YtajigndlcdiinaaDF2
import Derived.Maps.AppendAt
import Derived.OrdersHeld
import Derived.WideMake
namespace Go.Proofs.Ytajigndlcdiinaa
open Go.RowKit

section
variable {P : Program} {ops : Array Oper} {Q : Exit → Act → World → Prop} {md : Region.Mode} {S1 : World → Prop} {S2 : Nat → World → Prop} {T : Nat → Nat → Bool}

/-- Whatever order is picked: behind each operation S1 holds, and S2, but behind those of T. -/
def wpAnyK (P : Program) (md : Region.Mode) (ops : Array Oper) (Q : Exit → Act → World → Prop) (S1 : World → Prop) (S2 : Nat → World → Prop) (T : Nat → Nat → Bool) : Nat → Array Bool → Act → World → Prop
  | 0, listed, a, w => Region.ready md ops listed = [] ∧ Q .normal a w
  | fuel + 1, listed, a, w =>
    (Region.ready md ops listed = [] → Q .normal a w) ∧
    ∀ i ∈ Region.ready md ops listed, wpOp P ops Q i (fun a' w' => (S1 w' ∧ (∀ m, T m i = true ∨ (S2 m w → S2 m w'))) ∧ wpAnyK P md ops Q S1 S2 T fuel (listed.setIfInBounds i true) a' w') a w
theorem wpAny_of_K : ∀ (fuel : Nat) (listed : Array Bool) (a : Act) (w : World), wpAnyK P md ops Q S1 S2 T fuel listed a w → wpAny P md ops Q fuel listed a w
  | 0, _, _, _, h => h
  | fuel + 1, _, _, _, h => ⟨h.1, fun i hi => wpOp_mono (fun a' w' h' => wpAny_of_K fuel _ a' w' h'.2) (h.2 i hi)⟩

/-- j waits for i. -/
def waits (md : Region.Mode) (ops : Array Oper) (j i : Nat) : Bool := (ops[j]?.map fun o => o.after.any fun e => Region.binds md e && e.on == i).getD false
theorem waits_spec {i j : Nat} {o : Oper} (ho : ops[j]? = some o) (h : ∀ e ∈ o.after, Region.binds md e = true → e.on ≠ i) : waits md ops j i = false := by
  unfold waits
  rw [ho]
  simp only [Option.map_some, Option.getD_some]
  rw [Bool.eq_false_iff]
  intro hc
  rw [Array.any_eq_true'] at hc
  obtain ⟨e, he, hb⟩ := hc
  simp only [Bool.and_eq_true, beq_iff_eq] at hb
  exact h e he hb.1 hb.2

theorem wpAnyK_first {S : World → Prop} {i : Nat} {oi : Oper} {v : Value} (hi : ops[i]? = some oi) (hsel : ∀ (j : Nat) (o : Oper) cs b, ops[j]? = some o → o.op ≠ .select cs b)
    (hQ : ∀ c a w, Q (.panic c) (a.put oi.dst v) w → Q (.panic c) a w) (hS : ∀ j w w', waits md ops j i = false → S w → (S1 w' ∧ (∀ m, T m j = true ∨ (S2 m w → S2 m w'))) → S w') (hS1 : ∀ w, S w → S1 w) :
    ∀ (fuel : Nat) (listed : Array Bool) (a : Act) (w : World),
      (∀ j oj, ops[j]? = some oj → j ≠ i → listed.getD j true = false → (∀ e ∈ oj.after, Region.binds md e = true → e.on ≠ i) → oi.apart ops oj = true) →
      i ∈ Region.ready md ops listed → YieldsIf P ops S oi v a → S w →
      wpAnyK P md ops Q S1 S2 T fuel (listed.setIfInBounds i true) (a.put oi.dst v) w → wpAnyK P md ops Q S1 S2 T (fuel + 1) listed a w := by
  intro fuel
  induction fuel with
  | zero =>
    intro listed a w _ hr hy hSw H
    refine ⟨fun h => (by rw [h] at hr; cases hr), fun j hj => ?_⟩
    by_cases hji : j = i
    · subst hji; exact hy.wpOp hi hSw ⟨⟨hS1 w hSw, fun _ => .inr id⟩, H⟩
    · have := ready_mono hj hji
      rw [H.1] at this
      cases this
  | succ fuel ih =>
    intro listed a w hfree hr hy hSw H
    refine ⟨fun h => (by rw [h] at hr; cases hr), fun j hj => ?_⟩
    by_cases hji : j = i
    · subst hji; exact hy.wpOp hi hSw ⟨⟨hS1 w hSw, fun _ => .inr id⟩, H⟩
    · have h1 := H.2 j (ready_mono hj hji)
      obtain ⟨hjun, oj, hoj, hall⟩ := mem_ready.1 hj
      have hnot : ∀ e ∈ oj.after, Region.binds md e = true → e.on ≠ i := fun e he hb heq => by
        have h1 := hall e he hb
        have h0 := (mem_ready.1 hr).1
        rw [heq] at h1
        rcases Nat.lt_or_ge i listed.size with h' | h'
        · simp [h'] at h0 h1; rw [h0] at h1; cases h1
        · simp [Array.getElem?_eq_none h'] at h1
      have hwt := waits_spec hoj hnot
      have h2 := wpOp_putIf hoj (hfree j oj hoj hji hjun hnot) (fun cs b => hsel i oi cs b hi) (fun cs b => hsel j oj cs b hoj) hQ hy h1
      have hfree' : ∀ k ok, ops[k]? = some ok → k ≠ i → (listed.setIfInBounds j true).getD k true = false →
          (∀ e ∈ ok.after, Region.binds md e = true → e.on ≠ i) → oi.apart ops ok = true := fun k ok hk hki hun hno => by
        refine hfree k ok hk hki ?_ hno
        by_cases hjk : j = k
        · subst hjk; exact hjun
        · rw [getD_set_ne true hjk] at hun; exact hun
      refine wpOp_mono (fun a' w' h3 => ⟨h3.2.1, ih (listed.setIfInBounds j true) a' w' hfree' (ready_mono hr (Ne.symm hji)) h3.1 (hS j w w' hwt hSw h3.2.1) ?_⟩) h2
      rw [Array.setIfInBounds_comm _ _ hji]
      exact h3.2.2

/-- Take number i first: it yields v wherever S1 holds. -/
theorem wpAnyK_take1 {i : Nat} (dd : Option Tmp) {oi : Oper} {v : Value} {fuel : Nat} {listed : Array Bool} {a : Act} {w : World} (hi : ops[i]? = some oi) (hd : oi.dst = dd)
    (hs : Region.noSelect ops = true) (hf : Region.free md ops listed i = true) (hr : (Region.ready md ops listed).contains i = true)
    (hQ : ∀ c a w, Q (.panic c) (a.put oi.dst v) w → Q (.panic c) a w) (hy : YieldsIf P ops S1 oi v a) (hS : S1 w)
    (h : wpAnyK P md ops Q S1 S2 T fuel (listed.setIfInBounds i true) (a.put dd v) w) : wpAnyK P md ops Q S1 S2 T (fuel + 1) listed a w := by
  subst hd
  exact wpAnyK_first (S := S1) hi (Region.noSelect_spec hs) hQ (fun _ _ _ _ _ h => h.1) (fun _ h => h) fuel listed a w (Region.free_spec hi hf) (by simpa using hr) hy hS h
/-- .. wherever S1 and number m of S2 hold: all of its T wait for it. -/
theorem wpAnyK_take2 (m : Nat) {i : Nat} (dd : Option Tmp) {oi : Oper} {v : Value} {fuel : Nat} {listed : Array Bool} {a : Act} {w : World} (hi : ops[i]? = some oi) (hd : oi.dst = dd)
    (hs : Region.noSelect ops = true) (hf : Region.free md ops listed i = true) (hr : (Region.ready md ops listed).contains i = true)
    (hQ : ∀ c a w, Q (.panic c) (a.put oi.dst v) w → Q (.panic c) a w) (hT : ∀ j, T m j = true → waits md ops j i = true) (hy : YieldsIf P ops (fun w => S1 w ∧ S2 m w) oi v a) (hS : S1 w ∧ S2 m w)
    (h : wpAnyK P md ops Q S1 S2 T fuel (listed.setIfInBounds i true) (a.put dd v) w) : wpAnyK P md ops Q S1 S2 T (fuel + 1) listed a w := by
  subst hd
  exact wpAnyK_first (S := fun w => S1 w ∧ S2 m w) hi (Region.noSelect_spec hs) hQ (fun j w w' hw h0 h => ⟨h.1, by
    rcases h.2 m with h1 | h1
    · rw [hT j h1] at hw; cases hw
    · exact h1 h0.2⟩) (fun _ h => h.1) fuel listed a w (Region.free_spec hi hf) (by simpa using hr) hy hS h
theorem wpAnyK_all {rs : List Nat} {fuel : Nat} {listed : Array Bool} {a : Act} {w : World} (hr : Region.ready md ops listed = rs) (hne : rs ≠ [])
    (h : ∀ i ∈ rs, wpOp P ops Q i (fun a' w' => (S1 w' ∧ (∀ m, T m i = true ∨ (S2 m w → S2 m w'))) ∧ wpAnyK P md ops Q S1 S2 T fuel (listed.setIfInBounds i true) a' w') a w) : wpAnyK P md ops Q S1 S2 T (fuel + 1) listed a w :=
  ⟨fun h0 => absurd (hr ▸ h0) hne, hr ▸ h⟩
theorem wpAnyK_done {listed : Array Bool} {a : Act} {w : World} (hr : Region.ready md ops listed = []) (h : Q .normal a w) : ∀ fuel, wpAnyK P md ops Q S1 S2 T fuel listed a w
  | 0 => ⟨hr, h⟩
  | _ + 1 => ⟨fun _ => h, by rw [hr]; simp⟩
theorem wp_region_K {id : Nat} {a : Act} {w : World} (S1 : World → Prop) (S2 : Nat → World → Prop) (T : Nat → Nat → Bool) (hm : P.follows .mixedOrders = true)
    (h : wpAnyK P .any ops Q S1 S2 T ops.size (Array.replicate ops.size false) a w.drew) : (Code.region id ops true).wp P Q a w :=
  wp_region_any hm (wpAny_of_K _ _ _ _ h)
theorem wp_region_K2 {id : Nat} {a : Act} {w : World} (S1 : World → Prop) (S2 : Nat → World → Prop) (T : Nat → Nat → Bool) (n : Nat) (listed : Array Bool) (hm : P.follows .mixedOrders = true) (hn : ops.size = n) (hl : Array.replicate n false = listed)
    (h : wpAnyK P .any ops Q S1 S2 T n listed a w.drew) : (Code.region id ops true).wp P Q a w := by
  subst hl; subst hn
  exact wp_region_K S1 S2 T hm h
/-- An operation that runs to a value. -/
theorem wpOp_ran {i : Nat} {o : Oper} {v : Value} {a : Act} {w w' : World} {K : Act → World → Prop} (hi : ops[i]? = some o) (hg : o.guard = none) (hrun : (execOp a.eval o).run P w = .ok (.value v) w') (h : K (a.put o.dst v) w') : wpOp P ops Q i K a w := by
  unfold wpOp
  rw [hi]
  have hw : Region.wanted o (yielded ops a.tmps) = true := by simp [Region.wanted, hg]
  simp only [hw, if_true]
  refine .inl ?_
  unfold Oper.wp
  rw [hrun]
  exact h
theorem wpOp_ran2 {i : Nat} (dd : Option Tmp) {o : Oper} {v : Value} {a : Act} {w w' : World} {K : Act → World → Prop} (hi : ops[i]? = some o) (hd : o.dst = dd) (hg : o.guard = none) (hrun : (execOp a.eval o).run P w = .ok (.value v) w') (h : K (a.put dd v) w') : wpOp P ops Q i K a w := by
  subst hd
  exact wpOp_ran hi hg hrun h
/-- .. that leaves nothing. -/
theorem wpOp_skipped {i : Nat} {o : Oper} {a : Act} {w w' : World} {K : Act → World → Prop} (hi : ops[i]? = some o) (hg : o.guard = none) (hrun : (execOp a.eval o).run P w = .ok .skip w') (h : K (a.put o.dst undef) w') : wpOp P ops Q i K a w := by
  unfold wpOp
  rw [hi]
  have hw : Region.wanted o (yielded ops a.tmps) = true := by simp [Region.wanted, hg]
  simp only [hw, if_true]
  refine .inl ?_
  unfold Oper.wp
  rw [hrun]
  exact h
end

section
variable {ops : Array Oper} {Q : Exit → Act → World → Prop}
variable {S1 : World → Prop} {S2 : Nat → World → Prop} {T : Nat → Nat → Bool} {P : Program} {md : Region.Mode} {fuel : Nat} {listed : Array Bool} {a : Act} {w : World}
theorem wpAnyK_all1 {i : Nat} (hr : Region.ready md ops listed = [i])
    (h : wpOp P ops Q i (fun a' w' => (S1 w' ∧ (∀ m, T m i = true ∨ (S2 m w → S2 m w'))) ∧ wpAnyK P md ops Q S1 S2 T fuel (listed.setIfInBounds i true) a' w') a w) : wpAnyK P md ops Q S1 S2 T (fuel + 1) listed a w :=
  wpAnyK_all hr (by simp) (fun x hx => by simp only [List.mem_cons, List.not_mem_nil, or_false] at hx; subst hx; exact h)
theorem wpAnyK_all2 {i j : Nat} (hr : Region.ready md ops listed = [i, j])
    (h : wpOp P ops Q i (fun a' w' => (S1 w' ∧ (∀ m, T m i = true ∨ (S2 m w → S2 m w'))) ∧ wpAnyK P md ops Q S1 S2 T fuel (listed.setIfInBounds i true) a' w') a w)
    (h2 : wpOp P ops Q j (fun a' w' => (S1 w' ∧ (∀ m, T m j = true ∨ (S2 m w → S2 m w'))) ∧ wpAnyK P md ops Q S1 S2 T fuel (listed.setIfInBounds j true) a' w') a w) : wpAnyK P md ops Q S1 S2 T (fuel + 1) listed a w :=
  wpAnyK_all hr (by simp) (fun x hx => by
    simp only [List.mem_cons, List.not_mem_nil, or_false] at hx
    rcases hx with rfl | rfl
    · exact h
    · exact h2)
theorem wpAnyK_all3 {i j k : Nat} (hr : Region.ready md ops listed = [i, j, k])
    (h : wpOp P ops Q i (fun a' w' => (S1 w' ∧ (∀ m, T m i = true ∨ (S2 m w → S2 m w'))) ∧ wpAnyK P md ops Q S1 S2 T fuel (listed.setIfInBounds i true) a' w') a w)
    (h2 : wpOp P ops Q j (fun a' w' => (S1 w' ∧ (∀ m, T m j = true ∨ (S2 m w → S2 m w'))) ∧ wpAnyK P md ops Q S1 S2 T fuel (listed.setIfInBounds j true) a' w') a w)
    (h3 : wpOp P ops Q k (fun a' w' => (S1 w' ∧ (∀ m, T m k = true ∨ (S2 m w → S2 m w'))) ∧ wpAnyK P md ops Q S1 S2 T fuel (listed.setIfInBounds k true) a' w') a w) : wpAnyK P md ops Q S1 S2 T (fuel + 1) listed a w :=
  wpAnyK_all hr (by simp) (fun x hx => by
    simp only [List.mem_cons, List.not_mem_nil, or_false] at hx
    rcases hx with rfl | rfl | rfl
    · exact h
    · exact h2
    · exact h3)
end

section
variable {w : World} {ρ : Operand → Value} {d : Option Tmp} {ty : TypeId} {pos : String} {af : Array Edge}
theorem run_loadS (t : TypeId) (p : Operand) (ad : Addr) (v : Value) (ht : t = 83 ∨ t = 116) (hp : ρ p = .pointer (some ad)) (hc : w.cell? ad = some v) :
    (execOp ρ ⟨d, .load t p, ty, pos, af, none⟩).run Try.prog w = .ok (.value v) w := by
  rcases ht with rfl | rfl <;> (simp only [execOp]; rw [hp]; go_simp)
theorem run_loadL (p : Operand) (b : Nat) (v1 v2 : Value) (hp : ρ p = .pointer (some ⟨b, 0, none⟩)) (hc : w.cell? ⟨b, 0, none⟩ = some v1) (hc2 : w.cell? ⟨b, 1, none⟩ = some v2) :
    (execOp ρ ⟨d, .load 88 p, ty, pos, af, none⟩).run Try.prog w = .ok (.value (.agg #[v1, v2])) w := by
  simp only [execOp]; rw [hp]; go_simp
theorem run_moveR (p : Operand) : (execOp ρ ⟨d, .move p, ty, pos, af, none⟩).run Try.prog w = .ok (.value (ρ p)) w := by
  simp only [execOp]; go_simp
theorem run_field85 (p : Operand) (X k : Nat) (hk : k < 2) (hp : ρ p = .pointer (some ⟨X, 0, none⟩)) : (execOp ρ ⟨d, .fieldAddr 85 p k, ty, pos, af, none⟩).run Try.prog w = .ok (.value (.pointer (some ⟨X, k, none⟩))) w := by
  have h : k = 0 ∨ k = 1 := by omega
  rcases h with rfl | rfl <;> (simp only [execOp]; rw [hp]; go_simp)
theorem run_buildLet (p : Operand) (x1 : Int) (x2 : UInt8) (hp : ρ p = .agg #[.int .i64 x1, .int .u8 x2.toNat]) :
    (execOp ρ ⟨d, .buildSlice 83 1 #[(0, p)], ty, pos, af, none⟩).run Try.prog w = .ok (.value (.slice (some ⟨w.heap.size, 0, none⟩) 1 1)) (w.alloc (.cells #[.int .i64 x1, .int .u8 x2.toNat] 88)) := by
  simp only [execOp]; go_simp
theorem run_buildBool (p : Operand) (n : Bool) (hp : ρ p = .bool n) :
    (execOp ρ ⟨d, .buildSlice 116 1 #[(0, p)], ty, pos, af, none⟩).run Try.prog w = .ok (.value (.slice (some ⟨w.heap.size, 0, none⟩) 1 1)) (w.alloc (.cells #[.bool n] 4)) := by
  simp only [execOp]; go_simp
theorem run_storeR (t : TypeId) (p q : Operand) (ad : Addr) (x : Option Addr) (n c : Nat) (v : Value) (ht : t = 83 ∨ t = 116) (hp : ρ p = .pointer (some ad)) (hq : ρ q = .slice x n c) (hc : w.cell? ad = some v) (hf : w.frozen? ad = false) :
    (execOp ρ ⟨d, .store t p q, ty, pos, af, none⟩).run Try.prog w = .ok .skip (w.setCell ad (.slice x n c)) := by
  rcases ht with rfl | rfl <;> (simp only [execOp]; rw [hp, hq]; go_simp)
end
end Go.Proofs.Ytajigndlcdiinaa
