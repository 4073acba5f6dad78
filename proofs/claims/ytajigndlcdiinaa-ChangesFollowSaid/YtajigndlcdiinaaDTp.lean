/- slices.Clone of edits. -/
import Derived.Test.YtajigndlcdiinaaDTo
namespace Go.Proofs.Ytajigndlcdiinaa
open Go Go.RowKit
attribute [local go_sem] Oper.semAt_some

theorem eds_cells {w : World} {g off : Nat} {es : List Ed} (h : Eds w (some ⟨g, off, none⟩) es) : ∀ j u, (edC es)[j]? = some u → w.cell? ⟨g, off + j, none⟩ = some u := by
  intro j u hj
  have hlen : (edC es).length = es.length * 3 := by rw [edC_cells, edCells_len]
  have hjl : j < es.length * 3 := by
    rcases Nat.lt_or_ge j (es.length * 3) with h1 | h1
    · exact h1
    · rw [List.getElem?_eq_none (by omega)] at hj; cases hj
  have hq : j / 3 < es.length := by omega
  obtain ⟨g', off', e, c1, c2, c3⟩ := h (j / 3) hq
  cases e
  have key : ∀ (l : List Ed) (k : Nat) (hk : k < l.length), (edC l)[k * 3]? = some (.int .i64 l[k].at_) ∧ (edC l)[k * 3 + 1]? = some (.int .i64 l[k].old) ∧ (edC l)[k * 3 + 2]? = some (.string l[k].new) := by
    intro l
    induction l with
    | nil => intro k hk; simp at hk
    | cons x r ih =>
      intro k hk
      have e : edC (x :: r) = .int .i64 x.at_ :: .int .i64 x.old :: .string x.new :: edC r := rfl
      rw [e]
      cases k with
      | zero => simp
      | succ k =>
        have := ih k (by simpa using hk)
        rw [show (k + 1) * 3 = k * 3 + 1 + 1 + 1 by omega, show k * 3 + 1 + 1 + 1 + 1 = (k * 3 + 1) + 1 + 1 + 1 by omega, show k * 3 + 1 + 1 + 1 + 2 = (k * 3 + 2) + 1 + 1 + 1 by omega]
        simpa only [List.getElem?_cons_succ, List.getElem_cons_succ] using this
  obtain ⟨k1, k2, k3⟩ := key es (j / 3) hq
  have h3 : j % 3 < 3 := Nat.mod_lt _ (by omega)
  rcases (show j % 3 = 0 ∨ j % 3 = 1 ∨ j % 3 = 2 by omega) with h4 | h4 | h4
  · have ej : j = j / 3 * 3 := by omega
    rw [ej] at hj ⊢
    rw [k1] at hj
    rw [← hj]; exact c1
  · have ej : j = j / 3 * 3 + 1 := by omega
    rw [ej] at hj ⊢
    rw [k2] at hj
    rw [← hj, ← Nat.add_assoc]; exact c2
  · have ej : j = j / 3 * 3 + 2 := by omega
    rw [ej] at hj ⊢
    rw [k3] at hj
    rw [← hj, ← Nat.add_assoc]; exact c3
theorem edC_one (es : List Ed) : ∀ v ∈ edC es, v.oneCell' = true := by
  intro v hv
  rw [edC_cells] at hv
  obtain ⟨e, -, he⟩ := List.mem_flatMap.1 hv
  simp only [List.mem_cons, List.not_mem_nil, or_false] at he
  rcases he with rfl | rfl | rfl <;> rfl
theorem edC_len (es : List Ed) : (edC es).length = es.length * 3 := by rw [edC_cells, edCells_len]

def ClPost (es : List Ed) (w : World) (e : Ending) (w' : World) : Prop := ∃ v', e = .returned v' ∧ w'.ownsRow w.heap.size 47 3 v' es.length (edC es) ∧ w.grownBy w' none
set_option maxHeartbeats 1000000 in
set_option maxRecDepth 100000 in
theorem clone_any (a : Option Addr) (c : Nat) (es : List Ed) (w : World) (hl : es.length ≤ 100000) (hE : Eds w a es) : Calls Try.prog 61 #[.slice a es.length c] w (ClPost es w) := by
  obtain ⟨i0, hi0, hz0, hz1, hz2⟩ := info_parts infoEdit
  obtain ⟨P, hP⟩ : ∃ P, ClPost es w = P := ⟨_, rfl⟩
  rw [hP]
  have HP := Lib.hid hP
  clear hP
  cases a with
  | none =>
    have h0 : es = [] := by
      cases es with
      | nil => rfl
      | cons x r => obtain ⟨g, off, e, -⟩ := hE 0 (by simp); cases e
    subst h0
    clear hE
    have HF := Lib.hid (show P (.returned (.slice none 0 0)) w by rw [← HP.out]; exact ⟨_, rfl, World.ownsRow_nil _ _ _ _, grow_self w⟩)
    have heq : ∀ w, (binOp .eql 28 (.slice none 0 c) (.slice none 0 0)).run Try.prog w = .ok (.bool true) w := fun w => Lib.run_eql_slice_nil w 28 47 none 0 c 0 0 rfl
    go_enter Try.func61, Try.ntmps61
    go_wp2_with fail
    all_goals first | exact HF.out | (go_ret; exact HF.out)
  | some ad =>
    have HC := Lib.hid (show ∀ j u, (edC es)[j]? = some u → w.cell? (ad.add j) = some u from fun j u hj => by
      have hjl : j < es.length * 3 := by
        rcases Nat.lt_or_ge j (es.length * 3) with h1 | h1
        · exact h1
        · rw [List.getElem?_eq_none (by rw [edC_len]; omega)] at hj; cases hj
      obtain ⟨g, off, e, -⟩ := hE 0 (by omega)
      obtain rfl := Option.some.inj e
      rw [Addr.add_lit]
      exact eds_cells hE j u hj)
    clear hE
    have HO := Lib.hid (show (w.alloc (.cells #[] 47)).ownsRow w.heap.size 47 3 (.slice (some ⟨w.heap.size, 0, none⟩) 0 0) 0 [] from ⟨rfl, .inr ⟨w.heap.size, 0, #[], rfl, Nat.le_refl _, heap_alloc_new w _, Nat.le_refl _, by unfold maxLen; omega, rfl, rfl⟩⟩)
    have HC2 := Lib.hid (show ∀ j u, (edC es)[j]? = some u → (w.alloc (.cells #[] 47)).cell? (ad.add j) = some u from fun j u hj => (World.grownBy_alloc w (.cells #[] 47) none).cell (HC.out j u hj) (by simp))
    have hel := edC_len es
    have HFIN := Lib.hid (show ∀ v' w', w'.ownsRow w.heap.size 47 3 v' es.length (edC es) → (w.alloc (.cells #[] 47)).grownBy w' (some w.heap.size) → P (.returned v') w' from fun v' w' h1 h2 => by
      rw [← HP.out]
      refine ⟨v', rfl, h1, ⟨h2.os, h2.tape, h2.output, Nat.le_trans (World.grownBy_alloc w (.cells #[] 47) none).size h2.size, fun k hk _ => ?_⟩⟩
      have hk1 : k ≠ w.heap.size := by omega
      rw [h2.block k (Nat.lt_of_lt_of_le hk (World.grownBy_alloc w (.cells #[] 47) none).size) (by simpa using hk1)]
      exact heap_alloc_old w _ hk)
    have heq : ∀ w, (binOp .eql 28 (.slice (some ad) es.length c) (.slice none 0 0)).run Try.prog w = .ok (.bool false) w := fun w => Lib.run_eql_slice_nil w 28 47 (some ad) es.length c 0 0 rfl
    go_enter Try.func61, Try.ntmps61
    go_wp2_with (at_builtin; refine wpList_append_own _ rfl _ _ _ rfl w.heap.size 47 i0 _ 3 32 rfl hi0 hz0 hz1 hz2 rfl (by omega) _ 0 [] rfl HO.out ad es.length c (edC es) rfl hel HC2.out (edC_one es) (by unfold maxLen; omega) (by omega) (World.grownBy_alloc w (.cells #[] 47) none).size ?_; intro v' w1 own1 g1 _; rw [Nat.zero_add, List.nil_append] at own1; obtain ⟨ra, rc, rfl⟩ := ownsRow_slice own1; have OWN1 := Lib.hid own1; clear own1)
    all_goals first | exact HFIN.out _ _ OWN1.out g1 | (go_ret; exact HFIN.out _ _ OWN1.out g1)
end Go.Proofs.Ytajigndlcdiinaa
