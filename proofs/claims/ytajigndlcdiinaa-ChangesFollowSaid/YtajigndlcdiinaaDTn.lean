/- slices.Replace at edits, the values in a block of their own. -/
import Derived.Test.YtajigndlcdiinaaDTm
namespace Go.Proofs.Ytajigndlcdiinaa
open Go Go.RowKit
attribute [local go_sem] Oper.semAt_some

/-- append where there is room: nothing else turns. -/
theorem run_append_spliceK {P : Program} (w : World) (t ty e : TypeId) (i : TypeInfo) (k : Nat) (hk : 0 < k) (ht : P.underlying t = some (.slice e)) (hi : P.info? e = some i) (hsz : i.size = k)
    (g sLen sCap : Nat) (cur : List Value) (hg : w.heap[g]? = some (.cells cur.toArray e (0, 0))) (va : Option Addr) (m c : Nat) (Y : List Value) (hY : Y.length = m * k)
    (hpos : 0 < Y.length → ∃ ad, va = some ad ∧ ∀ j u, Y[j]? = some u → w.cell? (ad.add j) = some u) (h1 : ∀ u ∈ Y, u.oneCell' = true) (hroom : sLen + m ≤ sCap) (hfit : sLen * k + Y.length ≤ cur.length)
    (B : Nat) (w0 : World) (hb : Below B w0 w) (hBg : B ≤ g) :
    ∃ w', (Builtin.append_ #[t, t] ty #[.slice (some ⟨g, 0, none⟩) sLen sCap, .slice va m c]).run P w = .ok (.slice (some ⟨g, 0, none⟩) (sLen + m) sCap) w' ∧ w'.heap[g]? = some (.cells (splice cur (sLen * k) Y).toArray e (0, 0)) ∧ Below B w0 w' ∧ (∀ b, b ≠ g → w'.heap[b]? = w.heap[b]?) ∧ w'.heap.size = w.heap.size := by
  by_cases h0 : Y.length = 0
  · obtain rfl : Y = [] := List.eq_nil_of_length_eq_zero h0
    have hm : m = 0 := by
      rcases Nat.eq_zero_or_pos m with h | h
      · exact h
      · have := Nat.mul_pos h hk
        rw [List.length_nil] at hY; omega
    subst hm
    refine ⟨w, ?_, ?_, hb, fun _ _ => rfl, rfl⟩
    · have hl : ∀ (x : Addr), (loadCells x 0).run P w = .ok #[] w := fun x => by simpa using run_loadCells_list (P := P) w x [] (by simp)
      have hr : sLen ≤ sCap := by omega
      cases va <;> simp [Builtin.append_, run_underlying ht, sizeOf, typeInfo, hi, Builtin.lenOf, Builtin.firstCells, storeCells, hr, hl]
    · simpa [splice] using hg
  · obtain ⟨ad, rfl, hsrc⟩ := hpos (by omega)
    subst hsz
    have hrun := run_append_room (P := P) w t ty e i ht hi g sLen sCap cur.toArray hg ad m c Y hY hsrc h1 hroom (by simpa using hfit)
    refine ⟨_, hrun, ?_, below_setRow hb hBg _, fun b hb => setRow_other w g b _ hb, by simp [World.setRow]⟩
    rw [setRow_heap w g _ _ e _ hg]
    simp [splice]
theorem splice_get_ge (L cs : List Value) (off k : Nat) (h : off + cs.length ≤ k) (ho : off ≤ L.length) : (splice L off cs)[k]? = L[k]? := by
  unfold splice
  rw [List.getElem?_append_right (by rw [List.length_take]; omega), List.getElem?_append_right (by rw [List.length_take]; omega), List.getElem?_drop]
  congr 1
  rw [List.length_take]; omega
theorem splice_take (L cs : List Value) (off : Nat) (ho : off ≤ L.length) : (splice L off cs).take off = L.take off := by
  unfold splice
  rw [List.take_left' (by rw [List.length_take]; omega)]
theorem splice_take2 (L cs : List Value) (off : Nat) (ho : off ≤ L.length) : (splice L off cs).take (off + cs.length) = L.take off ++ cs := by
  unfold splice
  rw [← List.append_assoc, List.take_left' (by rw [List.length_append, List.length_take]; omega)]
theorem splice_in2 (C Y D : List Value) (i m k : Nat) (hf : i + m ≤ C.length) (hY : Y.length = m) (hk : D.length = k) : (splice (splice C (i + m) D) i Y).take (i + m + k) = C.take i ++ Y ++ D := by
  obtain ⟨E, hE⟩ : ∃ E, splice C (i + m) D = E := ⟨_, rfl⟩
  have e1 : E.take i = C.take i := by
    rw [← hE]
    unfold splice
    rw [List.take_append_of_le_length (by rw [List.length_take]; omega), List.take_take]
    congr 1; omega
  have e2 : E.drop (i + m) = D ++ C.drop (i + m + D.length) := by
    rw [← hE]
    unfold splice
    rw [List.drop_left' (by rw [List.length_take]; omega)]
  rw [hE]
  unfold splice
  rw [hY, e1, e2]
  rw [show C.take i ++ (Y ++ (D ++ C.drop (i + m + D.length))) = (C.take i ++ Y ++ D) ++ C.drop (i + m + D.length) by simp only [List.append_assoc]]
  rw [List.take_left' (by simp only [List.length_append, List.length_take]; omega)]

def zE : Value := .agg #[.int .i64 0, .int .i64 0, .string ⟨#[]⟩]
theorem zE_cells (n : Nat) : (Builtin.zeroCells zE.cells n).toList.length = n * 3 ∧ ∀ v ∈ (Builtin.zeroCells zE.cells n).toList, v.oneCell' = true := by
  refine ⟨by rw [Array.length_toList, size_zeroCells]; rfl, ?_⟩
  intro v hv
  unfold Builtin.zeroCells at hv
  rw [Array.toList_map] at hv
  obtain ⟨i, -, rfl⟩ := List.mem_map.1 hv
  have h3 : i % 3 < 3 := Nat.mod_lt _ (by omega)
  show (zE.cells[i % 3]!).oneCell' = true
  generalize i % 3 = j at h3
  match j, h3 with
  | 0, _ => rfl
  | 1, _ => rfl
  | 2, _ => rfl
theorem zero_edit : ∀ w, (zeroValue 47).run Try.prog w = .ok zE w := by
  obtain ⟨i0, hi0, hz0, hz1, hz2⟩ := info_parts infoEdit
  intro w
  simp [zeroValue, typeInfo, hi0, hz0, zE]
end Go.Proofs.Ytajigndlcdiinaa
