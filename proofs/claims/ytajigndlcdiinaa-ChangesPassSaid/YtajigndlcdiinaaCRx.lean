/- Package edit's reference: mixed. -/
import Derived.Test.YtajigndlcdiinaaCRw
namespace Go.Proofs.Ytajigndlcdiinaa
open Go.RowKit

theorem Rg.perm {w0 W : World} {base : Nat} {lv va vb : Value} {ls : List Let} {ma mb : List Bool} {bk bk' : List (Nat × Array Value × TypeId)} (R : Rg w0 base lv va vb ls ma mb bk W) (h : bk.Perm bk') : Rg w0 base lv va vb ls ma mb bk' W :=
  ⟨R.rl, R.ra, R.rb, R.dj, fun b hb => R.bs b (h.mem_iff.2 hb), (h.map _).nodup_iff.1 R.nd, R.gr, R.hb, R.hs⟩

/-- A letter, and who put it in. -/
abbrev Lt3 := Let × Bool × Bool
def nwE (p : Int) (e : Ed) : List Let := if e.at_ = p then newL e.new e.new.size else []
def nwL (es : List Ed) (p : Int) : List Let := es.flatMap (nwE p)
def kpL (A B : List Ed) (n p : Int) : List Lt3 := if p < n ∧ gnL A p = false ∧ gnL B p = false then [((p, 0), false, false)] else []
def tgA (l : List Let) : List Lt3 := l.map (·, true, false)
def tgB (l : List Let) : List Lt3 := l.map (·, false, true)
def mxAt (A B : List Ed) (n p : Int) : List Lt3 := tgA (nwL A p) ++ tgB (nwL B p) ++ kpL A B n p
def mxP (A B : List Ed) (n : Int) : Nat → List Lt3
  | 0 => []
  | j + 1 => mxP A B n j ++ mxAt A B n j
theorem nwL_take (es : List Ed) (p : Int) (i : Nat) (h : i < es.length) : nwL (es.take (i + 1)) p = nwL (es.take i) p ++ nwE p es[i] := by
  unfold nwL
  rw [List.take_succ_eq_append_getElem h, List.flatMap_append]
  simp
theorem nwL_take_le (es : List Ed) (p : Int) (i : Nat) (h : i < es.length) : (nwL (es.take i) p).length + (nwE p es[i]).length ≤ (nwL es p).length := by
  have e := nwL_take es p i h
  have : nwL es p = nwL (es.take (i + 1)) p ++ nwL (es.drop (i + 1)) p := by
    unfold nwL; rw [← List.flatMap_append, List.take_append_drop]
  rw [this, e]; simp
theorem mxP_mono (A B : List Ed) (n : Int) : ∀ (k j : Nat), j ≤ k → (mxP A B n j).length ≤ (mxP A B n k).length
  | 0, j, h => by obtain rfl : j = 0 := by omega
                  exact Nat.le_refl _
  | k + 1, j, h => by
    rcases Nat.lt_or_ge k j with h' | h'
    · obtain rfl : j = k + 1 := by omega
      exact Nat.le_refl _
    · have := mxP_mono A B n k j h'
      rw [mxP, List.length_append]; omega

/-- mixed's memory: letters and marks so far. -/
def Mx (w0 : World) (n : Int) (T : List Lt3) (bs : List (Nat × Array Value × TypeId)) (w : World) : Prop :=
  AddPost w0 (w0.heap.size + 3) w0.heap.size (w0.heap.size + 1) (w0.heap.size + 1 + 1) n (T.map (·.1)) (T.map (·.2.1)) (T.map (·.2.2)) bs w
theorem Mx.drew {w0 : World} {n : Int} {T : List Lt3} {bs : List (Nat × Array Value × TypeId)} {w : World} (M : Mx w0 n T bs w) : Mx w0 n T bs w.drew := by
  obtain ⟨lv, va, vb, R⟩ := M; exact ⟨lv, va, vb, R.drew⟩
theorem Mx.gr {w0 : World} {n : Int} {T : List Lt3} {bs : List (Nat × Array Value × TypeId)} {w : World} (M : Mx w0 n T bs w) : w0.grownBy w none := by
  obtain ⟨lv, va, vb, R⟩ := M; exact R.gr
theorem Mx.grow {w0 : World} {n : Int} {T : List Lt3} {bs : List (Nat × Array Value × TypeId)} {w w' : World} (M : Mx w0 n T bs w) (g : w.grownBy w' none) : Mx w0 n T bs w' := by
  obtain ⟨lv, va, vb, R⟩ := M
  exact ⟨lv, va, vb, own_apart R.rl g (by simp), own_apart R.ra g (by simp), own_apart R.rb g (by simp), R.dj, fun b hb => ⟨(g.block _ (lt_of_block (R.bs b hb).1) (by simp)).trans (R.bs b hb).1, (R.bs b hb).2⟩, R.nd, grownBy_trans R.gr g, R.hb, Nat.le_trans R.hs g.size⟩
theorem Mx.box {w0 : World} {n : Int} {T : List Lt3} {w : World} (M : Mx w0 n T [] w) (x : Array Value) : Mx w0 n T [(w.heap.size, x, 47)] (w.alloc (.cells x 47)) := by
  obtain ⟨lv, va, vb, R⟩ := M
  exact ⟨lv, va, vb, (R.alloc1 x 47).perm (List.perm_append_comm (l₁ := [_]))⟩
theorem Mx.nobox {w0 : World} {n : Int} {T : List Lt3} {bs : List (Nat × Array Value × TypeId)} {w : World} (M : Mx w0 n T bs w) : Mx w0 n T [] w := by
  obtain ⟨lv, va, vb, R⟩ := M
  exact ⟨lv, va, vb, R.sub ((((List.nil_sublist _).cons_cons _).cons_cons _).cons_cons _)⟩
theorem Mx.cell {w0 : World} {n : Int} {T : List Lt3} {E : Nat} {x : Array Value} {w : World} (M : Mx w0 n T [(E, x, 47)] w) (i : Nat) : w.cell? ⟨E, i, none⟩ = x[i]? := by
  obtain ⟨lv, va, vb, R⟩ := M
  exact R.cell (X := E) (xs := x) (t := 47) (by simp) i
theorem Mx.add {w0 : World} {n : Int} {T : List Lt3} {bs : List (Nat × Array Value × TypeId)} {w : World} (M : Mx w0 n T bs w) (hT : T.length ≤ 1000000) (x1 : Int) (x2 : UInt8) (a b : Bool) :
    Calls Try.prog 89 #[.agg #[.int .i64 x1, .int .u8 x2.toNat], .bool a, .bool b, .pointer (some ⟨w0.heap.size, 0, none⟩), .pointer (some ⟨w0.heap.size + 1, 0, none⟩), .pointer (some ⟨w0.heap.size + 1 + 1, 0, none⟩)] w
      (fun e w' => e = .returned (.tuple #[]) ∧ Mx w0 n (T ++ [((x1, x2), a, b)]) bs w') := by
  have := add_any w0 _ _ _ _ n _ _ _ bs (x1, x2) a b w M (by simpa using hT) (by simpa using hT) (by simpa using hT)
  refine this.mono ?_
  rintro e w' ⟨rfl, h⟩
  exact ⟨rfl, by simpa [Mx] using h⟩

theorem eds_grown {w w' : World} {a : Option Addr} {es : List Ed} (h : Eds w a es) (g : w.grownBy w' none) : Eds w' a es := fun j hj => by
  obtain ⟨b, off, e, c1, c2, c3⟩ := h j hj
  exact ⟨b, off, e, g.cell c1 (by simp), g.cell c2 (by simp), g.cell c3 (by simp)⟩
theorem bnds {A : List Ed} (h : ∀ e ∈ A, (0 ≤ e.at_ ∧ e.at_ ≤ 20000) ∧ (0 ≤ e.old ∧ e.old ≤ 20000) ∧ e.new.size ≤ 40000) : ∀ e ∈ A, (-1000000 ≤ e.at_ ∧ e.at_ ≤ 1000000) ∧ (0 ≤ e.old ∧ e.old ≤ 1000000) := fun e he => by
  obtain ⟨h1, h2, _⟩ := h e he
  exact ⟨⟨by omega, by omega⟩, h2.1, by omega⟩

theorem mx_start (w : World) (n : Int) : Mx w n [] [] (((w.alloc (.cells #[.int .i64 n, .slice none 0 0] 85)).alloc (.cells #[.slice none 0 0] 116)).alloc (.cells #[.slice none 0 0] 116)) := by
  refine ⟨.slice none 0 0, .slice none 0 0, .slice none 0 0, World.ownsRow_nil _ _ _ _, World.ownsRow_nil _ _ _ _, World.ownsRow_nil _ _ _ _, fun r h => by simp [Value.ownBlock] at h, fun b hb => ?_, by simp; omega, grow_alloc (grow_alloc (grow_alloc (grow_self w) _) _) _, by omega, by simp⟩
  simp only [List.mem_cons, List.not_mem_nil, or_false] at hb
  rcases hb with rfl | rfl | rfl
  · exact ⟨(Below.heap_alloc _ _ _ (by simp; try omega)).trans ((Below.heap_alloc _ _ _ (by simp)).trans (heap_alloc_new w _)), by simp, by simp [Value.ownBlock], by simp [Value.ownBlock], by simp [Value.ownBlock]⟩
  · exact ⟨(Below.heap_alloc _ _ _ (by simp)).trans (heap_new_at _ _ _ (by simp)), by simp; try omega, by simp [Value.ownBlock], by simp [Value.ownBlock], by simp [Value.ownBlock]⟩
  · exact ⟨heap_new_at _ _ _ (by simp), by simp; try omega, by simp [Value.ownBlock], by simp [Value.ownBlock], by simp [Value.ownBlock]⟩

section
variable {w : World} {ρ : Operand → Value} {d : Option Tmp} {ty : TypeId} {pos : String} {af : Array Edge}
theorem run_loadF (p : Operand) (b : Nat) (v1 v2 : Value) (hp : ρ p = .pointer (some ⟨b, 0, none⟩)) (hc : w.cell? ⟨b, 0, none⟩ = some v1) (hc2 : w.cell? ⟨b, 1, none⟩ = some v2) :
    (execOp ρ ⟨d, .load 85 p, ty, pos, af, none⟩).run Try.prog w = .ok (.value (.agg #[v1, v2])) w := by
  simp only [execOp]; rw [hp]; go_simp
theorem run_storeF (p q : Operand) (b : Nat) (n : Int) (x : Option Addr) (m c : Nat) (v1 v2 : Value) (hp : ρ p = .pointer (some ⟨b, 0, none⟩)) (hq : ρ q = .agg #[.int .i64 n, .slice x m c]) (hc : w.cell? ⟨b, 0, none⟩ = some v1) (hc2 : w.cell? ⟨b, 1, none⟩ = some v2) (hf : w.frozen? ⟨b, 0, none⟩ = false) (hf2 : w.frozen? ⟨b, 1, none⟩ = false) :
    (execOp ρ ⟨d, .store 85 p q, ty, pos, af, none⟩).run Try.prog w = .ok .skip ((w.setCell ⟨b, 0, none⟩ (.int .i64 n)).setCell ⟨b, 1, none⟩ (.slice x m c)) := by
  simp only [execOp]; rw [hp, hq]; go_simp
end
theorem wpOp_stF {ops : Array Oper} {Q : Exit → Act → World → Prop} {w0 w : World} {base : Nat} {lv va vb : Value} {ls : List Let} {ma mb : List Bool} {bk : List (Nat × Array Value × TypeId)} {a : Act} {K : Act → World → Prop} {i : Nat} {d : Option Tmp} {ty : TypeId} {pos : String} {af : Array Edge} {p q : Operand}
    (hi0 : ops[i]? = some ⟨d, .store 85 p q, ty, pos, af, none⟩) (R : Rg w0 base lv va vb ls ma mb bk w) (j : Nat) {X : Nat} {t' : TypeId} (n : Int) (x : Option Addr) (m c : Nat) (hj : bk[j]? = some (X, #[.int .i64 n, .slice x m c], t')) (hp : a.eval p = .pointer (some ⟨X, 0, none⟩)) (hq : a.eval q = .agg #[.int .i64 n, .slice x m c])
    (h : ∀ w', Rg w0 base lv va vb ls ma mb bk w' → K (a.put d undef) w') : wpOp Try.prog ops Q i K a w := by
  have hm := List.mem_of_getElem? hj
  have R1 := R.store j hj 0 (.int .i64 n)
  have hjl : j < bk.length := by
    rcases Nat.lt_or_ge j bk.length with h' | h'
    · exact h'
    · rw [List.getElem?_eq_none h'] at hj; cases hj
  have e1 : bk.set j (X, (#[.int .i64 n, .slice x m c] : Array Value).setIfInBounds 0 (.int .i64 n), t') = bk := by
    rw [show (#[.int .i64 n, .slice x m c] : Array Value).setIfInBounds 0 (.int .i64 n) = #[.int .i64 n, .slice x m c] from rfl]
    rw [List.getElem?_eq_getElem hjl, Option.some.injEq] at hj
    rw [← hj, List.set_getElem_self]
  rw [e1] at R1
  have R2 := R1.store j hj 1 (.slice x m c)
  have e2 : bk.set j (X, (#[.int .i64 n, .slice x m c] : Array Value).setIfInBounds 1 (.slice x m c), t') = bk := by
    rw [show (#[.int .i64 n, .slice x m c] : Array Value).setIfInBounds 1 (.slice x m c) = #[.int .i64 n, .slice x m c] from rfl]
    rw [List.getElem?_eq_getElem hjl, Option.some.injEq] at hj
    rw [← hj, List.set_getElem_self]
  rw [e2] at R2
  exact wpOp_skipped hi0 rfl (run_storeF p q X n x m c _ _ hp hq (R.cell hm 0) (R.cell hm 1) (R.free hm 0) (R.free hm 1)) (h _ R2)
def FS1 (w0 : World) (n : Int) (lv va vb : Value) (w : World) : Prop := (w.cell? ⟨w0.heap.size, 0, none⟩ = some (.int .i64 n) ∧ w.cell? ⟨w0.heap.size, 1, none⟩ = some lv) ∧ w.cell? ⟨w0.heap.size + 1, 0, none⟩ = some va ∧ w.cell? ⟨w0.heap.size + 1 + 1, 0, none⟩ = some vb
theorem fS1_of {w0 w : World} {base : Nat} {n : Int} {lv va vb l0 a0 b0 : Value} {ls : List Let} {ma mb : List Bool} {bs : List (Nat × Array Value × TypeId)} (R : Rg w0 base lv va vb ls ma mb ((w0.heap.size, #[.int .i64 n, l0], 85) :: (w0.heap.size + 1, #[a0], 116) :: (w0.heap.size + 1 + 1, #[b0], 116) :: bs) w) : FS1 w0 n l0 a0 b0 w :=
  ⟨⟨R.cell (t := 85) (xs := #[.int .i64 n, l0]) (by simp) 0, R.cell (t := 85) (xs := #[.int .i64 n, l0]) (by simp) 1⟩, R.cell (t := 116) (xs := #[a0]) (by simp) 0, R.cell (t := 116) (xs := #[b0]) (by simp) 0⟩

def MxPost (w0 : World) (n : Int) (T : List Lt3) (e : Ending) (w' : World) : Prop :=
  ∃ lv va vb, e = .returned (.tuple #[.agg #[.int .i64 n, lv], va, vb]) ∧ w'.ownsRow (w0.heap.size + 3) 88 2 lv (T.map (·.1)).length (letCells (T.map (·.1))) ∧ w'.ownsRow (w0.heap.size + 3) 4 1 va (T.map (·.2.1)).length (blC (T.map (·.2.1))) ∧ w'.ownsRow (w0.heap.size + 3) 4 1 vb (T.map (·.2.2)).length (blC (T.map (·.2.2))) ∧ w0.grownBy w' none

set_option maxHeartbeats 8000000 in
set_option maxRecDepth 100000 in
theorem mixed_any (nn : Nat) (a b : Option Addr) (ca cb : Nat) (A B : List Ed) (w : World) (hn : nn ≤ 20000) (hlA : A.length ≤ 2000) (hlB : B.length ≤ 2000) (hEA : Eds w a A) (hEB : Eds w b B)
    (hSA : ∀ e ∈ A, (0 ≤ e.at_ ∧ e.at_ ≤ 20000) ∧ (0 ≤ e.old ∧ e.old ≤ 20000) ∧ e.new.size ≤ 40000) (hSB : ∀ e ∈ B, (0 ≤ e.at_ ∧ e.at_ ≤ 20000) ∧ (0 ≤ e.old ∧ e.old ≤ 20000) ∧ e.new.size ≤ 40000)
    (hT : (mxP A B nn (nn + 1)).length ≤ 900000) :
    Calls Try.prog 73 #[.int .i64 nn, .slice a A.length ca, .slice b B.length cb] w (MxPost w nn (mxP A B nn (nn + 1))) := by
  obtain ⟨PP, hPP⟩ : ∃ PP : Ending → World → Prop, MxPost w nn (mxP A B nn (nn + 1)) = PP := ⟨_, rfl⟩
  rw [hPP]
  have HP := Lib.hid hPP
  have HEA := Lib.hid hEA
  have HEB := Lib.hid hEB
  have HSA := Lib.hid hSA
  have HSB := Lib.hid hSB
  have HT := Lib.hid hT
  clear hPP hEA hEB hSA hSB hT
  go_enter Try.func73, Try.ntmps73
  go_wp2_with fail
  go_loopw [11] (fun i wr => ∃ j : Nat, j ≤ nn + 1 ∧ i = .int .i64 j ∧ Mx w nn (mxP A B nn j) [] wr) (fun i _ => nn + 1 - (intOf i).toNat)
  case atStart =>
    exact ⟨0, Nat.zero_le _, rfl, mx_start w nn⟩
  case round =>
    obtain ⟨wo, rfl⟩ : ∃ wo : World, wo = wr := ⟨_, rfl⟩
    obtain ⟨j, hj, rfl, M⟩ := hrel
    by_cases hlt : j ≤ nn
    · have hb1 := mxP_mono A B nn (nn + 1) (j + 1) (by omega)
      rw [mxP, mxAt, List.length_append, List.length_append, List.length_append] at hb1
      have hb0 := HT.out
      have hlA : (mxP A B nn j).length + (nwL A j).length ≤ 900000 := by simp only [tgA, List.length_map] at hb1; omega
      have hlB : (mxP A B nn j ++ tgA (nwL A j)).length + (nwL B j).length ≤ 900000 := by rw [List.length_append]; simp only [tgA, tgB, List.length_map] at hb1 ⊢; omega
      have hlK : (mxP A B nn j ++ tgA (nwL A j) ++ tgB (nwL B j)).length ≤ 900000 := by rw [List.length_append, List.length_append]; simp only [tgA, tgB, List.length_map] at hb1 ⊢; omega
      clear hb1 hb0
      have HJ := Lib.hid (show mxP A B nn (j + 1) = mxP A B nn j ++ tgA (nwL A j) ++ tgB (nwL B j) ++ kpL A B nn j by rw [mxP, mxAt]; simp only [List.append_assoc])
      have HLB := Lib.hid hlB
      have HLK := Lib.hid hlK
      clear hlB hlK
      have HM := Lib.hid M
      clear M
      generalize mxP A B nn j = T0 at HM HJ hlA HLB HLK
      have HLA := Lib.hid hlA
      clear hlA
      go_upto_block 2 with (fail)
      go_cut [] (fun wx => Mx w nn (T0 ++ tgA (nwL A j)) [] wx)
      case first =>
        clear HLB HLK HJ HSB HEB HT
        go_wp2_with fail
        go_loopw [28] (fun i wr => ∃ q : Nat, q ≤ A.length ∧ i = .int .i64 q ∧ Mx w nn (T0 ++ tgA (nwL (A.take q) j)) [] wr) (fun i _ => A.length - (intOf i).toNat)
        case atStart => exact ⟨0, Nat.zero_le _, rfl, by simpa [nwL, tgA] using HM.out⟩
        case round =>
          clear HM
          obtain ⟨wi, rfl⟩ : ∃ wi : World, wi = wr := ⟨_, rfl⟩
          obtain ⟨q, hq, rfl, M⟩ := hrel
          by_cases hql : q < A.length
          · obtain ⟨g, off, rfl, c1, c2, c3⟩ := HEA.out q hql
            have hg := M.gr
            replace c1 := hg.cell c1 (by simp)
            replace c2 := hg.cell c2 (by simp)
            replace c3 := hg.cell c3 (by simp)
            have hs := HSA.out _ (List.getElem_mem hql)
            have hle := nwL_take_le A j q hql
            have HW := Lib.hid (nwL_take A j q hql)
            have hl0 := HLA.out
            generalize A[q] = e at c1 c2 c3 hs hle HW
            obtain ⟨ea, eo, en⟩ := e
            simp only at c1 c2 c3 hs
            obtain ⟨T1, hT1⟩ : ∃ T1, T1 = T0 ++ tgA (nwL (A.take q) j) := ⟨_, rfl⟩
            have hlen : T1.length + (nwE j ⟨ea, eo, en⟩).length ≤ 900000 := by rw [hT1, List.length_append]; simp only [tgA, List.length_map]; omega
            rw [← hT1] at M
            have HT1 := Lib.hid hT1
            have HLN := Lib.hid hlen
            have hen : en.size ≤ 40000 := hs.2.2
            clear hT1 hlen hle hl0 hs hg
            have HM := Lib.hid (M.box #[.int .i64 ea, .int .i64 eo, .string en])
            clear M
            go_upto_block 4 with (fail)
            generalize wi.alloc (.cells #[.int .i64 ea, .int .i64 eo, .string en] 47) = w1 at HM ⊢
            generalize wi.heap.size = E at HM ⊢
            clear c1 c2 c3
            by_cases hea : ea = (j : Int)
            · have d1 : (ea == (j : Int)) = true := by simpa using hea
              have HN := Lib.hid (show nwE j ⟨ea, eo, en⟩ = newL en en.size from if_pos hea)
              clear hea
              go_wp2_with fail
              go_loopw [14] (fun i wr => ∃ k : Nat, k ≤ en.size ∧ i = .int .i64 k ∧ Mx w nn (T1 ++ tgA (newL en k)) [(E, #[.int .i64 ea, .int .i64 eo, .string en], 47)] wr) (fun i _ => en.size - (intOf i).toNat)
              case atStart => exact ⟨0, Nat.zero_le _, rfl, by simpa [newL, tgA] using HM.out⟩
              case round =>
                clear HM
                obtain ⟨k, hk, rfl, M⟩ := hrel
                have cE0 := M.cell 0
                have cE2 := M.cell 2
                simp only [List.getElem?_toArray, List.getElem?_cons_zero, List.getElem?_cons_succ] at cE0 cE2
                by_cases hkl : k < en.size
                · have b0 : (0 : Int) ≤ (k : Int) := Int.natCast_nonneg _
                  have b1 : (k : Int) < (en.size : Int) := by omega
                  have hl1 : (T1 ++ tgA (newL en k)).length ≤ 1000000 := by
                    have := HLN.out
                    rw [List.length_append]; simp only [tgA, List.length_map]
                    have : (newL en k).length ≤ 40000 := by simp [newL]; omega
                    omega
                  have HC := Lib.hid (M.add hl1 (-1) en[k] true false)
                  have HK := Lib.hid (show T1 ++ tgA (newL en (k + 1)) = T1 ++ tgA (newL en k) ++ [((-1, en[k]), true, false)] by rw [newL_succ _ _ hkl]; simp [tgA])
                  clear M hl1
                  go_wp2_with fail
                  refine HC.out.mono ?_
                  rintro e2 w2 ⟨rfl, M2⟩
                  rw [← HK.out] at M2
                  have HM2 := Lib.hid M2
                  clear M2 HC HK
                  go_wp2_with fail
                  go_roundw
                  case rel => exact ⟨k + 1, by omega, by go_num, HM2.out⟩
                  case measure => simp [intOf]; omega
                · obtain rfl : k = en.size := by omega
                  have HM2 := Lib.hid M.nobox
                  clear M
                  go_wp2_with fail
                  go_roundw
                  case rel => exact ⟨q + 1, by omega, by go_num, by rw [HW.out, HN.out]; simpa [tgA, HT1.out] using HM2.out⟩
                  case measure => simp [intOf]; omega
            · have d1 : (ea == (j : Int)) = false := by simpa using hea
              have HN := Lib.hid (show nwE j ⟨ea, eo, en⟩ = [] from if_neg hea)
              clear hea
              have cE0 := HM.out.cell 0
              simp only [List.getElem?_toArray, List.getElem?_cons_zero] at cE0
              go_wp2_with fail
              go_loopw [14] (fun i wr => i = .int .i64 0 ∧ wr = w1) (fun i _ => 0)
              case atStart => exact ⟨rfl, rfl⟩
              case round =>
                obtain ⟨rfl, rfl⟩ := hrel
                have HM2 := Lib.hid HM.out.nobox
                go_wp2_with fail
                go_roundw
                case rel => exact ⟨q + 1, by omega, by go_num, by rw [HW.out, HN.out]; simpa [tgA, HT1.out] using HM2.out⟩
                case measure => simp [intOf]; omega
          · obtain rfl : q = A.length := by omega
            rw [List.take_length] at M
            have HM2 := Lib.hid M
            clear M
            go_wp2_with fail
            go_meet
            exact HM2.out
      case rest =>
        have HM := Lib.hid hcut
        clear hcut
        generalize T0 ++ tgA (nwL A j) = T2 at HM HJ HLB HLK
        clear HLA
        go_upto_block 6 with (fail)
        go_cut [] (fun wx => Mx w nn (T2 ++ tgB (nwL B j)) [] wx)
        case first =>
          clear HLK HJ HSA HEA HT
          go_wp2_with fail
          go_loopw [55] (fun i wr => ∃ q : Nat, q ≤ B.length ∧ i = .int .i64 q ∧ Mx w nn (T2 ++ tgB (nwL (B.take q) j)) [] wr) (fun i _ => B.length - (intOf i).toNat)
          case atStart => exact ⟨0, Nat.zero_le _, rfl, by simpa [nwL, tgB] using HM.out⟩
          case round =>
            clear HM
            obtain ⟨wi, rfl⟩ : ∃ wi : World, wi = wr := ⟨_, rfl⟩
            obtain ⟨q, hq, rfl, M⟩ := hrel
            by_cases hql : q < B.length
            · obtain ⟨g, off, rfl, c1, c2, c3⟩ := HEB.out q hql
              have hg := M.gr
              replace c1 := hg.cell c1 (by simp)
              replace c2 := hg.cell c2 (by simp)
              replace c3 := hg.cell c3 (by simp)
              have hs := HSB.out _ (List.getElem_mem hql)
              have hle := nwL_take_le B j q hql
              have HW := Lib.hid (nwL_take B j q hql)
              have hl0 := HLB.out
              generalize B[q] = e at c1 c2 c3 hs hle HW
              obtain ⟨ea, eo, en⟩ := e
              simp only at c1 c2 c3 hs
              obtain ⟨T1, hT1⟩ : ∃ T1, T1 = T2 ++ tgB (nwL (B.take q) j) := ⟨_, rfl⟩
              have hlen : T1.length + (nwE j ⟨ea, eo, en⟩).length ≤ 900000 := by rw [hT1, List.length_append]; simp only [tgB, List.length_map]; omega
              rw [← hT1] at M
              have HT1 := Lib.hid hT1
              have HLN := Lib.hid hlen
              have hen : en.size ≤ 40000 := hs.2.2
              clear hT1 hlen hle hl0 hs hg
              have HM := Lib.hid (M.box #[.int .i64 ea, .int .i64 eo, .string en])
              clear M
              go_upto_block 8 with (fail)
              generalize wi.alloc (.cells #[.int .i64 ea, .int .i64 eo, .string en] 47) = w1 at HM ⊢
              generalize wi.heap.size = E at HM ⊢
              clear c1 c2 c3
              by_cases hea : ea = (j : Int)
              · have d1 : (ea == (j : Int)) = true := by simpa using hea
                have HN := Lib.hid (show nwE j ⟨ea, eo, en⟩ = newL en en.size from if_pos hea)
                clear hea
                go_wp2_with fail
                go_loopw [17] (fun i wr => ∃ k : Nat, k ≤ en.size ∧ i = .int .i64 k ∧ Mx w nn (T1 ++ tgB (newL en k)) [(E, #[.int .i64 ea, .int .i64 eo, .string en], 47)] wr) (fun i _ => en.size - (intOf i).toNat)
                case atStart => exact ⟨0, Nat.zero_le _, rfl, by simpa [newL, tgB] using HM.out⟩
                case round =>
                  clear HM
                  obtain ⟨k, hk, rfl, M⟩ := hrel
                  have cE0 := M.cell 0
                  have cE2 := M.cell 2
                  simp only [List.getElem?_toArray, List.getElem?_cons_zero, List.getElem?_cons_succ] at cE0 cE2
                  by_cases hkl : k < en.size
                  · have b0 : (0 : Int) ≤ (k : Int) := Int.natCast_nonneg _
                    have b1 : (k : Int) < (en.size : Int) := by omega
                    have hl1 : (T1 ++ tgB (newL en k)).length ≤ 1000000 := by
                      have := HLN.out
                      rw [List.length_append]; simp only [tgB, List.length_map]
                      have : (newL en k).length ≤ 40000 := by simp [newL]; omega
                      omega
                    have HC := Lib.hid (M.add hl1 (-1) en[k] false true)
                    have HK := Lib.hid (show T1 ++ tgB (newL en (k + 1)) = T1 ++ tgB (newL en k) ++ [((-1, en[k]), false, true)] by rw [newL_succ _ _ hkl]; simp [tgB])
                    clear M hl1
                    go_wp2_with fail
                    refine HC.out.mono ?_
                    rintro e2 w2 ⟨rfl, M2⟩
                    rw [← HK.out] at M2
                    have HM2 := Lib.hid M2
                    clear M2 HC HK
                    go_wp2_with fail
                    go_roundw
                    case rel => exact ⟨k + 1, by omega, by go_num, HM2.out⟩
                    case measure => simp [intOf]; omega
                  · obtain rfl : k = en.size := by omega
                    have HM2 := Lib.hid M.nobox
                    clear M
                    go_wp2_with fail
                    go_roundw
                    case rel => exact ⟨q + 1, by omega, by go_num, by rw [HW.out, HN.out]; simpa [tgB, HT1.out] using HM2.out⟩
                    case measure => simp [intOf]; omega
              · have d1 : (ea == (j : Int)) = false := by simpa using hea
                have HN := Lib.hid (show nwE j ⟨ea, eo, en⟩ = [] from if_neg hea)
                clear hea
                have cE0 := HM.out.cell 0
                simp only [List.getElem?_toArray, List.getElem?_cons_zero] at cE0
                go_wp2_with fail
                go_loopw [17] (fun i wr => i = .int .i64 0 ∧ wr = w1) (fun i _ => 0)
                case atStart => exact ⟨rfl, rfl⟩
                case round =>
                  obtain ⟨rfl, rfl⟩ := hrel
                  have HM2 := Lib.hid HM.out.nobox
                  go_wp2_with fail
                  go_roundw
                  case rel => exact ⟨q + 1, by omega, by go_num, by rw [HW.out, HN.out]; simpa [tgB, HT1.out] using HM2.out⟩
                  case measure => simp [intOf]; omega
            · obtain rfl : q = B.length := by omega
              rw [List.take_length] at M
              have HM2 := Lib.hid M
              clear M
              go_wp2_with fail
              go_meet
              exact HM2.out
        case rest =>
          have HM := Lib.hid hcut
          clear hcut
          generalize T2 ++ tgB (nwL B j) = T3 at HM HJ HLK
          clear HLB
          obtain ⟨wq, rfl⟩ : ∃ wq : World, wq = wc := ⟨_, rfl⟩
          have hg := HM.out.gr
          have eA := eds_grown HEA.out hg
          have HCA := Lib.hid (gone_any a ca A j wq (by omega) eA (bnds HSA.out))
          have HCB := Lib.hid (fun (wy : World) (g : wq.grownBy wy none) => gone_any b cb B j wy (by omega) (eds_grown HEB.out (grownBy_trans hg g)) (bnds HSB.out))
          have HKP := Lib.hid (show kpL A B nn j = if (j : Int) < nn ∧ gnL A j = false ∧ gnL B j = false then [(((j : Int), (0 : UInt8)), false, false)] else [] from rfl)
          clear hg eA
          generalize gnL A j = ga at HCA HKP
          generalize gnL B j = gb at HCB HKP
          by_cases hjn : j < nn
          · have d1 : decide ((j : Int) < (nn : Int)) = true := by simp; omega
            have hji : (j : Int) < (nn : Int) := by omega
            cases ga with
            | true =>
              have HZ := Lib.hid (show mxP A B nn (j + 1) = T3 by rw [HJ.out, HKP.out, if_neg (by simp), List.append_nil])
              clear HKP
              go_wp2_with fail
              refine HCA.out.mono ?_
              rintro e1 w1 ⟨rfl, g1⟩
              have HM2 := Lib.hid (HM.out.grow g1)
              go_wp2_with fail
              go_roundw
              case rel => exact ⟨j + 1, by omega, by go_num, by rw [HZ.out]; exact HM2.out⟩
              case measure => simp [intOf]; omega
            | false =>
              cases gb with
              | true =>
                have HZ := Lib.hid (show mxP A B nn (j + 1) = T3 by rw [HJ.out, HKP.out, if_neg (by simp), List.append_nil])
                clear HKP
                go_wp2_with fail
                refine HCA.out.mono ?_
                rintro e1 w1 ⟨rfl, g1⟩
                go_wp2_with fail
                refine (HCB.out w1 g1).mono ?_
                rintro e2 w2 ⟨rfl, g2⟩
                have HM2 := Lib.hid (HM.out.grow (grownBy_trans g1 g2))
                go_wp2_with fail
                go_roundw
                case rel => exact ⟨j + 1, by omega, by go_num, by rw [HZ.out]; exact HM2.out⟩
                case measure => simp [intOf]; omega
              | false =>
                have HZ := Lib.hid (show mxP A B nn (j + 1) = T3 ++ [(((j : Int), 0), false, false)] by rw [HJ.out, HKP.out, if_pos ⟨hji, rfl, rfl⟩])
                clear HKP
                go_wp2_with fail
                refine HCA.out.mono ?_
                rintro e1 w1 ⟨rfl, g1⟩
                go_wp2_with fail
                refine (HCB.out w1 g1).mono ?_
                rintro e2 w2 ⟨rfl, g2⟩
                have HC := Lib.hid ((HM.out.grow (grownBy_trans g1 g2)).add (by have := HLK.out; omega) (j : Int) 0 false false)
                go_wp2_with fail
                refine HC.out.mono ?_
                rintro e3 w3 ⟨rfl, M3⟩
                have HM2 := Lib.hid M3
                clear M3
                go_wp2_with fail
                go_roundw
                case rel => exact ⟨j + 1, by omega, by go_num, by rw [HZ.out]; exact HM2.out⟩
                case measure => simp [intOf]; omega
          · have d1 : decide ((j : Int) < (nn : Int)) = false := by simp; omega
            have HZ := Lib.hid (show mxP A B nn (j + 1) = T3 by rw [HJ.out, HKP.out, if_neg (by omega), List.append_nil])
            clear HKP
            go_wp2_with fail
            go_roundw
            case rel => exact ⟨j + 1, by omega, by go_num, by rw [HZ.out]; exact HM.out⟩
            case measure => simp [intOf]; omega
    · obtain rfl : j = nn + 1 := by omega
      obtain ⟨lv, va, vb, R⟩ := M
      obtain ⟨al, cl, rfl⟩ := ownsRow_slice R.rl
      obtain ⟨aa, ca2, rfl⟩ := ownsRow_slice R.ra
      obtain ⟨ab, cb2, rfl⟩ := ownsRow_slice R.rb
      have HV := Lib.hid (show ∀ (lv va vb : Value) (wz : World), Rg w (w.heap.size + 3) lv va vb ((mxP A B nn (nn + 1)).map (·.1)) ((mxP A B nn (nn + 1)).map (·.2.1)) ((mxP A B nn (nn + 1)).map (·.2.2)) ((w.heap.size, #[.int .i64 nn, lv], 85) :: (w.heap.size + 1, #[va], 116) :: (w.heap.size + 1 + 1, #[vb], 116) :: []) wz → PP (.returned (.tuple #[.agg #[.int .i64 nn, lv], va, vb])) wz from fun lv va vb wz R => HP.out ▸ ⟨lv, va, vb, rfl, R.rl, R.ra, R.rb, R.gr⟩)
      have HR := Lib.hid R
      clear R HEA HEB HSA HSB HT HP
      generalize hls : ((mxP A B nn (nn + 1)).map (·.1)) = ls at HR HV
      generalize hma : ((mxP A B nn (nn + 1)).map (·.2.1)) = ma at HR HV
      generalize hmb : ((mxP A B nn (nn + 1)).map (·.2.2)) = mb at HR HV
      clear hls hma hmb
      generalize ls.length = nl at HR
      generalize ma.length = na at HR
      generalize mb.length = nb at HR
      go_wp2_with fail
      have R := HR.out.drew
      refine wp_region_K2 (FS1 w nn (.slice al nl cl) (.slice aa na ca2) (.slice ab nb cb2)) (fun _ _ => True) (fun _ _ => true) 6 #[false, false, false, false, false, false] (by kernel_rfl) (by kernel_rfl) (by kernel_rfl) ?_
      refine wpAnyK_take1 (i := 0) (some 101) (v := (.agg #[.int .i64 nn, .slice al nl cl])) rfl rfl (by kernel_rfl) (by kernel_rfl) (by kernel_rfl) (fun _ _ _ h => h) (.inl ⟨by rfl, fun w' hw' => run_loadF _ w.heap.size _ _ rfl hw'.1.1 hw'.1.2⟩) (fS1_of R) ?_
      simp only [Act.put, List.setIfInBounds_toArray, List.set_cons_zero, List.set_cons_succ]
      refine wpAnyK_take1 (i := 1) (some 102) (v := (.slice aa na ca2)) rfl rfl (by kernel_rfl) (by kernel_rfl) (by kernel_rfl) (fun _ _ _ h => h) (.inl ⟨by rfl, fun w' hw' => run_loadS 116 _ ⟨w.heap.size + 1, 0, none⟩ _ (by simp) rfl hw'.2.1⟩) (fS1_of R) ?_
      simp only [Act.put, List.setIfInBounds_toArray, List.set_cons_zero, List.set_cons_succ]
      refine wpAnyK_take1 (i := 2) (some 103) (v := (.slice ab nb cb2)) rfl rfl (by kernel_rfl) (by kernel_rfl) (by kernel_rfl) (fun _ _ _ h => h) (.inl ⟨by rfl, fun w' hw' => run_loadS 116 _ ⟨w.heap.size + 1 + 1, 0, none⟩ _ (by simp) rfl hw'.2.2⟩) (fS1_of R) ?_
      simp only [Act.put, List.setIfInBounds_toArray, List.set_cons_zero, List.set_cons_succ]
      refine wpAnyK_all1 (i := 3) (by kernel_rfl) (wpOp_stF (d := none) rfl R 0 nn al nl cl rfl rfl rfl (fun w1 R1 => ?_))
      refine ⟨⟨fS1_of R1, fun _ => .inl rfl⟩, ?_⟩
      simp only [Act.put, List.setIfInBounds_toArray, List.set_cons_zero, List.set_cons_succ]
      refine wpAnyK_all1 (i := 4) (by kernel_rfl) (wpOp_st (d := none) rfl R1 (by simp) 1 rfl 0 aa na ca2 _ rfl rfl rfl (fun w2 R2 => ?_))
      simp only [List.setIfInBounds_toArray, List.set_cons_zero, List.set_cons_succ] at R2
      refine ⟨⟨fS1_of R2, fun _ => .inl rfl⟩, ?_⟩
      simp only [Act.put, List.setIfInBounds_toArray, List.set_cons_zero, List.set_cons_succ]
      refine wpAnyK_all1 (i := 5) (by kernel_rfl) (wpOp_st (d := none) rfl R2 (by simp) 2 rfl 0 ab nb cb2 _ rfl rfl rfl (fun w3 R3 => ?_))
      simp only [List.setIfInBounds_toArray, List.set_cons_zero, List.set_cons_succ] at R3
      refine ⟨⟨fS1_of R3, fun _ => .inl rfl⟩, ?_⟩
      simp only [Act.put, List.setIfInBounds_toArray, List.set_cons_zero, List.set_cons_succ]
      refine wpAnyK_done (by kernel_rfl) ?_ _
      have HZ := Lib.hid (HV.out _ _ _ _ R3)
      obtain ⟨⟨k0, k1⟩, k2, k3⟩ := fS1_of R3
      clear R R1 R2 R3 HR HV
      go_wp2_with fail
      exact bodyPost_ret (v := .tuple #[.agg #[.int .i64 nn, .slice al nl cl], .slice aa na ca2, .slice ab nb cb2]) (by simp [results, Try.results73, go_sem, k0, k1, k2, k3]) rfl HZ.out
end Go.Proofs.Ytajigndlcdiinaa
