/- Package edit's reference: mixed's closure add (by genRv.py). -/
import Derived.Test.YtajigndlcdiinaaCRu
import Derived.Deep.CutBlock
import Derived.Deep.DeepCutAuto
namespace Go.Proofs.Ytajigndlcdiinaa
open Go.RowKit

section
variable {ops : Array Oper} {Q : Exit → Act → World → Prop} {w0 w : World} {base : Nat} {lv va vb : Value} {ls : List Let} {ma mb : List Bool} {bk : List (Nat × Array Value × TypeId)} {a : Act} {K : Act → World → Prop} {i : Nat} {d : Option Tmp} {ty : TypeId} {pos : String} {af : Array Edge} {p q : Operand}
theorem wpOp_bL (hi0 : ops[i]? = some ⟨d, .buildSlice 83 1 #[(0, p)], ty, pos, af, none⟩) (R : Rg w0 base lv va vb ls ma mb bk w) (x : Let) (hp : a.eval p = .agg #[.int .i64 x.1, .int .u8 x.2.toNat])
    (h : ∀ k w', Rg w0 base lv va vb ls ma mb ((k, #[.int .i64 x.1, .int .u8 x.2.toNat], 88) :: bk) w' → K (a.put d (.slice (some ⟨k, 0, none⟩) 1 1)) w') : wpOp Try.prog ops Q i K a w :=
  wpOp_ran hi0 rfl (run_buildLet p x.1 x.2 hp) (h _ _ (R.alloc1 _ _))
theorem wpOp_bB (hi0 : ops[i]? = some ⟨d, .buildSlice 116 1 #[(0, p)], ty, pos, af, none⟩) (R : Rg w0 base lv va vb ls ma mb bk w) (x : Bool) (hp : a.eval p = .bool x)
    (h : ∀ k w', Rg w0 base lv va vb ls ma mb ((k, #[.bool x], 4) :: bk) w' → K (a.put d (.slice (some ⟨k, 0, none⟩) 1 1)) w') : wpOp Try.prog ops Q i K a w :=
  wpOp_ran hi0 rfl (run_buildBool p x hp) (h _ _ (R.alloc1 _ _))
theorem wpOp_aL (hi0 : ops[i]? = some ⟨d, .call { callee := .builtin .append, args := #[p, q], argTypes := #[83, 83] }, ty, pos, af, none⟩) (R : Rg w0 base lv va vb ls ma mb bk w) (k : Nat) (x : Let) (hk : (k, #[.int .i64 x.1, .int .u8 x.2.toNat], 88) ∈ bk) (hl : ls.length ≤ 1000000)
    (hp : a.eval p = lv) (hq : a.eval q = .slice (some ⟨k, 0, none⟩) 1 1)
    (h : ∀ av n c w', Rg w0 base (.slice av n c) va vb (ls ++ [x]) ma mb bk w' → K (a.put d (.slice av n c)) w') : wpOp Try.prog ops Q i K a w := by
  obtain ⟨av, n, c, w', h1, R'⟩ := R.appL hk hl ty
  refine wpOp_ran hi0 rfl ?_ (h av n c w' R')
  unfold execOp
  simp only [resolve, invoke, builtin, Sem.run_bind, Sem.run_pure, Result.andThen_ok, List.map_toArray, List.map_cons, List.map_nil, hp, hq, h1]
theorem wpOp_aA (hi0 : ops[i]? = some ⟨d, .call { callee := .builtin .append, args := #[p, q], argTypes := #[116, 116] }, ty, pos, af, none⟩) (R : Rg w0 base lv va vb ls ma mb bk w) (k : Nat) (x : Bool) (hk : (k, #[.bool x], 4) ∈ bk) (hl : ma.length ≤ 1000000)
    (hp : a.eval p = va) (hq : a.eval q = .slice (some ⟨k, 0, none⟩) 1 1)
    (h : ∀ av n c w', Rg w0 base lv (.slice av n c) vb ls (ma ++ [x]) mb bk w' → K (a.put d (.slice av n c)) w') : wpOp Try.prog ops Q i K a w := by
  obtain ⟨av, n, c, w', h1, R'⟩ := R.appA hk hl ty
  refine wpOp_ran hi0 rfl ?_ (h av n c w' R')
  unfold execOp
  simp only [resolve, invoke, builtin, Sem.run_bind, Sem.run_pure, Result.andThen_ok, List.map_toArray, List.map_cons, List.map_nil, hp, hq, h1]
theorem wpOp_aB (hi0 : ops[i]? = some ⟨d, .call { callee := .builtin .append, args := #[p, q], argTypes := #[116, 116] }, ty, pos, af, none⟩) (R : Rg w0 base lv va vb ls ma mb bk w) (k : Nat) (x : Bool) (hk : (k, #[.bool x], 4) ∈ bk) (hl : mb.length ≤ 1000000)
    (hp : a.eval p = vb) (hq : a.eval q = .slice (some ⟨k, 0, none⟩) 1 1)
    (h : ∀ av n c w', Rg w0 base lv va (.slice av n c) ls ma (mb ++ [x]) bk w' → K (a.put d (.slice av n c)) w') : wpOp Try.prog ops Q i K a w := by
  obtain ⟨av, n, c, w', h1, R'⟩ := R.appB hk hl ty
  refine wpOp_ran hi0 rfl ?_ (h av n c w' R')
  unfold execOp
  simp only [resolve, invoke, builtin, Sem.run_bind, Sem.run_pure, Result.andThen_ok, List.map_toArray, List.map_cons, List.map_nil, hp, hq, h1]
theorem wpOp_st {t : TypeId} (hi0 : ops[i]? = some ⟨d, .store t p q, ty, pos, af, none⟩) (R : Rg w0 base lv va vb ls ma mb bk w) (ht : t = 83 ∨ t = 116) (j : Nat) {X : Nat} {xs : Array Value} {t' : TypeId} (hj : bk[j]? = some (X, xs, t')) (k : Nat) (x : Option Addr) (n c : Nat) (v : Value) (hp : a.eval p = .pointer (some ⟨X, k, none⟩)) (hq : a.eval q = .slice x n c) (hv : xs[k]? = some v)
    (h : ∀ w', Rg w0 base lv va vb ls ma mb (bk.set j (X, xs.setIfInBounds k (.slice x n c), t')) w' → K (a.put d undef) w') : wpOp Try.prog ops Q i K a w :=
  wpOp_skipped hi0 rfl (run_storeR t p q ⟨X, k, none⟩ x n c v ht hp hq (by rw [R.cell (List.mem_of_getElem? hj)]; exact hv) (R.free (List.mem_of_getElem? hj) k)) (h _ (R.store j hj k _))
end

def AS1 (Bx : Nat) (x : Let) (w : World) : Prop := w.cell? ⟨Bx, 0, none⟩ = some (.int .i64 x.1) ∧ w.cell? ⟨Bx, 1, none⟩ = some (.int .u8 x.2.toNat)
def AS2 (O KA KB : Nat) (lv va vb : Value) : Nat → World → Prop
  | 0, w => w.cell? ⟨O, 1, none⟩ = some lv
  | 1, w => w.cell? ⟨KA, 0, none⟩ = some va
  | _ + 2, w => w.cell? ⟨KB, 0, none⟩ = some vb
theorem aS1_of {w0 w : World} {base Bx : Nat} {lv va vb : Value} {ls : List Let} {ma mb : List Bool} {bk : List (Nat × Array Value × TypeId)} {x : Let} (R : Rg w0 base lv va vb ls ma mb bk w) (h : (Bx, #[.int .i64 x.1, .int .u8 x.2.toNat], 88) ∈ bk) : AS1 Bx x w := ⟨R.cell h 0, R.cell h 1⟩
theorem aS2_of {w0 w : World} {base O KA KB : Nat} {n : Int} {lv va vb l0 a0 b0 : Value} {ls : List Let} {ma mb : List Bool} {bk : List (Nat × Array Value × TypeId)} (R : Rg w0 base lv va vb ls ma mb bk w) (h1 : (O, #[.int .i64 n, l0], 85) ∈ bk) (h2 : (KA, #[a0], 116) ∈ bk) (h3 : (KB, #[b0], 116) ∈ bk) : ∀ m, AS2 O KA KB l0 a0 b0 m w
  | 0 => R.cell h1 1
  | 1 => R.cell h2 0
  | _ + 2 => R.cell h3 0
def TA : Nat → Nat → Bool
  | 0, j => j == 14 || j == 15 || j == 16
  | 1, j => j == 15 || j == 16
  | _ + 2, j => j == 16
theorem TA_0 {j : Nat} (h : TA 0 j = true) : j = 14 ∨ j = 15 ∨ j = 16 := by unfold TA at h; simp at h; omega
theorem TA_1 {j : Nat} (h : TA 1 j = true) : j = 15 ∨ j = 16 ∨ j = 16 := by unfold TA at h; simp at h; omega
theorem TA_2 {j : Nat} (h : TA 2 j = true) : j = 16 ∨ j = 16 ∨ j = 16 := by unfold TA at h; simp at h; omega

/-- Letters and marks, with one more. -/
def AddPost (w0 : World) (base O KA KB : Nat) (n : Int) (ls : List Let) (ma mb : List Bool) (bs : List (Nat × Array Value × TypeId)) (w : World) : Prop :=
  ∃ lv va vb, Rg w0 base lv va vb ls ma mb ((O, #[.int .i64 n, lv], 85) :: (KA, #[va], 116) :: (KB, #[vb], 116) :: bs) w

set_option maxHeartbeats 8000000 in
set_option maxRecDepth 100000 in
theorem add_any (w0 : World) (base O KA KB : Nat) (n : Int) (ls : List Let) (ma mb : List Bool) (bs : List (Nat × Array Value × TypeId)) (x : Let) (a b : Bool) (w : World) (R : AddPost w0 base O KA KB n ls ma mb bs w) (hl : ls.length ≤ 1000000) (hl2 : ma.length ≤ 1000000) (hl3 : mb.length ≤ 1000000) :
    Calls Try.prog 89 #[.agg #[.int .i64 x.1, .int .u8 x.2.toNat], .bool a, .bool b, .pointer (some ⟨O, 0, none⟩), .pointer (some ⟨KA, 0, none⟩), .pointer (some ⟨KB, 0, none⟩)] w
      (fun e w' => e = .returned (.tuple #[]) ∧ AddPost w0 base O KA KB n (ls ++ [x]) (ma ++ [a]) (mb ++ [b]) bs w') := by
  obtain ⟨lv, va, vb, R⟩ := R
  obtain ⟨PP, hPP⟩ : ∃ PP : World → Prop, AddPost w0 base O KA KB n (ls ++ [x]) (ma ++ [a]) (mb ++ [b]) bs = PP := ⟨_, rfl⟩
  rw [hPP]
  have HP := Lib.hid hPP
  have HR := Lib.hid (R.alloc1 #[.int .i64 x.1, .int .u8 x.2.toNat] 88)
  have H1 := Lib.hid hl
  have H2 := Lib.hid hl2
  have H3 := Lib.hid hl3
  clear R hPP hl hl2 hl3
  obtain ⟨x1, x2⟩ := x
  simp only at HR ⊢
  go_enter Try.func89, Try.ntmps89
  go_wp2_with fail
  generalize w.alloc (.cells #[.int .i64 x1, .int .u8 x2.toNat] 88) = W at HR ⊢
  generalize w.heap.size = Bx at HR ⊢

  have M := HR.out.drew
  refine wp_region_K2 (AS1 Bx (x1, x2)) (AS2 O KA KB lv va vb) TA 17 #[false, false, false, false, false, false, false, false, false, false, false, false, false, false, false, false, false] (by kernel_rfl) (by kernel_rfl) (by kernel_rfl) ?_
  refine wpAnyK_take1 (i := 0) (some 9) (v := (.pointer (some ⟨O, 1, none⟩))) rfl rfl (by kernel_rfl) (by kernel_rfl) (by kernel_rfl) (fun _ _ _ h => h) (.inl ⟨by rfl, fun w' hw' => run_field85 _ O 1 (by omega) rfl⟩) (aS1_of (x := (x1, x2)) M (by simp)) ?_
  simp only [Act.put, List.setIfInBounds_toArray, List.set_cons_zero, List.set_cons_succ]
  refine wpAnyK_take2 0 (i := 1) (some 10) (v := lv) rfl rfl (by kernel_rfl) (by kernel_rfl) (by kernel_rfl) (fun _ _ _ h => h) (by intro j hj; rcases TA_0 hj with rfl | rfl | rfl <;> kernel_rfl) (.inl ⟨by rfl, fun w' hw' => run_loadS 83 _ ⟨O, 1, none⟩ _ (by simp) rfl hw'.2⟩) ⟨(aS1_of (x := (x1, x2)) M (by simp)), (aS2_of (n := n) M (by simp) (by simp) (by simp)) 0⟩ ?_
  simp only [Act.put, List.setIfInBounds_toArray, List.set_cons_zero, List.set_cons_succ]
  refine wpAnyK_take1 (i := 2) (some 11) (v := (.agg #[.int .i64 x1, .int .u8 x2.toNat])) rfl rfl (by kernel_rfl) (by kernel_rfl) (by kernel_rfl) (fun _ _ _ h => h) (.inl ⟨by rfl, fun w' hw' => run_loadL _ Bx _ _ rfl hw'.1 hw'.2⟩) (aS1_of (x := (x1, x2)) M (by simp)) ?_
  simp only [Act.put, List.setIfInBounds_toArray, List.set_cons_zero, List.set_cons_succ]
  refine wpAnyK_take2 1 (i := 5) (some 14) (v := va) rfl rfl (by kernel_rfl) (by kernel_rfl) (by kernel_rfl) (fun _ _ _ h => h) (by intro j hj; rcases TA_1 hj with rfl | rfl | rfl <;> kernel_rfl) (.inl ⟨by rfl, fun w' hw' => run_loadS 116 _ ⟨KA, 0, none⟩ _ (by simp) rfl hw'.2⟩) ⟨(aS1_of (x := (x1, x2)) M (by simp)), (aS2_of (n := n) M (by simp) (by simp) (by simp)) 1⟩ ?_
  simp only [Act.put, List.setIfInBounds_toArray, List.set_cons_zero, List.set_cons_succ]
  refine wpAnyK_take1 (i := 6) (some 15) (v := (.bool a)) rfl rfl (by kernel_rfl) (by kernel_rfl) (by kernel_rfl) (fun _ _ _ h => h) (.inl ⟨by rfl, fun w' hw' => run_moveR _⟩) (aS1_of (x := (x1, x2)) M (by simp)) ?_
  simp only [Act.put, List.setIfInBounds_toArray, List.set_cons_zero, List.set_cons_succ]
  refine wpAnyK_take2 2 (i := 9) (some 18) (v := vb) rfl rfl (by kernel_rfl) (by kernel_rfl) (by kernel_rfl) (fun _ _ _ h => h) (by intro j hj; rcases TA_2 hj with rfl | rfl | rfl <;> kernel_rfl) (.inl ⟨by rfl, fun w' hw' => run_loadS 116 _ ⟨KB, 0, none⟩ _ (by simp) rfl hw'.2⟩) ⟨(aS1_of (x := (x1, x2)) M (by simp)), (aS2_of (n := n) M (by simp) (by simp) (by simp)) 2⟩ ?_
  simp only [Act.put, List.setIfInBounds_toArray, List.set_cons_zero, List.set_cons_succ]
  refine wpAnyK_take1 (i := 10) (some 19) (v := (.bool b)) rfl rfl (by kernel_rfl) (by kernel_rfl) (by kernel_rfl) (fun _ _ _ h => h) (.inl ⟨by rfl, fun w' hw' => run_moveR _⟩) (aS1_of (x := (x1, x2)) M (by simp)) ?_
  simp only [Act.put, List.setIfInBounds_toArray, List.set_cons_zero, List.set_cons_succ]
  refine wpAnyK_all3 (i := 3) (j := 7) (k := 11) (by kernel_rfl) ?_ ?_ ?_
  · refine wpOp_bL (d := some 12) rfl M (x1, x2) rfl (fun k3 w2 M1 => ?_)
    refine ⟨⟨(aS1_of (x := (x1, x2)) M1 (by simp)), fun m => .inr fun _ => (aS2_of (n := n) M1 (by simp) (by simp) (by simp)) m⟩, ?_⟩
    simp only [Act.put, List.setIfInBounds_toArray, List.set_cons_zero, List.set_cons_succ]
    refine wpAnyK_all3 (i := 4) (j := 7) (k := 11) (by kernel_rfl) ?_ ?_ ?_
    · refine wpOp_aL (d := some 13) rfl M1 k3 (x1, x2) (by simp) H1.out rfl rfl (fun a6 n7 c8 w5 M4 => ?_)
      refine ⟨⟨(aS1_of (x := (x1, x2)) M4 (by simp)), fun m => .inr fun _ => (aS2_of (n := n) M4 (by simp) (by simp) (by simp)) m⟩, ?_⟩
      simp only [Act.put, List.setIfInBounds_toArray, List.set_cons_zero, List.set_cons_succ]
      refine wpAnyK_take1 (i := 13) (some 22) (v := (.pointer (some ⟨O, 1, none⟩))) rfl rfl (by kernel_rfl) (by kernel_rfl) (by kernel_rfl) (fun _ _ _ h => h) (.inl ⟨by rfl, fun w' hw' => run_field85 _ O 1 (by omega) rfl⟩) (aS1_of (x := (x1, x2)) M4 (by simp)) ?_
      simp only [Act.put, List.setIfInBounds_toArray, List.set_cons_zero, List.set_cons_succ]
      refine wpAnyK_all2 (i := 7) (j := 11) (by kernel_rfl) ?_ ?_
      · refine wpOp_bB (d := some 16) rfl M4 a rfl (fun k11 w10 M9 => ?_)
        refine ⟨⟨(aS1_of (x := (x1, x2)) M9 (by simp)), fun m => .inr fun _ => (aS2_of (n := n) M9 (by simp) (by simp) (by simp)) m⟩, ?_⟩
        simp only [Act.put, List.setIfInBounds_toArray, List.set_cons_zero, List.set_cons_succ]
        refine wpAnyK_all2 (i := 8) (j := 11) (by kernel_rfl) ?_ ?_
        · refine wpOp_aA (d := some 17) rfl M9 k11 a (by simp) H2.out rfl rfl (fun a14 n15 c16 w13 M12 => ?_)
          refine ⟨⟨(aS1_of (x := (x1, x2)) M12 (by simp)), fun m => .inr fun _ => (aS2_of (n := n) M12 (by simp) (by simp) (by simp)) m⟩, ?_⟩
          simp only [Act.put, List.setIfInBounds_toArray, List.set_cons_zero, List.set_cons_succ]
          refine wpAnyK_all1 (i := 11) (by kernel_rfl) ?_
          refine wpOp_bB (d := some 20) rfl M12 b rfl (fun k19 w18 M17 => ?_)
          refine ⟨⟨(aS1_of (x := (x1, x2)) M17 (by simp)), fun m => .inr fun _ => (aS2_of (n := n) M17 (by simp) (by simp) (by simp)) m⟩, ?_⟩
          simp only [Act.put, List.setIfInBounds_toArray, List.set_cons_zero, List.set_cons_succ]
          refine wpAnyK_all1 (i := 12) (by kernel_rfl) ?_
          refine wpOp_aB (d := some 21) rfl M17 k19 b (by simp) H3.out rfl rfl (fun a22 n23 c24 w21 M20 => ?_)
          refine ⟨⟨(aS1_of (x := (x1, x2)) M20 (by simp)), fun m => .inr fun _ => (aS2_of (n := n) M20 (by simp) (by simp) (by simp)) m⟩, ?_⟩
          simp only [Act.put, List.setIfInBounds_toArray, List.set_cons_zero, List.set_cons_succ]
          refine wpAnyK_all1 (i := 14) (by kernel_rfl) (wpOp_st (d := none) rfl M20 (by simp) 4 rfl 1 a6 n7 c8 _ rfl rfl rfl (fun w26 M25 => ?_))
          simp only [List.setIfInBounds_toArray, List.set_cons_zero, List.set_cons_succ] at M25
          refine ⟨⟨(aS1_of (x := (x1, x2)) M25 (by simp)), fun m => match m with | 0 => .inl rfl | 1 => .inr fun _ => M25.cell (X := KA) (xs := #[va]) (t := 116) (by simp) 0 | _ + 2 => .inr fun _ => M25.cell (X := KB) (xs := #[vb]) (t := 116) (by simp) 0⟩, ?_⟩
          simp only [Act.put, List.setIfInBounds_toArray, List.set_cons_zero, List.set_cons_succ]
          refine wpAnyK_all1 (i := 15) (by kernel_rfl) (wpOp_st (d := none) rfl M25 (by simp) 5 rfl 0 a14 n15 c16 _ rfl rfl rfl (fun w28 M27 => ?_))
          simp only [List.setIfInBounds_toArray, List.set_cons_zero, List.set_cons_succ] at M27
          refine ⟨⟨(aS1_of (x := (x1, x2)) M27 (by simp)), fun m => match m with | 0 => .inl rfl | 1 => .inl rfl | _ + 2 => .inr fun _ => M27.cell (X := KB) (xs := #[vb]) (t := 116) (by simp) 0⟩, ?_⟩
          simp only [Act.put, List.setIfInBounds_toArray, List.set_cons_zero, List.set_cons_succ]
          refine wpAnyK_all1 (i := 16) (by kernel_rfl) (wpOp_st (d := none) rfl M27 (by simp) 6 rfl 0 a22 n23 c24 _ rfl rfl rfl (fun w30 M29 => ?_))
          simp only [List.setIfInBounds_toArray, List.set_cons_zero, List.set_cons_succ] at M29
          refine ⟨⟨(aS1_of (x := (x1, x2)) M29 (by simp)), fun m => match m with | 0 => .inl rfl | 1 => .inl rfl | _ + 2 => .inl rfl⟩, ?_⟩
          simp only [Act.put, List.setIfInBounds_toArray, List.set_cons_zero, List.set_cons_succ]
          refine wpAnyK_done (by kernel_rfl) ?_ _
          go_wp2_with fail
          go_end0
          exact ⟨rfl, HP.out ▸ ⟨_, _, _, M29.sub (((((List.Sublist.refl _).cons _).cons _).cons _).cons _)⟩⟩
        · refine wpOp_bB (d := some 20) rfl M9 b rfl (fun k33 w32 M31 => ?_)
          refine ⟨⟨(aS1_of (x := (x1, x2)) M31 (by simp)), fun m => .inr fun _ => (aS2_of (n := n) M31 (by simp) (by simp) (by simp)) m⟩, ?_⟩
          simp only [Act.put, List.setIfInBounds_toArray, List.set_cons_zero, List.set_cons_succ]
          refine wpAnyK_all1 (i := 8) (by kernel_rfl) ?_
          refine wpOp_aA (d := some 17) rfl M31 k11 a (by simp) H2.out rfl rfl (fun a36 n37 c38 w35 M34 => ?_)
          refine ⟨⟨(aS1_of (x := (x1, x2)) M34 (by simp)), fun m => .inr fun _ => (aS2_of (n := n) M34 (by simp) (by simp) (by simp)) m⟩, ?_⟩
          simp only [Act.put, List.setIfInBounds_toArray, List.set_cons_zero, List.set_cons_succ]
          refine wpAnyK_all1 (i := 12) (by kernel_rfl) ?_
          refine wpOp_aB (d := some 21) rfl M34 k33 b (by simp) H3.out rfl rfl (fun a41 n42 c43 w40 M39 => ?_)
          refine ⟨⟨(aS1_of (x := (x1, x2)) M39 (by simp)), fun m => .inr fun _ => (aS2_of (n := n) M39 (by simp) (by simp) (by simp)) m⟩, ?_⟩
          simp only [Act.put, List.setIfInBounds_toArray, List.set_cons_zero, List.set_cons_succ]
          refine wpAnyK_all1 (i := 14) (by kernel_rfl) (wpOp_st (d := none) rfl M39 (by simp) 4 rfl 1 a6 n7 c8 _ rfl rfl rfl (fun w45 M44 => ?_))
          simp only [List.setIfInBounds_toArray, List.set_cons_zero, List.set_cons_succ] at M44
          refine ⟨⟨(aS1_of (x := (x1, x2)) M44 (by simp)), fun m => match m with | 0 => .inl rfl | 1 => .inr fun _ => M44.cell (X := KA) (xs := #[va]) (t := 116) (by simp) 0 | _ + 2 => .inr fun _ => M44.cell (X := KB) (xs := #[vb]) (t := 116) (by simp) 0⟩, ?_⟩
          simp only [Act.put, List.setIfInBounds_toArray, List.set_cons_zero, List.set_cons_succ]
          refine wpAnyK_all1 (i := 15) (by kernel_rfl) (wpOp_st (d := none) rfl M44 (by simp) 5 rfl 0 a36 n37 c38 _ rfl rfl rfl (fun w47 M46 => ?_))
          simp only [List.setIfInBounds_toArray, List.set_cons_zero, List.set_cons_succ] at M46
          refine ⟨⟨(aS1_of (x := (x1, x2)) M46 (by simp)), fun m => match m with | 0 => .inl rfl | 1 => .inl rfl | _ + 2 => .inr fun _ => M46.cell (X := KB) (xs := #[vb]) (t := 116) (by simp) 0⟩, ?_⟩
          simp only [Act.put, List.setIfInBounds_toArray, List.set_cons_zero, List.set_cons_succ]
          refine wpAnyK_all1 (i := 16) (by kernel_rfl) (wpOp_st (d := none) rfl M46 (by simp) 6 rfl 0 a41 n42 c43 _ rfl rfl rfl (fun w49 M48 => ?_))
          simp only [List.setIfInBounds_toArray, List.set_cons_zero, List.set_cons_succ] at M48
          refine ⟨⟨(aS1_of (x := (x1, x2)) M48 (by simp)), fun m => match m with | 0 => .inl rfl | 1 => .inl rfl | _ + 2 => .inl rfl⟩, ?_⟩
          simp only [Act.put, List.setIfInBounds_toArray, List.set_cons_zero, List.set_cons_succ]
          refine wpAnyK_done (by kernel_rfl) ?_ _
          go_wp2_with fail
          go_end0
          exact ⟨rfl, HP.out ▸ ⟨_, _, _, M48.sub (((((List.Sublist.refl _).cons _).cons _).cons _).cons _)⟩⟩
      · refine wpOp_bB (d := some 20) rfl M4 b rfl (fun k52 w51 M50 => ?_)
        refine ⟨⟨(aS1_of (x := (x1, x2)) M50 (by simp)), fun m => .inr fun _ => (aS2_of (n := n) M50 (by simp) (by simp) (by simp)) m⟩, ?_⟩
        simp only [Act.put, List.setIfInBounds_toArray, List.set_cons_zero, List.set_cons_succ]
        refine wpAnyK_all1 (i := 7) (by kernel_rfl) ?_
        refine wpOp_bB (d := some 16) rfl M50 a rfl (fun k55 w54 M53 => ?_)
        refine ⟨⟨(aS1_of (x := (x1, x2)) M53 (by simp)), fun m => .inr fun _ => (aS2_of (n := n) M53 (by simp) (by simp) (by simp)) m⟩, ?_⟩
        simp only [Act.put, List.setIfInBounds_toArray, List.set_cons_zero, List.set_cons_succ]
        refine wpAnyK_all1 (i := 8) (by kernel_rfl) ?_
        refine wpOp_aA (d := some 17) rfl M53 k55 a (by simp) H2.out rfl rfl (fun a58 n59 c60 w57 M56 => ?_)
        refine ⟨⟨(aS1_of (x := (x1, x2)) M56 (by simp)), fun m => .inr fun _ => (aS2_of (n := n) M56 (by simp) (by simp) (by simp)) m⟩, ?_⟩
        simp only [Act.put, List.setIfInBounds_toArray, List.set_cons_zero, List.set_cons_succ]
        refine wpAnyK_all1 (i := 12) (by kernel_rfl) ?_
        refine wpOp_aB (d := some 21) rfl M56 k52 b (by simp) H3.out rfl rfl (fun a63 n64 c65 w62 M61 => ?_)
        refine ⟨⟨(aS1_of (x := (x1, x2)) M61 (by simp)), fun m => .inr fun _ => (aS2_of (n := n) M61 (by simp) (by simp) (by simp)) m⟩, ?_⟩
        simp only [Act.put, List.setIfInBounds_toArray, List.set_cons_zero, List.set_cons_succ]
        refine wpAnyK_all1 (i := 14) (by kernel_rfl) (wpOp_st (d := none) rfl M61 (by simp) 4 rfl 1 a6 n7 c8 _ rfl rfl rfl (fun w67 M66 => ?_))
        simp only [List.setIfInBounds_toArray, List.set_cons_zero, List.set_cons_succ] at M66
        refine ⟨⟨(aS1_of (x := (x1, x2)) M66 (by simp)), fun m => match m with | 0 => .inl rfl | 1 => .inr fun _ => M66.cell (X := KA) (xs := #[va]) (t := 116) (by simp) 0 | _ + 2 => .inr fun _ => M66.cell (X := KB) (xs := #[vb]) (t := 116) (by simp) 0⟩, ?_⟩
        simp only [Act.put, List.setIfInBounds_toArray, List.set_cons_zero, List.set_cons_succ]
        refine wpAnyK_all1 (i := 15) (by kernel_rfl) (wpOp_st (d := none) rfl M66 (by simp) 5 rfl 0 a58 n59 c60 _ rfl rfl rfl (fun w69 M68 => ?_))
        simp only [List.setIfInBounds_toArray, List.set_cons_zero, List.set_cons_succ] at M68
        refine ⟨⟨(aS1_of (x := (x1, x2)) M68 (by simp)), fun m => match m with | 0 => .inl rfl | 1 => .inl rfl | _ + 2 => .inr fun _ => M68.cell (X := KB) (xs := #[vb]) (t := 116) (by simp) 0⟩, ?_⟩
        simp only [Act.put, List.setIfInBounds_toArray, List.set_cons_zero, List.set_cons_succ]
        refine wpAnyK_all1 (i := 16) (by kernel_rfl) (wpOp_st (d := none) rfl M68 (by simp) 6 rfl 0 a63 n64 c65 _ rfl rfl rfl (fun w71 M70 => ?_))
        simp only [List.setIfInBounds_toArray, List.set_cons_zero, List.set_cons_succ] at M70
        refine ⟨⟨(aS1_of (x := (x1, x2)) M70 (by simp)), fun m => match m with | 0 => .inl rfl | 1 => .inl rfl | _ + 2 => .inl rfl⟩, ?_⟩
        simp only [Act.put, List.setIfInBounds_toArray, List.set_cons_zero, List.set_cons_succ]
        refine wpAnyK_done (by kernel_rfl) ?_ _
        go_wp2_with fail
        go_end0
        exact ⟨rfl, HP.out ▸ ⟨_, _, _, M70.sub (((((List.Sublist.refl _).cons _).cons _).cons _).cons _)⟩⟩
    · refine wpOp_bB (d := some 16) rfl M1 a rfl (fun k74 w73 M72 => ?_)
      refine ⟨⟨(aS1_of (x := (x1, x2)) M72 (by simp)), fun m => .inr fun _ => (aS2_of (n := n) M72 (by simp) (by simp) (by simp)) m⟩, ?_⟩
      simp only [Act.put, List.setIfInBounds_toArray, List.set_cons_zero, List.set_cons_succ]
      refine wpAnyK_all2 (i := 4) (j := 11) (by kernel_rfl) ?_ ?_
      · refine wpOp_aL (d := some 13) rfl M72 k3 (x1, x2) (by simp) H1.out rfl rfl (fun a77 n78 c79 w76 M75 => ?_)
        refine ⟨⟨(aS1_of (x := (x1, x2)) M75 (by simp)), fun m => .inr fun _ => (aS2_of (n := n) M75 (by simp) (by simp) (by simp)) m⟩, ?_⟩
        simp only [Act.put, List.setIfInBounds_toArray, List.set_cons_zero, List.set_cons_succ]
        refine wpAnyK_take1 (i := 13) (some 22) (v := (.pointer (some ⟨O, 1, none⟩))) rfl rfl (by kernel_rfl) (by kernel_rfl) (by kernel_rfl) (fun _ _ _ h => h) (.inl ⟨by rfl, fun w' hw' => run_field85 _ O 1 (by omega) rfl⟩) (aS1_of (x := (x1, x2)) M75 (by simp)) ?_
        simp only [Act.put, List.setIfInBounds_toArray, List.set_cons_zero, List.set_cons_succ]
        refine wpAnyK_all2 (i := 8) (j := 11) (by kernel_rfl) ?_ ?_
        · refine wpOp_aA (d := some 17) rfl M75 k74 a (by simp) H2.out rfl rfl (fun a82 n83 c84 w81 M80 => ?_)
          refine ⟨⟨(aS1_of (x := (x1, x2)) M80 (by simp)), fun m => .inr fun _ => (aS2_of (n := n) M80 (by simp) (by simp) (by simp)) m⟩, ?_⟩
          simp only [Act.put, List.setIfInBounds_toArray, List.set_cons_zero, List.set_cons_succ]
          refine wpAnyK_all1 (i := 11) (by kernel_rfl) ?_
          refine wpOp_bB (d := some 20) rfl M80 b rfl (fun k87 w86 M85 => ?_)
          refine ⟨⟨(aS1_of (x := (x1, x2)) M85 (by simp)), fun m => .inr fun _ => (aS2_of (n := n) M85 (by simp) (by simp) (by simp)) m⟩, ?_⟩
          simp only [Act.put, List.setIfInBounds_toArray, List.set_cons_zero, List.set_cons_succ]
          refine wpAnyK_all1 (i := 12) (by kernel_rfl) ?_
          refine wpOp_aB (d := some 21) rfl M85 k87 b (by simp) H3.out rfl rfl (fun a90 n91 c92 w89 M88 => ?_)
          refine ⟨⟨(aS1_of (x := (x1, x2)) M88 (by simp)), fun m => .inr fun _ => (aS2_of (n := n) M88 (by simp) (by simp) (by simp)) m⟩, ?_⟩
          simp only [Act.put, List.setIfInBounds_toArray, List.set_cons_zero, List.set_cons_succ]
          refine wpAnyK_all1 (i := 14) (by kernel_rfl) (wpOp_st (d := none) rfl M88 (by simp) 4 rfl 1 a77 n78 c79 _ rfl rfl rfl (fun w94 M93 => ?_))
          simp only [List.setIfInBounds_toArray, List.set_cons_zero, List.set_cons_succ] at M93
          refine ⟨⟨(aS1_of (x := (x1, x2)) M93 (by simp)), fun m => match m with | 0 => .inl rfl | 1 => .inr fun _ => M93.cell (X := KA) (xs := #[va]) (t := 116) (by simp) 0 | _ + 2 => .inr fun _ => M93.cell (X := KB) (xs := #[vb]) (t := 116) (by simp) 0⟩, ?_⟩
          simp only [Act.put, List.setIfInBounds_toArray, List.set_cons_zero, List.set_cons_succ]
          refine wpAnyK_all1 (i := 15) (by kernel_rfl) (wpOp_st (d := none) rfl M93 (by simp) 5 rfl 0 a82 n83 c84 _ rfl rfl rfl (fun w96 M95 => ?_))
          simp only [List.setIfInBounds_toArray, List.set_cons_zero, List.set_cons_succ] at M95
          refine ⟨⟨(aS1_of (x := (x1, x2)) M95 (by simp)), fun m => match m with | 0 => .inl rfl | 1 => .inl rfl | _ + 2 => .inr fun _ => M95.cell (X := KB) (xs := #[vb]) (t := 116) (by simp) 0⟩, ?_⟩
          simp only [Act.put, List.setIfInBounds_toArray, List.set_cons_zero, List.set_cons_succ]
          refine wpAnyK_all1 (i := 16) (by kernel_rfl) (wpOp_st (d := none) rfl M95 (by simp) 6 rfl 0 a90 n91 c92 _ rfl rfl rfl (fun w98 M97 => ?_))
          simp only [List.setIfInBounds_toArray, List.set_cons_zero, List.set_cons_succ] at M97
          refine ⟨⟨(aS1_of (x := (x1, x2)) M97 (by simp)), fun m => match m with | 0 => .inl rfl | 1 => .inl rfl | _ + 2 => .inl rfl⟩, ?_⟩
          simp only [Act.put, List.setIfInBounds_toArray, List.set_cons_zero, List.set_cons_succ]
          refine wpAnyK_done (by kernel_rfl) ?_ _
          go_wp2_with fail
          go_end0
          exact ⟨rfl, HP.out ▸ ⟨_, _, _, M97.sub (((((List.Sublist.refl _).cons _).cons _).cons _).cons _)⟩⟩
        · refine wpOp_bB (d := some 20) rfl M75 b rfl (fun k101 w100 M99 => ?_)
          refine ⟨⟨(aS1_of (x := (x1, x2)) M99 (by simp)), fun m => .inr fun _ => (aS2_of (n := n) M99 (by simp) (by simp) (by simp)) m⟩, ?_⟩
          simp only [Act.put, List.setIfInBounds_toArray, List.set_cons_zero, List.set_cons_succ]
          refine wpAnyK_all1 (i := 8) (by kernel_rfl) ?_
          refine wpOp_aA (d := some 17) rfl M99 k74 a (by simp) H2.out rfl rfl (fun a104 n105 c106 w103 M102 => ?_)
          refine ⟨⟨(aS1_of (x := (x1, x2)) M102 (by simp)), fun m => .inr fun _ => (aS2_of (n := n) M102 (by simp) (by simp) (by simp)) m⟩, ?_⟩
          simp only [Act.put, List.setIfInBounds_toArray, List.set_cons_zero, List.set_cons_succ]
          refine wpAnyK_all1 (i := 12) (by kernel_rfl) ?_
          refine wpOp_aB (d := some 21) rfl M102 k101 b (by simp) H3.out rfl rfl (fun a109 n110 c111 w108 M107 => ?_)
          refine ⟨⟨(aS1_of (x := (x1, x2)) M107 (by simp)), fun m => .inr fun _ => (aS2_of (n := n) M107 (by simp) (by simp) (by simp)) m⟩, ?_⟩
          simp only [Act.put, List.setIfInBounds_toArray, List.set_cons_zero, List.set_cons_succ]
          refine wpAnyK_all1 (i := 14) (by kernel_rfl) (wpOp_st (d := none) rfl M107 (by simp) 4 rfl 1 a77 n78 c79 _ rfl rfl rfl (fun w113 M112 => ?_))
          simp only [List.setIfInBounds_toArray, List.set_cons_zero, List.set_cons_succ] at M112
          refine ⟨⟨(aS1_of (x := (x1, x2)) M112 (by simp)), fun m => match m with | 0 => .inl rfl | 1 => .inr fun _ => M112.cell (X := KA) (xs := #[va]) (t := 116) (by simp) 0 | _ + 2 => .inr fun _ => M112.cell (X := KB) (xs := #[vb]) (t := 116) (by simp) 0⟩, ?_⟩
          simp only [Act.put, List.setIfInBounds_toArray, List.set_cons_zero, List.set_cons_succ]
          refine wpAnyK_all1 (i := 15) (by kernel_rfl) (wpOp_st (d := none) rfl M112 (by simp) 5 rfl 0 a104 n105 c106 _ rfl rfl rfl (fun w115 M114 => ?_))
          simp only [List.setIfInBounds_toArray, List.set_cons_zero, List.set_cons_succ] at M114
          refine ⟨⟨(aS1_of (x := (x1, x2)) M114 (by simp)), fun m => match m with | 0 => .inl rfl | 1 => .inl rfl | _ + 2 => .inr fun _ => M114.cell (X := KB) (xs := #[vb]) (t := 116) (by simp) 0⟩, ?_⟩
          simp only [Act.put, List.setIfInBounds_toArray, List.set_cons_zero, List.set_cons_succ]
          refine wpAnyK_all1 (i := 16) (by kernel_rfl) (wpOp_st (d := none) rfl M114 (by simp) 6 rfl 0 a109 n110 c111 _ rfl rfl rfl (fun w117 M116 => ?_))
          simp only [List.setIfInBounds_toArray, List.set_cons_zero, List.set_cons_succ] at M116
          refine ⟨⟨(aS1_of (x := (x1, x2)) M116 (by simp)), fun m => match m with | 0 => .inl rfl | 1 => .inl rfl | _ + 2 => .inl rfl⟩, ?_⟩
          simp only [Act.put, List.setIfInBounds_toArray, List.set_cons_zero, List.set_cons_succ]
          refine wpAnyK_done (by kernel_rfl) ?_ _
          go_wp2_with fail
          go_end0
          exact ⟨rfl, HP.out ▸ ⟨_, _, _, M116.sub (((((List.Sublist.refl _).cons _).cons _).cons _).cons _)⟩⟩
      · refine wpOp_bB (d := some 20) rfl M72 b rfl (fun k120 w119 M118 => ?_)
        refine ⟨⟨(aS1_of (x := (x1, x2)) M118 (by simp)), fun m => .inr fun _ => (aS2_of (n := n) M118 (by simp) (by simp) (by simp)) m⟩, ?_⟩
        simp only [Act.put, List.setIfInBounds_toArray, List.set_cons_zero, List.set_cons_succ]
        refine wpAnyK_all1 (i := 4) (by kernel_rfl) ?_
        refine wpOp_aL (d := some 13) rfl M118 k3 (x1, x2) (by simp) H1.out rfl rfl (fun a123 n124 c125 w122 M121 => ?_)
        refine ⟨⟨(aS1_of (x := (x1, x2)) M121 (by simp)), fun m => .inr fun _ => (aS2_of (n := n) M121 (by simp) (by simp) (by simp)) m⟩, ?_⟩
        simp only [Act.put, List.setIfInBounds_toArray, List.set_cons_zero, List.set_cons_succ]
        refine wpAnyK_take1 (i := 13) (some 22) (v := (.pointer (some ⟨O, 1, none⟩))) rfl rfl (by kernel_rfl) (by kernel_rfl) (by kernel_rfl) (fun _ _ _ h => h) (.inl ⟨by rfl, fun w' hw' => run_field85 _ O 1 (by omega) rfl⟩) (aS1_of (x := (x1, x2)) M121 (by simp)) ?_
        simp only [Act.put, List.setIfInBounds_toArray, List.set_cons_zero, List.set_cons_succ]
        refine wpAnyK_all1 (i := 8) (by kernel_rfl) ?_
        refine wpOp_aA (d := some 17) rfl M121 k74 a (by simp) H2.out rfl rfl (fun a128 n129 c130 w127 M126 => ?_)
        refine ⟨⟨(aS1_of (x := (x1, x2)) M126 (by simp)), fun m => .inr fun _ => (aS2_of (n := n) M126 (by simp) (by simp) (by simp)) m⟩, ?_⟩
        simp only [Act.put, List.setIfInBounds_toArray, List.set_cons_zero, List.set_cons_succ]
        refine wpAnyK_all1 (i := 12) (by kernel_rfl) ?_
        refine wpOp_aB (d := some 21) rfl M126 k120 b (by simp) H3.out rfl rfl (fun a133 n134 c135 w132 M131 => ?_)
        refine ⟨⟨(aS1_of (x := (x1, x2)) M131 (by simp)), fun m => .inr fun _ => (aS2_of (n := n) M131 (by simp) (by simp) (by simp)) m⟩, ?_⟩
        simp only [Act.put, List.setIfInBounds_toArray, List.set_cons_zero, List.set_cons_succ]
        refine wpAnyK_all1 (i := 14) (by kernel_rfl) (wpOp_st (d := none) rfl M131 (by simp) 4 rfl 1 a123 n124 c125 _ rfl rfl rfl (fun w137 M136 => ?_))
        simp only [List.setIfInBounds_toArray, List.set_cons_zero, List.set_cons_succ] at M136
        refine ⟨⟨(aS1_of (x := (x1, x2)) M136 (by simp)), fun m => match m with | 0 => .inl rfl | 1 => .inr fun _ => M136.cell (X := KA) (xs := #[va]) (t := 116) (by simp) 0 | _ + 2 => .inr fun _ => M136.cell (X := KB) (xs := #[vb]) (t := 116) (by simp) 0⟩, ?_⟩
        simp only [Act.put, List.setIfInBounds_toArray, List.set_cons_zero, List.set_cons_succ]
        refine wpAnyK_all1 (i := 15) (by kernel_rfl) (wpOp_st (d := none) rfl M136 (by simp) 5 rfl 0 a128 n129 c130 _ rfl rfl rfl (fun w139 M138 => ?_))
        simp only [List.setIfInBounds_toArray, List.set_cons_zero, List.set_cons_succ] at M138
        refine ⟨⟨(aS1_of (x := (x1, x2)) M138 (by simp)), fun m => match m with | 0 => .inl rfl | 1 => .inl rfl | _ + 2 => .inr fun _ => M138.cell (X := KB) (xs := #[vb]) (t := 116) (by simp) 0⟩, ?_⟩
        simp only [Act.put, List.setIfInBounds_toArray, List.set_cons_zero, List.set_cons_succ]
        refine wpAnyK_all1 (i := 16) (by kernel_rfl) (wpOp_st (d := none) rfl M138 (by simp) 6 rfl 0 a133 n134 c135 _ rfl rfl rfl (fun w141 M140 => ?_))
        simp only [List.setIfInBounds_toArray, List.set_cons_zero, List.set_cons_succ] at M140
        refine ⟨⟨(aS1_of (x := (x1, x2)) M140 (by simp)), fun m => match m with | 0 => .inl rfl | 1 => .inl rfl | _ + 2 => .inl rfl⟩, ?_⟩
        simp only [Act.put, List.setIfInBounds_toArray, List.set_cons_zero, List.set_cons_succ]
        refine wpAnyK_done (by kernel_rfl) ?_ _
        go_wp2_with fail
        go_end0
        exact ⟨rfl, HP.out ▸ ⟨_, _, _, M140.sub (((((List.Sublist.refl _).cons _).cons _).cons _).cons _)⟩⟩
    · refine wpOp_bB (d := some 20) rfl M1 b rfl (fun k144 w143 M142 => ?_)
      refine ⟨⟨(aS1_of (x := (x1, x2)) M142 (by simp)), fun m => .inr fun _ => (aS2_of (n := n) M142 (by simp) (by simp) (by simp)) m⟩, ?_⟩
      simp only [Act.put, List.setIfInBounds_toArray, List.set_cons_zero, List.set_cons_succ]
      refine wpAnyK_all2 (i := 4) (j := 7) (by kernel_rfl) ?_ ?_
      · refine wpOp_aL (d := some 13) rfl M142 k3 (x1, x2) (by simp) H1.out rfl rfl (fun a147 n148 c149 w146 M145 => ?_)
        refine ⟨⟨(aS1_of (x := (x1, x2)) M145 (by simp)), fun m => .inr fun _ => (aS2_of (n := n) M145 (by simp) (by simp) (by simp)) m⟩, ?_⟩
        simp only [Act.put, List.setIfInBounds_toArray, List.set_cons_zero, List.set_cons_succ]
        refine wpAnyK_take1 (i := 13) (some 22) (v := (.pointer (some ⟨O, 1, none⟩))) rfl rfl (by kernel_rfl) (by kernel_rfl) (by kernel_rfl) (fun _ _ _ h => h) (.inl ⟨by rfl, fun w' hw' => run_field85 _ O 1 (by omega) rfl⟩) (aS1_of (x := (x1, x2)) M145 (by simp)) ?_
        simp only [Act.put, List.setIfInBounds_toArray, List.set_cons_zero, List.set_cons_succ]
        refine wpAnyK_all1 (i := 7) (by kernel_rfl) ?_
        refine wpOp_bB (d := some 16) rfl M145 a rfl (fun k152 w151 M150 => ?_)
        refine ⟨⟨(aS1_of (x := (x1, x2)) M150 (by simp)), fun m => .inr fun _ => (aS2_of (n := n) M150 (by simp) (by simp) (by simp)) m⟩, ?_⟩
        simp only [Act.put, List.setIfInBounds_toArray, List.set_cons_zero, List.set_cons_succ]
        refine wpAnyK_all1 (i := 8) (by kernel_rfl) ?_
        refine wpOp_aA (d := some 17) rfl M150 k152 a (by simp) H2.out rfl rfl (fun a155 n156 c157 w154 M153 => ?_)
        refine ⟨⟨(aS1_of (x := (x1, x2)) M153 (by simp)), fun m => .inr fun _ => (aS2_of (n := n) M153 (by simp) (by simp) (by simp)) m⟩, ?_⟩
        simp only [Act.put, List.setIfInBounds_toArray, List.set_cons_zero, List.set_cons_succ]
        refine wpAnyK_all1 (i := 12) (by kernel_rfl) ?_
        refine wpOp_aB (d := some 21) rfl M153 k144 b (by simp) H3.out rfl rfl (fun a160 n161 c162 w159 M158 => ?_)
        refine ⟨⟨(aS1_of (x := (x1, x2)) M158 (by simp)), fun m => .inr fun _ => (aS2_of (n := n) M158 (by simp) (by simp) (by simp)) m⟩, ?_⟩
        simp only [Act.put, List.setIfInBounds_toArray, List.set_cons_zero, List.set_cons_succ]
        refine wpAnyK_all1 (i := 14) (by kernel_rfl) (wpOp_st (d := none) rfl M158 (by simp) 4 rfl 1 a147 n148 c149 _ rfl rfl rfl (fun w164 M163 => ?_))
        simp only [List.setIfInBounds_toArray, List.set_cons_zero, List.set_cons_succ] at M163
        refine ⟨⟨(aS1_of (x := (x1, x2)) M163 (by simp)), fun m => match m with | 0 => .inl rfl | 1 => .inr fun _ => M163.cell (X := KA) (xs := #[va]) (t := 116) (by simp) 0 | _ + 2 => .inr fun _ => M163.cell (X := KB) (xs := #[vb]) (t := 116) (by simp) 0⟩, ?_⟩
        simp only [Act.put, List.setIfInBounds_toArray, List.set_cons_zero, List.set_cons_succ]
        refine wpAnyK_all1 (i := 15) (by kernel_rfl) (wpOp_st (d := none) rfl M163 (by simp) 5 rfl 0 a155 n156 c157 _ rfl rfl rfl (fun w166 M165 => ?_))
        simp only [List.setIfInBounds_toArray, List.set_cons_zero, List.set_cons_succ] at M165
        refine ⟨⟨(aS1_of (x := (x1, x2)) M165 (by simp)), fun m => match m with | 0 => .inl rfl | 1 => .inl rfl | _ + 2 => .inr fun _ => M165.cell (X := KB) (xs := #[vb]) (t := 116) (by simp) 0⟩, ?_⟩
        simp only [Act.put, List.setIfInBounds_toArray, List.set_cons_zero, List.set_cons_succ]
        refine wpAnyK_all1 (i := 16) (by kernel_rfl) (wpOp_st (d := none) rfl M165 (by simp) 6 rfl 0 a160 n161 c162 _ rfl rfl rfl (fun w168 M167 => ?_))
        simp only [List.setIfInBounds_toArray, List.set_cons_zero, List.set_cons_succ] at M167
        refine ⟨⟨(aS1_of (x := (x1, x2)) M167 (by simp)), fun m => match m with | 0 => .inl rfl | 1 => .inl rfl | _ + 2 => .inl rfl⟩, ?_⟩
        simp only [Act.put, List.setIfInBounds_toArray, List.set_cons_zero, List.set_cons_succ]
        refine wpAnyK_done (by kernel_rfl) ?_ _
        go_wp2_with fail
        go_end0
        exact ⟨rfl, HP.out ▸ ⟨_, _, _, M167.sub (((((List.Sublist.refl _).cons _).cons _).cons _).cons _)⟩⟩
      · refine wpOp_bB (d := some 16) rfl M142 a rfl (fun k171 w170 M169 => ?_)
        refine ⟨⟨(aS1_of (x := (x1, x2)) M169 (by simp)), fun m => .inr fun _ => (aS2_of (n := n) M169 (by simp) (by simp) (by simp)) m⟩, ?_⟩
        simp only [Act.put, List.setIfInBounds_toArray, List.set_cons_zero, List.set_cons_succ]
        refine wpAnyK_all1 (i := 4) (by kernel_rfl) ?_
        refine wpOp_aL (d := some 13) rfl M169 k3 (x1, x2) (by simp) H1.out rfl rfl (fun a174 n175 c176 w173 M172 => ?_)
        refine ⟨⟨(aS1_of (x := (x1, x2)) M172 (by simp)), fun m => .inr fun _ => (aS2_of (n := n) M172 (by simp) (by simp) (by simp)) m⟩, ?_⟩
        simp only [Act.put, List.setIfInBounds_toArray, List.set_cons_zero, List.set_cons_succ]
        refine wpAnyK_take1 (i := 13) (some 22) (v := (.pointer (some ⟨O, 1, none⟩))) rfl rfl (by kernel_rfl) (by kernel_rfl) (by kernel_rfl) (fun _ _ _ h => h) (.inl ⟨by rfl, fun w' hw' => run_field85 _ O 1 (by omega) rfl⟩) (aS1_of (x := (x1, x2)) M172 (by simp)) ?_
        simp only [Act.put, List.setIfInBounds_toArray, List.set_cons_zero, List.set_cons_succ]
        refine wpAnyK_all1 (i := 8) (by kernel_rfl) ?_
        refine wpOp_aA (d := some 17) rfl M172 k171 a (by simp) H2.out rfl rfl (fun a179 n180 c181 w178 M177 => ?_)
        refine ⟨⟨(aS1_of (x := (x1, x2)) M177 (by simp)), fun m => .inr fun _ => (aS2_of (n := n) M177 (by simp) (by simp) (by simp)) m⟩, ?_⟩
        simp only [Act.put, List.setIfInBounds_toArray, List.set_cons_zero, List.set_cons_succ]
        refine wpAnyK_all1 (i := 12) (by kernel_rfl) ?_
        refine wpOp_aB (d := some 21) rfl M177 k144 b (by simp) H3.out rfl rfl (fun a184 n185 c186 w183 M182 => ?_)
        refine ⟨⟨(aS1_of (x := (x1, x2)) M182 (by simp)), fun m => .inr fun _ => (aS2_of (n := n) M182 (by simp) (by simp) (by simp)) m⟩, ?_⟩
        simp only [Act.put, List.setIfInBounds_toArray, List.set_cons_zero, List.set_cons_succ]
        refine wpAnyK_all1 (i := 14) (by kernel_rfl) (wpOp_st (d := none) rfl M182 (by simp) 4 rfl 1 a174 n175 c176 _ rfl rfl rfl (fun w188 M187 => ?_))
        simp only [List.setIfInBounds_toArray, List.set_cons_zero, List.set_cons_succ] at M187
        refine ⟨⟨(aS1_of (x := (x1, x2)) M187 (by simp)), fun m => match m with | 0 => .inl rfl | 1 => .inr fun _ => M187.cell (X := KA) (xs := #[va]) (t := 116) (by simp) 0 | _ + 2 => .inr fun _ => M187.cell (X := KB) (xs := #[vb]) (t := 116) (by simp) 0⟩, ?_⟩
        simp only [Act.put, List.setIfInBounds_toArray, List.set_cons_zero, List.set_cons_succ]
        refine wpAnyK_all1 (i := 15) (by kernel_rfl) (wpOp_st (d := none) rfl M187 (by simp) 5 rfl 0 a179 n180 c181 _ rfl rfl rfl (fun w190 M189 => ?_))
        simp only [List.setIfInBounds_toArray, List.set_cons_zero, List.set_cons_succ] at M189
        refine ⟨⟨(aS1_of (x := (x1, x2)) M189 (by simp)), fun m => match m with | 0 => .inl rfl | 1 => .inl rfl | _ + 2 => .inr fun _ => M189.cell (X := KB) (xs := #[vb]) (t := 116) (by simp) 0⟩, ?_⟩
        simp only [Act.put, List.setIfInBounds_toArray, List.set_cons_zero, List.set_cons_succ]
        refine wpAnyK_all1 (i := 16) (by kernel_rfl) (wpOp_st (d := none) rfl M189 (by simp) 6 rfl 0 a184 n185 c186 _ rfl rfl rfl (fun w192 M191 => ?_))
        simp only [List.setIfInBounds_toArray, List.set_cons_zero, List.set_cons_succ] at M191
        refine ⟨⟨(aS1_of (x := (x1, x2)) M191 (by simp)), fun m => match m with | 0 => .inl rfl | 1 => .inl rfl | _ + 2 => .inl rfl⟩, ?_⟩
        simp only [Act.put, List.setIfInBounds_toArray, List.set_cons_zero, List.set_cons_succ]
        refine wpAnyK_done (by kernel_rfl) ?_ _
        go_wp2_with fail
        go_end0
        exact ⟨rfl, HP.out ▸ ⟨_, _, _, M191.sub (((((List.Sublist.refl _).cons _).cons _).cons _).cons _)⟩⟩
  · refine wpOp_bB (d := some 16) rfl M a rfl (fun k195 w194 M193 => ?_)
    refine ⟨⟨(aS1_of (x := (x1, x2)) M193 (by simp)), fun m => .inr fun _ => (aS2_of (n := n) M193 (by simp) (by simp) (by simp)) m⟩, ?_⟩
    simp only [Act.put, List.setIfInBounds_toArray, List.set_cons_zero, List.set_cons_succ]
    refine wpAnyK_all2 (i := 3) (j := 11) (by kernel_rfl) ?_ ?_
    · refine wpOp_bL (d := some 12) rfl M193 (x1, x2) rfl (fun k198 w197 M196 => ?_)
      refine ⟨⟨(aS1_of (x := (x1, x2)) M196 (by simp)), fun m => .inr fun _ => (aS2_of (n := n) M196 (by simp) (by simp) (by simp)) m⟩, ?_⟩
      simp only [Act.put, List.setIfInBounds_toArray, List.set_cons_zero, List.set_cons_succ]
      refine wpAnyK_all2 (i := 4) (j := 11) (by kernel_rfl) ?_ ?_
      · refine wpOp_aL (d := some 13) rfl M196 k198 (x1, x2) (by simp) H1.out rfl rfl (fun a201 n202 c203 w200 M199 => ?_)
        refine ⟨⟨(aS1_of (x := (x1, x2)) M199 (by simp)), fun m => .inr fun _ => (aS2_of (n := n) M199 (by simp) (by simp) (by simp)) m⟩, ?_⟩
        simp only [Act.put, List.setIfInBounds_toArray, List.set_cons_zero, List.set_cons_succ]
        refine wpAnyK_take1 (i := 13) (some 22) (v := (.pointer (some ⟨O, 1, none⟩))) rfl rfl (by kernel_rfl) (by kernel_rfl) (by kernel_rfl) (fun _ _ _ h => h) (.inl ⟨by rfl, fun w' hw' => run_field85 _ O 1 (by omega) rfl⟩) (aS1_of (x := (x1, x2)) M199 (by simp)) ?_
        simp only [Act.put, List.setIfInBounds_toArray, List.set_cons_zero, List.set_cons_succ]
        refine wpAnyK_all2 (i := 8) (j := 11) (by kernel_rfl) ?_ ?_
        · refine wpOp_aA (d := some 17) rfl M199 k195 a (by simp) H2.out rfl rfl (fun a206 n207 c208 w205 M204 => ?_)
          refine ⟨⟨(aS1_of (x := (x1, x2)) M204 (by simp)), fun m => .inr fun _ => (aS2_of (n := n) M204 (by simp) (by simp) (by simp)) m⟩, ?_⟩
          simp only [Act.put, List.setIfInBounds_toArray, List.set_cons_zero, List.set_cons_succ]
          refine wpAnyK_all1 (i := 11) (by kernel_rfl) ?_
          refine wpOp_bB (d := some 20) rfl M204 b rfl (fun k211 w210 M209 => ?_)
          refine ⟨⟨(aS1_of (x := (x1, x2)) M209 (by simp)), fun m => .inr fun _ => (aS2_of (n := n) M209 (by simp) (by simp) (by simp)) m⟩, ?_⟩
          simp only [Act.put, List.setIfInBounds_toArray, List.set_cons_zero, List.set_cons_succ]
          refine wpAnyK_all1 (i := 12) (by kernel_rfl) ?_
          refine wpOp_aB (d := some 21) rfl M209 k211 b (by simp) H3.out rfl rfl (fun a214 n215 c216 w213 M212 => ?_)
          refine ⟨⟨(aS1_of (x := (x1, x2)) M212 (by simp)), fun m => .inr fun _ => (aS2_of (n := n) M212 (by simp) (by simp) (by simp)) m⟩, ?_⟩
          simp only [Act.put, List.setIfInBounds_toArray, List.set_cons_zero, List.set_cons_succ]
          refine wpAnyK_all1 (i := 14) (by kernel_rfl) (wpOp_st (d := none) rfl M212 (by simp) 4 rfl 1 a201 n202 c203 _ rfl rfl rfl (fun w218 M217 => ?_))
          simp only [List.setIfInBounds_toArray, List.set_cons_zero, List.set_cons_succ] at M217
          refine ⟨⟨(aS1_of (x := (x1, x2)) M217 (by simp)), fun m => match m with | 0 => .inl rfl | 1 => .inr fun _ => M217.cell (X := KA) (xs := #[va]) (t := 116) (by simp) 0 | _ + 2 => .inr fun _ => M217.cell (X := KB) (xs := #[vb]) (t := 116) (by simp) 0⟩, ?_⟩
          simp only [Act.put, List.setIfInBounds_toArray, List.set_cons_zero, List.set_cons_succ]
          refine wpAnyK_all1 (i := 15) (by kernel_rfl) (wpOp_st (d := none) rfl M217 (by simp) 5 rfl 0 a206 n207 c208 _ rfl rfl rfl (fun w220 M219 => ?_))
          simp only [List.setIfInBounds_toArray, List.set_cons_zero, List.set_cons_succ] at M219
          refine ⟨⟨(aS1_of (x := (x1, x2)) M219 (by simp)), fun m => match m with | 0 => .inl rfl | 1 => .inl rfl | _ + 2 => .inr fun _ => M219.cell (X := KB) (xs := #[vb]) (t := 116) (by simp) 0⟩, ?_⟩
          simp only [Act.put, List.setIfInBounds_toArray, List.set_cons_zero, List.set_cons_succ]
          refine wpAnyK_all1 (i := 16) (by kernel_rfl) (wpOp_st (d := none) rfl M219 (by simp) 6 rfl 0 a214 n215 c216 _ rfl rfl rfl (fun w222 M221 => ?_))
          simp only [List.setIfInBounds_toArray, List.set_cons_zero, List.set_cons_succ] at M221
          refine ⟨⟨(aS1_of (x := (x1, x2)) M221 (by simp)), fun m => match m with | 0 => .inl rfl | 1 => .inl rfl | _ + 2 => .inl rfl⟩, ?_⟩
          simp only [Act.put, List.setIfInBounds_toArray, List.set_cons_zero, List.set_cons_succ]
          refine wpAnyK_done (by kernel_rfl) ?_ _
          go_wp2_with fail
          go_end0
          exact ⟨rfl, HP.out ▸ ⟨_, _, _, M221.sub (((((List.Sublist.refl _).cons _).cons _).cons _).cons _)⟩⟩
        · refine wpOp_bB (d := some 20) rfl M199 b rfl (fun k225 w224 M223 => ?_)
          refine ⟨⟨(aS1_of (x := (x1, x2)) M223 (by simp)), fun m => .inr fun _ => (aS2_of (n := n) M223 (by simp) (by simp) (by simp)) m⟩, ?_⟩
          simp only [Act.put, List.setIfInBounds_toArray, List.set_cons_zero, List.set_cons_succ]
          refine wpAnyK_all1 (i := 8) (by kernel_rfl) ?_
          refine wpOp_aA (d := some 17) rfl M223 k195 a (by simp) H2.out rfl rfl (fun a228 n229 c230 w227 M226 => ?_)
          refine ⟨⟨(aS1_of (x := (x1, x2)) M226 (by simp)), fun m => .inr fun _ => (aS2_of (n := n) M226 (by simp) (by simp) (by simp)) m⟩, ?_⟩
          simp only [Act.put, List.setIfInBounds_toArray, List.set_cons_zero, List.set_cons_succ]
          refine wpAnyK_all1 (i := 12) (by kernel_rfl) ?_
          refine wpOp_aB (d := some 21) rfl M226 k225 b (by simp) H3.out rfl rfl (fun a233 n234 c235 w232 M231 => ?_)
          refine ⟨⟨(aS1_of (x := (x1, x2)) M231 (by simp)), fun m => .inr fun _ => (aS2_of (n := n) M231 (by simp) (by simp) (by simp)) m⟩, ?_⟩
          simp only [Act.put, List.setIfInBounds_toArray, List.set_cons_zero, List.set_cons_succ]
          refine wpAnyK_all1 (i := 14) (by kernel_rfl) (wpOp_st (d := none) rfl M231 (by simp) 4 rfl 1 a201 n202 c203 _ rfl rfl rfl (fun w237 M236 => ?_))
          simp only [List.setIfInBounds_toArray, List.set_cons_zero, List.set_cons_succ] at M236
          refine ⟨⟨(aS1_of (x := (x1, x2)) M236 (by simp)), fun m => match m with | 0 => .inl rfl | 1 => .inr fun _ => M236.cell (X := KA) (xs := #[va]) (t := 116) (by simp) 0 | _ + 2 => .inr fun _ => M236.cell (X := KB) (xs := #[vb]) (t := 116) (by simp) 0⟩, ?_⟩
          simp only [Act.put, List.setIfInBounds_toArray, List.set_cons_zero, List.set_cons_succ]
          refine wpAnyK_all1 (i := 15) (by kernel_rfl) (wpOp_st (d := none) rfl M236 (by simp) 5 rfl 0 a228 n229 c230 _ rfl rfl rfl (fun w239 M238 => ?_))
          simp only [List.setIfInBounds_toArray, List.set_cons_zero, List.set_cons_succ] at M238
          refine ⟨⟨(aS1_of (x := (x1, x2)) M238 (by simp)), fun m => match m with | 0 => .inl rfl | 1 => .inl rfl | _ + 2 => .inr fun _ => M238.cell (X := KB) (xs := #[vb]) (t := 116) (by simp) 0⟩, ?_⟩
          simp only [Act.put, List.setIfInBounds_toArray, List.set_cons_zero, List.set_cons_succ]
          refine wpAnyK_all1 (i := 16) (by kernel_rfl) (wpOp_st (d := none) rfl M238 (by simp) 6 rfl 0 a233 n234 c235 _ rfl rfl rfl (fun w241 M240 => ?_))
          simp only [List.setIfInBounds_toArray, List.set_cons_zero, List.set_cons_succ] at M240
          refine ⟨⟨(aS1_of (x := (x1, x2)) M240 (by simp)), fun m => match m with | 0 => .inl rfl | 1 => .inl rfl | _ + 2 => .inl rfl⟩, ?_⟩
          simp only [Act.put, List.setIfInBounds_toArray, List.set_cons_zero, List.set_cons_succ]
          refine wpAnyK_done (by kernel_rfl) ?_ _
          go_wp2_with fail
          go_end0
          exact ⟨rfl, HP.out ▸ ⟨_, _, _, M240.sub (((((List.Sublist.refl _).cons _).cons _).cons _).cons _)⟩⟩
      · refine wpOp_bB (d := some 20) rfl M196 b rfl (fun k244 w243 M242 => ?_)
        refine ⟨⟨(aS1_of (x := (x1, x2)) M242 (by simp)), fun m => .inr fun _ => (aS2_of (n := n) M242 (by simp) (by simp) (by simp)) m⟩, ?_⟩
        simp only [Act.put, List.setIfInBounds_toArray, List.set_cons_zero, List.set_cons_succ]
        refine wpAnyK_all1 (i := 4) (by kernel_rfl) ?_
        refine wpOp_aL (d := some 13) rfl M242 k198 (x1, x2) (by simp) H1.out rfl rfl (fun a247 n248 c249 w246 M245 => ?_)
        refine ⟨⟨(aS1_of (x := (x1, x2)) M245 (by simp)), fun m => .inr fun _ => (aS2_of (n := n) M245 (by simp) (by simp) (by simp)) m⟩, ?_⟩
        simp only [Act.put, List.setIfInBounds_toArray, List.set_cons_zero, List.set_cons_succ]
        refine wpAnyK_take1 (i := 13) (some 22) (v := (.pointer (some ⟨O, 1, none⟩))) rfl rfl (by kernel_rfl) (by kernel_rfl) (by kernel_rfl) (fun _ _ _ h => h) (.inl ⟨by rfl, fun w' hw' => run_field85 _ O 1 (by omega) rfl⟩) (aS1_of (x := (x1, x2)) M245 (by simp)) ?_
        simp only [Act.put, List.setIfInBounds_toArray, List.set_cons_zero, List.set_cons_succ]
        refine wpAnyK_all1 (i := 8) (by kernel_rfl) ?_
        refine wpOp_aA (d := some 17) rfl M245 k195 a (by simp) H2.out rfl rfl (fun a252 n253 c254 w251 M250 => ?_)
        refine ⟨⟨(aS1_of (x := (x1, x2)) M250 (by simp)), fun m => .inr fun _ => (aS2_of (n := n) M250 (by simp) (by simp) (by simp)) m⟩, ?_⟩
        simp only [Act.put, List.setIfInBounds_toArray, List.set_cons_zero, List.set_cons_succ]
        refine wpAnyK_all1 (i := 12) (by kernel_rfl) ?_
        refine wpOp_aB (d := some 21) rfl M250 k244 b (by simp) H3.out rfl rfl (fun a257 n258 c259 w256 M255 => ?_)
        refine ⟨⟨(aS1_of (x := (x1, x2)) M255 (by simp)), fun m => .inr fun _ => (aS2_of (n := n) M255 (by simp) (by simp) (by simp)) m⟩, ?_⟩
        simp only [Act.put, List.setIfInBounds_toArray, List.set_cons_zero, List.set_cons_succ]
        refine wpAnyK_all1 (i := 14) (by kernel_rfl) (wpOp_st (d := none) rfl M255 (by simp) 4 rfl 1 a247 n248 c249 _ rfl rfl rfl (fun w261 M260 => ?_))
        simp only [List.setIfInBounds_toArray, List.set_cons_zero, List.set_cons_succ] at M260
        refine ⟨⟨(aS1_of (x := (x1, x2)) M260 (by simp)), fun m => match m with | 0 => .inl rfl | 1 => .inr fun _ => M260.cell (X := KA) (xs := #[va]) (t := 116) (by simp) 0 | _ + 2 => .inr fun _ => M260.cell (X := KB) (xs := #[vb]) (t := 116) (by simp) 0⟩, ?_⟩
        simp only [Act.put, List.setIfInBounds_toArray, List.set_cons_zero, List.set_cons_succ]
        refine wpAnyK_all1 (i := 15) (by kernel_rfl) (wpOp_st (d := none) rfl M260 (by simp) 5 rfl 0 a252 n253 c254 _ rfl rfl rfl (fun w263 M262 => ?_))
        simp only [List.setIfInBounds_toArray, List.set_cons_zero, List.set_cons_succ] at M262
        refine ⟨⟨(aS1_of (x := (x1, x2)) M262 (by simp)), fun m => match m with | 0 => .inl rfl | 1 => .inl rfl | _ + 2 => .inr fun _ => M262.cell (X := KB) (xs := #[vb]) (t := 116) (by simp) 0⟩, ?_⟩
        simp only [Act.put, List.setIfInBounds_toArray, List.set_cons_zero, List.set_cons_succ]
        refine wpAnyK_all1 (i := 16) (by kernel_rfl) (wpOp_st (d := none) rfl M262 (by simp) 6 rfl 0 a257 n258 c259 _ rfl rfl rfl (fun w265 M264 => ?_))
        simp only [List.setIfInBounds_toArray, List.set_cons_zero, List.set_cons_succ] at M264
        refine ⟨⟨(aS1_of (x := (x1, x2)) M264 (by simp)), fun m => match m with | 0 => .inl rfl | 1 => .inl rfl | _ + 2 => .inl rfl⟩, ?_⟩
        simp only [Act.put, List.setIfInBounds_toArray, List.set_cons_zero, List.set_cons_succ]
        refine wpAnyK_done (by kernel_rfl) ?_ _
        go_wp2_with fail
        go_end0
        exact ⟨rfl, HP.out ▸ ⟨_, _, _, M264.sub (((((List.Sublist.refl _).cons _).cons _).cons _).cons _)⟩⟩
    · refine wpOp_bB (d := some 20) rfl M193 b rfl (fun k268 w267 M266 => ?_)
      refine ⟨⟨(aS1_of (x := (x1, x2)) M266 (by simp)), fun m => .inr fun _ => (aS2_of (n := n) M266 (by simp) (by simp) (by simp)) m⟩, ?_⟩
      simp only [Act.put, List.setIfInBounds_toArray, List.set_cons_zero, List.set_cons_succ]
      refine wpAnyK_all1 (i := 3) (by kernel_rfl) ?_
      refine wpOp_bL (d := some 12) rfl M266 (x1, x2) rfl (fun k271 w270 M269 => ?_)
      refine ⟨⟨(aS1_of (x := (x1, x2)) M269 (by simp)), fun m => .inr fun _ => (aS2_of (n := n) M269 (by simp) (by simp) (by simp)) m⟩, ?_⟩
      simp only [Act.put, List.setIfInBounds_toArray, List.set_cons_zero, List.set_cons_succ]
      refine wpAnyK_all1 (i := 4) (by kernel_rfl) ?_
      refine wpOp_aL (d := some 13) rfl M269 k271 (x1, x2) (by simp) H1.out rfl rfl (fun a274 n275 c276 w273 M272 => ?_)
      refine ⟨⟨(aS1_of (x := (x1, x2)) M272 (by simp)), fun m => .inr fun _ => (aS2_of (n := n) M272 (by simp) (by simp) (by simp)) m⟩, ?_⟩
      simp only [Act.put, List.setIfInBounds_toArray, List.set_cons_zero, List.set_cons_succ]
      refine wpAnyK_take1 (i := 13) (some 22) (v := (.pointer (some ⟨O, 1, none⟩))) rfl rfl (by kernel_rfl) (by kernel_rfl) (by kernel_rfl) (fun _ _ _ h => h) (.inl ⟨by rfl, fun w' hw' => run_field85 _ O 1 (by omega) rfl⟩) (aS1_of (x := (x1, x2)) M272 (by simp)) ?_
      simp only [Act.put, List.setIfInBounds_toArray, List.set_cons_zero, List.set_cons_succ]
      refine wpAnyK_all1 (i := 8) (by kernel_rfl) ?_
      refine wpOp_aA (d := some 17) rfl M272 k195 a (by simp) H2.out rfl rfl (fun a279 n280 c281 w278 M277 => ?_)
      refine ⟨⟨(aS1_of (x := (x1, x2)) M277 (by simp)), fun m => .inr fun _ => (aS2_of (n := n) M277 (by simp) (by simp) (by simp)) m⟩, ?_⟩
      simp only [Act.put, List.setIfInBounds_toArray, List.set_cons_zero, List.set_cons_succ]
      refine wpAnyK_all1 (i := 12) (by kernel_rfl) ?_
      refine wpOp_aB (d := some 21) rfl M277 k268 b (by simp) H3.out rfl rfl (fun a284 n285 c286 w283 M282 => ?_)
      refine ⟨⟨(aS1_of (x := (x1, x2)) M282 (by simp)), fun m => .inr fun _ => (aS2_of (n := n) M282 (by simp) (by simp) (by simp)) m⟩, ?_⟩
      simp only [Act.put, List.setIfInBounds_toArray, List.set_cons_zero, List.set_cons_succ]
      refine wpAnyK_all1 (i := 14) (by kernel_rfl) (wpOp_st (d := none) rfl M282 (by simp) 4 rfl 1 a274 n275 c276 _ rfl rfl rfl (fun w288 M287 => ?_))
      simp only [List.setIfInBounds_toArray, List.set_cons_zero, List.set_cons_succ] at M287
      refine ⟨⟨(aS1_of (x := (x1, x2)) M287 (by simp)), fun m => match m with | 0 => .inl rfl | 1 => .inr fun _ => M287.cell (X := KA) (xs := #[va]) (t := 116) (by simp) 0 | _ + 2 => .inr fun _ => M287.cell (X := KB) (xs := #[vb]) (t := 116) (by simp) 0⟩, ?_⟩
      simp only [Act.put, List.setIfInBounds_toArray, List.set_cons_zero, List.set_cons_succ]
      refine wpAnyK_all1 (i := 15) (by kernel_rfl) (wpOp_st (d := none) rfl M287 (by simp) 5 rfl 0 a279 n280 c281 _ rfl rfl rfl (fun w290 M289 => ?_))
      simp only [List.setIfInBounds_toArray, List.set_cons_zero, List.set_cons_succ] at M289
      refine ⟨⟨(aS1_of (x := (x1, x2)) M289 (by simp)), fun m => match m with | 0 => .inl rfl | 1 => .inl rfl | _ + 2 => .inr fun _ => M289.cell (X := KB) (xs := #[vb]) (t := 116) (by simp) 0⟩, ?_⟩
      simp only [Act.put, List.setIfInBounds_toArray, List.set_cons_zero, List.set_cons_succ]
      refine wpAnyK_all1 (i := 16) (by kernel_rfl) (wpOp_st (d := none) rfl M289 (by simp) 6 rfl 0 a284 n285 c286 _ rfl rfl rfl (fun w292 M291 => ?_))
      simp only [List.setIfInBounds_toArray, List.set_cons_zero, List.set_cons_succ] at M291
      refine ⟨⟨(aS1_of (x := (x1, x2)) M291 (by simp)), fun m => match m with | 0 => .inl rfl | 1 => .inl rfl | _ + 2 => .inl rfl⟩, ?_⟩
      simp only [Act.put, List.setIfInBounds_toArray, List.set_cons_zero, List.set_cons_succ]
      refine wpAnyK_done (by kernel_rfl) ?_ _
      go_wp2_with fail
      go_end0
      exact ⟨rfl, HP.out ▸ ⟨_, _, _, M291.sub (((((List.Sublist.refl _).cons _).cons _).cons _).cons _)⟩⟩
  · refine wpOp_bB (d := some 20) rfl M b rfl (fun k295 w294 M293 => ?_)
    refine ⟨⟨(aS1_of (x := (x1, x2)) M293 (by simp)), fun m => .inr fun _ => (aS2_of (n := n) M293 (by simp) (by simp) (by simp)) m⟩, ?_⟩
    simp only [Act.put, List.setIfInBounds_toArray, List.set_cons_zero, List.set_cons_succ]
    refine wpAnyK_all2 (i := 3) (j := 7) (by kernel_rfl) ?_ ?_
    · refine wpOp_bL (d := some 12) rfl M293 (x1, x2) rfl (fun k298 w297 M296 => ?_)
      refine ⟨⟨(aS1_of (x := (x1, x2)) M296 (by simp)), fun m => .inr fun _ => (aS2_of (n := n) M296 (by simp) (by simp) (by simp)) m⟩, ?_⟩
      simp only [Act.put, List.setIfInBounds_toArray, List.set_cons_zero, List.set_cons_succ]
      refine wpAnyK_all2 (i := 4) (j := 7) (by kernel_rfl) ?_ ?_
      · refine wpOp_aL (d := some 13) rfl M296 k298 (x1, x2) (by simp) H1.out rfl rfl (fun a301 n302 c303 w300 M299 => ?_)
        refine ⟨⟨(aS1_of (x := (x1, x2)) M299 (by simp)), fun m => .inr fun _ => (aS2_of (n := n) M299 (by simp) (by simp) (by simp)) m⟩, ?_⟩
        simp only [Act.put, List.setIfInBounds_toArray, List.set_cons_zero, List.set_cons_succ]
        refine wpAnyK_take1 (i := 13) (some 22) (v := (.pointer (some ⟨O, 1, none⟩))) rfl rfl (by kernel_rfl) (by kernel_rfl) (by kernel_rfl) (fun _ _ _ h => h) (.inl ⟨by rfl, fun w' hw' => run_field85 _ O 1 (by omega) rfl⟩) (aS1_of (x := (x1, x2)) M299 (by simp)) ?_
        simp only [Act.put, List.setIfInBounds_toArray, List.set_cons_zero, List.set_cons_succ]
        refine wpAnyK_all1 (i := 7) (by kernel_rfl) ?_
        refine wpOp_bB (d := some 16) rfl M299 a rfl (fun k306 w305 M304 => ?_)
        refine ⟨⟨(aS1_of (x := (x1, x2)) M304 (by simp)), fun m => .inr fun _ => (aS2_of (n := n) M304 (by simp) (by simp) (by simp)) m⟩, ?_⟩
        simp only [Act.put, List.setIfInBounds_toArray, List.set_cons_zero, List.set_cons_succ]
        refine wpAnyK_all1 (i := 8) (by kernel_rfl) ?_
        refine wpOp_aA (d := some 17) rfl M304 k306 a (by simp) H2.out rfl rfl (fun a309 n310 c311 w308 M307 => ?_)
        refine ⟨⟨(aS1_of (x := (x1, x2)) M307 (by simp)), fun m => .inr fun _ => (aS2_of (n := n) M307 (by simp) (by simp) (by simp)) m⟩, ?_⟩
        simp only [Act.put, List.setIfInBounds_toArray, List.set_cons_zero, List.set_cons_succ]
        refine wpAnyK_all1 (i := 12) (by kernel_rfl) ?_
        refine wpOp_aB (d := some 21) rfl M307 k295 b (by simp) H3.out rfl rfl (fun a314 n315 c316 w313 M312 => ?_)
        refine ⟨⟨(aS1_of (x := (x1, x2)) M312 (by simp)), fun m => .inr fun _ => (aS2_of (n := n) M312 (by simp) (by simp) (by simp)) m⟩, ?_⟩
        simp only [Act.put, List.setIfInBounds_toArray, List.set_cons_zero, List.set_cons_succ]
        refine wpAnyK_all1 (i := 14) (by kernel_rfl) (wpOp_st (d := none) rfl M312 (by simp) 4 rfl 1 a301 n302 c303 _ rfl rfl rfl (fun w318 M317 => ?_))
        simp only [List.setIfInBounds_toArray, List.set_cons_zero, List.set_cons_succ] at M317
        refine ⟨⟨(aS1_of (x := (x1, x2)) M317 (by simp)), fun m => match m with | 0 => .inl rfl | 1 => .inr fun _ => M317.cell (X := KA) (xs := #[va]) (t := 116) (by simp) 0 | _ + 2 => .inr fun _ => M317.cell (X := KB) (xs := #[vb]) (t := 116) (by simp) 0⟩, ?_⟩
        simp only [Act.put, List.setIfInBounds_toArray, List.set_cons_zero, List.set_cons_succ]
        refine wpAnyK_all1 (i := 15) (by kernel_rfl) (wpOp_st (d := none) rfl M317 (by simp) 5 rfl 0 a309 n310 c311 _ rfl rfl rfl (fun w320 M319 => ?_))
        simp only [List.setIfInBounds_toArray, List.set_cons_zero, List.set_cons_succ] at M319
        refine ⟨⟨(aS1_of (x := (x1, x2)) M319 (by simp)), fun m => match m with | 0 => .inl rfl | 1 => .inl rfl | _ + 2 => .inr fun _ => M319.cell (X := KB) (xs := #[vb]) (t := 116) (by simp) 0⟩, ?_⟩
        simp only [Act.put, List.setIfInBounds_toArray, List.set_cons_zero, List.set_cons_succ]
        refine wpAnyK_all1 (i := 16) (by kernel_rfl) (wpOp_st (d := none) rfl M319 (by simp) 6 rfl 0 a314 n315 c316 _ rfl rfl rfl (fun w322 M321 => ?_))
        simp only [List.setIfInBounds_toArray, List.set_cons_zero, List.set_cons_succ] at M321
        refine ⟨⟨(aS1_of (x := (x1, x2)) M321 (by simp)), fun m => match m with | 0 => .inl rfl | 1 => .inl rfl | _ + 2 => .inl rfl⟩, ?_⟩
        simp only [Act.put, List.setIfInBounds_toArray, List.set_cons_zero, List.set_cons_succ]
        refine wpAnyK_done (by kernel_rfl) ?_ _
        go_wp2_with fail
        go_end0
        exact ⟨rfl, HP.out ▸ ⟨_, _, _, M321.sub (((((List.Sublist.refl _).cons _).cons _).cons _).cons _)⟩⟩
      · refine wpOp_bB (d := some 16) rfl M296 a rfl (fun k325 w324 M323 => ?_)
        refine ⟨⟨(aS1_of (x := (x1, x2)) M323 (by simp)), fun m => .inr fun _ => (aS2_of (n := n) M323 (by simp) (by simp) (by simp)) m⟩, ?_⟩
        simp only [Act.put, List.setIfInBounds_toArray, List.set_cons_zero, List.set_cons_succ]
        refine wpAnyK_all1 (i := 4) (by kernel_rfl) ?_
        refine wpOp_aL (d := some 13) rfl M323 k298 (x1, x2) (by simp) H1.out rfl rfl (fun a328 n329 c330 w327 M326 => ?_)
        refine ⟨⟨(aS1_of (x := (x1, x2)) M326 (by simp)), fun m => .inr fun _ => (aS2_of (n := n) M326 (by simp) (by simp) (by simp)) m⟩, ?_⟩
        simp only [Act.put, List.setIfInBounds_toArray, List.set_cons_zero, List.set_cons_succ]
        refine wpAnyK_take1 (i := 13) (some 22) (v := (.pointer (some ⟨O, 1, none⟩))) rfl rfl (by kernel_rfl) (by kernel_rfl) (by kernel_rfl) (fun _ _ _ h => h) (.inl ⟨by rfl, fun w' hw' => run_field85 _ O 1 (by omega) rfl⟩) (aS1_of (x := (x1, x2)) M326 (by simp)) ?_
        simp only [Act.put, List.setIfInBounds_toArray, List.set_cons_zero, List.set_cons_succ]
        refine wpAnyK_all1 (i := 8) (by kernel_rfl) ?_
        refine wpOp_aA (d := some 17) rfl M326 k325 a (by simp) H2.out rfl rfl (fun a333 n334 c335 w332 M331 => ?_)
        refine ⟨⟨(aS1_of (x := (x1, x2)) M331 (by simp)), fun m => .inr fun _ => (aS2_of (n := n) M331 (by simp) (by simp) (by simp)) m⟩, ?_⟩
        simp only [Act.put, List.setIfInBounds_toArray, List.set_cons_zero, List.set_cons_succ]
        refine wpAnyK_all1 (i := 12) (by kernel_rfl) ?_
        refine wpOp_aB (d := some 21) rfl M331 k295 b (by simp) H3.out rfl rfl (fun a338 n339 c340 w337 M336 => ?_)
        refine ⟨⟨(aS1_of (x := (x1, x2)) M336 (by simp)), fun m => .inr fun _ => (aS2_of (n := n) M336 (by simp) (by simp) (by simp)) m⟩, ?_⟩
        simp only [Act.put, List.setIfInBounds_toArray, List.set_cons_zero, List.set_cons_succ]
        refine wpAnyK_all1 (i := 14) (by kernel_rfl) (wpOp_st (d := none) rfl M336 (by simp) 4 rfl 1 a328 n329 c330 _ rfl rfl rfl (fun w342 M341 => ?_))
        simp only [List.setIfInBounds_toArray, List.set_cons_zero, List.set_cons_succ] at M341
        refine ⟨⟨(aS1_of (x := (x1, x2)) M341 (by simp)), fun m => match m with | 0 => .inl rfl | 1 => .inr fun _ => M341.cell (X := KA) (xs := #[va]) (t := 116) (by simp) 0 | _ + 2 => .inr fun _ => M341.cell (X := KB) (xs := #[vb]) (t := 116) (by simp) 0⟩, ?_⟩
        simp only [Act.put, List.setIfInBounds_toArray, List.set_cons_zero, List.set_cons_succ]
        refine wpAnyK_all1 (i := 15) (by kernel_rfl) (wpOp_st (d := none) rfl M341 (by simp) 5 rfl 0 a333 n334 c335 _ rfl rfl rfl (fun w344 M343 => ?_))
        simp only [List.setIfInBounds_toArray, List.set_cons_zero, List.set_cons_succ] at M343
        refine ⟨⟨(aS1_of (x := (x1, x2)) M343 (by simp)), fun m => match m with | 0 => .inl rfl | 1 => .inl rfl | _ + 2 => .inr fun _ => M343.cell (X := KB) (xs := #[vb]) (t := 116) (by simp) 0⟩, ?_⟩
        simp only [Act.put, List.setIfInBounds_toArray, List.set_cons_zero, List.set_cons_succ]
        refine wpAnyK_all1 (i := 16) (by kernel_rfl) (wpOp_st (d := none) rfl M343 (by simp) 6 rfl 0 a338 n339 c340 _ rfl rfl rfl (fun w346 M345 => ?_))
        simp only [List.setIfInBounds_toArray, List.set_cons_zero, List.set_cons_succ] at M345
        refine ⟨⟨(aS1_of (x := (x1, x2)) M345 (by simp)), fun m => match m with | 0 => .inl rfl | 1 => .inl rfl | _ + 2 => .inl rfl⟩, ?_⟩
        simp only [Act.put, List.setIfInBounds_toArray, List.set_cons_zero, List.set_cons_succ]
        refine wpAnyK_done (by kernel_rfl) ?_ _
        go_wp2_with fail
        go_end0
        exact ⟨rfl, HP.out ▸ ⟨_, _, _, M345.sub (((((List.Sublist.refl _).cons _).cons _).cons _).cons _)⟩⟩
    · refine wpOp_bB (d := some 16) rfl M293 a rfl (fun k349 w348 M347 => ?_)
      refine ⟨⟨(aS1_of (x := (x1, x2)) M347 (by simp)), fun m => .inr fun _ => (aS2_of (n := n) M347 (by simp) (by simp) (by simp)) m⟩, ?_⟩
      simp only [Act.put, List.setIfInBounds_toArray, List.set_cons_zero, List.set_cons_succ]
      refine wpAnyK_all1 (i := 3) (by kernel_rfl) ?_
      refine wpOp_bL (d := some 12) rfl M347 (x1, x2) rfl (fun k352 w351 M350 => ?_)
      refine ⟨⟨(aS1_of (x := (x1, x2)) M350 (by simp)), fun m => .inr fun _ => (aS2_of (n := n) M350 (by simp) (by simp) (by simp)) m⟩, ?_⟩
      simp only [Act.put, List.setIfInBounds_toArray, List.set_cons_zero, List.set_cons_succ]
      refine wpAnyK_all1 (i := 4) (by kernel_rfl) ?_
      refine wpOp_aL (d := some 13) rfl M350 k352 (x1, x2) (by simp) H1.out rfl rfl (fun a355 n356 c357 w354 M353 => ?_)
      refine ⟨⟨(aS1_of (x := (x1, x2)) M353 (by simp)), fun m => .inr fun _ => (aS2_of (n := n) M353 (by simp) (by simp) (by simp)) m⟩, ?_⟩
      simp only [Act.put, List.setIfInBounds_toArray, List.set_cons_zero, List.set_cons_succ]
      refine wpAnyK_take1 (i := 13) (some 22) (v := (.pointer (some ⟨O, 1, none⟩))) rfl rfl (by kernel_rfl) (by kernel_rfl) (by kernel_rfl) (fun _ _ _ h => h) (.inl ⟨by rfl, fun w' hw' => run_field85 _ O 1 (by omega) rfl⟩) (aS1_of (x := (x1, x2)) M353 (by simp)) ?_
      simp only [Act.put, List.setIfInBounds_toArray, List.set_cons_zero, List.set_cons_succ]
      refine wpAnyK_all1 (i := 8) (by kernel_rfl) ?_
      refine wpOp_aA (d := some 17) rfl M353 k349 a (by simp) H2.out rfl rfl (fun a360 n361 c362 w359 M358 => ?_)
      refine ⟨⟨(aS1_of (x := (x1, x2)) M358 (by simp)), fun m => .inr fun _ => (aS2_of (n := n) M358 (by simp) (by simp) (by simp)) m⟩, ?_⟩
      simp only [Act.put, List.setIfInBounds_toArray, List.set_cons_zero, List.set_cons_succ]
      refine wpAnyK_all1 (i := 12) (by kernel_rfl) ?_
      refine wpOp_aB (d := some 21) rfl M358 k295 b (by simp) H3.out rfl rfl (fun a365 n366 c367 w364 M363 => ?_)
      refine ⟨⟨(aS1_of (x := (x1, x2)) M363 (by simp)), fun m => .inr fun _ => (aS2_of (n := n) M363 (by simp) (by simp) (by simp)) m⟩, ?_⟩
      simp only [Act.put, List.setIfInBounds_toArray, List.set_cons_zero, List.set_cons_succ]
      refine wpAnyK_all1 (i := 14) (by kernel_rfl) (wpOp_st (d := none) rfl M363 (by simp) 4 rfl 1 a355 n356 c357 _ rfl rfl rfl (fun w369 M368 => ?_))
      simp only [List.setIfInBounds_toArray, List.set_cons_zero, List.set_cons_succ] at M368
      refine ⟨⟨(aS1_of (x := (x1, x2)) M368 (by simp)), fun m => match m with | 0 => .inl rfl | 1 => .inr fun _ => M368.cell (X := KA) (xs := #[va]) (t := 116) (by simp) 0 | _ + 2 => .inr fun _ => M368.cell (X := KB) (xs := #[vb]) (t := 116) (by simp) 0⟩, ?_⟩
      simp only [Act.put, List.setIfInBounds_toArray, List.set_cons_zero, List.set_cons_succ]
      refine wpAnyK_all1 (i := 15) (by kernel_rfl) (wpOp_st (d := none) rfl M368 (by simp) 5 rfl 0 a360 n361 c362 _ rfl rfl rfl (fun w371 M370 => ?_))
      simp only [List.setIfInBounds_toArray, List.set_cons_zero, List.set_cons_succ] at M370
      refine ⟨⟨(aS1_of (x := (x1, x2)) M370 (by simp)), fun m => match m with | 0 => .inl rfl | 1 => .inl rfl | _ + 2 => .inr fun _ => M370.cell (X := KB) (xs := #[vb]) (t := 116) (by simp) 0⟩, ?_⟩
      simp only [Act.put, List.setIfInBounds_toArray, List.set_cons_zero, List.set_cons_succ]
      refine wpAnyK_all1 (i := 16) (by kernel_rfl) (wpOp_st (d := none) rfl M370 (by simp) 6 rfl 0 a365 n366 c367 _ rfl rfl rfl (fun w373 M372 => ?_))
      simp only [List.setIfInBounds_toArray, List.set_cons_zero, List.set_cons_succ] at M372
      refine ⟨⟨(aS1_of (x := (x1, x2)) M372 (by simp)), fun m => match m with | 0 => .inl rfl | 1 => .inl rfl | _ + 2 => .inl rfl⟩, ?_⟩
      simp only [Act.put, List.setIfInBounds_toArray, List.set_cons_zero, List.set_cons_succ]
      refine wpAnyK_done (by kernel_rfl) ?_ _
      go_wp2_with fail
      go_end0
      exact ⟨rfl, HP.out ▸ ⟨_, _, _, M372.sub (((((List.Sublist.refl _).cons _).cons _).cons _).cons _)⟩⟩
end Go.Proofs.Ytajigndlcdiinaa
