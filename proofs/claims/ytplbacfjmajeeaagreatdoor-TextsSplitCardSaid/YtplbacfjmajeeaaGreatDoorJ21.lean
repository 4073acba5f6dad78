/- A part of the proof of the statement on TextsSplit. -/
import Derived.Test.YtplbacfjmajeeaaGreatDoorJA
import Derived.Test.YtplbacfjmajeeaaGreatDoorJ02
import Derived.Deep.RegionHeld3
import Derived.Deep.RegionLaw
import Derived.Handy
import Derived.LoopN
import Derived.Deep.QuietTactic
import Derived.BigQuiet
namespace Go.Proofs.YtplbacfjmajeeaaGreatDoor
open Go.Lib (hid)
set_option maxHeartbeats 4000000
set_option maxRecDepth 100000
open Go.RowKit
def intC (xs : List Int) : List Value := xs.map (Value.int .i64)
theorem intC_append (a b : List Int) : intC (a ++ b) = intC a ++ intC b := by simp [intC]
theorem intC_len (a : List Int) : (intC a).length = a.length := by simp [intC]
def Ints (w : World) (v : Value) (xs : List Int) : Prop :=
 ∃ a c, v = .slice a xs.length c ∧ (xs = [] ∨ ∃ g o, a = some ⟨g, o, none⟩ ∧ ∀ j u, (intC xs)[j]? = some u → w.cell? ⟨g, o + j, none⟩ = some u)
theorem Ints.kept {w w' : World} {v : Value} {xs : List Int} (h : Ints w v xs) (g : ∀ b o u, w.cell? ⟨b, o, none⟩ = some u → w'.cell? ⟨b, o, none⟩ = some u) : Ints w' v xs := by
 obtain ⟨a, c, hv, h⟩ := h
 refine ⟨a, c, hv, ?_⟩
 rcases h with h | ⟨b, o, ha, h⟩
 · exact .inl h
 · exact .inr ⟨b, o, ha, fun j u hj => g _ _ _ (h j u hj)⟩
theorem Ints.grow {w w' : World} {v : Value} {xs : List Int} (h : Ints w v xs) (g : w.grownBy w' none) : Ints w' v xs := h.kept fun _ _ _ hc => cell_grown hc g
theorem Ints.of_own {w : World} {base n : Nat} {v : Value} {xs : List Int} (h : w.ownsRow base 3 1 v n (intC xs)) : Ints w v xs := by
 have hn : n = xs.length := by have := h.1; rw [intC_len] at this; omega
 subst hn
 obtain ⟨a, c, rfl⟩ := ownsRow_slice h
 refine ⟨a, c, rfl, ?_⟩
 by_cases h0 : 0 < xs.length
 · obtain ⟨g, cap, hv, hb, hc⟩ := ownsRow_cell h h0
   simp only [Value.slice.injEq] at hv
   exact .inr ⟨g, 0, hv.1, fun j u hj => by simpa using hc j u hj⟩
 · exact .inl (List.eq_nil_of_length_eq_zero (by omega))
theorem Ints.nil (w : World) (a : Option Addr) (c : Nat) : Ints w (.slice a 0 c) [] := ⟨a, c, rfl, .inl rfl⟩
theorem Ints.elem {w : World} {v : Value} {xs : List Int} (h : Ints w v xs) : ∃ a c, v = .slice a xs.length c ∧ ∀ j, j < xs.length → ∃ g o, a = some ⟨g, o, none⟩ ∧ w.cell? ⟨g, o + j, none⟩ = some (.int .i64 (xs.getD j 0)) := by
 obtain ⟨a, c, hv, h⟩ := h
 refine ⟨a, c, hv, fun j hj => ?_⟩
 rcases h with rfl | ⟨b, o, ha, h⟩
 · simp at hj
 · refine ⟨b, o, ha, h j _ ?_⟩
   simp [intC, List.getD, hj]
theorem info3n : ∃ i, Tryz.prog.info? 3 = some i ∧ i.zero = some (.int .i64 0) ∧ i.size = 1 ∧ i.bytes = 8 := by
 have h : (Tryz.prog.info? 3).map (fun i => (i.zero, i.size, i.bytes)) = some (some (.int .i64 0), 1, 8) := by kernel_rfl
 cases hi : Tryz.prog.info? 3 with
 | none => rw [hi] at h; cases h
 | some i =>
  rw [hi] at h
  simp only [Option.map_some, Option.some.injEq, Prod.mk.injEq] at h
  exact ⟨i, rfl, h.1, h.2.1, h.2.2⟩
theorem run_append_ints {w : World} {base n : Nat} {v s : Value} {xs ys : List Int} (ty : TypeId) (hown : w.ownsRow base 3 1 v n (intC ys)) (hs : Ints w s xs) (hn : n + xs.length ≤ 1000000) (hb : base ≤ w.heap.size) :
 ∃ v' w', (Builtin.append_ #[22, 22] ty #[v, s]).run Tryz.prog w = .ok v' w' ∧ w'.ownsRow base 3 1 v' (n + xs.length) (intC (ys ++ xs)) ∧ w.grownBy w' v.ownBlock := by
 obtain ⟨i, hi, hz, hsz, hby⟩ := info3n
 obtain ⟨a, c, rfl, h⟩ := hs
 rcases h with rfl | ⟨g, o, rfl, h⟩
 · refine ⟨v, w, ?_, by simpa using hown, ⟨rfl, rfl, rfl, Nat.le_refl _, fun _ _ _ => rfl⟩⟩
   rcases hown.2 with ⟨rfl, rfl⟩ | ⟨g, cap, cur, rfl, hbg, hg, hnc, hcm, hcs, htake⟩
   · cases a <;> simp [Builtin.append_, run_underlying Tryz.underlying22, sizeOf, typeInfo, hi, Builtin.lenOf, Builtin.firstCells, loadCells, loadCellsFrom]
   · cases a <;> simp [Builtin.append_, run_underlying Tryz.underlying22, sizeOf, typeInfo, hi, Builtin.lenOf, Builtin.firstCells, loadCells, loadCellsFrom, hnc, storeCells]
 · obtain ⟨v', w', h1, h2, h3, _⟩ := run_append_own (P := Tryz.prog) w base 22 ty 3 i (.int .i64 0) 1 8 Tryz.underlying22 hi hz hsz hby rfl (by decide) v n (intC ys) hown ⟨g, o, none⟩ xs.length c (intC xs) (by simp [intC_len]) (fun j u hj => by rw [Addr.add_lit]; exact h j u hj)
    (fun u hu => by simp only [intC, List.mem_map] at hu; obtain ⟨_, _, rfl⟩ := hu; rfl) (by unfold maxLen; omega) (by omega) hb
   exact ⟨v', w', h1, by rw [intC_append]; exact h2, h3⟩
theorem wpList_append_ints {ops : Array Oper} {rest : List Oper} {o : Oper} {a : Act} {w : World} {Q : Exit → Act → World → Prop} (hgd : o.guard = none) (s x : Operand)
 (ho : o.op = .call { callee := .builtin .append, args := #[s, x], argTypes := #[22, 22] }) {base n : Nat} (v : Value) {u : Value} {xs ys : List Int} (hv : a.eval s = v) (hx : a.eval x = u) (hown : w.ownsRow base 3 1 v n (intC ys)) (hs : Ints w u xs) (hn : n + xs.length ≤ 1000000) (hb : base ≤ w.heap.size)
 (h : ∀ v' w', w'.ownsRow base 3 1 v' (n + xs.length) (intC (ys ++ xs)) → w.grownBy w' v.ownBlock → wpList Tryz.prog ops Q rest (a.put o.dst v') w') : wpList Tryz.prog ops Q (o :: rest) a w := by
 refine wpList_plain hgd fun K hK => ?_
 obtain ⟨v', w', hr, h2, h3⟩ := run_append_ints o.type hown hs hn hb
 unfold Oper.wp execOp
 simp only [ho, resolve, invoke, builtin, Sem.run_bind, Sem.run_pure, Result.andThen_ok, List.map_toArray, List.map_cons, List.map_nil, hv, hx, hr]
 exact hK _ _ (h v' w' h2 h3)
theorem run_append_make (w : World) (ty : TypeId) (n : Nat) (h0 : 0 < n) (hn : n ≤ 1000000) :
 (Builtin.append_ #[22, 3] ty #[.slice none 0 0, .int .i64 n]).run Tryz.prog w =
  .ok (.slice (some ⟨w.heap.size, 0, none⟩) n (grownCap w n 0 3)) (w.drew.alloc (.cells (Builtin.zeroCells #[.int .i64 0] n ++ Builtin.zeroCells #[.int .i64 0] (grownCap w n 0 3 - n)) 3)) := by
 obtain ⟨i, hi, hz, hsz, hby⟩ := info3n
 have hw : IntKind.i64.wrap (n : Int) = (n : Int) := Go.IntWalk.i64_in _ (by omega)
 have e1 : ¬ ((n : Int) < 0) := by omega
 have e2 : ¬ (281474976710656 < (n : Int) * 8) := by omega
 have e3 : n ≠ 0 := by omega
 have e4 : ¬ ((n : Int) ≤ 0) := by omega
 have hm : max (n : Int) 0 = n := by omega
 have h63' : ¬ (9223372036854775807 < (n : Int)) := by omega
 have h48' : ¬ (281474976710656 < Builtin.nextslicecap n 0 * 8) := by rw [nextslicecap_zero h0]; omega
 simp [Builtin.append_, run_underlying Tryz.underlying22, run_underlying Tryz.underlying3, sizeOf, typeInfo, zeroValue, hi, hz, hsz, hby, asInt, asIntOf, hm, Value.cells, hw, e1, e2, e3, h63', h48', Question.forced, run_firstCells_none, newRow, grownCap]
theorem wpList_append_make {ops : Array Oper} {rest : List Oper} {o : Oper} {a : Act} {w : World} {Q : Exit → Act → World → Prop} (hgd : o.guard = none) (s x : Operand)
 (ho : o.op = .call { callee := .builtin .append, args := #[s, x], argTypes := #[22, 3] }) (n : Nat) (h0 : 0 < n) (hn : n ≤ 1000000) (hv : a.eval s = .slice none 0 0) (hx : a.eval x = .int .i64 n)
 (h : ∀ (cap : Nat) w', w'.ownsRow w.heap.size 3 1 (.slice (some ⟨w.heap.size, 0, none⟩) 0 cap) 0 [] → w.grownBy w' none → (0 : Int) ≤ cap → (cap : Int) ≤ 9223372036854775807 → wpList Tryz.prog ops Q rest (a.put o.dst (.slice (some ⟨w.heap.size, 0, none⟩) n cap)) w') : wpList Tryz.prog ops Q (o :: rest) a w := by
 refine wpList_plain hgd fun K hK => ?_
 have hr := run_append_make w o.type n h0 hn
 have hge := grownCap_ge w n 0 3
 have hcm := grownCap_le_maxLen w n 0 3 (by unfold maxLen; omega)
 unfold Oper.wp execOp
 simp only [ho, resolve, invoke, builtin, Sem.run_bind, Sem.run_pure, Result.andThen_ok, List.map_toArray, List.map_cons, List.map_nil, hv, hx, hr]
 refine hK _ _ (h _ _ (World.ownsRow_made w.drew _ _ (Nat.le_refl _) hcm ?_) ⟨rfl, rfl, rfl, by simp, fun k hk _ => heap_alloc_old w.drew _ hk⟩ (by omega) ?_)
 · simp [size_zeroCells]; omega
 · unfold maxLen at hcm; omega
def OwnPost (w : World) (xs : List Int) (e : Ending) (w' : World) : Prop := ∃ v, e = .returned v ∧ w'.ownsRow w.heap.size 3 1 v xs.length (intC xs) ∧ w.grownBy w' none
theorem grow_any (n : Nat) (hn : n ≤ 1000000) (w : World) : Calls Tryz.prog 122 #[.slice none 0 0, .int .i64 n] w (OwnPost w []) := by
 by_cases h0 : 0 < n
 · go_enter Tryz.func122, Tryz.ntmps122
   go_wp2_with (at_builtin; refine wpList_append_make rfl _ _ rfl n h0 hn rfl rfl ?_; intro cap w1 hown hgrow hc0 hc1)
   go_ret
   exact ⟨_, rfl, hown, hgrow⟩
 · obtain rfl : n = 0 := by omega
   go_enter Tryz.func122, Tryz.ntmps122
   go_wp2_with fail
   go_ret
   exact ⟨_, rfl, World.ownsRow_nil _ _ _ _, grow_self w⟩
theorem concat_any (va vb : Value) (xs ys : List Int) (g : Nat) (fr : Nat × Nat) (w : World) (hx : Ints w va xs) (hy : Ints w vb ys) (hn : xs.length + ys.length ≤ 1000000) (hg : w.heap[g]? = some (.cells #[va, vb] 22 fr)) :
 Calls Tryz.prog 105 #[.slice (some ⟨g, 0, none⟩) 2 2] w (OwnPost w (xs ++ ys)) := by
 have HX := hid hx
 have HY := hid hy
 obtain ⟨a1, c1, rfl, _⟩ := hx
 obtain ⟨a2, c2, rfl, _⟩ := hy
 have l0 := cell_of_block hg 0
 have l1 := cell_of_block hg 1
 simp only [xGe, xGz, xGs] at l0 l1
 have HG := hid hg
 clear hg
 have HGr := hid (show ∀ w, Calls Tryz.prog 122 #[.slice none 0 0, .int .i64 ((xs.length : Int) + (ys.length : Int))] w (OwnPost w []) from fun w => by
  have := grow_any (xs.length + ys.length) hn w
  rwa [Int.natCast_add] at this)
 go_enter Tryz.func105, Tryz.ntmps105
 go_wp2_with fail
 refine wp_loop_rounds 3 ?_
 rw [rounds_succ]
 go_wp2_with fail
 rw [rounds_succ]
 go_wp2_with fail
 rw [rounds_succ]
 go_wp2_with fail
 refine (HGr.out _).mono ?_
 rintro e w1 ⟨v, rfl, own1, g1⟩
 obtain ⟨av, cv, rfl⟩ := ownsRow_slice own1
 have m0 := cell_grown l0 g1
 have m1 := cell_grown l1 g1
 have HX1 := hid (HX.out.grow g1)
 have HY1 := hid (HY.out.grow g1)
 have HG1 := hid g1
 have HB1 := hid (grow_new g1 HG.out)
 have HO1 := hid (show w1.ownsRow w.heap.size 3 1 (.slice av 0 cv) 0 (intC []) from own1)
 clear g1 own1 l0 l1
 have hs1 := HG1.out.size
 go_wp2_with fail
 refine wp_loop_rounds 3 ?_
 rw [rounds_succ]
 go_wp2_with (at_builtin; refine wpList_append_ints rfl _ _ rfl (.slice av 0 cv) rfl rfl HO1.out HX1.out (by simp; omega) hs1 ?_; intro v2 w2 own2 g2; obtain ⟨av2, cv2, rfl⟩ := ownsRow_slice own2; have HB2 := hid (grown_block HO1.out g2 HB1.out (by decide)); have n0 := cell_of_block HB2.out 0; have n1 := cell_of_block HB2.out 1; simp only [xGe, xGz, xGs] at n0 n1; clear m0 m1)
 have HO2 := hid (show w2.ownsRow w.heap.size 3 1 (.slice av2 xs.length cv2) xs.length (intC xs) by simpa using own2)
 have HG2 := hid (grow_row HG1.out g2 (fun k hk => (HO1.out.lt k hk).1))
 have HY2 := hid (HY.out.grow HG2.out)
 have hs2 := HG2.out.size
 clear own2 g2
 rw [rounds_succ]
 go_wp2_with (at_builtin; refine wpList_append_ints rfl _ _ rfl (.slice av2 xs.length cv2) rfl rfl HO2.out HY2.out hn hs2 ?_; intro v3 w3 own3 g3; obtain ⟨av3, cv3, rfl⟩ := ownsRow_slice own3; have HB3 := hid (grown_block HO2.out g3 HB2.out (by decide)); have o0 := cell_of_block HB3.out 0; have o1 := cell_of_block HB3.out 1; simp only [xGe, xGz, xGs] at o0 o1; clear n0 n1)
 have HG3 := hid (grow_row HG2.out g3 (fun k hk => (HO2.out.lt k hk).1))
 have HO3 := hid (show w3.ownsRow w.heap.size 3 1 (.slice av3 (xs ++ ys).length cv3) (xs ++ ys).length (intC (xs ++ ys)) by simpa using own3)
 clear own3 g3
 rw [rounds_succ]
 go_wp2_with fail
 go_ret
 refine ⟨_, ?_, HO3.out, HG3.out⟩
 simp
theorem isNaN_any (x : Int) (w : World) : Calls Tryz.prog 125 #[.int .i64 x] w fun e w' => e = .returned (.bool false) ∧ w = w' := by
 go_enter Tryz.func125, Tryz.ntmps125
 go_wp2_with fail
 go_ret
 exact ⟨rfl, rfl⟩
theorem less_any (x y : Int) (w : World) : Calls Tryz.prog 108 #[.int .i64 x, .int .i64 y] w fun e w' => e = .returned (.bool (decide (x < y))) ∧ w = w' := by
 go_enter Tryz.func108, Tryz.ntmps108
 go_wp2_with (go_at_call 125; refine (isNaN_any _ _).mono ?_; rintro e w1 ⟨rfl, rfl⟩)
 go_ret
 exact ⟨rfl, rfl⟩
set_option maxRecDepth 1000000 in
theorem len64_small (n : Nat) (hn : n ≤ 2) (w : World) : Calls Tryz.prog 140 #[.int .u64 n] w fun e w' => (∃ k : Int, e = .returned (.int .i64 k)) ∧ w = w' := by
 have h : n = 0 ∨ n = 1 ∨ n = 2 := by omega
 rcases h with rfl | rfl | rfl
 all_goals
  go_enter Tryz.func140, Tryz.ntmps140
  go_wp2_with fail
  go_ret
  exact ⟨⟨_, rfl⟩, rfl⟩
theorem len_small (n : Nat) (hn : n ≤ 2) (w : World) : Calls Tryz.prog 124 #[.int .u64 n] w fun e w' => (∃ k : Int, e = .returned (.int .i64 k)) ∧ w = w' := by
 go_enter Tryz.func124, Tryz.ntmps124
 go_wp2_with fail
 refine (len64_small n hn _).mono ?_
 rintro e w1 ⟨⟨k, rfl⟩, rfl⟩
 go_wp2_with fail
 go_ret
 exact ⟨⟨_, rfl⟩, rfl⟩
def zeros (n : Nat) : List Int := List.replicate n 0
def Quiet0 (w : World) (e : Ending) (w' : World) : Prop := e = .returned (.tuple #[]) ∧ w.grownBy w' none
theorem less_q (x y : Int) (w : World) : Calls Tryz.prog 108 #[.int .i64 x, .int .i64 y] w fun e w' => e = .returned (.bool (decide (x < y))) ∧ w' = w := (less_any x y w).mono fun _ _ ⟨h1, h2⟩ => ⟨h1, h2.symm⟩
theorem isort_z (n : Nat) (hn : n ≤ 2) (v : Value) (w : World) (h : Ints w v (zeros n)) : Calls Tryz.prog 131 #[v, .int .i64 0, .int .i64 n] w (Quiet0 w) := by
 have hz : n = 0 ∨ n = 1 ∨ n = 2 := by omega
 obtain ⟨a, c, rfl, hc⟩ := h.elem
 rcases hz with rfl | rfl | rfl
 · clear hc h
   go_enter Tryz.func131, Tryz.ntmps131
   go_wp2_with fail
   refine wp_loop_rounds 1 ?_
   rw [rounds_succ]
   go_wp2_with fail
   go_end0
   exact ⟨rfl, grow_self w⟩
 · clear hc h
   go_enter Tryz.func131, Tryz.ntmps131
   go_wp2_with fail
   refine wp_loop_rounds 1 ?_
   rw [rounds_succ]
   go_wp2_with fail
   go_end0
   exact ⟨rfl, grow_self w⟩
 · obtain ⟨g, o, rfl, h0⟩ := hc 0 (by decide)
   obtain ⟨g', o', e, h1⟩ := hc 1 (by decide)
   simp only [Option.some.injEq, Addr.mk.injEq, and_true] at e
   obtain ⟨rfl, rfl⟩ := e
   simp only [zeros, List.replicate, List.getD_cons_zero, List.getD_cons_succ, Nat.add_zero] at h0 h1
   clear hc h
   rw [show (zeros 2).length = 2 from rfl]
   go_enter Tryz.func131, Tryz.ntmps131
   go_wp2_with fail
   refine wp_loop_rounds 2 ?_
   rw [rounds_succ]
   go_wp2_with fail
   refine wp_loop_rounds 1 ?_
   rw [rounds_succ]
   go_wp2_with fail
   go_quiet ((go_at_call 108; exact Calls.quiet_of_same (less_q _ _ _)))
   go_wp2_with fail
   rw [rounds_succ]
   go_wp2_with fail
   go_end0
   exact ⟨rfl, ⟨rfl, rfl, rfl, Nat.le_refl _, fun _ _ _ => rfl⟩⟩
theorem pdq_z (n : Nat) (hn : n ≤ 2) (v : Value) (k : Int) (w : World) (h : Ints w v (zeros n)) : Calls Tryz.prog 123 #[v, .int .i64 0, .int .i64 n, .int .i64 k] w (Quiet0 w) := by
 have H := hid (isort_z n hn v w h)
 have h1 : (0 : Int) ≤ n := by omega
 have h2 : (n : Int) ≤ 12 := by omega
 obtain ⟨a, c, rfl, _⟩ := h
 go_enter Tryz.func123, Tryz.ntmps123
 go_wp2_with fail
 refine wp_loop_rounds 1 ?_
 rw [rounds_succ]
 go_wp2_with fail
 refine H.out.mono ?_
 rintro e w1 ⟨rfl, g1⟩
 go_wp2_with fail
 go_end0
 exact ⟨rfl, g1⟩
theorem sort_z (n : Nat) (hn : n ≤ 2) (v : Value) (w : World) (h : Ints w v (zeros n)) : Calls Tryz.prog 106 #[v] w (Quiet0 w) := by
 have H := hid (fun k => pdq_z n hn v k w h)
 have hl : (zeros n).length = n := by simp [zeros]
 obtain ⟨a, c, rfl, _⟩ := h
 rw [hl] at H ⊢
 clear hl
 have h1 : (0 : Int) ≤ n := by omega
 have h2 : (n : Int) ≤ 2 := by omega
 go_enter Tryz.func106, Tryz.ntmps106
 go_wp2_with fail
 refine (len_small n hn _).mono ?_
 rintro e w1 ⟨⟨k, rfl⟩, rfl⟩
 go_wp2_with fail
 refine (H.out k).mono ?_
 rintro e w1 ⟨rfl, g1⟩
 go_wp2_with fail
 go_end0
 exact ⟨rfl, g1⟩
theorem run_clear_one (w : World) (g : Nat) (cur : Array Value) (hg : w.heap[g]? = some (.cells cur 3 (0, 0))) (h0 : cur[0]? = some (.int .i64 0)) (hs : 2 ≤ cur.size) :
 ∃ w', (∀ (c : Nat) (ty : TypeId), (Builtin.clear_ #[22] ty #[.slice (some ⟨g, 1, none⟩) 1 c]).run Tryz.prog w = .ok (.tuple #[]) w') ∧ w'.cell? ⟨g, 0, none⟩ = some (.int .i64 0) ∧ w.grownBy w' (some g) := by
 obtain ⟨i, hi, hz, hsz, hby⟩ := info3n
 have hr := run_storeCells_at Tryz.prog g 1 3 [.int .i64 0] 0 cur w hg (by simpa using hs) (by simp [Value.oneCell'])
 have hc : (w.setRow g (cur.toList.take (1 + 0) ++ [Value.int .i64 0] ++ cur.toList.drop (1 + 0 + [Value.int .i64 0].length)).toArray).cell? ⟨g, 0, none⟩ = some (.int .i64 0) := by
  rw [cell_of_block (setRow_heap w g cur _ 3 _ hg)]
  simp only [xGe]
  rw [List.append_assoc, List.getElem?_append_left (by simp; omega)]
  simpa using h0
 have hgr : w.grownBy (w.setRow g (cur.toList.take (1 + 0) ++ [Value.int .i64 0] ++ cur.toList.drop (1 + 0 + [Value.int .i64 0].length)).toArray) (some g) :=
  ⟨rfl, rfl, rfl, by simp, fun k _ hk => setRow_other w g k _ (fun e => hk (by simp [e]))⟩
 refine ⟨_, fun c ty => ?_, hc, hgr⟩
 have hzc : (Builtin.zeroCells #[Value.int .i64 0] 1).toList = [.int .i64 0] := by simp [Builtin.zeroCells]
 simp only [Builtin.clear_, zeroValue, typeInfo]
 simp [run_underlying Tryz.underlying22, hi, hz, Value.cells, hzc, hr]
theorem compact_z (n : Nat) (hn : n ≤ 2) (v : Value) (w : World) (base : Nat) (h : w.ownsRow base 3 1 v n (intC (zeros n))) :
 Calls Tryz.prog 107 #[v] w fun e w' => ∃ v', e = .returned v' ∧ Ints w' v' (zeros (min n 1)) ∧ w.grownBy w' v.ownBlock := by
 have hz : n = 0 ∨ n = 1 ∨ n = 2 := by omega
 have hi := Ints.of_own h
 rcases hz with rfl | rfl | rfl
 · obtain ⟨a, c, rfl⟩ := ownsRow_slice h
   go_enter Tryz.func107, Tryz.ntmps107
   go_wp2_with fail
   go_ret
   exact ⟨_, rfl, hi, ⟨rfl, rfl, rfl, Nat.le_refl _, fun _ _ _ => rfl⟩⟩
 · obtain ⟨a, c, rfl⟩ := ownsRow_slice h
   go_enter Tryz.func107, Tryz.ntmps107
   go_wp2_with fail
   go_ret
   exact ⟨_, rfl, hi, ⟨rfl, rfl, rfl, Nat.le_refl _, fun _ _ _ => rfl⟩⟩
 · obtain ⟨g, cap, rfl, hb, hc⟩ := ownsRow_cell h (by omega)
   have h0 := hc 0 (.int .i64 0) rfl
   have h1 := hc 1 (.int .i64 0) rfl
   obtain ⟨_, cs, hcs⟩ := ownsRow_block h g rfl
   have f0 := free_of_block hcs 0
   have f1 := free_of_block hcs 1
   have hcsz : 2 ≤ cs.size := by
    have := h1; rw [cell_of_block hcs] at this
    rcases Nat.lt_or_ge 1 cs.size with h | h
    · omega
    · rw [Array.getElem?_eq_none h] at this; cases this
   have hcap : 2 ≤ cap := by
    rcases h.2 with ⟨e, _⟩ | ⟨_, _, _, e, _, _, hle, _⟩
    · cases e
    · simp only [Value.slice.injEq] at e; omega
   have hcl := hid (fun n => run_clear_one (w.drewN n) g cs (by simpa using hcs) (by rw [← cell_of_block hcs 0]; exact h0) hcsz)
   clear hc h hi hcs
   have hcap2 : (2 : Int) ≤ cap := by omega
   go_enter Tryz.func107, Tryz.ntmps107
   go_wp2_with fail
   refine wp_loop_rounds 1 ?_
   rw [rounds_succ]
   go_wp2_with fail
   go_quiet (fail)
   obtain ⟨w1, hrun, hc1, hg1⟩ := hcl.out nq
   have HC := hid hc1
   have HG := hid (show w.grownBy w1 (some g) from ⟨hg1.os, hg1.tape, hg1.output, hg1.size, hg1.block⟩)
   clear hc1 hg1
   go_wp2_with fail
   refine wp_loop_rounds 1 ?_
   rw [rounds_succ]
   go_wp2_with fail
   go_ret
   exact ⟨_, rfl, ⟨_, _, rfl, .inr ⟨g, 0, rfl, fun j u hj => by cases j with
    | zero => simp [intC, zeros] at hj; rw [← hj]; exact HC.out
    | succ j => simp [intC, zeros] at hj⟩⟩, HG.out⟩
end Go.Proofs.YtplbacfjmajeeaaGreatDoor
