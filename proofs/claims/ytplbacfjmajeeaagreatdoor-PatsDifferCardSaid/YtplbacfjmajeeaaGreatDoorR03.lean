/- A part of the proof of the statement on PatsDiffer: Sets of places. Sets of places: meet, key, newSet. The machine's nodes. Nodes of a machine in their order: what is done, what has begun, what is open. Open places, as a number; the patterns that fit. -/
import Derived.Test.YtplbacfjmajeeaaGreatDoorR02
import Derived.Laws.BitsAllLaws
import Derived.OwnWalk
import Derived.Deep.RegionHeld3
import Derived.Deep.AppendLies
import Derived.Deep.RegionLaw
import Derived.Laws.OwnMore
namespace Go.Proofs.YtplbacfjmajeeaaGreatDoor
open Go.RowKit

/-- words of a set -/
def nw (P : Nat) : Nat := if P = 0 then 0 else 1
structure SetAt (w : World) (v : Value) (P A : Nat) : Prop where
  fits : A < 2 ^ P
  at_ : ∃ b c, v = .slice (some ⟨b, 0, none⟩) (nw P) c ∧ (0 < P → w.cell? ⟨b, 0, none⟩ = some (.int .u64 A))
theorem SetAt.grow {w w' : World} {v : Value} {P A : Nat} (h : SetAt w v P A) (g : w.grownBy w' none) : SetAt w' v P A := by
  obtain ⟨b, c, hv, hc⟩ := h.at_
  exact ⟨h.fits, b, c, hv, fun hp => cell_grown (hc hp) g⟩

theorem pow_le_64 {P A : Nat} (hP : P ≤ 64) (h : A < 2 ^ P) : A < 18446744073709551616 :=
  Nat.lt_of_lt_of_le h (Nat.le_trans (Nat.pow_le_pow_right (by omega) hP) (by decide))

theorem bit_spell (A k : Nat) (h : A < 18446744073709551616) : (bits BinOp.and IntKind.u64 ((A : Int) / 2 ^ k) 1 == 1) = A.testBit k := by
  have e : ((A : Int) / 2 ^ k) = ((A / 2 ^ k : Nat) : Int) := by simp [Int.natCast_ediv]
  have e1 : (1 : Int) = ((1 : Nat) : Int) := rfl
  rw [e, e1, u64_and_nat _ _ (Nat.lt_of_le_of_lt (Nat.div_le_self _ _) h) (by decide), Nat.and_one_is_mod, Nat.testBit_eq_decide_div_mod_eq]
  by_cases hh : A / 2 ^ k % 2 = 1
  · simp [hh]
  · have : A / 2 ^ k % 2 = 0 := by omega
    simp [this]

set_option maxHeartbeats 1000000 in
theorem has_any (v : Value) (P A k : Nat) (w : World) (hP : P ≤ 64) (hk : k < P) (hS : SetAt w v P A) :
    Calls Tryz.prog 112 #[v, .int .i64 k] w fun e w' => e = .returned (.bool (A.testBit k)) ∧ w = w' := by
  obtain ⟨b, c, rfl, hc⟩ := hS.at_
  have hA := pow_le_64 hP hS.fits
  have h1 := hc (by omega)
  have hn : nw P = 1 := by unfold nw; rw [if_neg (by omega)]
  rw [hn]
  have d1 : (k : Int).tdiv 64 = 0 := by rw [Int.tdiv_eq_ediv_of_nonneg (by omega)]; omega
  have d2 : (k : Int) / 64 = 0 := by omega
  have d3 : (k : Int) % 64 = k := by omega
  have hb := Lib.hid (bit_spell A k hA)
  clear hc hn hS hA
  go_enter Tryz.func112, Tryz.ntmps112
  go_wp2_with fail
  go_ret
  exact ⟨ret_bool hb.out, rfl⟩

/-- The cells of a set that the call made. -/
def cellsS (P A : Nat) : Array Value := if P = 0 then #[] else #[.int .u64 A]
structure OwnSet (w : World) (b P A : Nat) : Prop where
  fits : A < 2 ^ P
  blk : w.heap[b]? = some (.cells (cellsS P A) 181 (0, 0))
theorem OwnSet.grow {w w' : World} {b P A : Nat} {r : Option Nat} (h : OwnSet w b P A) (g : w.grownBy w' r) (hr : some b ≠ r) : OwnSet w' b P A :=
  ⟨h.fits, by rw [g.block b (lt_of_block h.blk) hr]; exact h.blk⟩
theorem OwnSet.set {w : World} {b P A : Nat} (h : OwnSet w b P A) : SetAt w (.slice (some ⟨b, 0, none⟩) (nw P) (nw P)) P A := by
  refine ⟨h.fits, b, nw P, rfl, fun hp => ?_⟩
  rw [cell_of_block h.blk, cellsS, if_neg (by omega)]
  rfl

theorem or_lt {P A k : Nat} (h : A < 2 ^ P) (hk : k < P) : A ||| 2 ^ k < 2 ^ P := Nat.or_lt_two_pow h (Nat.pow_lt_pow_right (by omega) hk)

theorem grow_set {w : World} {b : Nat} (m : Nat) (u : Value) : w.grownBy ((w.setCell ⟨b, 0, none⟩ u).drewN m) (some b) :=
  ⟨rfl, rfl, rfl, by simp [World.setCell, World.drewN], fun i hi hne => Below.heap_setCell _ _ _ _ (fun e => hne (by rw [e]))⟩

theorem or_spell (A k : Nat) (h : A < 18446744073709551616) (hk : k < 64) : bits BinOp.or IntKind.u64 (A : Int) (IntKind.u64.wrap (2 ^ k)) = ((A ||| 2 ^ k : Nat) : Int) := by
  have hp : 2 ^ k < 18446744073709551616 := Nat.lt_of_lt_of_le (Nat.pow_lt_pow_right (by omega) hk) (by decide)
  have e : IntKind.u64.wrap (2 ^ k) = ((2 ^ k : Nat) : Int) := by
    have e2 : ((2 : Int) ^ k) = ((2 ^ k : Nat) : Int) := by simp
    rw [e2]
    generalize 2 ^ k = x at hp
    simp only [IntKind.wrap, IntKind.bits, IntKind.signed]
    simp
    omega
  rw [e, u64_or_nat _ _ h hp]
theorem and_lt {P A B : Nat} (h : A < 2 ^ P) : A &&& B < 2 ^ P := Nat.lt_of_le_of_lt Nat.and_le_left h

set_option maxHeartbeats 1000000 in
theorem add_any (b P A k : Nat) (w : World) (hP : P ≤ 64) (hk : k < P) (hS : OwnSet w b P A) :
    Calls Tryz.prog 92 #[.slice (some ⟨b, 0, none⟩) (nw P) (nw P), .int .i64 k] w fun e w' => e = .returned (.tuple #[]) ∧ OwnSet w' b P (A ||| 2 ^ k) ∧ w.grownBy w' (some b) := by
  have hA := pow_le_64 hP hS.fits
  have hn : nw P = 1 := by unfold nw; rw [if_neg (by omega)]
  have hc : ∀ A, cellsS P A = #[.int .u64 A] := fun A => by unfold cellsS; rw [if_neg (by omega)]
  have hb := hS.blk
  rw [hc] at hb
  have c0 := cell_of_block hb 0
  have f0 := free_of_block hb 0
  simp only [List.getElem?_toArray, List.getElem?_cons_zero] at c0
  rw [hn]
  have d1 : (k : Int).tdiv 64 = 0 := by rw [Int.tdiv_eq_ediv_of_nonneg (by omega)]; omega
  have d2 : (k : Int) / 64 = 0 := by omega
  have d3 : (k : Int) % 64 = k := by omega
  have hor := Lib.hid (or_lt hS.fits hk)
  have hB := Lib.hid hb
  have hC := Lib.hid hc
  have HO := Lib.hid (or_spell A k hA (by omega))
  have hk64 : k < 64 := by omega
  clear hc hn hA hb hS
  go_enter Tryz.func92, Tryz.ntmps92
  go_wp2_with fail
  go_region
  all_goals go_end0
  all_goals refine ⟨rfl, ⟨hor.out, ?_⟩, grow_set 1 _⟩
  all_goals rw [HO.out, hC.out]
  all_goals exact heap_setCell_self hB.out 0 _

set_option maxHeartbeats 1000000 in
theorem isEmpty_any (v : Value) (P A : Nat) (w : World) (hS : SetAt w v P A) :
    Calls Tryz.prog 73 #[v] w fun e w' => e = .returned (.bool (decide (A = 0))) ∧ w = w' := by
  obtain ⟨b, c, rfl, hc⟩ := hS.at_
  have hA := hS.fits
  by_cases hP : P = 0
  · have hn : nw P = 0 := by unfold nw; rw [if_pos hP]
    have hz : A = 0 := by rw [hP] at hA; omega
    have HZ := Lib.hid hz
    rw [hn]
    clear hc hn hS hA hz hP
    go_enter Tryz.func73, Tryz.ntmps73
    go_wp2_with fail
    refine wp_loop_rounds 1 ?_
    rw [rounds_succ]
    go_wp2_with fail
    go_ret
    exact ⟨ret_bool (by simp [HZ.out]), rfl⟩
  · have h1 := hc (by omega)
    have hn : nw P = 1 := by unfold nw; rw [if_neg hP]
    rw [hn]
    clear hc hn hS hA hP
    by_cases hz : A = 0
    · have zb : ((A : Int) != 0) = false := by simp [hz]
      have HZ := Lib.hid hz
      clear hz
      go_enter Tryz.func73, Tryz.ntmps73
      go_wp2_with fail
      refine wp_loop_rounds 2 ?_
      rw [rounds_succ]
      go_wp2_with fail
      rw [rounds_succ]
      go_wp2_with fail
      go_ret
      exact ⟨ret_bool (by simp [HZ.out]), rfl⟩
    · have zb : ((A : Int) != 0) = true := by simp [hz]
      have HZ := Lib.hid hz
      clear hz
      go_enter Tryz.func73, Tryz.ntmps73
      go_wp2_with fail
      refine wp_loop_rounds 2 ?_
      rw [rounds_succ]
      go_wp2_with fail
      go_ret
      exact ⟨ret_bool (by simp [HZ.out]), rfl⟩
end Go.Proofs.YtplbacfjmajeeaaGreatDoor
namespace Go.Proofs.YtplbacfjmajeeaaGreatDoor
open Go.RowKit

theorem and_spell (A B : Nat) (h : A < 18446744073709551616) (g : B < 18446744073709551616) : bits BinOp.and IntKind.u64 (A : Int) (B : Int) = ((A &&& B : Nat) : Int) := u64_and_nat A B h g

set_option maxHeartbeats 1000000 in
theorem meet_any (b P C A B : Nat) (va vb : Value) (w : World) (hP : P ≤ 64) (hS : OwnSet w b P C) (hA : SetAt w va P A) (hB : SetAt w vb P B) :
    Calls Tryz.prog 95 #[.slice (some ⟨b, 0, none⟩) (nw P) (nw P), va, vb] w fun e w' => e = .returned (.tuple #[]) ∧ OwnSet w' b P (A &&& B) ∧ w.grownBy w' (some b) := by
  obtain ⟨b1, c1, rfl, hc1⟩ := hA.at_
  obtain ⟨b2, c2, rfl, hc2⟩ := hB.at_
  have g1 := pow_le_64 hP hA.fits
  have g2 := pow_le_64 hP hB.fits
  have hlt := Lib.hid (and_lt (B := B) hA.fits)
  have hb := hS.blk
  by_cases hz : P = 0
  · have hn : nw P = 0 := by unfold nw; rw [if_pos hz]
    have hc : ∀ A, cellsS P A = #[] := fun A => by unfold cellsS; rw [if_pos hz]
    rw [hc] at hb
    have hC := Lib.hid hc
    have hH := Lib.hid hb
    rw [hn]
    clear hc1 hc2 hn hS hA hB hz hc hb
    go_enter Tryz.func95, Tryz.ntmps95
    go_wp2_with fail
    refine wp_loop_rounds 1 ?_
    rw [rounds_succ]
    go_wp2_with fail
    go_end0
    exact ⟨rfl, ⟨hlt.out, by rw [hC.out]; exact hH.out⟩, ⟨rfl, rfl, rfl, Nat.le_refl _, fun _ _ _ => rfl⟩⟩
  · have h1 := hc1 (by omega)
    have h2 := hc2 (by omega)
    have hn : nw P = 1 := by unfold nw; rw [if_neg hz]
    have hc : ∀ A, cellsS P A = #[.int .u64 A] := fun A => by unfold cellsS; rw [if_neg hz]
    rw [hc] at hb
    have c0 := cell_of_block hb 0
    have f0 := free_of_block hb 0
    simp only [List.getElem?_toArray, List.getElem?_cons_zero] at c0
    have hC := Lib.hid hc
    have hH := Lib.hid hb
    have hSp := Lib.hid (and_spell A B g1 g2)
    rw [hn]
    clear hc1 hc2 hn hS hA hB hz hc hb g1 g2
    go_enter Tryz.func95, Tryz.ntmps95
    go_wp2_with fail
    refine wp_loop_rounds 2 ?_
    rw [rounds_succ]
    go_wp2_with fail
    go_region
    all_goals go_wp2_with fail
    all_goals rw [rounds_succ]
    all_goals go_wp2_with fail
    all_goals go_end0
    all_goals refine ⟨rfl, ⟨hlt.out, ?_⟩, grow_set 1 _⟩
    all_goals rw [hSp.out, hC.out]
    all_goals exact heap_setCell_self hH.out 0 _

def keyB (P A : Nat) : List UInt8 := if P = 0 then [] else (List.range 8).map fun i => UInt8.ofNat (A / 2 ^ (8 * i) % 256)
def byteCells (l : List UInt8) : List Value := l.map fun c => .int .u8 c.toNat
theorem info5 : (Tryz.prog.info? 5 /-t:uint8-/).map (fun i => (i.zero, i.size, i.bytes)) = some (some (.int .u8 0), 1, 1) := by kernel_rfl

theorem byteCells_append (a b : List UInt8) : byteCells (a ++ b) = byteCells a ++ byteCells b := by simp [byteCells]
theorem key_len (P A : Nat) (hz : ¬ P = 0) : (keyB P A).length = 8 := by unfold keyB; rw [if_neg hz]; simp
theorem byte_of (x : Nat) : ((UInt8.ofNat (x % 256)).toNat : Int) = (x : Int) % 256 := by
  have : (UInt8.ofNat (x % 256)).toNat = x % 256 := by simp [UInt8.toNat_ofNat']
  rw [this]; simp
theorem key_cells (P A : Nat) (hA : A < 18446744073709551616) (hz : ¬ P = 0) : byteCells (keyB P A) = [Value.int IntKind.u8 (↑A % 256), Value.int IntKind.u8 (↑A / 256 % 256), Value.int IntKind.u8 (↑A / 65536 % 256),
        Value.int IntKind.u8 (↑A / 16777216 % 256), Value.int IntKind.u8 (↑A / 4294967296 % 256),
        Value.int IntKind.u8 (↑A / 1099511627776 % 256), Value.int IntKind.u8 (↑A / 281474976710656 % 256),
        Value.int IntKind.u8 (↑A / 72057594037927936)] := by
  have e : List.range 8 = [0, 1, 2, 3, 4, 5, 6, 7] := by decide
  unfold keyB
  rw [if_neg hz, e]
  simp only [byteCells, List.map_cons, List.map_nil, byte_of, Int.natCast_ediv]
  have hl : ((A : Int) / 72057594037927936) % 256 = (A : Int) / 72057594037927936 := by omega
  simp [hl]

set_option maxHeartbeats 4000000 in
set_option maxRecDepth 100000 in
theorem key_any (v vl : Value) (base n P A : Nat) (xs : List UInt8) (w : World) (hP : P ≤ 64) (hn : n ≤ 1000000) (hb : base ≤ w.heap.size) (hS : SetAt w v P A) (hO : w.ownsRow base 5 1 vl n (byteCells xs)) :
    Calls Tryz.prog 96 #[v, vl] w fun e w' => ∃ v', e = .returned v' ∧ w'.ownsRow base 5 1 v' (n + (keyB P A).length) (byteCells (xs ++ keyB P A)) ∧ w.grownBy w' vl.ownBlock := by
  obtain ⟨i0, hi, hz0, hz1, hz2⟩ := info_parts info5
  obtain ⟨b, c, rfl, hc⟩ := hS.at_
  have hA := pow_le_64 hP hS.fits
  by_cases hz : P = 0
  · have hn : nw P = 0 := by unfold nw; rw [if_pos hz]
    have hk : keyB P A = [] := by unfold keyB; rw [if_pos hz]
    have hK := Lib.hid hk
    rw [hn]
    clear hc hn hS hA hz hk
    go_enter Tryz.func96, Tryz.ntmps96
    go_wp2_with fail
    refine wp_loop_rounds 1 ?_
    rw [rounds_succ]
    go_wp2_with fail
    go_ret
    exact ⟨vl, rfl, by rw [hK.out]; simpa using hO, ⟨rfl, rfl, rfl, Nat.le_refl _, fun _ _ _ => rfl⟩⟩
  · have h1 := hc (by omega)
    have hn : nw P = 1 := by unfold nw; rw [if_neg hz]
    rw [hn]
    clear hc hn hS
    go_enter Tryz.func96, Tryz.ntmps96
    go_wp2_with fail
    refine wp_loop_rounds 2 ?_
    rw [rounds_succ]
    go_wp2_with (at_builtin; refine wpList_append_own _ rfl _ _ 111 rfl base 5 i0 (.int .u8 0) 1 1 Tryz.underlying111 hi hz0 hz1 hz2 rfl (by decide) _ _ _ rfl (hO.alloc _) ⟨w.heap.size, 0, none⟩ 8 8 _ rfl rfl (cells_new _ _ _) (fun x hx => by simp at hx; rcases hx with rfl | rfl | rfl | rfl | rfl | rfl | rfl | rfl <;> rfl) (by unfold maxLen; omega) (by omega) (by simp; omega) ?_; intro v' w1 hown' hgrow _)
    have HK := Lib.hid (key_cells P A hA hz)
    have HL := Lib.hid (key_len P A hz)
    have hO2 : w1.ownsRow base 5 1 v' (n + (keyB P A).length) (byteCells (xs ++ keyB P A)) := by
      rw [HL.out, byteCells_append, HK.out]; exact hown'
    have hg2 : w.grownBy w1 vl.ownBlock := grownBy_trans (World.grownBy_alloc _ _ _) hgrow
    clear hown' hgrow
    go_wp2_with fail
    rw [rounds_succ]
    go_wp2_with fail
    go_ret
    exact ⟨v', rfl, hO2, hg2⟩
end Go.Proofs.YtplbacfjmajeeaaGreatDoor
namespace Go.Proofs.YtplbacfjmajeeaaGreatDoor
open Go.RowKit

structure Nd where
  op : Int
  end_ : Nat
  emp : Bool
  place : Nat
def ndCells (l : List Nd) : List Value := l.flatMap fun x => [.int .i64 x.op, .int .i64 x.end_, .bool x.emp, .int .i64 x.place]
theorem ndCells_len (l : List Nd) : (ndCells l).length = l.length * 4 := by
  induction l with
  | nil => rfl
  | cons x l ih => simp only [ndCells, List.flatMap_cons, List.length_append] at ih ⊢; rw [ih]; simp; omega
theorem ndCells_append (a b : List Nd) : ndCells (a ++ b) = ndCells a ++ ndCells b := by simp [ndCells]
/-- A PatBytes among the bytes: its bounds, and what its Args are. -/
structure Bp where
  lo : Int
  hi : Int
  a : Option Addr
  n : Nat
  c : Nat
def bpCells (l : List Bp) : List Value := l.flatMap fun x => [.int .i64 1, .int .i64 x.lo, .int .i64 x.hi, .slice x.a x.n x.c]
theorem bpCells_append (a b : List Bp) : bpCells (a ++ b) = bpCells a ++ bpCells b := by simp [bpCells]

mutual
def Pt.nodes : Pt → Nat → Nat → List Nd
  | .mk o l h ps, i, b => ⟨o, i + (1 + sizes ps), (Pt.mk o l h ps).nul, b⟩ :: nodesL ps (i + 1) b
def nodesL : List Pt → Nat → Nat → List Nd
  | [], _, _ => []
  | p :: ps, i, b => p.nodes i b ++ nodesL ps (i + p.size) (b + p.leaves)
end
theorem nodesL_take (ps : List Pt) : ∀ (i b j : Nat) (h : j < ps.length), nodesL (ps.take (j + 1)) i b = nodesL (ps.take j) i b ++ ps[j].nodes (i + sizes (ps.take j)) (b + leavesL (ps.take j)) := by
  induction ps with
  | nil => intro i b j h; simp at h
  | cons p ps ih =>
    intro i b j h
    cases j with
    | zero => simp [nodesL, sizes, leavesL]
    | succ j =>
      simp only [List.take_succ_cons, nodesL, sizes, leavesL, List.getElem_cons_succ]
      rw [ih _ _ j (by simpa using h), List.append_assoc, Nat.add_assoc, Nat.add_assoc]
mutual
theorem Pt.nodes_len : (p : Pt) → (i b : Nat) → (p.nodes i b).length = p.size
  | .mk o l h ps, i, b => by simp only [Pt.nodes, Pt.size, List.length_cons, nodesL_len ps]; omega
theorem nodesL_len : (ps : List Pt) → (i b : Nat) → (nodesL ps i b).length = sizes ps
  | [], _, _ => rfl
  | p :: ps, i, b => by simp [nodesL, sizes, Pt.nodes_len p, nodesL_len ps]
end
theorem bytesL_take (ps : List Pt) : ∀ (j : Nat) (h : j < ps.length), bytesL (ps.take (j + 1)) = bytesL (ps.take j) ++ ps[j].bytes := by
  induction ps with
  | nil => intro j h; simp at h
  | cons p ps ih =>
    intro j h
    cases j with
    | zero => simp [bytesL]
    | succ j =>
      simp only [List.take_succ_cons, bytesL, List.getElem_cons_succ]
      rw [ih j (by simpa using h), List.append_assoc]

/-- the form that CheckPat asks -/
inductive Right : Pt → Prop
  | mk (o l h : Int) (ps : List Pt) (ho : 1 ≤ o ∧ o ≤ 4) (hf : formB o l h ps.length = true) (hb : 0 ≤ l ∧ l ≤ 255 ∧ l ≤ h ∧ h ≤ 255) (ha : ∀ p ∈ ps, Right p) : Right (.mk o l h ps)
theorem right_of_fault (p : Pt) : ∀ d, p.fault d = 0 → Right p := by
  induction p using Pt.ind with
  | h o l h ps ih =>
    intro d hd
    simp only [Pt.fault] at hd
    split at hd
    · omega
    · split at hd
      · omega
      · split at hd
        · omega
        · split at hd
          · omega
          · rename_i h1 h2 h3 h4
            refine .mk o l h ps (by omega) (by simpa using h3) (by omega) ?_
            have hall : ∀ (ps : List Pt) (d : Int), faults ps d = 0 → ∀ p ∈ ps, p.fault d = 0 := by
              intro ps d
              induction ps with
              | nil => intro _ p hp; cases hp
              | cons q ps ihp =>
                intro hf p hp
                simp only [faults] at hf
                split at hf
                · rename_i hq
                  rcases List.mem_cons.1 hp with rfl | hp
                  · exact hq
                  · exact ihp hf p hp
                · rename_i hq; exact absurd hf hq
            exact fun p hp => ih p hp _ (hall ps _ hd p hp)

/-- The row has stayed in its block, or is in a new one. -/
def Moved (w : World) (v v' : Value) : Prop := v'.ownBlock = v.ownBlock ∨ ∃ g, v'.ownBlock = some g ∧ w.heap.size ≤ g
theorem Moved.refl (w : World) (v : Value) : Moved w v v := .inl rfl
theorem Moved.trans {w w' : World} {a b c : Value} (h : Moved w a b) (g : Moved w' b c) (hs : w.heap.size ≤ w'.heap.size) : Moved w a c := by
  rcases g with g | ⟨k, g, hk⟩
  · rcases h with h | ⟨k, h, hk⟩
    · exact .inl (g.trans h)
    · exact .inr ⟨k, g.trans h, hk⟩
  · exact .inr ⟨k, g, by omega⟩
theorem Moved.of {w : World} {v : Value} {g n c H : Nat} (h : v.ownBlock = some g ∨ g = H) (hH : w.heap.size ≤ H) : Moved w v (.slice (some ⟨g, 0, none⟩) n c) := by
  rcases h with h | h
  · exact .inl h.symm
  · exact .inr ⟨g, rfl, by omega⟩

/-- What adding a pattern leaves alone. -/
def AddP (bm : Nat) (nv bv : Value) (k : Nat) (_ : Option Obj) : Prop := k ≠ bm ∧ nv.ownBlock ≠ some k ∧ bv.ownBlock ≠ some k

structure AddSt (w : World) (bm : Nat) (C : Array Value) (base : Nat) (nv : Value) (ns : List Nd) (bv : Value) (bs : List Bp) : Prop where
  mch : w.heap[bm]? = some (.cells (C.setIfInBounds 0 nv) 136 (0, 0))
  non : w.ownsRow base 172 4 nv ns.length (ndCells ns)
  byt : w.ownsRow base 28 4 bv bs.length (bpCells bs)

def AddPost (w : World) (bm : Nat) (C : Array Value) (base : Nat) (nv : Value) (ns : List Nd) (bv : Value) (bs : List Bp) (p : Pt) (e : Ending) (w' : World) : Prop :=
  ∃ nv' bv' bs2, e = .returned bv' ∧ AddSt w' bm C base nv' (ns ++ p.nodes ns.length bs.length) bv' (bs ++ bs2) ∧ bs2.map (fun x => (x.lo, x.hi)) = p.bytes ∧ Frm (AddP bm nv bv) w w' ∧ Moved w nv nv' ∧ Moved w bv bv'

theorem info172 : (Tryz.prog.info? 172 /-t:lex.node-/).map (fun i => (i.zero, i.size, i.bytes)) = some (some (.agg #[.int .i64 0, .int .i64 0, .bool false, .int .i64 0]), 4, 32) := by kernel_rfl
theorem info28 : (Tryz.prog.info? 28 /-t:api.Pat-/).map (fun i => (i.zero, i.size, i.bytes)) = some (some (.agg #[.int .i64 0, .int .i64 0, .int .i64 0, .slice none 0 0]), 4, 48) := by kernel_rfl
end Go.Proofs.YtplbacfjmajeeaaGreatDoor
namespace Go.Proofs.YtplbacfjmajeeaaGreatDoor

/-- whether the k-th of patterns one behind the other can begin -/
def thr (A : Nat → Bool) : List Pt → Nat → Bool → Nat → Bool
  | [], _, β, _ => β
  | _ :: _, _, β, 0 => β
  | p :: ps, b, β, k + 1 => thr A ps (b + p.leaves) (p.dn A b || β && p.nul) k
/-- whether the k-th Arg can begin -/
def chB (A : Nat → Bool) (o : Int) (ps : List Pt) (b : Nat) (β : Bool) (k : Nat) : Bool := if o = 2 then thr A ps b β k else if o = 3 then β else β || dnO A ps b
mutual
/-- of each node: it is done -/
def Pt.dns (A : Nat → Bool) : Pt → Nat → List Bool
  | .mk o l h ps, b => (Pt.mk o l h ps).dn A b :: dnsL A ps b
def dnsL (A : Nat → Bool) : List Pt → Nat → List Bool
  | [], _ => []
  | p :: ps, b => p.dns A b ++ dnsL A ps (b + p.leaves)
end
mutual
/-- of each node: it has begun -/
def Pt.bgs (A : Nat → Bool) : Pt → Nat → Bool → List Bool
  | .mk o _ _ ps, b, β => β :: bgsW A ps b (chB A o ps b β)
def bgsW (A : Nat → Bool) : List Pt → Nat → (Nat → Bool) → List Bool
  | [], _, _ => []
  | p :: ps, b, β => p.bgs A b (β 0) ++ bgsW A ps (b + p.leaves) (fun k => β (k + 1))
end
mutual
theorem Pt.dns_len (A : Nat → Bool) : (p : Pt) → (b : Nat) → (p.dns A b).length = p.size
  | .mk o l h ps, b => by simp only [Pt.dns, Pt.size, List.length_cons, dnsL_len A ps]; omega
theorem dnsL_len (A : Nat → Bool) : (ps : List Pt) → (b : Nat) → (dnsL A ps b).length = sizes ps
  | [], _ => rfl
  | p :: ps, b => by simp [dnsL, sizes, Pt.dns_len A p, dnsL_len A ps]
end
mutual
theorem Pt.bgs_len (A : Nat → Bool) : (p : Pt) → (b : Nat) → (β : Bool) → (p.bgs A b β).length = p.size
  | .mk o l h ps, b, β => by simp only [Pt.bgs, Pt.size, List.length_cons, bgsW_len A ps]; omega
theorem bgsW_len (A : Nat → Bool) : (ps : List Pt) → (b : Nat) → (β : Nat → Bool) → (bgsW A ps b β).length = sizes ps
  | [], _, _ => rfl
  | p :: ps, b, β => by simp [bgsW, sizes, Pt.bgs_len A p, bgsW_len A ps]
end

theorem size_pos (p : Pt) : 0 < p.size := by obtain ⟨o, l, h, ps⟩ := p; simp only [Pt.size]; omega
/-- The k-th of patterns, among their nodes. -/
theorem root_at (A : Nat → Bool) (ps : List Pt) : ∀ (i0 b0 k : Nat) (hk : k < ps.length),
    (nodesL ps i0 b0)[sizes (ps.take k)]? = some ⟨ps[k].op, i0 + sizes (ps.take k) + ps[k].size, ps[k].nul, b0 + leavesL (ps.take k)⟩ ∧
    (dnsL A ps b0)[sizes (ps.take k)]? = some (ps[k].dn A (b0 + leavesL (ps.take k))) ∧ ∀ β, (bgsW A ps b0 β)[sizes (ps.take k)]? = some (β k) := by
  induction ps with
  | nil => intro i0 b0 k hk; simp at hk
  | cons p ps ih =>
    intro i0 b0 k hk
    cases k with
    | zero =>
      obtain ⟨o, l, h, qs⟩ := p
      refine ⟨?_, ?_, fun β => ?_⟩
      · simp [nodesL, sizes, leavesL, Pt.nodes, Pt.op, Pt.size]
      · simp [dnsL, sizes, leavesL, Pt.dns]
      · simp [bgsW, sizes, Pt.bgs]
    | succ k =>
      obtain ⟨h1, h2, h3⟩ := ih (i0 + p.size) (b0 + p.leaves) k (by simpa using hk)
      simp only [List.take_succ_cons, nodesL, dnsL, bgsW, sizes, leavesL, List.getElem_cons_succ]
      refine ⟨?_, ?_, fun β => ?_⟩
      · rw [List.getElem?_append_right (by rw [Pt.nodes_len]; omega), Pt.nodes_len, Nat.add_sub_cancel_left, h1]
        simp [Nat.add_assoc]
      · rw [List.getElem?_append_right (by rw [Pt.dns_len]; omega), Pt.dns_len, Nat.add_sub_cancel_left, h2]
        simp [Nat.add_assoc]
      · rw [List.getElem?_append_right (by rw [Pt.bgs_len]; omega), Pt.bgs_len, Nat.add_sub_cancel_left, h3]

/-- What a node is. -/
structure NodeAt (A : Nat → Bool) (ps : List Pt) (i0 b0 i : Nat) (q : Pt) (b : Nat) : Prop where
  right : Right q
  size : i + q.size ≤ sizes ps
  lo : b0 ≤ b
  hi : b + q.leaves ≤ b0 + leavesL ps
  node : (nodesL ps i0 b0)[i]? = some ⟨q.op, i0 + i + q.size, q.nul, b⟩
  done : (dnsL A ps b0)[i]? = some (q.dn A b)
  kid : ∀ k (hk : k < q.args.length), (nodesL ps i0 b0)[i + 1 + sizes (q.args.take k)]? = some ⟨q.args[k].op, i0 + (i + 1 + sizes (q.args.take k)) + q.args[k].size, q.args[k].nul, b + leavesL (q.args.take k)⟩
  kidDone : ∀ k (hk : k < q.args.length), (dnsL A ps b0)[i + 1 + sizes (q.args.take k)]? = some (q.args[k].dn A (b + leavesL (q.args.take k)))
  begun : ∀ β, ∃ γ, (bgsW A ps b0 β)[i]? = some γ ∧ ∀ k, k < q.args.length → (bgsW A ps b0 β)[i + 1 + sizes (q.args.take k)]? = some (chB A q.op q.args b γ k)

theorem sizes_take_lt (ps : List Pt) (k : Nat) (h : k < ps.length) : sizes (ps.take k) < sizes ps := by
  have := sizes_take ps k h; have := sizes_take_le ps (k + 1); have := size_pos ps[k]; omega

theorem right_args {o l h : Int} {qs : List Pt} (hrp : Right (.mk o l h qs)) : (∀ q ∈ qs, Right q) ∧ leavesL qs ≤ (Pt.mk o l h qs).leaves := by
  cases hrp with
  | mk _ _ _ _ _ hf _ ha =>
    refine ⟨ha, ?_⟩
    simp only [Pt.leaves]
    split
    · rename_i h1
      subst h1
      have : qs = [] := List.eq_nil_of_length_eq_zero (by simpa [formB] using hf)
      subst this
      simp [leavesL]
    · exact Nat.le_refl _
theorem NodeAt.here (A : Nat → Bool) (o l h : Int) (qs ps : List Pt) (i0 b0 : Nat) (hrp : Right (.mk o l h qs)) : NodeAt A (.mk o l h qs :: ps) i0 b0 0 (.mk o l h qs) b0 := by
  obtain ⟨hrq, hlv⟩ := right_args hrp
  refine ⟨hrp, by simp [sizes], Nat.le_refl _, by simp only [leavesL]; omega, ?_, ?_, ?_, ?_, ?_⟩
  · simp [nodesL, Pt.nodes, Pt.op, Pt.size]
  · simp [dnsL, Pt.dns]
  · intro k hk
    have hlt := sizes_take_lt qs k hk
    obtain ⟨h1, _, _⟩ := root_at A qs (i0 + 1) b0 k hk
    simp only [nodesL, Pt.nodes, Pt.args] at hk ⊢
    rw [List.getElem?_append_left (by simp only [List.length_cons, nodesL_len]; omega), show 0 + 1 + sizes (qs.take k) = sizes (qs.take k) + 1 by omega, List.getElem?_cons_succ, h1]
    simp [Nat.add_assoc]
    omega
  · intro k hk
    have hlt := sizes_take_lt qs k hk
    obtain ⟨_, h1, _⟩ := root_at A qs (i0 + 1) b0 k hk
    simp only [dnsL, Pt.dns, Pt.args] at hk ⊢
    rw [List.getElem?_append_left (by simp only [List.length_cons, dnsL_len]; omega), show 0 + 1 + sizes (qs.take k) = sizes (qs.take k) + 1 by omega, List.getElem?_cons_succ, h1]
  · intro β
    refine ⟨β 0, by simp [bgsW, Pt.bgs], fun k hk => ?_⟩
    have hlt := sizes_take_lt qs k hk
    obtain ⟨_, _, h1⟩ := root_at A qs (i0 + 1) b0 k hk
    simp only [bgsW, Pt.bgs, Pt.args, Pt.op] at hk ⊢
    rw [List.getElem?_append_left (by simp only [List.length_cons, bgsW_len]; omega), show 0 + 1 + sizes (qs.take k) = sizes (qs.take k) + 1 by omega, List.getElem?_cons_succ, h1]
theorem NodeAt.inside {A : Nat → Bool} {o l h : Int} {qs ps : List Pt} {i0 b0 i : Nat} {q : Pt} {b : Nat} (hrp : Right (.mk o l h qs)) (N : NodeAt A qs (i0 + 1) b0 i q b) : NodeAt A (.mk o l h qs :: ps) i0 b0 (i + 1) q b := by
  obtain ⟨hrq, hlv⟩ := right_args hrp
  have h2 := N.size
  have hq : q.size = 1 + sizes q.args := by obtain ⟨_, _, _, _⟩ := q; rfl
  refine ⟨N.right, by simp only [sizes, Pt.size]; omega, N.lo, by have := N.hi; simp only [leavesL]; omega, ?_, ?_, ?_, ?_, ?_⟩
  · simp only [nodesL, Pt.nodes]
    rw [List.getElem?_append_left (by simp only [List.length_cons, nodesL_len]; omega), List.getElem?_cons_succ, N.node]
    simp; omega
  · simp only [dnsL, Pt.dns]
    rw [List.getElem?_append_left (by simp only [List.length_cons, dnsL_len]; omega), List.getElem?_cons_succ, N.done]
  · intro k hk
    have h4 := N.kid k hk
    have hlt := sizes_take_lt q.args k hk
    simp only [nodesL, Pt.nodes]
    rw [List.getElem?_append_left (by simp only [List.length_cons, nodesL_len]; omega), show i + 1 + 1 + sizes (q.args.take k) = (i + 1 + sizes (q.args.take k)) + 1 by omega, List.getElem?_cons_succ, h4]
    simp; omega
  · intro k hk
    have h4 := N.kidDone k hk
    have hlt := sizes_take_lt q.args k hk
    simp only [dnsL, Pt.dns]
    rw [List.getElem?_append_left (by simp only [List.length_cons, dnsL_len]; omega), show i + 1 + 1 + sizes (q.args.take k) = (i + 1 + sizes (q.args.take k)) + 1 by omega, List.getElem?_cons_succ, h4]
  · intro β
    obtain ⟨γ, h3, h4⟩ := N.begun (chB A o qs b0 (β 0))
    simp only [bgsW, Pt.bgs]
    refine ⟨γ, ?_, fun k hk => ?_⟩
    · rw [List.getElem?_append_left (by simp only [List.length_cons, bgsW_len]; omega), List.getElem?_cons_succ, h3]
    · have hlt := sizes_take_lt q.args k hk
      rw [List.getElem?_append_left (by simp only [List.length_cons, bgsW_len]; omega), show i + 1 + 1 + sizes (q.args.take k) = (i + 1 + sizes (q.args.take k)) + 1 by omega, List.getElem?_cons_succ, h4 k hk]
theorem NodeAt.behind {A : Nat → Bool} {p : Pt} {ps : List Pt} {i0 b0 i : Nat} {q : Pt} {b : Nat} (hi : p.size ≤ i) (N : NodeAt A ps (i0 + p.size) (b0 + p.leaves) (i - p.size) q b) : NodeAt A (p :: ps) i0 b0 i q b := by
  have h2 := N.size
  refine ⟨N.right, by simp only [sizes]; omega, by have := N.lo; omega, by have := N.hi; simp only [leavesL]; omega, ?_, ?_, ?_, ?_, ?_⟩
  · simp only [nodesL]
    rw [List.getElem?_append_right (by rw [Pt.nodes_len]; omega), Pt.nodes_len, N.node]
    simp; omega
  · simp only [dnsL]
    rw [List.getElem?_append_right (by rw [Pt.dns_len]; omega), Pt.dns_len, N.done]
  · intro k hk
    have h4 := N.kid k hk
    simp only [nodesL]
    rw [List.getElem?_append_right (by rw [Pt.nodes_len]; omega), Pt.nodes_len, show i + 1 + sizes (q.args.take k) - p.size = i - p.size + 1 + sizes (q.args.take k) by omega, h4]
    simp; omega
  · intro k hk
    have h4 := N.kidDone k hk
    simp only [dnsL]
    rw [List.getElem?_append_right (by rw [Pt.dns_len]; omega), Pt.dns_len, show i + 1 + sizes (q.args.take k) - p.size = i - p.size + 1 + sizes (q.args.take k) by omega, h4]
  · intro β
    obtain ⟨γ, h3, h4⟩ := N.begun (fun k => β (k + 1))
    simp only [bgsW]
    refine ⟨γ, ?_, fun k hk => ?_⟩
    · rw [List.getElem?_append_right (by rw [Pt.bgs_len]; omega), Pt.bgs_len, h3]
    · rw [List.getElem?_append_right (by rw [Pt.bgs_len]; omega), Pt.bgs_len, show i + 1 + sizes (q.args.take k) - p.size = i - p.size + 1 + sizes (q.args.take k) by omega, h4 k hk]

/-- Each node is one of the patterns, or an Arg of an earlier node. -/
theorem node_at (A : Nat → Bool) (n : Nat) : ∀ (ps : List Pt) (i0 b0 i : Nat), sizes ps ≤ n → (∀ p ∈ ps, Right p) → i < sizes ps →
    (∃ q b, NodeAt A ps i0 b0 i q b) ∧ ((∃ k, k < ps.length ∧ i = sizes (ps.take k)) ∨ ∃ j q b k, j < i ∧ NodeAt A ps i0 b0 j q b ∧ k < q.args.length ∧ i = j + 1 + sizes (q.args.take k)) := by
  induction n with
  | zero => intro ps i0 b0 i hn _ hi; omega
  | succ n ih =>
    intro ps i0 b0 i hn hr hi
    cases ps with
    | nil => simp [sizes] at hi
    | cons p ps =>
      by_cases hb : i < p.size
      · obtain ⟨o, l, h, qs⟩ := p
        have hrp := hr _ (List.mem_cons_self ..)
        obtain ⟨hrq, hlv⟩ := right_args hrp
        have hsz : (Pt.mk o l h qs).size = 1 + sizes qs := rfl
        cases i with
        | zero => exact ⟨⟨_, _, NodeAt.here A o l h qs ps i0 b0 hrp⟩, .inl ⟨0, by simp, by simp [sizes]⟩⟩
        | succ i =>
          obtain ⟨⟨q, b, N⟩, h2⟩ := ih qs (i0 + 1) b0 i (by simp only [sizes, Pt.size] at hn; omega) hrq (by omega)
          refine ⟨⟨q, b, N.inside hrp⟩, .inr ?_⟩
          rcases h2 with ⟨k, hk, e⟩ | ⟨j, q', b', k, hj, N', hk, e⟩
          · exact ⟨0, _, b0, k, by omega, NodeAt.here A o l h qs ps i0 b0 hrp, hk, by simp only [Pt.args]; omega⟩
          · exact ⟨j + 1, q', b', k, by omega, N'.inside hrp, hk, by omega⟩
      · have hp := size_pos p
        obtain ⟨⟨q, b, N⟩, h2⟩ := ih ps (i0 + p.size) (b0 + p.leaves) (i - p.size) (by simp only [sizes] at hn; omega) (fun x hx => hr x (by simp [hx])) (by simp only [sizes] at hi; omega)
        refine ⟨⟨q, b, N.behind (by omega)⟩, ?_⟩
        rcases h2 with ⟨k, hk, e⟩ | ⟨j, q', b', k, hj, N', hk, e⟩
        · exact .inl ⟨k + 1, by simpa using hk, by simp only [List.take_succ_cons, sizes]; omega⟩
        · exact .inr ⟨j + p.size, q', b', k, by omega, NodeAt.behind (by omega) (by rw [Nat.add_sub_cancel]; exact N'), hk, by omega⟩

/-- Where the Args of a node are, is told by the nodes. -/
theorem kid_same {A : Nat → Bool} {ps : List Pt} {i0 b0 i : Nat} {q q' : Pt} {b b' : Nat} (N : NodeAt A ps i0 b0 i q b) (N' : NodeAt A ps i0 b0 i q' b') (k : Nat) (hk : k < q'.args.length) :
    k < q.args.length ∧ sizes (q.args.take k) = sizes (q'.args.take k) := by
  have hq : q.size = 1 + sizes q.args := by obtain ⟨_, _, _, _⟩ := q; rfl
  have hq' : q'.size = 1 + sizes q'.args := by obtain ⟨_, _, _, _⟩ := q'; rfl
  have hs : q.size = q'.size := by
    have := N.node.symm.trans N'.node
    simp at this
    omega
  have key : ∀ k, k ≤ q'.args.length → k ≤ q.args.length ∧ sizes (q.args.take k) = sizes (q'.args.take k) := by
    intro k
    induction k with
    | zero => intro _; simp [sizes]
    | succ k ih =>
      intro hk
      obtain ⟨h1, h2⟩ := ih (by omega)
      have hlt : k < q.args.length := by
        rcases Nat.lt_or_ge k q.args.length with h | h
        · exact h
        · have e1 : q.args.take k = q.args := List.take_of_length_le h
          rw [e1] at h2
          have := sizes_take_lt q'.args k (by omega)
          omega
      refine ⟨hlt, ?_⟩
      rw [sizes_take _ _ hlt, sizes_take _ _ (show k < q'.args.length by omega), h2]
      have e1 := N.kid k hlt
      have e2 := N'.kid k (by omega)
      rw [h2] at e1
      have := e1.symm.trans e2
      simp at this
      omega
  have h1 := key (k + 1) (by omega)
  have h2 := key k (by omega)
  exact ⟨by omega, h2.2⟩
end Go.Proofs.YtplbacfjmajeeaaGreatDoor
namespace Go.Proofs.YtplbacfjmajeeaaGreatDoor

def opens : List Nd → List Bool → List Nat
  | x :: ns, β :: bs => (if x.op = 1 ∧ β = true then [x.place] else []) ++ opens ns bs
  | _, _ => []
theorem opens_append : ∀ (ns ms : List Nd) (cs bs : List Bool), ns.length = cs.length → opens (ns ++ ms) (cs ++ bs) = opens ns cs ++ opens ms bs
  | [], ms, [], bs, _ => rfl
  | [], _, _ :: _, _, h => by simp at h
  | _ :: _, _, [], _, h => by simp at h
  | x :: ns, ms, a :: as_, bs, h => by
    simp only [List.cons_append, opens, List.append_assoc]
    rw [opens_append ns ms as_ bs (by simpa using h)]
def opnW (A : Nat → Bool) : List Pt → Nat → (Nat → Bool) → List Nat
  | [], _, _ => []
  | p :: ps, b, β => p.opn A b (β 0) ++ opnW A ps (b + p.leaves) (fun k => β (k + 1))
theorem opnW_const (A : Nat → Bool) (ps : List Pt) : ∀ b β, opnW A ps b (fun _ => β) = opnO A ps b β := by
  induction ps with
  | nil => intro b β; rfl
  | cons p ps ih => intro b β; simp only [opnW, opnO]; rw [ih]
theorem opnW_thr (A : Nat → Bool) (ps : List Pt) : ∀ b β, opnW A ps b (thr A ps b β) = opnT A ps b β := by
  induction ps with
  | nil => intro b β; rfl
  | cons p ps ih =>
    intro b β
    simp only [opnW, opnT, thr]
    rw [← ih]
theorem opn_eq (A : Nat → Bool) (o l h : Int) (ps : List Pt) (b : Nat) (β : Bool) (ho : o ≠ 1) : (Pt.mk o l h ps).opn A b β = opnW A ps b (chB A o ps b β) := by
  have e : chB A o ps b β = (if o = 2 then thr A ps b β else if o = 3 then fun _ => β else fun _ => β || dnO A ps b) := by
    funext k; unfold chB; split
    · rfl
    · split <;> rfl
  rw [e]
  simp only [Pt.opn, if_neg ho]
  split
  · exact (opnW_thr A ps b β).symm
  · split
    · exact (opnW_const A ps b β).symm
    · exact (opnW_const A ps b _).symm

theorem opens_nodes (A : Nat → Bool) (n : Nat) : ∀ (ps : List Pt) (i0 b0 : Nat) (β : Nat → Bool), sizes ps ≤ n → (∀ p ∈ ps, Right p) → opens (nodesL ps i0 b0) (bgsW A ps b0 β) = opnW A ps b0 β := by
  induction n with
  | zero =>
    intro ps i0 b0 β hn _
    cases ps with
    | nil => rfl
    | cons p ps => have := size_pos p; simp only [sizes] at hn; omega
  | succ n ih =>
    intro ps i0 b0 β hn hr
    cases ps with
    | nil => rfl
    | cons p ps =>
      have hrp := hr p (by simp)
      obtain ⟨o, l, h, qs⟩ := p
      simp only [sizes, Pt.size] at hn
      simp only [nodesL, bgsW, opnW]
      rw [opens_append _ _ _ _ (by rw [Pt.nodes_len, Pt.bgs_len]), ih ps _ _ _ (by omega) (fun x hx => hr x (by simp [hx]))]
      congr 1
      have hrq : ∀ q ∈ qs, Right q := by cases hrp with | mk _ _ _ _ _ _ _ ha => exact ha
      simp only [Pt.nodes, Pt.bgs, opens]
      rw [ih qs _ _ _ (by omega) hrq]
      by_cases h1 : o = 1
      · have : qs = [] := by cases hrp with | mk _ _ _ _ _ hf _ _ => exact List.eq_nil_of_length_eq_zero (by simpa [formB, h1] using hf)
        subst this
        simp [h1, Pt.opn, opnW]
      · rw [opn_eq A o l h qs b0 _ h1]
        simp [h1]

/-- Places as a number. -/
def maskOf (l : List Nat) : Nat := l.foldl (fun m k => m ||| 2 ^ k) 0
theorem maskOf_snoc (l : List Nat) (k : Nat) : maskOf (l ++ [k]) = maskOf l ||| 2 ^ k := by simp [maskOf]
theorem testBit_maskOf (l : List Nat) (k : Nat) : (maskOf l).testBit k = decide (k ∈ l) := by
  have : ∀ (l : List Nat) (m : Nat), (l.foldl (fun m k => m ||| 2 ^ k) m).testBit k = (m.testBit k || decide (k ∈ l)) := by
    intro l
    induction l with
    | nil => intro m; simp
    | cons a l ih =>
      intro m
      rw [List.foldl_cons, ih]
      simp only [Nat.testBit_or, Nat.testBit_two_pow, List.mem_cons]
      by_cases h : k = a
      · subst h; simp
      · have h' : ¬ a = k := fun e => h e.symm
        simp [h, h']
  have := this l 0
  simpa [maskOf] using this
theorem maskOf_lt (l : List Nat) (P : Nat) (h : ∀ k ∈ l, k < P) : maskOf l < 2 ^ P := by
  refine Nat.lt_pow_two_of_testBit _ fun i hi => ?_
  rw [testBit_maskOf]
  simp only [decide_eq_false_iff_not]
  intro hk
  have := h i hk
  omega
theorem mask_eq (a b : Nat) (h : ∀ k, a.testBit k = b.testBit k) : a = b := Nat.eq_of_testBit_eq h
/-- Sets are equal just if their numbers are. -/
theorem maskOf_inj {a b : List Nat} (ha : a.Pairwise (· < ·)) (hb : b.Pairwise (· < ·)) (h : maskOf a = maskOf b) : a = b := by
  refine rising_eq a b ha hb (fun k => ?_)
  have := congrArg (fun m => m.testBit k) h
  simp only [testBit_maskOf] at this
  simpa using this
/-- What is in both. -/
theorem maskOf_and (a : List Nat) (M : Nat) (f : Nat → Bool) (h : ∀ k ∈ a, M.testBit k = f k) : maskOf a &&& M = maskOf (a.filter f) := by
  apply mask_eq
  intro k
  rw [Nat.testBit_and, testBit_maskOf, testBit_maskOf]
  by_cases hk : k ∈ a
  · simp [hk, h k hk]
  · simp [hk]

/-- The patterns that fit, rising. -/
def fitsL (A : Nat → Bool) (start : Bool) : List Pt → Nat → Nat → List Nat
  | [], _, _ => []
  | p :: ps, i, b => (if p.dn A b || start && p.nul then [i] else []) ++ fitsL A start ps (i + 1) (b + p.leaves)
theorem fitsL_take (A : Nat → Bool) (start : Bool) (ps : List Pt) : ∀ (i b k : Nat) (hk : k < ps.length), fitsL A start (ps.take (k + 1)) i b = fitsL A start (ps.take k) i b ++ (if ps[k].dn A (b + leavesL (ps.take k)) || start && ps[k].nul then [i + k] else []) := by
  induction ps with
  | nil => intro i b k hk; simp at hk
  | cons p ps ih =>
    intro i b k hk
    cases k with
    | zero => simp [fitsL, leavesL]
    | succ k =>
      simp only [List.take_succ_cons, fitsL, leavesL, List.getElem_cons_succ]
      rw [ih (i + 1) (b + p.leaves) k (by simpa using hk), List.append_assoc, Nat.add_assoc b]
      congr 3
      simp [Nat.add_assoc, Nat.add_comm 1 k]
theorem fitsL_le (A : Nat → Bool) (start : Bool) (ps : List Pt) : ∀ (i b : Nat), (fitsL A start ps i b).length ≤ ps.length := by
  induction ps with
  | nil => intro i b; simp [fitsL]
  | cons p ps ih => intro i b; simp only [fitsL, List.length_append, List.length_cons]; have := ih (i + 1) (b + p.leaves); split <;> simp <;> omega
end Go.Proofs.YtplbacfjmajeeaaGreatDoor
