/- Stream: Change. -/
import Derived.Test.YtajigndlcdiinaaDS4
import Derived.Deep.RegionHeld3
namespace Go.Proofs.Ytajigndlcdiinaa
open Go.RowKit

def edCells (l : List Ed) : List Value := l.flatMap fun e => [.int .i64 e.at_, .int .i64 e.old, .string e.new]
theorem edCells_len (l : List Ed) : (edCells l).length = l.length * 3 := by
  induction l with
  | nil => rfl
  | cons x l ih => simp only [edCells, List.flatMap_cons, List.length_append] at ih ⊢; rw [ih]; simp; omega
theorem edCells_snoc (l : List Ed) (e : Ed) : edCells (l ++ [e]) = edCells l ++ [.int .i64 e.at_, .int .i64 e.old, .string e.new] := by simp [edCells]

theorem infoEdit : (Try.prog.info? 47 /-t:hedgelayer/api.Edit-/).map (fun i => (i.zero, i.size, i.bytes)) = some (some (.agg #[.int .i64 0, .int .i64 0, .string ⟨#[]⟩]), 3, 32) := by kernel_rfl

def chNews : List ByteArray := [⟨#[]⟩, ⟨#[120]⟩, ⟨#[121, 122]⟩, ⟨#[120]⟩, ⟨#[195, 169]⟩]
def chEdit (xs : List Int) (n : Int) (k : Nat) (a : Int) : Ed :=
  ⟨a, min (pickv xs k [0, 1, 1, 2, 4]) (n - a), if min (pickv xs k [0, 1, 1, 2, 4]) (n - a) = 0 ∧ (somev xs (k + 1) chNews).size = 0 then ⟨#[119]⟩ else somev xs (k + 1) chNews⟩
def changeTo (xs : List Int) (n : Int) : Nat → Nat → Int → List Ed → List Ed × Nat
  | 0, k, _, out => (out, k)
  | m + 1, k, a, out => if n < a then (out, k) else changeTo xs n m (k + 3) (a + ((chEdit xs n k a).old + pickv xs (k + 2) [1, 1, 2, 5])) (out ++ [chEdit xs n k a])
def changeP (xs : List Int) (k : Nat) (n : Int) : List Ed × Nat := changeTo xs n (pickv xs (k + 1) [0, 1, 1, 2, 3]).toNat (k + 2) (rangev xs k 0 3) []
def changeV (xs : List Int) (k : Nat) (n : Int) : List Ed := if flipv xs (changeP xs k n).2 15 then (changeP xs k n).1 ++ [anEditV xs ((changeP xs k n).2 + 1) n] else (changeP xs k n).1
def changeK (xs : List Int) (k : Nat) (n : Int) : Nat := if flipv xs (changeP xs k n).2 15 then anEditK xs ((changeP xs k n).2 + 1) else (changeP xs k n).2 + 1

def ChPost (b : Nat) (av : Option Addr) (cap : Nat) (xs : List Int) (l : List Ed) (k' : Nat) (w : World) (e : Ending) (w' : World) : Prop :=
  ∃ v, e = .returned v ∧ w'.ownsRow w.heap.size 47 /-t:hedgelayer/api.Edit-/ 3 v l.length (edCells l) ∧ Sto b av cap xs w w' k'

theorem Sto.own {b av cap xs w w' k k0} (h : Sto b av cap xs w w' k) (S : Strm b av cap xs w k0) {base e size v n l} (o : w.ownsRow base e size v n l) (he : e ≠ 25 /-t:hedgelayer/hgmake.Stream-/) : w'.ownsRow base e size v n l := by
  refine o.kept h.grow (Or.inr (fun hb => ?_))
  obtain ⟨_, c, hc⟩ := ownsRow_block o b hb
  have := S.blk.symm.trans hc
  simp at this
  exact he this.2.symm
/-- A block that is not the row itself stays behind an append. -/
theorem append_kept {w w' : World} {base e size v n l} (_o : w.ownsRow base e size v n l) (g : w.grownBy w' v.ownBlock) {r : Nat} {ob : Obj} (hr : w.heap[r]? = some ob) (hne : v.ownBlock ≠ some r) : w'.heap[r]? = some ob := by
  rw [g.block r (lt_of_block hr) (fun e => hne e.symm)]; exact hr
theorem own_ne {w : World} {base e size v n l} (o : w.ownsRow base e size v n l) {r : Nat} (hr : w.heap.size ≤ r) : v.ownBlock ≠ some r := by
  intro h
  have := (o.lt r h).2
  omega

set_option maxHeartbeats 8000000 in
set_option maxRecDepth 100000 in
theorem change_any {b : Nat} {av : Option Addr} {cap k : Nat} {xs : List Int} {w : World} (n : Int) (hn : 0 ≤ n ∧ n ≤ 1000000)
    (hk : k ≤ 100000000) (hx2 : xs.length ≤ 9223372036854775807) (S : Strm b av cap xs w k) :
    Calls Try.prog 9 #[.pointer (some ⟨b, 0, none⟩), .int .i64 n] w (ChPost b av cap xs (changeV xs k n) (changeK xs k n) w) := by
  obtain ⟨i0, hi, hz0, hz1, hz2⟩ := info_parts infoEdit
  have r2 : rangek k 0 3 = k + 1 := by unfold rangek; rw [if_neg (by omega)]
  have r1 := rangev_bd xs k 0 3
  go_enter Try.func9, Try.ntmps9
  go_wp2_with fail
  refine (range_any 0 3 (by omega) (by omega) (by omega) hx2 S).mono ?_
  rintro e w1 ⟨rfl, T1⟩
  rw [r2] at T1
  clear r2
  go_wp2_with fail
  refine (pick_new [0, 1, 1, 2, 3] (by decide) (by decide) (by omega) hx2 T1.strm).mono ?_
  rintro e w2 ⟨rfl, T2⟩
  have p1 : 0 ≤ pickv xs (k + 1) [0, 1, 1, 2, 3] ∧ pickv xs (k + 1) [0, 1, 1, 2, 3] ≤ 3 := pickv_all (fun x => 0 ≤ x ∧ x ≤ 3) _ _ _ (by decide) (by decide)
  have HC := Lib.hid (show changeP xs k n = changeTo xs n (pickv xs (k + 1) [0, 1, 1, 2, 3]).toNat (k + 2) (rangev xs k 0 3) [] from rfl)
  obtain ⟨M, hM⟩ := Int.eq_ofNat_of_zero_le p1.1
  rw [hM] at p1 HC ⊢
  rw [Int.toNat_natCast] at HC
  generalize rangev xs k 0 3 = a0 at r1 HC ⊢
  have T := T1.trans T2
  clear T1 T2 hM
  go_wp2_with fail
  go_loopw [5, 6, 13] (fun v at_ i wr => ∃ (j k' : Nat) (a : Int) (out : List Ed), j ≤ M ∧ i = .int .i64 j ∧ at_ = .int .i64 a ∧ k' ≤ k + 2 + 3 * j ∧ 0 ≤ a ∧ a ≤ 3 + 9 * (j : Int) ∧ out.length ≤ j ∧
      Hid (changeP xs k n = changeTo xs n (M - j) k' a out) ∧ wr.ownsRow w.heap.size 47 /-t:hedgelayer/api.Edit-/ 3 v out.length (edCells out) ∧ Sto b av cap xs w wr k') (fun _ _ i _ => M - (intOf i).toNat)
  case atStart => exact ⟨0, k + 2, a0, [], Nat.zero_le _, rfl, rfl, by omega, by omega, by omega, by simp, HC, World.ownsRow_nil _ _ _ _, T⟩
  case round =>
    obtain ⟨j, k', a, out, hj, rfl, rfl, q1, q2, q3, q4, HH, own, TT⟩ := hrel
    clear T HC
    by_cases hlt : j < M
    · have HH2 := Lib.hid (HH.out.trans (by rw [show M - j = (M - (j + 1)) + 1 by omega, changeTo]))
      clear HH
      by_cases han : n < a
      · have HX := Lib.hid (show changeP xs k n = (out, k') from HH2.out.trans (if_pos han))
        by_cases hf : flipv xs k' 15 = true
        · have HV := Lib.hid (show changeV xs k n = out ++ [anEditV xs (k' + 1) n] by unfold changeV; rw [HX.out]; exact if_pos hf)
          have HK := Lib.hid (show changeK xs k n = anEditK xs (k' + 1) by unfold changeK; rw [HX.out]; exact if_pos hf)
          go_wp2_with fail
          refine (flip_any 15 (by omega) (by omega) hx2 TT.strm).mono ?_
          rintro e w7 ⟨rfl, T7⟩
          go_wp2_with fail
          refine (anEdit_any n hn (by omega) hx2 T7.strm).mono ?_
          rintro e w8 ⟨rfl, T8⟩
          have own8 := (T7.trans T8).own TT.strm own (by decide)
          have TT8 := TT.trans (T7.trans T8)
          have hs8 : w.heap.size ≤ w8.heap.size := TT8.grow.size
          clear T7 T8 own TT
          generalize anEditV xs (k' + 1) n = ed at HV ⊢
          obtain ⟨da, d0, dn⟩ := ed
          simp only
          go_wp2_with (at_builtin; refine wpList_append_own _ rfl (.tmp 54) (.tmp 58) 28 /-t:[]api.Edit-/ rfl w.heap.size 47 /-t:hedgelayer/api.Edit-/ i0 (.agg #[.int .i64 0, .int .i64 0, .string ⟨#[]⟩]) 3 32 Try.underlying28 /-t:[]api.Edit-/ hi hz0 hz1 hz2 rfl (by decide) _ _ _ rfl (own8.alloc _) ⟨w8.heap.size, 0, none⟩ 1 1 [.int .i64 da, .int .i64 d0, .string dn] rfl rfl (cells_new _ _ _) (fun x hx => by simp at hx; rcases hx with rfl | rfl | rfl <;> rfl) (by unfold maxLen; omega) (by omega) (by simp; omega) ?_; intro v' w9 hown' hgrow _; have TT9 := (TT8.alloc _).newer S hgrow (fun r hr => (own8.lt r hr).1); have HO := Lib.hid hown'; clear hown' hgrow TT8 own8)
          go_ret
          refine ⟨_, rfl, ?_, by rw [HK.out]; exact TT9⟩
          rw [HV.out, edCells_snoc, List.length_append]
          exact HO.out
        · have HV := Lib.hid (show changeV xs k n = out by unfold changeV; rw [HX.out]; exact if_neg hf)
          have HK := Lib.hid (show changeK xs k n = k' + 1 by unfold changeK; rw [HX.out]; exact if_neg hf)
          go_wp2_with fail
          refine (flip_any 15 (by omega) (by omega) hx2 TT.strm).mono ?_
          rintro e w7 ⟨rfl, T7⟩
          have own7 := T7.own TT.strm own (by decide)
          have TT7 := TT.trans T7
          clear T7 own TT
          go_wp2_with fail
          go_ret
          exact ⟨_, rfl, by rw [HV.out]; exact own7, by rw [HK.out]; exact TT7⟩
      · have HH3 := Lib.hid (HH2.out.trans (if_neg han))
        clear HH2
        have p2 : 0 ≤ pickv xs k' [0, 1, 1, 2, 4] ∧ pickv xs k' [0, 1, 1, 2, 4] ≤ 4 := pickv_all (fun x => 0 ≤ x ∧ x ≤ 4) _ _ _ (by decide) (by decide)
        go_wp2_with fail
        refine (pick_new [0, 1, 1, 2, 4] (by decide) (by decide) (by omega) hx2 TT.strm).mono ?_
        rintro e w3 ⟨rfl, T3⟩
        by_cases hm : (pickv xs k' [0, 1, 1, 2, 4]) ≤ n - a
        · by_cases ho : (pickv xs k' [0, 1, 1, 2, 4]) = 0
          · by_cases hz : (somev xs (k' + 1) chNews).size = 0
            · have HE := Lib.hid (show chEdit xs n k' a = ⟨a, (pickv xs k' [0, 1, 1, 2, 4]), ⟨#[119]⟩⟩ by simp only [chEdit]; rw [show min (pickv xs k' [0, 1, 1, 2, 4]) (n - a) = (pickv xs k' [0, 1, 1, 2, 4]) by omega, if_pos ⟨by omega, hz⟩])
              have tb : (((pickv xs k' [0, 1, 1, 2, 4])) == 0) = true := by simp; omega
              have tz := isEmpty_of_size hz
              have o1 : 0 ≤ (pickv xs k' [0, 1, 1, 2, 4]) := by omega
              have o2 : (pickv xs k' [0, 1, 1, 2, 4]) ≤ 4 := by omega
              clear ho
              go_wp2_with fail
              refine (some_new chNews (by decide) (by decide) (by omega) hx2 T3.strm).mono ?_
              rintro e w4 ⟨rfl, T4⟩
              have T5 := (T3.trans T4)
              have own4 := T5.own TT.strm own (by decide)
              have TT5 := (TT.trans T5)
              have hs4 : w.heap.size ≤ w4.heap.size := TT5.grow.size
              have hEb : w4.heap.size ≠ b := by have := T4.strm.lt; omega
              clear T3 T4 T5 own
              go_wp2_with (at_builtin; refine wpList_append_own _ rfl (.tmp 39) (.tmp 41) 28 /-t:[]api.Edit-/ rfl w.heap.size 47 /-t:hedgelayer/api.Edit-/ i0 (.agg #[.int .i64 0, .int .i64 0, .string ⟨#[]⟩]) 3 32 Try.underlying28 /-t:[]api.Edit-/ hi hz0 hz1 hz2 rfl (by decide) _ _ _ rfl ((own4.alloc (.cells #[.int .i64 a, .int .i64 ((pickv xs k' [0, 1, 1, 2, 4])), .string ⟨#[119]⟩] 47 /-t:hedgelayer/api.Edit-/)).alloc _) ⟨w4.heap.size + 1, 0, none⟩ 1 1 [.int .i64 a, .int .i64 ((pickv xs k' [0, 1, 1, 2, 4])), .string ⟨#[119]⟩] rfl rfl (cells_new2 _ _ _ _) (fun x hx => by simp at hx; rcases hx with rfl | rfl | rfl <;> rfl) (by unfold maxLen; omega) (by omega) (by simp; omega) ?_; intro v' w5 hown' hgrow _; have hE5 := append_kept ((own4.alloc (.cells #[.int .i64 a, .int .i64 ((pickv xs k' [0, 1, 1, 2, 4])), .string ⟨#[119]⟩] 47 /-t:hedgelayer/api.Edit-/)).alloc _) hgrow ((Below.heap_alloc _ _ _ (by simp)).trans (heap_alloc_new w4 _)) (own_ne own4 (Nat.le_refl _)); have TT6 := ((TT5.alloc (.cells #[.int .i64 a, .int .i64 ((pickv xs k' [0, 1, 1, 2, 4])), .string ⟨#[119]⟩] 47 /-t:hedgelayer/api.Edit-/)).alloc _).newer S hgrow (fun r hr => (own4.lt r hr).1); have cE1 := cell_of_block hE5 1; simp only [List.getElem?_toArray, List.getElem?_cons_zero, List.getElem?_cons_succ] at cE1; have HO := Lib.hid hown'; clear hown' hgrow TT5 own4 TT)
              have p3 : 1 ≤ pickv xs (k' + 1 + 1) [1, 1, 2, 5] ∧ pickv xs (k' + 1 + 1) [1, 1, 2, 5] ≤ 5 := pickv_all (fun x => 1 ≤ x ∧ x ≤ 5) _ _ _ (by decide) (by decide)
              have wr1 : IntKind.i64.wrap ((pickv xs k' [0, 1, 1, 2, 4]) + pickv xs (k' + 1 + 1) [1, 1, 2, 5]) = (pickv xs k' [0, 1, 1, 2, 4]) + pickv xs (k' + 1 + 1) [1, 1, 2, 5] := IntWalk.i64_in _ (by omega)
              have wr2 : IntKind.i64.wrap (a + ((pickv xs k' [0, 1, 1, 2, 4]) + pickv xs (k' + 1 + 1) [1, 1, 2, 5])) = a + ((pickv xs k' [0, 1, 1, 2, 4]) + pickv xs (k' + 1 + 1) [1, 1, 2, 5]) := IntWalk.i64_in _ (by omega)
              go_region_held3 (fun w' => w'.cell? ⟨w4.heap.size, 1, none⟩ = some (.int .i64 ((pickv xs k' [0, 1, 1, 2, 4])))) (first | go_keep) ((go_at_call 8; refine (pick_new_drew [1, 1, 2, 5] (by decide) (by decide) (by omega) hx2 TT6.strm).mono ?_; rintro e w6 ⟨rfl, T6⟩; have cE6 := cell_of_block (T6.kept hE5 hEb) 1; simp only [List.getElem?_toArray, List.getElem?_cons_zero, List.getElem?_cons_succ] at cE6))
              have HO6 := Lib.hid (T6.own TT6.strm HO.out (by decide))
              have TT7 := TT6.trans T6
              clear T6 TT6 hE5 HO wr1 wr2
              go_wp2_with fail
              go_roundw
              case rel =>
                refine ⟨j + 1, k' + 1 + 1 + 1, _, out ++ [⟨a, (pickv xs k' [0, 1, 1, 2, 4]), ⟨#[119]⟩⟩], by omega, by go_num, rfl, by omega, by omega, by omega, by simp; omega, ?_, ?_, TT7⟩
                · have := HH3.out
                  rw [HE.out] at this
                  exact this
                · rw [edCells_snoc, List.length_append]
                  exact HO6.out
              case measure => simp [intOf]; omega
            · have HE := Lib.hid (show chEdit xs n k' a = ⟨a, (pickv xs k' [0, 1, 1, 2, 4]), (somev xs (k' + 1) chNews)⟩ by simp only [chEdit]; rw [show min (pickv xs k' [0, 1, 1, 2, 4]) (n - a) = (pickv xs k' [0, 1, 1, 2, 4]) by omega, if_neg (by omega)])
              have tb : (((pickv xs k' [0, 1, 1, 2, 4])) == 0) = true := by simp; omega
              have tz := not_isEmpty_of_size hz
              have o1 : 0 ≤ (pickv xs k' [0, 1, 1, 2, 4]) := by omega
              have o2 : (pickv xs k' [0, 1, 1, 2, 4]) ≤ 4 := by omega
              clear ho
              go_wp2_with fail
              refine (some_new chNews (by decide) (by decide) (by omega) hx2 T3.strm).mono ?_
              rintro e w4 ⟨rfl, T4⟩
              have T5 := (T3.trans T4)
              have own4 := T5.own TT.strm own (by decide)
              have TT5 := (TT.trans T5)
              have hs4 : w.heap.size ≤ w4.heap.size := TT5.grow.size
              have hEb : w4.heap.size ≠ b := by have := T4.strm.lt; omega
              clear T3 T4 T5 own
              go_wp2_with (at_builtin; refine wpList_append_own _ rfl (.tmp 39) (.tmp 41) 28 /-t:[]api.Edit-/ rfl w.heap.size 47 /-t:hedgelayer/api.Edit-/ i0 (.agg #[.int .i64 0, .int .i64 0, .string ⟨#[]⟩]) 3 32 Try.underlying28 /-t:[]api.Edit-/ hi hz0 hz1 hz2 rfl (by decide) _ _ _ rfl ((own4.alloc (.cells #[.int .i64 a, .int .i64 ((pickv xs k' [0, 1, 1, 2, 4])), .string (somev xs (k' + 1) chNews)] 47 /-t:hedgelayer/api.Edit-/)).alloc _) ⟨w4.heap.size + 1, 0, none⟩ 1 1 [.int .i64 a, .int .i64 ((pickv xs k' [0, 1, 1, 2, 4])), .string (somev xs (k' + 1) chNews)] rfl rfl (cells_new2 _ _ _ _) (fun x hx => by simp at hx; rcases hx with rfl | rfl | rfl <;> rfl) (by unfold maxLen; omega) (by omega) (by simp; omega) ?_; intro v' w5 hown' hgrow _; have hE5 := append_kept ((own4.alloc (.cells #[.int .i64 a, .int .i64 ((pickv xs k' [0, 1, 1, 2, 4])), .string (somev xs (k' + 1) chNews)] 47 /-t:hedgelayer/api.Edit-/)).alloc _) hgrow ((Below.heap_alloc _ _ _ (by simp)).trans (heap_alloc_new w4 _)) (own_ne own4 (Nat.le_refl _)); have TT6 := ((TT5.alloc (.cells #[.int .i64 a, .int .i64 ((pickv xs k' [0, 1, 1, 2, 4])), .string (somev xs (k' + 1) chNews)] 47 /-t:hedgelayer/api.Edit-/)).alloc _).newer S hgrow (fun r hr => (own4.lt r hr).1); have cE1 := cell_of_block hE5 1; simp only [List.getElem?_toArray, List.getElem?_cons_zero, List.getElem?_cons_succ] at cE1; have HO := Lib.hid hown'; clear hown' hgrow TT5 own4 TT)
              have p3 : 1 ≤ pickv xs (k' + 1 + 1) [1, 1, 2, 5] ∧ pickv xs (k' + 1 + 1) [1, 1, 2, 5] ≤ 5 := pickv_all (fun x => 1 ≤ x ∧ x ≤ 5) _ _ _ (by decide) (by decide)
              have wr1 : IntKind.i64.wrap ((pickv xs k' [0, 1, 1, 2, 4]) + pickv xs (k' + 1 + 1) [1, 1, 2, 5]) = (pickv xs k' [0, 1, 1, 2, 4]) + pickv xs (k' + 1 + 1) [1, 1, 2, 5] := IntWalk.i64_in _ (by omega)
              have wr2 : IntKind.i64.wrap (a + ((pickv xs k' [0, 1, 1, 2, 4]) + pickv xs (k' + 1 + 1) [1, 1, 2, 5])) = a + ((pickv xs k' [0, 1, 1, 2, 4]) + pickv xs (k' + 1 + 1) [1, 1, 2, 5]) := IntWalk.i64_in _ (by omega)
              go_region_held3 (fun w' => w'.cell? ⟨w4.heap.size, 1, none⟩ = some (.int .i64 ((pickv xs k' [0, 1, 1, 2, 4])))) (first | go_keep) ((go_at_call 8; refine (pick_new_drew [1, 1, 2, 5] (by decide) (by decide) (by omega) hx2 TT6.strm).mono ?_; rintro e w6 ⟨rfl, T6⟩; have cE6 := cell_of_block (T6.kept hE5 hEb) 1; simp only [List.getElem?_toArray, List.getElem?_cons_zero, List.getElem?_cons_succ] at cE6))
              have HO6 := Lib.hid (T6.own TT6.strm HO.out (by decide))
              have TT7 := TT6.trans T6
              clear T6 TT6 hE5 HO wr1 wr2
              go_wp2_with fail
              go_roundw
              case rel =>
                refine ⟨j + 1, k' + 1 + 1 + 1, _, out ++ [⟨a, (pickv xs k' [0, 1, 1, 2, 4]), (somev xs (k' + 1) chNews)⟩], by omega, by go_num, rfl, by omega, by omega, by omega, by simp; omega, ?_, ?_, TT7⟩
                · have := HH3.out
                  rw [HE.out] at this
                  exact this
                · rw [edCells_snoc, List.length_append]
                  exact HO6.out
              case measure => simp [intOf]; omega
          · have HE := Lib.hid (show chEdit xs n k' a = ⟨a, (pickv xs k' [0, 1, 1, 2, 4]), (somev xs (k' + 1) chNews)⟩ by simp only [chEdit]; rw [show min (pickv xs k' [0, 1, 1, 2, 4]) (n - a) = (pickv xs k' [0, 1, 1, 2, 4]) by omega, if_neg (by omega)])
            have tb : (((pickv xs k' [0, 1, 1, 2, 4])) == 0) = false := by simp; omega
            have o1 : 0 ≤ (pickv xs k' [0, 1, 1, 2, 4]) := by omega
            have o2 : (pickv xs k' [0, 1, 1, 2, 4]) ≤ 4 := by omega
            clear ho
            go_wp2_with fail
            refine (some_new chNews (by decide) (by decide) (by omega) hx2 T3.strm).mono ?_
            rintro e w4 ⟨rfl, T4⟩
            have T5 := (T3.trans T4)
            have own4 := T5.own TT.strm own (by decide)
            have TT5 := (TT.trans T5)
            have hs4 : w.heap.size ≤ w4.heap.size := TT5.grow.size
            have hEb : w4.heap.size ≠ b := by have := T4.strm.lt; omega
            clear T3 T4 T5 own
            go_wp2_with (at_builtin; refine wpList_append_own _ rfl (.tmp 39) (.tmp 41) 28 /-t:[]api.Edit-/ rfl w.heap.size 47 /-t:hedgelayer/api.Edit-/ i0 (.agg #[.int .i64 0, .int .i64 0, .string ⟨#[]⟩]) 3 32 Try.underlying28 /-t:[]api.Edit-/ hi hz0 hz1 hz2 rfl (by decide) _ _ _ rfl ((own4.alloc (.cells #[.int .i64 a, .int .i64 ((pickv xs k' [0, 1, 1, 2, 4])), .string (somev xs (k' + 1) chNews)] 47 /-t:hedgelayer/api.Edit-/)).alloc _) ⟨w4.heap.size + 1, 0, none⟩ 1 1 [.int .i64 a, .int .i64 ((pickv xs k' [0, 1, 1, 2, 4])), .string (somev xs (k' + 1) chNews)] rfl rfl (cells_new2 _ _ _ _) (fun x hx => by simp at hx; rcases hx with rfl | rfl | rfl <;> rfl) (by unfold maxLen; omega) (by omega) (by simp; omega) ?_; intro v' w5 hown' hgrow _; have hE5 := append_kept ((own4.alloc (.cells #[.int .i64 a, .int .i64 ((pickv xs k' [0, 1, 1, 2, 4])), .string (somev xs (k' + 1) chNews)] 47 /-t:hedgelayer/api.Edit-/)).alloc _) hgrow ((Below.heap_alloc _ _ _ (by simp)).trans (heap_alloc_new w4 _)) (own_ne own4 (Nat.le_refl _)); have TT6 := ((TT5.alloc (.cells #[.int .i64 a, .int .i64 ((pickv xs k' [0, 1, 1, 2, 4])), .string (somev xs (k' + 1) chNews)] 47 /-t:hedgelayer/api.Edit-/)).alloc _).newer S hgrow (fun r hr => (own4.lt r hr).1); have cE1 := cell_of_block hE5 1; simp only [List.getElem?_toArray, List.getElem?_cons_zero, List.getElem?_cons_succ] at cE1; have HO := Lib.hid hown'; clear hown' hgrow TT5 own4 TT)
            have p3 : 1 ≤ pickv xs (k' + 1 + 1) [1, 1, 2, 5] ∧ pickv xs (k' + 1 + 1) [1, 1, 2, 5] ≤ 5 := pickv_all (fun x => 1 ≤ x ∧ x ≤ 5) _ _ _ (by decide) (by decide)
            have wr1 : IntKind.i64.wrap ((pickv xs k' [0, 1, 1, 2, 4]) + pickv xs (k' + 1 + 1) [1, 1, 2, 5]) = (pickv xs k' [0, 1, 1, 2, 4]) + pickv xs (k' + 1 + 1) [1, 1, 2, 5] := IntWalk.i64_in _ (by omega)
            have wr2 : IntKind.i64.wrap (a + ((pickv xs k' [0, 1, 1, 2, 4]) + pickv xs (k' + 1 + 1) [1, 1, 2, 5])) = a + ((pickv xs k' [0, 1, 1, 2, 4]) + pickv xs (k' + 1 + 1) [1, 1, 2, 5]) := IntWalk.i64_in _ (by omega)
            go_region_held3 (fun w' => w'.cell? ⟨w4.heap.size, 1, none⟩ = some (.int .i64 ((pickv xs k' [0, 1, 1, 2, 4])))) (first | go_keep) ((go_at_call 8; refine (pick_new_drew [1, 1, 2, 5] (by decide) (by decide) (by omega) hx2 TT6.strm).mono ?_; rintro e w6 ⟨rfl, T6⟩; have cE6 := cell_of_block (T6.kept hE5 hEb) 1; simp only [List.getElem?_toArray, List.getElem?_cons_zero, List.getElem?_cons_succ] at cE6))
            have HO6 := Lib.hid (T6.own TT6.strm HO.out (by decide))
            have TT7 := TT6.trans T6
            clear T6 TT6 hE5 HO wr1 wr2
            go_wp2_with fail
            go_roundw
            case rel =>
              refine ⟨j + 1, k' + 1 + 1 + 1, _, out ++ [⟨a, (pickv xs k' [0, 1, 1, 2, 4]), (somev xs (k' + 1) chNews)⟩], by omega, by go_num, rfl, by omega, by omega, by omega, by simp; omega, ?_, ?_, TT7⟩
              · have := HH3.out
                rw [HE.out] at this
                exact this
              · rw [edCells_snoc, List.length_append]
                exact HO6.out
            case measure => simp [intOf]; omega
        · by_cases ho : n - a = 0
          · by_cases hz : (somev xs (k' + 1) chNews).size = 0
            · have HE := Lib.hid (show chEdit xs n k' a = ⟨a, n - a, ⟨#[119]⟩⟩ by simp only [chEdit]; rw [show min (pickv xs k' [0, 1, 1, 2, 4]) (n - a) = n - a by omega, if_pos ⟨by omega, hz⟩])
              have tb : ((n - a) == 0) = true := by simp; omega
              have tz := isEmpty_of_size hz
              have o1 : 0 ≤ n - a := by omega
              have o2 : n - a ≤ 4 := by omega
              clear ho
              go_wp2_with fail
              refine (some_new chNews (by decide) (by decide) (by omega) hx2 T3.strm).mono ?_
              rintro e w4 ⟨rfl, T4⟩
              have T5 := (T3.trans T4)
              have own4 := T5.own TT.strm own (by decide)
              have TT5 := (TT.trans T5)
              have hs4 : w.heap.size ≤ w4.heap.size := TT5.grow.size
              have hEb : w4.heap.size ≠ b := by have := T4.strm.lt; omega
              clear T3 T4 T5 own
              go_wp2_with (at_builtin; refine wpList_append_own _ rfl (.tmp 39) (.tmp 41) 28 /-t:[]api.Edit-/ rfl w.heap.size 47 /-t:hedgelayer/api.Edit-/ i0 (.agg #[.int .i64 0, .int .i64 0, .string ⟨#[]⟩]) 3 32 Try.underlying28 /-t:[]api.Edit-/ hi hz0 hz1 hz2 rfl (by decide) _ _ _ rfl ((own4.alloc (.cells #[.int .i64 a, .int .i64 (n - a), .string ⟨#[119]⟩] 47 /-t:hedgelayer/api.Edit-/)).alloc _) ⟨w4.heap.size + 1, 0, none⟩ 1 1 [.int .i64 a, .int .i64 (n - a), .string ⟨#[119]⟩] rfl rfl (cells_new2 _ _ _ _) (fun x hx => by simp at hx; rcases hx with rfl | rfl | rfl <;> rfl) (by unfold maxLen; omega) (by omega) (by simp; omega) ?_; intro v' w5 hown' hgrow _; have hE5 := append_kept ((own4.alloc (.cells #[.int .i64 a, .int .i64 (n - a), .string ⟨#[119]⟩] 47 /-t:hedgelayer/api.Edit-/)).alloc _) hgrow ((Below.heap_alloc _ _ _ (by simp)).trans (heap_alloc_new w4 _)) (own_ne own4 (Nat.le_refl _)); have TT6 := ((TT5.alloc (.cells #[.int .i64 a, .int .i64 (n - a), .string ⟨#[119]⟩] 47 /-t:hedgelayer/api.Edit-/)).alloc _).newer S hgrow (fun r hr => (own4.lt r hr).1); have cE1 := cell_of_block hE5 1; simp only [List.getElem?_toArray, List.getElem?_cons_zero, List.getElem?_cons_succ] at cE1; have HO := Lib.hid hown'; clear hown' hgrow TT5 own4 TT)
              have p3 : 1 ≤ pickv xs (k' + 1 + 1) [1, 1, 2, 5] ∧ pickv xs (k' + 1 + 1) [1, 1, 2, 5] ≤ 5 := pickv_all (fun x => 1 ≤ x ∧ x ≤ 5) _ _ _ (by decide) (by decide)
              have wr1 : IntKind.i64.wrap (n - a + pickv xs (k' + 1 + 1) [1, 1, 2, 5]) = n - a + pickv xs (k' + 1 + 1) [1, 1, 2, 5] := IntWalk.i64_in _ (by omega)
              have wr2 : IntKind.i64.wrap (a + (n - a + pickv xs (k' + 1 + 1) [1, 1, 2, 5])) = a + (n - a + pickv xs (k' + 1 + 1) [1, 1, 2, 5]) := IntWalk.i64_in _ (by omega)
              go_region_held3 (fun w' => w'.cell? ⟨w4.heap.size, 1, none⟩ = some (.int .i64 (n - a))) (first | go_keep) ((go_at_call 8; refine (pick_new_drew [1, 1, 2, 5] (by decide) (by decide) (by omega) hx2 TT6.strm).mono ?_; rintro e w6 ⟨rfl, T6⟩; have cE6 := cell_of_block (T6.kept hE5 hEb) 1; simp only [List.getElem?_toArray, List.getElem?_cons_zero, List.getElem?_cons_succ] at cE6))
              have HO6 := Lib.hid (T6.own TT6.strm HO.out (by decide))
              have TT7 := TT6.trans T6
              clear T6 TT6 hE5 HO wr1 wr2
              go_wp2_with fail
              go_roundw
              case rel =>
                refine ⟨j + 1, k' + 1 + 1 + 1, _, out ++ [⟨a, n - a, ⟨#[119]⟩⟩], by omega, by go_num, rfl, by omega, by omega, by omega, by simp; omega, ?_, ?_, TT7⟩
                · have := HH3.out
                  rw [HE.out] at this
                  exact this
                · rw [edCells_snoc, List.length_append]
                  exact HO6.out
              case measure => simp [intOf]; omega
            · have HE := Lib.hid (show chEdit xs n k' a = ⟨a, n - a, (somev xs (k' + 1) chNews)⟩ by simp only [chEdit]; rw [show min (pickv xs k' [0, 1, 1, 2, 4]) (n - a) = n - a by omega, if_neg (by omega)])
              have tb : ((n - a) == 0) = true := by simp; omega
              have tz := not_isEmpty_of_size hz
              have o1 : 0 ≤ n - a := by omega
              have o2 : n - a ≤ 4 := by omega
              clear ho
              go_wp2_with fail
              refine (some_new chNews (by decide) (by decide) (by omega) hx2 T3.strm).mono ?_
              rintro e w4 ⟨rfl, T4⟩
              have T5 := (T3.trans T4)
              have own4 := T5.own TT.strm own (by decide)
              have TT5 := (TT.trans T5)
              have hs4 : w.heap.size ≤ w4.heap.size := TT5.grow.size
              have hEb : w4.heap.size ≠ b := by have := T4.strm.lt; omega
              clear T3 T4 T5 own
              go_wp2_with (at_builtin; refine wpList_append_own _ rfl (.tmp 39) (.tmp 41) 28 /-t:[]api.Edit-/ rfl w.heap.size 47 /-t:hedgelayer/api.Edit-/ i0 (.agg #[.int .i64 0, .int .i64 0, .string ⟨#[]⟩]) 3 32 Try.underlying28 /-t:[]api.Edit-/ hi hz0 hz1 hz2 rfl (by decide) _ _ _ rfl ((own4.alloc (.cells #[.int .i64 a, .int .i64 (n - a), .string (somev xs (k' + 1) chNews)] 47 /-t:hedgelayer/api.Edit-/)).alloc _) ⟨w4.heap.size + 1, 0, none⟩ 1 1 [.int .i64 a, .int .i64 (n - a), .string (somev xs (k' + 1) chNews)] rfl rfl (cells_new2 _ _ _ _) (fun x hx => by simp at hx; rcases hx with rfl | rfl | rfl <;> rfl) (by unfold maxLen; omega) (by omega) (by simp; omega) ?_; intro v' w5 hown' hgrow _; have hE5 := append_kept ((own4.alloc (.cells #[.int .i64 a, .int .i64 (n - a), .string (somev xs (k' + 1) chNews)] 47 /-t:hedgelayer/api.Edit-/)).alloc _) hgrow ((Below.heap_alloc _ _ _ (by simp)).trans (heap_alloc_new w4 _)) (own_ne own4 (Nat.le_refl _)); have TT6 := ((TT5.alloc (.cells #[.int .i64 a, .int .i64 (n - a), .string (somev xs (k' + 1) chNews)] 47 /-t:hedgelayer/api.Edit-/)).alloc _).newer S hgrow (fun r hr => (own4.lt r hr).1); have cE1 := cell_of_block hE5 1; simp only [List.getElem?_toArray, List.getElem?_cons_zero, List.getElem?_cons_succ] at cE1; have HO := Lib.hid hown'; clear hown' hgrow TT5 own4 TT)
              have p3 : 1 ≤ pickv xs (k' + 1 + 1) [1, 1, 2, 5] ∧ pickv xs (k' + 1 + 1) [1, 1, 2, 5] ≤ 5 := pickv_all (fun x => 1 ≤ x ∧ x ≤ 5) _ _ _ (by decide) (by decide)
              have wr1 : IntKind.i64.wrap (n - a + pickv xs (k' + 1 + 1) [1, 1, 2, 5]) = n - a + pickv xs (k' + 1 + 1) [1, 1, 2, 5] := IntWalk.i64_in _ (by omega)
              have wr2 : IntKind.i64.wrap (a + (n - a + pickv xs (k' + 1 + 1) [1, 1, 2, 5])) = a + (n - a + pickv xs (k' + 1 + 1) [1, 1, 2, 5]) := IntWalk.i64_in _ (by omega)
              go_region_held3 (fun w' => w'.cell? ⟨w4.heap.size, 1, none⟩ = some (.int .i64 (n - a))) (first | go_keep) ((go_at_call 8; refine (pick_new_drew [1, 1, 2, 5] (by decide) (by decide) (by omega) hx2 TT6.strm).mono ?_; rintro e w6 ⟨rfl, T6⟩; have cE6 := cell_of_block (T6.kept hE5 hEb) 1; simp only [List.getElem?_toArray, List.getElem?_cons_zero, List.getElem?_cons_succ] at cE6))
              have HO6 := Lib.hid (T6.own TT6.strm HO.out (by decide))
              have TT7 := TT6.trans T6
              clear T6 TT6 hE5 HO wr1 wr2
              go_wp2_with fail
              go_roundw
              case rel =>
                refine ⟨j + 1, k' + 1 + 1 + 1, _, out ++ [⟨a, n - a, (somev xs (k' + 1) chNews)⟩], by omega, by go_num, rfl, by omega, by omega, by omega, by simp; omega, ?_, ?_, TT7⟩
                · have := HH3.out
                  rw [HE.out] at this
                  exact this
                · rw [edCells_snoc, List.length_append]
                  exact HO6.out
              case measure => simp [intOf]; omega
          · have HE := Lib.hid (show chEdit xs n k' a = ⟨a, n - a, (somev xs (k' + 1) chNews)⟩ by simp only [chEdit]; rw [show min (pickv xs k' [0, 1, 1, 2, 4]) (n - a) = n - a by omega, if_neg (by omega)])
            have tb : ((n - a) == 0) = false := by simp; omega
            have o1 : 0 ≤ n - a := by omega
            have o2 : n - a ≤ 4 := by omega
            clear ho
            go_wp2_with fail
            refine (some_new chNews (by decide) (by decide) (by omega) hx2 T3.strm).mono ?_
            rintro e w4 ⟨rfl, T4⟩
            have T5 := (T3.trans T4)
            have own4 := T5.own TT.strm own (by decide)
            have TT5 := (TT.trans T5)
            have hs4 : w.heap.size ≤ w4.heap.size := TT5.grow.size
            have hEb : w4.heap.size ≠ b := by have := T4.strm.lt; omega
            clear T3 T4 T5 own
            go_wp2_with (at_builtin; refine wpList_append_own _ rfl (.tmp 39) (.tmp 41) 28 /-t:[]api.Edit-/ rfl w.heap.size 47 /-t:hedgelayer/api.Edit-/ i0 (.agg #[.int .i64 0, .int .i64 0, .string ⟨#[]⟩]) 3 32 Try.underlying28 /-t:[]api.Edit-/ hi hz0 hz1 hz2 rfl (by decide) _ _ _ rfl ((own4.alloc (.cells #[.int .i64 a, .int .i64 (n - a), .string (somev xs (k' + 1) chNews)] 47 /-t:hedgelayer/api.Edit-/)).alloc _) ⟨w4.heap.size + 1, 0, none⟩ 1 1 [.int .i64 a, .int .i64 (n - a), .string (somev xs (k' + 1) chNews)] rfl rfl (cells_new2 _ _ _ _) (fun x hx => by simp at hx; rcases hx with rfl | rfl | rfl <;> rfl) (by unfold maxLen; omega) (by omega) (by simp; omega) ?_; intro v' w5 hown' hgrow _; have hE5 := append_kept ((own4.alloc (.cells #[.int .i64 a, .int .i64 (n - a), .string (somev xs (k' + 1) chNews)] 47 /-t:hedgelayer/api.Edit-/)).alloc _) hgrow ((Below.heap_alloc _ _ _ (by simp)).trans (heap_alloc_new w4 _)) (own_ne own4 (Nat.le_refl _)); have TT6 := ((TT5.alloc (.cells #[.int .i64 a, .int .i64 (n - a), .string (somev xs (k' + 1) chNews)] 47 /-t:hedgelayer/api.Edit-/)).alloc _).newer S hgrow (fun r hr => (own4.lt r hr).1); have cE1 := cell_of_block hE5 1; simp only [List.getElem?_toArray, List.getElem?_cons_zero, List.getElem?_cons_succ] at cE1; have HO := Lib.hid hown'; clear hown' hgrow TT5 own4 TT)
            have p3 : 1 ≤ pickv xs (k' + 1 + 1) [1, 1, 2, 5] ∧ pickv xs (k' + 1 + 1) [1, 1, 2, 5] ≤ 5 := pickv_all (fun x => 1 ≤ x ∧ x ≤ 5) _ _ _ (by decide) (by decide)
            have wr1 : IntKind.i64.wrap (n - a + pickv xs (k' + 1 + 1) [1, 1, 2, 5]) = n - a + pickv xs (k' + 1 + 1) [1, 1, 2, 5] := IntWalk.i64_in _ (by omega)
            have wr2 : IntKind.i64.wrap (a + (n - a + pickv xs (k' + 1 + 1) [1, 1, 2, 5])) = a + (n - a + pickv xs (k' + 1 + 1) [1, 1, 2, 5]) := IntWalk.i64_in _ (by omega)
            go_region_held3 (fun w' => w'.cell? ⟨w4.heap.size, 1, none⟩ = some (.int .i64 (n - a))) (first | go_keep) ((go_at_call 8; refine (pick_new_drew [1, 1, 2, 5] (by decide) (by decide) (by omega) hx2 TT6.strm).mono ?_; rintro e w6 ⟨rfl, T6⟩; have cE6 := cell_of_block (T6.kept hE5 hEb) 1; simp only [List.getElem?_toArray, List.getElem?_cons_zero, List.getElem?_cons_succ] at cE6))
            have HO6 := Lib.hid (T6.own TT6.strm HO.out (by decide))
            have TT7 := TT6.trans T6
            clear T6 TT6 hE5 HO wr1 wr2
            go_wp2_with fail
            go_roundw
            case rel =>
              refine ⟨j + 1, k' + 1 + 1 + 1, _, out ++ [⟨a, n - a, (somev xs (k' + 1) chNews)⟩], by omega, by go_num, rfl, by omega, by omega, by omega, by simp; omega, ?_, ?_, TT7⟩
              · have := HH3.out
                rw [HE.out] at this
                exact this
              · rw [edCells_snoc, List.length_append]
                exact HO6.out
            case measure => simp [intOf]; omega
    · obtain rfl : j = M := by omega
      have HX := Lib.hid (show changeP xs k n = (out, k') from HH.out.trans (by rw [Nat.sub_self]; rfl))
      by_cases hf : flipv xs k' 15 = true
      · have HV := Lib.hid (show changeV xs k n = out ++ [anEditV xs (k' + 1) n] by unfold changeV; rw [HX.out]; exact if_pos hf)
        have HK := Lib.hid (show changeK xs k n = anEditK xs (k' + 1) by unfold changeK; rw [HX.out]; exact if_pos hf)
        go_wp2_with fail
        refine (flip_any 15 (by omega) (by omega) hx2 TT.strm).mono ?_
        rintro e w7 ⟨rfl, T7⟩
        go_wp2_with fail
        refine (anEdit_any n hn (by omega) hx2 T7.strm).mono ?_
        rintro e w8 ⟨rfl, T8⟩
        have own8 := (T7.trans T8).own TT.strm own (by decide)
        have TT8 := TT.trans (T7.trans T8)
        have hs8 : w.heap.size ≤ w8.heap.size := TT8.grow.size
        clear T7 T8 own TT
        generalize anEditV xs (k' + 1) n = ed at HV ⊢
        obtain ⟨da, d0, dn⟩ := ed
        simp only
        go_wp2_with (at_builtin; refine wpList_append_own _ rfl (.tmp 54) (.tmp 58) 28 /-t:[]api.Edit-/ rfl w.heap.size 47 /-t:hedgelayer/api.Edit-/ i0 (.agg #[.int .i64 0, .int .i64 0, .string ⟨#[]⟩]) 3 32 Try.underlying28 /-t:[]api.Edit-/ hi hz0 hz1 hz2 rfl (by decide) _ _ _ rfl (own8.alloc _) ⟨w8.heap.size, 0, none⟩ 1 1 [.int .i64 da, .int .i64 d0, .string dn] rfl rfl (cells_new _ _ _) (fun x hx => by simp at hx; rcases hx with rfl | rfl | rfl <;> rfl) (by unfold maxLen; omega) (by omega) (by simp; omega) ?_; intro v' w9 hown' hgrow _; have TT9 := (TT8.alloc _).newer S hgrow (fun r hr => (own8.lt r hr).1); have HO := Lib.hid hown'; clear hown' hgrow TT8 own8)
        go_ret
        refine ⟨_, rfl, ?_, by rw [HK.out]; exact TT9⟩
        rw [HV.out, edCells_snoc, List.length_append]
        exact HO.out
      · have HV := Lib.hid (show changeV xs k n = out by unfold changeV; rw [HX.out]; exact if_neg hf)
        have HK := Lib.hid (show changeK xs k n = k' + 1 by unfold changeK; rw [HX.out]; exact if_neg hf)
        go_wp2_with fail
        refine (flip_any 15 (by omega) (by omega) hx2 TT.strm).mono ?_
        rintro e w7 ⟨rfl, T7⟩
        have own7 := T7.own TT.strm own (by decide)
        have TT7 := TT.trans T7
        clear T7 own TT
        go_wp2_with fail
        go_ret
        exact ⟨_, rfl, by rw [HV.out]; exact own7, by rw [HK.out]; exact TT7⟩
end Go.Proofs.Ytajigndlcdiinaa
