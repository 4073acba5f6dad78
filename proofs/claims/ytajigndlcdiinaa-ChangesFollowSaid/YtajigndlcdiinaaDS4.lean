/- Stream: AnEdit, Change. -/
import Derived.Test.YtajigndlcdiinaaDQ1
namespace Go.Proofs.Ytajigndlcdiinaa
open Go.RowKit

def editNews : List ByteArray := [⟨#[]⟩, ⟨#[97]⟩, ⟨#[32]⟩, ⟨#[49]⟩, ⟨#[43]⟩, ⟨#[41]⟩, ⟨#[35]⟩, ⟨#[34]⟩, ⟨#[97, 98, 32, 49]⟩, ⟨#[46]⟩]
def anEditBase (xs : List Int) (k : Nat) (n : Int) : Ed := ⟨nextv xs k (n + 1), min (pickv xs (k + 1) [0, 0, 1, 2, 5]) (n - nextv xs k (n + 1)), somev xs (k + 2) editNews⟩
def anEditV (xs : List Int) (k : Nat) (n : Int) : Ed :=
  if flipv xs (k + 3) 25 then ⟨pickv xs (k + 4) [-1, n + 1, nextv xs k (n + 1)], pickv xs (k + 5) [0, -1, n + 1], somev xs (k + 2) editNews⟩ else anEditBase xs k n
def anEditK (xs : List Int) (k : Nat) : Nat := if flipv xs (k + 3) 25 then k + 6 else k + 4

def EdPost (b : Nat) (av : Option Addr) (cap : Nat) (xs : List Int) (v : Ed) (k' : Nat) (w : World) (e : Ending) (w' : World) : Prop :=
  e = .returned (.agg #[.int .i64 v.at_, .int .i64 v.old, .string v.new]) ∧ Sto b av cap xs w w' k'

set_option maxHeartbeats 4000000 in
set_option maxRecDepth 100000 in
theorem anEdit_any {b : Nat} {av : Option Addr} {cap k : Nat} {xs : List Int} {w : World} (n : Int) (hn : 0 ≤ n ∧ n ≤ 1000000)
    (hk : k ≤ 1000000000) (hx2 : xs.length ≤ 9223372036854775807) (S : Strm b av cap xs w k) :
    Calls Try.prog 45 #[.pointer (some ⟨b, 0, none⟩), .int .i64 n] w (EdPost b av cap xs (anEditV xs k n) (anEditK xs k) w) := by
  have hRb : w.heap.size ≠ b := by have := S.lt; omega
  have T0 := (Sto.refl S).alloc (.cells #[.int .i64 0, .int .i64 0, .string ⟨#[]⟩] 47 /-t:hedgelayer/api.Edit-/)
  go_enter Try.func45, Try.ntmps45
  go_wp2_with fail
  refine (next_any _ (by omega) (by omega) hx2 T0.strm).mono ?_
  rintro e w1 ⟨rfl, T1⟩
  have l1 := nextv_lo xs k (n + 1)
  have l2 := nextv_hi xs k (n + 1) (by omega)
  have E1 := Lib.hid (show nextv xs k (n + 1) = nextv xs k (n + 1) from rfl)
  go_wp2_with fail
  refine (pick_new [0, 0, 1, 2, 5] (by decide) (by decide) (by omega) hx2 T1.strm).mono ?_
  rintro e w2 ⟨rfl, T2⟩
  have p1 : 0 ≤ pickv xs (k + 1) [0, 0, 1, 2, 5] ∧ pickv xs (k + 1) [0, 0, 1, 2, 5] ≤ 5 := pickv_all (fun x => 0 ≤ x ∧ x ≤ 5) _ _ _ (by decide) (by decide)
  obtain ⟨P, hP⟩ : ∃ P, P = pickv xs (k + 1) [0, 0, 1, 2, 5] := ⟨_, rfl⟩
  obtain ⟨N, hN⟩ : ∃ N, N = nextv xs k (n + 1) := ⟨_, rfl⟩
  rw [← hP] at p1 ⊢
  rw [← hN] at l1 l2 ⊢
  have HP := Lib.hid hP
  have HN := Lib.hid hN
  clear hP hN E1
  by_cases hm : P ≤ n - N
  · have HM := Lib.hid (show min P (n - N) = P by omega)
    go_wp2_with fail
    refine (some_new editNews (by decide) (by decide) (by omega) hx2 T2.strm).mono ?_
    rintro e w3 ⟨rfl, T3⟩
    go_wp2_with fail
    refine (flip_any 25 (by omega) (by omega) hx2 (T3.alloc _).strm).mono ?_
    rintro e w4 ⟨rfl, T4⟩
    have bR4 := T4.kept ((T3.alloc (.cells #[.int .i64 N, .int .i64 (P), .string (somev xs (k + 1 + 1) editNews)] 47 /-t:hedgelayer/api.Edit-/)).kept (T2.kept (T1.kept (heap_alloc_new w _) hRb) hRb) hRb) hRb
    have hEb : w3.heap.size ≠ b := by have := T3.strm.lt; omega
    have bE4 := T4.kept (heap_new_at w3 _ _ rfl) hEb
    have TT := T0.trans (T1.trans (T2.trans ((T3.alloc _).trans T4)))
    have hEne : w3.heap.size ≠ w.heap.size := by have := T1.grow.size; have := T2.grow.size; have := T3.grow.size; simp at *; omega
    have hREne : w.heap.size ≠ w3.heap.size := fun e => hEne e.symm
    have hEw : w.heap.size ≤ w3.heap.size := by have := T1.grow.size; have := T2.grow.size; have := T3.grow.size; simp at *; omega
    clear T0 T1 T2 T3
    by_cases hf : flipv xs (k + 1 + 1 + 1) 25 = true
    · have HV := Lib.hid (show anEditV xs k n = ⟨(pickv xs (k + 1 + 1 + 1 + 1) [-1, n + 1, N]), (pickv xs (k + 1 + 1 + 1 + 1 + 1) [0, -1, n + 1]), (somev xs (k + 1 + 1) editNews)⟩ by rw [HN.out]; exact if_pos hf)
      have HK := Lib.hid (show anEditK xs k = k + 1 + 1 + 1 + 1 + 1 + 1 from if_pos hf)
      go_wp2_with fail
      refine (pick_new [-1, n + 1, N] (by simp) (by simp) (by omega) hx2 T4.strm).mono ?_
      rintro e w5 ⟨rfl, T5⟩
      go_wp2_with fail
      refine (pick_new [0, -1, n + 1] (by simp) (by simp) (by omega) hx2 T5.strm).mono ?_
      rintro e w6 ⟨rfl, T6⟩
      have bR := T6.kept (T5.kept bR4 hRb) hRb
      have bE := T6.kept (T5.kept bE4 hEb) hEb
      have T7 := TT.trans (T5.trans T6)
      clear T5 T6 TT T4 bR4 bE4
      have cR0 := cell_of_block bR 0
      have cR1 := cell_of_block bR 1
      have cR2 := cell_of_block bR 2
      have fR0 := free_of_block bR 0
      have fR1 := free_of_block bR 1
      have fR2 := free_of_block bR 2
      have cE0 := cell_of_block bE 0
      have cE1 := cell_of_block bE 1
      have cE2 := cell_of_block bE 2
      have fE0 := free_of_block bE 0
      have fE1 := free_of_block bE 1
      simp only [List.getElem?_toArray, List.getElem?_cons_zero, List.getElem?_cons_succ] at cR0 cR1 cR2 cE0 cE1 cE2
      have T8 := (((((T7.setCell S ⟨w3.heap.size, 0, none⟩ (.int .i64 (pickv xs (k + 1 + 1 + 1 + 1) [-1, n + 1, N])) hEw).setCell S ⟨w3.heap.size, 1, none⟩ (.int .i64 (pickv xs (k + 1 + 1 + 1 + 1 + 1) [0, -1, n + 1])) hEw).setCell S ⟨w.heap.size, 0, none⟩ (.int .i64 (pickv xs (k + 1 + 1 + 1 + 1) [-1, n + 1, N])) (Nat.le_refl _)).setCell S ⟨w.heap.size, 1, none⟩ (.int .i64 (pickv xs (k + 1 + 1 + 1 + 1 + 1) [0, -1, n + 1])) (Nat.le_refl _)).setCell S ⟨w.heap.size, 2, none⟩ (.string (somev xs (k + 1 + 1) editNews)) (Nat.le_refl _))
      clear T7 bR bE
      go_wp2_with fail
      refine bodyPost_ret (v := .agg #[.int .i64 (pickv xs (k + 1 + 1 + 1 + 1) [-1, n + 1, N]), .int .i64 (pickv xs (k + 1 + 1 + 1 + 1 + 1) [0, -1, n + 1]), .string (somev xs (k + 1 + 1) editNews)]) (by simp [results, Try.results45, go_sem, cR0, cR1, cR2]) rfl ⟨by rw [HV.out], by rw [HK.out]; exact T8⟩
    · have HV := Lib.hid (show anEditV xs k n = ⟨N, P, (somev xs (k + 1 + 1) editNews)⟩ by rw [← HM.out, HN.out, HP.out]; exact if_neg hf)
      have HK := Lib.hid (show anEditK xs k = k + 1 + 1 + 1 + 1 from if_neg hf)
      have bR := bR4
      have bE := bE4
      clear T4 bR4 bE4
      have cR0 := cell_of_block bR 0
      have cR1 := cell_of_block bR 1
      have cR2 := cell_of_block bR 2
      have fR0 := free_of_block bR 0
      have fR1 := free_of_block bR 1
      have fR2 := free_of_block bR 2
      have cE0 := cell_of_block bE 0
      have cE1 := cell_of_block bE 1
      have cE2 := cell_of_block bE 2
      have fE0 := free_of_block bE 0
      have fE1 := free_of_block bE 1
      simp only [List.getElem?_toArray, List.getElem?_cons_zero, List.getElem?_cons_succ] at cR0 cR1 cR2 cE0 cE1 cE2
      have T8 := (((TT.setCell S ⟨w.heap.size, 0, none⟩ (.int .i64 N) (Nat.le_refl _)).setCell S ⟨w.heap.size, 1, none⟩ (.int .i64 (P)) (Nat.le_refl _)).setCell S ⟨w.heap.size, 2, none⟩ (.string (somev xs (k + 1 + 1) editNews)) (Nat.le_refl _))
      clear TT bR bE
      go_wp2_with fail
      refine bodyPost_ret (v := .agg #[.int .i64 N, .int .i64 (P), .string (somev xs (k + 1 + 1) editNews)]) (by simp [results, Try.results45, go_sem, cR0, cR1, cR2]) rfl ⟨by rw [HV.out], by rw [HK.out]; exact T8⟩
  · have HM := Lib.hid (show min P (n - N) = n - N by omega)
    go_wp2_with fail
    refine (some_new editNews (by decide) (by decide) (by omega) hx2 T2.strm).mono ?_
    rintro e w3 ⟨rfl, T3⟩
    go_wp2_with fail
    refine (flip_any 25 (by omega) (by omega) hx2 (T3.alloc _).strm).mono ?_
    rintro e w4 ⟨rfl, T4⟩
    have bR4 := T4.kept ((T3.alloc (.cells #[.int .i64 N, .int .i64 (n - N), .string (somev xs (k + 1 + 1) editNews)] 47 /-t:hedgelayer/api.Edit-/)).kept (T2.kept (T1.kept (heap_alloc_new w _) hRb) hRb) hRb) hRb
    have hEb : w3.heap.size ≠ b := by have := T3.strm.lt; omega
    have bE4 := T4.kept (heap_new_at w3 _ _ rfl) hEb
    have TT := T0.trans (T1.trans (T2.trans ((T3.alloc _).trans T4)))
    have hEne : w3.heap.size ≠ w.heap.size := by have := T1.grow.size; have := T2.grow.size; have := T3.grow.size; simp at *; omega
    have hREne : w.heap.size ≠ w3.heap.size := fun e => hEne e.symm
    have hEw : w.heap.size ≤ w3.heap.size := by have := T1.grow.size; have := T2.grow.size; have := T3.grow.size; simp at *; omega
    clear T0 T1 T2 T3
    by_cases hf : flipv xs (k + 1 + 1 + 1) 25 = true
    · have HV := Lib.hid (show anEditV xs k n = ⟨(pickv xs (k + 1 + 1 + 1 + 1) [-1, n + 1, N]), (pickv xs (k + 1 + 1 + 1 + 1 + 1) [0, -1, n + 1]), (somev xs (k + 1 + 1) editNews)⟩ by rw [HN.out]; exact if_pos hf)
      have HK := Lib.hid (show anEditK xs k = k + 1 + 1 + 1 + 1 + 1 + 1 from if_pos hf)
      go_wp2_with fail
      refine (pick_new [-1, n + 1, N] (by simp) (by simp) (by omega) hx2 T4.strm).mono ?_
      rintro e w5 ⟨rfl, T5⟩
      go_wp2_with fail
      refine (pick_new [0, -1, n + 1] (by simp) (by simp) (by omega) hx2 T5.strm).mono ?_
      rintro e w6 ⟨rfl, T6⟩
      have bR := T6.kept (T5.kept bR4 hRb) hRb
      have bE := T6.kept (T5.kept bE4 hEb) hEb
      have T7 := TT.trans (T5.trans T6)
      clear T5 T6 TT T4 bR4 bE4
      have cR0 := cell_of_block bR 0
      have cR1 := cell_of_block bR 1
      have cR2 := cell_of_block bR 2
      have fR0 := free_of_block bR 0
      have fR1 := free_of_block bR 1
      have fR2 := free_of_block bR 2
      have cE0 := cell_of_block bE 0
      have cE1 := cell_of_block bE 1
      have cE2 := cell_of_block bE 2
      have fE0 := free_of_block bE 0
      have fE1 := free_of_block bE 1
      simp only [List.getElem?_toArray, List.getElem?_cons_zero, List.getElem?_cons_succ] at cR0 cR1 cR2 cE0 cE1 cE2
      have T8 := (((((T7.setCell S ⟨w3.heap.size, 0, none⟩ (.int .i64 (pickv xs (k + 1 + 1 + 1 + 1) [-1, n + 1, N])) hEw).setCell S ⟨w3.heap.size, 1, none⟩ (.int .i64 (pickv xs (k + 1 + 1 + 1 + 1 + 1) [0, -1, n + 1])) hEw).setCell S ⟨w.heap.size, 0, none⟩ (.int .i64 (pickv xs (k + 1 + 1 + 1 + 1) [-1, n + 1, N])) (Nat.le_refl _)).setCell S ⟨w.heap.size, 1, none⟩ (.int .i64 (pickv xs (k + 1 + 1 + 1 + 1 + 1) [0, -1, n + 1])) (Nat.le_refl _)).setCell S ⟨w.heap.size, 2, none⟩ (.string (somev xs (k + 1 + 1) editNews)) (Nat.le_refl _))
      clear T7 bR bE
      go_wp2_with fail
      refine bodyPost_ret (v := .agg #[.int .i64 (pickv xs (k + 1 + 1 + 1 + 1) [-1, n + 1, N]), .int .i64 (pickv xs (k + 1 + 1 + 1 + 1 + 1) [0, -1, n + 1]), .string (somev xs (k + 1 + 1) editNews)]) (by simp [results, Try.results45, go_sem, cR0, cR1, cR2]) rfl ⟨by rw [HV.out], by rw [HK.out]; exact T8⟩
    · have HV := Lib.hid (show anEditV xs k n = ⟨N, n - N, (somev xs (k + 1 + 1) editNews)⟩ by rw [← HM.out, HN.out, HP.out]; exact if_neg hf)
      have HK := Lib.hid (show anEditK xs k = k + 1 + 1 + 1 + 1 from if_neg hf)
      have bR := bR4
      have bE := bE4
      clear T4 bR4 bE4
      have cR0 := cell_of_block bR 0
      have cR1 := cell_of_block bR 1
      have cR2 := cell_of_block bR 2
      have fR0 := free_of_block bR 0
      have fR1 := free_of_block bR 1
      have fR2 := free_of_block bR 2
      have cE0 := cell_of_block bE 0
      have cE1 := cell_of_block bE 1
      have cE2 := cell_of_block bE 2
      have fE0 := free_of_block bE 0
      have fE1 := free_of_block bE 1
      simp only [List.getElem?_toArray, List.getElem?_cons_zero, List.getElem?_cons_succ] at cR0 cR1 cR2 cE0 cE1 cE2
      have T8 := (((TT.setCell S ⟨w.heap.size, 0, none⟩ (.int .i64 N) (Nat.le_refl _)).setCell S ⟨w.heap.size, 1, none⟩ (.int .i64 (n - N)) (Nat.le_refl _)).setCell S ⟨w.heap.size, 2, none⟩ (.string (somev xs (k + 1 + 1) editNews)) (Nat.le_refl _))
      clear TT bR bE
      go_wp2_with fail
      refine bodyPost_ret (v := .agg #[.int .i64 N, .int .i64 (n - N), .string (somev xs (k + 1 + 1) editNews)]) (by simp [results, Try.results45, go_sem, cR0, cR1, cR2]) rfl ⟨by rw [HV.out], by rw [HK.out]; exact T8⟩
end Go.Proofs.Ytajigndlcdiinaa
