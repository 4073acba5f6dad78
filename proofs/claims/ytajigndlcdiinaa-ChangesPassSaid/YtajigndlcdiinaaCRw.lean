/- Package edit's reference: is an old byte gone (mixed's closure gone, with slices.ContainsFunc). -/
import Derived.Test.YtajigndlcdiinaaCRv
import Derived.Test.YtajigndlcdiinaaCQ1
namespace Go.Proofs.Ytajigndlcdiinaa
open Go.RowKit

def gnE (p : Int) (e : Ed) : Bool := decide (e.at_ ≤ p) && decide (p < e.at_ + e.old)
def gnL (es : List Ed) (p : Int) : Bool := es.any (gnE p)
def gnIdx (p : Int) : Nat → List Ed → Int
  | _, [] => -1
  | k, x :: r => if gnE p x then (k : Int) else gnIdx p (k + 1) r
theorem gnIdx_any (p : Int) : ∀ (es : List Ed) (k : Nat), decide (0 ≤ gnIdx p k es) = gnL es p
  | [], k => rfl
  | x :: r, k => by
    rw [gnIdx, gnL, List.any_cons]
    by_cases h : gnE p x = true
    · rw [if_pos h, h]; simp
    · rw [if_neg h, gnIdx_any p r (k + 1)]
      simp only [Bool.not_eq_true] at h
      rw [h]; rfl

theorem goneE_any (b : Nat) (e : Ed) (p : Int) (w : World) (hb : w.heap[b]? = some (.cells #[.int .i64 p] 3 (0, 0))) (h1 : -1000000 ≤ e.at_ ∧ e.at_ ≤ 1000000) (h2 : 0 ≤ e.old ∧ e.old ≤ 1000000) :
    Calls Try.prog 92 #[.agg #[.int .i64 e.at_, .int .i64 e.old, .string e.new], .pointer (some ⟨b, 0, none⟩)] w fun r w' => r = .returned (.bool (gnE p e)) ∧ w.grownBy w' none := by
  have c0 : ∀ o, (w.alloc o).cell? ⟨b, 0, none⟩ = some (.int .i64 p) := fun o => cell_of_block ((Below.heap_alloc w o b (lt_of_block hb)).trans hb) 0
  have HE := Lib.hid (show gnE p e = (decide (e.at_ ≤ p) && decide (p < e.at_ + e.old)) from rfl)
  obtain ⟨ea, eo, en⟩ := e
  simp only at h1 h2 HE ⊢
  have hw : IntKind.i64.wrap (ea + eo) = ea + eo := IntWalk.i64_in _ (by omega)
  by_cases t1 : ea ≤ p
  · have d1 : decide (ea ≤ p) = true := by simpa using t1
    by_cases t2 : p < ea + eo
    · have d2 : decide (p < ea + eo) = true := by simpa using t2
      have HV := Lib.hid (show gnE p ⟨ea, eo, en⟩ = true by rw [HE.out, d1, d2]; rfl)
      go_enter Try.func92, Try.ntmps92
      go_wp2_with fail
      go_ret
      exact ⟨ret_bool HV.out.symm, World.grownBy_alloc _ _ _⟩
    · have d2 : decide (p < ea + eo) = false := by simpa using t2
      have HV := Lib.hid (show gnE p ⟨ea, eo, en⟩ = false by rw [HE.out, d2]; simp)
      go_enter Try.func92, Try.ntmps92
      go_wp2_with fail
      go_ret
      exact ⟨ret_bool HV.out.symm, World.grownBy_alloc _ _ _⟩
  · have d1 : decide (ea ≤ p) = false := by simpa using t1
    have HV := Lib.hid (show gnE p ⟨ea, eo, en⟩ = false by rw [HE.out, d1]; rfl)
    go_enter Try.func92, Try.ntmps92
    go_wp2_with fail
    go_ret
    exact ⟨ret_bool HV.out.symm, World.grownBy_alloc _ _ _⟩

set_option maxHeartbeats 4000000 in
set_option maxRecDepth 100000 in
theorem goneIdx_any (a : Option Addr) (cap : Nat) (es : List Ed) (b : Nat) (p : Int) (w : World) (hl : es.length ≤ 100000) (hb : w.heap[b]? = some (.cells #[.int .i64 p] 3 (0, 0))) (hE : Eds w a es)
    (hS : ∀ e ∈ es, (-1000000 ≤ e.at_ ∧ e.at_ ≤ 1000000) ∧ (0 ≤ e.old ∧ e.old ≤ 1000000)) :
    Calls Try.prog 100 #[.slice a es.length cap, .func (Fn.func 92) #[] #[.pointer (some ⟨b, 0, none⟩)]] w fun r w' => r = .returned (.int .i64 (gnIdx p 0 es)) ∧ w.grownBy w' none := by
  have HH := Lib.hid (show gnIdx p 0 es = gnIdx p 0 (es.drop 0) from rfl)
  have HE := Lib.hid hE
  have HS := Lib.hid hS
  clear hE hS
  go_enter Try.func100, Try.ntmps100
  go_wp2_with fail
  go_loopw [8] (fun q wr => ∃ j : Nat, j ≤ es.length ∧ q = .int .i64 j ∧ Hid (gnIdx p 0 es = gnIdx p j (es.drop j)) ∧ w.grownBy wr none) (fun q _ => es.length - (intOf q).toNat)
  case atStart => exact ⟨0, Nat.zero_le _, rfl, HH, grow_self w⟩
  case round =>
    obtain ⟨j, hj, rfl, HJ, hg⟩ := hrel
    clear HH
    by_cases hlt : j < es.length
    · obtain ⟨g, off, rfl, c1, c2, c3⟩ := HE.out j hlt
      replace c1 := hg.cell c1 (by simp)
      replace c2 := hg.cell c2 (by simp)
      replace c3 := hg.cell c3 (by simp)
      have hbr : wr.heap[b]? = some (.cells #[.int .i64 p] 3 (0, 0)) := by rw [hg.block b (lt_of_block hb) (by simp)]; exact hb
      have HD := Lib.hid (show es.drop j = es[j] :: es.drop (j + 1) from List.drop_eq_getElem_cons hlt)
      have hs := HS.out _ (List.getElem_mem hlt)
      generalize es[j] = x at c1 c2 c3 HD hs
      obtain ⟨xa, xo, xn⟩ := x
      simp only at c1 c2 c3 hs
      have HC := Lib.hid (goneE_any b ⟨xa, xo, xn⟩ p wr hbr hs.1 hs.2)
      clear hs hbr
      obtain ⟨t, ht⟩ : ∃ t, t = gnE p ⟨xa, xo, xn⟩ := ⟨_, rfl⟩
      rw [← ht] at HC
      cases t with
      | true =>
        have HR := Lib.hid (show gnIdx p 0 es = (j : Int) by rw [HJ.out, HD.out, gnIdx]; exact if_pos ht.symm)
        clear ht
        go_wp2_with fail
        refine HC.out.mono ?_
        rintro e w1 ⟨rfl, g1⟩
        go_wp2_with fail
        go_ret
        exact ⟨ret_i64 HR.out.symm, grownBy_trans hg g1⟩
      | false =>
        have HR := Lib.hid (show gnIdx p 0 es = gnIdx p (j + 1) (es.drop (j + 1)) by rw [HJ.out, HD.out, gnIdx]; exact if_neg (by rw [← ht]; decide))
        clear ht
        go_wp2_with fail
        refine HC.out.mono ?_
        rintro e w1 ⟨rfl, g1⟩
        have G1 := grownBy_trans hg g1
        go_wp2_with fail
        go_roundw
        case rel => exact ⟨j + 1, by omega, by go_num, HR, G1⟩
        case measure => simp [intOf]; omega
    · obtain rfl : j = es.length := by omega
      have HR := Lib.hid (show gnIdx p 0 es = -1 by rw [HJ.out, List.drop_length, gnIdx])
      go_wp2_with fail
      go_ret
      exact ⟨ret_i64 HR.out.symm, hg⟩

theorem goneC_any (a : Option Addr) (cap : Nat) (es : List Ed) (b : Nat) (p : Int) (w : World) (hl : es.length ≤ 100000) (hb : w.heap[b]? = some (.cells #[.int .i64 p] 3 (0, 0))) (hE : Eds w a es)
    (hS : ∀ e ∈ es, (-1000000 ≤ e.at_ ∧ e.at_ ≤ 1000000) ∧ (0 ≤ e.old ∧ e.old ≤ 1000000)) :
    Calls Try.prog 91 #[.slice a es.length cap, .func (Fn.func 92) #[] #[.pointer (some ⟨b, 0, none⟩)]] w fun r w' => r = .returned (.bool (gnL es p)) ∧ w.grownBy w' none := by
  have HV := Lib.hid (gnIdx_any p es 0)
  have HC := Lib.hid (goneIdx_any a cap es b p w hl hb hE hS)
  clear hE hS hb
  generalize gnIdx p 0 es = q at HV HC
  go_enter Try.func91, Try.ntmps91
  go_wp2_with fail
  refine HC.out.mono ?_
  rintro e w1 ⟨rfl, g1⟩
  go_wp2_with fail
  go_ret
  exact ⟨ret_bool HV.out, g1⟩

theorem gone_any (a : Option Addr) (cap : Nat) (es : List Ed) (p : Int) (w : World) (hl : es.length ≤ 100000) (hE : Eds w a es)
    (hS : ∀ e ∈ es, (-1000000 ≤ e.at_ ∧ e.at_ ≤ 1000000) ∧ (0 ≤ e.old ∧ e.old ≤ 1000000)) :
    Calls Try.prog 90 #[.slice a es.length cap, .int .i64 p] w fun r w' => r = .returned (.bool (gnL es p)) ∧ w.grownBy w' none := by
  have g0 := World.grownBy_alloc w (.cells #[.int .i64 p] 3) none
  have HC := Lib.hid (goneC_any a cap es w.heap.size p (w.alloc (.cells #[.int .i64 p] 3)) hl (heap_alloc_new w _) (fun j hj => by
    obtain ⟨g, off, e, c1, c2, c3⟩ := hE j hj
    exact ⟨g, off, e, g0.cell c1 (by simp), g0.cell c2 (by simp), g0.cell c3 (by simp)⟩) hS)
  clear hE hS
  go_enter Try.func90, Try.ntmps90
  go_wp2_with fail
  refine HC.out.mono ?_
  rintro e w1 ⟨rfl, g1⟩
  have G := grownBy_trans g0 g1
  go_wp2_with fail
  go_ret
  exact ⟨rfl, G⟩
end Go.Proofs.Ytajigndlcdiinaa
