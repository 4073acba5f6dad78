/- Edits, the reference's: MovedOf, when, errs. -/
import Derived.Test.YtajigndlcdiinaaE2
namespace Go.Proofs.Ytajigndlcdiinaa
open Go.RowKit

/-- Edits with offsets and lengths as a right change has them. -/
def EdsOk (es : List Ed) : Prop := ∀ e, e ∈ es → 0 ≤ e.at_ ∧ e.at_ ≤ 20000 ∧ 0 ≤ e.old ∧ e.old ≤ 20000 ∧ e.new.size ≤ 1099511627776

def movedGo (at_ : Int) (behind : Bool) : Int → List Ed → Int
  | shift, [] => at_ + shift
  | shift, e :: r =>
    if at_ < e.at_ then at_ + shift
    else if at_ ≤ e.at_ + e.old then (if behind then e.at_ + shift + e.new.size else e.at_ + shift)
    else movedGo at_ behind (shift + (e.new.size - e.old)) r

set_option maxHeartbeats 4000000 in
theorem movedOf_any (n : Int) (a : Option Addr) (cap : Nat) (es : List Ed) (at_ : Int) (behind : Bool) (w : World) (hl : es.length ≤ 2000) (hat : -100000 ≤ at_ ∧ at_ ≤ 100000) (hE : Eds w a es) (hS : EdsOk es) :
    Calls Try.prog 41 #[.int .i64 n, .slice a es.length cap, .int .i64 at_, .bool behind] w fun e w' => e = .returned (.int .i64 (movedGo at_ behind 0 es)) ∧ w.grownBy w' none := by
  have HF : Hid (movedGo at_ behind 0 es = movedGo at_ behind 0 (es.drop 0)) := Lib.hid rfl
  go_enter Try.func41, Try.ntmps41
  go_wp2_with fail
  go_loopw [9, 14] (fun sh i wr => ∃ (j : Nat) (shift : Int), j ≤ es.length ∧ i = .int .i64 j ∧ sh = .int .i64 shift ∧ -20000 * (j : Int) ≤ shift ∧ shift ≤ 1099511627776 * (j : Int)
    ∧ Hid (movedGo at_ behind 0 es = movedGo at_ behind shift (es.drop j)) ∧ w.grownBy wr none) (fun _ i _ => es.length - (intOf i).toNat)
  case atStart => exact ⟨0, 0, Nat.zero_le _, rfl, rfl, by omega, by omega, HF, grow_refl _ _⟩
  case round =>
    obtain ⟨j, shift, hj, rfl, rfl, l1, l2, HH, hg⟩ := hrel
    by_cases hlt : j < es.length
    · obtain ⟨g, off, rfl, c1, c2, c3⟩ := hE j hlt
      replace c1 := hg.cell c1 (by simp)
      replace c2 := hg.cell c2 (by simp)
      replace c3 := hg.cell c3 (by simp)
      have hs := hS _ (List.getElem_mem hlt)
      have hcons : es.drop j = es[j] :: es.drop (j + 1) := List.drop_eq_getElem_cons hlt
      have HH2 := Lib.hid (HH.out.trans (by rw [hcons, movedGo]))
      clear hcons HH
      generalize es[j] = e at c1 c2 c3 hs HH2
      obtain ⟨ea, eo, en⟩ := e
      simp only at c1 c2 c3 hs HH2
      have hgw : w.grownBy (wr.alloc (.cells #[.int .i64 ea, .int .i64 eo, .string en] 47 /-t:hedgelayer/api.Edit-/)) none := grow_trans hg (World.grownBy_alloc _ _ _)
      by_cases t1 : at_ < ea
      · have HH3 := Lib.hid (HH2.out.trans (if_pos t1))
        clear HH2
        go_wp2_with fail
        go_ret
        rw [HH3.out]
        exact ⟨rfl, hgw⟩
      · by_cases t2 : at_ ≤ ea + eo
        · cases hb : behind
          · have HH3 := Lib.hid (HH2.out.trans ((if_neg t1).trans ((if_pos t2).trans (by rw [hb]))))
            subst hb
            clear HH2
            go_wp2_with fail
            go_ret
            rw [HH3.out]
            exact ⟨rfl, hgw⟩
          · have HH3 := Lib.hid (HH2.out.trans ((if_neg t1).trans ((if_pos t2).trans (by rw [hb]))))
            subst hb
            clear HH2
            go_wp2_with fail
            go_ret
            rw [HH3.out]
            exact ⟨rfl, hgw⟩
        · have HH3 := Lib.hid (HH2.out.trans ((if_neg t1).trans (if_neg t2)))
          clear HH2
          go_wp2_with fail
          go_roundw
          case rel => exact ⟨j + 1, _, by omega, by go_num, rfl, by omega, by omega, HH3, hgw⟩
          case measure => simp [intOf]; omega
    · obtain rfl : j = es.length := by omega
      have HH2 := Lib.hid (HH.out.trans (by rw [List.drop_length, movedGo]))
      clear HH
      go_wp2_with fail
      go_ret
      rw [HH2.out]
      exact ⟨rfl, hg⟩

def whenv (is : Bool) (e : Int) : Int := if is then e else 0
theorem when_any (is : Bool) (e : Int) (w : World) : Calls Try.prog 40 #[.bool is, .int .i64 e] w fun x w' => x = .returned (.int .i64 (whenv is e)) ∧ w = w' := by
  cases is
  all_goals
    go_enter Try.func40, Try.ntmps40
    go_wp2_with fail
    go_ret
    exact ⟨rfl, rfl⟩

def errsv : List Int → Int
  | [] => 0
  | e :: r => if e = 0 then errsv r else e

set_option maxHeartbeats 1000000 in
theorem errs_any (p m : Nat) (ls : List Int) (w : World) (hl : ls.length ≤ 1000) (hc : ∀ j, j < ls.length → w.cell? ⟨p, j, none⟩ = some (.int .i64 (ls.getD j 0))) :
    Calls Try.prog 34 #[.slice (some ⟨p, 0, none⟩) ls.length m] w fun x w' => x = .returned (.int .i64 (errsv ls)) ∧ w = w' := by
  have HC := Lib.hid hc
  clear hc
  have HF : Hid (errsv ls = errsv (ls.drop 0)) := Lib.hid rfl
  go_enter Try.func34, Try.ntmps34
  go_wp2_with fail
  go_loop [7] (fun i => ∃ j : Nat, j ≤ ls.length ∧ i = .int .i64 j ∧ Hid (errsv ls = errsv (ls.drop j))) (fun i => ls.length - (intOf i).toNat)
  case atStart => exact ⟨0, Nat.zero_le _, rfl, HF⟩
  case round =>
    obtain ⟨j, hj, rfl, HH⟩ := hrel
    by_cases hlt : j < ls.length
    · have hcons : ls.drop j = ls[j] :: ls.drop (j + 1) := List.drop_eq_getElem_cons hlt
      have HH2 := Lib.hid (HH.out.trans (by rw [hcons, errsv]))
      have hcell := HC.out j hlt
      rw [List.getD_eq_getElem?_getD, List.getElem?_eq_getElem hlt, Option.getD_some] at hcell
      clear hcons HH
      generalize ls[j] = e at hcell HH2
      by_cases h0 : e = 0
      · have HH3 := Lib.hid (HH2.out.trans (if_pos h0))
        clear HH2
        have hb : (e == 0) = true := by simp [h0]
        have hb2 : (e != 0) = false := by simp [h0]
        clear h0
        go_wp2_with fail
        go_round
        case rel => exact ⟨j + 1, by omega, by go_num, HH3⟩
        case measure => simp [intOf]; omega
      · have HH3 := Lib.hid (HH2.out.trans (if_neg h0))
        clear HH2
        have hb : (e == 0) = false := by simp [h0]
        have hb2 : (e != 0) = true := by simp [h0]
        clear h0
        go_wp2_with fail
        go_ret
        rw [HH3.out]
        exact ⟨rfl, rfl⟩
    · obtain rfl : j = ls.length := by omega
      have HH2 := Lib.hid (HH.out.trans (by rw [List.drop_length, errsv]))
      clear HH
      go_wp2_with fail
      go_ret
      rw [HH2.out]
      exact ⟨rfl, rfl⟩

theorem errs_new (ls : List Int) (w : World) (hl : ls.length ≤ 1000) :
    Calls Try.prog 34 #[.slice (some ⟨w.heap.size, 0, none⟩) ls.length ls.length] (w.alloc (.cells (ls.map (Value.int .i64)).toArray 30 /-t:hedgelayer/api.Errno-/)) fun x w' => x = .returned (.int .i64 (errsv ls)) ∧ w.alloc (.cells (ls.map (Value.int .i64)).toArray 30 /-t:hedgelayer/api.Errno-/) = w' := by
  refine errs_any w.heap.size ls.length ls _ hl (fun j hj => ?_)
  unfold World.cell?
  rw [show (w.alloc (.cells (ls.map (Value.int .i64)).toArray 30 /-t:hedgelayer/api.Errno-/)).heap[(⟨w.heap.size, j, none⟩ : Addr).block]? = _ from heap_alloc_new w _]
  simp [hj, List.getD]

def manyv (n : Nat) : Int := if n > 2000 then 2 else 0
theorem manyFault_any (a : Option Addr) (n cap : Nat) (w : World) (hn : n ≤ 1000000000) : Calls Try.prog 64 #[.slice a n cap] w fun x w' => x = .returned (.int .i64 (manyv n)) ∧ w = w' := by
  by_cases h : n > 2000
  · have HH := Lib.hid (show manyv n = 2 by rw [manyv, if_pos h])
    go_enter Try.func64, Try.ntmps64
    go_wp2_with fail
    go_ret
    rw [HH.out]
    exact ⟨rfl, rfl⟩
  · have HH := Lib.hid (show manyv n = 0 by rw [manyv, if_neg h])
    go_enter Try.func64, Try.ntmps64
    go_wp2_with fail
    go_ret
    rw [HH.out]
    exact ⟨rfl, rfl⟩

def bothFaultv (n : Int) (a b : List Ed) : Int := if changeFault n a ≠ 0 then changeFault n a else changeFault n b
set_option maxHeartbeats 1000000 in
theorem bothFault_any (n : Int) (a b : Option Addr) (c1 c2 : Nat) (es fs : List Ed) (w : World) (hl : es.length ≤ 1000000) (hl2 : fs.length ≤ 1000000) (hE : Eds w a es) (hF : Eds w b fs) (hS : EdsSmall es) (hT : EdsSmall fs) :
    Calls Try.prog 72 #[.int .i64 n, .slice a es.length c1, .slice b fs.length c2] w fun e w' => e = .returned (.int .i64 (bothFaultv n es fs)) ∧ w.grownBy w' none := by
  by_cases h : changeFault n es = 0
  · have HH := Lib.hid (show bothFaultv n es fs = changeFault n fs by rw [bothFaultv, if_neg (by simp [h])])
    have hb2 : (changeFault n es != 0) = false := by simp [h]
    clear h
    go_enter Try.func72, Try.ntmps72
    go_wp2_with fail
    refine (changeFault_any n a c1 es w hl hE hS).mono ?_
    rintro e w1 ⟨rfl, hg⟩
    go_wp2_with fail
    refine (changeFault_any n b c2 fs w1 hl2 (hF.grown hg (by simp)) hT).mono ?_
    rintro e w2 ⟨rfl, hg2⟩
    go_wp2_with fail
    go_ret
    rw [HH.out]
    exact ⟨rfl, grow_trans hg hg2⟩
  · have HH := Lib.hid (show bothFaultv n es fs = changeFault n es by rw [bothFaultv, if_pos h])
    have hb2 : (changeFault n es != 0) = true := by simp [h]
    clear h
    go_enter Try.func72, Try.ntmps72
    go_wp2_with fail
    refine (changeFault_any n a c1 es w hl hE hS).mono ?_
    rintro e w1 ⟨rfl, hg⟩
    go_wp2_with fail
    go_ret
    rw [HH.out]
    exact ⟨rfl, hg⟩
end Go.Proofs.Ytajigndlcdiinaa
