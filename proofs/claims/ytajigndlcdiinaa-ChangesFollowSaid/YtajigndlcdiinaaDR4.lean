/- Package edit: walker.next. -/
import Derived.Test.YtajigndlcdiinaaDR3
import Derived.BigRegion
namespace Go.Proofs.Ytajigndlcdiinaa
open Go.RowKit

def nxtV (ps : List Pce) (last : Pce) (j : Nat) (at_ n : Int) : Int := if at_ < last.at_ + last.long then last.at_ + last.long else if h : j < ps.length then ps[j].at_ else n

def NxtPost (v : Int) (w : World) (e : Ending) (w' : World) : Prop := e = .returned (.int .i64 v) ∧ w.drew = w'

set_option maxHeartbeats 4000000 in
set_option maxRecDepth 100000 in
theorem wnext_any (B G : Nat) (ps : List Pce) (last : Pce) (j : Nat) (at_ n : Int) (w : World) (_ : ps.length ≤ 100000) (hj : j ≤ ps.length) (hl : last.Ok) (hW : WkAt w B G ps.length last j) (hP : PcsAt w G ps) :
    Calls Try.prog 87 #[.pointer (some ⟨B, 0, none⟩), .int .i64 at_, .int .i64 n] w (NxtPost (nxtV ps last j at_ n) w) := by
  obtain ⟨P, hPP⟩ : ∃ P, NxtPost (nxtV ps last j at_ n) w = P := ⟨_, rfl⟩
  rw [hPP]
  obtain ⟨v, hv⟩ : ∃ v, nxtV ps last j at_ n = v := ⟨_, rfl⟩
  rw [hv] at hPP
  have HPP := Lib.hid hPP
  unfold nxtV at hv
  clear hPP
  obtain ⟨off, hb, ho⟩ := hW
  obtain ⟨la, ll, ea, eo, en⟩ := last
  obtain ⟨n1, n2, n3, n4⟩ := hl
  simp only at n1 n2 n3 n4 hb hv
  have b0 := cell_of_block hb 0
  have b1 := cell_of_block hb 1
  have b5 := cell_of_block hb 5
  simp only [List.getElem?_toArray, List.getElem?_cons_zero, List.getElem?_cons_succ] at b0 b1 b5
  have hw : IntKind.i64.wrap (la + ll) = la + ll := IntWalk.i64_in _ (by omega)
  by_cases hin : at_ < la + ll
  · rw [if_pos hin] at hv
    have ht : decide (at_ < la + ll) = true := by simpa using hin
    have HV := Lib.hid hv
    clear hv hin ho hb b5 hP
    go_enter Try.func87, Try.ntmps87
    go_wp2_with fail
    go_region
    go_wp2_with fail
    try go_ret
    rw [← HPP.out, ← HV.out]
    exact ⟨rfl, rfl⟩
  · rw [if_neg hin] at hv
    have ht : decide (at_ < la + ll) = false := by simpa using hin
    by_cases hjl : j < ps.length
    · rw [dif_pos hjl] at hv
      obtain rfl := ho hjl
      have p0 := (hP j hjl).1
      rw [hv] at p0
      obtain ⟨m, hm⟩ : ∃ m, ps.length - j = m + 1 := ⟨ps.length - j - 1, by omega⟩
      rw [hm] at b5
      clear hv hin ho hb hm hP hjl
      go_enter Try.func87, Try.ntmps87
      go_wp2_with fail
      go_region
      go_wp2_with fail
      try go_ret
      rw [← HPP.out]
      exact ⟨rfl, rfl⟩
    · rw [dif_neg hjl] at hv
      have hm : ps.length - j = 0 := by omega
      rw [hm] at b5
      have HV := Lib.hid hv
      clear hv hin ho hb hm hP hjl
      go_enter Try.func87, Try.ntmps87
      go_wp2_with fail
      go_region
      go_wp2_with fail
      try go_ret
      rw [← HPP.out, ← HV.out]
      exact ⟨rfl, rfl⟩
end Go.Proofs.Ytajigndlcdiinaa
