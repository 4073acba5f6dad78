/- Package edit: Length; slices.Equal of numbers. -/
import Derived.Test.YtajigndlcdiinaaAA
import Derived.Test.YtajigndlcdiinaaH4
import Derived.BigQuiet
import Derived.Deep.QuietTactic
namespace Go.Proofs.Ytajigndlcdiinaa
open Go.RowKit

def LenPost (v er : Int) (w : World) (e : Ending) (w' : World) : Prop := e = .returned (.tuple #[.int .i64 v, .int .i64 er]) ∧ w.grownBy w' none

theorem lengthP_any (n : Int) (a : Option Addr) (cap : Nat) (es : List Ed) (w : World) (hl : es.length ≤ 1000000) (hE : Eds w a es) (hS : EdsSmall es) :
    Calls Try.prog 11 #[.int .i64 n, .slice a es.length cap] w (LenPost (if changeFault n es ≠ 0 then 0 else lenGo n es) (changeFault n es) w) := by
  obtain ⟨P, hP⟩ : ∃ P, LenPost (if changeFault n es ≠ 0 then 0 else lenGo n es) (changeFault n es) w = P := ⟨_, rfl⟩
  rw [hP]
  unfold LenPost at hP
  have HC := Lib.hid (check_any n a cap es w hl hE hS)
  by_cases h : changeFault n es = 0
  · obtain ⟨r1, r2, r3, r4, r5, r6⟩ := right_all h
    have HLn := Lib.hid (fun W (g : w.grownBy W none) => length_any n a cap es W (by omega) r2 (hE.grown g (by simp)) (fun e he => by have := r4 e he; omega))
    rw [h] at HC hP
    rw [if_neg (by simp)] at hP
    have HP := Lib.hid hP
    clear h hP hE r3 r4 r5 r6 hS
    go_enter Try.func11, Try.ntmps11
    go_wp2_with fail
    refine HC.out.mono ?_
    rintro e w0 ⟨rfl, g0⟩
    go_wp2_with fail
    refine (HLn.out w0 g0).mono ?_
    rintro e w1 ⟨rfl, g1⟩
    have G := Lib.hid (grow_trans g0 g1)
    clear HC HLn g0 g1
    generalize lenGo n es = L at HP
    go_wp2_with fail
    try go_ret2
    rw [← HP.out]
    exact ⟨rfl, G.out⟩
  · rw [if_pos h] at hP
    have hb : (changeFault n es != 0) = true := by simpa using h
    generalize changeFault n es = F at HC hP hb
    have HP := Lib.hid hP
    clear hP hE h hS
    go_enter Try.func11, Try.ntmps11
    go_wp2_with fail
    refine HC.out.mono ?_
    rintro e w1 ⟨rfl, g1⟩
    have G := Lib.hid g1
    clear g1 HC
    go_wp2_with fail
    try go_ret2
    rw [← HP.out]
    exact ⟨rfl, G.out⟩

/-- A slice that holds these numbers. -/
def IntsAt (w : World) (a : Option Addr) (l : List Int) : Prop := ∀ j, (h : j < l.length) → ∃ g off, a = some ⟨g, off, none⟩ ∧ w.cell? ⟨g, off + j, none⟩ = some (.int .i64 l[j])

set_option maxHeartbeats 4000000 in
set_option maxRecDepth 100000 in
theorem equalInt_same (a b : Option Addr) (c1 c2 : Nat) (l : List Int) (w : World) (hl : l.length ≤ 1000000) (hE : IntsAt w a l) (hF : IntsAt w b l) :
    Calls Try.prog 22 #[.slice a l.length c1, .slice b l.length c2] w fun e w' => e = .returned (.bool true) ∧ ∃ k, w' = w.drewN k := by
  have hb : ((l.length : Int) != (l.length : Int)) = false := by simp
  have HE := Lib.hid hE
  have HF := Lib.hid hF
  clear hE hF
  go_enter Try.func22, Try.ntmps22
  go_wp2_with fail
  go_loopw [13] (fun i wr => ∃ j k : Nat, j ≤ l.length ∧ i = .int .i64 j ∧ wr = w.drewN k) (fun i _ => l.length - (intOf i).toNat)
  case atStart => exact ⟨0, 0, Nat.zero_le _, rfl, rfl⟩
  case round =>
    obtain ⟨j, k, hj, rfl, rfl⟩ := hrel
    by_cases hlt : j < l.length
    · obtain ⟨g, off, rfl, c1⟩ := HE.out j hlt
      obtain ⟨g2, off2, rfl, d1⟩ := HF.out j hlt
      generalize l[j] = x at c1 d1
      have i1 : (0 : Int) ≤ (j : Int) := by omega
      have i2 : (j : Int) < (l.length : Int) := by omega
      go_wp2_with fail
      go_quiet (fail)
      go_wp2_with fail
      go_roundw
      case rel => exact ⟨j + 1, _, by omega, by go_num, rfl⟩
      case measure => simp [intOf]; omega
    · obtain rfl : j = l.length := by omega
      go_wp2_with fail
      go_ret
      exact ⟨rfl, k, rfl⟩

theorem ints_of_own {w : World} {base : Nat} {v : Value} {l : List Int} (h : w.ownsRow base 3 1 v l.length (intCells l)) : ∃ a cap, v = .slice a l.length cap ∧ IntsAt w a l := by
  by_cases h0 : l.length = 0
  · rcases h.2 with ⟨rfl, _⟩ | ⟨g, cap, cur, rfl, hg, _⟩
    · exact ⟨none, 0, by rw [h0], fun j hj => by omega⟩
    · exact ⟨_, _, rfl, fun j hj => by omega⟩
  · obtain ⟨g, cap, rfl, hg, hc⟩ := ownsRow_cell h (by omega)
    refine ⟨_, _, rfl, fun j hj => ⟨g, 0, rfl, ?_⟩⟩
    rw [Nat.zero_add]
    exact hc j _ (by simp [intCells, hj])
theorem equalInt_own {w : World} {b1 b2 : Nat} {v v2 : Value} {l : List Int} (hl : l.length ≤ 1000000) (h1 : w.ownsRow b1 3 1 v l.length (intCells l)) (h2 : w.ownsRow b2 3 1 v2 l.length (intCells l)) :
    Calls Try.prog 22 #[v, v2] w fun e w' => e = .returned (.bool true) ∧ w.grownBy w' none := by
  obtain ⟨a, c, rfl, hE⟩ := ints_of_own h1
  obtain ⟨a2, c2, rfl, hE2⟩ := ints_of_own h2
  refine (equalInt_same a a2 c c2 l w hl hE hE2).mono ?_
  rintro e w' ⟨rfl, k, rfl⟩
  exact ⟨rfl, grow_drewN w k⟩
theorem own_grow {w w' : World} {base : Nat} {e : TypeId} {size : Nat} {v : Value} {n : Nat} {xs : List Value} (h : w.ownsRow base e size v n xs) (g : w.grownBy w' none) : w'.ownsRow base e size v n xs :=
  ownsRow_frm (Frm.of_grown g (fun _ _ => True)) h (fun _ _ _ _ => trivial)
end Go.Proofs.Ytajigndlcdiinaa
