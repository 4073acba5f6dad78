/- Stream: Letters. -/
import Derived.Test.YtajigndlcdiinaaS2
namespace Go.Proofs.Ytajigndlcdiinaa
open Go.RowKit

def letterList : List ByteArray := [⟨#[97]⟩, ⟨#[98]⟩, ⟨#[99]⟩, ⟨#[97]⟩, ⟨#[10]⟩]
def lettersTo (xs : List Int) (k : Nat) : Nat → ByteArray
  | 0 => ⟨#[]⟩
  | j + 1 => lettersTo xs k j ++ somev xs (k + j) letterList
theorem letter_size (xs : List Int) (k : Nat) : (somev xs k letterList).size = 1 :=
  somev_all (fun x => x.size = 1) xs k letterList (by decide) (by decide)
theorem lettersTo_size (xs : List Int) (k j : Nat) : (lettersTo xs k j).size = j := by
  induction j with
  | zero => rfl
  | succ j ih => rw [lettersTo, ByteArray.size_append, ih, letter_size]

set_option maxHeartbeats 1000000 in
theorem letters_any {b : Nat} {av : Option Addr} {cap k : Nat} {xs : List Int} {w : World} (most : Int) (hm : 0 ≤ most ∧ most ≤ 1000000)
    (hk : k ≤ 1000000000) (hx2 : xs.length ≤ 9223372036854775807) (S : Strm b av cap xs w k) :
    Calls Try.prog 7 #[.pointer (some ⟨b, 0, none⟩), .int .i64 most] w fun e w' =>
      e = .returned (.string (lettersTo xs (k + 1) (rangev xs k 0 most).toNat)) ∧ Sto b av cap xs w w' (k + 1 + (rangev xs k 0 most).toNat) := by
  have r1 := rangev_bd xs k 0 most
  have r2 : rangek k 0 most = k + 1 := by unfold rangek; rw [if_neg (by omega)]
  go_enter Try.func7, Try.ntmps7
  go_wp2_with fail
  refine (range_any 0 most (by omega) (by omega) (by omega) hx2 S).mono ?_
  rintro e w1 ⟨rfl, T⟩
  rw [r2] at T
  clear r2
  obtain ⟨n, hn⟩ := Int.eq_ofNat_of_zero_le r1.1
  rw [hn]
  have hn2 : n ≤ 1000000 := by omega
  have HN := Lib.hid hn
  clear r1 hn
  go_wp2_with fail
  go_loopw [5, 9] (fun out i wr => ∃ j : Nat, j ≤ n ∧ i = .int .i64 j ∧ out = .string (lettersTo xs (k + 1) j) ∧ Sto b av cap xs w wr (k + 1 + j)) (fun _ i _ => n - (intOf i).toNat)
  case atStart => exact ⟨0, Nat.zero_le _, rfl, rfl, T⟩
  case round =>
    obtain ⟨j, hj, rfl, rfl, T⟩ := hrel
    by_cases hlt : j < n
    · go_wp2_with fail
      refine (some_new letterList (by decide) (by decide) (by omega) hx2 T.strm).mono ?_
      rintro e w2 ⟨rfl, T2⟩
      have T3 := T.trans T2
      clear T T2
      have z1 : (lettersTo xs (k + 1) j).size ≤ 1000000 := by rw [lettersTo_size]; omega
      have z2 : (somev xs (k + 1 + j) letterList).size ≤ 1 := by rw [letter_size]; omega
      go_wp2_with fail
      go_roundw
      case rel => exact ⟨j + 1, by omega, by go_num, rfl, T3⟩
      case measure => simp [intOf]; omega
    · obtain rfl : j = n := by omega
      go_wp2_with fail
      go_ret
      rw [HN.out]
      exact ⟨rfl, T⟩
end Go.Proofs.Ytajigndlcdiinaa
