/- Stream: Range, Flip, Pick, Some. -/
import Derived.Test.YtajigndlcdiinaaS1
namespace Go.Proofs.Ytajigndlcdiinaa
open Go.RowKit

def rangev (xs : List Int) (k : Nat) (lo hi : Int) : Int := if hi < lo then lo else lo + nextv xs k (hi - lo + 1)
def rangek (k : Nat) (lo hi : Int) : Nat := if hi < lo then k else k + 1
theorem rangek_le (k : Nat) (lo hi : Int) : k ≤ rangek k lo hi ∧ rangek k lo hi ≤ k + 1 := by unfold rangek; split <;> omega
theorem rangev_bd (xs : List Int) (k : Nat) (lo hi : Int) : lo ≤ rangev xs k lo hi ∧ (lo ≤ hi → rangev xs k lo hi ≤ hi) := by
  unfold rangev; split
  · omega
  · have := nextv_lo xs k (hi - lo + 1); have := nextv_hi xs k (hi - lo + 1) (by omega); omega

theorem ret_bool {a b : Bool} (h : a = b) : Ending.returned (.bool a) = .returned (.bool b) := by rw [h]
theorem ret_str {a b : ByteArray} (h : a = b) : Ending.returned (.string a) = .returned (.string b) := by rw [h]

set_option maxHeartbeats 400000 in
theorem range_any {b : Nat} {av : Option Addr} {cap k : Nat} {xs : List Int} {w : World} (lo hi : Int) (hlo : -1000000000000 ≤ lo ∧ lo ≤ 1000000000000) (hhi : -1000000000000 ≤ hi ∧ hi ≤ 1000000000000)
    (hk : k ≤ 1073741824) (hx2 : xs.length ≤ 9223372036854775807) (S : Strm b av cap xs w k) :
    Calls Try.prog 25 #[.pointer (some ⟨b, 0, none⟩), .int .i64 lo, .int .i64 hi] w fun e w' => e = .returned (.int .i64 (rangev xs k lo hi)) ∧ Sto b av cap xs w w' (rangek k lo hi) := by
  by_cases h : hi < lo
  · go_enter Try.func25, Try.ntmps25
    go_wp2_with fail
    go_ret
    exact ⟨ret_i64 (by rw [rangev, if_pos h]), by rw [rangek, if_pos h]; exact Sto.refl S⟩
  · go_enter Try.func25, Try.ntmps25
    go_wp2_with fail
    refine (next_any _ (by omega) hk hx2 S).mono ?_
    rintro e w' ⟨rfl, T⟩
    have l1 := nextv_lo xs k (hi - lo + 1)
    have l2 := nextv_hi xs k (hi - lo + 1) (by omega)
    go_wp2_with fail
    go_ret
    exact ⟨ret_i64 (by rw [rangev, if_neg (by omega)]), by rw [rangek, if_neg (by omega)]; exact T⟩

def flipv (xs : List Int) (k : Nat) (n : Int) : Bool := nextv xs k n == 0

set_option maxHeartbeats 400000 in
theorem flip_any {b : Nat} {av : Option Addr} {cap k : Nat} {xs : List Int} {w : World} (n : Int) (hn : n ≤ 9223372036854775807)
    (hk : k ≤ 1073741824) (hx2 : xs.length ≤ 9223372036854775807) (S : Strm b av cap xs w k) :
    Calls Try.prog 26 #[.pointer (some ⟨b, 0, none⟩), .int .i64 n] w fun e w' => e = .returned (.bool (flipv xs k n)) ∧ Sto b av cap xs w w' (k + 1) := by
  go_enter Try.func26, Try.ntmps26
  go_wp2_with fail
  refine (next_any _ hn hk hx2 S).mono ?_
  rintro e w' ⟨rfl, T⟩
  go_wp2_with fail
  go_ret
  exact ⟨ret_bool rfl, T⟩

def pickv (xs : List Int) (k : Nat) (ls : List Int) : Int := ls.getD (nextv xs k ls.length).toNat 0

set_option maxHeartbeats 400000 in
theorem pick_any {b : Nat} {av : Option Addr} {cap k : Nat} {xs : List Int} {w : World} (p m : Nat) (ls : List Int) (hl : 1 ≤ ls.length) (hl2 : ls.length ≤ 1000000)
    (hp : p ≠ b) (hc : ∀ j, j < ls.length → w.cell? ⟨p, j, none⟩ = some (.int .i64 (ls.getD j 0)))
    (hk : k ≤ 1073741824) (hx2 : xs.length ≤ 9223372036854775807) (S : Strm b av cap xs w k) :
    Calls Try.prog 8 #[.pointer (some ⟨b, 0, none⟩), .slice (some ⟨p, 0, none⟩) ls.length m] w fun e w' => e = .returned (.int .i64 (pickv xs k ls)) ∧ Sto b av cap xs w w' (k + 1) := by
  have l1 := nextv_lo xs k ls.length
  have l2 := nextv_hi xs k ls.length (by omega)
  have H := Lib.hid hc
  clear hc
  go_enter Try.func8, Try.ntmps8
  go_wp2_with fail
  refine (next_any _ (by omega) hk hx2 S).mono ?_
  rintro e w' ⟨rfl, T⟩
  have hc' : w'.cell? ⟨p, (nextv xs k ls.length).toNat, none⟩ = some (.int .i64 (pickv xs k ls)) :=
    T.grow.cell (H.out _ (by omega)) (by simpa using hp)
  go_wp2_with fail
  go_ret
  exact ⟨rfl, T⟩

def somev (xs : List Int) (k : Nat) (ls : List ByteArray) : ByteArray := ls.getD (nextv xs k ls.length).toNat ByteArray.empty

set_option maxHeartbeats 400000 in
theorem some_any {b : Nat} {av : Option Addr} {cap k : Nat} {xs : List Int} {w : World} (p m : Nat) (ls : List ByteArray) (hl : 1 ≤ ls.length) (hl2 : ls.length ≤ 1000000)
    (hp : p ≠ b) (hc : ∀ j, j < ls.length → w.cell? ⟨p, j, none⟩ = some (.string (ls.getD j ByteArray.empty)))
    (hk : k ≤ 1073741824) (hx2 : xs.length ≤ 9223372036854775807) (S : Strm b av cap xs w k) :
    Calls Try.prog 43 #[.pointer (some ⟨b, 0, none⟩), .slice (some ⟨p, 0, none⟩) ls.length m] w fun e w' => e = .returned (.string (somev xs k ls)) ∧ Sto b av cap xs w w' (k + 1) := by
  have l1 := nextv_lo xs k ls.length
  have l2 := nextv_hi xs k ls.length (by omega)
  have H := Lib.hid hc
  clear hc
  go_enter Try.func43, Try.ntmps43
  go_wp2_with fail
  refine (next_any _ (by omega) hk hx2 S).mono ?_
  rintro e w' ⟨rfl, T⟩
  have hc' : w'.cell? ⟨p, (nextv xs k ls.length).toNat, none⟩ = some (.string (somev xs k ls)) :=
    T.grow.cell (H.out _ (by omega)) (by simpa using hp)
  go_wp2_with fail
  go_ret
  exact ⟨rfl, T⟩

theorem somev_all (P : ByteArray → Prop) (xs : List Int) (k : Nat) (ls : List ByteArray) (hl : 1 ≤ ls.length) (h : ∀ x, x ∈ ls → P x) : P (somev xs k ls) := by
  have l1 := nextv_lo xs k ls.length
  have l2 := nextv_hi xs k ls.length (by omega)
  unfold somev
  have hj : (nextv xs k ls.length).toNat < ls.length := by omega
  rw [List.getD_eq_getElem?_getD, List.getElem?_eq_getElem hj]
  exact h _ (List.getElem_mem hj)
theorem pickv_all (P : Int → Prop) (xs : List Int) (k : Nat) (ls : List Int) (hl : 1 ≤ ls.length) (h : ∀ x, x ∈ ls → P x) : P (pickv xs k ls) := by
  have l1 := nextv_lo xs k ls.length
  have l2 := nextv_hi xs k ls.length (by omega)
  unfold pickv
  have hj : (nextv xs k ls.length).toNat < ls.length := by omega
  rw [List.getD_eq_getElem?_getD, List.getElem?_eq_getElem hj]
  exact h _ (List.getElem_mem hj)

theorem new_cell (w : World) (vs : List Value) (t : TypeId) (j : Nat) (h : j < vs.length) : (w.alloc (.cells vs.toArray t)).cell? ⟨w.heap.size, j, none⟩ = some (vs[j]) := by
  unfold World.cell?
  rw [show (w.alloc (.cells vs.toArray t)).heap[(⟨w.heap.size, j, none⟩ : Addr).block]? = _ from heap_alloc_new w _]
  simp [h]

/-- Some over strings that have just been written out. -/
theorem some_new {b : Nat} {av : Option Addr} {cap k : Nat} {xs : List Int} {w : World} (ls : List ByteArray) (hl : 1 ≤ ls.length) (hl2 : ls.length ≤ 1000000)
    (hk : k ≤ 1073741824) (hx2 : xs.length ≤ 9223372036854775807) (S : Strm b av cap xs w k) :
    Calls Try.prog 43 #[.pointer (some ⟨b, 0, none⟩), .slice (some ⟨w.heap.size, 0, none⟩) ls.length ls.length] (w.alloc (.cells (ls.map Value.string).toArray 9 /-t:string-/)) fun e w' =>
      e = .returned (.string (somev xs k ls)) ∧ Sto b av cap xs w w' (k + 1) := by
  refine (some_any w.heap.size ls.length ls hl hl2 (by have := S.lt; omega) (fun j hj => ?_) hk hx2 (S.alloc _)).mono ?_
  · rw [new_cell _ _ _ _ (by simpa using hj)]; simp [hj, List.getD]
  · rintro e w' ⟨rfl, T⟩
    exact ⟨rfl, ((Sto.refl S).alloc _).trans T⟩

/-- Pick over numbers that have just been written out. -/
theorem pick_new {b : Nat} {av : Option Addr} {cap k : Nat} {xs : List Int} {w : World} (ls : List Int) (hl : 1 ≤ ls.length) (hl2 : ls.length ≤ 1000000)
    (hk : k ≤ 1073741824) (hx2 : xs.length ≤ 9223372036854775807) (S : Strm b av cap xs w k) :
    Calls Try.prog 8 #[.pointer (some ⟨b, 0, none⟩), .slice (some ⟨w.heap.size, 0, none⟩) ls.length ls.length] (w.alloc (.cells (ls.map (Value.int .i64)).toArray 3 /-t:int-/)) fun e w' =>
      e = .returned (.int .i64 (pickv xs k ls)) ∧ Sto b av cap xs w w' (k + 1) := by
  refine (pick_any w.heap.size ls.length ls hl hl2 (by have := S.lt; omega) (fun j hj => ?_) hk hx2 (S.alloc _)).mono ?_
  · rw [new_cell _ _ _ _ (by simpa using hj)]; simp [hj, List.getD]
  · rintro e w' ⟨rfl, T⟩
    exact ⟨rfl, ((Sto.refl S).alloc _).trans T⟩

/-- The same behind a draw. -/
theorem pick_new_drew {b : Nat} {av : Option Addr} {cap k : Nat} {xs : List Int} {w : World} (ls : List Int) (hl : 1 ≤ ls.length) (hl2 : ls.length ≤ 1000000)
    (hk : k ≤ 1073741824) (hx2 : xs.length ≤ 9223372036854775807) (S : Strm b av cap xs w k) :
    Calls Try.prog 8 #[.pointer (some ⟨b, 0, none⟩), .slice (some ⟨w.heap.size, 0, none⟩) ls.length ls.length] (w.alloc (.cells (ls.map (Value.int .i64)).toArray 3 /-t:int-/)).drew fun e w' =>
      e = .returned (.int .i64 (pickv xs k ls)) ∧ Sto b av cap xs w w' (k + 1) := by
  refine (pick_any w.heap.size ls.length ls hl hl2 (by have := S.lt; omega) (fun j hj => ?_) hk hx2 (S.alloc _).drew).mono ?_
  · show (w.alloc _).cell? _ = _
    rw [new_cell _ _ _ _ (by simpa using hj)]; simp [hj, List.getD]
  · rintro e w' ⟨rfl, T⟩
    exact ⟨rfl, (((Sto.refl S).alloc _).drew).trans T⟩
end Go.Proofs.Ytajigndlcdiinaa
