/- Package edit: checkTwo, steps. -/
import Derived.Test.YtajigndlcdiinaaDR9
import Derived.Test.YtajigndlcdiinaaDQ1
namespace Go.Proofs.Ytajigndlcdiinaa
open Go.RowKit

set_option maxHeartbeats 1000000 in
theorem checkTwo_any (n : Int) (a b : Option Addr) (c1 c2 : Nat) (es fs : List Ed) (w : World) (hl : es.length ≤ 1000000) (hl2 : fs.length ≤ 1000000) (hE : Eds w a es) (hF : Eds w b fs) (hS : EdsSmall es) (hT : EdsSmall fs) :
    Calls Try.prog 65 #[.int .i64 n, .slice a es.length c1, .slice b fs.length c2] w fun e w' => e = .returned (.int .i64 (bothFaultv n es fs)) ∧ w.grownBy w' none := by
  by_cases h : changeFault n es = 0
  · have HH := Lib.hid (show bothFaultv n es fs = changeFault n fs by rw [bothFaultv, if_neg (by simp [h])])
    have hb2 : (changeFault n es != 0) = false := by simp [h]
    clear h
    go_enter Try.func65, Try.ntmps65
    go_wp2_with fail
    refine (check_any n a c1 es w hl hE hS).mono ?_
    rintro e w1 ⟨rfl, hg⟩
    go_wp2_with fail
    refine (check_any n b c2 fs w1 hl2 (hF.grown hg (by simp)) hT).mono ?_
    rintro e w2 ⟨rfl, hg2⟩
    go_wp2_with fail
    go_ret
    rw [HH.out]
    exact ⟨rfl, grow_trans hg hg2⟩
  · have HH := Lib.hid (show bothFaultv n es fs = changeFault n es by rw [bothFaultv, if_pos h])
    have hb2 : (changeFault n es != 0) = true := by simp [h]
    clear h
    go_enter Try.func65, Try.ntmps65
    go_wp2_with fail
    refine (check_any n a c1 es w hl hE hS).mono ?_
    rintro e w1 ⟨rfl, hg⟩
    go_wp2_with fail
    go_ret
    rw [HH.out]
    exact ⟨rfl, hg⟩

/-- What steps hands over: the closure, with boxes for the length and the two lists. -/
def StepsPost (n : Int) (va vb : Value) (w : World) (e : Ending) (w' : World) : Prop :=
  ∃ Ba Bb Bn, e = .returned (.func (.func 85) #[] #[.pointer (some ⟨Ba, 0, none⟩), .pointer (some ⟨Bb, 0, none⟩), .pointer (some ⟨Bn, 0, none⟩)]) ∧ w'.heap[Ba]? = some (.cells #[va] 73 (0, 0)) ∧ w'.heap[Bb]? = some (.cells #[vb] 73 (0, 0)) ∧ w'.heap[Bn]? = some (.cells #[.int .i64 n] 3 (0, 0)) ∧ w.grownBy w' none

set_option maxHeartbeats 1000000 in
theorem steps_any (n : Int) (a b : Option Addr) (n1 c1 n2 c2 : Nat) (w : World) :
    Calls Try.prog 66 #[.int .i64 n, .slice a n1 c1, .slice b n2 c2] w (StepsPost n (.slice a n1 c1) (.slice b n2 c2) w) := by
  have g1 := World.grownBy_alloc w (.cells #[.int .i64 n] 3) none
  have g2 := World.grownBy_alloc (w.alloc (.cells #[.int .i64 n] 3)) (.cells #[.slice a n1 c1] 73) none
  have g3 := World.grownBy_alloc ((w.alloc (.cells #[.int .i64 n] 3)).alloc (.cells #[.slice a n1 c1] 73)) (.cells #[.slice b n2 c2] 73) none
  have HG := Lib.hid (grownBy_trans (grownBy_trans g1 g2) g3)
  have HN := Lib.hid (grow_new (grownBy_trans g2 g3) (heap_alloc_new w (.cells #[.int .i64 n] 3)))
  have HA := Lib.hid (grow_new g3 (heap_alloc_new (w.alloc (.cells #[.int .i64 n] 3)) (.cells #[.slice a n1 c1] 73)))
  have HB := Lib.hid (heap_alloc_new ((w.alloc (.cells #[.int .i64 n] 3)).alloc (.cells #[.slice a n1 c1] 73)) (.cells #[.slice b n2 c2] 73))
  clear g1 g2 g3
  obtain ⟨P, hP⟩ : ∃ P, StepsPost n (.slice a n1 c1) (.slice b n2 c2) w = P := ⟨_, rfl⟩
  rw [hP]
  have HP := Lib.hid hP
  clear hP
  go_enter Try.func66, Try.ntmps66
  go_wp2_with fail
  try go_ret
  rw [← HP.out]
  exact ⟨_, _, _, rfl, by simpa using HA.out, by simpa using HB.out, HN.out, HG.out⟩
end Go.Proofs.Ytajigndlcdiinaa
