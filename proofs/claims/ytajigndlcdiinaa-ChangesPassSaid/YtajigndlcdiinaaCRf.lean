/- Package edit: Clash, walked. -/
import Derived.Test.YtajigndlcdiinaaCRa
import Derived.Test.YtajigndlcdiinaaCP1
import Derived.Deep.RegionHeld3
import Derived.Test.YtajigndlcdiinaaCQ1
namespace Go.Proofs.Ytajigndlcdiinaa
open Go.RowKit

def clashGo : List Ed → List Ed → Bool
  | e :: es, f :: fs => if e.at_ + e.old < f.at_ then clashGo es (f :: fs) else if f.at_ + f.old < e.at_ then clashGo (e :: es) fs else true
  | _, _ => false
termination_by es fs => es.length + fs.length
def slLen : Value → Nat
  | .slice _ n _ => n
  | _ => 0

theorem Eds.tail {w : World} {g off : Nat} {e : Ed} {r : List Ed} (h : Eds w (some ⟨g, off, none⟩) (e :: r)) : Eds w (some ⟨g, off + 3, none⟩) r := by
  intro j hj
  obtain ⟨g', off', he, c1, c2, c3⟩ := h (j + 1) (by simp; omega)
  cases he
  simp only [List.getElem_cons_succ] at c1 c2 c3
  have e1 : off + 3 + j * 3 = off + (j + 1) * 3 := by omega
  exact ⟨g, off + 3, rfl, by rw [e1]; exact c1, by rw [e1]; exact c2, by rw [e1]; exact c3⟩

theorem Eds.tailIf {w : World} {g off k : Nat} {e : Ed} {r : List Ed} (h : Eds w (some ⟨g, off, none⟩) (e :: r)) (hk : r.length + 1 ≤ k) : Eds w (if k = 1 then some ⟨g, off, none⟩ else some ⟨g, off + 3, none⟩) r := by
  split
  · obtain rfl : r = [] := by cases r with | nil => rfl | cons a b => simp at hk; omega
    intro j hj; simp at hj
  · exact h.tail

set_option maxHeartbeats 4000000 in
set_option maxRecDepth 100000 in
theorem clash_any (n : Int) (a b : Option Addr) (c1 c2 : Nat) (es fs : List Ed) (w : World) (hl : es.length ≤ 1000000) (hl2 : fs.length ≤ 1000000) (hE : Eds w a es) (hF : Eds w b fs) (hS : EdsSmall es) (hT : EdsSmall fs) (hc1 : es.length ≤ c1) (hc2 : fs.length ≤ c2) :
    Calls Try.prog 33 #[.int .i64 n, .slice a es.length c1, .slice b fs.length c2] w fun e w' => e = .returned (.tuple #[.bool (if bothFaultv n es fs = 0 then clashGo es fs else false), .int .i64 (bothFaultv n es fs)]) ∧ w.grownBy w' none := by
  have HCK := Lib.hid (checkTwo_any n a b c1 c2 es fs w hl hl2 hE hF hS hT)
  by_cases h0 : bothFaultv n es fs = 0
  case neg =>
    have ht : (bothFaultv n es fs == 0) = false := by simpa using h0
    rw [if_neg h0]
    go_enter Try.func33, Try.ntmps33
    go_wp2_with fail
    refine HCK.out.mono ?_
    rintro e w1 ⟨rfl, g1⟩
    go_wp2_with fail
    go_ret2
    exact ⟨rfl, g1⟩
  have hOA : EdsOk es := by
    have hr1 : changeFault n es = 0 := by
      by_cases h1 : changeFault n es = 0
      · exact h1
      · rw [bothFaultv, if_pos h1] at h0; exact h0
    intro e he
    have := (right_all hr1).2.2.2.1 e he
    refine ⟨?_, ?_, ?_, ?_, ?_⟩ <;> omega
  have hOB : EdsOk fs := by
    have hr1 : changeFault n fs = 0 := by
      rw [bothFaultv] at h0
      split at h0
      · contradiction
      · exact h0
    intro e he
    have := (right_all hr1).2.2.2.1 e he
    refine ⟨?_, ?_, ?_, ?_, ?_⟩ <;> omega
  rw [if_pos h0]
  rw [h0] at HCK ⊢
  go_enter Try.func33, Try.ntmps33
  go_wp2_with fail
  refine HCK.out.mono ?_
  rintro e w1 ⟨rfl, g1⟩
  go_wp2_with fail
  go_loopw [1, 2] (fun av bv wr => ∃ (es' fs' : List Ed) (a' b' : Option Addr) (c1' c2' : Nat), av = .slice a' es'.length c1' ∧ bv = .slice b' fs'.length c2' ∧ Eds wr a' es' ∧ Eds wr b' fs' ∧ es'.length ≤ c1' ∧ fs'.length ≤ c2' ∧ es'.length ≤ 1000000 ∧ fs'.length ≤ 1000000 ∧ (EdsOk es' ∧ EdsOk fs') ∧ Hid (clashGo es fs = clashGo es' fs') ∧ w.grownBy wr none) (fun av bv _ => slLen av + slLen bv)
  case atStart => exact ⟨es, fs, a, b, c1, c2, rfl, rfl, hE.grown g1 (by simp), hF.grown g1 (by simp), hc1, hc2, hl, hl2, ⟨hOA, hOB⟩, Lib.hid rfl, g1⟩
  case round =>
    obtain ⟨es', fs', a', b', k1, k2, rfl, rfl, qE, qF, m1, m2, l1, l2, ⟨oE, oF⟩, HH, hg⟩ := hrel
    clear hE hF hOA hOB hS hT hl hl2 hc1 hc2 HCK g1
    rcases es' with _ | ⟨x, xs⟩
    · have HH2 := Lib.hid (HH.out.trans (by rw [clashGo]; simp))
      go_wp2_with fail
      go_ret2
      rw [HH2.out]
      exact ⟨rfl, hg⟩
    rcases fs' with _ | ⟨y, ys⟩
    · have HH2 := Lib.hid (HH.out.trans (by rw [clashGo]; simp))
      simp only [List.length_cons] at *
      go_wp2_with fail
      go_ret2
      rw [HH2.out]
      exact ⟨rfl, hg⟩
    obtain ⟨g, off, rfl, p1, p2, p3⟩ := qE 0 (by simp)
    obtain ⟨g', off', rfl, r1, r2, r3⟩ := qF 0 (by simp)
    have hx := oE x List.mem_cons_self
    have hy := oF y List.mem_cons_self
    have qE2 := qE.tail
    have qF2 := qF.tail
    have oE2 : EdsOk xs := fun e he => oE e (List.mem_cons_of_mem _ he)
    have oF2 : EdsOk ys := fun e he => oF e (List.mem_cons_of_mem _ he)
    have HE0 := Lib.hid (And.intro qE qF)
    have HO0 := Lib.hid (And.intro oE oF)
    clear qE qF oE oF
    simp only [List.getElem_cons_zero, List.length_cons, Nat.zero_mul, Nat.add_zero] at p1 p2 p3 r1 r2 r3 m1 m2 l1 l2 ⊢
    obtain ⟨xa, xo, xn⟩ := x
    obtain ⟨ya, yo, yn⟩ := y
    simp only at p1 p2 p3 r1 r2 r3 hx hy
    have HH2 := Lib.hid (show clashGo es fs = if xa + xo < ya then clashGo xs (⟨ya, yo, yn⟩ :: ys) else if ya + yo < xa then clashGo (⟨xa, xo, xn⟩ :: xs) ys else true by rw [HH.out, clashGo])
    clear HH
    have d2 : (decide (ya + yo < xa)) = (decide (ya + yo < xa)) := rfl
    by_cases t1 : xa + xo < ya
    · have HH3 := Lib.hid (HH2.out.trans (if_pos t1))
      go_wp2_with fail
      go_region_held3 (fun w' => w'.cell? ⟨g, off, none⟩ = some (.int .i64 xa) ∧ w'.cell? ⟨g, off + 1, none⟩ = some (.int .i64 xo) ∧ w'.cell? ⟨g, off + 2, none⟩ = some (.string xn) ∧ w'.cell? ⟨g', off', none⟩ = some (.int .i64 ya) ∧ w'.cell? ⟨g', off' + 1, none⟩ = some (.int .i64 yo) ∧ w'.cell? ⟨g', off' + 2, none⟩ = some (.string yn)) (((try dsimp only); refine ⟨?_, ?_, ?_, ?_, ?_, ?_⟩ <;> (refine cell_grown (w := wr) (by assumption) ?_; repeat (first | exact grow_self _ | apply grow_alloc | apply grow_drew)))) ((go_at_call 50; refine (end_any _ _ _ _ (by omega) (by omega)).mono ?_; rintro e' w2 ⟨rfl, rfl⟩))
      go_wp2_with fail
      have gg := grow_drew (grow_alloc hg (.cells #[.int .i64 xa, .int .i64 xo, .string xn] 47))
      have gw := grow_drew (grow_alloc (grow_self wr) (.cells #[.int .i64 xa, .int .i64 xo, .string xn] 47))
      refine ⟨⟨xs, ⟨ya, yo, yn⟩ :: ys, _, _, _, _, rfl, rfl, (HE0.out.1.grown gw (by simp)).tailIf m1, HE0.out.2.grown gw (by simp), by omega, m2, by omega, l2, ⟨oE2, HO0.out.2⟩, HH3, gg⟩, by simp [slLen]⟩
    · have HH3 := Lib.hid (HH2.out.trans (if_neg t1))
      have t1' : decide (xa + xo < ya) = false := by simpa using t1
      go_wp2_with fail
      go_region_held3 (fun w' => w'.cell? ⟨g, off, none⟩ = some (.int .i64 xa) ∧ w'.cell? ⟨g, off + 1, none⟩ = some (.int .i64 xo) ∧ w'.cell? ⟨g, off + 2, none⟩ = some (.string xn) ∧ w'.cell? ⟨g', off', none⟩ = some (.int .i64 ya) ∧ w'.cell? ⟨g', off' + 1, none⟩ = some (.int .i64 yo) ∧ w'.cell? ⟨g', off' + 2, none⟩ = some (.string yn)) (((try dsimp only); refine ⟨?_, ?_, ?_, ?_, ?_, ?_⟩ <;> (refine cell_grown (w := wr) (by assumption) ?_; repeat (first | exact grow_self _ | apply grow_alloc | apply grow_drew)))) ((go_at_call 50; refine (end_any _ _ _ _ (by omega) (by omega)).mono ?_; rintro e' w2 ⟨rfl, rfl⟩))
      go_wp2_with fail
      have gg := grow_drew (grow_alloc hg (.cells #[.int .i64 xa, .int .i64 xo, .string xn] 47))
      have gw := grow_drew (grow_alloc (grow_self wr) (.cells #[.int .i64 xa, .int .i64 xo, .string xn] 47))
      have HE1 := Lib.hid (And.intro (HE0.out.1.grown gw (by simp)) (HE0.out.2.grown gw (by simp)))
      replace p1 := cell_grown p1 gw
      replace p2 := cell_grown p2 gw
      replace p3 := cell_grown p3 gw
      replace r1 := cell_grown r1 gw
      replace r2 := cell_grown r2 gw
      replace r3 := cell_grown r3 gw
      clear gw HE0 qE2 qF2 hg
      generalize (wr.alloc (.cells #[.int .i64 xa, .int .i64 xo, .string xn] 47)).drew = wq at p1 p2 p3 r1 r2 r3 HE1 gg ⊢
      by_cases t2 : ya + yo < xa
      · have HH4 := Lib.hid (HH3.out.trans (if_pos t2))
        go_region_held3 (fun w' => w'.cell? ⟨g, off, none⟩ = some (.int .i64 xa) ∧ w'.cell? ⟨g, off + 1, none⟩ = some (.int .i64 xo) ∧ w'.cell? ⟨g, off + 2, none⟩ = some (.string xn) ∧ w'.cell? ⟨g', off', none⟩ = some (.int .i64 ya) ∧ w'.cell? ⟨g', off' + 1, none⟩ = some (.int .i64 yo) ∧ w'.cell? ⟨g', off' + 2, none⟩ = some (.string yn)) (((try dsimp only); refine ⟨?_, ?_, ?_, ?_, ?_, ?_⟩ <;> (refine cell_grown (w := wq) (by assumption) ?_; repeat (first | exact grow_self _ | apply grow_alloc | apply grow_drew)))) ((go_at_call 50; refine (end_any _ _ _ _ (by omega) (by omega)).mono ?_; rintro e' w2 ⟨rfl, rfl⟩))
        go_wp2_with fail
        have gg2 := grow_drew (grow_alloc gg (.cells #[.int .i64 ya, .int .i64 yo, .string yn] 47))
        have gw2 := grow_drew (grow_alloc (grow_self wq) (.cells #[.int .i64 ya, .int .i64 yo, .string yn] 47))
        refine ⟨⟨⟨xa, xo, xn⟩ :: xs, ys, _, _, _, _, rfl, rfl, HE1.out.1.grown gw2 (by simp), (HE1.out.2.grown gw2 (by simp)).tailIf m2, m1, by omega, l1, by omega, ⟨HO0.out.1, oF2⟩, HH4, gg2⟩, by simp [slLen]⟩
      · have HH4 := Lib.hid (HH3.out.trans (if_neg t2))
        have t2' : decide (ya + yo < xa) = false := by simpa using t2
        go_region_held3 (fun w' => w'.cell? ⟨g, off, none⟩ = some (.int .i64 xa) ∧ w'.cell? ⟨g, off + 1, none⟩ = some (.int .i64 xo) ∧ w'.cell? ⟨g, off + 2, none⟩ = some (.string xn) ∧ w'.cell? ⟨g', off', none⟩ = some (.int .i64 ya) ∧ w'.cell? ⟨g', off' + 1, none⟩ = some (.int .i64 yo) ∧ w'.cell? ⟨g', off' + 2, none⟩ = some (.string yn)) (((try dsimp only); refine ⟨?_, ?_, ?_, ?_, ?_, ?_⟩ <;> (refine cell_grown (w := wq) (by assumption) ?_; repeat (first | exact grow_self _ | apply grow_alloc | apply grow_drew)))) ((go_at_call 50; refine (end_any _ _ _ _ (by omega) (by omega)).mono ?_; rintro e' w2 ⟨rfl, rfl⟩))
        go_wp2_with fail
        have gg2 := grow_drew (grow_alloc gg (.cells #[.int .i64 ya, .int .i64 yo, .string yn] 47))
        rw [HH4.out]
        go_ret2
        exact ⟨rfl, gg2⟩
end Go.Proofs.Ytajigndlcdiinaa
