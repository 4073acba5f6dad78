/- Package edit: near. -/
import Derived.Test.YtajigndlcdiinaaDQ1
import Derived.Deep.RegionHeld3
import Derived.Deep.CutBlock
import Derived.Deep.DeepCutAuto
namespace Go.Proofs.Ytajigndlcdiinaa
open Go.RowKit

/-- From which edit on a change at b0 or behind can touch, and how much further the text lies there. -/
def nearGo (b0 : Int) : Nat → Int → List Ed → Nat × Int
  | i, sh, [] => (i, sh)
  | i, sh, e :: r => if e.at_ + e.old + (e.new.size - e.old) + sh < b0 then nearGo b0 (i + 1) (sh + (e.new.size - e.old)) r else (i, sh)
/-- Ahead of which edit what touches up to bl ends. -/
def farGo (bl : Int) : Nat → Int → List Ed → Nat
  | i, _, [] => i
  | i, sh, e :: r => if e.at_ + sh ≤ bl then farGo bl (i + 1) (sh + (e.new.size - e.old)) r else i
theorem nearGo_bd (b0 : Int) : ∀ (es : List Ed) (i : Nat) (sh : Int), i ≤ (nearGo b0 i sh es).1 ∧ (nearGo b0 i sh es).1 ≤ i + es.length
  | [], i, sh => by simp [nearGo]
  | e :: r, i, sh => by
    rw [nearGo]
    split
    · have := nearGo_bd b0 r (i + 1) (sh + (e.new.size - e.old)); simp only [List.length_cons]; omega
    · simp
theorem farGo_bd (bl : Int) : ∀ (es : List Ed) (i : Nat) (sh : Int), i ≤ farGo bl i sh es ∧ farGo bl i sh es ≤ i + es.length
  | [], i, sh => by simp [farGo]
  | e :: r, i, sh => by
    rw [farGo]
    split
    · have := farGo_bd bl r (i + 1) (sh + (e.new.size - e.old)); simp only [List.length_cons]; omega
    · simp
def NearPost (f t : Nat) (s : Int) (w : World) (e : Ending) (w' : World) : Prop := e = .returned (.tuple #[.int .i64 f, .int .i64 t, .int .i64 s]) ∧ w.grownBy w' none

set_option maxHeartbeats 2000000 in
set_option maxRecDepth 100000 in
theorem near_any (a b : Option Addr) (c1 c2 : Nat) (es fs : List Ed) (k : Nat) (w : World) (hl : es.length ≤ 2000) (hl2 : fs.length ≤ 2000) (hk : fs.length = k + 1) (hE : Eds w a es) (hF : Eds w b fs)
    (hS : ∀ e, e ∈ es → 0 ≤ e.at_ ∧ e.at_ ≤ 20000 ∧ 0 ≤ e.old ∧ e.old ≤ 20000 ∧ e.new.size ≤ 40000) (hT : ∀ e, e ∈ fs → 0 ≤ e.at_ ∧ e.at_ ≤ 20000 ∧ 0 ≤ e.old ∧ e.old ≤ 20000 ∧ e.new.size ≤ 40000) (b0 bl : Int) (hb0 : (fs[0]'(by omega)).at_ = b0) (hbl : (fs[k]'(by omega)).at_ + (fs[k]'(by omega)).old = bl) :
    Calls Try.prog 82 #[.slice a es.length c1, .slice b fs.length c2] w (NearPost (nearGo b0 0 0 es).1 (farGo bl (nearGo b0 0 0 es).1 (nearGo b0 0 0 es).2 (es.drop (nearGo b0 0 0 es).1)) (nearGo b0 0 0 es).2 w) := by
  obtain ⟨P, hP⟩ : ∃ P, NearPost (nearGo b0 0 0 es).1 (farGo bl (nearGo b0 0 0 es).1 (nearGo b0 0 0 es).2 (es.drop (nearGo b0 0 0 es).1)) (nearGo b0 0 0 es).2 w = P := ⟨_, rfl⟩
  rw [hP]
  have HP := Lib.hid hP
  have HE := Lib.hid hE
  have HS := Lib.hid hS
  obtain ⟨g2, off2, e2, p1, p2, p3⟩ := hF 0 (by omega)
  obtain ⟨g3, off3, e3, q1, q2, q3⟩ := hF k (by omega)
  have hT0 := hT _ (List.getElem_mem (show 0 < fs.length by omega))
  have hTk := hT _ (List.getElem_mem (show k < fs.length by omega))
  rw [e2] at e3
  cases e3
  rw [e2]
  rw [hb0] at p1
  obtain ⟨⟨la, lo, ln⟩, hle⟩ : ∃ x : Ed, x = fs[k]'(by omega) := ⟨_, rfl⟩
  rw [← hle] at q1 q2 q3 hTk hbl
  simp only at q1 q2 q3 hTk hbl
  simp only [Nat.zero_mul, Nat.add_zero] at p1
  rw [hb0] at hT0
  have hT0b : 0 ≤ b0 ∧ b0 ≤ 20000 := ⟨hT0.1, hT0.2.1⟩
  clear hT0
  have HBL := Lib.hid hbl
  clear hP hE hS hF hT hb0 p2 p3 e2 hle hbl
  generalize fs.length = mm at hk hl2 ⊢
  have HK := Lib.hid hk
  have b00 : 0 < mm := by omega
  have b01 : (0 : Int) < (mm : Int) := by omega
  clear hk
  go_enter Try.func82, Try.ntmps82
  go_upto_block 0 with (fail)
  go_cut [4, 6] (fun x4 x6 wx => ∃ (i : Nat) (sh : Int), i ≤ es.length ∧ -60000 * (i : Int) ≤ sh ∧ sh ≤ 60000 * (i : Int) ∧ x4 = .int .i64 i ∧ x6 = .int .i64 sh ∧ Hid (nearGo b0 0 0 es = (i, sh)) ∧ Hid (w.grownBy wx none))
  case first =>
    go_wp2_with fail
    go_loopw [4, 6] (fun x4 x6 wr => ∃ (i : Nat) (sh : Int), i ≤ es.length ∧ -60000 * (i : Int) ≤ sh ∧ sh ≤ 60000 * (i : Int) ∧ x4 = .int .i64 i ∧ x6 = .int .i64 sh ∧ Hid (nearGo b0 0 0 es = nearGo b0 i sh (es.drop i)) ∧ Hid (w.grownBy wr none)) (fun x4 _ _ => es.length - (intOf x4).toNat)
    case atStart => exact ⟨0, 0, Nat.zero_le _, by omega, by omega, rfl, rfl, Lib.hid rfl, Lib.hid (grow_self w)⟩
    case round =>
      obtain ⟨i, sh, hi, hs1, hs2, rfl, rfl, HN, HG⟩ := hrel
      by_cases hlt : i < es.length
      · obtain ⟨g, off, rfl, c1, c2, c3⟩ := HE.out i hlt
        replace c1 := HG.out.cell c1 (by simp)
        replace c2 := HG.out.cell c2 (by simp)
        replace c3 := HG.out.cell c3 (by simp)
        have p1r := HG.out.cell p1 (by simp)
        have hs := HS.out _ (List.getElem_mem hlt)
        have HD := Lib.hid (show es.drop i = es[i] :: es.drop (i + 1) from List.drop_eq_getElem_cons hlt)
        generalize es[i] = x at c1 c2 c3 hs HD
        obtain ⟨ea, eo, en⟩ := x
        simp only at c1 c2 c3 hs
        have v1 : IntKind.i64.wrap (ea + eo + ((en.size : Int) - eo)) = ea + eo + ((en.size : Int) - eo) := IntWalk.i64_in _ (by omega)
        have v2 : IntKind.i64.wrap (ea + eo + ((en.size : Int) - eo) + sh) = ea + eo + ((en.size : Int) - eo) + sh := IntWalk.i64_in _ (by omega)
        have v3 : IntKind.i64.wrap (sh + ((en.size : Int) - eo)) = sh + ((en.size : Int) - eo) := IntWalk.i64_in _ (by omega)
        have b1 : (0 : Int) ≤ (i : Int) := by omega
        have b2 : (i : Int) < (es.length : Int) := by omega
        by_cases ht : ea + eo + ((en.size : Int) - eo) + sh < b0
        · have HN2 := Lib.hid (show nearGo b0 0 0 es = nearGo b0 (i + 1) (sh + ((en.size : Int) - eo)) (es.drop (i + 1)) by rw [HN.out, HD.out, nearGo]; exact if_pos ht)
          have dt : decide (ea + eo + ((en.size : Int) - eo) + sh < b0) = true := by simpa using ht
          clear HN HD ht
          go_wp2_with fail
          go_region_held3 (fun w' => w'.cell? ⟨g, off + i * 3, none⟩ = some (.int .i64 ea) ∧ w'.cell? ⟨g, off + i * 3 + 1, none⟩ = some (.int .i64 eo) ∧ w'.cell? ⟨g, off + i * 3 + 2, none⟩ = some (.string en) ∧ w'.cell? ⟨g2, off2, none⟩ = some (.int .i64 b0)) (((try dsimp only); refine ⟨?_, ?_, ?_, ?_⟩ <;> (refine cell_grown (w := wr) (by assumption) ?_; repeat (first | exact grow_self _ | apply grow_alloc | apply grow_drew)))) ((first | (go_at_call 50; refine (end_any _ _ _ _ (by omega) (by omega)).mono ?_; rintro e' w2 ⟨rfl, rfl⟩) | (go_at_call 78; refine (growth_any _ _ _ _ (by omega) (by omega)).mono ?_; rintro e' w2 ⟨rfl, rfl⟩)))
          have gw := grow_drew (grow_alloc (grow_alloc (grow_self wr) (.cells #[.int .i64 ea, .int .i64 eo, .string en] 47)) (.cells #[.int .i64 ea, .int .i64 eo, .string en] 47))
          have HG2 := Lib.hid (grownBy_trans HG.out gw)
          replace c1 := cell_grown c1 gw
          replace c2 := cell_grown c2 gw
          replace c3 := cell_grown c3 gw
          clear gw p1r HG
          generalize ((wr.alloc (.cells #[.int .i64 ea, .int .i64 eo, .string en] 47)).alloc (.cells #[.int .i64 ea, .int .i64 eo, .string en] 47)).drew = wq at c1 c2 c3 HG2 ⊢
          go_wp2_with fail
          refine (growth_any _ _ _ _ (by omega) (by omega)).mono ?_
          rintro e' w2 ⟨rfl, rfl⟩
          have HG3 := Lib.hid (grow_alloc HG2.out (.cells #[.int .i64 ea, .int .i64 eo, .string en] 47))
          go_wp2_with fail
          go_roundw
          case rel => exact ⟨i + 1, _, by omega, by omega, by omega, by go_num, rfl, HN2, HG3⟩
          case measure => simp [intOf]; omega
        · have HN2 := Lib.hid (show nearGo b0 0 0 es = (i, sh) by rw [HN.out, HD.out, nearGo]; exact if_neg ht)
          have dt : decide (ea + eo + ((en.size : Int) - eo) + sh < b0) = false := by simpa using ht
          clear HN HD ht
          go_wp2_with fail
          go_region_held3 (fun w' => w'.cell? ⟨g, off + i * 3, none⟩ = some (.int .i64 ea) ∧ w'.cell? ⟨g, off + i * 3 + 1, none⟩ = some (.int .i64 eo) ∧ w'.cell? ⟨g, off + i * 3 + 2, none⟩ = some (.string en) ∧ w'.cell? ⟨g2, off2, none⟩ = some (.int .i64 b0)) (((try dsimp only); refine ⟨?_, ?_, ?_, ?_⟩ <;> (refine cell_grown (w := wr) (by assumption) ?_; repeat (first | exact grow_self _ | apply grow_alloc | apply grow_drew)))) ((first | (go_at_call 50; refine (end_any _ _ _ _ (by omega) (by omega)).mono ?_; rintro e' w2 ⟨rfl, rfl⟩) | (go_at_call 78; refine (growth_any _ _ _ _ (by omega) (by omega)).mono ?_; rintro e' w2 ⟨rfl, rfl⟩)))
          have HG2 := Lib.hid (grownBy_trans HG.out (grow_drew (grow_alloc (grow_alloc (grow_self wr) (.cells #[.int .i64 ea, .int .i64 eo, .string en] 47)) (.cells #[.int .i64 ea, .int .i64 eo, .string en] 47))))
          go_wp2_with fail
          go_meet
          exact ⟨i, sh, hi, hs1, hs2, rfl, rfl, HN2, HG2⟩
      · obtain rfl : i = es.length := by omega
        have HN2 := Lib.hid (show nearGo b0 0 0 es = (es.length, sh) by rw [HN.out, List.drop_length, nearGo])
        have HG2 := Lib.hid (grow_drew HG.out)
        go_wp2_with fail
        go_region
        go_wp2_with fail
        go_meet
        exact ⟨es.length, sh, Nat.le_refl _, hs1, hs2, rfl, rfl, HN2, HG2⟩
  case rest =>
    obtain ⟨f, s0, hf, hs1, hs2, rfl, rfl, HN, HG⟩ := hcut
    have HP2 := Lib.hid (show NearPost f (farGo bl f s0 (es.drop f)) s0 w = P by have := HP.out; rw [HN.out] at this; exact this)
    have HG0 := Lib.hid HG.out
    clear HP HN
    go_wp2_with fail
    go_loopw [5, 7] (fun x5 x7 wr => ∃ (i : Nat) (sh : Int), f ≤ i ∧ i ≤ es.length ∧ -60000 * (i : Int) ≤ sh ∧ sh ≤ 60000 * (i : Int) ∧ x5 = .int .i64 i ∧ x7 = .int .i64 sh ∧ Hid (farGo bl f s0 (es.drop f) = farGo bl i sh (es.drop i)) ∧ Hid (w.grownBy wr none)) (fun x5 _ _ => es.length - (intOf x5).toNat)
    case atStart => exact ⟨f, s0, Nat.le_refl _, hf, hs1, hs2, rfl, rfl, Lib.hid rfl, HG⟩
    case round =>
      obtain ⟨i, sh, hfi, hi, hs1, hs2, rfl, rfl, HN, HG⟩ := hrel
      by_cases hlt : i < es.length
      · obtain ⟨g, off, rfl, c1, c2, c3⟩ := HE.out i hlt
        replace c1 := HG.out.cell c1 (by simp)
        replace c2 := HG.out.cell c2 (by simp)
        replace c3 := HG.out.cell c3 (by simp)
        have r1 := HG.out.cell q1 (by simp)
        have r2 := HG.out.cell q2 (by simp)
        have r3 := HG.out.cell q3 (by simp)
        have hs := HS.out _ (List.getElem_mem hlt)
        have HD := Lib.hid (show es.drop i = es[i] :: es.drop (i + 1) from List.drop_eq_getElem_cons hlt)
        generalize es[i] = x at c1 c2 c3 hs HD
        obtain ⟨ea, eo, en⟩ := x
        simp only at c1 c2 c3 hs
        have v1 : IntKind.i64.wrap (ea + sh) = ea + sh := IntWalk.i64_in _ (by omega)
        have hk := HK.out
        have v2 : IntKind.i64.wrap ((mm : Int) - 1) = (k : Int) := by rw [IntWalk.i64_in _ (by omega)]; omega
        have v3 : IntKind.i64.wrap (sh + ((en.size : Int) - eo)) = sh + ((en.size : Int) - eo) := IntWalk.i64_in _ (by omega)
        have b1 : (0 : Int) ≤ (i : Int) := by omega
        have b2 : (i : Int) < (es.length : Int) := by omega
        have b3 : (0 : Int) ≤ (k : Int) := by omega
        have b4 : (k : Int) < (mm : Int) := by omega
        clear hk
        have hbl := HBL.out
        by_cases ht : ea + sh ≤ la + lo
        · have HN2 := Lib.hid (show farGo bl f s0 (es.drop f) = farGo bl (i + 1) (sh + ((en.size : Int) - eo)) (es.drop (i + 1)) by rw [HN.out, HD.out, farGo]; exact if_pos (by rw [← hbl]; exact ht))
          have dt : decide (ea + sh ≤ la + lo) = true := by simpa using ht
          clear HN HD ht hbl
          go_wp2_with fail
          go_region_held3 (fun w' => w'.cell? ⟨g, off + i * 3, none⟩ = some (.int .i64 ea) ∧ w'.cell? ⟨g2, off2 + k * 3, none⟩ = some (.int .i64 la) ∧ w'.cell? ⟨g2, off2 + k * 3 + 1, none⟩ = some (.int .i64 lo) ∧ w'.cell? ⟨g2, off2 + k * 3 + 2, none⟩ = some (.string ln)) (((try dsimp only); refine ⟨?_, ?_, ?_, ?_⟩ <;> (refine cell_grown (w := wr) (by assumption) ?_; repeat (first | exact grow_self _ | apply grow_alloc | apply grow_drew)))) ((go_at_call 50; refine (end_any _ _ _ _ (by omega) (by omega)).mono ?_; rintro e' w2 ⟨rfl, rfl⟩))
          have gw := grow_drew (grow_alloc (grow_self wr) (.cells #[.int .i64 la, .int .i64 lo, .string ln] 47))
          have HG2 := Lib.hid (grownBy_trans HG.out gw)
          replace c1 := cell_grown c1 gw
          replace c2 := cell_grown c2 gw
          replace c3 := cell_grown c3 gw
          clear gw r1 r2 r3 HG
          generalize (wr.alloc (.cells #[.int .i64 la, .int .i64 lo, .string ln] 47)).drew = wq at c1 c2 c3 HG2 ⊢
          go_wp2_with fail
          refine (growth_any _ _ _ _ (by omega) (by omega)).mono ?_
          rintro e' w2 ⟨rfl, rfl⟩
          have HG3 := Lib.hid (grow_alloc HG2.out (.cells #[.int .i64 ea, .int .i64 eo, .string en] 47))
          go_wp2_with fail
          go_roundw
          case rel => exact ⟨i + 1, _, by omega, by omega, by omega, by omega, by go_num, rfl, HN2, HG3⟩
          case measure => simp [intOf]; omega
        · have HN2 := Lib.hid (show farGo bl f s0 (es.drop f) = i by rw [HN.out, HD.out, farGo]; exact if_neg (by rw [← hbl]; exact ht))
          have HZ := Lib.hid (show ∀ w', w.grownBy w' none → P (.returned (.tuple #[.int .i64 f, .int .i64 i, .int .i64 s0])) w' from fun w' g => HP2.out ▸ ⟨by rw [HN2.out], g⟩)
          have dt : decide (ea + sh ≤ la + lo) = false := by simpa using ht
          clear HN HD ht hbl HN2
          go_wp2_with fail
          go_region_held3 (fun w' => w'.cell? ⟨g, off + i * 3, none⟩ = some (.int .i64 ea) ∧ w'.cell? ⟨g2, off2 + k * 3, none⟩ = some (.int .i64 la) ∧ w'.cell? ⟨g2, off2 + k * 3 + 1, none⟩ = some (.int .i64 lo) ∧ w'.cell? ⟨g2, off2 + k * 3 + 2, none⟩ = some (.string ln)) (((try dsimp only); refine ⟨?_, ?_, ?_, ?_⟩ <;> (refine cell_grown (w := wr) (by assumption) ?_; repeat (first | exact grow_self _ | apply grow_alloc | apply grow_drew)))) ((go_at_call 50; refine (end_any _ _ _ _ (by omega) (by omega)).mono ?_; rintro e' w2 ⟨rfl, rfl⟩))
          have HZ2 := Lib.hid (HZ.out _ (grownBy_trans HG.out (grow_drew (grow_alloc (grow_self wr) (.cells #[.int .i64 la, .int .i64 lo, .string ln] 47)))))
          clear HZ HG HG0 HP2
          go_wp2_with fail
          exact bodyPost_ret (v := .tuple #[.int .i64 f, .int .i64 i, .int .i64 s0]) (by simp [results, Try.results82, go_sem]) rfl HZ2.out
      · obtain rfl : i = es.length := by omega
        have HN2 := Lib.hid (show farGo bl f s0 (es.drop f) = es.length by rw [HN.out, List.drop_length, farGo])
        have HZ2 := Lib.hid (show P (.returned (.tuple #[.int .i64 f, .int .i64 es.length, .int .i64 s0])) wr.drew from HP2.out ▸ ⟨by rw [HN2.out], grow_drew HG.out⟩)
        clear HN HN2 HP2 HG HG0
        go_wp2_with fail
        go_region
        go_wp2_with fail
        exact bodyPost_ret (v := .tuple #[.int .i64 f, .int .i64 es.length, .int .i64 s0]) (by simp [results, Try.results82, go_sem]) rfl HZ2.out
end Go.Proofs.Ytajigndlcdiinaa
