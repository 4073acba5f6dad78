/- Package edit: the draft; keep and change. -/
import Derived.Test.YtajigndlcdiinaaDR7
namespace Go.Proofs.Ytajigndlcdiinaa
open Go.RowKit Go.Region

def Dr.keep (d : Dr) (long : Int) : Dr := if long = 0 then d else { d.close with at_ := d.close.at_ + long }

theorem Dr.close_at (d : Dr) : d.close.at_ = if d.old = 0 ∧ d.txt.size = 0 then d.at_ else d.at_ + d.old := by
  unfold Dr.close; split <;> rfl

set_option maxHeartbeats 4000000 in
set_option maxRecDepth 100000 in
theorem dkeep_any (base B : Nat) (d : Dr) (ev pv : Value) (ps : List ByteArray) (long : Int) (w : World) (hD : DrAt w base B d ev pv ps) (hp : ps.length ≤ 1000000) (ho : d.out.length ≤ 1000000) (ht : d.txt.size ≤ 1000000000000) (hbs : base ≤ w.heap.size)
    (ha : -10000000000000 ≤ d.at_ ∧ d.at_ ≤ 10000000000000) (hb : -10000000000000 ≤ d.old ∧ d.old ≤ 10000000000000) (hl : -10000000000000 ≤ long ∧ long ≤ 10000000000000) :
    Calls Try.prog 68 #[.pointer (some ⟨B, 0, none⟩), .int .i64 long] w (DrPost base B ps.length (d.keep long) ev pv w) := by
  obtain ⟨P, hP⟩ : ∃ P, DrPost base B ps.length (d.keep long) ev pv w = P := ⟨_, rfl⟩
  rw [hP]
  have HP := Lib.hid hP
  clear hP
  have HD := Lib.hid hD
  by_cases h0 : long = 0
  · have ht0 : (long == 0) = true := by simpa using h0
    have HK := Lib.hid (show d.keep long = d from if_pos h0)
    clear h0 hD
    go_enter Try.func68, Try.ntmps68
    go_wp2_with fail
    try go_end0
    rw [← HP.out, HK.out]
    exact ⟨⟨_, rfl⟩, ev, pv, ps, HD.out, Frm.refl _ w, .inl rfl, .inl rfl, Nat.le_refl _⟩
  · have ht0 : (long == 0) = false := by simpa using h0
    have HK := Lib.hid (show d.keep long = { d.close with at_ := d.close.at_ + long } from if_neg h0)
    have HC := Lib.hid (dclose_any base B d ev pv ps w hD hp ho ht hbs (by omega) (by omega))
    have hat : -100000000000000 ≤ d.close.at_ + long ∧ d.close.at_ + long ≤ 100000000000000 := by
      rw [Dr.close_at]; split <;> omega
    unfold DrPost at HC
    generalize d.close = c at HC HK hat
    clear h0 hD
    go_enter Try.func68, Try.ntmps68
    go_wp2_with fail
    refine HC.out.mono ?_
    rintro e w1 ⟨⟨v, rfl⟩, ev1, pv1, ps1, hD1, hF1, hN1, hM1, hl1⟩
    have b1 := cell_of_block hD1.box 1
    simp only [List.getElem?_toArray, List.getElem?_cons_zero, List.getElem?_cons_succ] at b1
    have f1 := free_of_block hD1.box 1
    have HD1 := Lib.hid hD1
    have HF1 := Lib.hid hF1
    have HN1 := Lib.hid hN1
    have HM1 := Lib.hid hM1
    have HL1 := Lib.hid hl1
    have hw : IntKind.i64.wrap (c.at_ + long) = c.at_ + long := IntWalk.i64_in _ (by omega)
    clear hD1 hF1 hN1 hM1 hl1 HC hat
    go_wp2_with fail
    try go_end0
    rw [← HP.out, HK.out]
    have hx := heap_setCell_self HD1.out.box 1 (.int .i64 (c.at_ + long))
    simp only [List.setIfInBounds_toArray, List.set_cons_succ, List.set_cons_zero] at hx
    exact ⟨⟨_, rfl⟩, ev1, pv1, ps1, ⟨hx, ownsRow_setCell_block HD1.out.eds HD1.out.box (by decide) 1 _, ⟨ownsRow_setCell_block HD1.out.prs.row HD1.out.box (by decide) 1 _, HD1.out.prs.full⟩, HD1.out.txt⟩,
      frm_set HF1.out B 1 _ (fun o h => h.1 rfl), HN1.out, HM1.out, HL1.out⟩

def ChgPost (base B : Nat) (d : Dr) (ev pv : Value) (w : World) (e : Ending) (w' : World) : Prop :=
  ∃ ev' pv' ps', e = .returned ev' ∧ DrAt w' base B d ev' pv' ps' ∧ Frm (DrP B ev pv) w w' ∧ NB ev' ev w ∧ NB pv' pv w

set_option maxHeartbeats 4000000 in
set_option maxRecDepth 100000 in
theorem dchange_any (base B : Nat) (d : Dr) (ev pv : Value) (ps : List ByteArray) (w : World) (hD : DrAt w base B d ev pv ps) (hp : ps.length ≤ 1000000) (ho : d.out.length ≤ 1000000) (ht : d.txt.size ≤ 1000000000000) (hbs : base ≤ w.heap.size)
    (ha : -10000000000000 ≤ d.at_ ∧ d.at_ ≤ 10000000000000) (hb : -10000000000000 ≤ d.old ∧ d.old ≤ 10000000000000) :
    Calls Try.prog 71 #[.pointer (some ⟨B, 0, none⟩)] w (ChgPost base B d.close ev pv w) := by
  obtain ⟨P, hP⟩ : ∃ P, ChgPost base B d.close ev pv w = P := ⟨_, rfl⟩
  rw [hP]
  have HP := Lib.hid hP
  clear hP
  have HC := Lib.hid (dclose_any base B d ev pv ps w hD hp ho ht hbs (by omega) (by omega))
  unfold DrPost at HC
  generalize d.close = c at HC HP
  clear hD
  go_enter Try.func71, Try.ntmps71
  go_wp2_with fail
  refine HC.out.mono ?_
  rintro e w1 ⟨⟨v, rfl⟩, ev1, pv1, ps1, hD1, hF1, hN1, hM1, hl1⟩
  obtain ⟨ea, ec, rfl⟩ := ownsRow_slice hD1.eds
  have b0 := cell_of_block hD1.box 0
  simp only [List.getElem?_toArray, List.getElem?_cons_zero] at b0
  have HD1 := Lib.hid hD1
  have HF1 := Lib.hid hF1
  have HN1 := Lib.hid hN1
  have HM1 := Lib.hid hM1
  clear hD1 hF1 hN1 hM1 hl1 HC
  go_wp2_with fail
  try go_ret
  rw [← HP.out]
  exact ⟨_, pv1, ps1, rfl, HD1.out, HF1.out, HN1.out, HM1.out⟩
end Go.Proofs.Ytajigndlcdiinaa
