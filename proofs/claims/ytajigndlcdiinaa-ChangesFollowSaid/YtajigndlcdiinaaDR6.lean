/- Package edit: the draft; drop and put. -/
import Derived.Test.YtajigndlcdiinaaDR3
import Derived.Deep.RegionLaw
import Derived.Deep.AppendLies
import Derived.Deep.RegionHeld3
namespace Go.Proofs.Ytajigndlcdiinaa
open Go.RowKit Go.Region

/-- A change that is put together. -/
structure Dr where
  out : List Ed
  at_ : Int
  old : Int
  txt : ByteArray

def edC : List Ed → List Value
  | [] => []
  | e :: r => .int .i64 e.at_ :: .int .i64 e.old :: .string e.new :: edC r
theorem edC_append : ∀ (a b : List Ed), edC (a ++ b) = edC a ++ edC b
  | [], _ => rfl
  | e :: r, b => by simp [edC, edC_append r b]
def catB : List ByteArray → List UInt8
  | [] => []
  | p :: r => p.data.toList ++ catB r
theorem catB_append : ∀ (a b : List ByteArray), catB (a ++ b) = catB a ++ catB b
  | [], _ => rfl
  | p :: r, b => by simp [catB, catB_append r b]

/-- What the draft's parts say. -/
structure Prts (W : World) (base : Nat) (pv : Value) (ps : List ByteArray) : Prop where
  row : W.ownsRow base 9 1 pv ps.length (ps.map .string)
  full : ∀ p ∈ ps, p.size ≠ 0

/-- A draft in its box. -/
structure DrAt (W : World) (base B : Nat) (d : Dr) (ev pv : Value) (ps : List ByteArray) : Prop where
  box : W.heap[B]? = some (.cells #[ev, .int .i64 d.at_, .int .i64 d.old, pv] 104 (0, 0))
  eds : W.ownsRow base 47 3 ev d.out.length (edC d.out)
  prs : Prts W base pv ps
  txt : catB ps = d.txt.data.toList

/-- A block that is as it was, or new. -/
def NB (v' v : Value) (w : World) : Prop := v'.ownBlock = v.ownBlock ∨ ∀ r, v'.ownBlock = some r → w.heap.size ≤ r
/-- What the methods of a draft leave alone. -/
def DrP (B : Nat) (ev pv : Value) : Nat → Option Obj → Prop := fun k _ => k ≠ B ∧ some k ≠ ev.ownBlock ∧ some k ≠ pv.ownBlock

def DrPost (base B N : Nat) (d : Dr) (ev pv : Value) (w : World) (e : Ending) (w' : World) : Prop :=
  (∃ v, e = .returned v) ∧ ∃ ev' pv' ps', DrAt w' base B d ev' pv' ps' ∧ Frm (DrP B ev pv) w w' ∧ NB ev' ev w ∧ NB pv' pv w ∧ ps'.length ≤ N

theorem frm_set {P : Nat → Option Obj → Prop} {w W : World} (f : Frm P w W) (b i : Nat) (v : Value) (hb : ∀ o, ¬ P b o) : Frm P w (W.setCell ⟨b, i, none⟩ v) :=
  ⟨f.os, f.tape, f.output, by have := f.size; simpa [World.setCell] using this, fun k hk hp => (Below.heap_setCell W ⟨b, i, none⟩ v k (fun e => by simp at e; subst e; exact hb _ hp)).trans (f.block k hk hp)⟩
theorem frm_grown {P : Nat → Option Obj → Prop} {w W W' : World} (f : Frm P w W) (g : W.grownBy W' none) : Frm P w W' :=
  ⟨g.os.trans f.os, g.tape.trans f.tape, g.output.trans f.output, Nat.le_trans f.size g.size, fun k hk hp => (g.block k (Nat.lt_of_lt_of_le hk f.size) (by simp)).trans (f.block k hk hp)⟩

set_option maxHeartbeats 4000000 in
set_option maxRecDepth 100000 in
theorem ddrop_any (base B : Nat) (d : Dr) (ev pv : Value) (ps : List ByteArray) (long : Int) (w : World) (hD : DrAt w base B d ev pv ps) (hb : -100000000000000 ≤ d.old + long ∧ d.old + long ≤ 100000000000000) :
    Calls Try.prog 70 #[.pointer (some ⟨B, 0, none⟩), .int .i64 long] w (DrPost base B ps.length { d with old := d.old + long } ev pv w) := by
  obtain ⟨P, hP⟩ : ∃ P, DrPost base B ps.length { d with old := d.old + long } ev pv w = P := ⟨_, rfl⟩
  rw [hP]
  have HP := Lib.hid hP
  have HD := Lib.hid hD
  have b2 := cell_of_block hD.box 2
  simp only [List.getElem?_toArray, List.getElem?_cons_zero, List.getElem?_cons_succ] at b2
  have f2 := free_of_block hD.box 2
  have hw : IntKind.i64.wrap (d.old + long) = d.old + long := IntWalk.i64_in _ (by omega)
  clear hP hD hb
  go_enter Try.func70, Try.ntmps70
  go_wp2_with fail
  try go_end0
  rw [← HP.out]
  refine ⟨⟨_, rfl⟩, ev, pv, ps, ?_, frm_set (Frm.refl _ w) B 2 _ (fun o h => h.1 rfl), .inl rfl, .inl rfl, Nat.le_refl _⟩
  have hx := heap_setCell_self HD.out.box 2 (.int .i64 (d.old + long))
  simp only [List.setIfInBounds_toArray, List.set_cons_succ, List.set_cons_zero] at hx
  exact ⟨hx, ownsRow_setCell_block HD.out.eds HD.out.box (by decide) 2 _, ⟨ownsRow_setCell_block HD.out.prs.row HD.out.box (by decide) 2 _, HD.out.prs.full⟩, HD.out.txt⟩

theorem own_kept_grown {w w' : World} {base e size n base2 e2 s2 n2 : Nat} {v v2 : Value} {xs xs2 : List Value} (h : w.ownsRow base e size v n xs) (h2 : w.ownsRow base2 e2 s2 v2 n2 xs2) (g : w.grownBy w' v2.ownBlock) (hne : e ≠ e2) : w'.ownsRow base e size v n xs := by
  obtain ⟨h1, h3⟩ := h
  refine ⟨h1, ?_⟩
  rcases h3 with h3 | ⟨g', cap, cur, hv, hg, hh, r⟩
  · exact .inl h3
  · exact .inr ⟨g', cap, cur, hv, hg, grown_block h2 g hh hne, r⟩
theorem frm_row {P : Nat → Option Obj → Prop} {w W W' : World} {r : Option Nat} (f : Frm P w W) (g : W.grownBy W' r) (hr : ∀ k o, P k o → some k ≠ r) : Frm P w W' :=
  ⟨g.os.trans f.os, g.tape.trans f.tape, g.output.trans f.output, Nat.le_trans f.size g.size, fun k hk hp => (g.block k (Nat.lt_of_lt_of_le hk f.size) (hr _ _ hp)).trans (f.block k hk hp)⟩

theorem infoStr : (Try.prog.info? 9).map (fun i => (i.zero, i.size, i.bytes)) = some (some (.string ⟨#[]⟩), 1, 16) := by kernel_rfl

set_option maxHeartbeats 4000000 in
set_option maxRecDepth 100000 in
theorem dput_any (base B : Nat) (d : Dr) (ev pv : Value) (ps : List ByteArray) (s : ByteArray) (w : World) (hD : DrAt w base B d ev pv ps) (hp : ps.length ≤ 1000000) (hbs : base ≤ w.heap.size) :
    Calls Try.prog 69 #[.pointer (some ⟨B, 0, none⟩), .string s] w (DrPost base B (ps.length + 1) { d with txt := d.txt ++ s } ev pv w) := by
  obtain ⟨P, hP⟩ : ∃ P, DrPost base B (ps.length + 1) { d with txt := d.txt ++ s } ev pv w = P := ⟨_, rfl⟩
  rw [hP]
  have HP := Lib.hid hP
  have HD := Lib.hid hD
  clear hP hD
  by_cases hs : s.size = 0
  · have hz : s.toList.isEmpty = true := by rw [isEmpty_size]; simpa using hs
    have he : s = ⟨#[]⟩ := by
      obtain ⟨⟨l⟩⟩ := s
      have : l = [] := List.eq_nil_of_length_eq_zero hs
      subst this; rfl
    go_enter Try.func69, Try.ntmps69
    go_wp2_with fail
    try go_end0
    rw [← HP.out]
    refine ⟨⟨_, rfl⟩, ev, pv, ps, ⟨HD.out.box, HD.out.eds, HD.out.prs, ?_⟩, Frm.refl _ w, .inl rfl, .inl rfl, Nat.le_succ _⟩
    rw [HD.out.txt, he]
    simp
  · have hz : s.toList.isEmpty = false := by rw [isEmpty_size]; simpa using hs
    obtain ⟨a, c, rfl⟩ := ownsRow_slice HD.out.prs.row
    have b3 := cell_of_block HD.out.box 3
    simp only [List.getElem?_toArray, List.getElem?_cons_zero, List.getElem?_cons_succ] at b3
    have HR := Lib.hid HD.out.prs.row
    obtain ⟨i0, hi, hz0, hz1, hz2⟩ := info_parts infoStr
    have HI := Lib.hid hi
    have HZ0 := Lib.hid hz0
    have HZ1 := Lib.hid hz1
    have HZ2 := Lib.hid hz2
    clear hi hz0 hz1 hz2
    have hBs : B < w.heap.size := lt_of_block HD.out.box
    have HBX := Lib.hid (fun o => grow_new (World.grownBy_alloc w o none) HD.out.box)
    go_enter Try.func69, Try.ntmps69
    go_wp2_with (at_builtin; refine wpList_append_lies _ rfl _ _ 102 rfl base 9 i0 (.string ⟨#[]⟩) 1 16 Try.underlying102 HI.out HZ0.out HZ1.out HZ2.out rfl (by omega) (.slice a ps.length c) _ _ rfl (HR.out.alloc _) ⟨w.heap.size, 0, none⟩ 1 1 [.string s] rfl rfl (cells_new w [.string s] 9) (by simp [Value.oneCell']) (by omega) (by unfold maxLen; omega) (by omega) (by simp; omega) _ rfl ?_; intro gg cap1 w4 hown1 hgrow hat hlt1; have hb4 := grown_block (HR.out.alloc _) hgrow (HBX.out _) (by decide); have k3 := cell_of_block hb4 3; simp only [List.getElem?_toArray, List.getElem?_cons_zero, List.getElem?_cons_succ] at k3; have fk := free_of_block hb4 3; have HB4 := Lib.hid hb4; have HGR := Lib.hid hgrow; have HAT := Lib.hid hat; have HOW := Lib.hid hown1; clear hb4 hgrow hat hown1)
    go_wp2_with fail
    try go_end0
    rw [← HP.out]
    have hx := heap_setCell_self HB4.out 3 (.slice (some ⟨gg, 0, none⟩) (ps.length + 1) cap1)
    simp only [List.setIfInBounds_toArray, List.set_cons_succ, List.set_cons_zero] at hx
    have hE : w4.ownsRow base 47 3 ev d.out.length (edC d.out) := own_kept_grown (HD.out.eds.alloc _) (HR.out.alloc _) HGR.out (by decide)
    have hF : Frm (DrP B ev (.slice a ps.length c)) w w4 := frm_row (frm_grown (Frm.refl _ w) (World.grownBy_alloc w _ none)) HGR.out (fun k o h => h.2.2)
    refine ⟨⟨_, rfl⟩, ev, .slice (some ⟨gg, 0, none⟩) (ps.length + 1) cap1, ps ++ [s], ⟨hx, ownsRow_setCell_block hE HB4.out (by decide) 3 _, ⟨?_, ?_⟩, ?_⟩, frm_set hF B 3 _ (fun o h => h.1 rfl), .inl rfl, ?_, by simp⟩
    · have := ownsRow_setCell_block HOW.out HB4.out (by decide) 3 (.slice (some ⟨gg, 0, none⟩) (ps.length + 1) cap1)
      simpa using this
    · intro p hp
      rcases List.mem_append.1 hp with h | h
      · exact HD.out.prs.full p h
      · rw [List.mem_singleton.1 h]; exact hs
    · rw [catB_append, HD.out.txt]
      simp [catB]
    · rcases HAT.out with h | h
      · exact .inl h.symm
      · refine .inr fun r hr => ?_
        have hr2 : some gg = some r := hr
        simp at hr2 h
        omega
end Go.Proofs.Ytajigndlcdiinaa
