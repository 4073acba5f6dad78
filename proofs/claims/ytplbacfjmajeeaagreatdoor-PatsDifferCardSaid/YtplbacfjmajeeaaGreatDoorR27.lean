/- A part of the proof of the statement on PatsDiffer: The search over the spots of some patterns. hgref2.differFault. hgref2.DifferOf. The sets that are found hold places of the patterns; DifferOf and PatFault without hypotheses. The program's answer is the reference's. hglaw2.errs. -/
import Derived.Test.YtplbacfjmajeeaaGreatDoorR26
import Derived.Test.YtplbacfjmajeeaaGreatDoorR25
namespace Go.Proofs.YtplbacfjmajeeaaGreatDoor
open Go.RowKit Go.Maps

theorem folO_in (as_ : List Pt) : ∀ b i k, folO as_ b i k → k < b + leavesL as_ := by
  induction as_ with
  | nil => intro b i k h; simp [folO] at h
  | cons a as_ iha =>
    intro b i k h
    simp only [folO, leavesL] at h ⊢
    rcases h with h | h
    · have := (fol_bd a b i k h).2; omega
    · have := iha _ _ _ h; omega
theorem firstO_in (ps : List Pt) (k : Nat) (h : k ∈ firstO ps 0) : k < leavesL ps := by
  rw [← opnO_start] at h
  have := (opnO_bd (fun _ => false) ps 0 true).1 k h
  omega
theorem stepS_L (ps : List Pt) (can : List Nat) (c : Nat) (h : ∀ i ∈ can, i < leavesL ps) : stepS ((bytesL ps).map Prod.fst) ((bytesL ps).map Prod.snd) can c = stepL (bytesL ps) can c := by
  unfold stepS stepL
  refine List.filter_congr fun i hi => ?_
  have hl : i < (bytesL ps).length := by rw [bytesL_length]; exact h i hi
  simp [List.getD_eq_getElem?_getD, hl, inB]
theorem nextS_opn (ps : List Pt) (set : List Nat) : nextS (folO ps 0) (leavesL ps) set = opnO (fun k => decide (k ∈ set)) ps 0 false := by
  refine rising_eq _ _ (nextS_rising _ _ _) (opnO_bd _ ps 0 false).2 (fun k => ?_)
  rw [mem_nextS, opnO_iff]
  constructor
  · rintro ⟨_, i, h1, h2⟩
    exact .inr ⟨i, by simpa using h1, h2⟩
  · rintro (⟨h, _⟩ | ⟨i, h1, h2⟩)
    · cases h
    · exact ⟨by have := folO_in ps 0 i k h2; omega, i, by simpa using h1, h2⟩
theorem all_spots (ps : List Pt) (w0 w : World) (X : Nat) (S : SpotRel w0 X ps w) (hn : leavesL ps ≤ 100) : Calls Tryz.prog 47 #[.pointer (some ⟨X, 0, none⟩)] w (AllPost ps w) := by
  obtain ⟨V, fo, a, n, k, hv, S, g⟩ := S
  have hd : (spD ps fo (lastO ps 0)).n = leavesL ps := spD_n ps fo _
  refine all_any ps w w0.heap.size X (spD ps fo (lastO ps 0)) _ V _ S ?_ ?_ ?_ ?_ ?_ ?_ (by rw [hd]; exact hn)
  · have := S.rows.get (j := 5) rfl
    simp only [intC_len, natI_len] at this
    exact ownsRow_base this (Nat.zero_le _)
  · intro can c hc
    rw [hd] at hc
    exact stepS_L ps can c hc
  · intro set
    rw [hd]
    exact nextS_opn ps set
  · intro i hi
    rw [hd]
    exact firstO_in ps i hi
  · rw [hd]
    exact firstO_len ps 0
  · intro i k h
    rw [hd]
    have := folO_in ps 0 i k h
    omega
end Go.Proofs.YtplbacfjmajeeaaGreatDoor
namespace Go.Proofs.YtplbacfjmajeeaaGreatDoor
open Go.RowKit Go.Maps

def HallOf (ps : List Pt) : Prop := ∀ (w0 w : World) (X : Nat), SpotRel w0 X ps w → Calls Tryz.prog 47 #[.pointer (some ⟨X, 0, none⟩)] w (AllPost ps w)
theorem mks_two {w : World} {p q : Pt} {b : Nat} {s1 s2 : ByteArray} {o1 l1 h1 o2 l2 h2 : Int} {x1 x2 : Option Addr} {n1 c1 n2 c2 : Nat} {t : TypeId} {fr : Nat × Nat}
    (hb : w.heap[b]? = some (.cells #[.string s1, .int .i64 o1, .int .i64 l1, .int .i64 h1, .slice x1 n1 c1, .string s2, .int .i64 o2, .int .i64 l2, .int .i64 h2, .slice x2 n2 c2] t fr))
    (hp : PtAt w p (.agg #[.int .i64 o1, .int .i64 l1, .int .i64 h1, .slice x1 n1 c1])) (hq : PtAt w q (.agg #[.int .i64 o2, .int .i64 l2, .int .i64 h2, .slice x2 n2 c2])) : MksAt w [p, q] b 0 := by
  intro j hj
  have : j = 0 ∨ j = 1 := by simp at hj; omega
  rcases this with rfl | rfl
  · exact ⟨s1, o1, l1, h1, x1, n1, c1, cell_of_block hb 0, cell_of_block hb 1, cell_of_block hb 2, cell_of_block hb 3, cell_of_block hb 4, hp⟩
  · exact ⟨s2, o2, l2, h2, x2, n2, c2, cell_of_block hb 5, cell_of_block hb 6, cell_of_block hb 7, cell_of_block hb 8, cell_of_block hb 9, hq⟩

theorem run_eqNil (a : Option Addr) (n c : Nat) (w : World) : (binOp .eql 89 (.slice a n c) (.slice none 0 0)).run Tryz.prog w = .ok (.bool a.isNone) w :=
  @Lib.run_eql_slice_nil Tryz.prog w 89 92 a n c 0 0 Tryz.underlying89
theorem eqNil_yes (w : World) : (binOp .eql 89 (.slice none 0 0) (.slice none 0 0)).run Tryz.prog w = .ok (.bool true) w := run_eqNil none 0 0 w
theorem eqNil_no (g n c : Nat) (w : World) : (binOp .eql 89 (.slice (some ⟨g, 0, none⟩) n c) (.slice none 0 0)).run Tryz.prog w = .ok (.bool false) w := run_eqNil (some ⟨g, 0, none⟩) n c w
set_option maxHeartbeats 4000000 in
set_option maxRecDepth 100000 in
theorem differFault_any (p q : Pt) (v u : Value) (w : World) (hall : HallOf [p, q]) (hRp : Right p) (hRq : Right q) (hn : leavesL [p, q] ≤ 100) (hs : 2 * sizes [p, q] * 100000000 ≤ 100000000000) (hp : PtAt w p v) (hq : PtAt w q u) :
    Calls Tryz.prog 45 #[v, u] w fun e w' => e = .returned (.int .i64 (if allSets [p, q] = none then 12 else 0)) ∧ w.grownBy w' none := by
  have HP := Lib.hid hp
  have HQ := Lib.hid hq
  have HALL := Lib.hid hall
  have HSZ := Lib.hid hs
  have HRR := Lib.hid (show ∀ x ∈ [p, q], Right x from fun x hx => by
    simp only [List.mem_cons, List.not_mem_nil, or_false] at hx
    rcases hx with rfl | rfl
    · exact hRp
    · exact hRq)
  obtain ⟨o1, l1, h1, as1⟩ := p
  obtain ⟨o2, l2, h2, as2⟩ := q
  obtain ⟨av1, cap1, rfl, _⟩ := hp
  obtain ⟨av2, cap2, rfl, _⟩ := hq
  generalize hpe : Pt.mk o1 l1 h1 as1 = p at *
  generalize hqe : Pt.mk o2 l2 h2 as2 = q at *
  clear hpe hqe hs hall hRp hRq
  obtain ⟨r, hr⟩ : ∃ r : Int, (if allSets [p, q] = none then 12 else 0) = r := ⟨_, rfl⟩
  rw [hr]
  have HRES := Lib.hid hr
  clear hr
  go_enter Tryz.func45, Tryz.ntmps45
  have g0 : ∀ o1 o2 o3, w.grownBy (((w.alloc o1).alloc o2).alloc o3) none := fun _ _ _ => grow_alloc (grow_alloc (World.grownBy_alloc _ _ _) _) _
  have hb0 : ∀ o1 o2 o3, (((w.alloc o1).alloc o2).alloc o3).heap[w.heap.size + 1 + 1]? = some o3 := fun _ _ _ => heap_new_at _ _ _ (by simp)
  have HG0 := Lib.hid g0
  have HB0 := Lib.hid hb0
  clear g0 hb0
  go_wp2_with fail
  refine (spotsOf_any [p, q] (w.heap.size + 1 + 1) 0 2 _ HRR.out (mks_two (HB0.out _ _ _) (PtAt.grow (HG0.out _ _ _) _ _ HP.out) (PtAt.grow (HG0.out _ _ _) _ _ HQ.out)) (by omega) HSZ.out).mono ?_
  rintro e w1 ⟨X, rfl, S1⟩
  have HG1 := Lib.hid (show w.grownBy w1 none from by
    obtain ⟨V, fo, a, n, k, e1, S, g⟩ := S1
    exact grownBy_trans (HG0.out _ _ _) g)
  have HA := Lib.hid (HALL.out _ w1 X S1)
  clear S1
  go_wp2_with fail
  refine HA.out.mono ?_
  rintro e w2 ⟨rv, rfl, g2, hv⟩
  have HG2 := Lib.hid (grownBy_trans HG1.out g2)
  clear g2
  rcases hv with ⟨hnone, rfl⟩ | ⟨a, c, l, hsome, rfl, hpos, own, _⟩
  · have HN := Lib.hid (show (12 : Int) = r by rw [← HRES.out, if_pos hnone])
    clear hnone
    have he := eqNil_yes w2
    go_wp2_with fail
    go_ret
    exact ⟨by rw [← HN.out]; rfl, HG2.out⟩
  · obtain ⟨g, cap, hv, _, _⟩ := ownsRow_cell own hpos
    have HN := Lib.hid (show (0 : Int) = r by rw [← HRES.out, if_neg (by rw [hsome]; simp)])
    rw [hv]
    clear hsome own hv
    have he := eqNil_no g l.length cap w2
    go_wp2_with fail
    go_ret
    exact ⟨by rw [← HN.out]; rfl, HG2.out⟩
end Go.Proofs.YtplbacfjmajeeaaGreatDoor
namespace Go.Proofs.YtplbacfjmajeeaaGreatDoor
open Go.RowKit Go.Maps

/-- whether some place of a set ends the mark m -/
def fitB (la : List Bool) (ma : List Int) (set : List Nat) (m : Int) : Bool := set.any fun i => la.getD i false && decide (ma.getD i 0 = m)
/-- just one of two marks fits -/
def diffB (la : List Bool) (ma : List Int) (set : List Nat) : Bool := fitB la ma set 0 != fitB la ma set 1
/-- What DifferOf answers, in plain words. -/
def rdiffer (p q : Pt) : List UInt8 × Bool × Int :=
  if p.nul = q.nul then
    match allSets [p, q] with
    | none => ([], false, 12)
    | some R => match R.find? (fun e => diffB (lastsB (lastO [p, q] 0) (leavesL [p, q])) (marksL [p, q] 0) e.set) with
      | none => ([], false, 0)
      | some e => (e.text, true, 0)
  else ([], true, if allSets [p, q] = none then 12 else 0)

theorem fitB_snoc (la : List Bool) (ma : List Int) (set : List Nat) (j : Nat) (h : j < set.length) (m : Int) : fitB la ma (set.take (j + 1)) m = (fitB la ma (set.take j) m || (la.getD set[j] false && decide (ma.getD set[j] 0 = m))) := by
  unfold fitB
  rw [List.take_succ_eq_append_getElem h, List.any_append]
  simp
theorem marks_two (p q : Pt) (i : Nat) (h : i < leavesL [p, q]) : (marksL [p, q] 0).getD i 0 = 0 ∨ (marksL [p, q] 0).getD i 0 = 1 := by
  have hl : (marksL [p, q] 0).length = leavesL [p, q] := by simp [marksL, leavesL]
  have hm : (marksL [p, q] 0)[i]'(by omega) ∈ marksL [p, q] 0 := List.getElem_mem _
  rw [List.getD_eq_getElem?_getD, List.getElem?_eq_getElem (by omega : i < (marksL [p, q] 0).length), Option.getD_some]
  generalize (marksL [p, q] 0)[i]'(by omega) = m at hm
  simp only [marksL, List.mem_append, List.mem_replicate, List.not_mem_nil, or_false] at hm
  rcases hm with ⟨_, h⟩ | ⟨_, h⟩
  · exact .inl (by simpa using h)
  · exact .inr (by simpa using h)
/-- While one set is looked at. -/
def FitW (w2 : World) (gf gb : Nat) (fv tv : Value) (b0 b1 : Bool) (wi : World) : Prop :=
  w2.grownBy wi none ∧ wi.heap[gf]? = some (.cells #[fv, tv] 92 (0, 0)) ∧ ∃ t, wi.heap[gb]? = some (.cells #[.bool b0, .bool b1] t (0, 0))
/-- The two boxed patterns. -/
def Boxes (w wx : World) (x y : Array Value) : Prop := w.grownBy wx none ∧ wx.heap[w.heap.size]? = some (.cells x 28 (0, 0)) ∧ wx.heap[w.heap.size + 1]? = some (.cells y 28 (0, 0))
theorem Boxes.grow {w wx wy : World} {x y : Array Value} (h : Boxes w wx x y) (g : wx.grownBy wy none) : Boxes w wy x y :=
  ⟨grownBy_trans h.1 g, (g.block _ (lt_of_block h.2.1) (by simp)).trans h.2.1, (g.block _ (lt_of_block h.2.2) (by simp)).trans h.2.2⟩
theorem boxes_new (w : World) (x y : Array Value) : Boxes w ((w.alloc (.cells x 28)).alloc (.cells y 28)) x y :=
  ⟨grow_alloc (World.grownBy_alloc _ _ _) _, (Below.heap_alloc _ _ _ (by simp)).trans (heap_alloc_new w _), heap_new_at _ _ _ (by simp)⟩
set_option maxHeartbeats 4000000 in
set_option maxRecDepth 100000 in
theorem differOf_any (p q : Pt) (v u : Value) (w : World) (hall : HallOf [p, q]) (hbd : ∀ R, allSets [p, q] = some R → ∀ e ∈ R, ∀ i ∈ e.set, i < leavesL [p, q]) (hRp : Right p) (hRq : Right q) (hn : leavesL [p, q] ≤ 100) (hs : 2 * sizes [p, q] * 100000000 ≤ 100000000000) (hp : PtAt w p v) (hq : PtAt w q u) :
    Calls Tryz.prog 11 #[v, u] w fun e w' => e = .returned (DifV (rdiffer p q)) ∧ w.grownBy w' none := by
  have HP := Lib.hid hp
  have HQ := Lib.hid hq
  have HALL := Lib.hid hall
  have HSZ := Lib.hid hs
  have HBD := Lib.hid hbd
  have hsz : sizes [p, q] ≤ 1000000 := by
    have h : 2 * sizes [p, q] ≤ 1000 := Nat.le_of_mul_le_mul_right (show 2 * sizes [p, q] * 100000000 ≤ 1000 * 100000000 from hs) (by decide)
    omega
  have HF1 := Lib.hid (fun w' g => fitsOf_z p hRp v w' (by simp only [sizes] at hsz; omega) (PtAt.grow g p v hp))
  have HF2 := Lib.hid (fun w' g => fitsOf_z q hRq u w' (by simp only [sizes] at hsz; omega) (PtAt.grow g q u hq))
  have HDF := Lib.hid (fun w' g => differFault_any p q v u w' hall hRp hRq hn hs (PtAt.grow g p v hp) (PtAt.grow g q u hq))
  have HRR := Lib.hid (show ∀ x ∈ [p, q], Right x from fun x hx => by
    simp only [List.mem_cons, List.not_mem_nil, or_false] at hx
    rcases hx with rfl | rfl
    · exact hRp
    · exact hRq)
  obtain ⟨o1, l1, h1, as1⟩ := p
  obtain ⟨o2, l2, h2, as2⟩ := q
  obtain ⟨av1, cap1, rfl, _⟩ := hp
  obtain ⟨av2, cap2, rfl, _⟩ := hq
  generalize hpe : Pt.mk o1 l1 h1 as1 = p at *
  generalize hqe : Pt.mk o2 l2 h2 as2 = q at *
  clear hpe hqe hs hall hRp hRq hsz hbd
  obtain ⟨r, hr⟩ : ∃ r : List UInt8 × Bool × Int, rdiffer p q = r := ⟨_, rfl⟩
  obtain ⟨df, hdf⟩ : ∃ r : Int, (if allSets [p, q] = none then 12 else 0) = r := ⟨_, rfl⟩
  rw [hr]
  rw [hdf] at HDF
  have HRES := Lib.hid hr
  have HDR := Lib.hid hdf
  clear hr hdf
  have g0 : ∀ o1 o2, w.grownBy ((w.alloc o1).alloc o2) none := fun _ _ => grow_alloc (World.grownBy_alloc _ _ _) _
  have HG0 := Lib.hid g0
  clear g0
  obtain ⟨b1, hb1⟩ : ∃ b, p.nul = b := ⟨_, rfl⟩
  obtain ⟨b2, hb2⟩ : ∃ b, q.nul = b := ⟨_, rfl⟩
  rw [hb1] at HF1
  rw [hb2] at HF2
  have HB1 := Lib.hid hb1
  have HB2 := Lib.hid hb2
  clear hb1 hb2
  go_enter Tryz.func11, Tryz.ntmps11
  go_wp2_with fail
  have HBX := Lib.hid (boxes_new w #[.int .i64 o1, .int .i64 l1, .int .i64 h1, .slice av1 as1.length cap1] #[.int .i64 o2, .int .i64 l2, .int .i64 h2, .slice av2 as2.length cap2])
  generalize ((w.alloc _).alloc _) = w0 at HBX ⊢
  go_cut [18] (fun v wx => ∃ bb : Bool, v = .bool bb ∧ Hid ((b1 != b2) = bb) ∧ Hid (Boxes w wx #[.int .i64 o1, .int .i64 l1, .int .i64 h1, .slice av1 as1.length cap1] #[.int .i64 o2, .int .i64 l2, .int .i64 h2, .slice av2 as2.length cap2]))
  case first =>
    have x0 := cell_of_block HBX.out.2.1 0
    have x1 := cell_of_block HBX.out.2.1 1
    have x2 := cell_of_block HBX.out.2.1 2
    have x3 := cell_of_block HBX.out.2.1 3
    have y0 := cell_of_block HBX.out.2.2 0
    have y1 := cell_of_block HBX.out.2.2 1
    have y2 := cell_of_block HBX.out.2.2 2
    have y3 := cell_of_block HBX.out.2.2 3
    simp only [List.getElem?_toArray, List.getElem?_cons_zero, List.getElem?_cons_succ] at x0 x1 x2 x3 y0 y1 y2 y3
    go_region_law (first | (have tok := g1; go_simp; go_at_call 44; refine (HF2.out _ (by repeat (first | exact HB3.out.1 | apply grow_drew))).mono ?_; rintro e w2 ⟨rfl, g2d⟩; have g2 : w1.grownBy w2 none := (by first | exact g2d | exact grow_undrew g2d | exact grow_undrew (grow_undrew g2d)); have HB4 := Lib.hid (HB3.out.grow g2); clear g2d) | (go_simp; go_at_call 44; refine (HF1.out _ (by repeat (first | exact HBX.out.1 | apply grow_drew))).mono ?_; rintro e w1 ⟨rfl, g1d⟩; have g1 : w0.grownBy w1 none := (by first | exact g1d | exact grow_undrew g1d | exact grow_undrew (grow_undrew g1d)); have HB3 := Lib.hid (HBX.out.grow g1); have z0 := cell_grown y0 g1; have z1 := cell_grown y1 g1; have z2 := cell_grown y2 g1; have z3 := cell_grown y3 g1; clear g1d))
    all_goals (go_wp2_with fail; go_meet)
    all_goals exact ⟨_, rfl, Lib.hid rfl, HB4⟩
  case rest =>
    obtain ⟨bb, rfl, HBB, HBX1⟩ := hcut
    have x0 := cell_of_block HBX1.out.2.1 0
    have x1 := cell_of_block HBX1.out.2.1 1
    have x2 := cell_of_block HBX1.out.2.1 2
    have x3 := cell_of_block HBX1.out.2.1 3
    have y0 := cell_of_block HBX1.out.2.2 0
    have y1 := cell_of_block HBX1.out.2.2 1
    have y2 := cell_of_block HBX1.out.2.2 2
    have y3 := cell_of_block HBX1.out.2.2 3
    simp only [List.getElem?_toArray, List.getElem?_cons_zero, List.getElem?_cons_succ] at x0 x1 x2 x3 y0 y1 y2 y3
    rcases bb with _ | _
    · have hbb : b1 = b2 := by have := HBB.out; simpa using this
      have HR : Hid (r = match allSets [p, q] with | none => ([], false, 12) | some R => match R.find? (fun e => diffB (lastsB (lastO [p, q] 0) (leavesL [p, q])) (marksL [p, q] 0) e.set) with | none => ([], false, 0) | some e => (e.text, true, 0)) := Lib.hid (by rw [← HRES.out]; unfold rdiffer; rw [if_pos (by rw [HB1.out, HB2.out]; exact hbb)])
      clear hbb HRES HDR HDF HF1 HF2 HG0
      have hb0 : ∀ o3, (wc.alloc o3).heap[wc.heap.size]? = some o3 := fun _ => heap_alloc_new _ _
      have HB0 := Lib.hid hb0
      have HWG := Lib.hid HBX1.out.1
      clear hb0
      go_wp2_with fail
      refine (spotsOf_any [p, q] wc.heap.size 0 2 _ HRR.out (mks_two (HB0.out _) (PtAt.grow (grow_alloc HWG.out _) _ _ HP.out) (PtAt.grow (grow_alloc HWG.out _) _ _ HQ.out)) (by omega) HSZ.out).mono ?_
      rintro e w1 ⟨X, rfl, S1⟩
      have HG1 := Lib.hid (show w.grownBy w1 none from by
        obtain ⟨V, fo, a, n, k, e1, S, g⟩ := S1
        exact grownBy_trans (grow_alloc HWG.out _) g)
      have HA := Lib.hid (HALL.out _ w1 X S1)
      have HS1 := Lib.hid (show ∃ w0, SpotRel w0 X [p, q] w1 from ⟨_, S1⟩)
      clear S1 x0 x1 x2 x3 y0 y1 y2 y3
      go_wp2_with fail
      refine HA.out.mono ?_
      rintro e w2 ⟨rv, rfl, g2, hv⟩
      have HG2 := Lib.hid (grownBy_trans HG1.out g2)
      have HGS := Lib.hid g2
      clear g2
      rcases hv with ⟨hnone, rfl⟩ | ⟨a, c, l, hsome, rfl, hpos, own, hset⟩
      · have HN := Lib.hid (show r = ([], false, 12) by rw [HR.out, hnone])
        clear hnone HR
        have he := eqNil_yes w2
        go_wp2_with fail
        go_ret3
        exact ⟨by rw [HN.out]; rfl, HG2.out⟩
      · obtain ⟨g, cap, hv, _, hcl⟩ := ownsRow_cell own hpos
        have hlm : l.length ≤ 9223372036854775807 := by
          rcases own.2 with ⟨_, h⟩ | ⟨_, _, _, _, _, _, h1, h2, _⟩
          · omega
          · unfold maxLen at h2; omega
        have HRl := Lib.hid (show r = match (l.map FE.en).find? (fun e => diffB (lastsB (lastO [p, q] 0) (leavesL [p, q])) (marksL [p, q] 0) e.set) with | none => ([], false, 0) | some e => (e.text, true, 0) by rw [HR.out, hsome])
        rw [hv]
        have HCL := Lib.hid hcl
        have HST := Lib.hid hset
        have HBL := Lib.hid (show ∀ x ∈ l, ∀ i ∈ x.en.set, i < leavesL [p, q] from fun x hx => HBD.out _ hsome x.en (List.mem_map.2 ⟨x, hx, rfl⟩))
        clear hsome own hv HR hcl hset
        have he := eqNil_no g l.length cap w2
        obtain ⟨w00, V, fo, a0, n0, k0, hv0, SP, gsp⟩ := HS1.out
        have HSP := Lib.hid (SP.grow HGS.out)
        clear SP gsp HS1 hv0
        have HLA : Hid ((spD [p, q] fo (lastO [p, q] 0)).la = lastsB (lastO [p, q] 0) (leavesL [p, q])) := Lib.hid rfl
        generalize lastsB (lastO [p, q] 0) (leavesL [p, q]) = la at *
        go_wp2_with fail
        go_loopw [34] (fun ix wr => ∃ k : Nat, k ≤ l.length ∧ ix = .int .i64 k ∧ w2.grownBy wr none ∧ Hid (r = match ((l.drop k).map FE.en).find? (fun e => diffB la (marksL [p, q] 0) e.set) with | none => ([], false, 0) | some e => (e.text, true, 0))) (fun ix _ => l.length - (intOf ix).toNat)
        case atStart => exact ⟨0, Nat.zero_le _, rfl, grow_self _, HRl⟩
        case round =>
          obtain ⟨k, hk, rfl, hg, HK⟩ := hrel
          have HGW := Lib.hid hg
          clear hg
          by_cases hkl : k < l.length
          · obtain ⟨f0, f1⟩ := fcells_get l k hkl
            have z0 := cell_grown (HCL.out _ _ f0) HGW.out
            have z1 := cell_grown (HCL.out _ _ f1) HGW.out
            have hsy := HST.out l[k] (List.getElem_mem hkl)
            have hbl := HBL.out l[k] (List.getElem_mem hkl)
            obtain ⟨ya, yc, hyv⟩ := ownsRow_slice hsy
            have HKK := Lib.hid (show r = if diffB la (marksL [p, q] 0) l[k].en.set = true then (l[k].en.text, true, (0 : Int)) else match ((l.drop (k + 1)).map FE.en).find? (fun e => diffB la (marksL [p, q] 0) e.set) with | none => ([], false, 0) | some e => (e.text, true, 0) by
              rw [HK.out, List.drop_eq_getElem_cons hkl, List.map_cons, List.find?_cons]
              cases diffB la (marksL [p, q] 0) l[k].en.set <;> rfl)
            have HSY := Lib.hid hsy
            have HBY := Lib.hid hbl
            generalize l[k] = y at *
            obtain ⟨yv, ⟨ys, yt⟩⟩ := y
            have hym : ys.length ≤ 9223372036854775807 := by
              rcases HSY.out.2 with ⟨_, h⟩ | ⟨_, _, _, _, _, _, h1, h2, _⟩
              · simp only at h; omega
              · unfold maxLen at h2; simp only at h1; omega
            simp only at hyv
            subst hyv
            clear HK f0 f1 hsy hbl
            obtain ⟨wq, rfl⟩ : ∃ wq : World, wq = wr := ⟨_, rfl⟩
            have hbf : ∀ x y t u, ((wq.alloc (.cells x t)).alloc (.cells y u)).heap[wq.heap.size]? = some (.cells x t (0, 0)) := fun x y t u => (Below.heap_alloc _ _ _ (by simp)).trans (heap_alloc_new wq _)
            have hbg : ∀ x y t u, ((wq.alloc (.cells x t)).alloc (.cells y u)).heap[wq.heap.size + 1]? = some (.cells y u (0, 0)) := fun x y t u => heap_new_at _ _ _ (by simp)
            have HBF := Lib.hid hbf
            have HBG := Lib.hid hbg
            clear hbf hbg
            have hd0 : fitB la (marksL [p, q] 0) (ys.take 0) 0 = false ∧ fitB la (marksL [p, q] 0) (ys.take 0) 1 = false := by simp [fitB]
            have HD0 := Lib.hid hd0
            clear hd0
            go_wp2_with fail
            go_loopw [41] (fun ix wi => ∃ i : Nat, i ≤ ys.length ∧ ix = .int .i64 i ∧ FitW w2 wq.heap.size (wq.heap.size + 1) (.slice ya ys.length yc) (.string ⟨yt.toArray⟩) (fitB la (marksL [p, q] 0) (ys.take i) 0) (fitB la (marksL [p, q] 0) (ys.take i) 1) wi) (fun ix _ => ys.length - (intOf ix).toNat)
            case atStart => exact ⟨0, Nat.zero_le _, rfl, grow_alloc (grow_alloc HGW.out _) _, HBF.out _ _ _ _, _, by rw [HD0.out.1, HD0.out.2]; exact HBG.out _ _ _ _⟩
            case round =>
              obtain ⟨i, hi, rfl, hf⟩ := hrel
              have HF := Lib.hid hf
              clear hf
              by_cases hil : i < ys.length
              · obtain ⟨ca', cc', e1, he⟩ := (HSY.out.ints.grow HF.out.1).elem
                obtain ⟨gs, os, e2, hce⟩ := he i (by rw [natI_len]; exact hil)
                simp only [Value.slice.injEq] at e1
                obtain ⟨rfl, e3, e4⟩ := e1
                clear e3 e4
                subst e2
                have hgd : (natI ys).getD i 0 = ((ys[i] : Nat) : Int) := by simp [natI, List.getD, hil]
                rw [hgd] at hce
                have hin := HBY.out ys[i] (List.getElem_mem hil)
                have HT0 := Lib.hid (fitB_snoc la (marksL [p, q] 0) ys i hil)
                have HM2 := marks_two p q ys[i] hin
                generalize ys[i] = e at *
                have hin2 : e < (spD [p, q] fo (lastO [p, q] 0)).n := by rw [spD_n]; exact hin
                have hl4 : (boolC (spD [p, q] fo (lastO [p, q] 0)).la).length = leavesL [p, q] := by rw [boolC, List.length_map, HSP.out.len.2.2.2, spD_n]
                have hl2 : (intC (spD [p, q] fo (lastO [p, q] 0)).ma).length = leavesL [p, q] := by rw [intC_len, HSP.out.len.2.1, spD_n]
                obtain ⟨gl, cl, hvl, _, hc4⟩ := ownsRow_cell (HSP.out.rows.get (j := 4) rfl) (by show 0 < (boolC (spD [p, q] fo (lastO [p, q] 0)).la).length; omega)
                obtain ⟨gm, cm, hvm, _, hc2⟩ := ownsRow_cell (HSP.out.rows.get (j := 2) rfl) (by show 0 < (intC (spD [p, q] fo (lastO [p, q] 0)).ma).length; omega)
                replace hvl : V.la = .slice (some ⟨gl, 0, none⟩) (boolC (spD [p, q] fo (lastO [p, q] 0)).la).length cl := hvl
                replace hvm : V.ma = .slice (some ⟨gm, 0, none⟩) (intC (spD [p, q] fo (lastO [p, q] 0)).ma).length cm := hvm
                rw [hl4] at hvl
                rw [hl2] at hvm
                have hb4 : (boolC (spD [p, q] fo (lastO [p, q] 0)).la)[e]? = some (.bool (la.getD e false)) := by
                  have hll : e < (boolC (spD [p, q] fo (lastO [p, q] 0)).la).length := by omega
                  rw [HLA.out] at hll ⊢
                  simp only [boolC, List.length_map] at hll
                  simp [boolC, List.getD, hll]
                have hb2 : (intC (spD [p, q] fo (lastO [p, q] 0)).ma)[e]? = some (.int .i64 ((marksL [p, q] 0).getD e 0)) := by
                  have hll : e < (intC (spD [p, q] fo (lastO [p, q] 0)).ma).length := by omega
                  change e < (intC (marksL [p, q] 0)).length at hll
                  show (intC (marksL [p, q] 0))[e]? = _
                  simp only [intC, List.length_map] at hll
                  simp [intC, List.getD, hll]
                have t4 := cell_grown (hc4 e _ hb4) HF.out.1
                have t2 := cell_grown (hc2 e _ hb2) HF.out.1
                have x4 := cell_grown (cell_of_block HSP.out.blk 4) HF.out.1
                have x2 := cell_grown (cell_of_block HSP.out.blk 2) HF.out.1
                replace x4 : wr.cell? ⟨X, 4, none⟩ = some V.la := x4
                replace x2 : wr.cell? ⟨X, 2, none⟩ = some V.ma := x2
                rw [hvl] at x4
                rw [hvm] at x2
                have ei : (0 : Int) ≤ (e : Int) := by omega
                have ej : (e : Int) < (leavesL [p, q] : Int) := by omega
                clear he hgd hl4 hl2 hc4 hc2 hvl hvm hb4 hb2 z0 z1
                generalize la.getD e false = lb at *
                generalize (marksL [p, q] 0).getD e 0 = mk at *
                generalize leavesL [p, q] = N at *
                obtain ⟨h1, h2, t, h3⟩ := HF.out
                rcases lb with _ | _
                · have HF2 : Hid (FitW w2 wq.heap.size (wq.heap.size + 1) (.slice (some ⟨gs, os, none⟩) ys.length yc) (.string ⟨yt.toArray⟩) (fitB la (marksL [p, q] 0) (ys.take (i + 1)) 0) (fitB la (marksL [p, q] 0) (ys.take (i + 1)) 1) wr) := Lib.hid ⟨h1, h2, t, by rw [h3, HT0.out 0, HT0.out 1]; simp⟩
                  clear h1 h2 h3 HT0
                  go_wp2_with fail
                  exact ⟨⟨i + 1, by omega, by simp, HF2.out⟩, by simp [intOf]; omega⟩
                · have v0 := cell_of_block h3 0
                  have v1 := cell_of_block h3 1
                  have fz := free_of_block h3
                  simp only [List.getElem?_toArray, List.getElem?_cons_zero, List.getElem?_cons_succ] at v0 v1
                  have hsz : w2.heap.size ≤ wq.heap.size + 1 := by have := HGW.out.size; omega
                  rcases HM2 with rfl | rfl
                  · have HF2 : Hid (FitW w2 wq.heap.size (wq.heap.size + 1) (.slice (some ⟨gs, os, none⟩) ys.length yc) (.string ⟨yt.toArray⟩) (fitB la (marksL [p, q] 0) (ys.take (i + 1)) 0) (fitB la (marksL [p, q] 0) (ys.take (i + 1)) 1) (wr.setCell ⟨wq.heap.size + 1, 0, none⟩ (.bool true))) := Lib.hid ⟨grow_setCell h1 _ _ hsz, (Below.heap_setCell _ _ _ _ (by simp)).trans h2, t, by rw [heap_setCell_self h3, HT0.out 0, HT0.out 1]; simp⟩
                    clear h1 h2 h3 HT0
                    go_wp2_with fail
                    exact ⟨⟨i + 1, by omega, by simp, HF2.out⟩, by simp [intOf]; omega⟩
                  · have HF2 : Hid (FitW w2 wq.heap.size (wq.heap.size + 1) (.slice (some ⟨gs, os, none⟩) ys.length yc) (.string ⟨yt.toArray⟩) (fitB la (marksL [p, q] 0) (ys.take (i + 1)) 0) (fitB la (marksL [p, q] 0) (ys.take (i + 1)) 1) (wr.setCell ⟨wq.heap.size + 1, 1, none⟩ (.bool true))) := Lib.hid ⟨grow_setCell h1 _ _ hsz, (Below.heap_setCell _ _ _ _ (by simp)).trans h2, t, by rw [heap_setCell_self h3, HT0.out 0, HT0.out 1]; simp⟩
                    clear h1 h2 h3 HT0
                    go_wp2_with fail
                    exact ⟨⟨i + 1, by omega, by simp, HF2.out⟩, by simp [intOf]; omega⟩
              · have HE := Lib.hid (show ys.take i = ys by rw [List.take_of_length_le (by omega)])
                rw [HE.out] at HF
                have HDD := Lib.hid (show diffB la (marksL [p, q] 0) ys = (fitB la (marksL [p, q] 0) ys 0 != fitB la (marksL [p, q] 0) ys 1) from rfl)
                generalize fitB la (marksL [p, q] 0) ys 0 = c0 at *
                generalize fitB la (marksL [p, q] 0) ys 1 = c1 at *
                obtain ⟨h1, h2, t, h3⟩ := HF.out
                have v0 := cell_of_block h3 0
                have v1 := cell_of_block h3 1
                have v2 := cell_of_block h2 1
                simp only [List.getElem?_toArray, List.getElem?_cons_zero, List.getElem?_cons_succ] at v0 v1 v2
                have H1 := Lib.hid h1
                clear h1 h2 h3 z0 z1 HF
                rcases hcc : (c0 != c1) with _ | _
                · have hcc2 : c0 = c1 := by simpa using hcc
                  subst hcc2
                  have HK2 : Hid (r = match ((l.drop (k + 1)).map FE.en).find? (fun e => diffB la (marksL [p, q] 0) e.set) with | none => ([], false, 0) | some e => (e.text, true, 0)) := Lib.hid (by
                    rw [HKK.out]
                    rw [if_neg (by rw [HDD.out]; simp)])
                  clear HKK HDD hcc
                  cases c0
                  all_goals
                    go_wp2_with fail
                    go_roundw
                    case rel => exact ⟨k + 1, by omega, by go_num, H1.out, HK2⟩
                    case measure => simp [intOf]; omega
                · have HN := Lib.hid (show r = (yt, true, 0) by
                    rw [HKK.out]
                    rw [if_pos (by rw [HDD.out]; exact hcc)])
                  clear HKK HDD
                  cases c0 <;> cases c1
                  · exact absurd hcc (by decide)
                  · clear hcc
                    go_wp2_with fail
                    go_ret3
                    exact ⟨by rw [HN.out]; rfl, grownBy_trans HG2.out H1.out⟩
                  · clear hcc
                    go_wp2_with fail
                    go_ret3
                    exact ⟨by rw [HN.out]; rfl, grownBy_trans HG2.out H1.out⟩
                  · exact absurd hcc (by decide)
          · have HN := Lib.hid (show r = ([], false, 0) by rw [HK.out, List.drop_eq_nil_of_le (by omega)]; rfl)
            clear HK
            go_wp2_with fail
            go_ret3
            exact ⟨by rw [HN.out]; rfl, grownBy_trans HG2.out HGW.out⟩
    · have hbb : ¬ b1 = b2 := by have := HBB.out; simpa using this
      have HN := Lib.hid (show r = ([], true, df) by
        rw [← HRES.out]
        unfold rdiffer
        rw [if_neg (by rw [HB1.out, HB2.out]; exact hbb), HDR.out])
      have HD2 := Lib.hid (HDF.out wc HBX1.out.1)
      have HWG := Lib.hid HBX1.out.1
      clear hbb HRES HDR HDF HF1 HF2 HG0
      go_wp2_with fail
      refine HD2.out.mono ?_
      rintro e w1 ⟨rfl, g1⟩
      have HG1 := Lib.hid (grownBy_trans HWG.out g1)
      clear g1
      go_wp2_with fail
      go_ret3
      exact ⟨by rw [HN.out]; rfl, HG1.out⟩
end Go.Proofs.YtplbacfjmajeeaaGreatDoor
namespace Go.Proofs.YtplbacfjmajeeaaGreatDoor
open Go.RowKit Go.Maps

def Bnd (n : Nat) (L : List En) : Prop := ∀ e ∈ L, ∀ i ∈ e.set, i < n
theorem expand_bnd (B : List (Int × Int)) (can : List Nat) (text : List UInt8) (n : Nat) (hc : ∀ i ∈ can, i < n) (cs : List Nat) : ∀ L, Bnd n L → Bnd n (expand B can text cs L) := by
  induction cs with
  | nil => intro L h; exact h
  | cons c cs ih =>
    intro L h
    rw [expand]
    refine ih _ ?_
    split
    · exact h
    · intro e he i hi
      rcases List.mem_append.1 he with he | he
      · exact h e he i hi
      · simp only [List.mem_singleton] at he
        subst he
        exact hc i (List.mem_filter.1 hi).1
theorem canAt_bnd (ps : List Pt) (L : List En) (i : Nat) : ∀ k ∈ canAt ps L i, k < leavesL ps := by
  intro k hk
  unfold canAt at hk
  split at hk
  · exact firstO_in ps k hk
  · have := (opnO_bd _ ps 0 false).1 k hk
    omega
theorem bfs_bnd (ps : List Pt) (most : Nat) : ∀ f i L R, Bnd (leavesL ps) L → bfs ps most f i L = some R → Bnd (leavesL ps) R := by
  intro f
  induction f with
  | zero => intro i L R _ h; cases h
  | succ f ih =>
    intro i L R hL h
    rw [bfs] at h
    split at h
    · simp only [Option.some.injEq] at h; subst h; exact hL
    · split at h
      · cases h
      · exact ih _ _ _ (expand_bnd _ _ _ _ (canAt_bnd ps L i) _ _ hL) h
theorem allSets_bnd (ps : List Pt) (R : List En) (h : allSets ps = some R) : ∀ e ∈ R, ∀ i ∈ e.set, i < leavesL ps :=
  bfs_bnd ps 3000 3002 0 [] R (fun e he => by cases he) h
theorem differOf_all (p q : Pt) (v u : Value) (w : World) (hRp : Right p) (hRq : Right q) (hn : leavesL [p, q] ≤ 100) (hs : 2 * sizes [p, q] * 100000000 ≤ 100000000000) (hp : PtAt w p v) (hq : PtAt w q u) :
    Calls Tryz.prog 11 #[v, u] w fun e w' => e = .returned (DifV (rdiffer p q)) ∧ w.grownBy w' none :=
  differOf_any p q v u w (fun w0 w X S => all_spots [p, q] w0 w X S hn) (fun R h => allSets_bnd [p, q] R h) hRp hRq hn hs hp hq
end Go.Proofs.YtplbacfjmajeeaaGreatDoor
namespace Go.Proofs.YtplbacfjmajeeaaGreatDoor
open Go.RowKit Go.Maps

theorem oneFit_two (A : Nat → Bool) (st : Bool) (p q : Pt) : oneFit (fitsL A st [p, q] 0 0) = ((p.dn A 0 || st && p.nul) != (q.dn A p.leaves || st && q.nul)) := by
  simp only [fitsL, Nat.zero_add, oneFit]
  cases (p.dn A 0 || st && p.nul) <;> cases (q.dn A p.leaves || st && q.nul) <;> simp
theorem fits_start (p q : Pt) (L : List En) : oneFit (fitsAt [p, q] L 0) = (p.nul != q.nul) := by
  have hA : (fun k => (maskAt L 0).testBit k) = fun _ => false := by funext k; simp [maskAt]
  show oneFit (fitsL (fun k => (maskAt L 0).testBit k) (decide (0 = 0)) [p, q] 0 0) = _
  rw [hA, oneFit_two, dn_none, dn_none]
  simp
theorem lastsB_get (L : List Nat) (n i : Nat) (h : i < n) : (lastsB L n).getD i false = decide (i ∈ L) := by
  simp [lastsB, List.getD_eq_getElem?_getD, h]
theorem fit_p (p q : Pt) (set : List Nat) (hs : ∀ i ∈ set, i < leavesL [p, q]) : fitB (lastsB (lastO [p, q] 0) (leavesL [p, q])) (marksL [p, q] 0) set 0 = (p.last 0).any fun k => decide (k ∈ set) := by
  have hn : leavesL [p, q] = p.leaves + q.leaves := by simp [leavesL]
  rw [Bool.eq_iff_iff]
  simp only [fitB, List.any_eq_true, Bool.and_eq_true, decide_eq_true_eq]
  constructor
  · rintro ⟨i, h1, h2, h3⟩
    have hi := hs i h1
    rw [lastsB_get _ _ _ hi] at h2
    simp only [lastO, List.append_nil, List.mem_append, decide_eq_true_eq, Nat.zero_add] at h2
    rcases h2 with h2 | h2
    · exact ⟨i, h2, h1⟩
    · have hb := last_bd q p.leaves i h2
      rw [List.getD_eq_getElem?_getD, marksL, List.getElem?_append_right (by simp; omega)] at h3
      simp only [marksL, List.append_nil, List.length_replicate, List.getElem?_replicate] at h3
      rw [if_pos (by omega)] at h3
      simp at h3
  · rintro ⟨i, h1, h2⟩
    have hb := last_bd p 0 i h1
    refine ⟨i, h2, ?_, ?_⟩
    · rw [lastsB_get _ _ _ (hs i h2)]
      simp [lastO, h1]
    · rw [List.getD_eq_getElem?_getD, marksL, List.getElem?_append_left (by simp; omega), List.getElem?_replicate, if_pos (by omega)]
      rfl
theorem fit_q (p q : Pt) (set : List Nat) (hs : ∀ i ∈ set, i < leavesL [p, q]) : fitB (lastsB (lastO [p, q] 0) (leavesL [p, q])) (marksL [p, q] 0) set 1 = (q.last p.leaves).any fun k => decide (k ∈ set) := by
  have hn : leavesL [p, q] = p.leaves + q.leaves := by simp [leavesL]
  rw [Bool.eq_iff_iff]
  simp only [fitB, List.any_eq_true, Bool.and_eq_true, decide_eq_true_eq]
  constructor
  · rintro ⟨i, h1, h2, h3⟩
    have hi := hs i h1
    rw [lastsB_get _ _ _ hi] at h2
    simp only [lastO, List.append_nil, List.mem_append, decide_eq_true_eq, Nat.zero_add] at h2
    rcases h2 with h2 | h2
    · have hb := last_bd p 0 i h2
      rw [List.getD_eq_getElem?_getD, marksL, List.getElem?_append_left (by simp; omega), List.getElem?_replicate, if_pos (by omega)] at h3
      simp at h3
    · exact ⟨i, h2, h1⟩
  · rintro ⟨i, h1, h2⟩
    have hb := last_bd q p.leaves i h1
    refine ⟨i, h2, ?_, ?_⟩
    · rw [lastsB_get _ _ _ (hs i h2)]
      simp [lastO, h1]
    · rw [List.getD_eq_getElem?_getD, marksL, List.getElem?_append_right (by simp; omega)]
      simp only [marksL, List.append_nil, List.length_replicate, List.getElem?_replicate]
      rw [if_pos (by omega)]
      rfl
theorem fits_next (p q : Pt) (L : List En) (k : Nat) (hk : k < L.length) (hb : ∀ i ∈ L[k].set, i < leavesL [p, q]) : oneFit (fitsAt [p, q] L (k + 1)) = diffB (lastsB (lastO [p, q] 0) (leavesL [p, q])) (marksL [p, q] 0) L[k].set := by
  have hA : (fun j => (maskAt L (k + 1)).testBit j) = fun j => decide (j ∈ L[k].set) := by
    funext j
    simp only [maskAt]
    rw [testBit_maskOf, List.getD_eq_getElem?_getD, List.getElem?_eq_getElem hk]
    rfl
  show oneFit (fitsL (fun j => (maskAt L (k + 1)).testBit j) (decide (k + 1 = 0)) [p, q] 0 0) = _
  rw [hA, oneFit_two, dn_last, dn_last, diffB, fit_p p q _ hb, fit_q p q _ hb]
  simp
theorem glue_some (p q : Pt) (L : List En) (hb : ∀ e ∈ L, ∀ i ∈ e.set, i < leavesL [p, q]) :
    (if idxF oneFit (fitsAt [p, q] L) 0 (L.length + 1) = -1 then (([] : List UInt8), false, (0 : Int)) else (textAt L (idxF oneFit (fitsAt [p, q] L) 0 (L.length + 1)).toNat, true, 0)) =
    (if p.nul = q.nul then (match L.find? (fun e => diffB (lastsB (lastO [p, q] 0) (leavesL [p, q])) (marksL [p, q] 0) e.set) with | none => (([] : List UInt8), false, (0 : Int)) | some e => (e.text, true, 0)) else ([], true, 0)) := by
  have hnx : ∀ k (hk : k < L.length), oneFit (fitsAt [p, q] L (k + 1)) = diffB (lastsB (lastO [p, q] 0) (leavesL [p, q])) (marksL [p, q] 0) L[k].set := fun k hk => fits_next p q L k hk (hb _ (List.getElem_mem hk))
  rcases idxF_cases oneFit (fitsAt [p, q] L) (L.length + 1) 0 with ⟨h1, h2⟩ | ⟨k, _, h2, h3, h4, h5⟩
  · rw [if_pos h1]
    have h0 := h2 0 (Nat.le_refl _) (by omega)
    rw [fits_start] at h0
    rw [if_pos (by simpa using h0)]
    have hf : L.find? (fun e => diffB (lastsB (lastO [p, q] 0) (leavesL [p, q])) (marksL [p, q] 0) e.set) = none := by
      rw [List.find?_eq_none]
      intro e he
      obtain ⟨k, hk, rfl⟩ := List.getElem_of_mem he
      rw [← hnx k hk, h2 (k + 1) (by omega) (by omega)]
      simp
    rw [hf]
  · rw [h3, if_neg (by omega), Int.toNat_natCast]
    cases k with
    | zero =>
      rw [fits_start] at h4
      rw [if_neg (by simpa using h4)]
      rfl
    | succ k =>
      have hk : k < L.length := by omega
      have h0 := h5 0 (by omega) (by omega)
      rw [fits_start] at h0
      rw [if_pos (by simpa using h0)]
      have hf : L.find? (fun e => diffB (lastsB (lastO [p, q] 0) (leavesL [p, q])) (marksL [p, q] 0) e.set) = some L[k] := by
        rw [List.find?_eq_some_iff_getElem]
        refine ⟨by rw [← hnx k hk]; exact h4, k, hk, rfl, fun j hj => ?_⟩
        rw [← hnx j (by omega), h5 (j + 1) (by omega) (by omega)]
        rfl
      rw [hf]
      simp only [textAt, Nat.add_one_ne_zero, if_false, Nat.add_one_sub_one]
      rw [List.getD_eq_getElem?_getD, List.getElem?_eq_getElem hk]
      rfl
/-- Where both are right, Differ answers as DifferOf, but for what stands beside a fault. -/
theorem glue (p q : Pt) (h1 : patFault p = 0) (h2 : patFault q = 0) : differ p q = if (rdiffer p q).2.2 = 0 then rdiffer p q else ([], false, (rdiffer p q).2.2) := by
  unfold differ
  rw [if_neg (by simp [h1]), if_neg (by simp [h2])]
  unfold rdiffer
  have hb := allSets_bnd [p, q]
  generalize allSets [p, q] = S at *
  cases S with
  | none =>
    by_cases hn : p.nul = q.nul
    · simp only [if_pos hn]; rfl
    · simp only [if_neg hn]; rfl
  | some L =>
    have hg := glue_some p q L (hb L rfl)
    simp only [reduceCtorEq, if_false]
    rw [hg]
    by_cases hn : p.nul = q.nul
    · simp only [if_pos hn]
      cases L.find? (fun e => diffB (lastsB (lastO [p, q] 0) (leavesL [p, q])) (marksL [p, q] 0) e.set) <;> rfl
    · simp only [if_neg hn]; rfl
end Go.Proofs.YtplbacfjmajeeaaGreatDoor
namespace Go.Proofs.YtplbacfjmajeeaaGreatDoor
open Go.RowKit Go.Maps

/-- the first error of some -/
def errV : List Int → Int
  | [] => 0
  | e :: l => if e = 0 then errV l else e
set_option maxHeartbeats 1000000 in
theorem errs_any (es : List Int) (v : Value) (w : World) (h : Ints w v es) (hl : es.length ≤ 1000000) : Calls Tryz.prog 9 #[v] w fun e w' => e = .returned (.int .i64 (errV es)) ∧ w = w' := by
  have HI := Lib.hid h
  obtain ⟨a, c, rfl, _⟩ := h
  obtain ⟨r, hr⟩ : ∃ r, errV es = r := ⟨_, rfl⟩
  rw [hr]
  have HR := Lib.hid hr
  clear hr
  go_enter Tryz.func9, Tryz.ntmps9
  go_wp2_with fail
  go_loopw [7] (fun ix wr => ∃ j : Nat, j ≤ es.length ∧ ix = .int .i64 j ∧ w = wr ∧ Hid (errV (es.drop j) = r)) (fun ix _ => es.length - (intOf ix).toNat)
  case atStart => exact ⟨0, Nat.zero_le _, rfl, rfl, HR⟩
  case round =>
    obtain ⟨j, hj, rfl, rfl, HE⟩ := hrel
    by_cases hlt : j < es.length
    · obtain ⟨ca', cc', e1, he⟩ := HI.out.elem
      obtain ⟨g1, o1, e2, hce⟩ := he j hlt
      simp only [Value.slice.injEq] at e1
      obtain ⟨rfl, e3, e4⟩ := e1
      clear e3 e4
      subst e2
      rw [show es.getD j 0 = es[j] by simp [List.getD, hlt]] at hce
      have HD := Lib.hid (show (if es[j] = 0 then errV (es.drop (j + 1)) else es[j]) = r by rw [← HE.out, List.drop_eq_getElem_cons hlt, errV])
      generalize es[j] = x at *
      clear he HE HR
      by_cases hx : x = 0
      · have HE2 : Hid (errV (es.drop (j + 1)) = r) := Lib.hid (by rw [← HD.out, if_pos hx])
        subst hx
        clear HD
        go_wp2_with fail
        go_roundw
        case rel => exact ⟨j + 1, by omega, by go_num, trivial, HE2⟩
        case measure => simp [intOf]; omega
      · have HE2 : Hid (x = r) := Lib.hid (by rw [← HD.out, if_neg hx])
        clear HD
        go_wp2_with fail
        go_ret
        exact ⟨by rw [← HE2.out]; rfl, rfl⟩
    · have HE2 : Hid (0 = r) := Lib.hid (by rw [← HE.out, List.drop_eq_nil_of_le (by omega)]; rfl)
      clear HE HR
      go_wp2_with fail
      go_ret
      exact ⟨by rw [← HE2.out]; rfl, rfl⟩

end Go.Proofs.YtplbacfjmajeeaaGreatDoor
