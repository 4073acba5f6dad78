/- Package edit's reference: past. -/
import Derived.Test.YtajigndlcdiinaaCSa
import Derived.Test.YtajigndlcdiinaaCG2
import Derived.Test.YtajigndlcdiinaaCI0
namespace Go.Proofs.Ytajigndlcdiinaa
open Go.RowKit

/-- What past's first loop leaves alone. -/
def P1q (G N : Nat) (k : Nat) (_ : Option Obj) : Prop := k ≠ G ∧ k < N
def L1q (W : World) (G nn : Nat) (o : Int → Int) (gl : List Let) (j : Nat) (ov : Value) (wr : World) : Prop :=
  ∃ ys : List Int, wr.ownsRow W.heap.size 3 1 ov (ownIdx 0 (gl.take j)).length (intCells (ownIdx 0 (gl.take j))) ∧ wr.heap[G]? = some (.cells (intCells ys).toArray 3 (0, 0)) ∧ ys.length = nn ∧ (∀ i (h : i < ys.length), ys[i] = oldF o 0 (gl.take j) i) ∧ Frm (P1q G W.heap.size) W wr
theorem L1q.start {W : World} {G nn : Nat} {gl : List Let} {xs : List Int} (hG : W.heap[G]? = some (.cells (intCells xs).toArray 3 (0, 0))) (hl : xs.length = nn) : L1q W G nn (fun i => xs.getD i.toNat 0) gl 0 (.slice none 0 0) W :=
  ⟨xs, World.ownsRow_nil _ _ _ _, hG, hl, fun i h => by simp [oldF, h], Frm.refl _ _⟩
theorem L1q.old {W : World} {G nn : Nat} {o : Int → Int} {gl : List Let} {j : Nat} {ov : Value} {wr : World} (h : L1q W G nn o gl j ov wr) (hj : j < gl.length) (hGW : G < W.heap.size) (p : Nat) (_ : p < nn) (hx : gl[j].1 = (p : Int)) (o1 : Obj) :
    L1q W G nn o gl (j + 1) ov ((wr.alloc o1).setCell ⟨G, p, none⟩ (.int .i64 (j : Int))) := by
  obtain ⟨ys, h1, h2, h3, h4, h5⟩ := h
  have h2' := (Below.heap_alloc wr o1 G (lt_of_block h2)).trans h2
  refine ⟨ys.set p (j : Int), ?_, ?_, by simpa using h3, fun i hi => ?_, (h5.alloc o1).setCell _ _ (fun h => h.1 rfl)⟩
  · rw [ownIdx_take gl j hj, if_neg (by omega), List.append_nil]
    exact ownsRow_setCell_other (h1.alloc o1) (fun e => by have := (ownsRow_block h1 _ e).1; simp only at this; omega) _
  · rw [heap_setCell_self h2' p _]
    congr 2
    simp [intCells, List.map_set]
  · rw [oldF_take gl o j hj, if_neg (by omega), hx]
    simp only [List.length_set] at hi
    rw [List.getElem_set]
    by_cases e : p = i
    · subst e; rw [if_pos rfl, if_pos rfl]
    · rw [if_neg e, if_neg (by omega)]; exact h4 i hi

theorem L1q.new {W : World} {G nn : Nat} {o : Int → Int} {gl : List Let} {j : Nat} {ov : Value} {wr : World} (h : L1q W G nn o gl j ov wr) (hj : j < gl.length) (hGW : G < W.heap.size) (hx : gl[j].1 < 0) (o1 o2 : Obj) {v' : Value} {w2 : World}
    (hown : w2.ownsRow W.heap.size 3 1 v' ((ownIdx 0 (gl.take j)).length + 1) (intCells (ownIdx 0 (gl.take j)) ++ [.int .i64 (j : Int)])) (hgrow : ((wr.alloc o1).alloc o2).grownBy w2 ov.ownBlock) : L1q W G nn o gl (j + 1) v' w2 := by
  obtain ⟨ys, h1, h2, h3, h4, h5⟩ := h
  have h2' : ((wr.alloc o1).alloc o2).heap[G]? = some (.cells (intCells ys).toArray 3 (0, 0)) := (Below.heap_alloc _ o2 G (by have := lt_of_block h2; simp; omega)).trans ((Below.heap_alloc wr o1 G (lt_of_block h2)).trans h2)
  have hno : ov.ownBlock ≠ some G := fun e => by have := (ownsRow_block h1 _ e).1; omega
  refine ⟨ys, ?_, (hgrow.block G (lt_of_block h2') (fun e => hno e.symm)).trans h2', h3, fun i hi => ?_, ((h5.alloc o1).alloc o2).grown hgrow (fun k hk hp => by have := (ownsRow_block h1 _ hk).1; have := hp.2; omega)⟩
  · rw [ownIdx_take gl j hj, if_pos hx]
    have e : (ownIdx 0 (gl.take j) ++ [(j : Int)]).length = (ownIdx 0 (gl.take j)).length + 1 := by simp
    rw [e]
    simpa [intCells] using hown
  · rw [oldF_take gl o j hj, if_pos hx]; exact h4 i hi

theorem ownIdx_le : ∀ (l : List Let) (q : Int), (ownIdx q l).length ≤ l.length
  | [], _ => Nat.le_refl _
  | x :: l, q => by
    have := ownIdx_le l (q + 1)
    rw [ownIdx]
    split
    · simp; omega
    · simp; omega

def L2q (W : World) (gn : Int) (L : List (Let × Bool)) (old : Int → Int) (own : List Int) (j : Nat) (ov : Value) (wr : World) : Prop :=
  ∃ sv cap rem outL v, ov = .slice sv rem.length cap ∧ rem.length ≤ cap ∧ Ixs W sv rem ∧ wr.heap[W.heap.size]? = some (.cells #[.int .i64 gn, v] 85 (0, 0)) ∧ wr.ownsRow (W.heap.size + 1) 88 2 v outL.length (letCells outL) ∧ W.grownBy wr none ∧
    pastGo old own L = outL ++ pastGo old rem (L.drop j) ∧ (outL.length = j ∧ ∀ x ∈ outL, x.1 ≤ 100000) ∧ cntT (L.drop j) ≤ rem.length ∧ ∀ x ∈ rem, x ≤ 100000

/-- Behind the switch: the letter that is put out, in its box X. -/
def SwP (W : World) (gn : Int) (L : List (Let × Bool)) (old : Int → Int) (rem0 : List Int) (outL : List Let) (v : Value) (X j : Nat) (x2 : UInt8) (ov : Value) (wx : World) : Prop :=
  ∃ (y1 : Int) (sv : Option Addr) (cap : Nat) (rem : List Int), ov = .slice sv rem.length cap ∧ rem.length ≤ cap ∧ Ixs W sv rem ∧ wx.heap[X]? = some (.cells #[.int .i64 y1, .int .u8 x2.toNat] 88 (0, 0)) ∧ wx.heap[W.heap.size]? = some (.cells #[.int .i64 gn, v] 85 (0, 0)) ∧
    wx.ownsRow (W.heap.size + 1) 88 2 v outL.length (letCells outL) ∧ W.grownBy wx none ∧ pastGo old rem0 (L.drop j) = (y1, x2) :: pastGo old rem (L.drop (j + 1)) ∧ y1 ≤ 100000 ∧ cntT (L.drop (j + 1)) ≤ rem.length ∧ ∀ x ∈ rem, x ≤ 100000
theorem SwP.step {W : World} {gn : Int} {L : List (Let × Bool)} {old : Int → Int} {own : List Int} {outL : List Let} {v v' : Value} {wx w2 : World} {j m : Nat} {y1 : Int} {x2 : UInt8} {rem rem0 : List Int} {sv : Option Addr} {cap : Nat} (o : Obj) (hm : m = outL.length + 1)
    (hcap : rem.length ≤ cap) (hix : Ixs W sv rem) (hF : wx.heap[W.heap.size]? = some (.cells #[.int .i64 gn, v] 85 (0, 0))) (hown : wx.ownsRow (W.heap.size + 1) 88 2 v outL.length (letCells outL)) (hg : W.grownBy wx none)
    (h0 : pastGo old own L = outL ++ pastGo old rem0 (L.drop j)) (hl : outL.length = j) (hb : ∀ x ∈ outL, x.1 ≤ 100000) (hp : pastGo old rem0 (L.drop j) = (y1, x2) :: pastGo old rem (L.drop (j + 1))) (hy : y1 ≤ 100000) (hc : cntT (L.drop (j + 1)) ≤ rem.length) (hr : ∀ x ∈ rem, x ≤ 100000)
    (hown' : w2.ownsRow (W.heap.size + 1) 88 2 v' m (letCells outL ++ [.int .i64 y1, .int .u8 x2.toNat])) (hgrow : (wx.alloc o).grownBy w2 v.ownBlock) :
    w2.heap[W.heap.size]? = some (.cells #[.int .i64 gn, v] 85 (0, 0)) ∧ L2q W gn L old own (j + 1) (.slice sv rem.length cap) (w2.setCell ⟨W.heap.size, 1, none⟩ v') := by
  subst hm
  have hF2 := grown_block (hown.alloc o) hgrow ((Below.heap_alloc wx o _ (lt_of_block hF)).trans hF) (by decide)
  refine ⟨hF2, sv, cap, rem, outL ++ [(y1, x2)], v', rfl, hcap, hix, heap_setCell_self hF2 1 v', ?_, ?_, ?_, ⟨by simp; omega, fun x hx => ?_⟩, hc, hr⟩
  · rw [letCells_snoc, List.length_append]
    exact ownsRow_setCell_block hown' hF2 (by decide) 1 v'
  · exact grow_setCell (grow_row (grow_alloc hg o) hgrow (fun k hk => by have := (ownsRow_block hown k hk).1; omega)) _ _ (Nat.le_refl _)
  · rw [h0, hp]; simp
  · rcases List.mem_append.1 hx with hx | hx
    · exact hb x hx
    · rw [List.mem_singleton.1 hx]; exact hy

/-- The switch writes a place into the box. -/
theorem SwP.set {W : World} {gn : Int} {L : List (Let × Bool)} {old : Int → Int} {rem0 rem : List Int} {outL : List Let} {v : Value} {X j : Nat} {x1 : Int} {x2 : UInt8} {wy : World} (y1 : Int) {sv : Option Addr} {cap : Nat} (hcap : rem.length ≤ cap) (hix : Ixs W sv rem)
    (hX : wy.heap[X]? = some (.cells #[.int .i64 x1, .int .u8 x2.toNat] 88 (0, 0))) (hWX : W.heap.size < X) (hnX : v.ownBlock ≠ some X) (hF : wy.heap[W.heap.size]? = some (.cells #[.int .i64 gn, v] 85 (0, 0)))
    (hown : wy.ownsRow (W.heap.size + 1) 88 2 v outL.length (letCells outL)) (hg : W.grownBy wy none) (hp : pastGo old rem0 (L.drop j) = (y1, x2) :: pastGo old rem (L.drop (j + 1))) (hy : y1 ≤ 100000) (hc : cntT (L.drop (j + 1)) ≤ rem.length) (hr : ∀ x ∈ rem, x ≤ 100000) :
    SwP W gn L old rem0 outL v X j x2 (.slice sv rem.length cap) (wy.setCell ⟨X, 0, none⟩ (.int .i64 y1)) :=
  ⟨y1, sv, cap, rem, rfl, hcap, hix, heap_setCell_self hX 0 _, (Below.heap_setCell _ _ _ _ (by simp; omega)).trans hF, ownsRow_setCell_other hown hnX _, grow_setCell hg _ _ (Nat.le_of_lt hWX), hp, hy, hc, hr⟩
theorem pastGo_kept (old : Int → Int) (own : List Int) (x : Let) (b : Bool) (r : List (Let × Bool)) (h : 0 ≤ x.1) : pastGo old own ((x, b) :: r) = (old x.1, x.2) :: pastGo old own r := by rw [pastGo, if_pos h]
theorem pastGo_mine (old : Int → Int) (q : Int) (own : List Int) (x : Let) (r : List (Let × Bool)) (h : ¬ 0 ≤ x.1) : pastGo old (q :: own) ((x, true) :: r) = (q, x.2) :: pastGo old own r := by rw [pastGo, if_neg h, if_pos rfl]; rfl
theorem pastGo_their (old : Int → Int) (own : List Int) (x : Let) (r : List (Let × Bool)) (h : ¬ 0 ≤ x.1) : pastGo old own ((x, false) :: r) = x :: pastGo old own r := by rw [pastGo, if_neg h, if_neg (by decide)]
theorem cntT_step {x : Let} {b : Bool} {r : List (Let × Bool)} {n : Nat} (h : cntT ((x, b) :: r) ≤ n) : cntT r ≤ n := by rw [cntT_cons] at h; omega
theorem cntT_mine {x : Let} {r : List (Let × Bool)} {n : Nat} (h : cntT ((x, true) :: r) ≤ n) (hx : ¬ 0 ≤ x.1) : ∃ m, n = m + 1 ∧ cntT r ≤ m := by
  rw [cntT_cons, if_pos (by simp; omega)] at h
  exact ⟨n - 1, by omega, by omega⟩

set_option maxHeartbeats 8000000 in
set_option maxRecDepth 100000 in
theorem pastR_any (nn : Nat) (a : Option Addr) (ca : Nat) (A : List Ed) (L : List (Let × Bool)) (fv bv : Value) (b1 b2 : Nat) (w : World) (h : changeFault nn A = 0) (hE : Eds w a A) (hl : L.length ≤ 100000)
    (hf : w.ownsRow b1 88 2 fv (L.map (·.1)).length (letCells (L.map (·.1)))) (hb : w.ownsRow b2 4 1 bv (L.map (·.2)).length (blC (L.map (·.2)))) (hI : ∀ x ∈ L, x.1.1 < nn) (hc : cntT L ≤ (ownIdx 0 (flowL A nn)).length) :
    Calls Try.prog 74 #[.int .i64 nn, .slice a A.length ca, .agg #[.int .i64 nn, fv], bv] w (fun e w' => ∃ o, EditsPost (editsOf (flowL A nn).length (pastGo (oldF o 0 (flowL A nn)) (ownIdx 0 (flowL A nn)) L)) w e w') := by
  obtain ⟨PP, hPP⟩ : ∃ PP : Ending → World → Prop, (fun e w' => ∃ o, EditsPost (editsOf (flowL A nn).length (pastGo (oldF o 0 (flowL A nn)) (ownIdx 0 (flowL A nn)) L)) w e w') = PP := ⟨_, rfl⟩
  rw [hPP]
  have HP := Lib.hid hPP
  clear hPP
  obtain ⟨h1, h2, h3, h4, h5, h6⟩ := right_all h
  have hnn : nn ≤ 20000 := by omega
  rw [List.length_map] at hf hb
  obtain ⟨av, cv, rfl⟩ := ownsRow_slice hf
  obtain ⟨bv, bc, rfl⟩ := ownsRow_slice hb
  have HFL := Lib.hid (flowOf_any nn a ca A (w.alloc (.cells #[.int .i64 nn, .slice av L.length cv] 85)) h2 h1 (eds_grown hE (World.grownBy_alloc w _ none)) h3 h4)
  have HF := Lib.hid hf
  have HB := Lib.hid hb
  have HI := Lib.hid hI
  have HC := Lib.hid hc
  have HL := Lib.hid hl
  clear hf hb hI hc hl h hE h1 h2 h3 h4
  obtain ⟨i0, hi, hz0, hz1, hz2⟩ := info_parts infoInt
  go_enter Try.func74, Try.ntmps74
  go_wp2_with fail
  refine HFL.out.mono ?_
  rintro e w1 hp
  obtain ⟨gv, rfl, own, g⟩ := flowPost_len hp
  clear hp HFL
  have H5 := Lib.hid h5
  have H6 := Lib.hid h6
  clear h5 h6
  generalize flowL A nn = gl at own HP HC H5 H6
  obtain ⟨ga, gc, rfl⟩ := ownsRow_slice own
  have HOWN := Lib.hid own
  have HG := Lib.hid g
  clear own g
  go_wp2_with fail
  refine (repeat_any _ nn (-1) _ (heap_new_at _ _ _ (by simp)) hnn).mono ?_
  rintro e w3 ⟨G, xs, rfl, hGe, hxs, hGb, g3⟩
  have G0 := grownBy_trans (World.grownBy_alloc w (.cells #[.int .i64 nn, .slice av L.length cv] 85) none) HG.out
  have G3 := grownBy_trans (grow_alloc (grow_alloc (grow_self w1) (.cells #[.int .i64 nn, .slice ga gl.length gc] 85)) (.cells #[.int .i64 (-1)] 3)) g3
  have hb6 : w3.heap[w.heap.size]? = some (.cells #[.int .i64 nn, .slice av L.length cv] 85 (0, 0)) := by
    have e := HG.out.block w.heap.size (by simp) (by simp)
    rw [heap_alloc_new] at e
    rw [G3.block _ (lt_of_block e) (by simp)]; exact e
  have hb9 : w3.heap[w1.heap.size]? = some (.cells #[.int .i64 nn, .slice ga gl.length gc] 85 (0, 0)) := by
    have e : ((w1.alloc (.cells #[.int .i64 nn, .slice ga gl.length gc] 85)).alloc (.cells #[.int .i64 (-1)] 3)).heap[w1.heap.size]? = some (.cells #[.int .i64 nn, .slice ga gl.length gc] 85 (0, 0)) := (Below.heap_alloc _ _ _ (by simp)).trans (heap_alloc_new w1 _)
    rw [g3.block _ (lt_of_block e) (by simp)]; exact e
  have GW := grownBy_trans G0 G3
  have hGw1 : w1.heap.size + 2 ≤ G := by simp at hGe; omega
  have hww1 := G0.size
  have HOW3 := Lib.hid (ownsRow_frm (Frm.of_grown G3 (fun _ _ => True)) HOWN.out (fun _ _ _ _ => trivial))
  have HF3 := Lib.hid (ownsRow_frm (Frm.of_grown GW (fun _ _ => True)) HF.out (fun _ _ _ _ => trivial))
  have HB3 := Lib.hid (ownsRow_frm (Frm.of_grown GW (fun _ _ => True)) HB.out (fun _ _ _ _ => trivial))
  have HB6 := Lib.hid hb6
  have HB9 := Lib.hid hb9
  have HGW := Lib.hid GW
  have hGl := lt_of_block hGb
  have HXO := Lib.hid hxs.2
  have HGT := Lib.hid (show ∃ c, w3.heap[G]? = some (.cells c 3 (0, 0)) from ⟨_, hGb⟩)
  obtain ⟨o, ho⟩ : ∃ o : Int → Int, o = fun i => xs.getD i.toNat 0 := ⟨_, rfl⟩
  have HS := Lib.hid (show L1q w3 G nn o gl 0 (.slice none 0 0) w3 from ho ▸ L1q.start hGb hxs.1)
  have HOB := Lib.hid (show ∀ i, o i ≤ 0 from fun i => by
    rw [ho]
    simp only [List.getD_eq_getElem?_getD]
    cases hx : xs[i.toNat]? with
    | none => simp
    | some y =>
      rcases HXO.out y (List.mem_of_getElem? hx) with rfl | rfl <;> simp)
  have k9 := cell_of_block hb9 1
  simp only [List.getElem?_toArray, List.getElem?_cons_zero, List.getElem?_cons_succ] at k9
  clear hxs hGb ho hGe hb6 hb9 GW G0 G3 g3 HG HOWN HXO HF HB
  go_upto_block 0 with (fail)
  clear k9
  go_cut [10] (fun ov wr => Hid (L1q w3 G nn o gl gl.length ov wr))
  case first =>
    go_wp2_with fail
    go_loopw [10, 26] (fun ov i wr => ∃ j : Nat, j ≤ gl.length ∧ i = .int .i64 j ∧ Hid (L1q w3 G nn o gl j ov wr)) (fun _ i _ => gl.length - (intOf i).toNat)
    case atStart => exact ⟨0, Nat.zero_le _, rfl, HS⟩
    case round =>
      clear HS
      obtain ⟨j, hj, rfl, HR⟩ := hrel
      have hg6 : gl.length ≤ 20000 := H6.out
      by_cases hlt : j < gl.length
      · obtain ⟨ys, r1, r2, r3, r4, r5⟩ := HR.out
        have hrow := ownsRow_frm r5 HOW3.out (fun k c hk hb => ⟨fun e => by
          obtain ⟨c2, h2⟩ := HGT.out
          rw [← e, hb] at h2
          simp at h2, lt_of_block hb⟩)
        obtain ⟨g, cap2, hv, hgb, hc⟩ := ownsRow_cell hrow (by omega)
        simp only [Value.slice.injEq] at hv
        obtain ⟨rfl, _, rfl⟩ := hv
        have hc0 := hc _ _ (letCells_get gl j hlt).1
        have hc1 := hc _ _ (letCells_get gl j hlt).2
        have hxb := H5.out _ (List.getElem_mem hlt)
        obtain ⟨⟨x1, x2⟩, hxe⟩ : ∃ x : Let, x = gl[j] := ⟨_, rfl⟩
        rw [← hxe] at hc0 hc1 hxb
        simp only at hc0 hc1 hxb
        have HXE := Lib.hid (show gl[j].1 = x1 by rw [← hxe])
        have hol : (ownIdx 0 (gl.take j)).length ≤ 20000 := by have := ownIdx_le (gl.take j) 0; have h6 := H6.out; rw [List.length_take] at this; omega
        have hws := r5.size
        clear hc hrow hxe r4 hgb
        by_cases hx0 : x1 < 0
        · have HN1 := Lib.hid (fun (v' : Value) (w2 : World) (hown : w2.ownsRow w3.heap.size 3 1 v' ((ownIdx 0 (gl.take j)).length + 1) (intCells (ownIdx 0 (gl.take j)) ++ [.int .i64 (j : Int)])) (hgrow : ((wr.alloc (.cells #[.int .i64 x1, .int .u8 x2.toNat] 88)).alloc (.cells #[.int .i64 (j : Int)] 3)).grownBy w2 u10.ownBlock) => L1q.new HR.out hlt hGl (by rw [HXE.out]; exact hx0) _ _ hown hgrow)
          have HO1 := Lib.hid r1
          clear HR r1 r2 r3 r5
          generalize (ownIdx 0 (gl.take j)).length = ol at hol HO1 HN1
          go_wp2_with (at_builtin; refine wpList_append_own _ rfl _ _ 22 rfl w3.heap.size 3 i0 (.int .i64 0) 1 8 Try.underlying22 hi hz0 hz1 hz2 rfl (by decide) _ _ _ rfl ((HO1.out.alloc _).alloc _) ⟨wr.heap.size + 1, 0, none⟩ 1 1 [.int .i64 (j : Int)] rfl rfl (cells_new2 _ _ _ _) (fun x hx => by simp at hx; subst hx; rfl) (by unfold maxLen; omega) (by omega) (by simp; omega) ?_; intro v' w2 hown' hgrow _; have HN := Lib.hid (HN1.out _ _ hown' hgrow); clear hown' hgrow)
          go_roundw
          case rel => exact ⟨j + 1, by omega, by go_num, HN⟩
          case measure => simp [intOf]; omega
        · obtain ⟨p, rfl⟩ : ∃ p : Nat, x1 = (p : Int) := ⟨x1.toNat, by omega⟩
          have hpn : p < nn := by omega
          have hpi : (p : Int) < (nn : Int) := by omega
          have hp0 : (0 : Int) ≤ (p : Int) := by omega
          have HN := Lib.hid (L1q.old HR.out hlt hGl p hpn HXE.out (.cells #[.int .i64 (p : Int), .int .u8 x2.toNat] 88))
          have r2' : ∀ o1, (wr.alloc o1).heap[G]? = some (.cells (intCells ys).toArray 3 (0, 0)) := fun o1 => (Below.heap_alloc wr o1 G (lt_of_block r2)).trans r2
          have cG : ∀ o1, (wr.alloc o1).cell? ⟨G, p, none⟩ = some (.int .i64 (ys[p]'(by omega))) := fun o1 => by
            rw [cell_of_block (r2' o1) p]
            simp [intCells, r3, hpn]
          have fG : ∀ o1, (wr.alloc o1).frozen? ⟨G, p, none⟩ = false := fun o1 => free_of_block (r2' o1) p
          generalize (ys[p]'(by omega)) = yp at cG
          clear r1 r2 r3 r5 r2' HR hx0 hol
          go_wp2_with fail
          go_roundw
          case rel => exact ⟨j + 1, by omega, by go_num, HN⟩
          case measure => simp [intOf]; omega
      · obtain rfl : j = gl.length := by omega
        go_wp2_with fail
        go_meet
        exact HR
  case rest =>
    obtain ⟨ys, r1, r2, r3, r4, r5⟩ := hcut.out
    rw [List.take_length] at r1 r4
    obtain ⟨sv, cap, rfl, hcap, hix⟩ := ixs_of_own r1
    have hno : ∀ k c, w3.heap[k]? = some (.cells c 88 (0, 0)) ∨ w3.heap[k]? = some (.cells c 4 (0, 0)) ∨ w3.heap[k]? = some (.cells c 85 (0, 0)) → P1q G w3.heap.size k (w3.heap[k]?) := fun k c hk => by
      obtain ⟨c2, h2⟩ := HGT.out
      rcases hk with hk | hk | hk
      · exact ⟨fun e => by rw [← e, hk] at h2; simp at h2, lt_of_block hk⟩
      · exact ⟨fun e => by rw [← e, hk] at h2; simp at h2, lt_of_block hk⟩
      · exact ⟨fun e => by rw [← e, hk] at h2; simp at h2, lt_of_block hk⟩
    have HF4 := Lib.hid (ownsRow_frm r5 HF3.out (fun k c _ hk => hno k c (.inl hk)))
    have HB4 := Lib.hid (ownsRow_frm r5 HB3.out (fun k c _ hk => hno k c (.inr (.inl hk))))
    have hb6 := (r5.block _ (lt_of_block HB6.out) (hno _ _ (.inr (.inr HB6.out)))).trans HB6.out
    have hb9 := (r5.block _ (lt_of_block HB9.out) (hno _ _ (.inr (.inr HB9.out)))).trans HB9.out
    have HGW4 := Lib.hid (grow_frm HGW.out r5 (fun k o hk => ⟨by omega, by omega⟩))
    have HOLD := Lib.hid (show ∀ p : Nat, p < nn → wc.cell? ⟨G, p, none⟩ = some (.int .i64 (oldF o 0 gl p)) from fun p hp => by
      rw [cell_of_block r2 p, ← r4 p (by omega)]
      simp [intCells, r3, hp])
    have hg6 : gl.length ≤ 20000 := H6.out
    have HOB2 := Lib.hid (show ∀ i, oldF o 0 gl i ≤ 100000 from fun i => by
      rcases oldF_bd gl o 0 i with h | h
      · rw [h]; have := HOB.out i; omega
      · omega)
    have HRB := Lib.hid (show ∀ x ∈ ownIdx 0 gl, x ≤ 100000 from fun x hx => by have := ownIdx_bd gl 0 x hx; omega)
    have HFIN := Lib.hid (show ∀ e w', EditsPost (editsOf gl.length (pastGo (oldF o 0 gl) (ownIdx 0 gl) L)) w e w' → PP e w' from fun e w' h => HP.out ▸ ⟨o, h⟩)
    have HIX := Lib.hid hix
    clear hcut r1 r2 r3 r4 r5 hix HP HOB HF3 HB3 HB6 HB9 HGW HOW3 HGT H5 HS hno
    generalize oldF o 0 gl = old at HOLD HOB2 HFIN
    generalize ownIdx 0 gl = own at hcap HIX HRB HC HFIN
    obtain ⟨W, rfl⟩ : ∃ W : World, W = wc := ⟨_, rfl⟩
    have HS := Lib.hid (show L2q W gl.length L old own 0 (.slice sv own.length cap) (W.alloc (.cells #[.int .i64 gl.length, .slice none 0 0] 85)) from
      ⟨sv, cap, own, [], .slice none 0 0, rfl, hcap, HIX.out, heap_alloc_new _ _, World.ownsRow_nil _ _ _ _, World.grownBy_alloc _ _ _, by simp, ⟨rfl, fun x hx => by cases hx⟩, HC.out, HRB.out⟩)
    have k6 := cell_of_block ((Below.heap_alloc W (.cells #[.int .i64 gl.length, .slice none 0 0] 85) _ (lt_of_block hb6)).trans hb6) 1
    have k9 := cell_of_block hb9 1
    simp only [List.getElem?_toArray, List.getElem?_cons_zero, List.getElem?_cons_succ] at k6 k9
    clear hcap HIX HC HRB hb6 hb9
    obtain ⟨i1, hj1, hy0, hy1, hy2⟩ := info_parts infoLet
    go_upto_block 2 with (fail)
    clear k6 k9 i0 hi hz0 hz1 hz2
    go_cut [10] (fun ov wr => Hid (L2q W gl.length L old own L.length ov wr))
    case first =>
      go_wp2_with fail
      go_loopw [10, 51] (fun ov i wr => ∃ j : Nat, j ≤ L.length ∧ i = .int .i64 j ∧ Hid (L2q W gl.length L old own j ov wr)) (fun _ i _ => L.length - (intOf i).toNat)
      case atStart => exact ⟨0, Nat.zero_le _, rfl, HS⟩
      case round =>
        clear HS
        obtain ⟨j, hj, rfl, HR⟩ := hrel
        have hl6 : L.length ≤ 100000 := HL.out
        by_cases hlt : j < L.length
        · obtain ⟨sv2, cap2, rem, outL, v, rfl, hcap, hix, hF, hown, hg, hpg, ⟨hol, hob⟩, hct, hrb⟩ := HR.out
          clear HR
          have hrow := ownsRow_frm (Frm.of_grown hg (fun _ _ => True)) HF4.out (fun _ _ _ _ => trivial)
          obtain ⟨g, cp, hv, hgb, hc⟩ := ownsRow_cell hrow (by omega)
          simp only [Value.slice.injEq] at hv
          obtain ⟨rfl, _, rfl⟩ := hv
          have hrowb := ownsRow_frm (Frm.of_grown hg (fun _ _ => True)) HB4.out (fun _ _ _ _ => trivial)
          obtain ⟨gb, cpb, hvb, hgbb, hcb⟩ := ownsRow_cell hrowb (by omega)
          simp only [Value.slice.injEq] at hvb
          obtain ⟨rfl, _, rfl⟩ := hvb
          have hj' : j < (L.map (·.1)).length := by simpa using hlt
          have hc0 := hc _ _ (letCells_get (L.map (·.1)) j hj').1
          have hc1 := hc _ _ (letCells_get (L.map (·.1)) j hj').2
          have hcm := hcb j (.bool L[j].2) (by simp [blC, hlt])
          have hxi := HI.out _ (List.getElem_mem hlt)
          have HD := Lib.hid (show L.drop j = L[j] :: L.drop (j + 1) from List.drop_eq_getElem_cons hlt)
          rw [List.getElem_map] at hc0 hc1
          generalize L[j] = z at hc0 hc1 hcm hxi HD
          obtain ⟨⟨x1, x2⟩, mk⟩ := z
          simp only at hc0 hc1 hcm hxi
          have HSTEP := Lib.hid (fun (y1 : Int) (rem' : List Int) (sv' : Option Addr) (cap' : Nat) (wx w2 : World) (v' : Value) (o : Obj) => SwP.step (W := W) (gn := (gl.length : Int)) (L := L) (old := old) (own := own) (outL := outL) (v := v) (v' := v') (wx := wx) (w2 := w2) (j := j) (m := outL.length + 1) (y1 := y1) (x2 := x2) (rem := rem') (rem0 := rem) (sv := sv') (cap := cap') o rfl)
          have HPG := Lib.hid hpg
          have HOL := Lib.hid hol
          have HOBB := Lib.hid hob
          have HRB := Lib.hid hrb
          have HIX := Lib.hid hix
          have HOWN := Lib.hid (hown.alloc (.cells #[.int .i64 x1, .int .u8 x2.toNat] 88))
          have HF' := Lib.hid ((Below.heap_alloc wr (.cells #[.int .i64 x1, .int .u8 x2.toNat] 88) _ (lt_of_block hF)).trans hF)
          have HG := Lib.hid (grow_alloc hg (.cells #[.int .i64 x1, .int .u8 x2.toNat] 88))
          have HX := Lib.hid (heap_alloc_new wr (.cells #[.int .i64 x1, .int .u8 x2.toNat] 88))
          have hFl := lt_of_block hF
          have hnX : v.ownBlock ≠ some wr.heap.size := fun e => by have := rowOwn_lt hown _ e; omega
          have HCM := Lib.hid ((World.grownBy_alloc wr (.cells #[.int .i64 x1, .int .u8 x2.toNat] 88) none).cell hcm (by simp))
          clear hc hrow hpg hol hob hrb hix hown hF hg hcb hrowb
          go_upto_block 4 with (fail)
          clear hc0 hc1 hcm
          generalize wr.alloc (.cells #[.int .i64 x1, .int .u8 x2.toNat] 88) = wy at *
          generalize wr.heap.size = X at *
          go_cut [10] (fun ov wx => Hid (SwP W gl.length L old rem outL v X j x2 ov wx))
          case first =>
            have kX := cell_of_block HX.out 0
            have fX := free_of_block HX.out 0
            simp only [List.getElem?_toArray, List.getElem?_cons_zero] at kX
            rw [HD.out] at hct
            by_cases hx : 0 ≤ x1
            · obtain ⟨p, rfl⟩ : ∃ p : Nat, x1 = (p : Int) := ⟨x1.toNat, by omega⟩
              have hpn : p < nn := by omega
              have hp0 : (0 : Int) ≤ (p : Int) := by omega
              have hold := HG.out.cell (HOLD.out p hpn) (by simp)
              have HSW := Lib.hid (SwP.set (L := L) (old := old) (rem0 := rem) (j := j) (old p) hcap HIX.out HX.out hFl hnX HF'.out HOWN.out HG.out (by rw [HD.out]; exact pastGo_kept old rem (p, x2) mk _ hp0) (HOB2.out _) (cntT_step hct) HRB.out)
              clear hct HD
              generalize old p = op at hold HSW
              go_wp2_with fail
              go_meet
              exact HSW
            · have dx : decide (0 ≤ x1) = false := by simpa using hx
              have kB := HCM.out
              cases mk with
              | true =>
                obtain ⟨m, hm, hcm2⟩ := cntT_mine hct hx
                obtain ⟨r0, rem2, rfl⟩ : ∃ r0 rem2, rem = r0 :: rem2 := by
                  cases rem with
                  | nil => simp at hm
                  | cons r0 rem2 => exact ⟨r0, rem2, rfl⟩
                obtain ⟨g0, off, rfl, cr⟩ := HIX.out 0 (by simp)
                have cr2 := HG.out.cell cr (by simp)
                simp only [List.getElem_cons_zero, Nat.add_zero] at cr2
                simp only [List.length_cons] at hm hcap
                obtain rfl : rem2.length = m := by omega
                have hbd := HRB.out r0 List.mem_cons_self
                have HRB2 := Lib.hid (show ∀ x ∈ rem2, x ≤ 100000 from fun x hx => HRB.out x (List.mem_cons_of_mem _ hx))
                have HIX2 := Lib.hid (show Ixs W (some ⟨g0, off + 1, none⟩) rem2 from fun i hi => by
                  obtain ⟨g1, off1, e1, c1⟩ := HIX.out (i + 1) (by simp; omega)
                  simp only [Option.some.injEq, Addr.mk.injEq, and_true] at e1
                  obtain ⟨rfl, rfl⟩ := e1
                  refine ⟨g0, off + 1, rfl, ?_⟩
                  rw [show off + 1 + i = off + (i + 1) by omega]
                  simpa using c1)
                have HPM := Lib.hid (show pastGo old (r0 :: rem2) (L.drop j) = (r0, x2) :: pastGo old rem2 (L.drop (j + 1)) by rw [HD.out]; exact pastGo_mine old r0 rem2 (x1, x2) _ hx)
                clear cr hct HD HIX HRB HSTEP
                by_cases hc1 : cap2 = 1
                · obtain rfl : rem2 = [] := List.eq_nil_of_length_eq_zero (by omega)
                  subst hc1
                  have HSW := Lib.hid (SwP.set (L := L) (old := old) (rem0 := [r0]) (rem := []) (j := j) r0 (sv := some ⟨g0, off, none⟩) (cap := 0) (by simp) (fun i hi => by simp at hi) HX.out hFl hnX HF'.out HOWN.out HG.out HPM.out hbd hcm2 HRB2.out)
                  go_wp2_with fail
                  go_meet
                  exact HSW
                · have hge : 2 ≤ cap2 := by omega
                  have HSW := Lib.hid (SwP.set (L := L) (old := old) (rem0 := r0 :: rem2) (j := j) r0 (cap := cap2 - 1) (by omega) HIX2.out HX.out hFl hnX HF'.out HOWN.out HG.out HPM.out hbd hcm2 HRB2.out)
                  go_wp2_with fail
                  go_meet
                  exact HSW
              | false =>
                have HSW := Lib.hid (show SwP W gl.length L old rem outL v X j x2 (.slice sv2 rem.length cap2) wy from ⟨x1, sv2, cap2, rem, rfl, hcap, HIX.out, HX.out, HF'.out, HOWN.out, HG.out, by rw [HD.out]; exact pastGo_their old rem (x1, x2) _ hx, by omega, cntT_step hct, HRB.out⟩)
                clear hct HD
                go_wp2_with fail
                go_meet
                exact HSW
          case rest =>
            obtain ⟨y1, sv3, cap3, rem3, rfl, hcap3, hix3, hX3, hF3, hown3, hg3, hp3, hy3, hc3, hr3⟩ := hcut.out
            have hbig : outL.length ≤ 100000 := by have := HOL.out; omega
            have HS3 := Lib.hid (fun (w2 : World) (v' : Value) (o : Obj) (h1 : w2.ownsRow (W.heap.size + 1) 88 2 v' (outL.length + 1) (letCells outL ++ [.int .i64 y1, .int .u8 x2.toNat])) (h2 : (wc.alloc o).grownBy w2 v.ownBlock) => HSTEP.out y1 rem3 sv3 cap3 wc w2 v' o hcap3 hix3 hF3 hown3 hg3 HPG.out HOL.out HOBB.out hp3 hy3 hc3 hr3 h1 h2)
            have kF := cell_of_block hF3 1
            have kX0 := cell_of_block hX3 0
            have kX1 := cell_of_block hX3 1
            have hsz3 := lt_of_block hF3
            simp only [List.getElem?_toArray, List.getElem?_cons_zero, List.getElem?_cons_succ] at kF kX0 kX1
            have HO3 := Lib.hid hown3
            obtain ⟨av3, cv3, rfl⟩ := ownsRow_slice hown3
            clear hcut hix3 hX3 hF3 hown3 hg3 hp3 hy3 hc3 hr3 HSTEP HPG HOL HOBB HRB HIX HOWN HF' HG HX HCM HD
            generalize outL.length = ol at hbig HO3 HS3 kF
            go_wp2_with (at_builtin; refine wpList_append_own _ rfl _ _ 83 rfl (W.heap.size + 1) 88 i1 (.agg #[.int .i64 0, .int .u8 0]) 2 16 Try.underlying83 hj1 hy0 hy1 hy2 rfl (by decide) _ _ _ rfl (HO3.out.alloc _) ⟨wc.heap.size, 0, none⟩ 1 1 [.int .i64 y1, .int .u8 x2.toNat] rfl rfl (cells_new _ _ _) (fun x hx => by simp at hx; rcases hx with rfl | rfl <;> rfl) (by unfold maxLen; omega) (by omega) (by simp; omega) ?_; intro v' w2 hown' hgrow _; obtain ⟨av4, cv4, rfl⟩ := ownsRow_slice hown'; have R := HS3.out _ _ _ hown' hgrow; have kF2 := cell_of_block R.1 1; have fF2 := free_of_block R.1 1; simp only [List.getElem?_toArray, List.getElem?_cons_zero, List.getElem?_cons_succ] at kF2; have HR2 := Lib.hid R.2; clear R hown' hgrow)
            go_roundw
            case rel => exact ⟨j + 1, by omega, by go_num, HR2⟩
            case measure => simp [intOf]; omega
        · obtain rfl : j = L.length := by omega
          go_wp2_with fail
          go_meet
          exact HR
    case rest =>
      obtain ⟨sv2, cap2, rem, outL, v, rfl, hcap, hix, hF, hown, hg, hpg, ⟨hol, hob⟩, hct, hrb⟩ := hcut.out
      have hl6 : L.length ≤ 100000 := HL.out
      have HPE := Lib.hid (show pastGo old own L = outL by rw [hpg, List.drop_eq_nil_of_le (Nat.le_refl _)]; simp [pastGo])
      have k0 := cell_of_block hF 0
      have k1 := cell_of_block hF 1
      simp only [List.getElem?_toArray, List.getElem?_cons_zero, List.getElem?_cons_succ] at k0 k1
      have HED := Lib.hid (edits_any gl.length v _ outL wc (by omega) (by omega) hob hown)
      have HGG := Lib.hid (grownBy_trans HGW4.out hg)
      have hwz := HGG.out.size
      obtain ⟨av2, cv2, rfl⟩ := ownsRow_slice hown
      clear hcut hix hF hown hg hpg hob hct hrb HS HOB2 HOLD HF4 HB4 HL HI
      generalize outL.length = ol at k1 HED
      go_wp2_with fail
      refine HED.out.mono ?_
      rintro e w5 ⟨v5, rfl, own5, g5⟩
      have HZ := Lib.hid (HFIN.out (.returned v5) w5 (by rw [HPE.out]; exact ⟨v5, rfl, ownsRow_base own5 hwz, grownBy_trans HGG.out g5⟩))
      clear own5 g5
      go_wp2_with fail
      exact HZ.out
end Go.Proofs.Ytajigndlcdiinaa
