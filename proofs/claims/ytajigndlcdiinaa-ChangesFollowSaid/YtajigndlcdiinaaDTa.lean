/- Package edit: merged, the loop of Then. -/
import Derived.Test.YtajigndlcdiinaaDQ2
namespace Go.Proofs.Ytajigndlcdiinaa
open Go.RowKit Go.Shelf
attribute [local go_sem] Oper.semAt_some

/-- The pieces that a change has put in. -/
def comG : Int → List Ed → List Pce
  | _, [] => []
  | sh, e :: r => ⟨e.at_ + sh, e.new.size, e⟩ :: comG (sh + (e.new.size - e.old)) r
def comP (es : List Ed) : List Pce := comG 0 es
theorem comG_len : ∀ (es : List Ed) (sh : Int), (comG sh es).length = es.length
  | [], _ => rfl
  | e :: r, sh => by rw [comG, List.length_cons, comG_len r, List.length_cons]
theorem comG_get : ∀ (es : List Ed) (sh : Int) (i : Nat) (h : i < es.length), (comG sh es)[i]'(by rw [comG_len]; exact h) = ⟨es[i].at_ + (sh + shTo es i), es[i].new.size, es[i]⟩
  | [], _, i, h => absurd h (Nat.not_lt_zero _)
  | e :: r, sh, 0, _ => by simp [comG, shTo]
  | e :: r, sh, i + 1, h => by
    have hr : i < r.length := by simpa using h
    have hs : ∀ j, shTo (e :: r) (j + 1) = (e.new.size - e.old) + shTo r j := by
      intro j
      induction j with
      | zero => simp [shTo]
      | succ j ih =>
        rw [shTo, List.getElem?_cons_succ, ih, shTo]
        cases hj : r[j]? with
        | none => rfl
        | some x => simp only; omega
    have := comG_get r (sh + (e.new.size - e.old)) i hr
    simp only [comG, List.getElem_cons_succ]
    rw [this, hs i]
    congr 1; omega
theorem PcTo.pcs {W : World} {B : Nat} {es : List Ed} (h : PcTo W B es.length es es.length) : PcsAt W B (comP es) := by
  obtain ⟨C, hb, hs, hc⟩ := h
  intro i hi
  have hi' : i < es.length := by rw [comP, comG_len] at hi; exact hi
  obtain ⟨k1, k2, k3, k4, k5⟩ := hc i hi' hi'
  have e : (comP es)[i] = ⟨es[i].at_ + shTo es i, es[i].new.size, es[i]⟩ := by
    have := comG_get es 0 i hi'
    rw [Int.zero_add] at this
    exact this
  rw [e]
  exact ⟨(cell_of_block hb _).trans k1, (cell_of_block hb _).trans k2, (cell_of_block hb _).trans k3, (cell_of_block hb _).trans k4, (cell_of_block hb _).trans k5⟩

/-- What a step does to the draft of two changes behind one another. -/
def thenS (d : Dr) (x : Stp) : Dr :=
  if x.ai then (if x.bi then (d.drop x.ab.old).put x.bb.new else ((d.drop x.ab.old).put x.bb.new).put (x.al.ed.new.extract (x.at_ - x.al.at_).toNat (x.at_ - x.al.at_ + x.long).toNat))
  else if x.bi then ((d.drop x.ab.old).put x.bb.new).drop x.long else ((d.drop x.ab.old).put x.bb.new).keep x.long
def StpW (x : Stp) : Prop := 0 ≤ x.long ∧ x.long ≤ 40000 ∧ x.ab.new.size ≤ 40000 ∧ x.bb.new.size ≤ 40000
def StpT (x : Stp) : Prop := StpW x ∧ (0 ≤ x.ab.old ∧ x.ab.old ≤ 20000) ∧ (-1000000 ≤ x.at_ ∧ x.at_ ≤ 1000000) ∧ (x.ai = true → (-1000000 ≤ x.al.at_ ∧ x.al.at_ ≤ 1000000) ∧ 0 ≤ x.at_ - x.al.at_ ∧ x.at_ - x.al.at_ + x.long ≤ x.al.ed.new.size ∧ x.al.ed.new.size ≤ 40000)
theorem thenS_q {d : Dr} {x : Stp} {m k : Nat} (h : DrQ d m k) (hx : StpT x) : DrQ (thenS d x) (m + 2) (k + 120000) := by
  obtain ⟨⟨x1, x2, x3, x4⟩, x5, x7, x6⟩ := hx
  have h1 := (h.drop (long := x.ab.old) ⟨by omega, by omega⟩).put x4
  unfold thenS
  split
  · rename_i ha
    split
    · exact h1.mono (by omega) (by omega)
    · refine (h1.put ?_).mono (by omega) (by omega)
      obtain ⟨y0, y1, y2, y3⟩ := x6 ha
      rw [ByteArray.size_extract]
      omega
  · split
    · exact (h1.drop ⟨x1, by omega⟩).mono (by omega) (by omega)
    · exact (h1.keep ⟨x1, by omega⟩).mono (by omega) (by omega)
theorem then_bd (xs : List Stp) (h : ∀ x ∈ xs, StpT x) : ∀ (k : Nat), DrQ ((xs.take k).foldl thenS drZ) (2 * k) (120000 * k)
  | 0 => ⟨Nat.le_refl _, (by show (0 : Nat) ≤ _; omega), ⟨by simp [drZ], by simp [drZ]⟩, by simp [drZ]⟩
  | k + 1 => by
    have ih := then_bd xs h k
    by_cases hk : k < xs.length
    · rw [List.take_add_one, List.getElem?_eq_getElem hk]
      simp only [Option.toList, List.foldl_append, List.foldl_cons, List.foldl_nil]
      exact (thenS_q ih (h _ (List.getElem_mem hk))).mono (by omega) (by omega)
    · rw [List.take_of_length_le (by omega)]
      rw [List.take_of_length_le (by omega)] at ih
      exact ih.mono (by omega) (by omega)
/-- What holds between two rounds. -/
structure ThenI (w : World) (Bd : Nat) (xs : List Stp) (k : Nat) (W : World) : Prop where
  ex : ∃ ev pv ps, DrAt W w.heap.size Bd ((xs.take k).foldl thenS drZ) ev pv ps ∧ ps.length ≤ 2 * k
  gr : w.grownBy W none
theorem ThenI.turn {w W W' : World} {Bd k B0 : Nat} {xs : List Stp} (h : ThenI w Bd xs k W) (hB : w.heap.size ≤ B0) (t : Turn B0 Uu W W') : ThenI w Bd xs k W' := by
  obtain ⟨⟨ev, pv, ps, hd, hp⟩, g⟩ := h
  exact ⟨⟨ev, pv, ps, hd.turn t, hp⟩, grow_turn g hB t⟩
def MgPost (l : List Ed) (w : World) (e : Ending) (w' : World) : Prop := ∃ v, e = .returned v ∧ w'.ownsRow w.heap.size 47 3 v l.length (edC l) ∧ w.grownBy w' none

set_option maxHeartbeats 1000000 in
set_option maxRecDepth 100000 in
theorem merged_any (n m : Int) (a : Option Addr) (c : Nat) (es : List Ed) (GB : Nat) (PB : List Pce) (xs : List Stp) (w : World) (hn : 0 ≤ n ∧ n ≤ 20000) (hm0 : 0 ≤ m ∧ m ≤ 1000000) (hl : es.length ≤ 2000) (hE : Eds w a es) (hS : ∀ e, e ∈ es → 0 ≤ e.at_ ∧ e.at_ ≤ 20000 ∧ 0 ≤ e.old ∧ e.old ≤ 20000 ∧ e.new.size ≤ 40000)
    (hCo : ∀ p ∈ comP es, p.Ok) (hPl : PB.length ≤ 100000) (hPo : ∀ p ∈ PB, p.Ok) (hGB : ∃ C, w.heap[GB]? = some (.cells C 76 (0, 0)) ∧ PcsAt w GB PB) (hln : lenGo n es = m) (hr : Runs (comP es) PB m 0 pcZ 0 pcZ 0 xs) (hxs : ∀ x ∈ xs, StpT x) (hxl : xs.length ≤ 40001) :
    Calls Try.prog 84 #[.int .i64 n, .slice a es.length c, .slice (some ⟨GB, 0, none⟩) PB.length PB.length] w (MgPost (xs.foldl thenS drZ).close.out w) := by
  obtain ⟨P, hP⟩ : ∃ P, MgPost (xs.foldl thenS drZ).close.out w = P := ⟨_, rfl⟩
  rw [hP]
  have HP := Lib.hid hP
  have HRuns := Lib.hid hr
  have HXS := Lib.hid hxs
  have HGB := Lib.hid hGB
  have HEF := Lib.hid hE
  have HSS := Lib.hid hS
  have HCO := Lib.hid hCo
  have HPO := Lib.hid hPo
  have HLEN := Lib.hid (fun w' (g : w.grownBy w' none) => length_any n a c es w' (by omega) hl (hE.grown g (by simp)) (fun e he => by have := hS e he; omega))
  rw [hln] at HLEN
  clear hP hr hxs hGB hE hS hCo hPo hln
  refine (callsIn_wide (n := 3)).1 ?_
  refine callsIn_of_wp_marks Try.func84 rfl trivial ?_ rfl
  simp only [Try.ntmps84, List.size_toArray, List.length_cons, List.length_nil, Nat.reduceAdd, Nat.reduceSub, Array.replicate_succ, Array.replicate_zero, List.push_toArray, List.append_toArray, List.nil_append, List.cons_append]
  gi_wp2
  have g2 := World.grownBy_alloc w (.cells #[.slice none 0 0, .int .i64 0, .int .i64 0, .slice none 0 0] 104) none
  have hbx := heap_alloc_new w (.cells #[.slice none 0 0, .int .i64 0, .int .i64 0, .slice none 0 0] 104)
  have hBl : w.heap.size < (w.alloc (.cells #[.slice none 0 0, .int .i64 0, .int .i64 0, .slice none 0 0] 104)).heap.size := by simp
  generalize w.alloc (.cells #[.slice none 0 0, .int .i64 0, .int .i64 0, .slice none 0 0] 104) = w2 at hbx hBl g2 ⊢
  generalize hBdE : w.heap.size = Bd at hbx hBl ⊢
  refine ⟨trivial, callsIn_wide.2 ((HLEN.out w2 g2).mono ?_)⟩
  rintro e w3 ⟨rfl, g3⟩
  gi_wp2
  refine ⟨trivial, callsIn_wide.2 ((comings_any a c es w3 hl (HEF.out.grown (grownBy_trans g2 g3) (by simp)) HSS.out).mono ?_)⟩
  rintro e w4 ⟨rfl, hGA, g4⟩
  gi_wp2
  refine ⟨trivial, callsIn_wide.2 ((steps_any m _ _ _ _ _ _ w4).mono ?_)⟩
  rintro e w5 ⟨Ba, Bb, Bn, rfl, ha, hb, hn2, g5⟩
  have HBX := Lib.hid (grow_new (grownBy_trans (grownBy_trans g3 g4) g5) hbx)
  have HGr := Lib.hid (grownBy_trans (grownBy_trans (grownBy_trans g2 g3) g4) g5)
  have hcl : (comP es).length = es.length := comG_len es 0
  have HSE : Hid (SEnv w5 Ba Bb Bn w3.heap.size GB (comP es) PB m) := Lib.hid (by
    obtain ⟨CA, hA1, _⟩ := hGA.kept g5
    obtain ⟨CB, hB1, hB2⟩ := HGB.out
    have e := HGr.out.block GB (lt_of_block hB1) (by simp)
    exact ⟨by rw [hcl]; exact ha, hb, hn2, ⟨CA, hA1, (hGA.kept g5).pcs⟩, ⟨CB, e.trans hB1, hB2.same e⟩⟩)
  have HBd := Lib.hid (show w.heap.size ≤ Bd ∧ Bd < w5.heap.size from ⟨by omega, by have := g3.size; have := g4.size; have := g5.size; omega⟩)
  clear hbx hBl g2 g3 g4 g5 ha hb hn2 hGA hcl
  gi_wp2
  generalize w3.heap.size = GA at HSE ⊢
  have H0I : ThenI w Bd xs 0 w5 := ⟨⟨.slice none 0 0, .slice none 0 0, [], ⟨HBX.out, World.ownsRow_nil _ _ _ _, ⟨World.ownsRow_nil _ _ _ _, fun p hp => by cases hp⟩, rfl⟩, Nat.le_refl _⟩, HGr.out⟩
  have hws : w.heap.size ≤ w5.heap.size := HGr.out.size
  refine wp_seq (gf := 85) (lb := #[.pointer (some ⟨Ba, 0, none⟩), .pointer (some ⟨Bb, 0, none⟩), .pointer (some ⟨Bn, 0, none⟩)]) rfl (enters_of Try.func85 (by kernel_rfl) rfl) (U := Uu) (T := Tt) (encs := fun x => #[.agg (stpV x)]) (fun x => rfl) (xs := xs)
    (steps1_runs _ Ba Bb Bn GA GB (comP es) PB m xs w5 (by rw [comP, comG_len]; omega) hPl HCO.out HPO.out (by omega) HSE.out HRuns.out)
    (ThenI w Bd xs) (fun k x a₁ W => ∃ M, ThenI w Bd xs k W ∧ W.heap[M]? = some (Obj.cells (stpV x) 112 (0, 0)) ∧ a₁ = { tmps := #[.int .i64 n, .slice a es.length c, .slice (some ⟨GB, 0, none⟩) PB.length PB.length, undef, undef, undef, .slice none 0 0, .pointer (some ⟨Bd, 0, none⟩), .pointer (some ⟨M, 0, none⟩), undef, .int .i64 n, .slice a es.length c, .int .i64 m, .slice a es.length c, .slice (some ⟨GA, 0, none⟩) es.length es.length, .slice (some ⟨GB, 0, none⟩) PB.length PB.length, .func (.func 85) #[] #[.pointer (some ⟨Ba, 0, none⟩), .pointer (some ⟨Bb, 0, none⟩), .pointer (some ⟨Bn, 0, none⟩)], .agg (stpV x), undef, undef, undef, undef, undef, undef, undef, undef, undef, undef, undef, undef, undef, undef, undef, undef, undef, undef, undef, undef, undef, undef, undef, undef, undef, undef, undef, undef, undef, undef, undef, undef, undef, undef, undef, undef, undef, undef, undef, undef, undef, undef, undef, undef, undef, undef, undef, undef, undef, undef, undef, undef, undef], defers := [] })
    (fun k A B h t => h.turn hws t) ?hIa H0I ?assign ?body ?done
  case hIa =>
    rintro k x a₁ W l o o' ⟨M, hI, hM, rfl⟩ hl ho hc
    refine ⟨M, hI.turn hws (Turn.put o' hl ho hc), ?_, rfl⟩
    refine (World.putObj_heap_other ?_).trans hM
    rintro rfl
    rw [hM] at ho; cases ho; cases hc
  case assign =>
    intro l k x W hx hI
    have HTH := Lib.hid (show (W.alloc (.cells stpZ 112)).there W.heap.size 0 20 from fun j hj => ⟨by
      rw [Nat.zero_add, cell_of_block (heap_alloc_new W (.cells stpZ 112))]
      have : j < stpZ.size := hj
      simp [this], free_of_block (heap_alloc_new W (.cells stpZ 112)) _⟩)
    have HIN := Lib.hid (show (Try.prog.info? 112).map (·.size) = some 20 by kernel_rfl)
    have HM4 := Lib.hid (heap_setCells_all (b := W.heap.size) (t := 112) (stpV x).toList [] stpZ.toList (W.alloc (.cells stpZ 112)) rfl (heap_alloc_new W (.cells stpZ 112)))
    have HG4 := Lib.hid (grow_setCells (w := W) (b := W.heap.size) (Nat.le_refl _) (stpV x).toList 0 _ (World.grownBy_alloc W (.cells stpZ 112) none))
    have H1C := Lib.hid (show (stpV x).all (·.oneCell') = true by simp [stpV, Value.oneCell'])
    have HI := Lib.hid hI
    unfold stpZ at HTH HM4 HG4
    obtain ⟨sv, hsv⟩ : ∃ sv, stpV x = sv := ⟨_, rfl⟩
    have HSV := Lib.hid hsv
    have hsz : sv.size = 20 := by rw [← hsv]; rfl
    have HSZ := Lib.hid hsz
    rw [hsv] at HM4 HG4 H1C ⊢
    clear hsv hI hsz
    gi_wp2_with (refine wpListIn_store_mid (by rfl) 112 (.tmp 8) (.tmp 17) (by rfl) W.heap.size 0 sv (by rfl) (by rfl) (by rw [HSZ.out]; exact HTH.out) (by rw [HSZ.out]; exact HIN.out) H1C.out ?_)
    refine ⟨Mv.grown HG4.out, W.heap.size, HI.out.turn hws (.new HG4.out), ?_, ?_⟩
    · exact HM4.out
    · rfl
  case body =>
    rintro l k x a₁ W hx ⟨M, hI, hM, rfl⟩
    obtain ⟨⟨ev, pv, ps, hd, hp⟩, hg⟩ := hI
    have hxo := HXS.out x (List.mem_of_getElem? hx)
    have hkl : k < xs.length := (List.getElem?_eq_some_iff.1 hx).1
    have HNX := Lib.hid (show (xs.take (k + 1)).foldl thenS drZ = thenS ((xs.take k).foldl thenS drZ) x by
      rw [List.take_add_one, hx]; simp)
    have hbd := then_bd xs HXS.out k
    generalize (xs.take k).foldl thenS drZ = d at hd HNX hbd
    obtain ⟨hb1, hb2, ⟨hb3, hb3'⟩, hb4⟩ := hbd
    obtain ⟨⟨x1, x2, x3, x4⟩, ⟨x5, x6⟩, x7, x8⟩ := hxo
    have HD := Lib.hid hd
    have HGW := Lib.hid hg
    have HM := Lib.hid hM
    have HX8 := Lib.hid x8
    clear hx hd hg hM x8
    obtain ⟨xa, xl, ⟨aba, abo, abn⟩, ai, ⟨ala, all, ⟨ale, alf, aln⟩⟩, ⟨bba, bbo, bbn⟩, bi, ⟨bla, bll, ⟨ble, blf, bln⟩⟩⟩ := x
    simp only at x1 x2 x3 x4 x5 x6 x7 HX8
    simp only [stpV] at HM ⊢
    have m3 := cell_of_block HM.out 3
    simp only [List.getElem?_toArray, List.getElem?_cons_zero, List.getElem?_cons_succ] at m3
    have HPA := Lib.hid (ddrop_any w.heap.size Bd d ev pv ps abo W HD.out (by omega))
    unfold DrPost at HPA
    gi_wp2
    refine ⟨trivial, CallsIn.inRound l (callsIn_wide.2 (HPA.out.mono ?_))⟩
    rintro e W1 ⟨⟨v, rfl⟩, ev1, pv1, ps1, hd1, f1, -, -, hp1⟩
    have HG1 := Lib.hid (HD.out.grow f1 HGW.out HBd.out.1 (Nat.le_refl _))
    have HV1 := Lib.hid (HD.out.mv f1)
    have HM1 := Lib.hid (HV1.out.same _ _ HM.out (fun _ _ _ e => by cases e; rfl))
    have HD1 := Lib.hid hd1
    clear hd1 f1 HPA m3
    have m13 := cell_of_block HM1.out 13
    simp only [List.getElem?_toArray, List.getElem?_cons_zero, List.getElem?_cons_succ] at m13
    have HPB := Lib.hid (dput_any w.heap.size Bd _ ev1 pv1 ps1 bbn W1 HD1.out (by omega) HG1.out.size)
    unfold DrPost at HPB
    gi_wp2
    refine ⟨trivial, CallsIn.inRound l (callsIn_wide.2 (HPB.out.mono ?_))⟩
    rintro e W2 ⟨⟨v2, rfl⟩, ev2, pv2, ps2, hd2, f2, -, -, hp2⟩
    have HG2 := Lib.hid (HD1.out.grow f2 HG1.out HBd.out.1 (Nat.le_refl _))
    have HV2 := Lib.hid (HV1.out.trans (HD1.out.mv f2))
    have HM2 := Lib.hid (HV2.out.same _ _ HM.out (fun _ _ _ e => by cases e; rfl))
    have HD2 := Lib.hid hd2
    clear hd2 f2 HPB m13 HV1 HG1 HD1
    have m0 := cell_of_block HM2.out 0
    have m1 := cell_of_block HM2.out 1
    have m5 := cell_of_block HM2.out 5
    have m6 := cell_of_block HM2.out 6
    have m10 := cell_of_block HM2.out 10
    have m14 := cell_of_block HM2.out 14
    simp only [List.getElem?_toArray, List.getElem?_cons_zero, List.getElem?_cons_succ] at m0 m1 m5 m6 m10 m14
    have ht1 : (d.txt ++ bbn).size = d.txt.size + bbn.size := by simp [ByteArray.size_append]
    cases ai with
    | true =>
      cases bi with
      | true =>
        have HNX2 := Lib.hid (show List.foldl thenS drZ (List.take (k + 1) xs) = _ from HNX.out.trans (by rw [thenS, if_pos rfl, if_pos rfl]))
        gi_wp2
        exact ⟨HV2.out, ⟨⟨ev2, pv2, ps2, by rw [HNX2.out]; exact HD2.out, by omega⟩, HG2.out⟩⟩
      | false =>
        have HNX2 := Lib.hid (show List.foldl thenS drZ (List.take (k + 1) xs) = _ from HNX.out.trans (by rw [thenS, if_pos rfl, if_neg (by simp)]))
        obtain ⟨⟨y0, y0'⟩, y1, y2, y3⟩ := HX8.out rfl
        simp only at HNX2
        obtain ⟨f, hf⟩ : ∃ f : Nat, xa - ala = (f : Int) := ⟨(xa - ala).toNat, by omega⟩
        obtain ⟨t, ht⟩ : ∃ t : Nat, xa - ala + xl = (t : Int) := ⟨(xa - ala + xl).toNat, by omega⟩
        have z1 : IntKind.i64.wrap (xa - ala) = (f : Int) := by rw [← hf]; exact IntWalk.i64_in _ (by omega)
        have z2 : IntKind.i64.wrap ((f : Int) + xl) = (t : Int) := by rw [show (f : Int) + xl = t by omega]; exact IntWalk.i64_in _ (by omega)
        have z3 : (0 : Int) ≤ (f : Int) := by omega
        have z4 : (f : Int) ≤ (t : Int) := by omega
        have z5 : (t : Int) ≤ (aln.size : Int) := by omega
        have z6 : (0 : Int) ≤ (t : Int) := by omega
        rw [ht, hf, Int.toNat_natCast, Int.toNat_natCast] at HNX2
        have hsz : (aln.extract f t).size ≤ 40000 := by rw [ByteArray.size_extract]; omega
        have HPC := Lib.hid (dput_any w.heap.size Bd _ ev2 pv2 ps2 (aln.extract f t) W2 HD2.out (by omega) HG2.out.size)
        unfold DrPost at HPC
        clear hf ht
        gi_wp2
        refine ⟨trivial, CallsIn.inRound l (callsIn_wide.2 (HPC.out.mono ?_))⟩
        rintro e W3 ⟨⟨v3, rfl⟩, ev3, pv3, ps3, hd3, f3, -, -, hp3⟩
        gi_wp2
        exact ⟨HV2.out.trans (HD2.out.mv f3), ⟨⟨ev3, pv3, ps3, by rw [HNX2.out]; exact hd3, by omega⟩, HD2.out.grow f3 HG2.out HBd.out.1 (Nat.le_refl _)⟩⟩
    | false =>
      cases bi with
      | true =>
        have HNX2 := Lib.hid (show List.foldl thenS drZ (List.take (k + 1) xs) = _ from HNX.out.trans (by rw [thenS, if_neg (by simp), if_pos rfl]))
        have HPC := Lib.hid (ddrop_any w.heap.size Bd _ ev2 pv2 ps2 xl W2 HD2.out (by simp only; omega))
        unfold DrPost at HPC
        gi_wp2
        refine ⟨trivial, CallsIn.inRound l (callsIn_wide.2 (HPC.out.mono ?_))⟩
        rintro e W3 ⟨⟨v3, rfl⟩, ev3, pv3, ps3, hd3, f3, -, -, hp3⟩
        gi_wp2
        exact ⟨HV2.out.trans (HD2.out.mv f3), ⟨⟨ev3, pv3, ps3, by rw [HNX2.out]; exact hd3, by omega⟩, HD2.out.grow f3 HG2.out HBd.out.1 (Nat.le_refl _)⟩⟩
      | false =>
        have HNX2 := Lib.hid (show List.foldl thenS drZ (List.take (k + 1) xs) = _ from HNX.out.trans (by rw [thenS, if_neg (by simp), if_neg (by simp)]))
        have HPC := Lib.hid (dkeep_any w.heap.size Bd _ ev2 pv2 ps2 xl W2 HD2.out (by omega) (by simp only; omega) (by simp only; rw [ht1]; omega) HG2.out.size (by simp only; omega) (by simp only; omega) (by omega))
        unfold DrPost at HPC
        gi_wp2
        refine ⟨trivial, CallsIn.inRound l (callsIn_wide.2 (HPC.out.mono ?_))⟩
        rintro e W3 ⟨⟨v3, rfl⟩, ev3, pv3, ps3, hd3, f3, -, -, hp3⟩
        gi_wp2
        exact ⟨HV2.out.trans (HD2.out.mv f3), ⟨⟨ev3, pv3, ps3, by rw [HNX2.out]; exact hd3, by omega⟩, HD2.out.grow f3 HG2.out HBd.out.1 (Nat.le_refl _)⟩⟩
  case done =>
    intro D W hD hI hK
    obtain ⟨⟨ev, pv, ps, hd, hp⟩, hg⟩ := hI
    have hbd := then_bd xs HXS.out xs.length
    rw [List.take_length] at hd hbd
    obtain ⟨hb1, hb2, ⟨hb3, hb3'⟩, hb4⟩ := hbd
    have HCH := dchange_any w.heap.size Bd _ ev pv ps W hd (by omega) (by omega) (by omega) hg.size (by omega) (by omega)
    have HR := Lib.hid (show P = MgPost (xs.foldl thenS drZ).close.out w from HP.out.symm)
    generalize (xs.foldl thenS drZ) = d at hd HCH HR
    generalize d.close = dc at HCH HR
    have HD := Lib.hid hd
    have HGW := Lib.hid hg
    have HK := Lib.hid hK
    unfold ChgPost at HCH
    replace HCH := Lib.hid HCH
    clear hd hg hK hb1 hb2 hb3 hb3' hb4 hp
    gi_wp2
    refine ⟨trivial, callsIn_wide.2 (HCH.out.mono ?_)⟩
    rintro e W1 ⟨ev1, pv1, ps1, rfl, hd1, f1, -, -⟩
    have HG1 := Lib.hid (HD.out.grow f1 HGW.out HBd.out.1 (Nat.le_refl _))
    have HK1 := Lib.hid ((HD.out.mv f1).same _ _ HK.out (fun _ _ _ e => by cases e))
    have HD1 := Lib.hid hd1
    clear hd1 f1 HCH
    have HPUT : ∀ (v : Value) (l : List Ed), W1.ownsRow w.heap.size 47 3 v l.length (edC l) → MgPost l w (.returned v) (W1.putObj D (.deferred none)) := fun v l h3 =>
      ⟨v, rfl, own_keep h3 (fun b cs hb => (World.putObj_heap_other (by rintro rfl; rw [HK1.out] at hb; cases hb)).trans hb), grow_turn (U := Uu) HG1.out hws (Turn.put _ hD HK1.out rfl)⟩
    replace HPUT := Lib.hid HPUT
    gi_wp2
    rw [HR.out]
    refine ⟨by simp, .inl ⟨D, _, rfl, run_takeDeferred HK1.out, ?_⟩⟩
    exact ⟨_, by simp [results, Try.results84, go_sem], HPUT.out _ _ HD1.out.eds⟩
end Go.Proofs.Ytajigndlcdiinaa
