/- The law ChangesFollow, from what the package's functions do. -/
import Derived.Test.YtajigndlcdiinaaDQ4
import Derived.Test.YtajigndlcdiinaaDL1
namespace Go.Proofs.Ytajigndlcdiinaa
open Go.RowKit

/-- edit.Then is as the document says. -/
def ThenC : Prop := ∀ (n : Int) (a b : Option Addr) (c1 c2 : Nat) (es fs : List Ed) (w : World), -1000000 ≤ n ∧ n ≤ 1000000 → es.length ≤ 100000 → fs.length ≤ 100000 → EdsSmall es → EdsSmall fs → Eds w a es → Eds w b fs →
  Calls Try.prog 27 #[.int .i64 n, .slice a es.length c1, .slice b fs.length c2] w (EdsErrPost (thenVl n es fs) (thenEr n es fs) w)
/-- edit.Fold is as the document says. -/
def FoldC : Prop := ∀ (n : Int) (a : Option Addr) (cap : Nat) (cs : List (List Ed)) (w : World), -1000000 ≤ n ∧ n ≤ 1000000 → cs.length ≤ 100000 → cs.length ≤ cap → (∀ c, c ∈ cs → EdsSmall c ∧ c.length ≤ 100000) → Chs w a cs →
  Calls Try.prog 28 #[.int .i64 n, .slice a cs.length cap] w (EdsErrPost (foldR n cs).1 (foldR n cs).2 w)

theorem own_new {w : World} {base : Nat} (hb : base ≤ w.heap.size) (vs : List Value) (e : TypeId) (hl : vs.length ≤ 1000) : (w.alloc (.cells vs.toArray e)).ownsRow base e 1 (.slice (some ⟨w.heap.size, 0, none⟩) vs.length vs.length) vs.length vs :=
  ⟨by simp, .inr ⟨w.heap.size, vs.length, vs.toArray, rfl, hb, heap_alloc_new w _, Nat.le_refl _, by unfold maxLen; omega, by simp, by simp⟩⟩

/-- Slices of edits, each one held, in an owned row. -/
def ChVals (w : World) : List Value → List (List Ed) → Prop
  | [], [] => True
  | v :: vs, c :: cs => (∃ a cap, v = .slice a c.length cap ∧ Eds w a c) ∧ ChVals w vs cs
  | _, _ => False
theorem ChVals.len {w : World} : ∀ {vs : List Value} {cs : List (List Ed)}, ChVals w vs cs → vs.length = cs.length
  | [], [], _ => rfl
  | _ :: _, _ :: _, h => by simp [ChVals.len h.2]
theorem ChVals.get {w : World} : ∀ {vs : List Value} {cs : List (List Ed)}, ChVals w vs cs → ∀ j, (h : j < cs.length) → ∃ a cap, vs[j]? = some (.slice a (cs[j]).length cap) ∧ Eds w a cs[j]
  | [], [], _, j, hj => by simp at hj
  | v :: vs, c :: cs, h, 0, _ => by obtain ⟨⟨a, cap, rfl, hE⟩, _⟩ := h; exact ⟨a, cap, rfl, hE⟩
  | v :: vs, c :: cs, h, j + 1, hj => by simpa using ChVals.get h.2 j (by simpa using hj)

/-- An owned row of slices as a slice of changes, or as its beginning. -/
theorem chs_of_own {w : World} {base : Nat} {a : Option Addr} {cp : Nat} {vs : List Value} {cs : List (List Ed)} {n : Nat} (h : w.ownsRow base 28 /-t:[]api.Edit-/ 1 (.slice a n cp) n vs) (hv : ChVals w vs cs) (h0 : 0 < n) : Chs w a cs := by
  obtain ⟨g, cap, hv2, hg, hc⟩ := ownsRow_cell h h0
  simp only [Value.slice.injEq] at hv2
  obtain ⟨rfl, _, rfl⟩ := hv2
  intro j hj
  obtain ⟨av, cap2, h1, h2⟩ := hv.get j hj
  exact ⟨g, 0, av, cap2, rfl, by rw [Nat.zero_add]; exact hc j _ h1, h2⟩
theorem Chs.take {w : World} {a : Option Addr} {cs : List (List Ed)} (h : Chs w a cs) (r : Nat) : Chs w a (cs.take r) := by
  intro j hj
  have hj2 : j < cs.length := by simp at hj; omega
  obtain ⟨g, off, av, cap, e, h1, h2⟩ := h j hj2
  exact ⟨g, off, av, cap, e, by simpa using h1, by simpa using h2⟩

theorem foldGo_len (n : Int) : ∀ (cs : List (List Ed)) (out : List Ed), out.length ≤ 20001 → (foldGo n out cs).1.length ≤ 20001
  | [], out, h => h
  | c :: r, out, h => by
    rw [foldGo]
    split
    · simp
    · exact foldGo_len n r _ (thenVl_ok n out c).2
theorem foldR_len (n : Int) (cs : List (List Ed)) : (foldR n cs).1.length ≤ 20001 := by
  unfold foldR
  split
  · simp
  · split
    · simp
    · exact foldGo_len n cs [] (by simp)

theorem Eds.lt {w : World} {a : Option Addr} {es : List Ed} (h : Eds w a es) : ∀ j, j < es.length → ∀ x, a = some x → x.block < w.heap.size := by
  intro j hj x hx
  obtain ⟨g, off, e, h1, _⟩ := h j hj
  rw [hx] at e
  simp at e
  subst e
  have : g < w.heap.size := World.block_lt_of_cell? w _ h1
  exact this
theorem Eds.grown2 {w w' : World} {a es} {row : Option Nat} (h : Eds w a es) (g : w.grownBy w' row) (ha : ∀ j, j < es.length → ∀ x, a = some x → some x.block ≠ row) : Eds w' a es := by
  intro j hj
  obtain ⟨b, off, e, h1, h2, h3⟩ := h j hj
  have := ha j hj _ e
  exact ⟨b, off, e, g.cell h1 this, g.cell h2 this, g.cell h3 this⟩
theorem Strm.ltL {b av cap xs w k} (h : Strm b av cap xs w k) : ∀ j, j < xs.length → ∀ x, av = some x → x.block < w.heap.size := by
  intro j hj x hx
  obtain ⟨bl, off, e, _, hc⟩ := h.el j hj
  rw [hx] at e
  simp at e
  subst e
  have : bl < w.heap.size := World.block_lt_of_cell? w _ hc
  exact this
theorem Strm.grown2 {b av cap xs w w' k} {row : Option Nat} (h : Strm b av cap xs w k) (g : w.grownBy w' row) (hr : row ≠ some b)
    (he : ∀ j, j < xs.length → ∀ a, av = some a → row ≠ some a.block) : Strm b av cap xs w' k := by
  refine ⟨by rw [g.block b h.lt (fun e => hr e.symm)]; exact h.blk, fun j hj => ?_⟩
  obtain ⟨bl, off, e, hb, hc⟩ := h.el j hj
  exact ⟨bl, off, e, hb, g.cell hc (fun e' => he j hj _ e e'.symm)⟩

theorem ownsRow_sliceCap {w : World} {base : Nat} {e : TypeId} {size : Nat} {v : Value} {n : Nat} {xs : List Value} (h : w.ownsRow base e size v n xs) : ∃ a c, v = .slice a n c ∧ n ≤ c := by
  rcases h.2 with ⟨rfl, rfl⟩ | ⟨g, cap, cur, rfl, _, _, hc, _⟩
  · exact ⟨none, 0, rfl, Nat.le_refl _⟩
  · exact ⟨_, _, rfl, hc⟩

theorem infoSl : (Try.prog.info? 28 /-t:[]api.Edit-/).map (fun i => (i.zero, i.size, i.bytes)) = some (some (.slice none 0 0), 1, 24) := by kernel_rfl

set_option maxHeartbeats 16000000 in
set_option maxRecDepth 100000 in
theorem changesFollow_any (HTH : Hid ThenC) (HFO : Hid FoldC) (HD : Hid EditedC) (av : Option Addr) (cap : Nat) (xs : List Int) (w : World) (hx2 : xs.length ≤ 9223372036854775807)
    (hel : ∀ j, j < xs.length → ∃ bl off, av = some ⟨bl, off, none⟩ ∧ w.cell? ⟨bl, off + j, none⟩ = some (.int .i64 (xs.getD j 0))) :
    Calls Try.prog 4 #[.slice av xs.length cap] w (LawPost w) := by
  obtain ⟨i0, hi, hz0, hz1, hz2⟩ := info_parts infoSl
  have S0 : Strm w.heap.size av cap xs (w.alloc (.cells #[.slice av xs.length cap, .int .i64 0] 25 /-t:hedgelayer/hgmake.Stream-/)) 0 := by
    refine ⟨heap_alloc_new w _, fun j hj => ?_⟩
    obtain ⟨bl, off, e, hc⟩ := hel j hj
    have := World.block_lt_of_cell? w _ hc
    exact ⟨bl, off, e, by simp at this; omega, World.grownBy.cell (World.grownBy_alloc w _ none) hc (by simp)⟩
  have G0 := World.grownBy_alloc w (.cells #[.slice av xs.length cap, .int .i64 0] 25 /-t:hedgelayer/hgmake.Stream-/) none
  clear hel
  go_enter Try.func4, Try.ntmps4
  go_wp2_with fail
  refine (range_any 0 10 (by omega) (by omega) (by omega) hx2 S0).mono ?_
  rintro e w1 ⟨rfl, T1⟩
  have r1 := rangev_bd xs 0 0 10
  have rk1 := rangek_le 0 0 10
  have G1 := sto_none T1 G0 (Nat.le_refl _)
  generalize rangev xs 0 0 10 = n at r1 ⊢
  obtain ⟨k1, hk1⟩ : ∃ k, k = rangek 0 0 10 := ⟨_, rfl⟩
  rw [← hk1] at T1 rk1
  have hn : 0 ≤ n ∧ n ≤ 10 := by omega
  clear r1 hk1 S0 G0
  go_wp2_with fail
  refine (change_any n (by omega) (by omega) hx2 T1.strm).mono ?_
  rintro e w2 ⟨v, rfl, own, T2⟩
  obtain ⟨c1, c2, c3, c4⟩ := change_small xs k1 n (by omega)
  have G2 := sto_none T2 G1 (Nat.le_refl _)
  obtain ⟨k2, hk2⟩ : ∃ k, k = changeK xs k1 n := ⟨_, rfl⟩
  rw [← hk2] at T2 c3 c4
  have hk2b : k2 ≤ 40 := by omega
  generalize changeV xs k1 n = es at c1 c2 own
  have hsm := small_of es c1
  obtain ⟨a, cp, rfl, hE2, hab⟩ := eds_of_own own
  have hab2 : ∀ x, a = some x → some x.block ≠ some w.heap.size := fun x hx => by have := hab x hx; have := G1.size; have := T1.strm.lt; simp; omega
  clear own hab c1 hk2 c3 c4 T1 rk1 G1
  by_cases hA : changeFault n es = 0
  · have HA := Lib.hid hA
    have qA := right_all hA
    have hmb : (flowL es n).length ≤ 20000 := qA.2.2.2.2.2
    have hbA : (changeFault n es == 0) = true := by rw [hA]; rfl
    clear hA qA
    go_wp2_with fail
    refine (changeFault_any n a cp es w2 (by omega) hE2 hsm).mono ?_
    rintro e w3 ⟨rfl, g3⟩
    go_wp2_with fail
    refine (lengthOf_any n a cp es w3 HA.out (hE2.grown g3 (by simp))).mono ?_
    rintro e w4 ⟨rfl, g4⟩
    have gg := grownBy_trans g3 g4
    have G4 := grownBy_trans G2 gg
    have S4 := T2.strm.grown gg (by simp) (by simp)
    have hE4 := hE2.grown gg (by simp)
    obtain ⟨m, hm⟩ : ∃ m : Int, m = ((flowL es n).length : Int) := ⟨_, rfl⟩
    rw [← hm]
    have hmm : 0 ≤ m ∧ m ≤ 20000 := by omega
    clear g3 g4 gg T2 hE2 G2 hmb HA hm
    go_wp2_with fail
    refine (change_any m (by omega) (by omega) hx2 S4).mono ?_
    rintro e w5 ⟨v, rfl, own, T5⟩
    obtain ⟨c1, c2', c3, c4⟩ := change_small xs k2 m (by omega)
    have G5 := sto_none T5 G4 (Nat.le_refl _)
    have hE5 := hE4.grown T5.grow hab2
    obtain ⟨k3, hk3⟩ : ∃ k, k = changeK xs k2 m := ⟨_, rfl⟩
    rw [← hk3] at T5 c3 c4
    have hk3b : k3 ≤ 60 := by omega
    generalize changeV xs k2 m = fs at c1 c2' own
    have hsf := small_of fs c1
    obtain ⟨b, cq, rfl, hF5, hbb⟩ := eds_of_own own
    have hbb2 : ∀ x, b = some x → some x.block ≠ some w.heap.size := fun x hx => by have := hbb x hx; have := S4.lt; simp; omega
    clear own hbb c1 hk3 c3 c4 S4 hE4 G4
    have hs5 := G5.size
    have oA := own_new (w := w5) hs5 [.slice a es.length cp, .slice b fs.length cq] 28 /-t:[]api.Edit-/ (by simp)
    have G6 := grow_alloc G5 (.cells #[.slice a es.length cp, .slice b fs.length cq] 28 /-t:[]api.Edit-/)
    have S6 := T5.strm.alloc (.cells #[.slice a es.length cp, .slice b fs.length cq] 28 /-t:[]api.Edit-/)
    have hE6 := hE5.grown (World.grownBy_alloc w5 (.cells #[.slice a es.length cp, .slice b fs.length cq] 28 /-t:[]api.Edit-/) none) (by simp)
    have hF6 := hF5.grown (World.grownBy_alloc w5 (.cells #[.slice a es.length cp, .slice b fs.length cq] 28 /-t:[]api.Edit-/) none) (by simp)
    have hEl := Lib.hid hE5.lt
    have hFl := Lib.hid hF5.lt
    have hSl := Lib.hid T5.strm.ltL
    have hb5 := T5.strm.lt
    have hb5' : w.heap.size < w5.heap.size := by have := T5.grow.size; omega
    clear T5 hE5 hF5 G5 hs5
    obtain ⟨w6, hw6⟩ : ∃ w6, w6 = w5.alloc (.cells #[.slice a es.length cp, .slice b fs.length cq] 28 /-t:[]api.Edit-/) := ⟨_, rfl⟩
    have oA' : w6.ownsRow w.heap.size 28 /-t:[]api.Edit-/ 1 (.slice (some ⟨w5.heap.size, 0, none⟩) 2 2) 2 [.slice a es.length cp, .slice b fs.length cq] := by rw [hw6]; exact oA
    rw [← hw6] at G6 S6 hE6 hF6
    have HW := Lib.hid hw6
    clear oA hw6
    by_cases hB : changeFault m fs = 0
    · by_cases hfl : flipv xs k3 2 = true
      · have hbB : (changeFault m fs == 0) = true := by rw [hB]; rfl
        have HB := Lib.hid hB
        have qB := right_all hB
        have hmB : (flowL fs m).length ≤ 20000 := qB.2.2.2.2.2
        clear hB qB
        go_wp2_with fail
        rw [← HW.out]
        refine (changeFault_any m b cq fs w6 (by omega) hF6 hsf).mono ?_
        rintro e w7 ⟨rfl, g7⟩
        have G7 := grownBy_trans G6 g7
        have S7 := S6.grown g7 (by simp) (by simp)
        have hE7 := hE6.grown g7 (by simp)
        have hF7 := hF6.grown g7 (by simp)
        have oB := ownsRow_frm (Frm.of_grown g7 (fun _ _ => True)) oA' (fun _ _ _ _ => trivial)
        clear g7 G6 S6 hE6 hF6 oA'
        go_wp2_with fail
        refine (flip_any 2 (by omega) (by omega) hx2 S7).mono ?_
        rintro e wf ⟨rfl, Tf⟩
        have Gf := sto_none Tf G7 (Nat.le_refl _)
        have Sf := Tf.strm
        have oF := Tf.own S7 oB (by decide)
        have hEf := hE7.grown Tf.grow hab2
        have hFf := hF7.grown Tf.grow hbb2
        clear Tf G7 S7 oB hE7 hF7
        rw [hfl]
        go_wp2_with fail
        refine (lengthOf_any m b cq fs wf HB.out hFf).mono ?_
        rintro e wg ⟨rfl, gg⟩
        have Gg := grownBy_trans Gf gg
        have Sg := Sf.grown gg (by simp) (by simp)
        have hEg := hEf.grown gg (by simp)
        have hFg := hFf.grown gg (by simp)
        have oG := ownsRow_frm (Frm.of_grown gg (fun _ _ => True)) oF (fun _ _ _ _ => trivial)
        obtain ⟨m2, hm2⟩ : ∃ m2 : Int, m2 = ((flowL fs m).length : Int) := ⟨_, rfl⟩
        rw [← hm2]
        have hm2b : 0 ≤ m2 ∧ m2 ≤ 20000 := by omega
        clear gg Gf Sf hEf hFf oF HB hm2 hmB
        go_wp2_with fail
        refine (change_any m2 (by omega) (by omega) hx2 Sg).mono ?_
        rintro e wh ⟨v, rfl, own, Th⟩
        obtain ⟨d1, d2, d3, d4⟩ := change_small xs (k3 + 1) m2 (by omega)
        have Gh := sto_none Th Gg (Nat.le_refl _)
        have Sh := Th.strm
        have hEh := hEg.grown Th.grow hab2
        have hFh := hFg.grown Th.grow hbb2
        have oH := Th.own Sg oG (by decide)
        obtain ⟨k7, hk7⟩ : ∃ k7, k7 = changeK xs (k3 + 1) m2 := ⟨_, rfl⟩
        rw [← hk7] at Sh d3 d4
        have hk7b : k7 ≤ 200 := by omega
        generalize changeV xs (k3 + 1) m2 = hs at d1 d2 own
        have hsh := small_of hs d1
        obtain ⟨c, cr, rfl, hCh, hcc⟩ := eds_of_own own
        have hcc2 : ∀ x, c = some x → some x.block ≠ some w.heap.size := fun x hx => by have := hcc x hx; have := Sg.lt; simp; omega
        have hCb : Hid (∀ x, c = some x → w5.heap.size < x.block) := fun x hx => by have := hcc x hx; have := Lib.hid Gg.size; have := (oG.lt w5.heap.size rfl).2; omega
        clear Th Gg Sg hEg hFg oG own hcc d1 d3 d4 hk7
        have hsz := Gh.size
        go_wp2_with (at_builtin; refine wpList_append_own _ rfl (.tmp 47) (.tmp 53) 51 /-t:[][]api.Edit-/ rfl w.heap.size 28 /-t:[]api.Edit-/ i0 (.slice none 0 0) 1 24 Try.underlying51 /-t:[][]api.Edit-/ hi hz0 hz1 hz2 rfl (by decide) _ _ _ rfl (oH.alloc _) ⟨wh.heap.size, 0, none⟩ 1 1 [.slice c hs.length cr] rfl rfl (cells_new _ _ _) (fun x hx => by simp at hx; subst hx; rfl) (by unfold maxLen; omega) (by omega) (by simp; omega) ?_; intro v' w7 hown' hgrow _; have hrow : ∀ (r : Option Nat), r = some w5.heap.size → r ≠ some w.heap.size := (fun r hr => by rw [hr]; simp; omega); have hgr : (wh.alloc (.cells #[.slice c hs.length cr] 28 /-t:[]api.Edit-/)).grownBy w7 (some w5.heap.size) := hgrow; have S7 := (Sh.alloc (.cells #[.slice c hs.length cr] 28 /-t:[]api.Edit-/)).grown2 hgr (by simp; omega) (fun j hj x hx => by have := hSl.out j hj x hx; simp; omega); have G7 := grow_row (grow_alloc Gh (.cells #[.slice c hs.length cr] 28 /-t:[]api.Edit-/)) hgr (fun k hk => by simp at hk; omega); have hE7 := (hEh.grown (World.grownBy_alloc wh (.cells #[.slice c hs.length cr] 28 /-t:[]api.Edit-/) none) (by simp)).grown2 hgr (fun j hj x hx => by have := hEl.out j hj x hx; simp; omega); have hF7 := (hFh.grown (World.grownBy_alloc wh (.cells #[.slice c hs.length cr] 28 /-t:[]api.Edit-/) none) (by simp)).grown2 hgr (fun j hj x hx => by have := hFl.out j hj x hx; simp; omega); have hC7 := (hCh.grown (World.grownBy_alloc wh (.cells #[.slice c hs.length cr] 28 /-t:[]api.Edit-/) none) (by simp)).grown2 hgr (fun j hj x hx => by have := hCb.out x hx; simp; omega); have oB := hown'; obtain ⟨ad, cpp, rfl, hcpp⟩ := ownsRow_sliceCap oB; simp only [List.cons_append, List.nil_append] at oB; clear hown' hgrow hgr hrow Sh Gh hEh hFh hCh oH)
        have hall : ∀ c, c ∈ [es, fs, hs] → EdsSmall c ∧ c.length ≤ 100000 := by
          intro c hc; simp at hc; rcases hc with rfl | rfl | rfl
          · exact ⟨hsm, by omega⟩
          · exact ⟨hsf, by omega⟩
          · exact ⟨hsh, by omega⟩
        go_wp2_with fail
        refine (range_any 0 3 (by omega) (by omega) (by omega) hx2 S7).mono ?_
        rintro e w8 ⟨rfl, T8⟩
        have r8 := rangev_bd xs k7 0 3
        have G8 := sto_none T8 G7 (Nat.le_refl _)
        have oC := T8.own S7 oB (by decide)
        have hE8 := hE7.grown T8.grow hab2
        have hF8 := hF7.grown T8.grow hbb2
        have hC8 := hC7.grown T8.grow hcc2
        have hv : ChVals w8 [.slice a es.length cp, .slice b fs.length cq, .slice c hs.length cr] [es, fs, hs] := ⟨⟨a, cp, rfl, hE8⟩, ⟨b, cq, rfl, hF8⟩, ⟨c, cr, rfl, hC8⟩, trivial⟩
        have hch := chs_of_own oC hv (by omega)
        clear T8 S7 oB oC hv hE7 hF7 G7 hab2 hbb2 hC7 hC8 hcc2
        obtain ⟨r, hr⟩ := Int.eq_ofNat_of_zero_le r8.1
        rw [hr] at r8 ⊢
        have hr2 : r ≤ 3 := by omega
        clear hr r8
        have hch2 := hch.take r
        have hlen : ([es, fs, hs].take r).length = r := by simp; omega
        have hall2 : ∀ c, c ∈ [es, fs, hs].take r → EdsSmall c ∧ c.length ≤ 100000 := fun c hc => hall c (List.mem_of_mem_take hc)
        generalize [es, fs, hs].take r = cs at hch2 hlen hall2
        clear hch hall
        have i1 : (0 : Int) ≤ (r : Int) := by omega
        have i2 : (r : Int) ≤ 3 := by omega
        have i3 : (r : Int) ≤ (cpp : Int) := by omega
        have i4 : r ≤ cpp := by omega
        have HTH2 : Hid (∀ W, w8.grownBy W none → Calls Try.prog 27 #[.int .i64 n, .slice a es.length cp, .slice b fs.length cq] W (EdsErrPost (thenVl n es fs) (thenEr n es fs) W)) :=
          fun W g => HTH.out n a b cp cq es fs W (by omega) (by omega) (by omega) hsm hsf (hE8.grown g (by simp)) (hF8.grown g (by simp))
        have HTO : Hid (∀ W, w8.grownBy W none → Calls Try.prog 29 #[.int .i64 n, .slice a es.length cp, .slice b fs.length cq] W (EdsErrPost (thenVl n es fs) (thenEr n es fs) W)) :=
          fun W g => thenOf_any n a b cp cq es fs W (by omega) (by omega) (hE8.grown g (by simp)) (hF8.grown g (by simp)) hsm hsf
        have HFO2 : Hid (∀ W cc, w8.grownBy W none → r ≤ cc → Calls Try.prog 28 #[.int .i64 n, .slice ad r cc] W (EdsErrPost (foldR n cs).1 (foldR n cs).2 W)) := fun W cc g hrc => by
          have := HFO.out n ad cc cs W (by omega) (by omega) (by omega) hall2 (hch2.grown g)
          rwa [hlen] at this
        have HFF : Hid (∀ W cc, w8.grownBy W none → Calls Try.prog 30 #[.int .i64 n, .slice ad r cc] W (EdsErrPost (foldR n cs).1 (foldR n cs).2 W)) := fun W cc g => by
          have := foldOf_any n ad cc cs W (by omega) (hch2.grown g) (fun c hc => ⟨(hall2 c hc).1, by have := (hall2 c hc).2; omega⟩)
          rwa [hlen] at this
        have hbT := (thenVl_ok n es fs).2
        have hbF := foldR_len n cs
        clear hE8 hF8 hch2 hlen hall2 hsm hsf hsh
        generalize thenVl n es fs = tv at HTH2 HTO hbT
        generalize thenEr n es fs = te at HTH2 HTO
        generalize (foldR n cs).1 = fv at HFO2 HFF hbF
        generalize (foldR n cs).2 = fe at HFO2 HFF
        go_wp2_with fail
        refine (HTH2.out w8 (grow_self w8)).mono ?_
        rintro e w9 ⟨x, rfl, ox, g9⟩
        go_wp2_with fail
        refine (HFO2.out w9 _ g9 (by omega)).mono ?_
        rintro e w10 ⟨y, rfl, oy, g10⟩
        have g8a := grownBy_trans g9 g10
        go_wp2_with fail
        refine (HTO.out w10 g8a).mono ?_
        rintro e w11 ⟨wx, rfl, owx, g11⟩
        have g8b := grownBy_trans g8a g11
        go_wp2_with fail
        refine (HFF.out w11 _ g8b).mono ?_
        rintro e w12 ⟨wy, rfl, owy, g12⟩
        have up : ∀ {W : World} {ba : Nat} {v : Value} {l : List Ed}, W.grownBy w12 none → W.ownsRow ba 47 /-t:hedgelayer/api.Edit-/ 3 v l.length (edCells l) → w12.ownsRow ba 47 /-t:hedgelayer/api.Edit-/ 3 v l.length (edCells l) :=
          fun g o => ownsRow_frm (Frm.of_grown g (fun _ _ => True)) o (fun _ _ _ _ => trivial)
        have px := up (grownBy_trans g10 (grownBy_trans g11 g12)) ox
        have py := up (grownBy_trans g11 g12) oy
        have pwx := up g12 owx
        have G12 := grownBy_trans G8 (grownBy_trans g8b g12)
        clear ox oy owx g9 g10 g11 g12 g8a g8b G8 HTH2 HTO HFO2 HFF
        have E1 : Hid (∀ W, w12.grownBy W none → Calls Try.prog 23 #[x, wx] W fun e w' => e = .returned (.bool true) ∧ W.grownBy w' none) := fun W g =>
          equalEd_own (by omega) (ownsRow_frm (Frm.of_grown g (fun _ _ => True)) px (fun _ _ _ _ => trivial)) (ownsRow_frm (Frm.of_grown g (fun _ _ => True)) pwx (fun _ _ _ _ => trivial))
        have E2 : Hid (∀ W, w12.grownBy W none → Calls Try.prog 23 #[y, wy] W fun e w' => e = .returned (.bool true) ∧ W.grownBy w' none) := fun W g =>
          equalEd_own (by omega) (ownsRow_frm (Frm.of_grown g (fun _ _ => True)) py (fun _ _ _ _ => trivial)) (ownsRow_frm (Frm.of_grown g (fun _ _ => True)) owy (fun _ _ _ _ => trivial))
        clear px py pwx owy up
        go_wp2_with fail
        refine (E1.out w12 (grow_self w12)).mono ?_
        rintro e w13 ⟨rfl, g13⟩
        go_wp2_with fail
        refine (E2.out w13 g13).mono ?_
        rintro e w14 ⟨rfl, g14⟩
        go_wp2_with fail
        refine (HD.out w14).mono ?_
        rintro e w15 ⟨rfl, g15⟩
        go_wp2_with fail
        go_ret
        exact ⟨rfl, grownBy_trans G12 (grownBy_trans g13 (grownBy_trans g14 g15))⟩
      · have hfl := (Bool.not_eq_true _).mp hfl
        have hbB : (changeFault m fs == 0) = true := by rw [hB]; rfl
        have HB := Lib.hid hB
        have qB := right_all hB
        have hmB : (flowL fs m).length ≤ 20000 := qB.2.2.2.2.2
        clear hB qB
        go_wp2_with fail
        rw [← HW.out]
        refine (changeFault_any m b cq fs w6 (by omega) hF6 hsf).mono ?_
        rintro e w7 ⟨rfl, g7⟩
        have G7 := grownBy_trans G6 g7
        have S7 := S6.grown g7 (by simp) (by simp)
        have hE7 := hE6.grown g7 (by simp)
        have hF7 := hF6.grown g7 (by simp)
        have oB := ownsRow_frm (Frm.of_grown g7 (fun _ _ => True)) oA' (fun _ _ _ _ => trivial)
        clear g7 G6 S6 hE6 hF6 oA'
        go_wp2_with fail
        refine (flip_any 2 (by omega) (by omega) hx2 S7).mono ?_
        rintro e wf ⟨rfl, Tf⟩
        have Gf := sto_none Tf G7 (Nat.le_refl _)
        have Sf := Tf.strm
        have oF := Tf.own S7 oB (by decide)
        have hEf := hE7.grown Tf.grow hab2
        have hFf := hF7.grown Tf.grow hbb2
        clear Tf G7 S7 oB hE7 hF7
        rw [hfl]
        have G7 := Gf
        have S7 := Sf
        have oB := oF
        have hE7 := hEf
        have hF7 := hFf
        clear Gf Sf oF hEf hFf HB hmB
        obtain ⟨k7, hk7⟩ : ∃ k7, k7 = k3 + 1 := ⟨_, rfl⟩
        rw [← hk7] at S7
        have hk7b : k7 ≤ 200 := by omega
        clear hk7
        obtain ⟨ad, had⟩ : ∃ ad, ad = some (⟨w5.heap.size, 0, none⟩ : Addr) := ⟨_, rfl⟩
        rw [← had] at oB ⊢
        clear had
        have hall : ∀ c, c ∈ [es, fs] → EdsSmall c ∧ c.length ≤ 100000 := by
          intro c hc; simp at hc; rcases hc with rfl | rfl
          · exact ⟨hsm, by omega⟩
          · exact ⟨hsf, by omega⟩
        go_wp2_with fail
        refine (range_any 0 2 (by omega) (by omega) (by omega) hx2 S7).mono ?_
        rintro e w8 ⟨rfl, T8⟩
        have r8 := rangev_bd xs k7 0 2
        have G8 := sto_none T8 G7 (Nat.le_refl _)
        have oC := T8.own S7 oB (by decide)
        have hE8 := hE7.grown T8.grow hab2
        have hF8 := hF7.grown T8.grow hbb2
        have hv : ChVals w8 [.slice a es.length cp, .slice b fs.length cq] [es, fs] := ⟨⟨a, cp, rfl, hE8⟩, ⟨b, cq, rfl, hF8⟩, trivial⟩
        have hch := chs_of_own oC hv (by omega)
        clear T8 S7 oB oC hv hE7 hF7 G7 hab2 hbb2
        obtain ⟨r, hr⟩ := Int.eq_ofNat_of_zero_le r8.1
        rw [hr] at r8 ⊢
        have hr2 : r ≤ 2 := by omega
        clear hr r8
        have hch2 := hch.take r
        have hlen : ([es, fs].take r).length = r := by simp; omega
        have hall2 : ∀ c, c ∈ [es, fs].take r → EdsSmall c ∧ c.length ≤ 100000 := fun c hc => hall c (List.mem_of_mem_take hc)
        generalize [es, fs].take r = cs at hch2 hlen hall2
        clear hch hall
        have i1 : (0 : Int) ≤ (r : Int) := by omega
        have i2 : (r : Int) ≤ 2 := by omega
        have HTH2 : Hid (∀ W, w8.grownBy W none → Calls Try.prog 27 #[.int .i64 n, .slice a es.length cp, .slice b fs.length cq] W (EdsErrPost (thenVl n es fs) (thenEr n es fs) W)) :=
          fun W g => HTH.out n a b cp cq es fs W (by omega) (by omega) (by omega) hsm hsf (hE8.grown g (by simp)) (hF8.grown g (by simp))
        have HTO : Hid (∀ W, w8.grownBy W none → Calls Try.prog 29 #[.int .i64 n, .slice a es.length cp, .slice b fs.length cq] W (EdsErrPost (thenVl n es fs) (thenEr n es fs) W)) :=
          fun W g => thenOf_any n a b cp cq es fs W (by omega) (by omega) (hE8.grown g (by simp)) (hF8.grown g (by simp)) hsm hsf
        have HFO2 : Hid (∀ W cc, w8.grownBy W none → r ≤ cc → Calls Try.prog 28 #[.int .i64 n, .slice ad r cc] W (EdsErrPost (foldR n cs).1 (foldR n cs).2 W)) := fun W cc g hrc => by
          have := HFO.out n ad cc cs W (by omega) (by omega) (by omega) hall2 (hch2.grown g)
          rwa [hlen] at this
        have HFF : Hid (∀ W cc, w8.grownBy W none → Calls Try.prog 30 #[.int .i64 n, .slice ad r cc] W (EdsErrPost (foldR n cs).1 (foldR n cs).2 W)) := fun W cc g => by
          have := foldOf_any n ad cc cs W (by omega) (hch2.grown g) (fun c hc => ⟨(hall2 c hc).1, by have := (hall2 c hc).2; omega⟩)
          rwa [hlen] at this
        have hbT := (thenVl_ok n es fs).2
        have hbF := foldR_len n cs
        clear hE8 hF8 hch2 hlen hall2 hsm hsf
        generalize thenVl n es fs = tv at HTH2 HTO hbT
        generalize thenEr n es fs = te at HTH2 HTO
        generalize (foldR n cs).1 = fv at HFO2 HFF hbF
        generalize (foldR n cs).2 = fe at HFO2 HFF
        go_wp2_with fail
        refine (HTH2.out w8 (grow_self w8)).mono ?_
        rintro e w9 ⟨x, rfl, ox, g9⟩
        go_wp2_with fail
        refine (HFO2.out w9 _ g9 (by omega)).mono ?_
        rintro e w10 ⟨y, rfl, oy, g10⟩
        have g8a := grownBy_trans g9 g10
        go_wp2_with fail
        refine (HTO.out w10 g8a).mono ?_
        rintro e w11 ⟨wx, rfl, owx, g11⟩
        have g8b := grownBy_trans g8a g11
        go_wp2_with fail
        refine (HFF.out w11 _ g8b).mono ?_
        rintro e w12 ⟨wy, rfl, owy, g12⟩
        have up : ∀ {W : World} {ba : Nat} {v : Value} {l : List Ed}, W.grownBy w12 none → W.ownsRow ba 47 /-t:hedgelayer/api.Edit-/ 3 v l.length (edCells l) → w12.ownsRow ba 47 /-t:hedgelayer/api.Edit-/ 3 v l.length (edCells l) :=
          fun g o => ownsRow_frm (Frm.of_grown g (fun _ _ => True)) o (fun _ _ _ _ => trivial)
        have px := up (grownBy_trans g10 (grownBy_trans g11 g12)) ox
        have py := up (grownBy_trans g11 g12) oy
        have pwx := up g12 owx
        have G12 := grownBy_trans G8 (grownBy_trans g8b g12)
        clear ox oy owx g9 g10 g11 g12 g8a g8b G8 HTH2 HTO HFO2 HFF
        have E1 : Hid (∀ W, w12.grownBy W none → Calls Try.prog 23 #[x, wx] W fun e w' => e = .returned (.bool true) ∧ W.grownBy w' none) := fun W g =>
          equalEd_own (by omega) (ownsRow_frm (Frm.of_grown g (fun _ _ => True)) px (fun _ _ _ _ => trivial)) (ownsRow_frm (Frm.of_grown g (fun _ _ => True)) pwx (fun _ _ _ _ => trivial))
        have E2 : Hid (∀ W, w12.grownBy W none → Calls Try.prog 23 #[y, wy] W fun e w' => e = .returned (.bool true) ∧ W.grownBy w' none) := fun W g =>
          equalEd_own (by omega) (ownsRow_frm (Frm.of_grown g (fun _ _ => True)) py (fun _ _ _ _ => trivial)) (ownsRow_frm (Frm.of_grown g (fun _ _ => True)) owy (fun _ _ _ _ => trivial))
        clear px py pwx owy up
        go_wp2_with fail
        refine (E1.out w12 (grow_self w12)).mono ?_
        rintro e w13 ⟨rfl, g13⟩
        go_wp2_with fail
        refine (E2.out w13 g13).mono ?_
        rintro e w14 ⟨rfl, g14⟩
        go_wp2_with fail
        refine (HD.out w14).mono ?_
        rintro e w15 ⟨rfl, g15⟩
        go_wp2_with fail
        go_ret
        exact ⟨rfl, grownBy_trans G12 (grownBy_trans g13 (grownBy_trans g14 g15))⟩
    · have hbB : (changeFault m fs == 0) = false := by simp [hB]
      clear hB
      go_wp2_with fail
      rw [← HW.out]
      refine (changeFault_any m b cq fs w6 (by omega) hF6 hsf).mono ?_
      rintro e w7 ⟨rfl, g7⟩
      have G7 := grownBy_trans G6 g7
      have S7 := S6.grown g7 (by simp) (by simp)
      have hE7 := hE6.grown g7 (by simp)
      have hF7 := hF6.grown g7 (by simp)
      have oB := ownsRow_frm (Frm.of_grown g7 (fun _ _ => True)) oA' (fun _ _ _ _ => trivial)
      obtain ⟨k7, hk7⟩ : ∃ k7, k7 = k3 := ⟨_, rfl⟩
      rw [← hk7] at S7
      have hk7b : k7 ≤ 200 := by omega
      clear g7 G6 S6 hE6 hF6 oA' hk7
      obtain ⟨ad, had⟩ : ∃ ad, ad = some (⟨w5.heap.size, 0, none⟩ : Addr) := ⟨_, rfl⟩
      rw [← had] at oB ⊢
      clear had
      have hall : ∀ c, c ∈ [es, fs] → EdsSmall c ∧ c.length ≤ 100000 := by
        intro c hc; simp at hc; rcases hc with rfl | rfl
        · exact ⟨hsm, by omega⟩
        · exact ⟨hsf, by omega⟩
      go_wp2_with fail
      refine (range_any 0 2 (by omega) (by omega) (by omega) hx2 S7).mono ?_
      rintro e w8 ⟨rfl, T8⟩
      have r8 := rangev_bd xs k7 0 2
      have G8 := sto_none T8 G7 (Nat.le_refl _)
      have oC := T8.own S7 oB (by decide)
      have hE8 := hE7.grown T8.grow hab2
      have hF8 := hF7.grown T8.grow hbb2
      have hv : ChVals w8 [.slice a es.length cp, .slice b fs.length cq] [es, fs] := ⟨⟨a, cp, rfl, hE8⟩, ⟨b, cq, rfl, hF8⟩, trivial⟩
      have hch := chs_of_own oC hv (by omega)
      clear T8 S7 oB oC hv hE7 hF7 G7 hab2 hbb2
      obtain ⟨r, hr⟩ := Int.eq_ofNat_of_zero_le r8.1
      rw [hr] at r8 ⊢
      have hr2 : r ≤ 2 := by omega
      clear hr r8
      have hch2 := hch.take r
      have hlen : ([es, fs].take r).length = r := by simp; omega
      have hall2 : ∀ c, c ∈ [es, fs].take r → EdsSmall c ∧ c.length ≤ 100000 := fun c hc => hall c (List.mem_of_mem_take hc)
      generalize [es, fs].take r = cs at hch2 hlen hall2
      clear hch hall
      have i1 : (0 : Int) ≤ (r : Int) := by omega
      have i2 : (r : Int) ≤ 2 := by omega
      have HTH2 : Hid (∀ W, w8.grownBy W none → Calls Try.prog 27 #[.int .i64 n, .slice a es.length cp, .slice b fs.length cq] W (EdsErrPost (thenVl n es fs) (thenEr n es fs) W)) :=
        fun W g => HTH.out n a b cp cq es fs W (by omega) (by omega) (by omega) hsm hsf (hE8.grown g (by simp)) (hF8.grown g (by simp))
      have HTO : Hid (∀ W, w8.grownBy W none → Calls Try.prog 29 #[.int .i64 n, .slice a es.length cp, .slice b fs.length cq] W (EdsErrPost (thenVl n es fs) (thenEr n es fs) W)) :=
        fun W g => thenOf_any n a b cp cq es fs W (by omega) (by omega) (hE8.grown g (by simp)) (hF8.grown g (by simp)) hsm hsf
      have HFO2 : Hid (∀ W cc, w8.grownBy W none → r ≤ cc → Calls Try.prog 28 #[.int .i64 n, .slice ad r cc] W (EdsErrPost (foldR n cs).1 (foldR n cs).2 W)) := fun W cc g hrc => by
        have := HFO.out n ad cc cs W (by omega) (by omega) (by omega) hall2 (hch2.grown g)
        rwa [hlen] at this
      have HFF : Hid (∀ W cc, w8.grownBy W none → Calls Try.prog 30 #[.int .i64 n, .slice ad r cc] W (EdsErrPost (foldR n cs).1 (foldR n cs).2 W)) := fun W cc g => by
        have := foldOf_any n ad cc cs W (by omega) (hch2.grown g) (fun c hc => ⟨(hall2 c hc).1, by have := (hall2 c hc).2; omega⟩)
        rwa [hlen] at this
      have hbT := (thenVl_ok n es fs).2
      have hbF := foldR_len n cs
      clear hE8 hF8 hch2 hlen hall2 hsm hsf
      generalize thenVl n es fs = tv at HTH2 HTO hbT
      generalize thenEr n es fs = te at HTH2 HTO
      generalize (foldR n cs).1 = fv at HFO2 HFF hbF
      generalize (foldR n cs).2 = fe at HFO2 HFF
      go_wp2_with fail
      refine (HTH2.out w8 (grow_self w8)).mono ?_
      rintro e w9 ⟨x, rfl, ox, g9⟩
      go_wp2_with fail
      refine (HFO2.out w9 _ g9 (by omega)).mono ?_
      rintro e w10 ⟨y, rfl, oy, g10⟩
      have g8a := grownBy_trans g9 g10
      go_wp2_with fail
      refine (HTO.out w10 g8a).mono ?_
      rintro e w11 ⟨wx, rfl, owx, g11⟩
      have g8b := grownBy_trans g8a g11
      go_wp2_with fail
      refine (HFF.out w11 _ g8b).mono ?_
      rintro e w12 ⟨wy, rfl, owy, g12⟩
      have up : ∀ {W : World} {ba : Nat} {v : Value} {l : List Ed}, W.grownBy w12 none → W.ownsRow ba 47 /-t:hedgelayer/api.Edit-/ 3 v l.length (edCells l) → w12.ownsRow ba 47 /-t:hedgelayer/api.Edit-/ 3 v l.length (edCells l) :=
        fun g o => ownsRow_frm (Frm.of_grown g (fun _ _ => True)) o (fun _ _ _ _ => trivial)
      have px := up (grownBy_trans g10 (grownBy_trans g11 g12)) ox
      have py := up (grownBy_trans g11 g12) oy
      have pwx := up g12 owx
      have G12 := grownBy_trans G8 (grownBy_trans g8b g12)
      clear ox oy owx g9 g10 g11 g12 g8a g8b G8 HTH2 HTO HFO2 HFF
      have E1 : Hid (∀ W, w12.grownBy W none → Calls Try.prog 23 #[x, wx] W fun e w' => e = .returned (.bool true) ∧ W.grownBy w' none) := fun W g =>
        equalEd_own (by omega) (ownsRow_frm (Frm.of_grown g (fun _ _ => True)) px (fun _ _ _ _ => trivial)) (ownsRow_frm (Frm.of_grown g (fun _ _ => True)) pwx (fun _ _ _ _ => trivial))
      have E2 : Hid (∀ W, w12.grownBy W none → Calls Try.prog 23 #[y, wy] W fun e w' => e = .returned (.bool true) ∧ W.grownBy w' none) := fun W g =>
        equalEd_own (by omega) (ownsRow_frm (Frm.of_grown g (fun _ _ => True)) py (fun _ _ _ _ => trivial)) (ownsRow_frm (Frm.of_grown g (fun _ _ => True)) owy (fun _ _ _ _ => trivial))
      clear px py pwx owy up
      go_wp2_with fail
      refine (E1.out w12 (grow_self w12)).mono ?_
      rintro e w13 ⟨rfl, g13⟩
      go_wp2_with fail
      refine (E2.out w13 g13).mono ?_
      rintro e w14 ⟨rfl, g14⟩
      go_wp2_with fail
      refine (HD.out w14).mono ?_
      rintro e w15 ⟨rfl, g15⟩
      go_wp2_with fail
      go_ret
      exact ⟨rfl, grownBy_trans G12 (grownBy_trans g13 (grownBy_trans g14 g15))⟩
  · have hbA : (changeFault n es == 0) = false := by simp [hA]
    clear hA
    go_wp2_with fail
    refine (changeFault_any n a cp es w2 (by omega) hE2 hsm).mono ?_
    rintro e w4 ⟨rfl, gg⟩
    have G4 := grownBy_trans G2 gg
    have S4 := T2.strm.grown gg (by simp) (by simp)
    have hE4 := hE2.grown gg (by simp)
    have hmm : 0 ≤ n ∧ n ≤ 20000 := by omega
    clear gg T2 hE2 G2
    go_wp2_with fail
    refine (change_any n (by omega) (by omega) hx2 S4).mono ?_
    rintro e w5 ⟨v, rfl, own, T5⟩
    obtain ⟨c1, c2', c3, c4⟩ := change_small xs k2 n (by omega)
    have G5 := sto_none T5 G4 (Nat.le_refl _)
    have hE5 := hE4.grown T5.grow hab2
    obtain ⟨k3, hk3⟩ : ∃ k, k = changeK xs k2 n := ⟨_, rfl⟩
    rw [← hk3] at T5 c3 c4
    have hk3b : k3 ≤ 60 := by omega
    generalize changeV xs k2 n = fs at c1 c2' own
    have hsf := small_of fs c1
    obtain ⟨b, cq, rfl, hF5, hbb⟩ := eds_of_own own
    have hbb2 : ∀ x, b = some x → some x.block ≠ some w.heap.size := fun x hx => by have := hbb x hx; have := S4.lt; simp; omega
    clear own hbb c1 hk3 c3 c4 S4 hE4 G4
    have hs5 := G5.size
    have oA := own_new (w := w5) hs5 [.slice a es.length cp, .slice b fs.length cq] 28 /-t:[]api.Edit-/ (by simp)
    have G6 := grow_alloc G5 (.cells #[.slice a es.length cp, .slice b fs.length cq] 28 /-t:[]api.Edit-/)
    have S6 := T5.strm.alloc (.cells #[.slice a es.length cp, .slice b fs.length cq] 28 /-t:[]api.Edit-/)
    have hE6 := hE5.grown (World.grownBy_alloc w5 (.cells #[.slice a es.length cp, .slice b fs.length cq] 28 /-t:[]api.Edit-/) none) (by simp)
    have hF6 := hF5.grown (World.grownBy_alloc w5 (.cells #[.slice a es.length cp, .slice b fs.length cq] 28 /-t:[]api.Edit-/) none) (by simp)
    have hEl := Lib.hid hE5.lt
    have hFl := Lib.hid hF5.lt
    have hSl := Lib.hid T5.strm.ltL
    have hb5 := T5.strm.lt
    have hb5' : w.heap.size < w5.heap.size := by have := T5.grow.size; omega
    clear T5 hE5 hF5 G5 hs5
    obtain ⟨w6, hw6⟩ : ∃ w6, w6 = w5.alloc (.cells #[.slice a es.length cp, .slice b fs.length cq] 28 /-t:[]api.Edit-/) := ⟨_, rfl⟩
    have oA' : w6.ownsRow w.heap.size 28 /-t:[]api.Edit-/ 1 (.slice (some ⟨w5.heap.size, 0, none⟩) 2 2) 2 [.slice a es.length cp, .slice b fs.length cq] := by rw [hw6]; exact oA
    rw [← hw6] at G6 S6 hE6 hF6
    have HW := Lib.hid hw6
    clear oA hw6
    by_cases hB : changeFault n fs = 0
    · by_cases hfl : flipv xs k3 2 = true
      · have hbB : (changeFault n fs == 0) = true := by rw [hB]; rfl
        have HB := Lib.hid hB
        have qB := right_all hB
        have hmB : (flowL fs n).length ≤ 20000 := qB.2.2.2.2.2
        clear hB qB
        go_wp2_with fail
        rw [← HW.out]
        refine (changeFault_any n b cq fs w6 (by omega) hF6 hsf).mono ?_
        rintro e w7 ⟨rfl, g7⟩
        have G7 := grownBy_trans G6 g7
        have S7 := S6.grown g7 (by simp) (by simp)
        have hE7 := hE6.grown g7 (by simp)
        have hF7 := hF6.grown g7 (by simp)
        have oB := ownsRow_frm (Frm.of_grown g7 (fun _ _ => True)) oA' (fun _ _ _ _ => trivial)
        clear g7 G6 S6 hE6 hF6 oA'
        go_wp2_with fail
        refine (flip_any 2 (by omega) (by omega) hx2 S7).mono ?_
        rintro e wf ⟨rfl, Tf⟩
        have Gf := sto_none Tf G7 (Nat.le_refl _)
        have Sf := Tf.strm
        have oF := Tf.own S7 oB (by decide)
        have hEf := hE7.grown Tf.grow hab2
        have hFf := hF7.grown Tf.grow hbb2
        clear Tf G7 S7 oB hE7 hF7
        rw [hfl]
        go_wp2_with fail
        refine (lengthOf_any n b cq fs wf HB.out hFf).mono ?_
        rintro e wg ⟨rfl, gg⟩
        have Gg := grownBy_trans Gf gg
        have Sg := Sf.grown gg (by simp) (by simp)
        have hEg := hEf.grown gg (by simp)
        have hFg := hFf.grown gg (by simp)
        have oG := ownsRow_frm (Frm.of_grown gg (fun _ _ => True)) oF (fun _ _ _ _ => trivial)
        obtain ⟨m2, hm2⟩ : ∃ m2 : Int, m2 = ((flowL fs n).length : Int) := ⟨_, rfl⟩
        rw [← hm2]
        have hm2b : 0 ≤ m2 ∧ m2 ≤ 20000 := by omega
        clear gg Gf Sf hEf hFf oF HB hm2 hmB
        go_wp2_with fail
        refine (change_any m2 (by omega) (by omega) hx2 Sg).mono ?_
        rintro e wh ⟨v, rfl, own, Th⟩
        obtain ⟨d1, d2, d3, d4⟩ := change_small xs (k3 + 1) m2 (by omega)
        have Gh := sto_none Th Gg (Nat.le_refl _)
        have Sh := Th.strm
        have hEh := hEg.grown Th.grow hab2
        have hFh := hFg.grown Th.grow hbb2
        have oH := Th.own Sg oG (by decide)
        obtain ⟨k7, hk7⟩ : ∃ k7, k7 = changeK xs (k3 + 1) m2 := ⟨_, rfl⟩
        rw [← hk7] at Sh d3 d4
        have hk7b : k7 ≤ 200 := by omega
        generalize changeV xs (k3 + 1) m2 = hs at d1 d2 own
        have hsh := small_of hs d1
        obtain ⟨c, cr, rfl, hCh, hcc⟩ := eds_of_own own
        have hcc2 : ∀ x, c = some x → some x.block ≠ some w.heap.size := fun x hx => by have := hcc x hx; have := Sg.lt; simp; omega
        have hCb : Hid (∀ x, c = some x → w5.heap.size < x.block) := fun x hx => by have := hcc x hx; have := Lib.hid Gg.size; have := (oG.lt w5.heap.size rfl).2; omega
        clear Th Gg Sg hEg hFg oG own hcc d1 d3 d4 hk7
        have hsz := Gh.size
        go_wp2_with (at_builtin; refine wpList_append_own _ rfl (.tmp 47) (.tmp 53) 51 /-t:[][]api.Edit-/ rfl w.heap.size 28 /-t:[]api.Edit-/ i0 (.slice none 0 0) 1 24 Try.underlying51 /-t:[][]api.Edit-/ hi hz0 hz1 hz2 rfl (by decide) _ _ _ rfl (oH.alloc _) ⟨wh.heap.size, 0, none⟩ 1 1 [.slice c hs.length cr] rfl rfl (cells_new _ _ _) (fun x hx => by simp at hx; subst hx; rfl) (by unfold maxLen; omega) (by omega) (by simp; omega) ?_; intro v' w7 hown' hgrow _; have hrow : ∀ (r : Option Nat), r = some w5.heap.size → r ≠ some w.heap.size := (fun r hr => by rw [hr]; simp; omega); have hgr : (wh.alloc (.cells #[.slice c hs.length cr] 28 /-t:[]api.Edit-/)).grownBy w7 (some w5.heap.size) := hgrow; have S7 := (Sh.alloc (.cells #[.slice c hs.length cr] 28 /-t:[]api.Edit-/)).grown2 hgr (by simp; omega) (fun j hj x hx => by have := hSl.out j hj x hx; simp; omega); have G7 := grow_row (grow_alloc Gh (.cells #[.slice c hs.length cr] 28 /-t:[]api.Edit-/)) hgr (fun k hk => by simp at hk; omega); have hE7 := (hEh.grown (World.grownBy_alloc wh (.cells #[.slice c hs.length cr] 28 /-t:[]api.Edit-/) none) (by simp)).grown2 hgr (fun j hj x hx => by have := hEl.out j hj x hx; simp; omega); have hF7 := (hFh.grown (World.grownBy_alloc wh (.cells #[.slice c hs.length cr] 28 /-t:[]api.Edit-/) none) (by simp)).grown2 hgr (fun j hj x hx => by have := hFl.out j hj x hx; simp; omega); have hC7 := (hCh.grown (World.grownBy_alloc wh (.cells #[.slice c hs.length cr] 28 /-t:[]api.Edit-/) none) (by simp)).grown2 hgr (fun j hj x hx => by have := hCb.out x hx; simp; omega); have oB := hown'; obtain ⟨ad, cpp, rfl, hcpp⟩ := ownsRow_sliceCap oB; simp only [List.cons_append, List.nil_append] at oB; clear hown' hgrow hgr hrow Sh Gh hEh hFh hCh oH)
        have hall : ∀ c, c ∈ [es, fs, hs] → EdsSmall c ∧ c.length ≤ 100000 := by
          intro c hc; simp at hc; rcases hc with rfl | rfl | rfl
          · exact ⟨hsm, by omega⟩
          · exact ⟨hsf, by omega⟩
          · exact ⟨hsh, by omega⟩
        go_wp2_with fail
        refine (range_any 0 3 (by omega) (by omega) (by omega) hx2 S7).mono ?_
        rintro e w8 ⟨rfl, T8⟩
        have r8 := rangev_bd xs k7 0 3
        have G8 := sto_none T8 G7 (Nat.le_refl _)
        have oC := T8.own S7 oB (by decide)
        have hE8 := hE7.grown T8.grow hab2
        have hF8 := hF7.grown T8.grow hbb2
        have hC8 := hC7.grown T8.grow hcc2
        have hv : ChVals w8 [.slice a es.length cp, .slice b fs.length cq, .slice c hs.length cr] [es, fs, hs] := ⟨⟨a, cp, rfl, hE8⟩, ⟨b, cq, rfl, hF8⟩, ⟨c, cr, rfl, hC8⟩, trivial⟩
        have hch := chs_of_own oC hv (by omega)
        clear T8 S7 oB oC hv hE7 hF7 G7 hab2 hbb2 hC7 hC8 hcc2
        obtain ⟨r, hr⟩ := Int.eq_ofNat_of_zero_le r8.1
        rw [hr] at r8 ⊢
        have hr2 : r ≤ 3 := by omega
        clear hr r8
        have hch2 := hch.take r
        have hlen : ([es, fs, hs].take r).length = r := by simp; omega
        have hall2 : ∀ c, c ∈ [es, fs, hs].take r → EdsSmall c ∧ c.length ≤ 100000 := fun c hc => hall c (List.mem_of_mem_take hc)
        generalize [es, fs, hs].take r = cs at hch2 hlen hall2
        clear hch hall
        have i1 : (0 : Int) ≤ (r : Int) := by omega
        have i2 : (r : Int) ≤ 3 := by omega
        have i3 : (r : Int) ≤ (cpp : Int) := by omega
        have i4 : r ≤ cpp := by omega
        have HTH2 : Hid (∀ W, w8.grownBy W none → Calls Try.prog 27 #[.int .i64 n, .slice a es.length cp, .slice b fs.length cq] W (EdsErrPost (thenVl n es fs) (thenEr n es fs) W)) :=
          fun W g => HTH.out n a b cp cq es fs W (by omega) (by omega) (by omega) hsm hsf (hE8.grown g (by simp)) (hF8.grown g (by simp))
        have HTO : Hid (∀ W, w8.grownBy W none → Calls Try.prog 29 #[.int .i64 n, .slice a es.length cp, .slice b fs.length cq] W (EdsErrPost (thenVl n es fs) (thenEr n es fs) W)) :=
          fun W g => thenOf_any n a b cp cq es fs W (by omega) (by omega) (hE8.grown g (by simp)) (hF8.grown g (by simp)) hsm hsf
        have HFO2 : Hid (∀ W cc, w8.grownBy W none → r ≤ cc → Calls Try.prog 28 #[.int .i64 n, .slice ad r cc] W (EdsErrPost (foldR n cs).1 (foldR n cs).2 W)) := fun W cc g hrc => by
          have := HFO.out n ad cc cs W (by omega) (by omega) (by omega) hall2 (hch2.grown g)
          rwa [hlen] at this
        have HFF : Hid (∀ W cc, w8.grownBy W none → Calls Try.prog 30 #[.int .i64 n, .slice ad r cc] W (EdsErrPost (foldR n cs).1 (foldR n cs).2 W)) := fun W cc g => by
          have := foldOf_any n ad cc cs W (by omega) (hch2.grown g) (fun c hc => ⟨(hall2 c hc).1, by have := (hall2 c hc).2; omega⟩)
          rwa [hlen] at this
        have hbT := (thenVl_ok n es fs).2
        have hbF := foldR_len n cs
        clear hE8 hF8 hch2 hlen hall2 hsm hsf hsh
        generalize thenVl n es fs = tv at HTH2 HTO hbT
        generalize thenEr n es fs = te at HTH2 HTO
        generalize (foldR n cs).1 = fv at HFO2 HFF hbF
        generalize (foldR n cs).2 = fe at HFO2 HFF
        go_wp2_with fail
        refine (HTH2.out w8 (grow_self w8)).mono ?_
        rintro e w9 ⟨x, rfl, ox, g9⟩
        go_wp2_with fail
        refine (HFO2.out w9 _ g9 (by omega)).mono ?_
        rintro e w10 ⟨y, rfl, oy, g10⟩
        have g8a := grownBy_trans g9 g10
        go_wp2_with fail
        refine (HTO.out w10 g8a).mono ?_
        rintro e w11 ⟨wx, rfl, owx, g11⟩
        have g8b := grownBy_trans g8a g11
        go_wp2_with fail
        refine (HFF.out w11 _ g8b).mono ?_
        rintro e w12 ⟨wy, rfl, owy, g12⟩
        have up : ∀ {W : World} {ba : Nat} {v : Value} {l : List Ed}, W.grownBy w12 none → W.ownsRow ba 47 /-t:hedgelayer/api.Edit-/ 3 v l.length (edCells l) → w12.ownsRow ba 47 /-t:hedgelayer/api.Edit-/ 3 v l.length (edCells l) :=
          fun g o => ownsRow_frm (Frm.of_grown g (fun _ _ => True)) o (fun _ _ _ _ => trivial)
        have px := up (grownBy_trans g10 (grownBy_trans g11 g12)) ox
        have py := up (grownBy_trans g11 g12) oy
        have pwx := up g12 owx
        have G12 := grownBy_trans G8 (grownBy_trans g8b g12)
        clear ox oy owx g9 g10 g11 g12 g8a g8b G8 HTH2 HTO HFO2 HFF
        have E1 : Hid (∀ W, w12.grownBy W none → Calls Try.prog 23 #[x, wx] W fun e w' => e = .returned (.bool true) ∧ W.grownBy w' none) := fun W g =>
          equalEd_own (by omega) (ownsRow_frm (Frm.of_grown g (fun _ _ => True)) px (fun _ _ _ _ => trivial)) (ownsRow_frm (Frm.of_grown g (fun _ _ => True)) pwx (fun _ _ _ _ => trivial))
        have E2 : Hid (∀ W, w12.grownBy W none → Calls Try.prog 23 #[y, wy] W fun e w' => e = .returned (.bool true) ∧ W.grownBy w' none) := fun W g =>
          equalEd_own (by omega) (ownsRow_frm (Frm.of_grown g (fun _ _ => True)) py (fun _ _ _ _ => trivial)) (ownsRow_frm (Frm.of_grown g (fun _ _ => True)) owy (fun _ _ _ _ => trivial))
        clear px py pwx owy up
        go_wp2_with fail
        refine (E1.out w12 (grow_self w12)).mono ?_
        rintro e w13 ⟨rfl, g13⟩
        go_wp2_with fail
        refine (E2.out w13 g13).mono ?_
        rintro e w14 ⟨rfl, g14⟩
        go_wp2_with fail
        refine (HD.out w14).mono ?_
        rintro e w15 ⟨rfl, g15⟩
        go_wp2_with fail
        go_ret
        exact ⟨rfl, grownBy_trans G12 (grownBy_trans g13 (grownBy_trans g14 g15))⟩
      · have hfl := (Bool.not_eq_true _).mp hfl
        have hbB : (changeFault n fs == 0) = true := by rw [hB]; rfl
        have HB := Lib.hid hB
        have qB := right_all hB
        have hmB : (flowL fs n).length ≤ 20000 := qB.2.2.2.2.2
        clear hB qB
        go_wp2_with fail
        rw [← HW.out]
        refine (changeFault_any n b cq fs w6 (by omega) hF6 hsf).mono ?_
        rintro e w7 ⟨rfl, g7⟩
        have G7 := grownBy_trans G6 g7
        have S7 := S6.grown g7 (by simp) (by simp)
        have hE7 := hE6.grown g7 (by simp)
        have hF7 := hF6.grown g7 (by simp)
        have oB := ownsRow_frm (Frm.of_grown g7 (fun _ _ => True)) oA' (fun _ _ _ _ => trivial)
        clear g7 G6 S6 hE6 hF6 oA'
        go_wp2_with fail
        refine (flip_any 2 (by omega) (by omega) hx2 S7).mono ?_
        rintro e wf ⟨rfl, Tf⟩
        have Gf := sto_none Tf G7 (Nat.le_refl _)
        have Sf := Tf.strm
        have oF := Tf.own S7 oB (by decide)
        have hEf := hE7.grown Tf.grow hab2
        have hFf := hF7.grown Tf.grow hbb2
        clear Tf G7 S7 oB hE7 hF7
        rw [hfl]
        have G7 := Gf
        have S7 := Sf
        have oB := oF
        have hE7 := hEf
        have hF7 := hFf
        clear Gf Sf oF hEf hFf HB hmB
        obtain ⟨k7, hk7⟩ : ∃ k7, k7 = k3 + 1 := ⟨_, rfl⟩
        rw [← hk7] at S7
        have hk7b : k7 ≤ 200 := by omega
        clear hk7
        obtain ⟨ad, had⟩ : ∃ ad, ad = some (⟨w5.heap.size, 0, none⟩ : Addr) := ⟨_, rfl⟩
        rw [← had] at oB ⊢
        clear had
        have hall : ∀ c, c ∈ [es, fs] → EdsSmall c ∧ c.length ≤ 100000 := by
          intro c hc; simp at hc; rcases hc with rfl | rfl
          · exact ⟨hsm, by omega⟩
          · exact ⟨hsf, by omega⟩
        go_wp2_with fail
        refine (range_any 0 2 (by omega) (by omega) (by omega) hx2 S7).mono ?_
        rintro e w8 ⟨rfl, T8⟩
        have r8 := rangev_bd xs k7 0 2
        have G8 := sto_none T8 G7 (Nat.le_refl _)
        have oC := T8.own S7 oB (by decide)
        have hE8 := hE7.grown T8.grow hab2
        have hF8 := hF7.grown T8.grow hbb2
        have hv : ChVals w8 [.slice a es.length cp, .slice b fs.length cq] [es, fs] := ⟨⟨a, cp, rfl, hE8⟩, ⟨b, cq, rfl, hF8⟩, trivial⟩
        have hch := chs_of_own oC hv (by omega)
        clear T8 S7 oB oC hv hE7 hF7 G7 hab2 hbb2
        obtain ⟨r, hr⟩ := Int.eq_ofNat_of_zero_le r8.1
        rw [hr] at r8 ⊢
        have hr2 : r ≤ 2 := by omega
        clear hr r8
        have hch2 := hch.take r
        have hlen : ([es, fs].take r).length = r := by simp; omega
        have hall2 : ∀ c, c ∈ [es, fs].take r → EdsSmall c ∧ c.length ≤ 100000 := fun c hc => hall c (List.mem_of_mem_take hc)
        generalize [es, fs].take r = cs at hch2 hlen hall2
        clear hch hall
        have i1 : (0 : Int) ≤ (r : Int) := by omega
        have i2 : (r : Int) ≤ 2 := by omega
        have HTH2 : Hid (∀ W, w8.grownBy W none → Calls Try.prog 27 #[.int .i64 n, .slice a es.length cp, .slice b fs.length cq] W (EdsErrPost (thenVl n es fs) (thenEr n es fs) W)) :=
          fun W g => HTH.out n a b cp cq es fs W (by omega) (by omega) (by omega) hsm hsf (hE8.grown g (by simp)) (hF8.grown g (by simp))
        have HTO : Hid (∀ W, w8.grownBy W none → Calls Try.prog 29 #[.int .i64 n, .slice a es.length cp, .slice b fs.length cq] W (EdsErrPost (thenVl n es fs) (thenEr n es fs) W)) :=
          fun W g => thenOf_any n a b cp cq es fs W (by omega) (by omega) (hE8.grown g (by simp)) (hF8.grown g (by simp)) hsm hsf
        have HFO2 : Hid (∀ W cc, w8.grownBy W none → r ≤ cc → Calls Try.prog 28 #[.int .i64 n, .slice ad r cc] W (EdsErrPost (foldR n cs).1 (foldR n cs).2 W)) := fun W cc g hrc => by
          have := HFO.out n ad cc cs W (by omega) (by omega) (by omega) hall2 (hch2.grown g)
          rwa [hlen] at this
        have HFF : Hid (∀ W cc, w8.grownBy W none → Calls Try.prog 30 #[.int .i64 n, .slice ad r cc] W (EdsErrPost (foldR n cs).1 (foldR n cs).2 W)) := fun W cc g => by
          have := foldOf_any n ad cc cs W (by omega) (hch2.grown g) (fun c hc => ⟨(hall2 c hc).1, by have := (hall2 c hc).2; omega⟩)
          rwa [hlen] at this
        have hbT := (thenVl_ok n es fs).2
        have hbF := foldR_len n cs
        clear hE8 hF8 hch2 hlen hall2 hsm hsf
        generalize thenVl n es fs = tv at HTH2 HTO hbT
        generalize thenEr n es fs = te at HTH2 HTO
        generalize (foldR n cs).1 = fv at HFO2 HFF hbF
        generalize (foldR n cs).2 = fe at HFO2 HFF
        go_wp2_with fail
        refine (HTH2.out w8 (grow_self w8)).mono ?_
        rintro e w9 ⟨x, rfl, ox, g9⟩
        go_wp2_with fail
        refine (HFO2.out w9 _ g9 (by omega)).mono ?_
        rintro e w10 ⟨y, rfl, oy, g10⟩
        have g8a := grownBy_trans g9 g10
        go_wp2_with fail
        refine (HTO.out w10 g8a).mono ?_
        rintro e w11 ⟨wx, rfl, owx, g11⟩
        have g8b := grownBy_trans g8a g11
        go_wp2_with fail
        refine (HFF.out w11 _ g8b).mono ?_
        rintro e w12 ⟨wy, rfl, owy, g12⟩
        have up : ∀ {W : World} {ba : Nat} {v : Value} {l : List Ed}, W.grownBy w12 none → W.ownsRow ba 47 /-t:hedgelayer/api.Edit-/ 3 v l.length (edCells l) → w12.ownsRow ba 47 /-t:hedgelayer/api.Edit-/ 3 v l.length (edCells l) :=
          fun g o => ownsRow_frm (Frm.of_grown g (fun _ _ => True)) o (fun _ _ _ _ => trivial)
        have px := up (grownBy_trans g10 (grownBy_trans g11 g12)) ox
        have py := up (grownBy_trans g11 g12) oy
        have pwx := up g12 owx
        have G12 := grownBy_trans G8 (grownBy_trans g8b g12)
        clear ox oy owx g9 g10 g11 g12 g8a g8b G8 HTH2 HTO HFO2 HFF
        have E1 : Hid (∀ W, w12.grownBy W none → Calls Try.prog 23 #[x, wx] W fun e w' => e = .returned (.bool true) ∧ W.grownBy w' none) := fun W g =>
          equalEd_own (by omega) (ownsRow_frm (Frm.of_grown g (fun _ _ => True)) px (fun _ _ _ _ => trivial)) (ownsRow_frm (Frm.of_grown g (fun _ _ => True)) pwx (fun _ _ _ _ => trivial))
        have E2 : Hid (∀ W, w12.grownBy W none → Calls Try.prog 23 #[y, wy] W fun e w' => e = .returned (.bool true) ∧ W.grownBy w' none) := fun W g =>
          equalEd_own (by omega) (ownsRow_frm (Frm.of_grown g (fun _ _ => True)) py (fun _ _ _ _ => trivial)) (ownsRow_frm (Frm.of_grown g (fun _ _ => True)) owy (fun _ _ _ _ => trivial))
        clear px py pwx owy up
        go_wp2_with fail
        refine (E1.out w12 (grow_self w12)).mono ?_
        rintro e w13 ⟨rfl, g13⟩
        go_wp2_with fail
        refine (E2.out w13 g13).mono ?_
        rintro e w14 ⟨rfl, g14⟩
        go_wp2_with fail
        refine (HD.out w14).mono ?_
        rintro e w15 ⟨rfl, g15⟩
        go_wp2_with fail
        go_ret
        exact ⟨rfl, grownBy_trans G12 (grownBy_trans g13 (grownBy_trans g14 g15))⟩
    · have hbB : (changeFault n fs == 0) = false := by simp [hB]
      clear hB
      go_wp2_with fail
      rw [← HW.out]
      refine (changeFault_any n b cq fs w6 (by omega) hF6 hsf).mono ?_
      rintro e w7 ⟨rfl, g7⟩
      have G7 := grownBy_trans G6 g7
      have S7 := S6.grown g7 (by simp) (by simp)
      have hE7 := hE6.grown g7 (by simp)
      have hF7 := hF6.grown g7 (by simp)
      have oB := ownsRow_frm (Frm.of_grown g7 (fun _ _ => True)) oA' (fun _ _ _ _ => trivial)
      obtain ⟨k7, hk7⟩ : ∃ k7, k7 = k3 := ⟨_, rfl⟩
      rw [← hk7] at S7
      have hk7b : k7 ≤ 200 := by omega
      clear g7 G6 S6 hE6 hF6 oA' hk7
      obtain ⟨ad, had⟩ : ∃ ad, ad = some (⟨w5.heap.size, 0, none⟩ : Addr) := ⟨_, rfl⟩
      rw [← had] at oB ⊢
      clear had
      have hall : ∀ c, c ∈ [es, fs] → EdsSmall c ∧ c.length ≤ 100000 := by
        intro c hc; simp at hc; rcases hc with rfl | rfl
        · exact ⟨hsm, by omega⟩
        · exact ⟨hsf, by omega⟩
      go_wp2_with fail
      refine (range_any 0 2 (by omega) (by omega) (by omega) hx2 S7).mono ?_
      rintro e w8 ⟨rfl, T8⟩
      have r8 := rangev_bd xs k7 0 2
      have G8 := sto_none T8 G7 (Nat.le_refl _)
      have oC := T8.own S7 oB (by decide)
      have hE8 := hE7.grown T8.grow hab2
      have hF8 := hF7.grown T8.grow hbb2
      have hv : ChVals w8 [.slice a es.length cp, .slice b fs.length cq] [es, fs] := ⟨⟨a, cp, rfl, hE8⟩, ⟨b, cq, rfl, hF8⟩, trivial⟩
      have hch := chs_of_own oC hv (by omega)
      clear T8 S7 oB oC hv hE7 hF7 G7 hab2 hbb2
      obtain ⟨r, hr⟩ := Int.eq_ofNat_of_zero_le r8.1
      rw [hr] at r8 ⊢
      have hr2 : r ≤ 2 := by omega
      clear hr r8
      have hch2 := hch.take r
      have hlen : ([es, fs].take r).length = r := by simp; omega
      have hall2 : ∀ c, c ∈ [es, fs].take r → EdsSmall c ∧ c.length ≤ 100000 := fun c hc => hall c (List.mem_of_mem_take hc)
      generalize [es, fs].take r = cs at hch2 hlen hall2
      clear hch hall
      have i1 : (0 : Int) ≤ (r : Int) := by omega
      have i2 : (r : Int) ≤ 2 := by omega
      have HTH2 : Hid (∀ W, w8.grownBy W none → Calls Try.prog 27 #[.int .i64 n, .slice a es.length cp, .slice b fs.length cq] W (EdsErrPost (thenVl n es fs) (thenEr n es fs) W)) :=
        fun W g => HTH.out n a b cp cq es fs W (by omega) (by omega) (by omega) hsm hsf (hE8.grown g (by simp)) (hF8.grown g (by simp))
      have HTO : Hid (∀ W, w8.grownBy W none → Calls Try.prog 29 #[.int .i64 n, .slice a es.length cp, .slice b fs.length cq] W (EdsErrPost (thenVl n es fs) (thenEr n es fs) W)) :=
        fun W g => thenOf_any n a b cp cq es fs W (by omega) (by omega) (hE8.grown g (by simp)) (hF8.grown g (by simp)) hsm hsf
      have HFO2 : Hid (∀ W cc, w8.grownBy W none → r ≤ cc → Calls Try.prog 28 #[.int .i64 n, .slice ad r cc] W (EdsErrPost (foldR n cs).1 (foldR n cs).2 W)) := fun W cc g hrc => by
        have := HFO.out n ad cc cs W (by omega) (by omega) (by omega) hall2 (hch2.grown g)
        rwa [hlen] at this
      have HFF : Hid (∀ W cc, w8.grownBy W none → Calls Try.prog 30 #[.int .i64 n, .slice ad r cc] W (EdsErrPost (foldR n cs).1 (foldR n cs).2 W)) := fun W cc g => by
        have := foldOf_any n ad cc cs W (by omega) (hch2.grown g) (fun c hc => ⟨(hall2 c hc).1, by have := (hall2 c hc).2; omega⟩)
        rwa [hlen] at this
      have hbT := (thenVl_ok n es fs).2
      have hbF := foldR_len n cs
      clear hE8 hF8 hch2 hlen hall2 hsm hsf
      generalize thenVl n es fs = tv at HTH2 HTO hbT
      generalize thenEr n es fs = te at HTH2 HTO
      generalize (foldR n cs).1 = fv at HFO2 HFF hbF
      generalize (foldR n cs).2 = fe at HFO2 HFF
      go_wp2_with fail
      refine (HTH2.out w8 (grow_self w8)).mono ?_
      rintro e w9 ⟨x, rfl, ox, g9⟩
      go_wp2_with fail
      refine (HFO2.out w9 _ g9 (by omega)).mono ?_
      rintro e w10 ⟨y, rfl, oy, g10⟩
      have g8a := grownBy_trans g9 g10
      go_wp2_with fail
      refine (HTO.out w10 g8a).mono ?_
      rintro e w11 ⟨wx, rfl, owx, g11⟩
      have g8b := grownBy_trans g8a g11
      go_wp2_with fail
      refine (HFF.out w11 _ g8b).mono ?_
      rintro e w12 ⟨wy, rfl, owy, g12⟩
      have up : ∀ {W : World} {ba : Nat} {v : Value} {l : List Ed}, W.grownBy w12 none → W.ownsRow ba 47 /-t:hedgelayer/api.Edit-/ 3 v l.length (edCells l) → w12.ownsRow ba 47 /-t:hedgelayer/api.Edit-/ 3 v l.length (edCells l) :=
        fun g o => ownsRow_frm (Frm.of_grown g (fun _ _ => True)) o (fun _ _ _ _ => trivial)
      have px := up (grownBy_trans g10 (grownBy_trans g11 g12)) ox
      have py := up (grownBy_trans g11 g12) oy
      have pwx := up g12 owx
      have G12 := grownBy_trans G8 (grownBy_trans g8b g12)
      clear ox oy owx g9 g10 g11 g12 g8a g8b G8 HTH2 HTO HFO2 HFF
      have E1 : Hid (∀ W, w12.grownBy W none → Calls Try.prog 23 #[x, wx] W fun e w' => e = .returned (.bool true) ∧ W.grownBy w' none) := fun W g =>
        equalEd_own (by omega) (ownsRow_frm (Frm.of_grown g (fun _ _ => True)) px (fun _ _ _ _ => trivial)) (ownsRow_frm (Frm.of_grown g (fun _ _ => True)) pwx (fun _ _ _ _ => trivial))
      have E2 : Hid (∀ W, w12.grownBy W none → Calls Try.prog 23 #[y, wy] W fun e w' => e = .returned (.bool true) ∧ W.grownBy w' none) := fun W g =>
        equalEd_own (by omega) (ownsRow_frm (Frm.of_grown g (fun _ _ => True)) py (fun _ _ _ _ => trivial)) (ownsRow_frm (Frm.of_grown g (fun _ _ => True)) owy (fun _ _ _ _ => trivial))
      clear px py pwx owy up
      go_wp2_with fail
      refine (E1.out w12 (grow_self w12)).mono ?_
      rintro e w13 ⟨rfl, g13⟩
      go_wp2_with fail
      refine (E2.out w13 g13).mono ?_
      rintro e w14 ⟨rfl, g14⟩
      go_wp2_with fail
      refine (HD.out w14).mono ?_
      rintro e w15 ⟨rfl, g15⟩
      go_wp2_with fail
      go_ret
      exact ⟨rfl, grownBy_trans G12 (grownBy_trans g13 (grownBy_trans g14 g15))⟩
end Go.Proofs.Ytajigndlcdiinaa
