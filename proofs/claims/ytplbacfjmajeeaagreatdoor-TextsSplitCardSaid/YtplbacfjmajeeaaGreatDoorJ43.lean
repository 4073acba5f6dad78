import Derived.Test.YtplbacfjmajeeaaGreatDoorJ41
import Derived.Test.YtplbacfjmajeeaaGreatDoorJ42
namespace Go.Proofs.YtplbacfjmajeeaaGreatDoor
open Go.Lib (hid)
set_option maxHeartbeats 4000000
set_option maxRecDepth 100000
open Go.RowKit Go.Region Go.Maps
def whenv (is : Bool) (e : Int) : Int := if is then e else 0
theorem when_any (is : Bool) (e : Int) (w : World) : Calls Tryz.prog 24 #[.bool is, .int .i64 e] w fun x w' => x = .returned (.int .i64 (whenv is e)) ∧ w = w' := by
 cases is
 all_goals
  go_enter Tryz.func24, Tryz.ntmps24
  go_wp2_with fail
  go_ret
  exact ⟨rfl, rfl⟩
theorem errV_two (c : Int) (q : Bool) (p : Prop) [Decidable p] (hq : q = true ↔ p) : errV [c, whenv q 1] = if c = 0 then (if p then 1 else 0) else c := by
 by_cases hc : c = 0
 · rw [if_pos hc]
   have e : errV [c, whenv q 1] = errV [whenv q 1] := by rw [errV, if_pos hc]
   rw [e]
   cases q with
   | true => rw [if_pos (hq.1 rfl)]; rfl
   | false => rw [if_neg (fun h => by have := hq.2 h; cases this)]; rfl
 · rw [if_neg hc, errV, if_neg hc]
theorem sto_noneS {b av cap xs w w' k} (h : Sto b av cap xs w w' k) {w0 : World} (g : w0.grownBy w none) (hb : w0.heap.size ≤ b) : w0.grownBy w' none :=
 ⟨h.grow.os.trans g.os, h.grow.tape.trans g.tape, h.grow.output.trans g.output, Nat.le_trans g.size h.grow.size, fun k hk hn =>
  (h.grow.block k (Nat.lt_of_lt_of_le hk g.size) (by simp; omega)).trans (g.block k hk hn)⟩
structure TsM (w : World) (ms : List Mrk) (M : Value) (fb : Nat) (f1 f2 f3 f4 : Int) (P : List Pc) (pv : Value) (T : List Tk) (tv : Value) (W : World) : Prop where
 mr : MksF (w.heap.size + 1) ms M W
 fx : W.heap[fb]? = some (.cells #[.int .i64 f1, .int .i64 f2, .int .i64 f3, .int .i64 f4] 43 (0, 0))
 fo : w.heap.size < fb
 pr : W.ownsRow (w.heap.size + 1) 43 4 pv P.length (pcCells P)
 tr : W.ownsRow (w.heap.size + 1) 66 3 tv T.length (tkCells T)
 gr : w.grownBy W none
theorem TsM.grow {w : World} {ms : List Mrk} {M : Value} {fb : Nat} {f1 f2 f3 f4 : Int} {P : List Pc} {pv : Value} {T : List Tk} {tv : Value} {W W' : World} (h : TsM w ms M fb f1 f2 f3 f4 P pv T tv W) (g : W.grownBy W' none) : TsM w ms M fb f1 f2 f3 f4 P pv T tv W' :=
 ⟨h.mr.keep g (fun r hr => by cases hr), grow_new g h.fx, h.fo, own_grownN h.pr g (fun r hr => by cases hr), own_grownN h.tr g (fun r hr => by cases hr), grownBy_trans h.gr g⟩
theorem TsM.sto {w : World} {ms : List Mrk} {M : Value} {fb : Nat} {f1 f2 f3 f4 : Int} {P : List Pc} {pv : Value} {T : List Tk} {tv : Value} {W W' : World} {av cap xs k} (h : TsM w ms M fb f1 f2 f3 f4 P pv T tv W) (S : Sto w.heap.size av cap xs W W' k) : TsM w ms M fb f1 f2 f3 f4 P pv T tv W' :=
 ⟨h.mr.keep S.grow (fun r hr => by have : w.heap.size = r := (by simpa using hr); omega), S.kept h.fx (by have := h.fo; omega), h.fo, own_grownN h.pr S.grow (fun r hr => by have : w.heap.size = r := (by simpa using hr); omega), own_grownN h.tr S.grow (fun r hr => by have : w.heap.size = r := (by simpa using hr); omega), sto_noneS S h.gr (Nat.le_refl _)⟩
structure TsU (w : World) (ms : List Mrk) (M : Value) (fb : Nat) (f1 f2 f3 f4 : Int) (P : List Pc) (pv : Value) (T : List Tk) (tv : Value) (U : List Tk) (uv : Value) (W : World) : Prop where
 ts : TsM w ms M fb f1 f2 f3 f4 P pv T tv W
 ur : W.ownsRow (w.heap.size + 1) 66 3 uv U.length (tkCells U)
theorem TsU.grow {w : World} {ms : List Mrk} {M : Value} {fb : Nat} {f1 f2 f3 f4 : Int} {P : List Pc} {pv : Value} {T : List Tk} {tv : Value} {U : List Tk} {uv : Value} {W W' : World} (h : TsU w ms M fb f1 f2 f3 f4 P pv T tv U uv W) (g : W.grownBy W' none) : TsU w ms M fb f1 f2 f3 f4 P pv T tv U uv W' :=
 ⟨h.ts.grow g, own_grownN h.ur g (fun r hr => by cases hr)⟩
theorem TsU.sto {w : World} {ms : List Mrk} {M : Value} {fb : Nat} {f1 f2 f3 f4 : Int} {P : List Pc} {pv : Value} {T : List Tk} {tv : Value} {U : List Tk} {uv : Value} {W W' : World} {av cap xs k} (h : TsU w ms M fb f1 f2 f3 f4 P pv T tv U uv W) (S : Sto w.heap.size av cap xs W W' k) : TsU w ms M fb f1 f2 f3 f4 P pv T tv U uv W' :=
 ⟨h.ts.sto S, own_grownN h.ur S.grow (fun r hr => by have : w.heap.size = r := (by simpa using hr); omega)⟩
theorem set4f {w W : World} {B : Nat} {x0 x1 x2 x3 : Value} (hb : W.heap[B]? = some (.cells #[x0, x1, x2, x3] 43 (0, 0))) (hg : w.grownBy W none) (hB : w.heap.size ≤ B) (u0 u1 u2 u3 : Value) :
 ((((W.setCell ⟨B, 0, none⟩ u0).setCell ⟨B, 1, none⟩ u1).setCell ⟨B, 2, none⟩ u2).setCell ⟨B, 3, none⟩ u3).heap[B]? = some (.cells #[u0, u1, u2, u3] 43 (0, 0)) ∧ w.grownBy ((((W.setCell ⟨B, 0, none⟩ u0).setCell ⟨B, 1, none⟩ u1).setCell ⟨B, 2, none⟩ u2).setCell ⟨B, 3, none⟩ u3) none := by
 have b := xHs (xHs (xHs (xHs hb 0 u0) 1 u1) 2 u2) 3 u3
 simp only [xSi, xSs, xSz] at b
 exact ⟨b, grow_setCell (grow_setCell (grow_setCell (grow_setCell hg _ _ hB) _ _ hB) _ _ hB) _ _ hB⟩
theorem set1f {w W : World} {B : Nat} {x0 x1 x2 x3 : Value} (hb : W.heap[B]? = some (.cells #[x0, x1, x2, x3] 43 (0, 0))) (hg : w.grownBy W none) (hB : w.heap.size ≤ B) (u0 : Value) :
 (W.setCell ⟨B, 0, none⟩ u0).heap[B]? = some (.cells #[u0, x1, x2, x3] 43 (0, 0)) ∧ w.grownBy (W.setCell ⟨B, 0, none⟩ u0) none := by
 have b := xHs hb 0 u0
 simp only [xSi, xSz] at b
 exact ⟨b, grow_setCell hg _ _ hB⟩
def someA : List ByteArray := [⟨#[49]⟩, ⟨#[43]⟩, ⟨#[97, 98]⟩, ⟨#[105, 102]⟩, ⟨#[46]⟩, ⟨#[]⟩, ⟨#[49, 32]⟩, ⟨#[46, 46, 46]⟩]
def someB : List ByteArray := [⟨#[50]⟩, ⟨#[120]⟩, ⟨#[46, 46]⟩, ⟨#[43]⟩, ⟨#[32, 49]⟩, ⟨#[105, 102]⟩]
theorem someA_le (xs : List Int) (k : Nat) : (somev xs k someA).size ≤ 10 := somev_all (fun x => x.size ≤ 10) xs k someA (by decide) (by decide)
theorem someB_le (xs : List Int) (k : Nat) : (somev xs k someB).size ≤ 10 := somev_all (fun x => x.size ≤ 10) xs k someB (by decide) (by decide)
theorem textsSplit_any (HPat : PatHas 48) (av : Option Addr) (cap : Nat) (xs : List Int) (w : World) (hx2 : xs.length ≤ 9223372036854775807)
 (hel : ∀ j, j < xs.length → ∃ bl off, av = some ⟨bl, off, none⟩ ∧ w.cell? ⟨bl, off + j, none⟩ = some (.int .i64 (xs.getD j 0))) :
 Calls Tryz.prog 4 #[.slice av xs.length cap] w fun e w' => e = .returned (.bool true) ∧ w.grownBy w' none := by
 have S0 : Strm w.heap.size av cap xs (w.alloc (.cells #[.slice av xs.length cap, .int .i64 0] 25)) 0 := by
  refine ⟨heap_alloc_new w _, fun j hj => ?_⟩
  obtain ⟨bl, off, e, hc⟩ := hel j hj
  have := World.block_lt_of_cell? w _ hc
  exact ⟨bl, off, e, by simp at this; omega, World.grownBy.cell (xGa w _ none) hc (by simp)⟩
 have G0 := xGa w (.cells #[.slice av xs.length cap, .int .i64 0] 25) none
 have HPT := hid HPat
 clear hel HPat
 go_enter Tryz.func4, Tryz.ntmps4
 go_wp2_with fail
 generalize w.alloc _ = w0 at S0 G0 ⊢
 have hb0 := S0.lt
 refine (marks_any (by omega) hx2 HPT.out S0).mono ?_
 rintro e w1 ⟨ms, lv, k1, rfl, HF, HN, hk1, T1⟩
 have HF1 := hid (HF.mono (show w.heap.size + 1 ≤ w0.heap.size + 1 by omega))
 obtain ⟨mv, mc, rfl, _⟩ := HF.form
 have HT1 := hid T1
 have HG1 := hid (sto_noneS T1 G0 (Nat.le_refl _))
 have HNN := hid HN
 clear S0 G0 HF HN T1 HPT
 go_wp2_with fail
 refine (atext_any (by omega) hx2 HT1.out.strm).mono ?_
 rintro e w2 ⟨t, k2, rfl, ht, hk2, T2⟩
 have HT2 := hid T2.strm
 have HF2 := hid (HF1.out.keep T2.grow (fun r hr => by have : w.heap.size = r := (by simpa using hr); omega))
 have HG2 := hid (sto_noneS T2 HG1.out (Nat.le_refl _))
 clear T2 HT1 HF1 HG1
 go_wp2_with fail
 refine (range_any (-1) 12 (by omega) (by omega) (by omega) hx2 HT2.out).mono ?_
 rintro e w3 ⟨rfl, T3⟩
 have hr3 := rangek_le k2 (-1) 12
 generalize rangek k2 (-1) 12 = k3 at hr3 T3
 have ha3 := rangev_bd xs k2 (-1) 12
 generalize rangev xs k2 (-1) 12 = a at ha3 ⊢
 have HT3 := hid T3.strm
 have HF3 := hid (HF2.out.keep T3.grow (fun r hr => by have : w.heap.size = r := (by simpa using hr); omega))
 have HG3 := hid (sto_noneS T3 HG2.out (Nat.le_refl _))
 clear T3 HT2 HF2 HG2
 obtain ⟨f1, f2, f3, f4, fe, r1, c, P, pi, pe, T, tl, si, se, hLC, hc⟩ := lawC (w.heap.size + 1) ms mv mc t a ht HNN.out
 have HTL : Hid (∀ W k, k ≤ 100000 → MksF (w.heap.size + 1) ms (.slice mv ms.length mc) W → Strm w.heap.size av cap xs W k → Calls Tryz.prog 19 #[.pointer (some ⟨w.heap.size, 0, none⟩), .slice mv ms.length mc] W (TokPost w.heap.size av cap xs W k)) :=
  hid (fun W k h1 h2 h3 => tokenList_any h1 hx2 (by omega) h2 HNN.out h3)
 have HLC := hid hLC
 clear hLC hc
 obtain ⟨M, hM⟩ : ∃ M : Value, .slice mv ms.length mc = M := ⟨_, rfl⟩
 rw [hM] at HTL HLC HF3 ⊢
 clear hM
 have ha := ha3.2 (by omega)
 have ha1 := ha3.1
 clear ha3
 go_wp2_with fail
 refine (HLC.out.long w3 HF3.out).mono ?_
 rintro e w4 ⟨rfl, g4⟩
 go_wp2_with fail
 have hfb : w.heap.size < w4.heap.size := by have := HT3.out.lt; have := g4.size; omega
 have HF5 := hid (HF3.out.keep (grow_alloc g4 (.cells #[.int .i64 f1, .int .i64 f2, .int .i64 f3, .int .i64 f4] 43)) (fun r hr => by cases hr))
 have HG5 := hid (grownBy_trans HG3.out (grow_alloc g4 (.cells #[.int .i64 f1, .int .i64 f2, .int .i64 f3, .int .i64 f4] 43)))
 have HT5 := hid (HT3.out.grown (grow_alloc g4 (.cells #[.int .i64 f1, .int .i64 f2, .int .i64 f3, .int .i64 f4] 43)) (by simp) (fun _ _ => by simp))
 have HX5 := hid (heap_alloc_new w4 (.cells #[.int .i64 f1, .int .i64 f2, .int .i64 f3, .int .i64 f4] 43))
 clear g4 HF3 HG3 HT3
 generalize w4.alloc _ = w5 at HF5 HG5 HT5 HX5 ⊢
 generalize w4.heap.size = fb at HX5 hfb ⊢
 have hw5 : w.heap.size < w5.heap.size := HT5.out.lt
 refine (HLC.out.pcs w5 HF5.out).mono ?_
 rintro e w6 ⟨pv, rfl, own6, g6⟩
 have HP6 := hid (own_mono own6 (show w.heap.size + 1 ≤ w5.heap.size by omega))
 have HF6 := hid (HF5.out.keep g6 (fun r hr => by cases hr))
 have HG6 := hid (grownBy_trans HG5.out g6)
 have HT6 := hid (HT5.out.grown g6 (by simp) (fun _ _ => by simp))
 have HX6 := hid (grow_new g6 HX5.out)
 have hw6 := g6.size
 clear g6 own6 HF5 HG5 HT5 HX5
 go_wp2_with fail
 refine (HLC.out.spl w6 HF6.out).mono ?_
 rintro e w7 ⟨tv, rfl, own7, g7⟩
 have HS7 := hid (show TsM w ms M fb f1 f2 f3 f4 P pv T tv w7 from ⟨HF6.out.keep g7 (fun r hr => by cases hr), grow_new g7 HX6.out, hfb, own_grownN HP6.out g7 (fun r hr => by cases hr), own_mono own7 (show w.heap.size + 1 ≤ w6.heap.size by omega), grownBy_trans HG6.out g7⟩)
 have HT7 := hid (HT6.out.grown g7 (by simp) (fun _ _ => by simp))
 have hw7 := g7.size
 clear g7 own7 HF6 HG6 HT6 HX6 HP6
 go_wp2_with fail
 refine (HTL.out w7 k3 (by omega) HS7.out.mr HT7.out).mono ?_
 rintro e w8 ⟨U, uv, tail, k4, rfl, own8, hUl, hUs, hk4, T8⟩
 have HS8 := hid (show TsU w ms M fb f1 f2 f3 f4 P pv T tv U uv w8 from ⟨HS7.out.sto T8, own_mono own8 (show w.heap.size + 1 ≤ w7.heap.size by omega)⟩)
 have HT8 := hid T8.strm
 clear T8 own8 HS7 HT7 HTL
 have HJ := hid (fun (W : World) (h : W.ownsRow (w.heap.size + 1) 66 3 uv U.length (tkCells U)) => joined_any U tail uv W (tkAt_own h rfl) (by omega) (by omega))
 have HJ2 := hid (fun (W : World) (h : W.ownsRow (w.heap.size + 1) 66 3 uv U.length (tkCells U)) => joinedOf_any U tail uv W (tkAt_own h rfl) (by omega) (by omega))
 obtain ⟨j, hj⟩ : ∃ j, joinedM U tail = j := ⟨_, rfl⟩
 rw [hj] at HJ HJ2
 clear hj
 obtain ⟨j1, j2⟩ := j
 go_wp2_with fail
 refine (HJ.out w8 HS8.out.ur).mono ?_
 rintro e w9 ⟨rfl, g9⟩
 have HS9 := hid (HS8.out.grow g9)
 have HT9 := hid (HT8.out.grown g9 (by simp) (fun _ _ => by simp))
 clear g9 HS8 HT8 HJ
 simp only
 go_wp2_with fail
 refine (some_new someA (by decide) (by decide) (show k4 ≤ 1073741824 by omega) hx2 HT9.out).mono ?_
 rintro e wa ⟨rfl, Ta⟩
 have HSa := hid (HS9.out.sto Ta)
 have HTa := hid Ta.strm
 clear Ta HS9 HT9
 have hsa := someA_le xs k4
 generalize somev xs k4 someA = sa at hsa ⊢
 go_wp2_with fail
 refine (some_new someB (by decide) (by decide) (show k4 + 1 ≤ 1073741824 by omega) hx2 HTa.out).mono ?_
 rintro e wb ⟨rfl, Tb⟩
 have HSb := hid (HSa.out.sto Tb)
 clear Tb HSa HTa
 have hsb := someB_le xs (k4 + 1)
 generalize somev xs (k4 + 1) someB = sb at hsb ⊢
 have HB1 := hid (fun W h => HLC.out.bet W sa sb hsa hsb h)
 have HB2 := hid (fun hc W h => HLC.out.rbet hc W sa sb hsa hsb h)
 have HB3 := hid (fun hc => HLC.out.badb hc sa sb)
 obtain ⟨bm, hbm⟩ : ∃ r, betweenM ms sa sb = r := ⟨_, rfl⟩
 rw [hbm] at HB1 HB2 HB3
 clear hbm
 obtain ⟨b1, b2, b3⟩ := bm
 go_wp2_with fail
 refine (HB1.out wb HSb.out.ts.mr).mono ?_
 rintro e wc ⟨rfl, gc⟩
 have HSc := hid (HSb.out.grow gc)
 clear gc HSb HB1
 simp only
 go_wp2_with fail
 refine (HLC.out.flt wc HSc.out.ts.mr).mono ?_
 rintro e wd ⟨rfl, gd⟩
 have HSd := hid (HSc.out.grow gd)
 clear gd HSc
 go_upto_region 12 with (fail)
 obtain ⟨one, hone⟩ : ∃ one : Int, one = if c = 0 then (if a < 0 ∨ (t.size : Int) ≤ a then 1 else 0) else c := ⟨_, rfl⟩
 have HONE := hid hone
 clear hone
 go_cut [26] (fun v wx => v = .int .i64 one ∧ Hid (wd.grownBy wx none))
 case first =>
  as_aux_lemma =>
   have HES : Hid (∀ (q : Bool) (W : World) (B : Nat), (q = true ↔ (a < 0 ∨ (t.size : Int) ≤ a)) → W.heap[B]? = some (.cells #[.int .i64 c, .int .i64 (whenv q 1)] 31 (0, 0)) → Calls Tryz.prog 9 #[.slice (some ⟨B, 0, none⟩) 2 2] W fun e w' => e = .returned (.int .i64 one) ∧ W = w') :=
    hid (fun q W B hq hb => by
     have h := errs_any [c, whenv q 1] _ W ⟨some ⟨B, 0, none⟩, 2, rfl, .inr ⟨B, 0, rfl, fun j u hu => by rw [Nat.zero_add, xCb hb j]; simpa [intC] using hu⟩⟩ (by simp)
     have e : errV [c, whenv q 1] = one := (errV_two c q _ hq).trans HONE.out.symm
     rw [e] at h
     exact h)
   by_cases h0 : a < 0
   · have q0 : decide (a < 0) = true := decide_eq_true h0
     have HQ := hid (HES.out true (wd.alloc (.cells #[.int .i64 c, .int .i64 1] 31)) wd.heap.size (by simp [h0]) (heap_alloc_new wd _))
     go_wp2_with fail
     refine (when_any true 1 wd).mono ?_
     rintro e we ⟨rfl, rfl⟩
     rw [show whenv true 1 = 1 from rfl]
     go_wp2_with fail
     refine HQ.out.mono ?_
     rintro e we ⟨rfl, rfl⟩
     go_wp2_with fail
     go_meet
     exact ⟨rfl, hid (xGa _ _ _)⟩
   · have q0 : decide (a < 0) = false := decide_eq_false h0
     by_cases h1 : (t.size : Int) ≤ a
     · have q1 : decide ((t.size : Int) ≤ a) = true := decide_eq_true h1
       have HQ := hid (HES.out true (wd.alloc (.cells #[.int .i64 c, .int .i64 1] 31)) wd.heap.size (by simp [h1]) (heap_alloc_new wd _))
       go_wp2_with fail
       refine (when_any true 1 wd).mono ?_
       rintro e we ⟨rfl, rfl⟩
       rw [show whenv true 1 = 1 from rfl]
       go_wp2_with fail
       refine HQ.out.mono ?_
       rintro e we ⟨rfl, rfl⟩
       go_wp2_with fail
       go_meet
       exact ⟨rfl, hid (xGa _ _ _)⟩
     · have q1 : decide ((t.size : Int) ≤ a) = false := decide_eq_false h1
       have HQ := hid (HES.out false (wd.alloc (.cells #[.int .i64 c, .int .i64 0] 31)) wd.heap.size (by simp; omega) (heap_alloc_new wd _))
       go_wp2_with fail
       refine (when_any false 1 wd).mono ?_
       rintro e we ⟨rfl, rfl⟩
       rw [show whenv false 1 = 0 from rfl]
       go_wp2_with fail
       refine HQ.out.mono ?_
       rintro e we ⟨rfl, rfl⟩
       go_wp2_with fail
       go_meet
       exact ⟨rfl, hid (xGa _ _ _)⟩
 case rest =>
  obtain ⟨rfl, HGc⟩ := hcut
  have HSe := hid (HSd.out.grow HGc.out)
  clear HSd HGc
  go_upto_if 113 with (fail)
  have HGf := hid (xGa wc (.cells #[.int .i64 0, .int .i64 0, .int .i64 0, .int .i64 0] 43) none)
  have HBf := hid (heap_alloc_new wc (.cells #[.int .i64 0, .int .i64 0, .int .i64 0, .int .i64 0] 43))
  have hfw : fb < wc.heap.size := lt_of_block HSe.out.ts.fx
  have hwB : wc.heap.size ≤ wc.heap.size := Nat.le_refl _
  generalize wc.alloc _ = wf at HGf HBf ⊢
  generalize hWB : wc.heap.size = B at HBf hfw ⊢
  rw [hWB] at hwB
  have HWB := hid (show wc.heap.size ≤ B by omega)
  clear hWB hwB
  go_cut [26] (fun v wx => v = .int .i64 fe ∧ Hid (wx.heap[B]? = some (.cells #[.int .i64 f1, .int .i64 f2, .int .i64 f3, .int .i64 f4] 43 (0, 0))) ∧ Hid (wc.grownBy wx none))
  case first =>
   as_aux_lemma =>
    by_cases hz : one = 0
    · have hc0 : c = 0 := by
       by_cases h : c = 0
       · exact h
       · have := HONE.out; rw [if_neg h] at this; omega
      have hin : 0 ≤ a ∧ a < t.size := by
       by_cases h : a < 0 ∨ (t.size : Int) ≤ a
       · have := HONE.out; rw [if_pos hc0, if_pos h] at this; omega
       · omega
      subst hz
      have HL := hid (HLC.out.rlong hc0 hin.1 hin.2 wf (HSe.out.grow HGf.out).ts.mr)
      have hinn := HLC.out.inn hc0 hin.1 hin.2
      clear hin hc0 ha ha1 HONE
      go_wp2_with fail
      refine HL.out.mono ?_
      rintro e wg ⟨rfl, gg⟩
      have HBg := hid (grow_new gg HBf.out)
      have HGg := hid (grownBy_trans HGf.out gg)
      clear gg HL HBf HGf
      have c0 := xCb HBg.out 0
      have c1 := xCb HBg.out 1
      have c2 := xCb HBg.out 2
      have c3 := xCb HBg.out 3
      have d0 := xFb HBg.out 0
      have d1 := xFb HBg.out 1
      have d2 := xFb HBg.out 2
      have d3 := xFb HBg.out 3
      simp only [xGe, xGz, xGs] at c0 c1 c2 c3
      rcases hinn with ⟨rfl, rfl, rfl⟩ | ⟨hr, rfl, rfl⟩
      · go_upto_if 120 with (fail)
        have HSS := hid (set4f HBg.out HGg.out HWB.out (.int .i64 (-1)) (.int .i64 f2) (.int .i64 f3) (.int .i64 f4))
        clear HBg HGg c0 c1 c2 c3 d0 d1 d2 d3
        generalize World.setCell _ _ _ = wh at HSS ⊢
        have c0 := xCb HSS.out.1 0
        have d0 := xFb HSS.out.1 0
        simp only [xGe, xGz] at c0
        go_wp2_with fail
        have HS2 := hid (set1f HSS.out.1 HSS.out.2 HWB.out (.int .i64 0))
        clear HSS c0 d0
        generalize World.setCell _ _ _ = wi at HS2 ⊢
        go_meet
        exact ⟨rfl, hid HS2.out.1, hid HS2.out.2⟩
      · have hrb : decide (f1 < 0) = false := decide_eq_false (by omega)
        go_upto_if 120 with (fail)
        have HSS := hid (set4f HBg.out HGg.out HWB.out (.int .i64 f1) (.int .i64 f2) (.int .i64 f3) (.int .i64 f4))
        clear HBg HGg c0 c1 c2 c3 d0 d1 d2 d3
        generalize World.setCell _ _ _ = wh at HSS ⊢
        go_wp2_with fail
        go_meet
        exact ⟨rfl, hid HSS.out.1, hid HSS.out.2⟩
    · have hzb : (one == 0) = false := beq_eq_false_iff_ne.2 hz
      have hfe : one = fe ∧ f1 = 0 ∧ f2 = 0 ∧ f3 = 0 ∧ f4 = 0 := by
       by_cases h : c = 0
       · by_cases h2 : a < 0 ∨ (t.size : Int) ≤ a
         · obtain ⟨x1, x2, x3, x4, x5⟩ := HLC.out.out h h2
           have := HONE.out; rw [if_pos h, if_pos h2] at this
           exact ⟨by omega, x1, x2, x3, x4⟩
         · have := HONE.out; rw [if_pos h, if_neg h2] at this; exact absurd this hz
       · obtain ⟨x1, x2, x3, x4, x5, _⟩ := HLC.out.bad h
         have := HONE.out; rw [if_neg h] at this
         exact ⟨by omega, x1, x2, x3, x4⟩
      obtain ⟨rfl, rfl, rfl, rfl, rfl⟩ := hfe
      clear hz HONE
      go_wp2_with fail
      go_meet
      exact ⟨rfl, HBf, HGf⟩
  case rest =>
   obtain ⟨rfl, HBh, HGh⟩ := hcut
   clear HGf HBf HONE one ha ha1
   obtain ⟨wh, rfl⟩ : ∃ v : World, v = wc := ⟨_, rfl⟩
   go_upto_if 126 with (fail)
   have HSh := hid (HSe.out.grow HGh.out)
   clear HSe HGh
   go_cut [28, 29, 30, 31, 32, 33, 34, 35, 36, 37] (fun v28 v29 v30 v31 v32 v33 v34 v35 v36 v37 wx => v28 = .int .i64 pe ∧ v29 = .int .i64 se ∧ v30 = .int .i64 b3 ∧ v33 = .int .i64 pi ∧ v34 = .int .i64 si ∧ v35 = .string tl ∧ v36 = .string b1 ∧ v37 = .bool b2 ∧ Hid (PcAt wx v31 P) ∧ Hid (TkAt wx v32 T) ∧ Hid (wh.grownBy wx none))
   case first =>
    as_aux_lemma =>
     by_cases hc : c = 0
     · subst hc
       rw [show ((0 : Int) == 0) = true from rfl]
       have HR1 := hid (HLC.out.rpcs rfl)
       have HR2 := hid (HLC.out.rspl rfl)
       have HR3 := hid (HB2.out rfl)
       have hper := HLC.out.per rfl
       clear HB2 HB3
       go_wp2_with fail
       refine (HR1.out wh HSh.out.ts.mr).mono ?_
       rintro e wi ⟨pv2, rfl, own2, gi⟩
       have HSi := hid (HSh.out.grow gi)
       have HGi := hid gi
       have HPi := hid (pcAt_own own2 rfl)
       clear own2 gi HR1
       go_upto_if 135 with (fail)
       go_cut [28] (fun v wx => v = .int .i64 pe ∧ wx = wi)
       case first =>
        rcases hper with rfl | rfl
        · go_wp2_with fail
          go_meet
          exact ⟨rfl, rfl⟩
        · go_wp2_with fail
          go_meet
          exact ⟨rfl, rfl⟩
       case rest =>
        obtain ⟨rfl, hwi⟩ := hcut
        subst hwi
        obtain ⟨wi, rfl⟩ : ∃ v : World, v = wc := ⟨_, rfl⟩
        go_wp2_with fail
        refine (HR2.out wi HSi.out.ts.mr).mono ?_
        rintro e wj ⟨tv2, rfl, own3, gj⟩
        have HTj := hid (tkAt_own own3 rfl)
        have HPj := hid (HPi.out.grow gj)
        have HSj := hid (HSi.out.grow gj)
        have HGj := hid (grownBy_trans HGi.out gj)
        clear own3 gj HPi HSi HGi HR2
        go_wp2_with fail
        refine (HR3.out wj HSj.out.ts.mr).mono ?_
        rintro e wk ⟨rfl, gk⟩
        have HTk := hid (HTj.out.grow gk)
        have HPk := hid (HPj.out.grow gk)
        have HGk := hid (grownBy_trans HGj.out gk)
        clear gk HTj HPj HSj HGj HR3
        simp only
        go_wp2_with fail
        go_meet
        exact ⟨rfl, rfl, rfl, rfl, rfl, rfl, rfl, rfl, HPk, HTk, HGk⟩
     · have hcb : (c == 0) = false := beq_eq_false_iff_ne.2 hc
       obtain ⟨_, _, _, _, _, rfl, rfl, rfl, rfl, rfl, rfl, rfl⟩ := HLC.out.bad hc
       have h3 := HB3.out hc
       simp only [Prod.mk.injEq] at h3
       obtain ⟨rfl, rfl, rfl⟩ := h3
       clear HB2 HB3 hc
       go_wp2_with fail
       go_meet
       exact ⟨rfl, rfl, rfl, rfl, rfl, rfl, rfl, rfl, hid ⟨none, 0, rfl, .inl rfl⟩, hid ⟨none, 0, rfl, .inl rfl⟩, hid (grow_self _)⟩
   case rest =>
    as_aux_lemma =>
     obtain ⟨rfl, rfl, rfl, rfl, rfl, rfl, rfl, rfl, HP2, HT2, HGw⟩ := hcut
     have HSw := hid (HSh.out.grow HGw.out)
     have HBw := hid (grow_new HGw.out HBh.out)
     clear HSh HGw HBh HB2 HB3
     go_wp2_with fail
     refine (HJ2.out _ HSw.out.ur).mono ?_
     rintro e wl ⟨rfl, gl⟩
     have HSl := hid (HSw.out.grow gl)
     have HBl := hid (grow_new gl HBw.out)
     have HP3 := hid (HP2.out.grow gl)
     have HT3 := hid (HT2.out.grow gl)
     clear gl HSw HBw HP2 HT2 HJ2
     simp only
     have x0 := xCb HSl.out.ts.fx 0
     have x1 := xCb HSl.out.ts.fx 1
     have x2 := xCb HSl.out.ts.fx 2
     have x3 := xCb HSl.out.ts.fx 3
     have y0 := xCb HBl.out 0
     have y1 := xCb HBl.out 1
     have y2 := xCb HBl.out 2
     have y3 := xCb HBl.out 3
     simp only [xGe, xGz, xGs] at x0 x1 x2 x3 y0 y1 y2 y3
     have HE1 := hid (equalPc_same P pv _ wl HLC.out.pl (pcAt_own HSl.out.ts.pr rfl) HP3.out)
     have HE2 := hid (fun (W : World) (g : wl.grownBy W none) => equalTk_same T tv _ W HLC.out.tlen (tkAt_own (HSl.out.grow g).ts.tr rfl) (HT3.out.grow g))
     have HGl := hid HSl.out.ts.gr
     clear HSl HBl HP3 HT3 HLC
     go_wp2_with fail
     refine HE1.out.mono ?_
     rintro e wm ⟨rfl, gm⟩
     have HGm := hid gm
     clear gm x0 x1 x2 x3 y0 y1 y2 y3
     go_wp2_with fail
     refine (HE2.out wm HGm.out).mono ?_
     rintro e wn ⟨rfl, gn⟩
     have HGn := hid (grownBy_trans HGl.out (grownBy_trans HGm.out gn))
     clear gn HGm HE1 HE2
     go_wp2_with fail
     refine (lexed_any _).mono ?_
     rintro e wo ⟨rfl, go⟩
     have HGo := hid (grownBy_trans HGn.out go)
     clear go HGn
     go_wp2_with fail
     go_ret
     exact ⟨rfl, HGo.out⟩
end Go.Proofs.YtplbacfjmajeeaaGreatDoor
