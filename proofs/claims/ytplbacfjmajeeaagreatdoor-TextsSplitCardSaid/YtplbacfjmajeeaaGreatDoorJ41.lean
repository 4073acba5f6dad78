import Derived.Test.YtplbacfjmajeeaaGreatDoorJ08
import Derived.Test.YtplbacfjmajeeaaGreatDoorJ40
namespace Go.Proofs.YtplbacfjmajeeaaGreatDoor
open Go.Lib (hid)
set_option maxHeartbeats 4000000
set_option maxRecDepth 100000
open Go.RowKit
theorem own_mono {w : World} {base base' : Nat} {e : TypeId} {size : Nat} {v : Value} {n : Nat} {xs : List Value} (h : w.ownsRow base e size v n xs) (hb : base' ≤ base) : w.ownsRow base' e size v n xs := by
 refine ⟨h.1, ?_⟩
 rcases h.2 with h2 | ⟨g, cap, cur, hv, hg, r⟩
 · exact .inl h2
 · exact .inr ⟨g, cap, cur, hv, Nat.le_trans hb hg, r⟩
theorem tkCells_set : ∀ (T : List Tk) (i : Nat) (h : i < T.length) (t : ByteArray), (tkCells T).set (i * 3 + 2) (.string t) = tkCells (T.set i (T[i].1, T[i].2.1, t))
 | x :: T, 0, _, t => by simp [tkCells]
 | x :: T, i + 1, h, t => by
  have := tkCells_set T i (by simpa using h) t
  rw [show (i + 1) * 3 + 2 = i * 3 + 2 + 1 + 1 + 1 by omega]
  simp only [tkCells, xSs, List.getElem_cons_succ, this]
theorem tkCells_at : ∀ (T : List Tk) (i : Nat) (h : i < T.length), (tkCells T)[i * 3 + 2]? = some (.string T[i].2.2)
 | x :: T, 0, _ => by simp [tkCells]
 | x :: T, i + 1, h => by
  rw [show (i + 1) * 3 + 2 = i * 3 + 2 + 1 + 1 + 1 by omega]
  simp only [tkCells, xGs, List.getElem_cons_succ]
  exact tkCells_at T i (by simpa using h)
theorem tkSum_set : ∀ (T : List Tk) (i : Nat) (h : i < T.length) (t : ByteArray), tkSum (T.set i (T[i].1, T[i].2.1, t)) ≤ tkSum T + t.size
 | x :: T, 0, _, t => by simp only [xSz, tkSum, List.getElem_cons_zero]; omega
 | x :: T, i + 1, h, t => by
  have := tkSum_set T i (by simpa using h) t
  simp only [xSs, tkSum, List.getElem_cons_succ] at this ⊢
  omega
theorem splitR_len (ms : List Mrk) (s : ByteArray) : (splitR ms s).1.length ≤ 2000 := by
 unfold splitR
 split
 · split
   · simp
   · simp only; omega
 · simp
theorem splitR_sum (ms : List Mrk) (s : ByteArray) (h : (splitR ms s).2.2.2 = 0) : tkSum (splitR ms s).1 + (splitR ms s).2.1.size = s.size := by
 have h1 := congrArg List.length (splitR_text ms s h)
 rw [List.length_append, tkText_len, Array.length_toList, Array.length_toList] at h1
 exact h1
def textL3 : List ByteArray := [⟨#[120]⟩, ⟨#[49, 32, 49]⟩, ⟨#[]⟩]
def tailL2 : List ByteArray := [⟨#[]⟩, ⟨#[32]⟩]
theorem textL3_le (xs : List Int) (k : Nat) : (somev xs k textL3).size ≤ 3 := somev_all (fun x => x.size ≤ 3) xs k textL3 (by decide) (by decide)
theorem tailL2_le (xs : List Int) (k : Nat) : (somev xs k tailL2).size ≤ 3 := somev_all (fun x => x.size ≤ 3) xs k tailL2 (by decide) (by decide)
def TokPost (b : Nat) (av : Option Addr) (cap : Nat) (xs : List Int) (w : World) (k : Nat) (e : Ending) (w' : World) : Prop :=
 ∃ (T : List Tk) (v : Value) (tail : ByteArray) (k' : Nat), e = .returned (.tuple #[v, .string tail]) ∧ w'.ownsRow w.heap.size 66 3 v T.length (tkCells T) ∧ T.length ≤ 2000 ∧ tkSum T + tail.size ≤ 100 ∧ k' ≤ k + 100 ∧ Sto b av cap xs w w' k'
theorem tokenList_any {b : Nat} {av : Option Addr} {cap k base : Nat} {xs : List Int} {w : World} {ms : List Mrk} {mv : Option Addr} {mc : Nat} (hk : k ≤ 100000) (hx2 : xs.length ≤ 9223372036854775807) (hbb : b < base) (hF : MksF base ms (.slice mv ms.length mc) w) (hN : MrkN ms 12 41 406) (S : Strm b av cap xs w k) :
 Calls Tryz.prog 19 #[.pointer (some ⟨b, 0, none⟩), .slice mv ms.length mc] w (TokPost b av cap xs w k) := by
 obtain ⟨P, hP⟩ : ∃ P, TokPost b av cap xs w k = P := ⟨_, rfl⟩
 rw [hP]
 have HP := hid hP
 have HF := hid hF
 have HN := hid hN
 have HS := hid S
 have hA : ∀ W, MksF base ms (.slice mv ms.length mc) W → ms = [] ∨ ∃ b off, mv = some ⟨b, off, none⟩ ∧ MrkAt W ms b off := by
  intro W h
  obtain ⟨mv2, mc2, e, h2⟩ := h.form
  simp only [Value.slice.injEq] at e
  rw [e.1]
  exact h2
 have HA := hid hA
 have hlv : leavesL (ms.map Mrk.pat) ≤ 64 := by have : leavesL (ms.map Mrk.pat) ≤ 41 := hN.lv; omega
 have hsz : sizes (ms.map Mrk.pat) ≤ 500 := by have : sizes (ms.map Mrk.pat) ≤ 406 := hN.sz; omega
 have HC := hid (refMarks_any ms mv mc w (fun m hm => ⟨by have := mSz_mem ms m hm; have := hN.sz; omega, by have := hN.kd m hm; omega⟩) (by have := hN.len; omega) hlv hsz (hA w hF))
 have HSP : Hid (∀ (s : ByteArray) (W : World), s.size ≤ 20000 → chk ms = 0 → MksF base ms (.slice mv ms.length mc) W → Calls Tryz.prog 27 #[.slice mv ms.length mc, .string s] W (SplitOfPost (splitR ms s) W)) :=
  hid (fun s W hs hc hW => splitOf_any ms mv mc s W hs hc hlv hsz (hA W hW))
 obtain ⟨M, hM⟩ : ∃ M : Value, .slice mv ms.length mc = M := ⟨_, rfl⟩
 obtain ⟨c, hc⟩ : ∃ c, chk ms = c := ⟨_, rfl⟩
 rw [hc] at HC HSP
 rw [hM] at HC HSP HF ⊢
 clear hP hF hN hA hlv hsz HA hc hM
 have HB := hid hbb
 clear hbb
 go_enter Tryz.func19, Tryz.ntmps19
 go_wp2_with fail
 refine HC.out.mono ?_
 rintro e w1 ⟨rfl, g1⟩
 have HT1 := hid ((Sto.refl HS.out).newer HS.out g1 (fun r hr => by cases hr))
 have HF1 := hid (HF.out.keep g1 (fun r hr => by cases hr))
 clear g1
 go_upto_if 12 with (fail)
 go_cut [] (fun wx => ∃ (k2 : Nat), k2 ≤ k + 70 ∧ Hid (Sto b av cap xs w wx k2))
 case first =>
  by_cases hc : c = 0
  · subst hc
    rw [show ((0 : Int) == 0) = true from rfl]
    have HSQ : Hid (∀ (s : ByteArray) (W : World), s.size ≤ 20000 → MksF base ms M W → Calls Tryz.prog 27 #[M, .string s] W (SplitOfPost (splitR ms s) W)) := hid (fun s W h1 h2 => HSP.out s W h1 rfl h2)
    clear HSP HC
    go_wp2_with fail
    go_loopw [13] (fun iv wr => ∃ (i k2 : Nat), i ≤ 5 ∧ iv = .int .i64 i ∧ k2 ≤ k + 14 * i ∧ Hid (Sto b av cap xs w wr k2)) (fun iv _ => 5 - (intOf iv).toNat)
    case atStart => exact ⟨0, k, by omega, rfl, by omega, HT1⟩
    case round =>
     clear HT1 HF1
     obtain ⟨i, k2, hi, rfl, hk2, HT⟩ := hrel
     by_cases hlt : i < 5
     · have hw1 : IntKind.i64.wrap ((i : Int) + 1) = ((i + 1 : Nat) : Int) := (Go.IntWalk.i64_in _ (by omega)).trans (by omega)
       go_wp2_with fail
       refine (atext_any (by omega) hx2 HT.out.strm).mono ?_
       rintro e w2 ⟨t, k3, rfl, ht, hk3, T2⟩
       have HT2 := hid (HT.out.trans T2)
       have HF2 := hid (HF.out.keep HT2.out.grow (fun r hr => by have : b = r := (by simpa using hr); have := HB.out; omega))
       have HSR := hid (splitR_sum ms t)
       have HLN := hid (splitR_len ms t)
       have HCL := hid (HSQ.out t w2 (by omega) HF2.out)
       have HTS := hid ht
       generalize splitR ms t = r at HSR HLN HCL
       obtain ⟨T, tail, at_, er⟩ := r
       clear T2 HT ht
       go_wp2_with fail
       refine HCL.out.mono ?_
       rintro e w3 ⟨v, rfl, own3, g3⟩
       have HT3 := hid (HT2.out.newer HS.out g3 (fun r hr => by cases hr))
       have HO3 := hid (own_mono own3 (show w.heap.size ≤ w2.heap.size from HT2.out.grow.size))
       clear own3 g3 HT2 HF2 HCL
       simp only at HO3 HSR HLN ⊢
       by_cases her : er = 0
       · subst her
         have HTK := hid (show T.length ≤ 2000 ∧ tkSum T + tail.size ≤ 38 from ⟨HLN.out, by have := HSR.out rfl; have := HTS.out; omega⟩)
         clear HSR HLN HTS
         by_cases h0 : 0 < T.length
         · obtain ⟨g, c2, hsl, hgB, hcell⟩ := ownsRow_cell HO3.out h0
           subst hsl
           clear hcell
           have hb0 : decide ((0 : Int) < (T.length : Int)) = true := decide_eq_true (by omega)
           have hTL : T.length ≤ 2000 := HTK.out.1
           go_wp2_with fail
           refine (flip_any 15 (by omega) (by omega) hx2 HT3.out.strm).mono ?_
           rintro e w4 ⟨rfl, T4⟩
           have HT4 := hid (HT3.out.trans T4)
           have HO4 := hid (HO3.out.kept T4.grow (.inr (by simp only [Value.ownBlock, ne_eq, Option.some.injEq]; have := HS.out.lt; omega)))
           clear T4 HT3 HO3
           generalize flipv xs k3 15 = fb
           rcases fb with _ | _
           · go_wp2_with fail
             rw [← HP.out]
             exact ⟨T, _, tail, k3 + 1, rfl, HO4.out, by omega, by have := HTK.out.2; omega, by omega, HT4.out⟩
           · go_wp2_with fail
             have n0 := nextv_lo xs (k3 + 1) (T.length : Int)
             have n1 := nextv_hi xs (k3 + 1) (T.length : Int) (by omega)
             refine (next_any (T.length : Int) (by omega) (by omega) hx2 HT4.out.strm).mono ?_
             rintro e w5 ⟨rfl, T5⟩
             have HT5 := hid (HT4.out.trans T5)
             have HO5 := hid (HO4.out.kept T5.grow (.inr (by simp only [Value.ownBlock, ne_eq, Option.some.injEq]; have := HS.out.lt; omega)))
             clear T5 HT4 HO4
             obtain ⟨j, hj⟩ := Int.eq_ofNat_of_zero_le n0
             rw [hj]
             have hj1 : j < T.length := by omega
             have hj2 : (j : Int) < (T.length : Int) := by omega
             clear hj n0 n1
             go_wp2_with fail
             refine (some_new textL3 (by decide) (by decide) (show k3 + 1 + 1 ≤ 1073741824 by omega) hx2 HT5.out.strm).mono ?_
             rintro e w6 ⟨rfl, T6⟩
             have HT6 := hid (HT5.out.trans T6)
             have HO6 := hid (HO5.out.kept T6.grow (.inr (by simp only [Value.ownBlock, ne_eq, Option.some.injEq]; have := HS.out.lt; omega)))
             clear T6 HT5 HO5
             have HX := hid (textL3_le xs (k3 + 1 + 1))
             generalize somev xs (k3 + 1 + 1) textL3 = x at HX ⊢
             have c0 : w6.cell? ⟨g, j * 3 + 2, none⟩ = some (.string T[j].2.2) := by
              rw [HO6.out.cellAt _ (by omega)]
              exact tkCells_at T j hj1
             have f0 : w6.frozen? ⟨g, j * 3 + 2, none⟩ = false := HO6.out.frozenAt _
             generalize T[j].2.2 = old at c0
             go_wp2_with fail
             have HO7 := hid (HO6.out.stored (j * 3 + 2) (.string x)).1
             have HT7 := hid (HT6.out.setCell HS.out ⟨g, j * 3 + 2, none⟩ (.string x) hgB)
             rw [tkCells_set T j hj1 x] at HO7
             clear c0 f0
             generalize World.setCell _ _ _ = w7 at HO7 HT7 ⊢
             rw [← HP.out]
             refine ⟨T.set j (T[j].1, T[j].2.1, x), .slice (some ⟨g, 0, none⟩) T.length c2, tail, k3 + 1 + 1 + 1, rfl, by rw [List.length_set]; exact HO7.out, by rw [List.length_set]; omega, ?_, by omega, HT7.out⟩
             have := tkSum_set T j hj1 x
             have := HTK.out.2
             have := HX.out
             omega
         · have hTL : T.length = 0 := by omega
           have HOT := HO3
           have hb0 : decide ((0 : Int) < (T.length : Int)) = false := decide_eq_false (by omega)
           obtain ⟨sa, sc, rfl⟩ := ownsRow_slice HO3.out
           clear hTL
           go_wp2_with fail
           rw [← HP.out]
           exact ⟨T, _, tail, k3, rfl, HO3.out, HTK.out.1, by have := HTK.out.2; omega, by omega, HT3.out⟩
       · have heb : ((er : Int) == 0) = false := beq_eq_false_iff_ne.2 (by omega)
         go_wp2_with fail
         go_roundw
         case measure => simp [intOf]; omega
         case rel => exact ⟨i + 1, k3, by omega, by go_num, by omega, HT3⟩
     · obtain rfl : i = 5 := by omega
       go_wp2_with fail
       go_meet
       exact ⟨k2, by omega, HT⟩
  · have hcb : (c == 0) = false := by simp [hc]
    go_wp2_with fail
    go_meet
    exact ⟨k, by omega, HT1⟩
 case rest =>
  clear HT1 HF1 HC HSP
  obtain ⟨k2, hk2, HT⟩ := hcut
  go_wp2_with fail
  have HO1 := hid (World.ownsRow_lit (base := w.heap.size) (e := 66) (size := 3) wc #[.string ⟨#[110, 117, 109]⟩, .string ⟨#[]⟩, .string ⟨#[49]⟩] 1 HT.out.grow.size (by unfold maxLen; omega) rfl)
  have HT1 := hid (HT.out.alloc (.cells #[.string ⟨#[110, 117, 109]⟩, .string ⟨#[]⟩, .string ⟨#[49]⟩] 66))
  have hgb : wc.heap.size ≠ b := by have := HT.out.strm.lt; omega
  have hsz : wc.heap.size + 1 = (wc.alloc (.cells #[.string ⟨#[110, 117, 109]⟩, .string ⟨#[]⟩, .string ⟨#[49]⟩] 66)).heap.size := by simp
  clear HT
  rw [hsz]
  clear hsz
  generalize wc.alloc _ = w2 at HO1 HT1 ⊢
  generalize wc.heap.size = g at HO1 hgb ⊢
  refine (some_new tailL2 (by decide) (by decide) (show k2 ≤ 1073741824 by omega) hx2 HT1.out.strm).mono ?_
  rintro e w3 ⟨rfl, T3⟩
  have HT3 := hid (HT1.out.trans T3)
  have HO3 := hid (HO1.out.kept T3.grow (.inr (by simpa only [Value.ownBlock, ne_eq, Option.some.injEq] using hgb)))
  clear T3 HT1 HO1
  have HX := hid (tailL2_le xs k2)
  generalize somev xs k2 tailL2 = x at HX ⊢
  go_wp2_with fail
  rw [← HP.out]
  exact ⟨[(⟨#[110, 117, 109]⟩, ⟨#[]⟩, ⟨#[49]⟩)], .slice (some ⟨g, 0, none⟩) 1 1, x, k2 + 1, rfl, HO3.out, by simp, by have := HX.out; simp only [tkSum]; have : (⟨#[]⟩ : ByteArray).size = 0 := rfl; have : (⟨#[49]⟩ : ByteArray).size = 1 := rfl; omega, by omega, HT3.out⟩
open Go.RowKit Go.Region
def longM (ms : List Mrk) (s : ByteArray) (a : Int) : Int × Int × Int × Int × Int :=
 if chk ms = 0 then
  if 20000 < s.size then (0, 0, 0, 0, 2)
  else if a < 0 ∨ (s.size : Int) ≤ a then (0, 0, 0, 0, 1)
  else ((longL (ms.map Mrk.pat) (setsM ms) s.data.toList a.toNat).1, a, (longL (ms.map Mrk.pat) (setsM ms) s.data.toList a.toNat).2.1, (longL (ms.map Mrk.pat) (setsM ms) s.data.toList a.toNat).2.2, if (longL (ms.map Mrk.pat) (setsM ms) s.data.toList a.toNat).2.1 = 0 then 8 else 0)
 else (0, 0, 0, 0, chk ms)
def LongTop (ms : List Mrk) (s : ByteArray) (a : Int) (w : World) (e : Ending) (w' : World) : Prop :=
 e = .returned (.tuple #[.agg #[.int .i64 (longM ms s a).1, .int .i64 (longM ms s a).2.1, .int .i64 (longM ms s a).2.2.1, .int .i64 (longM ms s a).2.2.2.1], .int .i64 (longM ms s a).2.2.2.2]) ∧ w.grownBy w' none
theorem longTop_any (ms : List Mrk) (av : Option Addr) (cap : Nat) (s : ByteArray) (a : Int) (w : World) (hs : s.size ≤ 1000000) (hms : ∀ m ∈ ms, m.pat.size ≤ 100000 ∧ m.kind.size ≤ 1000000) (hl : ms.length ≤ 1000000) (hlv : leavesL (ms.map Mrk.pat) ≤ 64)
 (ha : ms = [] ∨ ∃ b off, av = some ⟨b, off, none⟩ ∧ MrkAt w ms b off) :
 Calls Tryz.prog 16 #[.slice av ms.length cap, .string s, .int .i64 a] w (LongTop ms s a w) := by
 obtain ⟨P, hP⟩ : ∃ P, LongTop ms s a w = P := ⟨_, rfl⟩
 rw [hP]
 have HP := hid hP
 have HA := hid ha
 have HPS := hid (show (ms.map Mrk.pat).length ≤ 1000000 by simpa using hl)
 obtain ⟨N, hN⟩ : ∃ N, ms.length = N := ⟨_, rfl⟩
 have HC : Hid (∀ W, w.grownBy W none → Calls Tryz.prog 49 #[.slice av N cap] W fun e w' => W.grownBy w' none ∧ ∃ pv, e = .returned (.tuple #[.pointer pv, .int .i64 (chk ms)]) ∧ (chk ms = 0 → ∃ bm, pv = some ⟨bm, 0, none⟩ ∧ (setsM ms).length ≤ 3000 ∧ MachAt w' bm (ms.map Mrk.pat) (setsM ms))) := hid (fun W g => by
  rw [← hN]
  refine checked_sum ms av cap W hms hl hlv ?_
  rcases ha with h | ⟨b, off, h1, h2⟩
  · exact .inl h
  · exact .inr ⟨b, off, h1, h2.grow g⟩)
 rw [hN]
 clear hP ha hms hlv hl hN
 go_enter Tryz.func16, Tryz.ntmps16
 go_wp2_with fail
 have r0 := heap_alloc_new w (.cells #[.int .i64 0, .int .i64 0, .int .i64 0, .int .i64 0] 43)
 have g0 := xGa w (.cells #[.int .i64 0, .int .i64 0, .int .i64 0, .int .i64 0] 43) none
 have hs0 := lt_of_block r0
 generalize w.alloc _ = w0 at r0 g0 hs0 ⊢
 refine (HC.out w0 g0).mono ?_
 rintro e w1 ⟨g1, pv, rfl, hpv⟩
 have HPV := hid hpv
 have R1 := grow_new g1 r0
 have G1 := grownBy_trans g0 g1
 obtain ⟨c, hc⟩ : ∃ c, chk ms = c := ⟨_, rfl⟩
 have HCH := hid hc
 rw [hc]
 clear hc hpv g1 HC g0 r0 hs0
 have z0 := xCb (R1) 0
 have z1 := xCb (R1) 1
 have z2 := xCb (R1) 2
 have z3 := xCb (R1) 3
 have fz0 := xFb (R1) 0
 have fz1 := xFb (R1) 1
 have fz2 := xFb (R1) 2
 have fz3 := xFb (R1) 3
 simp only [xGe, xGz, xGs] at z0 z1 z2 z3
 have HR9 := hid (R1)
 have HG9 := hid (G1)
 by_cases h0 : c = 0
 · subst h0
   obtain ⟨bm, hpv, hL, hM⟩ := HPV.out HCH.out
   subst hpv
   have HL := hid hL
   have HM := hid hM
   clear hL hM HPV
   by_cases hbig : 20000 < s.size
   · have hbig2 : (20000 : Int) < s.size := by omega
     have hlm : longM ms s a = (0, 0, 0, 0, 2) := by unfold longM; rw [if_pos HCH.out, if_pos hbig]
     have HLM := hid hlm
     clear hlm R1 G1 hbig
     go_wp2_with fail
     have R5 := xHs (xHs (xHs (xHs HR9.out 0 (.int .i64 0)) 1 (.int .i64 0)) 2 (.int .i64 0)) 3 (.int .i64 0)
     have G5 := grow_setCell (grow_setCell (grow_setCell (grow_setCell HG9.out ⟨w.heap.size, 0, none⟩ (.int .i64 0) (by simp)) ⟨w.heap.size, 1, none⟩ (.int .i64 0) (by simp)) ⟨w.heap.size, 2, none⟩ (.int .i64 0) (by simp)) ⟨w.heap.size, 3, none⟩ (.int .i64 0) (by simp)
     simp only [xSi, xSs, xSz] at R5
     generalize (((World.setCell _ _ _).setCell _ _).setCell _ _).setCell _ _ = w5 at R5 G5 ⊢
     have u0 := xCb R5 0
     have u1 := xCb R5 1
     have u2 := xCb R5 2
     have u3 := xCb R5 3
     simp only [xGe, xGz, xGs] at u0 u1 u2 u3
     rw [← HP.out]
     exact bodyPost_ret (v := .tuple #[.agg #[.int .i64 0, .int .i64 0, .int .i64 0, .int .i64 0], .int .i64 2]) (by simp [results, Tryz.results16, go_sem, u0, u1, u2, u3]) rfl ⟨by rw [HLM.out], G5⟩
   have hbig2 : ¬ (20000 : Int) < s.size := by omega
   have HBG := hid hbig
   have hb1 : decide ((20000 : Int) < s.size) = false := decide_eq_false hbig2
   by_cases hneg : a < 0
   · have hb0 : decide (a < 0) = true := decide_eq_true hneg
     have hlm : longM ms s a = (0, 0, 0, 0, 1) := by unfold longM; rw [if_pos HCH.out, if_neg hbig, if_pos (.inl hneg)]
     have HLM := hid hlm
     clear hlm R1 G1 hbig
     go_wp2_with fail
     have R5 := xHs (xHs (xHs (xHs HR9.out 0 (.int .i64 0)) 1 (.int .i64 0)) 2 (.int .i64 0)) 3 (.int .i64 0)
     have G5 := grow_setCell (grow_setCell (grow_setCell (grow_setCell HG9.out ⟨w.heap.size, 0, none⟩ (.int .i64 0) (by simp)) ⟨w.heap.size, 1, none⟩ (.int .i64 0) (by simp)) ⟨w.heap.size, 2, none⟩ (.int .i64 0) (by simp)) ⟨w.heap.size, 3, none⟩ (.int .i64 0) (by simp)
     simp only [xSi, xSs, xSz] at R5
     generalize (((World.setCell _ _ _).setCell _ _).setCell _ _).setCell _ _ = w5 at R5 G5 ⊢
     have u0 := xCb R5 0
     have u1 := xCb R5 1
     have u2 := xCb R5 2
     have u3 := xCb R5 3
     simp only [xGe, xGz, xGs] at u0 u1 u2 u3
     rw [← HP.out]
     exact bodyPost_ret (v := .tuple #[.agg #[.int .i64 0, .int .i64 0, .int .i64 0, .int .i64 0], .int .i64 1]) (by simp [results, Tryz.results16, go_sem, u0, u1, u2, u3]) rfl ⟨by rw [HLM.out], G5⟩
   have hb0 : decide (a < 0) = false := decide_eq_false hneg
   by_cases hge : (s.size : Int) ≤ a
   · have hb2 : decide ((s.size : Int) ≤ a) = true := decide_eq_true hge
     have hlm : longM ms s a = (0, 0, 0, 0, 1) := by unfold longM; rw [if_pos HCH.out, if_neg hbig, if_pos (.inr hge)]
     have HLM := hid hlm
     clear hlm R1 G1 hbig
     go_wp2_with fail
     have R5 := xHs (xHs (xHs (xHs HR9.out 0 (.int .i64 0)) 1 (.int .i64 0)) 2 (.int .i64 0)) 3 (.int .i64 0)
     have G5 := grow_setCell (grow_setCell (grow_setCell (grow_setCell HG9.out ⟨w.heap.size, 0, none⟩ (.int .i64 0) (by simp)) ⟨w.heap.size, 1, none⟩ (.int .i64 0) (by simp)) ⟨w.heap.size, 2, none⟩ (.int .i64 0) (by simp)) ⟨w.heap.size, 3, none⟩ (.int .i64 0) (by simp)
     simp only [xSi, xSs, xSz] at R5
     generalize (((World.setCell _ _ _).setCell _ _).setCell _ _).setCell _ _ = w5 at R5 G5 ⊢
     have u0 := xCb R5 0
     have u1 := xCb R5 1
     have u2 := xCb R5 2
     have u3 := xCb R5 3
     simp only [xGe, xGz, xGs] at u0 u1 u2 u3
     rw [← HP.out]
     exact bodyPost_ret (v := .tuple #[.agg #[.int .i64 0, .int .i64 0, .int .i64 0, .int .i64 0], .int .i64 1]) (by simp [results, Tryz.results16, go_sem, u0, u1, u2, u3]) rfl ⟨by rw [HLM.out], G5⟩
   have hb2 : decide ((s.size : Int) ≤ a) = false := decide_eq_false hge
   obtain ⟨n, rfl⟩ : ∃ n : Nat, a = n := ⟨a.toNat, by omega⟩
   have hlm : longM ms s n = (((longL (ms.map Mrk.pat) (setsM ms) s.data.toList n).1 : Int), (n : Int), ((longL (ms.map Mrk.pat) (setsM ms) s.data.toList n).2.1 : Int), ((longL (ms.map Mrk.pat) (setsM ms) s.data.toList n).2.2 : Int), if (longL (ms.map Mrk.pat) (setsM ms) s.data.toList n).2.1 = 0 then 8 else 0) := by
    unfold longM
    rw [if_pos HCH.out, if_neg hbig, if_neg (by omega), Int.toNat_natCast]
   have HLM := hid hlm
   have HSP := hid (longest_any bm (ms.map Mrk.pat) (setsM ms) s n w1 hs (by omega) HL.out HPS.out HM.out)
   clear hlm R1 HL HPS HM hbig
   go_wp2_with fail
   refine HSP.out.mono ?_
   rintro e w2 ⟨rfl, g2⟩
   have hlm := HLM.out
   clear HLM HSP
   generalize longL (ms.map Mrk.pat) (setsM ms) s.data.toList n = x at hlm ⊢
   obtain ⟨mk, lg, sg⟩ := x
   simp only at hlm ⊢
   have HLM := hid hlm
   have R2 := grow_new (grow_alloc g2 (.cells #[.int .i64 mk, .int .i64 n, .int .i64 lg, .int .i64 sg] 43)) HR9.out
   have G2 := grow_alloc (grownBy_trans G1 g2) (.cells #[.int .i64 mk, .int .i64 n, .int .i64 lg, .int .i64 sg] 43)
   have F2 := heap_alloc_new w2 (.cells #[.int .i64 mk, .int .i64 n, .int .i64 lg, .int .i64 sg] 43)
   clear hlm HR9 HG9 G1 g2 z0 z1 z2 z3 fz0 fz1 fz2 fz3
   go_upto_region 9 with (fail)
   generalize w2.alloc _ = w3 at R2 G2 F2 ⊢
   generalize w2.heap.size = f at F2 ⊢
   have x0 := xCb F2 0
   have x1 := xCb F2 1
   have x2 := xCb F2 2
   have x3 := xCb F2 3
   simp only [xGe, xGz, xGs] at x0 x1 x2 x3
   have z0 := xCb (R2) 0
   have z1 := xCb (R2) 1
   have z2 := xCb (R2) 2
   have z3 := xCb (R2) 3
   have fz0 := xFb (R2) 0
   have fz1 := xFb (R2) 1
   have fz2 := xFb (R2) 2
   have fz3 := xFb (R2) 3
   simp only [xGe, xGz, xGs] at z0 z1 z2 z3
   have HR9 := hid (R2)
   have HG9 := hid (G2)
   clear R2 G2 F2
   rcases Nat.eq_zero_or_pos lg with rfl | hpos
   · have hd : decide (0 < 0) = false := rfl
     go_wp2_with fail
     have R5 := xHs (xHs (xHs (xHs HR9.out 0 (.int .i64 mk)) 1 (.int .i64 n)) 2 (.int .i64 (0 : Nat))) 3 (.int .i64 sg)
     have G5 := grow_setCell (grow_setCell (grow_setCell (grow_setCell HG9.out ⟨w.heap.size, 0, none⟩ (.int .i64 mk) (by simp)) ⟨w.heap.size, 1, none⟩ (.int .i64 n) (by simp)) ⟨w.heap.size, 2, none⟩ (.int .i64 (0 : Nat)) (by simp)) ⟨w.heap.size, 3, none⟩ (.int .i64 sg) (by simp)
     simp only [xSi, xSs, xSz] at R5
     generalize (((World.setCell _ _ _).setCell _ _).setCell _ _).setCell _ _ = w5 at R5 G5 ⊢
     have u0 := xCb R5 0
     have u1 := xCb R5 1
     have u2 := xCb R5 2
     have u3 := xCb R5 3
     simp only [xGe, xGz, xGs] at u0 u1 u2 u3
     rw [← HP.out]
     exact bodyPost_ret (v := .tuple #[.agg #[.int .i64 mk, .int .i64 n, .int .i64 (0 : Nat), .int .i64 sg], .int .i64 8]) (by simp [results, Tryz.results16, go_sem, u0, u1, u2, u3]) rfl ⟨by rw [HLM.out]; rfl, G5⟩
   · have hd : decide (0 < lg) = true := decide_eq_true hpos
     rw [if_neg (by omega)] at HLM
     go_wp2_with fail
     have R5 := xHs (xHs (xHs (xHs HR9.out 0 (.int .i64 mk)) 1 (.int .i64 n)) 2 (.int .i64 lg)) 3 (.int .i64 sg)
     have G5 := grow_setCell (grow_setCell (grow_setCell (grow_setCell HG9.out ⟨w.heap.size, 0, none⟩ (.int .i64 mk) (by simp)) ⟨w.heap.size, 1, none⟩ (.int .i64 n) (by simp)) ⟨w.heap.size, 2, none⟩ (.int .i64 lg) (by simp)) ⟨w.heap.size, 3, none⟩ (.int .i64 sg) (by simp)
     simp only [xSi, xSs, xSz] at R5
     generalize (((World.setCell _ _ _).setCell _ _).setCell _ _).setCell _ _ = w5 at R5 G5 ⊢
     have u0 := xCb R5 0
     have u1 := xCb R5 1
     have u2 := xCb R5 2
     have u3 := xCb R5 3
     simp only [xGe, xGz, xGs] at u0 u1 u2 u3
     rw [← HP.out]
     exact bodyPost_ret (v := .tuple #[.agg #[.int .i64 mk, .int .i64 n, .int .i64 lg, .int .i64 sg], .int .i64 0]) (by simp [results, Tryz.results16, go_sem, u0, u1, u2, u3]) rfl ⟨by rw [HLM.out], G5⟩
 · have h1 : (c == 0) = false := by simpa using h0
   have hlm : longM ms s a = (0, 0, 0, 0, c) := by unfold longM; rw [HCH.out, if_neg h0]
   have HLM := hid hlm
   clear hlm R1 G1
   go_wp2_with fail
   have R5 := xHs (xHs (xHs (xHs HR9.out 0 (.int .i64 0)) 1 (.int .i64 0)) 2 (.int .i64 0)) 3 (.int .i64 0)
   have G5 := grow_setCell (grow_setCell (grow_setCell (grow_setCell HG9.out ⟨w.heap.size, 0, none⟩ (.int .i64 0) (by simp)) ⟨w.heap.size, 1, none⟩ (.int .i64 0) (by simp)) ⟨w.heap.size, 2, none⟩ (.int .i64 0) (by simp)) ⟨w.heap.size, 3, none⟩ (.int .i64 0) (by simp)
   simp only [xSi, xSs, xSz] at R5
   generalize (((World.setCell _ _ _).setCell _ _).setCell _ _).setCell _ _ = w5 at R5 G5 ⊢
   have u0 := xCb R5 0
   have u1 := xCb R5 1
   have u2 := xCb R5 2
   have u3 := xCb R5 3
   simp only [xGe, xGz, xGs] at u0 u1 u2 u3
   rw [← HP.out]
   exact bodyPost_ret (v := .tuple #[.agg #[.int .i64 0, .int .i64 0, .int .i64 0, .int .i64 0], .int .i64 c]) (by simp [results, Tryz.results16, go_sem, u0, u1, u2, u3]) rfl ⟨by rw [HLM.out], G5⟩
open Go.RowKit
theorem MksF.mono {base base' : Nat} {ms : List Mrk} {lv : Value} {W : World} (h : MksF base ms lv W) (hb : base' ≤ base) : MksF base' ms lv W := by
 obtain ⟨vs, h1, h2⟩ := h
 exact ⟨vs, own_mono h1 hb, MrkQ.keep (kept_self (fun c hc => ⟨by omega, hc.2⟩)) _ _ h2⟩
theorem MksF.arg {base : Nat} {ms : List Mrk} {mv : Option Addr} {mc : Nat} {W : World} (h : MksF base ms (.slice mv ms.length mc) W) : ms = [] ∨ ∃ b off, mv = some ⟨b, off, none⟩ ∧ MrkAt W ms b off := by
 obtain ⟨mv2, mc2, e, h2⟩ := h.form
 simp only [Value.slice.injEq] at e
 rw [e.1]
 exact h2
structure LawC (B : Nat) (ms : List Mrk) (M : Value) (t : ByteArray) (a f1 f2 f3 f4 fe r1 c : Int) (P : List Pc) (pi pe : Int) (T : List Tk) (tl : ByteArray) (si se : Int) : Prop where
 long : ∀ W, MksF B ms M W → Calls Tryz.prog 16 #[M, .string t, .int .i64 a] W fun e w' => e = .returned (.tuple #[.agg #[.int .i64 f1, .int .i64 f2, .int .i64 f3, .int .i64 f4], .int .i64 fe]) ∧ W.grownBy w' none
 pcs : ∀ W, MksF B ms M W → Calls Tryz.prog 17 #[M, .string t] W fun e w' => ∃ v, e = .returned (.tuple #[v, .int .i64 pi, .int .i64 pe]) ∧ w'.ownsRow W.heap.size 43 4 v P.length (pcCells P) ∧ W.grownBy w' none
 spl : ∀ W, MksF B ms M W → Calls Tryz.prog 18 #[M, .string t] W fun e w' => ∃ v, e = .returned (.tuple #[v, .string tl, .int .i64 si, .int .i64 se]) ∧ w'.ownsRow W.heap.size 66 3 v T.length (tkCells T) ∧ W.grownBy w' none
 bet : ∀ W s1 s2, s1.size ≤ 10 → s2.size ≤ 10 → MksF B ms M W → Calls Tryz.prog 22 #[M, .string s1, .string s2] W fun e w' => e = .returned (.tuple #[.string (betweenM ms s1 s2).1, .bool (betweenM ms s1 s2).2.1, .int .i64 (betweenM ms s1 s2).2.2]) ∧ W.grownBy w' none
 flt : ∀ W, MksF B ms M W → Calls Tryz.prog 23 #[M] W fun e w' => e = .returned (.int .i64 c) ∧ W.grownBy w' none
 rlong : c = 0 → 0 ≤ a → a < t.size → ∀ W, MksF B ms M W → Calls Tryz.prog 25 #[M, .string t, .int .i64 a] W fun e w' => e = .returned (.agg #[.int .i64 r1, .int .i64 f2, .int .i64 f3, .int .i64 f4]) ∧ W.grownBy w' none
 rpcs : c = 0 → ∀ W, MksF B ms M W → Calls Tryz.prog 26 #[M, .string t] W fun e w' => ∃ v, e = .returned (.tuple #[v, .int .i64 pi, .bool (decide (pe = 0))]) ∧ w'.ownsRow W.heap.size 43 4 v P.length (pcCells P) ∧ W.grownBy w' none
 rspl : c = 0 → ∀ W, MksF B ms M W → Calls Tryz.prog 27 #[M, .string t] W fun e w' => ∃ v, e = .returned (.tuple #[v, .string tl, .int .i64 si, .int .i64 se]) ∧ w'.ownsRow W.heap.size 66 3 v T.length (tkCells T) ∧ W.grownBy w' none
 rbet : c = 0 → ∀ W s1 s2, s1.size ≤ 10 → s2.size ≤ 10 → MksF B ms M W → Calls Tryz.prog 28 #[M, .string s1, .string s2] W fun e w' => e = .returned (.tuple #[.string (betweenM ms s1 s2).1, .bool (betweenM ms s1 s2).2.1, .int .i64 (betweenM ms s1 s2).2.2]) ∧ W.grownBy w' none
 bad : c ≠ 0 → f1 = 0 ∧ f2 = 0 ∧ f3 = 0 ∧ f4 = 0 ∧ fe = c ∧ P = [] ∧ pi = 0 ∧ pe = c ∧ T = [] ∧ tl = ⟨#[]⟩ ∧ si = 0 ∧ se = c
 badb : c ≠ 0 → ∀ s1 s2, betweenM ms s1 s2 = (⟨#[]⟩, false, c)
 out : c = 0 → (a < 0 ∨ (t.size : Int) ≤ a) → f1 = 0 ∧ f2 = 0 ∧ f3 = 0 ∧ f4 = 0 ∧ fe = 1
 inn : c = 0 → 0 ≤ a → a < t.size → (r1 = -1 ∧ f1 = 0 ∧ fe = 8) ∨ (0 ≤ r1 ∧ f1 = r1 ∧ fe = 0)
 per : c = 0 → pe = 0 ∨ pe = 8
 pl : P.length ≤ 1000000
 tlen : T.length ≤ 1000000
theorem pcsL_len (ps : List Pt) (L : List En) (s : List UInt8) : ∀ (n a : Nat) (acc : List Pc), (pcsL ps L s n a acc).1.length ≤ acc.length + n
 | 0, _, _ => Nat.le_refl _
 | n + 1, a, acc => by
  rw [pcsL]
  split
  · simp only; omega
  · split
    · simp
    · have := pcsL_len ps L s n (a + (longL ps L s a).2.1) (acc ++ [((longL ps L s a).1, a, (longL ps L s a).2.1, (longL ps L s a).2.2)])
      simp only [List.length_append, List.length_cons, List.length_nil] at this
      omega
theorem scanL_zero (ps : List Pt) (L : List En) : ∀ (cs : List UInt8) (now k m lg sg : Nat), (lg = 0 → m = 0) → (scanL ps L cs now k m lg sg).2.1 = 0 → (scanL ps L cs now k m lg sg).1 = 0
 | [], _, _, _, _, _, h, h2 => h h2
 | c :: cs, now, k, m, lg, sg, h, h2 => by
  have hx : (if 0 < (fitsAt ps L (nxS ps L now c.toNat)).length then k + 1 else lg) = 0 → (if 0 < (fitsAt ps L (nxS ps L now c.toNat)).length then (fitsAt ps L (nxS ps L now c.toNat)).getD 0 0 else m) = 0 := by
   intro h3
   split at h3 <;> rename_i h4
   · omega
   · rw [if_neg h4]; exact h h3
  rw [scanL] at h2 ⊢
  split at h2 <;> rename_i h5
  · rw [if_pos h5]; exact hx h2
  · rw [if_neg h5]; exact scanL_zero ps L cs _ _ _ _ _ hx h2
theorem lawC (B : Nat) (ms : List Mrk) (mv : Option Addr) (mc : Nat) (t : ByteArray) (a : Int) (ht : t.size ≤ 38) (hN : MrkN ms 12 41 406) :
 ∃ f1 f2 f3 f4 fe r1 c P pi pe T tl si se, LawC B ms (.slice mv ms.length mc) t a f1 f2 f3 f4 fe r1 c P pi pe T tl si se ∧ c = chk ms := by
 have hlv : leavesL (ms.map Mrk.pat) ≤ 64 := by have : leavesL (ms.map Mrk.pat) ≤ 41 := hN.lv; omega
 have hsz : sizes (ms.map Mrk.pat) ≤ 500 := by have : sizes (ms.map Mrk.pat) ≤ 406 := hN.sz; omega
 have hms : ∀ m ∈ ms, m.pat.size ≤ 100000 ∧ m.kind.size ≤ 1000000 := fun m hm => ⟨by have := mSz_mem ms m hm; have := hN.sz; omega, by have := hN.kd m hm; omega⟩
 have hms2 : ∀ m ∈ ms, m.pat.size ≤ 1000 ∧ m.kind.size ≤ 1000000 := fun m hm => ⟨by have := mSz_mem ms m hm; have := hN.sz; omega, by have := hN.kd m hm; omega⟩
 have hl := hN.len
 have hs := split_same ms t (by omega)
 refine ⟨(longM ms t a).1, (longM ms t a).2.1, (longM ms t a).2.2.1, (longM ms t a).2.2.2.1, (longM ms t a).2.2.2.2, (refLong ms t a.toNat).1, chk ms, (piecesM ms t).1, (piecesM ms t).2.1, (piecesM ms t).2.2, (splitM ms t).1, (splitM ms t).2.1, (splitM ms t).2.2.1, (splitM ms t).2.2.2, ⟨?_, ?_, ?_, ?_, ?_, ?_, ?_, ?_, ?_, ?_, ?_, ?_, ?_, ?_, ?_, ?_⟩, rfl⟩
 · intro W h
   exact longTop_any ms mv mc t a W (by omega) hms (by omega) hlv h.arg
 · intro W h
   exact piecesTop_any ms mv mc t W (by omega) hms (by omega) hlv h.arg
 · intro W h
   exact splitTop_any ms mv mc t W (by omega) hms (by omega) hlv h.arg
 · intro W s1 s2 h1 h2 h
   exact between_any ms mv mc s1 s2 W (by omega) (by omega) hms (by omega) hlv h.arg
 · intro W h
   exact refMarks_any ms mv mc W hms2 (by omega) hlv hsz h.arg
 · intro hc h0 h1 W h
   have := refLong_any ms mv mc t a.toNat W (by omega) (by omega) hc hlv hsz h.arg
   have e1 : ((a.toNat : Nat) : Int) = a := by omega
   rw [e1] at this
   refine this.mono ?_
   rintro e w' ⟨rfl, g⟩
   refine ⟨?_, g⟩
   unfold longM refLong
   rw [if_pos hc, if_neg (show ¬ 20000 < t.size by omega), if_neg (show ¬ (a < 0 ∨ (t.size : Int) ≤ a) by omega)]
 · intro hc W h
   refine (piecesOf_any ms mv mc t W (by omega) hc hlv hsz h.arg).mono ?_
   rintro e w' ⟨v, rfl, h1, g⟩
   unfold piecesM
   rw [if_pos hc]
   refine ⟨v, ?_, h1, g⟩
   simp only
   congr 6
   exact congrArg Value.bool (decide_eq_decide.2 Int.natCast_eq_zero.symm)
 · intro hc W h
   rw [hs hc]
   exact splitOf_any ms mv mc t W (by omega) hc hlv hsz h.arg
 · intro hc W s1 s2 h1 h2 h
   rw [between_same ms s1 s2 (by omega) (by omega) hc]
   exact betweenOf_any ms mv mc s1 s2 W (by omega) (by omega) hc hlv hsz h.arg
 · intro hc
   unfold longM piecesM splitM
   simp only [if_neg hc, and_self]
 · intro hc s1 s2
   unfold betweenM
   rw [if_neg hc]
 · intro hc ho
   unfold longM
   rw [if_pos hc, if_neg (show ¬ 20000 < t.size by omega), if_pos ho]
   exact ⟨rfl, rfl, rfl, rfl, rfl⟩
 · intro hc h0 h1
   unfold longM refLong mkI
   rw [if_pos hc, if_neg (show ¬ 20000 < t.size by omega), if_neg (show ¬ (a < 0 ∨ (t.size : Int) ≤ a) by omega)]
   by_cases hz : (longL (ms.map Mrk.pat) (setsM ms) t.data.toList a.toNat).2.1 = 0
   · left
     have := scanL_zero (ms.map Mrk.pat) (setsM ms) _ _ _ _ _ _ (fun _ => rfl) hz
     refine ⟨by simp only; rw [if_pos hz], ?_, by simp only; rw [if_pos hz]⟩
     simp only
     unfold longL
     rw [this]; rfl
   · right
     simp only
     rw [if_neg hz, if_neg hz]
     exact ⟨Int.natCast_nonneg _, rfl, rfl⟩
 · intro hc
   unfold piecesM
   rw [if_pos hc]
   simp only
   have : (piecesL (ms.map Mrk.pat) (setsM ms) t.data.toList).2.2 = 0 ∨ (piecesL (ms.map Mrk.pat) (setsM ms) t.data.toList).2.2 = 8 := by
    unfold piecesL
    rw [if_neg (by rw [Array.length_toList]; show ¬ 20000 < t.size; omega)]
    exact pcsL_err _ _ _ _ _ _
   omega
 · unfold piecesM
   split
   · simp only
     unfold piecesL
     split
     · simp
     · have := pcsL_len (ms.map Mrk.pat) (setsM ms) t.data.toList (t.data.toList.length + 1) 0 []
       have e : t.data.toList.length = t.size := by rw [Array.length_toList]; rfl
       simp only [List.length_nil] at this
       omega
   · simp
 · by_cases hc : chk ms = 0
   · rw [hs hc]
     have := splitR_len ms t
     simp only; omega
   · unfold splitM
     rw [if_neg hc]
     simp
open Go.RowKit Go.Region
def SplitTwo (w : World) (e : Ending) (w' : World) : Prop := ∃ a c x, e = .returned (.tuple #[.slice a 2 c, .string x, .int .i64 0, .int .i64 0]) ∧ w.grownBy w' none
def theMark : Mrk := ⟨⟨#[97]⟩, .mk 1 97 97 []⟩
theorem split_aa : (splitM [theMark] ⟨#[97, 97]⟩).1.length = 2 ∧ (splitM [theMark] ⟨#[97, 97]⟩).2.2.1 = 0 ∧ (splitM [theMark] ⟨#[97, 97]⟩).2.2.2 = 0 := by decide +kernel
theorem splitTop_a (B : Nat) (w : World) (hb : w.heap[B]? = some (.cells #[.string ⟨#[97]⟩, .int .i64 1, .int .i64 97, .int .i64 97, .slice none 0 0] 88 (0, 0))) :
 Calls Tryz.prog 18 #[.slice (some ⟨B, 0, none⟩) 1 1, .string ⟨#[97, 97]⟩] w (SplitTwo w) := by
 have hm : MrkAt w [theMark] B 0 := ⟨⟨xCb hb 0, _, ⟨_, _, _, _, rfl, xCb hb 1, xCb hb 2, xCb hb 3, xCb hb 4⟩, none, 0, rfl, .inl rfl⟩, trivial⟩
 refine (splitTop_any [theMark] (some ⟨B, 0, none⟩) 1 ⟨#[97, 97]⟩ w (by decide) (by decide) (by decide) (by decide) (.inr ⟨B, 0, rfl, hm⟩)).mono ?_
 rintro e w' ⟨v, rfl, own, g⟩
 obtain ⟨h1, h2, h3⟩ := split_aa
 rw [h1] at own
 obtain ⟨a, c, rfl⟩ := own_shape own
 exact ⟨a, c, _, by rw [h2, h3], g⟩
theorem lexed_any (w : World) : Calls Tryz.prog 12 #[] w fun e w' => e = .returned (.bool true) ∧ w.grownBy w' none := by
 go_enter Tryz.func12, Tryz.ntmps12
 go_wp2_with fail
 have g0 : w.grownBy ((w.alloc (.cells #[.int .i64 1, .int .i64 97, .int .i64 97, .slice none 0 0] 28)).alloc (.cells #[.string ⟨#[97]⟩, .int .i64 1, .int .i64 97, .int .i64 97, .slice none 0 0] 88)) none := grow_alloc (xGa _ _ _) _
 have b0 : ((w.alloc (.cells #[.int .i64 1, .int .i64 97, .int .i64 97, .slice none 0 0] 28)).alloc (.cells #[.string ⟨#[97]⟩, .int .i64 1, .int .i64 97, .int .i64 97, .slice none 0 0] 88)).heap[w.heap.size + 1]? = some (.cells #[.string ⟨#[97]⟩, .int .i64 1, .int .i64 97, .int .i64 97, .slice none 0 0] 88 (0, 0)) := heap_new_at _ _ _ (by simp)
 generalize (w.alloc _).alloc _ = w1 at g0 b0 ⊢
 refine (splitTop_a (w.heap.size + 1) w1 b0).mono ?_
 rintro e w2 ⟨a, c, x, rfl, g2⟩
 have G2 := hid (grownBy_trans g0 g2)
 clear g0 b0 g2
 go_wp2_with fail
 go_ret
 exact ⟨rfl, G2.out⟩
end Go.Proofs.YtplbacfjmajeeaaGreatDoor
