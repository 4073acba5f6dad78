/- Package edit: addOffsets, Origin. -/
import Derived.Test.YtajigndlcdiinaaA3
import Derived.Test.YtajigndlcdiinaaH1
import Derived.Laws.MakeOwn
import Derived.Deep.DeepCutAuto
import Derived.Deep.CutBlock
namespace Go.Proofs.Ytajigndlcdiinaa
open Go.RowKit

/-- What is left alone while a row of numbers from block B on grows. -/
def OffP (B k : Nat) (o : Option Obj) : Prop := k < B ∨ ∀ c fr, o ≠ some (.cells c 3 fr)
theorem off_frm {B : Nat} {w1 w2 : World} {v : Value} {n : Nat} {xs : List Value} (hown : w1.ownsRow B 3 1 v n xs) (o : Obj) (g : (w1.alloc o).grownBy w2 v.ownBlock) : Frm (OffP B) w1 w2 := by
  refine ((Frm.refl _ w1).alloc o).grown g (fun k hk hp => ?_)
  obtain ⟨hB, c, hc⟩ := ownsRow_block (hown.alloc o) k hk
  rcases hp with h | h
  · omega
  · exact h _ _ hc
theorem intCells_app (l m : List Int) : intCells (l ++ m) = intCells l ++ intCells m := by simp [intCells]
theorem keep_fst (a : Int) (j : Nat) : (keepL a (j + 1)).map (·.1) = (keepL a j).map (·.1) ++ [a + (j : Int)] := by simp [keepL]

def OffPost (B : Nat) (l : List Int) (w : World) (e : Ending) (w' : World) : Prop :=
  ∃ v, e = .returned v ∧ w'.ownsRow B 3 1 v l.length (intCells l) ∧ Frm (OffP B) w w'

set_option maxHeartbeats 2000000 in
set_option maxRecDepth 100000 in
theorem addOffsets_any (B : Nat) (l : List Int) (v : Value) (a b : Int) (w : World) (ha : 0 ≤ a ∧ a ≤ 100000) (hb : b ≤ 100000) (hl : l.length ≤ 1000000) (hB : B ≤ w.heap.size) (hown : w.ownsRow B 3 1 v l.length (intCells l)) :
    Calls Try.prog 49 #[v, .int .i64 a, .int .i64 b] w (OffPost B (l ++ (gapL a b).map (·.1)) w) := by
  obtain ⟨i0, hi, hz0, hz1, hz2⟩ := info_parts infoInt
  have HO0 := Lib.hid hown
  obtain ⟨N, hN⟩ : ∃ N : Nat, N = (b - a).toNat := ⟨_, rfl⟩
  have HV := Lib.hid (show l ++ (gapL a b).map (·.1) = l ++ (keepL a N).map (·.1) by rw [gapL, hN])
  have hN1 : N ≤ 100000 := by omega
  have hN2 : ∀ j : Nat, j < N → a + (j : Int) < b := by omega
  have hN3 : ¬ a + (N : Int) < b := by omega
  have HN2 := Lib.hid hN2
  have HN3 := Lib.hid hN3
  clear hN hown hN2 hN3
  go_enter Try.func49, Try.ntmps49
  go_wp2_with fail
  go_loopw [0, 7] (fun lv av wr => ∃ (j : Nat), j ≤ N ∧ av = .int .i64 (a + (j : Int)) ∧ Hid (wr.ownsRow B 3 1 lv (l.length + j) (intCells (l ++ (keepL a j).map (·.1)))) ∧ Hid (Frm (OffP B) w wr)) (fun _ av _ => (a + N - intOf av).toNat)
  case atStart => exact ⟨0, Nat.zero_le _, by simp, Lib.hid (by simpa [keepL] using HO0.out), Lib.hid (Frm.refl _ _)⟩
  case round =>
    clear HO0
    obtain ⟨j, hj, rfl, OWN, HF⟩ := hrel
    have hsz := HF.out.size
    by_cases hlt : j < N
    · have d1 : decide (a + (j : Int) < b) = true := decide_eq_true (HN2.out j hlt)
      have HT := Lib.hid (show intCells (l ++ (keepL a (j + 1)).map (·.1)) = intCells (l ++ (keepL a j).map (·.1)) ++ [.int .i64 (a + (j : Int))] by rw [keep_fst, ← List.append_assoc, intCells_app]; rfl)
      have own := OWN.out
      clear OWN
      go_wp2_with (at_builtin; refine wpList_append_own _ rfl _ _ 22 rfl B 3 i0 (.int .i64 0) 1 8 Try.underlying22 hi hz0 hz1 hz2 rfl (by decide) _ _ _ rfl (own.alloc _) ⟨wr.heap.size, 0, none⟩ 1 1 [.int .i64 (a + (j : Int))] rfl rfl (cells_new _ _ _) (fun x hx => by simp at hx; subst hx; rfl) (by unfold maxLen; omega) (by omega) (by simp; omega) ?_; intro v' w2 hown' hgrow _; have HF2 := Lib.hid (HF.out.trans (off_frm own _ hgrow)); have HO := Lib.hid hown'; clear hown' hgrow own)
      go_roundw
      case rel => exact ⟨j + 1, by omega, by go_num, Lib.hid (by rw [HT.out]; exact HO.out), HF2⟩
      case measure => simp [intOf]; omega
    · obtain rfl : j = N := by omega
      have d1 : decide (a + (j : Int) < b) = false := decide_eq_false (by have := HN3.out; omega)
      obtain ⟨av2, cv2, rfl⟩ := ownsRow_slice OWN.out
      have HW := Lib.hid (show wr.ownsRow B 3 1 (.slice av2 (l.length + j) cv2) (l ++ (keepL a j).map (·.1)).length (intCells (l ++ (keepL a j).map (·.1))) from by
        rw [List.length_append, List.length_map, keepL_len]; exact OWN.out)
      clear OWN
      go_wp2_with fail
      go_ret
      refine ⟨_, rfl, ?_, HF.out⟩
      rw [HV.out]
      exact HW.out

theorem lenGo_sum : ∀ (es : List Ed) (n : Int), lenGo n es = n + newSum es - oldSum es
  | [], n => by simp [lenGo, newSum, oldSum]
  | e :: r, n => by rw [lenGo, lenGo_sum r]; simp only [newSum, oldSum]; omega
theorem lenGo_flow {n : Int} {es : List Ed} (h : changeFault n es = 0) : lenGo n es = ((flowL es n).length : Int) := by
  obtain ⟨h1, h2, h3, h4⟩ := changeFault_zero h
  have hlen := flowGo_len n es 0 (-1) h3 (by omega) (by omega) (by omega)
  rw [lenGo_sum, flowL_go, hlen]; omega
theorem newL_fst (s : ByteArray) : (newL s s.size).map (·.1) = List.replicate s.size (-1) := by
  unfold newL
  rw [List.map_map]
  apply List.ext_getElem
  · simp
  · intro i h1 h2
    simp
theorem flowTo_fst (es : List Ed) (j : Nat) (hj : j < es.length) : (flowTo es (j + 1)).1.map (·.1) = (flowTo es j).1.map (·.1) ++ (gapL (flowTo es j).2 es[j].at_).map (·.1) ++ List.replicate es[j].new.size (-1) := by
  rw [flowTo, List.getElem?_eq_getElem hj]
  simp only [List.map_append, newL_fst]
theorem frm_kept {P : Nat → Option Obj → Prop} {w w' : World} (h : Frm P w w') {b : Nat} {o : Obj} (hb : w.heap[b]? = some o) (hp : P b (some o)) : w'.heap[b]? = some o := by
  rw [h.block b (lt_of_block hb) (by rw [hb]; exact hp)]; exact hb
theorem offP_edit {B k : Nat} {cs : Array Value} {fr : Nat × Nat} : OffP B k (some (.cells cs 47 fr)) := Or.inr (by intro c f h; simp at h)
theorem replicate_snoc (k : Nat) : List.replicate (k + 1) (-1 : Int) = List.replicate k (-1) ++ [-1] := by rw [List.replicate_succ']

def IntsErrP (l : List Int) (er : Int) (w : World) (e : Ending) (w' : World) : Prop :=
  ∃ v, e = .returned (.tuple #[v, .int .i64 er]) ∧ w'.ownsRow w.heap.size 3 1 v l.length (intCells l) ∧ w.grownBy w' none

set_option maxHeartbeats 4000000 in
set_option maxRecDepth 100000 in
theorem origin_any (n : Int) (a : Option Addr) (cap : Nat) (es : List Ed) (w : World) (hl : es.length ≤ 1000000) (hE : Eds w a es) (hS : EdsSmall es) :
    Calls Try.prog 12 #[.int .i64 n, .slice a es.length cap] w (IntsErrP (if changeFault n es ≠ 0 then [] else (flowL es n).map (·.1)) (changeFault n es) w) := by
  obtain ⟨P, hP⟩ : ∃ P, IntsErrP (if changeFault n es ≠ 0 then [] else (flowL es n).map (·.1)) (changeFault n es) w = P := ⟨_, rfl⟩
  rw [hP]
  unfold IntsErrP at hP
  have HC := Lib.hid (check_any n a cap es w hl hE hS)
  by_cases h : changeFault n es = 0
  · obtain ⟨r1, r2, r3, r4, r5, r6⟩ := right_all h
    have hR := (changeFault_zero h).2.2.1
    have hto := Lib.hid (fun j hj => right_to hR j hj)
    obtain ⟨e0, e1⟩ := right_end r1.1 hR
    have hlf := lenGo_flow h
    have HLn := Lib.hid (fun W (g : w.grownBy W none) => length_any n a cap es W (by omega) r2 (hE.grown g (by simp)) (fun e he => by have := r4 e he; omega))
    obtain ⟨c, hc⟩ : ∃ c, (flowL es n).length = c := ⟨_, rfl⟩
    rw [hlf, hc] at HLn
    have hcb : c ≤ 20000 := by omega
    have H3 := Lib.hid r3
    have HE := Lib.hid hE
    have HX := Lib.hid (show (flowL es n).map (·.1) = (flowTo es es.length).1.map (·.1) ++ (gapL (flowTo es es.length).2 n).map (·.1) by rw [flowL, List.map_append])
    rw [h] at HC hP
    rw [if_neg (by simp)] at hP
    have HP := Lib.hid hP
    obtain ⟨i0, hi, hz0, hz1, hz2⟩ := info_parts infoInt
    clear h hP hE r3 r5 r6 hR hS hlf hc
    go_enter Try.func12, Try.ntmps12
    go_wp2_with fail
    refine HC.out.mono ?_
    rintro e w0 ⟨rfl, g0⟩
    go_wp2_with fail
    refine (HLn.out w0 g0).mono ?_
    rintro e w1 ⟨rfl, g1⟩
    have G1 := grow_trans g0 g1
    obtain ⟨w2, hmk, own2, g2⟩ := run_make_own (P := Try.prog) w1 w.heap.size 22 3 i0 (.int .i64 0) 1 Try.underlying22 hi hz0 hz1 .i64 .i64 c (by rw [hz2]; omega) (by unfold maxLen; omega) G1.size
    have G2 := Lib.hid (grow_trans G1 g2)
    have OWN2 := Lib.hid own2
    generalize w1.heap.size = M0 at hmk OWN2
    clear HC HLn g0 g1 G1 g2 own2
    go_wp2_with fail
    clear hmk
    go_loopw [7, 8, 23] (fun lv av i wr => ∃ (j : Nat) (x : Int), j ≤ es.length ∧ i = .int .i64 j ∧ av = .int .i64 x ∧ Hid ((flowTo es j).2 = x) ∧ Hid (wr.ownsRow w.heap.size 3 1 lv ((flowTo es j).1.map (·.1)).length (intCells ((flowTo es j).1.map (·.1)))) ∧ Hid (w.grownBy wr none)) (fun _ _ i _ => es.length - (intOf i).toNat)
    case atStart => exact ⟨0, 0, Nat.zero_le _, rfl, rfl, Lib.hid rfl, Lib.hid OWN2.out, G2⟩
    case round =>
      clear OWN2 G2
      obtain ⟨wo, rfl⟩ : ∃ wo : World, wo = wr := ⟨_, rfl⟩
      obtain ⟨j, x, hj, rfl, rfl, HX1, OWN, HG⟩ := hrel
      by_cases hlt : j < es.length
      · obtain ⟨g, off, rfl, q1, q2, q3⟩ := HE.out j hlt
        replace q1 := HG.out.cell q1 (by simp)
        replace q2 := HG.out.cell q2 (by simp)
        replace q3 := HG.out.cell q3 (by simp)
        have hs2 := r4 _ (List.getElem_mem hlt)
        have ht := hto.out j hlt
        have hL := (H3.out j hj).1
        have HT := Lib.hid (flowTo_fst es j hlt)
        have HF2 : Hid ((flowTo es (j + 1)).2 = es[j].at_ + es[j].old) := Lib.hid (by rw [flowTo, List.getElem?_eq_getElem hlt])
        rw [HX1.out] at ht HT
        have hlen1 : ((flowTo es j).1.map (·.1)).length ≤ 60000 := by rw [List.length_map]; exact hL
        generalize es[j] = e at q1 q2 q3 hs2 ht HT HF2
        obtain ⟨ea, eo, en⟩ := e
        simp only at q1 q2 q3 hs2 ht HT HF2
        generalize (flowTo es j).1.map (·.1) = L at OWN HT hlen1
        have hsz := HG.out.size
        have bx := heap_alloc_new wo (.cells #[.int .i64 ea, .int .i64 eo, .string en] 47)
        have OW1 := Lib.hid (OWN.out.alloc (.cells #[.int .i64 ea, .int .i64 eo, .string en] 47))
        have HG1 := Lib.hid (grow_alloc HG.out (.cells #[.int .i64 ea, .int .i64 eo, .string en] 47))
        go_upto_region 9 with (fail)
        generalize wo.alloc (.cells #[.int .i64 ea, .int .i64 eo, .string en] 47) = w3 at bx OW1 HG1 ⊢
        generalize wo.heap.size = M at bx ⊢
        have cx0 := cell_of_block bx 0
        simp only [List.getElem?_toArray, List.getElem?_cons_zero, List.getElem?_cons_succ] at cx0
        clear OWN HG q1 q2 q3
        have hB3 := HG1.out.size
        go_wp2_with fail
        refine (addOffsets_any w.heap.size L _ x ea w3 (by omega) (by omega) (by omega) hB3 OW1.out).mono ?_
        rintro e w4 ⟨v4, rfl, own4, F4⟩
        have bx4 := frm_kept F4 bx offP_edit
        have HG4 := Lib.hid (grow_frm HG1.out F4 (fun k _ hk => Or.inl hk))
        have OW4 := Lib.hid own4
        clear own4 F4 bx cx0 OW1 HG1
        have cy2 := cell_of_block bx4 2
        simp only [List.getElem?_toArray, List.getElem?_cons_zero, List.getElem?_cons_succ] at cy2
        have HBX := Lib.hid bx4
        have hlen2 : (L ++ (gapL x ea).map (·.1)).length ≤ 90000 := by rw [List.length_append, List.length_map, gapL_len]; omega
        generalize L ++ (gapL x ea).map (·.1) = L2 at OW4 HT hlen2
        clear bx4
        go_wp2_with fail
        clear cy2
        go_loopw [7, 35] (fun lv i wr => ∃ (k : Nat), k ≤ en.size ∧ i = .int .i64 k ∧ Hid (wr.ownsRow w.heap.size 3 1 lv (L2.length + k) (intCells (L2 ++ List.replicate k (-1)))) ∧ Hid (w.grownBy wr none) ∧ Hid (wr.heap[M]? = some (.cells #[.int .i64 ea, .int .i64 eo, .string en] 47 (0, 0)))) (fun _ i _ => en.size - (intOf i).toNat)
        case atStart => exact ⟨0, Nat.zero_le _, rfl, Lib.hid (by simpa using OW4.out), HG4, HBX⟩
        case round =>
          clear OW4 HG4 HBX
          obtain ⟨k, hk, rfl, OW, HGk, HBk⟩ := hrel
          by_cases hlt2 : k < en.size
          · have HT2 := Lib.hid (show intCells (L2 ++ List.replicate (k + 1) (-1)) = intCells (L2 ++ List.replicate k (-1)) ++ [.int .i64 (-1)] by rw [replicate_snoc, ← List.append_assoc, intCells_app]; rfl)
            have own := OW.out
            have hszk := HGk.out.size
            clear OW
            go_wp2_with (at_builtin; refine wpList_append_own _ rfl _ _ 22 rfl w.heap.size 3 i0 (.int .i64 0) 1 8 Try.underlying22 hi hz0 hz1 hz2 rfl (by decide) _ _ _ rfl (own.alloc _) ⟨wr.heap.size, 0, none⟩ 1 1 [.int .i64 (-1)] rfl rfl (cells_new _ _ _) (fun x hx => by simp at hx; subst hx; rfl) (by unfold maxLen; omega) (by omega) (by simp; omega) ?_; intro v' w5 hown' hgrow _; have F5 := off_frm own _ hgrow; have HG5 := Lib.hid (grow_frm HGk.out F5 (fun k _ hk => Or.inl hk)); have HB5 := Lib.hid (frm_kept F5 HBk.out offP_edit); have HO := Lib.hid hown'; clear hown' hgrow own F5)
            go_roundw
            case rel => exact ⟨k + 1, by omega, by go_num, Lib.hid (by rw [HT2.out]; exact HO.out), HG5, HB5⟩
            case measure => simp [intOf]; omega
          · obtain rfl : k = en.size := by omega
            have cz0 := cell_of_block HBk.out 0
            have cz1 := cell_of_block HBk.out 1
            have cz2 := cell_of_block HBk.out 2
            simp only [List.getElem?_toArray, List.getElem?_cons_zero, List.getElem?_cons_succ] at cz0 cz1 cz2
            obtain ⟨av5, cv5, rfl⟩ := ownsRow_slice OW.out
            have OW6 := Lib.hid (show (wr.alloc (.cells #[.int .i64 ea, .int .i64 eo, .string en] 47)).ownsRow w.heap.size 3 1 (.slice av5 (L2.length + en.size) cv5) ((flowTo es (j + 1)).1.map (·.1)).length (intCells ((flowTo es (j + 1)).1.map (·.1))) from by
              rw [HT.out, List.length_append, List.length_replicate]; exact OW.out.alloc _)
            have HG6 := Lib.hid (grow_alloc HGk.out (.cells #[.int .i64 ea, .int .i64 eo, .string en] 47))
            clear OW HT
            go_wp2_with fail
            refine (end_any _ _ _ _ (by omega) (by omega)).mono ?_
            rintro e' w6 ⟨rfl, rfl⟩
            go_wp2_with fail
            go_roundw
            case rel => exact ⟨j + 1, _, by omega, by go_num, rfl, HF2, OW6, HG6⟩
            case measure => simp [intOf]; omega
      · obtain rfl : j = es.length := by omega
        have hL := (H3.out es.length (Nat.le_refl _)).1
        have hlen1 : ((flowTo es es.length).1.map (·.1)).length ≤ 60000 := by rw [List.length_map]; exact hL
        rw [HX1.out] at e0 e1 HX
        generalize (flowTo es es.length).1.map (·.1) = L at OWN HX hlen1
        go_wp2_with fail
        refine (addOffsets_any w.heap.size L _ x n _ (by omega) (by omega) (by omega) HG.out.size OWN.out).mono ?_
        rintro e w4 ⟨v4, rfl, own4, F4⟩
        have HG4 := Lib.hid (grow_frm HG.out F4 (fun k _ hk => Or.inl hk))
        rw [← HX.out] at own4
        have OW4 := Lib.hid own4
        clear own4 F4 OWN HG
        go_wp2_with fail
        try go_ret2
        rw [← HP.out]
        exact ⟨_, rfl, OW4.out, HG4.out⟩
  · rw [if_pos h] at hP
    have hb : (changeFault n es != 0) = true := by simpa using h
    generalize changeFault n es = F at HC hP hb
    have HP := Lib.hid hP
    clear hP hE h hS
    go_enter Try.func12, Try.ntmps12
    go_wp2_with fail
    refine HC.out.mono ?_
    rintro e w1 ⟨rfl, g1⟩
    have G := Lib.hid g1
    clear g1 HC
    go_wp2_with fail
    try go_ret2
    rw [← HP.out]
    exact ⟨_, rfl, World.ownsRow_nil _ _ _ _, G.out⟩
end Go.Proofs.Ytajigndlcdiinaa
