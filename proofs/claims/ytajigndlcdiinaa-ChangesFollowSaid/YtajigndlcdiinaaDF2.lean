/- flowOf, the whole. -/
import Derived.Test.YtajigndlcdiinaaDQ1
import Derived.Deep.RegionHeld3
import Derived.Deep.AppendLies
import Derived.Deep.RegionLaw
namespace Go.Proofs.Ytajigndlcdiinaa
open Go.RowKit

def newL (s : ByteArray) (j : Nat) : List Let := (s.data.toList.take j).map fun c => (-1, c)
def gapL (a b : Int) : List Let := keepL a (b - a).toNat

/-- The letters of a change, from the old byte `at` on. -/
def flowGo (n : Int) : Int → List Ed → List Let
  | a, [] => gapL a n
  | a, e :: r => gapL a e.at_ ++ newL e.new e.new.size ++ flowGo n (e.at_ + e.old) r

/-- The same, of the first j edits: the letters, and where `at` stands. -/
def flowTo (es : List Ed) : Nat → List Let × Int
  | 0 => ([], 0)
  | j + 1 => match es[j]? with
    | none => flowTo es j
    | some e => ((flowTo es j).1 ++ gapL (flowTo es j).2 e.at_ ++ newL e.new e.new.size, e.at_ + e.old)

theorem FlowSt.alloc {B A F n w a lv ls} (S : FlowSt B A F n w a lv ls) (o : Obj) : FlowSt B A F n (w.alloc o) a lv ls :=
  ⟨(Below.heap_alloc w o A (lt_of_block S.hA)).trans S.hA, (Below.heap_alloc w o F (lt_of_block S.hF)).trans S.hF, S.own.alloc o, by have := S.hB; simp; omega⟩
theorem Frm.kept {P : Nat → Option Obj → Prop} {w w' : World} (h : Frm P w w') {b : Nat} {o : Obj} (hb : w.heap[b]? = some o) (hp : P b (some o)) : w'.heap[b]? = some o := by
  rw [h.block b (lt_of_block hb) (by rw [hb]; exact hp)]; exact hb
theorem FlowP.old {B A F k : Nat} {o : Option Obj} (h : k < B) (ha : k ≠ A) (hf : k ≠ F) : FlowP B A F k o := ⟨ha, hf, Or.inl h⟩
theorem FlowP.edit {B A F k : Nat} {cs : Array Value} {fr : Nat × Nat} (ha : k ≠ A) (hf : k ≠ F) : FlowP B A F k (some (.cells cs 47 /-t:hedgelayer/api.Edit-/ fr)) :=
  ⟨ha, hf, Or.inr (by intro c fr h; simp at h)⟩

/-- What holds at the head of the outer loop. -/
def OutRel (n : Int) (es : List Ed) (w : World) (j : Nat) (wr : World) : Prop :=
  ∃ lv, FlowSt (w.heap.size + 3) (w.heap.size + 1 + 1) (w.heap.size + 1) n wr (flowTo es j).2 lv (flowTo es j).1 ∧
    wr.heap[w.heap.size]? = some (.cells #[.int .i64 0, .slice none 0 0] 85 /-t:hedgelayer/hgref2.flow-/ (0, 0)) ∧ w.grownBy wr none

/-- What holds at the head of the inner loop: the edit's box is block E. -/
def InRel (n : Int) (w : World) (E : Nat) (ed : Array Value) (a1 : Int) (L : List Let) (wv : World) : Prop :=
  ∃ lv, FlowSt (w.heap.size + 3) (w.heap.size + 1 + 1) (w.heap.size + 1) n wv a1 lv L ∧ wv.heap[E]? = some (.cells ed 47 /-t:hedgelayer/api.Edit-/ (0, 0)) ∧
    wv.heap[w.heap.size]? = some (.cells #[.int .i64 0, .slice none 0 0] 85 /-t:hedgelayer/hgref2.flow-/ (0, 0)) ∧ w.grownBy wv none

def FlowPost (n : Int) (es : List Ed) (w : World) (e : Ending) (w' : World) : Prop :=
  ∃ lv, e = .returned (.agg #[.int .i64 n, lv]) ∧ w'.ownsRow (w.heap.size + 3) 88 /-t:hedgelayer/hgref2.letter-/ 2 lv ((flowTo es es.length).1 ++ gapL (flowTo es es.length).2 n).length (letCells ((flowTo es es.length).1 ++ gapL (flowTo es es.length).2 n)) ∧ w.grownBy w' none

theorem grown_of_frm {w wr w1 : World} {B A F : Nat} (h : w.grownBy wr none) (f : Frm (FlowP B A F) wr w1) (hB : w.heap.size < B) (hA : w.heap.size ≤ A) (hF : w.heap.size ≤ F) : w.grownBy w1 none :=
  ⟨f.os.trans h.os, f.tape.trans h.tape, f.output.trans h.output, Nat.le_trans h.size f.size, fun k hk _ =>
    (f.block k (Nat.lt_of_lt_of_le hk h.size) ⟨by omega, by omega, Or.inl (by omega)⟩).trans (h.block k hk (by simp))⟩

theorem InRel.of_out {n : Int} {w wr w1 : World} {a0 a1 : Int} {lv lv1 : Value} {L L1 : List Let} {ed : Array Value} (T : FlowSt (w.heap.size + 3) (w.heap.size + 1 + 1) (w.heap.size + 1) n wr a0 lv L)
    (hR : wr.heap[w.heap.size]? = some (.cells #[.int .i64 0, .slice none 0 0] 85 /-t:hedgelayer/hgref2.flow-/ (0, 0))) (hg : w.grownBy wr none)
    (T1 : FlowSt (w.heap.size + 3) (w.heap.size + 1 + 1) (w.heap.size + 1) n w1 a1 lv1 L1)
    (f : Frm (FlowP (w.heap.size + 3) (w.heap.size + 1 + 1) (w.heap.size + 1)) (wr.alloc (.cells ed 47 /-t:hedgelayer/api.Edit-/)) w1) : InRel n w wr.heap.size ed a1 L1 w1 := by
  have h1 := lt_of_block T.hA
  have h2 := T.hB
  refine ⟨lv1, T1, f.kept (heap_alloc_new wr _) (FlowP.edit (by omega) (by omega)), f.kept ((Below.heap_alloc _ _ _ (lt_of_block hR)).trans hR) (FlowP.old (by omega) (by omega) (by omega)), ?_⟩
  exact grown_of_frm (grow_trans hg (World.grownBy_alloc _ _ _)) f (by omega) (by omega) (by omega)

theorem InRel.push {n : Int} {w wv w1 : World} {E : Nat} {ed : Array Value} {a1 : Int} {lv v' : Value} {L : List Let} {x : Let} (o : Obj) {m : Nat} (hm : m = L.length + 1)
    (T : FlowSt (w.heap.size + 3) (w.heap.size + 1 + 1) (w.heap.size + 1) n wv a1 lv L) (hE : wv.heap[E]? = some (.cells ed 47 /-t:hedgelayer/api.Edit-/ (0, 0)))
    (hR : wv.heap[w.heap.size]? = some (.cells #[.int .i64 0, .slice none 0 0] 85 /-t:hedgelayer/hgref2.flow-/ (0, 0))) (hg : w.grownBy wv none)
    (hown : w1.ownsRow (w.heap.size + 3) 88 /-t:hedgelayer/hgref2.letter-/ 2 v' m (letCells L ++ [.int .i64 x.1, .int .u8 x.2.toNat])) (g : (wv.alloc o).grownBy w1 lv.ownBlock) :
    InRel n w E ed a1 (L ++ [x]) (w1.setCell ⟨w.heap.size + 1, 1, none⟩ v') := by
  obtain ⟨R1, R2⟩ := T.push o hm hown g
  have hEF : E ≠ w.heap.size + 1 := by intro e; rw [e, T.hF] at hE; simp at hE
  have hEA : E ≠ w.heap.size + 1 + 1 := by intro e; rw [e, T.hA] at hE; simp at hE
  exact ⟨v', R1, R2.kept hE (FlowP.edit hEA hEF), R2.kept hR (FlowP.old (by omega) (by omega) (by omega)), grown_of_frm hg R2 (by omega) (by omega) (by omega)⟩

theorem newL_succ (s : ByteArray) (k : Nat) (h : k < s.size) : newL s (k + 1) = newL s k ++ [(-1, s[k])] := by
  unfold newL
  rw [List.take_succ_eq_append_getElem (by simpa using h)]
  simp
  rfl

set_option maxHeartbeats 8000000 in
set_option maxRecDepth 100000 in
theorem flowOf_any (n : Int) (a : Option Addr) (cap : Nat) (es : List Ed) (w : World) (hl : es.length ≤ 2000) (hn : 0 ≤ n ∧ n ≤ 20000) (hE : Eds w a es)
    (hG : ∀ j, j ≤ es.length → (flowTo es j).1.length ≤ 60000 ∧ 0 ≤ (flowTo es j).2 ∧ (flowTo es j).2 ≤ 20000)
    (hS : ∀ e, e ∈ es → 0 ≤ e.at_ ∧ e.at_ ≤ 20000 ∧ 0 ≤ e.old ∧ e.old ≤ 20000 ∧ e.new.size ≤ 40000) :
    Calls Try.prog 54 #[.int .i64 n, .slice a es.length cap] w (FlowPost n es w) := by
  obtain ⟨i0, hi, hz0, hz1, hz2⟩ := info_parts infoLet
  go_enter Try.func54, Try.ntmps54
  go_wp2_with fail
  go_loopw [16] (fun i wr => ∃ j : Nat, j ≤ es.length ∧ i = .int .i64 j ∧ OutRel n es w j wr) (fun i _ => es.length - (intOf i).toNat)
  case atStart =>
    refine ⟨0, Nat.zero_le _, rfl, .slice none 0 0, ⟨?_, ?_, World.ownsRow_nil _ _ _ _, by simp⟩, ?_, ?_⟩
    · exact heap_new_at _ _ _ (by simp)
    · exact (Below.heap_alloc _ _ _ (by simp)).trans (heap_new_at _ _ _ (by simp))
    · exact (Below.heap_alloc _ _ _ (by simp; omega)).trans ((Below.heap_alloc _ _ _ (by simp)).trans (heap_alloc_new w _))
    · exact grow_trans (grow_trans (World.grownBy_alloc _ _ _) (World.grownBy_alloc _ _ _)) (World.grownBy_alloc _ _ _)
  case round =>
    obtain ⟨wo, rfl⟩ : ∃ wo : World, wo = wr := ⟨_, rfl⟩
    obtain ⟨j, hj, rfl, lv, T, hR, hg⟩ := hrel
    obtain ⟨g1, g2, g3⟩ := hG j hj
    have HG := Lib.hid hG
    clear hG
    by_cases hlt : j < es.length
    · obtain ⟨g, off, rfl, c1, c2, c3⟩ := hE j hlt
      replace c1 := hg.cell c1 (by simp)
      replace c2 := hg.cell c2 (by simp)
      replace c3 := hg.cell c3 (by simp)
      have hs := hS _ (List.getElem_mem hlt)
      have HT := Lib.hid (show flowTo es (j + 1) = _ by rw [flowTo, List.getElem?_eq_getElem hlt])
      have HE := Lib.hid hE
      clear hE hS
      generalize es[j] = e at c1 c2 c3 hs HT
      obtain ⟨ea, eo, en⟩ := e
      simp only at c1 c2 c3 hs HT
      go_wp2_with fail
      refine (keep_any (w.heap.size + 3) (w.heap.size + 1 + 1) (w.heap.size + 1) n _ ea lv _ _ (by omega) (by omega) (by omega) (T.alloc _)).mono ?_
      rintro e w1 ⟨rfl, lv1, T1, F1⟩
      have I := InRel.of_out T hR hg T1 F1
      clear T hR hg T1 F1 c1 c2 c3
      obtain ⟨lv2, T, hEb, hR, hg⟩ := I
      have cE := cell_of_block hEb 2
      simp only [List.getElem?_toArray, List.getElem?_cons_zero, List.getElem?_cons_succ] at cE
      go_wp2_with fail
      obtain ⟨a1, ha1⟩ : ∃ a1, a1 = (flowTo es j).2 + ((ea - (flowTo es j).2).toNat : Int) := ⟨_, rfl⟩
      obtain ⟨L1, hL1⟩ : ∃ L1, L1 = (flowTo es j).1 ++ keepL (flowTo es j).2 (ea - (flowTo es j).2).toNat := ⟨_, rfl⟩
      rw [← ha1, ← hL1] at T
      have hlen : L1.length ≤ 80000 := by rw [hL1, List.length_append, keepL_len]; omega
      have HA1 := Lib.hid ha1
      have HL1 := Lib.hid hL1
      clear ha1 hL1 g1 g2 g3 HE
      go_loopw [27] (fun i wv => ∃ k : Nat, k ≤ en.size ∧ i = .int .i64 k ∧ InRel n w wo.heap.size #[.int .i64 ea, .int .i64 eo, .string en] a1 (L1 ++ newL en k) wv) (fun i _ => en.size - (intOf i).toNat)
      case atStart => exact ⟨0, Nat.zero_le _, rfl, lv2, by simpa [newL] using T, hEb, hR, hg⟩
      case round =>
        clear T hEb hR hg cE
        obtain ⟨k, hk, rfl, lv3, T, hEb, hR, hg⟩ := hrel
        have cE0 := cell_of_block hEb 0
        have cE1 := cell_of_block hEb 1
        have cE := cell_of_block hEb 2
        have cF := cell_of_block T.hF 1
        have fF := free_of_block T.hF 1
        have cA := cell_of_block T.hA 0
        have fA := free_of_block T.hA 0
        simp only [List.getElem?_toArray, List.getElem?_cons_zero, List.getElem?_cons_succ] at cE cE0 cE1 cF cA
        have hkb : (newL en k).length ≤ 40000 := by simp [newL]; omega
        obtain ⟨L, hL⟩ : ∃ L, L = L1 ++ newL en k := ⟨_, rfl⟩
        rw [← hL] at T
        have hlen2 : L.length ≤ 120000 := by rw [hL, List.length_append]; omega
        have HL := Lib.hid hL
        clear hL
        by_cases hkl : k < en.size
        · have b0 : (0 : Int) ≤ (k : Int) := Int.natCast_nonneg _
          have b1 : (k : Int) < (en.size : Int) := by omega
          have cFa : ∀ o, (wr.alloc o).cell? ⟨w.heap.size + 1, 1, none⟩ = some lv3 := fun o => World.grownBy.cell (World.grownBy_alloc wr o none) cF (by simp)
          have cEa : ∀ o, (wr.alloc o).cell? ⟨wo.heap.size, 2, none⟩ = some (.string en) := fun o => World.grownBy.cell (World.grownBy_alloc wr o none) cE (by simp)
          go_wp2_with fail
          go_region_law (refine step_append_lies _ (by rfl) (.tmp 31) (.tmp 37) 83 /-t:[]hgref2.letter-/ (by rfl) (w.heap.size + 3) 88 /-t:hedgelayer/hgref2.letter-/ i0 (.agg #[.int .i64 0, .int .u8 0]) 2 16 Try.underlying83 /-t:[]hgref2.letter-/ hi hz0 hz1 hz2 rfl (by omega) lv3 L.length (letCells L) (by rfl) ((T.own.alloc _).drew) ⟨wr.heap.size, 0, none⟩ 1 1 [.int .i64 (-1), .int .u8 en[k].toNat] (by rfl) (by rfl) (World.news_of_block (cs := #[.int .i64 (-1), .int .u8 en[k].toNat]) (t := 88 /-t:hedgelayer/hgref2.letter-/) (fr := (0, 0)) (heap_alloc_new wr _)) (by simp [Value.oneCell']) (by omega) (by unfold maxLen; omega) (by omega) (by have := T.hB; simp; omega) (wr.heap.size + 1) (by simp) ?_; intro gg cap1 w1 hown1 hgrow hat hlt1; have hgrow2 : (wr.alloc (.cells #[.int .i64 (-1), .int .u8 en[k].toNat] 88 /-t:hedgelayer/hgref2.letter-/)).grownBy w1 lv3.ownBlock := ⟨hgrow.os, hgrow.tape, hgrow.output, hgrow.size, hgrow.block⟩; have M := T.mid _ hgrow2; have cF1 := cell_of_block M.2 1; have fF1 := free_of_block M.2 1; have cE9 := cell_of_block (grown_block (T.own.alloc _) hgrow2 ((Below.heap_alloc _ _ _ (lt_of_block hEb)).trans hEb) (by decide)) 2; simp only [List.getElem?_toArray, List.getElem?_cons_zero, List.getElem?_cons_succ] at cF1 cE9; have I2 := InRel.push _ rfl T hEb hR hg (x := (-1, en[k])) hown1 hgrow2; clear hown1 hgrow hgrow2 M hat hlt1)
          all_goals
            go_wp2_with fail
            go_roundw
            case rel => exact ⟨k + 1, by omega, by go_num, by rw [newL_succ _ _ hkl, ← List.append_assoc, ← HL.out]; exact I2⟩
            case measure => simp [intOf]; omega
        · obtain rfl : k = en.size := by omega
          have hA2 := T.step (ea + eo)
          have hEF : wo.heap.size ≠ w.heap.size + 1 := by intro e; rw [e, T.hF] at hEb; simp at hEb
          have hEA : wo.heap.size ≠ w.heap.size + 1 + 1 := by intro e; rw [e, T.hA] at hEb; simp at hEb
          have hR2 := hA2.2.kept hR (FlowP.old (by omega) (by omega) (by omega))
          have hg2 := grown_of_frm hg hA2.2 (by omega) (by omega) (by omega)
          have HO := Lib.hid (⟨lv3, hA2.1, hR2, hg2⟩ : ∃ lv, FlowSt (w.heap.size + 3) (w.heap.size + 1 + 1) (w.heap.size + 1) n (wr.setCell ⟨w.heap.size + 1 + 1, 0, none⟩ (.int .i64 (ea + eo))) (ea + eo) lv L ∧ (wr.setCell ⟨w.heap.size + 1 + 1, 0, none⟩ (.int .i64 (ea + eo))).heap[w.heap.size]? = some (.cells #[.int .i64 0, .slice none 0 0] 85 /-t:hedgelayer/hgref2.flow-/ (0, 0)) ∧ w.grownBy (wr.setCell ⟨w.heap.size + 1 + 1, 0, none⟩ (.int .i64 (ea + eo))) none)
          clear hA2 hEF hEA hR2 hg2
          go_wp2_with fail
          go_roundw
          case rel =>
            refine ⟨j + 1, by omega, by go_num, ?_⟩
            unfold OutRel
            rw [HT.out]
            simp only [gapL]
            rw [← HL1.out, ← HL.out]
            exact HO.out
          case measure => simp [intOf]; omega
    · obtain rfl : j = es.length := by omega
      have HE := Lib.hid hE
      clear hE hS
      go_wp2_with fail
      refine (keep_any (w.heap.size + 3) (w.heap.size + 1 + 1) (w.heap.size + 1) n _ n lv _ _ (by omega) (by omega) (by omega) T).mono ?_
      rintro e w1 ⟨rfl, lv1, T1, F1⟩
      obtain ⟨av, cv, rfl⟩ := ownsRow_slice T1.own
      have hR1 := F1.kept hR (FlowP.old (by omega) (by omega) (by omega))
      have hg1 := grown_of_frm hg F1 (by omega) (by omega) (by omega)
      have cF0 := cell_of_block T1.hF 0
      have cF1 := cell_of_block T1.hF 1
      have cR0 := cell_of_block hR1 0
      have cR1 := cell_of_block hR1 1
      have fR0 := free_of_block hR1 0
      have fR1 := free_of_block hR1 1
      simp only [List.getElem?_toArray, List.getElem?_cons_zero, List.getElem?_cons_succ] at cF0 cF1 cR0 cR1
      have o1 := ownsRow_setCell_block T1.own hR1 (by decide) 0 (.int .i64 n)
      have o2 := ownsRow_setCell_block o1 (heap_setCell_self hR1 0 (.int .i64 n)) (by decide) 1 (.slice av ((flowTo es es.length).1 ++ keepL (flowTo es es.length).2 (n - (flowTo es es.length).2).toNat).length cv)
      have HO := Lib.hid o2
      have HG1 := Lib.hid (grow_setCell (grow_setCell hg1 ⟨w.heap.size, 0, none⟩ (.int .i64 n) (Nat.le_refl _)) ⟨w.heap.size, 1, none⟩ (.slice av ((flowTo es es.length).1 ++ keepL (flowTo es es.length).2 (n - (flowTo es es.length).2).toNat).length cv) (Nat.le_refl _))
      obtain ⟨L, hL⟩ : ∃ L, L = (flowTo es es.length).1 ++ keepL (flowTo es es.length).2 (n - (flowTo es es.length).2).toNat := ⟨_, rfl⟩
      rw [← hL] at T1 HO HG1 cF1
      have HL := Lib.hid hL
      clear hL o1 o2 T1 F1 hR hg T hR1 hg1
      go_wp2_with fail
      refine bodyPost_ret (v := .agg #[.int .i64 n, .slice av L.length cv]) (by simp [results, Try.results54, go_sem, cR0, cR1]) rfl ⟨_, rfl, ?_, HG1.out⟩
      simp only [gapL]
      rw [← HL.out]
      exact HO.out
end Go.Proofs.Ytajigndlcdiinaa
