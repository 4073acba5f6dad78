/- Package edit: steps, the iterator. -/
import Derived.Test.YtajigndlcdiinaaDR1
import Derived.Test.YtajigndlcdiinaaDR4
import Derived.Test.YtajigndlcdiinaaDRB
import Derived.Deep.MidRow
import Derived.Laws.Cover1
import Derived.Deep.RegionHeld3
import Derived.Deep.RegionLaw
import Derived.Deep.AppendLies
import Derived.Shelf.Abstract
import Derived.Shelf.RegionOpen
import Derived.WalkKit
import Derived.OwnWalkIn
import Derived.TacticsInMore
import Derived.LoopNIn
import Derived.LoopIn
namespace Go.Proofs.Ytajigndlcdiinaa
open Go.RowKit Go.Shelf
attribute [local go_sem] Oper.semAt_some

/-- A step. -/
structure Stp where
  at_ : Int
  long : Int
  ab : Ed
  ai : Bool
  al : Pce
  bb : Ed
  bi : Bool
  bl : Pce
def stpV (x : Stp) : Array Value := #[.int .i64 x.at_, .int .i64 x.long, .int .i64 x.ab.at_, .int .i64 x.ab.old, .string x.ab.new, .bool x.ai, .int .i64 x.al.at_, .int .i64 x.al.long, .int .i64 x.al.ed.at_, .int .i64 x.al.ed.old, .string x.al.ed.new,
  .int .i64 x.bb.at_, .int .i64 x.bb.old, .string x.bb.new, .bool x.bi, .int .i64 x.bl.at_, .int .i64 x.bl.long, .int .i64 x.bl.ed.at_, .int .i64 x.bl.ed.old, .string x.bl.ed.new]

def toV (A B : List Pce) (n at_ : Int) (la : Pce) (ja : Nat) (lb : Pce) (jb : Nat) : Int := min (min n (nxtV A la ja at_ n)) (nxtV B lb jb at_ n)
/-- The step at an offset. -/
def stpA (A B : List Pce) (n at_ : Int) (la : Pce) (ja : Nat) (lb : Pce) (jb : Nat) : Stp :=
  ⟨at_, toV A B n at_ (arrP A la ja at_) (arrJ A ja at_) (arrP B lb jb at_) (arrJ B jb at_) - at_, arrB A ja at_, inP (arrP A la ja at_) at_, lastP (arrP A la ja at_) at_, arrB B jb at_, inP (arrP B lb jb at_) at_, lastP (arrP B lb jb at_) at_⟩
/-- The steps from an offset on. -/
inductive Runs (A B : List Pce) (n : Int) : Int → Pce → Nat → Pce → Nat → List Stp → Prop
  | last {la ja lb jb} : 0 ≤ n → Runs A B n n la ja lb jb [stpA A B n n la ja lb jb]
  | more {at_ la ja lb jb xs} : 0 ≤ at_ → at_ < n → at_ < toV A B n at_ (arrP A la ja at_) (arrJ A ja at_) (arrP B lb jb at_) (arrJ B jb at_) →
      Runs A B n (toV A B n at_ (arrP A la ja at_) (arrJ A ja at_) (arrP B lb jb at_) (arrJ B jb at_)) (arrP A la ja at_) (arrJ A ja at_) (arrP B lb jb at_) (arrJ B jb at_) xs →
      Runs A B n at_ la ja lb jb (stpA A B n at_ la ja lb jb :: xs)

theorem Runs.head {A B : List Pce} {n at_ : Int} {la : Pce} {ja : Nat} {lb : Pce} {jb : Nat} {xs : List Stp} (h : Runs A B n at_ la ja lb jb xs) :
    ∃ ys, xs = stpA A B n at_ la ja lb jb :: ys ∧ 0 ≤ at_ ∧ ((at_ = n ∧ ys = []) ∨ (at_ < n ∧ at_ < toV A B n at_ (arrP A la ja at_) (arrJ A ja at_) (arrP B lb jb at_) (arrJ B jb at_) ∧
      Runs A B n (toV A B n at_ (arrP A la ja at_) (arrJ A ja at_) (arrP B lb jb at_) (arrJ B jb at_)) (arrP A la ja at_) (arrJ A ja at_) (arrP B lb jb at_) (arrJ B jb at_) ys)) := by
  cases h with
  | last h0 => exact ⟨[], rfl, h0, .inl ⟨rfl, rfl⟩⟩
  | more h0 h1 h2 h3 => exact ⟨_, rfl, h0, .inr ⟨h1, h2, h3⟩⟩

def Tt (t : TypeId) : Bool := t == 104 || t == 9 || t == 47
def Uu (t : TypeId) : Bool := t == 130 || t == 112

/-- What the iterator reads and no one turns. -/
structure SEnv (W : World) (Ba Bb Bn Ga Gb : Nat) (A B : List Pce) (n : Int) : Prop where
  ba : W.heap[Ba]? = some (.cells #[.slice (some ⟨Ga, 0, none⟩) A.length A.length] 73 (0, 0))
  bb : W.heap[Bb]? = some (.cells #[.slice (some ⟨Gb, 0, none⟩) B.length B.length] 73 (0, 0))
  bn : W.heap[Bn]? = some (.cells #[.int .i64 n] 3 (0, 0))
  ga : ∃ C, W.heap[Ga]? = some (.cells C 76 (0, 0)) ∧ PcsAt W Ga A
  gb : ∃ C, W.heap[Gb]? = some (.cells C 76 (0, 0)) ∧ PcsAt W Gb B

theorem PcsAt.same {W W' : World} {G : Nat} {ps : List Pce} (h : PcsAt W G ps) (e : W'.heap[G]? = W.heap[G]?) : PcsAt W' G ps := fun i hi => by
  have := h i hi
  simpa only [World.cell?, e] using this

theorem SEnv.kc {W W' : World} {Ba Bb Bn Ga Gb : Nat} {A B : List Pce} {n : Int} (h : SEnv W Ba Bb Bn Ga Gb A B n) (k : Kc Tt W W') : SEnv W' Ba Bb Bn Ga Gb A B n := by
  obtain ⟨h1, h2, h3, ⟨c4, h4, p4⟩, ⟨c5, h5, p5⟩⟩ := h
  exact ⟨k.same _ _ _ _ h1 rfl, k.same _ _ _ _ h2 rfl, k.same _ _ _ _ h3 rfl, ⟨c4, k.same _ _ _ _ h4 rfl, p4.same ((k.same _ _ _ _ h4 rfl).trans h4.symm)⟩, ⟨c5, k.same _ _ _ _ h5 rfl, p5.same ((k.same _ _ _ _ h5 rfl).trans h5.symm)⟩⟩
theorem SEnv.grown {W W' : World} {Ba Bb Bn Ga Gb : Nat} {A B : List Pce} {n : Int} (h : SEnv W Ba Bb Bn Ga Gb A B n) {row : Option Nat} (g : W.grownBy W' row) (hr : ∀ r, row = some r → ∃ cs, W.heap[r]? = some (Obj.cells cs 130 (0, 0)) ∨ W.heap[r]? = some (Obj.cells cs 112 (0, 0))) : SEnv W' Ba Bb Bn Ga Gb A B n := by
  have k : ∀ (b : Nat) (cs : Array Value) (t : TypeId), W.heap[b]? = some (.cells cs t (0, 0)) → t ≠ 130 → t ≠ 112 → W'.heap[b]? = some (.cells cs t (0, 0)) := fun b cs t hb h1 h2 => by
    refine (g.block b (lt_of_block hb) ?_).trans hb
    intro e
    obtain ⟨c, h | h⟩ := hr b e.symm
    · rw [hb] at h; cases h; exact h1 rfl
    · rw [hb] at h; cases h; exact h2 rfl
  obtain ⟨h1, h2, h3, ⟨c4, h4, p4⟩, ⟨c5, h5, p5⟩⟩ := h
  exact ⟨k _ _ _ h1 (by decide) (by decide), k _ _ _ h2 (by decide) (by decide), k _ _ _ h3 (by decide) (by decide), ⟨c4, k _ _ _ h4 (by decide) (by decide), p4.same ((k _ _ _ h4 (by decide) (by decide)).trans h4.symm)⟩, ⟨c5, k _ _ _ h5 (by decide) (by decide), p5.same ((k _ _ _ h5 (by decide) (by decide)).trans h5.symm)⟩⟩

theorem nxtV_lo {ps : List Pce} {last : Pce} (j : Nat) (at_ : Int) {n : Int} (h : last.Ok) (ho : ∀ p ∈ ps, p.Ok) (hn : 0 ≤ n) : -1000000000 ≤ nxtV ps last j at_ n := by
  unfold nxtV; split
  · have := h.1; have := h.2.2.1; omega
  · split
    · have := (ho _ (List.getElem_mem (by assumption))).1; omega
    · omega
theorem heap_setCells_all {b : Nat} {t : TypeId} : ∀ (vs pre rest : List Value) (w : World), rest.length = vs.length → w.heap[b]? = some (.cells (pre ++ rest).toArray t (0, 0)) → (w.setCells b pre.length vs).heap[b]? = some (.cells (pre ++ vs).toArray t (0, 0))
  | [], pre, rest, w, hl, h => by
    have : rest = [] := List.eq_nil_of_length_eq_zero hl
    subst this
    exact h
  | v :: r, pre, rest, w, hl, h => by
    cases rest with
    | nil => cases hl
    | cons x rest =>
      have h1 := heap_setCell_self h pre.length v
      rw [List.setIfInBounds_toArray, show (pre ++ x :: rest).set pre.length v = (pre ++ [v]) ++ rest by simp] at h1
      have := heap_setCells_all r (pre ++ [v]) rest _ (by simpa using hl) h1
      simpa [World.setCells] using this
theorem row_setCells {w : World} {B b : Nat} (hb : b = B ∨ w.heap.size ≤ b) : ∀ (vs : List Value) (o : Nat) (W : World), w.grownBy W (some B) → w.grownBy (W.setCells b o vs) (some B)
  | [], _, _, h => h
  | v :: r, o, _, h => row_setCells hb r (o + 1) _ (row_set h b o v hb)
theorem grow_setCells {w : World} {b : Nat} (hb : w.heap.size ≤ b) : ∀ (vs : List Value) (o : Nat) (W : World), w.grownBy W none → w.grownBy (W.setCells b o vs) none
  | [], _, _, h => h
  | v :: r, o, _, h => grow_setCells hb r (o + 1) _ (grow_setCell h ⟨b, o, none⟩ v hb)

def stpZ : Array Value := #[.int .i64 0, .int .i64 0, .int .i64 0, .int .i64 0, .string ⟨#[]⟩, .bool false, .int .i64 0, .int .i64 0, .int .i64 0, .int .i64 0, .string ⟨#[]⟩, .int .i64 0, .int .i64 0, .string ⟨#[]⟩, .bool false, .int .i64 0, .int .i64 0, .int .i64 0, .int .i64 0, .string ⟨#[]⟩]

theorem WkAt.row {w w' : World} {p q G n : Nat} {last : Pce} {j : Nat} (h : WkAt w q G n last j) (g : w.grownBy w' (some p)) (hne : q ≠ p) : WkAt w' q G n last j := by
  obtain ⟨o, hb, ho⟩ := h
  exact ⟨o, (g.block _ (lt_of_block hb) (by simpa using hne)).trans hb, ho⟩
theorem WkAt.grown {w w' : World} {q G n : Nat} {last : Pce} {j : Nat} (h : WkAt w q G n last j) (g : w.grownBy w' none) : WkAt w' q G n last j := by
  obtain ⟨o, hb, ho⟩ := h
  exact ⟨o, grow_new g hb, ho⟩
theorem WkAt.kc {w w' : World} {q G n : Nat} {last : Pce} {j : Nat} (h : WkAt w q G n last j) (k : Kc Tt w w') : WkAt w' q G n last j := by
  obtain ⟨o, hb, ho⟩ := h
  exact ⟨o, k.same _ _ _ _ hb rfl, ho⟩
theorem WkAt.row112 {w w' : World} {q G n M : Nat} {last : Pce} {j : Nat} {cs : Array Value} (h : WkAt w q G n last j) (g : w.grownBy w' (some M)) (hM : w.heap[M]? = some (.cells cs 112 (0, 0))) : WkAt w' q G n last j := by
  refine h.row g ?_
  rintro rfl
  obtain ⟨o, hb, ho⟩ := h
  rw [hM] at hb
  cases hb
theorem arrP_ok {ps : List Pce} {last : Pce} (j : Nat) (at_ : Int) (h : last.Ok) (ho : ∀ p ∈ ps, p.Ok) : (arrP ps last j at_).Ok := by
  unfold arrP; split
  · split
    · exact ho _ (List.getElem_mem _)
    · exact h
  · exact h
theorem arrJ_le {ps : List Pce} (j : Nat) (at_ : Int) (h : j ≤ ps.length) : arrJ ps j at_ ≤ ps.length := by
  unfold arrJ; split
  · split <;> omega
  · exact h

set_option maxHeartbeats 4000000 in
set_option maxRecDepth 100000 in
theorem steps1_runs (m : Nat) (Ba Bb Bn Ga Gb : Nat) (A B : List Pce) (n : Int) (xs : List Stp) (w : World) (hA : A.length ≤ 100000) (hB : B.length ≤ 100000) (okA : ∀ p ∈ A, p.Ok) (okB : ∀ p ∈ B, p.Ok) (hn : 0 ≤ n ∧ n ≤ 1000000) (hE : SEnv w Ba Bb Bn Ga Gb A B n) (hx : Runs A B n 0 pcZ 0 pcZ 0 xs) :
    SeqRuns Uu Tt m Try.prog 85 #[.pointer (some ⟨Ba, 0, none⟩), .pointer (some ⟨Bb, 0, none⟩), .pointer (some ⟨Bn, 0, none⟩)] (fun x => #[.agg (stpV x)]) xs w := by
  intro l J W hg hJ hY h0
  have E0 := Lib.hid (hE.grown hg (fun r e => by cases e))
  have HY := Lib.hid hY
  have HJ := Lib.hid hJ
  have HX := Lib.hid hx
  clear hE hg hY hJ hx
  obtain ⟨R, hR⟩ : ∃ R : Ending → World → Prop, (fun e W' => (∃ v, e = .returned v) ∧ J xs.length W') = R := ⟨_, rfl⟩
  rw [hR]
  have HR := Lib.hid hR
  clear hR
  have HJ0 := Lib.hid h0
  have cA := cell_of_block E0.out.ba 0
  have cB := cell_of_block E0.out.bb 0
  simp only [List.getElem?_toArray, List.getElem?_cons_zero] at cA cB
  clear h0
  refine callsIn_wide.2 ?_
  go_enter Try.func85, Try.ntmps85
  have KB : ∀ C1 C2 : Array Value, ((W.alloc (.cells C1 130)).alloc (.cells C2 130)).heap[W.heap.size]? = some (.cells C1 130 (0, 0)) ∧ ((W.alloc (.cells C1 130)).alloc (.cells C2 130)).heap[W.heap.size + 1]? = some (.cells C2 130 (0, 0)) ∧ W.grownBy ((W.alloc (.cells C1 130)).alloc (.cells C2 130)) none := fun C1 C2 =>
    ⟨grow_new (World.grownBy_alloc _ _ _) (heap_alloc_new W _), heap_new_at _ _ _ (by simp), grownBy_trans (World.grownBy_alloc _ _ _) (World.grownBy_alloc _ _ _)⟩
  have KB := Lib.hid KB
  go_upto_region 0 with (fail)
  go_cut [5, 6] (fun v5 v6 wx => ∃ p q, v5 = .pointer (some ⟨p, 0, none⟩) ∧ v6 = .pointer (some ⟨q, 0, none⟩) ∧ p ≠ q ∧ Hid (WkAt wx p Ga A.length pcZ 0) ∧ Hid (WkAt wx q Gb B.length pcZ 0) ∧ Hid (W.grownBy wx none) ∧ Hid (W.heap.size ≤ p ∧ W.heap.size ≤ q))
  case first =>
    have lA := lt_of_block E0.out.ba
    have lB := lt_of_block E0.out.bb
    have A1 : ∀ o, (W.alloc o).cell? ⟨Ba, 0, none⟩ = some (.slice (some ⟨Ga, 0, none⟩) A.length A.length) := fun o => (World.grownBy_alloc W o none).cell cA (by simp)
    have B1 : ∀ o, (W.alloc o).cell? ⟨Bb, 0, none⟩ = some (.slice (some ⟨Gb, 0, none⟩) B.length B.length) := fun o => (World.grownBy_alloc W o none).cell cB (by simp)
    have A2 : ∀ o o', ((W.alloc o).alloc o').cell? ⟨Ba, 0, none⟩ = some (.slice (some ⟨Ga, 0, none⟩) A.length A.length) := fun o o' => (World.grownBy_alloc _ o' none).cell (A1 o) (by simp)
    have B2 : ∀ o o', ((W.alloc o).alloc o').cell? ⟨Bb, 0, none⟩ = some (.slice (some ⟨Gb, 0, none⟩) B.length B.length) := fun o o' => (World.grownBy_alloc _ o' none).cell (B1 o) (by simp)
    go_wp2_with fail
    go_region_law (fail)
    all_goals
      go_wp2_with fail
      go_meet
      first
        | exact ⟨_, _, rfl, rfl, by omega, Lib.hid ⟨0, (KB.out _ _).1, fun _ => by simp⟩, Lib.hid ⟨0, (KB.out _ _).2.1, fun _ => by simp⟩, Lib.hid (grow_drew (KB.out _ _).2.2), Lib.hid ⟨by omega, by omega⟩⟩
        | exact ⟨_, _, rfl, rfl, by omega, Lib.hid ⟨0, (KB.out _ _).2.1, fun _ => by simp⟩, Lib.hid ⟨0, (KB.out _ _).1, fun _ => by simp⟩, Lib.hid (grow_drew (KB.out _ _).2.2), Lib.hid ⟨by omega, by omega⟩⟩
  case rest =>
  obtain ⟨p, q, rfl, rfl, hpq, HA, HB, HG, HPQ⟩ := hcut
  obtain ⟨w1, rfl⟩ : ∃ v : World, v = wc := ⟨_, rfl⟩
  clear cA cB KB
  have E1 := Lib.hid (E0.out.grown HG.out (fun r e => by cases e))
  have J1 := Lib.hid (HJ.out 0 W w1 HJ0.out (.new HG.out))
  have OK := Lib.hid (And.intro okA okB)
  clear E0 HJ0 HG okA okB
  go_wp2_with fail
  go_loopw [7] (fun atv wr => ∃ (k : Nat) (at_ : Int) (la : Pce) (ja : Nat) (lb : Pce) (jb : Nat) (rest : List Stp), atv = .int .i64 at_ ∧ at_ ≤ n ∧ Hid (xs.drop k = rest) ∧ Hid (Runs A B n at_ la ja lb jb rest) ∧ Hid (WkAt wr p Ga A.length la ja) ∧ Hid (WkAt wr q Gb B.length lb jb)
    ∧ Hid (la.Ok ∧ lb.Ok ∧ ja ≤ A.length ∧ jb ≤ B.length) ∧ Hid (SEnv wr Ba Bb Bn Ga Gb A B n) ∧ Hid (J k wr)) (fun atv _ => (n - intOf atv).toNat)
  case atStart => exact ⟨0, 0, pcZ, 0, pcZ, 0, xs, rfl, hn.1, Lib.hid rfl, HX, HA, HB, Lib.hid ⟨by simp [Pce.Ok, pcZ], by simp [Pce.Ok, pcZ], Nat.zero_le _, Nat.zero_le _⟩, E1, J1⟩
  case round =>
    clear HA HB E1 J1 HX
    obtain ⟨k, at_, la, ja, lb, jb, rest, rfl, hat, HK, HRu, HA, HB, HO, HE, HJk⟩ := hrel
    obtain ⟨_, gA, pA⟩ := HE.out.ga
    have HRu2 := Runs.head HRu.out
    have hGp : Ga ≠ p := by
      rintro rfl
      obtain ⟨o, hb, _⟩ := HA.out
      rw [hb] at gA; cases gA
    have HO3 := Lib.hid (show (arrP A la ja at_).Ok ∧ (arrP B lb jb at_).Ok ∧ arrJ A ja at_ ≤ A.length ∧ arrJ B jb at_ ≤ B.length from ⟨arrP_ok _ _ HO.out.1 OK.out.1, arrP_ok _ _ HO.out.2.1 OK.out.2, arrJ_le _ _ HO.out.2.2.1, arrJ_le _ _ HO.out.2.2.2⟩)
    have HarrA := arrive_any p Ga A la ja at_ wr hA HO.out.2.2.1 HO.out.1 OK.out.1 HA.out pA hGp
    have HarrB := fun w2 => arrive_any q Gb B lb jb at_ w2 hB HO.out.2.2.2 HO.out.2.1 OK.out.2
    obtain ⟨x, hx⟩ : ∃ x, stpA A B n at_ la ja lb jb = x := ⟨_, rfl⟩
    rw [hx] at HRu2
    unfold stpA at hx
    generalize arrP A la ja at_ = la2, arrJ A ja at_ = ja2, arrB A ja at_ = b1, arrP B lb jb at_ = lb2, arrJ B jb at_ = jb2, arrB B jb at_ = b2 at HarrA HarrB hx HRu2 HO3
    obtain ⟨tv, htv⟩ : ∃ t, toV A B n at_ la2 ja2 lb2 jb2 = t := ⟨_, rfl⟩
    rw [htv] at hx HRu2
    unfold toV at htv
    have HTV := Lib.hid htv
    clear htv
    generalize inP la2 at_ = i1, lastP la2 at_ = l1, inP lb2 at_ = i2, lastP lb2 at_ = l2 at HarrA HarrB hx
    obtain ⟨b1a, b1o, b1n⟩ := b1
    obtain ⟨b2a, b2o, b2n⟩ := b2
    obtain ⟨l1a, l1l, l1e, l1f, l1n⟩ := l1
    obtain ⟨l2a, l2l, l2e, l2f, l2n⟩ := l2
    have HXV := Lib.hid hx
    unfold ArrPost sideV at HarrA HarrB
    replace HarrA := Lib.hid HarrA
    replace HarrB := Lib.hid HarrB
    clear gA pA hx
    have HRu2 := Lib.hid HRu2
    go_wp2_with fail
    refine HarrA.out.mono ?_
    rintro e w2 ⟨rfl, hA2, g2⟩
    obtain ⟨oA, hbA, -⟩ := HA.out
    have HB2 := Lib.hid (HB.out.row g2 hpq.symm)
    have HE2 := Lib.hid (HE.out.grown g2 (fun r e => by cases e; exact ⟨_, .inl hbA⟩))
    have HJ2 := Lib.hid (HJ.out k wr w2 HJk.out ⟨some p, g2, fun r e => by cases e; exact ⟨HPQ.out.1, _, 130, _, hbA, rfl⟩⟩)
    have HA2 := Lib.hid hA2
    clear hA2 g2 hbA HA HB HE HJk HarrA
    obtain ⟨_, gB, pB⟩ := HE2.out.gb
    have hGq : Gb ≠ q := by
      rintro rfl
      obtain ⟨o, hb, _⟩ := HB2.out
      rw [hb] at gB; cases gB
    have HarrB2 := Lib.hid (HarrB.out w2 HB2.out pB hGq)
    clear gB pB HarrB
    go_wp2_with fail
    refine HarrB2.out.mono ?_
    rintro e w3 ⟨rfl, hB3, g3⟩
    obtain ⟨oB, hbB, -⟩ := HB2.out
    have HA3 := Lib.hid (HA2.out.row g3 hpq)
    have HE3 := Lib.hid (HE2.out.grown g3 (fun r e => by cases e; exact ⟨_, .inl hbB⟩))
    have HJ3 := Lib.hid (HJ.out k w2 w3 HJ2.out ⟨some q, g3, fun r e => by cases e; exact ⟨HPQ.out.2, _, 130, _, hbB, rfl⟩⟩)
    have HB3 := Lib.hid hB3
    clear hB3 g3 hbB HA2 HB2 HE2 HJ2 HarrB2
    have hbd := fun w => build112 at_ b1a b1o l1a l1l l1e l1f b2a b2o l2a l2l l2e l2f b1n l1n b2n l2n i1 i2 w
    have HTHERE := Lib.hid (show (w3.alloc (.cells stpZ 112)).there w3.heap.size 0 20 from fun j hj => ⟨by
      rw [Nat.zero_add, cell_of_block (heap_alloc_new w3 (.cells stpZ 112))]
      have : j < stpZ.size := hj
      simp [this], free_of_block (heap_alloc_new w3 (.cells stpZ 112)) _⟩)
    have HIN := Lib.hid (show (Try.prog.info? 112).map (·.size) = some 20 by kernel_rfl)
    unfold stpZ at HTHERE
    go_upto_region 3 with (refine wpList_store_mid (by rfl) 112 (.tmp 8) (.tmp 19) (by rfl) w3.heap.size 0 #[.int .i64 at_, .int .i64 0, .int .i64 b1a, .int .i64 b1o, .string b1n, .bool i1, .int .i64 l1a, .int .i64 l1l, .int .i64 l1e, .int .i64 l1f, .string l1n, .int .i64 b2a, .int .i64 b2o, .string b2n, .bool i2, .int .i64 l2a, .int .i64 l2l, .int .i64 l2e, .int .i64 l2f, .string l2n] (by rfl) (by rfl) HTHERE.out HIN.out (by simp [Value.oneCell']) ?_)
    have hM4 := heap_setCells_all (b := w3.heap.size) (t := 112) [.int .i64 at_, .int .i64 0, .int .i64 b1a, .int .i64 b1o, .string b1n, .bool i1, .int .i64 l1a, .int .i64 l1l, .int .i64 l1e, .int .i64 l1f, .string l1n, .int .i64 b2a, .int .i64 b2o, .string b2n, .bool i2, .int .i64 l2a, .int .i64 l2l, .int .i64 l2e, .int .i64 l2f, .string l2n] [] stpZ.toList (w3.alloc (.cells stpZ 112)) rfl (heap_alloc_new w3 (.cells stpZ 112))
    have g4 := grow_setCells (w := w3) (b := w3.heap.size) (Nat.le_refl _) [.int .i64 at_, .int .i64 0, .int .i64 b1a, .int .i64 b1o, .string b1n, .bool i1, .int .i64 l1a, .int .i64 l1l, .int .i64 l1e, .int .i64 l1f, .string l1n, .int .i64 b2a, .int .i64 b2o, .string b2n, .bool i2, .int .i64 l2a, .int .i64 l2l, .int .i64 l2e, .int .i64 l2f, .string l2n] 0 _ (World.grownBy_alloc w3 (.cells stpZ 112) none)
    unfold stpZ at hM4 g4
    simp only [List.nil_append, List.length_nil] at hM4 g4
    have hMs : W.heap.size ≤ w3.heap.size := by
      obtain ⟨_, hb, _⟩ := HA3.out
      have := lt_of_block hb
      have := HPQ.out.1
      omega
    have HMs := Lib.hid hMs
    clear hMs
    generalize World.setCells _ _ _ _ = w4 at hM4 g4 ⊢
    have HA4 := Lib.hid (HA3.out.grown g4)
    have HB4 := Lib.hid (HB3.out.grown g4)
    have HE4 := Lib.hid (HE3.out.grown g4 (fun r e => by cases e))
    have HJ4 := Lib.hid (HJ.out k w3 w4 HJ3.out (.new g4))
    have HM4 := Lib.hid hM4
    clear HA3 HB3 HE3 HJ3 hM4 g4 hbd HTHERE
    generalize w3.heap.size = M at HM4 HMs ⊢
    have cN := cell_of_block HE4.out.bn 0
    simp only [List.getElem?_toArray, List.getElem?_cons_zero] at cN
    obtain ⟨_, -, pA4⟩ := HE4.out.ga
    obtain ⟨_, -, pB4⟩ := HE4.out.gb
    have HPA := Lib.hid pA4
    have HPB := Lib.hid pB4
    clear pA4 pB4
    have HNA := Lib.hid (fun w' (h : w'.heap = w4.heap) => wnext_any p Ga A la2 ja2 at_ n w' hA HO3.out.2.2.1 HO3.out.1 (by obtain ⟨o, h1, h2⟩ := HA4.out; exact ⟨o, by rw [h]; exact h1, h2⟩) (HPA.out.same (by rw [h])))
    have HNB := Lib.hid (fun w' (h : w'.heap = w4.heap) => wnext_any q Gb B lb2 jb2 at_ n w' hB HO3.out.2.2.2 HO3.out.2.1 (by obtain ⟨o, h1, h2⟩ := HB4.out; exact ⟨o, by rw [h]; exact h1, h2⟩) (HPB.out.same (by rw [h])))
    have HNN := Lib.hid (show -1000000000 ≤ nxtV A la2 ja2 at_ n ∧ -1000000000 ≤ nxtV B lb2 jb2 at_ n from ⟨nxtV_lo _ _ HO3.out.1 OK.out.1 hn.1, nxtV_lo _ _ HO3.out.2.1 OK.out.2 hn.1⟩)
    unfold NxtPost at HNA HNB
    generalize nxtV A la2 ja2 at_ n = na, nxtV B lb2 jb2 at_ n = nb at HNA HNB HTV HNN
    clear HPA HPB
    have hmv : (if nb < (if na < n then na else n) then nb else (if na < n then na else n)) = tv := by
      have h0 := HTV.out
      by_cases h1 : na < n
      · rw [if_pos h1]
        by_cases h2 : nb < na
        · rw [if_pos h2]; omega
        · rw [if_neg h2]; omega
      · rw [if_neg h1]
        by_cases h2 : nb < n
        · rw [if_pos h2]; omega
        · rw [if_neg h2]; omega
    have hmn : ∀ w, (Builtin.min_ #[3, 3, 3] 3 #[.int .i64 n, .int .i64 na, .int .i64 nb]).run Try.prog w = .ok (.int .i64 tv) w := fun w => by
      rw [← hmv]; simp [Builtin.min_, Builtin.min2]
    clear hmv
    go_wp2_with fail
    go_region_held3 (fun w' => w'.cell? ⟨Bn, 0, none⟩ = some (.int .i64 n)) ((first | assumption | exact cN)) (first | (have tok := HNA; clear tok; go_at_call 87; refine (HNA.out _ (by rfl)).mono ?_; clear HNA; rintro e' w5 ⟨rfl, rfl⟩) | (go_at_call 87; refine (HNB.out _ (by rfl)).mono ?_; rintro e' w5 ⟨rfl, rfl⟩))
    have htv : IntKind.i64.wrap (tv - at_) = tv - at_ := IntWalk.i64_in _ (by have h0 := HTV.out; have h1 := HNN.out; omega)
    clear hmn
    have HA5 := Lib.hid (show WkAt w4.drew.drew.drew p Ga A.length la2 ja2 from HA4.out)
    have HB5 := Lib.hid (show WkAt w4.drew.drew.drew q Gb B.length lb2 jb2 from HB4.out)
    have HE5 := Lib.hid (HE4.out.grown (grow_drew (grow_drew (grow_drew (grow_self w4)))) (fun r e => by cases e))
    have HJ5 := Lib.hid (HJ.out k w4 _ HJ4.out (.new (grow_drew (grow_drew (grow_drew (grow_self w4))))))
    have hM5 : w4.drew.drew.drew.heap[M]? = _ := HM4.out
    generalize w4.drew.drew.drew = w5 at HA5 HB5 HE5 HJ5 hM5 ⊢
    have m1 := cell_of_block hM5 1
    simp only [List.getElem?_toArray, List.getElem?_cons_zero, List.getElem?_cons_succ] at m1
    have fm := free_of_block hM5 1
    have g6 : w5.grownBy (w5.setCell ⟨M, 1, none⟩ (.int .i64 (tv - at_))) (some M) := row_set (grow_refl w5 (some M)) M 1 _ (.inl rfl)
    have hM6 := heap_setCell_self hM5 1 (.int .i64 (tv - at_))
    simp only [List.setIfInBounds_toArray, List.set_cons_succ, List.set_cons_zero] at hM6
    have HA6 := Lib.hid (HA5.out.row112 g6 hM5)
    have HB6 := Lib.hid (HB5.out.row112 g6 hM5)
    have HE6 := Lib.hid (HE5.out.grown g6 (fun r e => by cases e; exact ⟨_, .inr hM5⟩))
    have HJ6 := Lib.hid (HJ.out k w5 _ HJ5.out ⟨some M, g6, fun r e => by cases e; exact ⟨HMs.out, _, 112, _, hM5, rfl⟩⟩)
    have HM6 := Lib.hid hM6
    clear HA4 HB4 HE4 HJ4 HM4 HA5 HB5 HE5 HJ5 hM5 g6 hM6 cN
    go_upto_region 5 with (fail)
    generalize w5.setCell ⟨M, 1, none⟩ (.int .i64 (tv - at_)) = w6 at HA6 HB6 HE6 HJ6 HM6 ⊢
    clear m1 fm htv
    have hM6 := HM6.out
    have HRG := Lib.hid (show w6.rangeAt M 0 [.int .i64 at_, .int .i64 (tv - at_), .int .i64 b1a, .int .i64 b1o, .string b1n, .bool i1, .int .i64 l1a, .int .i64 l1l, .int .i64 l1e, .int .i64 l1f, .string l1n, .int .i64 b2a, .int .i64 b2o, .string b2n, .bool i2, .int .i64 l2a, .int .i64 l2l, .int .i64 l2e, .int .i64 l2f, .string l2n] from fun j v hv => by rw [Nat.zero_add, cell_of_block hM6]; simpa using hv)
    clear hM6
    obtain ⟨ys, hys, hat0, hway⟩ := HRu2.out
    have hxk : xs[k]? = some x := by
      have h1 : (xs.drop k)[0]? = some x := by rw [HK.out, hys]; rfl
      simpa using h1
    have hdk : xs.drop (k + 1) = ys := by
      rw [← List.drop_drop, HK.out, hys]; rfl
    obtain ⟨fn, tmps, assign, body, hy, hR⟩ := HY.out k x w6 hxk HJ6.out
    rw [← HXV.out] at hy
    simp only [stpV] at hy
    have HRr := Lib.hid hR
    have HYS := Lib.hid hdk
    have HLEN := Lib.hid (show k < xs.length from (List.getElem?_eq_some_iff.1 hxk).1)
    have HWAY := Lib.hid hway
    clear HRu2 hys hway hxk hdk hR
    have cn6 := cell_of_block HE6.out.bn 0
    simp only [List.getElem?_toArray, List.getElem?_cons_zero] at cn6
    refine (wpIn_wide (n := m)).1 ?_
    gi_wp2_with (refine wpListIn_load_mid (by rfl) 112 (.tmp 8) (by rfl) M 0 (by rfl) [.int .i64 at_, .int .i64 (tv - at_), .int .i64 b1a, .int .i64 b1o, .string b1n, .bool i1, .int .i64 l1a, .int .i64 l1l, .int .i64 l1e, .int .i64 l1f, .string l1n, .int .i64 b2a, .int .i64 b2o, .string b2n, .bool i2, .int .i64 l2a, .int .i64 l2l, .int .i64 l2e, .int .i64 l2f, .string l2n] _ HRG.out Try.underlying112 (by rfl) HIN.out ?_)
    refine ⟨(fun h => by cases h), HRr.out.mono ?_⟩
    rintro e w7 ⟨rfl, hJ7, hk7⟩
    have HA7 := Lib.hid (HA6.out.kc hk7)
    have HB7 := Lib.hid (HB6.out.kc hk7)
    have HE7 := Lib.hid (HE6.out.kc hk7)
    have HJ7 := Lib.hid hJ7
    have cn7 := cell_of_block HE7.out.bn 0
    simp only [List.getElem?_toArray, List.getElem?_cons_zero] at cn7
    clear HA6 HB6 HE6 HJ6 HM6 HRG hJ7 hk7 HRr hy cn6
    by_cases hend : at_ = n
    · have ht : (at_ == n) = true := by simpa using hend
      have HEND := Lib.hid (show ys = [] by
        rcases HWAY.out with ⟨_, h⟩ | ⟨h, _⟩
        · exact h
        · omega)
      clear hend
      gi_wp2
      go_wp2_with fail
      try go_end0
      rw [← HR.out]
      have hl : xs.length = k + 1 := by
        have h1 := HYS.out
        rw [HEND.out] at h1
        have := List.drop_eq_nil_iff.1 h1
        have := HLEN.out
        omega
      exact ⟨⟨_, rfl⟩, by rw [hl]; exact HJ7.out⟩
    · have ht : (at_ == n) = false := by simpa using hend
      have HNX := Lib.hid (show at_ < n ∧ at_ < tv ∧ Runs A B n tv la2 ja2 lb2 jb2 ys by
        rcases HWAY.out with ⟨h, _⟩ | h
        · exact absurd h hend
        · exact h)
      clear hend
      gi_wp2
      go_wp2_with fail
      go_roundw
      case rel => exact ⟨k + 1, tv, la2, ja2, lb2, jb2, ys, rfl, by have := HTV.out; omega, HYS, Lib.hid HNX.out.2.2, HA7, HB7, HO3, HE7, HJ7⟩
      case measure => have := HNX.out.1; have := HNX.out.2.1; simp [intOf]; omega
end Go.Proofs.Ytajigndlcdiinaa
