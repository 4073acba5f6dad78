/- Package edit: walker.arrive. -/
import Derived.Test.YtajigndlcdiinaaDQ1
import Derived.Deep.DeepCutAuto
namespace Go.Proofs.Ytajigndlcdiinaa
open Go.RowKit

/-- A piece. -/
structure Pce where
  at_ : Int
  long : Int
  ed : Ed
def edZ : Ed := ⟨0, 0, ⟨#[]⟩⟩
def pcZ : Pce := ⟨0, 0, edZ⟩
def Pce.Ok (p : Pce) : Prop := -1000000 ≤ p.at_ ∧ p.at_ ≤ 1000000 ∧ 0 ≤ p.long ∧ p.long ≤ 1000000

/-- The pieces lie in block G. -/
def PcsAt (W : World) (G : Nat) (ps : List Pce) : Prop := ∀ i (h : i < ps.length),
  W.cell? ⟨G, i * 5, none⟩ = some (.int .i64 ps[i].at_) ∧ W.cell? ⟨G, i * 5 + 1, none⟩ = some (.int .i64 ps[i].long) ∧ W.cell? ⟨G, i * 5 + 2, none⟩ = some (.int .i64 ps[i].ed.at_) ∧
    W.cell? ⟨G, i * 5 + 3, none⟩ = some (.int .i64 ps[i].ed.old) ∧ W.cell? ⟨G, i * 5 + 4, none⟩ = some (.string ps[i].ed.new)

/-- A walker: the last piece that has begun, and how many have. -/
def WkAt (W : World) (B G n : Nat) (last : Pce) (j : Nat) : Prop := ∃ off, W.heap[B]? = some (.cells #[.int .i64 last.at_, .int .i64 last.long, .int .i64 last.ed.at_, .int .i64 last.ed.old, .string last.ed.new,
  .slice (some ⟨G, off, none⟩) (n - j) (n - j)] 130 (0, 0)) ∧ (j < n → off = j * 5)

/-- Coming to an offset. -/
def arrP (ps : List Pce) (last : Pce) (j : Nat) (at_ : Int) : Pce := if h : j < ps.length then if ps[j].at_ = at_ then ps[j] else last else last
def arrJ (ps : List Pce) (j : Nat) (at_ : Int) : Nat := if h : j < ps.length then if ps[j].at_ = at_ then j + 1 else j else j
def arrB (ps : List Pce) (j : Nat) (at_ : Int) : Ed := if h : j < ps.length then if ps[j].at_ = at_ then ps[j].ed else edZ else edZ
def inP (p : Pce) (at_ : Int) : Bool := decide (at_ < p.at_ + p.long)
def lastP (p : Pce) (at_ : Int) : Pce := if inP p at_ then p else pcZ
def sideV (b : Ed) (i : Bool) (p : Pce) : Array Value := #[.int .i64 b.at_, .int .i64 b.old, .string b.new, .bool i, .int .i64 p.at_, .int .i64 p.long, .int .i64 p.ed.at_, .int .i64 p.ed.old, .string p.ed.new]

theorem row_set {w W : World} {B : Nat} (h : w.grownBy W (some B)) (b i : Nat) (v : Value) (hb : b = B ∨ w.heap.size ≤ b) : w.grownBy (W.setCell ⟨b, i, none⟩ v) (some B) :=
  ⟨h.os, h.tape, h.output, by have := h.size; simpa [World.setCell] using this, fun k hk hne => (Below.heap_setCell W ⟨b, i, none⟩ v k (by
    rintro e
    rcases hb with rfl | hb
    · exact hne (by rw [e])
    · simp at e; omega)).trans (h.block k hk hne)⟩

theorem grow_new {w w' : World} {b : Nat} {o : Obj} (g : w.grownBy w' none) (h : w.heap[b]? = some o) : w'.heap[b]? = some o := (g.block _ (lt_of_block h) (by simp)).trans h

def ArrPost (B G n : Nat) (sv : Array Value) (last : Pce) (j : Nat) (w : World) (e : Ending) (w' : World) : Prop :=
  e = .returned (.agg sv) ∧ WkAt w' B G n last j ∧ w.grownBy w' (some B)

/-- Half of the way: the boxes X (the side) and R (the result). -/
structure ArrMid (B G n X R : Nat) (last : Pce) (j : Nat) (sv : Array Value) (w W : World) : Prop where
  wk : WkAt W B G n last j
  x : W.heap[X]? = some (.cells sv 110 (0, 0))
  r : W.heap[R]? = some (.cells (sideV edZ false pcZ) 110 (0, 0))
  gr : w.grownBy W (some B)

theorem ArrMid.took {B G n X R : Nat} {last : Pce} {j : Nat} {w W : World} (h : ArrMid B G n X R last j (sideV edZ false pcZ) w W) (q : Pce) (off m : Nat) (hm : n - (j + 1) = m) (ho : j + 1 < n → off = (j + 1) * 5) (hBX : B ≠ X) (hBR : B ≠ R) (hXR : X ≠ R) (hX : w.heap.size ≤ X) :
    ArrMid B G n X R q (j + 1) (sideV q.ed false pcZ) w (((((((((W.setCell ⟨B, 0, none⟩ (.int .i64 q.at_)).setCell ⟨B, 1, none⟩ (.int .i64 q.long)).setCell ⟨B, 2, none⟩ (.int .i64 q.ed.at_)).setCell ⟨B, 3, none⟩ (.int .i64 q.ed.old)).setCell ⟨B, 4, none⟩ (.string q.ed.new)).setCell ⟨B, 5, none⟩ (.slice (some ⟨G, off, none⟩) m m)).setCell ⟨X, 0, none⟩ (.int .i64 q.ed.at_)).setCell ⟨X, 1, none⟩ (.int .i64 q.ed.old)).setCell ⟨X, 2, none⟩ (.string q.ed.new)) := by
  subst hm
  obtain ⟨o, hb, _⟩ := h.wk
  have oth : ∀ (V : World) (b i k : Nat) (v : Value), k ≠ b → (V.setCell ⟨b, i, none⟩ v).heap[k]? = V.heap[k]? := fun V b i k v hk => Below.heap_setCell _ _ _ _ hk
  refine ⟨⟨off, ?_, ho⟩, ?_, ?_, ?_⟩
  · rw [oth _ _ _ _ _ hBX, oth _ _ _ _ _ hBX, oth _ _ _ _ _ hBX]
    have := heap_setCell_self (heap_setCell_self (heap_setCell_self (heap_setCell_self (heap_setCell_self (heap_setCell_self hb 0 (.int .i64 q.at_)) 1 (.int .i64 q.long)) 2 (.int .i64 q.ed.at_)) 3 (.int .i64 q.ed.old)) 4 (.string q.ed.new)) 5 (.slice (some ⟨G, off, none⟩) (n - (j + 1)) (n - (j + 1)))
    simpa only [List.setIfInBounds_toArray, List.set_cons_succ, List.set_cons_zero] using this
  · have hx := h.x
    unfold sideV at hx
    have e : (((((((W.setCell ⟨B, 0, none⟩ (.int .i64 q.at_)).setCell ⟨B, 1, none⟩ (.int .i64 q.long)).setCell ⟨B, 2, none⟩ (.int .i64 q.ed.at_)).setCell ⟨B, 3, none⟩ (.int .i64 q.ed.old)).setCell ⟨B, 4, none⟩ (.string q.ed.new)).setCell ⟨B, 5, none⟩ (.slice (some ⟨G, off, none⟩) (n - (j + 1)) (n - (j + 1))))).heap[X]? = W.heap[X]? := by
      rw [oth _ _ _ _ _ hBX.symm, oth _ _ _ _ _ hBX.symm, oth _ _ _ _ _ hBX.symm, oth _ _ _ _ _ hBX.symm, oth _ _ _ _ _ hBX.symm, oth _ _ _ _ _ hBX.symm]
    have := heap_setCell_self (heap_setCell_self (heap_setCell_self (e.trans hx) 0 (.int .i64 q.ed.at_)) 1 (.int .i64 q.ed.old)) 2 (.string q.ed.new)
    simpa only [sideV, List.setIfInBounds_toArray, List.set_cons_succ, List.set_cons_zero] using this
  · rw [oth _ _ _ _ _ hXR.symm, oth _ _ _ _ _ hXR.symm, oth _ _ _ _ _ hXR.symm, oth _ _ _ _ _ hBR.symm, oth _ _ _ _ _ hBR.symm, oth _ _ _ _ _ hBR.symm, oth _ _ _ _ _ hBR.symm, oth _ _ _ _ _ hBR.symm, oth _ _ _ _ _ hBR.symm]
    exact h.r
  · exact row_set (row_set (row_set (row_set (row_set (row_set (row_set (row_set (row_set h.gr B 0 _ (.inl rfl)) B 1 _ (.inl rfl)) B 2 _ (.inl rfl)) B 3 _ (.inl rfl)) B 4 _ (.inl rfl)) B 5 _ (.inl rfl)) X 0 _ (.inr hX)) X 1 _ (.inr hX)) X 2 _ (.inr hX)

theorem ArrMid.inn {B G n X R : Nat} {last : Pce} {j : Nat} {w W : World} {b : Ed} (h : ArrMid B G n X R last j (sideV b false pcZ) w W) (p : Pce) (hBX : B ≠ X) (hXR : X ≠ R) (hX : w.heap.size ≤ X) :
    ArrMid B G n X R last j (sideV b true p) w ((((((W.setCell ⟨X, 3, none⟩ (.bool true)).setCell ⟨X, 4, none⟩ (.int .i64 p.at_)).setCell ⟨X, 5, none⟩ (.int .i64 p.long)).setCell ⟨X, 6, none⟩ (.int .i64 p.ed.at_)).setCell ⟨X, 7, none⟩ (.int .i64 p.ed.old)).setCell ⟨X, 8, none⟩ (.string p.ed.new)) := by
  obtain ⟨o, hb, ho⟩ := h.wk
  have oth : ∀ (V : World) (b i k : Nat) (v : Value), k ≠ b → (V.setCell ⟨b, i, none⟩ v).heap[k]? = V.heap[k]? := fun V b i k v hk => Below.heap_setCell _ _ _ _ hk
  refine ⟨⟨o, ?_, ho⟩, ?_, ?_, ?_⟩
  · rw [oth _ _ _ _ _ hBX, oth _ _ _ _ _ hBX, oth _ _ _ _ _ hBX, oth _ _ _ _ _ hBX, oth _ _ _ _ _ hBX, oth _ _ _ _ _ hBX]; exact hb
  · have hx := h.x
    unfold sideV at hx
    have := (heap_setCell_self (heap_setCell_self (heap_setCell_self (heap_setCell_self (heap_setCell_self (heap_setCell_self hx 3 (.bool true)) 4 (.int .i64 p.at_)) 5 (.int .i64 p.long)) 6 (.int .i64 p.ed.at_)) 7 (.int .i64 p.ed.old)) 8 (.string p.ed.new))
    simpa only [sideV, List.setIfInBounds_toArray, List.set_cons_succ, List.set_cons_zero] using this
  · rw [oth _ _ _ _ _ hXR.symm, oth _ _ _ _ _ hXR.symm, oth _ _ _ _ _ hXR.symm, oth _ _ _ _ _ hXR.symm, oth _ _ _ _ _ hXR.symm, oth _ _ _ _ _ hXR.symm]; exact h.r
  · exact (row_set (row_set (row_set (row_set (row_set (row_set h.gr X 3 _ (.inr hX)) X 4 _ (.inr hX)) X 5 _ (.inr hX)) X 6 _ (.inr hX)) X 7 _ (.inr hX)) X 8 _ (.inr hX))
theorem ArrMid.fin {B G n X R : Nat} {last : Pce} {j : Nat} {sv : Array Value} {w W : World} (h : ArrMid B G n X R last j sv w W) (b : Ed) (i : Bool) (p : Pce) (hBR : B ≠ R) (hR : w.heap.size ≤ R) :
    ((((((((((W.setCell ⟨R, 0, none⟩ (.int .i64 b.at_)).setCell ⟨R, 1, none⟩ (.int .i64 b.old)).setCell ⟨R, 2, none⟩ (.string b.new)).setCell ⟨R, 3, none⟩ (.bool i)).setCell ⟨R, 4, none⟩ (.int .i64 p.at_)).setCell ⟨R, 5, none⟩ (.int .i64 p.long)).setCell ⟨R, 6, none⟩ (.int .i64 p.ed.at_)).setCell ⟨R, 7, none⟩ (.int .i64 p.ed.old)).setCell ⟨R, 8, none⟩ (.string p.ed.new))).heap[R]? = some (.cells (sideV b i p) 110 (0, 0)) ∧ WkAt (((((((((W.setCell ⟨R, 0, none⟩ (.int .i64 b.at_)).setCell ⟨R, 1, none⟩ (.int .i64 b.old)).setCell ⟨R, 2, none⟩ (.string b.new)).setCell ⟨R, 3, none⟩ (.bool i)).setCell ⟨R, 4, none⟩ (.int .i64 p.at_)).setCell ⟨R, 5, none⟩ (.int .i64 p.long)).setCell ⟨R, 6, none⟩ (.int .i64 p.ed.at_)).setCell ⟨R, 7, none⟩ (.int .i64 p.ed.old)).setCell ⟨R, 8, none⟩ (.string p.ed.new)) B G n last j ∧ w.grownBy (((((((((W.setCell ⟨R, 0, none⟩ (.int .i64 b.at_)).setCell ⟨R, 1, none⟩ (.int .i64 b.old)).setCell ⟨R, 2, none⟩ (.string b.new)).setCell ⟨R, 3, none⟩ (.bool i)).setCell ⟨R, 4, none⟩ (.int .i64 p.at_)).setCell ⟨R, 5, none⟩ (.int .i64 p.long)).setCell ⟨R, 6, none⟩ (.int .i64 p.ed.at_)).setCell ⟨R, 7, none⟩ (.int .i64 p.ed.old)).setCell ⟨R, 8, none⟩ (.string p.ed.new)) (some B) := by
  obtain ⟨o, hb, ho⟩ := h.wk
  have oth : ∀ (V : World) (b i k : Nat) (v : Value), k ≠ b → (V.setCell ⟨b, i, none⟩ v).heap[k]? = V.heap[k]? := fun V b i k v hk => Below.heap_setCell _ _ _ _ hk
  refine ⟨?_, ⟨o, ?_, ho⟩, ?_⟩
  · have hr := h.r
    unfold sideV at hr
    have := (heap_setCell_self (heap_setCell_self (heap_setCell_self (heap_setCell_self (heap_setCell_self (heap_setCell_self (heap_setCell_self (heap_setCell_self (heap_setCell_self hr 0 (.int .i64 b.at_)) 1 (.int .i64 b.old)) 2 (.string b.new)) 3 (.bool i)) 4 (.int .i64 p.at_)) 5 (.int .i64 p.long)) 6 (.int .i64 p.ed.at_)) 7 (.int .i64 p.ed.old)) 8 (.string p.ed.new))
    simpa only [sideV, List.setIfInBounds_toArray, List.set_cons_succ, List.set_cons_zero] using this
  · rw [oth _ _ _ _ _ hBR, oth _ _ _ _ _ hBR, oth _ _ _ _ _ hBR, oth _ _ _ _ _ hBR, oth _ _ _ _ _ hBR, oth _ _ _ _ _ hBR, oth _ _ _ _ _ hBR, oth _ _ _ _ _ hBR, oth _ _ _ _ _ hBR]; exact hb
  · exact (row_set (row_set (row_set (row_set (row_set (row_set (row_set (row_set (row_set h.gr R 0 _ (.inr hR)) R 1 _ (.inr hR)) R 2 _ (.inr hR)) R 3 _ (.inr hR)) R 4 _ (.inr hR)) R 5 _ (.inr hR)) R 6 _ (.inr hR)) R 7 _ (.inr hR)) R 8 _ (.inr hR))

set_option maxHeartbeats 4000000 in
set_option maxRecDepth 100000 in
theorem arrive_any (B G : Nat) (ps : List Pce) (last : Pce) (j : Nat) (at_ : Int) (w : World) (_ : ps.length ≤ 100000) (_ : j ≤ ps.length) (hl : last.Ok) (hok : ∀ p ∈ ps, p.Ok) (hW : WkAt w B G ps.length last j) (hP : PcsAt w G ps) (_ : G ≠ B) :
    Calls Try.prog 86 #[.pointer (some ⟨B, 0, none⟩), .int .i64 at_] w
      (ArrPost B G ps.length (sideV (arrB ps j at_) (inP (arrP ps last j at_) at_) (lastP (arrP ps last j at_) at_)) (arrP ps last j at_) (arrJ ps j at_) w) := by
  obtain ⟨P, hPP⟩ : ∃ P, (ArrPost B G ps.length (sideV (arrB ps j at_) (inP (arrP ps last j at_) at_) (lastP (arrP ps last j at_) at_)) (arrP ps last j at_) (arrJ ps j at_) w) = P := ⟨_, rfl⟩
  rw [hPP]
  have HPP := Lib.hid hPP
  have hl' : (arrP ps last j at_).Ok := by
    unfold arrP; split
    · split
      · exact hok _ (List.getElem_mem _)
      · exact hl
    · exact hl
  obtain ⟨n, hnn⟩ : ∃ n, ps.length = n := ⟨_, rfl⟩
  have HN := Lib.hid hnn
  have HM0 : Hid (∀ L J b, arrP ps last j at_ = L → arrJ ps j at_ = J → arrB ps j at_ = b → P = ArrPost B G n (sideV b (inP L at_) (lastP L at_)) L J w) := Lib.hid (fun L J b h1 h2 h3 => by rw [← hPP, h1, h2, h3, hnn])
  obtain ⟨L', hL'⟩ : ∃ L, arrP ps last j at_ = L := ⟨_, rfl⟩
  obtain ⟨J', hJ'⟩ : ∃ L, arrJ ps j at_ = L := ⟨_, rfl⟩
  obtain ⟨b', hb'⟩ : ∃ L, arrB ps j at_ = L := ⟨_, rfl⟩
  rw [hL'] at hl'
  have HP := Lib.hid (HM0.out L' J' b' hL' hJ' hb')
  have HL := Lib.hid hL'
  have HJ := Lib.hid hJ'
  have HBb := Lib.hid hb'
  rw [hnn] at hW
  have HW := Lib.hid hW
  have HPc := Lib.hid hP
  have HOk := Lib.hid hok
  clear hPP HPP HM0 hL' hJ' hb' hW hP hok hnn
  go_enter Try.func86, Try.ntmps86
  go_upto_region 2 with (fail)
  have H0 : Hid (ArrMid B G n (w.heap.size + 1) w.heap.size last j (sideV edZ false pcZ) w ((w.alloc (.cells (sideV edZ false pcZ) 110)).alloc (.cells (sideV edZ false pcZ) 110))) := Lib.hid (by
    obtain ⟨off, hb, ho⟩ := HW.out
    have hlt := lt_of_block hb
    have g1 := World.grownBy_alloc w (.cells (sideV edZ false pcZ) 110) none
    have g2 := World.grownBy_alloc (w.alloc (.cells (sideV edZ false pcZ) 110)) (.cells (sideV edZ false pcZ) 110) none
    refine ⟨⟨off, grow_new (grownBy_trans g1 g2) hb, ho⟩, heap_new_at _ _ _ (by simp), grow_new g2 (heap_alloc_new _ _), ?_⟩
    have g := grownBy_trans g1 g2
    exact ⟨g.os, g.tape, g.output, g.size, fun k hk _ => g.block k hk (by simp)⟩)
  have hPc0 : PcsAt ((w.alloc (.cells (sideV edZ false pcZ) 110)).alloc (.cells (sideV edZ false pcZ) 110)) G ps := fun i h => by
    have g := grownBy_trans (World.grownBy_alloc w (.cells (sideV edZ false pcZ) 110) none) (World.grownBy_alloc (w.alloc (.cells (sideV edZ false pcZ) 110)) (.cells (sideV edZ false pcZ) 110) none)
    obtain ⟨c0, c1, c2, c3, c4⟩ := HPc.out i h
    exact ⟨g.cell c0 (by simp), g.cell c1 (by simp), g.cell c2 (by simp), g.cell c3 (by simp), g.cell c4 (by simp)⟩
  have hBX : B ≠ w.heap.size + 1 ∧ B ≠ w.heap.size := by
    obtain ⟨off, hb, ho⟩ := HW.out
    have hlt := lt_of_block hb
    omega
  have HPc := Lib.hid hPc0
  have hXR : w.heap.size + 1 ≠ w.heap.size := by omega
  have hXs : w.heap.size ≤ w.heap.size + 1 := by omega
  have hRs : w.heap.size ≤ w.heap.size := Nat.le_refl _
  change Code.wp _ _ _ _ ((w.alloc (.cells (sideV edZ false pcZ) 110)).alloc (.cells (sideV edZ false pcZ) 110))
  generalize (w.alloc (.cells (sideV edZ false pcZ) 110)).alloc (.cells (sideV edZ false pcZ) 110) = w1 at H0 HPc ⊢
  clear hPc0 HW
  obtain ⟨X, hX⟩ : ∃ X, w.heap.size + 1 = X := ⟨_, rfl⟩
  rw [hX] at H0 hBX hXR hXs ⊢
  clear hX
  obtain ⟨R, hR⟩ : ∃ X, w.heap.size = X := ⟨_, rfl⟩
  rw [hR] at H0 hBX hXR ⊢
  rw [hR] at hXs hRs
  have HS := Lib.hid (And.intro (show w.heap.size ≤ X by omega) (show w.heap.size ≤ R by omega))
  clear hR hXs hRs
  obtain ⟨hBX, hBR⟩ := hBX
  obtain ⟨tk, htk⟩ : ∃ c : Bool, c = decide (∃ h : j < ps.length, ps[j].at_ = at_) := ⟨_, rfl⟩
  have HTK := Lib.hid htk
  clear htk
  go_cut [22] (fun v22 wx => wx = w1 ∧ v22 = .bool tk)
  case first =>
    obtain ⟨off, hb, ho⟩ := H0.out.wk
    have b5 := cell_of_block hb 5
    simp only [List.getElem?_toArray, List.getElem?_cons_zero, List.getElem?_cons_succ] at b5
    clear hb
    by_cases hjl : j < n
    · obtain rfl := ho hjl
      have hjl' : j < ps.length := by rw [HN.out]; exact hjl
      obtain ⟨p0, _⟩ := HPc.out j hjl'
      have E := Lib.hid (show tk = decide (ps[j].at_ = at_) by rw [HTK.out]; exact decide_eq_decide.2 ⟨fun ⟨_, h⟩ => h, fun h => ⟨hjl', h⟩⟩)
      generalize ps[j].at_ = qa at p0 E
      obtain ⟨m, hm⟩ : ∃ m, n - j = m + 1 := ⟨n - j - 1, by omega⟩
      rw [hm] at b5
      clear hm ho
      by_cases hat : qa = at_
      · have hne : (qa == at_) = true := by simpa using hat
        go_wp2_with fail
        go_meet
        exact ⟨rfl, by rw [E.out]; simp [hat]⟩
      · have hne : (qa == at_) = false := by simpa using hat
        go_wp2_with fail
        go_meet
        exact ⟨rfl, by rw [E.out]; simp [hat]⟩
    · have hnj : n - j = 0 := by omega
      rw [hnj] at b5
      have E := Lib.hid (show tk = false by rw [HTK.out]; simp only [decide_eq_false_iff_not]; rintro ⟨h, _⟩; exact hjl (by rw [← HN.out]; exact h))
      clear ho
      go_wp2_with fail
      go_meet
      exact ⟨rfl, by rw [E.out]⟩
  case rest =>
  obtain ⟨rfl, rfl⟩ := hcut
  go_upto_if 22 with (fail)
  go_cut [] (fun wx => Hid (ArrMid B G n X R L' J' (sideV b' false pcZ) w wx))
  case first =>
    obtain ⟨off, hb, ho⟩ := H0.out.wk
    obtain ⟨la, ll, ea, eo, en⟩ := last
    simp only at hb
    cases tk with
    | true =>
      have hT : ∃ h : j < ps.length, ps[j].at_ = at_ := of_decide_eq_true HTK.out.symm
      obtain ⟨hjl', hat⟩ := hT
      have hjl : j < n := by rw [← HN.out]; exact hjl'
      obtain rfl := ho hjl
      obtain ⟨p0, p1, p2, p3, p4⟩ := HPc.out j hjl'
      have e0 : arrP ps ⟨la, ll, ⟨ea, eo, en⟩⟩ j at_ = ps[j] := by unfold arrP; rw [dif_pos hjl', if_pos hat]
      have e1 : arrJ ps j at_ = j + 1 := by unfold arrJ; rw [dif_pos hjl', if_pos hat]
      have e2 : arrB ps j at_ = ps[j].ed := by unfold arrB; rw [dif_pos hjl', if_pos hat]
      have E0 := Lib.hid (HL.out.symm.trans e0)
      have E1 := Lib.hid (HJ.out.symm.trans e1)
      have E2 := Lib.hid (HBb.out.symm.trans e2)
      clear e0 e1 e2 hat
      generalize ps[j] = q at p0 p1 p2 p3 p4 E0 E1 E2
      obtain ⟨qa, ql, qea, qeo, qen⟩ := q
      simp only at p0 p1 p2 p3 p4
      obtain ⟨m, hm⟩ : ∃ m, n - j = m + 1 := ⟨n - j - 1, by omega⟩
      rw [hm] at hb
      have HM := Lib.hid hm
      have b0 := cell_of_block hb 0
      have b1 := cell_of_block hb 1
      have b2 := cell_of_block hb 2
      have b3 := cell_of_block hb 3
      have b4 := cell_of_block hb 4
      have b5 := cell_of_block hb 5
      simp only [List.getElem?_toArray, List.getElem?_cons_zero, List.getElem?_cons_succ] at b0 b1 b2 b3 b4 b5
      have f0 := free_of_block hb 0
      have f1 := free_of_block hb 1
      have f2 := free_of_block hb 2
      have f3 := free_of_block hb 3
      have f4 := free_of_block hb 4
      have f5 := free_of_block hb 5
      have hx := H0.out.x
      simp only [sideV, edZ, pcZ] at hx
      have x0 := cell_of_block hx 0
      have x1 := cell_of_block hx 1
      have x2 := cell_of_block hx 2
      simp only [List.getElem?_toArray, List.getElem?_cons_zero, List.getElem?_cons_succ] at x0 x1 x2
      have y0 := free_of_block hx 0
      have y1 := free_of_block hx 1
      have y2 := free_of_block hx 2
      clear hb hm hx ho
      go_wp2_with fail
      all_goals
        go_meet
        rw [E0.out, E1.out, E2.out]
        refine Lib.hid (H0.out.took ⟨qa, ql, ⟨qea, qeo, qen⟩⟩ _ _ (by have := HM.out; omega) (fun h => by have := HM.out; omega) hBX hBR hXR HS.out.1)
    | false =>
      have hT : ¬ ∃ h : j < ps.length, ps[j].at_ = at_ := of_decide_eq_false HTK.out.symm
      have e0 : arrP ps ⟨la, ll, ⟨ea, eo, en⟩⟩ j at_ = ⟨la, ll, ⟨ea, eo, en⟩⟩ := by
        unfold arrP; split
        · rw [if_neg (fun h => hT ⟨by assumption, h⟩)]
        · rfl
      have e1 : arrJ ps j at_ = j := by
        unfold arrJ; split
        · rw [if_neg (fun h => hT ⟨by assumption, h⟩)]
        · rfl
      have e2 : arrB ps j at_ = edZ := by
        unfold arrB; split
        · rw [if_neg (fun h => hT ⟨by assumption, h⟩)]
        · rfl
      have E0 := Lib.hid (HL.out.symm.trans e0)
      have E1 := Lib.hid (HJ.out.symm.trans e1)
      have E2 := Lib.hid (HBb.out.symm.trans e2)
      clear e0 e1 e2 hb ho hT
      go_wp2_with fail
      go_meet
      rw [E0.out, E1.out, E2.out]
      exact H0
  case rest =>
  obtain ⟨w2, rfl⟩ : ∃ v : World, v = wc := ⟨_, rfl⟩
  have H1 := hcut
  clear H0 hcut HPc HL HJ HBb HN HOk
  obtain ⟨la, ll, ea, eo, en⟩ := L'
  obtain ⟨n1, n2, n3, n4⟩ := hl'
  simp only at n1 n2 n3 n4
  have hw : IntKind.i64.wrap (la + ll) = la + ll := IntWalk.i64_in _ (by omega)
  obtain ⟨off, hb, ho⟩ := H1.out.wk
  have hx := H1.out.x
  have hr := H1.out.r
  obtain ⟨ba, bo, bn⟩ := b'
  simp only [sideV, edZ, pcZ] at hb hx hr
  have b0 := cell_of_block hb 0
  have b1 := cell_of_block hb 1
  have b2 := cell_of_block hb 2
  have b3 := cell_of_block hb 3
  have b4 := cell_of_block hb 4
  simp only [List.getElem?_toArray, List.getElem?_cons_zero, List.getElem?_cons_succ] at b0 b1 b2 b3 b4
  have x0 := cell_of_block hx 0
  have x1 := cell_of_block hx 1
  have x2 := cell_of_block hx 2
  have x3 := cell_of_block hx 3
  have x4 := cell_of_block hx 4
  have x5 := cell_of_block hx 5
  have x6 := cell_of_block hx 6
  have x7 := cell_of_block hx 7
  have x8 := cell_of_block hx 8
  simp only [List.getElem?_toArray, List.getElem?_cons_zero, List.getElem?_cons_succ] at x0 x1 x2 x3 x4 x5 x6 x7 x8
  have fx0 := free_of_block hx 0
  have fx1 := free_of_block hx 1
  have fx2 := free_of_block hx 2
  have fx3 := free_of_block hx 3
  have fx4 := free_of_block hx 4
  have fx5 := free_of_block hx 5
  have fx6 := free_of_block hx 6
  have fx7 := free_of_block hx 7
  have fx8 := free_of_block hx 8
  have r0 := cell_of_block hr 0
  have r1 := cell_of_block hr 1
  have r2 := cell_of_block hr 2
  have r3 := cell_of_block hr 3
  have r4 := cell_of_block hr 4
  have r5 := cell_of_block hr 5
  have r6 := cell_of_block hr 6
  have r7 := cell_of_block hr 7
  have r8 := cell_of_block hr 8
  simp only [List.getElem?_toArray, List.getElem?_cons_zero, List.getElem?_cons_succ] at r0 r1 r2 r3 r4 r5 r6 r7 r8
  have fr0 := free_of_block hr 0
  have fr1 := free_of_block hr 1
  have fr2 := free_of_block hr 2
  have fr3 := free_of_block hr 3
  have fr4 := free_of_block hr 4
  have fr5 := free_of_block hr 5
  have fr6 := free_of_block hr 6
  have fr7 := free_of_block hr 7
  have fr8 := free_of_block hr 8
  clear hb hx hr
  by_cases hin : at_ < la + ll
  · have ht : decide (at_ < la + ll) = true := by simpa using hin
    go_wp2_with fail
    go_region
    go_wp2_with fail
    obtain ⟨hR, hWk, hG⟩ := (H1.out.inn ⟨la, ll, ⟨ea, eo, en⟩⟩ hBX hXR HS.out.1).fin ⟨ba, bo, bn⟩ true ⟨la, ll, ⟨ea, eo, en⟩⟩ hBR HS.out.2
    simp only [] at hR hWk hG ⊢
    generalize (World.setCell (World.setCell (World.setCell (World.setCell (World.setCell (World.setCell (World.setCell (World.setCell (World.setCell _ _ _) _ _) _ _) _ _) _ _) _ _) _ _) _ _) _ _) = wf at hR hWk hG ⊢
    unfold sideV at hR
    have k0 := cell_of_block hR 0
    have k1 := cell_of_block hR 1
    have k2 := cell_of_block hR 2
    have k3 := cell_of_block hR 3
    have k4 := cell_of_block hR 4
    have k5 := cell_of_block hR 5
    have k6 := cell_of_block hR 6
    have k7 := cell_of_block hR 7
    have k8 := cell_of_block hR 8
    simp only [List.getElem?_toArray, List.getElem?_cons_zero, List.getElem?_cons_succ] at k0 k1 k2 k3 k4 k5 k6 k7 k8
    rw [HP.out, show inP ⟨la, ll, ⟨ea, eo, en⟩⟩ at_ = true from ht, show lastP ⟨la, ll, ⟨ea, eo, en⟩⟩ at_ = ⟨la, ll, ⟨ea, eo, en⟩⟩ by unfold lastP; exact if_pos ht]
    exact bodyPost_ret (v := .agg (sideV ⟨ba, bo, bn⟩ true ⟨la, ll, ⟨ea, eo, en⟩⟩)) (by simp [results, Try.results86, go_sem, sideV, k0, k1, k2, k3, k4, k5, k6, k7, k8]) rfl ⟨rfl, hWk, ⟨hG.os, hG.tape, hG.output, hG.size, hG.block⟩⟩
  · have ht : decide (at_ < la + ll) = false := by simpa using hin
    go_wp2_with fail
    go_region
    go_wp2_with fail
    obtain ⟨hR, hWk, hG⟩ := H1.out.fin ⟨ba, bo, bn⟩ false pcZ hBR HS.out.2
    simp only [edZ, pcZ] at hR hWk hG ⊢
    generalize (World.setCell (World.setCell (World.setCell (World.setCell (World.setCell (World.setCell (World.setCell (World.setCell (World.setCell _ _ _) _ _) _ _) _ _) _ _) _ _) _ _) _ _) _ _) = wf at hR hWk hG ⊢
    unfold sideV at hR
    have k0 := cell_of_block hR 0
    have k1 := cell_of_block hR 1
    have k2 := cell_of_block hR 2
    have k3 := cell_of_block hR 3
    have k4 := cell_of_block hR 4
    have k5 := cell_of_block hR 5
    have k6 := cell_of_block hR 6
    have k7 := cell_of_block hR 7
    have k8 := cell_of_block hR 8
    simp only [List.getElem?_toArray, List.getElem?_cons_zero, List.getElem?_cons_succ] at k0 k1 k2 k3 k4 k5 k6 k7 k8
    rw [HP.out, show inP ⟨la, ll, ⟨ea, eo, en⟩⟩ at_ = false from ht, show lastP ⟨la, ll, ⟨ea, eo, en⟩⟩ at_ = pcZ by unfold lastP; rw [if_neg (by rw [show inP ⟨la, ll, ⟨ea, eo, en⟩⟩ at_ = false from ht]; simp)]]
    exact bodyPost_ret (v := .agg (sideV ⟨ba, bo, bn⟩ false pcZ)) (by simp [results, Try.results86, go_sem, sideV, pcZ, edZ, k0, k1, k2, k3, k4, k5, k6, k7, k8]) rfl ⟨rfl, hWk, ⟨hG.os, hG.tape, hG.output, hG.size, hG.block⟩⟩
end Go.Proofs.Ytajigndlcdiinaa
