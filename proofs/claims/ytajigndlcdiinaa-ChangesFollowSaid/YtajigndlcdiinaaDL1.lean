/- The law PlacesMoved, from what the package's functions do. -/
import Derived.Test.YtajigndlcdiinaaDP2
import Derived.Test.YtajigndlcdiinaaDA4
import Derived.Test.YtajigndlcdiinaaDA6
namespace Go.Proofs.Ytajigndlcdiinaa
open Go.RowKit

/-- edit.Moved is as the document says. -/
def MovedC : Prop := ∀ (n : Int) (a : Option Addr) (cap : Nat) (es : List Ed) (at_ : Int) (behind : Bool) (w : World), -1000000 ≤ n ∧ n ≤ 1000000 → -100000 ≤ at_ ∧ at_ ≤ 100000 → es.length ≤ 100000 → EdsSmall es → Eds w a es →
  Calls Try.prog 38 #[.int .i64 n, .slice a es.length cap, .int .i64 at_, .bool behind] w fun e w' => e = .returned (.tuple #[.int .i64 (movedV n es at_ behind), .int .i64 (movedE n es at_)]) ∧ w.grownBy w' none
def hullPE (s : ByteArray) (es : List Ed) : Ed := if changeFault s.size es ≠ 0 then ⟨0, 0, ⟨#[]⟩⟩ else hullE s es
def hullPB (s : ByteArray) (es : List Ed) : Bool := if changeFault s.size es ≠ 0 then false else hullB es
/-- edit.Hull is as the document says. -/
def HullC : Prop := ∀ (s : ByteArray) (a : Option Addr) (cap : Nat) (es : List Ed) (w : World), s.size ≤ 20000 → es.length ≤ 100000 → EdsSmall es → Eds w a es →
  Calls Try.prog 39 #[.string s, .slice a es.length cap] w fun e w' => e = .returned (.tuple #[.agg #[.int .i64 (hullPE s es).at_, .int .i64 (hullPE s es).old, .string (hullPE s es).new], .bool (hullPB s es), .int .i64 (changeFault s.size es)]) ∧ w.grownBy w' none
/-- edit.Apply makes axb of ab. -/
def EditedC : Prop := ∀ (w : World), Calls Try.prog 24 #[] w fun e w' => e = .returned (.bool true) ∧ w.grownBy w' none

theorem movedC : MovedC := fun n a cap es at_ behind w _ h2 h3 h4 h5 => moved_any n a cap es at_ behind w h2 h3 h4 h5
theorem hullC : HullC := fun s a cap es w h1 h2 h3 h4 => hullP_any s a cap es w h1 h2 h4 h3 (hullPE s es) (hullPB s es) (by
  by_cases h : changeFault s.size es ≠ 0
  · rw [if_pos h]; exact ⟨if_pos h, if_pos h⟩
  · rw [if_neg h]; exact ⟨if_neg h, if_neg h⟩)
theorem editedC : EditedC := edited_any

def LawPost (w : World) (e : Ending) (w' : World) : Prop := e = .returned (.bool true) ∧ w.grownBy w' none

theorem sto_none {b av cap xs w w' k} (h : Sto b av cap xs w w' k) {w0 : World} (g : w0.grownBy w none) (hb : w0.heap.size ≤ b) : w0.grownBy w' none :=
  ⟨h.grow.os.trans g.os, h.grow.tape.trans g.tape, h.grow.output.trans g.output, Nat.le_trans g.size h.grow.size, fun k hk hn =>
    (h.grow.block k (Nat.lt_of_lt_of_le hk g.size) (by simp; omega)).trans (g.block k hk hn)⟩

set_option maxHeartbeats 8000000 in
set_option maxRecDepth 100000 in
theorem placesMoved_any (HM : Hid MovedC) (HH : Hid HullC) (HD : Hid EditedC) (av : Option Addr) (cap : Nat) (xs : List Int) (w : World) (hx2 : xs.length ≤ 9223372036854775807)
    (hel : ∀ j, j < xs.length → ∃ bl off, av = some ⟨bl, off, none⟩ ∧ w.cell? ⟨bl, off + j, none⟩ = some (.int .i64 (xs.getD j 0))) :
    Calls Try.prog 6 #[.slice av xs.length cap] w (LawPost w) := by
  have S0 : Strm w.heap.size av cap xs (w.alloc (.cells #[.slice av xs.length cap, .int .i64 0] 25 /-t:hedgelayer/hgmake.Stream-/)) 0 := by
    refine ⟨heap_alloc_new w _, fun j hj => ?_⟩
    obtain ⟨bl, off, e, hc⟩ := hel j hj
    have := World.block_lt_of_cell? w _ hc
    exact ⟨bl, off, e, by simp at this; omega, World.grownBy.cell (World.grownBy_alloc w _ none) hc (by simp)⟩
  have G0 := World.grownBy_alloc w (.cells #[.slice av xs.length cap, .int .i64 0] 25 /-t:hedgelayer/hgmake.Stream-/) none
  clear hel
  go_enter Try.func6, Try.ntmps6
  go_wp2_with fail
  refine (letters_any 10 (by omega) (by omega) hx2 S0).mono ?_
  rintro e w1 ⟨rfl, T1⟩
  have r1 := rangev_bd xs 0 0 10
  have hsz := lettersTo_size xs (0 + 1) (rangev xs 0 0 10).toNat
  have G1 := sto_none T1 G0 (Nat.le_refl _)
  generalize lettersTo xs (0 + 1) (rangev xs 0 0 10).toNat = s at hsz ⊢
  obtain ⟨k1, hk1⟩ : ∃ k, k = 0 + 1 + (rangev xs 0 0 10).toNat := ⟨_, rfl⟩
  rw [← hk1] at T1
  have hk1b : k1 ≤ 11 := by omega
  have hsz2 : s.size ≤ 10 := by omega
  clear r1 hsz hk1 S0 G0
  go_wp2_with fail
  refine (change_any (s.size : Int) (by omega) (by omega) hx2 T1.strm).mono ?_
  rintro e w2 ⟨v, rfl, own, T2⟩
  obtain ⟨c1, c2, c3, c4⟩ := change_small xs k1 s.size (by omega)
  have G2 := sto_none T2 G1 (Nat.le_refl _)
  obtain ⟨k2, hk2⟩ : ∃ k, k = changeK xs k1 s.size := ⟨_, rfl⟩
  rw [← hk2] at T2 c3 c4
  have hk2b : k2 ≤ 40 := by omega
  generalize changeV xs k1 s.size = es at c1 c2 own
  have hsm := small_of es c1
  obtain ⟨a, cp, rfl, hE2, hab⟩ := eds_of_own own
  have hab2 : ∀ x, a = some x → some x.block ≠ some w.heap.size := fun x hx => by have := hab x hx; have := G1.size; have := T1.strm.lt; simp; omega
  clear own hab c1 hk2 c3 c4
  go_wp2_with fail
  refine (range_any (-1) ((s.size : Int) + 1) (by omega) (by omega) (by omega) hx2 T2.strm).mono ?_
  rintro e w3 ⟨rfl, T3⟩
  have r3 := rangev_bd xs k2 (-1) ((s.size : Int) + 1)
  have rk3 := rangek_le k2 (-1) ((s.size : Int) + 1)
  have G3 := sto_none T3 G2 (Nat.le_refl _)
  have hE3 := hE2.grown T3.grow hab2
  go_wp2_with fail
  refine (flip_any 2 (by omega) (by omega) hx2 T3.strm).mono ?_
  rintro e w4 ⟨rfl, T4⟩
  have G4 := sto_none T4 G3 (Nat.le_refl _)
  have hE4 := hE3.grown T4.grow hab2
  generalize rangev xs k2 (-1) ((s.size : Int) + 1) = at_ at r3 ⊢
  generalize flipv xs (rangek k2 (-1) ((s.size : Int) + 1)) 2 = beh
  have r4 : -1 ≤ at_ ∧ at_ ≤ (s.size : Int) + 1 := by omega
  clear r3 rk3 T1 T2 T3 T4 hE2 hE3 G1 G2 G3 hab2
  have HMv := HM.out s.size a cp es at_ beh w4 (by omega) (by omega) (by omega) hsm hE4
  have HHl : Hid (∀ W, w4.grownBy W none → Calls Try.prog 39 #[.string s, .slice a es.length cp] W fun e w' => e = .returned (.tuple #[.agg #[.int .i64 (hullPE s es).at_, .int .i64 (hullPE s es).old, .string (hullPE s es).new], .bool (hullPB s es), .int .i64 (changeFault s.size es)]) ∧ W.grownBy w' none) :=
    fun W g => HH.out s a cp es W (by omega) (by omega) hsm (hE4.grown g (by simp))
  have HCf : Hid (∀ W, w4.grownBy W none → Calls Try.prog 15 #[.int .i64 s.size, .slice a es.length cp] W fun e w' => e = .returned (.int .i64 (changeFault s.size es)) ∧ W.grownBy w' none) :=
    fun W g => changeFault_any s.size a cp es W (by omega) (hE4.grown g (by simp)) hsm
  by_cases hc : changeFault s.size es = 0
  · obtain ⟨_, _, _, qS, _, _⟩ := right_all hc
    have hok : EdsOk es := fun e he => by have := qS e he; omega
    have m3 : hullPE s es = hullE s es := if_neg (by simp [hc])
    have m4 : hullPB s es = hullB es := if_neg (by simp [hc])
    rw [m3, m4, hc] at HHl
    rw [hc] at HCf
    have HHu : Hid (∀ W, w4.grownBy W none → Calls Try.prog 42 #[.int .i64 s.size, .slice a es.length cp, .string s] W (HullPost (hullE s es) (hullB es) W)) :=
      fun W g => hullOf_any s a cp es W hc (hE4.grown g (by simp))
    clear m3 m4 qS
    generalize hullE s es = he at HHl HHu
    generalize hullB es = hb at HHl HHu
    obtain ⟨h1, h2, h3⟩ := he
    unfold HullPost at HHu
    simp only at HHl HHu
    by_cases a1 : at_ < 0
    · have m1 : movedE s.size es at_ = 1 := by unfold movedE; rw [if_neg (by omega), if_pos (by omega)]
      have m2 : movedV s.size es at_ beh = 0 := by unfold movedV; rw [m1]; exact if_pos (by omega)
      rw [m1, m2] at HMv
      have hMv := Lib.hid HMv
      clear m1 m2 HMv
      go_wp2_with fail
      refine hMv.out.mono ?_
      rintro e w5 ⟨rfl, g5⟩
      go_wp2_with fail
      refine (HHl.out w5 g5).mono ?_
      rintro e w6 ⟨rfl, g6⟩
      go_wp2_with fail
      refine (HCf.out _ (grow_alloc (grownBy_trans g5 g6) _)).mono ?_
      rintro e w7 ⟨rfl, g7⟩
      have bH := (g7.block _ (by simp) (by simp)).trans (heap_alloc_new w6 _)
      have hH := lt_of_block bH
      have G7 := grownBy_trans (grow_alloc (grownBy_trans g5 g6) _) g7
      clear g5 g6 g7
      go_wp2_with fail
      refine (when_any true 1 w7).mono ?_
      rintro e w8 ⟨rfl, rfl⟩
      go_wp2_with fail
      refine (errs_new [0, whenv true 1] w7 (by simp)).mono ?_
      rintro e w8 ⟨rfl, rfl⟩
      rw [show errsv [0, whenv true 1] = 1 by rfl]
      have G8 := grow_alloc G7 (.cells ([0, whenv true 1].map (Value.int .i64)).toArray 30 /-t:hedgelayer/api.Errno-/)
      obtain ⟨w9, hw9⟩ : ∃ w9, w9 = w7.alloc (.cells ([0, whenv true 1].map (Value.int .i64)).toArray 30 /-t:hedgelayer/api.Errno-/) := ⟨_, rfl⟩
      rw [← hw9] at G8 ⊢
      have bH9 : w9.heap[w6.heap.size]? = some (.cells #[.int .i64 h1, .int .i64 h2, .string h3] 47 /-t:hedgelayer/api.Edit-/ (0, 0)) := by rw [hw9]; exact (Below.heap_alloc _ _ _ hH).trans bH
      clear hw9
      have G9 := G8
      clear G8 G7 bH hH
      go_wp2_with fail
      refine (HHu.out _ (grow_alloc G9 _)).mono ?_
      rintro e w10 ⟨rfl, g10⟩
      have bW := (g10.block _ (by simp) (by simp)).trans (heap_alloc_new w9 _)
      have hH := lt_of_block bH9
      have bH := (g10.block _ (by simp; omega) (by simp)).trans ((Below.heap_alloc _ _ _ hH).trans bH9)
      have cH0 := cell_of_block bH 0
      have cH1 := cell_of_block bH 1
      have cH2 := cell_of_block bH 2
      simp only [List.getElem?_toArray, List.getElem?_cons_zero, List.getElem?_cons_succ] at cH0 cH1 cH2
      have cW0 := cell_of_block bW 0
      have cW1 := cell_of_block bW 1
      have cW2 := cell_of_block bW 2
      have fW0 := free_of_block bW 0
      have fW1 := free_of_block bW 1
      have fW2 := free_of_block bW 2
      simp only [List.getElem?_toArray, List.getElem?_cons_zero, List.getElem?_cons_succ] at cW0 cW1 cW2
      have hne : w9.heap.size ≠ w6.heap.size := by omega
      have hne2 : w6.heap.size ≠ w9.heap.size := by omega
      have G10 := grownBy_trans (grow_alloc G9 (.cells #[.int .i64 0, .int .i64 0, .string ⟨#[]⟩] 47 /-t:hedgelayer/api.Edit-/)) g10
      have hs9 : w.heap.size ≤ w9.heap.size := Nat.le_trans G4.size G9.size
      have G11 := grow_setCell (grow_setCell (grow_setCell (grownBy_trans G4 G10) ⟨w9.heap.size, 0, none⟩ (.int .i64 h1) hs9) ⟨w9.heap.size, 1, none⟩ (.int .i64 h2) hs9) ⟨w9.heap.size, 2, none⟩ (.string h3) hs9
      clear g10 G10 G9 bW bH bH9
      go_wp2_with fail
      refine (HD.out _).mono ?_
      rintro e w12 ⟨rfl, g12⟩
      go_wp2_with fail
      go_ret
      exact ⟨rfl, grownBy_trans G11 g12⟩
    · by_cases a2 : (s.size : Int) < at_
      · have m1 : movedE s.size es at_ = 1 := by unfold movedE; rw [if_neg (by omega), if_pos (by omega)]
        have m2 : movedV s.size es at_ beh = 0 := by unfold movedV; rw [m1]; exact if_pos (by omega)
        rw [m1, m2] at HMv
        have hMv := Lib.hid HMv
        clear m1 m2 HMv
        go_wp2_with fail
        refine hMv.out.mono ?_
        rintro e w5 ⟨rfl, g5⟩
        go_wp2_with fail
        refine (HHl.out w5 g5).mono ?_
        rintro e w6 ⟨rfl, g6⟩
        go_wp2_with fail
        refine (HCf.out _ (grow_alloc (grownBy_trans g5 g6) _)).mono ?_
        rintro e w7 ⟨rfl, g7⟩
        have bH := (g7.block _ (by simp) (by simp)).trans (heap_alloc_new w6 _)
        have hH := lt_of_block bH
        have G7 := grownBy_trans (grow_alloc (grownBy_trans g5 g6) _) g7
        clear g5 g6 g7
        go_wp2_with fail
        refine (when_any true 1 w7).mono ?_
        rintro e w8 ⟨rfl, rfl⟩
        go_wp2_with fail
        refine (errs_new [0, whenv true 1] w7 (by simp)).mono ?_
        rintro e w8 ⟨rfl, rfl⟩
        rw [show errsv [0, whenv true 1] = 1 by rfl]
        have G8 := grow_alloc G7 (.cells ([0, whenv true 1].map (Value.int .i64)).toArray 30 /-t:hedgelayer/api.Errno-/)
        obtain ⟨w9, hw9⟩ : ∃ w9, w9 = w7.alloc (.cells ([0, whenv true 1].map (Value.int .i64)).toArray 30 /-t:hedgelayer/api.Errno-/) := ⟨_, rfl⟩
        rw [← hw9] at G8 ⊢
        have bH9 : w9.heap[w6.heap.size]? = some (.cells #[.int .i64 h1, .int .i64 h2, .string h3] 47 /-t:hedgelayer/api.Edit-/ (0, 0)) := by rw [hw9]; exact (Below.heap_alloc _ _ _ hH).trans bH
        clear hw9
        have G9 := G8
        clear G8 G7 bH hH
        go_wp2_with fail
        refine (HHu.out _ (grow_alloc G9 _)).mono ?_
        rintro e w10 ⟨rfl, g10⟩
        have bW := (g10.block _ (by simp) (by simp)).trans (heap_alloc_new w9 _)
        have hH := lt_of_block bH9
        have bH := (g10.block _ (by simp; omega) (by simp)).trans ((Below.heap_alloc _ _ _ hH).trans bH9)
        have cH0 := cell_of_block bH 0
        have cH1 := cell_of_block bH 1
        have cH2 := cell_of_block bH 2
        simp only [List.getElem?_toArray, List.getElem?_cons_zero, List.getElem?_cons_succ] at cH0 cH1 cH2
        have cW0 := cell_of_block bW 0
        have cW1 := cell_of_block bW 1
        have cW2 := cell_of_block bW 2
        have fW0 := free_of_block bW 0
        have fW1 := free_of_block bW 1
        have fW2 := free_of_block bW 2
        simp only [List.getElem?_toArray, List.getElem?_cons_zero, List.getElem?_cons_succ] at cW0 cW1 cW2
        have hne : w9.heap.size ≠ w6.heap.size := by omega
        have hne2 : w6.heap.size ≠ w9.heap.size := by omega
        have G10 := grownBy_trans (grow_alloc G9 (.cells #[.int .i64 0, .int .i64 0, .string ⟨#[]⟩] 47 /-t:hedgelayer/api.Edit-/)) g10
        have hs9 : w.heap.size ≤ w9.heap.size := Nat.le_trans G4.size G9.size
        have G11 := grow_setCell (grow_setCell (grow_setCell (grownBy_trans G4 G10) ⟨w9.heap.size, 0, none⟩ (.int .i64 h1) hs9) ⟨w9.heap.size, 1, none⟩ (.int .i64 h2) hs9) ⟨w9.heap.size, 2, none⟩ (.string h3) hs9
        clear g10 G10 G9 bW bH bH9
        go_wp2_with fail
        refine (HD.out _).mono ?_
        rintro e w12 ⟨rfl, g12⟩
        go_wp2_with fail
        go_ret
        exact ⟨rfl, grownBy_trans G11 g12⟩
      · have m1 : movedE s.size es at_ = 0 := by unfold movedE; rw [if_neg (by omega), if_neg (by omega)]
        have m2 : movedV s.size es at_ beh = movedGo at_ beh 0 es := by unfold movedV; rw [m1]; exact if_neg (by omega)
        rw [m1, m2] at HMv
        have hMv := Lib.hid HMv
        clear m1 m2 HMv
        go_wp2_with fail
        refine hMv.out.mono ?_
        rintro e w5 ⟨rfl, g5⟩
        go_wp2_with fail
        refine (HHl.out w5 g5).mono ?_
        rintro e w6 ⟨rfl, g6⟩
        go_wp2_with fail
        refine (HCf.out _ (grow_alloc (grownBy_trans g5 g6) _)).mono ?_
        rintro e w7 ⟨rfl, g7⟩
        have bH := (g7.block _ (by simp) (by simp)).trans (heap_alloc_new w6 _)
        have hH := lt_of_block bH
        have G7 := grownBy_trans (grow_alloc (grownBy_trans g5 g6) _) g7
        clear g5 g6 g7
        go_wp2_with fail
        rw [show (decide (at_ < 0) || decide ((s.size : Int) < at_)) = false by simp; omega]
        refine (when_any false 1 w7).mono ?_
        rintro e w8 ⟨rfl, rfl⟩
        go_wp2_with fail
        refine (errs_new [0, whenv false 1] w7 (by simp)).mono ?_
        rintro e w8 ⟨rfl, rfl⟩
        rw [show errsv [0, whenv false 1] = 0 by rfl]
        have G8 := grow_alloc G7 (.cells ([0, whenv false 1].map (Value.int .i64)).toArray 30 /-t:hedgelayer/api.Errno-/)
        go_wp2_with fail
        refine (movedOf_any s.size a cp es at_ beh _ (by omega) (by omega) (hE4.grown G8 (by simp)) hok).mono ?_
        rintro e w9 ⟨rfl, g9⟩
        have bH9 := (g9.block _ (by simp; omega) (by simp)).trans ((Below.heap_alloc _ _ _ hH).trans bH)
        have G9 := grownBy_trans G8 g9
        clear G8 G7 bH hH
        go_wp2_with fail
        refine (HHu.out _ (grow_alloc G9 _)).mono ?_
        rintro e w10 ⟨rfl, g10⟩
        have bW := (g10.block _ (by simp) (by simp)).trans (heap_alloc_new w9 _)
        have hH := lt_of_block bH9
        have bH := (g10.block _ (by simp; omega) (by simp)).trans ((Below.heap_alloc _ _ _ hH).trans bH9)
        have cH0 := cell_of_block bH 0
        have cH1 := cell_of_block bH 1
        have cH2 := cell_of_block bH 2
        simp only [List.getElem?_toArray, List.getElem?_cons_zero, List.getElem?_cons_succ] at cH0 cH1 cH2
        have cW0 := cell_of_block bW 0
        have cW1 := cell_of_block bW 1
        have cW2 := cell_of_block bW 2
        have fW0 := free_of_block bW 0
        have fW1 := free_of_block bW 1
        have fW2 := free_of_block bW 2
        simp only [List.getElem?_toArray, List.getElem?_cons_zero, List.getElem?_cons_succ] at cW0 cW1 cW2
        have hne : w9.heap.size ≠ w6.heap.size := by omega
        have hne2 : w6.heap.size ≠ w9.heap.size := by omega
        have G10 := grownBy_trans (grow_alloc G9 (.cells #[.int .i64 0, .int .i64 0, .string ⟨#[]⟩] 47 /-t:hedgelayer/api.Edit-/)) g10
        have hs9 : w.heap.size ≤ w9.heap.size := Nat.le_trans G4.size G9.size
        have G11 := grow_setCell (grow_setCell (grow_setCell (grownBy_trans G4 G10) ⟨w9.heap.size, 0, none⟩ (.int .i64 h1) hs9) ⟨w9.heap.size, 1, none⟩ (.int .i64 h2) hs9) ⟨w9.heap.size, 2, none⟩ (.string h3) hs9
        clear g10 G10 G9 bW bH bH9
        go_wp2_with fail
        refine (HD.out _).mono ?_
        rintro e w12 ⟨rfl, g12⟩
        go_wp2_with fail
        go_ret
        exact ⟨rfl, grownBy_trans G11 g12⟩
  · have m1 : movedE s.size es at_ = changeFault s.size es := if_pos hc
    have m2 : movedV s.size es at_ beh = 0 := by unfold movedV; rw [m1]; exact if_pos hc
    have m3 : hullPE s es = ⟨0, 0, ⟨#[]⟩⟩ := if_pos hc
    have m4 : hullPB s es = false := if_pos hc
    rw [m1, m2] at HMv
    rw [m3, m4] at HHl
    have hMv := Lib.hid HMv
    clear m1 m2 m3 m4 HMv
    generalize changeFault s.size es = C at hc hMv HHl HCf
    have hcb : (C == 0) = false := by simp [hc]
    by_cases a1 : at_ < 0
    · go_wp2_with fail
      refine hMv.out.mono ?_
      rintro e w5 ⟨rfl, g5⟩
      go_wp2_with fail
      refine (HHl.out w5 g5).mono ?_
      rintro e w6 ⟨rfl, g6⟩
      go_wp2_with fail
      refine (HCf.out _ (grow_alloc (grownBy_trans g5 g6) _)).mono ?_
      rintro e w7 ⟨rfl, g7⟩
      have bH := (g7.block _ (by simp) (by simp)).trans (heap_alloc_new w6 _)
      have hH := lt_of_block bH
      have G7 := grownBy_trans (grow_alloc (grownBy_trans g5 g6) _) g7
      clear g5 g6 g7
      go_wp2_with fail
      refine (when_any true 1 w7).mono ?_
      rintro e w8 ⟨rfl, rfl⟩
      go_wp2_with fail
      refine (errs_new [C, whenv true 1] w7 (by simp)).mono ?_
      rintro e w8 ⟨rfl, rfl⟩
      rw [show errsv [C, whenv true 1] = C by simp [errsv, hc]]
      have G8 := grow_alloc G7 (.cells ([C, whenv true 1].map (Value.int .i64)).toArray 30 /-t:hedgelayer/api.Errno-/)
      have cH0 := cell_of_block bH 0
      have cH1 := cell_of_block bH 1
      have cH2 := cell_of_block bH 2
      simp only [List.getElem?_toArray, List.getElem?_cons_zero, List.getElem?_cons_succ] at cH0 cH1 cH2
      have hH1 : w6.heap.size ≠ w7.heap.size := by omega
      have hH2 : w6.heap.size ≠ w7.heap.size + 1 := by omega
      clear hc
      go_wp2_with fail
      refine (HD.out _).mono ?_
      rintro e w8 ⟨rfl, g8⟩
      go_wp2_with fail
      go_ret
      exact ⟨rfl, grownBy_trans (grow_alloc (grownBy_trans G4 G8) _) g8⟩
    · by_cases a2 : (s.size : Int) < at_
      · go_wp2_with fail
        refine hMv.out.mono ?_
        rintro e w5 ⟨rfl, g5⟩
        go_wp2_with fail
        refine (HHl.out w5 g5).mono ?_
        rintro e w6 ⟨rfl, g6⟩
        go_wp2_with fail
        refine (HCf.out _ (grow_alloc (grownBy_trans g5 g6) _)).mono ?_
        rintro e w7 ⟨rfl, g7⟩
        have bH := (g7.block _ (by simp) (by simp)).trans (heap_alloc_new w6 _)
        have hH := lt_of_block bH
        have G7 := grownBy_trans (grow_alloc (grownBy_trans g5 g6) _) g7
        clear g5 g6 g7
        go_wp2_with fail
        refine (when_any true 1 w7).mono ?_
        rintro e w8 ⟨rfl, rfl⟩
        go_wp2_with fail
        refine (errs_new [C, whenv true 1] w7 (by simp)).mono ?_
        rintro e w8 ⟨rfl, rfl⟩
        rw [show errsv [C, whenv true 1] = C by simp [errsv, hc]]
        have G8 := grow_alloc G7 (.cells ([C, whenv true 1].map (Value.int .i64)).toArray 30 /-t:hedgelayer/api.Errno-/)
        have cH0 := cell_of_block bH 0
        have cH1 := cell_of_block bH 1
        have cH2 := cell_of_block bH 2
        simp only [List.getElem?_toArray, List.getElem?_cons_zero, List.getElem?_cons_succ] at cH0 cH1 cH2
        have hH1 : w6.heap.size ≠ w7.heap.size := by omega
        have hH2 : w6.heap.size ≠ w7.heap.size + 1 := by omega
        clear hc
        go_wp2_with fail
        refine (HD.out _).mono ?_
        rintro e w8 ⟨rfl, g8⟩
        go_wp2_with fail
        go_ret
        exact ⟨rfl, grownBy_trans (grow_alloc (grownBy_trans G4 G8) _) g8⟩
      · go_wp2_with fail
        refine hMv.out.mono ?_
        rintro e w5 ⟨rfl, g5⟩
        go_wp2_with fail
        refine (HHl.out w5 g5).mono ?_
        rintro e w6 ⟨rfl, g6⟩
        go_wp2_with fail
        refine (HCf.out _ (grow_alloc (grownBy_trans g5 g6) _)).mono ?_
        rintro e w7 ⟨rfl, g7⟩
        have bH := (g7.block _ (by simp) (by simp)).trans (heap_alloc_new w6 _)
        have hH := lt_of_block bH
        have G7 := grownBy_trans (grow_alloc (grownBy_trans g5 g6) _) g7
        clear g5 g6 g7
        go_wp2_with fail
        rw [show (decide (at_ < 0) || decide ((s.size : Int) < at_)) = false by simp; omega]
        refine (when_any false 1 w7).mono ?_
        rintro e w8 ⟨rfl, rfl⟩
        go_wp2_with fail
        refine (errs_new [C, whenv false 1] w7 (by simp)).mono ?_
        rintro e w8 ⟨rfl, rfl⟩
        rw [show errsv [C, whenv false 1] = C by simp [errsv, hc]]
        have G8 := grow_alloc G7 (.cells ([C, whenv false 1].map (Value.int .i64)).toArray 30 /-t:hedgelayer/api.Errno-/)
        have cH0 := cell_of_block bH 0
        have cH1 := cell_of_block bH 1
        have cH2 := cell_of_block bH 2
        simp only [List.getElem?_toArray, List.getElem?_cons_zero, List.getElem?_cons_succ] at cH0 cH1 cH2
        have hH1 : w6.heap.size ≠ w7.heap.size := by omega
        have hH2 : w6.heap.size ≠ w7.heap.size + 1 := by omega
        clear hc
        go_wp2_with fail
        refine (HD.out _).mono ?_
        rintro e w8 ⟨rfl, g8⟩
        go_wp2_with fail
        go_ret
        exact ⟨rfl, grownBy_trans (grow_alloc (grownBy_trans G4 G8) _) g8⟩
end Go.Proofs.Ytajigndlcdiinaa
