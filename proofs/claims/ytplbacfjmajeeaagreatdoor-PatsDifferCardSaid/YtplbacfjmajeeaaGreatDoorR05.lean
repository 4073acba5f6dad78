/- A part of the proof of the statement on PatsDiffer: lex.(*machine).begin. lex.(*machine).newSet. lex.(*machine).behind: plain facts. lex.(*machine).behind: the walk. -/
import Derived.Test.YtplbacfjmajeeaaGreatDoorR04
import Derived.Deep.RegionHeld3
import Derived.Deep.DeepCutAuto
namespace Go.Proofs.YtplbacfjmajeeaaGreatDoor
open Go.RowKit

/-- the flags of some Args are set -/
def kidsSet (A : Nat → Bool) (o : Int) (ps : List Pt) (b : Nat) (γ : Bool) (i : Nat) : Nat → List Bool → List Bool
  | 0, B => B
  | k + 1, B => (kidsSet A o ps b γ i k B).set (i + 1 + sizes (ps.take k)) (chB A o ps b γ k)
theorem kidsSet_len (A : Nat → Bool) (o : Int) (ps : List Pt) (b : Nat) (γ : Bool) (i k : Nat) (B : List Bool) : (kidsSet A o ps b γ i k B).length = B.length := by
  induction k with
  | zero => rfl
  | succ k ih => simp [kidsSet, ih]
theorem thr_succ (A : Nat → Bool) (ps : List Pt) : ∀ (b : Nat) (β : Bool) (k : Nat) (hk : k < ps.length), thr A ps b β (k + 1) = (ps[k].dn A (b + leavesL (ps.take k)) || thr A ps b β k && ps[k].nul) := by
  induction ps with
  | nil => intro b β k hk; simp at hk
  | cons p ps ih =>
    intro b β k hk
    cases k with
    | zero =>
      have : ∀ x, thr A ps (b + p.leaves) x 0 = x := by intro x; cases ps <;> rfl
      simp [thr, leavesL, this]
    | succ k =>
      simp only [List.take_succ_cons, leavesL, List.getElem_cons_succ]
      rw [show thr A (p :: ps) b β (k + 1 + 1) = thr A ps (b + p.leaves) (p.dn A b || β && p.nul) (k + 1) from rfl, ih _ _ k (by simpa using hk)]
      simp [thr, Nat.add_assoc]
theorem thr_zero (A : Nat → Bool) (ps : List Pt) (b : Nat) (β : Bool) : thr A ps b β 0 = β := by cases ps <;> rfl

/-- What begin leaves alone. -/
def BegP (gb bo : Nat) (k : Nat) (_ : Option Obj) : Prop := k ≠ gb ∧ k ≠ bo
def BegPost (w : World) (gb bo P M : Nat) (B : List Bool) (i : Nat) (A : Nat → Bool) (q : Pt) (b : Nat) (γ : Bool) (e : Ending) (w' : World) : Prop :=
  e = .returned (.tuple #[]) ∧ BoolRow w' gb (if q.op = 1 then B else kidsSet A q.op q.args b γ i q.args.length B) ∧ OwnSet w' bo P (if q.op = 1 ∧ γ = true then M ||| 2 ^ b else M) ∧ Frm (BegP gb bo) w w'

theorem boolRow_kept {w w' : World} {g : Nat} {L : List Bool} {r : Option Nat} (h : BoolRow w g L) (hg : w.grownBy w' r) (hr : some g ≠ r) : BoolRow w' g L := by
  unfold BoolRow; rw [hg.block g (lt_of_block h) hr]; exact h
theorem OwnSet.drew {w : World} {b P A : Nat} (h : OwnSet w b P A) : OwnSet w.drew b P A := ⟨h.fits, h.blk⟩
theorem own_ne {w : World} {b P M g : Nat} {L : List Bool} (h : OwnSet w b P M) (hb : BoolRow w g L) : b ≠ g := blk_ne h.blk hb (by decide)

set_option maxHeartbeats 8000000 in
set_option maxRecDepth 100000 in
theorem begin_any (bm gn gr gd gb bo : Nat) (ps : List Pt) (C : Array Value) (B : List Bool) (A M i : Nat) (q : Pt) (b : Nat) (γ : Bool) (w : World) (hP : leavesL ps ≤ 64) (hN : sizes ps ≤ 100000) (hM : Mac w bm gn gr gd gb ps C)
    (hD : BoolRow w gd (dnsL (A.testBit ·) ps 0)) (hB : BoolRow w gb B) (hBl : B.length = sizes ps) (hne : gd ≠ gb) (hO : OwnSet w bo (leavesL ps) M) (NA : NodeAt (A.testBit ·) ps 0 0 i q b) (hγ : B[i]? = some γ) :
    Calls Tryz.prog 94 #[.pointer (some ⟨bm, 0, none⟩), .int .i64 i, .slice (some ⟨bo, 0, none⟩) (nw (leavesL ps)) (nw (leavesL ps))] w (BegPost w gb bo (leavesL ps) M B i (A.testBit ·) q b γ) := by
  obtain ⟨⟨cn, c0⟩, _, _, c6, c7⟩ := hM.cells
  obtain ⟨n0, n1, n2, n3⟩ := hM.node NA.node
  obtain ⟨o, l, h, qs⟩ := q
  have hsz := NA.size
  have hbh := NA.hi
  have cB := hB.cell hγ
  simp only [Pt.size, Pt.op] at n0 n1 n2 n3 hsz
  obtain ⟨E, hE⟩ : ∃ E, E = 0 + i + (1 + sizes qs) := ⟨_, rfl⟩
  rw [← hE] at n1
  have HE := Lib.hid hE
  have HB := Lib.hid hB
  have HD := Lib.hid hD
  have HM := Lib.hid hM
  have HO := Lib.hid hO
  have HNA := Lib.hid NA
  have HBl := Lib.hid hBl
  have Hg := Lib.hid hγ
  have hi0 : (0 : Int) ≤ (i : Int) := by omega
  have hi1 : (i : Int) < (sizes ps : Int) := by omega
  have e0 := World.new_ne w _ c0
  have e7 := World.new_ne w _ c7
  have en := World.new_ne w _ n0
  have eb := World.new_ne w _ cB
  clear hE hB hD hM hO NA hBl hγ c6
  go_enter Tryz.func94, Tryz.ntmps94
  go_wp2_with fail
  go_region_held3 (fun w' => w'.cell? ⟨bm, 0, none⟩ = some (.slice (some ⟨gn, 0, none⟩) (sizes ps) cn) ∧ w'.cell? ⟨bm, 262, none⟩ = some (.slice (some ⟨gb, 0, none⟩) (sizes ps) (sizes ps)) ∧ w'.cell? ⟨gn, i * 4, none⟩ = some (.int .i64 o) ∧ w'.cell? ⟨gn, i * 4 + 1, none⟩ = some (.int .i64 E) ∧ w'.cell? ⟨gn, i * 4 + 2, none⟩ = some (.bool (Pt.mk o l h qs).nul) ∧ w'.cell? ⟨gn, i * 4 + 3, none⟩ = some (.int .i64 b) ∧ w'.cell? ⟨gb, i, none⟩ = some (.bool γ)) (first | go_keep) (fail)
  have g1 : w.grownBy (w.alloc (.cells #[.int .i64 o, .int .i64 E, .bool (Pt.mk o l h qs).nul, .int .i64 b] 172)).drew none := grow_drew (World.grownBy_alloc w _ none)
  have hbx : (w.alloc (.cells #[.int .i64 o, .int .i64 E, .bool (Pt.mk o l h qs).nul, .int .i64 b] 172)).drew.heap[w.heap.size]? = some (.cells #[.int .i64 o, .int .i64 E, .bool (Pt.mk o l h qs).nul, .int .i64 b] 172 (0, 0)) := heap_alloc_new w _
  generalize (w.alloc (.cells #[.int .i64 o, .int .i64 E, .bool (Pt.mk o l h qs).nul, .int .i64 b] 172)).drew = w1 at g1 hbx ⊢
  have M1 := Lib.hid (HM.out.keep (g1.block _ (lt_of_block HM.out.blk) (by simp)) (by obtain ⟨_, h2, _⟩ := HM.out.nod; exact g1.block _ (lt_of_block h2) (by simp)) (by obtain ⟨_, h2, _⟩ := HM.out.roo; exact g1.block _ (lt_of_block h2) (by simp)))
  have B1 := Lib.hid (boolRow_kept HB.out g1 (by simp))
  have D1 := Lib.hid (boolRow_kept HD.out g1 (by simp))
  have O1 := Lib.hid (HO.out.grow g1 (by simp))
  obtain ⟨⟨cn1, d0⟩, _, _, d6, d7⟩ := M1.out.cells
  have cx0 := cell_of_block hbx 0
  have cx1 := cell_of_block hbx 1
  have cx3 := cell_of_block hbx 3
  simp only [List.getElem?_toArray, List.getElem?_cons_zero, List.getElem?_cons_succ] at cx0 cx1 cx3
  have HX := Lib.hid hbx
  clear c0 c7 n0 n1 n2 n3 cB e0 e7 en eb hbx
  by_cases o1 : o = 1
  · subst o1
    have hbl : b < leavesL ps := by have := hbh; simp [Pt.leaves] at this; omega
    have F1 : Frm (BegP gb bo) w w1 := Frm.of_grown g1 _
    cases γ
    · go_wp2_with fail
      go_end0
      exact ⟨rfl, by simpa [Pt.op] using B1.out, by simpa [Pt.op] using O1.out, F1⟩
    · go_wp2_with fail
      refine (add_any bo (leavesL ps) M b _ hP hbl O1.out).mono ?_
      rintro e w2 ⟨rfl, hO2, g2⟩
      go_wp2_with fail
      go_end0
      exact ⟨rfl, by simpa [Pt.op] using boolRow_kept B1.out g2 (by have := own_ne O1.out B1.out; simpa using fun e => this e.symm), by simpa [Pt.op] using hO2, F1.grown2 g2 (fun k hk => .inr (fun _ hp => by simp at hk; exact hp.2 hk.symm))⟩
  · have ob1 : (o == 1) = false := by simp [o1]
    have F1 : Frm (BegP gb bo) w w1 := Frm.of_grown g1 _
    have hgbo := own_ne O1.out B1.out
    by_cases o4 : o = 4
    · subst o4
      have hl1 : qs.length = 1 := by
        have hR := HNA.out.right
        cases hR with
        | mk _ _ _ _ _ hf _ _ => (simp [formB] at hf; omega)
      obtain ⟨r, rfl⟩ : ∃ r, qs = [r] := by
        match qs, hl1 with
        | [r], _ => exact ⟨r, rfl⟩
      have hkd := HNA.out.kidDone 0 (by simp [Pt.args])
      simp only [Pt.args, List.take_zero, sizes, leavesL, Nat.add_zero, List.getElem_cons_zero] at hkd
      have cd := D1.out.cell hkd
      have hrs := size_pos r
      simp only [sizes] at hsz
      have hi2 : i + 1 < sizes ps := by omega
      obtain ⟨y, hold⟩ : ∃ y, B[i + 1]? = some y := ⟨_, List.getElem?_eq_getElem (by rw [HBl.out]; exact hi2)⟩
      have cb := B1.out.cell hold
      have fb := B1.out.free (i + 1)
      have hch := Lib.hid (show chB (fun x => A.testBit x) 4 [r] b γ 0 = (γ || r.dn (fun x => A.testBit x) b) by simp [chB, dnO])
      generalize Pt.dn (fun x => A.testBit x) r b = x at cd hch
      clear hold hkd
      have hi3 : (i : Int) + 1 < (sizes ps : Int) := by omega
      cases γ
      all_goals
        go_wp2_with fail
        go_region
      all_goals
        go_wp2_with fail
        go_end0
        refine ⟨rfl, ?_, ?_, ?_⟩
        · simp only [Pt.op, Pt.args, kidsSet, List.length_cons, List.length_nil, List.take_zero, sizes, Nat.add_zero]
          rw [if_neg (by decide), hch.out]
          exact B1.out.set (i + 1) _
        · rw [if_neg (by simp [Pt.op])]
          exact (O1.out.grow (grow_cell (w := w1) (i + 1) _) (by simpa using hgbo)).drew
        · exact (F1.set2 _ _ (.inr (fun _ hp => hp.1 rfl))).drew
    · have ob4 : (o == 4) = false := by simp [o4]
      have hn1 := o1
      have hszq := len_sizes qs
      by_cases o3 : o = 3
      · have ob3 : (o == 3) = true := by simp [o3]
        have HC := Lib.hid (show ∀ k, chB (fun x => A.testBit x) o qs b γ k = γ from fun k => by simp [chB, o3])
        clear o1 o4 o3 cx1
        go_wp2_with fail
        go_loopw [8] (fun ag wr => ∃ k a : Nat, k ≤ qs.length ∧ Hid (a = i + 1 + sizes (qs.take k)) ∧ ag = .int .i64 a ∧ a ≤ 100000 ∧ BoolRow wr gb (kidsSet (fun x => A.testBit x) o qs b γ i k B) ∧ w1.grownBy wr (some gb)) (fun ag _ => E - (intOf ag).toNat)
        case atStart => exact ⟨0, i + 1, Nat.zero_le _, Lib.hid (by simp [sizes]), by go_num, by omega, B1.out, ⟨rfl, rfl, rfl, Nat.le_refl _, fun _ _ _ => rfl⟩⟩
        case round =>
          obtain ⟨k, a, hk, Ha, rfl, hab, hbr, hgr⟩ := hrel
          have Mr := M1.out.grown B1.out hgr
          have hbxr : wr.heap[w.heap.size]? = some (.cells #[.int .i64 o, .int .i64 E, .bool (Pt.mk o l h qs).nul, .int .i64 b] 172 (0, 0)) := by
            rw [hgr.block _ (lt_of_block HX.out) (by simpa using blk_ne HX.out B1.out (by decide))]; exact HX.out
          have Dr := boolRow_kept D1.out hgr (by simpa using hne)
          obtain ⟨⟨cn2, q0⟩, _, _, q6, q7⟩ := Mr.cells
          have cx1 := cell_of_block hbxr 1
          simp only [List.getElem?_toArray, List.getElem?_cons_zero, List.getElem?_cons_succ] at cx1
          have nb1 := blk_ne Mr.blk hbr (by decide)
          have nb2 : gn ≠ gb := by obtain ⟨_, h2, _⟩ := Mr.nod; exact blk_ne h2 hbr (by decide)
          have nb3 : w.heap.size ≠ gb := blk_ne hbxr hbr (by decide)
          by_cases hlt : k < qs.length
          · have hk1 := HNA.out.kid k hlt
            have hk2 := HNA.out.kidDone k hlt
            have hst := sizes_take qs k hlt
            have hst2 := sizes_take_le qs (k + 1)
            have hsp := size_pos qs[k]
            simp only [Pt.args] at hk1 hk2
            rw [← Ha.out] at hk1 hk2
            obtain ⟨m0, m1, m2, m3⟩ := Mr.node hk1
            have cdn := Dr.cell hk2
            simp only at m0 m1 m2 m3
            obtain ⟨a2, ha2⟩ : ∃ a2, a2 = 0 + a + qs[k].size := ⟨_, rfl⟩
            have ham : 0 + (i + 1 + sizes (qs.take k)) + qs[k].size = a2 := by rw [ha2, Ha.out]
            have Ha2 := Lib.hid (show a2 = i + 1 + sizes (qs.take (k + 1)) by have := Ha.out; omega)
            have hlt2 : a < E := by have := Ha.out; have := HE.out; omega
            have hlt3 : a < a2 := by omega
            have hlt4 : a2 ≤ E := by have := Ha2.out; have := HE.out; omega
            have hlt5 : a < sizes ps := by have := Ha.out; omega
            rw [← ha2] at m1
            obtain ⟨y0, hy0⟩ : ∃ y0, (kidsSet (fun x => A.testBit x) o qs b γ i k B)[a]? = some y0 := ⟨_, List.getElem?_eq_getElem (by rw [kidsSet_len, HBl.out]; exact hlt5)⟩
            have cba := hbr.cell hy0
            have fba := hbr.free a
            have s0 : ∀ u, (wr.setCell ⟨gb, a, none⟩ u).cell? ⟨bm, 0, none⟩ = _ := fun u => (grow_cell a u).cell q0 (by simpa using nb1)
            have s6 : ∀ u, (wr.setCell ⟨gb, a, none⟩ u).cell? ⟨bm, 261, none⟩ = _ := fun u => (grow_cell a u).cell q6 (by simpa using nb1)
            have s1 : ∀ u, (wr.setCell ⟨gb, a, none⟩ u).cell? ⟨gn, a * 4 + 1, none⟩ = _ := fun u => (grow_cell a u).cell m1 (by simpa using nb2)
            have s2 : ∀ u, (wr.setCell ⟨gb, a, none⟩ u).cell? ⟨gn, a * 4 + 2, none⟩ = _ := fun u => (grow_cell a u).cell m2 (by simpa using nb2)
            have sd : ∀ u, (wr.setCell ⟨gb, a, none⟩ u).cell? ⟨gd, a, none⟩ = _ := fun u => (grow_cell a u).cell cdn (by simpa using hne)
            have ha2b : a2 ≤ 100000 := by have := HE.out; omega
            have hset := Lib.hid hbr
            have hgrH := Lib.hid hgr
            clear hy0 hst hst2 hsp ham ha2 hk1 hk2 m0 m3 Mr Dr hbxr hbr hgr
            go_wp2_with fail
            go_roundw
            case rel =>
              refine ⟨k + 1, a2, by omega, Ha2, rfl, ha2b, ?_, grownBy_trans hgrH.out (grow_cell a _)⟩
              rw [kidsSet, HC.out, ← Ha.out]
              exact hset.out.set a _
            case measure => simp [intOf]; omega
          · obtain rfl : k = qs.length := by omega
            have HaE := Lib.hid (show a = E by have := Ha.out; have := HE.out; rw [List.take_length] at *; omega)
            have hge : ¬ a < E := by have := HaE.out; omega
            have hbrH := Lib.hid hbr
            have hgrH := Lib.hid hgr
            clear hbr hgr Mr Dr hbxr
            go_wp2_with fail
            go_end0
            refine ⟨rfl, ?_, ?_, F1.grown2 hgrH.out (fun k hk => .inr (fun _ hp => by simp at hk; exact hp.1 hk.symm))⟩
            · rw [if_neg (by simpa [Pt.op] using hn1)]
              exact hbrH.out
            · rw [if_neg (by simp [Pt.op]; intro h1; exact absurd h1 hn1)]
              exact O1.out.grow hgrH.out (by simpa using hgbo)
      · have ob3 : (o == 3) = false := by simp [o3]
        have o2 : o = 2 := by
          have hR := HNA.out.right
          cases hR with
          | mk _ _ _ _ ho _ _ _ => omega
        have ob2 : (o == 2) = true := by simp [o2]
        have HC := Lib.hid (show ∀ k, chB (fun x => A.testBit x) o qs b γ k = thr (fun x => A.testBit x) qs b γ k from fun k => by simp [chB, o2])
        clear o1 o4 o3 cx1 o2
        go_wp2_with fail
        go_loopw [7, 9] (fun bv ag wr => ∃ k a : Nat, k ≤ qs.length ∧ Hid (a = i + 1 + sizes (qs.take k)) ∧ ag = .int .i64 a ∧ bv = .bool (thr (fun x => A.testBit x) qs b γ k) ∧ a ≤ 100000 ∧ BoolRow wr gb (kidsSet (fun x => A.testBit x) o qs b γ i k B) ∧ w1.grownBy wr (some gb)) (fun _ ag _ => E - (intOf ag).toNat)
        case atStart => exact ⟨0, i + 1, Nat.zero_le _, Lib.hid (by simp [sizes]), by go_num, by rw [thr_zero], by omega, B1.out, ⟨rfl, rfl, rfl, Nat.le_refl _, fun _ _ _ => rfl⟩⟩
        case round =>
          obtain ⟨k, a, hk, Ha, rfl, rfl, hab, hbr, hgr⟩ := hrel
          have Mr := M1.out.grown B1.out hgr
          have hbxr : wr.heap[w.heap.size]? = some (.cells #[.int .i64 o, .int .i64 E, .bool (Pt.mk o l h qs).nul, .int .i64 b] 172 (0, 0)) := by
            rw [hgr.block _ (lt_of_block HX.out) (by simpa using blk_ne HX.out B1.out (by decide))]; exact HX.out
          have Dr := boolRow_kept D1.out hgr (by simpa using hne)
          obtain ⟨⟨cn2, q0⟩, _, _, q6, q7⟩ := Mr.cells
          have cx1 := cell_of_block hbxr 1
          simp only [List.getElem?_toArray, List.getElem?_cons_zero, List.getElem?_cons_succ] at cx1
          have nb1 := blk_ne Mr.blk hbr (by decide)
          have nb2 : gn ≠ gb := by obtain ⟨_, h2, _⟩ := Mr.nod; exact blk_ne h2 hbr (by decide)
          have nb3 : w.heap.size ≠ gb := blk_ne hbxr hbr (by decide)
          by_cases hlt : k < qs.length
          · have hk1 := HNA.out.kid k hlt
            have hk2 := HNA.out.kidDone k hlt
            have hst := sizes_take qs k hlt
            have hst2 := sizes_take_le qs (k + 1)
            have hsp := size_pos qs[k]
            simp only [Pt.args] at hk1 hk2
            rw [← Ha.out] at hk1 hk2
            obtain ⟨m0, m1, m2, m3⟩ := Mr.node hk1
            have cdn := Dr.cell hk2
            simp only at m0 m1 m2 m3
            obtain ⟨a2, ha2⟩ : ∃ a2, a2 = 0 + a + qs[k].size := ⟨_, rfl⟩
            have ham : 0 + (i + 1 + sizes (qs.take k)) + qs[k].size = a2 := by rw [ha2, Ha.out]
            have Ha2 := Lib.hid (show a2 = i + 1 + sizes (qs.take (k + 1)) by have := Ha.out; omega)
            have hlt2 : a < E := by have := Ha.out; have := HE.out; omega
            have hlt3 : a < a2 := by omega
            have hlt4 : a2 ≤ E := by have := Ha2.out; have := HE.out; omega
            have hlt5 : a < sizes ps := by have := Ha.out; omega
            rw [← ha2] at m1
            obtain ⟨y0, hy0⟩ : ∃ y0, (kidsSet (fun x => A.testBit x) o qs b γ i k B)[a]? = some y0 := ⟨_, List.getElem?_eq_getElem (by rw [kidsSet_len, HBl.out]; exact hlt5)⟩
            have cba := hbr.cell hy0
            have fba := hbr.free a
            have s0 : ∀ u, (wr.setCell ⟨gb, a, none⟩ u).cell? ⟨bm, 0, none⟩ = _ := fun u => (grow_cell a u).cell q0 (by simpa using nb1)
            have s6 : ∀ u, (wr.setCell ⟨gb, a, none⟩ u).cell? ⟨bm, 261, none⟩ = _ := fun u => (grow_cell a u).cell q6 (by simpa using nb1)
            have s1 : ∀ u, (wr.setCell ⟨gb, a, none⟩ u).cell? ⟨gn, a * 4 + 1, none⟩ = _ := fun u => (grow_cell a u).cell m1 (by simpa using nb2)
            have s2 : ∀ u, (wr.setCell ⟨gb, a, none⟩ u).cell? ⟨gn, a * 4 + 2, none⟩ = _ := fun u => (grow_cell a u).cell m2 (by simpa using nb2)
            have sd : ∀ u, (wr.setCell ⟨gb, a, none⟩ u).cell? ⟨gd, a, none⟩ = _ := fun u => (grow_cell a u).cell cdn (by simpa using hne)
            have ha2b : a2 ≤ 100000 := by have := HE.out; omega
            have hset := Lib.hid hbr
            have hgrH := Lib.hid hgr
            clear hy0 hst hst2 hsp ham ha2 hk1 hk2 m0 m3 Mr Dr hbxr hbr hgr
            have hth := Lib.hid (thr_succ (fun x => A.testBit x) qs b γ k hlt)
            have hcur := Lib.hid (HC.out k)
            generalize Pt.dn (fun x => A.testBit x) qs[k] (b + leavesL (List.take k qs)) = x at sd hth cdn
            generalize qs[k].nul = y at s2 hth m2
            generalize thr (fun x => A.testBit x) qs b γ k = t at hth hcur ⊢
            cases x <;> cases y <;> cases t
            all_goals
              go_wp2_with fail
              go_roundw
              case rel =>
                refine ⟨k + 1, a2, by omega, Ha2, rfl, by rw [hth.out]; rfl, ha2b, ?_, grownBy_trans hgrH.out (grow_cell a _)⟩
                rw [kidsSet, hcur.out, ← Ha.out]
                exact hset.out.set a _
              case measure => simp [intOf]; omega
          · obtain rfl : k = qs.length := by omega
            have HaE := Lib.hid (show a = E by have := Ha.out; have := HE.out; rw [List.take_length] at *; omega)
            have hge : ¬ a < E := by have := HaE.out; omega
            have hbrH := Lib.hid hbr
            have hgrH := Lib.hid hgr
            clear hbr hgr Mr Dr hbxr
            go_wp2_with fail
            go_end0
            refine ⟨rfl, ?_, ?_, F1.grown2 hgrH.out (fun k hk => .inr (fun _ hp => by simp at hk; exact hp.1 hk.symm))⟩
            · rw [if_neg (by simpa [Pt.op] using hn1)]
              exact hbrH.out
            · rw [if_neg (by simp [Pt.op]; intro h1; exact absurd h1 hn1)]
              exact O1.out.grow hgrH.out (by simpa using hgbo)
end Go.Proofs.YtplbacfjmajeeaaGreatDoor
namespace Go.Proofs.YtplbacfjmajeeaaGreatDoor
open Go.RowKit

theorem mk0 (w : World) : (Instr.makeSlice 141 (.int .i64 0) (.int .i64 0)).run Tryz.prog w = .ok (.slice (some ⟨w.heap.size, 0, none⟩) 0 0) (w.alloc (.cells #[] 181)) := by kernel_rfl
theorem mk1 (w : World) : (Instr.makeSlice 141 (.int .i64 1) (.int .i64 1)).run Tryz.prog w = .ok (.slice (some ⟨w.heap.size, 0, none⟩) 1 1) (w.alloc (.cells #[.int .u64 0] 181)) := by kernel_rfl

set_option maxHeartbeats 1000000 in
theorem newSet_any (bm P : Nat) (w : World) (hP : P ≤ 64) (hc : w.cell? ⟨bm, 2, none⟩ = some (.int .i64 P)) :
    Calls Tryz.prog 70 #[.pointer (some ⟨bm, 0, none⟩)] w fun e w' => e = .returned (.slice (some ⟨w.heap.size, 0, none⟩) (nw P) (nw P)) ∧ w.alloc (.cells (cellsS P 0) 181) = w' := by
  have k0 := mk0
  have k1 := mk1
  by_cases hz : P = 0
  · subst hz
    go_enter Tryz.func70, Tryz.ntmps70
    go_wp2_with fail
    go_ret
    exact ⟨rfl, rfl⟩
  · have e1 : ((P : Int) + 64 - 1) / 64 = 1 := by omega
    have hn := Lib.hid (show nw P = 1 by unfold nw; rw [if_neg hz])
    have hs := Lib.hid (show cellsS P 0 = #[.int .u64 0] by unfold cellsS; rw [if_neg hz]; rfl)
    have hp : (1 : Int) ≤ (P : Int) := by omega
    clear hz
    go_enter Tryz.func70, Tryz.ntmps70
    go_wp2_with fail
    go_ret
    exact ⟨by rw [hn.out]; rfl, by rw [hs.out]⟩
theorem ownSet_new (w : World) (P : Nat) : OwnSet (w.alloc (.cells (cellsS P 0) 181)) w.heap.size P 0 := ⟨Nat.pow_pos (by omega), heap_alloc_new w _⟩
end Go.Proofs.YtplbacfjmajeeaaGreatDoor
namespace Go.Proofs.YtplbacfjmajeeaaGreatDoor
open Go.RowKit

def rootsSet (start : Bool) (ps : List Pt) : Nat → List Bool → List Bool
  | 0, B => B
  | k + 1, B => (rootsSet start ps k B).set (sizes (ps.take k)) start
theorem rootsSet_len (start : Bool) (ps : List Pt) (k : Nat) (B : List Bool) : (rootsSet start ps k B).length = B.length := by
  induction k with
  | zero => rfl
  | succ k ih => simp [rootsSet, ih]
theorem rootsSet_get (start : Bool) (ps : List Pt) (B : List Bool) (hB : B.length = sizes ps) : ∀ (k : Nat), k ≤ ps.length → ∀ j, j < k → (rootsSet start ps k B)[sizes (ps.take j)]? = some start := by
  intro k
  induction k with
  | zero => intro _ j hj; omega
  | succ k ih =>
    intro hk j hj
    have hl := sizes_take_lt ps k (by omega)
    simp only [rootsSet]
    by_cases e : sizes (ps.take j) = sizes (ps.take k)
    · rw [e, List.getElem?_set_self (by rw [rootsSet_len]; omega)]
    · rw [List.getElem?_set_ne (by omega)]
      rcases Nat.lt_or_ge j k with h | h
      · exact ih (by omega) j h
      · exact absurd (by rw [show j = k by omega]) e

theorem set_same {F B : List Bool} {x y : Nat} {v : Bool} (hy : F[y]? = some v) (hl : y < B.length) (h : x = y ∨ B[x]? = F[x]?) : (B.set y v)[x]? = F[x]? := by
  by_cases e : y = x
  · subst e; rw [List.getElem?_set_self hl, hy]
  · rw [List.getElem?_set_ne e]
    rcases h with h | h
    · exact absurd h.symm e
    · exact h
/-- Flags that are as they must be at the nodes that have been told. -/
structure FlagsOk (A : Nat → Bool) (ps : List Pt) (F : List Bool) (i : Nat) (B : List Bool) : Prop where
  len : B.length = sizes ps
  roots : ∀ k, k < ps.length → B[sizes (ps.take k)]? = F[sizes (ps.take k)]?
  kids : ∀ j q b, j < i → NodeAt A ps 0 0 j q b → ∀ k, k < q.args.length → B[j + 1 + sizes (q.args.take k)]? = F[j + 1 + sizes (q.args.take k)]?
theorem FlagsOk.at_ {A : Nat → Bool} {ps : List Pt} {F : List Bool} {i : Nat} {B : List Bool} (h : FlagsOk A ps F i B) (hr : ∀ p ∈ ps, Right p) (hi : i < sizes ps) : B[i]? = F[i]? := by
  rcases (node_at A (sizes ps) ps 0 0 i (Nat.le_refl _) hr hi).2 with ⟨k, hk, e⟩ | ⟨j, q, b, k, hj, N, hk, e⟩
  · rw [e]; exact h.roots k hk
  · rw [e]; exact h.kids j q b hj N k hk
theorem kidsSet_same {A : Nat → Bool} {o : Int} {qs : List Pt} {b : Nat} {γ : Bool} {i : Nat} {F B : List Bool} (hF : ∀ k, k < qs.length → F[i + 1 + sizes (qs.take k)]? = some (chB A o qs b γ k)) (hl : B.length = F.length) : ∀ k, k ≤ qs.length →
    ∀ x, ((∃ j, j < k ∧ x = i + 1 + sizes (qs.take j)) ∨ B[x]? = F[x]?) → (kidsSet A o qs b γ i k B)[x]? = F[x]? := by
  intro k
  induction k with
  | zero => intro _ x hx; rcases hx with ⟨j, hj, _⟩ | hx; · omega
            · exact hx
  | succ k ih =>
    intro hk x hx
    simp only [kidsSet]
    have h1 := hF k (by omega)
    have h2 : i + 1 + sizes (qs.take k) < F.length := by
      rcases Nat.lt_or_ge (i + 1 + sizes (qs.take k)) F.length with h | h
      · exact h
      · rw [List.getElem?_eq_none h] at h1; cases h1
    refine set_same h1 (by rw [kidsSet_len, hl]; exact h2) ?_
    rcases hx with ⟨j, hj, e⟩ | hx
    · rcases Nat.lt_or_ge j k with h | h
      · exact .inr (ih (by omega) x (.inl ⟨j, h, e⟩))
      · left; rw [e, show j = k by omega]
    · exact .inr (ih (by omega) x (.inr hx))
theorem FlagsOk.step {A : Nat → Bool} {ps : List Pt} {F : List Bool} {i : Nat} {B : List Bool} (h : FlagsOk A ps F i B) (hF : F.length = sizes ps) {q : Pt} {b : Nat} {γ : Bool} (N : NodeAt A ps 0 0 i q b)
    (hk : ∀ k, k < q.args.length → F[i + 1 + sizes (q.args.take k)]? = some (chB A q.op q.args b γ k)) : FlagsOk A ps F (i + 1) (if q.op = 1 then B else kidsSet A q.op q.args b γ i q.args.length B) := by
  have hkey : ∀ x, ((∃ j, j < q.args.length ∧ x = i + 1 + sizes (q.args.take j)) ∨ B[x]? = F[x]?) → (if q.op = 1 then B else kidsSet A q.op q.args b γ i q.args.length B)[x]? = F[x]? := by
    intro x hx
    split
    · rename_i h1
      have : q.args = [] := by
        have hR := N.right
        cases hR with
        | mk o l h ps _ hf _ _ =>
          simp only [Pt.op] at h1
          simp [formB, h1] at hf
          simpa [Pt.args] using hf
      rcases hx with ⟨j, hj, _⟩ | hx
      · rw [this] at hj; simp at hj
      · exact hx
    · exact kidsSet_same hk (by rw [h.len, hF]) _ (Nat.le_refl _) x hx
  refine ⟨?_, fun k hk' => hkey _ (.inr (h.roots k hk')), fun j q' b' hj N' k hk' => ?_⟩
  · split
    · exact h.len
    · rw [kidsSet_len]; exact h.len
  · rcases Nat.lt_or_ge j i with hj2 | hj2
    · exact hkey _ (.inr (h.kids j q' b' hj2 N' k hk'))
    · have : j = i := by omega
      subst this
      obtain ⟨h1, h2⟩ := kid_same N N' k hk'
      exact hkey _ (.inl ⟨k, h1, by rw [h2]⟩)

theorem opens_take (ns : List Nd) (bs : List Bool) (i : Nat) (x : Nd) (β : Bool) (h1 : ns[i]? = some x) (h2 : bs[i]? = some β) : opens (ns.take (i + 1)) (bs.take (i + 1)) = opens (ns.take i) (bs.take i) ++ (if x.op = 1 ∧ β = true then [x.place] else []) := by
  have l1 : i < ns.length := by
    rcases Nat.lt_or_ge i ns.length with h | h
    · exact h
    · rw [List.getElem?_eq_none h] at h1; cases h1
  have l2 : i < bs.length := by
    rcases Nat.lt_or_ge i bs.length with h | h
    · exact h
    · rw [List.getElem?_eq_none h] at h2; cases h2
  rw [List.getElem?_eq_getElem l1] at h1
  rw [List.getElem?_eq_getElem l2] at h2
  simp only [Option.some.injEq] at h1 h2
  rw [List.take_succ_eq_append_getElem l1, List.take_succ_eq_append_getElem l2, h1, h2, opens_append _ _ _ _ (by rw [List.length_take, List.length_take]; omega)]
  simp [opens]
/-- the open places among some nodes, as a number -/
def openM (A : Nat → Bool) (ps : List Pt) (start : Bool) (i : Nat) : Nat := maskOf (opens ((nodesL ps 0 0).take i) ((bgsW A ps 0 (fun _ => start)).take i))
theorem openM_zero (A : Nat → Bool) (ps : List Pt) (start : Bool) : openM A ps start 0 = 0 := by simp [openM, opens, maskOf]
theorem openM_succ (A : Nat → Bool) (ps : List Pt) (start : Bool) (i : Nat) {q : Pt} {b : Nat} {γ : Bool} (N : NodeAt A ps 0 0 i q b) (hγ : (bgsW A ps 0 (fun _ => start))[i]? = some γ) :
    openM A ps start (i + 1) = if q.op = 1 ∧ γ = true then openM A ps start i ||| 2 ^ b else openM A ps start i := by
  unfold openM
  rw [opens_take _ _ i _ γ N.node hγ]
  simp only
  split
  · rw [maskOf_snoc]
  · simp
theorem openM_all (A : Nat → Bool) (ps : List Pt) (start : Bool) (hr : ∀ p ∈ ps, Right p) : openM A ps start (sizes ps) = maskOf (opnO A ps 0 start) := by
  unfold openM
  rw [List.take_of_length_le (by rw [nodesL_len]; exact Nat.le_refl _), List.take_of_length_le (by rw [bgsW_len]; exact Nat.le_refl _), opens_nodes A (sizes ps) ps 0 0 _ (Nat.le_refl _) hr, opnW_const]
end Go.Proofs.YtplbacfjmajeeaaGreatDoor
namespace Go.Proofs.YtplbacfjmajeeaaGreatDoor
open Go.RowKit

theorem info3 : (Tryz.prog.info? 3 /-t:int-/).map (fun i => (i.zero, i.size, i.bytes)) = some (some (.int .i64 0), 1, 8) := by kernel_rfl
def natCells (l : List Nat) : List Value := l.map fun k => .int .i64 (k : Nat)
/-- What behind leaves alone. -/
def BehP (gd gb : Nat) (k : Nat) (_ : Option Obj) : Prop := k ≠ gd ∧ k ≠ gb
def BehPost (w : World) (gd gb : Nat) (ps : List Pt) (A : Nat) (start : Bool) (e : Ending) (w' : World) : Prop :=
  ∃ bo fv, e = .returned (.tuple #[.slice (some ⟨bo, 0, none⟩) (nw (leavesL ps)) (nw (leavesL ps)), fv]) ∧ OwnSet w' bo (leavesL ps) (maskOf (opnO (A.testBit ·) ps 0 start)) ∧ w.heap.size ≤ bo
    ∧ w'.ownsRow w.heap.size 3 1 fv (fitsL (A.testBit ·) start ps 0 0).length (natCells (fitsL (A.testBit ·) start ps 0 0))
    ∧ (∃ D B, BoolRow w' gd D ∧ D.length = sizes ps ∧ BoolRow w' gb B ∧ B.length = sizes ps) ∧ Frm (BehP gd gb) w w'

theorem Mac.frm {w w' : World} {bm gn gr gd gb : Nat} {ps : List Pt} {C : Array Value} {P : Nat → Option Obj → Prop} (h : Mac w bm gn gr gd gb ps C) (F : Frm P w w') (h1 : ∀ o, P bm o) (h2 : ∀ o, P gn o) (h3 : ∀ o, P gr o) : Mac w' bm gn gr gd gb ps C := by
  obtain ⟨_, n2, _⟩ := h.nod
  obtain ⟨_, n3, _⟩ := h.roo
  exact h.keep (F.block _ (lt_of_block h.blk) (h1 _)) (F.block _ (lt_of_block n2) (h2 _)) (F.block _ (lt_of_block n3) (h3 _))
theorem Mac.apart {w : World} {bm gn gr gd gb g : Nat} {ps : List Pt} {C : Array Value} (h : Mac w bm gn gr gd gb ps C) {L : List Bool} (hb : BoolRow w g L) : bm ≠ g ∧ gn ≠ g ∧ gr ≠ g := by
  obtain ⟨_, h2, _⟩ := h.nod
  obtain ⟨_, h3, _⟩ := h.roo
  exact ⟨blk_ne h.blk hb (by decide), blk_ne h2 hb (by decide), blk_ne h3 hb (by decide)⟩
theorem Mac.apart2 {w : World} {bm gn gr gd gb g P M : Nat} {ps : List Pt} {C : Array Value} (h : Mac w bm gn gr gd gb ps C) (hb : OwnSet w g P M) : bm ≠ g ∧ gn ≠ g ∧ gr ≠ g := by
  obtain ⟨_, h2, _⟩ := h.nod
  obtain ⟨_, h3, _⟩ := h.roo
  exact ⟨blk_ne h.blk hb.blk (by decide), blk_ne h2 hb.blk (by decide), blk_ne h3 hb.blk (by decide)⟩

/-- Behind some of the patterns: those that fit. -/
def FitRel (wo : World) (A : Nat → Bool) (start : Bool) (ps : List Pt) (j : Nat) (fv : Value) (wz : World) : Prop :=
  wz.ownsRow wo.heap.size 3 1 fv (fitsL A start (ps.take j) 0 0).length (natCells (fitsL A start (ps.take j) 0 0)) ∧ wo.grownBy wz none
theorem FitRel.skip {wo wz : World} {A : Nat → Bool} {start : Bool} {ps : List Pt} {j : Nat} {fv : Value} (h : FitRel wo A start ps j fv wz) (hlt : j < ps.length) (hc : (ps[j].dn A (0 + leavesL (ps.take j)) || start && ps[j].nul) = false) : FitRel wo A start ps (j + 1) fv wz := by
  unfold FitRel at h ⊢
  rw [fitsL_take A start ps 0 0 j hlt, hc]
  simpa using h
theorem FitRel.push {wo wz w1 : World} {A : Nat → Bool} {start : Bool} {ps : List Pt} {j n : Nat} {fv fv' : Value} {o : Obj} (h : FitRel wo A start ps j fv wz) (hlt : j < ps.length) (hc : (ps[j].dn A (0 + leavesL (ps.take j)) || start && ps[j].nul) = true)
    (hn : n = (fitsL A start (ps.take j) 0 0).length + 1) (own : w1.ownsRow wo.heap.size 3 1 fv' n (natCells (fitsL A start (ps.take j) 0 0) ++ [.int .i64 j])) (g : (wz.alloc o).grownBy w1 fv.ownBlock) : FitRel wo A start ps (j + 1) fv' w1 := by
  subst hn
  unfold FitRel
  rw [fitsL_take A start ps 0 0 j hlt, hc]
  refine ⟨?_, grow_row (grow_alloc h.2 o) g (fun k hk => (h.1.lt k hk).1)⟩
  simpa [natCells] using own

set_option maxHeartbeats 8000000 in
set_option maxRecDepth 100000 in
theorem behind_any (bm gn gr gd gb : Nat) (ps : List Pt) (C : Array Value) (D B : List Bool) (v : Value) (A : Nat) (start : Bool) (w : World) (hP : leavesL ps ≤ 64) (hN : sizes ps ≤ 100000) (hr : ∀ p ∈ ps, Right p) (hM : Mac w bm gn gr gd gb ps C)
    (hD : BoolRow w gd D) (hDl : D.length = sizes ps) (hB : BoolRow w gb B) (hBl : B.length = sizes ps) (hne : gd ≠ gb) (hS : SetAt w v (leavesL ps) A) :
    Calls Tryz.prog 71 #[.pointer (some ⟨bm, 0, none⟩), v, .bool start] w (BehPost w gd gb ps A start) := by
  obtain ⟨i0, hi, hz0, hz1, hz2⟩ := info_parts info3
  have hlps := len_sizes ps
  have HBl := Lib.hid hBl
  have HS := Lib.hid hS
  have HM := Lib.hid hM
  have HD := Lib.hid hD
  have HB := Lib.hid hB
  have HDl := Lib.hid hDl
  obtain ⟨_, _, c2, _, _⟩ := hM.cells
  have HP2 := Lib.hid c2
  clear hBl hS hM hD hB hDl c2
  go_enter Tryz.func71, Tryz.ntmps71
  go_wp2_with fail
  refine (findDone_any bm gn gr gd gb ps C D v A _ hP hN hr HM.out HD.out HDl.out HS.out).mono ?_
  rintro e w1 ⟨rfl, hD1, g1⟩
  have nD := HM.out.apart HD.out
  have nB := HM.out.apart HB.out
  have F1 : Frm (BehP gd gb) w w1 := (Frm.refl _ w).grown2 g1 (fun k hk => .inr (fun _ hp => by simp at hk; exact hp.1 hk.symm))
  have M1 := HM.out.frm F1 (fun _ => ⟨nD.1, nB.1⟩) (fun _ => ⟨nD.2.1, nB.2.1⟩) (fun _ => ⟨nD.2.2, nB.2.2⟩)
  have B1 := boolRow_kept HB.out g1 (by simpa using fun e => hne e.symm)
  have HD1 := Lib.hid hD1
  have HF1 := Lib.hid F1
  have HM1 := Lib.hid M1
  have HB1 := Lib.hid B1
  obtain ⟨_, ⟨cr, c1⟩, _, _, _⟩ := M1.cells
  clear hD1 F1 M1 B1 g1
  go_wp2_with fail
  go_loopw [23] (fun i wr => ∃ j : Nat, j ≤ ps.length ∧ i = .int .i64 j ∧ BoolRow wr gb (rootsSet start ps j B) ∧ w1.grownBy wr (some gb)) (fun i _ => ps.length - (intOf i).toNat)
  case atStart => exact ⟨0, Nat.zero_le _, rfl, HB1.out, ⟨rfl, rfl, rfl, Nat.le_refl _, fun _ _ _ => rfl⟩⟩
  case round =>
    obtain ⟨j, hj, rfl, hb, hg⟩ := hrel
    have Mr := HM1.out.grown HB1.out hg
    obtain ⟨⟨cnr, d0⟩, _, d2, _, d7⟩ := Mr.cells
    by_cases hlt : j < ps.length
    · have cr := Mr.root hlt
      have hl := sizes_take_lt ps j hlt
      obtain ⟨y, hy⟩ : ∃ y, (rootsSet start ps j B)[sizes (ps.take j)]? = some y := ⟨_, List.getElem?_eq_getElem (by rw [rootsSet_len, HBl.out]; exact hl)⟩
      have cy := hb.cell hy
      have fy := hb.free (sizes (ps.take j))
      have hbH := Lib.hid hb
      have hgH := Lib.hid hg
      obtain ⟨z, hz⟩ : ∃ z, z = sizes (ps.take j) := ⟨_, rfl⟩
      have HZ := Lib.hid hz
      rw [← hz] at cr cy fy hl
      clear hb hg Mr hy hz
      go_wp2_with fail
      go_roundw
      case rel =>
        refine ⟨j + 1, by omega, by go_num, ?_, grownBy_trans hgH.out (grow_cell z _)⟩
        rw [rootsSet, ← HZ.out]
        exact hbH.out.set z _
      case measure => simp [intOf]; omega
    · obtain rfl : j = ps.length := by omega
      have hbH := Lib.hid hb
      have hgH := Lib.hid hg
      have HMr := Lib.hid Mr
      clear hb hg Mr
      go_wp2_with fail
      refine (newSet_any bm (leavesL ps) _ hP d2).mono ?_
      rintro e w2 ⟨rfl, rfl⟩
      have F2 : Frm (BehP gd gb) w (wr.alloc (.cells (cellsS (leavesL ps) 0) 181)) := (HF1.out.grown2 hgH.out (fun k hk => .inr (fun _ hp => by simp at hk; exact hp.2 hk.symm))).alloc _
      have O2 := ownSet_new wr (leavesL ps)
      have gA := World.grownBy_alloc wr (.cells (cellsS (leavesL ps) 0) 181) none
      have B2 := boolRow_kept hbH.out gA (by simp)
      have D2 := boolRow_kept (boolRow_kept HD1.out hgH.out (by simpa using hne)) gA (by simp)
      have M2 := HM.out.frm F2 (fun _ => ⟨nD.1, nB.1⟩) (fun _ => ⟨nD.2.1, nB.2.1⟩) (fun _ => ⟨nD.2.2, nB.2.2⟩)
      have hbo : w.heap.size ≤ wr.heap.size := by have := HF1.out.size; have := hgH.out.size; omega
      generalize hw2 : wr.alloc (.cells (cellsS (leavesL ps) 0) 181) = w2 at F2 O2 gA B2 D2 M2 ⊢
      generalize wr.heap.size = bo at O2 hbo ⊢
      obtain ⟨⟨cn2, d02⟩, _, _, _, _⟩ := M2.cells
      have HFl := Lib.hid (bgsW_len (A.testBit ·) ps 0 (fun _ => start))
      have nO := M2.apart2 O2
      have nOB := own_ne O2 B2
      have nOD := own_ne O2 D2
      have HF2 := Lib.hid F2
      have HO2 := Lib.hid O2
      have HB2 := Lib.hid B2
      have HD2 := Lib.hid D2
      have HM2 := Lib.hid M2
      clear F2 O2 B2 D2 M2 gA hw2
      go_wp2_with fail
      go_loopw [42] (fun i wq => ∃ (j : Nat) (Bj : List Bool), j ≤ sizes ps ∧ i = .int .i64 j ∧ FlagsOk (A.testBit ·) ps (bgsW (A.testBit ·) ps 0 (fun _ => start)) j Bj ∧ BoolRow wq gb Bj ∧ OwnSet wq bo (leavesL ps) (openM (A.testBit ·) ps start j) ∧ Frm (BegP gb bo) w2 wq) (fun i _ => sizes ps - (intOf i).toNat)
      case atStart =>
        refine ⟨0, _, Nat.zero_le _, rfl, ⟨by rw [rootsSet_len]; exact HBl.out, fun k hk => ?_, fun j q b hj => by omega⟩, HB2.out, by rw [openM_zero]; exact HO2.out, Frm.refl _ _⟩
        rw [rootsSet_get start ps B HBl.out _ (Nat.le_refl _) k hk, (root_at (A.testBit ·) ps 0 0 k hk).2.2]
      case round =>
        obtain ⟨j, Bj, hj, rfl, hfl, hb3, hO3, F3⟩ := hrel
        have M3 := HM2.out.frm F3 (fun _ => ⟨nB.1, nO.1⟩) (fun _ => ⟨nB.2.1, nO.2.1⟩) (fun _ => ⟨nB.2.2, nO.2.2⟩)
        have D3 : BoolRow _ gd _ := (F3.block _ (lt_of_block HD2.out) ⟨hne, fun e => nOD e.symm⟩).trans HD2.out
        by_cases hlt : j < sizes ps
        · obtain ⟨⟨q, b, N⟩, _⟩ := node_at (A.testBit ·) (sizes ps) ps 0 0 j (Nat.le_refl _) hr hlt
          obtain ⟨γ, hγ, hkd⟩ := N.begun (fun _ => start)
          have hBγ := (hfl.at_ hr hlt).trans hγ
          have HC := Lib.hid (begin_any bm gn gr gd gb bo ps C Bj A _ j q b γ _ hP hN M3 D3 hb3 hfl.len hne hO3 N hBγ)
          have HFS := Lib.hid (hfl.step HFl.out N hkd)
          have HOM := Lib.hid (openM_succ (A.testBit ·) ps start j N hγ)
          have HF3 := Lib.hid F3
          clear M3 D3 hb3 hfl hO3 F3 N hγ hkd hBγ
          go_wp2_with fail
          refine HC.out.mono ?_
          rintro e w4 ⟨rfl, hb4, hO4, F4⟩
          have Hb4 := Lib.hid hb4
          have HO4 := Lib.hid hO4
          have HF4 := Lib.hid (HF3.out.trans F4)
          clear hb4 hO4 F4 HC
          go_wp2_with fail
          go_roundw
          case rel => exact ⟨j + 1, _, by omega, by go_num, HFS.out, Hb4.out, by rw [HOM.out]; exact HO4.out, HF4.out⟩
          case measure => simp [intOf]; omega
        · obtain rfl : j = sizes ps := by omega
          have HOM := Lib.hid (openM_all (A.testBit ·) ps start hr)
          have HFl3 := Lib.hid hfl
          have HB3 := Lib.hid hb3
          have HO3 := Lib.hid hO3
          have HF3 := Lib.hid F3
          have HD3 := Lib.hid D3
          have HM3 := Lib.hid M3
          obtain ⟨⟨cn3, d3⟩, ⟨cr3, c3⟩, _, d63, _⟩ := M3.cells
          clear hfl hb3 hO3 F3 D3 M3
          go_wp2_with fail
          obtain ⟨wo, rfl⟩ : ∃ wo : World, wo = wr := ⟨_, rfl⟩
          go_loopw [12, 55] (fun fv i wz => ∃ j : Nat, j ≤ ps.length ∧ i = .int .i64 j ∧ FitRel wo (A.testBit ·) start ps j fv wz) (fun _ i _ => ps.length - (intOf i).toNat)
          case atStart => exact ⟨0, Nat.zero_le _, rfl, World.ownsRow_nil _ _ _ _, grow_self _⟩
          case round =>
            obtain ⟨j, hj, rfl, hfr⟩ := hrel
            have hg := hfr.2
            have Mz := HM3.out.frm (Frm.of_grown hg (fun _ _ => True)) (fun _ => trivial) (fun _ => trivial) (fun _ => trivial)
            have Dz := boolRow_kept HD3.out hg (by simp)
            by_cases hlt : j < ps.length
            · obtain ⟨r1, r2, _⟩ := root_at (A.testBit ·) ps 0 0 j hlt
              have hl := sizes_take_lt ps j hlt
              have hle := fitsL_le (A.testBit ·) start (ps.take j) 0 0
              rw [List.length_take] at hle
              obtain ⟨z, hz⟩ : ∃ z, z = sizes (ps.take j) := ⟨_, rfl⟩
              have cr4 := Mz.root hlt
              rw [← hz] at r1 r2 hl cr4
              obtain ⟨_, _, m2, _⟩ := Mz.node r1
              have cd := Dz.cell r2
              obtain ⟨⟨cn4, d4⟩, _, _, d64, _⟩ := Mz.cells
              simp only at m2
              have hsz := hg.size
              have HSK := Lib.hid (hfr.skip hlt)
              have HFR := Lib.hid hfr
              have hown := hfr.1
              obtain ⟨fa, fc, rfl⟩ := ownsRow_slice hown
              generalize hx : Pt.dn (fun x => A.testBit x) ps[j] (0 + leavesL (List.take j ps)) = x at cd
              generalize hy : ps[j].nul = y at m2
              have HXX := Lib.hid hx
              have HYY := Lib.hid hy
              clear hz r1 r2 Mz Dz hg hfr hx hy
              cases x
              · cases start
                · have HR := Lib.hid (HSK.out (by rw [HXX.out]; rfl))
                  go_wp2_with fail
                  go_roundw
                  case rel => exact ⟨j + 1, by omega, by go_num, HR.out⟩
                  case measure => simp [intOf]; omega
                · cases y
                  · have HR := Lib.hid (HSK.out (by rw [HXX.out, HYY.out]; rfl))
                    go_wp2_with fail
                    go_roundw
                    case rel => exact ⟨j + 1, by omega, by go_num, HR.out⟩
                    case measure => simp [intOf]; omega
                  · have HC := Lib.hid (show (ps[j].dn (fun x => A.testBit x) (0 + leavesL (ps.take j)) || true && ps[j].nul) = true by rw [HXX.out, HYY.out]; rfl)
                    go_wp2_with (at_builtin; refine wpList_append_own _ rfl _ _ 22 rfl wo.heap.size 3 i0 (.int .i64 0) 1 8 Tryz.underlying22 hi hz0 hz1 hz2 rfl (by decide) _ _ _ rfl (hown.alloc _) ⟨wr.heap.size, 0, none⟩ 1 1 [.int .i64 (j : Int)] rfl rfl (cells_new _ _ _) (fun x hx => by simp at hx; subst hx; rfl) (by unfold maxLen; omega) (by omega) (by simp; omega) ?_; intro v' w1 hown' hgrow _; have HR := Lib.hid (HFR.out.push hlt HC.out rfl hown' hgrow); clear hown' hgrow)
                    go_roundw
                    case rel => exact ⟨j + 1, by omega, by go_num, HR.out⟩
                    case measure => simp [intOf]; omega
              · have HC := Lib.hid (show (ps[j].dn (fun x => A.testBit x) (0 + leavesL (ps.take j)) || start && ps[j].nul) = true by rw [HXX.out]; rfl)
                go_wp2_with (at_builtin; refine wpList_append_own _ rfl _ _ 22 rfl wo.heap.size 3 i0 (.int .i64 0) 1 8 Tryz.underlying22 hi hz0 hz1 hz2 rfl (by decide) _ _ _ rfl (hown.alloc _) ⟨wr.heap.size, 0, none⟩ 1 1 [.int .i64 (j : Int)] rfl rfl (cells_new _ _ _) (fun x hx => by simp at hx; subst hx; rfl) (by unfold maxLen; omega) (by omega) (by simp; omega) ?_; intro v' w1 hown' hgrow _; have HR := Lib.hid (HFR.out.push hlt HC.out rfl hown' hgrow); clear hown' hgrow)
                go_roundw
                case rel => exact ⟨j + 1, by omega, by go_num, HR.out⟩
                case measure => simp [intOf]; omega
            · obtain rfl : j = ps.length := by omega
              have HFR := Lib.hid hfr
              have HG := Lib.hid hg
              clear hfr hg Mz Dz
              go_wp2_with fail
              go_ret2
              refine ⟨bo, _, rfl, ?_, hbo, ?_, ?_, ?_⟩
              · rw [← HOM.out]; exact HO3.out.grow HG.out (by simp)
              · have := HFR.out.1
                rw [List.take_length] at this
                exact ownsRow_base this (Nat.le_trans HF2.out.size HF3.out.size)
              · exact ⟨_, _, boolRow_kept HD3.out HG.out (by simp), dnsL_len _ _ _, boolRow_kept HB3.out HG.out (by simp), HFl3.out.len⟩
              · refine ⟨HG.out.os.trans (HF3.out.os.trans HF2.out.os), HG.out.tape.trans (HF3.out.tape.trans HF2.out.tape), HG.out.output.trans (HF3.out.output.trans HF2.out.output), Nat.le_trans HF2.out.size (Nat.le_trans HF3.out.size HG.out.size), fun k hk hp => ?_⟩
                have e1 := HF2.out.block k hk hp
                have e2 := HF3.out.block k (Nat.lt_of_lt_of_le hk HF2.out.size) ⟨hp.2, by omega⟩
                have e3 := HG.out.block k (Nat.lt_of_lt_of_le hk (Nat.le_trans HF2.out.size HF3.out.size)) (by simp)
                exact e3.trans (e2.trans e1)
end Go.Proofs.YtplbacfjmajeeaaGreatDoor
