/- strings.Builder: copyCheck, WriteByte, String. -/
import Derived.Test.YtajigndlcdiinaaDQ1
import Derived.Lib.Builder
import Derived.Lib.UnsafeStr
import Derived.Laws.Externs
namespace Go.Proofs.Ytajigndlcdiinaa
open Go.RowKit

theorem sizeBuilder : (Try.prog.info? 82 /-t:strings.Builder-/).map (·.size) = some 2 := by kernel_rfl
theorem liesBuilder : liesAt Try.prog Try.prog.depth 82 /-t:strings.Builder-/ (2 / Try.prog.cellsOf 82 /-t:strings.Builder-/) 0 82 /-t:strings.Builder-/ 1 = true := by kernel_rfl
theorem infoByte : (Try.prog.info? 5 /-t:uint8-/).map (fun i => (i.zero, i.size, i.bytes)) = some (some (.int .u8 0), 1, 1) := by kernel_rfl

set_option maxHeartbeats 1000000 in
set_option maxRecDepth 100000 in
theorem copyCheck_used (b : Nat) (w : World) (h0 : w.cell? ⟨b, 0, none⟩ = some (.pointer (some ⟨b, 0, none⟩))) :
    Calls Try.prog 80 #[.pointer (some ⟨b, 0, none⟩)] w fun e w' => e = .returned (.tuple #[]) ∧ w = w' := by
  obtain ⟨j, hj, _⟩ := Option.map_eq_some_iff.1 sizeBuilder
  go_enter Try.func80, Try.ntmps80
  go_wp2
  rw [Lib.run_neq_ptr_same w _ Try.underlying79 /-t:*strings.Builder-/ hj]
  go_wp2
  go_end0
  exact ⟨rfl, rfl⟩

set_option maxHeartbeats 1000000 in
set_option maxRecDepth 100000 in
theorem copyCheck_fresh (b : Nat) (w : World) (h0 : w.cell? ⟨b, 0, none⟩ = some (.pointer none)) (hsh : w.shape? b = some (82 /-t:strings.Builder-/, 2)) (hfz : w.frozen? ⟨b, 0, none⟩ = false) :
    Calls Try.prog 80 #[.pointer (some ⟨b, 0, none⟩)] w fun e w' => e = .returned (.tuple #[]) ∧ w.setCell ⟨b, 0, none⟩ (.pointer (some ⟨b, 0, none⟩)) = w' := by
  obtain ⟨j, hj, hjs⟩ := Option.map_eq_some_iff.1 sizeBuilder
  go_enter Try.func80, Try.ntmps80
  go_wp2
  rw [Lib.run_to_unsafe w ⟨b, 0, none⟩ Try.underlying79 /-t:*strings.Builder-/ Try.underlying138 /-t:unsafe.Pointer-/ hj (by rw [hjs]; decide) hsh (Nat.zero_lt_succ 1)]
  simp only [Result.andThen]
  rw [Oper.upon_value]
  go_wp2
  rw [run_callFunc_extern Try.func94 (by kernel_rfl) (by kernel_rfl) (by kernel_rfl) (e := Extern.AbiNoEscape.same) (by kernel_rfl)]
  rw [Lib.run_noEscape]
  simp only [Result.andThen]
  rw [Oper.upon_value]
  go_wp2
  rw [Lib.run_from_unsafe w ⟨b, 0, none⟩ Try.underlying138 /-t:unsafe.Pointer-/ Try.underlying79 /-t:*strings.Builder-/ hj hsh liesBuilder]
  simp only [Result.andThen]
  rw [Oper.upon_value]
  go_wp2
  go_end0
  exact ⟨rfl, rfl⟩

/-- A builder in block b, whose row is one from block B on. -/
abbrev Bld (B b : Nat) (l : List UInt8) (w : World) : Prop := Lib.IsBuilder 82 /-t:strings.Builder-/ 5 /-t:uint8-/ B b (Lib.byteCells l) w
abbrev BldU (B b : Nat) (l : List UInt8) (w : World) : Prop := Lib.BuilderAt 82 /-t:strings.Builder-/ 5 /-t:uint8-/ B b (.pointer (some ⟨b, 0, none⟩)) (Lib.byteCells l) w
/-- What is left alone while a builder is written. -/
def BldP (B b k : Nat) (o : Option Obj) : Prop := k ≠ b ∧ (k < B ∨ ∀ c fr, o ≠ some (.cells c 5 /-t:uint8-/ fr))

theorem bld_frm {B b : Nat} {w1 w2 : World} {v : Value} {n : Nat} {bs : List Value} (hown : w1.ownsRow B 5 /-t:uint8-/ 1 v n bs) (o : Obj) (g : (w1.alloc o).grownBy w2 v.ownBlock) : Frm (BldP B b) w1 w2 := by
  refine ((Frm.refl _ w1).alloc o).grown g (fun k hk hp => ?_)
  obtain ⟨hB, c, hc⟩ := ownsRow_block (hown.alloc o) k hk
  rcases hp.2 with h | h
  · omega
  · exact h _ _ hc

theorem copyCheck_any (B b : Nat) (bs : List Value) (w : World) (h : Lib.IsBuilder 82 /-t:strings.Builder-/ 5 /-t:uint8-/ B b bs w) :
    Calls Try.prog 80 #[.pointer (some ⟨b, 0, none⟩)] w fun e w' => e = .returned (.tuple #[]) ∧ Lib.BuilderAt 82 /-t:strings.Builder-/ 5 /-t:uint8-/ B b (.pointer (some ⟨b, 0, none⟩)) bs w' ∧ Frm (BldP B b) w w' := by
  rcases h with h | h
  · refine (copyCheck_fresh b w h.cell0 h.shape h.frozen0).mono ?_
    rintro e w' ⟨rfl, rfl⟩
    exact ⟨rfl, h.used _, (Frm.refl _ w).setCell ⟨b, 0, none⟩ _ (fun hp => hp.1 rfl)⟩
  · refine (copyCheck_used b w h.cell0).mono ?_
    rintro e w' ⟨rfl, rfl⟩
    exact ⟨rfl, h, Frm.refl _ _⟩

theorem byteCells_snoc (l : List UInt8) (c : UInt8) : Lib.byteCells (l ++ [c]) = Lib.byteCells l ++ [.int .u8 c.toNat] := by simp [Lib.byteCells]

set_option maxHeartbeats 2000000 in
set_option maxRecDepth 100000 in
theorem writeByte_any (B b : Nat) (l : List UInt8) (c : UInt8) (w : World) (h : Bld B b l w) (hlen : l.length ≤ 1000000000) (hBw : B ≤ w.heap.size) :
    Calls Try.prog 55 #[.pointer (some ⟨b, 0, none⟩), .int .u8 c.toNat] w fun e w' => e = .returned .nilIface ∧ BldU B b (l ++ [c]) w' ∧ Frm (BldP B b) w w' := by
  obtain ⟨i0, hi, hz0, hz1, hz2⟩ := info_parts infoByte
  have hlc : (Lib.byteCells l).length = l.length := by simp [Lib.byteCells]
  unfold BldU; unfold Bld at h; rw [byteCells_snoc]
  generalize Lib.byteCells l = bs at h hlc
  have hl2 : bs.length ≤ 1000000000 := by omega
  clear hlc
  go_enter Try.func55, Try.ntmps55
  go_wp2_with fail
  refine (copyCheck_any B b bs _ h).mono ?_
  rintro e w1 ⟨rfl, h1, F1⟩
  obtain ⟨hB, v, hbk, hown, hne⟩ := h1
  have c0 := cell_of_block hbk 0
  have c1 := cell_of_block hbk 1
  simp only [List.getElem?_toArray, List.getElem?_cons_zero, List.getElem?_cons_succ] at c0 c1
  have hsz := F1.size
  go_wp2_with (at_builtin; refine wpList_append_own _ rfl _ _ 80 /-t:[]uint8-/ rfl B 5 /-t:uint8-/ i0 (.int .u8 0) 1 1 Try.underlying80 /-t:[]uint8-/ hi hz0 hz1 hz2 rfl (by decide) _ _ _ rfl (hown.alloc _) ⟨w1.heap.size, 0, none⟩ 1 1 [.int .u8 c.toNat] rfl rfl (cells_new _ _ _) (fun x hx => by simp at hx; subst hx; rfl) (by unfold maxLen; omega) (by omega) (by simp; omega) ?_; intro v' w2 hown' hgrow _; obtain ⟨ao, cap, rfl⟩ := ownsRow_slice hown'; have hb2 := grown_block (hown.alloc _) hgrow ((Below.heap_alloc _ _ _ (lt_of_block hbk)).trans hbk) (by decide); have d0 := cell_of_block hb2 0; have d1 := cell_of_block hb2 1; have f1 := free_of_block hb2 1; simp only [List.getElem?_toArray, List.getElem?_cons_zero, List.getElem?_cons_succ] at d0 d1; have G2 := Lib.hid (F1.trans (bld_frm (b := b) hown _ hgrow)); have HB := Lib.hid hb2; have HO := Lib.hid hown'; clear hown' hgrow hb2)
  go_ret
  refine ⟨rfl, ?_, G2.out.setCell ⟨b, 1, none⟩ _ (fun hp => hp.1 rfl)⟩
  exact Lib.BuilderAt.put (T := 82 /-t:strings.Builder-/) (e := 5 /-t:uint8-/) hB HB.out (bs' := bs ++ [.int .u8 c.toNat]) (by simpa using HO.out) (by decide)

theorem bldAt_grown {B b : Nat} {p : Value} {bs : List Value} {w w' : World} (h : Lib.BuilderAt 82 /-t:strings.Builder-/ 5 /-t:uint8-/ B b p bs w) (g : w.grownBy w' none) : Lib.BuilderAt 82 /-t:strings.Builder-/ 5 /-t:uint8-/ B b p bs w' := by
  have hlt := h.lt
  obtain ⟨hB, v, hb, hown, hne⟩ := h
  exact ⟨hB, v, by rw [g.block b hlt (by simp)]; exact hb, ownsRow_frm (Frm.of_grown g (fun _ _ => True)) hown (fun _ _ _ _ => trivial), hne⟩
theorem Bld.grown {B b : Nat} {l : List UInt8} {w w' : World} (h : Bld B b l w) (g : w.grownBy w' none) : Bld B b l w' := by
  rcases h with h | h
  · exact Or.inl (bldAt_grown h g)
  · exact Or.inr (bldAt_grown h g)
/-- What stands before a builder was made is as it was behind its writes. -/
theorem grown_of_bld {w wr w1 : World} {B b : Nat} (h : w.grownBy wr none) (f : Frm (BldP B b) wr w1) (hB : w.heap.size ≤ B) (hb : w.heap.size ≤ b) : w.grownBy w1 none :=
  ⟨f.os.trans h.os, f.tape.trans h.tape, f.output.trans h.output, Nat.le_trans h.size f.size, fun k hk _ =>
    (f.block k (Nat.lt_of_lt_of_le hk h.size) ⟨by omega, Or.inl (by omega)⟩).trans (h.block k hk (by simp))⟩
end Go.Proofs.Ytajigndlcdiinaa
