/- Package edit's reference: slices.Repeat of one number. -/
import Derived.Test.YtajigndlcdiinaaCRx
import Derived.Test.YtajigndlcdiinaaCQ4
import Derived.Test.YtajigndlcdiinaaCShelf
import Derived.Laws.MakeOwn
import Derived.Laws.CopyOwn
namespace Go.Proofs.Ytajigndlcdiinaa
open Go.RowKit

def Ok2 (v : Int) (xs : List Int) : Prop := ∀ x ∈ xs, x = 0 ∨ x = v
theorem Ok2.splice {v : Int} {xs ys : List Int} (h : Ok2 v xs) (g : Ok2 v ys) (k : Nat) : Ok2 v (splice xs k ys) := fun x hx => by
  unfold Go.splice at hx
  rcases List.mem_append.1 hx with hx | hx
  · exact h x (List.mem_of_mem_take hx)
  · rcases List.mem_append.1 hx with hx | hx
    · exact g x hx
    · exact h x (List.mem_of_mem_drop hx)
theorem Ok2.take {v : Int} {xs : List Int} (h : Ok2 v xs) (k : Nat) : Ok2 v (xs.take k) := fun x hx => h x (List.mem_of_mem_take hx)
def RepPost (n : Nat) (v : Int) (w : World) (e : Ending) (w' : World) : Prop :=
  ∃ g xs, e = .returned (.slice (some ⟨g, 0, none⟩) n n) ∧ w.heap.size ≤ g ∧ (xs.length = n ∧ Ok2 v xs) ∧ w'.heap[g]? = some (.cells (intCells xs).toArray 3 (0, 0)) ∧ w.grownBy w' none
theorem made_int (n : Nat) : madeCells #[.int .i64 0] n = (intCells (List.replicate n 0)).toArray := by
  apply Array.ext
  · simp [madeCells, intCells]
  · intro i h1 h2
    simp [madeCells, intCells, Nat.mod_one]
theorem grown_below {w wr w2 : World} {B : Nat} (h : w.grownBy wr none) (b : Below B wr w2) (hB : w.heap.size ≤ B) : w.grownBy w2 none :=
  ⟨b.os.trans h.os, b.tape.trans h.tape, b.output.trans h.output, Nat.le_trans h.size b.size, fun k hk hn => (b.block k (by omega)).trans (h.block k hk hn)⟩

/-- Where the cells that are copied lie. -/
def SrcOk (cs : List Value) (w : World) (ad : Addr) : Prop := ∀ (j : Nat) (u : Value), cs[j]? = some u → w.cell? (ad.add j) = some u
theorem SrcOk.at {cs : List Value} {w : World} {ad : Addr} (h : SrcOk cs w ad) (j : Nat) (u : Value) (hj : cs[j]? = some u) : w.cell? (ad.add j) = some u := h j u hj
set_option maxHeartbeats 4000000 in
set_option maxRecDepth 100000 in
theorem repeat_any (b n : Nat) (v : Int) (w : World) (hb : w.heap[b]? = some (.cells #[.int .i64 v] 3 (0, 0))) (hn : n ≤ 20000) :
    Calls Try.prog 93 #[.slice (some ⟨b, 0, none⟩) 1 1, .int .i64 n] w (RepPost n v w) := by
  obtain ⟨PP, hPP⟩ : ∃ PP : Ending → World → Prop, RepPost n v w = PP := ⟨_, rfl⟩
  rw [hPP]
  have HP := Lib.hid hPP
  clear hPP
  have HM := Lib.hid (show Calls Try.prog 101 #[.int .u64 1, .int .u64 n] w fun e w' => e = .returned (.tuple #[.int .u64 0, .int .u64 n]) ∧ w' = w from by
    have h := Try.bits_Mul 1 n (by omega) (by omega) w
    have e1 : 1 * n / 18446744073709551616 = 0 := by omega
    have e2 : 1 * n % 18446744073709551616 = n := by omega
    rw [e1, e2] at h
    exact h)
  obtain ⟨i0, hi, hz0, hz1, hz2⟩ := info_parts infoInt
  have hsz : (Try.prog.info? 3).map (·.size) = some 1 := by rw [hi]; simp [hz1]
  have h0 : (0 : Int) ≤ (n : Int) := by omega
  have d0 : decide ((n : Int) < 0) = false := by simp
  have d1 : decide ((9223372036854775807 : Int) < (n : Int)) = false := by simp; omega
  have v0 : IntKind.i64.wrap (n : Int) = (n : Int) := IntWalk.i64_in _ (by omega)
  have hmk : (Instr.makeSlice 22 (.int .i64 (n : Int)) (.int .i64 (n : Int))).run Try.prog w = .ok (.slice (some ⟨w.heap.size, 0, none⟩) n n) (w.alloc (.cells (intCells (List.replicate n 0)).toArray 3)) := by
    have h := run_make (P := Try.prog) w 22 3 i0 (.int .i64 0) Try.underlying22 hi hz0 .i64 .i64 n n h0 (Int.le_refl _) (by rw [hz2]; omega) (by omega)
    rw [hz1, Int.toNat_natCast, Nat.mul_one] at h
    rw [h]
    have e : (Value.int IntKind.i64 0).cells = #[.int .i64 0] := rfl
    rw [e, made_int]
  have hblk := heap_alloc_new w (.cells (intCells (List.replicate n 0)).toArray 3)
  have hbel : Below w.heap.size w (w.alloc (.cells (intCells (List.replicate n 0)).toArray 3)) := ⟨rfl, rfl, rfl, by simp, fun k hk => Below.heap_alloc _ _ _ hk⟩
  have hsrc : (w.alloc (.cells (intCells (List.replicate n 0)).toArray 3)).cell? ⟨b, 0, none⟩ = some (.int .i64 v) := cell_of_block ((Below.heap_alloc _ _ _ (lt_of_block hb)).trans hb) 0
  obtain ⟨cs, hcs⟩ : ∃ cs, cs = (intCells [v]).take (Nat.min 1 n) := ⟨_, rfl⟩
  have hcl : cs.length = Nat.min 1 n := by rw [hcs]; simp [intCells]
  have hcm : ∀ u ∈ cs, u.oneCell' = true := fun u hu => by rw [hcs] at hu; have := List.mem_of_mem_take hu; simp [intCells] at this; subst this; rfl
  have hcg : ∀ (j : Nat) (u : Value), cs[j]? = some u → (w.alloc (.cells (intCells (List.replicate n 0)).toArray 3)).cell? ((⟨b, 0, none⟩ : Addr).add j) = some u := fun j u hu => by
    rw [hcs, List.getElem?_take] at hu
    split at hu
    · cases j with
      | zero => simp [intCells] at hu; rw [Addr.add_lit]; simpa [hu] using hsrc
      | succ j => simp [intCells] at hu
    · cases hu
  have hcI : ∃ ys, cs = intCells ys ∧ Ok2 v ys := ⟨[v].take (Nat.min 1 n), by rw [hcs]; simp [intCells], fun x hx => .inr (by have := List.mem_of_mem_take hx; simpa using this)⟩
  have HI := Lib.hid hcI
  have hil : (intCells (List.replicate n 0)).length = n := by simp [intCells]
  have HCur := Lib.hid (show ∃ zs, intCells (List.replicate n 0) = intCells zs ∧ Ok2 v zs from ⟨_, rfl, fun x hx => .inl (List.eq_of_mem_replicate hx)⟩)
  generalize intCells (List.replicate n 0) = cur at hmk hblk hbel hcg hil HCur
  clear hcs hcI hb hsrc hz0 hz1 hz2 hi
  have hpos : SrcOk cs (w.alloc (.cells cur.toArray 3)) ⟨b, 0, none⟩ := hcg
  have hfit : 0 + cs.length ≤ cur.length := by rw [hcl, hil, Nat.zero_add]; exact Nat.min_le_right 1 n
  have hm1 : cs.length ≤ n := by rw [hcl]; exact Nat.min_le_right 1 n
  have hm2 : n ≠ 0 → 1 ≤ cs.length := fun h => by rw [hcl]; have : Nat.min 1 n = 1 := Nat.min_eq_left (by omega); omega
  have hcI2 : ∃ xs, splice cur 0 cs = intCells xs ∧ xs.length = n ∧ Ok2 v xs := by
    obtain ⟨ys, hy, hyo⟩ := HI.out
    have hy2 : cs.length = ys.length := by rw [hy]; simp [intCells]
    obtain ⟨zs, hz, hzo⟩ := HCur.out
    have hz2 : cur.length = zs.length := by rw [hz]; simp [intCells]
    refine ⟨splice zs 0 ys, ?_, ?_, hzo.splice hyo 0⟩
    · rw [hz, hy]; simp [splice, intCells]
    · rw [length_splice _ _ _ (by omega)]; omega
  have HI2 := Lib.hid hcI2
  have HG0 := Lib.hid (grow_self w)
  have HPOS := Lib.hid hpos
  have HFIT := Lib.hid hfit
  have HCM := Lib.hid hcm
  have HCL := Lib.hid hcl
  clear hpos hfit hcm hcl
  clear HI HCur hcI2 hcg
  go_enter Try.func93, Try.ntmps93
  go_wp2_with fail
  refine HM.out.mono ?_
  rintro e w1 ⟨rfl, rfl⟩
  go_wp2_with (with_reducible refine wpList_copy_splice rfl (.tmp 31) (.tmp 32) 22 22 rfl 3 rfl hsz (some ⟨w1.heap.size, 0, none⟩) (some ⟨b, 0, none⟩) n n 1 1 rfl rfl w1.heap.size 0 cur 3 hblk cs HCL.out (fun _ => ⟨rfl, _, rfl, fun j v hj => SrcOk.at HPOS.out j v hj⟩) HFIT.out HCM.out w1.heap.size w1 hbel (Nat.le_refl _) ?_; intro w2 HG2 hB2; have HB2 := Lib.hid hB2; clear hB2)
  clear hblk HPOS HFIT HCM hmk hbel HM HCL
  generalize cs.length = m0 at hm1 hm2
  generalize splice cur 0 cs = cur1 at HG2 HI2
  go_loopw [8] (fun i wr => ∃ m : Nat, m ≤ n ∧ (n ≠ 0 → 1 ≤ m) ∧ i = .int .i64 m ∧ ∃ cur1, Hid (∃ xs, cur1 = intCells xs ∧ xs.length = n ∧ Ok2 v xs) ∧ Hid (wr.heap[w1.heap.size]? = some (.cells cur1.toArray 3 (0, 0))) ∧ Hid (Below w1.heap.size w1 wr)) (fun i _ => n - (intOf i).toNat)
  case atStart => exact ⟨m0, hm1, hm2, rfl, cur1, HI2, HG2, HB2⟩
  case round =>
    clear HI2 HG2 HB2 hm1 hm2
    obtain ⟨m, hm, hm1, rfl, cur3, HI, HG, HB⟩ := hrel
    by_cases hlt : m < n
    · obtain ⟨xs, hx, hxl, hxo⟩ := HI.out
      have hcl3 : cur3.length = n := by rw [hx]; simp [intCells, hxl]
      obtain ⟨c, hc, hc1, hc2, hc3⟩ : ∃ c, c = Nat.min m (n - m) ∧ c ≤ m ∧ c ≤ n - m ∧ 1 ≤ c := ⟨_, rfl, Nat.min_le_left _ _, Nat.min_le_right _ _, Nat.le_min.2 ⟨by omega, by omega⟩⟩
      obtain ⟨cs2, hcs2⟩ : ∃ cs2, cs2 = cur3.take c := ⟨_, rfl⟩
      have hcl4 : cs2.length = c := by rw [hcs2, List.length_take, hcl3]; omega
      have hcl2 : cs2.length = Nat.min m (n - m) := by rw [hcl4, hc]
      have hcm2 : ∀ u ∈ cs2, u.oneCell' = true := fun u hu => by
        rw [hcs2, hx] at hu
        have := List.mem_of_mem_take hu
        simp only [intCells, List.mem_map] at this
        obtain ⟨_, _, rfl⟩ := this
        rfl
      have hge : 1 ≤ cs2.length := by omega
      have hle : m + cs2.length ≤ n := by omega
      have hpos2 : SrcOk cs2 wr.drew ⟨w1.heap.size, 0, none⟩ := fun j u hu => by
        rw [hcs2, List.getElem?_take] at hu
        split at hu
        · rw [Addr.add_lit]
          have := cell_of_block (show wr.drew.heap[w1.heap.size]? = some (.cells cur3.toArray 3 (0, 0)) from HG.out) (0 + j)
          rw [this]
          simpa using hu
        · cases hu
      have hfit2 : m + cs2.length ≤ cur3.length := by omega
      have hsp : ∃ zs, splice cur3 m cs2 = intCells zs ∧ zs.length = n ∧ Ok2 v zs := by
        refine ⟨splice xs m (xs.take c), ?_, ?_, hxo.splice (hxo.take c) m⟩
        · rw [hcs2, hx]; simp [splice, intCells]
        · rw [length_splice _ _ _ (by rw [List.length_take]; omega), hxl]
      have HS := Lib.hid hsp
      have hblk2 : wr.drew.heap[w1.heap.size]? = some (.cells cur3.toArray 3 (0, 0)) := HG.out
      have hbel2 : Below w1.heap.size w1 wr.drew := ⟨HB.out.os, HB.out.tape, HB.out.output, HB.out.size, HB.out.block⟩
      have HPOS := Lib.hid hpos2
      have HFIT := Lib.hid hfit2
      have HCM := Lib.hid hcm2
      have HCL := Lib.hid hcl2
      clear hpos2 hfit2 hcm2 hcl2
      have hne : ¬ n = m := by omega
      have hwr : IntKind.i64.wrap ((m : Int) + (cs2.length : Int)) = ((m + cs2.length : Nat) : Int) := by rw [IntWalk.i64_in _ (by omega)]; omega
      have b0 : (0 : Int) ≤ (m : Int) := by omega
      have b1 : (m : Int) ≤ (n : Int) := by omega
      clear hcs2 hx hxo hsp HI HG HB hcl4 hc hc1 hc2 hc3 hxl hcl3
      go_wp2_with fail
      go_region_law (refine step_copy_splice rfl (.tmp 41) (.tmp 44) 22 22 rfl 3 rfl hsz (some ⟨w1.heap.size, m, none⟩) (some ⟨w1.heap.size, 0, none⟩) (n - m) (n - m) m n (by kernel_rfl) (by kernel_rfl) w1.heap.size m cur3 3 hblk2 cs2 HCL.out (fun _ => ⟨rfl, _, rfl, fun j v hj => SrcOk.at HPOS.out j v hj⟩) HFIT.out HCM.out w1.heap.size w1 hbel2 (Nat.le_refl _) ?_; intro w4 hg4 hb4; have HB4 := Lib.hid hb4; clear hb4)
      all_goals
        go_wp2_with fail
        go_simp
        go_roundw
        case rel => exact ⟨m + cs2.length, hle, fun _ => by omega, by omega, splice cur3 m cs2, HS, hg4⟩
        case measure => simp [intOf]; omega
    · obtain rfl : m = n := by omega
      obtain ⟨xs, hx, hxl, hxo⟩ := HI.out
      have HZ := Lib.hid (show PP (.returned (.slice (some ⟨w1.heap.size, 0, none⟩) m m)) wr from HP.out ▸ ⟨w1.heap.size, xs, rfl, Nat.le_refl _, ⟨hxl, hxo⟩, hx ▸ HG.out, grown_below HG0.out HB.out (Nat.le_refl _)⟩)
      clear HP HI HG HB hx hxo
      go_wp2_with fail
      exact HZ.out
end Go.Proofs.Ytajigndlcdiinaa
