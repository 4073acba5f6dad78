/- Package edit's reference: BothOf. -/
import Derived.Test.YtajigndlcdiinaaCSc
import Derived.Test.YtajigndlcdiinaaCQ1
namespace Go.Proofs.Ytajigndlcdiinaa
open Go.RowKit

def mixR (n : Int) (es fs : List Ed) : List Let := mixTo (goP es 0) (goP fs 0) n 0 (n + 1).toNat
def mixRA (n : Int) (es fs : List Ed) : List (Let × Bool) := mixB true (goP es 0) (goP fs 0) n 0 (n + 1).toNat
def mixRB (n : Int) (es fs : List Ed) : List (Let × Bool) := mixB false (goP fs 0) (goP es 0) n 0 (n + 1).toNat
def MixPost (n : Int) (es fs : List Ed) (w : World) (e : Ending) (w' : World) : Prop :=
  ∃ lv va vb, e = .returned (.tuple #[.agg #[.int .i64 n, lv], va, vb]) ∧ w'.ownsRow w.heap.size 88 2 lv (mixR n es fs).length (letCells (mixR n es fs)) ∧
    w'.ownsRow w.heap.size 4 1 va ((mixRA n es fs).map (·.2)).length (blC ((mixRA n es fs).map (·.2))) ∧ w'.ownsRow w.heap.size 4 1 vb ((mixRB n es fs).map (·.2)).length (blC ((mixRB n es fs).map (·.2))) ∧ w.grownBy w' none
theorem right_bd {n : Int} {es : List Ed} (h : changeFault n es = 0) : ∀ e ∈ es, (0 ≤ e.at_ ∧ e.at_ ≤ 20000) ∧ (0 ≤ e.old ∧ e.old ≤ 20000) ∧ e.new.size ≤ 40000 := fun e he => by
  obtain ⟨a, b, c, d, f⟩ := (right_all h).2.2.2.1 e he
  exact ⟨⟨a, b⟩, ⟨c, d⟩, f⟩
theorem mixedR_any (n : Int) (a b : Option Addr) (c1 c2 : Nat) (es fs : List Ed) (w : World) (h : changeFault n es = 0) (g : changeFault n fs = 0) (hE : Eds w a es) (hF : Eds w b fs) :
    Calls Try.prog 73 #[.int .i64 n, .slice a es.length c1, .slice b fs.length c2] w (MixPost n es fs w) := by
  obtain ⟨hn, hl, -, -⟩ := right_all h
  obtain ⟨-, hl2, -, -⟩ := right_all g
  obtain ⟨nn, rfl⟩ : ∃ nn : Nat, n = (nn : Int) := ⟨n.toNat, by omega⟩
  have ek : ((nn : Int) + 1).toNat = nn + 1 := by omega
  have e1 := mxP_letters es fs nn (nn + 1)
  have e2 := mxP_true es fs nn (nn + 1)
  have e3 := mxP_false es fs nn (nn + 1)
  have hT : (mxP es fs nn (nn + 1)).length ≤ 900000 := by
    have := mixTo_right h g
    rw [ek, ← e1, List.length_map] at this
    omega
  refine (mixed_any nn a b c1 c2 es fs w (by omega) hl hl2 hE hF (right_bd h) (right_bd g) hT).mono ?_
  rintro e w' ⟨lv, va, vb, rfl, h1, h2, h3, h4⟩
  have f2 : (mxP es fs nn (nn + 1)).map (·.2.1) = (mixRA nn es fs).map (·.2) := by
    unfold mixRA; rw [ek, ← e2, List.map_map]; rfl
  have f3 : (mxP es fs nn (nn + 1)).map (·.2.2) = (mixRB nn es fs).map (·.2) := by
    unfold mixRB; rw [ek, ← e3, List.map_map]; rfl
  have f1 : (mxP es fs nn (nn + 1)).map (·.1) = mixR nn es fs := by unfold mixR; rw [ek, e1]
  rw [f1] at h1
  rw [f2] at h2
  rw [f3] at h3
  exact ⟨lv, va, vb, rfl, ownsRow_base h1 (by omega), ownsRow_base h2 (by omega), ownsRow_base h3 (by omega), h4⟩
theorem mixR_bd (n : Int) (es fs : List Ed) (hn : 0 ≤ n ∧ n ≤ 20000) : ∀ x ∈ mixR n es fs, x.1 ≤ 100000 := fun x hx => by
  unfold mixR at hx
  rw [← mixB_true] at hx
  obtain ⟨y, hy, rfl⟩ := List.mem_map.1 hx
  have := mixB_lt true (goP es 0) (goP fs 0) n hn.1 _ _ y hy
  omega

set_option maxHeartbeats 4000000 in
set_option maxRecDepth 100000 in
theorem bothOf_any (n : Int) (a b : Option Addr) (c1 c2 : Nat) (es fs : List Ed) (w : World) (hl : es.length ≤ 1000000) (hl2 : fs.length ≤ 1000000) (hE : Eds w a es) (hF : Eds w b fs) (hS : EdsSmall es) (hT : EdsSmall fs) :
    Calls Try.prog 36 #[.int .i64 n, .slice a es.length c1, .slice b fs.length c2] w (BothPost (if bothRE n es fs = 0 then bothRL n es fs else []) (bothRE n es fs) w) := by
  have HBF := Lib.hid (bothFault_any n a b c1 c2 es fs w hl hl2 hE hF hS hT)
  by_cases h0 : bothFaultv n es fs = 0
  · obtain ⟨g1, g2⟩ := both_zero h0
    obtain ⟨hn, -, -, -⟩ := right_all g1
    have hM := mixTo_right g1 g2
    have hbd := mixR_bd n es fs hn
    have hEl := editsLen_le (mixR n es fs) n hbd
    have HRL := Lib.hid (show bothRL n es fs = editsOf n (mixR n es fs) from rfl)
    have HRE := Lib.hid (show bothRE n es fs = if (mixR n es fs).length > 20000 then 2 else manyv (editsOf n (mixR n es fs)).length by
      unfold bothRE; rw [if_neg (by omega)]; rfl)
    change (mixR n es fs).length ≤ 40000 at hM
    have HMX := Lib.hid (fun (w1 : World) (g : w.grownBy w1 none) => mixedR_any n a b c1 c2 es fs w1 g1 g2 (eds_grown hE g) (eds_grown hF g))
    have HBD := Lib.hid hbd
    rw [h0] at HBF
    obtain ⟨P, hP⟩ : ∃ P : Ending → World → Prop, BothPost (if bothRE n es fs = 0 then bothRL n es fs else []) (bothRE n es fs) w = P := ⟨_, rfl⟩
    rw [hP]
    have HP := Lib.hid hP
    clear hP hE hF hS hT g1 g2 h0 hbd
    unfold MixPost at HMX
    generalize mixR n es fs = M at hM hEl HRL HRE HMX HBD
    generalize (mixRA n es fs).map (·.2) = mA at HMX
    generalize (mixRB n es fs).map (·.2) = mB at HMX
    go_enter Try.func36, Try.ntmps36
    go_wp2_with fail
    refine HBF.out.mono ?_
    rintro e w1 ⟨rfl, g1⟩
    go_wp2_with fail
    refine (HMX.out w1 g1).mono ?_
    rintro e w2 ⟨lv, va, vb, rfl, o1, o2, o3, g2⟩
    have G2 := grownBy_trans g1 g2
    have hs1 := g1.size
    obtain ⟨al, cl, rfl⟩ := ownsRow_slice o1
    have HED := Lib.hid (edits_any n _ _ M (w2.alloc (.cells #[.int .i64 n, .slice al M.length cl] 85)) (by omega) (by omega) HBD.out (o1.alloc _))
    have hnb := heap_alloc_new w2 (.cells #[.int .i64 n, .slice al M.length cl] 85)
    have G3 := Lib.hid (grow_alloc G2 (.cells #[.int .i64 n, .slice al M.length cl] 85))
    clear HBF HMX g1 g2 o1 o2 o3 HBD
    generalize editsOf n M = el at hEl HRL HRE HED
    have hsz2 := G2.size
    go_wp2_with fail
    refine HED.out.mono ?_
    rintro e w4 ⟨v4, rfl, own4, g4⟩
    have k1 := cell_of_block ((g4.block _ (lt_of_block hnb) (by simp)).trans hnb) 1
    simp only [List.getElem?_toArray, List.getElem?_cons_zero, List.getElem?_cons_succ] at k1
    have HG := Lib.hid (grownBy_trans G3.out g4)
    have HO := Lib.hid (ownsRow_base own4 (show w.heap.size ≤ (w2.alloc (.cells #[.int .i64 n, .slice al M.length cl] 85)).heap.size by simp; omega))
    obtain ⟨av, cv, rfl⟩ := ownsRow_slice own4
    clear HED hnb G2 G3 own4 g4 hs1 hsz2
    have HNIL := Lib.hid (show bothRE n es fs = 2 → P (.returned (.tuple #[.slice none 0 0, .int .i64 2])) w4 from fun h => HP.out ▸ ⟨_, by rw [h], by rw [h, if_neg (by decide)]; exact World.ownsRow_nil _ _ _ _, HG.out⟩)
    have HFULL := Lib.hid (show bothRE n es fs = 0 → P (.returned (.tuple #[.slice av el.length cv, .int .i64 0])) w4 from fun h => HP.out ▸ ⟨_, by rw [h], by rw [h, if_pos rfl, HRL.out, edC_cells]; exact HO.out, HG.out⟩)
    by_cases q1 : M.length > 20000
    · have HZ := Lib.hid (HNIL.out (by rw [HRE.out, if_pos q1]))
      have q1i : (20000 : Int) < (M.length : Int) := by omega
      clear HNIL HFULL HP HO HG HRL HRE
      go_wp2_with fail
      exact HZ.out
    · have q1i : decide ((20000 : Int) < (M.length : Int)) = false := by simp; omega
      have hle : M.length ≤ 20000 := by omega
      have HMF := Lib.hid (manyFault_any av el.length cv w4 (by omega))
      by_cases q2 : el.length > 2000
      · have HZ := Lib.hid (HNIL.out (by rw [HRE.out, if_neg q1, manyv, if_pos q2]))
        have e2 : manyv el.length = 2 := by rw [manyv, if_pos q2]
        rw [e2] at HMF
        clear HNIL HFULL HP HO HG HRL HRE e2
        go_wp2_with fail
        refine HMF.out.mono ?_
        rintro e w5 ⟨rfl, rfl⟩
        go_wp2_with fail
        exact HZ.out
      · have HZ := Lib.hid (HFULL.out (by rw [HRE.out, if_neg q1, manyv, if_neg q2]))
        have e2 : manyv el.length = 0 := by rw [manyv, if_neg q2]
        rw [e2] at HMF
        clear HNIL HFULL HP HO HG HRL HRE e2
        go_wp2_with fail
        refine HMF.out.mono ?_
        rintro e w5 ⟨rfl, rfl⟩
        go_wp2_with fail
        exact HZ.out
  · have HRE := Lib.hid (show bothRE n es fs = bothFaultv n es fs by unfold bothRE; rw [if_pos h0])
    have ht : (bothFaultv n es fs == 0) = false := by simpa using h0
    have ht2 : (bothFaultv n es fs != 0) = true := by simpa using h0
    obtain ⟨P, hP⟩ : ∃ P : Ending → World → Prop, BothPost (if bothRE n es fs = 0 then bothRL n es fs else []) (bothRE n es fs) w = P := ⟨_, rfl⟩
    rw [hP]
    have HNIL := Lib.hid (show ∀ w4, w.grownBy w4 none → P (.returned (.tuple #[.slice none 0 0, .int .i64 (bothFaultv n es fs)])) w4 from fun w4 g => hP ▸ ⟨_, by rw [HRE.out], by rw [HRE.out, if_neg h0]; exact World.ownsRow_nil _ _ _ _, g⟩)
    clear hP HRE hE hF hS hT
    generalize bothFaultv n es fs = x at *
    go_enter Try.func36, Try.ntmps36
    go_wp2_with fail
    refine HBF.out.mono ?_
    rintro e w1 ⟨rfl, g1⟩
    have HZ := Lib.hid (HNIL.out w1 g1)
    clear HNIL g1 HBF
    go_wp2_with fail
    exact HZ.out
end Go.Proofs.Ytajigndlcdiinaa
