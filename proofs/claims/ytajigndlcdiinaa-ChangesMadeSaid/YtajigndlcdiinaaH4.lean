/- FoldOf. -/
import Derived.Test.YtajigndlcdiinaaH3
namespace Go.Proofs.Ytajigndlcdiinaa
open Go.RowKit

def edMid (m : Nat) (e : Ed) : Prop := 0 ≤ e.at_ ∧ e.at_ ≤ 200000 ∧ -200000 ≤ e.old ∧ e.old ≤ 200000 ∧ e.new.size ≤ m

theorem closeE_mid (m : Nat) (a to : Int) (t : ByteArray) (es : List Ed) (ha : 0 ≤ a ∧ a ≤ 100001) (hto : 0 ≤ to ∧ to ≤ 100000) (ht : t.size ≤ m) (h : ∀ e, e ∈ es → edMid m e) : ∀ e, e ∈ closeE a to t es → edMid m e := by
  intro e he
  unfold closeE at he
  split at he
  · rcases List.mem_append.1 he with he | he
    · exact h e he
    · simp at he; subst he
      exact ⟨by simp only; omega, by simp only; omega, by simp only; omega, by simp only; omega, ht⟩
  · exact h e he

theorem edTo_mid (ls : List Let) (hI : ∀ x, x ∈ ls → x.1 ≤ 100000) : ∀ j, j ≤ ls.length → ∀ e, e ∈ (edTo ls j).2.2 → edMid ls.length e
  | 0, _ => by simp [edTo]
  | j + 1, h => by
    have ih := edTo_mid ls hI j (by omega)
    obtain ⟨h1, h2, h3, h4⟩ := edTo_bd ls hI j (by omega)
    rw [edTo_succ _ _ (by omega)]
    have := hI _ (List.getElem_mem (show j < ls.length by omega))
    unfold edStep
    split
    · exact ih
    · exact closeE_mid _ _ _ _ _ (by omega) (by omega) (by omega) ih

theorem editsOf_mid (n : Int) (ls : List Let) (hn : 0 ≤ n ∧ n ≤ 100000) (hI : ∀ x, x ∈ ls → x.1 ≤ 100000) : ∀ e, e ∈ editsOf n ls → edMid ls.length e := by
  obtain ⟨h1, h2, h3, h4⟩ := edTo_bd ls hI ls.length (Nat.le_refl _)
  exact closeE_mid _ _ _ _ _ (by omega) (by omega) h3 (edTo_mid ls hI _ (Nat.le_refl _))

theorem thenVl_ok (n : Int) (a b : List Ed) : EdsSmall (thenVl n a b) ∧ (thenVl n a b).length ≤ 20001 := by
  unfold thenVl
  by_cases h : thenEr n a b ≠ 0
  · rw [if_pos h]; exact ⟨by intro e he; simp at he, by simp⟩
  · rw [if_neg h]
    have h1 : changeFault n a = 0 := by
      refine Decidable.byContradiction fun hc => h ?_
      unfold thenEr; rw [if_pos hc]; exact hc
    have h2 : changeFault ((flowL a n).length : Int) b = 0 := by
      refine Decidable.byContradiction fun hc => h ?_
      unfold thenEr; rw [if_neg (by rw [h1]; decide), if_pos hc]; exact hc
    have hl : (thenFl n a b).length ≤ 20000 := by have := (right_all h2).2.2.2.2.2; simpa [thenFl, thenL] using this
    have hm : ∀ x, x ∈ thenFl n a b → x.1 ≤ 100000 := fun x hx => by have := thenFl_mem n a b h1 x hx; omega
    have hn := (right_all h1).1
    have := edits_len _ n hm
    refine ⟨fun e he => ?_, by omega⟩
    have := editsOf_mid n _ (by omega) hm e he
    unfold edMid at this
    omega

/-- A slice of changes. -/
def Chs (w : World) (a : Option Addr) (cs : List (List Ed)) : Prop := ∀ j, (h : j < cs.length) → ∃ g off av cap, a = some ⟨g, off, none⟩ ∧ w.cell? ⟨g, off + j, none⟩ = some (.slice av (cs[j]).length cap) ∧ Eds w av cs[j]
theorem Chs.grown {w w' : World} {a cs} (h : Chs w a cs) (g : w.grownBy w' none) : Chs w' a cs := by
  intro j hj
  obtain ⟨b, off, av, cap, e, h1, h2⟩ := h j hj
  exact ⟨b, off, av, cap, e, g.cell h1 (by simp), h2.grown g (by simp)⟩

def foldChk : Int → List (List Ed) → Int
  | _, [] => 0
  | m, c :: r => if changeFault m c ≠ 0 then changeFault m c else foldChk ((flowL c m).length : Int) r
def foldGo (n : Int) : List Ed → List (List Ed) → List Ed × Int
  | out, [] => (out, 0)
  | out, c :: r => if thenEr n out c ≠ 0 then ([], thenEr n out c) else foldGo n (thenVl n out c) r
def foldR (n : Int) (cs : List (List Ed)) : List Ed × Int :=
  if ¬ (0 ≤ n ∧ n ≤ 20000) then ([], 1) else if foldChk n cs ≠ 0 then ([], foldChk n cs) else foldGo n [] cs

set_option maxHeartbeats 8000000 in
set_option maxRecDepth 100000 in
theorem foldOf_any (n : Int) (a : Option Addr) (cap : Nat) (cs : List (List Ed)) (w : World) (hl : cs.length ≤ 1000000) (hC : Chs w a cs) (hS : ∀ c, c ∈ cs → EdsSmall c ∧ c.length ≤ 1000000) :
    Calls Try.prog 30 #[.int .i64 n, .slice a cs.length cap] w (EdsErrPost (foldR n cs).1 (foldR n cs).2 w) := by
  by_cases h0 : 0 ≤ n ∧ n ≤ 20000
  · have i1 := inB_yes h0
    have HR := Lib.hid (show foldR n cs = if foldChk n cs ≠ 0 then ([], foldChk n cs) else foldGo n [] cs from if_neg (by simpa using h0))
    have HK := Lib.hid (show foldChk n cs = foldChk n (cs.drop 0) from rfl)
    have HCC := Lib.hid hC
    clear hC
    go_enter Try.func30, Try.ntmps30
    go_wp2_with (go_at_call 53; refine (in_any _ _ _ _).mono ?_; rintro e' w1 ⟨rfl, rfl⟩)
    go_loopw [6, 21] (fun m i wr => ∃ (j : Nat) (mm : Int), j ≤ cs.length ∧ i = .int .i64 j ∧ m = .int .i64 mm ∧ Hid (foldChk n cs = foldChk mm (cs.drop j)) ∧ w.grownBy wr none) (fun _ i _ => cs.length - (intOf i).toNat)
    case atStart => exact ⟨0, n, Nat.zero_le _, rfl, rfl, HK, grow_self w⟩
    case round =>
      obtain ⟨j, mm, hj, rfl, rfl, HH, hg⟩ := hrel
      by_cases hlt : j < cs.length
      · obtain ⟨g, off, av, cp, rfl, c1, hE⟩ := HCC.out j hlt
        have hs := hS _ (List.getElem_mem hlt)
        have HD := Lib.hid (show cs.drop j = cs[j] :: cs.drop (j + 1) from List.drop_eq_getElem_cons hlt)
        generalize cs[j] = c at c1 hE hs HD
        replace c1 := hg.cell c1 (by simp)
        replace hE := hE.grown hg (by simp)
        by_cases hc : changeFault mm c = 0
        · have HH2 := Lib.hid (show foldChk n cs = foldChk ((flowL c mm).length : Int) (cs.drop (j + 1)) by rw [HH.out, HD.out, foldChk, if_neg (by rw [hc]; decide)])
          have hb : (changeFault mm c != 0) = false := by rw [hc]; rfl
          have HF := Lib.hid hc
          clear hc
          go_wp2_with fail
          refine (changeFault_any mm av cp c wr hs.2 hE hs.1).mono ?_
          rintro e w1 ⟨rfl, g1⟩
          go_wp2_with fail
          refine (lengthOf_any mm av cp c w1 HF.out (hE.grown g1 (by simp))).mono ?_
          rintro e w2 ⟨rfl, g2⟩
          have G2 := grownBy_trans hg (grownBy_trans g1 g2)
          clear g1 g2 hg
          go_wp2_with fail
          go_roundw
          case rel => exact ⟨j + 1, _, by omega, by go_num, rfl, HH2, G2⟩
          case measure => simp [intOf]; omega
        · have HH2 := Lib.hid (show foldChk n cs = changeFault mm c by rw [HH.out, HD.out, foldChk]; exact if_pos hc)
          have hb : (changeFault mm c != 0) = true := by simp [hc]
          have HF := Lib.hid hc
          clear hc
          go_wp2_with fail
          refine (changeFault_any mm av cp c wr hs.2 hE hs.1).mono ?_
          rintro e w1 ⟨rfl, g1⟩
          go_wp2_with fail
          go_ret2
          have : foldR n cs = ([], changeFault mm c) := by rw [HR.out, HH2.out]; exact if_pos HF.out
          rw [this]
          exact ⟨.slice none 0 0, rfl, World.ownsRow_nil _ _ _ _, grownBy_trans hg g1⟩
      · obtain rfl : j = cs.length := by omega
        have HR2 := Lib.hid (show foldR n cs = foldGo n [] (cs.drop 0) by rw [HR.out, HH.out, List.drop_length]; exact if_neg (by simp [foldChk]))
        obtain ⟨wo, rfl⟩ : ∃ wo : World, wo = wr := ⟨_, rfl⟩
        clear HH HR HK
        go_wp2_with fail
        go_loopw [10, 37] (fun v i wr => ∃ (j : Nat) (out : List Ed), j ≤ cs.length ∧ i = .int .i64 j ∧ EdsSmall out ∧ out.length ≤ 20001 ∧ Hid (foldR n cs = foldGo n out (cs.drop j)) ∧ wr.ownsRow w.heap.size 47 /-t:hedgelayer/api.Edit-/ 3 v out.length (edCells out) ∧ w.grownBy wr none) (fun _ i _ => cs.length - (intOf i).toNat)
        case atStart => exact ⟨0, [], Nat.zero_le _, rfl, by intro e he; simp at he, by simp, HR2, World.ownsRow_nil _ _ _ _, hg⟩
        case round =>
          clear hg HR2
          obtain ⟨j, out, hj2, rfl, hso, hlo, HH, own, hg⟩ := hrel
          by_cases hlt2 : j < cs.length
          · obtain ⟨g, off, av, cp, rfl, c1, hE⟩ := HCC.out j hlt2
            have hs := hS _ (List.getElem_mem hlt2)
            have HD := Lib.hid (show cs.drop j = cs[j] :: cs.drop (j + 1) from List.drop_eq_getElem_cons hlt2)
            generalize cs[j] = c at c1 hE hs HD
            replace c1 := hg.cell c1 (by simp)
            replace hE := hE.grown hg (by simp)
            obtain ⟨oa, oc, rfl, hO, _⟩ := eds_of_own own
            have hok := thenVl_ok n out c
            have hsz := hg.size
            by_cases hc : thenEr n out c = 0
            · have HH2 := Lib.hid (show foldR n cs = foldGo n (thenVl n out c) (cs.drop (j + 1)) by rw [HH.out, HD.out, foldGo]; exact if_neg (by rw [hc]; decide))
              have hb : (thenEr n out c != 0) = false := by rw [hc]; rfl
              clear hc
              go_wp2_with fail
              refine (thenOf_any n oa av oc cp out c wr (by omega) hs.2 hO hE hso hs.1).mono ?_
              rintro e w1 ⟨v, rfl, own1, g1⟩
              have own2 := ownsRow_base own1 hsz
              have G2 := grownBy_trans hg g1
              clear own own1 hg g1
              go_wp2_with fail
              go_roundw
              case rel => exact ⟨j + 1, _, by omega, by go_num, hok.1, hok.2, HH2, own2, G2⟩
              case measure => simp [intOf]; omega
            · have HH2 := Lib.hid (show foldR n cs = ([], thenEr n out c) by rw [HH.out, HD.out, foldGo]; exact if_pos hc)
              have hb : (thenEr n out c != 0) = true := by simp [hc]
              clear hc
              go_wp2_with fail
              refine (thenOf_any n oa av oc cp out c wr (by omega) hs.2 hO hE hso hs.1).mono ?_
              rintro e w1 ⟨v, rfl, own1, g1⟩
              go_wp2_with fail
              go_ret2
              rw [HH2.out]
              exact ⟨.slice none 0 0, rfl, World.ownsRow_nil _ _ _ _, grownBy_trans hg g1⟩
          · obtain rfl : j = cs.length := by omega
            have HH2 := Lib.hid (show foldR n cs = (out, 0) by rw [HH.out, List.drop_length, foldGo])
            have HO := Lib.hid own
            obtain ⟨oa, oc, rfl⟩ := ownsRow_slice own
            clear own HH
            go_wp2_with fail
            go_ret2
            rw [HH2.out]
            exact ⟨.slice oa out.length oc, rfl, HO.out, hg⟩
  · have i1 := inB_no h0
    have HR := Lib.hid (show foldR n cs = ([], 1) from if_pos h0)
    go_enter Try.func30, Try.ntmps30
    go_wp2_with (go_at_call 53; refine (in_any _ _ _ _).mono ?_; rintro e' w1 ⟨rfl, rfl⟩)
    go_ret2
    rw [HR.out]
    exact ⟨.slice none 0 0, rfl, World.ownsRow_nil _ _ _ _, grow_self w⟩
end Go.Proofs.Ytajigndlcdiinaa
