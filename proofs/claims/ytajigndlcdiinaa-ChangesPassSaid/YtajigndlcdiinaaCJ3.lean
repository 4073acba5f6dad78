/- ClashOf. -/
import Derived.Test.YtajigndlcdiinaaCQ1
namespace Go.Proofs.Ytajigndlcdiinaa
open Go.RowKit

def touch (x y : Ed) : Bool := decide (x.at_ ≤ y.at_ + y.old) && decide (y.at_ ≤ x.at_ + x.old)
def clashV (es fs : List Ed) : Bool := es.any fun x => fs.any (touch x)

set_option maxHeartbeats 2000000 in
set_option maxRecDepth 100000 in
theorem clashOf_any (a b : Option Addr) (c1 c2 : Nat) (es fs : List Ed) (w : World) (hl : es.length ≤ 1000000) (hl2 : fs.length ≤ 1000000) (hE : Eds w a es) (hF : Eds w b fs) (hS : EdsOk es) (hT : EdsOk fs) :
    Calls Try.prog 37 #[.slice a es.length c1, .slice b fs.length c2] w fun e w' => e = .returned (.bool (clashV es fs)) ∧ w.grownBy w' none := by
  have H0 := Lib.hid (show clashV es fs = (es.drop 0).any fun x => fs.any (touch x) from rfl)
  have HE := Lib.hid hE
  have HF := Lib.hid hF
  clear hE hF
  go_enter Try.func37, Try.ntmps37
  go_wp2_with fail
  go_loopw [11] (fun i wr => ∃ j : Nat, j ≤ es.length ∧ i = .int .i64 j ∧ Hid (clashV es fs = (es.drop j).any fun x => fs.any (touch x)) ∧ w.grownBy wr none) (fun i _ => es.length - (intOf i).toNat)
  case atStart => exact ⟨0, Nat.zero_le _, rfl, H0, grow_self w⟩
  case round =>
    obtain ⟨wo, rfl⟩ : ∃ wo : World, wo = wr := ⟨_, rfl⟩
    obtain ⟨j, hj, rfl, HH, hg⟩ := hrel
    clear H0
    by_cases hlt : j < es.length
    · obtain ⟨g, off, rfl, q1, q2, q3⟩ := HE.out j hlt
      replace q1 := hg.cell q1 (by simp)
      replace q2 := hg.cell q2 (by simp)
      replace q3 := hg.cell q3 (by simp)
      have hs := hS _ (List.getElem_mem hlt)
      have HD := Lib.hid (show es.drop j = es[j] :: es.drop (j + 1) from List.drop_eq_getElem_cons hlt)
      generalize es[j] = x at q1 q2 q3 hs HD
      obtain ⟨xa, xo, xn⟩ := x
      simp only at q1 q2 q3 hs
      have HH1 := Lib.hid (show clashV es fs = ((fs.drop 0).any (touch ⟨xa, xo, xn⟩) || (es.drop (j + 1)).any fun x => fs.any (touch x)) by rw [HH.out, HD.out, List.any_cons]; rfl)
      go_wp2_with fail
      go_loopw [17] (fun i wv => ∃ k : Nat, k ≤ fs.length ∧ i = .int .i64 k ∧ Hid (clashV es fs = ((fs.drop k).any (touch ⟨xa, xo, xn⟩) || (es.drop (j + 1)).any fun x => fs.any (touch x))) ∧ wv.heap[wo.heap.size]? = some (.cells #[.int .i64 xa, .int .i64 xo, .string xn] 47 /-t:hedgelayer/api.Edit-/ (0, 0)) ∧ w.grownBy wv none) (fun i _ => fs.length - (intOf i).toNat)
      case atStart => exact ⟨0, Nat.zero_le _, rfl, HH1, heap_alloc_new wo _, grow_alloc hg _⟩
      case round =>
        clear q1 q2 q3 hg
        obtain ⟨k, hk, rfl, HK, hX, hg⟩ := hrel
        clear HH1
        by_cases hlt2 : k < fs.length
        · obtain ⟨g2, off2, rfl, r1, r2, r3⟩ := HF.out k hlt2
          replace r1 := hg.cell r1 (by simp)
          replace r2 := hg.cell r2 (by simp)
          replace r3 := hg.cell r3 (by simp)
          have hs2 := hT _ (List.getElem_mem hlt2)
          have HD2 := Lib.hid (show fs.drop k = fs[k] :: fs.drop (k + 1) from List.drop_eq_getElem_cons hlt2)
          generalize fs[k] = y at r1 r2 r3 hs2 HD2
          obtain ⟨ya, yo, yn⟩ := y
          simp only at r1 r2 r3 hs2
          have cX0 : ∀ o, (wr.alloc o).cell? ⟨wo.heap.size, 0, none⟩ = some (.int .i64 xa) := fun o => cell_of_block ((Below.heap_alloc wr o _ (lt_of_block hX)).trans hX) 0
          have cX1 : ∀ o, (wr.alloc o).cell? ⟨wo.heap.size, 1, none⟩ = some (.int .i64 xo) := fun o => cell_of_block ((Below.heap_alloc wr o _ (lt_of_block hX)).trans hX) 1
          have hX2 := (Below.heap_alloc wr (.cells #[.int .i64 ya, .int .i64 yo, .string yn] 47 /-t:hedgelayer/api.Edit-/) _ (lt_of_block hX)).trans hX
          have hg2 := grow_alloc hg (.cells #[.int .i64 ya, .int .i64 yo, .string yn] 47 /-t:hedgelayer/api.Edit-/)
          by_cases t1 : xa ≤ ya + yo
          · by_cases t2 : ya ≤ xa + xo
            · have HR := Lib.hid (show clashV es fs = true by rw [HK.out, HD2.out, List.any_cons]; simp [touch, t1, t2])
              clear hX
              go_wp2_with fail
              go_ret
              exact ⟨ret_bool HR.out.symm, hg2⟩
            · have HR := Lib.hid (show clashV es fs = ((fs.drop (k + 1)).any (touch ⟨xa, xo, xn⟩) || (es.drop (j + 1)).any fun x => fs.any (touch x)) by rw [HK.out, HD2.out, List.any_cons]; simp [touch, t2])
              clear hX
              go_wp2_with fail
              go_roundw
              case rel => exact ⟨k + 1, by omega, by go_num, HR, hX2, hg2⟩
              case measure => simp [intOf]; omega
          · have HR := Lib.hid (show clashV es fs = ((fs.drop (k + 1)).any (touch ⟨xa, xo, xn⟩) || (es.drop (j + 1)).any fun x => fs.any (touch x)) by rw [HK.out, HD2.out, List.any_cons]; simp [touch, t1])
            have d1 : decide (xa ≤ ya + yo) = false := by simpa using t1
            clear hX
            go_wp2_with fail
            go_roundw
            case rel => exact ⟨k + 1, by omega, by go_num, HR, hX2, hg2⟩
            case measure => simp [intOf]; omega
        · obtain rfl : k = fs.length := by omega
          have HR := Lib.hid (show clashV es fs = (es.drop (j + 1)).any fun x => fs.any (touch x) by rw [HK.out, List.drop_length]; simp)
          go_wp2_with fail
          go_roundw
          case rel => exact ⟨j + 1, by omega, by go_num, HR, hg⟩
          case measure => simp [intOf]; omega
    · obtain rfl : j = es.length := by omega
      have HR := Lib.hid (show clashV es fs = false by rw [HH.out, List.drop_length]; rfl)
      go_wp2_with fail
      go_ret
      exact ⟨ret_bool HR.out.symm, hg⟩
end Go.Proofs.Ytajigndlcdiinaa
