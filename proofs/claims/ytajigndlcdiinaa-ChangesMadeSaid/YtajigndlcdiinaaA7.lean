/- Package edit: squeeze. -/
import Derived.Test.YtajigndlcdiinaaK1
import Derived.Test.YtajigndlcdiinaaA4
import Derived.BigRegion
import Derived.Deep.DeepCutAuto
import Derived.Deep.CutBlock
namespace Go.Proofs.Ytajigndlcdiinaa
open Go.RowKit

def strLen : Value → Nat | .string b => b.size | _ => 0

theorem extract_size (s : ByteArray) (a b : Nat) (h : b ≤ s.size) : (s.extract a b).size = b - a := by simp; omega
theorem extract_first (s : ByteArray) (a b : Nat) (h : b ≤ s.size) (ha : a < b) : (s.extract a b)[0]'(by rw [extract_size s a b h]; omega) = s[a] := by
  rw [ByteArray.getElem_extract]; simp
theorem extract_at (s : ByteArray) (a b k : Nat) (h : b ≤ s.size) (ha : a + k < b) : (s.extract a b)[k]'(by rw [extract_size s a b h]; omega) = s[a + k] := by
  rw [ByteArray.getElem_extract]
theorem extract_tail (s : ByteArray) (a b : Nat) (h : b ≤ s.size) (ha : a < b) : (s.extract a b).extract 1 (s.extract a b).size = s.extract (a + 1) b := by
  rw [extract_size s a b h, ByteArray.extract_extract]; congr 1; omega
theorem extract_init (s : ByteArray) (a b m : Nat) (h : b ≤ s.size) (ha : a + m + 1 = b) : (s.extract a b).extract 0 m = s.extract a (b - 1) := by
  rw [ByteArray.extract_extract]; congr 1; omega

/-- The edit's box M and the result's R. -/
def SqP (w : World) (M R : Nat) (p q : Int) (n : ByteArray) (wr : World) : Prop :=
  wr.heap[M]? = some (.cells #[.int .i64 p, .int .i64 q, .string n] 47 (0, 0)) ∧ wr.heap[R]? = some (.cells #[.int .i64 0, .int .i64 0, .string ⟨#[]⟩] 47 (0, 0)) ∧ w.grownBy wr none ∧ w.heap.size ≤ M ∧ w.heap.size ≤ R ∧ M ≠ R
theorem SqP.drew {w M R p q n wr} (h : SqP w M R p q n wr) : SqP w M R p q n wr.drew := ⟨h.1, h.2.1, grow_drew h.2.2.1, h.2.2.2⟩
theorem SqP.set0 {w M R p q n wr} (h : SqP w M R p q n wr) (x : Int) : SqP w M R x q n (wr.setCell ⟨M, 0, none⟩ (.int .i64 x)) :=
  ⟨heap_setCell_self h.1 0 _, (Below.heap_setCell _ _ _ _ (fun e => h.2.2.2.2.2 e.symm)).trans h.2.1, grow_setCell h.2.2.1 _ _ h.2.2.2.1, h.2.2.2⟩
theorem SqP.set1 {w M R p q n wr} (h : SqP w M R p q n wr) (x : Int) : SqP w M R p x n (wr.setCell ⟨M, 1, none⟩ (.int .i64 x)) :=
  ⟨heap_setCell_self h.1 1 _, (Below.heap_setCell _ _ _ _ (fun e => h.2.2.2.2.2 e.symm)).trans h.2.1, grow_setCell h.2.2.1 _ _ h.2.2.2.1, h.2.2.2⟩
theorem SqP.set2 {w M R p q n wr} (h : SqP w M R p q n wr) (x : ByteArray) : SqP w M R p q x (wr.setCell ⟨M, 2, none⟩ (.string x)) :=
  ⟨heap_setCell_self h.1 2 _, (Below.heap_setCell _ _ _ _ (fun e => h.2.2.2.2.2 e.symm)).trans h.2.1, grow_setCell h.2.2.1 _ _ h.2.2.2.1, h.2.2.2⟩

def SqPost (f : Ed) (w : World) (e : Ending) (w' : World) : Prop := e = .returned (.agg #[.int .i64 f.at_, .int .i64 f.old, .string f.new]) ∧ w.grownBy w' none

set_option maxHeartbeats 4000000 in
set_option maxRecDepth 100000 in
theorem squeeze_any (s : ByteArray) (p q : Nat) (n : ByteArray) (hpq : p + q ≤ s.size) (hss : s.size ≤ 20000) (hn : n.size ≤ 40000) (w : World) :
    Calls Try.prog 52 #[.string (s.extract p (p + q)), .agg #[.int .i64 p, .int .i64 q, .string n]] w (SqPost (sqE s ⟨p, q, n⟩) w) := by
  obtain ⟨P, hP⟩ : ∃ P, SqPost (sqE s ⟨p, q, n⟩) w = P := ⟨_, rfl⟩
  rw [hP]
  unfold SqPost at hP
  have HP := Lib.hid hP
  obtain ⟨t, ht⟩ : ∃ t, t = s.extract p (p + q) := ⟨_, rfl⟩
  rw [← ht]
  have HT := Lib.hid ht
  clear hP ht
  have r0 : Hid (SqP w w.heap.size (w.heap.size + 1) p q n ((w.alloc (.cells #[.int .i64 p, .int .i64 q, .string n] 47)).alloc (.cells #[.int .i64 0, .int .i64 0, .string ⟨#[]⟩] 47))) :=
    Lib.hid ⟨(Below.heap_alloc _ _ _ (by simp)).trans (heap_alloc_new w _), heap_new_at _ _ _ (by simp), grow_alloc (grow_alloc (grow_self w) _) _, by omega, by omega, by omega⟩
  go_enter Try.func52, Try.ntmps52
  go_upto_block 0 with (fail)
  generalize ((w.alloc (.cells #[.int .i64 p, .int .i64 q, .string n] 47)).alloc (.cells #[.int .i64 0, .int .i64 0, .string ⟨#[]⟩] 47)) = w1 at r0 ⊢
  obtain ⟨M, hM⟩ : ∃ M, M = w.heap.size := ⟨_, rfl⟩
  obtain ⟨R, hR⟩ : ∃ R, R = w.heap.size + 1 := ⟨_, rfl⟩
  rw [← hR, ← hM] at r0 ⊢
  clear hM hR
  have HTS := Lib.hid (show t.size = q by rw [HT.out, extract_size _ _ _ hpq]; omega)
  go_cut [0] (fun sv wx => ∃ (p' : Nat) (t' n' : ByteArray), sv = .string t' ∧ Hid (t' = s.extract p' (p' + t'.size)) ∧ Hid (sqE s ⟨p, q, n⟩ = sqRight s t'.size ⟨p', t'.size, n'⟩) ∧ p' + t'.size ≤ s.size ∧ n'.size ≤ 40000 ∧ Hid (SqP w M R p' q n' wx))
  case first =>
    go_wp2_with fail
    go_loopw [0] (fun sv wr => ∃ (p' : Nat) (t' n' : ByteArray), sv = .string t' ∧ Hid (t' = s.extract p' (p' + t'.size)) ∧ Hid (sqLeft s q ⟨p, q, n⟩ = sqLeft s t'.size ⟨p', t'.size, n'⟩) ∧ p' + t'.size ≤ s.size ∧ n'.size ≤ 40000 ∧ Hid (SqP w M R p' q n' wr)) (fun sv _ => strLen sv)
    case atStart => exact ⟨p, t, n, rfl, Lib.hid (by rw [HTS.out]; exact HT.out), Lib.hid (by rw [HTS.out]), by rw [HTS.out]; exact hpq, hn, r0⟩
    case round =>
      obtain ⟨p', t', n', rfl, HT', H1, hpq', hns, HS⟩ := hrel
      clear HT HTS r0
      have hX := HS.out.1
      have cX0 := cell_of_block hX 0
      have cX1 := cell_of_block hX 1
      have cX2 := cell_of_block hX 2
      have fX0 := free_of_block hX 0
      have fX1 := free_of_block hX 1
      have fX2 := free_of_block hX 2
      simp only [List.getElem?_toArray, List.getElem?_cons_zero, List.getElem?_cons_succ] at cX0 cX1 cX2
      clear hX
      by_cases t1 : t'.size = 0
      · have z1 := isEmpty_of_size t1
        have HQ := Lib.hid (sqE_mid (H1.out.trans (sqLeft_old0 s p' t'.size n' t'.size (by omega))))
        have HS2 := Lib.hid HS.out.drew
        clear t1
        go_wp2_with fail
        go_region
        go_wp2_with fail
        go_meet
        exact ⟨p', t', n', rfl, HT', HQ, hpq', hns, HS2⟩
      · have z1 := not_isEmpty_of_size t1
        by_cases t2 : n'.size = 0
        · have z2 := isEmpty_of_size t2
          have HQ := Lib.hid (sqE_mid (H1.out.trans (sqLeft_new0 s p' t'.size n' t'.size t2)))
          have HS2 := Lib.hid HS.out.drew
          clear t1 t2
          go_wp2_with fail
          go_region
          go_wp2_with fail
          go_meet
          exact ⟨p', t', n', rfl, HT', HQ, hpq', hns, HS2⟩
        · have z2 := not_isEmpty_of_size t2
          have i1 : 0 < t'.size := by omega
          have i2 : 0 < n'.size := by omega
          have i3 : (1 : Int) ≤ (t'.size : Int) := by omega
          have i4 : (1 : Int) ≤ (n'.size : Int) := by omega
          have i5 : 1 ≤ t'.size := by omega
          have i6 : 1 ≤ n'.size := by omega
          have hp : p' < s.size := by omega
          have HB := Lib.hid (show t'[0] = s[p'] by
            have := extract_first s p' (p' + t'.size) hpq' (by omega)
            rw [← this]; congr 1)
          by_cases t3 : t'[0] = n'[0]
          · have e1 : ((t'[0].toNat : Int) == (n'[0].toNat : Int)) = true := by rw [t3]; simp
            have hw1 : IntKind.i64.wrap ((p' : Int) + 1) = ((p' + 1 : Nat) : Int) := (IntWalk.i64_in _ (by omega)).trans (by omega)
            have H2 := Lib.hid (H1.out.trans (sqLeft_go s p' t'.size (t'.size - 1) n' hp i2 (by rw [← HB.out]; exact t3) (by omega)))
            have HT2 := Lib.hid (show t'.extract 1 t'.size = s.extract (p' + 1) (p' + t'.size) by
              have := extract_tail s p' (p' + t'.size) hpq' (by omega)
              rw [← HT'.out] at this; exact this)
            have HZ2 := Lib.hid (show (t'.extract 1 t'.size).size = t'.size - 1 by simp)
            have hns2 : (n'.extract 1 n'.size).size ≤ 40000 := by rw [ByteArray.size_extract]; omega
            clear t1 t2 t3
            go_wp2_with fail
            go_region
            go_wp2_with fail
            go_region
            all_goals
              have R2 := Lib.hid ((HS.out.set2 (n'.extract 1 n'.size)).drew.drew)
              generalize (wr.setCell ⟨M, 2, none⟩ (.string (n'.extract 1 n'.size))).drew.drew = w5 at R2 ⊢
              clear cX0 cX1 cX2 fX0 fX1 fX2 HS
              have cY0 := cell_of_block R2.out.1 0
              have fY0 := free_of_block R2.out.1 0
              simp only [List.getElem?_toArray, List.getElem?_cons_zero] at cY0
              have R3 := Lib.hid (R2.out.set0 ((p' + 1 : Nat) : Int))
              go_wp2_with fail
              refine ⟨⟨p' + 1, t'.extract 1 t'.size, n'.extract 1 n'.size, rfl, Lib.hid (by rw [HZ2.out, show p' + 1 + (t'.size - 1) = p' + t'.size by omega]; exact HT2.out), Lib.hid (by rw [HZ2.out]; exact H2.out), by rw [HZ2.out]; omega, hns2, R3⟩, ?_⟩
              show (t'.extract 1 t'.size).size < t'.size
              rw [HZ2.out]; omega
          · have e1 : ((t'[0].toNat : Int) == (n'[0].toNat : Int)) = false := beq_eq_false_iff_ne.2 (fun h => t3 (UInt8.toNat_inj.1 (by omega)))
            have HQ := Lib.hid (sqE_mid (H1.out.trans (sqLeft_ne s p' t'.size n' t'.size hp i2 (by rw [← HB.out]; exact t3))))
            have HS2 := Lib.hid HS.out.drew
            clear t1 t2 t3
            go_wp2_with fail
            go_region
            go_wp2_with fail
            go_meet
            exact ⟨p', t', n', rfl, HT', HQ, hpq', hns, HS2⟩
  case rest =>
    obtain ⟨p1, t1, n1, rfl, HT1, HQ, hpq1, hn1, HS1⟩ := hcut
    obtain ⟨w2, rfl⟩ : ∃ v : World, v = wc := ⟨_, rfl⟩
    clear HT HTS r0
    go_upto_block 2 with (fail)
    go_cut [0] (fun sv wx => ∃ (t' n' : ByteArray), sv = .string t' ∧ Hid (sqE s ⟨p, q, n⟩ = ⟨p1, t'.size, n'⟩) ∧ t'.size ≤ s.size ∧ Hid (SqP w M R p1 q n' wx))
    case first =>
      go_wp2_with fail
      go_loopw [0] (fun sv wr => ∃ (t' n' : ByteArray), sv = .string t' ∧ Hid (t' = s.extract p1 (p1 + t'.size)) ∧ Hid (sqE s ⟨p, q, n⟩ = sqRight s t'.size ⟨p1, t'.size, n'⟩) ∧ p1 + t'.size ≤ s.size ∧ n'.size ≤ 40000 ∧ Hid (SqP w M R p1 q n' wr)) (fun sv _ => strLen sv)
      case atStart => exact ⟨t1, n1, rfl, HT1, HQ, hpq1, hn1, HS1⟩
      case round =>
        clear HT1 HQ HS1
        obtain ⟨t', n', rfl, HT', H1, hpq', hns, HS⟩ := hrel
        have hX := HS.out.1
        have cX0 := cell_of_block hX 0
        have cX1 := cell_of_block hX 1
        have cX2 := cell_of_block hX 2
        have fX0 := free_of_block hX 0
        have fX1 := free_of_block hX 1
        have fX2 := free_of_block hX 2
        simp only [List.getElem?_toArray, List.getElem?_cons_zero, List.getElem?_cons_succ] at cX0 cX1 cX2
        clear hX
        by_cases t1 : t'.size = 0
        · have z1 := isEmpty_of_size t1
          have HF := Lib.hid (H1.out.trans (sqRight_old0 s p1 t'.size n' t'.size (by omega)))
          have HS2 := Lib.hid HS.out.drew
          have hle : t'.size ≤ s.size := by omega
          clear t1
          go_wp2_with fail
          go_region
          go_wp2_with fail
          go_meet
          exact ⟨t', n', rfl, HF, hle, HS2⟩
        · have z1 := not_isEmpty_of_size t1
          by_cases t2 : n'.size = 0
          · have z2 := isEmpty_of_size t2
            have HF := Lib.hid (H1.out.trans (sqRight_new0 s p1 t'.size n' t'.size t2))
            have HS2 := Lib.hid HS.out.drew
            have hle : t'.size ≤ s.size := by omega
            clear t1 t2
            go_wp2_with fail
            go_region
            go_wp2_with fail
            go_meet
            exact ⟨t', n', rfl, HF, hle, HS2⟩
          · have z2 := not_isEmpty_of_size t2
            obtain ⟨k, hk⟩ : ∃ k : Nat, t'.size = k + 1 := ⟨t'.size - 1, by omega⟩
            obtain ⟨m, hm⟩ : ∃ m : Nat, n'.size = m + 1 := ⟨n'.size - 1, by omega⟩
            have i1 : k < t'.size := by omega
            have i2 : m < n'.size := by omega
            have i3 : (k : Int) < (t'.size : Int) := by omega
            have i4 : (0 : Int) ≤ (k : Int) := Int.natCast_nonneg _
            have i5 : (m : Int) < (n'.size : Int) := by omega
            have i6 : (0 : Int) ≤ (m : Int) := Int.natCast_nonneg _
            have i7 : (m : Int) ≤ (n'.size : Int) := by omega
            have i8 : (k : Int) ≤ (t'.size : Int) := by omega
            have hr : (p1 : Int) + (t'.size : Int) - 1 = ((p1 + k : Nat) : Int) := by omega
            have v1 : IntKind.i64.wrap ((t'.size : Int) - 1) = (k : Int) := by rw [hk]; simpa using IntWalk.i64_in (k : Int) (by omega)
            have v2 : IntKind.i64.wrap ((n'.size : Int) - 1) = (m : Int) := by rw [hm]; simpa using IntWalk.i64_in (m : Int) (by omega)
            have hp : p1 + k < s.size := by omega
            have HB := Lib.hid (show t'[k] = s[p1 + k] by
              have := extract_at s p1 (p1 + t'.size) k hpq' (by omega)
              rw [← this]; congr 1)
            have HK := Lib.hid hk
            have hle : t'.size ≤ s.size := by omega
            by_cases t3 : t'[k] = n'[m]
            · have e1 : ((t'[k].toNat : Int) == (n'[m].toNat : Int)) = true := by rw [t3]; simp
              have H2 := Lib.hid (H1.out.trans (sqRight_go s p1 t'.size k (p1 + k) m n' hr hm hp i2 (by rw [← HB.out]; exact t3) hk))
              have HT2 := Lib.hid (show t'.extract 0 k = s.extract p1 (p1 + k) by
                have := extract_init s p1 (p1 + t'.size) k hpq' (by omega)
                rw [← HT'.out, show p1 + t'.size - 1 = p1 + k by omega] at this; exact this)
              have HZ2 := Lib.hid (show (t'.extract 0 k).size = k by rw [ByteArray.size_extract]; omega)
              have hns2 : (n'.extract 0 m).size ≤ 40000 := by rw [ByteArray.size_extract]; omega
              have hpk : p1 + k ≤ s.size := by omega
              clear t1 t2 t3 hk hm hr
              go_wp2_with fail
              go_region
              go_wp2_with fail
              go_region
              all_goals
                have R2 := Lib.hid ((HS.out.set2 (n'.extract 0 m)).drew.drew)
                go_wp2_with fail
                refine ⟨⟨t'.extract 0 k, n'.extract 0 m, rfl, Lib.hid (by rw [HZ2.out]; exact HT2.out), Lib.hid (by rw [HZ2.out]; exact H2.out), by rw [HZ2.out]; exact hpk, hns2, R2⟩, ?_⟩
                show (t'.extract 0 k).size < t'.size
                rw [HZ2.out]; omega
            · have e1 : ((t'[k].toNat : Int) == (n'[m].toNat : Int)) = false := beq_eq_false_iff_ne.2 (fun h => t3 (UInt8.toNat_inj.1 (by omega)))
              have HF := Lib.hid (H1.out.trans (sqRight_ne s p1 t'.size (p1 + k) m n' t'.size hr hm hp i2 (by rw [← HB.out]; exact t3)))
              have HS2 := Lib.hid HS.out.drew
              clear t1 t2 t3 hk hm hr
              go_wp2_with fail
              go_region
              go_wp2_with fail
              go_meet
              exact ⟨t', n', rfl, HF, hle, HS2⟩
    case rest =>
      obtain ⟨t2, n2, rfl, HF, hts, HS⟩ := hcut
      obtain ⟨w3, rfl⟩ : ∃ v : World, v = wc := ⟨_, rfl⟩
      clear HT1 HQ HS1
      have fX1 := free_of_block HS.out.1 1
      have cX1 := cell_of_block HS.out.1 1
      simp only [List.getElem?_toArray, List.getElem?_cons_zero, List.getElem?_cons_succ] at cX1
      have HS2 := Lib.hid (HS.out.set1 t2.size)
      go_upto_region 7 with (fail)
      generalize w3.setCell ⟨M, 1, none⟩ (.int .i64 t2.size) = w4 at HS2 ⊢
      clear fX1 cX1 HS
      have cX0 := cell_of_block HS2.out.1 0
      have cX1 := cell_of_block HS2.out.1 1
      have cX2 := cell_of_block HS2.out.1 2
      have cR0 := cell_of_block HS2.out.2.1 0
      have cR1 := cell_of_block HS2.out.2.1 1
      have cR2 := cell_of_block HS2.out.2.1 2
      have fR0 := free_of_block HS2.out.2.1 0
      have fR1 := free_of_block HS2.out.2.1 1
      have fR2 := free_of_block HS2.out.2.1 2
      simp only [List.getElem?_toArray, List.getElem?_cons_zero, List.getElem?_cons_succ] at cX0 cX1 cX2 cR0 cR1 cR2
      have G3 := Lib.hid (grow_setCell (grow_setCell (grow_setCell HS2.out.2.2.1 ⟨R, 0, none⟩ (.int .i64 p1) HS2.out.2.2.2.2.1) ⟨R, 1, none⟩ (.int .i64 t2.size) HS2.out.2.2.2.2.1) ⟨R, 2, none⟩ (.string n2) HS2.out.2.2.2.2.1)
      go_wp2_with fail
      rw [← HP.out]
      refine bodyPost_ret (v := .agg #[.int .i64 p1, .int .i64 t2.size, .string n2]) (by simp [results, Try.results52, go_sem, cR0, cR1, cR2]) rfl ⟨by rw [HF.out], G3.out⟩
end Go.Proofs.Ytajigndlcdiinaa
