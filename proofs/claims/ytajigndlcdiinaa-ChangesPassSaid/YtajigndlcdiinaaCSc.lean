/- Package edit's reference: the letters of mixed are those that the steps speak of, plain. -/
import Derived.Test.YtajigndlcdiinaaCSb
import Derived.Test.YtajigndlcdiinaaCQ3
import Derived.Test.YtajigndlcdiinaaCRn
import Derived.Test.YtajigndlcdiinaaCQ2
namespace Go.Proofs.Ytajigndlcdiinaa
open Go.RowKit

theorem nwL_news (es : List Ed) (p : Int) : nwL es p = newsAt (goP es 0) p := by
  unfold nwL newsAt goP
  rw [List.flatMap_map]
  simp only [Int.add_zero]
  rfl
theorem gnL_gone (es : List Ed) (p : Int) : gnL es p = goneP (goP es 0) p := by
  unfold gnL goneP goP
  rw [List.any_map]
  congr 1
  funext e
  simp [gnE]
theorem mixB_add (f : Bool) (A B : List Pce) (n : Int) : ∀ (j : Nat) (p : Int) (k : Nat), mixB f A B n p (j + k) = mixB f A B n p j ++ mixB f A B n (p + j) k
  | 0, p, k => by simp [mixB]
  | j + 1, p, k => by
    rw [show j + 1 + k = (j + k) + 1 by omega, mixB, mixB, mixB_add f A B n j (p + 1) k]
    rw [show p + 1 + (j : Int) = p + ((j + 1 : Nat) : Int) by omega]
    simp only [List.append_assoc]
theorem mxAt_true (A B : List Ed) (n p : Int) : (mxAt A B n p).map (fun x => (x.1, x.2.1)) = mixB true (goP A 0) (goP B 0) n p 1 := by
  rw [mxAt, mixB, mixB, List.map_append, List.map_append, List.append_nil, if_pos rfl, ← nwL_news, ← nwL_news, ← gnL_gone, ← gnL_gone, kpL]
  congr 1
  · simp [tgA, tgB, Function.comp_def]
  · split <;> rfl
theorem mxAt_false (A B : List Ed) (n p : Int) : (mxAt A B n p).map (fun x => (x.1, x.2.2)) = mixB false (goP B 0) (goP A 0) n p 1 := by
  rw [mxAt, mixB, mixB, List.map_append, List.map_append, List.append_nil, if_neg (by decide), ← nwL_news, ← nwL_news, ← gnL_gone, ← gnL_gone, kpL]
  congr 1
  · simp [tgA, tgB, Function.comp_def]
  · by_cases h : p < n ∧ gnL A p = false ∧ gnL B p = false
    · rw [if_pos h, if_pos ⟨h.1, h.2.2, h.2.1⟩]; rfl
    · rw [if_neg h, if_neg (fun g => h ⟨g.1, g.2.2, g.2.1⟩)]; rfl
theorem mxP_true (A B : List Ed) (n : Int) : ∀ k : Nat, (mxP A B n k).map (fun x => (x.1, x.2.1)) = mixB true (goP A 0) (goP B 0) n 0 k
  | 0 => rfl
  | k + 1 => by
    rw [mxP, List.map_append, mxP_true A B n k, mxAt_true, mixB_add, Int.zero_add]
theorem mxP_false (A B : List Ed) (n : Int) : ∀ k : Nat, (mxP A B n k).map (fun x => (x.1, x.2.2)) = mixB false (goP B 0) (goP A 0) n 0 k
  | 0 => rfl
  | k + 1 => by
    rw [mxP, List.map_append, mxP_false A B n k, mxAt_false, mixB_add, Int.zero_add]
theorem mxP_letters (A B : List Ed) (n : Int) (k : Nat) : (mxP A B n k).map (·.1) = mixTo (goP A 0) (goP B 0) n 0 k := by
  rw [← mixB_true, ← mxP_true, List.map_map]; rfl
theorem mixTo_le (A B : List Pce) (n : Int) : ∀ (k : Nat) (p : Int), (mixTo A B n p k).length ≤ (gTo A n p k).length + (gTo B n p k).length
  | 0, _ => Nat.zero_le _
  | k + 1, p => by
    have ih := mixTo_le A B n k (p + 1)
    rw [mixTo, mixAt, gTo, gTo]
    simp only [List.length_append]
    have : ((if p < n ∧ goneP A p = false ∧ goneP B p = false then [(p, (0 : UInt8))] else []) : List Let).length ≤ ((if p < n ∧ goneP A p = false then [(p, (0 : UInt8))] else []) : List Let).length := by
      by_cases h : p < n ∧ goneP A p = false ∧ goneP B p = false
      · rw [if_pos h, if_pos ⟨h.1, h.2.1⟩]; exact Nat.le_refl _
      · rw [if_neg h]; exact Nat.zero_le _
    omega
theorem gTo_right {n : Int} {es : List Ed} (h : changeFault n es = 0) : gTo (goP es 0) n 0 (n + 1).toNat = flowL es n := by
  obtain ⟨hn, -, hr, -⟩ := changeFault_zero h
  have e := gTo_flow n es 0 hn.1 (by simpa using hr) (fun e he => ((right_all h).2.2.2.1 e he).2.2.2.2)
  rw [Int.sub_zero] at e
  rw [e, flowL_go]
theorem mixTo_right {n : Int} {es fs : List Ed} (h : changeFault n es = 0) (g : changeFault n fs = 0) : (mixTo (goP es 0) (goP fs 0) n 0 (n + 1).toNat).length ≤ 40000 := by
  have := mixTo_le (goP es 0) (goP fs 0) n (n + 1).toNat 0
  rw [gTo_right h, gTo_right g] at this
  have h6 := (right_all h).2.2.2.2.2
  have g6 := (right_all g).2.2.2.2.2
  omega
theorem mixB_lt (f : Bool) (A B : List Pce) (n : Int) (hn : 0 ≤ n) : ∀ (k : Nat) (p : Int), ∀ x ∈ mixB f A B n p k, x.1.1 < n
  | 0, _, x, hx => by cases hx
  | k + 1, p, x, hx => by
    have hA := news_neg A p
    have hB := news_neg B p
    rw [mixB] at hx
    rcases List.mem_append.1 hx with hx | hx
    · rcases List.mem_append.1 hx with hx | hx
      · cases f with
        | true =>
          rw [if_pos rfl] at hx
          rcases List.mem_append.1 hx with hx | hx
          · obtain ⟨y, hy, rfl⟩ := List.mem_map.1 hx; have := hA y hy; simp only; omega
          · obtain ⟨y, hy, rfl⟩ := List.mem_map.1 hx; have := hB y hy; simp only; omega
        | false =>
          rw [if_neg (by decide)] at hx
          rcases List.mem_append.1 hx with hx | hx
          · obtain ⟨y, hy, rfl⟩ := List.mem_map.1 hx; have := hB y hy; simp only; omega
          · obtain ⟨y, hy, rfl⟩ := List.mem_map.1 hx; have := hA y hy; simp only; omega
      · split at hx
        · rename_i h
          obtain rfl := List.mem_singleton.1 hx
          exact h.1
        · cases hx
    · exact mixB_lt f A B n hn k (p + 1) x hx
theorem editsLen_le (ls : List Let) (n : Int) (hI : ∀ x ∈ ls, x.1 ≤ 100000) : (editsOf n ls).length ≤ ls.length + 1 := by
  have h := (edTo_bd ls hI ls.length (Nat.le_refl _)).2.2.2
  unfold editsOf closeE
  split
  · simp; omega
  · omega
/-- What the reference answers. -/
def bothRL (n : Int) (es fs : List Ed) : List Ed := editsOf n (mixTo (goP es 0) (goP fs 0) n 0 (n + 1).toNat)
def bothRE (n : Int) (es fs : List Ed) : Int := if bothFaultv n es fs ≠ 0 then bothFaultv n es fs else if (mixTo (goP es 0) (goP fs 0) n 0 (n + 1).toNat).length > 20000 then 2 else manyv (bothRL n es fs).length
def pastRA (n : Int) (es fs : List Ed) : List Ed := editsOf (posTo (goP es 0) n 0 0 (n + 1).toNat) (pasTo true (goP es 0) (goP fs 0) n 0 0 (n + 1).toNat)
def pastRB (n : Int) (es fs : List Ed) : List Ed := editsOf (posTo (goP fs 0) n 0 0 (n + 1).toNat) (pasTo false (goP fs 0) (goP es 0) n 0 0 (n + 1).toNat)
def pastRE (n : Int) (es fs : List Ed) : Int := if bothFaultv n es fs ≠ 0 then bothFaultv n es fs else if (mixTo (goP es 0) (goP fs 0) n 0 (n + 1).toNat).length > 20000 then 2 else if manyv (pastRA n es fs).length ≠ 0 then manyv (pastRA n es fs).length else manyv (pastRB n es fs).length
theorem flowGo_sum (n : Int) : ∀ (es : List Ed) (b a : Int), Right n b es → a ≤ b + 1 → a ≤ n → ((flowGo n a es).length : Int) = n - a + newSum es - oldSum es
  | [], b, a, _, _, ha => by
    rw [flowGo, gapL, keepL_len]
    simp only [newSum, oldSum]
    omega
  | e :: r, b, a, h, h1, ha => by
    obtain ⟨q1, q2, q3, q4, q5, q6⟩ := h
    have hr := q6
    have ih := flowGo_sum n r (e.at_ + e.old) (e.at_ + e.old) hr (by omega) (by omega)
    rw [flowGo, gapL, List.length_append, List.length_append, keepL_len]
    have hn : (newL e.new e.new.size).length = e.new.size := by simp [newL]
    rw [hn]
    simp only [newSum, oldSum]
    omega
theorem flow_len {n : Int} {es : List Ed} (h : changeFault n es = 0) : lenGo n es = ((flowL es n).length : Int) := by
  obtain ⟨hn, -, hr, -⟩ := changeFault_zero h
  rw [flowL_go, flowGo_sum n es (-1) 0 hr (by omega) hn.1, lenGo_sum]
  omega

theorem both_same (n : Int) (es fs : List Ed) : bothE n es fs (stepsOf n es fs) = bothRE n es fs ∧ bothL n es fs (stepsOf n es fs) = if bothRE n es fs = 0 then bothRL n es fs else [] := by
  have hspec : (bothFaultv n es fs = 0 → Runs (goP es 0) (goP fs 0) n 0 pcZ 0 pcZ 0 (stepsOf n es fs)) ∧ (∀ x ∈ stepsOf n es fs, StpOk x) ∧ (stepsOf n es fs).length ≤ 20001 ∧ longs (stepsOf n es fs) ≤ 20000 := (steps_ex n es fs).choose_spec
  generalize stepsOf n es fs = xs at hspec ⊢
  obtain ⟨h1, h2, h3, h4⟩ := hspec
  have hE : bothE n es fs xs = bothRE n es fs ∧ (bothFaultv n es fs = 0 → (xs.foldl bothS drZ).close.out = bothRL n es fs) := by
    by_cases h0 : bothFaultv n es fs = 0
    · obtain ⟨g1, g2⟩ := both_zero h0
      have hr := h1 h0
      have hs := both_says g1 g2 hr h2
      have hl := both_len hr h2
      rw [steps_mix g1 g2 hr] at hl
      refine ⟨?_, fun _ => hs⟩
      have hf : ¬ (bothFaultv n es fs ≠ 0) := by omega
      unfold bothE bothRE
      simp only [if_neg hf]
      rw [hl, hs]
      unfold manyv bothRL
      generalize hm : (mixTo (goP es 0) (goP fs 0) n 0 (n + 1).toNat) = M
      generalize (editsOf n M).length = q
      by_cases q1 : M.length > 20000
      · have q1' : (M.length : Int) > 20000 := by omega
        simp [q1, q1']
      · have q1' : ¬ (M.length : Int) > 20000 := by omega
        by_cases q2 : q > 2000 <;> simp [q1, q1', q2]
    · refine ⟨?_, fun h => absurd h h0⟩
      unfold bothE bothRE
      rw [if_pos h0, if_pos h0]
  refine ⟨hE.1, ?_⟩
  unfold bothL
  rw [hE.1]
  by_cases h : bothRE n es fs = 0
  · rw [if_pos h, if_pos h]
    refine hE.2 ?_
    unfold bothRE at h
    by_cases h0 : bothFaultv n es fs = 0
    · exact h0
    · rw [if_pos h0] at h; exact h
  · rw [if_neg h, if_neg h]
theorem past_same (n : Int) (es fs : List Ed) : pastE n es fs (stepsOf n es fs) = pastRE n es fs ∧ pastLA n es fs (stepsOf n es fs) = (if pastRE n es fs = 0 then pastRA n es fs else []) ∧ pastLB n es fs (stepsOf n es fs) = if pastRE n es fs = 0 then pastRB n es fs else [] := by
  have hspec : (bothFaultv n es fs = 0 → Runs (goP es 0) (goP fs 0) n 0 pcZ 0 pcZ 0 (stepsOf n es fs)) ∧ (∀ x ∈ stepsOf n es fs, StpOk x) ∧ (stepsOf n es fs).length ≤ 20001 ∧ longs (stepsOf n es fs) ≤ 20000 := (steps_ex n es fs).choose_spec
  generalize stepsOf n es fs = xs at hspec ⊢
  obtain ⟨h1, h2, h3, h4⟩ := hspec
  have hE : pastE n es fs xs = pastRE n es fs ∧ (bothFaultv n es fs = 0 → (xs.foldl pastA drZ).close.out = pastRA n es fs ∧ (xs.foldl pastB drZ).close.out = pastRB n es fs) := by
    by_cases h0 : bothFaultv n es fs = 0
    · obtain ⟨g1, g2⟩ := both_zero h0
      have hr := h1 h0
      obtain ⟨hsA, hsB⟩ := past_says g1 g2 hr h2
      have hl := past_len g1 g2 hr h2
      refine ⟨?_, fun _ => ⟨hsA, hsB⟩⟩
      have hf : ¬ (bothFaultv n es fs ≠ 0) := by omega
      unfold pastE pastRE
      simp only [if_neg hf]
      rw [flow_len g1, ← pos_len g1, hl, hsA, hsB]
      unfold manyv pastRA pastRB
      generalize (mixTo (goP es 0) (goP fs 0) n 0 (n + 1).toNat).length = M
      generalize (editsOf (posTo (goP es 0) n 0 0 (n + 1).toNat) (pasTo true (goP es 0) (goP fs 0) n 0 0 (n + 1).toNat)).length = a
      generalize (editsOf (posTo (goP fs 0) n 0 0 (n + 1).toNat) (pasTo false (goP fs 0) (goP es 0) n 0 0 (n + 1).toNat)).length = b
      by_cases q1 : M > 20000
      · have q1' : (M : Int) > 20000 := by omega
        simp [q1, q1']
      · have q1' : ¬ (M : Int) > 20000 := by omega
        by_cases q2 : a > 2000
        · simp [q1, q1', q2]
        · by_cases q3 : b > 2000 <;> simp [q1, q1', q2, q3]
    · refine ⟨?_, fun h => absurd h h0⟩
      unfold pastE pastRE
      rw [if_pos h0, if_pos h0]
  have hz : pastRE n es fs = 0 → bothFaultv n es fs = 0 := fun h => by
    unfold pastRE at h
    by_cases h0 : bothFaultv n es fs = 0
    · exact h0
    · rw [if_pos h0] at h; exact h
  refine ⟨hE.1, ?_, ?_⟩
  · unfold pastLA
    rw [hE.1]
    by_cases h : pastRE n es fs = 0
    · rw [if_pos h, if_pos h]; exact (hE.2 (hz h)).1
    · rw [if_neg h, if_neg h]
  · unfold pastLB
    rw [hE.1]
    by_cases h : pastRE n es fs = 0
    · rw [if_pos h, if_pos h]; exact (hE.2 (hz h)).2
    · rw [if_neg h, if_neg h]
end Go.Proofs.Ytajigndlcdiinaa
