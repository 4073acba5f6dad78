/- Package edit: a change behind another one touches only what is near to it, plain. Package edit: the near part of a change alone is made anew, plain. Package edit: then near the second change alone, plain: the whole. Package edit: what merged answers, plain. Package edit: what letters make is a right change, plain. -/
import Derived.Test.YtajigndlcdiinaaDTe
import Derived.Test.YtajigndlcdiinaaDTb
import Derived.Test.YtajigndlcdiinaaDQ3
namespace Go.Proofs.Ytajigndlcdiinaa
open Go.RowKit

theorem keepL_add (a : Int) (j : Nat) : ∀ k : Nat, keepL a (j + k) = keepL a j ++ keepL (a + j) k
  | 0 => by simp [keepL]
  | k + 1 => by
    rw [← Nat.add_assoc, keepL, keepL_add a j k, keepL, List.append_assoc]
    congr 4
    omega
theorem gapL_split {a b c : Int} (h1 : a ≤ b) (h2 : b ≤ c) : gapL a c = gapL a b ++ gapL b c := by
  unfold gapL
  have e : (c - a).toNat = (b - a).toNat + (c - b).toNat := by omega
  rw [e, keepL_add]
  congr 2
  omega
theorem gapL_nil {a b : Int} (h : b ≤ a) : gapL a b = [] := by
  unfold gapL
  rw [show (b - a).toNat = 0 by omega]; rfl
theorem gapL_one (a : Int) : gapL a (a + 1) = [(a, 0)] := by
  unfold gapL
  rw [show (a + 1 - a).toNat = 1 by omega]; simp [keepL]

/-- The letters of a change in two parts. -/
theorem flow_split {n P : Int} {es2 : List Ed} (h2 : Right n (P - 1) es2) (hPn : P ≤ n) : ∀ (es1 : List Ed) (x b : Int), Right P b es1 → x ≤ b + 1 → x ≤ P → flowGo n x (es1 ++ es2) = flowGo P x es1 ++ flowGo n P es2
  | [], x, b, _, _, hx => by
    rw [List.nil_append, flowGo]
    cases es2 with
    | nil => rw [flowGo, flowGo]; exact gapL_split hx hPn
    | cons e r =>
      obtain ⟨q1, q2, q3, -⟩ := h2
      rw [flowGo, flowGo, gapL_split hx (show P ≤ e.at_ by omega)]
      simp only [List.append_assoc]
  | e :: r, x, b, ⟨q1, q2, q3, q4, q5, q6⟩, hx, hxP => by
    rw [List.cons_append, flowGo, flowGo, flow_split h2 hPn r (e.at_ + e.old) (e.at_ + e.old) q6 (by omega) (by omega)]
    simp only [List.append_assoc]
theorem Right.lt {n b : Int} : ∀ {es : List Ed} {b' : Int}, Right n b es → b' ≤ b → Right n b' es
  | [], _, _, _ => trivial
  | e :: _, _, ⟨q1, q2, q3, q4, q5, q6⟩, h => ⟨by omega, q2, q3, q4, q5, q6⟩
theorem Right.wide {n m : Int} (hnm : n ≤ m) : ∀ {es : List Ed} {b : Int}, Right n b es → Right m b es
  | [], _, _ => trivial
  | e :: r, _, ⟨q1, q2, q3, q4, q5, q6⟩ => ⟨q1, q2, by omega, q4, by omega, Right.wide hnm q6⟩
theorem Right.app {n : Int} : ∀ {es fs : List Ed} {b : Int}, Right n b (es ++ fs) → Right n b es ∧ Right n (lastEnd b es) fs
  | [], _, _, h => ⟨trivial, h⟩
  | e :: r, fs, b, ⟨q1, q2, q3, q4, q5, q6⟩ => by
    obtain ⟨h1, h2⟩ := Right.app (es := r) q6
    exact ⟨⟨q1, q2, q3, q4, q5, h1⟩, h2⟩
/-- A right change lies up to its last end. -/
theorem Right.upto {n : Int} : ∀ {es : List Ed} {b c : Int}, Right n b es → lastEnd b es ≤ c → Right c b es
  | [], _, _, _, _ => trivial
  | e :: r, b, c, ⟨q1, q2, q3, q4, q5, q6⟩, h => by
    have h3 := (oldSum_le n r _ q6).2.2.2
    rw [lastEnd] at h
    exact ⟨q1, q2, by omega, q4, by omega, Right.upto q6 h⟩

/-- How the draft of the letters goes on. -/
def finE (m : Int) (st : Int × ByteArray × List Ed) : List Ed := closeE st.1 m st.2.1 st.2.2
theorem closeE_out (a q : Int) (t : ByteArray) (out : List Ed) : closeE a q t out = out ++ closeE a q t [] := by
  unfold closeE
  split <;> simp
theorem edFold_out : ∀ (ls : List Let) (a : Int) (t : ByteArray) (out : List Ed), edFold (a, t, out) ls = ((edFold (a, t, []) ls).1, (edFold (a, t, []) ls).2.1, out ++ (edFold (a, t, []) ls).2.2)
  | [], _, _, _ => by simp [edFold]
  | x :: r, a, t, out => by
    have e : ∀ o, edFold (a, t, o) (x :: r) = edFold (edStep (a, t, o) x) r := fun _ => rfl
    rw [e, e]
    unfold edStep
    split
    · exact edFold_out r _ _ _
    · simp only
      rw [edFold_out r _ _ (closeE a x.1 t out), edFold_out r _ _ (closeE a x.1 t []), closeE_out a x.1 t out]
      simp only [List.append_assoc]
theorem edFold_bridge {x : Int} (hx : 0 ≤ x) (c : UInt8) (Z : List Let) (A : Int) (t : ByteArray) (out : List Ed) : edFold (A, t, out) ((x, c) :: Z) = edFold (x, ⟨#[]⟩, closeE A x t out) ((x, c) :: Z) := by
  have e : ∀ s, edFold s ((x, c) :: Z) = edFold (edStep s (x, c)) Z := fun _ => rfl
  rw [e, e]
  unfold edStep
  simp only
  rw [if_neg (by omega), if_neg (by omega), closeE_same]
theorem edFold_gap {a b : Int} (h0 : 0 ≤ a) (h : a ≤ b) (out : List Ed) : edFold (a, ⟨#[]⟩, out) (gapL a b) = (b, ⟨#[]⟩, out) := by
  by_cases e : a = b
  · subst e; rw [gapL_nil (Int.le_refl _)]; rfl
  · unfold gapL
    rw [keepL_map, edFold_kept a _ out a h0 (fun _ => 0) _ (by omega), closeE_same]
    congr 1; omega
theorem flow_cons {n y : Int} {r : List Ed} (hy : y < n) (h : Right n y r) : flowGo n y r = (y, 0) :: flowGo n (y + 1) r := by
  cases r with
  | nil => rw [flowGo, flowGo, gapL_split (show y ≤ y + 1 by omega) (by omega), gapL_one]; rfl
  | cons e r =>
    obtain ⟨q1, -⟩ := h
    rw [flowGo, flowGo, gapL_split (show y ≤ y + 1 by omega) (show y + 1 ≤ e.at_ by omega), gapL_one]; rfl
theorem closeE_ed {e : Ed} (hf : 0 < e.old ∨ e.new.size ≠ 0) (out : List Ed) : closeE e.at_ (e.at_ + e.old) e.new out = out ++ [e] := by
  unfold closeE
  rw [if_pos (by omega), show e.at_ + e.old - e.at_ = e.old by omega]
theorem edFold_news (A : Int) (s : ByteArray) (out : List Ed) (Z : List Let) : edFold (A, ⟨#[]⟩, out) (newL s s.size ++ Z) = edFold (A, s, out) Z := by
  rw [edFold_app, newL_all, edFold_new]
  congr 2
/-- What makes the letters of a change, up to a letter that is kept. -/
theorem ed_flow {P : Int} : ∀ (es : List Ed) (x b : Int) (out : List Ed), Right (P - 1) b es → x ≤ b + 1 → 0 ≤ x → x ≤ P → (∀ e ∈ es, 0 < e.old ∨ e.new.size ≠ 0) → edFold (x, ⟨#[]⟩, out) (flowGo P x es) = (P, ⟨#[]⟩, out ++ es)
  | [], x, _, out, _, _, h0, hx, _ => by rw [flowGo, edFold_gap h0 hx, List.append_nil]
  | e :: r, x, b, out, ⟨q1, q2, q3, q4, q5, q6⟩, hb, h0, hx, hf => by
    have hP : e.at_ + e.old < P := by omega
    have ih := ed_flow r (e.at_ + e.old) (e.at_ + e.old) (out ++ [e]) q6 (by omega) (by omega) (by omega) (fun e' he => hf e' (List.mem_cons_of_mem _ he))
    rw [flowGo, List.append_assoc, edFold_app, edFold_gap h0 (by omega), edFold_news]
    rw [flow_cons hP (Right.wide (by omega) q6)] at ih ⊢
    rw [edFold_bridge (by omega), closeE_ed (hf e List.mem_cons_self), ih, List.append_assoc]; rfl
theorem ed_end {n : Int} : ∀ (es : List Ed) (x b : Int) (out : List Ed), Right n b es → x ≤ b + 1 → 0 ≤ x → x ≤ n → (∀ e ∈ es, 0 < e.old ∨ e.new.size ≠ 0) → finE n (edFold (x, ⟨#[]⟩, out) (flowGo n x es)) = out ++ es
  | [], x, _, out, _, _, h0, hx, _ => by rw [flowGo, edFold_gap h0 hx, finE, closeE_same, List.append_nil]
  | e :: r, x, b, out, ⟨q1, q2, q3, q4, q5, q6⟩, hb, h0, hx, hf => by
    have ih := ed_end r (e.at_ + e.old) (e.at_ + e.old) (out ++ [e]) q6 (by omega) (by omega) (by omega) (fun e' he => hf e' (List.mem_cons_of_mem _ he))
    have hfe := closeE_ed (hf e List.mem_cons_self)
    rw [flowGo, List.append_assoc, edFold_app, edFold_gap h0 (by omega), edFold_news]
    by_cases hP : e.at_ + e.old < n
    · rw [flow_cons hP q6] at ih ⊢
      rw [edFold_bridge (by omega), hfe, ih, List.append_assoc]; rfl
    · obtain hP : e.at_ + e.old = n := by omega
      cases r with
      | nil =>
        rw [flowGo, gapL_nil (by omega)]
        show closeE e.at_ n e.new out = _
        rw [← hP, hfe]
      | cons g r => obtain ⟨c1, c2, c3, -⟩ := q6; omega
/-- A change that is right is what makes its letters. -/
theorem flow_edits {n : Int} {es : List Ed} (h0 : 0 ≤ n) (h : Right n (-1) es) (hf : ∀ e ∈ es, 0 < e.old ∨ e.new.size ≠ 0) : editsOf n (flowL es n) = es := by
  rw [editsOf_fold, flowL_go]
  have := ed_end es 0 (-1) [] h (by omega) (Int.le_refl _) h0 hf
  rwa [List.nil_append] at this
/-- Letters with the same middle: the edits have the same middle. -/
theorem edits_local {n P R : Int} {H H' U T T' : List Let} {A1 A2 : List Ed} (h1 : edFold (0, ⟨#[]⟩, []) H = (P, ⟨#[]⟩, A1)) (h2 : edFold (0, ⟨#[]⟩, []) H' = (P, ⟨#[]⟩, []))
    (h3 : (T = [] ∧ T' = [] ∧ A2 = []) ∨ (0 < R ∧ (∃ U', U = U' ++ [(R - 1, 0)]) ∧ (∀ out, finE n (edFold (R, ⟨#[]⟩, out) T) = out ++ A2) ∧ (∀ out, finE n (edFold (R, ⟨#[]⟩, out) T') = out))) :
    editsOf n (H ++ U ++ T) = A1 ++ editsOf n (H' ++ U ++ T') ++ A2 := by
  rw [editsOf_fold, editsOf_fold]
  show finE n _ = A1 ++ finE n _ ++ A2
  rw [List.append_assoc H, List.append_assoc H', edFold_app _ H, edFold_app _ H', h1, h2]
  rcases h3 with ⟨rfl, rfl, rfl⟩ | ⟨hR, ⟨U', rfl⟩, t1, t2⟩
  · simp only [List.append_nil]
    rw [edFold_out]
    unfold finE
    rw [closeE_out]
    rw [closeE_out _ _ _ (edFold _ _).2.2]
    simp only [List.append_assoc]
  · have e : ∀ out, edFold (P, ⟨#[]⟩, out) (U' ++ [(R - 1, 0)]) = (R, ⟨#[]⟩, out ++ (edFold (P, ⟨#[]⟩, []) (U' ++ [(R - 1, 0)])).2.2) := by
      intro out
      rw [edFold_out]
      have k : ∀ s, edFold s (U' ++ [(R - 1, 0)]) = edStep (edFold s U') (R - 1, 0) := fun s => by rw [edFold_app]; rfl
      rw [k]
      unfold edStep
      rw [if_neg (by show ¬ R - 1 < 0; omega)]
      simp only [Prod.mk.injEq, and_true]
      omega
    rw [edFold_app _ (U' ++ [(R - 1, 0)]) T, edFold_app _ (U' ++ [(R - 1, 0)]) T', e A1, e [], t1, t2, List.nil_append]
end Go.Proofs.Ytajigndlcdiinaa
namespace Go.Proofs.Ytajigndlcdiinaa
open Go.RowKit

theorem near_spec (b0 : Int) : ∀ (es : List Ed) (i : Nat) (sh c : Int), c + sh < b0 → ∃ A1 A2, es = A1 ++ A2 ∧ nearGo b0 i sh es = (i + A1.length, sh + newSum A1 - oldSum A1) ∧ lastEnd c A1 + (sh + newSum A1 - oldSum A1) < b0
  | [], i, sh, c, h => ⟨[], [], rfl, by simp [nearGo, newSum, oldSum], by simp [lastEnd, newSum, oldSum]; omega⟩
  | e :: r, i, sh, c, h => by
    rw [nearGo]
    split
    · rename_i hc
      obtain ⟨A1, A2, h1, h2, h3⟩ := near_spec b0 r (i + 1) (sh + (e.new.size - e.old)) (e.at_ + e.old) (by omega)
      refine ⟨e :: A1, A2, by rw [h1]; rfl, ?_, ?_⟩
      · rw [h2]
        simp only [Prod.mk.injEq, List.length_cons, newSum, oldSum]
        omega
      · simp only [lastEnd, newSum, oldSum]; omega
    · exact ⟨[], e :: r, rfl, by simp [newSum, oldSum], by simp [lastEnd, newSum, oldSum]; omega⟩
theorem far_spec (bl : Int) : ∀ (es : List Ed) (i : Nat) (sh : Int), ∃ A A2, es = A ++ A2 ∧ farGo bl i sh es = i + A.length ∧ (A2 = [] ∨ ∃ e r, A2 = e :: r ∧ bl < e.at_ + (sh + newSum A - oldSum A))
  | [], i, sh => ⟨[], [], rfl, by simp [farGo], .inl rfl⟩
  | e :: r, i, sh => by
    rw [farGo]
    split
    · rename_i hc
      obtain ⟨A, A2, h1, h2, h3⟩ := far_spec bl r (i + 1) (sh + (e.new.size - e.old))
      refine ⟨e :: A, A2, by rw [h1]; rfl, by rw [h2, List.length_cons]; omega, ?_⟩
      rcases h3 with h3 | ⟨x, y, h3, h4⟩
      · exact .inl h3
      · exact .inr ⟨x, y, h3, by simp only [newSum, oldSum]; omega⟩
    · rename_i hc
      exact ⟨[], e :: r, rfl, by simp, .inr ⟨e, r, rfl, by simp only [newSum, oldSum]; omega⟩⟩

/-- A change whose places are counted from s. -/
def shE (s : Int) (es : List Ed) : List Ed := es.map fun e => ⟨e.at_ - s, e.old, e.new⟩
theorem shE_right {m s : Int} : ∀ {es : List Ed} {b : Int}, Right m b es → (∀ e ∈ es, s ≤ e.at_) → Right (m - s) (b - s) (shE s es)
  | [], _, _, _ => trivial
  | e :: r, b, ⟨q1, q2, q3, q4, q5, q6⟩, hs => by
    have := hs e List.mem_cons_self
    have ih := shE_right q6 (fun e' he => hs e' (List.mem_cons_of_mem _ he))
    refine ⟨by show b - s < e.at_ - s; omega, by show 0 ≤ e.at_ - s; omega, by show e.at_ - s ≤ m - s; omega, q4, by show e.old ≤ m - s - (e.at_ - s); omega, ?_⟩
    have e1 : e.at_ + e.old - s = e.at_ - s + e.old := by omega
    rw [e1] at ih
    exact ih
theorem Right.from {n : Int} : ∀ {es : List Ed} {b c : Int}, Right n b es → (∀ e r, es = e :: r → c < e.at_) → Right n c es
  | [], _, _, _, _ => trivial
  | e :: r, _, _, ⟨_, q2, q3, q4, q5, q6⟩, h => ⟨h e r rfl, q2, q3, q4, q5, q6⟩
theorem Right.ge {n : Int} : ∀ {es : List Ed} {b : Int}, Right n b es → ∀ e ∈ es, b < e.at_
  | [], _, _, _, he => by cases he
  | x :: r, b, ⟨q1, q2, q3, q4, q5, q6⟩, e, he => by
    rcases List.mem_cons.1 he with rfl | he
    · exact q1
    · have := Right.ge q6 e he; omega
theorem Right.end_le {n : Int} {es : List Ed} {b : Int} (h : Right n b es) (hb : b ≤ n) : lastEnd b es ≤ n := (oldSum_le n es b h).2.2.1 hb
theorem Right.end_ge {n : Int} {es : List Ed} {b : Int} (h : Right n b es) : b ≤ lastEnd b es := (oldSum_le n es b h).2.2.2

theorem thenL_app (fl a b : List Let) : thenL fl (a ++ b) = thenL fl a ++ thenL fl b := List.map_append
theorem thenL_news (fl : List Let) (s : ByteArray) : thenL fl (newL s s.size) = newL s s.size := by
  unfold thenL
  rw [newL_all, List.map_map]
  apply List.map_congr_left
  intro c _
  show thenX fl (-1, c) = (-1, c)
  unfold thenX
  rw [if_neg (by show ¬ (0 : Int) ≤ -1; omega)]
theorem thenL_gap {F F' : List Let} {h hk s : Int} (h0 : 0 ≤ h) (hs : s ≤ h) (hF : ∀ i : Int, h ≤ i → i < hk → F.getD i.toNat (0, 0) = F'.getD (i - s).toNat (0, 0)) {x y : Int} (hx : h ≤ x) (hy : y ≤ hk) : thenL F (gapL x y) = thenL F' (gapL (x - s) (y - s)) := by
  unfold gapL thenL
  rw [keepL_map, keepL_map, show (y - s - (x - s)).toNat = (y - x).toNat by omega, List.map_map, List.map_map]
  apply List.map_congr_left
  intro i hi
  have hi := List.mem_range.1 hi
  show thenX F (x + (i : Int), 0) = thenX F' (x - s + (i : Int), 0)
  unfold thenX
  rw [if_pos (by show 0 ≤ x + (i : Int); omega), if_pos (by show 0 ≤ x - s + (i : Int); omega)]
  show F.getD (x + (i : Int)).toNat _ = F'.getD (x - s + (i : Int)).toNat _
  rw [hF _ (by omega) (by omega)]
  congr 2
  omega
theorem thenL_flow {F F' : List Let} {h hk s : Int} (h0 : 0 ≤ h) (hs : s ≤ h) (hF : ∀ i : Int, h ≤ i → i < hk → F.getD i.toNat (0, 0) = F'.getD (i - s).toNat (0, 0)) : ∀ (es : List Ed) (x b : Int), Right hk b es → h ≤ x → x ≤ b + 1 → thenL F (flowGo hk x es) = thenL F' (flowGo (hk - s) (x - s) (shE s es))
  | [], x, _, _, hx, _ => thenL_gap h0 hs hF hx (Int.le_refl _)
  | e :: r, x, b, ⟨q1, q2, q3, q4, q5, q6⟩, hx, hb => by
    have ih := thenL_flow h0 hs hF r (e.at_ + e.old) (e.at_ + e.old) q6 (by omega) (by omega)
    have e1 : shE s (e :: r) = ⟨e.at_ - s, e.old, e.new⟩ :: shE s r := rfl
    rw [e1, flowGo, flowGo, thenL_app, thenL_app, thenL_app, thenL_app, thenL_news, thenL_news, thenL_gap h0 hs hF hx q3, ih]
    congr 3
    show e.at_ + e.old - s = e.at_ - s + e.old
    omega
theorem thenL_keep (fl : List Let) (a k : Nat) (h : a + k ≤ fl.length) : thenL fl (keepL a k) = (fl.drop a).take k := by
  unfold thenL
  rw [keepL_map, List.map_map]
  apply List.ext_getElem?
  intro i
  by_cases hi : i < k
  · rw [List.getElem?_take_of_lt hi, List.getElem?_drop, List.getElem?_map, List.getElem?_range hi, Option.map_some]
    show some (thenX fl ((a : Int) + (i : Int), 0)) = _
    unfold thenX
    rw [if_pos (by show 0 ≤ (a : Int) + (i : Int); omega)]
    have e : ((a : Int) + (i : Int)).toNat = a + i := by omega
    show some (fl.getD ((a : Int) + (i : Int)).toNat _) = _
    rw [e, List.getD_eq_getElem?_getD, List.getElem?_eq_getElem (by omega : a + i < fl.length)]
    rfl
  · rw [List.getElem?_eq_none (by simp; omega), List.getElem?_eq_none (by simp; omega)]
/-- A change that is made within the middle of letters. -/
theorem then_parts (H S T : List Let) {es : List Ed} (hr : Right ((H.length : Int) + S.length) ((H.length : Int) - 1) es) :
    thenL (H ++ (S ++ T)) (flowL es ((H ++ (S ++ T)).length : Int)) = H ++ thenL (H ++ (S ++ T)) (flowGo ((H.length : Int) + S.length) H.length es) ++ T := by
  have hl : ((H ++ (S ++ T)).length : Int) = H.length + S.length + T.length := by simp; omega
  have hr2 : Right ((H ++ (S ++ T)).length : Int) ((H.length : Int) - 1) es := Right.wide (by omega) hr
  have f1 := flow_split (n := ((H ++ (S ++ T)).length : Int)) (P := (H.length : Int)) (es2 := es) hr2 (by omega) [] 0 (-1) trivial (by omega) (by omega)
  have f2 := flow_split (n := ((H ++ (S ++ T)).length : Int)) (P := (H.length : Int) + S.length) (es2 := []) trivial (by omega) es H.length ((H.length : Int) - 1) hr (by omega) (by omega)
  rw [List.nil_append] at f1
  rw [List.append_nil] at f2
  rw [flowL_go, f1, f2, thenL_app, thenL_app, ← List.append_assoc]
  congr 2
  · rw [flowGo]
    have := thenL_keep (H ++ (S ++ T)) 0 H.length (by simp)
    unfold gapL
    rw [show ((H.length : Int) - 0).toNat = H.length by omega, show (0 : Int) = ((0 : Nat) : Int) from rfl, this]
    simp
  · rw [flowGo]
    have := thenL_keep (H ++ (S ++ T)) (H.length + S.length) T.length (by simp; omega)
    unfold gapL
    rw [show (((H ++ (S ++ T)).length : Int) - ((H.length : Int) + S.length)).toNat = T.length by omega, show (H.length : Int) + (S.length : Int) = ((H.length + S.length : Nat) : Int) by omega, this, ← List.append_assoc, List.drop_left' (by simp), List.take_length]
end Go.Proofs.Ytajigndlcdiinaa
namespace Go.Proofs.Ytajigndlcdiinaa
open Go.RowKit

theorem getD_in (H S T : List Let) (i : Nat) (h1 : H.length ≤ i) (h2 : i < H.length + S.length) : (H ++ (S ++ T)).getD i (0, 0) = S.getD (i - H.length) (0, 0) := by
  rw [List.getD_eq_getElem?_getD, List.getD_eq_getElem?_getD, List.getElem?_append_right h1, List.getElem?_append_left (by omega)]
theorem ends_of {m h hk bl : Int} {fs : List Ed} {b : Int} (hr : Right m b fs) (_ : fs ≠ []) (hb : ∀ e r, fs = e :: r → h ≤ e.at_) (hbl : lastEnd b fs = bl) (hk' : bl ≤ hk) : Right hk (h - 1) fs := Right.from (Right.upto hr (by omega)) (fun e r he => by have := hb e r he; omega)

/-- The letters behind both, told by those near to the second change. -/
theorem then_local {n m : Int} {es fs : List Ed} {g : Ed} {fr : List Ed} (h0 : 0 ≤ n) (hr : Right n (-1) es) (hf : ∀ e ∈ es, 0 < e.old ∨ e.new.size ≠ 0) (hm : ((flowL es n).length : Int) = m) (hfs : fs = g :: fr) (hr2 : Right m (-1) fs) {b0 bl : Int} (hb0 : g.at_ = b0) (hbl : lastEnd (-1) fs = bl) :
    ∃ A1 A A2 s, es = A1 ++ (A ++ A2) ∧ nearGo b0 0 0 es = (A1.length, s) ∧ farGo bl A1.length s (es.drop A1.length) = A1.length + A.length ∧ Right n (-1) A ∧ 0 ≤ n + newSum A - oldSum A ∧ Right (n + newSum A - oldSum A) (-1) (shE s fs) ∧
      editsOf n (thenFl n es fs) = A1 ++ editsOf n (thenFl n A (shE s fs)) ++ A2 := by
  have hg : -1 < g.at_ := by rw [hfs] at hr2; exact hr2.1
  obtain ⟨A1, B, rfl, hn1, hn2⟩ := near_spec b0 es 0 0 (-1) (by omega)
  rw [Nat.zero_add, Int.zero_add] at hn1
  rw [Int.zero_add] at hn2
  obtain ⟨s, hs⟩ : ∃ s : Int, s = newSum A1 - oldSum A1 := ⟨_, rfl⟩
  have hn1' : nearGo b0 0 0 (A1 ++ B) = (A1.length, s) := by rw [hn1, hs]
  obtain ⟨A, A2, rfl, hf1, hf2⟩ := far_spec bl B A1.length s
  obtain ⟨r1, r2⟩ := hr.app
  obtain ⟨r3, r4⟩ := r2.app
  have g1 := r1.end_ge
  have g2 := r3.end_ge
  have len := flowGo_len n (A1 ++ (A ++ A2)) 0 (-1) hr (by omega) (by omega) h0
  rw [← flowL_go, hm, newSum_app, newSum_app, oldSum_app, oldSum_app] at len
  have hblm : bl ≤ m := by have := hr2.end_le (by omega); omega
  have hbb : b0 ≤ bl := by
    have : Right m (g.at_ + g.old) fr := by rw [hfs] at hr2; exact hr2.2.2.2.2.2
    have h3 := this.end_ge
    have h4 : 0 ≤ g.old := by rw [hfs] at hr2; exact hr2.2.2.2.1
    rw [hfs, lastEnd] at hbl
    omega
  obtain ⟨P, hP⟩ : ∃ P : Int, P = lastEnd (-1) A1 + 1 := ⟨_, rfl⟩
  -- where the rest begins
  obtain ⟨R, hR1, hR2, hR3, hR4, hR5⟩ : ∃ R : Int, Right n (R - 1) A2 ∧ R ≤ n ∧ lastEnd (lastEnd (-1) A1) A ≤ R ∧ bl ≤ R + (s + newSum A - oldSum A) ∧ ((A2 = [] ∧ R = n) ∨ (lastEnd (lastEnd (-1) A1) A ≤ R - 1 ∧ bl ≤ R - 1 + (s + newSum A - oldSum A))) := by
    rcases hf2 with rfl | ⟨e, r, rfl, h5⟩
    · refine ⟨n, trivial, Int.le_refl _, r3.end_le (r1.end_le (by omega)), ?_, .inl ⟨rfl, rfl⟩⟩
      simp only [newSum, oldSum] at len
      omega
    · obtain ⟨q1, q2, q3, q4, q5, q6⟩ := r4
      exact ⟨e.at_, ⟨by omega, q2, q3, q4, q5, q6⟩, q3, by omega, by omega, .inr ⟨by omega, by omega⟩⟩
  have hPR : P ≤ R := by
    cases A with
    | nil => simp only [newSum, oldSum] at hR4; omega
    | cons e r =>
      obtain ⟨q1, q2, q3, q4, q5, q6⟩ := r3
      have := q6.end_ge
      simp only [lastEnd] at hR3
      omega
  have rA : Right R (P - 1) A := by
    have := Right.upto r3 hR3
    rw [hP]; exact Right.lt this (by omega)
  have rA1 : Right (P - 1) (-1) A1 := Right.upto r1 (by omega)
  have rA1' : Right P (-1) A1 := Right.wide (by omega) rA1
  have rAn : Right n (P - 1) A := Right.wide hR2 rA
  obtain ⟨H, hH⟩ : ∃ H, H = flowGo P 0 A1 := ⟨_, rfl⟩
  obtain ⟨S, hS⟩ : ∃ S, S = flowGo R P A := ⟨_, rfl⟩
  obtain ⟨T, hT⟩ : ∃ T, T = flowGo n R A2 := ⟨_, rfl⟩
  obtain ⟨H', hH'⟩ : ∃ H, H = flowGo P 0 [] := ⟨_, rfl⟩
  obtain ⟨T', hT'⟩ : ∃ T, T = flowGo n R [] := ⟨_, rfl⟩
  have lH : (H.length : Int) = P + s := by rw [hH, flowGo_len P A1 0 (-1) rA1' (by omega) (by omega) (by omega)]; omega
  have lS : (S.length : Int) = R - P + newSum A - oldSum A := by rw [hS, flowGo_len R A P (P - 1) rA (by omega) (by omega) hPR]
  have lH' : (H'.length : Int) = P := by rw [hH', flowGo_len P [] 0 (-1) trivial (by omega) (by omega) (by omega)]; simp [newSum, oldSum]
  have fl1 : flowL (A1 ++ (A ++ A2)) n = H ++ (S ++ T) := by
    have rB : Right n (P - 1) (A ++ A2) := by rw [hP]; exact Right.lt r2 (by omega)
    rw [flowL_go, flow_split rB (by omega) A1 0 (-1) rA1' (by omega) (by omega), flow_split hR1 hR2 A P (P - 1) rA (by omega) hPR, hH, hS, hT]
  have fl2 : flowL A n = H' ++ (S ++ T') := by
    have e1 := flow_split rAn (by omega) [] 0 (-1) trivial (by omega) (show (0 : Int) ≤ P by omega)
    have e2 := flow_split (n := n) (P := R) (es2 := []) trivial hR2 A P (P - 1) rA (by omega) hPR
    rw [List.nil_append] at e1
    rw [List.append_nil] at e2
    rw [flowL_go, e1, e2, hH', hS, hT']
  have rf : Right ((H.length : Int) + S.length) ((H.length : Int) - 1) fs :=
    Right.from (Right.upto hr2 (by omega)) (fun e r he => by
      rw [hfs] at he
      obtain ⟨rfl, rfl⟩ := List.cons.inj he
      omega)
  have hge : ∀ e ∈ fs, s ≤ e.at_ := fun e he => by have := rf.ge e he; omega
  have rf' : Right ((H'.length : Int) + S.length) ((H'.length : Int) - 1) (shE s fs) := by
    have := shE_right rf hge
    rw [show (H.length : Int) + S.length - s = H'.length + S.length by omega, show (H.length : Int) - 1 - s = H'.length - 1 by omega] at this
    exact this
  have hF : ∀ i : Int, (H.length : Int) ≤ i → i < (H.length : Int) + S.length → (H ++ (S ++ T)).getD i.toNat (0, 0) = (H' ++ (S ++ T')).getD (i - s).toNat (0, 0) := fun i i1 i2 => by
    rw [getD_in H S T _ (by omega) (by omega), getD_in H' S T' _ (by omega) (by omega)]
    congr 1
    omega
  obtain ⟨U, hU⟩ : ∃ U, U = thenL (H ++ (S ++ T)) (flowGo ((H.length : Int) + S.length) H.length fs) := ⟨_, rfl⟩
  have hU' : thenL (H' ++ (S ++ T')) (flowGo ((H'.length : Int) + S.length) H'.length (shE s fs)) = U := by
    have := thenL_flow (F := H ++ (S ++ T)) (F' := H' ++ (S ++ T')) (h := H.length) (hk := (H.length : Int) + S.length) (s := s) (by omega) (by omega) hF fs H.length ((H.length : Int) - 1) rf (by omega) (by omega)
    rw [hU, this]
    congr 2 <;> omega
  have t1 : thenFl n (A1 ++ (A ++ A2)) fs = H ++ U ++ T := by
    unfold thenFl
    rw [fl1, then_parts H S T rf, hU]
  have t2 : thenFl n A (shE s fs) = H' ++ U ++ T' := by
    unfold thenFl
    rw [fl2, then_parts H' S T' rf', hU']
  refine ⟨A1, A, A2, s, rfl, hn1', ?_, Right.lt (b' := -1) rAn (by omega), by omega, ?_, ?_⟩
  · rw [List.drop_left' rfl]; exact hf1
  · have e := Right.wide (m := n + newSum A - oldSum A) (by omega) rf'
    exact Right.lt e (by omega)
  · rw [t1, t2]
    refine edits_local (P := P) (R := R) ?_ ?_ ?_
    · rw [hH, ed_flow A1 0 (-1) [] rA1 (by omega) (by omega) (by omega) (fun e he => hf e (by simp [he]))]; rfl
    · rw [hH', ed_flow [] 0 (-1) [] trivial (by omega) (by omega) (by omega) (fun e he => by cases he)]; rfl
    · rcases hR5 with ⟨rfl, rfl⟩ | ⟨k1, k2⟩
      · refine .inl ⟨?_, ?_, rfl⟩
        · rw [hT, flowGo, gapL_nil (by omega)]
        · rw [hT', flowGo, gapL_nil (by omega)]
      · have hPR1 : P ≤ R - 1 := by
          cases A with
          | nil => simp only [newSum, oldSum] at k2; omega
          | cons e r =>
            obtain ⟨q1, q2, q3, q4, q5, q6⟩ := r3
            have := q6.end_ge
            simp only [lastEnd] at k1
            omega
        refine .inr ⟨by omega, ?_, ?_, ?_⟩
        · have e1 := flow_split (n := (H.length : Int) + S.length) (P := (H.length : Int) + S.length - 1) (es2 := []) trivial (by omega) fs H.length ((H.length : Int) - 1) (Right.from (Right.upto hr2 (by omega)) (fun e r he => by
            rw [hfs] at he
            obtain ⟨rfl, rfl⟩ := List.cons.inj he
            omega)) (by omega) (by omega)
          have e2 := flow_split (n := R) (P := R - 1) (es2 := []) trivial (by omega) A P (P - 1) (by
            have := Right.upto r3 k1
            rw [hP]; exact Right.lt this (by omega)) (by omega) hPR1
          rw [List.append_nil] at e1 e2
          refine ⟨thenL (H ++ (S ++ T)) (flowGo ((H.length : Int) + S.length - 1) H.length fs), ?_⟩
          rw [hU, e1, thenL_app]
          congr 1
          have e3 : flowGo ((H.length : Int) + S.length) ((H.length : Int) + S.length - 1) [] = [((H.length : Int) + S.length - 1, 0)] := by
            have := gapL_one ((H.length : Int) + S.length - 1)
            rw [show (H.length : Int) + S.length - 1 + 1 = H.length + S.length by omega] at this
            rw [flowGo, this]
          have e4 : flowGo R (R - 1) [] = [(R - 1, 0)] := by
            have := gapL_one (R - 1)
            rw [show R - 1 + 1 = R by omega] at this
            rw [flowGo, this]
          have e5 : S.getD (S.length - 1) (0, 0) = (R - 1, 0) := by
            rw [← hS, e4] at e2
            rw [e2]
            simp
          rw [e3]
          show [thenX _ _] = _
          unfold thenX
          rw [if_pos (by show 0 ≤ (H.length : Int) + S.length - 1; omega)]
          show [(H ++ (S ++ T)).getD ((H.length : Int) + S.length - 1).toNat (0, 0)] = _
          rw [getD_in H S T _ (by omega) (by omega), ← e5]
          congr 2
          omega
        · intro out
          rw [hT]
          exact ed_end A2 R (R - 1) out hR1 (by omega) (by omega) hR2 (fun e he => hf e (by simp [he]))
        · intro out
          rw [hT']
          have := ed_end [] R (R - 1) out (n := n) trivial (by omega) (by omega) hR2 (fun e he => by cases he)
          rwa [List.append_nil] at this
end Go.Proofs.Ytajigndlcdiinaa
namespace Go.Proofs.Ytajigndlcdiinaa
open Go.RowKit

theorem runs_of4 (n : Int) (hn : n ≤ 40000) (A B : List Pce) : ∀ (k : Nat) (at_ : Int) (la : Pce) (ja : Nat) (lb : Pce) (jb : Nat), 0 ≤ at_ → at_ ≤ n → n - at_ ≤ k → Wst n A la ja at_ → Wst n B lb jb at_ →
    ∃ xs, Runs A B n at_ la ja lb jb xs ∧ (∀ x ∈ xs, StpW x) ∧ xs.length ≤ k + 1 ∧ longs xs ≤ n - at_ := by
  intro k
  induction k with
  | zero =>
    intro at_ la ja lb jb h0 h1 hk hA hB
    obtain rfl : at_ = n := by omega
    obtain ⟨a1, a2, a3, a4⟩ := hA.arr
    obtain ⟨b1, b2, b3, b4⟩ := hB.arr
    obtain ⟨-, na2, na3, -⟩ := nxt_of (Int.le_refl _) a1 a2 a3
    obtain ⟨-, nb2, nb3, -⟩ := nxt_of (Int.le_refl _) b1 b2 b3
    refine ⟨_, .last h0, ?_, by simp, by simp only [longs, stpA, toV]; omega⟩
    intro x hx
    obtain rfl := List.mem_singleton.1 hx
    refine ⟨?_, ?_, a4, b4⟩ <;> (simp only [stpA, toV]; omega)
  | succ k ih =>
    intro at_ la ja lb jb h0 h1 hk hA hB
    obtain ⟨a1, a2, a3, a4⟩ := hA.arr
    obtain ⟨b1, b2, b3, b4⟩ := hB.arr
    obtain ⟨na1, na2, na3, na4⟩ := nxt_of h1 a1 a2 a3
    obtain ⟨nb1, nb2, nb3, nb4⟩ := nxt_of h1 b1 b2 b3
    by_cases he : at_ = n
    · subst he
      refine ⟨_, .last h0, ?_, by simp, by simp only [longs, stpA, toV]; omega⟩
      intro x hx
      obtain rfl := List.mem_singleton.1 hx
      refine ⟨?_, ?_, a4, b4⟩ <;> (simp only [stpA, toV]; omega)
    · have hlt : at_ < n := by omega
      have := na1 hlt
      have := nb1 hlt
      obtain ⟨xs, r1, r2, r3, r4⟩ := ih (toV A B n at_ (arrP A la ja at_) (arrJ A ja at_) (arrP B lb jb at_) (arrJ B jb at_)) _ _ _ _ (by simp only [toV]; omega) (by simp only [toV]; omega) (by simp only [toV]; omega) (na4 _ (by simp only [toV]; omega) (by simp only [toV]; omega)) (nb4 _ (by simp only [toV]; omega) (by simp only [toV]; omega))
      refine ⟨_, .more h0 hlt (by simp only [toV]; omega) r1, ?_, by simp; omega, by simp only [longs, stpA]; omega⟩
      intro x hx
      rcases List.mem_cons.1 hx with rfl | hx
      · refine ⟨?_, ?_, a4, b4⟩ <;> (simp only [stpA, toV]; omega)
      · exact r2 x hx


theorem goS_ord (m s : Int) : ∀ (es : List Ed) (b : Int), Right m b (shE s es) → (∀ e ∈ es, e.new.size ≤ 40000) → Ord m (b + 1) (goP es (-s))
  | [], _, _, _ => trivial
  | e :: r, b, h, hs => by
    obtain ⟨q1, q2, q3, q4, q5, q6⟩ := h
    have ih := goS_ord m s r _ q6 (fun x hx => hs x (List.mem_cons_of_mem _ hx))
    simp only at q1 q2 q3 q4 q5
    refine ⟨?_, q4, ?_, hs e List.mem_cons_self, ?_⟩
    · show b + 1 ≤ e.at_ + -s; omega
    · show e.at_ + -s + e.old ≤ m; omega
    · have e1 : e.at_ - s + e.old + 1 = e.at_ + -s + e.old + 1 := by omega
      simp only [e1] at ih
      exact ih
theorem news_shE (s : Int) (es : List Ed) (p : Int) : newsAt (goP es (-s)) p = newsAt (goP (shE s es) 0) p := by
  unfold newsAt goP shE
  rw [List.flatMap_map, List.map_map, List.flatMap_map]
  congr 1
  funext e
  show (if e.at_ + -s = p then _ else _) = if e.at_ - s + 0 = p then _ else _
  rw [show e.at_ + -s = e.at_ - s + 0 by omega]
  rfl
theorem gone_shE (s : Int) (es : List Ed) (p : Int) : goneP (goP es (-s)) p = goneP (goP (shE s es) 0) p := by
  unfold goneP goP shE
  rw [List.any_map, List.map_map, List.any_map]
  congr 1
  funext e
  show (decide (e.at_ + -s ≤ p) && decide (p < e.at_ + -s + e.old)) = (decide (e.at_ - s + 0 ≤ p) && decide (p < e.at_ - s + 0 + e.old))
  rw [show e.at_ + -s = e.at_ - s + 0 by omega]
theorem thTo_shE (fl : List Let) (s m : Int) (es : List Ed) : ∀ (k : Nat) (p : Int), 0 ≤ p → thTo fl (goP es (-s)) m p k = thenL fl (gTo (goP (shE s es) 0) m p k)
  | 0, _, _ => rfl
  | k + 1, p, hp => by
    rw [thTo, gTo, thTo_shE fl s m es k (p + 1) (by omega), thenL_app, thenL_app, news_shE, gone_shE]
    congr 2
    · generalize goP (shE s es) 0 = A
      induction A with
      | nil => rfl
      | cons q r ih =>
        have e : newsAt (q :: r) p = (if q.at_ = p then newL q.ed.new q.ed.new.size else []) ++ newsAt r p := rfl
        rw [e, thenL_app, ← ih]
        split
        · rw [thenL_news]
        · rfl
    · split
      · show [_] = [thenX fl (p, 0)]
        unfold thenX
        rw [if_pos (by show 0 ≤ p; exact hp)]
      · rfl
theorem shE_small {s : Int} {es : List Ed} (h : ∀ e ∈ es, e.new.size ≤ 40000) : ∀ e ∈ shE s es, e.new.size ≤ 40000 := by
  intro e he
  obtain ⟨x, hx, rfl⟩ := List.mem_map.1 he
  exact h x hx
/-- What merged answers: the letters of the first change where the second one's stand. -/
theorem merged_says {n m s : Int} {es fs : List Ed} (h0 : 0 ≤ n) (hr : Right n (-1) es) (hS : ∀ e, e ∈ es → 0 ≤ e.at_ ∧ e.at_ ≤ 20000 ∧ 0 ≤ e.old ∧ e.old ≤ 20000 ∧ e.new.size ≤ 40000) (hm : m = n + newSum es - oldSum es) (hm0 : 0 ≤ m) (hm1 : m ≤ 40000) (hr2 : Right m (-1) (shE s fs)) (hT : ∀ e ∈ fs, e.new.size ≤ 40000) :
    ∃ xs, Runs (comP es) (goP fs (-s)) m 0 pcZ 0 pcZ 0 xs ∧ (∀ x ∈ xs, StpT x) ∧ xs.length ≤ 40001 ∧ (xs.foldl thenS drZ).close.out = editsOf n (thenFl n es (shE s fs)) := by
  have hN : ∀ e ∈ es, e.new.size ≤ 40000 := fun e he => (hS e he).2.2.2.2
  have a := comG_ord n es (-1) 0 (by omega) hr hN
  rw [show n + 0 + (newSum es : Int) - oldSum es = m by omega] at a
  have b := goS_ord m s fs _ hr2 hT
  have wa : Wst m (comP es) pcZ 0 0 := ⟨a, by simp [pcZ]; omega, fun h => absurd h (by simp [pcZ])⟩
  have wb : Wst m (goP fs (-s)) pcZ 0 0 := ⟨b, by simp [pcZ]; omega, fun h => absurd h (by simp [pcZ])⟩
  obtain ⟨xs, x1, x2, x3, -⟩ := runs_of4 m hm1 (comP es) (goP fs (-s)) 40000 0 pcZ 0 pcZ 0 (Int.le_refl _) hm0 (by omega) wa wb
  obtain ⟨-, y1, y2⟩ := runs_then hr h0 hS hm ⟨hm0, by omega⟩ x1 wa wb ⟨fun i _ hi => by omega, .inl rfl⟩ ⟨fun i _ hi => by omega, .inl rfl⟩ (fun h => absurd h (by simp [pcZ])) (Nat.zero_le _) x2 drZ [] (by
    have e : orgPos es pcZ 0 0 = 0 := by simp [orgPos, pcZ, shTo]
    rw [e]; exact DF.zero)
  refine ⟨xs, x1, y1, x3, ?_⟩
  rw [y2.done, List.nil_append, thTo_shE _ _ _ _ _ _ (Int.le_refl _)]
  congr 1
  have len := flowGo_len n es 0 (-1) hr (by omega) (by omega) h0
  unfold thenFl
  rw [gTo_flow m (shE s fs) 0 hm0 hr2 (shE_small hT), flowL_go (flowL es n).length (shE s fs), flowL_go n es, len, show n - 0 + (newSum es : Int) - oldSum es = m by omega]
end Go.Proofs.Ytajigndlcdiinaa
namespace Go.Proofs.Ytajigndlcdiinaa
open Go.RowKit

/-- The old bytes that letters keep. -/
def kep (ls : List Let) : List Int := ls.filterMap fun l => if l.1 < 0 then none else some l.1
theorem kep_app (a b : List Let) : kep (a ++ b) = kep a ++ kep b := List.filterMap_append
theorem kep_new (s : ByteArray) : kep (newL s s.size) = [] := by
  unfold kep
  rw [newL_all, List.filterMap_map]
  apply List.filterMap_eq_nil_iff.2
  intro c _
  show (if (-1 : Int) < 0 then none else some (-1 : Int)) = none
  rw [if_pos (by omega)]
theorem kep_gap {a b : Int} (h0 : 0 ≤ a) : kep (gapL a b) = (List.range (b - a).toNat).map fun (i : Nat) => a + (i : Int) := by
  unfold kep gapL
  rw [keepL_map, List.filterMap_map, ← List.filterMap_eq_map]
  congr 1
  funext i
  show (if a + (i : Int) < 0 then none else some (a + (i : Int))) = some (a + (i : Int))
  rw [if_neg (by omega)]
def Inc (n x : Int) (ks : List Int) : Prop := ks.Pairwise (· < ·) ∧ ∀ k ∈ ks, x ≤ k ∧ k < n
theorem Inc.sub {n x : Int} {ks ks' : List Int} (h : Inc n x ks) (g : ks'.Sublist ks) : Inc n x ks' := ⟨h.1.sublist g, fun k hk => h.2 k (g.subset hk)⟩
theorem inc_gap {a b : Int} (h0 : 0 ≤ a) : Inc b a (kep (gapL a b)) := by
  rw [kep_gap h0]
  refine ⟨?_, ?_⟩
  · rw [List.pairwise_map]
    exact List.pairwise_lt_range.imp (fun h => by omega)
  · intro k hk
    obtain ⟨i, hi, rfl⟩ := List.mem_map.1 hk
    have := List.mem_range.1 hi
    omega
theorem Inc.app {n x y z : Int} {a b : List Int} (ha : Inc y x a) (hb : Inc n z b) (hyz : y ≤ z) (hxz : x ≤ z) (hyn : y ≤ n) : Inc n x (a ++ b) := by
  refine ⟨List.pairwise_append.2 ⟨ha.1, hb.1, fun p hp q hq => by have := ha.2 p hp; have := hb.2 q hq; omega⟩, ?_⟩
  intro k hk
  rcases List.mem_append.1 hk with h | h
  · have := ha.2 k h; omega
  · have := hb.2 k h; omega
theorem inc_flow {n : Int} : ∀ (es : List Ed) (x b : Int), Right n b es → x ≤ b + 1 → 0 ≤ x → Inc n x (kep (flowGo n x es))
  | [], x, _, _, _, h0 => inc_gap h0
  | e :: r, x, b, ⟨q1, q2, q3, q4, q5, q6⟩, hb, h0 => by
    rw [flowGo, kep_app, kep_app, kep_new, List.append_nil]
    exact (inc_gap h0).app (inc_flow r (e.at_ + e.old) (e.at_ + e.old) q6 (by omega) (by omega)) (by omega) (by omega) q3
/-- What is kept behind both was kept behind the first. -/
theorem kep_then (fl : List Let) {m : Int} (hm : (fl.length : Int) = m) : ∀ (es : List Ed) (x : Nat) (b : Int), Right m b es → (x : Int) ≤ b + 1 → (x : Int) ≤ m → (kep (thenL fl (flowGo m x es))).Sublist (kep (fl.drop x))
  | [], x, _, _, _, hx => by
    rw [flowGo]
    unfold gapL
    rw [thenL_keep fl x (m - (x : Int)).toNat (by omega)]
    unfold kep
    exact (List.take_sublist _ _).filterMap _
  | e :: r, x, b, ⟨q1, q2, q3, q4, q5, q6⟩, hb, hx => by
    have ih := kep_then fl hm r (e.at_ + e.old).toNat (e.at_ + e.old) q6 (by omega) (by omega)
    rw [show (((e.at_ + e.old).toNat : Nat) : Int) = e.at_ + e.old by omega] at ih
    rw [flowGo, thenL_app, thenL_app, thenL_news, kep_app, kep_app, kep_new, List.append_nil]
    unfold gapL
    rw [thenL_keep fl x (e.at_ - (x : Int)).toNat (by omega)]
    have e1 : fl.drop x = (fl.drop x).take (e.at_ - (x : Int)).toNat ++ fl.drop e.at_.toNat := by
      have h1 := (List.take_append_drop (e.at_ - (x : Int)).toNat (fl.drop x)).symm
      rw [List.drop_drop, show x + (e.at_ - (x : Int)).toNat = e.at_.toNat by omega] at h1
      exact h1
    have e2 : (fl.drop (e.at_ + e.old).toNat).Sublist (fl.drop e.at_.toNat) := by
      rw [show (e.at_ + e.old).toNat = e.at_.toNat + e.old.toNat by omega, ← List.drop_drop]
      exact List.drop_sublist _ _
    have e3 := congrArg kep e1
    rw [kep_app] at e3
    rw [e3]
    exact (List.Sublist.refl _).append (ih.trans (e2.filterMap _))

theorem right_snoc {a q : Int} {t : ByteArray} (h0 : 0 ≤ a) (hq : a ≤ q) : ∀ (out : List Ed) (b : Int), Right (a - 1) b out → b < a → Right q b (out ++ [⟨a, q - a, t⟩])
  | [], b, _, hb => ⟨hb, h0, hq, by show 0 ≤ q - a; omega, by show q - a ≤ q - a; omega, trivial⟩
  | e :: r, b, ⟨q1, q2, q3, q4, q5, q6⟩, hb => ⟨q1, q2, by omega, q4, by omega, right_snoc h0 hq r _ q6 (by omega)⟩
/-- A change that is right, apart from its length. -/
def Fit (n : Int) (es : List Ed) : Prop := Right n (-1) es ∧ ∀ e ∈ es, 0 < e.old ∨ e.new.size ≠ 0
theorem close_ok {a q : Int} {t : ByteArray} {out : List Ed} (h0 : 0 ≤ a) (hq : a ≤ q) (ho : Fit (a - 1) out) : Fit q (closeE a q t out) ∧ q + newSum (closeE a q t out) - oldSum (closeE a q t out) = a + newSum out - oldSum out + t.size := by
  unfold closeE
  split
  · rename_i h
    refine ⟨⟨right_snoc h0 hq out (-1) ho.1 (by omega), ?_⟩, ?_⟩
    · intro e he
      rcases List.mem_append.1 he with h1 | h1
      · exact ho.2 e h1
      · obtain rfl := List.mem_singleton.1 h1
        show 0 < q - a ∨ t.size ≠ 0
        omega
    · rw [newSum_app, oldSum_app]
      simp only [newSum, oldSum]
      omega
  · exact ⟨⟨Right.wide (by omega) ho.1, ho.2⟩, by omega⟩
theorem edits_ok {n : Int} : ∀ (ls : List Let) (a : Int) (t : ByteArray) (out : List Ed), 0 ≤ a → a ≤ n → Fit (a - 1) out → Inc n a (kep ls) →
    Fit n (finE n (edFold (a, t, out) ls)) ∧ n + newSum (finE n (edFold (a, t, out) ls)) - oldSum (finE n (edFold (a, t, out) ls)) = a + newSum out - oldSum out + t.size + ls.length
  | [], a, t, out, h0, ha, ho, _ => by
    have := close_ok (t := t) h0 ha ho
    exact ⟨this.1, by rw [List.length_nil]; exact this.2.trans (by omega)⟩
  | x :: r, a, t, out, h0, ha, ho, hi => by
    have e : edFold (a, t, out) (x :: r) = edFold (edStep (a, t, out) x) r := rfl
    rw [e]
    unfold edStep
    by_cases hx : x.1 < 0
    · have ek : kep (x :: r) = kep r := by unfold kep; rw [List.filterMap_cons_none (by rw [if_pos hx])]
      rw [ek] at hi
      rw [if_pos hx]
      have ih := edits_ok r a (t ++ ⟨#[x.2]⟩) out h0 ha ho hi
      refine ⟨ih.1, ih.2.trans ?_⟩
      rw [ByteArray.size_append, List.length_cons]
      have : (⟨#[x.2]⟩ : ByteArray).size = 1 := rfl
      omega
    · have ek : kep (x :: r) = x.1 :: kep r := by unfold kep; rw [List.filterMap_cons_some (by rw [if_neg hx])]
      rw [ek] at hi
      obtain ⟨p1, p2⟩ := hi
      obtain ⟨p3, p4⟩ := List.pairwise_cons.1 p1
      have hk := p2 x.1 List.mem_cons_self
      obtain ⟨c1, c2⟩ := close_ok (t := t) (q := x.1) h0 hk.1 ho
      rw [if_neg hx]
      have ih := edits_ok r (x.1 + 1) ⟨#[]⟩ (closeE a x.1 t out) (by omega) (by omega) (by rw [show x.1 + 1 - 1 = x.1 by omega]; exact c1) ⟨p4, fun k hk' => ⟨by have := p3 k hk'; omega, (p2 k (List.mem_cons_of_mem _ hk')).2⟩⟩
      refine ⟨ih.1, ih.2.trans ?_⟩
      rw [List.length_cons]
      have : (⟨#[]⟩ : ByteArray).size = 0 := rfl
      omega
theorem right_fault {n : Int} : ∀ (es : List Ed) (b long : Int), Right n b es → (∀ e ∈ es, 0 < e.old ∨ e.new.size ≠ 0) → long + newSum es - oldSum es ≤ 20000 → faultGo n b long es = 0
  | [], b, long, _, _, h => by rw [faultGo, if_neg (by simp only [newSum, oldSum] at h; omega)]
  | e :: r, b, long, ⟨q1, q2, q3, q4, q5, q6⟩, hf, h => by
    simp only [newSum, oldSum] at h
    have := hf e List.mem_cons_self
    rw [faultGo, if_neg (by omega), if_neg (by omega), if_neg (by omega)]
    exact right_fault r _ _ q6 (fun x hx => hf x (List.mem_cons_of_mem _ hx)) (by omega)
theorem fit_fault {n : Int} {es : List Ed} (hn : 0 ≤ n ∧ n ≤ 20000) (h : Fit n es) (hl : es.length ≤ 2000) (hs : n + newSum es - oldSum es ≤ 20000) : changeFault n es = 0 := by
  unfold changeFault
  rw [if_neg (by omega), if_neg (by omega)]
  exact right_fault es _ _ h.1 h.2 hs
/-- Two right changes as one are right, if there are not too many edits. -/
theorem then_fit {n m : Int} {es fs : List Ed} (h0 : 0 ≤ n) (hr : Right n (-1) es) (hm : ((flowL es n).length : Int) = m) (hr2 : Right m (-1) fs) :
    Fit n (editsOf n (thenFl n es fs)) ∧ n + newSum (editsOf n (thenFl n es fs)) - oldSum (editsOf n (thenFl n es fs)) = ((flowL fs m).length : Int) := by
  have k1 := inc_flow es 0 (-1) hr (by omega) (Int.le_refl _)
  have k2 := kep_then (flowL es n) hm fs 0 (-1) hr2 (by omega) (by omega)
  rw [← flowL_go] at k1
  have k3 : kep (thenFl n es fs) = kep (thenL (flowL es n) (flowGo m ((0 : Nat) : Int) fs)) := by
    unfold thenFl
    rw [hm, flowL_go m fs]; rfl
  rw [← k3, List.drop_zero] at k2
  have := edits_ok (thenFl n es fs) 0 ⟨#[]⟩ [] (Int.le_refl _) h0 ⟨trivial, fun e he => by cases he⟩ (k1.sub k2)
  rw [editsOf_fold]
  refine ⟨this.1, this.2.trans ?_⟩
  have e1 : (thenFl n es fs).length = (flowL fs m).length := by unfold thenFl thenL; rw [List.length_map, hm]
  have e2 : (⟨#[]⟩ : ByteArray).size = 0 := rfl
  rw [e1]
  simp only [newSum, oldSum]
  omega
end Go.Proofs.Ytajigndlcdiinaa
