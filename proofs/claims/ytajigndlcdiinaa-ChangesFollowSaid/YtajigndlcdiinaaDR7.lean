/- Package edit: the draft; close. -/
import Derived.Test.YtajigndlcdiinaaDR6
import Derived.Test.YtajigndlcdiinaaDRt
import Derived.Test.YtajigndlcdiinaaDShelf
namespace Go.Proofs.Ytajigndlcdiinaa
open Go.RowKit Go.Region

/-- What close makes of a draft. -/
def Dr.close (d : Dr) : Dr := if d.old = 0 ∧ d.txt.size = 0 then d else ⟨d.out ++ [⟨d.at_, d.old, d.txt⟩], d.at_ + d.old, 0, ⟨#[]⟩⟩

theorem catB_zero : ∀ (ps : List ByteArray), (∀ p ∈ ps, p.size ≠ 0) → ((catB ps).length = 0 ↔ ps = [])
  | [], _ => by simp [catB]
  | p :: r, h => by
    have := h p (by simp)
    have h2 : p.data.toList.length = p.size := by rw [Array.length_toList]; rfl
    simp only [catB, List.length_append, h2]
    constructor
    · intro h3; omega
    · intro h3; cases h3
theorem join_cat : ∀ (ps : List ByteArray), Lib.join (ps.map (·.data.toList)) [] = catB ps
  | [] => rfl
  | [p] => by simp [Lib.join, catB]
  | p :: q :: r => by
    have := join_cat (q :: r)
    simp only [Lib.join, List.intercalate, List.map_cons, List.intersperse, List.flatten_cons, List.nil_append, catB] at this ⊢
    rw [this]

theorem joins_any (a : Option Addr) (c : Nat) (ps : List ByteArray) (base : Nat) (w : World) (h : w.ownsRow base 9 1 (.slice a ps.length c) ps.length (ps.map .string)) (hp : ps.length ≤ 1000000) (hs : (catB ps).length ≤ 1000000000000) :
    Calls Try.prog 99 #[.slice a ps.length c, .string ⟨#[]⟩] w fun e w' => e = .returned (.string ⟨(catB ps).toArray⟩) ∧ w.grownBy w' none := by
  by_cases h0 : ps = []
  · subst h0
    refine (Try.strings_Join_none a c ⟨#[]⟩ w).mono ?_
    rintro e w' ⟨rfl, rfl⟩
    exact ⟨rfl, grow_self _⟩
  · have hl : 0 < ps.length := List.length_pos_iff.2 h0
    obtain ⟨g, cap, e1, hg, hc⟩ := ownsRow_cell h hl
    cases e1
    have hlt : g < w.heap.size := by
      obtain ⟨g', c', e2, _, hlt⟩ := h.form hl
      cases e2
      exact hlt
    have hcap : ps.length ≤ c := by
      rcases h.2 with ⟨_, h1⟩ | ⟨g', c', cur, e2, _, _, h3, _⟩
      · omega
      · cases e2; exact h3
    have := Try.strings_Join g 0 c ps ⟨#[]⟩ w (fun j x hx => by rw [Nat.zero_add]; exact hc j _ (by simp [hx])) hlt (by omega) hcap (by
      show (Lib.join (ps.map (·.data.toList)) []).length ≤ _
      rw [join_cat]; omega)
    refine this.mono ?_
    rintro e w' ⟨rfl, hb⟩
    exact ⟨by show _ = Ending.returned (.string ⟨(catB ps).toArray⟩); rw [← join_cat], grow_below (grow_self w) hb⟩

theorem own_grown {w w' : World} {base e size n : Nat} {v : Value} {xs : List Value} (h : w.ownsRow base e size v n xs) (g : w.grownBy w' none) : w'.ownsRow base e size v n xs := by
  obtain ⟨h1, h3⟩ := h
  refine ⟨h1, ?_⟩
  rcases h3 with h3 | ⟨g', cap, cur, hv, hg, hh, r⟩
  · exact .inl h3
  · exact .inr ⟨g', cap, cur, hv, hg, grow_new g hh, r⟩

theorem cut0 {w : World} {base n c : Nat} {a : Option Addr} {xs : List Value} (h : w.ownsRow base 9 1 (.slice a n c) n xs) : ∃ a0 c0, (∀ w, (Instr.slice 102 (.slice a n c) none (some (.int .i64 0)) none).run Try.prog w = .ok (.slice a0 0 c0) w) ∧
    (∀ W : World, W.ownsRow base 9 1 (.slice a n c) n xs → W.ownsRow base 9 1 (.slice a0 0 c0) 0 []) ∧ (Value.slice a0 0 c0).ownBlock = (Value.slice a n c).ownBlock := by
  rcases h.2 with ⟨e, h0⟩ | ⟨g, cap, cur, e, hb, hg, hnc, hm, hs, ht⟩
  · cases e
    exact ⟨none, 0, fun w => by kernel_rfl, fun W _ => World.ownsRow_nil _ _ _ _, rfl⟩
  · cases e
    refine ⟨some ⟨g, 0, none⟩, c, fun w => by go_simp, fun W hW => ?_, rfl⟩
    rcases hW.2 with ⟨e, _⟩ | ⟨g', cap', cur', e, hb', hg', hnc', hm', hs', ht'⟩
    · cases e
    · cases e
      exact ⟨by simp, .inr ⟨g, c, cur', rfl, hb', hg', Nat.zero_le _, hm', hs', by simp⟩⟩

theorem infoEd : (Try.prog.info? 47).map (fun i => (i.zero, i.size, i.bytes)) = some (some (.agg #[.int .i64 0, .int .i64 0, .string ⟨#[]⟩]), 3, 32) := by kernel_rfl

section
variable {w : World} {ρ : Operand → Value} {d : Option Tmp} {ty : TypeId} {pos : String} {af : Array Edge}
theorem run_loadD (t : TypeId) (p : Operand) (ad : Addr) (v : Value) (ht : t = 3 ∨ t = 28 ∨ t = 102) (hp : ρ p = .pointer (some ad)) (hc : w.cell? ad = some v) :
    (execOp ρ ⟨d, .load t p, ty, pos, af, none⟩).run Try.prog w = .ok (.value v) w := by
  rcases ht with rfl | rfl | rfl <;> (simp only [execOp]; rw [hp]; go_simp)
theorem run_nilD (p : Operand) (ad : Addr) (hp : ρ p = .pointer (some ad)) : (execOp ρ ⟨d, .nilCheck p, ty, pos, af, none⟩).run Try.prog w = .ok (.value (.pointer (some ad))) w := by
  simp only [execOp]; rw [hp]; go_simp
theorem run_field104 (p : Operand) (X k : Nat) (hk : k < 4) (hp : ρ p = .pointer (some ⟨X, 0, none⟩)) : (execOp ρ ⟨d, .fieldAddr 104 p k, ty, pos, af, none⟩).run Try.prog w = .ok (.value (.pointer (some ⟨X, k, none⟩))) w := by
  have h : k = 0 ∨ k = 1 ∨ k = 2 ∨ k = 3 := by omega
  rcases h with rfl | rfl | rfl | rfl <;> (simp only [execOp]; rw [hp]; go_simp)
theorem run_buildEd (p q r : Operand) (x y : Int) (s : ByteArray) (hp : ρ p = .int .i64 x) (hq : ρ q = .int .i64 y) (hr : ρ r = .string s) :
    (execOp ρ ⟨d, .build 47 #[(0, p), (1, q), (2, r)], ty, pos, af, none⟩).run Try.prog w = .ok (.value (.agg #[.int .i64 x, .int .i64 y, .string s])) w := by
  simp only [execOp]; go_simp
theorem run_buildEds (p : Operand) (x y : Int) (s : ByteArray) (hp : ρ p = .agg #[.int .i64 x, .int .i64 y, .string s]) :
    (execOp ρ ⟨d, .buildSlice 28 1 #[(0, p)], ty, pos, af, none⟩).run Try.prog w = .ok (.value (.slice (some ⟨w.heap.size, 0, none⟩) 1 1)) (w.alloc (.cells #[.int .i64 x, .int .i64 y, .string s] 47)) := by
  simp only [execOp]; go_simp
theorem run_appD (p q : Operand) (v u v' : Value) (w' : World) (hp : ρ p = v) (hq : ρ q = u) (h : (Builtin.append_ #[28, 28] ty #[v, u]).run Try.prog w = .ok v' w') :
    (execOp ρ ⟨d, .call { callee := .builtin .append, args := #[p, q], argTypes := #[28, 28] }, ty, pos, af, none⟩).run Try.prog w = .ok (.value v') w' := by
  unfold execOp
  simp only [resolve, invoke, builtin, Sem.run_bind, Sem.run_pure, Result.andThen_ok, List.map_toArray, List.map_cons, List.map_nil, hp, hq, h]
theorem run_storeD (p q : Operand) (ad : Addr) (x : Option Addr) (n c : Nat) (v : Value) (hp : ρ p = .pointer (some ad)) (hq : ρ q = .slice x n c) (hc : w.cell? ad = some v) (hf : w.frozen? ad = false) :
    (execOp ρ ⟨d, .store 28 p q, ty, pos, af, none⟩).run Try.prog w = .ok .skip (w.setCell ad (.slice x n c)) := by
  simp only [execOp]; rw [hp, hq]; go_simp
end
theorem wpOp_of {P : Program} {ops : Array Oper} {Q : Exit → Act → World → Prop} {i : Nat} {o : Oper} {a : Act} {w : World} {K : Act → World → Prop} (hi : ops[i]? = some o) (hg : o.guard = none) (h : Oper.wp P o a w K Q) : wpOp P ops Q i K a w := by
  unfold wpOp
  rw [hi]
  have hw : Region.wanted o (yielded ops a.tmps) = true := by simp [Region.wanted, hg]
  simp only [hw, if_true]
  exact .inl h
theorem wpOp_stD {ops : Array Oper} {Q : Exit → Act → World → Prop} {i : Nat} {a : Act} {w : World} {K : Act → World → Prop} {d : Option Tmp} {ty : TypeId} {pos : String} {af : Array Edge} {p q : Operand} (hi : ops[i]? = some ⟨d, .store 28 p q, ty, pos, af, none⟩) (ad : Addr) (x : Option Addr) (n c : Nat) (v : Value)
    (hp : a.eval p = .pointer (some ad)) (hq : a.eval q = .slice x n c) (hc : w.cell? ad = some v) (hf : w.frozen? ad = false) (h : K (a.put d undef) (w.setCell ad (.slice x n c))) : wpOp Try.prog ops Q i K a w :=
  wpOp_skipped hi rfl (run_storeD p q ad x n c v hp hq hc hf) h
def DS1 (B : Nat) (x y : Int) (v : Value) (w : World) : Prop := w.cell? ⟨B, 1, none⟩ = some (.int .i64 x) ∧ w.cell? ⟨B, 2, none⟩ = some (.int .i64 y) ∧ w.cell? ⟨B, 3, none⟩ = some v
def DS2 (B : Nat) (v : Value) (_ : Nat) (w : World) : Prop := w.cell? ⟨B, 0, none⟩ = some v
def DT (_ j : Nat) : Bool := j == 23
theorem DT_spec {m j : Nat} (h : DT m j = true) : j = 23 := by simpa [DT] using h
theorem dS1_of {w : World} {B : Nat} {x y : Int} {u v : Value} (h : w.heap[B]? = some (.cells #[u, .int .i64 x, .int .i64 y, v] 104 (0, 0))) : DS1 B x y v w := ⟨cell_of_block h 1, cell_of_block h 2, cell_of_block h 3⟩
theorem dS2_of {w : World} {B : Nat} {x y : Int} {u v : Value} (h : w.heap[B]? = some (.cells #[u, .int .i64 x, .int .i64 y, v] 104 (0, 0))) (m : Nat) : DS2 B u m w := cell_of_block h 0

set_option maxHeartbeats 4000000 in
set_option maxRecDepth 100000 in
theorem dclose_any (base B : Nat) (d : Dr) (ev pv : Value) (ps : List ByteArray) (w : World) (hD : DrAt w base B d ev pv ps) (hp : ps.length ≤ 1000000) (ho : d.out.length ≤ 1000000) (ht : d.txt.size ≤ 1000000000000) (hbs : base ≤ w.heap.size)
    (ha : -100000000000000 ≤ d.at_ ∧ d.at_ ≤ 100000000000000) (hb : -100000000000000 ≤ d.old ∧ d.old ≤ 100000000000000) :
    Calls Try.prog 88 #[.pointer (some ⟨B, 0, none⟩)] w (DrPost base B ps.length d.close ev pv w) := by
  obtain ⟨P, hP⟩ : ∃ P, DrPost base B ps.length d.close ev pv w = P := ⟨_, rfl⟩
  rw [hP]
  have HP := Lib.hid hP
  have HD := Lib.hid hD
  clear hP hD
  obtain ⟨a, c, rfl⟩ := ownsRow_slice HD.out.prs.row
  obtain ⟨ea, ec, rfl⟩ := ownsRow_slice HD.out.eds
  have hz : d.txt.size = 0 ↔ ps = [] := by
    rw [← catB_zero ps HD.out.prs.full, HD.out.txt, Array.length_toList]; rfl
  have b0 := cell_of_block HD.out.box 0
  have b1 := cell_of_block HD.out.box 1
  have b2 := cell_of_block HD.out.box 2
  have b3 := cell_of_block HD.out.box 3
  simp only [List.getElem?_toArray, List.getElem?_cons_zero, List.getElem?_cons_succ] at b0 b1 b2 b3
  by_cases h0 : d.old = 0 ∧ d.txt.size = 0
  · obtain ⟨h1, h2⟩ := h0
    have HCl := Lib.hid (show d.close = d from if_pos ⟨h1, h2⟩)
    have hps := hz.1 h2
    subst hps
    rw [h1] at b2
    clear h2 hz h1
    go_enter Try.func88, Try.ntmps88
    go_wp2_with fail
    try go_end0
    rw [← HP.out, HCl.out]
    exact ⟨⟨_, rfl⟩, _, _, _, HD.out, Frm.refl _ w, .inl rfl, .inl rfl, Nat.le_refl _⟩
  · have HCl := Lib.hid (show d.close = ⟨d.out ++ [⟨d.at_, d.old, d.txt⟩], d.at_ + d.old, 0, ⟨#[]⟩⟩ from if_neg h0)
    obtain ⟨cc, hcc⟩ : ∃ cc : Bool, (d.old == 0) = cc := ⟨_, rfl⟩
    have HJ := Lib.hid (fun w' (g : w.grownBy w' none) => joins_any a c ps base w' (own_grown HD.out.prs.row g) hp (by rw [HD.out.txt, Array.length_toList]; exact ht))
    have HC0 := Lib.hid (fun w' (g : w.grownBy w' none) => g.cell b0 (by simp))
    have HC1 := Lib.hid (fun w' (g : w.grownBy w' none) => g.cell b1 (by simp))
    have HC2 := Lib.hid (fun w' (g : w.grownBy w' none) => g.cell b2 (by simp))
    have HC3 := Lib.hid (fun w' (g : w.grownBy w' none) => g.cell b3 (by simp))
    have HOWN := Lib.hid (fun w' (g : w.grownBy w' none) => own_grown HD.out.eds g)
    have HBOX := Lib.hid (fun w' (g : w.grownBy w' none) => grow_new g HD.out.box)
    obtain ⟨i0, hi, hz0, hz1, hz2⟩ := info_parts infoEd
    have HI := Lib.hid hi
    have HZ0 := Lib.hid hz0
    have HZ1 := Lib.hid hz1
    have HZ2 := Lib.hid hz2
    have HT := Lib.hid (show catB ps = d.txt.data.toList from HD.out.txt)
    have HH0 := Lib.hid h0
    have HZZ := Lib.hid hz
    clear hi hz0 hz1 hz2 hz h0
    go_enter Try.func88, Try.ntmps88
    go_upto_region 0 with (fail)
    go_cut [14] (fun v14 wx => v14 = .bool false ∧ w = wx)
    case first =>
      by_cases h1 : d.old = 0
      · have hne : ps.length ≠ 0 := fun h => HH0.out ⟨h1, HZZ.out.2 (List.eq_nil_of_length_eq_zero h)⟩
        have hnl : ((ps.length : Int) == 0) = false := by simpa using hne
        have hcc2 : (d.old == 0) = true := by simpa using h1
        clear hcc
        go_wp2_with fail
        go_meet
        exact ⟨rfl, rfl⟩
      · have hcc2 : (d.old == 0) = false := by simpa using h1
        clear hcc
        go_wp2_with fail
        go_meet
        exact ⟨rfl, rfl⟩
    case rest =>
      obtain ⟨rfl, rfl⟩ := hcut
      clear hcc
      have HG0 := Lib.hid (grow_self w)
      go_upto_region 1 with (fail)
      go_cut [] (fun wx => ∃ gg cap1 w6, wx = w6.setCell ⟨B, 0, none⟩ (.slice (some ⟨gg, 0, none⟩) (d.out.length + 1) cap1) ∧ Hid (w6.ownsRow base 47 3 (.slice (some ⟨gg, 0, none⟩) (d.out.length + 1) cap1) (d.out.length + 1) (edC d.out ++ [.int .i64 d.at_, .int .i64 d.old, .string d.txt])) ∧
          Hid (w6.heap[B]? = some (.cells #[.slice ea d.out.length ec, .int .i64 d.at_, .int .i64 d.old, .slice a ps.length c] 104 (0, 0))) ∧ Hid (Prts w6 base (.slice a ps.length c) ps) ∧ Hid (Frm (DrP B (.slice ea d.out.length ec) (.slice a ps.length c)) w w6) ∧ Hid (NB (.slice (some ⟨gg, 0, none⟩) (d.out.length + 1) cap1) (.slice ea d.out.length ec) w))
      case first =>
        have HJ0 := Lib.hid (HJ.out w.drew (grow_drew (grow_self w)))
        have hbx : w.drew.heap[B]? = some (.cells #[.slice ea d.out.length ec, .int .i64 d.at_, .int .i64 d.old, .slice a ps.length c] 104 (0, 0)) := HD.out.box
        have HBX := Lib.hid hbx
        clear hbx b0 b1 b2 b3
        go_wp2_with fail
        refine wp_region_K2 (DS1 B d.at_ d.old (.slice a ps.length c)) (DS2 B (.slice ea d.out.length ec)) DT 24 #[false, false, false, false, false, false, false, false, false, false, false, false, false, false, false, false, false, false, false, false, false, false, false, false] (by kernel_rfl) (by kernel_rfl) (by kernel_rfl) ?_
        refine wpAnyK_take1 (i := 0) (some 15) (v := (.pointer (some ⟨B, 0, none⟩))) rfl rfl (by kernel_rfl) (by kernel_rfl) (by kernel_rfl) (fun _ _ _ h => h) (.inl ⟨by rfl, fun w' hw' => run_moveR _⟩) (dS1_of HBX.out) ?_
        simp only [Act.put, List.setIfInBounds_toArray, List.set_cons_zero, List.set_cons_succ]
        refine wpAnyK_take1 (i := 1) (some 16) (v := (.pointer (some ⟨B, 0, none⟩))) rfl rfl (by kernel_rfl) (by kernel_rfl) (by kernel_rfl) (fun _ _ _ h => h) (.inl ⟨by rfl, fun w' hw' => run_moveR _⟩) (dS1_of HBX.out) ?_
        simp only [Act.put, List.setIfInBounds_toArray, List.set_cons_zero, List.set_cons_succ]
        refine wpAnyK_take1 (i := 2) (some 17) (v := (.pointer (some ⟨B, 0, none⟩))) rfl rfl (by kernel_rfl) (by kernel_rfl) (by kernel_rfl) (fun _ _ _ h => h) (.inl ⟨by rfl, fun w' hw' => run_nilD _ _ rfl⟩) (dS1_of HBX.out) ?_
        simp only [Act.put, List.setIfInBounds_toArray, List.set_cons_zero, List.set_cons_succ]
        refine wpAnyK_take1 (i := 3) (some 18) (v := (.pointer (some ⟨B, 0, none⟩))) rfl rfl (by kernel_rfl) (by kernel_rfl) (by kernel_rfl) (fun _ _ _ h => h) (.inl ⟨by rfl, fun w' hw' => run_field104 _ B 0 (by omega) rfl⟩) (dS1_of HBX.out) ?_
        simp only [Act.put, List.setIfInBounds_toArray, List.set_cons_zero, List.set_cons_succ]
        refine wpAnyK_take2 0 (i := 4) (some 19) (v := (.slice ea d.out.length ec)) rfl rfl (by kernel_rfl) (by kernel_rfl) (by kernel_rfl) (fun _ _ _ h => h) (by intro j hj; rcases DT_spec hj with rfl; kernel_rfl) (.inl ⟨by rfl, fun w' hw' => run_loadD 28 _ ⟨B, 0, none⟩ _ (by simp) rfl hw'.2⟩) ⟨dS1_of HBX.out, dS2_of HBX.out 0⟩ ?_
        simp only [Act.put, List.setIfInBounds_toArray, List.set_cons_zero, List.set_cons_succ]
        refine wpAnyK_take1 (i := 5) (some 20) (v := (.pointer (some ⟨B, 0, none⟩))) rfl rfl (by kernel_rfl) (by kernel_rfl) (by kernel_rfl) (fun _ _ _ h => h) (.inl ⟨by rfl, fun w' hw' => run_moveR _⟩) (dS1_of HBX.out) ?_
        simp only [Act.put, List.setIfInBounds_toArray, List.set_cons_zero, List.set_cons_succ]
        refine wpAnyK_take1 (i := 6) (some 21) (v := (.pointer (some ⟨B, 0, none⟩))) rfl rfl (by kernel_rfl) (by kernel_rfl) (by kernel_rfl) (fun _ _ _ h => h) (.inl ⟨by rfl, fun w' hw' => run_nilD _ _ rfl⟩) (dS1_of HBX.out) ?_
        simp only [Act.put, List.setIfInBounds_toArray, List.set_cons_zero, List.set_cons_succ]
        refine wpAnyK_take1 (i := 7) (some 22) (v := (.pointer (some ⟨B, 1, none⟩))) rfl rfl (by kernel_rfl) (by kernel_rfl) (by kernel_rfl) (fun _ _ _ h => h) (.inl ⟨by rfl, fun w' hw' => run_field104 _ B 1 (by omega) rfl⟩) (dS1_of HBX.out) ?_
        simp only [Act.put, List.setIfInBounds_toArray, List.set_cons_zero, List.set_cons_succ]
        refine wpAnyK_take1 (i := 8) (some 23) (v := (.int .i64 d.at_)) rfl rfl (by kernel_rfl) (by kernel_rfl) (by kernel_rfl) (fun _ _ _ h => h) (.inl ⟨by rfl, fun w' hw' => run_loadD 3 _ ⟨B, 1, none⟩ _ (by simp) rfl hw'.1⟩) (dS1_of HBX.out) ?_
        simp only [Act.put, List.setIfInBounds_toArray, List.set_cons_zero, List.set_cons_succ]
        refine wpAnyK_take1 (i := 9) (some 24) (v := (.pointer (some ⟨B, 0, none⟩))) rfl rfl (by kernel_rfl) (by kernel_rfl) (by kernel_rfl) (fun _ _ _ h => h) (.inl ⟨by rfl, fun w' hw' => run_moveR _⟩) (dS1_of HBX.out) ?_
        simp only [Act.put, List.setIfInBounds_toArray, List.set_cons_zero, List.set_cons_succ]
        refine wpAnyK_take1 (i := 10) (some 25) (v := (.pointer (some ⟨B, 0, none⟩))) rfl rfl (by kernel_rfl) (by kernel_rfl) (by kernel_rfl) (fun _ _ _ h => h) (.inl ⟨by rfl, fun w' hw' => run_nilD _ _ rfl⟩) (dS1_of HBX.out) ?_
        simp only [Act.put, List.setIfInBounds_toArray, List.set_cons_zero, List.set_cons_succ]
        refine wpAnyK_take1 (i := 11) (some 26) (v := (.pointer (some ⟨B, 2, none⟩))) rfl rfl (by kernel_rfl) (by kernel_rfl) (by kernel_rfl) (fun _ _ _ h => h) (.inl ⟨by rfl, fun w' hw' => run_field104 _ B 2 (by omega) rfl⟩) (dS1_of HBX.out) ?_
        simp only [Act.put, List.setIfInBounds_toArray, List.set_cons_zero, List.set_cons_succ]
        refine wpAnyK_take1 (i := 12) (some 27) (v := (.int .i64 d.old)) rfl rfl (by kernel_rfl) (by kernel_rfl) (by kernel_rfl) (fun _ _ _ h => h) (.inl ⟨by rfl, fun w' hw' => run_loadD 3 _ ⟨B, 2, none⟩ _ (by simp) rfl hw'.2.1⟩) (dS1_of HBX.out) ?_
        simp only [Act.put, List.setIfInBounds_toArray, List.set_cons_zero, List.set_cons_succ]
        refine wpAnyK_take1 (i := 13) (some 28) (v := (.pointer (some ⟨B, 0, none⟩))) rfl rfl (by kernel_rfl) (by kernel_rfl) (by kernel_rfl) (fun _ _ _ h => h) (.inl ⟨by rfl, fun w' hw' => run_moveR _⟩) (dS1_of HBX.out) ?_
        try simp only [Act.put, List.setIfInBounds_toArray, List.set_cons_zero, List.set_cons_succ]
        refine wpAnyK_take1 (i := 14) (some 29) (v := (.pointer (some ⟨B, 0, none⟩))) rfl rfl (by kernel_rfl) (by kernel_rfl) (by kernel_rfl) (fun _ _ _ h => h) (.inl ⟨by rfl, fun w' hw' => run_nilD _ _ rfl⟩) (dS1_of HBX.out) ?_
        try simp only [Act.put, List.setIfInBounds_toArray, List.set_cons_zero, List.set_cons_succ]
        refine wpAnyK_take1 (i := 15) (some 30) (v := (.pointer (some ⟨B, 3, none⟩))) rfl rfl (by kernel_rfl) (by kernel_rfl) (by kernel_rfl) (fun _ _ _ h => h) (.inl ⟨by rfl, fun w' hw' => run_field104 _ B 3 (by omega) rfl⟩) (dS1_of HBX.out) ?_
        try simp only [Act.put, List.setIfInBounds_toArray, List.set_cons_zero, List.set_cons_succ]
        refine wpAnyK_take1 (i := 16) (some 31) (v := (.slice a ps.length c)) rfl rfl (by kernel_rfl) (by kernel_rfl) (by kernel_rfl) (fun _ _ _ h => h) (.inl ⟨by rfl, fun w' hw' => run_loadD 102 _ ⟨B, 3, none⟩ _ (by simp) rfl hw'.2.2⟩) (dS1_of HBX.out) ?_
        try simp only [Act.put, List.setIfInBounds_toArray, List.set_cons_zero, List.set_cons_succ]
        refine wpAnyK_all1 (i := 17) (by kernel_rfl) (wpOp_of (o := ⟨some 32, .call { callee := .value (.func 99), args := #[.tmp 31, .const (.string ⟨#[]⟩)], argTypes := #[102, 9] }, 9, "draft.go:42", #[⟨16, .data⟩], none⟩) rfl rfl ?_)
        go_simp
        go_at_call 99
        refine HJ0.out.mono ?_
        rintro e' w5 ⟨rfl, g5'⟩
        have g5 := grownBy_trans (grow_drew (grow_self w)) g5'
        have hb5 := HBOX.out w5 g5
        refine ⟨⟨dS1_of hb5, fun m => .inr fun _ => dS2_of hb5 m⟩, ?_⟩
        try simp only [Act.put, List.setIfInBounds_toArray, List.set_cons_zero, List.set_cons_succ]
        refine wpAnyK_all1 (i := 18) (by kernel_rfl) (wpOp_ran2 (some 33) rfl rfl rfl (run_buildEd _ _ _ d.at_ d.old ⟨(catB ps).toArray⟩ rfl rfl rfl) ⟨⟨dS1_of hb5, fun _ => .inr id⟩, ?_⟩)
        try simp only [Act.put, List.setIfInBounds_toArray, List.set_cons_zero, List.set_cons_succ]
        have hb5a := grow_new (World.grownBy_alloc w5 (.cells #[.int .i64 d.at_, .int .i64 d.old, .string ⟨(catB ps).toArray⟩] 47) none) hb5
        refine wpAnyK_all1 (i := 19) (by kernel_rfl) (wpOp_ran2 (some 34) rfl rfl rfl (run_buildEds _ d.at_ d.old ⟨(catB ps).toArray⟩ rfl) ⟨⟨dS1_of hb5a, fun m => .inr fun _ => dS2_of hb5a m⟩, ?_⟩)
        try simp only [Act.put, List.setIfInBounds_toArray, List.set_cons_zero, List.set_cons_succ]
        obtain ⟨v', w6, ha1, ha2, ha3, _, ha4⟩ := run_append_own_at (P := Try.prog) (w5.alloc (.cells #[.int .i64 d.at_, .int .i64 d.old, .string ⟨(catB ps).toArray⟩] 47)) base 28 28 47 i0 (.agg #[.int .i64 0, .int .i64 0, .string ⟨#[]⟩]) 3 32 Try.underlying28 HI.out HZ0.out HZ1.out HZ2.out rfl (by decide) (.slice ea d.out.length ec) d.out.length (edC d.out) ((HOWN.out w5 g5).alloc _) ⟨w5.heap.size, 0, none⟩ 1 1 [.int .i64 d.at_, .int .i64 d.old, .string ⟨(catB ps).toArray⟩] rfl (cells_new w5 [.int .i64 d.at_, .int .i64 d.old, .string ⟨(catB ps).toArray⟩] 47) (by simp [Value.oneCell']) (by unfold maxLen; omega) (by omega) (by have := g5.size; simp; omega)
        have hb6 := grown_block ((HOWN.out w5 g5).alloc _) ha3 hb5a (by decide)
        obtain ⟨gg, cap1, e6⟩ : ∃ gg cap1, v' = .slice (some ⟨gg, 0, none⟩) (d.out.length + 1) cap1 := by
          rcases ha2.2 with ⟨_, h0⟩ | ⟨g', cap', cur, hv, _⟩
          · omega
          · exact ⟨g', cap', hv⟩
        subst e6
        have HO6 := Lib.hid ha2
        have HP6 := Lib.hid (show Prts w6 base (.slice a ps.length c) ps from ⟨own_kept_grown (own_grown (own_grown HD.out.prs.row g5) (World.grownBy_alloc w5 _ none)) ((HOWN.out w5 g5).alloc _) ha3 (by decide), HD.out.prs.full⟩)
        have HF6 := Lib.hid (show Frm (DrP B (.slice ea d.out.length ec) (.slice a ps.length c)) w w6 from frm_row (frm_grown (frm_grown (Frm.refl _ w) g5) (World.grownBy_alloc w5 _ none)) ha3 (fun k o h => h.2.1))
        have HN6 := Lib.hid (show NB (.slice (some ⟨gg, 0, none⟩) (d.out.length + 1) cap1) (.slice ea d.out.length ec) w from by
          rcases ha4 with h | h
          · exact .inl h
          · refine .inr fun r hr => ?_
            rw [h] at hr
            have := g5.size
            simp at hr
            omega)
        refine wpAnyK_all1 (i := 20) (by kernel_rfl) (wpOp_ran2 (some 35) rfl rfl rfl (run_appD _ _ _ _ _ w6 rfl rfl ha1) ⟨⟨dS1_of hb6, fun m => .inr fun _ => dS2_of hb6 m⟩, ?_⟩)
        try simp only [Act.put, List.setIfInBounds_toArray, List.set_cons_zero, List.set_cons_succ]
        refine wpAnyK_all1 (i := 21) (by kernel_rfl) (wpOp_ran2 (some 36) rfl rfl rfl (run_nilD _ ⟨B, 0, none⟩ rfl) ⟨⟨dS1_of hb6, fun _ => .inr id⟩, ?_⟩)
        try simp only [Act.put, List.setIfInBounds_toArray, List.set_cons_zero, List.set_cons_succ]
        refine wpAnyK_all1 (i := 22) (by kernel_rfl) (wpOp_ran2 (some 37) rfl rfl rfl (run_field104 _ B 0 (by omega) rfl) ⟨⟨dS1_of hb6, fun _ => .inr id⟩, ?_⟩)
        try simp only [Act.put, List.setIfInBounds_toArray, List.set_cons_zero, List.set_cons_succ]
        have hb7 := heap_setCell_self hb6 0 (.slice (some ⟨gg, 0, none⟩) (d.out.length + 1) cap1)
        simp only [List.setIfInBounds_toArray, List.set_cons_zero] at hb7
        refine wpAnyK_all1 (i := 23) (by kernel_rfl) (wpOp_stD (d := none) rfl ⟨B, 0, none⟩ (some ⟨gg, 0, none⟩) (d.out.length + 1) cap1 _ rfl rfl (cell_of_block hb6 0) (free_of_block hb6 0) ⟨⟨dS1_of hb7, fun _ => .inl rfl⟩, ?_⟩)
        try simp only [Act.put, List.setIfInBounds_toArray, List.set_cons_zero, List.set_cons_succ]
        refine wpAnyK_done (by kernel_rfl) ?_ _
        have HB6 := Lib.hid hb6
        clear hb6 hb7 hb5 hb5a ha1 ha2 ha3 ha4 g5 g5'
        go_wp2_with fail
        go_meet
        refine ⟨gg, cap1, w6, rfl, ?_, HB6, HP6, HF6, HN6⟩
        have e : (⟨(catB ps).toArray⟩ : ByteArray) = d.txt := by rw [HT.out]
        rw [← e]
        exact HO6
      case rest =>
        obtain ⟨gg, cap1, w6, rfl, HO6, HB6, HP6, HF6, HN6⟩ := hcut
        have hx := heap_setCell_self HB6.out 0 (.slice (some ⟨gg, 0, none⟩) (d.out.length + 1) cap1)
        simp only [List.setIfInBounds_toArray, List.set_cons_zero] at hx
        have HO7 := Lib.hid (ownsRow_setCell_block HO6.out HB6.out (by decide) 0 (.slice (some ⟨gg, 0, none⟩) (d.out.length + 1) cap1))
        have HP7 := Lib.hid (ownsRow_setCell_block HP6.out.row HB6.out (by decide) 0 (.slice (some ⟨gg, 0, none⟩) (d.out.length + 1) cap1))
        have HF7 := Lib.hid (frm_set HF6.out B 0 (.slice (some ⟨gg, 0, none⟩) (d.out.length + 1) cap1) (fun o h => h.1 rfl))
        generalize w6.setCell ⟨B, 0, none⟩ (.slice (some ⟨gg, 0, none⟩) (d.out.length + 1) cap1) = w7 at hx HO7 HP7 HF7
        have q1 := cell_of_block hx 1
        have q2 := cell_of_block hx 2
        have q3 := cell_of_block hx 3
        simp only [List.getElem?_toArray, List.getElem?_cons_zero, List.getElem?_cons_succ] at q1 q2 q3
        have fq1 := free_of_block hx 1
        have fq2 := free_of_block hx 2
        have fq3 := free_of_block hx 3
        have hw : IntKind.i64.wrap (d.at_ + d.old) = d.at_ + d.old := IntWalk.i64_in _ (by omega)
        have HX := Lib.hid hx
        clear hx HO6 HB6 HP6 HF6 b0 b1 b2 b3
        obtain ⟨a0, c0, hsl, HC0', hob⟩ := cut0 HD.out.prs.row
        have HCW := Lib.hid HC0'
        have HOB := Lib.hid hob
        have hx8 := heap_setCell_self HX.out 1 (.int .i64 (d.at_ + d.old))
        simp only [List.setIfInBounds_toArray, List.set_cons_succ, List.set_cons_zero] at hx8
        have HO8 := Lib.hid (ownsRow_setCell_block HO7.out HX.out (by decide) 1 (.int .i64 (d.at_ + d.old)))
        have HP8 := Lib.hid (ownsRow_setCell_block HP7.out HX.out (by decide) 1 (.int .i64 (d.at_ + d.old)))
        have HF8 := Lib.hid (frm_set HF7.out B 1 (.int .i64 (d.at_ + d.old)) (fun o h => h.1 rfl))
        have HX8 := Lib.hid hx8
        clear hx8 HC0' hob
        go_wp2_with fail
        go_region_law (fail)
        all_goals
          have HX9 : Hid (((w7.setCell ⟨B, 1, none⟩ (.int .i64 (d.at_ + d.old))).drew).heap[B]? = _) := Lib.hid HX8.out
          have HO9 : Hid (((w7.setCell ⟨B, 1, none⟩ (.int .i64 (d.at_ + d.old))).drew).ownsRow base 47 3 _ _ _) := Lib.hid (own_grown HO8.out (grow_drew (grow_self _)))
          have HP9 : Hid (((w7.setCell ⟨B, 1, none⟩ (.int .i64 (d.at_ + d.old))).drew).ownsRow base 9 1 _ _ _) := Lib.hid (own_grown HP8.out (grow_drew (grow_self _)))
          have HF9 : Hid (Frm (DrP B (.slice ea d.out.length ec) (.slice a ps.length c)) w ((w7.setCell ⟨B, 1, none⟩ (.int .i64 (d.at_ + d.old))).drew)) := Lib.hid (frm_grown HF8.out (grow_drew (grow_self _)))
          generalize (w7.setCell ⟨B, 1, none⟩ (.int .i64 (d.at_ + d.old))).drew = w9 at HX9 HO9 HP9 HF9 ⊢
          clear q1 q2 q3 fq1 fq2 fq3 HX HO7 HP7 HF7 HX8 HO8 HP8 HF8
          have r2 := cell_of_block HX9.out 2
          have r3 := cell_of_block HX9.out 3
          simp only [List.getElem?_toArray, List.getElem?_cons_zero, List.getElem?_cons_succ] at r2 r3
          have fr2 := free_of_block HX9.out 2
          have fr3 := free_of_block HX9.out 3
          go_wp2_with fail
          try go_end0
          rw [← HP.out, HCl.out]
          have y1 := heap_setCell_self (heap_setCell_self HX9.out 2 (.int .i64 0)) 3 (.slice a0 0 c0)
          simp only [List.setIfInBounds_toArray, List.set_cons_succ, List.set_cons_zero] at y1
          have HXa := heap_setCell_self HX9.out 2 (.int .i64 0)
          refine ⟨⟨_, rfl⟩, .slice (some ⟨gg, 0, none⟩) (d.out.length + 1) cap1, .slice a0 0 c0, [], ⟨y1, ?_, ⟨?_, ?_⟩, rfl⟩, frm_set (frm_set HF9.out B 2 _ (fun o h => h.1 rfl)) B 3 _ (fun o h => h.1 rfl), HN6.out, ?_, Nat.zero_le _⟩
          · have := ownsRow_setCell_block (ownsRow_setCell_block HO9.out HX9.out (by decide) 2 (.int .i64 0)) HXa (by decide) 3 (.slice a0 0 c0)
            simpa [edC_append, edC] using this
          · exact HCW.out _ (ownsRow_setCell_block (ownsRow_setCell_block HP9.out HX9.out (by decide) 2 (.int .i64 0)) HXa (by decide) 3 (.slice a0 0 c0))
          · intro p hp; cases hp
          · exact .inl HOB.out
end Go.Proofs.Ytajigndlcdiinaa
