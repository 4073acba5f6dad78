/- A part of the proof of the statement on PatsDiffer: lex.(*machine).split at "aa". lex.Split at "aa"; hglaw2.lexed. -/
import Derived.Test.YtplbacfjmajeeaaGreatDoorR12
import Derived.Test.YtplbacfjmajeeaaGreatDoorR14
import Derived.Test.YtplbacfjmajeeaaGreatDoorR17
namespace Go.Proofs.YtplbacfjmajeeaaGreatDoor
open Go.RowKit Go.Region

theorem info66 : (Tryz.prog.info? 66 /-t:api.Token-/).map (fun i => (i.zero, i.size, i.bytes)) = some (some (.agg #[.string ⟨#[]⟩, .string ⟨#[]⟩, .string ⟨#[]⟩]), 3, 48) := by kernel_rfl
def SplitPost (w : World) (e : Ending) (w' : World) : Prop :=
  ∃ s pa pn pc a c x, e = .returned (.tuple #[.agg #[.string s, .slice pa pn pc, .slice a 2 c, .string x], .int .i64 0, .int .i64 0]) ∧ w.grownBy w' none

section
variable {w : World} {ρ : Operand → Value} {d : Option Tmp} {ty : TypeId} {pos : String} {af : Array Edge}
theorem run_field107 (p : Operand) (X : Nat) (hp : ρ p = .pointer (some ⟨X, 0, none⟩)) : (execOp ρ ⟨d, .fieldAddr 107 p 2, ty, pos, af, none⟩).run Tryz.prog w = .ok (.value (.pointer (some ⟨X, 2, none⟩))) w := by
  simp only [execOp]; rw [hp]; go_simp
theorem run_field43 (p : Operand) (X k : Nat) (hk : k = 1 ∨ k = 2) (hp : ρ p = .pointer (some ⟨X, 0, none⟩)) : (execOp ρ ⟨d, .fieldAddr 43 p k, ty, pos, af, none⟩).run Tryz.prog w = .ok (.value (.pointer (some ⟨X, k, none⟩))) w := by
  rcases hk with rfl | rfl <;> (simp only [execOp]; rw [hp]; go_simp)
theorem run_load49 (p : Operand) (ad : Addr) (v : Value) (hp : ρ p = .pointer (some ad)) (hc : w.cell? ad = some v) :
    (execOp ρ ⟨d, .load 49 p, ty, pos, af, none⟩).run Tryz.prog w = .ok (.value v) w := by
  simp only [execOp]; rw [hp]; go_simp
theorem run_cut2 (p q r : Operand) (a b : Nat) (h1 : a ≤ b) (h2 : b ≤ 2) (hp : ρ p = .string ⟨#[97, 97]⟩) (hq : ρ q = .int .i64 a) (hr : ρ r = .int .i64 b) :
    (execOp ρ ⟨d, .slice 9 p (some q) (some r) none, ty, pos, af, none⟩).run Tryz.prog w = .ok (.value (.string ((⟨#[97, 97]⟩ : ByteArray).extract a b))) w := by
  have ha : a = 0 ∨ a = 1 ∨ a = 2 := by omega
  have hb : b = 0 ∨ b = 1 ∨ b = 2 := by omega
  simp only [execOp, Option.map_some]
  rw [hp, hq, hr]
  rcases ha with rfl | rfl | rfl <;> rcases hb with rfl | rfl | rfl <;> first | (exfalso; omega) | go_simp
theorem run_add1 (p q : Operand) (a : Int) (ha : a = 0 ∨ a = 1) (hp : ρ p = .int .i64 a) (hq : ρ q = .int .i64 1) :
    (execOp ρ ⟨d, .binOp .add 3 p q 3, ty, pos, af, none⟩).run Tryz.prog w = .ok (.value (.int .i64 (a + 1))) w := by
  have h1 : IntKind.i64.wrap 1 = 1 := by decide
  have h2 : IntKind.i64.wrap 2 = 2 := by decide
  simp only [execOp]; rw [hp, hq]
  rcases ha with rfl | rfl <;> go_simp
theorem run_build66 (p q r : Operand) (x y z : ByteArray) (hp : ρ p = .string x) (hq : ρ q = .string y) (hr : ρ r = .string z) : (execOp ρ ⟨d, .build 66 #[(0, p), (1, q), (2, r)], ty, pos, af, none⟩).run Tryz.prog w = .ok (.value (.agg #[.string x, .string y, .string z])) w := by
  simp only [execOp, List.map_toArray, List.map_cons, List.map_nil]; rw [hp, hq, hr]; go_simp
theorem run_list66 (p : Operand) (a b c : Value) (hp : ρ p = .agg #[a, b, c]) :
    (execOp ρ ⟨d, .buildSlice 49 1 #[(0, p)], ty, pos, af, none⟩).run Tryz.prog w = .ok (.value (.slice (some ⟨w.heap.size, 0, none⟩) 1 1)) (w.alloc (.cells #[a, b, c] 66)) := by
  simp only [execOp]; go_simp
theorem run_store49 (p q : Operand) (ad : Addr) (x : Option Addr) (n c : Nat) (v : Value) (hp : ρ p = .pointer (some ad)) (hq : ρ q = .slice x n c) (hv : w.cell? ad = some v) (hf : w.frozen? ad = false) :
    (execOp ρ ⟨d, .store 49 p q, ty, pos, af, none⟩).run Tryz.prog w = .ok .skip (w.setCell ad (.slice x n c)) := by
  simp only [execOp]; rw [hp, hq]; go_simp
end
theorem wpOp_app {w : World} {ops : Array Oper} {Q : Exit → Act → World → Prop} {a : Act} {K : Act → World → Prop} {i : Nat} {dd : Option Tmp} {ty : TypeId} {pos : String} {af : Array Edge} {s y : Operand} (t : TypeId)
    (hi0 : ops[i]? = some ⟨dd, .call { callee := .builtin .append, args := #[s, y], argTypes := #[t, t] }, ty, pos, af, none⟩)
    (base : Nat) (e : TypeId) (info : TypeInfo) (z : Value) (size bytes : Nat) (ht : Tryz.prog.underlying t = some (.slice e)) (hi : Tryz.prog.info? e = some info) (hz : info.zero = some z)
    (hsize : info.size = size) (hby : info.bytes = bytes) (hzs : z.cells.size = size) (hsz : 0 < size)
    (v : Value) (n : Nat) (xs : List Value) (hs : a.eval s = v) (hown : w.ownsRow base e size v n xs)
    (ad : Addr) (m c : Nat) (news : List Value) (hx : a.eval y = .slice (some ad) m c) (hl : news.length = m * size) (hnews : ∀ j u, news[j]? = some u → w.cell? (ad.add j) = some u) (h1 : ∀ u ∈ news, u.oneCell' = true)
    (hm : 0 < m) (h63 : n + m ≤ maxLen) (hbytes : (n + m) * bytes ≤ 140737488355328) (hbase : base ≤ w.heap.size) (Hs : Nat) (hH : w.heap.size = Hs)
    (h : ∀ g cap w', w'.ownsRow base e size (.slice (some ⟨g, 0, none⟩) (n + m) cap) (n + m) (xs ++ news) → w.grownBy w' v.ownBlock → (v.ownBlock = some g ∨ g = Hs) → g < w'.heap.size → K (a.put dd (.slice (some ⟨g, 0, none⟩) (n + m) cap)) w') : wpOp Tryz.prog ops Q i K a w := by
  obtain ⟨g, cap, w', hr, h2, h3, h4, h5⟩ := run_append_lies (P := Tryz.prog) w t ty base e info z size bytes ht hi hz hsize hby hzs hsz v n xs hown ad m c news hl hnews h1 hm h63 hbytes hbase Hs hH
  refine wpOp_ran hi0 rfl ?_ (h g cap w' h2 h3 h4 h5)
  unfold execOp
  simp only [resolve, invoke, builtin, Sem.run_bind, Sem.run_pure, Result.andThen_ok, List.map_toArray, List.map_cons, List.map_nil, hs, hx, hr]
def T21 (i : Nat) : Bool := i == 21
def S1at (f k : Nat) (W : World) : Prop := W.cell? ⟨f, 1, none⟩ = some (.int .i64 k) ∧ W.cell? ⟨f, 2, none⟩ = some (.int .i64 1)
def S2at (C : Nat) (tv : Value) (W : World) : Prop := W.cell? ⟨C, 2, none⟩ = some tv

/-- In the loop over the pieces. -/
structure SpS (w W : World) (C pg pc : Nat) (tv : Value) (k : Nat) (cs : List Value) : Prop where
  res : W.heap[w.heap.size]? = some (.cells #[.string ⟨#[]⟩, .slice none 0 0, .slice none 0 0, .string ⟨#[]⟩] 107 (0, 0))
  cut : W.heap[C]? = some (.cells #[.string ⟨#[97, 97]⟩, .slice (some ⟨pg, 0, none⟩) 2 pc, tv, .string ⟨#[]⟩] 107 (0, 0))
  pcs : ∀ j u, ([.int .i64 0, .int .i64 0, .int .i64 1, .int .i64 1, .int .i64 0, .int .i64 1, .int .i64 1, .int .i64 1] : List Value)[j]? = some u → W.cell? ⟨pg, j, none⟩ = some u
  tok : W.ownsRow (C + 1) 66 3 tv k cs
  gr : w.grownBy W none
  lo : w.heap.size < C
  plo : pg < C
theorem SpS.grow {w W W' : World} {C pg pc : Nat} {tv : Value} {k : Nat} {cs : List Value} (h : SpS w W C pg pc tv k cs) (g : W.grownBy W' none) : SpS w W' C pg pc tv k cs :=
  ⟨grow_new g h.res, grow_new g h.cut, fun j u hu => cell_grown (h.pcs j u hu) g, ownsRow_frm (Frm.of_grown g (fun _ _ => True)) h.tok (fun _ _ _ _ => trivial), grownBy_trans h.gr g, h.lo, h.plo⟩
theorem SpS.app {w W W' : World} {C pg pc : Nat} {tv tv' : Value} {k k' : Nat} {cs cs' : List Value} (h : SpS w W C pg pc tv k cs) (g : W.grownBy W' tv.ownBlock) (ho : W'.ownsRow (C + 1) 66 3 tv' k' cs') : SpS w (W'.setCell ⟨C, 2, none⟩ tv') C pg pc tv' k' cs' := by
  have hlo := h.lo
  have hpl := h.plo
  have hrow : ∀ r, tv.ownBlock = some r → C + 1 ≤ r := fun r hr => (ownsRow_block h.tok r hr).1
  have hk : ∀ {c : Nat} {o : Obj}, W.heap[c]? = some o → c ≤ C → W'.heap[c]? = some o := fun hc hl => by
    rw [g.block _ (lt_of_block hc) (fun e => by have := hrow _ e.symm; omega)]; exact hc
  have hcut := heap_setCell_self (hk h.cut (Nat.le_refl _)) 2 tv'
  simp only [List.setIfInBounds_toArray, List.set_cons_succ, List.set_cons_zero] at hcut
  refine ⟨?_, hcut, fun j u hu => ?_, own_setN ho _ _ (by simp), ?_, h.lo, h.plo⟩
  · rw [Below.heap_setCell _ _ _ _ (by simp; omega)]; exact hk h.res (by omega)
  · have hc := g.cell (h.pcs j u hu) (fun e => by have := hrow _ e.symm; simp at this; omega)
    rw [← hc]
    exact World.cell?_of_block (w := W') (Below.heap_setCell _ _ _ _ (by simp; omega))
  · exact grow_setCell (grow_row h.gr g (fun r hr => by have := hrow r hr; omega)) _ _ (by simp; omega)
theorem SpS.arm {w wa W w3 : World} {C pg pc f : Nat} {tv tv' : Value} {k k' : Nat} {cs cs' : List Value} {F : Array Value} (h : SpS w wa C pg pc tv k cs) (hF : wa.heap[f]? = some (.cells F 43 (0, 0))) (hf : f ≠ C) (g0 : wa.grownBy W none) (g : W.grownBy w3 tv.ownBlock) (ho : w3.ownsRow (C + 1) 66 3 tv' k' cs') :
    w3.heap[C]? = some (.cells #[.string ⟨#[97, 97]⟩, .slice (some ⟨pg, 0, none⟩) 2 pc, tv, .string ⟨#[]⟩] 107 (0, 0)) ∧ SpS w (w3.setCell ⟨C, 2, none⟩ tv') C pg pc tv' k' cs' ∧ (w3.setCell ⟨C, 2, none⟩ tv').heap[f]? = some (.cells F 43 (0, 0)) := by
  have h1 := h.grow g0
  refine ⟨own_keepN h1.tok g h1.cut (by omega), h1.app g ho, ?_⟩
  rw [Below.heap_setCell _ _ _ _ hf]
  exact grown_block h1.tok g (grow_new g0 hF) (by decide)
set_option maxHeartbeats 2000000 in
set_option maxRecDepth 100000 in
theorem split_a (bm B : Nat) (w : World) (hM : LexM w bm) (hb : w.heap[B]? = some (.cells #[.string ⟨#[97]⟩, .int .i64 1, .int .i64 97, .int .i64 97, .slice none 0 0] 88 (0, 0))) :
    Calls Tryz.prog 52 #[.pointer (some ⟨bm, 0, none⟩), .slice (some ⟨B, 0, none⟩) 1 1, .string ⟨#[97, 97]⟩] w (SplitPost w) := by
  obtain ⟨i66, hi, hz0, hz1, hz2⟩ := info_parts info66
  have HI := Lib.hid hi
  have HZ0 := Lib.hid hz0
  have HZ1 := Lib.hid hz1
  have HZ2 := Lib.hid hz2
  have HM := Lib.hid hM
  have HB := Lib.hid hb
  have hlt := lt_of_block hb
  clear hi hz0 hz1 hz2 hM hb
  go_enter Tryz.func52, Tryz.ntmps52
  go_wp2_with fail
  have r0 := heap_alloc_new w (.cells #[.string ⟨#[]⟩, .slice none 0 0, .slice none 0 0, .string ⟨#[]⟩] 107)
  have g0 := World.grownBy_alloc w (.cells #[.string ⟨#[]⟩, .slice none 0 0, .slice none 0 0, .string ⟨#[]⟩] 107) none
  have hs0 := lt_of_block r0
  generalize w.alloc _ = w0 at r0 g0 hs0 ⊢
  refine (pieces_a bm w0 (HM.out.grow g0)).mono ?_
  rintro e w1 ⟨pg, pc, rfl, own1, g1⟩
  have R1 := grow_new g1 r0
  have hs1 := g1.size
  have hpg := (ownsRow_block own1 pg rfl).1
  have hpgC : pg < w1.heap.size := by obtain ⟨_, c, hc⟩ := ownsRow_block own1 pg rfl; exact lt_of_block hc
  have R2 := Lib.hid (grow_new (World.grownBy_alloc w1 (.cells #[.string ⟨#[97, 97]⟩, .slice (some ⟨pg, 0, none⟩) 2 pc, .slice none 0 0, .string ⟨#[]⟩] 107) none) R1)
  have C2 := Lib.hid (heap_alloc_new w1 (.cells #[.string ⟨#[97, 97]⟩, .slice (some ⟨pg, 0, none⟩) 2 pc, .slice none 0 0, .string ⟨#[]⟩] 107))
  have O2 := Lib.hid (own1.alloc (.cells #[.string ⟨#[97, 97]⟩, .slice (some ⟨pg, 0, none⟩) 2 pc, .slice none 0 0, .string ⟨#[]⟩] 107))
  have G2 := Lib.hid (grow_alloc (grownBy_trans g0 g1) (.cells #[.string ⟨#[97, 97]⟩, .slice (some ⟨pg, 0, none⟩) 2 pc, .slice none 0 0, .string ⟨#[]⟩] 107))
  have hc1 := lt_of_block C2.out
  clear r0 g0 own1 g1 R1
  go_upto_region 5 with (fail)
  generalize w1.alloc _ = w2 at R2 C2 O2 G2 hc1 ⊢
  generalize w1.heap.size = C at C2 hc1 hs1 hpgC ⊢
  have S0 : Hid (SpS w w2 C pg pc (.slice none 0 0) 0 []) := Lib.hid ⟨R2.out, C2.out, fun j u hu => by
    obtain ⟨g, c, he, _, hc⟩ := ownsRow_cell O2.out (by omega)
    simp only [Value.slice.injEq, Option.some.injEq, Addr.mk.injEq] at he
    rw [he.1.1]
    exact hc j u hu, World.ownsRow_nil _ _ _ _, G2.out, by omega, hpgC⟩
  clear R2 C2 O2 G2
  go_wp2_with fail
  refine wp_loop_rounds 3 ?_
  rw [rounds_succ]
  have p0 := S0.out.pcs 0 _ rfl
  have p1 := S0.out.pcs 1 _ rfl
  have p2 := S0.out.pcs 2 _ rfl
  have p3 := S0.out.pcs 3 _ rfl
  have m0 := cell_of_block (grow_new (grow_alloc S0.out.gr (.cells #[.int .i64 0, .int .i64 0, .int .i64 1, .int .i64 1] 43)) HB.out) 0
  simp only [List.getElem?_toArray, List.getElem?_cons_zero] at m0
  have hC0 := lt_of_block S0.out.cut
  go_upto_region 11 with (fail)
  have S0b := Lib.hid (S0.out.grow (World.grownBy_alloc w2 (.cells #[.int .i64 0, .int .i64 0, .int .i64 1, .int .i64 1] 43) none))
  have F0 := heap_alloc_new w2 (.cells #[.int .i64 0, .int .i64 0, .int .i64 1, .int .i64 1] 43)
  generalize w2.alloc _ = w2a at S0b F0 ⊢
  generalize w2.heap.size = f0 at F0 hC0 ⊢
  have x1 := cell_of_block F0 1
  have x2 := cell_of_block F0 2
  have c2 := cell_of_block S0b.out.cut 2
  have hCa0 := lt_of_block S0b.out.cut
  simp only [List.getElem?_toArray, List.getElem?_cons_zero, List.getElem?_cons_succ] at x1 x2 c2
  have HF0 := Lib.hid F0
  clear p0 p1 p2 p3 m0 F0
  go_cut [] (fun wx => ∃ g cap, Hid (SpS w wx C pg pc (.slice (some ⟨g, 0, none⟩) 1 cap) 1 ([.string ⟨#[97]⟩, .string ((⟨#[97, 97]⟩ : ByteArray).extract 0 0), .string ((⟨#[97, 97]⟩ : ByteArray).extract 0 1)])) ∧ Hid (wx.heap[f0]? = some (.cells #[.int .i64 0, .int .i64 0, .int .i64 1, .int .i64 1] 43 (0, 0))))
  case first =>
    have hS1 : S1at f0 0 w2a := ⟨x1, x2⟩
    have hS2 : S2at C (.slice none 0 0) w2a := c2
    have hS1d : S1at f0 0 w2a.drew := ⟨x1, x2⟩
    have hS2d : S2at C (.slice none 0 0) w2a.drew := c2
    refine wp_region_K2 (S1at f0 0) (S2at C (.slice none 0 0)) T21 22 #[false, false, false, false, false, false, false, false, false, false, false, false, false, false, false, false, false, false, false, false, false, false] (by kernel_rfl) (by kernel_rfl) (by kernel_rfl) ?_
    refine wpAnyK_take1 (i := 0) (some 46) (v := (.pointer (some ⟨C, 2, none⟩))) rfl rfl (by kernel_rfl) (by kernel_rfl) (by kernel_rfl) (fun _ _ _ h => h) (.inl ⟨by rfl, fun w' hw' => run_field107 _ C rfl⟩) hS1d ?_
    simp only [Act.put, List.setIfInBounds_toArray, List.set_cons_zero, List.set_cons_succ]
    refine wpAnyK_take2 (i := 1) (some 47) (v := (.slice none 0 0)) rfl rfl (by kernel_rfl) (by kernel_rfl) (by kernel_rfl) (fun _ _ _ h => h) (by intro j hj; obtain rfl : j = 21 := (by simpa [T21] using hj); kernel_rfl) (.inl ⟨by rfl, fun w' hw' => run_load49 _ ⟨C, 2, none⟩ _ rfl hw'.2⟩) ⟨hS1d, hS2d⟩ ?_
    simp only [Act.put, List.setIfInBounds_toArray, List.set_cons_zero, List.set_cons_succ]
    refine wpAnyK_take1 (i := 2) (some 48) (v := (.string ⟨#[97]⟩)) rfl rfl (by kernel_rfl) (by kernel_rfl) (by kernel_rfl) (fun _ _ _ h => h) (.inl ⟨by rfl, fun w' hw' => run_move1 _⟩) hS1d ?_
    simp only [Act.put, List.setIfInBounds_toArray, List.set_cons_zero, List.set_cons_succ]
    refine wpAnyK_take1 (i := 3) (some 49) (v := (.string ⟨#[97, 97]⟩)) rfl rfl (by kernel_rfl) (by kernel_rfl) (by kernel_rfl) (fun _ _ _ h => h) (.inl ⟨by rfl, fun w' hw' => run_move1 _⟩) hS1d ?_
    simp only [Act.put, List.setIfInBounds_toArray, List.set_cons_zero, List.set_cons_succ]
    refine wpAnyK_take1 (i := 4) (some 50) (v := (.int .i64 0)) rfl rfl (by kernel_rfl) (by kernel_rfl) (by kernel_rfl) (fun _ _ _ h => h) (.inl ⟨by rfl, fun w' hw' => run_move1 _⟩) hS1d ?_
    simp only [Act.put, List.setIfInBounds_toArray, List.set_cons_zero, List.set_cons_succ]
    refine wpAnyK_take1 (i := 5) (some 51) (v := (.pointer (some ⟨f0, 1, none⟩))) rfl rfl (by kernel_rfl) (by kernel_rfl) (by kernel_rfl) (fun _ _ _ h => h) (.inl ⟨by rfl, fun w' hw' => run_field43 _ f0 1 (.inl rfl) rfl⟩) hS1d ?_
    simp only [Act.put, List.setIfInBounds_toArray, List.set_cons_zero, List.set_cons_succ]
    refine wpAnyK_take1 (i := 6) (some 52) (v := (.int .i64 0)) rfl rfl (by kernel_rfl) (by kernel_rfl) (by kernel_rfl) (fun _ _ _ h => h) (.inl ⟨by rfl, fun w' hw' => run_load1 3 _ ⟨f0, 1, none⟩ _ (by simp) rfl hw'.1⟩) hS1d ?_
    simp only [Act.put, List.setIfInBounds_toArray, List.set_cons_zero, List.set_cons_succ]
    refine wpAnyK_take1 (i := 7) (some 53) (v := (.string ((⟨#[97, 97]⟩ : ByteArray).extract 0 0))) rfl rfl (by kernel_rfl) (by kernel_rfl) (by kernel_rfl) (fun _ _ _ h => h) (.inl ⟨by rfl, fun w' hw' => run_cut2 _ _ _ 0 0 (by omega) (by omega) rfl rfl rfl⟩) hS1d ?_
    simp only [Act.put, List.setIfInBounds_toArray, List.set_cons_zero, List.set_cons_succ]
    refine wpAnyK_take1 (i := 8) (some 54) (v := (.string ⟨#[97, 97]⟩)) rfl rfl (by kernel_rfl) (by kernel_rfl) (by kernel_rfl) (fun _ _ _ h => h) (.inl ⟨by rfl, fun w' hw' => run_move1 _⟩) hS1d ?_
    simp only [Act.put, List.setIfInBounds_toArray, List.set_cons_zero, List.set_cons_succ]
    refine wpAnyK_take1 (i := 9) (some 55) (v := (.pointer (some ⟨f0, 1, none⟩))) rfl rfl (by kernel_rfl) (by kernel_rfl) (by kernel_rfl) (fun _ _ _ h => h) (.inl ⟨by rfl, fun w' hw' => run_field43 _ f0 1 (.inl rfl) rfl⟩) hS1d ?_
    simp only [Act.put, List.setIfInBounds_toArray, List.set_cons_zero, List.set_cons_succ]
    refine wpAnyK_take1 (i := 10) (some 56) (v := (.int .i64 0)) rfl rfl (by kernel_rfl) (by kernel_rfl) (by kernel_rfl) (fun _ _ _ h => h) (.inl ⟨by rfl, fun w' hw' => run_load1 3 _ ⟨f0, 1, none⟩ _ (by simp) rfl hw'.1⟩) hS1d ?_
    simp only [Act.put, List.setIfInBounds_toArray, List.set_cons_zero, List.set_cons_succ]
    refine wpAnyK_take1 (i := 11) (some 57) (v := (.pointer (some ⟨f0, 1, none⟩))) rfl rfl (by kernel_rfl) (by kernel_rfl) (by kernel_rfl) (fun _ _ _ h => h) (.inl ⟨by rfl, fun w' hw' => run_field43 _ f0 1 (.inl rfl) rfl⟩) hS1d ?_
    simp only [Act.put, List.setIfInBounds_toArray, List.set_cons_zero, List.set_cons_succ]
    refine wpAnyK_take1 (i := 12) (some 58) (v := (.int .i64 0)) rfl rfl (by kernel_rfl) (by kernel_rfl) (by kernel_rfl) (fun _ _ _ h => h) (.inl ⟨by rfl, fun w' hw' => run_load1 3 _ ⟨f0, 1, none⟩ _ (by simp) rfl hw'.1⟩) hS1d ?_
    simp only [Act.put, List.setIfInBounds_toArray, List.set_cons_zero, List.set_cons_succ]
    refine wpAnyK_take1 (i := 13) (some 59) (v := (.pointer (some ⟨f0, 2, none⟩))) rfl rfl (by kernel_rfl) (by kernel_rfl) (by kernel_rfl) (fun _ _ _ h => h) (.inl ⟨by rfl, fun w' hw' => run_field43 _ f0 2 (.inr rfl) rfl⟩) hS1d ?_
    simp only [Act.put, List.setIfInBounds_toArray, List.set_cons_zero, List.set_cons_succ]
    refine wpAnyK_take1 (i := 14) (some 60) (v := (.int .i64 1)) rfl rfl (by kernel_rfl) (by kernel_rfl) (by kernel_rfl) (fun _ _ _ h => h) (.inl ⟨by rfl, fun w' hw' => run_load1 3 _ ⟨f0, 2, none⟩ _ (by simp) rfl hw'.2⟩) hS1d ?_
    simp only [Act.put, List.setIfInBounds_toArray, List.set_cons_zero, List.set_cons_succ]
    refine wpAnyK_take1 (i := 15) (some 61) (v := (.int .i64 (0 + 1))) rfl rfl (by kernel_rfl) (by kernel_rfl) (by kernel_rfl) (fun _ _ _ h => h) (.inl ⟨by rfl, fun w' hw' => run_add1 _ _ 0 (by omega) rfl rfl⟩) hS1d ?_
    simp only [Act.put, List.setIfInBounds_toArray, List.set_cons_zero, List.set_cons_succ]
    refine wpAnyK_take1 (i := 16) (some 62) (v := (.string ((⟨#[97, 97]⟩ : ByteArray).extract 0 1))) rfl rfl (by kernel_rfl) (by kernel_rfl) (by kernel_rfl) (fun _ _ _ h => h) (.inl ⟨by rfl, fun w' hw' => run_cut2 _ _ _ 0 1 (by omega) (by omega) rfl rfl rfl⟩) hS1d ?_
    simp only [Act.put, List.setIfInBounds_toArray, List.set_cons_zero, List.set_cons_succ]
    refine wpAnyK_take1 (i := 17) (some 63) (v := (.agg #[.string ⟨#[97]⟩, .string ((⟨#[97, 97]⟩ : ByteArray).extract 0 0), .string ((⟨#[97, 97]⟩ : ByteArray).extract 0 1)])) rfl rfl (by kernel_rfl) (by kernel_rfl) (by kernel_rfl) (fun _ _ _ h => h) (.inl ⟨by rfl, fun w' hw' => run_build66 _ _ _ _ _ _ rfl rfl rfl⟩) hS1d ?_
    simp only [Act.put, List.setIfInBounds_toArray, List.set_cons_zero, List.set_cons_succ]
    refine wpAnyK_all1 (i := 18) (by kernel_rfl) (wpOp_ran2 (some 64) rfl rfl rfl (run_list66 _ _ _ _ rfl) ⟨⟨⟨cell_grown hS1d.1 (World.grownBy_alloc _ _ none), cell_grown hS1d.2 (World.grownBy_alloc _ _ none)⟩, .inr fun _ => cell_grown hS2d (World.grownBy_alloc _ _ none)⟩, ?_⟩)
    simp only [Act.put, List.setIfInBounds_toArray, List.set_cons_zero, List.set_cons_succ]
    have gq : w2a.grownBy (w2a.drew.alloc (.cells #[.string ⟨#[97]⟩, .string ((⟨#[97, 97]⟩ : ByteArray).extract 0 0), .string ((⟨#[97, 97]⟩ : ByteArray).extract 0 1)] 66)) none := grow_alloc (grow_drew (grow_self _)) _
    have hq := World.news_of_block (cs := #[.string ⟨#[97]⟩, .string ((⟨#[97, 97]⟩ : ByteArray).extract 0 0), .string ((⟨#[97, 97]⟩ : ByteArray).extract 0 1)]) (t := 66) (fr := (0, 0)) (heap_alloc_new w2a.drew (.cells #[.string ⟨#[97]⟩, .string ((⟨#[97, 97]⟩ : ByteArray).extract 0 0), .string ((⟨#[97, 97]⟩ : ByteArray).extract 0 1)] 66))
    have sq := S0b.out.grow gq
    refine wpAnyK_all1 (i := 19) (by kernel_rfl) (wpOp_app (dd := some 65) 49 rfl (C + 1) 66 i66 (.agg #[.string ⟨#[]⟩, .string ⟨#[]⟩, .string ⟨#[]⟩]) 3 48 Tryz.underlying49 HI.out HZ0.out HZ1.out HZ2.out rfl (by omega) (.slice none 0 0) 0 ([]) rfl sq.tok ⟨w2a.drew.heap.size, 0, none⟩ 1 1 [.string ⟨#[97]⟩, .string ((⟨#[97, 97]⟩ : ByteArray).extract 0 0), .string ((⟨#[97, 97]⟩ : ByteArray).extract 0 1)] rfl rfl hq (by simp [Value.oneCell']) (by omega) (by decide) (by omega) (by have := gq.size; omega) _ rfl (fun gg cap1 w3 hown1 hgrow hat hlt1 => ?_))
    have hz := SpS.arm S0b.out HF0.out (by omega) gq hgrow hown1
    have BF := grown_block sq.tok hgrow (grow_new gq HF0.out) (by decide)
    have q1f : w3.cell? ⟨f0, 1, none⟩ = some (.int .i64 0) := cell_of_block BF 1
    have q2f : w3.cell? ⟨f0, 2, none⟩ = some (.int .i64 1) := cell_of_block BF 2
    have z2 : w3.cell? ⟨C, 2, none⟩ = some (.slice none 0 0) := cell_of_block hz.1 2
    have fz2 := free_of_block hz.1 2
    refine ⟨⟨⟨q1f, q2f⟩, .inr fun _ => z2⟩, ?_⟩
    simp only [Act.put, List.setIfInBounds_toArray, List.set_cons_zero, List.set_cons_succ]
    refine wpAnyK_all1 (i := 20) (by kernel_rfl) (wpOp_ran2 (some 66) rfl rfl rfl (run_field107 _ C rfl) ⟨⟨⟨q1f, q2f⟩, .inr id⟩, ?_⟩)
    simp only [Act.put, List.setIfInBounds_toArray, List.set_cons_zero, List.set_cons_succ]
    have q1g : (w3.setCell ⟨C, 2, none⟩ (.slice (some ⟨gg, 0, none⟩) 1 cap1)).cell? ⟨f0, 1, none⟩ = some (.int .i64 0) := cell_of_block hz.2.2 1
    have q2g : (w3.setCell ⟨C, 2, none⟩ (.slice (some ⟨gg, 0, none⟩) 1 cap1)).cell? ⟨f0, 2, none⟩ = some (.int .i64 1) := cell_of_block hz.2.2 2
    refine wpAnyK_all1 (i := 21) (by kernel_rfl) (wpOp_skipped rfl rfl (run_store49 _ _ ⟨C, 2, none⟩ _ _ _ _ rfl rfl z2 fz2) ⟨⟨⟨q1g, q2g⟩, .inl rfl⟩, ?_⟩)
    simp only [Act.put, List.setIfInBounds_toArray, List.set_cons_zero, List.set_cons_succ]
    refine wpAnyK_done (by kernel_rfl) ?_ _
    go_wp2_with fail
    go_meet
    exact ⟨gg, cap1, Lib.hid hz.2.1, Lib.hid hz.2.2⟩
  case rest =>
    obtain ⟨v1, rfl⟩ : ∃ v : World, v = wc := ⟨_, rfl⟩
    obtain ⟨g0, cap0, S1, HF0b⟩ := hcut
    have x1 := cell_of_block HF0b.out 1
    have x2 := cell_of_block HF0b.out 2
    simp only [List.getElem?_toArray, List.getElem?_cons_zero, List.getElem?_cons_succ] at x1 x2
    go_wp2_with fail
    rw [rounds_succ]
    clear x1 x2
    have p0 := S1.out.pcs 4 _ rfl
    have p1 := S1.out.pcs 5 _ rfl
    have p2 := S1.out.pcs 6 _ rfl
    have p3 := S1.out.pcs 7 _ rfl
    have m0 := cell_of_block (grow_new (grow_alloc S1.out.gr (.cells #[.int .i64 0, .int .i64 1, .int .i64 1, .int .i64 1] 43)) HB.out) 0
    simp only [List.getElem?_toArray, List.getElem?_cons_zero] at m0
    have hC1 := lt_of_block S1.out.cut
    go_upto_region 11 with (fail)
    have S1b := Lib.hid (S1.out.grow (World.grownBy_alloc v1 (.cells #[.int .i64 0, .int .i64 1, .int .i64 1, .int .i64 1] 43) none))
    have F1 := heap_alloc_new v1 (.cells #[.int .i64 0, .int .i64 1, .int .i64 1, .int .i64 1] 43)
    generalize v1.alloc _ = v1a at S1b F1 ⊢
    generalize v1.heap.size = f1 at F1 hC1 ⊢
    have x1 := cell_of_block F1 1
    have x2 := cell_of_block F1 2
    have c2 := cell_of_block S1b.out.cut 2
    have hCa1 := lt_of_block S1b.out.cut
    simp only [List.getElem?_toArray, List.getElem?_cons_zero, List.getElem?_cons_succ] at x1 x2 c2
    have HF1 := Lib.hid F1
    clear p0 p1 p2 p3 m0 F1
    go_cut [] (fun wx => ∃ g cap, Hid (SpS w wx C pg pc (.slice (some ⟨g, 0, none⟩) 2 cap) 2 ([.string ⟨#[97]⟩, .string ((⟨#[97, 97]⟩ : ByteArray).extract 0 0), .string ((⟨#[97, 97]⟩ : ByteArray).extract 0 1)] ++ [.string ⟨#[97]⟩, .string ((⟨#[97, 97]⟩ : ByteArray).extract 1 1), .string ((⟨#[97, 97]⟩ : ByteArray).extract 1 2)])) ∧ Hid (wx.heap[f1]? = some (.cells #[.int .i64 0, .int .i64 1, .int .i64 1, .int .i64 1] 43 (0, 0))))
    case first =>
      have hS1 : S1at f1 1 v1a := ⟨x1, x2⟩
      have hS2 : S2at C (.slice (some ⟨g0, 0, none⟩) 1 cap0) v1a := c2
      have hS1d : S1at f1 1 v1a.drew := ⟨x1, x2⟩
      have hS2d : S2at C (.slice (some ⟨g0, 0, none⟩) 1 cap0) v1a.drew := c2
      refine wp_region_K2 (S1at f1 1) (S2at C (.slice (some ⟨g0, 0, none⟩) 1 cap0)) T21 22 #[false, false, false, false, false, false, false, false, false, false, false, false, false, false, false, false, false, false, false, false, false, false] (by kernel_rfl) (by kernel_rfl) (by kernel_rfl) ?_
      refine wpAnyK_take1 (i := 0) (some 46) (v := (.pointer (some ⟨C, 2, none⟩))) rfl rfl (by kernel_rfl) (by kernel_rfl) (by kernel_rfl) (fun _ _ _ h => h) (.inl ⟨by rfl, fun w' hw' => run_field107 _ C rfl⟩) hS1d ?_
      simp only [Act.put, List.setIfInBounds_toArray, List.set_cons_zero, List.set_cons_succ]
      refine wpAnyK_take2 (i := 1) (some 47) (v := (.slice (some ⟨g0, 0, none⟩) 1 cap0)) rfl rfl (by kernel_rfl) (by kernel_rfl) (by kernel_rfl) (fun _ _ _ h => h) (by intro j hj; obtain rfl : j = 21 := (by simpa [T21] using hj); kernel_rfl) (.inl ⟨by rfl, fun w' hw' => run_load49 _ ⟨C, 2, none⟩ _ rfl hw'.2⟩) ⟨hS1d, hS2d⟩ ?_
      simp only [Act.put, List.setIfInBounds_toArray, List.set_cons_zero, List.set_cons_succ]
      refine wpAnyK_take1 (i := 2) (some 48) (v := (.string ⟨#[97]⟩)) rfl rfl (by kernel_rfl) (by kernel_rfl) (by kernel_rfl) (fun _ _ _ h => h) (.inl ⟨by rfl, fun w' hw' => run_move1 _⟩) hS1d ?_
      simp only [Act.put, List.setIfInBounds_toArray, List.set_cons_zero, List.set_cons_succ]
      refine wpAnyK_take1 (i := 3) (some 49) (v := (.string ⟨#[97, 97]⟩)) rfl rfl (by kernel_rfl) (by kernel_rfl) (by kernel_rfl) (fun _ _ _ h => h) (.inl ⟨by rfl, fun w' hw' => run_move1 _⟩) hS1d ?_
      simp only [Act.put, List.setIfInBounds_toArray, List.set_cons_zero, List.set_cons_succ]
      refine wpAnyK_take1 (i := 4) (some 50) (v := (.int .i64 1)) rfl rfl (by kernel_rfl) (by kernel_rfl) (by kernel_rfl) (fun _ _ _ h => h) (.inl ⟨by rfl, fun w' hw' => run_move1 _⟩) hS1d ?_
      simp only [Act.put, List.setIfInBounds_toArray, List.set_cons_zero, List.set_cons_succ]
      refine wpAnyK_take1 (i := 5) (some 51) (v := (.pointer (some ⟨f1, 1, none⟩))) rfl rfl (by kernel_rfl) (by kernel_rfl) (by kernel_rfl) (fun _ _ _ h => h) (.inl ⟨by rfl, fun w' hw' => run_field43 _ f1 1 (.inl rfl) rfl⟩) hS1d ?_
      simp only [Act.put, List.setIfInBounds_toArray, List.set_cons_zero, List.set_cons_succ]
      refine wpAnyK_take1 (i := 6) (some 52) (v := (.int .i64 1)) rfl rfl (by kernel_rfl) (by kernel_rfl) (by kernel_rfl) (fun _ _ _ h => h) (.inl ⟨by rfl, fun w' hw' => run_load1 3 _ ⟨f1, 1, none⟩ _ (by simp) rfl hw'.1⟩) hS1d ?_
      simp only [Act.put, List.setIfInBounds_toArray, List.set_cons_zero, List.set_cons_succ]
      refine wpAnyK_take1 (i := 7) (some 53) (v := (.string ((⟨#[97, 97]⟩ : ByteArray).extract 1 1))) rfl rfl (by kernel_rfl) (by kernel_rfl) (by kernel_rfl) (fun _ _ _ h => h) (.inl ⟨by rfl, fun w' hw' => run_cut2 _ _ _ 1 1 (by omega) (by omega) rfl rfl rfl⟩) hS1d ?_
      simp only [Act.put, List.setIfInBounds_toArray, List.set_cons_zero, List.set_cons_succ]
      refine wpAnyK_take1 (i := 8) (some 54) (v := (.string ⟨#[97, 97]⟩)) rfl rfl (by kernel_rfl) (by kernel_rfl) (by kernel_rfl) (fun _ _ _ h => h) (.inl ⟨by rfl, fun w' hw' => run_move1 _⟩) hS1d ?_
      simp only [Act.put, List.setIfInBounds_toArray, List.set_cons_zero, List.set_cons_succ]
      refine wpAnyK_take1 (i := 9) (some 55) (v := (.pointer (some ⟨f1, 1, none⟩))) rfl rfl (by kernel_rfl) (by kernel_rfl) (by kernel_rfl) (fun _ _ _ h => h) (.inl ⟨by rfl, fun w' hw' => run_field43 _ f1 1 (.inl rfl) rfl⟩) hS1d ?_
      simp only [Act.put, List.setIfInBounds_toArray, List.set_cons_zero, List.set_cons_succ]
      refine wpAnyK_take1 (i := 10) (some 56) (v := (.int .i64 1)) rfl rfl (by kernel_rfl) (by kernel_rfl) (by kernel_rfl) (fun _ _ _ h => h) (.inl ⟨by rfl, fun w' hw' => run_load1 3 _ ⟨f1, 1, none⟩ _ (by simp) rfl hw'.1⟩) hS1d ?_
      simp only [Act.put, List.setIfInBounds_toArray, List.set_cons_zero, List.set_cons_succ]
      refine wpAnyK_take1 (i := 11) (some 57) (v := (.pointer (some ⟨f1, 1, none⟩))) rfl rfl (by kernel_rfl) (by kernel_rfl) (by kernel_rfl) (fun _ _ _ h => h) (.inl ⟨by rfl, fun w' hw' => run_field43 _ f1 1 (.inl rfl) rfl⟩) hS1d ?_
      simp only [Act.put, List.setIfInBounds_toArray, List.set_cons_zero, List.set_cons_succ]
      refine wpAnyK_take1 (i := 12) (some 58) (v := (.int .i64 1)) rfl rfl (by kernel_rfl) (by kernel_rfl) (by kernel_rfl) (fun _ _ _ h => h) (.inl ⟨by rfl, fun w' hw' => run_load1 3 _ ⟨f1, 1, none⟩ _ (by simp) rfl hw'.1⟩) hS1d ?_
      simp only [Act.put, List.setIfInBounds_toArray, List.set_cons_zero, List.set_cons_succ]
      refine wpAnyK_take1 (i := 13) (some 59) (v := (.pointer (some ⟨f1, 2, none⟩))) rfl rfl (by kernel_rfl) (by kernel_rfl) (by kernel_rfl) (fun _ _ _ h => h) (.inl ⟨by rfl, fun w' hw' => run_field43 _ f1 2 (.inr rfl) rfl⟩) hS1d ?_
      simp only [Act.put, List.setIfInBounds_toArray, List.set_cons_zero, List.set_cons_succ]
      refine wpAnyK_take1 (i := 14) (some 60) (v := (.int .i64 1)) rfl rfl (by kernel_rfl) (by kernel_rfl) (by kernel_rfl) (fun _ _ _ h => h) (.inl ⟨by rfl, fun w' hw' => run_load1 3 _ ⟨f1, 2, none⟩ _ (by simp) rfl hw'.2⟩) hS1d ?_
      simp only [Act.put, List.setIfInBounds_toArray, List.set_cons_zero, List.set_cons_succ]
      refine wpAnyK_take1 (i := 15) (some 61) (v := (.int .i64 (1 + 1))) rfl rfl (by kernel_rfl) (by kernel_rfl) (by kernel_rfl) (fun _ _ _ h => h) (.inl ⟨by rfl, fun w' hw' => run_add1 _ _ 1 (by omega) rfl rfl⟩) hS1d ?_
      simp only [Act.put, List.setIfInBounds_toArray, List.set_cons_zero, List.set_cons_succ]
      refine wpAnyK_take1 (i := 16) (some 62) (v := (.string ((⟨#[97, 97]⟩ : ByteArray).extract 1 2))) rfl rfl (by kernel_rfl) (by kernel_rfl) (by kernel_rfl) (fun _ _ _ h => h) (.inl ⟨by rfl, fun w' hw' => run_cut2 _ _ _ 1 2 (by omega) (by omega) rfl rfl rfl⟩) hS1d ?_
      simp only [Act.put, List.setIfInBounds_toArray, List.set_cons_zero, List.set_cons_succ]
      refine wpAnyK_take1 (i := 17) (some 63) (v := (.agg #[.string ⟨#[97]⟩, .string ((⟨#[97, 97]⟩ : ByteArray).extract 1 1), .string ((⟨#[97, 97]⟩ : ByteArray).extract 1 2)])) rfl rfl (by kernel_rfl) (by kernel_rfl) (by kernel_rfl) (fun _ _ _ h => h) (.inl ⟨by rfl, fun w' hw' => run_build66 _ _ _ _ _ _ rfl rfl rfl⟩) hS1d ?_
      simp only [Act.put, List.setIfInBounds_toArray, List.set_cons_zero, List.set_cons_succ]
      refine wpAnyK_all1 (i := 18) (by kernel_rfl) (wpOp_ran2 (some 64) rfl rfl rfl (run_list66 _ _ _ _ rfl) ⟨⟨⟨cell_grown hS1d.1 (World.grownBy_alloc _ _ none), cell_grown hS1d.2 (World.grownBy_alloc _ _ none)⟩, .inr fun _ => cell_grown hS2d (World.grownBy_alloc _ _ none)⟩, ?_⟩)
      simp only [Act.put, List.setIfInBounds_toArray, List.set_cons_zero, List.set_cons_succ]
      have gq : v1a.grownBy (v1a.drew.alloc (.cells #[.string ⟨#[97]⟩, .string ((⟨#[97, 97]⟩ : ByteArray).extract 1 1), .string ((⟨#[97, 97]⟩ : ByteArray).extract 1 2)] 66)) none := grow_alloc (grow_drew (grow_self _)) _
      have hq := World.news_of_block (cs := #[.string ⟨#[97]⟩, .string ((⟨#[97, 97]⟩ : ByteArray).extract 1 1), .string ((⟨#[97, 97]⟩ : ByteArray).extract 1 2)]) (t := 66) (fr := (0, 0)) (heap_alloc_new v1a.drew (.cells #[.string ⟨#[97]⟩, .string ((⟨#[97, 97]⟩ : ByteArray).extract 1 1), .string ((⟨#[97, 97]⟩ : ByteArray).extract 1 2)] 66))
      have sq := S1b.out.grow gq
      refine wpAnyK_all1 (i := 19) (by kernel_rfl) (wpOp_app (dd := some 65) 49 rfl (C + 1) 66 i66 (.agg #[.string ⟨#[]⟩, .string ⟨#[]⟩, .string ⟨#[]⟩]) 3 48 Tryz.underlying49 HI.out HZ0.out HZ1.out HZ2.out rfl (by omega) (.slice (some ⟨g0, 0, none⟩) 1 cap0) 1 ([.string ⟨#[97]⟩, .string ((⟨#[97, 97]⟩ : ByteArray).extract 0 0), .string ((⟨#[97, 97]⟩ : ByteArray).extract 0 1)]) rfl sq.tok ⟨v1a.drew.heap.size, 0, none⟩ 1 1 [.string ⟨#[97]⟩, .string ((⟨#[97, 97]⟩ : ByteArray).extract 1 1), .string ((⟨#[97, 97]⟩ : ByteArray).extract 1 2)] rfl rfl hq (by simp [Value.oneCell']) (by omega) (by decide) (by omega) (by have := gq.size; omega) _ rfl (fun gg cap1 w3 hown1 hgrow hat hlt1 => ?_))
      have hz := SpS.arm S1b.out HF1.out (by omega) gq hgrow hown1
      have BF := grown_block sq.tok hgrow (grow_new gq HF1.out) (by decide)
      have q1f : w3.cell? ⟨f1, 1, none⟩ = some (.int .i64 1) := cell_of_block BF 1
      have q2f : w3.cell? ⟨f1, 2, none⟩ = some (.int .i64 1) := cell_of_block BF 2
      have z2 : w3.cell? ⟨C, 2, none⟩ = some (.slice (some ⟨g0, 0, none⟩) 1 cap0) := cell_of_block hz.1 2
      have fz2 := free_of_block hz.1 2
      refine ⟨⟨⟨q1f, q2f⟩, .inr fun _ => z2⟩, ?_⟩
      simp only [Act.put, List.setIfInBounds_toArray, List.set_cons_zero, List.set_cons_succ]
      refine wpAnyK_all1 (i := 20) (by kernel_rfl) (wpOp_ran2 (some 66) rfl rfl rfl (run_field107 _ C rfl) ⟨⟨⟨q1f, q2f⟩, .inr id⟩, ?_⟩)
      simp only [Act.put, List.setIfInBounds_toArray, List.set_cons_zero, List.set_cons_succ]
      have q1g : (w3.setCell ⟨C, 2, none⟩ (.slice (some ⟨gg, 0, none⟩) 2 cap1)).cell? ⟨f1, 1, none⟩ = some (.int .i64 1) := cell_of_block hz.2.2 1
      have q2g : (w3.setCell ⟨C, 2, none⟩ (.slice (some ⟨gg, 0, none⟩) 2 cap1)).cell? ⟨f1, 2, none⟩ = some (.int .i64 1) := cell_of_block hz.2.2 2
      refine wpAnyK_all1 (i := 21) (by kernel_rfl) (wpOp_skipped rfl rfl (run_store49 _ _ ⟨C, 2, none⟩ _ _ _ _ rfl rfl z2 fz2) ⟨⟨⟨q1g, q2g⟩, .inl rfl⟩, ?_⟩)
      simp only [Act.put, List.setIfInBounds_toArray, List.set_cons_zero, List.set_cons_succ]
      refine wpAnyK_done (by kernel_rfl) ?_ _
      go_wp2_with fail
      go_meet
      exact ⟨gg, cap1, Lib.hid hz.2.1, Lib.hid hz.2.2⟩
    case rest =>
      obtain ⟨v2, rfl⟩ : ∃ v : World, v = wc := ⟨_, rfl⟩
      obtain ⟨g1, cap1, S2, HF1b⟩ := hcut
      have x1 := cell_of_block HF1b.out 1
      have x2 := cell_of_block HF1b.out 2
      simp only [List.getElem?_toArray, List.getElem?_cons_zero, List.getElem?_cons_succ] at x1 x2
      go_wp2_with fail
      rw [rounds_succ]
      clear x1 x2
      have e0 := cell_of_block S2.out.cut 0
      have e1 := cell_of_block S2.out.cut 1
      have e2 := cell_of_block S2.out.cut 2
      have e3 := cell_of_block S2.out.cut 3
      have fe3 := free_of_block S2.out.cut 3
      simp only [List.getElem?_toArray, List.getElem?_cons_zero, List.getElem?_cons_succ] at e0 e1 e2 e3
      go_upto_region 17 with (fail)
      have hlo := S2.out.lo
      have C9 := heap_setCell_self S2.out.cut 3 (.string ByteArray.empty)
      have R9 : (v2.setCell ⟨C, 3, none⟩ (.string ByteArray.empty)).heap[w.heap.size]? = _ := (Below.heap_setCell _ _ _ _ (by simp; omega)).trans S2.out.res
      have G9 := grow_setCell S2.out.gr ⟨C, 3, none⟩ (.string ByteArray.empty) (by simp; omega)
      simp only [List.setIfInBounds_toArray, List.set_cons_succ, List.set_cons_zero] at C9
      generalize v2.setCell _ _ = v9 at C9 R9 G9 ⊢
      have y0 := cell_of_block C9 0
      have y1 := cell_of_block C9 1
      have y2 := cell_of_block C9 2
      have y3 := cell_of_block C9 3
      have z0 := cell_of_block R9 0
      have z1 := cell_of_block R9 1
      have z2 := cell_of_block R9 2
      have z3 := cell_of_block R9 3
      have fz0 := free_of_block R9 0
      have fz1 := free_of_block R9 1
      have fz2 := free_of_block R9 2
      have fz3 := free_of_block R9 3
      simp only [List.getElem?_toArray, List.getElem?_cons_zero, List.getElem?_cons_succ] at y0 y1 y2 y3 z0 z1 z2 z3
      have HR9 := Lib.hid R9
      have HG9 := Lib.hid G9
      clear C9 R9 G9 e0 e1 e2 e3 fe3
      go_wp2_with fail
      have R5 := heap_setCell_self (heap_setCell_self (heap_setCell_self (heap_setCell_self HR9.out 0 (.string ⟨#[97, 97]⟩)) 1 (.slice (some ⟨pg, 0, none⟩) 2 pc)) 2 (.slice (some ⟨g1, 0, none⟩) 2 cap1)) 3 (.string ByteArray.empty)
      have G5 := grow_setCell (grow_setCell (grow_setCell (grow_setCell HG9.out ⟨w.heap.size, 0, none⟩ (.string ⟨#[97, 97]⟩) (by simp)) ⟨w.heap.size, 1, none⟩ (.slice (some ⟨pg, 0, none⟩) 2 pc) (by simp)) ⟨w.heap.size, 2, none⟩ (.slice (some ⟨g1, 0, none⟩) 2 cap1) (by simp)) ⟨w.heap.size, 3, none⟩ (.string ByteArray.empty) (by simp)
      simp only [List.setIfInBounds_toArray, List.set_cons_succ, List.set_cons_zero] at R5
      generalize (((v9.setCell _ _).setCell _ _).setCell _ _).setCell _ _ = w5 at R5 G5 ⊢
      have u0 := cell_of_block R5 0
      have u1 := cell_of_block R5 1
      have u2 := cell_of_block R5 2
      have u3 := cell_of_block R5 3
      simp only [List.getElem?_toArray, List.getElem?_cons_zero, List.getElem?_cons_succ] at u0 u1 u2 u3
      exact bodyPost_ret (v := .tuple #[.agg #[.string ⟨#[97, 97]⟩, .slice (some ⟨pg, 0, none⟩) 2 pc, .slice (some ⟨g1, 0, none⟩) 2 cap1, .string ByteArray.empty], .int .i64 0, .int .i64 0]) (by simp [results, Tryz.results52, go_sem, u0, u1, u2, u3]) rfl ⟨_, _, _, _, _, _, _, rfl, G5⟩
end Go.Proofs.YtplbacfjmajeeaaGreatDoor
namespace Go.Proofs.YtplbacfjmajeeaaGreatDoor
open Go.RowKit Go.Region

def SplitTwo (w : World) (e : Ending) (w' : World) : Prop := ∃ a c x, e = .returned (.tuple #[.slice a 2 c, .string x, .int .i64 0, .int .i64 0]) ∧ w.grownBy w' none
set_option maxHeartbeats 1000000 in
set_option maxRecDepth 100000 in
theorem splitTop_a (B : Nat) (w : World) (hb : w.heap[B]? = some (.cells #[.string ⟨#[97]⟩, .int .i64 1, .int .i64 97, .int .i64 97, .slice none 0 0] 88 (0, 0))) :
    Calls Tryz.prog 18 #[.slice (some ⟨B, 0, none⟩) 1 1, .string ⟨#[97, 97]⟩] w (SplitTwo w) := by
  have HB := Lib.hid hb
  clear hb
  go_enter Tryz.func18, Tryz.ntmps18
  go_wp2_with fail
  refine (checked_a B w HB.out).mono ?_
  rintro e w1 ⟨bm, rfl, hM, g1⟩
  have HM := Lib.hid hM
  have HG1 := Lib.hid g1
  clear hM g1
  go_wp2_with fail
  refine (split_a bm B w1 HM.out (grow_new HG1.out HB.out)).mono ?_
  rintro e w2 ⟨s, pa, pn, pc, a, c, x, rfl, g2⟩
  have G2 := Lib.hid (grow_alloc (grownBy_trans HG1.out g2) (.cells #[.string s, .slice pa pn pc, .slice a 2 c, .string x] 107))
  have C2 := heap_alloc_new w2 (.cells #[.string s, .slice pa pn pc, .slice a 2 c, .string x] 107)
  have y2 := cell_of_block C2 2
  have y3 := cell_of_block C2 3
  simp only [List.getElem?_toArray, List.getElem?_cons_zero, List.getElem?_cons_succ] at y2 y3
  clear C2 g2
  go_wp2_with fail
  go_quiet (fail)
  go_wp2_with fail
  exact bodyPost_ret (v := .tuple #[.slice a 2 c, .string x, .int .i64 0, .int .i64 0]) (by simp [results, Tryz.results18, go_sem]) rfl ⟨a, c, x, rfl, ⟨G2.out.os, G2.out.tape, G2.out.output, G2.out.size, G2.out.block⟩⟩

set_option maxHeartbeats 1000000 in
set_option maxRecDepth 100000 in
theorem lexed_any (w : World) : Calls Tryz.prog 12 #[] w fun e w' => e = .returned (.bool true) ∧ w.grownBy w' none := by
  go_enter Tryz.func12, Tryz.ntmps12
  go_wp2_with fail
  have g0 : w.grownBy ((w.alloc (.cells #[.int .i64 1, .int .i64 97, .int .i64 97, .slice none 0 0] 28)).alloc (.cells #[.string ⟨#[97]⟩, .int .i64 1, .int .i64 97, .int .i64 97, .slice none 0 0] 88)) none := grow_alloc (World.grownBy_alloc _ _ _) _
  have b0 : ((w.alloc (.cells #[.int .i64 1, .int .i64 97, .int .i64 97, .slice none 0 0] 28)).alloc (.cells #[.string ⟨#[97]⟩, .int .i64 1, .int .i64 97, .int .i64 97, .slice none 0 0] 88)).heap[w.heap.size + 1]? = some (.cells #[.string ⟨#[97]⟩, .int .i64 1, .int .i64 97, .int .i64 97, .slice none 0 0] 88 (0, 0)) := heap_new_at _ _ _ (by simp)
  generalize (w.alloc _).alloc _ = w1 at g0 b0 ⊢
  refine (splitTop_a (w.heap.size + 1) w1 b0).mono ?_
  rintro e w2 ⟨a, c, x, rfl, g2⟩
  have G2 := Lib.hid (grownBy_trans g0 g2)
  clear g0 b0 g2
  go_wp2_with fail
  go_ret
  exact ⟨rfl, G2.out⟩
end Go.Proofs.YtplbacfjmajeeaaGreatDoor
