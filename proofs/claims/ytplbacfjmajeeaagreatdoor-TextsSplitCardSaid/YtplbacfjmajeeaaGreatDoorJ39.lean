import Derived.Test.YtplbacfjmajeeaaGreatDoorJ38
namespace Go.Proofs.YtplbacfjmajeeaaGreatDoor
open Go.Lib (hid)
set_option maxHeartbeats 4000000
set_option maxRecDepth 100000
open Go.RowKit Go.Region
def sameLT : List (ByteArray × ByteArray × ByteArray) → List (ByteArray × ByteArray × ByteArray) → Bool
 | x :: r, y :: q => (x.2.1.toList == y.2.1.toList) && (x.2.2.toList == y.2.2.toList) && sameLT r q
 | _, _ => true
def intoB (r : ByteArray × List (Nat × Nat × Nat × Nat) × List (ByteArray × ByteArray × ByteArray) × ByteArray × Nat × Nat) (T : List (ByteArray × ByteArray × ByteArray)) : Bool :=
 decide (r.2.2.2.2.2 = 0) && r.2.2.2.1.toList.isEmpty && decide (r.2.2.1.length = T.length) && sameLT r.2.2.1 T
theorem tkCells_get : ∀ (l : List (ByteArray × ByteArray × ByteArray)) (j : Nat) (h : j < l.length), (tkCells l)[j * 3]? = some (.string l[j].1) ∧ (tkCells l)[j * 3 + 1]? = some (.string l[j].2.1) ∧ (tkCells l)[j * 3 + 2]? = some (.string l[j].2.2)
 | x :: r, 0, _ => ⟨rfl, rfl, rfl⟩
 | x :: r, j + 1, h => by
  have := tkCells_get r j (by simpa using h)
  simpa [tkCells, Nat.succ_mul, Nat.add_right_comm _ 3] using this
theorem splitsInto_any (bm : Nat) (ps : List Pt) (L : List En) (ms : List Mrk) (av : Option Addr) (mcap : Nat) (s : ByteArray) (T : List (ByteArray × ByteArray × ByteArray)) (b n cap : Nat) (w : World) (hs : s.size ≤ 1000000) (hL : L.length ≤ 3000) (hps : ps.length ≤ 1000000) (hpm : ps.length = ms.length) (hM : MachAt w bm ps L)
 (hms : ms = [] ∨ ∃ b off, av = some ⟨b, off, none⟩ ∧ MrkAt w ms b off) (hT : T.length = n) (hn : n ≤ 1000000) (hcells : ∀ j u, (tkCells T)[j]? = some u → w.cell? ⟨b, j, none⟩ = some u) :
 Calls Tryz.prog 55 #[.pointer (some ⟨bm, 0, none⟩), .slice av ms.length mcap, .string s, .slice (some ⟨b, 0, none⟩) n cap] w fun e w' => e = .returned (.bool (intoB (splitL ps L ms s) T)) ∧ w.grownBy w' none := by
 have HSP := hid (split_any bm ps L ms av mcap s w hs hL hps hpm hM hms)
 obtain ⟨N, hN⟩ : ∃ N, ms.length = N := ⟨_, rfl⟩
 rw [hN] at HSP ⊢
 have HT := hid hT
 have HCL := hid hcells
 clear hM hms hL hps hpm hT hcells hN
 obtain ⟨P, hP⟩ : ∃ P : Ending → World → Prop, (fun e w' => e = .returned (.bool (intoB (splitL ps L ms s) T)) ∧ w.grownBy w' none) = P := ⟨_, rfl⟩
 rw [hP]
 have HP := hid hP
 clear hP
 go_enter Tryz.func55, Tryz.ntmps55
 go_wp2_with fail
 refine HSP.out.mono ?_
 rintro e w2 ⟨v1, v2, rfl, own1, own2, g2⟩
 clear HSP
 generalize splitL ps L ms s = r at HP own1 own2 ⊢
 obtain ⟨r1, r2, r3, r4, r5, r6⟩ := r
 simp only at own1 own2 ⊢
 obtain ⟨va, vc, hv1⟩ := own_shape own1
 obtain ⟨ta, tc, hv2⟩ := own_shape own2
 subst hv1 hv2
 obtain ⟨vn, hvn⟩ : ∃ k, r2.length = k := ⟨_, rfl⟩
 obtain ⟨tn, htn⟩ : ∃ k, r3.length = k := ⟨_, rfl⟩
 rw [hvn] at own1 ⊢
 rw [htn] at own2 ⊢
 have HTN := hid htn
 clear own1 hvn htn
 have G2 := hid (grow_alloc g2 (.cells #[.string r1, .slice va vn vc, .slice ta tn tc, .string r4] 107))
 have O2 := hid (own2.alloc (.cells #[.string r1, .slice va vn vc, .slice ta tn tc, .string r4] 107))
 have C2 := heap_alloc_new w2 (.cells #[.string r1, .slice va vn vc, .slice ta tn tc, .string r4] 107)
 clear g2 own2
 go_upto_region 2 with (fail)
 generalize w2.alloc _ = w3 at G2 O2 C2 ⊢
 generalize w2.heap.size = C at C2 ⊢
 have y2 := xCb C2 2
 have y3 := xCb C2 3
 simp only [xGe, xGz, xGs] at y2 y3
 clear C2
 by_cases h0 : r6 = 0
 · subst h0
   by_cases he : r4.toList.isEmpty = true
   · by_cases hl : tn = n
     · subst hl
       have HB : Hid (intoB (r1, r2, r3, r4, r5, 0) T = sameLT r3 T) := hid (by rw [intoB, HTN.out, HT.out]; simp [he])
       go_wp2_with fail
       go_loopw [40] (fun jv wr => ∃ j : Nat, jv = .int .i64 j ∧ j ≤ tn ∧ Hid (sameLT (r3.drop j) (T.drop j) = sameLT r3 T) ∧ Hid (w.grownBy wr none) ∧ Hid (wr.ownsRow w.heap.size 66 3 (.slice ta tn tc) tn (tkCells r3))) (fun jv _ => tn - (intOf jv).toNat)
       case atStart => exact ⟨0, rfl, Nat.zero_le _, hid rfl, G2, O2⟩
       case round =>
        obtain ⟨j, rfl, hj, HE, HG, HO⟩ := hrel
        by_cases hlt : j < tn
        · obtain ⟨g, cp, hv, _, hcell⟩ := ownsRow_cell HO.out (by omega)
          simp only [Value.slice.injEq] at hv
          obtain ⟨hpa, q1, q2⟩ := hv
          clear q1 q2
          subst hpa
          have hj3 : j < r3.length := by rw [HTN.out]; exact hlt
          have hjT : j < T.length := by rw [HT.out]; exact hlt
          obtain ⟨c0, c1, c2⟩ := tkCells_get r3 j hj3
          obtain ⟨d0, d1, d2⟩ := tkCells_get T j hjT
          clear d0
          have hE2 := HE.out
          rw [List.drop_eq_getElem_cons hj3, List.drop_eq_getElem_cons hjT, sameLT] at hE2
          obtain ⟨⟨k1, l1, t1⟩, hx⟩ : ∃ x, r3[j] = x := ⟨_, rfl⟩
          obtain ⟨⟨k2, l2, t2⟩, hy⟩ : ∃ x, T[j] = x := ⟨_, rfl⟩
          rw [hx] at hE2 c0 c1 c2
          rw [hy] at hE2 d1 d2
          simp only at hE2 c0 c1 c2 d1 d2
          have p0 := hcell _ _ c0
          have p1 := hcell _ _ c1
          have p2 := hcell _ _ c2
          have m1 := cell_grown (HCL.out _ _ d1) (grow_alloc HG.out (.cells #[.string k1, .string l1, .string t1] 66))
          have m2 := cell_grown (HCL.out _ _ d2) (grow_alloc HG.out (.cells #[.string k1, .string l1, .string t1] 66))
          have HE2 := hid hE2
          have hlt3 : (j : Int) < tn := by omega
          clear hcell hx hy hE2 HE c0 c1 c2 d1 d2 hj3 hjT
          go_upto_region 7 with (fail)
          have G3 := hid (grow_alloc HG.out (.cells #[.string k1, .string l1, .string t1] 66))
          have O3 := hid (HO.out.alloc (.cells #[.string k1, .string l1, .string t1] 66))
          have F0 := heap_alloc_new wr (.cells #[.string k1, .string l1, .string t1] 66)
          generalize wr.alloc _ = wa at G3 O3 F0 m1 m2 ⊢
          generalize wr.heap.size = f at F0 ⊢
          have x1 := xCb F0 1
          have x2 := xCb F0 2
          simp only [xGe, xGz, xGs] at x1 x2
          clear F0 p0 p1 p2
          obtain ⟨bl, hbl⟩ : ∃ x, (l1.toList == l2.toList) = x := ⟨_, rfl⟩
          obtain ⟨bt, hbt⟩ : ∃ x, (t1.toList == t2.toList) = x := ⟨_, rfl⟩
          have hE3 := HE2.out
          rw [hbl, hbt] at hE3
          have HE3 := hid hE3
          clear hE3 HE2
          rcases bl with _ | _
          · have HE4 := hid (show false = sameLT r3 T from HE3.out)
            clear HE3
            go_region
            go_wp2_with fail
            rw [← HP.out]
            exact ⟨by rw [HB.out, ← HE4.out]; rfl, grow_drew G3.out⟩
          rcases bt with _ | _
          · have HE4 := hid (show false = sameLT r3 T from HE3.out)
            clear HE3
            go_region
            go_wp2_with fail
            rw [← HP.out]
            exact ⟨by rw [HB.out, ← HE4.out]; rfl, grow_drew G3.out⟩
          · have HE4 := hid (show sameLT (r3.drop (j + 1)) (T.drop (j + 1)) = sameLT r3 T from HE3.out)
            clear HE3
            go_region
            go_wp2_with fail
            go_roundw
            case rel => exact ⟨j + 1, by go_num, by omega, HE4, hid (grow_drew G3.out), hid (ownsRow_block_kept O3.out (fun _ _ => rfl))⟩
            case measure => simp [intOf]; omega
        · obtain rfl : j = tn := by omega
          have hE2 := HE.out
          rw [← HTN.out, List.drop_length] at hE2
          have HE2 := hid (show true = sameLT r3 T from hE2)
          clear hE2 HE
          go_wp2_with fail
          rw [← HP.out]
          exact ⟨by rw [HB.out, ← HE2.out]; rfl, HG.out⟩
     · have hb : ((tn : Int) == n) = false := by simpa using (by omega : ¬ (tn : Int) = n)
       go_wp2_with fail
       rw [← HP.out]
       exact ⟨by rw [intoB, HTN.out, HT.out]; simp [hl], G2.out⟩
   · replace he : r4.toList.isEmpty = false := by simpa using he
     go_wp2_with fail
     rw [← HP.out]
     exact ⟨by rw [intoB]; simp [he], G2.out⟩
 · have hb : ((r6 : Int) == 0) = false := by simpa using (by omega : ¬ (r6 : Int) = 0)
   go_wp2_with fail
   rw [← HP.out]
   exact ⟨by rw [intoB]; simp [h0], G2.out⟩
def intoM (ms : List Mrk) (s : ByteArray) (T : List (ByteArray × ByteArray × ByteArray)) : Bool := intoB (splitL (ms.map Mrk.pat) (setsM ms) ms s) T
def betwL (ms : List Mrk) (s t : ByteArray) : List ByteArray → ByteArray × Bool
 | [] => (⟨#[]⟩, false)
 | l :: r => if intoM ms (s ++ l ++ t) [(⟨#[]⟩, ⟨#[]⟩, s), (⟨#[]⟩, l, t)] = true then (l, true) else betwL ms s t r
def leads : List ByteArray := [⟨#[]⟩, ⟨#[32]⟩, ⟨#[10]⟩]
def betweenM (ms : List Mrk) (s t : ByteArray) : ByteArray × Bool × Int :=
 if chk ms = 0 then
  if intoM ms s [(⟨#[]⟩, ⟨#[]⟩, s)] = false then (⟨#[]⟩, false, 3)
  else if intoM ms t [(⟨#[]⟩, ⟨#[]⟩, t)] = false then (⟨#[]⟩, false, 3)
  else ((betwL ms s t leads).1, (betwL ms s t leads).2, 0)
 else (⟨#[]⟩, false, chk ms)
theorem leads_get (j : Nat) (h : j < 3) : ∃ l : ByteArray, leads[j]? = some l ∧ l.size ≤ 1 ∧ leads.drop j = l :: leads.drop (j + 1) := by
 match j, h with
 | 0, _ => exact ⟨_, rfl, by decide, rfl⟩
 | 1, _ => exact ⟨_, rfl, by decide, rfl⟩
 | 2, _ => exact ⟨_, rfl, by decide, rfl⟩
theorem size3 (s l t : ByteArray) (hl : l.size ≤ 1) (hs : s.size ≤ 400000) (ht : t.size ≤ 400000) : (s ++ l ++ t).size ≤ 1000000 := by rw [ByteArray.size_append, ByteArray.size_append]; omega
theorem between_any (ms : List Mrk) (av : Option Addr) (cap : Nat) (s t : ByteArray) (w : World) (hs : s.size ≤ 400000) (ht : t.size ≤ 400000) (hms : ∀ m ∈ ms, m.pat.size ≤ 100000 ∧ m.kind.size ≤ 1000000) (hl : ms.length ≤ 1000000) (hlv : leavesL (ms.map Mrk.pat) ≤ 64)
 (ha : ms = [] ∨ ∃ b off, av = some ⟨b, off, none⟩ ∧ MrkAt w ms b off) :
 Calls Tryz.prog 22 #[.slice av ms.length cap, .string s, .string t] w fun e w' => e = .returned (.tuple #[.string (betweenM ms s t).1, .bool (betweenM ms s t).2.1, .int .i64 (betweenM ms s t).2.2]) ∧ w.grownBy w' none := by
 have HC := hid (checked_sum ms av cap w hms hl hlv ha)
 have HA := hid ha
 have HPS := hid (show (ms.map Mrk.pat).length ≤ 1000000 by simpa using hl)
 obtain ⟨P, hP⟩ : ∃ P : Ending → World → Prop, (fun e w' => e = .returned (.tuple #[.string (betweenM ms s t).1, .bool (betweenM ms s t).2.1, .int .i64 (betweenM ms s t).2.2]) ∧ w.grownBy w' none) = P := ⟨_, rfl⟩
 rw [hP]
 have HP := hid hP
 obtain ⟨N, hN⟩ : ∃ N, ms.length = N := ⟨_, rfl⟩
 have HN := hid hN
 rw [hN] at HC ⊢
 clear hP ha hms hlv hl hN
 go_enter Tryz.func22, Tryz.ntmps22
 go_wp2_with fail
 refine HC.out.mono ?_
 rintro e w1 ⟨g1, pv, rfl, hpv⟩
 have HPV := hid hpv
 have HG1 := hid g1
 obtain ⟨c, hc⟩ : ∃ c, chk ms = c := ⟨_, rfl⟩
 have HCH := hid hc
 rw [hc]
 clear hc hpv g1 HC
 by_cases h0 : c = 0
 · subst h0
   obtain ⟨bm, hpv, hL, hM⟩ := HPV.out HCH.out
   subst hpv
   have HSI : Hid (∀ (W : World) (x : ByteArray) (T : List (ByteArray × ByteArray × ByteArray)) (b n cp : Nat), w1.grownBy W none → x.size ≤ 1000000 → T.length = n → n ≤ 1000000 → (∀ j u, (tkCells T)[j]? = some u → W.cell? ⟨b, j, none⟩ = some u) →
    Calls Tryz.prog 55 #[.pointer (some ⟨bm, 0, none⟩), .slice av N cap, .string x, .slice (some ⟨b, 0, none⟩) n cp] W fun e w' => e = .returned (.bool (intoM ms x T)) ∧ W.grownBy w' none) := hid (fun W x T b n cp g hx hT hn hcells => by
    rw [← HN.out]
    refine splitsInto_any bm (ms.map Mrk.pat) (setsM ms) ms av cap x T b n cp W hx hL HPS.out (by simp) (hM.grow g) ?_ hT hn hcells
    rcases HA.out with h | ⟨b, off, h1, h2⟩
    · exact .inl h
    · exact .inr ⟨b, off, h1, h2.grow (grownBy_trans HG1.out g)⟩)
   clear hL hM HPV HPS HN HA
   go_wp2_with fail
   refine wp_loop_rounds 3 ?_
   rw [rounds_succ]
   go_wp2_with fail
   have gA : w1.grownBy ((w1.alloc (.cells #[.string s, .string t] 9)).alloc (.cells #[.string ⟨#[]⟩, .string ⟨#[]⟩, .string s] 66)) none := grow_alloc (xGa _ _ _) _
   have rA : ((w1.alloc (.cells #[.string s, .string t] 9)).alloc (.cells #[.string ⟨#[]⟩, .string ⟨#[]⟩, .string s] 66)).heap[w1.heap.size]? = some (.cells #[.string s, .string t] 9 (0, 0)) := grow_new (xGa _ _ none) (heap_alloc_new w1 (.cells #[.string s, .string t] 9))
   have bA : ((w1.alloc (.cells #[.string s, .string t] 9)).alloc (.cells #[.string ⟨#[]⟩, .string ⟨#[]⟩, .string s] 66)).heap[w1.heap.size + 1]? = some (.cells #[.string ⟨#[]⟩, .string ⟨#[]⟩, .string s] 66 (0, 0)) := heap_new_at _ _ _ (by simp)
   generalize (w1.alloc _).alloc _ = wA at gA rA bA ⊢
   refine (HSI.out wA s [(⟨#[]⟩, ⟨#[]⟩, s)] (w1.heap.size + 1) 1 1 gA (by omega) rfl (by omega) (fun j u hu => (xCb bA j).trans (by simpa [tkCells] using hu))).mono ?_
   rintro e w2 ⟨rfl, g2⟩
   have q1 := xCb (grow_new g2 rA) 1
   simp only [xGe, xGz, xGs] at q1
   have G2 := hid (grownBy_trans gA g2)
   obtain ⟨x1, hx1⟩ : ∃ x, intoM ms s [(⟨#[]⟩, ⟨#[]⟩, s)] = x := ⟨_, rfl⟩
   rw [hx1]
   have HX1 := hid hx1
   clear hx1 gA rA bA g2
   rcases x1 with _ | _
   · have HY := HX1
     go_wp2_with fail
     rw [← HP.out]
     exact ⟨by rw [show betweenM ms s t = (⟨#[]⟩, false, 3) by unfold betweenM; rw [if_pos HCH.out, if_pos HX1.out]]; rfl, grownBy_trans HG1.out G2.out⟩
   go_wp2_with fail
   rw [rounds_succ]
   go_wp2_with fail
   have gB : w1.grownBy (w2.alloc (.cells #[.string ⟨#[]⟩, .string ⟨#[]⟩, .string t] 66)) none := grow_alloc G2.out _
   have bB := heap_alloc_new w2 (.cells #[.string ⟨#[]⟩, .string ⟨#[]⟩, .string t] 66)
   clear q1
   generalize w2.alloc _ = wB at gB bB ⊢
   refine (HSI.out wB t [(⟨#[]⟩, ⟨#[]⟩, t)] w2.heap.size 1 1 gB (by omega) rfl (by omega) (fun j u hu => (xCb bB j).trans (by simpa [tkCells] using hu))).mono ?_
   rintro e w3 ⟨rfl, g3⟩
   have G3 := hid (grownBy_trans gB g3)
   obtain ⟨x2, hx2⟩ : ∃ x, intoM ms t [(⟨#[]⟩, ⟨#[]⟩, t)] = x := ⟨_, rfl⟩
   rw [hx2]
   have HX2 := hid hx2
   clear hx2 gB bB g3
   rcases x2 with _ | _
   · have HY := HX2
     go_wp2_with fail
     rw [← HP.out]
     exact ⟨by rw [show betweenM ms s t = (⟨#[]⟩, false, 3) by unfold betweenM; rw [if_pos HCH.out, if_neg (by rw [HX1.out]; decide), if_pos HX2.out]]; rfl, grownBy_trans HG1.out G3.out⟩
   go_wp2_with fail
   rw [rounds_succ]
   go_wp2_with fail
   have HB3 := hid (show betweenM ms s t = ((betwL ms s t leads).1, (betwL ms s t leads).2, 0) by unfold betweenM; rw [if_pos HCH.out, if_neg (by rw [HX1.out]; decide), if_neg (by rw [HX2.out]; decide)])
   obtain ⟨ans, hans⟩ : ∃ a, betwL ms s t leads = a := ⟨_, rfl⟩
   rw [hans] at HB3
   have HANS := hid hans
   clear hans HX1 HX2 HCH
   have R3 := heap_alloc_new w3 (.cells #[.string ⟨#[]⟩, .string ⟨#[32]⟩, .string ⟨#[10]⟩] 9)
   have G4 := hid (grow_alloc G3.out (.cells #[.string ⟨#[]⟩, .string ⟨#[32]⟩, .string ⟨#[10]⟩] 9))
   generalize w3.alloc _ = w4 at R3 G4 ⊢
   generalize w3.heap.size = R at R3 ⊢
   have HR3 := hid (show w4.heap[R]? = some (.cells (leads.map Value.string).toArray 9 (0, 0)) from R3)
   clear R3 G3
   go_loopw [42] (fun i wr => ∃ j : Nat, j ≤ 3 ∧ i = .int .i64 j ∧ Hid (betwL ms s t (leads.drop j) = ans) ∧ Hid (w1.grownBy wr none) ∧ Hid (wr.heap[R]? = some (.cells (leads.map Value.string).toArray 9 (0, 0)))) (fun i _ => 3 - (intOf i).toNat)
   case atStart => exact ⟨0, by omega, rfl, HANS, G4, HR3⟩
   case round =>
    obtain ⟨j, hj, rfl, HE, HG, HR⟩ := hrel
    by_cases hlt : j < 3
    · obtain ⟨l, hl, hl1, hdr⟩ := leads_get j hlt
      have hcl := xCb HR.out j
      rw [xGe, List.getElem?_map, hl, Option.map_some] at hcl
      have HE2 := hid (show (if intoM ms (s ++ l ++ t) [(⟨#[]⟩, ⟨#[]⟩, s), (⟨#[]⟩, l, t)] = true then (l, true) else betwL ms s t (leads.drop (j + 1))) = ans by rw [← HE.out, hdr]; rfl)
      have hlt3 : (j : Int) < 3 := by omega
      clear hl hdr HE hj
      go_wp2_with fail
      have gC := hid (grow_alloc HG.out (.cells #[.string ⟨#[]⟩, .string ⟨#[]⟩, .string s, .string ⟨#[]⟩, .string l, .string t] 66))
      have bC := heap_alloc_new wr (.cells #[.string ⟨#[]⟩, .string ⟨#[]⟩, .string s, .string ⟨#[]⟩, .string l, .string t] 66)
      have HRC := hid (grow_new (xGa wr (.cells #[.string ⟨#[]⟩, .string ⟨#[]⟩, .string s, .string ⟨#[]⟩, .string l, .string t] 66) none) HR.out)
      clear hcl HG HR
      generalize wr.alloc _ = wC at gC bC HRC ⊢
      generalize wr.heap.size = f at bC ⊢
      refine (HSI.out wC (s ++ l ++ t) [(⟨#[]⟩, ⟨#[]⟩, s), (⟨#[]⟩, l, t)] f 2 2 gC.out (size3 _ _ _ hl1 hs ht) rfl (by omega) (fun j u hu => (xCb bC j).trans (by simpa [tkCells] using hu))).mono ?_
      rintro e w5 ⟨rfl, g5⟩
      have HG5 := hid (grownBy_trans gC.out g5)
      have HR5 := hid (grow_new g5 HRC.out)
      obtain ⟨x4, hx4⟩ : ∃ x, intoM ms (s ++ l ++ t) [(⟨#[]⟩, ⟨#[]⟩, s), (⟨#[]⟩, l, t)] = x := ⟨_, rfl⟩
      have HE3 := HE2.out
      rw [hx4] at HE3 ⊢
      clear hx4 gC bC HRC g5 HE2
      rcases x4 with _ | _
      · have HE4 := hid (show betwL ms s t (leads.drop (j + 1)) = ans from HE3)
        clear HE3
        go_wp2_with fail
        go_roundw
        case rel => exact ⟨j + 1, by omega, by go_num, HE4, HG5, HR5⟩
        case measure => simp [intOf]; omega
      · have HE4 := hid (show (l, true) = ans from HE3)
        clear HE3
        go_wp2_with fail
        rw [← HP.out]
        exact ⟨by rw [HB3.out, ← HE4.out]; rfl, grownBy_trans HG1.out HG5.out⟩
    · obtain rfl : j = 3 := by omega
      have HE2 := hid (show (⟨#[]⟩, false) = ans from HE.out)
      clear HE
      go_wp2_with fail
      rw [← HP.out]
      exact ⟨by rw [HB3.out, ← HE2.out]; rfl, grownBy_trans HG1.out HG.out⟩
 · have h1 : (c == 0) = false := by simpa using h0
   have hbm : betweenM ms s t = (⟨#[]⟩, false, c) := by unfold betweenM; rw [HCH.out, if_neg h0]
   have HBM := hid hbm
   clear hbm
   go_wp2_with fail
   rw [← HP.out]
   exact ⟨by rw [HBM.out]; rfl, HG1.out⟩
abbrev SplR := List Tk × ByteArray × Nat × Nat
def tk0 : Tk := (⟨#[]⟩, ⟨#[]⟩, ⟨#[]⟩)
def into1 (r : SplR) : Bool := decide (r.2.2.2 = 0) && (decide (r.1.length = 1) && ((r.1.getD 0 tk0).2.1.toList.isEmpty && r.2.1.toList.isEmpty))
def into2 (r : SplR) (s l t : ByteArray) : Bool :=
 decide (r.2.2.2 = 0) && (decide (r.1.length = 2) && (r.2.1.toList.isEmpty && ((r.1.getD 0 tk0).2.1.toList.isEmpty && (((r.1.getD 0 tk0).2.2.toList == s.toList) && (((r.1.getD 1 tk0).2.1.toList == l.toList) && ((r.1.getD 1 tk0).2.2.toList == t.toList))))))
def betwR (ms : List Mrk) (s t : ByteArray) : List ByteArray → ByteArray × Bool
 | [] => (⟨#[]⟩, false)
 | l :: r => if into2 (splitR ms (s ++ l ++ t)) s l t = true then (l, true) else betwR ms s t r
def betweenR (ms : List Mrk) (s t : ByteArray) : ByteArray × Bool × Int :=
 if into1 (splitR ms s) = false then (⟨#[]⟩, false, 3)
 else if into1 (splitR ms t) = false then (⟨#[]⟩, false, 3)
 else ((betwR ms s t leads).1, (betwR ms s t leads).2, 0)
theorem size20 (s l t : ByteArray) (hl : l.size ≤ 1) (hs : s.size ≤ 9000) (ht : t.size ≤ 9000) : (s ++ l ++ t).size ≤ 20000 := by rw [ByteArray.size_append, ByteArray.size_append]; omega
theorem isE (x : ByteArray) (h : x.toList.isEmpty = true) : x.toList = [] := List.isEmpty_iff.1 h
theorem betweenOf_any (ms : List Mrk) (av : Option Addr) (cap : Nat) (s t : ByteArray) (w : World) (hs : s.size ≤ 9000) (ht : t.size ≤ 9000) (hc : chk ms = 0) (hn : leavesL (ms.map Mrk.pat) ≤ 64) (hsz : sizes (ms.map Mrk.pat) ≤ 500) (hA : ms = [] ∨ ∃ b off, av = some ⟨b, off, none⟩ ∧ MrkAt w ms b off) :
 Calls Tryz.prog 28 #[.slice av ms.length cap, .string s, .string t] w fun e w' => e = .returned (.tuple #[.string (betweenR ms s t).1, .bool (betweenR ms s t).2.1, .int .i64 (betweenR ms s t).2.2]) ∧ w.grownBy w' none := by
 have HSP : Hid (∀ (W : World) (x : ByteArray), w.grownBy W none → x.size ≤ 20000 → Calls Tryz.prog 27 #[.slice av ms.length cap, .string x] W (SplitOfPost (splitR ms x) W)) := hid (fun W x g hx => splitOf_any ms av cap x W hx hc hn hsz (hA.imp id (fun ⟨b, off, h1, h2⟩ => ⟨b, off, h1, MrkAt.grow g ms b off h2⟩)))
 obtain ⟨P, hP⟩ : ∃ P : Ending → World → Prop, (fun e w' => e = .returned (.tuple #[.string (betweenR ms s t).1, .bool (betweenR ms s t).2.1, .int .i64 (betweenR ms s t).2.2]) ∧ w.grownBy w' none) = P := ⟨_, rfl⟩
 rw [hP]
 have HP := hid hP
 obtain ⟨N, hN⟩ : ∃ N, ms.length = N := ⟨_, rfl⟩
 rw [hN] at HSP ⊢
 clear hP hA hc hn hsz hN
 have HX : Hid (([s, t].map fun x => into1 (splitR ms x)) = [into1 (splitR ms s), into1 (splitR ms t)]) := hid rfl
 go_enter Tryz.func28, Tryz.ntmps28
 go_wp2_with fail
 have R0 := hid (heap_alloc_new w (.cells #[.string s, .string t] 9))
 have G0 := hid (xGa w (.cells #[.string s, .string t] 9) none)
 generalize w.alloc _ = w0 at R0 G0 ⊢
 generalize w.heap.size = B at R0 ⊢
 go_loopw [25] (fun i wr => ∃ j : Nat, j ≤ 2 ∧ i = .int .i64 j ∧ Hid (∀ k, k < j → into1 (splitR ms ([s, t].getD k ⟨#[]⟩)) = true) ∧ Hid (w.grownBy wr none) ∧ Hid (wr.heap[B]? = some (.cells #[.string s, .string t] 9 (0, 0)))) (fun i _ => 2 - (intOf i).toNat)
 case atStart => exact ⟨0, by omega, rfl, hid (fun k hk => absurd hk (Nat.not_lt_zero _)), G0, R0⟩
 case round =>
  obtain ⟨j, hj, rfl, HE, HG, HR⟩ := hrel
  by_cases hlt : j < 2
  · have hcl := xCb HR.out j
    obtain ⟨x, hx, hxs⟩ : ∃ x : ByteArray, [s, t].getD j ⟨#[]⟩ = x ∧ x.size ≤ 20000 ∧ (#[Value.string s, Value.string t])[j]? = some (.string x) := by
     match j, hlt with
     | 0, _ => exact ⟨s, rfl, by omega, rfl⟩
     | 1, _ => exact ⟨t, rfl, by omega, rfl⟩
    rw [hxs.2] at hcl
    have HXJ := hid hx
    have HC := hid (HSP.out wr x HG.out hxs.1)
    have hlti : (j : Int) < 2 := by omega
    have HJ := hid hj
    clear hx hxs
    obtain ⟨r, hr⟩ : ∃ r, splitR ms x = r := ⟨_, rfl⟩
    rw [hr] at HC
    have HRX := hid hr
    clear hr
    go_wp2_with fail
    refine HC.out.mono ?_
    rintro e w5 ⟨v, rfl, own, g5⟩
    have HG5 := hid (grownBy_trans HG.out g5)
    have HR5 := hid (grow_new g5 HR.out)
    have HTK := hid (tkAt_own own rfl)
    obtain ⟨ta, tc, rfl⟩ := ownsRow_slice own
    obtain ⟨tk, tail, at_, er⟩ := r
    obtain ⟨bo, hbo⟩ : ∃ b, into1 (tk, tail, at_, er) = b := ⟨_, rfl⟩
    have HBO := hid hbo
    simp only at HTK ⊢
    clear own g5 hbo HC hcl
    go_upto_region 5 with (fail)
    go_cut [54] (fun v wx => v = .bool (!bo) ∧ w5 = wx)
    case first =>
     have hb := HBO.out
     unfold into1 at hb
     simp only at hb
     by_cases he : er = 0
     · have hei : ((er : Int) != 0) = false := by simp [he]
       rw [decide_eq_true he, Bool.true_and] at hb
       by_cases hl : tk.length = 1
       · have hli : ((tk.length : Int) != 1) = false := by simp [hl]
         rw [decide_eq_true hl, Bool.true_and] at hb
         obtain ⟨a3, c3, e3, hel⟩ := HTK.out
         simp only [Value.slice.injEq] at e3
         obtain ⟨rfl, e4, e5⟩ := e3
         clear e4 e5
         obtain ⟨g, o, rfl, d0, d1, d2⟩ := tk_elem hel 0 (by omega)
         simp only [Nat.zero_mul, Nat.add_zero] at d0 d1 d2
         have hgd : tk.getD 0 tk0 = tk[0]'(by omega) := by rw [List.getD_eq_getElem?_getD, List.getElem?_eq_getElem (by omega)]; rfl
         rw [hgd] at hb
         generalize tk[0]'(by omega) = q at hb d0 d1 d2
         obtain ⟨kk, ld, tx⟩ := q
         simp only at hb d0 d1 d2
         have hi1 : (0 : Int) < (tk.length : Int) := by omega
         clear hel he
         by_cases h1 : ld.toList.isEmpty = true
         · have h1n := isE ld h1
           rw [h1, Bool.true_and] at hb
           by_cases h2 : tail.toList.isEmpty = true
           · have h2n := isE tail h2
             rw [h2] at hb
             subst hb
             clear h1 h2
             go_wp2_with fail
             go_meet
             exact ⟨rfl, rfl⟩
           · replace h2 : tail.toList.isEmpty = false := by simpa using h2
             rw [h2] at hb
             subst hb
             clear h1
             go_wp2_with fail
             go_meet
             exact ⟨rfl, rfl⟩
         · replace h1 : ld.toList.isEmpty = false := by simpa using h1
           rw [h1, Bool.false_and] at hb
           subst hb
           go_wp2_with fail
           go_meet
           exact ⟨rfl, rfl⟩
       · have hli : ((tk.length : Int) != 1) = true := by simp; omega
         rw [decide_eq_false hl, Bool.false_and] at hb
         subst hb
         clear he
         go_wp2_with fail
         go_meet
         exact ⟨rfl, rfl⟩
     · have hei : ((er : Int) != 0) = true := by simp; omega
       rw [decide_eq_false he, Bool.false_and] at hb
       subst hb
       go_wp2_with fail
       go_meet
       exact ⟨rfl, rfl⟩
    case rest =>
     obtain ⟨rfl, rfl⟩ := hcut
     have HB2 := hid (show into1 (splitR ms ([s, t].getD j ⟨#[]⟩)) = bo by rw [HXJ.out, HRX.out, HBO.out])
     rcases bo with _ | _
     · have HV := hid (show betweenR ms s t = (⟨#[]⟩, false, 3) by
        have hb := HB2.out
        have he := HE.out
        unfold betweenR
        match j, hlt with
        | 0, _ => rw [if_pos (show into1 (splitR ms s) = false from hb)]
        | 1, _ => rw [if_neg (by rw [show into1 (splitR ms s) = true from he 0 (by omega)]; decide), if_pos (show into1 (splitR ms t) = false from hb)])
       go_wp2_with fail
       rw [← HP.out]
       exact ⟨by rw [HV.out]; rfl, HG5.out⟩
     · have HE2 := hid (show ∀ k, k < j + 1 → into1 (splitR ms ([s, t].getD k ⟨#[]⟩)) = true from fun k hk => by
        by_cases hkj : k = j
        · rw [hkj]; exact HB2.out
        · exact HE.out k (by omega))
       go_wp2_with fail
       go_roundw
       case rel => exact ⟨j + 1, by omega, by go_num, HE2, HG5, HR5⟩
       case measure => simp [intOf]; omega
  · have hj2 : j = 2 := by omega
    have HV := hid (show betweenR ms s t = ((betwR ms s t leads).1, (betwR ms s t leads).2, 0) by
     have he := HE.out
     rw [hj2] at he
     unfold betweenR
     rw [if_neg (by rw [show into1 (splitR ms s) = true from he 0 (by omega)]; decide), if_neg (by rw [show into1 (splitR ms t) = true from he 1 (by omega)]; decide)])
    obtain ⟨ans, hans⟩ : ∃ a, betwR ms s t leads = a := ⟨_, rfl⟩
    rw [hans] at HV
    have HANS := hid hans
    clear hans hj2 HE HR R0
    obtain ⟨wo, rfl⟩ : ∃ v : World, v = wr := ⟨_, rfl⟩
    go_wp2_with fail
    have R3 := heap_alloc_new wo (.cells #[.string ⟨#[]⟩, .string ⟨#[32]⟩, .string ⟨#[10]⟩] 9)
    have G4 := hid (grow_alloc HG.out (.cells #[.string ⟨#[]⟩, .string ⟨#[32]⟩, .string ⟨#[10]⟩] 9))
    generalize wo.alloc _ = w4 at R3 G4 ⊢
    generalize wo.heap.size = R at R3 ⊢
    have HR3 := hid (show w4.heap[R]? = some (.cells (leads.map Value.string).toArray 9 (0, 0)) from R3)
    clear R3 HG
    go_loopw [58] (fun i wr => ∃ j : Nat, j ≤ 3 ∧ i = .int .i64 j ∧ Hid (betwR ms s t (leads.drop j) = ans) ∧ Hid (w.grownBy wr none) ∧ Hid (wr.heap[R]? = some (.cells (leads.map Value.string).toArray 9 (0, 0)))) (fun i _ => 3 - (intOf i).toNat)
    case atStart => exact ⟨0, by omega, rfl, HANS, G4, HR3⟩
    case round =>
     obtain ⟨j, hj, rfl, HE, HG, HR⟩ := hrel
     by_cases hlt : j < 3
     · obtain ⟨l, hl, hl1, hdr⟩ := leads_get j hlt
       have hcl := xCb HR.out j
       rw [xGe, List.getElem?_map, hl, Option.map_some] at hcl
       have HE2 := hid (show (if into2 (splitR ms (s ++ l ++ t)) s l t = true then (l, true) else betwR ms s t (leads.drop (j + 1))) = ans by rw [← HE.out, hdr]; rfl)
       have hlt3 : (j : Int) < 3 := by omega
       have HC := hid (HSP.out wr (s ++ l ++ t) HG.out (size20 s l t hl1 hs ht))
       obtain ⟨r, hr⟩ : ∃ r, splitR ms (s ++ l ++ t) = r := ⟨_, rfl⟩
       rw [hr] at HC HE2
       clear hl hdr HE hj hr
       go_wp2_with fail
       refine HC.out.mono ?_
       rintro e w5 ⟨v, rfl, own, g5⟩
       have HG5 := hid (grownBy_trans HG.out g5)
       have HR5 := hid (grow_new g5 HR.out)
       have HTK := hid (tkAt_own own rfl)
       obtain ⟨ta, tc, rfl⟩ := ownsRow_slice own
       obtain ⟨tk, tail, at_, er⟩ := r
       obtain ⟨bo, hbo⟩ : ∃ b, into2 (tk, tail, at_, er) s l t = b := ⟨_, rfl⟩
       have HBO := hid hbo
       rw [hbo] at HE2
       simp only at HTK ⊢
       clear own g5 hbo HC hcl HR HG
       go_upto_region 12 with (fail)
       go_cut [115] (fun v wx => v = .bool bo ∧ w5 = wx)
       case first =>
        have hb := HBO.out
        unfold into2 at hb
        simp only at hb
        by_cases he : er = 0
        · have hei : ((er : Int) == 0) = true := by simp [he]
          rw [decide_eq_true he, Bool.true_and] at hb
          by_cases hl : tk.length = 2
          · have hli : ((tk.length : Int) == 2) = true := by simp [hl]
            rw [decide_eq_true hl, Bool.true_and] at hb
            by_cases h2 : tail.toList.isEmpty = true
            · have h2n := isE tail h2
              rw [h2, Bool.true_and] at hb
              obtain ⟨a3, c3, e3, hel⟩ := HTK.out
              simp only [Value.slice.injEq] at e3
              obtain ⟨rfl, e4, e5⟩ := e3
              clear e4 e5
              obtain ⟨g, o, rfl, d0, d1, d2⟩ := tk_elem hel 0 (by omega)
              obtain ⟨g', o', eg, f0, f1, f2⟩ := tk_elem hel 1 (by omega)
              simp only [Option.some.injEq, Addr.mk.injEq, and_true] at eg
              obtain ⟨rfl, rfl⟩ := eg
              simp only [Nat.zero_mul, Nat.add_zero, Nat.one_mul] at d0 d1 d2 f0 f1 f2
              have hgd : tk.getD 0 tk0 = tk[0]'(by omega) := by rw [List.getD_eq_getElem?_getD, List.getElem?_eq_getElem (by omega)]; rfl
              have hgd1 : tk.getD 1 tk0 = tk[1]'(by omega) := by rw [List.getD_eq_getElem?_getD, List.getElem?_eq_getElem (by omega)]; rfl
              rw [hgd, hgd1] at hb
              generalize tk[0]'(by omega) = q at hb d0 d1 d2
              generalize tk[1]'(by omega) = q1 at hb f0 f1 f2
              obtain ⟨kk, ld, tx⟩ := q
              obtain ⟨kk1, ld1, tx1⟩ := q1
              simp only at hb d0 d1 d2 f0 f1 f2
              have hi1 : (0 : Int) < (tk.length : Int) := by omega
              have hi2 : (1 : Int) < (tk.length : Int) := by omega
              obtain ⟨b3, hb3⟩ : ∃ b, (tx.toList == s.toList) = b := ⟨_, rfl⟩
              obtain ⟨b4, hb4⟩ : ∃ b, (ld1.toList == l.toList) = b := ⟨_, rfl⟩
              obtain ⟨b5, hb5⟩ : ∃ b, (tx1.toList == t.toList) = b := ⟨_, rfl⟩
              rw [hb3, hb4, hb5] at hb
              clear hgd hgd1
              clear hel he h2 hl
              by_cases h1 : ld.toList.isEmpty = true
              · have h1n := isE ld h1
                rw [h1, Bool.true_and] at hb
                clear h1
                rcases b3 with _ | _
                · rw [Bool.false_and] at hb
                  subst hb
                  go_wp2_with fail
                  go_meet
                  exact ⟨rfl, rfl⟩
                rcases b4 with _ | _
                · rw [Bool.true_and, Bool.false_and] at hb
                  subst hb
                  go_wp2_with fail
                  go_meet
                  exact ⟨rfl, rfl⟩
                rcases b5 with _ | _
                · rw [Bool.true_and, Bool.true_and] at hb
                  subst hb
                  go_wp2_with fail
                  go_meet
                  exact ⟨rfl, rfl⟩
                · rw [Bool.true_and, Bool.true_and] at hb
                  subst hb
                  go_wp2_with fail
                  go_meet
                  exact ⟨rfl, rfl⟩
              · replace h1 : ld.toList.isEmpty = false := by simpa using h1
                rw [h1, Bool.false_and] at hb
                subst hb
                go_wp2_with fail
                go_meet
                exact ⟨rfl, rfl⟩
            · replace h2 : tail.toList.isEmpty = false := by simpa using h2
              rw [h2, Bool.false_and] at hb
              subst hb
              clear he hl
              go_wp2_with fail
              go_meet
              exact ⟨rfl, rfl⟩
          · have hli : ((tk.length : Int) == 2) = false := beq_eq_false_iff_ne.2 (by omega)
            rw [decide_eq_false hl, Bool.false_and] at hb
            subst hb
            clear he
            go_wp2_with fail
            go_meet
            exact ⟨rfl, rfl⟩
        · have hei : ((er : Int) == 0) = false := beq_eq_false_iff_ne.2 (by omega)
          rw [decide_eq_false he, Bool.false_and] at hb
          subst hb
          go_wp2_with fail
          go_meet
          exact ⟨rfl, rfl⟩
       case rest =>
        obtain ⟨rfl, rfl⟩ := hcut
        rcases bo with _ | _
        · have HE4 := hid (show betwR ms s t (leads.drop (j + 1)) = ans from HE2.out)
          clear HE2
          go_wp2_with fail
          go_roundw
          case rel => exact ⟨j + 1, by omega, by go_num, HE4, HG5, HR5⟩
          case measure => simp [intOf]; omega
        · have HE4 := hid (show (l, true) = ans from HE2.out)
          clear HE2
          go_wp2_with fail
          rw [← HP.out]
          exact ⟨by rw [HV.out, ← HE4.out]; rfl, HG5.out⟩
     · obtain rfl : j = 3 := by omega
       have HE2 := hid (show (⟨#[]⟩, false) = ans from HE.out)
       clear HE
       go_wp2_with fail
       rw [← HP.out]
       exact ⟨by rw [HV.out, ← HE2.out]; rfl, HG.out⟩
end Go.Proofs.YtplbacfjmajeeaaGreatDoor
