import Derived.Test.YtplbacfjmajeeaaGreatDoorJ40
namespace Go.Proofs.YtplbacfjmajeeaaGreatDoor
open Go.Lib (hid)
set_option maxHeartbeats 4000000
set_option maxRecDepth 100000
open Go.RowKit
theorem joined_any (T : List Tk) (tail : ByteArray) (v : Value) (w : World) (hT : TkAt w v T) (hn : T.length ≤ 1000000) (hs : tail.size + tkSum T ≤ 1000000) :
 Calls Tryz.prog 20 #[v, .string tail] w fun e w' => e = .returned (.tuple #[.string (joinedM T tail).1, .int .i64 (joinedM T tail).2]) ∧ w.grownBy w' none := by
 have HT := hid hT
 obtain ⟨av, cap, rfl, hel⟩ := hT
 have HEL := hid hel
 clear hel
 obtain ⟨P, hP⟩ : ∃ P : Ending → World → Prop, (fun e w' => e = .returned (.tuple #[.string (joinedM T tail).1, .int .i64 (joinedM T tail).2]) ∧ w.grownBy w' none) = P := ⟨_, rfl⟩
 rw [hP]
 have HP := hid hP
 have HS := hid hs
 obtain ⟨N, hN⟩ : ∃ N, T.length = N := ⟨_, rfl⟩
 have HN := hid hN
 rw [hN] at hn ⊢
 clear hP hN hs
 by_cases h1 : 2000 < N
 · have h1i : (2000 : Int) < N := by omega
   have HJ := hid (show joinedM T tail = (⟨#[]⟩, 2) by rw [joinedM, HN.out, if_pos h1])
   clear h1
   go_enter Tryz.func20, Tryz.ntmps20
   go_wp2_with fail
   rw [← HP.out]
   first | exact ⟨by rw [HJ.out]; rfl, grow_self w⟩ | (go_ret2; exact ⟨by rw [HJ.out]; rfl, grow_self w⟩)
 · have h1i : ¬ (2000 : Int) < N := by omega
   have HJ := hid (show joinedM T tail = if 20000 < tail.size + tkSum T then (⟨#[]⟩, 2) else (⟨(tkText T ++ tail.data.toList).toArray⟩, 0) by rw [joinedM, HN.out, if_neg h1])
   clear h1
   go_enter Tryz.func20, Tryz.ntmps20
   go_wp2_with fail
   go_loopw [6, 19] (fun c i wr => ∃ (j k : Nat), j ≤ N ∧ i = .int .i64 j ∧ c = .int .i64 k ∧ k ≤ 1000000 ∧ Hid (k + tkSum (T.drop j) = tail.size + tkSum T) ∧ Hid (w.grownBy wr none)) (fun _ i _ => N - (intOf i).toNat)
   case atStart => exact ⟨0, tail.size, Nat.zero_le _, rfl, rfl, by have := HS.out; omega, hid (by simp), hid (grow_self w)⟩
   case round =>
    obtain ⟨j, k, hj, rfl, rfl, hk, HE, HG⟩ := hrel
    by_cases hlt : j < N
    · have hjT : j < T.length := by rw [HN.out]; exact hlt
      obtain ⟨g, o, rfl, d0, d1, d2⟩ := tk_elem HEL.out j hjT
      have hE := HE.out
      rw [List.drop_eq_getElem_cons hjT, tkSum] at hE
      obtain ⟨⟨kk, l, t⟩, hx⟩ : ∃ x, T[j] = x := ⟨_, rfl⟩
      rw [hx] at hE d0 d1 d2
      simp only at hE d0 d1 d2
      replace d0 := cell_grown d0 HG.out
      replace d1 := cell_grown d1 HG.out
      replace d2 := cell_grown d2 HG.out
      have HE2 := hid (show (k + (l.size + t.size)) + tkSum (T.drop (j + 1)) = tail.size + tkSum T by omega)
      have hk2 : k + (l.size + t.size) ≤ 1000000 := by have := HS.out; omega
      have hl : l.size ≤ 1000000 := by omega
      have ht : t.size ≤ 1000000 := by omega
      have HG2 := hid (grow_alloc HG.out (.cells #[.string kk, .string l, .string t] 66))
      clear hx hE HE hjT
      go_wp2_with fail
      go_roundw
      case rel => exact ⟨j + 1, k + (l.size + t.size), by omega, by go_num, by go_num, hk2, HE2, HG2⟩
      case measure => simp [intOf]; omega
    · obtain rfl : N = j := by omega
      have HE2 := hid (show k = tail.size + tkSum T by have := HE.out; rw [← HN.out, List.drop_length, tkSum] at this; omega)
      clear HE
      obtain ⟨wo, rfl⟩ : ∃ v : World, v = wr := ⟨_, rfl⟩
      by_cases h2 : 20000 < k
      · have h2i : (20000 : Int) < k := by omega
        have HJ2 := hid (show joinedM T tail = (⟨#[]⟩, 2) by rw [HJ.out, ← HE2.out, if_pos h2])
        clear h2
        go_wp2_with fail
        rw [← HP.out]
        first | exact ⟨by rw [HJ2.out]; rfl, HG.out⟩ | (go_ret2; exact ⟨by rw [HJ2.out]; rfl, HG.out⟩)
      · have h2i : ¬ (20000 : Int) < k := by omega
        have HJ2 := hid (show joinedM T tail = (⟨(tkText T ++ tail.data.toList).toArray⟩, 0) by rw [HJ.out, ← HE2.out, if_neg h2])
        have hbig : tail.size + tkSum T ≤ 20000 := by rw [← HE2.out]; omega
        have HBIG := hid hbig
        clear h2 hbig HJ HE2
        have B0 := hid (show Bld wo.heap.size wo.heap.size [] _ from Lib.fresh_isBuilder 113 5 wo)
        have G0 := hid (grow_alloc HG.out (.cells #[.pointer none, .slice none 0 0] 113))
        have hwo := HG.out.size
        have hs0 : wo.heap.size < (wo.alloc (.cells #[.pointer none, .slice none 0 0] 113)).heap.size := by simp
        go_upto_region 12 with (fail)
        generalize wo.alloc _ = w3 at B0 G0 hs0 ⊢
        generalize wo.heap.size = B at B0 hwo hs0 ⊢
        clear HG
        go_wp2_with fail
        go_loopw [37] (fun i wr => ∃ (j : Nat) (acc : List UInt8), j ≤ N ∧ i = .int .i64 j ∧ B < wr.heap.size ∧ acc.length ≤ 20000 ∧ Hid (acc ++ tkText (T.drop j) = tkText T) ∧ Hid (Bld B B acc wr) ∧ Hid (w.grownBy wr none)) (fun i _ => N - (intOf i).toNat)
        case atStart => exact ⟨0, [], Nat.zero_le _, rfl, hs0, by simp, hid (by simp), B0, G0⟩
        case round =>
         obtain ⟨j, acc, hj, rfl, hbs, hacc, HE, HB, HG⟩ := hrel
         by_cases hlt : j < N
         · have hjT : j < T.length := by rw [HN.out]; exact hlt
           obtain ⟨g, o, rfl, d0, d1, d2⟩ := tk_elem HEL.out j hjT
           have hE := HE.out
           rw [List.drop_eq_getElem_cons hjT, tkText] at hE
           obtain ⟨⟨kk, l, t⟩, hx⟩ : ∃ x, T[j] = x := ⟨_, rfl⟩
           rw [hx] at hE d0 d1 d2
           simp only at hE d0 d1 d2
           replace d0 := cell_grown d0 HG.out
           replace d1 := cell_grown d1 HG.out
           replace d2 := cell_grown d2 HG.out
           have hlen := congrArg List.length hE
           simp only [List.length_append, tkText_len, Array.length_toList] at hlen
           have hbg := HBIG.out
           change acc.length + (l.size + t.size + tkSum (T.drop (j + 1))) = tkSum T at hlen
           have HE2 := hid (show (acc ++ l.data.toList ++ t.data.toList) ++ tkText (T.drop (j + 1)) = tkText T by rw [← hE]; simp)
           have hal : acc.length + l.size + t.size ≤ 20000 := by omega
           have HB1 := hid (HB.out.grown (xGa wr (.cells #[.string kk, .string l, .string t] 66) none))
           have HG1 := hid (grow_alloc HG.out (.cells #[.string kk, .string l, .string t] 66))
           have hF := heap_alloc_new wr (.cells #[.string kk, .string l, .string t] 66)
           have hbs0 := hbs
           have hbs1 : B < (wr.alloc (.cells #[.string kk, .string l, .string t] 66)).heap.size := by simp; omega
           clear hx hE HE hjT HB HG hlen hbg
           go_upto_region 15 with (fail)
           generalize wr.alloc _ = w4 at HB1 HG1 hF hbs1 ⊢
           have hblt := hbs0
           generalize wr.heap.size = f at hF hblt ⊢
           have x1 := xCb hF 1
           have x2 := xCb hF 2
           simp only [xGe, xGz, xGs] at x1 x2
           have HFB := hid hF
           clear d0 d1 d2 hF
           go_wp2_with fail
           refine (writeString_any B B acc l w4 HB1.out (by omega) (Nat.le_of_lt hbs1)).mono ?_
           rintro e w5 ⟨rfl, b5, F5⟩
           have y2 := (xCb ((F5.block f (lt_of_block HFB.out) ⟨by omega, .inr (by rw [HFB.out]; intro c fr h; simp at h)⟩).trans HFB.out) 2)
           simp only [xGe, xGz, xGs] at y2
           have HB5 := hid b5
           have HG5 := hid (grown_of_bld HG1.out F5 hwo hwo)
           have hbs5 : B < w5.heap.size := Nat.lt_of_lt_of_le hbs1 F5.size
           clear b5 F5 HFB HB1 HG1 x1 x2
           go_wp2_with fail
           refine (writeString_any B B _ t w5 (.inr HB5.out) (by simp only [List.length_append, Array.length_toList]; change acc.length + l.size + t.size ≤ _; omega) (Nat.le_of_lt hbs5)).mono ?_
           rintro e w6 ⟨rfl, b6, F6⟩
           have HB6 := hid b6
           have HG6 := hid (grown_of_bld HG5.out F6 hwo hwo)
           have hbs6 : B < w6.heap.size := Nat.lt_of_lt_of_le hbs5 F6.size
           clear b6 F6 HB5 HG5 y2
           go_wp2_with fail
           go_roundw
           case rel => exact ⟨j + 1, acc ++ l.data.toList ++ t.data.toList, by omega, by go_num, hbs6, by simp only [List.length_append, Array.length_toList]; change acc.length + l.size + t.size ≤ _; omega, HE2, hid (.inr HB6.out), HG6⟩
           case measure => simp [intOf]; omega
         · have hjN : j = N := by omega
           have HE2 := hid (show acc = tkText T by have := HE.out; rw [hjN, ← HN.out, List.drop_length] at this; simpa [tkText] using this)
           clear HE
           have hbg := HBIG.out
           go_wp2_with fail
           refine (writeString_any B B acc tail wr HB.out (by omega) (Nat.le_of_lt hbs)).mono ?_
           rintro e w5 ⟨rfl, b5, F5⟩
           have HB5 := hid b5
           have HG5 := hid (grown_of_bld HG.out F5 hwo hwo)
           have hbs5 : B < w5.heap.size := Nat.lt_of_lt_of_le hbs F5.size
           clear b5 F5 HB HG
           go_wp2_with fail
           refine (Tryz.Builder_String_any B B _ w5 (.inr HB5.out) (Nat.le_of_lt hbs5)).mono ?_
           rintro e w6 ⟨rfl, hb6⟩
           have HG6 : Hid (w.grownBy w6 none) := hid (grow_below HG5.out (Below.mono hb6 hwo))
           clear hb6
           go_wp2_with fail
           rw [← HP.out]
           first | exact ⟨by rw [HJ2.out, HE2.out]; rfl, HG6.out⟩ | (go_ret2; exact ⟨by rw [HJ2.out, HE2.out]; rfl, HG6.out⟩)
theorem ba_app (l t : ByteArray) : (l ++ t).data.toList = l.data.toList ++ t.data.toList := by rw [ByteArray.data_append, Array.toList_append]
theorem str_app (l : List UInt8) (t : ByteArray) : (⟨(l ++ t.data.toList).toArray⟩ : ByteArray) = ⟨l.toArray⟩ ++ t := by
 apply ByteArray.ext; rw [ByteArray.data_append]; simp
theorem joinedOf_any (T : List Tk) (tail : ByteArray) (v : Value) (w : World) (hT : TkAt w v T) (hn : T.length ≤ 1000000) (hs : tail.size + tkSum T ≤ 1000000) :
 Calls Tryz.prog 29 #[v, .string tail] w fun e w' => e = .returned (.tuple #[.string (joinedM T tail).1, .int .i64 (joinedM T tail).2]) ∧ w.grownBy w' none := by
 have HT := hid hT
 obtain ⟨av, cap, rfl, hel⟩ := hT
 have HEL := hid hel
 clear hel
 obtain ⟨P, hP⟩ : ∃ P : Ending → World → Prop, (fun e w' => e = .returned (.tuple #[.string (joinedM T tail).1, .int .i64 (joinedM T tail).2]) ∧ w.grownBy w' none) = P := ⟨_, rfl⟩
 rw [hP]
 have HP := hid hP
 have HS := hid hs
 obtain ⟨N, hN⟩ : ∃ N, T.length = N := ⟨_, rfl⟩
 have HN := hid hN
 rw [hN] at hn ⊢
 clear hP hN hs
 by_cases h1 : 2000 < N
 · have h1i : (2000 : Int) < N := by omega
   have HJ := hid (show joinedM T tail = (⟨#[]⟩, 2) by rw [joinedM, HN.out, if_pos h1])
   clear h1
   go_enter Tryz.func29, Tryz.ntmps29
   go_wp2_with fail
   rw [← HP.out]
   first | exact ⟨by rw [HJ.out]; rfl, grow_self w⟩ | (go_ret2; exact ⟨by rw [HJ.out]; rfl, grow_self w⟩)
 · have h1i : ¬ (2000 : Int) < N := by omega
   have HJ := hid (show joinedM T tail = if 20000 < tail.size + tkSum T then (⟨#[]⟩, 2) else (⟨(tkText T ++ tail.data.toList).toArray⟩, 0) by rw [joinedM, HN.out, if_neg h1])
   clear h1
   go_enter Tryz.func29, Tryz.ntmps29
   go_wp2_with fail
   go_loopw [6, 19] (fun c i wr => ∃ (j k : Nat), j ≤ N ∧ i = .int .i64 j ∧ c = .int .i64 k ∧ k ≤ 1000000 ∧ Hid (k + tkSum (T.drop j) = tail.size + tkSum T) ∧ Hid (w.grownBy wr none)) (fun _ i _ => N - (intOf i).toNat)
   case atStart => exact ⟨0, tail.size, Nat.zero_le _, rfl, rfl, by have := HS.out; omega, hid (by simp), hid (grow_self w)⟩
   case round =>
    obtain ⟨j, k, hj, rfl, rfl, hk, HE, HG⟩ := hrel
    by_cases hlt : j < N
    · have hjT : j < T.length := by rw [HN.out]; exact hlt
      obtain ⟨g, o, rfl, d0, d1, d2⟩ := tk_elem HEL.out j hjT
      have hE := HE.out
      rw [List.drop_eq_getElem_cons hjT, tkSum] at hE
      obtain ⟨⟨kk, l, t⟩, hx⟩ : ∃ x, T[j] = x := ⟨_, rfl⟩
      rw [hx] at hE d0 d1 d2
      simp only at hE d0 d1 d2
      replace d0 := cell_grown d0 HG.out
      replace d1 := cell_grown d1 HG.out
      replace d2 := cell_grown d2 HG.out
      have HE2 := hid (show (k + (l.size + t.size)) + tkSum (T.drop (j + 1)) = tail.size + tkSum T by omega)
      have hk2 : k + (l.size + t.size) ≤ 1000000 := by have := HS.out; omega
      have hl : l.size ≤ 1000000 := by omega
      have ht : t.size ≤ 1000000 := by omega
      have HG2 := hid (grow_alloc HG.out (.cells #[.string kk, .string l, .string t] 66))
      clear hx hE HE hjT
      by_cases h3 : 20000 < k + (l.size + t.size)
      · have h3i : (20000 : Int) < (k : Int) + ((l.size : Int) + (t.size : Int)) := by omega
        have HJ3 := hid (show joinedM T tail = (⟨#[]⟩, 2) by rw [HJ.out, if_pos (by have := HE2.out; omega)])
        clear h3
        go_wp2_with fail
        rw [← HP.out]
        first | exact ⟨by rw [HJ3.out]; rfl, HG2.out⟩ | (go_ret2; exact ⟨by rw [HJ3.out]; rfl, HG2.out⟩)
      · have h3i : ¬ (20000 : Int) < (k : Int) + ((l.size : Int) + (t.size : Int)) := by omega
        clear h3
        go_wp2_with fail
        go_roundw
        case rel => exact ⟨j + 1, k + (l.size + t.size), by omega, by go_num, by go_num, hk2, HE2, HG2⟩
        case measure => simp [intOf]; omega
    · obtain rfl : N = j := by omega
      have HE2 := hid (show k = tail.size + tkSum T by have := HE.out; rw [← HN.out, List.drop_length, tkSum] at this; omega)
      clear HE
      obtain ⟨wo, rfl⟩ : ∃ v : World, v = wr := ⟨_, rfl⟩
      by_cases h2 : 20000 < k
      · have h2i : (20000 : Int) < k := by omega
        have HJ2 := hid (show joinedM T tail = (⟨#[]⟩, 2) by rw [HJ.out, ← HE2.out, if_pos h2])
        clear h2
        go_wp2_with fail
        rw [← HP.out]
        first | exact ⟨by rw [HJ2.out]; rfl, HG.out⟩ | (go_ret2; exact ⟨by rw [HJ2.out]; rfl, HG.out⟩)
      · have h2i : ¬ (20000 : Int) < k := by omega
        have HJ2 := hid (show joinedM T tail = (⟨(tkText T ++ tail.data.toList).toArray⟩, 0) by rw [HJ.out, ← HE2.out, if_neg h2])
        have hbig : tail.size + tkSum T ≤ 20000 := by rw [← HE2.out]; omega
        have HBIG := hid hbig
        clear h2 hbig HJ HE2
        have B0 := hid (show Bld wo.heap.size wo.heap.size [] _ from Lib.fresh_isBuilder 113 5 wo)
        have G0 := hid (grow_alloc HG.out (.cells #[.pointer none, .slice none 0 0] 113))
        have hwo := HG.out.size
        have hs0 : wo.heap.size < (wo.alloc (.cells #[.pointer none, .slice none 0 0] 113)).heap.size := by simp
        go_upto_region 14 with (fail)
        generalize wo.alloc _ = w3 at B0 G0 hs0 ⊢
        generalize wo.heap.size = B at B0 hwo hs0 ⊢
        clear HG
        go_wp2_with fail
        go_loopw [39] (fun i wr => ∃ (j : Nat) (acc : List UInt8), j ≤ N ∧ i = .int .i64 j ∧ B < wr.heap.size ∧ acc.length ≤ 20000 ∧ Hid (acc ++ tkText (T.drop j) = tkText T) ∧ Hid (Bld B B acc wr) ∧ Hid (w.grownBy wr none)) (fun i _ => N - (intOf i).toNat)
        case atStart => exact ⟨0, [], Nat.zero_le _, rfl, hs0, by simp, hid (by simp), B0, G0⟩
        case round =>
         obtain ⟨j, acc, hj, rfl, hbs, hacc, HE, HB, HG⟩ := hrel
         by_cases hlt : j < N
         · have hjT : j < T.length := by rw [HN.out]; exact hlt
           obtain ⟨g, o, rfl, d0, d1, d2⟩ := tk_elem HEL.out j hjT
           have hE := HE.out
           rw [List.drop_eq_getElem_cons hjT, tkText] at hE
           obtain ⟨⟨kk, l, t⟩, hx⟩ : ∃ x, T[j] = x := ⟨_, rfl⟩
           rw [hx] at hE d0 d1 d2
           simp only at hE d0 d1 d2
           replace d0 := cell_grown d0 HG.out
           replace d1 := cell_grown d1 HG.out
           replace d2 := cell_grown d2 HG.out
           have hlen := congrArg List.length hE
           simp only [List.length_append, tkText_len, Array.length_toList] at hlen
           have hbg := HBIG.out
           change acc.length + (l.size + t.size + tkSum (T.drop (j + 1))) = tkSum T at hlen
           have HE2 := hid (show (acc ++ l.data.toList ++ t.data.toList) ++ tkText (T.drop (j + 1)) = tkText T by rw [← hE]; simp)
           have hal : acc.length + l.size + t.size ≤ 20000 := by omega
           have HB1 := hid (HB.out.grown (xGa wr (.cells #[.string kk, .string l, .string t] 66) none))
           have HG1 := hid (grow_alloc HG.out (.cells #[.string kk, .string l, .string t] 66))
           have hF := heap_alloc_new wr (.cells #[.string kk, .string l, .string t] 66)
           have hbs0 := hbs
           have hbs1 : B < (wr.alloc (.cells #[.string kk, .string l, .string t] 66)).heap.size := by simp; omega
           clear hx hE HE hjT HB HG hlen hbg
           go_upto_region 17 with (fail)
           generalize wr.alloc _ = w4 at HB1 HG1 hF hbs1 ⊢
           have hblt := hbs0
           generalize wr.heap.size = f at hF hblt ⊢
           have x1 := xCb hF 1
           have x2 := xCb hF 2
           simp only [xGe, xGz, xGs] at x1 x2
           have HFB := hid hF
           clear d0 d1 d2 hF
           go_wp2_with fail
           refine (writeString_any B B acc (l ++ t) w4 HB1.out (by rw [ByteArray.size_append]; omega) (Nat.le_of_lt hbs1)).mono ?_
           rintro e w6 ⟨rfl, b6, F6⟩
           have HB6 := hid b6
           have HG6 := hid (grown_of_bld HG1.out F6 hwo hwo)
           have hbs6 : B < w6.heap.size := Nat.lt_of_lt_of_le hbs1 F6.size
           clear b6 F6 HB1 HG1 x1 x2
           go_wp2_with fail
           go_roundw
           case rel => exact ⟨j + 1, acc ++ (l ++ t).data.toList, by omega, by go_num, hbs6, by rw [ba_app]; simp only [List.length_append, Array.length_toList]; change acc.length + (l.size + t.size) ≤ _; omega, hid (by rw [ba_app, ← List.append_assoc]; exact HE2.out), hid (.inr HB6.out), HG6⟩
           case measure => simp [intOf]; omega
         · have hjN : j = N := by omega
           have HE2 := hid (show acc = tkText T by have := HE.out; rw [hjN, ← HN.out, List.drop_length] at this; simpa [tkText] using this)
           clear HE
           have hbg := HBIG.out
           go_wp2_with fail
           refine (Tryz.Builder_String_any B B acc wr HB.out (Nat.le_of_lt hbs)).mono ?_
           rintro e w6 ⟨rfl, hb6⟩
           have HG6 : Hid (w.grownBy w6 none) := hid (grow_below HG.out (Below.mono hb6 hwo))
           clear hb6
           go_wp2_with fail
           rw [← HP.out]
           first | exact ⟨by rw [HJ2.out, HE2.out, str_app]; rfl, HG6.out⟩ | (go_ret2; exact ⟨by rw [HJ2.out, HE2.out, str_app], HG6.out⟩)
open Go.RowKit Go.Maps
def errV : List Int → Int
 | [] => 0
 | e :: l => if e = 0 then errV l else e
theorem errs_any (es : List Int) (v : Value) (w : World) (h : Ints w v es) (hl : es.length ≤ 1000000) : Calls Tryz.prog 9 #[v] w fun e w' => e = .returned (.int .i64 (errV es)) ∧ w = w' := by
 have HI := hid h
 obtain ⟨a, c, rfl, _⟩ := h
 obtain ⟨r, hr⟩ : ∃ r, errV es = r := ⟨_, rfl⟩
 rw [hr]
 have HR := hid hr
 clear hr
 go_enter Tryz.func9, Tryz.ntmps9
 go_wp2_with fail
 go_loopw [7] (fun ix wr => ∃ j : Nat, j ≤ es.length ∧ ix = .int .i64 j ∧ w = wr ∧ Hid (errV (es.drop j) = r)) (fun ix _ => es.length - (intOf ix).toNat)
 case atStart => exact ⟨0, Nat.zero_le _, rfl, rfl, HR⟩
 case round =>
  obtain ⟨j, hj, rfl, rfl, HE⟩ := hrel
  by_cases hlt : j < es.length
  · obtain ⟨ca', cc', e1, he⟩ := HI.out.elem
    obtain ⟨g1, o1, e2, hce⟩ := he j hlt
    simp only [Value.slice.injEq] at e1
    obtain ⟨rfl, e3, e4⟩ := e1
    clear e3 e4
    subst e2
    rw [show es.getD j 0 = es[j] by simp [List.getD, hlt]] at hce
    have HD := hid (show (if es[j] = 0 then errV (es.drop (j + 1)) else es[j]) = r by rw [← HE.out, List.drop_eq_getElem_cons hlt, errV])
    generalize es[j] = x at *
    clear he HE HR
    by_cases hx : x = 0
    · have HE2 : Hid (errV (es.drop (j + 1)) = r) := hid (by rw [← HD.out, if_pos hx])
      subst hx
      clear HD
      go_wp2_with fail
      go_roundw
      case rel => exact ⟨j + 1, by omega, by go_num, trivial, HE2⟩
      case measure => simp [intOf]; omega
    · have HE2 : Hid (x = r) := hid (by rw [← HD.out, if_neg hx])
      clear HD
      go_wp2_with fail
      go_ret
      exact ⟨by rw [← HE2.out]; rfl, rfl⟩
  · have HE2 : Hid (0 = r) := hid (by rw [← HE.out, List.drop_eq_nil_of_le (by omega)]; rfl)
    clear HE HR
    go_wp2_with fail
    go_ret
    exact ⟨by rw [← HE2.out]; rfl, rfl⟩
end Go.Proofs.YtplbacfjmajeeaaGreatDoor
