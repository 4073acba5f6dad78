import Derived.Test.YtplbacfjmajeeaaGreatDoorJ41
namespace Go.Proofs.YtplbacfjmajeeaaGreatDoor
open Go.Lib (hid)
set_option maxHeartbeats 4000000
set_option maxRecDepth 100000
open Go.RowKit
theorem scanL_sg (ps:List Pt) (L:List En):∀ (cs:List UInt8) (now k m lg sg:Nat),(scanL ps L cs now k m lg sg).2.2≤max sg (k+cs.length)
 | [],_,_,_,_,_=>by simp only [scanL]; omega
 | c::cs,now,k,m,lg,sg=>by
  rw [scanL]
  split
  · simp only [List.length_cons]; omega
  · refine Nat.le_trans (scanL_sg ps L cs _ _ _ _ _) ?_
    simp only [List.length_cons]
    omega
theorem longL_sg (ps:List Pt) (L:List En) (s:List UInt8) (a:Nat):(longL ps L s a).2.2≤s.length+1:=by
 rw [longL]
 refine Nat.le_trans (scanL_sg ps L _ _ _ _ _ _) ?_
 simp only [List.length_drop]
 omega
theorem pcsL_sg (ps:List Pt) (L:List En) (s:List UInt8):∀ (n a:Nat) (acc:List Pc),(pcsL ps L s n a acc).2.2=0→∃ R,(pcsL ps L s n a acc).1=acc++R∧∀ x∈R,x.2.2.1≤s.length∧x.2.2.2≤s.length+1
 | 0,_,acc,_=>⟨[],by simp [pcsL],fun _ h=>by cases h⟩
 | n+1,a,acc,h=>by
  rw [pcsL] at h ⊢
  by_cases h1:s.length≤a
  · rw [if_pos h1]; exact ⟨[],by simp,fun _ h=>by cases h⟩
  · rw [if_neg h1] at h ⊢
    by_cases h2:(longL ps L s a).2.1=0
    · rw [if_pos h2] at h; cases h
    · rw [if_neg h2] at h ⊢
      obtain ⟨R,e,hR⟩:=pcsL_sg ps L s n _ _ h
      refine ⟨((longL ps L s a).1,a,(longL ps L s a).2.1,(longL ps L s a).2.2)::R,by rw [e,List.append_assoc]; rfl,fun x hx=>?_⟩
      rcases List.mem_cons.1 hx with rfl | hx
      · have:=longL_le ps L s a
        have:=longL_sg ps L s a
        simp only; omega
      · exact hR x hx
theorem pcOk_mk (N sz:Nat):∀ (l:List Pc) (a:Nat),PcOk N sz a l→∀ x∈l,x.1<N
 | [],_,_,_,h=>by cases h
 | y::r,a,h,x,hx=>by
  rcases List.mem_cons.1 hx with rfl | hx
  · exact h.1
  · exact pcOk_mk N sz r _ h.2.2.2 x hx
structure SpOk (ms:List Mrk) (L:List En) (s:ByteArray) (P:List Pc) (U:List Tk) (tl:ByteArray):Prop where
 eqP:P=(piecesL (ms.map Mrk.pat) L s.data.toList).1
 e0:(piecesL (ms.map Mrk.pat) L s.data.toList).2.2=0
 text:tkText U++tl.data.toList=s.data.toList
 len:U.length≤2000
 pcs:∀ y∈P,y.2.1<s.size∧y.2.2.1≤s.size∧y.2.2.2≤s.size+1∧y.1<ms.length
 pl:P.length≤s.size
 sum:tkSum U≤s.size
 sz:s.size≤20000
theorem splitL_ok (ms:List Mrk) (s:ByteArray) (h:(splitL (ms.map Mrk.pat) (setsM ms) ms s).2.2.2.2.2=0) :
 (splitL (ms.map Mrk.pat) (setsM ms) ms s).1=s∧SpOk ms (setsM ms) s (splitL (ms.map Mrk.pat) (setsM ms) ms s).2.1 (splitL (ms.map Mrk.pat) (setsM ms) ms s).2.2.1 (splitL (ms.map Mrk.pat) (setsM ms) ms s).2.2.2.1:=by
 have hsz:s.data.toList.length=s.size:=by rw [Array.length_toList]; rfl
 unfold splitL at h ⊢
 by_cases h0:(piecesL (ms.map Mrk.pat) (setsM ms) s.data.toList).2.2=0
 · rw [if_pos h0] at h ⊢
   by_cases h1:2000<(toksL ms s (piecesL (ms.map Mrk.pat) (setsM ms) s.data.toList).1 0 []).1.length
   · rw [if_pos h1] at h; cases h
   · rw [if_neg h1]
     have ht:=split_text ms s h0
     have hb:s.size≤20000:=by
      have h2:=h0
      unfold piecesL at h2
      split at h2
      · cases h2
      · omega
     refine ⟨rfl,rfl,h0,ht,by simp only; omega,fun y hy=>?_,?_,?_,hb⟩
     · have l1:=pieces_lt _ _ _ h0 y hy
       have l3:=pcOk_mk _ _ _ _ (piecesL_ok _ _ _ h0) y hy
       have l2:y.2.2.1≤s.data.toList.length∧y.2.2.2≤s.data.toList.length+1:=by
        have h3:=h0
        have hy2:=hy
        simp only at hy2
        unfold piecesL at h3 hy2
        split at h3
        · cases h3
        · rename_i n1
          rw [if_neg n1] at hy2
          obtain ⟨R,q,hR⟩:=pcsL_sg _ _ _ _ _ _ h3
          rw [q,List.nil_append] at hy2
          exact hR y hy2
       rw [List.length_map] at l3
       omega
     · have:=pieces_len (ms.map Mrk.pat) (setsM ms) s.data.toList
       simp only
       omega
     · have l4:=congrArg List.length ht
       rw [List.length_append,tkText_len] at l4
       simp only
       omega
 · rw [if_neg h0] at h
   exact absurd h h0
def eqTk1 (x y:Tk):Bool:=x.1.toList == y.1.toList && (x.2.1.toList == y.2.1.toList && x.2.2.toList == y.2.2.toList)
def eqTk:List Tk→List Tk→Bool
 | [],[]=>true
 | x::l,y::r=>eqTk1 x y && eqTk l r
 | _,_=>false
theorem toList_inj {a b:ByteArray} (h:(a.toList == b.toList)=true):a=b:=by
 rw [ByteArray.toList_eq,ByteArray.toList_eq] at h
 exact ByteArray.ext (Array.toList_inj.1 (by simpa using h))
theorem eqTk_eq:∀ (T U:List Tk),eqTk T U=true→T=U
 | [],[],_=>rfl
 | x::l,y::r,h=>by
  simp only [eqTk,eqTk1,Bool.and_eq_true] at h
  obtain ⟨⟨h1,h2,h3⟩,h4⟩:=h
  obtain ⟨x1,x2,x3⟩:=x
  obtain ⟨y1,y2,y3⟩:=y
  obtain rfl:x1=y1:=toList_inj h1
  obtain rfl:x2=y2:=toList_inj h2
  obtain rfl:x3=y3:=toList_inj h3
  rw [eqTk_eq l r h4]
 | [],_::_,h=>by cases h
 | _::_,[],h=>by cases h
theorem eqTk_len:∀ (T U:List Tk),T.length≠U.length→eqTk T U=false
 | [],[],h=>absurd rfl h
 | x::l,y::r,h=>by
  simp only [eqTk]
  rw [eqTk_len l r (by simpa using h),Bool.and_false]
 | [],_::_,_=>rfl
 | _::_,[],_=>rfl
theorem eqTk_drop (T U:List Tk) (j:Nat) (h1:j<T.length) (h2:j<U.length):eqTk (T.drop j) (U.drop j)=(eqTk1 T[j] U[j] && eqTk (T.drop (j+1)) (U.drop (j+1))):=by
 rw [List.drop_eq_getElem_cons h1,List.drop_eq_getElem_cons h2]
 rfl
theorem equalTk_any (T U:List Tk) (v v2:Value) (w:World) (hl:T.length≤1000000) (h1:TkAt w v T) (h2:TkAt w v2 U) :
 Calls Tryz.prog 31 #[v,v2] w fun e w'=>e=.returned (.bool (eqTk T U))∧w.grownBy w' none:=by
 obtain ⟨a,c1,rfl,e1⟩:=h1
 obtain ⟨b,c2,rfl,e2⟩:=h2
 have HE:=hid e1
 have HF:=hid e2
 obtain ⟨r,hr⟩:∃ r,eqTk T U=r:=⟨_,rfl⟩
 rw [hr]
 have HR:=hid hr
 clear e1 e2 hr
 by_cases hle:T.length=U.length
 · have HL:=hid hle
   obtain ⟨n,hn⟩:∃ n,T.length=n:=⟨_,rfl⟩
   have HN:=hid hn
   rw [hn] at hl ⊢
   rw [← hle,hn]
   clear hle hn
   have hb:((n:Int) != (n:Int))=false:=by simp
   go_enter Tryz.func31,Tryz.ntmps31
   go_wp2_with fail
   go_loopw [13] (fun i wr=>∃ j k:Nat,j≤n∧i=.int .i64 j∧wr=w.drewN k∧Hid (eqTk (T.drop j) (U.drop j)=r)) (fun i _=>n-(intOf i).toNat)
   case atStart=>exact ⟨0,0,Nat.zero_le _,rfl,rfl,hid (by simpa using HR.out)⟩
   case round =>
    obtain ⟨j,k,hj,rfl,rfl,HD⟩:=hrel
    by_cases hlt:j<n
    · obtain ⟨g,off,rfl,c1,c2,c3⟩:=tk_elem HE.out j (by rw [HN.out]; exact hlt)
      obtain ⟨g2,off2,rfl,d1,d2,d3⟩:=tk_elem HF.out j (by rw [← HL.out,HN.out]; exact hlt)
      have HD2:=hid ((eqTk_drop T U j (by rw [HN.out]; exact hlt) (by rw [← HL.out,HN.out]; exact hlt)).symm.trans HD.out)
      generalize T[j]'(by rw [HN.out]; exact hlt)=x at c1 c2 c3 HD2
      generalize U[j]'(by rw [← HL.out,HN.out]; exact hlt)=y at d1 d2 d3 HD2
      obtain ⟨ea,eo,en⟩:=x
      obtain ⟨fa,fo,fn⟩:=y
      simp only at c1 c2 c3 d1 d2 d3
      have i1:(0:Int)≤(j:Int):=by omega
      have i2:(j:Int)<(n:Int):=by omega
      clear HD
      cases h1:(ea.toList == fa.toList) with
      | false =>
       have HZ:=hid (show r=false by rw [← HD2.out]; simp only [eqTk1,h1,Bool.false_and])
       clear HD2
       go_wp2_with fail
       go_quiet (fail)
       go_wp2_with fail
       go_ret
       exact ⟨by rw [HZ.out]; rfl,xT (grow_drewNs _ _) (grow_drewNs _ _)⟩
      | true =>
       cases h2:(eo.toList == fo.toList) with
       | false =>
        have HZ:=hid (show r=false by rw [← HD2.out]; simp only [eqTk1,h1,h2,Bool.false_and,Bool.and_false])
        clear HD2
        go_wp2_with fail
        go_quiet (fail)
        go_wp2_with fail
        go_ret
        exact ⟨by rw [HZ.out]; rfl,xT (grow_drewNs _ _) (grow_drewNs _ _)⟩
       | true =>
        cases h3:(en.toList == fn.toList) with
        | false =>
         have HZ:=hid (show r=false by rw [← HD2.out]; simp only [eqTk1,h1,h2,h3,Bool.false_and,Bool.and_false])
         clear HD2
         go_wp2_with fail
         go_quiet (fail)
         go_wp2_with fail
         go_ret
         exact ⟨by rw [HZ.out]; rfl,xT (grow_drewNs _ _) (grow_drewNs _ _)⟩
        | true =>
         have HZ:=hid (show eqTk (T.drop (j+1)) (U.drop (j+1))=r by rw [← HD2.out]; simp only [eqTk1,h1,h2,h3,Bool.true_and])
         clear HD2
         go_wp2_with fail
         go_quiet (fail)
         go_wp2_with fail
         go_roundw
         case rel=>exact ⟨j+1,_,by omega,by go_num,rfl,HZ⟩
         case measure=>simp [intOf]; omega
    · obtain rfl:j=n:=by omega
      have HZ:=hid (show r=true by rw [← HD.out,List.drop_eq_nil_of_le (by rw [HN.out]; exact Nat.le_refl _),List.drop_eq_nil_of_le (by rw [← HL.out,HN.out]; exact Nat.le_refl _)]; rfl)
      go_wp2_with fail
      go_ret
      exact ⟨by rw [HZ.out]; rfl,grow_drewNs w k⟩
 · have hb:((T.length:Int) != (U.length:Int))=true:=by simp; omega
   have HZ:=hid (show r=false by rw [← HR.out]; exact eqTk_len T U hle)
   clear hle
   go_enter Tryz.func31,Tryz.ntmps31
   go_wp2_with fail
   go_ret
   exact ⟨by rw [HZ.out]; rfl,grow_self _⟩
open Go.RowKit Go.Maps
structure AgR where
 tk:List Tk
 tl:ByteArray
 ah:Nat
 be:Nat
 fm:Nat
 tm:Nat
 fo:Nat
 ai:Int
 er:Int
def AgR.bad (i e:Int):AgR:=⟨[],⟨#[]⟩,0,0,0,0,0,i,e⟩
abbrev spM (ms:List Mrk) (L:List En) (s:ByteArray):=splitL (ms.map Mrk.pat) L ms s
def agN (ms:List Mrk) (s s2:ByteArray) (A:Nat) (x:ByteArray) (P Q:List Pc) (T U:List Tk) (tl2:ByteArray):AgR :=
 ⟨U,tl2,(aheadL ms A Q 0 0).2,behindL s.size s2.size (meetL s.size s2.size (atsL P) (A+x.size) Q) (beginsL T 0) (beginsL U 0) 0,(aheadL ms A Q 0 0).1,meetL s.size s2.size (atsL P) (A+x.size) Q,foundL (aheadL ms A Q 0 0).1 (meetL s.size s2.size (atsL P) (A+x.size) Q) Q 0,0,0⟩
def agE (ms:List Mrk) (s s2:ByteArray) (A:Nat) (x:ByteArray) (P:List Pc) (T:List Tk) (Q:List Pc) (U:List Tk) (tl2:ByteArray) (at_ er:Nat):AgR :=
 if er≠0 then .bad at_ er else agN ms s s2 A x P Q T U tl2
def agS (ms:List Mrk) (L:List En) (T:List Tk) (tail:ByteArray) (A O:Int) (x s:ByteArray) (P:List Pc) (V:List Tk) (tl:ByteArray) (er:Nat):AgR :=
 if er≠0 then .bad 0 3 else if (tl.toList == tail.toList)=false then .bad 0 3 else if eqTk V T=false then .bad 0 3
 else if (replM s A O x).2≠0 then .bad 0 (replM s A O x).2
 else agE ms s (replM s A O x).1 A.toNat x P V (spM ms L (replM s A O x).1).2.1 (spM ms L (replM s A O x).1).2.2.1 (spM ms L (replM s A O x).1).2.2.2.1 (spM ms L (replM s A O x).1).2.2.2.2.1 (spM ms L (replM s A O x).1).2.2.2.2.2
def agM (ms:List Mrk) (L:List En) (T:List Tk) (tail:ByteArray) (A O:Int) (x:ByteArray):AgR :=
 if chk ms≠0 then .bad 0 (chk ms) else if (joinedM T tail).2≠0 then .bad 0 (joinedM T tail).2
 else agS ms L T tail A O x (joinedM T tail).1 (spM ms L (joinedM T tail).1).2.1 (spM ms L (joinedM T tail).1).2.2.1 (spM ms L (joinedM T tail).1).2.2.2.1 (spM ms L (joinedM T tail).1).2.2.2.2.2
def AgPost (R:AgR) (w:World) (e:Ending) (w':World):Prop :=
 ∃ v,e=.returned (.tuple #[.agg #[v,.string R.tl,.int .i64 (R.ah:Nat),.int .i64 (R.be:Nat),.int .i64 (R.fm:Nat),.int .i64 (R.tm:Nat),.int .i64 (R.fo:Nat)],.int .i64 R.ai,.int .i64 R.er])∧TkAt w' v R.tk∧w.grownBy w' none
theorem joinedM_size (T:List Tk) (tail:ByteArray):(joinedM T tail).1.size≤20000:=by
 unfold joinedM
 split
 · exact Nat.zero_le _
 · split
   · exact Nat.zero_le _
   · rename_i h1 h2
     have:=tkText_len T
     have h3:tail.data.toList.length=tail.size:=by rw [Array.length_toList]; rfl
     show (tkText T++tail.data.toList).toArray.size≤20000
     rw [List.size_toArray,List.length_append]
     omega
theorem replM_ok (s:ByteArray) (A O:Int) (x:ByteArray) (h:(replM s A O x).2=0):0≤A∧A≤s.size∧(replM s A O x).1.size≤s.size+x.size+s.size:=by
 unfold replM at h ⊢
 split at h
 · cases h
 · rename_i h1
   rw [if_neg h1]
   split at h
   · cases h
   · rename_i h2
     rw [if_neg h2]
     refine ⟨by omega,by omega,?_⟩
     simp only [ByteArray.size_append,ByteArray.size_extract]
     omega
theorem tkAt_kept {W W':World} {B n c:Nat} {a:Option Addr} {T:List Tk} (h:TkAt W (.slice a n c) T) (hb:∀ g o,a=some ⟨g,o,none⟩→B<g) (hc:∀ g o,g≠B→W'.cell? ⟨g,o,none⟩=W.cell? ⟨g,o,none⟩):TkAt W' (.slice a n c) T:=by
 obtain ⟨a2,c2,e,h⟩:=h
 simp only [Value.slice.injEq] at e
 obtain ⟨rfl,rfl,rfl⟩:=e
 refine ⟨a,c,rfl,?_⟩
 rcases h with h | ⟨g,o,e,h⟩
 · exact .inl h
 · exact .inr ⟨g,o,e,fun j u hj=>by rw [hc _ _ (by have:=hb g o e; omega)]; exact h j u hj⟩
theorem store7 {w W:World} {B:Nat} {z0 z1 z2 z3 z4 z5 z6:Value} (h:W.heap[B]? = some (.cells #[z0,z1,z2,z3,z4,z5,z6] 71 (0,0))) (hg:w.grownBy W none) (hB:w.heap.size≤B) (u0 u1 u2 u3 u4 u5 u6:Value) :
 ((((((((W.setCell ⟨B,0,none⟩ (u0)).setCell ⟨B,1,none⟩ (u1)).setCell ⟨B,2,none⟩ (u2)).setCell ⟨B,3,none⟩ (u3)).setCell ⟨B,4,none⟩ (u4)).setCell ⟨B,5,none⟩ (u5)).setCell ⟨B,6,none⟩ (u6)).heap[B]? = some (.cells #[u0,u1,u2,u3,u4,u5,u6] 71 (0,0)))∧w.grownBy (((((((W.setCell ⟨B,0,none⟩ (u0)).setCell ⟨B,1,none⟩ (u1)).setCell ⟨B,2,none⟩ (u2)).setCell ⟨B,3,none⟩ (u3)).setCell ⟨B,4,none⟩ (u4)).setCell ⟨B,5,none⟩ (u5)).setCell ⟨B,6,none⟩ (u6)) none∧∀ g o,g≠B→(((((((W.setCell ⟨B,0,none⟩ (u0)).setCell ⟨B,1,none⟩ (u1)).setCell ⟨B,2,none⟩ (u2)).setCell ⟨B,3,none⟩ (u3)).setCell ⟨B,4,none⟩ (u4)).setCell ⟨B,5,none⟩ (u5)).setCell ⟨B,6,none⟩ (u6)).cell? ⟨g,o,none⟩=W.cell? ⟨g,o,none⟩:=by
 refine ⟨?_,(ygs (ygs (ygs (ygs (ygs (ygs (ygs hg ⟨B,0,none⟩ u0 (by simpa using hB)) ⟨B,1,none⟩ u1 (by simpa using hB)) ⟨B,2,none⟩ u2 (by simpa using hB)) ⟨B,3,none⟩ u3 (by simpa using hB)) ⟨B,4,none⟩ u4 (by simpa using hB)) ⟨B,5,none⟩ u5 (by simpa using hB)) ⟨B,6,none⟩ u6 (by simpa using hB)),fun g o hn=>?_⟩
 case refine_2 =>
  have e:∀ (V:World) (i:Nat) (u:Value),(V.setCell ⟨B,i,none⟩ u).heap[g]? = V.heap[g]?:=fun V i u=>Below.heap_setCell _ _ _ _ (by simpa using hn)
  simp only [World.cell?,e]
 have:=(yhs (yhs (yhs (yhs (yhs (yhs (yhs h 0 u0) 1 u1) 2 u2) 3 u3) 4 u4) 5 u5) 6 u6)
 simpa only [xSi,xSs,xSz] using this
def badV (a e:Int):Value:=.tuple #[.agg #[.slice none 0 0,.string ⟨#[]⟩,.int .i64 0,.int .i64 0,.int .i64 0,.int .i64 0,.int .i64 0],.int .i64 a,.int .i64 e]
theorem agBad {R:AgR} {a e:Int} {w w':World} (h:R=.bad a e) (g:w.grownBy w' none):AgPost R w (.returned (badV a e)) w':=⟨.slice none 0 0,by rw [h]; rfl,by rw [h]; exact ⟨none,0,rfl,.inl rfl⟩,g⟩
theorem store7z {w W:World} {B:Nat} {z0 z1 z2 z3 z4 z5 z6:Value} (h:W.heap[B]? = some (.cells #[z0,z1,z2,z3,z4,z5,z6] 71 (0,0))) (hg:w.grownBy W none) (hB:w.heap.size≤B) :
 ∃ V,((((((W.setCell ⟨B,0,none⟩ (.slice none 0 0)).setCell ⟨B,1,none⟩ (.string ⟨#[]⟩)).setCell ⟨B,2,none⟩ (.int .i64 0)).setCell ⟨B,3,none⟩ (.int .i64 0)).setCell ⟨B,4,none⟩ (.int .i64 0)).setCell ⟨B,5,none⟩ (.int .i64 0)).setCell ⟨B,6,none⟩ (.int .i64 0)=V∧V.heap[B]? = some (.cells #[.slice none 0 0,.string ⟨#[]⟩,.int .i64 0,.int .i64 0,.int .i64 0,.int .i64 0,.int .i64 0] 71 (0,0))∧w.grownBy V none :=
 ⟨_,rfl,(store7 h hg hB _ _ _ _ _ _ _).1,(store7 h hg hB _ _ _ _ _ _ _).2.1⟩
set_option maxHeartbeats 8000000 in
theorem again_any (ms:List Mrk) (av:Option Addr) (cap:Nat) (T:List Tk) (tail:ByteArray) (tv:Value) (A O:Int) (x:ByteArray) (w:World) (hms:∀ m∈ms,m.pat.size≤1000∧m.kind.size≤1000000) (hl:ms.length≤1000) (hlv:ylL (ms.map Mrk.pat)≤64)
 (ha:ms=[]∨∃ b off,av=some ⟨b,off,none⟩∧MrkAt w ms b off) (hT:TkAt w tv T) (hTl:T.length≤1000000) (hTs:tail.size+tkSum T≤1000000) (hx:x.size≤100000) (hA : -1000000≤A∧A≤2000000) (hO : -1000000≤O∧O≤2000000) :
 Calls Tryz.prog 33 #[.slice av ms.length cap,tv,.string tail,.agg #[.int .i64 A,.int .i64 O,.string x]] w (AgPost (agM ms (setsM ms) T tail A O x) w):=by
 have HCS:=hid (fun (W:World) (hA:ms=[]∨∃ b off,av=some ⟨b,off,none⟩∧MrkAt W ms b off)=>checked_sum ms av cap W (fun m hm=>⟨by have:=(hms m hm).1; omega,(hms m hm).2⟩) (by omega) hlv hA)
 have HSK:=hid (splitL_ok ms)
 generalize setsM ms=Ls at HCS HSK ⊢
 obtain ⟨R,hR⟩:∃ R,agM ms Ls T tail A O x=R:=⟨_,rfl⟩
 rw [hR]
 obtain ⟨PP,hPP⟩:∃ P,AgPost R w=P:=⟨_,rfl⟩
 rw [hPP]
 have HPP:=hid hPP
 have HR:=hid hR
 have HA:=hid ha
 have HTT:=hid hT
 have HTL:=hid (And.intro hTl hTs)
 have HPS:=hid (show (ms.map Mrk.pat).length≤1000000 by simp; omega)
 obtain ⟨Nm,hN⟩:∃ N,ms.length=N:=⟨_,rfl⟩
 have HN:=hid hN
 rw [hN]
 obtain ⟨ta,tc,rfl,hT2⟩:=id hT
 obtain ⟨Tn,hTn⟩:∃ N,T.length=N:=⟨_,rfl⟩
 have HTN:=hid hTn
 rw [hTn]
 clear hPP hR ha hms hlv hN hT hT2 hTl hTs hTn hl
 go_enter Tryz.func33,Tryz.ntmps33
 go_upto_region 1 with (fail)
 have H7:=hid (grow_new (xG _ (.cells #[.slice none 0 0,.string ⟨#[]⟩,.int .i64 0,.int .i64 0,.int .i64 0,.int .i64 0,.int .i64 0] 71) none) (xN w (.cells #[.int .i64 A,.int .i64 O,.string x] 68)))
 have H8:=hid (yhn (w.alloc (.cells #[.int .i64 A,.int .i64 O,.string x] 68)) (.cells #[.slice none 0 0,.string ⟨#[]⟩,.int .i64 0,.int .i64 0,.int .i64 0,.int .i64 0,.int .i64 0] 71) (w.heap.size+1) (by simp))
 have HG:=hid (yga (xG w (.cells #[.int .i64 A,.int .i64 O,.string x] 68) none) (.cells #[.slice none 0 0,.string ⟨#[]⟩,.int .i64 0,.int .i64 0,.int .i64 0,.int .i64 0,.int .i64 0] 71))
 have hB8:w.heap.size≤w.heap.size+1:=by omega
 obtain ⟨B8,hB⟩:∃ B,w.heap.size+1=B:=⟨_,rfl⟩
 rw [hB] at H8 hB8 ⊢
 have hB78:w.heap.size≠B8:=by omega
 clear hB
 obtain ⟨B7,hB7⟩:∃ B,w.heap.size=B:=⟨_,rfl⟩
 rw [hB7] at H7 hB78 ⊢
 have HB7:=hid hB7
 clear hB7
 generalize (w.alloc _).alloc _=w1 at H7 H8 HG ⊢
 have HC1:=hid (HCS.out w1 (by rcases HA.out with h | ⟨b,off,h1,h2⟩; exact .inl h; exact .inr ⟨b,off,h1,MrkAt.grow HG.out ms b off h2⟩))
 rw [HN.out] at HC1
 go_wp2_with fail
 refine HC1.out.mono ?_
 rintro e w2 ⟨g1,pv,rfl,hpv⟩
 have HPV:=hid hpv
 replace H7:=hid (grow_new g1 H7.out)
 replace H8:=hid (grow_new g1 H8.out)
 replace HG:=hid (xT HG.out g1)
 obtain ⟨c,hc⟩:∃ c,chk ms=c:=⟨_,rfl⟩
 have HCH:=hid hc
 rw [hc]
 clear hc hpv g1 HC1 HCS
 by_cases h0:c=0
 case neg =>
  have h1:(c == 0)=false:=by simpa using h0
  have HBAD:=hid (show R=.bad 0 c by rw [← HR.out,agM,if_pos (by rw [HCH.out]; exact h0),HCH.out])
  obtain ⟨z0,z1,z2,z3,z4,z5,z6⟩:=cb7 H8.out
  obtain ⟨f0,f1,f2,f3,f4,f5,f6⟩:=fb7 H8.out
  go_wp2_with fail
  obtain ⟨w9,e9,h8,HG9⟩:=store7z H8.out HG.out hB8
  rw [e9]
  clear e9
  clear z0 z1 z2 z3 z4 z5 z6 f0 f1 f2 f3 f4 f5 f6
  obtain ⟨k0,k1,k2,k3,k4,k5,k6⟩:=cb7 h8
  clear h8
  rw [← HPP.out]
  exact bodyPost_ret (v:=badV 0 c) (by simp [badV,results,Tryz.results33,go_sem,k0,k1,k2,k3,k4,k5,k6]) rfl (agBad HBAD.out HG9)
 subst h0
 obtain ⟨bm,hpv,hL,hM⟩:=HPV.out HCH.out
 subst hpv
 have HL:=hid hL
 have HM:=hid hM
 clear hL hM HPV
 have HSP:=hid (fun (s:ByteArray) (W:World) (hs:s.size≤1000000) (g:w2.grownBy W none)=>show Calls Tryz.prog 52 #[.pointer (some ⟨bm,0,none⟩),.slice av Nm cap,.string s] W (SplitAny (ms.map Mrk.pat) Ls ms s W) from by
  rw [← HN.out]
  refine split_any bm (ms.map Mrk.pat) Ls ms av cap s W hs HL.out HPS.out (by simp) (HM.out.grow g) ?_
  rcases HA.out with h | ⟨b,off,h1,h2⟩
  · exact .inl h
  · exact .inr ⟨b,off,h1,MrkAt.grow (xT HG.out g) ms b off h2⟩)
 have HGM:=hid (grow_self w2)
 clear HL HM HPS
 have HJ:=hid (joined_any T tail (.slice ta Tn tc) w2 (by have:=HTT.out.grow HG.out; rw [HTN.out] at this; exact this) HTL.out.1 HTL.out.2)
 obtain ⟨t,ht⟩:∃ t,(joinedM T tail).1=t:=⟨_,rfl⟩
 obtain ⟨je,hje⟩:∃ t,(joinedM T tail).2=t:=⟨_,rfl⟩
 have HTS:=hid (show t.size≤20000 by rw [← ht]; exact joinedM_size T tail)
 have HJT:=hid (And.intro ht hje)
 rw [ht,hje] at HJ
 clear ht hje
 go_wp2_with fail
 refine HJ.out.mono ?_
 rintro e w3 ⟨rfl,g3⟩
 replace H7:=hid (grow_new g3 H7.out)
 replace H8:=hid (grow_new g3 H8.out)
 replace HGM:=hid (xT HGM.out g3)
 replace HG:=hid (xT HG.out g3)
 clear g3 HJ
 by_cases h0:je=0
 case neg =>
  have h1:(je == 0)=false:=by simpa using h0
  have HBAD:=hid (show R=.bad 0 je by rw [← HR.out,agM,if_neg (by rw [HCH.out]; simp),if_pos (by rw [HJT.out.2]; exact h0),HJT.out.2])
  obtain ⟨z0,z1,z2,z3,z4,z5,z6⟩:=cb7 H8.out
  obtain ⟨f0,f1,f2,f3,f4,f5,f6⟩:=fb7 H8.out
  go_wp2_with fail
  obtain ⟨w9,e9,h8,HG9⟩:=store7z H8.out HG.out hB8
  rw [e9]
  clear e9
  clear z0 z1 z2 z3 z4 z5 z6 f0 f1 f2 f3 f4 f5 f6
  obtain ⟨k0,k1,k2,k3,k4,k5,k6⟩:=cb7 h8
  clear h8
  rw [← HPP.out]
  exact bodyPost_ret (v:=badV 0 je) (by simp [badV,results,Tryz.results33,go_sem,k0,k1,k2,k3,k4,k5,k6]) rfl (agBad HBAD.out HG9)
 subst h0
 replace HR:=hid (show agS ms Ls T tail A O x t (splitL (ms.map Mrk.pat) Ls ms t).2.1 (splitL (ms.map Mrk.pat) Ls ms t).2.2.1 (splitL (ms.map Mrk.pat) Ls ms t).2.2.2.1 (splitL (ms.map Mrk.pat) Ls ms t).2.2.2.2.2=R by rw [← HR.out,agM,if_neg (by rw [HCH.out]; simp),if_neg (by rw [HJT.out.2]; simp),HJT.out.1])
 clear HJT HCH
 go_wp2_with fail
 refine (HSP.out t w3 (by have:=HTS.out; omega) HGM.out).mono ?_
 rintro e w4 ⟨v1,v2,rfl,own1,own2,g4⟩
 replace H7:=hid (grow_new g4 H7.out)
 replace H8:=hid (grow_new g4 H8.out)
 replace HGM:=hid (xT HGM.out g4)
 replace HG:=hid (xT HG.out g4)
 have HSO:=hid (HSK.out t)
 have HO1:=hid own1
 have HO2:=hid own2
 clear own1 own2 g4
 generalize splitL (ms.map Mrk.pat) Ls ms t=p1 at HR HO1 HO2 HSO ⊢
 obtain ⟨q1,q2,q3,q4,q5,q6⟩:=p1
 replace HO1:Hid (w4.ownsRow w3.heap.size 43 4 v1 q2.length (pcCells q2)):=HO1
 replace HO2:Hid (w4.ownsRow w3.heap.size 66 3 v2 q3.length (tkCells q3)):=HO2
 obtain ⟨a1,n1,hv1⟩:=own_shape HO1.out
 subst hv1
 obtain ⟨a2,n2,hv2⟩:=own_shape HO2.out
 subst hv2
 simp only
 replace HSO:Hid (q6=0→q1=t∧SpOk ms Ls t q2 q3 q4):=HSO
 replace HR:Hid (agS ms Ls T tail A O x t q2 q3 q4 q6=R):=HR
 have HP1:=hid (pcAt_own HO1.out rfl)
 have HT1:=hid (tkAt_own HO2.out rfl)
 clear HO1 HO2
 obtain ⟨m2,hm2⟩:∃ n,q2.length=n:=⟨_,rfl⟩
 obtain ⟨m3,hm3⟩:∃ n,q3.length=n:=⟨_,rfl⟩
 have HM23:=hid (And.intro hm2 hm3)
 rw [hm2] at HP1 ⊢
 rw [hm3] at HT1 ⊢
 clear hm2 hm3
 go_upto_region 8 with (fail)
 have H14:=hid (xN w4 (.cells #[.string q1,.slice a1 m2 n1,.slice a2 m3 n2,.string q4] 107))
 have g5:=xG w4 (.cells #[.string q1,.slice a1 m2 n1,.slice a2 m3 n2,.string q4] 107) none
 replace H7:=hid (grow_new g5 H7.out)
 replace H8:=hid (grow_new g5 H8.out)
 replace HGM:=hid (xT HGM.out g5)
 replace HP1:=hid (HP1.out.grow g5)
 replace HT1:=hid (HT1.out.grow g5)
 replace HG:=hid (xT HG.out g5)
 clear g5
 generalize w4.alloc _=w5 at H7 H8 HGM HG H14 HP1 HT1 ⊢
 generalize w4.heap.size=B14 at H14 ⊢
 obtain ⟨y0,y1,y2,y3⟩:=cb4 H14.out
 by_cases h0:q6=0
 case neg =>
  have h1:((q6:Int) == 0)=false:=by simpa using h0
  have HBAD:=hid (show R=.bad 0 3 by rw [← HR.out,agS,if_pos h0])
  obtain ⟨z0,z1,z2,z3,z4,z5,z6⟩:=cb7 H8.out
  obtain ⟨f0,f1,f2,f3,f4,f5,f6⟩:=fb7 H8.out
  go_wp2_with fail
  obtain ⟨w9,e9,h8,HG9⟩:=store7z H8.out HG.out hB8
  rw [e9]
  clear e9
  clear z0 z1 z2 z3 z4 z5 z6 f0 f1 f2 f3 f4 f5 f6
  obtain ⟨k0,k1,k2,k3,k4,k5,k6⟩:=cb7 h8
  clear h8
  rw [← HPP.out]
  exact bodyPost_ret (v:=badV 0 3) (by simp [badV,results,Tryz.results33,go_sem,k0,k1,k2,k3,k4,k5,k6]) rfl (agBad HBAD.out HG9)
 subst h0
 obtain ⟨rfl,hsp⟩:=HSO.out rfl
 have HSPO:=hid hsp
 clear hsp
 clear HSO
 cases h1:(q4.toList == tail.toList) with
 | false =>
  have HBAD:=hid (show R=.bad 0 3 by rw [← HR.out,agS,if_neg (show ¬ (0:Nat)≠0 by simp),if_pos h1])
  obtain ⟨z0,z1,z2,z3,z4,z5,z6⟩:=cb7 H8.out
  obtain ⟨f0,f1,f2,f3,f4,f5,f6⟩:=fb7 H8.out
  go_wp2_with fail
  obtain ⟨w9,e9,h8,HG9⟩:=store7z H8.out HG.out hB8
  rw [e9]
  clear e9
  clear z0 z1 z2 z3 z4 z5 z6 f0 f1 f2 f3 f4 f5 f6
  obtain ⟨k0,k1,k2,k3,k4,k5,k6⟩:=cb7 h8
  clear h8
  rw [← HPP.out]
  exact bodyPost_ret (v:=badV 0 3) (by simp [badV,results,Tryz.results33,go_sem,k0,k1,k2,k3,k4,k5,k6]) rfl (agBad HBAD.out HG9)
 | true =>
 have HQ:=hid (equalTk_any q3 T (.slice a2 m3 n2) (.slice ta Tn tc) w5 (by have:=HSPO.out.len; omega) HT1.out (by have:=HTT.out.grow HG.out; rw [HTN.out] at this; exact this))
 obtain ⟨eq,heq⟩:∃ b,eqTk q3 T=b:=⟨_,rfl⟩
 have HEQ:=hid heq
 rw [heq] at HQ
 replace HR:=hid (show (if eq=false then AgR.bad 0 3 else if (replM q1 A O x).2≠0 then .bad 0 (replM q1 A O x).2 else agE ms q1 (replM q1 A O x).1 A.toNat x q2 q3 (spM ms Ls (replM q1 A O x).1).2.1 (spM ms Ls (replM q1 A O x).1).2.2.1 (spM ms Ls (replM q1 A O x).1).2.2.2.1 (spM ms Ls (replM q1 A O x).1).2.2.2.2.1 (spM ms Ls (replM q1 A O x).1).2.2.2.2.2)=R by
  rw [← HR.out,agS,if_neg (show ¬ (0:Nat)≠0 by simp),if_neg (show ¬ (q4.toList == tail.toList)=false by rw [h1]; simp),heq])
 clear heq
 go_wp2_with fail
 refine HQ.out.mono ?_
 rintro e w6 ⟨rfl,g6⟩
 clear h1 HQ y0 y1 y2 y3
 replace H7:=hid (grow_new g6 H7.out)
 replace H8:=hid (grow_new g6 H8.out)
 replace H14:=hid (grow_new g6 H14.out)
 replace HGM:=hid (xT HGM.out g6)
 replace HP1:=hid (HP1.out.grow g6)
 replace HT1:=hid (HT1.out.grow g6)
 replace HG:=hid (xT HG.out g6)
 clear g6
 cases eq with
 | false =>
  have HBAD:=hid (show R=.bad 0 3 by rw [← HR.out,if_pos rfl])
  obtain ⟨z0,z1,z2,z3,z4,z5,z6⟩:=cb7 H8.out
  obtain ⟨f0,f1,f2,f3,f4,f5,f6⟩:=fb7 H8.out
  go_wp2_with fail
  obtain ⟨w9,e9,h8,HG9⟩:=store7z H8.out HG.out hB8
  rw [e9]
  clear e9
  clear z0 z1 z2 z3 z4 z5 z6 f0 f1 f2 f3 f4 f5 f6
  obtain ⟨k0,k1,k2,k3,k4,k5,k6⟩:=cb7 h8
  clear h8
  rw [← HPP.out]
  exact bodyPost_ret (v:=badV 0 3) (by simp [badV,results,Tryz.results33,go_sem,k0,k1,k2,k3,k4,k5,k6]) rfl (agBad HBAD.out HG9)
 | true =>
 replace HR:=hid ((if_neg (by simp)).symm.trans HR.out)
 have HRP:=hid (replaced_any q1 A O x w6 (by have:=HSPO.out.sz; omega) (by omega) hA hO)
 have HRK:=hid (replM_ok q1 A O x)
 unfold ReplPost at HRP
 generalize hrp:replM q1 A O x=rp at HR HRP HRK
 have HRPE:=hid hrp
 clear hrp
 obtain ⟨s2,je⟩:=rp
 replace HR:Hid ((if je≠0 then AgR.bad 0 je else agE ms q1 s2 A.toNat x q2 q3 (spM ms Ls s2).2.1 (spM ms Ls s2).2.2.1 (spM ms Ls s2).2.2.2.1 (spM ms Ls s2).2.2.2.2.1 (spM ms Ls s2).2.2.2.2.2)=R):=HR
 replace HRP:Hid (Calls Tryz.prog 60 #[.string q1,.agg #[.int .i64 A,.int .i64 O,.string x]] w6 fun e w'=>e=.returned (.tuple #[.string s2,.int .i64 je])∧w6.grownBy w' none):=HRP
 replace HRK:Hid (je=0→0≤A∧A≤q1.size∧s2.size≤q1.size+x.size+q1.size):=HRK
 obtain ⟨e0,e1,e2⟩:=cb3 H7.out
 go_wp2_with fail
 refine HRP.out.mono ?_
 rintro e w7 ⟨rfl,g7⟩
 clear HRP e0 e1 e2
 replace H7:=hid (grow_new g7 H7.out)
 replace H8:=hid (grow_new g7 H8.out)
 replace H14:=hid (grow_new g7 H14.out)
 replace HGM:=hid (xT HGM.out g7)
 replace HP1:=hid (HP1.out.grow g7)
 replace HT1:=hid (HT1.out.grow g7)
 replace HG:=hid (xT HG.out g7)
 clear g7
 by_cases h0:je=0
 case neg =>
  have h1:(je == 0)=false:=by simpa using h0
  have HBAD:=hid (show R=.bad 0 je by rw [← HR.out,if_pos h0])
  obtain ⟨z0,z1,z2,z3,z4,z5,z6⟩:=cb7 H8.out
  obtain ⟨f0,f1,f2,f3,f4,f5,f6⟩:=fb7 H8.out
  go_wp2_with fail
  obtain ⟨w9,e9,h8,HG9⟩:=store7z H8.out HG.out hB8
  rw [e9]
  clear e9
  clear z0 z1 z2 z3 z4 z5 z6 f0 f1 f2 f3 f4 f5 f6
  obtain ⟨k0,k1,k2,k3,k4,k5,k6⟩:=cb7 h8
  clear h8
  rw [← HPP.out]
  exact bodyPost_ret (v:=badV 0 je) (by simp [badV,results,Tryz.results33,go_sem,k0,k1,k2,k3,k4,k5,k6]) rfl (agBad HBAD.out HG9)
 subst h0
 replace HR:=hid ((if_neg (by simp)).symm.trans HR.out)
 obtain ⟨ha0,haL,hs2⟩:=HRK.out rfl
 obtain ⟨a,rfl⟩:∃ a:Nat,A=a:=⟨A.toNat,by omega⟩
 replace HR:Hid (agE ms q1 s2 a x q2 q3 (splitL (ms.map Mrk.pat) Ls ms s2).2.1 (splitL (ms.map Mrk.pat) Ls ms s2).2.2.1 (splitL (ms.map Mrk.pat) Ls ms s2).2.2.2.1 (splitL (ms.map Mrk.pat) Ls ms s2).2.2.2.2.1 (splitL (ms.map Mrk.pat) Ls ms s2).2.2.2.2.2=R):=HR
 have HSP2:=hid (HSP.out s2 w7 (by have:=HSPO.out.sz; omega) HGM.out)
 have HSO:=hid (HSK.out s2)
 have hb8:=xL H8.out
 clear ha0 HRK HRPE HSK HSP HGM
 go_wp2_with fail
 refine HSP2.out.mono ?_
 rintro e w8 ⟨v1,v2,rfl,own1,own2,g8⟩
 replace H7:=hid (grow_new g8 H7.out)
 replace H8:=hid (grow_new g8 H8.out)
 replace H14:=hid (grow_new g8 H14.out)
 replace HP1:=hid (HP1.out.grow g8)
 replace HT1:=hid (HT1.out.grow g8)
 replace HG:=hid (xT HG.out g8)
 have HO1:=hid own1
 have HO2:=hid own2
 clear own1 own2 g8 HSP2
 generalize splitL (ms.map Mrk.pat) Ls ms s2=p1 at HR HO1 HO2 HSO ⊢
 obtain ⟨r1,r2,r3,r4,r5,r6⟩:=p1
 replace HO1:Hid (w8.ownsRow w7.heap.size 43 4 v1 r2.length (pcCells r2)):=HO1
 replace HO2:Hid (w8.ownsRow w7.heap.size 66 3 v2 r3.length (tkCells r3)):=HO2
 obtain ⟨a3,n3,hv1⟩:=own_shape HO1.out
 subst hv1
 obtain ⟨a4,n4,hv2⟩:=own_shape HO2.out
 subst hv2
 simp only
 have HGB:=hid (fun g o (h:a4=some ⟨g,o,none⟩)=>show B8<g from by
  subst h
  have:=(yob HO2.out g rfl).1
  omega)
 clear hb8
 replace HSO:Hid (r6=0→r1=s2∧SpOk ms Ls s2 r2 r3 r4):=HSO
 replace HR:Hid (agE ms q1 s2 a x q2 q3 r2 r3 r4 r5 r6=R):=HR
 have HP2:=hid (pcAt_own HO1.out rfl)
 have HT2:=hid (tkAt_own HO2.out rfl)
 clear HO1 HO2
 obtain ⟨m4,hm4⟩:∃ n,r2.length=n:=⟨_,rfl⟩
 obtain ⟨m5,hm5⟩:∃ n,r3.length=n:=⟨_,rfl⟩
 have HM45:=hid (And.intro hm4 hm5)
 rw [hm4] at HP2 ⊢
 rw [hm5] at HT2 ⊢
 clear hm4 hm5
 go_upto_region 14 with (fail)
 have H17:=hid (xN w8 (.cells #[.string r1,.slice a3 m4 n3,.slice a4 m5 n4,.string r4] 107))
 have g9:=xG w8 (.cells #[.string r1,.slice a3 m4 n3,.slice a4 m5 n4,.string r4] 107) none
 replace H7:=hid (grow_new g9 H7.out)
 replace H8:=hid (grow_new g9 H8.out)
 replace H14:=hid (grow_new g9 H14.out)
 replace HP1:=hid (HP1.out.grow g9)
 replace HT1:=hid (HT1.out.grow g9)
 replace HG:=hid (xT HG.out g9)
 replace HP2:=hid (HP2.out.grow g9)
 replace HT2:=hid (HT2.out.grow g9)
 clear g9
 generalize w8.alloc _=w9 at H7 H8 HG H14 H17 HP1 HT1 HP2 HT2 ⊢
 generalize w8.heap.size=B17 at H17 ⊢
 by_cases h0:r6=0
 case neg =>
  have h1:((r6:Int) == 0)=false:=by simpa using h0
  have HBAD:=hid (show R=.bad r5 r6 by rw [← HR.out,agE,if_pos h0])
  obtain ⟨z0,z1,z2,z3,z4,z5,z6⟩:=cb7 H8.out
  obtain ⟨f0,f1,f2,f3,f4,f5,f6⟩:=fb7 H8.out
  go_wp2_with fail
  obtain ⟨w9,e9,h8,HG9⟩:=store7z H8.out HG.out hB8
  rw [e9]
  clear e9
  clear z0 z1 z2 z3 z4 z5 z6 f0 f1 f2 f3 f4 f5 f6
  obtain ⟨k0,k1,k2,k3,k4,k5,k6⟩:=cb7 h8
  clear h8
  rw [← HPP.out]
  exact bodyPost_ret (v:=badV (r5:Nat) (r6:Nat)) (by simp [badV,results,Tryz.results33,go_sem,k0,k1,k2,k3,k4,k5,k6]) rfl (agBad HBAD.out HG9)
 subst h0
 obtain ⟨hr1,hsp⟩:=HSO.out rfl
 have HSPN:=hid hsp
 subst hr1
 clear hsp HSO
 replace HR:=hid (show agN ms q1 r1 a x q2 r2 q3 r3 r4=R by rw [← HR.out,agE,if_neg (show ¬ (0:Nat)≠0 by simp)])
 have HCMP:=hid (compared_any ms av cap q1 r1 q4 r4 x (.slice a1 m2 n1) (.slice a3 m4 n3) (.slice a2 m3 n2) (.slice a4 m5 n4) q2 r2 q3 r3 a O w9 (by have:=HSPO.out.sz; omega) (by have:=HSPN.out.sz; omega) (by omega) (by have:=HSPO.out.sz; omega)
  (by rcases HA.out with h | ⟨b, off, h1, h2⟩
      · exact .inl h
      · exact .inr ⟨b,off,h1,MrkAt.grow HG.out ms b off h2⟩) HP1.out HP2.out HT1.out HT2.out (by have:=HSPO.out.pl; have:=HSPO.out.sz; omega) (by have:=HSPN.out.pl; have:=HSPN.out.sz; omega) (by have:=HSPO.out.len; omega) (by have:=HSPN.out.len; omega)
  (fun y hy=>by have:=(HSPO.out.pcs y hy).1; omega) (fun y hy=>by have h3:=HSPN.out.pcs y hy; have:=HSPN.out.sz; exact ⟨by omega,by omega,by omega,h3.2.2.2⟩) HSPO.out.sum HSPN.out.sum)
 rw [HN.out] at HCMP
 unfold agN at HR
 obtain ⟨FM,AH,hfa⟩:∃ f k,aheadL ms a r2 0 0=(f,k):=⟨_,_,rfl⟩
 rw [hfa] at HR HCMP
 simp only at HR HCMP
 generalize meetL q1.size r1.size (atsL q2) (a+x.size) r2=TM at HR HCMP
 generalize foundL FM TM r2 0=FO at HR HCMP
 generalize behindL q1.size r1.size TM (beginsL q3 0) (beginsL r3 0) 0=BE at HR HCMP
 clear hfa
 obtain ⟨y0,y1,y2,y3⟩:=cb4 H14.out
 obtain ⟨x0,x1,x2,x3⟩:=cb4 H17.out
 obtain ⟨e0,e1,e2⟩:=cb3 H7.out
 clear HP1 HT1 HP2 HSPO HSPN
 go_wp2_with fail
 refine HCMP.out.mono ?_
 rintro e wa ⟨rfl,ga⟩
 clear y0 y1 y2 y3 x0 x1 x2 x3 e0 e1 e2 HCMP
 replace H8:=hid (grow_new ga H8.out)
 replace HT2:=hid (HT2.out.grow ga)
 replace HG:=hid (xT HG.out ga)
 clear ga
 obtain ⟨z0,z1,z2,z3,z4,z5,z6⟩:=cb7 H8.out
 obtain ⟨f0,f1,f2,f3,f4,f5,f6⟩:=fb7 H8.out
 go_wp2_with fail
 have h8:=store7 H8.out HG.out hB8 (.slice a4 m5 n4) (.string r4) (.int .i64 (AH:Nat)) (.int .i64 (BE:Nat)) (.int .i64 (FM:Nat)) (.int .i64 (TM:Nat)) (.int .i64 (FO:Nat))
 generalize (((((((wa.setCell ⟨B8,0,none⟩ (.slice a4 m5 n4)).setCell ⟨B8,1,none⟩ (.string r4)).setCell ⟨B8,2,none⟩ (.int .i64 (AH:Nat))).setCell ⟨B8,3,none⟩ (.int .i64 (BE:Nat))).setCell ⟨B8,4,none⟩ (.int .i64 (FM:Nat))).setCell ⟨B8,5,none⟩ (.int .i64 (TM:Nat))).setCell ⟨B8,6,none⟩ (.int .i64 (FO:Nat)))=w9 at h8 ⊢
 clear z0 z1 z2 z3 z4 z5 z6 f0 f1 f2 f3 f4 f5 f6
 obtain ⟨k0,k1,k2,k3,k4,k5,k6⟩:=cb7 h8.1
 have HG9:=hid h8.2.1
 have HTF:=hid (tkAt_kept HT2.out HGB.out h8.2.2)
 clear h8
 rw [← HPP.out]
 exact bodyPost_ret (v:=.tuple #[.agg #[.slice a4 m5 n4,.string r4,.int .i64 (AH:Nat),.int .i64 (BE:Nat),.int .i64 (FM:Nat),.int .i64 (TM:Nat),.int .i64 (FO:Nat)],.int .i64 0,.int .i64 0]) (by simp [results,Tryz.results33,go_sem,k0,k1,k2,k3,k4,k5,k6]) rfl ⟨.slice a4 m5 n4,by rw [← HR.out],by rw [← HR.out]; exact HTF.out,HG9.out⟩
end Go.Proofs.YtplbacfjmajeeaaGreatDoor
