import Derived.Test.YtplbacfjmajeeaaGreatDoorJ38
import Derived.Test.YtplbacfjmajeeaaGreatDoorJ42
namespace Go.Proofs.YtplbacfjmajeeaaGreatDoor
open Go.Lib (hid)
set_option maxHeartbeats 4000000
set_option maxRecDepth 100000
open Go.RowKit
theorem ba_app (l t:ByteArray):(l++t).data.toList=l.data.toList++t.data.toList:=by rw [ByteArray.data_append,Array.toList_append]
theorem str_app (l:List UInt8) (t:ByteArray):(⟨(l++t.data.toList).toArray⟩:ByteArray)=⟨l.toArray⟩++t:=by
 apply ByteArray.ext; rw [ByteArray.data_append]; simp
theorem joinedOf_any (T:List Tk) (tail:ByteArray) (v:Value) (w:World) (hT:TkAt w v T) (hn:T.length≤1000000) (hs:tail.size+tkSum T≤1000000) :
 Calls Tryz.prog 29 #[v,.string tail] w fun e w'=>e=.returned (.tuple #[.string (joinedM T tail).1,.int .i64 (joinedM T tail).2])∧w.grownBy w' none:=by
 have HT:=hid hT
 obtain ⟨av,cap,rfl,hel⟩:=hT
 have HEL:=hid hel
 clear hel
 obtain ⟨P,hP⟩:∃ P:Ending→World→Prop,(fun e w'=>e=.returned (.tuple #[.string (joinedM T tail).1,.int .i64 (joinedM T tail).2])∧w.grownBy w' none)=P:=⟨_,rfl⟩
 rw [hP]
 have HP:=hid hP
 have HS:=hid hs
 obtain ⟨N,hN⟩:∃ N,T.length=N:=⟨_,rfl⟩
 have HN:=hid hN
 rw [hN] at hn ⊢
 clear hP hN hs
 by_cases h1:2000<N
 · have h1i:(2000:Int)<N:=by omega
   have HJ:=hid (show joinedM T tail=(⟨#[]⟩,2) by rw [joinedM,HN.out,if_pos h1])
   clear h1
   go_enter Tryz.func29,Tryz.ntmps29
   go_wp2_with fail
   rw [← HP.out]
   first | exact ⟨by rw [HJ.out]; rfl,grow_self w⟩ | (go_ret2; exact ⟨by rw [HJ.out]; rfl,grow_self w⟩)
 · have h1i:¬ (2000:Int)<N:=by omega
   have HJ:=hid (show joinedM T tail=if 20000<tail.size+tkSum T then (⟨#[]⟩,2) else (⟨(tkText T++tail.data.toList).toArray⟩,0) by rw [joinedM,HN.out,if_neg h1])
   clear h1
   go_enter Tryz.func29,Tryz.ntmps29
   go_wp2_with fail
   go_loopw [6,19] (fun c i wr=>∃ (j k:Nat),j≤N∧i=.int .i64 j∧c=.int .i64 k∧k≤1000000∧Hid (k+tkSum (T.drop j)=tail.size+tkSum T)∧Hid (w.grownBy wr none)) (fun _ i _=>N-(intOf i).toNat)
   case atStart=>exact ⟨0,tail.size,Nat.zero_le _,rfl,rfl,by have:=HS.out; omega,hid (by simp),hid (grow_self w)⟩
   case round =>
    obtain ⟨j,k,hj,rfl,rfl,hk,HE,HG⟩:=hrel
    by_cases hlt:j<N
    · have hjT:j<T.length:=by rw [HN.out]; exact hlt
      obtain ⟨g,o,rfl,d0,d1,d2⟩:=tk_elem HEL.out j hjT
      have hE:=HE.out
      rw [List.drop_eq_getElem_cons hjT,tkSum] at hE
      obtain ⟨⟨kk,l,t⟩,hx⟩:∃ x,T[j]=x:=⟨_,rfl⟩
      rw [hx] at hE d0 d1 d2
      simp only at hE d0 d1 d2
      replace d0:=ycg d0 HG.out
      replace d1:=ycg d1 HG.out
      replace d2:=ycg d2 HG.out
      have HE2:=hid (show (k+(l.size+t.size))+tkSum (T.drop (j+1))=tail.size+tkSum T by omega)
      have hk2:k+(l.size+t.size)≤1000000:=by have:=HS.out; omega
      have hl:l.size≤1000000:=by omega
      have ht:t.size≤1000000:=by omega
      have HG2:=hid (yga HG.out (.cells #[.string kk,.string l,.string t] 66))
      clear hx hE HE hjT
      by_cases h3:20000<k+(l.size+t.size)
      · have h3i:(20000:Int)<(k:Int)+((l.size:Int)+(t.size:Int)):=by omega
        have HJ3:=hid (show joinedM T tail=(⟨#[]⟩,2) by rw [HJ.out,if_pos (by have:=HE2.out; omega)])
        clear h3
        go_wp2_with fail
        rw [← HP.out]
        first | exact ⟨by rw [HJ3.out]; rfl,HG2.out⟩ | (go_ret2; exact ⟨by rw [HJ3.out]; rfl,HG2.out⟩)
      · have h3i:¬ (20000:Int)<(k:Int)+((l.size:Int)+(t.size:Int)):=by omega
        clear h3
        go_wp2_with fail
        go_roundw
        case rel=>exact ⟨j+1,k+(l.size+t.size),by omega,by go_num,by go_num,hk2,HE2,HG2⟩
        case measure=>simp [intOf]; omega
    · obtain rfl:N=j:=by omega
      have HE2:=hid (show k=tail.size+tkSum T by have:=HE.out; rw [← HN.out,List.drop_length,tkSum] at this; omega)
      clear HE
      obtain ⟨wo,rfl⟩:∃ v:World,v=wr:=⟨_,rfl⟩
      by_cases h2:20000<k
      · have h2i:(20000:Int)<k:=by omega
        have HJ2:=hid (show joinedM T tail=(⟨#[]⟩,2) by rw [HJ.out,← HE2.out,if_pos h2])
        clear h2
        go_wp2_with fail
        rw [← HP.out]
        first | exact ⟨by rw [HJ2.out]; rfl,HG.out⟩ | (go_ret2; exact ⟨by rw [HJ2.out]; rfl,HG.out⟩)
      · have h2i:¬ (20000:Int)<k:=by omega
        have HJ2:=hid (show joinedM T tail=(⟨(tkText T++tail.data.toList).toArray⟩,0) by rw [HJ.out,← HE2.out,if_neg h2])
        have hbig:tail.size+tkSum T≤20000:=by rw [← HE2.out]; omega
        have HBIG:=hid hbig
        clear h2 hbig HJ HE2
        have B0:=hid (show Bld wo.heap.size wo.heap.size [] _ from Lib.fresh_isBuilder 113 5 wo)
        have G0:=hid (yga HG.out (.cells #[.pointer none,.slice none 0 0] 113))
        have hwo:=HG.out.size
        have hs0:wo.heap.size<(wo.alloc (.cells #[.pointer none,.slice none 0 0] 113)).heap.size:=by simp
        go_upto_region 14 with (fail)
        generalize wo.alloc _=w3 at B0 G0 hs0 ⊢
        generalize wo.heap.size=B at B0 hwo hs0 ⊢
        clear HG
        go_wp2_with fail
        go_loopw [39] (fun i wr=>∃ (j:Nat) (acc:List UInt8),j≤N∧i=.int .i64 j∧B<wr.heap.size∧acc.length≤20000∧Hid (acc++tkText (T.drop j)=tkText T)∧Hid (Bld B B acc wr)∧Hid (w.grownBy wr none)) (fun i _=>N-(intOf i).toNat)
        case atStart=>exact ⟨0,[],Nat.zero_le _,rfl,hs0,by simp,hid (by simp),B0,G0⟩
        case round =>
         obtain ⟨j,acc,hj,rfl,hbs,hacc,HE,HB,HG⟩:=hrel
         by_cases hlt:j<N
         · have hjT:j<T.length:=by rw [HN.out]; exact hlt
           obtain ⟨g,o,rfl,d0,d1,d2⟩:=tk_elem HEL.out j hjT
           have hE:=HE.out
           rw [List.drop_eq_getElem_cons hjT,tkText] at hE
           obtain ⟨⟨kk,l,t⟩,hx⟩:∃ x,T[j]=x:=⟨_,rfl⟩
           rw [hx] at hE d0 d1 d2
           simp only at hE d0 d1 d2
           replace d0:=ycg d0 HG.out
           replace d1:=ycg d1 HG.out
           replace d2:=ycg d2 HG.out
           have hlen:=congrArg List.length hE
           simp only [List.length_append,tkText_len,Array.length_toList] at hlen
           have hbg:=HBIG.out
           change acc.length+(l.size+t.size+tkSum (T.drop (j+1)))=tkSum T at hlen
           have HE2:=hid (show (acc++l.data.toList++t.data.toList)++tkText (T.drop (j+1))=tkText T by rw [← hE]; simp)
           have hal:acc.length+l.size+t.size≤20000:=by omega
           have HB1:=hid (HB.out.grown (xG wr (.cells #[.string kk,.string l,.string t] 66) none))
           have HG1:=hid (yga HG.out (.cells #[.string kk,.string l,.string t] 66))
           have hF:=xN wr (.cells #[.string kk,.string l,.string t] 66)
           have hbs0:=hbs
           have hbs1:B<(wr.alloc (.cells #[.string kk,.string l,.string t] 66)).heap.size:=by simp; omega
           clear hx hE HE hjT HB HG hlen hbg
           go_upto_region 17 with (fail)
           generalize wr.alloc _=w4 at HB1 HG1 hF hbs1 ⊢
           have hblt:=hbs0
           generalize wr.heap.size=f at hF hblt ⊢
           have x1:=xC hF 1
           have x2:=xC hF 2
           simp only [xGe,xGz,xGs] at x1 x2
           have HFB:=hid hF
           clear d0 d1 d2 hF
           go_wp2_with fail
           refine (writeString_any B B acc (l++t) w4 HB1.out (by rw [ByteArray.size_append]; omega) (Nat.le_of_lt hbs1)).mono ?_
           rintro e w6 ⟨rfl,b6,F6⟩
           have HB6:=hid b6
           have HG6:=hid (grown_of_bld HG1.out F6 hwo hwo)
           have hbs6:B<w6.heap.size:=Nat.lt_of_lt_of_le hbs1 F6.size
           clear b6 F6 HB1 HG1 x1 x2
           go_wp2_with fail
           go_roundw
           case rel=>exact ⟨j+1,acc++(l++t).data.toList,by omega,by go_num,hbs6,by rw [ba_app]; simp only [List.length_append,Array.length_toList]; change acc.length+(l.size+t.size)≤_; omega,hid (by rw [ba_app,← List.append_assoc]; exact HE2.out),hid (.inr HB6.out),HG6⟩
           case measure=>simp [intOf]; omega
         · have hjN:j=N:=by omega
           have HE2:=hid (show acc=tkText T by have:=HE.out; rw [hjN,← HN.out,List.drop_length] at this; simpa [tkText] using this)
           clear HE
           have hbg:=HBIG.out
           go_wp2_with fail
           refine (Tryz.Builder_String_any B B acc wr HB.out (Nat.le_of_lt hbs)).mono ?_
           rintro e w6 ⟨rfl,hb6⟩
           have HG6:Hid (w.grownBy w6 none):=hid (grow_below HG.out (Below.mono hb6 hwo))
           clear hb6
           go_wp2_with fail
           rw [← HP.out]
           first | exact ⟨by rw [HJ2.out,HE2.out,str_app]; rfl,HG6.out⟩ | (go_ret2; exact ⟨by rw [HJ2.out,HE2.out,str_app],HG6.out⟩)
open Go.RowKit Go.Region Go.Maps
def AgC : Prop := ∀ (ms : List Mrk) (av : Option Addr) (cap : Nat) (T : List Tk) (tail : ByteArray) (tv : Value) (A O : Int) (x : ByteArray) (w : World), chk ms = 0 → ylL (ms.map Mrk.pat) ≤ 64 → sizes (ms.map Mrk.pat) ≤ 500 →
    (ms=[]∨∃ b off,av=some ⟨b,off,none⟩∧MrkAt w ms b off)→TkAt w tv T→T.length≤1000000→tail.size+tkSum T≤1000000→x.size≤100000→(-1000000≤A∧A≤2000000)→(-1000000≤O∧O≤2000000) →
    Calls Tryz.prog 34 #[.slice av ms.length cap,tv,.string tail,.agg #[.int .i64 A,.int .i64 O,.string x]] w (AgPost (agM ms (setsM ms) T tail A O x) w)
theorem agM_len (ms:List Mrk) (T:List Tk) (tail:ByteArray) (A O:Int) (x:ByteArray):(agM ms (setsM ms) T tail A O x).tk.length≤1000000:=by
 unfold agM
 split
 · exact Nat.zero_le _
 · split
   · exact Nat.zero_le _
   · unfold agS
     split
     · exact Nat.zero_le _
     · split
       · exact Nat.zero_le _
       · split
         · exact Nat.zero_le _
         · split
           · exact Nat.zero_le _
           · unfold agE
             split
             · exact Nat.zero_le _
             · rename_i h
               have hk:=splitL_ok ms (replM (joinedM T tail).1 A O x).1 (by simpa using h)
               exact Nat.le_trans hk.2.len (by decide)
theorem tk_box {W W':World} {B:Nat} {e:ByteArray} {i2 i3 i4 i5 i6:Int} {v:Value} {T:List Tk} (h:TkAt W v T) (hb:W.heap[B]? = some (.cells #[.slice none 0 0,.string e,.int .i64 i2,.int .i64 i3,.int .i64 i4,.int .i64 i5,.int .i64 i6] 71 (0,0))) (hk:∀ g o,g≠B→W'.cell? ⟨g,o,none⟩=W.cell? ⟨g,o,none⟩):TkAt W' v T:=by
 obtain ⟨a,c,rfl,h⟩:=h
 refine ⟨a,c,rfl,?_⟩
 rcases h with h | ⟨g,o,ea,h⟩
 · exact .inl h
 · by_cases ht:T=[]
   · exact .inl ht
   · refine .inr ⟨g,o,ea,?_⟩
     have hg:g≠B:=by
      rintro rfl
      obtain ⟨x,r,rfl⟩:=List.exists_cons_of_ne_nil ht
      have c0:=h 0 (.string x.1) rfl
      have c1:=h 1 (.string x.2.1) rfl
      rw [xC hb] at c0 c1
      match o with
      | 0=>simp at c0
      | 1=>simp at c1
      | 2=>simp at c0
      | 3=>simp at c0
      | 4=>simp at c0
      | 5=>simp at c0
      | 6=>simp at c0
      | o+7=>simp at c0
     exact fun j u hj=>by rw [hk g _ hg]; exact h j u hj
theorem sto_none5 {b av cap xs w w' k} (h:Sto b av cap xs w w' k) {w0:World} (g:w0.grownBy w none) (hb:w0.heap.size≤b):w0.grownBy w' none :=
 ⟨h.grow.os.trans g.os,h.grow.tape.trans g.tape,h.grow.output.trans g.output,Nat.le_trans g.size h.grow.size,fun k hk hn =>
  (h.grow.block k (Nat.lt_of_lt_of_le hk g.size) (by simp; omega)).trans (g.block k hk hn)⟩
structure LawA (B:Nat) (ms:List Mrk) (M:Value) (T:List Tk) (tv:Value) (tail:ByteArray) (F:Int→Int→ByteArray→AgR) (c:Int):Prop where
 flt:∀ W,MksF B ms M W→Calls Tryz.prog 23 #[M] W fun e w'=>e=.returned (.int .i64 c)∧W.grownBy w' none
 ag:∀ W A O x,x.size≤4→(-1000000≤A∧A≤2000000)→(-1000000≤O∧O≤2000000)→MksF B ms M W→TkAt W tv T→Calls Tryz.prog 33 #[M,tv,.string tail,.agg #[.int .i64 A,.int .i64 O,.string x]] W (AgPost (F A O x) W)
 ra:c=0→∀ W A O x,x.size≤4→(-1000000≤A∧A≤2000000)→(-1000000≤O∧O≤2000000)→MksF B ms M W→TkAt W tv T→Calls Tryz.prog 34 #[M,tv,.string tail,.agg #[.int .i64 A,.int .i64 O,.string x]] W (AgPost (F A O x) W)
 bad:c≠0→∀ A O x,F A O x=.bad 0 c
 len:∀ A O x,(F A O x).tk.length≤1000000
theorem lawA (HAC:AgC) (B:Nat) (ms:List Mrk) (mv:Option Addr) (mc:Nat) (T:List Tk) (tv:Value) (tail:ByteArray) (hN:MrkN ms 12 41 406) (hTl:T.length≤2000) (hTs:tkSum T+tail.size≤100):∃ F c,LawA B ms (.slice mv ms.length mc) T tv tail F c:=by
 have hms:∀ m∈ms,m.pat.size≤1000∧m.kind.size≤1000000:=fun m hm=>⟨by have:=mSz_mem ms m hm; have:=hN.sz; omega,by have:=hN.kd m hm; omega⟩
 have hl:ms.length≤1000:=by have:=hN.len; omega
 have hlv:ylL (ms.map Mrk.pat)≤64:=by have:ylL (ms.map Mrk.pat)≤41:=hN.lv; omega
 have hsz:sizes (ms.map Mrk.pat)≤500:=by have:sizes (ms.map Mrk.pat)≤406:=hN.sz; omega
 refine ⟨fun A O x=>agM ms (setsM ms) T tail A O x,chk ms,⟨?_,?_,?_,?_,?_⟩⟩
 · intro W h
   exact refMarks_any ms mv mc W hms hl hlv hsz h.arg
 · intro W A O x h1 h2 h3 h4 h5
   exact again_any ms mv mc T tail tv A O x W hms hl hlv h4.arg h5 (by omega) (by omega) (by omega) h2 h3
 · intro hc W A O x h1 h2 h3 h4 h5
   exact HAC ms mv mc T tail tv A O x W hc hlv hsz h4.arg h5 (by omega) (by omega) (by omega) h2 h3
 · intro hc A O x
   exact if_pos hc
 · intro A O x
   exact agM_len ms T tail A O x
structure SaM (w:World) (ms:List Mrk) (M:Value) (T:List Tk) (tv:Value) (W:World):Prop where
 mr:MksF (w.heap.size+1) ms M W
 tr:TkAt W tv T
 gr:w.grownBy W none
theorem SaM.grow {w:World} {ms:List Mrk} {M:Value} {T:List Tk} {tv:Value} {W W':World} (h:SaM w ms M T tv W) (g:W.grownBy W' none):SaM w ms M T tv W' :=
 ⟨h.mr.keep g (fun r hr=>by cases hr),h.tr.grow g,xT h.gr g⟩
theorem splitAgain_any (HAC:AgC) (HPat:PatHas 48) (av:Option Addr) (cap:Nat) (xs:List Int) (w:World) (hx2:xs.length≤9223372036854775807)
 (hel:∀ j,j<xs.length→∃ bl off,av=some ⟨bl,off,none⟩∧w.cell? ⟨bl,off+j,none⟩=some (.int .i64 (xs.getD j 0))) :
 Calls Tryz.prog 5 #[.slice av xs.length cap] w fun e w'=>e=.returned (.bool true)∧w.grownBy w' none:=by
 have S0:Strm w.heap.size av cap xs (w.alloc (.cells #[.slice av xs.length cap,.int .i64 0] 25)) 0:=by
  refine ⟨xN w _,fun j hj=>?_⟩
  obtain ⟨bl,off,e,hc⟩:=hel j hj
  have:=World.block_lt_of_cell? w _ hc
  exact ⟨bl,off,e,by simp at this; omega,World.grownBy.cell (xG w _ none) hc (by simp)⟩
 have G0:=xG w (.cells #[.slice av xs.length cap,.int .i64 0] 25) none
 have HPT:=hid HPat
 replace HAC:=hid HAC
 clear hel HPat
 go_enter Tryz.func5,Tryz.ntmps5
 go_wp2_with fail
 generalize w.alloc _=w0 at S0 G0 ⊢
 have hb0:=S0.lt
 refine (marks_any (by omega) hx2 HPT.out S0).mono ?_
 rintro e w1 ⟨ms,lv,k1,rfl,HF,HN,hk1,T1⟩
 have HF1:=hid (HF.mono (show w.heap.size+1≤w0.heap.size+1 by omega))
 obtain ⟨mv,mc,rfl,_⟩:=HF.form
 have HT1:=hid T1
 have HG1:=hid (sto_none5 T1 G0 (Nat.le_refl _))
 have HNN:=hid HN
 have hw1:w.heap.size+1≤w1.heap.size:=by have:=T1.strm.lt; omega
 clear S0 G0 HF HN T1 HPT
 go_wp2_with fail
 refine (tokenList_any (show k1≤100000 by omega) hx2 (show w.heap.size<w.heap.size+1 by omega) HF1.out HNN.out HT1.out.strm).mono ?_
 rintro e w2 ⟨T,tv,tail,k2,rfl,own2,hTl,hTs,hk2,T2⟩
 have HS2:=hid (show SaM w ms (.slice mv ms.length mc) T tv w2 from ⟨HF1.out.keep T2.grow (fun r hr=>by have:w.heap.size=r:=(by simpa using hr); omega),tkAt_own own2 rfl,sto_none5 T2 HG1.out (Nat.le_refl _)⟩)
 have HO2:=hid (own_mono own2 (show w.heap.size+1≤w1.heap.size by omega))
 have HT2:=hid T2.strm
 have hb2:=T2.strm.lt
 clear T2 own2 HT1 HF1 HG1
 obtain ⟨F,c,hLA⟩:=lawA HAC.out (w.heap.size+1) ms mv mc T tv tail HNN.out hTl hTs
 have HLA:=hid hLA
 clear hLA HAC HNN
 obtain ⟨M,hM⟩:∃ M:Value,.slice mv ms.length mc=M:=⟨_,rfl⟩
 rw [hM] at HLA HS2 ⊢
 clear hM
 have HJ:=hid (fun (W:World) (h:TkAt W tv T)=>joinedOf_any T tail tv W h (by omega) (by omega))
 have hjs:=joinedM_size T tail
 obtain ⟨j,hj⟩:∃ j,joinedM T tail=j:=⟨_,rfl⟩
 rw [hj] at HJ hjs
 clear hj
 obtain ⟨j1,j2⟩:=j
 replace hjs:j1.size≤20000:=hjs
 go_wp2_with fail
 refine (HJ.out w2 HS2.out.tr).mono ?_
 rintro e w3 ⟨rfl,g3⟩
 have HS3:=hid (HS2.out.grow g3)
 have HT3:=hid (HT2.out.grown g3 (by simp) (fun _ _=>by simp))
 have HO3:=hid (own_grownN HO2.out g3 (fun r hr=>by cases hr))
 clear g3 HS2 HT2 HJ HO2
 simp only
 go_wp2_with fail
 refine (anEdit_any ((j1.size:Nat):Int) ⟨by omega,by omega⟩ (show k2≤1000000000 by omega) hx2 HT3.out).mono ?_
 rintro e w4 ⟨rfl,T4⟩
 have HBD:=hid (anEdit_bd xs k2 ((j1.size:Nat):Int) ⟨by omega,by omega⟩)
 have HS4:=hid (show SaM w ms M T tv w4 from ⟨HS3.out.mr.keep T4.grow (fun r hr=>by have:w.heap.size=r:=(by simpa using hr); omega),tkAt_own (own_grownN HO3.out T4.grow (fun r hr=>by have:w.heap.size=r:=(by simpa using hr); omega)) rfl,sto_none5 T4 HS3.out.gr (Nat.le_refl _)⟩)
 clear T4 HS3 HT3 HO3
 generalize anEditV xs k2 ((j1.size:Nat):Int)=ed at HBD ⊢
 obtain ⟨A,O,x⟩:=ed
 have HR1:=hid (fun W=>HLA.out.ag W A O x HBD.out.1 HBD.out.2.1 HBD.out.2.2)
 have HR2:=hid (fun h W=>HLA.out.ra h W A O x HBD.out.1 HBD.out.2.1 HBD.out.2.2)
 have HB:=hid (fun h=>HLA.out.bad h A O x)
 have HLN:=hid (HLA.out.len A O x)
 have HFL:=hid HLA.out.flt
 clear HLA HBD
 generalize F A O x=R at HR1 HR2 HB HLN
 clear F
 go_wp2_with fail
 have H9:=hid (xN w4 (.cells #[.int .i64 A,.int .i64 O,.string x] 68))
 have HS5:=hid (HS4.out.grow (xG w4 (.cells #[.int .i64 A,.int .i64 O,.string x] 68) none))
 clear HS4
 generalize w4.alloc _=w5 at H9 HS5 ⊢
 generalize w4.heap.size=b9 at H9 ⊢
 obtain ⟨tk,tl,ah,be,fm,tm,fo,ai,er⟩:=R
 refine (HR1.out w5 HS5.out.mr HS5.out.tr).mono ?_
 rintro e w6 ⟨v,rfl,tk6,g6⟩
 have HV6:=hid (show TkAt w6 v tk from tk6)
 obtain ⟨va,vc,rfl,_⟩:=id tk6
 simp only
 obtain ⟨m,hm⟩:∃ m,tk.length=m:=⟨_,rfl⟩
 rw [hm] at HV6 ⊢
 have HM:=hid hm
 clear hm
 have H96:=hid (grow_new g6 H9.out)
 have HS6:=hid (HS5.out.grow g6)
 clear tk6 g6 H9 HS5 HR1
 obtain ⟨ahi,hah⟩:∃ z:Int,((ah:Nat):Int)=z:=⟨_,rfl⟩
 obtain ⟨bei,hbe⟩:∃ z:Int,((be:Nat):Int)=z:=⟨_,rfl⟩
 obtain ⟨fmi,hfm⟩:∃ z:Int,((fm:Nat):Int)=z:=⟨_,rfl⟩
 obtain ⟨tmi,htm⟩:∃ z:Int,((tm:Nat):Int)=z:=⟨_,rfl⟩
 obtain ⟨foi,hfo⟩:∃ z:Int,((fo:Nat):Int)=z:=⟨_,rfl⟩
 rw [hah,hbe,hfm,htm,hfo]
 have HZI:=hid (And.intro hah (And.intro hbe (And.intro hfm (And.intro htm hfo))))
 clear hah hbe hfm htm hfo
 go_wp2_with fail
 have H10:=hid (xN w6 (.cells #[.slice va m vc,.string tl,.int .i64 ahi,.int .i64 bei,.int .i64 fmi,.int .i64 tmi,.int .i64 foi] 71))
 have G7:=xG w6 (.cells #[.slice va m vc,.string tl,.int .i64 ahi,.int .i64 bei,.int .i64 fmi,.int .i64 tmi,.int .i64 foi] 71) none
 have H97:=hid (grow_new G7 H96.out)
 have HS7:=hid (HS6.out.grow G7)
 have HV7:=hid (HV6.out.grow G7)
 clear HS6 HV6 H96 G7
 generalize w6.alloc _=w7 at H10 H97 HS7 HV7 ⊢
 generalize w6.heap.size=b10 at H10 ⊢
 refine (HFL.out w7 HS7.out.mr).mono ?_
 rintro e w8 ⟨rfl,g8⟩
 have HS8:=hid (HS7.out.grow g8)
 have HV8:=hid (HV7.out.grow g8)
 have HX8:=hid (And.intro (grow_new g8 H97.out) (grow_new g8 H10.out))
 clear HS7 HV7 H97 H10 g8 HFL
 go_upto_if 50 with (fail)
 have H14:=hid (xN w8 (.cells #[.slice none 0 0,.string ⟨#[]⟩,.int .i64 0,.int .i64 0,.int .i64 0,.int .i64 0,.int .i64 0] 71))
 have G9:=hid (xG w8 (.cells #[.slice none 0 0,.string ⟨#[]⟩,.int .i64 0,.int .i64 0,.int .i64 0,.int .i64 0,.int .i64 0] 71) none)
 have HB14:=hid (Nat.le_refl w8.heap.size)
 have HX9:=hid (And.intro (grow_new G9.out HX8.out.1) (grow_new G9.out HX8.out.2))
 have HS9:=hid (HS8.out.grow G9.out)
 generalize w8.alloc _=w9 at H14 G9 HX9 HS9 ⊢
 generalize hB:w8.heap.size=B at H14 ⊢
 replace HB14:=hid (show w8.heap.size≤B by omega)
 clear hB
 go_cut [15,13] (fun u q wx=>u=.int .i64 ai∧q=.int .i64 er∧∃ xa xc,Hid (wx.heap[B]? = some (.cells #[.slice xa m xc,.string tl,.int .i64 ahi,.int .i64 bei,.int .i64 fmi,.int .i64 tmi,.int .i64 foi] 71 (0,0)))∧Hid (TkAt wx (.slice xa m xc) tk)∧Hid (w8.grownBy wx none))
 case first =>
  as_aux_lemma =>
   by_cases hz:c=0
   · subst hz
     rw [show ((0:Int) == 0)=true from rfl]
     replace HR2:=hid (HR2.out rfl w9 HS9.out.mr HS9.out.tr)
     clear HB
     obtain ⟨c0,c1,c2⟩:=cb3 HX9.out.1
     go_wp2_with fail
     refine HR2.out.mono ?_
     rintro e wa ⟨v2,rfl,tka,ga⟩
     simp only
     rw [HZI.out.1,HZI.out.2.1,HZI.out.2.2.1,HZI.out.2.2.2.1,HZI.out.2.2.2.2]
     have HVa:=hid tka
     obtain ⟨xa,xc,rfl,_⟩:=id tka
     simp only at HVa ⊢
     rw [HM.out] at HVa ⊢
     have H14a:=hid (grow_new ga H14.out)
     have Ga:=hid (xT G9.out ga)
     have HIN:=hid (show (Tryz.prog.info? 71).map (·.size)=some 7 by kernel_rfl)
     have HTHERE:=hid (show wa.there B 0 7 from fun j hj=>⟨by
      rw [Nat.zero_add,xC H14a.out]
      have:j=0∨j=1∨j=2∨j=3∨j=4∨j=5∨j=6:=by omega
      rcases this with rfl | rfl | rfl | rfl | rfl | rfl | rfl<;>rfl,yfb H14a.out _⟩)
     have H7S:=hid (store7 H14a.out Ga.out HB14.out (.slice xa m xc) (.string tl) (.int .i64 ahi) (.int .i64 bei) (.int .i64 fmi) (.int .i64 tmi) (.int .i64 foi))
     have HTF:=hid (tk_box HVa.out H14a.out H7S.out.2.2)
     clear ga tka HR2 H14 G9 c0 c1 c2 HX9 HS9 HVa H14a Ga HB14 HS8 HV8 HX8 HZI HM HLN
     go_wp2_with (refine wpList_store_mid (by rfl) 71 (.tmp 14) (.tmp 57) (by rfl) B 0 #[.slice xa m xc,.string tl,.int .i64 ahi,.int .i64 bei,.int .i64 fmi,.int .i64 tmi,.int .i64 foi] (by rfl) (by rfl) HTHERE.out HIN.out (by simp [Value.oneCell']) ?_)
     go_meet
     exact ⟨rfl,rfl,xa,xc,hid H7S.out.1,HTF,hid H7S.out.2.1⟩
   · have hcb:(c == 0)=false:=beq_eq_false_iff_ne.2 hz
     have hbd:=HB.out hz
     simp only [AgR.bad,AgR.mk.injEq] at hbd
     obtain ⟨rfl,rfl,rfl,rfl,rfl,rfl,rfl,rfl,rfl⟩:=hbd
     obtain ⟨rfl,rfl,rfl,rfl,rfl⟩:=HZI.out
     have hm:=HM.out
     simp only [List.length_nil] at hm
     subst hm
     clear HB HR2 hz HZI HM
     go_wp2_with fail
     go_meet
     exact ⟨rfl,rfl,none,0,H14,hid ⟨none,0,rfl,.inl rfl⟩,G9⟩
 case rest =>
  as_aux_lemma =>
   obtain ⟨rfl,rfl,xa,xc,H14w,HV2,HGw⟩:=hcut
   obtain ⟨wd,rfl⟩:∃ v:World,v=wc:=⟨_,rfl⟩
   have H10w:=hid (grow_new HGw.out HX8.out.2)
   have HV1:=hid (HV8.out.grow HGw.out)
   have HGR:=hid (xT HS8.out.gr HGw.out)
   clear HX8 HV8 HS8 HX9 HS9 G9 H14 HGw HR2 HB HB14
   have HEQ:=hid (fun (W:World) (h1:TkAt W (.slice va m vc) tk) (h2:TkAt W (.slice xa m xc) tk)=>equalTk_same tk (.slice va m vc) (.slice xa m xc) W HLN.out h1 h2)
   have etl:(tl.toList == tl.toList)=true:=beq_self_eq_true _
   have e1:(ahi == ahi)=true:=beq_self_eq_true _
   have e2:(bei == bei)=true:=beq_self_eq_true _
   have e3:(fmi == fmi)=true:=beq_self_eq_true _
   have e4:(tmi == tmi)=true:=beq_self_eq_true _
   have e5:(foi == foi)=true:=beq_self_eq_true _
   have e6:(er == er)=true:=beq_self_eq_true _
   have e7:(ai == ai)=true:=beq_self_eq_true _
   obtain ⟨k0,k1,k2,k3,k4,k5,k6⟩:=cb7 H10w.out
   obtain ⟨p0,p1,p2,p3,p4,p5,p6⟩:=cb7 H14w.out
   clear HLN
   go_wp2_with fail
   refine (HEQ.out _ HV1.out HV2.out).mono ?_
   rintro e we ⟨rfl,ge⟩
   have HK:=hid (grow_new ge H10w.out)
   have HP:=hid (grow_new ge H14w.out)
   have HGe:=hid (xT HGR.out ge)
   clear ge H10w H14w HV1 HV2 HGR HEQ k0 k1 k2 k3 k4 k5 k6 p0 p1 p2 p3 p4 p5 p6
   obtain ⟨k0,k1,k2,k3,k4,k5,k6⟩:=cb7 HK.out
   obtain ⟨p0,p1,p2,p3,p4,p5,p6⟩:=cb7 HP.out
   go_wp2_with fail
   refine (lexed_any _).mono ?_
   rintro e wf ⟨rfl,gf⟩
   go_wp2_with fail
   go_ret
   exact ⟨rfl,xT HGe.out gf⟩
end Go.Proofs.YtplbacfjmajeeaaGreatDoor
namespace Go.Proofs
open Go.Shelf
theorem Tryz.slices_Contains_int_empty (a:Option Addr) (c:Nat) (x:Int) (w:World) :
 Calls Tryz.prog 63 #[.slice a 0 c,.int .i64 x] w fun e w'=>e=.returned (.bool false)∧w'=w:=Any.slices_Contains_int_empty Tryz.lays107 a c x w
end Go.Proofs
namespace Go.Proofs.YtplbacfjmajeeaaGreatDoor
open Go.Lib (hid)
open Go.RowKit
theorem starts_contains (B:List Nat) (z:Int):(natI B).contains z=starts B z:=by
 unfold starts
 induction B with
 | nil=>rfl
 | cons b B ih =>
  simp only [natI,List.map_cons,List.contains_cons,List.any_cons] at ih ⊢
  rw [ih]
  congr 1
  exact Bool.beq_comm
theorem containsB_any (B:List Nat) (z:Int) (v:Value) (w:World) (hB:B.length≤1000000) (h:Ints w v (natI B)) :
 Calls Tryz.prog 63 #[v,.int .i64 z] w fun e w'=>e=.returned (.bool (starts B z))∧w'=w:=by
 obtain ⟨a,c,rfl,hel⟩:=h.elem
 rw [natI_len] at hel ⊢
 by_cases h0:B.length=0
 · obtain rfl:=List.length_eq_zero_iff.1 h0
   exact Tryz.slices_Contains_int_empty a c z w
 · obtain ⟨g,o,rfl,_⟩:=hel 0 (by omega)
   have:=Tryz.slices_Contains_int g o B.length c (natI B) z w (by rw [natI_len]; exact Nat.le_refl _) (by omega) (fun j hj=>by
    obtain ⟨g2,o2,e,hc⟩:=hel j (by rw [natI_len] at hj; exact hj)
    simp only [Option.some.injEq,Addr.mk.injEq] at e
    obtain ⟨rfl,rfl,_⟩:=e
    exact hc)
   rw [List.take_of_length_le (by rw [natI_len]; exact Nat.le_refl _),starts_contains] at this
   exact this
end Go.Proofs.YtplbacfjmajeeaaGreatDoor
