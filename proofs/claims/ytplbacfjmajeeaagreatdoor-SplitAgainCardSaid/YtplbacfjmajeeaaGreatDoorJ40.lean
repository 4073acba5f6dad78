import Derived.Test.YtplbacfjmajeeaaGreatDoorJ39
namespace Go.Proofs.YtplbacfjmajeeaaGreatDoor
open Go.Lib (hid)
set_option maxHeartbeats 4000000
set_option maxRecDepth 100000
open Go.RowKit
theorem begins_step (T:List Tk) (j at_:Nat) (h:j<T.length):beginsL (T.drop j) at_=at_::beginsL (T.drop (j+1)) (at_+(T[j].2.1.size+T[j].2.2.size)):=by
 rw [List.drop_eq_getElem_cons h]
 rfl
theorem sum_drop (T:List Tk) (j:Nat) (h:j<T.length):tkSum (T.drop j)=T[j].2.1.size+T[j].2.2.size+tkSum (T.drop (j+1)):=by
 rw [List.drop_eq_getElem_cons h]
 rfl
theorem tk_cells {w:World} {T:List Tk} {a:Option Addr} (h:T=[]∨∃ g o,a=some ⟨g,o,none⟩∧∀ j u,(tkRow T)[j]? = some u→w.cell? ⟨g,o+j,none⟩=some u) {w':World} (g:w.grownBy w' none) :
 T=[]∨∃ g o,a=some ⟨g,o,none⟩∧∀ j u,(tkRow T)[j]? = some u→w'.cell? ⟨g,o+j,none⟩=some u:=by
 rcases h with h | ⟨b,o,ha,hc⟩
 · exact .inl h
 · exact .inr ⟨b,o,ha,fun j u hj=>ycg (hc j u hj) g⟩
theorem cutBegins_any (tx tl:ByteArray) (pa:Option Addr) (pn pc:Nat) (v:Value) (T:List Tk) (w:World) (h:TkAt w v T) (hl:T.length≤1000000) (hs:tkSum T≤1000000) :
 Calls Tryz.prog 88 #[.agg #[.string tx,.slice pa pn pc,v,.string tl]] w (OwnPost w (natI (beginsL T 0))):=by
 obtain ⟨P,hP⟩:∃ P,OwnPost w (natI (beginsL T 0))=P:=⟨_,rfl⟩
 rw [hP]
 have HP:=hid hP
 obtain ⟨ta,tc,rfl,hT⟩:=h
 have HT:=hid hT
 obtain ⟨i3,hi,hz0,hz1,hz2⟩:=info_parts info3
 have HI:=hid hi
 have HZ0:=hid hz0
 have HZ1:=hid hz1
 have HZ2:=hid hz2
 obtain ⟨n,hn⟩:∃ n,T.length=n:=⟨_,rfl⟩
 have HN:=hid hn
 rw [hn] at hl ⊢
 clear hP hT hi hz0 hz1 hz2 hn
 have HC:=hid (xN w (.cells #[.string tx,.slice pa pn pc,.slice ta n tc,.string tl] 107))
 have HG:=hid (xG w (.cells #[.string tx,.slice pa pn pc,.slice ta n tc,.string tl] 107) none)
 go_enter Tryz.func88,Tryz.ntmps88
 go_wp2_with fail
 go_loopw [3,4,10] (fun av bv iv wr=>∃ (j at_:Nat) (acc:List Nat) (sa:Option Addr) (sc:Nat),j≤n∧iv=.int .i64 j∧av=.int .i64 at_∧bv=.slice sa acc.length sc∧acc.length=j∧Hid (beginsL T 0=acc++beginsL (T.drop j) at_)∧Hid (at_+tkSum (T.drop j)=tkSum T)∧Hid (wr.ownsRow w.heap.size 3 1 (.slice sa acc.length sc) acc.length (intC (natI acc)))∧Hid (w.grownBy wr none)) (fun _ _ iv _=>n-(intOf iv).toNat)
 case atStart=>exact ⟨0,0,[],none,0,Nat.zero_le _,rfl,rfl,rfl,rfl,hid (by simp),hid (by simp),hid ⟨rfl,.inl ⟨rfl,rfl⟩⟩,HG⟩
 case round =>
  clear HG
  obtain ⟨j,at_,acc,sa,sc,hj,rfl,rfl,rfl,hacc,HB,HS,HO,HG⟩:=hrel
  have HAC:=hid hacc
  have hacl:acc.length≤1000000:=by omega
  clear hacc
  have hat:at_≤1000000:=by have:=HS.out; omega
  by_cases hlt:j<n
  · have hltT:j<T.length:=by rw [HN.out]; exact hlt
    obtain ⟨g,o,e1,c1,c2,c3⟩:=tk_elem (tk_cells HT.out HG.out) j hltT
    subst e1
    have HB2:=hid (begins_step T j at_ hltT)
    have HS2:=hid (sum_drop T j hltT)
    generalize T[j]=x at c1 c2 c3 HB2 HS2
    obtain ⟨xk,xl,xt⟩:=x
    simp only at c1 c2 c3 HB2 HS2
    have i1:(0:Int)≤(j:Int):=by omega
    have i2:(j:Int)<(n:Int):=by omega
    have hxs:xl.size+xt.size≤1000000:=by have:=HS.out; have:=HS2.out; omega
    have hxs2:at_+(xl.size+xt.size)≤1000000:=by have:=HS.out; have:=HS2.out; omega
    have w1':IntKind.i64.wrap ((xl.size:Int)+xt.size)=(xl.size:Int)+xt.size:=xI _ (by omega)
    have w2':IntKind.i64.wrap ((at_:Int)+((xl.size:Int)+xt.size))=(at_:Int)+((xl.size:Int)+xt.size):=xI _ (by omega)
    have HXB:=hid (xN wr (.cells #[.string xk,.string xl,.string xt] 66))
    have HXG:=hid (xG wr (.cells #[.string xk,.string xl,.string xt] 66) none)
    have hob:∀ r,(Value.slice sa acc.length sc).ownBlock=some r→r<wr.heap.size:=fun r hr=>by obtain ⟨_,cc,hcc⟩:=yob HO.out r hr; exact xL hcc
    have HOB:=hid hob
    have hwr:w.heap.size≤wr.heap.size:=HG.out.size
    clear hob
    go_upto_region 6 with (fail)
    generalize hwx:wr.alloc (.cells #[.string xk,.string xl,.string xt] 66)=wx at HXB HXG ⊢
    have hws:wx.heap.size=wr.heap.size+1:=by rw [← hwx]; simp
    clear hwx
    have HO2:=hid (own_grownN HO.out HXG.out (fun r hr=>by cases hr))
    generalize hbx:wr.heap.size=bx at HXB hws HOB hwr ⊢
    have HBX:=hid hbx
    have HWS:=hid hws
    have hwb:w.heap.size≤wx.heap.size:=by omega
    clear hbx hws
    go_wp2_with (at_builtin; refine wpList_append_lies _ rfl _ _ 22 rfl w.heap.size 3 i3 (.int .i64 0) 1 8 Tryz.underlying22 HI.out HZ0.out HZ1.out HZ2.out rfl (by omega) _ _ _ rfl (own_grownN HO2.out (xG wx _ none) (fun r hr=>by cases hr)) ⟨wx.heap.size,0,none⟩ 1 1 [.int .i64 at_] rfl rfl (cells_new _ _ _) (by simp [Value.oneCell']) (by omega) (by unfold maxLen; omega) (by omega) (by simp; omega) (wx.heap.size+1) (by simp) ?_; intro gg cap2 w6 hown2 hgrow2 hat2 hlt2; have HG2:=hid hgrow2; have HO3:=hid hown2; have hbk:w6.heap[bx]? = some (.cells #[.string xk,.string xl,.string xt] 66 (0,0)):=(by rw [hgrow2.block bx (by have:=HWS.out; simp; omega) (fun e=>by have:=HOB.out bx e.symm; omega)]; exact grow_new (xG wx _ none) HXB.out); have b1:=xC hbk 1; have b2:=xC hbk 2; simp only [xGe,xGz,xGs] at b1 b2; clear hgrow2 hown2 hat2 hbk)
    go_roundw
    case measure=>simp [intOf]; omega
    case rel =>
     have e:(acc++[at_]).length=acc.length+1:=by simp
     have hown:w6.ownsRow w.heap.size 3 1 (.slice (some ⟨gg,0,none⟩) (acc.length+1) cap2) (acc.length+1) (intC (natI (acc++[at_]))):=by
      have:=HO3.out
      simpa [natI_append,natI,intC] using this
     refine ⟨j+1,at_+(xl.size+xt.size),acc++[at_],some ⟨gg,0,none⟩,cap2,by omega,by go_num,by go_num,by rw [e],by rw [e,HAC.out],hid ?_,hid ?_,by rw [e]; exact hid hown,hid ?_⟩
     · rw [HB.out,HB2.out,List.append_assoc]; rfl
     · have:=HS.out; have:=HS2.out; omega
     · exact grow_row (yga (xT HG.out HXG.out) _) HG2.out (fun r hr=>by have:=(yob HO2.out r hr).1; omega)
  · obtain rfl:j=n:=by omega
    have HE:=hid (show beginsL T 0=acc by rw [HB.out,List.drop_eq_nil_of_le (by rw [HN.out]; exact Nat.le_refl _)]; simp [beginsL])
    go_wp2_with fail
    rw [← HP.out]
    refine ⟨_,rfl,?_,HG.out⟩
    rw [HE.out,natI_len]
    exact HO.out
theorem refBegins_any (v:Value) (T:List Tk) (w:World) (h:TkAt w v T) (hl:T.length≤1000000) (hs:tkSum T≤1000000) :
 Calls Tryz.prog 64 #[v] w (OwnPost w (natI (beginsL T 0))):=by
 obtain ⟨P,hP⟩:∃ P,OwnPost w (natI (beginsL T 0))=P:=⟨_,rfl⟩
 rw [hP]
 have HP:=hid hP
 obtain ⟨ta,tc,rfl,hT⟩:=h
 have HT:=hid hT
 obtain ⟨i3,hi,hz0,hz1,hz2⟩:=info_parts info3
 have HI:=hid hi
 have HZ0:=hid hz0
 have HZ1:=hid hz1
 have HZ2:=hid hz2
 obtain ⟨n,hn⟩:∃ n,T.length=n:=⟨_,rfl⟩
 have HN:=hid hn
 rw [hn] at hl ⊢
 clear hP hT hi hz0 hz1 hz2 hn
 have HG:=hid (grow_self w)
 go_enter Tryz.func64,Tryz.ntmps64
 go_wp2_with fail
 go_loopw [3,4,9] (fun bv av iv wr=>∃ (j at_:Nat) (acc:List Nat) (sa:Option Addr) (sc:Nat),j≤n∧iv=.int .i64 j∧av=.int .i64 at_∧bv=.slice sa acc.length sc∧acc.length=j∧Hid (beginsL T 0=acc++beginsL (T.drop j) at_)∧Hid (at_+tkSum (T.drop j)=tkSum T)∧Hid (wr.ownsRow w.heap.size 3 1 (.slice sa acc.length sc) acc.length (intC (natI acc)))∧Hid (w.grownBy wr none)) (fun _ _ iv _=>n-(intOf iv).toNat)
 case atStart=>exact ⟨0,0,[],none,0,Nat.zero_le _,rfl,rfl,rfl,rfl,hid (by simp),hid (by simp),hid ⟨rfl,.inl ⟨rfl,rfl⟩⟩,HG⟩
 case round =>
  clear HG
  obtain ⟨j,at_,acc,sa,sc,hj,rfl,rfl,rfl,hacc,HB,HS,HO,HG⟩:=hrel
  have HAC:=hid hacc
  have hacl:acc.length≤1000000:=by omega
  clear hacc
  have hat:at_≤1000000:=by have:=HS.out; omega
  by_cases hlt:j<n
  · have hltT:j<T.length:=by rw [HN.out]; exact hlt
    obtain ⟨g,o,e1,c1,c2,c3⟩:=tk_elem (tk_cells HT.out HG.out) j hltT
    subst e1
    have HB2:=hid (begins_step T j at_ hltT)
    have HS2:=hid (sum_drop T j hltT)
    generalize T[j]=x at c1 c2 c3 HB2 HS2
    obtain ⟨xk,xl,xt⟩:=x
    simp only at c1 c2 c3 HB2 HS2
    have i1:(0:Int)≤(j:Int):=by omega
    have i2:(j:Int)<(n:Int):=by omega
    have hxs:xl.size+xt.size≤1000000:=by have:=HS.out; have:=HS2.out; omega
    have hxs2:at_+(xl.size+xt.size)≤1000000:=by have:=HS.out; have:=HS2.out; omega
    have w1':IntKind.i64.wrap ((xl.size:Int)+xt.size)=(xl.size:Int)+xt.size:=xI _ (by omega)
    have w2':IntKind.i64.wrap ((at_:Int)+((xl.size:Int)+xt.size))=(at_:Int)+((xl.size:Int)+xt.size):=xI _ (by omega)
    have HXB:=hid (xN wr (.cells #[.string xk,.string xl,.string xt] 66))
    have HXG:=hid (xG wr (.cells #[.string xk,.string xl,.string xt] 66) none)
    have hob:∀ r,(Value.slice sa acc.length sc).ownBlock=some r→r<wr.heap.size:=fun r hr=>by obtain ⟨_,cc,hcc⟩:=yob HO.out r hr; exact xL hcc
    have HOB:=hid hob
    have hwr:w.heap.size≤wr.heap.size:=HG.out.size
    clear hob
    go_upto_region 6 with (fail)
    generalize hwx:wr.alloc (.cells #[.string xk,.string xl,.string xt] 66)=wx at HXB HXG ⊢
    have hws:wx.heap.size=wr.heap.size+1:=by rw [← hwx]; simp
    clear hwx
    have HO2:=hid (own_grownN HO.out HXG.out (fun r hr=>by cases hr))
    generalize hbx:wr.heap.size=bx at HXB hws HOB hwr ⊢
    have HBX:=hid hbx
    have HWS:=hid hws
    have hwb:w.heap.size≤wx.heap.size:=by omega
    clear hbx hws
    go_wp2_with (at_builtin; refine wpList_append_lies _ rfl _ _ 22 rfl w.heap.size 3 i3 (.int .i64 0) 1 8 Tryz.underlying22 HI.out HZ0.out HZ1.out HZ2.out rfl (by omega) _ _ _ rfl (own_grownN HO2.out (xG wx _ none) (fun r hr=>by cases hr)) ⟨wx.heap.size,0,none⟩ 1 1 [.int .i64 at_] rfl rfl (cells_new _ _ _) (by simp [Value.oneCell']) (by omega) (by unfold maxLen; omega) (by omega) (by simp; omega) (wx.heap.size+1) (by simp) ?_; intro gg cap2 w6 hown2 hgrow2 hat2 hlt2; have HG2:=hid hgrow2; have HO3:=hid hown2; have hbk:w6.heap[bx]? = some (.cells #[.string xk,.string xl,.string xt] 66 (0,0)):=(by rw [hgrow2.block bx (by have:=HWS.out; simp; omega) (fun e=>by have:=HOB.out bx e.symm; omega)]; exact grow_new (xG wx _ none) HXB.out); have b1:=xC hbk 1; have b2:=xC hbk 2; simp only [xGe,xGz,xGs] at b1 b2; clear hgrow2 hown2 hat2 hbk)
    go_roundw
    case measure=>simp [intOf]; omega
    case rel =>
     have e:(acc++[at_]).length=acc.length+1:=by simp
     have hown:w6.ownsRow w.heap.size 3 1 (.slice (some ⟨gg,0,none⟩) (acc.length+1) cap2) (acc.length+1) (intC (natI (acc++[at_]))):=by
      have:=HO3.out
      simpa [natI_append,natI,intC] using this
     refine ⟨j+1,at_+(xl.size+xt.size),acc++[at_],some ⟨gg,0,none⟩,cap2,by omega,by go_num,by go_num,by rw [e],by rw [e,HAC.out],hid ?_,hid ?_,by rw [e]; exact hid hown,hid ?_⟩
     · rw [HB.out,HB2.out,List.append_assoc]; rfl
     · have:=HS.out; have:=HS2.out; omega
     · exact grow_row (yga (xT HG.out HXG.out) _) HG2.out (fun r hr=>by have:=(yob HO2.out r hr).1; omega)
  · obtain rfl:j=n:=by omega
    have HE:=hid (show beginsL T 0=acc by rw [HB.out,List.drop_eq_nil_of_le (by rw [HN.out]; exact Nat.le_refl _)]; simp [beginsL])
    go_wp2_with fail
    rw [← HP.out]
    refine ⟨_,rfl,?_,HG.out⟩
    rw [HE.out,natI_len]
    exact HO.out
open Go.RowKit Go.Maps
def atsL (P:List Pc):List Nat:=P.map fun x=>x.2.1
theorem pc_cells {w:World} {L:List Pc} {a:Option Addr} (h:L=[]∨∃ g o,a=some ⟨g,o,none⟩∧∀ j u,(pcCells L)[j]? = some u→w.cell? ⟨g,o+j,none⟩=some u) {w':World} (g:w.grownBy w' none) :
 L=[]∨∃ g o,a=some ⟨g,o,none⟩∧∀ j u,(pcCells L)[j]? = some u→w'.cell? ⟨g,o+j,none⟩=some u:=by
 rcases h with h | ⟨b,o,ha,hc⟩
 · exact .inl h
 · exact .inr ⟨b,o,ha,fun j u hj=>ycg (hc j u hj) g⟩
theorem meetL_drop (n n2:Nat) (B:List Nat) (least:Nat) (Q:List Pc) (j:Nat) (h:j<Q.length):meetL n n2 B least (Q.drop j)=if least≤Q[j].2.1∧B.any (fun a=>n-a == n2-Q[j].2.1)=true then Q[j].2.1 else meetL n n2 B least (Q.drop (j+1)):=by
 rw [List.drop_eq_getElem_cons h]
 rfl
theorem meeting_any (s s2 tl tl2:ByteArray) (pv qv tv uv:Value) (P Q:List Pc) (least:Nat) (w:World) (hs:s.size≤1000000) (hs2:s2.size≤1000000) (_hl:least≤1000000) (hP:PcAt w pv P) (hQ:PcAt w qv Q) (hPl:P.length≤1000000) (hQl:Q.length≤1000000)
 (hPa:∀ x∈P,x.2.1≤s.size) (hQa:∀ x∈Q,x.2.1≤s2.size) (hpv:∃ a n c,tv=.slice a n c) (huv:∃ a n c,uv=.slice a n c) :
 Calls Tryz.prog 86 #[.agg #[.string s,pv,tv,.string tl],.agg #[.string s2,qv,uv,.string tl2],.int .i64 (least:Nat)] w fun e w'=>e=.returned (.int .i64 (meetL s.size s2.size (atsL P) least Q:Nat))∧w.grownBy w' none:=by
 obtain ⟨r,hr⟩:∃ r,meetL s.size s2.size (atsL P) least Q=r:=⟨_,rfl⟩
 rw [hr]
 have HR:=hid hr
 obtain ⟨pa,pc,rfl,hP⟩:=hP
 obtain ⟨qa,qc,rfl,hQ⟩:=hQ
 obtain ⟨ta,tn,tc,rfl⟩:=hpv
 obtain ⟨ua,un,uc,rfl⟩:=huv
 have HPC:=hid hP
 have HQC:=hid hQ
 have HPA:=hid hPa
 have HQA:=hid hQa
 obtain ⟨i3,hi,hz0,hz1,hz2⟩:=info_parts info3
 have HI:=hid hi
 have HZ0:=hid hz0
 have HZ1:=hid hz1
 have HZ2:=hid hz2
 obtain ⟨n,hn⟩:∃ n,P.length=n:=⟨_,rfl⟩
 have HN:=hid hn
 rw [hn] at hPl ⊢
 obtain ⟨m,hm⟩:∃ m,Q.length=m:=⟨_,rfl⟩
 have HMM:=hid hm
 rw [hm] at hQl ⊢
 have HG:=hid (yga (xG w (.cells #[.string s,.slice pa n pc,.slice ta tn tc,.string tl] 107) none) (.cells #[.string s2,.slice qa m qc,.slice ua un uc,.string tl2] 107))
 have HB1:=hid (grow_new (xG (w.alloc (.cells #[.string s,.slice pa n pc,.slice ta tn tc,.string tl] 107)) (.cells #[.string s2,.slice qa m qc,.slice ua un uc,.string tl2] 107) none) (xN w (.cells #[.string s,.slice pa n pc,.slice ta tn tc,.string tl] 107)))
 have HB2:=hid (yhn (w.alloc (.cells #[.string s,.slice pa n pc,.slice ta tn tc,.string tl] 107)) (.cells #[.string s2,.slice qa m qc,.slice ua un uc,.string tl2] 107) (w.heap.size+1) (by simp))
 clear hr hP hQ hPa hQa hi hz0 hz1 hz2 hn hm
 go_enter Tryz.func86,Tryz.ntmps86
 go_upto_region 1 with (fail)
 generalize (w.alloc _).alloc _=w1 at HG HB1 HB2 ⊢
 have c1:=xC HB1.out 1
 simp only [xGe,xGz,xGs] at c1
 go_wp2_with fail
 clear c1
 go_loopw [7,16] (fun bv iv wr=>∃ (j:Nat) (acc:List Nat) (sa:Option Addr) (sc:Nat),j≤n∧iv=.int .i64 j∧bv=.slice sa acc.length sc∧acc.length=j∧Hid (acc=atsL (P.take j))∧Hid (wr.ownsRow w1.heap.size 3 1 (.slice sa acc.length sc) acc.length (intC (natI acc)))∧Hid (w1.grownBy wr none)) (fun _ iv _=>n-(intOf iv).toNat)
 case atStart=>exact ⟨0,[],none,0,Nat.zero_le _,rfl,rfl,rfl,hid rfl,hid ⟨rfl,.inl ⟨rfl,rfl⟩⟩,hid (grow_self _)⟩
 case round =>
  obtain ⟨j,acc,sa,sc,hj,rfl,rfl,hacc,HA,HO,HGr⟩:=hrel
  have HAC:=hid hacc
  have hacl:acc.length≤1000000:=by omega
  clear hacc
  by_cases hlt:j<n
  · have hltT:j<P.length:=by rw [HN.out]; exact hlt
    obtain ⟨g,o,e1,c1,c2,c3,c4⟩:=pc_elem (pc_cells HPC.out (xT HG.out HGr.out)) j hltT
    subst e1
    have HT2:=hid (show atsL (P.take (j+1))=atsL (P.take j)++[P[j].2.1] by
     unfold atsL
     rw [List.take_add_one,List.map_append,List.getElem?_eq_getElem hltT]
     rfl)
    have hx:=HPA.out P[j] (List.getElem_mem hltT)
    generalize P[j]=x at c1 c2 c3 c4 HT2 hx
    obtain ⟨xm,xa,xl,xs⟩:=x
    simp only at c1 c2 c3 c4 HT2 hx
    have i1:(0:Int)≤(j:Int):=by omega
    have i2:(j:Int)<(n:Int):=by omega
    have hw1:w1.heap.size≤wr.heap.size:=HGr.out.size
    go_upto_region 5 with (fail)
    have HXB:=hid (xN wr (.cells #[.int .i64 (xm:Nat),.int .i64 (xa:Nat),.int .i64 (xl:Nat),.int .i64 (xs:Nat)] 43))
    have HXG:=hid (xG wr (.cells #[.int .i64 (xm:Nat),.int .i64 (xa:Nat),.int .i64 (xl:Nat),.int .i64 (xs:Nat)] 43) none)
    generalize hwx:wr.alloc (.cells #[.int .i64 (xm:Nat),.int .i64 (xa:Nat),.int .i64 (xl:Nat),.int .i64 (xs:Nat)] 43)=wx at HXB HXG ⊢
    have hwb:w1.heap.size≤wx.heap.size:=by have:=HXG.out.size; omega
    clear hwx
    generalize wr.heap.size=bx at HXB ⊢
    have b1:=xC HXB.out 1
    simp only [xGe,xGz,xGs] at b1
    have HO2:=hid (own_grownN HO.out HXG.out (fun r hr=>by cases hr))
    go_wp2_with (at_builtin; refine wpList_append_lies _ rfl _ _ 22 rfl w1.heap.size 3 i3 (.int .i64 0) 1 8 Tryz.underlying22 HI.out HZ0.out HZ1.out HZ2.out rfl (by omega) _ _ _ rfl (own_grownN HO2.out (xG wx _ none) (fun r hr=>by cases hr)) ⟨wx.heap.size,0,none⟩ 1 1 [.int .i64 (xa:Nat)] rfl rfl (cells_new _ _ _) (by simp [Value.oneCell']) (by omega) (by unfold maxLen; omega) (by omega) (by simp; omega) (wx.heap.size+1) (by simp) ?_; intro gg cap2 w6 hown2 hgrow2 hat2 hlt2; have HG2:=hid hgrow2; have HO3:=hid hown2; clear hgrow2 hown2 hat2)
    go_roundw
    case measure=>simp [intOf]; omega
    case rel =>
     have e:(acc++[xa]).length=acc.length+1:=by simp
     have hown:w6.ownsRow w1.heap.size 3 1 (.slice (some ⟨gg,0,none⟩) (acc.length+1) cap2) (acc.length+1) (intC (natI (acc++[xa]))):=by
      have:=HO3.out
      simpa [natI_append,natI,intC] using this
     exact ⟨j+1,acc++[xa],some ⟨gg,0,none⟩,cap2,by omega,by go_num,by rw [e],by rw [e,HAC.out],hid (by rw [HT2.out,← HA.out]),by rw [e]; exact hid hown,hid (grow_row (yga (xT HGr.out HXG.out) _) HG2.out (fun r hr=>by have:=(yob HO2.out r hr).1; omega))⟩
  · obtain rfl:j=n:=by omega
    have HAL:=hid (show acc=atsL P by rw [HA.out,List.take_of_length_le (by rw [HN.out]; exact Nat.le_refl _)])
    have d0:=xC (grow_new HGr.out HB1.out) 0
    simp only [xGe,xGz] at d0
    have HIN:=hid (show Ints wr (.slice sa acc.length sc) (natI acc) from Ints.of_own HO.out)
    go_wp2_with fail
    refine (fromEnd_any s acc _ wr hs hacl (fun a ha=>by rw [HAL.out] at ha; obtain ⟨x,hx,rfl⟩:=List.mem_map.1 ha; exact HPA.out x hx) HIN.out).mono ?_
    rintro e w3 ⟨mm,rfl,hset,hmm,g3⟩
    have HSET:=hid hset
    have HG3:=hid (xT HGr.out g3)
    clear hset hmm g3 d0 HIN HO HGr
    have d1:=xC (grow_new HG3.out HB2.out) 1
    simp only [xGe,xGz,xGs] at d1
    go_wp2_with fail
    clear d1
    go_loopw [33] (fun iv wr=>∃ j:Nat,j≤m∧iv=.int .i64 j∧Hid (meetL s.size s2.size (atsL P) least (Q.drop j)=r)∧Hid (w3.grownBy wr none)) (fun iv _=>m-(intOf iv).toNat)
    case atStart=>exact ⟨0,Nat.zero_le _,rfl,hid (by simpa using HR.out),hid (grow_self _)⟩
    case round =>
     obtain ⟨j,hj,rfl,HD,HGr⟩:=hrel
     by_cases hlt:j<m
     · have hltT:j<Q.length:=by rw [HMM.out]; exact hlt
       obtain ⟨g,o,e1,c1,c2,c3,c4⟩:=pc_elem (pc_cells HQC.out (xT HG.out (xT HG3.out HGr.out))) j hltT
       subst e1
       have HD2:=hid ((meetL_drop s.size s2.size (atsL P) least Q j hltT).symm.trans HD.out)
       have hx:=HQA.out Q[j] (List.getElem_mem hltT)
       generalize Q[j]=x at c1 c2 c3 c4 HD2 hx
       obtain ⟨xm,xa,xl,xs⟩:=x
       simp only at c1 c2 c3 c4 HD2 hx
       have i1:(0:Int)≤(j:Int):=by omega
       have i2:(j:Int)<(m:Int):=by omega
       go_upto_region 11 with (fail)
       have HXB:=hid (xN wr (.cells #[.int .i64 (xm:Nat),.int .i64 (xa:Nat),.int .i64 (xl:Nat),.int .i64 (xs:Nat)] 43))
       have HXG:=hid (yga HGr.out (.cells #[.int .i64 (xm:Nat),.int .i64 (xa:Nat),.int .i64 (xl:Nat),.int .i64 (xs:Nat)] 43))
       generalize wr.alloc (.cells #[.int .i64 (xm:Nat),.int .i64 (xa:Nat),.int .i64 (xl:Nat),.int .i64 (xs:Nat)] 43)=wx at HXB HXG ⊢
       generalize wr.heap.size=bx at HXB ⊢
       have b1:=xC HXB.out 1
       have d0:=xC (grow_new HXG.out (grow_new HG3.out HB2.out)) 0
       simp only [xGe,xGz,xGs] at b1 d0
       have hlook:=(HSET.out.kept HXG.out (by simp)).look (s2.size-xa) (by omega)
       have hsub:((s2.size-xa:Nat):Int)=(s2.size:Int)-(xa:Int):=by omega
       rw [hsub] at hlook
       have hw:IntKind.i64.wrap ((s2.size:Int)-xa)=(s2.size:Int)-xa:=xI _ (by omega)
       rw [HAL.out] at hlook
       clear hsub
       by_cases h1:least≤xa
       · have q1:decide ((least:Int)≤(xa:Int))=true:=decide_eq_true (by omega)
         cases h2:((atsL P).any fun a=>s.size-a == s2.size-xa) with
         | true =>
          rw [h2] at hlook
          have HZ:=hid (show xa=r by rw [← HD2.out,if_pos ⟨h1,h2⟩])
          clear HD HD2 h2
          go_wp2_with fail
          go_ret
          exact ⟨by rw [HZ.out]; rfl,xT HG.out (xT HG3.out HXG.out)⟩
         | false =>
          rw [h2] at hlook
          have HZ:=hid (show meetL s.size s2.size (atsL P) least (Q.drop (j+1))=r by rw [← HD2.out,if_neg (by rw [h2]; simp)])
          clear HD HD2 h2
          go_wp2_with fail
          go_roundw
          case measure=>simp [intOf]; omega
          case rel=>exact ⟨j+1,by omega,by go_num,HZ,HXG⟩
       · have q1:decide ((least:Int)≤(xa:Int))=false:=decide_eq_false (by omega)
         have HZ:=hid (show meetL s.size s2.size (atsL P) least (Q.drop (j+1))=r by rw [← HD2.out,if_neg (fun h=>h1 h.1)])
         clear HD HD2 hlook
         go_wp2_with fail
         go_roundw
         case measure=>simp [intOf]; omega
         case rel=>exact ⟨j+1,by omega,by go_num,HZ,HXG⟩
     · obtain rfl:j=m:=by omega
       have HZ:=hid (show s2.size=r by rw [← HD.out,List.drop_eq_nil_of_le (by rw [HMM.out]; exact Nat.le_refl _)]; rfl)
       have d0:=xC (grow_new HGr.out (grow_new HG3.out HB2.out)) 0
       simp only [xGe,xGz] at d0
       go_wp2_with fail
       go_ret
       exact ⟨by rw [HZ.out]; rfl,xT HG.out (xT HG3.out HGr.out)⟩
end Go.Proofs.YtplbacfjmajeeaaGreatDoor
