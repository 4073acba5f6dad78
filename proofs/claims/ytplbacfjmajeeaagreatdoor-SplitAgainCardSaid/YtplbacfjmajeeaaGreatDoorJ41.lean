import Derived.Test.YtplbacfjmajeeaaGreatDoorJ40
import Derived.Deep.CutBlock
namespace Go.Proofs.YtplbacfjmajeeaaGreatDoor
open Go.Lib (hid)
set_option maxHeartbeats 4000000
set_option maxRecDepth 100000
open Go.RowKit Go.Maps
structure CmpM (w:World) (B5 B6 B7 B8 B9:Nat) (old now ed z:Array Value) (tv tl:Value) (ah be fm tm fo:Nat) (W:World):Prop where
 gr:w.grownBy W none
 lo8:w.heap.size≤B8
 lo9:w.heap.size≤B9
 ne:B5≠B9∧B6≠B9∧B7≠B9∧B8≠B9
 b5:W.heap[B5]? = some (.cells old 107 (0,0))
 b6:W.heap[B6]? = some (.cells now 107 (0,0))
 b7:W.heap[B7]? = some (.cells ed 68 (0,0))
 b8:W.heap[B8]? = some (.cells z 71 (0,0))
 b9:W.heap[B9]? = some (.cells #[tv,tl,.int .i64 ah,.int .i64 be,.int .i64 fm,.int .i64 tm,.int .i64 fo] 71 (0,0))
theorem CmpM.grow {w:World} {B5 B6 B7 B8 B9:Nat} {old now ed z:Array Value} {tv tl:Value} {ah be fm tm fo:Nat} {W W':World} (h:CmpM w B5 B6 B7 B8 B9 old now ed z tv tl ah be fm tm fo W) (g:W.grownBy W' none):CmpM w B5 B6 B7 B8 B9 old now ed z tv tl ah be fm tm fo W' :=
 ⟨xT h.gr g,h.lo8,h.lo9,h.ne,grow_new g h.b5,grow_new g h.b6,grow_new g h.b7,grow_new g h.b8,grow_new g h.b9⟩
theorem CmpM.set {w:World} {B5 B6 B7 B8 B9:Nat} {old now ed z:Array Value} {tv tl:Value} {ah be fm tm fo:Nat} {ah' be' fm' tm' fo':Nat} {W:World} (h:CmpM w B5 B6 B7 B8 B9 old now ed z tv tl ah be fm tm fo W) (i:Nat) (u:Value)
 (e:(#[tv,tl,.int .i64 ah,.int .i64 be,.int .i64 fm,.int .i64 tm,.int .i64 fo]:Array Value).setIfInBounds i u=#[tv,tl,.int .i64 ah',.int .i64 be',.int .i64 fm',.int .i64 tm',.int .i64 fo']):CmpM w B5 B6 B7 B8 B9 old now ed z tv tl ah' be' fm' tm' fo' (W.setCell ⟨B9,i,none⟩ u) :=
 have hlo:=h.lo9
 have hne:=h.ne
 ⟨ygs h.gr _ _ (by simp; omega),h.lo8,h.lo9,h.ne,by rw [Below.heap_setCell _ _ _ _ (by simp; omega)]; exact h.b5,by rw [Below.heap_setCell _ _ _ _ (by simp; omega)]; exact h.b6,by rw [Below.heap_setCell _ _ _ _ (by simp; omega)]; exact h.b7,by rw [Below.heap_setCell _ _ _ _ (by simp; omega)]; exact h.b8,by rw [yhs h.b9 i u,e]⟩
theorem cmp_boxes (w:World) (old now ed z:Array Value) (tv tl:Value) :
 CmpM w w.heap.size (w.heap.size+1) (w.heap.size+1+1) (w.heap.size+1+1+1) (w.heap.size+1+1+1+1) old now ed z tv tl 0 0 0 0 0 (((((w.alloc (.cells old 107)).alloc (.cells now 107)).alloc (.cells ed 68)).alloc (.cells z 71)).alloc (.cells #[tv,tl,.int .i64 0,.int .i64 0,.int .i64 0,.int .i64 0,.int .i64 0] 71)) where
 gr:=yga (yga (yga (yga (xG _ _ _) _) _) _) _
 lo8:=by omega
 lo9:=by omega
 ne:=by omega
 b5:=grow_new (xG _ _ _) (grow_new (xG _ _ _) (grow_new (xG _ _ _) (grow_new (xG _ _ none) (xN w _))))
 b6:=grow_new (xG _ _ _) (grow_new (xG _ _ _) (grow_new (xG _ _ none) (yhn _ _ _ (by simp))))
 b7:=grow_new (xG _ _ _) (grow_new (xG _ _ none) (yhn _ _ _ (by simp)))
 b8:=grow_new (xG _ _ none) (yhn _ _ _ (by simp))
 b9:=yhn _ _ _ (by simp)
theorem begins_len:∀ (T:List Tk) (n:Nat),(beginsL T n).length=T.length
 | [],_=>rfl
 | x::l,n=>by simp [beginsL,begins_len l]
theorem aheadL_drop (ms:List Mrk) (A:Nat) (Q:List Pc) (j f k:Nat) (h:j<Q.length):aheadL ms A (Q.drop j) f k=if A<Q[j].2.1+Q[j].2.2.2 then (f,k) else aheadL ms A (Q.drop (j+1)) (Q[j].2.1+Q[j].2.2.1) (if (kindM ms Q[j].1).toList.isEmpty=true then k else k+1):=by
 rw [List.drop_eq_getElem_cons h]
 rfl
theorem foundL_drop (f t:Nat) (Q:List Pc) (j k:Nat) (h:j<Q.length):foundL f t (Q.drop j) k=foundL f t (Q.drop (j+1)) (if f≤Q[j].2.1∧Q[j].2.1<t then k+1 else k):=by
 rw [List.drop_eq_getElem_cons h]
 rfl
theorem behindL_drop (n n2 t:Nat) (B l:List Nat) (j k:Nat) (h:j<l.length):behindL n n2 t B (l.drop j) k=behindL n n2 t B (l.drop (j+1)) (if t≤l[j]∧B.any (fun a=>n-a == n2-l[j])=true then k+1 else k):=by
 rw [List.drop_eq_getElem_cons h]
 rfl
set_option maxHeartbeats 8000000 in
theorem compared_any (ms:List Mrk) (mv:Option Addr) (mc:Nat) (s s2 tl tl2 x:ByteArray) (pv qv tv uv:Value) (P Q:List Pc) (T U:List Tk) (A:Nat) (O:Int) (w:World) (hs:s.size≤100000) (hs2:s2.size≤100000) (hx:x.size≤100000) (hA:A≤100000)
 (hms:ms=[]∨∃ b off,mv=some ⟨b,off,none⟩∧MrkAt w ms b off) (hP:PcAt w pv P) (hQ:PcAt w qv Q) (hT:TkAt w tv T) (hU:TkAt w uv U) (hPl:P.length≤100000) (hQl:Q.length≤100000) (hTl:T.length≤100000) (hUl:U.length≤100000)
 (hPa:∀ y∈P,y.2.1≤s.size) (hQa:∀ y∈Q,y.2.1≤s2.size∧y.2.2.1≤100000∧y.2.2.2≤200000∧y.1<ms.length) (hTs:tkSum T≤s.size) (hUs:tkSum U≤s2.size) :
 Calls Tryz.prog 61 #[.slice mv ms.length mc,.agg #[.string s,pv,tv,.string tl],.agg #[.string s2,qv,uv,.string tl2],.agg #[.int .i64 (A:Nat),.int .i64 O,.string x]] w fun e w' =>
  e=.returned (.agg #[uv,.string tl2,.int .i64 (aheadL ms A Q 0 0).2,.int .i64 (behindL s.size s2.size (meetL s.size s2.size (atsL P) (A+x.size) Q) (beginsL T 0) (beginsL U 0) 0),.int .i64 (aheadL ms A Q 0 0).1,.int .i64 (meetL s.size s2.size (atsL P) (A+x.size) Q),.int .i64 (foundL (aheadL ms A Q 0 0).1 (meetL s.size s2.size (atsL P) (A+x.size) Q) Q 0)])∧w.grownBy w' none:=by
 obtain ⟨rf,ra,hr1⟩:∃ a b,aheadL ms A Q 0 0=(a,b):=⟨_,_,rfl⟩
 obtain ⟨rt,hr2⟩:∃ a,meetL s.size s2.size (atsL P) (A+x.size) Q=a:=⟨_,rfl⟩
 rw [hr1,hr2]
 simp only
 obtain ⟨rfo,hr3⟩:∃ a,foundL rf rt Q 0=a:=⟨_,rfl⟩
 obtain ⟨rb,hr4⟩:∃ a,behindL s.size s2.size rt (beginsL T 0) (beginsL U 0) 0=a:=⟨_,rfl⟩
 rw [hr3,hr4]
 have HR1:=hid hr1
 have HR2:=hid hr2
 have HR3:=hid hr3
 have HR4:=hid hr4
 have HME:=hid (fun (W:World) (g:w.grownBy W none)=>meeting_any s s2 tl tl2 pv qv tv uv P Q (A+x.size) W (by omega) (by omega) (by omega) (hP.grow g) (hQ.grow g) (by omega) (by omega) hPa (fun y hy=>(hQa y hy).1) (by obtain ⟨a,c,h,_⟩:=hT; exact ⟨a,_,c,h⟩) (by obtain ⟨a,c,h,_⟩:=hU; exact ⟨a,_,c,h⟩))
 obtain ⟨pa,pc,rfl,hP⟩:=hP
 obtain ⟨qa,qc,rfl,hQ⟩:=hQ
 obtain ⟨ta,tc,rfl,hT2⟩:=id hT
 obtain ⟨ua,uc,rfl,hU2⟩:=id hU
 have HBT:=hid (fun (W:World) (g:w.grownBy W none)=>cutBegins_any s tl pa P.length pc _ T W (hT.grow g) (by omega) (by omega))
 have HBU:=hid (fun (W:World) (g:w.grownBy W none)=>cutBegins_any s2 tl2 qa Q.length qc _ U W (hU.grow g) (by omega) (by omega))
 have HMS:=hid hms
 have HQC:=hid hQ
 have HQA:=hid hQa
 have HTU:=hid (And.intro hTl hUl)
 have HTS:=hid (And.intro hTs hUs)
 obtain ⟨n,hn⟩:∃ n,P.length=n:=⟨_,rfl⟩
 obtain ⟨m,hm⟩:∃ m,Q.length=m:=⟨_,rfl⟩
 have HM:=hid hm
 obtain ⟨tn,htn⟩:∃ n,T.length=n:=⟨_,rfl⟩
 obtain ⟨un,hun⟩:∃ n,U.length=n:=⟨_,rfl⟩
 obtain ⟨mn,hmn⟩:∃ n,ms.length=n:=⟨_,rfl⟩
 have HMN:=hid hmn
 rw [hn,htn] at HBT
 rw [hm,hun] at HBU
 rw [hn,hm,htn,hun] at HME
 rw [hr2] at HME
 rw [hn,hm,htn,hun,hmn]
 rw [hm] at hQl
 clear hr1 hr2 hr3 hr4 hP hQ hT2 hU2 hms hQa hPa hTs hUs hn hm htn hun hmn hPl hTl hUl hT hU
 obtain ⟨L,hL⟩:∃ L,A+x.size=L:=⟨_,rfl⟩
 rw [hL] at HME
 have hwL:IntKind.i64.wrap ((A:Int)+x.size)=(L:Int):=(xI _ (by omega)).trans (by omega)
 have HWL:=hid hwL
 clear hL hwL
 go_enter Tryz.func61,Tryz.ntmps61
 go_upto_region 2 with (fail)
 have HC0:=hid (cmp_boxes w #[.string s,.slice pa n pc,.slice ta tn tc,.string tl] #[.string s2,.slice qa m qc,.slice ua un uc,.string tl2] #[.int .i64 (A:Nat),.int .i64 O,.string x] #[.slice none 0 0,.string ⟨#[]⟩,.int .i64 0,.int .i64 0,.int .i64 0,.int .i64 0,.int .i64 0] (.slice ua un uc) (.string tl2))
 generalize ((((w.alloc _).alloc _).alloc _).alloc _).alloc _=w1 at HC0 ⊢
 generalize w.heap.size+1+1+1+1=B9 at HC0 ⊢
 generalize w.heap.size+1+1+1=B8 at HC0 ⊢
 generalize w.heap.size+1+1=B7 at HC0 ⊢
 generalize w.heap.size+1=B6 at HC0 ⊢
 generalize w.heap.size=B5 at HC0 ⊢
 have d1:=xC HC0.out.b6 1
 simp only [xGe,xGz,xGs] at d1
 go_upto_block 0 with (fail)
 go_cut [] (fun wx=>Hid (CmpM w B5 B6 B7 B8 B9 #[.string s,.slice pa n pc,.slice ta tn tc,.string tl] #[.string s2,.slice qa m qc,.slice ua un uc,.string tl2] #[.int .i64 (A:Nat),.int .i64 O,.string x] #[.slice none 0 0,.string ⟨#[]⟩,.int .i64 0,.int .i64 0,.int .i64 0,.int .i64 0,.int .i64 0] (.slice ua un uc) (.string tl2) ra 0 rf 0 0 wx))
 case first =>
  clear d1
  go_wp2_with fail
  go_loopw [25] (fun iv wr=>∃ (j f k:Nat),j≤m∧k≤j∧f≤200000∧iv=.int .i64 j∧Hid (aheadL ms A (Q.drop j) f k=(rf,ra))∧Hid (CmpM w B5 B6 B7 B8 B9 #[.string s,.slice pa n pc,.slice ta tn tc,.string tl] #[.string s2,.slice qa m qc,.slice ua un uc,.string tl2] #[.int .i64 (A:Nat),.int .i64 O,.string x] #[.slice none 0 0,.string ⟨#[]⟩,.int .i64 0,.int .i64 0,.int .i64 0,.int .i64 0,.int .i64 0] (.slice ua un uc) (.string tl2) k 0 f 0 0 wr)) (fun iv _=>m-(intOf iv).toNat)
  case atStart=>exact ⟨0,0,0,Nat.zero_le _,Nat.le_refl _,Nat.zero_le _,rfl,hid (by simpa using HR1.out),HC0⟩
  case round =>
   obtain ⟨j,f,k,hj,hk,hf,rfl,HD,HC⟩:=hrel
   by_cases hlt:j<m
   · have hltT:j<Q.length:=by rw [HM.out]; exact hlt
     obtain ⟨g,o,e1,c1,c2,c3,c4⟩:=pc_elem (pc_cells HQC.out HC.out.gr) j hltT
     subst e1
     have HD2:=hid ((aheadL_drop ms A Q j f k hltT).symm.trans HD.out)
     have hx:=HQA.out Q[j] (List.getElem_mem hltT)
     generalize Q[j]=y at c1 c2 c3 c4 HD2 hx
     obtain ⟨ym,ya,yl,ys⟩:=y
     simp only at c1 c2 c3 c4 HD2 hx
     obtain ⟨hy1,hy2,hy3,hy4⟩:=hx
     have i1:(0:Int)≤(j:Int):=by omega
     have i2:(j:Int)<(m:Int):=by omega
     go_upto_region 5 with (fail)
     have hbx:B9<wr.heap.size:=xL HC.out.b9
     have HXB:=hid (xN wr (.cells #[.int .i64 (ym:Nat),.int .i64 (ya:Nat),.int .i64 (yl:Nat),.int .i64 (ys:Nat)] 43))
     have HXC:=hid (HC.out.grow (xG wr (.cells #[.int .i64 (ym:Nat),.int .i64 (ya:Nat),.int .i64 (yl:Nat),.int .i64 (ys:Nat)] 43) none))
     generalize wr.alloc (.cells #[.int .i64 (ym:Nat),.int .i64 (ya:Nat),.int .i64 (yl:Nat),.int .i64 (ys:Nat)] 43)=wx at HXB HXC ⊢
     generalize wr.heap.size=bx at HXB hbx ⊢
     have y1:=xC HXB.out 1
     have y2:=xC HXB.out 2
     have y3:=xC HXB.out 3
     have e0:=xC HXC.out.b7 0
     have x4:=xC HXC.out.b9 4
     simp only [xGe,xGz,xGs] at y1 y2 y3 e0 x4
     have z4:=yfb HXC.out.b9 4
     have hw1:IntKind.i64.wrap ((ya:Int)+ys)=(ya:Int)+ys:=xI _ (by omega)
     clear c1 c2 c3 c4 i1 i2
     by_cases h1:A<ya+ys
     · have q1:decide ((A:Int)<(ya:Int)+ys)=true:=decide_eq_true (by omega)
       have HZ:=hid (show (f,k)=(rf,ra) by rw [← HD2.out,if_pos h1])
       clear HD HD2 h1
       go_wp2_with fail
       go_meet
       have hz:=HZ.out
       simp only [Prod.mk.injEq] at hz
       obtain ⟨rfl,rfl⟩:=hz
       exact HXC
     · have q1:decide ((A:Int)<(ya:Int)+ys)=false:=decide_eq_false (by omega)
       have HD3:=hid (show aheadL ms A (Q.drop (j+1)) (ya+yl) (if (kindM ms ym).toList.isEmpty=true then k else k+1)=(rf,ra) by rw [← HD2.out,if_neg h1])
       clear HD HD2 h1
       obtain ⟨e,he⟩:∃ e,ya+yl=e:=⟨_,rfl⟩
       rw [he] at HD3
       have hel:e≤200000:=by omega
       have hw2:IntKind.i64.wrap ((ya:Int)+yl)=(e:Int):=(xI _ (by omega)).trans (by omega)
       clear he
       go_upto_region 7 with (fail)
       have HX5:=hid (HXC.out.set (fm':=e) 4 (.int .i64 (e:Nat)) rfl)
       have HB5:=hid ((Below.heap_setCell wx ⟨B9,4,none⟩ (.int .i64 (e:Nat)) bx (by simp; omega)).trans HXB.out)
       generalize wx.setCell ⟨B9,4,none⟩ (.int .i64 (e:Nat))=w5 at HX5 HB5 ⊢
       clear HXB HXC HC y1 y2 y3 e0 x4 z4 hw1 hw2 q1
       have y0:=xC HB5.out 0
       have z2:=xC HX5.out.b9 2
       simp only [xGe,xGz,xGs] at y0 z2
       have z3:=yfb HX5.out.b9 2
       rcases HMS.out with h0 | ⟨b,off,hav,hMA⟩
       · exfalso
         rw [h0] at hy4
         simp at hy4
       subst hav
       have m0:=ycg (MrkAt.at_ ms b off hMA ym hy4).1 HX5.out.gr
       have hkm:kindM ms ym=ms[ym].kind:=by simp [kindM,List.getElem?_eq_getElem hy4]
       rw [← hkm] at m0
       generalize kindM ms ym=kd at m0 HD3
       have hym:(ym:Int)<(mn:Int):=by rw [← HMN.out]; omega
       have hw3:IntKind.i64.wrap ((k:Int)+1)=((k+1:Nat):Int):=(xI _ (by omega)).trans (by omega)
       clear hkm hMA hy4
       by_cases hkd:kd.toList.isEmpty=true
       · have HZ:=hid (show aheadL ms A (Q.drop (j+1)) e k=(rf,ra) by rw [← HD3.out,if_pos hkd])
         clear HD3
         go_wp2_with fail
         go_roundw
         case measure=>simp [intOf]; omega
         case rel=>exact ⟨j+1,e,k,by omega,by omega,hel,by go_num,HZ,HX5⟩
       · replace hkd:kd.toList.isEmpty=false:=by simpa using hkd
         have HZ:=hid (show aheadL ms A (Q.drop (j+1)) e (k+1)=(rf,ra) by rw [← HD3.out,if_neg (by rw [hkd]; decide)])
         clear HD3
         go_wp2_with fail
         go_roundw
         case measure=>simp [intOf]; omega
         case rel=>exact ⟨j+1,e,k+1,by omega,by omega,hel,by go_num,HZ,hid (HX5.out.set (ah':=k+1) 2 (.int .i64 ((k+1:Nat):Int)) rfl)⟩
   · obtain rfl:j=m:=by omega
     have HZ:=hid (show (f,k)=(rf,ra) by rw [← HD.out,List.drop_eq_nil_of_le (by rw [HM.out]; exact Nat.le_refl _)]; rfl)
     clear HD
     go_wp2_with fail
     go_meet
     have hz:=HZ.out
     simp only [Prod.mk.injEq] at hz
     obtain ⟨rfl,rfl⟩:=hz
     exact HC
 case rest =>
  have HC1:=hcut
  clear hcut HC0 HR1 HMS d1
  obtain ⟨w2,rfl⟩:∃ v:World,v=wc:=⟨_,rfl⟩
  obtain ⟨a0,a1,a2,a3⟩:=cb4 HC1.out.b5
  obtain ⟨n0,n1,n2,n3⟩:=cb4 HC1.out.b6
  have e0:=xC HC1.out.b7 0
  have e2:=xC HC1.out.b7 2
  simp only [xGe,xGz,xGs] at e0 e2
  have hwL:=HWL.out
  go_wp2_with fail
  clear a0 a1 a2 a3 n0 n1 n2 n3 e0 e2 hwL
  refine (HME.out w2 HC1.out.gr).mono ?_
  rintro e w3 ⟨rfl,g3⟩
  have HC3:=hid (HC1.out.grow g3)
  have x5:=xC HC3.out.b9 5
  simp only [xGe,xGz,xGs] at x5
  have z5:=yfb HC3.out.b9 5
  clear g3 HC1 HME HWL
  go_upto_region 11 with (fail)
  have HC4:=hid (HC3.out.set (tm':=rt) 5 (.int .i64 (rt:Nat)) rfl)
  generalize w3.setCell ⟨B9,5,none⟩ (.int .i64 (rt:Nat))=w4 at HC4 ⊢
  clear x5 z5 HC3
  have d1:=xC HC4.out.b6 1
  simp only [xGe,xGz,xGs] at d1
  go_upto_block 2 with (fail)
  clear d1
  go_cut [] (fun wx=>Hid (CmpM w B5 B6 B7 B8 B9 #[.string s,.slice pa n pc,.slice ta tn tc,.string tl] #[.string s2,.slice qa m qc,.slice ua un uc,.string tl2] #[.int .i64 (A:Nat),.int .i64 O,.string x] #[.slice none 0 0,.string ⟨#[]⟩,.int .i64 0,.int .i64 0,.int .i64 0,.int .i64 0,.int .i64 0] (.slice ua un uc) (.string tl2) ra 0 rf rt rfo wx))
  case first =>
   go_wp2_with fail
   go_loopw [68] (fun iv wr=>∃ (j k:Nat),j≤m∧k≤j∧iv=.int .i64 j∧Hid (foundL rf rt (Q.drop j) k=rfo)∧Hid (CmpM w B5 B6 B7 B8 B9 #[.string s,.slice pa n pc,.slice ta tn tc,.string tl] #[.string s2,.slice qa m qc,.slice ua un uc,.string tl2] #[.int .i64 (A:Nat),.int .i64 O,.string x] #[.slice none 0 0,.string ⟨#[]⟩,.int .i64 0,.int .i64 0,.int .i64 0,.int .i64 0,.int .i64 0] (.slice ua un uc) (.string tl2) ra 0 rf rt k wr)) (fun iv _=>m-(intOf iv).toNat)
   case atStart=>exact ⟨0,0,Nat.zero_le _,Nat.le_refl _,rfl,hid (by simpa using HR3.out),HC4⟩
   case round =>
    obtain ⟨j,k,hj,hk,rfl,HD,HC⟩:=hrel
    by_cases hlt:j<m
    · have hltT:j<Q.length:=by rw [HM.out]; exact hlt
      obtain ⟨g,o,e1,c1,c2,c3,c4⟩:=pc_elem (pc_cells HQC.out HC.out.gr) j hltT
      subst e1
      have HD2:=hid ((foundL_drop rf rt Q j k hltT).symm.trans HD.out)
      generalize Q[j]=y at c1 c2 c3 c4 HD2
      obtain ⟨ym,ya,yl,ys⟩:=y
      simp only at c1 c2 c3 c4 HD2
      have i1:(0:Int)≤(j:Int):=by omega
      have i2:(j:Int)<(m:Int):=by omega
      go_upto_region 14 with (fail)
      have HXB:=hid (xN wr (.cells #[.int .i64 (ym:Nat),.int .i64 (ya:Nat),.int .i64 (yl:Nat),.int .i64 (ys:Nat)] 43))
      have HXC:=hid (HC.out.grow (xG wr (.cells #[.int .i64 (ym:Nat),.int .i64 (ya:Nat),.int .i64 (yl:Nat),.int .i64 (ys:Nat)] 43) none))
      generalize wr.alloc (.cells #[.int .i64 (ym:Nat),.int .i64 (ya:Nat),.int .i64 (yl:Nat),.int .i64 (ys:Nat)] 43)=wx at HXB HXC ⊢
      generalize wr.heap.size=bx at HXB ⊢
      have y1:=xC HXB.out 1
      have x4:=xC HXC.out.b9 4
      have x5:=xC HXC.out.b9 5
      have x6:=xC HXC.out.b9 6
      simp only [xGe,xGz,xGs] at y1 x4 x5 x6
      have z6:=yfb HXC.out.b9 6
      have hw3:IntKind.i64.wrap ((k:Int)+1)=((k+1:Nat):Int):=(xI _ (by omega)).trans (by omega)
      clear c1 c2 c3 c4 i1 i2
      by_cases h1:rf≤ya
      · have q1:decide ((rf:Int)≤(ya:Int))=true:=decide_eq_true (by omega)
        by_cases h2:ya<rt
        · have q2:decide ((ya:Int)<(rt:Int))=true:=decide_eq_true (by omega)
          have HZ:=hid (show foundL rf rt (Q.drop (j+1)) (k+1)=rfo by rw [← HD2.out,if_pos ⟨h1,h2⟩])
          clear HD HD2
          go_wp2_with fail
          go_roundw
          case measure=>simp [intOf]; omega
          case rel=>exact ⟨j+1,k+1,by omega,by omega,by go_num,HZ,hid (HXC.out.set (fo':=k+1) 6 (.int .i64 ((k+1:Nat):Int)) rfl)⟩
        · have q2:decide ((ya:Int)<(rt:Int))=false:=decide_eq_false (by omega)
          have HZ:=hid (show foundL rf rt (Q.drop (j+1)) k=rfo by rw [← HD2.out,if_neg (fun h=>h2 h.2)])
          clear HD HD2
          go_wp2_with fail
          go_roundw
          case measure=>simp [intOf]; omega
          case rel=>exact ⟨j+1,k,by omega,by omega,by go_num,HZ,HXC⟩
      · have q1:decide ((rf:Int)≤(ya:Int))=false:=decide_eq_false (by omega)
        have HZ:=hid (show foundL rf rt (Q.drop (j+1)) k=rfo by rw [← HD2.out,if_neg (fun h=>h1 h.1)])
        clear HD HD2
        go_wp2_with fail
        go_roundw
        case measure=>simp [intOf]; omega
        case rel=>exact ⟨j+1,k,by omega,by omega,by go_num,HZ,HXC⟩
    · obtain rfl:j=m:=by omega
      have HZ:=hid (show k=rfo by rw [← HD.out,List.drop_eq_nil_of_le (by rw [HM.out]; exact Nat.le_refl _)]; rfl)
      clear HD
      go_wp2_with fail
      go_meet
      obtain rfl:=HZ.out
      exact HC
  case rest =>
   have HC5:=hcut
   clear hcut HC4 HR3 HQC HQA
   obtain ⟨w5,rfl⟩:∃ v:World,v=wc:=⟨_,rfl⟩
   obtain ⟨a0,a1,a2,a3⟩:=cb4 HC5.out.b5
   have HBL:=hid (And.intro (begins_le T 0) (begins_len T 0))
   have HBK:=hid (And.intro (begins_le U 0) (begins_len U 0))
   obtain ⟨BT,hBT⟩:∃ b,beginsL T 0=b:=⟨_,rfl⟩
   rw [hBT] at HBT HR4 HBL
   obtain ⟨BU,hBU⟩:∃ b,beginsL U 0=b:=⟨_,rfl⟩
   rw [hBU] at HBU HR4 HBK
   clear hBT hBU
   have hBTl:BT.length≤100000:=by rw [HBL.out.2]; exact HTU.out.1
   have hBUl:BU.length≤100000:=by rw [HBK.out.2]; exact HTU.out.2
   go_upto_region 17 with (fail)
   go_cut [14] (fun v wx=>∃ mm,v=.map (some mm)∧Hid (IntSet wx mm BT.length (fun d=>BT.any fun a=>s.size-a == d))∧Hid (w5.heap.size≤mm)∧Hid (w5.grownBy wx none))
   case first =>
    go_region_law (first | (have tok:=a0; go_simp; go_at_call 88; go_must (refine (HBT.out _ (by repeat (first | exact HC5.out.gr | apply grow_drew))).mono ?_; rintro e w6 ⟨v6,rfl,o6,g6⟩; have gg:w5.grownBy w6 none:=(by first | exact g6 | exact grow_undrew g6 | exact grow_undrew (grow_undrew g6) | exact grow_undrew (grow_undrew (grow_undrew g6))); have b0:=ycg a0 gg; have HI6:=hid (Ints.of_own o6); have HG6:=hid gg; clear g6 gg o6)) | (go_simp; go_at_call 87; go_must (refine (fromEnd_any s BT _ _ (by omega) (by omega) (fun a ha=>by have h1:=HBL.out.1 a ha; have h2:=HTS.out.1; omega) (by first | exact HI6.out | exact HI6.out.grow (by repeat (first | exact grow_self _ | apply grow_drew)))).mono ?_; rintro e w7 ⟨mm,rfl,hset,hmm,g7⟩)))
    all_goals (go_wp2_with fail; go_meet)
    all_goals
     have gT:w5.grownBy w7 none:=xT HG6.out (by first | exact g7 | exact grow_undrew g7 | exact grow_undrew (grow_undrew g7))
     have hs6:=HG6.out.size
     exact ⟨mm,rfl,hid (by first | exact hset | exact hset.kept (grow_drew (grow_self _)) (by simp)),hid (by have:=HG6.out.size; first | omega | (simp at hmm; omega)),hid (by first | exact gT | exact grow_drew gT)⟩
   case rest =>
    obtain ⟨mm,rfl,HS,HMM,HG⟩:=hcut
    obtain ⟨w7,rfl⟩:∃ v:World,v=wc:=⟨_,rfl⟩
    have HC7:=hid (HC5.out.grow HG.out)
    have hmm:B9<mm:=Nat.lt_of_lt_of_le (xL HC5.out.b9) HMM.out
    clear HC5 HG HMM HBT HBL a0 a1 a2 a3
    obtain ⟨n0,n1,n2,n3⟩:=cb4 HC7.out.b6
    go_wp2_with fail
    refine (HBU.out w7 HC7.out.gr).mono ?_
    rintro e w8 ⟨v8,rfl,o8,g8⟩
    have HC8:=hid (HC7.out.grow g8)
    have HS8:=hid (HS.out.kept g8 (by simp))
    have hw7:B9<w7.heap.size:=xL HC7.out.b9
    have hob:=yob o8
    obtain ⟨a8,c8,rfl,hc8⟩:=(Ints.of_own o8).elem
    rw [natI_len] at hc8
    rw [natI_len]
    have HI8:=hid (show ∀ j (h:j<BU.length),∃ g o,a8=some ⟨g,o,none⟩∧B9<g∧w8.cell? ⟨g,o+j,none⟩=some (.int .i64 (BU[j]:Nat)) from fun j h=>by
     obtain ⟨g,o,e,hc⟩:=hc8 j h
     subst e
     have h2:=(hob g rfl).1
     exact ⟨g,o,rfl,by omega,by simpa [natI,h] using hc⟩)
    clear HC7 HS HBU n0 n1 n2 n3 o8 g8 hc8 hob hw7
    go_wp2_with fail
    go_loopw [97] (fun iv wr=>∃ (j k:Nat),j≤BU.length∧k≤j∧iv=.int .i64 j∧Hid (behindL s.size s2.size rt BT (BU.drop j) k=rb)∧Hid (CmpM w B5 B6 B7 B8 B9 #[.string s,.slice pa n pc,.slice ta tn tc,.string tl] #[.string s2,.slice qa m qc,.slice ua un uc,.string tl2] #[.int .i64 (A:Nat),.int .i64 O,.string x] #[.slice none 0 0,.string ⟨#[]⟩,.int .i64 0,.int .i64 0,.int .i64 0,.int .i64 0,.int .i64 0] (.slice ua un uc) (.string tl2) ra k rf rt rfo wr)∧Hid (IntSet wr mm BT.length (fun d=>BT.any fun a=>s.size-a == d))∧Hid (∀ j (h:j<BU.length),∃ g o,a8=some ⟨g,o,none⟩∧B9<g∧wr.cell? ⟨g,o+j,none⟩=some (.int .i64 (BU[j]:Nat)))) (fun iv _=>BU.length-(intOf iv).toNat)
    case atStart=>exact ⟨0,0,Nat.zero_le _,Nat.le_refl _,rfl,hid (by simpa using HR4.out),HC8,HS8,HI8⟩
    case round =>
     obtain ⟨j,k,hj,hk,rfl,HD,HC,HS,HI⟩:=hrel
     by_cases hlt:j<BU.length
     · obtain ⟨g,o,e1,hg9,c1⟩:=HI.out j hlt
       subst e1
       have HD2:=hid ((behindL_drop s.size s2.size rt BT BU j k hlt).symm.trans HD.out)
       have hb:=HBK.out.1 BU[j] (List.getElem_mem hlt)
       have hb2:=HTS.out.2
       generalize BU[j]=y at c1 HD2 hb
       have hy:y≤s2.size:=by omega
       clear hb hb2
       have i1:(0:Int)≤(j:Int):=by omega
       have i2:(j:Int)<(BU.length:Int):=by omega
       have x3:=xC HC.out.b9 3
       have x5:=xC HC.out.b9 5
       have n0:=xC HC.out.b6 0
       simp only [xGe,xGz,xGs] at x3 x5 n0
       have z3:=yfb HC.out.b9 3
       have hw3:IntKind.i64.wrap ((k:Int)+1)=((k+1:Nat):Int):=(xI _ (by omega)).trans (by omega)
       have hw:IntKind.i64.wrap ((s2.size:Int)-y)=(s2.size:Int)-y:=xI _ (by omega)
       have hlook:=HS.out.look (s2.size-y) (by omega)
       have hsub:((s2.size-y:Nat):Int)=(s2.size:Int)-(y:Int):=by omega
       rw [hsub] at hlook
       clear hsub
       by_cases h1:rt≤y
       · have q1:decide ((rt:Int)≤(y:Int))=true:=decide_eq_true (by omega)
         cases h2:(BT.any fun a=>s.size-a == s2.size-y) with
         | true =>
          rw [h2] at hlook
          have HZ:=hid (show behindL s.size s2.size rt BT (BU.drop (j+1)) (k+1)=rb by rw [← HD2.out,if_pos ⟨h1,h2⟩])
          clear HD HD2 h2
          have hmn:mm≠B9:=by omega
          go_wp2_with fail
          go_roundw
          case measure=>simp [intOf]; omega
          case rel=>exact ⟨j+1,k+1,by omega,by omega,by go_num,HZ,hid (HC.out.set (be':=k+1) 3 (.int .i64 ((k+1:Nat):Int)) rfl),hid (HS.out.kept (Go.Lib.grownBy_setCell wr B9 3 _) (by simpa using hmn)),hid (fun j h=>by
           obtain ⟨g,o,e,h9,hc⟩:=HI.out j h
           have hh:∀ u,(wr.setCell ⟨B9,3,none⟩ u).heap[g]? = wr.heap[g]?:=fun u=>Below.heap_setCell _ _ _ _ (by simp; omega)
           exact ⟨g,o,e,h9,by rw [← hc]; simp only [World.cell?,hh]⟩)⟩
         | false =>
          rw [h2] at hlook
          have HZ:=hid (show behindL s.size s2.size rt BT (BU.drop (j+1)) k=rb by rw [← HD2.out,if_neg (by rw [h2]; simp)])
          clear HD HD2 h2
          go_wp2_with fail
          go_roundw
          case measure=>simp [intOf]; omega
          case rel=>exact ⟨j+1,k,by omega,by omega,by go_num,HZ,HC,HS,HI⟩
       · have q1:decide ((rt:Int)≤(y:Int))=false:=decide_eq_false (by omega)
         have HZ:=hid (show behindL s.size s2.size rt BT (BU.drop (j+1)) k=rb by rw [← HD2.out,if_neg (fun h=>h1 h.1)])
         clear HD HD2 hlook
         go_wp2_with fail
         go_roundw
         case measure=>simp [intOf]; omega
         case rel=>exact ⟨j+1,k,by omega,by omega,by go_num,HZ,HC,HS,HI⟩
     · obtain rfl:j=BU.length:=by omega
       have HZ:=hid (show k=rb by rw [← HD.out,List.drop_length]; rfl)
       obtain rfl:=HZ.out
       clear HZ HD HS HI HS8 HI8 HC8
       obtain ⟨r0,r1,r2,r3,r4,r5,r6⟩:=cb7 HC.out.b9
       obtain ⟨z0,z1,z2,z3,z4,z5,z6⟩:=cb7 HC.out.b8
       obtain ⟨f0,f1,f2,f3,f4,f5,f6⟩:=fb7 HC.out.b8
       go_wp2_with fail
       clear r0 r1 r2 r3 r4 r5 r6 z0 z1 z2 z3 z4 z5 z6 f0 f1 f2 f3 f4 f5 f6
       have h8:=yhs (yhs (yhs (yhs (yhs (yhs (yhs HC.out.b8 0 (.slice ua un uc)) 1 (.string tl2)) 2 (.int .i64 (ra:Nat))) 3 (.int .i64 (k:Nat))) 4 (.int .i64 (rf:Nat))) 5 (.int .i64 (rt:Nat))) 6 (.int .i64 (rfo:Nat))
       simp only [xSi,xSs,xSz] at h8
       have hlo:=HC.out.lo8
       have HG9:=hid (ygs (ygs (ygs (ygs (ygs (ygs (ygs (HC.out.gr) ⟨B8,0,none⟩ (.slice ua un uc) (by simp; omega)) ⟨B8,1,none⟩ (.string tl2) (by simp; omega)) ⟨B8,2,none⟩ (.int .i64 (ra:Nat)) (by simp; omega)) ⟨B8,3,none⟩ (.int .i64 (k:Nat)) (by simp; omega)) ⟨B8,4,none⟩ (.int .i64 (rf:Nat)) (by simp; omega)) ⟨B8,5,none⟩ (.int .i64 (rt:Nat)) (by simp; omega)) ⟨B8,6,none⟩ (.int .i64 (rfo:Nat)) (by simp; omega))
       generalize (((((((wr.setCell ⟨B8,0,none⟩ (.slice ua un uc)).setCell ⟨B8,1,none⟩ (.string tl2)).setCell ⟨B8,2,none⟩ (.int .i64 (ra:Nat))).setCell ⟨B8,3,none⟩ (.int .i64 (k:Nat))).setCell ⟨B8,4,none⟩ (.int .i64 (rf:Nat))).setCell ⟨B8,5,none⟩ (.int .i64 (rt:Nat))).setCell ⟨B8,6,none⟩ (.int .i64 (rfo:Nat)))=w9 at h8 HG9 ⊢
       obtain ⟨r0,r1,r2,r3,r4,r5,r6⟩:=cb7 h8
       clear h8
       exact bodyPost_ret (v:=.agg #[.slice ua un uc,.string tl2,.int .i64 (ra:Nat),.int .i64 (k:Nat),.int .i64 (rf:Nat),.int .i64 (rt:Nat),.int .i64 (rfo:Nat)]) (by simp [results,Tryz.results61,go_sem,r0,r1,r2,r3,r4,r5,r6]) rfl ⟨rfl,HG9.out⟩
open Go.RowKit
theorem joined_any (T:List Tk) (tail:ByteArray) (v:Value) (w:World) (hT:TkAt w v T) (hn:T.length≤1000000) (hs:tail.size+tkSum T≤1000000) :
 Calls Tryz.prog 20 #[v,.string tail] w fun e w'=>e=.returned (.tuple #[.string (joinedM T tail).1,.int .i64 (joinedM T tail).2])∧w.grownBy w' none:=by
 have HT:=hid hT
 obtain ⟨av,cap,rfl,hel⟩:=hT
 have HEL:=hid hel
 clear hel
 obtain ⟨P,hP⟩:∃ P:Ending→World→Prop,(fun e w'=>e=.returned (.tuple #[.string (joinedM T tail).1,.int .i64 (joinedM T tail).2])∧w.grownBy w' none)=P:=⟨_,rfl⟩
 rw [hP]
 have HP:=hid hP
 have HS:=hid hs
 obtain ⟨N,hN⟩:∃ N,T.length=N:=⟨_,rfl⟩
 have HN:=hid hN
 rw [hN] at hn ⊢
 clear hP hN hs
 by_cases h1:2000<N
 · have h1i:(2000:Int)<N:=by omega
   have HJ:=hid (show joinedM T tail=(⟨#[]⟩,2) by rw [joinedM,HN.out,if_pos h1])
   clear h1
   go_enter Tryz.func20,Tryz.ntmps20
   go_wp2_with fail
   rw [← HP.out]
   first | exact ⟨by rw [HJ.out]; rfl,grow_self w⟩ | (go_ret2; exact ⟨by rw [HJ.out]; rfl,grow_self w⟩)
 · have h1i:¬ (2000:Int)<N:=by omega
   have HJ:=hid (show joinedM T tail=if 20000<tail.size+tkSum T then (⟨#[]⟩,2) else (⟨(tkText T++tail.data.toList).toArray⟩,0) by rw [joinedM,HN.out,if_neg h1])
   clear h1
   go_enter Tryz.func20,Tryz.ntmps20
   go_wp2_with fail
   go_loopw [6,19] (fun c i wr=>∃ (j k:Nat),j≤N∧i=.int .i64 j∧c=.int .i64 k∧k≤1000000∧Hid (k+tkSum (T.drop j)=tail.size+tkSum T)∧Hid (w.grownBy wr none)) (fun _ i _=>N-(intOf i).toNat)
   case atStart=>exact ⟨0,tail.size,Nat.zero_le _,rfl,rfl,by have:=HS.out; omega,hid (by simp),hid (grow_self w)⟩
   case round =>
    obtain ⟨j,k,hj,rfl,rfl,hk,HE,HG⟩:=hrel
    by_cases hlt:j<N
    · have hjT:j<T.length:=by rw [HN.out]; exact hlt
      obtain ⟨g,o,rfl,d0,d1,d2⟩:=tk_elem HEL.out j hjT
      have hE:=HE.out
      rw [List.drop_eq_getElem_cons hjT,tkSum] at hE
      obtain ⟨⟨kk,l,t⟩,hx⟩:∃ x,T[j]=x:=⟨_,rfl⟩
      rw [hx] at hE d0 d1 d2
      simp only at hE d0 d1 d2
      replace d0:=ycg d0 HG.out
      replace d1:=ycg d1 HG.out
      replace d2:=ycg d2 HG.out
      have HE2:=hid (show (k+(l.size+t.size))+tkSum (T.drop (j+1))=tail.size+tkSum T by omega)
      have hk2:k+(l.size+t.size)≤1000000:=by have:=HS.out; omega
      have hl:l.size≤1000000:=by omega
      have ht:t.size≤1000000:=by omega
      have HG2:=hid (yga HG.out (.cells #[.string kk,.string l,.string t] 66))
      clear hx hE HE hjT
      go_wp2_with fail
      go_roundw
      case rel=>exact ⟨j+1,k+(l.size+t.size),by omega,by go_num,by go_num,hk2,HE2,HG2⟩
      case measure=>simp [intOf]; omega
    · obtain rfl:N=j:=by omega
      have HE2:=hid (show k=tail.size+tkSum T by have:=HE.out; rw [← HN.out,List.drop_length,tkSum] at this; omega)
      clear HE
      obtain ⟨wo,rfl⟩:∃ v:World,v=wr:=⟨_,rfl⟩
      by_cases h2:20000<k
      · have h2i:(20000:Int)<k:=by omega
        have HJ2:=hid (show joinedM T tail=(⟨#[]⟩,2) by rw [HJ.out,← HE2.out,if_pos h2])
        clear h2
        go_wp2_with fail
        rw [← HP.out]
        first | exact ⟨by rw [HJ2.out]; rfl,HG.out⟩ | (go_ret2; exact ⟨by rw [HJ2.out]; rfl,HG.out⟩)
      · have h2i:¬ (20000:Int)<k:=by omega
        have HJ2:=hid (show joinedM T tail=(⟨(tkText T++tail.data.toList).toArray⟩,0) by rw [HJ.out,← HE2.out,if_neg h2])
        have hbig:tail.size+tkSum T≤20000:=by rw [← HE2.out]; omega
        have HBIG:=hid hbig
        clear h2 hbig HJ HE2
        have B0:=hid (show Bld wo.heap.size wo.heap.size [] _ from Lib.fresh_isBuilder 113 5 wo)
        have G0:=hid (yga HG.out (.cells #[.pointer none,.slice none 0 0] 113))
        have hwo:=HG.out.size
        have hs0:wo.heap.size<(wo.alloc (.cells #[.pointer none,.slice none 0 0] 113)).heap.size:=by simp
        go_upto_region 12 with (fail)
        generalize wo.alloc _=w3 at B0 G0 hs0 ⊢
        generalize wo.heap.size=B at B0 hwo hs0 ⊢
        clear HG
        go_wp2_with fail
        go_loopw [37] (fun i wr=>∃ (j:Nat) (acc:List UInt8),j≤N∧i=.int .i64 j∧B<wr.heap.size∧acc.length≤20000∧Hid (acc++tkText (T.drop j)=tkText T)∧Hid (Bld B B acc wr)∧Hid (w.grownBy wr none)) (fun i _=>N-(intOf i).toNat)
        case atStart=>exact ⟨0,[],Nat.zero_le _,rfl,hs0,by simp,hid (by simp),B0,G0⟩
        case round =>
         obtain ⟨j,acc,hj,rfl,hbs,hacc,HE,HB,HG⟩:=hrel
         by_cases hlt:j<N
         · have hjT:j<T.length:=by rw [HN.out]; exact hlt
           obtain ⟨g,o,rfl,d0,d1,d2⟩:=tk_elem HEL.out j hjT
           have hE:=HE.out
           rw [List.drop_eq_getElem_cons hjT,tkText] at hE
           obtain ⟨⟨kk,l,t⟩,hx⟩:∃ x,T[j]=x:=⟨_,rfl⟩
           rw [hx] at hE d0 d1 d2
           simp only at hE d0 d1 d2
           replace d0:=ycg d0 HG.out
           replace d1:=ycg d1 HG.out
           replace d2:=ycg d2 HG.out
           have hlen:=congrArg List.length hE
           simp only [List.length_append,tkText_len,Array.length_toList] at hlen
           have hbg:=HBIG.out
           change acc.length+(l.size+t.size+tkSum (T.drop (j+1)))=tkSum T at hlen
           have HE2:=hid (show (acc++l.data.toList++t.data.toList)++tkText (T.drop (j+1))=tkText T by rw [← hE]; simp)
           have hal:acc.length+l.size+t.size≤20000:=by omega
           have HB1:=hid (HB.out.grown (xG wr (.cells #[.string kk,.string l,.string t] 66) none))
           have HG1:=hid (yga HG.out (.cells #[.string kk,.string l,.string t] 66))
           have hF:=xN wr (.cells #[.string kk,.string l,.string t] 66)
           have hbs0:=hbs
           have hbs1:B<(wr.alloc (.cells #[.string kk,.string l,.string t] 66)).heap.size:=by simp; omega
           clear hx hE HE hjT HB HG hlen hbg
           go_upto_region 15 with (fail)
           generalize wr.alloc _=w4 at HB1 HG1 hF hbs1 ⊢
           have hblt:=hbs0
           generalize wr.heap.size=f at hF hblt ⊢
           have x1:=xC hF 1
           have x2:=xC hF 2
           simp only [xGe,xGz,xGs] at x1 x2
           have HFB:=hid hF
           clear d0 d1 d2 hF
           go_wp2_with fail
           refine (writeString_any B B acc l w4 HB1.out (by omega) (Nat.le_of_lt hbs1)).mono ?_
           rintro e w5 ⟨rfl,b5,F5⟩
           have y2:=(xC ((F5.block f (xL HFB.out) ⟨by omega,.inr (by rw [HFB.out]; intro c fr h; simp at h)⟩).trans HFB.out) 2)
           simp only [xGe,xGz,xGs] at y2
           have HB5:=hid b5
           have HG5:=hid (grown_of_bld HG1.out F5 hwo hwo)
           have hbs5:B<w5.heap.size:=Nat.lt_of_lt_of_le hbs1 F5.size
           clear b5 F5 HFB HB1 HG1 x1 x2
           go_wp2_with fail
           refine (writeString_any B B _ t w5 (.inr HB5.out) (by simp only [List.length_append,Array.length_toList]; change acc.length+l.size+t.size≤_; omega) (Nat.le_of_lt hbs5)).mono ?_
           rintro e w6 ⟨rfl,b6,F6⟩
           have HB6:=hid b6
           have HG6:=hid (grown_of_bld HG5.out F6 hwo hwo)
           have hbs6:B<w6.heap.size:=Nat.lt_of_lt_of_le hbs5 F6.size
           clear b6 F6 HB5 HG5 y2
           go_wp2_with fail
           go_roundw
           case rel=>exact ⟨j+1,acc++l.data.toList++t.data.toList,by omega,by go_num,hbs6,by simp only [List.length_append,Array.length_toList]; change acc.length+l.size+t.size≤_; omega,HE2,hid (.inr HB6.out),HG6⟩
           case measure=>simp [intOf]; omega
         · have hjN:j=N:=by omega
           have HE2:=hid (show acc=tkText T by have:=HE.out; rw [hjN,← HN.out,List.drop_length] at this; simpa [tkText] using this)
           clear HE
           have hbg:=HBIG.out
           go_wp2_with fail
           refine (writeString_any B B acc tail wr HB.out (by omega) (Nat.le_of_lt hbs)).mono ?_
           rintro e w5 ⟨rfl,b5,F5⟩
           have HB5:=hid b5
           have HG5:=hid (grown_of_bld HG.out F5 hwo hwo)
           have hbs5:B<w5.heap.size:=Nat.lt_of_lt_of_le hbs F5.size
           clear b5 F5 HB HG
           go_wp2_with fail
           refine (Tryz.Builder_String_any B B _ w5 (.inr HB5.out) (Nat.le_of_lt hbs5)).mono ?_
           rintro e w6 ⟨rfl,hb6⟩
           have HG6:Hid (w.grownBy w6 none):=hid (grow_below HG5.out (Below.mono hb6 hwo))
           clear hb6
           go_wp2_with fail
           rw [← HP.out]
           first | exact ⟨by rw [HJ2.out,HE2.out]; rfl,HG6.out⟩ | (go_ret2; exact ⟨by rw [HJ2.out,HE2.out]; rfl,HG6.out⟩)
end Go.Proofs.YtplbacfjmajeeaaGreatDoor
