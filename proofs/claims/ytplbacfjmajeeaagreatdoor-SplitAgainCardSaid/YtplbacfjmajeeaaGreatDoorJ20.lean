import Derived.Test.YtplbacfjmajeeaaGreatDoorJ19
import Derived.Handy
namespace Go.Proofs.YtplbacfjmajeeaaGreatDoor
open Go.Lib (hid)
set_option maxHeartbeats 4000000
set_option maxRecDepth 100000
open Go.RowKit Go.Region
def nxS (ps:List Pt) (L:List En) (i c:Nat):Nat:=(posM L (maskC ps L i (cls (bytesL ps) c))).getD 0
def stuckS (ps:List Pt) (L:List En) (i:Nat):Bool:=decide (maskOf (canAt ps L i)=0)
def scanL (ps:List Pt) (L:List En):List UInt8→Nat→Nat→Nat→Nat→Nat→Nat × Nat × Nat
 | [],_,_,m,lg,sg=>(m,lg,sg)
 | c::cs,now,k,m,lg,sg =>
  if stuckS ps L (nxS ps L now c.toNat)=true then ((if 0<(fitsAt ps L (nxS ps L now c.toNat)).length then (fitsAt ps L (nxS ps L now c.toNat)).getD 0 0 else m),(if 0<(fitsAt ps L (nxS ps L now c.toNat)).length then k+1 else lg),k+1)
  else scanL ps L cs (nxS ps L now c.toNat) (k+1) (if 0<(fitsAt ps L (nxS ps L now c.toNat)).length then (fitsAt ps L (nxS ps L now c.toNat)).getD 0 0 else m) (if 0<(fitsAt ps L (nxS ps L now c.toNat)).length then k+1 else lg) sg
def longL (ps:List Pt) (L:List En) (s:List UInt8) (a:Nat):Nat × Nat × Nat:=scanL ps L (s.drop a) 0 0 0 0 (s.length-a+1)
theorem posM_le (L:List En) (M r:Nat) (h:posM L M=some r):r≤L.length:=by
 unfold posM at h
 simp only [Option.map_eq_some_iff] at h
 obtain ⟨k,hk,rfl⟩:=h
 have:=List.findIdx?_eq_some_iff_getElem.1 hk
 obtain ⟨hlt,_⟩:=this
 omega
theorem cls_cls (ps:List Pt) (c:Nat) (h:c<256):cls (bytesL ps) c<(lowsP ps).length:=by
 unfold cls lowsP
 have h1:=lows_pos (bytesL ps) (c+1) (by omega)
 have h2:(lows (bytesL ps) (c+1)).length≤(lows (bytesL ps) 256).length:=by
  unfold lows
  refine List.Sublist.length_le (List.Sublist.filter _ ?_)
  exact List.range_sublist.2 (by omega)
 omega
theorem MachAt.step {W:World} {bm:Nat} {ps:List Pt} {L:List En} (h:MachAt W bm ps L) (i c:Nat) (hi:i≤L.length) (hc:c<256) :
 ∃ (sg sc ng nc κ:Nat) (fa:Option Addr) (fc:Nat),W.cell? ⟨bm,263,none⟩=some (.slice (some ⟨sg,0,none⟩) (L.length+1) sc)∧W.cell? ⟨sg,i*5+1,none⟩=some (.slice (some ⟨ng,0,none⟩) (lowsP ps).length nc)∧W.cell? ⟨bm,3+c,none⟩=some (.int .i64 κ)∧κ<(lowsP ps).length ∧
  W.cell? ⟨ng,κ,none⟩=some (.int .i64 (nxS ps L i c:Nat))∧nxS ps L i c≤L.length∧W.cell? ⟨sg,nxS ps L i c*5,none⟩=some (.slice fa (fitsAt ps L (nxS ps L i c)).length fc) ∧
  (0<(fitsAt ps L (nxS ps L i c)).length→∃ fg,fa=some ⟨fg,0,none⟩∧W.cell? ⟨fg,0,none⟩=some (.int .i64 ((fitsAt ps L (nxS ps L i c)).getD 0 0:Nat))) ∧
  W.cell? ⟨sg,nxS ps L i c*5+2,none⟩=some (.bool (stuckS ps L (nxS ps L i c))):=by
 obtain ⟨sg,sc,h1,h2,h3⟩:=h.ex
 obtain ⟨_,⟨ng,nc,h4,h5⟩,_⟩:=h3 i hi
 have hκ:=cls_cls ps c hc
 obtain ⟨r,hr,h6⟩:=h5 _ hκ
 have hn:nxS ps L i c=r:=by unfold nxS; rw [hr]; rfl
 have hrl:=posM_le _ _ _ hr
 obtain ⟨⟨fa,fc,h7,h8⟩,_,h9⟩:=h3 r hrl
 rw [hn]
 refine ⟨sg,sc,ng,nc,_,fa,fc,h1,h4,h2 c hc,hκ,h6,hrl,h7,fun hp=>?_,h9⟩
 obtain ⟨fg,e,hcell⟩:=h8 0 hp
 refine ⟨fg,e,?_⟩
 rw [hcell,List.getD_eq_getElem?_getD,List.getElem?_eq_getElem hp]
 rfl
theorem fitsL_bd (A:Nat→Bool) (st:Bool):∀ (ps:List Pt) (i b:Nat),∀ x∈fitsL A st ps i b,x<i+ps.length
 | [],_,_,x,h=>by simp [fitsL] at h
 | p::ps,i,b,x,h=>by
  rw [fitsL] at h
  rcases List.mem_append.1 h with h | h
  · split at h
    · have:x=i:=by simpa using h
      simp only [List.length_cons]; omega
    · cases h
  · have:=fitsL_bd A st ps (i+1) _ x h
    simp only [List.length_cons]; omega
theorem fits_head (ps:List Pt) (L:List En) (i:Nat) (h:0<(fitsAt ps L i).length):(fitsAt ps L i).getD 0 0<ps.length:=by
 have h1:(fitsAt ps L i).getD 0 0∈fitsAt ps L i:=by
  rw [List.getD_eq_getElem?_getD,List.getElem?_eq_getElem h]
  exact List.getElem_mem h
 have:=fitsL_bd _ _ ps 0 0 _ h1
 omega
def LongPost (ps:List Pt) (L:List En) (s:List UInt8) (a:Nat) (w:World) (e:Ending) (w':World):Prop :=
 e=.returned (.tuple #[.agg #[.int .i64 ((longL ps L s a).1:Nat),.int .i64 a,.int .i64 ((longL ps L s a).2.1:Nat),.int .i64 ((longL ps L s a).2.2:Nat)],.bool (decide (0<(longL ps L s a).2.1))])∧w.grownBy w' none
theorem longest_any (bm:Nat) (ps:List Pt) (L:List En) (s:ByteArray) (a:Nat) (w:World) (hs:s.size≤1000000) (ha:a≤s.size) (_:L.length≤3000) (hps:ps.length≤1000000) (hM:MachAt w bm ps L) :
 Calls Tryz.prog 50 #[.pointer (some ⟨bm,0,none⟩),.string s,.int .i64 a] w (LongPost ps L s.data.toList a w):=by
 have HM:=hid hM
 clear hM
 obtain ⟨P,hP⟩:∃ P,LongPost ps L s.data.toList a w=P:=⟨_,rfl⟩
 rw [hP]
 have HP:=hid hP
 clear hP
 have hlen:s.data.toList.length=s.size:=by rw [Array.length_toList]; rfl
 have HLEN:=hid hlen
 clear hlen
 go_enter Tryz.func50,Tryz.ntmps50
 go_upto_region 2 with (fail)
 have r0:=grow_new (xG (w.alloc (.cells #[.int .i64 0,.int .i64 0,.int .i64 0,.int .i64 0] 43)) (.cells #[.int .i64 0,.int .i64 a,.int .i64 0,.int .i64 ((s.size:Int)-a+1)] 43) none) (xN w (.cells #[.int .i64 0,.int .i64 0,.int .i64 0,.int .i64 0] 43))
 have l0:((w.alloc (.cells #[.int .i64 0,.int .i64 0,.int .i64 0,.int .i64 0] 43)).alloc (.cells #[.int .i64 0,.int .i64 a,.int .i64 0,.int .i64 ((s.size:Int)-a+1)] 43)).heap[w.heap.size+1]? = some (.cells #[.int .i64 0,.int .i64 a,.int .i64 0,.int .i64 ((s.size:Int)-a+1)] 43 (0,0)):=yhn _ _ _ (by simp)
 have g0:w.grownBy ((w.alloc (.cells #[.int .i64 0,.int .i64 0,.int .i64 0,.int .i64 0] 43)).alloc (.cells #[.int .i64 0,.int .i64 a,.int .i64 0,.int .i64 ((s.size:Int)-a+1)] 43)) none:=yga (xG _ _ _) _
 generalize (w.alloc _).alloc _=w1 at r0 l0 g0 ⊢
 obtain ⟨B,hB⟩:∃ B,B=w.heap.size:=⟨_,rfl⟩
 rw [← hB] at r0 l0 ⊢
 have HBB:=hid (show w.heap.size≤B by omega)
 clear hB
 have R0:=hid r0
 have L0:=hid l0
 have G0:=hid g0
 clear r0 l0 g0
 go_wp2_with fail
 have hsz:((s.size-a+1:Nat):Int)=(s.size:Int)-a+1:=by omega
 rw [← hsz] at L0
 clear hsz
 go_loopw [9,10] (fun nw iv wr=>∃ (now i m lg:Nat),nw=.int .i64 now∧iv=.int .i64 i∧now≤L.length∧a≤i∧i≤s.size∧m≤1000000∧lg≤1000000∧Hid (scanL ps L (s.data.toList.drop i) now (i-a) m lg (s.size-a+1)=longL ps L s.data.toList a)∧Hid (wr.heap[B+1]? = some (.cells #[.int .i64 m,.int .i64 a,.int .i64 lg,.int .i64 ((s.size-a+1:Nat):Int)] 43 (0,0))) ∧
  Hid (wr.heap[B]? = some (.cells #[.int .i64 0,.int .i64 0,.int .i64 0,.int .i64 0] 43 (0,0)))∧Hid (w.grownBy wr none)) (fun _ iv _=>s.size-(intOf iv).toNat)
 case atStart=>exact ⟨0,a,0,0,rfl,rfl,Nat.zero_le _,Nat.le_refl _,ha,by omega,by omega,hid (by rw [longL,HLEN.out,Nat.sub_self]),L0,R0,G0⟩
 case round =>
  obtain ⟨now,i,m,lg,rfl,rfl,hnow,hai,his,hm,hlg,HE,HL,HR,HG⟩:=hrel
  by_cases hlt:i<s.size
  · obtain ⟨c,hc⟩:∃ c,s[i].toNat=c:=⟨_,rfl⟩
    have hc256:c<256:=by rw [← hc]; exact UInt8.toNat_lt _
    obtain ⟨sg,sc,ng,nc,κ,fa,fc,q1,q2,q3,q4,q5,q6,q7,q8,q9⟩:=HM.out.step now c hnow hc256
    have hdrop:s.data.toList.drop i=s[i]::s.data.toList.drop (i+1):=by
     have h2:i<s.data.toList.length:=by rw [HLEN.out]; exact hlt
     exact List.drop_eq_getElem_cons h2
    have hE2:=HE.out
    rw [hdrop,scanL,hc] at hE2
    generalize nxS ps L now c=nx at q5 q6 q7 q8 q9 hE2
    have HQ7:=hid q7
    have HQ8:=hid q8
    have HQ9:=hid q9
    obtain ⟨fl,hfl⟩:∃ x,(fitsAt ps L nx).length=x:=⟨_,rfl⟩
    obtain ⟨f0,hf0⟩:∃ x,(fitsAt ps L nx).getD 0 0=x:=⟨_,rfl⟩
    obtain ⟨stk,hstk⟩:∃ x,stuckS ps L nx=x:=⟨_,rfl⟩
    rw [hfl,hf0,hstk] at hE2
    rw [hfl] at HQ7 HQ8
    rw [hf0] at HQ8
    rw [hstk] at HQ9
    have hf0b:0<fl→f0≤1000000:=fun hpos=>by
     rw [← hfl] at hpos
     have:=fits_head ps L nx hpos
     rw [← hf0]
     omega
    have HE2:=hid hE2
    have HQ1:=hid q1
    have b1:=World.block_lt_of_cell? w _ q1
    simp only at b1
    replace q1:=ycg q1 HG.out
    replace q2:=ycg q2 HG.out
    replace q3:=ycg q3 HG.out
    replace q5:=ycg q5 HG.out
    clear q7 q8 q9 hE2 hdrop hfl hf0 hstk HE
    go_wp2_with fail
    go_region
    have HLd:Hid (wr.drew.heap[B+1]? = some (.cells #[.int .i64 m,.int .i64 a,.int .i64 lg,.int .i64 ((s.size-a+1:Nat):Int)] 43 (0,0))):=hid HL.out
    have HRd:Hid (wr.drew.heap[B]? = some (.cells #[.int .i64 0,.int .i64 0,.int .i64 0,.int .i64 0] 43 (0,0))):=hid HR.out
    have HGd:=hid (grow_drew HG.out)
    have q1d:wr.drew.cell? ⟨bm,263,none⟩=_:=q1
    have q7d:=ycg HQ7.out HGd.out
    generalize wr.drew=wd at HLd HRd HGd q1d q7d ⊢
    clear HL HR HG q1 q2 q3 q5 hc
    have hnx:(nx:Int)<(L.length+1:Nat):=by omega
    go_upto_if 59 with (fail)
    go_cut [] (fun wx=>∃ (m2 lg2:Nat),m2≤1000000∧lg2≤1000000∧Hid (m2=(if 0<fl then f0 else m)∧lg2=(if 0<fl then i-a+1 else lg))∧Hid (wx.heap[B+1]? = some (.cells #[.int .i64 m2,.int .i64 a,.int .i64 lg2,.int .i64 ((s.size-a+1:Nat):Int)] 43 (0,0))) ∧
     Hid (wx.heap[B]? = some (.cells #[.int .i64 0,.int .i64 0,.int .i64 0,.int .i64 0] 43 (0,0)))∧Hid (w.grownBy wx none))
    case first =>
     by_cases hfl:0<fl
     · obtain ⟨fg,rfl,hfc⟩:=HQ8.out hfl
       have q8d:=ycg hfc HGd.out
       have hfl2:(0:Int)<fl:=by omega
       have hf0c:=hf0b hfl
       have y0:=xC HLd.out 0
       have y2:=xC HLd.out 2
       simp only [xGe,xGz,xGs] at y0 y2
       have z0:=yfb HLd.out 0
       have z2:=yfb HLd.out 2
       have hk:(i:Int)+1-a=((i-a+1:Nat):Int):=by omega
       have L5:=yhs (yhs HLd.out 0 (.int .i64 (f0:Nat))) 2 (.int .i64 ((i-a+1:Nat):Int))
       simp only [xSi,xSs,xSz] at L5
       have R5:((wd.setCell ⟨B+1,0,none⟩ (.int .i64 (f0:Nat))).setCell ⟨B+1,2,none⟩ (.int .i64 ((i-a+1:Nat):Int))).heap[B]? = _:=(Below.heap_setCell _ _ _ _ (by simp)).trans ((Below.heap_setCell _ _ _ _ (by simp)).trans HRd.out)
       have hBB:=HBB.out
       have G5:=ygs (ygs HGd.out ⟨B+1,0,none⟩ (.int .i64 (f0:Nat)) (by simp; omega)) ⟨B+1,2,none⟩ (.int .i64 ((i-a+1:Nat):Int)) (by simp; omega)
       have HL5:=hid L5
       have HR5:=hid R5
       have HG5:=hid G5
       have HK:=hid hk
       clear L5 R5 G5 hk
       go_wp2_with fail
       go_meet
       rw [HK.out]
       exact ⟨f0,i-a+1,hf0c,by omega,hid ⟨by rw [if_pos hfl],by rw [if_pos hfl]⟩,HL5,HR5,HG5⟩
     · have hfl2:¬ (0:Int)<fl:=by omega
       go_wp2_with fail
       go_meet
       exact ⟨m,lg,hm,hlg,hid ⟨by rw [if_neg hfl],by rw [if_neg hfl]⟩,HLd,HRd,HGd⟩
    case rest =>
     obtain ⟨m2,lg2,hm2,hlg2,HML,HL5,HR5,HG5⟩:=hcut
     obtain ⟨w5,rfl⟩:∃ v:World,v=wc:=⟨_,rfl⟩
     have HE3:=hid (show (if stk=true then (m2,lg2,i-a+1) else scanL ps L (s.data.toList.drop (i+1)) nx (i-a+1) m2 lg2 (s.size-a+1))=longL ps L s.data.toList a by rw [HML.out.1,HML.out.2]; exact HE2.out)
     have e1:=ycg HQ1.out HG5.out
     have e9:=ycg HQ9.out HG5.out
     clear HE2 HML HLd HRd HGd q1d q7d hm hlg
     rcases stk with _ | _
     · have HE4:=hid (show scanL ps L (s.data.toList.drop (i+1)) nx (i+1-a) m2 lg2 (s.size-a+1)=longL ps L s.data.toList a by rw [show i+1-a=i-a+1 by omega]; exact HE3.out)
       clear HE3
       go_wp2_with fail
       go_roundw
       case rel=>exact ⟨nx,i+1,m2,lg2,rfl,by go_num,q6,by omega,by omega,hm2,hlg2,HE4,HL5,HR5,HG5⟩
       case measure=>simp [intOf]; omega
     · have hk:(i:Int)+1-a=((i-a+1:Nat):Int):=by omega
       have HRES0:=hid (show (m2,lg2,i-a+1)=longL ps L s.data.toList a by exact HE3.out)
       obtain ⟨sg4,hsg4⟩:∃ x,x=i-a+1:=⟨_,rfl⟩
       rw [← hsg4] at HRES0
       have y3:=xC HL5.out 3
       simp only [xGe,xGz,xGs] at y3
       have z3:=yfb HL5.out 3
       have L6:=yhs HL5.out 3 (.int .i64 (sg4:Nat))
       simp only [xSi,xSs,xSz] at L6
       have R6:(w5.setCell ⟨B+1,3,none⟩ (.int .i64 (sg4:Nat))).heap[B]? = _:=(Below.heap_setCell _ _ _ _ (by simp)).trans HR5.out
       have hBB:=HBB.out
       have G6:=ygs HG5.out ⟨B+1,3,none⟩ (.int .i64 (sg4:Nat)) (by simp; omega)
       have hk2:(i:Int)+1-a=(sg4:Int):=by omega
       have HL4:=hid L6
       have HR4:=hid R6
       have HG4:=hid G6
       have HK2:=hid hk2
       clear L6 R6 G6 hk hk2 hsg4 HE3 HL5 HR5 HG5
       go_wp2_with fail
       rw [HK2.out]
       generalize w5.setCell _ _=w4 at HL4 HR4 HG4 ⊢
       clear y3 z3 e1 e9
       obtain ⟨x0,x1,x2,x3⟩:=cb4 HL4.out
       obtain ⟨y0,y1,y2,y3⟩:=cb4 HR4.out
       obtain ⟨z0,z1,z2,z3⟩:=fb4 HR4.out
       go_region
       all_goals go_wp2_with fail
       all_goals
        have R5:=yhs (yhs (yhs (yhs HR4.out 0 (.int .i64 (m2:Nat))) 1 (.int .i64 a)) 2 (.int .i64 (lg2:Nat))) 3 (.int .i64 (sg4:Nat))
        have hB:=HBB.out
        have G5:=ygs (ygs (ygs (ygs HG4.out ⟨B,0,none⟩ (.int .i64 (m2:Nat)) hB) ⟨B,1,none⟩ (.int .i64 a) hB) ⟨B,2,none⟩ (.int .i64 (lg2:Nat)) hB) ⟨B,3,none⟩ (.int .i64 (sg4:Nat)) hB
        simp only [xSi,xSs,xSz] at R5
        generalize (((w4.setCell _ _).setCell _ _).setCell _ _).setCell _ _=w5 at R5 G5 ⊢
        obtain ⟨u0,u1,u2,u3⟩:=cb4 R5
        exact bodyPost_ret (v:=.tuple #[.agg #[.int .i64 (m2:Nat),.int .i64 a,.int .i64 (lg2:Nat),.int .i64 (sg4:Nat)],.bool (decide (0<lg2))]) (by simp [results,Tryz.results50,go_sem,u0,u1,u2,u3]) rfl (by rw [← HP.out]; exact ⟨by first | (rw [← HRES0.out]; done) | (rw [← HRES0.out]; rfl),by first | exact G5 | exact grow_drew G5⟩)
  · have hi:i=s.size:=by omega
    have HRES:=hid (show (m,lg,s.size-a+1)=longL ps L s.data.toList a by rw [← HE.out,List.drop_eq_nil_of_le (by rw [HLEN.out]; omega)]; rfl)
    obtain ⟨sg4,hsg4⟩:∃ x,x=s.size-a+1:=⟨_,rfl⟩
    rw [← hsg4] at HRES HL
    obtain ⟨w4,rfl⟩:∃ v:World,v=wr:=⟨_,rfl⟩
    have HL4:=HL
    have HR4:=HR
    have HG4:=HG
    clear hsg4 hi HE HL HR HG
    go_wp2_with fail
    obtain ⟨x0,x1,x2,x3⟩:=cb4 HL4.out
    obtain ⟨y0,y1,y2,y3⟩:=cb4 HR4.out
    obtain ⟨z0,z1,z2,z3⟩:=fb4 HR4.out
    go_region
    all_goals go_wp2_with fail
    all_goals
     have R5:=yhs (yhs (yhs (yhs HR4.out 0 (.int .i64 (m:Nat))) 1 (.int .i64 a)) 2 (.int .i64 (lg:Nat))) 3 (.int .i64 (sg4:Nat))
     have hB:=HBB.out
     have G5:=ygs (ygs (ygs (ygs HG4.out ⟨B,0,none⟩ (.int .i64 (m:Nat)) hB) ⟨B,1,none⟩ (.int .i64 a) hB) ⟨B,2,none⟩ (.int .i64 (lg:Nat)) hB) ⟨B,3,none⟩ (.int .i64 (sg4:Nat)) hB
     simp only [xSi,xSs,xSz] at R5
     generalize (((w4.setCell _ _).setCell _ _).setCell _ _).setCell _ _=w5 at R5 G5 ⊢
     obtain ⟨u0,u1,u2,u3⟩:=cb4 R5
     exact bodyPost_ret (v:=.tuple #[.agg #[.int .i64 (m:Nat),.int .i64 a,.int .i64 (lg:Nat),.int .i64 (sg4:Nat)],.bool (decide (0<lg))]) (by simp [results,Tryz.results50,go_sem,u0,u1,u2,u3]) rfl (by rw [← HP.out]; exact ⟨by first | (rw [← HRES.out]; done) | (rw [← HRES.out]; rfl),by first | exact G5 | exact grow_drew G5⟩)
def Closed (ps:List Pt) (L:List En):Prop:=∀ i,i≤L.length→∀ κ,κ<(lowsP ps).length→∃ r,posM L (maskC ps L i κ)=some r
theorem MachAt.closed {W:World} {bm:Nat} {ps:List Pt} {L:List En} (h:MachAt W bm ps L):Closed ps L:=by
 obtain ⟨sg,sc,_,_,h3⟩:=h.ex
 intro i hi κ hκ
 obtain ⟨_,⟨_,_,_,h4⟩,_⟩:=h3 i hi
 obtain ⟨r,hr,_⟩:=h4 κ hκ
 exact ⟨r,hr⟩
theorem posM_mask (L:List En) (M r:Nat) (h:posM L M=some r):r≠0∧r≤L.length∧maskAt L r=M:=by
 have hle:=posM_le L M r h
 unfold posM at h
 simp only [Option.map_eq_some_iff] at h
 obtain ⟨k,hk,rfl⟩:=h
 obtain ⟨hlt,h2,_⟩:=List.findIdx?_eq_some_iff_getElem.1 hk
 refine ⟨by omega,hle,?_⟩
 have h3:maskOf L[k].set=M:=by simpa using h2
 rw [← h3]
 show maskOf (L.getD k ⟨[],[]⟩).set=_
 rw [List.getD_eq_getElem?_getD,List.getElem?_eq_getElem hlt]
 rfl
theorem canAt_mask (ps:List Pt) (L:List En) (i:Nat):canAt ps L i=opnO ((maskAt L i).testBit ·) ps 0 (decide (i=0)):=by
 cases i with
 | zero =>
  have:((maskAt L 0).testBit ·)=fun _:Nat=>false:=by funext k; simp [maskAt]
  rw [this]
  simp [canAt,opnO_start]
 | succ i =>
  have:((maskAt L (i+1)).testBit ·)=fun k=>decide (k∈(L.getD i ⟨[],[]⟩).set):=by
   funext k
   exact testBit_maskOf _ _
  rw [this]
  simp [canAt]
theorem match_in (B:List (Int × Int)) (h:BytesOk B) (k c:Nat) (hk:k<B.length):decide (k∈matchL B B.length (cls B c))=(decide ((B.getD k (0,-1)).1≤(c:Int)) && decide ((c:Int)≤(B.getD k (0,-1)).2)):=by
 have:=step_match B h [k] (by simpa using hk) c
 unfold stepL at this
 simp only [List.filter_cons,List.filter_nil] at this
 generalize (decide ((B.getD k (0,-1)).1≤(c:Int)) && decide ((c:Int)≤(B.getD k (0,-1)).2))=x at this ⊢
 generalize decide (k∈matchL B B.length (cls B c))=y at this ⊢
 rcases x with _ | _<;>rcases y with _ | _<;>simp at this ⊢
def runS (ps:List Pt) (L:List En) (c:Nat→UInt8):Nat→Nat
 | 0=>0
 | j+1=>nxS ps L (runS ps L c j) (c j).toNat
theorem runS_ok (ps:List Pt) (L:List En) (c:Nat→UInt8) (hC:Closed ps L):∀ j,runS ps L c j≤L.length∧(j≠0→runS ps L c j≠0)∧maskAt L (runS ps L c (j+1))=maskC ps L (runS ps L c j) (cls (bytesL ps) (c j).toNat)
 | 0=>by
  obtain ⟨r,hr⟩:=hC 0 (Nat.zero_le _) _ (cls_cls ps (c 0).toNat (c 0).toNat_lt)
  refine ⟨Nat.zero_le _,fun h=>absurd rfl h,?_⟩
  show maskAt L (nxS ps L 0 (c 0).toNat)=_
  rw [show nxS ps L 0 (c 0).toNat=r by unfold nxS; rw [hr]; rfl]
  exact (posM_mask L _ r hr).2.2
 | j+1=>by
  obtain ⟨h1,_,_⟩:=runS_ok ps L c hC j
  obtain ⟨r,hr⟩:=hC _ h1 _ (cls_cls ps (c j).toNat (c j).toNat_lt)
  have e:runS ps L c (j+1)=r:=by show nxS ps L (runS ps L c j) (c j).toNat=r; unfold nxS; rw [hr]; rfl
  obtain ⟨p1,p2,_⟩:=posM_mask L _ r hr
  obtain ⟨r2,hr2⟩:=hC r p2 _ (cls_cls ps (c (j+1)).toNat (c (j+1)).toNat_lt)
  refine ⟨by rw [e]; exact p2,fun _=>by rw [e]; exact p1,?_⟩
  show maskAt L (nxS ps L (runS ps L c (j+1)) (c (j+1)).toNat)=_
  rw [e,show nxS ps L r (c (j+1)).toNat=r2 by unfold nxS; rw [hr2]; rfl]
  exact (posM_mask L _ r2 hr2).2.2
theorem runS_run (ps:List Pt) (L:List En) (c:Nat→UInt8) (hC:Closed ps L) (hB:BytesOk (bytesL ps)):RunA c 0 (ylL ps) (bytesL ps) (fun j=>opnO ((maskAt L (runS ps L c j)).testBit ·) ps 0 (decide (j=0))) (fun j k=>(maskAt L (runS ps L c j)).testBit k):=by
 refine ⟨fun k _ _=>by simp [runS,maskAt],fun j k _ hk=>?_⟩
 obtain ⟨_,h2,h3⟩:=runS_ok ps L c hC j
 have h0:decide (runS ps L c j=0)=decide (j=0):=by
  by_cases hj:j=0
  · subst hj; rfl
  · simp [hj,h2 hj]
 have hk2:k<(bytesL ps).length:=by rw [ybl]; omega
 show (maskAt L (runS ps L c (j+1))).testBit k=_
 rw [h3,maskC,Nat.testBit_and,testBit_maskOf,testBit_maskOf,canAt_mask,h0,match_in _ hB k _ hk2]
 rfl
theorem fitsL_tells (c:Nat→UInt8):∀ (ps:List Pt) (b:Nat) (β:Nat→Bool) (A:Nat→Nat→Bool),RunA c b (ylL ps) (bytesL ps) (fun j=>opnO (A j) ps b (β j)) A →
 ∀ j i m,m∈fitsL (A j) false ps i b↔∃ q p,m=i+q∧ps[q]? = some p∧∃ t,t<j∧β t=true∧p.Lg (seg c t (j-t))
 | [],_,_,_,_,_,_,_=>by simp [fitsL]
 | a::ar,b,β,A,h,j,i,m=>by
  have h1:RunA c b a.leaves a.bytes (fun j=>a.opn (A j) b (β j)) A:=RunA.left h (Pt.bytes_length a) (fun j k hk=>by
   simp only [opnO,List.mem_append]
   exact ⟨fun h=>h.elim id (fun h=>by have:=((opnO_bd (A j) ar (b+a.leaves) (β j)).1 k h).1; omega),.inl⟩)
  have h2:RunA c (b+a.leaves) (ylL ar) (bytesL ar) (fun j=>opnO (A j) ar (b+a.leaves) (β j)) A:=RunA.right h (Pt.bytes_length a) (fun j k hk=>by
   simp only [opnO,List.mem_append]
   exact ⟨fun h=>h.elim (fun h=>by have:=((opn_bd (A j) a b (β j)).1 k h).2; omega) id,.inr⟩)
  have e1:=tells c a b β A h1 j
  have e2:=fitsL_tells c ar (b+a.leaves) β A h2 j (i+1) m
  rw [fitsL,List.mem_append,e2]
  simp only [Bool.false_and,Bool.or_false]
  constructor
  · rintro (h3 | ⟨q,p,rfl,h4,h5⟩)
    · split at h3<;>rename_i h4
      · exact ⟨0,a,by simpa using h3,rfl,e1.1 h4⟩
      · cases h3
    · exact ⟨q+1,p,by omega,h4,h5⟩
  · rintro ⟨q,p,rfl,h4,h5⟩
    cases q with
    | zero =>
     obtain rfl:a=p:=by simpa using h4
     rw [if_pos (e1.2 h5)]
     exact .inl (by simp)
    | succ q=>exact .inr ⟨q,p,by omega,by simpa using h4,h5⟩
theorem fits_tells (ps:List Pt) (L:List En) (c:Nat→UInt8) (hC:Closed ps L) (hB:BytesOk (bytesL ps)) (j m:Nat) (hj:j≠0):m∈fitsAt ps L (runS ps L c j)↔∃ p,ps[m]? = some p∧p.Lg (seg c 0 j):=by
 have h:=fitsL_tells c ps 0 (fun j=>decide (j=0)) _ (runS_run ps L c hC hB) j 0 m
 unfold fitsAt
 rw [decide_eq_false ((runS_ok ps L c hC j).2.1 hj),h]
 constructor
 · rintro ⟨q,p,rfl,h1,t,h2,h3,h4⟩
   obtain rfl:t=0:=by simpa using h3
   exact ⟨p,by simpa using h1,h4⟩
 · rintro ⟨p,h1,h2⟩
   exact ⟨m,p,by omega,h1,0,by omega,rfl,h2⟩
theorem fitsL_none:∀ (ps:List Pt) (i b:Nat),fitsL (fun _=>false) false ps i b=[]
 | [],_,_=>rfl
 | p::ps,i,b=>by simp [fitsL,dn_none,fitsL_none ps]
theorem opnO_none (ps:List Pt) (b:Nat):opnO (fun _=>false) ps b false=[]:=by
 refine List.eq_nil_iff_forall_not_mem.2 fun k hk=>?_
 rw [opnO_iff] at hk
 rcases hk with ⟨h,_⟩ | ⟨i,h,_⟩<;>simp at h
theorem mask_none {L:List En} {i:Nat} (h:maskAt L i=0):((maskAt L i).testBit ·)=fun _:Nat=>false:=by
 funext k; simp [h]
theorem stuck_none (ps:List Pt) (L:List En) (c:Nat→UInt8) (hC:Closed ps L) (i:Nat) (h:stuckS ps L (runS ps L c i)=true):∀ t,maskAt L (runS ps L c (i+t+1))=0∧fitsAt ps L (runS ps L c (i+t+1))=[]:=by
 have key:∀ j,maskOf (canAt ps L (runS ps L c j))=0→maskAt L (runS ps L c (j+1))=0:=fun j hj=>by
  rw [(runS_ok ps L c hC j).2.2,maskC,hj,Nat.zero_and]
 have fit:∀ j,maskAt L (runS ps L c (j+1))=0→fitsAt ps L (runS ps L c (j+1))=[]:=fun j hj=>by
  unfold fitsAt
  rw [mask_none hj,decide_eq_false ((runS_ok ps L c hC (j+1)).2.1 (by omega)),fitsL_none]
 intro t
 induction t with
 | zero =>
  have h1:=key i (by simpa [stuckS] using h)
  exact ⟨h1,fit i h1⟩
 | succ t ih =>
  have h2:maskOf (canAt ps L (runS ps L c (i+t+1)))=0:=by
   rw [canAt_mask,mask_none ih.1,decide_eq_false ((runS_ok ps L c hC (i+t+1)).2.1 (by omega)),opnO_none]
   rfl
  have h1:=key _ h2
  exact ⟨h1,fit _ h1⟩
def GoodL (ps:List Pt) (L:List En) (c:Nat→UInt8) (k m lg:Nat):Prop :=
 (∀ i,lg<i→i≤k→fitsAt ps L (runS ps L c i)=[])∧(0<lg→lg≤k∧(fitsAt ps L (runS ps L c lg)).head? = some m)
theorem GoodL.step {ps:List Pt} {L:List En} {c:Nat→UInt8} {k m lg:Nat} (h:GoodL ps L c k m lg):GoodL ps L c (k+1) (if 0<(fitsAt ps L (runS ps L c (k+1))).length then (fitsAt ps L (runS ps L c (k+1))).getD 0 0 else m) (if 0<(fitsAt ps L (runS ps L c (k+1))).length then k+1 else lg):=by
 by_cases hf:0<(fitsAt ps L (runS ps L c (k+1))).length
 · rw [if_pos hf,if_pos hf]
   refine ⟨fun i h1 h2=>by omega,fun _=>⟨Nat.le_refl _,?_⟩⟩
   rw [List.head?_eq_getElem?,List.getD_eq_getElem?_getD,List.getElem?_eq_getElem hf]
   rfl
 · rw [if_neg hf,if_neg hf]
   refine ⟨fun i h1 h2=>?_,fun h3=>⟨Nat.le_succ_of_le (h.2 h3).1,(h.2 h3).2⟩⟩
   by_cases hi:i≤k
   · exact h.1 i h1 hi
   · obtain rfl:i=k+1:=by omega
     exact List.eq_nil_of_length_eq_zero (by omega)
theorem scan_good (ps:List Pt) (L:List En) (c:Nat→UInt8) (hC:Closed ps L):∀ (cs:List UInt8) (k m lg sg:Nat),(∀ j (h:j<cs.length),cs[j]=c (k+j))→GoodL ps L c k m lg →
 GoodL ps L c (k+cs.length) (scanL ps L cs (runS ps L c k) k m lg sg).1 (scanL ps L cs (runS ps L c k) k m lg sg).2.1
 | [],k,m,lg,sg,_,h=>h
 | x::cs,k,m,lg,sg,hcs,h=>by
  have hx:x=c k:=hcs 0 (by simp)
  have e:nxS ps L (runS ps L c k) x.toNat=runS ps L c (k+1):=by rw [hx]; rfl
  have h2:=h.step
  rw [scanL,e]
  split
  · rename_i hst
    refine ⟨fun i h3 h4=>?_,fun h3=>⟨?_,(h2.2 h3).2⟩⟩
    · by_cases hi:i≤k+1
      · exact h2.1 i h3 hi
      · obtain ⟨t,rfl⟩:∃ t,i=k+1+t+1:=⟨i-(k+2),by omega⟩
        exact (stuck_none ps L c hC (k+1) hst t).2
    · have:=(h2.2 h3).1
      simp only [List.length_cons]
      omega
  · have:=scan_good ps L c hC cs (k+1) _ _ sg (fun j hj=>by
     have:=hcs (j+1) (by simpa using hj)
     rw [show k+1+j=k+(j+1) by omega]
     simpa using this) h2
    rw [List.length_cons,show k+(cs.length+1)=k+1+cs.length by omega]
    exact this
theorem long_good (ps:List Pt) (L:List En) (s:List UInt8) (a:Nat) (hC:Closed ps L):GoodL ps L (fun j=>(s.drop a).getD j 0) (s.length-a) (longL ps L s a).1 (longL ps L s a).2.1:=by
 have:=scan_good ps L (fun j=>(s.drop a).getD j 0) hC (s.drop a) 0 0 0 (s.length-a+1) (fun j h=>by
  rw [Nat.zero_add,List.getD_eq_getElem?_getD,List.getElem?_eq_getElem h]; rfl) ⟨fun i h1 h2=>by omega,fun h=>absurd h (by omega)⟩
 rw [Nat.zero_add,List.length_drop] at this
 exact this
open Go.RowKit
def intC (xs:List Int):List Value:=xs.map (Value.int .i64)
theorem intC_append (a b:List Int):intC (a++b)=intC a++intC b:=by simp [intC]
theorem intC_len (a:List Int):(intC a).length=a.length:=by simp [intC]
def Ints (w:World) (v:Value) (xs:List Int):Prop :=
 ∃ a c,v=.slice a xs.length c∧(xs=[]∨∃ g o,a=some ⟨g,o,none⟩∧∀ j u,(intC xs)[j]? = some u→w.cell? ⟨g,o+j,none⟩=some u)
theorem Ints.kept {w w':World} {v:Value} {xs:List Int} (h:Ints w v xs) (g:∀ b o u,w.cell? ⟨b,o,none⟩=some u→w'.cell? ⟨b,o,none⟩=some u):Ints w' v xs:=by
 obtain ⟨a,c,hv,h⟩:=h
 refine ⟨a,c,hv,?_⟩
 rcases h with h | ⟨b,o,ha,h⟩
 · exact .inl h
 · exact .inr ⟨b,o,ha,fun j u hj=>g _ _ _ (h j u hj)⟩
theorem Ints.grow {w w':World} {v:Value} {xs:List Int} (h:Ints w v xs) (g:w.grownBy w' none):Ints w' v xs:=h.kept fun _ _ _ hc=>ycg hc g
theorem Ints.of_own {w:World} {base n:Nat} {v:Value} {xs:List Int} (h:w.ownsRow base 3 1 v n (intC xs)):Ints w v xs:=by
 have hn:n=xs.length:=by have:=h.1; rw [intC_len] at this; omega
 subst hn
 obtain ⟨a,c,rfl⟩:=yos h
 refine ⟨a,c,rfl,?_⟩
 by_cases h0:0<xs.length
 · obtain ⟨g,cap,hv,hb,hc⟩:=yoe h h0
   simp only [Value.slice.injEq] at hv
   exact .inr ⟨g,0,hv.1,fun j u hj=>by simpa using hc j u hj⟩
 · exact .inl (List.eq_nil_of_length_eq_zero (by omega))
theorem Ints.nil (w:World) (a:Option Addr) (c:Nat):Ints w (.slice a 0 c) []:=⟨a,c,rfl,.inl rfl⟩
theorem Ints.elem {w:World} {v:Value} {xs:List Int} (h:Ints w v xs):∃ a c,v=.slice a xs.length c∧∀ j,j<xs.length→∃ g o,a=some ⟨g,o,none⟩∧w.cell? ⟨g,o+j,none⟩=some (.int .i64 (xs.getD j 0)):=by
 obtain ⟨a,c,hv,h⟩:=h
 refine ⟨a,c,hv,fun j hj=>?_⟩
 rcases h with rfl | ⟨b,o,ha,h⟩
 · simp at hj
 · refine ⟨b,o,ha,h j _ ?_⟩
   simp [intC,List.getD,hj]
theorem info3n:∃ i,Tryz.prog.info? 3=some i∧i.zero=some (.int .i64 0)∧i.size=1∧i.bytes=8:=by
 have h:(Tryz.prog.info? 3).map (fun i=>(i.zero,i.size,i.bytes))=some (some (.int .i64 0),1,8):=by kernel_rfl
 cases hi:Tryz.prog.info? 3 with
 | none=>rw [hi] at h; cases h
 | some i =>
  rw [hi] at h
  simp only [Option.map_some,Option.some.injEq,Prod.mk.injEq] at h
  exact ⟨i,rfl,h.1,h.2.1,h.2.2⟩
theorem run_append_ints {w:World} {base n:Nat} {v s:Value} {xs ys:List Int} (ty:TypeId) (hown:w.ownsRow base 3 1 v n (intC ys)) (hs:Ints w s xs) (hn:n+xs.length≤1000000) (hb:base≤w.heap.size) :
 ∃ v' w',(Builtin.append_ #[22,22] ty #[v,s]).run Tryz.prog w=.ok v' w'∧w'.ownsRow base 3 1 v' (n+xs.length) (intC (ys++xs))∧w.grownBy w' v.ownBlock:=by
 obtain ⟨i,hi,hz,hsz,hby⟩:=info3n
 obtain ⟨a,c,rfl,h⟩:=hs
 rcases h with rfl | ⟨g,o,rfl,h⟩
 · refine ⟨v,w,?_,by simpa using hown,⟨rfl,rfl,rfl,Nat.le_refl _,fun _ _ _=>rfl⟩⟩
   rcases hown.2 with ⟨rfl,rfl⟩ | ⟨g,cap,cur,rfl,hbg,hg,hnc,hcm,hcs,htake⟩
   · cases a<;>simp [Builtin.append_,run_underlying Tryz.underlying22,sizeOf,typeInfo,hi,Builtin.lenOf,Builtin.firstCells,loadCells,loadCellsFrom]
   · cases a<;>simp [Builtin.append_,run_underlying Tryz.underlying22,sizeOf,typeInfo,hi,Builtin.lenOf,Builtin.firstCells,loadCells,loadCellsFrom,hnc,storeCells]
 · obtain ⟨v',w',h1,h2,h3,_⟩:=run_append_own (P:=Tryz.prog) w base 22 ty 3 i (.int .i64 0) 1 8 Tryz.underlying22 hi hz hsz hby rfl (by decide) v n (intC ys) hown ⟨g,o,none⟩ xs.length c (intC xs) (by simp [intC_len]) (fun j u hj=>by rw [Addr.add_lit]; exact h j u hj)
    (fun u hu=>by simp only [intC,List.mem_map] at hu; obtain ⟨_,_,rfl⟩:=hu; rfl) (by unfold maxLen; omega) (by omega) hb
   exact ⟨v',w',h1,by rw [intC_append]; exact h2,h3⟩
theorem wpList_append_ints {ops:Array Oper} {rest:List Oper} {o:Oper} {a:Act} {w:World} {Q:Exit→Act→World→Prop} (hgd:o.guard=none) (s x:Operand)
 (ho:o.op=.call { callee:=.builtin .append,args:=#[s,x],argTypes:=#[22,22] }) {base n:Nat} (v:Value) {u:Value} {xs ys:List Int} (hv:a.eval s=v) (hx:a.eval x=u) (hown:w.ownsRow base 3 1 v n (intC ys)) (hs:Ints w u xs) (hn:n+xs.length≤1000000) (hb:base≤w.heap.size)
 (h:∀ v' w',w'.ownsRow base 3 1 v' (n+xs.length) (intC (ys++xs))→w.grownBy w' v.ownBlock→wpList Tryz.prog ops Q rest (a.put o.dst v') w'):wpList Tryz.prog ops Q (o::rest) a w:=by
 refine wpList_plain hgd fun K hK=>?_
 obtain ⟨v',w',hr,h2,h3⟩:=run_append_ints o.type hown hs hn hb
 unfold Oper.wp execOp
 simp only [ho,resolve,invoke,builtin,Sem.run_bind,Sem.run_pure,Result.andThen_ok,List.map_toArray,List.map_cons,List.map_nil,hv,hx,hr]
 exact hK _ _ (h v' w' h2 h3)
theorem run_append_make (w:World) (ty:TypeId) (n:Nat) (h0:0<n) (hn:n≤1000000) :
 (Builtin.append_ #[22,3] ty #[.slice none 0 0,.int .i64 n]).run Tryz.prog w =
  .ok (.slice (some ⟨w.heap.size,0,none⟩) n (grownCap w n 0 3)) (w.drew.alloc (.cells (Builtin.zeroCells #[.int .i64 0] n++Builtin.zeroCells #[.int .i64 0] (grownCap w n 0 3-n)) 3)):=by
 obtain ⟨i,hi,hz,hsz,hby⟩:=info3n
 have hw:IntKind.i64.wrap (n:Int)=(n:Int):=xI _ (by omega)
 have e1:¬ ((n:Int)<0):=by omega
 have e2:¬ (281474976710656<(n:Int)*8):=by omega
 have e3:n≠0:=by omega
 have e4:¬ ((n:Int)≤0):=by omega
 have hm:max (n:Int) 0=n:=by omega
 have h63':¬ (9223372036854775807<(n:Int)):=by omega
 have h48':¬ (281474976710656<Builtin.nextslicecap n 0*8):=by rw [nextslicecap_zero h0]; omega
 simp [Builtin.append_,run_underlying Tryz.underlying22,run_underlying Tryz.underlying3,sizeOf,typeInfo,zeroValue,hi,hz,hsz,hby,asInt,asIntOf,hm,Value.cells,hw,e1,e2,e3,h63',h48',Question.forced,run_firstCells_none,newRow,grownCap]
theorem wpList_append_make {ops:Array Oper} {rest:List Oper} {o:Oper} {a:Act} {w:World} {Q:Exit→Act→World→Prop} (hgd:o.guard=none) (s x:Operand)
 (ho:o.op=.call { callee:=.builtin .append,args:=#[s,x],argTypes:=#[22,3] }) (n:Nat) (h0:0<n) (hn:n≤1000000) (hv:a.eval s=.slice none 0 0) (hx:a.eval x=.int .i64 n)
 (h:∀ (cap:Nat) w',w'.ownsRow w.heap.size 3 1 (.slice (some ⟨w.heap.size,0,none⟩) 0 cap) 0 []→w.grownBy w' none→(0:Int)≤cap→(cap:Int)≤9223372036854775807→wpList Tryz.prog ops Q rest (a.put o.dst (.slice (some ⟨w.heap.size,0,none⟩) n cap)) w'):wpList Tryz.prog ops Q (o::rest) a w:=by
 refine wpList_plain hgd fun K hK=>?_
 have hr:=run_append_make w o.type n h0 hn
 have hge:=grownCap_ge w n 0 3
 have hcm:=grownCap_le_maxLen w n 0 3 (by unfold maxLen; omega)
 unfold Oper.wp execOp
 simp only [ho,resolve,invoke,builtin,Sem.run_bind,Sem.run_pure,Result.andThen_ok,List.map_toArray,List.map_cons,List.map_nil,hv,hx,hr]
 refine hK _ _ (h _ _ (World.ownsRow_made w.drew _ _ (Nat.le_refl _) hcm ?_) ⟨rfl,rfl,rfl,by simp,fun k hk _=>heap_alloc_old w.drew _ hk⟩ (by omega) ?_)
 · simp [size_zeroCells]; omega
 · unfold maxLen at hcm; omega
def OwnPost (w:World) (xs:List Int) (e:Ending) (w':World):Prop:=∃ v,e=.returned v∧w'.ownsRow w.heap.size 3 1 v xs.length (intC xs)∧w.grownBy w' none
theorem grow_any (n:Nat) (hn:n≤1000000) (w:World):Calls Tryz.prog 122 #[.slice none 0 0,.int .i64 n] w (OwnPost w []):=by
 by_cases h0:0<n
 · go_enter Tryz.func122,Tryz.ntmps122
   go_wp2_with (at_builtin; refine wpList_append_make rfl _ _ rfl n h0 hn rfl rfl ?_; intro cap w1 hown hgrow hc0 hc1)
   go_ret
   exact ⟨_,rfl,hown,hgrow⟩
 · obtain rfl:n=0:=by omega
   go_enter Tryz.func122,Tryz.ntmps122
   go_wp2_with fail
   go_ret
   exact ⟨_,rfl,World.ownsRow_nil _ _ _ _,grow_self w⟩
theorem concat_any (va vb:Value) (xs ys:List Int) (g:Nat) (fr:Nat × Nat) (w:World) (hx:Ints w va xs) (hy:Ints w vb ys) (hn:xs.length+ys.length≤1000000) (hg:w.heap[g]? = some (.cells #[va,vb] 22 fr)) :
 Calls Tryz.prog 105 #[.slice (some ⟨g,0,none⟩) 2 2] w (OwnPost w (xs++ys)):=by
 have HX:=hid hx
 have HY:=hid hy
 obtain ⟨a1,c1,rfl,_⟩:=hx
 obtain ⟨a2,c2,rfl,_⟩:=hy
 obtain ⟨l0,l1⟩:=cb2 hg
 have HG:=hid hg
 clear hg
 have HGr:=hid (show ∀ w,Calls Tryz.prog 122 #[.slice none 0 0,.int .i64 ((xs.length:Int)+(ys.length:Int))] w (OwnPost w []) from fun w=>by
  have:=grow_any (xs.length+ys.length) hn w
  rwa [Int.natCast_add] at this)
 go_enter Tryz.func105,Tryz.ntmps105
 go_wp2_with fail
 refine wp_loop_rounds 3 ?_
 rw [rounds_succ]
 go_wp2_with fail
 rw [rounds_succ]
 go_wp2_with fail
 rw [rounds_succ]
 go_wp2_with fail
 refine (HGr.out _).mono ?_
 rintro e w1 ⟨v,rfl,own1,g1⟩
 obtain ⟨av,cv,rfl⟩:=yos own1
 have m0:=ycg l0 g1
 have m1:=ycg l1 g1
 have HX1:=hid (HX.out.grow g1)
 have HY1:=hid (HY.out.grow g1)
 have HG1:=hid g1
 have HB1:=hid (grow_new g1 HG.out)
 have HO1:=hid (show w1.ownsRow w.heap.size 3 1 (.slice av 0 cv) 0 (intC []) from own1)
 clear g1 own1 l0 l1
 have hs1:=HG1.out.size
 go_wp2_with fail
 refine wp_loop_rounds 3 ?_
 rw [rounds_succ]
 go_wp2_with (at_builtin; refine wpList_append_ints rfl _ _ rfl (.slice av 0 cv) rfl rfl HO1.out HX1.out (by simp; omega) hs1 ?_; intro v2 w2 own2 g2; obtain ⟨av2,cv2,rfl⟩:=yos own2; have HB2:=hid (ygb HO1.out g2 HB1.out (by decide)); have n0:=xC HB2.out 0; have n1:=xC HB2.out 1; simp only [xGe,xGz,xGs] at n0 n1; clear m0 m1)
 have HO2:=hid (show w2.ownsRow w.heap.size 3 1 (.slice av2 xs.length cv2) xs.length (intC xs) by simpa using own2)
 have HG2:=hid (grow_row HG1.out g2 (fun k hk=>(HO1.out.lt k hk).1))
 have HY2:=hid (HY.out.grow HG2.out)
 have hs2:=HG2.out.size
 clear own2 g2
 rw [rounds_succ]
 go_wp2_with (at_builtin; refine wpList_append_ints rfl _ _ rfl (.slice av2 xs.length cv2) rfl rfl HO2.out HY2.out hn hs2 ?_; intro v3 w3 own3 g3; obtain ⟨av3,cv3,rfl⟩:=yos own3; have HB3:=hid (ygb HO2.out g3 HB2.out (by decide)); have o0:=xC HB3.out 0; have o1:=xC HB3.out 1; simp only [xGe,xGz,xGs] at o0 o1; clear n0 n1)
 have HG3:=hid (grow_row HG2.out g3 (fun k hk=>(HO2.out.lt k hk).1))
 have HO3:=hid (show w3.ownsRow w.heap.size 3 1 (.slice av3 (xs++ys).length cv3) (xs++ys).length (intC (xs++ys)) by simpa using own3)
 clear own3 g3
 rw [rounds_succ]
 go_wp2_with fail
 go_ret
 refine ⟨_,?_,HO3.out,HG3.out⟩
 simp
end Go.Proofs.YtplbacfjmajeeaaGreatDoor
