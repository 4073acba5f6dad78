import Derived.Test.YtplbacfjmajeeaaGreatDoorJ27
namespace Go.Proofs.YtplbacfjmajeeaaGreatDoor
open Go.Lib (hid)
set_option maxHeartbeats 4000000
set_option maxRecDepth 100000
open Go.RowKit
def LastRel (w:World) (X:Nat) (T:List Pt) (q:Pt) (a:Option Addr) (n c:Nat) (i:Nat) (wr:World):Prop :=
 ∃ V fo a5 n5 k5,V.fi=.slice a5 n5 k5∧Sp wr w.heap.size X (spD (T++[q]) fo (lastO T 0++(q.last (ylL T)).take i)) (2*sizes (T++[q])*100000000) V [⟨3,V.fi,intC (natI (firstO (T++[q]) 0))⟩]∧w.grownBy wr none ∧
  Ints wr (.slice a n c) (natI (q.last (ylL T)))∧∀ g o n' c',Value.slice a n c=.slice (some ⟨g,o,none⟩) n' c'→V.la.ownBlock≠some g
theorem last_step {w wr:World} {X:Nat} {T:List Pt} {q:Pt} {a:Option Addr} {n c i:Nat} {V:SpV} {fo:List Nat} {a5:Option Addr} {n5 k5 g nl cl:Nat} (hfi:V.fi=.slice a5 n5 k5) (S:Sp wr w.heap.size X (spD (T++[q]) fo (lastO T 0++(q.last (ylL T)).take i)) (2*sizes (T++[q])*100000000) V [⟨3,V.fi,intC (natI (firstO (T++[q]) 0))⟩])
 (G:w.grownBy wr none) (hI:Ints wr (.slice a n c) (natI (q.last (ylL T)))) (hg:∀ g o n' c',Value.slice a n c=.slice (some ⟨g,o,none⟩) n' c'→V.la.ownBlock≠some g) (hv:V.la=.slice (some ⟨g,0,none⟩) nl cl) (hi:i<(q.last (ylL T)).length) :
 LastRel w X T q a n c (i+1) (wr.setCell ⟨g,(q.last (ylL T))[i],none⟩ (.bool true)):=by
 have hb:=last_bd q _ _ (List.getElem_mem hi)
 have hk:(q.last (ylL T))[i]<(spD (T++[q]) fo (lastO T 0++(q.last (ylL T)).take i)).n:=by rw [spD_n,leavesL_snoc]; exact hb.2
 have S':=S.setLast hv hk
 have gr:wr.grownBy (wr.setCell ⟨g,(q.last (ylL T))[i],none⟩ (.bool true)) (some g):=grow_cell _ _
 have hgn:w.heap.size≤g:=((S.rows.get (j:=4) rfl).lt g (show V.la.ownBlock=some g by rw [hv]; rfl)).1
 have e:({ spD (T++[q]) fo (lastO T 0++(q.last (ylL T)).take i) with la:=(spD (T++[q]) fo (lastO T 0++(q.last (ylL T)).take i)).la.set (q.last (ylL T))[i] true }:SpD)=spD (T++[q]) fo (lastO T 0++(q.last (ylL T)).take (i+1)):=by
  unfold spD
  simp only [SpD.mk.injEq,true_and,and_true]
  rw [lastsB_set,List.take_succ_eq_append_getElem hi,List.append_assoc]
 rw [e] at S'
 exact ⟨V,fo,a5,n5,k5,hfi,S',grow_row G gr (fun k hk=>by simp at hk; omega),ints_row hI gr (fun g' o n' c' e=>by have:=hg g' o n' c' e; rw [hv] at this; simpa [Value.ownBlock] using fun e=>this (by simp [Value.ownBlock,e])),hg⟩
theorem spot_bud (a b c:Nat) (h:a+b≤c):2*a*100000000+2*b*100000000≤2*c*100000000:=by omega
theorem spotsOf_any (ps:List Pt) (b off cap:Nat) (w:World) (hR:∀ p∈ps,Right p) (hm:MksAt w ps b off) (hn:ylL ps≤10000) (hs:2*sizes ps*100000000≤100000000000) :
 Calls Tryz.prog 46 #[.slice (some ⟨b,off,none⟩) ps.length cap] w fun e w'=>∃ X,e=.returned (.pointer (some ⟨X,0,none⟩))∧SpotRel w X ps w':=by
 have hlen:=len_sizes ps
 have hps:ps.length≤1000:=by
  have h:2*sizes ps≤1000:=Nat.le_of_mul_le_mul_right (show 2*sizes ps*100000000≤1000*100000000 from hs) (by decide)
  omega
 have HR:=hid hR
 have HM:=hid hm
 have HS:=hid hs
 have H0:=hid (spot_start w)
 clear hR hm hs
 go_enter Tryz.func46,Tryz.ntmps46
 go_wp2_with fail
 go_loopw [15] (fun i wr=>∃ j:Nat,j≤ps.length∧i=.int .i64 j∧SpotRel w w.heap.size (ps.take j) wr) (fun i _=>ps.length-(intOf i).toNat)
 case atStart=>exact ⟨0,Nat.zero_le _,rfl,H0.out⟩
 case round =>
  obtain ⟨j,hj,rfl,hrel⟩:=hrel
  have HQ:=hid hrel
  clear hrel
  by_cases hlt:j<ps.length
  · obtain ⟨V,fo,a0,n0,k0,hfi,S,G⟩:=HQ.out
    obtain ⟨s,o,l,h,x,xn,xc,c0,c1,c2,c3,c4,hq⟩:=HM.out j hlt
    replace c0:=ycg c0 G
    replace c1:=ycg c1 G
    replace c2:=ycg c2 G
    replace c3:=ycg c3 G
    replace c4:=ycg c4 G
    have hle1:=leaves_take ps j hlt
    have hle2:=leaves_take_le ps (j+1)
    have hsz1:=sizes_take ps j hlt
    have hsz2:=sizes_take_le ps (j+1)
    have HT:=hid (List.take_succ_eq_append_getElem hlt)
    have HTl:=hid (show (ps.take j).length=j by rw [List.length_take]; omega)
    have hRq:=HR.out ps[j] (List.getElem_mem hlt)
    have HW:=hid (walk_any w ps[j] hRq (j:Nat) (.agg #[.int .i64 o,.int .i64 l,.int .i64 h,.slice x xn xc]) (wr.alloc (.cells #[.string s,.int .i64 o,.int .i64 l,.int .i64 h,.slice x xn xc] 88)) w.heap.size w.heap.size (spD (ps.take j) fo (lastO (ps.take j) 0)) (2*sizes (ps.take j)*100000000) V hq (yga G _) rfl (Nat.le_refl _) (S.bare.alloc _) (by rw [spD_n]; omega)
     (Nat.le_trans (spot_bud _ _ _ (by omega)) HS.out) (fun i k hF=>by rw [spD_n]; have:=folO_bd (ps.take j) 0 i k hF; omega))
    have HS1:=hid (S.alloc (.cells #[.string s,.int .i64 o,.int .i64 l,.int .i64 h,.slice x xn xc] 88))
    have HG:=hid (yga G (.cells #[.string s,.int .i64 o,.int .i64 l,.int .i64 h,.slice x xn xc] 88))
    generalize ps[j]=q at HT hle1 hsz1 HW
    generalize ps.take j=T at *
    have HFI:=hid hfi
    clear S G hq hRq hfi
    go_wp2_with fail
    refine HW.out.mono ?_
    rintro e w2 ⟨a1,n1,k1,a2,n2,k2,V2,fo2,rfl,S2,E2,hfi2,hlen2,hnew2,R1,R2⟩
    have e1:((j:Nat):Int)=((T.length:Nat):Int):=by rw [HTl.out]
    rw [spD_n,e1] at S2 E2 R1 R2
    have G2:=grow_ext HG.out rfl (Nat.le_refl _) HS1.out E2
    have S3:=(spD_snoc (HS1.out.beside E2 S2)).mono (show 2*sizes T*100000000+(2*q.size-1)*100000000≤2*sizes (T++[q])*100000000 by rw [sizes_snoc]; omega)
    have hfo:V2.fi=.slice a0 n0 k0:=hfi2.trans HFI.out
    rw [HFI.out] at S3
    have E3:=ext_new (X:=w.heap.size) G2 S3.rows.left
    have N3:=new_rows S3 rfl
    have c5:=xC S3.blk 5
    simp only [xGe,xGz,xGs] at c5
    rw [hfo] at c5
    have l1:(natI (firstO T 0)).length+(natI (q.first (ylL T))).length≤1000000:=by
     rw [natI_len,natI_len]
     have:=firstO_len T 0
     have:=first_len q (ylL T)
     omega
    have HS3:=hid S3
    have HE3:=hid E3
    have HN3:=hid N3
    have HL1:=hid l1
    have HI1:=hid R1.1
    have HNB:=hid (show ∀ g o n c,Value.slice a2 n2 k2=.slice (some ⟨g,o,none⟩) n c→some g≠(Value.slice a0 n0 k0).ownBlock from fun g o n c e e2=>by
     have h1:=(R2.2 g o n c e).1
     have h2:=((HS1.out.rows.get (j:=5) rfl).lt g (by show V.fi.ownBlock=some g; rw [HFI.out]; exact e2.symm)).2
     omega)
    have HR2:=hid R2
    have hl2:=last_len q (ylL T)
    clear S2 E2 S3 E3 N3 R1 R2 G2 l1 e1 hnew2 hfo
    go_wp2_with (at_builtin; refine wpList_append_row rfl _ _ rfl HS3.out HE3.out HN3.out 0 (.slice a0 n0 k0) (natI (firstO T 0)) rfl rfl rfl HI1.out HL1.out ?_; intro av nv cv w3 S4 E4 N4 g4; have d5:=xC S4.blk 5; have f5:=yfb S4.blk 5; simp only [xGe,xGz,xGs] at d5)
    have hLR:LastRel w w.heap.size T q a2 n2 k2 0 (w3.setCell ⟨w.heap.size,5,none⟩ (.slice av nv cv)):=by
     have gX:w3.grownBy (w3.setCell ⟨w.heap.size,5,none⟩ (.slice av nv cv)) (some w.heap.size):=grow_cell 5 _
     have S5:=S4.setFi (.slice av nv cv)
     refine ⟨{ V2 with fi:=.slice av nv cv },fo++fo2,av,nv,cv,rfl,?_,?_,?_,?_⟩
     · simp only [List.take_zero,List.append_nil]
       rw [firstO_snoc,natI_append,Nat.zero_add]
       exact S5
     · exact grow_row (grow_new_ext E4 (Nat.le_refl _)) gX (fun k hk=>by simp at hk; omega)
     · exact ints_row (ints_row HR2.out.1 g4 HNB.out) gX (fun g o n c e=>by simpa using (HR2.out.2 g o n c e).2.2.1)
     · intro g o n' c' e
       exact (HR2.out.2 g o n' c' e).2.2.2 ⟨4,V2.la,_⟩ (List.mem_of_getElem? (i:=4) rfl)
    have HLR:=hid hLR
    clear hLR S4 E4 N4 g4 d5 f5 c5
    have hn2:n2=(q.last (ylL T)).length:=by
     obtain ⟨a',c',e,_⟩:=HR2.out.1
     simp only [Value.slice.injEq] at e
     rw [e.2.1,natI_len]
    have HN2:=hid hn2
    clear hn2
    go_wp2_with fail
    obtain ⟨wo,rfl⟩:∃ wo:World,wo=wr:=⟨_,rfl⟩
    go_loopw [40] (fun i wr=>∃ k:Nat,k≤(q.last (ylL T)).length∧i=.int .i64 k∧LastRel w w.heap.size T q a2 n2 k2 k wr) (fun i _=>(q.last (ylL T)).length-(intOf i).toNat)
    case atStart=>exact ⟨0,Nat.zero_le _,rfl,HLR.out⟩
    case round =>
     obtain ⟨k,hk,rfl,hrel⟩:=hrel
     have HK:=hid hrel
     clear hrel
     by_cases hkt:k<(q.last (ylL T)).length
     · obtain ⟨V5,fo5,a5,n5,k5,hfi5,S6,G6,I6,N6⟩:=HK.out
       obtain ⟨a2',c2',e2,he⟩:=I6.elem
       obtain ⟨g2,o2,e3,hce⟩:=he k (by rw [natI_len]; exact hkt)
       simp only [Value.slice.injEq] at e2
       obtain ⟨rfl,_,_⟩:=e2
       subst e3
       have hgd:(natI (q.last (ylL T))).getD k 0=(((q.last (ylL T))[k]:Nat):Int):=by simp [natI,List.getD,hkt]
       rw [hgd] at hce
       have hbd:=last_bd q _ _ (List.getElem_mem hkt)
       have hml:(boolC (spD (T++[q]) fo5 (lastO T 0++(q.last (ylL T)).take k)).la).length=ylL T+q.leaves:=by simp only [boolC,List.length_map,spD]; rw [lastsB_len,leavesL_snoc]
       obtain ⟨gl,cl,hvl,hbl,hcl⟩:=yoe (S6.rows.get (j:=4) rfl) (by rw [show (boolC (spD (T++[q]) fo5 (lastO T 0++(q.last (ylL T)).take k)).la).length=_ from hml]; omega)
       obtain ⟨_,csl,hhl⟩:=yob (S6.rows.get (j:=4) rfl) gl (by rw [hvl]; rfl)
       simp only [hml] at hvl
       have x4:=xC S6.blk 4
       simp only [xGe,xGz,xGs] at x4
       rw [show V5.la=_ from hvl] at x4
       obtain ⟨yv,hlk⟩:∃ yv,(boolC (spD (T++[q]) fo5 (lastO T 0++(q.last (ylL T)).take k)).la)[(q.last (ylL T))[k]]? = some yv:=⟨_,List.getElem?_eq_getElem (by rw [hml]; exact hbd.2)⟩
       have y4:=hcl _ _ hlk
       have fy:=yfb hhl (q.last (ylL T))[k]
       have HST:=hid (last_step hfi5 S6 G6 I6 N6 hvl hkt)
       clear S6 G6 I6 N6 he hcl hhl hlk hml hgd hvl hbl hfi5
       generalize (q.last (ylL T))[k]=kk at *
       have b1:(0:Int)≤(kk:Int):=by omega
       have hkN:=HN2.out
       have hlt2:(k:Int)<n2:=by omega
       clear hkN
       have b2:(kk:Int)<((ylL T+q.leaves:Nat):Int):=by omega
       go_wp2_with fail
       go_roundw
       case rel=>exact ⟨k+1,by omega,by go_num,HST.out⟩
       case measure=>simp [intOf]; omega
     · have hke:k=(q.last (ylL T)).length:=by omega
       have hFin:SpotRel w w.heap.size (ps.take (j+1)) wr:=by
        obtain ⟨V5,fo5,a5,n5,k5,hfi5,S6,G6,I6,N6⟩:=HK.out
        rw [hke,List.take_length] at S6
        have e2:lastO T 0++q.last (ylL T)=lastO (T++[q]) 0:=by rw [lastO_snoc,Nat.zero_add]
        rw [e2] at S6
        rw [HT.out]
        exact ⟨V5,fo5,a5,n5,k5,hfi5,S6,G6⟩
       have HFin:=hid hFin
       have hkN:=HN2.out
       have hlt2:¬ (k:Int)<n2:=by omega
       clear hFin hke hkN
       go_wp2_with fail
       go_roundw
       case rel=>exact ⟨j+1,by omega,by go_num,HFin.out⟩
       case measure=>simp [intOf]; omega
  · have hje:j=ps.length:=by omega
    have HE:=hid (show ps.take j=ps by rw [List.take_of_length_le (by omega)])
    clear hje
    go_wp2_with fail
    go_ret
    exact ⟨_,rfl,by have:=HQ.out; rwa [HE.out] at this⟩
theorem grow_drewN {w w':World} (g:w.grownBy w' none) (n:Nat):w.grownBy (w'.drewN n) none:=⟨g.os,g.tape,g.output,g.size,g.block⟩
theorem in_q (n lo hi:Int) (w:World):Calls Tryz.prog 62 #[.int .i64 n,.int .i64 lo,.int .i64 hi] w fun e w'=>e=.returned (.bool (inB n lo hi))∧w'=w:=(in_any n lo hi w).mono fun _ _ ⟨h1,h2⟩=>⟨h1,h2.symm⟩
def stepS (lo hi:List Int) (can:List Nat) (c:Nat):List Nat:=can.filter fun i=>inB (c:Int) (lo.getD i 0) (hi.getD i 0)
theorem stepS_snoc (lo hi:List Int) (can:List Nat) (c i:Nat):stepS lo hi (can++[i]) c=stepS lo hi can c++if inB (c:Int) (lo.getD i 0) (hi.getD i 0)=true then [i] else []:=by
 unfold stepS
 rw [List.filter_append,List.filter_cons,List.filter_nil]
theorem stepS_len (lo hi:List Int) (can:List Nat) (c:Nat):(stepS lo hi can c).length≤can.length:=List.length_filter_le _ _
def StepRel (w:World) (v:Value) (l:List Nat) (wr:World):Prop:=wr.ownsRow w.heap.size 3 1 v l.length (intC (natI l))∧w.grownBy wr none
def NatPost (w:World) (l:List Nat) (e:Ending) (w':World):Prop:=∃ a c,e=.returned (.slice a l.length c)∧StepRel w (.slice a l.length c) l w'
theorem Ints.one {w:World} (x:Int) (t:TypeId):Ints (w.alloc (.cells #[.int .i64 x] t)) (.slice (some ⟨w.heap.size,0,none⟩) 1 1) [x] :=
 ⟨_,_,rfl,.inr ⟨_,_,rfl,fun j u hj=>(by
  have hj2:[Value.int .i64 x][j]? = some u:=by simpa [intC] using hj
  rw [xC (xN w _),Nat.zero_add,← hj2,xGe])⟩⟩
theorem step_len {w:World} {a:Option Addr} {n k:Nat} {l:List Nat} {wr:World} (h:StepRel w (.slice a n k) l wr):n=l.length:=by
 obtain ⟨_,_,e⟩:=yos h.1
 simp only [Value.slice.injEq] at e
 exact e.2.1
theorem step_any (can:List Nat) (cv:Value) (w:World) (base X:Nat) (d:SpD) (c0:Nat) (V:SpV) (extra:List Row) (c:Nat) (S:Sp w base X d c0 V extra) (hI:Ints w cv (natI can)) (hc:∀ i∈can,i<d.n) (hn:d.n≤100000) (hl:can.length≤100000) :
 Calls Tryz.prog 59 #[.pointer (some ⟨X,0,none⟩),cv,.int .i64 c] w (NatPost w (stepS d.lo d.hi can c)):=by
 have HS:=hid S
 have HC:=hid hc
 have HI:=hid hI
 obtain ⟨ca,cc,rfl,_⟩:=hI
 rw [natI_len] at HI ⊢
 obtain ⟨x0,x1⟩:=cb2 S.blk
 clear S hc
 go_enter Tryz.func59,Tryz.ntmps59
 go_wp2_with fail
 go_loopw [7,12] (fun v i wr=>∃ (j:Nat) (a:Option Addr) (n k:Nat),j≤can.length∧i=.int .i64 j∧v=.slice a n k∧StepRel w (.slice a n k) (stepS d.lo d.hi (can.take j) c) wr) (fun _ i _=>can.length-(intOf i).toNat)
 case atStart=>exact ⟨0,none,0,0,Nat.zero_le _,rfl,rfl,World.ownsRow_nil _ _ _ _,grow_self w⟩
 case round =>
  obtain ⟨j,a,n,k,hj,rfl,rfl,hrel⟩:=hrel
  have HR:=hid hrel
  clear hrel
  by_cases hlt:j<can.length
  · obtain ⟨ca',cc',e1,he⟩:=(HI.out.grow HR.out.2).elem
    obtain ⟨g1,o1,e2,hce⟩:=he j (by rw [natI_len]; exact hlt)
    simp only [Value.slice.injEq] at e1
    obtain ⟨rfl,_,_⟩:=e1
    subst e2
    have hgd:(natI can).getD j 0=((can[j]:Nat):Int):=by simp [natI,List.getD,hlt]
    rw [hgd] at hce
    have hin:=HC.out can[j] (List.getElem_mem hlt)
    have HT:=hid (show stepS d.lo d.hi (can.take (j+1)) c=_ by rw [List.take_succ_eq_append_getElem hlt,stepS_snoc])
    have hlen:=stepS_len d.lo d.hi (can.take j) c
    have hlen2:(can.take j).length≤can.length:=List.length_take_le' _ _
    generalize can[j]=i at *
    obtain ⟨gl,cl,hvl,hbl,hcl⟩:=yoe (HS.out.rows.get (j:=0) rfl) (by show 0<(intC d.lo).length; rw [intC_len]; unfold SpD.n at hin; omega)
    obtain ⟨gh,ch,hvh,hbh,hch⟩:=yoe (HS.out.rows.get (j:=1) rfl) (by show 0<(intC d.hi).length; rw [intC_len,HS.out.len.1]; omega)
    have hvl2:V.lo=.slice (some ⟨gl,0,none⟩) d.n cl:=by have:=hvl; simp only [intC_len] at this; exact this
    have hvh2:V.hi=.slice (some ⟨gh,0,none⟩) d.n ch:=by have:=hvh; simp only [intC_len,HS.out.len.1] at this; exact this
    have y0:=ycg x0 HR.out.2
    have y1:=ycg x1 HR.out.2
    rw [hvl2] at y0
    rw [hvh2] at y1
    have zl:=ycg (hcl i (.int .i64 (d.lo.getD i 0)) (by show (intC d.lo)[i]? = _; unfold SpD.n at hin; simp [intC,List.getD,hin])) HR.out.2
    have zh:=ycg (hch i (.int .i64 (d.hi.getD i 0)) (by show (intC d.hi)[i]? = _; have:=HS.out.len.1; simp [intC,List.getD,show i<d.hi.length by omega])) HR.out.2
    have b1:(0:Int)≤(i:Int):=by omega
    have b2:(i:Int)<(d.n:Int):=by omega
    clear hcl hch hvl hvh hvl2 hvh2 he hgd
    obtain ⟨b,hb⟩:∃ b:Bool,inB (c:Int) (d.lo.getD i 0) (d.hi.getD i 0)=b:=⟨_,rfl⟩
    rw [hb] at HT
    have HQ:=hid (in_q (c:Int) (d.lo.getD i 0) (d.hi.getD i 0))
    rw [hb] at HQ
    have HL:=hid (show stepS d.lo d.hi (can.take j) c=stepS d.lo d.hi (can.take j) c from rfl)
    clear hb
    generalize d.lo.getD i 0=vl at *
    generalize d.hi.getD i 0=vh at *
    generalize hQ:stepS d.lo d.hi (can.take j) c=Q at *
    have HQQ:=hid hQ
    clear hQ HL
    go_wp2_with fail
    go_quiet ((go_at_call 62; exact Calls.quiet_of_same (HQ.out _)))
    have HR2:=hid (show StepRel w (.slice a n k) Q (wr.drewN nq) from ⟨own_keep HR.out.1 (grow_drewN (grow_self wr) nq),grow_drewN HR.out.2 nq⟩)
    have hsz:w.heap.size≤(wr.drewN nq).heap.size:=HR2.out.2.size
    obtain ⟨wq,hwq⟩:∃ wq,wr.drewN nq=wq:=⟨_,rfl⟩
    rw [hwq] at HR2 hsz ⊢
    clear hwq y0 y1 zl zh hce x0 x1
    have hn':=step_len HR2.out
    rcases b with _ | _
    · have HT2:=hid (show stepS d.lo d.hi (can.take (j+1)) c=Q by rw [HT.out]; simp)
      go_wp2_with fail
      go_roundw
      case rel=>exact ⟨j+1,a,n,k,by omega,by go_num,rfl,by rw [HT2.out]; exact HR2.out⟩
      case measure=>simp [intOf]; omega
    · have HT2:=hid (show stepS d.lo d.hi (can.take (j+1)) c=Q++[i] by rw [HT.out]; simp)
      subst hn'
      have HO:=hid (show (wq.alloc (.cells #[.int .i64 i] 3)).ownsRow w.heap.size 3 1 (.slice a Q.length k) Q.length (intC (natI Q)) from own_keep HR2.out.1 (xG _ _ _))
      have HG:=hid (yga HR2.out.2 (.cells #[.int .i64 i] 3))
      have HN:=hid (show Q.length+[(i:Int)].length≤1000000 by simp; omega)
      go_wp2_with (at_builtin; refine wpList_append_ints rfl _ _ rfl (.slice a Q.length k) rfl rfl HO.out (Ints.one _ _) HN.out HG.out.size ?_; intro v2 w2 own2 g2; obtain ⟨a2,c2,rfl⟩:=yos own2)
      have HR3:=hid (show StepRel w (.slice a2 (Q.length+1) c2) (Q++[i]) w2 from ⟨by simpa [natI] using own2,grow_row HG.out g2 (fun k hk=>(HO.out.lt k hk).1)⟩)
      clear own2 g2
      go_wp2_with fail
      go_roundw
      case rel=>exact ⟨_,_,_,⟨j+1,by rw [natI_len]; omega,rfl,_,_,_,rfl,by rw [HT2.out]; exact HR3.out⟩,rfl,rfl,by simp⟩
      case measure=>simp [intOf]; omega
  · have HE:=hid (show can.take j=can by rw [List.take_of_length_le (by omega)])
    have hn':=step_len HR.out
    go_wp2_with fail
    go_ret
    rw [HE.out] at HR hn'
    subst hn'
    exact ⟨a,k,rfl,HR.out⟩
open Go.RowKit Go.Maps
open Classical in
noncomputable def nextS (F:Nat→Nat→Prop) (n:Nat) (set:List Nat):List Nat:=(List.range n).filter fun k=>decide (∃ i∈set,F i k)
theorem mem_nextS (F:Nat→Nat→Prop) (n:Nat) (set:List Nat) (k:Nat):k∈nextS F n set↔k<n∧∃ i∈set,F i k:=by simp [nextS]
theorem nextS_rising (F:Nat→Nat→Prop) (n:Nat) (set:List Nat):(nextS F n set).Pairwise (· < ·):=List.Pairwise.filter _ List.pairwise_lt_range
theorem nextS_len (F:Nat→Nat→Prop) (n:Nat) (set:List Nat):(nextS F n set).length≤n:=by
 refine Nat.le_trans (List.length_filter_le _ _) ?_
 rw [List.length_range]
 exact Nat.le_refl _
def NxR (w:World) (n:Nat) (wr:World) (G:Nat→Prop):Prop :=
 ∃ l:List Bool,l.length=n∧wr.heap[w.heap.size]? = some (.cells (boolC l).toArray 4 (0,0))∧w.grownBy wr none∧∀ k,k<n→(l[k]? = some true↔G k)
theorem nxR_new (w:World) (n:Nat):NxR w n (w.alloc (.cells (Array.replicate n (.bool false)) 4)) (fun _=>False) :=
 ⟨List.replicate n false,by simp,by rw [xN]; simp [boolC],xG w _ none,fun k hk=>by simp [hk]⟩
theorem NxR.kept {w wr wr':World} {n:Nat} {G:Nat→Prop} (h:NxR w n wr G) {row:Option Nat} (g:wr.grownBy wr' row) (hr:∀ k,row=some k→w.heap.size<k):NxR w n wr' G:=by
 obtain ⟨l,h1,h2,h3,h4⟩:=h
 exact ⟨l,h1,by rw [g.block _ (xL h2) (fun e=>by have:=hr _ e.symm; omega)]; exact h2,grow_row h3 g (fun k hk=>by have:=hr k hk; omega),h4⟩
theorem NxR.iff {w wr:World} {n:Nat} {G G':Nat→Prop} (h:NxR w n wr G) (e:∀ k,k<n→(G k↔G' k)):NxR w n wr G':=by
 obtain ⟨l,h1,h2,h3,h4⟩:=h
 exact ⟨l,h1,h2,h3,fun k hk=>(h4 k hk).trans (e k hk)⟩
theorem NxR.put {w wr:World} {n:Nat} {G:Nat→Prop} (h:NxR w n wr G) (k:Nat) (hk:k<n):NxR w n (wr.setCell ⟨w.heap.size,k,none⟩ (.bool true)) (fun i=>G i∨i=k):=by
 obtain ⟨l,h1,h2,h3,h4⟩:=h
 refine ⟨l.set k true,by simp [h1],?_,ygs h3 _ _ (Nat.le_refl _),fun i hi=>?_⟩
 · rw [yhs h2]
   simp [boolC,List.map_set]
 · by_cases e:i=k
   · subst e
     simp [h1,hi]
   · rw [List.getElem?_set_ne (fun h=>e h.symm),h4 i hi]
     simp [e]
theorem NxR.cell {w wr:World} {n:Nat} {G:Nat→Prop} (h:NxR w n wr G) (k:Nat) (hk:k<n):∃ b,wr.cell? ⟨w.heap.size,k,none⟩=some (.bool b)∧wr.frozen? ⟨w.heap.size,k,none⟩=false:=by
 obtain ⟨l,h1,h2,h3,h4⟩:=h
 have:k<l.length:=by omega
 exact ⟨l[k],by rw [xC h2]; simp [boolC,this],yfb h2 k⟩
theorem NxR.lt {w wr:World} {n:Nat} {G:Nat→Prop} (h:NxR w n wr G):w.heap.size<wr.heap.size:=by
 obtain ⟨l,h1,h2,h3,h4⟩:=h
 exact xL h2
theorem NxR.grow {w wr:World} {n:Nat} {G:Nat→Prop} (h:NxR w n wr G):w.grownBy wr none:=by
 obtain ⟨l,h1,h2,h3,h4⟩:=h
 exact h3
theorem take_mem {F:Nat→Nat→Prop} {set:List Nat} {j:Nat} (h:j<set.length) (k:Nat):(∃ i∈set.take (j+1),F i k)↔((∃ i∈set.take j,F i k)∨F set[j] k):=by
 rw [List.take_succ_eq_append_getElem h]
 simp only [List.mem_append,List.mem_singleton]
 constructor
 · rintro ⟨i,h1 | h1,h2⟩
   · exact .inl ⟨i,h1,h2⟩
   · subst h1; exact .inr h2
 · rintro (⟨i,h1,h2⟩ | h2)
   · exact ⟨i,.inl h1,h2⟩
   · exact ⟨_,.inr rfl,h2⟩
theorem wpList_next_iv {w:World} {ops:Array Oper} {rest:List Oper} {o:Oper} {a:Act} {Q:Exit→Act→World→Prop} (hg:o.guard=none) (it:Operand) (hop:o.op=Op.next it false) (R:Value→Option (DataW Unit × List MemPlace))
 (b r n:Nat) (D:DataW Unit) (left:Lit→Bool) (cnt:Nat) (hit:a.eval it=.pointer (some ⟨r,0,none⟩)) (h:w.ranges Tryz.prog 3 R b r n D left cnt)
 (hDone:cnt=0→(∀ kl,left kl=false)→wpList Tryz.prog ops Q rest (a.put o.dst (.tuple #[.bool false])) w)
 (hMore:∀ (x:Int) (v:Value) (w':World) (cnt':Nat),left (.int .i64 x)=true→w'.ranges Tryz.prog 3 R b r n D (fun z=>left z && !z.sameKey (.int .i64 x)) cnt'→cnt'<cnt →
  w.grownBy w' (some r)→w'.heap.size=w.heap.size→(Instr.entry (.pointer (some ⟨r,0,none⟩))).run Tryz.prog w'=.ok (.tuple #[.int .i64 x,v]) w'→wpList Tryz.prog ops Q rest (a.put o.dst (.tuple #[.bool true,.int .i64 x,v])) w') :
 wpList Tryz.prog ops Q (o::rest) a w :=
 wpList_next_ranges w hg it hop 3 (int_keyed Tryz.underlying3) R (Value.int .i64) (fun v:Value=>v) (fun key kl hkey=>(by obtain ⟨x,rfl,_⟩:=keyOf_int_inv Tryz.underlying3 hkey; exact ⟨x,rfl⟩)) (fun v _ _=>⟨v,rfl⟩) b r n D left cnt hit h hDone
  (fun x c kl y w' cnt' hkey hlk _ _ hrg hlt hgr hsz hen=>by
   obtain ⟨x',ex,rfl,_⟩:=keyOf_int_inv Tryz.underlying3 hkey
   cases ex
   exact hMore x c w' cnt' hlk hrg hlt hgr hsz hen)
def NextIn (w:World) (n mm r m:Nat) (D:DataW Unit) (G Fi:Nat→Prop) (wr:World):Prop :=
 ∃ left cnt,wr.ranges Tryz.prog 3 (plainElem (H:=Unit) Tryz.prog 4) mm r m D left cnt∧(∀ kl,left kl=true→∃ k:Nat,kl=.int .i64 (k:Int)∧Fi k)∧NxR w n wr (fun k=>G k∨(Fi k∧left (.int .i64 (k:Int))=false))
def trues (l:List Bool) (j:Nat):List Nat:=(List.range j).filter fun k=>l.getD k false
theorem trues_succ (l:List Bool) (j:Nat):trues l (j+1)=trues l j++if l.getD j false=true then [j] else []:=by
 unfold trues
 rw [List.range_succ,List.filter_append,List.filter_cons,List.filter_nil]
theorem trues_len (l:List Bool) (j:Nat):(trues l j).length≤j:=by
 have:=List.length_filter_le (fun k=>l.getD k false) (List.range j)
 rw [List.length_range] at this
 exact this
theorem trues_next {F:Nat→Nat→Prop} {n:Nat} {set:List Nat} {l:List Bool} (hl:∀ k,k<n→(l[k]? = some true↔∃ i∈set,F i k)):trues l n=nextS F n set:=by
 refine rising_eq _ _ (List.Pairwise.filter _ List.pairwise_lt_range) (nextS_rising F n set) (fun k=>?_)
 rw [mem_nextS]
 simp only [trues,List.mem_filter,List.mem_range]
 constructor
 · rintro ⟨h1,h2⟩
   refine ⟨h1,(hl k h1).1 ?_⟩
   rw [List.getD_eq_getElem?_getD] at h2
   cases h:l[k]? with
   | none=>rw [h] at h2; simp at h2
   | some b=>rw [h] at h2; simp at h2; rw [h2]
 · rintro ⟨h1,h2⟩
   refine ⟨h1,?_⟩
   rw [List.getD_eq_getElem?_getD,(hl k h1).2 h2]
   rfl
theorem law3k:Keyed Tryz.prog 3:=int_keyed Tryz.underlying3
theorem spotsNext_any (set:List Nat) (sv:Value) (w:World) (base X:Nat) (d:SpD) (c0:Nat) (V:SpV) (extra:List Row) (S:Sp w base X d c0 V extra) (hI:Ints w sv (natI set)) (hc:∀ i∈set,i<d.n) (hF:∀ i k,d.F i k→k<d.n) (hn:d.n≤100000) (hl:set.length≤100000) :
 Calls Tryz.prog 58 #[.pointer (some ⟨X,0,none⟩),sv] w (NatPost w (nextS d.F d.n set)):=by
 have HS:=hid S
 have HC:=hid hc
 have HF:=hid hF
 have HI:=hid hI
 obtain ⟨ca,cc,rfl,_⟩:=hI
 rw [natI_len] at HI ⊢
 have x0:=xC S.blk 0
 simp only [xGe,xGz] at x0
 obtain ⟨al,cl,hvl⟩:=yos (S.rows.get (j:=0) rfl)
 have hvl2:V.lo=.slice al d.n cl:=by have:=hvl; simp only [intC_len] at this; exact this
 rw [hvl2] at x0
 have hmk:=mkBools d.n (by omega)
 have hnn:(0:Int)≤(d.n:Int):=by omega
 clear S hc hF hvl hvl2
 go_enter Tryz.func58,Tryz.ntmps58
 go_wp2_with fail
 go_loopw [20] (fun i wr=>∃ j:Nat,j≤set.length∧i=.int .i64 j∧NxR w d.n wr (fun k=>∃ i∈set.take j,d.F i k)) (fun i _=>set.length-(intOf i).toNat)
 case atStart=>exact ⟨0,Nat.zero_le _,rfl,(nxR_new w d.n).iff (fun k _=>by simp)⟩
 case round =>
  obtain ⟨j,hj,rfl,hrel⟩:=hrel
  have HR:=hid hrel
  clear hrel
  by_cases hlt:j<set.length
  · obtain ⟨ca',cc',e1,he⟩:=(HI.out.grow HR.out.grow).elem
    obtain ⟨g1,o1,e2,hce⟩:=he j (by rw [natI_len]; exact hlt)
    simp only [Value.slice.injEq] at e1
    obtain ⟨rfl,e3,e4⟩:=e1
    clear e3 e4
    subst e2
    have hgd:(natI set).getD j 0=((set[j]:Nat):Int):=by simp [natI,List.getD,hlt]
    rw [hgd] at hce
    have hin:=HC.out set[j] (List.getElem_mem hlt)
    have HT:=hid (fun k=>take_mem (F:=d.F) hlt k)
    generalize set[j]=i at *
    obtain ⟨gf,cf,hvf,hbf,hcf⟩:=yoe (HS.out.rows.get (j:=3) rfl) (by show 0<(mapC d.fo).length; rw [mapC,List.length_map,HS.out.len.2.2.1]; omega)
    have hvf2:V.fo=.slice (some ⟨gf,0,none⟩) d.n cf:=by have:=hvf; simp only [mapC,List.length_map,HS.out.len.2.2.1] at this; exact this
    have y3:=ycg (xC HS.out.blk 3) HR.out.grow
    replace y3:wr.cell? ⟨X,3,none⟩=some V.fo:=y3
    rw [hvf2] at y3
    obtain ⟨mm,hmm⟩:∃ mm,d.fo[i]? = some mm:=⟨d.fo[i]'(by rw [HS.out.len.2.2.1]; exact hin),List.getElem?_eq_getElem _⟩
    have zf:=ycg (hcf i (.map (some mm)) (by show (mapC d.fo)[i]? = _; simp [mapC,hmm])) HR.out.grow
    obtain ⟨m,D,_,hown,hD⟩:=(HS.out.maps i mm hmm).2.kept HR.out.grow (by simp)
    have HD:=hid hD
    have hmb:=hid (show mm<w.heap.size from by
     obtain ⟨es,cc,hb⟩:=(HS.out.maps i mm hmm).2.blk
     exact xL hb)
    have b1:(0:Int)≤(i:Int):=by omega
    have b2:(i:Int)<(d.n:Int):=by omega
    clear hcf hvf hvf2 he hgd hD
    go_wp2_with (first | (at_range; refine wpList_range_own _ rfl _ 165 rfl 3 4 law3k Tryz.underlying165 _ mm m _ rfl hown ?_; intro w0 hrg0 hg0 hs0) | fail)
    go_frame
    have HR0:=hid (HR.out.kept hg0 (fun k hk=>by cases hk))
    have hrw:w.heap.size<wr.heap.size:=HR.out.lt
    have HS0:=hid (show NextIn w d.n mm wr.heap.size m D (fun k=>∃ i∈set.take j,d.F i k) (d.F i) w0 from
     ⟨_,_,hrg0,fun kl h=>(HD.out kl).1 h,HR0.out.iff (fun k _=>⟨.inl,fun h=>h.elim id (fun ⟨h1,h2⟩=>absurd ((HD.out _).2 ⟨k,rfl,h1⟩) (by rw [h2]; decide))⟩)⟩)
    generalize wr.heap.size=r at *
    clear hrg0 hg0 hs0 y3 zf hce hown HR HR0 x0
    go_loopw [] (fun wi=>NextIn w d.n mm r m D (fun k=>∃ i∈set.take j,d.F i k) (d.F i) wi) (fun wi=>wi.rangeLeft mm r)
    case atStart=>exact HS0.out
    case round =>
     obtain ⟨left,cnt,hrg,hleft,hN⟩:=hrel
     have HN:=hid hN
     have HL:=hid hleft
     have hm0:wr.rangeLeft mm r=cnt:=hrg.left_eq
     clear hN hleft
     go_wp2_with (first | (at_next; refine wpList_next_iv rfl _ rfl _ mm r m _ _ _ rfl hrg ?_ ?_))
     · intro hc0 hl0
       have HR2:=hid (HN.out.iff (G':=fun k=>∃ i∈set.take (j+1),d.F i k) (fun k _=>by simp only [hl0,and_true]; exact (HT.out k).symm))
       go_wp2_with fail
       go_roundw
       case rel=>exact ⟨j+1,by omega,by go_num,HR2.out⟩
       case measure=>simp [intOf]; omega
     · clear hmk HS HC HI
       intro x xv w1 cnt1 hlx hrg1 hlt1 hg1 hs1 hen
       obtain ⟨k,hk,hFk⟩:=HL.out _ hlx
       simp only [Lit.int.injEq,true_and] at hk
       subst hk
       have hkn:=HF.out _ _ hFk
       have HN1:=hid (HN.out.kept hg1 (fun q hq=>(by cases hq; exact hrw)))
       obtain ⟨kb,zc,zz⟩:=HN1.out.cell k hkn
       have HN2:=hid (HN1.out.put k hkn)
       have HG2:=hid (show w1.grownBy (w1.setCell ⟨w.heap.size,k,none⟩ (.bool true)) (some w.heap.size) from ⟨rfl,rfl,rfl,by simp [World.setCell],fun i _ hne=>Below.heap_setCell _ _ _ _ (fun e=>hne (by simp [e]))⟩)
       have b3:(0:Int)≤(k:Int):=by omega
       have b4:(k:Int)<(d.n:Int):=by omega
       clear hrg hg1 HN HN1
       have hrg2:=hrg1.kept HG2.out (by have:=hmb.out; simp; omega) (by simp; omega)
       have hm2:=hrg2.left_eq
       have HE:=hid (show NextIn w d.n mm r m D (fun k=>∃ i∈set.take j,d.F i k) (d.F i) (w1.setCell ⟨w.heap.size,k,none⟩ (.bool true)) from
        ⟨_,_,hrg2,fun kl h=>HL.out kl (by simp only [Bool.and_eq_true] at h; exact h.1),HN2.out.iff (fun a ha=>by
         by_cases e:a=k
         · subst e
           simp [Lit.sameKey,hFk]
         · have:¬ ((a:Int)=(k:Int)):=by omega
           simp [Lit.sameKey,e,this])⟩)
       have HM:=hid (show (w1.setCell ⟨w.heap.size,k,none⟩ (.bool true)).rangeLeft mm r<wr.rangeLeft mm r by rw [hm2,hm0]; exact hlt1)
       clear hrg2 hrg1 hm2 hm0 hlt1
       go_wp2_with fail
       exact ⟨HE.out,HM.out⟩
  · have HE:=hid (show set.take j=set by rw [List.take_of_length_le (by omega)])
    rw [HE.out] at HR
    obtain ⟨l,hl1,hl2,hl3,hl4⟩:=HR.out
    have HB:=hid hl2
    have HG:=hid hl3
    have HT:=hid (trues_next hl4)
    clear hl2 hl3 hl4 HR hmk x0
    obtain ⟨wo,rfl⟩:∃ wo:World,wo=wr:=⟨_,rfl⟩
    go_wp2_with fail
    go_loopw [9,42] (fun v i wi=>∃ (k:Nat) (a:Option Addr) (n c:Nat),k≤d.n∧i=.int .i64 k∧v=.slice a n c∧StepRel w (.slice a n c) (trues l k) wi∧wi.heap[w.heap.size]? = some (.cells (boolC l).toArray 4 (0,0))) (fun _ i _=>d.n-(intOf i).toNat)
    case atStart=>exact ⟨0,none,0,0,Nat.zero_le _,rfl,rfl,⟨World.ownsRow_nil _ _ _ _,HG.out⟩,HB.out⟩
    case round =>
     obtain ⟨k,a,n,c,hk,rfl,rfl,hrel,hbl⟩:=hrel
     have HR:=hid hrel
     have HB1:=hid hbl
     clear hrel hbl
     have hn':=step_len HR.out
     by_cases hkn:k<d.n
     · have hkl:k<l.length:=by omega
       have hcb:=xC HB1.out k
       rw [show (boolC l).toArray[k]? = some (.bool (l.getD k false)) by simp [boolC,List.getD,hkl]] at hcb
       have HT2:=hid (trues_succ l k)
       have hlen:=trues_len l k
       generalize hQ:trues l k=Q at *
       generalize l.getD k false=b at *
       have HQ:=hid hQ
       have b3:(0:Int)≤(k:Int):=by omega
       have b4:(k:Int)<(d.n:Int):=by omega
       clear hQ hl1 hkl
       rcases b with _ | _
       · have HT3:=hid (show trues l (k+1)=Q by rw [HT2.out]; simp)
         clear HT2 hn'
         go_wp2_with fail
         go_roundw
         case rel=>exact ⟨k+1,a,n,c,by omega,by go_num,rfl,by rw [HT3.out]; exact HR.out,HB1.out⟩
         case measure=>simp [intOf]; omega
       · have HT3:=hid (show trues l (k+1)=Q++[k] by rw [HT2.out]; simp)
         subst hn'
         have HO:=hid (show (wr.alloc (.cells #[.int .i64 k] 3)).ownsRow w.heap.size 3 1 (.slice a Q.length c) Q.length (intC (natI Q)) from own_keep HR.out.1 (xG _ _ _))
         have HG2:=hid (yga HR.out.2 (.cells #[.int .i64 k] 3))
         have HB2:=hid ((Below.heap_alloc wr (.cells #[.int .i64 k] 3) w.heap.size (xL HB1.out)).trans HB1.out)
         have HN:=hid (show Q.length+[(k:Int)].length≤1000000 by simp; omega)
         clear HT2
         go_wp2_with (at_builtin; refine wpList_append_ints rfl _ _ rfl (.slice a Q.length c) rfl rfl HO.out (Ints.one _ _) HN.out HG2.out.size ?_; intro v2 w2 own2 g2; obtain ⟨a2,c2,rfl⟩:=yos own2)
         have HB3:=hid (ygb HO.out g2 HB2.out (by decide))
         have HR3:=hid (show StepRel w (.slice a2 (Q.length+1) c2) (Q++[k]) w2 from ⟨by simpa [natI] using own2,grow_row HG2.out g2 (fun k hk=>(HO.out.lt k hk).1)⟩)
         clear own2 g2
         go_wp2_with fail
         exact ⟨⟨k+1,a2,_,c2,by omega,by simp,rfl,by rw [HT3.out]; exact HR3.out,HB3.out⟩,by simp [intOf]; omega⟩
     · have hke:k=d.n:=by omega
       have HT2:=hid (show trues l k=nextS d.F d.n set by rw [hke]; exact HT.out)
       clear hke
       go_wp2_with fail
       go_ret
       rw [HT2.out] at HR hn'
       subst hn'
       exact ⟨a,c,rfl,HR.out⟩
end Go.Proofs.YtplbacfjmajeeaaGreatDoor
