import Derived.Test.YtplbacfjmajeeaaGreatDoorJ29
namespace Go.Proofs.YtplbacfjmajeeaaGreatDoor
open Go.Lib (hid)
set_option maxHeartbeats 4000000
set_option maxRecDepth 100000
open Go.RowKit Go.Maps
def lenV:Value→Nat
 | .slice _ n _=>n
 | _=>0
def AlR (ps:List Pt) (n:Nat) (w:World) (i:Nat) (vo vp:Value) (lo lp:List FE) (wr:World):Prop :=
 Al w vo (.slice none 0 0) lo [] [(vp,lp)] wr∧Okl n lo∧Lv i (lo.map FE.en) lp∧Bf ps i (lo.map FE.en)∧lo.length≤3000
def AlJ (ps:List Pt) (n:Nat) (w:World) (s:Nat) (vo vl vp:Value) (lo ll lp:List FE) (L0:List En) (wr:World):Prop :=
 Al w vo vl lo ll [(vp,lp)] wr∧Okl n lo∧lo.map FE.en=L0++ll.map FE.en∧Bf ps s (lo.map FE.en)∧lo.length≤3000
def AlC (ps:List Pt) (n:Nat) (w:World) (vo vl:Value) (lo ll:List FE) (rs:List (Value × List FE)) (L0 Lj:List En) (cv:Value) (can:List Nat) (text:List UInt8) (c:Nat) (wr:World):Prop :=
 Al w vo vl lo ll rs wr∧Okl n lo∧lo.map FE.en=L0++ll.map FE.en∧lo.map FE.en=expand (bytesL ps) can text (List.range c) Lj∧lo.length≤3000∧SetV wr cv can
theorem okl_mem {n:Nat} {lo:List FE} (h:Okl n lo) {x:FE} (hx:x∈lo):∀ i∈x.en.set,i<n:=by
 obtain ⟨k,hk⟩:=List.getElem?_of_mem hx
 exact (h k x hk).1
theorem stepL_facts (B:List (Int × Int)) (can:List Nat) (c n:Nat) (h:(∀ k∈can,k<n)∧can.length≤n):(∀ k∈stepL B can c,k<n)∧(stepL B can c).length≤n :=
 ⟨fun k hk=>h.1 k (List.mem_filter.1 hk).1,Nat.le_trans (List.length_filter_le _ _) h.2⟩
theorem seen_iff {B:List (Int × Int)} {can:List Nat} {c n:Nat} {lo:List FE} (h:Okl n lo) (hn:n≤100) (hc:∀ k∈stepL B can c,k<n):(∃ x∈lo,keyS x.en.set=keyS (stepL B can c))↔stepL B can c∈(lo.map FE.en).map En.set:=by
 simp only [List.mem_map]
 constructor
 · rintro ⟨x,hx,e⟩
   exact ⟨x.en,⟨x,hx,rfl⟩,keyS_inj _ _ (fun i hi=>by have:=okl_mem h hx i hi; omega) (fun i hi=>by have:=hc i hi; omega) e⟩
 · rintro ⟨e,⟨x,hx,rfl⟩,e2⟩
   exact ⟨x,hx,by rw [e2]⟩
theorem alc_known {B:List (Int × Int)} {can:List Nat} {text:List UInt8} {c:Nat} {Lj:List En} {lo:List FE} (hE:lo.map FE.en=expand B can text (List.range c) Lj) (h:stepL B can c∈(lo.map FE.en).map En.set):lo.map FE.en=expand B can text (List.range (c+1)) Lj:=by
 rw [hE] at h ⊢
 rw [expand_range,if_pos h]
theorem alc_new {B:List (Int × Int)} {can:List Nat} {text:List UInt8} {c:Nat} {Lj:List En} {lo:List FE} (hE:lo.map FE.en=expand B can text (List.range c) Lj) (h:¬ stepL B can c∈(lo.map FE.en).map En.set) (v:Value):(lo++[(⟨v,⟨stepL B can c,text++[UInt8.ofNat c]⟩⟩:FE)]).map FE.en=expand B can text (List.range (c+1)) Lj:=by
 rw [List.map_append]
 rw [hE] at h ⊢
 rw [expand_range,if_neg h]
 rfl
theorem wpList_append_run {ops:Array Oper} {rest:List Oper} {o:Oper} {a:Act} {w:World} {Q:Exit→Act→World→Prop} (hgd:o.guard=none) (s x:Operand)
 (ho:o.op=.call { callee:=.builtin .append,args:=#[s,x],argTypes:=#[89,89] }) {v u v':Value} {w':World} (hv:a.eval s=v) (hx:a.eval x=u) (hr:(Builtin.append_ #[89,89] o.type #[v,u]).run Tryz.prog w=.ok v' w')
 (h:wpList Tryz.prog ops Q rest (a.put o.dst v') w'):wpList Tryz.prog ops Q (o::rest) a w:=by
 refine wpList_plain hgd fun K hK=>?_
 unfold Oper.wp execOp
 simp only [ho,resolve,invoke,builtin,Sem.run_bind,Sem.run_pure,Result.andThen_ok,List.map_toArray,List.map_cons,List.map_nil,hv,hx,hr]
 exact hK _ _ h
theorem u8_wrap (c:Nat) (h:c<256):IntKind.u8.wrap (c:Int)=c:=by
 have hb:IntKind.u8.bits=8:=rfl
 have hs:IntKind.u8.signed=false:=rfl
 unfold IntKind.wrap
 simp only [hb,hs,Bool.false_and,Bool.false_eq_true,if_false]
 omega
theorem Al1.cell {w0 w:World} {vo vl:Value} {lo ll:List FE} {rs:List (Value × List FE)} {k:List UInt8} {gf:Nat} {y:FE} (A:Al1 w0 vo vl lo ll ((.slice (some ⟨gf,0,none⟩) 1 1,[y])::rs) k w):w.cell? ⟨gf,1,none⟩=some (.string ⟨y.en.text.toArray⟩):=by
 obtain ⟨g,c,hv,_,hc⟩:=yoe (A.rows.get (j:=2) rfl) (by show 0<1; omega)
 replace hv:Value.slice (some ⟨gf,0,none⟩) 1 1=.slice (some ⟨g,0,none⟩) 1 c:=hv
 simp only [Value.slice.injEq,true_and,Option.some.injEq,Addr.mk.injEq,and_true] at hv
 obtain ⟨rfl,_⟩:=hv
 exact hc 1 _ rfl
theorem push_out {w0 w:World} {vo vl:Value} {lo ll:List FE} {rs:List (Value × List FE)} {s:List Nat} (A:Al1 w0 vo vl lo ll rs (keyS s) w) (o:Obj) (x:FE) (hx:SetV w x.v x.en.set) (hs:x.en.set=s) (hl:lo.length≤1000000) {w3:World} (h3:(w.alloc o).alloc (.cells #[x.v,.string ⟨x.en.text.toArray⟩] 92)=w3) :
 ∃ a c w5,(Builtin.append_ #[89,89] 89 #[vo,.slice (some ⟨w3.heap.size,0,Option.none⟩) 1 1]).run Tryz.prog (w3.alloc (.cells #[x.v,.string ⟨x.en.text.toArray⟩] 92))=.ok (.slice a (lo.length+1) c) w5∧Al w0 (.slice a (lo.length+1) c) vl (lo++[x]) ll rs w5 ∧
  w5.cell? ⟨w.heap.size+1,0,none⟩=some x.v∧w5.cell? ⟨w.heap.size+1,1,none⟩=some (.string ⟨x.en.text.toArray⟩)∧(∀ v s,SetV w v s→SetV w5 v s):=by
 have g1:=xG w o none
 have g2:=xG (w.alloc o) (.cells #[x.v,.string ⟨x.en.text.toArray⟩] 92) none
 rw [h3] at g2
 have g3:=xG w3 (.cells #[x.v,.string ⟨x.en.text.toArray⟩] 92) none
 have g:=xT (xT g1 g2) g3
 obtain ⟨a,c,w5,hr,A5,g5,hs5⟩:=(A.grow g).out 89 x (hx.grow g) hs (k:=w3.heap.size) (xN w3 _) hl
 have hb3:w3.heap[w.heap.size+1]? = some (.cells #[x.v,.string ⟨x.en.text.toArray⟩] 92 (0,0)):=by
  rw [← h3]
  exact yhn _ _ _ (by simp)
 have hb4:(w3.alloc (.cells #[x.v,.string ⟨x.en.text.toArray⟩] 92)).heap[w.heap.size+1]? = some (.cells #[x.v,.string ⟨x.en.text.toArray⟩] 92 (0,0)):=(Below.heap_alloc w3 _ _ (xL hb3)).trans hb3
 have hb5:w5.heap[w.heap.size+1]? = some (.cells #[x.v,.string ⟨x.en.text.toArray⟩] 92 (0,0)):=(g5.block _ (xL hb4) (fun e=>by
  have:=((A.rows.get (j:=0) rfl).lt _ e.symm).2
  omega)).trans hb4
 exact ⟨a,c,w5,hr,A5,xC hb5 0,xC hb5 1,fun v s h=>hs5 v s (h.grow g)⟩
theorem push_later {w0 w:World} {vo vl:Value} {lo ll:List FE} {rs:List (Value × List FE)} (A:Al w0 vo vl lo ll rs w) (x:FE) (hx:SetV w x.v x.en.set) (hl:ll.length≤1000000) :
 ∃ a c w7,(Builtin.append_ #[89,89] 89 #[vl,.slice (some ⟨w.heap.size,0,Option.none⟩) 1 1]).run Tryz.prog (w.alloc (.cells #[x.v,.string ⟨x.en.text.toArray⟩] 92))=.ok (.slice a (ll.length+1) c) w7∧Al w0 vo (.slice a (ll.length+1) c) lo (ll++[x]) rs w7∧(∀ v s,SetV w v s→SetV w7 v s):=by
 have g:=xG w (.cells #[x.v,.string ⟨x.en.text.toArray⟩] 92) none
 obtain ⟨a,c,w7,hr,A7,g7,hs7⟩:=(A.grow g).later 89 x (hx.grow g) (k:=w.heap.size) (xN w _) hl
 exact ⟨a,c,w7,hr,A7,fun v s h=>hs7 v s (h.grow g)⟩
theorem all_any (ps:List Pt) (w:World) (base X:Nat) (d:SpD) (c0:Nat) (V:SpV) (extra:List Row) (S:Sp w base X d c0 V extra) (hfi:SetV w V.fi (firstO ps 0))
 (hst:∀ can c,(∀ i∈can,i<d.n)→stepS d.lo d.hi can c=stepL (bytesL ps) can c) (hnx:∀ set,nextS d.F d.n set=opnO (fun k=>decide (k∈set)) ps 0 false)
 (hfb:∀ i∈firstO ps 0,i<d.n) (hfl:(firstO ps 0).length≤d.n) (hF:∀ i k,d.F i k→k<d.n) (hn:d.n≤100) :
 Calls Tryz.prog 47 #[.pointer (some ⟨X,0,none⟩)] w (AllPost ps w):=by
 have HS:=hid S
 have HST:=hid hst
 have HNX:=hid hnx
 have HFB:=hid hfb
 have HF:=hid hF
 have HI:=hid hfi
 have hXl:=xL S.blk
 have x5:=xC S.blk 5
 simp only [xGe,xGz,xGs] at x5
 obtain ⟨fa,fc,hfe⟩:=yos hfi
 rw [hfe] at HI x5
 have hmk:=run_makeMap_plain (P:=Tryz.prog) (w:=w) 156
 clear S hst hnx hfb hF hfe hfi
 go_enter Tryz.func47,Tryz.ntmps47
 go_wp2_with fail
 go_loopw [4,5,6] (fun vo vp st wr=>∃ (i:Nat) (lo lp:List FE),st=.bool (decide (i=0))∧AlR ps d.n w i vo vp lo lp wr) (fun vo vp _ _=>2*(3001-lenV vo)+(if lenV vp=0 then 0 else 1))
 case atStart =>
  refine ⟨0,[],[⟨.slice none 0 0,⟨[],[]⟩⟩],rfl,?_,fun k x hk=>by simp at hk,lv_start,bf_start ps,Nat.zero_le _⟩
  exact al_start w
 case round =>
  obtain ⟨i,lo,lp,rfl,hA,hO,hL,hB,hlo⟩:=hrel
  obtain ⟨oa,oc,ho⟩:=yos (hA.rows.get (j:=0) rfl)
  obtain ⟨pa,pc,hp⟩:=yos (hA.rows.get (j:=2) rfl)
  replace ho:u4=.slice oa lo.length oc:=ho
  replace hp:u5=.slice pa lp.length pc:=hp
  subst ho
  subst hp
  have HA:=hid hA
  have HO:=hid hO
  have HL:=hid hL
  have HB:=hid hB
  have HIX:Hid (i≤3001):=by
   refine hid ?_
   rcases hL with ⟨rfl,_⟩ | ⟨h1,h2,_⟩
   · omega
   · rw [List.length_map] at h2; omega
  clear hA hO hL hB hmk
  by_cases hz:lp.length=0
  · have HR:=hid (show allSets ps=some (lo.map FE.en) from by
     have hi:(lo.map FE.en).length<i:=by
      rcases HL.out with ⟨_,_,h⟩ | ⟨h1,h2,_⟩
      · have:=congrArg List.length h; simp at this; omega
      · omega
     exact HB.out.done hi HIX.out)
    have hpos:0<lo.length:=by have:=allSets_pos ps _ HR.out; simpa using this
    have hzi:¬ (0:Int)<(lp.length:Int):=by omega
    go_wp2_with fail
    go_ret
    exact ⟨_,rfl,HA.out.gr,.inr ⟨oa,oc,lo,HR.out,rfl,hpos,HA.out.rows.get (j:=0) rfl,fun x hx=>HA.out.rows.sets (.slice oa lo.length oc,lo) (by simp) x hx⟩⟩
  · have hzi:(0:Int)<(lp.length:Int):=by omega
    obtain ⟨gp,cp,hvp,_,_⟩:=yoe (HA.out.rows.get (j:=2) rfl) (by show 0<lp.length; omega)
    replace hvp:Value.slice pa lp.length pc=.slice (some ⟨gp,0,none⟩) lp.length cp:=hvp
    simp only [Value.slice.injEq,true_and] at hvp
    obtain ⟨rfl,rfl⟩:=hvp
    obtain ⟨L0,hL0⟩:∃ L0,lo.map FE.en=L0:=⟨_,rfl⟩
    have HJ0:Hid (AlJ ps d.n w (i+0) (.slice oa lo.length oc) (.slice none 0 0) (.slice (some ⟨gp,0,none⟩) lp.length pc) lo [] lp L0 wr):=hid ⟨HA.out,HO.out,by rw [hL0]; simp,HB.out,hlo⟩
    have HL0:Hid (Lv i L0 lp):=hid (by rw [← hL0]; exact HL.out)
    have hl0:L0.length=lo.length:=by rw [← hL0,List.length_map]
    clear hL0 HL HB HO HA
    obtain ⟨wo,hwo⟩:∃ wo:World,wo=wr:=⟨_,rfl⟩
    go_wp2_with fail
    go_loopw [4,7,23] (fun vo vl ix wi=>∃ (j:Nat) (lo ll:List FE),ix=.int .i64 j∧j≤lp.length∧AlJ ps d.n w (i+j) vo vl (.slice (some ⟨gp,0,none⟩) lp.length pc) lo ll lp L0 wi) (fun _ _ ix _=>lp.length-(intOf ix).toNat)
    case atStart=>exact ⟨0,lo,[],rfl,Nat.zero_le _,HJ0.out⟩
    case round =>
     clear hwo HJ0
     obtain ⟨j,lo2,ll,rfl,hj,hA,hO,hL,hB,hlo2⟩:=hrel
     obtain ⟨oa2,oc2,ho⟩:=yos (hA.rows.get (j:=0) rfl)
     obtain ⟨la,lc,hl⟩:=yos (hA.rows.get (j:=1) rfl)
     replace ho:u4=.slice oa2 lo2.length oc2:=ho
     replace hl:u7=.slice la ll.length lc:=hl
     subst ho
     subst hl
     have HA:=hid hA
     have HO:=hid hO
     have HL:=hid hL
     have HB:=hid hB
     clear hA hO hL hB
     by_cases hlt:j<lp.length
     · obtain ⟨gp2,cp2,hv2,_,hc2⟩:=yoe (HA.out.rows.get (j:=2) rfl) (by show 0<lp.length; omega)
       replace hv2:Value.slice (some ⟨gp,0,none⟩) lp.length pc=.slice (some ⟨gp2,0,none⟩) lp.length cp2:=hv2
       simp only [Value.slice.injEq,true_and,Option.some.injEq,Addr.mk.injEq,and_true] at hv2
       obtain ⟨rfl,rfl⟩:=hv2
       obtain ⟨f0,f1⟩:=fcells_get lp j hlt
       have z0:=hc2 _ _ f0
       have z1:=hc2 _ _ f1
       have hsy:=HA.out.rows.sets (.slice (some ⟨gp,0,none⟩) lp.length pc,lp) (by simp) lp[j] (List.getElem_mem hlt)
       obtain ⟨ya,yc,hyv⟩:=yos hsy
       obtain ⟨hs1,hs2,hs3,hs4,hs5,hs6⟩:=HL0.out.at (ps:=ps) (M:=ll.map FE.en) hlt
       have HSY:=hid hsy
       generalize lp[j]=y at *
       obtain ⟨yv,⟨ys,yt⟩⟩:=y
       simp only at hyv
       subst hyv
       obtain ⟨wf,hwf⟩:∃ wf:World,wr.alloc (.cells #[.slice ya ys.length yc,.string ⟨yt.toArray⟩] 92)=wf:=⟨_,rfl⟩
       have HAF:=hid (show Al w (.slice oa2 lo2.length oc2) (.slice la ll.length lc) lo2 ll [(.slice (some ⟨wr.heap.size,0,none⟩) 1 1,[⟨.slice ya ys.length yc,⟨ys,yt⟩⟩]),(.slice (some ⟨gp,0,none⟩) lp.length pc,lp)] wf by rw [← hwf]; exact HA.out.push ⟨.slice ya ys.length yc,⟨ys,yt⟩⟩ HSY.out)
       have HSF:=hid (show SetV wf (.slice ya ys.length yc) ys by rw [← hwf]; exact HSY.out.grow (xG _ _ _))
       have y5:wf.cell? ⟨X,5,none⟩=some (.slice fa (firstO ps 0).length fc):=ycg x5 HAF.out.gr
       obtain ⟨gf,hgf⟩:∃ gf,wr.heap.size=gf:=⟨_,rfl⟩
       rw [hgf] at HAF
       have v0:wf.cell? ⟨gf,0,none⟩=some (.slice ya ys.length yc):=by rw [← hwf,← hgf]; exact xC (xN _ _) 0
       have v1:wf.cell? ⟨gf,1,none⟩=some (.string ⟨yt.toArray⟩):=by rw [← hwf,← hgf]; exact xC (xN _ _) 1
       have hys:i≠0→(∀ k∈ys,k<d.n)∧ys.length≤d.n∧yt.length≤i+j:=fun hi0=>(by
        have h6:=hs6 hi0
        rw [← HL.out,List.getElem?_map] at h6
        cases hx:lo2[i+j-1]? with
        | none=>rw [hx] at h6; cases h6
        | some x =>
         rw [hx] at h6
         simp only [Option.map_some,Option.some.injEq] at h6
         obtain ⟨o1,o2,o3⟩:=HO.out _ _ hx
         rw [h6] at o1 o2 o3
         exact ⟨o1,o2,by simp only at o3; omega⟩)
       have hyt:yt.length≤i+j:=by
        by_cases hi0:i=0
        · have:=hs5 hi0
          simp only at this
          rw [this]
          exact Nat.zero_le _
        · exact (hys hi0).2.2
       have hsl:i+j≤lo2.length:=by rw [← HL.out,List.length_map] at hs1; exact hs1
       rw [← HL.out] at hs2 hs3 hs4
       clear hs1 hs6 hs5 HA HSY
       by_cases hi0:i=0
       · have hd:decide (i=0)=true:=decide_eq_true hi0
         have HCan:=hid (hs3 hi0)
         have HSV:=hid (show SetV wf (.slice fa (firstO ps 0).length fc) (firstO ps 0) from HI.out.grow HAF.out.gr)
         have HCB:=hid (show (∀ k∈firstO ps 0,k<d.n)∧(firstO ps 0).length≤d.n from ⟨HFB.out,hfl⟩)
         clear hi0 hs3 hs4 hys
         go_wp2_with fail
         clear hwf hgf v0 v1 y5 z0 z1 x5 HI HFB hfl
         generalize firstO ps 0=can at *
         obtain ⟨ka,rfl⟩:∃ ka,ka=fa:=⟨_,rfl⟩
         obtain ⟨kc,rfl⟩:∃ kc,kc=fc:=⟨_,rfl⟩
         obtain ⟨wc,rfl⟩:∃ wc:World,wc=wf:=⟨_,rfl⟩
         have HC0:Hid (AlC ps d.n w (.slice oa2 lo2.length oc2) (.slice la ll.length lc) lo2 ll [(.slice (some ⟨gf,0,none⟩) 1 1,[⟨.slice ya ys.length yc,⟨ys,yt⟩⟩]),(.slice (some ⟨gp,0,none⟩) lp.length pc,lp)] L0 (lo2.map FE.en) (.slice ka can.length kc) can yt 0 wc):=hid ⟨HAF.out,HO.out,HL.out,rfl,hlo2,HSV.out⟩
         go_loopw [4,7,37] (fun vo vl cx wi=>∃ (c:Nat) (lo ll:List FE),cx=.int .i64 c∧c≤256∧AlC ps d.n w vo vl lo ll [(.slice (some ⟨gf,0,none⟩) 1 1,[⟨.slice ya ys.length yc,⟨ys,yt⟩⟩]),(.slice (some ⟨gp,0,none⟩) lp.length pc,lp)] L0 (lo2.map FE.en) (.slice ka can.length kc) can yt c wi) (fun _ _ cx _=>256-(intOf cx).toNat)
         case atStart=>exact ⟨0,lo2,ll,rfl,Nat.zero_le _,HC0.out⟩
         case round =>
          clear HC0
          obtain ⟨c,lo3,ll3,rfl,hc,hA,hO,hL,hE,hlo3,hV⟩:=hrel
          obtain ⟨oa3,oc3,ho⟩:=yos (hA.rows.get (j:=0) rfl)
          obtain ⟨la3,lc3,hl⟩:=yos (hA.rows.get (j:=1) rfl)
          replace ho:u4=.slice oa3 lo3.length oc3:=ho
          replace hl:u7=.slice la3 ll3.length lc3:=hl
          subst ho
          subst hl
          have HA3:=hid hA
          have HO3:=hid hO
          have HL3:=hid hL
          have HE3:=hid hE
          have HV3:=hid hV
          clear hA hO hL hE hV
          by_cases hc2:c<256
          · have HST3:=hid (step_any can (.slice ka can.length kc) wr base X d c0 V extra c (HS.out.grow HA3.out.gr) HV3.out.ints HCB.out.1 (by omega) (by have:=HCB.out.2; omega))
            rw [HST.out can c HCB.out.1] at HST3
            have hsb:=stepL_facts (bytesL ps) can c d.n HCB.out
            have hsi:=seen_iff (B:=bytesL ps) (can:=can) (c:=c) HO3.out hn hsb.1
            have hkn:=fun h=>alc_known (B:=bytesL ps) (can:=can) (text:=yt) (c:=c) HE3.out h
            have hne:=fun h v=>alc_new (B:=bytesL ps) (can:=can) (text:=yt) (c:=c) HE3.out h v
            generalize stepL (bytesL ps) can c=s at *
            have hci:(c:Int)<256:=by omega
            have hkl:(keyS s).length≤1000000:=by have:=keyS_len s; omega
            go_wp2_with fail
            refine HST3.out.mono ?_
            rintro e w1 ⟨sa,sc,rfl,hrow,hg⟩
            have HSS:=hid (show SetV w1 (.slice sa s.length sc) s from ownsRow_base hrow (Nat.zero_le _))
            have HA4:=hid (HA3.out.grow hg)
            have HV4:=hid (HV3.out.grow hg)
            have HK4:=hid (keyS_any s (.slice sa s.length sc) w1 HSS.out.ints (fun k hk=>by have:=hsb.1 k hk; omega) (by omega))
            obtain ⟨b,hlk,hb⟩:=HA4.out.look s hkl
            rw [hsi] at hb
            have HKN:=hid hkn
            have HNE:=hid hne
            clear hrow hg hsi HST3 HA3 HV3 hkn hne
            go_wp2_with fail
            refine HK4.out.mono ?_
            rintro e w1' ⟨rfl,rfl⟩
            rcases b with _ | _
            · have hnb:=hid (show ¬ s∈(lo3.map FE.en).map En.set from fun h=>by have:=hb.2 h; cases this)
              clear hb
              obtain ⟨w2,hput,hA5,hg2,hs2⟩:=HA4.out.put (keyS s) hkl (by omega)
              have HA5:=hid hA5
              have HV5:=hid (hs2 _ _ HV4.out)
              have HS5:=hid (hs2 _ _ HSS.out)
              clear hA5 hg2 hs2
              have v1:=HA5.out.cell
              have hw8:=u8_wrap c hc2
              have hcv:=conv_one c hc2 w2
              have hcv2:(⟨[UInt8.ofNat c].toArray⟩:ByteArray)=⟨#[UInt8.ofNat c]⟩:=rfl
              rw [hcv2] at hcv
              have hba:(⟨yt.toArray⟩:ByteArray)++⟨#[UInt8.ofNat c]⟩=⟨(yt++[UInt8.ofNat c]).toArray⟩:=ba_append yt [UInt8.ofNat c]
              have HNE2:=hid (HNE.out hnb.out (.slice sa s.length sc))
              have hOk:=HO3.out.add ⟨.slice sa s.length sc,⟨s,yt++[UInt8.ofNat c]⟩⟩ hsb.1 hsb.2 (by
               have h1:(lo2.map FE.en).length≤(lo3.map FE.en).length:=by
                rw [HE3.out]
                obtain ⟨M,hM⟩:=expand_prefix (bytesL ps) can yt (List.range c) (lo2.map FE.en)
                rw [hM,List.length_append]
                omega
               simp only [List.length_map] at h1
               simp only [List.length_append,List.length_cons,List.length_nil]
               omega)
              have HOk:=hid hOk
              generalize yt++[UInt8.ofNat c]=yt2 at *
              generalize UInt8.ofNat c=cb at *
              obtain ⟨w3,hw3⟩:∃ w3:World,(w2.alloc (.cells #[.int .u8 c] 5)).alloc (.cells #[.slice sa s.length sc,.string ⟨yt2.toArray⟩] 92)=w3:=⟨_,rfl⟩
              obtain ⟨a5,c5,w5,hap,hA6,u0,u1,hs5⟩:=push_out HA5.out (.cells #[.int .u8 c] 5) ⟨.slice sa s.length sc,⟨s,yt2⟩⟩ HS5.out rfl (by omega) hw3
              have t0:w3.cell? ⟨w2.heap.size+1,0,none⟩=some (.slice sa s.length sc):=by rw [← hw3]; exact xC (yhn _ _ _ (by simp)) 0
              have t1:w3.cell? ⟨w2.heap.size+1,1,none⟩=some (.string ⟨yt2.toArray⟩):=by rw [← hw3]; exact xC (yhn _ _ _ (by simp)) 1
              have HA6:=hid hA6
              have HV6:=hid (hs5 _ _ HV5.out)
              have HS6:=hid (hs5 _ _ HS5.out)
              clear hOk hA6 hs5 hcv2 hc hsb hkl
              simp only at hap u0 u1
              by_cases hful:lo3.length=3000
              · have hfi:(3000:Int)<(lo3.length:Int)+1:=by omega
                have HFU:Hid (allSets ps=none):=hid (HB.out.full (by rw [List.length_map]; exact hsl) (by rw [List.length_map]; exact hlo2) (by
                 have h1:=expand_more (bytesL ps) can yt (c+1) hc2 (lo2.map FE.en)
                 rw [← HNE2.out] at h1
                 rw [growAt,HCan.out,hs2]
                 simp only [List.length_map,List.length_append,List.length_cons,List.length_nil] at h1
                 omega))
                clear hful HKN HNE HNE2 HOk HL3 HE3 HV4 HV5 HS5 HV6 HS6 HB HO HL
                go_wp2_with (at_builtin; refine wpList_append_run rfl _ _ rfl rfl rfl hap ?_)
                go_ret
                exact ⟨_,rfl,HA6.out.gr,.inl ⟨HFU.out,rfl⟩⟩
              · have hfi:¬ (3000:Int)<(lo3.length:Int)+1:=by omega
                obtain ⟨a7,c7,w7,hap7,hA7,hs7⟩:=push_later HA6.out ⟨.slice sa s.length sc,⟨s,yt2⟩⟩ HS6.out (by have:=congrArg List.length HL3.out; simp only [List.length_map,List.length_append] at this; omega)
                have HC7:Hid (AlC ps d.n w (.slice a5 (lo3.length+1) c5) (.slice a7 (ll3.length+1) c7) (lo3++[⟨.slice sa s.length sc,⟨s,yt2⟩⟩]) (ll3++[⟨.slice sa s.length sc,⟨s,yt2⟩⟩]) [(.slice (some ⟨gf,0,none⟩) 1 1,[⟨.slice ya ys.length yc,⟨ys,yt⟩⟩]),(.slice (some ⟨gp,0,none⟩) lp.length pc,lp)] L0 (lo2.map FE.en) (.slice ka can.length kc) can yt (c+1) w7) :=
                 hid ⟨hA7,HOk.out,by rw [List.map_append,List.map_append,HL3.out,List.append_assoc],HNE2.out,by simp only [List.length_append,List.length_cons,List.length_nil]; omega,hs7 _ _ HV6.out⟩
                clear hA7 hs7 hful HKN HNE HNE2 HOk HL3 HE3 HV4 HV5 HS5 HV6 HS6
                simp only at hap7
                go_wp2_with (at_builtin; first | refine wpList_append_run rfl _ _ rfl rfl rfl hap ?_ | refine wpList_append_run rfl _ _ rfl rfl rfl hap7 ?_)
                exact ⟨⟨c+1,_,_,by simp,hc2,HC7.out⟩,by simp [intOf]; omega⟩
            · have hyb:=hid (show s∈(lo3.map FE.en).map En.set from hb.1 rfl)
              clear hb
              have HC5:Hid (AlC ps d.n w (.slice oa3 lo3.length oc3) (.slice la3 ll3.length lc3) lo3 ll3 [(.slice (some ⟨gf,0,none⟩) 1 1,[⟨.slice ya ys.length yc,⟨ys,yt⟩⟩]),(.slice (some ⟨gp,0,none⟩) lp.length pc,lp)] L0 (lo2.map FE.en) (.slice ka can.length kc) can yt (c+1) w1):=hid ⟨HA4.out,HO3.out,HL3.out,HKN.out hyb.out,hlo3,HV4.out⟩
              clear HKN HNE HL3 HE3 HV4
              go_wp2_with fail
              exact ⟨⟨c+1,_,_,by simp,hc2,HC5.out⟩,by simp [intOf]; omega⟩
          · have hce:c=256:=by omega
            have hcn:¬ (c:Int)<256:=by omega
            rw [hce] at HE3
            have hgr:lo3.map FE.en=growAt ps (lo2.map FE.en) (i+j):=by rw [HE3.out,growAt,HCan.out,hs2]
            have hbf:=HB.out.step (by rw [List.length_map]; exact hsl) (by rw [List.length_map]; exact hlo2) (by rw [← hgr,List.length_map]; exact hlo3)
            rw [← hgr] at hbf
            have HJ1:Hid (AlJ ps d.n w (i+(j+1)) (.slice oa3 lo3.length oc3) (.slice la3 ll3.length lc3) (.slice (some ⟨gp,0,none⟩) lp.length pc) lo3 ll3 lp L0 wr):=hid ⟨HA3.out.drop,HO3.out,HL3.out,hbf,hlo3⟩
            clear hgr hbf hce hc hc2
            go_wp2_with fail
            go_roundw
            case rel =>
             repeat (apply Exists.intro)
             refine And.intro ?gleft ?gright
             case gright=>exact ⟨rfl,rfl,rfl,rfl,rfl,rfl,rfl,rfl,rfl,rfl⟩
             case gleft=>exact ⟨j+1,by simp,by omega,lo3,ll3,HJ1.out⟩
            case measure=>simp [intOf]; omega
       · have hd:decide (i=0)=false:=decide_eq_false hi0
         have HYS:=hid (hys hi0)
         have HCan:Hid (canAt ps (lo2.map FE.en) (i+j)=nextS d.F d.n ys):=hid (by rw [hs4 hi0,HNX.out])
         have HCB:=hid (show (∀ k∈nextS d.F d.n ys,k<d.n)∧(nextS d.F d.n ys).length≤d.n from ⟨fun k hk=>((mem_nextS _ _ _ _).1 hk).1,nextS_len _ _ _⟩)
         have HN:=hid (spotsNext_any ys (.slice ya ys.length yc) wf base X d c0 V extra (HS.out.grow HAF.out.gr) HSF.out.ints HYS.out.1 HF.out (by omega) (by have:=HYS.out.2.1; omega))
         clear hi0 hs3 hs4 hys
         generalize nextS d.F d.n ys=can at *
         go_wp2_with fail
         refine HN.out.mono ?_
         rintro e wc ⟨ka,kc,rfl,hrow,hg⟩
         have HSV:=hid (show SetV wc (.slice ka can.length kc) can from ownsRow_base hrow (Nat.zero_le _))
         have HAG:=hid (HAF.out.grow hg)
         clear hwf hgf v0 v1 y5 z0 z1 x5 HI HFB hfl HAF HSF hrow hg HN
         obtain ⟨HAF,hh⟩:∃ x:Hid (Al w (.slice oa2 lo2.length oc2) (.slice la ll.length lc) lo2 ll [(.slice (some ⟨gf,0,none⟩) 1 1,[⟨.slice ya ys.length yc,⟨ys,yt⟩⟩]),(.slice (some ⟨gp,0,none⟩) lp.length pc,lp)] wc),x=HAG:=⟨_,rfl⟩
         clear hh HAG
         go_wp2_with fail
         have HC0:Hid (AlC ps d.n w (.slice oa2 lo2.length oc2) (.slice la ll.length lc) lo2 ll [(.slice (some ⟨gf,0,none⟩) 1 1,[⟨.slice ya ys.length yc,⟨ys,yt⟩⟩]),(.slice (some ⟨gp,0,none⟩) lp.length pc,lp)] L0 (lo2.map FE.en) (.slice ka can.length kc) can yt 0 wc):=hid ⟨HAF.out,HO.out,HL.out,rfl,hlo2,HSV.out⟩
         go_loopw [4,7,37] (fun vo vl cx wi=>∃ (c:Nat) (lo ll:List FE),cx=.int .i64 c∧c≤256∧AlC ps d.n w vo vl lo ll [(.slice (some ⟨gf,0,none⟩) 1 1,[⟨.slice ya ys.length yc,⟨ys,yt⟩⟩]),(.slice (some ⟨gp,0,none⟩) lp.length pc,lp)] L0 (lo2.map FE.en) (.slice ka can.length kc) can yt c wi) (fun _ _ cx _=>256-(intOf cx).toNat)
         case atStart=>exact ⟨0,lo2,ll,rfl,Nat.zero_le _,HC0.out⟩
         case round =>
          clear HC0
          obtain ⟨c,lo3,ll3,rfl,hc,hA,hO,hL,hE,hlo3,hV⟩:=hrel
          obtain ⟨oa3,oc3,ho⟩:=yos (hA.rows.get (j:=0) rfl)
          obtain ⟨la3,lc3,hl⟩:=yos (hA.rows.get (j:=1) rfl)
          replace ho:u4=.slice oa3 lo3.length oc3:=ho
          replace hl:u7=.slice la3 ll3.length lc3:=hl
          subst ho
          subst hl
          have HA3:=hid hA
          have HO3:=hid hO
          have HL3:=hid hL
          have HE3:=hid hE
          have HV3:=hid hV
          clear hA hO hL hE hV
          by_cases hc2:c<256
          · have HST3:=hid (step_any can (.slice ka can.length kc) wr base X d c0 V extra c (HS.out.grow HA3.out.gr) HV3.out.ints HCB.out.1 (by omega) (by have:=HCB.out.2; omega))
            rw [HST.out can c HCB.out.1] at HST3
            have hsb:=stepL_facts (bytesL ps) can c d.n HCB.out
            have hsi:=seen_iff (B:=bytesL ps) (can:=can) (c:=c) HO3.out hn hsb.1
            have hkn:=fun h=>alc_known (B:=bytesL ps) (can:=can) (text:=yt) (c:=c) HE3.out h
            have hne:=fun h v=>alc_new (B:=bytesL ps) (can:=can) (text:=yt) (c:=c) HE3.out h v
            generalize stepL (bytesL ps) can c=s at *
            have hci:(c:Int)<256:=by omega
            have hkl:(keyS s).length≤1000000:=by have:=keyS_len s; omega
            go_wp2_with fail
            refine HST3.out.mono ?_
            rintro e w1 ⟨sa,sc,rfl,hrow,hg⟩
            have HSS:=hid (show SetV w1 (.slice sa s.length sc) s from ownsRow_base hrow (Nat.zero_le _))
            have HA4:=hid (HA3.out.grow hg)
            have HV4:=hid (HV3.out.grow hg)
            have HK4:=hid (keyS_any s (.slice sa s.length sc) w1 HSS.out.ints (fun k hk=>by have:=hsb.1 k hk; omega) (by omega))
            obtain ⟨b,hlk,hb⟩:=HA4.out.look s hkl
            rw [hsi] at hb
            have HKN:=hid hkn
            have HNE:=hid hne
            clear hrow hg hsi HST3 HA3 HV3 hkn hne
            go_wp2_with fail
            refine HK4.out.mono ?_
            rintro e w1' ⟨rfl,rfl⟩
            rcases b with _ | _
            · have hnb:=hid (show ¬ s∈(lo3.map FE.en).map En.set from fun h=>by have:=hb.2 h; cases this)
              clear hb
              obtain ⟨w2,hput,hA5,hg2,hs2⟩:=HA4.out.put (keyS s) hkl (by omega)
              have HA5:=hid hA5
              have HV5:=hid (hs2 _ _ HV4.out)
              have HS5:=hid (hs2 _ _ HSS.out)
              clear hA5 hg2 hs2
              have v1:=HA5.out.cell
              have hw8:=u8_wrap c hc2
              have hcv:=conv_one c hc2 w2
              have hcv2:(⟨[UInt8.ofNat c].toArray⟩:ByteArray)=⟨#[UInt8.ofNat c]⟩:=rfl
              rw [hcv2] at hcv
              have hba:(⟨yt.toArray⟩:ByteArray)++⟨#[UInt8.ofNat c]⟩=⟨(yt++[UInt8.ofNat c]).toArray⟩:=ba_append yt [UInt8.ofNat c]
              have HNE2:=hid (HNE.out hnb.out (.slice sa s.length sc))
              have hOk:=HO3.out.add ⟨.slice sa s.length sc,⟨s,yt++[UInt8.ofNat c]⟩⟩ hsb.1 hsb.2 (by
               have h1:(lo2.map FE.en).length≤(lo3.map FE.en).length:=by
                rw [HE3.out]
                obtain ⟨M,hM⟩:=expand_prefix (bytesL ps) can yt (List.range c) (lo2.map FE.en)
                rw [hM,List.length_append]
                omega
               simp only [List.length_map] at h1
               simp only [List.length_append,List.length_cons,List.length_nil]
               omega)
              have HOk:=hid hOk
              generalize yt++[UInt8.ofNat c]=yt2 at *
              generalize UInt8.ofNat c=cb at *
              obtain ⟨w3,hw3⟩:∃ w3:World,(w2.alloc (.cells #[.int .u8 c] 5)).alloc (.cells #[.slice sa s.length sc,.string ⟨yt2.toArray⟩] 92)=w3:=⟨_,rfl⟩
              obtain ⟨a5,c5,w5,hap,hA6,u0,u1,hs5⟩:=push_out HA5.out (.cells #[.int .u8 c] 5) ⟨.slice sa s.length sc,⟨s,yt2⟩⟩ HS5.out rfl (by omega) hw3
              have t0:w3.cell? ⟨w2.heap.size+1,0,none⟩=some (.slice sa s.length sc):=by rw [← hw3]; exact xC (yhn _ _ _ (by simp)) 0
              have t1:w3.cell? ⟨w2.heap.size+1,1,none⟩=some (.string ⟨yt2.toArray⟩):=by rw [← hw3]; exact xC (yhn _ _ _ (by simp)) 1
              have HA6:=hid hA6
              have HV6:=hid (hs5 _ _ HV5.out)
              have HS6:=hid (hs5 _ _ HS5.out)
              clear hOk hA6 hs5 hcv2 hc hsb hkl
              simp only at hap u0 u1
              by_cases hful:lo3.length=3000
              · have hfi:(3000:Int)<(lo3.length:Int)+1:=by omega
                have HFU:Hid (allSets ps=none):=hid (HB.out.full (by rw [List.length_map]; exact hsl) (by rw [List.length_map]; exact hlo2) (by
                 have h1:=expand_more (bytesL ps) can yt (c+1) hc2 (lo2.map FE.en)
                 rw [← HNE2.out] at h1
                 rw [growAt,HCan.out,hs2]
                 simp only [List.length_map,List.length_append,List.length_cons,List.length_nil] at h1
                 omega))
                clear hful HKN HNE HNE2 HOk HL3 HE3 HV4 HV5 HS5 HV6 HS6 HB HO HL
                go_wp2_with (at_builtin; refine wpList_append_run rfl _ _ rfl rfl rfl hap ?_)
                go_ret
                exact ⟨_,rfl,HA6.out.gr,.inl ⟨HFU.out,rfl⟩⟩
              · have hfi:¬ (3000:Int)<(lo3.length:Int)+1:=by omega
                obtain ⟨a7,c7,w7,hap7,hA7,hs7⟩:=push_later HA6.out ⟨.slice sa s.length sc,⟨s,yt2⟩⟩ HS6.out (by have:=congrArg List.length HL3.out; simp only [List.length_map,List.length_append] at this; omega)
                have HC7:Hid (AlC ps d.n w (.slice a5 (lo3.length+1) c5) (.slice a7 (ll3.length+1) c7) (lo3++[⟨.slice sa s.length sc,⟨s,yt2⟩⟩]) (ll3++[⟨.slice sa s.length sc,⟨s,yt2⟩⟩]) [(.slice (some ⟨gf,0,none⟩) 1 1,[⟨.slice ya ys.length yc,⟨ys,yt⟩⟩]),(.slice (some ⟨gp,0,none⟩) lp.length pc,lp)] L0 (lo2.map FE.en) (.slice ka can.length kc) can yt (c+1) w7) :=
                 hid ⟨hA7,HOk.out,by rw [List.map_append,List.map_append,HL3.out,List.append_assoc],HNE2.out,by simp only [List.length_append,List.length_cons,List.length_nil]; omega,hs7 _ _ HV6.out⟩
                clear hA7 hs7 hful HKN HNE HNE2 HOk HL3 HE3 HV4 HV5 HS5 HV6 HS6
                simp only at hap7
                go_wp2_with (at_builtin; first | refine wpList_append_run rfl _ _ rfl rfl rfl hap ?_ | refine wpList_append_run rfl _ _ rfl rfl rfl hap7 ?_)
                exact ⟨⟨c+1,_,_,by simp,hc2,HC7.out⟩,by simp [intOf]; omega⟩
            · have hyb:=hid (show s∈(lo3.map FE.en).map En.set from hb.1 rfl)
              clear hb
              have HC5:Hid (AlC ps d.n w (.slice oa3 lo3.length oc3) (.slice la3 ll3.length lc3) lo3 ll3 [(.slice (some ⟨gf,0,none⟩) 1 1,[⟨.slice ya ys.length yc,⟨ys,yt⟩⟩]),(.slice (some ⟨gp,0,none⟩) lp.length pc,lp)] L0 (lo2.map FE.en) (.slice ka can.length kc) can yt (c+1) w1):=hid ⟨HA4.out,HO3.out,HL3.out,HKN.out hyb.out,hlo3,HV4.out⟩
              clear HKN HNE HL3 HE3 HV4
              go_wp2_with fail
              exact ⟨⟨c+1,_,_,by simp,hc2,HC5.out⟩,by simp [intOf]; omega⟩
          · have hce:c=256:=by omega
            have hcn:¬ (c:Int)<256:=by omega
            rw [hce] at HE3
            have hgr:lo3.map FE.en=growAt ps (lo2.map FE.en) (i+j):=by rw [HE3.out,growAt,HCan.out,hs2]
            have hbf:=HB.out.step (by rw [List.length_map]; exact hsl) (by rw [List.length_map]; exact hlo2) (by rw [← hgr,List.length_map]; exact hlo3)
            rw [← hgr] at hbf
            have HJ1:Hid (AlJ ps d.n w (i+(j+1)) (.slice oa3 lo3.length oc3) (.slice la3 ll3.length lc3) (.slice (some ⟨gp,0,none⟩) lp.length pc) lo3 ll3 lp L0 wr):=hid ⟨HA3.out.drop,HO3.out,HL3.out,hbf,hlo3⟩
            clear hgr hbf hce hc hc2
            go_wp2_with fail
            go_roundw
            case rel =>
             repeat (apply Exists.intro)
             refine And.intro ?gleft ?gright
             case gright=>exact ⟨rfl,rfl,rfl,rfl,rfl,rfl,rfl,rfl,rfl,rfl⟩
             case gleft=>exact ⟨j+1,by simp,by omega,lo3,ll3,HJ1.out⟩
            case measure=>simp [intOf]; omega
     · have hje:j=lp.length:=by omega
       subst hje
       have hll:lo2.length=lo.length+ll.length:=by have:=congrArg List.length HL.out; simp only [List.length_map,List.length_append] at this; omega
       have HR:Hid (AlR ps d.n w (i+lp.length) (.slice oa2 lo2.length oc2) (.slice la ll.length lc) lo2 ll wr):=hid ⟨HA.out.turn,HO.out,by rw [HL.out]; exact HL0.out.next,HB.out,hlo2⟩
       have HM:Hid (2*(3001-lo2.length)+(if ll.length=0 then 0 else 1)<2*(3001-lo.length)+1):=hid (by
        by_cases h:ll.length=0
        · rw [if_pos h]; omega
        · rw [if_neg h]; omega)
       have hi0:decide (i+lp.length=0)=false:=decide_eq_false (by omega)
       clear HL0 HL HB HA HO HIX hll
       go_wp2_with fail
       exact ⟨⟨i+lp.length,lo2,ll,by rw [hi0],HR.out⟩,by simpa [lenV,hz] using HM.out⟩
end Go.Proofs.YtplbacfjmajeeaaGreatDoor
