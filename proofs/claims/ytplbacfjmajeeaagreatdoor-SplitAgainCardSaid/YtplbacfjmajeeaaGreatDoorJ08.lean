import Derived.Test.YtplbacfjmajeeaaGreatDoorJ06
import Derived.Test.YtplbacfjmajeeaaGreatDoorJ07
namespace Go.Proofs.YtplbacfjmajeeaaGreatDoor
open Go.Lib (hid)
set_option maxHeartbeats 4000000
set_option maxRecDepth 100000
open Go.RowKit
theorem info88:(Tryz.prog.info? 88).map (fun i=>(i.zero,i.size,i.bytes))=some (some (.agg #[.string ⟨#[]⟩,.int .i64 0,.int .i64 0,.int .i64 0,.slice none 0 0]),5,64):=by kernel_rfl
theorem grow_undrewY {w w':World} {r:Option Nat} (g:w.drew.grownBy w' r):w.grownBy w' r:=⟨g.os,g.tape,g.output,g.size,g.block⟩
theorem agg_ones {Q:Nat→Prop} {W:World} {p:Pt} {v:Value} (h:PtQ Q W p v):∃ (a b c d:Value),v=.agg #[a,b,c,d]∧Hid (PtQ Q W p (.agg #[a,b,c,d]))∧Hid (∀ k:ByteArray,∀ u∈[Value.string k,a,b,c,d],u.oneCell'=true):=by
 obtain ⟨⟨a,b,c,d⟩,rfl,h1,h2,h3,h4⟩:=PtQ.v4 p v h
 exact ⟨a,b,c,d,rfl,hid h,hid (fun k u hu=>by
  simp only [List.mem_cons,List.not_mem_nil,or_false] at hu
  rcases hu with rfl | rfl | rfl | rfl | rfl
  · rfl
  all_goals assumption)⟩
def PatHas (p:Nat):Prop:=∀ i,i<11→∀ w,Calls Tryz.prog p #[.string (ptL.getD i ⟨#[]⟩)] w fun e w'=>∃ v,e=.returned v∧∃ p:Pt,PtQ (fun c=>w.heap.size≤c) w' p v∧p.leaves≤mkLv.getD i 0∧p.size≤mkSz.getD i 0∧w.grownBy w' none
def kind3:List ByteArray:=[⟨#[120]⟩,⟨#[]⟩,⟨#[110,117,109]⟩]
def kind4:List ByteArray:=[⟨#[65]⟩,⟨#[105,102]⟩,⟨#[49]⟩]
theorem kind3_le (xs:List Int) (k:Nat):(somev xs k kind3).size≤10:=somev_all (fun x=>x.size≤10) xs k kind3 (by decide) (by decide)
theorem kind4_le (xs:List Int) (k:Nat):(somev xs k kind4).size≤10:=somev_all (fun x=>x.size≤10) xs k kind4 (by decide) (by decide)
def MarksPost (b:Nat) (av:Option Addr) (cap:Nat) (xs:List Int) (w:World) (k:Nat) (e:Ending) (w':World):Prop :=
 ∃ (ms:List Mrk) (lv:Value) (k':Nat),e=.returned lv∧MksF (w.heap.size+1) ms lv w'∧MrkN ms 12 41 406∧k'≤k+160∧Sto b av cap xs w w' k'
theorem marks_any {b:Nat} {av:Option Addr} {cap k:Nat} {xs:List Int} {w:World} (hk:k≤500) (hx2:xs.length≤9223372036854775807) (HPat:PatHas 48) (S:Strm b av cap xs w k) :
 Calls Tryz.prog 13 #[.pointer (some ⟨b,0,none⟩)] w (MarksPost b av cap xs w k):=by
 obtain ⟨P,hP⟩:∃ P,MarksPost b av cap xs w k=P:=⟨_,rfl⟩
 rw [hP]
 have HP:=hid hP
 have HPT:=hid HPat
 have HS:=hid S
 clear hP HPat
 go_enter Tryz.func13,Tryz.ntmps13
 go_wp2_with fail
 have HM0:=hid (MksM.nil ((Sto.refl S).alloc (.cells mkTab.toArray 98)) ⟨k,HS.out⟩ (xN w (.cells mkTab.toArray 98)))
 have HN0:=hid (MrkN.nil 0 0 0)
 unfold mkTab at HM0
 have HLT:=hid HS.out.lt
 generalize w.alloc _=W0 at HM0 ⊢
 go_loopw [3,20] (fun lv iv wr=>∃ (i:Nat) (ms:List Mrk) (vs:List V5) (sa:Option Addr) (sc k':Nat),i≤11∧iv=.int .i64 i∧lv=.slice sa vs.length sc∧k'≤k+i∧vs.length≤i∧Hid (MksM b av cap xs w k' ms vs (.slice sa vs.length sc) wr)∧Hid (MrkN ms i (upTo mkLv i) (upTo mkSz i))) (fun _ iv _=>11-(intOf iv).toNat)
 case atStart=>exact ⟨0,[],[],none,0,k,by omega,rfl,rfl,by omega,by simp,HM0,HN0⟩
 case round =>
  obtain ⟨i,ms,vs,sa,sc,k',hi,rfl,rfl,hk',hvi,HM,HN⟩:=hrel
  clear HM0 HN0
  by_cases hlt:i<11
  ·
   have t0:=xC HM.out.tab (i*2)
   have t1:=xC HM.out.tab (i*2+1)
   obtain ⟨m0,m1⟩:=mkTab_at i hlt
   rw [xGe,m0] at t0
   rw [xGe,m1] at t1
   clear m0 m1
   have HC:=hid (HPT.out i hlt)
   obtain ⟨kd,hkd⟩:∃ kd,kdL.getD i ⟨#[]⟩=kd:=⟨_,rfl⟩
   have HKD:=hid (show kd.size≤10 from hkd ▸ kdL_le i)
   rw [hkd] at t0
   clear hkd
   generalize ptL.getD i ⟨#[]⟩=pt at t1 HC
   go_wp2_with fail
   have HM1:=hid (HM.out.grow (xG wr (.cells #[.string kd,.string pt] 98) none))
   have HX1:=hid (xN wr (.cells #[.string kd,.string pt] 98))
   have hxb:wr.heap.size≠b:=by have:=HLT.out; have:=xL HM.out.tab; omega
   clear t0 t1 HM
   generalize wr.alloc _=w1 at HM1 HX1 ⊢
   generalize wr.heap.size=X at HX1 hxb ⊢
   refine (flip_any 4 (by omega) (by omega) hx2 HM1.out.sto.strm).mono ?_
   rintro e w2 ⟨rfl,T2⟩
   have HM2:=hid (HM1.out.call T2)
   have HX2:=hid (T2.kept HX1.out hxb)
   clear T2 HM1 HX1
   generalize flipv xs k' 4=fb
   rcases fb with _ | _
   · obtain ⟨i0,hi0,hz0,hz1,hz2⟩:=info_parts info88
     obtain ⟨x0,x1⟩:=cb2 HX2.out
     have HI:=hid hi0
     have HZ0:=hid hz0
     have HZ1:=hid hz1
     have HZ2:=hid hz2
     clear hi0 hz0 hz1 hz2
     go_wp2_with fail
     go_region_law (first
      | (have tok:=hps; refine step_append_lies _ (by rfl) (.tmp 27) (.tmp 34) 38 (by rfl) (w.heap.size+1) 88 i0 (.agg #[.string ⟨#[]⟩,.int .i64 0,.int .i64 0,.int .i64 0,.slice none 0 0]) 5 64 Tryz.underlying38 HI.out HZ0.out HZ1.out HZ2.out rfl (by omega) _ vs.length (v5Cells vs) (by rfl) (HOW.out _ (by repeat (first | exact grow_self _ | apply grow_drew | apply yga))) ⟨w3.heap.size,0,none⟩ 1 1 [.string kd,xa,xb,xc,xd] (by rfl) (by rfl) (World.news_of_block (cs:=#[.string kd,xa,xb,xc,xd]) (t:=88) (fr:=(0,0)) (xN w3 _)) (HONE.out kd) (by omega) (by unfold maxLen; omega) (by omega) (by simp; omega) (w3.heap.size+1) (by simp) ?_; intro gg cap1 w4 hown1 hgrow hat hlt1; clear tok; have HOWN1:=hid hown1; have HGROW:=hid hgrow; have HAT:=hid hat; clear hown1 hgrow hat)
      | (go_simp; go_at_call 48; refine (HC.out _).mono ?_; rintro e w3 ⟨v,rfl,p,hp,hpl,hps,g3⟩; obtain ⟨xa,xb,xc,xd,rfl,HP3,HONE⟩:=agg_ones hp; clear hp; have g3d:w2.grownBy w3 none:=(by first | exact g3 | exact grow_undrewY g3 | exact grow_undrewY (grow_undrewY g3) | exact grow_undrewY (grow_undrewY (grow_undrewY g3))); have z0:=ycg x0 g3d; have z1:=ycg x1 g3d; have HM3:=hid (HM2.out.grow g3d); have hs3:=xL HM3.out.tab; have HOW:Hid (∀ W,w3.grownBy W none→W.ownsRow (w.heap.size+1) 88 5 (.slice sa vs.length sc) vs.length (v5Cells vs)):=hid (fun W g=>own_grownN HM3.out.own g (fun r hr=>by cases hr)); clear g3))
     all_goals go_wp2_with fail
     all_goals go_roundw
     all_goals try (case measure=>simp [intOf]; omega)
     all_goals
      have hst:=MksM.app (x:=⟨kd,⟨xa,xb,xc,xd⟩⟩) (L0:=w2.heap.size) HM3.out HP3.out (fun r hr=>by obtain ⟨_,cc,hcc⟩:=yob HM2.out.own r hr; exact xL hcc) (xL HM2.out.tab) HOWN1.out HGROW.out HAT.out
      have e:(vs++[(⟨kd,⟨xa,xb,xc,xd⟩⟩:V5)]).length=vs.length+1:=by simp
      have HN2:=HN.out.snoc (m:=⟨kd,p⟩) hpl hps HKD.out
      rw [← upTo_step mkLv i hlt,← upTo_step mkSz i hlt] at HN2
      exact ⟨i+1,ms++[⟨kd,p⟩],vs++[⟨kd,⟨xa,xb,xc,xd⟩⟩],some ⟨gg,0,none⟩,cap1,k'+1,by omega,by go_num,by rw [e],by omega,by rw [e]; omega,by rw [e]; exact hid (by first | exact hst | exact hst.drew | exact hst.drew.drew),hid HN2⟩
   · go_wp2_with fail
     go_roundw
     case measure=>simp [intOf]; omega
     case rel=>exact ⟨i+1,ms,vs,sa,sc,k'+1,by omega,by go_num,rfl,by omega,by omega,HM2,hid (HN.out.mono (by omega) (by rw [upTo_step mkLv i hlt]; omega) (by rw [upTo_step mkSz i hlt]; omega))⟩
  · obtain rfl:i=11:=by omega
    have HN1:=hid (show MrkN ms 11 28 393 from HN.out)
    clear HN hlt
    go_upto_region 8 with (fail)
    go_cut [43] (fun v wx=>∃ bb k2,v=.bool bb∧(bb=true→2≤vs.length)∧k2≤k+12∧Hid (MksM b av cap xs w k2 ms vs (.slice sa vs.length sc) wx))
    case first =>
     go_wp2_with fail
     refine (flip_any 3 (by omega) (by omega) hx2 HM.out.sto.strm).mono ?_
     rintro e w2 ⟨rfl,T2⟩
     have HM2:=hid (HM.out.call T2)
     clear T2 HM
     generalize flipv xs k' 3=fb
     rcases fb with _ | _
     · go_wp2_with fail
       go_meet
       exact ⟨false,k'+1,rfl,fun h=>(by cases h),by omega,HM2⟩
     · by_cases h2:1<vs.length
       · have hb:decide ((1:Int)<(vs.length:Int))=true:=decide_eq_true (by omega)
         go_wp2_with fail
         go_meet
         exact ⟨true,k'+1,rfl,fun _=>h2,by omega,HM2⟩
       · have hb:decide ((1:Int)<(vs.length:Int))=false:=decide_eq_false (by omega)
         go_wp2_with fail
         go_meet
         exact ⟨false,k'+1,rfl,fun h=>(by cases h),by omega,HM2⟩
    case rest =>
     obtain ⟨bb,k2,rfl,hbb,hk2,HM2⟩:=hcut
     clear HM
     go_upto_if 43 with (fail)
     go_cut [3] (fun v wx=>∃ (ms:List Mrk) (vs:List V5) (sa:Option Addr) (sc k2:Nat),v=.slice sa vs.length sc∧vs.length≤11∧k2≤k+14∧Hid (MksM b av cap xs w k2 ms vs (.slice sa vs.length sc) wx)∧Hid (MrkN ms 11 28 393))
     case first =>
      rcases bb with _ | _
      · go_wp2_with fail
        go_meet
        exact ⟨ms,vs,sa,sc,k2,rfl,hvi,by omega,HM2,HN1⟩
      ·
       have h2:=hbb rfl
       have n0:=nextv_lo xs k2 ((vs.length:Int)-1)
       have n1:=nextv_hi xs k2 ((vs.length:Int)-1) (by omega)
       have HML:=hid (MrkQ.len _ _ HM2.out.all)
       obtain ⟨g,c,hsl,hgB,hcell⟩:=yoe HM2.out.own (by omega)
       simp only [Value.slice.injEq] at hsl
       obtain ⟨rfl,_,rfl⟩:=hsl
       clear hcell hgB hbb
       go_wp2_with fail
       refine (next_any ((vs.length:Int)-1) (by omega) (by omega) hx2 HM2.out.sto.strm).mono ?_
       rintro e w3 ⟨rfl,T3⟩
       have HM3:=hid (HM2.out.call T3)
       clear T3 HM2
       obtain ⟨i,hi⟩:=Int.eq_ofNat_of_zero_le n0
       rw [hi]
       have hi1:i+1<vs.length:=by omega
       have hi2:i+1<ms.length:=by have:=HML.out; omega
       clear hi n0 n1 h2
       have hS1:IntKind.i64.wrap ((i:Int)+1)=((i+1:Nat):Int):=(xI _ (by omega)).trans (by omega)
       have HSW:=hid (HM3.out.swapped i hi1 hi2).drew
       obtain ⟨xk,xo,xl,xh,xv,xn,xc,hx⟩:=MrkQ.v5 _ _ HM3.out.all i (by omega) (Nat.lt_of_succ_lt hi1)
       obtain ⟨yk,yo,yl,yh,yv,yn,yc,hy⟩:=MrkQ.v5 _ _ HM3.out.all (i+1) hi2 hi1
       have HNS:=hid (HN1.out.swap i hi2)
       have HFR:=hid (fun j=>HM3.out.own.frozenAt j)
       have HCX:Hid (∀ j,j<5→w3.cell? ⟨g,i*5+j,none⟩=(v5List (vs[i]'(Nat.lt_of_succ_lt hi1)))[j]?):=hid (fun (j:Nat) (hj:j<5)=>(HM3.out.own.cellAt (i*5+j) (by omega)).trans (v5Cells_at vs i (by omega) j hj))
       have HCY:Hid (∀ j,j<5→w3.cell? ⟨g,(i+1)*5+j,none⟩=(v5List (vs[i+1]'hi1))[j]?):=hid (fun (j:Nat) (hj:j<5)=>(HM3.out.own.cellAt ((i+1)*5+j) (by omega)).trans (v5Cells_at vs (i+1) hi1 j hj))
       rw [hx,hy] at HSW
       rw [hx] at HCX
       rw [hy] at HCY
       clear hx hy
       have a0:w3.cell? ⟨g,i*5,none⟩=some (.string xk):=HCX.out 0 (by omega)
       have a1:w3.cell? ⟨g,i*5+1,none⟩=some (.int .i64 xo):=HCX.out 1 (by omega)
       have a2:w3.cell? ⟨g,i*5+2,none⟩=some (.int .i64 xl):=HCX.out 2 (by omega)
       have a3:w3.cell? ⟨g,i*5+3,none⟩=some (.int .i64 xh):=HCX.out 3 (by omega)
       have a4:w3.cell? ⟨g,i*5+4,none⟩=some (.slice xv xn xc):=HCX.out 4 (by omega)
       have b0:w3.cell? ⟨g,(i+1)*5,none⟩=some (.string yk):=HCY.out 0 (by omega)
       have b1:w3.cell? ⟨g,(i+1)*5+1,none⟩=some (.int .i64 yo):=HCY.out 1 (by omega)
       have b2:w3.cell? ⟨g,(i+1)*5+2,none⟩=some (.int .i64 yl):=HCY.out 2 (by omega)
       have b3:w3.cell? ⟨g,(i+1)*5+3,none⟩=some (.int .i64 yh):=HCY.out 3 (by omega)
       have b4:w3.cell? ⟨g,(i+1)*5+4,none⟩=some (.slice yv yn yc):=HCY.out 4 (by omega)
       have fa0:=HFR.out (i*5)
       have fa1:=HFR.out (i*5+1)
       have fa2:=HFR.out (i*5+2)
       have fa3:=HFR.out (i*5+3)
       have fa4:=HFR.out (i*5+4)
       have fb0:=HFR.out ((i+1)*5)
       have fb1:=HFR.out ((i+1)*5+1)
       have fb2:=HFR.out ((i+1)*5+2)
       have fb3:=HFR.out ((i+1)*5+3)
       have fb4:=HFR.out ((i+1)*5+4)
       have j0:(0:Int)≤(i:Int)+1:=by omega
       have j1:(i:Int)+1<(vs.length:Int):=by omega
       have j2:(i:Int)<(vs.length:Int):=by omega
       clear HCX HCY HFR
       go_wp2_with fail
       go_region_law (fail)
       all_goals go_wp2_with fail
       all_goals go_meet
       all_goals
        have e:(swap2 vs i (⟨xk,⟨.int .i64 xo,.int .i64 xl,.int .i64 xh,.slice xv xn xc⟩⟩:V5) ⟨yk,⟨.int .i64 yo,.int .i64 yl,.int .i64 yh,.slice yv yn yc⟩⟩).length=vs.length:=by simp [swap2]
        exact ⟨_,swap2 vs i (⟨xk,⟨.int .i64 xo,.int .i64 xl,.int .i64 xh,.slice xv xn xc⟩⟩:V5) ⟨yk,⟨.int .i64 yo,.int .i64 yl,.int .i64 yh,.slice yv yn yc⟩⟩,some ⟨g,0,none⟩,sc,k2+1,by rw [e],by rw [e]; exact hvi,by omega,by rw [e]; exact HSW,HNS⟩
     case rest =>
      clear HM2 HN1 hbb hk2 hvi hk' hi
      obtain ⟨ms,vs,sa,sc,k2,rfl,hvi,hk2,HM2,HN1⟩:=hcut
      go_wp2_with fail
      refine (flip_any 6 (by omega) (by omega) hx2 HM2.out.sto.strm).mono ?_
      rintro e w2 ⟨rfl,T2⟩
      have HM3:=hid (HM2.out.call T2)
      clear T2 HM2
      generalize flipv xs k2 6=fb
      go_upto_if 66 with (fail)
      go_cut [3] (fun v wx=>∃ (ms:List Mrk) (vs:List V5) (sa:Option Addr) (sc k2:Nat),v=.slice sa vs.length sc∧vs.length≤12∧k2≤k+150∧Hid (MksM b av cap xs w k2 ms vs (.slice sa vs.length sc) wx)∧Hid (MrkN ms 12 41 406))
      case first =>
       rcases fb with _ | _
       · go_wp2_with fail
         go_meet
         exact ⟨ms,vs,sa,sc,k2+1,rfl,by omega,by omega,HM3,hid (HN1.out.mono (by omega) (by omega) (by omega))⟩
       · go_wp2_with fail
         refine (some_new kind3 (by decide) (by decide) (show k2+1≤1073741824 by omega) hx2 HM3.out.sto.strm).mono ?_
         rintro e w3 ⟨rfl,T3⟩
         have HM4:=hid (HM3.out.call T3)
         clear T3 HM3
         have HKD:=hid (kind3_le xs (k2+1))
         generalize somev xs (k2+1) kind3=kd at HKD ⊢
         go_wp2_with fail
         refine (apat_3 hx2 (k2+1+1) w3 (by omega) HM4.out.sto.strm).mono ?_
         intro e w4 hpo
         obtain ⟨p,v,k4,rfl,hp,hpl,hps,hk4,T4⟩:=hpo
         obtain ⟨xa,xb,xc,xd,rfl,HP4,HONE⟩:=agg_ones hp
         have HM5:=hid (HM4.out.call T4)
         clear T4 hp
         obtain ⟨i0,hi0,hz0,hz1,hz2⟩:=info_parts info88
         have hs5:=xL HM5.out.tab
         go_wp2_with (at_builtin; refine wpList_append_lies _ rfl _ _ 38 rfl (w.heap.size+1) 88 i0 (.agg #[.string ⟨#[]⟩,.int .i64 0,.int .i64 0,.int .i64 0,.slice none 0 0]) 5 64 Tryz.underlying38 hi0 hz0 hz1 hz2 rfl (by omega) _ _ _ rfl (own_grownN HM5.out.own (xG w4 _ none) (fun r hr=>by cases hr)) ⟨w4.heap.size,0,none⟩ 1 1 [.string kd,xa,xb,xc,xd] rfl rfl (cells_new _ _ _) (HONE.out kd) (by omega) (by unfold maxLen; omega) (by omega) (by simp; omega) (w4.heap.size+1) (by simp) ?_; intro gg cap2 w6 hown2 hgrow2 hat2 hlt2; have HG2:=hid hgrow2; have HAT2:=hid hat2; have HO2:=hid hown2; clear hgrow2 hat2 hown2)
         go_meet
         have hst:=MksM.app (x:=⟨kd,⟨xa,xb,xc,xd⟩⟩) (L0:=w3.heap.size) HM5.out HP4.out (fun r hr=>by obtain ⟨_,cc,hcc⟩:=yob HM4.out.own r hr; exact xL hcc) (xL HM4.out.tab) HO2.out HG2.out HAT2.out
         have e:(vs++[(⟨kd,⟨xa,xb,xc,xd⟩⟩:V5)]).length=vs.length+1:=by simp
         exact ⟨ms++[⟨kd,p⟩],vs++[⟨kd,⟨xa,xb,xc,xd⟩⟩],some ⟨gg,0,none⟩,cap2,k4,by rw [e],by rw [e]; omega,by omega,by rw [e]; exact hid hst,hid (HN1.out.snoc (m:=⟨kd,p⟩) hpl hps HKD.out)⟩
      case rest =>
       clear HM3 HN1 hk2 hvi
       obtain ⟨ms,vs,sa,sc,k2,rfl,hvi,hk2,HM2,HN1⟩:=hcut
       go_wp2_with fail
       refine (flip_any 40 (by omega) (by omega) hx2 HM2.out.sto.strm).mono ?_
       rintro e w2 ⟨rfl,T2⟩
       have HM3:=hid (HM2.out.call T2)
       clear T2 HM2
       generalize flipv xs k2 40=fb
       go_upto_if 77 with (fail)
       go_cut [3] (fun v wx=>∃ (ms:List Mrk) (vs:List V5) (sa:Option Addr) (sc k2:Nat),v=.slice sa vs.length sc∧vs.length≤12∧k2≤k+151∧Hid (MksM b av cap xs w k2 ms vs (.slice sa vs.length sc) wx)∧Hid (MrkN ms 12 41 406))
       case first =>
        rcases fb with _ | _
        · go_wp2_with fail
          go_meet
          exact ⟨ms,vs,sa,sc,k2+1,rfl,by omega,by omega,HM3,HN1⟩
        · go_wp2_with fail
          go_meet
          exact ⟨[],[],none,0,k2+1,rfl,by simp,by omega,hid (MksM.nil HM3.out.sto HM3.out.old HM3.out.tab),hid (MrkN.nil _ _ _)⟩
       case rest =>
        clear HM3 HN1 hk2 hvi
        obtain ⟨ms,vs,sa,sc,k2,rfl,hvi,hk2,HM2,HN1⟩:=hcut
        go_wp2_with fail
        refine (flip_any 40 (by omega) (by omega) hx2 HM2.out.sto.strm).mono ?_
        rintro e w2 ⟨rfl,T2⟩
        have HM3:=hid (HM2.out.call T2)
        clear T2 HM2
        generalize flipv xs k2 40=fb
        by_cases h0:0<vs.length
        · have hb:decide ((0:Int)<(vs.length:Int))=true:=decide_eq_true (by omega)
          rcases fb with _ | _
          · go_wp2_with fail
            rw [← HP.out]
            exact ⟨ms,.slice sa vs.length sc,k2+1,rfl,MksM.fin HM3.out,HN1.out,by omega,HM3.out.sto⟩
          · obtain ⟨v,vs,rfl⟩:=List.exists_cons_of_length_pos h0
            obtain ⟨m,ms,rfl⟩:∃ m ms',ms=m::ms':=List.exists_cons_of_length_pos (by have:=MrkQ.len _ _ HM3.out.all; omega)
            obtain ⟨g,c,hsl,hgB,hcell⟩:=yoe HM3.out.own (by omega)
            simp only [Value.slice.injEq] at hsl
            obtain ⟨rfl,_,rfl⟩:=hsl
            clear hcell hgB
            obtain ⟨n,hn⟩:∃ n,(v::vs).length=n:=⟨_,rfl⟩
            rw [hn] at h0 hb HM3 hvi ⊢
            have HNN:=hid hn
            clear hn
            have hb2:(0:Int)<(n:Int):=by omega
            go_wp2_with fail
            refine (some_new kind4 (by decide) (by decide) (show k2+1≤1073741824 by omega) hx2 HM3.out.sto.strm).mono ?_
            rintro e w3 ⟨rfl,T3⟩
            have HM4:=hid (HM3.out.call T3)
            clear T3 HM3
            have HKD:=hid (kind4_le xs (k2+1))
            generalize somev xs (k2+1) kind4=kd at HKD ⊢
            have c0:w3.cell? ⟨g,0,none⟩=some (.string v.k):=by
             have h5:=HM4.out.own
             rw [HNN.out] at h5
             exact h5.cellAt 0 (by omega)
            have f0:w3.frozen? ⟨g,0,none⟩=false:=by
             have h5:=HM4.out.own
             rw [HNN.out] at h5
             exact h5.frozenAt 0
            go_wp2_with fail
            have HM5:=hid (HM4.out.kind0 kd)
            clear c0 f0
            generalize World.setCell _ _ _=w5 at HM5 ⊢
            rw [← HP.out]
            exact ⟨_,_,k2+1+1,rfl,MksM.fin HM5.out,HN1.out.kind0 kd HKD.out,by omega,HM5.out.sto⟩
        · have hb:decide ((0:Int)<(vs.length:Int))=false:=decide_eq_false (by omega)
          go_wp2_with fail
          all_goals
           rw [← HP.out]
           exact ⟨ms,.slice sa vs.length sc,k2+1,rfl,MksM.fin HM3.out,HN1.out,by omega,HM3.out.sto⟩
end Go.Proofs.YtplbacfjmajeeaaGreatDoor
