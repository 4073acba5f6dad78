import Derived.Test.YtplbacfjmajeeaaGreatDoorJ18
namespace Go.Proofs.YtplbacfjmajeeaaGreatDoor
open Go.Lib (hid)
set_option maxHeartbeats 4000000
set_option maxRecDepth 100000
open Go.RowKit Go.Region
def ExpPost (w2:World) (bm gd gb:Nat) (ps:List Pt) (C:Array Value) (most:Nat) (e:Ending) (w':World):Prop :=
 Frm (OldP bm gd gb) w2 w' ∧
 match bfs ps most (most+2) 0 [] with
 | none=>e=.returned (.bool false)
 | some L=>e=.returned (.bool true)∧∃ bx gm mm sv kv stv svs sts,XSt w2 w' bm bx gm mm gd gb (ylL ps) (sizes ps) C L sv kv stv svs sts∧Links ps L sts∧Recs ps w' w2.heap.size L sts.length sts∧WsL (bytesL ps).length L∧L.length≤most
def OutR (w2:World) (bm bx gm mm gd gb:Nat) (ps:List Pt) (C:Array Value) (most i:Nat) (w:World):Prop :=
 ∃ L sv kv stv svs sts,XSt w2 w bm bx gm mm gd gb (ylL ps) (sizes ps) C L sv kv stv svs sts∧Links ps L sts∧Recs ps w w2.heap.size L i sts∧WsL (bytesL ps).length L∧L.length≤most∧i≤L.length+1∧bfs ps most (most+2-i) i L=bfs ps most (most+2) 0 []
theorem explore_any (w2:World) (base0 bm gn gr gd gb most:Nat) (ps:List Pt) (C:Array Value) (lv mv:Value) (gs:List Nat) (hP:ylL ps≤64) (hN:sizes ps≤10000) (hr:∀ p∈ps,Right p) (hm:most≤10000)
 (hM:MacF w2 base0 bm gn gr gd gb ps C lv mv gs) (h263:C[263]? = some (.slice none 0 0)) :
 Calls Tryz.prog 40 #[.pointer (some ⟨bm,0,none⟩),.int .i64 most] w2 (ExpPost w2 bm gd gb ps C most):=by
 have HM:=hid hM
 have HR:=hid hr
 have h2:=xC hM.mac.blk 2
 rw [hM.mac.c2] at h2
 have hbm:=xL hM.mac.blk
 have hfz:=yfb hM.mac.blk 263
 clear hM hr
 have hmk:∀ w:World,(Instr.makeMap 139 none).run Tryz.prog w=.ok (.map (some w.heap.size)) (w.alloc (.map #[] 0)):=fun w=>by kernel_rfl
 go_enter Tryz.func40,Tryz.ntmps40
 go_wp2_with fail
 refine (newSet_any bm (ylL ps) _ hP (ycg h2 (xG w2 _ none))).mono ?_
 rintro e w1 ⟨rfl,hw1⟩
 have g1:w2.grownBy w1 none:=by rw [← hw1]; exact yga (xG _ _ none) _
 have hmap:StrMap w1 w2.heap.size 0 (fun _=>none):=by rw [← hw1]; exact (strMap_new w2).kept (xG _ _ none) (by simp)
 have hset:OwnSet w1 (w2.alloc (.map #[] 0)).heap.size (ylL ps) 0:=by rw [← hw1]; exact ownSet_new _ _
 rw [show (w2.alloc (.map #[] 0)).heap.size=w2.heap.size+1 by simp] at hset ⊢
 have hsz1:w1.heap.size=w2.heap.size+2:=by rw [← hw1]; simp
 clear hw1
 have bA:∀ o o2,((w1.alloc o).alloc o2).heap[bm]? = some (.cells C 136 (0,0)):=fun o o2=>grow_new (yga (yga g1 o) o2) HM.out.mac.blk
 have fA:∀ o o2,((w1.alloc o).alloc o2).frozen? ⟨bm,263,none⟩=false:=fun o o2=>yfb (bA o o2) 263
 have cA:∀ o o2,((w1.alloc o).alloc o2).cell? ⟨bm,263,none⟩=some (.slice none 0 0):=fun o o2=>(xC (bA o o2) 263).trans h263
 go_wp2_with fail
 have I1:=init1 HM.out g1 hmap hset hsz1
 generalize ((w1.alloc _).alloc _).setCell _ _=W at I1 ⊢
 have HI1:=hid I1
 have cB:=xC I1.mch 2
 rw [Array.getElem?_setIfInBounds_ne (by omega),HM.out.mac.c2] at cB
 have hszW:=I1.size
 have xB:∀ o o2,((W.alloc o).alloc o2).frozen? ⟨w2.heap.size+2,1,none⟩=false:=fun o o2=>yfb (grow_new (yga (yga (grow_self W) o) o2) I1.xb) 1
 have yB:∀ o o2,((W.alloc o).alloc o2).cell? ⟨w2.heap.size+2,1,none⟩=some (.slice none 0 0):=fun o o2=>(xC (grow_new (yga (yga (grow_self W) o) o2) I1.xb) 1)
 clear I1 g1 hmap hset hsz1 bA fA cA hfz
 refine (newSet_any bm (ylL ps) _ hP cB).mono ?_
 rintro e w3 ⟨rfl,rfl⟩
 rw [hszW]
 go_wp2_with fail
 have HX0:=hid (init3 HI1.out)
 go_loopw [6] (fun i wr=>∃ k:Nat,i=.int .i64 k∧OutR w2 bm (w2.heap.size+2) (w2.heap.size+1) w2.heap.size gd gb ps C most k wr) (fun i _=>most+2-(intOf i).toNat)
 case atStart =>
  refine ⟨0,rfl,[],_,_,_,_,_,⟨HX0.out,rfl⟩,fun k s hk=>by simp at hk,fun i s hi=>by omega,fun e he=>by simp at he,by simp,by omega,rfl⟩
 case round =>
  obtain ⟨k,rfl,L,sv,kv,stv,svs,sts,⟨X,hsl⟩,hLk,hRc,hWs,hLm,hkl,hbfs⟩:=hrel
  have hstr:=X.str
  obtain ⟨sg,sc,hstv,hsg,hstc⟩:=yoe X.str (by omega)
  subst hstv
  obtain ⟨vg,vc,hsv,hvg,hvc⟩:=yoe X.set (by have:=X.svl; omega)
  subst hsv
  have cb:=xC X.mch 263
  rw [set_get_self _ _ _ (by rw [HM.out.csz]; omega)] at cb
  obtain ⟨x0,x1⟩:=cb2 X.xb
  by_cases hlt:k<sts.length
  · have hkv:k<svs.length:=by have:=X.svl; omega
    obtain ⟨v,hv⟩:∃ v,svs[k]? = some v:=⟨_,List.getElem?_eq_getElem hkv⟩
    obtain ⟨g,c,rfl,hgc⟩:=X.sva k v hv
    have cv:=hvc k _ hv
    have hi0:(0:Int)≤k:=by omega
    have hi1:(k:Int)<svs.length:=by omega
    have HX:=hid X
    have HLK:=hid hLk
    have HRC:=hid hRc
    have HWS:=hid hWs
    have HBF:=hid hbfs
    have HSL:=hid hsl
    have HV:=hid hv
    have hsts:sts.length≤100001:=by omega
    have hsvs:svs.length≤100001:=by have:=X.svl; omega
    clear X hLk hRc hWs hbfs hsl hgc hstr hstc hvc hv
    go_wp2_with fail
    have hk0:((k:Int) == 0)=decide (k=0):=by rw [Bool.eq_iff_iff]; simp
    rw [hk0]
    obtain ⟨D,hD,hDl⟩:=HX.out.dn
    obtain ⟨B,hB,hBl⟩:=HX.out.bgn
    refine (behind_any bm gn gr gd gb ps _ D B _ (maskAt L k) (decide (k=0)) wr hP (by omega) HR.out (HX.out.mac HM.out) hD hDl hB hBl HM.out.ne (HX.out.setAt (by have:=HSL.out; omega) HV.out)).mono ?_
    rintro e w4 ⟨bo,fv,rfl,hO,hbo,hfv,⟨D',B',hD',hDl',hB',hBl'⟩,F4⟩
    have X4:=HX.out.behind F4 ⟨D',hD',hDl'⟩ ⟨B',hB',hBl'⟩
    have T4:Frm T3 wr w4:=F4.mono (fun k hk hp=>by obtain ⟨cs,fr,h3⟩:=hp; exact ⟨blk_ne h3 hD (by decide),blk_ne h3 hB (by decide)⟩)
    rw [open_can] at hO
    obtain ⟨cm,hcm⟩:=HX.out.met
    have hgm:bo≠w2.heap.size+1:=by have:=xL hcm.blk; omega
    have R4:Recs ps w4 w2.heap.size L k sts:=fun i s hi hs=>(HRC.out i s hi hs).frm T4
    have hfv4:=row_base hfv HX.out.fr.size
    obtain ⟨fa,fc,hfs⟩:=yos hfv
    subst hfs
    have b4:=xC X4.mch 260
    rw [set_get_ne _ _ _ _ (by omega),HM.out.c5] at b4
    obtain ⟨mva,mvc,hmv⟩:=yos HM.out.mat
    subst hmv
    have hgl:gs.length≤256:=by rw [HM.out.glen]; exact lowsP_le ps
    have hmk:=mkInts gs.length (by omega)
    have HX4:=hid X4
    have HT4:=hid T4
    have HO4:=hid hO
    have HR4:=hid R4
    have HFV:=hid hfv4
    have HGM:=hid hgm
    clear X4 T4 hO R4 hfv hfv4 hgm hcm hbo F4 hD' hB' hDl' hBl' hD hB hDl hBl
    go_wp2_with fail
    have hBO:BytesOk (bytesL ps):=bytesOk_of _ ps (Nat.le_refl _) HR.out
    have IN0:InR w2 w4 bm (w2.heap.size+2) (w2.heap.size+1) w2.heap.size gd gb bo ps C L sts k 0 (w4.alloc (.cells (natCells (List.replicate gs.length 0)).toArray 3)) _ _ _ svs sts :=
     ⟨⟨HX4.out.grow (xG _ _ _),HSL.out⟩,HLK.out,HWS.out,⟨[],by simp⟩,Frm.of_grown (xG _ _ _) _,HO4.out.grow (xG _ _ none) (by simp)⟩
    have NR0:NatRow (w4.alloc (.cells (natCells (List.replicate gs.length 0)).toArray 3)) w4.heap.size (List.replicate gs.length 0):=xN w4 _
    have hnx2:=HX4.out.fr.size
    generalize w4.alloc _=w5 at IN0 NR0 ⊢
    generalize hnx4:w4.heap.size=nx at NR0 hnx2 ⊢
    have HNX:=hid hnx4
    have HIN0:=hid IN0
    have HNR0:=hid NR0
    have HBO:=hid hBO
    clear IN0 NR0 hnx4 hBO b4 hmk
    go_loopw [54] (fun i wq=>∃ (q:Nat) (R:List Nat) (sv' kv' stv':Value) (svs':List Value) (sts':List StV),q≤gs.length∧i=.int .i64 q∧InR w2 w4 bm (w2.heap.size+2) (w2.heap.size+1) w2.heap.size gd gb bo ps C L sts k q wq sv' kv' stv' svs' sts'∧NatRow wq nx R∧Filled ps L k q gs.length R) (fun i _=>gs.length-(intOf i).toNat)
    case atStart=>exact ⟨0,_,_,_,_,_,_,Nat.zero_le _,rfl,HIN0.out,HNR0.out,⟨by simp,fun κ r hκ=>by omega⟩⟩
    case round =>
     obtain ⟨q,R,sv',kv',stv',svs',sts',hq,rfl,hI,hN,hF⟩:=hrel
     have HI:=hid hI
     have HN:=hid hN
     have HF:=hid hF
     by_cases hlt2:q<gs.length
     · have hqn:q<(lowsP ps).length:=by rw [HM.out.glen] at hlt2; exact hlt2
       obtain ⟨rq,hR⟩:∃ rq,R[q]? = some rq:=⟨_,List.getElem?_eq_getElem (by rw [hF.1]; exact hlt2)⟩
       have hq0:(0:Int)≤q:=by omega
       have hq1:(q:Int)<gs.length:=by omega
       have HRQ:=hid hR
       have hkl2:k≤L.length:=by have:=HSL.out; omega
       have hpl:(partL ps L k q).length≤100000:=by have:=partL_len ps L k q; omega
       clear hI hN hF hR
       go_wp2_with fail
       refine (follow_any w2 _ base0 bm gn gr gd gb (w2.heap.size+2) (w2.heap.size+1) w2.heap.size k q (maskOf (canAt ps L k)) ps C lv _ _ gs (partL ps L k q) sv' kv' stv' svs' sts' hP hpl (by omega) HM.out HI.out.x hlt2 hgl HI.out.own.set).mono ?_
       rintro e w6 hfol
       obtain ⟨j,rfl,hpj,F6,sv2,kv2,stv2,svs2,sts2,I6⟩:=follow_step HBO.out HI.out hqn hkl2 HGM.out hfol
       have N6:NatRow w6 nx R:=(F6.block nx (xL HN.out) ⟨_,_,HN.out⟩).trans HN.out
       have c6:=N6.cell HRQ.out
       have f6:=yfb N6 q
       have HI6:=hid I6
       have HN6:=hid N6
       have HPJ:=hid hpj
       clear I6 N6 hpj F6 hfol
       go_wp2_with fail
       go_roundw
       case rel =>
        exact ⟨q+1,_,_,_,_,_,_,by omega,by go_num,HI6.out.nat (by rw [HNX.out]; exact Nat.le_refl _) hnx2 HN6.out (grow_cell q _),HN6.out.set q j,HF.out.step hlt2 HPJ.out (partL_next ps HBO.out L k q hqn HI.out.ws)⟩
       case measure=>simp [intOf]; omega
     · obtain rfl:q=gs.length:=by omega
       have I7:=HI.out
       have X7:=I7.x.1
       obtain ⟨sg7,sc7,hst7,_,hstc7⟩:=yoe X7.str (by have:=I7.x.2; omega)
       subst hst7
       obtain ⟨M7,hM7⟩:=I7.pre
       have hk7:k<sts'.length:=by rw [hM7,List.length_append]; omega
       have hk8:(k:Int)<sts'.length:=by omega
       obtain ⟨s7,hs7⟩:∃ s7,sts'[k]? = some s7:=⟨_,List.getElem?_eq_getElem hk7⟩
       have b7:=xC X7.mch 263
       rw [set_get_self _ _ _ (by rw [HM.out.csz]; omega)] at b7
       have nbs:bm≠sg7:=fun e=>own_ne_block X7.str X7.mch (by decide) (by rw [e]; rfl)
       have hl7:sts'.length≤100001:=by have:=I7.x.2; have:=partL_len ps L k gs.length; omega
       obtain ⟨q0,q1,q2,_,_⟩:=stCells_get sts' k s7 hs7
       have s0:=hstc7 _ _ q0
       have s1:=hstc7 _ _ q1
       have s2:=hstc7 _ _ q2
       clear q0 q1 q2
       have f0:=X7.str.frozenAt (k*5)
       have f1:=X7.str.frozenAt (k*5+1)
       have f2:=X7.str.frozenAt (k*5+2)
       clear I7 X7 hstc7
       obtain ⟨X8a,T8a⟩:=HI.out.x.1.setSt (by simp) (stCells_set0 sts' k s7 (.slice fa (fitsL ((maskAt L k).testBit ·) (decide (k=0)) ps 0 0).length fc) hs7)
       obtain ⟨X8,T8b⟩:=X8a.setSt (by simp) (stCells_set1 _ k _ (.slice (some ⟨nx,0,none⟩) gs.length gs.length) (List.getElem?_set_self hk7))
       rw [List.set_set] at X8
       have T8:=T8a.trans T8b
       have hs8:(sts'.set k ⟨.slice fa (fitsL ((maskAt L k).testBit ·) (decide (k=0)) ps 0 0).length fc,.slice (some ⟨nx,0,none⟩) gs.length gs.length,s7.stuck,s7.frm,s7.cl⟩)[k]? = some _:=List.getElem?_set_self hk7
       go_wp2_with fail
       generalize hw8:(wr.setCell _ _).setCell _ _=w8 at X8 T8 ⊢
       have O8:OwnSet w8 bo (ylL ps) (maskOf (canAt ps L k)):=by
        rw [← hw8]
        refine ⟨HI.out.own.fits,?_⟩
        rw [Below.heap_setCell _ _ _ _ (fun e=>own_ne_block HI.out.x.1.str HI.out.own.blk (by decide) (by rw [e]; rfl)),Below.heap_setCell _ _ _ _ (fun e=>own_ne_block HI.out.x.1.str HI.out.own.blk (by decide) (by rw [e]; rfl))]
        exact HI.out.own.blk
       have b8:=xC X8.mch 263
       rw [set_get_self _ _ _ (by rw [HM.out.csz]; omega)] at b8
       obtain ⟨_,_,q2,_,_⟩:=stCells_get _ k _ hs8
       obtain ⟨g9,_,he9,_,hc9⟩:=yoe X8.str (by simp; omega)
       injection he9 with e1 e2 e3
       clear e2 e3
       injection e1 with e1
       injection e1 with e1
       subst e1
       have s8:=hc9 _ _ q2
       have hst8:=X8.str
       rw [show ∀ x:StV,(sts'.set k x).length=sts'.length from fun x=>List.length_set ..] at hst8
       have f8:=hst8.frozenAt (k*5+2)
       clear hst8
       have HSE:=hid (fun (W:World) (g:w8.grownBy W none)=>(O8.grow g (by simp)).set)
       have HX8:=hid X8
       have HT8:=hid T8
       have HS8:=hid hs8
       have HS7:=hid hs7
       have HM7:=hid hM7
       clear X8 T8 T8a T8b X8a hs8 hs7 hM7 q2 hc9 O8 hw8 b7 s0 s1 s2 f0 f1 f2
       go_region_law (first | (go_simp; go_at_call 73; refine (isEmpty_any _ _ _ _ (HSE.out _ (by repeat (first | exact grow_self _ | apply grow_drew | apply yga)))).mono ?_; rintro e w9 ⟨rfl,rfl⟩))
       all_goals go_wp2_with fail
       all_goals
        obtain ⟨X9a,T9a⟩:=HX8.out.setSt (by simp) (stCells_set2 _ k _ (decide (maskOf (canAt ps L k)=0)) HS8.out)
        rw [List.set_set] at X9a
        have X9:=X9a.grow (grow_drew (grow_self _))
        have T9:Frm T3 wr _:=(HT8.out.trans T9a).drew
        clear X9a T9a
        generalize (w8.setCell _ _).drew=w9 at X9 T9 ⊢
        have b9:=xC X9.mch 263
        rw [set_get_self _ _ _ (by rw [HM.out.csz]; omega)] at b9
        have HX9:=hid X9
        have HT9:=hid T9
        have hl9:sts'.length=(partL ps L k gs.length).length+1:=HI.out.x.2
        clear X9 T9
        refine (sets_any bm sts'.length sc7 _ w9 ⟨by omega,by omega⟩ b9).mono ?_
        rintro e w10 ⟨rfl,rfl⟩
        obtain ⟨hl10,hr10⟩:=out_step (w9:=w9) HI.out HM.out.glen (by have:=HSL.out; omega) HSL.out HR4.out HFV.out HN.out hnx2 HF.out HS7.out HT9.out
        have HL10:=hid hl10
        have HR10:=hid hr10
        have hgrow:growAt ps L k=partL ps L k gs.length:=by rw [← partL_all ps HBO.out L k]; congr 1; exact HM.out.glen.symm
        have hbs:=bfs_step ps most k L (by have:=HSL.out; omega) hLm
        rw [hgrow] at hbs
        have HBS:=hid hbs
        clear hl10 hr10 hgrow hbs b9
        by_cases hbig:most<(partL ps L k gs.length).length
        · have hb1:(most:Int)<((sts'.length-1:Nat):Int):=by omega
          go_wp2_with fail
          go_ret
          have hnone:bfs ps most (most+2) 0 []=none:=by rw [← HBF.out,HBS.out,if_pos hbig]
          refine ⟨HX9.out.fr,?_⟩
          rw [hnone]
          rfl
        · have hb1:¬ (most:Int)<((sts'.length-1:Nat):Int):=by omega
          have hsm:k≤most:=by have:=HSL.out; omega
          go_wp2_with fail
          go_roundw
          case rel =>
           obtain ⟨M2,hM2⟩:=partL_prefix ps L k gs.length
           exact ⟨k+1,by go_num,partL ps L k gs.length,_,_,_,_,_,⟨HX9.out,by simp only [List.length_set]; exact hl9⟩,HL10.out,HR10.out,HI.out.ws,by omega,by have:=HSL.out; rw [hM2,List.length_append]; omega,by rw [← HBF.out,HBS.out,if_neg hbig]⟩
          case measure=>simp [intOf]; omega
  · have hkk:L.length<k:=by omega
    have HX:=hid X
    have HLK:=hid hLk
    have HRC:=hid hRc
    have HWS:=hid hWs
    have HBF:=hid hbfs
    have HSL:=hid hsl
    have hsts:sts.length≤100001:=by omega
    clear X hLk hRc hWs hbfs hsl hstr hstc hvc
    go_wp2_with fail
    go_ret
    have hsome:bfs ps most (most+2) 0 []=some L:=by rw [← HBF.out,bfs_end ps most k L hkk (by omega)]
    have hke:sts.length=k:=by have:=HSL.out; omega
    refine ⟨HX.out.fr,?_⟩
    rw [hsome]
    exact ⟨rfl,_,_,_,_,_,_,_,_,⟨HX.out,HSL.out⟩,HLK.out,by rw [hke]; exact HRC.out,HWS.out,hLm⟩
open Go.RowKit
theorem grow_drew2 {w w':World} {r:Option Nat} (g:w.grownBy w' r):w.grownBy w'.drew r:=⟨g.os,g.tape,g.output,g.size,g.block⟩
def Turned (l Y:List UInt8) (j:Nat):Prop:=Y.length=l.length∧∀ i,i<l.length→Y[i]? = if i<j∨l.length≤i+j then l[l.length-1-i]? else l[i]?
theorem Turned.start (l:List UInt8):Turned l l 0:=⟨rfl,fun i hi=>by rw [if_neg (by omega)]⟩
theorem Turned.done {l Y:List UInt8} {j:Nat} (h:Turned l Y j) (hj:l.length≤2*j+1):Y=l.reverse:=by
 apply List.ext_getElem?
 intro i
 rcases Nat.lt_or_ge i l.length with hi | hi
 · rw [h.2 i hi,List.getElem?_reverse hi]
   split
   · rfl
   · congr 1; omega
 · rw [List.getElem?_eq_none (by rw [h.1]; exact hi),List.getElem?_eq_none (by simpa using hi)]
theorem Turned.step {l Y:List UInt8} {j:Nat} {a b:UInt8} (h:Turned l Y j) (hj:2*j+1<l.length) (ha:Y[j]? = some a) (hb:Y[l.length-1-j]? = some b):Turned l ((Y.set j b).set (l.length-1-j) a) (j+1):=by
 refine ⟨by simp [h.1],fun i hi=>?_⟩
 have h1:=h.2 j (by omega)
 have h2:=h.2 (l.length-1-j) (by omega)
 rw [if_neg (by omega),ha] at h1
 rw [if_neg (by omega),hb] at h2
 by_cases e1:l.length-1-j=i
 · rw [e1,List.getElem?_set_self (by simp [h.1]; omega),if_pos (by omega),← e1,h1]
   congr 1; omega
 · rw [List.getElem?_set_ne e1]
   by_cases e2:j=i
   · rw [e2,List.getElem?_set_self (by rw [h.1]; omega),if_pos (by omega),← e2,h2]
   · rw [List.getElem?_set_ne e2,h.2 i hi]
     by_cases e3:i<j∨l.length≤i+j
     · rw [if_pos e3,if_pos (by omega)]
     · rw [if_neg e3,if_neg (by omega)]
end Go.Proofs.YtplbacfjmajeeaaGreatDoor
namespace Go.Proofs.YtplbacfjmajeeaaGreatDoor
open Go.Lib (hid)
open Go.RowKit Go.Region
theorem grow_exp {W w1 w2:World} {bm gd gb:Nat} (g:W.grownBy w1 none) (F:Frm (OldP bm gd gb) w1 w2) (h1:W.heap.size≤bm) (h2:W.heap.size≤gd) (h3:W.heap.size≤gb):W.grownBy w2 none :=
 ⟨F.os.trans g.os,F.tape.trans g.tape,F.output.trans g.output,Nat.le_trans g.size F.size,fun k hk hr=>(F.block k (Nat.lt_of_lt_of_le hk g.size) ⟨by omega,by omega,by omega⟩).trans (g.block k hk hr)⟩
theorem right_fault (p:Pt) (h:patFault p=0):Right p:=by
 refine right_of_fault p 1 ?_
 unfold patFault at h
 split at h
 · assumption
 · exact h
theorem exp_cases {w2:World} {bm gd gb most:Nat} {ps:List Pt} {C:Array Value} {e:Ending} {w':World} (h:ExpPost w2 bm gd gb ps C most e w') :
 Frm (OldP bm gd gb) w2 w'∧((bfs ps most (most+2) 0 []=none∧e=.returned (.bool false))∨∃ L,bfs ps most (most+2) 0 []=some L∧e=.returned (.bool true) ∧
  ∃ bx gm mm sv kv stv svs sts,XSt w2 w' bm bx gm mm gd gb (ylL ps) (sizes ps) C L sv kv stv svs sts∧Links ps L sts∧Recs ps w' w2.heap.size L sts.length sts∧WsL (bytesL ps).length L∧L.length≤most):=by
 unfold ExpPost at h
 generalize bfs ps most (most+2) 0 []=r at h ⊢
 refine ⟨h.1,?_⟩
 cases r with
 | none=>exact .inl ⟨rfl,h.2⟩
 | some L=>exact .inr ⟨L,rfl,h.2⟩
open Go.RowKit
structure StateAt (W:World) (sg i:Nat) (ps:List Pt) (L:List En):Prop where
 fits:∃ fa fc,W.cell? ⟨sg,i*5,none⟩=some (.slice fa (fitsAt ps L i).length fc)∧∀ k (h:k<(fitsAt ps L i).length),∃ fg,fa=some ⟨fg,0,none⟩∧W.cell? ⟨fg,k,none⟩=some (.int .i64 ((fitsAt ps L i)[k]:Nat))
 next:∃ ng nc,W.cell? ⟨sg,i*5+1,none⟩=some (.slice (some ⟨ng,0,none⟩) (lowsP ps).length nc)∧∀ κ,κ<(lowsP ps).length→∃ r:Nat,posM L (maskC ps L i κ)=some r∧W.cell? ⟨ng,κ,none⟩=some (.int .i64 r)
 stuck:W.cell? ⟨sg,i*5+2,none⟩=some (.bool (decide (maskOf (canAt ps L i)=0)))
structure MachAt (W:World) (bm:Nat) (ps:List Pt) (L:List En):Prop where
 ex:∃ sg sc,W.cell? ⟨bm,263,none⟩=some (.slice (some ⟨sg,0,none⟩) (L.length+1) sc)∧(∀ b:Nat,b<256→W.cell? ⟨bm,3+b,none⟩=some (.int .i64 (cls (bytesL ps) b:Nat)))∧∀ i,i≤L.length→StateAt W sg i ps L
theorem StateAt.grow {W W':World} {sg i:Nat} {ps:List Pt} {L:List En} (h:StateAt W sg i ps L) (g:W.grownBy W' none):StateAt W' sg i ps L:=by
 obtain ⟨⟨fa,fc,h1,h2⟩,⟨ng,nc,h3,h4⟩,h5⟩:=h
 refine ⟨⟨fa,fc,ycg h1 g,fun k hk=>?_⟩,⟨ng,nc,ycg h3 g,fun κ hκ=>?_⟩,ycg h5 g⟩
 · obtain ⟨fg,e,hc⟩:=h2 k hk
   exact ⟨fg,e,ycg hc g⟩
 · obtain ⟨r,e,hc⟩:=h4 κ hκ
   exact ⟨r,e,ycg hc g⟩
theorem MachAt.grow {W W':World} {bm:Nat} {ps:List Pt} {L:List En} (h:MachAt W bm ps L) (g:W.grownBy W' none):MachAt W' bm ps L:=by
 obtain ⟨sg,sc,h1,h2,h3⟩:=h.ex
 exact ⟨sg,sc,ycg h1 g,fun b hb=>ycg (h2 b hb) g,fun i hi=>(h3 i hi).grow g⟩
theorem natCells_get (l:List Nat) (k:Nat) (h:k<l.length):(natCells l)[k]? = some (.int .i64 (l[k]:Nat)):=by
 simp [natCells,h]
theorem machAt_of {w2 w:World} {base0 bm gn gr gd gb bx gm mm:Nat} {ps:List Pt} {C:Array Value} {lv mv:Value} {gs:List Nat} {L:List En} {sv kv stv:Value} {svs:List Value} {sts:List StV}
 (hM:MacF w2 base0 bm gn gr gd gb ps C lv mv gs) (hX:XSt w2 w bm bx gm mm gd gb (ylL ps) (sizes ps) C L sv kv stv svs sts) (hRc:Recs ps w w2.heap.size L sts.length sts):MachAt w bm ps L:=by
 obtain ⟨X,hsl⟩:=hX
 obtain ⟨sg,sc,hst,_,hsc⟩:=yoe X.str (by omega)
 subst hst
 have cb:=xC X.mch 263
 rw [set_get_self _ _ _ (by rw [hM.csz]; omega),hsl] at cb
 refine ⟨sg,sc,cb,fun b hb=>?_,fun i hi=>?_⟩
 · have cc:=xC X.mch (3+b)
   rw [set_get_ne _ _ _ _ (by omega),hM.cc b hb] at cc
   exact cc
 · obtain ⟨s,hs⟩:∃ s,sts[i]? = some s:=⟨_,List.getElem?_eq_getElem (by omega)⟩
   obtain ⟨hf,⟨R,hRl,hR,hRp⟩,hk⟩:=hRc i s (by omega) hs
   obtain ⟨q0,q1,q2,_,_⟩:=stCells_get sts i s hs
   have hpos:0<(lowsP ps).length:=lows_pos _ 256 (by omega)
   obtain ⟨ng,nc,hn,_,hnc⟩:=yoe hR (by omega)
   rw [hn,hRl] at q1
   rw [hk] at q2
   obtain ⟨fa,fc,hfv⟩:=yos hf
   rw [hfv] at q0
   refine ⟨⟨fa,fc,hsc _ _ q0,fun k hk2=>?_⟩,⟨ng,nc,hsc _ _ q1,fun κ hκ=>?_⟩,hsc _ _ q2⟩
   · obtain ⟨fg,fc2,hv2,_,hfc⟩:=yoe hf (by omega)
     rw [hfv] at hv2
     simp only [Value.slice.injEq] at hv2
     exact ⟨fg,hv2.1,hfc k _ (natCells_get _ k hk2)⟩
   · obtain ⟨r,hr⟩:∃ r,R[κ]? = some r:=⟨_,List.getElem?_eq_getElem (by omega)⟩
     exact ⟨r,hRp κ r hr,hnc κ _ (by simp [natCells,hr])⟩
theorem markLoop_zero:∀ (ms:List Mrk) (n:Nat),markLoop ms n=0→n+sizes (ms.map Mrk.pat)≤2000∧∀ m∈ms,patFault m.pat=0
 | [],n,h=>by
  simp only [markLoop] at h
  split at h
  · cases h
  · exact ⟨by simp [sizes]; omega,fun m hm=>by cases hm⟩
 | m::ms,n,h=>by
  rw [markLoop] at h
  split at h
  · cases h
  · split at h
    · rename_i h1; exact absurd h h1
    · split at h
      · cases h
      · rename_i h1 _
        obtain ⟨a,b⟩:=markLoop_zero ms _ h
        refine ⟨by simp only [List.map_cons,sizes]; omega,fun x hx=>?_⟩
        rcases List.mem_cons.1 hx with rfl | hx
        · exact Decidable.byContradiction h1
        · exact b x hx
theorem marksFault_zero (ms:List Mrk) (h:ymF ms=0):ms≠[]∧ms.length≤60∧sizes (ms.map Mrk.pat)≤2000∧∀ p∈ms.map Mrk.pat,Right p:=by
 unfold ymF at h
 split at h
 · cases h
 · split at h
   · cases h
   · rename_i h0 h1
     obtain ⟨a,b⟩:=markLoop_zero ms 0 h
     refine ⟨fun e=>h0 (by rw [e]; rfl),by omega,by omega,fun p hp=>?_⟩
     obtain ⟨m,hm,rfl⟩:=List.mem_map.1 hp
     exact right_fault _ (b m hm)
def CheckedPost (ms:List Mrk) (w:World) (e:Ending) (w':World):Prop :=
 w.grownBy w' none∧((ymF ms≠0∧e=.returned (.tuple #[.pointer none,.int .i64 (ymF ms)]))∨(ymF ms=0∧allSets (ms.map Mrk.pat)=none∧e=.returned (.tuple #[.pointer none,.int .i64 12])) ∨
  ∃ bm L,ymF ms=0∧allSets (ms.map Mrk.pat)=some L∧L.length≤3000∧e=.returned (.tuple #[.pointer (some ⟨bm,0,none⟩),.int .i64 0])∧MachAt w' bm (ms.map Mrk.pat) L)
def AllP (W:World):List Pt→List V4→Prop
 | [],[]=>True
 | p::ps,v::vs=>PtAt W p v.val∧AllP W ps vs
 | _,_=>False
theorem AllP.grow {W W':World} (g:W.grownBy W' none):∀ ps vs,AllP W ps vs→AllP W' ps vs
 | [],[],_=>trivial
 | _::ps,_::vs,h=>⟨PtAt.grow g _ _ h.1,AllP.grow g ps vs h.2⟩
 | [],_::_,h=>h.elim
 | _::_,[],h=>h.elim
theorem AllP.snoc {W:World} {p:Pt} {x:V4} (hp:PtAt W p x.val):∀ ps vs,AllP W ps vs→AllP W (ps++[p]) (vs++[x])
 | [],[],_=>⟨hp,trivial⟩
 | _::ps,_::vs,h=>⟨h.1,AllP.snoc hp ps vs h.2⟩
 | [],_::_,h=>h.elim
 | _::_,[],h=>h.elim
theorem AllP.row {W:World} {g:Nat}:∀ ps vs off,AllP W ps vs→(∀ (j:Nat) (u:Value),(v4Cells vs)[j]? = some u→W.cell? ⟨g,off+j,none⟩=some u)→PtsAt W ps g off
 | [],_,_,_,_=>trivial
 | _::_,[],_,h,_=>h.elim
 | p::ps,x::vs,off,h,hc=>by
  refine ⟨⟨x.val,⟨x.a,x.b,x.c,x.d,rfl,?_,?_,?_,?_⟩,h.1⟩,AllP.row ps vs (off+4) h.2 (fun j u hu=>?_)⟩
  · simpa using hc 0 x.a (by simp [v4Cells])
  · exact hc 1 x.b (by simp [v4Cells])
  · exact hc 2 x.c (by simp [v4Cells])
  · exact hc 3 x.d (by simp [v4Cells])
  · rw [show off+4+j=off+(j+4) by omega]
    refine hc (j+4) u ?_
    rw [← hu]
    simp [v4Cells]
def RowQT (w0 W:World) (B n:Nat) (ps:List Pt) (j:Nat):Prop :=
 ∃ (C:Array Value) (vs:List V4),W.heap[B]? = some (.cells C 28 (0,0))∧C.size=n*4∧vs.length=j∧AllP w0 (ps.take j) vs∧∀ (i:Nat) (u:Value),(v4Cells vs)[i]? = some u→C[i]? = some u
theorem RowQT.step {w0 W:World} {B n j:Nat} {ps:List Pt} {p:Pt} {a b c d:Value} (h:RowQT w0 W B n ps j) (hj:j<n) (hp:ps[j]? = some p) (hv:PtAt w0 p (.agg #[a,b,c,d])) :
 RowQT w0 ((((W.setCell ⟨B,j*4,none⟩ a).setCell ⟨B,j*4+1,none⟩ b).setCell ⟨B,j*4+2,none⟩ c).setCell ⟨B,j*4+3,none⟩ d) B n ps (j+1):=by
 obtain ⟨C,vs,hb,hs,hl,ha,hc⟩:=h
 have hjl:j<ps.length:=by
  rcases Nat.lt_or_ge j ps.length with h1 | h1
  · exact h1
  · rw [List.getElem?_eq_none h1] at hp; cases hp
 refine ⟨_,vs++[⟨a,b,c,d⟩],yhs (yhs (yhs (yhs hb (j*4) a) (j*4+1) b) (j*4+2) c) (j*4+3) d,by simp [hs],by simp [hl],?_,fun i u hu=>?_⟩
 · have:ps.take (j+1)=ps.take j++[p]:=by
    rw [List.take_add_one,hp]; rfl
   rw [this]
   exact AllP.snoc hv _ _ ha
 · rw [v4Cells_append] at hu
   have hlen:=v4Cells_len vs
   rw [hl] at hlen
   rcases Nat.lt_or_ge i (j*4) with h1 | h1
   · rw [List.getElem?_append_left (by omega)] at hu
     rw [set_get_ne _ _ _ _ (by omega),set_get_ne _ _ _ _ (by omega),set_get_ne _ _ _ _ (by omega),set_get_ne _ _ _ _ (by omega)]
     exact hc i u hu
   · rw [List.getElem?_append_right (by omega),hlen] at hu
     have hi:i<j*4+4:=by
      rcases Nat.lt_or_ge i (j*4+4) with h2 | h2
      · exact h2
      · rw [List.getElem?_eq_none (by simp [v4Cells]; omega)] at hu; cases hu
     obtain ⟨r,rfl⟩:∃ r,i=j*4+r:=⟨i-j*4,by omega⟩
     rw [show j*4+r-j*4=r by omega] at hu
     have hr:r=0∨r=1∨r=2∨r=3:=by omega
     rcases hr with rfl | rfl | rfl | rfl
     · obtain rfl:a=u:=by simpa [v4Cells] using hu
       rw [set_get_ne _ _ _ _ (by omega),set_get_ne _ _ _ _ (by omega),set_get_ne _ _ _ _ (by omega)]
       exact set_get_self _ _ _ (by omega)
     · obtain rfl:b=u:=by simpa [v4Cells] using hu
       rw [set_get_ne _ _ _ _ (by omega),set_get_ne _ _ _ _ (by omega)]
       exact set_get_self _ _ _ (by simp; omega)
     · obtain rfl:c=u:=by simpa [v4Cells] using hu
       rw [set_get_ne _ _ _ _ (by omega)]
       exact set_get_self _ _ _ (by simp; omega)
     · obtain rfl:d=u:=by simpa [v4Cells] using hu
       exact set_get_self _ _ _ (by simp; omega)
theorem mkPats (n:Nat) (hn:n≤1000000) (w:World):∃ C:Array Value,C.size=n*4∧(Instr.makeSlice 26 (.int .i64 n) (.int .i64 n)).run Tryz.prog w=.ok (.slice (some ⟨w.heap.size,0,none⟩) n n) (w.alloc (.cells C 28)):=by
 obtain ⟨i,hi,z0,z1,z2⟩:=info_parts info28
 have:=run_make (P:=Tryz.prog) w 26 28 i (.agg #[.int .i64 0,.int .i64 0,.int .i64 0,.slice none 0 0]) Tryz.underlying26 hi z0 .i64 .i64 n n (by omega) (Int.le_refl _) (by rw [z2]; omega) (by omega)
 rw [z1] at this
 exact ⟨_,size_madeCells _ _,by simpa using this⟩
theorem checked_any (ms:List Mrk) (av:Option Addr) (cap:Nat) (w:World) (hms:∀ m∈ms,m.pat.size≤100000∧m.kind.size≤1000000) (hl:ms.length≤1000000) (hlv:ylL (ms.map Mrk.pat)≤64)
 (ha:ms=[]∨∃ b off,av=some ⟨b,off,none⟩∧MrkAt w ms b off) :
 Calls Tryz.prog 49 #[.slice av ms.length cap] w (CheckedPost ms w):=by
 have HA:=hid ha
 have HCM:=hid (checkMarks_any ms av cap w hms hl ha)
 clear ha hms
 obtain ⟨F,hF⟩:∃ f,ymF ms=f:=⟨_,rfl⟩
 rw [hF] at HCM
 obtain ⟨P,hP⟩:∃ P,CheckedPost ms w=P:=⟨_,rfl⟩
 rw [hP]
 have HP:=hid hP
 have HF:=hid hF
 clear hP hF
 go_enter Tryz.func49,Tryz.ntmps49
 go_wp2_with fail
 refine HCM.out.mono ?_
 rintro e w1 ⟨rfl,g1⟩
 have HG1:=hid g1
 clear g1 HCM
 by_cases hz:F=0
 · subst hz
   obtain ⟨hne,h60,hsz,hR⟩:=marksFault_zero ms HF.out
   have HR:=hid hR
   have hlen1:1≤ms.length:=by cases ms with | nil=>exact absurd rfl hne | cons _ _=>simp
   have HNE:=hid hne
   clear hR hne
   obtain ⟨C,hC,hmk⟩:=mkPats ms.length hl w1
   have HC:=hid hC
   clear hC
   go_wp2_with fail
   have r0:Hid (RowQT w1 (w1.alloc (.cells C 28)) w1.heap.size ms.length (ms.map Mrk.pat) 0):=hid ⟨C,[],xN _ _,HC.out,rfl,trivial,fun i u hu=>by simp [v4Cells] at hu⟩
   have G2:=hid (xG w1 (.cells C 28) none)
   generalize w1.alloc (.cells C 28)=w2 at r0 G2 ⊢
   obtain ⟨B,hB⟩:∃ B,B=w1.heap.size:=⟨_,rfl⟩
   rw [← hB] at r0 ⊢
   have HB:=hid (show w1.heap.size≤B by omega)
   clear hB hmk
   go_loopw [19] (fun i wr=>∃ j:Nat,j≤ms.length∧i=.int .i64 j∧Hid (RowQT w1 wr B ms.length (ms.map Mrk.pat) j)∧Hid (w1.grownBy wr none)) (fun i _=>ms.length-(intOf i).toNat)
   case atStart=>exact ⟨0,Nat.zero_le _,rfl,r0,G2⟩
   case round =>
    obtain ⟨j,hj,rfl,HRW,HG⟩:=hrel
    by_cases hlt:j<ms.length
    · obtain ⟨b,off,o,l,h,x,n,cc,rfl,h1,h2,h3,h4,h5,hp⟩:=MrkAt.elem HA.out j hlt
      have gw:=xT HG1.out HG.out
      replace h1:=ycg h1 gw
      replace h2:=ycg h2 gw
      replace h3:=ycg h3 gw
      replace h4:=ycg h4 gw
      replace h5:=ycg h5 gw
      have HPT:=hid (PtAt.grow HG1.out _ _ hp)
      have HGET:=hid (show (ms.map Mrk.pat)[j]? = some ms[j].pat by simp [hlt])
      generalize ms[j].kind=kind at h1
      generalize ms[j].pat=pat at HPT HGET
      have b0:=xN wr (.cells #[.string kind,.int .i64 o,.int .i64 l,.int .i64 h,.slice x n cc] 88)
      have G3:=hid (yga HG.out (.cells #[.string kind,.int .i64 o,.int .i64 l,.int .i64 h,.slice x n cc] 88))
      have R3:Hid (RowQT w1 (wr.alloc (.cells #[.string kind,.int .i64 o,.int .i64 l,.int .i64 h,.slice x n cc] 88)) B ms.length (ms.map Mrk.pat) j):=hid (by
       obtain ⟨C,vs,hb,r⟩:=HRW.out
       exact ⟨C,vs,grow_new (xG _ _ none) hb,r⟩)
      clear gw hp
      go_upto_region 8 with (fail)
      generalize wr.alloc _=w3 at b0 G3 R3 ⊢
      generalize wr.heap.size=M at b0 ⊢
      have x1:=xC b0 1
      have x2:=xC b0 2
      have x3:=xC b0 3
      have x4:=xC b0 4
      simp only [xGe,xGz,xGs] at x1 x2 x3 x4
      obtain ⟨C3,vs3,hb3,hs3,_⟩:=R3.out
      have y0:=(xC hb3 (j*4)).trans (Array.getElem?_eq_getElem (show j*4<C3.size by omega))
      have y1:=(xC hb3 (j*4+1)).trans (Array.getElem?_eq_getElem (show j*4+1<C3.size by omega))
      have y2:=(xC hb3 (j*4+2)).trans (Array.getElem?_eq_getElem (show j*4+2<C3.size by omega))
      have y3:=(xC hb3 (j*4+3)).trans (Array.getElem?_eq_getElem (show j*4+3<C3.size by omega))
      have f0:=yfb hb3 (j*4)
      have f1:=yfb hb3 (j*4+1)
      have f2:=yfb hb3 (j*4+2)
      have f3:=yfb hb3 (j*4+3)
      have R4:=hid (R3.out.step hlt HGET.out HPT.out)
      have hB:=HB.out
      have G4:=hid (ygs (ygs (ygs (ygs G3.out ⟨B,j*4,none⟩ (.int .i64 o) hB) ⟨B,j*4+1,none⟩ (.int .i64 l) hB) ⟨B,j*4+2,none⟩ (.int .i64 h) hB) ⟨B,j*4+3,none⟩ (.slice x n cc) hB)
      generalize C3[j*4]'_=v0 at y0
      generalize C3[j*4+1]'_=v1 at y1
      generalize C3[j*4+2]'_=v2 at y2
      generalize C3[j*4+3]'_=v3 at y3
      clear b0 hb3 hs3 hB h1 h2 h3 h4 h5 R3 G3
      go_wp2_with fail
      go_roundw
      case rel=>exact ⟨j+1,by omega,by go_num,R4,G4⟩
      case measure=>simp [intOf]; omega
    · obtain ⟨C3,vs3,hb3,hs3,hvl,hall,hcs⟩:=HRW.out
      have hjm:j=ms.length:=by omega
      have hall2:AllP w1 (ms.map Mrk.pat) vs3:=by
       rw [List.take_of_length_le (by simp; omega)] at hall
       exact hall
      have hpts:PtsAt wr (ms.map Mrk.pat) B 0:=AllP.row _ vs3 0 (AllP.grow HG.out _ _ hall2) (fun i u hu=>by rw [Nat.zero_add,xC hb3 i]; exact hcs i u hu)
      have HNM:=hid (newMachine_any (ms.map Mrk.pat) (some ⟨B,0,none⟩) ms.length wr (by omega) hlv (by simpa using HNE.out) HR.out (.inr ⟨B,0,rfl,hpts⟩))
      rw [List.length_map] at HNM
      have HGW:=hid (xT HG1.out HG.out)
      clear hb3 hs3 hvl hall hcs hall2 hpts hjm
      go_wp2_with fail
      refine HNM.out.mono ?_
      rintro e w5 ⟨rfl,⟨gn,gr,gd,gb,C,lv,mv,gs,hM,h263⟩,g5⟩
      have HM:=hid hM
      have HG5:=hid g5
      have H263:=hid h263
      clear hM g5 h263
      go_wp2_with fail
      refine (explore_any w5 wr.heap.size wr.heap.size gn gr gd gb 3000 (ms.map Mrk.pat) C lv mv gs hlv (by omega) HR.out (by omega) HM.out H263.out).mono ?_
      intro e w6 hpo
      obtain ⟨F6,hcs⟩:=exp_cases hpo
      obtain ⟨_,_,_,od,ob⟩:=HM.out.old
      have HG6:=hid (xT HGW.out (grow_exp HG5.out F6 (Nat.le_refl _) od ob))
      clear F6 od ob hpo
      rcases hcs with ⟨hA,rfl⟩ | ⟨L,hA,rfl,bx,gm,mm,sv,kv,stv,svs,sts,hX,hLk,hRc,hWs,hLm⟩
      · have HAL:=hid (show allSets (ms.map Mrk.pat)=none from hA)
        clear hA
        go_wp2_with fail
        (rw [← HP.out]; exact ⟨HG6.out,.inr (.inl ⟨HF.out,HAL.out,rfl⟩)⟩)
      · have HAL:=hid (show allSets (ms.map Mrk.pat)=some L from hA)
        have HMA:=hid (machAt_of HM.out hX hRc)
        have HLM:=hid hLm
        clear hA hX hLk hRc hWs hLm
        go_wp2_with fail
        (rw [← HP.out]; exact ⟨HG6.out,.inr (.inr ⟨_,L,HF.out,HAL.out,HLM.out,rfl,HMA.out⟩)⟩)
 · have hzb:(F != 0)=true:=by simpa using hz
   have HZ:=hid hz
   clear hz
   go_wp2_with fail
   (rw [← HP.out]; exact ⟨HG1.out,.inl ⟨by rw [HF.out]; exact HZ.out,by rw [HF.out]; rfl⟩⟩)
end Go.Proofs.YtplbacfjmajeeaaGreatDoor
