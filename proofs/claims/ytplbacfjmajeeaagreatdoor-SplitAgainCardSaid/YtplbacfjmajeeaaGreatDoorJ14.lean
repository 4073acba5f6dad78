import Derived.Test.YtplbacfjmajeeaaGreatDoorJ13
namespace Go.Proofs.YtplbacfjmajeeaaGreatDoor
open Go.Lib (hid)
set_option maxHeartbeats 4000000
set_option maxRecDepth 100000
open Go.RowKit
attribute [local go_sem ↓] Go.wp_at_zero Go.wp_at_succ
theorem newSet_at {w5 W:World} (bm P H:Nat) (hP:P≤64) (hc:w5.cell? ⟨bm,2,none⟩=some (.int .i64 P)) (g:w5.grownBy W none) (hH:W.heap.size=H) :
 Calls Tryz.prog 70 #[.pointer (some ⟨bm,0,none⟩)] W fun e w'=>e=.returned (.slice (some ⟨H,0,none⟩) (nw P) (nw P))∧w5.grownBy w' none∧OwnSet w' H P 0:=by
 refine (newSet_any bm P W hP (ycg hc g)).mono ?_
 rintro e w' ⟨rfl,rfl⟩
 subst hH
 exact ⟨rfl,yga g _,ownSet_new W P⟩
set_option maxHeartbeats 8000000 in
theorem classify_any (bm P base0:Nat) (C0:Array Value) (bv:Value) (bs:List Bp) (by_:List (Int × Int)) (w:World) (hP:P≤64) (hPl:P=by_.length) (hby:bs.map (fun x=>(x.lo,x.hi))=by_) (hok:BytesOk by_) (hC:C0.size=264)
 (hM:w.heap[bm]? = some (.cells C0 136 (0,0))) (h2:C0[2]? = some (.int .i64 P)) (h4:C0[259]? = some (.slice none 0 0)) (h5:C0[260]? = some (.slice none 0 0)) (hbv:w.ownsRow base0 28 4 bv bs.length (bpCells bs)) :
 Calls Tryz.prog 69 #[.pointer (some ⟨bm,0,none⟩),bv] w (ClsPost w bm C0 P by_):=by
 obtain ⟨i5,hi5,a50,a51,a52⟩:=info_parts info5
 obtain ⟨i1,hi1,a10,a11,a12⟩:=info_parts info141
 have hbl:bs.length=by_.length:=by rw [← hby]; simp
 have HBL:=hid hbl
 have HBY:=hid hby
 have HPL:=hid hPl
 have HM:=hid hM
 have H2:=hid h2
 have H4:=hid h4
 have H5:=hid h5
 have HBV:=hid hbv
 have HCS:=hid hC
 obtain ⟨bva,bvc,rfl⟩:=yos hbv
 have z0:Tryz.zeroCells173.setIfInBounds 0 (.bool true)=((noBegs.set 0 true).map Value.bool).toArray:=by rw [z173]; simp
 have hb64:bs.length≤64:=by omega
 have HZ:=hid z0
 clear hbl hby hPl hM h2 h4 h5 hbv hC z0
 go_enter Tryz.func69,Tryz.ntmps69
 go_wp2_with fail
 have g1:=xG w (.cells (Tryz.zeroCells173.setIfInBounds 0 (.bool true)) 173) none
 have hA:ArrRow (w.alloc (.cells (Tryz.zeroCells173.setIfInBounds 0 (.bool true)) 173)) w.heap.size (begSet [] (noBegs.set 0 true)):=by
  unfold ArrRow begSet
  rw [xN,HZ.out]
 generalize w.alloc (.cells (Tryz.zeroCells173.setIfInBounds 0 (.bool true)) 173)=w1 at g1 hA ⊢
 have HA:=hid hA
 have HG1:=hid g1
 clear hA g1
 go_loopw [14] (fun i wr=>∃ j:Nat,j≤bs.length∧i=.int .i64 j∧ArrRow wr w.heap.size (begSet (by_.take j) (noBegs.set 0 true))∧w1.grownBy wr (some w.heap.size)) (fun i _=>bs.length-(intOf i).toNat)
 case atStart=>exact ⟨0,Nat.zero_le _,rfl,HA.out,World.grownBy.refl _ _⟩
 case round =>
  obtain ⟨j,hj,rfl,hA,hg⟩:=hrel
  have hwr:w.grownBy wr none:=by
   have h1:=HG1.out
   exact ⟨hg.os.trans h1.os,hg.tape.trans h1.tape,hg.output.trans h1.output,Nat.le_trans h1.size hg.size,fun k hk _=>(hg.block k (Nat.lt_of_lt_of_le hk h1.size) (by simp; omega)).trans (h1.block k hk (by simp))⟩
  by_cases hlt:j<bs.length
  · have hbvr:=ownsRow_frm (Frm.of_grown hwr (fun _ _=>True)) HBV.out (fun _ _ _ _=>trivial)
    obtain ⟨g,c,hv,_,q0,q1,q2,q3⟩:=bp_at hbvr j hlt
    simp only [Value.slice.injEq] at hv
    obtain ⟨rfl,_,rfl⟩:=hv
    have hbyj:by_[j]? = some (bs[j].lo,bs[j].hi):=by
     rw [← HBY.out]
     have:(List.map (fun x:Bp=>(x.lo,x.hi)) bs)[j]? = some (bs[j].lo,bs[j].hi):=by simp [hlt]
     exact this
    have hjl:j<by_.length:=by have:=HBL.out; omega
    have hbyj2:by_[j]=(bs[j].lo,bs[j].hi):=by rw [List.getElem?_eq_getElem hjl] at hbyj; simpa using hbyj
    have hbd:=hok _ (List.getElem_mem hjl)
    rw [hbyj2] at hbd
    simp only at hbd
    have HT:=hid (show begSet (by_.take (j+1)) (noBegs.set 0 true)=((begSet (by_.take j) (noBegs.set 0 true)).set bs[j].lo.toNat true).set (bs[j].hi+1).toNat true by
     rw [List.take_succ_eq_append_getElem hjl,begSet_snoc,hbyj2])
    have hlen:(begSet (by_.take j) (noBegs.set 0 true)).length=257:=by rw [begSet_len,List.length_set,noBegs_len]
    generalize bs[j].lo=lo at *
    generalize bs[j].hi=hh at *
    generalize bs[j].a=xa at *
    generalize bs[j].n=xn at *
    generalize bs[j].c=xc at *
    obtain ⟨ln,rfl⟩:=Int.eq_ofNat_of_zero_le hbd.1
    obtain ⟨hn,rfl⟩:=Int.eq_ofNat_of_zero_le (Int.le_trans hbd.1 hbd.2.1)
    obtain ⟨y1,hy1⟩:∃ y,(begSet (by_.take j) (noBegs.set 0 true))[ln]? = some y:=⟨_,List.getElem?_eq_getElem (by omega)⟩
    have hA2:∀ o,ArrRow (wr.alloc o) w.heap.size (begSet (by_.take j) (noBegs.set 0 true)):=fun o=>hA.kept (xG wr o none) (by simp)
    have cy1:∀ o,(wr.alloc o).cell? ⟨w.heap.size,ln,none⟩=some (.bool y1):=fun o=>(hA2 o).cell hy1
    have fy1:∀ o,(wr.alloc o).frozen? ⟨w.heap.size,ln,none⟩=false:=fun o=>(hA2 o).free ln
    have hl1:(ln:Int)<257:=by omega
    have hl2:(hn:Int)+1<257:=by omega
    obtain ⟨y2,hy2⟩:∃ y,((begSet (by_.take j) (noBegs.set 0 true)).set ln true)[hn+1]? = some y:=⟨_,List.getElem?_eq_getElem (by rw [List.length_set]; omega)⟩
    have hA3:=hA.set ln true
    have cy2:∀ o,((wr.setCell ⟨w.heap.size,ln,none⟩ (.bool true)).alloc o).cell? ⟨w.heap.size,hn+1,none⟩=some (.bool y2):=fun o=>(hA3.kept (xG _ o none) (by simp)).cell hy2
    have fy2:∀ o,((wr.setCell ⟨w.heap.size,ln,none⟩ (.bool true)).alloc o).frozen? ⟨w.heap.size,hn+1,none⟩=false:=fun o=>(hA3.kept (xG _ o none) (by simp)).free _
    have HA3:=hid (hA3.set (hn+1) true)
    have hws:w.heap.size<wr.heap.size:=by have:=xL hA; omega
    have hn1:wr.heap.size≠w.heap.size:=by omega
    have hn2:w.heap.size≠wr.heap.size:=by omega
    have HA2:=hid hA2
    have HGR:=hid hg
    clear hA2 hA3 hA hg hbvr hbyj hbyj2
    go_wp2_with fail
    go_roundw
    case rel =>
     refine ⟨j+1,by omega,by go_num,?_,?_⟩
     · rw [HT.out]
       exact HA3.out.kept (xG _ _ none) (by simp)
     · exact xT (xT (xT HGR.out (grow_cell _ _)) (grow_cell _ _)) (xG _ _ _)
    case measure=>simp [intOf]; omega
  · obtain rfl:j=bs.length:=by omega
    have HA2:=hid (show ArrRow wr w.heap.size (begL by_) by
     unfold begL; rw [List.take_of_length_le (by rw [HBL.out]; exact Nat.le_refl _)] at hA; exact hA)
    have HWR:=hid hwr
    clear hA hg hwr
    go_wp2_with fail
    obtain ⟨wo,rfl⟩:∃ wo:World,wo=wr:=⟨_,rfl⟩
    go_loopw [26] (fun i wr=>∃ (j:Nat) (lv mv:Value) (gs:List Nat),j≤256∧i=.int .i64 j∧ClsG wr bm C0 P w.heap.size by_ j (lows by_ j) lv mv gs (fun _=>0)∧gs.length=(lows by_ j).length∧Frm (ClsP bm) w wr∧ArrRow wr w.heap.size (begL by_)) (fun i _=>256-(intOf i).toNat)
    case atStart =>
     refine ⟨0,.slice none 0 0,.slice none 0 0,[],by omega,rfl,⟨⟨C0,?_,HCS.out,fun _ _=>rfl,H4.out,H5.out,fun b hb=>by omega⟩,World.ownsRow_nil _ _ _ _,World.ownsRow_nil _ _ _ _,List.nodup_nil,by simp,by simp⟩,rfl,Frm.of_grown HWR.out _,HA2.out⟩
     exact grow_new HWR.out HM.out
    case round =>
     obtain ⟨j,lv,mv,gs,hj,rfl,hSt,hgl,hF,hA⟩:=hrel
     by_cases hlt:j<256
     · obtain ⟨la,lc,rfl⟩:=yos hSt.low
       obtain ⟨ma,mc,rfl⟩:=yos hSt.mat
       have hll:(lows by_ j).length≤j:=by have:=List.length_filter_le (bg by_) (List.range j); simpa [lows] using this
       have hbm:=hSt.blk
       obtain ⟨C,hblk,_⟩:=hbm
       have hbmw:bm<w.heap.size:=xL HM.out
       have hjb:(begL by_)[j]? = some (bg by_ j):=by
        unfold bg
        have:j<(begL by_).length:=by rw [begL_len]; omega
        simp [List.getD,this]
       have cb:=hA.cell hjb
       obtain ⟨d4,d5,d2,dfr,dold,_⟩:=hSt.cells
       have hwsz:=hF.size
       by_cases hb:bg by_ j=true
       · rw [hb] at cb
         have HLS:=hid (show lows by_ (j+1)=lows by_ j++[j] by rw [lows_succ,hb]; rfl)
         have cb2:∀ o,(wr.alloc o).cell? ⟨bm,259,none⟩=_:=fun o=>ycg d4 (xG wr o none)
         have HSt:=hid hSt
         have HGL:=hid hgl
         have HF:=hid hF
         have HAR:=hid hA
         have HBK:=hid hblk
         have hown:=hSt.low
         clear hSt hgl hF hA hblk hjb dold dfr d2 hb
         go_wp2_with (at_builtin; refine wpList_append_own _ rfl _ _ 111 rfl w.heap.size 5 i5 (.int .u8 0) 1 1 Tryz.underlying111 hi5 a50 a51 a52 rfl (by decide) _ _ _ rfl (hown.alloc _) ⟨wr.heap.size,0,none⟩ 1 1 [.int .u8 (j:Int)] rfl rfl (cells_new _ _ _) (fun x hx=>by simp at hx; subst hx; rfl) (by unfold maxLen; omega) (by omega) (by simp; omega) ?_; intro v' w4 hown' hgrow _; obtain ⟨av,cv,rfl⟩:=yos hown'; have B4:=ygb (hown.alloc _) hgrow ((Below.heap_alloc wr _ bm (xL HBK.out)).trans HBK.out) (by decide); have c94:=xC B4 259; have f94:=yfb B4 259)
         have S5:=HSt.out.pushLow hlt rfl hown' hgrow (by omega)
         have A5:ArrRow (w4.setCell ⟨bm,259,none⟩ (.slice av ((lows by_ j).length+1) cv)) w.heap.size (begL by_):=by
          have:=ygb (hown.alloc _) hgrow ((Below.heap_alloc wr _ _ (xL HAR.out)).trans HAR.out) (by decide)
          unfold ArrRow
          rw [Below.heap_setCell _ _ _ _ (by simp; omega)]; exact this
         have F5:Frm (ClsP bm) w (w4.setCell ⟨bm,259,none⟩ (.slice av ((lows by_ j).length+1) cv)) :=
          ((HF.out.alloc _).grown2 hgrow (fun k hk=>.inl ((hown.lt k hk).1))).set2 _ _ (.inr (fun _ hp=>hp rfl))
         clear hown' hgrow B4 c94 f94 hown
         generalize w4.setCell ⟨bm,259,none⟩ (.slice av ((lows by_ j).length+1) cv)=w5 at S5 A5 F5 ⊢
         obtain ⟨k4,k5,k2,kfr,_,_⟩:=S5.cells
         obtain ⟨C5,hB5,hC5⟩:=S5.blk
         have HB5:=hid hB5
         have HC45:=hid hC5.2.2.2.1
         clear hB5 hC5
         have k2:=k2 H2.out
         have kf:=kfr 260
         have hw5:=F5.size
         have HS5:=hid S5
         have HA5:=hid A5
         have HF5:=hid F5
         have hgs:gs.length≤256:=by rw [HGL.out]; omega
         clear S5 A5 F5 kfr
         go_region_law (first | (have tok:=g6; refine step_append_lies _ (by rfl) (.tmp 47) (.tmp 50) 133 (by rfl) w.heap.size 141 i1 (.slice none 0 0) 1 24 Tryz.underlying133 hi1 a10 a11 a12 rfl (by omega) _ gs.length (gs.map (setV P)) (by rfl) ((HS5.out.grow (by repeat (first | assumption | apply grow_drew | apply yga))).mat) ⟨w6.heap.size,0,none⟩ 1 1 [.slice (some ⟨w5.heap.size,0,none⟩) (nw P) (nw P)] (by rfl) (by rfl) (World.news_of_block (cs:=#[.slice (some ⟨w5.heap.size,0,none⟩) (nw P) (nw P)]) (t:=141) (fr:=(0,0)) (xN w6 _)) (by simp [Value.oneCell']) (by omega) (by unfold maxLen; omega) (by omega) (by have:=g6.size; simp; omega) (w6.heap.size+1) (by simp) ?_; intro gg cap1 w7 hown1 hgrow hat hlt1; clear tok; have BM7:=ygb (HS5.out.grow (yga g6 (.cells #[.slice (some ⟨w5.heap.size,0,none⟩) (nw P) (nw P)] 141))).mat hgrow (grow_new (yga g6 _) HB5.out) (by decide); have fm7:=yfb BM7 260; have cm7:=(xC BM7 260).trans HC45.out; have BMH:=hid BM7; clear BM7) | (go_simp; go_at_call 70; refine (newSet_at bm P w5.heap.size hP k2 (by repeat (first | exact grow_self _ | apply grow_drew | apply yga)) (by simp)).mono ?_; rintro e w6 ⟨rfl,g6,hO6⟩; have k5b:=ycg k5 g6; have k5c:∀ o,(w6.alloc o).cell? ⟨bm,260,none⟩=_:=fun o=>ycg k5b (xG w6 o none); have HO6:=hid hO6; clear hO6))
         all_goals
          have S8:=HS5.out.pushSet (by omega) rfl g6 HO6.out (Nat.le_refl _) hw5 hown1 hgrow
          have A8:ArrRow (w7.setCell ⟨bm,260,none⟩ (.slice (some ⟨gg,0,none⟩) (gs.length+1) cap1)) w.heap.size (begL by_):=by
           have:=ygb (HS5.out.grow (yga g6 (.cells #[.slice (some ⟨w5.heap.size,0,none⟩) (nw P) (nw P)] 141))).mat hgrow (grow_new (yga g6 _) HA5.out) (by decide)
           unfold ArrRow
           rw [Below.heap_setCell _ _ _ _ (by simp; omega)]; exact this
          have F8:Frm (ClsP bm) w (w7.setCell ⟨bm,260,none⟩ (.slice (some ⟨gg,0,none⟩) (gs.length+1) cap1)) :=
           ((((HF5.out.trans (Frm.of_grown g6 _)).alloc (.cells #[.slice (some ⟨w5.heap.size,0,none⟩) (nw P) (nw P)] 141))).grown2 hgrow (fun k hk=>.inl ((HS5.out.mat.lt k hk).1))).set2 _ _ (.inr (fun _ hp=>hp rfl))
          clear hown1 hgrow BMH cm7 fm7 hat hlt1 HO6 g6 k5b k5c
          generalize w7.setCell ⟨bm,260,none⟩ (.slice (some ⟨gg,0,none⟩) (gs.length+1) cap1)=w8 at S8 A8 F8 ⊢
          have ec:=hid (show ((lows by_ j).length:Int)=(cls by_ j:Nat) by
           have:cls by_ j=(lows by_ j).length:=by unfold cls; rw [HLS.out]; simp
           omega)
          obtain ⟨r4,_,_,rfr,rold,_⟩:=S8.cells
          have rf:=rfr (3+j)
          obtain ⟨rv,ro⟩:=rold (3+j) (by omega)
          have HR:=hid (S8.setClass hlt ec.out)
          have HAR2:=hid A8
          have HF8:=hid F8
          have HB8:=hid S8.blk
          clear S8 A8 F8 rfr rold
          go_wp2_with fail
          go_region
          all_goals go_wp2_with fail
          all_goals go_roundw
          case rel =>
           refine ⟨j+1,_,_,_,by omega,by go_num,by rw [HLS.out]; exact HR.out.drew,by rw [HLS.out]; simp [HGL.out],(HF8.out.set2 _ _ (.inr (fun _ hp=>hp rfl))).drew,?_⟩
           obtain ⟨C8,hB8,_⟩:=HB8.out
           unfold ArrRow
           show (World.setCell _ _ _).heap[w.heap.size]? = _
           rw [Below.heap_setCell _ _ _ _ (by simp; omega)]; exact HAR2.out
          case measure=>simp [intOf]; omega
       · have hb':bg by_ j=false:=by simpa using hb
         rw [hb'] at cb
         have hj0:j≠0:=by intro e; subst e; rw [bg_zero] at hb'; cases hb'
         have hlp:=lows_pos by_ j (by omega)
         have HLS:=hid (show lows by_ (j+1)=lows by_ j by rw [lows_succ,hb']; simp)
         have ec:=hid (show ((lows by_ j).length:Int)-1=(cls by_ j:Nat) by
          have:cls by_ j=(lows by_ j).length-1:=by unfold cls; rw [HLS.out]
          omega)
         have rf:=dfr (3+j)
         obtain ⟨rv,ro⟩:=dold (3+j) (by omega)
         have HR:=hid (hSt.setClass hlt ec.out)
         have HGL:=hid hgl
         have HF:=hid hF
         have HAR:=hid hA
         clear hSt hgl hF hA hblk hjb dold dfr d2 hb hb' hj0
         go_wp2_with fail
         go_region
         all_goals go_wp2_with fail
         all_goals go_roundw
         case rel =>
          refine ⟨j+1,_,_,_,by omega,by go_num,by rw [HLS.out]; exact HR.out.drew,by rw [HLS.out]; exact HGL.out,(HF.out.set2 _ _ (.inr (fun _ hp=>hp rfl))).drew,?_⟩
          unfold ArrRow
          show (World.setCell _ _ _).heap[w.heap.size]? = _
          rw [Below.heap_setCell _ _ _ _ (by simp; omega)]; exact HAR.out
         case measure=>simp [intOf]; omega
     · have ej:j=256:=by omega
       rw [ej] at hSt hgl
       clear ej
       have HGL:=hid hgl
       have HF:=hid hF
       have HSt:=hid hSt
       clear hSt hgl hF hA
       go_wp2_with fail
       obtain ⟨wo,rfl⟩:∃ wo:World,wo=wr:=⟨_,rfl⟩
       go_loopw [68] (fun i wr=>∃ j:Nat,j≤bs.length∧i=.int .i64 j∧ClsG wr bm C0 P w.heap.size by_ 256 (lows by_ 256) lv mv gs (fun κ=>maskOf (matchL by_ j κ))∧Frm (ClsP bm) w wr) (fun i _=>bs.length-(intOf i).toNat)
       case atStart=>exact ⟨0,Nat.zero_le _,rfl,HSt.out.congr (fun κ=>by simp [matchL,maskOf]),HF.out⟩
       case round =>
        obtain ⟨j,hj,rfl,hSt,hF⟩:=hrel
        by_cases hlt:j<bs.length
        · have hbvr:=ownsRow_frm hF HBV.out (fun k c hk hc=>by have:=blk_ne hc HM.out (by decide); exact this)
          obtain ⟨g,c,hv,_,q0,q1,q2,q3⟩:=bp_at hbvr j hlt
          simp only [Value.slice.injEq] at hv
          obtain ⟨rfl,_,rfl⟩:=hv
          have hbyj:by_[j]? = some (bs[j].lo,bs[j].hi):=by
           rw [← HBY.out]
           have:(List.map (fun x:Bp=>(x.lo,x.hi)) bs)[j]? = some (bs[j].lo,bs[j].hi):=by simp [hlt]
           exact this
          have hjl:j<by_.length:=by have:=HBL.out; omega
          have hgd:by_.getD j (0,-1)=(bs[j].lo,bs[j].hi):=by simp [List.getD,hbyj]
          have hbd:=hok _ (List.getElem_mem hjl)
          rw [show by_[j]=(bs[j].lo,bs[j].hi) by rw [List.getElem?_eq_getElem hjl] at hbyj; simpa using hbyj] at hbd
          simp only at hbd
          clear hbyj
          generalize bs[j].lo=lo at *
          generalize bs[j].hi=hh at *
          generalize bs[j].a=xa at *
          generalize bs[j].n=xn at *
          generalize bs[j].c=xc at *
          obtain ⟨ln,rfl⟩:=Int.eq_ofNat_of_zero_le hbd.1
          obtain ⟨hn,rfl⟩:=Int.eq_ofNat_of_zero_le (Int.le_trans hbd.1 hbd.2.1)
          have HG:=hid hgd
          have hS2:=hSt.alloc (.cells #[.int .i64 1,.int .i64 ln,.int .i64 hn,.slice xa xn xc] 28)
          obtain ⟨_,_,_,_,_,rc⟩:=hS2.cells
          have rcl:=rc ln (by omega)
          have hbx:=xN wr (.cells #[.int .i64 1,.int .i64 ln,.int .i64 hn,.slice xa xn xc] 28)
          have HS2:=hid hS2
          have HF2:=hid (hF.alloc (.cells #[.int .i64 1,.int .i64 ln,.int .i64 hn,.slice xa xn xc] 28))
          have HBX:=hid hbx
          have hl1:(0:Int)≤(ln:Int):=by omega
          have hl2:(ln:Int)<256:=by omega
          have hl3:(0:Int)≤(hn:Int):=by omega
          have hl4:(hn:Int)<256:=by omega
          have hwb:w.heap.size≤wr.heap.size:=hF.size
          clear hS2 rc hbx hSt hF hbvr hgd
          go_wp2_with fail
          go_region
          go_wp2_with fail
          obtain ⟨wq,rfl⟩:∃ wq:World,wq=wr:=⟨_,rfl⟩
          go_loopw [10] (fun cv wr=>∃ c:Nat,cls by_ ln≤c∧c≤cls by_ hn+1∧cv=.int .i64 c∧ClsG wr bm C0 P w.heap.size by_ 256 (lows by_ 256) lv mv gs (midM by_ j c)∧Frm (ClsP bm) w wr∧wr.heap[wq.heap.size]? = some (.cells #[.int .i64 1,.int .i64 ln,.int .i64 hn,.slice xa xn xc] 28 (0,0))) (fun cv _=>cls by_ hn+1-(intOf cv).toNat)
          case atStart=>exact ⟨cls by_ ln,Nat.le_refl _,by have:=cls_mono by_ (show ln≤hn by omega); omega,rfl,HS2.out.drew.congr (fun κ=>midM_start by_ j _ (by rw [HG.out]; rfl) κ),HF2.out.drew,HBX.out⟩
          case round =>
           obtain ⟨c,hc1,hc2,rfl,hS3,hF3,hbx⟩:=hrel
           obtain ⟨r4,r5,_,_,_,rc⟩:=hS3.cells
           have rch:=rc hn (by omega)
           have cx2:=xC hbx 2
           simp only [xGe,xGz,xGs] at cx2
           by_cases hle:c≤cls by_ hn
           · have hcg:c<gs.length:=by
              rw [HGL.out]
              have h1:=lows_mono by_ (show hn+1≤256 by omega)
              have h2:=lows_pos by_ (hn+1) (by omega)
              have:cls by_ hn=(lows by_ (hn+1)).length-1:=rfl
              omega
             have hg256:gs.length≤256:=by rw [HGL.out]; have:=List.length_filter_le (bg by_) (List.range 256); simpa [lows] using this
             have hgc:gs[c]? = some gs[c]:=List.getElem?_eq_getElem hcg
             obtain ⟨mg,mcap,hmv,_,hmc⟩:=yoe hS3.mat (by omega)
             subst hmv
             have cmc:=hmc c (setV P gs[c]) (by simp [hcg])
             have hO:=hS3.sets c _ hgc
             have HO:=hid hO
             have HS3:=hid hS3
             have HF3:=hid hF3
             have HBX3:=hid hbx
             have HGC:=hid hgc
             have hmid:=hid (midM_step by_ j c (by rw [HG.out]; exact hc1) (by rw [HG.out]; exact hle))
             have hgbase:=HS3.out.gbase gs[c] (List.getElem_mem hcg)
             unfold setV at cmc
             have hcl:(c:Int)<(gs.length:Int):=by omega
             clear hS3 hF3 hbx rc hmc hO hgc
             generalize gs[c]=gc at *
             go_wp2_with fail
             go_region
             go_wp2_with fail
             refine (add_any gc P (midM by_ j c c) j wr.drew hP (by have:=HPL.out; have:=HBL.out; omega) HO.out.drew).mono ?_
             rintro e w9 ⟨rfl,hO9,g9⟩
             have HS9:=hid ((HS3.out.drew.setM HGC.out hO9 g9).congr hmid.out)
             have HF9:=hid (HF3.out.drew.grown2 g9 (fun k hk=>.inl (by (have hgk:gc=k:=(by simpa using hk)); omega)))
             have HBX9:=hid ((g9.block _ (xL (w:=wr.drew) HBX3.out) (by simpa using blk_ne (w:=wr) HBX3.out HO.out.blk (by decide))).trans HBX3.out)
             clear hO9 g9
             go_wp2_with fail
             go_roundw
             case rel=>exact ⟨c+1,by omega,by omega,by go_num,HS9.out,HF9.out,HBX9.out⟩
             case measure=>simp [intOf]; omega
           · have he:c=cls by_ hn+1:=by omega
             have HS3:=hid (hS3.congr (fun κ=>midM_end by_ j c (by rw [HG.out]; exact he) κ))
             have HF3:=hid hF3
             have hnle:¬ ((c:Int)≤(cls by_ hn:Int)):=by omega
             clear hS3 hF3 hbx rc
             go_wp2_with fail
             go_region
             go_wp2_with fail
             go_roundw
             case rel=>exact ⟨j+1,by omega,by go_num,HS3.out.drew,HF3.out.drew⟩
             case measure=>simp [intOf]; omega
        · obtain rfl:j=bs.length:=by omega
          have HF2:=hid hF
          have HS2:=hid hSt
          clear hSt hF
          go_wp2_with fail
          go_end0
          refine ⟨rfl,⟨lv,mv,gs,?_,HGL.out⟩,HF2.out⟩
          rw [← HBL.out]
          exact HS2.out
end Go.Proofs.YtplbacfjmajeeaaGreatDoor
