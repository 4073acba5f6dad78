import Derived.Test.YtplbacfjmajeeaaGreatDoorJ49
namespace Go.Proofs.YtplbacfjmajeeaaGreatDoor
open Go.Lib (hid)
set_option maxHeartbeats 4000000
set_option maxRecDepth 100000
open Go.RowKit
def EitN (s:ByteArray) (a:Nat) (ps:List Pt) (ok:Bool) (a':Nat):Prop:=a≤a'∧a'≤2*s.size+5-a∧ylL ps+(if ok=true then phi s a' else 0)≤phi s a∧sizes ps+ps.length≤2*(a'-a)+2∧(ok=true→WfL ps)
structure EitM (X:Nat) (s:ByteArray) (w:World) (B K a:Nat) (C:Array Value) (ps:List Pt) (vs:List V4) (lv:Value) (L:Nat) (W:World):Prop where
 bx:BoxR X s w B a #[.int .i64 0,.int .i64 0,.int .i64 0,.slice none 0 0] W
 kb:W.heap[K]? = some (.cells C 28 (0,0))
 lt:B<K
 own:W.ownsRow (K+1) 28 4 lv vs.length (v4Cells vs)
 len:vs.length=ps.length
 all:AllQ (fun c=>(B+1≤c∧c≠K∧lv.ownBlock≠some c)∧c<L) W ps vs
 ls:L≤W.heap.size
theorem EitM.grow {X:Nat} {s:ByteArray} {w:World} {B K a:Nat} {C:Array Value} {ps:List Pt} {vs:List V4} {lv:Value} {L:Nat} {W W':World} (h:EitM X s w B K a C ps vs lv L W) (g:W.grownBy W' none):EitM X s w B K a C ps vs lv L W' :=
 ⟨h.bx.grow g,grow_new g h.kb,h.lt,own_grownN h.own g (fun r hr=>by cases hr),h.len,AllQ.keep (kept_grown g (fun r hr=>by cases hr) (fun _ h _=>h)) _ _ h.all,Nat.le_trans h.ls g.size⟩
theorem EitM.call {X:Nat} {s:ByteArray} {w:World} {B K a a2:Nat} {C:Array Value} {ps:List Pt} {vs:List V4} {lv:Value} {L:Nat} {W W':World} (h:EitM X s w B K a C ps vs lv L W) (R:RdPost X s W a2 W'):EitM X s w B K a2 C ps vs lv L W':=by
 have h1:=h.bx.lo
 have h2:=h.bx.xl
 have h3:=h.lt
 exact ⟨h.bx.call R,by rw [R.2.block K (xL h.kb) (fun e=>by have:K=X:=(by simpa using e); omega)]; exact h.kb,h.lt,own_grownN h.own R.2 (fun r hr=>by have:X=r:=(by simpa using hr); omega),h.len,AllQ.keep (kept_grown R.2 (fun r hr hq=>by have:X=r:=(by simpa using hr); omega) (fun _ h _=>h)) _ _ h.all,Nat.le_trans h.ls R.2.size⟩
theorem EitM.step {X:Nat} {s:ByteArray} {w:World} {B K a:Nat} {C:Array Value} {ps:List Pt} {vs:List V4} {lv:Value} {L:Nat} {W:World} (h:EitM X s w B K a C ps vs lv L W) (n:Nat) (z:Int) (hz:z=n):EitM X s w B K n C ps vs lv L (W.setCell ⟨X,1,none⟩ (.int .i64 z)):=by
 subst hz
 exact h.call (h.bx.rd.step n)
theorem EitM.put {X:Nat} {s:ByteArray} {w:World} {B K a:Nat} {C:Array Value} {ps:List Pt} {vs:List V4} {lv:Value} {L:Nat} {W:World} (h:EitM X s w B K a C ps vs lv L W) (i:Nat) (u:Value):EitM X s w B K a (C.setIfInBounds i u) ps vs lv L (W.setCell ⟨K,i,none⟩ u):=by
 have h1:=h.bx.lo
 have h2:=h.bx.xl
 have h3:=h.lt
 refine ⟨⟨?_,grow_setCellR h.bx.gr _ _ (by simp; omega),?_,h1,h2⟩,yhs h.kb i u,h3,own_setN h.own _ _ (by simp),h.len,AllQ.keep (kept_set _ _ (fun h=>h.1.2.1 rfl)) _ _ h.all,by have:=h.ls; simpa [World.setCell] using this⟩
 · unfold RdAt
   rw [Below.heap_setCell _ _ _ _ (by simp; omega)]
   exact h.bx.rd
 · rw [Below.heap_setCell _ _ _ _ (by simp; omega)]
   exact h.bx.bx
theorem EitM.put4 {X:Nat} {s:ByteArray} {w:World} {B K a:Nat} {x0 x1 x2 x3:Value} {ps:List Pt} {vs:List V4} {lv:Value} {L:Nat} {W:World} (h:EitM X s w B K a #[x0,x1,x2,x3] ps vs lv L W) (u0 u1 u2 u3:Value) :
 EitM X s w B K a #[u0,u1,u2,u3] ps vs lv L ((((W.setCell ⟨K,0,none⟩ u0).setCell ⟨K,1,none⟩ u1).setCell ⟨K,2,none⟩ u2).setCell ⟨K,3,none⟩ u3):=by
 have b:=(((h.put 0 u0).put 1 u1).put 2 u2).put 3 u3
 simp only [xSi,xSs,xSz] at b
 exact b
theorem EitM.lift {X:Nat} {s:ByteArray} {w:World} {B K a:Nat} {C:Array Value} {ps:List Pt} {vs:List V4} {lv:Value} {L:Nat} {W:World} (h:EitM X s w B K a C ps vs lv L W):EitM X s w B K a C ps vs lv W.heap.size W :=
 ⟨h.bx,h.kb,h.lt,h.own,h.len,AllQ.keep (kept_self (fun c hc=>⟨hc.1,by have:=h.ls; omega⟩)) _ _ h.all,Nat.le_refl _⟩
theorem EitM.app {X:Nat} {s:ByteArray} {w:World} {B K a:Nat} {C:Array Value} {ps:List Pt} {vs:List V4} {sa:Option Addr} {sc L:Nat} {W W3:World} {p:Pt} {x:V4} {gg cap1 L0:Nat} {o2:Obj}
 (h:EitM X s w B K a C ps vs (.slice sa vs.length sc) L W) (hp:PtQ (fun c=>L0≤c∧c≠K) W p x.val) (hL0:∀ r,(Value.slice sa vs.length sc).ownBlock=some r→r<L0) (hB0:B<L0)
 (own3:W3.ownsRow (K+1) 28 4 (.slice (some ⟨gg,0,none⟩) (vs.length+1) cap1) (vs.length+1) (v4Cells vs++[x.a,x.b,x.c,x.d]))
 (hg:(W.alloc o2).grownBy W3 (Value.slice sa vs.length sc).ownBlock) (hat:(Value.slice sa vs.length sc).ownBlock=some gg∨gg=W.heap.size+1) :
 EitM X s w B K a C (ps++[p]) (vs++[x]) (.slice (some ⟨gg,0,none⟩) (vs.length+1) cap1) W3.heap.size W3:=by
 have h1:=h.bx.lo
 have h2:=h.bx.xl
 have h3:=h.lt
 have hls:=h.ls
 have M:=h.grow (xG W o2 none)
 have hxs:=xL h.bx.rd
 have hbs:=xL h.bx.bx
 have hks:=xL h.kb
 have hsz3:=hg.size
 have hsz2:(W.alloc o2).heap.size=W.heap.size+1:=by simp
 have hrow:∀ r,(Value.slice sa vs.length sc).ownBlock=some r→K+1≤r:=fun r hr=>(yob h.own r hr).1
 have kA:KeptQ (fun c=>(B+1≤c∧c≠K∧(Value.slice sa vs.length sc).ownBlock≠some c)∧c<L) (fun c=>(B+1≤c∧c≠K∧(Value.slice (some ⟨gg,0,none⟩) (vs.length+1) cap1).ownBlock≠some c)∧c<W3.heap.size) (W.alloc o2) W3 :=
  fun c hc hl=>⟨⟨⟨hc.1.1,hc.1.2.1,fun e=>by
   simp only [Value.ownBlock,Option.some.injEq] at e
   subst e
   rcases hat with h | h
   · exact hc.1.2.2 h
   · omega⟩,by omega⟩,fun _ _ hv=>hg.cell hv (fun e=>hc.1.2.2 e.symm)⟩
 have kP:KeptQ (fun c=>L0≤c∧c≠K) (fun c=>(B+1≤c∧c≠K∧(Value.slice (some ⟨gg,0,none⟩) (vs.length+1) cap1).ownBlock≠some c)∧c<W3.heap.size) W W3 :=
  fun c hc hl=>⟨⟨⟨by omega,hc.2,fun e=>by
   simp only [Value.ownBlock,Option.some.injEq] at e
   subst e
   rcases hat with h | h
   · have:=hL0 _ h; omega
   · omega⟩,by omega⟩,fun _ _ hv=>hg.cell (ycg hv (xG W o2 none)) (fun e=>by have:=hL0 c e.symm; omega)⟩
 refine ⟨⟨?_,?_,?_,h1,h2⟩,?_,h3,?_,by simp [h.len],AllQ.snoc (PtQ.keep kP _ _ hp) _ _ (AllQ.keep kA _ _ M.all),Nat.le_refl _⟩
 · unfold RdAt
   rw [hg.block X (by omega) (fun e=>by have:=hrow X e.symm; omega)]
   exact M.bx.rd
 · exact ⟨hg.os.trans M.bx.gr.os,hg.tape.trans M.bx.gr.tape,hg.output.trans M.bx.gr.output,Nat.le_trans M.bx.gr.size hg.size,fun b hb hr=>(hg.block b (Nat.lt_of_lt_of_le hb M.bx.gr.size) (fun e=>by have:=hrow b e.symm; omega)).trans (M.bx.gr.block b hb hr)⟩
 · rw [hg.block B (by omega) (fun e=>by have:=hrow B e.symm; omega)]
   exact M.bx.bx
 · rw [hg.block K (by omega) (fun e=>by have:=hrow K e.symm; omega)]
   exact M.kb
 · have e:(vs++[x]).length=vs.length+1:=by simp
   rw [e,v4Cells_append]
   exact own3
theorem EitM.node {X:Nat} {s:ByteArray} {w:World} {B K a:Nat} {C:Array Value} {ps:List Pt} {vs:List V4} {sa:Option Addr} {sc L:Nat} {W:World} (h:EitM X s w B K a C ps vs (.slice sa vs.length sc) L W) (o:Int) :
 PtQ (fun c=>B+1≤c) W (.mk o 0 0 ps) (.agg #[.int .i64 o,.int .i64 0,.int .i64 0,.slice sa ps.length sc]):=by
 refine ⟨sa,sc,rfl,?_⟩
 have hlt:=h.lt
 by_cases hn:0<vs.length
 · obtain ⟨g,c,hv,hg,hc⟩:=yoe h.own hn
   simp only [Value.slice.injEq] at hv
   exact .inr ⟨g,0,hv.1,by omega,AllQ.row _ vs 0 (AllQ.keep (kept_self (fun c hc=>hc.1.1)) _ _ h.all) (fun i u hu=>by rw [Nat.zero_add]; exact hc i u hu)⟩
 · left
   have:=h.len
   exact List.eq_nil_of_length_eq_zero (by omega)
theorem EitM.new {X:Nat} {s:ByteArray} {w:World} {B a:Nat} {W:World} {p:Pt} {o l h:Int} {av:Option Addr} {n cap:Nat} (b:BoxR X s w B a #[.int .i64 0,.int .i64 0,.int .i64 0,.slice none 0 0] W) (hp:PtQ (fun c=>B+1≤c) W p (.agg #[.int .i64 o,.int .i64 l,.int .i64 h,.slice av n cap])) :
 EitM X s w B W.heap.size a #[.int .i64 o,.int .i64 l,.int .i64 h,.slice av n cap] [p] [⟨.int .i64 o,.int .i64 l,.int .i64 h,.slice av n cap⟩] (.slice (some ⟨W.heap.size+1,0,none⟩) 1 1) (W.heap.size+2) ((W.alloc (.cells #[.int .i64 o,.int .i64 l,.int .i64 h,.slice av n cap] 28)).alloc (.cells #[.int .i64 o,.int .i64 l,.int .i64 h,.slice av n cap] 28)):=by
 have g1:=xG W (.cells #[.int .i64 o,.int .i64 l,.int .i64 h,.slice av n cap] 28) none
 have g2:=xG (W.alloc (.cells #[.int .i64 o,.int .i64 l,.int .i64 h,.slice av n cap] 28)) (.cells #[.int .i64 o,.int .i64 l,.int .i64 h,.slice av n cap] 28) none
 have hz:(W.alloc (.cells #[.int .i64 o,.int .i64 l,.int .i64 h,.slice av n cap] 28)).heap.size=W.heap.size+1:=by simp
 have hn:=xN (W.alloc (.cells #[.int .i64 o,.int .i64 l,.int .i64 h,.slice av n cap] 28)) (.cells #[.int .i64 o,.int .i64 l,.int .i64 h,.slice av n cap] 28)
 rw [hz] at hn
 refine ⟨(b.grow g1).grow g2,grow_new g2 (xN W _),xL b.bx,⟨rfl,.inr ⟨W.heap.size+1,1,#[.int .i64 o,.int .i64 l,.int .i64 h,.slice av n cap],rfl,Nat.le_refl _,hn,Nat.le_refl _,by unfold maxLen; omega,rfl,rfl⟩⟩,rfl,⟨PtQ.keep (fun c hc hl=>⟨⟨⟨hc,by omega,fun e=>by simp only [Value.ownBlock,Option.some.injEq] at e; omega⟩,by omega⟩,fun _ _ hv=>ycg (ycg hv g1) g2⟩) _ _ hp,trivial⟩,by simp⟩
theorem eit_one {X:Nat} {s:ByteArray} {w W:World} {a a':Nat} {p:Pt} {v:Value} {ok:Bool} (HN:EitN s a [p] ok a') (hp:PtQ (fun c=>w.heap.size≤c) W p v) (R:RdPost X s w a' W):PaPost 0 X s a w (.returned (.tuple #[v,.bool ok])) W:=by
 obtain ⟨h1,h2,h3,h4,h5⟩:=HN
 simp only [ylL,sizes,List.length_cons,List.length_nil,Nat.add_zero] at h3 h4
 exact ⟨p,v,ok,a',rfl,hp,h1,h2,h3,by omega,fun h=>(h5 h).1,R⟩
theorem eit_many {X:Nat} {s:ByteArray} {w W:World} {a a':Nat} {ps:List Pt} {v:Value} {ok:Bool} (HN:EitN s a ps ok a') (hm:ps.length≠1) (hp:PtQ (fun c=>w.heap.size≤c) W (.mk 3 0 0 ps) v) (R:RdPost X s w a' W):PaPost 0 X s a w (.returned (.tuple #[v,.bool ok])) W:=by
 obtain ⟨h1,h2,h3,h4,h5⟩:=HN
 have e1:(Pt.mk 3 0 0 ps).leaves=ylL ps:=by simp [Pt.leaves]
 have e2:(Pt.mk 3 0 0 ps).size=1+sizes ps:=by simp [Pt.size]
 refine ⟨.mk 3 0 0 ps,v,ok,a',rfl,hp,h1,h2,by rw [e1]; exact h3,?_,fun h=>⟨.inr (.inr (.inl rfl)),h5 h⟩,R⟩
 rw [e2]
 rcases ps with _ | ⟨q,ps⟩
 · simp only [sizes]; omega
 · simp only [List.length_cons] at hm h4; omega
theorem eit_step {s:ByteArray} {a a' a4:Nat} {ps:List Pt} {p:Pt} {ok:Bool} (HN:EitN s a ps true a') (hlt:a'<s.size) (hc:pk s a'=124) (f1:a'+1≤a4) (f2:a4≤2*s.size+5-(a'+1)) (hF:AtF s a' p ok a4):EitN s a (ps++[p]) ok a4:=by
 obtain ⟨h1,h2,h3,h4,h5⟩:=HN
 obtain ⟨f3,f4,f5⟩:=hF
 rw [← phi_pass s a' hlt (.inr (.inr hc))] at f3
 simp only [if_true] at h3
 refine ⟨by omega,by omega,by rw [leavesL_snocN]; omega,by rw [sizes_snocN]; simp only [List.length_append,List.length_cons,List.length_nil]; omega,fun h=>WfL.snoc (f5 h) _ (h5 rfl)⟩
theorem either_one (X:Nat) (s:ByteArray) (a:Nat) (w:World) (hX:X<w.heap.size) (h:RdAt w X s a) (hs:s.size≤20) (ha:a≤s.size)
 (HAi:∀ W a',a≤a'→a'≤s.size→RdAt W X s a'→Calls Tryz.prog 114 #[.pointer (some ⟨X,0,none⟩)] W (PaPost 0 X s a' W)):Calls Tryz.prog 100 #[.pointer (some ⟨X,0,none⟩)] w (PaPost 0 X s a w):=by
 have HR:=hid h
 have HA:=hid HAi
 have HX:=hid hX
 clear h HAi hX
 obtain ⟨P,hP⟩:∃ P,PaPost 0 X s a w=P:=⟨_,rfl⟩
 rw [hP]
 have HP:=hid hP
 clear hP
 go_enter Tryz.func100,Tryz.ntmps100
 go_wp2_with fail
 have HB0:=hid (BoxR.new #[.int .i64 0,.int .i64 0,.int .i64 0,.slice none 0 0] HR.out HX.out)
 generalize w.alloc _=w0 at HB0 ⊢
 generalize w.heap.size=B at HB0 ⊢
 refine (HA.out w0 a (Nat.le_refl _) ha HB0.out.rd).mono ?_
 rintro e w2 ⟨p,v,ok,a2,rfl,hp,ha2,hb2,hph,hsz,hwf,R2⟩
 have HPQ:=hid hp
 obtain ⟨o,l,h,av,n,cap,rfl⟩:=PtQ.agg p v hp
 have HB2:=hid (HB0.out.call R2)
 have HN:=hid (show EitN s a [p] ok a2 from ⟨ha2,hb2,by simpa [ylL] using hph,by simp [sizes]; omega,fun h=>⟨hwf h,trivial⟩⟩)
 clear hp ha2 hb2 hph hsz hwf R2
 have HW:=hid (show PtQ (fun c=>B+1≤c) w2 p (.agg #[.int .i64 o,.int .i64 l,.int .i64 h,.slice av n cap]) from PtQ.keep (kept_self (fun c (hc:w0.heap.size≤c)=>by have:=xL HB0.out.bx; omega)) _ _ HPQ.out)
 have HM0:=hid (EitM.new HB2.out HW.out).lift
 clear HW HPQ
 go_wp2_with fail
 generalize (w2.alloc _).alloc _=w3 at HM0 ⊢
 have hk1:w2.heap.size+1=w2.heap.size+1:=rfl
 clear hk1
 go_loopw [5,6] (fun okv lv wr=>∃ (ok:Bool) (ps:List Pt) (vs:List V4) (sa:Option Addr) (sc a':Nat) (o l h:Int) (av:Option Addr) (n cap:Nat),okv=.bool ok∧lv=.slice sa vs.length sc∧Hid (EitM X s w B w2.heap.size a' #[.int .i64 o,.int .i64 l,.int .i64 h,.slice av n cap] ps vs (.slice sa vs.length sc) wr.heap.size wr)∧Hid (EitN s a ps ok a')) (fun _ lv _=>200-lenS lv)
 case atStart=>exact ⟨ok,[p],[⟨.int .i64 o,.int .i64 l,.int .i64 h,.slice av n cap⟩],_,1,a2,o,l,h,av,n,cap,rfl,rfl,HM0,HN⟩
 case round =>
  clear HM0 HN
  generalize w2.heap.size=K at hrel ⊢
  obtain ⟨ok,ps,vs,sa,sc,a',o,l,h,av,n,cap,rfl,rfl,HM,HN⟩:=hrel
  go_wp2_with fail
  go_cut [31] (fun v wx=>∃ bb,v=.bool bb∧Hid (bb=true→ok=true∧a'<s.size∧pk s a'=124)∧∃ k,wx=wr.drewN k)
  case first =>
   obtain ⟨c0,c1,f1⟩:=HM.out.bx.rd.cells
   rcases ok with _ | _
   · go_quiet ((go_at_call 115; exact Calls.quiet_of (peek_any X s a' _ (HM.out.bx.rd.drewN _))))
     go_wp2_with fail
     go_meet
     exact ⟨false,rfl,hid (fun h=>by cases h),_,rfl⟩
   · by_cases h42:pk s a'=124
     · have hq1:(((pk s a').toNat:Int) == 124)=true:=by rw [h42]; rfl
       by_cases hlt:a'<s.size
       · have hb:(a':Int)<(s.size:Int):=by omega
         have HC:=hid (show True∧a'<s.size∧pk s a'=124 from ⟨trivial,hlt,h42⟩)
         have hbn:decide (a'<s.size)=true:=decide_eq_true hlt
         clear h42 hlt
         go_quiet ((go_at_call 115; exact Calls.quiet_of (peek_any X s a' _ (HM.out.bx.rd.drewN _))))
         go_wp2_with fail
         go_meet
         exact ⟨_,rfl,hid (fun _=>⟨by trivial,HC.out.2⟩),_,rfl⟩
       · have hb:decide ((a':Int)<(s.size:Int))=false:=decide_eq_false (by omega)
         have hbn:decide (a'<s.size)=false:=decide_eq_false hlt
         have HC:=hid (show decide (a'<s.size)=false from hbn)
         clear h42 hlt
         go_quiet ((go_at_call 115; exact Calls.quiet_of (peek_any X s a' _ (HM.out.bx.rd.drewN _))))
         go_wp2_with fail
         go_meet
         exact ⟨_,rfl,hid (fun h=>by simp at h),_,rfl⟩
     · have hq1:(((pk s a').toNat:Int) == 124)=false:=pk_ne 124 _ rfl h42
       clear h42
       go_quiet ((go_at_call 115; exact Calls.quiet_of (peek_any X s a' _ (HM.out.bx.rd.drewN _))))
       go_wp2_with fail
       go_meet
       exact ⟨false,rfl,hid (fun h=>by cases h),_,rfl⟩
  case rest =>
   obtain ⟨bb,rfl,HBB,k,rfl⟩:=hcut
   have HM1:=hid ((HM.out.grow (show wr.grownBy (wr.drewN k) none from ⟨rfl,rfl,rfl,Nat.le_refl _,fun _ _ _=>rfl⟩)).lift)
   clear HM
   generalize wr.drewN k=w1 at HM1 ⊢
   rcases bb with _ | _
   · clear HBB HA
     have z0:=(HM1.out.bx.cells 0).2
     have z1:=(HM1.out.bx.cells 1).2
     have z2:=(HM1.out.bx.cells 2).2
     have z3:=(HM1.out.bx.cells 3).2
     have g0:=(HM1.out.bx.cells 0).1
     have g1:=(HM1.out.bx.cells 1).1
     have g2:=(HM1.out.bx.cells 2).1
     have g3:=(HM1.out.bx.cells 3).1
     simp only [xGe,xGz,xGs] at g0 g1 g2 g3
     have HLO:=hid HM1.out.bx.lo
     by_cases h1:vs.length=1
     · obtain ⟨p,rfl⟩:∃ p,ps=[p]:=List.length_eq_one_iff.1 (by rw [← HM1.out.len]; exact h1)
       obtain ⟨x,rfl⟩:∃ x,vs=[x]:=List.length_eq_one_iff.1 h1
       clear h1
       have hall:=HM1.out.all.1
       obtain ⟨xa,xb,xc,xd⟩:=x
       obtain ⟨o2,l2,h2,av2,n2,cap2,hv⟩:=PtQ.agg _ _ hall
       simp only [V4.val,Value.agg.injEq,Array.mk.injEq,List.cons.injEq,and_true] at hv
       obtain ⟨rfl,rfl,rfl,rfl⟩:=hv
       obtain ⟨g,c,hsl,hgB,hcell⟩:=yoe HM1.out.own (by simp)
       simp only [Value.slice.injEq] at hsl
       obtain ⟨rfl,_,rfl⟩:=hsl
       have e0:=hcell 0 (.int .i64 o2) rfl
       have e1:=hcell 1 (.int .i64 l2) rfl
       have e2:=hcell 2 (.int .i64 h2) rfl
       have e3:=hcell 3 (.slice av2 n2 cap2) rfl
       have HP7:=hid (show PtQ (fun c=>B+1≤c) w1 p (.agg #[.int .i64 o2,.int .i64 l2,.int .i64 h2,.slice av2 n2 cap2]) from PtQ.keep (kept_self (fun c hc=>hc.1.1)) _ _ hall)
       have hlt:=HM1.out.lt
       have hn1:¬ g=B:=by omega
       have hn2:¬ B=g:=by omega
       clear hall hcell
       simp only [List.length_cons,List.length_nil]
       go_wp2_with fail
       have HB8:=hid (HM1.out.bx.set4 (.int .i64 o2) (.int .i64 l2) (.int .i64 h2) (.slice av2 n2 cap2))
       have HP8:=hid (PtQ.set4 (B:=B) HP7.out (fun h=>by omega) (.int .i64 o2) (.int .i64 l2) (.int .i64 h2) (.slice av2 n2 cap2))
       clear g0 g1 g2 g3 z0 z1 z2 z3
       generalize World.setCell _ _ _=w8 at HB8 HP8 ⊢
       have f0:=(HB8.out.cells 0).1
       have f1:=(HB8.out.cells 1).1
       have f2:=(HB8.out.cells 2).1
       have f3:=(HB8.out.cells 3).1
       simp only [xGe,xGz,xGs] at f0 f1 f2 f3
       rw [← HP.out]
       exact bodyPost_ret (v:=.tuple #[.agg #[.int .i64 o2,.int .i64 l2,.int .i64 h2,.slice av2 n2 cap2],.bool ok]) (by simp [results,Tryz.results100,go_sem,f0,f1,f2,f3]) rfl (eit_one HN.out (PtQ.keep (kept_self (fun c hc=>by have:=HLO.out; omega)) _ _ HP8.out) HB8.out.post)
     · have hm1:ps.length≠1:=by rw [← HM1.out.len]; exact h1
       have HP7:=hid (EitM.node HM1.out 3)
       have hl1:vs.length=ps.length:=HM1.out.len
       rw [hl1]
       clear hl1 h1
       have HMN:=hid hm1
       obtain ⟨m,hm⟩:∃ m,ps.length=m:=⟨_,rfl⟩
       rw [hm] at hm1 HP7 ⊢
       have HL:=hid hm
       clear hm
       have q1:((m:Int) == 1)=false:=beq_eq_false_iff_ne.2 (by omega)
       go_wp2_with fail
       have HB8:=hid (HM1.out.bx.set4 (.int .i64 3) (.int .i64 0) (.int .i64 0) (.slice sa m sc))
       have HP8:=hid (PtQ.set4 (B:=B) HP7.out (fun h=>by omega) (.int .i64 3) (.int .i64 0) (.int .i64 0) (.slice sa m sc))
       clear g0 g1 g2 g3 z0 z1 z2 z3
       generalize World.setCell _ _ _=w8 at HB8 HP8 ⊢
       have f0:=(HB8.out.cells 0).1
       have f1:=(HB8.out.cells 1).1
       have f2:=(HB8.out.cells 2).1
       have f3:=(HB8.out.cells 3).1
       simp only [xGe,xGz,xGs] at f0 f1 f2 f3
       rw [← HP.out]
       exact bodyPost_ret (v:=.tuple #[.agg #[.int .i64 3,.int .i64 0,.int .i64 0,.slice sa m sc],.bool ok]) (by simp [results,Tryz.results100,go_sem,f0,f1,f2,f3]) rfl (eit_many HN.out HMN.out (PtQ.keep (kept_self (fun c hc=>by have:=HLO.out; omega)) _ _ HP8.out) HB8.out.post)
   · obtain ⟨hok,hlt3,h42⟩:=HBB.out rfl
     subst hok
     have hge:=HN.out.1
     have HC:=hid (And.intro hlt3 h42)
     obtain ⟨c0,c1,f1⟩:=HM1.out.bx.rd.cells
     have hS1:IntKind.i64.wrap ((a':Int)+1)=((a'+1:Nat):Int):=(xI _ (by omega)).trans (by omega)
     clear h42
     go_wp2_with fail
     have HM4:=hid (HM1.out.step (a'+1) ((a':Int)+1) (by omega)).lift
     clear c0 c1 f1 hS1
     generalize World.setCell _ _ _=w4 at HM4 ⊢
     refine (HA.out w4 (a'+1) (by omega) (by omega) HM4.out.bx.rd).mono ?_
     rintro e w5 ⟨p2,v2,ok2,a4,rfl,hp2,ha4,hb4,hph,hsz,hwf,R5⟩
     have HPQ:=hid hp2
     obtain ⟨o2,l2,h2,av2,n2,cap2,rfl⟩:=PtQ.agg p2 v2 hp2
     have HM5:=hid (HM4.out.call R5)
     have HN6:=hid (eit_step HN.out HC.out.1 HC.out.2 ha4 hb4 (show AtF s a' p2 ok2 a4 from ⟨hph,hsz,hwf⟩))
     clear hp2 ha4 hb4 hph hsz hwf R5
     obtain ⟨z0,z1,z2,z3⟩:=fb4 HM5.out.kb
     obtain ⟨g0,g1,g2,g3⟩:=cb4 HM5.out.kb
     have hKw:K<w4.heap.size:=xL HM4.out.kb
     have hBw:B<w4.heap.size:=xL HM4.out.bx.bx
     have HP6:=hid (PtQ.set4 (B:=K) (Q:=fun c=>w4.heap.size≤c∧c≠K) (PtQ.keep (kept_self (fun c hc=>⟨hc,by omega⟩)) _ _ HPQ.out) (fun h=>h.2 rfl) (.int .i64 o2) (.int .i64 l2) (.int .i64 h2) (.slice av2 n2 cap2))
     have HM6:=hid (HM5.out.put4 (.int .i64 o2) (.int .i64 l2) (.int .i64 h2) (.slice av2 n2 cap2))
     obtain ⟨W6,hW6⟩:∃ W6,W6=((((w5.setCell ⟨K,0,none⟩ (.int .i64 o2)).setCell ⟨K,1,none⟩ (.int .i64 l2)).setCell ⟨K,2,none⟩ (.int .i64 h2)).setCell ⟨K,3,none⟩ (.slice av2 n2 cap2)):=⟨_,rfl⟩
     have hz6:W6.heap.size=w5.heap.size:=by rw [hW6]; simp [World.setCell]
     rw [← hW6] at HM6 HP6
     have HW6:=hid hW6
     have HZ6:=hid hz6
     have HCN:=hid (show ∀ j u,[.int .i64 o2,.int .i64 l2,.int .i64 h2,.slice av2 n2 cap2][j]? = some u→(W6.alloc (.cells #[.int .i64 o2,.int .i64 l2,.int .i64 h2,.slice av2 n2 cap2] 28)).cell? (Addr.add ⟨w5.heap.size,0,none⟩ j)=some u from by rw [← hz6]; exact cells_new W6 [.int .i64 o2,.int .i64 l2,.int .i64 h2,.slice av2 n2 cap2] 28)
     have HOB:=hid (show ∀ r,(Value.slice sa vs.length sc).ownBlock=some r→r<w4.heap.size from fun r hr=>by obtain ⟨_,cc,hcc⟩:=yob HM4.out.own r hr; exact xL hcc)
     have hKs:K<W6.heap.size:=xL HM6.out.kb
     clear hW6 hz6
     obtain ⟨i1,hi1,hy0,hy1,hy2⟩:=info_parts info28
     have hlen:vs.length≤100:=(by have h1:=HN.out.2.2.2.1; have h2:=HN.out.2.1; have h3:=HM5.out.len; omega)
     go_wp2_with (at_builtin; rw [← HW6.out]; refine wpList_append_lies _ rfl _ _ 26 rfl (K+1) 28 i1 (.agg #[.int .i64 0,.int .i64 0,.int .i64 0,.slice none 0 0]) 4 48 Tryz.underlying26 hi1 hy0 hy1 hy2 rfl (by omega) _ _ _ rfl (own_grownN HM6.out.own (xG W6 _ none) (fun r hr=>by cases hr)) ⟨w5.heap.size,0,none⟩ 1 1 [.int .i64 o2,.int .i64 l2,.int .i64 h2,.slice av2 n2 cap2] rfl rfl HCN.out (by simp [Value.oneCell']) (by omega) (by unfold maxLen; omega) (by omega) (by simp; omega) (W6.heap.size+1) (by simp) ?_; intro gg capg w7 hown2 hgrow2 hat2 hlt2; have HG2:=hid hgrow2; have HAT2:=hid hat2; have HO2:=hid hown2; clear hgrow2 hat2 hown2)
     have HM7:=hid (EitM.app (x:=⟨.int .i64 o2,.int .i64 l2,.int .i64 h2,.slice av2 n2 cap2⟩) HM6.out HP6.out HOB.out hBw HO2.out HG2.out HAT2.out)
     have e:(vs++[(⟨.int .i64 o2,.int .i64 l2,.int .i64 h2,.slice av2 n2 cap2⟩:V4)]).length=vs.length+1:=by simp
     refine ⟨⟨ok2,ps++[p2],vs++[⟨.int .i64 o2,.int .i64 l2,.int .i64 h2,.slice av2 n2 cap2⟩],some ⟨gg,0,none⟩,capg,a4,o2,l2,h2,av2,n2,cap2,rfl,by rw [e],by rw [e]; exact HM7,HN6⟩,?_⟩
     show 200-(vs.length+1)<200-vs.length
     omega
theorem either_any (X:Nat) (s:ByteArray) (hs:s.size≤20) (hE:EscOk s):∀ n a w,s.size-a≤n→a≤s.size→RdAt w X s a→Calls Tryz.prog 100 #[.pointer (some ⟨X,0,none⟩)] w (PaPost 0 X s a w):=by
 intro n
 induction n with
 | zero=>exact fun a w hn ha h=>either_one X s a w (xL h) h hs ha (fun W a' h1 h2 hr=>row_any X s a' W (xL hr) hr hs h2 (fun W2 a2 g1 g2 _ _ _=>absurd g2 (by omega)))
 | succ n ih=>exact fun a w hn ha h=>either_one X s a w (xL h) h hs ha (fun W a' h1 h2 hr=>row_any X s a' W (xL hr) hr hs h2 (fun W2 a2 g1 g2 g3 g4 hr2=>atom_any X s a2 W2 (xL hr2) hr2 hE hs g2 g3 g4 (fun W3 a3 k1 k2 hr3=>ih a3 W3 (by omega) k2 hr3)))
theorem escOk_of (s:ByteArray) (h:∀ a,a<s.size→pk s a=92→a+2<s.size→HexOk (s.extract (a+1) (a+3))):EscOk s:=fun a h1 h2=>h a (by omega) h1 h2
instance (t:ByteArray):Decidable (HexOk t):=by unfold HexOk; infer_instance
def patS0:ByteArray:=⟨#[91,48,45,57,93,91,48,45,57,93,42]⟩
theorem patS0_phi:phi patS0 0=3:=by decide
theorem patS0_esc:EscOk patS0:=escOk_of _ (by decide)
def patS1:ByteArray:=⟨#[43]⟩
theorem patS1_phi:phi patS1 0=1:=by decide
theorem patS1_esc:EscOk patS1:=escOk_of _ (by decide)
def patS2:ByteArray:=⟨#[92,50,56]⟩
theorem patS2_phi:phi patS2 0=1:=by decide
theorem patS2_esc:EscOk patS2:=escOk_of _ (by decide)
def patS3:ByteArray:=⟨#[92,50,57]⟩
theorem patS3_phi:phi patS3 0=1:=by decide
theorem patS3_esc:EscOk patS3:=escOk_of _ (by decide)
def patS4:ByteArray:=⟨#[91,97,45,122,93,91,97,45,122,93,42]⟩
theorem patS4_phi:phi patS4 0=3:=by decide
theorem patS4_esc:EscOk patS4:=escOk_of _ (by decide)
def patS5:ByteArray:=⟨#[105,102]⟩
theorem patS5_phi:phi patS5 0=2:=by decide
theorem patS5_esc:EscOk patS5:=escOk_of _ (by decide)
def patS6:ByteArray:=⟨#[46,46,124,46,46,46]⟩
theorem patS6_phi:phi patS6 0=5:=by decide
theorem patS6_esc:EscOk patS6:=escOk_of _ (by decide)
def patS7:ByteArray:=⟨#[92,50,48,92,50,48,42]⟩
theorem patS7_phi:phi patS7 0=3:=by decide
theorem patS7_esc:EscOk patS7:=escOk_of _ (by decide)
def patS8:ByteArray:=⟨#[92,48,97]⟩
theorem patS8_phi:phi patS8 0=1:=by decide
theorem patS8_esc:EscOk patS8:=escOk_of _ (by decide)
def patS9:ByteArray:=⟨#[35,40,91,97,45,122,93,124,92,50,48,41,42]⟩
theorem patS9_phi:phi patS9 0=4:=by decide
theorem patS9_esc:EscOk patS9:=escOk_of _ (by decide)
def patS10:ByteArray:=⟨#[34,91,97,45,99,93,42,34]⟩
theorem patS10_phi:phi patS10 0=4:=by decide
theorem patS10_esc:EscOk patS10:=escOk_of _ (by decide)
theorem inner_any (T:Nat) (hT:T≤100000) (o l h:Int) (av:Option Addr) (n cap:Nat) (g m:Nat) (zs:List Int) (w:World) (hm:m=zs.length) (hm2:m≤10) (hz:∀ j,j<zs.length→w.cell? ⟨g,0+j,none⟩=some (.int .i64 (zs.getD j 0)))
 (HT:∀ W,w.grownBy W none→Calls Tryz.prog 101 #[.agg #[.int .i64 o,.int .i64 l,.int .i64 h,.slice av n cap]] W (StrPost T W)) :
 Calls Tryz.prog 116 #[.agg #[.int .i64 o,.int .i64 l,.int .i64 h,.slice av n cap],.slice (some ⟨g,0,none⟩) m m] w (StrPost (T+2) w):=by
 obtain ⟨P,hP⟩:∃ P,StrPost (T+2) w=P:=⟨_,rfl⟩
 rw [hP]
 have HP:=hid hP
 have HTT:=hid HT
 have HC:Hid (∀ W,w.grownBy W none→Calls Tryz.prog 63 #[.slice (some ⟨g,0,none⟩) m m,.int .i64 o] W fun e w'=>e=.returned (.bool ((zs.take m).contains o))∧w'=W):=hid (fun W gr=>Tryz.slices_Contains_int g 0 m m zs o W (by omega) (by omega) (fun j hj=>ycg (hz j hj) gr))
 clear hP HT hz hm
 generalize (zs.take m).contains o=cb at HC
 go_enter Tryz.func116,Tryz.ntmps116
 go_wp2_with fail
 have HG:=hid (xG w (.cells #[.int .i64 o,.int .i64 l,.int .i64 h,.slice av n cap] 28) none)
 have HB:=hid (xN w (.cells #[.int .i64 o,.int .i64 l,.int .i64 h,.slice av n cap] 28))
 generalize w.alloc _=w1 at HG HB ⊢
 generalize w.heap.size=B at HB ⊢
 refine (HC.out w1 HG.out).mono ?_
 rintro e w0 ⟨rfl,rfl⟩
 obtain ⟨e0,e1,e2,e3⟩:=cb4 HB.out
 rcases cb with _ | _
 · go_wp2_with fail
   refine (HTT.out w0 HG.out).mono ?_
   rintro e w2 ⟨x,rfl,hx,g2⟩
   go_wp2_with fail
   rw [← HP.out]
   exact ⟨x,rfl,by omega,xT HG.out g2⟩
 · by_cases ho:o=2
   · have hq:(o == 2)=true:=beq_iff_eq.2 ho
     clear ho
     by_cases hn:n=0
     · subst hn
       go_wp2_with fail
       refine (HTT.out w0 HG.out).mono ?_
       rintro e w2 ⟨x,rfl,hx,g2⟩
       go_wp2_with fail
       rw [← HP.out]
       exact ⟨x,rfl,by omega,xT HG.out g2⟩
     · have hq2:((n:Int) == 0)=false:=beq_eq_false_iff_ne.2 (by omega)
       go_wp2_with fail
       refine (HTT.out w0 HG.out).mono ?_
       rintro e w2 ⟨x,rfl,hx,g2⟩
       have hx2:x.size≤100000:=by omega
       go_wp2_with fail
       rw [← HP.out]
       exact ⟨_,rfl,by simp only [ByteArray.size_append]; have:(ByteArray.size ⟨#[40]⟩)=1:=rfl; have:(ByteArray.size ⟨#[41]⟩)=1:=rfl; omega,xT HG.out g2⟩
   · have hq:(o == 2)=false:=beq_eq_false_iff_ne.2 ho
     clear ho
     go_wp2_with fail
     refine (HTT.out w0 HG.out).mono ?_
     rintro e w2 ⟨x,rfl,hx,g2⟩
     have hx2:x.size≤100000:=by omega
     go_wp2_with fail
     rw [← HP.out]
     exact ⟨_,rfl,by simp only [ByteArray.size_append]; have:(ByteArray.size ⟨#[40]⟩)=1:=rfl; have:(ByteArray.size ⟨#[41]⟩)=1:=rfl; omega,xT HG.out g2⟩
theorem patText_leaf (l h:Nat) (hl:l≤255) (hh:h≤255) (av:Option Addr) (n cap:Nat) (w:World):Calls Tryz.prog 101 #[.agg #[.int .i64 1,.int .i64 l,.int .i64 h,.slice av n cap]] w (StrPost 12 w):=by
 obtain ⟨P,hP⟩:∃ P,StrPost 12 w=P:=⟨_,rfl⟩
 rw [hP]
 have HP:=hid hP
 clear hP
 by_cases he:l=h
 · subst he
   go_enter Tryz.func101,Tryz.ntmps101
   go_wp2_with fail
   have HG:=hid (xG w (.cells #[.int .i64 1,.int .i64 l,.int .i64 l,.slice av n cap] 28) none)
   generalize w.alloc _=w1 at HG ⊢
   refine (byteText_any l hl w1).mono ?_
   rintro e w2 ⟨x,rfl,hx,g2⟩
   go_wp2_with fail
   rw [← HP.out]
   exact ⟨x,rfl,by omega,xT HG.out g2⟩
 · have hq:((l:Int) == (h:Int))=false:=beq_eq_false_iff_ne.2 (by omega)
   clear he
   go_enter Tryz.func101,Tryz.ntmps101
   go_wp2_with fail
   have HG:=hid (xG w (.cells #[.int .i64 1,.int .i64 l,.int .i64 h,.slice av n cap] 28) none)
   have HB:=hid (xN w (.cells #[.int .i64 1,.int .i64 l,.int .i64 h,.slice av n cap] 28))
   generalize w.alloc _=w1 at HG HB ⊢
   generalize w.heap.size=B at HB ⊢
   have e1:=xC HB.out 1
   have e2:=xC HB.out 2
   simp only [xGe,xGz,xGs] at e1 e2
   go_cut [2] (fun v wx=>∃ t:ByteArray,v=.string t∧t.size≤9∧Hid (w.grownBy wx none))
   case first =>
    go_region_law (first | (have tok:=g2; go_simp; go_at_call 117; refine (byteText_any h hh _).mono ?_; rintro e w3 ⟨y,rfl,hy,g3⟩; have t3:¬ 9223372036854775807<1+x.size+1+y.size:=(by omega); have t4:¬ 9223372036854775807<1+x.size+1+y.size+1:=(by omega); have a1:=ycg d1 g3; have a2:=ycg d2 g3; have HG3:=hid (xT HG2.out g3)) | (go_simp; go_at_call 117; refine (byteText_any l hl _).mono ?_; rintro e w2 ⟨x,rfl,hx,g2⟩; have t1:¬ 9223372036854775807<1+x.size:=(by omega); have t2:¬ 9223372036854775807<1+x.size+1:=(by omega); have d1:=ycg (show w1.drew.cell? ⟨B,1,none⟩=some (.int .i64 l) from e1) g2; have d2:=ycg (show w1.drew.cell? ⟨B,2,none⟩=some (.int .i64 h) from e2) g2; have HG2:=hid (xT HG.out (grow_undrew g2))))
    all_goals (go_wp2_with fail; go_meet)
    all_goals exact ⟨_,rfl,by simp only [ByteArray.size_append]; have:(ByteArray.size ⟨#[91]⟩)=1:=rfl; have:(ByteArray.size ⟨#[93]⟩)=1:=rfl; have:(ByteArray.size ⟨#[45]⟩)=1:=rfl; omega,HG3⟩
   case rest =>
    obtain ⟨t,rfl,ht,HG4⟩:=hcut
    go_wp2_with fail
    rw [← HP.out]
    exact ⟨t,rfl,by omega,HG4.out⟩
theorem patText_star (T:Nat) (hT:T≤100000) (l h:Int) (p:Pt) (v:Value) (w:World) (hv:PtAt w (.mk 4 l h [p]) v) (HT:∀ W u,PtAt W p u→Calls Tryz.prog 101 #[u] W (StrPost T W)):Calls Tryz.prog 101 #[v] w (StrPost (T+3) w):=by
 obtain ⟨P,hP⟩:∃ P,StrPost (T+3) w=P:=⟨_,rfl⟩
 rw [hP]
 have HP:=hid hP
 clear hP
 obtain ⟨av,cap,rfl,ha⟩:=hv
 obtain ⟨b,off,o2,l2,h2,av2,n2,cap2,rfl,e0,e1,e2,e3,hp⟩:=PtAt.elem ha 0 (by simp)
 have HPE:=hid hp
 have HTT:=hid HT
 clear ha HT hp
 simp only [Nat.zero_mul,Nat.add_zero] at e0 e1 e2 e3
 simp only [List.length_cons,List.length_nil,List.getElem_cons_zero] at HPE ⊢
 have d0:=fun o=>ycg e0 (xG w o none)
 have d1:=fun o=>ycg e1 (xG w o none)
 have d2:=fun o=>ycg e2 (xG w o none)
 have d3:=fun o=>ycg e3 (xG w o none)
 go_enter Tryz.func101,Tryz.ntmps101
 go_wp2_with fail
 have hc:=cells_new2 w (.cells #[.int .i64 4,.int .i64 l,.int .i64 h,.slice (some ⟨b,off,none⟩) 1 cap] 28) [.int .i64 2,.int .i64 3] 3
 have HG:=hid (xT (xG w (.cells #[.int .i64 4,.int .i64 l,.int .i64 h,.slice (some ⟨b,off,none⟩) 1 cap] 28) none) (xG _ (.cells #[.int .i64 2,.int .i64 3] 3) none))
 generalize (w.alloc _).alloc _=w1 at HG hc ⊢
 generalize w.heap.size+1=B at hc ⊢
 have HPW:=hid (PtAt.grow HG.out _ _ HPE.out)
 refine (inner_any T hT o2 l2 h2 av2 n2 cap2 B 2 [2,3] w1 rfl (by omega) (fun j hj=>?_) (fun W gr=>HTT.out W _ (PtAt.grow gr _ _ HPW.out))).mono ?_
 · match j,hj with
   | 0,_=>simpa [Addr.add] using hc 0 (.int .i64 2) rfl
   | 1,_=>simpa [Addr.add] using hc 1 (.int .i64 3) rfl
 · rintro e w2 ⟨x,rfl,hx,g2⟩
   have hx2:x.size≤1000000:=by omega
   go_wp2_with fail
   rw [← HP.out]
   exact ⟨_,rfl,by simp only [ByteArray.size_append]; have:(ByteArray.size ⟨#[42]⟩)=1:=rfl; omega,xT HG.out g2⟩
end Go.Proofs.YtplbacfjmajeeaaGreatDoor
