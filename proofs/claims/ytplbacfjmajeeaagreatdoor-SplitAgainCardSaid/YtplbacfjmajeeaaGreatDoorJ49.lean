import Derived.Test.YtplbacfjmajeeaaGreatDoorJ48
namespace Go.Proofs.YtplbacfjmajeeaaGreatDoor
open Go.Lib (hid)
set_option maxHeartbeats 4000000
set_option maxRecDepth 100000
open Go.RowKit
structure RowM (X:Nat) (s:ByteArray) (w:World) (B a:Nat) (ps:List Pt) (vs:List V4) (lv:Value) (L:Nat) (W:World):Prop where
 bx:BoxR X s w B a #[.int .i64 0,.int .i64 0,.int .i64 0,.slice none 0 0] W
 own:W.ownsRow (B+1) 28 4 lv vs.length (v4Cells vs)
 len:vs.length=ps.length
 all:AllQ (fun c=>(B+1≤c∧lv.ownBlock≠some c)∧c<L) W ps vs
 ub:∀ r,lv.ownBlock=some r→r<L
 ls:L≤W.heap.size
theorem RowM.grow {X:Nat} {s:ByteArray} {w:World} {B a:Nat} {ps:List Pt} {vs:List V4} {lv:Value} {L:Nat} {W W':World} (h:RowM X s w B a ps vs lv L W) (g:W.grownBy W' none):RowM X s w B a ps vs lv L W' :=
 ⟨h.bx.grow g,own_grownN h.own g (fun r hr=>by cases hr),h.len,AllQ.keep (kept_grown g (fun r hr=>by cases hr) (fun _ h _=>h)) _ _ h.all,h.ub,Nat.le_trans h.ls g.size⟩
theorem RowM.call {X:Nat} {s:ByteArray} {w:World} {B a a2:Nat} {ps:List Pt} {vs:List V4} {lv:Value} {L:Nat} {W W':World} (h:RowM X s w B a ps vs lv L W) (R:RdPost X s W a2 W'):RowM X s w B a2 ps vs lv L W':=by
 have h1:=h.bx.lo
 have h2:=h.bx.xl
 exact ⟨h.bx.call R,own_grownN h.own R.2 (fun r hr=>by have:X=r:=(by simpa using hr); omega),h.len,AllQ.keep (kept_grown R.2 (fun r hr hq=>by have:X=r:=(by simpa using hr); omega) (fun _ h _=>h)) _ _ h.all,h.ub,Nat.le_trans h.ls R.2.size⟩
theorem own_setX {w:World} {base:Nat} {e:TypeId} {size:Nat} {v:Value} {n:Nat} {xs:List Value} (h:w.ownsRow base e size v n xs) (p:Addr) (u:Value) (hp:v.ownBlock≠some p.block):(w.setCell p u).ownsRow base e size v n xs:=by
 refine ⟨h.1,?_⟩
 rcases h.2 with h2 | ⟨gg,cap,cur,hv,hg,hh,r⟩
 · exact Or.inl h2
 · refine Or.inr ⟨gg,cap,cur,hv,hg,by rw [Below.heap_setCell _ _ _ _ (fun e=>hp (by rw [hv,← e]; rfl))]; exact hh,r⟩
theorem RowM.other {X:Nat} {s:ByteArray} {w:World} {B a:Nat} {ps:List Pt} {vs:List V4} {lv:Value} {L:Nat} {W:World} (h:RowM X s w B a ps vs lv L W) (p:Addr) (u:Value) (hp:L≤p.block) (hB:B<L):RowM X s w B a ps vs lv L (W.setCell p u):=by
 have h1:=h.bx.lo
 have h2:=h.bx.xl
 refine ⟨⟨?_,grow_setCellR h.bx.gr _ _ (by omega),?_,h1,h2⟩,own_setX h.own _ _ (fun e=>by have:=h.ub _ e; omega),h.len,AllQ.keep (kept_set _ _ (fun h=>by omega)) _ _ h.all,h.ub,by have:=h.ls; simpa [World.setCell] using this⟩
 · unfold RdAt
   rw [Below.heap_setCell _ _ _ _ (by omega)]
   exact h.bx.rd
 · rw [Below.heap_setCell _ _ _ _ (by omega)]
   exact h.bx.bx
theorem RowM.step {X:Nat} {s:ByteArray} {w:World} {B a:Nat} {ps:List Pt} {vs:List V4} {lv:Value} {L:Nat} {W:World} (h:RowM X s w B a ps vs lv L W) (n:Nat) (z:Int) (hz:z=n):RowM X s w B n ps vs lv L (W.setCell ⟨X,1,none⟩ (.int .i64 z)):=by
 subst hz
 exact h.call (h.bx.rd.step n)
theorem RowM.lift {X:Nat} {s:ByteArray} {w:World} {B a:Nat} {ps:List Pt} {vs:List V4} {lv:Value} {L L':Nat} {W:World} (h:RowM X s w B a ps vs lv L W) (h1:L≤L') (h2:L'≤W.heap.size):RowM X s w B a ps vs lv L' W :=
 ⟨h.bx,h.own,h.len,AllQ.keep (kept_self (fun c hc=>⟨hc.1,by omega⟩)) _ _ h.all,fun r hr=>Nat.lt_of_lt_of_le (h.ub r hr) h1,h2⟩
theorem RowM.app {X:Nat} {s:ByteArray} {w:World} {B a:Nat} {ps:List Pt} {vs:List V4} {sa:Option Addr} {sc L:Nat} {W W3:World} {p:Pt} {x:V4} {gg cap1 L0:Nat} {o2:Obj}
 (h:RowM X s w B a ps vs (.slice sa vs.length sc) L W) (hp:PtQ (fun c=>L0≤c) W p x.val) (hL0:L≤L0) (hB0:B<L0)
 (own3:W3.ownsRow (B+1) 28 4 (.slice (some ⟨gg,0,none⟩) (vs.length+1) cap1) (vs.length+1) (v4Cells vs++[x.a,x.b,x.c,x.d]))
 (hg:(W.alloc o2).grownBy W3 (Value.slice sa vs.length sc).ownBlock) (hat:(Value.slice sa vs.length sc).ownBlock=some gg∨gg=W.heap.size+1) :
 RowM X s w B a (ps++[p]) (vs++[x]) (.slice (some ⟨gg,0,none⟩) (vs.length+1) cap1) W3.heap.size W3:=by
 have h1:=h.bx.lo
 have h2:=h.bx.xl
 have hls:=h.ls
 have M:=h.grow (xG W o2 none)
 have hxs:=xL h.bx.rd
 have hbs:=xL h.bx.bx
 have hsz3:=hg.size
 have hrow:∀ r,(Value.slice sa vs.length sc).ownBlock=some r→B+1≤r∧r<L:=fun r hr=>⟨(yob h.own r hr).1,h.ub r hr⟩
 have kA:KeptQ (fun c=>(B+1≤c∧(Value.slice sa vs.length sc).ownBlock≠some c)∧c<L) (fun c=>(B+1≤c∧(Value.slice (some ⟨gg,0,none⟩) (vs.length+1) cap1).ownBlock≠some c)∧c<W3.heap.size) (W.alloc o2) W3 :=
  fun c hc hl=>⟨⟨⟨hc.1.1,fun e=>by
   simp only [Value.ownBlock,Option.some.injEq] at e
   subst e
   rcases hat with h | h
   · exact hc.1.2 h
   · omega⟩,by omega⟩,fun _ _ hv=>hg.cell hv (fun e=>hc.1.2 e.symm)⟩
 have kP:KeptQ (fun c=>L0≤c) (fun c=>(B+1≤c∧(Value.slice (some ⟨gg,0,none⟩) (vs.length+1) cap1).ownBlock≠some c)∧c<W3.heap.size) W W3 :=
  fun c hc hl=>⟨⟨⟨by omega,fun e=>by
   simp only [Value.ownBlock,Option.some.injEq] at e
   subst e
   rcases hat with h | h
   · have:=hrow _ h; omega
   · omega⟩,by have:(W.alloc o2).heap.size=W.heap.size+1:=(by simp); omega⟩,fun _ _ hv=>hg.cell (ycg hv (xG W o2 none)) (fun e=>by have:=hrow c e.symm; omega)⟩
 refine ⟨⟨?_,?_,?_,h1,h2⟩,?_,by simp [h.len],AllQ.snoc (PtQ.keep kP _ _ hp) _ _ (AllQ.keep kA _ _ M.all),?_,Nat.le_refl _⟩
 · unfold RdAt
   rw [hg.block X (by have:(W.alloc o2).heap.size=W.heap.size+1:=(by simp); omega) (fun e=>by have:=hrow X e.symm; omega)]
   exact M.bx.rd
 · exact ⟨hg.os.trans M.bx.gr.os,hg.tape.trans M.bx.gr.tape,hg.output.trans M.bx.gr.output,Nat.le_trans M.bx.gr.size hg.size,fun b hb hr=>(hg.block b (Nat.lt_of_lt_of_le hb M.bx.gr.size) (fun e=>by have:=hrow b e.symm; omega)).trans (M.bx.gr.block b hb hr)⟩
 · rw [hg.block B (by have:(W.alloc o2).heap.size=W.heap.size+1:=(by simp); omega) (fun e=>by have:=hrow B e.symm; omega)]
   exact M.bx.bx
 · have e:(vs++[x]).length=vs.length+1:=by simp
   rw [e,v4Cells_append]
   exact own3
 · intro r hr
   simp only [Value.ownBlock,Option.some.injEq] at hr
   subst hr
   obtain ⟨_,cc,hcc⟩:=yob own3 gg rfl
   exact xL hcc
theorem star_at {Q:Nat→Prop} {W:World} {p:Pt} {x:V4} {g:Nat} (hp:PtQ Q W p x.val) (hg:W.heap[g]? = some (.cells #[x.a,x.b,x.c,x.d] 28 (0,0))) (hQ:Q g) (n:Nat) :
 PtQ Q W (.mk 4 0 0 [p]) (.agg #[.int .i64 4,.int .i64 0,.int .i64 0,.slice (some ⟨g,0,none⟩) 1 n]) :=
 ⟨some ⟨g,0,none⟩,n,rfl,.inr ⟨g,0,rfl,hQ,⟨x.val,⟨x.a,x.b,x.c,x.d,rfl,by rw [xC hg]; rfl,by rw [xC hg]; rfl,by rw [xC hg]; rfl,by rw [xC hg]; rfl⟩,hp⟩,trivial⟩⟩
theorem star_leaves (p:Pt):(Pt.mk 4 0 0 [p]).leaves=p.leaves:=by simp [Pt.leaves,ylL]
theorem star_size (p:Pt):(Pt.mk 4 0 0 [p]).size=p.size+1:=by simp [Pt.size,sizes]; omega
theorem star_wf {p:Pt} (h:Wf p):Wf (.mk 4 0 0 [p]):=⟨.inr (.inr (.inr ⟨rfl,rfl⟩)),h,trivial⟩
theorem RowM.node {X:Nat} {s:ByteArray} {w:World} {B a:Nat} {ps:List Pt} {vs:List V4} {sa:Option Addr} {sc L:Nat} {W:World} (h:RowM X s w B a ps vs (.slice sa vs.length sc) L W) (o:Int) :
 PtQ (fun c=>B+1≤c) W (.mk o 0 0 ps) (.agg #[.int .i64 o,.int .i64 0,.int .i64 0,.slice sa ps.length sc]):=by
 refine ⟨sa,sc,rfl,?_⟩
 by_cases hn:0<vs.length
 · obtain ⟨g,c,hv,hg,hc⟩:=yoe h.own hn
   simp only [Value.slice.injEq] at hv
   exact .inr ⟨g,0,hv.1,hg,AllQ.row _ vs 0 (AllQ.keep (kept_self (fun c hc=>hc.1.1)) _ _ h.all) (fun i u hu=>by rw [Nat.zero_add]; exact hc i u hu)⟩
 · left
   have:=h.len
   exact List.eq_nil_of_length_eq_zero (by omega)
def RowN (s:ByteArray) (a:Nat) (ps:List Pt) (a':Nat):Prop:=a≤a'∧a'≤2*s.size+5-a∧ylL ps+phi s a'≤phi s a∧sizes ps+ps.length≤2*(a'-a)∧WfL ps
def AtG (s:ByteArray) (a:Nat) (p:Pt) (ok:Bool) (a2:Nat):Prop:=a≤a2∧a2≤2*s.size+5-a∧p.leaves+(if ok=true then phi s a2 else 0)≤phi s a∧p.size+2≤2*(a2-a)+1∧(ok=true→Wf p)
theorem PtQ.agg {Q:Nat→Prop} {W:World}:(p:Pt)→(v:Value)→PtQ Q W p v→∃ (o l h:Int) (av:Option Addr) (n cap:Nat),v=.agg #[.int .i64 o,.int .i64 l,.int .i64 h,.slice av n cap]
 | .mk o l h ps,_,hp=>by
  obtain ⟨av,cap,rfl,_⟩:=hp
  exact ⟨o,l,h,av,ps.length,cap,rfl⟩
def lenS:Value→Nat
 | .slice _ n _=>n
 | _=>0
def placeOf (X:Nat) (w:World):Nat:=match w.cell? ⟨X,1,none⟩ with
 | some (.int _ n)=>n.toNat
 | _=>0
theorem placeOf_rd {w:World} {X:Nat} {s:ByteArray} {a:Nat} (h:RdAt w X s a):placeOf X w=a:=by
 unfold placeOf
 rw [h.cells.2.1]
 rfl
theorem RowM.new {X:Nat} {s:ByteArray} {w:World} {a:Nat} (h:RdAt w X s a) (hX:X<w.heap.size):RowM X s w w.heap.size a [] [] (.slice none 0 0) (w.alloc (.cells #[.int .i64 0,.int .i64 0,.int .i64 0,.slice none 0 0] 28)).heap.size (w.alloc (.cells #[.int .i64 0,.int .i64 0,.int .i64 0,.slice none 0 0] 28)) :=
 ⟨BoxR.new _ h hX,⟨rfl,.inl ⟨rfl,rfl⟩⟩,rfl,trivial,fun r hr=>by simp [Value.ownBlock] at hr,Nat.le_refl _⟩
theorem row_fail {X:Nat} {s:ByteArray} {w W:World} {a a' a3:Nat} {ps:List Pt} {p:Pt} {v:Value} (HN:RowN s a ps a') (hF:AtG s a' p false a3) (hp:PtQ (fun c=>w.heap.size≤c) W p v) (R:RdPost X s w a3 W):PaPost 0 X s a w (.returned (.tuple #[v,.bool false])) W:=by
 obtain ⟨h1,h2,h3,h4,h5⟩:=HN
 obtain ⟨f1,f2,f3,f4,f5⟩:=hF
 refine ⟨p,v,false,a3,rfl,hp,by omega,by omega,?_,by omega,fun h=>(by cases h),R⟩
 simp only [Bool.false_eq_true,if_false] at f3 ⊢
 omega
theorem row_step {s:ByteArray} {a a' a3:Nat} {ps:List Pt} {p:Pt} (HN:RowN s a ps a') (hF:AtG s a' p true a3):RowN s a (ps++[p]) a3:=by
 obtain ⟨h1,h2,h3,h4,h5⟩:=HN
 obtain ⟨f1,f2,f3,f4,f5⟩:=hF
 simp only [if_true] at f3
 refine ⟨by omega,by omega,by rw [leavesL_snocN]; omega,by rw [sizes_snocN]; simp; omega,WfL.snoc (f5 rfl) _ h5⟩
theorem row_zero {X:Nat} {s:ByteArray} {w W:World} {a a':Nat} (HN:RowN s a [] a') (R:RdPost X s w a' W):PaPost 0 X s a w (.returned (.tuple #[.agg #[.int .i64 0,.int .i64 0,.int .i64 0,.slice none 0 0],.bool false])) W:=by
 obtain ⟨h1,h2,h3,h4,h5⟩:=HN
 refine ⟨.mk 0 0 0 [],_,false,a',rfl,⟨none,0,rfl,.inl rfl⟩,h1,h2,by simp [Pt.leaves,ylL],by simp [Pt.size,sizes],fun h=>(by cases h),R⟩
theorem row_one {X:Nat} {s:ByteArray} {w W:World} {a a':Nat} {p:Pt} {v:Value} (HN:RowN s a [p] a') (hp:PtQ (fun c=>w.heap.size≤c) W p v) (R:RdPost X s w a' W):PaPost 0 X s a w (.returned (.tuple #[v,.bool true])) W:=by
 obtain ⟨h1,h2,h3,h4,h5⟩:=HN
 simp only [ylL,sizes,List.length_cons,List.length_nil] at h3 h4
 refine ⟨p,v,true,a',rfl,hp,h1,h2,?_,by omega,fun _=>h5.1,R⟩
 simp only [if_true]
 omega
theorem row_many {X:Nat} {s:ByteArray} {w W:World} {a a':Nat} {ps:List Pt} {v:Value} (HN:RowN s a ps a') (hp:PtQ (fun c=>w.heap.size≤c) W (.mk 2 0 0 ps) v) (R:RdPost X s w a' W):PaPost 0 X s a w (.returned (.tuple #[v,.bool true])) W:=by
 obtain ⟨h1,h2,h3,h4,h5⟩:=HN
 have e1:(Pt.mk 2 0 0 ps).leaves=ylL ps:=by simp [Pt.leaves]
 have e2:(Pt.mk 2 0 0 ps).size=1+sizes ps:=by simp [Pt.size]
 refine ⟨.mk 2 0 0 ps,v,true,a',rfl,hp,h1,h2,?_,by rw [e2]; omega,fun _=>⟨.inr (.inl rfl),h5⟩,R⟩
 rw [e1]
 simp only [if_true]
 omega
theorem star_num {s:ByteArray} {a':Nat} {p2:Pt} {a3:Nat} (h:AtG s a' p2 true a3) (hlt:a3<s.size) (hc:pk s a3=42):AtG s a' (.mk 4 0 0 [p2]) true (a3+1):=by
 obtain ⟨h1,h2,h3,h4,h5⟩:=h
 have:=phi_star s a3 hlt hc
 refine ⟨by omega,by omega,?_,by rw [star_size]; omega,fun _=>star_wf (h5 rfl)⟩
 rw [star_leaves]
 simp only [if_true] at h3 ⊢
 omega
theorem star_set {X:Nat} {s:ByteArray} {w:World} {B a:Nat} {ps:List Pt} {vs:List V4} {lv:Value} {L B2:Nat} {W:World} {p2:Pt} {o l h:Int} {av:Option Addr} {n cap:Nat} (HM:Hid (RowM X s w B a ps vs lv L W))
 (HY:Hid (W.heap[B2]? = some (.cells #[.int .i64 o,.int .i64 l,.int .i64 h,.slice av n cap] 28 (0,0)))) (HP:Hid (PtQ (fun c=>L≤c∧c≠B2) W p2 (.agg #[.int .i64 o,.int .i64 l,.int .i64 h,.slice av n cap]))) (hB:L≤B2) (hBL:B<L) :
 RowM X s w B a ps vs lv L (((((W.setCell ⟨B2,0,none⟩ (.int .i64 4)).setCell ⟨B2,1,none⟩ (.int .i64 0)).setCell ⟨B2,2,none⟩ (.int .i64 0)).setCell ⟨B2,3,none⟩ (.slice (some ⟨W.heap.size,0,none⟩) 1 1)).alloc (.cells #[.int .i64 o,.int .i64 l,.int .i64 h,.slice av n cap] 28)) ∧
 (((((W.setCell ⟨B2,0,none⟩ (.int .i64 4)).setCell ⟨B2,1,none⟩ (.int .i64 0)).setCell ⟨B2,2,none⟩ (.int .i64 0)).setCell ⟨B2,3,none⟩ (.slice (some ⟨W.heap.size,0,none⟩) 1 1)).alloc (.cells #[.int .i64 o,.int .i64 l,.int .i64 h,.slice av n cap] 28)).heap[B2]? = some (.cells #[.int .i64 4,.int .i64 0,.int .i64 0,.slice (some ⟨W.heap.size,0,none⟩) 1 1] 28 (0,0)) ∧
 PtQ (fun c=>L≤c∧c≠B2) (((((W.setCell ⟨B2,0,none⟩ (.int .i64 4)).setCell ⟨B2,1,none⟩ (.int .i64 0)).setCell ⟨B2,2,none⟩ (.int .i64 0)).setCell ⟨B2,3,none⟩ (.slice (some ⟨W.heap.size,0,none⟩) 1 1)).alloc (.cells #[.int .i64 o,.int .i64 l,.int .i64 h,.slice av n cap] 28)) (.mk 4 0 0 [p2]) (.agg #[.int .i64 4,.int .i64 0,.int .i64 0,.slice (some ⟨W.heap.size,0,none⟩) 1 1]):=by
 have hz:((((W.setCell ⟨B2,0,none⟩ (.int .i64 4)).setCell ⟨B2,1,none⟩ (.int .i64 0)).setCell ⟨B2,2,none⟩ (.int .i64 0)).setCell ⟨B2,3,none⟩ (.slice (some ⟨W.heap.size,0,none⟩) 1 1)).heap.size=W.heap.size:=by simp [World.setCell]
 have M:=(((HM.out.other ⟨B2,0,none⟩ (.int .i64 4) hB hBL).other ⟨B2,1,none⟩ (.int .i64 0) hB hBL).other ⟨B2,2,none⟩ (.int .i64 0) hB hBL).other ⟨B2,3,none⟩ (.slice (some ⟨W.heap.size,0,none⟩) 1 1) hB hBL
 have Y:=yhs (yhs (yhs (yhs HY.out 0 (.int .i64 4)) 1 (.int .i64 0)) 2 (.int .i64 0)) 3 (.slice (some ⟨W.heap.size,0,none⟩) 1 1)
 simp only [xSi,xSs,xSz] at Y
 have P:=PtQ.set4 (B:=B2) HP.out (fun h=>h.2 rfl) (.int .i64 4) (.int .i64 0) (.int .i64 0) (.slice (some ⟨W.heap.size,0,none⟩) 1 1)
 have hb2:=xL HY.out
 have hls:=HM.out.ls
 have P2:=PtQ.keep (kept_grown (xG _ (.cells #[.int .i64 o,.int .i64 l,.int .i64 h,.slice av n cap] 28) none) (fun r hr=>by cases hr) (fun _ h _=>h)) _ _ P
 have hnew:=xN ((((W.setCell ⟨B2,0,none⟩ (.int .i64 4)).setCell ⟨B2,1,none⟩ (.int .i64 0)).setCell ⟨B2,2,none⟩ (.int .i64 0)).setCell ⟨B2,3,none⟩ (.slice (some ⟨W.heap.size,0,none⟩) 1 1)) (.cells #[.int .i64 o,.int .i64 l,.int .i64 h,.slice av n cap] 28)
 rw [hz] at hnew
 refine ⟨M.grow (xG _ _ none),grow_new (xG _ _ none) Y,star_at (x:=⟨.int .i64 o,.int .i64 l,.int .i64 h,.slice av n cap⟩) P2 hnew ⟨hls,by omega⟩ 1⟩
theorem row_any (X:Nat) (s:ByteArray) (a:Nat) (w:World) (hX:X<w.heap.size) (h:RdAt w X s a) (hs:s.size≤20) (ha:a≤s.size)
 (HAi:∀ W a',a≤a'→a'<s.size→pk s a'≠41→pk s a'≠124→RdAt W X s a'→Calls Tryz.prog 128 #[.pointer (some ⟨X,0,none⟩)] W (PaPost 2 X s a' W)):Calls Tryz.prog 114 #[.pointer (some ⟨X,0,none⟩)] w (PaPost 0 X s a w):=by
 have HR:=hid h
 have HA:=hid HAi
 have HX:=hid hX
 clear h HAi hX
 obtain ⟨P,hP⟩:∃ P,PaPost 0 X s a w=P:=⟨_,rfl⟩
 rw [hP]
 have HP:=hid hP
 clear hP
 go_enter Tryz.func114,Tryz.ntmps114
 go_wp2_with fail
 have HM0:=hid (RowM.new HR.out HX.out)
 have HN0:=hid (show RowN s a [] a from ⟨Nat.le_refl _,by omega,by simp [ylL],by simp [sizes],trivial⟩)
 generalize w.alloc _=w0 at HM0 ⊢
 generalize w.heap.size=B at HM0 ⊢
 go_loopw [4] (fun lv wr=>∃ (ps:List Pt) (vs:List V4) (sa:Option Addr) (sc a':Nat),lv=.slice sa vs.length sc∧Hid (RowM X s w B a' ps vs (.slice sa vs.length sc) wr.heap.size wr)∧Hid (RowN s a ps a')) (fun lv _=>200-lenS lv)
 case atStart=>exact ⟨[],[],none,0,a,rfl,HM0,HN0⟩
 case round =>
  obtain ⟨ps,vs,sa,sc,a',rfl,HM,HN⟩:=hrel
  go_wp2_with fail
  go_cut [26] (fun v wx=>∃ bb,v=.bool bb∧Hid (bb=true→a'<s.size∧pk s a'≠41∧pk s a'≠124)∧∃ k,wx=wr.drewN k)
  case first =>
   obtain ⟨c0,c1,f1⟩:=HM.out.bx.rd.cells
   by_cases hlt:a'<s.size
   · have hb:(a':Int)<(s.size:Int):=by omega
     by_cases h124:pk s a'=124
     · have hq1:(((pk s a').toNat:Int) != 124)=false:=by rw [h124]; rfl
       clear hlt h124
       go_quiet ((go_at_call 115; exact Calls.quiet_of (peek_any X s a' _ (HM.out.bx.rd.drewN _))))
       go_wp2_with fail
       go_meet
       exact ⟨false,rfl,hid (fun h=>by cases h),_,rfl⟩
     · have hq1:(((pk s a').toNat:Int) != 124)=true:=by have:=pk_ne 124 124 rfl h124; simp [bne,this]
       by_cases h41:pk s a'=41
       · have hq2:(((pk s a').toNat:Int) != 41)=false:=by rw [h41]; rfl
         clear hlt h124 h41
         go_quiet ((go_at_call 115; exact Calls.quiet_of (peek_any X s a' _ (HM.out.bx.rd.drewN _))))
         go_wp2_with fail
         go_meet
         exact ⟨false,rfl,hid (fun h=>by cases h),_,rfl⟩
       · have hq2:(((pk s a').toNat:Int) != 41)=true:=by have:=pk_ne 41 41 rfl h41; simp [bne,this]
         have HC:=hid (show a'<s.size∧pk s a'≠41∧pk s a'≠124 from ⟨hlt,h41,h124⟩)
         clear hlt h124 h41
         go_quiet ((go_at_call 115; exact Calls.quiet_of (peek_any X s a' _ (HM.out.bx.rd.drewN _))))
         go_wp2_with fail
         go_meet
         exact ⟨true,rfl,hid (fun _=>HC.out),_,rfl⟩
   · have hb:decide ((a':Int)<(s.size:Int))=false:=decide_eq_false (by omega)
     have hbn:decide (a'<s.size)=false:=decide_eq_false hlt
     clear hlt
     go_quiet ((go_at_call 115; exact Calls.quiet_of (peek_any X s a' _ (HM.out.bx.rd.drewN _))))
     go_wp2_with fail
     go_meet
     exact ⟨false,rfl,hid (fun h=>by cases h),_,rfl⟩
  case rest =>
   obtain ⟨bb,rfl,HBB,k,rfl⟩:=hcut
   have HM1:=hid (HM.out.grow (show wr.grownBy (wr.drewN k) none from ⟨rfl,rfl,rfl,Nat.le_refl _,fun _ _ _=>rfl⟩))
   have hL:wr.heap.size=(wr.drewN k).heap.size:=rfl
   rw [hL] at HM1
   clear hL HM
   generalize wr.drewN k=w1 at HM1 ⊢
   rcases bb with _ | _
   · clear HBB HA
     have z0:=(HM1.out.bx.cells 0).2
     have z1:=(HM1.out.bx.cells 1).2
     have z2:=(HM1.out.bx.cells 2).2
     have z3:=(HM1.out.bx.cells 3).2
     have g0:=(HM1.out.bx.cells 0).1
     have g1:=(HM1.out.bx.cells 1).1
     have g2:=(HM1.out.bx.cells 2).1
     have g3:=(HM1.out.bx.cells 3).1
     simp only [xGe,xGz,xGs] at g0 g1 g2 g3
     have hlo:=HM1.out.bx.lo
     rcases vs with _ | ⟨x,_ | ⟨y,vs⟩⟩
     · have hps:ps=[]:=List.eq_nil_of_length_eq_zero (by have:=HM1.out.len; simpa using this.symm)
       subst hps
       clear hlo
       simp only [List.length_nil]
       go_wp2_with fail
       have HB8:=hid (HM1.out.bx.set4 (.int .i64 0) (.int .i64 0) (.int .i64 0) (.slice none 0 0))
       have HP8:=hid (True.intro)
       clear g0 g1 g2 g3 z0 z1 z2 z3
       generalize World.setCell _ _ _=w8 at HB8 ⊢
       have f0:=(HB8.out.cells 0).1
       have f1:=(HB8.out.cells 1).1
       have f2:=(HB8.out.cells 2).1
       have f3:=(HB8.out.cells 3).1
       simp only [xGe,xGz,xGs] at f0 f1 f2 f3
       rw [← HP.out]
       exact bodyPost_ret (v:=.tuple #[.agg #[.int .i64 0,.int .i64 0,.int .i64 0,.slice none 0 0],.bool false]) (by simp [results,Tryz.results114,go_sem,f0,f1,f2,f3]) rfl (row_zero HN.out HB8.out.post)
     · obtain ⟨p,rfl⟩:∃ p,ps=[p]:=by
        have:=HM1.out.len
        rcases ps with _ | ⟨p,_ | ⟨q,ps⟩⟩
        · simp at this
        · exact ⟨p,rfl⟩
        · simp at this
       have hall:=HM1.out.all.1
       obtain ⟨xa,xb,xc,xd⟩:=x
       obtain ⟨o,l,h,av,n,cap,hv⟩:=PtQ.agg _ _ hall
       simp only [V4.val,Value.agg.injEq,Array.mk.injEq,List.cons.injEq,and_true] at hv
       obtain ⟨rfl,rfl,rfl,rfl⟩:=hv
       obtain ⟨g,c,hsl,hgB,hcell⟩:=yoe HM1.out.own (by simp)
       simp only [Value.slice.injEq] at hsl
       obtain ⟨rfl,_,rfl⟩:=hsl
       have e0:=hcell 0 (.int .i64 o) rfl
       have e1:=hcell 1 (.int .i64 l) rfl
       have e2:=hcell 2 (.int .i64 h) rfl
       have e3:=hcell 3 (.slice av n cap) rfl
       have HP7:=hid (show PtQ (fun c=>B+1≤c) w1 p (.agg #[.int .i64 o,.int .i64 l,.int .i64 h,.slice av n cap]) from PtQ.keep (kept_self (fun c hc=>hc.1.1)) _ _ hall)
       have HLO:=hid hlo
       have hn1:¬ g=B:=by omega
       have hn2:¬ B=g:=by omega
       clear hall hcell hlo
       simp only [List.length_cons,List.length_nil]
       go_wp2_with fail
       have HB8:=hid (HM1.out.bx.set4 (.int .i64 o) (.int .i64 l) (.int .i64 h) (.slice av n cap))
       have HP8:=hid (PtQ.set4 (B:=B) HP7.out (fun h=>by omega) (.int .i64 o) (.int .i64 l) (.int .i64 h) (.slice av n cap))
       clear g0 g1 g2 g3 z0 z1 z2 z3
       generalize World.setCell _ _ _=w8 at HB8 HP8 ⊢
       have f0:=(HB8.out.cells 0).1
       have f1:=(HB8.out.cells 1).1
       have f2:=(HB8.out.cells 2).1
       have f3:=(HB8.out.cells 3).1
       simp only [xGe,xGz,xGs] at f0 f1 f2 f3
       rw [← HP.out]
       exact bodyPost_ret (v:=.tuple #[.agg #[.int .i64 o,.int .i64 l,.int .i64 h,.slice av n cap],.bool true]) (by simp [results,Tryz.results114,go_sem,f0,f1,f2,f3]) rfl (row_one HN.out (PtQ.keep (kept_self (fun c hc=>by have:=HLO.out; omega)) _ _ HP8.out) HB8.out.post)
     · have hm1:2≤ps.length:=by have:=HM1.out.len; simp at this; omega
       have HP7:=hid (RowM.node HM1.out 2)
       have HLO:=hid hlo
       have hl1:(x::y::vs).length=ps.length:=HM1.out.len
       rw [hl1]
       clear hl1 hlo
       obtain ⟨m,hm⟩:∃ m,ps.length=m:=⟨_,rfl⟩
       rw [hm] at hm1 HP7 ⊢
       have HL:=hid hm
       clear hm
       have q0:((m:Int) == 0)=false:=beq_eq_false_iff_ne.2 (by omega)
       have q1:((m:Int) == 1)=false:=beq_eq_false_iff_ne.2 (by omega)
       go_wp2_with fail
       have HB8:=hid (HM1.out.bx.set4 (.int .i64 2) (.int .i64 0) (.int .i64 0) (.slice sa m sc))
       have HP8:=hid (PtQ.set4 (B:=B) HP7.out (fun h=>by omega) (.int .i64 2) (.int .i64 0) (.int .i64 0) (.slice sa m sc))
       clear g0 g1 g2 g3 z0 z1 z2 z3
       generalize World.setCell _ _ _=w8 at HB8 HP8 ⊢
       have f0:=(HB8.out.cells 0).1
       have f1:=(HB8.out.cells 1).1
       have f2:=(HB8.out.cells 2).1
       have f3:=(HB8.out.cells 3).1
       simp only [xGe,xGz,xGs] at f0 f1 f2 f3
       rw [← HP.out]
       exact bodyPost_ret (v:=.tuple #[.agg #[.int .i64 2,.int .i64 0,.int .i64 0,.slice sa m sc],.bool true]) (by simp [results,Tryz.results114,go_sem,f0,f1,f2,f3]) rfl (row_many HN.out (PtQ.keep (kept_self (fun c hc=>by have:=HLO.out; omega)) _ _ HP8.out) HB8.out.post)
   · obtain ⟨hlt,h41,h124⟩:=HBB.out rfl
     have hge:=HN.out.1
     go_wp2_with fail
     refine (HA.out w1 a' hge hlt h41 h124 HM1.out.bx.rd).mono ?_
     rintro e w2 ⟨p,v,ok,a2,rfl,hp,ha2,hb2,hph,hsz,hwf,R2⟩
     have HM2:=hid (HM1.out.call R2)
     have HPQ:=hid hp
     obtain ⟨o,l,h,av,n,cap,rfl⟩:=PtQ.agg p v hp
     have HF:=hid (show AtG s a' p ok a2 from ⟨ha2,hb2,hph,hsz,hwf⟩)
     clear hp ha2 hb2 hph hsz hwf R2 hlt h41 h124 hge
     go_wp2_with fail
     have HM3:=hid (HM2.out.grow (xG w2 (.cells #[.int .i64 o,.int .i64 l,.int .i64 h,.slice av n cap] 28) none))
     have HY3:=hid (show (w2.alloc (.cells #[.int .i64 o,.int .i64 l,.int .i64 h,.slice av n cap] 28)).heap[w2.heap.size]? = some (.cells #[.int .i64 o,.int .i64 l,.int .i64 h,.slice av n cap] 28 (0,0)) from xN _ _)
     have HP3:=hid (show PtQ (fun c=>w1.heap.size≤c∧c≠w2.heap.size) (w2.alloc (.cells #[.int .i64 o,.int .i64 l,.int .i64 h,.slice av n cap] 28)) p _ from PtQ.keep (fun c hc hl=>⟨⟨hc,by omega⟩,fun _ _ hv=>ycg hv (xG w2 _ none)⟩) _ _ HPQ.out)
     have hB2:=hid HM2.out.ls
     generalize w2.alloc _=w3 at HM3 HY3 HP3 ⊢
     generalize w2.heap.size=B2 at HY3 HP3 hB2 ⊢
     go_loopw [] (fun wi=>∃ (p2:Pt) (o l h:Int) (av:Option Addr) (n cap a3:Nat),Hid (RowM X s w B a3 ps vs (.slice sa vs.length sc) w1.heap.size wi)∧Hid (wi.heap[B2]? = some (.cells #[.int .i64 o,.int .i64 l,.int .i64 h,.slice av n cap] 28 (0,0)))∧Hid (PtQ (fun c=>w1.heap.size≤c∧c≠B2) wi p2 (.agg #[.int .i64 o,.int .i64 l,.int .i64 h,.slice av n cap]))∧Hid (AtG s a' p2 ok a3)) (fun wi=>100-placeOf X wi)
     case atStart=>exact ⟨p,o,l,h,av,n,cap,a2,HM3,HY3,HP3,HF⟩
     case round =>
      obtain ⟨p2,o,l,h,av,n,cap,a3,HM4,HY4,HP4,HF4⟩:=hrel
      go_wp2_with fail
      go_cut [49] (fun v wx=>∃ bb,v=.bool bb∧Hid (bb=true→ok=true∧a3<s.size∧pk s a3=42)∧∃ k,wx=wr.drewN k)
      case first =>
       obtain ⟨c0,c1,f1⟩:=HM4.out.bx.rd.cells
       rcases ok with _ | _
       · go_quiet ((go_at_call 115; exact Calls.quiet_of (peek_any X s a3 _ (HM4.out.bx.rd.drewN _))))
         go_wp2_with fail
         go_meet
         exact ⟨false,rfl,hid (fun h=>by cases h),_,rfl⟩
       · by_cases h42:pk s a3=42
         · have hq1:(((pk s a3).toNat:Int) == 42)=true:=by rw [h42]; rfl
           by_cases hlt:a3<s.size
           · have hb:(a3:Int)<(s.size:Int):=by omega
             have HC:=hid (show True∧a3<s.size∧pk s a3=42 from ⟨trivial,hlt,h42⟩)
             have hbn:decide (a3<s.size)=true:=decide_eq_true hlt
             clear h42 hlt
             go_quiet ((go_at_call 115; exact Calls.quiet_of (peek_any X s a3 _ (HM4.out.bx.rd.drewN _))))
             go_wp2_with fail
             go_meet
             exact ⟨_,rfl,hid (fun _=>⟨by trivial,HC.out.2⟩),_,rfl⟩
           · have hb:decide ((a3:Int)<(s.size:Int))=false:=decide_eq_false (by omega)
             have hbn:decide (a3<s.size)=false:=decide_eq_false hlt
             have HC:=hid (show decide (a3<s.size)=false from hbn)
             clear h42 hlt
             go_quiet ((go_at_call 115; exact Calls.quiet_of (peek_any X s a3 _ (HM4.out.bx.rd.drewN _))))
             go_wp2_with fail
             go_meet
             exact ⟨_,rfl,hid (fun h=>by simp at h),_,rfl⟩
         · have hq1:(((pk s a3).toNat:Int) == 42)=false:=pk_ne 42 _ rfl h42
           clear h42
           go_quiet ((go_at_call 115; exact Calls.quiet_of (peek_any X s a3 _ (HM4.out.bx.rd.drewN _))))
           go_wp2_with fail
           go_meet
           exact ⟨false,rfl,hid (fun h=>by cases h),_,rfl⟩
      case rest =>
       obtain ⟨bb,rfl,HBB4,k4,rfl⟩:=hcut
       have g4:wr.grownBy (wr.drewN k4) none:=⟨rfl,rfl,rfl,Nat.le_refl _,fun _ _ _=>rfl⟩
       have HM5:=hid (HM4.out.grow g4)
       have HY5:=hid (grow_new g4 HY4.out)
       have HP5:=hid (PtQ.keep (kept_grown g4 (fun r hr=>by cases hr) (fun _ h _=>h)) _ _ HP4.out)
       clear g4
       have HML:=hid (show 100-placeOf X (wr.drewN k4)=100-placeOf X wr from rfl)
       rcases bb with _ | _
       · generalize wr.drewN k4=w5 at HM5 HY5 HP5 HML ⊢
         clear HML
         obtain ⟨e0,e1,e2,e3⟩:=cb4 HY5.out
         rcases ok with _ | _
         · have z0:=(HM5.out.bx.cells 0).2
           have z1:=(HM5.out.bx.cells 1).2
           have z2:=(HM5.out.bx.cells 2).2
           have z3:=(HM5.out.bx.cells 3).2
           have g0:=(HM5.out.bx.cells 0).1
           have g1:=(HM5.out.bx.cells 1).1
           have g2:=(HM5.out.bx.cells 2).1
           have g3:=(HM5.out.bx.cells 3).1
           simp only [xGe,xGz,xGs] at g0 g1 g2 g3
           go_wp2_with fail
           have HB8:=hid (HM5.out.bx.set4 (.int .i64 o) (.int .i64 l) (.int .i64 h) (.slice av n cap))
           have HP8:=hid (PtQ.set4 (B:=B) HP5.out (fun h=>by have:=xL HM1.out.bx.bx; omega) (.int .i64 o) (.int .i64 l) (.int .i64 h) (.slice av n cap))
           clear g0 g1 g2 g3 z0 z1 z2 z3 e0 e1 e2 e3
           generalize World.setCell _ _ _=w8 at HB8 HP8 ⊢
           have f0:=(HB8.out.cells 0).1
           have f1:=(HB8.out.cells 1).1
           have f2:=(HB8.out.cells 2).1
           have f3:=(HB8.out.cells 3).1
           simp only [xGe,xGz,xGs] at f0 f1 f2 f3
           rw [← HP.out]
           exact bodyPost_ret (v:=.tuple #[.agg #[.int .i64 o,.int .i64 l,.int .i64 h,.slice av n cap],.bool false]) (by simp [results,Tryz.results114,go_sem,f0,f1,f2,f3]) rfl (row_fail HN.out HF4.out (PtQ.keep (kept_self (fun c hc=>Nat.le_trans HM1.out.bx.gr.size hc.1)) _ _ HP8.out) HB8.out.post)
         · obtain ⟨i1,hi1,hy0,hy1,hy2⟩:=info_parts info28
           have hlen:vs.length≤100:=(by have h1:=HN.out.2.2.2.1; have h2:=HN.out.2.1; have h3:=HM5.out.len; omega)
           have HOW:=hid HM5.out.own
           have hbs:B<w5.heap.size:=xL HM5.out.bx.bx
           go_wp2_with (at_builtin; refine wpList_append_lies _ rfl _ _ 26 rfl (B+1) 28 i1 (.agg #[.int .i64 0,.int .i64 0,.int .i64 0,.slice none 0 0]) 4 48 Tryz.underlying26 hi1 hy0 hy1 hy2 rfl (by omega) _ _ _ rfl (own_grownN HOW.out (xG w5 _ none) (fun r hr=>by cases hr)) ⟨w5.heap.size,0,none⟩ 1 1 [.int .i64 o,.int .i64 l,.int .i64 h,.slice av n cap] rfl rfl (cells_new _ _ _) (by simp [Value.oneCell']) (by omega) (by unfold maxLen; omega) (by omega) (by simp; omega) (w5.heap.size+1) (by simp) ?_; intro g2 cap2 w6 hown2 hgrow2 hat2 hlt2; have HG2:=hid hgrow2; have HAT2:=hid hat2; have HO2:=hid hown2; clear hgrow2 hat2 hown2)
           have HM6:=hid (RowM.app (x:=⟨.int .i64 o,.int .i64 l,.int .i64 h,.slice av n cap⟩) HM5.out (PtQ.keep (kept_self (Q':=fun c=>w1.heap.size≤c) (fun c hc=>hc.1)) _ _ HP5.out) (Nat.le_refl _) (xL HM1.out.bx.bx) HO2.out HG2.out HAT2.out)
           have HN6:=hid (row_step HN.out HF4.out)
           have e:(vs++[(⟨.int .i64 o,.int .i64 l,.int .i64 h,.slice av n cap⟩:V4)]).length=vs.length+1:=by simp
           refine ⟨⟨ps++[p2],vs++[⟨.int .i64 o,.int .i64 l,.int .i64 h,.slice av n cap⟩],some ⟨g2,0,none⟩,cap2,a3,by rw [e],by rw [e]; exact HM6,HN6⟩,?_⟩
           show 200-(vs.length+1)<200-vs.length
           omega
       · obtain ⟨hok,hlt3,h42⟩:=HBB4.out rfl
         subst hok
         have hlo:=HF4.out.1
         have HC:=hid (And.intro hlt3 h42)
         generalize wr.drewN k4=w5 at HM5 HY5 HP5 HML ⊢
         obtain ⟨c0,c1,f1⟩:=HM5.out.bx.rd.cells
         obtain ⟨e0,e1,e2,e3⟩:=cb4 HY5.out
         obtain ⟨z0,z1,z2,z3⟩:=fb4 HY5.out
         have hn1:¬ B2=X:=(by have:=hB2.out; have:=xL HM1.out.bx.rd; omega)
         have hn2:¬ X=B2:=fun e=>hn1 e.symm
         have hn3:B2<w5.heap.size:=xL HY5.out
         have hn4:X<w5.heap.size:=xL HM5.out.bx.rd
         have hS1:IntKind.i64.wrap ((a3:Int)+1)=((a3+1:Nat):Int):=(xI _ (by omega)).trans (by omega)
         clear hlt3 h42
         go_wp2_with fail
         have HM6:=hid (HM5.out.step (a3+1) ((a3:Int)+1) (by omega))
         have HP6:=hid (PtQ.keep (kept_set (Q:=fun c=>w1.heap.size≤c∧c≠B2) ⟨X,1,none⟩ (.int .i64 ((a3:Int)+1)) (by have:=xL HM1.out.bx.rd; simp; omega)) _ _ HP5.out)
         have HY6:=hid (show (w5.setCell ⟨X,1,none⟩ (.int .i64 ((a3:Int)+1))).heap[B2]? = some (.cells #[.int .i64 o,.int .i64 l,.int .i64 h,.slice av n cap] 28 (0,0)) from by rw [Below.heap_setCell _ _ _ _ (by simpa using hn1)]; exact HY5.out)
         have hz6:(w5.setCell ⟨X,1,none⟩ (.int .i64 ((a3:Int)+1))).heap.size=w5.heap.size:=(by simp [World.setCell])
         have hB:=hB2.out
         have hBL:=xL HM1.out.bx.bx
         clear c0 c1 f1 e0 e1 e2 e3 z0 z1 z2 z3 hS1
         generalize hw6:w5.setCell ⟨X,1,none⟩ (.int .i64 ((a3:Int)+1))=w6 at HM6 HP6 HY6 hz6 ⊢
         rw [← hz6]
         clear hw6 hz6
         have HST:=hid (star_set HM6 HY6 HP6 hB hBL)
         have hF:=HF4.out
         have HN8:=hid (star_num hF HC.out.1 HC.out.2)
         refine ⟨⟨.mk 4 0 0 [p2],4,0,0,some ⟨w6.heap.size,0,none⟩,1,1,a3+1,hid HST.out.1,hid HST.out.2.1,hid HST.out.2.2,HN8⟩,?_⟩
         rw [placeOf_rd HST.out.1.bx.rd,← HML.out,placeOf_rd HM5.out.bx.rd]
         have:=HC.out.1
         omega
end Go.Proofs.YtplbacfjmajeeaaGreatDoor
