import Derived.Test.YtplbacfjmajeeaaGreatDoorJ47
namespace Go.Proofs.YtplbacfjmajeeaaGreatDoor
open Go.Lib (hid)
set_option maxHeartbeats 4000000
set_option maxRecDepth 100000
open Go.RowKit
theorem pk_ne {b:UInt8} (n:UInt8) (k:Int) (hk:k=(n.toNat:Int)) (h:b≠n):((b.toNat:Int) == k)=false :=
 beq_eq_false_iff_ne.2 (fun e=>h (UInt8.toNat_inj.1 (by omega)))
theorem atom_leaf {X:Nat} {s:ByteArray} {a:Nat} {w w':World} {c:Nat} {ok:Bool} {a2:Nat} (ha:a<s.size) (hc:c≤255) (h2:a2=nxt s a) (n40:pk s a≠40) (n41:pk s a≠41) (n124:pk s a≠124) (n91:pk s a≠91) (R:RdPost X s w a2 w') :
 PaPost 2 X s a w (.returned (.tuple #[.agg #[.int .i64 1,.int .i64 c,.int .i64 c,.slice none 0 0],.bool ok])) w':=by
 have hl:=nxt_lt s a
 have hn:=nxt_le s a
 refine ⟨.mk 1 c c [],_,ok,a2,rfl,leaf_at _ _ _ _,by omega,by omega,?_,?_,fun _=>⟨.inl ⟨rfl,by omega,by omega,by omega,by omega⟩,trivial⟩,R⟩
 · have e1:(Pt.mk 1 c c []).leaves=1:=by simp [Pt.leaves]
   rw [e1,phi_one s a ha n40 n41 n124 n91,h2]
   split<;>omega
 · have e2:(Pt.mk 1 c c []).size=1:=by simp [Pt.size,sizes]
   rw [e2]
   omega
theorem atom_set {X:Nat} {s:ByteArray} {a:Nat} {w w':World} {l h:Nat} {ok:Bool} {a2 a3:Nat} (ha:a<s.size) (hc:pk s a=91) (h2:a2=nxt s (a+1)) (h3:a3=nxt s (a2+1)) (hl:l≤255) (hh:h≤255) (R:RdPost X s w (a3+1) w') :
 PaPost 2 X s a w (.returned (.tuple #[.agg #[.int .i64 1,.int .i64 l,.int .i64 h,.slice none 0 0],.bool ok])) w':=by
 have m1:=nxt_lt s (a+1)
 have m2:=nxt_le s (a+1)
 have m3:=nxt_lt s (a2+1)
 have m4:=nxt_le s (a2+1)
 refine ⟨.mk 1 l h [],_,ok,a3+1,rfl,leaf_at _ _ _ _,by omega,by omega,?_,?_,fun _=>⟨.inl ⟨rfl,by omega,by omega,by omega,by omega⟩,trivial⟩,R⟩
 · have e1:(Pt.mk 1 l h []).leaves=1:=by simp [Pt.leaves]
   rw [e1,phi_set s a ha hc,← h2,← h3]
   split<;>omega
 · have e2:(Pt.mk 1 l h []).size=1:=by simp [Pt.size,sizes]
   rw [e2]
   omega
theorem atom_unit {X:Nat} {s:ByteArray} {a:Nat} {w w':World} (ha:a<s.size) (hc:pk s a=40) (hc2:pk s (a+1)=41) (R:RdPost X s w (a+2) w') :
 PaPost 2 X s a w (.returned (.tuple #[.agg #[.int .i64 2,.int .i64 0,.int .i64 0,.slice none 0 0],.bool true])) w':=by
 have h1:a+1<s.size:=by
  refine Nat.lt_of_not_le (fun h=>?_)
  rw [pk_out s (a+1) h] at hc2
  exact absurd hc2 (by decide)
 refine ⟨.mk 2 0 0 [],_,true,a+2,rfl,⟨none,0,rfl,.inl rfl⟩,by omega,by omega,?_,?_,fun _=>⟨.inr (.inl rfl),trivial⟩,R⟩
 · have e1:(Pt.mk 2 0 0 []).leaves=0:=by simp [Pt.leaves,ylL]
   rw [e1,phi_pass s a ha (.inl hc),phi_pass s (a+1) h1 (.inr (.inl hc2))]
   simp
 · have e2:(Pt.mk 2 0 0 []).size=1:=by simp [Pt.size,sizes]
   rw [e2]
   omega
def AtF (s:ByteArray) (a:Nat) (p:Pt) (ok:Bool) (a2:Nat):Prop:=p.leaves+(if ok=true then phi s a2 else 0)≤phi s (a+1)∧p.size+0≤2*(a2-(a+1))+1∧(ok=true→Wf p)
theorem atom_par {X:Nat} {s:ByteArray} {a:Nat} {w w':World} {p:Pt} {v:Value} {ok ok2:Bool} {a2:Nat} (ha:a<s.size) (hc:pk s a=40) (hp:PtQ (fun b=>w.heap.size≤b) w' p v) (ha2:a+1≤a2) (hb2:a2≤2*s.size+5-(a+1))
 (hF:AtF s a p ok a2) (hok:ok2=true→ok=true∧pk s a2=41) (R:RdPost X s w (a2+1) w') :
 PaPost 2 X s a w (.returned (.tuple #[v,.bool ok2])) w':=by
 obtain ⟨hph,hsz,hwf⟩:=hF
 refine ⟨p,v,ok2,a2+1,rfl,hp,by omega,by omega,?_,by omega,fun h=>hwf (hok h).1,R⟩
 rw [phi_pass s a ha (.inl hc)]
 cases ok2 with
 | false =>
  have:p.leaves≤phi s (a+1):=Nat.le_trans (Nat.le_add_right _ _) hph
  simpa using this
 | true =>
  obtain ⟨h1,h2⟩:=hok rfl
  subst h1
  have h3:a2<s.size:=by
   refine Nat.lt_of_not_le (fun h=>?_)
   rw [pk_out s a2 h] at h2
   exact absurd h2 (by decide)
  rw [phi_pass s a2 h3 (.inr (.inl h2))] at hph
  exact hph
theorem PtQ.set4 {Q:Nat→Prop} {W:World} {p:Pt} {v:Value} {B:Nat} (h:PtQ Q W p v) (nB:¬ Q B) (u0 u1 u2 u3:Value) :
 PtQ Q ((((W.setCell ⟨B,0,none⟩ u0).setCell ⟨B,1,none⟩ u1).setCell ⟨B,2,none⟩ u2).setCell ⟨B,3,none⟩ u3) p v :=
 PtQ.keep (kept_set _ _ nB) _ _ (PtQ.keep (kept_set _ _ nB) _ _ (PtQ.keep (kept_set _ _ nB) _ _ (PtQ.keep (kept_set _ _ nB) _ _ h)))
theorem grow_setCellR {w w1:World} {r:Option Nat} (h:w.grownBy w1 r) (p:Addr) (u:Value) (hp:w.heap.size≤p.block):w.grownBy (w1.setCell p u) r :=
 ⟨h.os,h.tape,h.output,by have:=h.size; simpa [World.setCell] using this,fun b hb hr=>(Below.heap_setCell _ _ _ _ (by omega)).trans (h.block b hb hr)⟩
structure BoxR (X:Nat) (s:ByteArray) (w:World) (B a:Nat) (C:Array Value) (W:World):Prop where
 rd:RdAt W X s a
 gr:w.grownBy W (some X)
 bx:W.heap[B]? = some (.cells C 28 (0,0))
 lo:w.heap.size≤B
 xl:X<w.heap.size
theorem BoxR.grow {X:Nat} {s:ByteArray} {w:World} {B a:Nat} {C:Array Value} {W W':World} (h:BoxR X s w B a C W) (g:W.grownBy W' none):BoxR X s w B a C W' :=
 ⟨h.rd.grow g,grow_row3 h.gr g,grow_new g h.bx,h.lo,h.xl⟩
theorem BoxR.call {X:Nat} {s:ByteArray} {w:World} {B a a2:Nat} {C:Array Value} {W W':World} (h:BoxR X s w B a C W) (R:RdPost X s W a2 W'):BoxR X s w B a2 C W' :=
 ⟨R.1,xT h.gr R.2,by rw [R.2.block B (xL h.bx) (fun e=>by have:=h.lo; have:=h.xl; cases e; omega)]; exact h.bx,h.lo,h.xl⟩
theorem BoxR.set {X:Nat} {s:ByteArray} {w:World} {B a:Nat} {C:Array Value} {W:World} (h:BoxR X s w B a C W) (i:Nat) (u:Value):BoxR X s w B a (C.setIfInBounds i u) (W.setCell ⟨B,i,none⟩ u):=by
 have:=h.lo
 have:=h.xl
 refine ⟨?_,grow_setCellR h.gr _ _ h.lo,yhs h.bx i u,h.lo,h.xl⟩
 unfold RdAt
 rw [Below.heap_setCell _ _ _ _ (by simp; omega)]
 exact h.rd
theorem BoxR.set4 {X:Nat} {s:ByteArray} {w:World} {B a:Nat} {x0 x1 x2 x3:Value} {W:World} (h:BoxR X s w B a #[x0,x1,x2,x3] W) (u0 u1 u2 u3:Value) :
 BoxR X s w B a #[u0,u1,u2,u3] ((((W.setCell ⟨B,0,none⟩ u0).setCell ⟨B,1,none⟩ u1).setCell ⟨B,2,none⟩ u2).setCell ⟨B,3,none⟩ u3):=by
 have b:=(((h.set 0 u0).set 1 u1).set 2 u2).set 3 u3
 simp only [xSi,xSs,xSz] at b
 exact b
theorem BoxR.step {X:Nat} {s:ByteArray} {w:World} {B a:Nat} {C:Array Value} {W:World} (h:BoxR X s w B a C W) (n:Nat):BoxR X s w B n C (W.setCell ⟨X,1,none⟩ (.int .i64 n)) :=
 h.call (h.rd.step n)
theorem BoxR.stepz {X:Nat} {s:ByteArray} {w:World} {B a:Nat} {C:Array Value} {W:World} (h:BoxR X s w B a C W) (n:Nat) (z:Int) (hz:z=n):BoxR X s w B n C (W.setCell ⟨X,1,none⟩ (.int .i64 z)):=by
 subst hz
 exact h.step n
theorem BoxR.new {X:Nat} {s:ByteArray} {w:World} {a:Nat} (C:Array Value) (h:RdAt w X s a) (hX:X<w.heap.size):BoxR X s w w.heap.size a C (w.alloc (.cells C 28)) :=
 ⟨h.grow (xG _ _ _),xG _ _ _,xN w _,Nat.le_refl _,hX⟩
theorem BoxR.post {X:Nat} {s:ByteArray} {w:World} {B a:Nat} {C:Array Value} {W:World} (h:BoxR X s w B a C W):RdPost X s w a W:=⟨h.rd,h.gr⟩
theorem BoxR.cells {X:Nat} {s:ByteArray} {w:World} {B a:Nat} {C:Array Value} {W:World} (h:BoxR X s w B a C W) (i:Nat):W.cell? ⟨B,i,none⟩=C[i]?∧W.frozen? ⟨B,i,none⟩=false :=
 ⟨xC h.bx i,yfb h.bx i⟩
theorem atom_any (X:Nat) (s:ByteArray) (a:Nat) (w:World) (hX:X<w.heap.size) (h:RdAt w X s a) (hE:EscOk s) (hs:s.size≤20) (ha:a<s.size) (n41:pk s a≠41) (n124:pk s a≠124)
 (HEi:∀ W a',a<a'→a'≤s.size→RdAt W X s a'→Calls Tryz.prog 100 #[.pointer (some ⟨X,0,none⟩)] W (PaPost 0 X s a' W)):Calls Tryz.prog 128 #[.pointer (some ⟨X,0,none⟩)] w (PaPost 2 X s a w):=by
 have HR:=hid h
 have HE:=hid hE
 have HI:=hid HEi
 have HX:=hid hX
 have N41:=hid n41
 have N124:=hid n124
 clear h hE HEi hX n41 n124
 obtain ⟨P,hP⟩:∃ P,PaPost 2 X s a w=P:=⟨_,rfl⟩
 rw [hP]
 have HP:=hid hP
 clear hP
 by_cases h40:pk s a=40
 · have HC:=hid h40
   have hq1:(((pk s a).toNat:Int) == 40)=true:=by rw [h40]; rfl
   clear h40
   go_enter Tryz.func128,Tryz.ntmps128
   go_wp2_with fail
   have HB0:=hid (BoxR.new #[.int .i64 0,.int .i64 0,.int .i64 0,.slice none 0 0] HR.out HX.out)
   generalize w.alloc _=w0 at HB0 ⊢
   generalize w.heap.size=B at HB0 ⊢
   refine (peek_any X s a w0 HB0.out.rd).mono ?_
   rintro e w1 ⟨rfl,k,rfl⟩
   have HB1:=hid (HB0.out.grow (show w0.grownBy (w0.drewN k) none from ⟨rfl,rfl,rfl,Nat.le_refl _,fun _ _ _=>rfl⟩))
   generalize w0.drewN k=w1 at HB1 ⊢
   generalize (pk s a).toNat=c at hq1 ⊢
   have hS1:IntKind.i64.wrap ((a:Int)+1)=((a+1:Nat):Int):=(xI _ (by omega)).trans (by omega)
   obtain ⟨c0,c1,f1⟩:=HB1.out.rd.cells
   go_wp2_with fail
   have HB2:=hid (HB1.out.stepz (a+1) ((a:Int)+1) (by omega))
   generalize World.setCell _ _ _=w2 at HB2 ⊢
   clear c0 c1 f1
   refine (peek_any X s (a+1) w2 HB2.out.rd).mono ?_
   rintro e w3 ⟨rfl,k3,rfl⟩
   have HB3:=hid (HB2.out.grow (show w2.grownBy (w2.drewN k3) none from ⟨rfl,rfl,rfl,Nat.le_refl _,fun _ _ _=>rfl⟩))
   generalize w2.drewN k3=w3 at HB3 ⊢
   by_cases h41:pk s (a+1)=41
   · have HC2:=hid h41
     have hq2:(((pk s (a+1)).toNat:Int) == 41)=true:=by rw [h41]; rfl
     clear h41
     generalize (pk s (a+1)).toNat=c3 at hq2 ⊢
     have hS2:IntKind.i64.wrap (((a+1:Nat):Int)+1)=((a+2:Nat):Int):=(xI _ (by omega)).trans (by omega)
     obtain ⟨c0,c1,fx⟩:=HB3.out.rd.cells
     have g0:=(HB3.out.cells 0).1
     have g1:=(HB3.out.cells 1).1
     have g2:=(HB3.out.cells 2).1
     have g3:=(HB3.out.cells 3).1
     have z0:=(HB3.out.cells 0).2
     have z1:=(HB3.out.cells 1).2
     have z2:=(HB3.out.cells 2).2
     have z3:=(HB3.out.cells 3).2
     simp only [xGe,xGz,xGs] at g0 g1 g2 g3
     have hne:¬ B=X:=fun e=>(by have:=HB3.out.lo; have:=HB3.out.xl; omega)
     have hne2:¬ X=B:=fun e=>hne e.symm
     go_wp2_with fail
     have HB8:=hid ((HB3.out.stepz (a+2) ((a:Int)+1+1) (by omega)).set4 (.int .i64 2) (.int .i64 0) (.int .i64 0) (.slice none 0 0))
     clear g0 g1 g2 g3 z0 z1 z2 z3 c0 c1 fx hne hne2
     generalize World.setCell _ _ _=w8 at HB8 ⊢
     have f0:=(HB8.out.cells 0).1
     have f1:=(HB8.out.cells 1).1
     have f2:=(HB8.out.cells 2).1
     have f3:=(HB8.out.cells 3).1
     simp only [xGe,xGz,xGs] at f0 f1 f2 f3
     rw [← HP.out]
     exact bodyPost_ret (v:=.tuple #[.agg #[.int .i64 2,.int .i64 0,.int .i64 0,.slice none 0 0],.bool true]) (by simp [results,Tryz.results128,go_sem,f0,f1,f2,f3]) rfl (atom_unit ha HC.out HC2.out HB8.out.post)
   · have HC2:=hid h41
     have hq2:(((pk s (a+1)).toNat:Int) == 41)=false:=pk_ne 41 _ rfl h41
     clear h41
     generalize (pk s (a+1)).toNat=c3 at hq2 ⊢
     go_wp2_with fail
     refine (HI.out w3 (a+1) (by omega) (by omega) HB3.out.rd).mono ?_
     rintro e w4 ⟨⟨o,l,h,ps⟩,v,ok,a2,rfl,hp,ha2,hb2,hph,hsz,hwf,R4⟩
     have HB4:=hid (HB3.out.call R4)
     have HPQ:=hid hp
     obtain ⟨av,cap,rfl,-⟩:=hp
     obtain ⟨n,hn⟩:∃ n,ps.length=n:=⟨_,rfl⟩
     rw [hn] at HPQ ⊢
     clear hn
     have HF:=hid (show AtF s a (.mk o l h ps) ok a2 from ⟨hph,hsz,hwf⟩)
     clear hph hsz hwf R4
     have hS2:IntKind.i64.wrap ((a2:Int)+1)=((a2+1:Nat):Int):=(xI _ (by omega)).trans (by omega)
     obtain ⟨c0,c1,fx⟩:=HB4.out.rd.cells
     have g0:=(HB4.out.cells 0).1
     have g1:=(HB4.out.cells 1).1
     have g2:=(HB4.out.cells 2).1
     have g3:=(HB4.out.cells 3).1
     have z0:=(HB4.out.cells 0).2
     have z1:=(HB4.out.cells 1).2
     have z2:=(HB4.out.cells 2).2
     have z3:=(HB4.out.cells 3).2
     simp only [xGe,xGz,xGs] at g0 g1 g2 g3
     have hne:¬ B=X:=fun e=>(by have:=HB4.out.lo; have:=HB4.out.xl; omega)
     have hne2:¬ X=B:=fun e=>hne e.symm
     have hl1:X<w4.heap.size:=xL HB4.out.rd
     have hl2:B<w4.heap.size:=xL HB4.out.bx
     have hl3:¬ w4.heap.size=X:=by omega
     have hl4:¬ w4.heap.size=B:=by omega
     have hl5:¬ X=w4.heap.size:=by omega
     have hl6:¬ B=w4.heap.size:=by omega
     rcases ok with _ | _
     · go_wp2_with fail
       have hS5:w4.heap.size=(w4.setCell ⟨X,1,none⟩ (.int .i64 ((a2:Int)+1))).heap.size:=(by simp [World.setCell])
       have HB5:=hid ((HB4.out.stepz (a2+1) ((a2:Int)+1) (by omega)).grow (xG _ (.cells #[.int .i64 o,.int .i64 l,.int .i64 h,.slice av n cap] 28) none))
       have HY5:=hid (show ((w4.setCell ⟨X,1,none⟩ (.int .i64 ((a2:Int)+1))).alloc (.cells #[.int .i64 o,.int .i64 l,.int .i64 h,.slice av n cap] 28)).heap[w4.heap.size]? = some (.cells #[.int .i64 o,.int .i64 l,.int .i64 h,.slice av n cap] 28 (0,0)) from by rw [hS5]; exact xN _ _)
       have HP5:=hid (PtQ.keep (kept_grown (row:=none) (xG (w4.setCell ⟨X,1,none⟩ (.int .i64 ((a2:Int)+1))) (.cells #[.int .i64 o,.int .i64 l,.int .i64 h,.slice av n cap] 28) none) (fun r hr=>by cases hr) (fun _ h _=>h)) _ _ (PtQ.keep (kept_set (Q:=fun b=>w3.heap.size≤b) ⟨X,1,none⟩ (.int .i64 ((a2:Int)+1)) (by simpa using xL HB3.out.rd)) _ _ HPQ.out))
       clear hS5
       clear g0 g1 g2 g3 z0 z1 z2 z3 c0 c1 fx hl1 hl2 hl3 hl4 hl5 hl6
       generalize World.alloc _ _=w5 at HB5 HY5 HP5 ⊢
       generalize w4.heap.size=B2 at HY5 ⊢
       obtain ⟨c0,c1,fx⟩:=HB5.out.rd.cells
       obtain ⟨g0,g1,g2,g3⟩:=cb4 HY5.out
       have b0:=(HB5.out.cells 0).1
       have b1:=(HB5.out.cells 1).1
       have b2:=(HB5.out.cells 2).1
       have b3:=(HB5.out.cells 3).1
       have z0:=(HB5.out.cells 0).2
       have z1:=(HB5.out.cells 1).2
       have z2:=(HB5.out.cells 2).2
       have z3:=(HB5.out.cells 3).2
       simp only [xGe,xGz,xGs] at b0 b1 b2 b3
       go_region
       go_wp2_with fail
       have HB8:=hid ((HB5.out.set4 (.int .i64 o) (.int .i64 l) (.int .i64 h) (.slice av n cap)).grow (grow_drew (grow_self _)))
       have HP8:=hid (PtQ.keep (kept_grown (row:=none) (grow_drew (grow_self _)) (fun r hr=>by cases hr) (fun _ h _=>h)) _ _ (PtQ.set4 (B:=B) HP5.out (by have:=xL HB3.out.bx; omega) (.int .i64 o) (.int .i64 l) (.int .i64 h) (.slice av n cap)))
       clear g0 g1 g2 g3 z0 z1 z2 z3 b0 b1 b2 b3 c0 c1 fx
       generalize World.drew _=w8 at HB8 HP8 ⊢
       have f0:=(HB8.out.cells 0).1
       have f1:=(HB8.out.cells 1).1
       have f2:=(HB8.out.cells 2).1
       have f3:=(HB8.out.cells 3).1
       simp only [xGe,xGz,xGs] at f0 f1 f2 f3
       rw [← HP.out]
       exact bodyPost_ret (v:=.tuple #[.agg #[.int .i64 o,.int .i64 l,.int .i64 h,.slice av n cap],.bool false]) (by simp [results,Tryz.results128,go_sem,f0,f1,f2,f3]) rfl (atom_par ha HC.out (PtQ.keep (kept_self (fun b (hb:w3.heap.size≤b)=>Nat.le_trans HB3.out.gr.size hb)) _ _ HP8.out) ha2 hb2 HF.out (fun h=>by cases h) HB8.out.post)
     · have HB5:=hid (HB4.out.grow (xG w4 (.cells #[.int .i64 o,.int .i64 l,.int .i64 h,.slice av n cap] 28) none))
       have HY5:=hid (show (w4.alloc (.cells #[.int .i64 o,.int .i64 l,.int .i64 h,.slice av n cap] 28)).heap[w4.heap.size]? = some (.cells #[.int .i64 o,.int .i64 l,.int .i64 h,.slice av n cap] 28 (0,0)) from xN _ _)
       have HP5:=hid (PtQ.keep (kept_grown (row:=none) (xG w4 (.cells #[.int .i64 o,.int .i64 l,.int .i64 h,.slice av n cap] 28) none) (fun r hr=>by cases hr) (fun _ h _=>h)) _ _ HPQ.out)
       clear g0 g1 g2 g3 z0 z1 z2 z3 c0 c1 fx hl1 hl2 hl3 hl4 hl5 hl6
       have hBX:=hid (show w4.heap.size≠X∧w4.heap.size≠B from ⟨fun e=>by have:=xL HB4.out.rd; omega,fun e=>by have:=xL HB4.out.bx; omega⟩)
       go_wp2_with fail
       generalize World.alloc _ _=w5 at HB5 HY5 HP5 ⊢
       generalize w4.heap.size=B2 at HY5 hBX ⊢
       refine (peek_any X s a2 w5 HB5.out.rd).mono ?_
       rintro e w6 ⟨rfl,k6,rfl⟩
       have g56:w5.grownBy (w5.drewN k6) none:=⟨rfl,rfl,rfl,Nat.le_refl _,fun _ _ _=>rfl⟩
       have HB6:=hid (HB5.out.grow g56)
       have HY6:=hid (grow_new g56 HY5.out)
       have HP6:=hid (PtQ.keep (kept_grown (row:=none) g56 (fun r hr=>by cases hr) (fun _ h _=>h)) _ _ HP5.out)
       clear g56
       generalize w5.drewN k6=w6 at HB6 HY6 HP6 ⊢
       obtain ⟨c0,c1,fx⟩:=HB6.out.rd.cells
       by_cases h5:pk s a2=41
       · have HC5:=hid h5
         have hq5:(((pk s a2).toNat:Int) == 41)=true:=by rw [h5]; rfl
         clear h5
         generalize (pk s a2).toNat=c5 at hq5 ⊢
         go_wp2_with fail
         have hn3:¬ B2=B:=hBX.out.2
         have hn4:¬ B=B2:=fun e=>hBX.out.2 e.symm
         have HB7:=hid (HB6.out.stepz (a2+1) ((a2:Int)+1) (by omega))
         have HY7:=hid (show (w6.setCell ⟨X,1,none⟩ (.int .i64 ((a2:Int)+1))).heap[B2]? = some (.cells #[.int .i64 o,.int .i64 l,.int .i64 h,.slice av n cap] 28 (0,0)) from by rw [Below.heap_setCell _ _ _ _ (fun e=>hBX.out.1 (by simpa using e))]; exact HY6.out)
         have HP7:=hid (PtQ.keep (kept_set (Q:=fun b=>w3.heap.size≤b) ⟨X,1,none⟩ (.int .i64 ((a2:Int)+1)) (by simpa using xL HB3.out.rd)) _ _ HP6.out)
         clear c0 c1 fx
         generalize World.setCell _ _ _=w7 at HB7 HY7 HP7 ⊢
         obtain ⟨g0,g1,g2,g3⟩:=cb4 HY7.out
         have b0:=(HB7.out.cells 0).1
         have b1:=(HB7.out.cells 1).1
         have b2:=(HB7.out.cells 2).1
         have b3:=(HB7.out.cells 3).1
         have z0:=(HB7.out.cells 0).2
         have z1:=(HB7.out.cells 1).2
         have z2:=(HB7.out.cells 2).2
         have z3:=(HB7.out.cells 3).2
         simp only [xGe,xGz,xGs] at b0 b1 b2 b3
         by_cases ho2:o=2
         · have hqo:(o == 2)=true:=beq_iff_eq.2 ho2
           have hqp:(o == 3)=false:=beq_eq_false_iff_ne.2 (by omega)
           clear ho2
           by_cases hl:0<n
           · have hlen:(0:Int)<(n:Int):=by omega
             have hlb:decide ((n:Int) > 0)=true:=decide_eq_true hlen
             have hlc:decide ((0:Int)<(n:Int))=true:=decide_eq_true hlen
             have hld:decide (0<n)=true:=decide_eq_true hl
             go_region
             go_wp2_with fail
             have HB8:=hid ((HB7.out.set4 (.int .i64 o) (.int .i64 l) (.int .i64 h) (.slice av n cap)).grow (grow_drew (grow_self _)))
             have HP8:=hid (PtQ.keep (kept_grown (row:=none) (grow_drew (grow_self _)) (fun r hr=>by cases hr) (fun _ h _=>h)) _ _ (PtQ.set4 (B:=B) HP7.out (by have:=xL HB3.out.bx; omega) (.int .i64 o) (.int .i64 l) (.int .i64 h) (.slice av n cap)))
             clear g0 g1 g2 g3 z0 z1 z2 z3 b0 b1 b2 b3
             generalize World.drew _=w8 at HB8 HP8 ⊢
             have f0:=(HB8.out.cells 0).1
             have f1:=(HB8.out.cells 1).1
             have f2:=(HB8.out.cells 2).1
             have f3:=(HB8.out.cells 3).1
             simp only [xGe,xGz,xGs] at f0 f1 f2 f3
             rw [← HP.out]
             exact bodyPost_ret (v:=.tuple #[.agg #[.int .i64 o,.int .i64 l,.int .i64 h,.slice av n cap],.bool true]) (by simp [results,Tryz.results128,go_sem,f0,f1,f2,f3]) rfl (atom_par ha HC.out (PtQ.keep (kept_self (fun b (hb:w3.heap.size≤b)=>Nat.le_trans HB3.out.gr.size hb)) _ _ HP8.out) ha2 hb2 HF.out (fun _=>⟨rfl,HC5.out⟩) HB8.out.post)
           · have hlb:decide ((n:Int) > 0)=false:=decide_eq_false (by omega)
             have hlc:decide ((0:Int)<(n:Int))=false:=decide_eq_false (by omega)
             have hld:decide (0<n)=false:=decide_eq_false hl
             go_region
             go_wp2_with fail
             have HB8:=hid ((HB7.out.set4 (.int .i64 o) (.int .i64 l) (.int .i64 h) (.slice av n cap)).grow (grow_drew (grow_self _)))
             have HP8:=hid (PtQ.keep (kept_grown (row:=none) (grow_drew (grow_self _)) (fun r hr=>by cases hr) (fun _ h _=>h)) _ _ (PtQ.set4 (B:=B) HP7.out (by have:=xL HB3.out.bx; omega) (.int .i64 o) (.int .i64 l) (.int .i64 h) (.slice av n cap)))
             clear g0 g1 g2 g3 z0 z1 z2 z3 b0 b1 b2 b3
             generalize World.drew _=w8 at HB8 HP8 ⊢
             have f0:=(HB8.out.cells 0).1
             have f1:=(HB8.out.cells 1).1
             have f2:=(HB8.out.cells 2).1
             have f3:=(HB8.out.cells 3).1
             simp only [xGe,xGz,xGs] at f0 f1 f2 f3
             rw [← HP.out]
             exact bodyPost_ret (v:=.tuple #[.agg #[.int .i64 o,.int .i64 l,.int .i64 h,.slice av n cap],.bool false]) (by simp [results,Tryz.results128,go_sem,f0,f1,f2,f3]) rfl (atom_par ha HC.out (PtQ.keep (kept_self (fun b (hb:w3.heap.size≤b)=>Nat.le_trans HB3.out.gr.size hb)) _ _ HP8.out) ha2 hb2 HF.out (fun h=>by cases h) HB8.out.post)
         · have hqo:(o == 2)=false:=beq_eq_false_iff_ne.2 ho2
           clear ho2
           by_cases ho3:o=3
           · have hqp:(o == 3)=true:=beq_iff_eq.2 ho3
             clear ho3
             go_region
             go_wp2_with fail
             have HB8:=hid ((HB7.out.set4 (.int .i64 o) (.int .i64 l) (.int .i64 h) (.slice av n cap)).grow (grow_drew (grow_self _)))
             have HP8:=hid (PtQ.keep (kept_grown (row:=none) (grow_drew (grow_self _)) (fun r hr=>by cases hr) (fun _ h _=>h)) _ _ (PtQ.set4 (B:=B) HP7.out (by have:=xL HB3.out.bx; omega) (.int .i64 o) (.int .i64 l) (.int .i64 h) (.slice av n cap)))
             clear g0 g1 g2 g3 z0 z1 z2 z3 b0 b1 b2 b3
             generalize World.drew _=w8 at HB8 HP8 ⊢
             have f0:=(HB8.out.cells 0).1
             have f1:=(HB8.out.cells 1).1
             have f2:=(HB8.out.cells 2).1
             have f3:=(HB8.out.cells 3).1
             simp only [xGe,xGz,xGs] at f0 f1 f2 f3
             rw [← HP.out]
             exact bodyPost_ret (v:=.tuple #[.agg #[.int .i64 o,.int .i64 l,.int .i64 h,.slice av n cap],.bool true]) (by simp [results,Tryz.results128,go_sem,f0,f1,f2,f3]) rfl (atom_par ha HC.out (PtQ.keep (kept_self (fun b (hb:w3.heap.size≤b)=>Nat.le_trans HB3.out.gr.size hb)) _ _ HP8.out) ha2 hb2 HF.out (fun _=>⟨rfl,HC5.out⟩) HB8.out.post)
           · have hqp:(o == 3)=false:=beq_eq_false_iff_ne.2 ho3
             clear ho3
             go_region
             go_wp2_with fail
             have HB8:=hid ((HB7.out.set4 (.int .i64 o) (.int .i64 l) (.int .i64 h) (.slice av n cap)).grow (grow_drew (grow_self _)))
             have HP8:=hid (PtQ.keep (kept_grown (row:=none) (grow_drew (grow_self _)) (fun r hr=>by cases hr) (fun _ h _=>h)) _ _ (PtQ.set4 (B:=B) HP7.out (by have:=xL HB3.out.bx; omega) (.int .i64 o) (.int .i64 l) (.int .i64 h) (.slice av n cap)))
             clear g0 g1 g2 g3 z0 z1 z2 z3 b0 b1 b2 b3
             generalize World.drew _=w8 at HB8 HP8 ⊢
             have f0:=(HB8.out.cells 0).1
             have f1:=(HB8.out.cells 1).1
             have f2:=(HB8.out.cells 2).1
             have f3:=(HB8.out.cells 3).1
             simp only [xGe,xGz,xGs] at f0 f1 f2 f3
             rw [← HP.out]
             exact bodyPost_ret (v:=.tuple #[.agg #[.int .i64 o,.int .i64 l,.int .i64 h,.slice av n cap],.bool false]) (by simp [results,Tryz.results128,go_sem,f0,f1,f2,f3]) rfl (atom_par ha HC.out (PtQ.keep (kept_self (fun b (hb:w3.heap.size≤b)=>Nat.le_trans HB3.out.gr.size hb)) _ _ HP8.out) ha2 hb2 HF.out (fun h=>by cases h) HB8.out.post)
       · have hq5:(((pk s a2).toNat:Int) == 41)=false:=pk_ne 41 _ rfl h5
         clear h5
         generalize (pk s a2).toNat=c5 at hq5 ⊢
         go_wp2_with fail
         have hn3:¬ B2=B:=hBX.out.2
         have hn4:¬ B=B2:=fun e=>hBX.out.2 e.symm
         have HB7:=hid (HB6.out.stepz (a2+1) ((a2:Int)+1) (by omega))
         have HY7:=hid (show (w6.setCell ⟨X,1,none⟩ (.int .i64 ((a2:Int)+1))).heap[B2]? = some (.cells #[.int .i64 o,.int .i64 l,.int .i64 h,.slice av n cap] 28 (0,0)) from by rw [Below.heap_setCell _ _ _ _ (fun e=>hBX.out.1 (by simpa using e))]; exact HY6.out)
         have HP7:=hid (PtQ.keep (kept_set (Q:=fun b=>w3.heap.size≤b) ⟨X,1,none⟩ (.int .i64 ((a2:Int)+1)) (by simpa using xL HB3.out.rd)) _ _ HP6.out)
         clear c0 c1 fx
         generalize World.setCell _ _ _=w7 at HB7 HY7 HP7 ⊢
         obtain ⟨g0,g1,g2,g3⟩:=cb4 HY7.out
         have b0:=(HB7.out.cells 0).1
         have b1:=(HB7.out.cells 1).1
         have b2:=(HB7.out.cells 2).1
         have b3:=(HB7.out.cells 3).1
         have z0:=(HB7.out.cells 0).2
         have z1:=(HB7.out.cells 1).2
         have z2:=(HB7.out.cells 2).2
         have z3:=(HB7.out.cells 3).2
         simp only [xGe,xGz,xGs] at b0 b1 b2 b3
         go_region
         go_wp2_with fail
         have HB8:=hid ((HB7.out.set4 (.int .i64 o) (.int .i64 l) (.int .i64 h) (.slice av n cap)).grow (grow_drew (grow_self _)))
         have HP8:=hid (PtQ.keep (kept_grown (row:=none) (grow_drew (grow_self _)) (fun r hr=>by cases hr) (fun _ h _=>h)) _ _ (PtQ.set4 (B:=B) HP7.out (by have:=xL HB3.out.bx; omega) (.int .i64 o) (.int .i64 l) (.int .i64 h) (.slice av n cap)))
         clear g0 g1 g2 g3 z0 z1 z2 z3 b0 b1 b2 b3
         generalize World.drew _=w8 at HB8 HP8 ⊢
         have f0:=(HB8.out.cells 0).1
         have f1:=(HB8.out.cells 1).1
         have f2:=(HB8.out.cells 2).1
         have f3:=(HB8.out.cells 3).1
         simp only [xGe,xGz,xGs] at f0 f1 f2 f3
         rw [← HP.out]
         exact bodyPost_ret (v:=.tuple #[.agg #[.int .i64 o,.int .i64 l,.int .i64 h,.slice av n cap],.bool false]) (by simp [results,Tryz.results128,go_sem,f0,f1,f2,f3]) rfl (atom_par ha HC.out (PtQ.keep (kept_self (fun b (hb:w3.heap.size≤b)=>Nat.le_trans HB3.out.gr.size hb)) _ _ HP8.out) ha2 hb2 HF.out (fun h=>by cases h) HB8.out.post)
 · by_cases h91:pk s a=91
   · have HC:=hid h91
     have hq1:(((pk s a).toNat:Int) == 40)=false:=pk_ne 40 _ rfl h40
     have hq2:(((pk s a).toNat:Int) == 91)=true:=by rw [h91]; rfl
     clear h40 h91
     go_enter Tryz.func128,Tryz.ntmps128
     go_wp2_with fail
     have HB0:=hid (BoxR.new #[.int .i64 0,.int .i64 0,.int .i64 0,.slice none 0 0] HR.out HX.out)
     generalize w.alloc _=w0 at HB0 ⊢
     generalize w.heap.size=B at HB0 ⊢
     refine (peek_any X s a w0 HB0.out.rd).mono ?_
     rintro e w1 ⟨rfl,k,rfl⟩
     have HB1:=hid (HB0.out.grow (show w0.grownBy (w0.drewN k) none from ⟨rfl,rfl,rfl,Nat.le_refl _,fun _ _ _=>rfl⟩))
     generalize w0.drewN k=w1 at HB1 ⊢
     generalize (pk s a).toNat=c at hq1 hq2 ⊢
     have hS1:IntKind.i64.wrap ((a:Int)+1)=((a+1:Nat):Int):=(xI _ (by omega)).trans (by omega)
     obtain ⟨c0,c1,f1⟩:=HB1.out.rd.cells
     go_wp2_with fail
     have HB2:=hid (HB1.out.stepz (a+1) ((a:Int)+1) (by omega))
     generalize World.setCell _ _ _=w2 at HB2 ⊢
     clear c0 c1 f1
     refine (readOne_any X s (a+1) w2 HB2.out.rd HE.out (by omega) (by omega)).mono ?_
     rintro e w3 ⟨l,ok1,a2,rfl,hl,ha2,R2⟩
     have HA2:=hid ha2
     have HB3:=hid (HB2.out.call R2)
     have hn2:a2≤s.size+1:=(by have:=nxt_le s (a+1); omega)
     clear ha2 R2
     go_wp2_with fail
     refine (peek_any X s a2 w3 HB3.out.rd).mono ?_
     rintro e w4 ⟨rfl,k4,rfl⟩
     have HB4:=hid (HB3.out.grow (show w3.grownBy (w3.drewN k4) none from ⟨rfl,rfl,rfl,Nat.le_refl _,fun _ _ _=>rfl⟩))
     generalize w3.drewN k4=w4 at HB4 ⊢
     generalize (pk s a2).toNat=c4
     have hS2:IntKind.i64.wrap ((a2:Int)+1)=((a2+1:Nat):Int):=(xI _ (by omega)).trans (by omega)
     obtain ⟨c0,c1,f1⟩:=HB4.out.rd.cells
     go_wp2_with fail
     have HB5:=hid (HB4.out.stepz (a2+1) ((a2:Int)+1) (by omega))
     generalize World.setCell _ _ _=w5 at HB5 ⊢
     clear c0 c1 f1
     generalize ((c4:Int) == 45)=dash
     refine (readOne_any X s (a2+1) w5 HB5.out.rd HE.out (by omega) (by omega)).mono ?_
     rintro e w6 ⟨h,ok2,a3,rfl,hh,ha3,R6⟩
     have HA3:=hid ha3
     have HB6:=hid (HB5.out.call R6)
     have hn3:a3≤s.size+3:=(by have:=nxt_le s (a2+1); omega)
     clear ha3 R6
     have hS3:IntKind.i64.wrap ((a3:Int)+1)=((a3+1:Nat):Int):=(xI _ (by omega)).trans (by omega)
     rcases ok1 with _ | _
     · obtain ⟨c0,c1,fx⟩:=HB6.out.rd.cells
       have g0:=(HB6.out.cells 0).1
       have g1:=(HB6.out.cells 1).1
       have g2:=(HB6.out.cells 2).1
       have g3:=(HB6.out.cells 3).1
       have z0:=(HB6.out.cells 0).2
       have z1:=(HB6.out.cells 1).2
       have z2:=(HB6.out.cells 2).2
       have z3:=(HB6.out.cells 3).2
       simp only [xGe,xGz,xGs] at g0 g1 g2 g3
       have hne:¬ B=X:=fun e=>(by have:=HB6.out.lo; have:=HB6.out.xl; omega)
       have hne2:¬ X=B:=fun e=>hne e.symm
       go_wp2_with fail
       have HB8:=hid ((HB6.out.stepz (a3+1) ((a3:Int)+1) (by omega)).set4 (.int .i64 1) (.int .i64 l) (.int .i64 h) (.slice none 0 0))
       clear g0 g1 g2 g3 z0 z1 z2 z3 c0 c1 fx hne hne2
       generalize World.setCell _ _ _=w8 at HB8 ⊢
       have f0:=(HB8.out.cells 0).1
       have f1:=(HB8.out.cells 1).1
       have f2:=(HB8.out.cells 2).1
       have f3:=(HB8.out.cells 3).1
       simp only [xGe,xGz,xGs] at f0 f1 f2 f3
       rw [← HP.out]
       exact bodyPost_ret (v:=.tuple #[.agg #[.int .i64 1,.int .i64 l,.int .i64 h,.slice none 0 0],.bool false]) (by simp [results,Tryz.results128,go_sem,f0,f1,f2,f3]) rfl (atom_set ha HC.out HA2.out HA3.out hl hh HB8.out.post)
     rcases ok2 with _ | _
     · obtain ⟨c0,c1,fx⟩:=HB6.out.rd.cells
       have g0:=(HB6.out.cells 0).1
       have g1:=(HB6.out.cells 1).1
       have g2:=(HB6.out.cells 2).1
       have g3:=(HB6.out.cells 3).1
       have z0:=(HB6.out.cells 0).2
       have z1:=(HB6.out.cells 1).2
       have z2:=(HB6.out.cells 2).2
       have z3:=(HB6.out.cells 3).2
       simp only [xGe,xGz,xGs] at g0 g1 g2 g3
       have hne:¬ B=X:=fun e=>(by have:=HB6.out.lo; have:=HB6.out.xl; omega)
       have hne2:¬ X=B:=fun e=>hne e.symm
       go_wp2_with fail
       have HB8:=hid ((HB6.out.stepz (a3+1) ((a3:Int)+1) (by omega)).set4 (.int .i64 1) (.int .i64 l) (.int .i64 h) (.slice none 0 0))
       clear g0 g1 g2 g3 z0 z1 z2 z3 c0 c1 fx hne hne2
       generalize World.setCell _ _ _=w8 at HB8 ⊢
       have f0:=(HB8.out.cells 0).1
       have f1:=(HB8.out.cells 1).1
       have f2:=(HB8.out.cells 2).1
       have f3:=(HB8.out.cells 3).1
       simp only [xGe,xGz,xGs] at f0 f1 f2 f3
       rw [← HP.out]
       exact bodyPost_ret (v:=.tuple #[.agg #[.int .i64 1,.int .i64 l,.int .i64 h,.slice none 0 0],.bool false]) (by simp [results,Tryz.results128,go_sem,f0,f1,f2,f3]) rfl (atom_set ha HC.out HA2.out HA3.out hl hh HB8.out.post)
     rcases dash with _ | _
     · obtain ⟨c0,c1,fx⟩:=HB6.out.rd.cells
       have g0:=(HB6.out.cells 0).1
       have g1:=(HB6.out.cells 1).1
       have g2:=(HB6.out.cells 2).1
       have g3:=(HB6.out.cells 3).1
       have z0:=(HB6.out.cells 0).2
       have z1:=(HB6.out.cells 1).2
       have z2:=(HB6.out.cells 2).2
       have z3:=(HB6.out.cells 3).2
       simp only [xGe,xGz,xGs] at g0 g1 g2 g3
       have hne:¬ B=X:=fun e=>(by have:=HB6.out.lo; have:=HB6.out.xl; omega)
       have hne2:¬ X=B:=fun e=>hne e.symm
       go_wp2_with fail
       have HB8:=hid ((HB6.out.stepz (a3+1) ((a3:Int)+1) (by omega)).set4 (.int .i64 1) (.int .i64 l) (.int .i64 h) (.slice none 0 0))
       clear g0 g1 g2 g3 z0 z1 z2 z3 c0 c1 fx hne hne2
       generalize World.setCell _ _ _=w8 at HB8 ⊢
       have f0:=(HB8.out.cells 0).1
       have f1:=(HB8.out.cells 1).1
       have f2:=(HB8.out.cells 2).1
       have f3:=(HB8.out.cells 3).1
       simp only [xGe,xGz,xGs] at f0 f1 f2 f3
       rw [← HP.out]
       exact bodyPost_ret (v:=.tuple #[.agg #[.int .i64 1,.int .i64 l,.int .i64 h,.slice none 0 0],.bool false]) (by simp [results,Tryz.results128,go_sem,f0,f1,f2,f3]) rfl (atom_set ha HC.out HA2.out HA3.out hl hh HB8.out.post)
     go_wp2_with fail
     refine (peek_any X s a3 w6 HB6.out.rd).mono ?_
     rintro e w7 ⟨rfl,k7,rfl⟩
     have HB7:=hid (HB6.out.grow (show w6.grownBy (w6.drewN k7) none from ⟨rfl,rfl,rfl,Nat.le_refl _,fun _ _ _=>rfl⟩))
     generalize w6.drewN k7=w7 at HB7 ⊢
     generalize (pk s a3).toNat=c7
     have hqB:∃ q1,((c7:Int) == 93)=q1:=⟨_,rfl⟩
     obtain ⟨q1,hq3⟩:=hqB
     rcases q1 with _ | _
     · obtain ⟨c0,c1,fx⟩:=HB7.out.rd.cells
       have g0:=(HB7.out.cells 0).1
       have g1:=(HB7.out.cells 1).1
       have g2:=(HB7.out.cells 2).1
       have g3:=(HB7.out.cells 3).1
       have z0:=(HB7.out.cells 0).2
       have z1:=(HB7.out.cells 1).2
       have z2:=(HB7.out.cells 2).2
       have z3:=(HB7.out.cells 3).2
       simp only [xGe,xGz,xGs] at g0 g1 g2 g3
       have hne:¬ B=X:=fun e=>(by have:=HB7.out.lo; have:=HB7.out.xl; omega)
       have hne2:¬ X=B:=fun e=>hne e.symm
       go_wp2_with fail
       have HB8:=hid ((HB7.out.stepz (a3+1) ((a3:Int)+1) (by omega)).set4 (.int .i64 1) (.int .i64 l) (.int .i64 h) (.slice none 0 0))
       clear g0 g1 g2 g3 z0 z1 z2 z3 c0 c1 fx hne hne2
       generalize World.setCell _ _ _=w8 at HB8 ⊢
       have f0:=(HB8.out.cells 0).1
       have f1:=(HB8.out.cells 1).1
       have f2:=(HB8.out.cells 2).1
       have f3:=(HB8.out.cells 3).1
       simp only [xGe,xGz,xGs] at f0 f1 f2 f3
       rw [← HP.out]
       exact bodyPost_ret (v:=.tuple #[.agg #[.int .i64 1,.int .i64 l,.int .i64 h,.slice none 0 0],.bool false]) (by simp [results,Tryz.results128,go_sem,f0,f1,f2,f3]) rfl (atom_set ha HC.out HA2.out HA3.out hl hh HB8.out.post)
     · obtain ⟨c0,c1,fx⟩:=HB7.out.rd.cells
       have g0:=(HB7.out.cells 0).1
       have g1:=(HB7.out.cells 1).1
       have g2:=(HB7.out.cells 2).1
       have g3:=(HB7.out.cells 3).1
       have z0:=(HB7.out.cells 0).2
       have z1:=(HB7.out.cells 1).2
       have z2:=(HB7.out.cells 2).2
       have z3:=(HB7.out.cells 3).2
       simp only [xGe,xGz,xGs] at g0 g1 g2 g3
       have hne:¬ B=X:=fun e=>(by have:=HB7.out.lo; have:=HB7.out.xl; omega)
       have hne2:¬ X=B:=fun e=>hne e.symm
       go_wp2_with fail
       have HB8:=hid ((HB7.out.stepz (a3+1) ((a3:Int)+1) (by omega)).set4 (.int .i64 1) (.int .i64 l) (.int .i64 h) (.slice none 0 0))
       clear g0 g1 g2 g3 z0 z1 z2 z3 c0 c1 fx hne hne2
       generalize World.setCell _ _ _=w8 at HB8 ⊢
       have f0:=(HB8.out.cells 0).1
       have f1:=(HB8.out.cells 1).1
       have f2:=(HB8.out.cells 2).1
       have f3:=(HB8.out.cells 3).1
       simp only [xGe,xGz,xGs] at f0 f1 f2 f3
       rw [← HP.out]
       exact bodyPost_ret (v:=.tuple #[.agg #[.int .i64 1,.int .i64 l,.int .i64 h,.slice none 0 0],.bool ((l:Int) != (h:Int))]) (by simp [results,Tryz.results128,go_sem,f0,f1,f2,f3]) rfl (atom_set ha HC.out HA2.out HA3.out hl hh HB8.out.post)
   · have HC:=hid (And.intro h40 h91)
     have hq1:(((pk s a).toNat:Int) == 40)=false:=pk_ne 40 _ rfl h40
     have hq2:(((pk s a).toNat:Int) == 91)=false:=pk_ne 91 _ rfl h91
     clear h40 h91
     go_enter Tryz.func128,Tryz.ntmps128
     go_wp2_with fail
     have HB0:=hid (BoxR.new #[.int .i64 0,.int .i64 0,.int .i64 0,.slice none 0 0] HR.out HX.out)
     generalize w.alloc _=w0 at HB0 ⊢
     generalize w.heap.size=B at HB0 ⊢
     refine (peek_any X s a w0 HB0.out.rd).mono ?_
     rintro e w1 ⟨rfl,k,rfl⟩
     have HB1:=hid (HB0.out.grow (show w0.grownBy (w0.drewN k) none from ⟨rfl,rfl,rfl,Nat.le_refl _,fun _ _ _=>rfl⟩))
     generalize w0.drewN k=w1 at HB1 ⊢
     generalize (pk s a).toNat=c at hq1 hq2 ⊢
     go_wp2_with fail
     refine (readOne_any X s a w1 HB1.out.rd HE.out (by omega) (by omega)).mono ?_
     rintro e w2 ⟨c2,ok,a2,rfl,hc2,ha2,R2⟩
     have HA2:=hid ha2
     have HB2:=hid (HB1.out.call R2)
     clear ha2 R2
     have f0:=(HB2.out.cells 0).1
     have f1:=(HB2.out.cells 1).1
     have f2:=(HB2.out.cells 2).1
     have f3:=(HB2.out.cells 3).1
     have z0:=(HB2.out.cells 0).2
     have z1:=(HB2.out.cells 1).2
     have z2:=(HB2.out.cells 2).2
     have z3:=(HB2.out.cells 3).2
     simp only [xGe,xGz,xGs] at f0 f1 f2 f3
     go_wp2_with fail
     have HB3:=hid (HB2.out.set4 (.int .i64 1) (.int .i64 c2) (.int .i64 c2) (.slice none 0 0))
     clear f0 f1 f2 f3 z0 z1 z2 z3
     generalize World.setCell _ _ _=w3 at HB3 ⊢
     have f0:=(HB3.out.cells 0).1
     have f1:=(HB3.out.cells 1).1
     have f2:=(HB3.out.cells 2).1
     have f3:=(HB3.out.cells 3).1
     simp only [xGe,xGz,xGs] at f0 f1 f2 f3
     rw [← HP.out]
     exact bodyPost_ret (v:=.tuple #[.agg #[.int .i64 1,.int .i64 c2,.int .i64 c2,.slice none 0 0],.bool ok]) (by simp [results,Tryz.results128,go_sem,f0,f1,f2,f3]) rfl (atom_leaf ha hc2 HA2.out HC.out.1 N41.out N124.out HC.out.2 HB3.out.post)
end Go.Proofs.YtplbacfjmajeeaaGreatDoor
