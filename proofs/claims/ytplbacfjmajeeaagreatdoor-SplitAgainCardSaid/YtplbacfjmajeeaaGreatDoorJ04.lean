import Derived.Test.YtplbacfjmajeeaaGreatDoorJ02
import Derived.Deep.DeepCutAuto
namespace Go.Proofs.YtplbacfjmajeeaaGreatDoor
open Go.Lib (hid)
set_option maxHeartbeats 4000000
set_option maxRecDepth 100000
open Go.RowKit
mutual
def PtQ (Q:Nat→Prop) (w:World):Pt→Value→Prop
 | .mk o l h ps,v=>∃ av cap,v=.agg #[.int .i64 o,.int .i64 l,.int .i64 h,.slice av ps.length cap]∧(ps=[]∨∃ b off,av=some ⟨b,off,none⟩∧Q b∧PtsQ Q w ps b off)
def PtsQ (Q:Nat→Prop) (w:World):List Pt→Nat→Nat→Prop
 | [],_,_=>True
 | a::ps,b,off=>(∃ v,At4 w b off v∧PtQ Q w a v)∧PtsQ Q w ps b (off+4)
end
mutual
theorem PtQ.at_ {Q:Nat→Prop} {w:World}:(p:Pt)→(v:Value)→PtQ Q w p v→PtAt w p v
 | .mk o l h ps,v,hp=>by
  obtain ⟨av,cap,hv,ha⟩:=hp
  refine ⟨av,cap,hv,?_⟩
  rcases ha with ha | ⟨b,off,hb,_,ha⟩
  · exact .inl ha
  · exact .inr ⟨b,off,hb,PtsQ.at_ ps b off ha⟩
theorem PtsQ.at_ {Q:Nat→Prop} {w:World}:(ps:List Pt)→(b off:Nat)→PtsQ Q w ps b off→PtsAt w ps b off
 | [],_,_,_=>trivial
 | a::ps,b,off,h=>⟨by obtain ⟨v,h1,h2⟩:=h.1; exact ⟨v,h1,PtQ.at_ a v h2⟩,PtsQ.at_ ps b (off+4) h.2⟩
end
def KeptQ (Q Q':Nat→Prop) (w w':World):Prop:=∀ b,Q b→b<w.heap.size→Q' b∧∀ o v,w.cell? ⟨b,o,none⟩=some v→w'.cell? ⟨b,o,none⟩=some v
mutual
theorem PtQ.keep {Q Q':Nat→Prop} {w w':World} (H:KeptQ Q Q' w w'):(p:Pt)→(v:Value)→PtQ Q w p v→PtQ Q' w' p v
 | .mk o l h ps,v,hp=>by
  obtain ⟨av,cap,hv,ha⟩:=hp
  refine ⟨av,cap,hv,?_⟩
  rcases ha with ha | ⟨b,off,hb,hq,ha⟩
  · exact .inl ha
  · cases ps with
    | nil=>exact .inl rfl
    | cons a ps =>
     have hlt:b<w.heap.size:=by
      obtain ⟨v1,⟨c0,_,_,_,_,h0,_⟩,_⟩:=ha.1
      exact World.block_lt_of_cell? w _ h0
     exact .inr ⟨b,off,hb,(H b hq hlt).1,PtsQ.keep H (a::ps) b off hq hlt ha⟩
theorem PtsQ.keep {Q Q':Nat→Prop} {w w':World} (H:KeptQ Q Q' w w'):(ps:List Pt)→(b off:Nat)→Q b→b<w.heap.size→PtsQ Q w ps b off→PtsQ Q' w' ps b off
 | [],_,_,_,_,_=>trivial
 | a :: ps, b, off, hq, hlt, h => ⟨by
     obtain ⟨v,⟨c0,c1,c2,c3,hv,h0,h1,h2,h3⟩,hp⟩:=h.1
     exact ⟨v,⟨c0,c1,c2,c3,hv,(H b hq hlt).2 _ _ h0,(H b hq hlt).2 _ _ h1,(H b hq hlt).2 _ _ h2,(H b hq hlt).2 _ _ h3⟩,PtQ.keep H a v hp⟩,PtsQ.keep H ps b (off+4) hq hlt h.2⟩
end
def PatPost (b:Nat) (av:Option Addr) (cap:Nat) (xs:List Int) (w:World) (k n sz m:Nat) (e:Ending) (w':World):Prop :=
 ∃ (p:Pt) (v:Value) (k':Nat),e=.returned v∧PtQ (fun c=>w.heap.size≤c) w' p v∧p.leaves≤n∧p.size≤sz∧k'≤k+m∧Sto b av cap xs w w' k'
theorem leaf_at (Q:Nat→Prop) (w:World) (lo hi:Int):PtQ Q w (.mk 1 lo hi []) (.agg #[.int .i64 1,.int .i64 lo,.int .i64 hi,.slice none 0 0]):=⟨none,0,rfl,.inl rfl⟩
theorem pick_at {b:Nat} {av:Option Addr} {cap k:Nat} {xs:List Int} {w:World} (p n:Nat) (ls:List Int) (hn:n=ls.length) (hl:1≤ls.length) (hl2:ls.length≤1000000) (hp:p≠b)
 (hb:w.heap[p]? = some (.cells (ls.map (Value.int .i64)).toArray 3 (0,0))) (hk:k≤1073741824) (hx2:xs.length≤9223372036854775807) (S:Strm b av cap xs w k) :
 Calls Tryz.prog 35 #[.pointer (some ⟨b,0,none⟩),.slice (some ⟨p,0,none⟩) n n] w fun e w'=>e=.returned (.int .i64 (pickv xs k ls))∧Sto b av cap xs w w' (k+1):=by
 subst hn
 refine pick_any p ls.length ls hl hl2 hp (fun j hj=>?_) hk hx2 S
 rw [xC hb j]
 simp [List.getD,hj]
structure Mk (b:Nat) (av:Option Addr) (cap:Nat) (xs:List Int) (w:World) (R L:Nat) (W:World) (k':Nat) (C:Array Value):Prop where
 sto:Sto b av cap xs w W k'
 own:b<w.heap.size
 old:Strm b av cap xs w k'∨∃ k,Strm b av cap xs w k
 rlo:w.heap.size≤R
 llo:w.heap.size≤L
 ne:R≠L
 res:W.heap[R]? = some (.cells #[.int .i64 0,.int .i64 0,.int .i64 0,.slice none 0 0] 28 (0,0))
 pat:W.heap[L]? = some (.cells C 28 (0,0))
theorem Mk.call {b av cap xs w R L W k' C} (h:Mk b av cap xs w R L W k' C) {W':World} {k2:Nat} (T:Sto b av cap xs W W' k2):Mk b av cap xs w R L W' k2 C :=
 ⟨h.sto.trans T,h.own,.inr (h.old.elim (fun s=>⟨_,s⟩) id),h.rlo,h.llo,h.ne,T.kept h.res (by have:=h.own; have:=h.rlo; omega),T.kept h.pat (by have:=h.own; have:=h.llo; omega)⟩
theorem Mk.alloc {b av cap xs w R L W k' C} (h:Mk b av cap xs w R L W k' C) (o:Obj):Mk b av cap xs w R L (W.alloc o) k' C :=
 ⟨h.sto.alloc o,h.own,h.old,h.rlo,h.llo,h.ne,grow_new (xG _ _ _) h.res,grow_new (xG _ _ _) h.pat⟩
theorem Mk.set {b av cap xs w R L W k' C} (h:Mk b av cap xs w R L W k' C) (i:Nat) (u:Value):Mk b av cap xs w R L (W.setCell ⟨L,i,none⟩ u) k' (C.setIfInBounds i u):=by
 obtain ⟨k,S⟩:∃ k,Strm b av cap xs w k:=h.old.elim (fun s=>⟨_,s⟩) id
 refine ⟨h.sto.setCell S _ _ h.llo,h.own,h.old,h.rlo,h.llo,h.ne,?_,yhs h.pat i u⟩
 rw [Below.heap_setCell _ _ _ _ h.ne]
 exact h.res
theorem Mk.fin {b av cap xs w R L W k' c0 c1 c2 c3} (h:Mk b av cap xs w R L W k' #[c0,c1,c2,c3]) (W':World)
 (hW:(((W.setCell ⟨R,0,none⟩ c0).setCell ⟨R,1,none⟩ c1).setCell ⟨R,2,none⟩ c2).setCell ⟨R,3,none⟩ c3=W') :
 Sto b av cap xs w W' k'∧W'.cell? ⟨R,0,none⟩=some c0∧W'.cell? ⟨R,1,none⟩=some c1∧W'.cell? ⟨R,2,none⟩=some c2∧W'.cell? ⟨R,3,none⟩=some c3:=by
 obtain ⟨k,S⟩:∃ k,Strm b av cap xs w k:=h.old.elim (fun s=>⟨_,s⟩) id
 have s4:=(((h.sto.setCell S ⟨R,0,none⟩ c0 h.rlo).setCell S ⟨R,1,none⟩ c1 h.rlo).setCell S ⟨R,2,none⟩ c2 h.rlo).setCell S ⟨R,3,none⟩ c3 h.rlo
 have b4:=yhs (yhs (yhs (yhs h.res 0 c0) 1 c1) 2 c2) 3 c3
 rw [hW] at s4 b4
 simp only [xSi,xSs,xSz] at b4
 exact ⟨s4,xC b4 0,xC b4 1,xC b4 2,xC b4 3⟩
theorem apat_leaf {b:Nat} {av:Option Addr} {cap:Nat} {xs:List Int} (hx2:xs.length≤9223372036854775807) (d:Nat) (k:Nat) (w:World) (hk:k≤1000000) (hd:d<2) (S:Strm b av cap xs w k) (P:Ending→World→Prop) (hP:P=PatPost b av cap xs w k 1 1 10) :
 Calls Tryz.prog 6 #[.pointer (some ⟨b,0,none⟩),.int .i64 d] w P:=by
 have hd0:(d:Int)<2:=by omega
 have HPP:=hid hP
 have hlt:=S.lt
 have A0:((w.alloc (.cells #[.int .i64 0,.int .i64 0,.int .i64 0,.slice none 0 0] 28)).alloc (.cells #[.int .i64 97,.int .i64 97,.int .i64 98,.int .i64 48,.int .i64 32,.int .i64 10,.int .i64 0,.int .i64 255,.int .i64 42] 3)).heap[w.heap.size]? = some (.cells #[.int .i64 0,.int .i64 0,.int .i64 0,.slice none 0 0] 28 (0,0)):=grow_new (xG _ _ _) (xN w _)
 have A1:((w.alloc (.cells #[.int .i64 0,.int .i64 0,.int .i64 0,.slice none 0 0] 28)).alloc (.cells #[.int .i64 97,.int .i64 97,.int .i64 98,.int .i64 48,.int .i64 32,.int .i64 10,.int .i64 0,.int .i64 255,.int .i64 42] 3)).heap[w.heap.size+1]? = some (.cells #[.int .i64 97,.int .i64 97,.int .i64 98,.int .i64 48,.int .i64 32,.int .i64 10,.int .i64 0,.int .i64 255,.int .i64 42] 3 (0,0)):=yhn _ _ _ (by simp)
 have T0:=((Sto.refl S).alloc (.cells #[.int .i64 0,.int .i64 0,.int .i64 0,.slice none 0 0] 28)).alloc (.cells #[.int .i64 97,.int .i64 97,.int .i64 98,.int .i64 48,.int .i64 32,.int .i64 10,.int .i64 0,.int .i64 255,.int .i64 42] 3)
 have HS:=hid S
 clear S hP
 go_enter Tryz.func6,Tryz.ntmps6
 go_wp2_with fail
 generalize (w.alloc _).alloc _=W at A0 A1 T0 ⊢
 refine (pick_at (w.heap.size+1) 9 [97,97,98,48,32,10,0,255,42] rfl (by simp) (by simp) (by omega) A1 (show k≤1073741824 by omega) hx2 T0.strm).mono ?_
 rintro e w1 ⟨rfl,T1⟩
 have hlo:0≤pickv xs (k) [97,97,98,48,32,10,0,255,42]∧pickv xs (k) [97,97,98,48,32,10,0,255,42]≤255:=pickv_all (fun x=>0≤x∧x≤255) xs (k) [97,97,98,48,32,10,0,255,42] (by simp) (by simp)
 generalize pickv xs (k) [97,97,98,48,32,10,0,255,42]=lo at hlo ⊢
 obtain ⟨hlo1,hlo2⟩:=hlo
 have B0:=T1.kept A0 (by omega)
 have hL:=xL B0
 have M1:Mk b av cap xs w w.heap.size w1.heap.size (w1.alloc (.cells #[.int .i64 1,.int .i64 lo,.int .i64 lo,.slice none 0 0] 28)) (k+1) #[.int .i64 1,.int .i64 lo,.int .i64 lo,.slice none 0 0] :=
  ⟨(T0.trans T1).alloc _,hlt,.inr ⟨k,HS.out⟩,Nat.le_refl _,by omega,by omega,grow_new (xG _ _ _) B0,xN _ _⟩
 have HM1:=hid M1
 clear A0 A1 T0 T1 B0 M1
 go_wp2_with fail
 generalize w1.alloc _=W2 at HM1 ⊢
 generalize w1.heap.size=L at hL HM1 ⊢
 refine (flip_any 3 (by decide) (show k+1≤1073741824 by omega) hx2 HM1.out.sto.strm).mono ?_
 rintro e w3 ⟨rfl,T3⟩
 have HM3:=hid (HM1.out.call T3)
 have fz3:=yfb HM3.out.pat 2
 clear T3 HM1
 generalize flipv xs (k+1) 3=f1
 rcases f1 with _ | _
 · have HMx:=HM3
   clear HM3
   go_wp2_with fail
   refine (flip_any 80 (by decide) (show k+1+1≤1073741824 by omega) hx2 HMx.out.sto.strm).mono ?_
   rintro e w5 ⟨rfl,T5⟩
   have HM5:=hid (HMx.out.call T5)
   clear T5 HMx
   generalize flipv xs (k+1+1) 80=f2
   rcases f2 with _ | _
   · have HM9:=HM5
     obtain ⟨cR0,cR1,cR2,cR3⟩:=cb4 HM9.out.res
     obtain ⟨fR0,fR1,fR2,fR3⟩:=fb4 HM9.out.res
     obtain ⟨cL0,cL1,cL2,cL3⟩:=cb4 HM9.out.pat
     go_wp2_with fail
     have HF:=hid (HM9.out.fin)
     generalize hw9:(((World.setCell _ _ _).setCell _ _).setCell _ _).setCell _ _=w9
     obtain ⟨s9,r0,r1,r2,r3⟩:=HF.out _ hw9
     exact bodyPost_ret (v:=.agg #[.int .i64 1,.int .i64 (lo),.int .i64 (lo),.slice none 0 0]) (by simp [results,Tryz.results6,go_sem,r0,r1,r2,r3]) rfl (by rw [HPP.out]; exact ⟨.mk 1 (lo) (lo) [],_,_,rfl,leaf_at _ _ _ _,by simp [Pt.leaves],by simp [Pt.size,sizes],by omega,s9⟩)
   · go_wp2_with fail
     refine (pick_new [-1,256,97] (by simp) (by simp) (show k+1+1+1≤1073741824 by omega) hx2 HM5.out.sto.strm).mono ?_
     rintro e w6 ⟨rfl,T6⟩
     have HM6:=hid (HM5.out.call T6)
     clear T6 HM5
     generalize pickv xs (k+1+1+1) _=lo2
     go_wp2_with fail
     refine (pick_new [96,97,300] (by simp) (by simp) (show k+1+1+1+1≤1073741824 by omega) hx2 HM6.out.sto.strm).mono ?_
     rintro e w7 ⟨rfl,T7⟩
     have HM7:=hid (HM6.out.call T7)
     clear T7 HM6
     generalize pickv xs (k+1+1+1+1) _=hi2
     have f71:=yfb HM7.out.pat 1
     have f72:=yfb HM7.out.pat 2
     have c71:=xC HM7.out.pat 1
     have c72:=xC HM7.out.pat 2
     simp only [xGe,xGz,xGs] at c71 c72
     have HM9:=hid ((HM7.out.set 1 (.int .i64 lo2)).set 2 (.int .i64 hi2))
     simp only [xSi,xSs,xSz] at HM9
     go_upto_region 8 with (fail)
     generalize (w7.setCell _ _).setCell _ _=w8 at HM9 ⊢
     clear f71 f72 c71 c72 HM7
     obtain ⟨cR0,cR1,cR2,cR3⟩:=cb4 HM9.out.res
     obtain ⟨fR0,fR1,fR2,fR3⟩:=fb4 HM9.out.res
     obtain ⟨cL0,cL1,cL2,cL3⟩:=cb4 HM9.out.pat
     go_wp2_with fail
     have HF:=hid (HM9.out.fin)
     generalize hw9:(((World.setCell _ _ _).setCell _ _).setCell _ _).setCell _ _=w9
     obtain ⟨s9,r0,r1,r2,r3⟩:=HF.out _ hw9
     exact bodyPost_ret (v:=.agg #[.int .i64 1,.int .i64 (lo2),.int .i64 (hi2),.slice none 0 0]) (by simp [results,Tryz.results6,go_sem,r0,r1,r2,r3]) rfl (by rw [HPP.out]; exact ⟨.mk 1 (lo2) (hi2) [],_,_,rfl,leaf_at _ _ _ _,by simp [Pt.leaves],by simp [Pt.size,sizes],by omega,s9⟩)
 · go_wp2_with fail
   refine (range_any 0 9 (by omega) (by omega) (show k+1+1≤1073741824 by omega) hx2 HM3.out.sto.strm).mono ?_
   rintro e w4 ⟨rfl,T4⟩
   have hr:=rangev_bd xs (k+1+1) 0 9
   have hrk:=rangek_le (k+1+1) 0 9
   generalize rangev xs (k+1+1) 0 9=r at hr ⊢
   generalize rangek (k+1+1) 0 9=k4 at hrk T4
   have hr2:=hr.2 (by omega)
   replace hr:=hr.1
   have HM4:=hid (HM3.out.call T4)
   have fz4:=yfb HM4.out.pat 2
   have cl4:=xC HM4.out.pat 2
   simp only [xGe,xGz,xGs] at cl4
   clear HM3 T4
   by_cases hm:lo+r≤255
   · go_wp2_with fail
     have HMx:=hid (HM4.out.set 2 (.int .i64 (lo+r)))
     simp only [xSi,xSs,xSz] at HMx
     generalize w4.setCell _ _=w4b at HMx ⊢
     clear HM4 cl4 fz4
     refine (flip_any 80 (by decide) (show k4≤1073741824 by omega) hx2 HMx.out.sto.strm).mono ?_
     rintro e w5 ⟨rfl,T5⟩
     have HM5:=hid (HMx.out.call T5)
     clear T5 HMx
     generalize flipv xs (k4) 80=f2
     rcases f2 with _ | _
     · have HM9:=HM5
       obtain ⟨cR0,cR1,cR2,cR3⟩:=cb4 HM9.out.res
       obtain ⟨fR0,fR1,fR2,fR3⟩:=fb4 HM9.out.res
       obtain ⟨cL0,cL1,cL2,cL3⟩:=cb4 HM9.out.pat
       go_wp2_with fail
       have HF:=hid (HM9.out.fin)
       generalize hw9:(((World.setCell _ _ _).setCell _ _).setCell _ _).setCell _ _=w9
       obtain ⟨s9,r0,r1,r2,r3⟩:=HF.out _ hw9
       exact bodyPost_ret (v:=.agg #[.int .i64 1,.int .i64 (lo),.int .i64 (lo+r),.slice none 0 0]) (by simp [results,Tryz.results6,go_sem,r0,r1,r2,r3]) rfl (by rw [HPP.out]; exact ⟨.mk 1 (lo) (lo+r) [],_,_,rfl,leaf_at _ _ _ _,by simp [Pt.leaves],by simp [Pt.size,sizes],by omega,s9⟩)
     · go_wp2_with fail
       refine (pick_new [-1,256,97] (by simp) (by simp) (show k4+1≤1073741824 by omega) hx2 HM5.out.sto.strm).mono ?_
       rintro e w6 ⟨rfl,T6⟩
       have HM6:=hid (HM5.out.call T6)
       clear T6 HM5
       generalize pickv xs (k4+1) _=lo2
       go_wp2_with fail
       refine (pick_new [96,97,300] (by simp) (by simp) (show k4+1+1≤1073741824 by omega) hx2 HM6.out.sto.strm).mono ?_
       rintro e w7 ⟨rfl,T7⟩
       have HM7:=hid (HM6.out.call T7)
       clear T7 HM6
       generalize pickv xs (k4+1+1) _=hi2
       have f71:=yfb HM7.out.pat 1
       have f72:=yfb HM7.out.pat 2
       have c71:=xC HM7.out.pat 1
       have c72:=xC HM7.out.pat 2
       simp only [xGe,xGz,xGs] at c71 c72
       have HM9:=hid ((HM7.out.set 1 (.int .i64 lo2)).set 2 (.int .i64 hi2))
       simp only [xSi,xSs,xSz] at HM9
       go_upto_region 8 with (fail)
       generalize (w7.setCell _ _).setCell _ _=w8 at HM9 ⊢
       clear f71 f72 c71 c72 HM7
       obtain ⟨cR0,cR1,cR2,cR3⟩:=cb4 HM9.out.res
       obtain ⟨fR0,fR1,fR2,fR3⟩:=fb4 HM9.out.res
       obtain ⟨cL0,cL1,cL2,cL3⟩:=cb4 HM9.out.pat
       go_wp2_with fail
       have HF:=hid (HM9.out.fin)
       generalize hw9:(((World.setCell _ _ _).setCell _ _).setCell _ _).setCell _ _=w9
       obtain ⟨s9,r0,r1,r2,r3⟩:=HF.out _ hw9
       exact bodyPost_ret (v:=.agg #[.int .i64 1,.int .i64 (lo2),.int .i64 (hi2),.slice none 0 0]) (by simp [results,Tryz.results6,go_sem,r0,r1,r2,r3]) rfl (by rw [HPP.out]; exact ⟨.mk 1 (lo2) (hi2) [],_,_,rfl,leaf_at _ _ _ _,by simp [Pt.leaves],by simp [Pt.size,sizes],by omega,s9⟩)
   · go_wp2_with fail
     have HMx:=hid (HM4.out.set 2 (.int .i64 (255)))
     simp only [xSi,xSs,xSz] at HMx
     generalize w4.setCell _ _=w4b at HMx ⊢
     clear HM4 cl4 fz4
     refine (flip_any 80 (by decide) (show k4≤1073741824 by omega) hx2 HMx.out.sto.strm).mono ?_
     rintro e w5 ⟨rfl,T5⟩
     have HM5:=hid (HMx.out.call T5)
     clear T5 HMx
     generalize flipv xs (k4) 80=f2
     rcases f2 with _ | _
     · have HM9:=HM5
       obtain ⟨cR0,cR1,cR2,cR3⟩:=cb4 HM9.out.res
       obtain ⟨fR0,fR1,fR2,fR3⟩:=fb4 HM9.out.res
       obtain ⟨cL0,cL1,cL2,cL3⟩:=cb4 HM9.out.pat
       go_wp2_with fail
       have HF:=hid (HM9.out.fin)
       generalize hw9:(((World.setCell _ _ _).setCell _ _).setCell _ _).setCell _ _=w9
       obtain ⟨s9,r0,r1,r2,r3⟩:=HF.out _ hw9
       exact bodyPost_ret (v:=.agg #[.int .i64 1,.int .i64 (lo),.int .i64 (255),.slice none 0 0]) (by simp [results,Tryz.results6,go_sem,r0,r1,r2,r3]) rfl (by rw [HPP.out]; exact ⟨.mk 1 (lo) (255) [],_,_,rfl,leaf_at _ _ _ _,by simp [Pt.leaves],by simp [Pt.size,sizes],by omega,s9⟩)
     · go_wp2_with fail
       refine (pick_new [-1,256,97] (by simp) (by simp) (show k4+1≤1073741824 by omega) hx2 HM5.out.sto.strm).mono ?_
       rintro e w6 ⟨rfl,T6⟩
       have HM6:=hid (HM5.out.call T6)
       clear T6 HM5
       generalize pickv xs (k4+1) _=lo2
       go_wp2_with fail
       refine (pick_new [96,97,300] (by simp) (by simp) (show k4+1+1≤1073741824 by omega) hx2 HM6.out.sto.strm).mono ?_
       rintro e w7 ⟨rfl,T7⟩
       have HM7:=hid (HM6.out.call T7)
       clear T7 HM6
       generalize pickv xs (k4+1+1) _=hi2
       have f71:=yfb HM7.out.pat 1
       have f72:=yfb HM7.out.pat 2
       have c71:=xC HM7.out.pat 1
       have c72:=xC HM7.out.pat 2
       simp only [xGe,xGz,xGs] at c71 c72
       have HM9:=hid ((HM7.out.set 1 (.int .i64 lo2)).set 2 (.int .i64 hi2))
       simp only [xSi,xSs,xSz] at HM9
       go_upto_region 8 with (fail)
       generalize (w7.setCell _ _).setCell _ _=w8 at HM9 ⊢
       clear f71 f72 c71 c72 HM7
       obtain ⟨cR0,cR1,cR2,cR3⟩:=cb4 HM9.out.res
       obtain ⟨fR0,fR1,fR2,fR3⟩:=fb4 HM9.out.res
       obtain ⟨cL0,cL1,cL2,cL3⟩:=cb4 HM9.out.pat
       go_wp2_with fail
       have HF:=hid (HM9.out.fin)
       generalize hw9:(((World.setCell _ _ _).setCell _ _).setCell _ _).setCell _ _=w9
       obtain ⟨s9,r0,r1,r2,r3⟩:=HF.out _ hw9
       exact bodyPost_ret (v:=.agg #[.int .i64 1,.int .i64 (lo2),.int .i64 (hi2),.slice none 0 0]) (by simp [results,Tryz.results6,go_sem,r0,r1,r2,r3]) rfl (by rw [HPP.out]; exact ⟨.mk 1 (lo2) (hi2) [],_,_,rfl,leaf_at _ _ _ _,by simp [Pt.leaves],by simp [Pt.size,sizes],by omega,s9⟩)
theorem apat_leaf2 {b:Nat} {av:Option Addr} {cap:Nat} {xs:List Int} (hx2:xs.length≤9223372036854775807) (d:Nat) (k:Nat) (w:World) (hk:k≤1000000) (hd:2≤d) (hf:flipv xs k 3=true) (S:Strm b av cap xs w k) (P:Ending→World→Prop) (hP:P=PatPost b av cap xs w k 1 1 11) :
 Calls Tryz.prog 6 #[.pointer (some ⟨b,0,none⟩),.int .i64 d] w P:=by
 have hd0:¬ (d:Int)<2:=by omega
 have HPP:=hid hP
 have hlt:=S.lt
 have A0:=xN w (.cells #[.int .i64 0,.int .i64 0,.int .i64 0,.slice none 0 0] 28)
 have T0:=(Sto.refl S).alloc (.cells #[.int .i64 0,.int .i64 0,.int .i64 0,.slice none 0 0] 28)
 have HS:=hid S
 have HF:=hid hf
 clear S hP hf hd
 go_enter Tryz.func6,Tryz.ntmps6
 go_wp2_with fail
 generalize w.alloc _=W at A0 T0 ⊢
 refine (flip_any 3 (by decide) (show k≤1073741824 by omega) hx2 T0.strm).mono ?_
 rintro e w0 ⟨rfl,T0b⟩
 have hs0:=T0b.grow.size
 have hs1:=xL A0
 replace A0:=T0b.kept A0 (by omega)
 replace T0:=T0.trans T0b
 rw [HF.out]
 clear T0b
 have HA0:=hid A0
 have HT0:=hid T0
 clear A0 T0
 go_wp2_with fail
 have A0:=HA0.out
 have T0:=HT0.out
 clear HA0 HT0
 have A1:=xN w0 (.cells #[.int .i64 97,.int .i64 97,.int .i64 98,.int .i64 48,.int .i64 32,.int .i64 10,.int .i64 0,.int .i64 255,.int .i64 42] 3)
 replace A0:=grow_new (xG w0 (.cells #[.int .i64 97,.int .i64 97,.int .i64 98,.int .i64 48,.int .i64 32,.int .i64 10,.int .i64 0,.int .i64 255,.int .i64 42] 3) none) A0
 replace T0:=T0.alloc (.cells #[.int .i64 97,.int .i64 97,.int .i64 98,.int .i64 48,.int .i64 32,.int .i64 10,.int .i64 0,.int .i64 255,.int .i64 42] 3)
 generalize w0.alloc _=W0 at A0 A1 T0 ⊢
 refine (pick_at w0.heap.size 9 [97,97,98,48,32,10,0,255,42] rfl (by simp) (by simp) (by omega) A1 (show k+1≤1073741824 by omega) hx2 T0.strm).mono ?_
 rintro e w1 ⟨rfl,T1⟩
 have hlo:0≤pickv xs (k+1) [97,97,98,48,32,10,0,255,42]∧pickv xs (k+1) [97,97,98,48,32,10,0,255,42]≤255:=pickv_all (fun x=>0≤x∧x≤255) xs (k+1) [97,97,98,48,32,10,0,255,42] (by simp) (by simp)
 generalize pickv xs (k+1) [97,97,98,48,32,10,0,255,42]=lo at hlo ⊢
 obtain ⟨hlo1,hlo2⟩:=hlo
 have B0:=T1.kept A0 (by omega)
 have hL:=xL B0
 have M1:Mk b av cap xs w w.heap.size w1.heap.size (w1.alloc (.cells #[.int .i64 1,.int .i64 lo,.int .i64 lo,.slice none 0 0] 28)) (k+1+1) #[.int .i64 1,.int .i64 lo,.int .i64 lo,.slice none 0 0] :=
  ⟨(T0.trans T1).alloc _,hlt,.inr ⟨k,HS.out⟩,Nat.le_refl _,by omega,by omega,grow_new (xG _ _ _) B0,xN _ _⟩
 have HM1:=hid M1
 clear A0 A1 T0 T1 B0 M1
 go_wp2_with fail
 generalize w1.alloc _=W2 at HM1 ⊢
 generalize w1.heap.size=L at hL HM1 ⊢
 refine (flip_any 3 (by decide) (show k+1+1≤1073741824 by omega) hx2 HM1.out.sto.strm).mono ?_
 rintro e w3 ⟨rfl,T3⟩
 have HM3:=hid (HM1.out.call T3)
 have fz3:=yfb HM3.out.pat 2
 clear T3 HM1
 generalize flipv xs (k+1+1) 3=f1
 rcases f1 with _ | _
 · have HMx:=HM3
   clear HM3
   go_wp2_with fail
   refine (flip_any 80 (by decide) (show k+1+1+1≤1073741824 by omega) hx2 HMx.out.sto.strm).mono ?_
   rintro e w5 ⟨rfl,T5⟩
   have HM5:=hid (HMx.out.call T5)
   clear T5 HMx
   generalize flipv xs (k+1+1+1) 80=f2
   rcases f2 with _ | _
   · have HM9:=HM5
     obtain ⟨cR0,cR1,cR2,cR3⟩:=cb4 HM9.out.res
     obtain ⟨fR0,fR1,fR2,fR3⟩:=fb4 HM9.out.res
     obtain ⟨cL0,cL1,cL2,cL3⟩:=cb4 HM9.out.pat
     go_wp2_with fail
     have HF:=hid (HM9.out.fin)
     generalize hw9:(((World.setCell _ _ _).setCell _ _).setCell _ _).setCell _ _=w9
     obtain ⟨s9,r0,r1,r2,r3⟩:=HF.out _ hw9
     exact bodyPost_ret (v:=.agg #[.int .i64 1,.int .i64 (lo),.int .i64 (lo),.slice none 0 0]) (by simp [results,Tryz.results6,go_sem,r0,r1,r2,r3]) rfl (by rw [HPP.out]; exact ⟨.mk 1 (lo) (lo) [],_,_,rfl,leaf_at _ _ _ _,by simp [Pt.leaves],by simp [Pt.size,sizes],by omega,s9⟩)
   · go_wp2_with fail
     refine (pick_new [-1,256,97] (by simp) (by simp) (show k+1+1+1+1≤1073741824 by omega) hx2 HM5.out.sto.strm).mono ?_
     rintro e w6 ⟨rfl,T6⟩
     have HM6:=hid (HM5.out.call T6)
     clear T6 HM5
     generalize pickv xs (k+1+1+1+1) _=lo2
     go_wp2_with fail
     refine (pick_new [96,97,300] (by simp) (by simp) (show k+1+1+1+1+1≤1073741824 by omega) hx2 HM6.out.sto.strm).mono ?_
     rintro e w7 ⟨rfl,T7⟩
     have HM7:=hid (HM6.out.call T7)
     clear T7 HM6
     generalize pickv xs (k+1+1+1+1+1) _=hi2
     have f71:=yfb HM7.out.pat 1
     have f72:=yfb HM7.out.pat 2
     have c71:=xC HM7.out.pat 1
     have c72:=xC HM7.out.pat 2
     simp only [xGe,xGz,xGs] at c71 c72
     have HM9:=hid ((HM7.out.set 1 (.int .i64 lo2)).set 2 (.int .i64 hi2))
     simp only [xSi,xSs,xSz] at HM9
     go_upto_region 8 with (fail)
     generalize (w7.setCell _ _).setCell _ _=w8 at HM9 ⊢
     clear f71 f72 c71 c72 HM7
     obtain ⟨cR0,cR1,cR2,cR3⟩:=cb4 HM9.out.res
     obtain ⟨fR0,fR1,fR2,fR3⟩:=fb4 HM9.out.res
     obtain ⟨cL0,cL1,cL2,cL3⟩:=cb4 HM9.out.pat
     go_wp2_with fail
     have HF:=hid (HM9.out.fin)
     generalize hw9:(((World.setCell _ _ _).setCell _ _).setCell _ _).setCell _ _=w9
     obtain ⟨s9,r0,r1,r2,r3⟩:=HF.out _ hw9
     exact bodyPost_ret (v:=.agg #[.int .i64 1,.int .i64 (lo2),.int .i64 (hi2),.slice none 0 0]) (by simp [results,Tryz.results6,go_sem,r0,r1,r2,r3]) rfl (by rw [HPP.out]; exact ⟨.mk 1 (lo2) (hi2) [],_,_,rfl,leaf_at _ _ _ _,by simp [Pt.leaves],by simp [Pt.size,sizes],by omega,s9⟩)
 · go_wp2_with fail
   refine (range_any 0 9 (by omega) (by omega) (show k+1+1+1≤1073741824 by omega) hx2 HM3.out.sto.strm).mono ?_
   rintro e w4 ⟨rfl,T4⟩
   have hr:=rangev_bd xs (k+1+1+1) 0 9
   have hrk:=rangek_le (k+1+1+1) 0 9
   generalize rangev xs (k+1+1+1) 0 9=r at hr ⊢
   generalize rangek (k+1+1+1) 0 9=k4 at hrk T4
   have hr2:=hr.2 (by omega)
   replace hr:=hr.1
   have HM4:=hid (HM3.out.call T4)
   have fz4:=yfb HM4.out.pat 2
   have cl4:=xC HM4.out.pat 2
   simp only [xGe,xGz,xGs] at cl4
   clear HM3 T4
   by_cases hm:lo+r≤255
   · go_wp2_with fail
     have HMx:=hid (HM4.out.set 2 (.int .i64 (lo+r)))
     simp only [xSi,xSs,xSz] at HMx
     generalize w4.setCell _ _=w4b at HMx ⊢
     clear HM4 cl4 fz4
     refine (flip_any 80 (by decide) (show k4≤1073741824 by omega) hx2 HMx.out.sto.strm).mono ?_
     rintro e w5 ⟨rfl,T5⟩
     have HM5:=hid (HMx.out.call T5)
     clear T5 HMx
     generalize flipv xs (k4) 80=f2
     rcases f2 with _ | _
     · have HM9:=HM5
       obtain ⟨cR0,cR1,cR2,cR3⟩:=cb4 HM9.out.res
       obtain ⟨fR0,fR1,fR2,fR3⟩:=fb4 HM9.out.res
       obtain ⟨cL0,cL1,cL2,cL3⟩:=cb4 HM9.out.pat
       go_wp2_with fail
       have HF:=hid (HM9.out.fin)
       generalize hw9:(((World.setCell _ _ _).setCell _ _).setCell _ _).setCell _ _=w9
       obtain ⟨s9,r0,r1,r2,r3⟩:=HF.out _ hw9
       exact bodyPost_ret (v:=.agg #[.int .i64 1,.int .i64 (lo),.int .i64 (lo+r),.slice none 0 0]) (by simp [results,Tryz.results6,go_sem,r0,r1,r2,r3]) rfl (by rw [HPP.out]; exact ⟨.mk 1 (lo) (lo+r) [],_,_,rfl,leaf_at _ _ _ _,by simp [Pt.leaves],by simp [Pt.size,sizes],by omega,s9⟩)
     · go_wp2_with fail
       refine (pick_new [-1,256,97] (by simp) (by simp) (show k4+1≤1073741824 by omega) hx2 HM5.out.sto.strm).mono ?_
       rintro e w6 ⟨rfl,T6⟩
       have HM6:=hid (HM5.out.call T6)
       clear T6 HM5
       generalize pickv xs (k4+1) _=lo2
       go_wp2_with fail
       refine (pick_new [96,97,300] (by simp) (by simp) (show k4+1+1≤1073741824 by omega) hx2 HM6.out.sto.strm).mono ?_
       rintro e w7 ⟨rfl,T7⟩
       have HM7:=hid (HM6.out.call T7)
       clear T7 HM6
       generalize pickv xs (k4+1+1) _=hi2
       have f71:=yfb HM7.out.pat 1
       have f72:=yfb HM7.out.pat 2
       have c71:=xC HM7.out.pat 1
       have c72:=xC HM7.out.pat 2
       simp only [xGe,xGz,xGs] at c71 c72
       have HM9:=hid ((HM7.out.set 1 (.int .i64 lo2)).set 2 (.int .i64 hi2))
       simp only [xSi,xSs,xSz] at HM9
       go_upto_region 8 with (fail)
       generalize (w7.setCell _ _).setCell _ _=w8 at HM9 ⊢
       clear f71 f72 c71 c72 HM7
       obtain ⟨cR0,cR1,cR2,cR3⟩:=cb4 HM9.out.res
       obtain ⟨fR0,fR1,fR2,fR3⟩:=fb4 HM9.out.res
       obtain ⟨cL0,cL1,cL2,cL3⟩:=cb4 HM9.out.pat
       go_wp2_with fail
       have HF:=hid (HM9.out.fin)
       generalize hw9:(((World.setCell _ _ _).setCell _ _).setCell _ _).setCell _ _=w9
       obtain ⟨s9,r0,r1,r2,r3⟩:=HF.out _ hw9
       exact bodyPost_ret (v:=.agg #[.int .i64 1,.int .i64 (lo2),.int .i64 (hi2),.slice none 0 0]) (by simp [results,Tryz.results6,go_sem,r0,r1,r2,r3]) rfl (by rw [HPP.out]; exact ⟨.mk 1 (lo2) (hi2) [],_,_,rfl,leaf_at _ _ _ _,by simp [Pt.leaves],by simp [Pt.size,sizes],by omega,s9⟩)
   · go_wp2_with fail
     have HMx:=hid (HM4.out.set 2 (.int .i64 (255)))
     simp only [xSi,xSs,xSz] at HMx
     generalize w4.setCell _ _=w4b at HMx ⊢
     clear HM4 cl4 fz4
     refine (flip_any 80 (by decide) (show k4≤1073741824 by omega) hx2 HMx.out.sto.strm).mono ?_
     rintro e w5 ⟨rfl,T5⟩
     have HM5:=hid (HMx.out.call T5)
     clear T5 HMx
     generalize flipv xs (k4) 80=f2
     rcases f2 with _ | _
     · have HM9:=HM5
       obtain ⟨cR0,cR1,cR2,cR3⟩:=cb4 HM9.out.res
       obtain ⟨fR0,fR1,fR2,fR3⟩:=fb4 HM9.out.res
       obtain ⟨cL0,cL1,cL2,cL3⟩:=cb4 HM9.out.pat
       go_wp2_with fail
       have HF:=hid (HM9.out.fin)
       generalize hw9:(((World.setCell _ _ _).setCell _ _).setCell _ _).setCell _ _=w9
       obtain ⟨s9,r0,r1,r2,r3⟩:=HF.out _ hw9
       exact bodyPost_ret (v:=.agg #[.int .i64 1,.int .i64 (lo),.int .i64 (255),.slice none 0 0]) (by simp [results,Tryz.results6,go_sem,r0,r1,r2,r3]) rfl (by rw [HPP.out]; exact ⟨.mk 1 (lo) (255) [],_,_,rfl,leaf_at _ _ _ _,by simp [Pt.leaves],by simp [Pt.size,sizes],by omega,s9⟩)
     · go_wp2_with fail
       refine (pick_new [-1,256,97] (by simp) (by simp) (show k4+1≤1073741824 by omega) hx2 HM5.out.sto.strm).mono ?_
       rintro e w6 ⟨rfl,T6⟩
       have HM6:=hid (HM5.out.call T6)
       clear T6 HM5
       generalize pickv xs (k4+1) _=lo2
       go_wp2_with fail
       refine (pick_new [96,97,300] (by simp) (by simp) (show k4+1+1≤1073741824 by omega) hx2 HM6.out.sto.strm).mono ?_
       rintro e w7 ⟨rfl,T7⟩
       have HM7:=hid (HM6.out.call T7)
       clear T7 HM6
       generalize pickv xs (k4+1+1) _=hi2
       have f71:=yfb HM7.out.pat 1
       have f72:=yfb HM7.out.pat 2
       have c71:=xC HM7.out.pat 1
       have c72:=xC HM7.out.pat 2
       simp only [xGe,xGz,xGs] at c71 c72
       have HM9:=hid ((HM7.out.set 1 (.int .i64 lo2)).set 2 (.int .i64 hi2))
       simp only [xSi,xSs,xSz] at HM9
       go_upto_region 8 with (fail)
       generalize (w7.setCell _ _).setCell _ _=w8 at HM9 ⊢
       clear f71 f72 c71 c72 HM7
       obtain ⟨cR0,cR1,cR2,cR3⟩:=cb4 HM9.out.res
       obtain ⟨fR0,fR1,fR2,fR3⟩:=fb4 HM9.out.res
       obtain ⟨cL0,cL1,cL2,cL3⟩:=cb4 HM9.out.pat
       go_wp2_with fail
       have HF:=hid (HM9.out.fin)
       generalize hw9:(((World.setCell _ _ _).setCell _ _).setCell _ _).setCell _ _=w9
       obtain ⟨s9,r0,r1,r2,r3⟩:=HF.out _ hw9
       exact bodyPost_ret (v:=.agg #[.int .i64 1,.int .i64 (lo2),.int .i64 (hi2),.slice none 0 0]) (by simp [results,Tryz.results6,go_sem,r0,r1,r2,r3]) rfl (by rw [HPP.out]; exact ⟨.mk 1 (lo2) (hi2) [],_,_,rfl,leaf_at _ _ _ _,by simp [Pt.leaves],by simp [Pt.size,sizes],by omega,s9⟩)
def oddv (xs:List Int) (k:Nat) (lo hi:Int):Int:=if flipv xs k 12=true then pickv xs (k+1) [lo-1,hi+1,lo,hi,-1099511627776,1099511627776] else rangev xs (k+1) lo hi
def oddk (xs:List Int) (k:Nat) (lo hi:Int):Nat:=if flipv xs k 12=true then k+2 else rangek (k+1) lo hi
theorem odd_any {b:Nat} {av:Option Addr} {cap k:Nat} {xs:List Int} {w:World} (lo hi:Int) (hlo : -1000000≤lo∧lo≤1000000) (hhi : -1000000≤hi∧hi≤1000000)
 (hk:k≤1073741822) (hx2:xs.length≤9223372036854775807) (S:Strm b av cap xs w k) :
 Calls Tryz.prog 36 #[.pointer (some ⟨b,0,none⟩),.int .i64 lo,.int .i64 hi] w fun e w'=>e=.returned (.int .i64 (oddv xs k lo hi))∧Sto b av cap xs w w' (oddk xs k lo hi):=by
 have HF:=hid (flip_any 12 (by decide) (by omega) hx2 S)
 obtain ⟨r,hr⟩:∃ r,oddv xs k lo hi=r:=⟨_,rfl⟩
 obtain ⟨rk,hrk⟩:∃ r,oddk xs k lo hi=r:=⟨_,rfl⟩
 rw [hr,hrk]
 have HR:=hid hr
 have HRK:=hid hrk
 clear hr hrk
 go_enter Tryz.func36,Tryz.ntmps36
 go_wp2_with fail
 refine HF.out.mono ?_
 rintro e w1 ⟨rfl,T1⟩
 have HT1:=hid T1
 rcases hf:flipv xs k 12 with _ | _
 · have HR2:=hid (show rangev xs (k+1) lo hi=r by rw [← HR.out,oddv,if_neg (by rw [hf]; simp)])
   have HK2:=hid (show rangek (k+1) lo hi=rk by rw [← HRK.out,oddk,if_neg (by rw [hf]; simp)])
   have HN:=hid (range_any lo hi (by omega) (by omega) (show k+1≤1073741824 by omega) hx2 T1.strm)
   rw [HR2.out,HK2.out] at HN
   clear hf HR HRK HR2 HK2 HF T1
   go_wp2_with fail
   refine HN.out.mono ?_
   rintro e w2 ⟨rfl,T2⟩
   have HT2:=hid (HT1.out.trans T2)
   clear T2
   go_wp2_with fail
   go_ret
   exact ⟨rfl,HT2.out⟩
 · have HR2:=hid (show pickv xs (k+1) [lo-1,hi+1,lo,hi,-1099511627776,1099511627776]=r by rw [← HR.out,oddv,if_pos hf])
   have HK2:=hid (show k+2=rk by rw [← HRK.out,oddk,if_pos hf])
   have HN:=hid (pick_new [lo-1,hi+1,lo,hi,-1099511627776,1099511627776] (by simp) (by simp) (show k+1≤1073741824 by omega) hx2 T1.strm)
   rw [HR2.out,show k+1+1=rk from HK2.out] at HN
   clear hf HR HRK HR2 HK2 HF T1
   go_wp2_with fail
   refine HN.out.mono ?_
   rintro e w2 ⟨rfl,T2⟩
   have HT2:=hid (HT1.out.trans T2)
   clear T2
   go_wp2_with fail
   go_ret
   exact ⟨rfl,HT2.out⟩
end Go.Proofs.YtplbacfjmajeeaaGreatDoor
