import Derived.Test.YtplbacfjmajeeaaGreatDoorJ05
namespace Go.Proofs.YtplbacfjmajeeaaGreatDoor
open Go.Lib (hid)
set_option maxHeartbeats 4000000
set_option maxRecDepth 100000
open Go.RowKit
attribute [local go_sem ↓] Go.wp_at_zero Go.wp_at_succ
theorem AddSt.cm {w bm C base nv ns bv bs} (h:AddSt w bm C base nv ns bv bs) (hC:0<C.size):w.cell? ⟨bm,0,none⟩=some nv:=by
 rw [xC h.mch 0]; simp [hC]
theorem AddSt.fm {w bm C base nv ns bv bs} (h:AddSt w bm C base nv ns bv bs) (i:Nat):w.frozen? ⟨bm,i,none⟩=false:=yfb h.mch i
theorem mcell {w:World} {bm:Nat} {C:Array Value} {v:Value} (h:w.heap[bm]? = some (.cells (C.setIfInBounds 0 v) 136 (0,0))) (hC:0<C.size):w.cell? ⟨bm,0,none⟩=some v:=by
 rw [xC h 0]; simp [hC]
def NodePost (w:World) (bm:Nat) (C:Array Value) (base:Nat) (nv bv:Value) (ns:List Nd) (bs:List Bp) (x:Nd) (bo:Obj) (wx:World):Prop :=
 ∃ g cap,AddSt wx bm C base (.slice (some ⟨g,0,none⟩) (ns.length+1) cap) (ns++[x]) bv bs
  ∧ wx.heap[w.heap.size]? = some bo∧Frm (AddP bm nv bv) w wx∧Moved w nv (.slice (some ⟨g,0,none⟩) (ns.length+1) cap)
theorem node_done {w w2 w3:World} {bm:Nat} {C:Array Value} {base:Nat} {nv bv:Value} {ns:List Nd} {bs:List Bp} {x:Nd} {bo o2:Obj} {gg cap1:Nat}
 (S:Hid (AddSt w bm C base nv ns bv bs))
 (B:Hid (w3.heap[bm]? = some (.cells (C.setIfInBounds 0 nv) 136 (0,0)))) (X:Hid (w3.heap[w.heap.size]? = some bo)) (hbm:bm<w.heap.size)
 (own:w3.ownsRow base 172 4 (.slice (some ⟨gg,0,none⟩) (ns.length+1) cap1) (ns.length+1) (ndCells ns++[.int .i64 x.op,.int .i64 x.end_,.bool x.emp,.int .i64 x.place]))
 (g4:w.grownBy w2 none) (hg:(w2.alloc o2).grownBy w3 nv.ownBlock) (hat:nv.ownBlock=some gg∨gg=w2.heap.size+1) :
 NodePost w bm C base nv bv ns bs x bo (w3.setCell ⟨bm,0,none⟩ (.slice (some ⟨gg,0,none⟩) (ns.length+1) cap1)):=by
 have g5:=yga g4 o2
 have hf:Frm (AddP bm nv bv) w w3:=(Frm.of_grown g5 _).grown hg (fun k hk hp=>hp.2.1 hk)
 have own1:=ownsRow_frm (Frm.of_grown g5 (fun _ _=>True)) S.out.non (fun _ _ _ _=>trivial)
 have own2:=ownsRow_frm (Frm.of_grown g5 (fun _ _=>True)) S.out.byt (fun _ _ _ _=>trivial)
 refine ⟨gg,cap1,⟨?_,?_,?_⟩,?_,?_,Moved.of hat (by have:=g4.size; omega)⟩
 · have:=yhs B.out 0 (.slice (some ⟨gg,0,none⟩) (ns.length+1) cap1)
   rw [this]; simp
 · rw [ndCells_append,List.length_append]
   exact yoc own B.out (by decide) 0 _
 · exact yoc (append_own (by decide) own1 hg own2) B.out (by decide) 0 _
 · rw [Below.heap_setCell _ _ _ _ (by simp; omega)]; exact X.out
 · exact hf.setCell _ _ (fun h=>h.1 rfl)
theorem nd_set (ns:List Nd) (a b c d u:Value) (ys:List Value):(ndCells ns++[a,b,c,d]++ys).set (ns.length*4+1) u=ndCells ns++[a,u,c,d]++ys:=by
 have h:=ndCells_len ns
 rw [List.append_assoc,List.set_append_right _ _ (by omega),h,show ns.length*4+1-ns.length*4=1 by omega]
 simp
theorem nd_get (ns:List Nd) (a b c d:Value) (ys:List Value):(ndCells ns++[a,b,c,d]++ys)[ns.length*4+1]? = some b:=by
 have h:=ndCells_len ns
 rw [List.append_assoc,List.getElem?_append_right (by omega),h,show ns.length*4+1-ns.length*4=1 by omega]
 simp
theorem Frm.set2 {P:Nat→Option Obj→Prop} {a b:World} (h:Frm P a b) (p:Addr) (u:Value) (hp:a.heap.size≤p.block∨∀ o,¬ P p.block o):Frm P a (b.setCell p u) :=
 ⟨h.os,h.tape,h.output,by have:=h.size; simpa [World.setCell] using this,fun k hk hP=>(Below.heap_setCell _ _ _ _ (fun e=>by
  rcases hp with hp | hp
  · omega
  · exact hp _ (e ▸ hP))).trans (h.block k hk hP)⟩
theorem Frm.grown2 {P:Nat→Option Obj→Prop} {a b c:World} {row:Option Nat} (h:Frm P a b) (g:b.grownBy c row) (hr:∀ k,row=some k→a.heap.size≤k∨∀ o,¬ P k o):Frm P a c :=
 ⟨g.os.trans h.os,g.tape.trans h.tape,g.output.trans h.output,Nat.le_trans h.size g.size,fun k hk hP=>(g.block k (Nat.lt_of_lt_of_le hk h.size) (fun e=>by
  rcases hr k e.symm with h1 | h1
  · omega
  · exact h1 _ hP)).trans (h.block k hk hP)⟩
theorem AddSt.drew {w bm C base nv ns bv bs} (h:AddSt w bm C base nv ns bv bs):AddSt w.drew bm C base nv ns bv bs:=⟨h.mch,h.non,h.byt⟩
theorem end_done {w w4:World} {bm:Nat} {C:Array Value} {base:Nat} {nv bv bv':Value} {ns ys:List Nd} {bs':List Bp} {x:Nd} {g m cap:Nat} (hm:m=(ns++[x]++ys).length)
 (S:AddSt w4 bm C base (.slice (some ⟨g,0,none⟩) m cap) (ns++[x]++ys) bv' bs') (F:Frm (AddP bm nv bv) w w4) (M:Moved w nv (.slice (some ⟨g,0,none⟩) m cap)) (e:Nat) :
 AddSt (w4.setCell ⟨g,ns.length*4+1,none⟩ (.int .i64 e)) bm C base (.slice (some ⟨g,0,none⟩) m cap) (ns++[⟨x.op,e,x.emp,x.place⟩]++ys) bv' bs'∧Frm (AddP bm nv bv) w (w4.setCell ⟨g,ns.length*4+1,none⟩ (.int .i64 e)):=by
 subst hm
 obtain ⟨_,c,hg⟩:=yob S.non g rfl
 refine ⟨⟨?_,?_,?_⟩,F.set2 _ _ ?_⟩
 · rw [Below.heap_setCell _ _ _ _ (fun e=>?_)]
   · exact S.mch
   · have h1:=S.mch
     simp only at e
     rw [e,hg] at h1
     simp at h1
 · have h:=(S.non.stored (ns.length*4+1) (.int .i64 e)).1
   have e1:(ndCells (ns++[x]++ys)).set (ns.length*4+1) (.int .i64 e)=ndCells (ns++[⟨x.op,e,x.emp,x.place⟩]++ys):=by
    rw [ndCells_append,ndCells_append,ndCells_append,ndCells_append]
    exact nd_set ns _ _ _ _ _ _
   rw [e1] at h
   have e2:(ns++[x]++ys).length=(ns++[(⟨x.op,e,x.emp,x.place⟩:Nd)]++ys).length:=by simp
   rw [e2] at h ⊢
   exact h
 · exact yoc S.byt hg (by decide) _ _
 · rcases M with h | ⟨k,h,hk⟩
   · right; intro o hp; exact hp.2.1 (by rw [← h]; rfl)
   · left; simp [Value.ownBlock] at h; simp; omega
theorem AddSt.alloc {w bm C base nv ns bv bs} (h:AddSt w bm C base nv ns bv bs) (o:Obj):AddSt (w.alloc o) bm C base nv ns bv bs :=
 ⟨(Below.heap_alloc w o bm (xL h.mch)).trans h.mch,h.non.alloc o,h.byt.alloc o⟩
theorem Frm.addTrans {w w1 w2:World} {bm:Nat} {nv bv nv1 bv1:Value} (F:Frm (AddP bm nv bv) w w1) (M:Moved w nv nv1) (M2:Moved w bv bv1) (G:Frm (AddP bm nv1 bv1) w1 w2):Frm (AddP bm nv bv) w w2 :=
 ⟨G.os.trans F.os,G.tape.trans F.tape,G.output.trans F.output,Nat.le_trans F.size G.size,fun k hk hP=>by
  have e:=F.block k hk hP
  refine (G.block k (Nat.lt_of_lt_of_le hk F.size) ?_).trans e
  refine ⟨hP.1,fun h=>?_,fun h=>?_⟩
  · rcases M with h1 | ⟨g,h1,h2⟩
    · exact hP.2.1 (h1 ▸ h)
    · rw [h1] at h; simp at h; omega
  · rcases M2 with h1 | ⟨g,h1,h2⟩
    · exact hP.2.2 (h1 ▸ h)
    · rw [h1] at h; simp at h; omega⟩
mutual
theorem Pt.leaves_le:(p:Pt)→p.leaves≤p.size
 | .mk o l h ps=>by have:=leaves_le_sizes ps; simp only [Pt.leaves,Pt.size]; split<;>omega
theorem leaves_le_sizes:(ps:List Pt)→ylL ps≤sizes ps
 | []=>Nat.le_refl _
 | p::ps=>by have:=Pt.leaves_le p; have:=leaves_le_sizes ps; simp only [ylL,sizes]; omega
end
theorem len_snoc (ns:List Nd) (x:Nd):(ns++[x]).length=ns.length+1:=by simp
def AddRel (w:World) (bm:Nat) (C:Array Value) (base:Nat) (nv bv:Value) (ns:List Nd) (bs:List Bp) (x:Nd) (ps:List Pt) (bvv i:Value) (wr:World):Prop :=
 ∃ (j:Nat) (nvj:Value) (bsj:List Bp),j≤ps.length∧i=.int .i64 j∧AddSt wr bm C base nvj (ns++[x]++nodesL (ps.take j) (ns.length+1) bs.length) bvv (bs++bsj)
  ∧ bsj.map (fun x=>(x.lo,x.hi))=bytesL (ps.take j)∧Frm (AddP bm nv bv) w wr∧Moved w nv nvj∧Moved w bv bvv
theorem AddRel.step {w wr w':World} {bm:Nat} {C:Array Value} {base:Nat} {nv bv nvj bvj:Value} {ns:List Nd} {bs bsj:List Bp} {x:Nd} {ps:List Pt} {j:Nat} {ob:Obj} {e:Ending} (hlt:j<ps.length)
 (hbj:bsj.map (fun x=>(x.lo,x.hi))=bytesL (ps.take j)) (F:Frm (AddP bm nv bv) w wr) (M:Moved w nv nvj) (M2:Moved w bv bvj)
 (P:AddPost (wr.alloc ob) bm C base nvj (ns++[x]++nodesL (ps.take j) (ns.length+1) bs.length) bvj (bs++bsj) ps[j] e w') :
 ∃ bvj',e=.returned bvj'∧AddRel w bm C base nv bv ns bs x ps bvj' (.int .i64 ((j:Int)+1)) w':=by
 obtain ⟨nv',bv',bs2,rfl,S,hb2,F2,N1,N2⟩:=P
 refine ⟨bv',rfl,j+1,nv',bsj++bs2,by omega,by go_num,?_,?_,?_,?_,?_⟩
 · have e1:(ns++[x]++nodesL (ps.take j) (ns.length+1) bs.length).length=ns.length+1+sizes (ps.take j):=by simp [nodesL_len]; omega
   have e2:(bs++bsj).length=bs.length+ylL (ps.take j):=by
    have:=congrArg List.length hbj
    rw [ybl] at this
    simp at this ⊢
    exact this
   rw [nodesL_take _ _ _ _ hlt,← List.append_assoc,← List.append_assoc bs]
   rw [e1,e2] at S
   exact S
 · rw [List.map_append,hbj,hb2,bytesL_take _ _ hlt]
 · exact (F.alloc ob).addTrans M M2 F2
 · exact M.trans N1 (by have:=F.size; simp; omega)
 · exact M2.trans N2 (by have:=F.size; simp; omega)
theorem add_end {w w4:World} {bm:Nat} {C:Array Value} {base:Nat} {nv bv bv':Value} {ns:List Nd} {bs bs2:List Bp} {o l h:Int} {ps:List Pt} {g cap m:Nat} {q:Bool}
 (hm:m=(ns++[(⟨o,0,q,bs.length⟩:Nd)]++nodesL ps (ns.length+1) bs.length).length) (hq:q=(Pt.mk o l h ps).nul)
 (S:AddSt w4 bm C base (.slice (some ⟨g,0,none⟩) m cap) (ns++[⟨o,0,q,bs.length⟩]++nodesL ps (ns.length+1) bs.length) bv' (bs++bs2)) (hb:bs2.map (fun x=>(x.lo,x.hi))=(Pt.mk o l h ps).bytes)
 (F:Frm (AddP bm nv bv) w w4) (M:Moved w nv (.slice (some ⟨g,0,none⟩) m cap)) (M2:Moved w bv bv') :
 AddPost w bm C base nv ns bv bs (.mk o l h ps) (.returned bv') (w4.setCell ⟨g,ns.length*4+1,none⟩ (.int .i64 m)).drew:=by
 obtain ⟨R,F2⟩:=end_done hm S F M m
 have e:ns++[(⟨o,m,q,bs.length⟩:Nd)]++nodesL ps (ns.length+1) bs.length=ns++(Pt.mk o l h ps).nodes ns.length bs.length:=by
  rw [Pt.nodes,List.append_assoc]
  have:m=ns.length+(1+sizes ps):=by rw [hm]; simp [nodesL_len]; omega
  rw [this,hq]
  rfl
 rw [e] at R
 exact ⟨_,bv',bs2,rfl,R.drew,hb,F2.drew,M,M2⟩
set_option maxHeartbeats 8000000 in
theorem madd_any (w0:World) (bm:Nat) (C:Array Value) (hC:0<C.size) (base:Nat) (p:Pt):∀ (v nv bv:Value) (ns:List Nd) (bs:List Bp) (w:World),Right p→PtAt w0 p v→w0.grownBy w none→w0.heap.size≤base→w0.heap.size≤bm→base≤w.heap.size →
 ns.length+p.size≤100000→bs.length+p.size≤100000→AddSt w bm C base nv ns bv bs →
 Calls Tryz.prog 68 #[.pointer (some ⟨bm,0,none⟩),v,bv] w (AddPost w bm C base nv ns bv bs p):=by
 obtain ⟨i0,hi,hz0,hz1,hz2⟩:=info_parts info172
 obtain ⟨i1,hi1,hy0,hy1,hy2⟩:=info_parts info28
 induction p using Pt.ind with
 | h o l h ps ih =>
  intro v nv bv ns bs w hr hp hw0 hb0 hb1 hbase hn1 hn2 hS
  obtain ⟨av,cap,rfl,ha⟩:=hp
  have HA:=hid ha
  clear ha
  have hlen:=len_sizes ps
  simp only [Pt.size] at hn1 hn2
  obtain ⟨nva,nvc,rfl⟩:=yos hS.non
  obtain ⟨bva,bvc,rfl⟩:=yos hS.byt
  have cm0:∀ o,(w.alloc o).cell? ⟨bm,0,none⟩=some (.slice nva ns.length nvc):=fun o=>ycg (hS.cm hC) (xG w o none)
  have hpt:PtAt w (.mk o l h ps) (.agg #[.int .i64 o,.int .i64 l,.int .i64 h,.slice av ps.length cap]):=PtAt.grow hw0 _ _ ⟨av,cap,rfl,HA.out⟩
  go_enter Tryz.func68,Tryz.ntmps68
  go_wp2_with fail
  have g1:=xG w (.cells #[.int .i64 o,.int .i64 l,.int .i64 h,.slice av ps.length cap] 28) none
  have hbx:=xN w (.cells #[.int .i64 o,.int .i64 l,.int .i64 h,.slice av ps.length cap] 28)
  have hsz1:(w.alloc (.cells #[.int .i64 o,.int .i64 l,.int .i64 h,.slice av ps.length cap] 28)).heap.size=w.heap.size+1:=by simp
  have cm1:=cm0 (.cells #[.int .i64 o,.int .i64 l,.int .i64 h,.slice av ps.length cap] 28)
  generalize w.alloc (.cells #[.int .i64 o,.int .i64 l,.int .i64 h,.slice av ps.length cap] 28)=w1 at *
  have HF:∀ W,w1.grownBy W none→Calls Tryz.prog 91 #[.agg #[.int .i64 o,.int .i64 l,.int .i64 h,.slice av ps.length cap]] W _:=fun W gW=>fitsEmpty_any (.mk o l h ps) _ W (by simp only [Pt.size]; omega) (PtAt.grow gW _ _ (PtAt.grow g1 _ _ hpt))
  obtain ⟨cx0,cx1,cx2,cx3⟩:=cb4 hbx
  have HFH:=hid HF
  have HB:=hid hbx
  have HZ:=hid hsz1
  have H0:=hid hS
  have H1:=hid hpt
  clear HF hbx hsz1 hS hpt cm0
  have hownW:∀ W,w.grownBy W none→W.ownsRow base 172 4 (.slice nva ns.length nvc) ns.length (ndCells ns):=fun W g=>ownsRow_frm (Frm.of_grown g (fun _ _=>True)) H0.out.non (fun _ _ _ _=>trivial)
  have hblkW:∀ W,w.grownBy W none→W.heap[bm]? = some (.cells (C.setIfInBounds 0 (.slice nva ns.length nvc)) 136 (0,0)):=fun W g=>grow_new g H0.out.mch
  have HOW:=hid hownW
  have HBW:=hid hblkW
  clear hownW hblkW
  have hbm:=xL H0.out.mch
  go_cut [] (fun wx=>NodePost w bm C base (.slice nva ns.length nvc) (.slice bva bs.length bvc) ns bs ⟨o,((0:Nat)),(Pt.mk o l h ps).nul,bs.length⟩ (.cells #[.int .i64 o,.int .i64 l,.int .i64 h,.slice av ps.length cap] 28) wx)
  case first =>
   go_region_law (first | (have tok:=g4; refine step_append_lies _ (by rfl) (.tmp 19) (.tmp 27) 131 (by rfl) base 172 i0 (.agg #[.int .i64 0,.int .i64 0,.bool false,.int .i64 0]) 4 32 Tryz.underlying131 hi hz0 hz1 hz2 rfl (by omega) _ ns.length (ndCells ns) (by rfl) (HOW.out _ (by repeat (first | assumption | apply grow_drew | apply yga))) ⟨w2.heap.size,0,none⟩ 1 1 [.int .i64 o,.int .i64 0,.bool (Pt.mk o l h ps).nul,.int .i64 bs.length] (by rfl) (by rfl) (World.news_of_block (cs:=#[.int .i64 o,.int .i64 0,.bool (Pt.mk o l h ps).nul,.int .i64 bs.length]) (t:=172) (fr:=(0,0)) (xN w2 _)) (by simp [Value.oneCell']) (by omega) (by unfold maxLen; omega) (by omega) (by have:=g4.size; simp; omega) (w2.heap.size+1) (by simp) ?_; intro gg cap1 w3 hown1 hgrow hat hlt1; clear tok; have own2:=HOW.out (w2.alloc (.cells #[.int .i64 o,.int .i64 0,.bool (Pt.mk o l h ps).nul,.int .i64 bs.length] 172)) (yga g4 _); have BM3:=ygb own2 hgrow (HBW.out _ (yga g4 _)) (by decide); have BX3:=ygb own2 hgrow ((Below.heap_alloc w2 _ _ (xL BX.out)).trans BX.out) (by decide); have cm3:=mcell BM3 hC; have fm3:=yfb BM3 0; have cx0c:=xC BX3 0; have cx1c:=xC BX3 1; have cx2c:=xC BX3 2; have cx3c:=xC BX3 3; simp only [xGe,xGz,xGs] at cx0c cx1c cx2c cx3c; have BMH:=hid BM3; have BXH:=hid BX3; clear BM3 BX3 own2) | (go_simp; go_at_call 91; refine (HFH.out _ (by repeat (first | exact grow_self _ | apply grow_drew | apply yga))).mono ?_; rintro e w2 ⟨rfl,g2⟩; have g3:w1.grownBy w2 none:=xT (by repeat (first | exact grow_self _ | apply grow_drew | apply yga)) g2; have cx0b:=ycg cx0 g3; have cx1b:=ycg cx1 g3; have cx2b:=ycg cx2 g3; have cx3b:=ycg cx3 g3; have cm2:=ycg cm1 g3; have cm2a:∀ o,(w2.alloc o).cell? ⟨bm,0,none⟩=some (.slice nva ns.length nvc):=fun o=>ycg cm2 (xG w2 o none); have g4:=xT g1 g3; have BX:=hid (grow_new g3 HB.out); clear g2))
   all_goals (go_wp2_with fail; go_meet)
   all_goals exact node_done H0 BMH BXH hbm hown1 g4 hgrow hat
  case rest =>
   obtain ⟨g,gc,S1,hbx1,F1,M1⟩:=hcut
   obtain ⟨cx0,cx1,cx2,cx3⟩:=cb4 hbx1
   have hsz:=F1.size
   by_cases o1:o=1
   · subst o1
     obtain rfl:ps=[]:=by
      cases hr with
      | mk _ _ _ _ _ hf _ _=>exact List.eq_nil_of_length_eq_zero (by simpa [formB] using hf)
     go_wp2_with (at_builtin; refine wpList_append_lies _ rfl _ _ 26 rfl base 28 i1 (.agg #[.int .i64 0,.int .i64 0,.int .i64 0,.slice none 0 0]) 4 48 Tryz.underlying26 hi1 hy0 hy1 hy2 rfl (by omega) _ _ _ rfl (S1.byt.alloc _) ⟨wc.heap.size,0,none⟩ 1 1 [.int .i64 1,.int .i64 l,.int .i64 h,.slice av 0 cap] rfl rfl (cells_new _ _ _) (by simp [Value.oneCell']) (by omega) (by unfold maxLen; omega) (by omega) (by simp; omega) (wc.heap.size+1) (by simp) ?_; intro g2 cap2 w4 hown2 hgrow2 hat2 hlt2; have hg2:(wc.alloc (.cells #[.int .i64 1,.int .i64 l,.int .i64 h,.slice av 0 cap] 28)).grownBy w4 (Value.slice bva bs.length bvc).ownBlock:=hgrow2; have ht2:(Value.slice bva bs.length bvc).ownBlock=some g2∨g2=wc.heap.size+1:=hat2; clear hgrow2 hat2; have cx3d:=hg2.cell (ycg cx3 (xG wc _ none)) (fun e=>by have:=(H0.out.byt.lt _ e.symm).2; simp at this))
     have own4:=append_own (by decide) (S1.byt.alloc _) hg2 (S1.non.alloc _)
     have B4:=ygb (S1.byt.alloc _) hg2 ((Below.heap_alloc wc _ bm (xL S1.mch)).trans S1.mch) (by decide)
     have St:AddSt w4 bm C base (.slice (some ⟨g,0,none⟩) (ns.length+1) gc) (ns++[⟨1,0,(Pt.mk 1 l h []).nul,bs.length⟩]++nodesL [] (ns.length+1) bs.length) (.slice (some ⟨g2,0,none⟩) (bs.length+1) cap2) (bs++[⟨l,h,av,0,cap⟩]):=by
      refine ⟨B4,by simpa [nodesL] using own4,?_⟩
      rw [bpCells_append,List.length_append]
      exact hown2
     have F4:Frm (AddP bm (.slice nva ns.length nvc) (.slice bva bs.length bvc)) w w4:=(F1.alloc _).grown hg2 (fun k hk hp=>hp.2.2 hk)
     have M4:Moved w (.slice bva bs.length bvc) (.slice (some ⟨g2,0,none⟩) (bs.length+1) cap2):=Moved.of ht2 (by omega)
     have cm4:=mcell B4 hC
     have own5:=own4
     rw [len_snoc] at own5
     have E4:=hid (own5.cellAt (ns.length*4+1) (by omega))
     have E5:=E4.out
     rw [ndCells_append] at E5
     have E6:=nd_get ns (.int .i64 1) (.int .i64 ((0:Nat):Int)) (.bool (Pt.mk 1 l h []).nul) (.int .i64 bs.length) []
     rw [List.append_nil] at E6
     have ce4:=E5.trans E6
     have fe4:=own5.frozenAt (ns.length*4+1)
     clear E4 E5 E6 hg2 hown2 own4 own5 B4
     have FIN:=hid (add_end (l:=l) (h:=h) (by simp [nodesL]) rfl St (by simp [Pt.bytes]) F4 M1 M4)
     clear St F4 M4
     refine wp_loop_rounds 1 ?_
     rw [rounds_succ]
     go_wp2_with fail
     go_region
     all_goals go_wp2_with fail
     all_goals go_ret
     all_goals
      have R:=FIN.out
      rw [show ((ns.length+1:Nat):Int)=(ns.length:Int)+1 from by omega] at R
      exact R
   · have ob:(o == 1)=false:=by simp [o1]
     have HR:=hid (show ∀ q∈ps,Right q from by cases hr with | mk _ _ _ _ _ _ _ ha=>exact ha)
     have HBY:=hid (show (Pt.mk o l h ps).bytes=bytesL ps by simp [Pt.bytes,o1])
     have HLV:=hid (show (Pt.mk o l h ps).leaves=ylL ps by simp [Pt.leaves,o1])
     have HIH:=hid ih
     clear o1 ih hr
     go_wp2_with fail
     go_loopw [2,41] (fun bvv i wr=>AddRel w bm C base (.slice nva ns.length nvc) (.slice bva bs.length bvc) ns bs ⟨o,0,(Pt.mk o l h ps).nul,bs.length⟩ ps bvv i wr) (fun _ i _=>ps.length-(intOf i).toNat)
     case atStart=>exact ⟨0,_,[],Nat.zero_le _,rfl,by simpa [nodesL] using S1,rfl,F1,M1,Moved.refl _ _⟩
     case round =>
      obtain ⟨j,nvj,bsj,hj,rfl,Sj,hbj,Fj,Mj,M2j⟩:=hrel
      have hszj:=Fj.size
      have hw0j:w0.grownBy wr none:=grow_frm hw0 Fj (fun k o hk=>⟨by omega,fun e=>by have:=(H0.out.non.lt _ e).1; omega,fun e=>by have:=(H0.out.byt.lt _ e).1; omega⟩)
      by_cases hlt:j<ps.length
      · obtain ⟨b,off,xo,xl,xh,xa,xn,xc,rfl,h0,h1,h2,h3,hq⟩:=PtAt.elem HA.out j hlt
        replace h0:=ycg h0 hw0j
        replace h1:=ycg h1 hw0j
        replace h2:=ycg h2 hw0j
        replace h3:=ycg h3 hw0j
        have hle:ps[j].size+sizes (ps.take j)≤sizes ps:=by have:=sizes_take ps j hlt; have:=sizes_take_le ps (j+1); omega
        have hl1:(ns++[(⟨o,0,(Pt.mk o l h ps).nul,bs.length⟩:Nd)]++nodesL (ps.take j) (ns.length+1) bs.length).length+ps[j].size≤100000:=by simp only [List.length_append,nodesL_len,List.length_cons,List.length_nil]; omega
        have hl2:(bs++bsj).length+ps[j].size≤100000:=by
         have:=congrArg List.length hbj
         rw [ybl] at this
         have h5:=leaves_le_sizes (ps.take j)
         simp at this ⊢
         omega
        have HC:=hid (HIH.out ps[j] (List.getElem_mem hlt) _ nvj _ _ _ (wr.alloc (.cells #[.int .i64 xo,.int .i64 xl,.int .i64 xh,.slice xa xn xc] 28)) (HR.out _ (List.getElem_mem hlt)) hq (yga hw0j _) hb0 hb1 (by simp; omega) hl1 hl2 (Sj.alloc _))
        go_wp2_with fail
        refine HC.out.mono ?_
        intro e w' hp
        obtain ⟨bvj',rfl,R⟩:=AddRel.step hlt hbj Fj Mj M2j hp
        have R2:=hid R
        clear R hp HC
        go_wp2_with fail
        go_roundw
        case rel=>exact R2.out
        case measure=>simp [intOf]; omega
      · have e0:j=ps.length:=by omega
        have et:ps.take j=ps:=List.take_of_length_le (by omega)
        rw [et] at Sj hbj
        have hL:(ns++[(⟨o,0,(Pt.mk o l h ps).nul,bs.length⟩:Nd)]++nodesL ps (ns.length+1) bs.length).length=ns.length+1+sizes ps:=by simp [nodesL_len]; omega
        have own5:=Sj.non
        rw [hL] at own5
        obtain ⟨gj,gcj,rfl,_,_⟩:=own5.form (by omega)
        have cm4:=mcell Sj.mch hC
        have E5:=own5.cellAt (ns.length*4+1) (by omega)
        rw [ndCells_append,ndCells_append] at E5
        have E6:=nd_get ns (.int .i64 o) (.int .i64 ((0:Nat):Int)) (.bool (Pt.mk o l h ps).nul) (.int .i64 bs.length) (ndCells (nodesL ps (ns.length+1) bs.length))
        have ce4:=E5.trans E6
        have fe4:=own5.frozenAt (ns.length*4+1)
        have FIN:=hid (add_end (l:=l) (h:=h) hL.symm rfl Sj (hbj.trans HBY.out.symm) Fj Mj M2j)
        have hm:((ns.length+1+sizes ps:Nat):Int)=(ns.length:Int)+1+(sizes ps:Int):=by omega
        have HM:=hid hm
        have hi1:(0:Int)≤(ns.length:Int):=by omega
        have hi2:(ns.length:Int)<(ns.length:Int)+1+(sizes ps:Int):=by omega
        clear Sj hbj own5 E5 E6 hL et e0 hm
        go_wp2_with fail
        go_region
        all_goals go_wp2_with fail
        all_goals go_ret
        all_goals
         have R:=FIN.out
         rw [HM.out] at R
         exact R
end Go.Proofs.YtplbacfjmajeeaaGreatDoor
