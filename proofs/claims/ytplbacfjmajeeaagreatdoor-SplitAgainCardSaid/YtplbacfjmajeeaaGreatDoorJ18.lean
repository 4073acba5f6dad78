import Derived.Test.YtplbacfjmajeeaaGreatDoorJ17
namespace Go.Proofs.YtplbacfjmajeeaaGreatDoor
open Go.RowKit
theorem cls_prev (by_:List (Int × Int)) (n:Nat) (h:bg by_ (n+1)=false):cls by_ (n+1)=cls by_ n:=by
 unfold cls
 rw [lows_succ by_ (n+1),h]
 simp
theorem expand_lows (by_:List (Int × Int)) (h:BytesOk by_) (can:List Nat) (hc:∀ k∈can,k<by_.length) (text:List UInt8) (L:List En):∀ n,expand by_ can text (List.range n) L=expand by_ can text (lows by_ n) L:=by
 intro n
 induction n with
 | zero=>rfl
 | succ n ih =>
  rw [List.range_succ,expand_append,lows_succ,expand_append,← ih]
  by_cases hb:bg by_ n=true
  · rw [if_pos hb]
  · rw [if_neg hb]
    cases n with
    | zero=>exact absurd (bg_zero by_) hb
    | succ m =>
     refine expand_known _ _ _ _ _ (fun c hcm=>?_)
     have:c=m+1:=by simpa using hcm
     subst this
     rw [step_match by_ h can hc,cls_prev by_ m (by simpa using hb),← step_match by_ h can hc]
     exact expand_mem _ _ _ _ _ m (by simp)
def WsL (P:Nat) (L:List En):Prop:=∀ e∈L,e.set.Pairwise (· < ·)∧∀ k∈e.set,k<P
theorem canAt_ok (ps:List Pt) (L:List En) (i:Nat):(canAt ps L i).Pairwise (· < ·)∧∀ k∈canAt ps L i,k<(bytesL ps).length:=by
 rw [ybl]
 unfold canAt
 split
 · rw [← opnO_start]
   have:=opnO_bd (fun _=>false) ps 0 true
   exact ⟨this.2,fun k hk=>by have:=this.1 k hk; omega⟩
 · have:=opnO_bd (fun k=>decide (k∈(L.getD (i-1) ⟨[],[]⟩).set)) ps 0 false
   exact ⟨this.2,fun k hk=>by have:=this.1 k hk; omega⟩
theorem open_can (ps:List Pt) (L:List En) (i:Nat):opnO ((maskAt L i).testBit ·) ps 0 (decide (i=0))=canAt ps L i:=by
 unfold canAt
 cases i with
 | zero=>simp only [maskAt,Nat.zero_testBit,decide_true,if_true]; exact opnO_start ps 0
 | succ i=>simp only [maskAt,testBit_maskOf,Nat.add_eq_zero_iff,Nat.one_ne_zero,and_false,decide_false,if_false,Nat.add_sub_cancel]
def maskC (ps:List Pt) (L:List En) (i κ:Nat):Nat:=maskOf (canAt ps L i) &&& maskOf (matchL (bytesL ps) (bytesL ps).length κ)
def lowsP (ps:List Pt):List Nat:=lows (bytesL ps) 256
theorem step_class (ps:List Pt) (h:BytesOk (bytesL ps)) (L:List En) (i κ:Nat) (hκ:κ<(lowsP ps).length):maskOf (stepL (bytesL ps) (canAt ps L i) (lowsP ps)[κ])=maskC ps L i κ:=by
 obtain ⟨h1,_,_⟩:=cls_low (bytesL ps) 256 κ hκ
 unfold maskC
 rw [step_match (bytesL ps) h _ (canAt_ok ps L i).2]
 have h1':cls (bytesL ps) (lowsP ps)[κ]=κ:=h1
 rw [h1']
 exact (maskOf_and _ _ _ (fun k _=>testBit_maskOf _ k)).symm
theorem mem_pos {P:Nat} {L:List En} (hL:WsL P L) {s:List Nat} (hs:s.Pairwise (· < ·)):s∈L.map En.set↔posM L (maskOf s)≠none:=by
 rw [Ne,posM_none]
 constructor
 · intro h h2
   obtain ⟨e,he,rfl⟩:=List.mem_map.1 h
   exact h2 e he rfl
 · intro h
   refine Decidable.byContradiction fun h2=>h fun e he he2=>h2 ?_
   exact List.mem_map.2 ⟨e,he,maskOf_inj (hL e he).1 hs he2⟩
theorem posM_append (L M:List En) (m j:Nat) (h:posM L m=some j):posM (L++M) m=some j:=by
 unfold posM at h ⊢
 rw [List.findIdx?_append]
 cases h2:L.findIdx? (fun e=>maskOf e.set == m) with
 | some k=>rw [h2] at h; simpa using h
 | none=>rw [h2] at h; cases h
def partL (ps:List Pt) (L:List En) (i κ:Nat):List En:=expand (bytesL ps) (canAt ps L i) (textAt L i) ((lowsP ps).take κ) L
theorem partL_all (ps:List Pt) (h:BytesOk (bytesL ps)) (L:List En) (i:Nat):partL ps L i (lowsP ps).length=growAt ps L i:=by
 unfold partL growAt
 rw [List.take_length,expand_lows (bytesL ps) h _ (canAt_ok ps L i).2]
 rfl
theorem partL_prefix (ps L i κ):∃ M,partL ps L i κ=L++M:=expand_prefix _ _ _ _ _
def entC (ps:List Pt) (L:List En) (i κ:Nat):En:=⟨stepL (bytesL ps) (canAt ps L i) ((lowsP ps).getD κ 0),textAt L i++[UInt8.ofNat ((lowsP ps).getD κ 0)]⟩
theorem entC_mask (ps:List Pt) (h:BytesOk (bytesL ps)) (L:List En) (i κ:Nat) (hκ:κ<(lowsP ps).length):maskOf (entC ps L i κ).set=maskC ps L i κ:=by
 have hg:(lowsP ps).getD κ 0=(lowsP ps)[κ]:=by simp [List.getD,hκ]
 simp only [entC,hg]
 exact step_class ps h L i κ hκ
theorem entC_ok (ps L i κ):(entC ps L i κ).set.Pairwise (· < ·)∧∀ k∈(entC ps L i κ).set,k<(bytesL ps).length:=by
 have:=canAt_ok ps L i
 exact ⟨this.1.sublist List.filter_sublist,fun k hk=>this.2 k (List.mem_filter.1 hk).1⟩
theorem partL_succ (ps:List Pt) (h:BytesOk (bytesL ps)) (L:List En) (i κ:Nat) (hκ:κ<(lowsP ps).length) (hw:WsL (bytesL ps).length (partL ps L i κ)) :
 partL ps L i (κ+1)=if posM (partL ps L i κ) (maskC ps L i κ)=none then partL ps L i κ++[entC ps L i κ] else partL ps L i κ:=by
 have hg:(lowsP ps).getD κ 0=(lowsP ps)[κ]:=by simp [List.getD,hκ]
 have e:(lowsP ps).take (κ+1)=(lowsP ps).take κ++[(lowsP ps).getD κ 0]:=by rw [hg]; exact (List.take_append_getElem hκ).symm
 have hm:=mem_pos hw (entC_ok ps L i κ).1
 rw [entC_mask ps h L i κ hκ] at hm
 unfold partL at hm ⊢
 rw [e,expand_append]
 simp only [expand,entC] at hm ⊢
 by_cases hp:posM (expand (bytesL ps) (canAt ps L i) (textAt L i) ((lowsP ps).take κ) L) (maskC ps L i κ)=none
 · rw [if_pos hp,if_neg (fun hm2=>(hm.1 hm2) hp)]
 · rw [if_neg hp,if_pos (hm.2 hp)]
theorem wsL_snoc {P:Nat} {L:List En} (h:WsL P L) {e:En} (h1:e.set.Pairwise (· < ·)) (h2:∀ k∈e.set,k<P):WsL P (L++[e]):=by
 intro x hx
 rcases List.mem_append.1 hx with hx | hx
 · exact h x hx
 · have:x=e:=by simpa using hx
   subst this; exact ⟨h1,h2⟩
theorem lowsP_le (ps:List Pt):(lowsP ps).length≤256:=by
 unfold lowsP lows
 exact Nat.le_trans (List.length_filter_le _ _) (by simp)
theorem textAt_append (L M:List En) (i:Nat) (h:i≤L.length):textAt (L++M) i=textAt L i:=by
 unfold textAt
 split
 · rfl
 · simp only [List.getD]; rw [List.getElem?_append_left (by omega)]
theorem canAt_append (ps:List Pt) (L M:List En) (i:Nat) (h:i≤L.length):canAt ps (L++M) i=canAt ps L i:=by
 unfold canAt
 split
 · rfl
 · have e:(L++M).getD (i-1) ⟨[],[]⟩=L.getD (i-1) ⟨[],[]⟩:=by simp only [List.getD]; rw [List.getElem?_append_left (by omega)]
   simp only [e]
theorem maskC_append (ps:List Pt) (L M:List En) (i κ:Nat) (h:i≤L.length):maskC ps (L++M) i κ=maskC ps L i κ:=by
 unfold maskC; rw [canAt_append ps L M i h]
def Links (ps:List Pt) (L:List En) (sts:List StV):Prop :=
 ∀ (k:Nat) (s:StV),k<L.length→sts[k+1]? = some s→s.frm≤k∧s.cl<(lowsP ps).length∧textAt L (k+1)=textAt L s.frm++[UInt8.ofNat ((lowsP ps).getD s.cl 0)]
theorem Links.snoc {ps:List Pt} {L L0:List En} {sts:List StV} {i κ:Nat} {x:StV} (h:Links ps L sts) (hl:sts.length=L.length+1) (hi:i≤L0.length) (h0:∃ M,L=L0++M) (hκ:κ<(lowsP ps).length) (hf:x.frm=i) (hc:x.cl=κ):Links ps (L++[entC ps L0 i κ]) (sts++[x]):=by
 obtain ⟨M,rfl⟩:=h0
 intro k s hk hs
 rw [List.length_append] at hk hl
 simp only [List.length_singleton,List.length_append] at hk
 rcases Nat.lt_or_ge k (L0.length+M.length) with h1 | h1
 · rw [List.getElem?_append_left (by omega)] at hs
   obtain ⟨a,b,c⟩:=h k s (by rw [List.length_append]; exact h1) hs
   refine ⟨a,b,?_⟩
   rw [textAt_append (L0++M) _ (k+1) (by rw [List.length_append]; omega),textAt_append (L0++M) _ s.frm (by rw [List.length_append]; omega)]
   exact c
 · have hk2:k=L0.length+M.length:=by omega
   subst hk2
   rw [List.getElem?_append_right (by omega)] at hs
   have:s=x:=by
    have e:L0.length+M.length+1-sts.length=0:=by omega
    rw [e] at hs; simpa using hs.symm
   subst this
   refine ⟨by omega,by omega,?_⟩
   have e1:textAt (L0++M++[entC ps L0 i κ]) i=textAt L0 i:=by
    rw [textAt_append (L0++M) _ i (by rw [List.length_append]; omega),textAt_append L0 _ i hi]
   rw [hf,hc,e1]
   have e2:∀ X:List En,textAt X (L0.length+M.length+1)=(X.getD (L0.length+M.length) ⟨[],[]⟩).text:=fun X=>by simp [textAt]
   rw [e2]
   have:(L0++M++[entC ps L0 i κ]).getD (L0.length+M.length) ⟨[],[]⟩=entC ps L0 i κ:=by
    simp [List.getD]
   rw [this]
   rfl
def T3 (_:Nat) (o:Option Obj):Prop:=∃ (cs:Array Value) (fr:Nat × Nat),o=some (.cells cs 3 fr)
def fitsAt (ps:List Pt) (L:List En) (i:Nat):List Nat:=fitsL ((maskAt L i).testBit ·) (decide (i=0)) ps 0 0
def Rec1 (ps:List Pt) (w:World) (base:Nat) (L:List En) (i:Nat) (s:StV):Prop :=
 w.ownsRow base 3 1 s.fv (fitsAt ps L i).length (natCells (fitsAt ps L i)) ∧
 (∃ R:List Nat,R.length=(lowsP ps).length∧w.ownsRow base 3 1 s.nv R.length (natCells R)∧∀ κ r:Nat,R[κ]? = some r→posM L (maskC ps L i κ)=some r) ∧
 s.stuck=decide (maskOf (canAt ps L i)=0)
def Recs (ps:List Pt) (w:World) (base:Nat) (L:List En) (m:Nat) (sts:List StV):Prop:=∀ (i:Nat) (s:StV),i<m→sts[i]? = some s→Rec1 ps w base L i s
theorem row3_frm {w w':World} (F:Frm T3 w w') {base n:Nat} {v:Value} {xs:List Value} (h:w.ownsRow base 3 1 v n xs):w'.ownsRow base 3 1 v n xs :=
 ownsRow_frm F h (fun _ c _ _=>⟨c,(0,0),rfl⟩)
theorem Rec1.frm {ps:List Pt} {w w':World} {base i:Nat} {L:List En} {s:StV} (h:Rec1 ps w base L i s) (F:Frm T3 w w'):Rec1 ps w' base L i s:=by
 obtain ⟨h1,⟨R,h2,h3,h4⟩,h5⟩:=h
 exact ⟨row3_frm F h1,⟨R,h2,row3_frm F h3,h4⟩,h5⟩
theorem Rec1.append {ps:List Pt} {w:World} {base i:Nat} {L:List En} {s:StV} (h:Rec1 ps w base L i s) (M:List En) (hi:i≤L.length):Rec1 ps w base (L++M) i s:=by
 obtain ⟨h1,⟨R,h2,h3,h4⟩,h5⟩:=h
 unfold Rec1 fitsAt
 rw [maskAt_append _ _ _ (by omega),canAt_append _ _ _ _ hi]
 exact ⟨h1,⟨R,h2,h3,fun κ r hr=>by rw [maskC_append _ _ _ _ _ hi]; exact posM_append _ _ _ _ (h4 κ r hr)⟩,h5⟩
theorem stCells_set0 (l:List StV):∀ (i:Nat) (s:StV) (v:Value),l[i]? = some s→(stCells l).set (i*5) v=stCells (l.set i { s with fv:=v }):=by
 induction l with
 | nil=>intro i s v h; simp at h
 | cons x l ih =>
  intro i s v h
  cases i with
  | zero => obtain rfl : x = s := by simpa using h
            simp [stCells]
  | succ i =>
   have h1:=ih i s v (by simpa using h)
   simp only [stCells,List.flatMap_cons,xSs] at h1 ⊢
   rw [← h1,show (i+1)*5=i*5+5 by omega]
   rfl
theorem stCells_set1 (l:List StV):∀ (i:Nat) (s:StV) (v:Value),l[i]? = some s→(stCells l).set (i*5+1) v=stCells (l.set i { s with nv:=v }):=by
 induction l with
 | nil=>intro i s v h; simp at h
 | cons x l ih =>
  intro i s v h
  cases i with
  | zero => obtain rfl : x = s := by simpa using h
            simp [stCells]
  | succ i =>
   have h1:=ih i s v (by simpa using h)
   simp only [stCells,List.flatMap_cons,xSs] at h1 ⊢
   rw [← h1,show (i+1)*5+1=(i*5+1)+5 by omega]
   rfl
theorem stCells_set2 (l:List StV):∀ (i:Nat) (s:StV) (b:Bool),l[i]? = some s→(stCells l).set (i*5+2) (.bool b)=stCells (l.set i { s with stuck:=b }):=by
 induction l with
 | nil=>intro i s v h; simp at h
 | cons x l ih =>
  intro i s v h
  cases i with
  | zero => obtain rfl : x = s := by simpa using h
            simp [stCells]
  | succ i =>
   have h1:=ih i s v (by simpa using h)
   simp only [stCells,List.flatMap_cons,xSs] at h1 ⊢
   rw [← h1,show (i+1)*5+2=(i*5+2)+5 by omega]
   rfl
theorem XG.behind {w2 w w':World} {bm bx gm mm gd gb P n:Nat} {C:Array Value} {L L2:List En} {sv kv stv:Value} {svs:List Value} {sts:List StV} (X:XG w2 w bm bx gm mm gd gb P n C L L2 sv kv stv svs sts) (F:Frm (BehP gd gb) w w')
 (hD:∃ D,BoolRow w' gd D∧D.length=n) (hB:∃ B,BoolRow w' gb B∧B.length=n):XG w2 w' bm bx gm mm gd gb P n C L L2 sv kv stv svs sts:=by
 obtain ⟨cur,hcur⟩:=X.met
 obtain ⟨D0,hD0,_⟩:=X.dn
 obtain ⟨B0,hB0,_⟩:=X.bgn
 obtain ⟨xs,hk⟩:=X.key
 obtain ⟨f,hf,hf2⟩:=X.map
 obtain ⟨es,c,hmb⟩:=hf.blk
 have hcell:∀ {b:Nat} {cs:Array Value} {t:TypeId} {fr:Nat × Nat},w.heap[b]? = some (.cells cs t fr)→t≠4→w'.heap[b]? = some (.cells cs t fr) :=
  fun hb ht=>(F.block _ (xL hb) ⟨blk_ne hb hD0 ht,blk_ne hb hB0 ht⟩).trans hb
 have hrow:∀ {e:TypeId} {size m:Nat} {v:Value} {ys:List Value},e≠4→w.ownsRow w2.heap.size e size v m ys→w'.ownsRow w2.heap.size e size v m ys :=
  fun he ho=>ownsRow_frm F ho (fun k cs _ hk=>⟨blk_ne hk hD0 he,blk_ne hk hB0 he⟩)
 have hmp:w'.heap[mm]? = w.heap[mm]?:=F.block _ (xL hmb) ⟨map_ne hmb hD0,map_ne hmb hB0⟩
 exact ⟨X.fr.trans (F.mono (fun k _ h=>⟨h.2.1,h.2.2⟩)),hcell X.mch (by decide),hD,hB,hcell X.xb (by decide),hrow (by decide) X.set,X.svl,fun k v hv=>by
  obtain ⟨g0,c0,hv0,h0⟩:=X.sva k v hv
  refine ⟨g0,c0,hv0,fun hp=>?_⟩
  obtain ⟨h1,cs,h2,h3⟩:=h0 hp
  exact ⟨h1,cs,hcell h2 (by decide),h3⟩,⟨cur,hcur.fits,hcell hcur.blk (by decide)⟩,⟨xs,hrow (by decide) hk⟩,⟨f,hf.same hmp,hf2⟩,hrow (by decide) X.str,X.new,X.fits⟩
theorem XG.setSt {w2 w:World} {bm bx gm mm gd gb P n g m cap j:Nat} {C:Array Value} {L L2:List En} {sv kv:Value} {svs:List Value} {sts sts':List StV} {u:Value} (X:XG w2 w bm bx gm mm gd gb P n C L L2 sv kv (.slice (some ⟨g,0,none⟩) m cap) svs sts) (hl:sts'.length=sts.length) (hs:(stCells sts).set j u=stCells sts') :
 XG w2 (w.setCell ⟨g,j,none⟩ u) bm bx gm mm gd gb P n C L L2 sv kv (.slice (some ⟨g,0,none⟩) m cap) svs sts'∧Frm T3 w (w.setCell ⟨g,j,none⟩ u):=by
 have hm:m=sts.length:=by
  rcases X.str.2 with ⟨h',_⟩ | ⟨g',cap',cur,h',_⟩
  · simp at h'
  · simp only [Value.slice.injEq] at h'; exact h'.2.1
 subst hm
 obtain ⟨hst,gs⟩:=X.str.stored j u
 rw [hs] at hst
 obtain ⟨_,cc,hgb⟩:=yob X.str g rfl
 obtain ⟨cur,hcur⟩:=X.met
 obtain ⟨D0,hD0,hDl⟩:=X.dn
 obtain ⟨B0,hB0,hBl⟩:=X.bgn
 obtain ⟨xs,hk⟩:=X.key
 obtain ⟨f,hf,hf2⟩:=X.map
 obtain ⟨es,c,hmb⟩:=hf.blk
 have hcell:∀ {b:Nat} {cs:Array Value} {t:TypeId} {fr:Nat × Nat},w.heap[b]? = some (.cells cs t fr)→t≠146→(w.setCell ⟨g,j,none⟩ u).heap[b]? = some (.cells cs t fr) :=
  fun hb ht=>(gs.block _ (xL hb) (by simpa using blk_ne hb hgb ht)).trans hb
 have hrow:∀ {e:TypeId} {size m:Nat} {v:Value} {ys:List Value},e≠146→w.ownsRow w2.heap.size e size v m ys→(w.setCell ⟨g,j,none⟩ u).ownsRow w2.heap.size e size v m ys :=
  fun he ho=>ho.kept gs (.inr (own_ne_block ho hgb he))
 have hmp:(w.setCell ⟨g,j,none⟩ u).heap[mm]? = w.heap[mm]?:=gs.block _ (xL hmb) (by simpa using map_ne hmb hgb)
 have hg2:w2.heap.size≤g:=(X.str.lt g rfl).1
 refine ⟨⟨X.fr.grown2 gs (fun k hk=>.inl (by (have hkk:g=k:=(by simpa using hk)); omega)),hcell X.mch (by decide),⟨D0,hcell hD0 (by decide),hDl⟩,⟨B0,hcell hB0 (by decide),hBl⟩,hcell X.xb (by decide),hrow (by decide) X.set,X.svl,fun k v hv=>?_,⟨cur,hcur.fits,hcell hcur.blk (by decide)⟩,⟨xs,hrow (by decide) hk⟩,⟨f,hf.same hmp,hf2⟩,by rw [hl]; exact hst,X.new,X.fits⟩,?_⟩
 · obtain ⟨g0,c0,hv0,h0⟩:=X.sva k v hv
   refine ⟨g0,c0,hv0,fun hp=>?_⟩
   obtain ⟨h1,cs,h2,h3⟩:=h0 hp
   exact ⟨h1,cs,hcell h2 (by decide),h3⟩
 · refine ⟨gs.os,gs.tape,gs.output,gs.size,fun k hk hp=>gs.block k hk ?_⟩
   obtain ⟨cs,fr,h3⟩:=hp
   simpa using blk_ne h3 hgb (by decide)
theorem XG.fol3 {w2 w w':World} {bm bx gm mm gd gb P n:Nat} {C:Array Value} {L L2:List En} {sv kv stv:Value} {svs:List Value} {sts:List StV} (X:XG w2 w bm bx gm mm gd gb P n C L L2 sv kv stv svs sts) (F:Frm (FolP bm bx gm mm sv kv stv) w w'):Frm T3 w w':=by
 obtain ⟨cur,hcur⟩:=X.met
 obtain ⟨xs,hk⟩:=X.key
 obtain ⟨f,hf,hf2⟩:=X.map
 obtain ⟨es,c,hmb⟩:=hf.blk
 refine F.mono (fun k hk2 hp=>?_)
 obtain ⟨cs,fr,h3⟩:=hp
 exact ⟨blk_ne h3 X.mch (by decide),blk_ne h3 X.xb (by decide),blk_ne h3 hcur.blk (by decide),fun e=>map_ne hmb h3 e.symm,own_ne_block X.set h3 (by decide),own_ne_block hk h3 (by decide),own_ne_block X.str h3 (by decide)⟩
theorem XG.folSet {w2 w w':World} {bm bx gm mm gd gb P n bo A:Nat} {C:Array Value} {L L2:List En} {sv kv stv:Value} {svs:List Value} {sts:List StV} (X:XG w2 w bm bx gm mm gd gb P n C L L2 sv kv stv svs sts) (F:Frm (FolP bm bx gm mm sv kv stv) w w') (hb:bo≠gm) (hO:OwnSet w bo P A):OwnSet w' bo P A:=by
 obtain ⟨xs,hk⟩:=X.key
 obtain ⟨f,hf,hf2⟩:=X.map
 obtain ⟨es,c,hmb⟩:=hf.blk
 refine ⟨hO.fits,(F.block _ (xL hO.blk) ?_).trans hO.blk⟩
 exact ⟨blk_ne hO.blk X.mch (by decide),blk_ne hO.blk X.xb (by decide),hb,fun e=>map_ne hmb hO.blk e.symm,own_ne_block X.set hO.blk (by decide),own_ne_block hk hO.blk (by decide),own_ne_block X.str hO.blk (by decide)⟩
structure Init1 (w2 W:World) (bm gd gb P n:Nat) (C:Array Value):Prop where
 fr:Frm (OldP bm gd gb) w2 W
 mch:W.heap[bm]? = some (.cells (C.setIfInBounds 263 (.slice (some ⟨w2.heap.size+2+1,0,none⟩) 1 1)) 136 (0,0))
 xb:W.heap[w2.heap.size+2]? = some (.cells #[.pointer (some ⟨bm,0,none⟩),.slice none 0 0,.map (some w2.heap.size),setV P (w2.heap.size+1),.slice none 0 0] 144 (0,0))
 st:W.heap[w2.heap.size+2+1]? = some (.cells #[.slice none 0 0,.slice none 0 0,.bool false,.int .i64 0,.int .i64 0] 146 (0,0))
 met:OwnSet W (w2.heap.size+1) P 0
 map:StrMap W w2.heap.size 0 (fun _=>none)
 dn:∃ D,BoolRow W gd D∧D.length=n
 bgn:∃ B,BoolRow W gb B∧B.length=n
 size:W.heap.size=w2.heap.size+4
theorem init1 {w2 w1:World} {base0 bm gn gr gd gb:Nat} {ps:List Pt} {C:Array Value} {lv mv:Value} {gs:List Nat} (hM:MacF w2 base0 bm gn gr gd gb ps C lv mv gs) (g1:w2.grownBy w1 none) (hmap:StrMap w1 w2.heap.size 0 (fun _=>none))
 (hset:OwnSet w1 (w2.heap.size+1) (ylL ps) 0) (hs:w1.heap.size=w2.heap.size+2) :
 Init1 w2 (((w1.alloc (.cells #[.pointer (some ⟨bm,0,none⟩),.slice none 0 0,.map (some w2.heap.size),.slice (some ⟨w2.heap.size+1,0,none⟩) (nw (ylL ps)) (nw (ylL ps)),.slice none 0 0] 144)).alloc (.cells #[.slice none 0 0,.slice none 0 0,.bool false,.int .i64 0,.int .i64 0] 146)).setCell ⟨bm,263,none⟩ (.slice (some ⟨w2.heap.size+2+1,0,none⟩) 1 1)) bm gd gb (ylL ps) (sizes ps) C:=by
 generalize ho1:(Obj.cells #[Value.pointer (some ⟨bm,0,none⟩),.slice none 0 0,.map (some w2.heap.size),.slice (some ⟨w2.heap.size+1,0,none⟩) (nw (ylL ps)) (nw (ylL ps)),.slice none 0 0] 144)=o1
 generalize ho2:(Obj.cells #[Value.slice none 0 0,.slice none 0 0,.bool false,.int .i64 0,.int .i64 0] 146)=o2
 have gA:w1.grownBy ((w1.alloc o1).alloc o2) none:=yga (yga (grow_self w1) o1) o2
 have g2:w2.grownBy ((w1.alloc o1).alloc o2) none:=xT g1 gA
 have hb:=grow_new g2 hM.mac.blk
 have hbm:=xL hM.mac.blk
 have hoth:∀ {k:Nat},k≠bm→(((w1.alloc o1).alloc o2).setCell ⟨bm,263,none⟩ (.slice (some ⟨w2.heap.size+2+1,0,none⟩) 1 1)).heap[k]? = ((w1.alloc o1).alloc o2).heap[k]?:=fun hk=>Below.heap_setCell _ _ _ _ hk
 obtain ⟨D,hD,hDl⟩:=hM.dn
 obtain ⟨B,hB,hBl⟩:=hM.bgn
 obtain ⟨es,c,hmb⟩:=hmap.blk
 refine ⟨((Frm.of_grown g2 _).set2 _ _ (.inr (fun _ hp=>hp.1 rfl))),yhs hb 263 _,?_,?_,⟨hset.fits,?_⟩,hmap.same ?_,⟨D,?_,hDl⟩,⟨B,?_,hBl⟩,?_⟩
 · rw [hoth (by omega),Below.heap_alloc _ _ _ (by simp [hs]),yhn w1 o1 _ hs]
   rw [← ho1]; rfl
 · rw [hoth (by omega),yhn _ o2 _ (by simp [hs])]
   rw [← ho2]
 · rw [hoth (by omega)]; exact grow_new gA hset.blk
 · rw [hoth (by omega)]; exact gA.block _ (xL hmb) (by simp)
 · exact (hoth (blk_ne hD hM.mac.blk (by decide))).trans (grow_new g2 hD)
 · exact (hoth (blk_ne hB hM.mac.blk (by decide))).trans (grow_new g2 hB)
 · simp [World.setCell,hs]
theorem init2 {w2 W:World} {bm gd gb P n:Nat} {C:Array Value} (I:Init1 w2 W bm gd gb P n C) :
 XG w2 (((W.alloc (.cells (cellsS P 0) 181)).alloc (.cells #[.slice (some ⟨w2.heap.size+4,0,none⟩) (nw P) (nw P)] 141)).setCell ⟨w2.heap.size+2,1,none⟩ (.slice (some ⟨w2.heap.size+4+1,0,none⟩) 1 1)) bm (w2.heap.size+2) (w2.heap.size+1) w2.heap.size gd gb P n C [] []
  (.slice (some ⟨w2.heap.size+4+1,0,none⟩) 1 1) (.slice none 0 0) (.slice (some ⟨w2.heap.size+2+1,0,none⟩) 1 1) [.slice (some ⟨w2.heap.size+4,0,none⟩) (nw P) (nw P)] [⟨.slice none 0 0,.slice none 0 0,false,0,0⟩]:=by
 generalize ho1:(Obj.cells (cellsS P 0) 181)=o1
 generalize ho2:(Obj.cells #[Value.slice (some ⟨w2.heap.size+4,0,none⟩) (nw P) (nw P)] 141)=o2
 have gA:W.grownBy ((W.alloc o1).alloc o2) none:=yga (yga (grow_self W) o1) o2
 have hs:=I.size
 have hoth:∀ {k:Nat},k≠w2.heap.size+2→(((W.alloc o1).alloc o2).setCell ⟨w2.heap.size+2,1,none⟩ (.slice (some ⟨w2.heap.size+4+1,0,none⟩) 1 1)).heap[k]? = ((W.alloc o1).alloc o2).heap[k]?:=fun hk=>Below.heap_setCell _ _ _ _ hk
 obtain ⟨D,hD,hDl⟩:=I.dn
 obtain ⟨B,hB,hBl⟩:=I.bgn
 obtain ⟨es,c,hmb⟩:=I.map.blk
 have hst:=(hoth (blk_ne I.st I.xb (by decide))).trans (grow_new gA I.st)
 have hnew:(((W.alloc o1).alloc o2).setCell ⟨w2.heap.size+2,1,none⟩ (.slice (some ⟨w2.heap.size+4+1,0,none⟩) 1 1)).heap[w2.heap.size+4+1]? = some o2:=by
  rw [hoth (by omega),yhn _ o2 _ (by simp [hs])]
 have hnew0:(((W.alloc o1).alloc o2).setCell ⟨w2.heap.size+2,1,none⟩ (.slice (some ⟨w2.heap.size+4+1,0,none⟩) 1 1)).heap[w2.heap.size+4]? = some o1:=by
  rw [hoth (by omega),Below.heap_alloc _ _ _ (by simp [hs]),yhn W o1 _ hs]
 replace hnew:=hnew.trans (congrArg some ho2.symm)
 replace hnew0:=hnew0.trans (congrArg some ho1.symm)
 refine ⟨((I.fr.trans (Frm.of_grown gA _)).set2 _ _ (.inl (by simp))),?_,⟨D,?_,hDl⟩,⟨B,?_,hBl⟩,?_,?_,rfl,fun k v hv=>?_,⟨0,I.met.fits,?_⟩,⟨[],World.ownsRow_nil _ _ _ _⟩,⟨_,I.map.same ?_,fun M hM=>rfl⟩,?_,⟨by omega,by omega,by omega⟩,fun k hk=>?_⟩
 · exact (hoth (blk_ne I.mch I.xb (by decide))).trans (grow_new gA I.mch)
 · exact (hoth (blk_ne hD I.xb (by decide))).trans (grow_new gA hD)
 · exact (hoth (blk_ne hB I.xb (by decide))).trans (grow_new gA hB)
 · rw [yhs (grow_new gA I.xb) 1 _]; rfl
 · exact ⟨rfl,.inr ⟨_,1,_,rfl,by omega,hnew,Nat.le_refl _,by decide,rfl,rfl⟩⟩
 · cases k with
   | succ k=>simp at hv
   | zero =>
    obtain rfl:_=v:=by simpa using hv
    refine ⟨_,_,rfl,fun hp=>⟨by omega,_,hnew0,?_⟩⟩
    simp [cellsS,show P≠0 by omega,maskAt]
 · exact (hoth (blk_ne I.met.blk I.xb (by decide))).trans (grow_new gA I.met.blk)
 · rw [hoth (by omega)]; exact gA.block _ (xL hmb) (by simp)
 · exact ⟨rfl,.inr ⟨_,1,_,rfl,by omega,hst,Nat.le_refl _,by decide,rfl,rfl⟩⟩
 · obtain rfl:k=0:=by simpa using hk
   exact Nat.two_pow_pos P
theorem init3 {w2 W:World} {bm gd gb P n:Nat} {C:Array Value} (I:Init1 w2 W bm gd gb P n C) :
 XG w2 (((W.setCell ⟨w2.heap.size+2,1,none⟩ (.slice (some ⟨w2.heap.size+4+1,0,none⟩) 1 1)).alloc (.cells (cellsS P 0) 181)).alloc (.cells #[.slice (some ⟨w2.heap.size+4,0,none⟩) (nw P) (nw P)] 141)) bm (w2.heap.size+2) (w2.heap.size+1) w2.heap.size gd gb P n C [] []
  (.slice (some ⟨w2.heap.size+4+1,0,none⟩) 1 1) (.slice none 0 0) (.slice (some ⟨w2.heap.size+2+1,0,none⟩) 1 1) [.slice (some ⟨w2.heap.size+4,0,none⟩) (nw P) (nw P)] [⟨.slice none 0 0,.slice none 0 0,false,0,0⟩]:=by
 have h:=init2 I
 have hs:=I.size
 rw [World.setCell_alloc_past _ _ _ _ (by simp; omega),World.setCell_alloc_past _ _ _ _ (by omega)] at h
 exact h
theorem row_base {w:World} {b0 b1:Nat} {e:TypeId} {size n:Nat} {v:Value} {xs:List Value} (h:w.ownsRow b1 e size v n xs) (hb:b0≤b1):w.ownsRow b0 e size v n xs :=
 ⟨h.1,h.2.imp id (fun ⟨g,cap,cur,hv,hg,r⟩=>⟨g,cap,cur,hv,Nat.le_trans hb hg,r⟩)⟩
theorem XG.mac {w2 w:World} {base0 bm gn gr gd gb bx gm mm P n:Nat} {ps:List Pt} {C:Array Value} {lv mv:Value} {gs:List Nat} {L L2:List En} {sv kv stv:Value} {svs:List Value} {sts:List StV} (hM:MacF w2 base0 bm gn gr gd gb ps C lv mv gs) (X:XG w2 w bm bx gm mm gd gb P n C L L2 sv kv stv svs sts) :
 Mac w bm gn gr gd gb ps (C.setIfInBounds 263 stv):=by
 obtain ⟨D,hD,_⟩:=hM.dn
 obtain ⟨B,hB,_⟩:=hM.bgn
 have h:=hM.mac
 obtain ⟨cs,h1,h2⟩:=h.nod
 obtain ⟨cs3,h3,h4⟩:=h.roo
 refine ⟨X.mch,?_,?_,?_,?_,?_,⟨cs,X.old h.blk hD hB h1 (by decide) (by decide),h2⟩,⟨cs3,X.old h.blk hD hB h3 (by decide) (by decide),h4⟩⟩
 all_goals rw [Array.getElem?_setIfInBounds_ne (by omega)]
 · exact h.c0
 · exact h.c1
 · exact h.c2
 · exact h.c6
 · exact h.c7
theorem XG.setAt {w2 w:World} {bm bx gm mm gd gb P n k:Nat} {C:Array Value} {L L2:List En} {sv kv stv v:Value} {svs:List Value} {sts:List StV} (X:XG w2 w bm bx gm mm gd gb P n C L L2 sv kv stv svs sts) (hk:k≤L.length) (hv:svs[k]? = some v):SetAt w v P (maskAt L k):=by
 obtain ⟨g,c,rfl,h⟩:=X.sva k v hv
 refine ⟨X.fits k hk,g,c,rfl,fun hp=>?_⟩
 obtain ⟨_,cs,h1,h2⟩:=h hp
 rw [xC h1]; exact h2
def NatRow (w:World) (g:Nat) (L:List Nat):Prop:=w.heap[g]? = some (.cells (natCells L).toArray 3 (0,0))
theorem NatRow.set {w:World} {g:Nat} {L:List Nat} (h:NatRow w g L) (k v:Nat):NatRow (w.setCell ⟨g,k,none⟩ (.int .i64 v)) g (L.set k v):=by
 unfold NatRow
 rw [yhs h k _]
 simp [natCells,List.map_set]
theorem NatRow.cell {w:World} {g:Nat} {L:List Nat} (h:NatRow w g L) {k x:Nat} (hk:L[k]? = some x):w.cell? ⟨g,k,none⟩=some (.int .i64 x):=by
 rw [xC h k]; simp [natCells,hk]
theorem NatRow.own {w:World} {g base n:Nat} {L:List Nat} (h:NatRow w g L) (hb:base≤g) (hn:n=L.length) (hm:n≤1000000):w.ownsRow base 3 1 (.slice (some ⟨g,0,none⟩) n n) n (natCells L):=by
 subst hn
 exact ⟨by simp [natCells],.inr ⟨g,_,_,rfl,hb,h,Nat.le_refl _,by unfold maxLen; omega,by simp [natCells],(by show (natCells L).take (L.length*1)=natCells L; exact List.take_of_length_le (by simp [natCells]))⟩⟩
theorem mkInts (n:Nat) (hn:n≤1000000) (w:World):(Instr.makeSlice 22 (.int .i64 n) (.int .i64 n)).run Tryz.prog w=.ok (.slice (some ⟨w.heap.size,0,none⟩) n n) (w.alloc (.cells (natCells (List.replicate n 0)).toArray 3)):=by
 obtain ⟨i,hi,z0,z1,z2⟩:=info_parts info3
 have:=run_make (P:=Tryz.prog) w 22 3 i (.int .i64 0) Tryz.underlying22 hi z0 .i64 .i64 n n (by omega) (Int.le_refl _) (by rw [z2]; omega) (by omega)
 rw [this]
 have e:madeCells (Value.int .i64 0).cells (n*1)=(natCells (List.replicate n 0)).toArray:=by
  apply Array.ext'
  have:=toList_madeCells_one (.int .i64 0) n
  rw [Nat.mul_one]
  show (madeCells #[.int .i64 0] n).toList=_
  rw [this]
  simp [natCells]
 simp only [Int.toNat_natCast]
 rw [z1,e]
structure InR (w2 w4:World) (bm bx gm mm gd gb bo:Nat) (ps:List Pt) (C:Array Value) (L:List En) (sts:List StV) (k q:Nat) (w:World) (sv kv stv:Value) (svs:List Value) (sts':List StV):Prop where
 x:XSt w2 w bm bx gm mm gd gb (ylL ps) (sizes ps) C (partL ps L k q) sv kv stv svs sts'
 links:Links ps (partL ps L k q) sts'
 ws:WsL (bytesL ps).length (partL ps L k q)
 pre:∃ M,sts'=sts++M
 t3:Frm T3 w4 w
 own:OwnSet w bo (ylL ps) (maskOf (canAt ps L k))
theorem follow_step {w2 w4 w w':World} {bm bx gm mm gd gb bo:Nat} {ps:List Pt} {C:Array Value} {L:List En} {sts:List StV} {k q:Nat} {sv kv stv:Value} {svs:List Value} {sts':List StV} {e:Ending} (hB:BytesOk (bytesL ps)) (I:InR w2 w4 bm bx gm mm gd gb bo ps C L sts k q w sv kv stv svs sts') (hq:q<(lowsP ps).length) (hk:k≤L.length) (hbo:bo≠gm)
 (h:FolPost w2 w bm bx gm mm gd gb (ylL ps) (sizes ps) C (partL ps L k q) sv kv stv svs sts' (maskOf (canAt ps L k) &&& maskOf (matchL (bytesL ps) (bytesL ps).length q)) k q e w') :
 ∃ j:Nat,e=.returned (.int .i64 j)∧posM (partL ps L k (q+1)) (maskC ps L k q)=some j∧Frm T3 w w'∧∃ sv' kv' stv' svs' sts2,InR w2 w4 bm bx gm mm gd gb bo ps C L sts k (q+1) w' sv' kv' stv' svs' sts2:=by
 obtain ⟨F,kv',hr⟩:=h
 have F3:=I.x.1.fol3 F
 have hO:=I.x.1.folSet F hbo I.own
 have hsu:=partL_succ ps hB L k q hq I.ws
 have hmk:maskOf (canAt ps L k) &&& maskOf (matchL (bytesL ps) (bytesL ps).length q)=maskC ps L k q:=rfl
 rw [hmk] at hr
 rcases hr with ⟨j,hj,rfl,hx⟩ | ⟨hno,rfl,sv',stv',v,hx⟩
 · rw [if_neg (by rw [hj]; simp)] at hsu
   refine ⟨j,rfl,by rw [hsu]; exact hj,F3,_,_,_,_,_,⟨by rw [hsu]; exact hx,by rw [hsu]; exact I.links,by rw [hsu]; exact I.ws,I.pre,I.t3.trans F3,hO⟩⟩
 · rw [if_pos hno] at hsu
   have he:=entC_mask ps hB L k q hq
   obtain ⟨M,hM⟩:=I.pre
   refine ⟨(partL ps L k q).length+1,rfl,?_,F3,_,_,_,_,_,⟨by rw [hsu]; exact hx _ he,?_,?_,⟨M++[_],by rw [hM,List.append_assoc]⟩,I.t3.trans F3,hO⟩⟩
   · rw [hsu,posM_snoc,hno]
     simp [he]
   · rw [hsu]
     exact I.links.snoc I.x.2 hk (partL_prefix ps L k q) hq rfl rfl
   · rw [hsu]
     exact wsL_snoc I.ws (entC_ok ps L k q).1 (entC_ok ps L k q).2
theorem XG.nat {w2 w w':World} {bm bx gm mm gd gb P n nx:Nat} {C cc:Array Value} {L L2:List En} {sv kv stv:Value} {svs:List Value} {sts:List StV} (X:XG w2 w bm bx gm mm gd gb P n C L L2 sv kv stv svs sts) (hn:w2.heap.size≤nx) (hgb:w.heap[nx]? = some (.cells cc 3 (0,0))) (gs:w.grownBy w' (some nx)) :
 XG w2 w' bm bx gm mm gd gb P n C L L2 sv kv stv svs sts:=by
 obtain ⟨cur,hcur⟩:=X.met
 obtain ⟨D0,hD0,hDl⟩:=X.dn
 obtain ⟨B0,hB0,hBl⟩:=X.bgn
 obtain ⟨xs,hk⟩:=X.key
 obtain ⟨f,hf,hf2⟩:=X.map
 obtain ⟨es,c,hmb⟩:=hf.blk
 have hcell:∀ {b:Nat} {cs:Array Value} {t:TypeId} {fr:Nat × Nat},w.heap[b]? = some (.cells cs t fr)→t≠3→w'.heap[b]? = some (.cells cs t fr) :=
  fun hb ht=>(gs.block _ (xL hb) (by simpa using blk_ne hb hgb ht)).trans hb
 have hrow:∀ {e:TypeId} {size m:Nat} {v:Value} {ys:List Value},e≠3→w.ownsRow w2.heap.size e size v m ys→w'.ownsRow w2.heap.size e size v m ys :=
  fun he ho=>ho.kept gs (.inr (own_ne_block ho hgb he))
 have hmp:w'.heap[mm]? = w.heap[mm]?:=gs.block _ (xL hmb) (by simpa using map_ne hmb hgb)
 refine ⟨X.fr.grown2 gs (fun k hk=>.inl (by (have hkk:nx=k:=(by simpa using hk)); omega)),hcell X.mch (by decide),⟨D0,hcell hD0 (by decide),hDl⟩,⟨B0,hcell hB0 (by decide),hBl⟩,hcell X.xb (by decide),hrow (by decide) X.set,X.svl,fun k v hv=>?_,⟨cur,hcur.fits,hcell hcur.blk (by decide)⟩,⟨xs,hrow (by decide) hk⟩,⟨f,hf.same hmp,hf2⟩,hrow (by decide) X.str,X.new,X.fits⟩
 obtain ⟨g0,c0,hv0,h0⟩:=X.sva k v hv
 refine ⟨g0,c0,hv0,fun hp=>?_⟩
 obtain ⟨h1,cs,h2,h3⟩:=h0 hp
 exact ⟨h1,cs,hcell h2 (by decide),h3⟩
theorem InR.nat {w2 w4 w w':World} {bm bx gm mm gd gb bo nx:Nat} {ps:List Pt} {C cc:Array Value} {L:List En} {sts:List StV} {k q:Nat} {sv kv stv:Value} {svs:List Value} {sts':List StV} (I:InR w2 w4 bm bx gm mm gd gb bo ps C L sts k q w sv kv stv svs sts') (hn:w4.heap.size≤nx) (hn2:w2.heap.size≤nx) (hgb:w.heap[nx]? = some (.cells cc 3 (0,0))) (gs:w.grownBy w' (some nx)) :
 InR w2 w4 bm bx gm mm gd gb bo ps C L sts k q w' sv kv stv svs sts' :=
 ⟨⟨I.x.1.nat hn2 hgb gs,I.x.2⟩,I.links,I.ws,I.pre,I.t3.grown2 gs (fun k hk=>.inl (by (have hkk:nx=k:=(by simpa using hk)); omega)),I.own.grow gs (by simpa using blk_ne I.own.blk hgb (by decide))⟩
def Filled (ps:List Pt) (L:List En) (k q n:Nat) (R:List Nat):Prop:=R.length=n∧∀ κ r:Nat,κ<q→R[κ]? = some r→posM (partL ps L k q) (maskC ps L k κ)=some r
theorem Filled.step {ps:List Pt} {L:List En} {k q n j:Nat} {R:List Nat} (h:Filled ps L k q n R) (hq:q<n) (hj:posM (partL ps L k (q+1)) (maskC ps L k q)=some j) (hp:∃ M,partL ps L k (q+1)=partL ps L k q++M):Filled ps L k (q+1) n (R.set q j):=by
 obtain ⟨M,hM⟩:=hp
 refine ⟨by simp [h.1],fun κ r hκ hr=>?_⟩
 by_cases e:q=κ
 · subst e
   rw [List.getElem?_set_self (by rw [h.1]; exact hq)] at hr
   obtain rfl:j=r:=by simpa using hr
   exact hj
 · rw [List.getElem?_set_ne e] at hr
   rw [hM]
   exact posM_append _ _ _ _ (h.2 κ r (by omega) hr)
theorem partL_next (ps:List Pt) (hB:BytesOk (bytesL ps)) (L:List En) (k q:Nat) (hq:q<(lowsP ps).length) (hw:WsL (bytesL ps).length (partL ps L k q)):∃ M,partL ps L k (q+1)=partL ps L k q++M:=by
 rw [partL_succ ps hB L k q hq hw]
 split
 · exact ⟨_,rfl⟩
 · exact ⟨[],by simp⟩
theorem partL_len (ps:List Pt) (L:List En) (k q:Nat):(partL ps L k q).length≤L.length+256:=by
 have h1:=expand_length_le (bytesL ps) (canAt ps L k) (textAt L k) ((lowsP ps).take q) L
 have h2:=lowsP_le ps
 have h3:((lowsP ps).take q).length≤(lowsP ps).length:=by simp; omega
 unfold partL
 omega
theorem stCells_get (l:List StV):∀ (i:Nat) (s:StV),l[i]? = some s→(stCells l)[i*5]? = some s.fv∧(stCells l)[i*5+1]? = some s.nv∧(stCells l)[i*5+2]? = some (.bool s.stuck)∧(stCells l)[i*5+3]? = some (.int .i64 s.frm)∧(stCells l)[i*5+4]? = some (.int .i64 s.cl):=by
 induction l with
 | nil=>intro i s h; simp at h
 | cons x l ih =>
  intro i s h
  cases i with
  | zero => obtain rfl : x = s := by simpa using h
            simp [stCells]
  | succ i =>
   have h1:=ih i s (by simpa using h)
   simp only [stCells,List.flatMap_cons,show (i+1)*5=i*5+5 by omega] at h1 ⊢
   exact h1
theorem Links.set {ps:List Pt} {L:List En} {sts:List StV} {k:Nat} {s s':StV} (h:Links ps L sts) (hs:sts[k]? = some s) (h1:s'.frm=s.frm) (h2:s'.cl=s.cl):Links ps L (sts.set k s'):=by
 intro j x hj hx
 by_cases e:k=j+1
 · subst e
   have hlt:j+1<sts.length:=by
    rcases Nat.lt_or_ge (j+1) sts.length with h3 | h3
    · exact h3
    · rw [List.getElem?_eq_none h3] at hs; cases hs
   rw [List.getElem?_set_self hlt] at hx
   obtain rfl:s'=x:=by simpa using hx
   rw [h1,h2]
   exact h j s hj hs
 · rw [List.getElem?_set_ne e] at hx
   exact h j x hj hx
theorem bfs_step (ps:List Pt) (most k:Nat) (L:List En) (hk:k≤L.length) (hm:L.length≤most):bfs ps most (most+2-k) k L=if most<(growAt ps L k).length then none else bfs ps most (most+2-(k+1)) (k+1) (growAt ps L k):=by
 rw [show most+2-k=(most+2-(k+1))+1 by omega,bfs,if_neg (by omega)]
theorem bfs_end (ps:List Pt) (most k:Nat) (L:List En) (hk:L.length<k) (hm:k≤most+1):bfs ps most (most+2-k) k L=some L:=by
 rw [show most+2-k=(most+1-k)+1 by omega,bfs,if_pos hk]
theorem out_step {w2 w4 wr w9:World} {bm bx gm mm gd gb bo nx n:Nat} {ps:List Pt} {C:Array Value} {L:List En} {sts:List StV} {k:Nat} {sv kv stv fv:Value} {svs:List Value} {sts':List StV} {R:List Nat} {s7:StV} (I:InR w2 w4 bm bx gm mm gd gb bo ps C L sts k n wr sv kv stv svs sts')
 (hn:n=(lowsP ps).length) (hk:k≤L.length) (hsl:sts.length=L.length+1) (R4:Recs ps w4 w2.heap.size L k sts) (hfv:w4.ownsRow w2.heap.size 3 1 fv (fitsAt ps L k).length (natCells (fitsAt ps L k))) (hN:NatRow wr nx R) (hnx:w2.heap.size≤nx) (hF:Filled ps L k n n R) (hs7:sts'[k]? = some s7) (T:Frm T3 wr w9) :
 Links ps (partL ps L k n) (sts'.set k ⟨fv,.slice (some ⟨nx,0,none⟩) n n,decide (maskOf (canAt ps L k)=0),s7.frm,s7.cl⟩)∧Recs ps w9 w2.heap.size (partL ps L k n) (k+1) (sts'.set k ⟨fv,.slice (some ⟨nx,0,none⟩) n n,decide (maskOf (canAt ps L k)=0),s7.frm,s7.cl⟩):=by
 refine ⟨I.links.set hs7 rfl rfl,?_⟩
 obtain ⟨M,hM⟩:=I.pre
 obtain ⟨M2,hM2⟩:=partL_prefix ps L k n
 have T4:=I.t3.trans T
 have hlow:=lowsP_le ps
 intro i s hi hs
 by_cases e:k=i
 · subst e
   have hlt:k<sts'.length:=by rw [hM,List.length_append]; omega
   rw [List.getElem?_set_self hlt] at hs
   obtain rfl:=(Option.some.inj hs)
   unfold Rec1
   rw [hM2]
   unfold fitsAt
   rw [maskAt_append _ _ _ (by omega),canAt_append _ _ _ _ hk]
   refine ⟨row3_frm T4 hfv,⟨R,by rw [hF.1,hn],?_,fun κ r hr=>?_⟩,rfl⟩
   · have h9:NatRow w9 nx R:=(T.block nx (xL hN) ⟨_,_,hN⟩).trans hN
     rw [hF.1]
     exact h9.own hnx hF.1.symm (by omega)
   · rw [maskC_append _ _ _ _ _ hk,← hM2]
     refine hF.2 κ r ?_ hr
     rcases Nat.lt_or_ge κ R.length with h3 | h3
     · rw [hF.1] at h3; exact h3
     · rw [List.getElem?_eq_none h3] at hr; cases hr
 · rw [List.getElem?_set_ne e,hM,List.getElem?_append_left (by omega)] at hs
   rw [hM2]
   exact ((R4 i s (by omega) hs).frm T4).append _ (by omega)
end Go.Proofs.YtplbacfjmajeeaaGreatDoor
