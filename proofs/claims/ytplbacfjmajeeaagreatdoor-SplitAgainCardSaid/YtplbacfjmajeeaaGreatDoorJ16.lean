import Derived.Test.YtplbacfjmajeeaaGreatDoorJ15
namespace Go.Proofs.YtplbacfjmajeeaaGreatDoor
open Go.RowKit
def posM (L:List En) (M:Nat):Option Nat:=(L.findIdx? fun e=>maskOf e.set == M).map (·+1)
theorem posM_snoc (L:List En) (e:En) (M:Nat):posM (L++[e]) M=match posM L M with | some k=>some k | none=>if maskOf e.set=M then some (L.length+1) else none:=by
 unfold posM
 rw [List.findIdx?_append]
 cases h:L.findIdx? (fun e=>maskOf e.set == M) with
 | some k=>simp
 | none =>
  simp only [Option.none_or,Option.map_none]
  by_cases e1:maskOf e.set=M
  · rw [if_pos e1]; simp [List.findIdx?_cons,e1]
  · rw [if_neg e1]; simp [List.findIdx?_cons,e1]
theorem posM_none (L:List En) (M:Nat):posM L M=none↔∀ e∈L,maskOf e.set≠M:=by
 unfold posM
 simp [List.findIdx?_eq_none_iff]
theorem keyB_inj {P A B:Nat} (hP:P≤64) (hA:A<2 ^ P) (hB:B<2 ^ P) (h:keyB P A=keyB P B):A=B:=by
 by_cases hz:P=0
 · subst hz; omega
 · have a1:=pow_le_64 hP hA
   have b1:=pow_le_64 hP hB
   have h1:=congrArg byteCells h
   rw [key_cells P A a1 hz,key_cells P B b1 hz] at h1
   simp only [List.cons.injEq,Value.int.injEq,true_and,and_true] at h1
   omega
theorem keyB_len (P A:Nat):(keyB P A).length≤8:=by unfold keyB; split<;>simp
structure StV where
 fv:Value
 nv:Value
 stuck:Bool
 frm:Nat
 cl:Nat
def stCells (l:List StV):List Value:=l.flatMap fun x=>[x.fv,x.nv,.bool x.stuck,.int .i64 x.frm,.int .i64 x.cl]
theorem stCells_append (a b:List StV):stCells (a++b)=stCells a++stCells b:=by simp [stCells]
theorem info146:(Tryz.prog.info? 146 ).map (fun i=>(i.zero,i.size,i.bytes))=some (some (.agg #[.slice none 0 0,.slice none 0 0,.bool false,.int .i64 0,.int .i64 0]),5,72):=by kernel_rfl
def maskAt (L:List En):Nat→Nat
 | 0=>0
 | k+1=>maskOf (L.getD k ⟨[],[]⟩).set
theorem maskAt_append (L M:List En) (k:Nat) (h:k<L.length+1):maskAt (L++M) k=maskAt L k:=by
 cases k with
 | zero=>rfl
 | succ k=>simp only [maskAt]; congr 2; simp [List.getD,List.getElem?_append_left (show k<L.length by omega)]
def OldP (bm gd gb:Nat) (k:Nat) (_:Option Obj):Prop:=k≠bm∧k≠gd∧k≠gb
structure XG (w2 w:World) (bm bx gm mm gd gb P n:Nat) (C:Array Value) (L L2:List En) (sv kv stv:Value) (svs:List Value) (sts:List StV):Prop where
 fr:Frm (OldP bm gd gb) w2 w
 mch:w.heap[bm]? = some (.cells (C.setIfInBounds 263 stv) 136 (0,0))
 dn:∃ D,BoolRow w gd D∧D.length=n
 bgn:∃ B,BoolRow w gb B∧B.length=n
 xb:w.heap[bx]? = some (.cells #[.pointer (some ⟨bm,0,none⟩),sv,.map (some mm),setV P gm,kv] 144 (0,0))
 set:w.ownsRow w2.heap.size 141 1 sv svs.length svs
 svl:svs.length=L.length+1
 sva:∀ (k:Nat) (v:Value),svs[k]? = some v→∃ g c,v=.slice (some ⟨g,0,none⟩) (nw P) c∧(0<P→g≠gm∧∃ cs:Array Value,w.heap[g]? = some (.cells cs 181 (0,0))∧cs[0]? = some (.int .u64 (maskAt L k)))
 met:∃ M,OwnSet w gm P M
 key:∃ xs,w.ownsRow w2.heap.size 5 1 kv xs.length (byteCells xs)
 map:∃ f,StrMap w mm L2.length f∧∀ M,M<2 ^ P→f (keyB P M)=posM L2 M
 str:w.ownsRow w2.heap.size 146 5 stv sts.length (stCells sts)
 new:w2.heap.size≤gm∧w2.heap.size≤mm∧w2.heap.size≤bx
 fits:∀ k,k≤L.length→maskAt L k<2 ^ P
def XSt (w2 w:World) (bm bx gm mm gd gb P n:Nat) (C:Array Value) (L:List En) (sv kv stv:Value) (svs:List Value) (sts:List StV):Prop :=
 XG w2 w bm bx gm mm gd gb P n C L L sv kv stv svs sts∧sts.length=L.length+1
def FolP (bm bx gm mm:Nat) (sv kv stv:Value) (k:Nat) (_:Option Obj):Prop:=k≠bm∧k≠bx∧k≠gm∧k≠mm∧sv.ownBlock≠some k∧kv.ownBlock≠some k∧stv.ownBlock≠some k
theorem XG.old {w2 w:World} {bm bx gm mm gd gb P n:Nat} {C:Array Value} {L L2:List En} {sv kv stv:Value} {svs:List Value} {sts:List StV} (X:XG w2 w bm bx gm mm gd gb P n C L L2 sv kv stv svs sts) {C0:Array Value} (hb:w2.heap[bm]? = some (.cells C0 136 (0,0))) {D B:List Bool} (hd:BoolRow w2 gd D) (hg:BoolRow w2 gb B)
 {k:Nat} {c:Array Value} {t:TypeId} {fr:Nat × Nat} (h:w2.heap[k]? = some (.cells c t fr)) (h1:t≠136) (h2:t≠4):w.heap[k]? = some (.cells c t fr) :=
 (X.fr.block k (xL h) ⟨blk_ne h hb h1,blk_ne h hd h2,blk_ne h hg h2⟩).trans h
theorem map_ne {w:World} {a b:Nat} {es:Array MapEntry} {c:Nat} {cs:Array Value} {t:TypeId} {fr:Nat × Nat} (h:w.heap[a]? = some (.map es c)) (g:w.heap[b]? = some (.cells cs t fr)):a≠b:=by
 intro e; subst e; rw [h] at g; simp at g
theorem own_ne_block {w:World} {base:Nat} {e:TypeId} {size n b:Nat} {v:Value} {xs:List Value} {cs:Array Value} {t:TypeId} {fr:Nat × Nat} (h:w.ownsRow base e size v n xs) (g:w.heap[b]? = some (.cells cs t fr)) (ht:e≠t):v.ownBlock≠some b:=by
 intro e1
 obtain ⟨_,c,hc⟩:=yob h b e1
 exact absurd rfl (blk_ne hc g ht)
theorem own_ne_map {w:World} {base:Nat} {e:TypeId} {size n b:Nat} {v:Value} {xs:List Value} {es:Array MapEntry} {c:Nat} (h:w.ownsRow base e size v n xs) (g:w.heap[b]? = some (.map es c)):v.ownBlock≠some b:=by
 intro e1
 obtain ⟨_,c2,hc⟩:=yob h b e1
 exact absurd rfl (map_ne g hc).symm
theorem XG.setMet {w2 w w':World} {bm bx gm mm gd gb P n:Nat} {C:Array Value} {L L2:List En} {sv kv stv:Value} {svs:List Value} {sts:List StV} {M:Nat} (X:XG w2 w bm bx gm mm gd gb P n C L L2 sv kv stv svs sts) (hO:OwnSet w' gm P M) (g:w.grownBy w' (some gm)) :
 XG w2 w' bm bx gm mm gd gb P n C L L2 sv kv stv svs sts∧Frm (FolP bm bx gm mm sv kv stv) w w':=by
 obtain ⟨cur,hcur⟩:=X.met
 obtain ⟨D,hD,hDl⟩:=X.dn
 obtain ⟨B,hB,hBl⟩:=X.bgn
 obtain ⟨xs,hk⟩:=X.key
 obtain ⟨f,hf,hf2⟩:=X.map
 obtain ⟨es,c,hmb⟩:=hf.blk
 refine ⟨⟨X.fr.grown2 g (fun k hk=>.inl (by (have hkk:gm=k:=(by simpa using hk)); have:=X.new.1; omega)),?_,⟨D,boolRow_kept hD g (by simpa using fun e=>own_ne hcur hD e.symm),hDl⟩,⟨B,boolRow_kept hB g (by simpa using fun e=>own_ne hcur hB e.symm),hBl⟩,?_,X.set.kept g (.inr (own_ne_block X.set hcur.blk (by decide))),X.svl,fun k v hv=>?_,⟨M,hO⟩,⟨xs,hk.kept g (.inr (own_ne_block hk hcur.blk (by decide)))⟩,⟨f,hf.kept g (by simpa using map_ne hmb hcur.blk),hf2⟩,X.str.kept g (.inr (own_ne_block X.str hcur.blk (by decide))),X.new,X.fits⟩,
  (Frm.refl _ w).grown2 g (fun k hk=>.inr (fun _ hp=>by (have hkk:gm=k:=(by simpa using hk)); exact hp.2.2.1 hkk.symm))⟩
 · rw [g.block _ (xL X.mch) (by simpa using blk_ne X.mch hcur.blk (by decide))]; exact X.mch
 · rw [g.block _ (xL X.xb) (by simpa using blk_ne X.xb hcur.blk (by decide))]; exact X.xb
 · obtain ⟨g0,c0,hv0,h0⟩:=X.sva k v hv
   refine ⟨g0,c0,hv0,fun hp=>?_⟩
   obtain ⟨h1,cs,h2,h3⟩:=h0 hp
   exact ⟨h1,cs,by rw [g.block _ (xL h2) (by simpa using h1)]; exact h2,h3⟩
theorem XG.setKey {w2 w w1:World} {bm bx gm mm gd gb P n:Nat} {C:Array Value} {L L2:List En} {sv kv kv0 kv' stv:Value} {svs:List Value} {sts:List StV} {xs:List UInt8} (X:XG w2 w bm bx gm mm gd gb P n C L L2 sv kv stv svs sts) (h0:kv0.ownBlock=kv.ownBlock∨kv0.ownBlock=none)
 (own:w1.ownsRow w2.heap.size 5 1 kv' xs.length (byteCells xs)) (g:w.grownBy w1 kv0.ownBlock) :
 XG w2 (w1.setCell ⟨bx,4,none⟩ kv') bm bx gm mm gd gb P n C L L2 sv kv' stv svs sts∧Frm (FolP bm bx gm mm sv kv stv) w (w1.setCell ⟨bx,4,none⟩ kv'):=by
 obtain ⟨cur,hcur⟩:=X.met
 obtain ⟨D,hD,hDl⟩:=X.dn
 obtain ⟨B,hB,hBl⟩:=X.bgn
 obtain ⟨xs0,hk⟩:=X.key
 obtain ⟨f,hf,hf2⟩:=X.map
 obtain ⟨es,c,hmb⟩:=hf.blk
 have hcell:∀ {b:Nat} {cs:Array Value} {t:TypeId} {fr:Nat × Nat},w.heap[b]? = some (.cells cs t fr)→t≠5→w1.heap[b]? = some (.cells cs t fr):=by
  intro b cs t fr hb ht
  rw [g.block _ (xL hb) (fun e=>?_)]
  · exact hb
  · rcases h0 with h0 | h0
    · rw [h0] at e; exact own_ne_block hk hb (fun e=>ht e.symm) e.symm
    · rw [h0] at e; cases e
 have hmap1:w1.heap[mm]? = w.heap[mm]?:=g.block _ (xL hmb) (fun e=>by
  rcases h0 with h0 | h0
  · rw [h0] at e; exact own_ne_map hk hmb e.symm
  · rw [h0] at e; cases e)
 have hrow:∀ {e:TypeId} {size m:Nat} {v:Value} {ys:List Value},e≠5→w.ownsRow w2.heap.size e size v m ys→w1.ownsRow w2.heap.size e size v m ys:=by
  intro e size m v ys he ho
  refine ho.kept g ?_
  rcases h0 with h0 | h0
  · rw [h0]
    cases hv:v.ownBlock with
    | none=>exact .inl rfl
    | some k =>
     obtain ⟨_,cc,hcc⟩:=yob ho k hv
     exact .inr (fun e1=>own_ne_block hk hcc (fun e2=>he e2.symm) e1.symm)
  · rw [h0]
    cases hv:v.ownBlock with
    | none=>exact .inl rfl
    | some k=>exact .inr (by simp)
 have xb1:=hcell X.xb (by decide)
 have hset:∀ {b:Nat},b≠bx→(w1.setCell ⟨bx,4,none⟩ kv').heap[b]? = w1.heap[b]?:=fun hb=>Below.heap_setCell _ _ _ _ hb
 have hfr1:Frm (FolP bm bx gm mm sv kv stv) w (w1.setCell ⟨bx,4,none⟩ kv'):=by
  refine ((Frm.refl _ w).grown2 g (fun k hk2=>.inr (fun _ hp=>?_))).set2 _ _ (.inr (fun _ hp=>hp.2.1 rfl))
  rcases h0 with h0 | h0
  · rw [h0] at hk2; exact hp.2.2.2.2.2.1 hk2
  · rw [h0] at hk2; cases hk2
 refine ⟨⟨?_,?_,⟨D,?_,hDl⟩,⟨B,?_,hBl⟩,?_,yoc (hrow (by decide) X.set) xb1 (by decide) _ _,X.svl,fun k v hv=>?_,⟨cur,hcur.fits,?_⟩,⟨xs,yoc own xb1 (by decide) _ _⟩,⟨f,?_,hf2⟩,yoc (hrow (by decide) X.str) xb1 (by decide) _ _,X.new,X.fits⟩,hfr1⟩
 · refine (X.fr.grown2 g (fun k hk2=>.inl ?_)).set2 _ _ (.inl X.new.2.2)
   rcases h0 with h0 | h0
   · rw [h0] at hk2; exact (hk.lt k hk2).1
   · rw [h0] at hk2; cases hk2
 · rw [hset (blk_ne X.mch X.xb (by decide))]; exact hcell X.mch (by decide)
 · unfold BoolRow; rw [hset (blk_ne hD X.xb (by decide))]; exact hcell hD (by decide)
 · unfold BoolRow; rw [hset (blk_ne hB X.xb (by decide))]; exact hcell hB (by decide)
 · rw [yhs xb1 4 kv']; rfl
 · obtain ⟨g0,c0,hv0,h1⟩:=X.sva k v hv
   refine ⟨g0,c0,hv0,fun hp=>?_⟩
   obtain ⟨h1,cs,h2,h3⟩:=h1 hp
   exact ⟨h1,cs,by rw [hset (blk_ne h2 X.xb (by decide))]; exact hcell h2 (by decide),h3⟩
 · rw [hset (blk_ne hcur.blk X.xb (by decide))]; exact hcell hcur.blk (by decide)
 · exact hf.same (by rw [hset (map_ne hmb X.xb)]; exact hmap1)
theorem XG.grow {w2 w w':World} {bm bx gm mm gd gb P n:Nat} {C:Array Value} {L L2:List En} {sv kv stv:Value} {svs:List Value} {sts:List StV} (X:XG w2 w bm bx gm mm gd gb P n C L L2 sv kv stv svs sts) (g:w.grownBy w' none) :
 XG w2 w' bm bx gm mm gd gb P n C L L2 sv kv stv svs sts:=by
 obtain ⟨cur,hcur⟩:=X.met
 obtain ⟨D,hD,hDl⟩:=X.dn
 obtain ⟨B,hB,hBl⟩:=X.bgn
 obtain ⟨xs,hk⟩:=X.key
 obtain ⟨f,hf,hf2⟩:=X.map
 have hrow:∀ {e:TypeId} {size m:Nat} {v:Value} {ys:List Value},w.ownsRow w2.heap.size e size v m ys→w'.ownsRow w2.heap.size e size v m ys:=fun ho=>ownsRow_frm (Frm.of_grown g (fun _ _=>True)) ho (fun _ _ _ _=>trivial)
 exact ⟨X.fr.grown2 g (fun k hk=>by simp at hk),grow_new g X.mch,⟨D,boolRow_kept hD g (by simp),hDl⟩,⟨B,boolRow_kept hB g (by simp),hBl⟩,grow_new g X.xb,hrow X.set,X.svl,fun k v hv=>by
  obtain ⟨g0,c0,hv0,h0⟩:=X.sva k v hv
  refine ⟨g0,c0,hv0,fun hp=>?_⟩
  obtain ⟨h1,cs,h2,h3⟩:=h0 hp
  exact ⟨h1,cs,grow_new g h2,h3⟩,⟨cur,hcur.grow g (by simp)⟩,⟨xs,hrow hk⟩,⟨f,hf.kept g (by simp),hf2⟩,hrow X.str,X.new,X.fits⟩
theorem XG.setMap {w2 w w':World} {bm bx gm mm gd gb P n:Nat} {C:Array Value} {L L2:List En} {sv kv stv:Value} {svs:List Value} {sts:List StV} {f:SKey→Option Nat} {M:Nat} {E:En} (X:XG w2 w bm bx gm mm gd gb P n C L L2 sv kv stv svs sts) (hP:P≤64) (hf:StrMap w mm L2.length f) (hf2:∀ M,M<2 ^ P→f (keyB P M)=posM L2 M)
 (hM:M<2 ^ P) (hE:maskOf E.set=M) (hno:posM L2 M=none) (hf':StrMap w' mm (L2.length+1) (fun k'=>if k'=keyB P M then some (L2.length+1) else f k')) (g:w.grownBy w' (some mm)) :
 XG w2 w' bm bx gm mm gd gb P n C L (L2++[E]) sv kv stv svs sts∧∀ sx kx tx,Frm (FolP bm bx gm mm sx kx tx) w w':=by
 obtain ⟨cur,hcur⟩:=X.met
 obtain ⟨D,hD,hDl⟩:=X.dn
 obtain ⟨B,hB,hBl⟩:=X.bgn
 obtain ⟨xs,hk⟩:=X.key
 obtain ⟨es,c,hmb⟩:=hf.blk
 have hcell:∀ {b:Nat} {cs:Array Value} {t:TypeId} {fr:Nat × Nat},w.heap[b]? = some (.cells cs t fr)→w'.heap[b]? = some (.cells cs t fr):=by
  intro b cs t fr hb
  rw [g.block _ (xL hb) (by simpa using fun e=>map_ne hmb hb e.symm)]; exact hb
 have hrow:∀ {e:TypeId} {size m:Nat} {v:Value} {ys:List Value},w.ownsRow w2.heap.size e size v m ys→w'.ownsRow w2.heap.size e size v m ys:=fun ho=>ho.kept g (.inr (own_ne_map ho hmb))
 refine ⟨⟨X.fr.grown2 g (fun k hk=>.inl (by (have hkk:mm=k:=(by simpa using hk)); have:=X.new.2.1; omega)),hcell X.mch,⟨D,hcell hD,hDl⟩,⟨B,hcell hB,hBl⟩,hcell X.xb,hrow X.set,X.svl,fun k v hv=>?_,⟨cur,hcur.fits,hcell hcur.blk⟩,⟨xs,hrow hk⟩,⟨_,by rw [List.length_append]; exact hf',fun M' hM'=>?_⟩,hrow X.str,X.new,X.fits⟩,
  fun _ _ _=>(Frm.refl _ w).grown2 g (fun k hk=>.inr (fun _ hp=>by (have hkk:mm=k:=(by simpa using hk)); exact hp.2.2.2.1 hkk.symm))⟩
 · obtain ⟨g0,c0,hv0,h0⟩:=X.sva k v hv
   refine ⟨g0,c0,hv0,fun hp=>?_⟩
   obtain ⟨h1,cs,h2,h3⟩:=h0 hp
   exact ⟨h1,cs,hcell h2,h3⟩
 · rw [posM_snoc]
   by_cases e:M'=M
   · subst e; simp [hno,hE]
   · have:keyB P M'≠keyB P M:=fun h=>e (keyB_inj hP hM' hM h)
     simp only [if_neg this]
     rw [hf2 M' hM']
     cases posM L2 M' with
     | some k=>rfl
     | none=>rw [if_neg (by rw [hE]; exact fun h=>e h.symm)]
theorem XG.addSet {w2 w wa wb:World} {bm bx gm mm gd gb P n:Nat} {C:Array Value} {L L2:List En} {sv sv' kv stv:Value} {svs:List Value} {sts:List StV} {M g c:Nat} {E:En} {o:Obj} (X:XG w2 w bm bx gm mm gd gb P n C L L2 sv kv stv svs sts)
 (hM:M<2 ^ P) (hE:maskOf E.set=M) (ga:w.grownBy wa none) (hgn:w.heap.size≤g) (hv:0<P→∃ cs:Array Value,wa.heap[g]? = some (.cells cs 181 (0,0))∧cs[0]? = some (.int .u64 M))
 {m:Nat} (hm:m=svs.length+1) (own:wb.ownsRow w2.heap.size 141 1 sv' m (svs++[.slice (some ⟨g,0,none⟩) (nw P) c])) (hg:(wa.alloc o).grownBy wb sv.ownBlock) :
 XG w2 (wb.setCell ⟨bx,1,none⟩ sv') bm bx gm mm gd gb P n C (L++[E]) L2 sv' kv stv (svs++[.slice (some ⟨g,0,none⟩) (nw P) c]) sts∧∀ kx tx,Frm (FolP bm bx gm mm sv kx tx) w (wb.setCell ⟨bx,1,none⟩ sv'):=by
 subst hm
 have Y:=X.grow (yga ga o)
 have hgm:gm<w.heap.size:=by obtain ⟨cur,hcur⟩:=X.met; exact xL hcur.blk
 obtain ⟨cur,hcur⟩:=Y.met
 obtain ⟨D,hD,hDl⟩:=Y.dn
 obtain ⟨B,hB,hBl⟩:=Y.bgn
 obtain ⟨xs,hk⟩:=Y.key
 obtain ⟨f,hf,hf2⟩:=Y.map
 obtain ⟨es,c2,hmb⟩:=hf.blk
 have hcell:∀ {b:Nat} {cs:Array Value} {t:TypeId} {fr:Nat × Nat},(wa.alloc o).heap[b]? = some (.cells cs t fr)→t≠141→wb.heap[b]? = some (.cells cs t fr) :=
  fun hb ht=>ygb Y.set hg hb ht
 have xb1:=hcell Y.xb (by decide)
 have hset:∀ {b:Nat},b≠bx→(wb.setCell ⟨bx,1,none⟩ sv').heap[b]? = wb.heap[b]?:=fun hb=>Below.heap_setCell _ _ _ _ hb
 have hfin:∀ {b:Nat} {cs:Array Value} {t:TypeId} {fr:Nat × Nat},(wa.alloc o).heap[b]? = some (.cells cs t fr)→t≠141→t≠144→(wb.setCell ⟨bx,1,none⟩ sv').heap[b]? = some (.cells cs t fr) :=
  fun hb h1 h2=>(hset (blk_ne hb Y.xb h2)).trans (hcell hb h1)
 have hrow:∀ {e:TypeId} {size m:Nat} {v:Value} {ys:List Value},e≠141→e≠144→(wa.alloc o).ownsRow w2.heap.size e size v m ys→(wb.setCell ⟨bx,1,none⟩ sv').ownsRow w2.heap.size e size v m ys :=
  fun h1 h2 ho=>yoc (append_own h1 Y.set hg ho) xb1 (fun e=>h2 e.symm) _ _
 have hF:∀ kx tx,Frm (FolP bm bx gm mm sv kx tx) w (wb.setCell ⟨bx,1,none⟩ sv'):=fun _ _ =>
  ((Frm.of_grown (yga ga o) _).grown2 hg (fun k hk=>.inr (fun _ hp=>hp.2.2.2.2.1 hk))).set2 _ _ (.inr (fun _ hp=>hp.2.1 rfl))
 refine ⟨⟨(Y.fr.grown2 hg (fun k hk=>.inl ((Y.set.lt k hk).1))).set2 _ _ (.inl Y.new.2.2),hfin Y.mch (by decide) (by decide),⟨D,hfin hD (by decide) (by decide),hDl⟩,⟨B,hfin hB (by decide) (by decide),hBl⟩,?_,?_,by simp [X.svl],fun k v hk=>?_,⟨cur,hcur.fits,hfin hcur.blk (by decide) (by decide)⟩,⟨xs,hrow (by decide) (by decide) hk⟩,⟨f,?_,hf2⟩,hrow (by decide) (by decide) Y.str,Y.new,fun k hk=>?_⟩,hF⟩
 · rw [yhs xb1 1 sv']; rfl
 · have h:=yoc own xb1 (by decide) 1 sv'
   rw [List.length_append]
   exact h
 · rcases Nat.lt_or_ge k svs.length with hlt | hge
   · rw [List.getElem?_append_left hlt] at hk
     obtain ⟨g0,c0,hv0,h0⟩:=Y.sva k v hk
     refine ⟨g0,c0,hv0,fun hp=>?_⟩
     obtain ⟨h1,cs,h2,h3⟩:=h0 hp
     refine ⟨h1,cs,hfin h2 (by decide) (by decide),?_⟩
     rw [maskAt_append _ _ _ (by rw [X.svl] at hlt; omega)]; exact h3
   · have hk0:k=svs.length:=by
      rcases Nat.lt_or_ge svs.length k with h | h
      · rw [List.getElem?_eq_none (by simp; omega)] at hk; cases hk
      · omega
     subst hk0
     rw [List.getElem?_append_right (by omega)] at hk
     simp at hk
     subst hk
     refine ⟨g,c,rfl,fun hp=>?_⟩
     obtain ⟨cs,h1,h2⟩:=hv hp
     have h1':(wa.alloc o).heap[g]? = some (.cells cs 181 (0,0)):=(Below.heap_alloc wa o g (xL h1)).trans h1
     refine ⟨by omega,cs,hfin h1' (by decide) (by decide),?_⟩
     have:maskAt (L++[E]) svs.length=M:=by
      rw [X.svl]
      simp [maskAt,hE]
     rw [this]; exact h2
 · exact hf.same (by rw [hset (map_ne hmb Y.xb)]; exact hg.block _ (xL hmb) (fun e=>own_ne_map Y.set hmb e.symm))
 · rw [List.length_append] at hk
   rcases Nat.lt_or_ge k (L.length+1) with h | h
   · rw [maskAt_append _ _ _ h]; exact X.fits k (by omega)
   · have:k=L.length+1:=by simp at hk; omega
     subst this
     simp [maskAt,hE,hM]
theorem XG.addState {w2 w wb:World} {bm bx gm mm gd gb P n:Nat} {C:Array Value} {L L2:List En} {sv kv stv stv':Value} {svs:List Value} {sts:List StV} {i κ:Nat} {o:Obj} (X:XG w2 w bm bx gm mm gd gb P n C L L2 sv kv stv svs sts) (_:C.size=264)
 {m:Nat} (hm:m=sts.length+1) (own:wb.ownsRow w2.heap.size 146 5 stv' m (stCells sts++[.slice none 0 0,.slice none 0 0,.bool false,.int .i64 i,.int .i64 κ])) (hg:(w.alloc o).grownBy wb stv.ownBlock) :
 XG w2 (wb.setCell ⟨bm,263,none⟩ stv') bm bx gm mm gd gb P n C L L2 sv kv stv' svs (sts++[⟨.slice none 0 0,.slice none 0 0,false,i,κ⟩])∧∀ sx kx,Frm (FolP bm bx gm mm sx kx stv) w (wb.setCell ⟨bm,263,none⟩ stv'):=by
 subst hm
 have Y:=X.grow (xG w o none)
 obtain ⟨cur,hcur⟩:=Y.met
 obtain ⟨D,hD,hDl⟩:=Y.dn
 obtain ⟨B,hB,hBl⟩:=Y.bgn
 obtain ⟨xs,hk⟩:=Y.key
 obtain ⟨f,hf,hf2⟩:=Y.map
 obtain ⟨es,c2,hmb⟩:=hf.blk
 have hcell:∀ {b:Nat} {cs:Array Value} {t:TypeId} {fr:Nat × Nat},(w.alloc o).heap[b]? = some (.cells cs t fr)→t≠146→wb.heap[b]? = some (.cells cs t fr) :=
  fun hb ht=>ygb Y.str hg hb ht
 have mb1:=hcell Y.mch (by decide)
 have hset:∀ {b:Nat},b≠bm→(wb.setCell ⟨bm,263,none⟩ stv').heap[b]? = wb.heap[b]?:=fun hb=>Below.heap_setCell _ _ _ _ hb
 have hfin:∀ {b:Nat} {cs:Array Value} {t:TypeId} {fr:Nat × Nat},(w.alloc o).heap[b]? = some (.cells cs t fr)→t≠146→t≠136→(wb.setCell ⟨bm,263,none⟩ stv').heap[b]? = some (.cells cs t fr) :=
  fun hb h1 h2=>(hset (blk_ne hb Y.mch h2)).trans (hcell hb h1)
 have hrow:∀ {e:TypeId} {size m:Nat} {v:Value} {ys:List Value},e≠146→e≠136→(w.alloc o).ownsRow w2.heap.size e size v m ys→(wb.setCell ⟨bm,263,none⟩ stv').ownsRow w2.heap.size e size v m ys :=
  fun h1 h2 ho=>yoc (append_own h1 Y.str hg ho) mb1 (fun e=>h2 e.symm) _ _
 have hF:∀ sx kx,Frm (FolP bm bx gm mm sx kx stv) w (wb.setCell ⟨bm,263,none⟩ stv'):=fun _ _ =>
  ((Frm.of_grown (xG w o none) _).grown2 hg (fun k hk=>.inr (fun _ hp=>hp.2.2.2.2.2.2 hk))).set2 _ _ (.inr (fun _ hp=>hp.1 rfl))
 refine ⟨⟨(Y.fr.grown2 hg (fun k hk=>.inl ((Y.str.lt k hk).1))).set2 _ _ (.inr (fun _ hp=>hp.1 rfl)),?_,⟨D,hfin hD (by decide) (by decide),hDl⟩,⟨B,hfin hB (by decide) (by decide),hBl⟩,hfin Y.xb (by decide) (by decide),hrow (by decide) (by decide) Y.set,X.svl,fun k v hk=>?_,⟨cur,hcur.fits,hfin hcur.blk (by decide) (by decide)⟩,⟨xs,hrow (by decide) (by decide) hk⟩,⟨f,?_,hf2⟩,?_,Y.new,X.fits⟩,hF⟩
 · rw [yhs mb1 263 stv']; simp
 · obtain ⟨g0,c0,hv0,h0⟩:=Y.sva k v hk
   refine ⟨g0,c0,hv0,fun hp=>?_⟩
   obtain ⟨h1,cs,h2,h3⟩:=h0 hp
   exact ⟨h1,cs,hfin h2 (by decide) (by decide),h3⟩
 · exact hf.same (by rw [hset (map_ne hmb Y.mch)]; exact hg.block _ (xL hmb) (fun e=>own_ne_map Y.str hmb e.symm))
 · rw [stCells_append,List.length_append]
   exact yoc own mb1 (by decide) _ _
end Go.Proofs.YtplbacfjmajeeaaGreatDoor
