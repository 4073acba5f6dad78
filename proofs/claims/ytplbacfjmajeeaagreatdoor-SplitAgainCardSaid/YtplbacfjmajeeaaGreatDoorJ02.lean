import Derived.Test.YtplbacfjmajeeaaGreatDoorJ01
namespace Go.Proofs.YtplbacfjmajeeaaGreatDoor
open Go.Lib (hid)
set_option maxHeartbeats 4000000
set_option maxRecDepth 100000
open Go.RowKit
structure Frm (P:Nat→Option Obj→Prop) (w w':World):Prop where
 os:w'.os=w.os
 tape:w'.tape=w.tape
 output:w'.output=w.output
 size:w.heap.size≤w'.heap.size
 block:∀ k,k<w.heap.size→P k w.heap[k]?→w'.heap[k]? = w.heap[k]?
theorem Frm.refl (P:Nat→Option Obj→Prop) (w:World):Frm P w w:=⟨rfl,rfl,rfl,Nat.le_refl _,fun _ _ _=>rfl⟩
theorem Frm.trans {P:Nat→Option Obj→Prop} {a b c:World} (h:Frm P a b) (g:Frm P b c):Frm P a c :=
 ⟨g.os.trans h.os,g.tape.trans h.tape,g.output.trans h.output,Nat.le_trans h.size g.size,fun k hk hp =>
  have e:=h.block k hk hp
  (g.block k (Nat.lt_of_lt_of_le hk h.size) (by rw [e]; exact hp)).trans e⟩
theorem Frm.mono {P Q:Nat→Option Obj→Prop} {a b:World} (h:Frm P a b) (hq:∀ k,k<a.heap.size→Q k a.heap[k]?→P k a.heap[k]?):Frm Q a b :=
 ⟨h.os,h.tape,h.output,h.size,fun k hk hp=>h.block k hk (hq k hk hp)⟩
theorem Frm.alloc {P:Nat→Option Obj→Prop} {a b:World} (h:Frm P a b) (o:Obj):Frm P a (b.alloc o) :=
 h.trans ⟨rfl,rfl,rfl,by simp,fun k hk _=>Below.heap_alloc _ _ _ hk⟩
theorem Frm.drew {P:Nat→Option Obj→Prop} {a b:World} (h:Frm P a b):Frm P a b.drew:=⟨h.os,h.tape,h.output,h.size,h.block⟩
theorem Frm.setCell {P:Nat→Option Obj→Prop} {a b:World} (h:Frm P a b) (p:Addr) (u:Value) (hp:¬ P p.block b.heap[p.block]?):Frm P a (b.setCell p u) :=
 h.trans ⟨rfl,rfl,rfl,by simp [World.setCell],fun k _ hk=>Below.heap_setCell _ _ _ _ (fun e=>hp (by rw [← e]; exact hk))⟩
theorem Frm.grown {P:Nat→Option Obj→Prop} {a b c:World} {row:Option Nat} (h:Frm P a b) (g:b.grownBy c row) (hr:∀ k,row=some k→¬ P k b.heap[k]?):Frm P a c :=
 h.trans ⟨g.os,g.tape,g.output,g.size,fun k hk hp=>g.block k hk (fun e=>hr k e.symm hp)⟩
theorem yhs {w:World} {b:Nat} {cs:Array Value} {t:TypeId} (h:w.heap[b]? = some (.cells cs t (0,0))) (i:Nat) (u:Value):(w.setCell ⟨b,i,none⟩ u).heap[b]? = some (.cells (cs.setIfInBounds i u) t (0,0)):=by
 have hlt:=xL h
 have h':w.heap[b]=.cells cs t (0,0):=by simpa [Array.getElem?_eq_getElem hlt] using h
 show (w.heap.modify b _)[b]? = _
 rw [Array.getElem?_eq_getElem (by simpa using hlt),Array.getElem_modify_self,h']
 rfl
theorem cells_new (w:World) (vs:List Value) (t:TypeId):∀ j u,vs[j]? = some u→(w.alloc (.cells vs.toArray t)).cell? ((⟨w.heap.size,0,none⟩:Addr).add j)=some u:=by
 intro j u hj
 have e:((⟨w.heap.size,0,none⟩:Addr).add j)=⟨w.heap.size,j,none⟩:=by simp [Addr.add]; omega
 rw [e]
 unfold World.cell?
 rw [show (w.alloc (.cells vs.toArray t)).heap[(⟨w.heap.size,j,none⟩:Addr).block]? = _ from xN w _]
 simpa using hj
theorem yob {w:World} {base:Nat} {e:TypeId} {size:Nat} {v:Value} {n:Nat} {xs:List Value} (h:w.ownsRow base e size v n xs):∀ k,v.ownBlock=some k→base≤k∧∃ c,w.heap[k]? = some (.cells c e (0,0)):=by
 intro k hk
 rcases h.2 with ⟨rfl,_⟩ | ⟨g,cap,cur,rfl,hg,hh,_⟩
 · simp [Value.ownBlock] at hk
 · simp [Value.ownBlock] at hk
   subst hk
   exact ⟨hg,cur,hh⟩
theorem xC {w:World} {b:Nat} {cs:Array Value} {t:TypeId} {fr:Nat × Nat} (h:w.heap[b]? = some (.cells cs t fr)) (i:Nat):w.cell? ⟨b,i,none⟩=cs[i]?:=by simp [World.cell?,h]
theorem yfb {w:World} {b:Nat} {cs:Array Value} {t:TypeId} (h:w.heap[b]? = some (.cells cs t (0,0))) (i:Nat):w.frozen? ⟨b,i,none⟩=false:=by simp [World.frozen?,h]
theorem yoc {w:World} {base:Nat} {e:TypeId} {size:Nat} {v:Value} {n:Nat} {xs:List Value} (h:w.ownsRow base e size v n xs)
 {b:Nat} {cs:Array Value} {t:TypeId} {fr:Nat × Nat} (hb:w.heap[b]? = some (.cells cs t fr)) (ht:t≠e) (i:Nat) (u:Value):(w.setCell ⟨b,i,none⟩ u).ownsRow base e size v n xs:=by
 refine ownsRow_setCell_other h (fun hk=>?_) u
 obtain ⟨_,c,hc⟩:=yob h _ hk
 have:=hb.symm.trans hc
 simp at this
 exact ht this.2.1
theorem ygb {w w':World} {base:Nat} {e:TypeId} {size:Nat} {v:Value} {n:Nat} {xs:List Value} (h:w.ownsRow base e size v n xs) (g:w.grownBy w' v.ownBlock)
 {b:Nat} {cs:Array Value} {t:TypeId} {fr:Nat × Nat} (hb:w.heap[b]? = some (.cells cs t fr)) (ht:t≠e):w'.heap[b]? = some (.cells cs t fr):=by
 rw [g.block b (xL hb) (fun hk=>?_)]
 · exact hb
 · obtain ⟨_,c,hc⟩:=yob h _ hk.symm
   have:=hb.symm.trans hc
   simp at this
   exact ht this.2.1
theorem yos {w:World} {base:Nat} {e:TypeId} {size:Nat} {v:Value} {n:Nat} {xs:List Value} (h:w.ownsRow base e size v n xs):∃ a c,v=.slice a n c:=by
 rcases h.2 with ⟨rfl,rfl⟩ | ⟨g,cap,cur,rfl,_⟩
 · exact ⟨none,0,rfl⟩
 · exact ⟨_,_,rfl⟩
theorem yhn (w:World) (o:Obj) (k:Nat) (h:w.heap.size=k):(w.alloc o).heap[k]? = some o:=by subst h; exact xN w o
theorem ygs {w w1:World} (h:w.grownBy w1 none) (p:Addr) (u:Value) (hp:w.heap.size≤p.block):w.grownBy (w1.setCell p u) none :=
 ⟨h.os,h.tape,h.output,by have:=h.size; simpa [World.setCell] using this,fun k hk hn=>(Below.heap_setCell _ _ _ _ (by omega)).trans (h.block k hk hn)⟩
theorem ownsRow_frm {P:Nat→Option Obj→Prop} {w w':World} (f:Frm P w w') {base:Nat} {e:TypeId} {size:Nat} {v:Value} {n:Nat} {xs:List Value} (h:w.ownsRow base e size v n xs)
 (hp:∀ k c,base≤k→w.heap[k]? = some (.cells c e (0,0))→P k (some (.cells c e (0,0)))):w'.ownsRow base e size v n xs:=by
 obtain ⟨h1,h2⟩:=h
 refine ⟨h1,?_⟩
 rcases h2 with h2 | ⟨g,cap,cur,hv,hg,hh,r⟩
 · exact Or.inl h2
 · exact Or.inr ⟨g,cap,cur,hv,hg,by rw [f.block g (xL hh) (by rw [hh]; exact hp g cur hg hh)]; exact hh,r⟩
theorem Frm.of_grown {w w':World} (g:w.grownBy w' none) (P:Nat→Option Obj→Prop):Frm P w w':=⟨g.os,g.tape,g.output,g.size,fun k hk _=>g.block k hk (by simp)⟩
theorem yoe {w:World} {base:Nat} {e:TypeId} {size:Nat} {v:Value} {n:Nat} {xs:List Value} (h:w.ownsRow base e size v n xs) (hn:0<n) :
 ∃ g cap,v=.slice (some ⟨g,0,none⟩) n cap∧base≤g∧∀ j u,xs[j]? = some u→w.cell? ⟨g,j,none⟩=some u:=by
 rcases h.2 with ⟨_,h0⟩ | ⟨g,cap,cur,hv,hg,hh,hnc,hcm,hcs,ht⟩
 · omega
 · refine ⟨g,cap,hv,hg,fun j u hj=>?_⟩
   rw [xC hh]
   rw [← ht,List.getElem?_take] at hj
   split at hj
   · simpa using hj
   · simp at hj
theorem grow_below {w wr w2:World} (h:w.grownBy wr none) (b:Below w.heap.size wr w2):w.grownBy w2 none :=
 ⟨b.os.trans h.os,b.tape.trans h.tape,b.output.trans h.output,Nat.le_trans h.size b.size,fun k hk hn=>(b.block k hk).trans (h.block k hk hn)⟩
theorem cells_new2 (w:World) (o:Obj) (vs:List Value) (t:TypeId):∀ j u,vs[j]? = some u→((w.alloc o).alloc (.cells vs.toArray t)).cell? ((⟨w.heap.size+1,0,none⟩:Addr).add j)=some u:=by
 intro j u hj
 have:=cells_new (w.alloc o) vs t j u hj
 rwa [show (w.alloc o).heap.size=w.heap.size+1 by simp] at this
theorem ycg {w w':World} {p:Addr} {v:Value} (h:w.cell? p=some v) (g:w.grownBy w' none):w'.cell? p=some v:=g.cell h (by simp)
theorem grow_self (w:World):w.grownBy w none:=⟨rfl,rfl,rfl,Nat.le_refl _,fun _ _ _=>rfl⟩
theorem yga {w w':World} (g:w.grownBy w' none) (o:Obj):w.grownBy (w'.alloc o) none:=xT g (xG _ _ _)
theorem grow_drew {w w':World} (g:w.grownBy w' none):w.grownBy w'.drew none:=⟨g.os,g.tape,g.output,g.size,g.block⟩
theorem grow_frm {P:Nat→Option Obj→Prop} {w wr w1:World} (h:w.grownBy wr none) (f:Frm P wr w1) (hp:∀ k o,k<w.heap.size→P k o):w.grownBy w1 none :=
 ⟨f.os.trans h.os,f.tape.trans h.tape,f.output.trans h.output,Nat.le_trans h.size f.size,fun k hk _=>(f.block k (Nat.lt_of_lt_of_le hk h.size) (hp k _ hk)).trans (h.block k hk (by simp))⟩
theorem ownsRow_base {w:World} {base base':Nat} {e:TypeId} {size:Nat} {v:Value} {n:Nat} {xs:List Value} (h:w.ownsRow base e size v n xs) (hb:base'≤base):w.ownsRow base' e size v n xs:=by
 refine ⟨h.1,?_⟩
 rcases h.2 with h2 | ⟨g,cap,cur,hv,hg,r⟩
 · exact Or.inl h2
 · exact Or.inr ⟨g,cap,cur,hv,by omega,r⟩
theorem grow_row {w w1 w2:World} {row:Option Nat} (h:w.grownBy w1 none) (g:w1.grownBy w2 row) (hr:∀ k,row=some k→w.heap.size≤k):w.grownBy w2 none :=
 ⟨g.os.trans h.os,g.tape.trans h.tape,g.output.trans h.output,Nat.le_trans h.size g.size,fun k hk hn =>
  (g.block k (Nat.lt_of_lt_of_le hk h.size) (fun e=>by have:=hr k e.symm; omega)).trans (h.block k hk hn)⟩
theorem append_own {w w':World} {base base2:Nat} {e e2:TypeId} {size size2:Nat} {v v2:Value} {n n2:Nat} {xs ys:List Value} (he:e2≠e) (o:w.ownsRow base e size v n xs) (g:w.grownBy w' v.ownBlock)
 (o2:w.ownsRow base2 e2 size2 v2 n2 ys):w'.ownsRow base2 e2 size2 v2 n2 ys:=by
 refine ⟨o2.1,?_⟩
 rcases o2.2 with h | ⟨gg,cap,cur,hv,hg,hh,r⟩
 · exact Or.inl h
 · exact Or.inr ⟨gg,cap,cur,hv,hg,ygb o g hh he,r⟩
def inB (n lo hi:Int):Bool:=decide (lo≤n∧n≤hi)
theorem inB_yes {n lo hi:Int} (h:lo≤n∧n≤hi):inB n lo hi=true:=by simp [inB,h]
theorem inB_no {n lo hi:Int} (h:¬ (lo≤n∧n≤hi)):inB n lo hi=false:=by simp [inB]; omega
theorem in_any (n lo hi:Int) (w:World):Calls Tryz.prog 62 #[.int .i64 n,.int .i64 lo,.int .i64 hi] w fun e w'=>e=.returned (.bool (inB n lo hi))∧w=w':=by
 by_cases h1:lo≤n
 · by_cases h2:n≤hi
   · rw [inB_yes ⟨h1,h2⟩]
     go_enter Tryz.func62,Tryz.ntmps62
     go_wp2
     go_ret
     exact ⟨rfl,rfl⟩
   · rw [inB_no (by omega)]
     go_enter Tryz.func62,Tryz.ntmps62
     go_wp2
     go_ret
     exact ⟨rfl,rfl⟩
 · rw [inB_no (by omega)]
   have h1':decide (lo≤n)=false:=by simpa using h1
   go_enter Tryz.func62,Tryz.ntmps62
   go_wp2
   go_ret
   exact ⟨rfl,rfl⟩
def At4 (w:World) (b off:Nat) (v:Value):Prop:=∃ c0 c1 c2 c3,v=.agg #[c0,c1,c2,c3]∧w.cell? ⟨b,off,none⟩=some c0∧w.cell? ⟨b,off+1,none⟩=some c1∧w.cell? ⟨b,off+2,none⟩=some c2∧w.cell? ⟨b,off+3,none⟩=some c3
mutual
def PtAt (w:World):Pt→Value→Prop
 | .mk o l h ps,v=>∃ av cap,v=.agg #[.int .i64 o,.int .i64 l,.int .i64 h,.slice av ps.length cap]∧(ps=[]∨∃ b off,av=some ⟨b,off,none⟩∧PtsAt w ps b off)
def PtsAt (w:World):List Pt→Nat→Nat→Prop
 | [],_,_=>True
 | a::ps,b,off=>(∃ v,At4 w b off v∧PtAt w a v)∧PtsAt w ps b (off+4)
end
theorem At4.grow {w w':World} {b off:Nat} {v:Value} (h:At4 w b off v) (g:w.grownBy w' none):At4 w' b off v:=by
 obtain ⟨c0,c1,c2,c3,rfl,h0,h1,h2,h3⟩:=h
 exact ⟨c0,c1,c2,c3,rfl,ycg h0 g,ycg h1 g,ycg h2 g,ycg h3 g⟩
mutual
theorem PtAt.grow {w w':World} (g:w.grownBy w' none):(p:Pt)→(v:Value)→PtAt w p v→PtAt w' p v
 | .mk o l h ps,v,hp=>by
  obtain ⟨av,cap,hv,ha⟩:=hp
  refine ⟨av,cap,hv,?_⟩
  rcases ha with ha | ⟨b,off,hb,ha⟩
  · exact .inl ha
  · exact .inr ⟨b,off,hb,PtsAt.grow g ps b off ha⟩
theorem PtsAt.grow {w w':World} (g:w.grownBy w' none):(ps:List Pt)→(b off:Nat)→PtsAt w ps b off→PtsAt w' ps b off
 | [],_,_,_=>trivial
 | a::ps,b,off,h=>⟨by obtain ⟨v,h1,h2⟩:=h.1; exact ⟨v,h1.grow g,PtAt.grow g a v h2⟩,PtsAt.grow g ps b (off+4) h.2⟩
end
theorem PtsAt.at_ {w:World}:(ps:List Pt)→(b off:Nat)→PtsAt w ps b off→∀ j (h:j<ps.length),∃ v,At4 w b (off+j*4) v∧PtAt w ps[j] v
 | [],_,_,_,j,hj=>by simp at hj
 | a::ps,b,off,h,0,_=>by simpa using h.1
 | a::ps,b,off,h,j+1,hj=>by
  have:=PtsAt.at_ ps b (off+4) h.2 j (by simpa using hj)
  rw [show off+(j+1)*4=off+4+j*4 by omega]
  simpa using this
theorem PtAt.elem {w:World} {ps:List Pt} {av:Option Addr} (ha:ps=[]∨∃ b off,av=some ⟨b,off,none⟩∧PtsAt w ps b off) (j:Nat) (hj:j<ps.length) :
 ∃ b off,∃ (o l h:Int) (x:Option Addr) (n c:Nat),av=some ⟨b,off,none⟩∧w.cell? ⟨b,off+j*4,none⟩=some (.int .i64 o)∧w.cell? ⟨b,off+j*4+1,none⟩=some (.int .i64 l)∧w.cell? ⟨b,off+j*4+2,none⟩=some (.int .i64 h)∧w.cell? ⟨b,off+j*4+3,none⟩=some (.slice x n c)∧PtAt w ps[j] (.agg #[.int .i64 o,.int .i64 l,.int .i64 h,.slice x n c]):=by
 rcases ha with rfl | ⟨b,off,hb,ha⟩
 · simp at hj
 · obtain ⟨v,⟨c0,c1,c2,c3,rfl,h⟩,hp⟩:=PtsAt.at_ ps b off ha j hj
   generalize ps[j]=q at hp
   obtain ⟨o,l,hh,qs⟩:=q
   obtain ⟨x,c,hv,hx⟩:=hp
   simp only [Value.agg.injEq,Array.mk.injEq,List.cons.injEq,and_true] at hv
   obtain ⟨rfl,rfl,rfl,rfl⟩:=hv
   exact ⟨b,off,o,l,hh,x,qs.length,c,hb,h.1,h.2.1,h.2.2.1,h.2.2.2,x,c,rfl,hx⟩
theorem sizes_take (ps:List Pt) (j:Nat) (h:j<ps.length):sizes (ps.take (j+1))=sizes (ps.take j)+ps[j].size:=by
 induction ps generalizing j with
 | nil=>simp at h
 | cons a ps ih =>
  cases j with
  | zero=>simp [sizes]
  | succ j=>simp only [List.take_succ_cons,sizes,List.getElem_cons_succ]; rw [ih j (by simpa using h)]; omega
theorem sizes_take_le (ps:List Pt) (j:Nat):sizes (ps.take j)≤sizes ps:=by
 induction ps generalizing j with
 | nil=>simp [sizes]
 | cons a ps ih=>cases j with
  | zero=>simp [sizes]
  | succ j=>simp only [List.take_succ_cons,sizes]; have:=ih j; omega
theorem grow_new {w w':World} (g:w.grownBy w' none) {b:Nat} {o:Obj} (hb:w.heap[b]? = some o):w'.heap[b]? = some o:=by
 rw [g.block b (xL hb) (by simp)]; exact hb
theorem size_any (p:Pt):∀ (v:Value) (w:World),p.size≤1000000→PtAt w p v→Calls Tryz.prog 67 #[v] w fun e w'=>e=.returned (.int .i64 (p.size:Nat))∧w.grownBy w' none:=by
 induction p using Pt.ind with
 | h o l hi ps ih =>
  intro v w hs hp
  obtain ⟨av,cap,rfl,ha⟩:=hp
  simp only [Pt.size] at hs
  have hlen:ps.length≤sizes ps:=by
   clear ih ha hs
   induction ps with
   | nil=>simp
   | cons a ps ih=>obtain ⟨o,l,h,bs⟩:=a; simp only [List.length_cons,sizes,Pt.size]; omega
  have HA:=hid ha
  clear ha
  go_enter Tryz.func67,Tryz.ntmps67
  go_wp2_with fail
  go_loopw [3,9] (fun n i wr=>∃ j:Nat,j≤ps.length∧i=.int .i64 j∧n=.int .i64 ((1+sizes (ps.take j):Nat):Int)∧w.grownBy wr none) (fun _ i _=>ps.length-(intOf i).toNat)
  case atStart=>exact ⟨0,Nat.zero_le _,rfl,by simp [sizes],yga (grow_self w) _⟩
  case round =>
   obtain ⟨j,hj,rfl,rfl,hg⟩:=hrel
   have hb:=sizes_take_le ps j
   by_cases hlt:j<ps.length
   · obtain ⟨b,off,xo,xl,xh,xa,xn,xc,rfl,h0,h1,h2,h3,hq⟩:=PtAt.elem HA.out j hlt
     replace h0:=ycg h0 hg
     replace h1:=ycg h1 hg
     replace h2:=ycg h2 hg
     replace h3:=ycg h3 hg
     have ht:=hid (sizes_take ps j hlt)
     have hle:ps[j].size≤1000000:=by have:=ht.out; have:=sizes_take_le ps (j+1); omega
     have H:=hid (ih ps[j] (List.getElem_mem hlt))
     have hq2:=PtAt.grow (yga hg (.cells #[.int .i64 xo,.int .i64 xl,.int .i64 xh,.slice xa xn xc] 28)) _ _ hq
     have hw2:w.grownBy (wr.alloc (.cells #[.int .i64 xo,.int .i64 xl,.int .i64 xh,.slice xa xn xc] 28)) none:=yga hg _
     generalize ps[j]=q at H hq hq2 hle ht
     go_wp2_with fail
     refine (H.out _ _ hle hq2).mono ?_
     rintro e w1 ⟨rfl,g1⟩
     go_wp2_with fail
     go_roundw
     case rel=>exact ⟨j+1,by omega,by go_num,by rw [ht.out]; go_num,xT hw2 g1⟩
     case measure=>simp [intOf]; omega
   · have e0:j=ps.length:=by omega
     have HE:=hid e0
     clear e0
     go_wp2_with fail
     go_ret
     exact ⟨ret_i64 (by rw [HE.out]; simp [Pt.size]),hg⟩
def formB (o l h:Int) (n:Nat):Bool:=if o=1 then decide (n=0) else if o=2 then decide (n≠1) && decide (l=0) && decide (h=0) else if o=3 then decide (2≤n) && decide (l=0) && decide (h=0) else decide (n=1) && decide (l=0) && decide (h=0)
theorem hasForm_any (o l h:Int) (x:Option Addr) (n c:Nat) (w:World) (hn:n≤1000000) :
 Calls Tryz.prog 90 #[.agg #[.int .i64 o,.int .i64 l,.int .i64 h,.slice x n c]] w fun e w'=>e=.returned (.bool (formB o l h n))∧w.grownBy w' none:=by
 have hg:=yga (grow_self w) (.cells #[.int .i64 o,.int .i64 l,.int .i64 h,.slice x n c] 28)
 by_cases o1:o=1
 · have o1b:(o == 1)=true:=by simp [o1]
   by_cases n0:n=0
   · have n0b:((n:Int) == 0)=true:=by simp [n0]
     have H:=hid (show formB o l h n=true by simp [formB,o1,n0])
     clear o1 n0
     go_enter Tryz.func90,Tryz.ntmps90
     go_wp2_with fail
     go_ret
     exact ⟨ret_bool (by rw [H.out]),hg⟩
   · have n0b:((n:Int) == 0)=false:=by simp [n0]
     have H:=hid (show formB o l h n=false by simp [formB,o1,n0])
     clear o1 n0
     go_enter Tryz.func90,Tryz.ntmps90
     go_wp2_with fail
     go_ret
     exact ⟨ret_bool (by rw [H.out]),hg⟩
 · have o1b:(o == 1)=false:=by simp [o1]
   by_cases o2:o=2
   · have o2b:(o == 2)=true:=by simp [o2]
     by_cases n1:n=1
     · have n1b:((n:Int) != 1)=false:=by simp [n1]
       by_cases l0:l=0
       · have l0b:(l == 0)=true:=by simp [l0]
         by_cases h0:h=0
         · have h0b:(h == 0)=true:=by simp [h0]
           have H:=hid (show formB o l h n=false by simp [formB,o2,n1,l0,h0])
           clear o1 o2 n1 l0 h0
           go_enter Tryz.func90,Tryz.ntmps90
           go_wp2_with fail
           go_ret
           exact ⟨ret_bool (by rw [H.out]),hg⟩
         · have h0b:(h == 0)=false:=by simp [h0]
           have H:=hid (show formB o l h n=false by simp [formB,o2,n1,l0,h0])
           clear o1 o2 n1 l0 h0
           go_enter Tryz.func90,Tryz.ntmps90
           go_wp2_with fail
           go_ret
           exact ⟨ret_bool (by rw [H.out]),hg⟩
       · have l0b:(l == 0)=false:=by simp [l0]
         by_cases h0:h=0
         · have h0b:(h == 0)=true:=by simp [h0]
           have H:=hid (show formB o l h n=false by simp [formB,o2,n1,l0,h0])
           clear o1 o2 n1 l0 h0
           go_enter Tryz.func90,Tryz.ntmps90
           go_wp2_with fail
           go_ret
           exact ⟨ret_bool (by rw [H.out]),hg⟩
         · have h0b:(h == 0)=false:=by simp [h0]
           have H:=hid (show formB o l h n=false by simp [formB,o2,n1,l0,h0])
           clear o1 o2 n1 l0 h0
           go_enter Tryz.func90,Tryz.ntmps90
           go_wp2_with fail
           go_ret
           exact ⟨ret_bool (by rw [H.out]),hg⟩
     · have n1b:((n:Int) != 1)=true:=by simp; omega
       by_cases l0:l=0
       · have l0b:(l == 0)=true:=by simp [l0]
         by_cases h0:h=0
         · have h0b:(h == 0)=true:=by simp [h0]
           have H:=hid (show formB o l h n=true by simp [formB,o2,n1,l0,h0])
           clear o1 o2 n1 l0 h0
           go_enter Tryz.func90,Tryz.ntmps90
           go_wp2_with fail
           go_ret
           exact ⟨ret_bool (by rw [H.out]),hg⟩
         · have h0b:(h == 0)=false:=by simp [h0]
           have H:=hid (show formB o l h n=false by simp [formB,o2,n1,l0,h0])
           clear o1 o2 n1 l0 h0
           go_enter Tryz.func90,Tryz.ntmps90
           go_wp2_with fail
           go_ret
           exact ⟨ret_bool (by rw [H.out]),hg⟩
       · have l0b:(l == 0)=false:=by simp [l0]
         by_cases h0:h=0
         · have h0b:(h == 0)=true:=by simp [h0]
           have H:=hid (show formB o l h n=false by simp [formB,o2,n1,l0,h0])
           clear o1 o2 n1 l0 h0
           go_enter Tryz.func90,Tryz.ntmps90
           go_wp2_with fail
           go_ret
           exact ⟨ret_bool (by rw [H.out]),hg⟩
         · have h0b:(h == 0)=false:=by simp [h0]
           have H:=hid (show formB o l h n=false by simp [formB,o2,n1,l0,h0])
           clear o1 o2 n1 l0 h0
           go_enter Tryz.func90,Tryz.ntmps90
           go_wp2_with fail
           go_ret
           exact ⟨ret_bool (by rw [H.out]),hg⟩
   · have o2b:(o == 2)=false:=by simp [o2]
     by_cases o3:o=3
     · have o3b:(o == 3)=true:=by simp [o3]
       by_cases n3:2≤n
       · have n3b:decide ((2:Int)≤(n:Int))=true:=by simp; omega
         by_cases l0:l=0
         · have l0b:(l == 0)=true:=by simp [l0]
           by_cases h0:h=0
           · have h0b:(h == 0)=true:=by simp [h0]
             have H:=hid (show formB o l h n=true by simp [formB,o3,n3,l0,h0])
             clear o1 o2 o3 n3 l0 h0
             go_enter Tryz.func90,Tryz.ntmps90
             go_wp2_with fail
             go_ret
             exact ⟨ret_bool (by rw [H.out]),hg⟩
           · have h0b:(h == 0)=false:=by simp [h0]
             have H:=hid (show formB o l h n=false by simp [formB,o3,n3,l0,h0])
             clear o1 o2 o3 n3 l0 h0
             go_enter Tryz.func90,Tryz.ntmps90
             go_wp2_with fail
             go_ret
             exact ⟨ret_bool (by rw [H.out]),hg⟩
         · have l0b:(l == 0)=false:=by simp [l0]
           by_cases h0:h=0
           · have h0b:(h == 0)=true:=by simp [h0]
             have H:=hid (show formB o l h n=false by simp [formB,o3,n3,l0,h0])
             clear o1 o2 o3 n3 l0 h0
             go_enter Tryz.func90,Tryz.ntmps90
             go_wp2_with fail
             go_ret
             exact ⟨ret_bool (by rw [H.out]),hg⟩
           · have h0b:(h == 0)=false:=by simp [h0]
             have H:=hid (show formB o l h n=false by simp [formB,o3,n3,l0,h0])
             clear o1 o2 o3 n3 l0 h0
             go_enter Tryz.func90,Tryz.ntmps90
             go_wp2_with fail
             go_ret
             exact ⟨ret_bool (by rw [H.out]),hg⟩
       · have n3b:decide ((2:Int)≤(n:Int))=false:=by simp; omega
         by_cases l0:l=0
         · have l0b:(l == 0)=true:=by simp [l0]
           by_cases h0:h=0
           · have h0b:(h == 0)=true:=by simp [h0]
             have H:=hid (show formB o l h n=false by simp [formB,o3,n3,l0,h0])
             clear o1 o2 o3 n3 l0 h0
             go_enter Tryz.func90,Tryz.ntmps90
             go_wp2_with fail
             go_ret
             exact ⟨ret_bool (by rw [H.out]),hg⟩
           · have h0b:(h == 0)=false:=by simp [h0]
             have H:=hid (show formB o l h n=false by simp [formB,o3,n3,l0,h0])
             clear o1 o2 o3 n3 l0 h0
             go_enter Tryz.func90,Tryz.ntmps90
             go_wp2_with fail
             go_ret
             exact ⟨ret_bool (by rw [H.out]),hg⟩
         · have l0b:(l == 0)=false:=by simp [l0]
           by_cases h0:h=0
           · have h0b:(h == 0)=true:=by simp [h0]
             have H:=hid (show formB o l h n=false by simp [formB,o3,n3,l0,h0])
             clear o1 o2 o3 n3 l0 h0
             go_enter Tryz.func90,Tryz.ntmps90
             go_wp2_with fail
             go_ret
             exact ⟨ret_bool (by rw [H.out]),hg⟩
           · have h0b:(h == 0)=false:=by simp [h0]
             have H:=hid (show formB o l h n=false by simp [formB,o3,n3,l0,h0])
             clear o1 o2 o3 n3 l0 h0
             go_enter Tryz.func90,Tryz.ntmps90
             go_wp2_with fail
             go_ret
             exact ⟨ret_bool (by rw [H.out]),hg⟩
     · have o3b:(o == 3)=false:=by simp [o3]
       by_cases n1:n=1
       · have n1b:((n:Int) == 1)=true:=by simp [n1]
         by_cases l0:l=0
         · have l0b:(l == 0)=true:=by simp [l0]
           by_cases h0:h=0
           · have h0b:(h == 0)=true:=by simp [h0]
             have H:=hid (show formB o l h n=true by simp [formB,o1,o2,o3,n1,l0,h0])
             clear o1 o2 o3 n1 l0 h0
             go_enter Tryz.func90,Tryz.ntmps90
             go_wp2_with fail
             go_ret
             exact ⟨ret_bool (by rw [H.out]),hg⟩
           · have h0b:(h == 0)=false:=by simp [h0]
             have H:=hid (show formB o l h n=false by simp [formB,o1,o2,o3,n1,l0,h0])
             clear o1 o2 o3 n1 l0 h0
             go_enter Tryz.func90,Tryz.ntmps90
             go_wp2_with fail
             go_ret
             exact ⟨ret_bool (by rw [H.out]),hg⟩
         · have l0b:(l == 0)=false:=by simp [l0]
           by_cases h0:h=0
           · have h0b:(h == 0)=true:=by simp [h0]
             have H:=hid (show formB o l h n=false by simp [formB,o1,o2,o3,n1,l0,h0])
             clear o1 o2 o3 n1 l0 h0
             go_enter Tryz.func90,Tryz.ntmps90
             go_wp2_with fail
             go_ret
             exact ⟨ret_bool (by rw [H.out]),hg⟩
           · have h0b:(h == 0)=false:=by simp [h0]
             have H:=hid (show formB o l h n=false by simp [formB,o1,o2,o3,n1,l0,h0])
             clear o1 o2 o3 n1 l0 h0
             go_enter Tryz.func90,Tryz.ntmps90
             go_wp2_with fail
             go_ret
             exact ⟨ret_bool (by rw [H.out]),hg⟩
       · have n1b:((n:Int) == 1)=false:=by simp; omega
         by_cases l0:l=0
         · have l0b:(l == 0)=true:=by simp [l0]
           by_cases h0:h=0
           · have h0b:(h == 0)=true:=by simp [h0]
             have H:=hid (show formB o l h n=false by simp [formB,o1,o2,o3,n1,l0,h0])
             clear o1 o2 o3 n1 l0 h0
             go_enter Tryz.func90,Tryz.ntmps90
             go_wp2_with fail
             go_ret
             exact ⟨ret_bool (by rw [H.out]),hg⟩
           · have h0b:(h == 0)=false:=by simp [h0]
             have H:=hid (show formB o l h n=false by simp [formB,o1,o2,o3,n1,l0,h0])
             clear o1 o2 o3 n1 l0 h0
             go_enter Tryz.func90,Tryz.ntmps90
             go_wp2_with fail
             go_ret
             exact ⟨ret_bool (by rw [H.out]),hg⟩
         · have l0b:(l == 0)=false:=by simp [l0]
           by_cases h0:h=0
           · have h0b:(h == 0)=true:=by simp [h0]
             have H:=hid (show formB o l h n=false by simp [formB,o1,o2,o3,n1,l0,h0])
             clear o1 o2 o3 n1 l0 h0
             go_enter Tryz.func90,Tryz.ntmps90
             go_wp2_with fail
             go_ret
             exact ⟨ret_bool (by rw [H.out]),hg⟩
           · have h0b:(h == 0)=false:=by simp [h0]
             have H:=hid (show formB o l h n=false by simp [formB,o1,o2,o3,n1,l0,h0])
             clear o1 o2 o3 n1 l0 h0
             go_enter Tryz.func90,Tryz.ntmps90
             go_wp2_with fail
             go_ret
             exact ⟨ret_bool (by rw [H.out]),hg⟩
mutual
def Pt.fault:Pt→Int→Int
 | .mk o l h ps,d=>if 30<d then 2 else if ¬ (1≤o∧o≤4) then 4 else if formB o l h ps.length=false then 3 else if ¬ (0≤l∧l≤255∧l≤h∧h≤255) then 1 else faults ps (d+1)
def faults:List Pt→Int→Int
 | [],_=>0
 | p::ps,d=>if p.fault d=0 then faults ps d else p.fault d
end
def patFault (p:Pt):Int:=if p.fault 1=0 then (if 2000<p.size then 2 else 0) else p.fault 1
theorem len_sizes (ps:List Pt):ps.length≤sizes ps:=by
 induction ps with
 | nil=>simp
 | cons p ps ih=>obtain ⟨o,l,h,bs⟩:=p; simp only [List.length_cons,sizes,Pt.size]; omega
theorem size_le_sizes (ps:List Pt) (q:Pt) (h:q∈ps):q.size≤sizes ps:=by
 induction ps with
 | nil=>cases h
 | cons p ps ih =>
  simp only [sizes]
  rcases List.mem_cons.1 h with rfl | h
  · omega
  · have:=ih h; omega
theorem checkDeep_any (p:Pt):∀ (v:Value) (w:World) (d:Int),0≤d→d+p.size≤1000000→PtAt w p v→Calls Tryz.prog 66 #[v,.int .i64 d] w fun e w'=>e=.returned (.int .i64 (p.fault d))∧w.grownBy w' none:=by
 induction p using Pt.ind with
 | h o l hi ps ih =>
  intro v w d hd hs hp
  obtain ⟨av,cap,rfl,ha⟩:=hp
  simp only [Pt.size] at hs
  have hlen:=len_sizes ps
  have HA:=hid ha
  clear ha
  have hg:=yga (grow_self w) (.cells #[.int .i64 o,.int .i64 l,.int .i64 hi,.slice av ps.length cap] 28)
  have hbx:=xN w (.cells #[.int .i64 o,.int .i64 l,.int .i64 hi,.slice av ps.length cap] 28)
  by_cases t1:30<d
  · have H:=hid (show (Pt.mk o l hi ps).fault d=2 by simp [Pt.fault,t1])
    go_enter Tryz.func66,Tryz.ntmps66
    go_wp2_with fail
    go_ret
    exact ⟨ret_i64 (by rw [H.out]),hg⟩
  by_cases t2:o<1
  · have H:=hid (show (Pt.mk o l hi ps).fault d=4 by rw [Pt.fault,if_neg t1,if_pos (by omega)])
    go_enter Tryz.func66,Tryz.ntmps66
    go_wp2_with fail
    go_ret
    exact ⟨ret_i64 (by rw [H.out]),hg⟩
  by_cases t3:4<o
  · have H:=hid (show (Pt.mk o l hi ps).fault d=4 by rw [Pt.fault,if_neg t1,if_pos (by omega)])
    go_enter Tryz.func66,Tryz.ntmps66
    go_wp2_with fail
    go_ret
    exact ⟨ret_i64 (by rw [H.out]),hg⟩
  by_cases t4:formB o l hi ps.length=false
  · have H:=hid (show (Pt.mk o l hi ps).fault d=3 by rw [Pt.fault,if_neg t1,if_neg (by omega),if_pos t4])
    have T4:=hid t4
    clear t4
    go_enter Tryz.func66,Tryz.ntmps66
    go_wp2_with fail
    refine (hasForm_any o l hi av ps.length cap _ (by omega)).mono ?_
    rw [T4.out]
    rintro e w1 ⟨rfl,g1⟩
    go_wp2_with fail
    go_ret
    exact ⟨ret_i64 (by rw [H.out]),xT hg g1⟩
  have t4b:formB o l hi ps.length=true:=by simpa using t4
  have T4:=hid t4b
  have T4n:=hid t4
  clear t4b t4
  by_cases t5:0≤l∧l≤255∧l≤hi∧hi≤255
  · have H:=hid (show (Pt.mk o l hi ps).fault d=faults ps (d+1) by rw [Pt.fault,if_neg t1,if_neg (by omega),if_neg T4n.out,if_neg (by omega)])
    obtain ⟨u1,u2,u3,u4⟩:=t5
    go_enter Tryz.func66,Tryz.ntmps66
    go_wp2_with fail
    refine (hasForm_any o l hi av ps.length cap _ (by omega)).mono ?_
    rw [T4.out]
    rintro e w1 ⟨rfl,g1⟩
    have bx:=grow_new g1 hbx
    have cx1:=xC bx 1
    have cx2:=xC bx 2
    have cx3:=xC bx 3
    simp only [xGe,xGz,xGs] at cx1 cx2 cx3
    have hg1:=xT hg g1
    clear bx g1 hg hbx
    go_wp2_with fail
    go_loopw [48] (fun i wr=>∃ j:Nat,j≤ps.length∧i=.int .i64 j∧Hid (faults ps (d+1)=faults (ps.drop j) (d+1))∧w.grownBy wr none) (fun i _=>ps.length-(intOf i).toNat)
    case atStart=>exact ⟨0,Nat.zero_le _,rfl,hid rfl,hg1⟩
    case round =>
     obtain ⟨j,hj,rfl,HF,hg⟩:=hrel
     by_cases hlt:j<ps.length
     · obtain ⟨b,off,xo,xl,xh,xa,xn,xc,rfl,h0,h1,h2,h3,hq⟩:=PtAt.elem HA.out j hlt
       replace h0:=ycg h0 hg
       replace h1:=ycg h1 hg
       replace h2:=ycg h2 hg
       replace h3:=ycg h3 hg
       have hle:ps[j].size≤sizes ps:=size_le_sizes ps _ (List.getElem_mem hlt)
       have hcons:ps.drop j=ps[j]::ps.drop (j+1):=List.drop_eq_getElem_cons hlt
       have HF2:=hid (HF.out.trans (by rw [hcons,faults]))
       have H2:=hid (ih ps[j] (List.getElem_mem hlt))
       have hq2:=PtAt.grow (yga hg (.cells #[.int .i64 xo,.int .i64 xl,.int .i64 xh,.slice xa xn xc] 28)) _ _ hq
       have hw2:w.grownBy (wr.alloc (.cells #[.int .i64 xo,.int .i64 xl,.int .i64 xh,.slice xa xn xc] 28)) none:=yga hg _
       clear hcons HF
       generalize ps[j]=q at H2 hq hq2 hle HF2
       by_cases z:q.fault (d+1)=0
       · have HF3:=hid (HF2.out.trans (if_pos z))
         have Z:=hid z
         clear z HF2
         go_wp2_with fail
         refine (H2.out _ _ (d+1) (by omega) (by omega) hq2).mono ?_
         rw [Z.out]
         rintro e w1 ⟨rfl,g1⟩
         go_wp2_with fail
         go_roundw
         case rel=>exact ⟨j+1,by omega,by go_num,HF3,xT hw2 g1⟩
         case measure=>simp [intOf]; omega
       · have HF3:=hid (HF2.out.trans (if_neg z))
         have zb:(q.fault (d+1) != 0)=true:=by simp [z]
         clear z HF2
         go_wp2_with fail
         refine (H2.out _ _ (d+1) (by omega) (by omega) hq2).mono ?_
         rintro e w1 ⟨rfl,g1⟩
         go_wp2_with fail
         go_ret
         exact ⟨ret_i64 (by rw [H.out,HF3.out]),xT hw2 g1⟩
     · have HE:=hid (show faults (ps.drop j) (d+1)=0 by rw [List.drop_eq_nil_of_le (by omega)]; rfl)
       go_wp2_with fail
       go_ret
       exact ⟨ret_i64 (by rw [H.out,HF.out,HE.out]),hg⟩
  · have H:=hid (show (Pt.mk o l hi ps).fault d=1 by rw [Pt.fault,if_neg t1,if_neg (by omega),if_neg T4n.out,if_pos t5])
    have t6:l<0∨(0≤l∧255<l)∨(0≤l∧l≤255∧hi<l)∨(0≤l∧l≤255∧l≤hi∧255<hi):=by omega
    clear t5
    rcases t6 with t6 | ⟨t6,t7⟩ | ⟨t6,t7,t8⟩ | ⟨t6,t7,t8,t9⟩
    all_goals
     go_enter Tryz.func66,Tryz.ntmps66
     go_wp2_with fail
     refine (hasForm_any o l hi av ps.length cap _ (by omega)).mono ?_
     rw [T4.out]
     rintro e w1 ⟨rfl,g1⟩
     have bx:=grow_new g1 hbx
     have cx1:=xC bx 1
     have cx2:=xC bx 2
     simp only [xGe,xGz,xGs] at cx1 cx2
     have hg1:=xT hg g1
     clear bx g1 hg hbx
     go_wp2_with fail
     go_ret
     exact ⟨ret_i64 (by rw [H.out]),hg1⟩
theorem checkPat_any (p:Pt) (v:Value) (w:World) (hs:p.size≤100000) (hp:PtAt w p v):Calls Tryz.prog 38 #[v] w fun e w'=>e=.returned (.int .i64 (patFault p))∧w.grownBy w' none:=by
 have hp0:=hp
 obtain ⟨o,l,hi,ps⟩:=p
 obtain ⟨av,cap,rfl,ha⟩:=hp0
 clear ha
 have hg:=yga (grow_self w) (.cells #[.int .i64 o,.int .i64 l,.int .i64 hi,.slice av ps.length cap] 28)
 have hbx:=xN w (.cells #[.int .i64 o,.int .i64 l,.int .i64 hi,.slice av ps.length cap] 28)
 have hp2:=PtAt.grow hg _ _ hp
 have hfa:(Pt.mk o l hi ps).fault 1=(Pt.mk o l hi ps).fault 1:=rfl
 generalize Pt.mk o l hi ps=p at *
 clear hfa
 by_cases z:p.fault 1=0
 · have Z:=hid z
   have HF:=hid (show patFault p=(if 2000<p.size then 2 else 0) from if_pos z)
   clear z
   go_enter Tryz.func38,Tryz.ntmps38
   go_wp2_with fail
   refine (checkDeep_any p _ _ 1 (by omega) (by omega) hp2).mono ?_
   rw [Z.out]
   rintro e w1 ⟨rfl,g1⟩
   have bx:=grow_new g1 hbx
   obtain ⟨cx0,cx1,cx2,cx3⟩:=cb4 bx
   have hp3:=PtAt.grow g1 _ _ hp2
   have hg1:=xT hg g1
   clear bx g1 hg hbx hp2
   go_wp2_with fail
   refine (size_any p _ _ (by omega) hp3).mono ?_
   rintro e w2 ⟨rfl,g2⟩
   have hg2:=xT hg1 g2
   by_cases hz:2000<p.size
   · have HF2:=hid (HF.out.trans (if_pos hz))
     go_wp2_with fail
     go_ret
     exact ⟨ret_i64 (by rw [HF2.out]),hg2⟩
   · have HF2:=hid (HF.out.trans (if_neg hz))
     go_wp2_with fail
     go_ret
     exact ⟨ret_i64 (by rw [HF2.out]),hg2⟩
 · have zb:(p.fault 1 != 0)=true:=by simp [z]
   have HF:=hid (show patFault p=p.fault 1 from if_neg z)
   clear z
   go_enter Tryz.func38,Tryz.ntmps38
   go_wp2_with fail
   refine (checkDeep_any p _ _ 1 (by omega) (by omega) hp2).mono ?_
   rintro e w1 ⟨rfl,g1⟩
   go_wp2_with fail
   go_ret
   exact ⟨ret_i64 (by rw [HF.out]),xT hg g1⟩
end Go.Proofs.YtplbacfjmajeeaaGreatDoor
