import Derived.Test.YtplbacfjmajeeaaGreatDoorJ05
namespace Go.Proofs.YtplbacfjmajeeaaGreatDoor
open Go.RowKit
structure V5 where
 k:ByteArray
 x:V4
def v5List (m:V5):List Value:=[.string m.k,m.x.a,m.x.b,m.x.c,m.x.d]
def v5Cells (l:List V5):List Value:=l.flatMap v5List
theorem v5Cells_append (a b:List V5):v5Cells (a++b)=v5Cells a++v5Cells b:=by simp [v5Cells]
theorem v5Cells_cons (a:V5) (b:List V5):v5Cells (a::b)=v5List a++v5Cells b:=by simp [v5Cells]
theorem v5Cells_len (l:List V5):(v5Cells l).length=l.length*5:=by
 induction l with
 | nil=>rfl
 | cons x l ih=>rw [v5Cells_cons,List.length_append,ih]; simp [v5List]; omega
theorem v5Cells_at:∀ (l:List V5) (i:Nat) (h:i<l.length) (j:Nat),j<5→(v5Cells l)[i*5+j]? = (v5List l[i])[j]?
 | x::l,0,_,j,hj=>by
  rw [v5Cells_cons,Nat.zero_mul,Nat.zero_add,List.getElem?_append_left (by simp [v5List]; omega)]
  rfl
 | x::l,i+1,h,j,hj=>by
  rw [v5Cells_cons,List.getElem?_append_right (by simp [v5List]; omega),show (i+1)*5+j-(v5List x).length=i*5+j by simp [v5List]; omega]
  exact v5Cells_at l i (by simpa using h) j hj
def set5 (l:List Value) (o:Nat) (y:V5):List Value:=((((l.set o (.string y.k)).set (o+1) y.x.a).set (o+2) y.x.b).set (o+3) y.x.c).set (o+4) y.x.d
theorem set5_app (a b:List Value) (o:Nat) (y:V5):set5 (a++b) (a.length+o) y=a++set5 b o y:=by
 unfold set5
 simp only [Nat.add_assoc,List.set_append,show ∀ k,¬ a.length+k<a.length from fun k=>by omega,if_false,Nat.add_sub_cancel_left]
theorem set5_at:∀ (l:List V5) (i:Nat),i<l.length→∀ y,set5 (v5Cells l) (i*5) y=v5Cells (l.set i y)
 | x::l,0,_,y=>by simp [set5,v5Cells_cons,v5List]
 | x::l,i+1,h,y=>by
  have e:(i+1)*5=(v5List x).length+i*5:=by simp [v5List]; omega
  rw [v5Cells_cons,e,set5_app,set5_at l i (by simpa using h) y,xSs,v5Cells_cons]
def MrkQ (Q:Nat→Prop) (W:World):List Mrk→List V5→Prop
 | [],[]=>True
 | m::ms,v::vs=>(m.kind=v.k∧PtQ Q W m.pat v.x.val)∧MrkQ Q W ms vs
 | _,_=>False
theorem MrkQ.keep {Q Q':Nat→Prop} {W W':World} (H:KeptQ Q Q' W W'):∀ ms vs,MrkQ Q W ms vs→MrkQ Q' W' ms vs
 | [],[],_=>trivial
 | _::ms,_::vs,h=>⟨⟨h.1.1,PtQ.keep H _ _ h.1.2⟩,MrkQ.keep H ms vs h.2⟩
 | [],_::_,h=>h
 | _::_,[],h=>h
theorem MrkQ.snoc {Q:Nat→Prop} {W:World} {m:Mrk} {x:V5} (hk:m.kind=x.k) (hp:PtQ Q W m.pat x.x.val):∀ ms vs,MrkQ Q W ms vs→MrkQ Q W (ms++[m]) (vs++[x])
 | [],[],_=>⟨⟨hk,hp⟩,trivial⟩
 | _::ms,_::vs,h=>⟨h.1,MrkQ.snoc hk hp ms vs h.2⟩
 | [],_::_,h=>h.elim
 | _::_,[],h=>h.elim
theorem MrkQ.len {Q:Nat→Prop} {W:World}:∀ ms vs,MrkQ Q W ms vs→vs.length=ms.length
 | [],[],_=>rfl
 | _::ms,_::vs,h=>by simp [MrkQ.len ms vs h.2]
 | [],_::_,h=>h.elim
 | _::_,[],h=>h.elim
theorem MrkQ.row {Q:Nat→Prop} {W:World} {g:Nat}:∀ ms vs off,MrkQ Q W ms vs→(∀ j u,(v5Cells vs)[j]? = some u→W.cell? ⟨g,off+j,none⟩=some u)→MrkAt W ms g off
 | [],_,_,_,_=>trivial
 | _::_,[],_,h,_=>h.elim
 | m::ms,x::vs,off,h,hc=>by
  refine ⟨⟨?_,x.x.val,⟨x.x.a,x.x.b,x.x.c,x.x.d,rfl,?_,?_,?_,?_⟩,h.1.2.at_⟩,MrkQ.row ms vs (off+5) h.2 (fun j u hu=>?_)⟩
  · rw [h.1.1]; simpa using hc 0 (.string x.k) (by simp [v5Cells,v5List])
  · exact hc 1 x.x.a (by simp [v5Cells,v5List])
  · exact hc 2 x.x.b (by simp [v5Cells,v5List])
  · exact hc 3 x.x.c (by simp [v5Cells,v5List])
  · exact hc 4 x.x.d (by simp [v5Cells,v5List])
  · rw [show off+5+j=off+(j+5) by omega]
    refine hc (j+5) u ?_
    rw [← hu,v5Cells_cons,List.getElem?_append_right (by simp [v5List])]
    simp [v5List]
theorem MrkQ.get {Q:Nat→Prop} {W:World}:∀ ms vs,MrkQ Q W ms vs→∀ i (h1:i<ms.length) (h2:i<vs.length),ms[i].kind=vs[i].k∧PtQ Q W ms[i].pat vs[i].x.val
 | _::_,_::_,h,0,_,_=>h.1
 | _::ms,_::vs,h,i+1,h1,h2=>by simpa using MrkQ.get ms vs h.2 i (by simpa using h1) (by simpa using h2)
theorem MrkQ.set {Q:Nat→Prop} {W:World} {m:Mrk} {x:V5} (hk:m.kind=x.k) (hp:PtQ Q W m.pat x.x.val):∀ ms vs,MrkQ Q W ms vs→∀ i,MrkQ Q W (ms.set i m) (vs.set i x)
 | [],[],_,_=>trivial
 | _::_,_::_,h,0=>⟨⟨hk,hp⟩,h.2⟩
 | _::ms,_::vs,h,i+1=>⟨h.1,MrkQ.set hk hp ms vs h.2 i⟩
 | [],_::_,h,_=>h.elim
 | _::_,[],h,_=>h.elim
theorem MrkQ.v5 {Q:Nat→Prop} {W:World} (ms:List Mrk) (vs:List V5) (h:MrkQ Q W ms vs) (i:Nat) (h1:i<ms.length) (h2:i<vs.length):∃ (k:ByteArray) (o l hi:Int) (av:Option Addr) (n c:Nat),vs[i]=⟨k,⟨.int .i64 o,.int .i64 l,.int .i64 hi,.slice av n c⟩⟩:=by
 obtain ⟨_,hp⟩:=MrkQ.get ms vs h i h1 h2
 generalize vs[i]=v at hp ⊢
 obtain ⟨k,a,b,c,d⟩:=v
 generalize ms[i].pat=p at hp
 obtain ⟨o,l,hi,ps⟩:=p
 obtain ⟨av,cap,he,_⟩:=hp
 simp only [V4.val,Value.agg.injEq,Array.mk.injEq,List.cons.injEq,and_true] at he
 obtain ⟨rfl,rfl,rfl,rfl⟩:=he
 exact ⟨k,o,l,hi,av,ps.length,cap,rfl⟩
def mLv (ms:List Mrk):Nat:=ylL (ms.map Mrk.pat)
def mSz (ms:List Mrk):Nat:=sizes (ms.map Mrk.pat)
theorem mLv_snoc (ms:List Mrk) (m:Mrk):mLv (ms++[m])=mLv ms+m.pat.leaves:=by unfold mLv; rw [List.map_append]; exact leavesL_snocN _ _
theorem mSz_snoc (ms:List Mrk) (m:Mrk):mSz (ms++[m])=mSz ms+m.pat.size:=by unfold mSz; rw [List.map_append]; exact sizes_snocN _ _
theorem mLv_set:∀ (ms:List Mrk) (i:Nat) (h:i<ms.length) (m:Mrk),mLv (ms.set i m)+ms[i].pat.leaves=mLv ms+m.pat.leaves
 | x::ms,0,_,m=>by simp only [mLv,xSz,List.map_cons,ylL,List.getElem_cons_zero]; omega
 | x::ms,i+1,h,m=>by
  have:=mLv_set ms i (by simpa using h) m
  simp only [mLv,xSs,List.map_cons,ylL,List.getElem_cons_succ] at this ⊢
  omega
theorem mSz_set:∀ (ms:List Mrk) (i:Nat) (h:i<ms.length) (m:Mrk),mSz (ms.set i m)+ms[i].pat.size=mSz ms+m.pat.size
 | x::ms,0,_,m=>by simp only [mSz,xSz,List.map_cons,sizes,List.getElem_cons_zero]; omega
 | x::ms,i+1,h,m=>by
  have:=mSz_set ms i (by simpa using h) m
  simp only [mSz,xSs,List.map_cons,sizes,List.getElem_cons_succ] at this ⊢
  omega
theorem sizes_mem:∀ (ps:List Pt) (p:Pt),p∈ps→p.size≤sizes ps
 | q::ps,p,h=>by
  simp only [sizes]
  rcases List.mem_cons.1 h with rfl | h
  · omega
  · have:=sizes_mem ps p h; omega
theorem mSz_mem (ms:List Mrk) (m:Mrk) (h:m∈ms):m.pat.size≤mSz ms:=sizes_mem _ _ (List.mem_map_of_mem h)
structure MrkN (ms:List Mrk) (n lv sz:Nat):Prop where
 len:ms.length≤n
 lv:mLv ms≤lv
 sz:mSz ms≤sz
 kd:∀ m∈ms,m.kind.size≤10
theorem MrkN.snoc {ms:List Mrk} {n lv sz:Nat} (h:MrkN ms n lv sz) {m:Mrk} {a b:Nat} (h1:m.pat.leaves≤a) (h2:m.pat.size≤b) (h3:m.kind.size≤10):MrkN (ms++[m]) (n+1) (lv+a) (sz+b) :=
 ⟨by have:=h.len; simp; omega,by have:=h.lv; rw [mLv_snoc]; omega,by have:=h.sz; rw [mSz_snoc]; omega,fun x hx=>by
  rcases List.mem_append.1 hx with hx | hx
  · exact h.kd x hx
  · rw [List.mem_singleton.1 hx]; exact h3⟩
theorem MrkN.mono {ms:List Mrk} {n lv sz n' lv' sz':Nat} (h:MrkN ms n lv sz) (h1:n≤n') (h2:lv≤lv') (h3:sz≤sz'):MrkN ms n' lv' sz' :=
 ⟨Nat.le_trans h.len h1,Nat.le_trans h.lv h2,Nat.le_trans h.sz h3,h.kd⟩
theorem MrkN.nil (n lv sz:Nat):MrkN [] n lv sz:=⟨Nat.zero_le _,Nat.zero_le _,Nat.zero_le _,fun _ h=>by cases h⟩
def swap2 {α:Type} (l:List α) (i:Nat) (a b:α):List α:=(l.set i b).set (i+1) a
theorem MrkN.swap {ms:List Mrk} {n lv sz:Nat} (h:MrkN ms n lv sz) (i:Nat) (hi:i+1<ms.length):MrkN (swap2 ms i ms[i] ms[i+1]) n lv sz:=by
 have h1:=mLv_set ms i (by omega) ms[i+1]
 have h2:=mLv_set (ms.set i ms[i+1]) (i+1) (by simpa using hi) ms[i]
 have h3:=mSz_set ms i (by omega) ms[i+1]
 have h4:=mSz_set (ms.set i ms[i+1]) (i+1) (by simpa using hi) ms[i]
 have e:(ms.set i ms[i+1])[i+1]'(by simpa using hi)=ms[i+1]:=by rw [List.getElem_set_ne (by omega)]
 rw [e] at h2 h4
 have a:=h.lv
 have b:=h.sz
 refine ⟨by simp only [swap2,List.length_set]; exact h.len,by unfold swap2; omega,by unfold swap2; omega,fun x hx=>?_⟩
 rcases List.mem_or_eq_of_mem_set hx with hx | hx
 · rcases List.mem_or_eq_of_mem_set hx with hx | hx
   · exact h.kd x hx
   · rw [hx]; exact h.kd _ (List.getElem_mem _)
 · rw [hx]; exact h.kd _ (List.getElem_mem _)
def kdL:List ByteArray:=[⟨#[110,117,109]⟩,⟨#[112,108,117,115]⟩,⟨#[111,112,101,110]⟩,⟨#[99,108,111,115,101]⟩,⟨#[105,100]⟩,⟨#[107,119]⟩,⟨#[100,111,116,115]⟩,⟨#[]⟩,⟨#[]⟩,⟨#[]⟩,⟨#[115,116,114]⟩]
def ptL:List ByteArray:=[⟨#[91,48,45,57,93,91,48,45,57,93,42]⟩,⟨#[43]⟩,⟨#[92,50,56]⟩,⟨#[92,50,57]⟩,⟨#[91,97,45,122,93,91,97,45,122,93,42]⟩,⟨#[105,102]⟩,⟨#[46,46,124,46,46,46]⟩,⟨#[92,50,48,92,50,48,42]⟩,⟨#[92,48,97]⟩,⟨#[35,40,91,97,45,122,93,124,92,50,48,41,42]⟩,⟨#[34,91,97,45,99,93,42,34]⟩]
def mkTab:List Value:=[.string ⟨#[110,117,109]⟩,.string ⟨#[91,48,45,57,93,91,48,45,57,93,42]⟩,.string ⟨#[112,108,117,115]⟩,.string ⟨#[43]⟩,.string ⟨#[111,112,101,110]⟩,.string ⟨#[92,50,56]⟩,.string ⟨#[99,108,111,115,101]⟩,.string ⟨#[92,50,57]⟩,.string ⟨#[105,100]⟩,.string ⟨#[91,97,45,122,93,91,97,45,122,93,42]⟩,.string ⟨#[107,119]⟩,.string ⟨#[105,102]⟩,.string ⟨#[100,111,116,115]⟩,.string ⟨#[46,46,124,46,46,46]⟩,.string ⟨#[]⟩,.string ⟨#[92,50,48,92,50,48,42]⟩,.string ⟨#[]⟩,.string ⟨#[92,48,97]⟩,.string ⟨#[]⟩,.string ⟨#[35,40,91,97,45,122,93,124,92,50,48,41,42]⟩,.string ⟨#[115,116,114]⟩,.string ⟨#[34,91,97,45,99,93,42,34]⟩]
def mkLv:List Nat:=[3,1,1,1,3,2,5,3,1,4,4]
def mkSz:List Nat:=[55,15,23,23,55,19,35,39,23,63,43]
theorem mkTab_at:∀ i,i<11→mkTab[i*2]? = some (.string (kdL.getD i ⟨#[]⟩))∧mkTab[i*2+1]? = some (.string (ptL.getD i ⟨#[]⟩))
 | 0,_ | 1,_ | 2,_ | 3,_ | 4,_ | 5,_ | 6,_ | 7,_ | 8,_ | 9,_ | 10,_=>⟨rfl,rfl⟩
 | i+11,h=>by omega
theorem kdL_le:∀ i,(kdL.getD i ⟨#[]⟩).size≤10:=by
 intro i
 by_cases h:i<11
 · have:∀ j:Fin 11,(kdL.getD j.1 ⟨#[]⟩).size≤10:=by decide
   exact this ⟨i,h⟩
 · rw [List.getD_eq_getElem?_getD,List.getElem?_eq_none (by simp [kdL]; omega)]; decide
def upTo (l:List Nat) (i:Nat):Nat:=(l.take i).sum
theorem upTo_step (l:List Nat) (i:Nat) (h:i<l.length):upTo l (i+1)=upTo l i+l.getD i 0:=by
 unfold upTo
 rw [List.take_add_one,List.sum_append,List.getElem?_eq_getElem h,List.getD_eq_getElem?_getD,List.getElem?_eq_getElem h]
 simp
structure MksM (b:Nat) (av:Option Addr) (cap:Nat) (xs:List Int) (w:World) (k':Nat) (ms:List Mrk) (vs:List V5) (lv:Value) (W:World):Prop where
 sto:Sto b av cap xs w W k'
 old:∃ k0,Strm b av cap xs w k0
 own:W.ownsRow (w.heap.size+1) 88 5 lv vs.length (v5Cells vs)
 all:MrkQ (fun c=>w.heap.size+1≤c∧lv.ownBlock≠some c) W ms vs
 tab:W.heap[w.heap.size]? = some (.cells mkTab.toArray 98 (0,0))
theorem MksM.lt {b:Nat} {av:Option Addr} {cap:Nat} {xs:List Int} {w:World} {k':Nat} {ms:List Mrk} {vs:List V5} {lv:Value} {W:World} (h:MksM b av cap xs w k' ms vs lv W):b<w.heap.size:=by
 obtain ⟨_,S⟩:=h.old
 exact S.lt
theorem MksM.grow {b:Nat} {av:Option Addr} {cap:Nat} {xs:List Int} {w:World} {k':Nat} {ms:List Mrk} {vs:List V5} {lv:Value} {W W':World} (h:MksM b av cap xs w k' ms vs lv W) (g:W.grownBy W' none):MksM b av cap xs w k' ms vs lv W':=by
 obtain ⟨k0,S⟩:=h.old
 exact ⟨h.sto.newer S g (fun r hr=>by cases hr),h.old,own_grownN h.own g (fun r hr=>by cases hr),MrkQ.keep (kept_grown g (fun r hr=>by cases hr) (fun _ h _=>h)) _ _ h.all,grow_new g h.tab⟩
theorem MksM.call {b:Nat} {av:Option Addr} {cap:Nat} {xs:List Int} {w:World} {k' k2:Nat} {ms:List Mrk} {vs:List V5} {lv:Value} {W W':World} (h:MksM b av cap xs w k' ms vs lv W) (T:Sto b av cap xs W W' k2):MksM b av cap xs w k2 ms vs lv W':=by
 have hlt:=h.lt
 exact ⟨h.sto.trans T,h.old,own_grownN h.own T.grow (fun r hr=>by have:b=r:=(by simpa using hr); omega),MrkQ.keep (kept_grown T.grow (fun r hr hq=>by have:b=r:=(by simpa using hr); omega) (fun _ h _=>h)) _ _ h.all,T.kept h.tab (by omega)⟩
theorem MksM.drew {b:Nat} {av:Option Addr} {cap:Nat} {xs:List Int} {w:World} {k':Nat} {ms:List Mrk} {vs:List V5} {lv:Value} {W:World} (h:MksM b av cap xs w k' ms vs lv W):MksM b av cap xs w k' ms vs lv W.drew:=h.grow (grow_drew (grow_self W))
theorem MksM.app {b:Nat} {av:Option Addr} {cap:Nat} {xs:List Int} {w:World} {k':Nat} {ms:List Mrk} {vs:List V5} {sa:Option Addr} {sc:Nat} {W W3:World} {p:Pt} {x:V5} {gg cap1 L0:Nat} {o2:Obj}
 (h:MksM b av cap xs w k' ms vs (.slice sa vs.length sc) W) (hp:PtQ (fun c=>L0≤c) W p x.x.val) (hL0:∀ r,(Value.slice sa vs.length sc).ownBlock=some r→r<L0) (hw:w.heap.size+1≤L0)
 (own3:W3.ownsRow (w.heap.size+1) 88 5 (.slice (some ⟨gg,0,none⟩) (vs.length+1) cap1) (vs.length+1) (v5Cells vs++v5List x))
 (hg:(W.alloc o2).grownBy W3 (Value.slice sa vs.length sc).ownBlock) (hat:(Value.slice sa vs.length sc).ownBlock=some gg∨gg=W.heap.size+1) :
 MksM b av cap xs w k' (ms++[⟨x.k,p⟩]) (vs++[x]) (.slice (some ⟨gg,0,none⟩) (vs.length+1) cap1) W3:=by
 obtain ⟨k0,S⟩:=h.old
 have hlt:=S.lt
 have M:=h.grow (xG W o2 none)
 have hsz2:(W.alloc o2).heap.size=W.heap.size+1:=by simp
 have hrow:∀ r,(Value.slice sa vs.length sc).ownBlock=some r→w.heap.size+1≤r:=fun r hr=>(yob h.own r hr).1
 have hts:=xL h.tab
 have kA:KeptQ (fun c=>w.heap.size+1≤c∧(Value.slice sa vs.length sc).ownBlock≠some c) (fun c=>w.heap.size+1≤c∧(Value.slice (some ⟨gg,0,none⟩) (vs.length+1) cap1).ownBlock≠some c) W W3 :=
  fun c hc hl=>⟨⟨hc.1,fun e=>by
   simp only [Value.ownBlock,Option.some.injEq] at e
   subst e
   rcases hat with h | h
   · exact hc.2 h
   · omega⟩,fun _ _ hv=>hg.cell (ycg hv (xG W o2 none)) (fun e=>hc.2 e.symm)⟩
 have kP:KeptQ (fun c=>L0≤c) (fun c=>w.heap.size+1≤c∧(Value.slice (some ⟨gg,0,none⟩) (vs.length+1) cap1).ownBlock≠some c) W W3 :=
  fun c hc hl=>⟨⟨by omega,fun e=>by
   simp only [Value.ownBlock,Option.some.injEq] at e
   subst e
   rcases hat with h | h
   · have:=hL0 _ h; omega
   · omega⟩,fun _ _ hv=>hg.cell (ycg hv (xG W o2 none)) (fun e=>by have:=hL0 c e.symm; omega)⟩
 refine ⟨M.sto.newer S hg (fun r hr=>by have:=hrow r hr; omega),h.old,?_,MrkQ.snoc rfl (PtQ.keep kP _ _ hp) _ _ (MrkQ.keep kA _ _ h.all),?_⟩
 · have e:(vs++[x]).length=vs.length+1:=by simp
   rw [e,v5Cells_append]
   simpa [v5Cells] using own3
 · rw [hg.block _ (by omega) (fun e=>by have:=hrow _ e.symm; omega)]
   exact M.tab
theorem MksM.five {b:Nat} {av:Option Addr} {cap:Nat} {xs:List Int} {w:World} {k':Nat} {ms:List Mrk} {vs:List V5} {g n sc:Nat} {W:World} (h:MksM b av cap xs w k' ms vs (.slice (some ⟨g,0,none⟩) n sc) W) (i:Nat) (hi:i<vs.length) (p:Pt) (y:V5)
 (hp:PtQ (fun c=>w.heap.size+1≤c∧(Value.slice (some ⟨g,0,none⟩) n sc).ownBlock≠some c) W p y.x.val) :
 MksM b av cap xs w k' (ms.set i ⟨y.k,p⟩) (vs.set i y) (.slice (some ⟨g,0,none⟩) n sc) (((((W.setCell ⟨g,i*5,none⟩ (.string y.k)).setCell ⟨g,i*5+1,none⟩ y.x.a).setCell ⟨g,i*5+2,none⟩ y.x.b).setCell ⟨g,i*5+3,none⟩ y.x.c).setCell ⟨g,i*5+4,none⟩ y.x.d):=by
 obtain ⟨k0,S⟩:=h.old
 have hrow:=(yob h.own g rfl).1
 have hn:n=vs.length:=by
  rcases h.own.2 with ⟨h1,_⟩ | ⟨g1,c1,cur,h1,_⟩
  · simp at h1
  · simp at h1; exact h1.2.1
 subst hn
 have ks:∀ (V:World) (j:Nat) (u:Value),KeptQ (fun c=>w.heap.size+1≤c∧(Value.slice (some ⟨g,0,none⟩) vs.length sc).ownBlock≠some c) (fun c=>w.heap.size+1≤c∧(Value.slice (some ⟨g,0,none⟩) vs.length sc).ownBlock≠some c) V (V.setCell ⟨g,j,none⟩ u):=fun V j u=>kept_set _ _ (fun e=>e.2 rfl)
 have o1:=(h.own.stored (i*5) (.string y.k)).1
 have o2:=(o1.stored (i*5+1) y.x.a).1
 have o3:=(o2.stored (i*5+2) y.x.b).1
 have o4:=(o3.stored (i*5+3) y.x.c).1
 have o5:=(o4.stored (i*5+4) y.x.d).1
 have s1:=h.sto.setCell S ⟨g,i*5,none⟩ (.string y.k) (by simp; omega)
 have s2:=s1.setCell S ⟨g,i*5+1,none⟩ y.x.a (by simp; omega)
 have s3:=s2.setCell S ⟨g,i*5+2,none⟩ y.x.b (by simp; omega)
 have s4:=s3.setCell S ⟨g,i*5+3,none⟩ y.x.c (by simp; omega)
 have s5:=s4.setCell S ⟨g,i*5+4,none⟩ y.x.d (by simp; omega)
 have m0:=MrkQ.set (m:=⟨y.k,p⟩) (x:=y) rfl hp _ _ h.all i
 have m5:=MrkQ.keep (ks _ (i*5+4) y.x.d) _ _ (MrkQ.keep (ks _ (i*5+3) y.x.c) _ _ (MrkQ.keep (ks _ (i*5+2) y.x.b) _ _ (MrkQ.keep (ks _ (i*5+1) y.x.a) _ _ (MrkQ.keep (ks W (i*5) (.string y.k)) _ _ m0))))
 refine ⟨s5,h.old,?_,m5,?_⟩
 · have e:=set5_at vs i hi y
   unfold set5 at e
   rw [e] at o5
   rw [List.length_set]
   exact o5
 · have ne:∀ j:Nat,w.heap.size≠(⟨g,j,none⟩:Addr).block:=fun j=>by simp; omega
   rw [Below.heap_setCell _ _ _ _ (ne _),Below.heap_setCell _ _ _ _ (ne _),Below.heap_setCell _ _ _ _ (ne _),Below.heap_setCell _ _ _ _ (ne _),Below.heap_setCell _ _ _ _ (ne _)]
   exact h.tab
def put5 (W:World) (g o:Nat) (y:V5):World:=((((W.setCell ⟨g,o,none⟩ (.string y.k)).setCell ⟨g,o+1,none⟩ y.x.a).setCell ⟨g,o+2,none⟩ y.x.b).setCell ⟨g,o+3,none⟩ y.x.c).setCell ⟨g,o+4,none⟩ y.x.d
theorem MksM.swapped {b:Nat} {av:Option Addr} {cap:Nat} {xs:List Int} {w:World} {k':Nat} {ms:List Mrk} {vs:List V5} {g n sc:Nat} {W:World} (h:MksM b av cap xs w k' ms vs (.slice (some ⟨g,0,none⟩) n sc) W) (i:Nat) (hi:i+1<vs.length) (hm:i+1<ms.length) :
 MksM b av cap xs w k' (swap2 ms i ms[i] ms[i+1]) (swap2 vs i vs[i] vs[i+1]) (.slice (some ⟨g,0,none⟩) n sc) (put5 (put5 W g (i*5) vs[i+1]) g ((i+1)*5) vs[i]):=by
 obtain ⟨e1,p1⟩:=MrkQ.get _ _ h.all i (by omega) (by omega)
 obtain ⟨e2,p2⟩:=MrkQ.get _ _ h.all (i+1) hm hi
 have ks:∀ (V:World) (j:Nat) (u:Value),KeptQ (fun c=>w.heap.size+1≤c∧(Value.slice (some ⟨g,0,none⟩) n sc).ownBlock≠some c) (fun c=>w.heap.size+1≤c∧(Value.slice (some ⟨g,0,none⟩) n sc).ownBlock≠some c) V (V.setCell ⟨g,j,none⟩ u):=fun V j u=>kept_set _ _ (fun e=>e.2 rfl)
 have M1:=h.five i (by omega) ms[i+1].pat vs[i+1] p2
 have p1':=PtQ.keep (ks _ (i*5+4) vs[i+1].x.d) _ _ (PtQ.keep (ks _ (i*5+3) vs[i+1].x.c) _ _ (PtQ.keep (ks _ (i*5+2) vs[i+1].x.b) _ _ (PtQ.keep (ks _ (i*5+1) vs[i+1].x.a) _ _ (PtQ.keep (ks W (i*5) (.string vs[i+1].k)) _ _ p1))))
 have M2:=M1.five (i+1) (by simpa using hi) ms[i].pat vs[i] p1'
 have q1:(⟨vs[i].k,ms[i].pat⟩:Mrk)=ms[i]:=by rw [← e1]
 have q2:(⟨vs[i+1].k,ms[i+1].pat⟩:Mrk)=ms[i+1]:=by rw [← e2]
 rw [q1,q2] at M2
 exact M2
theorem MksM.kind0 {b:Nat} {av:Option Addr} {cap:Nat} {xs:List Int} {w:World} {k':Nat} {m:Mrk} {ms:List Mrk} {v:V5} {vs:List V5} {g n sc:Nat} {W:World} (h:MksM b av cap xs w k' (m::ms) (v::vs) (.slice (some ⟨g,0,none⟩) n sc) W) (kd:ByteArray) :
 MksM b av cap xs w k' (⟨kd,m.pat⟩::ms) (⟨kd,v.x⟩::vs) (.slice (some ⟨g,0,none⟩) n sc) (W.setCell ⟨g,0,none⟩ (.string kd)):=by
 obtain ⟨k0,S⟩:=h.old
 have hrow:=(yob h.own g rfl).1
 have hn:n=(v::vs).length:=by
  rcases h.own.2 with ⟨h1,_⟩ | ⟨g1,c1,cur,h1,_⟩
  · simp at h1
  · simp at h1; exact h1.2.1
 subst hn
 have o1:=(h.own.stored 0 (.string kd)).1
 have m1:=MrkQ.keep (kept_set (Q:=fun c=>w.heap.size+1≤c∧(Value.slice (some ⟨g,0,none⟩) (v::vs).length sc).ownBlock≠some c) ⟨g,0,none⟩ (.string kd) (fun e=>e.2 rfl)) _ _ h.all
 exact ⟨h.sto.setCell S _ _ (by simp; omega),h.old,by simpa [v5Cells_cons,v5List] using o1,⟨⟨rfl,m1.1.2⟩,m1.2⟩,by rw [Below.heap_setCell _ _ _ _ (by simp; omega)]; exact h.tab⟩
theorem MrkN.kind0 {m:Mrk} {ms:List Mrk} {n lv sz:Nat} (h:MrkN (m::ms) n lv sz) (k:ByteArray) (hk:k.size≤10):MrkN (⟨k,m.pat⟩::ms) n lv sz :=
 ⟨h.len,h.lv,h.sz,fun x hx=>by
  rcases List.mem_cons.1 hx with rfl | hx
  · exact hk
  · exact h.kd x (List.mem_cons_of_mem _ hx)⟩
def MksF (base:Nat) (ms:List Mrk) (lv:Value) (W:World):Prop :=
 ∃ vs:List V5,W.ownsRow base 88 5 lv vs.length (v5Cells vs)∧MrkQ (fun c=>base≤c∧lv.ownBlock≠some c) W ms vs
theorem MksF.keep {base:Nat} {ms:List Mrk} {lv:Value} {W W':World} {row:Option Nat} (h:MksF base ms lv W) (g:W.grownBy W' row) (hr:∀ r,row=some r→r<base):MksF base ms lv W':=by
 obtain ⟨vs,h1,h2⟩:=h
 exact ⟨vs,own_grownN h1 g hr,MrkQ.keep (kept_grown g (fun r he hq=>by have:=hr r he; omega) (fun _ h _=>h)) _ _ h2⟩
theorem MksF.form {base:Nat} {ms:List Mrk} {lv:Value} {W:World} (h:MksF base ms lv W):∃ (mv:Option Addr) (mc:Nat),lv=.slice mv ms.length mc∧(ms=[]∨∃ b off,mv=some ⟨b,off,none⟩∧MrkAt W ms b off):=by
 obtain ⟨vs,h1,h2⟩:=h
 have hl:=MrkQ.len _ _ h2
 rcases h1.2 with ⟨rfl,h3⟩ | ⟨g,c,cur,rfl,h3,h4,h5,h6,h7,h8⟩
 · exact ⟨none,0,by rw [← hl,h3],.inl (List.eq_nil_of_length_eq_zero (by omega))⟩
 · refine ⟨some ⟨g,0,none⟩,c,by rw [hl],.inr ⟨g,0,rfl,MrkQ.row ms vs 0 h2 (fun j u hu=>?_)⟩⟩
   rw [Nat.zero_add]
   have hj:j<vs.length*5:=by
    have:=(List.getElem?_eq_some_iff.1 hu).1
    rw [v5Cells_len] at this
    exact this
   rw [h1.cellAt j hj]
   exact hu
theorem MksM.fin {b:Nat} {av:Option Addr} {cap:Nat} {xs:List Int} {w:World} {k':Nat} {ms:List Mrk} {vs:List V5} {lv:Value} {W:World} (h:MksM b av cap xs w k' ms vs lv W):MksF (w.heap.size+1) ms lv W:=⟨vs,h.own,h.all⟩
theorem MksM.nil {b:Nat} {av:Option Addr} {cap:Nat} {xs:List Int} {w:World} {k':Nat} {W:World} (s:Sto b av cap xs w W k') (o:∃ k0,Strm b av cap xs w k0) (t:W.heap[w.heap.size]? = some (.cells mkTab.toArray 98 (0,0))):MksM b av cap xs w k' [] [] (.slice none 0 0) W :=
 ⟨s,o,⟨rfl,.inl ⟨rfl,rfl⟩⟩,trivial,t⟩
end Go.Proofs.YtplbacfjmajeeaaGreatDoor
