import Derived.Test.YtplbacfjmajeeaaGreatDoorJ09
namespace Go.Proofs.YtplbacfjmajeeaaGreatDoor
open Go.Lib (hid)
set_option maxHeartbeats 4000000
set_option maxRecDepth 100000
def opens:List Nd→List Bool→List Nat
 | x::ns,β::bs=>(if x.op=1∧β=true then [x.place] else [])++opens ns bs
 | _,_=>[]
theorem opens_append:∀ (ns ms:List Nd) (cs bs:List Bool),ns.length=cs.length→opens (ns++ms) (cs++bs)=opens ns cs++opens ms bs
 | [],ms,[],bs,_=>rfl
 | [],_,_::_,_,h=>by simp at h
 | _::_,_,[],_,h=>by simp at h
 | x::ns,ms,a::as_,bs,h=>by
  simp only [List.cons_append,opens,List.append_assoc]
  rw [opens_append ns ms as_ bs (by simpa using h)]
def opnW (A:Nat→Bool):List Pt→Nat→(Nat→Bool)→List Nat
 | [],_,_=>[]
 | p::ps,b,β=>p.opn A b (β 0)++opnW A ps (b+p.leaves) (fun k=>β (k+1))
theorem opnW_const (A:Nat→Bool) (ps:List Pt):∀ b β,opnW A ps b (fun _=>β)=opnO A ps b β:=by
 induction ps with
 | nil=>intro b β; rfl
 | cons p ps ih=>intro b β; simp only [opnW,opnO]; rw [ih]
theorem opnW_thr (A:Nat→Bool) (ps:List Pt):∀ b β,opnW A ps b (thr A ps b β)=opnT A ps b β:=by
 induction ps with
 | nil=>intro b β; rfl
 | cons p ps ih =>
  intro b β
  simp only [opnW,opnT,thr]
  rw [← ih]
theorem opn_eq (A:Nat→Bool) (o l h:Int) (ps:List Pt) (b:Nat) (β:Bool) (ho:o≠1):(Pt.mk o l h ps).opn A b β=opnW A ps b (chB A o ps b β):=by
 have e:chB A o ps b β=(if o=2 then thr A ps b β else if o=3 then fun _=>β else fun _=>β || dnO A ps b):=by
  funext k; unfold chB; split
  · rfl
  · split<;>rfl
 rw [e]
 simp only [Pt.opn,if_neg ho]
 split
 · exact (opnW_thr A ps b β).symm
 · split
   · exact (opnW_const A ps b β).symm
   · exact (opnW_const A ps b _).symm
theorem opens_nodes (A:Nat→Bool) (n:Nat):∀ (ps:List Pt) (i0 b0:Nat) (β:Nat→Bool),sizes ps≤n→(∀ p∈ps,Right p)→opens (nodesL ps i0 b0) (bgsW A ps b0 β)=opnW A ps b0 β:=by
 induction n with
 | zero =>
  intro ps i0 b0 β hn _
  cases ps with
  | nil=>rfl
  | cons p ps=>have:=size_pos p; simp only [sizes] at hn; omega
 | succ n ih =>
  intro ps i0 b0 β hn hr
  cases ps with
  | nil=>rfl
  | cons p ps =>
   have hrp:=hr p (by simp)
   obtain ⟨o,l,h,qs⟩:=p
   simp only [sizes,Pt.size] at hn
   simp only [nodesL,bgsW,opnW]
   rw [opens_append _ _ _ _ (by rw [Pt.nodes_len,Pt.bgs_len]),ih ps _ _ _ (by omega) (fun x hx=>hr x (by simp [hx]))]
   congr 1
   have hrq:∀ q∈qs,Right q:=by cases hrp with | mk _ _ _ _ _ _ _ ha=>exact ha
   simp only [Pt.nodes,Pt.bgs,opens]
   rw [ih qs _ _ _ (by omega) hrq]
   by_cases h1:o=1
   · have:qs=[]:=by cases hrp with | mk _ _ _ _ _ hf _ _=>exact List.eq_nil_of_length_eq_zero (by simpa [formB,h1] using hf)
     subst this
     simp [h1,Pt.opn,opnW]
   · rw [opn_eq A o l h qs b0 _ h1]
     simp [h1]
def maskOf (l:List Nat):Nat:=l.foldl (fun m k=>m ||| 2 ^ k) 0
theorem maskOf_snoc (l:List Nat) (k:Nat):maskOf (l++[k])=maskOf l ||| 2 ^ k:=by simp [maskOf]
theorem testBit_maskOf (l:List Nat) (k:Nat):(maskOf l).testBit k=decide (k∈l):=by
 have:∀ (l:List Nat) (m:Nat),(l.foldl (fun m k=>m ||| 2 ^ k) m).testBit k=(m.testBit k || decide (k∈l)):=by
  intro l
  induction l with
  | nil=>intro m; simp
  | cons a l ih =>
   intro m
   rw [List.foldl_cons,ih]
   simp only [Nat.testBit_or,Nat.testBit_two_pow,List.mem_cons]
   by_cases h:k=a
   · subst h; simp
   · have h':¬ a=k:=fun e=>h e.symm
     simp [h,h']
 have:=this l 0
 simpa [maskOf] using this
theorem mask_eq (a b:Nat) (h:∀ k,a.testBit k=b.testBit k):a=b:=Nat.eq_of_testBit_eq h
theorem maskOf_inj {a b:List Nat} (ha:a.Pairwise (· < ·)) (hb:b.Pairwise (· < ·)) (h:maskOf a=maskOf b):a=b:=by
 refine rising_eq a b ha hb (fun k=>?_)
 have:=congrArg (fun m=>m.testBit k) h
 simp only [testBit_maskOf] at this
 simpa using this
theorem maskOf_and (a:List Nat) (M:Nat) (f:Nat→Bool) (h:∀ k∈a,M.testBit k=f k):maskOf a &&& M=maskOf (a.filter f):=by
 apply mask_eq
 intro k
 rw [Nat.testBit_and,testBit_maskOf,testBit_maskOf]
 by_cases hk:k∈a
 · simp [hk,h k hk]
 · simp [hk]
def fitsL (A:Nat→Bool) (start:Bool):List Pt→Nat→Nat→List Nat
 | [],_,_=>[]
 | p::ps,i,b=>(if p.dn A b || start && p.nul then [i] else [])++fitsL A start ps (i+1) (b+p.leaves)
theorem fitsL_take (A:Nat→Bool) (start:Bool) (ps:List Pt):∀ (i b k:Nat) (hk:k<ps.length),fitsL A start (ps.take (k+1)) i b=fitsL A start (ps.take k) i b++(if ps[k].dn A (b+ylL (ps.take k)) || start && ps[k].nul then [i+k] else []):=by
 induction ps with
 | nil=>intro i b k hk; simp at hk
 | cons p ps ih =>
  intro i b k hk
  cases k with
  | zero=>simp [fitsL,ylL]
  | succ k =>
   simp only [List.take_succ_cons,fitsL,ylL,List.getElem_cons_succ]
   rw [ih (i+1) (b+p.leaves) k (by simpa using hk),List.append_assoc,Nat.add_assoc b]
   congr 3
   simp [Nat.add_assoc,Nat.add_comm 1 k]
theorem fitsL_le (A:Nat→Bool) (start:Bool) (ps:List Pt):∀ (i b:Nat),(fitsL A start ps i b).length≤ps.length:=by
 induction ps with
 | nil=>intro i b; simp [fitsL]
 | cons p ps ih=>intro i b; simp only [fitsL,List.length_append,List.length_cons]; have:=ih (i+1) (b+p.leaves); split<;>simp<;>omega
open Go.RowKit
def BoolRow (w:World) (g:Nat) (L:List Bool):Prop:=w.heap[g]? = some (.cells (L.map Value.bool).toArray 4 (0,0))
theorem BoolRow.cell {w:World} {g:Nat} {L:List Bool} (h:BoolRow w g L) {k:Nat} {x:Bool} (hk:L[k]? = some x):w.cell? ⟨g,k,none⟩=some (.bool x):=by
 rw [xC h k]; simp [hk]
theorem BoolRow.free {w:World} {g:Nat} {L:List Bool} (h:BoolRow w g L) (k:Nat):w.frozen? ⟨g,k,none⟩=false:=yfb h k
theorem BoolRow.set {w:World} {g:Nat} {L:List Bool} (h:BoolRow w g L) (k:Nat) (x:Bool):BoolRow (w.setCell ⟨g,k,none⟩ (.bool x)) g (L.set k x):=by
 unfold BoolRow
 rw [yhs h k (.bool x)]
 simp
structure Mac (w:World) (bm gn gr gd gb:Nat) (ps:List Pt) (C:Array Value):Prop where
 blk:w.heap[bm]? = some (.cells C 136 (0,0))
 c0:∃ cn,C[0]? = some (.slice (some ⟨gn,0,none⟩) (sizes ps) cn)
 c1:∃ cr,C[1]? = some (.slice (some ⟨gr,0,none⟩) ps.length cr)
 c2:C[2]? = some (.int .i64 (ylL ps:Nat))
 c6:C[261]? = some (.slice (some ⟨gd,0,none⟩) (sizes ps) (sizes ps))
 c7:C[262]? = some (.slice (some ⟨gb,0,none⟩) (sizes ps) (sizes ps))
 nod:∃ cs:Array Value,w.heap[gn]? = some (.cells cs 172 (0,0))∧∀ (j:Nat) (v:Value),(ndCells (nodesL ps 0 0))[j]? = some v→cs[j]? = some v
 roo:∃ cs:Array Value,w.heap[gr]? = some (.cells cs 3 (0,0))∧∀ k:Nat,k<ps.length→cs[k]? = some (.int .i64 (sizes (ps.take k):Nat))
theorem Mac.keep {w w':World} {bm gn gr gd gb:Nat} {ps:List Pt} {C:Array Value} (h:Mac w bm gn gr gd gb ps C) (h1:w'.heap[bm]? = w.heap[bm]?) (h2:w'.heap[gn]? = w.heap[gn]?) (h3:w'.heap[gr]? = w.heap[gr]?):Mac w' bm gn gr gd gb ps C :=
 ⟨by rw [h1]; exact h.blk,h.c0,h.c1,h.c2,h.c6,h.c7,by rw [h2]; exact h.nod,by rw [h3]; exact h.roo⟩
theorem blk_ne {w:World} {a b:Nat} {c1 c2:Array Value} {t1 t2:TypeId} {f1 f2:Nat × Nat} (h1:w.heap[a]? = some (.cells c1 t1 f1)) (h2:w.heap[b]? = some (.cells c2 t2 f2)) (ht:t1≠t2):a≠b:=by
 intro e; subst e; rw [h1] at h2; simp at h2; exact ht h2.2.1
theorem Mac.grown {w w':World} {bm gn gr gd gb g:Nat} {ps:List Pt} {C:Array Value} (h:Mac w bm gn gr gd gb ps C) {L:List Bool} (hb:BoolRow w g L) (hg:w.grownBy w' (some g)):Mac w' bm gn gr gd gb ps C:=by
 obtain ⟨_,h2,_⟩:=h.nod
 obtain ⟨_,h3,_⟩:=h.roo
 have n1:=blk_ne h.blk hb (by decide)
 have n2:=blk_ne h2 hb (by decide)
 have n3:=blk_ne h3 hb (by decide)
 exact h.keep (hg.block _ (xL h.blk) (by simpa using n1)) (hg.block _ (xL h2) (by simpa using n2)) (hg.block _ (xL h3) (by simpa using n3))
theorem nd_cell (L:List Nd) (k:Nat) (x:Nd) (h:L[k]? = some x):(ndCells L)[k*4]? = some (.int .i64 x.op)∧(ndCells L)[k*4+1]? = some (.int .i64 x.end_)∧(ndCells L)[k*4+2]? = some (.bool x.emp)∧(ndCells L)[k*4+3]? = some (.int .i64 x.place):=by
 induction L generalizing k with
 | nil=>simp at h
 | cons y L ih =>
  cases k with
  | zero=>simp at h; subst h; simp [ndCells]
  | succ k =>
   have:=ih k (by simpa using h)
   simp only [ndCells,List.flatMap_cons] at this ⊢
   rw [show (k+1)*4=k*4+4 by omega]
   simpa using this
theorem Mac.node {w:World} {bm gn gr gd gb:Nat} {ps:List Pt} {C:Array Value} (h:Mac w bm gn gr gd gb ps C) {k:Nat} {x:Nd} (hk:(nodesL ps 0 0)[k]? = some x) :
 w.cell? ⟨gn,k*4,none⟩=some (.int .i64 x.op)∧w.cell? ⟨gn,k*4+1,none⟩=some (.int .i64 x.end_)∧w.cell? ⟨gn,k*4+2,none⟩=some (.bool x.emp)∧w.cell? ⟨gn,k*4+3,none⟩=some (.int .i64 x.place):=by
 obtain ⟨cs,hb,hc⟩:=h.nod
 obtain ⟨h1,h2,h3,h4⟩:=nd_cell _ _ _ hk
 refine ⟨?_,?_,?_,?_⟩
 · rw [xC hb]; exact hc _ _ h1
 · rw [xC hb]; exact hc _ _ h2
 · rw [xC hb]; exact hc _ _ h3
 · rw [xC hb]; exact hc _ _ h4
theorem Mac.cells {w:World} {bm gn gr gd gb:Nat} {ps:List Pt} {C:Array Value} (h:Mac w bm gn gr gd gb ps C) :
 (∃ cn,w.cell? ⟨bm,0,none⟩=some (.slice (some ⟨gn,0,none⟩) (sizes ps) cn))∧(∃ cr,w.cell? ⟨bm,1,none⟩=some (.slice (some ⟨gr,0,none⟩) ps.length cr))∧w.cell? ⟨bm,2,none⟩=some (.int .i64 (ylL ps:Nat))
 ∧ w.cell? ⟨bm,261,none⟩=some (.slice (some ⟨gd,0,none⟩) (sizes ps) (sizes ps))∧w.cell? ⟨bm,262,none⟩=some (.slice (some ⟨gb,0,none⟩) (sizes ps) (sizes ps)):=by
 have:=xC h.blk
 refine ⟨?_,?_,?_,?_,?_⟩
 · obtain ⟨c,hc⟩:=h.c0; exact ⟨c,by rw [this,hc]⟩
 · obtain ⟨c,hc⟩:=h.c1; exact ⟨c,by rw [this,hc]⟩
 · rw [this,h.c2]
 · rw [this,h.c6]
 · rw [this,h.c7]
theorem Mac.root {w:World} {bm gn gr gd gb:Nat} {ps:List Pt} {C:Array Value} (h:Mac w bm gn gr gd gb ps C) {k:Nat} (hk:k<ps.length):w.cell? ⟨gr,k,none⟩=some (.int .i64 (sizes (ps.take k):Nat)):=by
 obtain ⟨cs,hb,hc⟩:=h.roo
 rw [xC hb]; exact hc k hk
theorem SetAt.grown {w w':World} {v:Value} {P A g:Nat} {L:List Bool} (h:SetAt w v P A) (hb:BoolRow w g L) (hg:w.grownBy w' (some g)):SetAt w' v P A:=by
 obtain ⟨b,c,hv,hc⟩:=h.at_
 refine ⟨h.fits,b,c,hv,fun hp=>?_⟩
 refine hg.cell (hc hp) (fun e=>?_)
 simp only [Option.some.injEq] at e
 subst e
 have h1:=hc hp
 rw [xC hb] at h1
 simp at h1
def dnK (A:Nat→Bool) (o:Int) (ps:List Pt) (b k:Nat):Bool:=if o=2 then dnT A (ps.take k) b false else dnO A (ps.take k) b
theorem dnT_take (A:Nat→Bool) (ps:List Pt):∀ (b k:Nat) (d:Bool) (hk:k<ps.length),dnT A (ps.take (k+1)) b d=(ps[k].dn A (b+ylL (ps.take k)) || dnT A (ps.take k) b d && ps[k].nul):=by
 induction ps with
 | nil=>intro b k d hk; simp at hk
 | cons p ps ih =>
  intro b k d hk
  cases k with
  | zero=>simp [dnT,ylL]
  | succ k =>
   simp only [List.take_succ_cons,dnT,ylL,List.getElem_cons_succ]
   rw [ih _ k _ (by simpa using hk),Nat.add_assoc]
theorem dnO_take (A:Nat→Bool) (ps:List Pt):∀ (b k:Nat) (hk:k<ps.length),dnO A (ps.take (k+1)) b=(ps[k].dn A (b+ylL (ps.take k)) || dnO A (ps.take k) b):=by
 induction ps with
 | nil=>intro b k hk; simp at hk
 | cons p ps ih =>
  intro b k hk
  cases k with
  | zero=>simp [dnO,ylL]
  | succ k =>
   simp only [List.take_succ_cons,dnO,ylL,List.getElem_cons_succ]
   rw [ih _ k (by simpa using hk),Nat.add_assoc]
   cases p.dn A b<;>simp
theorem dnK_succ (A:Nat→Bool) (o:Int) (ps:List Pt) (b k:Nat) (hk:k<ps.length):dnK A o ps b (k+1)=(ps[k].dn A (b+ylL (ps.take k)) || dnK A o ps b k && (if o=2 then ps[k].nul else true)):=by
 unfold dnK
 split
 · exact dnT_take A ps b k false hk
 · rw [dnO_take A ps b k hk]; simp
theorem dnK_all (A:Nat→Bool) (o l h:Int) (ps:List Pt) (b:Nat) (ho:o≠1):dnK A o ps b ps.length=(Pt.mk o l h ps).dn A b:=by
 unfold dnK
 rw [List.take_length]
 simp only [Pt.dn,if_neg ho]
theorem dnK_zero (A:Nat→Bool) (o:Int) (ps:List Pt) (b:Nat):dnK A o ps b 0=false:=by unfold dnK; split<;>simp [dnT,dnO]
theorem grow_cell {w:World} {g:Nat} (k:Nat) (u:Value):w.grownBy (w.setCell ⟨g,k,none⟩ u) (some g) :=
 ⟨rfl,rfl,rfl,by simp [World.setCell],fun i hi hne=>Below.heap_setCell _ _ _ _ (fun e=>hne (by rw [e]))⟩
def DoneRel (w:World) (gd:Nat) (D R:List Bool) (j:Nat) (wr:World):Prop:=j≤R.length∧BoolRow wr gd (D.take j++R.drop j)∧w.grownBy wr (some gd)
theorem DoneRel.step {w wr:World} {gd:Nat} {D R:List Bool} {j:Nat} (h:DoneRel w gd D R (j+1) wr) (hl:D.length=R.length) {x:Bool} (hx:R[j]? = some x) (o:Obj):DoneRel w gd D R j ((wr.alloc o).setCell ⟨gd,j,none⟩ (.bool x)):=by
 obtain ⟨hj,hb,hg⟩:=h
 have hb2:BoolRow (wr.alloc o) gd (D.take (j+1)++R.drop (j+1)):=(Below.heap_alloc wr o gd (xL hb)).trans hb
 refine ⟨by omega,?_,xT (xT hg (xG _ _ _)) (grow_cell _ _)⟩
 have h3:=hb2.set j x
 have e:(D.take (j+1)++R.drop (j+1)).set j x=D.take j++R.drop j:=by
  have hjd:j<D.length:=by omega
  rw [List.set_append_left _ _ (by rw [List.length_take]; omega),List.take_succ_eq_append_getElem hjd,List.set_append_right _ _ (by rw [List.length_take]; omega)]
  have hjr:j<R.length:=by omega
  rw [List.getElem?_eq_getElem hjr] at hx
  simp only [Option.some.injEq] at hx
  rw [List.drop_eq_getElem_cons hjr,hx,List.length_take,show j-min j D.length=0 by omega]
  simp
 rw [e] at h3
 exact h3
set_option maxHeartbeats 8000000 in
theorem findDone_any (bm gn gr gd gb:Nat) (ps:List Pt) (C:Array Value) (D:List Bool) (v:Value) (A:Nat) (w:World) (hP:ylL ps≤64) (hN:sizes ps≤100000) (hr:∀ p∈ps,Right p) (hM:Mac w bm gn gr gd gb ps C) (hD:BoolRow w gd D) (hDl:D.length=sizes ps) (hS:SetAt w v (ylL ps) A) :
 Calls Tryz.prog 93 #[.pointer (some ⟨bm,0,none⟩),v] w fun e w'=>e=.returned (.tuple #[])∧BoolRow w' gd (dnsL (A.testBit ·) ps 0)∧w.grownBy w' (some gd):=by
 obtain ⟨⟨cn,c0⟩,_,_,c6,_⟩:=hM.cells
 obtain ⟨Rw,hRw⟩:∃ R,R=dnsL (A.testBit ·) ps 0:=⟨_,rfl⟩
 have hRl:Rw.length=sizes ps:=by rw [hRw]; exact dnsL_len _ _ _
 have HR:=hid hRw
 have HRl:=hid hRl
 have HDl:=hid hDl
 rw [← hRw]
 clear hRw hRl hDl
 have HSz:=hid (show True from trivial)
 go_enter Tryz.func93,Tryz.ntmps93
 go_wp2_with fail
 go_loopw [4] (fun i wr=>∃ j:Nat,j≤sizes ps∧i=.int .i64 ((j:Int)-1)∧DoneRel w gd D Rw j wr) (fun i _=>(intOf i+1).toNat)
 case atStart=>exact ⟨sizes ps,Nat.le_refl _,rfl,by rw [HRl.out]; exact Nat.le_refl _,by rw [List.take_of_length_le (by rw [HDl.out]; exact Nat.le_refl _),List.drop_of_length_le (by rw [HRl.out]; exact Nat.le_refl _)]; simpa using hD,⟨rfl,rfl,rfl,Nat.le_refl _,fun _ _ _=>rfl⟩⟩
 case round =>
  obtain ⟨j,hj,rfl,hRel⟩:=hrel
  by_cases hz:j=0
  · subst hz
    have HF:=hid hRel
    clear hRel
    go_wp2_with fail
    go_end0
    obtain ⟨_,hb,hg⟩:=HF.out
    exact ⟨rfl,by simpa using hb,hg⟩
  · obtain ⟨i,rfl⟩:∃ i,j=i+1:=⟨j-1,by omega⟩
    obtain ⟨⟨q,b,NA⟩,_⟩:=node_at (A.testBit ·) (sizes ps) ps 0 0 i (Nat.le_refl _) hr (by omega)
    have Mr:=hM.grown hD hRel.2.2
    have Sr:=hS.grown hD hRel.2.2
    have Br:=hRel.2.1
    obtain ⟨⟨cn2,d0⟩,_,_,d6,_⟩:=Mr.cells
    obtain ⟨n0,n1,n2,n3⟩:=Mr.node NA.node
    obtain ⟨o,l,h,qs⟩:=q
    have hsz:=NA.size
    have hbh:=NA.hi
    have hrow:∀ k x,i+1≤k→Rw[k]? = some x→(D.take (i+1)++Rw.drop (i+1))[k]? = some x:=by
     intro k x hk hx
     have hkl:k<Rw.length:=by
      rcases Nat.lt_or_ge k Rw.length with h | h
      · exact h
      · rw [List.getElem?_eq_none h] at hx; cases hx
     rw [List.getElem?_append_right (by rw [List.length_take]; omega),List.length_take,HDl.out,List.getElem?_drop]
     rw [show i+1+(k-min (i+1) (sizes ps))=k by omega]
     exact hx
    have HRw:=hid hrow
    have HNA:=hid NA
    have HRel:=hid hRel
    have HSr:=hid Sr
    have HMr:=hid Mr
    have HBr:=hid Br
    simp only [Pt.size,Pt.op] at n0 n1 n2 n3 hsz
    have hszq:=len_sizes qs
    clear hrow NA hRel Sr Mr Br
    have ca0:∀ ob,(wr.alloc ob).cell? ⟨bm,0,none⟩=_:=fun ob=>ycg d0 (xG wr ob none)
    have ca6:∀ ob,(wr.alloc ob).cell? ⟨bm,261,none⟩=_:=fun ob=>ycg d6 (xG wr ob none)
    have fa:∀ ob,(wr.alloc ob).frozen? ⟨gd,i,none⟩=false:=fun ob=>BoolRow.free (g:=gd) ((Below.heap_alloc wr ob gd (xL HBr.out)).trans HBr.out) i
    have hold:∃ y,(D.take (i+1)++Rw.drop (i+1))[i]? = some y:=⟨_,List.getElem?_eq_getElem (by rw [List.length_append,List.length_take,List.length_drop,HDl.out,HRl.out]; omega)⟩
    obtain ⟨y,hy⟩:=hold
    have cy:∀ ob,(wr.alloc ob).cell? ⟨gd,i,none⟩=some (.bool y):=fun ob=>ycg (BoolRow.cell HBr.out hy) (xG wr ob none)
    clear hy
    by_cases o1:o=1
    · subst o1
      obtain rfl:qs=[]:=by
       have hR:=HNA.out.right
       cases hR with
       | mk _ _ _ _ _ hf _ _=>exact List.eq_nil_of_length_eq_zero (by simpa [formB] using hf)
      have HX:=hid (show Rw[i]? = some (A.testBit b) by
       have:=HNA.out.done
       rw [HR.out]
       simpa [Pt.dn] using this)
      simp only [Pt.leaves,sizes] at hbh n1 hsz
      go_wp2_with (go_at_call 112; refine (has_any v (ylL ps) A b _ hP (by simp at hbh; omega) (HSr.out.grow (xG _ _ _))).mono ?_; rintro e w' ⟨rfl,rfl⟩)
      refine wp_loop_rounds 1 ?_
      rw [rounds_succ]
      go_wp2_with fail
      go_roundw
      case rel=>exact ⟨i,by omega,rfl,DoneRel.step HRel.out (by rw [HDl.out,HRl.out]) HX.out _⟩
      case measure=>simp [intOf]
    · have HX:=hid (show Rw[i]? = some (dnK (A.testBit ·) o qs b qs.length) by
       have:=HNA.out.done
       rw [dnK_all _ _ _ _ _ _ o1,HR.out]
       exact this)
      have ob:(o == 1)=false:=by simp [o1]
      obtain ⟨E,hE⟩:∃ E,E=0+i+(1+sizes qs):=⟨_,rfl⟩
      rw [← hE] at n1
      have HE:=hid hE
      clear o1 hE
      go_wp2_with fail
      go_loop [6,7] (fun dv ag=>∃ k a:Nat,k≤qs.length∧Hid (a=i+1+sizes (qs.take k))∧ag=.int .i64 a∧dv=.bool (dnK (A.testBit ·) o qs b k)∧a≤100000) (fun _ ag=>E-(intOf ag).toNat)
      case atStart=>exact ⟨0,i+1,Nat.zero_le _,hid (by simp [sizes]),by go_num,by rw [dnK_zero],by omega⟩
      case round =>
       obtain ⟨k,a,hk,Ha,rfl,rfl,hab⟩:=hrel
       by_cases hlt:k<qs.length
       · have hk1:=HNA.out.kid k hlt
         have hk2:=HNA.out.kidDone k hlt
         have hst:=sizes_take qs k hlt
         have hst2:=sizes_take_le qs (k+1)
         have hsp:=size_pos qs[k]
         have hsu:=hid (dnK_succ (A.testBit ·) o qs b k hlt)
         simp only [Pt.args] at hk1 hk2
         rw [← Ha.out] at hk1 hk2
         obtain ⟨m0,m1,m2,m3⟩:=HMr.out.node hk1
         have cdn:=BoolRow.cell HBr.out (HRw.out a _ (by have:=Ha.out; omega) (by rw [HR.out]; exact hk2))
         simp only at m0 m1 m2 m3
         obtain ⟨a2,ha2⟩:∃ a2,a2=0+a+qs[k].size:=⟨_,rfl⟩
         have ham:0+(i+1+sizes (qs.take k))+qs[k].size=a2:=by rw [ha2,Ha.out]
         have Ha2:=hid (show a2=i+1+sizes (qs.take (k+1)) by have:=Ha.out; omega)
         have hlt2:a<E:=by have:=Ha.out; have:=HE.out; omega
         have hlt3:a<a2:=by omega
         have hlt4:a2≤E:=by have:=Ha2.out; have:=HE.out; omega
         have hlt5:a<sizes ps:=by have:=Ha.out; omega
         rw [← ha2] at m1
         have cm1:∀ ob,(wr.alloc ob).cell? ⟨gn,a*4+1,none⟩=some (.int .i64 (a2:Nat)):=fun ob=>ycg m1 (xG wr ob none)
         have cm2:∀ ob,(wr.alloc ob).cell? ⟨gn,a*4+2,none⟩=_:=fun ob=>ycg m2 (xG wr ob none)
         have cdd:∀ ob,(wr.alloc ob).cell? ⟨gd,a,none⟩=_:=fun ob=>ycg cdn (xG wr ob none)
         clear m0 m1 m2 m3 cdn hst hst2 hsp hk1 hk2 ham ha2 d0 d6 n0 n1 n2 n3 cy fa
         generalize Pt.dn (fun x=>A.testBit x) qs[k] (b+ylL (List.take k qs))=x at cdd hsu
         generalize qs[k].nul=y at cm2 hsu
         generalize dnK (fun x=>A.testBit x) o qs b k=d at hsu ⊢
         have ha2b:a2≤100000:=by have:=HE.out; omega
         by_cases o2:o=2
         · have ob2:(o != 2)=false:=by simp [o2]
           have hs2:=hsu.out
           rw [if_pos o2] at hs2
           have hs3:=hid hs2
           clear hs2 hsu o2
           cases x<;>cases d<;>cases y
           all_goals
            go_wp2_with fail
            go_round
            case rel=>exact ⟨k+1,a2,by omega,Ha2,rfl,by rw [hs3.out]; rfl,ha2b⟩
            case measure=>simp [intOf]; omega
         · have ob2:(o != 2)=true:=by simp [o2]
           have hs2:=hsu.out
           rw [if_neg o2] at hs2
           have hs3:=hid hs2
           clear hs2 hsu o2 y cm2
           cases x<;>cases d
           all_goals
            go_wp2_with fail
            go_round
            case rel=>exact ⟨k+1,a2,by omega,Ha2,rfl,by rw [hs3.out]; rfl,ha2b⟩
            case measure=>simp [intOf]; omega
       · obtain rfl:k=qs.length:=by omega
         have HaE:=hid (show a=E by have:=Ha.out; have:=HE.out; rw [List.take_length] at *; omega)
         have hge:¬ a<E:=by have:=HaE.out; omega
         go_wp2_with fail
         go_roundw
         case rel=>exact ⟨i,by omega,rfl,DoneRel.step HRel.out (by rw [HDl.out,HRl.out]) HX.out _⟩
         case measure=>simp [intOf]
end Go.Proofs.YtplbacfjmajeeaaGreatDoor
