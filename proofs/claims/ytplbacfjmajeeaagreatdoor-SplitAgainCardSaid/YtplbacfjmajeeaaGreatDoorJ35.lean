import Derived.Test.YtplbacfjmajeeaaGreatDoorJ34
namespace Go.Proofs.YtplbacfjmajeeaaGreatDoor
open Go.RowKit Go.Region
theorem info66:(Tryz.prog.info? 66 ).map (fun i=>(i.zero,i.size,i.bytes))=some (some (.agg #[.string ⟨#[]⟩,.string ⟨#[]⟩,.string ⟨#[]⟩]),3,48):=by kernel_rfl
section
variable {w:World} {ρ:Operand→Value} {d:Option Tmp} {ty:TypeId} {pos:String} {af:Array Edge}
theorem run_field107 (p:Operand) (X:Nat) (hp:ρ p=.pointer (some ⟨X,0,none⟩)):(execOp ρ ⟨d,.fieldAddr 107 p 2,ty,pos,af,none⟩).run Tryz.prog w=.ok (.value (.pointer (some ⟨X,2,none⟩))) w:=by
 simp only [execOp]; rw [hp]; go_simp
theorem run_field43 (p:Operand) (X k:Nat) (hk:k=1∨k=2) (hp:ρ p=.pointer (some ⟨X,0,none⟩)):(execOp ρ ⟨d,.fieldAddr 43 p k,ty,pos,af,none⟩).run Tryz.prog w=.ok (.value (.pointer (some ⟨X,k,none⟩))) w:=by
 rcases hk with rfl | rfl<;>(simp only [execOp]; rw [hp]; go_simp)
theorem run_load49 (p:Operand) (ad:Addr) (v:Value) (hp:ρ p=.pointer (some ad)) (hc:w.cell? ad=some v) :
 (execOp ρ ⟨d,.load 49 p,ty,pos,af,none⟩).run Tryz.prog w=.ok (.value v) w:=by
 simp only [execOp]; rw [hp]; go_simp
theorem run_build66 (p q r:Operand) (x y z:ByteArray) (hp:ρ p=.string x) (hq:ρ q=.string y) (hr:ρ r=.string z):(execOp ρ ⟨d,.build 66 #[(0,p),(1,q),(2,r)],ty,pos,af,none⟩).run Tryz.prog w=.ok (.value (.agg #[.string x,.string y,.string z])) w:=by
 simp only [execOp,List.map_toArray,List.map_cons,List.map_nil]; rw [hp,hq,hr]; go_simp
theorem run_list66 (p:Operand) (a b c:Value) (hp:ρ p=.agg #[a,b,c]) :
 (execOp ρ ⟨d,.buildSlice 49 1 #[(0,p)],ty,pos,af,none⟩).run Tryz.prog w=.ok (.value (.slice (some ⟨w.heap.size,0,none⟩) 1 1)) (w.alloc (.cells #[a,b,c] 66)):=by
 simp only [execOp]; go_simp
theorem run_store49 (p q:Operand) (ad:Addr) (x:Option Addr) (n c:Nat) (v:Value) (hp:ρ p=.pointer (some ad)) (hq:ρ q=.slice x n c) (hv:w.cell? ad=some v) (hf:w.frozen? ad=false) :
 (execOp ρ ⟨d,.store 49 p q,ty,pos,af,none⟩).run Tryz.prog w=.ok .skip (w.setCell ad (.slice x n c)):=by
 simp only [execOp]; rw [hp,hq]; go_simp
end
theorem wpOp_app {w:World} {ops:Array Oper} {Q:Exit→Act→World→Prop} {a:Act} {K:Act→World→Prop} {i:Nat} {dd:Option Tmp} {ty:TypeId} {pos:String} {af:Array Edge} {s y:Operand} (t:TypeId)
 (hi0:ops[i]? = some ⟨dd,.call { callee:=.builtin .append,args:=#[s,y],argTypes:=#[t,t] },ty,pos,af,none⟩)
 (base:Nat) (e:TypeId) (info:TypeInfo) (z:Value) (size bytes:Nat) (ht:Tryz.prog.underlying t=some (.slice e)) (hi:Tryz.prog.info? e=some info) (hz:info.zero=some z)
 (hsize:info.size=size) (hby:info.bytes=bytes) (hzs:z.cells.size=size) (hsz:0<size)
 (v:Value) (n:Nat) (xs:List Value) (hs:a.eval s=v) (hown:w.ownsRow base e size v n xs)
 (ad:Addr) (m c:Nat) (news:List Value) (hx:a.eval y=.slice (some ad) m c) (hl:news.length=m*size) (hnews:∀ j u,news[j]? = some u→w.cell? (ad.add j)=some u) (h1:∀ u∈news,u.oneCell'=true)
 (hm:0<m) (h63:n+m≤maxLen) (hbytes:(n+m)*bytes≤140737488355328) (hbase:base≤w.heap.size) (Hs:Nat) (hH:w.heap.size=Hs)
 (h:∀ g cap w',w'.ownsRow base e size (.slice (some ⟨g,0,none⟩) (n+m) cap) (n+m) (xs++news)→w.grownBy w' v.ownBlock→(v.ownBlock=some g∨g=Hs)→g<w'.heap.size→K (a.put dd (.slice (some ⟨g,0,none⟩) (n+m) cap)) w'):wpOp Tryz.prog ops Q i K a w:=by
 obtain ⟨g,cap,w',hr,h2,h3,h4,h5⟩:=run_append_lies (P:=Tryz.prog) w t ty base e info z size bytes ht hi hz hsize hby hzs hsz v n xs hown ad m c news hl hnews h1 hm h63 hbytes hbase Hs hH
 refine wpOp_ran hi0 rfl ?_ (h g cap w' h2 h3 h4 h5)
 unfold execOp
 simp only [resolve,invoke,builtin,Sem.run_bind,Sem.run_pure,Result.andThen_ok,List.map_toArray,List.map_cons,List.map_nil,hs,hx,hr]
def T21 (i:Nat):Bool:=i == 21
def S2at (C:Nat) (tv:Value) (W:World):Prop:=W.cell? ⟨C,2,none⟩=some tv
structure SpS (w W:World) (C pg pc:Nat) (tv:Value) (k:Nat) (cs:List Value):Prop where
 res:W.heap[w.heap.size]? = some (.cells #[.string ⟨#[]⟩,.slice none 0 0,.slice none 0 0,.string ⟨#[]⟩] 107 (0,0))
 cut:W.heap[C]? = some (.cells #[.string ⟨#[97,97]⟩,.slice (some ⟨pg,0,none⟩) 2 pc,tv,.string ⟨#[]⟩] 107 (0,0))
 pcs:∀ j u,([.int .i64 0,.int .i64 0,.int .i64 1,.int .i64 1,.int .i64 0,.int .i64 1,.int .i64 1,.int .i64 1]:List Value)[j]? = some u→W.cell? ⟨pg,j,none⟩=some u
 tok:W.ownsRow (C+1) 66 3 tv k cs
 gr:w.grownBy W none
 lo:w.heap.size<C
 plo:pg<C
theorem SpS.grow {w W W':World} {C pg pc:Nat} {tv:Value} {k:Nat} {cs:List Value} (h:SpS w W C pg pc tv k cs) (g:W.grownBy W' none):SpS w W' C pg pc tv k cs :=
 ⟨grow_new g h.res,grow_new g h.cut,fun j u hu=>ycg (h.pcs j u hu) g,ownsRow_frm (Frm.of_grown g (fun _ _=>True)) h.tok (fun _ _ _ _=>trivial),xT h.gr g,h.lo,h.plo⟩
theorem SpS.app {w W W':World} {C pg pc:Nat} {tv tv':Value} {k k':Nat} {cs cs':List Value} (h:SpS w W C pg pc tv k cs) (g:W.grownBy W' tv.ownBlock) (ho:W'.ownsRow (C+1) 66 3 tv' k' cs'):SpS w (W'.setCell ⟨C,2,none⟩ tv') C pg pc tv' k' cs':=by
 have hlo:=h.lo
 have hpl:=h.plo
 have hrow:∀ r,tv.ownBlock=some r→C+1≤r:=fun r hr=>(yob h.tok r hr).1
 have hk:∀ {c:Nat} {o:Obj},W.heap[c]? = some o→c≤C→W'.heap[c]? = some o:=fun hc hl=>by
  rw [g.block _ (xL hc) (fun e=>by have:=hrow _ e.symm; omega)]; exact hc
 have hcut:=yhs (hk h.cut (Nat.le_refl _)) 2 tv'
 simp only [xSi,xSs,xSz] at hcut
 refine ⟨?_,hcut,fun j u hu=>?_,own_setN ho _ _ (by simp),?_,h.lo,h.plo⟩
 · rw [Below.heap_setCell _ _ _ _ (by simp; omega)]; exact hk h.res (by omega)
 · have hc:=g.cell (h.pcs j u hu) (fun e=>by have:=hrow _ e.symm; simp at this; omega)
   rw [← hc]
   exact World.cell?_of_block (w:=W') (Below.heap_setCell _ _ _ _ (by simp; omega))
 · exact ygs (grow_row h.gr g (fun r hr=>by have:=hrow r hr; omega)) _ _ (by simp; omega)
theorem SpS.arm {w wa W w3:World} {C pg pc f:Nat} {tv tv':Value} {k k':Nat} {cs cs':List Value} {F:Array Value} (h:SpS w wa C pg pc tv k cs) (hF:wa.heap[f]? = some (.cells F 43 (0,0))) (hf:f≠C) (g0:wa.grownBy W none) (g:W.grownBy w3 tv.ownBlock) (ho:w3.ownsRow (C+1) 66 3 tv' k' cs') :
 w3.heap[C]? = some (.cells #[.string ⟨#[97,97]⟩,.slice (some ⟨pg,0,none⟩) 2 pc,tv,.string ⟨#[]⟩] 107 (0,0))∧SpS w (w3.setCell ⟨C,2,none⟩ tv') C pg pc tv' k' cs'∧(w3.setCell ⟨C,2,none⟩ tv').heap[f]? = some (.cells F 43 (0,0)):=by
 have h1:=h.grow g0
 refine ⟨own_keepN h1.tok g h1.cut (by omega),h1.app g ho,?_⟩
 rw [Below.heap_setCell _ _ _ _ hf]
 exact ygb h1.tok g (grow_new g0 hF) (by decide)
def tkCells:List (ByteArray × ByteArray × ByteArray)→List Value
 | []=>[]
 | x::r=>.string x.1::.string x.2.1::.string x.2.2::tkCells r
theorem tkCells_snoc (x:ByteArray × ByteArray × ByteArray):∀ l,tkCells (l++[x])=tkCells l++[.string x.1,.string x.2.1,.string x.2.2]
 | []=>rfl
 | y::l=>by simp only [List.cons_append,tkCells,tkCells_snoc x l]
def kindM (ms:List Mrk) (i:Nat):ByteArray:=(ms[i]?.map Mrk.kind).getD ⟨#[]⟩
def toksL (ms:List Mrk) (s:ByteArray):List (Nat × Nat × Nat × Nat)→Nat→List (ByteArray × ByteArray × ByteArray)→List (ByteArray × ByteArray × ByteArray) × Nat
 | [],en,acc=>(acc,en)
 | x::r,en,acc=>if (kindM ms x.1).toList.isEmpty=true then toksL ms s r en acc
  else toksL ms s r (x.2.1+x.2.2.1) (acc++[(kindM ms x.1,s.extract en x.2.1,s.extract x.2.1 (x.2.1+x.2.2.1))])
def PcOk (N sz:Nat):Nat→List (Nat × Nat × Nat × Nat)→Prop
 | a,[]=>a≤sz
 | a,x::r=>x.1<N∧x.2.1=a∧a+x.2.2.1≤sz∧PcOk N sz (a+x.2.2.1) r
theorem scanL_mk (ps:List Pt) (L:List En):∀ (cs:List UInt8) (now k m lg sg:Nat),(0<lg→m<ps.length)→0<(scanL ps L cs now k m lg sg).2.1→(scanL ps L cs now k m lg sg).1<ps.length
 | [],_,_,_,_,_,h,h2=>h h2
 | c::cs,now,k,m,lg,sg,h,h2=>by
  have hx:0<(if 0<(fitsAt ps L (nxS ps L now c.toNat)).length then k+1 else lg)→(if 0<(fitsAt ps L (nxS ps L now c.toNat)).length then (fitsAt ps L (nxS ps L now c.toNat)).getD 0 0 else m)<ps.length:=by
   intro h3
   split at h3<;>rename_i h4
   · rw [if_pos h4]; exact fits_head ps L _ h4
   · rw [if_neg h4]; exact h h3
  rw [scanL] at h2 ⊢
  split at h2<;>rename_i h5
  · rw [if_pos h5]; exact hx h2
  · rw [if_neg h5]; exact scanL_mk ps L cs _ _ _ _ _ hx h2
theorem pcsL_ok (ps:List Pt) (L:List En) (s:List UInt8):∀ (n a:Nat) (acc:List (Nat × Nat × Nat × Nat)),a≤s.length→(pcsL ps L s n a acc).2.2=0→∃ rest,(pcsL ps L s n a acc).1=acc++rest∧PcOk ps.length s.length a rest
 | 0,a,acc,ha,_=>⟨[],by simp [pcsL],ha⟩
 | n+1,a,acc,ha,h=>by
  rw [pcsL] at h ⊢
  split at h<;>rename_i h1
  · rw [if_pos h1]; exact ⟨[],by simp,ha⟩
  · rw [if_neg h1]
    split at h<;>rename_i h2
    · simp at h
    · rw [if_neg h2]
      have hle:=longL_le ps L s a
      have hmk:(longL ps L s a).1<ps.length:=scanL_mk ps L _ _ _ _ _ _ (fun h=>by omega) (Nat.pos_of_ne_zero h2)
      obtain ⟨rest,e1,e2⟩:=pcsL_ok ps L s n (a+(longL ps L s a).2.1) _ (by omega) h
      exact ⟨_::rest,by rw [e1,List.append_assoc]; rfl,hmk,rfl,by show a+(longL ps L s a).2.1≤_; omega,e2⟩
theorem piecesL_ok (ps:List Pt) (L:List En) (s:List UInt8) (h:(piecesL ps L s).2.2=0):PcOk ps.length s.length 0 (piecesL ps L s).1:=by
 unfold piecesL at h ⊢
 split at h<;>rename_i h1
 · simp at h
 · rw [if_neg h1]
   obtain ⟨rest,e1,e2⟩:=pcsL_ok ps L s _ 0 [] (Nat.zero_le _) h
   rw [e1]; exact e2
theorem pcCells_get:∀ (l:List (Nat × Nat × Nat × Nat)) (j:Nat) (h:j<l.length),(pcCells l)[j*4]? = some (.int .i64 (l[j].1:Nat))∧(pcCells l)[j*4+1]? = some (.int .i64 (l[j].2.1:Nat))∧(pcCells l)[j*4+2]? = some (.int .i64 (l[j].2.2.1:Nat))∧(pcCells l)[j*4+3]? = some (.int .i64 (l[j].2.2.2:Nat))
 | x::r,0,_=>⟨rfl,rfl,rfl,rfl⟩
 | x::r,j+1,h=>by
  have:=pcCells_get r j (by simpa using h)
  simpa [pcCells,Nat.succ_mul,Nat.add_right_comm _ 4] using this
section
variable {w:World} {ρ:Operand→Value} {d:Option Tmp} {ty:TypeId} {pos:String} {af:Array Edge}
theorem run_cutS (s:ByteArray) (p q r:Operand) (a b:Nat) (h1:a≤b) (h2:b≤s.size) (hp:ρ p=.string s) (hq:ρ q=.int .i64 a) (hr:ρ r=.int .i64 b) :
 (execOp ρ ⟨d,.slice 9 p (some q) (some r) none,ty,pos,af,none⟩).run Tryz.prog w=.ok (.value (.string (s.extract a b))) w:=by
 have e1:(0:Int)≤a:=by omega
 have e2:(a:Int)≤b:=by omega
 have e3:(b:Int)≤s.size:=by omega
 simp only [execOp,Option.map_some]
 rw [hp,hq,hr]
 go_simp
theorem run_addS (p q:Operand) (a l:Nat) (h:a+l≤1000000) (hp:ρ p=.int .i64 a) (hq:ρ q=.int .i64 l) :
 (execOp ρ ⟨d,.binOp .add 3 p q 3,ty,pos,af,none⟩).run Tryz.prog w=.ok (.value (.int .i64 ((a+l:Nat):Int))) w:=by
 have h1:IntKind.i64.wrap ((a:Int)+l)=((a+l:Nat):Int):=by rw [show (a:Int)+l=((a+l:Nat):Int) by omega]; exact xI _ (by omega)
 simp only [execOp]; rw [hp,hq]
 go_simp
end
def S1X (f a l:Nat) (W:World):Prop:=W.cell? ⟨f,1,none⟩=some (.int .i64 a)∧W.cell? ⟨f,2,none⟩=some (.int .i64 l)
structure SpX (w W:World) (C:Nat) (s:ByteArray) (pv:Value) (PL:List (Nat × Nat × Nat × Nat)) (tv:Value) (tk:List (ByteArray × ByteArray × ByteArray)):Prop where
 res:W.heap[w.heap.size]? = some (.cells #[.string ⟨#[]⟩,.slice none 0 0,.slice none 0 0,.string ⟨#[]⟩] 107 (0,0))
 cut:W.heap[C]? = some (.cells #[.string s,pv,tv,.string ⟨#[]⟩] 107 (0,0))
 pcs:W.ownsRow w.heap.size 43 4 pv PL.length (pcCells PL)
 tok:W.ownsRow (C+1) 66 3 tv tk.length (tkCells tk)
 gr:w.grownBy W none
 lo:w.heap.size<C
theorem SpX.grow {w W W':World} {C:Nat} {s:ByteArray} {pv tv:Value} {PL:List (Nat × Nat × Nat × Nat)} {tk:List (ByteArray × ByteArray × ByteArray)} (h:SpX w W C s pv PL tv tk) (g:W.grownBy W' none):SpX w W' C s pv PL tv tk :=
 ⟨grow_new g h.res,grow_new g h.cut,ownsRow_frm (Frm.of_grown g (fun _ _=>True)) h.pcs (fun _ _ _ _=>trivial),ownsRow_frm (Frm.of_grown g (fun _ _=>True)) h.tok (fun _ _ _ _=>trivial),xT h.gr g,h.lo⟩
theorem SpX.app {w W W':World} {C n:Nat} {s:ByteArray} {pv tv tv':Value} {PL:List (Nat × Nat × Nat × Nat)} {tk tk':List (ByteArray × ByteArray × ByteArray)} (h:SpX w W C s pv PL tv tk) (g:W.grownBy W' tv.ownBlock) (hn:n=tk'.length) (ho:W'.ownsRow (C+1) 66 3 tv' n (tkCells tk')):SpX w (W'.setCell ⟨C,2,none⟩ tv') C s pv PL tv' tk':=by
 subst hn
 have hlo:=h.lo
 have hrow:∀ r,tv.ownBlock=some r→C+1≤r:=fun r hr=>(yob h.tok r hr).1
 have hk:∀ {c:Nat} {o:Obj},W.heap[c]? = some o→c≤C→W'.heap[c]? = some o:=fun hc hl=>by
  rw [g.block _ (xL hc) (fun e=>by have:=hrow _ e.symm; omega)]; exact hc
 have hcutw:=hk h.cut (Nat.le_refl _)
 have hcut:=yhs hcutw 2 tv'
 simp only [xSi,xSs,xSz] at hcut
 refine ⟨?_,hcut,yoc (append_own (by decide) h.tok g h.pcs) hcutw (by decide) _ _,own_setN ho _ _ (by simp),?_,h.lo⟩
 · rw [Below.heap_setCell _ _ _ _ (by simp; omega)]; exact hk h.res (by omega)
 · exact ygs (grow_row h.gr g (fun r hr=>by have:=hrow r hr; omega)) _ _ (by simp; omega)
theorem SpX.arm {w wa W w3:World} {C f n:Nat} {s:ByteArray} {pv tv tv':Value} {PL:List (Nat × Nat × Nat × Nat)} {tk tk':List (ByteArray × ByteArray × ByteArray)} {F:Array Value} (h:SpX w wa C s pv PL tv tk) (hF:wa.heap[f]? = some (.cells F 43 (0,0))) (hf:f≠C) (g0:wa.grownBy W none) (g:W.grownBy w3 tv.ownBlock) (hn:n=tk'.length) (ho:w3.ownsRow (C+1) 66 3 tv' n (tkCells tk')) :
 w3.heap[C]? = some (.cells #[.string s,pv,tv,.string ⟨#[]⟩] 107 (0,0))∧SpX w (w3.setCell ⟨C,2,none⟩ tv') C s pv PL tv' tk'∧(w3.setCell ⟨C,2,none⟩ tv').heap[f]? = some (.cells F 43 (0,0)):=by
 have h1:=h.grow g0
 refine ⟨own_keepN h1.tok g h1.cut (by omega),h1.app g hn ho,?_⟩
 rw [Below.heap_setCell _ _ _ _ hf]
 exact ygb h1.tok g (grow_new g0 hF) (by decide)
end Go.Proofs.YtplbacfjmajeeaaGreatDoor
