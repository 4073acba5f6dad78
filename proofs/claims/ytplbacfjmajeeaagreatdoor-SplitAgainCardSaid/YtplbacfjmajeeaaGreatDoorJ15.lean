import Derived.Test.YtplbacfjmajeeaaGreatDoorJ14
namespace Go.Proofs.YtplbacfjmajeeaaGreatDoor
open Go.Lib (hid)
set_option maxHeartbeats 4000000
set_option maxRecDepth 100000
open Go.RowKit
attribute [local go_sem ↓] Go.wp_at_zero Go.wp_at_succ
structure MacF (w:World) (base bm gn gr gd gb:Nat) (ps:List Pt) (C:Array Value) (lv mv:Value) (gs:List Nat):Prop where
 mac:Mac w bm gn gr gd gb ps C
 csz:C.size=264
 dn:∃ D,BoolRow w gd D∧D.length=sizes ps
 bgn:∃ B,BoolRow w gb B∧B.length=sizes ps
 ne:gd≠gb
 c4:C[259]? = some lv
 c5:C[260]? = some mv
 cc:∀ b:Nat,b<256→C[3+b]? = some (.int .i64 (cls (bytesL ps) b:Nat))
 low:w.ownsRow base 5 1 lv (lows (bytesL ps) 256).length (byteCells ((lows (bytesL ps) 256).map UInt8.ofNat))
 mat:w.ownsRow base 141 1 mv gs.length (gs.map (setV (ylL ps)))
 glen:gs.length=(lows (bytesL ps) 256).length
 gbase:∀ g∈gs,base≤g
 sets:∀ (κ g:Nat),gs[κ]? = some g→OwnSet w g (ylL ps) (maskOf (matchL (bytesL ps) (bytesL ps).length κ))
 old:base≤bm∧base≤gn∧base≤gr∧base≤gd∧base≤gb
theorem bytesOk_of (n:Nat):∀ ps:List Pt,sizes ps≤n→(∀ p∈ps,Right p)→BytesOk (bytesL ps):=by
 induction n with
 | zero =>
  intro ps hn _ x hx
  cases ps with
  | nil=>cases hx
  | cons p ps=>have:=size_pos p; simp only [sizes] at hn; omega
 | succ n ih =>
  intro ps hn hr x hx
  cases ps with
  | nil=>cases hx
  | cons p ps =>
   have hrp:=hr p (by simp)
   obtain ⟨o,l,h,qs⟩:=p
   simp only [sizes,Pt.size] at hn
   simp only [bytesL,List.mem_append] at hx
   rcases hx with hx | hx
   · simp only [Pt.bytes] at hx
     split at hx
     · simp at hx
       subst hx
       cases hrp with | mk _ _ _ _ _ _ hb _=>exact ⟨hb.1,hb.2.2.1,hb.2.2.2⟩
     · exact ih qs (by omega) (right_args hrp).1 x hx
   · exact ih ps (by omega) (fun y hy=>hr y (by simp [hy])) x hx
theorem z136:Tryz.zeroCells136.size=264:=by kernel_rfl
theorem z136_2:Tryz.zeroCells136[0]? = some (.slice none 0 0)∧Tryz.zeroCells136[1]? = some (.slice none 0 0)∧Tryz.zeroCells136[2]? = some (.int .i64 0)∧Tryz.zeroCells136[259]? = some (.slice none 0 0)∧Tryz.zeroCells136[260]? = some (.slice none 0 0)∧Tryz.zeroCells136[261]? = some (.slice none 0 0)∧Tryz.zeroCells136[262]? = some (.slice none 0 0)∧Tryz.zeroCells136[263]? = some (.slice none 0 0):=by
 refine ⟨?_,?_,?_,?_,?_,?_,?_,?_⟩<;>kernel_rfl
theorem info4:(Tryz.prog.info? 4 ).map (fun i=>(i.zero,i.size,i.bytes))=some (some (.bool false),1,1):=by kernel_rfl
theorem mkBools (n:Nat) (hn:n≤1000000) (w:World):(Instr.makeSlice 95 (.int .i64 n) (.int .i64 n)).run Tryz.prog w=.ok (.slice (some ⟨w.heap.size,0,none⟩) n n) (w.alloc (.cells ((List.replicate n false).map Value.bool).toArray 4)):=by
 obtain ⟨i,hi,z0,z1,z2⟩:=info_parts info4
 have:=run_make (P:=Tryz.prog) w 95 4 i (.bool false) Tryz.underlying95 hi z0 .i64 .i64 n n (by omega) (Int.le_refl _) (by rw [z2]; omega) (by omega)
 rw [this]
 have e:madeCells (Value.bool false).cells (n*1)=((List.replicate n false).map Value.bool).toArray:=by
  apply Array.ext'
  have:=toList_madeCells_one (.bool false) n
  rw [Nat.mul_one]
  show (madeCells #[.bool false] n).toList=_
  rw [this]
  simp
 simp only [Int.toNat_natCast]
 rw [z1,e]
def rootCells (ps:List Pt) (j:Nat):List Value:=(List.range j).map fun k=>.int .i64 (sizes (ps.take k):Nat)
theorem rootCells_succ (ps:List Pt) (j:Nat):rootCells ps (j+1)=rootCells ps j++[.int .i64 (sizes (ps.take j):Nat)]:=by simp [rootCells,List.range_succ]
def NewRel (w:World) (ps:List Pt) (j:Nat) (bv:Value) (wr:World):Prop :=
 ∃ nv rv bsj,AddSt wr w.heap.size (Tryz.zeroCells136.setIfInBounds 1 rv) w.heap.size nv (nodesL (ps.take j) 0 0) bv bsj∧bsj.map (fun x=>(x.lo,x.hi))=bytesL (ps.take j)∧wr.ownsRow w.heap.size 3 1 rv j (rootCells ps j)∧w.grownBy wr none
theorem grow_undrew {w w':World} {r:Option Nat} (g:w.drew.grownBy w' r):w.grownBy w' r:=⟨g.os,g.tape,g.output,g.size,g.block⟩
theorem set_swap (Z:Array Value) (a b c:Value):((Z.setIfInBounds 1 a).setIfInBounds 0 b).setIfInBounds 1 c=(Z.setIfInBounds 1 c).setIfInBounds 0 b:=by
 apply Array.ext_getElem?
 intro i
 simp only [Array.getElem?_setIfInBounds,Array.size_setIfInBounds]
 by_cases h1:1=i
 · subst h1; simp
 · by_cases h0:0=i
   · subst h0; simp
   · simp [h1,h0]
theorem new_push {w w1 w3:World} {ps:List Pt} {j n gg cap1:Nat} {nv rv bv:Value} {ns:List Nd} {bsj:List Bp} {o bo:Obj} {bx:Nat} (S:AddSt w1 w.heap.size (Tryz.zeroCells136.setIfInBounds 1 rv) w.heap.size nv ns bv bsj) (R:w1.ownsRow w.heap.size 3 1 rv j (rootCells ps j)) (G:w.grownBy w1 none)
 (hns:ns.length=sizes (ps.take j)) (hn:n=j+1) (X:w1.heap[bx]? = some bo) (hbo:∃ c fr,bo=.cells c 28 fr)
 (own:w3.ownsRow w.heap.size 3 1 (.slice (some ⟨gg,0,none⟩) n cap1) n (rootCells ps j++[.int .i64 (ns.length:Nat)])) (hg:(w1.alloc o).grownBy w3 rv.ownBlock) :
 AddSt (w3.setCell ⟨w.heap.size,1,none⟩ (.slice (some ⟨gg,0,none⟩) n cap1)) w.heap.size (Tryz.zeroCells136.setIfInBounds 1 (.slice (some ⟨gg,0,none⟩) n cap1)) w.heap.size nv ns bv bsj
 ∧ (w3.setCell ⟨w.heap.size,1,none⟩ (.slice (some ⟨gg,0,none⟩) n cap1)).ownsRow w.heap.size 3 1 (.slice (some ⟨gg,0,none⟩) n cap1) (j+1) (rootCells ps (j+1))
 ∧ w.grownBy (w3.setCell ⟨w.heap.size,1,none⟩ (.slice (some ⟨gg,0,none⟩) n cap1)) none
 ∧ (w3.setCell ⟨w.heap.size,1,none⟩ (.slice (some ⟨gg,0,none⟩) n cap1)).heap[bx]? = some bo:=by
 subst hn
 have S1:=S.alloc o
 have R1:=R.alloc o
 have B3:=ygb R1 hg S1.mch (by decide)
 have e:=yhs B3 1 (.slice (some ⟨gg,0,none⟩) (j+1) cap1)
 have hbx:bx≠w.heap.size:=by
  obtain ⟨c,fr,hc⟩:=hbo
  rw [hc] at X
  exact blk_ne X S.mch (by decide)
 refine ⟨⟨?_,?_,?_⟩,?_,?_,?_⟩
 · rw [e,set_swap]
 · exact yoc (append_own (by decide) R1 hg S1.non) B3 (by decide) 1 _
 · exact yoc (append_own (by decide) R1 hg S1.byt) B3 (by decide) 1 _
 · rw [rootCells_succ,← hns]
   exact yoc own B3 (by decide) 1 _
 · exact ygs (grow_row (yga G o) hg (fun k hk=>(R1.lt k hk).1)) _ _ (Nat.le_refl _)
 · rw [Below.heap_setCell _ _ _ _ hbx]
   obtain ⟨c,fr,hc⟩:=hbo
   rw [hc] at X ⊢
   exact ygb R1 hg ((Below.heap_alloc w1 o bx (xL X)).trans X) (by decide)
theorem new_step {w w5 w6:World} {ps:List Pt} {j:Nat} {nv rv bv:Value} {bsj:List Bp} {e:Ending} (hlt:j<ps.length) (G:w.grownBy w5 none) (R:w5.ownsRow w.heap.size 3 1 rv (j+1) (rootCells ps (j+1)))
 (S:AddSt w5 w.heap.size (Tryz.zeroCells136.setIfInBounds 1 rv) w.heap.size nv (nodesL (ps.take j) 0 0) bv bsj) (hbj:bsj.map (fun x=>(x.lo,x.hi))=bytesL (ps.take j))
 (P:AddPost w5 w.heap.size (Tryz.zeroCells136.setIfInBounds 1 rv) w.heap.size nv (nodesL (ps.take j) 0 0) bv bsj ps[j] e w6):∃ bv',e=.returned bv'∧NewRel w ps (j+1) bv' w6:=by
 obtain ⟨nv',bv',bs2,rfl,S2,hb2,F,_,_⟩:=P
 refine ⟨bv',rfl,nv',rv,bsj++bs2,?_,?_,?_,?_⟩
 · rw [nodesL_take _ _ _ _ hlt]
   have h1:(nodesL (ps.take j) 0 0).length=sizes (ps.take j):=nodesL_len _ _ _
   have h2:bsj.length=ylL (ps.take j):=by
    have:=congrArg List.length hbj
    rw [ybl] at this
    simpa using this
   rw [h1,h2] at S2
   simpa using S2
 · rw [List.map_append,hbj,hb2,bytesL_take _ _ hlt]
 · refine ownsRow_frm F R (fun k c hk hc=>⟨blk_ne hc S.mch (by decide),fun h=>?_,fun h=>?_⟩)
   · obtain ⟨_,c2,h2⟩:=yob S.non k h
     exact absurd rfl (blk_ne hc h2 (by decide))
   · obtain ⟨_,c2,h2⟩:=yob S.byt k h
     exact absurd rfl (blk_ne hc h2 (by decide))
 · exact grow_frm G F (fun k o hk=>⟨by omega,fun h=>by have:=(S.non.lt _ h).1; omega,fun h=>by have:=(S.byt.lt _ h).1; omega⟩)
theorem bools_rep (n:Nat):Array.replicate n (Value.bool false)=((List.replicate n false).map Value.bool).toArray:=by
 apply Array.ext'
 simp
def newC (Z:Array Value) (ps:List Pt) (gn cn gr cr gd gb:Nat):Array Value :=
 ((((Z.setIfInBounds 1 (.slice (some ⟨gr,0,none⟩) ps.length cr)).setIfInBounds 0 (.slice (some ⟨gn,0,none⟩) (sizes ps) cn)).setIfInBounds 2 (.int .i64 (ylL ps:Nat))).setIfInBounds 261 (.slice (some ⟨gd,0,none⟩) (sizes ps) (sizes ps))).setIfInBounds 262 (.slice (some ⟨gb,0,none⟩) (sizes ps) (sizes ps))
theorem newC_size (ps:List Pt) (gn cn gr cr gd gb:Nat):(newC Tryz.zeroCells136 ps gn cn gr cr gd gb).size=264:=by simp [newC]
theorem newC_get (ps:List Pt) (gn cn gr cr gd gb i:Nat):(newC Tryz.zeroCells136 ps gn cn gr cr gd gb)[i]? = if i=262 then some (.slice (some ⟨gb,0,none⟩) (sizes ps) (sizes ps)) else if i=261 then some (.slice (some ⟨gd,0,none⟩) (sizes ps) (sizes ps)) else if i=2 then some (.int .i64 (ylL ps:Nat)) else if i=0 then some (.slice (some ⟨gn,0,none⟩) (sizes ps) cn) else if i=1 then some (.slice (some ⟨gr,0,none⟩) ps.length cr) else Tryz.zeroCells136[i]?:=by
 have hz:=z136
 unfold newC
 by_cases h1:i=262
 · subst h1; rw [if_pos rfl,set_get_self _ _ _ (by simp [hz])]
 rw [set_get_ne _ _ _ _ (by omega),if_neg h1]
 by_cases h2:i=261
 · subst h2; rw [if_pos rfl,set_get_self _ _ _ (by simp [hz])]
 rw [set_get_ne _ _ _ _ (by omega),if_neg h2]
 by_cases h3:i=2
 · subst h3; rw [if_pos rfl,set_get_self _ _ _ (by simp [hz])]
 rw [set_get_ne _ _ _ _ (by omega),if_neg h3]
 by_cases h4:i=0
 · subst h4; rw [if_pos rfl,set_get_self _ _ _ (by simp [hz])]
 rw [set_get_ne _ _ _ _ (by omega),if_neg h4]
 by_cases h5:i=1
 · subst h5; rw [if_pos rfl,set_get_self _ _ _ (by simp [hz])]
 rw [set_get_ne _ _ _ _ (by omega),if_neg h5]
structure NewW (w W:World) (ps:List Pt) (gn cn gr cr gd gb:Nat) (bv:Value) (bsj:List Bp):Prop where
 blk:W.heap[w.heap.size]? = some (.cells (newC Tryz.zeroCells136 ps gn cn gr cr gd gb) 136 (0,0))
 non:W.ownsRow w.heap.size 172 4 (.slice (some ⟨gn,0,none⟩) (sizes ps) cn) (sizes ps) (ndCells (nodesL ps 0 0))
 roo:W.ownsRow w.heap.size 3 1 (.slice (some ⟨gr,0,none⟩) ps.length cr) ps.length (rootCells ps ps.length)
 byt:W.ownsRow w.heap.size 28 4 bv bsj.length (bpCells bsj)
 dn:BoolRow W gd (List.replicate (sizes ps) false)
 bgn:BoolRow W gb (List.replicate (sizes ps) false)
 ne:gd≠gb
 old:w.heap.size≤gd∧w.heap.size≤gb
 grow:w.grownBy W none
theorem newW_of {w wr:World} {ps:List Pt} {gn cn gr cr:Nat} {bv:Value} {bsj:List Bp} (S:AddSt wr w.heap.size (Tryz.zeroCells136.setIfInBounds 1 (.slice (some ⟨gr,0,none⟩) ps.length cr)) w.heap.size (.slice (some ⟨gn,0,none⟩) (sizes ps) cn) (nodesL ps 0 0) bv bsj)
 (R:wr.ownsRow w.heap.size 3 1 (.slice (some ⟨gr,0,none⟩) ps.length cr) ps.length (rootCells ps ps.length)) (G:w.grownBy wr none) {x:Int} (hx:x=(ylL ps:Nat)) :
 NewW w (((((wr.setCell ⟨w.heap.size,2,none⟩ (.int .i64 x)).setCell ⟨w.heap.size,261,none⟩ (.slice (some ⟨wr.heap.size,0,none⟩) (sizes ps) (sizes ps))).setCell ⟨w.heap.size,262,none⟩ (.slice (some ⟨wr.heap.size+1,0,none⟩) (sizes ps) (sizes ps))).alloc (.cells (Array.replicate (sizes ps) (.bool false)) 4)).alloc (.cells (Array.replicate (sizes ps) (.bool false)) 4))
  ps gn cn gr cr wr.heap.size (wr.heap.size+1) bv bsj:=by
 subst hx
 have hl:w.heap.size<wr.heap.size:=xL S.mch
 have b1:=yhs S.mch 2 (.int .i64 (ylL ps:Nat))
 have b2:=yhs b1 261 (.slice (some ⟨wr.heap.size,0,none⟩) (sizes ps) (sizes ps))
 have b3:=yhs b2 262 (.slice (some ⟨wr.heap.size+1,0,none⟩) (sizes ps) (sizes ps))
 have hnl:(nodesL ps 0 0).length=sizes ps:=nodesL_len _ _ _
 have non:=S.non
 rw [hnl] at non
 have row:∀ {e:TypeId} {size n:Nat} {v:Value} {xs:List Value},e≠136→wr.ownsRow w.heap.size e size v n xs→(((((wr.setCell ⟨w.heap.size,2,none⟩ (.int .i64 (ylL ps:Nat))).setCell ⟨w.heap.size,261,none⟩ (.slice (some ⟨wr.heap.size,0,none⟩) (sizes ps) (sizes ps))).setCell ⟨w.heap.size,262,none⟩ (.slice (some ⟨wr.heap.size+1,0,none⟩) (sizes ps) (sizes ps))).alloc (.cells (Array.replicate (sizes ps) (.bool false)) 4)).alloc (.cells (Array.replicate (sizes ps) (.bool false)) 4)).ownsRow w.heap.size e size v n xs :=
  fun he h=>((yoc (yoc (yoc h S.mch (fun e=>he e.symm) 2 _) b1 (fun e=>he e.symm) 261 _) b2 (fun e=>he e.symm) 262 _).alloc _).alloc _
 refine ⟨?_,row (by decide) non,row (by decide) R,row (by decide) S.byt,?_,?_,by omega,by omega,?_⟩
 · rw [Below.heap_alloc _ _ _ (by simp [World.setCell]; omega),Below.heap_alloc _ _ _ (by simp [World.setCell]; omega),b3]
   rfl
 · unfold BoolRow
   rw [Below.heap_alloc _ _ _ (by simp [World.setCell]),yhn _ _ _ (by simp [World.setCell]),bools_rep]
 · unfold BoolRow
   rw [yhn _ _ _ (by simp [World.setCell]),bools_rep]
 · exact yga (yga (ygs (ygs (ygs G _ _ (Nat.le_refl _)) _ _ (Nat.le_refl _)) _ _ (Nat.le_refl _)) _) _
theorem new_done {w W w':World} {ps:List Pt} {gn cn gr cr gd gb:Nat} {bv:Value} {bsj:List Bp} {e:Ending} (H:NewW w W ps gn cn gr cr gd gb bv bsj) (hpos:0<sizes ps) (hps:0<ps.length) (P:ClsPost W w.heap.size (newC Tryz.zeroCells136 ps gn cn gr cr gd gb) (ylL ps) (bytesL ps) e w') :
 e=.returned (.tuple #[])∧(∃ gn gr gd gb C lv mv gs,MacF w' w.heap.size w.heap.size gn gr gd gb ps C lv mv gs∧C[263]? = some (.slice none 0 0))∧w.grownBy w' none:=by
 obtain ⟨rfl,⟨lv,mv,gs,S,glen⟩,F⟩:=P
 obtain ⟨C,hb,hs,h0,h4,h5,hc⟩:=S.blk
 have hsz:=H.grow.size
 obtain ⟨ng,nc2,hnv,hnb,hnc⟩:=yoe H.non hpos
 obtain ⟨rg,rc2,hrv,hrb,hrc⟩:=yoe H.roo hps
 simp only [Value.slice.injEq,Option.some.injEq,Addr.mk.injEq,and_true,true_and] at hnv hrv
 obtain ⟨rfl,rfl⟩:=hnv
 obtain ⟨rfl,rfl⟩:=hrv
 obtain ⟨_,cn1,hn1⟩:=yob H.non gn rfl
 obtain ⟨_,cr1,hr1⟩:=yob H.roo gr rfl
 have kn:=F.block gn (xL hn1) (blk_ne hn1 H.blk (by decide))
 have kr:=F.block gr (xL hr1) (blk_ne hr1 H.blk (by decide))
 have kd:=F.block gd (xL H.dn) (blk_ne H.dn H.blk (by decide))
 have kb:=F.block gb (xL H.bgn) (blk_ne H.bgn H.blk (by decide))
 have hl:∀ i:Nat,i<3∨261≤i→C[i]? = _:=fun i hi=>(h0 i hi).trans (newC_get ps gn cn gr cr gd gb i)
 refine ⟨rfl,⟨gn,gr,gd,gb,C,lv,mv,gs,⟨⟨hb,⟨cn,by rw [hl 0 (by omega)]; simp⟩,⟨cr,by rw [hl 1 (by omega)]; simp⟩,by rw [hl 2 (by omega)]; simp,by rw [hl 261 (by omega)]; simp,by rw [hl 262 (by omega)]; simp,⟨cn1,kn.trans hn1,fun j v hj=>?_⟩,⟨cr1,kr.trans hr1,fun k hk=>?_⟩⟩,hs,⟨_,kd.trans H.dn,by simp⟩,⟨_,kb.trans H.bgn,by simp⟩,H.ne,h4,h5,hc,ownsRow_base S.low hsz,ownsRow_base S.mat hsz,glen,fun g hg=>Nat.le_trans hsz (S.gbase g hg),S.sets,Nat.le_refl _,hnb,hrb,H.old.1,H.old.2⟩,by rw [hl 263 (by omega)]; simpa using z136_2.2.2.2.2.2.2.2⟩,?_⟩
 · have:=hnc j v hj
   rwa [xC hn1] at this
 · have:=hrc k (.int .i64 (sizes (ps.take k):Nat)) (by simp [rootCells,hk])
   rwa [xC hr1] at this
 · refine grow_frm H.grow F (fun k o hk=>?_)
   show k≠w.heap.size
   omega
set_option maxHeartbeats 8000000 in
theorem newMachine_any (ps:List Pt) (av:Option Addr) (cap:Nat) (w:World) (hN:sizes ps≤10000) (hP:ylL ps≤64) (hps:ps≠[]) (hr:∀ p∈ps,Right p) (ha:ps=[]∨∃ b off,av=some ⟨b,off,none⟩∧PtsAt w ps b off) :
 Calls Tryz.prog 39 #[.slice av ps.length cap] w fun e w'=>e=.returned (.pointer (some ⟨w.heap.size,0,none⟩))∧(∃ gn gr gd gb C lv mv gs,MacF w' w.heap.size w.heap.size gn gr gd gb ps C lv mv gs∧C[263]? = some (.slice none 0 0))∧w.grownBy w' none:=by
 obtain ⟨i3,hi3,a30,a31,a32⟩:=info_parts info3
 have hln:=len_sizes ps
 have HA:=hid ha
 have HR:=hid hr
 have HNE:=hid hps
 clear ha hr hps
 go_enter Tryz.func39,Tryz.ntmps39
 go_wp2_with fail
 go_loopw [4,11] (fun bv i wr=>∃ j:Nat,j≤ps.length∧i=.int .i64 j∧NewRel w ps j bv wr) (fun _ i _=>ps.length-(intOf i).toNat)
 case atStart =>
  refine ⟨0,Nat.zero_le _,rfl,.slice none 0 0,.slice none 0 0,[],⟨?_,World.ownsRow_nil _ _ _ _,World.ownsRow_nil _ _ _ _⟩,rfl,World.ownsRow_nil _ _ _ _,yga (grow_self w) _⟩
  rw [xN]
  have e1:Tryz.zeroCells136.setIfInBounds 1 (.slice none 0 0)=Tryz.zeroCells136:=by
   apply Array.ext_getElem?
   intro i
   by_cases hi:1=i
   · subst hi; rw [set_get_self _ _ _ (by rw [z136]; omega),z136_2.2.1]
   · rw [set_get_ne _ _ _ _ hi]
  have e2:Tryz.zeroCells136.setIfInBounds 0 (.slice none 0 0)=Tryz.zeroCells136:=by
   apply Array.ext_getElem?
   intro i
   by_cases hi:0=i
   · subst hi; rw [set_get_self _ _ _ (by rw [z136]; omega),z136_2.1]
   · rw [set_get_ne _ _ _ _ hi]
  rw [e1,e2]
 case round =>
  obtain ⟨j,hj,rfl,nv,rv,bsj,hSt,hbj,hrv,hg⟩:=hrel
  by_cases hlt:j<ps.length
  · obtain ⟨b,off,xo,xl,xh,xa,xn,xc,rfl,h0,h1,h2,h3,hq⟩:=PtAt.elem HA.out j hlt
    replace h0:=ycg h0 hg
    replace h1:=ycg h1 hg
    replace h2:=ycg h2 hg
    replace h3:=ycg h3 hg
    obtain ⟨na,nc,rfl⟩:=yos hSt.non
    obtain ⟨ra,rc,rfl⟩:=yos hrv
    have hls:(nodesL (ps.take j) 0 0).length=sizes (ps.take j):=nodesL_len _ _ _
    have ht:=sizes_take ps j hlt
    have htl:=sizes_take_le ps (j+1)
    have cm0:∀ o,(wr.alloc o).cell? ⟨w.heap.size,0,none⟩=some (.slice na (nodesL (ps.take j) 0 0).length nc):=fun o=>ycg (hSt.cm (by simp [])) (xG wr o none)
    have cm1':wr.cell? ⟨w.heap.size,1,none⟩=some (.slice ra j rc):=by
     rw [xC hSt.mch,set_get_ne _ _ _ _ (by omega),set_get_self _ _ _ (by rw [z136]; omega)]
    have cm1:∀ o,(wr.alloc o).cell? ⟨w.heap.size,1,none⟩=some (.slice ra j rc):=fun o=>ycg cm1' (xG wr o none)
    have HS:=hid hSt
    have HRV:=hid hrv
    have HBJ:=hid hbj
    have HG:=hid hg
    have HLS:=hid hls
    clear hSt hrv hbj hg cm1' hls
    go_wp2_with fail
    have S1:=HS.out.alloc (.cells #[.int .i64 xo,.int .i64 xl,.int .i64 xh,.slice xa xn xc] 28)
    have R1:=HRV.out.alloc (.cells #[.int .i64 xo,.int .i64 xl,.int .i64 xh,.slice xa xn xc] 28)
    have G1:=yga HG.out (.cells #[.int .i64 xo,.int .i64 xl,.int .i64 xh,.slice xa xn xc] 28)
    have BX:=xN wr (.cells #[.int .i64 xo,.int .i64 xl,.int .i64 xh,.slice xa xn xc] 28)
    have d0:=cm0 (.cells #[.int .i64 xo,.int .i64 xl,.int .i64 xh,.slice xa xn xc] 28)
    have d1:=cm1 (.cells #[.int .i64 xo,.int .i64 xl,.int .i64 xh,.slice xa xn xc] 28)
    have hsz1:(wr.alloc (.cells #[.int .i64 xo,.int .i64 xl,.int .i64 xh,.slice xa xn xc] 28)).heap.size=wr.heap.size+1:=by simp
    clear cm0 cm1
    generalize wr.alloc (.cells #[.int .i64 xo,.int .i64 xl,.int .i64 xh,.slice xa xn xc] 28)=w1 at S1 R1 G1 BX d0 d1 hsz1 ⊢
    have e0:∀ o,(w1.alloc o).cell? ⟨w.heap.size,0,none⟩=_:=fun o=>ycg d0 (xG w1 o none)
    have e1:∀ o,(w1.alloc o).cell? ⟨w.heap.size,1,none⟩=_:=fun o=>ycg d1 (xG w1 o none)
    have HS1:=hid S1
    have HR1:=hid R1
    have HG1:=hid G1
    have HBX:=hid BX
    have HZ1:=hid hsz1
    have hw1:w.heap.size<w1.heap.size:=xL S1.mch
    have hnl:(nodesL (ps.take j) 0 0).length≤10000:=by rw [HLS.out]; have:=sizes_take_le ps j; omega
    clear S1 R1 G1 BX hsz1
    go_region_law (refine step_append_lies _ (by rfl) (.tmp 19) (.tmp 25) 22 (by rfl) w.heap.size 3 i3 (.int .i64 0) 1 8 Tryz.underlying22 hi3 a30 a31 a32 rfl (by omega) _ j (rootCells ps j) (by rfl) ((HR1.out.alloc _).drew) ⟨w1.heap.size,0,none⟩ 1 1 [.int .i64 ((nodesL (ps.take j) 0 0).length:Nat)] (by rfl) (by rfl) (World.news_of_block (cs:=#[.int .i64 ((nodesL (ps.take j) 0 0).length:Nat)]) (t:=3) (fr:=(0,0)) (xN w1 _)) (by simp [Value.oneCell']) (by omega) (by unfold maxLen; omega) (by omega) (by simp; omega) (w1.heap.size+1) (by simp) ?_; intro gg cap1 w3 hown1 hgrow hat hlt1; have BM3:=ygb (HR1.out.alloc _).drew hgrow ((Below.heap_alloc w1 _ _ (xL HS1.out.mch)).trans HS1.out.mch) (by decide); have fm3:=yfb BM3 1; have cm3:=(xC BM3 1).trans ((set_get_ne _ _ _ _ (by omega)).trans (set_get_self _ _ _ (by rw [z136]; omega))); have HB3:=hid BM3; clear BM3)
    all_goals
     obtain ⟨S5,R5,G5,X5⟩:=new_push HS1.out HR1.out HG1.out HLS.out rfl HBX.out ⟨_,_,rfl⟩ hown1 (grow_undrew hgrow)
     clear hown1 hgrow HB3 fm3 cm3 hat hlt1
     generalize w3.setCell ⟨w.heap.size,1,none⟩ (.slice (some ⟨gg,0,none⟩) (j+1) cap1)=w5 at S5 R5 G5 X5 ⊢
     obtain ⟨x0,x1,x2,x3⟩:=cb4 X5
     have hbl:bsj.length=ylL (ps.take j):=by
      have:=congrArg List.length HBJ.out
      rw [ybl] at this
      simpa using this
     have hlv:=leaves_le_sizes (ps.take j)
     have HADD:=hid (madd_any w w.heap.size (Tryz.zeroCells136.setIfInBounds 1 (.slice (some ⟨gg,0,none⟩) (j+1) cap1)) (by simp []) w.heap.size ps[j] _ _ _ _ _ w5 (HR.out _ (List.getElem_mem hlt)) hq G5 (Nat.le_refl _) (Nat.le_refl _) G5.size (by rw [HLS.out]; omega) (by omega) S5)
     have HS5:=hid S5
     have HR5:=hid R5
     have HG5:=hid G5
     clear S5 R5 G5 X5 hbl
     go_wp2_with fail
     refine HADD.out.mono ?_
     intro e w6 hp
     obtain ⟨bv',rfl,hnr⟩:=new_step hlt HG5.out HR5.out HS5.out HBJ.out hp
     have HNR:=hid hnr
     clear hnr hp HADD
     go_wp2_with fail
     go_roundw
     case rel=>exact ⟨j+1,by omega,by go_num,HNR.out⟩
     case measure=>simp [intOf]; omega
  · obtain rfl:j=ps.length:=by omega
    have et:ps.take ps.length=ps:=List.take_length
    rw [et] at hSt hbj
    have hnl:(nodesL ps 0 0).length=sizes ps:=nodesL_len _ _ _
    have hpos:0<ps.length:=by
     rcases Nat.eq_zero_or_pos ps.length with h | h
     · exact absurd (List.eq_nil_of_length_eq_zero h) HNE.out
     · exact h
    have hbl:bsj.length=ylL ps:=by
     have:=congrArg List.length hbj
     rw [ybl] at this
     simpa using this
    have hnon:=hSt.non
    rw [hnl] at hnon
    obtain ⟨gn,cn,rfl,_,_⟩:=hnon.form (by omega)
    obtain ⟨gr,cr,rfl,_,_⟩:=hrv.form (by omega)
    obtain ⟨ba,bc,rfl⟩:=yos hSt.byt
    have hbm:=hSt.mch
    have HBM:=hid hbm
    have HS:=hid hSt
    have HRV:=hid hrv
    have HBJ:=hid hbj
    have HG:=hid hg
    have HNL:=hid hnl
    have HBL:=hid hbl
    have hmk:=mkBools (sizes ps) (by omega)
    have c0:wr.cell? ⟨w.heap.size,0,none⟩=some (.slice (some ⟨gn,0,none⟩) (sizes ps) cn):=by
     rw [xC hbm,set_get_self _ _ _ (by simp [])]
    have c2:wr.cell? ⟨w.heap.size,2,none⟩=some (.int .i64 0):=by
     rw [xC hbm,set_get_ne _ _ _ _ (by omega),set_get_ne _ _ _ _ (by omega)]; exact z136_2.2.2.1
    have f2:=yfb hbm 2
    have f261:=yfb hbm 261
    have f262:=yfb hbm 262
    have c261:wr.cell? ⟨w.heap.size,261,none⟩=some (.slice none 0 0):=by
     rw [xC hbm,set_get_ne _ _ _ _ (by omega),set_get_ne _ _ _ _ (by omega)]; exact z136_2.2.2.2.2.2.1
    have c262:wr.cell? ⟨w.heap.size,262,none⟩=some (.slice none 0 0):=by
     rw [xC hbm,set_get_ne _ _ _ _ (by omega),set_get_ne _ _ _ _ (by omega)]; exact z136_2.2.2.2.2.2.2.1
    have hwr:w.heap.size<wr.heap.size:=xL hbm
    clear hbm hSt hrv hbj hg hnl hbl et hnon
    go_wp2_with fail
    have HW:=newW_of HS.out HRV.out HG.out (x:=(bsj.length:Int)) (by rw [HBL.out])
    generalize (((((wr.setCell ⟨w.heap.size,2,none⟩ (.int .i64 (bsj.length:Int))).setCell ⟨w.heap.size,261,none⟩ (.slice (some ⟨wr.heap.size,0,none⟩) (sizes ps) (sizes ps))).setCell ⟨w.heap.size,262,none⟩ (.slice (some ⟨wr.heap.size+1,0,none⟩) (sizes ps) (sizes ps))).alloc (.cells (Array.replicate (sizes ps) (.bool false)) 4)).alloc (.cells (Array.replicate (sizes ps) (.bool false)) 4))=W at HW ⊢
    have HWH:=hid HW
    have hcl:=classify_any w.heap.size (ylL ps) w.heap.size _ (.slice ba bsj.length bc) bsj (bytesL ps) W hP (ybl ps).symm HBJ.out (bytesOk_of (sizes ps) ps (Nat.le_refl _) HR.out) (newC_size ..) HW.blk (by rw [newC_get]; simp) (by rw [newC_get]; simpa using z136_2.2.2.2.1) (by rw [newC_get]; simpa using z136_2.2.2.2.2.1) HW.byt
    refine hcl.mono ?_
    intro e w' hp
    obtain ⟨rfl,h1,h2⟩:=new_done HWH.out (by omega) hpos hp
    have H1:=hid h1
    have H2:=hid h2
    clear h1 h2 hp hcl HW
    go_wp2_with fail
    go_ret
    exact ⟨rfl,H1.out,H2.out⟩
theorem info181:(Tryz.prog.info? 181 ).map (fun i=>(i.zero,i.size,i.bytes))=some (some (.int .u64 0),1,8):=by kernel_rfl
theorem clone_any (gm P M:Nat) (w:World) (hO:OwnSet w gm P M) :
 Calls Tryz.prog 97 #[setV P gm] w fun e w'=>(∃ g c,e=.returned (.slice (some ⟨g,0,none⟩) (nw P) c)∧w.heap.size≤g∧(0<P→∃ cs:Array Value,w'.heap[g]? = some (.cells cs 181 (0,0))∧cs[0]? = some (.int .u64 M)))∧w.grownBy w' none:=by
 obtain ⟨i0,hi,a0,a1,a2⟩:=info_parts info181
 have hne:=@Lib.run_eql_slice_nil Tryz.prog
 unfold setV
 by_cases hz:P=0
 · have hn:nw P=0:=by unfold nw; rw [if_pos hz]
   rw [hn]
   go_enter Tryz.func97,Tryz.ntmps97
   go_wp2_with fail
   go_ret
   exact ⟨⟨w.heap.size,0,rfl,Nat.le_refl _,fun h=>by omega⟩,xG _ _ _⟩
 · have hn:nw P=1:=by unfold nw; rw [if_neg hz]
   have hb:=hO.blk
   rw [cellsS,if_neg hz] at hb
   have hown:=World.ownsRow_made (base:=w.heap.size) (e:=181) (size:=1) w #[] 0 (Nat.le_refl _) (by unfold maxLen; omega) rfl
   have hc:∀ j u,[Value.int .u64 (M:Int)][j]? = some u→(w.alloc (.cells #[] 181)).cell? ((⟨gm,0,none⟩:Addr).add j)=some u:=by
    intro j u hj
    have:j=0:=by
     rcases Nat.eq_zero_or_pos j with h | h
     · exact h
     · rw [List.getElem?_eq_none (by simp; omega)] at hj; cases hj
    subst this
    simp at hj
    subst hj
    have e:((⟨gm,0,none⟩:Addr).add 0)=⟨gm,0,none⟩:=by simp [Addr.add]
    rw [e]
    refine ycg ?_ (xG w _ none)
    rw [xC hb 0]; rfl
   rw [hn]
   clear hb hz
   go_enter Tryz.func97,Tryz.ntmps97
   go_wp2_with (at_builtin; refine wpList_append_own _ rfl _ _ 141 rfl w.heap.size 181 i0 (.int .u64 0) 1 8 Tryz.underlying141 hi a0 a1 a2 rfl (by decide) _ _ _ rfl hown ⟨gm,0,none⟩ 1 1 [.int .u64 (M:Int)] rfl rfl hc (fun x hx=>by simp at hx; subst hx; rfl) (by unfold maxLen; omega) (by omega) (by simp) ?_; intro v' w1 hown' hgrow _)
   obtain ⟨g,cp,hv,hb,hcell⟩:=yoe hown' (by omega)
   subst hv
   obtain ⟨_,cs,hcs⟩:=yob hown' g rfl
   have H1:=hid (show ∃ cs:Array Value,w1.heap[g]? = some (.cells cs 181 (0,0))∧cs[0]? = some (.int .u64 (M:Int)) from ⟨cs,hcs,by have:=hcell 0 _ (show _=some (Value.int .u64 (M:Int)) by simp); rwa [xC hcs] at this⟩)
   have H2:=hid (show w.grownBy w1 none from grow_row (xG _ _ _) hgrow (fun k hk=>by have:=hown.lt k hk; omega))
   clear hcell hown' hgrow hcs
   go_wp2_with fail
   go_ret
   exact ⟨⟨g,cp,rfl,hb,fun _=>H1.out⟩,H2.out⟩
theorem sets_any (bm n c:Nat) (a:Option Addr) (w:World) (hn:1≤n∧n≤1000000) (hc:w.cell? ⟨bm,263,none⟩=some (.slice a n c)) :
 Calls Tryz.prog 74 #[.pointer (some ⟨bm,0,none⟩)] w fun e w'=>e=.returned (.int .i64 ((n-1:Nat):Int))∧w=w':=by
 go_enter Tryz.func74,Tryz.ntmps74
 go_wp2_with fail
 go_ret
 exact ⟨ret_i64 (by omega),rfl⟩
open Go.RowKit Go.Maps
abbrev SKey:=List UInt8
def sKeyV (k:SKey):Value:=.string ⟨k.toArray⟩
theorem sKey_of (k:SKey) (h:k.length≤1000000):keyOf Tryz.prog 9 (sKeyV k)=some (.string k):=by
 have:=Go.WideMaps.keyOf_string_mk (P:=Tryz.prog) (k:=9) Tryz.underlying9 (s:=⟨k.toArray⟩) (by unfold maxLen; show k.toArray.size≤_; simp; omega)
 rw [sKeyV,this]
theorem zero3 (w:World):(zeroValue 3).run Tryz.prog w=.ok (.int .i64 0) w:=by kernel_rfl
theorem zero4 (w:World):(zeroValue 4).run Tryz.prog w=.ok (.bool false) w:=by kernel_rfl
theorem wf_nat (v:Nat) (hv:v≤1000000):(Lit.int .i64 (v:Nat)).wf=true:=by
 have h1:IntKind.i64.min = -9223372036854775808:=rfl
 have h2:IntKind.i64.max=9223372036854775807:=rfl
 simp only [Lit.wf,h1,h2,Bool.and_eq_true,decide_eq_true_eq]
 omega
def StrMap (w:World) (mm n:Nat) (f:SKey→Option Nat):Prop :=
 ∃ D:DataW Unit,w.ownsMap Tryz.prog 9 (plainElem Tryz.prog 3) mm n D∧∀ k,has D (.string k)=(f k).isSome∧D.atKey (.string k) (.lit (.int .i64 0))=.lit (.int .i64 ((f k).getD 0:Nat))
theorem StrMap.kept {w w':World} {mm n:Nat} {f:SKey→Option Nat} {r:Option Nat} (h:StrMap w mm n f) (g:w.grownBy w' r) (hr:some mm≠r):StrMap w' mm n f:=by
 obtain ⟨D,h1,h2⟩:=h
 exact ⟨D,h1.kept g hr,h2⟩
theorem StrMap.blk {w:World} {mm n:Nat} {f:SKey→Option Nat} (h:StrMap w mm n f):∃ es c,w.heap[mm]? = some (.map es c):=by
 obtain ⟨D,⟨es,c,hb,_⟩,_⟩:=h
 exact ⟨es,c,hb⟩
theorem StrMap.same {w w':World} {mm n:Nat} {f:SKey→Option Nat} (h:StrMap w mm n f) (e:w'.heap[mm]? = w.heap[mm]?):StrMap w' mm n f:=by
 obtain ⟨D,⟨es,c,hb,r⟩,h2⟩:=h
 exact ⟨D,⟨es,c,e.trans hb,r⟩,h2⟩
theorem StrMap.look {w:World} {mm n:Nat} {f:SKey→Option Nat} (h:StrMap w mm n f) (k:SKey) (hk:k.length≤1000000) :
 (Instr.lookup 139 (.map (some mm)) (sKeyV k) true).run Tryz.prog w=.ok (.tuple #[.int .i64 ((f k).getD 0:Nat),.bool (f k).isSome]) w:=by
 obtain ⟨D,h1,h2⟩:=h
 obtain ⟨v,ps,hrun,hv⟩:=h1.look_ok (string_keyed Tryz.underlying9) Tryz.underlying139 (zero3 w) (plainElem_int Tryz.underlying3 (by decide)) (sKey_of k hk)
 obtain ⟨a,rfl,he,_⟩:=plainElem_int_inv Tryz.underlying3 hv
 obtain ⟨e1,e2⟩:=h2 k
 rw [e1] at hrun
 rw [e2] at he
 simp only [Prod.mk.injEq,DataW.lit.injEq,Lit.int.injEq,true_and] at he
 rw [hrun,← he.1]
theorem StrMap.put {w:World} {mm n:Nat} {f:SKey→Option Nat} (h:StrMap w mm n f) (k:SKey) (hk:k.length≤1000000) (hn:n≤1000000) (v:Nat) (hv:v≤1000000) :
 ∃ w',(Instr.mapUpdate 139 (.map (some mm)) (sKeyV k) (.int .i64 (v:Nat))).run Tryz.prog w=.ok () w'∧StrMap w' mm (n+1) (fun k'=>if k'=k then some v else f k')∧w.grownBy w' (some mm):=by
 obtain ⟨D,h1,h2⟩:=h
 have hw:(Lit.int .i64 (v:Nat)).wf=true:=wf_nat v hv
 obtain ⟨w',hrun,ho,hg⟩:=h1.update (string_keyed Tryz.underlying9) Tryz.underlying139 (by unfold maxLen; omega) (sKey_of k hk) (plainElem_int Tryz.underlying3 hw)
 refine ⟨w',hrun,⟨_,ho,fun k'=>?_⟩,hg⟩
 by_cases e:k'=k
 · subst e
   rw [has_put_same (h1.isMap) (show WideAt.IsKeyLit (.string k') from trivial),atKey_put_same (h1.isMap) (show WideAt.IsKeyLit (.string k') from trivial)]
   simp
 · have e':(Lit.string k')≠.string k:=fun he=>e (by simpa using he)
   rw [has_put_other e',atKey_put_other e']
   simp only [if_neg e]
   exact h2 k'
theorem strMap_new (w:World):StrMap (w.alloc (.map #[] 0)) w.heap.size 0 (fun _=>none) :=
 ⟨.map [],World.ownsMap_made _ _ _ _,fun _=>⟨rfl,rfl⟩⟩
def StrSet (w:World) (mm n:Nat) (f:SKey→Bool):Prop :=
 ∃ D:DataW Unit,w.ownsMap Tryz.prog 9 (plainElem Tryz.prog 4) mm n D∧∀ k,D.atKey (.string k) (.lit (.bool false))=.lit (.bool (f k))
end Go.Proofs.YtplbacfjmajeeaaGreatDoor
