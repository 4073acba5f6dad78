import Derived.Test.YtplbacfjmajeeaaGreatDoorJ03
import Derived.Deep.RegionHeld3
import Derived.Deep.AppendLies
import Derived.Deep.RegionLaw
import Derived.Test.YtplbacfjmajeeaaGreatDoorJ04
import Derived.Deep.DrawnRows
namespace Go.Proofs.YtplbacfjmajeeaaGreatDoor
open Go.Lib (hid)
set_option maxHeartbeats 4000000
set_option maxRecDepth 100000
open Go.RowKit
def nw (P:Nat):Nat:=if P=0 then 0 else 1
structure SetAt (w:World) (v:Value) (P A:Nat):Prop where
 fits:A<2 ^ P
 at_:∃ b c,v=.slice (some ⟨b,0,none⟩) (nw P) c∧(0<P→w.cell? ⟨b,0,none⟩=some (.int .u64 A))
theorem SetAt.grow {w w':World} {v:Value} {P A:Nat} (h:SetAt w v P A) (g:w.grownBy w' none):SetAt w' v P A:=by
 obtain ⟨b,c,hv,hc⟩:=h.at_
 exact ⟨h.fits,b,c,hv,fun hp=>ycg (hc hp) g⟩
theorem pow_le_64 {P A:Nat} (hP:P≤64) (h:A<2 ^ P):A<18446744073709551616 :=
 Nat.lt_of_lt_of_le h (Nat.le_trans (Nat.pow_le_pow_right (by omega) hP) (by decide))
theorem bit_spell (A k:Nat) (h:A<18446744073709551616):(bits BinOp.and IntKind.u64 ((A:Int) / 2 ^ k) 1 == 1)=A.testBit k:=by
 have e:((A:Int) / 2 ^ k)=((A / 2 ^ k:Nat):Int):=by simp [Int.natCast_ediv]
 have e1:(1:Int)=((1:Nat):Int):=rfl
 rw [e,e1,u64_and_nat _ _ (Nat.lt_of_le_of_lt (Nat.div_le_self _ _) h) (by decide),Nat.and_one_is_mod,Nat.testBit_eq_decide_div_mod_eq]
 by_cases hh:A / 2 ^ k % 2=1
 · simp [hh]
 · have:A / 2 ^ k % 2=0:=by omega
   simp [this]
theorem has_any (v:Value) (P A k:Nat) (w:World) (hP:P≤64) (hk:k<P) (hS:SetAt w v P A) :
 Calls Tryz.prog 112 #[v,.int .i64 k] w fun e w'=>e=.returned (.bool (A.testBit k))∧w=w':=by
 obtain ⟨b,c,rfl,hc⟩:=hS.at_
 have hA:=pow_le_64 hP hS.fits
 have h1:=hc (by omega)
 have hn:nw P=1:=by unfold nw; rw [if_neg (by omega)]
 rw [hn]
 have d1:(k:Int).tdiv 64=0:=by rw [Int.tdiv_eq_ediv_of_nonneg (by omega)]; omega
 have d2:(k:Int) / 64=0:=by omega
 have d3:(k:Int) % 64=k:=by omega
 have hb:=hid (bit_spell A k hA)
 clear hc hn hS hA
 go_enter Tryz.func112,Tryz.ntmps112
 go_wp2_with fail
 go_ret
 exact ⟨ret_bool hb.out,rfl⟩
def cellsS (P A:Nat):Array Value:=if P=0 then #[] else #[.int .u64 A]
structure OwnSet (w:World) (b P A:Nat):Prop where
 fits:A<2 ^ P
 blk:w.heap[b]? = some (.cells (cellsS P A) 181 (0,0))
theorem OwnSet.grow {w w':World} {b P A:Nat} {r:Option Nat} (h:OwnSet w b P A) (g:w.grownBy w' r) (hr:some b≠r):OwnSet w' b P A :=
 ⟨h.fits,by rw [g.block b (xL h.blk) hr]; exact h.blk⟩
theorem OwnSet.set {w:World} {b P A:Nat} (h:OwnSet w b P A):SetAt w (.slice (some ⟨b,0,none⟩) (nw P) (nw P)) P A:=by
 refine ⟨h.fits,b,nw P,rfl,fun hp=>?_⟩
 rw [xC h.blk,cellsS,if_neg (by omega)]
 rfl
theorem or_lt {P A k:Nat} (h:A<2 ^ P) (hk:k<P):A ||| 2 ^ k<2 ^ P:=Nat.or_lt_two_pow h (Nat.pow_lt_pow_right (by omega) hk)
theorem grow_set {w:World} {b:Nat} (m:Nat) (u:Value):w.grownBy ((w.setCell ⟨b,0,none⟩ u).drewN m) (some b) :=
 ⟨rfl,rfl,rfl,by simp [World.setCell,World.drewN],fun i hi hne=>Below.heap_setCell _ _ _ _ (fun e=>hne (by rw [e]))⟩
theorem or_spell (A k:Nat) (h:A<18446744073709551616) (hk:k<64):bits BinOp.or IntKind.u64 (A:Int) (IntKind.u64.wrap (2 ^ k))=((A ||| 2 ^ k:Nat):Int):=by
 have hp:2 ^ k<18446744073709551616:=Nat.lt_of_lt_of_le (Nat.pow_lt_pow_right (by omega) hk) (by decide)
 have e:IntKind.u64.wrap (2 ^ k)=((2 ^ k:Nat):Int):=by
  have e2:((2:Int) ^ k)=((2 ^ k:Nat):Int):=by simp
  rw [e2]
  generalize 2 ^ k=x at hp
  simp only [IntKind.wrap,IntKind.bits,IntKind.signed]
  simp
  omega
 rw [e,u64_or_nat _ _ h hp]
theorem and_lt {P A B:Nat} (h:A<2 ^ P):A &&& B<2 ^ P:=Nat.lt_of_le_of_lt Nat.and_le_left h
theorem add_any (b P A k:Nat) (w:World) (hP:P≤64) (hk:k<P) (hS:OwnSet w b P A) :
 Calls Tryz.prog 92 #[.slice (some ⟨b,0,none⟩) (nw P) (nw P),.int .i64 k] w fun e w'=>e=.returned (.tuple #[])∧OwnSet w' b P (A ||| 2 ^ k)∧w.grownBy w' (some b):=by
 have hA:=pow_le_64 hP hS.fits
 have hn:nw P=1:=by unfold nw; rw [if_neg (by omega)]
 have hc:∀ A,cellsS P A=#[.int .u64 A]:=fun A=>by unfold cellsS; rw [if_neg (by omega)]
 have hb:=hS.blk
 rw [hc] at hb
 have c0:=xC hb 0
 have f0:=yfb hb 0
 simp only [xGe,xGz] at c0
 rw [hn]
 have d1:(k:Int).tdiv 64=0:=by rw [Int.tdiv_eq_ediv_of_nonneg (by omega)]; omega
 have d2:(k:Int) / 64=0:=by omega
 have d3:(k:Int) % 64=k:=by omega
 have hor:=hid (or_lt hS.fits hk)
 have hB:=hid hb
 have hC:=hid hc
 have HO:=hid (or_spell A k hA (by omega))
 have hk64:k<64:=by omega
 clear hc hn hA hb hS
 go_enter Tryz.func92,Tryz.ntmps92
 go_wp2_with fail
 go_region
 all_goals go_end0
 all_goals refine ⟨rfl,⟨hor.out,?_⟩,grow_set 1 _⟩
 all_goals rw [HO.out,hC.out]
 all_goals exact yhs hB.out 0 _
theorem isEmpty_any (v:Value) (P A:Nat) (w:World) (hS:SetAt w v P A) :
 Calls Tryz.prog 73 #[v] w fun e w'=>e=.returned (.bool (decide (A=0)))∧w=w':=by
 obtain ⟨b,c,rfl,hc⟩:=hS.at_
 have hA:=hS.fits
 by_cases hP:P=0
 · have hn:nw P=0:=by unfold nw; rw [if_pos hP]
   have hz:A=0:=by rw [hP] at hA; omega
   have HZ:=hid hz
   rw [hn]
   clear hc hn hS hA hz hP
   go_enter Tryz.func73,Tryz.ntmps73
   go_wp2_with fail
   refine wp_loop_rounds 1 ?_
   rw [rounds_succ]
   go_wp2_with fail
   go_ret
   exact ⟨ret_bool (by simp [HZ.out]),rfl⟩
 · have h1:=hc (by omega)
   have hn:nw P=1:=by unfold nw; rw [if_neg hP]
   rw [hn]
   clear hc hn hS hA hP
   by_cases hz:A=0
   · have zb:((A:Int) != 0)=false:=by simp [hz]
     have HZ:=hid hz
     clear hz
     go_enter Tryz.func73,Tryz.ntmps73
     go_wp2_with fail
     refine wp_loop_rounds 2 ?_
     rw [rounds_succ]
     go_wp2_with fail
     rw [rounds_succ]
     go_wp2_with fail
     go_ret
     exact ⟨ret_bool (by simp [HZ.out]),rfl⟩
   · have zb:((A:Int) != 0)=true:=by simp [hz]
     have HZ:=hid hz
     clear hz
     go_enter Tryz.func73,Tryz.ntmps73
     go_wp2_with fail
     refine wp_loop_rounds 2 ?_
     rw [rounds_succ]
     go_wp2_with fail
     go_ret
     exact ⟨ret_bool (by simp [HZ.out]),rfl⟩
theorem and_spell (A B:Nat) (h:A<18446744073709551616) (g:B<18446744073709551616):bits BinOp.and IntKind.u64 (A:Int) (B:Int)=((A &&& B:Nat):Int):=u64_and_nat A B h g
theorem meet_any (b P C A B:Nat) (va vb:Value) (w:World) (hP:P≤64) (hS:OwnSet w b P C) (hA:SetAt w va P A) (hB:SetAt w vb P B) :
 Calls Tryz.prog 95 #[.slice (some ⟨b,0,none⟩) (nw P) (nw P),va,vb] w fun e w'=>e=.returned (.tuple #[])∧OwnSet w' b P (A &&& B)∧w.grownBy w' (some b):=by
 obtain ⟨b1,c1,rfl,hc1⟩:=hA.at_
 obtain ⟨b2,c2,rfl,hc2⟩:=hB.at_
 have g1:=pow_le_64 hP hA.fits
 have g2:=pow_le_64 hP hB.fits
 have hlt:=hid (and_lt (B:=B) hA.fits)
 have hb:=hS.blk
 by_cases hz:P=0
 · have hn:nw P=0:=by unfold nw; rw [if_pos hz]
   have hc:∀ A,cellsS P A=#[]:=fun A=>by unfold cellsS; rw [if_pos hz]
   rw [hc] at hb
   have hC:=hid hc
   have hH:=hid hb
   rw [hn]
   clear hc1 hc2 hn hS hA hB hz hc hb
   go_enter Tryz.func95,Tryz.ntmps95
   go_wp2_with fail
   refine wp_loop_rounds 1 ?_
   rw [rounds_succ]
   go_wp2_with fail
   go_end0
   exact ⟨rfl,⟨hlt.out,by rw [hC.out]; exact hH.out⟩,⟨rfl,rfl,rfl,Nat.le_refl _,fun _ _ _=>rfl⟩⟩
 · have h1:=hc1 (by omega)
   have h2:=hc2 (by omega)
   have hn:nw P=1:=by unfold nw; rw [if_neg hz]
   have hc:∀ A,cellsS P A=#[.int .u64 A]:=fun A=>by unfold cellsS; rw [if_neg hz]
   rw [hc] at hb
   have c0:=xC hb 0
   have f0:=yfb hb 0
   simp only [xGe,xGz] at c0
   have hC:=hid hc
   have hH:=hid hb
   have hSp:=hid (and_spell A B g1 g2)
   rw [hn]
   clear hc1 hc2 hn hS hA hB hz hc hb g1 g2
   go_enter Tryz.func95,Tryz.ntmps95
   go_wp2_with fail
   refine wp_loop_rounds 2 ?_
   rw [rounds_succ]
   go_wp2_with fail
   go_region
   all_goals go_wp2_with fail
   all_goals rw [rounds_succ]
   all_goals go_wp2_with fail
   all_goals go_end0
   all_goals refine ⟨rfl,⟨hlt.out,?_⟩,grow_set 1 _⟩
   all_goals rw [hSp.out,hC.out]
   all_goals exact yhs hH.out 0 _
def keyB (P A:Nat):List UInt8:=if P=0 then [] else (List.range 8).map fun i=>UInt8.ofNat (A / 2 ^ (8*i) % 256)
def byteCells (l:List UInt8):List Value:=l.map fun c=>.int .u8 c.toNat
theorem info5:(Tryz.prog.info? 5 ).map (fun i=>(i.zero,i.size,i.bytes))=some (some (.int .u8 0),1,1):=by kernel_rfl
theorem byteCells_append (a b:List UInt8):byteCells (a++b)=byteCells a++byteCells b:=by simp [byteCells]
theorem key_len (P A:Nat) (hz:¬ P=0):(keyB P A).length=8:=by unfold keyB; rw [if_neg hz]; simp
theorem byte_of (x:Nat):((UInt8.ofNat (x % 256)).toNat:Int)=(x:Int) % 256:=by
 have:(UInt8.ofNat (x % 256)).toNat=x % 256:=by simp [UInt8.toNat_ofNat']
 rw [this]; simp
theorem key_cells (P A : Nat) (hA : A < 18446744073709551616) (hz : ¬ P = 0) : byteCells (keyB P A) = [Value.int IntKind.u8 (↑A % 256), Value.int IntKind.u8 (↑A / 256 % 256), Value.int IntKind.u8 (↑A / 65536 % 256),
        Value.int IntKind.u8 (↑A / 16777216 % 256),Value.int IntKind.u8 (↑A / 4294967296 % 256),
        Value.int IntKind.u8 (↑A / 1099511627776 % 256),Value.int IntKind.u8 (↑A / 281474976710656 % 256),
        Value.int IntKind.u8 (↑A / 72057594037927936)]:=by
 have e:List.range 8=[0,1,2,3,4,5,6,7]:=by decide
 unfold keyB
 rw [if_neg hz,e]
 simp only [byteCells,List.map_cons,List.map_nil,byte_of,Int.natCast_ediv]
 have hl:((A:Int) / 72057594037927936) % 256=(A:Int) / 72057594037927936:=by omega
 simp [hl]
theorem key_any (v vl:Value) (base n P A:Nat) (xs:List UInt8) (w:World) (hP:P≤64) (hn:n≤1000000) (hb:base≤w.heap.size) (hS:SetAt w v P A) (hO:w.ownsRow base 5 1 vl n (byteCells xs)) :
 Calls Tryz.prog 96 #[v,vl] w fun e w'=>∃ v',e=.returned v'∧w'.ownsRow base 5 1 v' (n+(keyB P A).length) (byteCells (xs++keyB P A))∧w.grownBy w' vl.ownBlock:=by
 obtain ⟨i0,hi,hz0,hz1,hz2⟩:=info_parts info5
 obtain ⟨b,c,rfl,hc⟩:=hS.at_
 have hA:=pow_le_64 hP hS.fits
 by_cases hz:P=0
 · have hn:nw P=0:=by unfold nw; rw [if_pos hz]
   have hk:keyB P A=[]:=by unfold keyB; rw [if_pos hz]
   have hK:=hid hk
   rw [hn]
   clear hc hn hS hA hz hk
   go_enter Tryz.func96,Tryz.ntmps96
   go_wp2_with fail
   refine wp_loop_rounds 1 ?_
   rw [rounds_succ]
   go_wp2_with fail
   go_ret
   exact ⟨vl,rfl,by rw [hK.out]; simpa using hO,⟨rfl,rfl,rfl,Nat.le_refl _,fun _ _ _=>rfl⟩⟩
 · have h1:=hc (by omega)
   have hn:nw P=1:=by unfold nw; rw [if_neg hz]
   rw [hn]
   clear hc hn hS
   go_enter Tryz.func96,Tryz.ntmps96
   go_wp2_with fail
   refine wp_loop_rounds 2 ?_
   rw [rounds_succ]
   go_wp2_with (at_builtin; refine wpList_append_own _ rfl _ _ 111 rfl base 5 i0 (.int .u8 0) 1 1 Tryz.underlying111 hi hz0 hz1 hz2 rfl (by decide) _ _ _ rfl (hO.alloc _) ⟨w.heap.size,0,none⟩ 8 8 _ rfl rfl (cells_new _ _ _) (fun x hx=>by simp at hx; rcases hx with rfl | rfl | rfl | rfl | rfl | rfl | rfl | rfl<;>rfl) (by unfold maxLen; omega) (by omega) (by simp; omega) ?_; intro v' w1 hown' hgrow _)
   have HK:=hid (key_cells P A hA hz)
   have HL:=hid (key_len P A hz)
   have hO2:w1.ownsRow base 5 1 v' (n+(keyB P A).length) (byteCells (xs++keyB P A)):=by
    rw [HL.out,byteCells_append,HK.out]; exact hown'
   have hg2:w.grownBy w1 vl.ownBlock:=xT (xG _ _ _) hgrow
   clear hown' hgrow
   go_wp2_with fail
   rw [rounds_succ]
   go_wp2_with fail
   go_ret
   exact ⟨v',rfl,hO2,hg2⟩
structure Nd where
 op:Int
 end_:Nat
 emp:Bool
 place:Nat
def ndCells (l:List Nd):List Value:=l.flatMap fun x=>[.int .i64 x.op,.int .i64 x.end_,.bool x.emp,.int .i64 x.place]
theorem ndCells_len (l:List Nd):(ndCells l).length=l.length*4:=by
 induction l with
 | nil=>rfl
 | cons x l ih=>simp only [ndCells,List.flatMap_cons,List.length_append] at ih ⊢; rw [ih]; simp; omega
theorem ndCells_append (a b:List Nd):ndCells (a++b)=ndCells a++ndCells b:=by simp [ndCells]
structure Bp where
 lo:Int
 hi:Int
 a:Option Addr
 n:Nat
 c:Nat
def bpCells (l:List Bp):List Value:=l.flatMap fun x=>[.int .i64 1,.int .i64 x.lo,.int .i64 x.hi,.slice x.a x.n x.c]
theorem bpCells_append (a b:List Bp):bpCells (a++b)=bpCells a++bpCells b:=by simp [bpCells]
mutual
def Pt.nodes:Pt→Nat→Nat→List Nd
 | .mk o l h ps,i,b=>⟨o,i+(1+sizes ps),(Pt.mk o l h ps).nul,b⟩::nodesL ps (i+1) b
def nodesL:List Pt→Nat→Nat→List Nd
 | [],_,_=>[]
 | p::ps,i,b=>p.nodes i b++nodesL ps (i+p.size) (b+p.leaves)
end
theorem nodesL_take (ps:List Pt):∀ (i b j:Nat) (h:j<ps.length),nodesL (ps.take (j+1)) i b=nodesL (ps.take j) i b++ps[j].nodes (i+sizes (ps.take j)) (b+ylL (ps.take j)):=by
 induction ps with
 | nil=>intro i b j h; simp at h
 | cons p ps ih =>
  intro i b j h
  cases j with
  | zero=>simp [nodesL,sizes,ylL]
  | succ j =>
   simp only [List.take_succ_cons,nodesL,sizes,ylL,List.getElem_cons_succ]
   rw [ih _ _ j (by simpa using h),List.append_assoc,Nat.add_assoc,Nat.add_assoc]
mutual
theorem Pt.nodes_len:(p:Pt)→(i b:Nat)→(p.nodes i b).length=p.size
 | .mk o l h ps,i,b=>by simp only [Pt.nodes,Pt.size,List.length_cons,nodesL_len ps]; omega
theorem nodesL_len:(ps:List Pt)→(i b:Nat)→(nodesL ps i b).length=sizes ps
 | [],_,_=>rfl
 | p::ps,i,b=>by simp [nodesL,sizes,Pt.nodes_len p,nodesL_len ps]
end
theorem bytesL_take (ps:List Pt):∀ (j:Nat) (h:j<ps.length),bytesL (ps.take (j+1))=bytesL (ps.take j)++ps[j].bytes:=by
 induction ps with
 | nil=>intro j h; simp at h
 | cons p ps ih =>
  intro j h
  cases j with
  | zero=>simp [bytesL]
  | succ j =>
   simp only [List.take_succ_cons,bytesL,List.getElem_cons_succ]
   rw [ih j (by simpa using h),List.append_assoc]
inductive Right:Pt→Prop
 | mk (o l h:Int) (ps:List Pt) (ho:1≤o∧o≤4) (hf:formB o l h ps.length=true) (hb:0≤l∧l≤255∧l≤h∧h≤255) (ha:∀ p∈ps,Right p):Right (.mk o l h ps)
theorem right_of_fault (p:Pt):∀ d,p.fault d=0→Right p:=by
 induction p using Pt.ind with
 | h o l h ps ih =>
  intro d hd
  simp only [Pt.fault] at hd
  split at hd
  · omega
  · split at hd
    · omega
    · split at hd
      · omega
      · split at hd
        · omega
        · rename_i h1 h2 h3 h4
          refine .mk o l h ps (by omega) (by simpa using h3) (by omega) ?_
          have hall:∀ (ps:List Pt) (d:Int),faults ps d=0→∀ p∈ps,p.fault d=0:=by
           intro ps d
           induction ps with
           | nil=>intro _ p hp; cases hp
           | cons q ps ihp =>
            intro hf p hp
            simp only [faults] at hf
            split at hf
            · rename_i hq
              rcases List.mem_cons.1 hp with rfl | hp
              · exact hq
              · exact ihp hf p hp
            · rename_i hq; exact absurd hf hq
          exact fun p hp=>ih p hp _ (hall ps _ hd p hp)
def Moved (w:World) (v v':Value):Prop:=v'.ownBlock=v.ownBlock∨∃ g,v'.ownBlock=some g∧w.heap.size≤g
theorem Moved.refl (w:World) (v:Value):Moved w v v:=.inl rfl
theorem Moved.trans {w w':World} {a b c:Value} (h:Moved w a b) (g:Moved w' b c) (hs:w.heap.size≤w'.heap.size):Moved w a c:=by
 rcases g with g | ⟨k,g,hk⟩
 · rcases h with h | ⟨k,h,hk⟩
   · exact .inl (g.trans h)
   · exact .inr ⟨k,g.trans h,hk⟩
 · exact .inr ⟨k,g,by omega⟩
theorem Moved.of {w:World} {v:Value} {g n c H:Nat} (h:v.ownBlock=some g∨g=H) (hH:w.heap.size≤H):Moved w v (.slice (some ⟨g,0,none⟩) n c):=by
 rcases h with h | h
 · exact .inl h.symm
 · exact .inr ⟨g,rfl,by omega⟩
def AddP (bm:Nat) (nv bv:Value) (k:Nat) (_:Option Obj):Prop:=k≠bm∧nv.ownBlock≠some k∧bv.ownBlock≠some k
structure AddSt (w:World) (bm:Nat) (C:Array Value) (base:Nat) (nv:Value) (ns:List Nd) (bv:Value) (bs:List Bp):Prop where
 mch:w.heap[bm]? = some (.cells (C.setIfInBounds 0 nv) 136 (0,0))
 non:w.ownsRow base 172 4 nv ns.length (ndCells ns)
 byt:w.ownsRow base 28 4 bv bs.length (bpCells bs)
def AddPost (w:World) (bm:Nat) (C:Array Value) (base:Nat) (nv:Value) (ns:List Nd) (bv:Value) (bs:List Bp) (p:Pt) (e:Ending) (w':World):Prop :=
 ∃ nv' bv' bs2,e=.returned bv'∧AddSt w' bm C base nv' (ns++p.nodes ns.length bs.length) bv' (bs++bs2)∧bs2.map (fun x=>(x.lo,x.hi))=p.bytes∧Frm (AddP bm nv bv) w w'∧Moved w nv nv'∧Moved w bv bv'
theorem info172:(Tryz.prog.info? 172 ).map (fun i=>(i.zero,i.size,i.bytes))=some (some (.agg #[.int .i64 0,.int .i64 0,.bool false,.int .i64 0]),4,32):=by kernel_rfl
theorem info28:(Tryz.prog.info? 28 ).map (fun i=>(i.zero,i.size,i.bytes))=some (some (.agg #[.int .i64 0,.int .i64 0,.int .i64 0,.slice none 0 0]),4,48):=by kernel_rfl
structure V4 where
 a:Value
 b:Value
 c:Value
 d:Value
def V4.val (x:V4):Value:=.agg #[x.a,x.b,x.c,x.d]
def v4Cells (l:List V4):List Value:=l.flatMap fun x=>[x.a,x.b,x.c,x.d]
theorem v4Cells_append (a b:List V4):v4Cells (a++b)=v4Cells a++v4Cells b:=by simp [v4Cells]
def AllQ (Q:Nat→Prop) (W:World):List Pt→List V4→Prop
 | [],[]=>True
 | p::ps,v::vs=>PtQ Q W p v.val∧AllQ Q W ps vs
 | _,_=>False
theorem AllQ.keep {Q Q':Nat→Prop} {W W':World} (H:KeptQ Q Q' W W'):∀ ps vs,AllQ Q W ps vs→AllQ Q' W' ps vs
 | [],[],_=>trivial
 | _::ps,_::vs,h=>⟨PtQ.keep H _ _ h.1,AllQ.keep H ps vs h.2⟩
 | [],_::_,h=>h
 | _::_,[],h=>h
theorem AllQ.snoc {Q:Nat→Prop} {W:World} {p:Pt} {x:V4} (hp:PtQ Q W p x.val):∀ ps vs,AllQ Q W ps vs→AllQ Q W (ps++[p]) (vs++[x])
 | [],[],_=>⟨hp,trivial⟩
 | _::ps,_::vs,h=>⟨h.1,AllQ.snoc hp ps vs h.2⟩
 | [],_::_,h=>h.elim
 | _::_,[],h=>h.elim
theorem AllQ.row {Q:Nat→Prop} {W:World} {g:Nat}:∀ ps vs off,AllQ Q W ps vs→(∀ j u,(v4Cells vs)[j]? = some u→W.cell? ⟨g,off+j,none⟩=some u)→PtsQ Q W ps g off
 | [],_,_,_,_=>trivial
 | _::_,[],_,h,_=>h.elim
 | p::ps,x::vs,off,h,hc=>by
  refine ⟨⟨x.val,⟨x.a,x.b,x.c,x.d,rfl,?_,?_,?_,?_⟩,h.1⟩,AllQ.row ps vs (off+4) h.2 (fun j u hu=>?_)⟩
  · simpa using hc 0 x.a (by simp [v4Cells])
  · exact hc 1 x.b (by simp [v4Cells])
  · exact hc 2 x.c (by simp [v4Cells])
  · exact hc 3 x.d (by simp [v4Cells])
  · rw [show off+4+j=off+(j+4) by omega]
    refine hc (j+4) u ?_
    rw [← hu]
    simp [v4Cells]
theorem PtQ.v4 {Q:Nat→Prop} {W:World}:(p:Pt)→(v:Value)→PtQ Q W p v→∃ x:V4,v=x.val∧x.a.oneCell'=true∧x.b.oneCell'=true∧x.c.oneCell'=true∧x.d.oneCell'=true
 | .mk _ _ _ _,_,h=>by
  obtain ⟨av,cap,rfl,_⟩:=h
  exact ⟨⟨_,_,_,_⟩,rfl,rfl,rfl,rfl,rfl⟩
theorem kept_grown {Q Q':Nat→Prop} {W W':World} {row:Option Nat} (g:W.grownBy W' row) (hr:∀ r,row=some r→¬ Q r) (hq:∀ c,Q c→c<W.heap.size→Q' c):KeptQ Q Q' W W' :=
 fun c hc hl=>⟨hq c hc hl,fun _ _ h=>g.cell h (fun e=>hr c e.symm hc)⟩
theorem kept_set {Q:Nat→Prop} {W:World} (p:Addr) (u:Value) (hp:¬ Q p.block):KeptQ Q Q W (W.setCell p u) :=
 fun c hc _=>⟨hc,fun o v h=>by rw [← h]; exact World.cell?_of_block (w:=W) (Below.heap_setCell _ _ _ _ (fun e=>hp (e ▸ hc)))⟩
theorem kept_self {Q Q':Nat→Prop} {W:World} (hq:∀ c,Q c→Q' c):KeptQ Q Q' W W:=fun c hc _=>⟨hq c hc,fun _ _ h=>h⟩
theorem kept_trans {Q Q' Q'':Nat→Prop} {W W' W'':World} (a:KeptQ Q Q' W W') (b:KeptQ Q' Q'' W' W'') (hs:W.heap.size≤W'.heap.size):KeptQ Q Q'' W W'' :=
 fun c hc hl=>⟨(b c (a c hc hl).1 (by omega)).1,fun o v h=>(b c (a c hc hl).1 (by omega)).2 o v ((a c hc hl).2 o v h)⟩
theorem own_grownN {w w':World} {base:Nat} {e:TypeId} {size:Nat} {v:Value} {n:Nat} {xs:List Value} {row:Option Nat} (h:w.ownsRow base e size v n xs) (g:w.grownBy w' row) (hr:∀ r,row=some r→r<base):w'.ownsRow base e size v n xs:=by
 refine ⟨h.1,?_⟩
 rcases h.2 with h2 | ⟨gg,cap,cur,hv,hg,hh,r⟩
 · exact Or.inl h2
 · exact Or.inr ⟨gg,cap,cur,hv,hg,by rw [g.block gg (xL hh) (fun e=>by have:=hr gg e.symm; omega)]; exact hh,r⟩
theorem own_keepN {w w':World} {base:Nat} {e:TypeId} {size:Nat} {v:Value} {n:Nat} {xs:List Value} (h:w.ownsRow base e size v n xs) (g:w.grownBy w' v.ownBlock) {c:Nat} {o:Obj} (hc:w.heap[c]? = some o) (hb:c<base):w'.heap[c]? = some o:=by
 rw [g.block c (xL hc) (fun e=>by have:=(yob h c e.symm).1; omega)]
 exact hc
theorem own_setN {w:World} {base:Nat} {e:TypeId} {size:Nat} {v:Value} {n:Nat} {xs:List Value} (h:w.ownsRow base e size v n xs) (p:Addr) (u:Value) (hp:p.block<base):(w.setCell p u).ownsRow base e size v n xs:=by
 refine ⟨h.1,?_⟩
 rcases h.2 with h2 | ⟨gg,cap,cur,hv,hg,hh,r⟩
 · exact Or.inl h2
 · exact Or.inr ⟨gg,cap,cur,hv,hg,by rw [Below.heap_setCell _ _ _ _ (by omega)]; exact hh,r⟩
theorem Mk.drew {b av cap xs w R L W k' C} (h:Mk b av cap xs w R L W k' C):Mk b av cap xs w R L W.drew k' C :=
 ⟨h.sto.drew,h.own,h.old,h.rlo,h.llo,h.ne,h.res,h.pat⟩
def NodeR (b:Nat) (av:Option Addr) (cap:Nat) (xs:List Int) (w:World) (R L:Nat) (n sz m k0:Nat) (o l:Int) (j:Nat) (W:World):Prop :=
 ∃ (args:List Pt) (vs:List V4) (sv:Value) (k':Nat),args.length=j∧vs.length=j∧Mk b av cap xs w R L W k' #[.int .i64 o,.int .i64 l,.int .i64 0,sv]∧W.ownsRow (L+1) 28 4 sv j (v4Cells vs) ∧
  AllQ (fun c=>L+1≤c∧sv.ownBlock≠some c) W args vs∧ylL args≤j*n∧sizes args≤j*sz∧k'≤k0+j*m
theorem leavesL_snocN (ps:List Pt) (p:Pt):ylL (ps++[p])=ylL ps+p.leaves:=by
 induction ps with
 | nil=>simp [ylL]
 | cons a ps ih=>simp only [List.cons_append,ylL,ih]; omega
theorem sizes_snocN (ps:List Pt) (p:Pt):sizes (ps++[p])=sizes ps+p.size:=by
 induction ps with
 | nil=>simp [sizes]
 | cons a ps ih=>simp only [List.cons_append,sizes,ih]; omega
theorem v4Cells_len (l:List V4):(v4Cells l).length=l.length*4:=by
 induction l with
 | nil=>rfl
 | cons x l ih=>simp only [v4Cells,List.flatMap_cons,List.length_append] at ih ⊢; rw [ih]; simp; omega
theorem NodeR.step {b:Nat} {av:Option Addr} {cap:Nat} {xs:List Int} {w wr w2 w3:World} {R L n sz m k0:Nat} {o l:Int} {j:Nat} {args:List Pt} {vs:List V4} {sa:Option Addr} {sc k1 k2:Nat} {p:Pt} {x:V4} {gg cap1:Nat} {o2:Obj}
 (hRL:R<L) (h1:args.length=j) (h2:vs.length=j) (M:Hid (Mk b av cap xs w R L wr k1 #[.int .i64 o,.int .i64 l,.int .i64 0,.slice sa j sc])) (hown:Hid (wr.ownsRow (L+1) 28 4 (.slice sa j sc) j (v4Cells vs)))
 (hall:Hid (AllQ (fun c=>L+1≤c∧(Value.slice sa j sc).ownBlock≠some c) wr args vs)) (hl:ylL args≤j*n) (hs:sizes args≤j*sz) (hk:k1≤k0+j*m)
 (hp:Hid (PtQ (fun c=>wr.heap.size≤c) w2 p x.val)) (hpl:p.leaves≤n) (hps:p.size≤sz) (hk2:k2≤k1+m) (T:Hid (Sto b av cap xs wr w2 k2))
 (own3:w3.ownsRow (L+1) 28 4 (.slice (some ⟨gg,0,none⟩) (j+1) cap1) (j+1) (v4Cells vs++[x.a,x.b,x.c,x.d]))
 (hg:(w2.alloc o2).grownBy w3 (Value.slice sa j sc).ownBlock) (hat:(Value.slice sa j sc).ownBlock=some gg∨gg=w2.heap.size+1) :
 NodeR b av cap xs w R L n sz m k0 o l (j+1) (w3.setCell ⟨L,3,none⟩ (.slice (some ⟨gg,0,none⟩) (j+1) cap1)):=by
 have hLs:=xL M.out.pat
 have hbw:=M.out.own
 have hRw:=M.out.rlo
 have hLw:=M.out.llo
 have M2:=(M.out.call T.out).alloc o2
 have o2w:=own_grownN (own_grownN hown.out T.out.grow (fun r hr=>by have:b=r:=(by simpa using hr); omega)) (xG w2 o2 none) (fun r hr=>by cases hr)
 obtain ⟨k,S⟩:∃ k,Strm b av cap xs w k:=M.out.old.elim (fun s=>⟨_,s⟩) id
 have hsz1:=T.out.grow.size
 have hblk:∀ r,(Value.slice sa j sc).ownBlock=some r→L+1≤r:=fun r hr=>(yob o2w r hr).1
 have M3:Mk b av cap xs w R L w3 k2 #[.int .i64 o,.int .i64 l,.int .i64 0,.slice sa j sc] :=
  ⟨M2.sto.newer S hg (fun r hr=>by have:=hblk r hr; omega),M2.own,M2.old,M2.rlo,M2.llo,M2.ne,own_keepN o2w hg M2.res (by omega),own_keepN o2w hg M2.pat (by omega)⟩
 have M4:=M3.set 3 (.slice (some ⟨gg,0,none⟩) (j+1) cap1)
 simp only [xSi,xSs,xSz] at M4
 have hgn:∀ c,(L+1≤c∧(Value.slice sa j sc).ownBlock≠some c)→c<(w2.alloc o2).heap.size→c≠w2.heap.size+1→L+1≤c∧(Value.slice (some ⟨gg,0,none⟩) (j+1) cap1).ownBlock≠some c:=by
  rintro c ⟨hc1,hc2⟩ _ hc4
  refine ⟨hc1,fun e=>?_⟩
  simp only [Value.ownBlock,Option.some.injEq] at e
  subst e
  rcases hat with h | h
  · exact hc2 h
  · exact hc4 h
 have hset:∀ Q:Nat→Prop,¬ Q L→KeptQ Q Q w3 (w3.setCell ⟨L,3,none⟩ (.slice (some ⟨gg,0,none⟩) (j+1) cap1)):=fun Q hq=>kept_set _ _ hq
 have ka:KeptQ (fun c=>L+1≤c∧(Value.slice sa j sc).ownBlock≠some c) (fun c=>L+1≤c∧(Value.slice (some ⟨gg,0,none⟩) (j+1) cap1).ownBlock≠some c) (w2.alloc o2) w3 :=
  fun c hc hlt=>by
   refine ⟨hgn c hc hlt (by simp at hlt; omega),fun _ _ h=>hg.cell h (fun e=>hc.2 e.symm)⟩
 have kb:KeptQ (fun c=>L+1≤c∧(Value.slice sa j sc).ownBlock≠some c) (fun c=>L+1≤c∧(Value.slice sa j sc).ownBlock≠some c) wr (w2.alloc o2) :=
  kept_trans (kept_grown T.out.grow (fun r hr hq=>by have:b=r:=(by simpa using hr); omega) (fun _ h _=>h)) (kept_grown (xG w2 o2 none) (fun r hr=>by cases hr) (fun _ h _=>h)) hsz1
 have hsz2:wr.heap.size≤(w2.alloc o2).heap.size:=by simp; omega
 have A3:=AllQ.keep (kept_trans kb (kept_trans ka (hset _ (fun h=>by omega)) hg.size) hsz2) args vs hall.out
 have kc:KeptQ (fun c=>wr.heap.size≤c) (fun c=>L+1≤c∧(Value.slice sa j sc).ownBlock≠some c) w2 (w2.alloc o2) :=
  kept_grown (xG w2 o2 none) (fun r hr=>by cases hr) (fun c hc _=>⟨by omega,fun e=>by
   obtain ⟨_,cc,hcc⟩:=yob hown.out c e
   have:=xL hcc
   omega⟩)
 have P3:=PtQ.keep (kept_trans kc (kept_trans ka (hset _ (fun h=>by omega)) hg.size) (by simp)) p x.val hp.out
 refine ⟨args++[p],vs++[x],_,k2,by simp [h1],by simp [h2],M4,?_,AllQ.snoc P3 args vs A3,?_,?_,?_⟩
 · rw [v4Cells_append]
   exact own_setN own3 _ _ (by simp)
 · rw [leavesL_snocN,Nat.add_mul]; omega
 · rw [sizes_snocN,Nat.add_mul]; omega
 · rw [Nat.add_mul]; omega
end Go.Proofs.YtplbacfjmajeeaaGreatDoor
