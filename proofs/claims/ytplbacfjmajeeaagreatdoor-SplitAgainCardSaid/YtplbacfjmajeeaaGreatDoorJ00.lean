import Derived.Test.YtplbacfjmajeeaaGreatDoorJA
import Derived.Test.YtplbacfjmajeeaaGreatDoorRows
import Derived.BigQuiet
import Derived.Lib.Hide
import Derived.WalkSpells
namespace Go.Proofs.YtplbacfjmajeeaaGreatDoor
open Go.Lib (hid)
set_option maxHeartbeats 4000000
set_option maxRecDepth 100000
open Go.RowKit
def below (x n:Int):Int:=if n<1 then 0 else if x.tmod n<0 then x.tmod n+n else x.tmod n
theorem below_lo (x n:Int):0≤below x n:=by
 unfold below; split
 · omega
 · split
   · have:=Int.lt_tmod_of_pos x (show 0<n by omega); omega
   · omega
theorem below_hi (x n:Int) (h:1≤n):below x n<n:=by
 unfold below; rw [if_neg (by omega)]; split
 · omega
 · exact Int.tmod_lt_of_pos x (by omega)
theorem ret_i64 {a b:Int} (h:a=b):Ending.returned (.int .i64 a)=.returned (.int .i64 b):=by rw [h]
theorem below_any (x n:Int) (w:World) (hn:n≤9223372036854775807) :
 Calls Tryz.prog 65 #[.int .i64 x,.int .i64 n] w fun e w'=>e=.returned (.int .i64 (below x n))∧w=w':=by
 by_cases h:n<1
 · go_enter Tryz.func65,Tryz.ntmps65
   go_wp2
   go_ret
   exact ⟨by simp [below,h],rfl⟩
 · have h1:¬ n<1:=h
   have t1:=Int.lt_tmod_of_pos x (show 0<n by omega)
   have t2:=Int.tmod_lt_of_pos x (show 0<n by omega)
   by_cases h2:x.tmod n<0
   · go_enter Tryz.func65,Tryz.ntmps65
     go_wp2
     go_ret
     exact ⟨ret_i64 (by rw [below,if_neg (by omega),if_pos h2]),rfl⟩
   · go_enter Tryz.func65,Tryz.ntmps65
     go_wp2
     go_ret
     exact ⟨ret_i64 (by rw [below,if_neg (by omega),if_neg (by omega)]),rfl⟩
structure Strm (b:Nat) (av:Option Addr) (cap:Nat) (xs:List Int) (w:World) (at_:Nat):Prop where
 blk:w.heap[b]? = some (.cells #[.slice av xs.length cap,.int .i64 at_] 25  (0,0))
 el:∀ j,j<xs.length→∃ bl off,av=some ⟨bl,off,none⟩∧bl≠b∧w.cell? ⟨bl,off+j,none⟩=some (.int .i64 (xs.getD j 0))
theorem Strm.c0 {b av cap xs w at_} (h:Strm b av cap xs w at_):w.cell? ⟨b,0,none⟩=some (.slice av xs.length cap):=by simp [World.cell?,h.blk]
theorem Strm.c1 {b av cap xs w at_} (h:Strm b av cap xs w at_):w.cell? ⟨b,1,none⟩=some (.int .i64 at_):=by simp [World.cell?,h.blk]
theorem Strm.f1 {b av cap xs w at_} (h:Strm b av cap xs w at_):w.frozen? ⟨b,1,none⟩=false:=by simp [World.frozen?,h.blk]
structure Sto (b:Nat) (av:Option Addr) (cap:Nat) (xs:List Int) (w w':World) (k':Nat):Prop where
 grow:w.grownBy w' (some b)
 strm:Strm b av cap xs w' k'
def nextv (xs:List Int) (k:Nat) (n:Int):Int :=
 if xs.length=0 then below (((k:Int)+1)*7919) n
 else below (below (xs.getD (k % xs.length) 0) 1073741824+((k / xs.length:Nat):Int)*(7919+((k % xs.length:Nat):Int))) n
theorem next_nil (b:Nat) (av:Option Addr) (cap k:Nat) (n:Int) (w:World) (hn:n≤9223372036854775807) (hk:k≤1073741824)
 (S:Strm b av cap [] w k) :
 Calls Tryz.prog 37 #[.pointer (some ⟨b,0,none⟩),.int .i64 n] w fun e w'=>e=.returned (.int .i64 (nextv [] k n))∧w.setCell ⟨b,1,none⟩ (.int .i64 ((k:Int)+1))=w':=by
 have h0:=S.c0
 have h1:=S.c1
 have hf:=S.f1
 clear S
 go_enter Tryz.func37,Tryz.ntmps37
 go_wp2_with fail
 refine (below_any _ _ _ hn).mono ?_
 rintro e w' ⟨rfl,rfl⟩
 go_wp2_with fail
 go_ret
 exact ⟨ret_i64 (by simp [nextv]),rfl⟩
theorem div_bound (k n:Nat) (hn:0<n) (hk:k≤1073741824) :
 (0:Int)≤(k:Int) / (n:Int)*(7919+(k:Int) % (n:Int))∧(k:Int) / (n:Int)*(7919+(k:Int) % (n:Int))≤8504035246080:=by
 have h1:=Nat.div_mul_le_self k n
 have h2:=Nat.mul_le_mul_left (k / n) (Nat.le_of_lt (Nat.mod_lt k hn))
 have h3:=Nat.div_le_self k n
 have e:(k:Int) / (n:Int)*(7919+(k:Int) % (n:Int))=((k / n:Nat):Int)*7919+((k / n*(k % n):Nat):Int):=by
  rw [Int.mul_add,Int.natCast_mul,Int.natCast_ediv,Int.natCast_emod]
 rw [e]
 have h4:=Nat.le_trans h2 h1
 generalize k / n*(k % n)=p at h4 ⊢
 generalize k / n=q at h3 ⊢
 omega
theorem next_some (b:Nat) (av:Option Addr) (cap k:Nat) (n:Int) (xs:List Int) (w:World) (hn:n≤9223372036854775807) (hk:k≤1073741824) (hx:1≤xs.length) (hx2:xs.length≤9223372036854775807)
 (S:Strm b av cap xs w k) :
 Calls Tryz.prog 37 #[.pointer (some ⟨b,0,none⟩),.int .i64 n] w fun e w'=>e=.returned (.int .i64 (nextv xs k n))∧∃ m,(w.setCell ⟨b,1,none⟩ (.int .i64 ((k:Int)+1))).drewN m=w':=by
 have h0:=S.c0
 have h1:=S.c1
 have hf:=S.f1
 have hm:k % xs.length<xs.length:=Nat.mod_lt _ (by omega)
 obtain ⟨bl,off,rfl,hb,hc⟩:=S.el _ hm
 have hb':b≠bl:=fun e=>hb e.symm
 have hz:((xs.length:Int) == 0)=false:=beq_eq_false_iff_ne.2 (by omega)
 have hp:(0:Int)≤(k:Int) % (xs.length:Int)∧(k:Int) % (xs.length:Int)<xs.length:=⟨Int.emod_nonneg _ (by omega),Int.emod_lt_of_pos _ (by omega)⟩
 have hq:(0:Int)≤(k:Int) / (xs.length:Int)∧(k:Int) / (xs.length:Int)≤k:=⟨Int.ediv_nonneg (by omega) (by omega),Int.ediv_le_self _ (by omega)⟩
 have hp3:(k:Int) % (xs.length:Int)≤k:=by have:=Nat.mod_le k xs.length; omega
 have hr:=div_bound k xs.length (by omega) hk
 clear S
 go_enter Tryz.func37,Tryz.ntmps37
 go_wp2_with fail
 go_quiet (fail)
 go_wp2_with fail
 go_quiet (fail)
 go_wp2_with fail
 refine (below_any _ _ _ (by omega)).mono ?_
 rintro e w' ⟨rfl,rfl⟩
 have l1:=below_lo xs[k % xs.length] 1073741824
 have l2:=below_hi xs[k % xs.length] 1073741824 (by omega)
 go_wp2_with fail
 refine (below_any _ _ _ hn).mono ?_
 rintro e w' ⟨rfl,rfl⟩
 go_wp2_with fail
 go_ret
 refine ⟨ret_i64 ?_,_,rfl⟩
 rw [nextv,if_neg (by omega)]
 simp [List.getD,hm]
theorem Strm.lt {b av cap xs w k} (h:Strm b av cap xs w k):b<w.heap.size:=xL h.blk
theorem Strm.grown {b av cap xs w w' k} {row:Option Nat} (h:Strm b av cap xs w k) (g:w.grownBy w' row) (hr:row≠some b)
 (he:∀ a,av=some a→row≠some a.block):Strm b av cap xs w' k:=by
 refine ⟨by rw [g.block b h.lt (fun e=>hr e.symm)]; exact h.blk,fun j hj=>?_⟩
 obtain ⟨bl,off,e,hb,hc⟩:=h.el j hj
 exact ⟨bl,off,e,hb,g.cell hc (fun e'=>he _ e e'.symm)⟩
theorem Strm.step {b av cap xs w k} (h:Strm b av cap xs w k) (m k':Nat) :
 Sto b av cap xs w ((w.setCell ⟨b,1,none⟩ (.int .i64 (k':Int))).drewN m) k':=by
 have hlt:=h.lt
 have hb':w.heap[b]=.cells #[.slice av xs.length cap,.int .i64 k] 25  (0,0):=by simpa [Array.getElem?_eq_getElem hlt] using h.blk
 refine ⟨⟨rfl,rfl,rfl,by simp [World.setCell,World.drewN],fun i hi hne=>?_⟩,?_,fun j hj=>?_⟩
 · exact Below.heap_setCell _ _ _ _ (fun e=>hne (by rw [e]))
 · show (w.heap.modify b _)[b]? = _
   rw [Array.getElem?_eq_getElem (by simpa using hlt),Array.getElem_modify_self,hb']
   rfl
 · obtain ⟨bl,off,e,hb,hc⟩:=h.el j hj
   refine ⟨bl,off,e,hb,?_⟩
   rw [← hc]
   exact World.cell?_of_block (w:=w) (Below.heap_setCell _ _ _ _ hb)
theorem Sto.refl {b av cap xs w k} (h:Strm b av cap xs w k):Sto b av cap xs w w k:=⟨⟨rfl,rfl,rfl,Nat.le_refl _,fun _ _ _=>rfl⟩,h⟩
theorem xT {w0 w1 w2:World} {r:Option Nat} (h:w0.grownBy w1 r) (g:w1.grownBy w2 r):w0.grownBy w2 r :=
 ⟨g.os.trans h.os,g.tape.trans h.tape,g.output.trans h.output,Nat.le_trans h.size g.size,fun k hk hn=>(g.block k (Nat.lt_of_lt_of_le hk h.size) hn).trans (h.block k hk hn)⟩
theorem Sto.trans {b av cap xs w0 w1 w2 k1 k2} (h:Sto b av cap xs w0 w1 k1) (g:Sto b av cap xs w1 w2 k2):Sto b av cap xs w0 w2 k2 :=
 ⟨xT h.grow g.grow,g.strm⟩
theorem Strm.alloc {b av cap xs w k} (h:Strm b av cap xs w k) (o:Obj):Strm b av cap xs (w.alloc o) k:=by
 refine ⟨by rw [Below.heap_alloc _ _ _ h.lt]; exact h.blk,fun j hj=>?_⟩
 obtain ⟨bl,off,e,hb,hc⟩:=h.el j hj
 exact ⟨bl,off,e,hb,World.grownBy.cell (xG w o none) hc (by simp)⟩
theorem Sto.alloc {b av cap xs w w' k} (h:Sto b av cap xs w w' k) (o:Obj):Sto b av cap xs w (w'.alloc o) k :=
 ⟨xT h.grow (xG w' o (some b)),h.strm.alloc o⟩
theorem Strm.drew {b av cap xs w k} (h:Strm b av cap xs w k):Strm b av cap xs w.drew k:=⟨h.blk,h.el⟩
theorem Sto.drew {b av cap xs w w' k} (h:Sto b av cap xs w w' k):Sto b av cap xs w w'.drew k:=⟨⟨h.grow.os,h.grow.tape,h.grow.output,h.grow.size,h.grow.block⟩,h.strm.drew⟩
theorem Sto.kept {b av cap xs w w' k} (h:Sto b av cap xs w w' k) {r:Nat} {o:Obj} (hr:w.heap[r]? = some o) (hb:r≠b):w'.heap[r]? = some o:=by
 rw [h.grow.block r (xL hr) (by simpa using hb)]; exact hr
theorem Sto.setCell {b av cap xs w w' k k0} (h:Sto b av cap xs w w' k) (S:Strm b av cap xs w k0) (p:Addr) (u:Value) (hp:w.heap.size≤p.block):Sto b av cap xs w (w'.setCell p u) k:=by
 have hb:=S.lt
 refine ⟨⟨h.grow.os,h.grow.tape,h.grow.output,by have:=h.grow.size; simpa [World.setCell] using this,fun i hi hn=>?_⟩,?_,fun j hj=>?_⟩
 · rw [Below.heap_setCell _ _ _ _ (by omega)]; exact h.grow.block i hi hn
 · rw [Below.heap_setCell _ _ _ _ (by omega)]; exact h.strm.blk
 · obtain ⟨bl,off,e,hb2,hc⟩:=h.strm.el j hj
   obtain ⟨bl',off',e',_,hc'⟩:=S.el j hj
   rw [e] at e'
   simp only [Option.some.injEq,Addr.mk.injEq] at e'
   have hlt:bl'<w.heap.size:=World.block_lt_of_cell? w _ hc'
   have hne:bl≠p.block:=by omega
   refine ⟨bl,off,e,hb2,?_⟩
   rw [← hc]
   exact World.cell?_of_block (w:=w') (Below.heap_setCell _ _ _ _ hne)
theorem Sto.newer {b av cap xs w w1 w2 k k0} {row:Option Nat} (h:Sto b av cap xs w w1 k) (S:Strm b av cap xs w k0) (g:w1.grownBy w2 row) (hr:∀ r,row=some r→w.heap.size≤r):Sto b av cap xs w w2 k:=by
 have hb:=S.lt
 have hs:=h.grow.size
 have key:∀ i,i<w.heap.size→w2.heap[i]? = w1.heap[i]?:=fun i hi=>g.block i (by omega) (fun e=>by have:=hr i e.symm; omega)
 refine ⟨⟨g.os.trans h.grow.os,g.tape.trans h.grow.tape,g.output.trans h.grow.output,Nat.le_trans hs g.size,fun i hi hn=>(key i hi).trans (h.grow.block i hi hn)⟩,by rw [key b hb]; exact h.strm.blk,fun j hj=>?_⟩
 obtain ⟨bl,off,e,hb2,hc⟩:=h.strm.el j hj
 obtain ⟨bl',off',e',_,hc'⟩:=S.el j hj
 rw [e] at e'
 simp only [Option.some.injEq,Addr.mk.injEq] at e'
 have hlt:bl'<w.heap.size:=World.block_lt_of_cell? w _ hc'
 refine ⟨bl,off,e,hb2,?_⟩
 rw [← hc]
 exact World.cell?_of_block (w:=w1) (key bl (by omega))
theorem next_any {b:Nat} {av:Option Addr} {cap k:Nat} {xs:List Int} {w:World} (n:Int) (hn:n≤9223372036854775807) (hk:k≤1073741824) (hx2:xs.length≤9223372036854775807)
 (S:Strm b av cap xs w k) :
 Calls Tryz.prog 37 #[.pointer (some ⟨b,0,none⟩),.int .i64 n] w fun e w'=>e=.returned (.int .i64 (nextv xs k n))∧Sto b av cap xs w w' (k+1):=by
 by_cases h:xs.length=0
 · obtain rfl:xs=[]:=List.eq_nil_of_length_eq_zero h
   refine (next_nil b av cap k n w hn hk S).mono ?_
   rintro e w' ⟨rfl,rfl⟩
   exact ⟨rfl,S.step 0 (k+1)⟩
 · refine (next_some b av cap k n xs w hn hk (by omega) hx2 S).mono ?_
   rintro e w' ⟨rfl,m,rfl⟩
   exact ⟨rfl,S.step m (k+1)⟩
theorem nextv_lo (xs:List Int) (k:Nat) (n:Int):0≤nextv xs k n:=by unfold nextv; split<;>exact below_lo _ _
theorem nextv_hi (xs:List Int) (k:Nat) (n:Int) (h:1≤n):nextv xs k n<n:=by unfold nextv; split<;>exact below_hi _ _ h
def rangev (xs:List Int) (k:Nat) (lo hi:Int):Int:=if hi<lo then lo else lo+nextv xs k (hi-lo+1)
def rangek (k:Nat) (lo hi:Int):Nat:=if hi<lo then k else k+1
theorem rangek_le (k:Nat) (lo hi:Int):k≤rangek k lo hi∧rangek k lo hi≤k+1:=by unfold rangek; split<;>omega
theorem rangev_bd (xs:List Int) (k:Nat) (lo hi:Int):lo≤rangev xs k lo hi∧(lo≤hi→rangev xs k lo hi≤hi):=by
 unfold rangev; split
 · omega
 · have:=nextv_lo xs k (hi-lo+1); have:=nextv_hi xs k (hi-lo+1) (by omega); omega
theorem ret_bool {a b:Bool} (h:a=b):Ending.returned (.bool a)=.returned (.bool b):=by rw [h]
theorem range_any {b:Nat} {av:Option Addr} {cap k:Nat} {xs:List Int} {w:World} (lo hi:Int) (hlo : -1000000000000≤lo∧lo≤1000000000000) (hhi : -1000000000000≤hi∧hi≤1000000000000)
 (hk:k≤1073741824) (hx2:xs.length≤9223372036854775807) (S:Strm b av cap xs w k) :
 Calls Tryz.prog 15 #[.pointer (some ⟨b,0,none⟩),.int .i64 lo,.int .i64 hi] w fun e w'=>e=.returned (.int .i64 (rangev xs k lo hi))∧Sto b av cap xs w w' (rangek k lo hi):=by
 by_cases h:hi<lo
 · go_enter Tryz.func15,Tryz.ntmps15
   go_wp2_with fail
   go_ret
   exact ⟨ret_i64 (by rw [rangev,if_pos h]),by rw [rangek,if_pos h]; exact Sto.refl S⟩
 · go_enter Tryz.func15,Tryz.ntmps15
   go_wp2_with fail
   refine (next_any _ (by omega) hk hx2 S).mono ?_
   rintro e w' ⟨rfl,T⟩
   have l1:=nextv_lo xs k (hi-lo+1)
   have l2:=nextv_hi xs k (hi-lo+1) (by omega)
   go_wp2_with fail
   go_ret
   exact ⟨ret_i64 (by rw [rangev,if_neg (by omega)]),by rw [rangek,if_neg (by omega)]; exact T⟩
def flipv (xs:List Int) (k:Nat) (n:Int):Bool:=nextv xs k n == 0
theorem flip_any {b:Nat} {av:Option Addr} {cap k:Nat} {xs:List Int} {w:World} (n:Int) (hn:n≤9223372036854775807)
 (hk:k≤1073741824) (hx2:xs.length≤9223372036854775807) (S:Strm b av cap xs w k) :
 Calls Tryz.prog 7 #[.pointer (some ⟨b,0,none⟩),.int .i64 n] w fun e w'=>e=.returned (.bool (flipv xs k n))∧Sto b av cap xs w w' (k+1):=by
 go_enter Tryz.func7,Tryz.ntmps7
 go_wp2_with fail
 refine (next_any _ hn hk hx2 S).mono ?_
 rintro e w' ⟨rfl,T⟩
 go_wp2_with fail
 go_ret
 exact ⟨ret_bool rfl,T⟩
def pickv (xs:List Int) (k:Nat) (ls:List Int):Int:=ls.getD (nextv xs k ls.length).toNat 0
theorem pick_any {b:Nat} {av:Option Addr} {cap k:Nat} {xs:List Int} {w:World} (p m:Nat) (ls:List Int) (hl:1≤ls.length) (hl2:ls.length≤1000000)
 (hp:p≠b) (hc:∀ j,j<ls.length→w.cell? ⟨p,j,none⟩=some (.int .i64 (ls.getD j 0)))
 (hk:k≤1073741824) (hx2:xs.length≤9223372036854775807) (S:Strm b av cap xs w k) :
 Calls Tryz.prog 35 #[.pointer (some ⟨b,0,none⟩),.slice (some ⟨p,0,none⟩) ls.length m] w fun e w'=>e=.returned (.int .i64 (pickv xs k ls))∧Sto b av cap xs w w' (k+1):=by
 have l1:=nextv_lo xs k ls.length
 have l2:=nextv_hi xs k ls.length (by omega)
 have H:=hid hc
 clear hc
 go_enter Tryz.func35,Tryz.ntmps35
 go_wp2_with fail
 refine (next_any _ (by omega) hk hx2 S).mono ?_
 rintro e w' ⟨rfl,T⟩
 have hc':w'.cell? ⟨p,(nextv xs k ls.length).toNat,none⟩=some (.int .i64 (pickv xs k ls)) :=
  T.grow.cell (H.out _ (by omega)) (by simpa using hp)
 go_wp2_with fail
 go_ret
 exact ⟨rfl,T⟩
def somev (xs:List Int) (k:Nat) (ls:List ByteArray):ByteArray:=ls.getD (nextv xs k ls.length).toNat ByteArray.empty
theorem some_any {b:Nat} {av:Option Addr} {cap k:Nat} {xs:List Int} {w:World} (p m:Nat) (ls:List ByteArray) (hl:1≤ls.length) (hl2:ls.length≤1000000)
 (hp:p≠b) (hc:∀ j,j<ls.length→w.cell? ⟨p,j,none⟩=some (.string (ls.getD j ByteArray.empty)))
 (hk:k≤1073741824) (hx2:xs.length≤9223372036854775807) (S:Strm b av cap xs w k) :
 Calls Tryz.prog 21 #[.pointer (some ⟨b,0,none⟩),.slice (some ⟨p,0,none⟩) ls.length m] w fun e w'=>e=.returned (.string (somev xs k ls))∧Sto b av cap xs w w' (k+1):=by
 have l1:=nextv_lo xs k ls.length
 have l2:=nextv_hi xs k ls.length (by omega)
 have H:=hid hc
 clear hc
 go_enter Tryz.func21,Tryz.ntmps21
 go_wp2_with fail
 refine (next_any _ (by omega) hk hx2 S).mono ?_
 rintro e w' ⟨rfl,T⟩
 have hc':w'.cell? ⟨p,(nextv xs k ls.length).toNat,none⟩=some (.string (somev xs k ls)) :=
  T.grow.cell (H.out _ (by omega)) (by simpa using hp)
 go_wp2_with fail
 go_ret
 exact ⟨rfl,T⟩
theorem somev_all (P:ByteArray→Prop) (xs:List Int) (k:Nat) (ls:List ByteArray) (hl:1≤ls.length) (h:∀ x,x∈ls→P x):P (somev xs k ls):=by
 have l1:=nextv_lo xs k ls.length
 have l2:=nextv_hi xs k ls.length (by omega)
 unfold somev
 have hj:(nextv xs k ls.length).toNat<ls.length:=by omega
 rw [List.getD_eq_getElem?_getD,List.getElem?_eq_getElem hj]
 exact h _ (List.getElem_mem hj)
theorem pickv_all (P:Int→Prop) (xs:List Int) (k:Nat) (ls:List Int) (hl:1≤ls.length) (h:∀ x,x∈ls→P x):P (pickv xs k ls):=by
 have l1:=nextv_lo xs k ls.length
 have l2:=nextv_hi xs k ls.length (by omega)
 unfold pickv
 have hj:(nextv xs k ls.length).toNat<ls.length:=by omega
 rw [List.getD_eq_getElem?_getD,List.getElem?_eq_getElem hj]
 exact h _ (List.getElem_mem hj)
theorem new_cell (w:World) (vs:List Value) (t:TypeId) (j:Nat) (h:j<vs.length):(w.alloc (.cells vs.toArray t)).cell? ⟨w.heap.size,j,none⟩=some (vs[j]):=by
 unfold World.cell?
 rw [show (w.alloc (.cells vs.toArray t)).heap[(⟨w.heap.size,j,none⟩:Addr).block]? = _ from xN w _]
 simp [h]
theorem some_new {b:Nat} {av:Option Addr} {cap k:Nat} {xs:List Int} {w:World} (ls:List ByteArray) (hl:1≤ls.length) (hl2:ls.length≤1000000)
 (hk:k≤1073741824) (hx2:xs.length≤9223372036854775807) (S:Strm b av cap xs w k) :
 Calls Tryz.prog 21 #[.pointer (some ⟨b,0,none⟩),.slice (some ⟨w.heap.size,0,none⟩) ls.length ls.length] (w.alloc (.cells (ls.map Value.string).toArray 9 )) fun e w' =>
  e=.returned (.string (somev xs k ls))∧Sto b av cap xs w w' (k+1):=by
 refine (some_any w.heap.size ls.length ls hl hl2 (by have:=S.lt; omega) (fun j hj=>?_) hk hx2 (S.alloc _)).mono ?_
 · rw [new_cell _ _ _ _ (by simpa using hj)]; simp [hj,List.getD]
 · rintro e w' ⟨rfl,T⟩
   exact ⟨rfl,((Sto.refl S).alloc _).trans T⟩
theorem pick_new {b:Nat} {av:Option Addr} {cap k:Nat} {xs:List Int} {w:World} (ls:List Int) (hl:1≤ls.length) (hl2:ls.length≤1000000)
 (hk:k≤1073741824) (hx2:xs.length≤9223372036854775807) (S:Strm b av cap xs w k) :
 Calls Tryz.prog 35 #[.pointer (some ⟨b,0,none⟩),.slice (some ⟨w.heap.size,0,none⟩) ls.length ls.length] (w.alloc (.cells (ls.map (Value.int .i64)).toArray 3 )) fun e w' =>
  e=.returned (.int .i64 (pickv xs k ls))∧Sto b av cap xs w w' (k+1):=by
 refine (pick_any w.heap.size ls.length ls hl hl2 (by have:=S.lt; omega) (fun j hj=>?_) hk hx2 (S.alloc _)).mono ?_
 · rw [new_cell _ _ _ _ (by simpa using hj)]; simp [hj,List.getD]
 · rintro e w' ⟨rfl,T⟩
   exact ⟨rfl,((Sto.refl S).alloc _).trans T⟩
def lettB (c:UInt8):Bool:=decide (97≤(c.toNat:Int)) && decide ((c.toNat:Int)≤122)
def digB (c:UInt8):Bool:=decide (48≤(c.toNat:Int)) && decide ((c.toNat:Int)≤57)
def nmB (c:UInt8):Bool:=lettB c || digB c || decide ((c.toNat:Int)=95)
def nameB (l:List UInt8):Bool:=decide (1≤l.length) && decide (l.length≤40) && lettB (l.getD 0 0) && l.all nmB
theorem isLetter_any (c:UInt8) (w:World):Calls Tryz.prog 119 #[.int .u8 c.toNat] w fun e w'=>e=.returned (.bool (lettB c))∧w=w':=by
 by_cases h:97≤(c.toNat:Int)
 · go_enter Tryz.func119,Tryz.ntmps119
   go_wp2_with fail
   go_ret
   exact ⟨ret_bool (by simp [lettB]<;>omega),rfl⟩
 · go_enter Tryz.func119,Tryz.ntmps119
   go_wp2_with fail
   go_ret
   exact ⟨ret_bool (by simp [lettB]<;>omega),rfl⟩
theorem isDigit_any (c:UInt8) (w:World):Calls Tryz.prog 130 #[.int .u8 c.toNat] w fun e w'=>e=.returned (.bool (digB c))∧w=w':=by
 by_cases h:48≤(c.toNat:Int)
 · go_enter Tryz.func130,Tryz.ntmps130
   go_wp2_with fail
   go_ret
   exact ⟨ret_bool (by simp [digB]<;>omega),rfl⟩
 · go_enter Tryz.func130,Tryz.ntmps130
   go_wp2_with fail
   go_ret
   exact ⟨ret_bool (by simp [digB]<;>omega),rfl⟩
theorem isLetter_is (c:UInt8) (b:Bool) (h:lettB c=b) (w:World):Calls Tryz.prog 119 #[.int .u8 c.toNat] w fun e w'=>e=.returned (.bool b)∧w=w':=h ▸ isLetter_any c w
theorem isDigit_is (c:UInt8) (b:Bool) (h:digB c=b) (w:World):Calls Tryz.prog 130 #[.int .u8 c.toNat] w fun e w'=>e=.returned (.bool b)∧w=w':=h ▸ isDigit_any c w
theorem isNameByte_any (c:UInt8) (w:World):Calls Tryz.prog 120 #[.int .u8 c.toNat] w fun e w'=>e=.returned (.bool (nmB c))∧w=w':=by
 obtain ⟨r,hr⟩:∃ r,nmB c=r:=⟨_,rfl⟩
 rw [hr]
 cases hc1:lettB c with
 | true =>
  obtain rfl:r=true:=by rw [← hr,nmB,hc1]; rfl
  have HC1:=hid hc1
  clear hc1 hr
  go_enter Tryz.func120,Tryz.ntmps120
  go_wp2_with fail
  refine (isLetter_is _ _ HC1.out _).mono ?_
  rintro e w1 ⟨rfl,rfl⟩
  go_wp2_with fail
  go_ret
  exact ⟨rfl,rfl⟩
 | false =>
  cases hc2:digB c with
  | true =>
   obtain rfl:r=true:=by rw [← hr,nmB,hc1,hc2]; rfl
   have HC1:=hid hc1
   have HC2:=hid hc2
   clear hc1 hc2 hr
   go_enter Tryz.func120,Tryz.ntmps120
   go_wp2_with fail
   refine (isLetter_is _ _ HC1.out _).mono ?_
   rintro e w1 ⟨rfl,rfl⟩
   go_wp2_with fail
   refine (isDigit_is _ _ HC2.out _).mono ?_
   rintro e w1 ⟨rfl,rfl⟩
   go_wp2_with fail
   go_ret
   exact ⟨rfl,rfl⟩
  | false =>
   have HC1:=hid hc1
   have HC2:=hid hc2
   have HR:=hid (show r=decide ((c.toNat:Int)=95) by rw [← hr,nmB,hc1,hc2]; rfl)
   clear hc1 hc2 hr
   go_enter Tryz.func120,Tryz.ntmps120
   go_wp2_with fail
   refine (isLetter_is _ _ HC1.out _).mono ?_
   rintro e w1 ⟨rfl,rfl⟩
   go_wp2_with fail
   refine (isDigit_is _ _ HC2.out _).mono ?_
   rintro e w1 ⟨rfl,rfl⟩
   go_wp2_with fail
   go_ret
   exact ⟨ret_bool (by rw [HR.out]; rfl),rfl⟩
theorem isNameByte_is (c:UInt8) (b:Bool) (h:nmB c=b) (w:World):Calls Tryz.prog 120 #[.int .u8 c.toNat] w fun e w'=>e=.returned (.bool b)∧w=w':=h ▸ isNameByte_any c w
theorem ba_getD (s:ByteArray) (k:Nat) (h:k<s.size):s.data.toList.getD k 0=s[k]:=by
 have h2:k<s.data.toList.length:=by simpa using h
 rw [List.getD_eq_getElem?_getD,List.getElem?_eq_getElem h2]
 rfl
theorem isName_any (s:ByteArray) (w:World) (hs:s.size≤1000000):Calls Tryz.prog 102 #[.string s] w fun e w'=>e=.returned (.bool (nameB s.data.toList))∧w=w':=by
 have hlen:s.data.toList.length=s.size:=by rw [Array.length_toList]; rfl
 obtain ⟨r,hr⟩:∃ r,nameB s.data.toList=r:=⟨_,rfl⟩
 rw [hr]
 have HR:=hid hr
 have HLEN:=hid hlen
 clear hr hlen
 by_cases h1:s.size<1
 · have hr2:r=false:=by rw [← HR.out,nameB,HLEN.out]; simp [show ¬ 1≤s.size by omega]
   go_enter Tryz.func102,Tryz.ntmps102
   go_wp2_with fail
   go_ret
   exact ⟨rfl,rfl⟩
 · by_cases h2:40<s.size
   · have hr2:r=false:=by rw [← HR.out,nameB,HLEN.out]; simp [show ¬ s.size≤40 by omega]
     go_enter Tryz.func102,Tryz.ntmps102
     go_wp2_with fail
     go_ret
     exact ⟨rfl,rfl⟩
   · have h0:0<s.size:=by omega
     cases hl:lettB s[0] with
     | false =>
      have hr2:r=false:=by
       have:s.data.toList.getD 0 0=s[0]:=ba_getD s 0 h0
       rw [← HR.out,nameB,this,hl]; simp
      have HL:=hid hl
      have HR2:=hid hr2
      clear hl hr2
      go_enter Tryz.func102,Tryz.ntmps102
      go_wp2_with fail
      refine (isLetter_is _ _ HL.out _).mono ?_
      rintro e w1 ⟨rfl,rfl⟩
      go_wp2_with fail
      go_ret
      exact ⟨by rw [HR2.out]; rfl,rfl⟩
     | true =>
      have HL:=hid hl
      have HG:=hid (show r=s.data.toList.all nmB by
       have:s.data.toList.getD 0 0=s[0]:=ba_getD s 0 h0
       rw [← HR.out,nameB,this,hl,HLEN.out]
       simp [show 1≤s.size by omega,show s.size≤40 by omega])
      clear hl
      go_enter Tryz.func102,Tryz.ntmps102
      go_wp2_with fail
      refine (isLetter_is _ _ HL.out _).mono ?_
      rintro e w1 ⟨rfl,rfl⟩
      go_wp2_with fail
      go_loopw [20] (fun i wr=>∃ j:Nat,j≤s.size∧i=.int .i64 j∧w=wr∧Hid ((s.data.toList.drop j).all nmB=r)) (fun i _=>s.size-(intOf i).toNat)
      case atStart=>exact ⟨0,Nat.zero_le _,rfl,rfl,hid (by simpa using HG.out.symm)⟩
      case round =>
       obtain ⟨j,hj,rfl,rfl,HA⟩:=hrel
       by_cases hlt:j<s.size
       · have HA2:=hid (show (nmB s[j] && (s.data.toList.drop (j+1)).all nmB)=r by
          rw [← HA.out,show s.data.toList.drop j=s.data.toList[j]'(by rw [HLEN.out]; exact hlt)::s.data.toList.drop (j+1) from List.drop_eq_getElem_cons _]; rfl)
         clear HA
         cases hc1:nmB s[j] with
         | true =>
          have HC1:=hid hc1
          clear hc1
          go_wp2_with fail
          refine (isNameByte_is _ _ HC1.out _).mono ?_
          rintro e w1 ⟨rfl,rfl⟩
          go_wp2_with fail
          go_roundw
          case rel=>exact ⟨j+1,by omega,by go_num,trivial,hid (by rw [← HA2.out,HC1.out]; rfl)⟩
          case measure=>simp [intOf]; omega
         | false =>
          have hr2:=hid (show r=false by rw [← HA2.out,hc1]; rfl)
          have HC1:=hid hc1
          clear hc1
          go_wp2_with fail
          refine (isNameByte_is _ _ HC1.out _).mono ?_
          rintro e w1 ⟨rfl,rfl⟩
          go_wp2_with fail
          go_ret
          exact ⟨by rw [hr2.out]; rfl,rfl⟩
       · have hr2:=hid (show r=true by rw [← HA.out,List.drop_eq_nil_of_le (by rw [HLEN.out]; omega)]; rfl)
         go_wp2_with fail
         go_ret
         exact ⟨by rw [hr2.out]; rfl,rfl⟩
inductive Pt where
 | mk (op low high:Int) (args:List Pt)
namespace Pt
def op:Pt→Int | mk o _ _ _=>o
def low:Pt→Int | mk _ l _ _=>l
def high:Pt→Int | mk _ _ h _=>h
def args:Pt→List Pt | mk _ _ _ a=>a
end Pt
theorem Pt.ind {P:Pt→Prop} (h:∀ o l hi aas,(∀ a∈aas,P a)→P (.mk o l hi aas)):∀ p,P p:=by
 intro p
 induction p using Pt.rec (motive_2:=fun l=>∀ a∈l,P a) with
 | mk o l hi aas ih=>exact h o l hi aas ih
 | nil=>rename_i ha; cases ha
 | cons a l iha ihl =>
  rename_i x hx
  rcases List.mem_cons.1 hx with rfl | hx
  · exact iha
  · exact ihl _ hx
mutual
def Pt.size:Pt→Nat
 | .mk _ _ _ aas=>1+sizes aas
def sizes:List Pt→Nat
 | []=>0
 | a::aas=>a.size+sizes aas
end
mutual
def Pt.nul:Pt→Bool
 | .mk o _ _ aas=>if o=1 then false else if o=2 then nulAll aas else if o=3 then nulAny aas else true
def nulAll:List Pt→Bool
 | []=>true
 | a::aas=>a.nul && nulAll aas
def nulAny:List Pt→Bool
 | []=>false
 | a::aas=>a.nul || nulAny aas
end
mutual
def Pt.leaves:Pt→Nat
 | .mk o _ _ aas=>if o=1 then 1 else ylL aas
def ylL:List Pt→Nat
 | []=>0
 | a::aas=>a.leaves+ylL aas
end
mutual
def Pt.bytes:Pt→List (Int × Int)
 | .mk o l h aas=>if o=1 then [(l,h)] else bytesL aas
def bytesL:List Pt→List (Int × Int)
 | []=>[]
 | a::aas=>a.bytes++bytesL aas
end
mutual
def Pt.first:Pt→Nat→List Nat
 | .mk o _ _ aas,b=>if o=1 then [b] else if o=2 then firstT aas b else firstO aas b
def firstT:List Pt→Nat→List Nat
 | [],_=>[]
 | a::aas,b=>a.first b++if a.nul then firstT aas (b+a.leaves) else []
def firstO:List Pt→Nat→List Nat
 | [],_=>[]
 | a::aas,b=>a.first b++firstO aas (b+a.leaves)
end
mutual
def Pt.last:Pt→Nat→List Nat
 | .mk o _ _ aas,b=>if o=1 then [b] else if o=2 then lastT aas b [] else lastO aas b
def lastT:List Pt→Nat→List Nat→List Nat
 | [],_,L=>L
 | a::aas,b,L=>lastT aas (b+a.leaves) ((if a.nul then L else [])++a.last b)
def lastO:List Pt→Nat→List Nat
 | [],_=>[]
 | a::aas,b=>a.last b++lastO aas (b+a.leaves)
end
mutual
def Pt.fol:Pt→Nat→Nat→Nat→Prop
 | .mk o _ _ aas,b,i,k=>if o=1 then False else if o=2 then folT aas b [] i k else if o=3 then folO aas b i k
  else folO aas b i k∨(i∈lastO aas b∧k∈firstO aas b)
def folT:List Pt→Nat→List Nat→Nat→Nat→Prop
 | [],_,_,_,_=>False
 | a::aas,b,L,i,k=>a.fol b i k∨(i∈L∧k∈a.first b)∨folT aas (b+a.leaves) ((if a.nul then L else [])++a.last b) i k
def folO:List Pt→Nat→Nat→Nat→Prop
 | [],_,_,_=>False
 | a::aas,b,i,k=>a.fol b i k∨folO aas (b+a.leaves) i k
end
mutual
def Pt.dn (A:Nat→Bool):Pt→Nat→Bool
 | .mk o _ _ aas,b=>if o=1 then A b else if o=2 then dnT A aas b false else dnO A aas b
def dnT (A:Nat→Bool):List Pt→Nat→Bool→Bool
 | [],_,d=>d
 | a::aas,b,d=>dnT A aas (b+a.leaves) (a.dn A b || d && a.nul)
def dnO (A:Nat→Bool):List Pt→Nat→Bool
 | [],_=>false
 | a::aas,b=>a.dn A b || dnO A aas (b+a.leaves)
end
mutual
def Pt.opn (A:Nat→Bool):Pt→Nat→Bool→List Nat
 | .mk o _ _ aas,b,β=>if o=1 then (if β then [b] else []) else if o=2 then opnT A aas b β else if o=3 then opnO A aas b β
  else opnO A aas b (β || dnO A aas b)
def opnT (A:Nat→Bool):List Pt→Nat→Bool→List Nat
 | [],_,_=>[]
 | a::aas,b,β=>a.opn A b β++opnT A aas (b+a.leaves) (a.dn A b || β && a.nul)
def opnO (A:Nat→Bool):List Pt→Nat→Bool→List Nat
 | [],_,_=>[]
 | a::aas,b,β=>a.opn A b β++opnO A aas (b+a.leaves) β
end
theorem dn_last (A:Nat→Bool) (p:Pt):∀ b,p.dn A b=(p.last b).any A:=by
 induction p using Pt.ind with
 | h o l hi aas ih =>
  intro b
  have hT:∀ (aas:List Pt),(∀ a∈aas,∀ b,a.dn A b=(a.last b).any A)→∀ b L d,d=List.any L A→dnT A aas b d=(lastT aas b L).any A:=by
   intro aas
   induction aas with
   | nil=>intro _ b L d hd; simpa [dnT,lastT] using hd
   | cons a aas iha =>
    intro h b L d hd
    simp only [dnT,lastT]
    refine iha (fun x hx=>h x (by simp [hx])) _ _ _ ?_
    rw [h a (by simp),List.any_append,hd,Bool.or_comm]
    cases a.nul<;>simp
  have hO:∀ (aas:List Pt),(∀ a∈aas,∀ b,a.dn A b=(a.last b).any A)→∀ b,dnO A aas b=(lastO aas b).any A:=by
   intro aas
   induction aas with
   | nil=>intro _ b; simp [dnO,lastO]
   | cons a aas iha =>
    intro h b
    simp only [dnO,lastO]
    rw [h a (by simp),List.any_append,iha (fun x hx=>h x (by simp [hx]))]
  simp only [Pt.dn,Pt.last]
  split
  · simp
  · split
    · exact hT aas ih b [] false (by simp)
    · exact hO aas ih b
theorem dnO_last (A:Nat→Bool) (aas:List Pt):∀ b,dnO A aas b=(lastO aas b).any A:=by
 induction aas with
 | nil=>intro b; simp [dnO,lastO]
 | cons a aas iha=>intro b; simp only [dnO,lastO]; rw [dn_last,List.any_append,iha]
theorem opn_iff (A:Nat→Bool) (p:Pt):∀ b β k,k∈p.opn A b β↔(β=true∧k∈p.first b)∨∃ i,A i=true∧p.fol b i k:=by
 induction p using Pt.ind with
 | h o l hi aas ih =>
  intro b β k
  have hO:∀ (aas:List Pt),(∀ a∈aas,∀ b β k,k∈a.opn A b β↔(β=true∧k∈a.first b)∨∃ i,A i=true∧a.fol b i k) →
   ∀ b β,k∈opnO A aas b β↔(β=true∧k∈firstO aas b)∨∃ i,A i=true∧folO aas b i k:=by
   intro aas
   induction aas with
   | nil=>intro _ b β; simp [opnO,firstO,folO]
   | cons a aas iha =>
    intro h b β
    simp only [opnO,firstO,folO,List.mem_append]
    rw [h a (by simp),iha (fun x hx=>h x (by simp [hx]))]
    constructor
    · rintro ((⟨h1,h2⟩ | ⟨i,h1,h2⟩) | ⟨h1,h2⟩ | ⟨i,h1,h2⟩)
      · exact .inl ⟨h1,.inl h2⟩
      · exact .inr ⟨i,h1,.inl h2⟩
      · exact .inl ⟨h1,.inr h2⟩
      · exact .inr ⟨i,h1,.inr h2⟩
    · rintro (⟨h1,h2 | h2⟩ | ⟨i,h1,h2 | h2⟩)
      · exact .inl (.inl ⟨h1,h2⟩)
      · exact .inr (.inl ⟨h1,h2⟩)
      · exact .inl (.inr ⟨i,h1,h2⟩)
      · exact .inr (.inr ⟨i,h1,h2⟩)
  have hT:∀ (aas:List Pt),(∀ a∈aas,∀ b β k,k∈a.opn A b β↔(β=true∧k∈a.first b)∨∃ i,A i=true∧a.fol b i k) →
   ∀ b (L:List Nat) (β γ:Bool),β=(γ || L.any A)→(k∈opnT A aas b β↔(γ=true∧k∈firstT aas b)∨∃ i,A i=true∧folT aas b L i k):=by
   intro aas
   induction aas with
   | nil=>intro _ b L β γ _; simp [opnT,firstT,folT]
   | cons a aas iha =>
    intro h b L β γ hβ
    simp only [opnT,firstT,folT,List.mem_append]
    have e:(a.dn A b || β && a.nul)=((γ && a.nul) || ((if a.nul then L else [])++a.last b).any A):=by
     rw [dn_last,hβ,List.any_append]
     cases a.nul<;>simp
     cases γ<;>cases L.any A<;>cases (a.last b).any A<;>rfl
    rw [h a (by simp),iha (fun x hx=>h x (by simp [hx])) _ ((if a.nul then L else [])++a.last b) _ (γ && a.nul) e]
    have hb:β=true↔γ=true∨∃ i,A i=true∧i∈L:=by
     rw [hβ]; simp [List.any_eq_true]
     constructor
     · rintro (h | ⟨x,h1,h2⟩)
       · exact .inl h
       · exact .inr ⟨x,h2,h1⟩
     · rintro (h | ⟨x,h1,h2⟩)
       · exact .inl h
       · exact .inr ⟨x,h2,h1⟩
    rw [hb]
    constructor
    · rintro ((⟨h1 | ⟨i,h1,h3⟩,h2⟩ | ⟨i,h1,h2⟩) | ⟨h1,h2⟩ | ⟨i,h1,h2⟩)
      · exact .inl ⟨h1,.inl h2⟩
      · exact .inr ⟨i,h1,.inr (.inl ⟨h3,h2⟩)⟩
      · exact .inr ⟨i,h1,.inl h2⟩
      · simp at h1; exact .inl ⟨h1.1,.inr (by rw [if_pos h1.2]; exact h2)⟩
      · exact .inr ⟨i,h1,.inr (.inr h2)⟩
    · rintro (⟨h1,h2 | h2⟩ | ⟨i,h1,h2 | ⟨h3,h2⟩ | h2⟩)
      · exact .inl (.inl ⟨.inl h1,h2⟩)
      · split at h2
        · rename_i hn; exact .inr (.inl ⟨by simp [h1,hn],h2⟩)
        · cases h2
      · exact .inl (.inr ⟨i,h1,h2⟩)
      · exact .inl (.inl ⟨.inr ⟨i,h1,h3⟩,h2⟩)
      · exact .inr (.inr ⟨i,h1,h2⟩)
  simp only [Pt.opn,Pt.first,Pt.fol]
  split
  · cases β<;>simp
  · split
    · exact hT aas ih b [] β β (by simp)
    · split
      · exact hO aas ih b β
      · rw [hO aas ih b,dnO_last]
        simp only [Bool.or_eq_true,List.any_eq_true]
        constructor
        · rintro (⟨h1 | ⟨i,h1,h3⟩,h2⟩ | ⟨i,h1,h2⟩)
          · exact .inl ⟨h1,h2⟩
          · exact .inr ⟨i,h3,.inr ⟨h1,h2⟩⟩
          · exact .inr ⟨i,h1,.inl h2⟩
        · rintro (⟨h1,h2⟩ | ⟨i,h1,h2 | ⟨h3,h2⟩⟩)
          · exact .inl ⟨.inl h1,h2⟩
          · exact .inr ⟨i,h1,h2⟩
          · exact .inl ⟨.inr ⟨i,h3,h1⟩,h2⟩
end Go.Proofs.YtplbacfjmajeeaaGreatDoor
