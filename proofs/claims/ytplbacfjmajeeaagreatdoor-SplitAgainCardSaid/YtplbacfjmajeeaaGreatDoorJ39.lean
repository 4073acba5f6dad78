import Derived.Test.YtplbacfjmajeeaaGreatDoorJ37
namespace Go.Proofs.YtplbacfjmajeeaaGreatDoor
open Go.Lib (hid)
set_option maxHeartbeats 4000000
set_option maxRecDepth 100000
open Go.RowKit Go.Region
def SplitTwo (w:World) (e:Ending) (w':World):Prop:=∃ a c x,e=.returned (.tuple #[.slice a 2 c,.string x,.int .i64 0,.int .i64 0])∧w.grownBy w' none
def theMark:Mrk:=⟨⟨#[97]⟩,.mk 1 97 97 []⟩
theorem split_aa:(splitM [theMark] ⟨#[97,97]⟩).1.length=2∧(splitM [theMark] ⟨#[97,97]⟩).2.2.1=0∧(splitM [theMark] ⟨#[97,97]⟩).2.2.2=0:=by decide +kernel
theorem splitTop_a (B:Nat) (w:World) (hb:w.heap[B]? = some (.cells #[.string ⟨#[97]⟩,.int .i64 1,.int .i64 97,.int .i64 97,.slice none 0 0] 88 (0,0))) :
 Calls Tryz.prog 18 #[.slice (some ⟨B,0,none⟩) 1 1,.string ⟨#[97,97]⟩] w (SplitTwo w):=by
 have hm:MrkAt w [theMark] B 0:=⟨⟨xC hb 0,_,⟨_,_,_,_,rfl,xC hb 1,xC hb 2,xC hb 3,xC hb 4⟩,none,0,rfl,.inl rfl⟩,trivial⟩
 refine (splitTop_any [theMark] (some ⟨B,0,none⟩) 1 ⟨#[97,97]⟩ w (by decide) (by decide) (by decide) (by decide) (.inr ⟨B,0,rfl,hm⟩)).mono ?_
 rintro e w' ⟨v,rfl,own,g⟩
 obtain ⟨h1,h2,h3⟩:=split_aa
 rw [h1] at own
 obtain ⟨a,c,rfl⟩:=own_shape own
 exact ⟨a,c,_,by rw [h2,h3],g⟩
theorem lexed_any (w:World):Calls Tryz.prog 12 #[] w fun e w'=>e=.returned (.bool true)∧w.grownBy w' none:=by
 go_enter Tryz.func12,Tryz.ntmps12
 go_wp2_with fail
 have g0:w.grownBy ((w.alloc (.cells #[.int .i64 1,.int .i64 97,.int .i64 97,.slice none 0 0] 28)).alloc (.cells #[.string ⟨#[97]⟩,.int .i64 1,.int .i64 97,.int .i64 97,.slice none 0 0] 88)) none:=yga (xG _ _ _) _
 have b0:((w.alloc (.cells #[.int .i64 1,.int .i64 97,.int .i64 97,.slice none 0 0] 28)).alloc (.cells #[.string ⟨#[97]⟩,.int .i64 1,.int .i64 97,.int .i64 97,.slice none 0 0] 88)).heap[w.heap.size+1]? = some (.cells #[.string ⟨#[97]⟩,.int .i64 1,.int .i64 97,.int .i64 97,.slice none 0 0] 88 (0,0)):=yhn _ _ _ (by simp)
 generalize (w.alloc _).alloc _=w1 at g0 b0 ⊢
 refine (splitTop_a (w.heap.size+1) w1 b0).mono ?_
 rintro e w2 ⟨a,c,x,rfl,g2⟩
 have G2:=hid (xT g0 g2)
 clear g0 b0 g2
 go_wp2_with fail
 go_ret
 exact ⟨rfl,G2.out⟩
open Go.RowKit
structure Ed where
 at_:Int
 old:Int
 new:ByteArray
def editNews:List ByteArray:=[⟨#[]⟩,⟨#[97]⟩,⟨#[32]⟩,⟨#[49]⟩,⟨#[43]⟩,⟨#[41]⟩,⟨#[35]⟩,⟨#[34]⟩,⟨#[97,98,32,49]⟩,⟨#[46]⟩]
def anEditBase (xs:List Int) (k:Nat) (n:Int):Ed:=⟨nextv xs k (n+1),min (pickv xs (k+1) [0,0,1,2,5]) (n-nextv xs k (n+1)),somev xs (k+2) editNews⟩
def anEditV (xs:List Int) (k:Nat) (n:Int):Ed :=
 if flipv xs (k+3) 25 then ⟨pickv xs (k+4) [-1,n+1,nextv xs k (n+1)],pickv xs (k+5) [0,-1,n+1],somev xs (k+2) editNews⟩ else anEditBase xs k n
def anEditK (xs:List Int) (k:Nat):Nat:=if flipv xs (k+3) 25 then k+6 else k+4
def EdPost (b:Nat) (av:Option Addr) (cap:Nat) (xs:List Int) (v:Ed) (k':Nat) (w:World) (e:Ending) (w':World):Prop :=
 e=.returned (.agg #[.int .i64 v.at_,.int .i64 v.old,.string v.new])∧Sto b av cap xs w w' k'
theorem anEdit_any {b:Nat} {av:Option Addr} {cap k:Nat} {xs:List Int} {w:World} (n:Int) (hn:0≤n∧n≤1000000)
 (hk:k≤1000000000) (hx2:xs.length≤9223372036854775807) (S:Strm b av cap xs w k) :
 Calls Tryz.prog 32 #[.pointer (some ⟨b,0,none⟩),.int .i64 n] w (EdPost b av cap xs (anEditV xs k n) (anEditK xs k) w):=by
 have hRb:w.heap.size≠b:=by have:=S.lt; omega
 have T0:=(Sto.refl S).alloc (.cells #[.int .i64 0,.int .i64 0,.string ⟨#[]⟩] 68)
 go_enter Tryz.func32,Tryz.ntmps32
 go_wp2_with fail
 refine (next_any _ (by omega) (by omega) hx2 T0.strm).mono ?_
 rintro e w1 ⟨rfl,T1⟩
 have l1:=nextv_lo xs k (n+1)
 have l2:=nextv_hi xs k (n+1) (by omega)
 have E1:=hid (show nextv xs k (n+1)=nextv xs k (n+1) from rfl)
 go_wp2_with fail
 refine (pick_new [0,0,1,2,5] (by decide) (by decide) (by omega) hx2 T1.strm).mono ?_
 rintro e w2 ⟨rfl,T2⟩
 have p1:0≤pickv xs (k+1) [0,0,1,2,5]∧pickv xs (k+1) [0,0,1,2,5]≤5:=pickv_all (fun x=>0≤x∧x≤5) _ _ _ (by decide) (by decide)
 obtain ⟨P,hP⟩:∃ P,P=pickv xs (k+1) [0,0,1,2,5]:=⟨_,rfl⟩
 obtain ⟨N,hN⟩:∃ N,N=nextv xs k (n+1):=⟨_,rfl⟩
 rw [← hP] at p1 ⊢
 rw [← hN] at l1 l2 ⊢
 have HP:=hid hP
 have HN:=hid hN
 clear hP hN E1
 by_cases hm:P≤n-N
 · have HM:=hid (show min P (n-N)=P by omega)
   go_wp2_with fail
   try rw [HM.out]
   refine (some_new editNews (by decide) (by decide) (by omega) hx2 T2.strm).mono ?_
   rintro e w3 ⟨rfl,T3⟩
   go_wp2_with fail
   try rw [HM.out]
   refine (flip_any 25 (by omega) (by omega) hx2 (T3.alloc _).strm).mono ?_
   rintro e w4 ⟨rfl,T4⟩
   have bR4:=T4.kept ((T3.alloc (.cells #[.int .i64 N,.int .i64 (P),.string (somev xs (k+1+1) editNews)] 68)).kept (T2.kept (T1.kept (xN w _) hRb) hRb) hRb) hRb
   have hEb:w3.heap.size≠b:=by have:=T3.strm.lt; omega
   have bE4:=T4.kept (yhn w3 _ _ rfl) hEb
   have TT:=T0.trans (T1.trans (T2.trans ((T3.alloc _).trans T4)))
   have hEne:w3.heap.size≠w.heap.size:=by have:=T1.grow.size; have:=T2.grow.size; have:=T3.grow.size; simp at *; omega
   have hREne:w.heap.size≠w3.heap.size:=fun e=>hEne e.symm
   have hEw:w.heap.size≤w3.heap.size:=by have:=T1.grow.size; have:=T2.grow.size; have:=T3.grow.size; simp at *; omega
   clear T0 T1 T2 T3
   by_cases hf:flipv xs (k+1+1+1) 25=true
   · have HV:=hid (show anEditV xs k n=⟨(pickv xs (k+1+1+1+1) [-1,n+1,N]),(pickv xs (k+1+1+1+1+1) [0,-1,n+1]),(somev xs (k+1+1) editNews)⟩ by rw [HN.out]; exact if_pos hf)
     have HK:=hid (show anEditK xs k=k+1+1+1+1+1+1 from if_pos hf)
     go_wp2_with fail
     refine (pick_new [-1,n+1,N] (by simp) (by simp) (by omega) hx2 T4.strm).mono ?_
     rintro e w5 ⟨rfl,T5⟩
     go_wp2_with fail
     refine (pick_new [0,-1,n+1] (by simp) (by simp) (by omega) hx2 T5.strm).mono ?_
     rintro e w6 ⟨rfl,T6⟩
     have bR:=T6.kept (T5.kept bR4 hRb) hRb
     have bE:=T6.kept (T5.kept bE4 hEb) hEb
     have T7:=TT.trans (T5.trans T6)
     clear T5 T6 TT T4 bR4 bE4
     obtain ⟨cR0,cR1,cR2⟩:=cb3 bR
     obtain ⟨fR0,fR1,fR2⟩:=fb3 bR
     obtain ⟨cE0,cE1,cE2⟩:=cb3 bE
     obtain ⟨fE0,fE1⟩:=fb2 bE
     have T8:=(((((T7.setCell S ⟨w3.heap.size,0,none⟩ (.int .i64 (pickv xs (k+1+1+1+1) [-1,n+1,N])) hEw).setCell S ⟨w3.heap.size,1,none⟩ (.int .i64 (pickv xs (k+1+1+1+1+1) [0,-1,n+1])) hEw).setCell S ⟨w.heap.size,0,none⟩ (.int .i64 (pickv xs (k+1+1+1+1) [-1,n+1,N])) (Nat.le_refl _)).setCell S ⟨w.heap.size,1,none⟩ (.int .i64 (pickv xs (k+1+1+1+1+1) [0,-1,n+1])) (Nat.le_refl _)).setCell S ⟨w.heap.size,2,none⟩ (.string (somev xs (k+1+1) editNews)) (Nat.le_refl _))
     clear T7 bR bE
     go_wp2_with fail
     refine bodyPost_ret (v:=.agg #[.int .i64 (pickv xs (k+1+1+1+1) [-1,n+1,N]),.int .i64 (pickv xs (k+1+1+1+1+1) [0,-1,n+1]),.string (somev xs (k+1+1) editNews)]) (by simp [results,Tryz.results32,go_sem,cR0,cR1,cR2]) rfl ⟨by rw [HV.out],by rw [HK.out]; exact T8⟩
   · have HV:=hid (show anEditV xs k n=⟨N,P,(somev xs (k+1+1) editNews)⟩ by rw [← HM.out,HN.out,HP.out]; exact if_neg hf)
     have HK:=hid (show anEditK xs k=k+1+1+1+1 from if_neg hf)
     have bR:=bR4
     have bE:=bE4
     clear T4 bR4 bE4
     obtain ⟨cR0,cR1,cR2⟩:=cb3 bR
     obtain ⟨fR0,fR1,fR2⟩:=fb3 bR
     obtain ⟨cE0,cE1,cE2⟩:=cb3 bE
     obtain ⟨fE0,fE1⟩:=fb2 bE
     have T8:=(((TT.setCell S ⟨w.heap.size,0,none⟩ (.int .i64 N) (Nat.le_refl _)).setCell S ⟨w.heap.size,1,none⟩ (.int .i64 (P)) (Nat.le_refl _)).setCell S ⟨w.heap.size,2,none⟩ (.string (somev xs (k+1+1) editNews)) (Nat.le_refl _))
     clear TT bR bE
     go_wp2_with fail
     refine bodyPost_ret (v:=.agg #[.int .i64 N,.int .i64 (P),.string (somev xs (k+1+1) editNews)]) (by simp [results,Tryz.results32,go_sem,cR0,cR1,cR2]) rfl ⟨by rw [HV.out],by rw [HK.out]; exact T8⟩
 · have HM:=hid (show min P (n-N)=n-N by omega)
   go_wp2_with fail
   try rw [HM.out]
   refine (some_new editNews (by decide) (by decide) (by omega) hx2 T2.strm).mono ?_
   rintro e w3 ⟨rfl,T3⟩
   go_wp2_with fail
   try rw [HM.out]
   refine (flip_any 25 (by omega) (by omega) hx2 (T3.alloc _).strm).mono ?_
   rintro e w4 ⟨rfl,T4⟩
   have bR4:=T4.kept ((T3.alloc (.cells #[.int .i64 N,.int .i64 (n-N),.string (somev xs (k+1+1) editNews)] 68)).kept (T2.kept (T1.kept (xN w _) hRb) hRb) hRb) hRb
   have hEb:w3.heap.size≠b:=by have:=T3.strm.lt; omega
   have bE4:=T4.kept (yhn w3 _ _ rfl) hEb
   have TT:=T0.trans (T1.trans (T2.trans ((T3.alloc _).trans T4)))
   have hEne:w3.heap.size≠w.heap.size:=by have:=T1.grow.size; have:=T2.grow.size; have:=T3.grow.size; simp at *; omega
   have hREne:w.heap.size≠w3.heap.size:=fun e=>hEne e.symm
   have hEw:w.heap.size≤w3.heap.size:=by have:=T1.grow.size; have:=T2.grow.size; have:=T3.grow.size; simp at *; omega
   clear T0 T1 T2 T3
   by_cases hf:flipv xs (k+1+1+1) 25=true
   · have HV:=hid (show anEditV xs k n=⟨(pickv xs (k+1+1+1+1) [-1,n+1,N]),(pickv xs (k+1+1+1+1+1) [0,-1,n+1]),(somev xs (k+1+1) editNews)⟩ by rw [HN.out]; exact if_pos hf)
     have HK:=hid (show anEditK xs k=k+1+1+1+1+1+1 from if_pos hf)
     go_wp2_with fail
     refine (pick_new [-1,n+1,N] (by simp) (by simp) (by omega) hx2 T4.strm).mono ?_
     rintro e w5 ⟨rfl,T5⟩
     go_wp2_with fail
     refine (pick_new [0,-1,n+1] (by simp) (by simp) (by omega) hx2 T5.strm).mono ?_
     rintro e w6 ⟨rfl,T6⟩
     have bR:=T6.kept (T5.kept bR4 hRb) hRb
     have bE:=T6.kept (T5.kept bE4 hEb) hEb
     have T7:=TT.trans (T5.trans T6)
     clear T5 T6 TT T4 bR4 bE4
     obtain ⟨cR0,cR1,cR2⟩:=cb3 bR
     obtain ⟨fR0,fR1,fR2⟩:=fb3 bR
     obtain ⟨cE0,cE1,cE2⟩:=cb3 bE
     obtain ⟨fE0,fE1⟩:=fb2 bE
     have T8:=(((((T7.setCell S ⟨w3.heap.size,0,none⟩ (.int .i64 (pickv xs (k+1+1+1+1) [-1,n+1,N])) hEw).setCell S ⟨w3.heap.size,1,none⟩ (.int .i64 (pickv xs (k+1+1+1+1+1) [0,-1,n+1])) hEw).setCell S ⟨w.heap.size,0,none⟩ (.int .i64 (pickv xs (k+1+1+1+1) [-1,n+1,N])) (Nat.le_refl _)).setCell S ⟨w.heap.size,1,none⟩ (.int .i64 (pickv xs (k+1+1+1+1+1) [0,-1,n+1])) (Nat.le_refl _)).setCell S ⟨w.heap.size,2,none⟩ (.string (somev xs (k+1+1) editNews)) (Nat.le_refl _))
     clear T7 bR bE
     go_wp2_with fail
     refine bodyPost_ret (v:=.agg #[.int .i64 (pickv xs (k+1+1+1+1) [-1,n+1,N]),.int .i64 (pickv xs (k+1+1+1+1+1) [0,-1,n+1]),.string (somev xs (k+1+1) editNews)]) (by simp [results,Tryz.results32,go_sem,cR0,cR1,cR2]) rfl ⟨by rw [HV.out],by rw [HK.out]; exact T8⟩
   · have HV:=hid (show anEditV xs k n=⟨N,n-N,(somev xs (k+1+1) editNews)⟩ by rw [← HM.out,HN.out,HP.out]; exact if_neg hf)
     have HK:=hid (show anEditK xs k=k+1+1+1+1 from if_neg hf)
     have bR:=bR4
     have bE:=bE4
     clear T4 bR4 bE4
     obtain ⟨cR0,cR1,cR2⟩:=cb3 bR
     obtain ⟨fR0,fR1,fR2⟩:=fb3 bR
     obtain ⟨cE0,cE1,cE2⟩:=cb3 bE
     obtain ⟨fE0,fE1⟩:=fb2 bE
     have T8:=(((TT.setCell S ⟨w.heap.size,0,none⟩ (.int .i64 N) (Nat.le_refl _)).setCell S ⟨w.heap.size,1,none⟩ (.int .i64 (n-N)) (Nat.le_refl _)).setCell S ⟨w.heap.size,2,none⟩ (.string (somev xs (k+1+1) editNews)) (Nat.le_refl _))
     clear TT bR bE
     go_wp2_with fail
     refine bodyPost_ret (v:=.agg #[.int .i64 N,.int .i64 (n-N),.string (somev xs (k+1+1) editNews)]) (by simp [results,Tryz.results32,go_sem,cR0,cR1,cR2]) rfl ⟨by rw [HV.out],by rw [HK.out]; exact T8⟩
theorem anEdit_bd (xs:List Int) (k:Nat) (n:Int) (hn:0≤n∧n≤1000000):(anEditV xs k n).new.size≤4∧(-1000000≤(anEditV xs k n).at_∧(anEditV xs k n).at_≤2000000)∧(-1000000≤(anEditV xs k n).old∧(anEditV xs k n).old≤2000000):=by
 have l1:=nextv_lo xs k (n+1)
 have l2:=nextv_hi xs k (n+1) (by omega)
 have s1:(somev xs (k+2) editNews).size≤4:=somev_all (fun x=>x.size≤4) xs _ editNews (by decide) (by decide)
 unfold anEditV
 split
 · have p1 : -1≤pickv xs (k+4) [-1,n+1,nextv xs k (n+1)]∧pickv xs (k+4) [-1,n+1,nextv xs k (n+1)]≤n+1:=pickv_all (fun x=>-1≤x∧x≤n+1) _ _ _ (by simp) (by intro x hx; simp at hx; omega)
   have p2 : -1≤pickv xs (k+5) [0,-1,n+1]∧pickv xs (k+5) [0,-1,n+1]≤n+1:=pickv_all (fun x=>-1≤x∧x≤n+1) _ _ _ (by simp) (by intro x hx; simp at hx; omega)
   exact ⟨s1,⟨by simp only; omega,by simp only; omega⟩,by simp only; omega,by simp only; omega⟩
 · have p1:0≤pickv xs (k+1) [0,0,1,2,5]∧pickv xs (k+1) [0,0,1,2,5]≤5:=pickv_all (fun x=>0≤x∧x≤5) _ _ _ (by decide) (by decide)
   refine ⟨s1,⟨?_,?_⟩,?_,?_⟩<;>simp only [anEditBase]<;>omega
theorem scanL_sight (ps:List Pt) (L:List En):∀ (cs:List UInt8) (now k m lg sg:Nat),(scanL ps L cs now k m lg sg).2.2=sg∨k<(scanL ps L cs now k m lg sg).2.2
 | [],_,_,_,_,_=>.inl rfl
 | c::cs,now,k,m,lg,sg=>by
  rw [scanL]
  split
  · exact .inr (Nat.lt_succ_self k)
  · rcases scanL_sight ps L cs (nxS ps L now c.toNat) (k+1) (if 0<(fitsAt ps L (nxS ps L now c.toNat)).length then (fitsAt ps L (nxS ps L now c.toNat)).getD 0 0 else m) (if 0<(fitsAt ps L (nxS ps L now c.toNat)).length then k+1 else lg) sg with h | h
    · exact .inl h
    · exact .inr (by omega)
theorem scanL_ls (ps:List Pt) (L:List En):∀ (cs:List UInt8) (now k m lg sg:Nat),lg≤k→k+cs.length≤sg→(scanL ps L cs now k m lg sg).2.1≤(scanL ps L cs now k m lg sg).2.2
 | [],_,_,_,_,_,h,h2=>by simp only [scanL,List.length_nil] at h2 ⊢; omega
 | c::cs,now,k,m,lg,sg,h,h2=>by
  have hx:(if 0<(fitsAt ps L (nxS ps L now c.toNat)).length then k+1 else lg)≤k+1:=by split<;>omega
  rw [scanL]
  split
  · exact hx
  · exact scanL_ls ps L cs _ _ _ _ _ hx (by simp only [List.length_cons] at h2; omega)
theorem scanL_agree (ps:List Pt) (L:List En):∀ (d:Nat) (cs cs':List UInt8) (now k m lg sg sg':Nat),cs.take d=cs'.take d→d≤cs.length→d≤cs'.length→k+d<sg→k+d<sg' →
 (scanL ps L cs now k m lg sg).2.2≤k+d→scanL ps L cs' now k m lg sg'=scanL ps L cs now k m lg sg
 | 0,cs,cs',now,k,m,lg,sg,sg',_,_,_,h4,_,h6=>by
  rcases scanL_sight ps L cs now k m lg sg with h | h<;>omega
 | d+1,cs,cs',now,k,m,lg,sg,sg',h1,h2,h3,h4,h5,h6=>by
  obtain ⟨c,r,rfl⟩:=List.exists_cons_of_length_pos (show 0<cs.length by omega)
  obtain ⟨c',r',rfl⟩:=List.exists_cons_of_length_pos (show 0<cs'.length by omega)
  simp only [List.take_succ_cons,List.cons.injEq] at h1
  obtain ⟨rfl,h1⟩:=h1
  simp only [List.length_cons] at h2 h3
  rw [scanL] at h6
  rw [scanL,scanL]
  by_cases hs:stuckS ps L (nxS ps L now c.toNat)=true
  · rw [if_pos hs,if_pos hs]
  · rw [if_neg hs] at h6
    rw [if_neg hs,if_neg hs]
    exact scanL_agree ps L d r r' _ _ _ _ _ _ h1 (by omega) (by omega) (by omega) (by omega) (by omega)
theorem longL_agree (ps:List Pt) (L:List En) (s s2:List UInt8) (a A:Nat) (h:s.take A=s2.take A) (h1:A≤s.length) (h2:A≤s2.length) (ha:a≤A) (hg:a+(longL ps L s a).2.2≤A):longL ps L s2 a=longL ps L s a:=by
 unfold longL at hg ⊢
 refine scanL_agree ps L (A-a) _ _ _ _ _ _ _ _ ?_ (by rw [List.length_drop]; omega) (by rw [List.length_drop]; omega) (by omega) (by omega) (by omega)
 rw [← List.drop_take,← List.drop_take,h]
theorem longL_sight (ps:List Pt) (L:List En) (s:List UInt8) (a:Nat):0<(longL ps L s a).2.2:=by
 unfold longL
 rcases scanL_sight ps L (s.drop a) 0 0 0 0 (s.length-a+1) with h | h<;>omega
theorem longL_ls (ps:List Pt) (L:List En) (s:List UInt8) (a:Nat):(longL ps L s a).2.1≤(longL ps L s a).2.2:=by
 unfold longL
 exact scanL_ls ps L _ _ _ _ _ _ (Nat.le_refl _) (by rw [List.length_drop]; omega)
def aheadL (ms:List Mrk) (A:Nat):List Pc→Nat→Nat→Nat × Nat
 | [],f,k=>(f,k)
 | x::l,f,k=>if A<x.2.1+x.2.2.2 then (f,k) else aheadL ms A l (x.2.1+x.2.2.1) (if (kindM ms x.1).toList.isEmpty=true then k else k+1)
def meetL (n n2:Nat) (B:List Nat) (least:Nat):List Pc→Nat
 | []=>n2
 | x::l=>if least≤x.2.1∧B.any (fun a=>n-a == n2-x.2.1)=true then x.2.1 else meetL n n2 B least l
def foundL (f t:Nat):List Pc→Nat→Nat
 | [],k=>k
 | x::l,k=>foundL f t l (if f≤x.2.1∧x.2.1<t then k+1 else k)
def beginsL:List Tk→Nat→List Nat
 | [],_=>[]
 | x::l,n=>n::beginsL l (n+(x.2.1.size+x.2.2.size))
def behindL (n n2 t:Nat) (B:List Nat):List Nat→Nat→Nat
 | [],k=>k
 | b::l,k=>behindL n n2 t B l (if t≤b∧B.any (fun a=>n-a == n2-b)=true then k+1 else k)
def starts (B:List Nat) (z:Int):Bool:=B.any fun a=>(a:Int) == z
def meetR (n n2 f least:Nat) (B:List Nat):List Nat→Nat
 | []=>0
 | k::l=>if f≤k∧least≤k∧starts B ((n:Int)-(n2-k))=true then k else meetR n n2 f least B l
def behindR (n n2 t:Nat) (B:List Nat):List Nat→Nat→Nat
 | [],k=>k
 | b::l,k=>behindR n n2 t B l (if t≤b∧starts B ((n:Int)-(n2-b))=true then k+1 else k)
theorem pcsL_rest (ps:List Pt) (L:List En) (s:List UInt8):∀ (n a:Nat) (acc:List Pc),(pcsL ps L s n a acc).2.2=0→∃ R,(pcsL ps L s n a acc).1=acc++R∧∀ x∈R,x.2.1<s.length
 | 0,_,acc,_=>⟨[],by simp [pcsL],fun _ h=>by cases h⟩
 | n+1,a,acc,h=>by
  rw [pcsL] at h ⊢
  by_cases h1:s.length≤a
  · rw [if_pos h1]; exact ⟨[],by simp,fun _ h=>by cases h⟩
  · rw [if_neg h1] at h ⊢
    by_cases h2:(longL ps L s a).2.1=0
    · rw [if_pos h2] at h; cases h
    · rw [if_neg h2] at h ⊢
      obtain ⟨R,e,hR⟩:=pcsL_rest ps L s n _ _ h
      refine ⟨((longL ps L s a).1,a,(longL ps L s a).2.1,(longL ps L s a).2.2)::R,by rw [e,List.append_assoc]; rfl,fun x hx=>?_⟩
      rcases List.mem_cons.1 hx with rfl | hx
      · simp only; omega
      · exact hR x hx
theorem ahead_same (ps:List Pt) (L:List En) (ms:List Mrk) (A:Nat) (s s2:List UInt8) (hp:s.take A=s2.take A) (h1:A≤s.length) (h2:A≤s2.length):∀ (n n2 a f k:Nat) (acc acc2:List Pc),a≤A→f≤A→s.length<a+n→s2.length<a+n2 →
 (pcsL ps L s n a acc).2.2=0→(pcsL ps L s2 n2 a acc2).2.2=0 →
 ∃ R R2,(pcsL ps L s n a acc).1=acc++R∧(pcsL ps L s2 n2 a acc2).1=acc2++R2∧aheadL ms A R f k=aheadL ms A R2 f k∧(aheadL ms A R f k).1≤A
 | 0,_,a,_,_,_,_,ha,_,hn,_,_,_=>by omega
 | _+1,0,a,_,_,_,_,ha,_,_,hn,_,_=>by omega
 | n+1,n2+1,a,f,k,acc,acc2,ha,hf,hn,hn2,e1,e2=>by
  rw [pcsL] at e1 e2
  rw [pcsL,pcsL]
  by_cases g1:s.length≤a
  · rw [if_pos g1]
    by_cases g2:s2.length≤a
    · rw [if_pos g2]
      exact ⟨[],[],by simp,by simp,rfl,hf⟩
    · rw [if_neg g2] at e2 ⊢
      by_cases z2:(longL ps L s2 a).2.1=0
      · rw [if_pos z2] at e2; cases e2
      · rw [if_neg z2] at e2 ⊢
        obtain ⟨R2,q2,_⟩:=pcsL_rest ps L s2 n2 _ _ e2
        have:=longL_sight ps L s2 a
        refine ⟨[],((longL ps L s2 a).1,a,(longL ps L s2 a).2.1,(longL ps L s2 a).2.2)::R2,by simp,by rw [q2,List.append_assoc]; rfl,?_,hf⟩
        simp only [aheadL]
        rw [if_pos (by omega)]
  · rw [if_neg g1] at e1 ⊢
    by_cases z1:(longL ps L s a).2.1=0
    · rw [if_pos z1] at e1; cases e1
    · rw [if_neg z1] at e1 ⊢
      by_cases hs:a+(longL ps L s a).2.2≤A
      · have hsg:=longL_sight ps L s a
        have hls:=longL_ls ps L s a
        have eq:=longL_agree ps L s s2 a A hp h1 h2 ha hs
        rw [if_neg (by omega),eq] at e2 ⊢
        rw [if_neg z1] at e2 ⊢
        obtain ⟨R,R2,q1,q2,q3,q4⟩:=ahead_same ps L ms A s s2 hp h1 h2 n n2 (a+(longL ps L s a).2.1) (a+(longL ps L s a).2.1) (if (kindM ms (longL ps L s a).1).toList.isEmpty=true then k else k+1) _ _ (by omega) (by omega) (by omega) (by omega) e1 e2
        refine ⟨((longL ps L s a).1,a,(longL ps L s a).2.1,(longL ps L s a).2.2)::R,((longL ps L s a).1,a,(longL ps L s a).2.1,(longL ps L s a).2.2)::R2,by rw [q1,List.append_assoc]; rfl,by rw [q2,List.append_assoc]; rfl,?_,?_⟩
        · simp only [aheadL]
          have hne:¬ A<a+(longL ps L s a).2.2:=by omega
          rw [if_neg hne,if_neg hne]
          exact q3
        · simp only [aheadL]
          have hne:¬ A<a+(longL ps L s a).2.2:=by omega
          rw [if_neg hne]
          exact q4
      · obtain ⟨R,q1,_⟩:=pcsL_rest ps L s n _ _ e1
        have st:∀ R:List Pc,aheadL ms A (((longL ps L s a).1,a,(longL ps L s a).2.1,(longL ps L s a).2.2)::R) f k=(f,k):=fun R=>by
         simp only [aheadL]
         rw [if_pos (by omega)]
        refine ⟨((longL ps L s a).1,a,(longL ps L s a).2.1,(longL ps L s a).2.2)::R,?_⟩
        rw [st]
        by_cases g2:s2.length≤a
        · rw [if_pos g2]
          exact ⟨[],by rw [q1,List.append_assoc]; rfl,by simp,rfl,hf⟩
        · rw [if_neg g2] at e2 ⊢
          by_cases z2:(longL ps L s2 a).2.1=0
          · rw [if_pos z2] at e2; cases e2
          · rw [if_neg z2] at e2 ⊢
            obtain ⟨R2,q2,_⟩:=pcsL_rest ps L s2 n2 _ _ e2
            have hs2:¬ a+(longL ps L s2 a).2.2≤A:=fun h=>by
             have:=longL_agree ps L s2 s a A hp.symm h2 h1 ha h
             rw [this] at hs
             exact hs h
            refine ⟨((longL ps L s2 a).1,a,(longL ps L s2 a).2.1,(longL ps L s2 a).2.2)::R2,by rw [q1,List.append_assoc]; rfl,by rw [q2,List.append_assoc]; rfl,?_,hf⟩
            simp only [aheadL]
            rw [if_pos (by omega)]
theorem ahead_pieces (ps:List Pt) (L:List En) (ms:List Mrk) (A:Nat) (s s2:List UInt8) (hp:s.take A=s2.take A) (h1:A≤s.length) (h2:A≤s2.length) (e1:(piecesL ps L s).2.2=0) (e2:(piecesL ps L s2).2.2=0) :
 aheadL ms A (piecesL ps L s).1 0 0=aheadL ms A (piecesL ps L s2).1 0 0∧(aheadL ms A (piecesL ps L s).1 0 0).1≤A:=by
 unfold piecesL at e1 e2 ⊢
 split at e1
 · cases e1
 · rename_i n1
   split at e2
   · cases e2
   · rename_i n2
     rw [if_neg n1,if_neg n2]
     obtain ⟨R,R2,q1,q2,q3,q4⟩:=ahead_same ps L ms A s s2 hp h1 h2 (s.length+1) (s2.length+1) 0 0 0 [] [] (Nat.zero_le _) (Nat.zero_le _) (by omega) (by omega) e1 e2
     rw [q1,q2,List.nil_append,List.nil_append]
     exact ⟨q3,q4⟩
theorem pieces_lt (ps:List Pt) (L:List En) (s:List UInt8) (e:(piecesL ps L s).2.2=0):∀ x∈(piecesL ps L s).1,x.2.1<s.length:=by
 unfold piecesL at e ⊢
 split at e
 · cases e
 · rename_i n1
   rw [if_neg n1]
   obtain ⟨R,q,hR⟩:=pcsL_rest ps L s _ _ _ e
   rw [q,List.nil_append]
   exact hR
theorem any_starts (n n2 k:Nat) (B:List Nat) (hB:∀ a∈B,a≤n) (hk:k≤n2):starts B ((n:Int)-(n2-k))=B.any (fun a=>n-a == n2-k):=by
 unfold starts
 rw [Bool.eq_iff_iff,List.any_eq_true,List.any_eq_true]
 constructor
 · rintro ⟨a,ha,h⟩
   have:=hB a ha
   have h2:(a:Int)=(n:Int)-(n2-k):=by simpa using h
   exact ⟨a,ha,by rw [beq_iff_eq]; omega⟩
 · rintro ⟨a,ha,h⟩
   have:=hB a ha
   have h2:n-a=n2-k:=by simpa using h
   exact ⟨a,ha,by rw [beq_iff_eq]; omega⟩
theorem behind_same (n n2 t:Nat) (B:List Nat) (hB:∀ a∈B,a≤n):∀ (l:List Nat) (k:Nat),(∀ b∈l,b≤n2)→behindR n n2 t B l k=behindL n n2 t B l k
 | [],_,_=>rfl
 | b::l,k,h=>by
  rw [behindR,behindL,any_starts n n2 b B hB (h b (by simp))]
  exact behind_same n n2 t B hB l _ (fun x hx=>h x (by simp [hx]))
theorem meet_same (n n2 f least:Nat) (B:List Nat) (hB:∀ a∈B,a≤n) (hf:f≤least) (hl:least≤n2):∀ (Q:List Pc),(∀ x∈Q,x.2.1<n2)→meetR n n2 f least (n::B) (Q.map (fun x=>x.2.1)++[n2])=meetL n n2 B least Q
 | [],_=>by
  simp only [List.map_nil,List.nil_append,meetR,meetL]
  rw [if_pos]
  refine ⟨by omega,hl,?_⟩
  simp only [starts,List.any_cons,Bool.or_eq_true,beq_iff_eq]
  left
  omega
 | x::Q,h=>by
  have hx:=h x (by simp)
  simp only [List.map_cons,List.cons_append,meetR,meetL]
  rw [meet_same n n2 f least B hB hf hl Q (fun y hy=>h y (by simp [hy]))]
  have e:starts (n::B) ((n:Int)-(n2-x.2.1))=B.any (fun a=>n-a == n2-x.2.1):=by
   rw [← any_starts n n2 x.2.1 B hB (by omega)]
   simp only [starts,List.any_cons]
   rw [show ((n:Int) == (n:Int)-((n2:Int)-(x.2.1:Int)))=false from beq_eq_false_iff_ne.2 (by omega),Bool.false_or]
  rw [e]
  by_cases hc:least≤x.2.1
  · simp only [show f≤x.2.1 by omega,hc,true_and]
  · simp only [hc,false_and,and_false]
theorem begins_le:∀ (T:List Tk) (n:Nat),∀ b∈beginsL T n,b≤n+tkSum T
 | [],_,_,h=>by cases h
 | x::l,n,b,h=>by
  rcases List.mem_cons.1 h with rfl | h
  · omega
  · have:=begins_le l _ b h
    simp only [tkSum]
    omega
def replM (s:ByteArray) (A O:Int) (x:ByteArray):ByteArray × Int :=
 if A<0∨(s.size:Int)<A∨O<0∨(s.size:Int)-A<O then (⟨#[]⟩,1)
 else if 20000<(s.size:Int)-O+x.size then (⟨#[]⟩,2)
 else (s.extract 0 A.toNat++x++s.extract (A+O).toNat s.size,0)
def ReplPost (s:ByteArray) (A O:Int) (x:ByteArray) (w:World) (e:Ending) (w':World):Prop:=e=.returned (.tuple #[.string (replM s A O x).1,.int .i64 (replM s A O x).2])∧w.grownBy w' none
theorem replM_1 {s:ByteArray} {A O:Int} {x:ByteArray} (h:A<0∨(s.size:Int)<A∨O<0∨(s.size:Int)-A<O):replM s A O x=(⟨#[]⟩,1):=by unfold replM; rw [if_pos h]
theorem replaced_any (s:ByteArray) (A O:Int) (x:ByteArray) (w:World) (hs:s.size≤1000000) (hx:x.size≤1000000) (hA : -1000000≤A∧A≤2000000) (hO : -1000000≤O∧O≤2000000) :
 Calls Tryz.prog 60 #[.string s,.agg #[.int .i64 A,.int .i64 O,.string x]] w (ReplPost s A O x w):=by
 obtain ⟨P,hP⟩:∃ P,ReplPost s A O x w=P:=⟨_,rfl⟩
 rw [hP]
 have HP:=hid hP
 have HB:=hid (xN w (.cells #[.int .i64 A,.int .i64 O,.string x] 68))
 have HG:=hid (xG w (.cells #[.int .i64 A,.int .i64 O,.string x] 68) none)
 clear hP
 go_enter Tryz.func60,Tryz.ntmps60
 go_upto_region 1 with (fail)
 generalize w.alloc _=w1 at HB HG ⊢
 generalize w.heap.size=B at HB ⊢
 obtain ⟨c0,c1,c2⟩:=cb3 HB.out
 go_cut [30] (fun v wx=>∃ q:Bool,v=.bool q∧(q=true↔(A<0∨(s.size:Int)<A∨O<0∨(s.size:Int)-A<O))∧wx=w1)
 case first =>
  by_cases h0:A<0
  · have q0:decide (A<0)=true:=decide_eq_true h0
    go_wp2_with fail
    go_meet
    exact ⟨true,rfl,by simp [h0],rfl⟩
  · by_cases h1:(s.size:Int)<A
    · have q0:decide (A<0)=false:=decide_eq_false h0
      have q1:decide ((s.size:Int)<A)=true:=decide_eq_true h1
      go_wp2_with fail
      go_meet
      exact ⟨true,rfl,by simp [h1],rfl⟩
    · by_cases h2:O<0
      · have q0:decide (A<0)=false:=decide_eq_false h0
        have q1:decide ((s.size:Int)<A)=false:=decide_eq_false h1
        have q2:decide (O<0)=true:=decide_eq_true h2
        go_wp2_with fail
        go_meet
        exact ⟨true,rfl,by simp [h2],rfl⟩
      · have q0:decide (A<0)=false:=decide_eq_false h0
        have q1:decide ((s.size:Int)<A)=false:=decide_eq_false h1
        have q2:decide (O<0)=false:=decide_eq_false h2
        have hw:IntKind.i64.wrap ((s.size:Int)-A)=(s.size:Int)-A:=xI _ (by omega)
        go_wp2_with fail
        go_meet
        exact ⟨_,rfl,by simp only [decide_eq_true_eq]; omega,rfl⟩
 case rest =>
  obtain ⟨q,rfl,hq,rfl⟩:=hcut
  rcases q with _ | _
  · have hn:¬ (A<0∨(s.size:Int)<A∨O<0∨(s.size:Int)-A<O):=fun h=>by have:=hq.2 h; cases this
    clear hq
    have HN:=hid hn
    have b0:0≤A:=by omega
    have b1:A≤s.size:=by omega
    have b2:0≤O:=by omega
    have b3:A+O≤s.size:=by omega
    have hw:IntKind.i64.wrap ((s.size:Int)-O)=(s.size:Int)-O:=xI _ (by omega)
    have hw2:IntKind.i64.wrap ((s.size:Int)-O+x.size)=(s.size:Int)-O+x.size:=xI _ (by omega)
    have hw3:IntKind.i64.wrap (A+O)=A+O:=xI _ (by omega)
    clear hn
    by_cases hb:20000<(s.size:Int)-O+x.size
    · have hbb:decide (20000<(s.size:Int)-O+x.size)=true:=decide_eq_true hb
      go_wp2_with fail
      rw [← HP.out]
      unfold ReplPost replM
      rw [if_neg HN.out,if_pos hb]
      exact ⟨rfl,HG.out⟩
    · have hbb:decide (20000<(s.size:Int)-O+x.size)=false:=decide_eq_false hb
      have HFI:=hid (show replM s A O x=(s.extract 0 A.toNat++x++s.extract (A+O).toNat s.size,0) by unfold replM; rw [if_neg HN.out,if_neg hb])
      have b4:0≤A+O:=by omega
      go_wp2_with fail
      go_region
      all_goals go_wp2_with fail
      all_goals
       rw [← HP.out]
       unfold ReplPost
       rw [HFI.out]
       exact ⟨rfl,⟨HG.out.os,HG.out.tape,HG.out.output,HG.out.size,HG.out.block⟩⟩
  · have h1:=hq.1 rfl
    clear hq
    have HN:=hid (replM_1 (x:=x) h1)
    clear h1
    go_wp2_with fail
    rw [← HP.out]
    unfold ReplPost
    rw [HN.out]
    exact ⟨rfl,HG.out⟩
open Go.RowKit Go.Maps
def IntSet (w:World) (mm n:Nat) (f:Nat→Bool):Prop :=
 ∃ D:DataW Unit,w.ownsMap Tryz.prog 3 (plainElem Tryz.prog 4) mm n D∧∀ k:Nat,D.atKey (.int .i64 (k:Int)) (.lit (.bool false))=.lit (.bool (f k))
theorem IntSet.kept {w w':World} {mm n:Nat} {f:Nat→Bool} {r:Option Nat} (h:IntSet w mm n f) (g:w.grownBy w' r) (hr:some mm≠r):IntSet w' mm n f:=by
 obtain ⟨D,h1,h2⟩:=h
 exact ⟨D,h1.kept g hr,h2⟩
theorem IntSet.blk {w:World} {mm n:Nat} {f:Nat→Bool} (h:IntSet w mm n f):∃ es c,w.heap[mm]? = some (.map es c):=by
 obtain ⟨D,⟨es,c,hb,_⟩,_⟩:=h
 exact ⟨es,c,hb⟩
theorem IntSet.look {w:World} {mm n:Nat} {f:Nat→Bool} (h:IntSet w mm n f) (k:Nat) (hk:k≤1000000) :
 (Instr.lookup 165 (.map (some mm)) (.int .i64 (k:Int)) false).run Tryz.prog w=.ok (.bool (f k)) w:=by
 obtain ⟨D,h1,h2⟩:=h
 obtain ⟨v,ps,hrun,hv⟩:=h1.lookup (int_keyed Tryz.underlying3) Tryz.underlying165 (zero4 w) (plainElem_bool Tryz.underlying4 false) (keyOf_int_mk Tryz.underlying3 (wf_nat k hk))
 obtain ⟨b,rfl⟩:=boolInv Tryz.underlying4 hv
 rw [plainElem_bool Tryz.underlying4,h2 k] at hv
 simp only [Option.some.injEq,Prod.mk.injEq,DataW.lit.injEq,Lit.bool.injEq] at hv
 rw [← hv.1]
 exact hrun
theorem IntSet.put {w:World} {mm n:Nat} {f:Nat→Bool} (h:IntSet w mm n f) (k:Nat) (hk:k≤1000000) (hn:n≤1000000) :
 ∃ w',(Instr.mapUpdate 165 (.map (some mm)) (.int .i64 (k:Int)) (.bool true)).run Tryz.prog w=.ok () w'∧IntSet w' mm (n+1) (fun k'=>f k' || k' == k)∧w.grownBy w' (some mm):=by
 obtain ⟨D,h1,h2⟩:=h
 obtain ⟨w',hrun,ho,hg⟩:=h1.update (int_keyed Tryz.underlying3) Tryz.underlying165 (by unfold maxLen; omega) (keyOf_int_mk Tryz.underlying3 (wf_nat k hk)) (plainElem_bool Tryz.underlying4 true)
 refine ⟨w',hrun,⟨_,ho,fun k'=>?_⟩,hg⟩
 by_cases e:k'=k
 · subst e
   rw [atKey_put_same (h1.isMap) (show WideAt.IsKeyLit (.int .i64 (k':Int)) from trivial)]
   simp
 · have e':(Lit.int .i64 (k':Int))≠.int .i64 (k:Int):=fun he=>e (by have h3:(k':Int)=k:=(by simpa using he); omega)
   rw [atKey_put_other e',h2 k']
   simp [e]
theorem intSet_new (w:World):IntSet (w.alloc (.map #[] 0)) w.heap.size 0 (fun _=>false) :=
 ⟨.map [],World.ownsMap_made _ _ _ _,fun _=>rfl⟩
def FromPost (n:Nat) (B:List Nat) (w:World) (e:Ending) (w':World):Prop :=
 ∃ mm,e=.returned (.map (some mm))∧IntSet w' mm B.length (fun k=>B.any fun a=>n-a == k)∧w.heap.size≤mm∧w.grownBy w' none
theorem fromEnd_any (s:ByteArray) (B:List Nat) (v:Value) (w:World) (hs:s.size≤1000000) (hB:B.length≤1000000) (hb:∀ a∈B,a≤s.size) (h:Ints w v (natI B)) :
 Calls Tryz.prog 87 #[.string s,v] w (FromPost s.size B w):=by
 obtain ⟨P,hP⟩:∃ P,FromPost s.size B w=P:=⟨_,rfl⟩
 rw [hP]
 have HP:=hid hP
 have HI:=hid h
 have HB:=hid hb
 have HM:=hid (intSet_new w)
 have HG:=hid (xG w (.map #[] 0) none)
 obtain ⟨a,c,hv,_⟩:=h.elem
 rw [natI_len] at hv
 subst hv
 clear hP hb h
 have hmk:∀ w:World,(Instr.makeMap 165 none).run Tryz.prog w=.ok (.map (some w.heap.size)) (w.alloc (.map #[] 0)):=fun w=>by kernel_rfl
 go_enter Tryz.func87,Tryz.ntmps87
 go_wp2_with fail
 clear hmk
 have HM0:=hid (show IntSet (w.alloc (.map #[] 0)) w.heap.size 0 (fun k=>(B.take 0).any fun a=>s.size-a == k) from HM.out)
 clear HM
 generalize w.alloc _=w1 at HM0 HG ⊢
 generalize hmm:w.heap.size=mm at HM0 ⊢
 have HMS:=hid (show w.heap.size≤mm by omega)
 clear hmm
 go_loopw [11] (fun i wr=>∃ j:Nat,j≤B.length∧i=.int .i64 j∧Hid (IntSet wr mm j (fun k=>(B.take j).any fun a=>s.size-a == k))∧Hid (w.grownBy wr none)) (fun i _=>B.length-(intOf i).toNat)
 case atStart=>exact ⟨0,Nat.zero_le _,rfl,HM0,HG⟩
 case round =>
  clear HM0 HG
  obtain ⟨j,hj,rfl,HM,HG⟩:=hrel
  by_cases hlt:j<B.length
  · obtain ⟨a',c',e1,hc1⟩:=(HI.out.grow HG.out).elem
    obtain ⟨g,o,e2,hc2⟩:=hc1 j (by rw [natI_len]; exact hlt)
    simp only [Value.slice.injEq] at e1
    obtain ⟨rfl,_,_⟩:=e1
    subst e2
    have hi2:(natI B).getD j 0=((B[j]:Nat):Int):=by simp [natI,List.getD,hlt]
    rw [hi2] at hc2
    have hbk:=HB.out B[j] (List.getElem_mem hlt)
    have HTK:=hid (fun (k:Nat)=>show ((B.take (j+1)).any fun a=>s.size-a == k)=(((B.take j).any fun a=>s.size-a == k) || k == s.size-B[j]) by
     rw [List.take_add_one,List.any_append,List.getElem?_eq_getElem hlt]
     simp only [Option.toList_some,List.any_cons,List.any_nil,Bool.or_false]
     rw [Bool.beq_comm])
    clear hc1 hi2
    generalize B[j]=b at hc2 hbk HTK
    obtain ⟨w2,hrun,S2,g2⟩:=HM.out.put (s.size-b) (by omega) (by omega)
    have hsub:((s.size-b:Nat):Int)=(s.size:Int)-(b:Int):=by omega
    rw [hsub] at hrun
    have HS2:=hid S2
    have HG2:=hid (grow_row HG.out g2 (fun k hk=>by cases hk; exact HMS.out))
    have hw:IntKind.i64.wrap ((s.size:Int)-b)=(s.size:Int)-b:=xI _ (by omega)
    clear S2 g2 hsub
    go_wp2_with fail
    go_roundw
    case rel=>exact ⟨j+1,by omega,by go_num,hid (by have:=HS2.out; simpa only [HTK.out] using this),HG2⟩
    case measure=>simp [intOf]; omega
  · obtain rfl:j=B.length:=by omega
    go_wp2_with fail
    rw [← HP.out]
    exact ⟨mm,rfl,by have:=HM.out; rwa [List.take_length] at this,HMS.out,HG.out⟩
end Go.Proofs.YtplbacfjmajeeaaGreatDoor
