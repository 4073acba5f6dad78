import Derived.Test.YtplbacfjmajeeaaGreatDoorJ30
import Derived.Lib.SlicesCompact
namespace Go.Proofs.YtplbacfjmajeeaaGreatDoor
open Go.RowKit Go.Maps
theorem folO_in (as_:List Pt):∀ b i k,folO as_ b i k→k<b+ylL as_:=by
 induction as_ with
 | nil=>intro b i k h; simp [folO] at h
 | cons a as_ iha =>
  intro b i k h
  simp only [folO,ylL] at h ⊢
  rcases h with h | h
  · have:=(fol_bd a b i k h).2; omega
  · have:=iha _ _ _ h; omega
theorem firstO_in (ps:List Pt) (k:Nat) (h:k∈firstO ps 0):k<ylL ps:=by
 rw [← opnO_start] at h
 have:=(opnO_bd (fun _=>false) ps 0 true).1 k h
 omega
theorem stepS_L (ps:List Pt) (can:List Nat) (c:Nat) (h:∀ i∈can,i<ylL ps):stepS ((bytesL ps).map Prod.fst) ((bytesL ps).map Prod.snd) can c=stepL (bytesL ps) can c:=by
 unfold stepS stepL
 refine List.filter_congr fun i hi=>?_
 have hl:i<(bytesL ps).length:=by rw [ybl]; exact h i hi
 simp [List.getD_eq_getElem?_getD,hl,inB]
theorem nextS_opn (ps:List Pt) (set:List Nat):nextS (folO ps 0) (ylL ps) set=opnO (fun k=>decide (k∈set)) ps 0 false:=by
 refine rising_eq _ _ (nextS_rising _ _ _) (opnO_bd _ ps 0 false).2 (fun k=>?_)
 rw [mem_nextS,opnO_iff]
 constructor
 · rintro ⟨_,i,h1,h2⟩
   exact .inr ⟨i,by simpa using h1,h2⟩
 · rintro (⟨h,_⟩ | ⟨i,h1,h2⟩)
   · cases h
   · exact ⟨by have:=folO_in ps 0 i k h2; omega,i,by simpa using h1,h2⟩
theorem all_spots (ps:List Pt) (w0 w:World) (X:Nat) (S:SpotRel w0 X ps w) (hn:ylL ps≤100):Calls Tryz.prog 47 #[.pointer (some ⟨X,0,none⟩)] w (AllPost ps w):=by
 obtain ⟨V,fo,a,n,k,hv,S,g⟩:=S
 have hd:(spD ps fo (lastO ps 0)).n=ylL ps:=spD_n ps fo _
 refine all_any ps w w0.heap.size X (spD ps fo (lastO ps 0)) _ V _ S ?_ ?_ ?_ ?_ ?_ ?_ (by rw [hd]; exact hn)
 · have:=S.rows.get (j:=5) rfl
   simp only [intC_len,natI_len] at this
   exact ownsRow_base this (Nat.zero_le _)
 · intro can c hc
   rw [hd] at hc
   exact stepS_L ps can c hc
 · intro set
   rw [hd]
   exact nextS_opn ps set
 · intro i hi
   rw [hd]
   exact firstO_in ps i hi
 · rw [hd]
   exact firstO_len ps 0
 · intro i k h
   rw [hd]
   have:=folO_in ps 0 i k h
   omega
structure Best (ps:List Pt) (c:Nat→UInt8) (n mk lg:Nat):Prop where
 up:∀ (m:Nat) (p:Pt),ps[m]? = some p→∀ e,e≤n→p.Lg (seg c 0 e)→e≤lg
 has:0<lg→lg≤n∧∃ p,ps[mk]? = some p∧p.Lg (seg c 0 lg)
 first:0<lg→∀ (m:Nat) (p:Pt),m<mk→ps[m]? = some p→¬ p.Lg (seg c 0 lg)
theorem best_one {ps:List Pt} {c:Nat→UInt8} {n mk lg mk2 lg2:Nat} (h:Best ps c n mk lg) (h2:Best ps c n mk2 lg2):lg=lg2∧(0<lg→mk=mk2):=by
 have e:lg=lg2:=by
  rcases Nat.lt_trichotomy lg lg2 with h3 | h3 | h3
  · obtain ⟨h4,p,h5,h6⟩:=h2.has (by omega)
    have:=h.up mk2 p h5 lg2 h4 h6
    omega
  · exact h3
  · obtain ⟨h4,p,h5,h6⟩:=h.has (by omega)
    have:=h2.up mk p h5 lg h4 h6
    omega
 subst e
 refine ⟨rfl,fun hp=>?_⟩
 obtain ⟨_,p,h5,h6⟩:=h.has hp
 obtain ⟨_,q,h7,h8⟩:=h2.has hp
 rcases Nat.lt_trichotomy mk mk2 with h3 | h3 | h3
 · exact absurd h6 (h2.first hp mk p h3 h5)
 · exact h3
 · exact absurd h8 (h.first hp mk2 q h3 h7)
theorem fitsL_rise (A:Nat→Bool) (st:Bool):∀ (ps:List Pt) (i b:Nat),(fitsL A st ps i b).Pairwise (· < ·)∧∀ x∈fitsL A st ps i b,i≤x
 | [],_,_=>by simp [fitsL]
 | p::ps,i,b=>by
  obtain ⟨h1,h2⟩:=fitsL_rise A st ps (i+1) (b+p.leaves)
  rw [fitsL]
  split
  · refine ⟨List.pairwise_append.2 ⟨by simp,h1,fun x hx y hy=>?_⟩,fun x hx=>?_⟩
    · have:x=i:=by simpa using hx
      have:=h2 y hy
      omega
    · rcases List.mem_append.1 hx with h | h
      · have:x=i:=by simpa using h
        omega
      · have:=h2 x h; omega
  · rw [List.nil_append]
    exact ⟨h1,fun x hx=>by have:=h2 x hx; omega⟩
theorem head_least {l:List Nat} {m:Nat} (h:l.Pairwise (· < ·)) (hm:l.head? = some m):m∈l∧∀ x∈l,m≤x:=by
 cases l with
 | nil=>cases hm
 | cons a l =>
  obtain rfl:a=m:=by simpa using hm
  refine ⟨by simp,fun x hx=>?_⟩
  rcases List.mem_cons.1 hx with rfl | h2
  · exact Nat.le_refl _
  · have:=(List.pairwise_cons.1 h).1 x h2; omega
theorem good_best {ps:List Pt} {L:List En} {c:Nat→UInt8} {n mk lg:Nat} (hC:Closed ps L) (hB:BytesOk (bytesL ps)) (h:GoodL ps L c n mk lg):Best ps c n mk lg:=by
 refine ⟨fun m p hp e he hl=>?_,fun hpos=>?_,fun hpos m p hm hp hl=>?_⟩
 · rcases Nat.lt_or_ge lg e with h2 | h2
   · have h3:=h.1 e h2 he
     have h4:=(fits_tells ps L c hC hB e m (by omega)).2 ⟨p,hp,hl⟩
     rw [h3] at h4
     cases h4
   · exact h2
 · obtain ⟨h1,h2⟩:=h.2 hpos
   obtain ⟨h3,_⟩:=head_least (fitsL_rise _ _ ps 0 0).1 h2
   exact ⟨h1,(fits_tells ps L c hC hB lg mk (by omega)).1 h3⟩
 · obtain ⟨h1,h2⟩:=h.2 hpos
   obtain ⟨_,h4⟩:=head_least (fitsL_rise _ _ ps 0 0).1 h2
   have:=h4 m ((fits_tells ps L c hC hB lg m (by omega)).2 ⟨p,hp,hl⟩)
   omega
theorem long_best (ps:List Pt) (L:List En) (s:List UInt8) (a:Nat) (hC:Closed ps L) (hB:BytesOk (bytesL ps)):Best ps (fun j=>(s.drop a).getD j 0) (s.length-a) (longL ps L s a).1 (longL ps L s a).2.1:=good_best hC hB (long_good ps L s a hC)
noncomputable def canR (ps:List Pt) (c:Nat→UInt8):Nat→List Nat
 | 0=>firstO ps 0
 | j+1=>nextS (folO ps 0) (ylL ps) (stepS ((bytesL ps).map Prod.fst) ((bytesL ps).map Prod.snd) (canR ps c j) (c j).toNat)
theorem canR_in (ps:List Pt) (c:Nat→UInt8):∀ j,∀ i∈canR ps c j,i<ylL ps
 | 0,i,h=>firstO_in ps i h
 | _+1,_,h=>((mem_nextS _ _ _ _).1 h).1
theorem match_iff (B:List (Int × Int)) (h:BytesOk B) (k c:Nat) (hk:k<B.length):k∈matchL B B.length (cls B c)↔(B.getD k (0,-1)).1≤(c:Int)∧(c:Int)≤(B.getD k (0,-1)).2:=by
 have h2:decide (k∈matchL B B.length (cls B c))=true↔(decide ((B.getD k (0,-1)).1≤(c:Int)) && decide ((c:Int)≤(B.getD k (0,-1)).2))=true:=by rw [match_in B h k c hk]
 simpa only [decide_eq_true_eq,Bool.and_eq_true] using h2
theorem canR_can (ps:List Pt) (L:List En) (c:Nat→UInt8) (hC:Closed ps L) (hB:BytesOk (bytesL ps)):∀ j,canR ps c j=canAt ps L (runS ps L c j)
 | 0=>by simp [canR,runS,canAt]
 | j+1=>by
  obtain ⟨_,_,h3⟩:=runS_ok ps L c hC j
  have hne:=(runS_ok ps L c hC (j+1)).2.1 (by omega)
  rw [canR,stepS_L ps _ _ (canR_in ps c j),nextS_opn,canAt_mask,h3,decide_eq_false hne]
  congr 1
  funext k
  rw [maskC,Nat.testBit_and,testBit_maskOf,testBit_maskOf,← canR_can ps L c hC hB j]
  unfold stepL
  rw [Bool.eq_iff_iff]
  simp only [decide_eq_true_eq,List.mem_filter,Bool.and_eq_true]
  constructor
  · rintro ⟨h1,h2⟩
    have hk:k<(bytesL ps).length:=by rw [ybl]; exact canR_in ps c j k h1
    exact ⟨h1,(match_iff _ hB k _ hk).2 h2⟩
  · rintro ⟨h1,h2⟩
    have hk:k<(bytesL ps).length:=by rw [ybl]; exact canR_in ps c j k h1
    exact ⟨h1,(match_iff _ hB k _ hk).1 h2⟩
theorem mask_nil (l:List Nat):maskOf l=0↔l=[]:=by
 constructor
 · intro h
   refine List.eq_nil_iff_forall_not_mem.2 fun k hk=>?_
   have:=testBit_maskOf l k
   rw [h] at this
   simp [hk] at this
 · rintro rfl; rfl
theorem stuck_iff (ps:List Pt) (L:List En) (c:Nat→UInt8) (hC:Closed ps L) (hB:BytesOk (bytesL ps)) (j:Nat):stuckS ps L (runS ps L c j)=decide (canR ps c j=[]):=by
 unfold stuckS
 rw [canR_can ps L c hC hB j]
 exact decide_eq_decide.2 (mask_nil _)
noncomputable def sightR (ps:List Pt) (c:Nat→UInt8):Nat→Nat→Nat
 | 0,j=>j+1
 | r+1,j=>open Classical in if canR ps c (j+1)=[] then j+1 else sightR ps c r (j+1)
theorem scan_sight (ps:List Pt) (L:List En) (c:Nat→UInt8) (hC:Closed ps L) (hB:BytesOk (bytesL ps)):∀ (cs:List UInt8) (k m lg:Nat),(∀ j (h:j<cs.length),cs[j]=c (k+j))→(scanL ps L cs (runS ps L c k) k m lg (k+cs.length+1)).2.2=sightR ps c cs.length k
 | [],k,m,lg,_=>rfl
 | x::cs,k,m,lg,hcs=>by
  have hx:x=c k:=hcs 0 (by simp)
  have e:nxS ps L (runS ps L c k) x.toNat=runS ps L c (k+1):=by rw [hx]; rfl
  rw [scanL,e,stuck_iff ps L c hC hB]
  show _=sightR ps c (cs.length+1) k
  rw [sightR]
  by_cases h:canR ps c (k+1)=[]
  · rw [if_pos (by simpa using h),if_pos h]
  · rw [if_neg (by simpa using h),if_neg h]
    have:=scan_sight ps L c hC hB cs (k+1) (if 0<(fitsAt ps L (runS ps L c (k+1))).length then (fitsAt ps L (runS ps L c (k+1))).getD 0 0 else m) (if 0<(fitsAt ps L (runS ps L c (k+1))).length then k+1 else lg) (fun j hj=>by
     have:=hcs (j+1) (by simpa using hj)
     rw [show k+1+j=k+(j+1) by omega]
     simpa using this)
    rw [← this]
    simp only [List.length_cons]
    rw [show k+(cs.length+1)+1=k+1+cs.length+1 by omega]
theorem long_sight (ps:List Pt) (L:List En) (s:List UInt8) (a:Nat) (hC:Closed ps L) (hB:BytesOk (bytesL ps)):(longL ps L s a).2.2=sightR ps (fun j=>(s.drop a).getD j 0) (s.length-a) 0:=by
 have:=scan_sight ps L (fun j=>(s.drop a).getD j 0) hC hB (s.drop a) 0 0 0 (fun j h=>by
  rw [Nat.zero_add,List.getD_eq_getElem?_getD,List.getElem?_eq_getElem h]; rfl)
 rw [List.length_drop,Nat.zero_add] at this
 exact this
open Go.Lib
theorem compact_step (d:Array Int) (hs:∀ i j,i≤j→j<d.size→d[i]!≤d[j]!):∀ m,m≤d.size→(compactUpTo d m).Pairwise (· < ·)∧(∀ x,x∈compactUpTo d m↔∃ j,j<m∧d[j]! = x)∧(∀ x∈compactUpTo d m,0<m∧x≤d[m-1]!)
 | 0,_=>by simp [compactUpTo]
 | m+1,hm=>by
  obtain ⟨h1,h2,h3⟩:=compact_step d hs m (by omega)
  rw [compactUpTo_succ]
  by_cases hk:keeps d m=true
  · rw [if_pos hk]
    have hlt:∀ x∈compactUpTo d m,x<d[m]!:=fun x hx=>by
     obtain ⟨h4,h5⟩:=h3 x hx
     have h6:=hs (m-1) m (by omega) (by omega)
     have h7:d[m]!≠d[m-1]!:=by
      simp only [keeps] at hk
      have:m≠0:=by omega
      simpa [this] using hk
     omega
    refine ⟨?_,fun x=>?_,fun x hx=>?_⟩
    · rw [List.pairwise_append]
      exact ⟨h1,by simp,fun a ha b hb=>by rw [List.mem_singleton] at hb; subst hb; exact hlt a ha⟩
    · rw [List.mem_append,List.mem_singleton,h2]
      constructor
      · rintro (⟨j,h4,h5⟩ | h4)
        · exact ⟨j,by omega,h5⟩
        · exact ⟨m,by omega,h4.symm⟩
      · rintro ⟨j,h4,h5⟩
        by_cases hj:j=m
        · subst hj; exact .inr h5.symm
        · exact .inl ⟨j,by omega,h5⟩
    · refine ⟨by omega,?_⟩
      rw [Nat.add_sub_cancel]
      rcases List.mem_append.1 hx with h4 | h4
      · have:=hlt x h4; omega
      · rw [List.mem_singleton] at h4; omega
  · rw [if_neg hk,List.append_nil]
    have h7:m≠0∧d[m]! = d[m-1]!:=by
     simp only [keeps] at hk
     by_cases hm0:m=0
     · simp [hm0] at hk
     · exact ⟨hm0,by simpa [hm0] using hk⟩
    refine ⟨h1,fun x=>?_,fun x hx=>?_⟩
    · rw [h2]
      constructor
      · rintro ⟨j,h4,h5⟩; exact ⟨j,by omega,h5⟩
      · rintro ⟨j,h4,h5⟩
        by_cases hj:j=m
        · subst hj; exact ⟨j-1,by omega,by rw [← h5,h7.2]⟩
        · exact ⟨j,by omega,h5⟩
    · refine ⟨by omega,?_⟩
      rw [Nat.add_sub_cancel,h7.2]
      exact (h3 x hx).2
theorem compact_sorted (zs:List Int) (h:zs.Pairwise (·≤·)):(compact zs).Pairwise (· < ·)∧∀ x,x∈compact zs↔x∈zs:=by
 have hs:∀ i j,i≤j→j<zs.toArray.size→zs.toArray[i]!≤zs.toArray[j]!:=by
  intro i j hij hj
  have hj2:j<zs.length:=by simpa using hj
  have e1:zs.toArray[i]! = zs[i]:=by rw [getElem!_pos _ i (by simp; omega)]; simp
  have e2:zs.toArray[j]! = zs[j]:=by rw [getElem!_pos _ j (by simpa using hj)]; simp
  rw [e1,e2]
  rcases Nat.lt_or_eq_of_le hij with h2 | rfl
  · exact List.pairwise_iff_getElem.1 h i j (by omega) hj2 h2
  · omega
 obtain ⟨h1,h2,_⟩:=compact_step zs.toArray hs zs.length (by simp)
 refine ⟨h1,fun x=>?_⟩
 show x∈compactUpTo zs.toArray zs.length↔_
 rw [h2]
 constructor
 · rintro ⟨j,h3,rfl⟩
   have e1:zs.toArray[j]! = zs[j]:=by rw [getElem!_pos _ j (by simpa using h3)]; simp
   rw [e1]; exact List.getElem_mem h3
 · intro hx
   obtain ⟨j,h3,rfl⟩:=List.getElem_of_mem hx
   exact ⟨j,h3,by rw [getElem!_pos _ j (by simpa using h3)]; simp⟩
def unionL (xs ys:List Int):List Int:=compact ((xs++ys).mergeSort fun x y=>decide (x≤y))
theorem union_sorted (xs ys:List Int):((xs++ys).mergeSort fun x y=>decide (x≤y)).Pairwise (·≤·):=by
 have:=List.pairwise_mergeSort (le:=fun (x y:Int)=>decide (x≤y)) (fun a b c h1 h2=>by simp at *; omega) (fun a b=>by simp; omega) (xs++ys)
 exact this.imp (fun h=>by simpa using h)
theorem unionL_rising (xs ys:List Int):(unionL xs ys).Pairwise (· < ·):=(compact_sorted _ (union_sorted xs ys)).1
theorem mem_unionL (xs ys:List Int) (x:Int):x∈unionL xs ys↔x∈xs∨x∈ys:=by
 unfold unionL
 rw [(compact_sorted _ (union_sorted xs ys)).2,List.mem_mergeSort,List.mem_append]
def Cut (c:Nat→UInt8) (N:Nat) (L:List UInt8→Prop) (F:Nat→Prop) (e:Nat):Prop:=∃ f,F f∧f≤e∧e≤N∧L (seg c f (e-f))
theorem Cut.congr {c:Nat→UInt8} {N:Nat} {L:List UInt8→Prop} {F G:Nat→Prop} (h:∀ x,F x↔G x) (e:Nat):Cut c N L F e↔Cut c N L G e :=
 ⟨fun ⟨f,a,b⟩=>⟨f,(h f).1 a,b⟩,fun ⟨f,a,b⟩=>⟨f,(h f).2 a,b⟩⟩
theorem Cut.lang {c:Nat→UInt8} {N:Nat} {L M:List UInt8→Prop} {F:Nat→Prop} (h:∀ x,L x↔M x) (e:Nat):Cut c N L F e↔Cut c N M F e :=
 ⟨fun ⟨f,a,b,d,g⟩=>⟨f,a,b,d,(h _).1 g⟩,fun ⟨f,a,b,d,g⟩=>⟨f,a,b,d,(h _).2 g⟩⟩
theorem cut_nil (c:Nat→UInt8) (N:Nat) (F:Nat→Prop) (e:Nat):Cut c N (LgT []) F e↔F e∧e≤N:=by
 constructor
 · rintro ⟨f,h1,h2,h3,h4⟩
   have hl:=seg_length c f (e-f)
   rw [show seg c f (e-f)=[] from h4] at hl
   simp at hl
   obtain rfl:f=e:=by omega
   exact ⟨h1,h3⟩
 · rintro ⟨h1,h2⟩
   exact ⟨e,h1,Nat.le_refl _,h2,by rw [Nat.sub_self,seg_zero]; rfl⟩
theorem lgT_snoc (qs:List Pt) (a:Pt):∀ u,LgT (qs++[a]) u↔∃ x y,u=x++y∧LgT qs x∧a.Lg y:=by
 induction qs with
 | nil =>
  intro u
  constructor
  · rintro ⟨x,y,h1,h2,h3⟩
    have h3:y=[]:=h3
    subst h3
    exact ⟨[],x,by simpa using h1,rfl,h2⟩
  · rintro ⟨x,y,h1,h2,h3⟩
    have h2:x=[]:=h2
    subst h2
    exact ⟨y,[],by simpa using h1,h3,rfl⟩
 | cons b qs ih =>
  intro u
  constructor
  · rintro ⟨x,y,rfl,h2,h3⟩
    obtain ⟨x2,y2,rfl,h5,h6⟩:=(ih y).1 h3
    exact ⟨x++x2,y2,by simp,⟨x,x2,rfl,h2,h5⟩,h6⟩
  · rintro ⟨x,y,rfl,⟨x1,x2,rfl,h2,h3⟩,h4⟩
    exact ⟨x1,x2++y,by simp,h2,(ih _).2 ⟨x2,y,rfl,h3,h4⟩⟩
theorem lgO_snoc (qs:List Pt) (a:Pt) (u:List UInt8):LgO (qs++[a]) u↔LgO qs u∨a.Lg u:=by
 induction qs with
 | nil=>simp [LgO]
 | cons b qs ih=>simp only [List.cons_append,LgO,ih,or_assoc]
theorem cut_take (c:Nat→UInt8) (N:Nat) (qs:List Pt) (j:Nat) (h:j<qs.length) (F:Nat→Prop) (e:Nat):Cut c N (LgT (qs.take (j+1))) F e↔Cut c N qs[j].Lg (Cut c N (LgT (qs.take j)) F) e:=by
 rw [List.take_succ_eq_append_getElem h]
 constructor
 · rintro ⟨f,h1,h2,h3,h4⟩
   obtain ⟨x,y,h5,h6,h7⟩:=(lgT_snoc _ _ _).1 h4
   obtain ⟨m,hm,rfl,rfl⟩:=seg_split c f _ x y h5
   exact ⟨f+m,⟨f,h1,by omega,by omega,by rw [Nat.add_sub_cancel_left]; exact h6⟩,by omega,h3,by rw [show e-(f+m)=e-f-m by omega]; exact h7⟩
 · rintro ⟨m,⟨f,h1,h2,h3,h4⟩,h5,h6,h7⟩
   exact ⟨f,h1,by omega,h6,(lgT_snoc _ _ _).2 ⟨_,_,seg_join c f m e h2 h5,h4,h7⟩⟩
theorem cut_takeO (c:Nat→UInt8) (N:Nat) (qs:List Pt) (j:Nat) (h:j<qs.length) (F:Nat→Prop) (e:Nat):Cut c N (LgO (qs.take (j+1))) F e↔Cut c N (LgO (qs.take j)) F e∨Cut c N qs[j].Lg F e:=by
 rw [List.take_succ_eq_append_getElem h]
 constructor
 · rintro ⟨f,h1,h2,h3,h4⟩
   rcases (lgO_snoc _ _ _).1 h4 with h5 | h5
   · exact .inl ⟨f,h1,h2,h3,h5⟩
   · exact .inr ⟨f,h1,h2,h3,h5⟩
 · rintro (⟨f,h1,h2,h3,h4⟩ | ⟨f,h1,h2,h3,h4⟩)
   · exact ⟨f,h1,h2,h3,(lgO_snoc _ _ _).2 (.inl h4)⟩
   · exact ⟨f,h1,h2,h3,(lgO_snoc _ _ _).2 (.inr h4)⟩
theorem cut_noO (c:Nat→UInt8) (N:Nat) (F:Nat→Prop) (e:Nat):¬ Cut c N (LgO []) F e:=fun ⟨_,_,_,_,h⟩=>h
theorem seg_one (c:Nat→UInt8) (f n:Nat) (x:UInt8):seg c f n=[x]↔n=1∧c f=x:=by
 constructor
 · intro h
   have hl:=seg_length c f n
   rw [h] at hl
   obtain rfl:n=1:=by simpa using hl.symm
   exact ⟨rfl,by simpa [seg] using h⟩
 · rintro ⟨rfl,rfl⟩
   simp [seg]
theorem cut_byte (c:Nat→UInt8) (N:Nat) (l h:Int) (qs:List Pt) (F:Nat→Prop) (e:Nat):Cut c N (Pt.mk 1 l h qs).Lg F e↔∃ f,F f∧f<N∧l≤((c f).toNat:Int)∧((c f).toNat:Int)≤h∧e=f+1:=by
 constructor
 · rintro ⟨f,h1,h2,h3,h4⟩
   simp only [Pt.Lg,if_true] at h4
   obtain ⟨x,h5,h6,h7⟩:=h4
   obtain ⟨h8,rfl⟩:=(seg_one _ _ _ _).1 h5
   exact ⟨f,h1,by omega,h6,h7,by omega⟩
 · rintro ⟨f,h1,h2,h3,h4,rfl⟩
   refine ⟨f,h1,by omega,by omega,?_⟩
   simp only [Pt.Lg,if_true]
   exact ⟨c f,(seg_one _ _ _ _).2 ⟨by omega,rfl⟩,h3,h4⟩
theorem cut_many (c:Nat→UInt8) (N:Nat) (L:List UInt8→Prop) (F O:Nat→Prop) (_:∀ x,F x→O x) (hO:∀ x,Cut c N L O x→O x):∀ n f e,e-f≤n→O f→f≤e→e≤N→Many L (seg c f (e-f))→O e:=by
 intro n
 induction n with
 | zero =>
  intro f e h1 h2 h3 h4 _
  obtain rfl:f=e:=by omega
  exact h2
 | succ n ih =>
  intro f e h1 h2 h3 h4 h5
  generalize hs:seg c f (e-f)=u at h5
  cases h5 with
  | none =>
   have:=seg_length c f (e-f)
   rw [hs] at this
   simp at this
   obtain rfl:f=e:=by omega
   exact h2
  | snoc u v h6 h7 h8 =>
   obtain ⟨m,hm,rfl,rfl⟩:=seg_split c f _ u v hs
   have hlt:m<e-f:=by
    rcases Nat.lt_or_ge m (e-f) with h | h
    · exact h
    · exfalso; apply h8; rw [show e-f-m=0 by omega]; rfl
   have h9:O (f+m):=ih f (f+m) (by omega) h2 (by omega) (by omega) (by rw [Nat.add_sub_cancel_left]; exact h6)
   exact hO e ⟨f+m,h9,by omega,h4,by rw [show e-(f+m)=e-f-m by omega]; exact h7⟩
theorem many_one (c:Nat→UInt8) (N:Nat) (L:List UInt8→Prop) (F:Nat→Prop) (m e:Nat) (h:Cut c N (Many L) F m) (hm:m≤e) (he:e≤N) (hl:L (seg c m (e-m))):Cut c N (Many L) F e:=by
 obtain ⟨f,h1,h2,h3,h4⟩:=h
 refine ⟨f,h1,by omega,he,?_⟩
 rcases Nat.eq_or_lt_of_le hm with rfl | hlt
 · exact h4
 · rw [seg_join c f m e h2 hm]
   exact Many.snoc _ _ h4 hl (seg_ne c m _ (by omega))
theorem many_self (c:Nat→UInt8) (N:Nat) (L:List UInt8→Prop) (F:Nat→Prop) (e:Nat) (h:F e) (he:e≤N):Cut c N (Many L) F e:=⟨e,h,Nat.le_refl _,he,by rw [Nat.sub_self,seg_zero]; exact Many.none⟩
def Ris (N:Nat) (O:List Nat):Prop:=O.Pairwise (· < ·)∧∀ x∈O,x≤N
theorem ris_len:∀ (O:List Nat) (b N:Nat),O.Pairwise (· < ·)→(∀ x∈O,b≤x∧x<N)→O.length≤N-b
 | [],_,_,_,_=>Nat.zero_le _
 | x::O,b,N,h,hb=>by
  have h1:=hb x (by simp)
  have h2:=ris_len O (x+1) N (List.pairwise_cons.1 h).2 (fun y hy=>⟨(List.pairwise_cons.1 h).1 y hy,(hb y (by simp [hy])).2⟩)
  simp only [List.length_cons]
  omega
theorem Ris.len {N:Nat} {O:List Nat} (h:Ris N O):O.length≤N+1:=by
 have:=ris_len O 0 (N+1) h.1 (fun x hx=>⟨Nat.zero_le _,by have:=h.2 x hx; omega⟩)
 omega
def unionN (a b:List Nat):List Nat:=(unionL (natI a) (natI b)).map Int.toNat
theorem mem_natI (a:List Nat) (x:Int):x∈natI a↔∃ k:Nat,k∈a∧(k:Int)=x:=by simp [natI]
theorem unionN_nat (a b:List Nat):natI (unionN a b)=unionL (natI a) (natI b):=by
 unfold unionN natI
 rw [List.map_map]
 conv=>rhs; rw [← List.map_id (unionL _ _)]
 refine List.map_congr_left fun x hx=>?_
 rcases (mem_unionL _ _ _).1 hx with h | h
 · obtain ⟨k,_,rfl⟩:=(mem_natI _ _).1 h; simp
 · obtain ⟨k,_,rfl⟩:=(mem_natI _ _).1 h; simp
theorem mem_unionN (a b:List Nat) (x:Nat):x∈unionN a b↔x∈a∨x∈b:=by
 have h1:x∈unionN a b↔(x:Int)∈natI (unionN a b):=by rw [mem_natI]; exact ⟨fun h=>⟨x,h,rfl⟩,fun ⟨k,h,e⟩=>(show k=x by omega) ▸ h⟩
 rw [h1,unionN_nat,mem_unionL,mem_natI,mem_natI]
 constructor
 · rintro (⟨k,h,e⟩ | ⟨k,h,e⟩)
   · exact .inl ((show k=x by omega) ▸ h)
   · exact .inr ((show k=x by omega) ▸ h)
 · rintro (h | h)
   · exact .inl ⟨x,h,rfl⟩
   · exact .inr ⟨x,h,rfl⟩
theorem unionN_ris {N:Nat} {a b:List Nat} (ha:Ris N a) (hb:Ris N b):Ris N (unionN a b):=by
 refine ⟨?_,fun x hx=>?_⟩
 · have h:=unionL_rising (natI a) (natI b)
   rw [← unionN_nat] at h
   unfold natI at h
   rw [List.pairwise_map] at h
   exact h.imp (fun h=>by omega)
 · rcases (mem_unionN a b x).1 hx with h | h
   · exact ha.2 x h
   · exact hb.2 x h
def byteStep (c:Nat→UInt8) (N:Nat) (l h:Int) (F:List Nat):List Nat:=(F.filter fun i=>decide (i<N) && (decide (l≤((c i).toNat:Int)) && decide (((c i).toNat:Int)≤h))).map (·+1)
theorem byteStep_snoc (c:Nat→UInt8) (N:Nat) (l h:Int) (F:List Nat) (i:Nat):byteStep c N l h (F++[i])=byteStep c N l h F++if (decide (i<N) && (decide (l≤((c i).toNat:Int)) && decide (((c i).toNat:Int)≤h)))=true then [i+1] else []:=by
 unfold byteStep
 rw [List.filter_append,List.map_append,List.filter_cons,List.filter_nil]
 split<;>rfl
theorem byteStep_len (c:Nat→UInt8) (N:Nat) (l h:Int) (F:List Nat):(byteStep c N l h F).length≤F.length:=by
 unfold byteStep; rw [List.length_map]; exact List.length_filter_le _ _
theorem byteStep_mem (c:Nat→UInt8) (N:Nat) (l h:Int) (F:List Nat) (qs:List Pt) (e:Nat):e∈byteStep c N l h F↔Cut c N (Pt.mk 1 l h qs).Lg (·∈F) e:=by
 rw [cut_byte]
 simp only [byteStep,List.mem_map,List.mem_filter,Bool.and_eq_true,decide_eq_true_eq]
 constructor
 · rintro ⟨f,⟨h1,h2,h3,h4⟩,rfl⟩; exact ⟨f,h1,h2,h3,h4,rfl⟩
 · rintro ⟨f,h1,h2,h3,h4,rfl⟩; exact ⟨f,⟨h1,h2,h3,h4⟩,rfl⟩
theorem byteStep_ris {N:Nat} (c:Nat→UInt8) (l h:Int) {F:List Nat} (hF:Ris N F):Ris N (byteStep c N l h F):=by
 refine ⟨?_,fun x hx=>?_⟩
 · unfold byteStep
   rw [List.pairwise_map]
   exact (hF.1.filter _).imp (fun h=>by omega)
 · simp only [byteStep,List.mem_map,List.mem_filter,Bool.and_eq_true,decide_eq_true_eq] at hx
   obtain ⟨f,⟨_,h2,_⟩,rfl⟩:=hx
   omega
def freshN (out l:List Nat):List Nat:=l.filter fun i=>decide (i ∉ out)
theorem freshN_snoc (out l:List Nat) (i:Nat):freshN out (l++[i])=freshN out l++if i∈out then [] else [i]:=by
 unfold freshN
 rw [List.filter_append,List.filter_cons,List.filter_nil]
 by_cases h:i∈out<;>simp [h]
theorem freshN_mem (out l:List Nat) (x:Nat):x∈freshN out l↔x∈l∧x ∉ out:=by simp [freshN]
theorem freshN_len (out l:List Nat):(freshN out l).length≤l.length:=List.length_filter_le _ _
theorem freshN_ris {N:Nat} (out:List Nat) {l:List Nat} (h:Ris N l):Ris N (freshN out l):=⟨h.1.filter _,fun x hx=>h.2 x ((freshN_mem _ _ _).1 hx).1⟩
theorem nodup_le:∀ (a b:List Nat),a.Nodup→(∀ x∈a,x∈b)→a.length≤b.length
 | [],_,_,_=>Nat.zero_le _
 | y::a,b,h,hs=>by
  have hy:y∈b:=hs y (by simp)
  have h1:=nodup_le a (b.erase y) (List.nodup_cons.1 h).2 (fun x hx=>(List.mem_erase_of_ne (show x≠y from fun e=>(List.nodup_cons.1 h).1 (by rw [← e]; exact hx))).2 (hs x (by simp [hx])))
  rw [List.length_erase_of_mem hy] at h1
  have:0<b.length:=List.length_pos_of_mem hy
  simp only [List.length_cons]
  omega
theorem ris_longer:∀ (a b:List Nat),a.Pairwise (· < ·)→b.Pairwise (· < ·)→(∀ x∈a,x∈b)→(∃ x∈b,x ∉ a)→a.length<b.length:=by
 intro a b ha hb hs ⟨x,hx,hn⟩
 have hnd:a.Nodup:=ha.imp (fun h=>by omega)
 have h1:a.length≤(b.erase x).length:=by
  have hsub:∀ y∈a,y∈b.erase x:=fun y hy=>by
   have hne:y≠x:=fun e=>hn (e ▸ hy)
   exact (List.mem_erase_of_ne hne).2 (hs y hy)
  exact nodup_le a _ hnd hsub
 rw [List.length_erase_of_mem hx] at h1
 have:0<b.length:=List.length_pos_of_mem hx
 omega
end Go.Proofs.YtplbacfjmajeeaaGreatDoor
