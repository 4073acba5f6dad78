import Derived.Test.YtplbacfjmajeeaaGreatDoorJ50
namespace Go.Proofs.YtplbacfjmajeeaaGreatDoor
open Go.Lib (hid)
set_option maxHeartbeats 4000000
set_option maxRecDepth 100000
open Go.RowKit
theorem patText_then (l h:Int) (ps:List Pt) (v:Value) (w:World) (hs:sizes ps≤100) (hv:PtAt w (.mk 2 l h ps) v)
 (HT:∀ j (hj:j<ps.length) W u,PtAt W ps[j] u→Calls Tryz.prog 101 #[u] W (StrPost (16*ps[j].size-4) W)):Calls Tryz.prog 101 #[v] w (StrPost (12+16*sizes ps) w):=by
 obtain ⟨P,hP⟩:∃ P,StrPost (12+16*sizes ps) w=P:=⟨_,rfl⟩
 rw [hP]
 have HP:=hid hP
 clear hP
 obtain ⟨av,cap,rfl,ha⟩:=hv
 have HAA:=hid ha
 have HTT:=hid HT
 have HS:=hid hs
 have hlen:ps.length≤100:=by
  clear HTT HT HAA ha HP
  refine Nat.le_trans ?_ hs
  clear hs HS
  induction ps with
  | nil=>simp
  | cons a ps ih=>obtain ⟨o,l,h,bs⟩:=a; simp only [List.length_cons,sizes,Pt.size]; omega
 clear ha HT hs
 obtain ⟨m,hm⟩:∃ m,ps.length=m:=⟨_,rfl⟩
 rw [hm] at hlen ⊢
 have HM:=hid hm
 clear hm
 by_cases h0:m=0
 · subst h0
   go_enter Tryz.func101,Tryz.ntmps101
   go_wp2_with fail
   rw [← HP.out]
   exact ⟨_,rfl,by have:(ByteArray.size ⟨#[40,41]⟩)=2:=rfl; omega,xG _ _ none⟩
 · have hq:((m:Int) == 0)=false:=beq_eq_false_iff_ne.2 (by omega)
   clear h0
   go_enter Tryz.func101,Tryz.ntmps101
   go_wp2_with fail
   have HG0:=hid (xG w (.cells #[.int .i64 2,.int .i64 l,.int .i64 h,.slice av m cap] 28) none)
   generalize w.alloc _=w0 at HG0 ⊢
   generalize w.heap.size=B0
   go_loopw [4,41] (fun out i wr=>∃ (j:Nat) (t:ByteArray),i=.int .i64 j∧j≤m∧out=.string t∧Hid (t.size≤16*sizes (ps.take j))∧Hid (w.grownBy wr none)) (fun _ i _=>m-(intOf i).toNat)
   case atStart=>exact ⟨0,⟨#[]⟩,rfl,Nat.zero_le _,rfl,hid (Nat.zero_le _),HG0⟩
   case round =>
    obtain ⟨j,t,rfl,hj,rfl,HT1,HG⟩:=hrel
    have hts:t.size≤100000:=(by have h1:=HT1.out; have h2:=sizes_take_le ps j; have h3:=HS.out; omega)
    by_cases hlt:j<m
    · have hjp:j<ps.length:=(by have:=HM.out; omega)
      obtain ⟨b,off,o2,l2,h2,av2,n2,cap2,rfl,e0,e1,e2,e3,hp⟩:=PtAt.elem HAA.out j hjp
      have HPE:=hid hp
      have hps:ps[j].size≤100:=(by have h1:=sizes_take ps j hjp; have h2:=sizes_take_le ps (j+1); have h3:=HS.out; omega)
      have HTJ:=hid (HTT.out j hjp)
      have hz:16*sizes (ps.take j)+16*ps[j].size=16*sizes (ps.take (j+1)):=(by have h1:=sizes_take ps j hjp; omega)
      have HZ:=hid hz
      have hpos:1≤ps[j].size:=(by generalize ps[j]=q; obtain ⟨o,l,h,bs⟩:=q; simp [Pt.size])
      generalize ps[j].size=sz at HTJ HZ hps hpos
      have d0:=fun o=>ycg (ycg e0 HG.out) (xG wr o none)
      have d1:=fun o=>ycg (ycg e1 HG.out) (xG wr o none)
      have d2:=fun o=>ycg (ycg e2 HG.out) (xG wr o none)
      have d3:=fun o=>ycg (ycg e3 HG.out) (xG wr o none)
      have k0:=ycg e0 HG.out
      have k1:=ycg e1 HG.out
      have k2:=ycg e2 HG.out
      have k3:=ycg e3 HG.out
      clear e0 e1 e2 e3 hp hz
      go_wp2_with fail
      have hc:=cells_new2 wr (.cells #[.int .i64 o2,.int .i64 l2,.int .i64 h2,.slice av2 n2 cap2] 28) [.int .i64 2,.int .i64 3] 3
      have HG2:=hid (xT (xG wr (.cells #[.int .i64 o2,.int .i64 l2,.int .i64 h2,.slice av2 n2 cap2] 28) none) (xG _ (.cells #[.int .i64 2,.int .i64 3] 3) none))
      clear d0 d1 d2 d3 k0 k1 k2 k3
      generalize (wr.alloc _).alloc _=w1 at HG2 hc ⊢
      generalize wr.heap.size+1=B1 at hc ⊢
      have HPW:=hid (PtAt.grow HG2.out _ _ (PtAt.grow HG.out _ _ HPE.out))
      refine (inner_any (16*sz-4) (by omega) o2 l2 h2 av2 n2 cap2 B1 2 [2,3] w1 rfl (by omega) (fun i hi=>?_) (fun W gr=>HTJ.out W _ (PtAt.grow gr _ _ HPW.out))).mono ?_
      · match i,hi with
        | 0,_=>simpa [Addr.add] using hc 0 (.int .i64 2) rfl
        | 1,_=>simpa [Addr.add] using hc 1 (.int .i64 3) rfl
      · rintro e w2 ⟨x,rfl,hx,g2⟩
        have hx2:x.size≤100000:=by omega
        have HX:=hid hx
        clear hx hc
        go_wp2_with fail
        have hrel:Hid ((t++x).size≤16*sizes (ps.take (j+1))):=hid (by rw [ByteArray.size_append]; have h1:=HT1.out; have h2:=HX.out; have h3:=HZ.out; omega)
        have hgr:=hid (xT (xT HG.out HG2.out) g2)
        go_roundw
        case rel=>exact ⟨j+1,t++x,by go_num,by omega,rfl,hrel,hgr⟩
        case measure=>simp [intOf]; omega
    · obtain rfl:j=m:=by omega
      go_wp2_with fail
      rw [← HP.out]
      exact ⟨t,rfl,by have h1:=HT1.out; have h2:=sizes_take_le ps j; omega,HG.out⟩
theorem info9:(Tryz.prog.info? 9 ).map (fun i=>(i.zero,i.size,i.bytes))=some (some (.string ⟨#[]⟩),1,16):=by kernel_rfl
def lensB (xs:List ByteArray):Nat:=(xs.map (·.size)).sum
theorem lensB_snoc (xs:List ByteArray) (x:ByteArray):lensB (xs++[x])=lensB xs+x.size:=by simp [lensB]
theorem lens_lensB (xs:List ByteArray):Lib.lens (xs.map (·.data.toList))=lensB xs:=by
 unfold Lib.lens lensB
 rw [List.map_map]
 rfl
theorem join_le (xs:List ByteArray):(Lib.join (xs.map (·.data.toList)) [124]).length≤lensB xs+xs.length:=by
 rcases xs with _ | ⟨x,xs⟩
 · simp [Lib.join]
 · rw [List.map_cons,Lib.join_length,← List.map_cons (f:=fun b:ByteArray=>b.data.toList),lens_lensB]
   simp
   omega
theorem patText_or (l h:Int) (ps:List Pt) (v:Value) (w:World) (hs:sizes ps≤100) (hv:PtAt w (.mk 3 l h ps) v)
 (HT:∀ j (hj:j<ps.length) W u,PtAt W ps[j] u→Calls Tryz.prog 101 #[u] W (StrPost (16*ps[j].size-4) W)):Calls Tryz.prog 101 #[v] w (StrPost (12+16*sizes ps) w):=by
 obtain ⟨P,hP⟩:∃ P,StrPost (12+16*sizes ps) w=P:=⟨_,rfl⟩
 rw [hP]
 have HP:=hid hP
 clear hP
 obtain ⟨av,cap,rfl,ha⟩:=hv
 have HAA:=hid ha
 have HTT:=hid HT
 have HS:=hid hs
 have hlen:ps.length≤100:=by
  clear HTT HT HAA ha HP
  refine Nat.le_trans ?_ hs
  clear hs HS
  induction ps with
  | nil=>simp
  | cons a ps ih=>obtain ⟨o,l,h,bs⟩:=a; simp only [List.length_cons,sizes,Pt.size]; omega
 clear ha HT hs
 obtain ⟨m,hm⟩:∃ m,ps.length=m:=⟨_,rfl⟩
 rw [hm] at hlen ⊢
 have HM:=hid hm
 clear hm
 go_enter Tryz.func101,Tryz.ntmps101
 go_wp2_with fail
 have HG0:=hid (xG w (.cells #[.int .i64 3,.int .i64 l,.int .i64 h,.slice av m cap] 28) none)
 generalize w.alloc _=w0 at HG0 ⊢
 generalize w.heap.size=B0
 obtain ⟨B9,hB9⟩:∃ B9,B9=w0.heap.size:=⟨_,rfl⟩
 have HB9:=hid (show w.heap.size≤B9 from by rw [hB9]; exact HG0.out.size)
 have HL0:=hid (show B9≤w0.heap.size from Nat.le_of_eq hB9)
 clear hB9
 go_loopw [7,58] (fun out i wr=>∃ (j:Nat) (xs:List ByteArray) (sa:Option Addr) (sc:Nat),i=.int .i64 j∧j≤m∧out=.slice sa j sc∧Hid (xs.length=j)∧Hid (wr.ownsRow B9 9 1 (.slice sa j sc) j (xs.map Value.string))∧Hid (lensB xs+j≤16*sizes (ps.take j))∧Hid (w.grownBy wr none)∧Hid (B9≤wr.heap.size)) (fun _ i _=>m-(intOf i).toNat)
 case atStart=>exact ⟨0,[],none,0,rfl,Nat.zero_le _,rfl,hid rfl,hid ⟨rfl,.inl ⟨rfl,rfl⟩⟩,hid (Nat.zero_le _),HG0,HL0⟩
 case round =>
  obtain ⟨j,xs,sa,sc,rfl,hj,rfl,HLX,HOW,HT1,HG,HBL⟩:=hrel
  by_cases hlt:j<m
  · have hjp:j<ps.length:=(by have:=HM.out; omega)
    obtain ⟨b,off,o2,l2,h2,av2,n2,cap2,rfl,e0,e1,e2,e3,hp⟩:=PtAt.elem HAA.out j hjp
    have HPE:=hid hp
    have hps:ps[j].size≤100:=(by have h1:=sizes_take ps j hjp; have h2:=sizes_take_le ps (j+1); have h3:=HS.out; omega)
    have HTJ:=hid (HTT.out j hjp)
    have hz:16*sizes (ps.take j)+16*ps[j].size=16*sizes (ps.take (j+1)):=(by have h1:=sizes_take ps j hjp; omega)
    have HZ:=hid hz
    have hpos:1≤ps[j].size:=(by generalize ps[j]=q; obtain ⟨o,l,h,bs⟩:=q; simp [Pt.size])
    generalize ps[j].size=sz at HTJ HZ hps hpos
    have d0:=fun o=>ycg (ycg e0 HG.out) (xG wr o none)
    have d1:=fun o=>ycg (ycg e1 HG.out) (xG wr o none)
    have d2:=fun o=>ycg (ycg e2 HG.out) (xG wr o none)
    have d3:=fun o=>ycg (ycg e3 HG.out) (xG wr o none)
    have k0:=ycg e0 HG.out
    have k1:=ycg e1 HG.out
    have k2:=ycg e2 HG.out
    have k3:=ycg e3 HG.out
    clear e0 e1 e2 e3 hp hz
    go_wp2_with fail
    have hc:=cells_new2 wr (.cells #[.int .i64 o2,.int .i64 l2,.int .i64 h2,.slice av2 n2 cap2] 28) [.int .i64 3] 3
    have HG2:=hid (xT (xG wr (.cells #[.int .i64 o2,.int .i64 l2,.int .i64 h2,.slice av2 n2 cap2] 28) none) (xG _ (.cells #[.int .i64 3] 3) none))
    clear d0 d1 d2 d3 k0 k1 k2 k3
    generalize (wr.alloc _).alloc _=w1 at HG2 hc ⊢
    generalize wr.heap.size+1=B1 at hc ⊢
    have HPW:=hid (PtAt.grow HG2.out _ _ (PtAt.grow HG.out _ _ HPE.out))
    refine (inner_any (16*sz-4) (by omega) o2 l2 h2 av2 n2 cap2 B1 1 [3] w1 rfl (by omega) (fun i hi=>?_) (fun W gr=>HTJ.out W _ (PtAt.grow gr _ _ HPW.out))).mono ?_
    · match i,hi with
      | 0,_=>simpa [Addr.add] using hc 0 (.int .i64 3) rfl
    · rintro e w2 ⟨x,rfl,hx,g2⟩
      have HX:=hid hx
      have HG3:=hid (xT HG2.out g2)
      have hbs:B9≤w2.heap.size:=Nat.le_trans HBL.out HG3.out.size
      clear hx hc g2
      obtain ⟨i9,hi9,y0,y1,y2⟩:=info_parts info9
      go_wp2_with (at_builtin; refine wpList_append_own _ rfl _ _ 118 rfl B9 9 i9 (.string ⟨#[]⟩) 1 16 Tryz.underlying118 hi9 y0 y1 y2 rfl (by decide) _ _ _ rfl (own_grownN HOW.out (xT HG3.out (xG w2 _ none)) (fun r hr=>by cases hr)) ⟨w2.heap.size,0,none⟩ 1 1 [.string x] rfl rfl (cells_new _ _ _) (fun x hx=>by simp at hx; subst hx; rfl) (by unfold maxLen; omega) (by omega) (by simp; omega) ?_; intro v' w3 hown' hgrow _; obtain ⟨av',cv',rfl⟩:=yos hown'; have HO4:=hid hown'; have HG4:=hid hgrow; clear hown' hgrow)
      have hown4:=hid (show w3.ownsRow B9 9 1 (.slice av' (j+1) cv') (j+1) ((xs++[x]).map Value.string) from by simpa using HO4.out)
      have hrel2:Hid (lensB (xs++[x])+(j+1)≤16*sizes (ps.take (j+1))):=hid (by rw [lensB_snoc]; have h1:=HT1.out; have h2:=HX.out; have h3:=HZ.out; omega)
      have hgr:=hid (grow_row (xT (xT HG.out HG3.out) (xG w2 (.cells #[.string x] 9) none)) HG4.out (fun r hr=>Nat.le_trans HB9.out (yob HOW.out r hr).1))
      have hbl2:=hid (show B9≤w3.heap.size from by have:=HG4.out.size; simp at this; omega)
      go_roundw
      case rel=>exact ⟨j+1,xs++[x],av',cv',by go_num,by omega,rfl,hid (by simp [HLX.out]),hown4,hrel2,hgr,hbl2⟩
      case measure=>simp [intOf]; omega
  · obtain rfl:j=m:=by omega
    go_wp2_with fail
    have HJL:=hid (join_le xs)
    have hb:=(show lensB xs+j≤1600 from by have h1:=HT1.out; have h2:=sizes_take_le ps j; have h3:=HS.out; omega)
    rcases xs with _ | ⟨x0,xs⟩
    · have hj0:j=0:=(by have:=HLX.out; simpa using this.symm)
      subst hj0
      refine (Tryz.strings_Join_none sa sc ⟨#[124]⟩ wr).mono ?_
      rintro e w2 ⟨rfl,rfl⟩
      go_wp2_with fail
      rw [← HP.out]
      exact ⟨_,rfl,Nat.zero_le _,HG.out⟩
    · have hj1:0<j:=(by have:=HLX.out; simp at this; omega)
      obtain ⟨g,c,hsl,hg,hcell⟩:=yoe HOW.out hj1
      have hown:=HOW.out
      rw [hsl] at hown
      have hcap:j≤c:=(by
       rcases hown.2 with ⟨h,_⟩ | ⟨g',c',cur,h,_,_,h3,_⟩
       · cases h
       · simp only [Value.slice.injEq] at h; omega)
      simp only [Value.slice.injEq] at hsl
      obtain ⟨rfl,_,rfl⟩:=hsl
      have hgl:g<wr.heap.size:=(by obtain ⟨_,cc,hcc⟩:=yob hown g rfl; exact xL hcc)
      have hlx:=HLX.out
      have hJ:=Tryz.strings_Join g 0 sc (x0::xs) ⟨#[124]⟩ wr (fun i x hi=>by rw [Nat.zero_add]; exact hcell i (.string x) (by rw [List.getElem?_map,hi]; rfl)) hgl (by omega) (by omega) (Nat.le_trans HJL.out (by rw [hlx]; omega))
      rw [hlx] at hJ
      refine hJ.mono ?_
      rintro e w2 ⟨rfl,hbel⟩
      have HS2:=hid (show (ByteArray.mk (Lib.join (((x0::xs).map (·.data.toList))) [124]).toArray).size≤lensB (x0::xs)+j from by have:=HJL.out; rw [hlx] at this; exact this)
      have HG2:=hid (grow_below (grow_self wr) hbel)
      clear hJ hown hcell hbel hlx
      generalize ByteArray.mk _=tt at HS2 ⊢
      go_wp2_with fail
      rw [← HP.out]
      exact ⟨tt,rfl,by have h0:=HS2.out; have h1:=HT1.out; have h2:=sizes_take_le ps j; omega,xT HG.out HG2.out⟩
theorem StrPost.mono {n m:Nat} {w w':World} {e:Ending} (h:StrPost n w e w') (hn:n≤m):StrPost m w e w':=by
 obtain ⟨t,he,ht,g⟩:=h
 exact ⟨t,he,Nat.le_trans ht hn,g⟩
theorem sizes_get (ps:List Pt) (j:Nat) (hj:j<ps.length):ps[j].size≤sizes ps:=by
 have h1:=sizes_take ps j hj
 have h2:=sizes_take_le ps (j+1)
 omega
theorem patText_any (p:Pt):∀ v W,p.size≤100→Wf p→PtAt W p v→Calls Tryz.prog 101 #[v] W (StrPost (16*p.size-4) W):=by
 induction p using Pt.ind with
 | h o l hi ps ih =>
  intro v W hs hw hv
  have he:(Pt.mk o l hi ps).size=1+sizes ps:=by simp [Pt.size]
  rw [he] at hs ⊢
  have e2:16*(1+sizes ps)-4=12+16*sizes ps:=by omega
  rw [e2]
  have hwl:WfL ps:=hw.2
  have HT:∀ j (hj:j<ps.length) W u,PtAt W ps[j] u→Calls Tryz.prog 101 #[u] W (StrPost (16*ps[j].size-4) W):=fun j hj W u hu =>
   ih ps[j] (List.getElem_mem hj) u W (by have:=sizes_get ps j hj; omega) (WfL.mem ps hwl _ (List.getElem_mem hj)) hu
  rcases hw.1 with ⟨rfl,h1,h2,h3,h4⟩ | rfl | rfl | ⟨rfl,h1⟩
  · obtain ⟨av,cap,rfl,_⟩:=hv
    obtain ⟨l',rfl⟩:=Int.eq_ofNat_of_zero_le h1
    obtain ⟨h',rfl⟩:=Int.eq_ofNat_of_zero_le h3
    exact (patText_leaf l' h' (by omega) (by omega) av ps.length cap W).mono (fun e w' hp=>hp.mono (by omega))
  · exact patText_then l hi ps v W (by omega) hv HT
  · exact patText_or l hi ps v W (by omega) hv HT
  · obtain ⟨q,rfl⟩:=List.length_eq_one_iff.1 h1
    have hq:=HT 0 (by simp)
    have hqs:sizes [q]=q.size:=by simp [sizes]
    have hpos:1≤q.size:=by obtain ⟨o,l,h,bs⟩:=q; simp [Pt.size]
    rw [hqs] at hs ⊢
    exact (patText_star (16*q.size-4) (by omega) l hi q v W hv (fun W u hu=>hq W u hu)).mono (fun e w' hp=>hp.mono (by omega))
def SomePt (n m:Nat) (w:World) (v:Value) (w':World):Prop:=∃ p:Pt,PtQ (fun c=>w.heap.size≤c) w' p v∧p.leaves≤n∧p.size≤m∧w.grownBy w' none
def PrPost (s:ByteArray) (w:World) (e:Ending) (w':World):Prop:=∃ (v:Value) (er:Int),e=.returned (.tuple #[v,.int .i64 er])∧SomePt (phi s 0) (4*s.size+11) w v w'
def PrF (s:ByteArray) (p:Pt) (ok:Bool):Prop:=p.leaves≤phi s 0∧p.size≤4*s.size+11∧(ok=true→Wf p)
theorem res4 {w W:World} {B:Nat} {x0 x1 x2 x3:Value} (hb:W.heap[B]? = some (.cells #[x0,x1,x2,x3] 28 (0,0))) (hg:w.grownBy W none) (hB:w.heap.size≤B) (u0 u1 u2 u3:Value) :
 ((((W.setCell ⟨B,0,none⟩ u0).setCell ⟨B,1,none⟩ u1).setCell ⟨B,2,none⟩ u2).setCell ⟨B,3,none⟩ u3).heap[B]? = some (.cells #[u0,u1,u2,u3] 28 (0,0))∧w.grownBy ((((W.setCell ⟨B,0,none⟩ u0).setCell ⟨B,1,none⟩ u1).setCell ⟨B,2,none⟩ u2).setCell ⟨B,3,none⟩ u3) none:=by
 have Y:=yhs (yhs (yhs (yhs hb 0 u0) 1 u1) 2 u2) 3 u3
 simp only [xSi,xSs,xSz] at Y
 exact ⟨Y,ygs (ygs (ygs (ygs hg _ _ hB) _ _ hB) _ _ hB) _ _ hB⟩
theorem prPost_zero {s:ByteArray} {w w':World} {er:Int} (g:w.grownBy w' none):PrPost s w (.returned (.tuple #[.agg #[.int .i64 0,.int .i64 0,.int .i64 0,.slice none 0 0],.int .i64 er])) w' :=
 ⟨_,er,rfl,.mk 0 0 0 [],⟨none,0,rfl,.inl rfl⟩,by simp [Pt.leaves,ylL],by simp [Pt.size,sizes],g⟩
theorem prPost_p {s:ByteArray} {w w':World} {er:Int} {p:Pt} {v:Value} {ok:Bool} (hF:PrF s p ok) (hp:PtQ (fun c=>w.heap.size+1≤c) w' p v) (g:w.grownBy w' none):PrPost s w (.returned (.tuple #[v,.int .i64 er])) w' :=
 ⟨_,er,rfl,p,PtQ.keep (kept_self (fun c hc=>by omega)) _ _ hp,hF.1,hF.2.1,g⟩
theorem patRead_any (s:ByteArray) (hs:s.size≤20) (hE:EscOk s) (w:World):Calls Tryz.prog 80 #[.string s] w (PrPost s w):=by
 have HE:=hid hE
 clear hE
 obtain ⟨P,hP⟩:∃ P,PrPost s w=P:=⟨_,rfl⟩
 rw [hP]
 have HP:=hid hP
 clear hP
 go_enter Tryz.func80,Tryz.ntmps80
 go_wp2_with fail
 have hw1:=xG w (.cells #[.int .i64 0,.int .i64 0,.int .i64 0,.slice none 0 0] 28) none
 have hw2:=xG (w.alloc (.cells #[.int .i64 0,.int .i64 0,.int .i64 0,.slice none 0 0] 28)) (.cells #[.string s,.int .i64 0] 186) none
 have hz1:(w.alloc (.cells #[.int .i64 0,.int .i64 0,.int .i64 0,.slice none 0 0] 28)).heap.size=w.heap.size+1:=by simp
 have hrd:=xN (w.alloc (.cells #[.int .i64 0,.int .i64 0,.int .i64 0,.slice none 0 0] 28)) (.cells #[.string s,.int .i64 0] 186)
 have hbx:=grow_new hw2 (xN w (.cells #[.int .i64 0,.int .i64 0,.int .i64 0,.slice none 0 0] 28))
 rw [hz1] at hrd
 have HG:=hid (xT hw1 hw2)
 have HRD:=hid hrd
 have HBX:=hid hbx
 clear hw1 hw2 hz1 hrd hbx
 generalize (w.alloc _).alloc _=w2 at HG HRD HBX ⊢
 refine (either_any (w.heap.size+1) s hs HE.out s.size 0 w2 (by omega) (by omega) HRD.out).mono ?_
 rintro e w3 ⟨p,v,ok,a2,rfl,hp,ha2,hb2,hph,hsz,hwf,R3⟩
 have HP3:=hid (show PtQ (fun c=>w.heap.size+1≤c) w3 p v from PtQ.keep (kept_self (fun c (hc:w2.heap.size≤c)=>by have:=xL HRD.out; omega)) _ _ hp)
 have HRD3:=hid R3.1
 have HBX3:=hid (show w3.heap[w.heap.size]? = some (.cells #[.int .i64 0,.int .i64 0,.int .i64 0,.slice none 0 0] 28 (0,0)) from by rw [R3.2.block _ (xL HBX.out) (by simp)]; exact HBX.out)
 have HG3:=hid (grow_row HG.out R3.2 (fun r hr=>by have:w.heap.size+1=r:=(by simpa using hr); omega))
 have HF:=hid (show PrF s p ok from ⟨by split at hph<;>omega,by omega,hwf⟩)
 obtain ⟨o,l,h,av,n,cap,rfl⟩:=PtQ.agg p v hp
 clear hp ha2 hb2 hph hsz hwf R3 HG HRD HBX
 have HGW:=hid (yga HG3.out (.cells #[.int .i64 o,.int .i64 l,.int .i64 h,.slice av n cap] 28))
 have HBW:=hid (grow_new (xG w3 (.cells #[.int .i64 o,.int .i64 l,.int .i64 h,.slice av n cap] 28) none) HBX3.out)
 have HRW:=hid (HRD3.out.grow (xG w3 (.cells #[.int .i64 o,.int .i64 l,.int .i64 h,.slice av n cap] 28) none))
 have HPW:=hid (PtQ.keep (kept_grown (xG w3 (.cells #[.int .i64 o,.int .i64 l,.int .i64 h,.slice av n cap] 28) none) (fun r hr=>by cases hr) (fun _ h _=>h)) _ _ HP3.out)
 have hxb:¬ w.heap.size+1=w.heap.size:=by omega
 obtain ⟨X,hX⟩:∃ X,X=w.heap.size+1:=⟨_,rfl⟩
 rw [← hX] at HRW hxb ⊢
 have HXX:=hid hX
 clear hX
 obtain ⟨c0,c1,fx⟩:=HRW.out.cells
 clear HRD3 HBX3 HG3 HP3
 obtain ⟨b0,b1,b2,b3⟩:=cb4 HBW.out
 obtain ⟨y0,y1,y2,y3⟩:=fb4 HBW.out
 rcases ok with _ | _
 · go_wp2_with fail
   have HB8:=hid (res4 HBW.out HGW.out (Nat.le_refl _) (.int .i64 0) (.int .i64 0) (.int .i64 0) (.slice none 0 0))
   clear b0 b1 b2 b3 y0 y1 y2 y3
   generalize World.setCell _ _ _=w8 at HB8 ⊢
   obtain ⟨f0,f1,f2,f3⟩:=cb4 HB8.out.1
   rw [← HP.out]
   exact bodyPost_ret (v:=.tuple #[.agg #[.int .i64 0,.int .i64 0,.int .i64 0,.slice none 0 0],.int .i64 9]) (by simp [results,Tryz.results80,go_sem,f0,f1,f2,f3]) rfl (prPost_zero HB8.out.2)
 · by_cases heq:a2=s.size
   · subst heq
     have hwf:=HF.out.2.2 rfl
     have hsz:=HF.out.2.1
     have HWF:=hid hwf
     clear hwf
     go_wp2_with fail
     refine (patText_any p _ _ (by omega) HWF.out HPW.out.at_).mono ?_
     rintro e w5 ⟨x,rfl,hx,g5⟩
     clear hx b0 b1 b2 b3 y0 y1 y2 y3 c0 c1 fx
     have HBW5:=hid (grow_new g5 HBW.out)
     have HGW5:=hid (xT HGW.out g5)
     have HPW5:=hid (PtQ.keep (kept_grown g5 (fun r hr=>by cases hr) (fun _ h _=>h)) _ _ HPW.out)
     have HKW5:=hid (grow_new g5 (xN w3 (.cells #[.int .i64 o,.int .i64 l,.int .i64 h,.slice av n cap] 28)))
     clear g5
     have hkb:¬ w3.heap.size=w.heap.size:=(by have:=HXX.out; have h1:=xL HRW.out; have h2:(w3.alloc (.cells #[.int .i64 o,.int .i64 l,.int .i64 h,.slice av n cap] 28)).heap.size=w3.heap.size+1:=(by simp); omega)
     generalize w3.heap.size=K at HKW5 hkb ⊢
     have hkb2:¬ w.heap.size=K:=fun e=>hkb e.symm
     obtain ⟨b0,b1,b2,b3⟩:=cb4 HBW5.out
     obtain ⟨y0,y1,y2,y3⟩:=fb4 HBW5.out
     obtain ⟨k0,k1,k2,k3⟩:=cb4 HKW5.out
     obtain ⟨bs,hbs⟩:∃ bs,(x.toList == s.toList)=bs:=⟨_,rfl⟩
     have hbn:(x.toList != s.toList) = !bs:=by rw [bne,hbs]
     rcases bs with _ | _
     · simp only [Bool.not_false] at hbn
       go_wp2_with fail
       have HB8:=hid (res4 HBW5.out HGW5.out (Nat.le_refl _) (.int .i64 0) (.int .i64 0) (.int .i64 0) (.slice none 0 0))
       clear b0 b1 b2 b3 y0 y1 y2 y3
       generalize World.setCell _ _ _=w8 at HB8 ⊢
       obtain ⟨f0,f1,f2,f3⟩:=cb4 HB8.out.1
       rw [← HP.out]
       exact bodyPost_ret (v:=.tuple #[.agg #[.int .i64 0,.int .i64 0,.int .i64 0,.slice none 0 0],.int .i64 9]) (by simp [results,Tryz.results80,go_sem,f0,f1,f2,f3]) rfl (prPost_zero HB8.out.2)
     · simp only [Bool.not_true] at hbn
       go_wp2_with fail
       refine (refPatFault_any p _ w5 (by omega) HPW5.out.at_).mono ?_
       rintro e w6 ⟨rfl,g6⟩
       clear b0 b1 b2 b3 y0 y1 y2 y3 k0 k1 k2 k3
       have HBW6:=hid (grow_new g6 HBW5.out)
       have HGW6:=hid (xT HGW5.out g6)
       have HPW6:=hid (PtQ.keep (kept_grown g6 (fun r hr=>by cases hr) (fun _ h _=>h)) _ _ HPW5.out)
       have HKW6:=hid (grow_new g6 HKW5.out)
       clear g6
       generalize patFault p=er
       obtain ⟨b0,b1,b2,b3⟩:=cb4 HBW6.out
       obtain ⟨y0,y1,y2,y3⟩:=fb4 HBW6.out
       obtain ⟨k0,k1,k2,k3⟩:=cb4 HKW6.out
       by_cases her:er=0
       · subst her
         go_wp2_with fail
         have HB8:=hid (res4 HBW6.out HGW6.out (Nat.le_refl _) (.int .i64 o) (.int .i64 l) (.int .i64 h) (.slice av n cap))
         have HP8:=hid (PtQ.set4 (B:=w.heap.size) (Q:=fun c=>w.heap.size+1≤c) HPW6.out (fun h=>by omega) (.int .i64 o) (.int .i64 l) (.int .i64 h) (.slice av n cap))
         clear b0 b1 b2 b3 y0 y1 y2 y3
         generalize World.setCell _ _ _=w8 at HB8 HP8 ⊢
         obtain ⟨f0,f1,f2,f3⟩:=cb4 HB8.out.1
         rw [← HP.out]
         exact bodyPost_ret (v:=.tuple #[.agg #[.int .i64 o,.int .i64 l,.int .i64 h,.slice av n cap],.int .i64 0]) (by simp [results,Tryz.results80,go_sem,f0,f1,f2,f3]) rfl (prPost_p HF.out HP8.out HB8.out.2)
       · have hqe:((er:Int) != 0)=true:=by simp; omega
         have hqf:((er:Int) == 0)=false:=beq_eq_false_iff_ne.2 (by omega)
         clear her
         go_wp2_with fail
         have HB8:=hid (res4 HBW6.out HGW6.out (Nat.le_refl _) (.int .i64 0) (.int .i64 0) (.int .i64 0) (.slice none 0 0))
         clear b0 b1 b2 b3 y0 y1 y2 y3
         generalize World.setCell _ _ _=w8 at HB8 ⊢
         obtain ⟨f0,f1,f2,f3⟩:=cb4 HB8.out.1
         rw [← HP.out]
         exact bodyPost_ret (v:=.tuple #[.agg #[.int .i64 0,.int .i64 0,.int .i64 0,.slice none 0 0],.int .i64 er]) (by simp [results,Tryz.results80,go_sem,f0,f1,f2,f3]) rfl (prPost_zero HB8.out.2)
   · have hq:((a2:Int) != (s.size:Int))=true:=by simp; omega
     have hq2:((a2:Int) == (s.size:Int))=false:=beq_eq_false_iff_ne.2 (by omega)
     clear heq
     go_wp2_with fail
     have HB8:=hid (res4 HBW.out HGW.out (Nat.le_refl _) (.int .i64 0) (.int .i64 0) (.int .i64 0) (.slice none 0 0))
     clear b0 b1 b2 b3 y0 y1 y2 y3
     generalize World.setCell _ _ _=w8 at HB8 ⊢
     obtain ⟨f0,f1,f2,f3⟩:=cb4 HB8.out.1
     rw [← HP.out]
     exact bodyPost_ret (v:=.tuple #[.agg #[.int .i64 0,.int .i64 0,.int .i64 0,.slice none 0 0],.int .i64 9]) (by simp [results,Tryz.results80,go_sem,f0,f1,f2,f3]) rfl (prPost_zero HB8.out.2)
def PtPost (n m:Nat) (w:World) (e:Ending) (w':World):Prop:=∃ v,e=.returned v∧SomePt n m w v w'
theorem pat_any (s:ByteArray) (hs:s.size≤20) (hE:EscOk s) (w:World):Calls Tryz.prog 48 #[.string s] w (PtPost (phi s 0) (4*s.size+11) w):=by
 obtain ⟨P,hP⟩:∃ P,PtPost (phi s 0) (4*s.size+11) w=P:=⟨_,rfl⟩
 rw [hP]
 have HP:=hid hP
 have HC:=hid (fun W=>patRead_any s hs hE W)
 clear hP hE
 go_enter Tryz.func48,Tryz.ntmps48
 go_wp2_with fail
 have HG1:=hid (xG w (.cells #[.int .i64 0,.int .i64 0,.int .i64 0,.slice none 0 0] 28) none)
 have HB1:=hid (xN w (.cells #[.int .i64 0,.int .i64 0,.int .i64 0,.slice none 0 0] 28))
 generalize w.alloc _=w1 at HG1 HB1 ⊢
 refine (HC.out w1).mono ?_
 rintro e w2 ⟨v,er,rfl,p,hp,hpl,hps,g2⟩
 have HPQ:=hid (show PtQ (fun c=>w.heap.size+1≤c) w2 p v from PtQ.keep (kept_self (fun c (hc:w1.heap.size≤c)=>by have:=xL HB1.out; omega)) _ _ hp)
 obtain ⟨o,l,h,av,n,cap,rfl⟩:=PtQ.agg p v hp
 have HF:=hid (And.intro hpl hps)
 have HG2:=hid (yga (xT HG1.out g2) (.cells #[.int .i64 o,.int .i64 l,.int .i64 h,.slice av n cap] 28))
 have HB2:=hid (grow_new (xG w2 (.cells #[.int .i64 o,.int .i64 l,.int .i64 h,.slice av n cap] 28) none) (grow_new g2 HB1.out))
 have HPA:=hid (PtQ.keep (kept_grown (xG w2 (.cells #[.int .i64 o,.int .i64 l,.int .i64 h,.slice av n cap] 28) none) (fun r hr=>by cases hr) (fun _ h _=>h)) _ _ HPQ.out)
 clear hp hpl hps g2
 obtain ⟨b0,b1,b2,b3⟩:=cb4 HB2.out
 obtain ⟨y0,y1,y2,y3⟩:=fb4 HB2.out
 go_wp2_with fail
 have HB8:=hid (res4 HB2.out HG2.out (Nat.le_refl _) (.int .i64 o) (.int .i64 l) (.int .i64 h) (.slice av n cap))
 have HP8:=hid (PtQ.set4 (B:=w.heap.size) (Q:=fun c=>w.heap.size+1≤c) HPA.out (fun h=>by omega) (.int .i64 o) (.int .i64 l) (.int .i64 h) (.slice av n cap))
 clear b0 b1 b2 b3 y0 y1 y2 y3
 generalize World.setCell _ _ _=w8 at HB8 HP8 ⊢
 obtain ⟨f0,f1,f2,f3⟩:=cb4 HB8.out.1
 rw [← HP.out]
 exact bodyPost_ret (v:=.agg #[.int .i64 o,.int .i64 l,.int .i64 h,.slice av n cap]) (by simp [results,Tryz.results48,go_sem,f0,f1,f2,f3]) rfl ⟨_,rfl,p,PtQ.keep (kept_self (fun c hc=>by omega)) _ _ HP8.out,HF.out.1,HF.out.2,HB8.out.2⟩
theorem patHas:PatHas 48:=by
 have key:∀ (s:ByteArray) (n m:Nat),s.size≤20→EscOk s→phi s 0≤n→4*s.size+11≤m→∀ w,Calls Tryz.prog 48 #[.string s] w fun e w'=>∃ v,e=.returned v∧∃ p:Pt,PtQ (fun c=>w.heap.size≤c) w' p v∧p.leaves≤n∧p.size≤m∧w.grownBy w' none:=by
  intro s n m hs hE hn hm w
  refine (pat_any s hs hE w).mono ?_
  rintro e w' ⟨v,rfl,p,h1,h2,h3,h4⟩
  exact ⟨v,rfl,p,h1,by omega,by omega,h4⟩
 intro i hi
 match i,hi with
 | 0,_=>exact key patS0 3 _ (by decide) patS0_esc (Nat.le_of_eq patS0_phi) (by decide)
 | 1,_=>exact key patS1 1 _ (by decide) patS1_esc (Nat.le_of_eq patS1_phi) (by decide)
 | 2,_=>exact key patS2 1 _ (by decide) patS2_esc (Nat.le_of_eq patS2_phi) (by decide)
 | 3,_=>exact key patS3 1 _ (by decide) patS3_esc (Nat.le_of_eq patS3_phi) (by decide)
 | 4,_=>exact key patS4 3 _ (by decide) patS4_esc (Nat.le_of_eq patS4_phi) (by decide)
 | 5,_=>exact key patS5 2 _ (by decide) patS5_esc (Nat.le_of_eq patS5_phi) (by decide)
 | 6,_=>exact key patS6 5 _ (by decide) patS6_esc (Nat.le_of_eq patS6_phi) (by decide)
 | 7,_=>exact key patS7 3 _ (by decide) patS7_esc (Nat.le_of_eq patS7_phi) (by decide)
 | 8,_=>exact key patS8 1 _ (by decide) patS8_esc (Nat.le_of_eq patS8_phi) (by decide)
 | 9,_=>exact key patS9 4 _ (by decide) patS9_esc (Nat.le_of_eq patS9_phi) (by decide)
 | 10,_=>exact key patS10 4 _ (by decide) patS10_esc (Nat.le_of_eq patS10_phi) (by decide)
 | i+11,h=>omega
end Go.Proofs.YtplbacfjmajeeaaGreatDoor
