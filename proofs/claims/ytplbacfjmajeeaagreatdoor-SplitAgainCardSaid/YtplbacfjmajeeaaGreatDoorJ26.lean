import Derived.Test.YtplbacfjmajeeaaGreatDoorJ24
import Derived.Test.YtplbacfjmajeeaaGreatDoorJ25
namespace Go.Proofs.YtplbacfjmajeeaaGreatDoor
open Go.Lib (hid)
set_option maxHeartbeats 4000000
set_option maxRecDepth 100000
open Go.RowKit
def moreD (d:SpD) (bs:List (Int × Int)) (n:Nat) (m:Int) (fo':List Nat) (G:Nat→Nat→Prop):SpD :=
 ⟨d.lo++bs.map Prod.fst,d.hi++bs.map Prod.snd,d.ma++List.replicate n m,d.fo++fo',d.la++List.replicate n false,fun i k=>d.F i k∨G i k⟩
def Res (w w':World) (X:Nat) (rs:List Row) (v:Value) (l:List Nat):Prop :=
 Ints w' v (natI l)∧∀ g o n c,v=.slice (some ⟨g,o,none⟩) n c→w.heap.size≤g∧g<w'.heap.size∧g≠X∧NotOf rs g
def WalkPost (w:World) (base X:Nat) (d:SpD) (c:Nat) (V:SpV) (p:Pt) (m:Int) (e:Ending) (w':World):Prop :=
 ∃ a1 n1 c1 a2 n2 c2 V' fo',e=.returned (.tuple #[.slice a1 n1 c1,.slice a2 n2 c2,.bool p.nul])∧Sp w' base X (moreD d p.bytes p.leaves m fo' (p.fol d.n)) (c+(2*p.size-1)*100000000) V' [] ∧
  Ext X w (spRows d V) w' (spRows (moreD d p.bytes p.leaves m fo' (p.fol d.n)) V')∧V'.fi=V.fi∧fo'.length=p.leaves∧(∀ mm∈fo',w.heap.size≤mm) ∧
  Res w w' X (spRows (moreD d p.bytes p.leaves m fo' (p.fol d.n)) V') (.slice a1 n1 c1) (p.first d.n)∧Res w w' X (spRows (moreD d p.bytes p.leaves m fo' (p.fol d.n)) V') (.slice a2 n2 c2) (p.last d.n)
theorem moreD_n (d:SpD) (bs:List (Int × Int)) (n:Nat) (m:Int) (fo':List Nat) (G:Nat→Nat→Prop):(moreD d bs n m fo' G).n=d.n+bs.length:=by simp [moreD,SpD.n]
theorem moreD_more (d:SpD) (bs bs2:List (Int × Int)) (n n2:Nat) (m:Int) (fo' fo2:List Nat) (G G2:Nat→Nat→Prop) :
 moreD (moreD d bs n m fo' G) bs2 n2 m fo2 G2=moreD d (bs++bs2) (n+n2) m (fo'++fo2) (fun i k=>G i k∨G2 i k):=by
 unfold moreD
 simp only [List.map_append,List.append_assoc,SpD.mk.injEq,true_and]
 refine ⟨?_,?_,?_⟩
 · rw [List.replicate_append_replicate]
 · rw [List.replicate_append_replicate]
 · funext i k; simp only [or_assoc]
theorem Res.grow {w w' w'':World} {X:Nat} {rs:List Row} {v:Value} {l:List Nat} (h:Res w w' X rs v l) (g:w'.grownBy w'' none):Res w w'' X rs v l :=
 ⟨h.1.grow g,fun a o n c e=>⟨(h.2 a o n c e).1,Nat.lt_of_lt_of_le (h.2 a o n c e).2.1 g.size,(h.2 a o n c e).2.2⟩⟩
theorem Res.ext {w w' w'':World} {X:Nat} {rs rs':List Row} {v:Value} {l:List Nat} (h:Res w w' X rs v l) (E:Ext X w' rs w'' rs'):Ints w'' v (natI l):=by
 obtain ⟨⟨a,c,hv,hi⟩,h2⟩:=h
 refine ⟨a,c,hv,?_⟩
 rcases hi with hi | ⟨g,o,rfl,hi⟩
 · exact .inl hi
 · refine .inr ⟨g,o,rfl,fun j u hj=>?_⟩
   obtain ⟨_,h3,h4,h5⟩:=h2 g o _ _ hv
   have:=hi j u hj
   unfold World.cell? at this ⊢
   rw [E.frm.block g h3 ⟨h4,h5⟩]
   exact this
theorem walk_leaf2 (l h m:Int) (av:Option Addr) (cap:Nat) (w:World) (base X:Nat) (d:SpD) (c:Nat) (V:SpV) (S:Sp w base X d c V []) (hn:d.n≤100000) (hF:∀ i k,d.F i k→i<d.n) :
 Calls Tryz.prog 78 #[.pointer (some ⟨X,0,none⟩),.agg #[.int .i64 1,.int .i64 l,.int .i64 h,.slice av 0 cap],.int .i64 m] w (WalkPost w base X d c V (.mk 1 l h []) m):=by
 refine (walk_leaf l h m av 0 cap w base X d c V [] S hn hF).mono ?_
 rintro e w' ⟨g,V',mm,rfl,S',E',hg,h1,h2,h3,h4,hmm⟩
 have ed:leafD d l h m mm=moreD d (Pt.mk 1 l h []).bytes (Pt.mk 1 l h []).leaves m [mm] ((Pt.mk 1 l h []).fol d.n):=by
  simp [leafD,moreD,Pt.bytes,Pt.leaves,Pt.fol]
 rw [ed] at S' E' h3
 have hi:Ints w' (.slice (some ⟨g,0,none⟩) 1 1) (natI [d.n]):=by
  refine ⟨_,_,rfl,.inr ⟨g,0,rfl,fun j u hj=>?_⟩⟩
  rw [xC hg]
  cases j with
  | zero=>simpa [intC,natI] using hj
  | succ j=>simp [intC,natI] at hj
 have hr:Res w w' X (spRows (moreD d (Pt.mk 1 l h []).bytes (Pt.mk 1 l h []).leaves m [mm] ((Pt.mk 1 l h []).fol d.n)) V') (.slice (some ⟨g,0,none⟩) 1 1) [d.n]:=by
  refine ⟨hi,fun g' o n c e=>?_⟩
  simp only [Value.slice.injEq,Option.some.injEq,Addr.mk.injEq] at e
  obtain ⟨⟨rfl,_,_⟩,_,_⟩:=e
  exact ⟨h1,xL hg,h2,by rw [List.append_nil] at h3; exact h3⟩
 refine ⟨_,_,_,_,_,_,V',[mm],rfl,S'.mono (by omega),E',h4,rfl,fun x hx=>?_,?_,?_⟩
 · simp only [List.mem_singleton] at hx; subst hx; exact hmm
 · simpa [Pt.first] using hr
 · simpa [Pt.last] using hr
theorem lt_of_block' {w:World} {b:Nat} {o:Obj} (h:w.heap[b]? = some o):b<w.heap.size:=(Array.getElem?_eq_some_iff.1 h).1
theorem box_stays {w w':World} {P:Nat→Option Obj→Prop} (f:Frm P w w') {B:Nat} {o:Obj} (h:w.heap[B]? = some o) (hp:P B (some o)):w'.heap[B]? = some o:=by
 rw [f.block B (lt_of_block' h) (by rw [h]; exact hp)]; exact h
theorem box_ext {w w':World} {base X:Nat} {d:SpD} {c:Nat} {V:SpV} {extra rs':List Row} (S:Sp w base X d c V extra) (E:Ext X w (spRows d V) w' rs') {B:Nat} {cs:Array Value} (h:w.heap[B]? = some (.cells cs 85 (0,0))):w'.heap[B]? = some (.cells cs 85 (0,0)) :=
 box_stays E.frm h ⟨fun e=>by rw [e,S.blk] at h; simp at h,S.rows.left.not_kind h (fun r hr=>by
  simp only [spRows,List.mem_cons,List.not_mem_nil,or_false] at hr
  rcases hr with rfl | rfl | rfl | rfl | rfl<;>(simp only; decide))⟩
theorem box_link {w w':World} {base X:Nat} {d:SpD} {c:Nat} {V:SpV} {extra:List Row} (S:Sp w base X d c V extra) {as_:List Nat} (f:Frm (LinkP d.fo as_) w w') {B:Nat} {cs:Array Value} {t:TypeId} (h:w.heap[B]? = some (.cells cs t (0,0))):w'.heap[B]? = some (.cells cs t (0,0)) :=
 box_stays f h (fun i _ e=>by
  obtain ⟨es,k,hb⟩:=(S.maps i _ e).2.blk
  rw [h] at hb; simp at hb)
theorem box_row {w w':World} {base X:Nat} {d:SpD} {c:Nat} {V:SpV} {extra:List Row} (S:Sp w base X d c V extra) {j:Nat} {r:Row} (hj:extra[j]? = some r) (g:w.grownBy w' r.v.ownBlock) {B:Nat} {cs:Array Value} (h:w.heap[B]? = some (.cells cs 85 (0,0))):w'.heap[B]? = some (.cells cs 85 (0,0)):=by
 have hr:=List.mem_of_getElem? hj
 have hn:NotOf extra B:=fun r hr e=>by
  obtain ⟨_,c,hc⟩:=yob (S.rows.1 r (List.mem_append_right _ hr)) B e
  rw [h] at hc
  simp at hc
  have:=S.ek r hr
  rw [← hc.2] at this
  exact absurd this (by decide)
 rw [g.block B (xL h) (fun e=>hn r hr e.symm)]; exact h
theorem ints_row {w w':World} {row:Option Nat} {v:Value} {xs:List Int} (h:Ints w v xs) (g:w.grownBy w' row) (hv:∀ a o n c,v=.slice (some ⟨a,o,none⟩) n c→some a≠row):Ints w' v xs:=by
 obtain ⟨a,c,e,h⟩:=h
 refine ⟨a,c,e,?_⟩
 rcases h with h | ⟨b,o,rfl,h⟩
 · exact .inl h
 · exact .inr ⟨b,o,rfl,fun j u hj=>g.cell (h j u hj) (hv b o _ _ e)⟩
theorem grow_ext {w0 w w':World} {base X:Nat} {d:SpD} {c:Nat} {V:SpV} {extra rs':List Row} (G:w0.grownBy w none) (hb:base=w0.heap.size) (hX:base≤X) (S:Sp w base X d c V extra) (E:Ext X w (spRows d V) w' rs'):w0.grownBy w' none :=
 ⟨E.frm.os.trans G.os,E.frm.tape.trans G.tape,E.frm.output.trans G.output,Nat.le_trans G.size E.frm.size,fun k hk _ =>
  (E.frm.block k (Nat.lt_of_lt_of_le hk G.size) ⟨by omega,S.rows.left.old (by omega)⟩).trans (G.block k hk (by simp))⟩
theorem Sp.nilRow {w:World} {base X:Nat} {d:SpD} {c:Nat} {V:SpV} {r0 r1:Row} (S:Sp w base X d c V [r0,r1]):Sp w base X d c V [r0,⟨3,.slice none 0 0,intC []⟩]:=by
 have h0:Rws w base (spRows d V++[r0,r1]):=S.rows
 refine ⟨S.blk,?_,S.len,S.maps,S.nd,S.size,fun r hr=>?_⟩
 · have h1:=h0.set (j:=6) (r:=r1) (w':=w) rfl ⟨rfl,rfl,rfl,Nat.le_refl _,fun _ _ _=>rfl⟩ (v':=.slice none 0 0) (ys:=intC []) (World.ownsRow_nil _ _ _ _) (.inr (.inr rfl))
   have e:r1.e=3:=S.ek r1 (by simp)
   rw [e] at h1
   exact h1
 · simp only [List.mem_cons,List.not_mem_nil,or_false] at hr
   rcases hr with rfl | rfl
   · exact S.ek _ (by simp)
   · rfl
theorem bytes_len (as_:List Pt):(bytesL as_).length=ylL as_:=ybl as_
theorem leaves_take (ps:List Pt) (j:Nat) (hj:j<ps.length):ylL (ps.take (j+1))=ylL (ps.take j)+ps[j].leaves:=by
 rw [List.take_succ_eq_append_getElem hj,leavesL_snoc]
theorem leaves_take_le (ps:List Pt) (j:Nat):ylL (ps.take j)≤ylL ps:=by
 induction ps generalizing j with
 | nil=>simp [ylL]
 | cons p ps ih=>cases j with
  | zero=>simp [ylL]
  | succ j=>simp only [List.take_succ_cons,ylL]; have:=ih j; omega
def ThenRel (base X:Nat) (d:SpD) (c:Nat) (V:SpV) (m:Int) (w:World) (T:List Pt) (fv lv:Value) (wr:World):Prop :=
 ∃ V' fo',Sp wr base X (moreD d (bytesL T) (ylL T) m fo' (folT T d.n [])) (c+2*sizes T*100000000) V' [⟨3,fv,intC (natI (firstT T d.n))⟩,⟨3,lv,intC (natI (lastT T d.n []))⟩] ∧
  Ext X w (spRows d V) wr (spRows (moreD d (bytesL T) (ylL T) m fo' (folT T d.n [])) V')∧V'.fi=V.fi∧fo'.length=ylL T∧(∀ mm∈fo',w.heap.size≤mm) ∧
  NewRows w [⟨3,fv,intC (natI (firstT T d.n))⟩,⟨3,lv,intC (natI (lastT T d.n []))⟩]∧wr.heap[w.heap.size]? = some (.cells #[.pointer (some ⟨X,0,none⟩)] 85 (0,0))
theorem then_rows (d:SpD) (T:List Pt) (q:Pt) (m:Int) (fo' fo2:List Nat) (G G1 G2:Nat→Nat→Prop) (V:SpV) :
 spRows (moreD d (bytesL (T++[q])) (ylL (T++[q])) m (fo'++fo2) G) V=spRows (moreD (moreD d (bytesL T) (ylL T) m fo' G1) q.bytes q.leaves m fo2 G2) V:=by
 rw [moreD_more,bytesL_snoc,leavesL_snoc]
 rfl
theorem then_d {d:SpD} {T:List Pt} {q:Pt} {m:Int} {fo' fo2:List Nat} {w:World} {base X c:Nat} {V:SpV} {extra:List Row} {G G1 G2 G3:Nat→Nat→Prop}
 (S:Sp w base X { moreD (moreD d (bytesL T) (ylL T) m fo' G1) q.bytes q.leaves m fo2 G2 with F:=fun a b=>(moreD (moreD d (bytesL T) (ylL T) m fo' G1) q.bytes q.leaves m fo2 G2).F a b∨G3 a b } c V extra)
 (hG:∀ a b,G a b↔(G1 a b∨G2 a b∨G3 a b)):Sp w base X (moreD d (bytesL (T++[q])) (ylL (T++[q])) m (fo'++fo2) G) c V extra:=by
 have h:=S.iff (G:=(moreD d (bytesL (T++[q])) (ylL (T++[q])) m (fo'++fo2) G).F) (fun a b=>by
  simp only [moreD]
  rw [hG]
  constructor
  · rintro (((h | h) | h) | h)
    · exact .inl h
    · exact .inr (.inl h)
    · exact .inr (.inr (.inl h))
    · exact .inr (.inr (.inr h))
  · rintro (h | h | h | h)
    · exact .inl (.inl (.inl h))
    · exact .inl (.inl (.inr h))
    · exact .inl (.inr h)
    · exact .inr h)
 have e:({ moreD (moreD d (bytesL T) (ylL T) m fo' G1) q.bytes q.leaves m fo2 G2 with F:=(moreD d (bytesL (T++[q])) (ylL (T++[q])) m (fo'++fo2) G).F }:SpD)=moreD d (bytesL (T++[q])) (ylL (T++[q])) m (fo'++fo2) G:=by
  rw [moreD_more,bytesL_snoc,leavesL_snoc]
  rfl
 exact e ▸ h
theorem size_pos1 (p:Pt):1≤p.size:=by obtain ⟨o,l,h,as_⟩:=p; simp only [Pt.size]; omega
theorem then_fin {w w5:World} {base X:Nat} {d:SpD} {c c':Nat} {V V2:SpV} {m:Int} {T:List Pt} {q:Pt} {fo1 fo2:List Nat} {fv lv:Value} {ys zs:List Int}
 (S:Sp w5 base X { moreD (moreD d (bytesL T) (ylL T) m fo1 (folT T d.n [])) q.bytes q.leaves m fo2 (q.fol (d.n+ylL T)) with F:=fun a b=>(moreD (moreD d (bytesL T) (ylL T) m fo1 (folT T d.n [])) q.bytes q.leaves m fo2 (q.fol (d.n+ylL T))).F a b∨(a∈lastT T d.n []∧b∈q.first (d.n+ylL T)) } c' V2 [⟨3,fv,intC ys⟩,⟨3,lv,intC zs⟩])
 (E:Ext X w (spRows d V) w5 (spRows (moreD (moreD d (bytesL T) (ylL T) m fo1 (folT T d.n [])) q.bytes q.leaves m fo2 (q.fol (d.n+ylL T))) V2)) (hc:c'≤c+2*sizes (T++[q])*100000000) (hfi:V2.fi=V.fi) (hl1:fo1.length=ylL T) (hl2:fo2.length=q.leaves)
 (h1:∀ mm∈fo1,w.heap.size≤mm) (h2:∀ mm∈fo2,w.heap.size≤mm) (N:NewRows w [⟨3,fv,intC ys⟩,⟨3,lv,intC zs⟩]) (B:w5.heap[w.heap.size]? = some (.cells #[.pointer (some ⟨X,0,none⟩)] 85 (0,0)))
 (hy:ys=natI (firstT (T++[q]) d.n)) (hz:zs=natI (lastT (T++[q]) d.n [])):ThenRel base X d c V m w (T++[q]) fv lv w5:=by
 subst hy; subst hz
 refine ⟨V2,fo1++fo2,(then_d S (fun a b=>folT_snoc T q d.n [] a b)).mono hc,?_,hfi,by rw [List.length_append,leavesL_snoc,hl1,hl2],fun mm hm=>?_,N,B⟩
 · rw [then_rows d T q m fo1 fo2 _ (folT T d.n []) (q.fol (d.n+ylL T)) V2]; exact E
 · rcases List.mem_append.1 hm with hm | hm
   · exact h1 mm hm
   · exact h2 mm hm
theorem res_row {w w':World} {base X:Nat} {d:SpD} {c:Nat} {V:SpV} {extra:List Row} (S:Sp w' base X d c V extra) (N:NewRows w extra) {j:Nat} {a:Option Addr} {n k:Nat} {l:List Nat} (hj:extra[j]? = some ⟨3,.slice a n k,intC (natI l)⟩):Res w w' X (spRows d V) (.slice a n k) l:=by
 have hlen:(spRows d V).length=5:=rfl
 have hj2:(spRows d V++extra)[5+j]? = some ⟨3,.slice a n k,intC (natI l)⟩:=by
  rw [List.getElem?_append_right (by rw [hlen]; omega),hlen,show 5+j-5=j by omega]; exact hj
 have hm:=List.mem_of_getElem? hj
 have own:=S.rows.get hj2
 refine ⟨Ints.of_own own,fun g o n' c' e=>?_⟩
 simp only [Value.slice.injEq] at e
 obtain ⟨rfl,rfl,rfl⟩:=e
 have hk:(Value.slice (some ⟨g,o,none⟩) n k).ownBlock=some g:=rfl
 refine ⟨N _ hm g hk,(own.lt g hk).2,fun e=>S.noX.right _ hm (by rw [← e]; exact hk),fun r hr e=>?_⟩
 exact (List.pairwise_append.1 S.rows.2).2.2 r hr _ hm g e hk
theorem ints_of_row {w':World} {base X:Nat} {d:SpD} {c:Nat} {V:SpV} {extra:List Row} (S:Sp w' base X d c V extra) {j:Nat} {v:Value} {l:List Int} (hj:extra[j]? = some ⟨3,v,intC l⟩):Ints w' v l:=by
 have hlen:(spRows d V).length=5:=rfl
 have hj2:(spRows d V++extra)[5+j]? = some ⟨3,v,intC l⟩:=by
  rw [List.getElem?_append_right (by rw [hlen]; omega),hlen,show 5+j-5=j by omega]; exact hj
 exact Ints.of_own (S.rows.get hj2)
theorem bud_le (c s:Nat):c+2*s*100000000≤c+(2*(1+s)-1)*100000000:=by omega
theorem walk_fin {w w':World} {base X:Nat} {d:SpD} {c c':Nat} {V V1:SpV} {p:Pt} {m:Int} {bs:List (Int × Int)} {n:Nat} {fo1:List Nat} {G:Nat→Nat→Prop} {fa la:Option Addr} {fn fc ln lc:Nat} {F L:List Nat} {b:Bool}
 (S:Sp w' base X (moreD d bs n m fo1 G) c' V1 [⟨3,.slice fa fn fc,intC (natI F)⟩,⟨3,.slice la ln lc,intC (natI L)⟩]) (E:Ext X w (spRows d V) w' (spRows (moreD d bs n m fo1 G) V1)) (N:NewRows w [⟨3,.slice fa fn fc,intC (natI F)⟩,⟨3,.slice la ln lc,intC (natI L)⟩])
 (hfi:V1.fi=V.fi) (hnew:∀ mm∈fo1,w.heap.size≤mm) (hl:fo1.length=n) (e1:p.bytes=bs) (e2:p.leaves=n) (e3:p.fol d.n=G) (e4:p.first d.n=F) (e5:p.last d.n=L) (e6:p.nul=b) (hc:c'≤c+(2*p.size-1)*100000000) :
 WalkPost w base X d c V p m (.returned (.tuple #[.slice fa fn fc,.slice la ln lc,.bool b])) w':=by
 subst e1; subst e2; subst e3; subst e4; subst e5; subst e6
 exact ⟨fa,fn,fc,la,ln,lc,V1,fo1,rfl,S.bare.mono hc,E,hfi,hl,hnew,res_row S N (j:=0) rfl,res_row S N (j:=1) rfl⟩
theorem new_maps {d:SpD} {T:List Pt} {q:Pt} {m:Int} {fo1 fo2:List Nat} {G1 G2:Nat→Nat→Prop} {N:Nat} (hd:d.fo.length=d.n) (h1:∀ mm∈fo1,N≤mm) (h2:∀ mm∈fo2,N≤mm) {i k:Nat} (hi:d.n≤i)
 (hk:(moreD (moreD d (bytesL T) (ylL T) m fo1 G1) q.bytes q.leaves m fo2 G2).fo[i]? = some k):N≤k:=by
 simp only [moreD] at hk
 rw [List.append_assoc,List.getElem?_append_right (by omega)] at hk
 rcases List.mem_append.1 (List.mem_of_getElem? hk) with h | h
 · exact h1 k h
 · exact h2 k h
theorem newRows_nil {w:World} {r0 r1:Row} (N:NewRows w [r0,r1]):NewRows w [r0,⟨3,.slice none 0 0,intC []⟩]:=by
 intro r hr k hk
 simp only [List.mem_cons,List.not_mem_nil,or_false] at hr
 rcases hr with rfl | rfl
 · exact N _ (by simp) k hk
 · simp [Value.ownBlock] at hk
theorem then_start_rows (d:SpD) (m:Int) (V:SpV):spRows (moreD d (bytesL []) (ylL []) m [] (folT [] d.n [])) V=spRows d V:=by
 simp [spRows,moreD,bytesL,ylL]
theorem then_start {w:World} {base X:Nat} {d:SpD} {c:Nat} {V:SpV} {m:Int} (S:Sp w base X d c V []) :
 Sp w base X (moreD d (bytesL []) (ylL []) m [] (folT [] d.n [])) (c+2*sizes []*100000000) V [⟨3,.slice none 0 0,intC (natI (firstT [] d.n))⟩,⟨3,.slice none 0 0,intC (natI (lastT [] d.n []))⟩]:=by
 have e:moreD d (bytesL []) (ylL []) m [] (folT [] d.n [])=d:=by
  simp [moreD,bytesL,ylL,folT]
 rw [e]
 have hr:=S.rows
 rw [List.append_nil] at hr
 refine ⟨S.blk,⟨fun r h=>?_,List.pairwise_append.2 ⟨hr.2,?_,fun a _ b hb k _ hk=>?_⟩⟩,S.len,fun i mm hi=>⟨(S.maps i mm hi).1,(S.maps i mm hi).2.mono (by omega)⟩,S.nd,S.size,fun r h=>?_⟩
 · rcases List.mem_append.1 h with h | h
   · exact hr.1 r h
   · simp only [List.mem_cons,List.not_mem_nil,or_false] at h
     rcases h with rfl | rfl<;>exact World.ownsRow_nil _ _ _ _
 · simp [Value.ownBlock]
 · simp only [List.mem_cons,List.not_mem_nil,or_false] at hb
   rcases hb with rfl | rfl<;>simp [Value.ownBlock] at hk
 · simp only [List.mem_cons,List.not_mem_nil,or_false] at h
   rcases h with rfl | rfl<;>rfl
theorem folT_bd (as_:List Pt):∀ b L i k,folT as_ b L i k→(i∈L∨(b≤i∧i<b+ylL as_))∧(b≤k∧k<b+ylL as_):=by
 induction as_ with
 | nil=>intro b L i k hk; simp [folT] at hk
 | cons a as_ iha =>
  intro b L i k hk
  simp only [folT,ylL] at hk ⊢
  rcases hk with hk | ⟨h1,h2⟩ | hk
  · have:=fol_bd a b i k hk; omega
  · have:=first_bd a b k h2; exact ⟨.inl h1,by omega⟩
  · obtain ⟨h1,h2⟩:=iha _ _ _ _ hk
    refine ⟨?_,by omega⟩
    rcases h1 with h1 | h1
    · rcases List.mem_append.1 h1 with h3 | h3
      · split at h3
        · exact .inl h3
        · cases h3
      · have:=last_bd a b i h3; exact .inr (by omega)
    · exact .inr (by omega)
theorem then_dom {d:SpD} {T:List Pt} {m:Int} {fo:List Nat} (hF:∀ i k,d.F i k→i<d.n):∀ i k,(moreD d (bytesL T) (ylL T) m fo (folT T d.n [])).F i k→i<(moreD d (bytesL T) (ylL T) m fo (folT T d.n [])).n:=by
 intro i k h
 rw [moreD_n,bytes_len]
 simp only [moreD] at h
 rcases h with h | h
 · have:=hF i k h; omega
 · obtain ⟨h1,_⟩:=folT_bd T d.n [] i k h
   rcases h1 with h1 | h1
   · cases h1
   · omega
def WalkIH (w0:World) (ps:List Pt):Prop :=
 ∀ (j:Nat) (hj:j<ps.length) (m:Int) (v:Value) (w:World) (base X:Nat) (d:SpD) (c:Nat) (V:SpV),PtAt w0 ps[j] v→w0.grownBy w none→base=w0.heap.size→base≤X→Sp w base X d c V []→d.n+ps[j].leaves≤10000→c+2*ps[j].size*100000000≤100000000000→(∀ i k,d.F i k→i<d.n) →
  Calls Tryz.prog 78 #[.pointer (some ⟨X,0,none⟩),v,.int .i64 m] w (WalkPost w base X d c V ps[j] m)
theorem walk_then (w0:World) (ps:List Pt) (HIH:Hid (WalkIH w0 ps)) (m:Int) (av:Option Addr) (cap:Nat) (w:World) (base X:Nat) (d:SpD) (c:Nat) (V:SpV) (hps:ps=[]∨∃ b off,av=some ⟨b,off,none⟩∧PtsAt w0 ps b off) (G:w0.grownBy w none) (hb:base=w0.heap.size) (hX:base≤X) (S:Sp w base X d c V [])
 (hn:d.n+(Pt.mk 2 0 0 ps).leaves≤10000) (hc:c+2*(Pt.mk 2 0 0 ps).size*100000000≤100000000000) (hF:∀ i k,d.F i k→i<d.n) :
 Calls Tryz.prog 78 #[.pointer (some ⟨X,0,none⟩),.agg #[.int .i64 2,.int .i64 0,.int .i64 0,.slice av ps.length cap],.int .i64 m] w (WalkPost w base X d c V (.mk 2 0 0 ps) m):=by
 have hlv:(Pt.mk 2 0 0 ps).leaves=ylL ps:=by simp [Pt.leaves]
 have hsz:(Pt.mk 2 0 0 ps).size=1+sizes ps:=by simp [Pt.size]
 rw [hlv] at hn
 rw [hsz] at hc
 have hlen:=len_sizes ps
 have HA:=hid hps
 have HF:=hid hF
 have HS:=hid S
 have HG:=hid G
 have HB:=hid hb
 clear hps hF hb hlv hsz G
 have hbx:((w.alloc (.cells #[.pointer (some ⟨X,0,none⟩)] 85)).alloc (.cells #[(.int .i64 2),.int .i64 0,.int .i64 0,.slice av ps.length cap] 28)).heap[w.heap.size]? = some (.cells #[.pointer (some ⟨X,0,none⟩)] 85 (0,0)):=grow_new (xG _ _ _) (xN w _)
 have HX:=hid hbx
 have c0:=xC hbx 0
 simp only [xGe,xGz] at c0
 clear S hbx
 have hR0:ThenRel base X d c V m w [] (.slice none 0 0) (.slice none 0 0) ((w.alloc (.cells #[.pointer (some ⟨X,0,none⟩)] 85)).alloc (.cells #[(.int .i64 2),.int .i64 0,.int .i64 0,.slice av ps.length cap] 28)):=by
  have S1:=(HS.out.alloc (.cells #[.pointer (some ⟨X,0,none⟩)] 85)).alloc (.cells #[(.int .i64 2),.int .i64 0,.int .i64 0,.slice av ps.length cap] 28)
  refine ⟨V,[],then_start S1,?_,rfl,rfl,(fun x hx=>by cases hx),(fun r hr k hk=>?_),HX.out⟩
  · rw [then_start_rows]; exact ((Ext.refl X w (spRows d V)).alloc _).alloc _
  · simp only [List.mem_cons,List.not_mem_nil,or_false] at hr
    rcases hr with rfl | rfl<;>simp [Value.ownBlock] at hk
 have HR0:=hid hR0
 clear hR0
 go_enter Tryz.func78,Tryz.ntmps78
 go_wp2_with fail
 go_loopw [6,7,8,91] (fun f l em i wr=>∃ (j:Nat) (fa la:Option Addr) (fn fc ln lc:Nat),j≤ps.length∧i=.int .i64 j∧f=.slice fa fn fc∧l=.slice la ln lc∧em=.bool (nulAll (ps.take j))∧ThenRel base X d c V m w (ps.take j) (.slice fa fn fc) (.slice la ln lc) wr) (fun _ _ _ i _=>ps.length-(intOf i).toNat)
 case atStart=>exact ⟨0,none,none,0,0,0,0,Nat.zero_le _,rfl,rfl,rfl,rfl,HR0.out⟩
 case round =>
  obtain ⟨j,fa,la,fn,fc,ln,lc,hj,rfl,rfl,rfl,rfl,hrel⟩:=hrel
  have HR:=hid hrel
  clear hrel
  by_cases hlt:j<ps.length
  · obtain ⟨V1,fo1,S1,E1,hfi1,hlen1,hnew1,N1,B1⟩:=HR.out
    have G1:=grow_ext HG.out HB.out hX HS.out E1
    obtain ⟨b,off,xo,xl,xh,xa,xn,xc,rfl,h0,h1,h2,h3,hq⟩:=PtAt.elem HA.out j hlt
    replace h0:=ycg h0 G1
    replace h1:=ycg h1 G1
    replace h2:=ycg h2 G1
    replace h3:=ycg h3 G1
    have cb:=xC B1 0
    simp only [xGe,xGz] at cb
    have cb2:∀ o,(wr.alloc o).cell? ⟨w.heap.size,0,none⟩=some (.pointer (some ⟨X,0,none⟩)):=fun o=>ycg cb (xG wr o none)
    have hle1:=leaves_take ps j hlt
    have hle2:=leaves_take_le ps (j+1)
    have hsz1:=sizes_take ps j hlt
    have hsz2:=sizes_take_le ps (j+1)
    have HT:=hid (List.take_succ_eq_append_getElem hlt)
    have hIH:=HIH.out j hlt m (.agg #[.int .i64 xo,.int .i64 xl,.int .i64 xh,.slice xa xn xc]) (wr.alloc (.cells #[.int .i64 xo,.int .i64 xl,.int .i64 xh,.slice xa xn xc] 28)) base X (moreD d (bytesL (ps.take j)) (ylL (ps.take j)) m fo1 (folT (ps.take j) d.n [])) (c+2*sizes (ps.take j)*100000000) V1 hq (yga G1 _) HB.out hX (S1.bare.alloc _) (by rw [moreD_n,bytes_len]; omega) (by omega) (then_dom (HF.out))
    generalize ps[j]=q at HT hIH hle1 hsz1
    generalize ps.take j=T at *
    have HS1:=hid S1
    have HE1:=hid E1
    have HN1:=hid N1
    have HB1:=hid B1
    have HNew:=hid hnew1
    have HI:=hid hIH
    clear S1 E1 N1 B1 hnew1 hIH hq
    go_wp2_with fail
    refine HI.out.mono ?_
    rintro e w2 ⟨b1,k1,q1,b2,k2,q2,V2,fo2,rfl,S2,E2,hfi2,hlen2,hnew2,R1,R2⟩
    rw [moreD_n,bytes_len] at S2 E2 R1 R2
    have S2b:=(HS1.out.alloc (.cells #[.int .i64 xo,.int .i64 xl,.int .i64 xh,.slice xa xn xc] 28)).beside E2 S2
    have B2:=box_ext (HS1.out.alloc (.cells #[.int .i64 xo,.int .i64 xl,.int .i64 xh,.slice xa xn xc] 28)) E2 (grow_new (xG wr _ none) HB1.out)
    have E2b:=(HE1.out.alloc (.cells #[.int .i64 xo,.int .i64 xl,.int .i64 xh,.slice xa xn xc] 28)).trans E2
    have hqs:=size_pos1 q
    have hlenT:=lastT_len T d.n []
    have hlenF:=firstT_len T d.n
    have hlenq:=first_len q (d.n+ylL T)
    have hlenl:=last_len q (d.n+ylL T)
    simp only [List.length_nil,Nat.zero_add] at hlenT
    have hmul:(lastT T d.n []).length*(q.first (d.n+ylL T)).length≤10000*10000:=Nat.mul_le_mul (by omega) (by omega)
    have cb3:=xC B2 0
    simp only [xGe,xGz] at cb3
    have hdn:(moreD (moreD d (bytesL T) (ylL T) m fo1 (folT T d.n [])) q.bytes q.leaves m fo2 (q.fol (d.n+ylL T))).n=d.n+ylL T+q.leaves:=by rw [moreD_n,moreD_n,bytes_len,Pt.bytes_length]
    have HL:=hid (link_any (lastT T d.n []) (q.first (d.n+ylL T)) (.slice la ln lc) (.slice b1 k1 q1) w2 base X w.heap.size _ _ V2 _ (ints_of_row S2b (j:=1) rfl) R1.1 S2b cb3
     (fun i hi=>by rw [hdn]; rcases lastT_bd T d.n [] i hi with h | h; cases h; omega) (by omega) (fun k hk=>by have:=first_bd q _ k hk; omega) (by omega) (by omega) (by omega))
    have hF1:∀ mm∈fo2,w.heap.size≤mm:=fun mm hm=>Nat.le_trans (Nat.le_trans HE1.out.frm.size (xG wr _ none).size) (hnew2 mm hm)
    have HNM:=hid (fun (i:Nat) (hi:i∈lastT T d.n []) (k:Nat) (hk:(moreD (moreD d (bytesL T) (ylL T) m fo1 (folT T d.n [])) q.bytes q.leaves m fo2 (q.fol (d.n+ylL T))).fo[i]? = some k)=>new_maps HS.out.len.2.2.1 HNew.out hF1 (by rcases lastT_bd T d.n [] i hi with h | h; cases h; omega) hk)
    have HS2:=hid S2b
    have HE2:=hid E2b
    have HB2:=hid B2
    have HR1:=hid R1
    have HR2:=hid R2
    have HF2:=hid hF1
    have HN2:=hid (show ∀ a o n c,Value.slice b2 k2 q2=.slice (some ⟨a,o,none⟩) n c→some a≠(Value.slice fa fn fc).ownBlock from fun a o n c e e2=>by
     have h1:=(R2.2 a o n c e).1
     have h2:=((HS1.out.rows.get (j:=5) rfl).lt a e2.symm).2
     have h3:=(xG wr (.cells #[.int .i64 xo,.int .i64 xl,.int .i64 xh,.slice xa xn xc] 28) none).size
     simp at h1 h3
     omega)
    have hbud:c+2*sizes T*100000000+(2*q.size-1)*100000000+(lastT T d.n []).length*(q.first (d.n+ylL T)).length≤c+2*sizes (T++[q])*100000000:=by
     rw [sizes_snoc]; omega
    have HBU:=hid hbud
    obtain ⟨eb,heb⟩:∃ eb,nulAll T=eb:=⟨_,rfl⟩
    obtain ⟨qe,hqe⟩:∃ qe,q.nul=qe:=⟨_,rfl⟩
    have HEB:=hid heb
    have HQE:=hid hqe
    rw [heb,hqe]
    clear heb hqe S2 E2 S2b E2b B2 R1 R2 hnew2 hbud hdn hF1 hmul c0
    go_wp2_with fail
    refine HL.out.mono ?_
    rintro e w3 ⟨rfl,S3,F3⟩
    have HS3:=hid S3
    have HE3:=hid (link_ext HS2.out HE2.out F3 HNM.out)
    have HB3:=hid (box_link HS2.out F3 HB2.out)
    have HI1:=hid (link_ints HS2.out F3 HR1.out.1)
    have HI2:=hid (link_ints HS2.out F3 HR2.out.1)
    clear S3 F3
    have l1:(natI (firstT T d.n)).length+(natI (q.first (d.n+ylL T))).length≤1000000:=by rw [natI_len,natI_len]; omega
    have l2:(natI (lastT T d.n [])).length+(natI (q.last (d.n+ylL T))).length≤1000000:=by rw [natI_len,natI_len]; omega
    have l3:([]:List Int).length+(natI (q.last (d.n+ylL T))).length≤1000000:=by rw [natI_len]; simp; omega
    have HL1:=hid l1
    have HL2:=hid l2
    have HL3:=hid l3
    clear l1 l2 l3
    cases eb with
    | false =>
     cases qe with
     | false =>
      go_wp2_with (at_builtin; refine wpList_append_row rfl _ _ rfl (Sp.nilRow HS3.out) HE3.out (newRows_nil HN1.out) 1 (.slice none 0 0) [] rfl rfl rfl HI2.out HL3.out ?_; intro a5 n5 c5 w5 S5 E5 N5 g5)
      have HT1:=hid (show ThenRel base X d c V m w (T++[q]) (.slice fa fn fc) (.slice a5 n5 c5) w5 from then_fin S5 E5 HBU.out (hfi2.trans hfi1) hlen1 hlen2 HNew.out HF2.out N5 (box_row (Sp.nilRow HS3.out) (j:=1) rfl g5 HB3.out) (by rw [firstT_snoc,HEB.out]; simp) (by rw [lastT_snoc,HQE.out]; simp))
      have HNA:=hid (show nulAll (ps.take (j+1))=false by rw [HT.out,nulAll_snoc,HEB.out]; rfl)
      clear S5 E5 N5 g5
      go_roundw
      case rel=>exact ⟨j+1,fa,a5,fn,fc,n5,c5,by omega,by go_num,rfl,rfl,by rw [HNA.out],by rw [HT.out]; exact HT1.out⟩
      case measure=>simp [intOf]; omega
     | true =>
      go_wp2_with (at_builtin; refine wpList_append_row rfl _ _ rfl HS3.out HE3.out HN1.out 1 (.slice la ln lc) (natI (lastT T d.n [])) rfl rfl rfl HI2.out HL2.out ?_; intro a5 n5 c5 w5 S5 E5 N5 g5)
      have HT1:=hid (show ThenRel base X d c V m w (T++[q]) (.slice fa fn fc) (.slice a5 n5 c5) w5 from then_fin S5 E5 HBU.out (hfi2.trans hfi1) hlen1 hlen2 HNew.out HF2.out N5 (box_row HS3.out (j:=1) rfl g5 HB3.out) (by rw [firstT_snoc,HEB.out]; simp) (by rw [lastT_snoc,HQE.out,if_pos rfl,natI_append]))
      have HNA:=hid (show nulAll (ps.take (j+1))=false by rw [HT.out,nulAll_snoc,HEB.out]; rfl)
      clear S5 E5 N5 g5
      go_roundw
      case rel=>exact ⟨j+1,fa,a5,fn,fc,n5,c5,by omega,by go_num,rfl,rfl,by rw [HNA.out],by rw [HT.out]; exact HT1.out⟩
      case measure=>simp [intOf]; omega
    | true =>
     cases qe with
     | false =>
      go_wp2_with (first | (have tok:=g4; at_builtin; refine wpList_append_row rfl _ _ rfl (Sp.nilRow S4) E4 (newRows_nil N4) 1 (.slice none 0 0) [] rfl rfl rfl HI2b.out HL3.out ?_; intro a5 n5 c5 w5 S5 E5 N5 g5; clear tok) | (at_builtin; refine wpList_append_row rfl _ _ rfl HS3.out HE3.out HN1.out 0 (.slice fa fn fc) (natI (firstT T d.n)) rfl rfl rfl HI1.out HL1.out ?_; intro a4 n4 c4 w4 S4 E4 N4 g4; have HI2b:=hid (ints_row HI2.out g4 HN2.out)))
      have HT1:=hid (show ThenRel base X d c V m w (T++[q]) (.slice a4 n4 c4) (.slice a5 n5 c5) w5 from then_fin S5 E5 HBU.out (hfi2.trans hfi1) hlen1 hlen2 HNew.out HF2.out N5 (box_row (Sp.nilRow S4) (j:=1) rfl g5 (box_row HS3.out (j:=0) rfl g4 HB3.out)) (by rw [firstT_snoc,HEB.out,if_pos rfl,natI_append]) (by rw [lastT_snoc,HQE.out]; simp))
      have HNA:=hid (show nulAll (ps.take (j+1))=false by rw [HT.out,nulAll_snoc,HEB.out,HQE.out]; rfl)
      clear S4 E4 N4 g4 S5 E5 N5 g5
      go_roundw
      case rel=>exact ⟨j+1,a4,a5,n4,c4,n5,c5,by omega,by go_num,rfl,rfl,by rw [HNA.out],by rw [HT.out]; exact HT1.out⟩
      case measure=>simp [intOf]; omega
     | true =>
      go_wp2_with (first | (have tok:=g4; at_builtin; refine wpList_append_row rfl _ _ rfl S4 E4 N4 1 (.slice la ln lc) (natI (lastT T d.n [])) rfl rfl rfl HI2b.out HL2.out ?_; intro a5 n5 c5 w5 S5 E5 N5 g5; clear tok) | (at_builtin; refine wpList_append_row rfl _ _ rfl HS3.out HE3.out HN1.out 0 (.slice fa fn fc) (natI (firstT T d.n)) rfl rfl rfl HI1.out HL1.out ?_; intro a4 n4 c4 w4 S4 E4 N4 g4; have HI2b:=hid (ints_row HI2.out g4 HN2.out)))
      have HT1:=hid (show ThenRel base X d c V m w (T++[q]) (.slice a4 n4 c4) (.slice a5 n5 c5) w5 from then_fin S5 E5 HBU.out (hfi2.trans hfi1) hlen1 hlen2 HNew.out HF2.out N5 (box_row S4 (j:=1) rfl g5 (box_row HS3.out (j:=0) rfl g4 HB3.out)) (by rw [firstT_snoc,HEB.out,if_pos rfl,natI_append]) (by rw [lastT_snoc,HQE.out,if_pos rfl,natI_append]))
      have HNA:=hid (show nulAll (ps.take (j+1))=true by rw [HT.out,nulAll_snoc,HEB.out,HQE.out]; rfl)
      clear S4 E4 N4 g4 S5 E5 N5 g5
      go_roundw
      case rel=>exact ⟨j+1,a4,a5,n4,c4,n5,c5,by omega,by go_num,rfl,rfl,by rw [HNA.out],by rw [HT.out]; exact HT1.out⟩
      case measure=>simp [intOf]; omega
  · have hje:j=ps.length:=by omega
    have HE:=hid (show ps.take j=ps by rw [List.take_of_length_le (by omega)])
    obtain ⟨V1,fo1,S1,E1,hfi1,hlen1,hnew1,N1,B1⟩:=HR.out
    rw [HE.out] at S1 E1 hlen1 N1
    have HP:=hid (walk_fin (p:=.mk 2 0 0 ps) (c:=c) (b:=nulAll ps) S1 E1 N1 hfi1 hnew1 hlen1 (by simp [Pt.bytes]) (by simp [Pt.leaves]) (by funext i k; simp [Pt.fol]) (by simp [Pt.first]) (by simp [Pt.last]) (by simp [Pt.nul]) (bud_le c (sizes ps)))
    clear S1 E1 N1 B1 hnew1 hje
    rw [HE.out]
    go_wp2_with fail
    try go_ret3
    exact HP.out
end Go.Proofs.YtplbacfjmajeeaaGreatDoor
