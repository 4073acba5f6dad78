import Derived.Test.YtplbacfjmajeeaaGreatDoorJ26
namespace Go.Proofs.YtplbacfjmajeeaaGreatDoor
open Go.Lib (hid)
set_option maxHeartbeats 4000000
set_option maxRecDepth 100000
open Go.RowKit
def OrRel (base X:Nat) (d:SpD) (c:Nat) (V:SpV) (m:Int) (w:World) (T:List Pt) (fv lv:Value) (wr:World):Prop :=
 ∃ V' fo',Sp wr base X (moreD d (bytesL T) (ylL T) m fo' (folO T d.n)) (c+2*sizes T*100000000) V' [⟨3,fv,intC (natI (firstO T d.n))⟩,⟨3,lv,intC (natI (lastO T d.n))⟩] ∧
  Ext X w (spRows d V) wr (spRows (moreD d (bytesL T) (ylL T) m fo' (folO T d.n)) V')∧V'.fi=V.fi∧fo'.length=ylL T∧(∀ mm∈fo',w.heap.size≤mm) ∧
  NewRows w [⟨3,fv,intC (natI (firstO T d.n))⟩,⟨3,lv,intC (natI (lastO T d.n))⟩]∧wr.heap[w.heap.size]? = some (.cells #[.pointer (some ⟨X,0,none⟩)] 85 (0,0))
theorem or_fin {w w5:World} {base X:Nat} {d:SpD} {c c':Nat} {V V2:SpV} {m:Int} {T:List Pt} {q:Pt} {fo1 fo2:List Nat} {fv lv:Value} {ys zs:List Int}
 (S:Sp w5 base X (moreD (moreD d (bytesL T) (ylL T) m fo1 (folO T d.n)) q.bytes q.leaves m fo2 (q.fol (d.n+ylL T))) c' V2 [⟨3,fv,intC ys⟩,⟨3,lv,intC zs⟩])
 (E:Ext X w (spRows d V) w5 (spRows (moreD (moreD d (bytesL T) (ylL T) m fo1 (folO T d.n)) q.bytes q.leaves m fo2 (q.fol (d.n+ylL T))) V2)) (hc:c'≤c+2*sizes (T++[q])*100000000) (hfi:V2.fi=V.fi) (hl1:fo1.length=ylL T) (hl2:fo2.length=q.leaves)
 (h1:∀ mm∈fo1,w.heap.size≤mm) (h2:∀ mm∈fo2,w.heap.size≤mm) (N:NewRows w [⟨3,fv,intC ys⟩,⟨3,lv,intC zs⟩]) (B:w5.heap[w.heap.size]? = some (.cells #[.pointer (some ⟨X,0,none⟩)] 85 (0,0)))
 (hy:ys=natI (firstO (T++[q]) d.n)) (hz:zs=natI (lastO (T++[q]) d.n)):OrRel base X d c V m w (T++[q]) fv lv w5:=by
 subst hy; subst hz
 have S2:=then_d (G3:=fun _ _=>False) (S.iff (G:=fun a b=>(moreD (moreD d (bytesL T) (ylL T) m fo1 (folO T d.n)) q.bytes q.leaves m fo2 (q.fol (d.n+ylL T))).F a b∨False) (fun a b=>by simp)) (G:=folO (T++[q]) d.n) (fun a b=>by rw [folO_snoc]; simp)
 refine ⟨V2,fo1++fo2,S2.mono hc,?_,hfi,by rw [List.length_append,leavesL_snoc,hl1,hl2],fun mm hm=>?_,N,B⟩
 · rw [then_rows d T q m fo1 fo2 _ (folO T d.n) (q.fol (d.n+ylL T)) V2]; exact E
 · rcases List.mem_append.1 hm with hm | hm
   · exact h1 mm hm
   · exact h2 mm hm
theorem or_start_rows (d:SpD) (m:Int) (V:SpV):spRows (moreD d (bytesL []) (ylL []) m [] (folO [] d.n)) V=spRows d V:=by
 simp [spRows,moreD,bytesL,ylL]
theorem or_start {w:World} {base X:Nat} {d:SpD} {c:Nat} {V:SpV} {m:Int} (S:Sp w base X d c V []) :
 Sp w base X (moreD d (bytesL []) (ylL []) m [] (folO [] d.n)) (c+2*sizes []*100000000) V [⟨3,.slice none 0 0,intC (natI (firstO [] d.n))⟩,⟨3,.slice none 0 0,intC (natI (lastO [] d.n))⟩]:=by
 have h:=then_start (m:=m) S
 have e:moreD d (bytesL []) (ylL []) m [] (folO [] d.n)=moreD d (bytesL []) (ylL []) m [] (folT [] d.n []):=by
  simp [moreD,folT,folO]
 rw [e]
 exact h
theorem folO_bd (as_:List Pt):∀ b i k,folO as_ b i k→(b≤i∧i<b+ylL as_)∧(b≤k∧k<b+ylL as_):=by
 induction as_ with
 | nil=>intro b i k hk; simp [folO] at hk
 | cons a as_ iha =>
  intro b i k hk
  simp only [folO,ylL] at hk ⊢
  rcases hk with hk | hk
  · have:=fol_bd a b i k hk; omega
  · have:=iha _ _ _ hk; omega
theorem or_dom {d:SpD} {T:List Pt} {m:Int} {fo:List Nat} (hF:∀ i k,d.F i k→i<d.n):∀ i k,(moreD d (bytesL T) (ylL T) m fo (folO T d.n)).F i k→i<(moreD d (bytesL T) (ylL T) m fo (folO T d.n)).n:=by
 intro i k h
 rw [moreD_n,bytes_len]
 simp only [moreD] at h
 rcases h with h | h
 · have:=hF i k h; omega
 · have:=folO_bd T d.n i k h; omega
theorem walk_or (w0:World) (ps:List Pt) (HIH:Hid (WalkIH w0 ps)) (m:Int) (av:Option Addr) (cap:Nat) (w:World) (base X:Nat) (d:SpD) (c:Nat) (V:SpV) (hps:ps=[]∨∃ b off,av=some ⟨b,off,none⟩∧PtsAt w0 ps b off) (G:w0.grownBy w none) (hb:base=w0.heap.size) (hX:base≤X) (S:Sp w base X d c V [])
 (hn:d.n+(Pt.mk 3 0 0 ps).leaves≤10000) (hc:c+2*(Pt.mk 3 0 0 ps).size*100000000≤100000000000) (hF:∀ i k,d.F i k→i<d.n) :
 Calls Tryz.prog 78 #[.pointer (some ⟨X,0,none⟩),.agg #[.int .i64 3,.int .i64 0,.int .i64 0,.slice av ps.length cap],.int .i64 m] w (WalkPost w base X d c V (.mk 3 0 0 ps) m):=by
 have hlv:(Pt.mk 3 0 0 ps).leaves=ylL ps:=by simp [Pt.leaves]
 have hsz:(Pt.mk 3 0 0 ps).size=1+sizes ps:=by simp [Pt.size]
 rw [hlv] at hn
 rw [hsz] at hc
 have hlen:=len_sizes ps
 have HA:=hid hps
 have HF:=hid hF
 have HS:=hid S
 have HG:=hid G
 have HB:=hid hb
 clear hps hF hb hlv hsz G
 have hbx:((w.alloc (.cells #[.pointer (some ⟨X,0,none⟩)] 85)).alloc (.cells #[(.int .i64 3),.int .i64 0,.int .i64 0,.slice av ps.length cap] 28)).heap[w.heap.size]? = some (.cells #[.pointer (some ⟨X,0,none⟩)] 85 (0,0)):=grow_new (xG _ _ _) (xN w _)
 have HX:=hid hbx
 have c0:=xC hbx 0
 simp only [xGe,xGz] at c0
 clear S hbx
 have hR0:OrRel base X d c V m w [] (.slice none 0 0) (.slice none 0 0) ((w.alloc (.cells #[.pointer (some ⟨X,0,none⟩)] 85)).alloc (.cells #[(.int .i64 3),.int .i64 0,.int .i64 0,.slice av ps.length cap] 28)):=by
  have S1:=(HS.out.alloc (.cells #[.pointer (some ⟨X,0,none⟩)] 85)).alloc (.cells #[(.int .i64 3),.int .i64 0,.int .i64 0,.slice av ps.length cap] 28)
  refine ⟨V,[],or_start S1,?_,rfl,rfl,(fun x hx=>by cases hx),(fun r hr k hk=>?_),HX.out⟩
  · rw [or_start_rows]; exact ((Ext.refl X w (spRows d V)).alloc _).alloc _
  · simp only [List.mem_cons,List.not_mem_nil,or_false] at hr
    rcases hr with rfl | rfl<;>simp [Value.ownBlock] at hk
 have HR0:=hid hR0
 clear hR0
 go_enter Tryz.func78,Tryz.ntmps78
 go_wp2_with fail
 go_loopw [6,7,8,129] (fun f l em i wr=>∃ (j:Nat) (fa la:Option Addr) (fn fc ln lc:Nat),j≤ps.length∧i=.int .i64 j∧f=.slice fa fn fc∧l=.slice la ln lc∧em=.bool (nulAny (ps.take j))∧OrRel base X d c V m w (ps.take j) (.slice fa fn fc) (.slice la ln lc) wr) (fun _ _ _ i _=>ps.length-(intOf i).toNat)
 case atStart=>exact ⟨0,none,none,0,0,0,0,Nat.zero_le _,rfl,rfl,rfl,rfl,HR0.out⟩
 case round =>
  obtain ⟨j,fa,la,fn,fc,ln,lc,hj,rfl,rfl,rfl,rfl,hrel⟩:=hrel
  have HR:=hid hrel
  clear hrel
  by_cases hlt:j<ps.length
  · obtain ⟨V1,fo1,S1,E1,hfi1,hlen1,hnew1,N1,B1⟩:=HR.out
    have G1:=grow_ext HG.out HB.out hX HS.out E1
    obtain ⟨b,off,xo,xl,xh,xa,xn,xc,rfl,h0,h1,h2,h3,hq⟩:=PtAt.elem HA.out j hlt
    replace h0:=ycg h0 G1
    replace h1:=ycg h1 G1
    replace h2:=ycg h2 G1
    replace h3:=ycg h3 G1
    have cb:=xC B1 0
    simp only [xGe,xGz] at cb
    have cb2:∀ o,(wr.alloc o).cell? ⟨w.heap.size,0,none⟩=some (.pointer (some ⟨X,0,none⟩)):=fun o=>ycg cb (xG wr o none)
    have hle1:=leaves_take ps j hlt
    have hle2:=leaves_take_le ps (j+1)
    have hsz1:=sizes_take ps j hlt
    have hsz2:=sizes_take_le ps (j+1)
    have HT:=hid (List.take_succ_eq_append_getElem hlt)
    have hIH:=HIH.out j hlt m (.agg #[.int .i64 xo,.int .i64 xl,.int .i64 xh,.slice xa xn xc]) (wr.alloc (.cells #[.int .i64 xo,.int .i64 xl,.int .i64 xh,.slice xa xn xc] 28)) base X (moreD d (bytesL (ps.take j)) (ylL (ps.take j)) m fo1 (folO (ps.take j) d.n)) (c+2*sizes (ps.take j)*100000000) V1 hq (yga G1 _) HB.out hX (S1.bare.alloc _) (by rw [moreD_n,bytes_len]; omega) (by omega) (or_dom (HF.out))
    generalize ps[j]=q at HT hIH hle1 hsz1
    generalize ps.take j=T at *
    have HS1:=hid S1
    have HE1:=hid E1
    have HN1:=hid N1
    have HB1:=hid B1
    have HNew:=hid hnew1
    have HI:=hid hIH
    clear S1 E1 N1 B1 hnew1 hIH hq
    go_wp2_with fail
    refine HI.out.mono ?_
    rintro e w2 ⟨b1,k1,q1,b2,k2,q2,V2,fo2,rfl,S2,E2,hfi2,hlen2,hnew2,R1,R2⟩
    rw [moreD_n,bytes_len] at S2 E2 R1 R2
    have S2b:=(HS1.out.alloc (.cells #[.int .i64 xo,.int .i64 xl,.int .i64 xh,.slice xa xn xc] 28)).beside E2 S2
    have B2:=box_ext (HS1.out.alloc (.cells #[.int .i64 xo,.int .i64 xl,.int .i64 xh,.slice xa xn xc] 28)) E2 (grow_new (xG wr _ none) HB1.out)
    have E2b:=(HE1.out.alloc (.cells #[.int .i64 xo,.int .i64 xl,.int .i64 xh,.slice xa xn xc] 28)).trans E2
    have hqs:=size_pos1 q
    have hlenT:=lastO_len T d.n
    have hlenF:=firstO_len T d.n
    have hlenq:=first_len q (d.n+ylL T)
    have hlenl:=last_len q (d.n+ylL T)
    have hF1:∀ mm∈fo2,w.heap.size≤mm:=fun mm hm=>Nat.le_trans (Nat.le_trans HE1.out.frm.size (xG wr _ none).size) (hnew2 mm hm)
    have HS3:=hid S2b
    have HE3:=hid E2b
    have HB3:=hid B2
    have HI1:=hid R1.1
    have HI2:=hid R2.1
    have HF2:=hid hF1
    have HN2:=hid (show ∀ a o n c,Value.slice b2 k2 q2=.slice (some ⟨a,o,none⟩) n c→some a≠(Value.slice fa fn fc).ownBlock from fun a o n c e e2=>by
     have h1:=(R2.2 a o n c e).1
     have h2:=((HS1.out.rows.get (j:=5) rfl).lt a e2.symm).2
     have h3:=(xG wr (.cells #[.int .i64 xo,.int .i64 xl,.int .i64 xh,.slice xa xn xc] 28) none).size
     simp at h1 h3
     omega)
    have hbud:c+2*sizes T*100000000+(2*q.size-1)*100000000≤c+2*sizes (T++[q])*100000000:=by
     rw [sizes_snoc]; omega
    have HBU:=hid hbud
    obtain ⟨eb,heb⟩:∃ eb,nulAny T=eb:=⟨_,rfl⟩
    obtain ⟨qe,hqe⟩:∃ qe,q.nul=qe:=⟨_,rfl⟩
    have HEB:=hid heb
    have HQE:=hid hqe
    rw [heb,hqe]
    have l1:(natI (firstO T d.n)).length+(natI (q.first (d.n+ylL T))).length≤1000000:=by rw [natI_len,natI_len]; omega
    have l2:(natI (lastO T d.n)).length+(natI (q.last (d.n+ylL T))).length≤1000000:=by rw [natI_len,natI_len]; omega
    have HL1:=hid l1
    have HL2:=hid l2
    clear heb hqe S2 E2 S2b E2b B2 R1 R2 hnew2 hbud hF1 c0 l1 l2
    cases eb<;>cases qe
    all_goals
     go_wp2_with (first | (have tok:=g4; at_builtin; refine wpList_append_row rfl _ _ rfl S4 E4 N4 1 (.slice la ln lc) (natI (lastO T d.n)) rfl rfl rfl HI2b.out HL2.out ?_; intro a5 n5 c5 w5 S5 E5 N5 g5; clear tok) | (at_builtin; refine wpList_append_row rfl _ _ rfl HS3.out HE3.out HN1.out 0 (.slice fa fn fc) (natI (firstO T d.n)) rfl rfl rfl HI1.out HL1.out ?_; intro a4 n4 c4 w4 S4 E4 N4 g4; have HI2b:=hid (ints_row HI2.out g4 HN2.out)))
     have HT1:=hid (show OrRel base X d c V m w (T++[q]) (.slice a4 n4 c4) (.slice a5 n5 c5) w5 from or_fin S5 E5 HBU.out (hfi2.trans hfi1) hlen1 hlen2 HNew.out HF2.out N5 (box_row S4 (j:=1) rfl g5 (box_row HS3.out (j:=0) rfl g4 HB3.out)) (by rw [firstO_snoc,natI_append]) (by rw [lastO_snoc,natI_append]))
     have HNA:=hid (show nulAny (ps.take (j+1))=_ by rw [HT.out,nulAny_snoc,HEB.out,HQE.out])
     clear S4 E4 N4 g4 S5 E5 N5 g5
     go_roundw
     case rel=>exact ⟨j+1,a4,a5,n4,c4,n5,c5,by omega,by go_num,rfl,rfl,by rw [HNA.out]; rfl,by rw [HT.out]; exact HT1.out⟩
     case measure=>simp [intOf]; omega
  · have hje:j=ps.length:=by omega
    have HE:=hid (show ps.take j=ps by rw [List.take_of_length_le (by omega)])
    obtain ⟨V1,fo1,S1,E1,hfi1,hlen1,hnew1,N1,B1⟩:=HR.out
    rw [HE.out] at S1 E1 hlen1 N1
    have HP:=hid (walk_fin (p:=.mk 3 0 0 ps) (c:=c) (b:=nulAny ps) S1 E1 N1 hfi1 hnew1 hlen1 (by simp [Pt.bytes]) (by simp [Pt.leaves]) (by funext i k; simp [Pt.fol]) (by simp [Pt.first]) (by simp [Pt.last]) (by simp [Pt.nul]) (bud_le c (sizes ps)))
    clear S1 E1 N1 B1 hnew1 hje
    rw [HE.out]
    go_wp2_with fail
    try go_ret3
    exact HP.out
theorem Res.far {w w' w'':World} {X:Nat} {rs:List Row} {v:Value} {l:List Nat} (h:Res w w' X rs v l) (hi:Ints w'' v (natI l)) (hs:w'.heap.size≤w''.heap.size):Res w w'' X rs v l :=
 ⟨hi,fun a o n c e=>⟨(h.2 a o n c e).1,Nat.lt_of_lt_of_le (h.2 a o n c e).2.1 hs,(h.2 a o n c e).2.2⟩⟩
theorem Res.older {w0 w w':World} {X:Nat} {rs:List Row} {v:Value} {l:List Nat} (h:Res w w' X rs v l) (hs:w0.heap.size≤w.heap.size):Res w0 w' X rs v l :=
 ⟨h.1,fun a o n c e=>⟨Nat.le_trans hs (h.2 a o n c e).1,(h.2 a o n c e).2⟩⟩
theorem star_d {d:SpD} {q:Pt} {m:Int} {fo1:List Nat} {w:World} {base X c:Nat} {V:SpV} {extra:List Row}
 (S:Sp w base X { moreD d q.bytes q.leaves m fo1 (q.fol d.n) with F:=fun a b=>(moreD d q.bytes q.leaves m fo1 (q.fol d.n)).F a b∨(a∈q.last d.n∧b∈q.first d.n) } c V extra) :
 Sp w base X (moreD d (Pt.mk 4 0 0 [q]).bytes (Pt.mk 4 0 0 [q]).leaves m fo1 ((Pt.mk 4 0 0 [q]).fol d.n)) c V extra:=by
 have h:=S.iff (G:=(moreD d (Pt.mk 4 0 0 [q]).bytes (Pt.mk 4 0 0 [q]).leaves m fo1 ((Pt.mk 4 0 0 [q]).fol d.n)).F) (fun a b=>by
  simp [moreD,Pt.fol,folO,lastO,firstO,or_assoc])
 have e:({ moreD d q.bytes q.leaves m fo1 (q.fol d.n) with F:=(moreD d (Pt.mk 4 0 0 [q]).bytes (Pt.mk 4 0 0 [q]).leaves m fo1 ((Pt.mk 4 0 0 [q]).fol d.n)).F }:SpD)=moreD d (Pt.mk 4 0 0 [q]).bytes (Pt.mk 4 0 0 [q]).leaves m fo1 ((Pt.mk 4 0 0 [q]).fol d.n):=by
  simp [moreD,Pt.bytes,Pt.leaves,bytesL,ylL]
 exact e ▸ h
theorem star_rows (d:SpD) (q:Pt) (m:Int) (fo1:List Nat) (V:SpV) (G:Nat→Nat→Prop):spRows (moreD d (Pt.mk 4 0 0 [q]).bytes (Pt.mk 4 0 0 [q]).leaves m fo1 G) V=spRows (moreD d q.bytes q.leaves m fo1 (q.fol d.n)) V:=by
 simp [spRows,moreD,Pt.bytes,Pt.leaves,bytesL,ylL]
theorem bud_in (c s:Nat) (h:c+2*(1+s)*100000000≤100000000000):c+(2*s-1)*100000000≤100000000000:=Nat.le_trans (Nat.add_le_add_left (Nat.mul_le_mul_right _ (show 2*s-1≤2*(1+s) by omega)) c) h
theorem star_link {w W w2:World} {base X:Nat} {d:SpD} {c:Nat} {V V2:SpV} {q:Pt} {m:Int} {fo2:List Nat} {b1 b2:Option Addr} {k1 q1 k2 q2:Nat} (_:Sp w base X d c V []) (SW:Sp W.drew base X d c V [])
 (S2:Sp w2 base X (moreD d q.bytes q.leaves m fo2 (q.fol d.n)) (c+(2*q.size-1)*100000000) V2 []) (E2:Ext X W.drew (spRows d V) w2 (spRows (moreD d q.bytes q.leaves m fo2 (q.fol d.n)) V2))
 (R1:Res W.drew w2 X (spRows (moreD d q.bytes q.leaves m fo2 (q.fol d.n)) V2) (.slice b1 k1 q1) (q.first d.n)) (R2:Res W.drew w2 X (spRows (moreD d q.bytes q.leaves m fo2 (q.fol d.n)) V2) (.slice b2 k2 q2) (q.last d.n))
 (HB:W.heap[w.heap.size]? = some (.cells #[.pointer (some ⟨X,0,none⟩)] 85 (0,0))) (hn:d.n+q.leaves≤10000) (hc:c+2*(1+q.size)*100000000≤100000000000) :
 Calls Tryz.prog 98 #[.slice b2 k2 q2,.slice b1 k1 q1,.pointer (some ⟨w.heap.size,0,none⟩)] w2 (LinkPost base X (moreD d q.bytes q.leaves m fo2 (q.fol d.n)) (c+(2*q.size-1)*100000000) V2 [] (q.last d.n) (q.first d.n) w2):=by
 have hdn:(moreD d q.bytes q.leaves m fo2 (q.fol d.n)).n=d.n+q.leaves:=by rw [moreD_n,Pt.bytes_length]
 have h1:=first_len q d.n
 have h2:=last_len q d.n
 have hb:=xC (box_ext SW E2 HB) 0
 simp only [xGe,xGz] at hb
 have hcc:c+(2*q.size-1)*100000000≤100000000000:=bud_in c q.size hc
 refine link_any (q.last d.n) (q.first d.n) _ _ w2 base X w.heap.size _ _ V2 [] R2.1 R1.1 S2 hb (fun i hi=>?_) ?_ (fun k hk=>?_) ?_ ?_ hcc
 · rw [hdn]; exact (last_bd q d.n i hi).2
 · rw [hdn]; omega
 · have:=first_bd q d.n k hk; omega
 · omega
 · omega
theorem star_done {w W w2 w3:World} {base X:Nat} {d:SpD} {c:Nat} {V V2:SpV} {q:Pt} {m:Int} {fo2:List Nat} {b1 b2:Option Addr} {k1 q1 k2 q2:Nat} (GW:w.grownBy W none) (_:Sp W.drew base X d c V [])
 (hl:d.hi.length=d.n∧d.ma.length=d.n∧d.fo.length=d.n∧d.la.length=d.n)
 (S2:Sp w2 base X (moreD d q.bytes q.leaves m fo2 (q.fol d.n)) (c+(2*q.size-1)*100000000) V2 []) (E2:Ext X W.drew (spRows d V) w2 (spRows (moreD d q.bytes q.leaves m fo2 (q.fol d.n)) V2))
 (hfi2:V2.fi=V.fi) (hlen2:fo2.length=q.leaves) (hnew2:∀ mm∈fo2,W.drew.heap.size≤mm)
 (R1:Res W.drew w2 X (spRows (moreD d q.bytes q.leaves m fo2 (q.fol d.n)) V2) (.slice b1 k1 q1) (q.first d.n)) (R2:Res W.drew w2 X (spRows (moreD d q.bytes q.leaves m fo2 (q.fol d.n)) V2) (.slice b2 k2 q2) (q.last d.n))
 (S3:Sp w3 base X { moreD d q.bytes q.leaves m fo2 (q.fol d.n) with F:=fun a b=>(moreD d q.bytes q.leaves m fo2 (q.fol d.n)).F a b∨(a∈q.last d.n∧b∈q.first d.n) } (c+(2*q.size-1)*100000000+(q.last d.n).length*(q.first d.n).length) V2 [])
 (F3:Frm (LinkP (moreD d q.bytes q.leaves m fo2 (q.fol d.n)).fo (q.last d.n)) w2 w3) (hn:d.n+q.leaves≤10000) :
 WalkPost w base X d c V (.mk 4 0 0 [q]) m (.returned (.tuple #[.slice b1 k1 q1,.slice b2 k2 q2,.bool true])) w3:=by
 have hsW:w.heap.size≤W.drew.heap.size:=GW.size
 have hnm:∀ mm∈fo2,w.heap.size≤mm:=fun mm hm=>Nat.le_trans hsW (hnew2 mm hm)
 have E0:Ext X w (spRows d V) W.drew (spRows d V):=((Ext.refl X w (spRows d V)).grow GW).drew
 have E3:=link_ext S2 (E0.trans E2) F3 (fun i hi k hk=>by
  have hb:=last_bd q d.n i hi
  simp only [moreD] at hk
  rw [List.getElem?_append_right (by omega)] at hk
  exact hnm k (List.mem_of_getElem? hk))
 have h1:=first_len q d.n
 have h2:=last_len q d.n
 have hmul:(q.last d.n).length*(q.first d.n).length≤10000*10000:=Nat.mul_le_mul (by omega) (by omega)
 have hq:=size_pos1 q
 have hbud:c+(2*q.size-1)*100000000+(q.last d.n).length*(q.first d.n).length≤c+(2*(1+q.size)-1)*100000000:=by
  generalize q.size=s at hq ⊢
  generalize (q.last d.n).length*(q.first d.n).length=t at hmul ⊢
  omega
 refine ⟨b1,k1,q1,b2,k2,q2,V2,fo2,by simp [Pt.nul],(star_d S3).mono (by simpa [Pt.size,sizes] using hbud),?_,hfi2,by simpa [Pt.leaves,ylL] using hlen2,hnm,?_,?_⟩
 · rw [star_rows]; exact E3
 · rw [star_rows]
   have:=((R1.far (link_ints S2 F3 R1.1) F3.size).older hsW)
   simpa [Pt.first,firstO] using this
 · rw [star_rows]
   have:=((R2.far (link_ints S2 F3 R2.1) F3.size).older hsW)
   simpa [Pt.last,lastO] using this
theorem walk_star (w0:World) (q:Pt) (HIH:Hid (WalkIH w0 [q])) (m:Int) (av:Option Addr) (cap:Nat) (w:World) (base X:Nat) (d:SpD) (c:Nat) (V:SpV) (hps:∃ b off,av=some ⟨b,off,none⟩∧PtsAt w0 [q] b off) (G:w0.grownBy w none) (hb:base=w0.heap.size) (hX:base≤X) (S:Sp w base X d c V [])
 (hn:d.n+(Pt.mk 4 0 0 [q]).leaves≤10000) (hc:c+2*(Pt.mk 4 0 0 [q]).size*100000000≤100000000000) (hF:∀ i k,d.F i k→i<d.n) :
 Calls Tryz.prog 78 #[.pointer (some ⟨X,0,none⟩),.agg #[.int .i64 4,.int .i64 0,.int .i64 0,.slice av 1 cap],.int .i64 m] w (WalkPost w base X d c V (.mk 4 0 0 [q]) m):=by
 have hlv:(Pt.mk 4 0 0 [q]).leaves=q.leaves:=by simp [Pt.leaves,ylL]
 have hsz:(Pt.mk 4 0 0 [q]).size=1+q.size:=by simp [Pt.size,sizes]
 rw [hlv] at hn
 rw [hsz] at hc
 have hc2:c+2*q.size*100000000≤100000000000:=Nat.le_trans (Nat.add_le_add_left (Nat.mul_le_mul_right _ (Nat.mul_le_mul_left 2 (Nat.le_add_left _ 1))) c) hc
 obtain ⟨b,off,xo,xl,xh,xa,xn,xc,e,h0,h1,h2,h3,hq⟩:=PtAt.elem (av:=av) (.inr hps) 0 (by simp:0<[q].length)
 subst e
 simp only [List.getElem_cons_zero,Nat.zero_mul,Nat.add_zero] at hq h0 h1 h2 h3
 have W1:=xG w (.cells #[.pointer (some ⟨X,0,none⟩)] 85) none
 have W2:=yga W1 (.cells #[.int .i64 4,.int .i64 0,.int .i64 0,.slice (some ⟨b,off,none⟩) 1 cap] 28)
 have G2:=xT G W2
 replace h0:=ycg h0 G2
 replace h1:=ycg h1 G2
 replace h2:=ycg h2 G2
 replace h3:=ycg h3 G2
 have hbx:((w.alloc (.cells #[.pointer (some ⟨X,0,none⟩)] 85)).alloc (.cells #[.int .i64 4,.int .i64 0,.int .i64 0,.slice (some ⟨b,off,none⟩) 1 cap] 28)).heap[w.heap.size]? = some (.cells #[.pointer (some ⟨X,0,none⟩)] 85 (0,0)):=grow_new (xG _ _ _) (xN w _)
 have hpb:((w.alloc (.cells #[.pointer (some ⟨X,0,none⟩)] 85)).alloc (.cells #[.int .i64 4,.int .i64 0,.int .i64 0,.slice (some ⟨b,off,none⟩) 1 cap] 28)).heap[w.heap.size+1]? = some (.cells #[.int .i64 4,.int .i64 0,.int .i64 0,.slice (some ⟨b,off,none⟩) 1 cap] 28 (0,0)):=yhn _ _ _ (by simp)
 have S2:=(S.alloc (.cells #[.pointer (some ⟨X,0,none⟩)] 85)).alloc (.cells #[.int .i64 4,.int .i64 0,.int .i64 0,.slice (some ⟨b,off,none⟩) 1 cap] 28)
 have HI:=hid (fun wd (gd:((w.alloc (.cells #[.pointer (some ⟨X,0,none⟩)] 85)).alloc (.cells #[.int .i64 4,.int .i64 0,.int .i64 0,.slice (some ⟨b,off,none⟩) 1 cap] 28)).grownBy wd none)=>HIH.out 0 (by simp) m (.agg #[.int .i64 xo,.int .i64 xl,.int .i64 xh,.slice xa xn xc]) wd base X d c V hq (xT G2 gd) hb hX (S2.grow gd) (by simpa using hn) hc2 hF)
 simp only [List.getElem_cons_zero] at HI
 have HS:=hid S
 have HS2:=hid S2
 have HSL:=hid S.len
 have HGW:=hid W2
 have HBX:=hid hbx
 have HPB:=hid hpb
 have cb:=xC hbx 0
 have pb3:=xC hpb 3
 simp only [xGe,xGz,xGs] at cb pb3
 clear hps hq G G2 W1 W2 S S2 hbx hpb hlv hsz hF hb hc2
 go_enter Tryz.func78,Tryz.ntmps78
 go_wp2_with fail
 generalize hW:((w.alloc (.cells #[.pointer (some ⟨X,0,none⟩)] 85)).alloc (.cells #[.int .i64 4,.int .i64 0,.int .i64 0,.slice (some ⟨b,off,none⟩) 1 cap] 28))=W at *
 clear hW
 go_region_with ((go_at_call 78; refine (HI.out W.drew (grow_drew (grow_self W))).mono ?_; rintro e w2 ⟨b1,k1,q1,b2,k2,q2,V2,fo2,rfl,S2,E2,hfi2,hlen2,hnew2,R1,R2⟩))
 all_goals
  have HP:=hid (fun w3=>star_done (m:=m) (w3:=w3) HGW.out (HS2.out.grow (grow_drew (grow_self W))) HSL.out S2 E2 hfi2 hlen2 hnew2 R1 R2)
  have HL:=hid (star_link HS.out (HS2.out.grow (grow_drew (grow_self W))) S2 E2 R1 R2 HBX.out hn hc)
  clear S2 E2 R1 R2 hnew2
  go_wp2_with fail
  refine HL.out.mono ?_
  rintro e w3 ⟨rfl,S3,F3⟩
  have HQ:=hid (HP.out w3 S3 F3 hn)
  clear S3 F3
  go_wp2_with fail
  try go_ret3
  exact HQ.out
theorem walk_any (w0:World) (p:Pt):Right p→∀ (m:Int) (v:Value) (w:World) (base X:Nat) (d:SpD) (c:Nat) (V:SpV),PtAt w0 p v→w0.grownBy w none→base=w0.heap.size→base≤X→Sp w base X d c V []→d.n+p.leaves≤10000→c+2*p.size*100000000≤100000000000→(∀ i k,d.F i k→i<d.n) →
 Calls Tryz.prog 78 #[.pointer (some ⟨X,0,none⟩),v,.int .i64 m] w (WalkPost w base X d c V p m):=by
 induction p using Pt.ind with
 | h o l hi ps ih =>
  intro hR m v w base X d c V hp G hb hX S hn hc hF
  obtain ⟨av,cap,rfl,hps⟩:=hp
  have hRa:∀ q∈ps,Right q:=by cases hR with | mk _ _ _ _ _ _ _ h=>exact h
  have hway:(o=1∧ps.length=0)∨(o=2∧l=0∧hi=0)∨(o=3∧l=0∧hi=0)∨(o=4∧ps.length=1∧l=0∧hi=0):=by
   cases hR with
   | mk _ _ _ _ h1 h2 _ _=>have:=form_pass o l hi ps.length h1 h2; omega
  have HIH:Hid (WalkIH w0 ps):=hid (fun (j:Nat) (hj:j<ps.length)=>ih ps[j] (List.getElem_mem hj) (hRa _ (List.getElem_mem hj)))
  rcases hway with ⟨rfl,h0⟩ | ⟨rfl,rfl,rfl⟩ | ⟨rfl,rfl,rfl⟩ | ⟨rfl,h1,rfl,rfl⟩
  · obtain rfl:ps=[]:=List.eq_nil_of_length_eq_zero h0
    exact walk_leaf2 l hi m av cap w base X d c V S (by omega) hF
  · exact walk_then w0 ps HIH m av cap w base X d c V hps G hb hX S hn hc hF
  · exact walk_or w0 ps HIH m av cap w base X d c V hps G hb hX S hn hc hF
  · obtain ⟨q,rfl⟩:∃ q,ps=[q]:=List.length_eq_one_iff.1 h1
    refine walk_star w0 q HIH m av cap w base X d c V ?_ G hb hX S hn hc hF
    rcases hps with h | h
    · cases h
    · exact h
def MksAt (w:World) (ps:List Pt) (b off:Nat):Prop :=
 ∀ j (hj:j<ps.length),∃ (s:ByteArray) (o l h:Int) (x:Option Addr) (n c:Nat),w.cell? ⟨b,off+j*5,none⟩=some (.string s)∧w.cell? ⟨b,off+j*5+1,none⟩=some (.int .i64 o)∧w.cell? ⟨b,off+j*5+2,none⟩=some (.int .i64 l) ∧
  w.cell? ⟨b,off+j*5+3,none⟩=some (.int .i64 h)∧w.cell? ⟨b,off+j*5+4,none⟩=some (.slice x n c)∧PtAt w ps[j] (.agg #[.int .i64 o,.int .i64 l,.int .i64 h,.slice x n c])
def marksL:List Pt→Nat→List Int
 | [],_=>[]
 | p::ps,i=>List.replicate p.leaves (i:Int)++marksL ps (i+1)
theorem marksL_snoc (ps:List Pt) (p:Pt):∀ i,marksL (ps++[p]) i=marksL ps i++List.replicate p.leaves ((i+ps.length:Nat):Int):=by
 induction ps with
 | nil=>intro i; simp [marksL]
 | cons q qs ih =>
  intro i
  simp only [List.cons_append,marksL,List.length_cons]
  rw [ih,List.append_assoc,show i+1+qs.length=i+(qs.length+1) by omega]
def lastsB (L:List Nat) (n:Nat):List Bool:=(List.range n).map fun k=>decide (k∈L)
theorem lastsB_len (L:List Nat) (n:Nat):(lastsB L n).length=n:=by simp [lastsB]
theorem lastsB_set (L:List Nat) (n k:Nat):(lastsB L n).set k true=lastsB (L++[k]) n:=by
 apply List.ext_getElem?
 intro i
 rw [List.getElem?_set]
 unfold lastsB
 simp only [List.getElem?_map,List.length_map,List.length_range,List.mem_append,List.mem_singleton]
 by_cases hi:i<n
 · rw [List.getElem?_range hi]
   by_cases e:k=i
   · subst e; rw [if_pos rfl,if_pos hi]; simp
   · rw [if_neg e]
     have:¬ i=k:=fun h=>e h.symm
     simp [this]
 · rw [List.getElem?_eq_none (by simp; omega)]
   by_cases e:k=i
   · subst e; rw [if_pos rfl,if_neg hi]; rfl
   · rw [if_neg e]; rfl
theorem lastsB_more (L:List Nat) (n m:Nat) (h:∀ k∈L,k<n):lastsB L n++List.replicate m false=lastsB L (n+m):=by
 unfold lastsB
 rw [List.range_add,List.map_append]
 congr 1
 rw [List.map_map]
 apply List.ext_getElem
 · simp
 · intro i h1 h2
   simp only [List.getElem_replicate,List.getElem_map,Function.comp_apply,List.getElem_range]
   simp only [List.length_replicate] at h1
   exact (decide_eq_false (fun hk=>by have:=h _ hk; omega)).symm
theorem own_setCell {w:World} {base:Nat} {e:TypeId} {n:Nat} {g c:Nat} {xs:List Value} (h:w.ownsRow base e 1 (.slice (some ⟨g,0,none⟩) n c) n xs) (k:Nat) (_:k<n) (u:Value):(w.setCell ⟨g,k,none⟩ u).ownsRow base e 1 (.slice (some ⟨g,0,none⟩) n c) n (xs.set k u):=by
 obtain ⟨h1,h2⟩:=h
 refine ⟨by simpa using h1,?_⟩
 rcases h2 with ⟨h2,_⟩ | ⟨g',cap,cur,hv,hg,hh,hnc,hcm,hcs,ht⟩
 · cases h2
 · simp only [Value.slice.injEq,Option.some.injEq,Addr.mk.injEq,true_and,and_true] at hv
   obtain ⟨rfl,rfl⟩:=hv
   refine .inr ⟨g,c,cur.setIfInBounds k u,rfl,hg,yhs hh k u,hnc,hcm,by simpa using hcs,?_⟩
   rw [← ht]
   simp only [Array.toList_setIfInBounds,Nat.mul_one]
   rw [List.take_set]
theorem Sp.setLast {w:World} {base X:Nat} {d:SpD} {c:Nat} {V:SpV} {extra:List Row} (S:Sp w base X d c V extra) {g n cap k:Nat} (hv:V.la=.slice (some ⟨g,0,none⟩) n cap) (hk:k<d.n) :
 Sp (w.setCell ⟨g,k,none⟩ (.bool true)) base X { d with la:=d.la.set k true } c V extra:=by
 have gr:w.grownBy (w.setCell ⟨g,k,none⟩ (.bool true)) (some g):=grow_cell k _
 have hr:(spRows d V++extra)[4]? = some ⟨4,V.la,boolC d.la⟩:=rfl
 have own:=S.rows.get hr
 have hn:n=d.n:=by
  have h1:=own
  simp only [boolC,List.length_map] at h1
  rw [hv] at h1
  obtain ⟨a,c',e⟩:=yos h1
  simp only [Value.slice.injEq] at e
  rw [e.2.1]; exact S.len.2.2.2
 have R':=S.rows.set hr (w':=w.setCell ⟨g,k,none⟩ (.bool true)) (v':=V.la) (ys:=boolC (d.la.set k true)) (by simp only [hv]; exact gr) (by
  simp only [hv]
  have h2:=own_setCell (by simpa only [hv,hn,boolC,List.length_map,S.len.2.2.2] using own) k hk (.bool true)
  simpa only [boolC,List.length_map,List.length_set,S.len.2.2.2,hn,List.map_set] using h2) (.inl rfl)
 have hm:=List.mem_of_getElem? hr
 have hgr:(Value.slice (some ⟨g,0,none⟩) n cap).ownBlock=some g:=rfl
 rw [← hv] at hgr
 refine ⟨?_,R',⟨S.len.1,S.len.2.1,S.len.2.2.1,(List.length_set ..).trans S.len.2.2.2⟩,fun i mm hi=>?_,S.nd,Nat.le_trans S.size gr.size,S.ek⟩
 · rw [gr.block X (xL S.blk) (fun e=>S.noX _ hm (by rw [hgr]; exact e.symm))]; exact S.blk
 · obtain ⟨m1,m2⟩:=S.maps i mm hi
   obtain ⟨es,cc,hb⟩:=m2.blk
   exact ⟨m1,m2.kept gr (fun e=>S.rows.not_map hb _ hm (by rw [hgr]; exact e.symm))⟩
theorem Sp.setFi {w:World} {base X:Nat} {d:SpD} {c:Nat} {V:SpV} {extra:List Row} (S:Sp w base X d c V extra) (u:Value):Sp (w.setCell ⟨X,5,none⟩ u) base X d c { V with fi:=u } extra:=by
 have gr:w.grownBy (w.setCell ⟨X,5,none⟩ u) (some X):=grow_cell 5 u
 refine ⟨by rw [yhs S.blk 5 u]; rfl,S.rows.kept gr (fun k hk=>?_),S.len,fun i mm hi=>?_,S.nd,Nat.le_trans S.size gr.size,S.ek⟩
 · have hkk:X=k:=by simpa using hk
   subst hkk
   exact S.noX
 · obtain ⟨m1,m2⟩:=S.maps i mm hi
   obtain ⟨es,cc,hb⟩:=m2.blk
   exact ⟨m1,m2.kept gr (fun e=>by simp only [Option.some.injEq] at e; rw [e,S.blk] at hb; simp at hb)⟩
def spD (T:List Pt) (fo:List Nat) (L:List Nat):SpD:=⟨(bytesL T).map Prod.fst,(bytesL T).map Prod.snd,marksL T 0,fo,lastsB L (ylL T),folO T 0⟩
theorem spD_n (T:List Pt) (fo L:List Nat):(spD T fo L).n=ylL T:=by simp [spD,SpD.n,ybl]
theorem lastO_bd (as_:List Pt):∀ b k,k∈lastO as_ b→b≤k∧k<b+ylL as_:=by
 induction as_ with
 | nil=>intro b k hk; simp [lastO] at hk
 | cons a as_ iha =>
  intro b k hk
  simp only [lastO,ylL,List.mem_append] at hk ⊢
  rcases hk with hk | hk
  · have:=last_bd a b k hk; omega
  · have:=iha _ _ hk; omega
theorem spD_snoc {w:World} {base X c:Nat} {V:SpV} {extra:List Row} {T:List Pt} {q:Pt} {fo fo2:List Nat} (S:Sp w base X (moreD (spD T fo (lastO T 0)) q.bytes q.leaves (T.length:Nat) fo2 (q.fol (ylL T))) c V extra) :
 Sp w base X (spD (T++[q]) (fo++fo2) (lastO T 0)) c V extra:=by
 have h:=S.iff (G:=folO (T++[q]) 0) (fun a b=>by
  simp only [moreD,spD]
  rw [folO_snoc,Nat.zero_add])
 have e:({ moreD (spD T fo (lastO T 0)) q.bytes q.leaves (T.length:Nat) fo2 (q.fol (ylL T)) with F:=folO (T++[q]) 0 }:SpD)=spD (T++[q]) (fo++fo2) (lastO T 0):=by
  unfold moreD spD
  simp only [bytesL_snoc,List.map_append,leavesL_snoc,SpD.mk.injEq,true_and,and_true]
  refine ⟨?_,?_⟩
  · rw [marksL_snoc,Nat.zero_add]
  · exact lastsB_more _ _ _ (fun k hk=>by have:=lastO_bd T 0 k hk; omega)
 exact e ▸ h
theorem ext_new {w w':World} {X:Nat} {rs:List Row} (g:w.grownBy w' none) (R:Rws w' w.heap.size rs):Ext X w [] w' rs :=
 ⟨⟨g.os,g.tape,g.output,g.size,fun k hk _=>g.block k hk (by simp)⟩,fun r hr k hk=>.inl ((R.1 r hr).lt k hk).1⟩
theorem grow_new_ext {w w':World} {X:Nat} {rs:List Row} (E:Ext X w [] w' rs) (hX:w.heap.size≤X):w.grownBy w' none :=
 ⟨E.frm.os,E.frm.tape,E.frm.output,E.frm.size,fun k hk _=>E.frm.block k hk ⟨by omega,fun r hr=>by cases hr⟩⟩
theorem new_rows {w w':World} {base X:Nat} {d:SpD} {c:Nat} {V:SpV} {extra:List Row} (S:Sp w' base X d c V extra) (hb:base=w.heap.size):NewRows w extra:=fun r hr k hk=>by
 have:=((S.rows.1 r (List.mem_append_right _ hr)).lt k hk).1
 omega
def SpotRel (w:World) (X:Nat) (T:List Pt) (wr:World):Prop :=
 ∃ V fo a n k,V.fi=.slice a n k∧Sp wr w.heap.size X (spD T fo (lastO T 0)) (2*sizes T*100000000) V [⟨3,V.fi,intC (natI (firstO T 0))⟩]∧w.grownBy wr none
theorem spot_start (w:World):SpotRel w w.heap.size [] (w.alloc (.cells #[.slice none 0 0,.slice none 0 0,.slice none 0 0,.slice none 0 0,.slice none 0 0,.slice none 0 0] 97)):=by
 refine ⟨⟨.slice none 0 0,.slice none 0 0,.slice none 0 0,.slice none 0 0,.slice none 0 0,.slice none 0 0⟩,[],none,0,0,rfl,⟨xN w _,⟨fun r hr=>?_,?_⟩,?_,fun i mm hi=>?_,?_,by simp,fun r hr=>?_⟩,xG w _ none⟩
 · simp only [spRows,List.cons_append,List.nil_append,List.mem_cons,List.not_mem_nil,or_false] at hr
   rcases hr with rfl | rfl | rfl | rfl | rfl | rfl<;>exact World.ownsRow_nil _ _ _ _
 · simp [spRows,Value.ownBlock]
 · simp [spD,SpD.n,bytesL,marksL,lastsB,ylL]
 · simp [spD] at hi
 · simp [spD]
 · simp only [List.mem_cons,List.not_mem_nil,or_false] at hr
   subst hr; rfl
end Go.Proofs.YtplbacfjmajeeaaGreatDoor
