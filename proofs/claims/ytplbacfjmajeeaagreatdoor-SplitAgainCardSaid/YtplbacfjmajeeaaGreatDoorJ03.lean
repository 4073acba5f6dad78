import Derived.Test.YtplbacfjmajeeaaGreatDoorJ02
import Derived.Deep.DeepCutAuto
namespace Go.Proofs.YtplbacfjmajeeaaGreatDoor
open Go.Lib (hid)
set_option maxHeartbeats 4000000
set_option maxRecDepth 100000
open Go.RowKit
def idxPt (P:Pt→Bool):Nat→List Pt→Int
 | _,[]=>-1
 | j,p::ps=>if P p=true then (j:Int) else idxPt P (j+1) ps
theorem idxPt_any (P:Pt→Bool):∀ (ps:List Pt) (j:Nat),decide (0≤idxPt P j ps)=ps.any P
 | [],j=>by simp [idxPt]
 | p::ps,j=>by
  rw [idxPt]
  by_cases h:P p=true
  · simp [h]
  · rw [if_neg h,idxPt_any P ps (j+1)]; simp [h]
def notNul (p:Pt):Bool:=!p.nul
theorem any_nul:∀ ps:List Pt,ps.any Pt.nul=nulAny ps
 | []=>rfl
 | p::ps=>by simp [nulAny,any_nul ps]
theorem any_notNul:∀ ps:List Pt,(!ps.any notNul)=nulAll ps
 | []=>rfl
 | p::ps=>by simp only [List.any_cons,nulAll,Bool.not_or,any_notNul ps]; simp [notNul]
theorem indexPat_e (ps:List Pt) (av:Option Addr) (cap:Nat) (w:World) (hl:ps.length≤1000000) (ha:ps=[]∨∃ b off,av=some ⟨b,off,none⟩∧PtsAt w ps b off)
 (hF:∀ q∈ps,∀ (v:Value) (w:World),PtAt w q v→Calls Tryz.prog 91 #[v] w fun e w'=>e=.returned (.bool (Pt.nul q))∧w.grownBy w' none) :
 Calls Tryz.prog 126 #[.slice av ps.length cap,.func (Fn.func 91) #[] #[]] w fun e w'=>e=.returned (.int .i64 (idxPt Pt.nul 0 ps))∧w.grownBy w' none:=by
 have HA:=hid ha
 have H:=hid hF
 clear ha hF
 go_enter Tryz.func126,Tryz.ntmps126
 go_wp2_with fail
 go_loopw [8] (fun i wr=>∃ j:Nat,j≤ps.length∧i=.int .i64 j∧Hid (idxPt Pt.nul 0 ps=idxPt Pt.nul j (ps.drop j))∧w.grownBy wr none) (fun i _=>ps.length-(intOf i).toNat)
 case atStart=>exact ⟨0,Nat.zero_le _,rfl,hid rfl,grow_self w⟩
 case round =>
  obtain ⟨j,hj,rfl,HF,hg⟩:=hrel
  by_cases hlt:j<ps.length
  · obtain ⟨b,off,xo,xl,xh,xa,xn,xc,rfl,h0,h1,h2,h3,hq⟩:=PtAt.elem HA.out j hlt
    replace h0:=ycg h0 hg
    replace h1:=ycg h1 hg
    replace h2:=ycg h2 hg
    replace h3:=ycg h3 hg
    have hcons:ps.drop j=ps[j]::ps.drop (j+1):=List.drop_eq_getElem_cons hlt
    have HF2:=hid (HF.out.trans (by rw [hcons,idxPt]))
    have H2:=hid (H.out ps[j] (List.getElem_mem hlt))
    have hq2:=PtAt.grow hg _ _ hq
    clear hcons HF
    generalize ps[j]=q at H2 hq hq2 HF2
    by_cases z:Pt.nul q=true
    · have HF3:=hid (HF2.out.trans (if_pos z))
      have Z:=hid z
      clear z HF2
      go_wp2_with fail
      refine (H2.out _ _ hq2).mono ?_
      rw [Z.out]
      rintro e w1 ⟨rfl,g1⟩
      go_wp2_with fail
      go_ret
      exact ⟨ret_i64 (by rw [HF3.out]),xT hg g1⟩
    · have z':Pt.nul q=false:=by simpa using z
      have HF3:=hid (HF2.out.trans (if_neg z))
      have Z:=hid z'
      clear z z' HF2
      go_wp2_with fail
      refine (H2.out _ _ hq2).mono ?_
      rw [Z.out]
      rintro e w1 ⟨rfl,g1⟩
      have hg2:=xT hg g1
      go_wp2_with fail
      go_roundw
      case rel=>exact ⟨j+1,by omega,by go_num,HF3,hg2⟩
      case measure=>simp [intOf]; omega
  · have HE:=hid (show idxPt Pt.nul j (ps.drop j) = -1 by rw [List.drop_eq_nil_of_le (by omega)]; rfl)
    go_wp2_with fail
    go_ret
    exact ⟨ret_i64 (by rw [HF.out,HE.out]),hg⟩
theorem containsPat_e (ps:List Pt) (av:Option Addr) (cap:Nat) (w:World) (hl:ps.length≤1000000) (ha:ps=[]∨∃ b off,av=some ⟨b,off,none⟩∧PtsAt w ps b off)
 (hF:∀ q∈ps,∀ (v:Value) (w:World),PtAt w q v→Calls Tryz.prog 91 #[v] w fun e w'=>e=.returned (.bool (Pt.nul q))∧w.grownBy w' none) :
 Calls Tryz.prog 110 #[.slice av ps.length cap,.func (Fn.func 91) #[] #[]] w fun e w'=>e=.returned (.bool (ps.any Pt.nul))∧w.grownBy w' none:=by
 have H:=hid (indexPat_e ps av cap w hl ha hF)
 have HB:=hid (idxPt_any Pt.nul ps 0)
 clear ha hF
 go_enter Tryz.func110,Tryz.ntmps110
 go_wp2_with fail
 refine H.out.mono ?_
 rintro e w1 ⟨rfl,g1⟩
 go_wp2_with fail
 go_ret
 exact ⟨ret_bool HB.out,g1⟩
theorem indexPat_n (ps:List Pt) (av:Option Addr) (cap:Nat) (w:World) (hl:ps.length≤1000000) (ha:ps=[]∨∃ b off,av=some ⟨b,off,none⟩∧PtsAt w ps b off)
 (hF:∀ q∈ps,∀ (v:Value) (w:World),PtAt w q v→Calls Tryz.prog 111 #[v] w fun e w'=>e=.returned (.bool (notNul q))∧w.grownBy w' none) :
 Calls Tryz.prog 126 #[.slice av ps.length cap,.func (Fn.func 111) #[] #[]] w fun e w'=>e=.returned (.int .i64 (idxPt notNul 0 ps))∧w.grownBy w' none:=by
 have HA:=hid ha
 have H:=hid hF
 clear ha hF
 go_enter Tryz.func126,Tryz.ntmps126
 go_wp2_with fail
 go_loopw [8] (fun i wr=>∃ j:Nat,j≤ps.length∧i=.int .i64 j∧Hid (idxPt notNul 0 ps=idxPt notNul j (ps.drop j))∧w.grownBy wr none) (fun i _=>ps.length-(intOf i).toNat)
 case atStart=>exact ⟨0,Nat.zero_le _,rfl,hid rfl,grow_self w⟩
 case round =>
  obtain ⟨j,hj,rfl,HF,hg⟩:=hrel
  by_cases hlt:j<ps.length
  · obtain ⟨b,off,xo,xl,xh,xa,xn,xc,rfl,h0,h1,h2,h3,hq⟩:=PtAt.elem HA.out j hlt
    replace h0:=ycg h0 hg
    replace h1:=ycg h1 hg
    replace h2:=ycg h2 hg
    replace h3:=ycg h3 hg
    have hcons:ps.drop j=ps[j]::ps.drop (j+1):=List.drop_eq_getElem_cons hlt
    have HF2:=hid (HF.out.trans (by rw [hcons,idxPt]))
    have H2:=hid (H.out ps[j] (List.getElem_mem hlt))
    have hq2:=PtAt.grow hg _ _ hq
    clear hcons HF
    generalize ps[j]=q at H2 hq hq2 HF2
    by_cases z:notNul q=true
    · have HF3:=hid (HF2.out.trans (if_pos z))
      have Z:=hid z
      clear z HF2
      go_wp2_with fail
      refine (H2.out _ _ hq2).mono ?_
      rw [Z.out]
      rintro e w1 ⟨rfl,g1⟩
      go_wp2_with fail
      go_ret
      exact ⟨ret_i64 (by rw [HF3.out]),xT hg g1⟩
    · have z':notNul q=false:=by simpa using z
      have HF3:=hid (HF2.out.trans (if_neg z))
      have Z:=hid z'
      clear z z' HF2
      go_wp2_with fail
      refine (H2.out _ _ hq2).mono ?_
      rw [Z.out]
      rintro e w1 ⟨rfl,g1⟩
      have hg2:=xT hg g1
      go_wp2_with fail
      go_roundw
      case rel=>exact ⟨j+1,by omega,by go_num,HF3,hg2⟩
      case measure=>simp [intOf]; omega
  · have HE:=hid (show idxPt notNul j (ps.drop j) = -1 by rw [List.drop_eq_nil_of_le (by omega)]; rfl)
    go_wp2_with fail
    go_ret
    exact ⟨ret_i64 (by rw [HF.out,HE.out]),hg⟩
theorem containsPat_n (ps:List Pt) (av:Option Addr) (cap:Nat) (w:World) (hl:ps.length≤1000000) (ha:ps=[]∨∃ b off,av=some ⟨b,off,none⟩∧PtsAt w ps b off)
 (hF:∀ q∈ps,∀ (v:Value) (w:World),PtAt w q v→Calls Tryz.prog 111 #[v] w fun e w'=>e=.returned (.bool (notNul q))∧w.grownBy w' none) :
 Calls Tryz.prog 110 #[.slice av ps.length cap,.func (Fn.func 111) #[] #[]] w fun e w'=>e=.returned (.bool (ps.any notNul))∧w.grownBy w' none:=by
 have H:=hid (indexPat_n ps av cap w hl ha hF)
 have HB:=hid (idxPt_any notNul ps 0)
 clear ha hF
 go_enter Tryz.func110,Tryz.ntmps110
 go_wp2_with fail
 refine H.out.mono ?_
 rintro e w1 ⟨rfl,g1⟩
 go_wp2_with fail
 go_ret
 exact ⟨ret_bool HB.out,g1⟩
theorem notEmpty_of (q:Pt) (h:∀ (v:Value) (w:World),PtAt w q v→Calls Tryz.prog 91 #[v] w fun e w'=>e=.returned (.bool q.nul)∧w.grownBy w' none) (v:Value) (w:World) (hp:PtAt w q v) :
 Calls Tryz.prog 111 #[v] w fun e w'=>e=.returned (.bool (notNul q))∧w.grownBy w' none:=by
 have H:=hid h
 clear h
 have hp0:=hp
 obtain ⟨o,l,hi,ps⟩:=q
 obtain ⟨av,cap,rfl,ha⟩:=hp0
 clear ha
 have hg:=yga (grow_self w) (.cells #[.int .i64 o,.int .i64 l,.int .i64 hi,.slice av ps.length cap] 28)
 have hp2:=PtAt.grow hg _ _ hp
 have hfa:(Pt.mk o l hi ps).fault 1=(Pt.mk o l hi ps).fault 1:=rfl
 generalize Pt.mk o l hi ps=p at *
 clear hfa
 go_enter Tryz.func111,Tryz.ntmps111
 go_wp2_with fail
 refine (H.out _ _ hp2).mono ?_
 rintro e w1 ⟨rfl,g1⟩
 go_wp2_with fail
 go_ret
 exact ⟨ret_bool rfl,xT hg g1⟩
theorem fitsEmpty_any (p:Pt):∀ (v:Value) (w:World),p.size≤1000000→PtAt w p v→Calls Tryz.prog 91 #[v] w fun e w'=>e=.returned (.bool p.nul)∧w.grownBy w' none:=by
 induction p using Pt.ind with
 | h o l hi ps ih =>
  intro v w hs hp
  obtain ⟨av,cap,rfl,ha⟩:=hp
  simp only [Pt.size] at hs
  have hlen:=len_sizes ps
  have hg:=yga (grow_self w) (.cells #[.int .i64 o,.int .i64 l,.int .i64 hi,.slice av ps.length cap] 28)
  have ha2:ps=[]∨∃ b off,av=some ⟨b,off,none⟩∧PtsAt (w.alloc (.cells #[.int .i64 o,.int .i64 l,.int .i64 hi,.slice av ps.length cap] 28)) ps b off:=by
   rcases ha with h | ⟨b,off,h1,h2⟩
   · exact .inl h
   · exact .inr ⟨b,off,h1,PtsAt.grow hg _ _ _ h2⟩
  have ihe:∀ q∈ps,∀ (v:Value) (w:World),PtAt w q v→Calls Tryz.prog 91 #[v] w fun e w'=>e=.returned (.bool q.nul)∧w.grownBy w' none:=fun q hq v w h=>ih q hq v w (by have:=size_le_sizes ps q hq; omega) h
  have HE:=hid (containsPat_e ps av cap _ (by omega) ha2 ihe)
  have HN:=hid (containsPat_n ps av cap _ (by omega) ha2 (fun q hq=>notEmpty_of q (ihe q hq)))
  clear ihe ih ha ha2
  by_cases o1:o=1
  · have ob:(o == 1)=true:=by simp [o1]
    have H:=hid (show (Pt.mk o l hi ps).nul=false by simp [Pt.nul,o1])
    clear o1
    go_enter Tryz.func91,Tryz.ntmps91
    go_wp2_with fail
    go_ret
    exact ⟨ret_bool (by rw [H.out]),hg⟩
  have ob1:(o == 1)=false:=by simp [o1]
  by_cases o2:o=2
  · have ob:(o == 2)=true:=by simp [o2]
    have H:=hid (show (Pt.mk o l hi ps).nul=(!ps.any notNul) by rw [any_notNul]; simp [Pt.nul,o2])
    clear o1 o2
    go_enter Tryz.func91,Tryz.ntmps91
    go_wp2_with fail
    refine HN.out.mono ?_
    rintro e w1 ⟨rfl,g1⟩
    go_wp2_with fail
    go_ret
    exact ⟨ret_bool (by rw [H.out]),xT hg g1⟩
  have ob2:(o == 2)=false:=by simp [o2]
  by_cases o3:o=3
  · have ob:(o == 3)=true:=by simp [o3]
    have H:=hid (show (Pt.mk o l hi ps).nul=ps.any Pt.nul by rw [any_nul]; simp [Pt.nul,o3])
    clear o1 o2 o3
    go_enter Tryz.func91,Tryz.ntmps91
    go_wp2_with fail
    refine HE.out.mono ?_
    rintro e w1 ⟨rfl,g1⟩
    go_wp2_with fail
    go_ret
    exact ⟨ret_bool (by rw [H.out]),xT hg g1⟩
  · have ob:(o == 3)=false:=by simp [o3]
    have H:=hid (show (Pt.mk o l hi ps).nul=true by simp [Pt.nul,o1,o2,o3])
    clear o1 o2 o3
    go_enter Tryz.func91,Tryz.ntmps91
    go_wp2_with fail
    go_ret
    exact ⟨ret_bool (by rw [H.out]),hg⟩
structure Mrk where
 kind:ByteArray
 pat:Pt
def MrkAt (w:World):List Mrk→Nat→Nat→Prop
 | [],_,_=>True
 | m::ms,b,off=>(w.cell? ⟨b,off,none⟩=some (.string m.kind)∧∃ v,At4 w b (off+1) v∧PtAt w m.pat v)∧MrkAt w ms b (off+5)
theorem MrkAt.grow {w w':World} (g:w.grownBy w' none):∀ (ms:List Mrk) (b off:Nat),MrkAt w ms b off→MrkAt w' ms b off
 | [],_,_,_=>trivial
 | _::ms,b,off,h=>⟨⟨ycg h.1.1 g,by obtain ⟨v,h1,h2⟩:=h.1.2; exact ⟨v,h1.grow g,PtAt.grow g _ v h2⟩⟩,MrkAt.grow g ms b (off+5) h.2⟩
theorem MrkAt.at_ {w:World}:∀ (ms:List Mrk) (b off:Nat),MrkAt w ms b off→∀ j (h:j<ms.length),w.cell? ⟨b,off+j*5,none⟩=some (.string ms[j].kind)∧∃ v,At4 w b (off+j*5+1) v∧PtAt w ms[j].pat v
 | [],_,_,_,j,hj=>by simp at hj
 | m::ms,b,off,h,0,_=>by simpa using h.1
 | m::ms,b,off,h,j+1,hj=>by
  have:=MrkAt.at_ ms b (off+5) h.2 j (by simpa using hj)
  rw [show off+(j+1)*5=off+5+j*5 by omega]
  simpa using this
theorem MrkAt.elem {w:World} {ms:List Mrk} {av:Option Addr} (ha:ms=[]∨∃ b off,av=some ⟨b,off,none⟩∧MrkAt w ms b off) (j:Nat) (hj:j<ms.length) :
 ∃ b off,∃ (o l h:Int) (x:Option Addr) (n c:Nat),av=some ⟨b,off,none⟩∧w.cell? ⟨b,off+j*5,none⟩=some (.string ms[j].kind)∧w.cell? ⟨b,off+j*5+1,none⟩=some (.int .i64 o)∧w.cell? ⟨b,off+j*5+2,none⟩=some (.int .i64 l)∧w.cell? ⟨b,off+j*5+3,none⟩=some (.int .i64 h)∧w.cell? ⟨b,off+j*5+4,none⟩=some (.slice x n c)∧PtAt w ms[j].pat (.agg #[.int .i64 o,.int .i64 l,.int .i64 h,.slice x n c]):=by
 rcases ha with rfl | ⟨b,off,hb,ha⟩
 · simp at hj
 · obtain ⟨hk,v,⟨c0,c1,c2,c3,rfl,h⟩,hp⟩:=MrkAt.at_ ms b off ha j hj
   generalize hq:ms[j].pat=q at hp
   obtain ⟨o,l,hh,qs⟩:=q
   obtain ⟨x,c,hv,hx⟩:=hp
   simp only [Value.agg.injEq,Array.mk.injEq,List.cons.injEq,and_true] at hv
   obtain ⟨rfl,rfl,rfl,rfl⟩:=hv
   exact ⟨b,off,o,l,hh,x,qs.length,c,hb,hk,h.1,h.2.1,h.2.2.1,h.2.2.2,x,c,rfl,hx⟩
def badKind (k:ByteArray):Bool:=!k.toList.isEmpty && !nameB k.data.toList
def markLoop:List Mrk→Nat→Int
 | [],n=>if 2000<n then 2 else 0
 | m::ms,n=>if badKind m.kind=true then 5 else if patFault m.pat≠0 then patFault m.pat else if m.pat.nul=true then 16 else markLoop ms (n+m.pat.size)
def ymF (ms:List Mrk):Int:=if ms.length=0 then 8 else if 60<ms.length then 2 else markLoop ms 0
theorem fault_size (p:Pt) (h:patFault p=0):p.size≤2000:=by
 unfold patFault at h
 split at h
 · split at h
   · cases h
   · omega
 · rename_i h2; exact absurd h h2
theorem checkMarks_any (ms:List Mrk) (av:Option Addr) (cap:Nat) (w:World) (hms:∀ m∈ms,m.pat.size≤100000∧m.kind.size≤1000000) (hl:ms.length≤1000000)
 (ha:ms=[]∨∃ b off,av=some ⟨b,off,none⟩∧MrkAt w ms b off) :
 Calls Tryz.prog 81 #[.slice av ms.length cap] w fun e w'=>e=.returned (.int .i64 (ymF ms))∧w.grownBy w' none:=by
 have HA:=hid ha
 have HMS:=hid hms
 clear ha hms
 obtain ⟨F,hF⟩:∃ f,ymF ms=f:=⟨_,rfl⟩
 rw [hF]
 by_cases h0:ms.length=0
 · have hf:F=8:=by rw [← hF,ymF,if_pos h0]
   subst hf
   clear hF
   have h0i:((ms.length:Int) == 0)=true:=by simp [h0]
   go_enter Tryz.func81,Tryz.ntmps81
   go_wp2_with fail
   go_ret
   exact ⟨rfl,grow_self w⟩
 · by_cases h60:60<ms.length
   · have hf:F=2:=by rw [← hF,ymF,if_neg h0,if_pos h60]
     subst hf
     clear hF
     have h0i:((ms.length:Int) == 0)=false:=beq_eq_false_iff_ne.2 (by omega)
     have h60i:(60:Int)<ms.length:=by omega
     go_enter Tryz.func81,Tryz.ntmps81
     go_wp2_with fail
     go_ret
     exact ⟨rfl,grow_self w⟩
   · have HF:=hid (show markLoop ms 0=F by rw [← hF,ymF,if_neg h0,if_neg h60])
     have h0i:((ms.length:Int) == 0)=false:=beq_eq_false_iff_ne.2 (by omega)
     have h60i:¬ (60:Int)<ms.length:=by omega
     clear hF
     go_enter Tryz.func81,Tryz.ntmps81
     go_wp2_with fail
     go_loopw [3,15] (fun n i wr=>∃ (j c:Nat),j≤ms.length∧i=.int .i64 j∧n=.int .i64 c∧c≤j*2000∧Hid (markLoop (ms.drop j) c=F)∧Hid (w.grownBy wr none)) (fun _ i _=>ms.length-(intOf i).toNat)
     case atStart=>exact ⟨0,0,Nat.zero_le _,rfl,rfl,by omega,HF,hid (grow_self w)⟩
     case round =>
      obtain ⟨j,c,hj,rfl,rfl,hc,HE,HG⟩:=hrel
      by_cases hlt:j<ms.length
      · obtain ⟨b,off,o,l,h,x,n,cc,rfl,h1,h2,h3,h4,h5,hp⟩:=MrkAt.elem HA.out j hlt
        replace h1:=ycg h1 HG.out
        replace h2:=ycg h2 HG.out
        replace h3:=ycg h3 HG.out
        replace h4:=ycg h4 HG.out
        replace h5:=ycg h5 HG.out
        obtain ⟨hps,hks⟩:=HMS.out ms[j] (List.getElem_mem hlt)
        have HE2:Hid (markLoop (ms[j]::ms.drop (j+1)) c=F):=hid (by rw [← HE.out,show ms.drop j=ms[j]::ms.drop (j+1) from List.drop_eq_getElem_cons _])
        have HP:=hid (PtAt.grow HG.out _ _ hp)
        clear HE hp
        generalize ms[j]=m at *
        obtain ⟨kind,pat⟩:=m
        simp only at h1 hps hks HP
        have hj60:j*2000≤120000:=by omega
        have b0:=xN wr (.cells #[.string kind,.int .i64 o,.int .i64 l,.int .i64 h,.slice x n cc] 88)
        have G1:=hid (yga HG.out (.cells #[.string kind,.int .i64 o,.int .i64 l,.int .i64 h,.slice x n cc] 88))
        have HP1:=hid (PtAt.grow (xG wr (.cells #[.string kind,.int .i64 o,.int .i64 l,.int .i64 h,.slice x n cc] 88) none) _ _ HP.out)
        obtain ⟨bad,hbad⟩:∃ b,badKind kind=b:=⟨_,rfl⟩
        have HBAD:=hid hbad
        clear hbad
        go_upto_region 9 with (fail)
        generalize wr.alloc _=w1 at b0 G1 HP1 ⊢
        generalize wr.heap.size=B at b0 ⊢
        obtain ⟨x0,x1,x2,x3,x4⟩:=cb5 b0
        have HB0:=hid b0
        clear b0 h1 h2 h3 h4 h5
        go_cut [27] (fun v wx=>v=.bool bad∧w1=wx)
        case first =>
         by_cases hk:kind.toList=[]
         · have hb:bad=false:=by rw [← HBAD.out,badKind,hk]; rfl
           subst hb
           go_wp2_with fail
           go_meet
           exact ⟨rfl,rfl⟩
         · have hk2:kind.toList.isEmpty=false:=by cases hh:kind.toList with | nil=>exact absurd hh hk | cons _ _=>rfl
           have hb:=hid (show (!nameB kind.data.toList)=bad by rw [← HBAD.out,badKind,hk2]; rfl)
           obtain ⟨nb,hnb⟩:∃ nb,nameB kind.data.toList=nb:=⟨_,rfl⟩
           have HNM:=hid (hnb ▸ isName_any kind w1 hks)
           rw [hnb] at hb
           have HK2:=hid hk2
           clear hnb hk2
           obtain rfl:=hb.out
           go_wp2_with fail
           refine HNM.out.mono ?_
           rintro e w2 ⟨rfl,rfl⟩
           go_wp2_with fail
           go_meet
           exact ⟨by rw [HK2.out]; rfl,rfl⟩
        case rest =>
         obtain ⟨rfl,rfl⟩:=hcut
         rcases bad with _ | _
         · have HE3:=hid (show (if patFault pat≠0 then patFault pat else if pat.nul=true then 16 else markLoop (ms.drop (j+1)) (c+pat.size))=F by rw [← HE2.out,markLoop,if_neg (show ¬ badKind kind=true by rw [HBAD.out]; simp)])
           clear HE2
           go_wp2_with fail
           refine (checkPat_any pat _ _ hps HP1.out).mono ?_
           rintro e w2 ⟨rfl,g2⟩
           obtain ⟨pf,hpf⟩:∃ f,patFault pat=f:=⟨_,rfl⟩
           rw [hpf] at HE3 ⊢
           have HPF:=hid hpf
           clear hpf
           have HP2:=hid (PtAt.grow g2 _ _ HP1.out)
           have G2:=hid (xT G1.out g2)
           have b2:=grow_new g2 HB0.out
           clear g2 x0 x1 x2 x3 x4
           have x1:=xC b2 1
           have x2:=xC b2 2
           have x3:=xC b2 3
           have x4:=xC b2 4
           simp only [xGe,xGz,xGs] at x1 x2 x3 x4
           have HB2:=hid b2
           clear b2
           by_cases hz:pf=0
           · subst hz
             have hsz:=fault_size pat HPF.out
             have HE4:=hid (show (if pat.nul=true then 16 else markLoop (ms.drop (j+1)) (c+pat.size))=F by rw [← HE3.out,if_neg (show ¬ (0:Int)≠0 by simp)])
             clear HE3
             go_wp2_with fail
             refine (fitsEmpty_any pat _ _ (by omega) HP2.out).mono ?_
             rintro e w3 ⟨rfl,g3⟩
             obtain ⟨nl,hnl⟩:∃ f,pat.nul=f:=⟨_,rfl⟩
             rw [hnl] at HE4 ⊢
             clear hnl
             have HP3:=hid (PtAt.grow g3 _ _ HP2.out)
             have G3:=hid (xT G2.out g3)
             have b3:=grow_new g3 HB2.out
             clear g3 x1 x2 x3 x4
             have x1:=xC b3 1
             have x2:=xC b3 2
             have x3:=xC b3 3
             have x4:=xC b3 4
             simp only [xGe,xGz,xGs] at x1 x2 x3 x4
             clear b3
             rcases nl with _ | _
             · have HE5:=hid (show markLoop (ms.drop (j+1)) (c+pat.size)=F by rw [← HE4.out]; rfl)
               clear HE4
               go_wp2_with fail
               refine (size_any pat _ _ (by omega) HP3.out).mono ?_
               rintro e w4 ⟨rfl,g4⟩
               have G4:=hid (xT G3.out g4)
               clear g4
               go_wp2_with fail
               go_roundw
               case rel=>exact ⟨j+1,c+pat.size,by omega,by go_num,by go_num,by omega,HE5,G4⟩
               case measure=>simp [intOf]; omega
             · have HE5:=hid (show (16:Int)=F by rw [← HE4.out]; rfl)
               clear HE4
               go_wp2_with fail
               go_ret
               exact ⟨by rw [← HE5.out]; rfl,G3.out⟩
           · have HE4:=hid (show pf=F by rw [← HE3.out,if_pos hz])
             have hzb:(pf != 0)=true:=by simpa using hz
             clear HE3 hz
             go_wp2_with fail
             go_ret
             exact ⟨by rw [← HE4.out]; rfl,G2.out⟩
         · have HE3:=hid (show (5:Int)=F by rw [← HE2.out,markLoop,if_pos HBAD.out])
           go_wp2_with fail
           go_ret
           exact ⟨by rw [← HE3.out]; rfl,G1.out⟩
      · have HE2:=hid (show (if 2000<c then (2:Int) else 0)=F by rw [← HE.out,List.drop_eq_nil_of_le (by omega)]; rfl)
        by_cases hbig:2000<c
        · have HE3:=hid (show (2:Int)=F by rw [← HE2.out,if_pos hbig])
          have hb2:(2000:Int)<c:=by omega
          go_wp2_with fail
          go_ret
          exact ⟨by rw [← HE3.out]; rfl,HG.out⟩
        · have HE3:=hid (show (0:Int)=F by rw [← HE2.out,if_neg hbig])
          have hb2:¬ (2000:Int)<c:=by omega
          go_wp2_with fail
          go_ret
          exact ⟨by rw [← HE3.out]; rfl,HG.out⟩
end Go.Proofs.YtplbacfjmajeeaaGreatDoor
