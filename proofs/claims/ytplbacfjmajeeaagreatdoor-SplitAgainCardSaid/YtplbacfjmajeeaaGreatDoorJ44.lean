import Derived.Test.YtplbacfjmajeeaaGreatDoorJ43
namespace Go.Proofs.YtplbacfjmajeeaaGreatDoor
open Go.Lib (hid)
set_option maxHeartbeats 4000000
set_option maxRecDepth 100000
open Go.RowKit Go.Maps
def agRN (_:List Mrk) (s s2:ByteArray) (_:Nat) (_:ByteArray) (_ Q:List Pc) (T U:List Tk) (tl2:ByteArray) (F K TO:Nat):AgR :=
 ⟨U,tl2,K,behindR s.size s2.size TO (beginsL T 0) (beginsL U 0) 0,F,TO,foundL F TO Q 0,0,0⟩
abbrev meetRN (ms:List Mrk) (s s2:ByteArray) (A:Nat) (x:ByteArray) (P Q:List Pc):Nat:=meetR s.size s2.size (aheadL ms A P 0 0).1 (A+x.size) (s.size::atsL P) (atsL Q++[s2.size])
def agRE (ms:List Mrk) (s s2:ByteArray) (A:Nat) (x:ByteArray) (P:List Pc) (T:List Tk) (Q:List Pc) (U:List Tk) (tl2:ByteArray) (at_ er:Nat):AgR :=
 if er≠0 then .bad at_ er else agRN ms s s2 A x P Q T U tl2 (aheadL ms A P 0 0).1 (aheadL ms A P 0 0).2 (meetRN ms s s2 A x P Q)
def agRS (ms:List Mrk) (F:ByteArray→List Tk × ByteArray × Nat × Nat) (G:ByteArray→List Pc) (T:List Tk) (tail:ByteArray) (A O:Int) (x s:ByteArray) (V:List Tk) (tl:ByteArray) (er:Nat):AgR :=
 if er≠0 then .bad 0 3 else if (tl.toList == tail.toList)=false then .bad 0 3 else if eqTk V T=false then .bad 0 3
 else if (replM s A O x).2≠0 then .bad 0 (replM s A O x).2
 else agRE ms s (replM s A O x).1 A.toNat x (G s) T (G (replM s A O x).1) (F (replM s A O x).1).1 (F (replM s A O x).1).2.1 (F (replM s A O x).1).2.2.1 (F (replM s A O x).1).2.2.2
def agRM (ms:List Mrk) (F:ByteArray→List Tk × ByteArray × Nat × Nat) (G:ByteArray→List Pc) (T:List Tk) (tail:ByteArray) (A O:Int) (x:ByteArray):AgR :=
 if (joinedM T tail).2≠0 then .bad 0 (joinedM T tail).2
 else agRS ms F G T tail A O x (joinedM T tail).1 (F (joinedM T tail).1).1 (F (joinedM T tail).1).2.1 (F (joinedM T tail).1).2.2.2
structure AgO (w:World) (B7 B8 B9:Nat) (ed z:Array Value) (tv tl:Value) (ah be fm tm fo:Nat) (W:World):Prop where
 gr:w.grownBy W none
 lo9:w.heap.size≤B9
 ne:B7≠B9∧B8≠B9
 b7:W.heap[B7]? = some (.cells ed 68 (0,0))
 b8:W.heap[B8]? = some (.cells z 71 (0,0))
 b9:W.heap[B9]? = some (.cells #[tv,tl,.int .i64 ah,.int .i64 be,.int .i64 fm,.int .i64 tm,.int .i64 fo] 71 (0,0))
theorem AgO.grow {w:World} {B7 B8 B9:Nat} {ed z:Array Value} {tv tl:Value} {ah be fm tm fo:Nat} {W W':World} (h:AgO w B7 B8 B9 ed z tv tl ah be fm tm fo W) (g:W.grownBy W' none):AgO w B7 B8 B9 ed z tv tl ah be fm tm fo W' :=
 ⟨xT h.gr g,h.lo9,h.ne,grow_new g h.b7,grow_new g h.b8,grow_new g h.b9⟩
theorem AgO.set {w:World} {B7 B8 B9:Nat} {ed z:Array Value} {tv tl:Value} {ah be fm tm fo:Nat} {ah' be' fm' tm' fo':Nat} {W:World} (h:AgO w B7 B8 B9 ed z tv tl ah be fm tm fo W) (i:Nat) (u:Value)
 (e:(#[tv,tl,.int .i64 ah,.int .i64 be,.int .i64 fm,.int .i64 tm,.int .i64 fo]:Array Value).setIfInBounds i u=#[tv,tl,.int .i64 ah',.int .i64 be',.int .i64 fm',.int .i64 tm',.int .i64 fo']):AgO w B7 B8 B9 ed z tv tl ah' be' fm' tm' fo' (W.setCell ⟨B9,i,none⟩ u) :=
 have hlo:=h.lo9
 have hne:=h.ne
 ⟨ygs h.gr _ _ (by simp; omega),h.lo9,h.ne,by rw [Below.heap_setCell _ _ _ _ (by simp; omega)]; exact h.b7,by rw [Below.heap_setCell _ _ _ _ (by simp; omega)]; exact h.b8,by rw [yhs h.b9 i u,e]⟩
structure SpB (ms:List Mrk) (s:ByteArray) (P:List Pc) (U:List Tk):Prop where
 len:U.length≤2000
 pcs:∀ y∈P,y.2.1<s.size∧y.2.2.1≤s.size∧y.2.2.2≤s.size+1∧y.1<ms.length
 pl:P.length≤s.size
 sum:tkSum U≤s.size
theorem splitR_ok (ms:List Mrk) (s:ByteArray) (h:(splitR ms s).2.2.2=0):SpB ms s (piecesL (ms.map Mrk.pat) (setsM ms) s.data.toList).1 (splitR ms s).1:=by
 unfold splitR at h ⊢
 by_cases h0:(piecesL (ms.map Mrk.pat) (setsM ms) s.data.toList).2.2=0
 · rw [if_pos h0] at h ⊢
   by_cases h1:2000<(toksL ms s (piecesL (ms.map Mrk.pat) (setsM ms) s.data.toList).1 0 []).1.length
   · rw [if_pos h1] at h; cases h
   · rw [if_neg h1]
     have e:splitL (ms.map Mrk.pat) (setsM ms) ms s=(s,(piecesL (ms.map Mrk.pat) (setsM ms) s.data.toList).1,(toksL ms s (piecesL (ms.map Mrk.pat) (setsM ms) s.data.toList).1 0 []).1,s.extract (toksL ms s (piecesL (ms.map Mrk.pat) (setsM ms) s.data.toList).1 0 []).2 s.size,0,0):=by
      unfold splitL
      rw [if_pos h0,if_neg h1]
     have hok:=splitL_ok ms s
     rw [e] at hok
     obtain ⟨_,hk⟩:=hok rfl
     exact ⟨hk.len,hk.pcs,hk.pl,hk.sum⟩
 · rw [if_neg h0] at h
   cases h
theorem pcAt_set {W:World} {B n c:Nat} {a:Option Addr} {L:List Pc} (h:PcAt W (.slice a n c) L) (hb:∀ g o,a=some ⟨g,o,none⟩→g≠B) (i:Nat) (u:Value):PcAt (W.setCell ⟨B,i,none⟩ u) (.slice a n c) L:=by
 obtain ⟨a2,c2,e,h⟩:=h
 simp only [Value.slice.injEq] at e
 obtain ⟨rfl,rfl,rfl⟩:=e
 refine ⟨a,c,rfl,?_⟩
 rcases h with h | ⟨g,o,e,h⟩
 · exact .inl h
 · have hg:=hb g o e
   have hh:(W.setCell ⟨B,i,none⟩ u).heap[g]? = W.heap[g]?:=Below.heap_setCell _ _ _ _ (by simpa using hg)
   exact .inr ⟨g,o,e,fun j v hj=>by have:=h j v hj; simpa only [World.cell?,hh] using this⟩
theorem tkAt_set {W:World} {B n c:Nat} {a:Option Addr} {L:List Tk} (h:TkAt W (.slice a n c) L) (hb:∀ g o,a=some ⟨g,o,none⟩→g≠B) (i:Nat) (u:Value):TkAt (W.setCell ⟨B,i,none⟩ u) (.slice a n c) L:=by
 obtain ⟨a2,c2,e,h⟩:=h
 simp only [Value.slice.injEq] at e
 obtain ⟨rfl,rfl,rfl⟩:=e
 refine ⟨a,c,rfl,?_⟩
 rcases h with h | ⟨g,o,e,h⟩
 · exact .inl h
 · have hg:=hb g o e
   have hh:(W.setCell ⟨B,i,none⟩ u).heap[g]? = W.heap[g]?:=Below.heap_setCell _ _ _ _ (by simpa using hg)
   exact .inr ⟨g,o,e,fun j v hj=>by have:=h j v hj; simpa only [World.cell?,hh] using this⟩
theorem meetR_drop (n n2 f least:Nat) (B l:List Nat) (j:Nat) (h:j<l.length):meetR n n2 f least B (l.drop j)=if f≤l[j]∧least≤l[j]∧starts B ((n:Int)-(n2-l[j]))=true then l[j] else meetR n n2 f least B (l.drop (j+1)):=by
 rw [List.drop_eq_getElem_cons h]
 rfl
theorem behindR_drop (n n2 t:Nat) (B l:List Nat) (j k:Nat) (h:j<l.length):behindR n n2 t B (l.drop j) k=behindR n n2 t B (l.drop (j+1)) (if t≤l[j]∧starts B ((n:Int)-(n2-l[j]))=true then k+1 else k):=by
 rw [List.drop_eq_getElem_cons h]
 rfl
theorem ints_set {W:World} {B:Nat} {v:Value} {xs:List Int} (h:Ints W v xs) (hb:∀ g o n c,v=.slice (some ⟨g,o,none⟩) n c→g≠B) (i:Nat) (u:Value):Ints (W.setCell ⟨B,i,none⟩ u) v xs:=by
 obtain ⟨a,c,e,h⟩:=h
 refine ⟨a,c,e,?_⟩
 rcases h with h | ⟨g,o,ea,h⟩
 · exact .inl h
 · have hg:=hb g o _ _ (by rw [e,ea])
   have hh:(W.setCell ⟨B,i,none⟩ u).heap[g]? = W.heap[g]?:=Below.heap_setCell _ _ _ _ (by simpa using hg)
   exact .inr ⟨g,o,ea,fun j v hj=>by have:=h j v hj; simpa only [World.cell?,hh] using this⟩
theorem replM_2 {s:ByteArray} {A O:Int} {x:ByteArray} (h:¬ (A<0∨(s.size:Int)<A∨O<0∨(s.size:Int)-A<O)) (h2:20000<(s.size:Int)-O+x.size):replM s A O x=(⟨#[]⟩,2):=by unfold replM; rw [if_neg h,if_pos h2]
theorem replM_0 {s:ByteArray} {A O:Int} {x:ByteArray} (h:¬ (A<0∨(s.size:Int)<A∨O<0∨(s.size:Int)-A<O)) (h2:¬ 20000<(s.size:Int)-O+x.size):replM s A O x=(s.extract 0 A.toNat++x++s.extract (A+O).toNat s.size,0):=by unfold replM; rw [if_neg h,if_neg h2]
set_option maxHeartbeats 8000000 in
theorem againOf_any (ms:List Mrk) (av:Option Addr) (cap:Nat) (T:List Tk) (tail:ByteArray) (tv:Value) (A O:Int) (x:ByteArray) (w:World) (hc:chk ms=0) (hlv:ylL (ms.map Mrk.pat)≤64) (hsz:sizes (ms.map Mrk.pat)≤500)
 (ha:ms=[]∨∃ b off,av=some ⟨b,off,none⟩∧MrkAt w ms b off) (hT:TkAt w tv T) (hTl:T.length≤1000000) (hTs:tail.size+tkSum T≤1000000) (hx:x.size≤100000) (hA : -1000000≤A∧A≤2000000) (hO : -1000000≤O∧O≤2000000) :
 Calls Tryz.prog 34 #[.slice av ms.length cap,tv,.string tail,.agg #[.int .i64 A,.int .i64 O,.string x]] w (AgPost (agRM ms (splitR ms) (fun s=>(piecesL (ms.map Mrk.pat) (setsM ms) s.data.toList).1) T tail A O x) w):=by
 have HSP:=hid (fun (s:ByteArray) (W:World) (hs:s.size≤20000) (g:w.grownBy W none)=>splitOf_any ms av cap s W hs hc hlv hsz (by rcases ha with h | ⟨b,off,h1,h2⟩; exact .inl h; exact .inr ⟨b,off,h1,MrkAt.grow g ms b off h2⟩))
 have HF:=hid (splitR_ok ms)
 generalize splitR ms=F at HSP HF ⊢
 have HPC:=hid (fun (s:ByteArray) (W:World) (hs:s.size≤20000) (g:w.grownBy W none)=>piecesOf_any ms av cap s W hs hc hlv hsz (by rcases ha with h | ⟨b,off,h1,h2⟩; exact .inl h; exact .inr ⟨b,off,h1,MrkAt.grow g ms b off h2⟩))
 unfold PcOfPost at HPC
 generalize piecesL (ms.map Mrk.pat) (setsM ms)=G at HPC HF ⊢
 obtain ⟨R,hR⟩:∃ R,agRM ms F (fun s=>(G s.data.toList).1) T tail A O x=R:=⟨_,rfl⟩
 rw [hR]
 obtain ⟨PP,hPP⟩:∃ P,AgPost R w=P:=⟨_,rfl⟩
 rw [hPP]
 have HPP:=hid hPP
 have HR:=hid hR
 have HA:=hid ha
 have HTT:=hid hT
 have HTL:=hid (And.intro hTl hTs)
 obtain ⟨Nm,hN⟩:∃ N,ms.length=N:=⟨_,rfl⟩
 have HN:=hid hN
 rw [hN] at HSP HPC ⊢
 obtain ⟨ta,tc,rfl,hT2⟩:=id hT
 obtain ⟨Tn,hTn⟩:∃ N,T.length=N:=⟨_,rfl⟩
 have HTN:=hid hTn
 rw [hTn]
 clear hPP hR ha hlv hsz hc hN hT hT2 hTl hTs hTn
 go_enter Tryz.func34,Tryz.ntmps34
 go_upto_region 1 with (fail)
 have H7:=hid (grow_new (xG _ (.cells #[.slice none 0 0,.string ⟨#[]⟩,.int .i64 0,.int .i64 0,.int .i64 0,.int .i64 0,.int .i64 0] 71) none) (xN w (.cells #[.int .i64 A,.int .i64 O,.string x] 68)))
 have H8:=hid (yhn (w.alloc (.cells #[.int .i64 A,.int .i64 O,.string x] 68)) (.cells #[.slice none 0 0,.string ⟨#[]⟩,.int .i64 0,.int .i64 0,.int .i64 0,.int .i64 0,.int .i64 0] 71) (w.heap.size+1) (by simp))
 have HG:=hid (yga (xG w (.cells #[.int .i64 A,.int .i64 O,.string x] 68) none) (.cells #[.slice none 0 0,.string ⟨#[]⟩,.int .i64 0,.int .i64 0,.int .i64 0,.int .i64 0,.int .i64 0] 71))
 have hB8:w.heap.size≤w.heap.size+1:=by omega
 obtain ⟨B8,hB⟩:∃ B,w.heap.size+1=B:=⟨_,rfl⟩
 rw [hB] at H8 hB8 ⊢
 have hB78:w.heap.size≠B8:=by omega
 clear hB
 obtain ⟨B7,hB7⟩:∃ B,w.heap.size=B:=⟨_,rfl⟩
 rw [hB7] at H7 hB78 ⊢
 have HB7:=hid hB7
 clear hB7
 generalize (w.alloc _).alloc _=w1 at H7 H8 HG ⊢
 have HJ:=hid (joinedOf_any T tail (.slice ta Tn tc) w1 (by have:=HTT.out.grow HG.out; rw [HTN.out] at this; exact this) HTL.out.1 HTL.out.2)
 obtain ⟨t,ht⟩:∃ t,(joinedM T tail).1=t:=⟨_,rfl⟩
 obtain ⟨je,hje⟩:∃ t,(joinedM T tail).2=t:=⟨_,rfl⟩
 have HTS:=hid (show t.size≤20000 by rw [← ht]; exact joinedM_size T tail)
 rw [ht,hje] at HJ
 have HR2:=HR.out
 unfold agRM at HR2
 rw [ht,hje] at HR2
 replace HR:=hid HR2
 clear ht hje HR2
 go_wp2_with fail
 refine HJ.out.mono ?_
 rintro e w3 ⟨rfl,g3⟩
 replace H7:=hid (grow_new g3 H7.out)
 replace H8:=hid (grow_new g3 H8.out)
 replace HG:=hid (xT HG.out g3)
 clear g3 HJ
 by_cases h0:je=0
 case neg =>
  have h1:(je == 0)=false:=by simpa using h0
  have HBAD:=hid (show R=.bad 0 je by rw [← HR.out,if_pos h0])
  obtain ⟨z0,z1,z2,z3,z4,z5,z6⟩:=cb7 H8.out
  obtain ⟨f0,f1,f2,f3,f4,f5,f6⟩:=fb7 H8.out
  go_wp2_with fail
  obtain ⟨w9,e9,h8,HG9⟩:=store7z H8.out HG.out hB8
  rw [e9]
  clear e9
  clear z0 z1 z2 z3 z4 z5 z6 f0 f1 f2 f3 f4 f5 f6
  obtain ⟨k0,k1,k2,k3,k4,k5,k6⟩:=cb7 h8
  clear h8
  rw [← HPP.out]
  exact bodyPost_ret (v:=badV 0 je) (by simp [badV,results,Tryz.results34,go_sem,k0,k1,k2,k3,k4,k5,k6]) rfl (agBad HBAD.out HG9)
 subst h0
 replace HR:=hid ((if_neg (show ¬ (0:Int)≠0 by simp)).symm.trans HR.out)
 have HSP1:=hid (HSP.out t w3 HTS.out HG.out)
 unfold SplitOfPost at HSP1
 have HF1:=hid (HF.out t)
 generalize F t=f1 at HR HSP1 HF1
 obtain ⟨q3,q4,q5,q6⟩:=f1
 replace HSP1:Hid (Calls Tryz.prog 27 #[.slice av Nm cap,.string t] w3 fun e w'=>∃ v,e=.returned (.tuple #[v,.string q4,.int .i64 (q5:Nat),.int .i64 (q6:Nat)])∧w'.ownsRow w3.heap.size 66 3 v q3.length (tkCells q3)∧w3.grownBy w' none):=HSP1
 replace HR:Hid (agRS ms F (fun s=>(G s.data.toList).1) T tail A O x t q3 q4 q6=R):=HR
 replace HF1:Hid (q6=0→SpB ms t (G t.data.toList).1 q3):=HF1
 go_wp2_with fail
 refine HSP1.out.mono ?_
 rintro e w4 ⟨v2,rfl,own2,g4⟩
 replace H7:=hid (grow_new g4 H7.out)
 replace H8:=hid (grow_new g4 H8.out)
 replace HG:=hid (xT HG.out g4)
 have HT1:=hid (tkAt_own own2 rfl)
 obtain ⟨a2,n2,hv2⟩:=own_shape own2
 subst hv2
 obtain ⟨m3,hm3⟩:∃ n,q3.length=n:=⟨_,rfl⟩
 have HM3:=hid hm3
 rw [hm3] at HT1 ⊢
 clear hm3 own2 g4 HSP1
 by_cases h0:q6=0
 case neg =>
  have h1:((q6:Int) == 0)=false:=by simpa using h0
  have HBAD:=hid (show R=.bad 0 3 by rw [← HR.out,agRS,if_pos h0])
  obtain ⟨z0,z1,z2,z3,z4,z5,z6⟩:=cb7 H8.out
  obtain ⟨f0,f1,f2,f3,f4,f5,f6⟩:=fb7 H8.out
  go_wp2_with fail
  obtain ⟨w9,e9,h8,HG9⟩:=store7z H8.out HG.out hB8
  rw [e9]
  clear e9
  clear z0 z1 z2 z3 z4 z5 z6 f0 f1 f2 f3 f4 f5 f6
  obtain ⟨k0,k1,k2,k3,k4,k5,k6⟩:=cb7 h8
  clear h8
  rw [← HPP.out]
  exact bodyPost_ret (v:=badV 0 3) (by simp [badV,results,Tryz.results34,go_sem,k0,k1,k2,k3,k4,k5,k6]) rfl (agBad HBAD.out HG9)
 subst h0
 cases h1:(q4.toList == tail.toList) with
 | false =>
  have HBAD:=hid (show R=.bad 0 3 by rw [← HR.out,agRS,if_neg (show ¬ (0:Nat)≠0 by simp),if_pos h1])
  obtain ⟨z0,z1,z2,z3,z4,z5,z6⟩:=cb7 H8.out
  obtain ⟨f0,f1,f2,f3,f4,f5,f6⟩:=fb7 H8.out
  go_wp2_with fail
  obtain ⟨w9,e9,h8,HG9⟩:=store7z H8.out HG.out hB8
  rw [e9]
  clear e9
  clear z0 z1 z2 z3 z4 z5 z6 f0 f1 f2 f3 f4 f5 f6
  obtain ⟨k0,k1,k2,k3,k4,k5,k6⟩:=cb7 h8
  clear h8
  rw [← HPP.out]
  exact bodyPost_ret (v:=badV 0 3) (by simp [badV,results,Tryz.results34,go_sem,k0,k1,k2,k3,k4,k5,k6]) rfl (agBad HBAD.out HG9)
 | true =>
 have HQ:=hid (equalTk_any q3 T (.slice a2 m3 n2) (.slice ta Tn tc) w4 (by have:=(HF1.out rfl).len; omega) HT1.out (by have:=HTT.out.grow HG.out; rw [HTN.out] at this; exact this))
 obtain ⟨eq,heq⟩:∃ b,eqTk q3 T=b:=⟨_,rfl⟩
 have HEQ:=hid heq
 rw [heq] at HQ
 replace HR:=hid (show (if eq=false then AgR.bad 0 3 else if (replM t A O x).2≠0 then .bad 0 (replM t A O x).2 else agRE ms t (replM t A O x).1 A.toNat x (G t.data.toList).1 T (G (replM t A O x).1.data.toList).1 (F (replM t A O x).1).1 (F (replM t A O x).1).2.1 (F (replM t A O x).1).2.2.1 (F (replM t A O x).1).2.2.2)=R by
  rw [← HR.out,agRS,if_neg (show ¬ (0:Nat)≠0 by simp),if_neg (show ¬ (q4.toList == tail.toList)=false by rw [h1]; simp),heq])
 clear heq
 go_wp2_with fail
 refine HQ.out.mono ?_
 rintro e w6 ⟨rfl,g6⟩
 clear h1 HQ HT1 HM3
 replace H7:=hid (grow_new g6 H7.out)
 replace H8:=hid (grow_new g6 H8.out)
 replace HG:=hid (xT HG.out g6)
 clear g6
 cases eq with
 | false =>
  have HBAD:=hid (show R=.bad 0 3 by rw [← HR.out,if_pos rfl])
  obtain ⟨z0,z1,z2,z3,z4,z5,z6⟩:=cb7 H8.out
  obtain ⟨f0,f1,f2,f3,f4,f5,f6⟩:=fb7 H8.out
  go_wp2_with fail
  obtain ⟨w9,e9,h8,HG9⟩:=store7z H8.out HG.out hB8
  rw [e9]
  clear e9
  clear z0 z1 z2 z3 z4 z5 z6 f0 f1 f2 f3 f4 f5 f6
  obtain ⟨k0,k1,k2,k3,k4,k5,k6⟩:=cb7 h8
  clear h8
  rw [← HPP.out]
  exact bodyPost_ret (v:=badV 0 3) (by simp [badV,results,Tryz.results34,go_sem,k0,k1,k2,k3,k4,k5,k6]) rfl (agBad HBAD.out HG9)
 | true =>
 replace HR:=hid ((if_neg (by simp)).symm.trans HR.out)
 obtain ⟨e0,e1,e2⟩:=cb3 H7.out
 by_cases hA1:0≤A∧A≤t.size
 case neg =>
  have hi:=in_any A 0 t.size w6
  rw [inB_no hA1] at hi
  have HI:=hid hi
  have HBAD:=hid (show R=.bad 0 1 by rw [← HR.out,replM_1 (by omega),if_pos (by simp)])
  clear hi hA1
  go_wp2_with fail
  refine HI.out.mono ?_
  rintro e w7 ⟨rfl,rfl⟩
  obtain ⟨z0,z1,z2,z3,z4,z5,z6⟩:=cb7 H8.out
  obtain ⟨f0,f1,f2,f3,f4,f5,f6⟩:=fb7 H8.out
  go_wp2_with fail
  obtain ⟨w9,e9,h8,HG9⟩:=store7z H8.out HG.out hB8
  rw [e9]
  clear e9
  clear z0 z1 z2 z3 z4 z5 z6 f0 f1 f2 f3 f4 f5 f6
  obtain ⟨k0,k1,k2,k3,k4,k5,k6⟩:=cb7 h8
  clear h8
  rw [← HPP.out]
  exact bodyPost_ret (v:=badV 0 1) (by simp [badV,results,Tryz.results34,go_sem,k0,k1,k2,k3,k4,k5,k6]) rfl (agBad HBAD.out HG9)
 have hi:=in_any A 0 t.size w6
 rw [inB_yes hA1] at hi
 have HI:=hid hi
 have hw1:IntKind.i64.wrap ((t.size:Int)-A)=(t.size:Int)-A:=xI _ (by have:=HTS.out; omega)
 clear hi
 by_cases hO1:0≤O∧O≤(t.size:Int)-A
 case neg =>
  have hi:=in_any O 0 ((t.size:Int)-A) w6
  rw [inB_no hO1] at hi
  have HI2:=hid hi
  have HBAD:=hid (show R=.bad 0 1 by rw [← HR.out,replM_1 (by omega),if_pos (by simp)])
  clear hi hO1
  go_wp2_with fail
  refine HI.out.mono ?_
  rintro e w7 ⟨rfl,rfl⟩
  go_wp2_with fail
  refine HI2.out.mono ?_
  rintro e w7 ⟨rfl,rfl⟩
  obtain ⟨z0,z1,z2,z3,z4,z5,z6⟩:=cb7 H8.out
  obtain ⟨f0,f1,f2,f3,f4,f5,f6⟩:=fb7 H8.out
  go_wp2_with fail
  obtain ⟨w9,e9,h8,HG9⟩:=store7z H8.out HG.out hB8
  rw [e9]
  clear e9
  clear z0 z1 z2 z3 z4 z5 z6 f0 f1 f2 f3 f4 f5 f6
  obtain ⟨k0,k1,k2,k3,k4,k5,k6⟩:=cb7 h8
  clear h8
  rw [← HPP.out]
  exact bodyPost_ret (v:=badV 0 1) (by simp [badV,results,Tryz.results34,go_sem,k0,k1,k2,k3,k4,k5,k6]) rfl (agBad HBAD.out HG9)
 have hi:=in_any O 0 ((t.size:Int)-A) w6
 rw [inB_yes hO1] at hi
 have HI2:=hid hi
 have HNO:=hid (show ¬ (A<0∨(t.size:Int)<A∨O<0∨(t.size:Int)-A<O) by omega)
 clear hi
 go_wp2_with fail
 refine HI.out.mono ?_
 rintro e w7 ⟨rfl,rfl⟩
 go_wp2_with fail
 refine HI2.out.mono ?_
 rintro e w7 ⟨rfl,rfl⟩
 clear HI HI2
 have hw2:IntKind.i64.wrap ((t.size:Int)-O)=(t.size:Int)-O:=xI _ (by have:=HTS.out; omega)
 have hw3:IntKind.i64.wrap ((t.size:Int)-O+x.size)=(t.size:Int)-O+x.size:=xI _ (by have:=HTS.out; omega)
 by_cases hx1:20000<x.size
 case pos =>
  have d1:decide (20000<(x.size:Int))=true:=decide_eq_true (by omega)
  have HBAD:=hid (show R=.bad 0 2 by rw [← HR.out,replM_2 HNO.out (by omega),if_pos (by simp)])
  obtain ⟨z0,z1,z2,z3,z4,z5,z6⟩:=cb7 H8.out
  obtain ⟨f0,f1,f2,f3,f4,f5,f6⟩:=fb7 H8.out
  go_wp2_with fail
  obtain ⟨w9,e9,h8,HG9⟩:=store7z H8.out HG.out hB8
  rw [e9]
  clear e9
  clear z0 z1 z2 z3 z4 z5 z6 f0 f1 f2 f3 f4 f5 f6
  obtain ⟨k0,k1,k2,k3,k4,k5,k6⟩:=cb7 h8
  clear h8
  rw [← HPP.out]
  exact bodyPost_ret (v:=badV 0 2) (by simp [badV,results,Tryz.results34,go_sem,k0,k1,k2,k3,k4,k5,k6]) rfl (agBad HBAD.out HG9)
 have d1:decide (20000<(x.size:Int))=false:=decide_eq_false (by omega)
 by_cases hx2:20000<(t.size:Int)-O+x.size
 case pos =>
  have d2:decide (20000<(t.size:Int)-O+x.size)=true:=decide_eq_true hx2
  have HBAD:=hid (show R=.bad 0 2 by rw [← HR.out,replM_2 HNO.out hx2,if_pos (by simp)])
  obtain ⟨z0,z1,z2,z3,z4,z5,z6⟩:=cb7 H8.out
  obtain ⟨f0,f1,f2,f3,f4,f5,f6⟩:=fb7 H8.out
  go_wp2_with fail
  obtain ⟨w9,e9,h8,HG9⟩:=store7z H8.out HG.out hB8
  rw [e9]
  clear e9
  clear z0 z1 z2 z3 z4 z5 z6 f0 f1 f2 f3 f4 f5 f6
  obtain ⟨k0,k1,k2,k3,k4,k5,k6⟩:=cb7 h8
  clear h8
  rw [← HPP.out]
  exact bodyPost_ret (v:=badV 0 2) (by simp [badV,results,Tryz.results34,go_sem,k0,k1,k2,k3,k4,k5,k6]) rfl (agBad HBAD.out HG9)
 have d2:decide (20000<(t.size:Int)-O+x.size)=false:=decide_eq_false hx2
 have hre:=replM_0 HNO.out hx2
 have hsz2:(t.extract 0 A.toNat++x++t.extract (A+O).toNat t.size).size≤20000:=by
  simp only [ByteArray.size_append,ByteArray.size_extract]
  omega
 replace HR:=hid (show agRE ms t (t.extract 0 A.toNat++x++t.extract (A+O).toNat t.size) A.toNat x (G t.data.toList).1 T (G (t.extract 0 A.toNat++x++t.extract (A+O).toNat t.size).data.toList).1 (F (t.extract 0 A.toNat++x++t.extract (A+O).toNat t.size)).1 (F (t.extract 0 A.toNat++x++t.extract (A+O).toNat t.size)).2.1 (F (t.extract 0 A.toNat++x++t.extract (A+O).toNat t.size)).2.2.1 (F (t.extract 0 A.toNat++x++t.extract (A+O).toNat t.size)).2.2.2=R by
  rw [← HR.out,hre,if_neg (by simp)])
 have HSZ2:=hid hsz2
 have hw4:IntKind.i64.wrap (A+O)=A+O:=xI _ (by have:=HTS.out; omega)
 have b0:0≤A:=hA1.1
 have b1:A≤t.size:=hA1.2
 have b4:0≤A+O:=by omega
 have b3:A+O≤t.size:=by omega
 clear hre hsz2
 go_upto_region 11 with (fail)
 obtain ⟨s2,hs2⟩:∃ s,t.extract 0 A.toNat++x++t.extract (A+O).toNat t.size=s:=⟨_,rfl⟩
 have HS2:=hid hs2
 rw [hs2] at HR HSZ2
 clear hs2
 go_cut [17] (fun v wx=>v=.string s2∧Hid (w6.grownBy wx none))
 case first =>
  go_region
  all_goals (go_wp2_with fail; go_meet)
  all_goals exact ⟨by rw [← HS2.out],hid (by repeat (first | exact grow_self _ | apply grow_drew))⟩
 case rest =>
 obtain ⟨rfl,HGC⟩:=hcut
 obtain ⟨w7,rfl⟩:∃ v:World,v=wc:=⟨_,rfl⟩
 replace H7:=hid (grow_new HGC.out H7.out)
 replace H8:=hid (grow_new HGC.out H8.out)
 replace HG:=hid (xT HG.out HGC.out)
 obtain ⟨a,rfl⟩:∃ a:Nat,A=a:=⟨A.toNat,by omega⟩
 clear HGC HS2 e0 e1 e2 hw1 hw2 hw3 hw4 d1 d2 b0 b3 b4 hA1 hO1 hx2 HNO
 have HSP2:=hid (HSP.out s2 w7 HSZ2.out HG.out)
 have HF2:=hid (HF.out s2)
 unfold SplitOfPost at HSP2
 replace HR:Hid (agRE ms t s2 a x (G t.data.toList).1 T (G s2.data.toList).1 (F s2).1 (F s2).2.1 (F s2).2.2.1 (F s2).2.2.2=R):=HR
 generalize F s2=f2 at HR HSP2 HF2
 obtain ⟨r3,r4,r5,r6⟩:=f2
 replace HSP2:Hid (Calls Tryz.prog 27 #[.slice av Nm cap,.string s2] w7 fun e w'=>∃ v,e=.returned (.tuple #[v,.string r4,.int .i64 (r5:Nat),.int .i64 (r6:Nat)])∧w'.ownsRow w7.heap.size 66 3 v r3.length (tkCells r3)∧w7.grownBy w' none):=HSP2
 replace HR:Hid (agRE ms t s2 a x (G t.data.toList).1 T (G s2.data.toList).1 r3 r4 r5 r6=R):=HR
 replace HF2:Hid (r6=0→SpB ms s2 (G s2.data.toList).1 r3):=HF2
 have hb8:=xL H8.out
 clear HSP HF
 go_wp2_with fail
 refine HSP2.out.mono ?_
 rintro e w8 ⟨v2,rfl,own2,g8⟩
 replace H7:=hid (grow_new g8 H7.out)
 replace H8:=hid (grow_new g8 H8.out)
 replace HG:=hid (xT HG.out g8)
 have HT2:=hid (tkAt_own own2 rfl)
 obtain ⟨a4,n4,hv2⟩:=own_shape own2
 subst hv2
 have HGB:=hid (fun g o (h:a4=some ⟨g,o,none⟩)=>show B8<g from by
  subst h
  have:=(yob own2 g rfl).1
  omega)
 have HGT:=hid (fun g o (h:a4=some ⟨g,o,none⟩)=>show g≠w8.heap.size from by
  subst h
  obtain ⟨_,c,hc⟩:=yob own2 g rfl
  have:=xL hc
  omega)
 obtain ⟨m5,hm5⟩:∃ n,r3.length=n:=⟨_,rfl⟩
 have HM5:=hid hm5
 rw [hm5] at HT2 ⊢
 clear hm5 own2 g8 HSP2 hb8
 by_cases h0:r6=0
 case neg =>
  have h1:((r6:Int) == 0)=false:=by simpa using h0
  have HBAD:=hid (show R=.bad r5 r6 by rw [← HR.out,agRE,if_pos h0])
  obtain ⟨z0,z1,z2,z3,z4,z5,z6⟩:=cb7 H8.out
  obtain ⟨f0,f1,f2,f3,f4,f5,f6⟩:=fb7 H8.out
  go_wp2_with fail
  obtain ⟨w9,e9,h8,HG9⟩:=store7z H8.out HG.out hB8
  rw [e9]
  clear e9
  clear z0 z1 z2 z3 z4 z5 z6 f0 f1 f2 f3 f4 f5 f6
  obtain ⟨k0,k1,k2,k3,k4,k5,k6⟩:=cb7 h8
  clear h8
  rw [← HPP.out]
  exact bodyPost_ret (v:=badV (r5:Nat) (r6:Nat)) (by simp [badV,results,Tryz.results34,go_sem,k0,k1,k2,k3,k4,k5,k6]) rfl (agBad HBAD.out HG9)
 subst h0
 replace HR:=hid (show agRN ms t s2 a x (G t.data.toList).1 (G s2.data.toList).1 T r3 r4 (aheadL ms a (G t.data.toList).1 0 0).1 (aheadL ms a (G t.data.toList).1 0 0).2 (meetRN ms t s2 a x (G t.data.toList).1 (G s2.data.toList).1)=R by rw [← HR.out,agRE,if_neg (show ¬ (0:Nat)≠0 by simp)])
 have HAO:=hid (And.intro (And.intro HG.out hB8) (And.intro hB78 (And.intro H7.out H8.out)))
 go_upto_region 16 with (fail)
 have HC8:=hid (show AgO w B7 B8 w8.heap.size #[.int .i64 (a:Nat),.int .i64 O,.string x] #[.slice none 0 0,.string ⟨#[]⟩,.int .i64 0,.int .i64 0,.int .i64 0,.int .i64 0,.int .i64 0] (.slice a4 m5 n4) (.string r4) 0 0 0 0 0 (w8.alloc (.cells #[.slice a4 m5 n4,.string r4,.int .i64 0,.int .i64 0,.int .i64 0,.int .i64 0,.int .i64 0] 71)) from
  ⟨yga HG.out _,HG.out.size,by have h1:=xL H7.out; have h2:=xL H8.out; omega,grow_new (xG _ _ none) H7.out,grow_new (xG _ _ none) H8.out,xN w8 _⟩)
 replace HT2:=hid (HT2.out.grow (xG w8 (.cells #[.slice a4 m5 n4,.string r4,.int .i64 0,.int .i64 0,.int .i64 0,.int .i64 0,.int .i64 0] 71) none))
 generalize w8.alloc _=w9 at HC8 HT2 ⊢
 generalize w8.heap.size=B9 at HC8 HGT ⊢
 clear HG H7 H8 HAO
 have HPC1:=hid (HPC.out t w9 HTS.out HC8.out.gr)
 have hb9:B9<w9.heap.size:=xL HC8.out.b9
 have HPC2:=hid (fun (W:World) (g:w.grownBy W none)=>HPC.out s2 W HSZ2.out g)
 have HBT:=hid (HF1.out (by simp))
 have HBU:=hid (HF2.out (by simp))
 generalize G t.data.toList=g1 at HR HPC1 HBT
 generalize G s2.data.toList=g2 at HR HPC2 HBU
 obtain ⟨P,pi,pe⟩:=g1
 obtain ⟨Q,qi,qe⟩:=g2
 replace HPC1:Hid (Calls Tryz.prog 26 #[.slice av Nm cap,.string t] w9 fun e w'=>∃ v,e=.returned (.tuple #[v,.int .i64 (pi:Nat),.bool (decide (pe=0))])∧w'.ownsRow w9.heap.size 43 4 v P.length (pcCells P)∧w9.grownBy w' none):=HPC1
 replace HPC2:Hid (∀ W,w.grownBy W none→Calls Tryz.prog 26 #[.slice av Nm cap,.string s2] W fun e w'=>∃ v,e=.returned (.tuple #[v,.int .i64 (qi:Nat),.bool (decide (qe=0))])∧w'.ownsRow W.heap.size 43 4 v Q.length (pcCells Q)∧W.grownBy w' none):=HPC2
 replace HR:Hid (agRN ms t s2 a x P Q T r3 r4 (aheadL ms a P 0 0).1 (aheadL ms a P 0 0).2 (meetRN ms t s2 a x P Q)=R):=HR
 replace HBT:Hid (SpB ms t P q3):=HBT
 replace HBU:Hid (SpB ms s2 Q r3):=HBU
 clear HPC HF1 HF2
 go_wp2_with fail
 refine HPC1.out.mono ?_
 rintro e w10 ⟨v1,rfl,own1,g10⟩
 replace HC8:=hid (HC8.out.grow g10)
 replace HT2:=hid (HT2.out.grow g10)
 have HP1:=hid (pcAt_own own1 rfl)
 obtain ⟨pa,pc,hv1⟩:=own_shape own1
 subst hv1
 have HGP:=hid (fun g o (h:pa=some ⟨g,o,none⟩)=>show g≠B9 from by
  subst h
  have:=(yob own1 g rfl).1
  omega)
 obtain ⟨mP,hmP⟩:∃ n,P.length=n:=⟨_,rfl⟩
 have HMP:=hid hmP
 rw [hmP] at HP1 ⊢
 have hmPl:mP≤20000:=by have:=HBT.out.pl; have:=HTS.out; omega
 have hb9b:B9<w10.heap.size:=xL HC8.out.b9
 clear own1 g10 HPC1 hmP hb9
 go_wp2_with fail
 refine (HPC2.out w10 HC8.out.gr).mono ?_
 rintro e w11 ⟨v3,rfl,own1,g11⟩
 replace HC8:=hid (HC8.out.grow g11)
 replace HT2:=hid (HT2.out.grow g11)
 replace HP1:=hid (HP1.out.grow g11)
 have HP2:=hid (pcAt_own own1 rfl)
 obtain ⟨qa,qc,hv1⟩:=own_shape own1
 subst hv1
 have HGQ:=hid (fun g o (h:qa=some ⟨g,o,none⟩)=>show g≠B9 from by
  subst h
  have:=(yob own1 g rfl).1
  omega)
 obtain ⟨mQ,hmQ⟩:∃ n,Q.length=n:=⟨_,rfl⟩
 have HMQ:=hid hmQ
 rw [hmQ] at HP2 ⊢
 have hmQl:mQ≤20000:=by have:=HBU.out.pl; have:=HSZ2.out; omega
 clear own1 g11 HPC2 hmQ hb9b
 obtain ⟨FF,FK,hr1⟩:∃ f k,aheadL ms a P 0 0=(f,k):=⟨_,_,rfl⟩
 have HAH:=hid hr1
 unfold meetRN at HR
 rw [hr1] at HR
 replace HR:Hid (agRN ms t s2 a x P Q T r3 r4 FF FK (meetR t.size s2.size FF (a+x.size) (t.size::atsL P) (atsL Q++[s2.size]))=R):=HR
 clear hr1
 go_upto_block 1 with (fail)
 go_cut [] (fun wx=>Hid (AgO w B7 B8 B9 #[.int .i64 (a:Nat),.int .i64 O,.string x] #[.slice none 0 0,.string ⟨#[]⟩,.int .i64 0,.int .i64 0,.int .i64 0,.int .i64 0,.int .i64 0] (.slice a4 m5 n4) (.string r4) FK 0 FF 0 0 wx)∧Hid (PcAt wx (.slice pa mP pc) P)∧Hid (PcAt wx (.slice qa mQ qc) Q)∧Hid (TkAt wx (.slice a4 m5 n4) r3))
 case first =>
  as_aux_lemma =>
   go_wp2_with fail
   go_loopw [160] (fun iv wr=>∃ (j f k:Nat),j≤mP∧k≤j∧f≤200000∧iv=.int .i64 j∧Hid (aheadL ms a (P.drop j) f k=(FF,FK))∧Hid (AgO w B7 B8 B9 #[.int .i64 (a:Nat),.int .i64 O,.string x] #[.slice none 0 0,.string ⟨#[]⟩,.int .i64 0,.int .i64 0,.int .i64 0,.int .i64 0,.int .i64 0] (.slice a4 m5 n4) (.string r4) k 0 f 0 0 wr)∧Hid (PcAt wr (.slice pa mP pc) P)∧Hid (PcAt wr (.slice qa mQ qc) Q)∧Hid (TkAt wr (.slice a4 m5 n4) r3)) (fun iv _=>mP-(intOf iv).toNat)
   case atStart=>exact ⟨0,0,0,Nat.zero_le _,Nat.le_refl _,Nat.zero_le _,rfl,hid (by simpa using HAH.out),HC8,HP1,HP2,HT2⟩
   case round =>
    obtain ⟨j,f,k,hj,hk,hf,rfl,HD,HC,KP,KQ,KT⟩:=hrel
    by_cases hlt:j<mP
    · have hltT:j<P.length:=by rw [HMP.out]; exact hlt
      obtain ⟨pa1,pc1,he,hcl⟩:=id KP.out
      simp only [Value.slice.injEq] at he
      obtain ⟨he1,he2,he3⟩:=he
      obtain ⟨g,o,e1,c1,c2,c3,c4⟩:=pc_elem hcl j hltT
      rw [← he1] at e1
      clear he1 he2 he3 hcl
      subst e1
      have HD2:=hid ((aheadL_drop ms a P j f k hltT).symm.trans HD.out)
      have hx:=HBT.out.pcs P[j] (List.getElem_mem hltT)
      generalize P[j]=y at c1 c2 c3 c4 HD2 hx
      obtain ⟨ym,ya,yl,ys⟩:=y
      simp only at c1 c2 c3 c4 HD2 hx
      obtain ⟨hy1,hy2,hy3,hy4⟩:=hx
      have htl:=HTS.out
      have i1:(0:Int)≤(j:Int):=by omega
      have i2:(j:Int)<(mP:Int):=by omega
      have hw1:IntKind.i64.wrap ((ya:Int)+ys)=(ya:Int)+ys:=xI _ (by omega)
      obtain ⟨e,he⟩:∃ e,ya+yl=e:=⟨_,rfl⟩
      have hel:e≤200000:=by omega
      have hw2:IntKind.i64.wrap ((ya:Int)+yl)=(e:Int):=(xI _ (by omega)).trans (by omega)
      have HE:=hid he
      clear htl he
      go_upto_region 21 with (fail)
      have hbx:B9<wr.heap.size:=xL HC.out.b9
      have HXB:=hid (xN wr (.cells #[.int .i64 (ym:Nat),.int .i64 (ya:Nat),.int .i64 (yl:Nat),.int .i64 (ys:Nat)] 43))
      have gx:=xG wr (.cells #[.int .i64 (ym:Nat),.int .i64 (ya:Nat),.int .i64 (yl:Nat),.int .i64 (ys:Nat)] 43) none
      have HXC:=hid (HC.out.grow gx)
      replace KP:=hid (KP.out.grow gx)
      replace KQ:=hid (KQ.out.grow gx)
      replace KT:=hid (KT.out.grow gx)
      clear gx
      generalize wr.alloc (.cells #[.int .i64 (ym:Nat),.int .i64 (ya:Nat),.int .i64 (yl:Nat),.int .i64 (ys:Nat)] 43)=wx at HXB HXC KP KQ KT ⊢
      generalize wr.heap.size=bx at HXB hbx ⊢
      have y1:=xC HXB.out 1
      have y2:=xC HXB.out 2
      have y3:=xC HXB.out 3
      have e0:=xC HXC.out.b7 0
      have x4:=xC HXC.out.b9 4
      simp only [xGe,xGz,xGs] at y1 y2 y3 e0 x4
      have z4:=yfb HXC.out.b9 4
      clear c1 c2 c3 c4 i1 i2
      by_cases h1:a<ya+ys
      · have q1:decide ((a:Int)<(ya:Int)+ys)=true:=decide_eq_true (by omega)
        have HZ:=hid (show (f,k)=(FF,FK) by rw [← HD2.out,if_pos h1])
        clear HD HD2 h1
        go_wp2_with fail
        go_meet
        have hz:=HZ.out
        simp only [Prod.mk.injEq] at hz
        obtain ⟨rfl,rfl⟩:=hz
        exact ⟨HXC,KP,KQ,KT⟩
      · have q1:decide ((a:Int)<(ya:Int)+ys)=false:=decide_eq_false (by omega)
        have HD3:=hid (show aheadL ms a (P.drop (j+1)) e (if (kindM ms ym).toList.isEmpty=true then k else k+1)=(FF,FK) by rw [← HD2.out,if_neg h1,HE.out])
        clear HD HD2 h1 HE
        go_upto_region 23 with (fail)
        have HX5:=hid (HXC.out.set (fm':=e) 4 (.int .i64 (e:Nat)) rfl)
        have HB5:=hid ((Below.heap_setCell wx ⟨B9,4,none⟩ (.int .i64 (e:Nat)) bx (by simp; omega)).trans HXB.out)
        replace KP:=hid (pcAt_set KP.out HGP.out 4 (.int .i64 (e:Nat)))
        replace KQ:=hid (pcAt_set KQ.out HGQ.out 4 (.int .i64 (e:Nat)))
        replace KT:=hid (tkAt_set KT.out HGT.out 4 (.int .i64 (e:Nat)))
        generalize wx.setCell ⟨B9,4,none⟩ (.int .i64 (e:Nat))=w5 at HX5 HB5 KP KQ KT ⊢
        clear HXB HXC HC y1 y2 y3 e0 x4 z4 hw1 hw2 q1
        have y0:=xC HB5.out 0
        have z2:=xC HX5.out.b9 2
        simp only [xGe,xGz,xGs] at y0 z2
        have z3:=yfb HX5.out.b9 2
        rcases HA.out with h0 | ⟨b,off,hav,hMA⟩
        · exfalso
          rw [h0] at hy4
          simp at hy4
        subst hav
        have m0:=ycg (MrkAt.at_ ms b off hMA ym hy4).1 HX5.out.gr
        have hkm:kindM ms ym=ms[ym].kind:=by simp [kindM,List.getElem?_eq_getElem hy4]
        rw [← hkm] at m0
        generalize kindM ms ym=kd at m0 HD3
        have hym:(ym:Int)<(Nm:Int):=by rw [← HN.out]; omega
        have hw3:IntKind.i64.wrap ((k:Int)+1)=((k+1:Nat):Int):=(xI _ (by omega)).trans (by omega)
        clear hkm hMA hy4
        by_cases hkd:kd.toList.isEmpty=true
        · have HZ:=hid (show aheadL ms a (P.drop (j+1)) e k=(FF,FK) by rw [← HD3.out,if_pos hkd])
          clear HD3
          go_wp2_with fail
          go_roundw
          case measure=>simp [intOf]; omega
          case rel=>exact ⟨j+1,e,k,by omega,by omega,hel,by go_num,HZ,HX5,KP,KQ,KT⟩
        · replace hkd:kd.toList.isEmpty=false:=by simpa using hkd
          have HZ:=hid (show aheadL ms a (P.drop (j+1)) e (k+1)=(FF,FK) by rw [← HD3.out,if_neg (by rw [hkd]; decide)])
          clear HD3
          go_wp2_with fail
          go_roundw
          case measure=>simp [intOf]; omega
          case rel=>exact ⟨j+1,e,k+1,by omega,by omega,hel,by go_num,HZ,hid (HX5.out.set (ah':=k+1) 2 (.int .i64 ((k+1:Nat):Int)) rfl),hid (pcAt_set KP.out HGP.out 2 _),hid (pcAt_set KQ.out HGQ.out 2 _),hid (tkAt_set KT.out HGT.out 2 _)⟩
    · obtain rfl:j=mP:=by omega
      have HZ:=hid (show (f,k)=(FF,FK) by rw [← HD.out,List.drop_eq_nil_of_le (by rw [HMP.out]; exact Nat.le_refl _)]; rfl)
      clear HD
      go_wp2_with fail
      go_meet
      have hz:=HZ.out
      simp only [Prod.mk.injEq] at hz
      obtain ⟨rfl,rfl⟩:=hz
      exact ⟨HC,KP,KQ,KT⟩
 case rest =>
 obtain ⟨HC1,KP,KQ,KT⟩:=hcut
 obtain ⟨w12,rfl⟩:∃ v:World,v=wc:=⟨_,rfl⟩
 clear HC8 HP1 HP2 HT2 HAH
 obtain ⟨i3,hi,hz0,hz1,hz2⟩:=info_parts info3
 have HI:=hid hi
 have HZ0:=hid hz0
 have HZ1:=hid hz1
 have HZ2:=hid hz2
 clear hi hz0 hz1 hz2
 have hts:=HTS.out
 have hts2:=HSZ2.out
 go_upto_region 27 with (fail)
 have HO0:=hid (show (w12.alloc (.cells #[.int .i64 (t.size:Nat)] 3)).ownsRow w12.heap.size 3 1 (.slice (some ⟨w12.heap.size,0,none⟩) 1 1) 1 (intC (natI [t.size])) from World.ownsRow_lit w12 #[.int .i64 (t.size:Nat)] 1 (Nat.le_refl _) (by unfold maxLen; omega) rfl)
 have HG0:=hid (xG w12 (.cells #[.int .i64 (t.size:Nat)] 3) none)
 generalize w12.alloc (.cells #[.int .i64 (t.size:Nat)] 3)=w13 at HO0 HG0 ⊢
 generalize hb12:w12.heap.size=b12
 go_upto_block 3 with (fail)
 go_cut [31] (fun sv wx=>∃ sa sc,sv=.slice sa (mP+1) sc∧Hid (wx.ownsRow w12.heap.size 3 1 (.slice sa (mP+1) sc) (mP+1) (intC (natI (t.size::atsL P))))∧Hid (w12.grownBy wx none))
 case first =>
  as_aux_lemma =>
   go_wp2_with fail
   go_loopw [31,195] (fun bv iv wr=>∃ (j:Nat) (acc:List Nat) (sa:Option Addr) (sc:Nat),j≤mP∧iv=.int .i64 j∧bv=.slice sa acc.length sc∧acc.length=j+1∧Hid (acc=t.size::atsL (P.take j))∧Hid (wr.ownsRow w12.heap.size 3 1 (.slice sa acc.length sc) acc.length (intC (natI acc)))∧Hid (w12.grownBy wr none)) (fun _ iv _=>mP-(intOf iv).toNat)
   case atStart=>exact ⟨0,[t.size],some ⟨b12,0,none⟩,1,Nat.zero_le _,rfl,rfl,rfl,hid rfl,hid (by rw [← hb12]; exact HO0.out),HG0⟩
   case round =>
    obtain ⟨j,acc,sa,sc,hj,rfl,rfl,hacc,HA2,HO,HGr⟩:=hrel
    have HAC:=hid hacc
    have hacl:acc.length≤1000000:=by omega
    clear hacc
    by_cases hlt:j<mP
    · have hltT:j<P.length:=by rw [HMP.out]; exact hlt
      obtain ⟨pa1,pc1,he,hcl⟩:=id (KP.out.grow HGr.out)
      simp only [Value.slice.injEq] at he
      obtain ⟨he1,he2,he3⟩:=he
      obtain ⟨g,o,e1,c1,c2,c3,c4⟩:=pc_elem hcl j hltT
      rw [← he1] at e1
      clear he1 he2 he3 hcl
      subst e1
      have HT2:=hid (show atsL (P.take (j+1))=atsL (P.take j)++[P[j].2.1] by
       unfold atsL
       rw [List.take_add_one,List.map_append,List.getElem?_eq_getElem hltT]
       rfl)
      have hx:=HBT.out.pcs P[j] (List.getElem_mem hltT)
      generalize P[j]=y at c1 c2 c3 c4 HT2 hx
      obtain ⟨xm,xa,xl,xs⟩:=y
      simp only at c1 c2 c3 c4 HT2 hx
      have hx1:=hx.1
      have i1:(0:Int)≤(j:Int):=by omega
      have i2:(j:Int)<(mP:Int):=by omega
      have hw1:w12.heap.size≤wr.heap.size:=HGr.out.size
      clear hx
      go_upto_region 30 with (fail)
      have HXB:=hid (xN wr (.cells #[.int .i64 (xm:Nat),.int .i64 (xa:Nat),.int .i64 (xl:Nat),.int .i64 (xs:Nat)] 43))
      have HXG:=hid (xG wr (.cells #[.int .i64 (xm:Nat),.int .i64 (xa:Nat),.int .i64 (xl:Nat),.int .i64 (xs:Nat)] 43) none)
      generalize hwx:wr.alloc (.cells #[.int .i64 (xm:Nat),.int .i64 (xa:Nat),.int .i64 (xl:Nat),.int .i64 (xs:Nat)] 43)=wx at HXB HXG ⊢
      have hwb:w12.heap.size≤wx.heap.size:=by have:=HXG.out.size; omega
      clear hwx
      generalize wr.heap.size=bx at HXB ⊢
      have b1:=xC HXB.out 1
      simp only [xGe,xGz,xGs] at b1
      have HO2:=hid (own_grownN HO.out HXG.out (fun r hr=>by cases hr))
      clear c1 c2 c3 c4 i1 i2 HO
      go_wp2_with (at_builtin; refine wpList_append_lies _ rfl _ _ 22 rfl w12.heap.size 3 i3 (.int .i64 0) 1 8 Tryz.underlying22 HI.out HZ0.out HZ1.out HZ2.out rfl (by omega) _ _ _ rfl (own_grownN HO2.out (xG wx _ none) (fun r hr=>by cases hr)) ⟨wx.heap.size,0,none⟩ 1 1 [.int .i64 (xa:Nat)] rfl rfl (cells_new _ _ _) (by simp [Value.oneCell']) (by omega) (by unfold maxLen; omega) (by omega) (by simp; omega) (wx.heap.size+1) (by simp) ?_; intro gg cap2 w6 hown2 hgrow2 hat2 hlt2; have HG2:=hid hgrow2; have HO3:=hid hown2; clear hgrow2 hown2 hat2)
      go_roundw
      case measure=>simp [intOf]; omega
      case rel =>
       have e:(acc++[xa]).length=acc.length+1:=by simp
       have hown:w6.ownsRow w12.heap.size 3 1 (.slice (some ⟨gg,0,none⟩) (acc.length+1) cap2) (acc.length+1) (intC (natI (acc++[xa]))):=by
        have:=HO3.out
        simpa [natI_append,natI,intC] using this
       exact ⟨j+1,acc++[xa],some ⟨gg,0,none⟩,cap2,by omega,by go_num,by rw [e],by rw [e,HAC.out],hid (by rw [HT2.out,HA2.out]; rfl),by rw [e]; exact hid hown,hid (grow_row (yga (xT HGr.out HXG.out) _) HG2.out (fun r hr=>by have:=(yob HO2.out r hr).1; omega))⟩
    · obtain rfl:j=mP:=by omega
      have HAL:=hid (show acc=t.size::atsL P by rw [HA2.out,List.take_of_length_le (by rw [HMP.out]; exact Nat.le_refl _)])
      go_wp2_with fail
      go_meet
      have hal:=HAL.out
      have hacc2:=HAC.out
      subst hal
      rw [hacc2] at HO ⊢
      exact ⟨sa,sc,rfl,HO,HGr⟩
 case rest =>
 obtain ⟨ja,jc,rfl,HO1,HGr1⟩:=hcut
 obtain ⟨w14,rfl⟩:∃ v:World,v=wc:=⟨_,rfl⟩
 clear HO0 HG0 hb12
 have HS1:=hid (show Ints w14 (.slice ja (mP+1) jc) (natI (t.size::atsL P)) from Ints.of_own HO1.out)
 have HC2:=hid (HC1.out.grow HGr1.out)
 have KP2:=hid (KP.out.grow HGr1.out)
 have KQ2:=hid (KQ.out.grow HGr1.out)
 have KT2:=hid (KT.out.grow HGr1.out)
 clear HC1 KP KQ KT HO1 HGr1
 go_upto_region 33 with (fail)
 have HO0:=hid (show (w14.alloc (.cells #[] 3)).ownsRow w14.heap.size 3 1 (.slice (some ⟨w14.heap.size,0,none⟩) 0 0) 0 (intC (natI [])) from World.ownsRow_lit w14 #[] 0 (Nat.le_refl _) (by unfold maxLen; omega) rfl)
 have HG0:=hid (xG w14 (.cells #[] 3) none)
 generalize w14.alloc (.cells #[] 3)=w15 at HO0 HG0 ⊢
 generalize hb14:w14.heap.size=b14
 go_upto_block 5 with (fail)
 go_cut [34] (fun sv wx=>∃ sa sc,sv=.slice sa mQ sc∧Hid (wx.ownsRow w14.heap.size 3 1 (.slice sa mQ sc) mQ (intC (natI (atsL Q))))∧Hid (w14.grownBy wx none))
 case first =>
  as_aux_lemma =>
   go_wp2_with fail
   go_loopw [34,208] (fun bv iv wr=>∃ (j:Nat) (acc:List Nat) (sa:Option Addr) (sc:Nat),j≤mQ∧iv=.int .i64 j∧bv=.slice sa acc.length sc∧acc.length=j+0∧Hid (acc=atsL (Q.take j))∧Hid (wr.ownsRow w14.heap.size 3 1 (.slice sa acc.length sc) acc.length (intC (natI acc)))∧Hid (w14.grownBy wr none)) (fun _ iv _=>mQ-(intOf iv).toNat)
   case atStart=>exact ⟨0,[],some ⟨b14,0,none⟩,0,Nat.zero_le _,rfl,rfl,rfl,hid rfl,hid (by rw [← hb14]; exact HO0.out),HG0⟩
   case round =>
    obtain ⟨j,acc,sa,sc,hj,rfl,rfl,hacc,HA2,HO,HGr⟩:=hrel
    have HAC:=hid hacc
    have hacl:acc.length≤1000000:=by omega
    clear hacc
    by_cases hlt:j<mQ
    · have hltT:j<Q.length:=by rw [HMQ.out]; exact hlt
      obtain ⟨pa1,pc1,he,hcl⟩:=id (KQ2.out.grow HGr.out)
      simp only [Value.slice.injEq] at he
      obtain ⟨he1,he2,he3⟩:=he
      obtain ⟨g,o,e1,c1,c2,c3,c4⟩:=pc_elem hcl j hltT
      rw [← he1] at e1
      clear he1 he2 he3 hcl
      subst e1
      have HT2:=hid (show atsL (Q.take (j+1))=atsL (Q.take j)++[Q[j].2.1] by
       unfold atsL
       rw [List.take_add_one,List.map_append,List.getElem?_eq_getElem hltT]
       rfl)
      have hx:=HBU.out.pcs Q[j] (List.getElem_mem hltT)
      generalize Q[j]=y at c1 c2 c3 c4 HT2 hx
      obtain ⟨xm,xa,xl,xs⟩:=y
      simp only at c1 c2 c3 c4 HT2 hx
      have hx1:=hx.1
      have i1:(0:Int)≤(j:Int):=by omega
      have i2:(j:Int)<(mQ:Int):=by omega
      have hw1:w14.heap.size≤wr.heap.size:=HGr.out.size
      clear hx
      go_upto_region 36 with (fail)
      have HXB:=hid (xN wr (.cells #[.int .i64 (xm:Nat),.int .i64 (xa:Nat),.int .i64 (xl:Nat),.int .i64 (xs:Nat)] 43))
      have HXG:=hid (xG wr (.cells #[.int .i64 (xm:Nat),.int .i64 (xa:Nat),.int .i64 (xl:Nat),.int .i64 (xs:Nat)] 43) none)
      generalize hwx:wr.alloc (.cells #[.int .i64 (xm:Nat),.int .i64 (xa:Nat),.int .i64 (xl:Nat),.int .i64 (xs:Nat)] 43)=wx at HXB HXG ⊢
      have hwb:w14.heap.size≤wx.heap.size:=by have:=HXG.out.size; omega
      clear hwx
      generalize wr.heap.size=bx at HXB ⊢
      have b1:=xC HXB.out 1
      simp only [xGe,xGz,xGs] at b1
      have HO2:=hid (own_grownN HO.out HXG.out (fun r hr=>by cases hr))
      clear c1 c2 c3 c4 i1 i2 HO
      go_wp2_with (at_builtin; refine wpList_append_lies _ rfl _ _ 22 rfl w14.heap.size 3 i3 (.int .i64 0) 1 8 Tryz.underlying22 HI.out HZ0.out HZ1.out HZ2.out rfl (by omega) _ _ _ rfl (own_grownN HO2.out (xG wx _ none) (fun r hr=>by cases hr)) ⟨wx.heap.size,0,none⟩ 1 1 [.int .i64 (xa:Nat)] rfl rfl (cells_new _ _ _) (by simp [Value.oneCell']) (by omega) (by unfold maxLen; omega) (by omega) (by simp; omega) (wx.heap.size+1) (by simp) ?_; intro gg cap2 w6 hown2 hgrow2 hat2 hlt2; have HG2:=hid hgrow2; have HO3:=hid hown2; clear hgrow2 hown2 hat2)
      go_roundw
      case measure=>simp [intOf]; omega
      case rel =>
       have e:(acc++[xa]).length=acc.length+1:=by simp
       have hown:w6.ownsRow w14.heap.size 3 1 (.slice (some ⟨gg,0,none⟩) (acc.length+1) cap2) (acc.length+1) (intC (natI (acc++[xa]))):=by
        have:=HO3.out
        simpa [natI_append,natI,intC] using this
       exact ⟨j+1,acc++[xa],some ⟨gg,0,none⟩,cap2,by omega,by go_num,by rw [e],by rw [e,HAC.out],hid (by rw [HT2.out,HA2.out]),by rw [e]; exact hid hown,hid (grow_row (yga (xT HGr.out HXG.out) _) HG2.out (fun r hr=>by have:=(yob HO2.out r hr).1; omega))⟩
    · obtain rfl:j=mQ:=by omega
      have HAL:=hid (show acc=atsL Q by rw [HA2.out,List.take_of_length_le (by rw [HMQ.out]; exact Nat.le_refl _)])
      go_wp2_with fail
      go_meet
      have hal:=HAL.out
      have hacc2:=HAC.out
      subst hal
      rw [hacc2] at HO ⊢
      exact ⟨sa,sc,rfl,HO,HGr⟩
 case rest =>
 obtain ⟨ka,kc,rfl,HO2,HGr2⟩:=hcut
 obtain ⟨w16,rfl⟩:∃ v:World,v=wc:=⟨_,rfl⟩
 clear HO0 HG0 hb14
 have HMR:=hid (show (atsL Q).length=mQ by rw [atsL,List.length_map]; exact HMQ.out)
 have HLP:=hid (show (atsL P).length=mP by rw [atsL,List.length_map]; exact HMP.out)
 have HB2:=hid (show ∀ b,b∈atsL Q++[s2.size]→b≤s2.size from fun b hb=>by
  rcases List.mem_append.1 hb with hb | hb
  · obtain ⟨y,hy,rfl⟩:=List.mem_map.1 hb
    have:=(HBU.out.pcs y hy).1
    omega
  · simp at hb; omega)
 have HO3:=hid (own_grownN HO2.out (xG w16 (.cells #[.int .i64 (s2.size:Nat)] 3) none) (fun r hr=>by cases hr))
 have hw14:w14.heap.size≤w16.heap.size:=HGr2.out.size
 clear HO2
 go_upto_block 7 with (at_builtin; refine wpList_append_lies _ rfl _ _ 22 rfl w14.heap.size 3 i3 (.int .i64 0) 1 8 Tryz.underlying22 HI.out HZ0.out HZ1.out HZ2.out rfl (by omega) _ _ _ rfl HO3.out ⟨w16.heap.size,0,none⟩ 1 1 [.int .i64 (s2.size:Nat)] rfl rfl (cells_new _ _ _) (by simp [Value.oneCell']) (by omega) (by unfold maxLen; omega) (by omega) (by simp; omega) (w16.heap.size+1) (by simp) ?_; intro gg cap2 w17 hown2 hgrow2 hat2 hlt2; have HG2:=hid (grow_row (yga HGr2.out _) hgrow2 (fun r hr=>by have:=(yob HO3.out r hr).1; omega)); have HIK:=hid (show Ints w17 (.slice (some ⟨gg,0,none⟩) (mQ+1) cap2) (natI (atsL Q++[s2.size])) from Ints.of_own (base:=w14.heap.size) (n:=mQ+1) (by have:=hown2; simpa [natI_append,natI,intC] using this)); clear hgrow2 hown2 hat2 hlt2)
 replace HS1:=hid (HS1.out.grow HG2.out)
 replace HC2:=hid (HC2.out.grow HG2.out)
 replace KP2:=hid (KP2.out.grow HG2.out)
 replace KQ2:=hid (KQ2.out.grow HG2.out)
 replace KT2:=hid (KT2.out.grow HG2.out)
 clear HG2 HO3 HGr2 HI HZ0 HZ1 HZ2
 obtain ⟨TO,hTO⟩:∃ z,meetR t.size s2.size FF (a+x.size) (t.size::atsL P) (atsL Q++[s2.size])=z:=⟨_,rfl⟩
 have HTO:=hid hTO
 rw [hTO] at HR
 have HL1:=hid (show (t.size::atsL P).length=mP+1 by rw [List.length_cons,HLP.out])
 have HL2:=hid (show (atsL Q++[s2.size]).length=mQ+1 by rw [List.length_append,HMR.out]; rfl)
 clear hTO
 generalize t.size::atsL P=B1 at HS1 HTO HL1
 generalize atsL Q++[s2.size]=B2 at HIK HTO HL2 HB2
 go_cut [] (fun wx=>Hid (AgO w B7 B8 B9 #[.int .i64 (a:Nat),.int .i64 O,.string x] #[.slice none 0 0,.string ⟨#[]⟩,.int .i64 0,.int .i64 0,.int .i64 0,.int .i64 0,.int .i64 0] (.slice a4 m5 n4) (.string r4) FK 0 FF TO 0 wx)∧Hid (PcAt wx (.slice pa mP pc) P)∧Hid (PcAt wx (.slice qa mQ qc) Q)∧Hid (TkAt wx (.slice a4 m5 n4) r3))
 case first =>
  as_aux_lemma =>
   go_wp2_with fail
   go_loop [224] (fun iv=>∃ (j:Nat),j≤mQ+1∧iv=.int .i64 j∧Hid (meetR t.size s2.size FF (a+x.size) B1 (B2.drop j)=TO)) (fun iv=>mQ+1-(intOf iv).toNat)
   case atStart=>exact ⟨0,Nat.zero_le _,rfl,hid (by simpa using HTO.out)⟩
   case round =>
    obtain ⟨j,hj,rfl,HD⟩:=hrel
    by_cases hlt:j<mQ+1
    · have hltT:j<B2.length:=by rw [HL2.out]; exact hlt
      obtain ⟨ka1,kc1,he,hcl⟩:=HIK.out.elem
      simp only [Value.slice.injEq] at he
      obtain ⟨he1,he2,he3⟩:=he
      obtain ⟨g,o,e1,c1⟩:=hcl j (by rw [natI_len]; exact hltT)
      rw [← he1] at e1
      simp only [Option.some.injEq,Addr.mk.injEq,and_true] at e1
      obtain ⟨rfl,rfl⟩:=e1
      rw [Nat.zero_add] at c1
      have hget:(natI B2).getD j 0=((B2[j]:Nat):Int):=by simp [natI,hltT]
      rw [hget] at c1
      have HD2:=hid ((meetR_drop t.size s2.size FF (a+x.size) B1 B2 j hltT).symm.trans HD.out)
      have hy:=HB2.out B2[j] (List.getElem_mem hltT)
      clear he1 he2 he3 hcl hget HD
      generalize B2[j]=y at c1 HD2 hy
      have i1:(0:Int)≤(j:Int):=by omega
      have i2:(j:Int)<(mQ:Int)+1:=by omega
      have x4:=xC HC2.out.b9 4
      have x5:=xC HC2.out.b9 5
      have e0:=xC HC2.out.b7 0
      have e2:=xC HC2.out.b7 2
      simp only [xGe,xGz,xGs] at x4 x5 e0 e2
      have z5:=yfb HC2.out.b9 5
      have hax:(a:Int)≤20000:=by omega
      have hw1:IntKind.i64.wrap ((a:Int)+x.size)=(a:Int)+x.size:=xI _ (by omega)
      have hw2:IntKind.i64.wrap ((s2.size:Int)-y)=(s2.size:Int)-y:=xI _ (by omega)
      have hw3:IntKind.i64.wrap ((t.size:Int)-((s2.size:Int)-y))=(t.size:Int)-((s2.size:Int)-y):=xI _ (by omega)
      by_cases h1:FF≤y
      · have q1:decide ((FF:Int)≤(y:Int))=true:=decide_eq_true (by omega)
        by_cases h2:a+x.size≤y
        · have q2:decide ((a:Int)+x.size≤(y:Int))=true:=decide_eq_true (by omega)
          have HCt:=hid (containsB_any B1 ((t.size:Int)-((s2.size:Int)-y)) (.slice ja (mP+1) jc) _ (by rw [HL1.out]; omega) HS1.out)
          cases h3:starts B1 ((t.size:Int)-((s2.size:Int)-y)) with
          | true =>
           rw [h3] at HCt
           have HZ:=hid (show y=TO by rw [← HD2.out,if_pos ⟨h1,h2,h3⟩])
           clear HD2 h3
           go_wp2_with fail
           refine HCt.out.mono ?_
           rintro e w19 ⟨rfl,rfl⟩
           have HC3:=hid (HC2.out.set (tm':=y) 5 (.int .i64 (y:Nat)) rfl)
           have KP3:=hid (pcAt_set KP2.out HGP.out 5 (.int .i64 (y:Nat)))
           have KQ3:=hid (pcAt_set KQ2.out HGQ.out 5 (.int .i64 (y:Nat)))
           have KT3:=hid (tkAt_set KT2.out HGT.out 5 (.int .i64 (y:Nat)))
           go_wp2_with fail
           go_meet
           rw [← HZ.out]
           exact ⟨HC3,KP3,KQ3,KT3⟩
          | false =>
           rw [h3] at HCt
           have HZ:=hid (show meetR t.size s2.size FF (a+x.size) B1 (B2.drop (j+1))=TO by rw [← HD2.out,if_neg (by rw [h3]; simp)])
           clear HD2 h3
           go_wp2_with fail
           refine HCt.out.mono ?_
           rintro e w19 ⟨rfl,rfl⟩
           go_wp2_with fail
           go_round
           case measure=>simp [intOf]; omega
           case rel=>exact ⟨j+1,by omega,by go_num,HZ⟩
        · have q2:decide ((a:Int)+x.size≤(y:Int))=false:=decide_eq_false (by omega)
          have HZ:=hid (show meetR t.size s2.size FF (a+x.size) B1 (B2.drop (j+1))=TO by rw [← HD2.out,if_neg (fun h=>h2 h.2.1)])
          clear HD2
          go_wp2_with fail
          go_round
          case measure=>simp [intOf]; omega
          case rel=>exact ⟨j+1,by omega,by go_num,HZ⟩
      · have q1:decide ((FF:Int)≤(y:Int))=false:=decide_eq_false (by omega)
        have HZ:=hid (show meetR t.size s2.size FF (a+x.size) B1 (B2.drop (j+1))=TO by rw [← HD2.out,if_neg (fun h=>h1 h.1)])
        clear HD2
        go_wp2_with fail
        go_round
        case measure=>simp [intOf]; omega
        case rel=>exact ⟨j+1,by omega,by go_num,HZ⟩
    · obtain rfl:j=mQ+1:=by omega
      have HZ:=hid (show 0=TO by rw [← HD.out,List.drop_eq_nil_of_le (by rw [HL2.out]; exact Nat.le_refl _)]; rfl)
      go_wp2_with fail
      go_meet
      rw [← HZ.out]
      exact ⟨HC2,KP2,KQ2,KT2⟩
 case rest =>
 obtain ⟨HC4,KP,KQ,KT⟩:=hcut
 obtain ⟨w20,rfl⟩:∃ v:World,v=wc:=⟨_,rfl⟩
 clear HC2 KP2 KQ2 KT2 HS1 HIK HTO HL1 HL2 HB2 HMR HLP
 obtain ⟨FO,hFO⟩:∃ z,foundL FF TO Q 0=z:=⟨_,rfl⟩
 have HFO:=hid hFO
 replace HR:Hid (agRN ms t s2 a x P Q T r3 r4 FF FK TO=R):=HR
 clear hFO
 go_upto_block 9 with (fail)
 go_cut [] (fun wx=>Hid (AgO w B7 B8 B9 #[.int .i64 (a:Nat),.int .i64 O,.string x] #[.slice none 0 0,.string ⟨#[]⟩,.int .i64 0,.int .i64 0,.int .i64 0,.int .i64 0,.int .i64 0] (.slice a4 m5 n4) (.string r4) FK 0 FF TO FO wx)∧Hid (TkAt wx (.slice a4 m5 n4) r3))
 case first =>
  as_aux_lemma =>
   go_wp2_with fail
   go_loopw [258] (fun iv wr=>∃ (j k:Nat),j≤mQ∧k≤j∧iv=.int .i64 j∧Hid (foundL FF TO (Q.drop j) k=FO)∧Hid (AgO w B7 B8 B9 #[.int .i64 (a:Nat),.int .i64 O,.string x] #[.slice none 0 0,.string ⟨#[]⟩,.int .i64 0,.int .i64 0,.int .i64 0,.int .i64 0,.int .i64 0] (.slice a4 m5 n4) (.string r4) FK 0 FF TO k wr)∧Hid (PcAt wr (.slice qa mQ qc) Q)∧Hid (TkAt wr (.slice a4 m5 n4) r3)) (fun iv _=>mQ-(intOf iv).toNat)
   case atStart=>exact ⟨0,0,Nat.zero_le _,Nat.le_refl _,rfl,hid (by simpa using HFO.out),HC4,KQ,KT⟩
   case round =>
    clear HC4 KP KQ KT
    obtain ⟨j,k,hj,hk,rfl,HD,HC,KQ,KT⟩:=hrel
    by_cases hlt:j<mQ
    · have hltT:j<Q.length:=by rw [HMQ.out]; exact hlt
      obtain ⟨pa1,pc1,he,hcl⟩:=id KQ.out
      simp only [Value.slice.injEq] at he
      obtain ⟨he1,he2,he3⟩:=he
      obtain ⟨g,o,e1,c1,c2,c3,c4⟩:=pc_elem hcl j hltT
      rw [← he1] at e1
      clear he1 he2 he3 hcl
      subst e1
      have HD2:=hid ((foundL_drop FF TO Q j k hltT).symm.trans HD.out)
      generalize Q[j]=y at c1 c2 c3 c4 HD2
      obtain ⟨ym,ya,yl,ys⟩:=y
      simp only at c1 c2 c3 c4 HD2
      have i1:(0:Int)≤(j:Int):=by omega
      have i2:(j:Int)<(mQ:Int):=by omega
      go_upto_region 47 with (fail)
      have hbx:B9<wr.heap.size:=xL HC.out.b9
      have HXB:=hid (xN wr (.cells #[.int .i64 (ym:Nat),.int .i64 (ya:Nat),.int .i64 (yl:Nat),.int .i64 (ys:Nat)] 43))
      have gx:=xG wr (.cells #[.int .i64 (ym:Nat),.int .i64 (ya:Nat),.int .i64 (yl:Nat),.int .i64 (ys:Nat)] 43) none
      have HXC:=hid (HC.out.grow gx)
      replace KQ:=hid (KQ.out.grow gx)
      replace KT:=hid (KT.out.grow gx)
      clear gx
      generalize wr.alloc (.cells #[.int .i64 (ym:Nat),.int .i64 (ya:Nat),.int .i64 (yl:Nat),.int .i64 (ys:Nat)] 43)=wx at HXB HXC KQ KT ⊢
      generalize wr.heap.size=bx at HXB hbx ⊢
      have y1:=xC HXB.out 1
      have x4:=xC HXC.out.b9 4
      have x5:=xC HXC.out.b9 5
      have x6:=xC HXC.out.b9 6
      simp only [xGe,xGz,xGs] at y1 x4 x5 x6
      have z6:=yfb HXC.out.b9 6
      have hw3:IntKind.i64.wrap ((k:Int)+1)=((k+1:Nat):Int):=(xI _ (by omega)).trans (by omega)
      clear c1 c2 c3 c4 i1 i2 HC
      by_cases h1:FF≤ya
      · have q1:decide ((FF:Int)≤(ya:Int))=true:=decide_eq_true (by omega)
        by_cases h2:ya<TO
        · have q2:decide ((ya:Int)<(TO:Int))=true:=decide_eq_true (by omega)
          have HZ:=hid (show foundL FF TO (Q.drop (j+1)) (k+1)=FO by rw [← HD2.out,if_pos ⟨h1,h2⟩])
          clear HD HD2
          go_wp2_with fail
          go_roundw
          case measure=>simp [intOf]; omega
          case rel=>exact ⟨j+1,k+1,by omega,by omega,by go_num,HZ,hid (HXC.out.set (fo':=k+1) 6 (.int .i64 ((k+1:Nat):Int)) rfl),hid (pcAt_set KQ.out HGQ.out 6 _),hid (tkAt_set KT.out HGT.out 6 _)⟩
        · have q2:decide ((ya:Int)<(TO:Int))=false:=decide_eq_false (by omega)
          have HZ:=hid (show foundL FF TO (Q.drop (j+1)) k=FO by rw [← HD2.out,if_neg (fun h=>h2 h.2)])
          clear HD HD2
          go_wp2_with fail
          go_roundw
          case measure=>simp [intOf]; omega
          case rel=>exact ⟨j+1,k,by omega,by omega,by go_num,HZ,HXC,KQ,KT⟩
      · have q1:decide ((FF:Int)≤(ya:Int))=false:=decide_eq_false (by omega)
        have HZ:=hid (show foundL FF TO (Q.drop (j+1)) k=FO by rw [← HD2.out,if_neg (fun h=>h1 h.1)])
        clear HD HD2
        go_wp2_with fail
        go_roundw
        case measure=>simp [intOf]; omega
        case rel=>exact ⟨j+1,k,by omega,by omega,by go_num,HZ,HXC,KQ,KT⟩
    · obtain rfl:j=mQ:=by omega
      have HZ:=hid (show k=FO by rw [← HD.out,List.drop_eq_nil_of_le (by rw [HMQ.out]; exact Nat.le_refl _)]; rfl)
      clear HD
      go_wp2_with fail
      go_meet
      obtain rfl:=HZ.out
      exact ⟨HC,KT⟩
 case rest =>
 obtain ⟨HC5,KT⟩:=hcut
 obtain ⟨w21,rfl⟩:∃ v:World,v=wc:=⟨_,rfl⟩
 clear HC4 KP KQ
 have HTA:=hid (show TkAt w21 (.slice ta Tn tc) T by have:=HTT.out.grow HC5.out.gr; rw [HTN.out] at this; exact this)
 have hb21:B9<w21.heap.size:=xL HC5.out.b9
 have HBT1:=hid (refBegins_any _ T w21 HTA.out HTL.out.1 (by have:=HTL.out.2; omega))
 unfold OwnPost at HBT1
 have HBL:=hid (And.intro (begins_le r3 0) (begins_len r3 0))
 have HBM:=hid (begins_len T 0)
 obtain ⟨BT,hBT⟩:∃ b,beginsL T 0=b:=⟨_,rfl⟩
 have HBT2:=hid hBT
 rw [hBT] at HBT1 HBM
 clear hBT
 go_wp2_with fail
 refine HBT1.out.mono ?_
 rintro e w22 ⟨v22,rfl,own,g22⟩
 have HIA:=hid (Ints.of_own own)
 have HIAb:=hid (fun g o n c (h:v22=.slice (some ⟨g,o,none⟩) n c)=>show g≠B9 from by
  have:=(yob own g (by rw [h]; rfl)).1
  omega)
 obtain ⟨ba,bc,hv22,-⟩:=id HIA.out
 subst hv22
 replace HC5:=hid (HC5.out.grow g22)
 replace KT:=hid (KT.out.grow g22)
 have HBU1:=hid (refBegins_any _ r3 w22 KT.out (by have:=HBU.out.len; omega) (by have:=HBU.out.sum; omega))
 unfold OwnPost at HBU1
 have hb22:B9<w22.heap.size:=xL HC5.out.b9
 obtain ⟨BU,hBU2⟩:∃ b,beginsL r3 0=b:=⟨_,rfl⟩
 have HBU2:=hid hBU2
 rw [hBU2] at HBU1 HBL
 clear hBU2 own g22 HBT1 HTA
 go_wp2_with fail
 refine HBU1.out.mono ?_
 rintro e w23 ⟨v23,rfl,own,g23⟩
 have HIB:=hid (Ints.of_own own)
 have HIBb:=hid (fun g o n c (h:v23=.slice (some ⟨g,o,none⟩) n c)=>show g≠B9 from by
  have:=(yob own g (by rw [h]; rfl)).1
  omega)
 obtain ⟨ua,uc,hv23,-⟩:=id HIB.out
 subst hv23
 replace HC5:=hid (HC5.out.grow g23)
 replace KT:=hid (KT.out.grow g23)
 replace HIA:=hid (HIA.out.grow g23)
 obtain ⟨mB,hmB⟩:∃ n,(natI BU).length=n:=⟨_,rfl⟩
 have HMB:=hid (show BU.length=mB by rw [← hmB,natI_len])
 obtain ⟨mA,hmA⟩:∃ n,(natI BT).length=n:=⟨_,rfl⟩
 have HMA:=hid (show BT.length=mA by rw [← hmA,natI_len])
 rw [hmB] at HIB HIBb ⊢
 rw [hmA] at HIA HIAb ⊢
 have hmBl:mB≤1000000:=by have h1:=HMB.out; have h2:=HBL.out.2; have h3:=HBU.out.len; omega
 have hmAl:mA≤1000000:=by have h1:=HMA.out; have h2:=HBM.out; have h3:=HTL.out.1; omega
 have HBb:=hid (show ∀ b,b∈BU→b≤s2.size from fun b hb=>by have:=HBL.out.1 b hb; have:=HBU.out.sum; omega)
 obtain ⟨BE,hBE⟩:∃ z,behindR t.size s2.size TO BT BU 0=z:=⟨_,rfl⟩
 have HBE:=hid hBE
 clear hmA hmB own g23 HBU1 hBE hb21 hb22
 go_upto_block 11 with (fail)
 go_cut [] (fun wx=>Hid (AgO w B7 B8 B9 #[.int .i64 (a:Nat),.int .i64 O,.string x] #[.slice none 0 0,.string ⟨#[]⟩,.int .i64 0,.int .i64 0,.int .i64 0,.int .i64 0,.int .i64 0] (.slice a4 m5 n4) (.string r4) FK BE FF TO FO wx)∧Hid (TkAt wx (.slice a4 m5 n4) r3))
 case first =>
  as_aux_lemma =>
   go_wp2_with fail
   go_loopw [284] (fun iv wr=>∃ (j k:Nat),j≤mB∧k≤j∧iv=.int .i64 j∧Hid (behindR t.size s2.size TO BT (BU.drop j) k=BE)∧Hid (AgO w B7 B8 B9 #[.int .i64 (a:Nat),.int .i64 O,.string x] #[.slice none 0 0,.string ⟨#[]⟩,.int .i64 0,.int .i64 0,.int .i64 0,.int .i64 0,.int .i64 0] (.slice a4 m5 n4) (.string r4) FK k FF TO FO wr)∧Hid (Ints wr (.slice ba mA bc) (natI BT))∧Hid (Ints wr (.slice ua mB uc) (natI BU))∧Hid (TkAt wr (.slice a4 m5 n4) r3)) (fun iv _=>mB-(intOf iv).toNat)
   case atStart=>exact ⟨0,0,Nat.zero_le _,Nat.le_refl _,rfl,hid (by simpa using HBE.out),HC5,HIA,HIB,KT⟩
   case round =>
    clear HC5 HIA HIB KT
    obtain ⟨j,k,hj,hk,rfl,HD,HC,HIA,HIB,KT⟩:=hrel
    by_cases hlt:j<mB
    · have hltT:j<BU.length:=by rw [HMB.out]; exact hlt
      obtain ⟨ka1,kc1,he,hcl⟩:=HIB.out.elem
      simp only [Value.slice.injEq] at he
      obtain ⟨he1,he2,he3⟩:=he
      obtain ⟨g,o,e1,c1⟩:=hcl j (by rw [natI_len]; exact hltT)
      rw [← he1] at e1
      subst e1
      have hget:(natI BU).getD j 0=((BU[j]:Nat):Int):=by simp [natI,hltT]
      rw [hget] at c1
      have HD2:=hid ((behindR_drop t.size s2.size TO BT BU j k hltT).symm.trans HD.out)
      have hy:=HBb.out BU[j] (List.getElem_mem hltT)
      clear he1 he2 he3 hcl hget HD
      generalize BU[j]=y at c1 HD2 hy
      have i1:(0:Int)≤(j:Int):=by omega
      have i2:(j:Int)<(mB:Int):=by omega
      have x3:=xC HC.out.b9 3
      have x5:=xC HC.out.b9 5
      simp only [xGe,xGz,xGs] at x3 x5
      have z3:=yfb HC.out.b9 3
      have hw1:IntKind.i64.wrap ((k:Int)+1)=((k+1:Nat):Int):=(xI _ (by omega)).trans (by omega)
      have hw2:IntKind.i64.wrap ((s2.size:Int)-y)=(s2.size:Int)-y:=xI _ (by omega)
      have hw3:IntKind.i64.wrap ((t.size:Int)-((s2.size:Int)-y))=(t.size:Int)-((s2.size:Int)-y):=xI _ (by omega)
      by_cases h1:TO≤y
      · have q1:decide ((TO:Int)≤(y:Int))=true:=decide_eq_true (by omega)
        have HCt:=hid (containsB_any BT ((t.size:Int)-((s2.size:Int)-y)) (.slice ba mA bc) wr (by rw [HMA.out]; exact hmAl) HIA.out)
        cases h3:starts BT ((t.size:Int)-((s2.size:Int)-y)) with
        | true =>
         rw [h3] at HCt
         have HZ:=hid (show behindR t.size s2.size TO BT (BU.drop (j+1)) (k+1)=BE by rw [← HD2.out,if_pos ⟨h1,h3⟩])
         clear HD2 h3
         go_wp2_with fail
         refine HCt.out.mono ?_
         rintro e w25 ⟨rfl,rfl⟩
         go_wp2_with fail
         go_roundw
         case measure=>simp [intOf]; omega
         case rel=>exact ⟨j+1,k+1,by omega,by omega,by go_num,HZ,hid (HC.out.set (be':=k+1) 3 (.int .i64 ((k+1:Nat):Int)) rfl),hid (ints_set HIA.out HIAb.out 3 _),hid (ints_set HIB.out HIBb.out 3 _),hid (tkAt_set KT.out HGT.out 3 _)⟩
        | false =>
         rw [h3] at HCt
         have HZ:=hid (show behindR t.size s2.size TO BT (BU.drop (j+1)) k=BE by rw [← HD2.out,if_neg (by rw [h3]; simp)])
         clear HD2 h3
         go_wp2_with fail
         refine HCt.out.mono ?_
         rintro e w25 ⟨rfl,rfl⟩
         go_wp2_with fail
         go_roundw
         case measure=>simp [intOf]; omega
         case rel=>exact ⟨j+1,k,by omega,by omega,by go_num,HZ,HC,HIA,HIB,KT⟩
      · have q1:decide ((TO:Int)≤(y:Int))=false:=decide_eq_false (by omega)
        have HZ:=hid (show behindR t.size s2.size TO BT (BU.drop (j+1)) k=BE by rw [← HD2.out,if_neg (fun h=>h1 h.1)])
        clear HD2
        go_wp2_with fail
        go_roundw
        case measure=>simp [intOf]; omega
        case rel=>exact ⟨j+1,k,by omega,by omega,by go_num,HZ,HC,HIA,HIB,KT⟩
    · obtain rfl:j=mB:=by omega
      have HZ:=hid (show k=BE by rw [← HD.out,List.drop_eq_nil_of_le (by rw [HMB.out]; exact Nat.le_refl _)]; rfl)
      clear HD
      go_wp2_with fail
      go_meet
      obtain rfl:=HZ.out
      exact ⟨HC,KT⟩
 case rest =>
 obtain ⟨HC6,KT⟩:=hcut
 obtain ⟨w26,rfl⟩:∃ v:World,v=wc:=⟨_,rfl⟩
 clear HC5 HIA HIB HIAb HIBb
 have HRR:=hid (show R=⟨r3,r4,FK,BE,FF,TO,FO,0,0⟩ by rw [← HR.out,agRN,HBT2.out,HBU2.out,HBE.out,HFO.out])
 have HPQ:=hid (show AgPost ⟨r3,r4,FK,BE,FF,TO,FO,0,0⟩ w=PP by rw [← HRR.out]; exact HPP.out)
 have HT2:=KT
 have HG:=hid HC6.out.gr
 have H8:=hid HC6.out.b8
 clear HR HRR HPP HBT2 HBU2 HBE HFO HBL HBM HMA HMB HBb HBT HBU HMP HMQ HGP HGQ HTT HTL HTN HTS HSZ2 HA HN
 obtain ⟨r0,r1,r2,q3,q4,q5,q6⟩:=cb7 HC6.out.b9
 go_upto_region 57 with (fail)
 go_cut [9,10] (fun v9 v10 wx=>v9=.int .i64 0∧v10=.int .i64 0∧Hid (wx.heap[B8]? = some (.cells #[.slice a4 m5 n4,.string r4,.int .i64 (FK:Nat),.int .i64 (BE:Nat),.int .i64 (FF:Nat),.int .i64 (TO:Nat),.int .i64 (FO:Nat)] 71 (0,0)))∧Hid (w.grownBy wx none)∧Hid (TkAt wx (.slice a4 m5 n4) r3))
 case first =>
  have HIN:=hid (show (Tryz.prog.info? 71).map (·.size)=some 7 by kernel_rfl)
  have HTHERE:=hid (show w26.there B8 0 7 from fun j hj=>⟨by
   rw [Nat.zero_add,xC H8.out]
   have:j=0∨j=1∨j=2∨j=3∨j=4∨j=5∨j=6:=by omega
   rcases this with rfl | rfl | rfl | rfl | rfl | rfl | rfl<;>rfl,yfb H8.out _⟩)
  have H7S:=hid (store7 H8.out HG.out hB8 (.slice a4 m5 n4) (.string r4) (.int .i64 (FK:Nat)) (.int .i64 (BE:Nat)) (.int .i64 (FF:Nat)) (.int .i64 (TO:Nat)) (.int .i64 (FO:Nat)))
  have HTF:=hid (tkAt_kept HT2.out HGB.out H7S.out.2.2)
  clear HPQ HC6 KT HG H8 HT2 HGT HGB
  go_wp2_with (refine wpList_store_mid (by rfl) 71 (.tmp 8) (.tmp 308) (by rfl) B8 0 #[.slice a4 m5 n4,.string r4,.int .i64 (FK:Nat),.int .i64 (BE:Nat),.int .i64 (FF:Nat),.int .i64 (TO:Nat),.int .i64 (FO:Nat)] (by rfl) (by rfl) HTHERE.out HIN.out (by simp [Value.oneCell']) ?_)
  go_meet
  exact ⟨rfl,rfl,hid H7S.out.1,hid H7S.out.2.1,HTF⟩
 case rest =>
  obtain ⟨rfl,rfl,HK8,HG9,HTF⟩:=hcut
  obtain ⟨w27,rfl⟩:∃ v:World,v=wc:=⟨_,rfl⟩
  obtain ⟨k0,k1,k2,k3,k4,k5,k6⟩:=cb7 HK8.out
  apply_assumption
  refine wp_ret ?_
  rw [← HPQ.out]
  refine bodyPost_ret (v:=.tuple #[.agg #[.slice a4 m5 n4,.string r4,.int .i64 (FK:Nat),.int .i64 (BE:Nat),.int .i64 (FF:Nat),.int .i64 (TO:Nat),.int .i64 (FO:Nat)],.int .i64 0,.int .i64 0]) ?_ rfl ⟨.slice a4 m5 n4,rfl,HTF.out,HG9.out⟩
  simp [results,Tryz.results34,go_sem,k0,k1,k2,k3,k4,k5,k6]
end Go.Proofs.YtplbacfjmajeeaaGreatDoor
