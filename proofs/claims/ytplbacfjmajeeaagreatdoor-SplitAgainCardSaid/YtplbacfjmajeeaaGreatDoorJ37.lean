import Derived.Test.YtplbacfjmajeeaaGreatDoorJ36
namespace Go.Proofs.YtplbacfjmajeeaaGreatDoor
open Go.Lib (hid)
set_option maxHeartbeats 4000000
set_option maxRecDepth 100000
open Go.RowKit
theorem canAt_app (ps:List Pt) (L M:List En) (k:Nat) (h:k≤L.length):canAt ps (L++M) k=canAt ps L k:=by
 unfold canAt
 by_cases h0:k=0
 · rw [if_pos h0,if_pos h0]
 · rw [if_neg h0,if_neg h0]
   have e:(L++M).getD (k-1) ⟨[],[]⟩=L.getD (k-1) ⟨[],[]⟩:=by
    rw [List.getD_eq_getElem?_getD,List.getD_eq_getElem?_getD,List.getElem?_append_left (by omega)]
   rw [e]
def ClosedTo (ps:List Pt) (L:List En) (i:Nat):Prop:=∀ k,k<i→∀ c,c<256→stepL (bytesL ps) (canAt ps L k) c∈L.map En.set
theorem bfs_closed (ps:List Pt) (most:Nat):∀ f i L R,i≤L.length+1→ClosedTo ps L i→bfs ps most f i L=some R→ClosedTo ps R (R.length+1)
 | 0,_,_,_,_,_,h=>by cases h
 | f+1,i,L,R,hi,hC,h=>by
  rw [bfs] at h
  split at h
  · rename_i h1
    obtain rfl:L=R:=by simpa using h
    rw [show L.length+1=i by omega]
    exact hC
  · rename_i h1
    split at h
    · cases h
    · obtain ⟨M,hM⟩:=expand_prefix (bytesL ps) (canAt ps L i) (textAt L i) (List.range 256) L
      have hG:growAt ps L i=L++M:=hM
      refine bfs_closed ps most f (i+1) (growAt ps L i) R (by rw [hG,List.length_append]; omega) (fun k hk c hc=>?_) h
      rcases Nat.lt_or_eq_of_le (Nat.lt_succ_iff.1 hk) with h2 | rfl
      · have:=hC k h2 c hc
        rw [hG,canAt_app ps L M k (by omega),List.map_append]
        exact List.mem_append_left _ this
      · have:=expand_mem (bytesL ps) (canAt ps L k) (textAt L k) (List.range 256) L c (by simpa using hc)
        rw [hG,canAt_app ps L M k (by omega),← hG]
        exact this
theorem posM_some (L:List En) (S:List Nat) (h:S∈L.map En.set):∃ r,posM L (maskOf S)=some r:=by
 obtain ⟨e,he,rfl⟩:=List.mem_map.1 h
 unfold posM
 cases hf:L.findIdx? (fun e2=>maskOf e2.set == maskOf e.set) with
 | some k=>exact ⟨k+1,rfl⟩
 | none =>
  rw [List.findIdx?_eq_none_iff] at hf
  have:=hf e he
  simp at this
theorem allSets_closed (ps:List Pt) (L:List En) (hB:BytesOk (bytesL ps)) (h:allSets ps=some L):Closed ps L:=by
 have hC:=bfs_closed ps 3000 3002 0 [] L (by simp) (fun k hk=>absurd hk (Nat.not_lt_zero _)) h
 intro i hi κ hκ
 have h1:=hC i (by omega) (lowsP ps)[κ] (by
  obtain ⟨_,h2,_⟩:=cls_low (bytesL ps) 256 κ hκ
  exact h2)
 rw [← step_class ps hB L i κ hκ]
 exact posM_some L _ h1
theorem markLoop_all:∀ (ms:List Mrk) (n:Nat),markLoop ms n=0→∀ m∈ms,badKind m.kind=false∧patFault m.pat=0∧m.pat.nul=false
 | [],_,_,_,h=>by cases h
 | m::ms,n,h,x,hx=>by
  rw [markLoop] at h
  by_cases h1:badKind m.kind=true
  · rw [if_pos h1] at h; cases h
  · rw [if_neg h1] at h
    by_cases h2:patFault m.pat≠0
    · rw [if_pos h2] at h; exact absurd h h2
    · rw [if_neg h2] at h
      by_cases h3:m.pat.nul=true
      · rw [if_pos h3] at h; cases h
      · rw [if_neg h3] at h
        rcases List.mem_cons.1 hx with rfl | hx
        · exact ⟨by simpa using h1,by simpa using h2,by simpa using h3⟩
        · exact markLoop_all ms _ h x hx
structure ChkOk (ms:List Mrk):Prop where
 ne:ms≠[]
 len:ms.length≤60
 right:∀ p∈ms.map Mrk.pat,Right p
 bytes:BytesOk (bytesL (ms.map Mrk.pat))
 sets:allSets (ms.map Mrk.pat)=some (setsM ms)
 closed:Closed (ms.map Mrk.pat) (setsM ms)
theorem chk_ok (ms:List Mrk) (h:chk ms=0):ChkOk ms:=by
 unfold chk at h
 by_cases h1:ymF ms=0
 · rw [if_pos h1] at h
   have h2:allSets (ms.map Mrk.pat)≠none:=fun e=>by rw [if_pos e] at h; cases h
   obtain ⟨L,hL⟩:=Option.ne_none_iff_exists'.1 h2
   have hs:setsM ms=L:=by unfold setsM; rw [hL]; rfl
   unfold ymF at h1
   by_cases h3:ms.length=0
   · rw [if_pos h3] at h1; cases h1
   · rw [if_neg h3] at h1
     by_cases h4:60<ms.length
     · rw [if_pos h4] at h1; cases h1
     · rw [if_neg h4] at h1
       have hR:∀ p∈ms.map Mrk.pat,Right p:=fun p hp=>by
        obtain ⟨m,hm,rfl⟩:=List.mem_map.1 hp
        exact right_fault m.pat (markLoop_all ms 0 h1 m hm).2.1
       have hB:=bytesOk_of _ (ms.map Mrk.pat) (Nat.le_refl _) hR
       exact ⟨fun e=>h3 (by rw [e]; rfl),by omega,hR,hB,by rw [hs]; exact hL,by rw [hs]; exact allSets_closed _ _ hB hL⟩
 · rw [if_neg h1] at h; exact absurd h h1
def refLong (ms:List Mrk) (s:ByteArray) (a:Nat):Int × Nat × Nat :=
 (mkI (longL (ms.map Mrk.pat) (setsM ms) s.data.toList a).1 (longL (ms.map Mrk.pat) (setsM ms) s.data.toList a).2.1,(longL (ms.map Mrk.pat) (setsM ms) s.data.toList a).2.1,(longL (ms.map Mrk.pat) (setsM ms) s.data.toList a).2.2)
theorem refLong_any (ms:List Mrk) (av:Option Addr) (cap:Nat) (s:ByteArray) (a:Nat) (w:World) (hs:s.size≤100000) (ha:a≤s.size) (hc:chk ms=0) (hn:ylL (ms.map Mrk.pat)≤64) (hsz:sizes (ms.map Mrk.pat)≤500) (hA:ms=[]∨∃ b off,av=some ⟨b,off,none⟩∧MrkAt w ms b off) :
 Calls Tryz.prog 25 #[.slice av ms.length cap,.string s,.int .i64 a] w fun e w'=>e=.returned (.agg #[.int .i64 (refLong ms s a).1,.int .i64 a,.int .i64 (refLong ms s a).2.1,.int .i64 (refLong ms s a).2.2])∧w.grownBy w' none:=by
 obtain ⟨h1,h2,h3,h4,h5,h6⟩:=chk_ok ms hc
 rcases hA with hA | ⟨b,off,rfl,hA⟩
 · exact absurd hA h1
 refine (longestOf_any ms b off cap s a w hs ha h3 (by omega) (by omega) (by omega) hA).mono ?_
 rintro e w' ⟨mk,lg,sg,rfl,g,hb,hsg⟩
 have e1:chrA s a=fun j=>(s.data.toList.drop a).getD j 0:=rfl
 have hsl:s.data.toList.length=s.size:=by rw [Array.length_toList]; rfl
 have hb2:=long_best (ms.map Mrk.pat) (setsM ms) s.data.toList a h6 h4
 have hs2:=long_sight (ms.map Mrk.pat) (setsM ms) s.data.toList a h6 h4
 rw [hsl,← e1] at hb2 hs2
 obtain ⟨e2,e3⟩:=best_one hb hb2
 refine ⟨?_,g⟩
 unfold refLong
 rw [hs2,← hsg,← e2]
 by_cases h0:lg=0
 · subst h0; rfl
 · rw [e3 (by omega)]
open Go.RowKit Go.Region
def PcOfPost (ms:List Mrk) (s:ByteArray) (w:World) (e:Ending) (w':World):Prop :=
 ∃ v,e=.returned (.tuple #[v,.int .i64 ((piecesL (ms.map Mrk.pat) (setsM ms) s.data.toList).2.1:Nat),.bool (decide ((piecesL (ms.map Mrk.pat) (setsM ms) s.data.toList).2.2=0))])∧w'.ownsRow w.heap.size 43 4 v (piecesL (ms.map Mrk.pat) (setsM ms) s.data.toList).1.length (pcCells (piecesL (ms.map Mrk.pat) (setsM ms) s.data.toList).1)∧w.grownBy w' none
theorem piecesOf_any (ms:List Mrk) (av:Option Addr) (mcap:Nat) (s:ByteArray) (w:World) (hs:s.size≤20000) (hc:chk ms=0) (hn:ylL (ms.map Mrk.pat)≤64) (hsz:sizes (ms.map Mrk.pat)≤500) (hA:ms=[]∨∃ b off,av=some ⟨b,off,none⟩∧MrkAt w ms b off) :
 Calls Tryz.prog 26 #[.slice av ms.length mcap,.string s] w (PcOfPost ms s w):=by
 obtain ⟨i43,hi,hz0,hz1,hz2⟩:=info_parts info43
 have HI:=hid hi
 have HZ0:=hid hz0
 have HZ1:=hid hz1
 have HZ2:=hid hz2
 clear hi hz0 hz1 hz2
 have HLO:Hid (∀ (W:World) (a:Nat),w.grownBy W none→a≤s.size→Calls Tryz.prog 25 #[.slice av ms.length mcap,.string s,.int .i64 a] W fun e w'=>e=.returned (.agg #[.int .i64 (refLong ms s a).1,.int .i64 a,.int .i64 (refLong ms s a).2.1,.int .i64 (refLong ms s a).2.2])∧W.grownBy w' none) :=
  hid (fun W a g ha=>refLong_any ms av mcap s a W (by omega) ha hc hn hsz (hA.imp id (fun ⟨b,off,h1,h2⟩=>⟨b,off,h1,h2.grow g⟩)))
 obtain ⟨P,hP⟩:∃ P,PcOfPost ms s w=P:=⟨_,rfl⟩
 rw [hP]
 have HP:=hid hP
 clear hP hA hc hn hsz
 obtain ⟨N,hN⟩:∃ N,ms.length=N:=⟨_,rfl⟩
 rw [hN] at HLO ⊢
 clear hN
 have hlen:s.data.toList.length=s.size:=by rw [Array.length_toList]; rfl
 have HLEN:=hid hlen
 clear hlen
 have HGS:=hid (grow_self w)
 obtain ⟨ps,hps⟩:∃ ps,ms.map Mrk.pat=ps:=⟨_,rfl⟩
 obtain ⟨L,hL⟩:∃ L,setsM ms=L:=⟨_,rfl⟩
 obtain ⟨PL,hPL⟩:∃ PL,piecesL ps L s.data.toList=PL:=⟨_,rfl⟩
 have HE0:Hid (pcsL ps L s.data.toList (s.size+1) 0 []=PL):=hid (by rw [← hPL,piecesL,HLEN.out,if_neg (by omega)])
 have HPP:Hid (PcOfPost ms s w=fun e w'=>∃ v,e=.returned (.tuple #[v,.int .i64 (PL.2.1:Nat),.bool (decide (PL.2.2=0))])∧w'.ownsRow w.heap.size 43 4 v PL.1.length (pcCells PL.1)∧w.grownBy w' none):=hid (by unfold PcOfPost; rw [hps,hL,hPL])
 have HRL:Hid (∀ a,refLong ms s a=(mkI (longL ps L s.data.toList a).1 (longL ps L s.data.toList a).2.1,(longL ps L s.data.toList a).2.1,(longL ps L s.data.toList a).2.2)):=hid (fun a=>by rw [← hps,← hL]; rfl)
 clear hPL hps hL
 go_enter Tryz.func26,Tryz.ntmps26
 go_wp2_with fail
 go_loopw [7,8] (fun qv av wr=>∃ (pv:Value) (a n:Nat) (acc:List (Nat × Nat × Nat × Nat)),pv=qv∧av=.int .i64 a∧a≤s.size∧acc.length≤a∧s.size<a+n∧Hid (pcsL ps L s.data.toList n a acc=PL)∧Hid (wr.ownsRow w.heap.size 43 4 pv acc.length (pcCells acc))∧Hid (w.grownBy wr none)) (fun _ av _=>s.size-(intOf av).toNat)
 case atStart=>exact ⟨_,0,s.size+1,[],rfl,rfl,Nat.zero_le _,Nat.le_refl _,by omega,HE0,hid (World.ownsRow_nil _ _ _ _),HGS⟩
 case round =>
  obtain ⟨pv,a,n,acc,rfl,rfl,ha,hacc,hn,HE,HO,HG⟩:=hrel
  by_cases hlt:a<s.size
  · obtain ⟨n,rfl⟩:∃ k,n=k+1:=⟨n-1,by omega⟩
    have hE2:=HE.out
    rw [pcsL,if_neg (by rw [HLEN.out]; omega)] at hE2
    have hle:=longL_le ps L s.data.toList a
    rw [HLEN.out] at hle
    have HE2:=hid hE2
    have HC:=hid (HLO.out wr a HG.out ha)
    rw [HRL.out a] at HC
    clear hE2 HE
    generalize longL ps L s.data.toList a=lx at HE2 hle HC
    obtain ⟨mk,lg,sg⟩:=lx
    simp only at hle HC
    go_wp2_with fail
    refine HC.out.mono ?_
    rintro e wa ⟨rfl,ga⟩
    rcases Nat.eq_zero_or_pos lg with rfl | hpos
    · have hE3:=HE2.out
      rw [if_pos rfl] at hE3
      have HE3:=hid hE3
      have HGA:=hid (yga (xT HG.out ga) (.cells #[.int .i64 (mkI mk 0),.int .i64 a,.int .i64 (0:Nat),.int .i64 sg] 43))
      have hmk:mkI mk 0 = -1:=rfl
      clear hE3 HE2 ga HC
      go_wp2_with fail
      rw [← HP.out,HPP.out]
      first | refine ⟨.slice none 0 0,?_,?_,HGA.out⟩ | (try go_ret3; refine ⟨.slice none 0 0,?_,?_,HGA.out⟩)
      · rw [← HE3.out]; rfl
      · rw [← HE3.out]; exact World.ownsRow_nil _ _ _ _
    · have hE3:=HE2.out
      rw [if_neg (by omega)] at hE3
      have HE3:=hid hE3
      have hmk:mkI mk lg=(mk:Int):=by unfold mkI; rw [if_neg (by omega)]
      rw [hmk]
      have hmk0:¬ ((mk:Int)<0):=by omega
      have F:=xN wa (.cells #[.int .i64 mk,.int .i64 a,.int .i64 lg,.int .i64 sg] 43)
      have OW:Hid (∀ W,wr.grownBy W none→W.ownsRow w.heap.size 43 4 pv acc.length (pcCells acc)):=hid (fun W g=>ownsRow_frm (Frm.of_grown g (fun _ _=>True)) HO.out (fun _ _ _ _=>trivial))
      have GB:=hid (yga ga (.cells #[.int .i64 mk,.int .i64 a,.int .i64 lg,.int .i64 sg] 43))
      have hsz:=HG.out.size
      have hsy:=ga.size
      have hob:∀ g,pv.ownBlock=some g→g<wr.heap.size:=fun g hg=>(by obtain ⟨_,c,hc⟩:=yob HO.out g hg; exact (Array.getElem?_eq_some_iff.1 hc).1)
      have HOB:=hid hob
      clear ga hE3 HE2 hob HC hmk
      go_upto_region 5 with (fail)
      generalize hwb:wa.alloc (.cells #[.int .i64 mk,.int .i64 a,.int .i64 lg,.int .i64 sg] 43)=wb at F GB ⊢
      have hsb:wb.heap.size=wa.heap.size+1:=by rw [← hwb]; simp
      have HSB:=hid hsb
      have hsg:wa.heap.size<wb.heap.size:=by omega
      clear hwb hsb
      generalize wa.heap.size=f at F hsy HSB hsg ⊢
      obtain ⟨x0,x1,x2,x3⟩:=cb4 F
      have HF:=hid F
      clear F
      go_wp2_with (at_builtin; refine wpList_append_lies _ rfl _ _ 46 rfl w.heap.size 43 i43 (.agg #[.int .i64 0,.int .i64 0,.int .i64 0,.int .i64 0]) 4 32 Tryz.underlying46 HI.out HZ0.out HZ1.out HZ2.out rfl (by omega) _ acc.length (pcCells acc) rfl (OW.out _ (yga GB.out _)) ⟨wb.heap.size,0,none⟩ 1 1 [.int .i64 mk,.int .i64 a,.int .i64 lg,.int .i64 sg] rfl rfl (cells_new _ _ _) (by simp [Value.oneCell']) (by omega) (by simp [maxLen]; omega) (by omega) (by simp<;>omega) (wb.heap.size+1) (by simp) ?_; intro g cap wc hown hgrow hat hlt2; have HON:=hid hown; have hgr:(wb.alloc (.cells #[.int .i64 mk,.int .i64 a,.int .i64 lg,.int .i64 sg] 43)).grownBy wc pv.ownBlock:=hgrow; have HGN:=hid (grow_row (yga (xT HG.out GB.out) (.cells #[.int .i64 mk,.int .i64 a,.int .i64 lg,.int .i64 sg] 43)) hgr (fun r hr=>(yob (OW.out _ (yga GB.out (.cells #[.int .i64 mk,.int .i64 a,.int .i64 lg,.int .i64 sg] 43))) r hr).1)); have y2:wc.cell? ⟨f,2,none⟩=some (.int .i64 lg):=hgr.cell (ycg x2 (xG wb _ none)) (fun e=>by (have e3:=HOB.out f e.symm); omega); clear hown hgrow hgr hat hlt2)
      go_roundw
      case rel=>exact ⟨_,a+lg,n,acc++[(mk,a,lg,sg)],rfl,by go_num,by omega,by simp; omega,by omega,HE3,hid (by rw [pcCells_snoc,List.length_append]; exact HON.out),HGN⟩
      case measure=>simp [intOf]; omega
  · have hE2:pcsL ps L s.data.toList n a acc=(acc,0,0):=by
     cases n with
     | zero=>rfl
     | succ n=>rw [pcsL,if_pos (by rw [HLEN.out]; omega)]
    rw [HE.out] at hE2
    have HE2:=hid hE2
    clear hE2 HE
    go_wp2_with fail
    rw [← HP.out,HPP.out]
    first | refine ⟨pv,?_,?_,HG.out⟩ | (try go_ret3; refine ⟨pv,?_,?_,HG.out⟩)
    · rw [HE2.out]; rfl
    · rw [HE2.out]; exact HO.out
abbrev Tk:=ByteArray × ByteArray × ByteArray
def tkRow:List Tk→List Value
 | []=>[]
 | x::r=>.string x.1::.string x.2.1::.string x.2.2::tkRow r
theorem tkRow_get:∀ (l:List Tk) (j:Nat) (h:j<l.length),(tkRow l)[j*3]? = some (.string l[j].1)∧(tkRow l)[j*3+1]? = some (.string l[j].2.1)∧(tkRow l)[j*3+2]? = some (.string l[j].2.2)
 | x::r,0,_=>⟨rfl,rfl,rfl⟩
 | x::r,j+1,h=>by
  have:=tkRow_get r j (by simpa using h)
  simpa [tkRow,Nat.succ_mul,Nat.add_right_comm _ 3] using this
def TkAt (w:World) (v:Value) (T:List Tk):Prop :=
 ∃ a c,v=.slice a T.length c∧(T=[]∨∃ g o,a=some ⟨g,o,none⟩∧∀ j u,(tkRow T)[j]? = some u→w.cell? ⟨g,o+j,none⟩=some u)
theorem TkAt.grow {w w':World} {v:Value} {T:List Tk} (h:TkAt w v T) (g:w.grownBy w' none):TkAt w' v T:=by
 obtain ⟨a,c,hv,h⟩:=h
 refine ⟨a,c,hv,?_⟩
 rcases h with h | ⟨b,o,ha,h⟩
 · exact .inl h
 · exact .inr ⟨b,o,ha,fun j u hj=>ycg (h j u hj) g⟩
theorem tk_elem {w:World} {T:List Tk} {a:Option Addr} (h:T=[]∨∃ g o,a=some ⟨g,o,none⟩∧∀ j u,(tkRow T)[j]? = some u→w.cell? ⟨g,o+j,none⟩=some u) (j:Nat) (hj:j<T.length) :
 ∃ g o,a=some ⟨g,o,none⟩∧w.cell? ⟨g,o+j*3,none⟩=some (.string T[j].1)∧w.cell? ⟨g,o+j*3+1,none⟩=some (.string T[j].2.1)∧w.cell? ⟨g,o+j*3+2,none⟩=some (.string T[j].2.2):=by
 rcases h with rfl | ⟨g,o,ha,h⟩
 · simp at hj
 · obtain ⟨c0,c1,c2⟩:=tkRow_get T j hj
   exact ⟨g,o,ha,h _ _ c0,h _ _ c1,h _ _ c2⟩
def tkSum:List Tk→Nat
 | []=>0
 | x::r=>x.2.1.size+x.2.2.size+tkSum r
def tkText:List Tk→List UInt8
 | []=>[]
 | x::r=>x.2.1.data.toList++x.2.2.data.toList++tkText r
theorem tkText_len:∀ T:List Tk,(tkText T).length=tkSum T
 | []=>rfl
 | x::r=>by simp [tkText,tkSum,tkText_len r,Nat.add_assoc]
def joinedM (T:List Tk) (tail:ByteArray):ByteArray × Int :=
 if 2000<T.length then (⟨#[]⟩,2) else if 20000<tail.size+tkSum T then (⟨#[]⟩,2) else (⟨(tkText T++tail.data.toList).toArray⟩,0)
theorem grow_drewNs (w:World) (k:Nat):w.grownBy (w.drewN k) none:=⟨rfl,rfl,rfl,Nat.le_refl _,fun _ _ _=>rfl⟩
theorem tkRow_eq:∀ l:List Tk,tkRow l=tkCells l
 | []=>rfl
 | x::r=>by simp [tkRow,tkCells,tkRow_eq r]
abbrev Pc:=Nat × Nat × Nat × Nat
def PcAt (w:World) (v:Value) (L:List Pc):Prop :=
 ∃ a c,v=.slice a L.length c∧(L=[]∨∃ g o,a=some ⟨g,o,none⟩∧∀ j u,(pcCells L)[j]? = some u→w.cell? ⟨g,o+j,none⟩=some u)
theorem PcAt.grow {w w':World} {v:Value} {L:List Pc} (h:PcAt w v L) (g:w.grownBy w' none):PcAt w' v L:=by
 obtain ⟨a,c,hv,h⟩:=h
 refine ⟨a,c,hv,?_⟩
 rcases h with h | ⟨b,o,ha,h⟩
 · exact .inl h
 · exact .inr ⟨b,o,ha,fun j u hj=>ycg (h j u hj) g⟩
theorem pc_elem {w:World} {L:List Pc} {a:Option Addr} (h:L=[]∨∃ g o,a=some ⟨g,o,none⟩∧∀ j u,(pcCells L)[j]? = some u→w.cell? ⟨g,o+j,none⟩=some u) (j:Nat) (hj:j<L.length) :
 ∃ g o,a=some ⟨g,o,none⟩∧w.cell? ⟨g,o+j*4,none⟩=some (.int .i64 (L[j].1:Nat))∧w.cell? ⟨g,o+j*4+1,none⟩=some (.int .i64 (L[j].2.1:Nat))∧w.cell? ⟨g,o+j*4+2,none⟩=some (.int .i64 (L[j].2.2.1:Nat))∧w.cell? ⟨g,o+j*4+3,none⟩=some (.int .i64 (L[j].2.2.2:Nat)):=by
 rcases h with rfl | ⟨g,o,ha,h⟩
 · simp at hj
 · obtain ⟨c0,c1,c2,c3⟩:=pcCells_get L j hj
   exact ⟨g,o,ha,h _ _ c0,h _ _ c1,h _ _ c2,h _ _ c3⟩
theorem tkAt_own {w:World} {base n:Nat} {v:Value} {T:List Tk} (h:w.ownsRow base 66 3 v n (tkCells T)) (hn:n=T.length):TkAt w v T:=by
 subst hn
 obtain ⟨a,c,rfl⟩:=yos h
 refine ⟨a,c,rfl,?_⟩
 by_cases h0:0<T.length
 · obtain ⟨g,cap,hv,hb,hc⟩:=yoe h h0
   simp only [Value.slice.injEq] at hv
   exact .inr ⟨g,0,hv.1,fun j u hj=>by rw [tkRow_eq] at hj; simpa using hc j u hj⟩
 · exact .inl (List.eq_nil_of_length_eq_zero (by omega))
theorem pcAt_own {w:World} {base n:Nat} {v:Value} {L:List Pc} (h:w.ownsRow base 43 4 v n (pcCells L)) (hn:n=L.length):PcAt w v L:=by
 subst hn
 obtain ⟨a,c,rfl⟩:=yos h
 refine ⟨a,c,rfl,?_⟩
 by_cases h0:0<L.length
 · obtain ⟨g,cap,hv,hb,hc⟩:=yoe h h0
   simp only [Value.slice.injEq] at hv
   exact .inr ⟨g,0,hv.1,fun j u hj=>by simpa using hc j u hj⟩
 · exact .inl (List.eq_nil_of_length_eq_zero (by omega))
theorem equalTk_same (T:List Tk) (v v2:Value) (w:World) (hl:T.length≤1000000) (h1:TkAt w v T) (h2:TkAt w v2 T) :
 Calls Tryz.prog 31 #[v,v2] w fun e w'=>e=.returned (.bool true)∧w.grownBy w' none:=by
 obtain ⟨a,c1,rfl,e1⟩:=h1
 obtain ⟨b,c2,rfl,e2⟩:=h2
 have HE:=hid e1
 have HF:=hid e2
 have hb:((T.length:Int) != (T.length:Int))=false:=by simp
 clear e1 e2
 go_enter Tryz.func31,Tryz.ntmps31
 go_wp2_with fail
 go_loopw [13] (fun i wr=>∃ j k:Nat,j≤T.length∧i=.int .i64 j∧wr=w.drewN k) (fun i _=>T.length-(intOf i).toNat)
 case atStart=>exact ⟨0,0,Nat.zero_le _,rfl,rfl⟩
 case round =>
  obtain ⟨j,k,hj,rfl,rfl⟩:=hrel
  by_cases hlt:j<T.length
  · obtain ⟨g,off,rfl,c1,c2,c3⟩:=tk_elem HE.out j hlt
    obtain ⟨g2,off2,rfl,d1,d2,d3⟩:=tk_elem HF.out j hlt
    generalize T[j]=e at c1 c2 c3 d1 d2 d3
    obtain ⟨ea,eo,en⟩:=e
    simp only at c1 c2 c3 d1 d2 d3
    have i1:(0:Int)≤(j:Int):=by omega
    have i2:(j:Int)<(T.length:Int):=by omega
    go_wp2_with fail
    go_quiet (fail)
    go_wp2_with fail
    go_roundw
    case rel=>exact ⟨j+1,_,by omega,by go_num,rfl⟩
    case measure=>simp [intOf]; omega
  · obtain rfl:j=T.length:=by omega
    go_wp2_with fail
    go_ret
    exact ⟨rfl,grow_drewNs w k⟩
theorem ext_list (s:ByteArray) (a b:Nat):(s.extract a b).data.toList=(s.data.toList.drop a).take (b-a):=by
 rw [ByteArray.data_extract,Array.toList_extract,List.extract_eq_take_drop]
theorem ba_list {s t:ByteArray} (h:s.data.toList=t.data.toList):s=t:=by
 apply ByteArray.ext
 exact Array.toList_inj.1 h
theorem ext_join (s:ByteArray) (a b c:Nat) (h1:a≤b) (h2:b≤c):s.extract a b++s.extract b c=s.extract a c:=by
 apply ba_list
 rw [ByteArray.data_append,Array.toList_append,ext_list,ext_list,ext_list,show c-a=(b-a)+(c-b) by omega,List.take_add,List.drop_drop,show a+(b-a)=b by omega]
theorem ext_none (s:ByteArray) (a:Nat):s.extract a a=⟨#[]⟩:=by
 apply ba_list
 rw [ext_list,Nat.sub_self,List.take_zero]
def splitR (ms:List Mrk) (s:ByteArray):List Tk × ByteArray × Nat × Nat :=
 if (piecesL (ms.map Mrk.pat) (setsM ms) s.data.toList).2.2=0 then
  if 2000<(toksL ms s (piecesL (ms.map Mrk.pat) (setsM ms) s.data.toList).1 0 []).1.length then ([],⟨#[]⟩,0,12)
  else ((toksL ms s (piecesL (ms.map Mrk.pat) (setsM ms) s.data.toList).1 0 []).1,s.extract (toksL ms s (piecesL (ms.map Mrk.pat) (setsM ms) s.data.toList).1 0 []).2 s.size,0,0)
 else ([],⟨#[]⟩,(piecesL (ms.map Mrk.pat) (setsM ms) s.data.toList).2.1,8)
def SplitOfPost (r:List Tk × ByteArray × Nat × Nat) (w:World) (e:Ending) (w':World):Prop :=
 ∃ v,e=.returned (.tuple #[v,.string r.2.1,.int .i64 (r.2.2.1:Nat),.int .i64 (r.2.2.2:Nat)])∧w'.ownsRow w.heap.size 66 3 v r.1.length (tkCells r.1)∧w.grownBy w' none
theorem pcsL_err (ps:List Pt) (L:List En) (s:List UInt8):∀ (n a:Nat) (acc:List Pc),(pcsL ps L s n a acc).2.2=0∨(pcsL ps L s n a acc).2.2=8
 | 0,_,_=>.inl rfl
 | n+1,a,acc=>by
  rw [pcsL]
  split
  · exact .inl rfl
  · split
    · exact .inr rfl
    · exact pcsL_err ps L s n _ _
def pcEnd:Nat→List Pc→Nat
 | a,[]=>a
 | a,x::r=>pcEnd (a+x.2.2.1) r
theorem pcsL_end (ps:List Pt) (L:List En) (s:List UInt8):∀ (n a:Nat) (acc:List Pc),a≤s.length→s.length<a+n→(pcsL ps L s n a acc).2.2=0→∃ rest,(pcsL ps L s n a acc).1=acc++rest∧pcEnd a rest=s.length
 | 0,a,acc,h1,h2,_=>by omega
 | n+1,a,acc,h1,h2,h=>by
  rw [pcsL] at h ⊢
  by_cases h3:s.length≤a
  · rw [if_pos h3] at h ⊢
    exact ⟨[],by simp,by simp only [pcEnd]; omega⟩
  · rw [if_neg h3] at h ⊢
    by_cases h4:(longL ps L s a).2.1=0
    · rw [if_pos h4] at h; cases h
    · rw [if_neg h4] at h ⊢
      have hle:=longL_le ps L s a
      obtain ⟨rest,e1,e2⟩:=pcsL_end ps L s n (a+(longL ps L s a).2.1) _ (by omega) (by omega) h
      exact ⟨((longL ps L s a).1,a,(longL ps L s a).2.1,(longL ps L s a).2.2)::rest,by rw [e1,List.append_assoc]; rfl,e2⟩
theorem piecesL_end (ps:List Pt) (L:List En) (s:List UInt8) (h:(piecesL ps L s).2.2=0):pcEnd 0 (piecesL ps L s).1=s.length:=by
 unfold piecesL at h ⊢
 split at h
 · cases h
 · rename_i h1
   rw [if_neg h1]
   obtain ⟨rest,e1,e2⟩:=pcsL_end ps L s (s.length+1) 0 [] (Nat.zero_le _) (by omega) h
   rw [e1,List.nil_append]
   exact e2
theorem info66n:(Tryz.prog.info? 66).map (fun i=>(i.zero,i.size,i.bytes))=some (some (.agg #[.string ⟨#[]⟩,.string ⟨#[]⟩,.string ⟨#[]⟩]),3,48):=by kernel_rfl
theorem splitOf_any (ms:List Mrk) (av:Option Addr) (mcap:Nat) (s:ByteArray) (w:World) (hs:s.size≤20000) (hc:chk ms=0) (hn:ylL (ms.map Mrk.pat)≤64) (hsz:sizes (ms.map Mrk.pat)≤500) (hA:ms=[]∨∃ b off,av=some ⟨b,off,none⟩∧MrkAt w ms b off) :
 Calls Tryz.prog 27 #[.slice av ms.length mcap,.string s] w (SplitOfPost (splitR ms s) w):=by
 obtain ⟨i66,hi,hz0,hz1,hz2⟩:=info_parts info66n
 have HI:=hid hi
 have HZ0:=hid hz0
 have HZ1:=hid hz1
 have HZ2:=hid hz2
 clear hi hz0 hz1 hz2
 have HPC:=hid (piecesOf_any ms av mcap s w hs hc hn hsz hA)
 have hpok:=fun h=>piecesL_ok (ms.map Mrk.pat) (setsM ms) s.data.toList h
 have hpe:=fun h=>piecesL_end (ms.map Mrk.pat) (setsM ms) s.data.toList h
 have hpl:=pieces_len (ms.map Mrk.pat) (setsM ms) s.data.toList
 have hperr:(piecesL (ms.map Mrk.pat) (setsM ms) s.data.toList).2.2=0∨(piecesL (ms.map Mrk.pat) (setsM ms) s.data.toList).2.2=8:=by
  unfold piecesL
  rw [if_neg (by rw [Array.length_toList]; show ¬ 20000<s.size; omega)]
  exact pcsL_err _ _ _ _ _ _
 have hmap:(ms.map Mrk.pat).length=ms.length:=by simp
 have hsl:s.data.toList.length=s.size:=by rw [Array.length_toList]; rfl
 rw [hmap,hsl] at hpok
 rw [hsl] at hpl hpe
 obtain ⟨P,hP⟩:∃ P,SplitOfPost (splitR ms s) w=P:=⟨_,rfl⟩
 rw [hP]
 have HP:=hid hP
 have HSR:Hid (splitR ms s=if (piecesL (ms.map Mrk.pat) (setsM ms) s.data.toList).2.2=0 then
  if 2000<(toksL ms s (piecesL (ms.map Mrk.pat) (setsM ms) s.data.toList).1 0 []).1.length then ([],⟨#[]⟩,0,12)
  else ((toksL ms s (piecesL (ms.map Mrk.pat) (setsM ms) s.data.toList).1 0 []).1,s.extract (toksL ms s (piecesL (ms.map Mrk.pat) (setsM ms) s.data.toList).1 0 []).2 s.size,0,0)
 else ([],⟨#[]⟩,(piecesL (ms.map Mrk.pat) (setsM ms) s.data.toList).2.1,8)):=hid rfl
 unfold PcOfPost at HPC
 generalize piecesL (ms.map Mrk.pat) (setsM ms) s.data.toList=PL at HPC hpok hpl hpe hperr HSR
 obtain ⟨pl,pat,perr⟩:=PL
 simp only at HPC hpok hpl hpe hperr HSR
 have HEL:=hid (fun (W:World) (g:w.grownBy W none) (j:Nat) (hj:j<ms.length)=>MrkAt.elem (hA.imp id (fun ⟨b,off,h1,h2⟩=>⟨b,off,h1,MrkAt.grow g ms b off h2⟩)) j hj)
 have HKM:=hid (fun (j:Nat) (hj:j<ms.length)=>show kindM ms j=ms[j].kind by simp [kindM,hj])
 obtain ⟨N,hN⟩:∃ N,ms.length=N:=⟨_,rfl⟩
 have HNN:=hid hN
 rw [hN] at HPC hpok ⊢
 have HPOK:=hid hpok
 have HPE:=hid hpe
 clear hP hA hc hn hsz hmap hsl hN hpok hpe
 go_enter Tryz.func27,Tryz.ntmps27
 go_wp2_with fail
 refine HPC.out.mono ?_
 rintro e w1 ⟨pv,rfl,own1,g1⟩
 obtain ⟨pa,pc,rfl⟩:=yos own1
 have HG1:=hid g1
 have HPA:=hid (pcAt_own own1 rfl)
 clear own1 g1 HPC
 rcases hperr with rfl | rfl
 · simp only []
   rw [if_pos rfl] at HSR
   have HPO:=hid (HPOK.out rfl)
   have HPF:=hid (HPE.out rfl)
   clear HPOK HPE
   obtain ⟨M,hM⟩:∃ M,pl.length=M:=⟨_,rfl⟩
   have HML:=hid hM
   rw [hM] at hpl ⊢
   clear hM
   have hs1:=HG1.out.size
   go_wp2_with fail
   go_loopw [11,12,29] (fun tv ld i wr=>∃ (j a en:Nat) (acc:List Tk) (ta:Option Addr) (tc:Nat),j≤M∧i=.int .i64 j∧en≤a∧a≤s.size∧acc.length≤j∧tv=.slice ta acc.length tc∧ld=.string (s.extract en a)∧Hid (toksL ms s (pl.drop j) en acc=toksL ms s pl 0 [])∧Hid (PcOk N s.size a (pl.drop j))∧Hid (pcEnd a (pl.drop j)=s.size)∧Hid (wr.ownsRow w1.heap.size 66 3 (.slice ta acc.length tc) acc.length (tkCells acc))∧Hid (w1.grownBy wr none)) (fun _ _ i _=>M-(intOf i).toNat)
   case atStart=>exact ⟨0,0,0,[],none,0,Nat.zero_le _,rfl,Nat.le_refl _,Nat.zero_le _,Nat.le_refl _,rfl,by rw [ext_none],hid rfl,HPO,HPF,hid (World.ownsRow_nil _ _ _ _),hid (grow_self w1)⟩
   case round =>
    obtain ⟨j,a,en,acc,ta,tc,hj,rfl,hen,ha,hacc,rfl,rfl,HE,HK,HF,HO,HG⟩:=hrel
    by_cases hlt:j<M
    · have hjp:j<pl.length:=by rw [HML.out]; exact hlt
      obtain ⟨qa,qc,hqv,hqe⟩:=HPA.out.grow HG.out
      simp only [Value.slice.injEq] at hqv
      obtain ⟨rfl,q3,q4⟩:=hqv
      clear q3 q4
      obtain ⟨g,o,rfl,d0,d1,d2,d3⟩:=pc_elem hqe j hjp
      have hE:=HE.out
      have hK:=HK.out
      have hF:=HF.out
      rw [List.drop_eq_getElem_cons hjp] at hE hK hF
      obtain ⟨⟨mk,at_,lg,sg⟩,hx⟩:∃ x,pl[j]=x:=⟨_,rfl⟩
      rw [hx] at hE hK hF d0 d1 d2 d3
      obtain ⟨k1,k2,k3,k4⟩:=hK
      simp only at k1 k2 k3 k4 d0 d1 d2 d3
      subst k2
      have HK2:=hid k4
      have HF2:=hid (show pcEnd (at_+lg) (pl.drop (j+1))=s.size from hF)
      have hmk:mk<ms.length:=by rw [HNN.out]; exact k1
      obtain ⟨b,off,xo,xl,xh,xa,xn,xc,rfl,h0,hrest⟩:=HEL.out wr (xT HG1.out HG.out) mk hmk
      have HKI:=hid (HKM.out mk hmk)
      obtain ⟨kind,hkd⟩:∃ k,ms[mk].kind=k:=⟨_,rfl⟩
      rw [hkd] at h0 HKI
      rw [toksL,HKI.out] at hE
      simp only at hE
      have HE2:=hid hE
      have h0A:=ycg h0 (xG wr (.cells #[.int .i64 mk,.int .i64 at_,.int .i64 lg,.int .i64 sg] 43) none)
      have HG2:=hid (yga HG.out (.cells #[.int .i64 mk,.int .i64 at_,.int .i64 lg,.int .i64 sg] 43))
      have HO2:=hid (HO.out.alloc (.cells #[.int .i64 mk,.int .i64 at_,.int .i64 lg,.int .i64 sg] 43))
      have F:=xN wr (.cells #[.int .i64 mk,.int .i64 at_,.int .i64 lg,.int .i64 sg] 43)
      clear hrest
      clear hE HE hqe hx hkd k4 HK hF HF
      clear hjp hmk
      go_upto_region 9 with (fail)
      generalize wr.alloc _=wa at h0A HG2 HO2 F ⊢
      generalize wr.heap.size=f at F ⊢
      obtain ⟨x0,x1,x2⟩:=cb3 F
      have i1:(0:Int)≤(at_:Int):=by omega
      have i2:(at_:Int)≤(at_:Int)+(lg:Int):=by omega
      have i3:(at_:Int)+(lg:Int)≤(s.size:Int):=by omega
      have m1:(0:Int)≤(mk:Int):=by omega
      have m2:(mk:Int)<(N:Int):=by omega
      clear F d0 d1 d2 d3 h0
      go_upto_region 11 with (fail)
      have HEXT:=hid (ext_join s en at_ (at_+lg) hen (by omega))
      by_cases hem:kind.toList.isEmpty=true
      · rw [if_pos hem] at HE2
        have hk:kind.toList=[]:=List.isEmpty_iff.1 hem
        go_wp2_with fail
        go_roundw
        case rel=>exact ⟨j+1,at_+lg,en,acc,ta,tc,by omega,by go_num,by omega,by omega,by omega,rfl,(by first | rfl | rw [HEXT.out]),HE2,HK2,HF2,hid (by first | exact HO2.out | exact ownsRow_block_kept HO2.out (fun _ _=>rfl)),HG2⟩
        case measure=>simp [intOf]; omega
      · rw [if_neg hem] at HE2
        replace hem:kind.toList.isEmpty=false:=by simpa using hem
        have hbs:=HG2.out.size
        go_wp2_with (at_builtin; go_must (refine wpList_append_own _ rfl _ _ 49 rfl w1.heap.size 66 i66 (.agg #[.string ⟨#[]⟩,.string ⟨#[]⟩,.string ⟨#[]⟩]) 3 48 Tryz.underlying49 HI.out HZ0.out HZ1.out HZ2.out rfl (by decide) _ _ _ rfl (HO2.out.alloc _) ⟨wa.heap.size,0,none⟩ 1 1 [.string kind,.string (s.extract en at_),.string (s.extract at_ (at_+lg))] rfl rfl (cells_new _ _ _) (by simp [Value.oneCell']) (by unfold maxLen; omega) (by omega) (by simp; omega) ?_; intro v' w3 hown' hgrow _; obtain ⟨ao,cap3,rfl⟩:=yos hown'))
        have HO3:=hid (show w3.ownsRow w1.heap.size 66 3 (.slice ao (acc++[(kind,s.extract en at_,s.extract at_ (at_+lg))]).length cap3) (acc++[(kind,s.extract en at_,s.extract at_ (at_+lg))]).length (tkCells (acc++[(kind,s.extract en at_,s.extract at_ (at_+lg))])) by rw [tkCells_snoc]; simpa using hown')
        have HG3:=hid (show w1.grownBy w3 none from grow_row (yga HG2.out _) hgrow (fun k hk=>(yob HO2.out k hk).1))
        have hal:(acc++[(kind,s.extract en at_,s.extract at_ (at_+lg))]).length=acc.length+1:=by simp
        rw [show acc.length+1=(acc++[(kind,s.extract en at_,s.extract at_ (at_+lg))]).length from hal.symm]
        clear hown' hgrow
        go_wp2_with fail
        go_roundw
        case rel =>
         repeat (apply Exists.intro)
         refine And.intro ?gleft ?gright
         case gright=>(repeat' (apply And.intro))<;>rfl
         case gleft=>exact ⟨j+1,at_+lg,at_+lg,_,ao,cap3,by omega,by go_num,Nat.le_refl _,by omega,by omega,rfl,by rw [ext_none],HE2,HK2,HF2,HO3,HG3⟩
        case measure=>simp [intOf]; omega
    · have hjM:pl.drop j=[]:=List.drop_eq_nil_of_le (by rw [HML.out]; omega)
      have hE:=HE.out
      have hF:=HF.out
      rw [hjM] at hE hF
      have HT:=hid (show toksL ms s pl 0 []=(acc,en) from hE.symm)
      have HAZ:=hid (show a=s.size from hF)
      clear hE hF hjM HE HF
      rw [HT.out] at HSR
      simp only at HSR
      by_cases hbig:2000<acc.length
      · have hbi:(2000:Int)<(acc.length:Int):=by omega
        rw [if_pos hbig] at HSR
        clear hbig
        go_wp2_with fail
        rw [← HP.out,HSR.out]
        exact bodyPost_ret (v:=.tuple #[.slice none 0 0,.string ⟨#[]⟩,.int .i64 0,.int .i64 12]) (by simp [results,Tryz.results27,go_sem]) rfl ⟨.slice none 0 0,rfl,World.ownsRow_nil _ _ _ _,xT HG1.out HG.out⟩
      · have hbi:¬ (2000:Int)<(acc.length:Int):=by omega
        rw [if_neg hbig] at HSR
        clear hbig
        go_wp2_with fail
        rw [← HP.out,HSR.out]
        exact bodyPost_ret (v:=.tuple #[.slice ta acc.length tc,.string (s.extract en a),.int .i64 0,.int .i64 0]) (by simp [results,Tryz.results27,go_sem]) rfl ⟨.slice ta acc.length tc,by rw [HAZ.out]; rfl,own_base HO.out hs1,xT HG1.out HG.out⟩
 · simp only [show decide ((8:Nat)=0)=false from rfl]
   rw [if_neg (by decide)] at HSR
   go_wp2_with fail
   rw [← HP.out,HSR.out]
   exact bodyPost_ret (v:=.tuple #[.slice none 0 0,.string ⟨#[]⟩,.int .i64 pat,.int .i64 8]) (by simp [results,Tryz.results27,go_sem]) rfl ⟨.slice none 0 0,rfl,World.ownsRow_nil _ _ _ _,HG1.out⟩
def sameLT:List (ByteArray × ByteArray × ByteArray)→List (ByteArray × ByteArray × ByteArray)→Bool
 | x::r,y::q=>(x.2.1.toList == y.2.1.toList) && (x.2.2.toList == y.2.2.toList) && sameLT r q
 | _,_=>true
def intoB (r:ByteArray × List (Nat × Nat × Nat × Nat) × List (ByteArray × ByteArray × ByteArray) × ByteArray × Nat × Nat) (T:List (ByteArray × ByteArray × ByteArray)):Bool :=
 decide (r.2.2.2.2.2=0) && r.2.2.2.1.toList.isEmpty && decide (r.2.2.1.length=T.length) && sameLT r.2.2.1 T
def intoM (ms:List Mrk) (s:ByteArray) (T:List (ByteArray × ByteArray × ByteArray)):Bool:=intoB (splitL (ms.map Mrk.pat) (setsM ms) ms s) T
def betwL (ms:List Mrk) (s t:ByteArray):List ByteArray→ByteArray × Bool
 | []=>(⟨#[]⟩,false)
 | l::r=>if intoM ms (s++l++t) [(⟨#[]⟩,⟨#[]⟩,s),(⟨#[]⟩,l,t)]=true then (l,true) else betwL ms s t r
def leads:List ByteArray:=[⟨#[]⟩,⟨#[32]⟩,⟨#[10]⟩]
def betweenM (ms:List Mrk) (s t:ByteArray):ByteArray × Bool × Int :=
 if chk ms=0 then
  if intoM ms s [(⟨#[]⟩,⟨#[]⟩,s)]=false then (⟨#[]⟩,false,3)
  else if intoM ms t [(⟨#[]⟩,⟨#[]⟩,t)]=false then (⟨#[]⟩,false,3)
  else ((betwL ms s t leads).1,(betwL ms s t leads).2,0)
 else (⟨#[]⟩,false,chk ms)
theorem pcEnd_ge:∀ (l:List Pc) (a:Nat),a≤pcEnd a l
 | [],_=>Nat.le_refl _
 | x::r,a=>by have:=pcEnd_ge r (a+x.2.2.1); simp only [pcEnd]; omega
theorem tkText_snoc (x:Tk):∀ T:List Tk,tkText (T++[x])=tkText T++(x.2.1.data.toList++x.2.2.data.toList)
 | []=>by simp [tkText]
 | y::T=>by simp [tkText,tkText_snoc x T]
theorem ext_cat (s:ByteArray) (a b c:Nat) (h1:a≤b) (h2:b≤c):(s.extract a b).data.toList++(s.extract b c).data.toList=(s.extract a c).data.toList:=by
 rw [← ext_join s a b c h1 h2,ByteArray.data_append,Array.toList_append]
theorem toks_text (ms:List Mrk) (s:ByteArray) (N sz:Nat):∀ (l:List Pc) (a en:Nat) (acc:List Tk),PcOk N sz a l→en≤a →
 tkText (toksL ms s l en acc).1++(s.extract (toksL ms s l en acc).2 (pcEnd a l)).data.toList=tkText acc++(s.extract en (pcEnd a l)).data.toList
 | [],_,_,_,_,_=>rfl
 | x::r,a,en,acc,h,hen=>by
  obtain ⟨_,h2,_,h4⟩:=h
  have hge:=pcEnd_ge r (a+x.2.2.1)
  rw [toksL]
  split
  · exact toks_text ms s N sz r (a+x.2.2.1) en acc h4 (by omega)
  · rw [h2]
    have:=toks_text ms s N sz r (a+x.2.2.1) (a+x.2.2.1) (acc++[(kindM ms x.1,s.extract en a,s.extract a (a+x.2.2.1))]) h4 (Nat.le_refl _)
    simp only [pcEnd]
    rw [this,tkText_snoc,List.append_assoc,List.append_assoc,ext_cat s a _ _ (by omega) hge,ext_cat s en a _ hen (by omega)]
theorem ext_all (s:ByteArray):(s.extract 0 s.size).data.toList=s.data.toList:=by
 rw [ext_list,List.drop_zero,List.take_of_length_le (by rw [Array.length_toList]; exact Nat.le_refl _)]
theorem split_text (ms:List Mrk) (s:ByteArray) (h:(piecesL (ms.map Mrk.pat) (setsM ms) s.data.toList).2.2=0) :
 tkText (toksL ms s (piecesL (ms.map Mrk.pat) (setsM ms) s.data.toList).1 0 []).1++(s.extract (toksL ms s (piecesL (ms.map Mrk.pat) (setsM ms) s.data.toList).1 0 []).2 s.size).data.toList=s.data.toList:=by
 have h1:=piecesL_ok _ _ _ h
 have h2:=piecesL_end _ _ _ h
 have hsl:s.data.toList.length=s.size:=by rw [Array.length_toList]; rfl
 rw [hsl] at h2
 have:=toks_text ms s _ _ _ 0 0 [] h1 (Nat.le_refl _)
 rw [h2,ext_all] at this
 exact this
theorem splitR_text (ms:List Mrk) (s:ByteArray) (h:(splitR ms s).2.2.2=0):tkText (splitR ms s).1++(splitR ms s).2.1.data.toList=s.data.toList:=by
 unfold splitR at h ⊢
 by_cases h0:(piecesL (ms.map Mrk.pat) (setsM ms) s.data.toList).2.2=0
 · rw [if_pos h0] at h ⊢
   by_cases h1:2000<(toksL ms s (piecesL (ms.map Mrk.pat) (setsM ms) s.data.toList).1 0 []).1.length
   · rw [if_pos h1] at h; cases h
   · rw [if_neg h1]; exact split_text ms s h0
 · rw [if_neg h0] at h; cases h
end Go.Proofs.YtplbacfjmajeeaaGreatDoor
