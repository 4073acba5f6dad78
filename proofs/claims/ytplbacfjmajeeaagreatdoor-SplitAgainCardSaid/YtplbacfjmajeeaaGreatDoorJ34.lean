import Derived.Test.YtplbacfjmajeeaaGreatDoorJ33
namespace Go.Proofs.YtplbacfjmajeeaaGreatDoor
open Go.Lib (hid)
set_option maxHeartbeats 4000000
set_option maxRecDepth 100000
open Go.RowKit
structure BestIn (ps:List Pt) (c:Nat→UInt8) (n i:Nat) (E:List Nat) (mk lg:Nat):Prop where
 up:∀ (m:Nat) (p:Pt),m<i→ps[m]? = some p→∀ e,e≤n→p.Lg (seg c 0 e)→e≤lg
 upE:∀ e∈E,e≤lg
 has:0<lg→lg≤n∧mk≤i∧∃ p,ps[mk]? = some p∧p.Lg (seg c 0 lg)
 first:0<lg→∀ (m:Nat) (p:Pt),m<mk→ps[m]? = some p→¬ p.Lg (seg c 0 lg)
theorem BestIn.begin (ps:List Pt) (c:Nat→UInt8) (n mk:Nat):BestIn ps c n 0 [] mk 0:=⟨fun _ _ h=>absurd h (Nat.not_lt_zero _),fun _ h=>(by cases h),fun h=>absurd h (Nat.lt_irrefl _),fun h=>absurd h (Nat.lt_irrefl _)⟩
theorem BestIn.keep {ps:List Pt} {c:Nat→UInt8} {n i:Nat} {E:List Nat} {mk lg e:Nat} (h:BestIn ps c n i E mk lg) (he:e≤lg):BestIn ps c n i (E++[e]) mk lg :=
 ⟨h.up,fun x hx=>(List.mem_append.1 hx).elim (h.upE x) (fun hx=>by rw [List.mem_singleton] at hx; subst hx; exact he),h.has,h.first⟩
theorem BestIn.take {ps:List Pt} {c:Nat→UInt8} {n i:Nat} {E:List Nat} {mk lg e:Nat} {p:Pt} (h:BestIn ps c n i E mk lg) (he:lg<e) (hn:e≤n) (hp:ps[i]? = some p) (hl:p.Lg (seg c 0 e)):BestIn ps c n i (E++[e]) i e :=
 ⟨fun m q hm hq x hx hxl=>(by have:=h.up m q hm hq x hx hxl; omega),fun x hx=>(List.mem_append.1 hx).elim (fun hx=>by have:=h.upE x hx; omega) (fun hx=>by rw [List.mem_singleton] at hx; omega),
  fun _=>⟨hn,Nat.le_refl _,p,hp,hl⟩,fun _ m q hm hq hx=>by have:=h.up m q hm hq e hn hx; omega⟩
theorem BestIn.next {ps:List Pt} {c:Nat→UInt8} {n i:Nat} {E:List Nat} {mk lg:Nat} {p:Pt} (h:BestIn ps c n i E mk lg) (hp:ps[i]? = some p) (hE:∀ e,e≤n→p.Lg (seg c 0 e)→e∈E):BestIn ps c n (i+1) [] mk lg :=
 by
 refine ⟨fun m q hm hq e he hl=>?_,fun _ h=>(by cases h),fun hl=>(by obtain ⟨h1,h2,h3⟩:=h.has hl; exact ⟨h1,by omega,h3⟩),h.first⟩
 by_cases hmi:m=i
 · subst hmi
   rw [hp] at hq
   obtain rfl:p=q:=by simpa using hq
   exact h.upE e (hE e he hl)
 · exact h.up m q (by omega) hq e he hl
theorem BestIn.best {ps:List Pt} {c:Nat→UInt8} {n:Nat} {mk lg:Nat} (h:BestIn ps c n ps.length [] mk lg):Best ps c n mk lg :=
 ⟨fun m p hp e he hl=>h.up m p (List.getElem?_eq_some_iff.1 hp).1 hp e he hl,fun hl=>⟨(h.has hl).1,(h.has hl).2.2⟩,h.first⟩
theorem mrk_mks {w:World} {ms:List Mrk} {b off:Nat} (h:MrkAt w ms b off):MksAt w (ms.map Mrk.pat) b off:=by
 intro j hj
 have hj2:j<ms.length:=by simpa using hj
 obtain ⟨b2,off2,o,l,hh,x,n,c,e1,h0,h1,h2,h3,h4,h5⟩:=MrkAt.elem (av:=some ⟨b,off,none⟩) (.inr ⟨b,off,rfl,h⟩) j hj2
 simp only [Option.some.injEq,Addr.mk.injEq,and_true] at e1
 obtain ⟨rfl,rfl⟩:=e1
 exact ⟨ms[j].kind,o,l,hh,x,n,c,h0,h1,h2,h3,h4,by simpa using h5⟩
def mkI (mk lg:Nat):Int:=if lg=0 then -1 else mk
open Go.RowKit Go.Region
def chrA (s:ByteArray) (a j:Nat):UInt8:=(s.data.toList.drop a).getD j 0
theorem chr_cut (s:ByteArray) (a:Nat) (h:a≤s.size):(s.extract a s.size).size=s.size-a∧chr (s.extract a s.size)=chrA s a:=by
 have h1:(s.extract a s.size).data.toList=s.data.toList.drop a:=by
  rw [ByteArray.data_extract,Array.toList_extract]
  rw [List.extract_eq_take_drop]
  refine List.take_of_length_le ?_
  rw [List.length_drop,Array.length_toList]
  exact Nat.le_refl _
 refine ⟨by rw [ByteArray.size_extract]; omega,?_⟩
 funext j
 unfold chr chrA
 rw [h1]
theorem chrA_get (s:ByteArray) (a j:Nat) (h:a+j<s.size):chrA s a j=s[a+j]:=by
 unfold chrA
 rw [List.getD_eq_getElem?_getD,List.getElem?_drop,← List.getD_eq_getElem?_getD]
 exact ba_getD s (a+j) h
def LOfPost (ps:List Pt) (s:ByteArray) (a:Nat) (w:World) (e:Ending) (w':World):Prop :=
 ∃ mk lg sg:Nat,e=.returned (.agg #[.int .i64 (mkI mk lg),.int .i64 a,.int .i64 lg,.int .i64 sg])∧w.grownBy w' none∧Best ps (chrA s a) (s.size-a) mk lg∧sg=sightR ps (chrA s a) (s.size-a) 0
structure LofR (w:World) (a:Nat) (mk lg:Nat) (wr:World):Prop where
 res:wr.heap[w.heap.size]? = some (.cells #[.int .i64 0,.int .i64 0,.int .i64 0,.int .i64 0] 43 (0,0))
 out:wr.heap[w.heap.size+1]? = some (.cells #[.int .i64 (mkI mk lg),.int .i64 a,.int .i64 lg,.int .i64 0] 43 (0,0))
 gr:w.grownBy wr none
theorem LofR.grow {w:World} {a mk lg:Nat} {wr wr':World} (h:LofR w a mk lg wr) (g:wr.grownBy wr' none):LofR w a mk lg wr':=⟨grow_new g h.res,grow_new g h.out,xT h.gr g⟩
theorem LofR.set {w:World} {a mk lg:Nat} {wr:World} (h:LofR w a mk lg wr) {j x:Nat} (hx:0<x):LofR w a j x ((wr.setCell ⟨w.heap.size+1,0,none⟩ (.int .i64 j)).setCell ⟨w.heap.size+1,2,none⟩ (.int .i64 x)):=by
 have b:=yhs (yhs h.out 0 (.int .i64 j)) 2 (.int .i64 x)
 simp only [xSi,xSs,xSz] at b
 refine ⟨?_,?_,ygs (ygs h.gr _ _ (by simp)) _ _ (by simp)⟩
 · rw [Below.heap_setCell _ _ _ _ (by simp),Below.heap_setCell _ _ _ _ (by simp)]
   exact h.res
 · rw [b,mkI,if_neg (by omega)]
theorem set_apart {w:World} {B i k:Nat} {u v:Value} {xs:List Int} {sv:Value} (h:Ints w sv xs) (hl:LowV (B+1) sv):Ints ((w.setCell ⟨B,i,none⟩ u).setCell ⟨B,k,none⟩ v) sv xs:=by
 obtain ⟨a,c,rfl,h⟩:=h
 refine ⟨a,c,rfl,?_⟩
 rcases h with h | ⟨g,o,rfl,h⟩
 · exact .inl h
 · have hg:B+1≤g:=hl g rfl
   refine .inr ⟨g,o,rfl,fun j x hj=>?_⟩
   rw [← h j x hj]
   exact World.cell?_of_block (by rw [Below.heap_setCell _ _ _ _ (by simp; omega),Below.heap_setCell _ _ _ _ (by simp; omega)])
theorem LofR.fin {w:World} {a mk lg:Nat} {wr:World} (h:LofR w a mk lg wr) (sg:Int) (w9:World) (h9:((((wr.setCell ⟨w.heap.size+1,3,none⟩ (.int .i64 sg)).setCell ⟨w.heap.size,0,none⟩ (.int .i64 (mkI mk lg))).setCell ⟨w.heap.size,1,none⟩ (.int .i64 a)).setCell ⟨w.heap.size,2,none⟩ (.int .i64 lg)).setCell ⟨w.heap.size,3,none⟩ (.int .i64 sg)=w9) :
 w.grownBy w9 none∧w9.cell? ⟨w.heap.size,0,none⟩=some (.int .i64 (mkI mk lg))∧w9.cell? ⟨w.heap.size,1,none⟩=some (.int .i64 a)∧w9.cell? ⟨w.heap.size,2,none⟩=some (.int .i64 lg)∧w9.cell? ⟨w.heap.size,3,none⟩=some (.int .i64 sg):=by
 have b0:(wr.setCell ⟨w.heap.size+1,3,none⟩ (.int .i64 sg)).heap[w.heap.size]? = some (.cells #[.int .i64 0,.int .i64 0,.int .i64 0,.int .i64 0] 43 (0,0)):=by
  rw [Below.heap_setCell _ _ _ _ (by simp)]; exact h.res
 have b:=yhs (yhs (yhs (yhs b0 0 (.int .i64 (mkI mk lg))) 1 (.int .i64 a)) 2 (.int .i64 lg)) 3 (.int .i64 sg)
 simp only [xSi,xSs,xSz] at b
 have g:=ygs (ygs (ygs (ygs (ygs h.gr ⟨w.heap.size+1,3,none⟩ (.int .i64 sg) (by simp)) ⟨w.heap.size,0,none⟩ (.int .i64 (mkI mk lg)) (by simp)) ⟨w.heap.size,1,none⟩ (.int .i64 a) (by simp)) ⟨w.heap.size,2,none⟩ (.int .i64 lg) (by simp)) ⟨w.heap.size,3,none⟩ (.int .i64 sg) (by simp)
 rw [h9] at b g
 refine ⟨g,?_,?_,?_,?_⟩<;>rw [xC b]<;>rfl
theorem canR_len (ps:List Pt) (c:Nat→UInt8) (j:Nat):(canR ps c j).length≤ylL ps:=by
 have h:(canR ps c j).Pairwise (· < ·):=by
  cases j with
  | zero =>
   have:=(canAt_ok ps [] 0).1
   simpa [canAt,canR] using this
  | succ j=>exact nextS_rising _ _ _
 have:=ris_len (canR ps c j) 0 (ylL ps) h (fun x hx=>⟨Nat.zero_le _,canR_in ps c j x hx⟩)
 omega
theorem sight_step (ps:List Pt) (c:Nat→UInt8) (n q SG:Nat) (hq:q<n) (h:sightR ps c (n-q) q=SG):(canR ps c (q+1)=[]→q+1=SG)∧(canR ps c (q+1)≠[]→sightR ps c (n-(q+1)) (q+1)=SG):=by
 rw [show n-q=(n-(q+1))+1 by omega,sightR] at h
 exact ⟨fun he=>by rw [if_pos he] at h; exact h,fun he=>by rw [if_neg he] at h; exact h⟩
theorem longestOf_any (ms:List Mrk) (b off cap:Nat) (s:ByteArray) (a:Nat) (w:World) (hs:s.size≤100000) (ha:a≤s.size) (hR:∀ p∈ms.map Mrk.pat,Right p) (hl:ms.length≤1000) (hn:ylL (ms.map Mrk.pat)≤10000) (hsz:2*sizes (ms.map Mrk.pat)*100000000≤100000000000) (hA:MrkAt w ms b off) :
 Calls Tryz.prog 25 #[.slice (some ⟨b,off,none⟩) ms.length cap,.string s,.int .i64 a] w (LOfPost (ms.map Mrk.pat) s a w):=by
 obtain ⟨hct,hcc⟩:=chr_cut s a ha
 have HMK:=hid (mrk_mks hA)
 have HA:=hid hA
 have HR:=hid hR
 have HSZ:=hid (And.intro hn hsz)
 have hlp:(ms.map Mrk.pat).length=ms.length:=by simp
 have HSO:Hid (∀ W,w.grownBy W none→Calls Tryz.prog 46 #[.slice (some ⟨b,off,none⟩) ms.length cap] W fun e w'=>∃ X,e=.returned (.pointer (some ⟨X,0,none⟩))∧SpotRel W X (ms.map Mrk.pat) w'):=hid (fun W g=>by
  rw [← hlp]
  exact spotsOf_any _ b off cap W hR (mrk_mks (hA.grow g)) hn hsz)
 have HGE:=hid (fun (j:Nat) (hj:j<ms.length)=>show (ms.map Mrk.pat)[j]? = some ms[j].pat by simp [hj])
 have HSP:=hid (fun (j:Nat) (hj:j<ms.length)=>show ms[j].pat.size≤1000000 by
  have:=size_le_sizes (ms.map Mrk.pat) ms[j].pat (List.mem_map.2 ⟨ms[j],List.getElem_mem hj,rfl⟩); omega)
 have HRP:=hid (fun (j:Nat) (hj:j<ms.length)=>hR ms[j].pat (List.mem_map.2 ⟨ms[j],List.getElem_mem hj,rfl⟩))
 obtain ⟨t,ht⟩:∃ t,s.extract a s.size=t:=⟨_,rfl⟩
 rw [ht] at hct hcc
 have HCT:=hid (And.intro hct hcc)
 have HT:=hid ht
 obtain ⟨P,hP⟩:∃ P,LOfPost (ms.map Mrk.pat) s a w=P:=⟨_,rfl⟩
 rw [hP]
 have HP:=hid hP
 have HLP:=hid hlp
 obtain ⟨ps,hps⟩:∃ ps,ms.map Mrk.pat=ps:=⟨_,rfl⟩
 rw [hps] at HMK HR HSZ HSO HGE HP HLP
 have HNM:=hid (fun (j:Nat) (hj:j<ms.length)=>MrkAt.elem (av:=some ⟨b,off,none⟩) (.inr ⟨b,off,rfl,HA.out⟩) j hj)
 obtain ⟨N,hN⟩:∃ N,ms.length=N:=⟨_,rfl⟩
 have HNN:=hid hN
 rw [hN] at HSO HLP hl ⊢
 have ha0:(0:Int)≤(a:Int):=by omega
 have ha1:(a:Int)≤(s.size:Int):=by omega
 clear hP hps hA hR hn hsz hlp hct hcc hN HMK HR
 go_enter Tryz.func25,Tryz.ntmps25
 go_wp2_with fail
 have r0:=xN w (.cells #[.int .i64 0,.int .i64 0,.int .i64 0,.int .i64 0] 43)
 have g0:=xG w (.cells #[.int .i64 0,.int .i64 0,.int .i64 0,.int .i64 0] 43) none
 have o1:=yhn (w.alloc (.cells #[.int .i64 0,.int .i64 0,.int .i64 0,.int .i64 0] 43)) (.cells #[.int .i64 (-1),.int .i64 a,.int .i64 0,.int .i64 0] 43) (w.heap.size+1) (by simp)
 have HO:Hid (LofR w a 0 0 ((w.alloc (.cells #[.int .i64 0,.int .i64 0,.int .i64 0,.int .i64 0] 43)).alloc (.cells #[.int .i64 (-1),.int .i64 a,.int .i64 0,.int .i64 0] 43))):=hid ⟨grow_new (xG _ _ none) r0,o1,yga g0 _⟩
 clear r0 g0 o1
 generalize (w.alloc _).alloc _=w2 at HO ⊢
 go_loopw [19] (fun i wr=>∃ (j mk lg:Nat),j≤N∧i=.int .i64 j∧lg≤s.size∧mk≤N∧Hid (LofR w a mk lg wr)∧Hid (BestIn ps (chrA s a) (s.size-a) j [] mk lg)) (fun i _=>N-(intOf i).toNat)
 case atStart=>exact ⟨0,0,0,Nat.zero_le _,rfl,Nat.zero_le _,Nat.zero_le _,HO,hid (BestIn.begin _ _ _ _)⟩
 case round =>
  obtain ⟨j,mk,lg,hj,rfl,hlg,hmk,HO2,HB⟩:=hrel
  by_cases hlt:j<N
  · have hjm:j<ms.length:=by rw [HNN.out]; exact hlt
    obtain ⟨b2,off2,xo,xl,xh,xa,xn,xc,e1,h0,h1,h2,h3,h4,hq⟩:=HNM.out j hjm
    simp only [Option.some.injEq,Addr.mk.injEq,and_true] at e1
    obtain ⟨e2,e3⟩:=e1
    subst e2 e3
    replace h0:=ycg h0 HO2.out.gr
    replace h1:=ycg h1 HO2.out.gr
    replace h2:=ycg h2 HO2.out.gr
    replace h3:=ycg h3 HO2.out.gr
    replace h4:=ycg h4 HO2.out.gr
    have HGJ:=hid (HGE.out j hjm)
    have HCE:Hid (∀ (W:World) (g:Nat),wr.grownBy W none→w.heap.size+2≤g→W.heap[g]? = some (.cells #[.int .i64 0] 3 (0,0))→Calls Tryz.prog 57 #[.agg #[.int .i64 xo,.int .i64 xl,.int .i64 xh,.slice xa xn xc],.string t,.slice (some ⟨g,0,none⟩) 1 1] W (EndPost t.size (Cut (chr t) t.size ms[j].pat.Lg (·∈[0])) (w.heap.size+2) W)) :=
     hid (fun W g gW hg2 hb=>ends_any t (by rw [HCT.out.1]; omega) _ (HRP.out j hjm) (HSP.out j hjm) [0] _ _ (w.heap.size+2) W (Nat.le_trans (xL HO2.out.out) gW.size) (fun k hk=>by simp only [Value.ownBlock,Option.some.injEq] at hk; omega) ⟨by simp,fun x hx=>by rw [List.mem_singleton] at hx; omega⟩ (PtAt.grow (xT HO2.out.gr gW) _ _ hq) ⟨_,_,rfl,.inr ⟨g,0,rfl,fun j u hu=>by rw [Nat.zero_add,xC hb j]; simpa [intC,natI] using hu⟩⟩)
    generalize ms[j]=m at h0 HGJ HCE
    obtain ⟨kind,pat⟩:=m
    simp only at h0 HGJ HCE
    clear hq hjm
    have HW1:=hid (xN wr (.cells #[.string kind,.int .i64 xo,.int .i64 xl,.int .i64 xh,.slice xa xn xc] 88))
    have HO3:=hid (HO2.out.grow (xG wr (.cells #[.string kind,.int .i64 xo,.int .i64 xl,.int .i64 xh,.slice xa xn xc] 88) none))
    have HG3:=hid (xG wr (.cells #[.string kind,.int .i64 xo,.int .i64 xl,.int .i64 xh,.slice xa xn xc] 88) none)
    go_upto_region 5 with (fail)
    generalize wr.alloc _=w4 at HW1 HO3 HG3 ⊢
    generalize wr.heap.size=f at HW1 ⊢
    obtain ⟨x0,x1,x2,x3,x4⟩:=cb5 HW1.out
    clear h0 h1 h2 h3 h4 HW1
    have HC4:Hid (∀ (W:World) (g:Nat),w4.grownBy W none→w.heap.size+2≤g→W.heap[g]? = some (.cells #[.int .i64 0] 3 (0,0))→Calls Tryz.prog 57 #[.agg #[.int .i64 xo,.int .i64 xl,.int .i64 xh,.slice xa xn xc],.string t,.slice (some ⟨g,0,none⟩) 1 1] W (EndPost t.size (Cut (chr t) t.size pat.Lg (·∈[0])) (w.heap.size+2) W)):=hid (fun W g gW hg2 hb=>HCE.out W g (xT HG3.out gW) hg2 hb)
    have hw4:w.heap.size+2≤w4.heap.size:=xL HO3.out.out
    clear HCE HG3
    go_cut [30,31,32] (fun v1 v2 v3 wx=>∃ (E:List Nat) (a5:Option Addr) (c5:Nat),v1=.slice a5 E.length c5∧v2=.int .i64 E.length∧v3=.int .i64 0∧Hid (Ints wx (.slice a5 E.length c5) (natI E))∧Hid (LowV (w.heap.size+2) (.slice a5 E.length c5))∧Hid (w4.grownBy wx none)∧Hid (Ris t.size E)∧Hid (∀ x,x∈E↔Cut (chr t) t.size pat.Lg (·∈[0]) x))
    case first =>
     have z1:=ycg x1 (xG w4 (.cells #[.int .i64 0] 3) none)
     have z2:=ycg x2 (xG w4 (.cells #[.int .i64 0] 3) none)
     have z3:=ycg x3 (xG w4 (.cells #[.int .i64 0] 3) none)
     have z4:=ycg x4 (xG w4 (.cells #[.int .i64 0] 3) none)
     go_region_law (go_simp; go_at_call 57; go_must (refine (HC4.out _ w4.heap.size (by repeat (first | exact grow_self _ | apply grow_drew | apply yga)) hw4 (by exact xN w4 _)).mono ?_; rintro e w5 ⟨v5,rfl,O,i5,l5,g5,r5,m5⟩; obtain ⟨a5,c5,rfl,hx5⟩:=i5.elem; rw [natI_len] at hx5 i5 l5 ⊢; clear hx5))
     all_goals (go_wp2_with fail; go_meet)
     all_goals
      have gT:=xT (show w4.grownBy (w4.alloc (.cells #[.int .i64 0] 3)) none from xG _ _ _) (by first | exact g5 | exact grow_undrew g5 | exact grow_undrew (grow_undrew g5))
      exact ⟨O,a5,c5,rfl,rfl,rfl,hid (by first | exact i5 | exact i5.grow (grow_drew (grow_self _)) | exact i5.grow (grow_drew (grow_drew (grow_self _)))),hid l5,hid (by first | exact gT | exact grow_drew gT | exact grow_drew (grow_drew gT)),hid r5,hid m5⟩
    case rest =>
     obtain ⟨E,a5,c5,rfl,rfl,rfl,HE,HLE,HG5,HRE,HME⟩:=hcut
     have HO5:=hid (HO3.out.grow HG5.out)
     obtain ⟨w5,rfl⟩:∃ v:World,v=wc:=⟨_,rfl⟩
     have HEL:=hid (fun x (hx:x∈E)=>show x≤s.size-a∧pat.Lg (seg (chrA s a) 0 x) from by
      obtain ⟨f2,h1,h2,h3,h4⟩:=(HME.out x).1 hx
      have h1:f2∈[0]:=h1
      rw [List.mem_singleton] at h1
      subst h1
      rw [HCT.out.1] at h3
      rw [HCT.out.2,Nat.sub_zero] at h4
      exact ⟨h3,h4⟩)
     have HEA:=hid (fun e (he:e≤s.size-a) (hl:pat.Lg (seg (chrA s a) 0 e))=>show e∈E from (HME.out e).2 ⟨0,by simp,Nat.zero_le _,by rw [HCT.out.1]; exact he,by rw [HCT.out.2]; exact hl⟩)
     have hEl:=HRE.out.len
     rw [HCT.out.1] at hEl
     clear HO3 HG5 HRE HME HC4 x0 x1 x2 x3 x4
     go_wp2_with fail
     go_loopw [32] (fun i wr=>∃ (q mk lg:Nat),q≤E.length∧i=.int .i64 q∧lg≤s.size∧mk≤N∧Hid (LofR w a mk lg wr)∧Hid (Ints wr (.slice a5 E.length c5) (natI E))∧Hid (BestIn ps (chrA s a) (s.size-a) j (E.take q) mk lg)) (fun i _=>E.length-(intOf i).toNat)
     case atStart=>exact ⟨0,mk,lg,Nat.zero_le _,rfl,hlg,hmk,HO5,HE,HB⟩
     case round =>
      obtain ⟨q,mk,lg,hq,rfl,hlg,hmk,HO6,HE6,HB6⟩:=hrel
      by_cases hlt2:q<E.length
      · obtain ⟨ca',cc',e1,he⟩:=HE6.out.elem
        obtain ⟨g1,o1,e2,hce⟩:=he q (by rw [natI_len]; exact hlt2)
        simp only [Value.slice.injEq] at e1
        obtain ⟨rfl,e3,e4⟩:=e1
        clear e3 e4
        subst e2
        have hgd:(natI E).getD q 0=((E[q]:Nat):Int):=by simp [natI,List.getD,hlt2]
        rw [hgd] at hce
        have HTK:=hid (show E.take (q+1)=E.take q++[E[q]] from List.take_succ_eq_append_getElem hlt2)
        have hex:=HEL.out E[q] (List.getElem_mem hlt2)
        have hg1:w.heap.size+2≤g1:=HLE.out g1 rfl
        clear he hgd
        generalize E[q]=x at hce HTK hex
        obtain ⟨hxn,hxl⟩:=hex
        have HXL:=hid hxl
        clear hxl
        have y0:=xC HO6.out.out 0
        have y2:=xC HO6.out.out 2
        have f0:=yfb HO6.out.out 0
        have f2:=yfb HO6.out.out 2
        simp only [xGe,xGz,xGs] at y0 y2
        have hq3:(q:Int)<(E.length:Int):=by omega
        by_cases hgt:lg<x
        · have hgti:(lg:Int)<(x:Int):=by omega
          have HB7:=hid (show BestIn ps (chrA s a) (s.size-a) j (E.take (q+1)) j x by rw [HTK.out]; exact HB6.out.take hgt hxn HGJ.out HXL.out)
          have HO7:=hid (HO6.out.set (j:=j) (x:=x) (by omega))
          have HE7:=hid (set_apart (B:=w.heap.size+1) (i:=0) (k:=2) (u:=.int .i64 j) (v:=.int .i64 x) HE6.out HLE.out)
          go_wp2_with fail
          generalize (wr.setCell _ _).setCell _ _=w7 at HO7 HE7 ⊢
          go_roundw
          case rel=>exact ⟨q+1,j,x,by omega,by go_num,by omega,by omega,HO7,HE7,HB7⟩
          case measure=>simp [intOf]; omega
        · have hgti:¬ (lg:Int)<(x:Int):=by omega
          have HB7:=hid (show BestIn ps (chrA s a) (s.size-a) j (E.take (q+1)) mk lg by rw [HTK.out]; exact HB6.out.keep (by omega))
          go_wp2_with fail
          go_roundw
          case rel=>exact ⟨q+1,mk,lg,by omega,by go_num,hlg,hmk,HO6,HE6,HB7⟩
          case measure=>simp [intOf]; omega
      · have HTK:=hid (show E.take q=E by rw [List.take_of_length_le (by omega)])
        have HB7:=hid (show BestIn ps (chrA s a) (s.size-a) (j+1) [] mk lg from (HB6.out.next HGJ.out (fun e he hl=>by rw [HTK.out]; exact HEA.out e he hl)))
        clear HE6 HB6
        go_wp2_with fail
        go_roundw
        case rel=>exact ⟨j+1,mk,lg,by omega,by go_num,hlg,hmk,HO6,HB7⟩
        case measure=>simp [intOf]; omega
  · have hjN:j=N:=by omega
    have HBE:Hid (Best ps (chrA s a) (s.size-a) mk lg):=hid (by have:=HB.out; rw [hjN,← HLP.out] at this; exact this.best)
    clear HB hjN
    obtain ⟨wo,rfl⟩:∃ v:World,v=wr:=⟨_,rfl⟩
    have HC:=hid (HSO.out wo HO2.out.gr)
    go_wp2_with fail
    refine HC.out.mono ?_
    rintro e w5 ⟨X,rfl,V,fo,fa,fn,fk,hfi,S,gS⟩
    have HS:=hid S
    have HO5:=hid (HO2.out.grow gS)
    have xb5:=xC S.blk 5
    simp only [xGe,xGz,xGs] at xb5
    rw [hfi] at xb5
    have HF0:Hid (Ints w5 (.slice fa fn fk) (natI (canR ps (chrA s a) 0))):=hid (by rw [← hfi]; exact Ints.of_own (S.rows.get (j:=5) rfl))
    have hfn:fn=(canR ps (chrA s a) 0).length:=by
     obtain ⟨_,_,e1,_⟩:=HF0.out
     simp only [Value.slice.injEq,natI_len] at e1
     exact e1.2.1
    have HSG:=hid (show sightR ps (chrA s a) (s.size-a-0) 0=sightR ps (chrA s a) (s.size-a) 0 from rfl)
    obtain ⟨SG,hSG⟩:∃ g,sightR ps (chrA s a) (s.size-a) 0=g:=⟨_,rfl⟩
    rw [hSG] at HSG
    have HSGE:=hid hSG
    subst hfn
    clear hSG S gS hfi HC HO2 HSO HNM HGE HRP HSP
    go_wp2_with fail
    go_loopw [13,14] (fun v i wr=>∃ (q:Nat) (ca:Option Addr) (ck:Nat),q≤s.size-a∧i=.int .i64 ((a+q:Nat):Int)∧v=.slice ca (canR ps (chrA s a) q).length ck∧Hid (Ints wr (.slice ca (canR ps (chrA s a) q).length ck) (natI (canR ps (chrA s a) q)))∧Hid (w5.grownBy wr none)∧Hid (sightR ps (chrA s a) (s.size-a-q) q=SG)) (fun _ i _=>s.size-(intOf i).toNat)
    case atStart=>exact ⟨0,_,_,Nat.zero_le _,by simp,rfl,HF0,hid (grow_self w5),HSG⟩
    case round =>
     obtain ⟨q,ca,ck,hq,rfl,rfl,HI,HG,HSQ⟩:=hrel
     by_cases hlt:a+q<s.size
     · have HST:=hid (sight_step ps (chrA s a) (s.size-a) q SG (by omega) HSQ.out)
       have hch:=chrA_get s a q hlt
       have hcl:=canR_len ps (chrA s a) q
       have hcl2:=canR_len ps (chrA s a) (q+1)
       have hlv:=HSZ.out.1
       have hdn:(spD ps fo (lastO ps 0)).n=ylL ps:=spD_n ps fo _
       have HNX:Hid (canR ps (chrA s a) (q+1)=nextS (spD ps fo (lastO ps 0)).F (spD ps fo (lastO ps 0)).n (stepS (spD ps fo (lastO ps 0)).lo (spD ps fo (lastO ps 0)).hi (canR ps (chrA s a) q) s[a+q].toNat)):=hid (by rw [hdn,← hch]; rfl)
       have HS7:=hid (HS.out.grow HG.out)
       have HC1:Hid (Calls Tryz.prog 59 #[.pointer (some ⟨X,0,none⟩),.slice ca (canR ps (chrA s a) q).length ck,.int .i64 (wrap64 (s[a+q].toNat:Int))] wr (NatPost wr (stepS (spD ps fo (lastO ps 0)).lo (spD ps fo (lastO ps 0)).hi (canR ps (chrA s a) q) s[a+q].toNat))):=hid (by
        rw [show wrap64 (s[a+q].toNat:Int)=(s[a+q].toNat:Int) from (by have:=s[a+q].toNat_lt; unfold wrap64; omega)]
        exact step_any _ _ wr _ X _ _ V _ _ HS7.out HI.out (fun i hi=>by rw [hdn]; exact canR_in ps _ q i hi) (by rw [hdn]; omega) (by omega))
       have hsl:=stepS_len (spD ps fo (lastO ps 0)).lo (spD ps fo (lastO ps 0)).hi (canR ps (chrA s a) q) s[a+q].toNat
       have HC2:Hid (∀ (W:World) (v:Value),wr.grownBy W none→Ints W v (natI (stepS (spD ps fo (lastO ps 0)).lo (spD ps fo (lastO ps 0)).hi (canR ps (chrA s a) q) s[a+q].toNat))→Calls Tryz.prog 58 #[.pointer (some ⟨X,0,none⟩),v] W (NatPost W (canR ps (chrA s a) (q+1)))):=hid (by
        rw [HNX.out]
        exact fun W v gW hv=>spotsNext_any _ _ W _ X _ _ V _ (HS7.out.grow gW) hv (fun i hi=>by rw [hdn]; exact canR_in ps _ q i (List.mem_filter.1 hi).1) (fun i k hk=>by rw [hdn]; have:=folO_in ps 0 i k hk; omega) (by rw [hdn]; omega) (by omega))
       have b1:(0:Int)≤(a:Int)+(q:Int):=by omega
       have b2:(a:Int)+(q:Int)<(s.size:Int):=by omega
       generalize stepS (spD ps fo (lastO ps 0)).lo (spD ps fo (lastO ps 0)).hi (canR ps (chrA s a) q) s[a+q].toNat=ST at HC1 HC2 hsl
       clear hch hcl hsl hdn HNX HSQ hq HS7
       have hlt2:((a+q:Nat):Int)<(s.size:Int):=by omega
       go_wp2_with fail
       refine HC1.out.mono ?_
       rintro e w6 ⟨a6,c6,rfl,hst⟩
       have HC3:=hid (HC2.out w6 (.slice a6 ST.length c6) hst.2 (Ints.of_own hst.1))
       have HG6:=hid (xT HG.out hst.2)
       clear hst HC1 HC2 HI
       go_wp2_with fail
       refine HC3.out.mono ?_
       rintro e w7 ⟨a7,c7,rfl,hnx⟩
       have HI7:=hid (Ints.of_own hnx.1)
       have HG7:=hid (xT HG6.out hnx.2)
       clear hnx HC3 HG6 HG
       by_cases hem:canR ps (chrA s a) (q+1)=[]
       · have HSGN:=hid (HST.out.1 hem)
         have hb0:(((canR ps (chrA s a) (q+1)).length:Int) == 0)=true:=by rw [hem]; rfl
         have HO7:=hid (HO5.out.grow HG7.out)
         obtain ⟨y0,y1,y2,y3⟩:=cb4 HO7.out.out
         have f3:=yfb HO7.out.out 3
         obtain ⟨z0,z1,z2,z3⟩:=cb4 HO7.out.res
         obtain ⟨fz0,fz1,fz2,fz3⟩:=fb4 HO7.out.res
         clear HST HSG hem HI7
         have HFI:=hid HO7.out.fin
         go_wp2_with fail
         generalize hw9:((((World.setCell _ _ _).setCell _ _).setCell _ _).setCell _ _).setCell _ _=w9
         obtain ⟨g9,u0,u1,u2,u3⟩:=HFI.out _ w9 hw9
         exact bodyPost_ret (v:=.agg #[.int .i64 (mkI mk lg),.int .i64 a,.int .i64 lg,.int .i64 ((a:Int)+q-a+1)]) (by simp [results,Tryz.results25,go_sem,u0,u1,u2,u3]) rfl (by rw [← HP.out]; exact ⟨mk,lg,SG,by rw [← HSGN.out]; congr; omega,g9,HBE.out,HSGE.out.symm⟩)
       · have HSG2:=hid (HST.out.2 hem)
         have hpos:0<(canR ps (chrA s a) (q+1)).length:=List.length_pos_iff.2 hem
         have hb0:(((canR ps (chrA s a) (q+1)).length:Int) == 0)=false:=beq_eq_false_iff_ne.2 (by omega)
         clear HST HSG hem
         go_wp2_with fail
         go_roundw
         case rel=>exact ⟨q+1,a7,c7,by omega,by go_num,rfl,HI7,HG7,HSG2⟩
         case measure=>simp [intOf]; omega
     · have hqn:q=s.size-a:=by omega
       have HSGN:Hid (s.size-a+1=SG):=hid (by have:=HSQ.out; rw [hqn,Nat.sub_self] at this; exact this)
       have hlt2:¬ ((a+q:Nat):Int)<(s.size:Int):=by omega
       have HO7:=hid (HO5.out.grow HG.out)
       obtain ⟨y0,y1,y2,y3⟩:=cb4 HO7.out.out
       have f3:=yfb HO7.out.out 3
       obtain ⟨z0,z1,z2,z3⟩:=cb4 HO7.out.res
       obtain ⟨fz0,fz1,fz2,fz3⟩:=fb4 HO7.out.res
       clear HSQ HSG hq hqn
       have HFI:=hid HO7.out.fin
       go_wp2_with fail
       generalize hw9:((((World.setCell _ _ _).setCell _ _).setCell _ _).setCell _ _).setCell _ _=w9
       obtain ⟨g9,u0,u1,u2,u3⟩:=HFI.out _ w9 hw9
       exact bodyPost_ret (v:=.agg #[.int .i64 (mkI mk lg),.int .i64 a,.int .i64 lg,.int .i64 ((s.size:Int)-a+1)]) (by simp [results,Tryz.results25,go_sem,u0,u1,u2,u3]) rfl (by rw [← HP.out]; exact ⟨mk,lg,SG,by rw [← HSGN.out]; congr; omega,g9,HBE.out,HSGE.out.symm⟩)
def LexM (W:World) (bm:Nat):Prop :=
 ∃ sg sc n0 c0 f2 c2,W.cell? ⟨bm,263,none⟩=some (.slice (some ⟨sg,0,none⟩) 3 sc)∧W.cell? ⟨bm,100,none⟩=some (.int .i64 1)∧W.cell? ⟨sg,1,none⟩=some (.slice (some ⟨n0,0,none⟩) 3 c0)∧W.cell? ⟨n0,1,none⟩=some (.int .i64 2) ∧
  W.cell? ⟨sg,10,none⟩=some (.slice (some ⟨f2,0,none⟩) 1 c2)∧W.cell? ⟨f2,0,none⟩=some (.int .i64 0)∧W.cell? ⟨sg,12,none⟩=some (.bool true)
theorem LexM.grow {W W':World} {bm:Nat} (h:LexM W bm) (g:W.grownBy W' none):LexM W' bm:=by
 obtain ⟨sg,sc,n0,c0,f2,c2,h1,h2,h3,h4,h5,h6,h7⟩:=h
 exact ⟨sg,sc,n0,c0,f2,c2,ycg h1 g,ycg h2 g,ycg h3 g,ycg h4 g,ycg h5 g,ycg h6 g,ycg h7 g⟩
theorem info43:(Tryz.prog.info? 43 ).map (fun i=>(i.zero,i.size,i.bytes))=some (some (.agg #[.int .i64 0,.int .i64 0,.int .i64 0,.int .i64 0]),4,32):=by kernel_rfl
def pcCells:List (Nat × Nat × Nat × Nat)→List Value
 | []=>[]
 | x::r=>.int .i64 x.1::.int .i64 x.2.1::.int .i64 x.2.2.1::.int .i64 x.2.2.2::pcCells r
theorem pcCells_snoc (x:Nat × Nat × Nat × Nat):∀ l,pcCells (l++[x])=pcCells l++[.int .i64 x.1,.int .i64 x.2.1,.int .i64 x.2.2.1,.int .i64 x.2.2.2]
 | []=>rfl
 | y::l=>by simp only [List.cons_append,pcCells,pcCells_snoc x l]
def pcsL (ps:List Pt) (L:List En) (s:List UInt8):Nat→Nat→List (Nat × Nat × Nat × Nat)→List (Nat × Nat × Nat × Nat) × Nat × Nat
 | 0,_,acc=>(acc,0,0)
 | n+1,a,acc=>if s.length≤a then (acc,0,0) else if (longL ps L s a).2.1=0 then ([],a,8)
  else pcsL ps L s n (a+(longL ps L s a).2.1) (acc++[((longL ps L s a).1,a,(longL ps L s a).2.1,(longL ps L s a).2.2)])
def piecesL (ps:List Pt) (L:List En) (s:List UInt8):List (Nat × Nat × Nat × Nat) × Nat × Nat :=
 if 20000<s.length then ([],0,2) else pcsL ps L s (s.length+1) 0 []
theorem scanL_le (ps:List Pt) (L:List En):∀ (cs:List UInt8) (now k m lg sg:Nat),lg≤k→(scanL ps L cs now k m lg sg).2.1≤k+cs.length
 | [],_,_,_,_,_,h=>by simpa [scanL] using h
 | c::cs,now,k,m,lg,sg,h=>by
  have hx:(if 0<(fitsAt ps L (nxS ps L now c.toNat)).length then k+1 else lg)≤k+1:=by split<;>omega
  rw [scanL]
  split
  · simp only [List.length_cons]; omega
  · have:=scanL_le ps L cs (nxS ps L now c.toNat) (k+1) (if 0<(fitsAt ps L (nxS ps L now c.toNat)).length then (fitsAt ps L (nxS ps L now c.toNat)).getD 0 0 else m) _ sg hx
    simp only [List.length_cons]; omega
theorem longL_le (ps:List Pt) (L:List En) (s:List UInt8) (a:Nat):(longL ps L s a).2.1≤s.length-a:=by
 have:=scanL_le ps L (s.drop a) 0 0 0 0 (s.length-a+1) (Nat.le_refl _)
 rw [longL]
 simpa using this
def PiecesAny (ps:List Pt) (L:List En) (s:List UInt8) (w:World) (e:Ending) (w':World):Prop :=
 ∃ v,e=.returned (.tuple #[v,.int .i64 ((piecesL ps L s).2.1:Nat),.int .i64 ((piecesL ps L s).2.2:Nat)])∧w'.ownsRow w.heap.size 43 4 v (piecesL ps L s).1.length (pcCells (piecesL ps L s).1)∧w.grownBy w' none
theorem pieces_any (bm:Nat) (ps:List Pt) (L:List En) (s:ByteArray) (w:World) (hs:s.size≤1000000) (hL:L.length≤3000) (hps:ps.length≤1000000) (hM:MachAt w bm ps L) :
 Calls Tryz.prog 51 #[.pointer (some ⟨bm,0,none⟩),.string s] w (PiecesAny ps L s.data.toList w):=by
 obtain ⟨i43,hi,hz0,hz1,hz2⟩:=info_parts info43
 have HI:=hid hi
 have HZ0:=hid hz0
 have HZ1:=hid hz1
 have HZ2:=hid hz2
 have HM:=hid hM
 clear hi hz0 hz1 hz2 hM
 obtain ⟨P,hP⟩:∃ P,PiecesAny ps L s.data.toList w=P:=⟨_,rfl⟩
 rw [hP]
 have HP:=hid hP
 clear hP
 have hlen:s.data.toList.length=s.size:=by rw [Array.length_toList]; rfl
 have HLEN:=hid hlen
 clear hlen
 by_cases hbig:20000<s.size
 · go_enter Tryz.func51,Tryz.ntmps51
   go_wp2_with fail
   try go_ret3
   rw [← HP.out]
   refine ⟨.slice none 0 0,?_,?_,grow_self w⟩<;>rw [piecesL,if_pos (by rw [HLEN.out]; exact hbig)]
   · rfl
   · exact World.ownsRow_nil _ _ _ _
 have HGS:=hid (grow_self w)
 have HE0:Hid (pcsL ps L s.data.toList (s.size+1) 0 []=piecesL ps L s.data.toList):=hid (by rw [piecesL,HLEN.out,if_neg hbig])
 go_enter Tryz.func51,Tryz.ntmps51
 go_wp2_with fail
 go_loopw [7,8] (fun qv av wr=>∃ (pv:Value) (a n:Nat) (acc:List (Nat × Nat × Nat × Nat)),pv=qv∧av=.int .i64 a∧a≤s.size∧acc.length≤a∧s.size<a+n∧Hid (pcsL ps L s.data.toList n a acc=piecesL ps L s.data.toList)∧Hid (wr.ownsRow w.heap.size 43 4 pv acc.length (pcCells acc))∧Hid (w.grownBy wr none)) (fun _ av _=>s.size-(intOf av).toNat)
 case atStart=>exact ⟨_,0,s.size+1,[],rfl,rfl,Nat.zero_le _,Nat.le_refl _,by omega,HE0,hid (World.ownsRow_nil _ _ _ _),HGS⟩
 case round =>
  obtain ⟨pv,a,n,acc,rfl,rfl,ha,hacc,hn,HE,HO,HG⟩:=hrel
  by_cases hlt:a<s.size
  · obtain ⟨n,rfl⟩:∃ k,n=k+1:=⟨n-1,by omega⟩
    have hE2:=HE.out
    rw [pcsL,if_neg (by rw [HLEN.out]; omega)] at hE2
    have hle:=longL_le ps L s.data.toList a
    rw [HLEN.out] at hle
    have HE2:=hid hE2
    clear hE2 HE
    go_wp2_with fail
    refine (longest_any bm ps L s a wr hs ha hL hps (HM.out.grow HG.out)).mono ?_
    rintro e wa ⟨rfl,ga⟩
    generalize longL ps L s.data.toList a=lx at HE2 hle ⊢
    obtain ⟨mk,lg,sg⟩:=lx
    simp only at hle ⊢
    rcases Nat.eq_zero_or_pos lg with rfl | hpos
    · have hE3:=HE2.out
      rw [if_pos rfl] at hE3
      have HE3:=hid hE3
      have HGA:=hid (yga (xT HG.out ga) (.cells #[.int .i64 mk,.int .i64 a,.int .i64 (0:Nat),.int .i64 sg] 43))
      clear hE3 HE2 ga
      simp only [show decide (0<0)=false from rfl]
      go_wp2_with fail
      try go_ret3
      rw [← HP.out]
      refine ⟨.slice none 0 0,?_,?_,HGA.out⟩<;>rw [← HE3.out]
      · rfl
      · exact World.ownsRow_nil _ _ _ _
    · have hE3:=HE2.out
      rw [if_neg (by simp only; omega)] at hE3
      simp only at hE3
      have HE3:=hid hE3
      rw [show decide (0<lg)=true from decide_eq_true hpos]
      have F:=xN wa (.cells #[.int .i64 mk,.int .i64 a,.int .i64 lg,.int .i64 sg] 43)
      have OW:Hid (∀ W,wr.grownBy W none→W.ownsRow w.heap.size 43 4 pv acc.length (pcCells acc)):=hid (fun W g=>ownsRow_frm (Frm.of_grown g (fun _ _=>True)) HO.out (fun _ _ _ _=>trivial))
      have GB:=hid (yga ga (.cells #[.int .i64 mk,.int .i64 a,.int .i64 lg,.int .i64 sg] 43))
      have hsz:=HG.out.size
      have hsy:=ga.size
      have hob:∀ g,pv.ownBlock=some g→g<wr.heap.size:=fun g hg=>(by obtain ⟨_,c,hc⟩:=yob HO.out g hg; exact (Array.getElem?_eq_some_iff.1 hc).1)
      have HOB:=hid hob
      clear ga hE3 HE2 hob
      go_upto_region 9 with (fail)
      generalize hwb:wa.alloc (.cells #[.int .i64 mk,.int .i64 a,.int .i64 lg,.int .i64 sg] 43)=wb at F GB ⊢
      have hsb:wb.heap.size=wa.heap.size+1:=by rw [← hwb]; simp
      have HSB:=hid hsb
      have hsg:wa.heap.size<wb.heap.size:=by omega
      clear hwb hsb
      generalize wa.heap.size=f at F hsy HSB hsg ⊢
      obtain ⟨x0,x1,x2,x3⟩:=cb4 F
      have HF:=hid F
      clear F
      go_wp2_with (at_builtin; refine wpList_append_lies _ rfl _ _ 46 rfl w.heap.size 43 i43 (.agg #[.int .i64 0,.int .i64 0,.int .i64 0,.int .i64 0]) 4 32 Tryz.underlying46 HI.out HZ0.out HZ1.out HZ2.out rfl (by omega) _ acc.length (pcCells acc) rfl (OW.out _ (yga GB.out _)) ⟨wb.heap.size,0,none⟩ 1 1 [.int .i64 mk,.int .i64 a,.int .i64 lg,.int .i64 sg] rfl rfl (cells_new _ _ _) (by simp [Value.oneCell']) (by omega) (by simp [maxLen]; omega) (by omega) (by simp<;>omega) (wb.heap.size+1) (by simp) ?_; intro g cap wc hown hgrow hat hlt2; have HON:=hid hown; have hgr:(wb.alloc (.cells #[.int .i64 mk,.int .i64 a,.int .i64 lg,.int .i64 sg] 43)).grownBy wc pv.ownBlock:=hgrow; have HGN:=hid (grow_row (yga (xT HG.out GB.out) (.cells #[.int .i64 mk,.int .i64 a,.int .i64 lg,.int .i64 sg] 43)) hgr (fun r hr=>(yob (OW.out _ (yga GB.out (.cells #[.int .i64 mk,.int .i64 a,.int .i64 lg,.int .i64 sg] 43))) r hr).1)); have y2:wc.cell? ⟨f,2,none⟩=some (.int .i64 lg):=hgr.cell (ycg x2 (xG wb _ none)) (fun e=>by (have e3:=HOB.out f e.symm); omega); clear hown hgrow hgr hat hlt2)
      go_roundw
      case rel=>exact ⟨_,a+lg,n,acc++[(mk,a,lg,sg)],rfl,by go_num,by omega,by simp; omega,by omega,HE3,hid (by rw [pcCells_snoc,List.length_append]; exact HON.out),HGN⟩
      case measure=>simp [intOf]; omega
  · have hE2:pcsL ps L s.data.toList n a acc=(acc,0,0):=by
     cases n with
     | zero=>rfl
     | succ n=>rw [pcsL,if_pos (by rw [HLEN.out]; omega)]
    rw [HE.out] at hE2
    have HE2:=hid hE2
    clear hE2 HE
    go_wp2_with fail
    try go_ret3
    rw [← HP.out]
    refine ⟨pv,?_,?_,HG.out⟩<;>rw [HE2.out]
    · rfl
    · exact HO.out
end Go.Proofs.YtplbacfjmajeeaaGreatDoor
