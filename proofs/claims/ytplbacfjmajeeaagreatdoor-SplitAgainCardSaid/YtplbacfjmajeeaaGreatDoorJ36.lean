import Derived.Test.YtplbacfjmajeeaaGreatDoorJ35
namespace Go.Proofs.YtplbacfjmajeeaaGreatDoor
open Go.Lib (hid)
set_option maxHeartbeats 4000000
set_option maxRecDepth 100000
open Go.RowKit Go.Region
def splitL (ps:List Pt) (L:List En) (ms:List Mrk) (s:ByteArray):ByteArray × List (Nat × Nat × Nat × Nat) × List (ByteArray × ByteArray × ByteArray) × ByteArray × Nat × Nat :=
 if (piecesL ps L s.data.toList).2.2=0 then
  if 2000<(toksL ms s (piecesL ps L s.data.toList).1 0 []).1.length then (⟨#[]⟩,[],[],⟨#[]⟩,0,12)
  else (s,(piecesL ps L s.data.toList).1,(toksL ms s (piecesL ps L s.data.toList).1 0 []).1,s.extract (toksL ms s (piecesL ps L s.data.toList).1 0 []).2 s.size,0,0)
 else (⟨#[]⟩,[],[],⟨#[]⟩,(piecesL ps L s.data.toList).2.1,(piecesL ps L s.data.toList).2.2)
def SplitAny (ps:List Pt) (L:List En) (ms:List Mrk) (s:ByteArray) (w:World) (e:Ending) (w':World):Prop :=
 ∃ pv tv,e=.returned (.tuple #[.agg #[.string (splitL ps L ms s).1,pv,tv,.string (splitL ps L ms s).2.2.2.1],.int .i64 ((splitL ps L ms s).2.2.2.2.1:Nat),.int .i64 ((splitL ps L ms s).2.2.2.2.2:Nat)]) ∧
  w'.ownsRow w.heap.size 43 4 pv (splitL ps L ms s).2.1.length (pcCells (splitL ps L ms s).2.1)∧w'.ownsRow w.heap.size 66 3 tv (splitL ps L ms s).2.2.1.length (tkCells (splitL ps L ms s).2.2.1)∧w.grownBy w' none
theorem own_base {w:World} {b b2:Nat} {e:TypeId} {size n:Nat} {v:Value} {xs:List Value} (h:w.ownsRow b e size v n xs) (hb:b2≤b):w.ownsRow b2 e size v n xs:=by
 refine ⟨h.1,?_⟩
 rcases h.2 with h2 | ⟨g,cap,cur,hv,hg,r⟩
 · exact .inl h2
 · exact .inr ⟨g,cap,cur,hv,Nat.le_trans hb hg,r⟩
theorem own_shape {w:World} {b:Nat} {e:TypeId} {size n:Nat} {v:Value} {xs:List Value} (h:w.ownsRow b e size v n xs):∃ ad cap,v=.slice ad n cap:=by
 rcases h.2 with ⟨h2,h3⟩ | ⟨g,cap,cur,hv,hg,r⟩
 · exact ⟨_,_,by rw [h2,h3]⟩
 · exact ⟨_,_,hv⟩
theorem PcOk.at_ {N sz:Nat}:∀ (l:List (Nat × Nat × Nat × Nat)) (a:Nat),PcOk N sz a l→a≤sz
 | [],_,h=>h
 | _::_,_,h=>by have:=h.2.2.1; omega
theorem toks_en (ms:List Mrk) (s:ByteArray) (N:Nat):∀ (l:List (Nat × Nat × Nat × Nat)) (a en:Nat) (acc:List (ByteArray × ByteArray × ByteArray)),PcOk N s.size a l→en≤a→(toksL ms s l en acc).2≤s.size
 | [],_,_,_,h,he=>Nat.le_trans he h
 | x::r,a,en,acc,h,he=>by
  rw [toksL]
  split
  · exact toks_en ms s N r _ en acc h.2.2.2 (by omega)
  · exact toks_en ms s N r _ _ _ h.2.2.2 (by have:=h.2.1; omega)
theorem pcs_len (ps:List Pt) (L:List En) (s:List UInt8):∀ (n a:Nat) (acc:List (Nat × Nat × Nat × Nat)),acc.length≤a→a≤s.length→(pcsL ps L s n a acc).1.length≤s.length
 | 0,a,acc,h,h2=>by simp only [pcsL]; omega
 | n+1,a,acc,h,h2=>by
  rw [pcsL]
  split
  · simp only; omega
  · split
    · simp
    · rename_i h3
      have:=longL_le ps L s a
      exact pcs_len ps L s n _ _ (by simp only [List.length_append,List.length_cons,List.length_nil]; omega) (by omega)
theorem pieces_len (ps:List Pt) (L:List En) (s:List UInt8):(piecesL ps L s).1.length≤s.length:=by
 unfold piecesL
 split
 · simp
 · exact pcs_len ps L s _ 0 [] (Nat.le_refl _) (Nat.zero_le _)
theorem split_any (bm:Nat) (ps:List Pt) (L:List En) (ms:List Mrk) (av:Option Addr) (mcap:Nat) (s:ByteArray) (w:World) (hs:s.size≤1000000) (hL:L.length≤3000) (hps:ps.length≤1000000) (hpm:ps.length=ms.length) (hM:MachAt w bm ps L)
 (hms:ms=[]∨∃ b off,av=some ⟨b,off,none⟩∧MrkAt w ms b off) :
 Calls Tryz.prog 52 #[.pointer (some ⟨bm,0,none⟩),.slice av ms.length mcap,.string s] w (SplitAny ps L ms s w):=by
 obtain ⟨i66,hi,hz0,hz1,hz2⟩:=info_parts info66
 have HI:=hid hi
 have HZ0:=hid hz0
 have HZ1:=hid hz1
 have HZ2:=hid hz2
 have HM:=hid hM
 have HMS:=hid hms
 have HPM:=hid hpm
 have hlen:s.data.toList.length=s.size:=by rw [Array.length_toList]; rfl
 have HLEN:=hid hlen
 obtain ⟨N,hN⟩:∃ N,ms.length=N:=⟨_,rfl⟩
 rw [hN]
 have HN:=hid hN
 clear hi hz0 hz1 hz2 hM hms hpm hlen hN
 obtain ⟨P,hP⟩:∃ P,SplitAny ps L ms s w=P:=⟨_,rfl⟩
 rw [hP]
 have HP:=hid hP
 clear hP
 go_enter Tryz.func52,Tryz.ntmps52
 go_wp2_with fail
 have r0:=xN w (.cells #[.string ⟨#[]⟩,.slice none 0 0,.slice none 0 0,.string ⟨#[]⟩] 107)
 have g0:=xG w (.cells #[.string ⟨#[]⟩,.slice none 0 0,.slice none 0 0,.string ⟨#[]⟩] 107) none
 have hs0:=xL r0
 generalize w.alloc _=w0 at r0 g0 hs0 ⊢
 refine (pieces_any bm ps L s w0 hs hL hps (HM.out.grow g0)).mono ?_
 rintro e w1 ⟨pv,rfl,own1,g1⟩
 have hPL:=piecesL_ok ps L s.data.toList
 have hPN:=pieces_len ps L s.data.toList
 rw [HLEN.out] at hPN
 obtain ⟨⟨PL,at0,er⟩,hpl⟩:∃ r,piecesL ps L s.data.toList=r:=⟨_,rfl⟩
 have HPL:=hid hpl
 rw [hpl] at hPL hPN own1 ⊢
 clear hpl
 simp only at hPL hPN own1 ⊢
 have R1:=grow_new g1 r0
 have hs1:=g1.size
 have G1:=xT g0 g1
 have own1:=own_base own1 (Nat.le_of_lt hs0)
 by_cases her:er=0
 · subst her
   have hok:=hPL rfl
   rw [HPM.out,HN.out,HLEN.out] at hok
   have HOK:=hid hok
   clear hPL hok
   have R2:=hid (grow_new (xG w1 (.cells #[.string s,pv,.slice none 0 0,.string ⟨#[]⟩] 107) none) R1)
   have C2:=hid (xN w1 (.cells #[.string s,pv,.slice none 0 0,.string ⟨#[]⟩] 107))
   have O2:=hid (own1.alloc (.cells #[.string s,pv,.slice none 0 0,.string ⟨#[]⟩] 107))
   have G2:=hid (yga G1 (.cells #[.string s,pv,.slice none 0 0,.string ⟨#[]⟩] 107))
   have hc1:=xL C2.out
   obtain ⟨pa,pcp,rfl⟩:=own_shape own1
   clear r0 g0 own1 g1 R1 G1
   go_upto_region 5 with (fail)
   generalize w1.alloc _=w2 at R2 C2 O2 G2 hc1 ⊢
   generalize w1.heap.size=C at C2 hc1 hs1 ⊢
   have S0:Hid (SpX w w2 C s (.slice pa PL.length pcp) PL (.slice none 0 0) []):=hid ⟨R2.out,C2.out,O2.out,World.ownsRow_nil _ _ _ _,G2.out,by omega⟩
   clear R2 C2 O2 G2
   obtain ⟨PN,hpn⟩:∃ n,PL.length=n:=⟨_,rfl⟩
   rw [hpn] at S0 hPN ⊢
   have HPN:=hid hpn
   clear hpn hc1 hs1 hs0
   go_wp2_with fail
   go_loopw [13,34] (fun ev jv wr=>∃ (en j pos:Nat) (tv:Value) (acc:List (ByteArray × ByteArray × ByteArray)),ev=.int .i64 en∧jv=.int .i64 j∧j≤PN∧en≤pos∧acc.length≤j∧Hid (PcOk N s.size pos (PL.drop j))∧Hid (toksL ms s (PL.drop j) en acc=toksL ms s PL 0 [])∧Hid (SpX w wr C s (.slice pa PN pcp) PL tv acc)) (fun _ jv _=>PN-(intOf jv).toNat)
   case atStart=>exact ⟨0,0,0,.slice none 0 0,[],rfl,rfl,Nat.zero_le _,Nat.le_refl _,Nat.le_refl _,HOK,hid rfl,S0⟩
   case round =>
    obtain ⟨en,j,pos,tv,acc,rfl,rfl,hj,hen,hacc,HK,HE,HS⟩:=hrel
    by_cases hlt:j<PN
    · have hjl:j<PL.length:=by rw [HPN.out]; exact hlt
      have hd:=List.drop_eq_getElem_cons hjl
      have hK2:=HK.out
      have hE2:=HE.out
      rw [hd] at hK2 hE2
      rw [toksL] at hE2
      obtain ⟨c0,c1,c2,c3⟩:=pcCells_get PL j hjl
      obtain ⟨⟨mk,a,l,sg⟩,hx⟩:∃ x,PL[j]=x:=⟨_,rfl⟩
      rw [hx] at hK2 hE2 c0 c1 c2 c3
      simp only at hE2 c0 c1 c2 c3
      obtain ⟨hmk,ha,hal,hK3⟩:=hK2
      simp only at hmk ha hal hK3
      subst ha
      clear hd hx HK HE
      obtain ⟨pg,cp,hv,_,hcell⟩:=yoe HS.out.pcs (by rw [HPN.out]; omega)
      simp only [Value.slice.injEq] at hv
      obtain ⟨hpa,hq1,hq2⟩:=hv
      clear hq1 hq2
      subst hpa
      rcases HMS.out with h0 | ⟨b,off,hav,hMA⟩
      · exfalso
        have h1:=HN.out
        rw [h0] at h1
        simp at h1
        omega
      subst hav
      have hmk2:mk<ms.length:=by rw [HN.out]; exact hmk
      have m0:=ycg (MrkAt.at_ ms b off hMA mk hmk2).1 (yga HS.out.gr (.cells #[.int .i64 mk,.int .i64 a,.int .i64 l,.int .i64 sg] 43))
      have hkm:kindM ms mk=ms[mk].kind:=by simp [kindM,List.getElem?_eq_getElem hmk2]
      rw [← hkm] at m0
      generalize kindM ms mk=kd at m0 hE2
      have p0:=hcell _ _ c0
      have p1:=hcell _ _ c1
      have p2:=hcell _ _ c2
      have p3:=hcell _ _ c3
      have HMS2:Hid (ms=[]∨∃ b' off',some (⟨b,off,none⟩:Addr)=some ⟨b',off',none⟩∧MrkAt w ms b' off'):=hid (.inr ⟨b,off,rfl,hMA⟩)
      have HE2:=hid hE2
      have HK3:=hid hK3
      have hC:=xL HS.out.cut
      have hmk3:(mk:Int)<N:=by omega
      have hlt3:(j:Int)<PN:=by omega
      clear hcell hkm hmk2 hMA hE2 hK3 c0 c1 c2 c3 hjl
      by_cases hkd:kd.toList.isEmpty=true
      · have hE3:=HE2.out
        rw [if_pos hkd] at hE3
        have HE3:=hid hE3
        have HS2:=hid (HS.out.grow (xG wr (.cells #[.int .i64 mk,.int .i64 a,.int .i64 l,.int .i64 sg] 43) none))
        clear hE3 HE2
        go_wp2_with fail
        go_roundw
        case rel=>exact ⟨en,j+1,a+l,tv,acc,rfl,by go_num,by omega,by omega,by omega,HK3,HE3,HS2⟩
        case measure=>simp [intOf]; omega
      replace hkd:kd.toList.isEmpty=false:=by simpa using hkd
      have hE3:=HE2.out
      rw [if_neg (by rw [hkd]; decide)] at hE3
      have HE3:=hid hE3
      clear hE3 HE2
      go_upto_region 11 with (fail)
      have Sb:=hid (HS.out.grow (xG wr (.cells #[.int .i64 mk,.int .i64 a,.int .i64 l,.int .i64 sg] 43) none))
      have F0:=xN wr (.cells #[.int .i64 mk,.int .i64 a,.int .i64 l,.int .i64 sg] 43)
      generalize wr.alloc _=wa at Sb F0 ⊢
      generalize wr.heap.size=f at F0 hC ⊢
      have x1:=xC F0 1
      have x2:=xC F0 2
      have c2:=xC Sb.out.cut 2
      have hCa:=xL Sb.out.cut
      simp only [xGe,xGz,xGs] at x1 x2 c2
      have HF0:=hid F0
      clear p0 p1 p2 p3 m0 F0
      go_cut [] (fun wx=>∃ g2 cap,Hid (SpX w wx C s (.slice (some ⟨pg,0,none⟩) PN pcp) PL (.slice (some ⟨g2,0,none⟩) (acc.length+1) cap) (acc++[(kd,s.extract en a,s.extract a (a+l))]))∧Hid (wx.heap[f]? = some (.cells #[.int .i64 mk,.int .i64 a,.int .i64 l,.int .i64 sg] 43 (0,0))))
      case first =>
       have hS1:S1X f a l wa:=⟨x1,x2⟩
       have hS2:S2at C tv wa:=c2
       have hS1d:S1X f a l wa.drew:=⟨x1,x2⟩
       have hS2d:S2at C tv wa.drew:=c2
       refine wp_region_K2 (S1X f a l) (S2at C tv) T21 22 #[false,false,false,false,false,false,false,false,false,false,false,false,false,false,false,false,false,false,false,false,false,false] (by kernel_rfl) (by kernel_rfl) (by kernel_rfl) ?_
       refine ywt (i:=0) (some 46) (v:=(.pointer (some ⟨C,2,none⟩))) rfl rfl (by kernel_rfl) (by kernel_rfl) (by kernel_rfl) (fun _ _ _ h=>h) (.inl ⟨by rfl,fun w' hw'=>run_field107 _ C rfl⟩) hS1d ?_
       simp only [Act.put,xSi,xSz,xSs]
       refine wpAnyK_take2 (i:=1) (some 47) (v:=tv) rfl rfl (by kernel_rfl) (by kernel_rfl) (by kernel_rfl) (fun _ _ _ h=>h) (by intro j hj; obtain rfl:j=21:=(by simpa [T21] using hj); kernel_rfl) (.inl ⟨by rfl,fun w' hw'=>run_load49 _ ⟨C,2,none⟩ _ rfl hw'.2⟩) ⟨hS1d,hS2d⟩ ?_
       simp only [Act.put,xSi,xSz,xSs]
       refine ywt (i:=2) (some 48) (v:=(.string kd)) rfl rfl (by kernel_rfl) (by kernel_rfl) (by kernel_rfl) (fun _ _ _ h=>h) (.inl ⟨by rfl,fun w' hw'=>run_move1 _⟩) hS1d ?_
       simp only [Act.put,xSi,xSz,xSs]
       refine ywt (i:=3) (some 49) (v:=(.string s)) rfl rfl (by kernel_rfl) (by kernel_rfl) (by kernel_rfl) (fun _ _ _ h=>h) (.inl ⟨by rfl,fun w' hw'=>run_move1 _⟩) hS1d ?_
       simp only [Act.put,xSi,xSz,xSs]
       refine ywt (i:=4) (some 50) (v:=(.int .i64 en)) rfl rfl (by kernel_rfl) (by kernel_rfl) (by kernel_rfl) (fun _ _ _ h=>h) (.inl ⟨by rfl,fun w' hw'=>run_move1 _⟩) hS1d ?_
       simp only [Act.put,xSi,xSz,xSs]
       refine ywt (i:=5) (some 51) (v:=(.pointer (some ⟨f,1,none⟩))) rfl rfl (by kernel_rfl) (by kernel_rfl) (by kernel_rfl) (fun _ _ _ h=>h) (.inl ⟨by rfl,fun w' hw'=>run_field43 _ f 1 (.inl rfl) rfl⟩) hS1d ?_
       simp only [Act.put,xSi,xSz,xSs]
       refine ywt (i:=6) (some 52) (v:=(.int .i64 a)) rfl rfl (by kernel_rfl) (by kernel_rfl) (by kernel_rfl) (fun _ _ _ h=>h) (.inl ⟨by rfl,fun w' hw'=>run_load1 3 _ ⟨f,1,none⟩ _ (by simp) rfl hw'.1⟩) hS1d ?_
       simp only [Act.put,xSi,xSz,xSs]
       refine ywt (i:=7) (some 53) (v:=(.string (s.extract en a))) rfl rfl (by kernel_rfl) (by kernel_rfl) (by kernel_rfl) (fun _ _ _ h=>h) (.inl ⟨by rfl,fun w' hw'=>run_cutS s _ _ _ en a (by omega) (by omega) rfl rfl rfl⟩) hS1d ?_
       simp only [Act.put,xSi,xSz,xSs]
       refine ywt (i:=8) (some 54) (v:=(.string s)) rfl rfl (by kernel_rfl) (by kernel_rfl) (by kernel_rfl) (fun _ _ _ h=>h) (.inl ⟨by rfl,fun w' hw'=>run_move1 _⟩) hS1d ?_
       simp only [Act.put,xSi,xSz,xSs]
       refine ywt (i:=9) (some 55) (v:=(.pointer (some ⟨f,1,none⟩))) rfl rfl (by kernel_rfl) (by kernel_rfl) (by kernel_rfl) (fun _ _ _ h=>h) (.inl ⟨by rfl,fun w' hw'=>run_field43 _ f 1 (.inl rfl) rfl⟩) hS1d ?_
       simp only [Act.put,xSi,xSz,xSs]
       refine ywt (i:=10) (some 56) (v:=(.int .i64 a)) rfl rfl (by kernel_rfl) (by kernel_rfl) (by kernel_rfl) (fun _ _ _ h=>h) (.inl ⟨by rfl,fun w' hw'=>run_load1 3 _ ⟨f,1,none⟩ _ (by simp) rfl hw'.1⟩) hS1d ?_
       simp only [Act.put,xSi,xSz,xSs]
       refine ywt (i:=11) (some 57) (v:=(.pointer (some ⟨f,1,none⟩))) rfl rfl (by kernel_rfl) (by kernel_rfl) (by kernel_rfl) (fun _ _ _ h=>h) (.inl ⟨by rfl,fun w' hw'=>run_field43 _ f 1 (.inl rfl) rfl⟩) hS1d ?_
       simp only [Act.put,xSi,xSz,xSs]
       refine ywt (i:=12) (some 58) (v:=(.int .i64 a)) rfl rfl (by kernel_rfl) (by kernel_rfl) (by kernel_rfl) (fun _ _ _ h=>h) (.inl ⟨by rfl,fun w' hw'=>run_load1 3 _ ⟨f,1,none⟩ _ (by simp) rfl hw'.1⟩) hS1d ?_
       simp only [Act.put,xSi,xSz,xSs]
       refine ywt (i:=13) (some 59) (v:=(.pointer (some ⟨f,2,none⟩))) rfl rfl (by kernel_rfl) (by kernel_rfl) (by kernel_rfl) (fun _ _ _ h=>h) (.inl ⟨by rfl,fun w' hw'=>run_field43 _ f 2 (.inr rfl) rfl⟩) hS1d ?_
       simp only [Act.put,xSi,xSz,xSs]
       refine ywt (i:=14) (some 60) (v:=(.int .i64 l)) rfl rfl (by kernel_rfl) (by kernel_rfl) (by kernel_rfl) (fun _ _ _ h=>h) (.inl ⟨by rfl,fun w' hw'=>run_load1 3 _ ⟨f,2,none⟩ _ (by simp) rfl hw'.2⟩) hS1d ?_
       simp only [Act.put,xSi,xSz,xSs]
       refine ywt (i:=15) (some 61) (v:=(.int .i64 ((a+l:Nat):Int))) rfl rfl (by kernel_rfl) (by kernel_rfl) (by kernel_rfl) (fun _ _ _ h=>h) (.inl ⟨by rfl,fun w' hw'=>run_addS _ _ a l (by omega) rfl rfl⟩) hS1d ?_
       simp only [Act.put,xSi,xSz,xSs]
       refine ywt (i:=16) (some 62) (v:=(.string (s.extract a (a+l)))) rfl rfl (by kernel_rfl) (by kernel_rfl) (by kernel_rfl) (fun _ _ _ h=>h) (.inl ⟨by rfl,fun w' hw'=>run_cutS s _ _ _ a (a+l) (by omega) (by omega) rfl rfl rfl⟩) hS1d ?_
       simp only [Act.put,xSi,xSz,xSs]
       refine ywt (i:=17) (some 63) (v:=(.agg #[.string kd,.string (s.extract en a),.string (s.extract a (a+l))])) rfl rfl (by kernel_rfl) (by kernel_rfl) (by kernel_rfl) (fun _ _ _ h=>h) (.inl ⟨by rfl,fun w' hw'=>run_build66 _ _ _ _ _ _ rfl rfl rfl⟩) hS1d ?_
       simp only [Act.put,xSi,xSz,xSs]
       refine ywa (i:=18) (by kernel_rfl) (wpOp_ran2 (some 64) rfl rfl rfl (run_list66 _ _ _ _ rfl) ⟨⟨⟨ycg hS1d.1 (xG _ _ none),ycg hS1d.2 (xG _ _ none)⟩,.inr fun _=>ycg hS2d (xG _ _ none)⟩,?_⟩)
       simp only [Act.put,xSi,xSz,xSs]
       have gq:wa.grownBy (wa.drew.alloc (.cells #[.string kd,.string (s.extract en a),.string (s.extract a (a+l))] 66)) none:=yga (grow_drew (grow_self _)) _
       have hq:=World.news_of_block (cs:=#[.string kd,.string (s.extract en a),.string (s.extract a (a+l))]) (t:=66) (fr:=(0,0)) (xN wa.drew (.cells #[.string kd,.string (s.extract en a),.string (s.extract a (a+l))] 66))
       have sq:=Sb.out.grow gq
       refine ywa (i:=19) (by kernel_rfl) (wpOp_app (dd:=some 65) 49 rfl (C+1) 66 i66 (.agg #[.string ⟨#[]⟩,.string ⟨#[]⟩,.string ⟨#[]⟩]) 3 48 Tryz.underlying49 HI.out HZ0.out HZ1.out HZ2.out rfl (by omega) tv acc.length (tkCells acc) rfl sq.tok ⟨wa.drew.heap.size,0,none⟩ 1 1 [.string kd,.string (s.extract en a),.string (s.extract a (a+l))] rfl rfl hq (by simp [Value.oneCell']) (by omega) (by simp [maxLen]; omega) (by omega) (by have:=gq.size; omega) _ rfl (fun gg cap1 w3 hown1 hgrow hat hlt1=>?_))
       have hz:=SpX.arm (n:=acc.length+1) (tk':=(acc++[(kd,s.extract en a,s.extract a (a+l))])) Sb.out HF0.out (by omega) gq hgrow (by simp) (by rw [tkCells_snoc]; exact hown1)
       have BF:=ygb sq.tok hgrow (grow_new gq HF0.out) (by decide)
       have q1f:w3.cell? ⟨f,1,none⟩=some (.int .i64 a):=xC BF 1
       have q2f:w3.cell? ⟨f,2,none⟩=some (.int .i64 l):=xC BF 2
       have z2:w3.cell? ⟨C,2,none⟩=some tv:=xC hz.1 2
       have fz2:=yfb hz.1 2
       refine ⟨⟨⟨q1f,q2f⟩,.inr fun _=>z2⟩,?_⟩
       simp only [Act.put,xSi,xSz,xSs]
       refine ywa (i:=20) (by kernel_rfl) (wpOp_ran2 (some 66) rfl rfl rfl (run_field107 _ C rfl) ⟨⟨⟨q1f,q2f⟩,.inr id⟩,?_⟩)
       simp only [Act.put,xSi,xSz,xSs]
       have q1g:(w3.setCell ⟨C,2,none⟩ (.slice (some ⟨gg,0,none⟩) (acc.length+1) cap1)).cell? ⟨f,1,none⟩=some (.int .i64 a):=xC hz.2.2 1
       have q2g:(w3.setCell ⟨C,2,none⟩ (.slice (some ⟨gg,0,none⟩) (acc.length+1) cap1)).cell? ⟨f,2,none⟩=some (.int .i64 l):=xC hz.2.2 2
       refine ywa (i:=21) (by kernel_rfl) (wpOp_skipped rfl rfl (run_store49 _ _ ⟨C,2,none⟩ _ _ _ _ rfl rfl z2 fz2) ⟨⟨⟨q1g,q2g⟩,.inl rfl⟩,?_⟩)
       simp only [Act.put,xSi,xSz,xSs]
       refine wpAnyK_done (by kernel_rfl) ?_ _
       go_wp2_with fail
       go_meet
       exact ⟨gg,cap1,hid hz.2.1,hid hz.2.2⟩
      case rest =>
       obtain ⟨v1,rfl⟩:∃ v:World,v=wc:=⟨_,rfl⟩
       obtain ⟨g2,cap2,S1,HFb⟩:=hcut
       have x1:=xC HFb.out 1
       have x2:=xC HFb.out 2
       simp only [xGe,xGz,xGs] at x1 x2
       go_wp2_with fail
       go_roundw
       case rel=>exact ⟨a+l,j+1,a+l,_,_,by go_num,by go_num,by omega,by omega,by simp; omega,HK3,HE3,S1⟩
       case measure=>simp [intOf]; omega
    · obtain rfl:j=PN:=by omega
      have hE2:=HE.out
      rw [← HPN.out,List.drop_length,toksL] at hE2
      have HE2:=hid hE2
      obtain ⟨ta,tc,htv⟩:=own_shape HS.out.tok
      subst htv
      have hen2:=toks_en ms s N PL 0 0 [] HOK.out (Nat.le_refl _)
      rw [← hE2] at hen2
      simp only at hen2
      have HPLN:=hid (show Hid (PL.length=j) from HPN)
      clear hE2 HE HK
      obtain ⟨e0,e1,e2,e3⟩:=cb4 HS.out.cut
      have fe3:=yfb HS.out.cut 3
      by_cases hmany:2000<acc.length
      · have hSL:Hid (splitL ps L ms s=(⟨#[]⟩,[],[],⟨#[]⟩,0,12)):=hid (by unfold splitL; rw [HPL.out,if_pos rfl,← HE2.out,if_pos hmany])
        obtain ⟨z0,z1,z2,z3⟩:=cb4 (HS.out.res)
        obtain ⟨fz0,fz1,fz2,fz3⟩:=fb4 (HS.out.res)
        have HR9:=hid (HS.out.res)
        have HG9:=hid (HS.out.gr)
        have hmany2:(2000:Int)<acc.length:=by omega
        clear HE2 HOK
        go_wp2_with fail
        have R5:=yhs (yhs (yhs (yhs HR9.out 0 (.string ⟨#[]⟩)) 1 (.slice none 0 0)) 2 (.slice none 0 0)) 3 (.string ⟨#[]⟩)
        have G5:=ygs (ygs (ygs (ygs HG9.out ⟨w.heap.size,0,none⟩ (.string ⟨#[]⟩) (by simp)) ⟨w.heap.size,1,none⟩ (.slice none 0 0) (by simp)) ⟨w.heap.size,2,none⟩ (.slice none 0 0) (by simp)) ⟨w.heap.size,3,none⟩ (.string ⟨#[]⟩) (by simp)
        simp only [xSi,xSs,xSz] at R5
        generalize (((World.setCell _ _ _).setCell _ _).setCell _ _).setCell _ _=w5 at R5 G5 ⊢
        obtain ⟨u0,u1,u2,u3⟩:=cb4 R5
        rw [← HP.out]
        exact bodyPost_ret (v:=.tuple #[.agg #[.string ⟨#[]⟩,.slice none 0 0,.slice none 0 0,.string ⟨#[]⟩],.int .i64 0,.int .i64 12]) (by simp [results,Tryz.results52,go_sem,u0,u1,u2,u3]) rfl ⟨.slice none 0 0,.slice none 0 0,by rw [hSL.out]; rfl,by rw [hSL.out]; exact World.ownsRow_nil _ _ _ _,by rw [hSL.out]; exact World.ownsRow_nil _ _ _ _,G5⟩
      · have hSL:Hid (splitL ps L ms s=(s,PL,acc,s.extract en s.size,0,0)):=hid (by unfold splitL; rw [HPL.out,if_pos rfl,← HE2.out,if_neg hmany])
        have hmany2:¬ (2000:Int)<acc.length:=by omega
        have hen3:(en:Int)≤s.size:=by omega
        have hlo:=HS.out.lo
        have HPC:=hid HS.out.pcs
        have HTK:=hid HS.out.tok
        clear HE2 HOK HPL
        go_upto_region 17 with (fail)
        have C9:=yhs HS.out.cut 3 (.string (s.extract en s.size))
        have R9:(wr.setCell ⟨C,3,none⟩ (.string (s.extract en s.size))).heap[w.heap.size]? = _:=(Below.heap_setCell _ _ _ _ (by simp; omega)).trans HS.out.res
        have G9:=ygs HS.out.gr ⟨C,3,none⟩ (.string (s.extract en s.size)) (by simp; omega)
        have O9:=yoc HPC.out HS.out.cut (by decide) 3 (.string (s.extract en s.size))
        have Q9:=yoc HTK.out HS.out.cut (by decide) 3 (.string (s.extract en s.size))
        simp only [xSi,xSs,xSz] at C9
        generalize wr.setCell _ _=v9 at C9 R9 G9 O9 Q9 ⊢
        obtain ⟨y0,y1,y2,y3⟩:=cb4 C9
        have HO9:=hid O9
        have HQ9:=hid Q9
        obtain ⟨z0,z1,z2,z3⟩:=cb4 (R9)
        obtain ⟨fz0,fz1,fz2,fz3⟩:=fb4 (R9)
        have HR9:=hid (R9)
        have HG9:=hid (G9)
        clear C9 R9 G9 O9 Q9 e0 e1 e2 e3 fe3
        go_wp2_with fail
        have R5:=yhs (yhs (yhs (yhs HR9.out 0 (.string s)) 1 (.slice pa j pcp)) 2 (.slice ta acc.length tc)) 3 (.string (s.extract en s.size))
        have G5:=ygs (ygs (ygs (ygs HG9.out ⟨w.heap.size,0,none⟩ (.string s) (by simp)) ⟨w.heap.size,1,none⟩ (.slice pa j pcp) (by simp)) ⟨w.heap.size,2,none⟩ (.slice ta acc.length tc) (by simp)) ⟨w.heap.size,3,none⟩ (.string (s.extract en s.size)) (by simp)
        simp only [xSi,xSs,xSz] at R5
        have O5:=yoc (yoc (yoc (yoc HO9.out HR9.out (by decide) 0 (.string s)) (yhs HR9.out 0 (.string s)) (by decide) 1 (.slice pa j pcp)) (yhs (yhs HR9.out 0 (.string s)) 1 (.slice pa j pcp)) (by decide) 2 (.slice ta acc.length tc)) (yhs (yhs (yhs HR9.out 0 (.string s)) 1 (.slice pa j pcp)) 2 (.slice ta acc.length tc)) (by decide) 3 (.string (s.extract en s.size))
        have Q5:=yoc (yoc (yoc (yoc HQ9.out HR9.out (by decide) 0 (.string s)) (yhs HR9.out 0 (.string s)) (by decide) 1 (.slice pa j pcp)) (yhs (yhs HR9.out 0 (.string s)) 1 (.slice pa j pcp)) (by decide) 2 (.slice ta acc.length tc)) (yhs (yhs (yhs HR9.out 0 (.string s)) 1 (.slice pa j pcp)) 2 (.slice ta acc.length tc)) (by decide) 3 (.string (s.extract en s.size))
        generalize (((World.setCell _ _ _).setCell _ _).setCell _ _).setCell _ _=w5 at R5 G5 O5 Q5 ⊢
        obtain ⟨u0,u1,u2,u3⟩:=cb4 R5
        rw [← HP.out]
        exact bodyPost_ret (v:=.tuple #[.agg #[.string s,.slice pa j pcp,.slice ta acc.length tc,.string (s.extract en s.size)],.int .i64 0,.int .i64 0]) (by simp [results,Tryz.results52,go_sem,u0,u1,u2,u3]) rfl ⟨(.slice pa j pcp),(.slice ta acc.length tc),by rw [hSL.out]; rfl,by rw [hSL.out]; exact O5,by rw [hSL.out]; exact own_base Q5 (by omega),G5⟩
 · have hSL:Hid (splitL ps L ms s=(⟨#[]⟩,[],[],⟨#[]⟩,at0,er)):=hid (by unfold splitL; rw [HPL.out,if_neg her])
   obtain ⟨z0,z1,z2,z3⟩:=cb4 (R1)
   obtain ⟨fz0,fz1,fz2,fz3⟩:=fb4 (R1)
   have HR9:=hid (R1)
   have HG9:=hid (G1)
   have her2:((er:Int) == 0)=false:=by simpa using (by omega:¬ (er:Int)=0)
   clear HPL hPL own1 R1 G1 g0 g1 r0
   go_wp2_with fail
   have R5:=yhs (yhs (yhs (yhs HR9.out 0 (.string ⟨#[]⟩)) 1 (.slice none 0 0)) 2 (.slice none 0 0)) 3 (.string ⟨#[]⟩)
   have G5:=ygs (ygs (ygs (ygs HG9.out ⟨w.heap.size,0,none⟩ (.string ⟨#[]⟩) (by simp)) ⟨w.heap.size,1,none⟩ (.slice none 0 0) (by simp)) ⟨w.heap.size,2,none⟩ (.slice none 0 0) (by simp)) ⟨w.heap.size,3,none⟩ (.string ⟨#[]⟩) (by simp)
   simp only [xSi,xSs,xSz] at R5
   generalize (((World.setCell _ _ _).setCell _ _).setCell _ _).setCell _ _=w5 at R5 G5 ⊢
   obtain ⟨u0,u1,u2,u3⟩:=cb4 R5
   rw [← HP.out]
   exact bodyPost_ret (v:=.tuple #[.agg #[.string ⟨#[]⟩,.slice none 0 0,.slice none 0 0,.string ⟨#[]⟩],.int .i64 at0,.int .i64 er]) (by simp [results,Tryz.results52,go_sem,u0,u1,u2,u3]) rfl ⟨.slice none 0 0,.slice none 0 0,by rw [hSL.out],by rw [hSL.out]; exact World.ownsRow_nil _ _ _ _,by rw [hSL.out]; exact World.ownsRow_nil _ _ _ _,G5⟩
def chk (ms:List Mrk):Int:=if ymF ms=0 then (if allSets (ms.map Mrk.pat)=none then 12 else 0) else ymF ms
def setsM (ms:List Mrk):List En:=(allSets (ms.map Mrk.pat)).getD []
theorem checked_sum (ms:List Mrk) (av:Option Addr) (cap:Nat) (w:World) (hms:∀ m∈ms,m.pat.size≤100000∧m.kind.size≤1000000) (hl:ms.length≤1000000) (hlv:ylL (ms.map Mrk.pat)≤64)
 (ha:ms=[]∨∃ b off,av=some ⟨b,off,none⟩∧MrkAt w ms b off) :
 Calls Tryz.prog 49 #[.slice av ms.length cap] w fun e w'=>w.grownBy w' none∧∃ pv,e=.returned (.tuple #[.pointer pv,.int .i64 (chk ms)])∧(chk ms=0→∃ bm,pv=some ⟨bm,0,none⟩∧(setsM ms).length≤3000∧MachAt w' bm (ms.map Mrk.pat) (setsM ms)):=by
 refine (checked_any ms av cap w hms hl hlv ha).mono ?_
 rintro e w' ⟨g,h⟩
 refine ⟨g,?_⟩
 rcases h with ⟨h1,rfl⟩ | ⟨h1,h2,rfl⟩ | ⟨bm,L,h1,h2,h3,rfl,h4⟩
 · refine ⟨none,?_,fun h=>?_⟩
   · unfold chk; rw [if_neg h1]
   · unfold chk at h; rw [if_neg h1] at h; exact absurd h h1
 · refine ⟨none,?_,fun h=>?_⟩
   · unfold chk; rw [if_pos h1,if_pos h2]
   · unfold chk at h; rw [if_pos h1,if_pos h2] at h; cases h
 · have h5:setsM ms=L:=by unfold setsM; rw [h2]; rfl
   refine ⟨some ⟨bm,0,none⟩,?_,fun h=>⟨bm,rfl,?_,?_⟩⟩
   · unfold chk; rw [if_pos h1,if_neg (by rw [h2]; simp)]
   · rw [h5]; exact h3
   · rw [h5]; exact h4
def splitM (ms:List Mrk) (s:ByteArray):List (ByteArray × ByteArray × ByteArray) × ByteArray × Int × Int :=
 if chk ms=0 then ((splitL (ms.map Mrk.pat) (setsM ms) ms s).2.2.1,(splitL (ms.map Mrk.pat) (setsM ms) ms s).2.2.2.1,((splitL (ms.map Mrk.pat) (setsM ms) ms s).2.2.2.2.1:Nat),((splitL (ms.map Mrk.pat) (setsM ms) ms s).2.2.2.2.2:Nat))
 else ([],⟨#[]⟩,0,chk ms)
def SplitTop (ms:List Mrk) (s:ByteArray) (w:World) (e:Ending) (w':World):Prop :=
 ∃ v,e=.returned (.tuple #[v,.string (splitM ms s).2.1,.int .i64 (splitM ms s).2.2.1,.int .i64 (splitM ms s).2.2.2])∧w'.ownsRow w.heap.size 66 3 v (splitM ms s).1.length (tkCells (splitM ms s).1)∧w.grownBy w' none
theorem splitTop_any (ms:List Mrk) (av:Option Addr) (cap:Nat) (s:ByteArray) (w:World) (hs:s.size≤1000000) (hms:∀ m∈ms,m.pat.size≤100000∧m.kind.size≤1000000) (hl:ms.length≤1000000) (hlv:ylL (ms.map Mrk.pat)≤64)
 (ha:ms=[]∨∃ b off,av=some ⟨b,off,none⟩∧MrkAt w ms b off) :
 Calls Tryz.prog 18 #[.slice av ms.length cap,.string s] w (SplitTop ms s w):=by
 have HC:=hid (checked_sum ms av cap w hms hl hlv ha)
 obtain ⟨P,hP⟩:∃ P,SplitTop ms s w=P:=⟨_,rfl⟩
 rw [hP]
 have HP:=hid hP
 have HA:=hid ha
 have hps:(ms.map Mrk.pat).length≤1000000:=by simpa using hl
 have HPS:=hid hps
 obtain ⟨N,hN⟩:∃ N,ms.length=N:=⟨_,rfl⟩
 have HN:=hid hN
 rw [hN] at HC ⊢
 clear hP ha hms hlv hl hps hN
 go_enter Tryz.func18,Tryz.ntmps18
 go_wp2_with fail
 refine HC.out.mono ?_
 rintro e w1 ⟨g1,pv,rfl,hpv⟩
 have HPV:=hid hpv
 have HG1:=hid g1
 obtain ⟨c,hc⟩:∃ c,chk ms=c:=⟨_,rfl⟩
 have HCH:=hid hc
 rw [hc]
 clear hc hpv g1 HC
 by_cases h0:c=0
 · subst h0
   obtain ⟨bm,hpv,hL,hM⟩:=HPV.out HCH.out
   subst hpv
   have HL:=hid hL
   have HM:=hid hM
   clear hL hM HPV
   have HSP:Hid (Calls Tryz.prog 52 #[.pointer (some ⟨bm,0,none⟩),.slice av N cap,.string s] w1 (SplitAny (ms.map Mrk.pat) (setsM ms) ms s w1)):=hid (by
    rw [← HN.out]
    refine split_any bm (ms.map Mrk.pat) (setsM ms) ms av cap s w1 hs HL.out HPS.out (by simp) HM.out ?_
    rcases HA.out with h | ⟨b,off,h1,h2⟩
    · exact .inl h
    · exact .inr ⟨b,off,h1,h2.grow HG1.out⟩)
   clear HL HM HPS HN
   go_wp2_with fail
   refine HSP.out.mono ?_
   rintro e w2 ⟨v1,v2,rfl,own1,own2,g2⟩
   obtain ⟨va,vc,hv1⟩:=own_shape own1
   subst hv1
   obtain ⟨vn,hvn⟩:∃ n,(splitL (ms.map Mrk.pat) (setsM ms) ms s).2.1.length=n:=⟨_,rfl⟩
   rw [hvn] at own1 ⊢
   clear own1 hvn
   have HO:=hid own2
   have HG:=hid (xT HG1.out g2)
   have hpm:splitM ms s=(((splitL (ms.map Mrk.pat) (setsM ms) ms s).2.2.1,(splitL (ms.map Mrk.pat) (setsM ms) ms s).2.2.2.1,((splitL (ms.map Mrk.pat) (setsM ms) ms s).2.2.2.2.1:Nat),((splitL (ms.map Mrk.pat) (setsM ms) ms s).2.2.2.2.2:Nat)):List (ByteArray × ByteArray × ByteArray) × ByteArray × Int × Int):=by unfold splitM; rw [if_pos HCH.out]
   have HPM:=hid hpm
   clear own2 g2 hpm HSP
   generalize splitL (ms.map Mrk.pat) (setsM ms) ms s=r at HO HPM ⊢
   obtain ⟨r1,r2,r3,r4,r5,r6⟩:=r
   have HO2:Hid (w2.ownsRow w1.heap.size 66 3 v2 r3.length (tkCells r3)):=HO
   have HPM2:Hid (splitM ms s=(r3,r4,(r5:Int),(r6:Int))):=HPM
   have hsz:=HG1.out.size
   obtain ⟨ta,tc,htv⟩:=own_shape HO2.out
   subst htv
   simp only
   have G2:=hid (yga HG.out (.cells #[.string r1,.slice va vn vc,.slice ta r3.length tc,.string r4] 107))
   have O2:=hid (HO2.out.alloc (.cells #[.string r1,.slice va vn vc,.slice ta r3.length tc,.string r4] 107))
   have C2:=xN w2 (.cells #[.string r1,.slice va vn vc,.slice ta r3.length tc,.string r4] 107)
   have y2:=xC C2 2
   have y3:=xC C2 3
   simp only [xGe,xGz,xGs] at y2 y3
   clear C2 HO HPM HO2
   go_wp2_with fail
   go_quiet (fail)
   go_wp2_with fail
   rw [← HP.out]
   exact bodyPost_ret (v:=.tuple #[.slice ta r3.length tc,.string r4,.int .i64 r5,.int .i64 r6]) (by simp [results,Tryz.results18,go_sem]) rfl ⟨.slice ta r3.length tc,by rw [HPM2.out],by rw [HPM2.out]; exact own_base (ownsRow_block_kept O2.out (fun _ _=>rfl)) hsz,⟨G2.out.os,G2.out.tape,G2.out.output,G2.out.size,G2.out.block⟩⟩
 · have h1:(c == 0)=false:=by simpa using h0
   have hpm:splitM ms s=([],⟨#[]⟩,0,c):=by unfold splitM; rw [HCH.out,if_neg h0]
   have HPM:=hid hpm
   clear hpm
   go_wp2_with fail
   rw [← HP.out]
   exact bodyPost_ret (v:=.tuple #[.slice none 0 0,.string ⟨#[]⟩,.int .i64 0,.int .i64 c]) (by simp [results,Tryz.results18,go_sem]) rfl ⟨.slice none 0 0,by rw [HPM.out],by rw [HPM.out]; exact World.ownsRow_nil _ _ _ _,HG1.out⟩
end Go.Proofs.YtplbacfjmajeeaaGreatDoor
