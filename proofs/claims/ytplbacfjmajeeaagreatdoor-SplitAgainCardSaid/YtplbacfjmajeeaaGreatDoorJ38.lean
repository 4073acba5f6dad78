import Derived.Test.YtplbacfjmajeeaaGreatDoorJ37
import Derived.Test.YtplbacfjmajeeaaGreatDoorJ08
namespace Go.Proofs.YtplbacfjmajeeaaGreatDoor
open Go.Lib (hid)
set_option maxHeartbeats 4000000
set_option maxRecDepth 100000
open Go.RowKit
def smallsL:List UInt8:=[97,98,99,100,101,102,103,104,105,106,107,108,109,110,111,112,113,114,115,116,117,118,119,120,121,122]
def nameL:List UInt8:=smallsL++[48,49,50,51,52,53,54,55,56,57,95]
theorem idx_small_nat:∀ n:Fin 256,decide (Lib.indexByte smallsL (UInt8.ofNat n)<0) = !lettB (UInt8.ofNat n):=by decide +kernel
theorem idx_name_nat:∀ n:Fin 256,decide (Lib.indexByte nameL (UInt8.ofNat n)<0) = !nmB (UInt8.ofNat n):=by decide +kernel
theorem idx_small (c:UInt8):decide (Lib.indexByte smallsL c<0) = !lettB c:=by
 have:=idx_small_nat ⟨c.toNat,c.toNat_lt⟩
 simpa using this
theorem idx_name (c:UInt8):decide (Lib.indexByte nameL c<0) = !nmB c:=by
 have:=idx_name_nat ⟨c.toNat,c.toNat_lt⟩
 simpa using this
theorem idxS (c:UInt8) (w:World):Calls Tryz.prog 83 #[.string ⟨#[97,98,99,100,101,102,103,104,105,106,107,108,109,110,111,112,113,114,115,116,117,118,119,120,121,122]⟩,.int .u8 c.toNat] w fun e w'=>∃ k:Int,e=.returned (.int .i64 k)∧decide (k<0) = !lettB c∧w=w':=by
 refine (Tryz.strings_IndexByte _ _ w).mono ?_
 rintro e w' ⟨rfl,rfl⟩
 refine ⟨_,rfl,?_,rfl⟩
 rw [show ((c.toNat:Int)).toNat.toUInt8=c by simp]
 exact idx_small c
theorem idxN (c:UInt8) (w:World):Calls Tryz.prog 83 #[.string ⟨#[97,98,99,100,101,102,103,104,105,106,107,108,109,110,111,112,113,114,115,116,117,118,119,120,121,122,48,49,50,51,52,53,54,55,56,57,95]⟩,.int .u8 c.toNat] w fun e w'=>∃ k:Int,e=.returned (.int .i64 k)∧decide (k<0) = !nmB c∧w=w':=by
 refine (Tryz.strings_IndexByte _ _ w).mono ?_
 rintro e w' ⟨rfl,rfl⟩
 refine ⟨_,rfl,?_,rfl⟩
 rw [show ((c.toNat:Int)).toNat.toUInt8=c by simp]
 exact idx_name c
theorem nameOf_any (s:ByteArray) (w:World) (hs:s.size≤1000000):Calls Tryz.prog 56 #[.string s] w fun e w'=>e=.returned (.bool (nameB s.data.toList))∧w.grownBy w' none:=by
 have hlen:s.data.toList.length=s.size:=by rw [Array.length_toList]; rfl
 obtain ⟨r,hr⟩:∃ r,nameB s.data.toList=r:=⟨_,rfl⟩
 rw [hr]
 have HR:=hid hr
 have HLEN:=hid hlen
 clear hr hlen
 obtain ⟨bi,hbi⟩:∃ bi,inB (s.size:Int) 1 40=bi:=⟨_,rfl⟩
 have HQ:=hid (in_q (s.size:Int) 1 40)
 rw [hbi] at HQ
 have HBI:=hid hbi
 clear hbi
 rcases bi with _ | _
 · have hr2:r=false:=by
    have h:=HBI.out
    unfold inB at h
    rw [← HR.out,nameB,HLEN.out]
    have:¬ (1≤s.size∧s.size≤40):=fun h2=>by simp at h; omega
    by_cases h1:1≤s.size
    · have h40:¬ s.size≤40:=fun h=>this ⟨h1,h⟩
      simp [h40]
    · simp [h1]
   have HR2:=hid hr2
   clear hr2
   go_enter Tryz.func56,Tryz.ntmps56
   go_wp2_with fail
   refine (HQ.out _).mono ?_
   rintro e w1 ⟨rfl,rfl⟩
   go_wp2_with fail
   go_ret
   exact ⟨by rw [HR2.out]; rfl,grow_self _⟩
 · have hsz:1≤s.size∧s.size≤40:=by
    have h:=HBI.out
    unfold inB at h
    simp at h
    omega
   have h0:0<s.size:=by omega
   have h0i:(0:Int)<(s.size:Int):=by omega
   have HX:=hid (idxS s[0])
   cases hl:lettB s[0] with
   | false =>
    have hr2:r=false:=by
     have:s.data.toList.getD 0 0=s[0]:=ba_getD s 0 h0
     rw [← HR.out,nameB,this,hl]; simp
    have HL:=hid hl
    have HR2:=hid hr2
    clear hl hr2
    go_enter Tryz.func56,Tryz.ntmps56
    go_wp2_with fail
    refine (HQ.out _).mono ?_
    rintro e w1 ⟨rfl,rfl⟩
    go_wp2_with fail
    refine (HX.out _).mono ?_
    rintro e w1 ⟨k,rfl,hk,rfl⟩
    rw [HL.out] at hk
    replace hk:decide (k<0)=true:=hk
    go_wp2_with fail
    go_ret
    exact ⟨by rw [HR2.out]; rfl,grow_self _⟩
   | true =>
    have HL:=hid hl
    have HG:=hid (show r=s.data.toList.all nmB by
     have:s.data.toList.getD 0 0=s[0]:=ba_getD s 0 h0
     rw [← HR.out,nameB,this,hl,HLEN.out]
     simp [hsz.1,hsz.2])
    clear hl
    go_enter Tryz.func56,Tryz.ntmps56
    go_wp2_with fail
    refine (HQ.out _).mono ?_
    rintro e w1 ⟨rfl,rfl⟩
    go_wp2_with fail
    refine (HX.out _).mono ?_
    rintro e w1 ⟨k,rfl,hk,rfl⟩
    rw [HL.out] at hk
    replace hk:decide (k<0)=false:=hk
    go_wp2_with fail
    go_loopw [16] (fun i wr=>∃ j:Nat,j≤s.size∧i=.int .i64 j∧w1=wr∧Hid ((s.data.toList.drop j).all nmB=r)) (fun i _=>s.size-(intOf i).toNat)
    case atStart=>exact ⟨0,Nat.zero_le _,rfl,rfl,hid (by simpa using HG.out.symm)⟩
    case round =>
     obtain ⟨j,hj,rfl,rfl,HA⟩:=hrel
     by_cases hlt:j<s.size
     · have HA2:=hid (show (nmB s[j] && (s.data.toList.drop (j+1)).all nmB)=r by
        rw [← HA.out,show s.data.toList.drop j=s.data.toList[j]'(by rw [HLEN.out]; exact hlt)::s.data.toList.drop (j+1) from List.drop_eq_getElem_cons _]; rfl)
       have HN:=hid (idxN s[j])
       clear HA
       cases hc:nmB s[j] with
       | true =>
        have HA3:=hid (show (s.data.toList.drop (j+1)).all nmB=r by rw [← HA2.out,hc]; rfl)
        have HC:=hid hc
        clear hc hk
        go_wp2_with fail
        refine (HN.out _).mono ?_
        rintro e w1 ⟨k2,rfl,hk,rfl⟩
        rw [HC.out] at hk
        replace hk:decide (k2<0)=false:=hk
        go_wp2_with fail
        go_roundw
        case rel=>exact ⟨j+1,by omega,by go_num,trivial,HA3⟩
        case measure=>simp [intOf]; omega
       | false =>
        have hr2:=hid (show r=false by rw [← HA2.out,hc]; rfl)
        have HC:=hid hc
        clear hc hk
        go_wp2_with fail
        refine (HN.out _).mono ?_
        rintro e w1 ⟨k2,rfl,hk,rfl⟩
        rw [HC.out] at hk
        replace hk:decide (k2<0)=true:=hk
        go_wp2_with fail
        go_ret
        exact ⟨by rw [hr2.out]; rfl,grow_self _⟩
     · have hr2:=hid (show r=true by rw [← HA.out,List.drop_eq_nil_of_le (by rw [HLEN.out]; omega)]; rfl)
       go_wp2_with fail
       go_ret
       exact ⟨by rw [hr2.out]; rfl,grow_self _⟩
open Go.RowKit Go.Maps
theorem run_eqNil (a:Option Addr) (n c:Nat) (w:World):(binOp .eql 89 (.slice a n c) (.slice none 0 0)).run Tryz.prog w=.ok (.bool a.isNone) w :=
 @Lib.run_eql_slice_nil Tryz.prog w 89 92 a n c 0 0 Tryz.underlying89
theorem eqNil_yes (w:World):(binOp .eql 89 (.slice none 0 0) (.slice none 0 0)).run Tryz.prog w=.ok (.bool true) w:=run_eqNil none 0 0 w
theorem eqNil_no (g n c:Nat) (w:World):(binOp .eql 89 (.slice (some ⟨g,0,none⟩) n c) (.slice none 0 0)).run Tryz.prog w=.ok (.bool false) w:=run_eqNil (some ⟨g,0,none⟩) n c w
open Go.RowKit Go.Region
theorem fault_zero (p:Pt) (h:patFault p=0):p.fault 1=0:=by
 unfold patFault at h
 split at h
 · rename_i h1; exact h1
 · rename_i h1; exact absurd h h1
def chkEnd (ms:List Mrk) (F:Int):Int:=if F=0 then (if allSets (ms.map Mrk.pat)=none then 12 else 0) else F
theorem chk_end (ms:List Mrk):chk ms=chkEnd ms (ymF ms):=rfl
theorem refMarks_any (ms:List Mrk) (av:Option Addr) (cap:Nat) (w:World) (hms:∀ m∈ms,m.pat.size≤1000∧m.kind.size≤1000000) (hl:ms.length≤1000) (hn:ylL (ms.map Mrk.pat)≤64) (hsz:sizes (ms.map Mrk.pat)≤500)
 (ha:ms=[]∨∃ b off,av=some ⟨b,off,none⟩∧MrkAt w ms b off) :
 Calls Tryz.prog 23 #[.slice av ms.length cap] w fun e w'=>e=.returned (.int .i64 (chk ms))∧w.grownBy w' none:=by
 have HA:=hid ha
 have HMS:=hid hms
 clear ha hms
 rw [chk_end]
 obtain ⟨R,hR⟩:∃ r,chkEnd ms (ymF ms)=r:=⟨_,rfl⟩
 rw [hR]
 have HSP:Hid (ymF ms=0→∀ W,w.grownBy W none→Calls Tryz.prog 46 #[.slice av ms.length cap] W fun e w'=>∃ X,e=.returned (.pointer (some ⟨X,0,none⟩))∧SpotRel W X (ms.map Mrk.pat) w'):=hid (fun h0 W g=>by
  have hne:ms≠[]:=fun e=>by rw [e] at h0; cases h0
  rcases HA.out with h | ⟨b,off,rfl,h⟩
  · exact absurd h hne
  · have h1:ms.length≠0:=fun e=>hne (List.eq_nil_of_length_eq_zero e)
    have h2:markLoop ms 0=0:=by
     unfold ymF at h0
     rw [if_neg h1] at h0
     split at h0
     · cases h0
     · exact h0
    have hRR:∀ p∈ms.map Mrk.pat,Right p:=fun p hp=>by
     obtain ⟨m,hm,rfl⟩:=List.mem_map.1 hp
     exact right_fault m.pat (markLoop_all ms 0 h2 m hm).2.1
    have:=spotsOf_any (ms.map Mrk.pat) b off cap W hRR (mrk_mks (h.grow g)) (by omega) (by omega)
    rwa [List.length_map] at this)
 have HAL:Hid (∀ w0 W X,SpotRel w0 X (ms.map Mrk.pat) W→Calls Tryz.prog 47 #[.pointer (some ⟨X,0,none⟩)] W (AllPost (ms.map Mrk.pat) W)):=hid (fun w0 W X S=>all_spots (ms.map Mrk.pat) w0 W X S (by omega))
 by_cases h0:ms.length=0
 · have hf:R=8:=by rw [← hR,chkEnd,ymF,if_pos h0]; rfl
   subst hf
   clear hR
   have h0i:((ms.length:Int) == 0)=true:=by simp [h0]
   go_enter Tryz.func23,Tryz.ntmps23
   go_wp2_with fail
   go_ret
   exact ⟨rfl,grow_self w⟩
 · by_cases h60:60<ms.length
   · have hf:R=2:=by rw [← hR,chkEnd,ymF,if_neg h0,if_pos h60]; rfl
     subst hf
     clear hR
     have h0i:((ms.length:Int) == 0)=false:=beq_eq_false_iff_ne.2 (by omega)
     have h60i:(60:Int)<ms.length:=by omega
     go_enter Tryz.func23,Tryz.ntmps23
     go_wp2_with fail
     go_ret
     exact ⟨rfl,grow_self w⟩
   · have HF:=hid (show chkEnd ms (markLoop ms 0)=R by rw [← hR,ymF,if_neg h0,if_neg h60])
     have HMF:=hid (show ymF ms=markLoop ms 0 by rw [ymF,if_neg h0,if_neg h60])
     have h0i:((ms.length:Int) == 0)=false:=beq_eq_false_iff_ne.2 (by omega)
     have h60i:¬ (60:Int)<ms.length:=by omega
     clear hR
     go_enter Tryz.func23,Tryz.ntmps23
     go_wp2_with fail
     have N0:=hid (show NumAt (w.alloc (.cells #[.int .i64 0] 3)) w.heap.size 0 from xN w _)
     have G0:=hid (xG w (.cells #[.int .i64 0] 3) none)
     generalize w.alloc _=w0 at N0 G0 ⊢
     go_loopw [17] (fun i wr=>∃ (j c:Nat),j≤ms.length∧i=.int .i64 j∧c≤j*2000∧Hid (markLoop (ms.drop j) c=markLoop ms 0)∧Hid (NumAt wr w.heap.size c)∧Hid (w.grownBy wr none)) (fun i _=>ms.length-(intOf i).toNat)
     case atStart=>exact ⟨0,0,Nat.zero_le _,rfl,by omega,hid rfl,N0,G0⟩
     case round =>
      obtain ⟨j,c,hj,rfl,hc,HE,HN,HG⟩:=hrel
      by_cases hlt:j<ms.length
      · obtain ⟨b,off,o,l,h,x,n,cc,rfl,h1,h2,h3,h4,h5,hp⟩:=MrkAt.elem HA.out j hlt
        replace h1:=ycg h1 HG.out
        replace h2:=ycg h2 HG.out
        replace h3:=ycg h3 HG.out
        replace h4:=ycg h4 HG.out
        replace h5:=ycg h5 HG.out
        obtain ⟨hps,hks⟩:=HMS.out ms[j] (List.getElem_mem hlt)
        have HE2:Hid (markLoop (ms[j]::ms.drop (j+1)) c=markLoop ms 0):=hid (by rw [← HE.out,show ms.drop j=ms[j]::ms.drop (j+1) from List.drop_eq_getElem_cons _])
        have HP:=hid (PtAt.grow HG.out _ _ hp)
        clear HE hp
        generalize ms[j]=m at h1 HE2 HP hps hks
        obtain ⟨kind,pat⟩:=m
        simp only at h1 hps hks HP
        have hj60:j*2000≤120000:=by omega
        have b0:=xN wr (.cells #[.string kind,.int .i64 o,.int .i64 l,.int .i64 h,.slice x n cc] 88)
        have G1:=hid (yga HG.out (.cells #[.string kind,.int .i64 o,.int .i64 l,.int .i64 h,.slice x n cc] 88))
        have HP1:=hid (PtAt.grow (xG wr (.cells #[.string kind,.int .i64 o,.int .i64 l,.int .i64 h,.slice x n cc] 88) none) _ _ HP.out)
        have N1:=hid (show NumAt (wr.alloc (.cells #[.string kind,.int .i64 o,.int .i64 l,.int .i64 h,.slice x n cc] 88)) w.heap.size c from grow_new (xG _ _ none) HN.out)
        have hnb:w.heap.size<wr.heap.size:=xL HN.out
        obtain ⟨bad,hbad⟩:∃ b,badKind kind=b:=⟨_,rfl⟩
        have HBAD:=hid hbad
        clear hbad HN HG HP
        go_upto_region 9 with (fail)
        generalize wr.alloc _=w1 at b0 G1 HP1 N1 ⊢
        generalize wr.heap.size=B at b0 hnb ⊢
        obtain ⟨x0,x1,x2,x3,x4⟩:=cb5 b0
        have HB0:=hid b0
        clear b0 h1 h2 h3 h4 h5
        go_cut [29] (fun v wx=>v=.bool bad∧Hid (w1.grownBy wx none))
        case first =>
         by_cases hk:kind.toList=[]
         · have hb:bad=false:=by rw [← HBAD.out,badKind,hk]; rfl
           subst hb
           go_wp2_with fail
           go_meet
           exact ⟨rfl,hid (grow_self w1)⟩
         · have hk2:kind.toList.isEmpty=false:=by cases hh:kind.toList with | nil=>exact absurd hh hk | cons _ _=>rfl
           have hb:bad = !nameB kind.data.toList:=by rw [← HBAD.out,badKind,hk2]; rfl
           have HBB:=hid hb
           clear hb hk
           go_wp2_with fail
           refine (nameOf_any kind _ hks).mono ?_
           rintro e w2 ⟨rfl,g2⟩
           have HG2:=hid g2
           clear g2
           go_wp2_with fail
           go_meet
           exact ⟨by rw [HBB.out],HG2⟩
        case rest =>
         obtain ⟨rfl,HG2⟩:=hcut
         obtain ⟨w2,rfl⟩:∃ v:World,v=wc:=⟨_,rfl⟩
         have b2:=grow_new HG2.out HB0.out
         have N2:=hid (show NumAt w2 w.heap.size c from grow_new HG2.out N1.out)
         have G2:=hid (xT G1.out HG2.out)
         have HP2:=hid (PtAt.grow HG2.out _ _ HP1.out)
         clear x0 x1 x2 x3 x4
         have x1:=xC b2 1
         have x2:=xC b2 2
         have x3:=xC b2 3
         have x4:=xC b2 4
         simp only [xGe,xGz,xGs] at x1 x2 x3 x4
         have HB2:=hid b2
         clear b2 HB0 HP1 N1 G1 HG2
         rcases bad with _ | _
         · have HE3:=hid (show (if patFault pat≠0 then patFault pat else if pat.nul=true then 16 else markLoop (ms.drop (j+1)) (c+pat.size))=markLoop ms 0 by rw [← HE2.out,markLoop,if_neg (show ¬ badKind kind=true by rw [HBAD.out]; simp)])
           clear HE2
           go_wp2_with fail
           refine (refPatFault_any pat _ _ (by omega) HP2.out).mono ?_
           rintro e w3 ⟨rfl,g3⟩
           obtain ⟨pf,hpf⟩:∃ f,patFault pat=f:=⟨_,rfl⟩
           rw [hpf] at HE3 ⊢
           have HPF:=hid hpf
           clear hpf
           have HP3:=hid (PtAt.grow g3 _ _ HP2.out)
           have G3:=hid (xT G2.out g3)
           have b3:=grow_new g3 HB2.out
           have N3:=hid (show NumAt w3 w.heap.size c from grow_new g3 N2.out)
           clear g3 x1 x2 x3 x4
           have x1:=xC b3 1
           have x2:=xC b3 2
           have x3:=xC b3 3
           have x4:=xC b3 4
           simp only [xGe,xGz,xGs] at x1 x2 x3 x4
           have HB3:=hid b3
           clear b3
           by_cases hz:pf=0
           · subst hz
             have HRG:=hid (right_fault pat HPF.out)
             have HFZ:=hid (fault_zero pat HPF.out)
             have hps2:=fault_size pat HPF.out
             have HE4:=hid (show (if pat.nul=true then 16 else markLoop (ms.drop (j+1)) (c+pat.size))=markLoop ms 0 by rw [← HE3.out,if_neg (show ¬ (0:Int)≠0 by simp)])
             clear HE3
             go_wp2_with fail
             refine (fitsOf_z pat HRG.out _ _ (by omega) HP3.out).mono ?_
             rintro e w4 ⟨rfl,g4⟩
             obtain ⟨nl,hnl⟩:∃ f,pat.nul=f:=⟨_,rfl⟩
             rw [hnl] at HE4 ⊢
             clear hnl
             have HP4:=hid (PtAt.grow g4 _ _ HP3.out)
             have G4:=hid (xT G3.out g4)
             have b4:=grow_new g4 HB3.out
             have N4:=hid (show NumAt w4 w.heap.size c from grow_new g4 N3.out)
             clear g4 x1 x2 x3 x4
             have x1:=xC b4 1
             have x2:=xC b4 2
             have x3:=xC b4 3
             have x4:=xC b4 4
             simp only [xGe,xGz,xGs] at x1 x2 x3 x4
             clear b4
             rcases nl with _ | _
             · have HE5:=hid (show markLoop (ms.drop (j+1)) (c+pat.size)=markLoop ms 0 by rw [← HE4.out]; rfl)
               clear HE4
               go_wp2_with fail
               refine (refFault_any pat _ _ 1 c w.heap.size (by omega) (by omega) (by omega) (by omega) HP4.out N4.out).mono ?_
               rintro e w5 ⟨rfl,g5,m5,hn5,hm5⟩
               have hm6:=hm5 HFZ.out
               subst hm6
               have N5:=hid (show NumAt w5 w.heap.size ((c+pat.size:Nat):Int) by rw [Int.natCast_add]; exact hn5)
               have G5:=hid (show w.grownBy w5 none from grow_row G4.out g5 (fun k hk=>Nat.le_of_eq (by simpa using hk)))
               clear g5 hn5 hm5
               go_wp2_with fail
               go_roundw
               case rel=>exact ⟨j+1,c+pat.size,by omega,by go_num,by omega,HE5,N5,G5⟩
               case measure=>simp [intOf]; omega
             · have HE5:=hid (show (16:Int)=markLoop ms 0 by rw [← HE4.out]; rfl)
               have HR5:=hid (show (16:Int)=R by rw [← HF.out,← HE5.out]; rfl)
               clear HE4
               go_wp2_with fail
               go_ret
               exact ⟨by rw [← HR5.out]; rfl,G4.out⟩
           · have HE4:=hid (show pf=markLoop ms 0 by rw [← HE3.out,if_pos hz])
             have HR5:=hid (show pf=R by rw [← HF.out,← HE4.out,chkEnd,if_neg hz])
             have hzb:(pf != 0)=true:=by simpa using hz
             clear HE3 hz
             go_wp2_with fail
             go_ret
             exact ⟨by rw [← HR5.out]; rfl,G3.out⟩
         · have HE3:=hid (show (5:Int)=markLoop ms 0 by rw [← HE2.out,markLoop,if_pos HBAD.out])
           have HR5:=hid (show (5:Int)=R by rw [← HF.out,← HE3.out]; rfl)
           go_wp2_with fail
           go_ret
           exact ⟨by rw [← HR5.out]; rfl,G2.out⟩
      · have HE2:=hid (show (if 2000<c then (2:Int) else 0)=markLoop ms 0 by rw [← HE.out,List.drop_eq_nil_of_le (by omega)]; rfl)
        have cc:=HN.out.cell
        by_cases hbig:2000<c
        · have HR5:=hid (show (2:Int)=R by rw [← HF.out,← HE2.out,if_pos hbig]; rfl)
          have hb2:(2000:Int)<c:=by omega
          go_wp2_with fail
          go_ret
          exact ⟨by rw [← HR5.out]; rfl,HG.out⟩
        · have hz0:ymF ms=0:=by rw [HMF.out,← HE2.out,if_neg hbig]
          have HRR:=hid (show (if allSets (ms.map Mrk.pat)=none then (12:Int) else 0)=R by rw [← HF.out,← HE2.out,if_neg hbig,chkEnd,if_pos rfl])
          have hb2:¬ (2000:Int)<c:=by omega
          have HCS:=hid (HSP.out hz0 wr HG.out)
          clear hz0
          go_wp2_with fail
          refine HCS.out.mono ?_
          rintro e w6 ⟨X,rfl,S6⟩
          have HCA:=hid (HAL.out wr w6 X S6)
          have HG6:=hid (show w.grownBy w6 none from by
           obtain ⟨V,fo,a,n,k,e1,S,g⟩:=S6
           exact xT HG.out g)
          clear S6
          go_wp2_with fail
          refine HCA.out.mono ?_
          rintro e w7 ⟨rv,rfl,g7,hv⟩
          have HG7:=hid (xT HG6.out g7)
          clear g7
          rcases hv with ⟨hnone,rfl⟩ | ⟨a,c7,l,hsome,rfl,hpos,own,_⟩
          · have HNN:=hid (show (12:Int)=R by rw [← HRR.out,if_pos hnone])
            clear hnone
            have he:=eqNil_yes w7
            go_wp2_with fail
            go_ret
            exact ⟨by rw [← HNN.out]; rfl,HG7.out⟩
          · obtain ⟨g,cap7,hv,_,_⟩:=yoe own hpos
            have HNN:=hid (show (0:Int)=R by rw [← HRR.out,if_neg (by rw [hsome]; simp)])
            rw [hv]
            clear hsome own hv
            have he:=eqNil_no g l.length cap7 w7
            go_wp2_with fail
            go_ret
            exact ⟨by rw [← HNN.out]; rfl,HG7.out⟩
theorem own_mono {w:World} {base base':Nat} {e:TypeId} {size:Nat} {v:Value} {n:Nat} {xs:List Value} (h:w.ownsRow base e size v n xs) (hb:base'≤base):w.ownsRow base' e size v n xs:=by
 refine ⟨h.1,?_⟩
 rcases h.2 with h2 | ⟨g,cap,cur,hv,hg,r⟩
 · exact .inl h2
 · exact .inr ⟨g,cap,cur,hv,Nat.le_trans hb hg,r⟩
theorem tkCells_set:∀ (T:List Tk) (i:Nat) (h:i<T.length) (t:ByteArray),(tkCells T).set (i*3+2) (.string t)=tkCells (T.set i (T[i].1,T[i].2.1,t))
 | x::T,0,_,t=>by simp [tkCells]
 | x::T,i+1,h,t=>by
  have:=tkCells_set T i (by simpa using h) t
  rw [show (i+1)*3+2=i*3+2+1+1+1 by omega]
  simp only [tkCells,xSs,List.getElem_cons_succ,this]
theorem tkCells_at:∀ (T:List Tk) (i:Nat) (h:i<T.length),(tkCells T)[i*3+2]? = some (.string T[i].2.2)
 | x::T,0,_=>by simp [tkCells]
 | x::T,i+1,h=>by
  rw [show (i+1)*3+2=i*3+2+1+1+1 by omega]
  simp only [tkCells,xGs,List.getElem_cons_succ]
  exact tkCells_at T i (by simpa using h)
theorem tkSum_set:∀ (T:List Tk) (i:Nat) (h:i<T.length) (t:ByteArray),tkSum (T.set i (T[i].1,T[i].2.1,t))≤tkSum T+t.size
 | x::T,0,_,t=>by simp only [xSz,tkSum,List.getElem_cons_zero]; omega
 | x::T,i+1,h,t=>by
  have:=tkSum_set T i (by simpa using h) t
  simp only [xSs,tkSum,List.getElem_cons_succ] at this ⊢
  omega
theorem splitR_len (ms:List Mrk) (s:ByteArray):(splitR ms s).1.length≤2000:=by
 unfold splitR
 split
 · split
   · simp
   · simp only; omega
 · simp
theorem splitR_sum (ms:List Mrk) (s:ByteArray) (h:(splitR ms s).2.2.2=0):tkSum (splitR ms s).1+(splitR ms s).2.1.size=s.size:=by
 have h1:=congrArg List.length (splitR_text ms s h)
 rw [List.length_append,tkText_len,Array.length_toList,Array.length_toList] at h1
 exact h1
def textL3:List ByteArray:=[⟨#[120]⟩,⟨#[49,32,49]⟩,⟨#[]⟩]
def tailL2:List ByteArray:=[⟨#[]⟩,⟨#[32]⟩]
theorem textL3_le (xs:List Int) (k:Nat):(somev xs k textL3).size≤3:=somev_all (fun x=>x.size≤3) xs k textL3 (by decide) (by decide)
theorem tailL2_le (xs:List Int) (k:Nat):(somev xs k tailL2).size≤3:=somev_all (fun x=>x.size≤3) xs k tailL2 (by decide) (by decide)
def TokPost (b:Nat) (av:Option Addr) (cap:Nat) (xs:List Int) (w:World) (k:Nat) (e:Ending) (w':World):Prop :=
 ∃ (T:List Tk) (v:Value) (tail:ByteArray) (k':Nat),e=.returned (.tuple #[v,.string tail])∧w'.ownsRow w.heap.size 66 3 v T.length (tkCells T)∧T.length≤2000∧tkSum T+tail.size≤100∧k'≤k+100∧Sto b av cap xs w w' k'
theorem tokenList_any {b:Nat} {av:Option Addr} {cap k base:Nat} {xs:List Int} {w:World} {ms:List Mrk} {mv:Option Addr} {mc:Nat} (hk:k≤100000) (hx2:xs.length≤9223372036854775807) (hbb:b<base) (hF:MksF base ms (.slice mv ms.length mc) w) (hN:MrkN ms 12 41 406) (S:Strm b av cap xs w k) :
 Calls Tryz.prog 19 #[.pointer (some ⟨b,0,none⟩),.slice mv ms.length mc] w (TokPost b av cap xs w k):=by
 obtain ⟨P,hP⟩:∃ P,TokPost b av cap xs w k=P:=⟨_,rfl⟩
 rw [hP]
 have HP:=hid hP
 have HF:=hid hF
 have HN:=hid hN
 have HS:=hid S
 have hA:∀ W,MksF base ms (.slice mv ms.length mc) W→ms=[]∨∃ b off,mv=some ⟨b,off,none⟩∧MrkAt W ms b off:=by
  intro W h
  obtain ⟨mv2,mc2,e,h2⟩:=h.form
  simp only [Value.slice.injEq] at e
  rw [e.1]
  exact h2
 have HA:=hid hA
 have hlv:ylL (ms.map Mrk.pat)≤64:=by have:ylL (ms.map Mrk.pat)≤41:=hN.lv; omega
 have hsz:sizes (ms.map Mrk.pat)≤500:=by have:sizes (ms.map Mrk.pat)≤406:=hN.sz; omega
 have HC:=hid (refMarks_any ms mv mc w (fun m hm=>⟨by have:=mSz_mem ms m hm; have:=hN.sz; omega,by have:=hN.kd m hm; omega⟩) (by have:=hN.len; omega) hlv hsz (hA w hF))
 have HSP:Hid (∀ (s:ByteArray) (W:World),s.size≤20000→chk ms=0→MksF base ms (.slice mv ms.length mc) W→Calls Tryz.prog 27 #[.slice mv ms.length mc,.string s] W (SplitOfPost (splitR ms s) W)) :=
  hid (fun s W hs hc hW=>splitOf_any ms mv mc s W hs hc hlv hsz (hA W hW))
 obtain ⟨M,hM⟩:∃ M:Value,.slice mv ms.length mc=M:=⟨_,rfl⟩
 obtain ⟨c,hc⟩:∃ c,chk ms=c:=⟨_,rfl⟩
 rw [hc] at HC HSP
 rw [hM] at HC HSP HF ⊢
 clear hP hF hN hA hlv hsz HA hc hM
 have HB:=hid hbb
 clear hbb
 go_enter Tryz.func19,Tryz.ntmps19
 go_wp2_with fail
 refine HC.out.mono ?_
 rintro e w1 ⟨rfl,g1⟩
 have HT1:=hid ((Sto.refl HS.out).newer HS.out g1 (fun r hr=>by cases hr))
 have HF1:=hid (HF.out.keep g1 (fun r hr=>by cases hr))
 clear g1
 go_upto_if 12 with (fail)
 go_cut [] (fun wx=>∃ (k2:Nat),k2≤k+70∧Hid (Sto b av cap xs w wx k2))
 case first =>
  by_cases hc:c=0
  · subst hc
    rw [show ((0:Int) == 0)=true from rfl]
    have HSQ:Hid (∀ (s:ByteArray) (W:World),s.size≤20000→MksF base ms M W→Calls Tryz.prog 27 #[M,.string s] W (SplitOfPost (splitR ms s) W)):=hid (fun s W h1 h2=>HSP.out s W h1 rfl h2)
    clear HSP HC
    go_wp2_with fail
    go_loopw [13] (fun iv wr=>∃ (i k2:Nat),i≤5∧iv=.int .i64 i∧k2≤k+14*i∧Hid (Sto b av cap xs w wr k2)) (fun iv _=>5-(intOf iv).toNat)
    case atStart=>exact ⟨0,k,by omega,rfl,by omega,HT1⟩
    case round =>
     clear HT1 HF1
     obtain ⟨i,k2,hi,rfl,hk2,HT⟩:=hrel
     by_cases hlt:i<5
     · have hw1:IntKind.i64.wrap ((i:Int)+1)=((i+1:Nat):Int):=(xI _ (by omega)).trans (by omega)
       go_wp2_with fail
       refine (atext_any (by omega) hx2 HT.out.strm).mono ?_
       rintro e w2 ⟨t,k3,rfl,ht,hk3,T2⟩
       have HT2:=hid (HT.out.trans T2)
       have HF2:=hid (HF.out.keep HT2.out.grow (fun r hr=>by have:b=r:=(by simpa using hr); have:=HB.out; omega))
       have HSR:=hid (splitR_sum ms t)
       have HLN:=hid (splitR_len ms t)
       have HCL:=hid (HSQ.out t w2 (by omega) HF2.out)
       have HTS:=hid ht
       generalize splitR ms t=r at HSR HLN HCL
       obtain ⟨T,tail,at_,er⟩:=r
       clear T2 HT ht
       go_wp2_with fail
       refine HCL.out.mono ?_
       rintro e w3 ⟨v,rfl,own3,g3⟩
       have HT3:=hid (HT2.out.newer HS.out g3 (fun r hr=>by cases hr))
       have HO3:=hid (own_mono own3 (show w.heap.size≤w2.heap.size from HT2.out.grow.size))
       clear own3 g3 HT2 HF2 HCL
       simp only at HO3 HSR HLN ⊢
       by_cases her:er=0
       · subst her
         have HTK:=hid (show T.length≤2000∧tkSum T+tail.size≤38 from ⟨HLN.out,by have:=HSR.out rfl; have:=HTS.out; omega⟩)
         clear HSR HLN HTS
         by_cases h0:0<T.length
         · obtain ⟨g,c2,hsl,hgB,hcell⟩:=yoe HO3.out h0
           subst hsl
           clear hcell
           have hb0:decide ((0:Int)<(T.length:Int))=true:=decide_eq_true (by omega)
           have hTL:T.length≤2000:=HTK.out.1
           go_wp2_with fail
           refine (flip_any 15 (by omega) (by omega) hx2 HT3.out.strm).mono ?_
           rintro e w4 ⟨rfl,T4⟩
           have HT4:=hid (HT3.out.trans T4)
           have HO4:=hid (HO3.out.kept T4.grow (.inr (by simp only [Value.ownBlock,ne_eq,Option.some.injEq]; have:=HS.out.lt; omega)))
           clear T4 HT3 HO3
           generalize flipv xs k3 15=fb
           rcases fb with _ | _
           · go_wp2_with fail
             rw [← HP.out]
             exact ⟨T,_,tail,k3+1,rfl,HO4.out,by omega,by have:=HTK.out.2; omega,by omega,HT4.out⟩
           · go_wp2_with fail
             have n0:=nextv_lo xs (k3+1) (T.length:Int)
             have n1:=nextv_hi xs (k3+1) (T.length:Int) (by omega)
             refine (next_any (T.length:Int) (by omega) (by omega) hx2 HT4.out.strm).mono ?_
             rintro e w5 ⟨rfl,T5⟩
             have HT5:=hid (HT4.out.trans T5)
             have HO5:=hid (HO4.out.kept T5.grow (.inr (by simp only [Value.ownBlock,ne_eq,Option.some.injEq]; have:=HS.out.lt; omega)))
             clear T5 HT4 HO4
             obtain ⟨j,hj⟩:=Int.eq_ofNat_of_zero_le n0
             rw [hj]
             have hj1:j<T.length:=by omega
             have hj2:(j:Int)<(T.length:Int):=by omega
             clear hj n0 n1
             go_wp2_with fail
             refine (some_new textL3 (by decide) (by decide) (show k3+1+1≤1073741824 by omega) hx2 HT5.out.strm).mono ?_
             rintro e w6 ⟨rfl,T6⟩
             have HT6:=hid (HT5.out.trans T6)
             have HO6:=hid (HO5.out.kept T6.grow (.inr (by simp only [Value.ownBlock,ne_eq,Option.some.injEq]; have:=HS.out.lt; omega)))
             clear T6 HT5 HO5
             have HX:=hid (textL3_le xs (k3+1+1))
             generalize somev xs (k3+1+1) textL3=x at HX ⊢
             have c0:w6.cell? ⟨g,j*3+2,none⟩=some (.string T[j].2.2):=by
              rw [HO6.out.cellAt _ (by omega)]
              exact tkCells_at T j hj1
             have f0:w6.frozen? ⟨g,j*3+2,none⟩=false:=HO6.out.frozenAt _
             generalize T[j].2.2=old at c0
             go_wp2_with fail
             have HO7:=hid (HO6.out.stored (j*3+2) (.string x)).1
             have HT7:=hid (HT6.out.setCell HS.out ⟨g,j*3+2,none⟩ (.string x) hgB)
             rw [tkCells_set T j hj1 x] at HO7
             clear c0 f0
             generalize World.setCell _ _ _=w7 at HO7 HT7 ⊢
             rw [← HP.out]
             refine ⟨T.set j (T[j].1,T[j].2.1,x),.slice (some ⟨g,0,none⟩) T.length c2,tail,k3+1+1+1,rfl,by rw [List.length_set]; exact HO7.out,by rw [List.length_set]; omega,?_,by omega,HT7.out⟩
             have:=tkSum_set T j hj1 x
             have:=HTK.out.2
             have:=HX.out
             omega
         · have hTL:T.length=0:=by omega
           have HOT:=HO3
           have hb0:decide ((0:Int)<(T.length:Int))=false:=decide_eq_false (by omega)
           obtain ⟨sa,sc,rfl⟩:=yos HO3.out
           clear hTL
           go_wp2_with fail
           rw [← HP.out]
           exact ⟨T,_,tail,k3,rfl,HO3.out,HTK.out.1,by have:=HTK.out.2; omega,by omega,HT3.out⟩
       · have heb:((er:Int) == 0)=false:=beq_eq_false_iff_ne.2 (by omega)
         go_wp2_with fail
         go_roundw
         case measure=>simp [intOf]; omega
         case rel=>exact ⟨i+1,k3,by omega,by go_num,by omega,HT3⟩
     · obtain rfl:i=5:=by omega
       go_wp2_with fail
       go_meet
       exact ⟨k2,by omega,HT⟩
  · have hcb:(c == 0)=false:=by simp [hc]
    go_wp2_with fail
    go_meet
    exact ⟨k,by omega,HT1⟩
 case rest =>
  clear HT1 HF1 HC HSP
  obtain ⟨k2,hk2,HT⟩:=hcut
  go_wp2_with fail
  have HO1:=hid (World.ownsRow_lit (base:=w.heap.size) (e:=66) (size:=3) wc #[.string ⟨#[110,117,109]⟩,.string ⟨#[]⟩,.string ⟨#[49]⟩] 1 HT.out.grow.size (by unfold maxLen; omega) rfl)
  have HT1:=hid (HT.out.alloc (.cells #[.string ⟨#[110,117,109]⟩,.string ⟨#[]⟩,.string ⟨#[49]⟩] 66))
  have hgb:wc.heap.size≠b:=by have:=HT.out.strm.lt; omega
  have hsz:wc.heap.size+1=(wc.alloc (.cells #[.string ⟨#[110,117,109]⟩,.string ⟨#[]⟩,.string ⟨#[49]⟩] 66)).heap.size:=by simp
  clear HT
  rw [hsz]
  clear hsz
  generalize wc.alloc _=w2 at HO1 HT1 ⊢
  generalize wc.heap.size=g at HO1 hgb ⊢
  refine (some_new tailL2 (by decide) (by decide) (show k2≤1073741824 by omega) hx2 HT1.out.strm).mono ?_
  rintro e w3 ⟨rfl,T3⟩
  have HT3:=hid (HT1.out.trans T3)
  have HO3:=hid (HO1.out.kept T3.grow (.inr (by simpa only [Value.ownBlock,ne_eq,Option.some.injEq] using hgb)))
  clear T3 HT1 HO1
  have HX:=hid (tailL2_le xs k2)
  generalize somev xs k2 tailL2=x at HX ⊢
  go_wp2_with fail
  rw [← HP.out]
  exact ⟨[(⟨#[110,117,109]⟩,⟨#[]⟩,⟨#[49]⟩)],.slice (some ⟨g,0,none⟩) 1 1,x,k2+1,rfl,HO3.out,by simp,by have:=HX.out; simp only [tkSum]; have:(⟨#[]⟩:ByteArray).size=0:=rfl; have:(⟨#[49]⟩:ByteArray).size=1:=rfl; omega,by omega,HT3.out⟩
theorem MksF.mono {base base':Nat} {ms:List Mrk} {lv:Value} {W:World} (h:MksF base ms lv W) (hb:base'≤base):MksF base' ms lv W:=by
 obtain ⟨vs,h1,h2⟩:=h
 exact ⟨vs,own_mono h1 hb,MrkQ.keep (kept_self (fun c hc=>⟨by omega,hc.2⟩)) _ _ h2⟩
theorem MksF.arg {base:Nat} {ms:List Mrk} {mv:Option Addr} {mc:Nat} {W:World} (h:MksF base ms (.slice mv ms.length mc) W):ms=[]∨∃ b off,mv=some ⟨b,off,none⟩∧MrkAt W ms b off:=by
 obtain ⟨mv2,mc2,e,h2⟩:=h.form
 simp only [Value.slice.injEq] at e
 rw [e.1]
 exact h2
structure LawC (B:Nat) (ms:List Mrk) (M:Value) (t:ByteArray) (a f1 f2 f3 f4 fe r1 c:Int) (P:List Pc) (pi pe:Int) (T:List Tk) (tl:ByteArray) (si se:Int):Prop where
 long:∀ W,MksF B ms M W→Calls Tryz.prog 16 #[M,.string t,.int .i64 a] W fun e w'=>e=.returned (.tuple #[.agg #[.int .i64 f1,.int .i64 f2,.int .i64 f3,.int .i64 f4],.int .i64 fe])∧W.grownBy w' none
 pcs:∀ W,MksF B ms M W→Calls Tryz.prog 17 #[M,.string t] W fun e w'=>∃ v,e=.returned (.tuple #[v,.int .i64 pi,.int .i64 pe])∧w'.ownsRow W.heap.size 43 4 v P.length (pcCells P)∧W.grownBy w' none
 spl:∀ W,MksF B ms M W→Calls Tryz.prog 18 #[M,.string t] W fun e w'=>∃ v,e=.returned (.tuple #[v,.string tl,.int .i64 si,.int .i64 se])∧w'.ownsRow W.heap.size 66 3 v T.length (tkCells T)∧W.grownBy w' none
 bet:∀ W s1 s2,s1.size≤10→s2.size≤10→MksF B ms M W→Calls Tryz.prog 22 #[M,.string s1,.string s2] W fun e w'=>e=.returned (.tuple #[.string (betweenM ms s1 s2).1,.bool (betweenM ms s1 s2).2.1,.int .i64 (betweenM ms s1 s2).2.2])∧W.grownBy w' none
 flt:∀ W,MksF B ms M W→Calls Tryz.prog 23 #[M] W fun e w'=>e=.returned (.int .i64 c)∧W.grownBy w' none
 rlong:c=0→0≤a→a<t.size→∀ W,MksF B ms M W→Calls Tryz.prog 25 #[M,.string t,.int .i64 a] W fun e w'=>e=.returned (.agg #[.int .i64 r1,.int .i64 f2,.int .i64 f3,.int .i64 f4])∧W.grownBy w' none
 rpcs:c=0→∀ W,MksF B ms M W→Calls Tryz.prog 26 #[M,.string t] W fun e w'=>∃ v,e=.returned (.tuple #[v,.int .i64 pi,.bool (decide (pe=0))])∧w'.ownsRow W.heap.size 43 4 v P.length (pcCells P)∧W.grownBy w' none
 rspl:c=0→∀ W,MksF B ms M W→Calls Tryz.prog 27 #[M,.string t] W fun e w'=>∃ v,e=.returned (.tuple #[v,.string tl,.int .i64 si,.int .i64 se])∧w'.ownsRow W.heap.size 66 3 v T.length (tkCells T)∧W.grownBy w' none
 rbet:c=0→∀ W s1 s2,s1.size≤10→s2.size≤10→MksF B ms M W→Calls Tryz.prog 28 #[M,.string s1,.string s2] W fun e w'=>e=.returned (.tuple #[.string (betweenM ms s1 s2).1,.bool (betweenM ms s1 s2).2.1,.int .i64 (betweenM ms s1 s2).2.2])∧W.grownBy w' none
 bad:c≠0→f1=0∧f2=0∧f3=0∧f4=0∧fe=c∧P=[]∧pi=0∧pe=c∧T=[]∧tl=⟨#[]⟩∧si=0∧se=c
 badb:c≠0→∀ s1 s2,betweenM ms s1 s2=(⟨#[]⟩,false,c)
 out:c=0→(a<0∨(t.size:Int)≤a)→f1=0∧f2=0∧f3=0∧f4=0∧fe=1
 inn:c=0→0≤a→a<t.size→(r1 = -1∧f1=0∧fe=8)∨(0≤r1∧f1=r1∧fe=0)
 per:c=0→pe=0∨pe=8
 pl:P.length≤1000000
 tlen:T.length≤1000000
end Go.Proofs.YtplbacfjmajeeaaGreatDoor
