import Derived.Test.YtplbacfjmajeeaaGreatDoorJ31
import Derived.Test.YtplbacfjmajeeaaGreatDoorJ32
import Derived.Sort.OwnSortedInts
namespace Go.Proofs.YtplbacfjmajeeaaGreatDoor
open Go.Lib (hid)
set_option maxHeartbeats 4000000
set_option maxRecDepth 100000
open Go.RowKit
def sortL (xs:List Int):List Int:=xs.mergeSort fun x y=>decide (x≤y)
theorem sortL_len (xs:List Int):(sortL xs).length=xs.length:=List.length_mergeSort xs
def LowV (b:Nat) (v:Value):Prop:=∀ k,v.ownBlock=some k→b≤k
theorem LowV.mono {b b':Nat} {v:Value} (h:LowV b v) (hb:b'≤b):LowV b' v:=fun k hk=>Nat.le_trans hb (h k hk)
theorem lowV_own {w:World} {base:Nat} {e:TypeId} {size n:Nat} {v:Value} {xs:List Value} (h:w.ownsRow base e size v n xs):LowV base v:=fun k hk=>(yob h k hk).1
theorem lowV_nil (b n c:Nat):LowV b (.slice none n c):=fun k hk=>by simp [Value.ownBlock] at hk
theorem sort_own (v:Value) (w:World) (base n:Nat) (xs:List Int) (h:w.ownsRow base 3 1 v n (intC xs)) (hn:n≤1000000) :
 Calls Tryz.prog 106 #[v] w fun e w'=>e=.returned (.tuple #[])∧w'.ownsRow base 3 1 v n (intC (sortL xs))∧w.grownBy w' v.ownBlock:=by
 have hlen:xs.length=n:=by have:=h.1; rw [intC_len] at this; omega
 by_cases h0:n=0
 · have hx:xs=[]:=List.eq_nil_of_length_eq_zero (by omega)
   subst hx
   subst h0
   refine (sort_z 0 (by omega) v w (Ints.of_own h)).mono ?_
   rintro e w' ⟨rfl,g⟩
   have:=own_keep h g
   exact ⟨rfl,by simpa [sortL] using this,⟨g.os,g.tape,g.output,g.size,fun k hk _=>g.block k hk (by simp)⟩⟩
 · rcases h.2 with ⟨_,h1⟩ | ⟨g,cap,cur,rfl,hbase,hb,h1,h2,h3,ht⟩
   · omega
   · rw [Nat.mul_one] at ht
     have hH:Go.Sort.Holds (Value.int .i64) w g 0 xs.toArray:=holds_of_blockI hb (by rw [hlen]; exact ht)
     subst hlen
     refine (Tryz.slices_Sort_int g 0 cap xs w hH (xL hb) (by omega)).mono ?_
     rintro e w' ⟨rfl,m,os,rfl⟩
     have:=ownsRow_sortedI (n:=m) (os:=os) (base:=base) (sortL_len xs) hbase hb h1 h2 h3
     exact ⟨rfl,this,grownBy_sortedI _⟩
theorem compact_len (xs:List Int):(Lib.compact xs).length≤xs.length:=by
 unfold Lib.compact Lib.compactUpTo
 rw [List.length_map]
 refine Nat.le_trans (List.length_filter_le _ _) ?_
 simp
theorem compact_own (v:Value) (w:World) (base n:Nat) (xs:List Int) (h:w.ownsRow base 3 1 v n (intC xs)) (hn:n≤1000000) :
 Calls Tryz.prog 107 #[v] w fun e w'=>∃ v',e=.returned v'∧Ints w' v' (Lib.compact xs)∧LowV base v'∧w.grownBy w' v.ownBlock:=by
 have hlen:xs.length=n:=by have:=h.1; rw [intC_len] at this; omega
 by_cases h0:n=0
 · have hx:xs=[]:=List.eq_nil_of_length_eq_zero (by omega)
   subst hx
   subst h0
   obtain ⟨a,c,rfl⟩:=yos h
   refine (Tryz.slices_Compact_int_empty a c w).mono ?_
   rintro e w' ⟨rfl,rfl⟩
   exact ⟨_,rfl,Ints.nil _ _ _,lowV_own h,⟨rfl,rfl,rfl,Nat.le_refl _,fun _ _ _=>rfl⟩⟩
 · rcases h.2 with ⟨_,h1⟩ | ⟨g,cap,cur,rfl,hbase,hb,h1,h2,h3,ht⟩
   · omega
   · rw [Nat.mul_one] at ht
     have hH:Go.Sort.Holds (Value.int .i64) w g 0 xs.toArray:=holds_of_blockI hb (by rw [hlen]; exact ht)
     subst hlen
     refine (Tryz.slices_Compact_int g 0 cap xs w hH (by omega) h1).mono ?_
     rintro e w' ⟨rfl,q,rfl⟩
     have hcl:=compact_len xs
     refine ⟨_,rfl,⟨_,_,rfl,.inr ⟨g,0,rfl,fun j u hu=>?_⟩⟩,fun k hk=>(by simp only [Value.ownBlock,Option.some.injEq] at hk; omega),?_⟩
     · have hj:j<(Lib.compact xs).length:=by
        have:=(List.getElem?_eq_some_iff.1 hu).1
        rwa [intC_len] at this
       have hu2:u=Value.int .i64 (Lib.compact xs)[j]:=by
        simp [intC,hj] at hu; exact hu.symm
       have hHH:Go.Sort.Holds (Value.int .i64) (Go.Sort.ahead w q) g 0 xs.toArray:=hH
       rw [Go.Sort.cell?_putRow (Value.int .i64) _ g 0 xs.toArray _ hHH (by simp; omega) j (by simp; omega),hu2]
       congr 2
       rw [getElem!_pos _ j (by simp; omega)]
       simp [hj]
     · have:=grownBy_sortedI (w:=w) (g:=g) (n:=q) (os:=#[]) (Lib.compact xs++List.replicate (xs.length-(Lib.compact xs).length) 0).toArray
       rwa [Go.Sort.grow_empty] at this
def IntsPost (w:World) (l:List Int) (e:Ending) (w':World):Prop:=∃ v,e=.returned v∧Ints w' v l∧LowV w.heap.size v∧w.grownBy w' none
theorem union_any (xs ys:List Int) (va vb:Value) (w:World) (h1:Ints w va xs) (h2:Ints w vb ys) (hn:xs.length+ys.length≤1000000):Calls Tryz.prog 84 #[va,vb] w (IntsPost w (unionL xs ys)):=by
 have g0:=xG w (.cells #[va,vb] 22) none
 have HC:=hid (concat_any va vb xs ys w.heap.size (0,0) _ (h1.grow g0) (h2.grow g0) hn (xN w _))
 have HG:=hid g0
 have hlen:(xs++ys).length≤1000000:=by simpa using hn
 obtain ⟨zs,hz⟩:∃ zs,xs++ys=zs:=⟨_,rfl⟩
 have HU:=hid (show unionL xs ys=Lib.compact (sortL zs) by rw [← hz]; rfl)
 rw [hz] at HC hlen
 obtain ⟨a1,c1,rfl,_⟩:=h1
 obtain ⟨a2,c2,rfl,_⟩:=h2
 obtain ⟨P,hP⟩:∃ P,IntsPost w (unionL xs ys)=P:=⟨_,rfl⟩
 rw [hP]
 have HP:=hid hP
 clear g0 hP hz
 go_enter Tryz.func84,Tryz.ntmps84
 go_wp2_with fail
 refine HC.out.mono ?_
 rintro e w1 ⟨v,rfl,own,g1⟩
 have HO:=hid own
 have H1:=hid (xT HG.out g1)
 have HS:=hid (sort_own v w1 _ _ zs own hlen)
 obtain ⟨av,cv,rfl⟩:=yos own
 clear own g1 HC HG
 go_wp2_with fail
 refine HS.out.mono ?_
 rintro e w2 ⟨rfl,own2,g2⟩
 have hge:=fun k hk=>(HO.out.lt k hk).1
 have H2:=hid (show w.grownBy w2 none from grow_row H1.out g2 (fun k hk=>by have:=hge k hk; simp at this; omega))
 have HK:=hid (compact_own _ w2 _ _ _ own2 hlen)
 have HL:=hid hge
 clear g2 own2 HS hge
 go_wp2_with fail
 refine HK.out.mono ?_
 rintro e w3 ⟨v3,rfl,h3,l3,g3⟩
 have H3:=hid (show w.grownBy w3 none from grow_row H2.out g3 (fun k hk=>by have:=HL.out k hk; simp at this; omega))
 have HI:=hid h3
 have HL3:=hid (l3.mono (show w.heap.size≤_ by simp))
 clear g3 h3 l3
 go_wp2_with fail
 rw [← HP.out,HU.out]
 exact ⟨_,rfl,HI.out,HL3.out,H3.out⟩
theorem search_any (xs:List Int) (x:Int) (v:Value) (w:World) (h:Ints w v xs) (hn:xs.length≤1000000) (hs:xs.Pairwise (· < ·)) :
 Calls Tryz.prog 85 #[v,.int .i64 x] w fun e w'=>∃ k:Int,e=.returned (.tuple #[.int .i64 k,.bool (xs.contains x)])∧w.grownBy w' none:=by
 obtain ⟨a,c,rfl,hc⟩:=h.elem
 by_cases h0:xs.length=0
 · have hx:xs=[]:=List.eq_nil_of_length_eq_zero h0
   subst hx
   refine (Tryz.slices_BinarySearch_int_empty a c x w).mono ?_
   rintro e w' ⟨rfl,rfl⟩
   exact ⟨0,rfl,grow_self _⟩
 · obtain ⟨g,o,rfl,_⟩:=hc 0 (by omega)
   refine (Tryz.slices_BinarySearch_int g o xs.length c xs x w (Nat.le_refl _) (by omega) (fun j hj=>?_) ?_).mono ?_
   · obtain ⟨g2,o2,e,h2⟩:=hc j hj
     simp only [Option.some.injEq,Addr.mk.injEq,and_true] at e
     obtain ⟨rfl,rfl⟩:=e
     exact h2
   · rw [List.take_length]; exact hs.imp (fun h=>by omega)
   · rintro e w' ⟨rfl,q,rfl⟩
     rw [List.take_length]
     exact ⟨_,rfl,⟨rfl,rfl,rfl,Nat.le_refl _,fun _ _ _=>rfl⟩⟩
def EndAt (N:Nat) (G:Nat→Prop) (b:Nat) (w:World) (v:Value) (wr:World):Prop:=∃ O:List Nat,Ints wr v (natI O)∧LowV b v∧w.grownBy wr none∧Ris N O∧∀ x,x∈O↔G x
def EndPost (N:Nat) (G:Nat→Prop) (b:Nat) (w:World) (e:Ending) (w':World):Prop:=∃ v,e=.returned v∧EndAt N G b w v w'
def chr (s:ByteArray) (j:Nat):UInt8:=s.data.toList.getD j 0
theorem chr_get (s:ByteArray) (j:Nat) (h:j<s.size):chr s j=s[j]:=ba_getD s j h
theorem EndAt.grow {N:Nat} {G:Nat→Prop} {b:Nat} {w:World} {v:Value} {wr wr':World} (h:EndAt N G b w v wr) (g:wr.grownBy wr' none):EndAt N G b w v wr':=by
 obtain ⟨O,h1,h0,h2,h3⟩:=h
 exact ⟨O,h1.grow g,h0,xT h2 g,h3⟩
theorem EndAt.iff {N:Nat} {G G':Nat→Prop} {b:Nat} {w:World} {v:Value} {wr:World} (h:EndAt N G b w v wr) (e:∀ x,G x↔G' x):EndAt N G' b w v wr:=by
 obtain ⟨O,h1,h0,h2,h3,h4⟩:=h
 exact ⟨O,h1,h0,h2,h3,fun x=>(h4 x).trans (e x)⟩
def ArgsEnd (s:ByteArray) (ps:List Pt):Prop:=∀ (j:Nat) (hj:j<ps.length) (F:List Nat) (v vf:Value) (b:Nat) (w:World),b≤w.heap.size→LowV b vf→Ris s.size F→PtAt w ps[j] v→Ints w vf (natI F)→Calls Tryz.prog 57 #[v,.string s,vf] w (EndPost s.size (Cut (chr s) s.size ps[j].Lg (·∈F)) b w)
theorem ends_byte (s:ByteArray) (hN:s.size≤100000) (l hi:Int) (ps:List Pt) (av:Option Addr) (cap:Nat) (F:List Nat) (vf:Value) (b:Nat) (w:World) (hb:b≤w.heap.size) (hF:Ris s.size F) (hf:Ints w vf (natI F)) :
 Calls Tryz.prog 57 #[.agg #[.int .i64 1,.int .i64 l,.int .i64 hi,.slice av ps.length cap],.string s,vf] w (EndPost s.size (Cut (chr s) s.size (Pt.mk 1 l hi ps).Lg (·∈F)) b w):=by
 have g0:=xG w (.cells #[.int .i64 1,.int .i64 l,.int .i64 hi,.slice av ps.length cap] 28) none
 have HG0:=hid g0
 have HX0:=hid (xN w (.cells #[.int .i64 1,.int .i64 l,.int .i64 hi,.slice av ps.length cap] 28))
 have HFI:=hid hf
 have hlenF:=hF.len
 have HRF:=hid hF
 obtain ⟨fa,fc,rfl,hfx⟩:=hf
 clear hfx
 rw [natI_len] at HFI ⊢
 obtain ⟨P,hP⟩:∃ P,EndPost s.size (Cut (chr s) s.size (Pt.mk 1 l hi ps).Lg (·∈F)) b w=P:=⟨_,rfl⟩
 rw [hP]
 have HP:=hid hP
 have HBB:=hid hb
 clear g0 hF hP hb
 go_enter Tryz.func57,Tryz.ntmps57
 go_wp2_with fail
 generalize w.alloc _=w0 at HG0 HX0 ⊢
 generalize w.heap.size=X at HX0 ⊢
 go_loopw [7,28] (fun v i wr=>∃ (j:Nat) (a:Option Addr) (n k:Nat),j≤F.length∧i=.int .i64 j∧v=.slice a n k∧Hid (StepRel w0 (.slice a n k) (byteStep (chr s) s.size l hi (F.take j)) wr)) (fun _ i _=>F.length-(intOf i).toNat)
 case atStart=>exact ⟨0,none,0,0,Nat.zero_le _,rfl,rfl,hid ⟨World.ownsRow_nil _ _ _ _,grow_self w0⟩⟩
 case round =>
  obtain ⟨j,a,n,k,hj,rfl,rfl,HR⟩:=hrel
  by_cases hlt:j<F.length
  · obtain ⟨ca',cc',e1,he⟩:=(HFI.out.grow (xT HG0.out HR.out.2)).elem
    obtain ⟨g1,o1,e2,hce⟩:=he j (by rw [natI_len]; exact hlt)
    simp only [Value.slice.injEq] at e1
    obtain ⟨rfl,e3,e4⟩:=e1
    clear e3 e4
    subst e2
    have hgd:(natI F).getD j 0=((F[j]:Nat):Int):=by simp [natI,List.getD,hlt]
    rw [hgd] at hce
    have HT:=hid (show byteStep (chr s) s.size l hi (F.take (j+1))=_ by rw [List.take_succ_eq_append_getElem hlt,byteStep_snoc])
    have hlen:=byteStep_len (chr s) s.size l hi (F.take j)
    have hlen2:(F.take j).length≤F.length:=List.length_take_le' _ _
    clear he hgd
    generalize F[j]=i at *
    generalize hQ:byteStep (chr s) s.size l hi (F.take j)=Q at *
    have HQQ:=hid hQ
    clear hQ
    have hB:=grow_new HR.out.2 HX0.out
    have x1:=xC hB 1
    have x2:=xC hB 2
    simp only [xGe,xGz,xGs] at x1 x2
    clear hB
    have hsz0:=HR.out.2.size
    by_cases hi0:i<s.size
    · have hib:decide ((i:Int)<s.size)=true:=decide_eq_true (by omega)
      have HCH:=hid (chr_get s i hi0)
      have b1:(0:Int)≤(i:Int):=by omega
      have b2:(i:Int)<(s.size:Int):=by omega
      obtain ⟨bb,hb⟩:∃ b:Bool,inB (s[i].toNat:Int) l hi=b:=⟨_,rfl⟩
      have HQ:Hid (∀ w,Calls Tryz.prog 62 #[.int .i64 (wrap64 (s[i].toNat:Int)),.int .i64 l,.int .i64 hi] w fun e w'=>e=.returned (.bool (inB (s[i].toNat:Int) l hi))∧w'=w):=hid (by
       rw [show wrap64 (s[i].toNat:Int)=(s[i].toNat:Int) from (by have:=s[i].toNat_lt; unfold wrap64; omega)]
       exact in_q (s[i].toNat:Int) l hi)
      rw [hb] at HQ
      have HT1:=hid (show byteStep (chr s) s.size l hi (F.take (j+1))=Q++if bb=true then [i+1] else [] by
       rw [HT.out,HCH.out,← hb]
       congr 1
       simp [hi0,inB])
      clear hb HT HCH
      have HLL:=hid (And.intro hlen hlen2)
      have HSZ0:=hid hsz0
      clear hlen hlen2 hsz0
      go_wp2_with fail
      go_quiet ((go_at_call 62; exact Calls.quiet_of_same (HQ.out _)))
      have HR2:=hid (show StepRel w0 (.slice a n k) Q (wr.drewN nq) from ⟨own_keep HR.out.1 (grow_drewN (grow_self wr) nq),grow_drewN HR.out.2 nq⟩)
      have hsz:w0.heap.size≤(wr.drewN nq).heap.size:=HR2.out.2.size
      obtain ⟨wq,hwq⟩:∃ wq,wr.drewN nq=wq:=⟨_,rfl⟩
      rw [hwq] at HR2 hsz ⊢
      clear hwq x1 x2 hce
      obtain ⟨hlen,hlen2⟩:=HLL.out
      have hn':=step_len HR2.out
      rcases bb with _ | _
      · have HT2:=hid (show byteStep (chr s) s.size l hi (F.take (j+1))=Q by rw [HT1.out]; simp)
        go_wp2_with fail
        go_roundw
        case rel=>exact ⟨j+1,a,n,k,by omega,by go_num,rfl,hid (by rw [HT2.out]; exact HR2.out)⟩
        case measure=>simp [intOf]; omega
      · have HT2:=hid (show byteStep (chr s) s.size l hi (F.take (j+1))=Q++[i+1] by rw [HT1.out]; simp)
        subst hn'
        have HO:=hid (show (wq.alloc (.cells #[.int .i64 ((i:Int)+1)] 3)).ownsRow w0.heap.size 3 1 (.slice a Q.length k) Q.length (intC (natI Q)) from own_keep HR2.out.1 (xG _ _ _))
        have HG:=hid (yga HR2.out.2 (.cells #[.int .i64 ((i:Int)+1)] 3))
        have HN:=hid (show Q.length+[((i:Int)+1)].length≤1000000 by simp; omega)
        go_wp2_with (at_builtin; refine wpList_append_ints rfl _ _ rfl (.slice a Q.length k) rfl rfl HO.out (Ints.one _ _) HN.out HG.out.size ?_; intro v2 w2 own2 g2; obtain ⟨a2,c2,rfl⟩:=yos own2)
        have HR3:=hid (show StepRel w0 (.slice a2 (Q.length+1) c2) (Q++[i+1]) w2 from ⟨by simpa [natI] using own2,grow_row HG.out g2 (fun k hk=>(HO.out.lt k hk).1)⟩)
        clear own2 g2
        go_wp2_with fail
        go_roundw
        case rel=>exact ⟨j+1,_,_,_,by omega,by go_num,rfl,hid (by rw [HT2.out]; exact HR3.out)⟩
        case measure=>simp [intOf]; omega
    · have hib:decide ((i:Int)<s.size)=false:=decide_eq_false (by omega)
      have HT2:=hid (show byteStep (chr s) s.size l hi (F.take (j+1))=Q by rw [HT.out]; simp [hi0])
      clear HT
      go_wp2_with fail
      go_quiet (fail)
      have HR2:=hid (show StepRel w0 (.slice a n k) Q (wr.drewN nq) from ⟨own_keep HR.out.1 (grow_drewN (grow_self wr) nq),grow_drewN HR.out.2 nq⟩)
      go_wp2_with fail
      go_roundw
      case rel=>exact ⟨j+1,a,n,k,by omega,by go_num,rfl,hid (by rw [HT2.out]; exact HR2.out)⟩
      case measure=>simp [intOf]; omega
  · have HE:=hid (show F.take j=F by rw [List.take_of_length_le (by omega)])
    go_wp2_with fail
    rw [← HP.out]
    first | refine ⟨_,rfl,byteStep (chr s) s.size l hi F,?_,(lowV_own HR.out.1).mono (Nat.le_trans HBB.out HG0.out.size),?_,?_,?_⟩ | (go_ret; refine ⟨_,rfl,byteStep (chr s) s.size l hi F,?_,(lowV_own HR.out.1).mono (Nat.le_trans HBB.out HG0.out.size),?_,?_,?_⟩)
    · have:=Ints.of_own HR.out.1; rwa [HE.out] at this
    · exact xT HG0.out HR.out.2
    · exact byteStep_ris _ _ _ HRF.out
    · exact fun x=>byteStep_mem _ _ _ _ _ _ _
theorem ends_then (s:ByteArray) (_:s.size≤100000) (l hi:Int) (ps:List Pt) (hlen:ps.length≤1000000) (HIH:Hid (ArgsEnd s ps)) (av:Option Addr) (cap:Nat) (F:List Nat) (vf:Value) (b0:Nat) (w:World) (hb0:b0≤w.heap.size) (hlow:LowV b0 vf) (hF:Ris s.size F) (hf:Ints w vf (natI F))
 (HA:Hid (ps=[]∨∃ b off,av=some ⟨b,off,none⟩∧PtsAt w ps b off)) :
 Calls Tryz.prog 57 #[.agg #[.int .i64 2,.int .i64 l,.int .i64 hi,.slice av ps.length cap],.string s,vf] w (EndPost s.size (Cut (chr s) s.size (Pt.mk 2 l hi ps).Lg (·∈F)) b0 w):=by
 have g0:=xG w (.cells #[.int .i64 2,.int .i64 l,.int .i64 hi,.slice av ps.length cap] 28) none
 have HG0:=hid g0
 have HFI:=hid hf
 have HRF:=hid hF
 obtain ⟨fa,fc,rfl,hfx⟩:=hf
 rw [natI_len] at HFI hlow ⊢
 have HL:=hid (fun e=>show Cut (chr s) s.size (Pt.mk 2 l hi ps).Lg (·∈F) e↔Cut (chr s) s.size (LgT ps) (·∈F) e from Cut.lang (fun x=>by simp [Pt.Lg]) e)
 obtain ⟨P,hP⟩:∃ P,EndPost s.size (Cut (chr s) s.size (Pt.mk 2 l hi ps).Lg (·∈F)) b0 w=P:=⟨_,rfl⟩
 rw [hP]
 have HP:=hid hP
 have HLOW:=hid hlow
 have HBB:=hid hb0
 clear hP hfx hF hlow hb0
 go_enter Tryz.func57,Tryz.ntmps57
 go_wp2_with fail
 go_loopw [2,59] (fun f i wr=>∃ (j:Nat) (f0:Value),j≤ps.length∧i=.int .i64 j∧f0=f∧Hid (EndAt s.size (Cut (chr s) s.size (LgT (ps.take j)) (·∈F)) b0 w f0 wr)) (fun _ i _=>ps.length-(intOf i).toNat)
 case atStart=>exact ⟨0,_,Nat.zero_le _,rfl,rfl,hid ⟨F,HFI.out.grow HG0.out,HLOW.out,HG0.out,HRF.out,fun x=>by rw [List.take_zero,cut_nil]; exact ⟨fun h=>⟨h,HRF.out.2 x h⟩,fun h=>h.1⟩⟩⟩
 case round =>
  obtain ⟨j,f,hj,rfl,rfl,HR⟩:=hrel
  by_cases hlt:j<ps.length
  · obtain ⟨O,i1,lO,gR,rO,mO⟩:=HR.out
    obtain ⟨b,off,xo,xl,xh,xa,xn,xc,rfl,h0,h1,h2,h3,hq⟩:=PtAt.elem HA.out j hlt
    replace h0:=ycg h0 gR
    replace h1:=ycg h1 gR
    replace h2:=ycg h2 gR
    replace h3:=ycg h3 gR
    have HT:=hid (cut_take (chr s) s.size ps j hlt (·∈F))
    have HG1:=hid (yga gR (.cells #[.int .i64 xo,.int .i64 xl,.int .i64 xh,.slice xa xn xc] 28))
    have HC:=hid (HIH.out j hlt O _ f b0 _ (Nat.le_trans HBB.out HG1.out.size) lO rO (PtAt.grow HG1.out _ _ hq) (i1.grow (xG wr _ none)))
    have HM:=hid mO
    clear hq i1 lO gR rO mO HR
    go_wp2_with fail
    refine HC.out.mono ?_
    rintro e w1 ⟨f1,rfl,O1,i1,l1,g1,r1,m1⟩
    have HE:=hid (show EndAt s.size (Cut (chr s) s.size (LgT (ps.take (j+1))) (·∈F)) b0 w f1 w1 from ⟨O1,i1,l1,xT HG1.out g1,r1,fun x=>by rw [m1,HT.out]; exact Cut.congr HM.out x⟩)
    clear i1 l1 g1 r1 m1 HC HT HM HG1
    go_wp2_with fail
    go_roundw
    case rel=>exact ⟨j+1,_,by omega,by go_num,rfl,HE⟩
    case measure=>simp [intOf]; omega
  · have HE:=hid (show ps.take j=ps by rw [List.take_of_length_le (by omega)])
    go_wp2_with fail
    rw [← HP.out]
    have hfin:EndAt s.size (Cut (chr s) s.size (Pt.mk 2 l hi ps).Lg (·∈F)) b0 w f wr:=HR.out.iff (fun x=>by rw [HE.out,HL.out])
    first | exact ⟨_,rfl,hfin⟩ | (go_ret; exact ⟨_,rfl,hfin⟩)
theorem ends_or (s:ByteArray) (hN:s.size≤100000) (l hi:Int) (ps:List Pt) (hlen:ps.length≤1000000) (HIH:Hid (ArgsEnd s ps)) (av:Option Addr) (cap:Nat) (F:List Nat) (vf:Value) (b0:Nat) (w:World) (hb0:b0≤w.heap.size) (hlow:LowV b0 vf) (hF:Ris s.size F) (hf:Ints w vf (natI F))
 (HA:Hid (ps=[]∨∃ b off,av=some ⟨b,off,none⟩∧PtsAt w ps b off)) :
 Calls Tryz.prog 57 #[.agg #[.int .i64 3,.int .i64 l,.int .i64 hi,.slice av ps.length cap],.string s,vf] w (EndPost s.size (Cut (chr s) s.size (Pt.mk 3 l hi ps).Lg (·∈F)) b0 w):=by
 have g0:=xG w (.cells #[.int .i64 3,.int .i64 l,.int .i64 hi,.slice av ps.length cap] 28) none
 have HG0:=hid g0
 have HFI:=hid hf
 have HRF:=hid hF
 obtain ⟨fa,fc,rfl,hfx⟩:=hf
 rw [natI_len] at HFI hlow ⊢
 have HL:=hid (fun e=>show Cut (chr s) s.size (Pt.mk 3 l hi ps).Lg (·∈F) e↔Cut (chr s) s.size (LgO ps) (·∈F) e from Cut.lang (fun x=>by simp [Pt.Lg]) e)
 obtain ⟨P,hP⟩:∃ P,EndPost s.size (Cut (chr s) s.size (Pt.mk 3 l hi ps).Lg (·∈F)) b0 w=P:=⟨_,rfl⟩
 rw [hP]
 have HP:=hid hP
 have HLOW:=hid hlow
 have HBB:=hid hb0
 clear hP hfx hF hlow hb0
 go_enter Tryz.func57,Tryz.ntmps57
 go_wp2_with fail
 go_loopw [12,74] (fun f i wr=>∃ (j:Nat) (f0:Value),j≤ps.length∧i=.int .i64 j∧f0=f∧Hid (EndAt s.size (Cut (chr s) s.size (LgO (ps.take j)) (·∈F)) b0 w f0 wr)) (fun _ i _=>ps.length-(intOf i).toNat)
 case atStart=>exact ⟨0,_,Nat.zero_le _,rfl,rfl,hid ⟨[],Ints.nil _ _ _,lowV_nil _ _ _,HG0.out,⟨List.Pairwise.nil,fun x hx=>by cases hx⟩,fun x=>by rw [List.take_zero]; exact ⟨fun h=>(by cases h),fun h=>absurd h (cut_noO _ _ _ _)⟩⟩⟩
 case round =>
  obtain ⟨j,f,hj,rfl,rfl,HR⟩:=hrel
  by_cases hlt:j<ps.length
  · obtain ⟨O,i1,lO,gR,rO,mO⟩:=HR.out
    obtain ⟨b,off,xo,xl,xh,xa,xn,xc,rfl,h0,h1,h2,h3,hq⟩:=PtAt.elem HA.out j hlt
    replace h0:=ycg h0 gR
    replace h1:=ycg h1 gR
    replace h2:=ycg h2 gR
    replace h3:=ycg h3 gR
    have HT:=hid (cut_takeO (chr s) s.size ps j hlt (·∈F))
    have HG1:=hid (yga gR (.cells #[.int .i64 xo,.int .i64 xl,.int .i64 xh,.slice xa xn xc] 28))
    have HC:=hid (HIH.out j hlt F _ (.slice fa F.length fc) b0 _ (Nat.le_trans HBB.out HG1.out.size) HLOW.out HRF.out (PtAt.grow HG1.out _ _ hq) (HFI.out.grow HG1.out))
    have HI1:=hid (i1.grow (xG wr (.cells #[.int .i64 xo,.int .i64 xl,.int .i64 xh,.slice xa xn xc] 28) none))
    have HM:=hid mO
    have HRO:=hid rO
    clear hq i1 lO gR rO mO HR
    go_wp2_with fail
    refine HC.out.mono ?_
    rintro e w1 ⟨f1,rfl,O1,i1,l1,g1,r1,m1⟩
    have hl1:=HRO.out.len
    have hl2:=r1.len
    have HU:=hid (union_any (natI O) (natI O1) f f1 w1 (HI1.out.grow g1) i1 (by rw [natI_len,natI_len]; omega))
    have HG2:=hid (xT HG1.out g1)
    have HR1:=hid r1
    have HM1:=hid m1
    clear i1 l1 g1 r1 m1 hl1 hl2
    go_wp2_with fail
    refine HU.out.mono ?_
    rintro e w2 ⟨f2,rfl,i2,l2,g2⟩
    rw [← unionN_nat] at i2
    have HE:=hid (show EndAt s.size (Cut (chr s) s.size (LgO (ps.take (j+1))) (·∈F)) b0 w f2 w2 from ⟨unionN O O1,i2,l2.mono (Nat.le_trans HBB.out HG2.out.size),xT HG2.out g2,unionN_ris HRO.out HR1.out,fun x=>by rw [mem_unionN,HT.out,HM.out,HM1.out]⟩)
    clear i2 l2 g2 HC HT HM HG1 HU HM1
    go_wp2_with fail
    go_roundw
    case rel=>exact ⟨j+1,_,by omega,by go_num,rfl,HE⟩
    case measure=>simp [intOf]; omega
  · have HE:=hid (show ps.take j=ps by rw [List.take_of_length_le (by omega)])
    go_wp2_with fail
    rw [← HP.out]
    have hfin:EndAt s.size (Cut (chr s) s.size (Pt.mk 3 l hi ps).Lg (·∈F)) b0 w f wr:=HR.out.iff (fun x=>by rw [HE.out,HL.out])
    first | exact ⟨_,rfl,hfin⟩ | (go_ret; exact ⟨_,rfl,hfin⟩)
def lenSl:Value→Nat
 | .slice _ n _=>n
 | _=>0
structure Star (s:ByteArray) (L:List UInt8→Prop) (F:List Nat) (b:Nat) (w:World) (vo vm:Value) (out more:List Nat) (wr:World):Prop where
 io:Ints wr vo (natI out)
 im:Ints wr vm (natI more)
 lo:LowV b vo
 lm:LowV b vm
 gr:w.grownBy wr none
 ro:Ris s.size out
 rm:Ris s.size more
 sub:∀ x∈more,x∈out
 beg:∀ x∈F,x∈out
 ok:∀ x∈out,Cut (chr s) s.size (Many L) (·∈F) x
 cl:∀ x,Cut (chr s) s.size L (fun y=>y∈out∧y ∉ more) x→x∈out
theorem Star.fin {s:ByteArray} {L:List UInt8→Prop} {F:List Nat} {b:Nat} {w:World} {vo vm:Value} {out:List Nat} {wr:World} (h:Star s L F b w vo vm out [] wr):EndAt s.size (Cut (chr s) s.size (Many L) (·∈F)) b w vo wr :=
 ⟨out,h.io,h.lo,h.gr,h.ro,fun x=>⟨h.ok x,fun ⟨f,h1,h2,h3,h4⟩=>cut_many (chr s) s.size L (·∈F) (·∈out) h.beg (fun y hy=>h.cl y (hy.imp fun _ a=>⟨⟨a.1,by simp⟩,a.2⟩)) _ f x (Nat.le_refl _) (h.beg f h1) h2 h3 h4⟩⟩
theorem Star.next {s:ByteArray} {L:List UInt8→Prop} {F:List Nat} {b:Nat} {w:World} {vo vm vo2 vm2:Value} {out more M:List Nat} {wr w2:World} (h:Star s L F b w vo vm out more wr) (hM:∀ x,x∈M↔Cut (chr s) s.size L (·∈more) x) (rM:Ris s.size M)
 (i1:Ints w2 vo2 (natI (unionN out (freshN out M)))) (i2:Ints w2 vm2 (natI (freshN out M))) (lo:LowV b vo2) (lm:LowV b vm2) (g:w.grownBy w2 none):Star s L F b w vo2 vm2 (unionN out (freshN out M)) (freshN out M) w2:=by
 refine ⟨i1,i2,lo,lm,g,unionN_ris h.ro (freshN_ris out rM),freshN_ris out rM,fun x hx=>(mem_unionN _ _ _).2 (.inr hx),fun x hx=>(mem_unionN _ _ _).2 (.inl (h.beg x hx)),fun x hx=>?_,fun x hx=>?_⟩
 · rcases (mem_unionN _ _ _).1 hx with h1 | h1
   · exact h.ok x h1
   · obtain ⟨f,h2,h3,h4,h5⟩:=(hM x).1 ((freshN_mem _ _ _).1 h1).1
     exact many_one _ _ _ _ f x (h.ok f (h.sub f h2)) h3 h4 h5
 · obtain ⟨f,⟨h1,h2⟩,h3,h4,h5⟩:=hx
   have hf:f∈out:=by
    rcases (mem_unionN _ _ _).1 h1 with h6 | h6
    · exact h6
    · exact absurd h6 h2
   by_cases hx2:x∈out
   · exact (mem_unionN _ _ _).2 (.inl hx2)
   · by_cases hm:f∈more
     · exact (mem_unionN _ _ _).2 (.inr ((freshN_mem _ _ _).2 ⟨(hM x).2 ⟨f,hm,h3,h4,h5⟩,hx2⟩))
     · exact absurd (h.cl x ⟨f,⟨hf,hm⟩,h3,h4,h5⟩) hx2
theorem union_more {N:Nat} {out M:List Nat} (h:Ris N out) (hM:Ris N M):out.length≤(unionN out (freshN out M)).length∧(freshN out M≠[]→out.length<(unionN out (freshN out M)).length):=by
 have hr:=unionN_ris h (freshN_ris out hM)
 refine ⟨nodup_le _ _ (h.1.imp (fun h=>by omega)) (fun x hx=>(mem_unionN _ _ _).2 (.inl hx)),fun hne=>?_⟩
 obtain ⟨x,hx⟩:=List.exists_mem_of_ne_nil _ hne
 exact ris_longer _ _ h.1 hr.1 (fun y hy=>(mem_unionN _ _ _).2 (.inl hy)) ⟨x,(mem_unionN _ _ _).2 (.inr hx),((freshN_mem _ _ _).1 hx).2⟩
theorem contains_nat (out:List Nat) (i:Nat):(natI out).contains (i:Int)=decide (i∈out):=by
 rw [Bool.eq_iff_iff,List.contains_iff_mem,decide_eq_true_eq,mem_natI]
 exact ⟨fun ⟨k,h,e⟩=>(show k=i by omega) ▸ h,fun h=>⟨i,h,rfl⟩⟩
theorem ends_star (s:ByteArray) (hN:s.size≤100000) (l hi:Int) (ps:List Pt) (hlen:ps.length=1) (HIH:Hid (ArgsEnd s ps)) (av:Option Addr) (cap:Nat) (F:List Nat) (vf:Value) (b0:Nat) (w:World) (hb0:b0≤w.heap.size) (hlow:LowV b0 vf) (hF:Ris s.size F) (hf:Ints w vf (natI F))
 (HA:Hid (ps=[]∨∃ b off,av=some ⟨b,off,none⟩∧PtsAt w ps b off)) :
 Calls Tryz.prog 57 #[.agg #[.int .i64 4,.int .i64 l,.int .i64 hi,.slice av ps.length cap],.string s,vf] w (EndPost s.size (Cut (chr s) s.size (Pt.mk 4 l hi ps).Lg (·∈F)) b0 w):=by
 have g0:=xG w (.cells #[.int .i64 4,.int .i64 l,.int .i64 hi,.slice av ps.length cap] 28) none
 have HX0:=hid (xN w (.cells #[.int .i64 4,.int .i64 l,.int .i64 hi,.slice av ps.length cap] 28))
 have h0lt:0<ps.length:=by omega
 have HL:=hid (fun e=>show Cut (chr s) s.size (Pt.mk 4 l hi ps).Lg (·∈F) e↔Cut (chr s) s.size (Many (ps[0]).Lg) (·∈F) e from Cut.lang (fun x=>by
  match ps,hlen with
  | [a],_ =>
   have:LgO [a]=a.Lg:=by funext u; simp [LgO]
   simp [Pt.Lg,this]) e)
 have HS0:Hid (Star s (ps[0]).Lg F b0 w vf vf F F (w.alloc (.cells #[.int .i64 4,.int .i64 l,.int .i64 hi,.slice av ps.length cap] 28))):=hid ⟨hf.grow g0,hf.grow g0,hlow,hlow,g0,hF,hF,fun _ h=>h,fun _ h=>h,fun x hx=>many_self _ _ _ _ x hx (hF.2 x hx),fun x hx=>by obtain ⟨f,⟨h1,h2⟩,_⟩:=hx; exact absurd h1 h2⟩
 obtain ⟨b,off,xo,xl,xh,xa,xn,xc,rfl,c0,c1,c2,c3,hq⟩:=PtAt.elem HA.out 0 h0lt
 simp only [Nat.zero_mul,Nat.add_zero] at c0 c1 c2 c3
 have HQ:=hid hq
 have HC0:=hid (And.intro (And.intro c0 c1) (And.intro c2 c3))
 have HCA:Hid (∀ (F:List Nat) (vf:Value) (W:World),w.grownBy W none→LowV b0 vf→Ris s.size F→Ints W vf (natI F)→Calls Tryz.prog 57 #[.agg #[.int .i64 xo,.int .i64 xl,.int .i64 xh,.slice xa xn xc],.string s,vf] W (EndPost s.size (Cut (chr s) s.size ps[0].Lg (·∈F)) b0 W)) :=
  hid (fun F vf W g hlo hF hf=>HIH.out 0 h0lt F _ vf b0 W (Nat.le_trans hb0 g.size) hlo hF (PtAt.grow g _ _ HQ.out) hf)
 have hl1:(0:Int)<ps.length:=by omega
 obtain ⟨L,hL⟩:∃ L,(ps[0]).Lg=L:=⟨_,rfl⟩
 rw [hL] at HL HS0 HCA
 obtain ⟨fa,fc,rfl,hfx⟩:=hf
 rw [natI_len] at HS0 ⊢
 obtain ⟨n1,hn1⟩:∃ n,ps.length=n:=⟨_,rfl⟩
 rw [hn1] at HX0 HS0 hl1 ⊢
 obtain ⟨P,hP⟩:∃ P,EndPost s.size (Cut (chr s) s.size (Pt.mk 4 l hi ps).Lg (·∈F)) b0 w=P:=⟨_,rfl⟩
 rw [hP]
 have HP:=hid hP
 have HBB:=hid hb0
 clear hb0 hlow
 clear hP hfx hF hL hn1 hq c0 c1 c2 c3 hlen h0lt g0 HIH HA HQ
 go_enter Tryz.func57,Tryz.ntmps57
 go_wp2_with fail
 generalize w.alloc _=w0 at HS0 HX0 ⊢
 generalize w.heap.size=X at HX0 ⊢
 have HG0:=hid HS0.out.gr
 go_loopw [15,16] (fun vo vm wr=>∃ (a1 a2:Option Addr) (out more:List Nat) (k1 k2:Nat),vo=.slice a1 out.length k1∧vm=.slice a2 more.length k2∧Hid (Star s L F b0 w (.slice a1 out.length k1) (.slice a2 more.length k2) out more wr)∧Hid (w0.grownBy wr none)) (fun vo vm _=>2*(s.size+2-lenSl vo)+min (lenSl vm) 1)
 case atStart=>exact ⟨_,_,F,F,_,_,rfl,rfl,HS0,hid (grow_self w0)⟩
 case round =>
  obtain ⟨a1,a2,out,more,k1,k2,rfl,rfl,HS,HG⟩:=hrel
  by_cases hm:more=[]
  · subst hm
    have h0:decide ((0:Int)<(([]:List Nat).length:Nat))=false:=rfl
    go_wp2_with fail
    rw [← HP.out]
    have hfin:EndAt s.size (Cut (chr s) s.size (Pt.mk 4 l hi ps).Lg (·∈F)) b0 w (.slice a1 out.length k1) wr:=HS.out.fin.iff (fun x=>(HL.out x).symm)
    first | exact ⟨_,rfl,hfin⟩ | (go_ret; exact ⟨_,rfl,hfin⟩)
  · have hpos:0<more.length:=List.length_pos_iff.2 hm
    have hposi:(0:Int)<(more.length:Int):=by omega
    have hB:=grow_new HG.out HX0.out
    have x3:=xC hB 3
    simp only [xGe,xGz,xGs] at x3
    obtain ⟨⟨c0,c1⟩,c2,c3⟩:=HC0.out
    replace c0:=ycg c0 HS.out.gr
    replace c1:=ycg c1 HS.out.gr
    replace c2:=ycg c2 HS.out.gr
    replace c3:=ycg c3 HS.out.gr
    have HC:=hid (HCA.out more (.slice a2 more.length k2) wr HS.out.gr HS.out.lm HS.out.rm HS.out.im)
    have HHM:=hid hm
    clear hm hB
    go_wp2_with fail
    refine HC.out.mono ?_
    rintro e w1 ⟨f1,rfl,M,i1,lM,g1,rM,mM⟩
    have HI1:=hid i1
    have HG1:=hid (xT HS.out.gr g1)
    have HG01:=hid (xT HG.out g1)
    have HO1:=hid (HS.out.io.grow g1)
    have HRM:=hid rM
    have HMM:=hid mM
    have hMl:=rM.len
    have hol:=HS.out.ro.len
    obtain ⟨fa1,fc1,rfl,hfe1⟩:=i1
    rw [natI_len] at HI1 ⊢
    clear hfe1 lM g1 rM mM x3 c0 c1 c2 c3 HC
    go_wp2_with fail
    go_loopw [16,100] (fun v i wx=>∃ (j:Nat) (a:Option Addr) (n k:Nat),j≤M.length∧i=.int .i64 j∧v=.slice a n k∧Hid (StepRel w1 (.slice a n k) (freshN out (M.take j)) wx)) (fun _ i _=>M.length-(intOf i).toNat)
    case atStart=>exact ⟨0,none,0,0,Nat.zero_le _,rfl,rfl,hid ⟨World.ownsRow_nil _ _ _ _,grow_self w1⟩⟩
    case round =>
     obtain ⟨j,a,n,k,hj,rfl,rfl,HR⟩:=hrel
     by_cases hlt:j<M.length
     · obtain ⟨ca',cc',e1,he⟩:=(HI1.out.grow HR.out.2).elem
       obtain ⟨g1,o1,e2,hce⟩:=he j (by rw [natI_len]; exact hlt)
       simp only [Value.slice.injEq] at e1
       obtain ⟨rfl,e3,e4⟩:=e1
       clear e3 e4
       subst e2
       have hgd:(natI M).getD j 0=((M[j]:Nat):Int):=by simp [natI,List.getD,hlt]
       rw [hgd] at hce
       have HT:=hid (show freshN out (M.take (j+1))=_ by rw [List.take_succ_eq_append_getElem hlt,freshN_snoc])
       have hfl:=freshN_len out (M.take j)
       have hlen2:(M.take j).length≤M.length:=List.length_take_le' _ _
       clear he hgd
       generalize M[j]=i at *
       generalize hQ:freshN out (M.take j)=Q at *
       have HQQ:=hid hQ
       clear hQ
       have hql:Q.length≤100001:=by omega
       have HSE:=hid (search_any (natI out) (i:Int) (.slice a1 out.length k1) wr (HO1.out.grow HR.out.2) (by rw [natI_len]; omega) (by unfold natI; rw [List.pairwise_map]; exact HS.out.ro.1.imp (fun h=>by omega)))
       rw [contains_nat] at HSE
       have HLL:=hid (And.intro hfl hlen2)
       clear hfl hlen2
       obtain ⟨b,hb⟩:∃ b:Bool,decide (i∈out)=b:=⟨_,rfl⟩
       rw [hb] at HSE
       have HT1:=hid (show freshN out (M.take (j+1))=Q++if b=true then [] else [i] by rw [HT.out,← hb]; simp)
       clear hb HT
       go_wp2_with fail
       refine HSE.out.mono ?_
       rintro e w2 ⟨kk,rfl,g2⟩
       have HR2:=hid (show StepRel w1 (.slice a n k) Q w2 from ⟨own_keep HR.out.1 g2,xT HR.out.2 g2⟩)
       have hn':=step_len HR2.out
       clear g2 HSE hce
       rcases b with _ | _
       · have HT2:=hid (show freshN out (M.take (j+1))=Q++[i] by rw [HT1.out]; simp)
         subst hn'
         have HO:=hid (show (w2.alloc (.cells #[.int .i64 (i:Int)] 3)).ownsRow w1.heap.size 3 1 (.slice a Q.length k) Q.length (intC (natI Q)) from own_keep HR2.out.1 (xG _ _ _))
         have HGG:=hid (yga HR2.out.2 (.cells #[.int .i64 (i:Int)] 3))
         have HNN:=hid (show Q.length+[(i:Int)].length≤1000000 by simp; omega)
         go_wp2_with (at_builtin; refine wpList_append_ints rfl _ _ rfl (.slice a Q.length k) rfl rfl HO.out (Ints.one _ _) HNN.out HGG.out.size ?_; intro v2 w3 own2 g2; obtain ⟨a3,c3,rfl⟩:=yos own2)
         have HR3:=hid (show StepRel w1 (.slice a3 (Q.length+1) c3) (Q++[i]) w3 from ⟨by simpa [natI] using own2,grow_row HGG.out g2 (fun k hk=>(HO.out.lt k hk).1)⟩)
         clear own2 g2
         go_wp2_with fail
         go_roundw
         case rel=>exact ⟨j+1,_,_,_,by omega,by go_num,rfl,hid (by rw [HT2.out]; exact HR3.out)⟩
         case measure=>simp [intOf]; omega
       · have HT2:=hid (show freshN out (M.take (j+1))=Q by rw [HT1.out]; simp)
         subst hn'
         go_wp2_with fail
         go_roundw
         case rel=>exact ⟨j+1,a,_,k,by omega,by go_num,rfl,hid (by rw [HT2.out]; exact HR2.out)⟩
         case measure=>simp [intOf]; omega
     · have HE:=hid (show M.take j=M by rw [List.take_of_length_le (by omega)])
       have hR:=HR.out
       rw [HE.out] at hR
       have hn':=step_len hR
       subst hn'
       have HR3:=hid hR
       have hfl:=freshN_len out M
       have HU:=hid (union_any (natI out) (natI (freshN out M)) (.slice a1 out.length k1) (.slice a (freshN out M).length k) wr (HO1.out.grow hR.2) (Ints.of_own hR.1) (by rw [natI_len,natI_len]; omega))
       have HUM:=hid (union_more HS.out.ro HRM.out)
       have hul:=(unionN_ris HS.out.ro (freshN_ris out HRM.out)).len
       clear hR HR hfl
       go_wp2_with fail
       refine HU.out.mono ?_
       rintro e w4 ⟨v4,rfl,i4,l4,g4⟩
       rw [← unionN_nat] at i4
       have HS4:=hid (HS.out.next (vo2:=v4) (vm2:=.slice a (freshN out M).length k) (w2:=w4) HMM.out HRM.out i4 ((Ints.of_own HR3.out.1).grow g4) (l4.mono (Nat.le_trans HBB.out (xT HG1.out HR3.out.2).size)) ((lowV_own HR3.out.1).mono (Nat.le_trans HBB.out HG1.out.size)) (xT (xT HG1.out HR3.out.2) g4))
       have HG4:=hid (xT (xT HG01.out HR3.out.2) g4)
       obtain ⟨a5,c5,rfl,hx5⟩:=i4
       rw [natI_len] at HS4 ⊢
       clear hx5 l4 g4 HU
       go_wp2_with fail
       go_roundw
       case rel=>exact ⟨a5,a,unionN out (freshN out M),freshN out M,c5,k,rfl,rfl,HS4,HG4⟩
       case measure =>
        have h1:=HUM.out.1
        have h2:=HUM.out.2
        simp only [lenSl]
        by_cases hf0:freshN out M=[]
        · rw [hf0] at h1 hul ⊢
          simp only [List.length_nil]
          omega
        · have h3:=h2 hf0
          omega
theorem ends_any (s:ByteArray) (hN:s.size≤100000) (p:Pt):Right p→p.size≤1000000→∀ (F:List Nat) (v vf:Value) (b:Nat) (w:World),b≤w.heap.size→LowV b vf→Ris s.size F→PtAt w p v→Ints w vf (natI F)→Calls Tryz.prog 57 #[v,.string s,vf] w (EndPost s.size (Cut (chr s) s.size p.Lg (·∈F)) b w):=by
 induction p using Pt.ind with
 | h o l hi ps ih =>
  intro hR hs F v vf b w hb hlow hF hp hf
  obtain ⟨av,cap,rfl,hps⟩:=hp
  have hlen:=len_sizes ps
  simp only [Pt.size] at hs
  have hRa:∀ q∈ps,Right q:=by cases hR with | mk _ _ _ _ _ _ _ h=>exact h
  have hway:(o=1∧ps.length=0)∨o=2∨o=3∨(o=4∧ps.length=1):=by
   cases hR with
   | mk _ _ _ _ h1 h2 _ _=>have:=form_pass o l hi ps.length h1 h2; omega
  have IH:ArgsEnd s ps:=fun j hj F v vf b w hb hlow hF hp hf=>ih ps[j] (List.getElem_mem hj) (hRa _ (List.getElem_mem hj)) (by have:=size_le_sizes ps ps[j] (List.getElem_mem hj); omega) F v vf b w hb hlow hF hp hf
  rcases hway with ⟨rfl,h0⟩ | rfl | rfl | ⟨rfl,h1⟩
  · exact ends_byte s hN l hi ps av cap F vf b w hb hF hf
  · exact ends_then s hN l hi ps (by omega) (hid IH) av cap F vf b w hb hlow hF hf (hid hps)
  · exact ends_or s hN l hi ps (by omega) (hid IH) av cap F vf b w hb hlow hF hf (hid hps)
  · exact ends_star s hN l hi ps h1 (hid IH) av cap F vf b w hb hlow hF hf (hid hps)
end Go.Proofs.YtplbacfjmajeeaaGreatDoor
