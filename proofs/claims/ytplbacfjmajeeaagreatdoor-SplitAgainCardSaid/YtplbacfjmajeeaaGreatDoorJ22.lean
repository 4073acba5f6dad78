import Derived.Test.YtplbacfjmajeeaaGreatDoorJ21
namespace Go.Proofs.YtplbacfjmajeeaaGreatDoor
open Go.Lib (hid)
set_option maxHeartbeats 4000000
set_option maxRecDepth 100000
open Go.RowKit
theorem zeros_len (n:Nat):(zeros n).length=n:=by simp [zeros]
theorem own_keep {w w':World} {base:Nat} {e:TypeId} {size n:Nat} {v:Value} {xs:List Value} (h:w.ownsRow base e size v n xs) (g:w.grownBy w' none):w'.ownsRow base e size v n xs :=
 ownsRow_frm (Frm.of_grown g (fun _ _=>True)) h (fun _ _ _ _=>trivial)
def ZPost (w:World) (n:Nat) (e:Ending) (w':World):Prop:=∃ v,e=.returned v∧Ints w' v (zeros n)∧w.grownBy w' none
theorem union_z (a b:Nat) (ha:a≤1) (hb:b≤1) (va vb:Value) (w:World) (h1:Ints w va (zeros a)) (h2:Ints w vb (zeros b)):Calls Tryz.prog 84 #[va,vb] w (ZPost w (min (a+b) 1)):=by
 have hz:zeros a++zeros b=zeros (a+b):=by simp [zeros,List.replicate_append_replicate]
 have g0:=xG w (.cells #[va,vb] 22) none
 have HC:=hid (concat_any va vb (zeros a) (zeros b) w.heap.size (0,0) _ (h1.grow g0) (h2.grow g0) (by rw [zeros_len,zeros_len]; omega) (xN w _))
 have HG:=hid g0
 rw [hz] at HC
 obtain ⟨a1,c1,rfl,_⟩:=h1
 obtain ⟨a2,c2,rfl,_⟩:=h2
 clear g0 hz
 go_enter Tryz.func84,Tryz.ntmps84
 go_wp2_with fail
 refine HC.out.mono ?_
 rintro e w1 ⟨v,rfl,own,g1⟩
 rw [zeros_len (a+b)] at own
 have HO:=hid own
 have H1:=hid (xT HG.out g1)
 have HS:=hid (sort_z (a+b) (by omega) v w1 (Ints.of_own own))
 obtain ⟨av,cv,rfl⟩:=yos own
 clear own g1 HC HG
 go_wp2_with fail
 refine HS.out.mono ?_
 rintro e w2 ⟨rfl,g2⟩
 have own2:=own_keep HO.out g2
 have H2:=hid (xT H1.out g2)
 have HK:=hid (compact_z (a+b) (by omega) _ w2 _ own2)
 have HL:=hid (fun k hk=>(own2.lt k hk).1)
 clear g2 own2 HS
 go_wp2_with fail
 refine HK.out.mono ?_
 rintro e w3 ⟨v3,rfl,h3,g3⟩
 have H3:=hid (show w.grownBy w3 none from grow_row H2.out g3 (fun k hk=>by have:=HL.out k hk; simp at this; omega))
 have HI:=hid h3
 clear g3 h3
 go_wp2_with fail
 go_ret
 exact ⟨_,rfl,HI.out,H3.out⟩
theorem search_z (v:Value) (w:World) (h:Ints w v (zeros 1)):Calls Tryz.prog 85 #[v,.int .i64 0] w fun e w'=>e=.returned (.tuple #[.int .i64 0,.bool true])∧w.grownBy w' none:=by
 obtain ⟨a,c,rfl,hc⟩:=h.elem
 obtain ⟨g,o,rfl,h0⟩:=hc 0 (by decide)
 simp only [zeros,List.replicate,List.getD_cons_zero,Nat.add_zero] at h0
 rw [show (zeros 1).length=1 from rfl]
 clear hc h
 go_enter Tryz.func85,Tryz.ntmps85
 go_wp2_with fail
 refine wp_loop_rounds 2 ?_
 rw [rounds_succ]
 go_wp2_with fail
 refine (less_any 0 0 _).mono ?_
 rintro e w1 ⟨rfl,rfl⟩
 go_wp2_with fail
 rw [rounds_succ]
 go_wp2_with fail
 go_ret2
 exact ⟨rfl,grow_self w⟩
theorem contains_z (n:Nat) (hn:n≤1) (v:Value) (w:World) (h:Ints w v (zeros n)):Calls Tryz.prog 63 #[v,.int .i64 0] w fun e w'=>e=.returned (.bool (decide (n=1)))∧w.grownBy w' none:=by
 have hz:n=0∨n=1:=by omega
 have HI:Hid (Calls Tryz.prog 89 #[v,.int .i64 0] w fun e w'=>e=.returned (.int .i64 (if n=1 then 0 else -1))∧w.grownBy w' none):=by
  refine hid ?_
  obtain ⟨a,c,rfl,hc⟩:=h.elem
  rw [zeros_len]
  rcases hz with rfl | rfl
  · clear hc h
    go_enter Tryz.func89,Tryz.ntmps89
    go_wp2_with fail
    refine wp_loop_rounds 1 ?_
    rw [rounds_succ]
    go_wp2_with fail
    go_ret
    exact ⟨rfl,grow_self w⟩
  · obtain ⟨g,o,rfl,h0⟩:=hc 0 (by decide)
    simp only [zeros,List.replicate,List.getD_cons_zero,Nat.add_zero] at h0
    clear hc h
    go_enter Tryz.func89,Tryz.ntmps89
    go_wp2_with fail
    refine wp_loop_rounds 1 ?_
    rw [rounds_succ]
    go_wp2_with fail
    go_ret
    exact ⟨rfl,grow_self w⟩
 obtain ⟨a,c,rfl,_⟩:=h
 rcases hz with rfl | rfl
 all_goals
  go_enter Tryz.func63,Tryz.ntmps63
  go_wp2_with fail
  refine HI.out.mono ?_
  rintro e w1 ⟨rfl,g1⟩
  have HG:=hid g1
  clear g1
  go_wp2_with fail
  go_ret
  exact ⟨rfl,HG.out⟩
def zEnd (b:Bool) (a:Nat):Nat:=if b=true then a else 0
theorem zEnd_le (b:Bool) (a:Nat):zEnd b a≤a:=by unfold zEnd; split<;>omega
theorem take_all (ps:List Pt) (j:Nat) (h:j<ps.length):(ps.take (j+1)).all Pt.nul=((ps.take j).all Pt.nul && ps[j].nul):=by
 rw [List.take_succ_eq_append_getElem h]; simp [-List.take_append_getElem]
theorem take_any (ps:List Pt) (j:Nat) (h:j<ps.length):(ps.take (j+1)).any Pt.nul=((ps.take j).any Pt.nul || ps[j].nul):=by
 rw [List.take_succ_eq_append_getElem h]; simp [-List.take_append_getElem]
theorem all_nul:∀ ps:List Pt,ps.all Pt.nul=nulAll ps
 | []=>rfl
 | p::ps=>by simp [nulAll,all_nul ps]
theorem zEnd_and (b c:Bool) (a:Nat):zEnd c (zEnd b a)=zEnd (b && c) a:=by cases b<;>cases c<;>rfl
theorem zEnd_or (b c:Bool) (a:Nat) (ha:a≤1):min (zEnd b a+zEnd c a) 1=zEnd (b || c) a:=by
 cases b<;>cases c<;>simp [zEnd]<;>omega
def EndRel (w:World) (n:Nat) (v:Value) (wr:World):Prop:=Ints wr v (zeros n)∧w.grownBy wr none
theorem ends_z (p:Pt):Right p→∀ (a:Nat) (v vf:Value) (w:World),a≤1→p.size≤1000000→PtAt w p v→Ints w vf (zeros a)→Calls Tryz.prog 57 #[v,.string ⟨#[]⟩,vf] w (ZPost w (zEnd p.nul a)):=by
 induction p using Pt.ind with
 | h o l hi ps ih =>
  intro hR a v vf w ha hs hp hf
  obtain ⟨av,cap,rfl,hps⟩:=hp
  have hlen:=len_sizes ps
  simp only [Pt.size] at hs
  have hRa:∀ q∈ps,Right q:=by cases hR with | mk _ _ _ _ _ _ _ h=>exact h
  have hway:(o=1∧ps.length=0)∨o=2∨o=3∨(o=4∧ps.length=1):=by
   cases hR with
   | mk _ _ _ _ h1 h2 _ _=>have:=form_pass o l hi ps.length h1 h2; omega
  have IH:∀ (j:Nat) (hj:j<ps.length) (a:Nat) (v vf:Value) (w:World),a≤1→PtAt w ps[j] v→Ints w vf (zeros a)→Calls Tryz.prog 57 #[v,.string ⟨#[]⟩,vf] w (ZPost w (zEnd ps[j].nul a)):=by
   intro j hj a v vf w ha hp hf
   exact ih ps[j] (List.getElem_mem hj) (hRa _ (List.getElem_mem hj)) a v vf w ha (by have:=size_le_sizes ps ps[j] (List.getElem_mem hj); omega) hp hf
  have HIH:=hid IH
  clear IH ih hRa hR
  have g0:=xG w (.cells #[.int .i64 o,.int .i64 l,.int .i64 hi,.slice av ps.length cap] 28) none
  have HG0:=hid g0
  have HF:=hid hf
  have HA:=hid hps
  clear hps g0
  obtain ⟨fa,fc,rfl,hfe⟩:=hf.elem
  rw [zeros_len] at HF hfe ⊢
  rcases hway with ⟨rfl,h0⟩ | rfl | rfl | ⟨rfl,h1⟩
  · clear h0
    have HN:=hid (show zEnd (Pt.mk 1 l hi ps).nul a=0 by simp [Pt.nul,zEnd])
    have hza:a=0∨a=1:=by omega
    rcases hza with rfl | rfl
    · clear hfe hf
      go_enter Tryz.func57,Tryz.ntmps57
      go_wp2_with fail
      refine wp_loop_rounds 1 ?_
      rw [rounds_succ]
      go_wp2_with fail
      go_ret
      exact ⟨_,rfl,by rw [HN.out]; exact Ints.nil _ _ _,HG0.out⟩
    · obtain ⟨g,oo,rfl,hc⟩:=hfe 0 (by omega)
      simp only [zeros,List.replicate,List.getD_cons_zero,Nat.add_zero] at hc
      have hc2:=ycg hc HG0.out
      clear hfe hf hc
      go_enter Tryz.func57,Tryz.ntmps57
      go_wp2_with fail
      refine wp_loop_rounds 2 ?_
      rw [rounds_succ]
      go_wp2_with fail
      go_quiet (fail)
      go_wp2_with fail
      rw [rounds_succ]
      go_wp2_with fail
      go_ret
      exact ⟨_,rfl,by rw [HN.out]; exact Ints.nil _ _ _,⟨rfl,rfl,rfl,HG0.out.size,HG0.out.block⟩⟩
  · have HN:=hid (show (Pt.mk 2 l hi ps).nul=ps.all Pt.nul by rw [all_nul]; simp [Pt.nul])
    clear hfe hf
    go_enter Tryz.func57,Tryz.ntmps57
    go_wp2_with fail
    go_loopw [2,59] (fun f i wr=>∃ (j:Nat) (f0:Value),j≤ps.length∧i=.int .i64 j∧f0=f∧EndRel w (zEnd ((ps.take j).all Pt.nul) a) f0 wr) (fun _ i _=>ps.length-(intOf i).toNat)
    case atStart=>exact ⟨0,_,Nat.zero_le _,rfl,rfl,HF.out.grow HG0.out,HG0.out⟩
    case round =>
     obtain ⟨j,f,hj,rfl,rfl,hrel⟩:=hrel
     have HR:=hid hrel
     clear hrel
     by_cases hlt:j<ps.length
     · obtain ⟨b,off,xo,xl,xh,xa,xn,xc,rfl,h0,h1,h2,h3,hq⟩:=PtAt.elem HA.out j hlt
       replace h0:=ycg h0 HR.out.2
       replace h1:=ycg h1 HR.out.2
       replace h2:=ycg h2 HR.out.2
       replace h3:=ycg h3 HR.out.2
       have HT:=hid (take_all ps j hlt)
       have HG1:=hid (yga HR.out.2 (.cells #[.int .i64 xo,.int .i64 xl,.int .i64 xh,.slice xa xn xc] 28))
       have HC:=hid (HIH.out j hlt (zEnd ((ps.take j).all Pt.nul) a) _ f _ (Nat.le_trans (zEnd_le _ _) ha) (PtAt.grow HG1.out _ _ hq) (HR.out.1.grow (xG wr _ none)))
       clear hq
       go_wp2_with fail
       refine HC.out.mono ?_
       rintro e w1 ⟨f1,rfl,i1,g1⟩
       rw [zEnd_and,← HT.out] at i1
       have HI:=hid i1
       have HG2:=hid (xT HG1.out g1)
       clear i1 g1
       go_wp2_with fail
       go_roundw
       case rel=>exact ⟨j+1,_,by omega,by go_num,rfl,HI.out,HG2.out⟩
       case measure=>simp [intOf]; omega
     · have HE:=hid (show ps.take j=ps by rw [List.take_of_length_le (by omega)])
       go_wp2_with fail
       go_ret
       exact ⟨_,rfl,by rw [HN.out]; have:=HR.out.1; rwa [HE.out] at this,HR.out.2⟩
  · have HN:=hid (show (Pt.mk 3 l hi ps).nul=ps.any Pt.nul by rw [any_nul]; simp [Pt.nul])
    clear hfe hf
    go_enter Tryz.func57,Tryz.ntmps57
    go_wp2_with fail
    go_loopw [12,74] (fun f i wr=>∃ (j:Nat) (f0:Value),j≤ps.length∧i=.int .i64 j∧f0=f∧EndRel w (zEnd ((ps.take j).any Pt.nul) a) f0 wr) (fun _ i _=>ps.length-(intOf i).toNat)
    case atStart=>exact ⟨0,_,Nat.zero_le _,rfl,rfl,Ints.nil _ _ _,HG0.out⟩
    case round =>
     obtain ⟨j,f,hj,rfl,rfl,hrel⟩:=hrel
     have HR:=hid hrel
     clear hrel
     by_cases hlt:j<ps.length
     · obtain ⟨b,off,xo,xl,xh,xa,xn,xc,rfl,h0,h1,h2,h3,hq⟩:=PtAt.elem HA.out j hlt
       replace h0:=ycg h0 HR.out.2
       replace h1:=ycg h1 HR.out.2
       replace h2:=ycg h2 HR.out.2
       replace h3:=ycg h3 HR.out.2
       have HT:=hid (take_any ps j hlt)
       have HG1:=hid (yga HR.out.2 (.cells #[.int .i64 xo,.int .i64 xl,.int .i64 xh,.slice xa xn xc] 28))
       have HC:=hid (HIH.out j hlt a _ (.slice fa a fc) _ ha (PtAt.grow HG1.out _ _ hq) (HF.out.grow HG1.out))
       have HR1:=hid (HR.out.1.grow (xG wr (.cells #[.int .i64 xo,.int .i64 xl,.int .i64 xh,.slice xa xn xc] 28) none))
       clear hq
       go_wp2_with fail
       refine HC.out.mono ?_
       rintro e w1 ⟨f1,rfl,i1,g1⟩
       have HU:=hid (union_z _ _ (Nat.le_trans (zEnd_le _ _) ha) (Nat.le_trans (zEnd_le _ _) ha) f f1 w1 (HR1.out.grow g1) i1)
       have HG2:=hid (xT HG1.out g1)
       clear i1 g1
       go_wp2_with fail
       refine HU.out.mono ?_
       rintro e w2 ⟨f2,rfl,i2,g2⟩
       rw [zEnd_or _ _ _ ha,← HT.out] at i2
       have HI:=hid i2
       have HG3:=hid (xT HG2.out g2)
       clear i2 g2
       go_wp2_with fail
       go_roundw
       case rel=>exact ⟨j+1,_,by omega,by go_num,rfl,HI.out,HG3.out⟩
       case measure=>simp [intOf]; omega
     · have HE:=hid (show ps.take j=ps by rw [List.take_of_length_le (by omega)])
       go_wp2_with fail
       go_ret
       exact ⟨_,rfl,by rw [HN.out]; have:=HR.out.1; rwa [HE.out] at this,HR.out.2⟩
  · have HN:=hid (show zEnd (Pt.mk 4 l hi ps).nul a=a by simp [Pt.nul,zEnd])
    have hza:a=0∨a=1:=by omega
    have h0lt:0<ps.length:=by omega
    obtain ⟨b,off,xo,xl,xh,xa,xn,xc,rfl,c0,c1,c2,c3,hq⟩:=PtAt.elem HA.out 0 h0lt
    simp only [Nat.zero_mul,Nat.add_zero] at c0 c1 c2 c3
    replace c0:=ycg c0 HG0.out
    replace c1:=ycg c1 HG0.out
    replace c2:=ycg c2 HG0.out
    replace c3:=ycg c3 HG0.out
    have hl1:(0:Int)<ps.length:=by omega
    clear h1
    rcases hza with rfl | rfl
    · clear hfe hf
      go_enter Tryz.func57,Tryz.ntmps57
      go_wp2_with fail
      refine wp_loop_rounds 1 ?_
      rw [rounds_succ]
      go_wp2_with fail
      go_ret
      exact ⟨_,rfl,by rw [HN.out]; exact HF.out.grow HG0.out,HG0.out⟩
    · have HC:=hid (HIH.out 0 h0lt 1 _ (.slice fa 1 fc) _ ha (PtAt.grow HG0.out _ _ hq) (HF.out.grow HG0.out))
      clear hfe hf hq
      go_enter Tryz.func57,Tryz.ntmps57
      go_wp2_with fail
      refine wp_loop_rounds 2 ?_
      rw [rounds_succ]
      go_wp2_with fail
      refine HC.out.mono ?_
      rintro e w1 ⟨f1,rfl,i1,g1⟩
      have HG1:=hid (xT HG0.out g1)
      have HF1:=hid (HF.out.grow HG1.out)
      have hn:=zEnd_le ps[0].nul 1
      obtain ⟨fa1,fc1,rfl,he1⟩:=i1.elem
      rw [zeros_len] at he1 ⊢
      have HI:=hid i1
      clear i1 g1
      generalize zEnd ps[0].nul 1=n1 at hn he1 HI ⊢
      have hn1:n1=0∨n1=1:=by omega
      rcases hn1 with rfl | rfl
      · have HU:=hid (union_z 1 0 (by omega) (by omega) (.slice fa 1 fc) (.slice none 0 0) w1 HF1.out (Ints.nil _ _ _))
        clear he1 hn
        go_wp2_with fail
        refine wp_loop_rounds 1 ?_
        rw [rounds_succ]
        go_wp2_with fail
        refine HU.out.mono ?_
        rintro e w2 ⟨f2,rfl,i2,g2⟩
        have HI2:=hid i2
        have HG2:=hid (xT HG1.out g2)
        clear i2 g2
        go_wp2_with fail
        rw [rounds_succ]
        go_wp2_with fail
        go_ret
        exact ⟨_,rfl,by rw [HN.out]; exact HI2.out,HG2.out⟩
      · obtain ⟨g3,o3,rfl,hc3⟩:=he1 0 (by omega)
        simp only [zeros,List.replicate,List.getD_cons_zero,Nat.add_zero] at hc3
        have HS:=hid (search_z (.slice fa 1 fc) w1 HF1.out)
        clear he1 hn
        go_wp2_with fail
        refine wp_loop_rounds 2 ?_
        rw [rounds_succ]
        go_wp2_with fail
        refine HS.out.mono ?_
        rintro e w1b ⟨rfl,g1b⟩
        have HG1b:=hid (xT HG1.out g1b)
        have HU:=hid (union_z 1 0 (by omega) (by omega) (.slice fa 1 fc) (.slice none 0 0) w1b (HF1.out.grow g1b) (Ints.nil _ _ _))
        clear g1b
        go_wp2_with fail
        rw [rounds_succ]
        go_wp2_with fail
        refine HU.out.mono ?_
        rintro e w2 ⟨f2,rfl,i2,g2⟩
        have HI2:=hid i2
        have HG2:=hid (xT HG1b.out g2)
        clear i2 g2
        go_wp2_with fail
        rw [rounds_succ]
        go_wp2_with fail
        go_ret
        exact ⟨_,rfl,by rw [HN.out]; exact HI2.out,HG2.out⟩
theorem fitsOf_z (p:Pt) (hR:Right p) (v:Value) (w:World) (hs:p.size≤1000000) (hp:PtAt w p v):Calls Tryz.prog 44 #[v,.string ⟨#[]⟩] w fun e w'=>e=.returned (.bool p.nul)∧w.grownBy w' none:=by
 have HP:=hid hp
 obtain ⟨o,l,h,as_⟩:=p
 obtain ⟨av,cap,rfl,_⟩:=hp
 generalize hpe:Pt.mk o l h as_=p at hs HP hR ⊢
 clear hpe
 have g0:=yga (xG w (.cells #[.int .i64 o,.int .i64 l,.int .i64 h,.slice av as_.length cap] 28) none) (.cells #[.int .i64 0] 3)
 have HG0:=hid g0
 have hz:Ints ((w.alloc (.cells #[.int .i64 o,.int .i64 l,.int .i64 h,.slice av as_.length cap] 28)).alloc (.cells #[.int .i64 0] 3)) (.slice (some ⟨w.heap.size+1,0,none⟩) 1 1) (zeros 1):=by
  refine ⟨_,_,rfl,.inr ⟨w.heap.size+1,0,rfl,fun j u hj=>?_⟩⟩
  have hb:=yhn (w.alloc (.cells #[.int .i64 o,.int .i64 l,.int .i64 h,.slice av as_.length cap] 28)) (.cells #[.int .i64 0] 3) (w.heap.size+1) (by simp)
  rw [xC hb]
  cases j with
  | zero=>simp [intC,zeros] at hj; simp [hj]
  | succ j=>simp [intC,zeros] at hj
 have HE:=hid (ends_z p hR 1 _ _ _ (by omega) hs (PtAt.grow g0 _ _ HP.out) hz)
 have HN:=hid (show decide (zEnd p.nul 1=1)=p.nul by cases p.nul<;>rfl)
 have hle:=zEnd_le p.nul 1
 clear g0 hz
 go_enter Tryz.func44,Tryz.ntmps44
 go_wp2_with fail
 refine HE.out.mono ?_
 rintro e w1 ⟨v1,rfl,i1,g1⟩
 have HC:=hid (contains_z _ hle v1 w1 i1)
 have HG1:=hid (xT HG0.out g1)
 clear i1 g1
 go_wp2_with fail
 refine HC.out.mono ?_
 rintro e w2 ⟨rfl,g2⟩
 have HG2:=hid (xT HG1.out g2)
 clear g2
 go_wp2_with fail
 go_ret
 exact ⟨ret_bool HN.out,HG2.out⟩
structure Row where
 e:TypeId
 v:Value
 xs:List Value
def Rws (w:World) (base:Nat) (rs:List Row):Prop :=
 (∀ r∈rs,w.ownsRow base r.e 1 r.v r.xs.length r.xs)∧rs.Pairwise (fun a b=>∀ k,a.v.ownBlock=some k→b.v.ownBlock≠some k)
def NotOf (rs:List Row) (k:Nat):Prop:=∀ r∈rs,r.v.ownBlock≠some k
def RowP (X:Nat) (rs:List Row) (k:Nat) (_:Option Obj):Prop:=k≠X∧NotOf rs k
structure Ext (X:Nat) (w:World) (rs:List Row) (w':World) (rs':List Row):Prop where
 frm:Frm (RowP X rs) w w'
 blk:∀ r'∈rs',∀ k,r'.v.ownBlock=some k→w.heap.size≤k∨∃ r∈rs,r.v.ownBlock=some k
theorem Ext.refl (X:Nat) (w:World) (rs:List Row):Ext X w rs w rs:=⟨Frm.refl _ _,fun r hr _ hk=>.inr ⟨r,hr,hk⟩⟩
theorem Ext.trans {X:Nat} {w w' w'':World} {rs rs' rs'':List Row} (h:Ext X w rs w' rs') (g:Ext X w' rs' w'' rs''):Ext X w rs w'' rs'':=by
 refine ⟨⟨g.frm.os.trans h.frm.os,g.frm.tape.trans h.frm.tape,g.frm.output.trans h.frm.output,Nat.le_trans h.frm.size g.frm.size,fun k hk hp=>?_⟩,fun r'' hr'' k hk=>?_⟩
 · refine (g.frm.block k (Nat.lt_of_lt_of_le hk h.frm.size) ⟨hp.1,fun r' hr' e=>?_⟩).trans (h.frm.block k hk hp)
   rcases h.blk r' hr' k e with h1 | ⟨r,hr,h1⟩
   · omega
   · exact hp.2 r hr h1
 · rcases g.blk r'' hr'' k hk with h1 | ⟨r',hr',h1⟩
   · exact .inl (Nat.le_trans h.frm.size h1)
   · exact h.blk r' hr' k h1
theorem Ext.alloc {X:Nat} {w w':World} {rs rs':List Row} (h:Ext X w rs w' rs') (o:Obj):Ext X w rs (w'.alloc o) rs':=⟨h.frm.alloc o,h.blk⟩
theorem Ext.drew {X:Nat} {w w':World} {rs rs':List Row} (h:Ext X w rs w' rs'):Ext X w rs w'.drew rs':=⟨h.frm.drew,h.blk⟩
theorem Ext.grow {X:Nat} {w w' w'':World} {rs rs':List Row} (h:Ext X w rs w' rs') (g:w'.grownBy w'' none):Ext X w rs w'' rs':=⟨h.frm.grown g (fun k hk=>by cases hk),h.blk⟩
theorem Ext.newer {X:Nat} {w w' w'':World} {rs rs':List Row} (h:Ext X w rs w' rs') {b:Nat} (g:w'.grownBy w'' (some b)) (hb:w.heap.size≤b∨b=X):Ext X w rs w'' rs' :=
 ⟨⟨g.os.trans h.frm.os,g.tape.trans h.frm.tape,g.output.trans h.frm.output,Nat.le_trans h.frm.size g.size,fun k hk hp =>
  (g.block k (Nat.lt_of_lt_of_le hk h.frm.size) (fun e=>by
   simp only [Option.some.injEq] at e
   rcases hb with hb | hb
   · omega
   · exact hp.1 (e.trans hb))).trans (h.frm.block k hk hp)⟩,h.blk⟩
theorem ownsRow_block_kept {w w':World} {base:Nat} {e:TypeId} {size n:Nat} {v:Value} {xs:List Value} (h:w.ownsRow base e size v n xs) (hb:∀ k,v.ownBlock=some k→w'.heap[k]? = w.heap[k]?):w'.ownsRow base e size v n xs:=by
 refine ⟨h.1,?_⟩
 rcases h.2 with h2 | ⟨g,cap,cur,rfl,hg,hh,r⟩
 · exact .inl h2
 · exact .inr ⟨g,cap,cur,rfl,hg,by rw [hb g rfl]; exact hh,r⟩
theorem NotOf.append {a b:List Row} {k:Nat} (h:NotOf a k) (g:NotOf b k):NotOf (a++b) k:=fun r hr=>by
 rcases List.mem_append.1 hr with hr | hr
 · exact h r hr
 · exact g r hr
theorem NotOf.left {a b:List Row} {k:Nat} (h:NotOf (a++b) k):NotOf a k:=fun r hr=>h r (List.mem_append_left _ hr)
theorem NotOf.right {a b:List Row} {k:Nat} (h:NotOf (a++b) k):NotOf b k:=fun r hr=>h r (List.mem_append_right _ hr)
theorem Rws.not_kind {w:World} {base:Nat} {rs:List Row} (R:Rws w base rs) {k:Nat} {cs:Array Value} {t:TypeId} {fr:Nat × Nat} (hk:w.heap[k]? = some (.cells cs t fr)) (ht:∀ r∈rs,r.e≠t):NotOf rs k:=by
 intro r hr e
 obtain ⟨_,c,hc⟩:=yob (R.1 r hr) k e
 rw [hk] at hc
 simp at hc
 exact ht r hr hc.2.1.symm
theorem Rws.not_map {w:World} {base:Nat} {rs:List Row} (R:Rws w base rs) {k:Nat} {es:Array MapEntry} {c:Nat} (hk:w.heap[k]? = some (.map es c)):NotOf rs k:=by
 intro r hr e
 obtain ⟨_,c,hc⟩:=yob (R.1 r hr) k e
 rw [hk] at hc
 simp at hc
theorem Rws.new {w:World} {base:Nat} {rs:List Row} (R:Rws w base rs) {k:Nat} (hk:w.heap.size≤k):NotOf rs k:=by
 intro r hr e
 have:=(R.1 r hr).lt k e
 omega
theorem Rws.old {w:World} {base:Nat} {rs:List Row} (R:Rws w base rs) {k:Nat} (hk:k<base):NotOf rs k:=by
 intro r hr e
 have:=(R.1 r hr).lt k e
 omega
theorem Rws.kept {w w':World} {base:Nat} {rs:List Row} (R:Rws w base rs) {row:Option Nat} (g:w.grownBy w' row) (h:∀ k,row=some k→NotOf rs k):Rws w' base rs:=by
 refine ⟨fun r hr=>(R.1 r hr).kept g ?_,R.2⟩
 cases row with
 | none =>
  cases hv:r.v.ownBlock with
  | none=>exact .inl rfl
  | some k=>exact .inr (by simp)
 | some k=>exact .inr (h k rfl r hr)
theorem Rws.grow {w w':World} {base:Nat} {rs:List Row} (R:Rws w base rs) (g:w.grownBy w' none):Rws w' base rs:=R.kept g (fun k hk=>by cases hk)
theorem Rws.left {w:World} {base:Nat} {a b:List Row} (R:Rws w base (a++b)):Rws w base a:=⟨fun r hr=>R.1 r (List.mem_append_left _ hr),(List.pairwise_append.1 R.2).1⟩
theorem Rws.get {w:World} {base:Nat} {rs:List Row} (R:Rws w base rs) {j:Nat} {r:Row} (hj:rs[j]? = some r):w.ownsRow base r.e 1 r.v r.xs.length r.xs:=R.1 r (List.mem_of_getElem? hj)
theorem pairwise_set {α:Type} {P:α→α→Prop} (hs:∀ a b,P a b→P b a) {l:List α} (h:l.Pairwise P) {j:Nat} {y:α} (hy:∀ i x,l[i]? = some x→i≠j→P x y):(l.set j y).Pairwise P:=by
 rw [List.pairwise_iff_getElem] at h ⊢
 intro a b ha hb hab
 simp only [List.length_set] at ha hb
 rw [List.getElem_set,List.getElem_set]
 by_cases e1:j=a
 · rw [if_pos e1,if_neg (by omega)]
   exact hs _ _ (hy b _ (List.getElem?_eq_getElem hb) (by omega))
 · rw [if_neg e1]
   by_cases e2:j=b
   · rw [if_pos e2]
     exact hy a _ (List.getElem?_eq_getElem ha) (by omega)
   · rw [if_neg e2]; exact h a b ha hb hab
theorem Rws.set {w w':World} {base:Nat} {rs:List Row} (R:Rws w base rs) {j:Nat} {r:Row} (hj:rs[j]? = some r) (g:w.grownBy w' r.v.ownBlock) {v':Value} {ys:List Value} (own:w'.ownsRow base r.e 1 v' ys.length ys)
 (hb:v'.ownBlock=r.v.ownBlock∨v'.ownBlock=some w.heap.size∨v'.ownBlock=none):Rws w' base (rs.set j ⟨r.e,v',ys⟩):=by
 have hjl:j<rs.length:=by
  rcases Nat.lt_or_ge j rs.length with h | h
  · exact h
  · rw [List.getElem?_eq_none h] at hj; cases hj
 have hap:∀ i x,rs[i]? = some x→i≠j→∀ k,r.v.ownBlock=some k→x.v.ownBlock≠some k:=by
  intro i x hi hij k hk hx
  have hP:=List.pairwise_iff_getElem.1 R.2
  have hil:i<rs.length:=by
   rcases Nat.lt_or_ge i rs.length with h | h
   · exact h
   · rw [List.getElem?_eq_none h] at hi; cases hi
  rw [List.getElem?_eq_getElem hil] at hi
  rw [List.getElem?_eq_getElem hjl] at hj
  simp only [Option.some.injEq] at hi hj
  rcases Nat.lt_or_gt_of_ne hij with h | h
  · exact hP i j hil hjl h k (by rw [hi]; exact hx) (by rw [hj]; exact hk)
  · exact hP j i hjl hil h k (by rw [hj]; exact hk) (by rw [hi]; exact hx)
 refine ⟨fun x hx=>?_,pairwise_set (fun a b h k hb ha=>h k ha hb) R.2 (fun i x hi hij k hx hk=>?_)⟩
 · obtain ⟨i,hi⟩:=List.getElem?_of_mem hx
   rw [List.getElem?_set] at hi
   by_cases e:j=i
   · rw [if_pos e] at hi
     split at hi
     · simp only [Option.some.injEq] at hi
       subst hi
       exact own
     · exact absurd (by omega) ‹¬ j<rs.length›
   · rw [if_neg e] at hi
     refine (R.1 x (List.mem_of_getElem? hi)).kept g ?_
     cases hv:r.v.ownBlock with
     | none =>
      cases hx:x.v.ownBlock with
      | none=>exact .inl rfl
      | some k=>exact .inr (by simp)
     | some k=>exact .inr (hap i x hi (fun e1=>e e1.symm) k hv)
 · simp only at hk
   rcases hb with hb | hb | hb
   · rw [hb] at hk; exact hap i x hi hij k hk hx
   · rw [hb] at hk
     simp only [Option.some.injEq] at hk
     have:=((R.1 x (List.mem_of_getElem? hi)).lt k hx).2
     omega
   · rw [hb] at hk; cases hk
theorem Ext.set {X:Nat} {w0 w w':World} {rs0 rs:List Row} (h:Ext X w0 rs0 w rs) {j:Nat} {r:Row} (hj:rs[j]? = some r) (g:w.grownBy w' r.v.ownBlock) {v':Value} {ys:List Value}
 (hb:v'.ownBlock=r.v.ownBlock∨v'.ownBlock=some w.heap.size∨v'.ownBlock=none):Ext X w0 rs0 w' (rs.set j ⟨r.e,v',ys⟩):=by
 refine ⟨⟨g.os.trans h.frm.os,g.tape.trans h.frm.tape,g.output.trans h.frm.output,Nat.le_trans h.frm.size g.size,fun k hk hp=>?_⟩,fun x hx k hk=>?_⟩
 · refine (g.block k (Nat.lt_of_lt_of_le hk h.frm.size) (fun e=>?_)).trans (h.frm.block k hk hp)
   rcases h.blk r (List.mem_of_getElem? hj) k e.symm with h1 | ⟨r0,hr0,h1⟩
   · omega
   · exact hp.2 r0 hr0 h1
 · rcases List.mem_or_eq_of_mem_set hx with hx | rfl
   · exact h.blk x hx k hk
   · simp only at hk
     rcases hb with hb | hb | hb
     · rw [hb] at hk; exact h.blk r (List.mem_of_getElem? hj) k hk
     · rw [hb] at hk
       simp only [Option.some.injEq] at hk
       exact .inl (by rw [← hk]; exact h.frm.size)
     · rw [hb] at hk; cases hk
theorem Rws.beside {X:Nat} {w w':World} {base:Nat} {rs rs' extra:List Row} (R:Rws w base (rs++extra)) (E:Ext X w rs w' rs') (R':Rws w' base rs') (hX:NotOf extra X):Rws w' base (rs'++extra):=by
 have hp:=List.pairwise_append.1 R.2
 refine ⟨fun r hr=>?_,List.pairwise_append.2 ⟨R'.2,hp.2.1,fun a ha b hb k hak hbk=>?_⟩⟩
 · rcases List.mem_append.1 hr with hr | hr
   · exact R'.1 r hr
   · have h0:=R.1 r (List.mem_append_right _ hr)
     refine ownsRow_block_kept h0 (fun k hk=>?_)
     refine E.frm.block k (h0.lt k hk).2 ⟨fun e=>hX r hr (by rw [← e]; exact hk),fun a ha e=>?_⟩
     exact hp.2.2 a ha r hr k e hk
 · rcases E.blk a ha k hak with h1 | ⟨r,hr,h1⟩
   · have:=((R.1 b (List.mem_append_right _ hb)).lt k hbk).2
     omega
   · exact hp.2.2 r hr b hb k h1 hbk
open Go.RowKit Go.Maps
theorem info165:(Tryz.prog.info? 165 ).map (fun i=>(i.zero,i.size,i.bytes))=some (some (.map none),1,8):=by kernel_rfl
theorem info4b:(Tryz.prog.info? 4 ).map (fun i=>(i.zero,i.size,i.bytes))=some (some (.bool false),1,1):=by kernel_rfl
theorem run_append_one {w:World} {base:Nat} {rs:List Row} (R:Rws w base rs) {j:Nat} {r:Row} (hj:rs[j]? = some r) (t ty:TypeId) (z:Value) (bytes:Nat) (ht:Tryz.prog.underlying t=some (.slice r.e)) (hi:(Tryz.prog.info? r.e).map (fun i=>(i.zero,i.size,i.bytes))=some (some z,1,bytes))
 (hz:z.cells.size=1) (hbt:bytes≤8) {k:Nat} {x:Value} {e':TypeId} {fr:Nat × Nat} (hk:w.heap[k]? = some (.cells #[x] e' fr)) (hx:x.oneCell'=true) (hl:r.xs.length≤1000000) (hb:base≤w.heap.size) :
 ∃ v' w',(Builtin.append_ #[t,t] ty #[r.v,.slice (some ⟨k,0,Option.none⟩) 1 1]).run Tryz.prog w=.ok v' w'∧Rws w' base (rs.set j ⟨r.e,v',r.xs++[x]⟩)∧w.grownBy w' r.v.ownBlock∧(v'.ownBlock=r.v.ownBlock∨v'.ownBlock=some w.heap.size):=by
 obtain ⟨i,h0,hz0,hs0,hb0⟩:=info_parts hi
 obtain ⟨v',w',h1,h2,h3,_,h4⟩:=run_append_own_at (P:=Tryz.prog) w base t ty r.e i z 1 bytes ht h0 hz0 hs0 hb0 hz (by decide) r.v r.xs.length r.xs (R.get hj) ⟨k,0,Option.none⟩ 1 1 [x] rfl
  (fun a u ha=>by
   rw [Addr.add_lit,xC hk]
   cases a with
   | zero=>simpa using ha
   | succ a=>simp at ha)
  (fun u hu=>by simp at hu; subst hu; exact hx) (by unfold maxLen; omega) (Nat.le_trans (Nat.mul_le_mul_left _ hbt) (by omega)) hb
 exact ⟨v',w',h1,R.set hj h3 (by simpa using h2) (by rcases h4 with h4 | h4; exact .inl h4; exact .inr (.inl h4)),h3,h4⟩
def IMap (w:World) (mm c:Nat) (F:Nat→Prop):Prop :=
 ∃ n,∃ D:DataW Unit,n≤c∧w.ownsMap Tryz.prog 3 (plainElem Tryz.prog 4) mm n D∧∀ kl,has D kl=true↔∃ k:Nat,kl=.int .i64 (k:Int)∧F k
theorem IMap.kept {w w':World} {mm c:Nat} {F:Nat→Prop} {r:Option Nat} (h:IMap w mm c F) (g:w.grownBy w' r) (hr:some mm≠r):IMap w' mm c F:=by
 obtain ⟨n,D,h0,h1,h2⟩:=h
 exact ⟨n,D,h0,h1.kept g hr,h2⟩
theorem IMap.blk {w:World} {mm c:Nat} {F:Nat→Prop} (h:IMap w mm c F):∃ es k,w.heap[mm]? = some (.map es k):=by
 obtain ⟨_,D,_,⟨es,k,hb,_⟩,_⟩:=h
 exact ⟨es,k,hb⟩
theorem IMap.same {w w':World} {mm c:Nat} {F:Nat→Prop} (h:IMap w mm c F) (e:w'.heap[mm]? = w.heap[mm]?):IMap w' mm c F:=by
 obtain ⟨n,D,h0,⟨es,k,hb,r⟩,h2⟩:=h
 exact ⟨n,D,h0,⟨es,k,e.trans hb,r⟩,h2⟩
theorem IMap.mono {w:World} {mm c c':Nat} {F:Nat→Prop} (h:IMap w mm c F) (hc:c≤c'):IMap w mm c' F:=by
 obtain ⟨n,D,h0,h1,h2⟩:=h
 exact ⟨n,D,Nat.le_trans h0 hc,h1,h2⟩
theorem IMap.iff {w:World} {mm c:Nat} {F G:Nat→Prop} (h:IMap w mm c F) (e:∀ k,F k↔G k):IMap w mm c G:=by
 obtain ⟨n,D,h0,h1,h2⟩:=h
 exact ⟨n,D,h0,h1,fun kl=>(h2 kl).trans ⟨fun ⟨k,a,b⟩=>⟨k,a,(e k).1 b⟩,fun ⟨k,a,b⟩=>⟨k,a,(e k).2 b⟩⟩⟩
theorem iMap_new (w:World) (c:Nat):IMap (w.alloc (.map #[] 0)) w.heap.size c (fun _=>False) :=
 ⟨0,.map [],Nat.zero_le _,World.ownsMap_made _ _ _ _,fun kl=>by simp [has]⟩
theorem IMap.put {w:World} {mm c:Nat} {F:Nat→Prop} (h:IMap w mm c F) (k:Nat) (hk:k≤1000000) (hc:c≤1000000000000) :
 ∃ w',(Instr.mapUpdate 165 (.map (some mm)) (.int .i64 (k:Int)) (.bool true)).run Tryz.prog w=.ok () w'∧IMap w' mm (c+1) (fun i=>F i∨i=k)∧w.grownBy w' (some mm):=by
 obtain ⟨n,D,h0,h1,h2⟩:=h
 obtain ⟨w',hrun,ho,hg⟩:=h1.update (int_keyed Tryz.underlying3) Tryz.underlying165 (by unfold maxLen; omega) (keyOf_int_mk Tryz.underlying3 (wf_nat k hk)) (plainElem_bool Tryz.underlying4 true)
 refine ⟨w',hrun,⟨n+1,_,by omega,ho,fun kl=>?_⟩,hg⟩
 by_cases e:kl=.int .i64 (k:Int)
 · subst e
   rw [has_put_same (h1.isMap) (show WideAt.IsKeyLit (.int .i64 (k:Int)) from trivial)]
   exact ⟨fun _=>⟨k,rfl,.inr rfl⟩,fun _=>rfl⟩
 · rw [has_put_other e,h2]
   constructor
   · rintro ⟨i,h3,h4⟩
     exact ⟨i,h3,.inl h4⟩
   · rintro ⟨i,h3,h4 | h4⟩
     · exact ⟨i,h3,h4⟩
     · subst h4; exact absurd h3 e
theorem nodup_inj {l:List Nat} (h:l.Nodup) {a b:Nat} (ha:a<l.length) (hb:b<l.length) (e:l[a]=l[b]):a=b:=by
 have hp:=List.pairwise_iff_getElem.1 h
 rcases Nat.lt_trichotomy a b with h1 | h1 | h1
 · exact absurd e (hp a b ha hb h1)
 · exact h1
 · exact absurd e.symm (hp b a hb ha h1)
structure SpV where
 lo:Value
 hi:Value
 ma:Value
 fo:Value
 la:Value
 fi:Value
structure SpD where
 lo:List Int
 hi:List Int
 ma:List Int
 fo:List Nat
 la:List Bool
 F:Nat→Nat→Prop
def SpD.n (d:SpD):Nat:=d.lo.length
def boolC (l:List Bool):List Value:=l.map Value.bool
def mapC (l:List Nat):List Value:=l.map fun m=>Value.map (some m)
def spRows (d:SpD) (V:SpV):List Row:=[⟨3,V.lo,intC d.lo⟩,⟨3,V.hi,intC d.hi⟩,⟨3,V.ma,intC d.ma⟩,⟨165,V.fo,mapC d.fo⟩,⟨4,V.la,boolC d.la⟩]
structure Sp (w:World) (base X:Nat) (d:SpD) (c:Nat) (V:SpV) (extra:List Row):Prop where
 blk:w.heap[X]? = some (.cells #[V.lo,V.hi,V.ma,V.fo,V.la,V.fi] 97 (0,0))
 rows:Rws w base (spRows d V++extra)
 len:d.hi.length=d.n∧d.ma.length=d.n∧d.fo.length=d.n∧d.la.length=d.n
 maps:∀ (i mm:Nat),d.fo[i]? = some mm→base≤mm∧IMap w mm c (d.F i)
 nd:d.fo.Nodup
 size:base≤w.heap.size
 ek:∀ r∈extra,r.e=3
theorem Sp.noX {w:World} {base X:Nat} {d:SpD} {c:Nat} {V:SpV} {extra:List Row} (S:Sp w base X d c V extra):NotOf (spRows d V++extra) X :=
 S.rows.not_kind S.blk (fun r hr=>by
  rcases List.mem_append.1 hr with hr | hr
  · simp only [spRows,List.mem_cons,List.not_mem_nil,or_false] at hr
    rcases hr with rfl | rfl | rfl | rfl | rfl<;>(simp only; decide)
  · rw [S.ek r hr]; decide)
theorem Sp.kept {w w':World} {base X:Nat} {d:SpD} {c:Nat} {V:SpV} {extra:List Row} (S:Sp w base X d c V extra) {row:Option Nat} (g:w.grownBy w' row)
 (h:∀ k,row=some k→k≠X∧NotOf (spRows d V++extra) k∧k ∉ d.fo):Sp w' base X d c V extra :=
 ⟨by rw [g.block X (xL S.blk) (fun e=>(h X e.symm).1 rfl)]; exact S.blk,S.rows.kept g (fun k hk=>(h k hk).2.1),S.len,
  fun i mm hi=>⟨(S.maps i mm hi).1,(S.maps i mm hi).2.kept g (fun e=>(h mm e.symm).2.2 (List.mem_of_getElem? hi))⟩,S.nd,Nat.le_trans S.size g.size,S.ek⟩
theorem Sp.grow {w w':World} {base X:Nat} {d:SpD} {c:Nat} {V:SpV} {extra:List Row} (S:Sp w base X d c V extra) (g:w.grownBy w' Option.none):Sp w' base X d c V extra:=S.kept g (fun k hk=>by cases hk)
theorem Sp.alloc {w:World} {base X:Nat} {d:SpD} {c:Nat} {V:SpV} {extra:List Row} (S:Sp w base X d c V extra) (o:Obj):Sp (w.alloc o) base X d c V extra:=S.grow (xG w o _)
theorem Sp.bare {w:World} {base X:Nat} {d:SpD} {c:Nat} {V:SpV} {extra:List Row} (S:Sp w base X d c V extra):Sp w base X d c V []:=⟨S.blk,by rw [List.append_nil]; exact S.rows.left,S.len,S.maps,S.nd,S.size,fun r hr=>by cases hr⟩
theorem Sp.mono {w:World} {base X:Nat} {d:SpD} {c c':Nat} {V:SpV} {extra:List Row} (S:Sp w base X d c V extra) (hc:c≤c'):Sp w base X d c' V extra:=⟨S.blk,S.rows,S.len,fun i mm hi=>⟨(S.maps i mm hi).1,(S.maps i mm hi).2.mono hc⟩,S.nd,S.size,S.ek⟩
theorem Sp.beside {w w':World} {base X:Nat} {d d':SpD} {c c':Nat} {V V':SpV} {extra:List Row} (S:Sp w base X d c V extra) (E:Ext X w (spRows d V) w' (spRows d' V')) (S':Sp w' base X d' c' V' []):Sp w' base X d' c' V' extra :=
 ⟨S'.blk,S.rows.beside E (by have:=S'.rows; rwa [List.append_nil] at this) S.noX.right,S'.len,S'.maps,S'.nd,S'.size,S.ek⟩
theorem Sp.link {w:World} {base X:Nat} {d:SpD} {c:Nat} {V:SpV} {extra:List Row} (S:Sp w base X d c V extra) (i k mm:Nat) (hi:d.fo[i]? = some mm) (hk:k≤1000000) (hc:c≤1000000000000) :
 ∃ w',(Instr.mapUpdate 165 (.map (some mm)) (.int .i64 (k:Int)) (.bool true)).run Tryz.prog w=.ok () w'∧Sp w' base X { d with F:=fun a b=>d.F a b∨(a=i∧b=k) } (c+1) V extra∧w.grownBy w' (some mm):=by
 obtain ⟨w',hrun,hM,hg⟩:=(S.maps i mm hi).2.put k hk hc
 obtain ⟨es,cc,hb⟩:=(S.maps i mm hi).2.blk
 have hX:mm≠X:=fun e=>by rw [e,S.blk] at hb; simp at hb
 refine ⟨w',hrun,⟨?_,S.rows.kept hg (fun k hk=>?_),S.len,fun a m ha=>⟨(S.maps a m ha).1,?_⟩,S.nd,Nat.le_trans S.size hg.size,S.ek⟩,hg⟩
 · rw [hg.block X (xL S.blk) (by simpa using fun e=>hX e.symm)]; exact S.blk
 · have hkk:mm=k:=by simpa using hk
   subst hkk
   exact S.rows.not_map hb
 · by_cases e:m=mm
   · subst e
     have hai:a=i:=by
      have h1:a<d.fo.length:=by
       rcases Nat.lt_or_ge a d.fo.length with h | h
       · exact h
       · rw [List.getElem?_eq_none h] at ha; cases ha
      have h2:i<d.fo.length:=by
       rcases Nat.lt_or_ge i d.fo.length with h | h
       · exact h
       · rw [List.getElem?_eq_none h] at hi; cases hi
      rw [List.getElem?_eq_getElem h1] at ha
      rw [List.getElem?_eq_getElem h2] at hi
      simp only [Option.some.injEq] at ha hi
      exact nodup_inj S.nd h1 h2 (ha.trans hi.symm)
     subst hai
     exact hM.iff (fun b=>by simp)
   · have hai:a≠i:=fun h=>by subst h; rw [ha] at hi; simp at hi; exact e hi
     exact (((S.maps a m ha).2.kept hg (by simpa using e)).mono (Nat.le_succ _)).iff (fun b=>by simp [hai])
end Go.Proofs.YtplbacfjmajeeaaGreatDoor
