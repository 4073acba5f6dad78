import Derived.Test.YtplbacfjmajeeaaGreatDoorJ05
namespace Go.Proofs.YtplbacfjmajeeaaGreatDoor
open Go.Lib (hid)
set_option maxHeartbeats 4000000
set_option maxRecDepth 100000
open Go.RowKit Go.Region
theorem Sto.undrew {b av cap xs w w' k} (h:Sto b av cap xs w.drew w' k):Sto b av cap xs w w' k:=⟨⟨h.grow.os,h.grow.tape,h.grow.output,h.grow.size,h.grow.block⟩,h.strm⟩
theorem AllQ.drew {Q:Nat→Prop} {W:World} (ps:List Pt) (vs:List V4) (h:AllQ Q W ps vs):AllQ Q W.drew ps vs:=AllQ.keep (kept_grown (row:=none) (grow_drew (grow_self W)) (fun r hr=>by cases hr) (fun _ h _=>h)) ps vs h
theorem NodeR.drew {b av cap xs w R L n sz m k0 o l j W} (h:NodeR b av cap xs w R L n sz m k0 o l j W):NodeR b av cap xs w R L n sz m k0 o l j W.drew:=by
 obtain ⟨args,vs,sv,k',h1,h2,M,hown,hall,hl,hs,hk⟩:=h
 exact ⟨args,vs,sv,k',h1,h2,M.drew,hown,hall.drew,hl,hs,hk⟩
theorem oddk_le (xs:List Int) (k:Nat) (lo hi:Int):oddk xs k lo hi≤k+2:=by
 unfold oddk
 split
 · omega
 · have:=rangek_le (k+1) lo hi; omega
structure Kids (w:World) (R L:Nat) (sa:Option Addr) (sc:Nat) (args:List Pt) (j:Nat) (W:World):Prop where
 ex:∃ vs:List V4,vs.length=j∧W.ownsRow (L+1) 28 4 (.slice sa j sc) j (v4Cells vs)∧AllQ (fun c=>L+1≤c) W args vs
theorem Kids.call {w:World} {R L:Nat} {sa:Option Addr} {sc:Nat} {args:List Pt} {j:Nat} {W W':World} {b:Nat} {av:Option Addr} {cap:Nat} {xs:List Int} {k:Nat} (h:Kids w R L sa sc args j W) (T:Sto b av cap xs W W' k) (hb:b<L):Kids w R L sa sc args j W':=by
 obtain ⟨vs,h1,h2,h3⟩:=h.ex
 exact ⟨vs,h1,own_grownN h2 T.grow (fun r hr=>by have:b=r:=(by simpa using hr); omega),AllQ.keep (kept_grown T.grow (fun r hr hq=>by have:b=r:=(by simpa using hr); omega) (fun _ h _=>h)) _ _ h3⟩
theorem Kids.set {w:World} {R L:Nat} {sa:Option Addr} {sc:Nat} {args:List Pt} {j:Nat} {W:World} (h:Kids w R L sa sc args j W) (p:Addr) (u:Value) (hp:p.block≤L):Kids w R L sa sc args j (W.setCell p u):=by
 obtain ⟨vs,h1,h2,h3⟩:=h.ex
 exact ⟨vs,h1,own_setN h2 p u (by omega),AllQ.keep (kept_set p u (fun h=>by omega)) _ _ h3⟩
theorem Kids.pat {w:World} {R L:Nat} {sa:Option Addr} {sc:Nat} {args:List Pt} {j:Nat} {W:World} (h:Kids w R L sa sc args j W) (hL:w.heap.size≤L) (ha:args.length=j) (o l:Int) :
 PtQ (fun c=>w.heap.size≤c) W (.mk o l 0 args) (.agg #[.int .i64 o,.int .i64 l,.int .i64 0,.slice sa j sc]):=by
 obtain ⟨vs,h1,h2,h3⟩:=h.ex
 refine ⟨sa,sc,by rw [ha],?_⟩
 cases args with
 | nil=>exact .inl rfl
 | cons a args =>
  obtain ⟨g,c,hv,hg,hc⟩:=yoe h2 (by rw [← ha]; simp)
  simp only [Value.slice.injEq] at hv
  refine .inr ⟨g,0,hv.1,by omega,?_⟩
  exact AllQ.row _ vs 0 (AllQ.keep (kept_self (fun c hc=>by omega)) _ _ h3) (fun i u hu=>by rw [Nat.zero_add]; exact hc i u hu)
theorem pat_call {b:Nat} {av:Option Addr} {cap:Nat} {xs:List Int} {wr:World} {k1 n sz m:Nat} {e:Ending} {w2:World} (h:PatPost b av cap xs wr k1 n sz m e w2) :
 ∃ (p:Pt) (xa xb xc xd:Value) (k2:Nat),e=.returned (.agg #[xa,xb,xc,xd])∧Hid (PtQ (fun c=>wr.heap.size≤c) w2 p (V4.val ⟨xa,xb,xc,xd⟩))∧p.leaves≤n∧p.size≤sz∧k2≤k1+m∧Hid (Sto b av cap xs wr w2 k2)∧Hid (∀ u∈[xa,xb,xc,xd],u.oneCell'=true):=by
 obtain ⟨p,v,k2,he,hp,hl,hs,hk,T⟩:=h
 obtain ⟨⟨xa,xb,xc,xd⟩,rfl,o1,o2,o3,o4⟩:=PtQ.v4 p v hp
 exact ⟨p,xa,xb,xc,xd,k2,he,hid hp,hl,hs,hk,hid T,hid (by simp only [List.mem_cons,List.not_mem_nil,or_false]; rintro u (rfl | rfl | rfl | rfl)<;>assumption)⟩
theorem PatPost.undrew {b:Nat} {av:Option Addr} {cap:Nat} {xs:List Int} {wr:World} {k1 n sz m:Nat} {e:Ending} {w2:World} (h:PatPost b av cap xs wr.drew k1 n sz m e w2):PatPost b av cap xs wr k1 n sz m e w2:=by
 obtain ⟨p,v,k2,he,hp,hl,hs,hk,T⟩:=h
 exact ⟨p,v,k2,he,hp,hl,hs,hk,T.undrew⟩
theorem apat_node {b:Nat} {av:Option Addr} {cap:Nat} {xs:List Int} (hx2:xs.length≤9223372036854775807) (D D':Int) (k:Nat) (w:World) (n sz m K:Nat) (hd:2≤D) (hw:IntKind.i64.wrap (D-1)=D') (hk:k+9+3*m≤K) (hK:K≤1000000) (hn:n≤1000) (_:sz≤1000)
 (hf:flipv xs k 3=false) (S:Strm b av cap xs w k)
 (HC:Hid (∀ W k',k'≤K→Strm b av cap xs W k'→Calls Tryz.prog 6 #[.pointer (some ⟨b,0,none⟩),.int .i64 D'] W (PatPost b av cap xs W k' n sz m)))
 (P:Ending→World→Prop) (hP:P=PatPost b av cap xs w k (1+3*n) (1+3*sz) (9+3*m)) :
 Calls Tryz.prog 6 #[.pointer (some ⟨b,0,none⟩),.int .i64 D] w P:=by
 have hd0:¬ D<2:=by omega
 have HPP:=hid hP
 have hlt:=S.lt
 have A0:=xN w (.cells #[.int .i64 0,.int .i64 0,.int .i64 0,.slice none 0 0] 28)
 have T0:=(Sto.refl S).alloc (.cells #[.int .i64 0,.int .i64 0,.int .i64 0,.slice none 0 0] 28)
 have HS:=hid S
 have HF:=hid hf
 have HW:=hid hw
 clear S hP hf hd hw
 obtain ⟨i0,hi,hz0,hz1,hz2⟩:=info_parts info28
 have HI:=hid hi
 have HZ0:=hid hz0
 have HZ1:=hid hz1
 have HZ2:=hid hz2
 clear hi hz0 hz1 hz2
 go_enter Tryz.func6,Tryz.ntmps6
 go_wp2_with fail
 generalize w.alloc _=W at A0 T0 ⊢
 refine (flip_any 3 (by decide) (show k≤1073741824 by omega) hx2 T0.strm).mono ?_
 rintro e w0 ⟨rfl,T0b⟩
 have hs0:=T0b.grow.size
 have hs1:=xL A0
 replace A0:=T0b.kept A0 (by omega)
 replace T0:=T0.trans T0b
 rw [HF.out]
 clear T0b
 have HA0:=hid A0
 have HT0:=hid T0
 clear A0 T0
 go_wp2_with fail
 refine (pick_new [2,2,3,4] (by simp) (by simp) (show k+1≤1073741824 by omega) hx2 HT0.out.strm).mono ?_
 rintro e w1 ⟨rfl,T1⟩
 have ho:=pickv_all (fun x=>x=2∨x=3∨x=4) xs (k+1) [2,2,3,4] (by simp) (by simp)
 generalize pickv xs (k+1) [2,2,3,4]=o at ho ⊢
 have HO:=hid ho
 have B0:=T1.kept HA0.out (by omega)
 have hL:=xL B0
 have M1:Mk b av cap xs w w.heap.size w1.heap.size (w1.alloc (.cells #[.int .i64 o,.int .i64 0,.int .i64 0,.slice none 0 0] 28)) (k+1+1) #[.int .i64 o,.int .i64 0,.int .i64 0,.slice none 0 0] :=
  ⟨(HT0.out.trans T1).alloc _,hlt,.inr ⟨k,HS.out⟩,Nat.le_refl _,by omega,by omega,grow_new (xG _ _ _) B0,xN _ _⟩
 have HM1:=hid M1
 have cL0:=xC M1.pat 0
 simp only [xGe,xGz] at cL0
 clear HA0 HT0 T1 B0 M1 ho hs0 hs1
 go_upto_if 46 with (fail)
 generalize w1.alloc _=W1 at HM1 cL0 ⊢
 generalize w1.heap.size=L at hL HM1 cL0 ⊢
 clear cL0
 go_cut [8] (fun v wx=>∃ (mn:Nat) (k2:Nat),v=.int .i64 mn∧mn≤3∧k2≤k+3∧Hid (Mk b av cap xs w w.heap.size L wx k2 #[.int .i64 o,.int .i64 0,.int .i64 0,.slice none 0 0]))
 case first =>
  by_cases h4:o=4
  · have h4b:(o != 4)=false:=by simp [h4]
    clear h4
    go_wp2_with fail
    go_meet
    exact ⟨1,k+1+1,rfl,by omega,by omega,HM1⟩
  · have h4b:(o != 4)=true:=by simp [h4]
    clear h4
    go_wp2_with fail
    refine (pick_new [2,2,3] (by simp) (by simp) (show k+1+1≤1073741824 by omega) hx2 HM1.out.sto.strm).mono ?_
    rintro e w2 ⟨rfl,T2⟩
    have hp:=pickv_all (fun x=>x=2∨x=3) xs (k+1+1) [2,2,3] (by simp) (by simp)
    generalize pickv xs (k+1+1) [2,2,3]=mp at hp ⊢
    have HM2:=hid (HM1.out.call T2)
    clear T2
    rcases hp with rfl | rfl
    · go_wp2_with fail
      go_meet
      exact ⟨2,k+1+1+1,rfl,by omega,by omega,HM2⟩
    · go_wp2_with fail
      go_meet
      exact ⟨3,k+1+1+1,rfl,by omega,by omega,HM2⟩
 case rest =>
  obtain ⟨mn,k2,rfl,hmn,hk2,HM2⟩:=hcut
  clear HM1
  go_upto_region 13 with (fail)
  go_cut [56] (fun v wx=>∃ (bb:Bool) (k3:Nat),v=.bool bb∧k3≤k+4∧Hid (Mk b av cap xs w w.heap.size L wx k3 #[.int .i64 o,.int .i64 0,.int .i64 0,.slice none 0 0]))
  case first =>
   have cL0:=xC HM2.out.pat 0
   simp only [xGe,xGz] at cL0
   by_cases h2:o=2
   · have h2b:(o == 2)=true:=by simp [h2]
     clear h2
     go_wp2_with fail
     refine (flip_any 12 (by decide) (show k2≤1073741824 by omega) hx2 HM2.out.sto.strm).mono ?_
     rintro e w3 ⟨rfl,T3⟩
     have HM3:=hid (HM2.out.call T3)
     clear T3
     go_wp2_with fail
     go_meet
     exact ⟨_,k2+1,rfl,by omega,HM3⟩
   · have h2b:(o == 2)=false:=by simp [h2]
     clear h2
     go_wp2_with fail
     go_meet
     exact ⟨_,k2,rfl,by omega,HM2⟩
  case rest =>
   obtain ⟨bb,k3,rfl,hk3,HM3⟩:=hcut
   clear HM2
   go_upto_if 56 with (fail)
   go_cut [8] (fun v wx=>∃ (mn:Nat),v=.int .i64 mn∧mn≤3∧Hid (Mk b av cap xs w w.heap.size L wx k3 #[.int .i64 o,.int .i64 0,.int .i64 0,.slice none 0 0]))
   case first =>
    rcases bb with _ | _
    · go_wp2_with fail
      go_meet
      exact ⟨mn,rfl,by omega,HM3⟩
    · go_wp2_with fail
      go_meet
      exact ⟨0,rfl,by omega,HM3⟩
   case rest =>
    obtain ⟨mn,rfl,hmn,HM4⟩:=hcut
    clear HM3
    go_wp2_with fail
    go_loopw [58] (fun i wr=>∃ j:Nat,j≤mn∧i=.int .i64 j∧Hid (NodeR b av cap xs w w.heap.size L n sz m k3 o 0 j wr)) (fun i _=>mn-(intOf i).toNat)
    case atStart=>exact ⟨0,Nat.zero_le _,rfl,hid ⟨[],[],.slice none 0 0,k3,rfl,rfl,HM4.out,⟨rfl,.inl ⟨rfl,rfl⟩⟩,trivial,by simp [ylL],by simp [sizes],by omega⟩⟩
    case round =>
     obtain ⟨j,hj,rfl,HN⟩:=hrel
     by_cases hlt2:j<mn
     · obtain ⟨args,vs,sv,k1,h1,h2,M,hown,hall,hl,hs,hk1⟩:=HN.out
       obtain ⟨sa,sc,rfl⟩:=yos hown
       have hjm:j*m≤3*m:=Nat.mul_le_mul_right m (by omega)
       have hk1K:k1≤K:=by omega
       have HM:=hid M
       have HOWN:=hid hown
       have HALL:=hid hall
       have H1:=hid h1
       have H2:=hid h2
       have HL1:=hid hl
       have HS1:=hid hs
       have HK1:=hid hk1
       have HCW:Hid (∀ W,Mk b av cap xs w w.heap.size L W k1 #[.int .i64 o,.int .i64 0,.int .i64 0,.slice sa j sc]→Calls Tryz.prog 6 #[.pointer (some ⟨b,0,none⟩),.int .i64 D'] W (PatPost b av cap xs W k1 n sz m)):=hid (fun W M=>HC.out W k1 hk1K M.sto.strm)
       have y3:=xC M.pat 3
       have hLs:=xL M.pat
       simp only [xGe,xGz,xGs] at y3
       have hw1:=HW.out
       clear M hown hall h1 h2 hl hs hk1 hjm
       go_wp2_with fail
       go_region_law (first | (have tok:=hk2b; refine step_append_lies _ (by rfl) (.tmp 61) (.tmp 66) 26 (by rfl) (L+1) 28 i0 (.agg #[.int .i64 0,.int .i64 0,.int .i64 0,.slice none 0 0]) 4 48 Tryz.underlying26 HI.out HZ0.out HZ1.out HZ2.out rfl (by omega) _ j (v4Cells vs) (by rfl) (HOW.out _ (by repeat (first | exact grow_self _ | apply grow_drew | apply yga))) ⟨w2.heap.size,0,none⟩ 1 1 [xa,xb,xc,xd] (by rfl) (by rfl) (World.news_of_block (cs:=#[xa,xb,xc,xd]) (t:=28) (fr:=(0,0)) (xN w2 _)) HONE.out (by omega) (by unfold maxLen; omega) (by omega) (by simp; omega) (w2.heap.size+1) (by simp) ?_; intro gg cap1 w3 hown1 hgrow hat hlt1; clear tok; have BL3:=own_keepN (HOW.out (w2.alloc (.cells #[xa,xb,xc,xd] 28)) (yga (grow_self _) _)) hgrow (grow_new (xG w2 _ none) HM2.out.pat) (by omega); have z3:=xC BL3 3; have fz3:=yfb BL3 3; simp only [xGe,xGz,xGs] at z3; have HOWN1:=hid hown1; have HGROW:=hid hgrow; have HAT:=hid hat; clear hown1 hgrow hat BL3) | (go_simp; go_at_call 6; refine (HCW.out _ (by repeat (first | exact HM.out | apply Mk.drew))).mono ?_; intro e w2 hpo; obtain ⟨p,xa,xb,xc,xd,k2b,rfl,HPT,hpl,hps,hk2b,HT2,HONE⟩:=pat_call (wr:=wr) (by first | exact hpo | exact hpo.undrew | exact hpo.undrew.undrew); clear hpo; have HM2:=hid (HM.out.call HT2.out); have y3b:=xC HM2.out.pat 3; simp only [xGe,xGz,xGs] at y3b; have y3c:∀ o,(w2.alloc o).cell? ⟨L,3,none⟩=some (.slice sa j sc):=fun o=>ycg y3b (xG w2 o none); have hL2:=xL HM2.out.pat; have HOW:Hid (∀ W,w2.grownBy W none→W.ownsRow (L+1) 28 4 (.slice sa j sc) j (v4Cells vs)):=hid (fun W g=>own_grownN (own_grownN HOWN.out HT2.out.grow (fun r hr=>by have:b=r:=(by simpa using hr); omega)) g (fun r hr=>by cases hr))))
       all_goals go_wp2_with fail
       all_goals go_roundw
       all_goals try (case measure=>simp [intOf]; omega)
       all_goals
        have hst:=NodeR.step (x:=⟨xa,xb,xc,xd⟩) (by omega) H1.out H2.out HM HOWN HALL HL1.out HS1.out HK1.out HPT hpl hps hk2b HT2 HOWN1.out HGROW.out HAT.out
        exact ⟨j+1,by omega,by go_num,hid (by first | exact hst | exact hst.drew | exact hst.drew.drew)⟩
     · obtain rfl:j=mn:=by omega
       obtain ⟨args,vs,sv,k1,h1,h2,M,hown,hall,hl,hs,hk1⟩:=HN.out
       have hjm:j*m≤3*m:=Nat.mul_le_mul_right m (by omega)
       have hjn:j*n≤3*n:=Nat.mul_le_mul_right n (by omega)
       have hjs:j*sz≤3*sz:=Nat.mul_le_mul_right sz (by omega)
       have hk1K:k1≤k+4+3*m:=by omega
       have hl1:ylL args≤3*n:=by omega
       have hs1:sizes args≤3*sz:=by omega
       obtain ⟨sa,sc,rfl⟩:=yos hown
       have HM5:=hid M
       have HOWN:=hid hown
       have HALL:=hid hall
       have HKD:Hid (Kids w w.heap.size L sa sc args j wr):=hid ⟨vs,h2,hown,AllQ.keep (kept_self (fun c hc=>hc.1)) _ _ hall⟩
       have H1:=hid h1
       have hLL:=M.llo
       clear M hown hall h1 h2 hl hs hk1 hjm hjn hjs HN HM4 HOWN HALL
       go_wp2_with fail
       refine (flip_any 80 (by decide) (show k1≤1073741824 by omega) hx2 HM5.out.sto.strm).mono ?_
       rintro e w5 ⟨rfl,T5⟩
       have HM6:=hid (HM5.out.call T5)
       have HKD6:=hid (HKD.out.call T5 (by omega))
       clear T5 HM5 HKD
       generalize flipv xs k1 80=f2
       rcases f2 with _ | _
       · have HM9:=HM6
         have HKD9:=HKD6
         obtain ⟨cR0,cR1,cR2,cR3⟩:=cb4 HM9.out.res
         obtain ⟨fR0,fR1,fR2,fR3⟩:=fb4 HM9.out.res
         obtain ⟨cL0,cL1,cL2,cL3⟩:=cb4 HM9.out.pat
         go_wp2_with fail
         have HF9:=hid (HM9.out.fin)
         have KD9:=hid ((((HKD9.out.set ⟨w.heap.size,0,none⟩ (.int .i64 (o)) (by simp; omega)).set ⟨w.heap.size,1,none⟩ (.int .i64 (0)) (by simp; omega)).set ⟨w.heap.size,2,none⟩ (.int .i64 0) (by simp; omega)).set ⟨w.heap.size,3,none⟩ (.slice sa j sc) (by simp; omega))
         generalize hw9:(((World.setCell _ _ _).setCell _ _).setCell _ _).setCell _ _=w9 at KD9
         obtain ⟨s9,r0,r1,r2,r3⟩:=HF9.out _ hw9
         exact bodyPost_ret (v:=.agg #[.int .i64 (o),.int .i64 (0),.int .i64 0,.slice sa j sc]) (by simp [results,Tryz.results6,go_sem,r0,r1,r2,r3]) rfl (by rw [HPP.out]; exact ⟨.mk (o) (0) 0 args,_,_,rfl,KD9.out.pat hLL H1.out _ _,by simp only [Pt.leaves]; split<;>omega,by simp only [Pt.size]; omega,by omega,s9⟩)
       · go_wp2_with fail
         refine (odd_any 1 4 (by omega) (by omega) (show k1+1≤1073741822 by omega) hx2 HM6.out.sto.strm).mono ?_
         rintro e w6 ⟨rfl,T6⟩
         have hok:=oddk_le xs (k1+1) 1 4
         generalize oddk xs (k1+1) 1 4=k6 at hok T6
         generalize oddv xs (k1+1) 1 4=o2
         have HM7:=hid (HM6.out.call T6)
         have HKD7:=hid (HKD6.out.call T6 (by omega))
         clear T6 HM6 HKD6
         go_wp2_with fail
         refine (pick_new [0,1] (by simp) (by simp) (show k6≤1073741824 by omega) hx2 HM7.out.sto.strm).mono ?_
         rintro e w7 ⟨rfl,T7⟩
         have HM8:=hid (HM7.out.call T7)
         have HKD8:=hid (HKD7.out.call T7 (by omega))
         clear T7 HM7 HKD7
         generalize pickv xs k6 [0,1]=l2
         obtain ⟨f71,f72⟩:=fb2 HM8.out.pat
         obtain ⟨c71,c72⟩:=cb2 HM8.out.pat
         have HM9:=hid ((HM8.out.set 0 (.int .i64 o2)).set 1 (.int .i64 l2))
         have HKD9:=hid ((HKD8.out.set ⟨L,0,none⟩ (.int .i64 o2) (by simp)).set ⟨L,1,none⟩ (.int .i64 l2) (by simp))
         simp only [xSi,xSs,xSz] at HM9
         go_upto_region 21 with (fail)
         generalize (w7.setCell _ _).setCell _ _=w8 at HM9 HKD9 ⊢
         clear f71 f72 c71 c72 HM8 HKD8
         obtain ⟨cR0,cR1,cR2,cR3⟩:=cb4 HM9.out.res
         obtain ⟨fR0,fR1,fR2,fR3⟩:=fb4 HM9.out.res
         obtain ⟨cL0,cL1,cL2,cL3⟩:=cb4 HM9.out.pat
         go_wp2_with fail
         have HF9:=hid (HM9.out.fin)
         have KD9:=hid ((((HKD9.out.set ⟨w.heap.size,0,none⟩ (.int .i64 (o2)) (by simp; omega)).set ⟨w.heap.size,1,none⟩ (.int .i64 (l2)) (by simp; omega)).set ⟨w.heap.size,2,none⟩ (.int .i64 0) (by simp; omega)).set ⟨w.heap.size,3,none⟩ (.slice sa j sc) (by simp; omega))
         generalize hw9:(((World.setCell _ _ _).setCell _ _).setCell _ _).setCell _ _=w9 at KD9
         obtain ⟨s9,r0,r1,r2,r3⟩:=HF9.out _ hw9
         exact bodyPost_ret (v:=.agg #[.int .i64 (o2),.int .i64 (l2),.int .i64 0,.slice sa j sc]) (by simp [results,Tryz.results6,go_sem,r0,r1,r2,r3]) rfl (by rw [HPP.out]; exact ⟨.mk (o2) (l2) 0 args,_,_,rfl,KD9.out.pat hLL H1.out _ _,by simp only [Pt.leaves]; split<;>omega,by simp only [Pt.size]; omega,by omega,s9⟩)
open Go.RowKit
theorem PatPost.mono {b:Nat} {av:Option Addr} {cap:Nat} {xs:List Int} {n n' s s' m m':Nat} {w:World} {k:Nat} {e:Ending} {w':World} (h:PatPost b av cap xs w k n s m e w') (h1:n≤n') (h2:s≤s') (h3:m≤m'):PatPost b av cap xs w k n' s' m' e w':=by
 obtain ⟨p,v,k',he,hp,a,c,hk,T⟩:=h
 exact ⟨p,v,k',he,hp,by omega,by omega,by omega,T⟩
theorem apat_1 {b:Nat} {av:Option Addr} {cap:Nat} {xs:List Int} (hx2:xs.length≤9223372036854775807) (k:Nat) (w:World) (hk:k≤3000) (S:Strm b av cap xs w k) :
 Calls Tryz.prog 6 #[.pointer (some ⟨b,0,none⟩),.int .i64 1] w (PatPost b av cap xs w k 1 1 10) :=
 apat_leaf hx2 1 k w (by omega) (by omega) S _ rfl
theorem apat_2 {b:Nat} {av:Option Addr} {cap:Nat} {xs:List Int} (hx2:xs.length≤9223372036854775807) (k:Nat) (w:World) (hk:k≤2000) (S:Strm b av cap xs w k) :
 Calls Tryz.prog 6 #[.pointer (some ⟨b,0,none⟩),.int .i64 2] w (PatPost b av cap xs w k 4 4 39):=by
 cases hf:flipv xs k 3 with
 | true=>exact (apat_leaf2 hx2 2 k w (by omega) (by omega) hf S _ rfl).mono fun e w' h=>h.mono (by omega) (by omega) (by omega)
 | false=>exact apat_node hx2 2 1 k w 1 1 10 3000 (by omega) (by decide) (by omega) (by omega) (by omega) (by omega) hf S (hid fun W k' hk' S'=>apat_1 hx2 k' W hk' S') _ rfl
theorem apat_3 {b:Nat} {av:Option Addr} {cap:Nat} {xs:List Int} (hx2:xs.length≤9223372036854775807) (k:Nat) (w:World) (hk:k≤1000) (S:Strm b av cap xs w k) :
 Calls Tryz.prog 6 #[.pointer (some ⟨b,0,none⟩),.int .i64 3] w (PatPost b av cap xs w k 13 13 126):=by
 cases hf:flipv xs k 3 with
 | true=>exact (apat_leaf2 hx2 3 k w (by omega) (by omega) hf S _ rfl).mono fun e w' h=>h.mono (by omega) (by omega) (by omega)
 | false=>exact apat_node hx2 3 2 k w 4 4 39 2000 (by omega) (by decide) (by omega) (by omega) (by omega) (by omega) hf S (hid fun W k' hk' S'=>apat_2 hx2 k' W hk' S') _ rfl
end Go.Proofs.YtplbacfjmajeeaaGreatDoor
