import Derived.Test.YtplbacfjmajeeaaGreatDoorJ12
namespace Go.Proofs.YtplbacfjmajeeaaGreatDoor
open Go.Lib (hid)
set_option maxHeartbeats 4000000
set_option maxRecDepth 100000
open Go.RowKit
theorem info3:(Tryz.prog.info? 3 ).map (fun i=>(i.zero,i.size,i.bytes))=some (some (.int .i64 0),1,8):=by kernel_rfl
def natCells (l:List Nat):List Value:=l.map fun k=>.int .i64 (k:Nat)
def BehP (gd gb:Nat) (k:Nat) (_:Option Obj):Prop:=k≠gd∧k≠gb
def BehPost (w:World) (gd gb:Nat) (ps:List Pt) (A:Nat) (start:Bool) (e:Ending) (w':World):Prop :=
 ∃ bo fv,e=.returned (.tuple #[.slice (some ⟨bo,0,none⟩) (nw (ylL ps)) (nw (ylL ps)),fv])∧OwnSet w' bo (ylL ps) (maskOf (opnO (A.testBit ·) ps 0 start))∧w.heap.size≤bo
  ∧ w'.ownsRow w.heap.size 3 1 fv (fitsL (A.testBit ·) start ps 0 0).length (natCells (fitsL (A.testBit ·) start ps 0 0))
  ∧ (∃ D B,BoolRow w' gd D∧D.length=sizes ps∧BoolRow w' gb B∧B.length=sizes ps)∧Frm (BehP gd gb) w w'
theorem Mac.frm {w w':World} {bm gn gr gd gb:Nat} {ps:List Pt} {C:Array Value} {P:Nat→Option Obj→Prop} (h:Mac w bm gn gr gd gb ps C) (F:Frm P w w') (h1:∀ o,P bm o) (h2:∀ o,P gn o) (h3:∀ o,P gr o):Mac w' bm gn gr gd gb ps C:=by
 obtain ⟨_,n2,_⟩:=h.nod
 obtain ⟨_,n3,_⟩:=h.roo
 exact h.keep (F.block _ (xL h.blk) (h1 _)) (F.block _ (xL n2) (h2 _)) (F.block _ (xL n3) (h3 _))
theorem Mac.apart {w:World} {bm gn gr gd gb g:Nat} {ps:List Pt} {C:Array Value} (h:Mac w bm gn gr gd gb ps C) {L:List Bool} (hb:BoolRow w g L):bm≠g∧gn≠g∧gr≠g:=by
 obtain ⟨_,h2,_⟩:=h.nod
 obtain ⟨_,h3,_⟩:=h.roo
 exact ⟨blk_ne h.blk hb (by decide),blk_ne h2 hb (by decide),blk_ne h3 hb (by decide)⟩
theorem Mac.apart2 {w:World} {bm gn gr gd gb g P M:Nat} {ps:List Pt} {C:Array Value} (h:Mac w bm gn gr gd gb ps C) (hb:OwnSet w g P M):bm≠g∧gn≠g∧gr≠g:=by
 obtain ⟨_,h2,_⟩:=h.nod
 obtain ⟨_,h3,_⟩:=h.roo
 exact ⟨blk_ne h.blk hb.blk (by decide),blk_ne h2 hb.blk (by decide),blk_ne h3 hb.blk (by decide)⟩
def FitRel (wo:World) (A:Nat→Bool) (start:Bool) (ps:List Pt) (j:Nat) (fv:Value) (wz:World):Prop :=
 wz.ownsRow wo.heap.size 3 1 fv (fitsL A start (ps.take j) 0 0).length (natCells (fitsL A start (ps.take j) 0 0))∧wo.grownBy wz none
theorem FitRel.skip {wo wz:World} {A:Nat→Bool} {start:Bool} {ps:List Pt} {j:Nat} {fv:Value} (h:FitRel wo A start ps j fv wz) (hlt:j<ps.length) (hc:(ps[j].dn A (0+ylL (ps.take j)) || start && ps[j].nul)=false):FitRel wo A start ps (j+1) fv wz:=by
 unfold FitRel at h ⊢
 rw [fitsL_take A start ps 0 0 j hlt,hc]
 simpa using h
theorem FitRel.push {wo wz w1:World} {A:Nat→Bool} {start:Bool} {ps:List Pt} {j n:Nat} {fv fv':Value} {o:Obj} (h:FitRel wo A start ps j fv wz) (hlt:j<ps.length) (hc:(ps[j].dn A (0+ylL (ps.take j)) || start && ps[j].nul)=true)
 (hn:n=(fitsL A start (ps.take j) 0 0).length+1) (own:w1.ownsRow wo.heap.size 3 1 fv' n (natCells (fitsL A start (ps.take j) 0 0)++[.int .i64 j])) (g:(wz.alloc o).grownBy w1 fv.ownBlock):FitRel wo A start ps (j+1) fv' w1:=by
 subst hn
 unfold FitRel
 rw [fitsL_take A start ps 0 0 j hlt,hc]
 refine ⟨?_,grow_row (yga h.2 o) g (fun k hk=>(h.1.lt k hk).1)⟩
 simpa [natCells] using own
set_option maxHeartbeats 8000000 in
theorem behind_any (bm gn gr gd gb:Nat) (ps:List Pt) (C:Array Value) (D B:List Bool) (v:Value) (A:Nat) (start:Bool) (w:World) (hP:ylL ps≤64) (hN:sizes ps≤100000) (hr:∀ p∈ps,Right p) (hM:Mac w bm gn gr gd gb ps C)
 (hD:BoolRow w gd D) (hDl:D.length=sizes ps) (hB:BoolRow w gb B) (hBl:B.length=sizes ps) (hne:gd≠gb) (hS:SetAt w v (ylL ps) A) :
 Calls Tryz.prog 71 #[.pointer (some ⟨bm,0,none⟩),v,.bool start] w (BehPost w gd gb ps A start):=by
 obtain ⟨i0,hi,hz0,hz1,hz2⟩:=info_parts info3
 have hlps:=len_sizes ps
 have HBl:=hid hBl
 have HS:=hid hS
 have HM:=hid hM
 have HD:=hid hD
 have HB:=hid hB
 have HDl:=hid hDl
 obtain ⟨_,_,c2,_,_⟩:=hM.cells
 have HP2:=hid c2
 clear hBl hS hM hD hB hDl c2
 go_enter Tryz.func71,Tryz.ntmps71
 go_wp2_with fail
 refine (findDone_any bm gn gr gd gb ps C D v A _ hP hN hr HM.out HD.out HDl.out HS.out).mono ?_
 rintro e w1 ⟨rfl,hD1,g1⟩
 have nD:=HM.out.apart HD.out
 have nB:=HM.out.apart HB.out
 have F1:Frm (BehP gd gb) w w1:=(Frm.refl _ w).grown2 g1 (fun k hk=>.inr (fun _ hp=>by simp at hk; exact hp.1 hk.symm))
 have M1:=HM.out.frm F1 (fun _=>⟨nD.1,nB.1⟩) (fun _=>⟨nD.2.1,nB.2.1⟩) (fun _=>⟨nD.2.2,nB.2.2⟩)
 have B1:=boolRow_kept HB.out g1 (by simpa using fun e=>hne e.symm)
 have HD1:=hid hD1
 have HF1:=hid F1
 have HM1:=hid M1
 have HB1:=hid B1
 obtain ⟨_,⟨cr,c1⟩,_,_,_⟩:=M1.cells
 clear hD1 F1 M1 B1 g1
 go_wp2_with fail
 go_loopw [23] (fun i wr=>∃ j:Nat,j≤ps.length∧i=.int .i64 j∧BoolRow wr gb (rootsSet start ps j B)∧w1.grownBy wr (some gb)) (fun i _=>ps.length-(intOf i).toNat)
 case atStart=>exact ⟨0,Nat.zero_le _,rfl,HB1.out,⟨rfl,rfl,rfl,Nat.le_refl _,fun _ _ _=>rfl⟩⟩
 case round =>
  obtain ⟨j,hj,rfl,hb,hg⟩:=hrel
  have Mr:=HM1.out.grown HB1.out hg
  obtain ⟨⟨cnr,d0⟩,_,d2,_,d7⟩:=Mr.cells
  by_cases hlt:j<ps.length
  · have cr:=Mr.root hlt
    have hl:=sizes_take_lt ps j hlt
    obtain ⟨y,hy⟩:∃ y,(rootsSet start ps j B)[sizes (ps.take j)]? = some y:=⟨_,List.getElem?_eq_getElem (by rw [rootsSet_len,HBl.out]; exact hl)⟩
    have cy:=hb.cell hy
    have fy:=hb.free (sizes (ps.take j))
    have hbH:=hid hb
    have hgH:=hid hg
    obtain ⟨z,hz⟩:∃ z,z=sizes (ps.take j):=⟨_,rfl⟩
    have HZ:=hid hz
    rw [← hz] at cr cy fy hl
    clear hb hg Mr hy hz
    go_wp2_with fail
    go_roundw
    case rel =>
     refine ⟨j+1,by omega,by go_num,?_,xT hgH.out (grow_cell z _)⟩
     rw [rootsSet,← HZ.out]
     exact hbH.out.set z _
    case measure=>simp [intOf]; omega
  · obtain rfl:j=ps.length:=by omega
    have hbH:=hid hb
    have hgH:=hid hg
    have HMr:=hid Mr
    clear hb hg Mr
    go_wp2_with fail
    refine (newSet_any bm (ylL ps) _ hP d2).mono ?_
    rintro e w2 ⟨rfl,rfl⟩
    have F2:Frm (BehP gd gb) w (wr.alloc (.cells (cellsS (ylL ps) 0) 181)):=(HF1.out.grown2 hgH.out (fun k hk=>.inr (fun _ hp=>by simp at hk; exact hp.2 hk.symm))).alloc _
    have O2:=ownSet_new wr (ylL ps)
    have gA:=xG wr (.cells (cellsS (ylL ps) 0) 181) none
    have B2:=boolRow_kept hbH.out gA (by simp)
    have D2:=boolRow_kept (boolRow_kept HD1.out hgH.out (by simpa using hne)) gA (by simp)
    have M2:=HM.out.frm F2 (fun _=>⟨nD.1,nB.1⟩) (fun _=>⟨nD.2.1,nB.2.1⟩) (fun _=>⟨nD.2.2,nB.2.2⟩)
    have hbo:w.heap.size≤wr.heap.size:=by have:=HF1.out.size; have:=hgH.out.size; omega
    generalize hw2:wr.alloc (.cells (cellsS (ylL ps) 0) 181)=w2 at F2 O2 gA B2 D2 M2 ⊢
    generalize wr.heap.size=bo at O2 hbo ⊢
    obtain ⟨⟨cn2,d02⟩,_,_,_,_⟩:=M2.cells
    have HFl:=hid (bgsW_len (A.testBit ·) ps 0 (fun _=>start))
    have nO:=M2.apart2 O2
    have nOB:=own_ne O2 B2
    have nOD:=own_ne O2 D2
    have HF2:=hid F2
    have HO2:=hid O2
    have HB2:=hid B2
    have HD2:=hid D2
    have HM2:=hid M2
    clear F2 O2 B2 D2 M2 gA hw2
    go_wp2_with fail
    go_loopw [42] (fun i wq=>∃ (j:Nat) (Bj:List Bool),j≤sizes ps∧i=.int .i64 j∧FlagsOk (A.testBit ·) ps (bgsW (A.testBit ·) ps 0 (fun _=>start)) j Bj∧BoolRow wq gb Bj∧OwnSet wq bo (ylL ps) (openM (A.testBit ·) ps start j)∧Frm (BegP gb bo) w2 wq) (fun i _=>sizes ps-(intOf i).toNat)
    case atStart =>
     refine ⟨0,_,Nat.zero_le _,rfl,⟨by rw [rootsSet_len]; exact HBl.out,fun k hk=>?_,fun j q b hj=>by omega⟩,HB2.out,by rw [openM_zero]; exact HO2.out,Frm.refl _ _⟩
     rw [rootsSet_get start ps B HBl.out _ (Nat.le_refl _) k hk,(root_at (A.testBit ·) ps 0 0 k hk).2.2]
    case round =>
     obtain ⟨j,Bj,hj,rfl,hfl,hb3,hO3,F3⟩:=hrel
     have M3:=HM2.out.frm F3 (fun _=>⟨nB.1,nO.1⟩) (fun _=>⟨nB.2.1,nO.2.1⟩) (fun _=>⟨nB.2.2,nO.2.2⟩)
     have D3:BoolRow _ gd _:=(F3.block _ (xL HD2.out) ⟨hne,fun e=>nOD e.symm⟩).trans HD2.out
     by_cases hlt:j<sizes ps
     · obtain ⟨⟨q,b,N⟩,_⟩:=node_at (A.testBit ·) (sizes ps) ps 0 0 j (Nat.le_refl _) hr hlt
       obtain ⟨γ,hγ,hkd⟩:=N.begun (fun _=>start)
       have hBγ:=(hfl.at_ hr hlt).trans hγ
       have HC:=hid (begin_any bm gn gr gd gb bo ps C Bj A _ j q b γ _ hP hN M3 D3 hb3 hfl.len hne hO3 N hBγ)
       have HFS:=hid (hfl.step HFl.out N hkd)
       have HOM:=hid (openM_succ (A.testBit ·) ps start j N hγ)
       have HF3:=hid F3
       clear M3 D3 hb3 hfl hO3 F3 N hγ hkd hBγ
       go_wp2_with fail
       refine HC.out.mono ?_
       rintro e w4 ⟨rfl,hb4,hO4,F4⟩
       have Hb4:=hid hb4
       have HO4:=hid hO4
       have HF4:=hid (HF3.out.trans F4)
       clear hb4 hO4 F4 HC
       go_wp2_with fail
       go_roundw
       case rel=>exact ⟨j+1,_,by omega,by go_num,HFS.out,Hb4.out,by rw [HOM.out]; exact HO4.out,HF4.out⟩
       case measure=>simp [intOf]; omega
     · obtain rfl:j=sizes ps:=by omega
       have HOM:=hid (openM_all (A.testBit ·) ps start hr)
       have HFl3:=hid hfl
       have HB3:=hid hb3
       have HO3:=hid hO3
       have HF3:=hid F3
       have HD3:=hid D3
       have HM3:=hid M3
       obtain ⟨⟨cn3,d3⟩,⟨cr3,c3⟩,_,d63,_⟩:=M3.cells
       clear hfl hb3 hO3 F3 D3 M3
       go_wp2_with fail
       obtain ⟨wo,rfl⟩:∃ wo:World,wo=wr:=⟨_,rfl⟩
       go_loopw [12,55] (fun fv i wz=>∃ j:Nat,j≤ps.length∧i=.int .i64 j∧FitRel wo (A.testBit ·) start ps j fv wz) (fun _ i _=>ps.length-(intOf i).toNat)
       case atStart=>exact ⟨0,Nat.zero_le _,rfl,World.ownsRow_nil _ _ _ _,grow_self _⟩
       case round =>
        obtain ⟨j,hj,rfl,hfr⟩:=hrel
        have hg:=hfr.2
        have Mz:=HM3.out.frm (Frm.of_grown hg (fun _ _=>True)) (fun _=>trivial) (fun _=>trivial) (fun _=>trivial)
        have Dz:=boolRow_kept HD3.out hg (by simp)
        by_cases hlt:j<ps.length
        · obtain ⟨r1,r2,_⟩:=root_at (A.testBit ·) ps 0 0 j hlt
          have hl:=sizes_take_lt ps j hlt
          have hle:=fitsL_le (A.testBit ·) start (ps.take j) 0 0
          rw [List.length_take] at hle
          obtain ⟨z,hz⟩:∃ z,z=sizes (ps.take j):=⟨_,rfl⟩
          have cr4:=Mz.root hlt
          rw [← hz] at r1 r2 hl cr4
          obtain ⟨_,_,m2,_⟩:=Mz.node r1
          have cd:=Dz.cell r2
          obtain ⟨⟨cn4,d4⟩,_,_,d64,_⟩:=Mz.cells
          simp only at m2
          have hsz:=hg.size
          have HSK:=hid (hfr.skip hlt)
          have HFR:=hid hfr
          have hown:=hfr.1
          obtain ⟨fa,fc,rfl⟩:=yos hown
          generalize hx:Pt.dn (fun x=>A.testBit x) ps[j] (0+ylL (List.take j ps))=x at cd
          generalize hy:ps[j].nul=y at m2
          have HXX:=hid hx
          have HYY:=hid hy
          clear hz r1 r2 Mz Dz hg hfr hx hy
          cases x
          · cases start
            · have HR:=hid (HSK.out (by rw [HXX.out]; rfl))
              go_wp2_with fail
              go_roundw
              case rel=>exact ⟨j+1,by omega,by go_num,HR.out⟩
              case measure=>simp [intOf]; omega
            · cases y
              · have HR:=hid (HSK.out (by rw [HXX.out,HYY.out]; rfl))
                go_wp2_with fail
                go_roundw
                case rel=>exact ⟨j+1,by omega,by go_num,HR.out⟩
                case measure=>simp [intOf]; omega
              · have HC:=hid (show (ps[j].dn (fun x=>A.testBit x) (0+ylL (ps.take j)) || true && ps[j].nul)=true by rw [HXX.out,HYY.out]; rfl)
                go_wp2_with (at_builtin; refine wpList_append_own _ rfl _ _ 22 rfl wo.heap.size 3 i0 (.int .i64 0) 1 8 Tryz.underlying22 hi hz0 hz1 hz2 rfl (by decide) _ _ _ rfl (hown.alloc _) ⟨wr.heap.size,0,none⟩ 1 1 [.int .i64 (j:Int)] rfl rfl (cells_new _ _ _) (fun x hx=>by simp at hx; subst hx; rfl) (by unfold maxLen; omega) (by omega) (by simp; omega) ?_; intro v' w1 hown' hgrow _; have HR:=hid (HFR.out.push hlt HC.out rfl hown' hgrow); clear hown' hgrow)
                go_roundw
                case rel=>exact ⟨j+1,by omega,by go_num,HR.out⟩
                case measure=>simp [intOf]; omega
          · have HC:=hid (show (ps[j].dn (fun x=>A.testBit x) (0+ylL (ps.take j)) || start && ps[j].nul)=true by rw [HXX.out]; rfl)
            go_wp2_with (at_builtin; refine wpList_append_own _ rfl _ _ 22 rfl wo.heap.size 3 i0 (.int .i64 0) 1 8 Tryz.underlying22 hi hz0 hz1 hz2 rfl (by decide) _ _ _ rfl (hown.alloc _) ⟨wr.heap.size,0,none⟩ 1 1 [.int .i64 (j:Int)] rfl rfl (cells_new _ _ _) (fun x hx=>by simp at hx; subst hx; rfl) (by unfold maxLen; omega) (by omega) (by simp; omega) ?_; intro v' w1 hown' hgrow _; have HR:=hid (HFR.out.push hlt HC.out rfl hown' hgrow); clear hown' hgrow)
            go_roundw
            case rel=>exact ⟨j+1,by omega,by go_num,HR.out⟩
            case measure=>simp [intOf]; omega
        · obtain rfl:j=ps.length:=by omega
          have HFR:=hid hfr
          have HG:=hid hg
          clear hfr hg Mz Dz
          go_wp2_with fail
          go_ret2
          refine ⟨bo,_,rfl,?_,hbo,?_,?_,?_⟩
          · rw [← HOM.out]; exact HO3.out.grow HG.out (by simp)
          · have:=HFR.out.1
            rw [List.take_length] at this
            exact ownsRow_base this (Nat.le_trans HF2.out.size HF3.out.size)
          · exact ⟨_,_,boolRow_kept HD3.out HG.out (by simp),dnsL_len _ _ _,boolRow_kept HB3.out HG.out (by simp),HFl3.out.len⟩
          · refine ⟨HG.out.os.trans (HF3.out.os.trans HF2.out.os),HG.out.tape.trans (HF3.out.tape.trans HF2.out.tape),HG.out.output.trans (HF3.out.output.trans HF2.out.output),Nat.le_trans HF2.out.size (Nat.le_trans HF3.out.size HG.out.size),fun k hk hp=>?_⟩
            have e1:=HF2.out.block k hk hp
            have e2:=HF3.out.block k (Nat.lt_of_lt_of_le hk HF2.out.size) ⟨hp.2,by omega⟩
            have e3:=HG.out.block k (Nat.lt_of_lt_of_le hk (Nat.le_trans HF2.out.size HF3.out.size)) (by simp)
            exact e3.trans (e2.trans e1)
def begSet:List (Int × Int)→List Bool→List Bool
 | [],L=>L
 | p::r,L=>begSet r ((L.set p.1.toNat true).set (p.2+1).toNat true)
def noBegs:List Bool:=List.replicate 257 false
theorem noBegs_len:noBegs.length=257:=List.length_replicate
def begL (by_:List (Int × Int)):List Bool:=begSet by_ (noBegs.set 0 true)
theorem begSet_len (r:List (Int × Int)):∀ L,(begSet r L).length=L.length:=by
 induction r with
 | nil=>intro L; rfl
 | cons p r ih=>intro L; simp [begSet,ih]
theorem begSet_snoc (r:List (Int × Int)) (p:Int × Int):∀ L,begSet (r++[p]) L=((begSet r L).set p.1.toNat true).set (p.2+1).toNat true:=by
 induction r with
 | nil=>intro L; rfl
 | cons q r ih=>intro L; simp [begSet,ih]
theorem begL_len (by_:List (Int × Int)):(begL by_).length=257:=by rw [begL,begSet_len,List.length_set,noBegs_len]
def BytesOk (by_:List (Int × Int)):Prop:=∀ p∈by_,0≤p.1∧p.1≤p.2∧p.2≤255
theorem set_true_keep (L:List Bool) (i k:Nat) (h:L[k]? = some true):(L.set i true)[k]? = some true:=by
 by_cases e:i=k
 · subst e
   have hl:i<L.length:=by
    rcases Nat.lt_or_ge i L.length with h' | h'
    · exact h'
    · rw [List.getElem?_eq_none h'] at h; cases h
   rw [List.getElem?_set_self hl]
 · rw [List.getElem?_set_ne e]; exact h
theorem begSet_keep (r:List (Int × Int)):∀ (L:List Bool) (k:Nat),L[k]? = some true→(begSet r L)[k]? = some true:=by
 induction r with
 | nil=>intro L k h; exact h
 | cons p r ih=>intro L k h; exact ih _ k (set_true_keep _ _ _ (set_true_keep _ _ _ h))
theorem begSet_has (r:List (Int × Int)):∀ (L:List Bool),L.length=257→BytesOk r→∀ p∈r,(begSet r L)[p.1.toNat]? = some true∧(begSet r L)[(p.2+1).toNat]? = some true:=by
 induction r with
 | nil=>intro L _ _ p hp; cases hp
 | cons q r ih =>
  intro L hl hok p hp
  simp only [begSet]
  rcases List.mem_cons.1 hp with rfl | hp
  · have:=hok p (by simp)
    refine ⟨begSet_keep _ _ _ (set_true_keep _ _ _ ?_),begSet_keep _ _ _ ?_⟩
    · rw [List.getElem?_set_self (by omega)]
    · rw [List.getElem?_set_self (by simp; omega)]
  · exact ih _ (by simp [hl]) (fun x hx=>hok x (by simp [hx])) p hp
def bg (by_:List (Int × Int)) (k:Nat):Bool:=(begL by_).getD k false
theorem bg_zero (by_:List (Int × Int)):bg by_ 0=true:=by
 unfold bg begL
 have:(begSet by_ (noBegs.set 0 true))[0]? = some true:=begSet_keep _ _ _ (by rw [List.getElem?_set_self (by rw [noBegs_len]; omega)])
 simp [List.getD,this]
theorem bg_has (by_:List (Int × Int)) (h:BytesOk by_) (p:Int × Int) (hp:p∈by_):bg by_ p.1.toNat=true∧bg by_ (p.2+1).toNat=true:=by
 obtain ⟨h1,h2⟩:=begSet_has by_ (noBegs.set 0 true) (by rw [List.length_set,noBegs_len]) h p hp
 unfold bg begL
 simp [List.getD,h1,h2]
def lows (by_:List (Int × Int)) (k:Nat):List Nat:=(List.range k).filter (bg by_)
theorem lows_succ (by_:List (Int × Int)) (k:Nat):lows by_ (k+1)=lows by_ k++(if bg by_ k then [k] else []):=by
 unfold lows
 rw [List.range_succ,List.filter_append]
 congr 1
 by_cases h:bg by_ k=true<;>simp [h]
def cls (by_:List (Int × Int)) (c:Nat):Nat:=(lows by_ (c+1)).length-1
theorem lows_pos (by_:List (Int × Int)) (k:Nat) (h:0<k):0<(lows by_ k).length:=by
 induction k with
 | zero=>omega
 | succ k ih =>
  rw [lows_succ,List.length_append]
  rcases Nat.eq_zero_or_pos k with rfl | hk
  · simp [bg_zero]
  · have:=ih hk; omega
theorem lows_mono (by_:List (Int × Int)) {a b:Nat} (h:a≤b):(lows by_ a).length≤(lows by_ b).length:=by
 induction b with
 | zero => have : a = 0 := by omega
           subst this; exact Nat.le_refl _
 | succ b ih =>
  rcases Nat.lt_or_ge a (b+1) with h1 | h1
  · rw [lows_succ,List.length_append]; have:=ih (by omega); omega
  · have:a=b+1:=by omega
    subst this; exact Nat.le_refl _
theorem cls_mono (by_:List (Int × Int)) {a b:Nat} (h:a≤b):cls by_ a≤cls by_ b:=by
 have:=lows_mono by_ (show a+1≤b+1 by omega); unfold cls; omega
theorem cls_lt (by_:List (Int × Int)) {a b:Nat} (h:a<b) (hb:bg by_ b=true):cls by_ a<cls by_ b:=by
 have h1:=lows_mono by_ (show a+1≤b by omega)
 have h2:(lows by_ (b+1)).length=(lows by_ b).length+1:=by rw [lows_succ,hb]; simp
 have h3:=lows_pos by_ (a+1) (by omega)
 unfold cls; omega
theorem cls_iff (by_:List (Int × Int)) (h:BytesOk by_) (p:Int × Int) (hp:p∈by_) (c:Nat):(cls by_ p.1.toNat≤cls by_ c∧cls by_ c≤cls by_ p.2.toNat)↔(p.1≤(c:Int)∧(c:Int)≤p.2):=by
 have hb:=bg_has by_ h p hp
 have ho:=h p hp
 constructor
 · rintro ⟨h1,h2⟩
   constructor
   · rcases Nat.lt_or_ge c p.1.toNat with hc | hc
     · have:=cls_lt by_ hc hb.1; omega
     · omega
   · rcases Nat.lt_or_ge c (p.2+1).toNat with hc | hc
     · omega
     · have h3:=cls_lt by_ (show p.2.toNat<(p.2+1).toNat by omega) hb.2
       have h4:=cls_mono by_ hc
       omega
 · rintro ⟨h1,h2⟩
   exact ⟨cls_mono by_ (by omega),cls_mono by_ (by omega)⟩
def matchL (by_:List (Int × Int)) (n κ:Nat):List Nat:=(List.range n).filter fun pl=>decide (cls by_ (by_.getD pl (0,-1)).1.toNat≤κ) && decide (κ≤cls by_ (by_.getD pl (0,-1)).2.toNat)
theorem step_match (by_:List (Int × Int)) (h:BytesOk by_) (can:List Nat) (hc:∀ k∈can,k<by_.length) (c:Nat):stepL by_ can c=can.filter fun k=>decide (k∈matchL by_ by_.length (cls by_ c)):=by
 unfold stepL
 refine List.filter_congr fun k hk=>?_
 have hkl:=hc k hk
 have hg:by_.getD k (0,-1)=by_[k]:=by simp [List.getD,hkl]
 have hi:=cls_iff by_ h by_[k] (List.getElem_mem hkl) c
 simp only [matchL,List.mem_filter,List.mem_range,hg]
 rw [Bool.eq_iff_iff]
 simp only [Bool.and_eq_true,decide_eq_true_eq]
 rw [← hi]
 constructor
 · intro h; exact ⟨hkl,h⟩
 · intro h; exact h.2
theorem cls_low (by_:List (Int × Int)):∀ (n κ:Nat) (h:κ<(lows by_ n).length),cls by_ (lows by_ n)[κ]=κ∧(lows by_ n)[κ]<n∧∀ c,cls by_ c=κ→(lows by_ n)[κ]≤c:=by
 intro n
 induction n with
 | zero=>intro κ h; simp [lows] at h
 | succ n ih =>
  intro κ h
  have e:=lows_succ by_ n
  by_cases hκ:κ<(lows by_ n).length
  · have e2:(lows by_ (n+1))[κ]=(lows by_ n)[κ]:=by
     simp only [e]; rw [List.getElem_append_left hκ]
    rw [e2]
    obtain ⟨h1,h2,h3⟩:=ih κ hκ
    exact ⟨h1,by omega,h3⟩
  · have hb:bg by_ n=true:=by
     by_cases hb:bg by_ n=true
     · exact hb
     · rw [e] at h; simp [hb] at h; omega
    have hl:(lows by_ (n+1)).length=(lows by_ n).length+1:=by rw [e,hb]; simp
    have hk:κ=(lows by_ n).length:=by omega
    have e2:(lows by_ (n+1))[κ]=n:=by
     have:(lows by_ (n+1))[κ]? = some n:=by rw [e,hb,List.getElem?_append_right (by omega),hk]; simp
     rw [List.getElem?_eq_getElem h] at this
     simpa using this
    rw [e2]
    refine ⟨by unfold cls; omega,by omega,fun c hc=>?_⟩
    rcases Nat.lt_or_ge c n with h1 | h1
    · have:=cls_lt by_ h1 hb
      have:cls by_ n=κ:=by unfold cls; omega
      omega
    · exact h1
theorem info141:(Tryz.prog.info? 141 ).map (fun i=>(i.zero,i.size,i.bytes))=some (some (.slice none 0 0),1,24):=by kernel_rfl
theorem z173:Tryz.zeroCells173=(noBegs.map Value.bool).toArray:=by kernel_rfl
def setV (P g:Nat):Value:=.slice (some ⟨g,0,none⟩) (nw P) (nw P)
def ArrRow (w:World) (g:Nat) (L:List Bool):Prop:=w.heap[g]? = some (.cells (L.map Value.bool).toArray 173 (0,0))
theorem ArrRow.cell {w:World} {g:Nat} {L:List Bool} (h:ArrRow w g L) {k:Nat} {x:Bool} (hk:L[k]? = some x):w.cell? ⟨g,k,none⟩=some (.bool x):=by
 rw [xC h k]; simp [hk]
theorem ArrRow.free {w:World} {g:Nat} {L:List Bool} (h:ArrRow w g L) (k:Nat):w.frozen? ⟨g,k,none⟩=false:=yfb h k
theorem ArrRow.set {w:World} {g:Nat} {L:List Bool} (h:ArrRow w g L) (k:Nat) (x:Bool):ArrRow (w.setCell ⟨g,k,none⟩ (.bool x)) g (L.set k x):=by
 unfold ArrRow
 rw [yhs h k (.bool x)]
 simp
theorem ArrRow.kept {w w':World} {g:Nat} {L:List Bool} {r:Option Nat} (h:ArrRow w g L) (hg:w.grownBy w' r) (hr:some g≠r):ArrRow w' g L:=by
 unfold ArrRow; rw [hg.block g (xL h) hr]; exact h
structure ClsG (w:World) (bm:Nat) (C0:Array Value) (P base:Nat) (by_:List (Int × Int)) (j:Nat) (L:List Nat) (lv mv:Value) (gs:List Nat) (Ms:Nat→Nat):Prop where
 blk:∃ C:Array Value,w.heap[bm]? = some (.cells C 136 (0,0))∧C.size=264∧(∀ i:Nat,i<3∨261≤i→C[i]? = C0[i]?)∧C[259]? = some lv∧C[260]? = some mv∧∀ b:Nat,b<j→C[3+b]? = some (.int .i64 (cls by_ b:Nat))
 low:w.ownsRow base 5 1 lv L.length (byteCells (L.map UInt8.ofNat))
 mat:w.ownsRow base 141 1 mv gs.length (gs.map (setV P))
 nodup:gs.Nodup
 gbase:∀ g∈gs,base≤g
 sets:∀ (κ g:Nat),gs[κ]? = some g→OwnSet w g P (Ms κ)
def ClsP (bm:Nat) (k:Nat) (_:Option Obj):Prop:=k≠bm
def ClsPost (w:World) (bm:Nat) (C0:Array Value) (P:Nat) (by_:List (Int × Int)) (e:Ending) (w':World):Prop :=
 e=.returned (.tuple #[])∧(∃ lv mv gs,ClsG w' bm C0 P w.heap.size by_ 256 (lows by_ 256) lv mv gs (fun κ=>maskOf (matchL by_ by_.length κ))∧gs.length=(lows by_ 256).length)∧Frm (ClsP bm) w w'
theorem ClsG.mem {w bm C0 P base by_ j L lv mv gs Ms} (S:ClsG w bm C0 P base by_ j L lv mv gs Ms):∀ g∈gs,∃ M,OwnSet w g P M:=by
 intro g hg
 obtain ⟨κ,hκ,rfl⟩:=List.mem_iff_getElem.1 hg
 exact ⟨_,S.sets κ _ (List.getElem?_eq_getElem hκ)⟩
theorem ClsG.alloc {w bm C0 P base by_ j L lv mv gs Ms} (S:ClsG w bm C0 P base by_ j L lv mv gs Ms) (o:Obj):ClsG (w.alloc o) bm C0 P base by_ j L lv mv gs Ms:=by
 obtain ⟨C,hb,r⟩:=S.blk
 exact ⟨⟨C,(Below.heap_alloc w o bm (xL hb)).trans hb,r⟩,S.low.alloc o,S.mat.alloc o,S.nodup,S.gbase,fun κ g h=>(S.sets κ g h).grow (xG w o none) (by simp)⟩
theorem set_get_ne (C:Array Value) (i k:Nat) (v:Value) (h:i≠k):(C.setIfInBounds i v)[k]? = C[k]?:=by
 rw [Array.getElem?_setIfInBounds]; simp [h]
theorem set_get_self (C:Array Value) (i:Nat) (v:Value) (h:i<C.size):(C.setIfInBounds i v)[i]? = some v:=by
 rw [Array.getElem?_setIfInBounds]; simp [h]
theorem ClsG.pushLow {w w1:World} {bm:Nat} {C0:Array Value} {P base:Nat} {by_:List (Int × Int)} {j:Nat} {L:List Nat} {lv mv lv':Value} {gs:List Nat} {Ms:Nat→Nat} {o:Obj} {n k:Nat} (S:ClsG w bm C0 P base by_ j L lv mv gs Ms) (hk:k<256) (hn:n=L.length+1)
 (own:w1.ownsRow base 5 1 lv' n (byteCells (L.map UInt8.ofNat)++[.int .u8 (k:Nat)])) (g:(w.alloc o).grownBy w1 lv.ownBlock) (_:base≤bm∨bm<base) :
 ClsG (w1.setCell ⟨bm,259,none⟩ lv') bm C0 P base by_ j (L++[k]) lv' mv gs Ms:=by
 subst hn
 obtain ⟨C,hb,hs,h0,h4,h5,hc⟩:=(S.alloc o).blk
 have hb1:=ygb (S.alloc o).low g hb (by decide)
 have e:=yhs hb1 259 lv'
 refine ⟨⟨_,e,by simp [hs],fun i hi=>?_,set_get_self _ _ _ (by omega),?_,fun b hb=>?_⟩,?_,?_,S.nodup,S.gbase,fun κ gg h=>?_⟩
 · rw [set_get_ne _ _ _ _ (by omega)]; exact h0 i hi
 · rw [set_get_ne _ _ _ _ (by omega)]; exact h5
 · by_cases hb2:3+b=259
   ·
    rw [hb2,set_get_self _ _ _ (by omega)]
    have:=hc b hb
    rw [hb2,h4] at this
    simp at this
    subst this
    rcases S.low.2 with ⟨hv,_⟩ | ⟨_,_,_,hv,_⟩<;>cases hv
   · rw [set_get_ne _ _ _ _ (by omega)]; exact hc b hb
 · have h:=yoc own hb1 (by decide) 259 lv'
   simp only [List.map_append,byteCells_append,List.length_append,List.map_cons,List.map_nil]
   have e2:byteCells [UInt8.ofNat k]=[.int .u8 (k:Nat)]:=by
    simp only [byteCells,List.map_cons,List.map_nil]
    have:(UInt8.ofNat k).toNat=k:=by simp [UInt8.toNat_ofNat']; omega
    rw [this]
   rw [e2]
   exact h
 · exact yoc (append_own (by decide) (S.alloc o).low g (S.alloc o).mat) hb1 (by decide) 259 lv'
 · have hset:=(S.alloc o).sets κ gg h
   have hb3:=ygb (S.alloc o).low g hset.blk (by decide)
   exact ⟨hset.fits,by rw [Below.heap_setCell _ _ _ _ (fun e=>blk_ne hb1 hb3 (by decide) e.symm)]; exact hb3⟩
theorem ClsG.grow {w w':World} {bm C0 P base by_ j L lv mv gs Ms} (S:ClsG w bm C0 P base by_ j L lv mv gs Ms) (g:w.grownBy w' none):ClsG w' bm C0 P base by_ j L lv mv gs Ms:=by
 obtain ⟨C,hb,r⟩:=S.blk
 exact ⟨⟨C,grow_new g hb,r⟩,ownsRow_frm (Frm.of_grown g (fun _ _=>True)) S.low (fun _ _ _ _=>trivial),ownsRow_frm (Frm.of_grown g (fun _ _=>True)) S.mat (fun _ _ _ _=>trivial),S.nodup,S.gbase,fun κ gg h=>(S.sets κ gg h).grow g (by simp)⟩
theorem ClsG.pushSet {w w2 w3:World} {bm:Nat} {C0:Array Value} {P base:Nat} {by_:List (Int × Int)} {j:Nat} {L:List Nat} {lv mv mv':Value} {gs:List Nat} {o:Obj} {n g:Nat} (S:ClsG w bm C0 P base by_ j L lv mv gs (fun _=>0)) (hj:j≤256) (hn:n=gs.length+1)
 (g4:w.grownBy w2 none) (hO:OwnSet w2 g P 0) (hgn:w.heap.size≤g) (hbase:base≤w.heap.size)
 (own:w3.ownsRow base 141 1 mv' n (gs.map (setV P)++[setV P g])) (hg:(w2.alloc o).grownBy w3 mv.ownBlock) :
 ClsG (w3.setCell ⟨bm,260,none⟩ mv') bm C0 P base by_ j L lv mv' (gs++[g]) (fun _=>0):=by
 subst hn
 have S2:=(S.grow g4).alloc o
 obtain ⟨C,hb,hs,h0,h4,h5,hc⟩:=S2.blk
 have hb1:=ygb S2.mat hg hb (by decide)
 have e:=yhs hb1 260 mv'
 have keepSet:∀ gg M,OwnSet (w2.alloc o) gg P M→OwnSet (w3.setCell ⟨bm,260,none⟩ mv') gg P M:=by
  intro gg M hset
  have hb3:=ygb S2.mat hg hset.blk (by decide)
  exact ⟨hset.fits,by rw [Below.heap_setCell _ _ _ _ (fun e=>blk_ne hb1 hb3 (by decide) e.symm)]; exact hb3⟩
 refine ⟨⟨_,e,by simp [hs],fun i hi=>?_,?_,set_get_self _ _ _ (by omega),fun b hb=>?_⟩,?_,?_,?_,?_,fun κ gg h=>?_⟩
 · rw [set_get_ne _ _ _ _ (by omega)]; exact h0 i hi
 · rw [set_get_ne _ _ _ _ (by omega)]; exact h4
 · rw [set_get_ne _ _ _ _ (by omega)]; exact hc b hb
 · exact yoc (append_own (by decide) S2.mat hg S2.low) hb1 (by decide) 260 mv'
 · have h:=yoc own hb1 (by decide) 260 mv'
   simpa using h
 · refine List.nodup_append.2 ⟨S.nodup,by simp,fun a ha b hb=>?_⟩
   simp at hb
   subst hb
   obtain ⟨M,hM⟩:=S.mem a ha
   have:=xL hM.blk
   omega
 · intro x hx
   rcases List.mem_append.1 hx with hx | hx
   · exact S.gbase x hx
   · simp at hx; subst hx; omega
 · rcases Nat.lt_or_ge κ gs.length with hκ | hκ
   · rw [List.getElem?_append_left hκ] at h
     exact keepSet gg 0 (S2.sets κ gg h)
   · rw [List.getElem?_append_right hκ] at h
     have:gg=g:=by
      rcases Nat.eq_zero_or_pos (κ-gs.length) with h0 | h0
      · rw [h0] at h; simpa using h.symm
      · rw [List.getElem?_eq_none (by simp; omega)] at h; cases h
     subst this
     exact keepSet gg 0 (hO.grow (xG w2 o none) (by simp))
theorem ClsG.setClass {w:World} {bm:Nat} {C0:Array Value} {P base:Nat} {by_:List (Int × Int)} {j:Nat} {L:List Nat} {lv mv:Value} {gs:List Nat} {Ms:Nat→Nat} (S:ClsG w bm C0 P base by_ j L lv mv gs Ms) (hj:j<256) {x:Int} (hx:x=(cls by_ j:Nat)) :
 ClsG (w.setCell ⟨bm,3+j,none⟩ (.int .i64 x)) bm C0 P base by_ (j+1) L lv mv gs Ms:=by
 subst hx
 obtain ⟨C,hb,hs,h0,h4,h5,hc⟩:=S.blk
 have e:=yhs hb (3+j) (.int .i64 (cls by_ j:Nat))
 refine ⟨⟨_,e,by simp [hs],fun i hi=>?_,?_,?_,fun b hb2=>?_⟩,yoc S.low hb (by decide) _ _,yoc S.mat hb (by decide) _ _,S.nodup,S.gbase,fun κ g h=>?_⟩
 · rw [set_get_ne _ _ _ _ (by omega)]; exact h0 i hi
 · rw [set_get_ne _ _ _ _ (by omega)]; exact h4
 · rw [set_get_ne _ _ _ _ (by omega)]; exact h5
 · rcases Nat.lt_or_ge b j with h1 | h1
   · rw [set_get_ne _ _ _ _ (by omega)]; exact hc b h1
   · have:b=j:=by omega
     subst this
     rw [set_get_self _ _ _ (by omega)]
 · have hset:=S.sets κ g h
   exact ⟨hset.fits,by rw [Below.heap_setCell _ _ _ _ (fun e=>blk_ne hb hset.blk (by decide) e.symm)]; exact hset.blk⟩
theorem ClsG.cells {w bm C0 P base by_ j L lv mv gs Ms} (S:ClsG w bm C0 P base by_ j L lv mv gs Ms):w.cell? ⟨bm,259,none⟩=some lv∧w.cell? ⟨bm,260,none⟩=some mv∧(C0[2]? = some (.int .i64 P)→w.cell? ⟨bm,2,none⟩=some (.int .i64 P))∧(∀ i,w.frozen? ⟨bm,i,none⟩=false)∧(∀ i,i<264→∃ v,w.cell? ⟨bm,i,none⟩=some v)∧∀ b,b<j→w.cell? ⟨bm,3+b,none⟩=some (.int .i64 (cls by_ b:Nat)):=by
 obtain ⟨C,hb,hs,h0,h4,h5,hc⟩:=S.blk
 have:=xC hb
 refine ⟨by rw [this]; exact h4,by rw [this]; exact h5,fun h=>by rw [this,h0 2 (by omega)]; exact h,fun i=>yfb hb i,fun i hi=>⟨C[i]'(by omega),?_⟩,fun b hb=>by rw [this]; exact hc b hb⟩
 rw [this,Array.getElem?_eq_getElem]
theorem ClsG.drew {w bm C0 P base by_ j L lv mv gs Ms} (S:ClsG w bm C0 P base by_ j L lv mv gs Ms):ClsG w.drew bm C0 P base by_ j L lv mv gs Ms:=S.grow (grow_drew (grow_self w))
theorem ClsG.setM {w w':World} {bm:Nat} {C0:Array Value} {P base:Nat} {by_:List (Int × Int)} {j:Nat} {L:List Nat} {lv mv:Value} {gs:List Nat} {Ms:Nat→Nat} {c g M:Nat} (S:ClsG w bm C0 P base by_ j L lv mv gs Ms) (hc:gs[c]? = some g)
 (hO:OwnSet w' g P M) (hg:w.grownBy w' (some g)):ClsG w' bm C0 P base by_ j L lv mv gs (fun κ=>if κ=c then M else Ms κ):=by
 have hgo:=S.sets c g hc
 obtain ⟨C,hb,r⟩:=S.blk
 refine ⟨⟨C,?_,r⟩,S.low.kept hg ?_,S.mat.kept hg ?_,S.nodup,S.gbase,fun κ gg h=>?_⟩
 · rw [hg.block _ (xL hb) (by simpa using blk_ne hb hgo.blk (by decide))]; exact hb
 · right; intro e
   obtain ⟨_,cc,hcc⟩:=yob S.low g e
   exact absurd rfl (blk_ne hcc hgo.blk (by decide))
 · right; intro e
   obtain ⟨_,cc,hcc⟩:=yob S.mat g e
   exact absurd rfl (blk_ne hcc hgo.blk (by decide))
 · by_cases e:κ=c
   · subst e
     rw [hc] at h
     simp only [Option.some.injEq] at h
     subst h
     simpa using hO
   · rw [if_neg e]
     refine (S.sets κ gg h).grow hg (fun e2=>?_)
     simp only [Option.some.injEq] at e2
     subst e2
     have h1:=List.getElem?_eq_some_iff.1 h
     have h2:=List.getElem?_eq_some_iff.1 hc
     obtain ⟨l1,e1⟩:=h1
     obtain ⟨l2,e2⟩:=h2
     exact e ((List.getElem_inj S.nodup).1 (e1.trans e2.symm))
theorem ClsG.congr {w:World} {bm:Nat} {C0:Array Value} {P base:Nat} {by_:List (Int × Int)} {j:Nat} {L:List Nat} {lv mv:Value} {gs:List Nat} {Ms Ns:Nat→Nat} (S:ClsG w bm C0 P base by_ j L lv mv gs Ms) (h:∀ κ,Ms κ=Ns κ):ClsG w bm C0 P base by_ j L lv mv gs Ns:=by
 have:Ms=Ns:=funext h
 subst this; exact S
theorem matchL_succ (by_:List (Int × Int)) (n κ:Nat):matchL by_ (n+1) κ=matchL by_ n κ++(if cls by_ (by_.getD n (0,-1)).1.toNat≤κ∧κ≤cls by_ (by_.getD n (0,-1)).2.toNat then [n] else []):=by
 unfold matchL
 rw [List.range_succ,List.filter_append]
 congr 1
 by_cases h:cls by_ (by_.getD n (0,-1)).1.toNat≤κ∧κ≤cls by_ (by_.getD n (0,-1)).2.toNat
 · rw [if_pos h]; simp at h ⊢; exact h
 · rw [if_neg h]; simp at h ⊢; exact h
def midM (by_:List (Int × Int)) (n c κ:Nat):Nat:=if κ<c then maskOf (matchL by_ (n+1) κ) else maskOf (matchL by_ n κ)
theorem midM_start (by_:List (Int × Int)) (n c:Nat) (hc:c=cls by_ (by_.getD n (0,-1)).1.toNat) (κ:Nat):maskOf (matchL by_ n κ)=midM by_ n c κ:=by
 unfold midM
 split
 · rw [matchL_succ,if_neg (by omega)]; simp
 · rfl
theorem midM_end (by_:List (Int × Int)) (n c:Nat) (hc:c=cls by_ (by_.getD n (0,-1)).2.toNat+1) (κ:Nat):midM by_ n c κ=maskOf (matchL by_ (n+1) κ):=by
 unfold midM
 split
 · rfl
 · rw [matchL_succ,if_neg (by omega)]; simp
theorem midM_step (by_:List (Int × Int)) (n c:Nat) (h1:cls by_ (by_.getD n (0,-1)).1.toNat≤c) (h2:c≤cls by_ (by_.getD n (0,-1)).2.toNat) (κ:Nat):(if κ=c then midM by_ n c c ||| 2 ^ n else midM by_ n c κ)=midM by_ n (c+1) κ:=by
 unfold midM
 by_cases e:κ=c
 · subst e
   rw [if_pos rfl,if_neg (by omega),if_pos (by omega),matchL_succ,if_pos ⟨h1,h2⟩,maskOf_snoc]
 · rw [if_neg e]
   by_cases h:κ<c
   · rw [if_pos h,if_pos (by omega)]
   · rw [if_neg h,if_neg (by omega)]
theorem bp_cell (L:List Bp) (k:Nat) (x:Bp) (h:L[k]? = some x):(bpCells L)[k*4]? = some (.int .i64 1)∧(bpCells L)[k*4+1]? = some (.int .i64 x.lo)∧(bpCells L)[k*4+2]? = some (.int .i64 x.hi)∧(bpCells L)[k*4+3]? = some (.slice x.a x.n x.c):=by
 induction L generalizing k with
 | nil=>simp at h
 | cons y L ih =>
  cases k with
  | zero=>simp at h; subst h; simp [bpCells]
  | succ k =>
   have:=ih k (by simpa using h)
   simp only [bpCells,List.flatMap_cons] at this ⊢
   rw [show (k+1)*4=k*4+4 by omega]
   simpa using this
theorem bp_at {w:World} {base:Nat} {bv:Value} {bs:List Bp} (h:w.ownsRow base 28 4 bv bs.length (bpCells bs)) (k:Nat) (hk:k<bs.length) :
 ∃ g c,bv=.slice (some ⟨g,0,none⟩) bs.length c∧base≤g∧w.cell? ⟨g,k*4,none⟩=some (.int .i64 1)∧w.cell? ⟨g,k*4+1,none⟩=some (.int .i64 bs[k].lo)∧w.cell? ⟨g,k*4+2,none⟩=some (.int .i64 bs[k].hi)∧w.cell? ⟨g,k*4+3,none⟩=some (.slice bs[k].a bs[k].n bs[k].c):=by
 obtain ⟨g,c,hv,hb,hc⟩:=yoe h (by omega)
 obtain ⟨h0,h1,h2,h3⟩:=bp_cell bs k bs[k] (List.getElem?_eq_getElem hk)
 exact ⟨g,c,hv,hb,hc _ _ h0,hc _ _ h1,hc _ _ h2,hc _ _ h3⟩
end Go.Proofs.YtplbacfjmajeeaaGreatDoor
