import Derived.Test.YtplbacfjmajeeaaGreatDoorJ10
import Derived.Test.YtplbacfjmajeeaaGreatDoorJ11
namespace Go.Proofs.YtplbacfjmajeeaaGreatDoor
open Go.Lib (hid)
set_option maxHeartbeats 4000000
set_option maxRecDepth 100000
open Go.RowKit
def kidsSet (A:Nat→Bool) (o:Int) (ps:List Pt) (b:Nat) (γ:Bool) (i:Nat):Nat→List Bool→List Bool
 | 0,B=>B
 | k+1,B=>(kidsSet A o ps b γ i k B).set (i+1+sizes (ps.take k)) (chB A o ps b γ k)
theorem kidsSet_len (A:Nat→Bool) (o:Int) (ps:List Pt) (b:Nat) (γ:Bool) (i k:Nat) (B:List Bool):(kidsSet A o ps b γ i k B).length=B.length:=by
 induction k with
 | zero=>rfl
 | succ k ih=>simp [kidsSet,ih]
theorem thr_succ (A:Nat→Bool) (ps:List Pt):∀ (b:Nat) (β:Bool) (k:Nat) (hk:k<ps.length),thr A ps b β (k+1)=(ps[k].dn A (b+ylL (ps.take k)) || thr A ps b β k && ps[k].nul):=by
 induction ps with
 | nil=>intro b β k hk; simp at hk
 | cons p ps ih =>
  intro b β k hk
  cases k with
  | zero =>
   have:∀ x,thr A ps (b+p.leaves) x 0=x:=by intro x; cases ps<;>rfl
   simp [thr,ylL,this]
  | succ k =>
   simp only [List.take_succ_cons,ylL,List.getElem_cons_succ]
   rw [show thr A (p::ps) b β (k+1+1)=thr A ps (b+p.leaves) (p.dn A b || β && p.nul) (k+1) from rfl,ih _ _ k (by simpa using hk)]
   simp [thr,Nat.add_assoc]
theorem thr_zero (A:Nat→Bool) (ps:List Pt) (b:Nat) (β:Bool):thr A ps b β 0=β:=by cases ps<;>rfl
def BegP (gb bo:Nat) (k:Nat) (_:Option Obj):Prop:=k≠gb∧k≠bo
def BegPost (w:World) (gb bo P M:Nat) (B:List Bool) (i:Nat) (A:Nat→Bool) (q:Pt) (b:Nat) (γ:Bool) (e:Ending) (w':World):Prop :=
 e=.returned (.tuple #[])∧BoolRow w' gb (if q.op=1 then B else kidsSet A q.op q.args b γ i q.args.length B)∧OwnSet w' bo P (if q.op=1∧γ=true then M ||| 2 ^ b else M)∧Frm (BegP gb bo) w w'
theorem boolRow_kept {w w':World} {g:Nat} {L:List Bool} {r:Option Nat} (h:BoolRow w g L) (hg:w.grownBy w' r) (hr:some g≠r):BoolRow w' g L:=by
 unfold BoolRow; rw [hg.block g (xL h) hr]; exact h
theorem OwnSet.drew {w:World} {b P A:Nat} (h:OwnSet w b P A):OwnSet w.drew b P A:=⟨h.fits,h.blk⟩
theorem own_ne {w:World} {b P M g:Nat} {L:List Bool} (h:OwnSet w b P M) (hb:BoolRow w g L):b≠g:=blk_ne h.blk hb (by decide)
set_option maxHeartbeats 8000000 in
theorem begin_any (bm gn gr gd gb bo:Nat) (ps:List Pt) (C:Array Value) (B:List Bool) (A M i:Nat) (q:Pt) (b:Nat) (γ:Bool) (w:World) (hP:ylL ps≤64) (hN:sizes ps≤100000) (hM:Mac w bm gn gr gd gb ps C)
 (hD:BoolRow w gd (dnsL (A.testBit ·) ps 0)) (hB:BoolRow w gb B) (hBl:B.length=sizes ps) (hne:gd≠gb) (hO:OwnSet w bo (ylL ps) M) (NA:NodeAt (A.testBit ·) ps 0 0 i q b) (hγ:B[i]? = some γ) :
 Calls Tryz.prog 94 #[.pointer (some ⟨bm,0,none⟩),.int .i64 i,.slice (some ⟨bo,0,none⟩) (nw (ylL ps)) (nw (ylL ps))] w (BegPost w gb bo (ylL ps) M B i (A.testBit ·) q b γ):=by
 obtain ⟨⟨cn,c0⟩,_,_,c6,c7⟩:=hM.cells
 obtain ⟨n0,n1,n2,n3⟩:=hM.node NA.node
 obtain ⟨o,l,h,qs⟩:=q
 have hsz:=NA.size
 have hbh:=NA.hi
 have cB:=hB.cell hγ
 simp only [Pt.size,Pt.op] at n0 n1 n2 n3 hsz
 obtain ⟨E,hE⟩:∃ E,E=0+i+(1+sizes qs):=⟨_,rfl⟩
 rw [← hE] at n1
 have HE:=hid hE
 have HB:=hid hB
 have HD:=hid hD
 have HM:=hid hM
 have HO:=hid hO
 have HNA:=hid NA
 have HBl:=hid hBl
 have Hg:=hid hγ
 have hi0:(0:Int)≤(i:Int):=by omega
 have hi1:(i:Int)<(sizes ps:Int):=by omega
 have e0:=World.new_ne w _ c0
 have e7:=World.new_ne w _ c7
 have en:=World.new_ne w _ n0
 have eb:=World.new_ne w _ cB
 clear hE hB hD hM hO NA hBl hγ c6
 go_enter Tryz.func94,Tryz.ntmps94
 go_wp2_with fail
 go_region_held3 (fun w'=>w'.cell? ⟨bm,0,none⟩=some (.slice (some ⟨gn,0,none⟩) (sizes ps) cn)∧w'.cell? ⟨bm,262,none⟩=some (.slice (some ⟨gb,0,none⟩) (sizes ps) (sizes ps))∧w'.cell? ⟨gn,i*4,none⟩=some (.int .i64 o)∧w'.cell? ⟨gn,i*4+1,none⟩=some (.int .i64 E)∧w'.cell? ⟨gn,i*4+2,none⟩=some (.bool (Pt.mk o l h qs).nul)∧w'.cell? ⟨gn,i*4+3,none⟩=some (.int .i64 b)∧w'.cell? ⟨gb,i,none⟩=some (.bool γ)) (first | go_keep) (fail)
 have g1:w.grownBy (w.alloc (.cells #[.int .i64 o,.int .i64 E,.bool (Pt.mk o l h qs).nul,.int .i64 b] 172)).drew none:=grow_drew (xG w _ none)
 have hbx:(w.alloc (.cells #[.int .i64 o,.int .i64 E,.bool (Pt.mk o l h qs).nul,.int .i64 b] 172)).drew.heap[w.heap.size]? = some (.cells #[.int .i64 o,.int .i64 E,.bool (Pt.mk o l h qs).nul,.int .i64 b] 172 (0,0)):=xN w _
 generalize (w.alloc (.cells #[.int .i64 o,.int .i64 E,.bool (Pt.mk o l h qs).nul,.int .i64 b] 172)).drew=w1 at g1 hbx ⊢
 have M1:=hid (HM.out.keep (g1.block _ (xL HM.out.blk) (by simp)) (by obtain ⟨_,h2,_⟩:=HM.out.nod; exact g1.block _ (xL h2) (by simp)) (by obtain ⟨_,h2,_⟩:=HM.out.roo; exact g1.block _ (xL h2) (by simp)))
 have B1:=hid (boolRow_kept HB.out g1 (by simp))
 have D1:=hid (boolRow_kept HD.out g1 (by simp))
 have O1:=hid (HO.out.grow g1 (by simp))
 obtain ⟨⟨cn1,d0⟩,_,_,d6,d7⟩:=M1.out.cells
 obtain ⟨cx0,cx1⟩:=cb2 hbx
 have cx3:=xC hbx 3
 simp only [xGe,xGz,xGs] at cx3
 have HX:=hid hbx
 clear c0 c7 n0 n1 n2 n3 cB e0 e7 en eb hbx
 by_cases o1:o=1
 · subst o1
   have hbl:b<ylL ps:=by have:=hbh; simp [Pt.leaves] at this; omega
   have F1:Frm (BegP gb bo) w w1:=Frm.of_grown g1 _
   cases γ
   · go_wp2_with fail
     go_end0
     exact ⟨rfl,by simpa [Pt.op] using B1.out,by simpa [Pt.op] using O1.out,F1⟩
   · go_wp2_with fail
     refine (add_any bo (ylL ps) M b _ hP hbl O1.out).mono ?_
     rintro e w2 ⟨rfl,hO2,g2⟩
     go_wp2_with fail
     go_end0
     exact ⟨rfl,by simpa [Pt.op] using boolRow_kept B1.out g2 (by have:=own_ne O1.out B1.out; simpa using fun e=>this e.symm),by simpa [Pt.op] using hO2,F1.grown2 g2 (fun k hk=>.inr (fun _ hp=>by simp at hk; exact hp.2 hk.symm))⟩
 · have ob1:(o == 1)=false:=by simp [o1]
   have F1:Frm (BegP gb bo) w w1:=Frm.of_grown g1 _
   have hgbo:=own_ne O1.out B1.out
   by_cases o4:o=4
   · subst o4
     have hl1:qs.length=1:=by
      have hR:=HNA.out.right
      cases hR with
      | mk _ _ _ _ _ hf _ _=>(simp [formB] at hf; omega)
     obtain ⟨r,rfl⟩:∃ r,qs=[r]:=by
      match qs,hl1 with
      | [r],_=>exact ⟨r,rfl⟩
     have hkd:=HNA.out.kidDone 0 (by simp [Pt.args])
     simp only [Pt.args,List.take_zero,sizes,ylL,Nat.add_zero,List.getElem_cons_zero] at hkd
     have cd:=D1.out.cell hkd
     have hrs:=size_pos r
     simp only [sizes] at hsz
     have hi2:i+1<sizes ps:=by omega
     obtain ⟨y,hold⟩:∃ y,B[i+1]? = some y:=⟨_,List.getElem?_eq_getElem (by rw [HBl.out]; exact hi2)⟩
     have cb:=B1.out.cell hold
     have fb:=B1.out.free (i+1)
     have hch:=hid (show chB (fun x=>A.testBit x) 4 [r] b γ 0=(γ || r.dn (fun x=>A.testBit x) b) by simp [chB,dnO])
     generalize Pt.dn (fun x=>A.testBit x) r b=x at cd hch
     clear hold hkd
     have hi3:(i:Int)+1<(sizes ps:Int):=by omega
     cases γ
     all_goals
      go_wp2_with fail
      go_region
     all_goals
      go_wp2_with fail
      go_end0
      refine ⟨rfl,?_,?_,?_⟩
      · simp only [Pt.op,Pt.args,kidsSet,List.length_cons,List.length_nil,List.take_zero,sizes,Nat.add_zero]
        rw [if_neg (by decide),hch.out]
        exact B1.out.set (i+1) _
      · rw [if_neg (by simp [Pt.op])]
        exact (O1.out.grow (grow_cell (w:=w1) (i+1) _) (by simpa using hgbo)).drew
      · exact (F1.set2 _ _ (.inr (fun _ hp=>hp.1 rfl))).drew
   · have ob4:(o == 4)=false:=by simp [o4]
     have hn1:=o1
     have hszq:=len_sizes qs
     by_cases o3:o=3
     · have ob3:(o == 3)=true:=by simp [o3]
       have HC:=hid (show ∀ k,chB (fun x=>A.testBit x) o qs b γ k=γ from fun k=>by simp [chB,o3])
       clear o1 o4 o3 cx1
       go_wp2_with fail
       go_loopw [8] (fun ag wr=>∃ k a:Nat,k≤qs.length∧Hid (a=i+1+sizes (qs.take k))∧ag=.int .i64 a∧a≤100000∧BoolRow wr gb (kidsSet (fun x=>A.testBit x) o qs b γ i k B)∧w1.grownBy wr (some gb)) (fun ag _=>E-(intOf ag).toNat)
       case atStart=>exact ⟨0,i+1,Nat.zero_le _,hid (by simp [sizes]),by go_num,by omega,B1.out,⟨rfl,rfl,rfl,Nat.le_refl _,fun _ _ _=>rfl⟩⟩
       case round =>
        obtain ⟨k,a,hk,Ha,rfl,hab,hbr,hgr⟩:=hrel
        have Mr:=M1.out.grown B1.out hgr
        have hbxr:wr.heap[w.heap.size]? = some (.cells #[.int .i64 o,.int .i64 E,.bool (Pt.mk o l h qs).nul,.int .i64 b] 172 (0,0)):=by
         rw [hgr.block _ (xL HX.out) (by simpa using blk_ne HX.out B1.out (by decide))]; exact HX.out
        have Dr:=boolRow_kept D1.out hgr (by simpa using hne)
        obtain ⟨⟨cn2,q0⟩,_,_,q6,q7⟩:=Mr.cells
        have cx1:=xC hbxr 1
        simp only [xGe,xGz,xGs] at cx1
        have nb1:=blk_ne Mr.blk hbr (by decide)
        have nb2:gn≠gb:=by obtain ⟨_,h2,_⟩:=Mr.nod; exact blk_ne h2 hbr (by decide)
        have nb3:w.heap.size≠gb:=blk_ne hbxr hbr (by decide)
        by_cases hlt:k<qs.length
        · have hk1:=HNA.out.kid k hlt
          have hk2:=HNA.out.kidDone k hlt
          have hst:=sizes_take qs k hlt
          have hst2:=sizes_take_le qs (k+1)
          have hsp:=size_pos qs[k]
          simp only [Pt.args] at hk1 hk2
          rw [← Ha.out] at hk1 hk2
          obtain ⟨m0,m1,m2,m3⟩:=Mr.node hk1
          have cdn:=Dr.cell hk2
          simp only at m0 m1 m2 m3
          obtain ⟨a2,ha2⟩:∃ a2,a2=0+a+qs[k].size:=⟨_,rfl⟩
          have ham:0+(i+1+sizes (qs.take k))+qs[k].size=a2:=by rw [ha2,Ha.out]
          have Ha2:=hid (show a2=i+1+sizes (qs.take (k+1)) by have:=Ha.out; omega)
          have hlt2:a<E:=by have:=Ha.out; have:=HE.out; omega
          have hlt3:a<a2:=by omega
          have hlt4:a2≤E:=by have:=Ha2.out; have:=HE.out; omega
          have hlt5:a<sizes ps:=by have:=Ha.out; omega
          rw [← ha2] at m1
          obtain ⟨y0,hy0⟩:∃ y0,(kidsSet (fun x=>A.testBit x) o qs b γ i k B)[a]? = some y0:=⟨_,List.getElem?_eq_getElem (by rw [kidsSet_len,HBl.out]; exact hlt5)⟩
          have cba:=hbr.cell hy0
          have fba:=hbr.free a
          have s0:∀ u,(wr.setCell ⟨gb,a,none⟩ u).cell? ⟨bm,0,none⟩=_:=fun u=>(grow_cell a u).cell q0 (by simpa using nb1)
          have s6:∀ u,(wr.setCell ⟨gb,a,none⟩ u).cell? ⟨bm,261,none⟩=_:=fun u=>(grow_cell a u).cell q6 (by simpa using nb1)
          have s1:∀ u,(wr.setCell ⟨gb,a,none⟩ u).cell? ⟨gn,a*4+1,none⟩=_:=fun u=>(grow_cell a u).cell m1 (by simpa using nb2)
          have s2:∀ u,(wr.setCell ⟨gb,a,none⟩ u).cell? ⟨gn,a*4+2,none⟩=_:=fun u=>(grow_cell a u).cell m2 (by simpa using nb2)
          have sd:∀ u,(wr.setCell ⟨gb,a,none⟩ u).cell? ⟨gd,a,none⟩=_:=fun u=>(grow_cell a u).cell cdn (by simpa using hne)
          have ha2b:a2≤100000:=by have:=HE.out; omega
          have hset:=hid hbr
          have hgrH:=hid hgr
          clear hy0 hst hst2 hsp ham ha2 hk1 hk2 m0 m3 Mr Dr hbxr hbr hgr
          go_wp2_with fail
          go_roundw
          case rel =>
           refine ⟨k+1,a2,by omega,Ha2,rfl,ha2b,?_,xT hgrH.out (grow_cell a _)⟩
           rw [kidsSet,HC.out,← Ha.out]
           exact hset.out.set a _
          case measure=>simp [intOf]; omega
        · obtain rfl:k=qs.length:=by omega
          have HaE:=hid (show a=E by have:=Ha.out; have:=HE.out; rw [List.take_length] at *; omega)
          have hge:¬ a<E:=by have:=HaE.out; omega
          have hbrH:=hid hbr
          have hgrH:=hid hgr
          clear hbr hgr Mr Dr hbxr
          go_wp2_with fail
          go_end0
          refine ⟨rfl,?_,?_,F1.grown2 hgrH.out (fun k hk=>.inr (fun _ hp=>by simp at hk; exact hp.1 hk.symm))⟩
          · rw [if_neg (by simpa [Pt.op] using hn1)]
            exact hbrH.out
          · rw [if_neg (by simp [Pt.op]; intro h1; exact absurd h1 hn1)]
            exact O1.out.grow hgrH.out (by simpa using hgbo)
     · have ob3:(o == 3)=false:=by simp [o3]
       have o2:o=2:=by
        have hR:=HNA.out.right
        cases hR with
        | mk _ _ _ _ ho _ _ _=>omega
       have ob2:(o == 2)=true:=by simp [o2]
       have HC:=hid (show ∀ k,chB (fun x=>A.testBit x) o qs b γ k=thr (fun x=>A.testBit x) qs b γ k from fun k=>by simp [chB,o2])
       clear o1 o4 o3 cx1 o2
       go_wp2_with fail
       go_loopw [7,9] (fun bv ag wr=>∃ k a:Nat,k≤qs.length∧Hid (a=i+1+sizes (qs.take k))∧ag=.int .i64 a∧bv=.bool (thr (fun x=>A.testBit x) qs b γ k)∧a≤100000∧BoolRow wr gb (kidsSet (fun x=>A.testBit x) o qs b γ i k B)∧w1.grownBy wr (some gb)) (fun _ ag _=>E-(intOf ag).toNat)
       case atStart=>exact ⟨0,i+1,Nat.zero_le _,hid (by simp [sizes]),by go_num,by rw [thr_zero],by omega,B1.out,⟨rfl,rfl,rfl,Nat.le_refl _,fun _ _ _=>rfl⟩⟩
       case round =>
        obtain ⟨k,a,hk,Ha,rfl,rfl,hab,hbr,hgr⟩:=hrel
        have Mr:=M1.out.grown B1.out hgr
        have hbxr:wr.heap[w.heap.size]? = some (.cells #[.int .i64 o,.int .i64 E,.bool (Pt.mk o l h qs).nul,.int .i64 b] 172 (0,0)):=by
         rw [hgr.block _ (xL HX.out) (by simpa using blk_ne HX.out B1.out (by decide))]; exact HX.out
        have Dr:=boolRow_kept D1.out hgr (by simpa using hne)
        obtain ⟨⟨cn2,q0⟩,_,_,q6,q7⟩:=Mr.cells
        have cx1:=xC hbxr 1
        simp only [xGe,xGz,xGs] at cx1
        have nb1:=blk_ne Mr.blk hbr (by decide)
        have nb2:gn≠gb:=by obtain ⟨_,h2,_⟩:=Mr.nod; exact blk_ne h2 hbr (by decide)
        have nb3:w.heap.size≠gb:=blk_ne hbxr hbr (by decide)
        by_cases hlt:k<qs.length
        · have hk1:=HNA.out.kid k hlt
          have hk2:=HNA.out.kidDone k hlt
          have hst:=sizes_take qs k hlt
          have hst2:=sizes_take_le qs (k+1)
          have hsp:=size_pos qs[k]
          simp only [Pt.args] at hk1 hk2
          rw [← Ha.out] at hk1 hk2
          obtain ⟨m0,m1,m2,m3⟩:=Mr.node hk1
          have cdn:=Dr.cell hk2
          simp only at m0 m1 m2 m3
          obtain ⟨a2,ha2⟩:∃ a2,a2=0+a+qs[k].size:=⟨_,rfl⟩
          have ham:0+(i+1+sizes (qs.take k))+qs[k].size=a2:=by rw [ha2,Ha.out]
          have Ha2:=hid (show a2=i+1+sizes (qs.take (k+1)) by have:=Ha.out; omega)
          have hlt2:a<E:=by have:=Ha.out; have:=HE.out; omega
          have hlt3:a<a2:=by omega
          have hlt4:a2≤E:=by have:=Ha2.out; have:=HE.out; omega
          have hlt5:a<sizes ps:=by have:=Ha.out; omega
          rw [← ha2] at m1
          obtain ⟨y0,hy0⟩:∃ y0,(kidsSet (fun x=>A.testBit x) o qs b γ i k B)[a]? = some y0:=⟨_,List.getElem?_eq_getElem (by rw [kidsSet_len,HBl.out]; exact hlt5)⟩
          have cba:=hbr.cell hy0
          have fba:=hbr.free a
          have s0:∀ u,(wr.setCell ⟨gb,a,none⟩ u).cell? ⟨bm,0,none⟩=_:=fun u=>(grow_cell a u).cell q0 (by simpa using nb1)
          have s6:∀ u,(wr.setCell ⟨gb,a,none⟩ u).cell? ⟨bm,261,none⟩=_:=fun u=>(grow_cell a u).cell q6 (by simpa using nb1)
          have s1:∀ u,(wr.setCell ⟨gb,a,none⟩ u).cell? ⟨gn,a*4+1,none⟩=_:=fun u=>(grow_cell a u).cell m1 (by simpa using nb2)
          have s2:∀ u,(wr.setCell ⟨gb,a,none⟩ u).cell? ⟨gn,a*4+2,none⟩=_:=fun u=>(grow_cell a u).cell m2 (by simpa using nb2)
          have sd:∀ u,(wr.setCell ⟨gb,a,none⟩ u).cell? ⟨gd,a,none⟩=_:=fun u=>(grow_cell a u).cell cdn (by simpa using hne)
          have ha2b:a2≤100000:=by have:=HE.out; omega
          have hset:=hid hbr
          have hgrH:=hid hgr
          clear hy0 hst hst2 hsp ham ha2 hk1 hk2 m0 m3 Mr Dr hbxr hbr hgr
          have hth:=hid (thr_succ (fun x=>A.testBit x) qs b γ k hlt)
          have hcur:=hid (HC.out k)
          generalize Pt.dn (fun x=>A.testBit x) qs[k] (b+ylL (List.take k qs))=x at sd hth cdn
          generalize qs[k].nul=y at s2 hth m2
          generalize thr (fun x=>A.testBit x) qs b γ k=t at hth hcur ⊢
          cases x<;>cases y<;>cases t
          all_goals
           go_wp2_with fail
           go_roundw
           case rel =>
            refine ⟨k+1,a2,by omega,Ha2,rfl,by rw [hth.out]; rfl,ha2b,?_,xT hgrH.out (grow_cell a _)⟩
            rw [kidsSet,hcur.out,← Ha.out]
            exact hset.out.set a _
           case measure=>simp [intOf]; omega
        · obtain rfl:k=qs.length:=by omega
          have HaE:=hid (show a=E by have:=Ha.out; have:=HE.out; rw [List.take_length] at *; omega)
          have hge:¬ a<E:=by have:=HaE.out; omega
          have hbrH:=hid hbr
          have hgrH:=hid hgr
          clear hbr hgr Mr Dr hbxr
          go_wp2_with fail
          go_end0
          refine ⟨rfl,?_,?_,F1.grown2 hgrH.out (fun k hk=>.inr (fun _ hp=>by simp at hk; exact hp.1 hk.symm))⟩
          · rw [if_neg (by simpa [Pt.op] using hn1)]
            exact hbrH.out
          · rw [if_neg (by simp [Pt.op]; intro h1; exact absurd h1 hn1)]
            exact O1.out.grow hgrH.out (by simpa using hgbo)
theorem mk0 (w:World):(Instr.makeSlice 141 (.int .i64 0) (.int .i64 0)).run Tryz.prog w=.ok (.slice (some ⟨w.heap.size,0,none⟩) 0 0) (w.alloc (.cells #[] 181)):=by kernel_rfl
theorem mk1 (w:World):(Instr.makeSlice 141 (.int .i64 1) (.int .i64 1)).run Tryz.prog w=.ok (.slice (some ⟨w.heap.size,0,none⟩) 1 1) (w.alloc (.cells #[.int .u64 0] 181)):=by kernel_rfl
theorem newSet_any (bm P:Nat) (w:World) (hP:P≤64) (hc:w.cell? ⟨bm,2,none⟩=some (.int .i64 P)) :
 Calls Tryz.prog 70 #[.pointer (some ⟨bm,0,none⟩)] w fun e w'=>e=.returned (.slice (some ⟨w.heap.size,0,none⟩) (nw P) (nw P))∧w.alloc (.cells (cellsS P 0) 181)=w':=by
 have k0:=mk0
 have k1:=mk1
 by_cases hz:P=0
 · subst hz
   go_enter Tryz.func70,Tryz.ntmps70
   go_wp2_with fail
   go_ret
   exact ⟨rfl,rfl⟩
 · have e1:((P:Int)+64-1) / 64=1:=by omega
   have hn:=hid (show nw P=1 by unfold nw; rw [if_neg hz])
   have hs:=hid (show cellsS P 0=#[.int .u64 0] by unfold cellsS; rw [if_neg hz]; rfl)
   have hp:(1:Int)≤(P:Int):=by omega
   clear hz
   go_enter Tryz.func70,Tryz.ntmps70
   go_wp2_with fail
   go_ret
   exact ⟨by rw [hn.out]; rfl,by rw [hs.out]⟩
theorem ownSet_new (w:World) (P:Nat):OwnSet (w.alloc (.cells (cellsS P 0) 181)) w.heap.size P 0:=⟨Nat.pow_pos (by omega),xN w _⟩
def rootsSet (start:Bool) (ps:List Pt):Nat→List Bool→List Bool
 | 0,B=>B
 | k+1,B=>(rootsSet start ps k B).set (sizes (ps.take k)) start
theorem rootsSet_len (start:Bool) (ps:List Pt) (k:Nat) (B:List Bool):(rootsSet start ps k B).length=B.length:=by
 induction k with
 | zero=>rfl
 | succ k ih=>simp [rootsSet,ih]
theorem rootsSet_get (start:Bool) (ps:List Pt) (B:List Bool) (hB:B.length=sizes ps):∀ (k:Nat),k≤ps.length→∀ j,j<k→(rootsSet start ps k B)[sizes (ps.take j)]? = some start:=by
 intro k
 induction k with
 | zero=>intro _ j hj; omega
 | succ k ih =>
  intro hk j hj
  have hl:=sizes_take_lt ps k (by omega)
  simp only [rootsSet]
  by_cases e:sizes (ps.take j)=sizes (ps.take k)
  · rw [e,List.getElem?_set_self (by rw [rootsSet_len]; omega)]
  · rw [List.getElem?_set_ne (by omega)]
    rcases Nat.lt_or_ge j k with h | h
    · exact ih (by omega) j h
    · exact absurd (by rw [show j=k by omega]) e
theorem set_same {F B:List Bool} {x y:Nat} {v:Bool} (hy:F[y]? = some v) (hl:y<B.length) (h:x=y∨B[x]? = F[x]?):(B.set y v)[x]? = F[x]?:=by
 by_cases e:y=x
 · subst e; rw [List.getElem?_set_self hl,hy]
 · rw [List.getElem?_set_ne e]
   rcases h with h | h
   · exact absurd h.symm e
   · exact h
structure FlagsOk (A:Nat→Bool) (ps:List Pt) (F:List Bool) (i:Nat) (B:List Bool):Prop where
 len:B.length=sizes ps
 roots:∀ k,k<ps.length→B[sizes (ps.take k)]? = F[sizes (ps.take k)]?
 kids:∀ j q b,j<i→NodeAt A ps 0 0 j q b→∀ k,k<q.args.length→B[j+1+sizes (q.args.take k)]? = F[j+1+sizes (q.args.take k)]?
theorem FlagsOk.at_ {A:Nat→Bool} {ps:List Pt} {F:List Bool} {i:Nat} {B:List Bool} (h:FlagsOk A ps F i B) (hr:∀ p∈ps,Right p) (hi:i<sizes ps):B[i]? = F[i]?:=by
 rcases (node_at A (sizes ps) ps 0 0 i (Nat.le_refl _) hr hi).2 with ⟨k,hk,e⟩ | ⟨j,q,b,k,hj,N,hk,e⟩
 · rw [e]; exact h.roots k hk
 · rw [e]; exact h.kids j q b hj N k hk
theorem kidsSet_same {A:Nat→Bool} {o:Int} {qs:List Pt} {b:Nat} {γ:Bool} {i:Nat} {F B:List Bool} (hF:∀ k,k<qs.length→F[i+1+sizes (qs.take k)]? = some (chB A o qs b γ k)) (hl:B.length=F.length):∀ k,k≤qs.length →
 ∀ x,((∃ j,j<k∧x=i+1+sizes (qs.take j))∨B[x]? = F[x]?)→(kidsSet A o qs b γ i k B)[x]? = F[x]?:=by
 intro k
 induction k with
 | zero => intro _ x hx; rcases hx with ⟨j, hj, _⟩ | hx; · omega
           · exact hx
 | succ k ih =>
  intro hk x hx
  simp only [kidsSet]
  have h1:=hF k (by omega)
  have h2:i+1+sizes (qs.take k)<F.length:=by
   rcases Nat.lt_or_ge (i+1+sizes (qs.take k)) F.length with h | h
   · exact h
   · rw [List.getElem?_eq_none h] at h1; cases h1
  refine set_same h1 (by rw [kidsSet_len,hl]; exact h2) ?_
  rcases hx with ⟨j,hj,e⟩ | hx
  · rcases Nat.lt_or_ge j k with h | h
    · exact .inr (ih (by omega) x (.inl ⟨j,h,e⟩))
    · left; rw [e,show j=k by omega]
  · exact .inr (ih (by omega) x (.inr hx))
theorem FlagsOk.step {A:Nat→Bool} {ps:List Pt} {F:List Bool} {i:Nat} {B:List Bool} (h:FlagsOk A ps F i B) (hF:F.length=sizes ps) {q:Pt} {b:Nat} {γ:Bool} (N:NodeAt A ps 0 0 i q b)
 (hk:∀ k,k<q.args.length→F[i+1+sizes (q.args.take k)]? = some (chB A q.op q.args b γ k)):FlagsOk A ps F (i+1) (if q.op=1 then B else kidsSet A q.op q.args b γ i q.args.length B):=by
 have hkey:∀ x,((∃ j,j<q.args.length∧x=i+1+sizes (q.args.take j))∨B[x]? = F[x]?)→(if q.op=1 then B else kidsSet A q.op q.args b γ i q.args.length B)[x]? = F[x]?:=by
  intro x hx
  split
  · rename_i h1
    have:q.args=[]:=by
     have hR:=N.right
     cases hR with
     | mk o l h ps _ hf _ _ =>
      simp only [Pt.op] at h1
      simp [formB,h1] at hf
      simpa [Pt.args] using hf
    rcases hx with ⟨j,hj,_⟩ | hx
    · rw [this] at hj; simp at hj
    · exact hx
  · exact kidsSet_same hk (by rw [h.len,hF]) _ (Nat.le_refl _) x hx
 refine ⟨?_,fun k hk'=>hkey _ (.inr (h.roots k hk')),fun j q' b' hj N' k hk'=>?_⟩
 · split
   · exact h.len
   · rw [kidsSet_len]; exact h.len
 · rcases Nat.lt_or_ge j i with hj2 | hj2
   · exact hkey _ (.inr (h.kids j q' b' hj2 N' k hk'))
   · have:j=i:=by omega
     subst this
     obtain ⟨h1,h2⟩:=kid_same N N' k hk'
     exact hkey _ (.inl ⟨k,h1,by rw [h2]⟩)
theorem opens_take (ns:List Nd) (bs:List Bool) (i:Nat) (x:Nd) (β:Bool) (h1:ns[i]? = some x) (h2:bs[i]? = some β):opens (ns.take (i+1)) (bs.take (i+1))=opens (ns.take i) (bs.take i)++(if x.op=1∧β=true then [x.place] else []):=by
 have l1:i<ns.length:=by
  rcases Nat.lt_or_ge i ns.length with h | h
  · exact h
  · rw [List.getElem?_eq_none h] at h1; cases h1
 have l2:i<bs.length:=by
  rcases Nat.lt_or_ge i bs.length with h | h
  · exact h
  · rw [List.getElem?_eq_none h] at h2; cases h2
 rw [List.getElem?_eq_getElem l1] at h1
 rw [List.getElem?_eq_getElem l2] at h2
 simp only [Option.some.injEq] at h1 h2
 rw [List.take_succ_eq_append_getElem l1,List.take_succ_eq_append_getElem l2,h1,h2,opens_append _ _ _ _ (by rw [List.length_take,List.length_take]; omega)]
 simp [opens]
def openM (A:Nat→Bool) (ps:List Pt) (start:Bool) (i:Nat):Nat:=maskOf (opens ((nodesL ps 0 0).take i) ((bgsW A ps 0 (fun _=>start)).take i))
theorem openM_zero (A:Nat→Bool) (ps:List Pt) (start:Bool):openM A ps start 0=0:=by simp [openM,opens,maskOf]
theorem openM_succ (A:Nat→Bool) (ps:List Pt) (start:Bool) (i:Nat) {q:Pt} {b:Nat} {γ:Bool} (N:NodeAt A ps 0 0 i q b) (hγ:(bgsW A ps 0 (fun _=>start))[i]? = some γ) :
 openM A ps start (i+1)=if q.op=1∧γ=true then openM A ps start i ||| 2 ^ b else openM A ps start i:=by
 unfold openM
 rw [opens_take _ _ i _ γ N.node hγ]
 simp only
 split
 · rw [maskOf_snoc]
 · simp
theorem openM_all (A:Nat→Bool) (ps:List Pt) (start:Bool) (hr:∀ p∈ps,Right p):openM A ps start (sizes ps)=maskOf (opnO A ps 0 start):=by
 unfold openM
 rw [List.take_of_length_le (by rw [nodesL_len]; exact Nat.le_refl _),List.take_of_length_le (by rw [bgsW_len]; exact Nat.le_refl _),opens_nodes A (sizes ps) ps 0 0 _ (Nat.le_refl _) hr,opnW_const]
end Go.Proofs.YtplbacfjmajeeaaGreatDoor
