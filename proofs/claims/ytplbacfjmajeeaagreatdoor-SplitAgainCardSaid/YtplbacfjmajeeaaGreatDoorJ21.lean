import Derived.Test.YtplbacfjmajeeaaGreatDoorJ20
namespace Go.Proofs.YtplbacfjmajeeaaGreatDoor
open Go.Lib (hid)
set_option maxHeartbeats 4000000
set_option maxRecDepth 100000
open Go.RowKit
theorem isNaN_any (x:Int) (w:World):Calls Tryz.prog 125 #[.int .i64 x] w fun e w'=>e=.returned (.bool false)∧w=w':=by
 go_enter Tryz.func125,Tryz.ntmps125
 go_wp2_with fail
 go_ret
 exact ⟨rfl,rfl⟩
theorem less_any (x y:Int) (w:World):Calls Tryz.prog 108 #[.int .i64 x,.int .i64 y] w fun e w'=>e=.returned (.bool (decide (x<y)))∧w=w':=by
 go_enter Tryz.func108,Tryz.ntmps108
 go_wp2_with (go_at_call 125; refine (isNaN_any _ _).mono ?_; rintro e w1 ⟨rfl,rfl⟩)
 go_ret
 exact ⟨rfl,rfl⟩
set_option maxRecDepth 1000000 in
theorem len64_small (n:Nat) (hn:n≤2) (w:World):Calls Tryz.prog 140 #[.int .u64 n] w fun e w'=>(∃ k:Int,e=.returned (.int .i64 k))∧w=w':=by
 have h:n=0∨n=1∨n=2:=by omega
 rcases h with rfl | rfl | rfl
 all_goals
  go_enter Tryz.func140,Tryz.ntmps140
  go_wp2_with fail
  go_ret
  exact ⟨⟨_,rfl⟩,rfl⟩
theorem len_small (n:Nat) (hn:n≤2) (w:World):Calls Tryz.prog 124 #[.int .u64 n] w fun e w'=>(∃ k:Int,e=.returned (.int .i64 k))∧w=w':=by
 go_enter Tryz.func124,Tryz.ntmps124
 go_wp2_with fail
 refine (len64_small n hn _).mono ?_
 rintro e w1 ⟨⟨k,rfl⟩,rfl⟩
 go_wp2_with fail
 go_ret
 exact ⟨⟨_,rfl⟩,rfl⟩
def zeros (n:Nat):List Int:=List.replicate n 0
def Quiet0 (w:World) (e:Ending) (w':World):Prop:=e=.returned (.tuple #[])∧w.grownBy w' none
theorem less_q (x y:Int) (w:World):Calls Tryz.prog 108 #[.int .i64 x,.int .i64 y] w fun e w'=>e=.returned (.bool (decide (x<y)))∧w'=w:=(less_any x y w).mono fun _ _ ⟨h1,h2⟩=>⟨h1,h2.symm⟩
theorem isort_z (n:Nat) (hn:n≤2) (v:Value) (w:World) (h:Ints w v (zeros n)):Calls Tryz.prog 131 #[v,.int .i64 0,.int .i64 n] w (Quiet0 w):=by
 have hz:n=0∨n=1∨n=2:=by omega
 obtain ⟨a,c,rfl,hc⟩:=h.elem
 rcases hz with rfl | rfl | rfl
 · clear hc h
   go_enter Tryz.func131,Tryz.ntmps131
   go_wp2_with fail
   refine wp_loop_rounds 1 ?_
   rw [rounds_succ]
   go_wp2_with fail
   go_end0
   exact ⟨rfl,grow_self w⟩
 · clear hc h
   go_enter Tryz.func131,Tryz.ntmps131
   go_wp2_with fail
   refine wp_loop_rounds 1 ?_
   rw [rounds_succ]
   go_wp2_with fail
   go_end0
   exact ⟨rfl,grow_self w⟩
 · obtain ⟨g,o,rfl,h0⟩:=hc 0 (by decide)
   obtain ⟨g',o',e,h1⟩:=hc 1 (by decide)
   simp only [Option.some.injEq,Addr.mk.injEq,and_true] at e
   obtain ⟨rfl,rfl⟩:=e
   simp only [zeros,List.replicate,List.getD_cons_zero,List.getD_cons_succ,Nat.add_zero] at h0 h1
   clear hc h
   rw [show (zeros 2).length=2 from rfl]
   go_enter Tryz.func131,Tryz.ntmps131
   go_wp2_with fail
   refine wp_loop_rounds 2 ?_
   rw [rounds_succ]
   go_wp2_with fail
   refine wp_loop_rounds 1 ?_
   rw [rounds_succ]
   go_wp2_with fail
   go_quiet ((go_at_call 108; exact Calls.quiet_of_same (less_q _ _ _)))
   go_wp2_with fail
   rw [rounds_succ]
   go_wp2_with fail
   go_end0
   exact ⟨rfl,⟨rfl,rfl,rfl,Nat.le_refl _,fun _ _ _=>rfl⟩⟩
theorem pdq_z (n:Nat) (hn:n≤2) (v:Value) (k:Int) (w:World) (h:Ints w v (zeros n)):Calls Tryz.prog 123 #[v,.int .i64 0,.int .i64 n,.int .i64 k] w (Quiet0 w):=by
 have H:=hid (isort_z n hn v w h)
 have h1:(0:Int)≤n:=by omega
 have h2:(n:Int)≤12:=by omega
 obtain ⟨a,c,rfl,_⟩:=h
 go_enter Tryz.func123,Tryz.ntmps123
 go_wp2_with fail
 refine wp_loop_rounds 1 ?_
 rw [rounds_succ]
 go_wp2_with fail
 refine H.out.mono ?_
 rintro e w1 ⟨rfl,g1⟩
 go_wp2_with fail
 go_end0
 exact ⟨rfl,g1⟩
theorem sort_z (n:Nat) (hn:n≤2) (v:Value) (w:World) (h:Ints w v (zeros n)):Calls Tryz.prog 106 #[v] w (Quiet0 w):=by
 have H:=hid (fun k=>pdq_z n hn v k w h)
 have hl:(zeros n).length=n:=by simp [zeros]
 obtain ⟨a,c,rfl,_⟩:=h
 rw [hl] at H ⊢
 clear hl
 have h1:(0:Int)≤n:=by omega
 have h2:(n:Int)≤2:=by omega
 go_enter Tryz.func106,Tryz.ntmps106
 go_wp2_with fail
 refine (len_small n hn _).mono ?_
 rintro e w1 ⟨⟨k,rfl⟩,rfl⟩
 go_wp2_with fail
 refine (H.out k).mono ?_
 rintro e w1 ⟨rfl,g1⟩
 go_wp2_with fail
 go_end0
 exact ⟨rfl,g1⟩
theorem run_clear_one (w:World) (g:Nat) (cur:Array Value) (hg:w.heap[g]? = some (.cells cur 3 (0,0))) (h0:cur[0]? = some (.int .i64 0)) (hs:2≤cur.size) :
 ∃ w',(∀ (c:Nat) (ty:TypeId),(Builtin.clear_ #[22] ty #[.slice (some ⟨g,1,none⟩) 1 c]).run Tryz.prog w=.ok (.tuple #[]) w')∧w'.cell? ⟨g,0,none⟩=some (.int .i64 0)∧w.grownBy w' (some g):=by
 obtain ⟨i,hi,hz,hsz,hby⟩:=info3n
 have hr:=run_storeCells_at Tryz.prog g 1 3 [.int .i64 0] 0 cur w hg (by simpa using hs) (by simp [Value.oneCell'])
 have hc:(w.setRow g (cur.toList.take (1+0)++[Value.int .i64 0]++cur.toList.drop (1+0+[Value.int .i64 0].length)).toArray).cell? ⟨g,0,none⟩=some (.int .i64 0):=by
  rw [xC (setRow_heap w g cur _ 3 _ hg)]
  simp only [xGe]
  rw [List.append_assoc,List.getElem?_append_left (by simp; omega)]
  simpa using h0
 have hgr:w.grownBy (w.setRow g (cur.toList.take (1+0)++[Value.int .i64 0]++cur.toList.drop (1+0+[Value.int .i64 0].length)).toArray) (some g) :=
  ⟨rfl,rfl,rfl,by simp,fun k _ hk=>setRow_other w g k _ (fun e=>hk (by simp [e]))⟩
 refine ⟨_,fun c ty=>?_,hc,hgr⟩
 have hzc:(Builtin.zeroCells #[Value.int .i64 0] 1).toList=[.int .i64 0]:=by simp [Builtin.zeroCells]
 simp only [Builtin.clear_,zeroValue,typeInfo]
 simp [run_underlying Tryz.underlying22,hi,hz,Value.cells,hzc,hr]
theorem compact_z (n:Nat) (hn:n≤2) (v:Value) (w:World) (base:Nat) (h:w.ownsRow base 3 1 v n (intC (zeros n))) :
 Calls Tryz.prog 107 #[v] w fun e w'=>∃ v',e=.returned v'∧Ints w' v' (zeros (min n 1))∧w.grownBy w' v.ownBlock:=by
 have hz:n=0∨n=1∨n=2:=by omega
 have hi:=Ints.of_own h
 rcases hz with rfl | rfl | rfl
 · obtain ⟨a,c,rfl⟩:=yos h
   go_enter Tryz.func107,Tryz.ntmps107
   go_wp2_with fail
   go_ret
   exact ⟨_,rfl,hi,⟨rfl,rfl,rfl,Nat.le_refl _,fun _ _ _=>rfl⟩⟩
 · obtain ⟨a,c,rfl⟩:=yos h
   go_enter Tryz.func107,Tryz.ntmps107
   go_wp2_with fail
   go_ret
   exact ⟨_,rfl,hi,⟨rfl,rfl,rfl,Nat.le_refl _,fun _ _ _=>rfl⟩⟩
 · obtain ⟨g,cap,rfl,hb,hc⟩:=yoe h (by omega)
   have h0:=hc 0 (.int .i64 0) rfl
   have h1:=hc 1 (.int .i64 0) rfl
   obtain ⟨_,cs,hcs⟩:=yob h g rfl
   obtain ⟨f0,f1⟩:=fb2 hcs
   have hcsz:2≤cs.size:=by
    have:=h1; rw [xC hcs] at this
    rcases Nat.lt_or_ge 1 cs.size with h | h
    · omega
    · rw [Array.getElem?_eq_none h] at this; cases this
   have hcap:2≤cap:=by
    rcases h.2 with ⟨e,_⟩ | ⟨_,_,_,e,_,_,hle,_⟩
    · cases e
    · simp only [Value.slice.injEq] at e; omega
   have hcl:=hid (fun n=>run_clear_one (w.drewN n) g cs (by simpa using hcs) (by rw [← xC hcs 0]; exact h0) hcsz)
   clear hc h hi hcs
   have hcap2:(2:Int)≤cap:=by omega
   go_enter Tryz.func107,Tryz.ntmps107
   go_wp2_with fail
   refine wp_loop_rounds 1 ?_
   rw [rounds_succ]
   go_wp2_with fail
   go_quiet (fail)
   obtain ⟨w1,hrun,hc1,hg1⟩:=hcl.out nq
   have HC:=hid hc1
   have HG:=hid (show w.grownBy w1 (some g) from ⟨hg1.os,hg1.tape,hg1.output,hg1.size,hg1.block⟩)
   clear hc1 hg1
   go_wp2_with fail
   refine wp_loop_rounds 1 ?_
   rw [rounds_succ]
   go_wp2_with fail
   go_ret
   exact ⟨_,rfl,⟨_,_,rfl,.inr ⟨g,0,rfl,fun j u hj=>by cases j with
    | zero=>simp [intC,zeros] at hj; rw [← hj]; exact HC.out
    | succ j=>simp [intC,zeros] at hj⟩⟩,HG.out⟩
mutual
theorem PtAt.stays {w w':World} (g:∀ b off v,At4 w b off v→At4 w' b off v):(p:Pt)→(v:Value)→PtAt w p v→PtAt w' p v
 | .mk o l h ps,v,hp=>by
  obtain ⟨av,cap,hv,ha⟩:=hp
  refine ⟨av,cap,hv,?_⟩
  rcases ha with ha | ⟨b,off,hb,ha⟩
  · exact .inl ha
  · exact .inr ⟨b,off,hb,PtsAt.stays g ps b off ha⟩
theorem PtsAt.stays {w w':World} (g:∀ b off v,At4 w b off v→At4 w' b off v):(ps:List Pt)→(b off:Nat)→PtsAt w ps b off→PtsAt w' ps b off
 | [],_,_,_=>trivial
 | a::ps,b,off,h=>⟨by obtain ⟨v,h1,h2⟩:=h.1; exact ⟨v,g _ _ _ h1,PtAt.stays g a v h2⟩,PtsAt.stays g ps b (off+4) h.2⟩
end
def NumAt (w:World) (b:Nat) (m:Int):Prop:=w.heap[b]? = some (.cells #[.int .i64 m] 3 (0,0))
theorem At4.num {w w':World} {b mb off:Nat} {m:Int} {v:Value} (h:At4 w b off v) (hm:NumAt w mb m) (g:w.grownBy w' (some mb)):At4 w' b off v:=by
 obtain ⟨c0,c1,c2,c3,rfl,h0,h1,h2,h3⟩:=h
 have hb:b≠mb:=by
  rintro rfl
  rw [xC hm (off+1)] at h1
  simp at h1
 have hc:∀ (o:Nat) (u:Value),w.cell? ⟨b,o,none⟩=some u→w'.cell? ⟨b,o,none⟩=some u:=by
  intro o u hu
  exact g.cell hu (by simpa using hb)
 exact ⟨c0,c1,c2,c3,rfl,hc _ _ h0,hc _ _ h1,hc _ _ h2,hc _ _ h3⟩
theorem NumAt.cell {w:World} {b:Nat} {m:Int} (h:NumAt w b m):w.cell? ⟨b,0,none⟩=some (.int .i64 m):=by rw [xC h 0]; rfl
theorem form_ways (o l hi:Int) (n:Nat) (ho:1≤o∧o≤4) (t4:formB o l hi n=false):(o=1∧0<n)∨(o=2∧n=1)∨(o=2∧n≠1∧l≠0)∨(o=2∧n≠1∧l=0∧hi≠0)∨(o=3∧n<2)∨(o=3∧2≤n∧l≠0)∨(o=3∧2≤n∧l=0∧hi≠0)∨(o=4∧n≠1)∨(o=4∧n=1∧l≠0)∨(o=4∧n=1∧l=0∧hi≠0):=by
 have h4:o=1∨o=2∨o=3∨o=4:=by omega
 unfold formB at t4
 rcases h4 with h | h | h | h
 · rw [if_pos h] at t4; simp only [decide_eq_false_iff_not] at t4; omega
 · rw [if_neg (by omega),if_pos h] at t4; simp only [Bool.and_eq_false_iff,decide_eq_false_iff_not] at t4; omega
 · rw [if_neg (by omega),if_neg (by omega),if_pos h] at t4; simp only [Bool.and_eq_false_iff,decide_eq_false_iff_not] at t4; omega
 · rw [if_neg (by omega),if_neg (by omega),if_neg (by omega)] at t4; simp only [Bool.and_eq_false_iff,decide_eq_false_iff_not] at t4; omega
theorem form_pass (o l hi:Int) (n:Nat) (ho:1≤o∧o≤4) (t4:formB o l hi n=true):(o=1∧n=0)∨(o=2∧n≠1∧l=0∧hi=0)∨(o=3∧2≤n∧l=0∧hi=0)∨(o=4∧n=1∧l=0∧hi=0):=by
 have h4:o=1∨o=2∨o=3∨o=4:=by omega
 unfold formB at t4
 rcases h4 with h | h | h | h
 · rw [if_pos h] at t4; simp only [decide_eq_true_eq] at t4; omega
 · rw [if_neg (by omega),if_pos h] at t4; simp only [Bool.and_eq_true,decide_eq_true_eq] at t4; omega
 · rw [if_neg (by omega),if_neg (by omega),if_pos h] at t4; simp only [Bool.and_eq_true,decide_eq_true_eq] at t4; omega
 · rw [if_neg (by omega),if_neg (by omega),if_neg (by omega)] at t4; simp only [Bool.and_eq_true,decide_eq_true_eq] at t4; omega
theorem inB_iff (n lo hi:Int):inB n lo hi=true↔lo≤n∧n≤hi:=by simp [inB]
def CntPost (w:World) (mb:Nat) (m:Int) (p:Pt) (d:Int) (e:Ending) (w':World):Prop :=
 e=.returned (.int .i64 (p.fault d))∧w.grownBy w' (some mb)∧∃ m':Int,NumAt w' mb m'∧(p.fault d=0→m'=m+p.size)
theorem refFault_any (p:Pt):∀ (v:Value) (w:World) (d m:Int) (mb:Nat),0≤d→d+p.size≤1000000→0≤m→m+p.size≤2000000→PtAt w p v→NumAt w mb m→Calls Tryz.prog 43 #[v,.int .i64 d,.pointer (some ⟨mb,0,none⟩)] w (CntPost w mb m p d):=by
 induction p using Pt.ind with
 | h o l hi ps ih =>
  intro v w d m mb hd hs hm0 hm1 hp hN
  obtain ⟨av,cap,rfl,ha⟩:=hp
  simp only [Pt.size] at hs hm1
  have hlen:=len_sizes ps
  have HA:=hid ha
  have HNM:=hid hN
  have cm:∀ o,(w.alloc o).cell? ⟨mb,0,none⟩=some (.int .i64 m):=fun o=>ycg hN.cell (xG w o none)
  have fm:∀ o,(w.alloc o).frozen? ⟨mb,0,none⟩=false:=fun o=>yfb (grow_new (xG w o none) hN) 0
  clear ha hN
  have G1:w.grownBy ((w.alloc (.cells #[.int .i64 o,.int .i64 l,.int .i64 hi,.slice av ps.length cap] 28)).setCell ⟨mb,0,none⟩ (.int .i64 (m+1))) (some mb):=xT (xG _ _ _) (grow_cell 0 _)
  have N1:NumAt ((w.alloc (.cells #[.int .i64 o,.int .i64 l,.int .i64 hi,.slice av ps.length cap] 28)).setCell ⟨mb,0,none⟩ (.int .i64 (m+1))) mb (m+1):=by
   unfold NumAt
   rw [yhs (grow_new (xG w _ none) HNM.out) 0 _]; rfl
  have hmb:mb<w.heap.size:=xL HNM.out
  have BX:=(Below.heap_setCell (w.alloc (.cells #[.int .i64 o,.int .i64 l,.int .i64 hi,.slice av ps.length cap] 28)) ⟨mb,0,none⟩ (.int .i64 (m+1)) w.heap.size (by simp; omega)).trans (xN w _)
  obtain ⟨bx0,bx1,bx2,bx3⟩:=cb4 BX
  clear BX hmb
  have HG1:=hid G1
  have HN1:=hid N1
  clear G1 N1
  have hlp:(0:Int)≤ps.length:=by omega
  by_cases t1:30<d
  · have H:=hid (show (Pt.mk o l hi ps).fault d=2 by simp [Pt.fault,t1])
    go_enter Tryz.func43,Tryz.ntmps43
    go_wp2_with fail
    go_ret
    exact ⟨ret_i64 (by rw [H.out]),HG1.out,_,HN1.out,fun h=>by rw [H.out] at h; cases h⟩
  by_cases t2:inB o 1 4=false
  · have H:=hid (show (Pt.mk o l hi ps).fault d=4 by rw [Pt.fault,if_neg t1,if_pos (by rw [← inB_iff]; simp [t2])])
    go_enter Tryz.func43,Tryz.ntmps43
    go_wp2_with fail
    refine (in_any _ _ _ _).mono ?_
    rintro e w1 ⟨rfl,rfl⟩
    rw [t2]
    go_wp2_with fail
    go_ret
    exact ⟨ret_i64 (by rw [H.out]),HG1.out,_,HN1.out,fun h=>by rw [H.out] at h; cases h⟩
  have t2b:inB o 1 4=true:=by simpa using t2
  have ho:=(inB_iff o 1 4).1 t2b
  by_cases t4:formB o l hi ps.length=false
  · have H:=hid (show (Pt.mk o l hi ps).fault d=3 by rw [Pt.fault,if_neg t1,if_neg (by omega),if_pos t4])
    have hway:=form_ways o l hi ps.length (by omega) t4
    clear t4 t2
    rcases hway with ⟨rfl,h1⟩ | ⟨rfl,h1⟩ | ⟨rfl,h1,h2⟩ | ⟨rfl,h1,rfl,h3⟩ | ⟨rfl,h1⟩ | ⟨rfl,h1,h2⟩ | ⟨rfl,h1,rfl,h3⟩ | ⟨rfl,h1⟩ | ⟨rfl,h1,h2⟩ | ⟨rfl,h1,rfl,h3⟩
    · have e0:(0:Int)<ps.length:=by omega
      clear h1
      go_enter Tryz.func43,Tryz.ntmps43
      go_wp2_with fail
      refine (in_any _ _ _ _).mono ?_
      rintro e w1 ⟨rfl,rfl⟩
      rw [t2b]
      go_wp2_with fail
      go_ret
      exact ⟨ret_i64 (by rw [H.out]),HG1.out,_,HN1.out,fun h=>by rw [H.out] at h; cases h⟩
    · rw [h1] at bx0 bx1 bx2 bx3 HG1 HN1 ⊢
      go_enter Tryz.func43,Tryz.ntmps43
      go_wp2_with (go_at_call 62; refine (in_any _ _ _ _).mono ?_; rintro e w1 ⟨rfl,rfl⟩)
      go_ret
      exact ⟨ret_i64 (by rw [H.out]),HG1.out,_,HN1.out,fun h=>by rw [H.out] at h; cases h⟩
    · have e1:((ps.length:Int) == 1)=false:=by simp; omega
      have e3:((ps.length:Int) != 1)=true:=by simp; omega
      have e4:(l != 0)=true:=by simpa using h2
      go_enter Tryz.func43,Tryz.ntmps43
      go_wp2_with (go_at_call 62; refine (in_any _ _ _ _).mono ?_; rintro e w1 ⟨rfl,rfl⟩)
      go_ret
      exact ⟨ret_i64 (by rw [H.out]),HG1.out,_,HN1.out,fun h=>by rw [H.out] at h; cases h⟩
    · have e1:((ps.length:Int) == 1)=false:=by simp; omega
      have e3:((ps.length:Int) != 1)=true:=by simp; omega
      have e5:(hi != 0)=true:=by simpa using h3
      go_enter Tryz.func43,Tryz.ntmps43
      go_wp2_with (go_at_call 62; refine (in_any _ _ _ _).mono ?_; rintro e w1 ⟨rfl,rfl⟩)
      go_ret
      exact ⟨ret_i64 (by rw [H.out]),HG1.out,_,HN1.out,fun h=>by rw [H.out] at h; cases h⟩
    · have e2:(ps.length:Int)<2:=by omega
      go_enter Tryz.func43,Tryz.ntmps43
      go_wp2_with (go_at_call 62; refine (in_any _ _ _ _).mono ?_; rintro e w1 ⟨rfl,rfl⟩)
      go_ret
      exact ⟨ret_i64 (by rw [H.out]),HG1.out,_,HN1.out,fun h=>by rw [H.out] at h; cases h⟩
    · have e2:¬ (ps.length:Int)<2:=by omega
      have e4:(l != 0)=true:=by simpa using h2
      go_enter Tryz.func43,Tryz.ntmps43
      go_wp2_with (go_at_call 62; refine (in_any _ _ _ _).mono ?_; rintro e w1 ⟨rfl,rfl⟩)
      go_ret
      exact ⟨ret_i64 (by rw [H.out]),HG1.out,_,HN1.out,fun h=>by rw [H.out] at h; cases h⟩
    · have e2:¬ (ps.length:Int)<2:=by omega
      have e5:(hi != 0)=true:=by simpa using h3
      go_enter Tryz.func43,Tryz.ntmps43
      go_wp2_with (go_at_call 62; refine (in_any _ _ _ _).mono ?_; rintro e w1 ⟨rfl,rfl⟩)
      go_ret
      exact ⟨ret_i64 (by rw [H.out]),HG1.out,_,HN1.out,fun h=>by rw [H.out] at h; cases h⟩
    · have e1:((ps.length:Int) == 1)=false:=by simp; omega
      have e3:((ps.length:Int) != 1)=true:=by simp; omega
      go_enter Tryz.func43,Tryz.ntmps43
      go_wp2_with (go_at_call 62; refine (in_any _ _ _ _).mono ?_; rintro e w1 ⟨rfl,rfl⟩)
      go_ret
      exact ⟨ret_i64 (by rw [H.out]),HG1.out,_,HN1.out,fun h=>by rw [H.out] at h; cases h⟩
    · rw [h1] at bx0 bx1 bx2 bx3 HG1 HN1 ⊢
      have e4:(l != 0)=true:=by simpa using h2
      go_enter Tryz.func43,Tryz.ntmps43
      go_wp2_with (go_at_call 62; refine (in_any _ _ _ _).mono ?_; rintro e w1 ⟨rfl,rfl⟩)
      go_ret
      exact ⟨ret_i64 (by rw [H.out]),HG1.out,_,HN1.out,fun h=>by rw [H.out] at h; cases h⟩
    · rw [h1] at bx0 bx1 bx2 bx3 HG1 HN1 ⊢
      have e5:(hi != 0)=true:=by simpa using h3
      go_enter Tryz.func43,Tryz.ntmps43
      go_wp2_with (go_at_call 62; refine (in_any _ _ _ _).mono ?_; rintro e w1 ⟨rfl,rfl⟩)
      go_ret
      exact ⟨ret_i64 (by rw [H.out]),HG1.out,_,HN1.out,fun h=>by rw [H.out] at h; cases h⟩
  have t4b:formB o l hi ps.length=true:=by simpa using t4
  have hway:=form_pass o l hi ps.length (by omega) t4b
  have T4n:=hid t4
  by_cases t5:inB l 0 255=false∨inB hi l 255=false
  · have H:=hid (show (Pt.mk o l hi ps).fault d=1 by
     rw [Pt.fault,if_neg t1,if_neg (by omega),if_neg T4n.out,if_pos (by
      intro hh
      rcases t5 with t5 | t5
      · rw [(inB_iff l 0 255).2 (by omega)] at t5; cases t5
      · rw [(inB_iff hi l 255).2 (by omega)] at t5; cases t5)])
    have hz:o=1∧ps.length=0:=by
     rcases hway with h | ⟨_,_,rfl,rfl⟩ | ⟨_,_,rfl,rfl⟩ | ⟨_,_,rfl,rfl⟩
     · exact h
     all_goals (rcases t5 with t5 | t5<;>simp [inB] at t5)
    obtain ⟨rfl,hn0⟩:=hz
    clear hway t4 t4b t2
    rw [hn0] at bx0 bx1 bx2 bx3 HG1 HN1 ⊢
    rcases hb:inB l 0 255 with _ | _
    · clear t5
      go_enter Tryz.func43,Tryz.ntmps43
      go_wp2_with fail
      refine (in_any _ _ _ _).mono ?_
      rintro e w1 ⟨rfl,rfl⟩
      rw [t2b]
      go_wp2_with fail
      refine (in_any _ _ _ _).mono ?_
      rintro e w1 ⟨rfl,rfl⟩
      rw [hb]
      go_wp2_with fail
      go_ret
      exact ⟨ret_i64 (by rw [H.out]),HG1.out,_,HN1.out,fun h=>by rw [H.out] at h; cases h⟩
    · have hb2 : inB hi l 255 = false := by rcases t5 with t5 | t5; · rw [hb] at t5; cases t5
                                            · exact t5
      clear t5
      go_enter Tryz.func43,Tryz.ntmps43
      go_wp2_with fail
      refine (in_any _ _ _ _).mono ?_
      rintro e w1 ⟨rfl,rfl⟩
      rw [t2b]
      go_wp2_with fail
      refine (in_any _ _ _ _).mono ?_
      rintro e w1 ⟨rfl,rfl⟩
      rw [hb]
      go_wp2_with fail
      refine (in_any _ _ _ _).mono ?_
      rintro e w1 ⟨rfl,rfl⟩
      rw [hb2]
      go_wp2_with fail
      go_ret
      exact ⟨ret_i64 (by rw [H.out]),HG1.out,_,HN1.out,fun h=>by rw [H.out] at h; cases h⟩
  · have b2 : inB l 0 255 = true := by rcases h : inB l 0 255 with _ | _; · exact absurd (.inl h) t5
                                       · rfl
    have b3 : inB hi l 255 = true := by rcases h : inB hi l 255 with _ | _; · exact absurd (.inr h) t5
                                        · rfl
    have H:=hid (show (Pt.mk o l hi ps).fault d=faults ps (d+1) by
     have c2:=(inB_iff l 0 255).1 b2
     have c3:=(inB_iff hi l 255).1 b3
     rw [Pt.fault,if_neg t1,if_neg (by omega),if_neg T4n.out,if_neg (by omega)])
    clear t5 t4 t4b t2
    rcases hway with ⟨rfl,h1⟩ | ⟨rfl,h1,rfl,rfl⟩ | ⟨rfl,h1,rfl,rfl⟩ | ⟨rfl,h1,rfl,rfl⟩
    · have hnil:=List.eq_nil_of_length_eq_zero h1
      have HNL:=hid hnil
      rw [h1] at bx0 bx1 bx2 bx3 HG1 HN1 ⊢
      clear hnil h1
      go_enter Tryz.func43,Tryz.ntmps43
      go_wp2_with fail
      refine (in_any _ _ _ _).mono ?_
      rintro e w1 ⟨rfl,rfl⟩
      rw [t2b]
      go_wp2_with fail
      refine (in_any _ _ _ _).mono ?_
      rintro e w1 ⟨rfl,rfl⟩
      rw [b2]
      go_wp2_with fail
      refine (in_any _ _ _ _).mono ?_
      rintro e w1 ⟨rfl,rfl⟩
      rw [b3]
      go_wp2_with fail
      refine wp_loop_rounds 1 ?_
      rw [rounds_succ]
      go_wp2_with fail
      go_ret
      exact ⟨ret_i64 (by rw [H.out,HNL.out]; rfl),HG1.out,_,HN1.out,fun _=>by rw [Pt.size,HNL.out]; simp [sizes]⟩
    · have e1:((ps.length:Int) == 1)=false:=by simp; omega
      have e3:((ps.length:Int) != 1)=true:=by simp; omega
      clear h1
      go_enter Tryz.func43,Tryz.ntmps43
      go_wp2_with fail
      refine (in_any _ _ _ _).mono ?_
      rintro e w1 ⟨rfl,rfl⟩
      rw [t2b]
      go_wp2_with fail
      refine (in_any _ _ _ _).mono ?_
      rintro e w1 ⟨rfl,rfl⟩
      rw [b2]
      go_wp2_with fail
      refine (in_any _ _ _ _).mono ?_
      rintro e w1 ⟨rfl,rfl⟩
      rw [b3]
      go_wp2_with fail
      generalize (w.alloc _).setCell _ _=w5 at HG1 HN1 ⊢
      clear bx0 bx1 bx2 bx3 cm fm
      go_loopw [85] (fun i wr=>∃ (j:Nat) (mj:Int),j≤ps.length∧i=.int .i64 j∧Hid (faults ps (d+1)=faults (ps.drop j) (d+1))∧Hid (w.grownBy wr (some mb))∧Hid (NumAt wr mb mj)∧Hid (mj=m+1+sizes (ps.take j))) (fun i _=>ps.length-(intOf i).toNat)
      case atStart=>exact ⟨0,m+1,Nat.zero_le _,rfl,hid rfl,HG1,HN1,hid (by simp [sizes])⟩
      case round =>
       obtain ⟨j,mj,hj,rfl,HF,HG,HM,HMJ⟩:=hrel
       by_cases hlt:j<ps.length
       · have hA2:ps=[]∨∃ b off,av=some ⟨b,off,none⟩∧PtsAt wr ps b off:=HA.out.imp id (fun ⟨b,off,h1,h2⟩=>⟨b,off,h1,PtsAt.stays (fun _ _ _ h=>h.num HNM.out HG.out) _ _ _ h2⟩)
         obtain ⟨b,off,xo,xl,xh,xa,xn,xc,rfl,h0,h1,h2,h3,hq⟩:=PtAt.elem hA2 j hlt
         have hle:ps[j].size≤sizes ps:=size_le_sizes ps _ (List.getElem_mem hlt)
         have hst:=sizes_take ps j hlt
         have hst2:=sizes_take_le ps (j+1)
         have hcons:ps.drop j=ps[j]::ps.drop (j+1):=List.drop_eq_getElem_cons hlt
         have HF2:=hid (HF.out.trans (by rw [hcons,faults]))
         have H2:=hid (ih ps[j] (List.getElem_mem hlt))
         have hq2:=PtAt.grow (xG wr (.cells #[.int .i64 xo,.int .i64 xl,.int .i64 xh,.slice xa xn xc] 28) none) _ _ hq
         have hN2:NumAt (wr.alloc (.cells #[.int .i64 xo,.int .i64 xl,.int .i64 xh,.slice xa xn xc] 28)) mb mj:=grow_new (xG wr _ none) HM.out
         have HW2:=hid (show w.grownBy (wr.alloc (.cells #[.int .i64 xo,.int .i64 xl,.int .i64 xh,.slice xa xn xc] 28)) (some mb) from xT HG.out (xG _ _ _))
         have HS2:=hid hst
         have hb1:mj+ps[j].size≤2000000:=by have:=HMJ.out; omega
         have hb2:0≤mj:=by have:=HMJ.out; omega
         have HQ2:=hid hq2
         have HN2:=hid hN2
         clear hcons HF hst hst2 hq hq2 hN2 hA2
         generalize ps[j]=q at H2 HQ2 hle HF2 HS2 hb1
         by_cases z:q.fault (d+1)=0
         · have HF3:=hid (HF2.out.trans (if_pos z))
           have Z:=hid z
           clear z HF2
           go_wp2_with fail
           refine (H2.out _ _ (d+1) mj mb (by omega) (by omega) hb2 hb1 HQ2.out HN2.out).mono ?_
           rintro e w6 ⟨rfl,g6,m6,hN6,hm6⟩
           have HM6:=hid (hm6 Z.out)
           have HN6:=hid hN6
           have HG6:=hid (xT HW2.out g6)
           rw [Z.out]
           clear hm6 hN6 g6
           go_wp2_with fail
           go_roundw
           case rel=>exact ⟨j+1,m6,by omega,by go_num,HF3,HG6,HN6,hid (by rw [HM6.out,HMJ.out,HS2.out]; omega)⟩
           case measure=>simp [intOf]; omega
         · have HF3:=hid (HF2.out.trans (if_neg z))
           have zb:(q.fault (d+1) != 0)=true:=by simp [z]
           have Z:=hid z
           clear z HF2
           go_wp2_with fail
           refine (H2.out _ _ (d+1) mj mb (by omega) (by omega) hb2 hb1 HQ2.out HN2.out).mono ?_
           rintro e w6 ⟨rfl,g6,m6,hN6,hm6⟩
           have HN6:=hid hN6
           have HG6:=hid (xT HW2.out g6)
           clear hm6 hN6 g6
           go_wp2_with fail
           go_ret
           exact ⟨ret_i64 (by rw [H.out,HF3.out]),HG6.out,_,HN6.out,fun h=>by rw [H.out,HF3.out] at h; exact absurd h Z.out⟩
       · have HE:=hid (show faults (ps.drop j) (d+1)=0 by rw [List.drop_eq_nil_of_le (by omega)]; rfl)
         have HT:=hid (show ps.take j=ps from List.take_of_length_le (by omega))
         go_wp2_with fail
         go_ret
         exact ⟨ret_i64 (by rw [H.out,HF.out,HE.out]),HG.out,_,HM.out,fun _=>by rw [HMJ.out,HT.out,Pt.size]; omega⟩
    · have e2:¬ (ps.length:Int)<2:=by omega
      clear h1
      go_enter Tryz.func43,Tryz.ntmps43
      go_wp2_with fail
      refine (in_any _ _ _ _).mono ?_
      rintro e w1 ⟨rfl,rfl⟩
      rw [t2b]
      go_wp2_with fail
      refine (in_any _ _ _ _).mono ?_
      rintro e w1 ⟨rfl,rfl⟩
      rw [b2]
      go_wp2_with fail
      refine (in_any _ _ _ _).mono ?_
      rintro e w1 ⟨rfl,rfl⟩
      rw [b3]
      go_wp2_with fail
      generalize (w.alloc _).setCell _ _=w5 at HG1 HN1 ⊢
      clear bx0 bx1 bx2 bx3 cm fm
      go_loopw [85] (fun i wr=>∃ (j:Nat) (mj:Int),j≤ps.length∧i=.int .i64 j∧Hid (faults ps (d+1)=faults (ps.drop j) (d+1))∧Hid (w.grownBy wr (some mb))∧Hid (NumAt wr mb mj)∧Hid (mj=m+1+sizes (ps.take j))) (fun i _=>ps.length-(intOf i).toNat)
      case atStart=>exact ⟨0,m+1,Nat.zero_le _,rfl,hid rfl,HG1,HN1,hid (by simp [sizes])⟩
      case round =>
       obtain ⟨j,mj,hj,rfl,HF,HG,HM,HMJ⟩:=hrel
       by_cases hlt:j<ps.length
       · have hA2:ps=[]∨∃ b off,av=some ⟨b,off,none⟩∧PtsAt wr ps b off:=HA.out.imp id (fun ⟨b,off,h1,h2⟩=>⟨b,off,h1,PtsAt.stays (fun _ _ _ h=>h.num HNM.out HG.out) _ _ _ h2⟩)
         obtain ⟨b,off,xo,xl,xh,xa,xn,xc,rfl,h0,h1,h2,h3,hq⟩:=PtAt.elem hA2 j hlt
         have hle:ps[j].size≤sizes ps:=size_le_sizes ps _ (List.getElem_mem hlt)
         have hst:=sizes_take ps j hlt
         have hst2:=sizes_take_le ps (j+1)
         have hcons:ps.drop j=ps[j]::ps.drop (j+1):=List.drop_eq_getElem_cons hlt
         have HF2:=hid (HF.out.trans (by rw [hcons,faults]))
         have H2:=hid (ih ps[j] (List.getElem_mem hlt))
         have hq2:=PtAt.grow (xG wr (.cells #[.int .i64 xo,.int .i64 xl,.int .i64 xh,.slice xa xn xc] 28) none) _ _ hq
         have hN2:NumAt (wr.alloc (.cells #[.int .i64 xo,.int .i64 xl,.int .i64 xh,.slice xa xn xc] 28)) mb mj:=grow_new (xG wr _ none) HM.out
         have HW2:=hid (show w.grownBy (wr.alloc (.cells #[.int .i64 xo,.int .i64 xl,.int .i64 xh,.slice xa xn xc] 28)) (some mb) from xT HG.out (xG _ _ _))
         have HS2:=hid hst
         have hb1:mj+ps[j].size≤2000000:=by have:=HMJ.out; omega
         have hb2:0≤mj:=by have:=HMJ.out; omega
         have HQ2:=hid hq2
         have HN2:=hid hN2
         clear hcons HF hst hst2 hq hq2 hN2 hA2
         generalize ps[j]=q at H2 HQ2 hle HF2 HS2 hb1
         by_cases z:q.fault (d+1)=0
         · have HF3:=hid (HF2.out.trans (if_pos z))
           have Z:=hid z
           clear z HF2
           go_wp2_with fail
           refine (H2.out _ _ (d+1) mj mb (by omega) (by omega) hb2 hb1 HQ2.out HN2.out).mono ?_
           rintro e w6 ⟨rfl,g6,m6,hN6,hm6⟩
           have HM6:=hid (hm6 Z.out)
           have HN6:=hid hN6
           have HG6:=hid (xT HW2.out g6)
           rw [Z.out]
           clear hm6 hN6 g6
           go_wp2_with fail
           go_roundw
           case rel=>exact ⟨j+1,m6,by omega,by go_num,HF3,HG6,HN6,hid (by rw [HM6.out,HMJ.out,HS2.out]; omega)⟩
           case measure=>simp [intOf]; omega
         · have HF3:=hid (HF2.out.trans (if_neg z))
           have zb:(q.fault (d+1) != 0)=true:=by simp [z]
           have Z:=hid z
           clear z HF2
           go_wp2_with fail
           refine (H2.out _ _ (d+1) mj mb (by omega) (by omega) hb2 hb1 HQ2.out HN2.out).mono ?_
           rintro e w6 ⟨rfl,g6,m6,hN6,hm6⟩
           have HN6:=hid hN6
           have HG6:=hid (xT HW2.out g6)
           clear hm6 hN6 g6
           go_wp2_with fail
           go_ret
           exact ⟨ret_i64 (by rw [H.out,HF3.out]),HG6.out,_,HN6.out,fun h=>by rw [H.out,HF3.out] at h; exact absurd h Z.out⟩
       · have HE:=hid (show faults (ps.drop j) (d+1)=0 by rw [List.drop_eq_nil_of_le (by omega)]; rfl)
         have HT:=hid (show ps.take j=ps from List.take_of_length_le (by omega))
         go_wp2_with fail
         go_ret
         exact ⟨ret_i64 (by rw [H.out,HF.out,HE.out]),HG.out,_,HM.out,fun _=>by rw [HMJ.out,HT.out,Pt.size]; omega⟩
    · obtain ⟨q,hq1⟩:=List.length_eq_one_iff.1 h1
      subst hq1
      have hsq:sizes [q]=q.size:=by simp [sizes]
      have HSQ:=hid hsq
      have HFQ:=hid (show faults [q] (d+1)=q.fault (d+1) by simp only [faults]; split<;>simp_all)
      have H2:=hid (ih q (by simp))
      have hqz:q.size≤sizes [q]:=by omega
      simp only [List.length_singleton] at bx0 bx1 bx2 bx3 HG1 HN1 ⊢
      clear h1 hsq
      go_enter Tryz.func43,Tryz.ntmps43
      go_wp2_with fail
      refine (in_any _ _ _ _).mono ?_
      rintro e w1 ⟨rfl,rfl⟩
      rw [t2b]
      go_wp2_with fail
      refine (in_any _ _ _ _).mono ?_
      rintro e w1 ⟨rfl,rfl⟩
      rw [b2]
      go_wp2_with fail
      refine (in_any _ _ _ _).mono ?_
      rintro e w1 ⟨rfl,rfl⟩
      rw [b3]
      go_wp2_with fail
      generalize (w.alloc _).setCell _ _=w5 at HG1 HN1 ⊢
      have hA2:[q]=[]∨∃ b off,av=some ⟨b,off,none⟩∧PtsAt w5 [q] b off:=HA.out.imp id (fun ⟨b,off,h1,h2⟩=>⟨b,off,h1,PtsAt.stays (fun _ _ _ h=>h.num HNM.out HG1.out) _ _ _ h2⟩)
      obtain ⟨b,off,xo,xl,xh,xa,xn,xc,rfl,h0,h1,h2,h3,hq⟩:=PtAt.elem hA2 0 (by simp)
      simp only [Nat.zero_mul,Nat.add_zero,List.getElem_cons_zero] at h0 h1 h2 h3 hq
      have hq2:=PtAt.grow (xG w5 (.cells #[.int .i64 xo,.int .i64 xl,.int .i64 xh,.slice xa xn xc] 28) none) _ _ hq
      have hN2:NumAt (w5.alloc (.cells #[.int .i64 xo,.int .i64 xl,.int .i64 xh,.slice xa xn xc] 28)) mb (m+1):=grow_new (xG w5 _ none) HN1.out
      have HW2:=hid (show w.grownBy (w5.alloc (.cells #[.int .i64 xo,.int .i64 xl,.int .i64 xh,.slice xa xn xc] 28)) (some mb) from xT HG1.out (xG _ _ _))
      have HQ2:=hid hq2
      have HN2:=hid hN2
      clear hq hq2 hN2 hA2 bx0 bx1 bx2 bx3 cm fm
      refine wp_loop_rounds 2 ?_
      rw [rounds_succ]
      go_wp2_with fail
      refine (H2.out _ _ (d+1) (m+1) mb (by omega) (by omega) (by omega) (by omega) HQ2.out HN2.out).mono ?_
      rintro e w6 ⟨rfl,g6,m6,hN6,hm6⟩
      have HM6:=hid hm6
      have HN6:=hid hN6
      have HG6:=hid (xT HW2.out g6)
      clear hm6 hN6 g6
      by_cases z:q.fault (d+1)=0
      · rw [z]
        have Z:=hid z
        clear z
        go_wp2_with fail
        rw [rounds_succ]
        go_wp2_with fail
        go_ret
        exact ⟨ret_i64 (by rw [H.out,HFQ.out,Z.out]),HG6.out,_,HN6.out,fun _=>by rw [HM6.out Z.out,Pt.size,HSQ.out]; omega⟩
      · have zb:(q.fault (d+1) != 0)=true:=by simp [z]
        have Z:=hid z
        clear z
        go_wp2_with fail
        go_ret
        exact ⟨ret_i64 (by rw [H.out,HFQ.out]),HG6.out,_,HN6.out,fun h=>by rw [H.out,HFQ.out] at h; exact absurd h Z.out⟩
theorem refPatFault_any (p:Pt) (v:Value) (w:World) (hs:p.size≤100000) (hp:PtAt w p v):Calls Tryz.prog 10 #[v] w fun e w'=>e=.returned (.int .i64 (patFault p))∧w.grownBy w' none:=by
 have HP:=hid hp
 obtain ⟨o,l,h,as_⟩:=p
 obtain ⟨av,cap,rfl,_⟩:=hp
 generalize hpe:Pt.mk o l h as_=p at hs HP ⊢
 clear hpe
 go_enter Tryz.func10,Tryz.ntmps10
 go_wp2_with fail
 have g0:w.grownBy ((w.alloc (.cells #[.int .i64 o,.int .i64 l,.int .i64 h,.slice av as_.length cap] 28)).alloc (.cells #[.int .i64 0] 3)) none:=yga (xG _ _ _) _
 have hn:NumAt ((w.alloc (.cells #[.int .i64 o,.int .i64 l,.int .i64 h,.slice av as_.length cap] 28)).alloc (.cells #[.int .i64 0] 3)) (w.heap.size+1) 0:=yhn _ _ _ (by simp)
 refine (refFault_any p _ _ 1 0 (w.heap.size+1) (by omega) (by omega) (by omega) (by omega) (PtAt.grow g0 _ _ HP.out) hn).mono ?_
 rintro e w6 ⟨rfl,g6,m6,hN6,hm6⟩
 have HG6:=hid (show w.grownBy w6 none from grow_row g0 g6 (fun k hk=>by (have hkk:w.heap.size+1=k:=(by simpa using hk)); omega))
 have c6:=hN6.cell
 have HM6:=hid hm6
 clear g0 hn g6 hN6 hm6
 by_cases z:p.fault 1=0
 · rw [z]
   have Z:=hid z
   have hm:m6=p.size:=by rw [HM6.out z]; omega
   subst hm
   clear z
   by_cases hb:2000<p.size
   · have H:=hid (show patFault p=2 by unfold patFault; rw [if_pos Z.out,if_pos hb])
     have hb2:(2000:Int)<p.size:=by omega
     go_wp2_with fail
     go_ret
     exact ⟨ret_i64 (by rw [H.out]),HG6.out⟩
   · have H:=hid (show patFault p=0 by unfold patFault; rw [if_pos Z.out,if_neg hb])
     have hb2:¬ (2000:Int)<p.size:=by omega
     go_wp2_with fail
     go_ret
     exact ⟨ret_i64 (by rw [H.out]),HG6.out⟩
 · have zb:(p.fault 1 != 0)=true:=by simp [z]
   have H:=hid (show patFault p=p.fault 1 by unfold patFault; rw [if_neg z])
   clear z
   go_wp2_with fail
   go_ret
   exact ⟨ret_i64 (by rw [H.out]),HG6.out⟩
end Go.Proofs.YtplbacfjmajeeaaGreatDoor
