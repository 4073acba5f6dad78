import Derived.Test.YtplbacfjmajeeaaGreatDoorJ45
namespace Go.Proofs.YtplbacfjmajeeaaGreatDoor
open Go.Lib (hid)
set_option maxHeartbeats 4000000
set_option maxRecDepth 100000
open Go.RowKit
def RdPost (X:Nat) (s:ByteArray) (w:World) (a2:Nat) (w':World):Prop:=RdAt w' X s a2∧w.grownBy w' (some X)
def nxt (s:ByteArray) (a:Nat):Nat:=if pk s a=92∧a+2<s.size then a+3 else a+1
def ROnePost (X:Nat) (s:ByteArray) (a:Nat) (w:World) (e:Ending) (w':World):Prop:=∃ (c:Nat) (ok:Bool) (a2:Nat),e=.returned (.tuple #[.int .i64 c,.bool ok])∧c≤255∧a2=nxt s a∧RdPost X s w a2 w'
def EscOk (s:ByteArray):Prop:=∀ a,pk s a=92→a+2<s.size→HexOk (s.extract (a+1) (a+3))
theorem RdAt.drewN {w:World} {X:Nat} {s:ByteArray} {a:Nat} (h:RdAt w X s a) (k:Nat):RdAt (w.drewN k) X s a:=h
theorem RdAt.grow {w w':World} {X:Nat} {s:ByteArray} {a:Nat} (h:RdAt w X s a) (g:w.grownBy w' none):RdAt w' X s a:=grow_new g h
theorem RdAt.step {w:World} {X:Nat} {s:ByteArray} {a:Nat} (h:RdAt w X s a) (n:Nat):RdPost X s w n (w.setCell ⟨X,1,none⟩ (.int .i64 n)):=by
 refine ⟨?_,grow_cell 1 _⟩
 unfold RdAt
 have b:=yhs h 1 (.int .i64 n)
 simp only [xSi,xSs,xSz] at b
 exact b
theorem grow_row2 {w w1 w2:World} {r:Option Nat} (h:w.grownBy w1 none) (g:w1.grownBy w2 r):w.grownBy w2 r:=⟨g.os.trans h.os,g.tape.trans h.tape,g.output.trans h.output,Nat.le_trans h.size g.size,fun b hb hr=>(g.block b (Nat.lt_of_lt_of_le hb h.size) hr).trans (h.block b hb (by simp))⟩
theorem grow_row3 {w w1 w2:World} {r:Option Nat} (h:w.grownBy w1 r) (g:w1.grownBy w2 none):w.grownBy w2 r:=⟨g.os.trans h.os,g.tape.trans h.tape,g.output.trans h.output,Nat.le_trans h.size g.size,fun b hb hr=>(g.block b (Nat.lt_of_lt_of_le hb h.size) (by simp)).trans (h.block b hb hr)⟩
theorem conv_grown {w w':World} {x:Int} (g:(w.alloc (.cells #[.int .u8 x] 5)).grownBy w' none):(convert 111 9 (.slice (some ⟨w.heap.size,0,none⟩) 1 1)).run Tryz.prog w'=.ok (.string (strOfNums [x])) w' :=
 run_convert_bytes_arg (P:=Tryz.prog) _ 111 5 Tryz.underlying111 Tryz.underlying5 w.heap.size 0 1 1 [x] rfl (fun i hi=>by
  rw [Nat.zero_add,xC (grow_new g (xN w _)) i]
  match i,hi with
  | 0,_=>rfl) 9 Tryz.underlying9
theorem hid_drew1 {w:World} {X:Nat} {s:ByteArray} {a:Nat} (h:Hid (RdAt w X s a)):Hid (RdAt w.drew X s a):=h
theorem hid_drew2 {w w':World} {r:Option Nat} (h:Hid (w.grownBy w' r)):Hid (w.grownBy w'.drew r):=hid (grow_drew2 h.out)
theorem hid_alloc1 {w:World} {X:Nat} {s:ByteArray} {a:Nat} {o:Obj} (h:Hid (RdAt w X s a)):Hid (RdAt (w.alloc o) X s a):=hid (h.out.grow (xG _ _ _))
theorem hid_alloc2 {w w':World} {r:Option Nat} {o:Obj} (h:Hid (w.grownBy w' r)):Hid (w.grownBy (w'.alloc o) r):=hid (grow_row3 h.out (xG _ _ _))
theorem readOne_any (X:Nat) (s:ByteArray) (a:Nat) (w:World) (h:RdAt w X s a) (hE:EscOk s) (_:s.size≤100) (ha:a≤200):Calls Tryz.prog 145 #[.pointer (some ⟨X,0,none⟩)] w (ROnePost X s a w):=by
 have HR:=hid h
 have HE:=hid (hE a)
 have hc:(pk s a).toNat≤255:=by have:=(pk s a).toNat_lt; omega
 have hc92:((pk s a).toNat=92→pk s a=92)∧(pk s a=92→(pk s a).toNat=92):=⟨fun h=>UInt8.toNat_inj.1 h,fun h=>by rw [h]; rfl⟩
 have HC:=hid hc92
 clear h hE hc92
 obtain ⟨P,hP⟩:∃ P,ROnePost X s a w=P:=⟨_,rfl⟩
 rw [hP]
 have HP:=hid hP
 clear hP
 have hS1:IntKind.i64.wrap ((a:Int)+1)=((a+1:Nat):Int):=(xI _ (by omega)).trans (by omega)
 have hS2:IntKind.i64.wrap ((a:Int)+2)=((a+2:Nat):Int):=(xI _ (by omega)).trans (by omega)
 have hS3:IntKind.i64.wrap ((a:Int)+3)=((a+3:Nat):Int):=(xI _ (by omega)).trans (by omega)
 go_enter Tryz.func145,Tryz.ntmps145
 go_wp2_with fail
 refine (peek_any X s a w HR.out).mono ?_
 rintro e w1 ⟨rfl,k,rfl⟩
 generalize (pk s a).toNat=c at hc HC ⊢
 go_wp2_with fail
 have hw:wrap64 (c:Int)=c:=(by unfold wrap64; omega)
 try simp only [hw]
 clear hw
 have HR1:=hid (HR.out.drewN k)
 have HG:=hid (show w.grownBy (w.drewN k) none from ⟨rfl,rfl,rfl,Nat.le_refl _,fun _ _ _=>rfl⟩)
 generalize w.drewN k=w1 at HR1 HG ⊢
 obtain ⟨c0,c1,f1⟩:=HR1.out.cells
 go_cut [24] (fun v wx=>v=.bool (decide (c=92∧a+2<s.size))∧Hid (RdAt wx X s a)∧Hid (w.grownBy wx none))
 case first =>
  by_cases h92:c=92
  · have hb:((c:Int) == 92)=true:=by simp [h92]
    by_cases hz:a+2<s.size
    · have hb2:((a+2:Nat):Int)<(s.size:Int):=by omega
      have hR:decide (c=92∧a+2<s.size)=true:=decide_eq_true ⟨h92,hz⟩
      have HB:=hid hR
      clear h92 hR
      go_quiet (fail)
      go_wp2_with fail
      go_meet
      exact ⟨by rw [HB.out]; exact congrArg _ (decide_eq_true (by omega)),HR1.out.drewN nq,hid (grow_drewN HG.out nq)⟩
    · have hb2:decide (((a+2:Nat):Int)<(s.size:Int))=false:=decide_eq_false (by omega)
      have hR:decide (c=92∧a+2<s.size)=false:=decide_eq_false (by omega)
      have HB:=hid hR
      clear h92 hR
      go_quiet (fail)
      go_wp2_with fail
      go_meet
      exact ⟨by rw [HB.out]; exact congrArg _ (decide_eq_false (by omega)),HR1.out.drewN nq,hid (grow_drewN HG.out nq)⟩
  · have hb:((c:Int) == 92)=false:=beq_eq_false_iff_ne.2 (by omega)
    have hR:decide (c=92∧a+2<s.size)=false:=decide_eq_false (by omega)
    have HB:=hid hR
    clear h92 hR
    go_quiet (fail)
    go_wp2_with fail
    go_meet
    exact ⟨by rw [HB.out],HR1.out.drewN nq,hid (grow_drewN HG.out nq)⟩
 case rest =>
  obtain ⟨rfl,HR2,HG2⟩:=hcut
  clear c0 c1 f1
  by_cases hz0:c=92∧a+2<s.size
  · rw [decide_eq_true hz0]
    obtain ⟨h92,hz⟩:=hz0
    have HX:Hid (∀ n,n=a+3→HexOk (s.extract (a+1) n)):=hid (fun n hn=>hn ▸ HE.out (HC.out.1 h92) hz)
    have HN:=hid (show a+3=nxt s a from (if_pos ⟨HC.out.1 h92,hz⟩).symm)
    clear h92
    obtain ⟨c0,c1,f1⟩:=HR2.out.cells
    have hsz:a+3≤s.size:=by omega
    have j1:(0:Int)≤(a:Int)+3:=by omega
    have j2:(a:Int)+3≤(s.size:Int):=by omega
    have j3:(0:Int)≤(a:Int)+1:=by omega
    go_wp2_with fail
    go_cut [5,6] (fun u v wx=>∃ k2:Nat,u=.int .u64 k2∧v=.nilIface∧k2≤255∧Hid (RdAt wx X s a)∧Hid (w.grownBy wx none))
    case first =>
     go_region_law (go_simp; go_at_call 156; go_must (refine (parseUint_any _ (by exact HX.out _ (by omega)) _).mono ?_; rintro e w3 ⟨k2,hk2,rfl,g3⟩; have HR3:=hid (HR2.out.grow (by first | exact grow_undrew g3 | exact grow_undrew (grow_undrew g3))); have HG3:=hid (xT (by repeat (first | exact HG2.out | apply grow_drew)) g3); clear g3))
     all_goals (go_wp2_with fail; go_meet)
     all_goals exact ⟨k2,rfl,rfl,hk2,by repeat (first | exact HR3 | apply hid_drew1),by repeat (first | exact HG3 | apply hid_drew2)⟩
    case rest =>
     obtain ⟨k2,rfl,rfl,hk2,HR3,HG3⟩:=hcut
     have hW:=hid (show IntKind.i64.wrap (k2:Int)=(k2:Int) from xI _ (by omega))
     have HB:Hid (∀ w,Calls Tryz.prog 117 #[.int .i64 (IntKind.i64.wrap (k2:Int))] w (StrPost 3 w)):=hid (fun w=>by rw [hW.out]; exact byteText_any k2 hk2 w)
     clear c0 c1 f1
     obtain ⟨c0,c1,f1⟩:=HR3.out.cells
     go_wp2_with fail
     have HR4:=hid (HR3.out.step (a+3)).1
     have HG4:=hid (grow_row2 HG3.out (HR3.out.step (a+3)).2)
     have he:((a+3:Nat):Int)=(a:Int)+3:=by omega
     rw [he] at HR4 HG4
     clear c0 c1 f1
     generalize wc.setCell _ _=w4 at HR4 HG4 ⊢
     obtain ⟨c0,c1,f1⟩:=HR4.out.cells
     rw [he] at c1
     clear he
     have hS4:IntKind.i64.wrap ((a:Int)+3-3)=(a:Int):=(xI _ (by omega)).trans (by omega)
     have hS5:IntKind.i64.wrap (a:Int)=(a:Int):=xI _ (by omega)
     have j0:(0:Int)≤(a:Int):=by omega
     have j4:(a:Int)≤(a:Int)+3:=by omega
     go_cut [2,3] (fun u v wx=>∃ ok,u=.int .i64 k2∧v=.bool ok∧Hid (RdAt wx X s (a+3))∧Hid (w.grownBy wx (some X)))
     case first =>
      go_region_held3 (fun w'=>w'.cell? ⟨X,0,none⟩=some (.string s)∧w'.cell? ⟨X,1,none⟩=some (.int .i64 ((a:Int)+3))) (first | go_keep) (first | (go_at_call 117; refine (HB.out _).mono ?_; rintro e w5 ⟨t5,rfl,-,g5⟩; have g6:w4.grownBy w5 none:=(by first | exact g5 | exact grow_undrew g5 | exact grow_undrew (grow_undrew g5) | exact grow_undrew (grow_undrew (grow_undrew g5))); have HR5:=hid (HR4.out.grow g6); have HG5:=hid (grow_row3 HG4.out g6); have d0:=ycg c0 g6; have d1:=ycg c1 g6; clear g5 g6))
      all_goals (go_wp2_with fail; go_meet)
      all_goals exact ⟨_,congrArg (Value.int .i64) hW.out,rfl,by repeat (first | with_reducible exact HR5 | with_reducible apply hid_alloc1 | with_reducible apply hid_drew1),by repeat (first | with_reducible exact HG5 | with_reducible apply hid_alloc2 | with_reducible apply hid_drew2)⟩
     case rest =>
      obtain ⟨ok,rfl,rfl,HR5,HG5⟩:=hcut
      go_wp2_with fail
      rw [← HP.out]
      exact ⟨k2,ok,a+3,rfl,hk2,HN.out,HR5.out,HG5.out⟩
  · rw [decide_eq_false hz0]
    have HN:=hid (show a+1=nxt s a from (if_neg (fun h=>hz0 ⟨HC.out.2 h.1,h.2⟩)).symm)
    clear hz0
    obtain ⟨c0,c1,f1⟩:=HR2.out.cells
    go_wp2_with fail
    have HR3:=hid (HR2.out.step (a+1)).1
    have HG3:=hid (grow_row2 HG2.out (HR2.out.step (a+1)).2)
    have he:((a+1:Nat):Int)=(a:Int)+1:=by omega
    rw [he] at HR3 HG3
    clear c0 c1 f1 he
    generalize World.setCell _ _ _=w4 at HR3 HG3 ⊢
    have HQ:=hid (in_q (c:Int) 33 126)
    obtain ⟨bi,hbi⟩:∃ bi,inB (c:Int) 33 126=bi:=⟨_,rfl⟩
    rw [hbi] at HQ
    clear hbi
    have HB:=hid (fun w=>byteText_any c hc w)
    rcases bi with _ | _
    · go_cut [2,3] (fun u v wx=>u=.int .i64 c∧v=.bool false∧Hid (RdAt wx X s (a+1))∧Hid (w.grownBy wx (some X)))
      case first =>
       go_quiet ((go_at_call 62; exact Calls.quiet_of_same (HQ.out _)))
       go_wp2_with fail
       go_meet
       exact ⟨rfl,rfl,HR3.out.drewN _,hid (grow_row3 HG3.out ⟨rfl,rfl,rfl,Nat.le_refl _,fun _ _ _=>rfl⟩)⟩
      case rest =>
       obtain ⟨rfl,rfl,HR5,HG5⟩:=hcut
       go_wp2_with fail
       rw [← HP.out]
       exact ⟨c,false,a+1,rfl,hc,HN.out,HR5.out,HG5.out⟩
    · go_cut [2,3] (fun u v wx=>∃ ok,u=.int .i64 c∧v=.bool ok∧Hid (RdAt wx X s (a+1))∧Hid (w.grownBy wx (some X)))
      case first =>
       have cv:=fun x=>conv_oneW w4 x
       have cv':∀ x:Int,(convert 111 9 (.slice (some ⟨w4.heap.size,0,none⟩) 1 1)).run Tryz.prog (w4.alloc (.cells #[.int .u8 x] 5)).drew=.ok (.string (strOfNums [x])) (w4.alloc (.cells #[.int .u8 x] 5)).drew:=fun x=>conv_oneW w4.drew x
       go_region_law (first | (go_simp; go_at_call 62; refine (HQ.out _).mono ?_; rintro e w9 ⟨rfl,rfl⟩) | (go_simp; go_at_call 117; refine (HB.out _).mono ?_; rintro e w5 ⟨t5,rfl,-,g5⟩; have cv5:=fun x=>conv_oneW w5 x; (first | (have cv6:(convert 111 9 (.slice (some ⟨w4.heap.size,0,none⟩) 1 1)).run Tryz.prog w5=.ok (.string (strOfNums [_])) w5:=conv_grown (w:=w4.drew) g5) | skip); have g6:w4.grownBy w5 none:=(by first | exact g5 | exact grow_undrew g5 | exact xT (by repeat (first | exact grow_self _ | apply grow_drew | apply yga)) g5); have HR5:=hid (HR3.out.grow g6); have HG5:=hid (grow_row3 HG3.out g6); clear g6))
       all_goals (go_wp2_with fail; go_meet)
       all_goals exact ⟨_,rfl,rfl,by repeat (first | with_reducible exact HR5 | with_reducible apply hid_alloc1 | with_reducible apply hid_drew1),by repeat (first | with_reducible exact HG5 | with_reducible apply hid_alloc2 | with_reducible apply hid_drew2)⟩
      case rest =>
       obtain ⟨ok,rfl,rfl,HR5,HG5⟩:=hcut
       go_wp2_with fail
       rw [← HP.out]
       exact ⟨c,ok,a+1,rfl,hc,HN.out,HR5.out,HG5.out⟩
end Go.Proofs.YtplbacfjmajeeaaGreatDoor
