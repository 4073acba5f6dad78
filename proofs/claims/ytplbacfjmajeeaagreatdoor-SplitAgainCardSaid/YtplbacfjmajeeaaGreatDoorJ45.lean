import Derived.Test.YtplbacfjmajeeaaGreatDoorJ44
import Derived.Lib.SlBytesRow
namespace Go.Proofs.YtplbacfjmajeeaaGreatDoor
open Go.Lib (hid)
set_option maxHeartbeats 4000000
set_option maxRecDepth 100000
open Go.RowKit
theorem sp_same (ms:List Mrk) (s:ByteArray) (hs:s.size≤20000) :
 (spM ms (setsM ms) s).2.2.1=(splitR ms s).1∧(spM ms (setsM ms) s).2.2.2.1=(splitR ms s).2.1∧(spM ms (setsM ms) s).2.2.2.2.1=(splitR ms s).2.2.1∧(spM ms (setsM ms) s).2.2.2.2.2=(splitR ms s).2.2.2 ∧
  ((splitR ms s).2.2.2=0→(spM ms (setsM ms) s).2.1=(piecesL (ms.map Mrk.pat) (setsM ms) s.data.toList).1∧(piecesL (ms.map Mrk.pat) (setsM ms) s.data.toList).2.2=0):=by
 have hperr:(piecesL (ms.map Mrk.pat) (setsM ms) s.data.toList).2.2=0∨(piecesL (ms.map Mrk.pat) (setsM ms) s.data.toList).2.2=8:=by
  unfold piecesL
  rw [if_neg (by rw [Array.length_toList]; show ¬ 20000<s.size; omega)]
  exact pcsL_err _ _ _ _ _ _
 unfold spM splitL splitR
 by_cases h0:(piecesL (ms.map Mrk.pat) (setsM ms) s.data.toList).2.2=0
 · (first | (rw [if_pos h0]; done) | rw [if_pos h0,if_pos h0])
   by_cases h1:2000<(toksL ms s (piecesL (ms.map Mrk.pat) (setsM ms) s.data.toList).1 0 []).1.length
   · (first | (rw [if_pos h1]; done) | rw [if_pos h1,if_pos h1])
     exact ⟨rfl,rfl,rfl,rfl,fun h=>by cases h⟩
   · rw [if_neg h1,if_neg h1]
     exact ⟨rfl,rfl,rfl,rfl,fun _=>⟨rfl,h0⟩⟩
 · rw [if_neg h0,if_neg h0]
   have h8:(piecesL (ms.map Mrk.pat) (setsM ms) s.data.toList).2.2=8:=by rcases hperr with h | h; exact absurd h h0; exact h
   exact ⟨rfl,rfl,rfl,h8,fun h=>by cases h⟩
theorem joined_sum (T:List Tk) (tail:ByteArray) (h:(joinedM T tail).2=0):tkSum T≤(joinedM T tail).1.size:=by
 unfold joinedM at h ⊢
 split
 · rename_i h1; rw [if_pos h1] at h; cases h
 · rename_i h1
   rw [if_neg h1] at h
   split
   · rename_i h2; rw [if_pos h2] at h; cases h
   · show tkSum T≤(tkText T++tail.data.toList).toArray.size
     rw [List.size_toArray,List.length_append,tkText_len]
     omega
theorem take_repl (s x:ByteArray) (a b:Nat) (ha:a≤s.size):s.data.toList.take a=(s.extract 0 a++x++s.extract b s.size).data.toList.take a:=by
 have h1:(s.extract 0 a++x++s.extract b s.size).data.toList=(s.data.toList.take a++x.data.toList)++(s.extract b s.size).data.toList:=by
  simp [ByteArray.data_append,ByteArray.data_extract,Array.toList_extract,List.extract]
 have h2:(s.data.toList.take a).length=a:=by rw [List.length_take,Array.length_toList]; show min a s.size=a; omega
 rw [h1,List.append_assoc,List.take_append_of_le_length (by omega),List.take_of_length_le (by omega:(List.take a s.data.toList).length≤a)]
theorem ag_same (ms:List Mrk) (T:List Tk) (tail:ByteArray) (A O:Int) (x:ByteArray) (hc:chk ms=0) :
 agM ms (setsM ms) T tail A O x=agRM ms (splitR ms) (fun s=>(piecesL (ms.map Mrk.pat) (setsM ms) s.data.toList).1) T tail A O x:=by
 unfold agM agRM
 rw [if_neg (by simp [hc])]
 by_cases hj:(joinedM T tail).2=0
 case neg=>(first | (rw [if_pos hj]; done) | rw [if_pos hj,if_pos hj])
 have hts:=joinedM_size T tail
 have hsum:=joined_sum T tail hj
 simp only [hj,ne_eq,not_true_eq_false,if_false]
 generalize (joinedM T tail).1=t at hts hsum
 obtain ⟨e1,e2,e3,e4,e5⟩:=sp_same ms t hts
 unfold agS agRS
 rw [e1,e2,e4]
 by_cases h0:(splitR ms t).2.2.2=0
 case neg=>(first | (rw [if_pos h0]; done) | rw [if_pos h0,if_pos h0])
 simp only [h0,ne_eq,not_true_eq_false,if_false]
 by_cases h1:((splitR ms t).2.1.toList == tail.toList)=false
 case pos=>(first | (rw [if_pos h1]; done) | rw [if_pos h1,if_pos h1])
 simp only [h1]
 by_cases h2:eqTk (splitR ms t).1 T=false
 case pos=>(first | (rw [if_pos h2]; done) | rw [if_pos h2,if_pos h2])
 have hT:=eqTk_eq _ _ (by simpa using h2)
 simp only [h2]
 by_cases h3:(replM t A O x).2=0
 case neg=>(first | (rw [if_pos h3]; done) | rw [if_pos h3,if_pos h3])
 simp only [h3,not_true_eq_false,if_false]
 obtain ⟨p1,pe1⟩:=e5 h0
 rw [p1,hT]
 obtain ⟨hA0,hA1,_⟩:=replM_ok t A O x h3
 have hrep:(replM t A O x).1=t.extract 0 A.toNat++x++t.extract (A+O).toNat t.size∧(replM t A O x).1.size≤20000∧A.toNat+x.size≤(replM t A O x).1.size:=by
  unfold replM at h3 ⊢
  by_cases g1:A<0∨(t.size:Int)<A∨O<0∨(t.size:Int)-A<O
  · rw [if_pos g1] at h3; cases h3
  · rw [if_neg g1] at h3 ⊢
    by_cases g2:20000<(t.size:Int)-O+x.size
    · rw [if_pos g2] at h3; cases h3
    · rw [if_neg g2]
      refine ⟨rfl,?_,?_⟩
      · simp only [ByteArray.size_append,ByteArray.size_extract]; omega
      · simp only [ByteArray.size_append,ByteArray.size_extract]; omega
 obtain ⟨r1,r2,r3⟩:=hrep
 have htake:=take_repl t x A.toNat (A+O).toNat (by omega)
 rw [← r1] at htake
 generalize (replM t A O x).1=s2 at r2 r3 htake
 obtain ⟨f1,f2,f3,f4,f5⟩:=sp_same ms s2 r2
 unfold agE agRE
 rw [f1,f2,f3,f4]
 by_cases h4:(splitR ms s2).2.2.2=0
 case neg=>(first | (rw [if_pos h4]; done) | rw [if_pos h4,if_pos h4])
 simp only [h4,ne_eq,not_true_eq_false,if_false]
 obtain ⟨p2,pe2⟩:=f5 h4
 rw [p2]
 have hU:=(splitR_ok ms s2 h4).sum
 have l1:t.data.toList.length=t.size:=by rw [Array.length_toList]; rfl
 have l2:s2.data.toList.length=s2.size:=by rw [Array.length_toList]; rfl
 obtain ⟨a1,a2⟩:=ahead_pieces (ms.map Mrk.pat) (setsM ms) ms A.toNat t.data.toList s2.data.toList htake (by omega) (by omega) pe1 pe2
 have q1:=pieces_lt (ms.map Mrk.pat) (setsM ms) t.data.toList pe1
 have q2:=pieces_lt (ms.map Mrk.pat) (setsM ms) s2.data.toList pe2
 rw [l1] at q1
 rw [l2] at q2
 have hat:∀ b,b∈atsL (piecesL (ms.map Mrk.pat) (setsM ms) t.data.toList).1→b≤t.size:=fun b hb=>by
  obtain ⟨y,hy,rfl⟩:=List.mem_map.1 hb
  have:=q1 y hy; omega
 have hm:=meet_same t.size s2.size (aheadL ms A.toNat (piecesL (ms.map Mrk.pat) (setsM ms) t.data.toList).1 0 0).1 (A.toNat+x.size) (atsL (piecesL (ms.map Mrk.pat) (setsM ms) t.data.toList).1) hat (by omega) r3 (piecesL (ms.map Mrk.pat) (setsM ms) s2.data.toList).1 q2
 have hM:meetRN ms t s2 A.toNat x (piecesL (ms.map Mrk.pat) (setsM ms) t.data.toList).1 (piecesL (ms.map Mrk.pat) (setsM ms) s2.data.toList).1=meetL t.size s2.size (atsL (piecesL (ms.map Mrk.pat) (setsM ms) t.data.toList).1) (A.toNat+x.size) (piecesL (ms.map Mrk.pat) (setsM ms) s2.data.toList).1:=hm
 unfold agN agRN
 rw [hM,← a1]
 have hb:=behind_same t.size s2.size (meetL t.size s2.size (atsL (piecesL (ms.map Mrk.pat) (setsM ms) t.data.toList).1) (A.toNat+x.size) (piecesL (ms.map Mrk.pat) (setsM ms) s2.data.toList).1) (beginsL T 0) (fun a ha=>by have:=begins_le T 0 a ha; omega) (beginsL (splitR ms s2).1 0) 0 (fun b hb=>by have:=begins_le _ 0 b hb; omega)
 rw [hb]
theorem agC:AgC:=by
 intro ms av cap T tail tv A O x w hc h1 h2 h3 h4 h5 h6 h7 h8 h9
 rw [ag_same ms T tail A O x hc]
 exact againOf_any ms av cap T tail tv A O x w hc h1 h2 h3 h4 h5 h6 h7 h8 h9
theorem splitAgain_all (HPat:PatHas 48) (av:Option Addr) (cap:Nat) (xs:List Int) (w:World) (hx2:xs.length≤9223372036854775807)
 (hel:∀ j,j<xs.length→∃ bl off,av=some ⟨bl,off,none⟩∧w.cell? ⟨bl,off+j,none⟩=some (.int .i64 (xs.getD j 0))) :
 Calls Tryz.prog 5 #[.slice av xs.length cap] w fun e w'=>e=.returned (.bool true)∧w.grownBy w' none :=
 splitAgain_any agC HPat av cap xs w hx2 hel
theorem bytes_cell (w:World) (s:ByteArray) (cap j:Nat) (c:UInt8) (fr:Nat × Nat) (h:s.data[j]? = some c):(w.drew.alloc (.cells (bytesRow s cap) 5 fr)).cell? ⟨w.heap.size,j,none⟩=some (.int .u8 c.toNat):=by
 have hb:(w.drew.alloc (.cells (bytesRow s cap) 5 fr)).heap[w.heap.size]? = some (.cells (bytesRow s cap) 5 fr):=xN w.drew _
 rw [xC hb]
 have hj:j<s.data.size:=(Array.getElem?_eq_some_iff.1 h).1
 unfold bytesRow
 rw [Array.getElem?_append_left (by simpa using hj),Array.getElem?_map,h]
 rfl
theorem lower_97 (w:World):Calls Tryz.prog 163 #[.int .u8 97] w fun e w'=>e=.returned (.int .u8 97)∧w=w':=by
 go_enter Tryz.func163,Tryz.ntmps163
 go_wp2_with fail
 go_ret
 exact ⟨rfl,rfl⟩
def PuPost (w:World) (k:Int) (e:Ending) (w':World):Prop:=e=.returned (.tuple #[.int .u64 k,.nilIface])∧w.grownBy w' none
theorem pui_40 (w:World):Calls Tryz.prog 161 #[.string ⟨#[50,56]⟩,.int .i64 16,.int .i64 8] w (PuPost w 40):=by
 go_enter Tryz.func161,Tryz.ntmps161
 go_wp2_with fail
 rw [run_bytes_of_string w 9 111 5 _ Tryz.underlying9 Tryz.underlying111 Tryz.underlying5]
 simp only [Result.andThen]
 rw [Oper.upon_value]
 have c0:=bytes_cell w ⟨#[50,56]⟩ (grownCap w (ByteArray.size ⟨#[50,56]⟩) 0 5) 0 50 ((bytesRow ⟨#[50,56]⟩ (grownCap w (ByteArray.size ⟨#[50,56]⟩) 0 5)).size,(bytesRow ⟨#[50,56]⟩ (grownCap w (ByteArray.size ⟨#[50,56]⟩) 0 5)).size+1) rfl
 have c1:=bytes_cell w ⟨#[50,56]⟩ (grownCap w (ByteArray.size ⟨#[50,56]⟩) 0 5) 1 56 ((bytesRow ⟨#[50,56]⟩ (grownCap w (ByteArray.size ⟨#[50,56]⟩) 0 5)).size,(bytesRow ⟨#[50,56]⟩ (grownCap w (ByteArray.size ⟨#[50,56]⟩) 0 5)).size+1) rfl
 have HG:=hid (show w.grownBy (w.drew.alloc (.cells (bytesRow ⟨#[50,56]⟩ (grownCap w (ByteArray.size ⟨#[50,56]⟩) 0 5)) 5 ((bytesRow ⟨#[50,56]⟩ (grownCap w (ByteArray.size ⟨#[50,56]⟩) 0 5)).size,(bytesRow ⟨#[50,56]⟩ (grownCap w (ByteArray.size ⟨#[50,56]⟩) 0 5)).size+1))) none from yga (grow_drew (grow_self w)) _)
 generalize w.drew.alloc _=w1 at c0 c1 HG ⊢
 generalize w.heap.size=B at c0 c1 ⊢
 generalize grownCap w _ 0 5=cp
 have hz:(ByteArray.size ⟨#[50,56]⟩)=2:=rfl
 rw [hz]
 clear hz
 go_wp2_with fail
 refine wp_loop_rounds 3 ?_
 rw [rounds_succ]
 go_wp2_with fail
 rw [rounds_succ]
 go_wp2_with (go_at_call 163; refine (lower_97 _).mono ?_; rintro e w2 ⟨rfl,rfl⟩)
 rw [rounds_succ]
 go_wp2_with fail
 go_ret2
 exact ⟨rfl,HG.out⟩
theorem pui_41 (w:World):Calls Tryz.prog 161 #[.string ⟨#[50,57]⟩,.int .i64 16,.int .i64 8] w (PuPost w 41):=by
 go_enter Tryz.func161,Tryz.ntmps161
 go_wp2_with fail
 rw [run_bytes_of_string w 9 111 5 _ Tryz.underlying9 Tryz.underlying111 Tryz.underlying5]
 simp only [Result.andThen]
 rw [Oper.upon_value]
 have c0:=bytes_cell w ⟨#[50,57]⟩ (grownCap w (ByteArray.size ⟨#[50,57]⟩) 0 5) 0 50 ((bytesRow ⟨#[50,57]⟩ (grownCap w (ByteArray.size ⟨#[50,57]⟩) 0 5)).size,(bytesRow ⟨#[50,57]⟩ (grownCap w (ByteArray.size ⟨#[50,57]⟩) 0 5)).size+1) rfl
 have c1:=bytes_cell w ⟨#[50,57]⟩ (grownCap w (ByteArray.size ⟨#[50,57]⟩) 0 5) 1 57 ((bytesRow ⟨#[50,57]⟩ (grownCap w (ByteArray.size ⟨#[50,57]⟩) 0 5)).size,(bytesRow ⟨#[50,57]⟩ (grownCap w (ByteArray.size ⟨#[50,57]⟩) 0 5)).size+1) rfl
 have HG:=hid (show w.grownBy (w.drew.alloc (.cells (bytesRow ⟨#[50,57]⟩ (grownCap w (ByteArray.size ⟨#[50,57]⟩) 0 5)) 5 ((bytesRow ⟨#[50,57]⟩ (grownCap w (ByteArray.size ⟨#[50,57]⟩) 0 5)).size,(bytesRow ⟨#[50,57]⟩ (grownCap w (ByteArray.size ⟨#[50,57]⟩) 0 5)).size+1))) none from yga (grow_drew (grow_self w)) _)
 generalize w.drew.alloc _=w1 at c0 c1 HG ⊢
 generalize w.heap.size=B at c0 c1 ⊢
 generalize grownCap w _ 0 5=cp
 have hz:(ByteArray.size ⟨#[50,57]⟩)=2:=rfl
 rw [hz]
 clear hz
 go_wp2_with fail
 refine wp_loop_rounds 3 ?_
 rw [rounds_succ]
 go_wp2_with fail
 rw [rounds_succ]
 go_wp2_with (go_at_call 163; refine (lower_97 _).mono ?_; rintro e w2 ⟨rfl,rfl⟩)
 rw [rounds_succ]
 go_wp2_with fail
 go_ret2
 exact ⟨rfl,HG.out⟩
theorem pui_32 (w:World):Calls Tryz.prog 161 #[.string ⟨#[50,48]⟩,.int .i64 16,.int .i64 8] w (PuPost w 32):=by
 go_enter Tryz.func161,Tryz.ntmps161
 go_wp2_with fail
 rw [run_bytes_of_string w 9 111 5 _ Tryz.underlying9 Tryz.underlying111 Tryz.underlying5]
 simp only [Result.andThen]
 rw [Oper.upon_value]
 have c0:=bytes_cell w ⟨#[50,48]⟩ (grownCap w (ByteArray.size ⟨#[50,48]⟩) 0 5) 0 50 ((bytesRow ⟨#[50,48]⟩ (grownCap w (ByteArray.size ⟨#[50,48]⟩) 0 5)).size,(bytesRow ⟨#[50,48]⟩ (grownCap w (ByteArray.size ⟨#[50,48]⟩) 0 5)).size+1) rfl
 have c1:=bytes_cell w ⟨#[50,48]⟩ (grownCap w (ByteArray.size ⟨#[50,48]⟩) 0 5) 1 48 ((bytesRow ⟨#[50,48]⟩ (grownCap w (ByteArray.size ⟨#[50,48]⟩) 0 5)).size,(bytesRow ⟨#[50,48]⟩ (grownCap w (ByteArray.size ⟨#[50,48]⟩) 0 5)).size+1) rfl
 have HG:=hid (show w.grownBy (w.drew.alloc (.cells (bytesRow ⟨#[50,48]⟩ (grownCap w (ByteArray.size ⟨#[50,48]⟩) 0 5)) 5 ((bytesRow ⟨#[50,48]⟩ (grownCap w (ByteArray.size ⟨#[50,48]⟩) 0 5)).size,(bytesRow ⟨#[50,48]⟩ (grownCap w (ByteArray.size ⟨#[50,48]⟩) 0 5)).size+1))) none from yga (grow_drew (grow_self w)) _)
 generalize w.drew.alloc _=w1 at c0 c1 HG ⊢
 generalize w.heap.size=B at c0 c1 ⊢
 generalize grownCap w _ 0 5=cp
 have hz:(ByteArray.size ⟨#[50,48]⟩)=2:=rfl
 rw [hz]
 clear hz
 go_wp2_with fail
 refine wp_loop_rounds 3 ?_
 rw [rounds_succ]
 go_wp2_with fail
 rw [rounds_succ]
 go_wp2_with (go_at_call 163; refine (lower_97 _).mono ?_; rintro e w2 ⟨rfl,rfl⟩)
 rw [rounds_succ]
 go_wp2_with fail
 go_ret2
 exact ⟨rfl,HG.out⟩
theorem pui_10 (w:World):Calls Tryz.prog 161 #[.string ⟨#[48,97]⟩,.int .i64 16,.int .i64 8] w (PuPost w 10):=by
 go_enter Tryz.func161,Tryz.ntmps161
 go_wp2_with fail
 rw [run_bytes_of_string w 9 111 5 _ Tryz.underlying9 Tryz.underlying111 Tryz.underlying5]
 simp only [Result.andThen]
 rw [Oper.upon_value]
 have c0:=bytes_cell w ⟨#[48,97]⟩ (grownCap w (ByteArray.size ⟨#[48,97]⟩) 0 5) 0 48 ((bytesRow ⟨#[48,97]⟩ (grownCap w (ByteArray.size ⟨#[48,97]⟩) 0 5)).size,(bytesRow ⟨#[48,97]⟩ (grownCap w (ByteArray.size ⟨#[48,97]⟩) 0 5)).size+1) rfl
 have c1:=bytes_cell w ⟨#[48,97]⟩ (grownCap w (ByteArray.size ⟨#[48,97]⟩) 0 5) 1 97 ((bytesRow ⟨#[48,97]⟩ (grownCap w (ByteArray.size ⟨#[48,97]⟩) 0 5)).size,(bytesRow ⟨#[48,97]⟩ (grownCap w (ByteArray.size ⟨#[48,97]⟩) 0 5)).size+1) rfl
 have HG:=hid (show w.grownBy (w.drew.alloc (.cells (bytesRow ⟨#[48,97]⟩ (grownCap w (ByteArray.size ⟨#[48,97]⟩) 0 5)) 5 ((bytesRow ⟨#[48,97]⟩ (grownCap w (ByteArray.size ⟨#[48,97]⟩) 0 5)).size,(bytesRow ⟨#[48,97]⟩ (grownCap w (ByteArray.size ⟨#[48,97]⟩) 0 5)).size+1))) none from yga (grow_drew (grow_self w)) _)
 generalize w.drew.alloc _=w1 at c0 c1 HG ⊢
 generalize w.heap.size=B at c0 c1 ⊢
 generalize grownCap w _ 0 5=cp
 have hz:(ByteArray.size ⟨#[48,97]⟩)=2:=rfl
 rw [hz]
 clear hz
 go_wp2_with fail
 refine wp_loop_rounds 3 ?_
 rw [rounds_succ]
 go_wp2_with fail
 rw [rounds_succ]
 go_wp2_with (go_at_call 163; refine (lower_97 _).mono ?_; rintro e w2 ⟨rfl,rfl⟩)
 rw [rounds_succ]
 go_wp2_with fail
 go_ret2
 exact ⟨rfl,HG.out⟩
def HexOk (t:ByteArray):Prop:=t=⟨#[50,56]⟩∨t=⟨#[50,57]⟩∨t=⟨#[50,48]⟩∨t=⟨#[48,97]⟩
theorem pui_any (t:ByteArray) (h:HexOk t) (w:World):∃ k:Nat,k≤255∧Calls Tryz.prog 161 #[.string t,.int .i64 16,.int .i64 8] w (PuPost w k):=by
 rcases h with rfl | rfl | rfl | rfl
 · exact ⟨40,by omega,pui_40 w⟩
 · exact ⟨41,by omega,pui_41 w⟩
 · exact ⟨32,by omega,pui_32 w⟩
 · exact ⟨10,by omega,pui_10 w⟩
theorem parseUint_any (t:ByteArray) (h:HexOk t) (w:World):Calls Tryz.prog 156 #[.string t,.int .i64 16,.int .i64 8] w fun e w'=>∃ k:Nat,k≤255∧e=.returned (.tuple #[.int .u64 k,.nilIface])∧w.grownBy w' none:=by
 obtain ⟨k,hk,hc⟩:=pui_any t h w
 have HC:=hid hc
 clear hc h
 go_enter Tryz.func156,Tryz.ntmps156
 go_wp2_with fail
 refine HC.out.mono ?_
 rintro e w1 ⟨rfl,g1⟩
 go_wp2_with fail
 go_ret2
 exact ⟨k,hk,rfl,g1⟩
theorem drewN_two (w:World) (a b:Nat):(w.drewN a).drewN b=w.drewN (a+b):=by
 unfold World.drewN
 simp [Nat.add_assoc]
def RdAt (w:World) (X:Nat) (s:ByteArray) (a:Nat):Prop:=w.heap[X]? = some (.cells #[.string s,.int .i64 a] 186 (0,0))
theorem RdAt.cells {w:World} {X:Nat} {s:ByteArray} {a:Nat} (h:RdAt w X s a):w.cell? ⟨X,0,none⟩=some (.string s)∧w.cell? ⟨X,1,none⟩=some (.int .i64 a)∧w.frozen? ⟨X,1,none⟩=false:=by
 refine ⟨?_,?_,yfb h 1⟩
 · rw [xC h 0]; rfl
 · rw [xC h 1]; rfl
def pk (s:ByteArray) (a:Nat):UInt8:=s.data.toList.getD a 0
theorem pk_in (s:ByteArray) (a:Nat) (h:a<s.size):pk s a=s[a]:=ba_getD s a h
theorem pk_out (s:ByteArray) (a:Nat) (h:s.size≤a):pk s a=0:=by
 unfold pk
 rw [List.getD_eq_getElem?_getD,List.getElem?_eq_none (by rw [Array.length_toList]; exact h)]
 rfl
theorem peek_any (X:Nat) (s:ByteArray) (a:Nat) (w:World) (h:RdAt w X s a):Calls Tryz.prog 115 #[.pointer (some ⟨X,0,none⟩)] w fun e w'=>e=.returned (.int .u8 (pk s a).toNat)∧∃ k,w'=w.drewN k:=by
 obtain ⟨c0,c1,_⟩:=h.cells
 by_cases hlt:a<s.size
 · have hb:decide ((a:Int)<(s.size:Int))=true:=decide_eq_true (by omega)
   have b1:(0:Int)≤(a:Int):=by omega
   have b2:(a:Int)<(s.size:Int):=by omega
   have HP:=hid (pk_in s a hlt)
   clear h
   go_enter Tryz.func115,Tryz.ntmps115
   go_wp2_with fail
   go_quiet (fail)
   go_wp2_with fail
   go_quiet (fail)
   go_wp2_with fail
   go_ret
   exact ⟨by rw [HP.out]; rfl,_,drewN_two _ _ _⟩
 · have hb:decide ((a:Int)<(s.size:Int))=false:=decide_eq_false (by omega)
   have HP:=hid (pk_out s a (by omega))
   clear h
   go_enter Tryz.func115,Tryz.ntmps115
   go_wp2_with fail
   go_quiet (fail)
   go_wp2_with fail
   go_ret
   exact ⟨by rw [HP.out]; rfl,_,rfl⟩
theorem conv_two (w:World) (x y:Int):(convert 111 9 (.slice (some ⟨w.heap.size,0,none⟩) 2 2)).run Tryz.prog (w.alloc (.cells #[.int .u8 x,.int .u8 y] 5))=.ok (.string (strOfNums [x,y])) (w.alloc (.cells #[.int .u8 x,.int .u8 y] 5)) :=
 run_convert_bytes_arg (P:=Tryz.prog) _ 111 5 Tryz.underlying111 Tryz.underlying5 w.heap.size 0 2 2 [x,y] rfl (fun i hi=>by
  rw [Nat.zero_add,xC (xN w _) i]
  match i,hi with
  | 0,_=>rfl
  | 1,_=>rfl) 9 Tryz.underlying9
theorem conv_oneW (w:World) (x:Int):(convert 111 9 (.slice (some ⟨w.heap.size,0,none⟩) 1 1)).run Tryz.prog (w.alloc (.cells #[.int .u8 x] 5))=.ok (.string (strOfNums [x])) (w.alloc (.cells #[.int .u8 x] 5)) :=
 run_convert_bytes_arg (P:=Tryz.prog) _ 111 5 Tryz.underlying111 Tryz.underlying5 w.heap.size 0 1 1 [x] rfl (fun i hi=>by
  rw [Nat.zero_add,xC (xN w _) i]
  match i,hi with
  | 0,_=>rfl) 9 Tryz.underlying9
theorem size_nums (l:List Int):(strOfNums l).size=l.length:=by
 show (List.map (fun n=>UInt8.ofNat n.toNat) l).toArray.size=_
 simp
def StrPost (n:Nat) (w:World) (e:Ending) (w':World):Prop:=∃ t:ByteArray,e=.returned (.string t)∧t.size≤n∧w.grownBy w' none
theorem byteText_any (c:Nat) (hc:c≤255) (w:World):Calls Tryz.prog 117 #[.int .i64 c] w (StrPost 3 w):=by
 obtain ⟨P,hP⟩:∃ P,StrPost 3 w=P:=⟨_,rfl⟩
 rw [hP]
 have HP:=hid hP
 clear hP
 have HQ:=hid (in_q (c:Int) 33 126)
 obtain ⟨bi,hbi⟩:∃ bi,inB (c:Int) 33 126=bi:=⟨_,rfl⟩
 rw [hbi] at HQ
 clear hbi
 rcases bi with _ | _
 · go_enter Tryz.func117,Tryz.ntmps117
   go_wp2_with fail
   refine (HQ.out _).mono ?_
   rintro e w1 ⟨rfl,rfl⟩
   go_wp2_with fail
   have hw1:IntKind.i64.wrap ((c:Int) / 16)=((c / 16:Nat):Int):=(xI _ (by omega)).trans (by omega)
   have ht1:((c:Nat):Int).tmod 16=((c % 16:Nat):Int):=rfl
   have hq:c / 16<16:=by omega
   have hr:c % 16<16:=by omega
   generalize c / 16=q at hw1 hq
   generalize c % 16=r at ht1 hr
   have i2:(q:Int)<16:=by omega
   have i4:(r:Int)<16:=by omega
   have cv:=conv_two w1
   have cv2:∀ x y:Int,(convert 111 9 (.slice (some ⟨w1.heap.size,0,none⟩) 2 2)).run Tryz.prog (w1.alloc (.cells #[.int .u8 x,.int .u8 y] 5)).drew=.ok (.string (strOfNums [x,y])) (w1.alloc (.cells #[.int .u8 x,.int .u8 y] 5)).drew:=fun x y=>conv_two w1.drew x y
   have hs2:∀ x y:Int,(strOfNums [x,y]).size=2:=fun x y=>size_nums [x,y]
   go_region_law (fail)
   all_goals go_wp2_with fail
   all_goals go_ret
   all_goals rw [← HP.out]
   all_goals exact ⟨_,rfl,by rw [ByteArray.size_append,hs2]; decide,by repeat (first | exact grow_self _ | apply grow_drew | apply yga)⟩
 · go_enter Tryz.func117,Tryz.ntmps117
   go_wp2_with fail
   refine (HQ.out _).mono ?_
   rintro e w1 ⟨rfl,rfl⟩
   go_wp2_with fail
   refine (Tryz.strings_IndexByte _ _ _).mono ?_
   rintro e w2 ⟨rfl,rfl⟩
   generalize Lib.indexByte _ _=k
   by_cases hk:k<0
   · have hkb:decide (k<0)=true:=decide_eq_true hk
     have cv:=conv_oneW w2 c
     go_wp2_with fail
     rw [← HP.out]
     exact ⟨strOfNums [(c:Int)],rfl,by rw [size_nums]; simp,xG _ _ _⟩
   · have hkb:decide (k<0)=false:=decide_eq_false hk
     go_wp2_with fail
     have hw1:IntKind.i64.wrap ((c:Int) / 16)=((c / 16:Nat):Int):=(xI _ (by omega)).trans (by omega)
     have ht1:((c:Nat):Int).tmod 16=((c % 16:Nat):Int):=rfl
     have hq:c / 16<16:=by omega
     have hr:c % 16<16:=by omega
     generalize c / 16=q at hw1 hq
     generalize c % 16=r at ht1 hr
     have i2:(q:Int)<16:=by omega
     have i4:(r:Int)<16:=by omega
     have cv:=conv_two w2
     have cv2:∀ x y:Int,(convert 111 9 (.slice (some ⟨w2.heap.size,0,none⟩) 2 2)).run Tryz.prog (w2.alloc (.cells #[.int .u8 x,.int .u8 y] 5)).drew=.ok (.string (strOfNums [x,y])) (w2.alloc (.cells #[.int .u8 x,.int .u8 y] 5)).drew:=fun x y=>conv_two w2.drew x y
     have hs2:∀ x y:Int,(strOfNums [x,y]).size=2:=fun x y=>size_nums [x,y]
     go_region_law (fail)
     all_goals go_wp2_with fail
     all_goals go_ret
     all_goals rw [← HP.out]
     all_goals exact ⟨_,rfl,by rw [ByteArray.size_append,hs2]; decide,by repeat (first | exact grow_self _ | apply grow_drew | apply yga)⟩
end Go.Proofs.YtplbacfjmajeeaaGreatDoor
