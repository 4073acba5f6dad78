import Derived.Test.YtplbacfjmajeeaaGreatDoorJ05
namespace Go.Proofs.YtplbacfjmajeeaaGreatDoor
open Go.Lib (hid)
set_option maxHeartbeats 4000000
set_option maxRecDepth 100000
open Go.RowKit
theorem sizeBuilder:(Tryz.prog.info? 113 ).map (·.size)=some 2:=by kernel_rfl
theorem liesBuilder:liesAt Tryz.prog Tryz.prog.depth 113  (2 / Tryz.prog.cellsOf 113 ) 0 113  1=true:=by kernel_rfl
theorem infoByte:(Tryz.prog.info? 5 ).map (fun i=>(i.zero,i.size,i.bytes))=some (some (.int .u8 0),1,1):=by kernel_rfl
theorem copyCheck_used (b:Nat) (w:World) (h0:w.cell? ⟨b,0,none⟩=some (.pointer (some ⟨b,0,none⟩))) :
 Calls Tryz.prog 82 #[.pointer (some ⟨b,0,none⟩)] w fun e w'=>e=.returned (.tuple #[])∧w=w':=by
 obtain ⟨j,hj,_⟩:=Option.map_eq_some_iff.1 sizeBuilder
 go_enter Tryz.func82,Tryz.ntmps82
 go_wp2
 rw [Lib.run_neq_ptr_same w _ Tryz.underlying110  hj]
 go_wp2
 go_end0
 exact ⟨rfl,rfl⟩
theorem copyCheck_fresh (b:Nat) (w:World) (h0:w.cell? ⟨b,0,none⟩=some (.pointer none)) (hsh:w.shape? b=some (113 ,2)) (hfz:w.frozen? ⟨b,0,none⟩=false) :
 Calls Tryz.prog 82 #[.pointer (some ⟨b,0,none⟩)] w fun e w'=>e=.returned (.tuple #[])∧w.setCell ⟨b,0,none⟩ (.pointer (some ⟨b,0,none⟩))=w':=by
 obtain ⟨j,hj,hjs⟩:=Option.map_eq_some_iff.1 sizeBuilder
 go_enter Tryz.func82,Tryz.ntmps82
 go_wp2
 rw [Lib.run_to_unsafe w ⟨b,0,none⟩ Tryz.underlying110  Tryz.underlying190  hj (by rw [hjs]; decide) hsh (Nat.zero_lt_succ 1)]
 simp only [Result.andThen]
 rw [Oper.upon_value]
 go_wp2
 rw [run_callFunc_extern Tryz.func103 (by kernel_rfl) (by kernel_rfl) (by kernel_rfl) (e:=Extern.AbiNoEscape.same) (by kernel_rfl)]
 rw [Lib.run_noEscape]
 simp only [Result.andThen]
 rw [Oper.upon_value]
 go_wp2
 rw [Lib.run_from_unsafe w ⟨b,0,none⟩ Tryz.underlying190  Tryz.underlying110  hj hsh liesBuilder]
 simp only [Result.andThen]
 rw [Oper.upon_value]
 go_wp2
 go_end0
 exact ⟨rfl,rfl⟩
abbrev Bld (B b:Nat) (l:List UInt8) (w:World):Prop:=Lib.IsBuilder 113  5  B b (Lib.byteCells l) w
abbrev BldU (B b:Nat) (l:List UInt8) (w:World):Prop:=Lib.BuilderAt 113  5  B b (.pointer (some ⟨b,0,none⟩)) (Lib.byteCells l) w
def BldP (B b k:Nat) (o:Option Obj):Prop:=k≠b∧(k<B∨∀ c fr,o≠some (.cells c 5  fr))
theorem copyCheck_any (B b:Nat) (bs:List Value) (w:World) (h:Lib.IsBuilder 113  5  B b bs w) :
 Calls Tryz.prog 82 #[.pointer (some ⟨b,0,none⟩)] w fun e w'=>e=.returned (.tuple #[])∧Lib.BuilderAt 113  5  B b (.pointer (some ⟨b,0,none⟩)) bs w'∧Frm (BldP B b) w w':=by
 rcases h with h | h
 · refine (copyCheck_fresh b w h.cell0 h.shape h.frozen0).mono ?_
   rintro e w' ⟨rfl,rfl⟩
   exact ⟨rfl,h.used _,(Frm.refl _ w).setCell ⟨b,0,none⟩ _ (fun hp=>hp.1 rfl)⟩
 · refine (copyCheck_used b w h.cell0).mono ?_
   rintro e w' ⟨rfl,rfl⟩
   exact ⟨rfl,h,Frm.refl _ _⟩
theorem byteCells_app (l m:List UInt8):Lib.byteCells (l++m)=Lib.byteCells l++Lib.byteCells m:=by simp [Lib.byteCells]
theorem writeString_any (B b:Nat) (l:List UInt8) (s:ByteArray) (w:World) (h:Bld B b l w) (hlen:l.length+s.size≤1000000000) (hBw:B≤w.heap.size) :
 Calls Tryz.prog 53 #[.pointer (some ⟨b,0,none⟩),.string s] w fun e w'=>e=.returned (.tuple #[.int .i64 s.size,.nilIface])∧BldU B b (l++s.data.toList) w'∧Frm (BldP B b) w w':=by
 obtain ⟨i0,hi,hz0,hz1,hz2⟩:=info_parts infoByte
 have hlc:(Lib.byteCells l).length=l.length:=by simp [Lib.byteCells]
 unfold BldU; unfold Bld at h; rw [byteCells_app,show Lib.byteCells s.data.toList=Lib.strCells s from rfl]
 generalize Lib.byteCells l=bs at h hlc
 have hl2:bs.length+s.size≤1000000000:=by omega
 clear hlc
 go_enter Tryz.func53,Tryz.ntmps53
 go_wp2_with fail
 refine (copyCheck_any B b bs _ h).mono ?_
 rintro e w1 ⟨rfl,h1,F1⟩
 obtain ⟨hB,v,hbk,hown,hne⟩:=h1
 obtain ⟨c0,c1⟩:=cb2 hbk
 have hsz:=F1.size
 go_wp2_with (at_builtin; refine Lib.wpList_append_own_string _ rfl _ _ 111  9  rfl B 5  i0 Tryz.underlying111  Tryz.underlying9  hi hz0 hz1 hz2 _ _ _ rfl hown s rfl (by unfold maxLen; omega) (by omega) (by omega) ?_; intro v' w2 hown' hgrow _; obtain ⟨ao,cap,rfl⟩:=yos hown'; have hb2:=ygb hown hgrow hbk (by decide); have d0:=xC hb2 0; have d1:=xC hb2 1; have f1:=yfb hb2 1; simp only [xGe,xGz,xGs] at d0 d1; have G2:=hid (F1.trans ((Frm.refl (BldP B b) w1).grown hgrow (fun k hk hp=>by obtain ⟨hB,c,hc⟩:=yob hown k hk; exact hp.2.elim (fun h=>by omega) (fun h=>h _ _ hc)))); have HB:=hid hb2; have HO:=hid hown'; clear hown' hgrow hb2)
 go_ret2
 refine ⟨rfl,?_,G2.out.setCell ⟨b,1,none⟩ _ (fun hp=>hp.1 rfl)⟩
 exact Lib.BuilderAt.put (T:=113 ) (e:=5 ) hB HB.out (bs':=bs++Lib.strCells s) (by simpa [Lib.strCells_length] using HO.out) (by decide)
theorem bldAt_grown {B b:Nat} {p:Value} {bs:List Value} {w w':World} (h:Lib.BuilderAt 113  5  B b p bs w) (g:w.grownBy w' none):Lib.BuilderAt 113  5  B b p bs w':=by
 have hlt:=h.lt
 obtain ⟨hB,v,hb,hown,hne⟩:=h
 exact ⟨hB,v,by rw [g.block b hlt (by simp)]; exact hb,ownsRow_frm (Frm.of_grown g (fun _ _=>True)) hown (fun _ _ _ _=>trivial),hne⟩
theorem Bld.grown {B b:Nat} {l:List UInt8} {w w':World} (h:Bld B b l w) (g:w.grownBy w' none):Bld B b l w':=by
 rcases h with h | h
 · exact Or.inl (bldAt_grown h g)
 · exact Or.inr (bldAt_grown h g)
theorem grown_of_bld {w wr w1:World} {B b:Nat} (h:w.grownBy wr none) (f:Frm (BldP B b) wr w1) (hB:w.heap.size≤B) (hb:w.heap.size≤b):w.grownBy w1 none :=
 ⟨f.os.trans h.os,f.tape.trans h.tape,f.output.trans h.output,Nat.le_trans h.size f.size,fun k hk _ =>
  (f.block k (Nat.lt_of_lt_of_le hk h.size) ⟨by omega,Or.inl (by omega)⟩).trans (h.block k hk (by simp))⟩
def textList:List ByteArray:=[⟨#[49]⟩,⟨#[50,51]⟩,⟨#[43]⟩,⟨#[40]⟩,⟨#[41]⟩,⟨#[97,98]⟩,⟨#[105,102]⟩,⟨#[105,102,120]⟩,⟨#[32]⟩,⟨#[32,32]⟩,⟨#[10]⟩,⟨#[46,46]⟩,⟨#[46,46,46]⟩,⟨#[46]⟩,⟨#[35,97,32,98]⟩,⟨#[34,97,34]⟩,⟨#[34]⟩,⟨#[98]⟩]
def oddList:List ByteArray:=[⟨#[0]⟩,⟨#[195,169]⟩,⟨#[126]⟩]
theorem textList_le (xs:List Int) (k:Nat):(somev xs k textList).size≤4:=somev_all (fun x=>x.size≤4) xs k textList (by decide) (by decide)
theorem oddList_le (xs:List Int) (k:Nat):(somev xs k oddList).size≤2:=somev_all (fun x=>x.size≤2) xs k oddList (by decide) (by decide)
def TxtPost (b:Nat) (av:Option Addr) (cap:Nat) (xs:List Int) (w:World) (k:Nat) (e:Ending) (w':World):Prop:=∃ (t:ByteArray) (k':Nat),e=.returned (.string t)∧t.size≤38∧k'≤k+12∧Sto b av cap xs w w' k'
theorem atext_any {b:Nat} {av:Option Addr} {cap k:Nat} {xs:List Int} {w:World} (hk:k≤1000000) (hx2:xs.length≤9223372036854775807) (S:Strm b av cap xs w k) :
 Calls Tryz.prog 14 #[.pointer (some ⟨b,0,none⟩)] w (TxtPost b av cap xs w k):=by
 have r1:=rangev_bd xs k 0 9
 have r2:rangek k 0 9=k+1:=by unfold rangek; rw [if_neg (by omega)]
 obtain ⟨P,hP⟩:∃ P,TxtPost b av cap xs w k=P:=⟨_,rfl⟩
 rw [hP]
 have HP:=hid hP
 clear hP
 go_enter Tryz.func14,Tryz.ntmps14
 go_wp2_with fail
 refine (range_any 0 9 (by omega) (by omega) (by omega) hx2 S).mono ?_
 rintro e w1 ⟨rfl,T⟩
 rw [r2] at T
 clear r2
 obtain ⟨n,hn⟩:=Int.eq_ofNat_of_zero_le r1.1
 rw [hn]
 have hn2:n≤9:=by omega
 clear r1 hn
 go_wp2_with fail
 go_loopw [3,6] (fun out i wr=>∃ (j:Nat) (o:ByteArray) (k':Nat),j≤n∧i=.int .i64 j∧out=.string o∧o.size≤4*j∧k'=k+1+j∧Sto b av cap xs w wr k') (fun _ i _=>n-(intOf i).toNat)
 case atStart=>exact ⟨0,⟨#[]⟩,k+1,Nat.zero_le _,rfl,rfl,by decide,rfl,T⟩
 case round =>
  obtain ⟨j,o,k',hj,rfl,rfl,ho,hk',T⟩:=hrel
  by_cases hlt:j<n
  · have hk2:k'≤1073741824:=by omega
    have HK:=hid hk'
    have HO:=hid ho
    have z1:o.size≤1000000:=by omega
    clear hk' ho
    go_wp2_with fail
    refine (some_new textList (by decide) (by decide) hk2 hx2 T.strm).mono ?_
    rintro e w2 ⟨rfl,T2⟩
    have HT3:=hid (T.trans T2)
    clear T T2
    have z2:(somev xs k' textList).size≤4:=textList_le xs k'
    generalize somev xs k' textList=q at z2 ⊢
    have HQ:=hid z2
    go_wp2_with fail
    go_roundw
    case rel=>exact ⟨j+1,o++q,k'+1,by omega,by go_num,rfl,by have:=HO.out; have:=HQ.out; rw [ByteArray.size_append]; omega,by have:=HK.out; omega,HT3.out⟩
    case measure=>simp [intOf]; omega
  · obtain rfl:j=n:=by omega
    have hk2:k'≤1000010:=by omega
    have HK:=hid hk'
    have HO:=hid ho
    have z1:o.size≤1000000:=by omega
    clear hk' ho
    go_wp2_with fail
    refine (flip_any 30 (by omega) (by omega) hx2 T.strm).mono ?_
    rintro e w2 ⟨rfl,T2⟩
    have T3:=T.trans T2
    clear T T2
    obtain ⟨fb,hfb⟩:∃ fb,flipv xs k' 30=fb:=⟨_,rfl⟩
    rw [hfb]
    clear hfb
    rcases fb with _ | _
    · go_wp2_with fail
      rw [← HP.out]
      exact ⟨o,k'+1,rfl,by have:=HO.out; omega,by have:=HK.out; omega,T3⟩
    · go_wp2_with fail
      refine (some_new oddList (by decide) (by decide) (by omega) hx2 T3.strm).mono ?_
      rintro e w3 ⟨rfl,T4⟩
      have HT5:=hid (T3.trans T4)
      clear T3 T4
      have z2:(somev xs (k'+1) oddList).size≤2:=oddList_le xs (k'+1)
      generalize somev xs (k'+1) oddList=q at z2 ⊢
      have HQ:=hid z2
      go_wp2_with fail
      rw [← HP.out]
      exact ⟨o++q,k'+2,rfl,by have:=HO.out; have:=HQ.out; rw [ByteArray.size_append]; omega,by have:=HK.out; omega,HT5.out⟩
inductive Many (P:List UInt8→Prop):List UInt8→Prop where
 | none:Many P []
 | snoc (u v:List UInt8):Many P u→P v→v≠[]→Many P (u++v)
mutual
def Pt.Lg:Pt→List UInt8→Prop
 | .mk o l h aas=>fun u=>if o=1 then ∃ c:UInt8,u=[c]∧l≤(c.toNat:Int)∧(c.toNat:Int)≤h else if o=2 then LgT aas u else if o=3 then LgO aas u else Many (LgO aas) u
def LgT:List Pt→List UInt8→Prop
 | []=>fun u=>u=[]
 | a::aas=>fun u=>∃ x y,u=x++y∧a.Lg x∧LgT aas y
def LgO:List Pt→List UInt8→Prop
 | []=>fun _=>False
 | a::aas=>fun u=>a.Lg u∨LgO aas u
end
theorem many_nil (P:List UInt8→Prop):Many P []:=.none
theorem nul_iff (p:Pt):p.Lg []↔p.nul=true:=by
 induction p using Pt.ind with
 | h o l hi aas ih =>
  have hT:∀ bs:List Pt,(∀ a∈bs,a∈aas)→(LgT bs []↔nulAll bs=true):=by
   intro bs
   induction bs with
   | nil=>intro _; simp [LgT,nulAll]
   | cons a bs ihb =>
    intro hm
    simp only [LgT,nulAll,Bool.and_eq_true]
    rw [← ih a (hm a (by simp)),← ihb (fun x hx=>hm x (by simp [hx]))]
    constructor
    · rintro ⟨x,y,h,h1,h2⟩
      obtain ⟨rfl,rfl⟩:=List.append_eq_nil_iff.1 h.symm
      exact ⟨h1,h2⟩
    · rintro ⟨h1,h2⟩
      exact ⟨[],[],rfl,h1,h2⟩
  have hO:∀ bs:List Pt,(∀ a∈bs,a∈aas)→(LgO bs []↔nulAny bs=true):=by
   intro bs
   induction bs with
   | nil=>intro _; simp [LgO,nulAny]
   | cons a bs ihb =>
    intro hm
    simp only [LgO,nulAny,Bool.or_eq_true]
    rw [← ih a (hm a (by simp)),← ihb (fun x hx=>hm x (by simp [hx]))]
  simp only [Pt.Lg,Pt.nul]
  split
  · simp
  · split
    · exact hT aas (fun _ h=>h)
    · split
      · exact hO aas (fun _ h=>h)
      · simp [many_nil]
def seg (c:Nat→UInt8) (i n:Nat):List UInt8:=(List.range n).map fun k=>c (i+k)
theorem seg_length (c:Nat→UInt8) (i n:Nat):(seg c i n).length=n:=by simp [seg]
theorem seg_zero (c:Nat→UInt8) (i:Nat):seg c i 0=[]:=rfl
theorem seg_add (c:Nat→UInt8) (i n m:Nat):seg c i (n+m)=seg c i n++seg c (i+n) m:=by
 unfold seg
 rw [List.range_add,List.map_append,List.map_map]
 congr 1
 refine List.map_congr_left fun k _=>?_
 simp [Nat.add_assoc]
theorem seg_join (c:Nat→UInt8) (i j k:Nat) (h1:i≤j) (h2:j≤k):seg c i (k-i)=seg c i (j-i)++seg c j (k-j):=by
 rw [show k-i=(j-i)+(k-j) by omega,seg_add,show i+(j-i)=j by omega]
theorem seg_split (c:Nat→UInt8) (i n:Nat) (x y:List UInt8) (h:seg c i n=x++y):∃ m,m≤n∧x=seg c i m∧y=seg c (i+m) (n-m):=by
 have hl:n=x.length+y.length:=by rw [← seg_length c i n,h,List.length_append]
 refine ⟨x.length,by omega,?_⟩
 have h2:seg c i n=seg c i x.length++seg c (i+x.length) (n-x.length):=by
  rw [← seg_add]; congr 1; omega
 rw [h2] at h
 have:=List.append_inj h (by rw [seg_length])
 exact ⟨this.1.symm,this.2.symm⟩
theorem seg_ne (c:Nat→UInt8) (i n:Nat) (h:0<n):seg c i n≠[]:=by
 intro e
 have:=seg_length c i n
 rw [e] at this
 simp at this
 omega
def inRng (r:Int × Int) (c:UInt8):Bool:=decide (r.1≤(c.toNat:Int)) && decide ((c.toNat:Int)≤r.2)
structure RunA (c:Nat→UInt8) (b n:Nat) (B:List (Int × Int)) (O:Nat→List Nat) (A:Nat→Nat→Bool):Prop where
 start:∀ k,b≤k→k<b+n→A 0 k=false
 next:∀ j k,b≤k→k<b+n→A (j+1) k=(decide (k∈O j) && inRng (B.getD (k-b) (0,-1)) (c j))
theorem opnT_bd (A:Nat→Bool) (aas:List Pt) (b:Nat) (β:Bool):∀ k∈opnT A aas b β,b≤k∧k<b+ylL aas:=by
 have:=(opn_bd A (.mk 2 0 0 aas) b β).1
 simpa [Pt.opn,Pt.leaves] using this
theorem RunA.left {c:Nat→UInt8} {b n m:Nat} {B1 B2:List (Int × Int)} {O O1:Nat→List Nat} {A:Nat→Nat→Bool} (h:RunA c b (n+m) (B1++B2) O A) (hB:B1.length=n)
 (hO:∀ j k,k<b+n→(k∈O j↔k∈O1 j)):RunA c b n B1 O1 A:=by
 refine ⟨fun k h1 h2=>h.start k h1 (by omega),fun j k h1 h2=>?_⟩
 rw [h.next j k h1 (by omega),decide_eq_decide.2 (hO j k h2)]
 congr 2
 rw [List.getD_eq_getElem?_getD,List.getD_eq_getElem?_getD,List.getElem?_append_left (by omega)]
theorem RunA.right {c:Nat→UInt8} {b n m:Nat} {B1 B2:List (Int × Int)} {O O2:Nat→List Nat} {A:Nat→Nat→Bool} (h:RunA c b (n+m) (B1++B2) O A) (hB:B1.length=n)
 (hO:∀ j k,b+n≤k→(k∈O j↔k∈O2 j)):RunA c (b+n) m B2 O2 A:=by
 refine ⟨fun k h1 h2=>h.start k (by omega) (by omega),fun j k h1 h2=>?_⟩
 rw [h.next j k (by omega) (by omega),decide_eq_decide.2 (hO j k h1)]
 congr 2
 rw [List.getD_eq_getElem?_getD,List.getD_eq_getElem?_getD,List.getElem?_append_right (by omega)]
 congr 2
 omega
def Tells (c:Nat→UInt8) (p:Pt):Prop :=
 ∀ (b:Nat) (β:Nat→Bool) (A:Nat→Nat→Bool),RunA c b p.leaves p.bytes (fun j=>p.opn (A j) b (β j)) A→∀ j,p.dn (A j) b=true↔∃ i,i<j∧β i=true∧p.Lg (seg c i (j-i))
theorem tells_O (c:Nat→UInt8):∀ (aas:List Pt),(∀ a∈aas,Tells c a)→∀ (b:Nat) (β:Nat→Bool) (A:Nat→Nat→Bool),RunA c b (ylL aas) (bytesL aas) (fun j=>opnO (A j) aas b (β j)) A →
 ∀ j,dnO (A j) aas b=true↔∃ i,i<j∧β i=true∧LgO aas (seg c i (j-i))
 | [],_,b,β,A,_,j=>by simp [dnO,LgO]
 | a::aas,ha,b,β,A,h,j=>by
  have h1:RunA c b a.leaves a.bytes (fun j=>a.opn (A j) b (β j)) A:=RunA.left h (Pt.bytes_length a) (fun j k hk=>by
   simp only [opnO,List.mem_append]
   exact ⟨fun h=>h.elim id (fun h=>by have:=((opnO_bd (A j) aas (b+a.leaves) (β j)).1 k h).1; omega),.inl⟩)
  have h2:RunA c (b+a.leaves) (ylL aas) (bytesL aas) (fun j=>opnO (A j) aas (b+a.leaves) (β j)) A:=RunA.right h (Pt.bytes_length a) (fun j k hk=>by
   simp only [opnO,List.mem_append]
   exact ⟨fun h=>h.elim (fun h=>by have:=((opn_bd (A j) a b (β j)).1 k h).2; omega) id,.inr⟩)
  have e1:=ha a (by simp) b β A h1 j
  have e2:=tells_O c aas (fun x hx=>ha x (by simp [hx])) (b+a.leaves) β A h2 j
  simp only [dnO,Bool.or_eq_true,LgO]
  rw [e1,e2]
  constructor
  · rintro (⟨i,x,y,z⟩ | ⟨i,x,y,z⟩)
    · exact ⟨i,x,y,.inl z⟩
    · exact ⟨i,x,y,.inr z⟩
  · rintro ⟨i,x,y,z | z⟩
    · exact .inl ⟨i,x,y,z⟩
    · exact .inr ⟨i,x,y,z⟩
theorem nulAll_iff (aas:List Pt):LgT aas []↔nulAll aas=true:=by
 have:=nul_iff (.mk 2 0 0 aas)
 simpa [Pt.Lg,Pt.nul] using this
theorem tells_T (c:Nat→UInt8):∀ (aas:List Pt),(∀ a∈aas,Tells c a)→∀ (b:Nat) (β:Nat→Bool) (A:Nat→Nat→Bool),RunA c b (ylL aas) (bytesL aas) (fun j=>opnT (A j) aas b (β j)) A →
 ∀ (j:Nat) (d:Bool),dnT (A j) aas b d=true↔(d=true∧nulAll aas=true)∨∃ i,i<j∧β i=true∧LgT aas (seg c i (j-i))
 | [],_,b,β,A,_,j,d=>by
  simp only [dnT,LgT,nulAll]
  constructor
  · exact fun h=>.inl ⟨h,trivial⟩
  · rintro (⟨h,_⟩ | ⟨i,h1,_,h3⟩)
    · exact h
    · exact absurd h3 (seg_ne c i _ (by omega))
 | a::aas,ha,b,β,A,h,j,d=>by
  have h1:RunA c b a.leaves a.bytes (fun j=>a.opn (A j) b (β j)) A:=RunA.left h (Pt.bytes_length a) (fun j k hk=>by
   simp only [opnT,List.mem_append]
   exact ⟨fun h=>h.elim id (fun h=>by have:=(opnT_bd (A j) aas (b+a.leaves) _ k h).1; omega),.inl⟩)
  have h2:RunA c (b+a.leaves) (ylL aas) (bytesL aas) (fun j=>opnT (A j) aas (b+a.leaves) (a.dn (A j) b || β j && a.nul)) A:=RunA.right h (Pt.bytes_length a) (fun j k hk=>by
   simp only [opnT,List.mem_append]
   exact ⟨fun h=>h.elim (fun h=>by have:=((opn_bd (A j) a b (β j)).1 k h).2; omega) id,.inr⟩)
  have e1:=ha a (by simp) b β A h1
  have e2:=tells_T c aas (fun x hx=>ha x (by simp [hx])) (b+a.leaves) (fun j=>a.dn (A j) b || β j && a.nul) A h2 j (a.dn (A j) b || d && a.nul)
  simp only [dnT,nulAll,LgT,Bool.and_eq_true] at e2 ⊢
  rw [e2]
  simp only [Bool.or_eq_true,Bool.and_eq_true]
  constructor
  · rintro (⟨h3 | ⟨h3,h4⟩,h5⟩ | ⟨i,h3,h4 | ⟨h4,h5⟩,h6⟩)
    · obtain ⟨i,h6,h7,h8⟩:=(e1 j).1 h3
      exact .inr ⟨i,h6,h7,_,[],(List.append_nil _).symm,h8,(nulAll_iff aas).2 h5⟩
    · exact .inl ⟨h3,h4,h5⟩
    · obtain ⟨i0,h7,h8,h9⟩:=(e1 i).1 h4
      exact .inr ⟨i0,by omega,h8,_,_,seg_join c i0 i j (by omega) (by omega),h9,h6⟩
    · exact .inr ⟨i,h3,h4,[],_,rfl,(nul_iff a).2 h5,h6⟩
  · rintro (⟨h3,h4,h5⟩ | ⟨i,h3,h4,x,y,h5,h6,h7⟩)
    · exact .inl ⟨.inr ⟨h3,h4⟩,h5⟩
    · obtain ⟨m,hm,rfl,rfl⟩:=seg_split c i _ x y h5
      rcases Nat.eq_zero_or_pos m with rfl | hpos
      · exact .inr ⟨i,h3,.inr ⟨h4,(nul_iff a).1 h6⟩,by simpa using h7⟩
      · have h8:a.dn (A (i+m)) b=true:=(e1 (i+m)).2 ⟨i,by omega,h4,by rw [show i+m-i=m by omega]; exact h6⟩
        by_cases hj:i+m=j
        · refine .inl ⟨.inl (by rw [← hj]; exact h8),(nulAll_iff aas).1 ?_⟩
          rw [show j-i-m=0 by omega,seg_zero] at h7
          exact h7
        · exact .inr ⟨i+m,by omega,.inl h8,by rw [show j-(i+m)=j-i-m by omega]; exact h7⟩
theorem many_of (c:Nat→UInt8) (P:List UInt8→Prop) (β D:Nat→Bool) (hD:∀ j,D j=true↔∃ i,i<j∧(β i || D i)=true∧P (seg c i (j-i))):∀ j,D j=true↔∃ i,i<j∧β i=true∧Many P (seg c i (j-i)):=by
 intro j
 induction j using Nat.strongRecOn with
 | _ j ih =>
  rw [hD j]
  constructor
  · rintro ⟨i,h1,h2,h3⟩
    rcases Bool.or_eq_true _ _ ▸ h2 with h2 | h2
    · exact ⟨i,h1,h2,by have:=Many.snoc [] _ (Many.none (P:=P)) h3 (seg_ne c i _ (by omega)); simpa using this⟩
    · obtain ⟨i0,h4,h5,h6⟩:=(ih i h1).1 h2
      exact ⟨i0,by omega,h5,by rw [seg_join c i0 i j (by omega) (by omega)]; exact Many.snoc _ _ h6 h3 (seg_ne c i _ (by omega))⟩
  · rintro ⟨i,h1,h2,h3⟩
    generalize hs:seg c i (j-i)=u at h3
    cases h3 with
    | none=>exact absurd hs (seg_ne c i _ (by omega))
    | snoc u v h4 h5 h6 =>
     obtain ⟨m,hm,rfl,rfl⟩:=seg_split c i _ u v hs
     have hlt:m<j-i:=by
      rcases Nat.lt_or_ge m (j-i) with h | h
      · exact h
      · exfalso; apply h6; rw [show j-i-m=0 by omega]; rfl
     rcases Nat.eq_zero_or_pos m with rfl | hpos
     · exact ⟨i,h1,by rw [h2]; rfl,by simpa using h5⟩
     · refine ⟨i+m,by omega,?_,by rw [show j-(i+m)=j-i-m by omega]; exact h5⟩
       rw [(ih (i+m) (by omega)).2 ⟨i,by omega,h2,by rw [show i+m-i=m by omega]; exact h4⟩]
       simp
theorem tells (c:Nat→UInt8) (p:Pt):Tells c p:=by
 induction p using Pt.ind with
 | h o l hi aas ih =>
  intro b β A h j
  simp only [Pt.dn,Pt.Lg]
  simp only [Pt.opn,Pt.leaves,Pt.bytes] at h
  by_cases h1:o=1
  · simp only [if_pos h1] at h ⊢
    cases j with
    | zero =>
     rw [h.start b (Nat.le_refl _) (by omega)]
     simp
    | succ j =>
     rw [h.next j b (Nat.le_refl _) (by omega)]
     simp only [Nat.sub_self,List.getD_cons_zero,inRng,Bool.and_eq_true,decide_eq_true_eq]
     constructor
     · rintro ⟨h2,h3,h4⟩
       have hb:β j=true:=by
        by_cases hb:β j=true
        · exact hb
        · simp [hb] at h2
       refine ⟨j,by omega,hb,c j,?_,h3,h4⟩
       rw [show j+1-j=1 by omega]
       simp [seg]
     · rintro ⟨i,h2,h3,x,h4,h5,h6⟩
       have hl:=seg_length c i (j+1-i)
       rw [h4] at hl
       simp at hl
       obtain rfl:i=j:=by omega
       rw [show i+1-i=1 by omega] at h4
       simp [seg] at h4
       subst h4
       exact ⟨by simp [h3],h5,h6⟩
  · simp only [if_neg h1] at h ⊢
    by_cases h2:o=2
    · simp only [if_pos h2] at h ⊢
      have:=tells_T c aas ih b β A h j false
      simpa using this
    · simp only [if_neg h2] at h ⊢
      by_cases h3:o=3
      · simp only [if_pos h3] at h ⊢
        exact tells_O c aas ih b β A h j
      · simp only [if_neg h3] at h ⊢
        exact many_of c (LgO aas) β (fun j=>dnO (A j) aas b) (fun j=>tells_O c aas ih b (fun j=>β j || dnO (A j) aas b) A h j) j
def thr (A:Nat→Bool):List Pt→Nat→Bool→Nat→Bool
 | [],_,β,_=>β
 | _::_,_,β,0=>β
 | p::ps,b,β,k+1=>thr A ps (b+p.leaves) (p.dn A b || β && p.nul) k
def chB (A:Nat→Bool) (o:Int) (ps:List Pt) (b:Nat) (β:Bool) (k:Nat):Bool:=if o=2 then thr A ps b β k else if o=3 then β else β || dnO A ps b
mutual
def Pt.dns (A:Nat→Bool):Pt→Nat→List Bool
 | .mk o l h ps,b=>(Pt.mk o l h ps).dn A b::dnsL A ps b
def dnsL (A:Nat→Bool):List Pt→Nat→List Bool
 | [],_=>[]
 | p::ps,b=>p.dns A b++dnsL A ps (b+p.leaves)
end
mutual
def Pt.bgs (A:Nat→Bool):Pt→Nat→Bool→List Bool
 | .mk o _ _ ps,b,β=>β::bgsW A ps b (chB A o ps b β)
def bgsW (A:Nat→Bool):List Pt→Nat→(Nat→Bool)→List Bool
 | [],_,_=>[]
 | p::ps,b,β=>p.bgs A b (β 0)++bgsW A ps (b+p.leaves) (fun k=>β (k+1))
end
mutual
theorem Pt.dns_len (A:Nat→Bool):(p:Pt)→(b:Nat)→(p.dns A b).length=p.size
 | .mk o l h ps,b=>by simp only [Pt.dns,Pt.size,List.length_cons,dnsL_len A ps]; omega
theorem dnsL_len (A:Nat→Bool):(ps:List Pt)→(b:Nat)→(dnsL A ps b).length=sizes ps
 | [],_=>rfl
 | p::ps,b=>by simp [dnsL,sizes,Pt.dns_len A p,dnsL_len A ps]
end
mutual
theorem Pt.bgs_len (A:Nat→Bool):(p:Pt)→(b:Nat)→(β:Bool)→(p.bgs A b β).length=p.size
 | .mk o l h ps,b,β=>by simp only [Pt.bgs,Pt.size,List.length_cons,bgsW_len A ps]; omega
theorem bgsW_len (A:Nat→Bool):(ps:List Pt)→(b:Nat)→(β:Nat→Bool)→(bgsW A ps b β).length=sizes ps
 | [],_,_=>rfl
 | p::ps,b,β=>by simp [bgsW,sizes,Pt.bgs_len A p,bgsW_len A ps]
end
theorem size_pos (p:Pt):0<p.size:=by obtain ⟨o,l,h,ps⟩:=p; simp only [Pt.size]; omega
theorem root_at (A:Nat→Bool) (ps:List Pt):∀ (i0 b0 k:Nat) (hk:k<ps.length),
 (nodesL ps i0 b0)[sizes (ps.take k)]? = some ⟨ps[k].op,i0+sizes (ps.take k)+ps[k].size,ps[k].nul,b0+ylL (ps.take k)⟩ ∧
 (dnsL A ps b0)[sizes (ps.take k)]? = some (ps[k].dn A (b0+ylL (ps.take k)))∧∀ β,(bgsW A ps b0 β)[sizes (ps.take k)]? = some (β k):=by
 induction ps with
 | nil=>intro i0 b0 k hk; simp at hk
 | cons p ps ih =>
  intro i0 b0 k hk
  cases k with
  | zero =>
   obtain ⟨o,l,h,qs⟩:=p
   refine ⟨?_,?_,fun β=>?_⟩
   · simp [nodesL,sizes,ylL,Pt.nodes,Pt.op,Pt.size]
   · simp [dnsL,sizes,ylL,Pt.dns]
   · simp [bgsW,sizes,Pt.bgs]
  | succ k =>
   obtain ⟨h1,h2,h3⟩:=ih (i0+p.size) (b0+p.leaves) k (by simpa using hk)
   simp only [List.take_succ_cons,nodesL,dnsL,bgsW,sizes,ylL,List.getElem_cons_succ]
   refine ⟨?_,?_,fun β=>?_⟩
   · rw [List.getElem?_append_right (by rw [Pt.nodes_len]; omega),Pt.nodes_len,Nat.add_sub_cancel_left,h1]
     simp [Nat.add_assoc]
   · rw [List.getElem?_append_right (by rw [Pt.dns_len]; omega),Pt.dns_len,Nat.add_sub_cancel_left,h2]
     simp [Nat.add_assoc]
   · rw [List.getElem?_append_right (by rw [Pt.bgs_len]; omega),Pt.bgs_len,Nat.add_sub_cancel_left,h3]
structure NodeAt (A:Nat→Bool) (ps:List Pt) (i0 b0 i:Nat) (q:Pt) (b:Nat):Prop where
 right:Right q
 size:i+q.size≤sizes ps
 lo:b0≤b
 hi:b+q.leaves≤b0+ylL ps
 node:(nodesL ps i0 b0)[i]? = some ⟨q.op,i0+i+q.size,q.nul,b⟩
 done:(dnsL A ps b0)[i]? = some (q.dn A b)
 kid:∀ k (hk:k<q.args.length),(nodesL ps i0 b0)[i+1+sizes (q.args.take k)]? = some ⟨q.args[k].op,i0+(i+1+sizes (q.args.take k))+q.args[k].size,q.args[k].nul,b+ylL (q.args.take k)⟩
 kidDone:∀ k (hk:k<q.args.length),(dnsL A ps b0)[i+1+sizes (q.args.take k)]? = some (q.args[k].dn A (b+ylL (q.args.take k)))
 begun:∀ β,∃ γ,(bgsW A ps b0 β)[i]? = some γ∧∀ k,k<q.args.length→(bgsW A ps b0 β)[i+1+sizes (q.args.take k)]? = some (chB A q.op q.args b γ k)
theorem sizes_take_lt (ps:List Pt) (k:Nat) (h:k<ps.length):sizes (ps.take k)<sizes ps:=by
 have:=sizes_take ps k h; have:=sizes_take_le ps (k+1); have:=size_pos ps[k]; omega
theorem right_args {o l h:Int} {qs:List Pt} (hrp:Right (.mk o l h qs)):(∀ q∈qs,Right q)∧ylL qs≤(Pt.mk o l h qs).leaves:=by
 cases hrp with
 | mk _ _ _ _ _ hf _ ha =>
  refine ⟨ha,?_⟩
  simp only [Pt.leaves]
  split
  · rename_i h1
    subst h1
    have:qs=[]:=List.eq_nil_of_length_eq_zero (by simpa [formB] using hf)
    subst this
    simp [ylL]
  · exact Nat.le_refl _
theorem NodeAt.here (A:Nat→Bool) (o l h:Int) (qs ps:List Pt) (i0 b0:Nat) (hrp:Right (.mk o l h qs)):NodeAt A (.mk o l h qs::ps) i0 b0 0 (.mk o l h qs) b0:=by
 obtain ⟨hrq,hlv⟩:=right_args hrp
 refine ⟨hrp,by simp [sizes],Nat.le_refl _,by simp only [ylL]; omega,?_,?_,?_,?_,?_⟩
 · simp [nodesL,Pt.nodes,Pt.op,Pt.size]
 · simp [dnsL,Pt.dns]
 · intro k hk
   have hlt:=sizes_take_lt qs k hk
   obtain ⟨h1,_,_⟩:=root_at A qs (i0+1) b0 k hk
   simp only [nodesL,Pt.nodes,Pt.args] at hk ⊢
   rw [List.getElem?_append_left (by simp only [List.length_cons,nodesL_len]; omega),show 0+1+sizes (qs.take k)=sizes (qs.take k)+1 by omega,xGs,h1]
   simp [Nat.add_assoc]
   omega
 · intro k hk
   have hlt:=sizes_take_lt qs k hk
   obtain ⟨_,h1,_⟩:=root_at A qs (i0+1) b0 k hk
   simp only [dnsL,Pt.dns,Pt.args] at hk ⊢
   rw [List.getElem?_append_left (by simp only [List.length_cons,dnsL_len]; omega),show 0+1+sizes (qs.take k)=sizes (qs.take k)+1 by omega,xGs,h1]
 · intro β
   refine ⟨β 0,by simp [bgsW,Pt.bgs],fun k hk=>?_⟩
   have hlt:=sizes_take_lt qs k hk
   obtain ⟨_,_,h1⟩:=root_at A qs (i0+1) b0 k hk
   simp only [bgsW,Pt.bgs,Pt.args,Pt.op] at hk ⊢
   rw [List.getElem?_append_left (by simp only [List.length_cons,bgsW_len]; omega),show 0+1+sizes (qs.take k)=sizes (qs.take k)+1 by omega,xGs,h1]
theorem NodeAt.inside {A:Nat→Bool} {o l h:Int} {qs ps:List Pt} {i0 b0 i:Nat} {q:Pt} {b:Nat} (hrp:Right (.mk o l h qs)) (N:NodeAt A qs (i0+1) b0 i q b):NodeAt A (.mk o l h qs::ps) i0 b0 (i+1) q b:=by
 obtain ⟨hrq,hlv⟩:=right_args hrp
 have h2:=N.size
 have hq:q.size=1+sizes q.args:=by obtain ⟨_,_,_,_⟩:=q; rfl
 refine ⟨N.right,by simp only [sizes,Pt.size]; omega,N.lo,by have:=N.hi; simp only [ylL]; omega,?_,?_,?_,?_,?_⟩
 · simp only [nodesL,Pt.nodes]
   rw [List.getElem?_append_left (by simp only [List.length_cons,nodesL_len]; omega),xGs,N.node]
   simp; omega
 · simp only [dnsL,Pt.dns]
   rw [List.getElem?_append_left (by simp only [List.length_cons,dnsL_len]; omega),xGs,N.done]
 · intro k hk
   have h4:=N.kid k hk
   have hlt:=sizes_take_lt q.args k hk
   simp only [nodesL,Pt.nodes]
   rw [List.getElem?_append_left (by simp only [List.length_cons,nodesL_len]; omega),show i+1+1+sizes (q.args.take k)=(i+1+sizes (q.args.take k))+1 by omega,xGs,h4]
   simp; omega
 · intro k hk
   have h4:=N.kidDone k hk
   have hlt:=sizes_take_lt q.args k hk
   simp only [dnsL,Pt.dns]
   rw [List.getElem?_append_left (by simp only [List.length_cons,dnsL_len]; omega),show i+1+1+sizes (q.args.take k)=(i+1+sizes (q.args.take k))+1 by omega,xGs,h4]
 · intro β
   obtain ⟨γ,h3,h4⟩:=N.begun (chB A o qs b0 (β 0))
   simp only [bgsW,Pt.bgs]
   refine ⟨γ,?_,fun k hk=>?_⟩
   · rw [List.getElem?_append_left (by simp only [List.length_cons,bgsW_len]; omega),xGs,h3]
   · have hlt:=sizes_take_lt q.args k hk
     rw [List.getElem?_append_left (by simp only [List.length_cons,bgsW_len]; omega),show i+1+1+sizes (q.args.take k)=(i+1+sizes (q.args.take k))+1 by omega,xGs,h4 k hk]
theorem NodeAt.behind {A:Nat→Bool} {p:Pt} {ps:List Pt} {i0 b0 i:Nat} {q:Pt} {b:Nat} (hi:p.size≤i) (N:NodeAt A ps (i0+p.size) (b0+p.leaves) (i-p.size) q b):NodeAt A (p::ps) i0 b0 i q b:=by
 have h2:=N.size
 refine ⟨N.right,by simp only [sizes]; omega,by have:=N.lo; omega,by have:=N.hi; simp only [ylL]; omega,?_,?_,?_,?_,?_⟩
 · simp only [nodesL]
   rw [List.getElem?_append_right (by rw [Pt.nodes_len]; omega),Pt.nodes_len,N.node]
   simp; omega
 · simp only [dnsL]
   rw [List.getElem?_append_right (by rw [Pt.dns_len]; omega),Pt.dns_len,N.done]
 · intro k hk
   have h4:=N.kid k hk
   simp only [nodesL]
   rw [List.getElem?_append_right (by rw [Pt.nodes_len]; omega),Pt.nodes_len,show i+1+sizes (q.args.take k)-p.size=i-p.size+1+sizes (q.args.take k) by omega,h4]
   simp; omega
 · intro k hk
   have h4:=N.kidDone k hk
   simp only [dnsL]
   rw [List.getElem?_append_right (by rw [Pt.dns_len]; omega),Pt.dns_len,show i+1+sizes (q.args.take k)-p.size=i-p.size+1+sizes (q.args.take k) by omega,h4]
 · intro β
   obtain ⟨γ,h3,h4⟩:=N.begun (fun k=>β (k+1))
   simp only [bgsW]
   refine ⟨γ,?_,fun k hk=>?_⟩
   · rw [List.getElem?_append_right (by rw [Pt.bgs_len]; omega),Pt.bgs_len,h3]
   · rw [List.getElem?_append_right (by rw [Pt.bgs_len]; omega),Pt.bgs_len,show i+1+sizes (q.args.take k)-p.size=i-p.size+1+sizes (q.args.take k) by omega,h4 k hk]
theorem node_at (A:Nat→Bool) (n:Nat):∀ (ps:List Pt) (i0 b0 i:Nat),sizes ps≤n→(∀ p∈ps,Right p)→i<sizes ps →
 (∃ q b,NodeAt A ps i0 b0 i q b)∧((∃ k,k<ps.length∧i=sizes (ps.take k))∨∃ j q b k,j<i∧NodeAt A ps i0 b0 j q b∧k<q.args.length∧i=j+1+sizes (q.args.take k)):=by
 induction n with
 | zero=>intro ps i0 b0 i hn _ hi; omega
 | succ n ih =>
  intro ps i0 b0 i hn hr hi
  cases ps with
  | nil=>simp [sizes] at hi
  | cons p ps =>
   by_cases hb:i<p.size
   · obtain ⟨o,l,h,qs⟩:=p
     have hrp:=hr _ (List.mem_cons_self ..)
     obtain ⟨hrq,hlv⟩:=right_args hrp
     have hsz:(Pt.mk o l h qs).size=1+sizes qs:=rfl
     cases i with
     | zero=>exact ⟨⟨_,_,NodeAt.here A o l h qs ps i0 b0 hrp⟩,.inl ⟨0,by simp,by simp [sizes]⟩⟩
     | succ i =>
      obtain ⟨⟨q,b,N⟩,h2⟩:=ih qs (i0+1) b0 i (by simp only [sizes,Pt.size] at hn; omega) hrq (by omega)
      refine ⟨⟨q,b,N.inside hrp⟩,.inr ?_⟩
      rcases h2 with ⟨k,hk,e⟩ | ⟨j,q',b',k,hj,N',hk,e⟩
      · exact ⟨0,_,b0,k,by omega,NodeAt.here A o l h qs ps i0 b0 hrp,hk,by simp only [Pt.args]; omega⟩
      · exact ⟨j+1,q',b',k,by omega,N'.inside hrp,hk,by omega⟩
   · have hp:=size_pos p
     obtain ⟨⟨q,b,N⟩,h2⟩:=ih ps (i0+p.size) (b0+p.leaves) (i-p.size) (by simp only [sizes] at hn; omega) (fun x hx=>hr x (by simp [hx])) (by simp only [sizes] at hi; omega)
     refine ⟨⟨q,b,N.behind (by omega)⟩,?_⟩
     rcases h2 with ⟨k,hk,e⟩ | ⟨j,q',b',k,hj,N',hk,e⟩
     · exact .inl ⟨k+1,by simpa using hk,by simp only [List.take_succ_cons,sizes]; omega⟩
     · exact .inr ⟨j+p.size,q',b',k,by omega,NodeAt.behind (by omega) (by rw [Nat.add_sub_cancel]; exact N'),hk,by omega⟩
theorem kid_same {A:Nat→Bool} {ps:List Pt} {i0 b0 i:Nat} {q q':Pt} {b b':Nat} (N:NodeAt A ps i0 b0 i q b) (N':NodeAt A ps i0 b0 i q' b') (k:Nat) (hk:k<q'.args.length) :
 k<q.args.length∧sizes (q.args.take k)=sizes (q'.args.take k):=by
 have hq:q.size=1+sizes q.args:=by obtain ⟨_,_,_,_⟩:=q; rfl
 have hq':q'.size=1+sizes q'.args:=by obtain ⟨_,_,_,_⟩:=q'; rfl
 have hs:q.size=q'.size:=by
  have:=N.node.symm.trans N'.node
  simp at this
  omega
 have key:∀ k,k≤q'.args.length→k≤q.args.length∧sizes (q.args.take k)=sizes (q'.args.take k):=by
  intro k
  induction k with
  | zero=>intro _; simp [sizes]
  | succ k ih =>
   intro hk
   obtain ⟨h1,h2⟩:=ih (by omega)
   have hlt:k<q.args.length:=by
    rcases Nat.lt_or_ge k q.args.length with h | h
    · exact h
    · have e1:q.args.take k=q.args:=List.take_of_length_le h
      rw [e1] at h2
      have:=sizes_take_lt q'.args k (by omega)
      omega
   refine ⟨hlt,?_⟩
   rw [sizes_take _ _ hlt,sizes_take _ _ (show k<q'.args.length by omega),h2]
   have e1:=N.kid k hlt
   have e2:=N'.kid k (by omega)
   rw [h2] at e1
   have:=e1.symm.trans e2
   simp at this
   omega
 have h1:=key (k+1) (by omega)
 have h2:=key k (by omega)
 exact ⟨by omega,h2.2⟩
end Go.Proofs.YtplbacfjmajeeaaGreatDoor
