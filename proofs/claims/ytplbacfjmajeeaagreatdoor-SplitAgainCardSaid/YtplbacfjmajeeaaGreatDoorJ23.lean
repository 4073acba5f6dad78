import Derived.Test.YtplbacfjmajeeaaGreatDoorJ22
import Derived.WideMake
namespace Go.Proofs.YtplbacfjmajeeaaGreatDoor
open Go.Lib (hid)
set_option maxHeartbeats 4000000
set_option maxRecDepth 100000
open Go.RowKit
def natI (l:List Nat):List Int:=l.map (Nat.cast:Nat→Int)
theorem natI_len (l:List Nat):(natI l).length=l.length:=by simp [natI]
theorem natI_append (a b:List Nat):natI (a++b)=natI a++natI b:=by simp [natI]
theorem Sp.iff {w:World} {base X:Nat} {d:SpD} {c:Nat} {V:SpV} {extra:List Row} (S:Sp w base X d c V extra) {G:Nat→Nat→Prop} (h:∀ a b,d.F a b↔G a b):Sp w base X { d with F:=G } c V extra :=
 ⟨S.blk,S.rows,S.len,fun i mm hi=>⟨(S.maps i mm hi).1,(S.maps i mm hi).2.iff (h i)⟩,S.nd,S.size,S.ek⟩
def LinkP (fo as_:List Nat) (k:Nat) (_:Option Obj):Prop:=∀ i∈as_,fo[i]?≠some k
def LinkF (F:Nat→Nat→Prop) (as_ bs:List Nat) (j k:Nat) (a b:Nat):Prop:=F a b∨(a∈as_.take j∧b∈bs)∨(as_[j]? = some a∧b∈bs.take k)
theorem linkF_next (F:Nat→Nat→Prop) (as_ bs:List Nat) (j:Nat) (hj:j<as_.length) (a b:Nat):LinkF F as_ bs j bs.length a b↔LinkF F as_ bs (j+1) 0 a b:=by
 unfold LinkF
 rw [List.take_succ_eq_append_getElem hj,List.getElem?_eq_getElem hj]
 simp only [List.mem_append,List.mem_singleton,List.take_zero,List.not_mem_nil,and_false,or_false,List.take_length,Option.some.injEq]
 constructor
 · rintro (h | h | ⟨h1,h2⟩)
   · exact .inl h
   · exact .inr ⟨.inl h.1,h.2⟩
   · exact .inr ⟨.inr h1.symm,h2⟩
 · rintro (h | ⟨h1 | h1,h2⟩)
   · exact .inl h
   · exact .inr (.inl ⟨h1,h2⟩)
   · exact .inr (.inr ⟨h1.symm,h2⟩)
theorem linkF_step (F:Nat→Nat→Prop) (as_ bs:List Nat) (j k:Nat) (hj:j<as_.length) (hk:k<bs.length) (a b:Nat):(LinkF F as_ bs j k a b∨(a=as_[j]∧b=bs[k]))↔LinkF F as_ bs j (k+1) a b:=by
 unfold LinkF
 rw [List.take_succ_eq_append_getElem hk,List.getElem?_eq_getElem hj]
 simp only [List.mem_append,List.mem_singleton,Option.some.injEq]
 constructor
 · rintro ((h | h | ⟨h1,h2⟩) | ⟨h1,h2⟩)
   · exact .inl h
   · exact .inr (.inl h)
   · exact .inr (.inr ⟨h1,.inl h2⟩)
   · exact .inr (.inr ⟨h1.symm,.inr h2⟩)
 · rintro (h | h | ⟨h1,h2 | h2⟩)
   · exact .inl (.inl h)
   · exact .inl (.inr (.inl h))
   · exact .inl (.inr (.inr ⟨h1,h2⟩))
   · exact .inr ⟨h1.symm,h2⟩
theorem linkF_zero (F:Nat→Nat→Prop) (as_ bs:List Nat) (a b:Nat):F a b↔LinkF F as_ bs 0 0 a b:=by simp [LinkF]
theorem linkF_all (F:Nat→Nat→Prop) (as_ bs:List Nat) (a b:Nat):LinkF F as_ bs as_.length 0 a b↔(F a b∨(a∈as_∧b∈bs)):=by simp [LinkF]
theorem link_cell {w w':World} {base X:Nat} {d:SpD} {c:Nat} {V:SpV} {extra:List Row} (S:Sp w base X d c V extra) {as_:List Nat} (f:Frm (LinkP d.fo as_) w w') {a:Addr} {u:Value} (h:w.cell? a=some u):w'.cell? a=some u:=by
 have hlt:=World.block_lt_of_cell? w a h
 have e:w'.heap[a.block]? = w.heap[a.block]?:=f.block _ hlt (fun i _ e=>by
  obtain ⟨es,k,hb⟩:=(S.maps i _ e).2.blk
  unfold World.cell? at h
  rw [hb] at h
  simp at h)
 unfold World.cell? at h ⊢
 rw [e]; exact h
theorem link_ints {w w':World} {base X:Nat} {d:SpD} {c:Nat} {V:SpV} {extra:List Row} (S:Sp w base X d c V extra) {as_:List Nat} (f:Frm (LinkP d.fo as_) w w') {v:Value} {xs:List Int} (h:Ints w v xs):Ints w' v xs :=
 h.kept fun _ _ _ hc=>link_cell S f hc
theorem link_ext {w0 w w':World} {base X:Nat} {rs0:List Row} {d:SpD} {c:Nat} {V:SpV} {extra:List Row} (_:Sp w base X d c V extra) (E:Ext X w0 rs0 w (spRows d V)) {as_:List Nat} (f:Frm (LinkP d.fo as_) w w') (hn:∀ i∈as_,∀ k,d.fo[i]? = some k→w0.heap.size≤k):Ext X w0 rs0 w' (spRows d V) :=
 ⟨⟨f.os.trans E.frm.os,f.tape.trans E.frm.tape,f.output.trans E.frm.output,Nat.le_trans E.frm.size f.size,fun k hk hp =>
  (f.block k (Nat.lt_of_lt_of_le hk E.frm.size) (fun i hi e=>by have:=hn i hi k e; omega)).trans (E.frm.block k hk hp)⟩,E.blk⟩
def LinkRel (base X:Nat) (d:SpD) (c:Nat) (V:SpV) (extra:List Row) (as_ bs:List Nat) (w:World) (j k:Nat) (wr:World):Prop :=
 Sp wr base X { d with F:=LinkF d.F as_ bs j k } (c+j*bs.length+k) V extra∧Frm (LinkP d.fo as_) w wr
def LinkPost (base X:Nat) (d:SpD) (c:Nat) (V:SpV) (extra:List Row) (as_ bs:List Nat) (w:World) (e:Ending) (w':World):Prop :=
 e=.returned (.tuple #[])∧Sp w' base X { d with F:=fun a b=>d.F a b∨(a∈as_∧b∈bs) } (c+as_.length*bs.length) V extra∧Frm (LinkP d.fo as_) w w'
theorem link_any (as_ bs:List Nat) (av bv:Value) (w:World) (base X B:Nat) (d:SpD) (c:Nat) (V:SpV) (extra:List Row) (hA:Ints w av (natI as_)) (hB:Ints w bv (natI bs)) (S:Sp w base X d c V extra)
 (hbox:w.cell? ⟨B,0,none⟩=some (.pointer (some ⟨X,0,none⟩))) (ha:∀ i∈as_,i<d.n) (hn:d.n≤100000) (hb:∀ k∈bs,k≤100000) (hla:as_.length≤100000) (hlb:bs.length≤100000) (hc:c≤100000000000) :
 Calls Tryz.prog 98 #[av,bv,.pointer (some ⟨B,0,none⟩)] w (LinkPost base X d c V extra as_ bs w):=by
 have hsz:as_.length*bs.length≤100000*100000:=Nat.mul_le_mul hla hlb
 have HS:=hid S
 have HA:=hid hA
 have HB:=hid hB
 have Ha:=hid ha
 have Hb:=hid hb
 have HX:=hid hbox
 obtain ⟨a1,c1,rfl,_⟩:=hA
 obtain ⟨a2,c2,rfl,_⟩:=hB
 rw [natI_len,natI_len] at *
 clear S ha hb hbox
 go_enter Tryz.func98,Tryz.ntmps98
 go_wp2_with fail
 go_loopw [11] (fun i wr=>∃ j:Nat,j≤as_.length∧i=.int .i64 j∧LinkRel base X d c V extra as_ bs w j 0 wr) (fun i _=>as_.length-(intOf i).toNat)
 case atStart=>exact ⟨0,Nat.zero_le _,rfl,by simpa using HS.out.iff (linkF_zero d.F as_ bs),Frm.refl _ _⟩
 case round =>
  obtain ⟨j,hj,rfl,hrel⟩:=hrel
  have HR:=hid hrel
  clear hrel
  by_cases hlt:j<as_.length
  · obtain ⟨a1',c1',e1,hA1⟩:=(link_ints HS.out HR.out.2 HA.out).elem
    obtain ⟨g1,o1,e2,hA2⟩:=hA1 j (by rw [natI_len]; exact hlt)
    simp only [Value.slice.injEq] at e1
    obtain ⟨rfl,_,_⟩:=e1
    subst e2
    have hi:(natI as_).getD j 0=((as_[j]:Nat):Int):=by simp [natI,List.getD,hlt]
    rw [hi] at hA2
    have hin:=Ha.out as_[j] (List.getElem_mem hlt)
    have HJ:=hid (List.getElem?_eq_getElem hlt)
    have HN:=hid (linkF_next d.F as_ bs j hlt)
    have HSt:=hid (fun k hk=>linkF_step d.F as_ bs j k hlt hk)
    have HM:=hid (List.getElem_mem hlt)
    clear hA1 hi
    generalize as_[j]=i at *
    have HC:=hid (Nat.mul_le_mul (Nat.succ_le_of_lt hlt) (Nat.le_refl bs.length))
    go_wp2_with fail
    obtain ⟨wo,rfl⟩:∃ wo:World,wo=wr:=⟨_,rfl⟩
    go_loopw [17] (fun i wr=>∃ k:Nat,k≤bs.length∧i=.int .i64 k∧LinkRel base X d c V extra as_ bs w j k wr) (fun i _=>bs.length-(intOf i).toNat)
    case atStart=>exact ⟨0,Nat.zero_le _,rfl,HR.out⟩
    case round =>
     obtain ⟨k,hk,rfl,hrel⟩:=hrel
     have HQ:=hid hrel
     clear hrel
     by_cases hkt:k<bs.length
     · obtain ⟨a2',c2',e1,hB1⟩:=(link_ints HS.out HQ.out.2 HB.out).elem
       obtain ⟨g2,o2,e2,hB2⟩:=hB1 k (by rw [natI_len]; exact hkt)
       simp only [Value.slice.injEq] at e1
       obtain ⟨rfl,_,_⟩:=e1
       subst e2
       have hi2:(natI bs).getD k 0=((bs[k]:Nat):Int):=by simp [natI,List.getD,hkt]
       rw [hi2] at hB2
       have hbk:=Hb.out bs[k] (List.getElem_mem hkt)
       have HK:=hid (HSt.out k hkt)
       clear hB1 hi2
       generalize bs[k]=b at *
       have S1:=HQ.out.1
       have hfl:i<d.fo.length:=by have:=HS.out.len.2.2.1; omega
       obtain ⟨w2,hrun,S2,g2'⟩:=S1.link i b d.fo[i] (List.getElem?_eq_getElem hfl) (by omega) (by have:=HC.out; rw [Nat.succ_mul] at this; omega)
       obtain ⟨gf,cf,hvf,hbf,hcf⟩:=yoe (S1.rows.get (j:=3) rfl) (by simp only [mapC,List.length_map]; omega)
       have hml:(mapC d.fo).length=d.n:=by simp only [mapC,List.length_map]; exact HS.out.len.2.2.1
       have c3:=xC S1.blk 3
       simp only [xGe,xGz,xGs] at c3
       simp only [hml] at hvf
       rw [hvf] at c3
       have cm:=hcf i (.map (some d.fo[i])) (by simp [mapC,hfl])
       have cb:=link_cell HS.out HQ.out.2 HX.out
       have HS2:=hid (show LinkRel base X d c V extra as_ bs w j (k+1) w2 from ⟨by simpa only [Nat.add_assoc] using S2.iff (fun a b=>HK.out a b),HQ.out.2.trans ⟨g2'.os,g2'.tape,g2'.output,g2'.size,fun q hq hp=>g2'.block q hq (fun e=>by
        simp only [Option.some.injEq] at e
        exact hp i HM.out (by rw [e]; exact List.getElem?_eq_getElem hfl))⟩⟩)
       clear S1 S2 g2' hcf hvf hbf hml
       generalize d.fo[i]=mm at *
       have hin2:(i:Int)<d.n:=by omega
       have hin0:(0:Int)≤i:=by omega
       go_wp2_with fail
       go_roundw
       case rel=>exact ⟨k+1,by omega,by go_num,HS2.out⟩
       case measure=>simp [intOf]; omega
     · have hke:k=bs.length:=by omega
       have HE:=hid (show LinkRel base X d c V extra as_ bs w (j+1) 0 wr from ⟨by have h1:=HQ.out.1; rw [hke] at h1; have h2:=Sp.iff h1 (fun a b=>HN.out a b); simpa only [Nat.succ_mul,Nat.add_assoc,Nat.add_zero] using h2,HQ.out.2⟩)
       clear hke
       go_wp2_with fail
       go_roundw
       case rel=>exact ⟨j+1,by omega,by go_num,HE.out⟩
       case measure=>simp [intOf]; omega
  · have hje:j=as_.length:=by omega
    have HE:=hid (show LinkPost base X d c V extra as_ bs w (.returned (.tuple #[])) wr from ⟨rfl,by have:=HR.out.1; rw [hje] at this; simpa using this.iff (linkF_all d.F as_ bs),HR.out.2⟩)
    clear hje
    go_wp2_with fail
    go_end0
    exact HE.out
section
variable {P:Program} {ops:Array Oper} {Q:Exit→Act→World→Prop} {md:Region.Mode} {S1 S2:World→Prop} {T:Nat→Bool}
def wpAnyK (P:Program) (md:Region.Mode) (ops:Array Oper) (Q:Exit→Act→World→Prop) (S1 S2:World→Prop) (T:Nat→Bool):Nat→Array Bool→Act→World→Prop
 | 0,listed,a,w=>Region.ready md ops listed=[]∧Q .normal a w
 | fuel+1,listed,a,w =>
  (Region.ready md ops listed=[]→Q .normal a w) ∧
  ∀ i∈Region.ready md ops listed,wpOp P ops Q i (fun a' w'=>(S1 w'∧(T i=true∨(S2 w→S2 w')))∧wpAnyK P md ops Q S1 S2 T fuel (listed.setIfInBounds i true) a' w') a w
theorem wpAny_of_K:∀ (fuel:Nat) (listed:Array Bool) (a:Act) (w:World),wpAnyK P md ops Q S1 S2 T fuel listed a w→wpAny P md ops Q fuel listed a w
 | 0,_,_,_,h=>h
 | fuel+1,_,_,_,h=>⟨h.1,fun i hi=>wpOp_mono (fun a' w' h'=>wpAny_of_K fuel _ a' w' h'.2) (h.2 i hi)⟩
def waits (md:Region.Mode) (ops:Array Oper) (j i:Nat):Bool:=(ops[j]?.map fun o=>o.after.any fun e=>Region.binds md e && e.on == i).getD false
theorem waits_spec {i j:Nat} {o:Oper} (ho:ops[j]? = some o) (h:∀ e∈o.after,Region.binds md e=true→e.on≠i):waits md ops j i=false:=by
 unfold waits
 rw [ho]
 simp only [Option.map_some,Option.getD_some]
 rw [Bool.eq_false_iff]
 intro hc
 rw [Array.any_eq_true'] at hc
 obtain ⟨e,he,hb⟩:=hc
 simp only [Bool.and_eq_true,beq_iff_eq] at hb
 exact h e he hb.1 hb.2
theorem wpAnyK_first {S:World→Prop} {i:Nat} {oi:Oper} {v:Value} (hi:ops[i]? = some oi) (hsel:∀ (j:Nat) (o:Oper) cs b,ops[j]? = some o→o.op≠.select cs b)
 (hQ:∀ c a w,Q (.panic c) (a.put oi.dst v) w→Q (.panic c) a w) (hS:∀ j w w',waits md ops j i=false→S w→(S1 w'∧(T j=true∨(S2 w→S2 w')))→S w') (hS1:∀ w,S w→S1 w) :
 ∀ (fuel:Nat) (listed:Array Bool) (a:Act) (w:World),
  (∀ j oj,ops[j]? = some oj→j≠i→listed.getD j true=false→(∀ e∈oj.after,Region.binds md e=true→e.on≠i)→oi.apart ops oj=true) →
  i∈Region.ready md ops listed→YieldsIf P ops S oi v a→S w →
  wpAnyK P md ops Q S1 S2 T fuel (listed.setIfInBounds i true) (a.put oi.dst v) w→wpAnyK P md ops Q S1 S2 T (fuel+1) listed a w:=by
 intro fuel
 induction fuel with
 | zero =>
  intro listed a w _ hr hy hSw H
  refine ⟨fun h=>(by rw [h] at hr; cases hr),fun j hj=>?_⟩
  by_cases hji:j=i
  · subst hji; exact hy.wpOp hi hSw ⟨⟨hS1 w hSw,.inr id⟩,H⟩
  · have:=ready_mono hj hji
    rw [H.1] at this
    cases this
 | succ fuel ih =>
  intro listed a w hfree hr hy hSw H
  refine ⟨fun h=>(by rw [h] at hr; cases hr),fun j hj=>?_⟩
  by_cases hji:j=i
  · subst hji; exact hy.wpOp hi hSw ⟨⟨hS1 w hSw,.inr id⟩,H⟩
  · have h1:=H.2 j (ready_mono hj hji)
    obtain ⟨hjun,oj,hoj,hall⟩:=mem_ready.1 hj
    have hnot:∀ e∈oj.after,Region.binds md e=true→e.on≠i:=fun e he hb heq=>by
     have h1:=hall e he hb
     have h0:=(mem_ready.1 hr).1
     rw [heq] at h1
     rcases Nat.lt_or_ge i listed.size with h' | h'
     · simp [h'] at h0 h1; rw [h0] at h1; cases h1
     · simp [Array.getElem?_eq_none h'] at h1
    have hwt:=waits_spec hoj hnot
    have h2:=wpOp_putIf hoj (hfree j oj hoj hji hjun hnot) (fun cs b=>hsel i oi cs b hi) (fun cs b=>hsel j oj cs b hoj) hQ hy h1
    have hfree':∀ k ok,ops[k]? = some ok→k≠i→(listed.setIfInBounds j true).getD k true=false →
     (∀ e∈ok.after,Region.binds md e=true→e.on≠i)→oi.apart ops ok=true:=fun k ok hk hki hun hno=>by
     refine hfree k ok hk hki ?_ hno
     by_cases hjk:j=k
     · subst hjk; exact hjun
     · rw [getD_set_ne true hjk] at hun; exact hun
    refine wpOp_mono (fun a' w' h3=>⟨h3.2.1,ih (listed.setIfInBounds j true) a' w' hfree' (ready_mono hr (Ne.symm hji)) h3.1 (hS j w w' hwt hSw h3.2.1) ?_⟩) h2
    rw [Array.setIfInBounds_comm _ _ hji]
    exact h3.2.2
theorem ywt {i:Nat} (dd:Option Tmp) {oi:Oper} {v:Value} {fuel:Nat} {listed:Array Bool} {a:Act} {w:World} (hi:ops[i]? = some oi) (hd:oi.dst=dd)
 (hs:Region.noSelect ops=true) (hf:Region.free md ops listed i=true) (hr:(Region.ready md ops listed).contains i=true)
 (hQ:∀ c a w,Q (.panic c) (a.put oi.dst v) w→Q (.panic c) a w) (hy:YieldsIf P ops S1 oi v a) (hS:S1 w)
 (h:wpAnyK P md ops Q S1 S2 T fuel (listed.setIfInBounds i true) (a.put dd v) w):wpAnyK P md ops Q S1 S2 T (fuel+1) listed a w:=by
 subst hd
 exact wpAnyK_first (S:=S1) hi (Region.noSelect_spec hs) hQ (fun _ _ _ _ _ h=>h.1) (fun _ h=>h) fuel listed a w (Region.free_spec hi hf) (by simpa using hr) hy hS h
theorem wpAnyK_take2 {i:Nat} (dd:Option Tmp) {oi:Oper} {v:Value} {fuel:Nat} {listed:Array Bool} {a:Act} {w:World} (hi:ops[i]? = some oi) (hd:oi.dst=dd)
 (hs:Region.noSelect ops=true) (hf:Region.free md ops listed i=true) (hr:(Region.ready md ops listed).contains i=true)
 (hQ:∀ c a w,Q (.panic c) (a.put oi.dst v) w→Q (.panic c) a w) (hT:∀ j,T j=true→waits md ops j i=true) (hy:YieldsIf P ops (fun w=>S1 w∧S2 w) oi v a) (hS:S1 w∧S2 w)
 (h:wpAnyK P md ops Q S1 S2 T fuel (listed.setIfInBounds i true) (a.put dd v) w):wpAnyK P md ops Q S1 S2 T (fuel+1) listed a w:=by
 subst hd
 exact wpAnyK_first (S:=fun w=>S1 w∧S2 w) hi (Region.noSelect_spec hs) hQ (fun j w w' hw h0 h=>⟨h.1,by
  rcases h.2 with h1 | h1
  · rw [hT j h1] at hw; cases hw
  · exact h1 h0.2⟩) (fun _ h=>h.1) fuel listed a w (Region.free_spec hi hf) (by simpa using hr) hy hS h
theorem wpAnyK_all {rs:List Nat} {fuel:Nat} {listed:Array Bool} {a:Act} {w:World} (hr:Region.ready md ops listed=rs) (hne:rs≠[])
 (h:∀ i∈rs,wpOp P ops Q i (fun a' w'=>(S1 w'∧(T i=true∨(S2 w→S2 w')))∧wpAnyK P md ops Q S1 S2 T fuel (listed.setIfInBounds i true) a' w') a w):wpAnyK P md ops Q S1 S2 T (fuel+1) listed a w :=
 ⟨fun h0=>absurd (hr ▸ h0) hne,hr ▸ h⟩
theorem wpAnyK_done {listed:Array Bool} {a:Act} {w:World} (hr:Region.ready md ops listed=[]) (h:Q .normal a w):∀ fuel,wpAnyK P md ops Q S1 S2 T fuel listed a w
 | 0=>⟨hr,h⟩
 | _+1=>⟨fun _=>h,by rw [hr]; simp⟩
theorem wp_region_K {id:Nat} {a:Act} {w:World} (S1 S2:World→Prop) (T:Nat→Bool) (hm:P.follows .mixedOrders=true)
 (h:wpAnyK P .any ops Q S1 S2 T ops.size (Array.replicate ops.size false) a w.drew):(Code.region id ops true).wp P Q a w :=
 wp_region_any hm (wpAny_of_K _ _ _ _ h)
theorem wp_region_K2 {id:Nat} {a:Act} {w:World} (S1 S2:World→Prop) (T:Nat→Bool) (n:Nat) (listed:Array Bool) (hm:P.follows .mixedOrders=true) (hn:ops.size=n) (hl:Array.replicate n false=listed)
 (h:wpAnyK P .any ops Q S1 S2 T n listed a w.drew):(Code.region id ops true).wp P Q a w:=by
 subst hl; subst hn
 exact wp_region_K S1 S2 T hm h
theorem wpOp_ran {i:Nat} {o:Oper} {v:Value} {a:Act} {w w':World} {K:Act→World→Prop} (hi:ops[i]? = some o) (hg:o.guard=none) (hrun:(execOp a.eval o).run P w=.ok (.value v) w') (h:K (a.put o.dst v) w'):wpOp P ops Q i K a w:=by
 unfold wpOp
 rw [hi]
 have hw:Region.wanted o (yielded ops a.tmps)=true:=by simp [Region.wanted,hg]
 simp only [hw,if_true]
 refine .inl ?_
 unfold Oper.wp
 rw [hrun]
 exact h
theorem wpOp_ran2 {i:Nat} (dd:Option Tmp) {o:Oper} {v:Value} {a:Act} {w w':World} {K:Act→World→Prop} (hi:ops[i]? = some o) (hd:o.dst=dd) (hg:o.guard=none) (hrun:(execOp a.eval o).run P w=.ok (.value v) w') (h:K (a.put dd v) w'):wpOp P ops Q i K a w:=by
 subst hd
 exact wpOp_ran hi hg hrun h
theorem wpOp_skipped {i:Nat} {o:Oper} {a:Act} {w w':World} {K:Act→World→Prop} (hi:ops[i]? = some o) (hg:o.guard=none) (hrun:(execOp a.eval o).run P w=.ok .skip w') (h:K (a.put o.dst undef) w'):wpOp P ops Q i K a w:=by
 unfold wpOp
 rw [hi]
 have hw:Region.wanted o (yielded ops a.tmps)=true:=by simp [Region.wanted,hg]
 simp only [hw,if_true]
 refine .inl ?_
 unfold Oper.wp
 rw [hrun]
 exact h
end
section
variable {w:World} {ρ:Operand→Value} {d:Option Tmp} {ty:TypeId} {pos:String} {af:Array Edge}
theorem run_load1 (t:TypeId) (p:Operand) (ad:Addr) (v:Value) (ht:t=3∨t=22∨t=85∨t=94∨t=95) (hp:ρ p=.pointer (some ad)) (hc:w.cell? ad=some v) :
 (execOp ρ ⟨d,.load t p,ty,pos,af,none⟩).run Tryz.prog w=.ok (.value v) w:=by
 rcases ht with rfl | rfl | rfl | rfl | rfl<;>(simp only [execOp]; rw [hp]; go_simp)
theorem run_nil1 (p:Operand) (ad:Addr) (hp:ρ p=.pointer (some ad)):(execOp ρ ⟨d,.nilCheck p,ty,pos,af,none⟩).run Tryz.prog w=.ok (.value (.pointer (some ad))) w:=by
 simp only [execOp]; rw [hp]; go_simp
theorem run_move1 (p:Operand):(execOp ρ ⟨d,.move p,ty,pos,af,none⟩).run Tryz.prog w=.ok (.value (ρ p)) w:=by
 simp only [execOp]; go_simp
theorem run_field97 (p:Operand) (X k:Nat) (hk:k<6) (hp:ρ p=.pointer (some ⟨X,0,none⟩)):(execOp ρ ⟨d,.fieldAddr 97 p k,ty,pos,af,none⟩).run Tryz.prog w=.ok (.value (.pointer (some ⟨X,k,none⟩))) w:=by
 have h:k=0∨k=1∨k=2∨k=3∨k=4∨k=5:=by omega
 rcases h with rfl | rfl | rfl | rfl | rfl | rfl<;>(simp only [execOp]; rw [hp]; go_simp)
theorem run_field28 (p:Operand) (X k:Nat) (hk:k<4) (hp:ρ p=.pointer (some ⟨X,0,none⟩)):(execOp ρ ⟨d,.fieldAddr 28 p k,ty,pos,af,none⟩).run Tryz.prog w=.ok (.value (.pointer (some ⟨X,k,none⟩))) w:=by
 have h:k=0∨k=1∨k=2∨k=3:=by omega
 rcases h with rfl | rfl | rfl | rfl<;>(simp only [execOp]; rw [hp]; go_simp)
theorem run_buildI (p:Operand) (n:Int) (hp:ρ p=.int .i64 n) :
 (execOp ρ ⟨d,.buildSlice 22 1 #[(0,p)],ty,pos,af,none⟩).run Tryz.prog w=.ok (.value (.slice (some ⟨w.heap.size,0,none⟩) 1 1)) (w.alloc (.cells #[.int .i64 n] 3)):=by
 simp only [execOp]; go_simp
theorem run_buildM (p:Operand) (n:Option Nat) (hp:ρ p=.map n) :
 (execOp ρ ⟨d,.buildSlice 94 1 #[(0,p)],ty,pos,af,none⟩).run Tryz.prog w=.ok (.value (.slice (some ⟨w.heap.size,0,none⟩) 1 1)) (w.alloc (.cells #[.map n] 165)):=by
 simp only [execOp]; go_simp
theorem run_buildB (p:Operand) (n:Bool) (hp:ρ p=.bool n) :
 (execOp ρ ⟨d,.buildSlice 95 1 #[(0,p)],ty,pos,af,none⟩).run Tryz.prog w=.ok (.value (.slice (some ⟨w.heap.size,0,none⟩) 1 1)) (w.alloc (.cells #[.bool n] 4)):=by
 simp only [execOp]; go_simp
theorem run_storeS (t:TypeId) (p q:Operand) (ad:Addr) (x:Option Addr) (n c:Nat) (v:Value) (ht:t=22∨t=94∨t=95) (hp:ρ p=.pointer (some ad)) (hq:ρ q=.slice x n c) (hc:w.cell? ad=some v) (hf:w.frozen? ad=false) :
 (execOp ρ ⟨d,.store t p q,ty,pos,af,none⟩).run Tryz.prog w=.ok .skip (w.setCell ad (.slice x n c)):=by
 rcases ht with rfl | rfl | rfl<;>(simp only [execOp]; rw [hp,hq]; go_simp)
theorem run_make:(execOp ρ ⟨d,.makeMap 165 none,ty,pos,af,none⟩).run Tryz.prog w=.ok (.value (.map (some w.heap.size))) (w.alloc (.map #[] 0)):=by
 simp only [execOp]; go_simp; rw [run_makeMap_plain w 165]; rfl
end
structure Md (w0:World) (rs0:List Row) (base X:Nat) (xc:Array Value) (extra rs:List Row) (Ns:List (Nat × Array Value × TypeId)) (Ms:List Nat) (w:World):Prop where
 blk:w.heap[X]? = some (.cells xc 97 (0,0))
 rows:Rws w base (rs++extra)
 ext:Ext X w0 rs0 w rs
 news:∀ n∈Ns,w.heap[n.1]? = some (.cells n.2.1 n.2.2 (0,0))∧NotOf (rs++extra) n.1∧n.1≠X
 mps:∀ m∈Ms,IMap w m 0 (fun _=>False)∧w0.heap.size≤m
 size:base≤w.heap.size
 ek:∀ r∈rs++extra,r.e≠97
section
variable {w0 w:World} {rs0:List Row} {base X:Nat} {xc:Array Value} {extra rs:List Row} {Ns:List (Nat × Array Value × TypeId)} {Ms:List Nat}
theorem Md.noX (M:Md w0 rs0 base X xc extra rs Ns Ms w):NotOf (rs++extra) X:=M.rows.not_kind M.blk M.ek
theorem Md.drew (M:Md w0 rs0 base X xc extra rs Ns Ms w):Md w0 rs0 base X xc extra rs Ns Ms w.drew:=⟨M.blk,M.rows,M.ext.drew,M.news,fun m hm=>⟨(M.mps m hm).1.same rfl,(M.mps m hm).2⟩,M.size,M.ek⟩
theorem Md.alloc (M:Md w0 rs0 base X xc extra rs Ns Ms w) (o:Obj):Md w0 rs0 base X xc extra rs Ns Ms (w.alloc o):=by
 have g:=xG w o none
 exact ⟨grow_new g M.blk,M.rows.grow g,M.ext.alloc o,fun n hn=>⟨grow_new g (M.news n hn).1,(M.news n hn).2⟩,fun m hm=>⟨(M.mps m hm).1.kept g (by simp),(M.mps m hm).2⟩,Nat.le_trans M.size g.size,M.ek⟩
theorem Md.alloc1 (M:Md w0 rs0 base X xc extra rs Ns Ms w) (x:Array Value) (e:TypeId):Md w0 rs0 base X xc extra rs ((w.heap.size,x,e)::Ns) Ms (w.alloc (.cells x e)):=by
 have A:=M.alloc (.cells x e)
 refine ⟨A.blk,A.rows,A.ext,fun n hn=>?_,A.mps,A.size,A.ek⟩
 rcases List.mem_cons.1 hn with rfl | hn
 · exact ⟨xN w _,M.rows.new (Nat.le_refl _),fun e=>by have:=xL M.blk; omega⟩
 · exact A.news n hn
theorem Md.allocM (M:Md w0 rs0 base X xc extra rs Ns Ms w):Md w0 rs0 base X xc extra rs Ns (w.heap.size::Ms) (w.alloc (.map #[] 0)):=by
 have A:=M.alloc (.map #[] 0)
 refine ⟨A.blk,A.rows,A.ext,A.news,fun m hm=>?_,A.size,A.ek⟩
 rcases List.mem_cons.1 hm with rfl | hm
 · exact ⟨iMap_new w 0,M.ext.frm.size⟩
 · exact A.mps m hm
theorem Md.append (M:Md w0 rs0 base X xc extra rs Ns Ms w) {j:Nat} {r:Row} (hj:rs[j]? = some r) (t ty:TypeId) (z:Value) (bytes:Nat) (ht:Tryz.prog.underlying t=some (.slice r.e)) (hi:(Tryz.prog.info? r.e).map (fun i=>(i.zero,i.size,i.bytes))=some (some z,1,bytes))
 (hz:z.cells.size=1) (hbt:bytes≤8) {k:Nat} {x:Value} {e':TypeId} (hk:(k,#[x],e')∈Ns) (hx:x.oneCell'=true) (hl:r.xs.length≤1000000) :
 ∃ v' w',(Builtin.append_ #[t,t] ty #[r.v,.slice (some ⟨k,0,Option.none⟩) 1 1]).run Tryz.prog w=.ok v' w'∧(∃ a n c,v'=.slice a n c)∧Md w0 rs0 base X xc extra (rs.set j ⟨r.e,v',r.xs++[x]⟩) Ns Ms w':=by
 have hjl:j<rs.length:=by
  rcases Nat.lt_or_ge j rs.length with h | h
  · exact h
  · rw [List.getElem?_eq_none h] at hj; cases hj
 have hj2:(rs++extra)[j]? = some r:=by rw [List.getElem?_append_left hjl]; exact hj
 obtain ⟨v',w',h1,h2,g,h4⟩:=run_append_one M.rows hj2 t ty z bytes ht hi hz hbt (M.news _ hk).1 hx hl M.size
 have hrm:=List.mem_of_getElem? hj2
 rw [List.set_append_left _ _ hjl] at h2
 have hnk:∀ {q:Nat},NotOf (rs++extra) q→q<w.heap.size→NotOf (rs.set j ⟨r.e,v',r.xs++[x]⟩++extra) q:=by
  intro q hq hlt
  refine NotOf.append (fun y hy=>?_) hq.right
  rcases List.mem_or_eq_of_mem_set hy with hy | rfl
  · exact hq.left y hy
  · simp only
    rcases h4 with h4 | h4
    · rw [h4]; exact hq r hrm
    · rw [h4]; simp; omega
 refine ⟨v',w',h1,?_,?_,h2,M.ext.set hj g (by rcases h4 with h4 | h4; exact .inl h4; exact .inr (.inl h4)),fun n hn=>?_,fun m hm=>?_,Nat.le_trans M.size g.size,fun y hy=>?_⟩
 · obtain ⟨a,c,e⟩:=yos (h2.get (j:=j) (r:=⟨r.e,v',r.xs++[x]⟩) (by rw [List.getElem?_append_left (by simpa using hjl),List.getElem?_set_self hjl]))
   exact ⟨a,_,c,e⟩
 · rw [g.block X (xL M.blk) (fun e=>M.noX r hrm e.symm)]; exact M.blk
 · obtain ⟨n1,n2,n3⟩:=M.news n hn
   exact ⟨by rw [g.block _ (xL n1) (fun e=>n2 r hrm e.symm)]; exact n1,hnk n2 (xL n1),n3⟩
 · obtain ⟨m1,m2⟩:=M.mps m hm
   obtain ⟨es,c,hb⟩:=m1.blk
   exact ⟨m1.kept g (fun e=>M.rows.not_map hb r hrm e.symm),m2⟩
 · rcases List.mem_append.1 hy with hy | hy
   · rcases List.mem_or_eq_of_mem_set hy with hy | rfl
     · exact M.ek y (List.mem_append_left _ hy)
     · exact M.ek r hrm
   · exact M.ek y (List.mem_append_right _ hy)
theorem Md.store (M:Md w0 rs0 base X xc extra rs Ns Ms w) (i:Nat) (u:Value):Md w0 rs0 base X (xc.setIfInBounds i u) extra rs Ns Ms (w.setCell ⟨X,i,none⟩ u):=by
 have g:w.grownBy (w.setCell ⟨X,i,none⟩ u) (some X):=grow_cell i u
 refine ⟨yhs M.blk i u,M.rows.kept g (fun k hk=>?_),M.ext.newer g (.inr rfl),fun n hn=>?_,fun m hm=>?_,Nat.le_trans M.size g.size,M.ek⟩
 · have hkk:X=k:=by simpa using hk
   subst hkk
   exact M.noX
 · obtain ⟨n1,n2,n3⟩:=M.news n hn
   exact ⟨by rw [g.block _ (xL n1) (by simpa using n3)]; exact n1,n2,n3⟩
 · obtain ⟨m1,m2⟩:=M.mps m hm
   obtain ⟨es,c,hb⟩:=m1.blk
   exact ⟨m1.kept g (fun e=>by simp only [Option.some.injEq] at e; rw [e,M.blk] at hb; simp at hb),m2⟩
theorem Md.cellX (M:Md w0 rs0 base X xc extra rs Ns Ms w) (i:Nat):w.cell? ⟨X,i,none⟩=xc[i]?:=xC M.blk i
theorem Md.freeX (M:Md w0 rs0 base X xc extra rs Ns Ms w) (i:Nat):w.frozen? ⟨X,i,none⟩=false:=yfb M.blk i
theorem Md.old (M:Md w0 rs0 base X xc extra rs Ns Ms w) {k:Nat} {o:Obj} (hk:w0.heap[k]? = some o) (hp:k≠X∧NotOf rs0 k):w.heap[k]? = some o:=by
 rw [M.ext.frm.block k (xL hk) hp]; exact hk
end
section
variable {ops:Array Oper} {Q:Exit→Act→World→Prop}
theorem wpOp_append {w0 w:World} {rs0:List Row} {base X:Nat} {xc:Array Value} {extra rs:List Row} {Ns:List (Nat × Array Value × TypeId)} {Ms:List Nat} {a:Act} {K:Act→World→Prop} {i:Nat} {d:Option Tmp} {ty:TypeId} {pos:String} {af:Array Edge} {s y:Operand} (t:TypeId)
 (hi0:ops[i]? = some ⟨d,.call { callee:=.builtin .append,args:=#[s,y],argTypes:=#[t,t] },ty,pos,af,none⟩)
 (M:Md w0 rs0 base X xc extra rs Ns Ms w) (j:Nat) {r:Row} (hj:rs[j]? = some r) (z:Value) (bytes:Nat) (ht:Tryz.prog.underlying t=some (.slice r.e)) (hi:(Tryz.prog.info? r.e).map (fun i=>(i.zero,i.size,i.bytes))=some (some z,1,bytes))
 (hz:z.cells.size=1) (hbt:bytes≤8) (k:Nat) (x:Value) (e':TypeId) (hk:(k,#[x],e')∈Ns) (hx:x.oneCell'=true) (hl:r.xs.length≤1000000) (hs:a.eval s=r.v) (hy:a.eval y=.slice (some ⟨k,0,none⟩) 1 1)
 (h:∀ av n cv w',Md w0 rs0 base X xc extra (rs.set j ⟨r.e,.slice av n cv,r.xs++[x]⟩) Ns Ms w'→K (a.put d (.slice av n cv)) w'):wpOp Tryz.prog ops Q i K a w:=by
 obtain ⟨v',w',h1,⟨av,n,cv,rfl⟩,M'⟩:=M.append hj t ty z bytes ht hi hz hbt hk hx hl
 refine wpOp_ran hi0 rfl ?_ (h av n cv w' M')
 unfold execOp
 simp only [resolve,invoke,builtin,Sem.run_bind,Sem.run_pure,Result.andThen_ok,List.map_toArray,List.map_cons,List.map_nil,hs,hy,h1]
theorem wpOp_buildI {w0 w:World} {rs0:List Row} {base X:Nat} {xc:Array Value} {extra rs:List Row} {Ns:List (Nat × Array Value × TypeId)} {Ms:List Nat} {a:Act} {K:Act→World→Prop} {i:Nat} {d:Option Tmp} {ty:TypeId} {pos:String} {af:Array Edge} {p:Operand}
 (hi0:ops[i]? = some ⟨d,.buildSlice 22 1 #[(0,p)],ty,pos,af,none⟩) (M:Md w0 rs0 base X xc extra rs Ns Ms w) (n:Int) (hp:a.eval p=.int .i64 n)
 (h:∀ k w',Md w0 rs0 base X xc extra rs ((k,#[.int .i64 n],3)::Ns) Ms w'→K (a.put d (.slice (some ⟨k,0,none⟩) 1 1)) w'):wpOp Tryz.prog ops Q i K a w :=
 wpOp_ran hi0 rfl (run_buildI p n hp) (h _ _ (M.alloc1 _ _))
theorem wpOp_buildM {w0 w:World} {rs0:List Row} {base X:Nat} {xc:Array Value} {extra rs:List Row} {Ns:List (Nat × Array Value × TypeId)} {Ms:List Nat} {a:Act} {K:Act→World→Prop} {i:Nat} {d:Option Tmp} {ty:TypeId} {pos:String} {af:Array Edge} {p:Operand}
 (hi0:ops[i]? = some ⟨d,.buildSlice 94 1 #[(0,p)],ty,pos,af,none⟩) (M:Md w0 rs0 base X xc extra rs Ns Ms w) (n:Option Nat) (hp:a.eval p=.map n)
 (h:∀ k w',Md w0 rs0 base X xc extra rs ((k,#[.map n],165)::Ns) Ms w'→K (a.put d (.slice (some ⟨k,0,none⟩) 1 1)) w'):wpOp Tryz.prog ops Q i K a w :=
 wpOp_ran hi0 rfl (run_buildM p n hp) (h _ _ (M.alloc1 _ _))
theorem wpOp_buildB {w0 w:World} {rs0:List Row} {base X:Nat} {xc:Array Value} {extra rs:List Row} {Ns:List (Nat × Array Value × TypeId)} {Ms:List Nat} {a:Act} {K:Act→World→Prop} {i:Nat} {d:Option Tmp} {ty:TypeId} {pos:String} {af:Array Edge} {p:Operand}
 (hi0:ops[i]? = some ⟨d,.buildSlice 95 1 #[(0,p)],ty,pos,af,none⟩) (M:Md w0 rs0 base X xc extra rs Ns Ms w) (n:Bool) (hp:a.eval p=.bool n)
 (h:∀ k w',Md w0 rs0 base X xc extra rs ((k,#[.bool n],4)::Ns) Ms w'→K (a.put d (.slice (some ⟨k,0,none⟩) 1 1)) w'):wpOp Tryz.prog ops Q i K a w :=
 wpOp_ran hi0 rfl (run_buildB p n hp) (h _ _ (M.alloc1 _ _))
theorem wpOp_makeM {w0 w:World} {rs0:List Row} {base X:Nat} {xc:Array Value} {extra rs:List Row} {Ns:List (Nat × Array Value × TypeId)} {Ms:List Nat} {a:Act} {K:Act→World→Prop} {i:Nat} {d:Option Tmp} {ty:TypeId} {pos:String} {af:Array Edge}
 (hi0:ops[i]? = some ⟨d,.makeMap 165 Option.none,ty,pos,af,none⟩) (M:Md w0 rs0 base X xc extra rs Ns Ms w)
 (h:∀ m w',Md w0 rs0 base X xc extra rs Ns (m::Ms) w'→K (a.put d (.map (some m))) w'):wpOp Tryz.prog ops Q i K a w :=
 wpOp_ran hi0 rfl run_make (h _ _ M.allocM)
theorem wpOp_storeX {w0 w:World} {rs0:List Row} {base X:Nat} {xc:Array Value} {extra rs:List Row} {Ns:List (Nat × Array Value × TypeId)} {Ms:List Nat} {a:Act} {K:Act→World→Prop} {i:Nat} {d:Option Tmp} {ty:TypeId} {pos:String} {af:Array Edge} {p q:Operand} {t:TypeId}
 (hi0:ops[i]? = some ⟨d,.store t p q,ty,pos,af,none⟩) (M:Md w0 rs0 base X xc extra rs Ns Ms w) (ht:t=22∨t=94∨t=95) (k:Nat) (x:Option Addr) (n c:Nat) (v:Value) (hp:a.eval p=.pointer (some ⟨X,k,none⟩)) (hq:a.eval q=.slice x n c) (hv:xc[k]? = some v)
 (h:∀ w',Md w0 rs0 base X (xc.setIfInBounds k (.slice x n c)) extra rs Ns Ms w'→K (a.put d undef) w'):wpOp Tryz.prog ops Q i K a w :=
 wpOp_skipped hi0 rfl (run_storeS t p q ⟨X,k,none⟩ x n c v ht hp hq (by rw [M.cellX]; exact hv) (M.freeX k)) (h _ (M.store k _))
variable {S1 S2:World→Prop} {T:Nat→Bool} {P:Program} {md:Region.Mode} {fuel:Nat} {listed:Array Bool} {a:Act} {w:World}
theorem ywa {i:Nat} (hr:Region.ready md ops listed=[i])
 (h:wpOp P ops Q i (fun a' w'=>(S1 w'∧(T i=true∨(S2 w→S2 w')))∧wpAnyK P md ops Q S1 S2 T fuel (listed.setIfInBounds i true) a' w') a w):wpAnyK P md ops Q S1 S2 T (fuel+1) listed a w :=
 wpAnyK_all hr (by simp) (fun x hx=>by simp only [List.mem_cons,List.not_mem_nil,or_false] at hx; subst hx; exact h)
theorem wpAnyK_all2 {i j:Nat} (hr:Region.ready md ops listed=[i,j])
 (h:wpOp P ops Q i (fun a' w'=>(S1 w'∧(T i=true∨(S2 w→S2 w')))∧wpAnyK P md ops Q S1 S2 T fuel (listed.setIfInBounds i true) a' w') a w)
 (h2:wpOp P ops Q j (fun a' w'=>(S1 w'∧(T j=true∨(S2 w→S2 w')))∧wpAnyK P md ops Q S1 S2 T fuel (listed.setIfInBounds j true) a' w') a w):wpAnyK P md ops Q S1 S2 T (fuel+1) listed a w :=
 wpAnyK_all hr (by simp) (fun x hx=>by
  simp only [List.mem_cons,List.not_mem_nil,or_false] at hx
  rcases hx with rfl | rfl
  · exact h
  · exact h2)
theorem wpAnyK_all3 {i j k:Nat} (hr:Region.ready md ops listed=[i,j,k])
 (h:wpOp P ops Q i (fun a' w'=>(S1 w'∧(T i=true∨(S2 w→S2 w')))∧wpAnyK P md ops Q S1 S2 T fuel (listed.setIfInBounds i true) a' w') a w)
 (h2:wpOp P ops Q j (fun a' w'=>(S1 w'∧(T j=true∨(S2 w→S2 w')))∧wpAnyK P md ops Q S1 S2 T fuel (listed.setIfInBounds j true) a' w') a w)
 (h3:wpOp P ops Q k (fun a' w'=>(S1 w'∧(T k=true∨(S2 w→S2 w')))∧wpAnyK P md ops Q S1 S2 T fuel (listed.setIfInBounds k true) a' w') a w):wpAnyK P md ops Q S1 S2 T (fuel+1) listed a w :=
 wpAnyK_all hr (by simp) (fun x hx=>by
  simp only [List.mem_cons,List.not_mem_nil,or_false] at hx
  rcases hx with rfl | rfl | rfl
  · exact h
  · exact h2
  · exact h3)
end
end Go.Proofs.YtplbacfjmajeeaaGreatDoor
