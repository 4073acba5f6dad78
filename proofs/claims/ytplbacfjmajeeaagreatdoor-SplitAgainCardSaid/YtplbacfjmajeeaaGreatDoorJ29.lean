import Derived.Test.YtplbacfjmajeeaaGreatDoorJ28
namespace Go.Proofs.YtplbacfjmajeeaaGreatDoor
open Go.Lib (hid)
set_option maxHeartbeats 4000000
set_option maxRecDepth 100000
open Go.RowKit Go.Maps
def decB (i:Nat):List UInt8:=if i<10 then [(48+i).toUInt8] else [(48+i / 10).toUInt8,(48+i % 10).toUInt8]
theorem dig1all:((List.range 10).all fun i=>((⟨#[48,49,50,51,52,53,54,55,56,57,97,98,99,100,101,102,103,104,105,106,107,108,109,110,111,112,113,114,115,116,117,118,119,120,121,122]⟩:ByteArray).extract i (i+1)).data.toList == decB i)=true:=by kernel_rfl
theorem dig2all:((List.range 100).all fun i=>decide (i<10) || ((⟨#[48,48,48,49,48,50,48,51,48,52,48,53,48,54,48,55,48,56,48,57,49,48,49,49,49,50,49,51,49,52,49,53,49,54,49,55,49,56,49,57,50,48,50,49,50,50,50,51,50,52,50,53,50,54,50,55,50,56,50,57,51,48,51,49,51,50,51,51,51,52,51,53,51,54,51,55,51,56,51,57,52,48,52,49,52,50,52,51,52,52,52,53,52,54,52,55,52,56,52,57,53,48,53,49,53,50,53,51,53,52,53,53,53,54,53,55,53,56,53,57,54,48,54,49,54,50,54,51,54,52,54,53,54,54,54,55,54,56,54,57,55,48,55,49,55,50,55,51,55,52,55,53,55,54,55,55,55,56,55,57,56,48,56,49,56,50,56,51,56,52,56,53,56,54,56,55,56,56,56,57,57,48,57,49,57,50,57,51,57,52,57,53,57,54,57,55,57,56,57,57]⟩:ByteArray).extract (i*2) (i*2+2)).data.toList == decB i)=true:=by kernel_rfl
theorem bytes_of {a:ByteArray} {l:List UInt8} (h:a.data.toList=l):a=⟨l.toArray⟩:=by
 subst h
 rfl
theorem dig1 (i:Nat) (h:i<10):(⟨#[48,49,50,51,52,53,54,55,56,57,97,98,99,100,101,102,103,104,105,106,107,108,109,110,111,112,113,114,115,116,117,118,119,120,121,122]⟩:ByteArray).extract i (i+1)=⟨(decB i).toArray⟩:=by
 have:=List.all_eq_true.1 dig1all i (List.mem_range.2 h)
 exact bytes_of (by simpa using this)
theorem dig2 (i:Nat) (h:i<100) (h2:¬ i<10):(⟨#[48,48,48,49,48,50,48,51,48,52,48,53,48,54,48,55,48,56,48,57,49,48,49,49,49,50,49,51,49,52,49,53,49,54,49,55,49,56,49,57,50,48,50,49,50,50,50,51,50,52,50,53,50,54,50,55,50,56,50,57,51,48,51,49,51,50,51,51,51,52,51,53,51,54,51,55,51,56,51,57,52,48,52,49,52,50,52,51,52,52,52,53,52,54,52,55,52,56,52,57,53,48,53,49,53,50,53,51,53,52,53,53,53,54,53,55,53,56,53,57,54,48,54,49,54,50,54,51,54,52,54,53,54,54,54,55,54,56,54,57,55,48,55,49,55,50,55,51,55,52,55,53,55,54,55,55,55,56,55,57,56,48,56,49,56,50,56,51,56,52,56,53,56,54,56,55,56,56,56,57,57,48,57,49,57,50,57,51,57,52,57,53,57,54,57,55,57,56,57,57]⟩:ByteArray).extract (i*2) (i*2+2)=⟨(decB i).toArray⟩:=by
 have:=List.all_eq_true.1 dig2all i (List.mem_range.2 h)
 simp only [h2,decide_false,Bool.false_or,beq_iff_eq] at this
 exact bytes_of this
theorem small_any (i:Nat) (hi:i<100) (w:World):Calls Tryz.prog 141 #[.int .i64 i] w fun e w'=>e=.returned (.string ⟨(decB i).toArray⟩)∧w=w':=by
 have b1:(0:Int)≤(i:Int):=by omega
 by_cases h:i<10
 · have h2:(i:Int)<10:=by omega
   have hd:=hid (dig1 i h)
   go_enter Tryz.func141,Tryz.ntmps141
   go_wp2_with fail
   go_ret
   exact ⟨by rw [hd.out]; rfl,rfl⟩
 · have h2:¬ (i:Int)<10:=by omega
   have h3:(i:Int)<100:=by omega
   have hd:=hid (dig2 i hi h)
   go_enter Tryz.func141,Tryz.ntmps141
   go_wp2_with fail
   go_ret
   exact ⟨by rw [hd.out]; rfl,rfl⟩
theorem formatInt_any (i:Nat) (hi:i<100) (w:World):Calls Tryz.prog 127 #[.int .i64 i,.int .i64 10] w fun e w'=>e=.returned (.string ⟨(decB i).toArray⟩)∧w=w':=by
 have b1:(0:Int)≤(i:Int):=by omega
 have h3:(i:Int)<100:=by omega
 have hs:=hid (small_any i hi)
 go_enter Tryz.func127,Tryz.ntmps127
 go_wp2_with fail
 refine (hs.out _).mono ?_
 rintro e w1 ⟨rfl,rfl⟩
 go_wp2_with fail
 go_ret
 exact ⟨rfl,rfl⟩
theorem itoa_any (i:Nat) (hi:i<100) (w:World):Calls Tryz.prog 99 #[.int .i64 i] w fun e w'=>e=.returned (.string ⟨(decB i).toArray⟩)∧w=w':=by
 have hs:Hid (∀ w,Calls Tryz.prog 113 #[.int .i64 i] w fun e w'=>e=.returned (.string ⟨(decB i).toArray⟩)∧w=w'):=by
  refine hid fun w=>?_
  have hf:=hid (formatInt_any i hi)
  go_enter Tryz.func113,Tryz.ntmps113
  go_wp2_with fail
  refine (hf.out _).mono ?_
  rintro e w1 ⟨rfl,rfl⟩
  go_wp2_with fail
  go_ret
  exact ⟨rfl,rfl⟩
 go_enter Tryz.func99,Tryz.ntmps99
 go_wp2_with fail
 refine (hs.out _).mono ?_
 rintro e w1 ⟨rfl,rfl⟩
 go_wp2_with fail
 go_ret
 exact ⟨rfl,rfl⟩
theorem ba_append (a b:List UInt8):(⟨a.toArray⟩:ByteArray)++⟨b.toArray⟩=⟨(a++b).toArray⟩:=by
 apply ByteArray.ext
 simp [ByteArray.data_append]
def keyS (set:List Nat):List UInt8:=set.flatMap fun i=>decB i++[32]
theorem keyS_snoc (set:List Nat) (i:Nat):keyS (set++[i])=keyS set++(decB i++[32]):=by simp [keyS]
theorem decB_len (i:Nat):(decB i).length≤2:=by unfold decB; split<;>simp
theorem keyS_len (set:List Nat):(keyS set).length≤3*set.length:=by
 induction set with
 | nil=>simp [keyS]
 | cons a l ih =>
  have:=decB_len a
  simp only [keyS,List.flatMap_cons,List.length_append,List.length_cons,List.length_nil] at ih ⊢
  omega
theorem keyS_any (set:List Nat) (sv:Value) (w:World) (hI:Ints w sv (natI set)) (hc:∀ i∈set,i<100) (hl:set.length≤100000) :
 Calls Tryz.prog 79 #[sv] w fun e w'=>e=.returned (.string ⟨(keyS set).toArray⟩)∧w=w':=by
 have HC:=hid hc
 have HI:=hid hI
 obtain ⟨ca,cc,rfl,_⟩:=hI
 rw [natI_len] at HI ⊢
 clear hc
 go_enter Tryz.func79,Tryz.ntmps79
 go_wp2_with fail
 go_loopw [3,8] (fun v i wr=>∃ j:Nat,j≤set.length∧i=.int .i64 j∧v=.string ⟨(keyS (set.take j)).toArray⟩∧w=wr) (fun _ i _=>set.length-(intOf i).toNat)
 case atStart=>exact ⟨0,Nat.zero_le _,rfl,rfl,rfl⟩
 case round =>
  obtain ⟨j,hj,rfl,rfl,rfl⟩:=hrel
  by_cases hlt:j<set.length
  · obtain ⟨ca',cc',e1,he⟩:=HI.out.elem
    obtain ⟨g1,o1,e2,hce⟩:=he j (by rw [natI_len]; exact hlt)
    simp only [Value.slice.injEq] at e1
    obtain ⟨rfl,e3,e4⟩:=e1
    clear e3 e4
    subst e2
    have hgd:(natI set).getD j 0=((set[j]:Nat):Int):=by simp [natI,List.getD,hlt]
    rw [hgd] at hce
    have hin:=HC.out set[j] (List.getElem_mem hlt)
    have HT:=hid (show keyS (set.take (j+1))=keyS (set.take j)++(decB set[j]++[32]) by rw [List.take_succ_eq_append_getElem hlt,keyS_snoc])
    have hkl:(keyS (set.take j)).length≤300000:=by
     have:=keyS_len (set.take j)
     have h2:(set.take j).length≤set.length:=List.length_take_le' _ _
     omega
    generalize set[j]=i at *
    have hdl:=decB_len i
    have HQ:=hid (itoa_any i hin)
    generalize hK:keyS (set.take j)=K at *
    have HK:=hid hK
    clear he hgd hK
    go_wp2_with fail
    refine (HQ.out _).mono ?_
    rintro e w1 ⟨rfl,rfl⟩
    go_wp2_with fail
    have hb:(⟨K.toArray⟩:ByteArray)++(⟨(decB i).toArray⟩++⟨#[32]⟩)=⟨(keyS (set.take (j+1))).toArray⟩:=by
     rw [HT.out]
     exact (congrArg (_++·) (ba_append (decB i) [32])).trans (ba_append _ _)
    exact ⟨⟨j+1,by omega,by simp,by rw [hb],trivial⟩,by simp [intOf]; omega⟩
  · have HE:=hid (show set.take j=set by rw [List.take_of_length_le (by omega)])
    go_wp2_with fail
    go_ret
    rw [HE.out]
    exact ⟨rfl,rfl⟩
def valB (l:List UInt8):Nat:=l.foldl (fun a x=>a*10+(x.toNat-48)) 0
theorem valB_all:((List.range 100).all fun i=>valB (decB i) == i && !(decB i).contains 32)=true:=by kernel_rfl
theorem valB_dec (i:Nat) (h:i<100):valB (decB i)=i∧(32:UInt8) ∉ decB i:=by
 have:=List.all_eq_true.1 valB_all i (List.mem_range.2 h)
 simpa using this
theorem upto_blank:∀ (a b:List UInt8) (r s:List UInt8),(32:UInt8) ∉ a→(32:UInt8) ∉ b→a++32::r=b++32::s→a=b∧r=s
 | [],[],_,_,_,_,h=>⟨rfl,by simpa using h⟩
 | [],y::b,_,_,_,hb,h=>by simp only [List.nil_append,List.cons_append,List.cons.injEq] at h; exact absurd h.1 (fun e=>hb (by simp [e]))
 | x::a,[],_,_,ha,_,h=>by simp only [List.nil_append,List.cons_append,List.cons.injEq] at h; exact absurd h.1.symm (fun e=>ha (by simp [e]))
 | x::a,y::b,r,s,ha,hb,h=>by
  simp only [List.cons_append,List.cons.injEq] at h
  obtain ⟨e1,e2⟩:=upto_blank a b r s (fun h=>ha (by simp [h])) (fun h=>hb (by simp [h])) h.2
  exact ⟨by rw [h.1,e1],e2⟩
theorem keyS_inj:∀ (a b:List Nat),(∀ i∈a,i<100)→(∀ i∈b,i<100)→keyS a=keyS b→a=b
 | [],[],_,_,_=>rfl
 | [],y::b,_,_,h=>by simp [keyS] at h
 | x::a,[],_,_,h=>by simp [keyS] at h
 | x::a,y::b,ha,hb,h=>by
  have hx:=valB_dec x (ha x (by simp))
  have hy:=valB_dec y (hb y (by simp))
  have h2:decB x++32::keyS a=decB y++32::keyS b:=by simpa [keyS] using h
  obtain ⟨e1,e2⟩:=upto_blank _ _ _ _ hx.2 hy.2 h2
  rw [keyS_inj a b (fun i hi=>ha i (by simp [hi])) (fun i hi=>hb i (by simp [hi])) e2,← hx.1,← hy.1,e1]
theorem boolInv {H:Type} {P:Program} {e:TypeId} (he:P.underlying e=some .bool) {v:Value} {z:DataW H × List MemPlace} (h:plainElem P e v=some z):∃ c,v=.bool c:=by
 unfold plainElem at h
 rw [he] at h
 cases v<;>simp at h
 exact ⟨_,rfl⟩
theorem StrSet.kept {w w':World} {mm n:Nat} {f:SKey→Bool} {r:Option Nat} (h:StrSet w mm n f) (g:w.grownBy w' r) (hr:some mm≠r):StrSet w' mm n f:=by
 obtain ⟨D,h1,h2⟩:=h
 exact ⟨D,h1.kept g hr,h2⟩
theorem StrSet.blk {w:World} {mm n:Nat} {f:SKey→Bool} (h:StrSet w mm n f):∃ es c,w.heap[mm]? = some (.map es c):=by
 obtain ⟨D,⟨es,c,hb,_⟩,_⟩:=h
 exact ⟨es,c,hb⟩
theorem StrSet.look {w:World} {mm n:Nat} {f:SKey→Bool} (h:StrSet w mm n f) (k:SKey) (hk:k.length≤1000000) :
 (Instr.lookup 156 (.map (some mm)) (.string ⟨k.toArray⟩) false).run Tryz.prog w=.ok (.bool (f k)) w:=by
 obtain ⟨D,h1,h2⟩:=h
 obtain ⟨v,ps,hrun,hv⟩:=h1.lookup (string_keyed Tryz.underlying9) Tryz.underlying156 (zero4 w) (plainElem_bool Tryz.underlying4 false) (sKey_of k hk)
 obtain ⟨b,rfl⟩:=boolInv Tryz.underlying4 hv
 rw [plainElem_bool Tryz.underlying4,h2 k] at hv
 simp only [Option.some.injEq,Prod.mk.injEq,DataW.lit.injEq,Lit.bool.injEq] at hv
 rw [← hv.1]
 exact hrun
theorem StrSet.put {w:World} {mm n:Nat} {f:SKey→Bool} (h:StrSet w mm n f) (k:SKey) (hk:k.length≤1000000) (hn:n≤1000000) :
 ∃ w',(Instr.mapUpdate 156 (.map (some mm)) (.string ⟨k.toArray⟩) (.bool true)).run Tryz.prog w=.ok () w'∧StrSet w' mm (n+1) (fun k'=>f k' || decide (k'=k))∧w.grownBy w' (some mm):=by
 obtain ⟨D,h1,h2⟩:=h
 obtain ⟨w',hrun,ho,hg⟩:=h1.update (string_keyed Tryz.underlying9) Tryz.underlying156 (by unfold maxLen; omega) (sKey_of k hk) (plainElem_bool Tryz.underlying4 true)
 refine ⟨w',hrun,⟨_,ho,fun k'=>?_⟩,hg⟩
 by_cases e:k'=k
 · subst e
   rw [atKey_put_same (h1.isMap) (show WideAt.IsKeyLit (.string k') from trivial)]
   simp
 · have e':(Lit.string k')≠.string k:=fun he=>e (by simpa using he)
   rw [atKey_put_other e']
   simp [e,h2 k']
theorem strSet_new (w:World):StrSet (w.alloc (.map #[] 0)) w.heap.size 0 (fun _=>false) :=
 ⟨.map [],World.ownsMap_made _ _ _ _,fun _=>rfl⟩
structure FE where
 v:Value
 en:En
def fcells (l:List FE):List Value:=l.flatMap fun x=>[x.v,.string ⟨x.en.text.toArray⟩]
theorem fcells_append (a b:List FE):fcells (a++b)=fcells a++fcells b:=by simp [fcells]
theorem fcells_get:∀ (l:List FE) (j:Nat) (h:j<l.length),(fcells l)[j*2]? = some l[j].v∧(fcells l)[j*2+1]? = some (.string ⟨l[j].en.text.toArray⟩)
 | a::l,0,_=>by simp [fcells]
 | a::l,j+1,h=>by
  have:=fcells_get l j (by simpa using h)
  have e1:(j+1)*2=j*2+2:=by omega
  rw [e1]
  simpa [fcells] using this
def SetV (w:World) (v:Value) (s:List Nat):Prop:=w.ownsRow 0 3 1 v s.length (intC (natI s))
theorem SetV.grow {w w':World} {v:Value} {s:List Nat} (h:SetV w v s) (g:w.grownBy w' none):SetV w' v s:=own_keep h g
theorem SetV.ints {w:World} {v:Value} {s:List Nat} (h:SetV w v s):Ints w v (natI s):=by
 refine Ints.of_own (n:=s.length) (base:=0) ?_
 exact h
theorem SetV.kept {w w':World} {v:Value} {s:List Nat} (h:SetV w v s) {row:Option Nat} (g:w.grownBy w' row) (hr:∀ k,row=some k→∀ cs fr,w.heap[k]?≠some (.cells cs 3 fr)):SetV w' v s:=by
 refine World.ownsRow.kept h g ?_
 cases row with
 | none =>
  cases hv:v.ownBlock with
  | none=>exact .inl rfl
  | some k=>exact .inr (by simp)
 | some k =>
  refine .inr (fun e=>?_)
  obtain ⟨_,c,hc⟩:=yob h k e
  exact hr k rfl _ _ hc
structure Fs (w:World) (base:Nat) (rs:List (Value × List FE)):Prop where
 own:∀ r∈rs,w.ownsRow base 92 2 r.1 r.2.length (fcells r.2)
 apart:rs.Pairwise (fun a b=>∀ k,a.1.ownBlock=some k→b.1.ownBlock≠some k)
 sets:∀ r∈rs,∀ x∈r.2,SetV w x.v x.en.set
theorem Fs.kept {w w':World} {base:Nat} {rs:List (Value × List FE)} (R:Fs w base rs) {row:Option Nat} (g:w.grownBy w' row) (h:∀ k,row=some k→∀ cs t fr,w.heap[k]?≠some (.cells cs t fr)):Fs w' base rs:=by
 refine ⟨fun r hr=>World.ownsRow.kept (R.own r hr) g ?_,R.apart,fun r hr x hx=>(R.sets r hr x hx).kept g (fun k hk cs fr=>h k hk cs 3 fr)⟩
 cases row with
 | none =>
  cases hv:r.1.ownBlock with
  | none=>exact .inl rfl
  | some k=>exact .inr (by simp)
 | some k =>
  refine .inr (fun e=>?_)
  obtain ⟨_,c,hc⟩:=yob (R.own r hr) k e
  exact h k rfl _ _ _ hc
theorem Fs.grow {w w':World} {base:Nat} {rs:List (Value × List FE)} (R:Fs w base rs) (g:w.grownBy w' none):Fs w' base rs:=R.kept g (fun k hk=>by cases hk)
theorem Fs.get {w:World} {base:Nat} {rs:List (Value × List FE)} (R:Fs w base rs) {j:Nat} {r:Value × List FE} (hj:rs[j]? = some r):w.ownsRow base 92 2 r.1 r.2.length (fcells r.2):=R.own r (List.mem_of_getElem? hj)
theorem Fs.set {w w':World} {base:Nat} {rs:List (Value × List FE)} (R:Fs w base rs) {j:Nat} {r:Value × List FE} (hj:rs[j]? = some r) (g:w.grownBy w' r.1.ownBlock) {v':Value} {x:FE} (hx:SetV w x.v x.en.set) (own:w'.ownsRow base 92 2 v' (r.2++[x]).length (fcells (r.2++[x])))
 (hb:v'.ownBlock=r.1.ownBlock∨v'.ownBlock=some w.heap.size):Fs w' base (rs.set j (v',r.2++[x])):=by
 have hjl:j<rs.length:=by
  rcases Nat.lt_or_ge j rs.length with h | h
  · exact h
  · rw [List.getElem?_eq_none h] at hj; cases hj
 have hap:∀ i x,rs[i]? = some x→i≠j→∀ k,r.1.ownBlock=some k→x.1.ownBlock≠some k:=by
  intro i x hi hij k hk hx
  have hP:=List.pairwise_iff_getElem.1 R.apart
  have hil:i<rs.length:=by
   rcases Nat.lt_or_ge i rs.length with h | h
   · exact h
   · rw [List.getElem?_eq_none h] at hi; cases hi
  rw [List.getElem?_eq_getElem hil] at hi
  rw [List.getElem?_eq_getElem hjl] at hj
  simp only [Option.some.injEq] at hi hj
  rcases Nat.lt_or_gt_of_ne hij with h | h
  · exact hP i j hil hjl h k (by rw [hi]; exact hx) (by rw [hj]; exact hk)
  · exact hP j i hjl hil h k (by rw [hj]; exact hk) (by rw [hi]; exact hx)
 have hset:∀ v s,SetV w v s→SetV w' v s:=fun v s h=>h.kept g (fun k hk cs fr e=>by
  obtain ⟨_,c,hc⟩:=yob (R.get hj) k hk
  rw [e] at hc
  simp at hc)
 refine ⟨fun y hy=>?_,pairwise_set (fun a b h k hb ha=>h k ha hb) R.apart (fun i y hi hij k hy hk=>?_),fun y hy z hz=>?_⟩
 · obtain ⟨i,hi⟩:=List.getElem?_of_mem hy
   rw [List.getElem?_set] at hi
   by_cases e:j=i
   · rw [if_pos e] at hi
     split at hi
     · simp only [Option.some.injEq] at hi
       subst hi
       exact own
     · exact absurd (by omega) ‹¬ j<rs.length›
   · rw [if_neg e] at hi
     refine World.ownsRow.kept (R.own y (List.mem_of_getElem? hi)) g ?_
     cases hv:r.1.ownBlock with
     | none =>
      cases hx:y.1.ownBlock with
      | none=>exact .inl rfl
      | some k=>exact .inr (by simp)
     | some k=>exact .inr (hap i y hi (fun e1=>e e1.symm) k hv)
 · simp only at hk
   rcases hb with hb | hb
   · rw [hb] at hk; exact hap i y hi hij k hk hy
   · rw [hb] at hk
     simp only [Option.some.injEq] at hk
     have:=((R.own y (List.mem_of_getElem? hi)).lt k hy).2
     omega
 · rcases List.mem_or_eq_of_mem_set hy with hy | rfl
   · exact hset _ _ (R.sets y hy z hz)
   · rcases List.mem_append.1 hz with hz | hz
     · exact hset _ _ (R.sets r (List.mem_of_getElem? hj) z hz)
     · simp only [List.mem_singleton] at hz
       subst hz
       exact hset _ _ hx
theorem info92:(Tryz.prog.info? 92 ).map (fun i=>(i.zero,i.size,i.bytes))=some (some (.agg #[.slice none 0 0,.string ⟨#[]⟩]),2,40):=by kernel_rfl
theorem run_append_found {w:World} {base:Nat} {rs:List (Value × List FE)} (R:Fs w base rs) (ty:TypeId) {j:Nat} {r:Value × List FE} (hj:rs[j]? = some r) (x:FE) (hx:SetV w x.v x.en.set) {k:Nat} {fr:Nat × Nat} (hk:w.heap[k]? = some (.cells #[x.v,.string ⟨x.en.text.toArray⟩] 92 fr)) (hl:r.2.length≤1000000) (hb:base≤w.heap.size) :
 ∃ v' w',(Builtin.append_ #[89,89] ty #[r.1,.slice (some ⟨k,0,Option.none⟩) 1 1]).run Tryz.prog w=.ok v' w'∧Fs w' base (rs.set j (v',r.2++[x]))∧w.grownBy w' r.1.ownBlock∧v'≠.slice none 0 0:=by
 obtain ⟨i,h0,hz0,hs0,hb0⟩:=info_parts info92
 obtain ⟨v',w',h1,h2,h3,h5,h4⟩:=run_append_own_at (P:=Tryz.prog) w base 89 ty 92 i _ 2 40 Tryz.underlying89 h0 hz0 hs0 hb0 rfl (by decide) r.1 r.2.length (fcells r.2) (R.get hj) ⟨k,0,Option.none⟩ 1 1 [x.v,.string ⟨x.en.text.toArray⟩] rfl
  (fun a u ha=>by
   rw [Addr.add_lit,xC hk]
   rcases a with _ | _ | a
   · simpa using ha
   · simpa using ha
   · simp at ha)
  (fun u hu=>by
   obtain ⟨av,cv,ev⟩:=yos hx
   simp only [List.mem_cons,List.not_mem_nil,or_false] at hu
   rcases hu with rfl | rfl
   · rw [ev]; rfl
   · rfl) (by unfold maxLen; omega) (by omega) hb
 refine ⟨v',w',h1,R.set hj h3 hx ?_ h4,h3,fun e=>by have:=h5.1 e; omega⟩
 rw [fcells_append,List.length_append]
 simpa [fcells] using h2
theorem Fs.keptSets {w w':World} {base:Nat} {rs:List (Value × List FE)} (R:Fs w base rs) {j:Nat} {r:Value × List FE} (hj:rs[j]? = some r) (g:w.grownBy w' r.1.ownBlock):∀ v s,SetV w v s→SetV w' v s:=fun v s h=>h.kept g (fun k hk cs fr e=>by
 obtain ⟨_,c,hc⟩:=yob (R.get hj) k hk
 rw [e] at hc
 simp at hc)
structure Al (w0:World) (vo vl:Value) (lo ll:List FE) (rs:List (Value × List FE)) (w:World):Prop where
 gr:w0.grownBy w none
 map:∃ f,StrSet w w0.heap.size lo.length f∧∀ k,f k=true↔∃ x∈lo,keyS x.en.set=k
 rows:Fs w w0.heap.size ((vo,lo)::(vl,ll)::rs)
theorem Al.grow {w0 w w':World} {vo vl:Value} {lo ll:List FE} {rs:List (Value × List FE)} (A:Al w0 vo vl lo ll rs w) (g:w.grownBy w' none):Al w0 vo vl lo ll rs w':=by
 obtain ⟨f,h1,h2⟩:=A.map
 exact ⟨xT A.gr g,⟨f,h1.kept g (by simp),h2⟩,A.rows.grow g⟩
structure Al1 (w0:World) (vo vl:Value) (lo ll:List FE) (rs:List (Value × List FE)) (k:List UInt8) (w:World):Prop where
 gr:w0.grownBy w none
 map:∃ f,StrSet w w0.heap.size (lo.length+1) f∧∀ k',f k'=true↔(∃ x∈lo,keyS x.en.set=k')∨k'=k
 rows:Fs w w0.heap.size ((vo,lo)::(vl,ll)::rs)
theorem Al1.grow {w0 w w':World} {vo vl:Value} {lo ll:List FE} {rs:List (Value × List FE)} {k:List UInt8} (A:Al1 w0 vo vl lo ll rs k w) (g:w.grownBy w' none):Al1 w0 vo vl lo ll rs k w':=by
 obtain ⟨f,h1,h2⟩:=A.map
 exact ⟨xT A.gr g,⟨f,h1.kept g (by simp),h2⟩,A.rows.grow g⟩
theorem Al.look {w0 w:World} {vo vl:Value} {lo ll:List FE} {rs:List (Value × List FE)} (A:Al w0 vo vl lo ll rs w) (s:List Nat) (hs:(keyS s).length≤1000000) :
 ∃ b,(Instr.lookup 156 (.map (some w0.heap.size)) (.string ⟨(keyS s).toArray⟩) false).run Tryz.prog w=.ok (.bool b) w∧(b=true↔∃ x∈lo,keyS x.en.set=keyS s):=by
 obtain ⟨f,h1,h2⟩:=A.map
 exact ⟨f (keyS s),h1.look _ hs,h2 _⟩
theorem Al.put {w0 w:World} {vo vl:Value} {lo ll:List FE} {rs:List (Value × List FE)} (A:Al w0 vo vl lo ll rs w) (k:List UInt8) (hs:k.length≤1000000) (hn:lo.length≤1000000) :
 ∃ w',(Instr.mapUpdate 156 (.map (some w0.heap.size)) (.string ⟨k.toArray⟩) (.bool true)).run Tryz.prog w=.ok () w'∧Al1 w0 vo vl lo ll rs k w'∧w.grownBy w' (some w0.heap.size)∧(∀ v s,SetV w v s→SetV w' v s):=by
 obtain ⟨f,h1,h2⟩:=A.map
 obtain ⟨w',hrun,hm,hg⟩:=h1.put k hs hn
 obtain ⟨es,c,hb⟩:=h1.blk
 refine ⟨w',hrun,⟨grow_row A.gr hg (fun q hq=>by cases hq; exact Nat.le_refl _),⟨_,hm,fun k'=>?_⟩,A.rows.kept hg (fun q hq cs t fr e=>by cases hq; rw [hb] at e; cases e)⟩,hg,fun v s h=>h.kept hg (fun q hq cs fr e=>by cases hq; rw [hb] at e; cases e)⟩
 simp only [Bool.or_eq_true,decide_eq_true_eq,h2]
theorem Al1.out {w0 w:World} {vo vl:Value} {lo ll:List FE} {rs:List (Value × List FE)} {s:List Nat} (A:Al1 w0 vo vl lo ll rs (keyS s) w) (ty:TypeId) (x:FE) (hx:SetV w x.v x.en.set) (hs:x.en.set=s) {k:Nat} (hk:w.heap[k]? = some (.cells #[x.v,.string ⟨x.en.text.toArray⟩] 92 (0,0))) (hl:lo.length≤1000000) :
 ∃ a c w',(Builtin.append_ #[89,89] ty #[vo,.slice (some ⟨k,0,Option.none⟩) 1 1]).run Tryz.prog w=.ok (.slice a (lo.length+1) c) w'∧Al w0 (.slice a (lo.length+1) c) vl (lo++[x]) ll rs w'∧w.grownBy w' vo.ownBlock∧(∀ v s,SetV w v s→SetV w' v s):=by
 obtain ⟨v',w',h1,R,g,_⟩:=run_append_found A.rows ty (j:=0) rfl x hx hk hl A.gr.size
 obtain ⟨a,c,hv⟩:=yos (R.get (j:=0) rfl)
 have e:(lo++[x]).length=lo.length+1:=by simp
 have hv2:v'=.slice a (lo.length+1) c:=by rw [← e]; exact hv
 clear hv
 subst hv2
 obtain ⟨f,m1,m2⟩:=A.map
 obtain ⟨es,c',hb⟩:=m1.blk
 refine ⟨a,c,w',h1,⟨grow_row A.gr g (fun q hq=>((A.rows.get (j:=0) rfl).lt q hq).1),⟨f,?_,fun k'=>?_⟩,R⟩,g,A.rows.keptSets (j:=0) rfl g⟩
 · rw [e]
   exact m1.kept g (fun h=>by
    obtain ⟨_,c2,hc⟩:=yob (A.rows.get (j:=0) rfl) _ h.symm
    rw [hb] at hc
    cases hc)
 · rw [m2]
   constructor
   · rintro (⟨y,h1,h2⟩ | rfl)
     · exact ⟨y,by simp [h1],h2⟩
     · exact ⟨x,by simp,by rw [hs]⟩
   · rintro ⟨y,h1,h2⟩
     rcases List.mem_append.1 h1 with h1 | h1
     · exact .inl ⟨y,h1,h2⟩
     · simp only [List.mem_singleton] at h1
       subst h1
       exact .inr (by rw [← h2,hs])
theorem Al.later {w0 w:World} {vo vl:Value} {lo ll:List FE} {rs:List (Value × List FE)} (A:Al w0 vo vl lo ll rs w) (ty:TypeId) (x:FE) (hx:SetV w x.v x.en.set) {k:Nat} (hk:w.heap[k]? = some (.cells #[x.v,.string ⟨x.en.text.toArray⟩] 92 (0,0))) (hl:ll.length≤1000000) :
 ∃ a c w',(Builtin.append_ #[89,89] ty #[vl,.slice (some ⟨k,0,Option.none⟩) 1 1]).run Tryz.prog w=.ok (.slice a (ll.length+1) c) w'∧Al w0 vo (.slice a (ll.length+1) c) lo (ll++[x]) rs w'∧w.grownBy w' vl.ownBlock∧(∀ v s,SetV w v s→SetV w' v s):=by
 obtain ⟨v',w',h1,R,g,_⟩:=run_append_found A.rows ty (j:=1) rfl x hx hk hl A.gr.size
 obtain ⟨a,c,hv⟩:=yos (R.get (j:=1) rfl)
 have e:(ll++[x]).length=ll.length+1:=by simp
 have hv2:v'=.slice a (ll.length+1) c:=by rw [← e]; exact hv
 clear hv
 subst hv2
 obtain ⟨f,m1,m2⟩:=A.map
 obtain ⟨es,c',hb⟩:=m1.blk
 refine ⟨a,c,w',h1,⟨grow_row A.gr g (fun q hq=>((A.rows.get (j:=1) rfl).lt q hq).1),⟨f,?_,m2⟩,R⟩,g,A.rows.keptSets (j:=1) rfl g⟩
 exact m1.kept g (fun h=>by
  obtain ⟨_,c2,hc⟩:=yob (A.rows.get (j:=1) rfl) _ h.symm
  rw [hb] at hc
  cases hc)
theorem Fs.sub {w:World} {base:Nat} {rs rs':List (Value × List FE)} (R:Fs w base rs) (h:rs'.Sublist rs):Fs w base rs' :=
 ⟨fun r hr=>R.own r (h.subset hr),R.apart.sublist h,fun r hr=>R.sets r (h.subset hr)⟩
theorem Al.drop {w0 w:World} {vo vl:Value} {lo ll:List FE} {r:Value × List FE} {rs:List (Value × List FE)} (A:Al w0 vo vl lo ll (r::rs) w):Al w0 vo vl lo ll rs w :=
 ⟨A.gr,A.map,A.rows.sub (List.Sublist.cons_cons _ (List.Sublist.cons_cons _ (List.sublist_cons_self _ _)))⟩
theorem Al.push {w0 w:World} {vo vl:Value} {lo ll:List FE} {rs:List (Value × List FE)} (A:Al w0 vo vl lo ll rs w) (x:FE) (hx:SetV w x.v x.en.set) :
 Al w0 vo vl lo ll ((.slice (some ⟨w.heap.size,0,none⟩) 1 1,[x])::rs) (w.alloc (.cells #[x.v,.string ⟨x.en.text.toArray⟩] 92)):=by
 have g:=xG w (.cells #[x.v,.string ⟨x.en.text.toArray⟩] 92) none
 have A':=A.grow g
 have hnew:(w.alloc (.cells #[x.v,.string ⟨x.en.text.toArray⟩] 92)).ownsRow w0.heap.size 92 2 (.slice (some ⟨w.heap.size,0,none⟩) 1 1) [x].length (fcells [x]) :=
  ⟨rfl,.inr ⟨w.heap.size,1,#[x.v,.string ⟨x.en.text.toArray⟩],rfl,A.gr.size,xN w _,Nat.le_refl _,by unfold maxLen; omega,rfl,rfl⟩⟩
 have hlt:∀ r∈((vo,lo)::(vl,ll)::rs),r.1.ownBlock≠some w.heap.size:=fun r hr e=>by
  have:=((A.rows.own r hr).lt _ e).2
  omega
 have hsx:=hx.grow g
 refine ⟨A'.gr,A'.map,⟨fun r hr=>?_,?_,fun r hr y hy=>?_⟩⟩
 · simp only [List.mem_cons] at hr
   rcases hr with rfl | rfl | rfl | hr
   · exact A'.rows.own _ (by simp)
   · exact A'.rows.own _ (by simp)
   · exact hnew
   · exact A'.rows.own _ (by simp [hr])
 · have hp:=A.rows.apart
   simp only [List.pairwise_cons,List.mem_cons] at hp
   simp only [List.pairwise_cons,List.mem_cons]
   obtain ⟨h1,h2,h3⟩:=hp
   refine ⟨fun a ha k hk=>?_,fun a ha k hk=>?_,fun a ha k hk=>?_,h3⟩
   · rcases ha with rfl | rfl | ha
     · exact h1 _ (.inl rfl) k hk
     · exact fun e=>hlt (vo,lo) (by simp) (by simp only [Value.ownBlock] at e; rw [hk,e])
     · exact h1 a (.inr ha) k hk
   · rcases ha with rfl | ha
     · exact fun e=>hlt (vl,ll) (by simp) (by simp only [Value.ownBlock] at e; rw [hk,e])
     · exact h2 a ha k hk
   · simp only [Value.ownBlock,Option.some.injEq] at hk
     subst hk
     exact hlt a (by simp [ha])
 · simp only [List.mem_cons] at hr
   rcases hr with rfl | rfl | rfl | hr
   · exact A'.rows.sets (vo,lo) (by simp) y hy
   · exact A'.rows.sets (vl,ll) (by simp) y hy
   · simp only [List.mem_singleton] at hy
     subst hy
     exact hsx
   · exact A'.rows.sets r (by simp [hr]) y hy
theorem Al.turn {w0 w:World} {vo vl:Value} {lo ll:List FE} {rs:List (Value × List FE)} (A:Al w0 vo vl lo ll rs w):Al w0 vo (.slice none 0 0) lo [] [(vl,ll)] w:=by
 refine ⟨A.gr,A.map,⟨fun r hr=>?_,?_,fun r hr x hx=>?_⟩⟩
 · simp only [List.mem_cons,List.not_mem_nil,or_false] at hr
   rcases hr with rfl | rfl | rfl
   · exact A.rows.get (j:=0) rfl
   · exact World.ownsRow_nil _ _ _ _
   · exact A.rows.get (j:=1) rfl
 · have:=A.rows.apart
   simp only [List.pairwise_cons,List.mem_cons] at this
   simp only [List.pairwise_cons,List.mem_cons,List.not_mem_nil,or_false]
   refine ⟨fun a ha k hk=>?_,fun a ha k hk=>?_,fun a ha=>ha.elim,List.Pairwise.nil⟩
   · rcases ha with rfl | rfl
     · simp [Value.ownBlock]
     · exact this.1 (vl,ll) (.inl rfl) k hk
   · simp [Value.ownBlock] at hk
 · simp only [List.mem_cons,List.not_mem_nil,or_false] at hr
   rcases hr with rfl | rfl | rfl
   · exact A.rows.sets (vo,lo) (by simp) x hx
   · cases hx
   · exact A.rows.sets (vl,ll) (by simp) x hx
theorem al_start (w:World):Al w (.slice none 0 0) (.slice none 0 0) [] [] [(.slice (some ⟨w.heap.size+1,0,none⟩) 1 1,[⟨.slice none 0 0,⟨[],[]⟩⟩])] ((w.alloc (.map #[] 0)).alloc (.cells #[.slice none 0 0,.string ⟨#[]⟩] 92)):=by
 have g1:=xG w (.map #[] 0) none
 have g2:=xG (w.alloc (.map #[] 0)) (.cells #[.slice none 0 0,.string ⟨#[]⟩] 92) none
 refine ⟨xT g1 g2,⟨_,(strSet_new w).kept g2 (by simp),fun k=>by simp⟩,⟨fun r hr=>?_,?_,fun r hr x hx=>?_⟩⟩
 · simp only [List.mem_cons,List.not_mem_nil,or_false] at hr
   rcases hr with rfl | rfl | rfl
   · exact World.ownsRow_nil _ _ _ _
   · exact World.ownsRow_nil _ _ _ _
   · refine ⟨rfl,.inr ⟨w.heap.size+1,1,#[.slice none 0 0,.string ⟨#[]⟩],rfl,by omega,?_,by simp,by unfold maxLen; omega,rfl,rfl⟩⟩
     exact yhn _ _ _ (by simp)
 · simp [Value.ownBlock]
 · simp only [List.mem_cons,List.not_mem_nil,or_false] at hr
   rcases hr with rfl | rfl | rfl
   · cases hx
   · cases hx
   · simp only [List.mem_singleton] at hx
     subst hx
     exact World.ownsRow_nil _ _ _ _
def Okl (n:Nat) (lo:List FE):Prop:=∀ k x,lo[k]? = some x→(∀ i∈x.en.set,i<n)∧x.en.set.length≤n∧x.en.text.length≤k+1
theorem Okl.add {n:Nat} {lo:List FE} (h:Okl n lo) (x:FE) (h1:∀ i∈x.en.set,i<n) (h2:x.en.set.length≤n) (h3:x.en.text.length≤lo.length+1):Okl n (lo++[x]):=by
 intro k y hk
 rcases Nat.lt_or_ge k lo.length with hl | hl
 · rw [List.getElem?_append_left hl] at hk
   exact h k y hk
 · rw [List.getElem?_append_right hl] at hk
   cases hd:k-lo.length with
   | zero=>rw [hd] at hk; simp at hk; subst hk; exact ⟨h1,h2,by omega⟩
   | succ m=>rw [hd] at hk; simp at hk
def Lv (i:Nat) (L:List En) (lp:List FE):Prop:=(i=0∧L=[]∧lp.map FE.en=[⟨[],[]⟩])∨(1≤i∧i-1+lp.length=L.length∧lp.map FE.en=L.drop (i-1))
theorem Lv.next {i:Nat} {L:List En} {lp ll:List FE} (h:Lv i L lp):Lv (i+lp.length) (L++ll.map FE.en) ll:=by
 refine .inr ?_
 have e:1≤i+lp.length∧i+lp.length-1=L.length:=by
  rcases h with ⟨rfl,rfl,h⟩ | ⟨h1,h2,_⟩
  · have:=congrArg List.length h
    simp at this
    simp [this]
  · omega
 refine ⟨e.1,by rw [e.2]; simp,by rw [e.2,List.drop_left]⟩
theorem Lv.at {ps:List Pt} {i j:Nat} {L M:List En} {lp:List FE} (h:Lv i L lp) (hj:j<lp.length):i+j≤(L++M).length∧textAt (L++M) (i+j)=lp[j].en.text ∧
 (i=0→canAt ps (L++M) (i+j)=firstO ps 0)∧(i≠0→canAt ps (L++M) (i+j)=opnO (fun k=>decide (k∈lp[j].en.set)) ps 0 false)∧(i=0→lp[j].en.text=[])∧(i≠0→(L++M)[i+j-1]? = some lp[j].en):=by
 rcases h with ⟨rfl,rfl,h⟩ | ⟨h1,h2,h3⟩
 · have hl:=congrArg List.length h
   simp at hl
   have hj0:j=0:=by omega
   subst hj0
   have:lp[0].en=⟨[],[]⟩:=by
    have:=congrArg (fun l=>l[0]?) h
    simpa [hj] using this
   simp [this,textAt,canAt]
 · have hi:i+j≠0:=by omega
   have hlt:i+j-1<L.length:=by omega
   have e:L[i+j-1]=lp[j].en:=by
    have:=congrArg (fun l=>l[j]?) h3
    simp only [List.getElem?_map,List.getElem?_drop] at this
    rw [List.getElem?_eq_getElem hj,show i-1+j=i+j-1 by omega,List.getElem?_eq_getElem hlt] at this
    simpa using this.symm
   have e2:(L++M)[i+j-1]? = some lp[j].en:=by rw [List.getElem?_append_left hlt,List.getElem?_eq_getElem hlt,e]
   have e3:(L++M).getD (i+j-1) ⟨[],[]⟩=lp[j].en:=by rw [List.getD_eq_getElem?_getD,e2]; rfl
   refine ⟨by simp; omega,?_,fun h=>by omega,fun _=>?_,fun h=>by omega,fun _=>e2⟩
   · rw [textAt,if_neg hi,e3]
   · rw [canAt,if_neg hi,e3]
theorem lv_start:Lv 0 [] [⟨.slice none 0 0,⟨[],[]⟩⟩]:=.inl ⟨rfl,rfl,rfl⟩
def AllPost (ps:List Pt) (w:World) (e:Ending) (w':World):Prop:=∃ v,e=.returned v∧w.grownBy w' none ∧
 ((allSets ps=none∧v=.slice none 0 0)∨∃ (a:Option Addr) (c:Nat) (l:List FE),allSets ps=some (l.map FE.en)∧v=.slice a l.length c∧0<l.length∧w'.ownsRow w.heap.size 92 2 v l.length (fcells l)∧∀ x∈l,SetV w' x.v x.en.set)
theorem bfs_pos (ps:List Pt) (f:Nat) (R:List En) (h:bfs ps 3000 (f+1) 0 []=some R):0<R.length:=by
 rw [bfs] at h
 simp only [List.length_nil,Nat.lt_irrefl,if_false] at h
 split at h
 · cases h
 · obtain ⟨M,hM⟩:=bfs_prefix _ _ _ _ _ _ h
   rw [hM]
   clear h hM
   have h1:=expand_mem (bytesL ps) (canAt ps [] 0) (textAt [] 0) (List.range 256) [] 0 (List.mem_range.2 (by decide))
   have h2:0<(growAt ps [] 0).length:=by
    unfold growAt
    generalize expand (bytesL ps) (canAt ps [] 0) (textAt [] 0) (List.range 256) []=Z at h1
    cases Z with
    | nil=>cases h1
    | cons a l=>exact Nat.succ_pos _
   rw [List.length_append]
   omega
theorem allSets_pos (ps:List Pt) (R:List En) (h:allSets ps=some R):0<R.length:=bfs_pos ps 3001 R h
def Bf (ps:List Pt) (i:Nat) (L:List En):Prop:=∃ f,f+i=3002∧bfs ps 3000 f i L=allSets ps
theorem bf_start (ps:List Pt):Bf ps 0 []:=⟨3002,rfl,rfl⟩
theorem Bf.step {ps:List Pt} {i:Nat} {L:List En} (h:Bf ps i L) (hi:i≤L.length) (hL:L.length≤3000) (hg:(growAt ps L i).length≤3000):Bf ps (i+1) (growAt ps L i):=by
 obtain ⟨f,h1,h2⟩:=h
 obtain ⟨f,rfl⟩:∃ f',f=f'+1:=⟨f-1,by omega⟩
 rw [bfs,if_neg (by omega),if_neg (by omega)] at h2
 exact ⟨f,by omega,h2⟩
theorem Bf.full {ps:List Pt} {i:Nat} {L:List En} (h:Bf ps i L) (hi:i≤L.length) (hL:L.length≤3000) (hg:3000<(growAt ps L i).length):allSets ps=none:=by
 obtain ⟨f,h1,h2⟩:=h
 obtain ⟨f,rfl⟩:∃ f',f=f'+1:=⟨f-1,by omega⟩
 rw [bfs,if_neg (by omega),if_pos hg] at h2
 exact h2.symm
theorem Bf.done {ps:List Pt} {i:Nat} {L:List En} (h:Bf ps i L) (hi:L.length<i) (hi2:i≤3001):allSets ps=some L:=by
 obtain ⟨f,h1,h2⟩:=h
 obtain ⟨f,rfl⟩:∃ f',f=f'+1:=⟨f-1,by omega⟩
 rw [bfs,if_pos hi] at h2
 exact h2.symm
theorem expand_range (B can text) (c:Nat) (L:List En):expand B can text (List.range (c+1)) L=if stepL B can c∈(expand B can text (List.range c) L).map En.set then expand B can text (List.range c) L else expand B can text (List.range c) L++[⟨stepL B can c,text++[UInt8.ofNat c]⟩]:=by
 rw [List.range_succ,expand_append]
 rfl
theorem expand_more (B can text) (c:Nat) (hc:c≤256) (L:List En):(expand B can text (List.range c) L).length≤(expand B can text (List.range 256) L).length:=by
 have e:List.range 256=List.range c++(List.range (256-c)).map (c+·):=by
  rw [← List.range_add]
  congr 1
  omega
 rw [e,expand_append]
 obtain ⟨M,hM⟩:=expand_prefix B can text ((List.range (256-c)).map (c+·)) (expand B can text (List.range c) L)
 rw [hM,List.length_append]
 omega
theorem conv_one (c:Nat) (hc:c<256) (w:World):(convert 111 9 (.slice (some ⟨w.heap.size,0,none⟩) 1 1)).run Tryz.prog (w.alloc (.cells #[.int .u8 c] 5))=.ok (.string ⟨[UInt8.ofNat c].toArray⟩) (w.alloc (.cells #[.int .u8 c] 5)):=by
 refine run_convert_bytes_back _ 111 9 5 ⟨w.heap.size,0,none⟩ 1 [UInt8.ofNat c] Tryz.underlying111 Tryz.underlying5 Tryz.underlying9 (fun j hj=>?_)
 have:j=0:=by simpa using hj
 subst this
 rw [Addr.add_lit,xC (xN w _)]
 simp [Nat.mod_eq_of_lt hc]
end Go.Proofs.YtplbacfjmajeeaaGreatDoor
