import Derived.Test.YtplbacfjmajeeaaGreatDoorJ00
namespace Go.Proofs.YtplbacfjmajeeaaGreatDoor
mutual
theorem Pt.bytes_length:(p:Pt)→p.bytes.length=p.leaves
 | .mk o l h aas=>by simp only [Pt.bytes,Pt.leaves]; split<;>simp [ybl aas]
theorem ybl:(aas:List Pt)→(bytesL aas).length=ylL aas
 | []=>rfl
 | a::aas=>by simp [bytesL,ylL,Pt.bytes_length a,ybl aas]
end
theorem opn_bd (A:Nat→Bool) (p:Pt):∀ b β,(∀ k∈p.opn A b β,b≤k∧k<b+p.leaves)∧(p.opn A b β).Pairwise (· < ·):=by
 induction p using Pt.ind with
 | h o l hi aas ih =>
  have hO:∀ (aas:List Pt),(∀ a∈aas,∀ b β,(∀ k∈a.opn A b β,b≤k∧k<b+a.leaves)∧(a.opn A b β).Pairwise (· < ·)) →
   ∀ b β,(∀ k∈opnO A aas b β,b≤k∧k<b+ylL aas)∧(opnO A aas b β).Pairwise (· < ·):=by
   intro aas
   induction aas with
   | nil=>intro _ b β; simp [opnO]
   | cons a aas iha =>
    intro h b β
    obtain ⟨h1,h2⟩:=h a (by simp) b β
    obtain ⟨h3,h4⟩:=iha (fun x hx=>h x (by simp [hx])) (b+a.leaves) β
    simp only [opnO,ylL,List.mem_append,List.pairwise_append]
    refine ⟨fun k hk=>?_,h2,h4,fun x hx y hy=>?_⟩
    · rcases hk with hk | hk
      · have:=h1 k hk; omega
      · have:=h3 k hk; omega
    · have:=h1 x hx; have:=h3 y hy; omega
  have hT:∀ (aas:List Pt),(∀ a∈aas,∀ b β,(∀ k∈a.opn A b β,b≤k∧k<b+a.leaves)∧(a.opn A b β).Pairwise (· < ·)) →
   ∀ b β,(∀ k∈opnT A aas b β,b≤k∧k<b+ylL aas)∧(opnT A aas b β).Pairwise (· < ·):=by
   intro aas
   induction aas with
   | nil=>intro _ b β; simp [opnT]
   | cons a aas iha =>
    intro h b β
    obtain ⟨h1,h2⟩:=h a (by simp) b β
    obtain ⟨h3,h4⟩:=iha (fun x hx=>h x (by simp [hx])) (b+a.leaves) (a.dn A b || β && a.nul)
    simp only [opnT,ylL,List.mem_append,List.pairwise_append]
    refine ⟨fun k hk=>?_,h2,h4,fun x hx y hy=>?_⟩
    · rcases hk with hk | hk
      · have:=h1 k hk; omega
      · have:=h3 k hk; omega
    · have:=h1 x hx; have:=h3 y hy; omega
  intro b β
  simp only [Pt.opn,Pt.leaves]
  split
  · cases β<;>simp
  · split
    · exact hT aas ih b β
    · split
      · exact hO aas ih b β
      · exact hO aas ih b _
theorem opnO_bd (A:Nat→Bool) (aas:List Pt):∀ b β,(∀ k∈opnO A aas b β,b≤k∧k<b+ylL aas)∧(opnO A aas b β).Pairwise (· < ·):=by
 induction aas with
 | nil=>intro b β; simp [opnO]
 | cons a aas iha =>
  intro b β
  obtain ⟨h1,h2⟩:=opn_bd A a b β
  obtain ⟨h3,h4⟩:=iha (b+a.leaves) β
  simp only [opnO,ylL,List.mem_append,List.pairwise_append]
  refine ⟨fun k hk=>?_,h2,h4,fun x hx y hy=>?_⟩
  · rcases hk with hk | hk
    · have:=h1 k hk; omega
    · have:=h3 k hk; omega
  · have:=h1 x hx; have:=h3 y hy; omega
theorem opnO_iff (A:Nat→Bool) (aas:List Pt):∀ b β k,k∈opnO A aas b β↔(β=true∧k∈firstO aas b)∨∃ i,A i=true∧folO aas b i k:=by
 induction aas with
 | nil=>intro b β k; simp [opnO,firstO,folO]
 | cons a aas iha =>
  intro b β k
  simp only [opnO,firstO,folO,List.mem_append]
  rw [opn_iff,iha]
  constructor
  · rintro ((⟨h1,h2⟩ | ⟨i,h1,h2⟩) | ⟨h1,h2⟩ | ⟨i,h1,h2⟩)
    · exact .inl ⟨h1,.inl h2⟩
    · exact .inr ⟨i,h1,.inl h2⟩
    · exact .inl ⟨h1,.inr h2⟩
    · exact .inr ⟨i,h1,.inr h2⟩
  · rintro (⟨h1,h2 | h2⟩ | ⟨i,h1,h2 | h2⟩)
    · exact .inl (.inl ⟨h1,h2⟩)
    · exact .inr (.inl ⟨h1,h2⟩)
    · exact .inl (.inr ⟨i,h1,h2⟩)
    · exact .inr (.inr ⟨i,h1,h2⟩)
theorem dn_none (p:Pt) (b:Nat):p.dn (fun _=>false) b=false:=by rw [dn_last]; simp
theorem opn_start (p:Pt):∀ b,p.opn (fun _=>false) b true=p.first b∧p.opn (fun _=>false) b false=[]:=by
 induction p using Pt.ind with
 | h o l hi aas ih =>
  have hO:∀ (aas:List Pt),(∀ a∈aas,∀ b,a.opn (fun _=>false) b true=a.first b∧a.opn (fun _=>false) b false=[]) →
   ∀ b,opnO (fun _=>false) aas b true=firstO aas b∧opnO (fun _=>false) aas b false=[]:=by
   intro aas
   induction aas with
   | nil=>intro _ b; simp [opnO,firstO]
   | cons a aas iha =>
    intro h b
    obtain ⟨h1,h2⟩:=h a (by simp) b
    obtain ⟨h3,h4⟩:=iha (fun x hx=>h x (by simp [hx])) (b+a.leaves)
    simp [opnO,firstO,h1,h2,h3,h4]
  have hT:∀ (aas:List Pt),(∀ a∈aas,∀ b,a.opn (fun _=>false) b true=a.first b∧a.opn (fun _=>false) b false=[]) →
   ∀ b,opnT (fun _=>false) aas b true=firstT aas b∧opnT (fun _=>false) aas b false=[]:=by
   intro aas
   induction aas with
   | nil=>intro _ b; simp [opnT,firstT]
   | cons a aas iha =>
    intro h b
    obtain ⟨h1,h2⟩:=h a (by simp) b
    obtain ⟨h3,h4⟩:=iha (fun x hx=>h x (by simp [hx])) (b+a.leaves)
    simp only [opnT,firstT,dn_none,h1,h2,Bool.false_or,Bool.true_and,Bool.false_and,h4]
    cases hn:a.nul<;>simp [h3,h4]
  intro b
  have hd:dnO (fun _=>false) aas b=false:=by rw [dnO_last]; simp
  simp only [Pt.opn,Pt.first,hd]
  split
  · simp
  · split
    · exact hT aas ih b
    · split
      · exact hO aas ih b
      · simpa using hO aas ih b
theorem opnO_start (aas:List Pt):∀ b,opnO (fun _=>false) aas b true=firstO aas b:=by
 induction aas with
 | nil=>intro b; rfl
 | cons a aas iha=>intro b; simp [opnO,firstO,(opn_start a b).1,iha]
theorem rising_eq:∀ (a b:List Nat),a.Pairwise (· < ·)→b.Pairwise (· < ·)→(∀ k,k∈a↔k∈b)→a=b
 | [],[],_,_,_=>rfl
 | [],y::b,_,_,h=>by have:=(h y).2 (by simp); cases this
 | x::a,[],_,_,h=>by have:=(h x).1 (by simp); cases this
 | x::a,y::b,ha,hb,h=>by
  rw [List.pairwise_cons] at ha hb
  have e:x=y:=by
   have h1:=(h x).1 (by simp)
   have h2:=(h y).2 (by simp)
   rcases List.mem_cons.1 h1 with h1 | h1
   · exact h1
   · rcases List.mem_cons.1 h2 with h2 | h2
     · exact h2.symm
     · have:=ha.1 _ h2; have:=hb.1 _ h1; omega
  subst e
  congr 1
  refine rising_eq a b ha.2 hb.2 (fun k=>?_)
  constructor
  · intro hk
    have:=ha.1 _ hk
    rcases List.mem_cons.1 ((h k).1 (by simp [hk])) with e | e
    · omega
    · exact e
  · intro hk
    have:=hb.1 _ hk
    rcases List.mem_cons.1 ((h k).2 (by simp [hk])) with e | e
    · omega
    · exact e
def stepL (B:List (Int × Int)) (can:List Nat) (c:Nat):List Nat:=can.filter fun i=>decide ((B.getD i (0,-1)).1≤(c:Int)) && decide ((c:Int)≤(B.getD i (0,-1)).2)
structure En where
 set:List Nat
 text:List UInt8
def expand (B:List (Int × Int)) (can:List Nat) (text:List UInt8):List Nat→List En→List En
 | [],L=>L
 | c::cs,L=>expand B can text cs (if stepL B can c∈L.map En.set then L else L++[⟨stepL B can c,text++[UInt8.ofNat c]⟩])
theorem expand_append (B can text) (cs ds:List Nat):∀ L,expand B can text (cs++ds) L=expand B can text ds (expand B can text cs L):=by
 induction cs with
 | nil=>intro L; rfl
 | cons c cs ih=>intro L; simp only [List.cons_append,expand]; rw [ih]
theorem expand_known (B can text) (cs:List Nat):∀ L,(∀ c∈cs,stepL B can c∈L.map En.set)→expand B can text cs L=L:=by
 induction cs with
 | nil=>intro L _; rfl
 | cons c cs ih =>
  intro L h
  rw [expand,if_pos (h c (by simp))]
  exact ih L (fun x hx=>h x (by simp [hx]))
theorem expand_prefix (B can text) (cs:List Nat):∀ L,∃ M,expand B can text cs L=L++M:=by
 induction cs with
 | nil=>intro L; exact ⟨[],by simp [expand]⟩
 | cons c cs ih =>
  intro L
  rw [expand]
  split
  · exact ih L
  · obtain ⟨M,hM⟩:=ih (L++[⟨stepL B can c,text++[UInt8.ofNat c]⟩])
    exact ⟨⟨stepL B can c,text++[UInt8.ofNat c]⟩::M,by rw [hM]; simp⟩
theorem expand_mem (B can text) (cs:List Nat):∀ L c,c∈cs→stepL B can c∈(expand B can text cs L).map En.set:=by
 induction cs with
 | nil=>intro L c h; cases h
 | cons d cs ih =>
  intro L c h
  rw [expand]
  rcases List.mem_cons.1 h with rfl | h
  · obtain ⟨M,hM⟩:=expand_prefix B can text cs (if stepL B can c∈L.map En.set then L else L++[⟨stepL B can c,text++[UInt8.ofNat c]⟩])
    rw [hM,List.map_append,List.mem_append]
    left
    split
    · assumption
    · simp
  · exact ih _ c h
theorem expand_length_le (B can text) (cs:List Nat):∀ L,(expand B can text cs L).length≤L.length+cs.length:=by
 induction cs with
 | nil=>intro L; simp [expand]
 | cons c cs ih =>
  intro L
  rw [expand]
  refine Nat.le_trans (ih _) ?_
  split<;>simp<;>omega
def canAt (ps:List Pt) (L:List En) (i:Nat):List Nat :=
 if i=0 then firstO ps 0 else opnO (fun k=>decide (k∈(L.getD (i-1) ⟨[],[]⟩).set)) ps 0 false
def textAt (L:List En) (i:Nat):List UInt8:=if i=0 then [] else (L.getD (i-1) ⟨[],[]⟩).text
def growAt (ps:List Pt) (L:List En) (i:Nat):List En:=expand (bytesL ps) (canAt ps L i) (textAt L i) (List.range 256) L
def bfs (ps:List Pt) (most:Nat):Nat→Nat→List En→Option (List En)
 | 0,_,_=>none
 | f+1,i,L=>if L.length<i then some L else if most<(growAt ps L i).length then none else bfs ps most f (i+1) (growAt ps L i)
def allSets (ps:List Pt):Option (List En):=bfs ps 3000 3002 0 []
theorem bfs_prefix (ps most):∀ f i L R,bfs ps most f i L=some R→∃ M,R=L++M:=by
 intro f
 induction f with
 | zero=>intro i L R h; cases h
 | succ f ih =>
  intro i L R h
  rw [bfs] at h
  split at h
  · exact ⟨[],by simpa using h.symm⟩
  · split at h
    · cases h
    · obtain ⟨M,hM⟩:=ih _ _ _ h
      obtain ⟨M2,hM2⟩:=expand_prefix (bytesL ps) (canAt ps L i) (textAt L i) (List.range 256) L
      exact ⟨M2++M,by rw [hM,growAt,hM2,List.append_assoc]⟩
end Go.Proofs.YtplbacfjmajeeaaGreatDoor
