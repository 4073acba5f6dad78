import Derived.Test.YtplbacfjmajeeaaGreatDoorJ23
namespace Go.Proofs.YtplbacfjmajeeaaGreatDoor
open Go.RowKit
theorem leavesL_snoc (as_:List Pt) (a:Pt):ylL (as_++[a])=ylL as_+a.leaves:=by
 induction as_ with
 | nil=>simp [ylL]
 | cons x xs ih=>simp only [List.cons_append,ylL,ih]; omega
theorem bytesL_snoc (as_:List Pt) (a:Pt):bytesL (as_++[a])=bytesL as_++a.bytes:=by
 induction as_ with
 | nil=>simp [bytesL]
 | cons x xs ih=>simp only [List.cons_append,bytesL,ih,List.append_assoc]
theorem nulAll_snoc (as_:List Pt) (a:Pt):nulAll (as_++[a])=(nulAll as_ && a.nul):=by
 induction as_ with
 | nil=>simp [nulAll]
 | cons x xs ih=>simp only [List.cons_append,nulAll,ih,Bool.and_assoc]
theorem nulAny_snoc (as_:List Pt) (a:Pt):nulAny (as_++[a])=(nulAny as_ || a.nul):=by
 induction as_ with
 | nil=>simp [nulAny]
 | cons x xs ih=>simp only [List.cons_append,nulAny,ih,Bool.or_assoc]
theorem sizes_snoc (as_:List Pt) (a:Pt):sizes (as_++[a])=sizes as_+a.size:=by
 induction as_ with
 | nil=>simp [sizes]
 | cons x xs ih=>simp only [List.cons_append,sizes,ih]; omega
theorem firstT_snoc (as_:List Pt) (a:Pt):∀ b,firstT (as_++[a]) b=firstT as_ b++if nulAll as_=true then a.first (b+ylL as_) else []:=by
 induction as_ with
 | nil=>intro b; simp [firstT,nulAll,ylL]
 | cons x xs ih =>
  intro b
  simp only [List.cons_append,firstT,nulAll,ylL]
  by_cases hx:x.nul=true
  · simp only [hx,if_true,Bool.true_and]
    rw [ih,List.append_assoc,Nat.add_assoc]
  · simp [hx]
theorem lastT_snoc (as_:List Pt) (a:Pt):∀ b L,lastT (as_++[a]) b L=(if a.nul=true then lastT as_ b L else [])++a.last (b+ylL as_):=by
 induction as_ with
 | nil=>intro b L; simp [lastT,ylL]
 | cons x xs ih =>
  intro b L
  simp only [List.cons_append,lastT,ylL]
  rw [ih,Nat.add_assoc]
theorem folT_snoc (as_:List Pt) (a:Pt):∀ b L i k,folT (as_++[a]) b L i k↔(folT as_ b L i k∨a.fol (b+ylL as_) i k∨(i∈lastT as_ b L∧k∈a.first (b+ylL as_))):=by
 induction as_ with
 | nil=>intro b L i k; simp [folT,lastT,ylL]
 | cons x xs ih =>
  intro b L i k
  simp only [List.cons_append,folT,lastT,ylL]
  rw [ih,Nat.add_assoc]
  constructor
  · rintro (h | h | h | h | h)
    · exact .inl (.inl h)
    · exact .inl (.inr (.inl h))
    · exact .inl (.inr (.inr h))
    · exact .inr (.inl h)
    · exact .inr (.inr h)
  · rintro ((h | h | h) | h | h)
    · exact .inl h
    · exact .inr (.inl h)
    · exact .inr (.inr (.inl h))
    · exact .inr (.inr (.inr (.inl h)))
    · exact .inr (.inr (.inr (.inr h)))
theorem firstO_snoc (as_:List Pt) (a:Pt):∀ b,firstO (as_++[a]) b=firstO as_ b++a.first (b+ylL as_):=by
 induction as_ with
 | nil=>intro b; simp [firstO,ylL]
 | cons x xs ih=>intro b; simp only [List.cons_append,firstO,ylL]; rw [ih,List.append_assoc,Nat.add_assoc]
theorem lastO_snoc (as_:List Pt) (a:Pt):∀ b,lastO (as_++[a]) b=lastO as_ b++a.last (b+ylL as_):=by
 induction as_ with
 | nil=>intro b; simp [lastO,ylL]
 | cons x xs ih=>intro b; simp only [List.cons_append,lastO,ylL]; rw [ih,List.append_assoc,Nat.add_assoc]
theorem folO_snoc (as_:List Pt) (a:Pt):∀ b i k,folO (as_++[a]) b i k↔(folO as_ b i k∨a.fol (b+ylL as_) i k):=by
 induction as_ with
 | nil=>intro b i k; simp [folO,ylL]
 | cons x xs ih=>intro b i k; simp only [List.cons_append,folO,ylL]; rw [ih,Nat.add_assoc,or_assoc]
theorem first_bd (p:Pt) (b:Nat):∀ k∈p.first b,b≤k∧k<b+p.leaves:=by
 have:=(opn_bd (fun _=>false) p b true).1
 rwa [(opn_start p b).1] at this
theorem last_bd (p:Pt):∀ b,∀ k∈p.last b,b≤k∧k<b+p.leaves:=by
 induction p using Pt.ind with
 | h o l hi as_ ih =>
  have hT:∀ (as_:List Pt),(∀ a∈as_,∀ b,∀ k∈a.last b,b≤k∧k<b+a.leaves)→∀ b L k,k∈lastT as_ b L→k∈L∨(b≤k∧k<b+ylL as_):=by
   intro as_
   induction as_ with
   | nil=>intro _ b L k hk; exact .inl (by simpa [lastT] using hk)
   | cons a as_ iha =>
    intro h b L k hk
    simp only [lastT,ylL] at hk ⊢
    rcases iha (fun x hx=>h x (by simp [hx])) _ _ _ hk with h1 | h1
    · rcases List.mem_append.1 h1 with h2 | h2
      · split at h2
        · exact .inl h2
        · cases h2
      · have:=h a (by simp) b k h2; exact .inr (by omega)
    · exact .inr (by omega)
  have hO:∀ (as_:List Pt),(∀ a∈as_,∀ b,∀ k∈a.last b,b≤k∧k<b+a.leaves)→∀ b k,k∈lastO as_ b→b≤k∧k<b+ylL as_:=by
   intro as_
   induction as_ with
   | nil=>intro _ b k hk; simp [lastO] at hk
   | cons a as_ iha =>
    intro h b k hk
    simp only [lastO,ylL,List.mem_append] at hk ⊢
    rcases hk with hk | hk
    · have:=h a (by simp) b k hk; omega
    · have:=iha (fun x hx=>h x (by simp [hx])) _ _ hk; omega
  intro b k hk
  simp only [Pt.last,Pt.leaves] at hk ⊢
  split at hk
  · rename_i h1; rw [if_pos h1]; simp at hk; omega
  · rename_i h1
    rw [if_neg h1]
    split at hk
    · rcases hT as_ ih b [] k hk with h2 | h2
      · cases h2
      · exact h2
    · exact hO as_ ih b k hk
theorem lastT_bd (as_:List Pt):∀ b L k,k∈lastT as_ b L→k∈L∨(b≤k∧k<b+ylL as_):=by
 induction as_ with
 | nil=>intro b L k hk; exact .inl (by simpa [lastT] using hk)
 | cons a as_ iha =>
  intro b L k hk
  simp only [lastT,ylL] at hk ⊢
  rcases iha _ _ _ hk with h1 | h1
  · rcases List.mem_append.1 h1 with h2 | h2
    · split at h2
      · exact .inl h2
      · cases h2
    · have:=last_bd a b k h2; exact .inr (by omega)
  · exact .inr (by omega)
theorem fol_bd (p:Pt):∀ b i k,p.fol b i k→(b≤i∧i<b+p.leaves)∧(b≤k∧k<b+p.leaves):=by
 induction p using Pt.ind with
 | h o l hi as_ ih =>
  have hT:∀ (as_:List Pt),(∀ a∈as_,∀ b i k,a.fol b i k→(b≤i∧i<b+a.leaves)∧(b≤k∧k<b+a.leaves))→∀ b L i k,folT as_ b L i k→(i∈L∨(b≤i∧i<b+ylL as_))∧(b≤k∧k<b+ylL as_):=by
   intro as_
   induction as_ with
   | nil=>intro _ b L i k hk; simp [folT] at hk
   | cons a as_ iha =>
    intro h b L i k hk
    simp only [folT,ylL] at hk ⊢
    rcases hk with hk | ⟨h1,h2⟩ | hk
    · have:=h a (by simp) b i k hk; omega
    · have:=first_bd a b k h2; exact ⟨.inl h1,by omega⟩
    · obtain ⟨h1,h2⟩:=iha (fun x hx=>h x (by simp [hx])) _ _ _ _ hk
      refine ⟨?_,by omega⟩
      rcases h1 with h1 | h1
      · rcases List.mem_append.1 h1 with h3 | h3
        · split at h3
          · exact .inl h3
          · cases h3
        · have:=last_bd a b i h3; exact .inr (by omega)
      · exact .inr (by omega)
  have hO:∀ (as_:List Pt),(∀ a∈as_,∀ b i k,a.fol b i k→(b≤i∧i<b+a.leaves)∧(b≤k∧k<b+a.leaves))→∀ b i k,folO as_ b i k→(b≤i∧i<b+ylL as_)∧(b≤k∧k<b+ylL as_):=by
   intro as_
   induction as_ with
   | nil=>intro _ b i k hk; simp [folO] at hk
   | cons a as_ iha =>
    intro h b i k hk
    simp only [folO,ylL] at hk ⊢
    rcases hk with hk | hk
    · have:=h a (by simp) b i k hk; omega
    · have:=iha (fun x hx=>h x (by simp [hx])) _ _ _ hk; omega
  have hFO:∀ (as_:List Pt) b k,k∈firstO as_ b→b≤k∧k<b+ylL as_:=by
   intro as_
   induction as_ with
   | nil=>intro b k hk; simp [firstO] at hk
   | cons a as_ iha =>
    intro b k hk
    simp only [firstO,ylL,List.mem_append] at hk ⊢
    rcases hk with hk | hk
    · have:=first_bd a b k hk; omega
    · have:=iha _ _ hk; omega
  have hLO:∀ (as_:List Pt) b k,k∈lastO as_ b→b≤k∧k<b+ylL as_:=by
   intro as_
   induction as_ with
   | nil=>intro b k hk; simp [lastO] at hk
   | cons a as_ iha =>
    intro b k hk
    simp only [lastO,ylL,List.mem_append] at hk ⊢
    rcases hk with hk | hk
    · have:=last_bd a b k hk; omega
    · have:=iha _ _ hk; omega
  intro b i k hk
  simp only [Pt.fol,Pt.leaves] at hk ⊢
  split at hk
  · exact hk.elim
  · rename_i h1
    rw [if_neg h1]
    split at hk
    · obtain ⟨h2,h3⟩:=hT as_ ih b [] i k hk
      rcases h2 with h2 | h2
      · cases h2
      · exact ⟨h2,h3⟩
    · split at hk
      · exact hO as_ ih b i k hk
      · rcases hk with hk | ⟨h2,h3⟩
        · exact hO as_ ih b i k hk
        · exact ⟨hLO as_ b i h2,hFO as_ b k h3⟩
theorem first_len (p:Pt):∀ b,(p.first b).length≤p.leaves:=by
 induction p using Pt.ind with
 | h o l hi as_ ih =>
  have hT:∀ (as_:List Pt),(∀ a∈as_,∀ b,(a.first b).length≤a.leaves)→∀ b,(firstT as_ b).length≤ylL as_:=by
   intro as_
   induction as_ with
   | nil=>intro _ b; simp [firstT]
   | cons a as_ iha =>
    intro h b
    simp only [firstT,ylL,List.length_append]
    have h1:=h a (by simp) b
    have h2:=iha (fun x hx=>h x (by simp [hx])) (b+a.leaves)
    by_cases hx:a.nul=true
    · rw [if_pos hx]; omega
    · rw [if_neg hx]; simp; omega
  have hO:∀ (as_:List Pt),(∀ a∈as_,∀ b,(a.first b).length≤a.leaves)→∀ b,(firstO as_ b).length≤ylL as_:=by
   intro as_
   induction as_ with
   | nil=>intro _ b; simp [firstO]
   | cons a as_ iha =>
    intro h b
    simp only [firstO,ylL,List.length_append]
    have h1:=h a (by simp) b
    have h2:=iha (fun x hx=>h x (by simp [hx])) (b+a.leaves)
    omega
  intro b
  simp only [Pt.first,Pt.leaves]
  split
  · simp
  · split
    · exact hT as_ ih b
    · exact hO as_ ih b
theorem last_len (p:Pt):∀ b,(p.last b).length≤p.leaves:=by
 induction p using Pt.ind with
 | h o l hi as_ ih =>
  have hT:∀ (as_:List Pt),(∀ a∈as_,∀ b,(a.last b).length≤a.leaves)→∀ b L,(lastT as_ b L).length≤L.length+ylL as_:=by
   intro as_
   induction as_ with
   | nil=>intro _ b L; simp [lastT]
   | cons a as_ iha =>
    intro h b L
    simp only [lastT,ylL]
    have h1:=h a (by simp) b
    have h2:=iha (fun x hx=>h x (by simp [hx])) (b+a.leaves) ((if a.nul=true then L else [])++a.last b)
    rw [List.length_append] at h2
    by_cases hx:a.nul=true
    · rw [if_pos hx] at h2; rw [if_pos hx]; omega
    · rw [if_neg hx] at h2; rw [if_neg hx]; simp only [List.length_nil] at h2; omega
  have hO:∀ (as_:List Pt),(∀ a∈as_,∀ b,(a.last b).length≤a.leaves)→∀ b,(lastO as_ b).length≤ylL as_:=by
   intro as_
   induction as_ with
   | nil=>intro _ b; simp [lastO]
   | cons a as_ iha =>
    intro h b
    simp only [lastO,ylL,List.length_append]
    have h1:=h a (by simp) b
    have h2:=iha (fun x hx=>h x (by simp [hx])) (b+a.leaves)
    omega
  intro b
  simp only [Pt.last,Pt.leaves]
  split
  · simp
  · split
    · have:=hT as_ ih b []; simpa using this
    · exact hO as_ ih b
theorem lastT_len (as_:List Pt) (b:Nat) (L:List Nat):(lastT as_ b L).length≤L.length+ylL as_:=by
 induction as_ generalizing b L with
 | nil=>simp [lastT]
 | cons a as_ iha =>
  simp only [lastT,ylL]
  have h1:=last_len a b
  have h2:=iha (b+a.leaves) ((if a.nul=true then L else [])++a.last b)
  rw [List.length_append] at h2
  by_cases hx:a.nul=true
  · rw [if_pos hx] at h2; rw [if_pos hx]; omega
  · rw [if_neg hx] at h2; rw [if_neg hx]; simp only [List.length_nil] at h2; omega
theorem firstT_len (as_:List Pt) (b:Nat):(firstT as_ b).length≤ylL as_:=by
 induction as_ generalizing b with
 | nil=>simp [firstT]
 | cons a as_ iha =>
  simp only [firstT,ylL,List.length_append]
  have h1:=first_len a b
  have h2:=iha (b+a.leaves)
  by_cases hx:a.nul=true
  · rw [if_pos hx]; omega
  · rw [if_neg hx]; simp; omega
theorem firstO_len (as_:List Pt) (b:Nat):(firstO as_ b).length≤ylL as_:=by
 induction as_ generalizing b with
 | nil=>simp [firstO]
 | cons a as_ iha =>
  simp only [firstO,ylL,List.length_append]
  have h1:=first_len a b
  have h2:=iha (b+a.leaves)
  omega
theorem lastO_len (as_:List Pt) (b:Nat):(lastO as_ b).length≤ylL as_:=by
 induction as_ generalizing b with
 | nil=>simp [lastO]
 | cons a as_ iha =>
  simp only [lastO,ylL,List.length_append]
  have h1:=last_len a b
  have h2:=iha (b+a.leaves)
  omega
theorem run_append_ints_at {w:World} {base n:Nat} {v s:Value} {xs ys:List Int} (ty:TypeId) (hown:w.ownsRow base 3 1 v n (intC ys)) (hs:Ints w s xs) (hn:n+xs.length≤1000000) (hb:base≤w.heap.size) :
 ∃ v' w',(Builtin.append_ #[22,22] ty #[v,s]).run Tryz.prog w=.ok v' w'∧w'.ownsRow base 3 1 v' (n+xs.length) (intC (ys++xs))∧w.grownBy w' v.ownBlock∧(v'.ownBlock=v.ownBlock∨v'.ownBlock=some w.heap.size):=by
 obtain ⟨i,hi,hz,hsz,hby⟩:=info3n
 obtain ⟨a,c,rfl,h⟩:=hs
 rcases h with rfl | ⟨g,o,rfl,h⟩
 · refine ⟨v,w,?_,by simpa using hown,⟨rfl,rfl,rfl,Nat.le_refl _,fun _ _ _=>rfl⟩,.inl rfl⟩
   rcases hown.2 with ⟨rfl,rfl⟩ | ⟨g,cap,cur,rfl,hbg,hg,hnc,hcm,hcs,htake⟩
   · cases a<;>simp [Builtin.append_,run_underlying Tryz.underlying22,sizeOf,typeInfo,hi,Builtin.lenOf,Builtin.firstCells,loadCells,loadCellsFrom]
   · cases a<;>simp [Builtin.append_,run_underlying Tryz.underlying22,sizeOf,typeInfo,hi,Builtin.lenOf,Builtin.firstCells,loadCells,loadCellsFrom,hnc,storeCells]
 · obtain ⟨v',w',h1,h2,h3,_,h4⟩:=run_append_own_at (P:=Tryz.prog) w base 22 ty 3 i (.int .i64 0) 1 8 Tryz.underlying22 hi hz hsz hby rfl (by decide) v n (intC ys) hown ⟨g,o,Option.none⟩ xs.length c (intC xs) (by simp [intC_len]) (fun j u hj=>by rw [Addr.add_lit]; exact h j u hj)
    (fun u hu=>by simp only [intC,List.mem_map] at hu; obtain ⟨_,_,rfl⟩:=hu; rfl) (by unfold maxLen; omega) (by omega) hb
   exact ⟨v',w',h1,by rw [intC_append]; exact h2,h3,h4⟩
def NewRows (w0:World) (extra:List Row):Prop:=∀ r∈extra,∀ k,r.v.ownBlock=some k→w0.heap.size≤k
theorem sp_append_row {w w0:World} {base X:Nat} {rs0:List Row} {d:SpD} {c:Nat} {V:SpV} {extra:List Row} (ty:TypeId) (S:Sp w base X d c V extra) (E:Ext X w0 rs0 w (spRows d V)) (N:NewRows w0 extra) {j:Nat} {v:Value} {ys:List Int} (hj:extra[j]? = some ⟨3,v,intC ys⟩) {u:Value} {xs:List Int} (hs:Ints w u xs) (hn:ys.length+xs.length≤1000000) :
 ∃ av n cv w',(Builtin.append_ #[22,22] ty #[v,u]).run Tryz.prog w=.ok (.slice av n cv) w'∧Sp w' base X d c V (extra.set j ⟨3,.slice av n cv,intC (ys++xs)⟩)∧Ext X w0 rs0 w' (spRows d V)∧NewRows w0 (extra.set j ⟨3,.slice av n cv,intC (ys++xs)⟩)∧w.grownBy w' v.ownBlock:=by
 have hlen:(spRows d V).length=5:=rfl
 have hj2:(spRows d V++extra)[5+j]? = some ⟨3,v,intC ys⟩:=by
  rw [List.getElem?_append_right (by rw [hlen]; omega),hlen,show 5+j-5=j by omega]; exact hj
 have hrm:=List.mem_of_getElem? hj2
 have own:=S.rows.get hj2
 simp only [intC_len] at own
 obtain ⟨v',w',h1,h2,g,h4⟩:=run_append_ints_at ty own hs hn S.size
 have R':=S.rows.set hj2 g (v':=v') (ys:=intC (ys++xs)) (by rw [intC_len,List.length_append]; exact h2) (by rcases h4 with h4 | h4; exact .inl h4; exact .inr (.inl h4))
 rw [List.set_append_right _ _ (by rw [hlen]; omega),hlen,show 5+j-5=j by omega] at R'
 obtain ⟨av,cv,rfl⟩:=yos h2
 have hnv:∀ k,v.ownBlock=some k→w0.heap.size≤k:=fun k hk=>N ⟨3,v,intC ys⟩ (List.mem_of_getElem? hj) k hk
 refine ⟨av,_,cv,w',h1,⟨?_,R',S.len,fun i mm hi=>?_,S.nd,Nat.le_trans S.size g.size,fun r hr=>?_⟩,?_,fun r hr k hk=>?_,g⟩
 · rw [g.block X (xL S.blk) (fun e=>S.noX _ hrm e.symm)]; exact S.blk
 · obtain ⟨m1,m2⟩:=S.maps i mm hi
   obtain ⟨es,cc,hb⟩:=m2.blk
   exact ⟨m1,m2.kept g (fun e=>S.rows.not_map hb _ hrm e.symm)⟩
 · rcases List.mem_or_eq_of_mem_set hr with hr | rfl
   · exact S.ek r hr
   · rfl
 · refine ⟨⟨g.os.trans E.frm.os,g.tape.trans E.frm.tape,g.output.trans E.frm.output,Nat.le_trans E.frm.size g.size,fun k hk hp=>?_⟩,E.blk⟩
   exact (g.block k (Nat.lt_of_lt_of_le hk E.frm.size) (fun e=>by have:=hnv k e.symm; omega)).trans (E.frm.block k hk hp)
 · rcases List.mem_or_eq_of_mem_set hr with hr | rfl
   · exact N r hr k hk
   · simp only at hk
     rcases h4 with h4 | h4
     · rw [h4] at hk; exact hnv k hk
     · rw [h4] at hk
       simp only [Option.some.injEq] at hk
       rw [← hk]; exact E.frm.size
theorem wpList_append_row {ops:Array Oper} {rest:List Oper} {o:Oper} {a:Act} {w w0:World} {Q:Exit→Act→World→Prop} (hgd:o.guard=none) (s x:Operand) (ho:o.op=.call { callee:=.builtin .append,args:=#[s,x],argTypes:=#[22,22] })
 {base X:Nat} {rs0:List Row} {d:SpD} {c:Nat} {V:SpV} {extra:List Row} (S:Sp w base X d c V extra) (E:Ext X w0 rs0 w (spRows d V)) (N:NewRows w0 extra) (j:Nat) (v:Value) (ys:List Int) (hj:extra[j]? = some ⟨3,v,intC ys⟩) {u:Value} {xs:List Int} (hv:a.eval s=v) (hx:a.eval x=u) (hs:Ints w u xs) (hn:ys.length+xs.length≤1000000)
 (h:∀ av n cv w',Sp w' base X d c V (extra.set j ⟨3,.slice av n cv,intC (ys++xs)⟩)→Ext X w0 rs0 w' (spRows d V)→NewRows w0 (extra.set j ⟨3,.slice av n cv,intC (ys++xs)⟩)→w.grownBy w' v.ownBlock→wpList Tryz.prog ops Q rest (a.put o.dst (.slice av n cv)) w'):wpList Tryz.prog ops Q (o::rest) a w:=by
 refine wpList_plain hgd fun K hK=>?_
 obtain ⟨av,n,cv,w',hr,h2,h3,h4,h5⟩:=sp_append_row o.type S E N hj hs hn
 unfold Oper.wp execOp
 simp only [ho,resolve,invoke,builtin,Sem.run_bind,Sem.run_pure,Result.andThen_ok,List.map_toArray,List.map_cons,List.map_nil,hv,hx,hr]
 exact hK _ _ (h av n cv w' h2 h3 h4 h5)
end Go.Proofs.YtplbacfjmajeeaaGreatDoor
