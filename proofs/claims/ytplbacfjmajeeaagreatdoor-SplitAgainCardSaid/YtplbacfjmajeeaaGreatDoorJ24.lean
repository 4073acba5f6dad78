import Derived.Test.YtplbacfjmajeeaaGreatDoorJ23
namespace Go.Proofs.YtplbacfjmajeeaaGreatDoor
open Go.Lib (hid)
set_option maxHeartbeats 4000000
set_option maxRecDepth 100000
open Go.RowKit
theorem lt_of_map {w:World} {b:Nat} {es:Array MapEntry} {c:Nat} (h:w.heap[b]? = some (.map es c)):b<w.heap.size:=(Array.getElem?_eq_some_iff.1 h).1
def LS1 (w0:World) (X:Nat) (l h:Int) (w:World):Prop:=w.cell? ⟨w0.heap.size,0,none⟩=some (.pointer (some ⟨X,0,none⟩))∧w.cell? ⟨w0.heap.size+1,1,none⟩=some (.int .i64 l)∧w.cell? ⟨w0.heap.size+1,2,none⟩=some (.int .i64 h)
def LS2 (X:Nat) (V:SpV) (w:World):Prop:=w.cell? ⟨X,0,none⟩=some V.lo∧w.cell? ⟨X,1,none⟩=some V.hi∧w.cell? ⟨X,2,none⟩=some V.ma
def LS3 (X:Nat) (fo la:Value) (w:World):Prop:=w.cell? ⟨X,3,none⟩=some fo∧w.cell? ⟨X,4,none⟩=some la
def T4 (j:Nat):Bool:=j == 28 || j == 31 || j == 34
theorem T4_spec {j:Nat} (h:T4 j=true):j=28∨j=31∨j=34:=by unfold T4 at h; simp at h; omega
def T5 (j:Nat):Bool:=j == 17 || j == 20
theorem T5_spec {j:Nat} (h:T5 j=true):j=17∨j=20∨j=20:=by unfold T5 at h; simp at h; omega
def boxes (w0:World) (X:Nat) (l h:Int) (av:Option Addr) (n0 cap:Nat):List (Nat × Array Value × TypeId) :=
 [(w0.heap.size+1,#[.int .i64 1,.int .i64 l,.int .i64 h,.slice av n0 cap],28),(w0.heap.size,#[.pointer (some ⟨X,0,none⟩)],85)]
theorem lS1_of {w0 w:World} {rs0:List Row} {base X:Nat} {xc:Array Value} {extra rs:List Row} {Ns:List (Nat × Array Value × TypeId)} {Ms:List Nat} {l h:Int} (av:Option Addr) (n0 cap:Nat) (M:Md w0 rs0 base X xc extra rs Ns Ms w) (hb:∀ n∈boxes w0 X l h av n0 cap,n∈Ns):LS1 w0 X l h w:=by
 have h1:=(M.news (w0.heap.size,#[.pointer (some ⟨X,0,none⟩)],85) (hb _ (by simp [boxes]))).1
 have h2:=(M.news (w0.heap.size+1,#[.int .i64 1,.int .i64 l,.int .i64 h,.slice av n0 cap],28) (hb _ (by simp [boxes]))).1
 exact ⟨xC h1 0,xC h2 1,xC h2 2⟩
theorem lS2_of {w0 w:World} {rs0:List Row} {base X:Nat} {V:SpV} {fo la fi:Value} {extra rs:List Row} {Ns:List (Nat × Array Value × TypeId)} {Ms:List Nat} (M:Md w0 rs0 base X #[V.lo,V.hi,V.ma,fo,la,fi] extra rs Ns Ms w):LS2 X V w:=⟨M.cellX 0,M.cellX 1,M.cellX 2⟩
theorem lS3_of {w0 w:World} {rs0:List Row} {base X:Nat} {a b c fo la fi:Value} {extra rs:List Row} {Ns:List (Nat × Array Value × TypeId)} {Ms:List Nat} (M:Md w0 rs0 base X #[a,b,c,fo,la,fi] extra rs Ns Ms w):LS3 X fo la w:=⟨M.cellX 3,M.cellX 4⟩
theorem sp_md {w:World} {base X:Nat} {d:SpD} {c:Nat} {V:SpV} {extra:List Row} (S:Sp w base X d c V extra) (l h:Int) (av:Option Addr) (n0 cap:Nat) :
 Md w (spRows d V) base X #[V.lo,V.hi,V.ma,V.fo,V.la,V.fi] extra (spRows d V) (boxes w X l h av n0 cap) [] ((w.alloc (.cells #[.pointer (some ⟨X,0,none⟩)] 85)).alloc (.cells #[.int .i64 1,.int .i64 l,.int .i64 h,.slice av n0 cap] 28)):=by
 have M0:Md w (spRows d V) base X #[V.lo,V.hi,V.ma,V.fo,V.la,V.fi] extra (spRows d V) [] [] w:=by
  refine ⟨S.blk,S.rows,Ext.refl _ _ _,fun n hn=>by simp at hn,fun n hn=>by simp at hn,S.size,fun r hr=>?_⟩
  rcases List.mem_append.1 hr with hr | hr
  · simp only [spRows,List.mem_cons,List.not_mem_nil,or_false] at hr
    rcases hr with rfl | rfl | rfl | rfl | rfl<;>(simp only; decide)
  · rw [S.ek r hr]; decide
 have M1:=(M0.alloc1 #[.pointer (some ⟨X,0,none⟩)] 85).alloc1 #[.int .i64 1,.int .i64 l,.int .i64 h,.slice av n0 cap] 28
 have e:(w.alloc (.cells #[.pointer (some ⟨X,0,none⟩)] 85)).heap.size=w.heap.size+1:=by simp
 rw [e] at M1
 exact M1
def leafD (d:SpD) (l h m:Int) (mm:Nat):SpD:=⟨d.lo++[l],d.hi++[h],d.ma++[m],d.fo++[mm],d.la++[false],d.F⟩
def LeafPost (w:World) (base X:Nat) (d:SpD) (c:Nat) (V:SpV) (extra:List Row) (l h m:Int) (e:Ending) (w':World):Prop :=
 ∃ g V' mm,e=.returned (.tuple #[.slice (some ⟨g,0,none⟩) 1 1,.slice (some ⟨g,0,none⟩) 1 1,.bool false])∧Sp w' base X (leafD d l h m mm) c V' extra∧Ext X w (spRows d V) w' (spRows (leafD d l h m mm) V') ∧
  w'.heap[g]? = some (.cells #[.int .i64 (d.n:Int)] 3 (0,0))∧w.heap.size≤g∧g≠X∧NotOf (spRows (leafD d l h m mm) V'++extra) g∧V'.fi=V.fi∧w.heap.size≤mm
theorem leaf_done {w wc:World} {base X:Nat} {d:SpD} {c:Nat} {V:SpV} {extra:List Row} {l h m:Int} {lo hi ma fo la:Value} {mm:Nat} {Ns:List (Nat × Array Value × TypeId)} (S:Sp w base X d c V extra) (hF:∀ i k,d.F i k→i<d.n)
 (M:Md w (spRows d V) base X #[lo,hi,ma,fo,la,V.fi] extra [⟨3,lo,intC d.lo++[.int .i64 l]⟩,⟨3,hi,intC d.hi++[.int .i64 h]⟩,⟨3,ma,intC d.ma++[.int .i64 m]⟩,⟨165,fo,mapC d.fo++[.map (some mm)]⟩,⟨4,la,boolC d.la++[.bool false]⟩] Ns [mm] wc) :
 LeafPost w base X d c V extra l h m (.returned (.tuple #[.slice (some ⟨wc.heap.size,0,none⟩) 1 1,.slice (some ⟨wc.heap.size,0,none⟩) 1 1,.bool false])) (wc.alloc (.cells #[.int .i64 (d.lo.length:Int)] 3)):=by
 have A:=M.alloc (.cells #[.int .i64 (d.lo.length:Int)] 3)
 have er:[⟨3,lo,intC d.lo++[.int .i64 l]⟩,⟨3,hi,intC d.hi++[.int .i64 h]⟩,⟨3,ma,intC d.ma++[.int .i64 m]⟩,⟨165,fo,mapC d.fo++[.map (some mm)]⟩,⟨4,la,boolC d.la++[.bool false]⟩]=spRows (leafD d l h m mm) ⟨lo,hi,ma,fo,la,V.fi⟩:=by
  simp [spRows,leafD,intC,mapC,boolC]
 rw [er] at A M
 obtain ⟨l1,l2,l3,l4⟩:=S.len
 have hn:(leafD d l h m mm).n=d.n+1:=by simp [SpD.n,leafD]
 obtain ⟨m1,m2⟩:=A.mps mm (by simp)
 refine ⟨wc.heap.size,⟨lo,hi,ma,fo,la,V.fi⟩,mm,rfl,⟨A.blk,A.rows,?_,fun i q hq=>?_,?_,A.size,S.ek⟩,A.ext,xN wc _,M.ext.frm.size,fun e=>?_,M.rows.new (Nat.le_refl _),rfl,m2⟩
 · rw [hn]
   simp only [leafD,List.length_append,List.length_singleton]
   omega
 · simp only [leafD] at hq ⊢
   rcases Nat.lt_or_ge i d.fo.length with hi' | hi'
   · rw [List.getElem?_append_left hi'] at hq
     obtain ⟨h1,h2⟩:=S.maps i q hq
     obtain ⟨es,cc,hb⟩:=h2.blk
     refine ⟨h1,h2.same ?_⟩
     rw [A.ext.frm.block q (lt_of_map hb) ⟨fun e=>by rw [e,S.blk] at hb; simp at hb,S.rows.left.not_map hb⟩]
   · rw [List.getElem?_append_right hi'] at hq
     have hi2:i=d.fo.length:=by
      rcases Nat.eq_or_lt_of_le hi' with h | h
      · exact h.symm
      · rw [List.getElem?_eq_none (by simp; omega)] at hq; cases hq
     subst hi2
     simp only [Nat.sub_self,xGz,Option.some.injEq] at hq
     subst hq
     refine ⟨Nat.le_trans S.size m2,(m1.mono (Nat.zero_le c)).iff (fun k=>⟨fun h=>h.elim,fun h=>?_⟩)⟩
     have:=hF _ _ h
     omega
 · simp only [leafD]
   rw [List.nodup_append]
   refine ⟨S.nd,by simp,fun a ha b hb e=>?_⟩
   simp only [List.mem_singleton] at hb
   subst hb
   subst e
   obtain ⟨i,hi'⟩:=List.getElem?_of_mem ha
   obtain ⟨es,cc,hb⟩:=(S.maps i _ hi').2.blk
   have:=lt_of_map hb
   omega
 · have:=xL M.blk
   omega
def Rel4 (w0:World) (base X:Nat) (d:SpD) (V:SpV) (extra:List Row) (l h m:Int) (av:Option Addr) (n0 cap:Nat) (w:World):Prop :=
 ∃ a1 c1 a2 c2 a3 c3 n1 n2 n3,∃ Ns,Md w0 (spRows d V) base X #[.slice a1 n1 c1,.slice a2 n2 c2,.slice a3 n3 c3,V.fo,V.la,V.fi] extra [⟨3,.slice a1 n1 c1,intC d.lo++[.int .i64 l]⟩,⟨3,.slice a2 n2 c2,intC d.hi++[.int .i64 h]⟩,⟨3,.slice a3 n3 c3,intC d.ma++[.int .i64 m]⟩,⟨165,V.fo,mapC d.fo⟩,⟨4,V.la,boolC d.la⟩] Ns [] w∧∀ n∈boxes w0 X l h av n0 cap,n∈Ns
def Rel5 (w0:World) (base X:Nat) (d:SpD) (V:SpV) (extra:List Row) (l h m:Int) (av:Option Addr) (n0 cap:Nat) (w:World):Prop :=
 ∃ a n1 c1 hi ma fo la mm,∃ Ns,Md w0 (spRows d V) base X #[.slice a n1 c1,hi,ma,fo,la,V.fi] extra [⟨3,.slice a n1 c1,intC d.lo++[.int .i64 l]⟩,⟨3,hi,intC d.hi++[.int .i64 h]⟩,⟨3,ma,intC d.ma++[.int .i64 m]⟩,⟨165,fo,mapC d.fo++[.map (some mm)]⟩,⟨4,la,boolC d.la++[.bool false]⟩] Ns [mm] w∧∀ n∈boxes w0 X l h av n0 cap,n∈Ns
set_option maxHeartbeats 10000000 in
set_option linter.all false in
theorem walk_leaf (l h m:Int) (av:Option Addr) (n0 cap:Nat) (w:World) (base X:Nat) (d:SpD) (c:Nat) (V:SpV) (extra:List Row) (S:Sp w base X d c V extra) (hn:d.n≤100000) (hF:∀ i k,d.F i k→i<d.n) :
 Calls Tryz.prog 78 #[.pointer (some ⟨X,0,none⟩),.agg #[.int .i64 1,.int .i64 l,.int .i64 h,.slice av n0 cap],.int .i64 m] w (LeafPost w base X d c V extra l h m):=by
 obtain ⟨hl1,hl2,hl3,hl4⟩:=S.len
 have hL1:(intC d.lo).length≤1000000:=by rw [intC_len]; unfold SpD.n at hn; omega
 have hL2:(intC d.hi).length≤1000000:=by rw [intC_len]; omega
 have hL3:(intC d.ma).length≤1000000:=by rw [intC_len]; omega
 have hL4:(mapC d.fo).length≤1000000:=by simp only [mapC,List.length_map]; omega
 have hL5:(boolC d.la).length≤1000000:=by simp only [boolC,List.length_map]; omega
 have HS:=hid S
 have HF:=hid hF
 have H1:=hid hL1
 have H2:=hid hL2
 have H3:=hid hL3
 have H4:=hid hL4
 have H5:=hid hL5
 have M0:=sp_md S l h av n0 cap
 clear S hF hl1 hl2 hl3 hl4 hL1 hL2 hL3 hL4 hL5
 have HM:=hid M0
 clear M0
 go_enter Tryz.func78,Tryz.ntmps78
 go_wp2_with fail
 generalize ((w.alloc (.cells #[.pointer (some ⟨X,0,none⟩)] 85)).alloc (.cells #[.int .i64 1,.int .i64 l,.int .i64 h,.slice av n0 cap] 28))=W at HM ⊢
 go_cut [] (fun wx=>Rel4 w base X d V extra l h m av n0 cap wx)
 case first =>
  have M:=HM.out.drew
  refine wp_region_K2 (LS1 w X l h) (LS2 X V) T4 35 #[false,false,false,false,false,false,false,false,false,false,false,false,false,false,false,false,false,false,false,false,false,false,false,false,false,false,false,false,false,false,false,false,false,false,false] (by kernel_rfl) (by kernel_rfl) (by kernel_rfl) ?_
  refine ywt (i:=0) (some 26) (v:=(.pointer (some ⟨X,0,none⟩))) rfl rfl (by kernel_rfl) (by kernel_rfl) (by kernel_rfl) (fun _ _ _ h=>h) (.inl ⟨by rfl,fun w' hw'=>run_load1 85 _ ⟨w.heap.size,0,none⟩ _ (by simp) rfl hw'.1⟩) (lS1_of av n0 cap M (fun n hn=>by simp [hn])) ?_
  simp only [Act.put,xSi,xSz,xSs]
  refine ywt (i:=1) (some 27) (v:=(.pointer (some ⟨X,0,none⟩))) rfl rfl (by kernel_rfl) (by kernel_rfl) (by kernel_rfl) (fun _ _ _ h=>h) (.inl ⟨by rfl,fun w' hw'=>run_load1 85 _ ⟨w.heap.size,0,none⟩ _ (by simp) rfl hw'.1⟩) (lS1_of av n0 cap M (fun n hn=>by simp [hn])) ?_
  simp only [Act.put,xSi,xSz,xSs]
  refine ywt (i:=2) (some 28) (v:=(.pointer (some ⟨X,0,none⟩))) rfl rfl (by kernel_rfl) (by kernel_rfl) (by kernel_rfl) (fun _ _ _ h=>h) (.inl ⟨by rfl,fun w' hw'=>run_load1 85 _ ⟨w.heap.size,0,none⟩ _ (by simp) rfl hw'.1⟩) (lS1_of av n0 cap M (fun n hn=>by simp [hn])) ?_
  simp only [Act.put,xSi,xSz,xSs]
  refine ywt (i:=3) (some 29) (v:=(.pointer (some ⟨X,0,none⟩))) rfl rfl (by kernel_rfl) (by kernel_rfl) (by kernel_rfl) (fun _ _ _ h=>h) (.inl ⟨by rfl,fun w' hw'=>run_load1 85 _ ⟨w.heap.size,0,none⟩ _ (by simp) rfl hw'.1⟩) (lS1_of av n0 cap M (fun n hn=>by simp [hn])) ?_
  simp only [Act.put,xSi,xSz,xSs]
  refine ywt (i:=11) (some 37) (v:=(.pointer (some ⟨X,0,none⟩))) rfl rfl (by kernel_rfl) (by kernel_rfl) (by kernel_rfl) (fun _ _ _ h=>h) (.inl ⟨by rfl,fun w' hw'=>run_load1 85 _ ⟨w.heap.size,0,none⟩ _ (by simp) rfl hw'.1⟩) (lS1_of av n0 cap M (fun n hn=>by simp [hn])) ?_
  simp only [Act.put,xSi,xSz,xSs]
  refine ywt (i:=19) (some 45) (v:=(.pointer (some ⟨X,0,none⟩))) rfl rfl (by kernel_rfl) (by kernel_rfl) (by kernel_rfl) (fun _ _ _ h=>h) (.inl ⟨by rfl,fun w' hw'=>run_load1 85 _ ⟨w.heap.size,0,none⟩ _ (by simp) rfl hw'.1⟩) (lS1_of av n0 cap M (fun n hn=>by simp [hn])) ?_
  simp only [Act.put,xSi,xSz,xSs]
  refine ywt (i:=4) (some 30) (v:=(.pointer (some ⟨X,0,none⟩))) rfl rfl (by kernel_rfl) (by kernel_rfl) (by kernel_rfl) (fun _ _ _ h=>h) (.inl ⟨by rfl,fun w' hw'=>run_nil1 _ _ rfl⟩) (lS1_of av n0 cap M (fun n hn=>by simp [hn])) ?_
  simp only [Act.put,xSi,xSz,xSs]
  refine ywt (i:=12) (some 38) (v:=(.pointer (some ⟨X,0,none⟩))) rfl rfl (by kernel_rfl) (by kernel_rfl) (by kernel_rfl) (fun _ _ _ h=>h) (.inl ⟨by rfl,fun w' hw'=>run_nil1 _ _ rfl⟩) (lS1_of av n0 cap M (fun n hn=>by simp [hn])) ?_
  simp only [Act.put,xSi,xSz,xSs]
  refine ywt (i:=20) (some 46) (v:=(.pointer (some ⟨X,0,none⟩))) rfl rfl (by kernel_rfl) (by kernel_rfl) (by kernel_rfl) (fun _ _ _ h=>h) (.inl ⟨by rfl,fun w' hw'=>run_nil1 _ _ rfl⟩) (lS1_of av n0 cap M (fun n hn=>by simp [hn])) ?_
  simp only [Act.put,xSi,xSz,xSs]
  refine ywt (i:=5) (some 31) (v:=(.pointer (some ⟨X,0,none⟩))) rfl rfl (by kernel_rfl) (by kernel_rfl) (by kernel_rfl) (fun _ _ _ h=>h) (.inl ⟨by rfl,fun w' hw'=>run_field97 _ X 0 (by omega) rfl⟩) (lS1_of av n0 cap M (fun n hn=>by simp [hn])) ?_
  simp only [Act.put,xSi,xSz,xSs]
  refine ywt (i:=13) (some 39) (v:=(.pointer (some ⟨X,1,none⟩))) rfl rfl (by kernel_rfl) (by kernel_rfl) (by kernel_rfl) (fun _ _ _ h=>h) (.inl ⟨by rfl,fun w' hw'=>run_field97 _ X 1 (by omega) rfl⟩) (lS1_of av n0 cap M (fun n hn=>by simp [hn])) ?_
  simp only [Act.put,xSi,xSz,xSs]
  refine ywt (i:=21) (some 47) (v:=(.pointer (some ⟨X,2,none⟩))) rfl rfl (by kernel_rfl) (by kernel_rfl) (by kernel_rfl) (fun _ _ _ h=>h) (.inl ⟨by rfl,fun w' hw'=>run_field97 _ X 2 (by omega) rfl⟩) (lS1_of av n0 cap M (fun n hn=>by simp [hn])) ?_
  simp only [Act.put,xSi,xSz,xSs]
  refine wpAnyK_take2 (i:=6) (some 32) (v:=V.lo) rfl rfl (by kernel_rfl) (by kernel_rfl) (by kernel_rfl) (fun _ _ _ h=>h) (by intro j hj; rcases T4_spec hj with rfl | rfl | rfl<;>kernel_rfl) (.inl ⟨by rfl,fun w' hw'=>run_load1 22 _ ⟨X,0,none⟩ _ (by simp) rfl hw'.2.1⟩) ⟨lS1_of av n0 cap M (fun n hn=>by simp [hn]),lS2_of M⟩ ?_
  simp only [Act.put,xSi,xSz,xSs]
  refine wpAnyK_take2 (i:=14) (some 40) (v:=V.hi) rfl rfl (by kernel_rfl) (by kernel_rfl) (by kernel_rfl) (fun _ _ _ h=>h) (by intro j hj; rcases T4_spec hj with rfl | rfl | rfl<;>kernel_rfl) (.inl ⟨by rfl,fun w' hw'=>run_load1 22 _ ⟨X,1,none⟩ _ (by simp) rfl hw'.2.2.1⟩) ⟨lS1_of av n0 cap M (fun n hn=>by simp [hn]),lS2_of M⟩ ?_
  simp only [Act.put,xSi,xSz,xSs]
  refine wpAnyK_take2 (i:=22) (some 48) (v:=V.ma) rfl rfl (by kernel_rfl) (by kernel_rfl) (by kernel_rfl) (fun _ _ _ h=>h) (by intro j hj; rcases T4_spec hj with rfl | rfl | rfl<;>kernel_rfl) (.inl ⟨by rfl,fun w' hw'=>run_load1 22 _ ⟨X,2,none⟩ _ (by simp) rfl hw'.2.2.2⟩) ⟨lS1_of av n0 cap M (fun n hn=>by simp [hn]),lS2_of M⟩ ?_
  simp only [Act.put,xSi,xSz,xSs]
  refine ywt (i:=7) (some 33) (v:=(.pointer (some ⟨w.heap.size+1,1,none⟩))) rfl rfl (by kernel_rfl) (by kernel_rfl) (by kernel_rfl) (fun _ _ _ h=>h) (.inl ⟨by rfl,fun w' hw'=>run_field28 _ (w.heap.size+1) 1 (by omega) rfl⟩) (lS1_of av n0 cap M (fun n hn=>by simp [hn])) ?_
  simp only [Act.put,xSi,xSz,xSs]
  refine ywt (i:=15) (some 41) (v:=(.pointer (some ⟨w.heap.size+1,2,none⟩))) rfl rfl (by kernel_rfl) (by kernel_rfl) (by kernel_rfl) (fun _ _ _ h=>h) (.inl ⟨by rfl,fun w' hw'=>run_field28 _ (w.heap.size+1) 2 (by omega) rfl⟩) (lS1_of av n0 cap M (fun n hn=>by simp [hn])) ?_
  simp only [Act.put,xSi,xSz,xSs]
  refine ywt (i:=8) (some 34) (v:=(.int .i64 l)) rfl rfl (by kernel_rfl) (by kernel_rfl) (by kernel_rfl) (fun _ _ _ h=>h) (.inl ⟨by rfl,fun w' hw'=>run_load1 3 _ ⟨w.heap.size+1,1,none⟩ _ (by simp) rfl hw'.2.1⟩) (lS1_of av n0 cap M (fun n hn=>by simp [hn])) ?_
  simp only [Act.put,xSi,xSz,xSs]
  refine ywt (i:=16) (some 42) (v:=(.int .i64 h)) rfl rfl (by kernel_rfl) (by kernel_rfl) (by kernel_rfl) (fun _ _ _ h=>h) (.inl ⟨by rfl,fun w' hw'=>run_load1 3 _ ⟨w.heap.size+1,2,none⟩ _ (by simp) rfl hw'.2.2⟩) (lS1_of av n0 cap M (fun n hn=>by simp [hn])) ?_
  simp only [Act.put,xSi,xSz,xSs]
  refine ywt (i:=23) (some 49) (v:=(.int .i64 m)) rfl rfl (by kernel_rfl) (by kernel_rfl) (by kernel_rfl) (fun _ _ _ h=>h) (.inl ⟨by rfl,fun w' hw'=>run_move1 _⟩) (lS1_of av n0 cap M (fun n hn=>by simp [hn])) ?_
  simp only [Act.put,xSi,xSz,xSs]
  refine wpAnyK_all3 (i:=9) (j:=17) (k:=24) (by kernel_rfl) ?_ ?_ ?_
  refine wpOp_buildI (d:=some 35) rfl M l rfl (fun k2 w3 M1=>?_)
  refine ⟨⟨lS1_of av n0 cap M1 (fun n hn=>by simp [hn]),.inr fun _=>lS2_of M1⟩,?_⟩
  simp only [Act.put,xSi,xSz,xSs]
  refine wpAnyK_all3 (i:=10) (j:=17) (k:=24) (by kernel_rfl) ?_ ?_ ?_
  refine wpOp_append (d:=some 36) 22 rfl M1 0 (r:=⟨3,V.lo,intC d.lo⟩) rfl (.int .i64 0) 8 Tryz.underlying22 info3 rfl (by decide) k2 (.int .i64 l) 3 (by simp [boxes]) rfl H1.out rfl rfl (fun a5 n6 c7 w8 M4=>?_)
  refine ⟨⟨lS1_of av n0 cap M4 (fun n hn=>by simp [hn]),.inr fun _=>lS2_of M4⟩,?_⟩
  simp only [Act.put,xSi,xSz,xSs]
  refine wpAnyK_all2 (i:=17) (j:=24) (by kernel_rfl) ?_ ?_
  refine wpOp_buildI (d:=some 43) rfl M4 h rfl (fun k10 w11 M9=>?_)
  refine ⟨⟨lS1_of av n0 cap M9 (fun n hn=>by simp [hn]),.inr fun _=>lS2_of M9⟩,?_⟩
  simp only [Act.put,xSi,xSz,xSs]
  refine wpAnyK_all2 (i:=18) (j:=24) (by kernel_rfl) ?_ ?_
  refine wpOp_append (d:=some 44) 22 rfl M9 1 (r:=⟨3,V.hi,intC d.hi⟩) rfl (.int .i64 0) 8 Tryz.underlying22 info3 rfl (by decide) k10 (.int .i64 h) 3 (by simp [boxes]) rfl H2.out rfl rfl (fun a13 n14 c15 w16 M12=>?_)
  refine ⟨⟨lS1_of av n0 cap M12 (fun n hn=>by simp [hn]),.inr fun _=>lS2_of M12⟩,?_⟩
  simp only [Act.put,xSi,xSz,xSs]
  refine ywa (i:=24) (by kernel_rfl) ?_
  refine wpOp_buildI (d:=some 50) rfl M12 m rfl (fun k18 w19 M17=>?_)
  refine ⟨⟨lS1_of av n0 cap M17 (fun n hn=>by simp [hn]),.inr fun _=>lS2_of M17⟩,?_⟩
  simp only [Act.put,xSi,xSz,xSs]
  refine ywa (i:=25) (by kernel_rfl) ?_
  refine wpOp_append (d:=some 51) 22 rfl M17 2 (r:=⟨3,V.ma,intC d.ma⟩) rfl (.int .i64 0) 8 Tryz.underlying22 info3 rfl (by decide) k18 (.int .i64 m) 3 (by simp [boxes]) rfl H3.out rfl rfl (fun a20 n21 c22 w23 MT=>?_)
  refine ⟨⟨lS1_of av n0 cap MT (fun n hn=>by simp [hn]),.inr fun _=>lS2_of MT⟩,?_⟩
  simp only [Act.put,xSi,xSz,xSs]
  rotate_left
  refine wpOp_buildI (d:=some 50) rfl M9 m rfl (fun k25 w26 M24=>?_)
  refine ⟨⟨lS1_of av n0 cap M24 (fun n hn=>by simp [hn]),.inr fun _=>lS2_of M24⟩,?_⟩
  simp only [Act.put,xSi,xSz,xSs]
  refine ywa (i:=18) (by kernel_rfl) ?_
  refine wpOp_append (d:=some 44) 22 rfl M24 1 (r:=⟨3,V.hi,intC d.hi⟩) rfl (.int .i64 0) 8 Tryz.underlying22 info3 rfl (by decide) k10 (.int .i64 h) 3 (by simp [boxes]) rfl H2.out rfl rfl (fun a28 n29 c30 w31 M27=>?_)
  refine ⟨⟨lS1_of av n0 cap M27 (fun n hn=>by simp [hn]),.inr fun _=>lS2_of M27⟩,?_⟩
  simp only [Act.put,xSi,xSz,xSs]
  refine ywa (i:=25) (by kernel_rfl) ?_
  refine wpOp_append (d:=some 51) 22 rfl M27 2 (r:=⟨3,V.ma,intC d.ma⟩) rfl (.int .i64 0) 8 Tryz.underlying22 info3 rfl (by decide) k25 (.int .i64 m) 3 (by simp [boxes]) rfl H3.out rfl rfl (fun a32 n33 c34 w35 MT=>?_)
  refine ⟨⟨lS1_of av n0 cap MT (fun n hn=>by simp [hn]),.inr fun _=>lS2_of MT⟩,?_⟩
  simp only [Act.put,xSi,xSz,xSs]
  rotate_left
  refine wpOp_buildI (d:=some 50) rfl M4 m rfl (fun k37 w38 M36=>?_)
  refine ⟨⟨lS1_of av n0 cap M36 (fun n hn=>by simp [hn]),.inr fun _=>lS2_of M36⟩,?_⟩
  simp only [Act.put,xSi,xSz,xSs]
  refine ywa (i:=17) (by kernel_rfl) ?_
  refine wpOp_buildI (d:=some 43) rfl M36 h rfl (fun k40 w41 M39=>?_)
  refine ⟨⟨lS1_of av n0 cap M39 (fun n hn=>by simp [hn]),.inr fun _=>lS2_of M39⟩,?_⟩
  simp only [Act.put,xSi,xSz,xSs]
  refine ywa (i:=18) (by kernel_rfl) ?_
  refine wpOp_append (d:=some 44) 22 rfl M39 1 (r:=⟨3,V.hi,intC d.hi⟩) rfl (.int .i64 0) 8 Tryz.underlying22 info3 rfl (by decide) k40 (.int .i64 h) 3 (by simp [boxes]) rfl H2.out rfl rfl (fun a43 n44 c45 w46 M42=>?_)
  refine ⟨⟨lS1_of av n0 cap M42 (fun n hn=>by simp [hn]),.inr fun _=>lS2_of M42⟩,?_⟩
  simp only [Act.put,xSi,xSz,xSs]
  refine ywa (i:=25) (by kernel_rfl) ?_
  refine wpOp_append (d:=some 51) 22 rfl M42 2 (r:=⟨3,V.ma,intC d.ma⟩) rfl (.int .i64 0) 8 Tryz.underlying22 info3 rfl (by decide) k37 (.int .i64 m) 3 (by simp [boxes]) rfl H3.out rfl rfl (fun a47 n48 c49 w50 MT=>?_)
  refine ⟨⟨lS1_of av n0 cap MT (fun n hn=>by simp [hn]),.inr fun _=>lS2_of MT⟩,?_⟩
  simp only [Act.put,xSi,xSz,xSs]
  rotate_left
  refine wpOp_buildI (d:=some 43) rfl M1 h rfl (fun k52 w53 M51=>?_)
  refine ⟨⟨lS1_of av n0 cap M51 (fun n hn=>by simp [hn]),.inr fun _=>lS2_of M51⟩,?_⟩
  simp only [Act.put,xSi,xSz,xSs]
  refine wpAnyK_all2 (i:=10) (j:=24) (by kernel_rfl) ?_ ?_
  refine wpOp_append (d:=some 36) 22 rfl M51 0 (r:=⟨3,V.lo,intC d.lo⟩) rfl (.int .i64 0) 8 Tryz.underlying22 info3 rfl (by decide) k2 (.int .i64 l) 3 (by simp [boxes]) rfl H1.out rfl rfl (fun a55 n56 c57 w58 M54=>?_)
  refine ⟨⟨lS1_of av n0 cap M54 (fun n hn=>by simp [hn]),.inr fun _=>lS2_of M54⟩,?_⟩
  simp only [Act.put,xSi,xSz,xSs]
  refine wpAnyK_all2 (i:=18) (j:=24) (by kernel_rfl) ?_ ?_
  refine wpOp_append (d:=some 44) 22 rfl M54 1 (r:=⟨3,V.hi,intC d.hi⟩) rfl (.int .i64 0) 8 Tryz.underlying22 info3 rfl (by decide) k52 (.int .i64 h) 3 (by simp [boxes]) rfl H2.out rfl rfl (fun a60 n61 c62 w63 M59=>?_)
  refine ⟨⟨lS1_of av n0 cap M59 (fun n hn=>by simp [hn]),.inr fun _=>lS2_of M59⟩,?_⟩
  simp only [Act.put,xSi,xSz,xSs]
  refine ywa (i:=24) (by kernel_rfl) ?_
  refine wpOp_buildI (d:=some 50) rfl M59 m rfl (fun k65 w66 M64=>?_)
  refine ⟨⟨lS1_of av n0 cap M64 (fun n hn=>by simp [hn]),.inr fun _=>lS2_of M64⟩,?_⟩
  simp only [Act.put,xSi,xSz,xSs]
  refine ywa (i:=25) (by kernel_rfl) ?_
  refine wpOp_append (d:=some 51) 22 rfl M64 2 (r:=⟨3,V.ma,intC d.ma⟩) rfl (.int .i64 0) 8 Tryz.underlying22 info3 rfl (by decide) k65 (.int .i64 m) 3 (by simp [boxes]) rfl H3.out rfl rfl (fun a67 n68 c69 w70 MT=>?_)
  refine ⟨⟨lS1_of av n0 cap MT (fun n hn=>by simp [hn]),.inr fun _=>lS2_of MT⟩,?_⟩
  simp only [Act.put,xSi,xSz,xSs]
  rotate_left
  refine wpOp_buildI (d:=some 50) rfl M54 m rfl (fun k72 w73 M71=>?_)
  refine ⟨⟨lS1_of av n0 cap M71 (fun n hn=>by simp [hn]),.inr fun _=>lS2_of M71⟩,?_⟩
  simp only [Act.put,xSi,xSz,xSs]
  refine ywa (i:=18) (by kernel_rfl) ?_
  refine wpOp_append (d:=some 44) 22 rfl M71 1 (r:=⟨3,V.hi,intC d.hi⟩) rfl (.int .i64 0) 8 Tryz.underlying22 info3 rfl (by decide) k52 (.int .i64 h) 3 (by simp [boxes]) rfl H2.out rfl rfl (fun a75 n76 c77 w78 M74=>?_)
  refine ⟨⟨lS1_of av n0 cap M74 (fun n hn=>by simp [hn]),.inr fun _=>lS2_of M74⟩,?_⟩
  simp only [Act.put,xSi,xSz,xSs]
  refine ywa (i:=25) (by kernel_rfl) ?_
  refine wpOp_append (d:=some 51) 22 rfl M74 2 (r:=⟨3,V.ma,intC d.ma⟩) rfl (.int .i64 0) 8 Tryz.underlying22 info3 rfl (by decide) k72 (.int .i64 m) 3 (by simp [boxes]) rfl H3.out rfl rfl (fun a79 n80 c81 w82 MT=>?_)
  refine ⟨⟨lS1_of av n0 cap MT (fun n hn=>by simp [hn]),.inr fun _=>lS2_of MT⟩,?_⟩
  simp only [Act.put,xSi,xSz,xSs]
  rotate_left
  refine wpOp_buildI (d:=some 50) rfl M51 m rfl (fun k84 w85 M83=>?_)
  refine ⟨⟨lS1_of av n0 cap M83 (fun n hn=>by simp [hn]),.inr fun _=>lS2_of M83⟩,?_⟩
  simp only [Act.put,xSi,xSz,xSs]
  refine ywa (i:=10) (by kernel_rfl) ?_
  refine wpOp_append (d:=some 36) 22 rfl M83 0 (r:=⟨3,V.lo,intC d.lo⟩) rfl (.int .i64 0) 8 Tryz.underlying22 info3 rfl (by decide) k2 (.int .i64 l) 3 (by simp [boxes]) rfl H1.out rfl rfl (fun a87 n88 c89 w90 M86=>?_)
  refine ⟨⟨lS1_of av n0 cap M86 (fun n hn=>by simp [hn]),.inr fun _=>lS2_of M86⟩,?_⟩
  simp only [Act.put,xSi,xSz,xSs]
  refine ywa (i:=18) (by kernel_rfl) ?_
  refine wpOp_append (d:=some 44) 22 rfl M86 1 (r:=⟨3,V.hi,intC d.hi⟩) rfl (.int .i64 0) 8 Tryz.underlying22 info3 rfl (by decide) k52 (.int .i64 h) 3 (by simp [boxes]) rfl H2.out rfl rfl (fun a92 n93 c94 w95 M91=>?_)
  refine ⟨⟨lS1_of av n0 cap M91 (fun n hn=>by simp [hn]),.inr fun _=>lS2_of M91⟩,?_⟩
  simp only [Act.put,xSi,xSz,xSs]
  refine ywa (i:=25) (by kernel_rfl) ?_
  refine wpOp_append (d:=some 51) 22 rfl M91 2 (r:=⟨3,V.ma,intC d.ma⟩) rfl (.int .i64 0) 8 Tryz.underlying22 info3 rfl (by decide) k84 (.int .i64 m) 3 (by simp [boxes]) rfl H3.out rfl rfl (fun a96 n97 c98 w99 MT=>?_)
  refine ⟨⟨lS1_of av n0 cap MT (fun n hn=>by simp [hn]),.inr fun _=>lS2_of MT⟩,?_⟩
  simp only [Act.put,xSi,xSz,xSs]
  rotate_left
  refine wpOp_buildI (d:=some 50) rfl M1 m rfl (fun k101 w102 M100=>?_)
  refine ⟨⟨lS1_of av n0 cap M100 (fun n hn=>by simp [hn]),.inr fun _=>lS2_of M100⟩,?_⟩
  simp only [Act.put,xSi,xSz,xSs]
  refine wpAnyK_all2 (i:=10) (j:=17) (by kernel_rfl) ?_ ?_
  refine wpOp_append (d:=some 36) 22 rfl M100 0 (r:=⟨3,V.lo,intC d.lo⟩) rfl (.int .i64 0) 8 Tryz.underlying22 info3 rfl (by decide) k2 (.int .i64 l) 3 (by simp [boxes]) rfl H1.out rfl rfl (fun a104 n105 c106 w107 M103=>?_)
  refine ⟨⟨lS1_of av n0 cap M103 (fun n hn=>by simp [hn]),.inr fun _=>lS2_of M103⟩,?_⟩
  simp only [Act.put,xSi,xSz,xSs]
  refine ywa (i:=17) (by kernel_rfl) ?_
  refine wpOp_buildI (d:=some 43) rfl M103 h rfl (fun k109 w110 M108=>?_)
  refine ⟨⟨lS1_of av n0 cap M108 (fun n hn=>by simp [hn]),.inr fun _=>lS2_of M108⟩,?_⟩
  simp only [Act.put,xSi,xSz,xSs]
  refine ywa (i:=18) (by kernel_rfl) ?_
  refine wpOp_append (d:=some 44) 22 rfl M108 1 (r:=⟨3,V.hi,intC d.hi⟩) rfl (.int .i64 0) 8 Tryz.underlying22 info3 rfl (by decide) k109 (.int .i64 h) 3 (by simp [boxes]) rfl H2.out rfl rfl (fun a112 n113 c114 w115 M111=>?_)
  refine ⟨⟨lS1_of av n0 cap M111 (fun n hn=>by simp [hn]),.inr fun _=>lS2_of M111⟩,?_⟩
  simp only [Act.put,xSi,xSz,xSs]
  refine ywa (i:=25) (by kernel_rfl) ?_
  refine wpOp_append (d:=some 51) 22 rfl M111 2 (r:=⟨3,V.ma,intC d.ma⟩) rfl (.int .i64 0) 8 Tryz.underlying22 info3 rfl (by decide) k101 (.int .i64 m) 3 (by simp [boxes]) rfl H3.out rfl rfl (fun a116 n117 c118 w119 MT=>?_)
  refine ⟨⟨lS1_of av n0 cap MT (fun n hn=>by simp [hn]),.inr fun _=>lS2_of MT⟩,?_⟩
  simp only [Act.put,xSi,xSz,xSs]
  rotate_left
  refine wpOp_buildI (d:=some 43) rfl M100 h rfl (fun k121 w122 M120=>?_)
  refine ⟨⟨lS1_of av n0 cap M120 (fun n hn=>by simp [hn]),.inr fun _=>lS2_of M120⟩,?_⟩
  simp only [Act.put,xSi,xSz,xSs]
  refine ywa (i:=10) (by kernel_rfl) ?_
  refine wpOp_append (d:=some 36) 22 rfl M120 0 (r:=⟨3,V.lo,intC d.lo⟩) rfl (.int .i64 0) 8 Tryz.underlying22 info3 rfl (by decide) k2 (.int .i64 l) 3 (by simp [boxes]) rfl H1.out rfl rfl (fun a124 n125 c126 w127 M123=>?_)
  refine ⟨⟨lS1_of av n0 cap M123 (fun n hn=>by simp [hn]),.inr fun _=>lS2_of M123⟩,?_⟩
  simp only [Act.put,xSi,xSz,xSs]
  refine ywa (i:=18) (by kernel_rfl) ?_
  refine wpOp_append (d:=some 44) 22 rfl M123 1 (r:=⟨3,V.hi,intC d.hi⟩) rfl (.int .i64 0) 8 Tryz.underlying22 info3 rfl (by decide) k121 (.int .i64 h) 3 (by simp [boxes]) rfl H2.out rfl rfl (fun a129 n130 c131 w132 M128=>?_)
  refine ⟨⟨lS1_of av n0 cap M128 (fun n hn=>by simp [hn]),.inr fun _=>lS2_of M128⟩,?_⟩
  simp only [Act.put,xSi,xSz,xSs]
  refine ywa (i:=25) (by kernel_rfl) ?_
  refine wpOp_append (d:=some 51) 22 rfl M128 2 (r:=⟨3,V.ma,intC d.ma⟩) rfl (.int .i64 0) 8 Tryz.underlying22 info3 rfl (by decide) k101 (.int .i64 m) 3 (by simp [boxes]) rfl H3.out rfl rfl (fun a133 n134 c135 w136 MT=>?_)
  refine ⟨⟨lS1_of av n0 cap MT (fun n hn=>by simp [hn]),.inr fun _=>lS2_of MT⟩,?_⟩
  simp only [Act.put,xSi,xSz,xSs]
  rotate_left
  refine wpOp_buildI (d:=some 43) rfl M h rfl (fun k138 w139 M137=>?_)
  refine ⟨⟨lS1_of av n0 cap M137 (fun n hn=>by simp [hn]),.inr fun _=>lS2_of M137⟩,?_⟩
  simp only [Act.put,xSi,xSz,xSs]
  refine wpAnyK_all2 (i:=9) (j:=24) (by kernel_rfl) ?_ ?_
  refine wpOp_buildI (d:=some 35) rfl M137 l rfl (fun k141 w142 M140=>?_)
  refine ⟨⟨lS1_of av n0 cap M140 (fun n hn=>by simp [hn]),.inr fun _=>lS2_of M140⟩,?_⟩
  simp only [Act.put,xSi,xSz,xSs]
  refine wpAnyK_all2 (i:=10) (j:=24) (by kernel_rfl) ?_ ?_
  refine wpOp_append (d:=some 36) 22 rfl M140 0 (r:=⟨3,V.lo,intC d.lo⟩) rfl (.int .i64 0) 8 Tryz.underlying22 info3 rfl (by decide) k141 (.int .i64 l) 3 (by simp [boxes]) rfl H1.out rfl rfl (fun a144 n145 c146 w147 M143=>?_)
  refine ⟨⟨lS1_of av n0 cap M143 (fun n hn=>by simp [hn]),.inr fun _=>lS2_of M143⟩,?_⟩
  simp only [Act.put,xSi,xSz,xSs]
  refine wpAnyK_all2 (i:=18) (j:=24) (by kernel_rfl) ?_ ?_
  refine wpOp_append (d:=some 44) 22 rfl M143 1 (r:=⟨3,V.hi,intC d.hi⟩) rfl (.int .i64 0) 8 Tryz.underlying22 info3 rfl (by decide) k138 (.int .i64 h) 3 (by simp [boxes]) rfl H2.out rfl rfl (fun a149 n150 c151 w152 M148=>?_)
  refine ⟨⟨lS1_of av n0 cap M148 (fun n hn=>by simp [hn]),.inr fun _=>lS2_of M148⟩,?_⟩
  simp only [Act.put,xSi,xSz,xSs]
  refine ywa (i:=24) (by kernel_rfl) ?_
  refine wpOp_buildI (d:=some 50) rfl M148 m rfl (fun k154 w155 M153=>?_)
  refine ⟨⟨lS1_of av n0 cap M153 (fun n hn=>by simp [hn]),.inr fun _=>lS2_of M153⟩,?_⟩
  simp only [Act.put,xSi,xSz,xSs]
  refine ywa (i:=25) (by kernel_rfl) ?_
  refine wpOp_append (d:=some 51) 22 rfl M153 2 (r:=⟨3,V.ma,intC d.ma⟩) rfl (.int .i64 0) 8 Tryz.underlying22 info3 rfl (by decide) k154 (.int .i64 m) 3 (by simp [boxes]) rfl H3.out rfl rfl (fun a156 n157 c158 w159 MT=>?_)
  refine ⟨⟨lS1_of av n0 cap MT (fun n hn=>by simp [hn]),.inr fun _=>lS2_of MT⟩,?_⟩
  simp only [Act.put,xSi,xSz,xSs]
  rotate_left
  refine wpOp_buildI (d:=some 50) rfl M143 m rfl (fun k161 w162 M160=>?_)
  refine ⟨⟨lS1_of av n0 cap M160 (fun n hn=>by simp [hn]),.inr fun _=>lS2_of M160⟩,?_⟩
  simp only [Act.put,xSi,xSz,xSs]
  refine ywa (i:=18) (by kernel_rfl) ?_
  refine wpOp_append (d:=some 44) 22 rfl M160 1 (r:=⟨3,V.hi,intC d.hi⟩) rfl (.int .i64 0) 8 Tryz.underlying22 info3 rfl (by decide) k138 (.int .i64 h) 3 (by simp [boxes]) rfl H2.out rfl rfl (fun a164 n165 c166 w167 M163=>?_)
  refine ⟨⟨lS1_of av n0 cap M163 (fun n hn=>by simp [hn]),.inr fun _=>lS2_of M163⟩,?_⟩
  simp only [Act.put,xSi,xSz,xSs]
  refine ywa (i:=25) (by kernel_rfl) ?_
  refine wpOp_append (d:=some 51) 22 rfl M163 2 (r:=⟨3,V.ma,intC d.ma⟩) rfl (.int .i64 0) 8 Tryz.underlying22 info3 rfl (by decide) k161 (.int .i64 m) 3 (by simp [boxes]) rfl H3.out rfl rfl (fun a168 n169 c170 w171 MT=>?_)
  refine ⟨⟨lS1_of av n0 cap MT (fun n hn=>by simp [hn]),.inr fun _=>lS2_of MT⟩,?_⟩
  simp only [Act.put,xSi,xSz,xSs]
  rotate_left
  refine wpOp_buildI (d:=some 50) rfl M140 m rfl (fun k173 w174 M172=>?_)
  refine ⟨⟨lS1_of av n0 cap M172 (fun n hn=>by simp [hn]),.inr fun _=>lS2_of M172⟩,?_⟩
  simp only [Act.put,xSi,xSz,xSs]
  refine ywa (i:=10) (by kernel_rfl) ?_
  refine wpOp_append (d:=some 36) 22 rfl M172 0 (r:=⟨3,V.lo,intC d.lo⟩) rfl (.int .i64 0) 8 Tryz.underlying22 info3 rfl (by decide) k141 (.int .i64 l) 3 (by simp [boxes]) rfl H1.out rfl rfl (fun a176 n177 c178 w179 M175=>?_)
  refine ⟨⟨lS1_of av n0 cap M175 (fun n hn=>by simp [hn]),.inr fun _=>lS2_of M175⟩,?_⟩
  simp only [Act.put,xSi,xSz,xSs]
  refine ywa (i:=18) (by kernel_rfl) ?_
  refine wpOp_append (d:=some 44) 22 rfl M175 1 (r:=⟨3,V.hi,intC d.hi⟩) rfl (.int .i64 0) 8 Tryz.underlying22 info3 rfl (by decide) k138 (.int .i64 h) 3 (by simp [boxes]) rfl H2.out rfl rfl (fun a181 n182 c183 w184 M180=>?_)
  refine ⟨⟨lS1_of av n0 cap M180 (fun n hn=>by simp [hn]),.inr fun _=>lS2_of M180⟩,?_⟩
  simp only [Act.put,xSi,xSz,xSs]
  refine ywa (i:=25) (by kernel_rfl) ?_
  refine wpOp_append (d:=some 51) 22 rfl M180 2 (r:=⟨3,V.ma,intC d.ma⟩) rfl (.int .i64 0) 8 Tryz.underlying22 info3 rfl (by decide) k173 (.int .i64 m) 3 (by simp [boxes]) rfl H3.out rfl rfl (fun a185 n186 c187 w188 MT=>?_)
  refine ⟨⟨lS1_of av n0 cap MT (fun n hn=>by simp [hn]),.inr fun _=>lS2_of MT⟩,?_⟩
  simp only [Act.put,xSi,xSz,xSs]
  rotate_left
  refine wpOp_buildI (d:=some 50) rfl M137 m rfl (fun k190 w191 M189=>?_)
  refine ⟨⟨lS1_of av n0 cap M189 (fun n hn=>by simp [hn]),.inr fun _=>lS2_of M189⟩,?_⟩
  simp only [Act.put,xSi,xSz,xSs]
  refine ywa (i:=9) (by kernel_rfl) ?_
  refine wpOp_buildI (d:=some 35) rfl M189 l rfl (fun k193 w194 M192=>?_)
  refine ⟨⟨lS1_of av n0 cap M192 (fun n hn=>by simp [hn]),.inr fun _=>lS2_of M192⟩,?_⟩
  simp only [Act.put,xSi,xSz,xSs]
  refine ywa (i:=10) (by kernel_rfl) ?_
  refine wpOp_append (d:=some 36) 22 rfl M192 0 (r:=⟨3,V.lo,intC d.lo⟩) rfl (.int .i64 0) 8 Tryz.underlying22 info3 rfl (by decide) k193 (.int .i64 l) 3 (by simp [boxes]) rfl H1.out rfl rfl (fun a196 n197 c198 w199 M195=>?_)
  refine ⟨⟨lS1_of av n0 cap M195 (fun n hn=>by simp [hn]),.inr fun _=>lS2_of M195⟩,?_⟩
  simp only [Act.put,xSi,xSz,xSs]
  refine ywa (i:=18) (by kernel_rfl) ?_
  refine wpOp_append (d:=some 44) 22 rfl M195 1 (r:=⟨3,V.hi,intC d.hi⟩) rfl (.int .i64 0) 8 Tryz.underlying22 info3 rfl (by decide) k138 (.int .i64 h) 3 (by simp [boxes]) rfl H2.out rfl rfl (fun a201 n202 c203 w204 M200=>?_)
  refine ⟨⟨lS1_of av n0 cap M200 (fun n hn=>by simp [hn]),.inr fun _=>lS2_of M200⟩,?_⟩
  simp only [Act.put,xSi,xSz,xSs]
  refine ywa (i:=25) (by kernel_rfl) ?_
  refine wpOp_append (d:=some 51) 22 rfl M200 2 (r:=⟨3,V.ma,intC d.ma⟩) rfl (.int .i64 0) 8 Tryz.underlying22 info3 rfl (by decide) k190 (.int .i64 m) 3 (by simp [boxes]) rfl H3.out rfl rfl (fun a205 n206 c207 w208 MT=>?_)
  refine ⟨⟨lS1_of av n0 cap MT (fun n hn=>by simp [hn]),.inr fun _=>lS2_of MT⟩,?_⟩
  simp only [Act.put,xSi,xSz,xSs]
  rotate_left
  refine wpOp_buildI (d:=some 50) rfl M m rfl (fun k210 w211 M209=>?_)
  refine ⟨⟨lS1_of av n0 cap M209 (fun n hn=>by simp [hn]),.inr fun _=>lS2_of M209⟩,?_⟩
  simp only [Act.put,xSi,xSz,xSs]
  refine wpAnyK_all2 (i:=9) (j:=17) (by kernel_rfl) ?_ ?_
  refine wpOp_buildI (d:=some 35) rfl M209 l rfl (fun k213 w214 M212=>?_)
  refine ⟨⟨lS1_of av n0 cap M212 (fun n hn=>by simp [hn]),.inr fun _=>lS2_of M212⟩,?_⟩
  simp only [Act.put,xSi,xSz,xSs]
  refine wpAnyK_all2 (i:=10) (j:=17) (by kernel_rfl) ?_ ?_
  refine wpOp_append (d:=some 36) 22 rfl M212 0 (r:=⟨3,V.lo,intC d.lo⟩) rfl (.int .i64 0) 8 Tryz.underlying22 info3 rfl (by decide) k213 (.int .i64 l) 3 (by simp [boxes]) rfl H1.out rfl rfl (fun a216 n217 c218 w219 M215=>?_)
  refine ⟨⟨lS1_of av n0 cap M215 (fun n hn=>by simp [hn]),.inr fun _=>lS2_of M215⟩,?_⟩
  simp only [Act.put,xSi,xSz,xSs]
  refine ywa (i:=17) (by kernel_rfl) ?_
  refine wpOp_buildI (d:=some 43) rfl M215 h rfl (fun k221 w222 M220=>?_)
  refine ⟨⟨lS1_of av n0 cap M220 (fun n hn=>by simp [hn]),.inr fun _=>lS2_of M220⟩,?_⟩
  simp only [Act.put,xSi,xSz,xSs]
  refine ywa (i:=18) (by kernel_rfl) ?_
  refine wpOp_append (d:=some 44) 22 rfl M220 1 (r:=⟨3,V.hi,intC d.hi⟩) rfl (.int .i64 0) 8 Tryz.underlying22 info3 rfl (by decide) k221 (.int .i64 h) 3 (by simp [boxes]) rfl H2.out rfl rfl (fun a224 n225 c226 w227 M223=>?_)
  refine ⟨⟨lS1_of av n0 cap M223 (fun n hn=>by simp [hn]),.inr fun _=>lS2_of M223⟩,?_⟩
  simp only [Act.put,xSi,xSz,xSs]
  refine ywa (i:=25) (by kernel_rfl) ?_
  refine wpOp_append (d:=some 51) 22 rfl M223 2 (r:=⟨3,V.ma,intC d.ma⟩) rfl (.int .i64 0) 8 Tryz.underlying22 info3 rfl (by decide) k210 (.int .i64 m) 3 (by simp [boxes]) rfl H3.out rfl rfl (fun a228 n229 c230 w231 MT=>?_)
  refine ⟨⟨lS1_of av n0 cap MT (fun n hn=>by simp [hn]),.inr fun _=>lS2_of MT⟩,?_⟩
  simp only [Act.put,xSi,xSz,xSs]
  rotate_left
  refine wpOp_buildI (d:=some 43) rfl M212 h rfl (fun k233 w234 M232=>?_)
  refine ⟨⟨lS1_of av n0 cap M232 (fun n hn=>by simp [hn]),.inr fun _=>lS2_of M232⟩,?_⟩
  simp only [Act.put,xSi,xSz,xSs]
  refine ywa (i:=10) (by kernel_rfl) ?_
  refine wpOp_append (d:=some 36) 22 rfl M232 0 (r:=⟨3,V.lo,intC d.lo⟩) rfl (.int .i64 0) 8 Tryz.underlying22 info3 rfl (by decide) k213 (.int .i64 l) 3 (by simp [boxes]) rfl H1.out rfl rfl (fun a236 n237 c238 w239 M235=>?_)
  refine ⟨⟨lS1_of av n0 cap M235 (fun n hn=>by simp [hn]),.inr fun _=>lS2_of M235⟩,?_⟩
  simp only [Act.put,xSi,xSz,xSs]
  refine ywa (i:=18) (by kernel_rfl) ?_
  refine wpOp_append (d:=some 44) 22 rfl M235 1 (r:=⟨3,V.hi,intC d.hi⟩) rfl (.int .i64 0) 8 Tryz.underlying22 info3 rfl (by decide) k233 (.int .i64 h) 3 (by simp [boxes]) rfl H2.out rfl rfl (fun a241 n242 c243 w244 M240=>?_)
  refine ⟨⟨lS1_of av n0 cap M240 (fun n hn=>by simp [hn]),.inr fun _=>lS2_of M240⟩,?_⟩
  simp only [Act.put,xSi,xSz,xSs]
  refine ywa (i:=25) (by kernel_rfl) ?_
  refine wpOp_append (d:=some 51) 22 rfl M240 2 (r:=⟨3,V.ma,intC d.ma⟩) rfl (.int .i64 0) 8 Tryz.underlying22 info3 rfl (by decide) k210 (.int .i64 m) 3 (by simp [boxes]) rfl H3.out rfl rfl (fun a245 n246 c247 w248 MT=>?_)
  refine ⟨⟨lS1_of av n0 cap MT (fun n hn=>by simp [hn]),.inr fun _=>lS2_of MT⟩,?_⟩
  simp only [Act.put,xSi,xSz,xSs]
  rotate_left
  refine wpOp_buildI (d:=some 43) rfl M209 h rfl (fun k250 w251 M249=>?_)
  refine ⟨⟨lS1_of av n0 cap M249 (fun n hn=>by simp [hn]),.inr fun _=>lS2_of M249⟩,?_⟩
  simp only [Act.put,xSi,xSz,xSs]
  refine ywa (i:=9) (by kernel_rfl) ?_
  refine wpOp_buildI (d:=some 35) rfl M249 l rfl (fun k253 w254 M252=>?_)
  refine ⟨⟨lS1_of av n0 cap M252 (fun n hn=>by simp [hn]),.inr fun _=>lS2_of M252⟩,?_⟩
  simp only [Act.put,xSi,xSz,xSs]
  refine ywa (i:=10) (by kernel_rfl) ?_
  refine wpOp_append (d:=some 36) 22 rfl M252 0 (r:=⟨3,V.lo,intC d.lo⟩) rfl (.int .i64 0) 8 Tryz.underlying22 info3 rfl (by decide) k253 (.int .i64 l) 3 (by simp [boxes]) rfl H1.out rfl rfl (fun a256 n257 c258 w259 M255=>?_)
  refine ⟨⟨lS1_of av n0 cap M255 (fun n hn=>by simp [hn]),.inr fun _=>lS2_of M255⟩,?_⟩
  simp only [Act.put,xSi,xSz,xSs]
  refine ywa (i:=18) (by kernel_rfl) ?_
  refine wpOp_append (d:=some 44) 22 rfl M255 1 (r:=⟨3,V.hi,intC d.hi⟩) rfl (.int .i64 0) 8 Tryz.underlying22 info3 rfl (by decide) k250 (.int .i64 h) 3 (by simp [boxes]) rfl H2.out rfl rfl (fun a261 n262 c263 w264 M260=>?_)
  refine ⟨⟨lS1_of av n0 cap M260 (fun n hn=>by simp [hn]),.inr fun _=>lS2_of M260⟩,?_⟩
  simp only [Act.put,xSi,xSz,xSs]
  refine ywa (i:=25) (by kernel_rfl) ?_
  refine wpOp_append (d:=some 51) 22 rfl M260 2 (r:=⟨3,V.ma,intC d.ma⟩) rfl (.int .i64 0) 8 Tryz.underlying22 info3 rfl (by decide) k210 (.int .i64 m) 3 (by simp [boxes]) rfl H3.out rfl rfl (fun a265 n266 c267 w268 MT=>?_)
  refine ⟨⟨lS1_of av n0 cap MT (fun n hn=>by simp [hn]),.inr fun _=>lS2_of MT⟩,?_⟩
  simp only [Act.put,xSi,xSz,xSs]
  rotate_left
  all_goals
   refine ywa (i:=26) (by kernel_rfl) (wpOp_ran2 (some 52) rfl rfl rfl (run_nil1 _ ⟨X,0,none⟩ rfl) ⟨⟨lS1_of av n0 cap MT (fun n hn=>by simp [hn]),.inr id⟩,?_⟩)
   simp only [Act.put,xSi,xSz,xSs]
   refine ywa (i:=27) (by kernel_rfl) (wpOp_ran2 (some 53) rfl rfl rfl (run_field97 _ X 0 (by omega) rfl) ⟨⟨lS1_of av n0 cap MT (fun n hn=>by simp [hn]),.inr id⟩,?_⟩)
   simp only [Act.put,xSi,xSz,xSs]
   refine ywa (i:=28) (by kernel_rfl) (wpOp_storeX (d:=none) rfl MT (by simp) 0 _ _ _ _ rfl rfl rfl (fun w270 M269=>⟨⟨lS1_of av n0 cap M269 (fun n hn=>by simp [hn]),.inl rfl⟩,?_⟩))
   simp only [xSi,xSz,xSs] at M269
   simp only [Act.put,xSi,xSz,xSs]
   refine ywa (i:=29) (by kernel_rfl) (wpOp_ran2 (some 54) rfl rfl rfl (run_nil1 _ ⟨X,0,none⟩ rfl) ⟨⟨lS1_of av n0 cap M269 (fun n hn=>by simp [hn]),.inr id⟩,?_⟩)
   simp only [Act.put,xSi,xSz,xSs]
   refine ywa (i:=30) (by kernel_rfl) (wpOp_ran2 (some 55) rfl rfl rfl (run_field97 _ X 1 (by omega) rfl) ⟨⟨lS1_of av n0 cap M269 (fun n hn=>by simp [hn]),.inr id⟩,?_⟩)
   simp only [Act.put,xSi,xSz,xSs]
   refine ywa (i:=31) (by kernel_rfl) (wpOp_storeX (d:=none) rfl M269 (by simp) 1 _ _ _ _ rfl rfl rfl (fun w272 M271=>⟨⟨lS1_of av n0 cap M271 (fun n hn=>by simp [hn]),.inl rfl⟩,?_⟩))
   simp only [xSi,xSz,xSs] at M271
   simp only [Act.put,xSi,xSz,xSs]
   refine ywa (i:=32) (by kernel_rfl) (wpOp_ran2 (some 56) rfl rfl rfl (run_nil1 _ ⟨X,0,none⟩ rfl) ⟨⟨lS1_of av n0 cap M271 (fun n hn=>by simp [hn]),.inr id⟩,?_⟩)
   simp only [Act.put,xSi,xSz,xSs]
   refine ywa (i:=33) (by kernel_rfl) (wpOp_ran2 (some 57) rfl rfl rfl (run_field97 _ X 2 (by omega) rfl) ⟨⟨lS1_of av n0 cap M271 (fun n hn=>by simp [hn]),.inr id⟩,?_⟩)
   simp only [Act.put,xSi,xSz,xSs]
   refine ywa (i:=34) (by kernel_rfl) (wpOp_storeX (d:=none) rfl M271 (by simp) 2 _ _ _ _ rfl rfl rfl (fun w274 M273=>⟨⟨lS1_of av n0 cap M273 (fun n hn=>by simp [hn]),.inl rfl⟩,?_⟩))
   simp only [xSi,xSz,xSs] at M273
   simp only [Act.put,xSi,xSz,xSs]
   refine wpAnyK_done (by kernel_rfl) ?_ _
   go_wp2_with fail
   go_meet
   exact ⟨_,_,_,_,_,_,_,_,_,_,M273,fun n hn=>by simp [hn]⟩
 case rest =>
  obtain ⟨a1,c1,a2,c2,a3,c3,n1,n2,n3,Ns,M4,hNs⟩:=hcut
  have HM4:=hid M4
  have HN4:=hid hNs
  clear M4 hNs
  go_wp2_with fail
  go_cut [] (fun wx=>Rel5 w base X d V extra l h m av n0 cap wx)
  case first =>
   have M:=HM4.out.drew
   have hNs:=HN4.out
   refine wp_region_K2 (LS1 w X l h) (LS3 X V.fo V.la) T5 21 #[false,false,false,false,false,false,false,false,false,false,false,false,false,false,false,false,false,false,false,false,false] (by kernel_rfl) (by kernel_rfl) (by kernel_rfl) ?_
   refine ywt (i:=0) (some 58) (v:=(.pointer (some ⟨X,0,none⟩))) rfl rfl (by kernel_rfl) (by kernel_rfl) (by kernel_rfl) (fun _ _ _ h=>h) (.inl ⟨by rfl,fun w' hw'=>run_load1 85 _ ⟨w.heap.size,0,none⟩ _ (by simp) rfl hw'.1⟩) (lS1_of av n0 cap M (fun n hn=>by have:=hNs n hn; simp [this])) ?_
   simp only [Act.put,xSi,xSz,xSs]
   refine ywt (i:=1) (some 59) (v:=(.pointer (some ⟨X,0,none⟩))) rfl rfl (by kernel_rfl) (by kernel_rfl) (by kernel_rfl) (fun _ _ _ h=>h) (.inl ⟨by rfl,fun w' hw'=>run_load1 85 _ ⟨w.heap.size,0,none⟩ _ (by simp) rfl hw'.1⟩) (lS1_of av n0 cap M (fun n hn=>by have:=hNs n hn; simp [this])) ?_
   simp only [Act.put,xSi,xSz,xSs]
   refine ywt (i:=2) (some 60) (v:=(.pointer (some ⟨X,0,none⟩))) rfl rfl (by kernel_rfl) (by kernel_rfl) (by kernel_rfl) (fun _ _ _ h=>h) (.inl ⟨by rfl,fun w' hw'=>run_load1 85 _ ⟨w.heap.size,0,none⟩ _ (by simp) rfl hw'.1⟩) (lS1_of av n0 cap M (fun n hn=>by have:=hNs n hn; simp [this])) ?_
   simp only [Act.put,xSi,xSz,xSs]
   refine ywt (i:=9) (some 67) (v:=(.pointer (some ⟨X,0,none⟩))) rfl rfl (by kernel_rfl) (by kernel_rfl) (by kernel_rfl) (fun _ _ _ h=>h) (.inl ⟨by rfl,fun w' hw'=>run_load1 85 _ ⟨w.heap.size,0,none⟩ _ (by simp) rfl hw'.1⟩) (lS1_of av n0 cap M (fun n hn=>by have:=hNs n hn; simp [this])) ?_
   simp only [Act.put,xSi,xSz,xSs]
   refine ywt (i:=3) (some 61) (v:=(.pointer (some ⟨X,0,none⟩))) rfl rfl (by kernel_rfl) (by kernel_rfl) (by kernel_rfl) (fun _ _ _ h=>h) (.inl ⟨by rfl,fun w' hw'=>run_nil1 _ _ rfl⟩) (lS1_of av n0 cap M (fun n hn=>by have:=hNs n hn; simp [this])) ?_
   simp only [Act.put,xSi,xSz,xSs]
   refine ywt (i:=10) (some 68) (v:=(.pointer (some ⟨X,0,none⟩))) rfl rfl (by kernel_rfl) (by kernel_rfl) (by kernel_rfl) (fun _ _ _ h=>h) (.inl ⟨by rfl,fun w' hw'=>run_nil1 _ _ rfl⟩) (lS1_of av n0 cap M (fun n hn=>by have:=hNs n hn; simp [this])) ?_
   simp only [Act.put,xSi,xSz,xSs]
   refine ywt (i:=4) (some 62) (v:=(.pointer (some ⟨X,3,none⟩))) rfl rfl (by kernel_rfl) (by kernel_rfl) (by kernel_rfl) (fun _ _ _ h=>h) (.inl ⟨by rfl,fun w' hw'=>run_field97 _ X 3 (by omega) rfl⟩) (lS1_of av n0 cap M (fun n hn=>by have:=hNs n hn; simp [this])) ?_
   simp only [Act.put,xSi,xSz,xSs]
   refine ywt (i:=11) (some 69) (v:=(.pointer (some ⟨X,4,none⟩))) rfl rfl (by kernel_rfl) (by kernel_rfl) (by kernel_rfl) (fun _ _ _ h=>h) (.inl ⟨by rfl,fun w' hw'=>run_field97 _ X 4 (by omega) rfl⟩) (lS1_of av n0 cap M (fun n hn=>by have:=hNs n hn; simp [this])) ?_
   simp only [Act.put,xSi,xSz,xSs]
   refine wpAnyK_take2 (i:=5) (some 63) (v:=V.fo) rfl rfl (by kernel_rfl) (by kernel_rfl) (by kernel_rfl) (fun _ _ _ h=>h) (by intro j hj; rcases T5_spec hj with rfl | rfl | rfl<;>kernel_rfl) (.inl ⟨by rfl,fun w' hw'=>run_load1 94 _ ⟨X,3,none⟩ _ (by simp) rfl hw'.2.1⟩) ⟨lS1_of av n0 cap M (fun n hn=>by have:=hNs n hn; simp [this]),lS3_of M⟩ ?_
   simp only [Act.put,xSi,xSz,xSs]
   refine wpAnyK_take2 (i:=12) (some 70) (v:=V.la) rfl rfl (by kernel_rfl) (by kernel_rfl) (by kernel_rfl) (fun _ _ _ h=>h) (by intro j hj; rcases T5_spec hj with rfl | rfl | rfl<;>kernel_rfl) (.inl ⟨by rfl,fun w' hw'=>run_load1 95 _ ⟨X,4,none⟩ _ (by simp) rfl hw'.2.2⟩) ⟨lS1_of av n0 cap M (fun n hn=>by have:=hNs n hn; simp [this]),lS3_of M⟩ ?_
   simp only [Act.put,xSi,xSz,xSs]
   refine wpAnyK_all2 (i:=6) (j:=13) (by kernel_rfl) ?_ ?_
   refine wpOp_makeM (d:=some 64) rfl M (fun k276 w277 M275=>?_)
   refine ⟨⟨lS1_of av n0 cap M275 (fun n hn=>by have:=hNs n hn; simp [this]),.inr fun _=>lS3_of M275⟩,?_⟩
   simp only [Act.put,xSi,xSz,xSs]
   refine wpAnyK_all2 (i:=7) (j:=13) (by kernel_rfl) ?_ ?_
   refine wpOp_buildM (d:=some 65) rfl M275 (some k276) rfl (fun k279 w280 M278=>?_)
   refine ⟨⟨lS1_of av n0 cap M278 (fun n hn=>by have:=hNs n hn; simp [this]),.inr fun _=>lS3_of M278⟩,?_⟩
   simp only [Act.put,xSi,xSz,xSs]
   refine wpAnyK_all2 (i:=8) (j:=13) (by kernel_rfl) ?_ ?_
   refine wpOp_append (d:=some 66) 94 rfl M278 3 (r:=⟨165,V.fo,mapC d.fo⟩) rfl (.map Option.none) 8 Tryz.underlying94 info165 rfl (by decide) k279 (.map (some k276)) 165 (by simp [boxes]) rfl H4.out rfl rfl (fun a282 n283 c284 w285 M281=>?_)
   refine ⟨⟨lS1_of av n0 cap M281 (fun n hn=>by have:=hNs n hn; simp [this]),.inr fun _=>lS3_of M281⟩,?_⟩
   simp only [Act.put,xSi,xSz,xSs]
   refine ywa (i:=13) (by kernel_rfl) ?_
   refine wpOp_buildB (d:=some 71) rfl M281 false rfl (fun k287 w288 M286=>?_)
   refine ⟨⟨lS1_of av n0 cap M286 (fun n hn=>by have:=hNs n hn; simp [this]),.inr fun _=>lS3_of M286⟩,?_⟩
   simp only [Act.put,xSi,xSz,xSs]
   refine ywa (i:=14) (by kernel_rfl) ?_
   refine wpOp_append (d:=some 72) 95 rfl M286 4 (r:=⟨4,V.la,boolC d.la⟩) rfl (.bool false) 1 Tryz.underlying95 info4b rfl (by decide) k287 (.bool false) 4 (by simp [boxes]) rfl H5.out rfl rfl (fun a289 n290 c291 w292 MT=>?_)
   refine ⟨⟨lS1_of av n0 cap MT (fun n hn=>by have:=hNs n hn; simp [this]),.inr fun _=>lS3_of MT⟩,?_⟩
   simp only [Act.put,xSi,xSz,xSs]
   rotate_left
   refine wpOp_buildB (d:=some 71) rfl M278 false rfl (fun k294 w295 M293=>?_)
   refine ⟨⟨lS1_of av n0 cap M293 (fun n hn=>by have:=hNs n hn; simp [this]),.inr fun _=>lS3_of M293⟩,?_⟩
   simp only [Act.put,xSi,xSz,xSs]
   refine ywa (i:=8) (by kernel_rfl) ?_
   refine wpOp_append (d:=some 66) 94 rfl M293 3 (r:=⟨165,V.fo,mapC d.fo⟩) rfl (.map Option.none) 8 Tryz.underlying94 info165 rfl (by decide) k279 (.map (some k276)) 165 (by simp [boxes]) rfl H4.out rfl rfl (fun a297 n298 c299 w300 M296=>?_)
   refine ⟨⟨lS1_of av n0 cap M296 (fun n hn=>by have:=hNs n hn; simp [this]),.inr fun _=>lS3_of M296⟩,?_⟩
   simp only [Act.put,xSi,xSz,xSs]
   refine ywa (i:=14) (by kernel_rfl) ?_
   refine wpOp_append (d:=some 72) 95 rfl M296 4 (r:=⟨4,V.la,boolC d.la⟩) rfl (.bool false) 1 Tryz.underlying95 info4b rfl (by decide) k294 (.bool false) 4 (by simp [boxes]) rfl H5.out rfl rfl (fun a301 n302 c303 w304 MT=>?_)
   refine ⟨⟨lS1_of av n0 cap MT (fun n hn=>by have:=hNs n hn; simp [this]),.inr fun _=>lS3_of MT⟩,?_⟩
   simp only [Act.put,xSi,xSz,xSs]
   rotate_left
   refine wpOp_buildB (d:=some 71) rfl M275 false rfl (fun k306 w307 M305=>?_)
   refine ⟨⟨lS1_of av n0 cap M305 (fun n hn=>by have:=hNs n hn; simp [this]),.inr fun _=>lS3_of M305⟩,?_⟩
   simp only [Act.put,xSi,xSz,xSs]
   refine ywa (i:=7) (by kernel_rfl) ?_
   refine wpOp_buildM (d:=some 65) rfl M305 (some k276) rfl (fun k309 w310 M308=>?_)
   refine ⟨⟨lS1_of av n0 cap M308 (fun n hn=>by have:=hNs n hn; simp [this]),.inr fun _=>lS3_of M308⟩,?_⟩
   simp only [Act.put,xSi,xSz,xSs]
   refine ywa (i:=8) (by kernel_rfl) ?_
   refine wpOp_append (d:=some 66) 94 rfl M308 3 (r:=⟨165,V.fo,mapC d.fo⟩) rfl (.map Option.none) 8 Tryz.underlying94 info165 rfl (by decide) k309 (.map (some k276)) 165 (by simp [boxes]) rfl H4.out rfl rfl (fun a312 n313 c314 w315 M311=>?_)
   refine ⟨⟨lS1_of av n0 cap M311 (fun n hn=>by have:=hNs n hn; simp [this]),.inr fun _=>lS3_of M311⟩,?_⟩
   simp only [Act.put,xSi,xSz,xSs]
   refine ywa (i:=14) (by kernel_rfl) ?_
   refine wpOp_append (d:=some 72) 95 rfl M311 4 (r:=⟨4,V.la,boolC d.la⟩) rfl (.bool false) 1 Tryz.underlying95 info4b rfl (by decide) k306 (.bool false) 4 (by simp [boxes]) rfl H5.out rfl rfl (fun a316 n317 c318 w319 MT=>?_)
   refine ⟨⟨lS1_of av n0 cap MT (fun n hn=>by have:=hNs n hn; simp [this]),.inr fun _=>lS3_of MT⟩,?_⟩
   simp only [Act.put,xSi,xSz,xSs]
   rotate_left
   refine wpOp_buildB (d:=some 71) rfl M false rfl (fun k321 w322 M320=>?_)
   refine ⟨⟨lS1_of av n0 cap M320 (fun n hn=>by have:=hNs n hn; simp [this]),.inr fun _=>lS3_of M320⟩,?_⟩
   simp only [Act.put,xSi,xSz,xSs]
   refine ywa (i:=6) (by kernel_rfl) ?_
   refine wpOp_makeM (d:=some 64) rfl M320 (fun k324 w325 M323=>?_)
   refine ⟨⟨lS1_of av n0 cap M323 (fun n hn=>by have:=hNs n hn; simp [this]),.inr fun _=>lS3_of M323⟩,?_⟩
   simp only [Act.put,xSi,xSz,xSs]
   refine ywa (i:=7) (by kernel_rfl) ?_
   refine wpOp_buildM (d:=some 65) rfl M323 (some k324) rfl (fun k327 w328 M326=>?_)
   refine ⟨⟨lS1_of av n0 cap M326 (fun n hn=>by have:=hNs n hn; simp [this]),.inr fun _=>lS3_of M326⟩,?_⟩
   simp only [Act.put,xSi,xSz,xSs]
   refine ywa (i:=8) (by kernel_rfl) ?_
   refine wpOp_append (d:=some 66) 94 rfl M326 3 (r:=⟨165,V.fo,mapC d.fo⟩) rfl (.map Option.none) 8 Tryz.underlying94 info165 rfl (by decide) k327 (.map (some k324)) 165 (by simp [boxes]) rfl H4.out rfl rfl (fun a330 n331 c332 w333 M329=>?_)
   refine ⟨⟨lS1_of av n0 cap M329 (fun n hn=>by have:=hNs n hn; simp [this]),.inr fun _=>lS3_of M329⟩,?_⟩
   simp only [Act.put,xSi,xSz,xSs]
   refine ywa (i:=14) (by kernel_rfl) ?_
   refine wpOp_append (d:=some 72) 95 rfl M329 4 (r:=⟨4,V.la,boolC d.la⟩) rfl (.bool false) 1 Tryz.underlying95 info4b rfl (by decide) k321 (.bool false) 4 (by simp [boxes]) rfl H5.out rfl rfl (fun a334 n335 c336 w337 MT=>?_)
   refine ⟨⟨lS1_of av n0 cap MT (fun n hn=>by have:=hNs n hn; simp [this]),.inr fun _=>lS3_of MT⟩,?_⟩
   simp only [Act.put,xSi,xSz,xSs]
   rotate_left
   all_goals
    refine ywa (i:=15) (by kernel_rfl) (wpOp_ran2 (some 73) rfl rfl rfl (run_nil1 _ ⟨X,0,none⟩ rfl) ⟨⟨lS1_of av n0 cap MT (fun n hn=>by have:=hNs n hn; simp [this]),.inr id⟩,?_⟩)
    simp only [Act.put,xSi,xSz,xSs]
    refine ywa (i:=16) (by kernel_rfl) (wpOp_ran2 (some 74) rfl rfl rfl (run_field97 _ X 3 (by omega) rfl) ⟨⟨lS1_of av n0 cap MT (fun n hn=>by have:=hNs n hn; simp [this]),.inr id⟩,?_⟩)
    simp only [Act.put,xSi,xSz,xSs]
    refine ywa (i:=17) (by kernel_rfl) (wpOp_storeX (d:=none) rfl MT (by simp) 3 _ _ _ _ rfl rfl rfl (fun w339 M338=>⟨⟨lS1_of av n0 cap M338 (fun n hn=>by have:=hNs n hn; simp [this]),.inl rfl⟩,?_⟩))
    simp only [xSi,xSz,xSs] at M338
    simp only [Act.put,xSi,xSz,xSs]
    refine ywa (i:=18) (by kernel_rfl) (wpOp_ran2 (some 75) rfl rfl rfl (run_nil1 _ ⟨X,0,none⟩ rfl) ⟨⟨lS1_of av n0 cap M338 (fun n hn=>by have:=hNs n hn; simp [this]),.inr id⟩,?_⟩)
    simp only [Act.put,xSi,xSz,xSs]
    refine ywa (i:=19) (by kernel_rfl) (wpOp_ran2 (some 76) rfl rfl rfl (run_field97 _ X 4 (by omega) rfl) ⟨⟨lS1_of av n0 cap M338 (fun n hn=>by have:=hNs n hn; simp [this]),.inr id⟩,?_⟩)
    simp only [Act.put,xSi,xSz,xSs]
    refine ywa (i:=20) (by kernel_rfl) (wpOp_storeX (d:=none) rfl M338 (by simp) 4 _ _ _ _ rfl rfl rfl (fun w341 M340=>⟨⟨lS1_of av n0 cap M340 (fun n hn=>by have:=hNs n hn; simp [this]),.inl rfl⟩,?_⟩))
    simp only [xSi,xSz,xSs] at M340
    simp only [Act.put,xSi,xSz,xSs]
    refine wpAnyK_done (by kernel_rfl) ?_ _
    go_wp2_with fail
    go_meet
    exact ⟨_,_,_,_,_,_,_,_,_,M340,fun n hn=>by have:=hNs n hn; simp [this]⟩
  case rest =>
   obtain ⟨a,n1,c1,hi,ma,fo,la,mm,Ns5,M5,hN5⟩:=hcut
   have hb5:=xC M5.blk 0
   have ho5:=M5.rows.get (j:=0) rfl
   simp only [xGe,xGz] at hb5
   obtain ⟨a',c',e'⟩:=yos ho5
   simp only [Value.slice.injEq,List.length_append,intC_len,List.length_cons,List.length_nil] at e'
   obtain ⟨_,rfl,_⟩:=e'
   have hx5:=(M5.news (w.heap.size,#[.pointer (some ⟨X,0,none⟩)],85) (hN5 _ (by simp [boxes]))).1
   have hbx:=xC hx5 0
   simp only [xGe,xGz] at hbx
   have HM5:=hid M5
   have hlo:(d.lo.length:Int)≤100000:=by unfold SpD.n at hn; omega
   have hlo0:(0:Int)≤d.lo.length:=by omega
   have HL:=hid (leaf_done HS.out HF.out M5)
   rw [show d.lo.length+(0+1)=d.lo.length+1 from rfl] at hb5
   clear M5 ho5 hx5 hN5
   go_wp2_with fail
   exact bodyPost_ret (v:=.tuple #[.slice (some ⟨wc.heap.size,0,none⟩) 1 1,.slice (some ⟨wc.heap.size,0,none⟩) 1 1,.bool false]) (by simp [results,Tryz.results78,go_sem]) rfl HL.out
end Go.Proofs.YtplbacfjmajeeaaGreatDoor
