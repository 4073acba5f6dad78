import Derived.Test.YtplbacfjmajeeaaGreatDoorJ16
import Derived.Lib.BufferRead
namespace Go.Proofs.YtplbacfjmajeeaaGreatDoor
open Go.Lib (hid)
set_option maxHeartbeats 4000000
set_option maxRecDepth 100000
open Go.RowKit
attribute [local go_sem ↓] Go.wp_at_zero Go.wp_at_succ
def FolPost (w2 w:World) (bm bx gm mm gd gb P n:Nat) (C:Array Value) (L:List En) (sv kv stv:Value) (svs:List Value) (sts:List StV) (M i κ:Nat) (e:Ending) (w':World):Prop :=
 Frm (FolP bm bx gm mm sv kv stv) w w'∧∃ kv',
  (∃ j,posM L M=some j∧e=.returned (.int .i64 (j:Nat))∧XSt w2 w' bm bx gm mm gd gb P n C L sv kv' stv svs sts) ∨
  (posM L M=none∧e=.returned (.int .i64 ((L.length+1:Nat):Int))∧∃ sv' stv' v,∀ E:En,maskOf E.set=M→XSt w2 w' bm bx gm mm gd gb P n C (L++[E]) sv' kv' stv' (svs++[v]) (sts++[⟨.slice none 0 0,.slice none 0 0,false,i,κ⟩]))
theorem cut_zero {w:World} {base:Nat} {kv:Value} {n:Nat} {xs:List Value} (h:w.ownsRow base 5 1 kv n xs):∃ kv0,(∀ w,(Instr.slice 111 kv none (some (.int .i64 0)) none).run Tryz.prog w=.ok kv0 w)∧w.ownsRow base 5 1 kv0 0 []∧(kv0.ownBlock=kv.ownBlock∨kv0.ownBlock=none):=by
 rcases h.2 with ⟨rfl,rfl⟩ | ⟨g,cap,cur,rfl,hb,hg,hnc,hm,hs,ht⟩
 · exact ⟨.slice none 0 0,fun w=>by kernel_rfl,World.ownsRow_nil _ _ _ _,.inl rfl⟩
 · exact ⟨.slice (some ⟨g,0,none⟩) 0 cap,fun w=>by go_simp,⟨by simp,.inr ⟨g,cap,cur,rfl,hb,hg,Nat.zero_le _,hm,hs,by simp⟩⟩,.inl rfl⟩
theorem conv_key {w:World} {base:Nat} {kv:Value} {l:List UInt8} (h:w.ownsRow base 5 1 kv l.length (byteCells l)):(convert 111 9 kv).run Tryz.prog w=.ok (sKeyV l) w:=by
 rcases h.2 with ⟨rfl,h0⟩ | ⟨g,cap,cur,rfl,hb,hg,hnc,hm,hs,ht⟩
 · have:l=[]:=List.eq_nil_of_length_eq_zero h0
   subst this
   exact Go.Lib.run_convert_nil_bytes w 111 9 5 0 Tryz.underlying111 Tryz.underlying5 Tryz.underlying9
 · refine run_convert_bytes_back w 111 9 5 ⟨g,0,none⟩ cap l Tryz.underlying111 Tryz.underlying5 Tryz.underlying9 (fun j hj=>?_)
   exact h.cells (g:=g) rfl j _ (by simp [byteCells,hj])
theorem mask_has (P M:Nat) (h:M<2 ^ P):maskOf ((List.range P).filter (M.testBit ·))=M:=by
 apply mask_eq
 intro k
 rw [testBit_maskOf]
 by_cases hk:k<P
 · simp [hk]
 · have:=Nat.testBit_lt_two_pow (Nat.lt_of_lt_of_le h (Nat.pow_le_pow_right (by omega) (show P≤k by omega)))
   rw [this]
   simp [hk]
theorem maskAt_last (L:List En) (E0 E:En) (h:maskOf E0.set=maskOf E.set) (k:Nat):maskAt (L++[E0]) k=maskAt (L++[E]) k:=by
 cases k with
 | zero=>rfl
 | succ k =>
  simp only [maskAt]
  rcases Nat.lt_or_ge k L.length with hk | hk
  · simp [List.getD,List.getElem?_append_left hk]
  · simp only [List.getD,List.getElem?_append_right hk]
    cases hj:k-L.length with
    | zero=>simpa using h
    | succ j=>simp
theorem XG.congrE {w2 w:World} {bm bx gm mm gd gb P n:Nat} {C:Array Value} {L:List En} {E0 E:En} {sv kv stv:Value} {svs:List Value} {sts:List StV} (X:XG w2 w bm bx gm mm gd gb P n C (L++[E0]) (L++[E0]) sv kv stv svs sts) (h:maskOf E0.set=maskOf E.set) :
 XG w2 w bm bx gm mm gd gb P n C (L++[E]) (L++[E]) sv kv stv svs sts:=by
 obtain ⟨f,hf,hf2⟩:=X.map
 refine ⟨X.fr,X.mch,X.dn,X.bgn,X.xb,X.set,by have:=X.svl; simpa using this,fun k v hv=>?_,X.met,X.key,⟨f,by have:=hf; rw [List.length_append] at this ⊢; exact this,fun M hM=>?_⟩,X.str,X.new,fun k hk=>?_⟩
 · rw [← maskAt_last L E0 E h]; exact X.sva k v hv
 · rw [hf2 M hM,posM_snoc,posM_snoc,h]
 · rw [← maskAt_last L E0 E h]; exact X.fits k (by simpa using hk)
def KeyPost (w2 w:World) (bm bx gm mm gd gb P n:Nat) (C:Array Value) (L:List En) (sv kv stv:Value) (svs:List Value) (sts:List StV) (M:Nat) (wx:World):Prop :=
 ∃ kv',XG w2 wx bm bx gm mm gd gb P n C L L sv kv' stv svs sts∧wx.ownsRow w2.heap.size 5 1 kv' (keyB P M).length (byteCells (keyB P M))∧OwnSet wx gm P M∧Frm (FolP bm bx gm mm sv kv stv) w wx
theorem key_done {w2 w w3 w4:World} {bm bx gm mm gd gb P n m:Nat} {C:Array Value} {L:List En} {sv kv kv0 kv' stv:Value} {svs:List Value} {sts:List StV} {M:Nat} (X:XG w2 w3 bm bx gm mm gd gb P n C L L sv kv stv svs sts) (F:Frm (FolP bm bx gm mm sv kv stv) w w3) (hO:OwnSet w3 gm P M)
 (h0:kv0.ownBlock=kv.ownBlock∨kv0.ownBlock=none) (hm:m=(keyB P M).length) (own:w4.ownsRow w2.heap.size 5 1 kv' m (byteCells ([]++keyB P M))) (g:w3.grownBy w4 kv0.ownBlock) :
 KeyPost w2 w bm bx gm mm gd gb P n C L sv kv stv svs sts M (w4.setCell ⟨bx,4,none⟩ kv'):=by
 subst hm
 rw [List.nil_append] at own
 obtain ⟨X4,F4⟩:=X.setKey h0 own g
 have hb1:w4.heap[bx]? = _:=(g.block bx (xL X.xb) (fun e=>by
  obtain ⟨xs9,h9⟩:=X.key
  rcases h0 with h | h
  · rw [h] at e; exact own_ne_block h9 X.xb (by decide) e.symm
  · rw [h] at e; cases e)).trans X.xb
 refine ⟨kv',X4,yoc own hb1 (by decide) _ _,⟨hO.fits,?_⟩,F.trans F4⟩
 rw [Below.heap_setCell _ _ _ _ (blk_ne hO.blk X.xb (by decide)),g.block _ (xL hO.blk) (fun e=>by
  obtain ⟨xs9,h9⟩:=X.key
  rcases h0 with h | h
  · rw [h] at e; exact own_ne_block h9 hO.blk (by decide) e.symm
  · rw [h] at e; cases e)]
 exact hO.blk
set_option maxHeartbeats 8000000 in
theorem follow_any (w2 w:World) (base0 bm gn gr gd gb bx gm mm i κ A:Nat) (ps:List Pt) (C:Array Value) (lv mv ov:Value) (gs:List Nat) (L:List En) (sv kv stv:Value) (svs:List Value) (sts:List StV) (hP:ylL ps≤64) (hL:L.length≤100000) (_:i≤100000)
 (hM:MacF w2 base0 bm gn gr gd gb ps C lv mv gs) (hX:XSt w2 w bm bx gm mm gd gb (ylL ps) (sizes ps) C L sv kv stv svs sts) (hκ:κ<gs.length) (hgs:gs.length≤256) (hO:SetAt w ov (ylL ps) A) :
 Calls Tryz.prog 72 #[.pointer (some ⟨bx,0,none⟩),.int .i64 i,.int .i64 κ,ov] w (FolPost w2 w bm bx gm mm gd gb (ylL ps) (sizes ps) C L sv kv stv svs sts (A &&& maskOf (matchL (bytesL ps) (bytesL ps).length κ)) i κ):=by
 obtain ⟨X,hsl⟩:=hX
 obtain ⟨iS,hiS,aS0,aS1,aS2⟩:=info_parts info141
 obtain ⟨iT,hiT,aT0,aT1,aT2⟩:=info_parts info146
 obtain ⟨cur,hcur⟩:=X.met
 obtain ⟨D2,hD2,_⟩:=hM.dn
 obtain ⟨B2,hB2,_⟩:=hM.bgn
 have hgc:gs[κ]? = some gs[κ]:=List.getElem?_eq_getElem hκ
 have hmset:=hM.sets κ _ hgc
 obtain ⟨mg,mc,hmv,_,hmc⟩:=yoe hM.mat (by omega)
 subst hmv
 obtain ⟨_,mcs,hmb⟩:=yob hM.mat mg rfl
 have cm2:=hmc κ (setV (ylL ps) gs[κ]) (by simp [hκ])
 have hmb':=X.old hM.mac.blk hD2 hB2 hmb (by decide) (by decide)
 have cmc:w.cell? ⟨mg,κ,none⟩=some (.slice (some ⟨gs[κ],0,none⟩) (nw (ylL ps)) (nw (ylL ps))):=by
  rw [xC hmb] at cm2
  rw [xC hmb']; exact cm2
 have hmset':SetAt w (setV (ylL ps) gs[κ]) (ylL ps) (maskOf (matchL (bytesL ps) (bytesL ps).length κ)):=by
  have:=X.old hM.mac.blk hD2 hB2 hmset.blk (by decide) (by decide)
  exact OwnSet.set ⟨hmset.fits,this⟩
 obtain ⟨x0,x1,x2,x3,x4⟩:=cb5 X.xb
 have fx:=yfb X.xb
 have b5:w.cell? ⟨bm,260,none⟩=some (.slice (some ⟨mg,0,none⟩) gs.length mc):=by
  rw [xC X.mch,set_get_ne _ _ _ _ (by omega)]; exact hM.c5
 have nxg:bx≠gm:=blk_ne X.xb hcur.blk (by decide)
 have nbg:bm≠gm:=blk_ne X.mch hcur.blk (by decide)
 have nmg:mg≠gm:=blk_ne hmb' hcur.blk (by decide)
 have hmeet:=fun W (g:w.grownBy W none)=>meet_any gm (ylL ps) cur A (maskOf (matchL (bytesL ps) (bytesL ps).length κ)) ov (setV (ylL ps) gs[κ]) W hP (hcur.grow g (by simp)) (hO.grow g) (hmset'.grow g)
 unfold setV at hmeet x3
 generalize gs[κ]=gk at cmc hmeet
 have HMT:=hid hmeet
 have HX:=hid X
 have HM:=hid hM
 have hi0:(0:Int)≤(κ:Int):=by omega
 have hi1:(κ:Int)<(gs.length:Int):=by omega
 clear hmeet hmset hmset' hmb hmb' cm2 hmc hgc hcur hD2 hB2 hO fx X hM
 go_enter Tryz.func72,Tryz.ntmps72
 go_wp2_with fail
 go_region_held3 (fun w'=>w'.cell? ⟨bx,0,none⟩=some (.pointer (some ⟨bm,0,none⟩))∧w'.cell? ⟨bx,3,none⟩=some (.slice (some ⟨gm,0,none⟩) (nw (ylL ps)) (nw (ylL ps)))∧w'.cell? ⟨bm,260,none⟩=some (.slice (some ⟨mg,0,none⟩) gs.length mc)∧w'.cell? ⟨mg,κ,none⟩=some (.slice (some ⟨gk,0,none⟩) (nw (ylL ps)) (nw (ylL ps)))) (first | go_keep) (first | (go_at_call 95; refine (HMT.out _ (by repeat (first | exact grow_self _ | apply grow_drew | apply yga))).mono ?_; rintro e w3 ⟨rfl,hO3,g3⟩; have g4:w.grownBy w3 (some gm):=grow_undrew g3; have y0:=g4.cell x0 (by simpa using nxg); have y3:=g4.cell x3 (by simpa using nxg); have y5:=g4.cell b5 (by simpa using nbg); have ym:=g4.cell cmc (by simpa using nmg); have HO3:=hid hO3; clear hO3 g3))
 obtain ⟨X3,F3⟩:=HX.out.setMet HO3.out g4
 obtain ⟨xs3,hk3⟩:=X3.key
 obtain ⟨kv0,hsk,hown0,hkb⟩:=cut_zero hk3
 have hsz3:=X3.fr.size
 have HX3:=hid X3
 have HF3:=hid F3
 have HXB3:=hid X3.xb
 have HOWN0:=hid hown0
 have HKB:=hid hkb
 obtain ⟨M,hM'⟩:∃ M,M=A &&& maskOf (matchL (bytesL ps) (bytesL ps).length κ):=⟨_,rfl⟩
 have y4:=xC X3.xb 4
 have z3:=xC X3.xb 3
 simp only [xGe,xGz,xGs] at y4 z3
 unfold setV at z3
 have HO3':=hid (show OwnSet w3 gm (ylL ps) M by rw [hM']; exact HO3.out)
 rw [← hM']
 have HMM:=hid hM'
 clear X3 F3 hk3 hown0 hkb hM' HO3 x0 x1 x2 x3 x4 b5 cmc
 go_wp2_with fail
 have hkey:=fun W (g:w3.grownBy W none)=>key_any (setV (ylL ps) gm) kv0 w2.heap.size 0 (ylL ps) M [] W hP (by omega) (Nat.le_trans hsz3 g.size) ((HO3'.out.grow g (by simp)).set) (ownsRow_frm (Frm.of_grown g (fun _ _=>True)) HOWN0.out (fun _ _ _ _=>trivial))
 unfold setV at hkey
 have HKY:=hid hkey
 clear hkey
 have HBN:=hid (show some bx≠kv0.ownBlock from fun e=>by
  obtain ⟨xs9,h9⟩:=HX3.out.key
  rcases HKB.out with h | h
  · rw [h] at e; exact own_ne_block h9 HXB3.out (by decide) e.symm
  · rw [h] at e; cases e)
 go_cut [] (fun wx=>KeyPost w2 w bm bx gm mm gd gb (ylL ps) (sizes ps) C L sv kv stv svs sts M wx)
 case first =>
  go_region_law (go_simp; go_at_call 96; refine (HKY.out _ (by repeat (first | exact grow_self _ | apply grow_drew | apply yga))).mono ?_; rintro e w4 ⟨kv',rfl,hO4,g4'⟩; rw [Nat.zero_add] at hO4; have g5:w3.grownBy w4 kv0.ownBlock:=grow_undrew g4'; obtain ⟨ka,kc,rfl⟩:=yos hO4; have BX5:=(g5.block _ (xL HXB3.out) HBN.out).trans HXB3.out; have y44:=xC BX5 4; have f44:=yfb BX5 4; simp only [xGe,xGz,xGs] at y44; have HO4:=hid hO4; have HG5:=hid g5; clear hO4 g4' g5 BX5)
  all_goals (go_wp2_with fail; go_meet)
  all_goals exact key_done HX3.out HF3.out HO3'.out HKB.out rfl HO4.out HG5.out
 case rest =>
  clear hsk y0 y3 y5 ym y4 z3 hsz3
  obtain ⟨kv1,X5,hk5,hO5,F5⟩:=hcut
  obtain ⟨f,hf,hf2⟩:=X5.map
  obtain ⟨ka,kc,rfl⟩:=yos hk5
  have hkl:=keyB_len (ylL ps) M
  have hMl:=hO5.fits
  have hcv:=conv_key (w:=wc.drew) hk5
  have hlk:=StrMap.look (w:=wc.drew) (h:=hf.same rfl) (keyB (ylL ps) M) (by omega)
  rw [hf2 M hMl] at hlk
  have x2:=xC X5.xb 2
  have x4:=xC X5.xb 4
  have x0:=xC X5.xb 0
  have fx:=yfb X5.xb
  simp only [xGe,xGz,xGs] at x0 x2 x4
  have HX5:=hid X5
  have HK5:=hid hk5
  have HO5:=hid hO5
  have HF5:=hid F5
  have HF:=hid hf
  have HF2:=hid hf2
  clear X5 hk5 hO5 F5 hf hf2
  cases hp:posM L M with
  | some j =>
   rw [hp] at hlk
   simp only [Option.getD_some,Option.isSome_some] at hlk
   have HP:=hid hp
   clear hp
   go_wp2_with fail
   go_region
   go_wp2_with fail
   go_ret
   exact ⟨HF5.out.drew,_,.inl ⟨j,by rw [← HMM.out]; exact HP.out,rfl,HX5.out.grow (grow_drew (grow_self _)),hsl⟩⟩
  | none =>
   rw [hp] at hlk
   simp only [Option.getD_none,Option.isSome_none] at hlk
   have HP:=hid hp
   clear hp
   go_wp2_with fail
   go_region
   have X6:=HX5.out.grow (grow_drew (grow_self wc))
   have F6:=HF5.out.drew
   have K6:wc.drew.ownsRow w2.heap.size 5 1 _ _ _:=HK5.out.drew
   have O6:=HO5.out.drew
   have S6:StrMap wc.drew mm L.length f:=HF.out.same rfl
   have cm6:wc.drew.cell? ⟨bm,263,none⟩=some stv:=by
    rw [xC X6.mch,set_get_self _ _ _ (by rw [HM.out.csz]; omega)]
   clear hcv hlk x2 x4 x0 fx
   generalize wc.drew=w6 at X6 F6 K6 O6 S6 cm6 ⊢
   clear HX5 HF5 HK5 HO5 HF
   obtain ⟨x0,x1,x2⟩:=cb3 X6.xb
   have x4:=xC X6.xb 4
   simp only [xGe,xGz,xGs] at x4
   obtain ⟨ta,tc,rfl⟩:=yos X6.str
   have hcv:=conv_key (w:=w6.drew) K6
   obtain ⟨w7,hput,S7,g7⟩:=StrMap.put (w:=w6.drew) (h:=S6.same rfl) (keyB (ylL ps) M) (by omega) (by omega) (L.length+1) (by omega)
   have hstl:((sts.length:Nat):Int)=((L.length+1:Nat):Int):=by rw [hsl]
   rw [← hstl] at hput
   have HX6:=hid X6
   have HF6:=hid F6
   have HO6:=hid O6
   have HS6:=hid S6
   have HS7:=hid S7
   have HG7:=hid g7
   have HSTL:=hid hstl
   have HSL:=hid hsl
   clear X6 F6 K6 O6 S6 S7 g7 hstl hsl
   go_wp2_with fail
   go_region
   go_wp2_with fail
   obtain ⟨E0,hE0⟩:∃ E0:En,maskOf E0.set=M:=⟨⟨(List.range (ylL ps)).filter (M.testBit ·),[]⟩,mask_has _ _ hMl⟩
   obtain ⟨X7,F7⟩:=(HX6.out.grow (grow_drew (grow_self w6))).setMap hP (HS6.out.same rfl) HF2.out hMl hE0 HP.out HS7.out HG7.out
   have O7:OwnSet w7 gm (ylL ps) M:=⟨hMl,by
    obtain ⟨es,c,hmb⟩:=HS6.out.blk
    rw [HG7.out.block _ (xL (w:=w6.drew) HO6.out.blk) (by simpa using fun e=>map_ne hmb HO6.out.blk e.symm)]; exact HO6.out.blk⟩
   obtain ⟨sa,sc,rfl⟩:=yos X7.set
   have HX7:=hid X7
   have HF7:=hid F7
   have HO7:=hid O7
   have HXB7:=hid X7.xb
   have hclone:=fun W (g:w7.grownBy W none)=>clone_any gm (ylL ps) M W (O7.grow g (by simp))
   have x71:=xC X7.xb 1
   have x73:=xC X7.xb 3
   simp only [xGe,xGz,xGs] at x71 x73
   unfold setV at hclone x73
   have HCL:=hid hclone
   have hsvl:svs.length≤100001:=by have:=X7.svl; omega
   have hsz7:=X7.fr.size
   clear X7 F7 O7 hclone hput hcv x0 x1 x2 x4 cm6
   go_cut [] (fun wx=>∃ sv' v,XG w2 wx bm bx gm mm gd gb (ylL ps) (sizes ps) C (L++[E0]) (L++[E0]) sv' (.slice ka (keyB (ylL ps) M).length kc) (.slice ta sts.length tc) (svs++[v]) sts∧Frm (FolP bm bx gm mm (.slice sa svs.length sc) kv (.slice ta sts.length tc)) w wx)
   case first =>
    go_region_law (first | (have tok:=g8; refine step_append_lies _ (by rfl) (.tmp 78) (.tmp 84) 133 (by rfl) w2.heap.size 141 iS (.slice none 0 0) 1 24 Tryz.underlying133 hiS aS0 aS1 aS2 rfl (by omega) _ svs.length svs (by rfl) ((HX7.out.grow (by repeat (first | assumption | apply grow_drew | apply yga))).set) ⟨w8.heap.size,0,none⟩ 1 1 [.slice (some ⟨cg,0,none⟩) (nw (ylL ps)) cc] (by rfl) (by rfl) (World.news_of_block (cs:=#[.slice (some ⟨cg,0,none⟩) (nw (ylL ps)) cc]) (t:=141) (fr:=(0,0)) (xN w8 _)) (by simp [Value.oneCell']) (by omega) (by unfold maxLen; omega) (by omega) (by have:=g8.size; simp; omega) (w8.heap.size+1) (by simp) ?_; intro gg cap1 w9 hown1 hgrow hat hlt1; clear tok; have BX9:=ygb (HX7.out.grow (yga g8 (.cells #[.slice (some ⟨cg,0,none⟩) (nw (ylL ps)) cc] 141))).set hgrow (grow_new (yga g8 _) HXB7.out) (by decide); have fx9:=yfb BX9 1; have cx9:=xC BX9 1; simp only [xGe,xGz,xGs] at cx9; clear BX9) | (go_simp; go_at_call 97; refine (HCL.out _ (by repeat (first | exact grow_self _ | apply grow_drew | apply yga))).mono ?_; rintro e w8 ⟨⟨cg,cc,rfl,hcg,hcv⟩,g8'⟩; have g8:w7.grownBy w8 none:=grow_undrew g8'; have x71b:=ycg x71 g8; have x71c:∀ o,(w8.alloc o).cell? ⟨bx,1,none⟩=_:=fun o=>ycg x71b (xG w8 o none); have HCV:=hid hcv; have HCG:=hid hcg; clear hcv hcg g8'))
    all_goals (go_wp2_with fail; go_meet)
    all_goals
     obtain ⟨X9,F9⟩:=HX7.out.addSet hMl hE0 g8 HCG.out HCV.out rfl hown1 hgrow
     exact ⟨_,_,X9,(HF6.out.drew.trans (HF7.out _ _ _)).trans (F9 _ _)⟩
   case rest =>
    obtain ⟨sv',v,X10,F10⟩:=hcut
    have HX10:=hid X10
    have HF10:=hid F10
    have c0:=xC X10.xb 0
    have HMB:=hid X10.mch
    have cb:=xC X10.mch 263
    rw [set_get_self _ _ _ (by rw [HM.out.csz]; omega)] at cb
    simp only [xGe,xGz] at c0
    have e0:∀ o,(wc.alloc o).cell? ⟨bx,0,none⟩=_:=fun o=>ycg c0 (xG wc o none)
    have eb:∀ o,(wc.alloc o).cell? ⟨bm,263,none⟩=_:=fun o=>ycg cb (xG wc o none)
    have hstl:sts.length≤100001:=by have:=HSL.out; omega
    have hsz10:=X10.fr.size
    have hown:=X10.str
    have HOWN:=hid hown
    clear X10 F10 hown x71 x73
    go_wp2_with fail
    go_region_law (refine step_append_lies _ (by rfl) (.tmp 98) (.tmp 102) 134 (by rfl) w2.heap.size 146 iT (.agg #[.slice none 0 0,.slice none 0 0,.bool false,.int .i64 0,.int .i64 0]) 5 72 Tryz.underlying134 hiT aT0 aT1 aT2 rfl (by omega) _ sts.length (stCells sts) (by rfl) ((HOWN.out.alloc _).drew) ⟨wc.heap.size,0,none⟩ 1 1 [.slice none 0 0,.slice none 0 0,.bool false,.int .i64 i,.int .i64 κ] (by rfl) (by rfl) (World.news_of_block (cs:=#[.slice none 0 0,.slice none 0 0,.bool false,.int .i64 i,.int .i64 κ]) (t:=146) (fr:=(0,0)) (xN wc _)) (by simp [Value.oneCell']) (by omega) (by unfold maxLen; omega) (by omega) (by simp; omega) (wc.heap.size+1) (by simp) ?_; intro gg cap1 w12 hown1 hgrow hat hlt1; have BM:=ygb (HOWN.out.alloc _).drew hgrow ((Below.heap_alloc wc _ _ (xL HMB.out)).trans HMB.out) (by decide); have fm:=yfb BM 263; have cm:=(xC BM 263).trans (set_get_self _ _ _ (by rw [HM.out.csz]; omega)); clear BM; have BXX:=ygb (HOWN.out.alloc _).drew hgrow ((Below.heap_alloc wc _ _ (xL HX10.out.xb)).trans HX10.out.xb) (by decide); have fx:=yfb BXX 0; have cx:=xC BXX 0; simp only [xGe,xGz] at cx; clear BXX)
    all_goals
     obtain ⟨X12,F12⟩:=HX10.out.addState HM.out.csz rfl hown1 (grow_undrew hgrow)
     have HX12:=hid X12
     have HF12:=hid F12
     clear X12 F12
     go_wp2_with fail
     go_ret
     refine ⟨HF10.out.trans (HF12.out _ _),_,.inr ⟨by rw [← HMM.out]; exact HP.out,by rw [HSTL.out]; rfl,sv',_,v,fun E hE=>⟨HX12.out.congrE (by rw [hE0,hE,HMM.out]),by simp [HSL.out]⟩⟩⟩
end Go.Proofs.YtplbacfjmajeeaaGreatDoor
