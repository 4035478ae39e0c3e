/- Texts of the seat, packed: Ae Af. -/
import Derived.Test.YtieoppabellafaaGreatDoorG01
import Derived.Test.YtieoppabellafaaGreatDoorG09
import Derived.Test.YtieoppabellafaaGreatDoorG18
import Derived.Test.YtieoppabellafaaGreatDoorG21
import Derived.Test.YtieoppabellafaaGreatDoorG22
import Derived.Maps.AppendAt
import Derived.TacticsInMore
set_option maxRecDepth 1000000
set_option maxHeartbeats 64000000
set_option linter.unusedVariables false
namespace Go.Proofs.YtieoppabellafaaGreatDoor.Ts
open Go.RowKit Go.Shelf Fc St Sx Sa Rl
variable {its:List It}{l:List Fa}{P:OuP}{ob:Nat}{w:World}
def upsN (its:List It)(i:Nat):List Nat:=aboveL its (i:Int) ++ [i]
noncomputable def oversN (its:List It)(i:Nat):List Nat:=(upsN its i).flatMap fun (j:Nat)=>overI its (j:Int)
theorem stem_of {q:By × Tr}(hq:sagaP its=some q):Stem its:=by
 intro i x hx h0;obtain⟨_,hi⟩:=plan_items hq
 obtain⟨⟨j,a,y,e1,e2,e3⟩,_⟩:=hi i x hx h0
 have h3:=(plan_ok hq).inn i h0 (jH.1 hx).1;have h4:x.inn=((plOf its).inn i:Nat):=by
  show x.inn=((its.getD i It.z).inn.toNat:Int);rw[getD_it hx,e1]
  rfl
 omega
theorem ups_an {q:By × Tr}(hq:sagaP its=some q):∀f i,1≤i→i < its.length→i≤f→∀s,s∈upsF its f i↔An (plOf its) i s:=by
 intro f
 induction f with
 | zero=>intro i h1 _ h2;omega
 | succ f ih=>
  intro i h1 hi h2 s;obtain⟨x,hx⟩:∃x,its[i]? =some x:=⟨_,jF hi⟩
  have hinn:(plOf its).inn i=x.inn.toNat:=by show (its.getD i It.z).inn.toNat=_;rw[getD_it hx]
  have h3:=(plan_ok hq).inn i h1 hi;rw[upsF,if_neg (by omega),hx]
  simp only[zJ];rw[an_iff hq h1 hi,←hinn]
  by_cases h0:(plOf its).inn i=0
  ·rw[h0]
   have:upsF its f 0=[]:=by cases f <;> simp[upsF]
   rw[this]
   constructor
   ·rintro (h | h)
    ·exact .inl h
    ·cases h
   ·rintro (h | ⟨h,_⟩)
    ·exact .inl h
    ·omega
  ·rw[ih _ (by omega) (by omega) (by omega)]
   constructor
   ·rintro (h | h)
    ·exact .inl h
    ·exact .inr ⟨by omega,h⟩
   ·rintro (h | ⟨_,h⟩)
    ·exact .inl h
    ·exact .inr h
theorem over_root {q:By × Tr}(hq:sagaP its=some q)(hp:0 < its.length):overI its ((0:Nat):Int)=[]:=by
 have hl:=plan_leans hq;refine List.eq_nil_iff_forall_not_mem.2 fun m hm=>?_
 obtain⟨m1,m2,ho⟩:=(over_iff hq hp).1 hm
 have key:∀k,St.Ov (afOf its) 0 k→1≤k→k < its.length→False:=fun k ho=>by
  induction ho with
  | one hk=>intro k1 k2;have:=(hl.ons _ k1 k2 _ hk).1;omega
  | @more k a hk _ ih=>
   intro k1 k2;obtain⟨a1,a2,_⟩:=hl.ons _ k1 k2 _ hk
   exact ih a1 a2
 exact key m ho m1 m2
theorem bare_iff (hc:chkF its l=0){i:Nat}(h1:1≤i)(hi:i < its.length):baB its l i=true↔∀m∈oversN its i,cleS its l (m:Int)=true:=by
 obtain⟨⟨q,hq⟩,_⟩:=chk_facts hc
 have hab:∀s,s∈aboveL its (i:Int)↔An (plOf its) i s:=fun s=>by
  unfold aboveL;rw[if_pos ⟨by omega,by omega⟩,j8]
  exact ups_an hq _ i h1 hi (by omega) s
 have hlt:∀s,An (plOf its) i s→s < its.length:=fun s h=>by
  have h9:=(stem_ups (stem_of hq) its.length i hi (by omega));have key:∀s,An (plOf its) i s→s < its.length:=fun s h=>by
   induction h with
   | one=>have:=(plan_ok hq).inn i h1 hi;omega
   | @up t _ ht ih=>have:=(plan_ok hq).inn t ht ih;omega
  exact key s h
 rw[baB_iff]
 unfold oversN upsN;simp only[List.mem_flatMap,jX,zY]
 constructor
 ·rintro⟨h2,h3⟩ m ⟨j,hj | rfl,hm⟩
  ·have ha:=(hab j).1 hj
   by_cases hj0:j=0
   ·subst hj0;rw[over_root hq (by omega)] at hm
    cases hm
   ·exact (oc_iff hc (hlt j ha)).1 (h3 j ha (by omega)) m hm
  ·exact (oc_iff hc hi).1 h2 m hm
 ·intro h;refine⟨(oc_iff hc hi).2 fun m hm=>h m ⟨i,.inr rfl,hm⟩,fun s hs h1s=>(oc_iff hc (hlt s hs)).2 fun m hm=>h m ⟨s,.inl ((hab s).2 hs),hm⟩⟩
def RowT (T:Nat→Prop)(v:Value)(L:List Nat)(W:World):Prop:=∃a cap,v= .slice a L.length cap∧L.length≤cap∧∀(j x:Nat),L[j]? =some x→∃g,a=some ⟨g,0,none⟩∧T g∧g < W.heap.size∧W.cell? ⟨g,j,none⟩=some (.int .i64 (x:Int))
theorem RowT.of_own {W:World}{B:Nat}{T:Nat→Prop}{v:Value}{L:List Nat}(h:W.ownsRow B 3 1 v L.length (Dg.ivs L))(hT:∀g,B≤g→g < W.heap.size→T g):RowT T v L W:=by
 have h2:=h
 rcases h.2 with ⟨rfl,h0⟩ | ⟨g,cap,cur,rfl,hb,hh,q1,q2,_⟩
 ·have:L=[]:=by
   cases L with
   | nil=>rfl
   | cons x L=>simp at h0
  subst this;exact⟨none,0,rfl,jG _,fun j x hx=>by simp at hx⟩
 ·have hg:=(jD.1 hh).1;refine⟨_,cap,rfl,q1,fun j x hx=>⟨g,rfl,hT g hb hg,hg,?_⟩⟩
  have hj:=(jH.1 hx).1;have:=h2.cellAt j (by omega);rw[this]
  unfold Dg.ivs;rw[zC,hx]
  rfl
theorem RowT.keep {T T':Nat→Prop}{v:Value}{L:List Nat}{W W':World}(h:RowT T v L W)(hk:∀g,T g→g < W.heap.size→T' g∧W'.heap[g]? =W.heap[g]?)(hs:W.heap.size≤W'.heap.size):RowT T' v L W':=by
 obtain⟨a,cap,e,hc,hr⟩:=h
 refine⟨a,cap,e,hc,fun j x hx=>?_⟩
 obtain⟨g,ha,ht,hl,hcell⟩:=hr j x hx
 obtain⟨k1,k2⟩:=hk g ht hl
 exact⟨g,ha,k1,by omega,(zI (a:=⟨g,j,none⟩) k2).trans hcell⟩
structure OvS (w1 Ws:World)(J:Nat→World→(Nat→Prop)→Prop)(T0 T:Nat→Prop)(k:Nat)(W:World):Prop where
 j:J k W T
 bel:Below w1.heap.size w1 W
 own:∀b,T b→b < W.heap.size
 old:∀b,b < Ws.heap.size→(T b↔T0 b)
 sz:Ws.heap.size≤W.heap.size
theorem OvS.round {w1 Ws:World}{J:Nat→World→(Nat→Prop)→Prop}{T0 T:Nat→Prop}{k k':Nat}{W W':World}(h:OvS w1 Ws J T0 T k W)(hj:J k' W' T)(hr:Rl.Rv w1.heap.size T W W'):OvS w1 Ws J T0 T k' W':=
 ⟨hj,h.bel.trans hr.below,fun b hb=>jR (h.own b hb) hr.size,h.old,zH h.sz hr.size⟩
theorem OvS.more {w1 Ws:World}{J:Nat→World→(Nat→Prop)→Prop}{T0 T:Nat→Prop}{k:Nat}{W W':World}(h:OvS w1 Ws J T0 T k W)(hJ:∀k A TA B TB,J k A TA→Rl.Mv TA A TB B→J k B TB)(hb:Below W.heap.size W W'):OvS w1 Ws J T0 (fun b=>T b∨(W.heap.size≤b∧b < W'.heap.size)) k W':=by
 refine⟨hJ _ _ _ _ _ h.j (Rl.Mv.of_below_own hb),h.bel.trans (hb.mono h.bel.size),fun b hb'=>?_,fun b hb'=>?_,zH h.sz hb.size⟩
 ·rcases hb' with hb' | hb'
  ·exact jR (h.own b hb') hb.size
  ·exact hb'.2
 ·have:=h.sz;rw[←h.old b hb']
  exact⟨fun h=>h.resolve_right (by omega),.inl⟩
def encN (m:Nat)(_:Nat)(_:World)(_:Nat→Prop)(args:Array Value):Prop:=args= #[.int .i64 (m:Int)]
theorem drop_cons {α:Type}{xs:List α}{k:Nat}{x:α}{r:List α}(h:xs.drop k=x :: r):xs[k]? =some x∧xs.drop (k+1)=r∧k < xs.length:=by
 have h0:(xs.drop k)[0]? =some x:=by rw[h];rfl
 rw[List.getElem?_drop,Nat.add_zero] at h0
 refine⟨h0,?_,(jH.1 h0).1⟩
 rw[←List.drop_drop,h]
 rfl
theorem drop_all {α:Type}{xs:List α}{k:Nat}(h:xs.drop k=[])(hk:k≤xs.length):k=xs.length:=by
 have:=congrArg List.length h;rw[List.length_drop] at this
 simp at this;omega
theorem push_n {W:World}{B:Nat}{u:Value}{A:List Nat}(h:W.ownsRow B 3 1 u A.length (Dg.ivs A))(hB:B≤W.heap.size)(hA:A.length≤1000000){sb i:Nat}(hs:W.cell? ⟨sb,0,none⟩=some (.int .i64 (i:Int))) :
  ∃g cap W3,(Builtin.append_ #[48,48] 48 #[u,.slice (some ⟨sb,0,none⟩) 1 1]).run Tryz.prog W= .ok (.slice (some ⟨g,0,none⟩) (A.length+1) cap) W3∧W3.ownsRow B 3 1 (.slice (some ⟨g,0,none⟩) (A.length+1) cap) (A.length+1) (Dg.ivs (A ++ [i]))∧Below B W W3:=by
 obtain⟨i0,hi0,hz0,hz1,hz2⟩:=info_parts Dg.Tryz.info3
 obtain⟨v',W',r1,r2,r3,r4,r5⟩:=run_append_own_at (P:=Tryz.prog) W B 48 48 3 i0 _ 1 8 Tryz.underlying48 hi0 hz0 hz1 hz2 rfl (by decide) u A.length (Dg.ivs A) h ⟨sb,0,none⟩ 1 1 [.int .i64 (i:Int)] rfl
  (by
   intro j v hj;have h7:(⟨sb,0,none⟩:Addr).add j=⟨sb,j,none⟩:=by unfold Addr.add;split <;> simp_all
   rw[h7]
   cases j with
   | zero=>cases hj;exact hs
   | succ j=>simp at hj)
  (by intro v hv;simp only[zJ,List.not_mem_nil,or_false] at hv;subst hv;rfl) (by unfold maxLen;omega) (by omega) hB
 have r2':W'.ownsRow B 3 1 v' (A.length+1) (Dg.ivs (A ++ [i])):=by
  have:Dg.ivs (A ++ [i])=Dg.ivs A ++ [.int .i64 (i:Int)]:=by simp[Dg.ivs]
  rw[this]
  exact r2
 have hbel:Below B W W':=⟨r3.os,r3.tape,r3.output,r3.size,fun k hk=>r3.block k (by omega) (fun e=>by have:=(World.ownsRow.lt h k e.symm).1;omega)⟩;obtain⟨g,cap,rfl⟩:=Dg.ownsRow_succ' r2'
 exact⟨g,cap,W',r1,r2',hbel⟩
attribute [local go_sem] Oper.semAt_some
theorem over_itr {w1:World}{bo bi i:Nat}(m0:Nat)(h:Ou its l P ob w1)(hbo:Boxed w1 bo 70 (.pointer (some ⟨ob,0,none⟩)))(hbi:Boxed w1 bi 3 (.int .i64 (i:Int)))(hi:i < its.length) :
  Rl.Itr Tryz.prog 153 #[.pointer (some ⟨bo,0,none⟩),.pointer (some ⟨bi,0,none⟩)] encN (oversN its i) w1.heap.size m0 (fun _=>False) w1:=by
 intro li J Jx W hW hJ hJx hY hJ0;obtain⟨q,hq⟩:=h.right
 have hst:=stem_of hq;have hfew:=h.few;have HY:Hid _:=hY;have HJ:Hid _:=hJ;have H0:Hid (OvS w1 W J (fun _=>False) (fun _=>False) 0 W):=⟨hJ0,hW,fun _ h=>h.elim,fun _ _=>Iff.rfl,jG _⟩;have HOU:Hid (∀wx,Below w1.heap.size w1 wx→Ou its l P ob wx):=fun wx hb=>h.later hb
 have HBO:Hid (∀wx,Below w1.heap.size w1 wx→Boxed wx bo 70 (.pointer (some ⟨ob,0,none⟩))):=fun wx hb=>(hb.block bo hbo.lt).trans hbo
 have HBI:Hid (∀wx,Below w1.heap.size w1 wx→Boxed wx bi 3 (.int .i64 (i:Int))):=fun wx hb=>(hb.block bi hbi.lt).trans hbi
 have HAB:Hid (∀wx,Below w1.heap.size w1 wx→Calls Tryz.prog 154 #[.pointer (some ⟨P.vb,0,none⟩),.int .i64 (i:Int)] wx fun e w'=>Below wx.heap.size wx w'∧∃u,e= .returned u∧w'.ownsRow wx.heap.size 3 1 u (aboveL its (i:Int)).length (Dg.ivs (aboveL its (i:Int)))):=fun wx hb=>by
  have hl:=ups_len its its.length i;unfold aboveL;rw[if_pos ⟨by omega,by omega⟩,j8]
  exact AboveO_any P.vb i its P.ov (upsF its its.length i) wx (h.later hb).vw hi (stem_ups hst its.length i hi (by omega)) (by omega)
 have HAL:Hid ((aboveL its (i:Int)).length≤64):=by
  have hl:=ups_len its its.length i;show _≤_;unfold aboveL
  split
  ·rw[j8];omega
  ·simp
 have HOV:Hid (∀wx (j:Nat),Below w1.heap.size w1 wx→Calls Tryz.prog 37 #[.pointer (some ⟨P.vb,0,none⟩),.int .i64 (j:Int)] wx fun e w'=>Below wx.heap.size wx w'∧∃u,e= .returned u∧w'.ownsRow wx.heap.size 3 1 u (overI its (j:Int)).length (Dg.ivs (overI its (j:Int)))):=fun wx j hb=>by
  rw[←h.ovI]
  exact OverO_all P.vb (j:Int) its P.ov wx (h.later hb).vw h.ovS
 have HOL:Hid (∀j:Nat,(overI its (j:Int)).length≤1000000):=fun j=>by
  rw[←h.ovI]
  unfold overL
  split
  ·rw[jT]
   cases hg:P.ov[((j:Nat):Int).toNat]? with
   | none=>simp
   | some x=>exact h.ovS x (jV hg)
  ·simp
 obtain⟨xs,HX⟩:∃xs,Hid (xs=oversN its i):=⟨_,rfl⟩
 rw[←HX.out] at HY ⊢
 obtain⟨U,HU⟩:∃U,Hid (U=upsN its i):=⟨_,rfl⟩
 have HXU:Hid (xs.drop 0=(U.drop 0).flatMap (fun (j:Nat)=>overI its (j:Int))∧0≤xs.length):=⟨by rw[HX.out,HU.out];rfl,zE _⟩;have HUA:Hid (U=aboveL its (i:Int) ++ [i]):=HU.out;obtain⟨R,HR⟩:∃R:Ending→World→Prop,Hid (R=fun e W2=>∃v T2,e= .returned v∧(J xs.length W2 T2∨∃k,k < xs.length∧Jx (k+1) W2 T2)∧(∀b,b < W.heap.size→(T2 b↔False))∧(∀b,T2 b→b < W2.heap.size)):=⟨_,rfl⟩
 rw[←HR.out]
 have HB0:Hid (Below w1.heap.size w1 W):=hW;clear h hbo hbi hJ hJx hY hJ0 hW hq hst;generalize aboveL its (i:Int)=A at *;refine callsIn_of_wp Tryz.func153 rfl trivial ?_ rfl;simp only[Tryz.ntmps153,jN,jM,jP,Nat.reduceAdd,Nat.reduceSub,jI,jJ,jO,zN,jL,jK]
 gi_wp2
 refine wpIn_wide.2 ?_;have hS0:Below w1.heap.size w1 W.drew:=HB0.out.drew;refine region_thenG (β:=Value × Nat × Nat × Nat) (fun z=>[(8,.pointer (some ⟨ob,0,none⟩)),(9,.pointer (some ⟨ob,0,none⟩)),(10,.pointer (some ⟨ob,2,none⟩)),(11,.pointer (some ⟨P.vb,0,none⟩)),(12,.int .i64 (i:Nat)),(13,z.1),(14,.int .i64 (i:Nat)),(15,.slice (some ⟨z.2.1,0,none⟩) 1 1),(16,.slice (some ⟨z.2.2.1,0,none⟩) (A.length+1) z.2.2.2),(17,.int .i64 ((A.length+1:Nat):Int)),(18,.int .i64 0)]) (fun z w'=>Below w1.heap.size w1 w'∧Below W.heap.size W w'∧∃B,W.heap.size≤B∧w'.ownsRow B 3 1 (.slice (some ⟨z.2.2.1,0,none⟩) (A.length+1) z.2.2.2) (A.length+1) (Dg.ivs (A ++ [i]))) ?_ ?_
 ·refine wp_region_held (S:=fun w'=>Below w1.heap.size w1 w') (by kernel_rfl) ?_;simp only[jN,jM,jP,Nat.reduceAdd,jI,jJ,jO,jL,jK];refine tV 0 8 (.pointer (some ⟨ob,0,none⟩)) 10 rfl hS0 ?_ (fun wx h=>by have y0:=(HBO.out wx h).cell;go_simp);refine tG 1 9 (.pointer (some ⟨ob,0,none⟩)) 9 rfl hS0 ?_;refine tG 2 10 (.pointer (some ⟨ob,2,none⟩)) 8 rfl hS0 ?_;refine tV 3 11 (.pointer (some ⟨P.vb,0,none⟩)) 7 rfl hS0 ?_ (fun wx h=>by have y0:=(HOU.out wx h).c2;go_simp);refine tV 4 12 (.int .i64 (i:Nat)) 6 rfl hS0 ?_ (fun wx h=>by have y0:=(HBI.out wx h).cell;go_simp);refine tV 6 14 (.int .i64 (i:Nat)) 5 rfl hS0 ?_ (fun wx h=>by have y0:=(HBI.out wx h).cell;go_simp);refine tK 10 18 (.int .i64 0) 4 rfl hS0 ?_;refine wpAnyH_all (fuel:=3) (rs:=[5,7]) (by kernel_rfl) (by decide) ?_;refine zW.2 ⟨?_,jE.2 ?_⟩
  ·refine wpOp_calls (i:=5) (d:=13) rfl rfl (by kernel_rfl) (f:=154) (args:= #[.pointer (some ⟨P.vb,0,none⟩),.int .i64 (i:Nat)]) (by kernel_rfl) _ (HAB.out _ hS0) ?_ (fun _ _ h=>by obtain⟨_,u,h,_⟩:=h;cases h) (fun _ h=>by obtain⟨_,u,h,_⟩:=h;cases h);rintro vA W2 ⟨hb2,u,hu,ho⟩;cases hu;have HB2:Hid (Below w1.heap.size w1 W2):=hS0.trans (hb2.mono hS0.size);refine⟨HB2.out,?_⟩
   simp only[jA,jB,jC];refine wpAnyH_all (fuel:=2) (rs:=[7]) (by kernel_rfl) (by decide) ?_;refine jE.2 ?_;obtain⟨sb9,hsb9⟩:∃sb9,W2.heap.size=sb9:=⟨_,rfl⟩
   have hbA:=bl1 W2 (.cells #[.int .i64 (i:Nat)] 3);refine wpOp_value (i:=7) (d:=15) (v:= .slice (some ⟨sb9,0,none⟩) 1 1) (w':=W2.alloc (.cells #[.int .i64 (i:Nat)] 3)) rfl rfl (by kernel_rfl) (by rw[←hsb9];go_simp) ?_;refine⟨HB2.out.trans (hbA.mono HB2.out.size),?_⟩
   simp only[jA,jB,jC];obtain⟨g3,cap3,W3,hr3,ho3,hb3⟩:=push_n (W:=W2.alloc (.cells #[.int .i64 (i:Nat)] 3)) (own_below ho hbA) (zH hb2.size hbA.size) (by have:=HAL.out;omega) (sb:=sb9) (i:=i) (by rw[←hsb9];exact (Dg.cell_row (Dg.row_new W2 #[.int .i64 (i:Nat)] 3) 0).trans rfl)
   have HB3:Hid (Below w1.heap.size w1 W3∧Below W.heap.size W W3∧∃B,W.heap.size≤B∧W3.ownsRow B 3 1 (.slice (some ⟨g3,0,none⟩) (A.length+1) cap3) (A.length+1) (Dg.ivs (A ++ [i]))):=by
    have q1:Below W.drew.heap.size W.drew W3:=(hb2.trans (hbA.mono hb2.size)).trans hb3;exact⟨hS0.trans (q1.mono hS0.size),((Below.refl W.heap.size W).drew).trans q1,W.drew.heap.size,jG _,ho3⟩
   refine wpAnyH_all (fuel:=1) (rs:=[8]) (by kernel_rfl) (by decide) ?_;refine jE.2 ?_;refine wpOp_value (i:=8) (d:=16) (v:= .slice (some ⟨g3,0,none⟩) (A.length+1) cap3) (w':=W3) rfl rfl (by kernel_rfl) (by simp[execOp,resolve,invoke,builtin,hr3,Result.andThen,Act.eval]) ?_;refine⟨HB3.out.1,?_⟩
   simp only[jA,jB,jC];refine wpAnyH_all (fuel:=0) (rs:=[9]) (by kernel_rfl) (by decide) ?_;refine jE.2 ?_;refine wpOp_value (i:=9) (d:=17) (v:= .int .i64 ((A.length+1:Nat):Int)) (w':=W3) rfl rfl (by kernel_rfl) (by go_simp) ?_;refine⟨HB3.out.1,?_⟩
   simp only[jA,jB,jC];refine wpAnyH_done (by kernel_rfl) ?_ _;exact⟨rfl,⟨vA,sb9,g3,cap3⟩,by kernel_rfl,HB3.out⟩
  ·have hbA:=bl1 W.drew (.cells #[.int .i64 (i:Nat)] 3);obtain⟨sb9,hsb9⟩:∃sb9,W.drew.heap.size=sb9:=⟨_,rfl⟩
   refine wpOp_value (i:=7) (d:=15) (v:= .slice (some ⟨sb9,0,none⟩) 1 1) (w':=W.drew.alloc (.cells #[.int .i64 (i:Nat)] 3)) rfl rfl (by kernel_rfl) (by rw[←hsb9];go_simp) ?_;have HB1:Hid (Below w1.heap.size w1 (W.drew.alloc (.cells #[.int .i64 (i:Nat)] 3))):=hS0.trans (hbA.mono hS0.size);refine⟨HB1.out,?_⟩
   simp only[jA,jB,jC];refine wpAnyH_all (fuel:=2) (rs:=[5]) (by kernel_rfl) (by decide) ?_;refine jE.2 ?_;refine wpOp_calls (i:=5) (d:=13) rfl rfl (by kernel_rfl) (f:=154) (args:= #[.pointer (some ⟨P.vb,0,none⟩),.int .i64 (i:Nat)]) (by kernel_rfl) _ (HAB.out _ HB1.out) ?_ (fun _ _ h=>by obtain⟨_,u,h,_⟩:=h;cases h) (fun _ h=>by obtain⟨_,u,h,_⟩:=h;cases h);rintro vA W2 ⟨hb2,u,hu,ho⟩;cases hu;have HB2:Hid (Below w1.heap.size w1 W2):=HB1.out.trans (hb2.mono HB1.out.size);refine⟨HB2.out,?_⟩
   simp only[jA,jB,jC];have hce:W2.cell? ⟨sb9,0,none⟩=some (.int .i64 (i:Nat)):=Dg.cell_later hb2 (by rw[←hsb9];exact (Dg.cell_row (Dg.row_new W.drew #[.int .i64 (i:Nat)] 3) 0).trans rfl);obtain⟨g3,cap3,W3,hr3,ho3,hb3⟩:=push_n (W:=W2) ho hb2.size (by have:=HAL.out;omega) (sb:=sb9) (i:=i) hce
   have HB3:Hid (Below w1.heap.size w1 W3∧Below W.heap.size W W3∧∃B,W.heap.size≤B∧W3.ownsRow B 3 1 (.slice (some ⟨g3,0,none⟩) (A.length+1) cap3) (A.length+1) (Dg.ivs (A ++ [i]))):=by
    have q1:Below W.drew.heap.size W.drew W3:=(hbA.trans (hb2.mono hbA.size)).trans (hb3.mono hbA.size);exact⟨hS0.trans (q1.mono hS0.size),((Below.refl W.heap.size W).drew).trans q1,_,hbA.size,ho3⟩
   refine wpAnyH_all (fuel:=1) (rs:=[8]) (by kernel_rfl) (by decide) ?_;refine jE.2 ?_;refine wpOp_value (i:=8) (d:=16) (v:= .slice (some ⟨g3,0,none⟩) (A.length+1) cap3) (w':=W3) rfl rfl (by kernel_rfl) (by simp[execOp,resolve,invoke,builtin,hr3,Result.andThen,Act.eval]) ?_;refine⟨HB3.out.1,?_⟩
   simp only[jA,jB,jC];refine wpAnyH_all (fuel:=0) (rs:=[9]) (by kernel_rfl) (by decide) ?_;refine jE.2 ?_;refine wpOp_value (i:=9) (d:=17) (v:= .int .i64 ((A.length+1:Nat):Int)) (w':=W3) rfl rfl (by kernel_rfl) (by go_simp) ?_;refine⟨HB3.out.1,?_⟩
   simp only[jA,jB,jC];refine wpAnyH_done (by kernel_rfl) ?_ _;exact⟨rfl,⟨vA,sb9,g3,cap3⟩,by kernel_rfl,HB3.out⟩
 ·rintro⟨u9,sb9,g,cap⟩ Wa hF
  simp only[setAll,jA,jB,jC];obtain⟨hf1,hf2,B,hf3,hf4⟩:=hF
  have HUL:Hid (U.length=A.length+1):=by show _=_;rw[HUA.out];simp
  have HO1:Hid _:=OvS.more H0.out HJ.out hf2;have HR1:Hid (RowT (fun b=>False∨(W.heap.size≤b∧b < Wa.heap.size)) (.slice (some ⟨g,0,none⟩) (A.length+1) cap) U Wa):=by
   have h9:=hf4;rw[←HUA.out,←HUL.out] at h9
   rw[←HUL.out]
   exact RowT.of_own h9 (fun b h1 h2=> .inr ⟨by omega,h2⟩)
  obtain⟨nU,HNU⟩:∃nU,Hid (A.length+1=nU):=⟨_,rfl⟩
  have hnU:nU≤1000:=by have:=HNU.out;have:=HAL.out;omega
  rw[HNU.out] at HR1 HUL ⊢
  clear hf1 hf2 hf3 hf4 H0 hS0;generalize (fun b=>False∨(W.heap.size≤b∧b < Wa.heap.size))=Ta at HO1 HR1
  gi_wp2
  gi_loopw [18] (fun iv wr=>∃(a k:Nat) (T:Nat→Prop),iv= .int .i64 a∧a≤nU∧Hid (OvS w1 W J (fun _=>False) T k wr)∧Hid (RowT T (.slice (some ⟨g,0,none⟩) nU cap) U wr)∧Hid (xs.drop k=(U.drop a).flatMap (fun (j:Nat)=>overI its (j:Int))∧k≤xs.length)) (fun iv _=>nU - (intOf iv).toNat)
  case atStart=>exact⟨0,0,Ta,rfl,zE _,HO1,HR1,HXU⟩
  case round=>
   obtain⟨a,k,T,rfl,ha,HF,HRU,HD⟩:=hrel
   rename World=>wr
   clear HO1 HR1 HXU
   by_cases hlt:a < nU
   ·obtain⟨j,hj⟩:∃j,U[a]? =some j:=⟨_,jF (by rw[HUL.out];exact hlt)⟩
    have hcell:wr.cell? ⟨g,a,none⟩=some (.int .i64 (j:Nat)):=by
     obtain⟨a9,c9,e9,_,hr⟩:=HRU.out
     obtain⟨g9,e8,_,_,hc⟩:=hr a j hj
     injection e9 with e7
     rw[←e7] at e8
     cases e8;exact hc
    have HDJ:Hid (xs.drop k=overI its (j:Int) ++ (U.drop (a+1)).flatMap (fun (j:Nat)=>overI its (j:Int))∧k≤xs.length):=by
     refine⟨?_,HD.out.2⟩
     rw[HD.out.1]
     obtain⟨hl,rfl⟩:=jH.1 hj
     rw[zU hl,List.flatMap_cons]
    obtain⟨rest,HREST⟩:∃rest,Hid (rest=(U.drop (a+1)).flatMap (fun (j:Nat)=>overI its (j:Int))):=⟨_,rfl⟩
    rw[←HREST.out] at HDJ
    have y0:=(HBO.out wr HF.out.bel).cell;have y2:=(HOU.out wr HF.out.bel).c2;have HC:Hid _:=HOV.out wr j HF.out.bel;have HOJ:Hid _:=HOL.out j;have hai:(a:Int) < (nU:Int):=by omega
    clear hj HD;generalize overI its (j:Int)=O at *
    gi_wp2
    refine⟨trivial,rfl,(callsIn_wide.2 HC.out).mono ?_⟩
    rintro e w3 ⟨hb3,u,rfl,ho⟩;clear y0 y2 HC hcell;have HF3:Hid _:=OvS.more HF.out HJ.out hb3;have HRU3:Hid (RowT (fun b=>T b∨(wr.heap.size≤b∧b < w3.heap.size)) (.slice (some ⟨g,0,none⟩) nU cap) U w3):=HRU.out.keep (fun b hb hl=>⟨.inl hb,hb3.block b hl⟩) hb3.size;have HRO3:Hid (RowT (fun b=>T b∨(wr.heap.size≤b∧b < w3.heap.size)) u O w3):=RowT.of_own ho (fun b h1 h2=> .inr ⟨h1,h2⟩);obtain⟨ua,uc,rfl,_⟩:=HRO3.out
    obtain⟨m,HM⟩:∃m,Hid (O.length=m):=⟨_,rfl⟩
    have hmb:m≤1000000:=by rw[←HM.out];exact HOJ.out
    rw[HM.out] at HRO3 ⊢
    clear ho hb3 HF HRU;generalize (fun b=>T b∨(wr.heap.size≤b∧b < w3.heap.size))=T2 at HF3 HRU3 HRO3;have HDZ:Hid (xs.drop k=O.drop 0 ++rest∧k≤xs.length):=HDJ.out;clear HDJ
    gi_wp2
    gi_loopw [29] (fun iv wq=>∃(b k2:Nat),iv= .int .i64 b∧b≤m∧Hid (OvS w1 W J (fun _=>False) T2 k2 wq)∧Hid (RowT T2 (.slice (some ⟨g,0,none⟩) nU cap) U wq)∧Hid (RowT T2 (.slice ua m uc) O wq)∧Hid (xs.drop k2=O.drop b ++rest∧k2≤xs.length)) (fun iv _=>m - (intOf iv).toNat)
    case atStart=>exact⟨0,k,rfl,zE _,HF3,HRU3,HRO3,HDZ⟩
    case round=>
     obtain⟨b,k2,rfl,hb,HF4,HRU4,HRO4,HD4⟩:=hrel
     rename World=>wq
     clear HF3 HRU3 HRO3 HDZ
     by_cases hbm:b < m
     ·obtain⟨x,hx⟩:∃x,O[b]? =some x:=⟨_,jF (by rw[HM.out];exact hbm)⟩
      have hcell:∃g9,ua=some ⟨g9,0,none⟩∧wq.cell? ⟨g9,b,none⟩=some (.int .i64 (x:Nat)):=by
       obtain⟨a9,c9,e9,_,hr⟩:=HRO4.out
       obtain⟨g9,e8,_,_,hc⟩:=hr b x hx
       injection e9 with e7
       exact⟨g9,e7.trans e8,hc⟩
      obtain⟨g9,rfl,z0⟩:=hcell
      have hdc:xs.drop k2=x :: (O.drop (b+1) ++rest):=by
       rw[HD4.out.1]
       obtain⟨hl,rfl⟩:=jH.1 hx
       rw[zU hl,jK]
      obtain⟨h1,h2,h3⟩:=drop_cons hdc
      have HD5:Hid (xs.drop (k2+1)=O.drop (b+1) ++rest∧k2+1≤xs.length):=⟨h2,h3⟩;have HK2:Hid (k2 < xs.length):=h3;obtain⟨fnn,tms,asg,bdy,hy,hR⟩:=HY.out k2 x #[.int .i64 (x:Int)] wq.heap.size wq T2 h1 rfl ⟨wq,T2,HF4.out.j,rfl,Rl.Mv.refl _ _⟩ HF4.out.j HF4.out.own 0
      have hbi:(b:Int) < (m:Int):=by omega
      clear hx hdc h1 h2 h3 HD4
      gi_wp2
      refine⟨rfl,hR.mono ?_⟩
      rintro e W5 ⟨t,rfl,ht1,ht2⟩;cases t with
      | true=>
       obtain⟨hj5,hrv⟩:=ht1 rfl
       have HF5:Hid _:=HF4.out.round hj5 hrv;have HRU5:Hid (RowT T2 (.slice (some ⟨g,0,none⟩) nU cap) U W5):=HRU4.out.keep (fun b hb hl=>⟨hb,hrv.keep b hb hl⟩) hrv.size;have HRO5:Hid (RowT T2 (.slice (some ⟨g9,0,none⟩) m uc) O W5):=HRO4.out.keep (fun b hb hl=>⟨hb,hrv.keep b hb hl⟩) hrv.size;clear ht1 ht2 hrv hj5 hy hR HF4 HRU4 HRO4 z0
       gi_wp2
       go_roundw
       case rel=>exact⟨b+1,k2+1,by go_num,by omega,HF5,HRU5,HRO5,HD5⟩
       case measure=>simp[intOf] <;> omega
      | false=>
       obtain⟨hj5,hrv⟩:=ht2 rfl
       have HJ5:Hid _:=hj5;have HF5:Hid (∀b,T2 b→b < W5.heap.size):=fun b hb=>jR (HF4.out.own b hb) hrv.size
       have HOLD:Hid _:=HF4.out.old;clear ht1 ht2 hrv hj5 hy hR HF4 HRU4 HRO4 z0
       gi_wp2
       refine bodyPost_ret (results_none rfl _ _) rfl ?_;rw[HR.out]
       exact⟨_,T2,rfl,.inr ⟨k2,HK2.out,HJ5.out⟩,HOLD.out,HF5.out⟩
     ·obtain rfl:b=m:=by omega
      have HD5:Hid (xs.drop k2=(U.drop (a+1)).flatMap (fun (j:Nat)=>overI its (j:Int))∧k2≤xs.length):=by
       refine⟨?_,HD4.out.2⟩
       rw[HD4.out.1,←HREST.out,List.drop_eq_nil_of_le (by rw[HM.out];exact jG _)]
       rfl
      clear HD4
      gi_wp2
      go_roundw
      case rel=>exact⟨a+1,k2,T2,by go_num,by omega,HF4,HRU4,HD5⟩
      case measure=>simp[intOf] <;> omega
   ·have HKX:Hid (k=xs.length):=by
     refine drop_all ?_ HD.out.2;rw[HD.out.1,List.drop_eq_nil_of_le (by rw[HUL.out];omega)]
     rfl
    gi_wp2
    refine bodyPost_ret (results_none rfl _ _) rfl ?_;rw[HR.out]
    refine⟨_,T,rfl,.inl ?_,HF.out.old,HF.out.own⟩
    have:=HF.out.j;rw[HKX.out] at this
    exact this
end Go.Proofs.YtieoppabellafaaGreatDoor.Ts
namespace Go.Proofs.YtieoppabellafaaGreatDoor.Ts
open Go.RowKit Go.Shelf Fc St Sx Sa Rl
variable {its:List It}{l:List Fa}{P:OuP}{ob:Nat}{w:World}
theorem over_maker (v:Value)(i:Int)(a:Option Addr)(hv:v= .pointer a)(w:World):Calls Tryz.prog 122 #[v,.int .i64 i] w fun e w'=>e= .returned (.func (.func 153) #[] #[.pointer (some ⟨w.heap.size,0,none⟩),.pointer (some ⟨w.heap.size+1,0,none⟩)])∧w'=(w.alloc (.cells #[v] 70)).alloc (.cells #[.int .i64 i] 3):=by
 subst hv
 go_enter Tryz.func122,Tryz.ntmps122
 go_wp2_with fail
 go_ret
 exact⟨rfl,rfl⟩
theorem results_bool {fn:Func}{p:Tmp}(h:fn.results= #[.cell p 4])(tmps:Array Value)(w:World)(g:Nat)(q:Bool)(fr:Nat × Nat)
  (hp:tmps.getD p undef= .pointer (some ⟨g,0,none⟩)) (hg:w.heap[g]? =some (.cells #[.bool q] 4 fr)):(results fn tmps).run Tryz.prog w= .ok (.bool q) w:=by
 have hp':tmps[p]?.getD undef= .pointer (some ⟨g,0,none⟩):=by simpa using hp
 have hc:w.cell? ⟨g,0,none⟩=some (.bool q):=(cell_of_row w g 0 #[.bool q] 4 fr hg).trans rfl;simp[results,h,hp',asAddr]
 go_simp
structure BaI (w4:World)(its:List It)(l:List Fa)(xs:List Nat)(k:Nat)(V:World)(TB:Nat→Prop):Prop where
 bel:Below w4.heap.size w4 V
 own:∀b,TB b→w4.heap.size≤b
 all:∀j m,j < k→xs[j]? =some m→cleS its l (m:Int)=true
theorem BaI.mv {w4:World}{xs:List Nat}{k:Nat}{V V':World}{TB TB':Nat→Prop}(h:BaI w4 its l xs k V TB)(hm:Rl.Mv TB V TB' V'):BaI w4 its l xs k V' TB':=by
 refine⟨hm.below h.bel (fun b hb ht=>by have:=h.own b ht;omega) h.bel.size,fun b hb=>?_,h.all⟩
 by_cases hlt:b < V.heap.size
 ·exact h.own b ((hm.old b hlt).1 hb)
 ·have:=h.bel.size;omega
structure BaX (w w4:World)(rc:Nat)(its:List It)(l:List Fa)(xs:List Nat)(c:Code)(V:World)(TB:Nat→Prop):Prop where
 ret:c= .ret
 ex:∃m∈xs,cleS its l (m:Int)=false
 cell:V.heap[rc]? =some (.cells #[.bool false] 4 (0,0))
 bel:Below w.heap.size w V
 own:∀b,TB b→w4.heap.size≤b
 sz:w4.heap.size≤V.heap.size
 lt:rc < w4.heap.size
 le:w.heap.size≤w4.heap.size
theorem BaX.mv {w w4:World}{rc:Nat}{xs:List Nat}{c:Code}{V V':World}{TB TB':Nat→Prop}(h:BaX w w4 rc its l xs c V TB)(hm:Rl.Mv TB V TB' V'):BaX w w4 rc its l xs c V' TB':=by
 have hlt:=h.lt;have hsz:=h.sz;refine⟨h.ret,h.ex,(hm.same rc (by omega) (fun ht=>by have:=h.own rc ht;omega)).trans h.cell,hm.below h.bel (fun b hb ht=>by have:=h.own b ht;have:=h.le;omega) (by have:=h.le;omega),fun b hb=>?_,zH hsz hm.size,hlt,h.le⟩
 by_cases hb2:b < V.heap.size
 ·exact h.own b ((hm.old b hb2).1 hb)
 ·omega
attribute [local go_sem] Oper.semAt_some
theorem bare_any {i:Nat}(h1:1≤i)(hi:i < its.length)(h:Ou its l P ob w) :
  Calls Tryz.prog 85 #[.pointer (some ⟨ob,0,none⟩),.int .i64 (i:Int)] w fun e w'=>e= .returned (.bool (baB its l i))∧Below w.heap.size w w':=by
 have HBI:Hid _:=bare_iff h.chk h1 hi;obtain⟨Q,HQ⟩:∃Q,Hid (Q=baB its l i):=⟨_,rfl⟩
 rw[←HQ.out] at HBI ⊢
 obtain⟨s,hs⟩:∃s,w.heap.size=s:=⟨_,rfl⟩
 have q0:=((((Boxed.new w 70 (.pointer (some ⟨ob,0,none⟩))).alloc (.cells #[.bool false] 4)).alloc (.cells #[.pointer (some ⟨ob,0,none⟩)] 70)).alloc (.cells #[.int .i64 (i:Int)] 3));have q2:=((Boxed.new ((w.alloc (.cells #[.pointer (some ⟨ob,0,none⟩)] 70)).alloc (.cells #[.bool false] 4)) 70 (.pointer (some ⟨ob,0,none⟩))).alloc (.cells #[.int .i64 (i:Int)] 3));have q3:=Boxed.new (((w.alloc (.cells #[.pointer (some ⟨ob,0,none⟩)] 70)).alloc (.cells #[.bool false] 4)).alloc (.cells #[.pointer (some ⟨ob,0,none⟩)] 70)) 3 (.int .i64 (i:Int));have q1:=Dg.row_alloc (Dg.row_alloc (Dg.row_new (w.alloc (.cells #[.pointer (some ⟨ob,0,none⟩)] 70)) #[.bool false] 4) (.cells #[.pointer (some ⟨ob,0,none⟩)] 70)) (.cells #[.int .i64 (i:Int)] 3);have hb4:Below w.heap.size w ((((w.alloc (.cells #[.pointer (some ⟨ob,0,none⟩)] 70)).alloc (.cells #[.bool false] 4)).alloc (.cells #[.pointer (some ⟨ob,0,none⟩)] 70)).alloc (.cells #[.int .i64 (i:Int)] 3)):=((((Below.refl _ w).alloc (jG _) _).alloc (by simp) _).alloc (by simp;omega) _).alloc (by simp;omega) _;have hsz4:((((w.alloc (.cells #[.pointer (some ⟨ob,0,none⟩)] 70)).alloc (.cells #[.bool false] 4)).alloc (.cells #[.pointer (some ⟨ob,0,none⟩)] 70)).alloc (.cells #[.int .i64 (i:Int)] 3)).heap.size=s+4:=by simp[hs]
 simp only[jU,hs] at q0 q1 q2 q3;have HMK:Hid _:=over_maker (.pointer (some ⟨ob,0,none⟩)) (i:Int) (some ⟨ob,0,none⟩) rfl ((w.alloc (.cells #[.pointer (some ⟨ob,0,none⟩)] 70)).alloc (.cells #[.bool false] 4));simp only[jU,hs] at HMK;have c0:=((Boxed.new w 70 (.pointer (some ⟨ob,0,none⟩))).alloc (.cells #[.bool false] 4)).cell;rw[hs] at c0
 obtain⟨w4,hw4⟩:∃w4,(((w.alloc (.cells #[.pointer (some ⟨ob,0,none⟩)] 70)).alloc (.cells #[.bool false] 4)).alloc (.cells #[.pointer (some ⟨ob,0,none⟩)] 70)).alloc (.cells #[.int .i64 (i:Int)] 3)=w4:=⟨_,rfl⟩
 rw[hw4] at q0 q1 q2 q3 hb4 hsz4 HMK
 have HO4:Hid (Ou its l P ob w4):=h.later hb4;have HITR:Hid _:=over_itr 0 HO4.out q2 q3 hi;have HQ0:Hid _:=q0;have HQ1:Hid _:=q1;have HB4:Hid _:=hb4;have HSZ:Hid _:=hsz4;obtain⟨xs,HX⟩:∃xs,Hid (xs=oversN its i):=⟨_,rfl⟩
 rw[←HX.out] at HITR HBI
 obtain⟨R,HR⟩:∃R:Ending→World→Prop,Hid (R=fun e w'=>e= .returned (.bool Q)∧Below w.heap.size w w'):=⟨_,rfl⟩
 rw[←HR.out]
 have HS:Hid (w.heap.size=s):=hs;clear q0 q1 q2 q3 hb4 h HQ hw4 hsz4
 suffices key:CallsIn Fence.wide 0 Tryz.prog 85 #[.pointer (some ⟨ob,0,none⟩),.int .i64 (i:Int)] w R from callsIn_wide.1 key
 refine callsIn_of_wp_marks Tryz.func85 rfl trivial ?_ rfl;simp only[Tryz.ntmps85,jN,jM,jP,Nat.reduceAdd,Nat.reduceSub,jI,jJ,jO,zN,jL,jK]
 gi_wp2
 refine⟨trivial,rfl,(callsIn_wide.2 HMK.out).mono ?_⟩
 rintro e w' ⟨rfl,hw'⟩;obtain rfl:=hw'.symm;clear c0 HMK
 gi_wp2
 refine Rl.range_law (P:=Tryz.prog) (gf:=153) (lb:= #[.pointer (some ⟨s+1+1,0,none⟩),.pointer (some ⟨s+1+1+1,0,none⟩)]) rfl (enters_of Tryz.func153 (by kernel_rfl) rfl) (enc:=encN) (xs:=xs) (n0:=w4.heap.size) (T:=fun _=>False)
  HITR.out (fun b hb=>hb.elim) (jG _) (zE _) (fun x F W T args h=>by rw[show args=_ from h];rfl)
  (fun k V TB=>Hid (BaI w4 its l xs k V TB)) (fun c k V TB=>Hid (BaX w w4 (s+1) its l xs c V TB))
  (fun k V TV V' TV' h hm=>BaI.mv h.out hm) (fun c k V TV V' TV' h hm=>BaX.mv h.out hm)
  ⟨Below.refl _ _,fun b hb=>hb.elim,fun j m hj _=>by omega⟩ ?rnd ?done ?stop
 case rnd=>
  rintro m l' k x args F V T1 TB hxk henc ⟨Wf,Tf,HIf,hF,hmF⟩ HI hTB hup hnc hlt;cases henc;have HXK:Hid _:=hxk;clear HIf hF hmF hxk hTB hnc hup hlt
  gi_wp2
  refine⟨HI,Rl.Rv.refl _ _ _,fun W2 HI2 hbz=>?_⟩
  clear HI hbz;have HO2:Hid (Ou its l P ob W2):=HO4.out.later HI2.out.bel;have HQ2:Boxed W2 s 70 (.pointer (some ⟨ob,0,none⟩)):=(HI2.out.bel.block s (Boxed.lt HQ0.out)).trans HQ0.out;have y0:=HQ2.cell;clear HQ2;have y3:=HO2.out.c3;have HCL:Hid _:=HO2.out.cle_any (x:Int);have HCE:Hid (∀q,cleS its l (x:Int)=q→(q=true→∀j m,j < k+1→xs[j]? =some m→cleS its l (m:Int)=true)∧(q=false→∃m∈xs,cleS its l (m:Int)=false)):=fun q hq=>by
   refine⟨fun hqt j m hj hm=>?_,fun hqf=>⟨x,jV HXK.out,by rw[hq,hqf]⟩⟩
   by_cases hjk:j=k
   ·subst hjk;rw[HXK.out] at hm
    cases hm;rw[hq,hqt]
   ·exact HI2.out.all j m (by omega) hm
  generalize cleS its l (x:Int)=q at *
  gi_wp2
  refine⟨trivial,(fun h=>by cases h),(CallsIn.inRound l' (callsIn_wide.2 HCL.out)).mono ?_⟩
  rintro e W3 ⟨rfl,hb3⟩;have HB3:Hid (Below w4.heap.size w4 W3):=HI2.out.bel.trans (hb3.mono HI2.out.bel.size);have HR3:Hid (Rl.Rv w4.heap.size TB W2 W3):=Rl.Rv.of_below hb3 HI2.out.bel.size;have HOW:Hid (∀b,TB b→w4.heap.size≤b):=HI2.out.own;have hce:=HCE.out q rfl;have HCE2:Hid _:=hce;clear hb3 y0 y3 HCL HI2 HO2 HCE hce;cases q with
  | true=>
   gi_wp2
   exact⟨⟨HB3.out,HOW.out,HCE2.out.1 (by simp)⟩,HR3.out⟩
  | false=>
   have hrow:W3.heap[s+1]? =some (.cells #[.bool false] 4 (0,0)):=(HB3.out.block _ (by have:=HSZ.out;omega)).trans HQ1.out;have z0:=(Dg.cell_row hrow 0).trans rfl;have f0:=Dg.froz_row hrow 0;have HX3:Hid (BaX w w4 (s+1) its l xs .ret (W3.setCell ⟨s+1,0,none⟩ (.bool false)) TB):=by
    have hz:=HSZ.out;have hw:=HS.out;refine⟨rfl,HCE2.out.2 (by simp),Dg.row_set hrow 0 _,(HB4.out.trans (HB3.out.mono HB4.out.size)).setCell (p:=⟨s+1,0,none⟩) (by show _≤s+1;omega) _,HOW.out,by simpa using HB3.out.size,by omega,HB4.out.size⟩
   have HR4:Hid (Rl.Rv 0 TB W2 (W3.setCell ⟨s+1,0,none⟩ (.bool false))):=HR3.out.low0.trans (Rl.Rv.setCell W3 _ (zE _) (fun h=>by have:=HOW.out _ h;have:=HSZ.out;omega));clear hrow
   gi_wp2
   exact⟨HX3,HR4.out⟩
 case done=>
  rintro V T2 h hold hup hdef hts;have hz:=HSZ.out;have hw:=HS.out;have hrow:V.heap[s+1]? =some (.cells #[.bool false] 4 (0,0)):=(h.out.bel.block _ (by omega)).trans HQ1.out;have z0:=(Dg.cell_row hrow 0).trans rfl;have f0:=Dg.froz_row hrow 0;obtain rfl:Q=true:=HBI.out.2 fun m hm=>by
   obtain⟨j,hj⟩:=List.getElem?_of_mem hm
   exact h.out.all j m (jH.1 hj).1 hj
  have HV:Hid ((V.setCell ⟨s+1,0,none⟩ (.bool true)).heap[s+1]? =some (.cells #[.bool true] 4 (0,0))∧Below w.heap.size w (V.setCell ⟨s+1,0,none⟩ (.bool true))∧(V.setCell ⟨s+1,0,none⟩ (.bool true)).heap[w4.heap.size]? =some (.deferred (some []))):=
   ⟨Dg.row_set hrow 0 _,(HB4.out.trans (h.out.bel.mono HB4.out.size)).setCell (p:=⟨s+1,0,none⟩) (by show _≤s+1;omega) _,(jW V ⟨s+1,0,none⟩ _ _ (by show w4.heap.size≠s+1;omega)).trans hdef⟩
  clear hrow h hold hup hdef hts hz hw
  gi_wp2
  show LeavesInM Fence.wide 0 Tryz.prog Tryz.f85 _ R ([w4.heap.size].map Rl.mark) .returning _;refine Rl.leaves_marks (T:=fun b=>b=w4.heap.size) (by simp) (fun A=>A.heap[s+1]? =some (.cells #[.bool true] 4 (0,0))∧Below w.heap.size w A) ?_ ?_ _ _ ⟨by simp,fun D hD=>by simp at hD;subst hD;exact⟨rfl,HV.out.2.2⟩⟩ ⟨HV.out.1,HV.out.2.1⟩
  ·rintro A D hD ⟨k1,k2⟩;have hz:=HSZ.out;have hw:=HS.out;exact⟨(jQ (by omega)).trans k1,⟨k2.os,k2.tape,k2.output,by simpa [World.putObj] using k2.size,fun b hb=>(jQ (by omega)).trans (k2.block b hb)⟩⟩
  ·rintro A ⟨k1,k2⟩;refine⟨_,results_bool (p:=4) rfl _ _ (s+1) true (0,0) rfl k1,?_⟩
   rw[HR.out]
   exact⟨rfl,k2⟩
 case stop=>
  rintro c k V T2 hk h hold hup hdef hts;obtain⟨rfl,⟨m,hm,hmf⟩,h3,h4,_⟩:=h.out
  obtain rfl:Q=false:=by
   cases hQ:Q with
   | false=>rfl
   | true=>have:=HBI.out.1 hQ m hm;rw[hmf] at this;cases this
  have HV:Hid (V.heap[s+1]? =some (.cells #[.bool false] 4 (0,0))∧Below w.heap.size w V∧V.heap[w4.heap.size]? =some (.deferred (some []))):=⟨h3,h4,hdef⟩;clear h h3 h4 hold hup hdef hts hm hmf
  gi_wp2
  show LeavesInM Fence.wide 0 Tryz.prog Tryz.f85 _ R ([w4.heap.size].map Rl.mark) .returning _;refine Rl.leaves_marks (T:=fun b=>b=w4.heap.size) (by simp) (fun A=>A.heap[s+1]? =some (.cells #[.bool false] 4 (0,0))∧Below w.heap.size w A) ?_ ?_ _ _ ⟨by simp,fun D hD=>by simp at hD;subst hD;exact⟨rfl,HV.out.2.2⟩⟩ ⟨HV.out.1,HV.out.2.1⟩
  ·rintro A D hD ⟨k1,k2⟩;have hz:=HSZ.out;have hw:=HS.out;exact⟨(jQ (by omega)).trans k1,⟨k2.os,k2.tape,k2.output,by simpa [World.putObj] using k2.size,fun b hb=>(jQ (by omega)).trans (k2.block b hb)⟩⟩
  ·rintro A ⟨k1,k2⟩;refine⟨_,results_bool (p:=4) rfl _ _ (s+1) false (0,0) rfl k1,?_⟩
   rw[HR.out]
   exact⟨rfl,k2⟩
theorem mb_parts (hc:chkF its l=0){i:Nat}(hi:i < its.length):mbB its l i=true↔(plOf its).sub i=false∧(fOf l i).run=0∧rcB its l i=true:=by
 have h0:(plOf its).sub 0=true:=(lg_of hc).ok.root;rw[mbB_iff,rcB_iff]
 unfold MB
 constructor
 ·rintro⟨⟨_,_,a⟩,b,c⟩
  exact⟨a,b,c⟩
 ·rintro⟨a,b,c⟩
  refine⟨⟨?_,hi,a⟩,b,c⟩
  apply Classical.byContradiction
  intro h;obtain rfl:i=0:=by omega
  rw[h0] at a
  cases a
theorem mayBegin_any {i:Nat}(hi:i < its.length)(h:Ou its l P ob w) :
  Calls Tryz.prog 55 #[.pointer (some ⟨ob,0,none⟩),.int .i64 (i:Int)] w fun e w'=>e= .returned (.bool (mbB its l i))∧Below w.heap.size w w':=by
 have HP:Hid _:=mb_parts h.chk hi;obtain⟨q,hq⟩:=h.right
 obtain⟨x,av,am,ac,hx,_,_,k2,_⟩:=h.item hi
 obtain⟨e1,_,_⟩:=it_pl hq hx
 obtain⟨f0,_⟩:=h.fact hi
 have c0:=h.c0;have c1:=h.c1;have hn:=h.few;have h0:(plOf its).sub 0=true:=(lg_of h.chk).ok.root;have HRC:Hid (1≤i→Calls Tryz.prog 83 #[.pointer (some ⟨ob,0,none⟩),.int .i64 (i:Int)] w fun e w'=>e= .returned (.bool (rcB its l i))∧Below w.heap.size w w'):=fun h1=>reach_any h1 hi h
 have HI1:Hid ((plOf its).sub i=false→1≤i):=fun hs=>by
  apply Classical.byContradiction
  intro h;obtain rfl:i=0:=by omega
  rw[h0] at hs
  cases hs
 have hii:(i:Int) < (its.length:Int):=by omega
 rw[e1] at HP HI1
 obtain⟨Q,HQ⟩:∃Q,Hid (Q=mbB its l i):=⟨_,rfl⟩
 rw[←HQ.out] at HP ⊢
 clear h hq hx e1 h0 HQ hi;generalize x.sub=su at *;generalize (fOf l i).run=r at *;generalize rcB its l i=rc at *;generalize its.length=n at *;cases su with
 | true=>
  obtain rfl:Q=false:=by
   cases hQ:Q with
   | false=>rfl
   | true=>exact absurd (HP.out.1 hQ).1 (by decide)
  clear HP HRC HI1
  go_enter Tryz.func55,Tryz.ntmps55
  go_wp2_with fail
  go_ret
  exact⟨rfl,Below.refl _ _⟩
 | false=>
  by_cases hr:r=0
  ·subst hr;obtain rfl:Q=rc:=Bool.eq_iff_iff.2 (by rw[HP.out];exact⟨fun h=>h.2.2,fun h=>⟨rfl,rfl,h⟩⟩);have HR2:Hid _:=HRC.out (HI1.out rfl);clear HP HRC HI1
   go_enter Tryz.func55,Tryz.ntmps55
   go_wp2_with fail
   refine Calls.mono HR2.out ?_;rintro e w2 ⟨rfl,hb2⟩;have HB:Hid _:=hb2;clear hb2 HR2 c0 c1 k2 f0
   go_wp2_with fail
   go_ret
   exact⟨rfl,HB.out⟩
  ·obtain rfl:Q=false:=by
    cases hQ:Q with
    | false=>rfl
    | true=>exact absurd (HP.out.1 hQ).2.1 hr
   have hr1:decide (r=0)=false:=decide_eq_false hr;have hr2:(r==0)=false:=by simpa using hr
   clear HP HRC HI1
   go_enter Tryz.func55,Tryz.ntmps55
   go_wp2_with fail
   go_ret
   exact⟨rfl,Below.refl _ _⟩
theorem mu_parts (hc:chkF its l=0){i:Nat}(hi:i < its.length):muB its l i=true↔(1≤i∧(fOf l i).run=2∧(fOf l i).un=false∧(fOf l i).tries=(fOf l i).slips)∧falS its l ((plOf its).inn i:Nat) ((plOf its).alt i:Nat)=true∧baB its l i=true:=by
 have h0:(plOf its).sub 0=true:=(lg_of hc).ok.root;have hrt:=rt_of hc;rw[muB_iff,baB_iff]
 unfold MU
 constructor
 ·rintro⟨⟨a1,a2,a3⟩,⟨b1,b2,b3⟩,c,d⟩
  obtain⟨i1,i2,i3,i4⟩:=inn_facts hc a1 hi
  exact⟨⟨a1,b1,b2,b3⟩,(ff_S hc (show (plOf its).inn i < its.length by omega) i3 i4).1 c,d⟩
 ·rintro⟨⟨a1,b1,b2,b3⟩,c,d⟩
  obtain⟨i1,i2,i3,i4⟩:=inn_facts hc a1 hi
  refine⟨⟨a1,hi,?_⟩,⟨b1,b2,b3⟩,(ff_S hc (show (plOf its).inn i < its.length by omega) i3 i4).2 c,d⟩
  cases hs:(plOf its).sub i with
  | false=>rfl
  | true=>have h9:=hrt.sub i hi hs;rw[h9] at b1;exact absurd b1 (by decide)
theorem mayBeUndone_any {i:Nat}(hi:i < its.length)(h:Ou its l P ob w) :
  Calls Tryz.prog 56 #[.pointer (some ⟨ob,0,none⟩),.int .i64 (i:Int)] w fun e w'=>e= .returned (.bool (muB its l i))∧Below w.heap.size w w':=by
 have HP:Hid _:=mu_parts h.chk hi;obtain⟨q,hq⟩:=h.right
 obtain⟨x,av,am,ac,hx,k0,k1,k2,k3,k4,k5,k6,k7,_⟩:=h.item hi
 obtain⟨_,_,e3⟩:=it_pl hq hx
 obtain⟨f0,f1,f2,f3⟩:=h.fact hi
 have c0:=h.c0;have c1:=h.c1;have hn:=h.few;have h0:(plOf its).sub 0=true:=(lg_of h.chk).ok.root;have HI1:Hid ((fOf l i).run=2→1≤i):=fun hr=>by
  apply Classical.byContradiction
  intro h9;obtain rfl:i=0:=by omega
  have:=(rt_of h.chk).sub 0 hi h0;rw[this] at hr
  exact absurd hr (by decide)
 have HE3:Hid _:=e3;have HIT:Hid (∀wx,Ou its l P ob wx→1≤i→wx.cell? ⟨P.xb,P.xo+i * 8+5,none⟩=some (.int .i64 ((plOf its).inn i:Nat))∧wx.cell? ⟨P.xb,P.xo+i * 8+6,none⟩=some (.int .i64 ((plOf its).alt i:Nat))):=fun wx hO h1=>by
  obtain⟨x',_,_,_,hx',_,_,_,_,_,d5,d6,_⟩:=hO.item hi
  rw[hx] at hx'
  cases hx';rw[←(e3 h1).1,←(e3 h1).2]
  exact⟨d5,d6⟩
 have HFA:Hid (∀wx,Ou its l P ob wx→Calls Tryz.prog 84 #[.pointer (some ⟨P.bd,0,none⟩),.int .i64 ((plOf its).inn i:Nat),.int .i64 ((plOf its).alt i:Nat)] wx fun e w'=>e= .returned (.bool (falS its l ((plOf its).inn i:Nat) ((plOf its).alt i:Nat)))∧Below wx.heap.size wx w'):=fun wx h=>h.fal_any _ _
 have HBA:Hid (1≤i→∀wx,Ou its l P ob wx→Calls Tryz.prog 85 #[.pointer (some ⟨ob,0,none⟩),.int .i64 (i:Int)] wx fun e w'=>e= .returned (.bool (baB its l i))∧Below wx.heap.size wx w'):=fun h1 wx h=>bare_any h1 hi h
 obtain⟨Q,HQ⟩:∃Q,Hid (Q=muB its l i):=⟨_,rfl⟩
 rw[←HQ.out] at HP ⊢
 have HO0:Hid _:=h;have hii:(i:Int) < (its.length:Int):=by omega
 clear h hq hx e3 h0 HQ hi HE3 k0 k1 k2 k3 k4 k5 k6 k7;generalize (plOf its).inn i=inn at *;generalize (plOf its).alt i=alt at *;generalize falS its l (inn:Nat) (alt:Nat)=fal at *;generalize baB its l i=ba at *;generalize (fOf l i).run=r at *;generalize (fOf l i).tries=tr at *;generalize (fOf l i).slips=sl at *;generalize (fOf l i).un=un at *;obtain⟨n,HN⟩:∃n,Hid (its.length=n):=⟨_,rfl⟩
 rw[HN.out] at c0 c1 hii hn
 have hb1:=bl1 w (.cells #[.int .i64 r,.int .i64 tr,.int .i64 sl,.bool un] 55);have rx:=Dg.row_new w #[.int .i64 r,.int .i64 tr,.int .i64 sl,.bool un] 55;have g0:=(Dg.cell_row rx 0).trans rfl;have g1:=(Dg.cell_row rx 1).trans rfl;have g2:=(Dg.cell_row rx 2).trans rfl;have g3:=(Dg.cell_row rx 3).trans rfl;have HO1:Hid (Ou its l P ob (w.alloc (.cells #[.int .i64 r,.int .i64 tr,.int .i64 sl,.bool un] 55))):=HO0.out.later hb1;have HB1:Hid _:=hb1;have HCI:Hid (∀wx,Ou its l P ob wx→wx.cell? ⟨ob,0,none⟩=some (.slice (some ⟨P.xb,P.xo,none⟩) n P.icap)):=fun wx h=>by have:=h.c0;rw[HN.out] at this;exact this
 clear rx hb1 HO0
 by_cases hL:r=2∧un=false∧tr=sl
 ·obtain⟨rfl,rfl,rfl⟩:=hL
  have HI2:Hid (1≤i):=HI1.out rfl;have HP2:Hid (Q=true↔fal=true∧ba=true):=⟨fun h=>(HP.out.1 h).2,fun h=>HP.out.2 ⟨⟨HI2.out,rfl,rfl,rfl⟩,h⟩⟩;have HBA2:Hid _:=HBA.out HI2.out;have HC5:Hid (∀wx,Ou its l P ob wx→wx.cell? ⟨P.xb,P.xo+i * 8+5,none⟩=some (.int .i64 (inn:Nat))):=fun wx h=>(HIT.out wx h HI2.out).1
  have HC6:Hid (∀wx,Ou its l P ob wx→wx.cell? ⟨P.xb,P.xo+i * 8+6,none⟩=some (.int .i64 (alt:Nat))):=fun wx h=>(HIT.out wx h HI2.out).2
  clear HP HI1 HBA HIT
  go_enter Tryz.func56,Tryz.ntmps56
  go_wp2_with fail
  clear g0 g1 g2 g3 f0 f1 f2 f3 c0 c1;obtain⟨w1,hw1⟩:∃w1,w.alloc (.cells #[.int .i64 2,.int .i64 tr,.int .i64 tr,.bool false] 55)=w1:=⟨_,rfl⟩
  rw[hw1] at HO1 HB1 ⊢
  obtain⟨rb,hrb⟩:∃rb,w.heap.size=rb:=⟨_,rfl⟩
  rw[hrb]
  clear hw1;have hS0:Ou its l P ob w1.drew∧Below w.heap.size w w1.drew:=⟨HO1.out.later (Below.refl _ _).drew,HB1.out.trans ((Below.refl _ _).drew)⟩;have HLR:Hid (∀wx w':World,(Ou its l P ob wx∧Below w.heap.size w wx)→Below wx.heap.size wx w'→Ou its l P ob w'∧Below w.heap.size w w'):=fun wx w' h hb=>⟨h.1.later hb,h.2.trans (hb.mono h.2.size)⟩
  cases fal with
  | false=>
   obtain rfl:Q=false:=by
    cases hQ:Q with
    | false=>rfl
    | true=>exact absurd (HP2.out.1 hQ).1 (by decide)
   clear HP2;refine region_thenF [(29,.bool true),(30,.bool true),(31,.pointer (some ⟨ob,0,none⟩)),(32,.pointer (some ⟨ob,0,none⟩)),(33,.pointer (some ⟨ob,3,none⟩)),(34,.pointer (some ⟨P.bd,0,none⟩)),(35,.pointer (some ⟨ob,0,none⟩)),(36,.pointer (some ⟨ob,0,none⟩)),(37,.pointer (some ⟨ob,0,none⟩)),(38,.slice (some ⟨P.xb,P.xo,none⟩) n P.icap),(39,.int .i64 i),(40,.pointer (some ⟨P.xb,P.xo+i * 8,none⟩)),(41,.pointer (some ⟨P.xb,P.xo+i * 8+5,none⟩)),(42,.int .i64 (inn:Nat)),(43,.pointer (some ⟨ob,0,none⟩)),(44,.pointer (some ⟨ob,0,none⟩)),(45,.pointer (some ⟨ob,0,none⟩)),(46,.slice (some ⟨P.xb,P.xo,none⟩) n P.icap),(47,.int .i64 i),(48,.pointer (some ⟨P.xb,P.xo+i * 8,none⟩)),(49,.pointer (some ⟨P.xb,P.xo+i * 8+6,none⟩)),(50,.int .i64 (alt:Nat)),(51,.bool false),(52,.bool false),(53,.bool false),(54,undef),(55,undef),(56,undef),(57,.bool false),(4,.bool false)] (fun w'=>Ou its l P ob w'∧Below w.heap.size w w') ?_ ?_
   ·refine wp_region_held (S:=fun w'=>Ou its l P ob w'∧Below w.heap.size w w') (by kernel_rfl) ?_;simp only[jN,jM,jP,Nat.reduceAdd,jI,jJ,jO,jL,jK];refine tK 0 29 (.bool true) 29 rfl hS0 ?_;refine tK 1 30 (.bool true) 28 rfl hS0 ?_;refine tK 2 31 (.pointer (some ⟨ob,0,none⟩)) 27 rfl hS0 ?_;refine tG 3 32 (.pointer (some ⟨ob,0,none⟩)) 26 rfl hS0 ?_;refine tG 4 33 (.pointer (some ⟨ob,3,none⟩)) 25 rfl hS0 ?_;refine tV 5 34 (.pointer (some ⟨P.bd,0,none⟩)) 24 rfl hS0 ?_ (fun wx h=>by have y0:=h.1.c3;go_simp);refine tK 6 35 (.pointer (some ⟨ob,0,none⟩)) 23 rfl hS0 ?_;refine tG 7 36 (.pointer (some ⟨ob,0,none⟩)) 22 rfl hS0 ?_;refine tG 8 37 (.pointer (some ⟨ob,0,none⟩)) 21 rfl hS0 ?_;refine tV 9 38 (.slice (some ⟨P.xb,P.xo,none⟩) n P.icap) 20 rfl hS0 ?_ (fun wx h=>by have y0:=HCI.out wx h.1;go_simp);refine tK 10 39 (.int .i64 i) 19 rfl hS0 ?_;refine tG 11 40 (.pointer (some ⟨P.xb,P.xo+i * 8,none⟩)) 18 rfl hS0 ?_;refine tG 12 41 (.pointer (some ⟨P.xb,P.xo+i * 8+5,none⟩)) 17 rfl hS0 ?_;refine tV 13 42 (.int .i64 (inn:Nat)) 16 rfl hS0 ?_ (fun wx h=>by have y0:=HC5.out wx h.1;go_simp);refine tK 14 43 (.pointer (some ⟨ob,0,none⟩)) 15 rfl hS0 ?_;refine tG 15 44 (.pointer (some ⟨ob,0,none⟩)) 14 rfl hS0 ?_;refine tG 16 45 (.pointer (some ⟨ob,0,none⟩)) 13 rfl hS0 ?_;refine tV 17 46 (.slice (some ⟨P.xb,P.xo,none⟩) n P.icap) 12 rfl hS0 ?_ (fun wx h=>by have y0:=HCI.out wx h.1;go_simp);refine tK 18 47 (.int .i64 i) 11 rfl hS0 ?_;refine tG 19 48 (.pointer (some ⟨P.xb,P.xo+i * 8,none⟩)) 10 rfl hS0 ?_;refine tG 20 49 (.pointer (some ⟨P.xb,P.xo+i * 8+6,none⟩)) 9 rfl hS0 ?_;refine tV 21 50 (.int .i64 (alt:Nat)) 8 rfl hS0 ?_ (fun wx h=>by have y0:=HC6.out wx h.1;go_simp);refine oneC (i:=22) (d:=51) (f:=84) (args:= #[.pointer (some ⟨P.bd,0,none⟩),.int .i64 (inn:Nat),.int .i64 (alt:Nat)]) (v:= .bool false) (fuel:=7) rfl rfl (by kernel_rfl) (by kernel_rfl) (fun _=>by kernel_rfl) hS0 (fun wx h=>Calls.mono (HFA.out wx h.1) (by rintro e w2 ⟨rfl,hb⟩;exact⟨rfl,HLR.out wx w2 h hb⟩)) (fun wz hS122=>?_);simp only[jA,jB,jC];refine tK 23 52 (.bool false) 6 rfl hS122 ?_;refine tK 24 53 (.bool false) 5 rfl hS122 ?_;refine tU 25 54 4 rfl hS122 ?_;refine tU 26 55 3 rfl hS122 ?_;refine wpAnyH_all (fuel:=2) (rs:=[27]) (by kernel_rfl) (by decide) (jE.2 ?_);refine wpOp_un (i:=27) (d:=56) rfl rfl (by kernel_rfl) ⟨hS122,?_⟩;simp only[jA,jB,jC];refine tK 28 57 (.bool false) 1 rfl hS122 ?_;refine tK 29 4 (.bool false) 0 rfl hS122 ?_;refine wpAnyH_done (by kernel_rfl) ?_ _;exact⟨rfl,by kernel_rfl,hS122⟩
   ·intro w9 hF;simp only[setAll,jA,jB,jC];have HF9:Hid _:=hF;clear hF
    go_wp2_with fail
    go_ret
    exact⟨rfl,HF9.out.2⟩
  | true=>
   obtain rfl:Q=ba:=Bool.eq_iff_iff.2 (by rw[HP2.out];exact⟨fun h=>h.2,fun h=>⟨rfl,h⟩⟩);clear HP2;refine region_thenF [(29,.bool true),(30,.bool true),(31,.pointer (some ⟨ob,0,none⟩)),(32,.pointer (some ⟨ob,0,none⟩)),(33,.pointer (some ⟨ob,3,none⟩)),(34,.pointer (some ⟨P.bd,0,none⟩)),(35,.pointer (some ⟨ob,0,none⟩)),(36,.pointer (some ⟨ob,0,none⟩)),(37,.pointer (some ⟨ob,0,none⟩)),(38,.slice (some ⟨P.xb,P.xo,none⟩) n P.icap),(39,.int .i64 i),(40,.pointer (some ⟨P.xb,P.xo+i * 8,none⟩)),(41,.pointer (some ⟨P.xb,P.xo+i * 8+5,none⟩)),(42,.int .i64 (inn:Nat)),(43,.pointer (some ⟨ob,0,none⟩)),(44,.pointer (some ⟨ob,0,none⟩)),(45,.pointer (some ⟨ob,0,none⟩)),(46,.slice (some ⟨P.xb,P.xo,none⟩) n P.icap),(47,.int .i64 i),(48,.pointer (some ⟨P.xb,P.xo+i * 8,none⟩)),(49,.pointer (some ⟨P.xb,P.xo+i * 8+6,none⟩)),(50,.int .i64 (alt:Nat)),(51,.bool true),(52,.bool true),(53,.bool true),(54,.pointer (some ⟨ob,0,none⟩)),(55,.int .i64 i),(56,.bool Q),(57,.bool Q),(4,.bool Q)] (fun w'=>Ou its l P ob w'∧Below w.heap.size w w') ?_ ?_
   ·refine wp_region_held (S:=fun w'=>Ou its l P ob w'∧Below w.heap.size w w') (by kernel_rfl) ?_;simp only[jN,jM,jP,Nat.reduceAdd,jI,jJ,jO,jL,jK];refine tK 0 29 (.bool true) 29 rfl hS0 ?_;refine tK 1 30 (.bool true) 28 rfl hS0 ?_;refine tK 2 31 (.pointer (some ⟨ob,0,none⟩)) 27 rfl hS0 ?_;refine tG 3 32 (.pointer (some ⟨ob,0,none⟩)) 26 rfl hS0 ?_;refine tG 4 33 (.pointer (some ⟨ob,3,none⟩)) 25 rfl hS0 ?_;refine tV 5 34 (.pointer (some ⟨P.bd,0,none⟩)) 24 rfl hS0 ?_ (fun wx h=>by have y0:=h.1.c3;go_simp);refine tK 6 35 (.pointer (some ⟨ob,0,none⟩)) 23 rfl hS0 ?_;refine tG 7 36 (.pointer (some ⟨ob,0,none⟩)) 22 rfl hS0 ?_;refine tG 8 37 (.pointer (some ⟨ob,0,none⟩)) 21 rfl hS0 ?_;refine tV 9 38 (.slice (some ⟨P.xb,P.xo,none⟩) n P.icap) 20 rfl hS0 ?_ (fun wx h=>by have y0:=HCI.out wx h.1;go_simp);refine tK 10 39 (.int .i64 i) 19 rfl hS0 ?_;refine tG 11 40 (.pointer (some ⟨P.xb,P.xo+i * 8,none⟩)) 18 rfl hS0 ?_;refine tG 12 41 (.pointer (some ⟨P.xb,P.xo+i * 8+5,none⟩)) 17 rfl hS0 ?_;refine tV 13 42 (.int .i64 (inn:Nat)) 16 rfl hS0 ?_ (fun wx h=>by have y0:=HC5.out wx h.1;go_simp);refine tK 14 43 (.pointer (some ⟨ob,0,none⟩)) 15 rfl hS0 ?_;refine tG 15 44 (.pointer (some ⟨ob,0,none⟩)) 14 rfl hS0 ?_;refine tG 16 45 (.pointer (some ⟨ob,0,none⟩)) 13 rfl hS0 ?_;refine tV 17 46 (.slice (some ⟨P.xb,P.xo,none⟩) n P.icap) 12 rfl hS0 ?_ (fun wx h=>by have y0:=HCI.out wx h.1;go_simp);refine tK 18 47 (.int .i64 i) 11 rfl hS0 ?_;refine tG 19 48 (.pointer (some ⟨P.xb,P.xo+i * 8,none⟩)) 10 rfl hS0 ?_;refine tG 20 49 (.pointer (some ⟨P.xb,P.xo+i * 8+6,none⟩)) 9 rfl hS0 ?_;refine tV 21 50 (.int .i64 (alt:Nat)) 8 rfl hS0 ?_ (fun wx h=>by have y0:=HC6.out wx h.1;go_simp);refine oneC (i:=22) (d:=51) (f:=84) (args:= #[.pointer (some ⟨P.bd,0,none⟩),.int .i64 (inn:Nat),.int .i64 (alt:Nat)]) (v:= .bool true) (fuel:=7) rfl rfl (by kernel_rfl) (by kernel_rfl) (fun _=>by kernel_rfl) hS0 (fun wx h=>Calls.mono (HFA.out wx h.1) (by rintro e w2 ⟨rfl,hb⟩;exact⟨rfl,HLR.out wx w2 h hb⟩)) (fun wz hS122=>?_);simp only[jA,jB,jC];refine tK 23 52 (.bool true) 6 rfl hS122 ?_;refine tK 24 53 (.bool true) 5 rfl hS122 ?_;refine tK 25 54 (.pointer (some ⟨ob,0,none⟩)) 4 rfl hS122 ?_;refine tK 26 55 (.int .i64 i) 3 rfl hS122 ?_;refine oneC (i:=27) (d:=56) (f:=85) (args:= #[.pointer (some ⟨ob,0,none⟩),.int .i64 i]) (v:= .bool Q) (fuel:=2) rfl rfl (by kernel_rfl) (by kernel_rfl) (fun _=>by kernel_rfl) hS122 (fun wx h=>Calls.mono (HBA2.out wx h.1) (by rintro e w2 ⟨rfl,hb⟩;exact⟨rfl,HLR.out wx w2 h hb⟩)) (fun wz hS127=>?_);simp only[jA,jB,jC];refine tK 28 57 (.bool Q) 1 rfl hS127 ?_;refine tK 29 4 (.bool Q) 0 rfl hS127 ?_;refine wpAnyH_done (by kernel_rfl) ?_ _;exact⟨rfl,by kernel_rfl,hS127⟩
   ·intro w9 hF;simp only[setAll,jA,jB,jC];have HF9:Hid _:=hF;clear hF
    go_wp2_with fail
    go_ret
    exact⟨rfl,HF9.out.2⟩
 ·obtain rfl:Q=false:=by
   cases hQ:Q with
   | false=>rfl
   | true=>exact absurd (HP.out.1 hQ).1.2 hL
  clear HP HI1 HBA HIT
  by_cases hr:r=2
  ·subst hr;cases un with
   | true=>
    go_enter Tryz.func56,Tryz.ntmps56
    go_wp2_with fail
    clear g0 g1 g2 g3 f0 f1 f2 f3 c0 c1;obtain⟨w1,hw1⟩:∃w1,w.alloc (.cells #[.int .i64 2,.int .i64 tr,.int .i64 sl,.bool true] 55)=w1:=⟨_,rfl⟩
    rw[hw1] at HO1 HB1 ⊢
    obtain⟨rb,hrb⟩:∃rb,w.heap.size=rb:=⟨_,rfl⟩
    rw[hrb]
    clear hw1;have hS0:Ou its l P ob w1.drew∧Below w.heap.size w w1.drew:=⟨HO1.out.later (Below.refl _ _).drew,HB1.out.trans ((Below.refl _ _).drew)⟩;refine region_thenF [(29,.bool false),(30,.bool false),(31,undef),(32,undef),(33,undef),(34,undef),(35,undef),(36,undef),(37,undef),(38,undef),(39,undef),(40,undef),(41,undef),(42,undef),(43,undef),(44,undef),(45,undef),(46,undef),(47,undef),(48,undef),(49,undef),(50,undef),(51,undef),(52,.bool false),(53,.bool false),(54,undef),(55,undef),(56,undef),(57,.bool false),(4,.bool false)] (fun w'=>Ou its l P ob w'∧Below w.heap.size w w') ?_ ?_
    ·refine wp_region_held (S:=fun w'=>Ou its l P ob w'∧Below w.heap.size w w') (by kernel_rfl) ?_;simp only[jN,jM,jP,Nat.reduceAdd,jI,jJ,jO,jL,jK];refine tK 0 29 (.bool false) 29 rfl hS0 ?_;refine tK 1 30 (.bool false) 28 rfl hS0 ?_;refine tU 2 31 27 rfl hS0 ?_;refine tU 3 32 26 rfl hS0 ?_;refine tU 4 33 25 rfl hS0 ?_;refine tU 5 34 24 rfl hS0 ?_;refine tU 6 35 23 rfl hS0 ?_;refine tU 7 36 22 rfl hS0 ?_;refine tU 8 37 21 rfl hS0 ?_;refine tU 9 38 20 rfl hS0 ?_;refine tU 10 39 19 rfl hS0 ?_;refine tU 11 40 18 rfl hS0 ?_;refine tU 12 41 17 rfl hS0 ?_;refine tU 13 42 16 rfl hS0 ?_;refine tU 14 43 15 rfl hS0 ?_;refine tU 15 44 14 rfl hS0 ?_;refine tU 16 45 13 rfl hS0 ?_;refine tU 17 46 12 rfl hS0 ?_;refine tU 18 47 11 rfl hS0 ?_;refine tU 19 48 10 rfl hS0 ?_;refine tU 20 49 9 rfl hS0 ?_;refine tU 21 50 8 rfl hS0 ?_;refine wpAnyH_all (fuel:=7) (rs:=[22]) (by kernel_rfl) (by decide) (jE.2 ?_);refine wpOp_un (i:=22) (d:=51) rfl rfl (by kernel_rfl) ⟨hS0,?_⟩;simp only[jA,jB,jC];refine tK 23 52 (.bool false) 6 rfl hS0 ?_;refine tK 24 53 (.bool false) 5 rfl hS0 ?_;refine tU 25 54 4 rfl hS0 ?_;refine tU 26 55 3 rfl hS0 ?_;refine wpAnyH_all (fuel:=2) (rs:=[27]) (by kernel_rfl) (by decide) (jE.2 ?_);refine wpOp_un (i:=27) (d:=56) rfl rfl (by kernel_rfl) ⟨hS0,?_⟩;simp only[jA,jB,jC];refine tK 28 57 (.bool false) 1 rfl hS0 ?_;refine tK 29 4 (.bool false) 0 rfl hS0 ?_;refine wpAnyH_done (by kernel_rfl) ?_ _;exact⟨rfl,by kernel_rfl,hS0⟩
    ·intro w9 hF;simp only[setAll,jA,jB,jC];have HF9:Hid _:=hF;clear hF
     go_wp2_with fail
     go_ret
     exact⟨rfl,HF9.out.2⟩
   | false=>
    have ht:¬tr=sl:=fun h=>hL ⟨rfl,rfl,h⟩
    have ht1:decide (tr=sl)=false:=decide_eq_false ht;have ht2:(tr==sl)=false:=by simpa using ht
    clear hL
    go_enter Tryz.func56,Tryz.ntmps56
    go_wp2_with fail
    clear g0 g1 g2 g3 f0 f1 f2 f3 c0 c1;obtain⟨w1,hw1⟩:∃w1,w.alloc (.cells #[.int .i64 2,.int .i64 tr,.int .i64 sl,.bool false] 55)=w1:=⟨_,rfl⟩
    rw[hw1] at HO1 HB1 ⊢
    obtain⟨rb,hrb⟩:∃rb,w.heap.size=rb:=⟨_,rfl⟩
    rw[hrb]
    clear hw1;have hS0:Ou its l P ob w1.drew∧Below w.heap.size w w1.drew:=⟨HO1.out.later (Below.refl _ _).drew,HB1.out.trans ((Below.refl _ _).drew)⟩;refine region_thenF [(29,.bool false),(30,.bool false),(31,undef),(32,undef),(33,undef),(34,undef),(35,undef),(36,undef),(37,undef),(38,undef),(39,undef),(40,undef),(41,undef),(42,undef),(43,undef),(44,undef),(45,undef),(46,undef),(47,undef),(48,undef),(49,undef),(50,undef),(51,undef),(52,.bool false),(53,.bool false),(54,undef),(55,undef),(56,undef),(57,.bool false),(4,.bool false)] (fun w'=>Ou its l P ob w'∧Below w.heap.size w w') ?_ ?_
    ·refine wp_region_held (S:=fun w'=>Ou its l P ob w'∧Below w.heap.size w w') (by kernel_rfl) ?_;simp only[jN,jM,jP,Nat.reduceAdd,jI,jJ,jO,jL,jK];refine tK 0 29 (.bool false) 29 rfl hS0 ?_;refine tK 1 30 (.bool false) 28 rfl hS0 ?_;refine tU 2 31 27 rfl hS0 ?_;refine tU 3 32 26 rfl hS0 ?_;refine tU 4 33 25 rfl hS0 ?_;refine tU 5 34 24 rfl hS0 ?_;refine tU 6 35 23 rfl hS0 ?_;refine tU 7 36 22 rfl hS0 ?_;refine tU 8 37 21 rfl hS0 ?_;refine tU 9 38 20 rfl hS0 ?_;refine tU 10 39 19 rfl hS0 ?_;refine tU 11 40 18 rfl hS0 ?_;refine tU 12 41 17 rfl hS0 ?_;refine tU 13 42 16 rfl hS0 ?_;refine tU 14 43 15 rfl hS0 ?_;refine tU 15 44 14 rfl hS0 ?_;refine tU 16 45 13 rfl hS0 ?_;refine tU 17 46 12 rfl hS0 ?_;refine tU 18 47 11 rfl hS0 ?_;refine tU 19 48 10 rfl hS0 ?_;refine tU 20 49 9 rfl hS0 ?_;refine tU 21 50 8 rfl hS0 ?_;refine wpAnyH_all (fuel:=7) (rs:=[22]) (by kernel_rfl) (by decide) (jE.2 ?_);refine wpOp_un (i:=22) (d:=51) rfl rfl (by kernel_rfl) ⟨hS0,?_⟩;simp only[jA,jB,jC];refine tK 23 52 (.bool false) 6 rfl hS0 ?_;refine tK 24 53 (.bool false) 5 rfl hS0 ?_;refine tU 25 54 4 rfl hS0 ?_;refine tU 26 55 3 rfl hS0 ?_;refine wpAnyH_all (fuel:=2) (rs:=[27]) (by kernel_rfl) (by decide) (jE.2 ?_);refine wpOp_un (i:=27) (d:=56) rfl rfl (by kernel_rfl) ⟨hS0,?_⟩;simp only[jA,jB,jC];refine tK 28 57 (.bool false) 1 rfl hS0 ?_;refine tK 29 4 (.bool false) 0 rfl hS0 ?_;refine wpAnyH_done (by kernel_rfl) ?_ _;exact⟨rfl,by kernel_rfl,hS0⟩
    ·intro w9 hF;simp only[setAll,jA,jB,jC];have HF9:Hid _:=hF;clear hF
     go_wp2_with fail
     go_ret
     exact⟨rfl,HF9.out.2⟩
  ·have hr1:decide (r=2)=false:=decide_eq_false hr;have hr2:(r==2)=false:=by simpa using hr
   clear hL
   go_enter Tryz.func56,Tryz.ntmps56
   go_wp2_with fail
   clear g0 g1 g2 g3 f0 f1 f2 f3 c0 c1;obtain⟨w1,hw1⟩:∃w1,w.alloc (.cells #[.int .i64 r,.int .i64 tr,.int .i64 sl,.bool un] 55)=w1:=⟨_,rfl⟩
   rw[hw1] at HO1 HB1 ⊢
   obtain⟨rb,hrb⟩:∃rb,w.heap.size=rb:=⟨_,rfl⟩
   rw[hrb]
   clear hw1;have hS0:Ou its l P ob w1.drew∧Below w.heap.size w w1.drew:=⟨HO1.out.later (Below.refl _ _).drew,HB1.out.trans ((Below.refl _ _).drew)⟩;refine region_thenF [(29,.bool false),(30,.bool false),(31,undef),(32,undef),(33,undef),(34,undef),(35,undef),(36,undef),(37,undef),(38,undef),(39,undef),(40,undef),(41,undef),(42,undef),(43,undef),(44,undef),(45,undef),(46,undef),(47,undef),(48,undef),(49,undef),(50,undef),(51,undef),(52,.bool false),(53,.bool false),(54,undef),(55,undef),(56,undef),(57,.bool false),(4,.bool false)] (fun w'=>Ou its l P ob w'∧Below w.heap.size w w') ?_ ?_
   ·refine wp_region_held (S:=fun w'=>Ou its l P ob w'∧Below w.heap.size w w') (by kernel_rfl) ?_;simp only[jN,jM,jP,Nat.reduceAdd,jI,jJ,jO,jL,jK];refine tK 0 29 (.bool false) 29 rfl hS0 ?_;refine tK 1 30 (.bool false) 28 rfl hS0 ?_;refine tU 2 31 27 rfl hS0 ?_;refine tU 3 32 26 rfl hS0 ?_;refine tU 4 33 25 rfl hS0 ?_;refine tU 5 34 24 rfl hS0 ?_;refine tU 6 35 23 rfl hS0 ?_;refine tU 7 36 22 rfl hS0 ?_;refine tU 8 37 21 rfl hS0 ?_;refine tU 9 38 20 rfl hS0 ?_;refine tU 10 39 19 rfl hS0 ?_;refine tU 11 40 18 rfl hS0 ?_;refine tU 12 41 17 rfl hS0 ?_;refine tU 13 42 16 rfl hS0 ?_;refine tU 14 43 15 rfl hS0 ?_;refine tU 15 44 14 rfl hS0 ?_;refine tU 16 45 13 rfl hS0 ?_;refine tU 17 46 12 rfl hS0 ?_;refine tU 18 47 11 rfl hS0 ?_;refine tU 19 48 10 rfl hS0 ?_;refine tU 20 49 9 rfl hS0 ?_;refine tU 21 50 8 rfl hS0 ?_;refine wpAnyH_all (fuel:=7) (rs:=[22]) (by kernel_rfl) (by decide) (jE.2 ?_);refine wpOp_un (i:=22) (d:=51) rfl rfl (by kernel_rfl) ⟨hS0,?_⟩;simp only[jA,jB,jC];refine tK 23 52 (.bool false) 6 rfl hS0 ?_;refine tK 24 53 (.bool false) 5 rfl hS0 ?_;refine tU 25 54 4 rfl hS0 ?_;refine tU 26 55 3 rfl hS0 ?_;refine wpAnyH_all (fuel:=2) (rs:=[27]) (by kernel_rfl) (by decide) (jE.2 ?_);refine wpOp_un (i:=27) (d:=56) rfl rfl (by kernel_rfl) ⟨hS0,?_⟩;simp only[jA,jB,jC];refine tK 28 57 (.bool false) 1 rfl hS0 ?_;refine tK 29 4 (.bool false) 0 rfl hS0 ?_;refine wpAnyH_done (by kernel_rfl) ?_ _;exact⟨rfl,by kernel_rfl,hS0⟩
   ·intro w9 hF;simp only[setAll,jA,jB,jC];have HF9:Hid _:=hF;clear hF
    go_wp2_with fail
    go_ret
    exact⟨rfl,HF9.out.2⟩
theorem may54_any {i bo:Nat}(hi:i < its.length)(h:Ou its l P ob w)(hbo:Boxed w bo 70 (.pointer (some ⟨ob,0,none⟩))) :
  Calls Tryz.prog 54 #[.int .i64 (i:Int),.pointer (some ⟨bo,0,none⟩)] w fun e w'=>e= .returned (.bool (mbB its l i || muB its l i))∧Below w.heap.size w w':=by
 have c0:=hbo.cell;have H1:Hid _:=mayBegin_any hi h;have H2:Hid (∀wx,Below w.heap.size w wx→Calls Tryz.prog 56 #[.pointer (some ⟨ob,0,none⟩),.int .i64 (i:Int)] wx fun e w'=>e= .returned (.bool (muB its l i))∧Below wx.heap.size wx w'):=fun wx hb=>mayBeUndone_any hi (h.later hb)
 have HBO:Hid (∀wx,Below w.heap.size w wx→Boxed wx bo 70 (.pointer (some ⟨ob,0,none⟩))):=fun wx hb=>(hb.block bo hbo.lt).trans hbo
 clear h hbo;generalize mbB its l i=b1 at *;generalize muB its l i=b2 at *;cases b1 with
 | true=>
  go_enter Tryz.func54,Tryz.ntmps54
  go_wp2_with fail
  refine Calls.mono H1.out ?_;rintro e w2 ⟨rfl,hb2⟩;have HB:Hid _:=hb2;clear hb2 H1 c0
  go_wp2_with fail
  go_ret
  exact⟨rfl,HB.out⟩
 | false=>
  go_enter Tryz.func54,Tryz.ntmps54
  go_wp2_with fail
  refine Calls.mono H1.out ?_;rintro e w2 ⟨rfl,hb2⟩;have HB:Hid _:=hb2;have H3:Hid _:=H2.out w2 hb2;have c2:=(HBO.out w2 hb2).cell;clear hb2 H1 c0 H2
  go_wp2_with fail
  refine Calls.mono H3.out ?_;rintro e w3 ⟨rfl,hb3⟩;have HB3:Hid _:=HB.out.trans (hb3.mono HB.out.size);clear hb3 H3 c2 HB
  go_wp2_with fail
  go_ret
  exact⟨rfl,HB3.out⟩
end Go.Proofs.YtieoppabellafaaGreatDoor.Ts
