/- Texts of the seat, packed: Ah Ai. -/
import Derived.Test.YtieoppabellafaaGreatDoorP37
import Derived.OwnWalkIn
set_option maxRecDepth 1000000
set_option maxHeartbeats 64000000
set_option linter.unusedVariables false
namespace Go.Proofs.YtieoppabellafaaGreatDoor.Ts
open Go.RowKit Go.Shelf Fc St Sx Sa Rl
variable {its:List It}{l:List Fa}{P:OuP}{ob:Nat}{w:World}
noncomputable def keysL (its:List It)(l:List Fa):List (Nat × Bool × Int):=(letL its l).map fun i=>keyOfF i (fOf l i)
theorem keysL_may (hc:chkF its l=0):keysL its l=mayL its l:=by
 unfold keysL letL mayL;rw[if_pos hc]
 have key:∀r:List Nat,(r.filter (letB its l)).map (fun i=>keyOfF i (fOf l i))=r.flatMap (mayK its l):=fun r=>by
  induction r with
  | nil=>rfl
  | cons i r ih=>
   rw[List.filter_cons,List.flatMap_cons,←ih]
   unfold letB;have e1:∀{q:Prop} (b:Bool),(b=true↔q)→(q→(fOf l i).run=0)→q→True:=fun _ _ _ _=>trivial
   by_cases hb:MB (plOf its) (afOf its) (fOf l) i
   ·have hu:¬MU (plOf its) (afOf its) (fOf l) i:=fun hu=>by have h1:=hb.2.1;have h2:=hu.2.1.1;rw[h1] at h2;exact absurd h2 (by decide)
    have q1:mbB its l i=true:=mbB_iff.2 hb;rw[q1,Bool.true_or,if_pos rfl,List.map_cons]
    unfold mayK;rw[if_pos hb,if_neg hu]
    have:keyOfF i (fOf l i)=(i,false,0):=by unfold keyOfF;rw[if_pos hb.2.1]
    rw[this]
    rfl
   ·have q1:mbB its l i=false:=by
     cases h:mbB its l i with
     | false=>rfl
     | true=>exact absurd (mbB_iff.1 h) hb
    rw[q1,Bool.false_or]
    by_cases hu:MU (plOf its) (afOf its) (fOf l) i
    ·have q2:muB its l i=true:=muB_iff.2 hu;rw[q2,if_pos rfl,List.map_cons]
     unfold mayK;rw[if_neg hb,if_pos hu]
     have:keyOfF i (fOf l i)=(i,true,(fOf l i).slips):=by unfold keyOfF;rw[if_neg (by rw[hu.2.1.1];decide)]
     rw[this]
     rfl
    ·have q2:muB its l i=false:=by
      cases h:muB its l i with
      | false=>rfl
      | true=>exact absurd (muB_iff.1 h) hu
     rw[q2,if_neg (by decide)]
     unfold mayK;rw[if_neg hb,if_neg hu]
     rfl
 exact key _
structure XSt (Ws:World)(T TJ TB:Nat→Prop)(Ds:List Nat)(W:World):Prop where
 mks:Rl.Marks (fun b=>TJ b∧¬TB b) W Ds
 sub:∀b,TB b→TJ b
 own:∀b,TJ b→b < W.heap.size
 old:∀b,b < Ws.heap.size→(TJ b↔T b)
 sz:Ws.heap.size≤W.heap.size
section
variable {Ws:World}{T TJ TB:Nat→Prop}{Ds:List Nat}{W W':World}
theorem XSt.mv (h:XSt Ws T TJ TB Ds W){TB':Nat→Prop}(hm:Rl.Mv TB W TB' W'):Rl.Mv TJ W (fun b=>TJ b∨TB' b) W'∧XSt Ws T (fun b=>TJ b∨TB' b) TB' Ds W':=by
 have hl:∀b,TB b→b < W.heap.size:=fun b hb=>h.own b (h.sub b hb)
 have hsz:=h.sz;refine⟨hm.wide h.sub hl,h.mks.mono (fun D hD hx=>⟨.inl hD.1,hm.no (h.own D hD.1) hD.2⟩) (fun D hD hx=>(hm.same D (h.own D hD.1) hD.2).trans hx),fun b hb=> .inr hb,fun b hb=>?_,fun b hb=>?_,Nat.le_trans h.sz hm.size⟩
 ·rcases hb with hb | hb
  ·exact Nat.lt_of_lt_of_le (h.own b hb) hm.size
  ·exact hm.up hl b hb
 ·rw[←h.old b hb]
  exact⟨fun hx=>hx.elim id (fun hx=>h.sub b ((hm.old b (by omega)).1 hx)),.inl⟩
theorem XSt.rv (h:XSt Ws T TJ TB Ds W)(hr:Rl.Rv 0 TJ W W'):XSt Ws T TJ TB Ds W':=
 ⟨h.mks.mono (fun D hD _=>hD) (fun D hD hx=>(hr.keep D hD.1 (h.own D hD.1)).trans hx),h.sub,fun b hb=>Nat.lt_of_lt_of_le (h.own b hb) hr.size,h.old,Nat.le_trans h.sz hr.size⟩
theorem XSt.leave (h:XSt Ws T TJ TB Ds W){D:Nat}(hT:TB D)(hD:W.heap[D]? =some (.deferred (some []))):XSt Ws T TJ (fun _=>False) (D :: Ds) W:=
 ⟨Rl.Marks.cons (h.mks.mono (fun D hD _=>⟨hD.1,id⟩) (fun _ _ hx=>hx)) ⟨h.sub D hT,id⟩ hD (fun hm=>(h.mks.2 D hm).1.2 hT),fun _ h=>h.elim,h.own,h.old,h.sz⟩
end
structure KsS (Y l:Nat)(w1 Ws:World)(T TJ TB:Nat→Prop)(W:World):Prop where
 bY:Boxed W Y 121 (.func (.yield l) #[] #[])
 tY:TJ Y
 nY:¬TB Y
 bel:Below w1.heap.size w1 W
 low:∀b,TJ b→w1.heap.size≤b
 x:XSt Ws T TJ TB [] W
section
variable {Y lq:Nat}{w1 Ws:World}{T TJ TB:Nat→Prop}{W W':World}
theorem KsS.mv (h:KsS Y lq w1 Ws T TJ TB W){TB':Nat→Prop}(hm:Rl.Mv TB W TB' W'):Rl.Mv TJ W (fun b=>TJ b∨TB' b) W'∧KsS Y lq w1 Ws T (fun b=>TJ b∨TB' b) TB' W':=by
 obtain⟨h1,h2⟩:=h.x.mv hm
 have hle:=h.bel.size;refine⟨h1,Rl.boxed_mv h.bY hm h.nY,.inl h.tY,hm.no (h.x.own _ h.tY) h.nY,hm.below h.bel (fun b hb ht=>by have:=h.low b (h.x.sub b ht);omega) hle,fun b hb=>?_,h2⟩
 rcases hb with hb | hb
 ·exact h.low b hb
 ·by_cases hlt:b < W.heap.size
  ·exact h.low b (h.x.sub b ((hm.old b hlt).1 hb))
  ·omega
theorem KsS.below (h:KsS Y lq w1 Ws T TJ TB W)(hb:Below W.heap.size W W'):KsS Y lq w1 Ws T TJ TB W':=
 ⟨(hb.block Y h.bY.lt).trans h.bY,h.tY,h.nY,h.bel.trans (hb.mono h.bel.size),h.low,h.x.rv (Rl.Rv.of_below hb (Nat.zero_le _))⟩
theorem KsS.round (h:KsS Y lq w1 Ws T TJ TB W)(hr:Rl.Rv w1.heap.size TJ W W'):KsS Y lq w1 Ws T TJ TB W':=
 ⟨(hr.keep Y h.tY h.bY.lt).trans h.bY,h.tY,h.nY,h.bel.trans hr.below,h.low,h.x.rv hr.low0⟩
end
def KsI (Y lq:Nat)(w1 Ws:World)(T:Nat→Prop)(J:Nat→World→(Nat→Prop)→Prop)(k:Nat)(W:World)(TB:Nat→Prop):Prop:=∃TJ,J k W TJ∧KsS Y lq w1 Ws T TJ TB W
def KsX (Ws:World)(T:Nat→Prop)(Jx:Nat→World→(Nat→Prop)→Prop)(k:Nat)(c:Code)(W:World)(TB:Nat→Prop):Prop:=∃TJ,c= .ret∧Jx k W TJ∧XSt Ws T TJ TB [] W
def encK (x:Nat × Bool × Int)(_:Nat)(_:World)(_:Nat→Prop)(args:Array Value):Prop:=args= #[.agg (keyC x).toArray]
attribute [local go_sem] Oper.semAt_some
theorem keys_itr {w1:World}{bo bm n:Nat}(h:Ou its l P ob w1)(hn:its.length=n)(hbo:Boxed w1 bo 70 (.pointer (some ⟨ob,0,none⟩)))(hbm:Boxed w1 bm 84 (.func (.func 54) #[] #[.pointer (some ⟨bo,0,none⟩)]))(w:World)(hbw:Below w1.heap.size w1 w) :
  Rl.Itr Tryz.prog 57 #[.pointer (some ⟨bo,0,none⟩),.pointer (some ⟨bm,0,none⟩)] encK (keysL its l) w1.heap.size w1.heap.size (fun _=>False) w:=by
 intro li J Jx W hW hJ hJx hY hJ0;have HJ:Hid _:=hJ;have HJx:Hid _:=hJx;have HY:Hid _:=hY;have hle:w1.heap.size≤W.heap.size:=Nat.le_trans hbw.size hW.size;have HB0:Hid (Below w1.heap.size w1 W):=hbw.trans (hW.mono hbw.size);have hfew:=h.few;rw[hn] at hfew
 have HOU:Hid (∀wx,Below w1.heap.size w1 wx→Ou its l P ob wx):=fun wx hb=>h.later hb
 have HBO:Hid (∀wx,Below w1.heap.size w1 wx→Boxed wx bo 70 (.pointer (some ⟨ob,0,none⟩))):=fun wx hb=>(hb.block bo hbo.lt).trans hbo
 have HBM:Hid (∀wx,Below w1.heap.size w1 wx→Boxed wx bm 84 (.func (.func 54) #[] #[.pointer (some ⟨bo,0,none⟩)])):=fun wx hb=>(hb.block bm hbm.lt).trans hbm
 have HC0:Hid (∀wx,Below w1.heap.size w1 wx→wx.cell? ⟨ob,0,none⟩=some (.slice (some ⟨P.xb,P.xo,none⟩) n P.icap)):=fun wx hb=>by have:=(h.later hb).c0;rw[hn] at this;exact this
 have HC1:Hid (∀wx,Below w1.heap.size w1 wx→wx.cell? ⟨ob,1,none⟩=some (.slice (some ⟨P.fb,P.fo,none⟩) n P.lcap)):=fun wx hb=>by have:=(h.later hb).c1;rw[hn] at this;exact this
 have HFA:Hid (∀wx i,Below w1.heap.size w1 wx→i < n→wx.cell? ⟨P.fb,P.fo+i * 4,none⟩=some (.int .i64 (fOf l i).run)∧wx.cell? ⟨P.fb,P.fo+i * 4+1,none⟩=some (.int .i64 (fOf l i).tries)∧wx.cell? ⟨P.fb,P.fo+i * 4+2,none⟩=some (.int .i64 (fOf l i).slips)∧wx.cell? ⟨P.fb,P.fo+i * 4+3,none⟩=some (.bool (fOf l i).un)):=fun wx i hb hi=>(h.later hb).fact (by omega)
 obtain⟨s,hs⟩:∃s,W.heap.size=s:=⟨_,rfl⟩
 obtain⟨W2,hW2⟩:∃W2,W.alloc (.cells #[.func (.yield li) #[] #[]] 121)=W2:=⟨_,rfl⟩
 have hs2:W2.heap.size=s+1:=by rw[←hW2];simp[hs]
 have hb2:Below W.heap.size W W2:=by rw[←hW2];exact bl1 _ _
 have q2:Boxed W2 s 121 (.func (.yield li) #[] #[]):=by rw[←hW2,←hs];exact Boxed.new W 121 _
 obtain⟨W3,hW3⟩:∃W3,(W2.drew.alloc (.cells #[.int .i64 (n:Int)] 3)).alloc (.cells #[.func (.func 54) #[] #[.pointer (some ⟨bo,0,none⟩)]] 84)=W3:=⟨_,rfl⟩
 have hs3:W3.heap.size=s+3:=by rw[←hW3];simp;omega
 have hb3:Below W.heap.size W W3:=by
  rw[←hW3]
  have h1:Below W2.heap.size W2 ((W2.drew.alloc (.cells #[.int .i64 (n:Int)] 3)).alloc (.cells #[.func (.func 54) #[] #[.pointer (some ⟨bo,0,none⟩)]] 84)):=(((Below.refl _ W2).drew).alloc (by simp) _).alloc (by simp) _;exact hb2.trans (h1.mono hb2.size)
 have q3:Boxed W3 (s+1) 3 (.int .i64 (n:Int)):=by
  rw[←hW3,←hs2]
  exact (Boxed.new W2.drew 3 (.int .i64 (n:Int))).alloc _
 have q4:Boxed W3 (s+1+1) 84 (.func (.func 54) #[] #[.pointer (some ⟨bo,0,none⟩)]):=by
  have:=Boxed.new (W2.drew.alloc (.cells #[.int .i64 (n:Int)] 3)) 84 (.func (.func 54) #[] #[.pointer (some ⟨bo,0,none⟩)]);rw[World.size_alloc,show W2.drew.heap.size=s+1 from hs2,hW3] at this
  exact this
 have q5:Boxed W3 s 121 (.func (.yield li) #[] #[]):=by
  rw[←hW3]
  exact ((show Boxed W2.drew s 121 _ from q2).alloc _).alloc _
 have HITR:Hid _:=through_itr w1.heap.size (w1:=w1) (bc:=s+1) (bl:=s+1+1) h hn hbo (fun b=>b=s+1∨b=s+1+1) W3 (HB0.out.trans (hb3.mono HB0.out.size)) q3 q4 (.inl rfl) (.inr rfl) (fun b hb=>by omega);have HKS:Hid (KsS s li w1 W (fun _=>False) (fun b=>False∨(W.heap.size≤b∧b < W3.heap.size)) (fun b=>b=s+1∨b=s+1+1) W3):=by
  refine⟨q5,.inr (by omega),by omega,HB0.out.trans (hb3.mono HB0.out.size),fun b hb=>(show False∨(W.heap.size≤b∧b < W3.heap.size) from hb).elim False.elim (fun h=>by omega),⟨Rl.Marks.nil _ _,fun b hb=> .inr (by omega),fun b hb=>(show False∨(W.heap.size≤b∧b < W3.heap.size) from hb).elim False.elim (fun h=>by omega),fun b hb=>⟨fun h=>h.resolve_right (by omega),.inl⟩,hb3.size⟩⟩
 have HJ3:Hid (J 0 W3 (fun b=>False∨(W.heap.size≤b∧b < W3.heap.size))):=hJ _ _ _ _ _ hJ0 (Rl.Mv.of_below_own hb3);have HMK:Hid _:=through_maker (n:Int) (.func 54) #[.pointer (some ⟨bo,0,none⟩)] W2.drew;rw[show W2.drew.heap.size=s+1 from hs2,hW3] at HMK
 obtain⟨ys,HYS⟩:∃ys,Hid (ys=letL its l):=⟨_,rfl⟩
 rw[←HYS.out] at HITR
 obtain⟨xs,HX⟩:∃xs,Hid (xs=keysL its l):=⟨_,rfl⟩
 rw[←HX.out] at HY ⊢
 have HXY:Hid (xs=ys.map fun i=>keyOfF i (fOf l i)):=by show _=_;rw[HX.out,HYS.out];rfl
 have HYN:Hid (∀i∈ys,i < n):=fun i hi=>by
  rw[HYS.out] at hi
  have:=List.mem_range.1 (List.mem_filter.1 hi).1;omega
 obtain⟨R,HR⟩:∃R:Ending→World→Prop,Hid (R=fun e W2=>∃v T2,e= .returned v∧(J xs.length W2 T2∨∃k,k < xs.length∧Jx (k+1) W2 T2)∧(∀b,b < W.heap.size→(T2 b↔False))∧(∀b,T2 b→b < W2.heap.size)):=⟨_,rfl⟩
 rw[←HR.out]
 have HS3:Hid (W3.heap.size=s+3):=hs3;have HS2:Hid (W2.heap.size=s+1):=hs2;have HSW:Hid (W.heap.size=s):=hs;have HB2:Hid (Below w1.heap.size w1 W2):=HB0.out.trans (hb2.mono HB0.out.size);clear h hbo hbm hJ hJx hY hJ0 hW hbw hb2 hb3 q2 q3 q4 q5 hs2 hs3 hn hW3 HYS HX;generalize (fun b=>False∨(W.heap.size≤b∧b < W3.heap.size))=TJ0 at HKS HJ3;refine callsIn_of_wp_marks Tryz.func57 rfl trivial ?_ rfl;simp only[Tryz.ntmps57,List.size_toArray,List.length_cons,List.length_nil,Nat.reduceAdd,Nat.reduceSub,Array.replicate_succ,Array.replicate_zero,List.push_toArray,List.append_toArray,List.nil_append,List.cons_append]
 gi_wp2
 clear hW2 hs;refine wpIn_wide.2 ?_;have hS0:Below w1.heap.size w1 W2.drew:=HB2.out.drew;refine region_thenF [(5,.pointer (some ⟨ob,0,none⟩)),(6,.pointer (some ⟨ob,0,none⟩)),(7,.pointer (some ⟨ob,0,none⟩)),(8,.slice (some ⟨P.xb,P.xo,none⟩) n P.icap),(9,.int .i64 (n:Int)),(10,.func (.func 54) #[] #[.pointer (some ⟨bo,0,none⟩)]),(11,.func (.func 86) #[] #[.pointer (some ⟨s+1,0,none⟩),.pointer (some ⟨s+1+1,0,none⟩)])] (fun w'=>w'=W3) ?_ ?_
 ·refine wp_region_held (S:=fun w'=>Below w1.heap.size w1 w') (by kernel_rfl) ?_;simp only[List.size_toArray,List.length_cons,List.length_nil,Nat.reduceAdd,Array.replicate_succ,Array.replicate_zero,List.push_toArray,List.nil_append,List.cons_append];refine tV 0 5 (.pointer (some ⟨ob,0,none⟩)) 6 rfl hS0 ?_ (fun wx h=>by have y0:=(HBO.out wx h).cell;go_simp);refine tG 1 6 (.pointer (some ⟨ob,0,none⟩)) 5 rfl hS0 ?_;refine tG 2 7 (.pointer (some ⟨ob,0,none⟩)) 4 rfl hS0 ?_;refine tV 3 8 (.slice (some ⟨P.xb,P.xo,none⟩) n P.icap) 3 rfl hS0 ?_ (fun wx h=>by have y0:=HC0.out wx h;go_simp);refine tV 4 9 (.int .i64 (n:Int)) 2 rfl hS0 ?_ (fun wx h=>by go_simp);refine tV 5 10 (.func (.func 54) #[] #[.pointer (some ⟨bo,0,none⟩)]) 1 rfl hS0 ?_ (fun wx h=>by have y0:=(HBM.out wx h).cell;go_simp);refine oneW (R:=fun w'=>w'=W3) (i:=6) (d:=11) (f:=58) (args:= #[.int .i64 (n:Int),.func (.func 54) #[] #[.pointer (some ⟨bo,0,none⟩)]]) (v:= .func (.func 86) #[] #[.pointer (some ⟨s+1,0,none⟩),.pointer (some ⟨s+1+1,0,none⟩)]) (fuel:=0) rfl rfl (by kernel_rfl) (by kernel_rfl) (fun _=>by kernel_rfl) (HMK.out) (fun w' h=>by rw[h];exact HKS.out.bel) (fun wz hR6=>?_);simp only[List.setIfInBounds_toArray,List.set_cons_succ,List.set_cons_zero];refine wpAnyH_done (by kernel_rfl) ?_ _;exact⟨rfl,by kernel_rfl,hR6⟩
 ·intro w9 hF;simp only[setAll,List.setIfInBounds_toArray,List.set_cons_succ,List.set_cons_zero];obtain rfl:=hF.symm;clear HMK hS0 HB2 HS2 HC0 HBM;have hle3:w1.heap.size≤W3.heap.size:=HKS.out.bel.size
  gi_wp2
  refine Rl.range_law (P:=Tryz.prog) (gf:=86) (lb:= #[.pointer (some ⟨s+1,0,none⟩),.pointer (some ⟨s+1+1,0,none⟩)]) rfl (enters_of Tryz.func86 (by kernel_rfl) rfl) (enc:=encN) (xs:=ys) (n0:=w1.heap.size) (m0:=w1.heap.size) (T:=fun b=>b=s+1∨b=s+1+1)
   HITR.out (fun b hb=>by have:=HS3.out;omega) hle3 (Nat.le_refl _) (fun x F W T args h=>by rw[show args=_ from h];rfl)
   (fun k V TB=>Hid (KsI s li w1 W (fun _=>False) J k V TB)) (fun c k V TB=>Hid (KsX W (fun _=>False) Jx k c V TB))
   (fun k V TV V' TV' h hm=>by obtain⟨TJ,h1,h2⟩:=h.out;obtain⟨m1,m2⟩:=h2.mv hm;exact⟨_,HJ.out _ _ _ _ _ h1 m1,m2⟩)
   (fun c k V TV V' TV' h hm=>by obtain⟨TJ,h0,h1,h2⟩:=h.out;obtain⟨m1,m2⟩:=h2.mv hm;exact⟨_,h0,HJx.out _ _ _ _ _ h1 m1,m2⟩)
   ⟨TJ0,HJ3.out,HKS.out⟩ ?rnd ?done ?stop
  case rnd=>
   rintro m l' k x args F V T1 TB hxk henc ⟨Wf,Tf,HIf,hF9,hmF⟩ HI hTB hup hnc hlt;cases henc;have hxn:x < n:=HYN.out x (List.mem_of_getElem? hxk);have HXK:Hid (xs[k]? =some (keyOfF x (fOf l x))):=by
    show _=_;rw[HXY.out,List.getElem?_map,hxk]
    rfl
   clear HIf hF9 hmF hxk hTB hnc hup hlt HITR HKS HJ3
   gi_wp2
   refine⟨HI,Rl.Rv.refl _ _ _,fun W2' HI2 hbz=>?_⟩
   clear HI hbz;obtain⟨TJ,hj2,hm2⟩:=HI2.out
   have HM2:Hid (KsS s li w1 W (fun _=>False) TJ TB W2'):=hm2;have HJ2:Hid _:=hj2;have HFX:Hid (∀wx,Below w1.heap.size w1 wx→wx.cell? ⟨P.fb,P.fo+x * 4,none⟩=some (.int .i64 (fOf l x).run)∧wx.cell? ⟨P.fb,P.fo+x * 4+1,none⟩=some (.int .i64 (fOf l x).tries)∧wx.cell? ⟨P.fb,P.fo+x * 4+2,none⟩=some (.int .i64 (fOf l x).slips)∧wx.cell? ⟨P.fb,P.fo+x * 4+3,none⟩=some (.bool (fOf l x).un)):=fun wx hb=>HFA.out wx x hb hxn
   clear hj2 hm2 HI2;generalize fOf l x=f at HXK HFX;have HF:Hid (FaV f= .agg #[.int .i64 f.run,.int .i64 f.tries,.int .i64 f.slips,.bool f.un]):=rfl;have hxi:(x:Int) < (n:Int):=by omega
   have HKL:Hid (k < xs.length):=(List.getElem?_eq_some_iff.1 HXK.out).1
   gi_wp2
   refine regionR (S:=fun w'=>Boxed w' s 121 (.func (.yield li) #[] #[])∧Below w1.heap.size w1 w') (β:=Bool) (fun z=>[(13,.func (.yield li) #[] #[]),(14,.int .i64 (x:Nat)),(15,.pointer (some ⟨ob,0,none⟩)),(16,.pointer (some ⟨ob,0,none⟩)),(17,.pointer (some ⟨ob,1,none⟩)),(18,.slice (some ⟨P.fb,P.fo,none⟩) n P.lcap),(19,.int .i64 (x:Nat)),(20,.pointer (some ⟨P.fb,P.fo+x * 4,none⟩)),(21,FaV f),(22,.agg (keyC (keyOfF x f)).toArray),(23,.bool z),(24,.bool (!z))]) (fun z w'=>∃w4,Below W2'.heap.size W2' w4∧(z=true→J (k+1) w' TJ∧Rl.Rv w1.heap.size TJ w4 w')∧(z=false→Jx (k+1) w' TJ∧Rl.Rv w1.heap.size TJ w4 w')) (by kernel_rfl) ?_ ?_
   ·have hS0:Boxed W2'.drew s 121 (.func (.yield li) #[] #[])∧Below w1.heap.size w1 W2'.drew:=⟨HM2.out.bY,HM2.out.bel.drew⟩;simp only[List.size_toArray,List.length_cons,List.length_nil,Nat.reduceAdd,Array.replicate_succ,Array.replicate_zero,List.push_toArray,List.nil_append,List.cons_append];refine takeR (i:=0) (d:=13) (v:= .func (.yield li) #[] #[]) (fuel:=11) (by kernel_rfl) rfl rfl (by kernel_rfl) (by kernel_rfl) (by kernel_rfl) (fun _ _ _ h=>by cases h.1) (.inl ⟨by kernel_rfl,fun wx h=>by have y0:=h.1.cell;go_simp⟩) hS0 ?_;simp only[List.setIfInBounds_toArray,List.set_cons_succ,List.set_cons_zero];refine takeR (i:=1) (d:=14) (v:= .int .i64 (x:Nat)) (fuel:=10) (by kernel_rfl) rfl rfl (by kernel_rfl) (by kernel_rfl) (by kernel_rfl) (fun _ _ _ h=>by cases h.1) (.inl ⟨by kernel_rfl,fun _ _=>by kernel_rfl⟩) hS0 ?_;simp only[List.setIfInBounds_toArray,List.set_cons_succ,List.set_cons_zero];refine takeR (i:=2) (d:=15) (v:= .pointer (some ⟨ob,0,none⟩)) (fuel:=9) (by kernel_rfl) rfl rfl (by kernel_rfl) (by kernel_rfl) (by kernel_rfl) (fun _ _ _ h=>by cases h.1) (.inl ⟨by kernel_rfl,fun wx h=>by have y0:=(HBO.out wx h.2).cell;go_simp⟩) hS0 ?_;simp only[List.setIfInBounds_toArray,List.set_cons_succ,List.set_cons_zero];refine takeR (i:=3) (d:=16) (v:= .pointer (some ⟨ob,0,none⟩)) (fuel:=8) (by kernel_rfl) rfl rfl (by kernel_rfl) (by kernel_rfl) (by kernel_rfl) (fun _ _ _ h=>by cases h.1) (.inl ⟨by kernel_rfl,fun _ _=>by go_simp⟩) hS0 ?_;simp only[List.setIfInBounds_toArray,List.set_cons_succ,List.set_cons_zero];refine takeR (i:=4) (d:=17) (v:= .pointer (some ⟨ob,1,none⟩)) (fuel:=7) (by kernel_rfl) rfl rfl (by kernel_rfl) (by kernel_rfl) (by kernel_rfl) (fun _ _ _ h=>by cases h.1) (.inl ⟨by kernel_rfl,fun _ _=>by go_simp⟩) hS0 ?_;simp only[List.setIfInBounds_toArray,List.set_cons_succ,List.set_cons_zero];refine takeR (i:=5) (d:=18) (v:= .slice (some ⟨P.fb,P.fo,none⟩) n P.lcap) (fuel:=6) (by kernel_rfl) rfl rfl (by kernel_rfl) (by kernel_rfl) (by kernel_rfl) (fun _ _ _ h=>by cases h.1) (.inl ⟨by kernel_rfl,fun wx h=>by have y0:=HC1.out wx h.2;go_simp⟩) hS0 ?_;simp only[List.setIfInBounds_toArray,List.set_cons_succ,List.set_cons_zero];refine takeR (i:=6) (d:=19) (v:= .int .i64 (x:Nat)) (fuel:=5) (by kernel_rfl) rfl rfl (by kernel_rfl) (by kernel_rfl) (by kernel_rfl) (fun _ _ _ h=>by cases h.1) (.inl ⟨by kernel_rfl,fun _ _=>by kernel_rfl⟩) hS0 ?_;simp only[List.setIfInBounds_toArray,List.set_cons_succ,List.set_cons_zero];refine takeR (i:=7) (d:=20) (v:= .pointer (some ⟨P.fb,P.fo+x * 4,none⟩)) (fuel:=4) (by kernel_rfl) rfl rfl (by kernel_rfl) (by kernel_rfl) (by kernel_rfl) (fun _ _ _ h=>by cases h.1) (.inl ⟨by kernel_rfl,fun _ _=>by go_simp⟩) hS0 ?_;simp only[List.setIfInBounds_toArray,List.set_cons_succ,List.set_cons_zero];refine takeR (i:=8) (d:=21) (v:=FaV f) (fuel:=3) (by kernel_rfl) rfl rfl (by kernel_rfl) (by kernel_rfl) (by kernel_rfl) (fun _ _ _ h=>by cases h.1) (.inl ⟨by kernel_rfl,fun wx h=>by rw[HF.out];obtain⟨y0,y1,y2,y3⟩:=HFX.out wx h.2;go_simp⟩) hS0 ?_
    simp only[List.setIfInBounds_toArray,List.set_cons_succ,List.set_cons_zero];refine callR (R:=fun w4=>Below W2'.heap.size W2' w4) (i:=9) (d:=22) (f:=59) (args:= #[.int .i64 (x:Nat),FaV f]) (v:= .agg (keyC (keyOfF x f)).toArray) (fuel:=2) rfl (by intro c h;cases h) rfl (by kernel_rfl) (by kernel_rfl) (fun _=>by kernel_rfl) (Calls.mono (keyOf_any x f W2'.drew) (by rintro e w4 ⟨rfl,hb⟩;exact⟨rfl,(Below.refl _ _).drew.trans hb⟩)) (fun w4 h=>⟨(HM2.out.below h).bY,(HM2.out.below h).bel⟩) (fun w4 hb4=>?_);simp only[List.setIfInBounds_toArray,List.set_cons_succ,List.set_cons_zero];have HM4:Hid (KsS s li w1 W (fun _=>False) TJ TB w4):=HM2.out.below hb4;have hJ4:J k w4 TJ:=HJ.out _ _ _ _ _ HJ2.out (Rl.Mv.of_below hb4);obtain⟨fnn,tms,asg,bdy,hy,hR⟩:=HY.out k _ #[.agg (keyC (keyOfF x f)).toArray] w4.heap.size w4 TJ HXK.out rfl ⟨w4,TJ,hJ4,rfl,Rl.Mv.refl _ _⟩ hJ4 HM4.out.x.own (m - 1)
    refine yieldR (R:=fun t w'=>(t=true→J (k+1) w' TJ∧Rl.Rv w1.heap.size TJ w4 w')∧(t=false→Jx (k+1) w' TJ∧Rl.Rv w1.heap.size TJ w4 w')) (i:=10) (d:=23) (fuel:=1) rfl (by intro c h;cases h) rfl (by kernel_rfl) (by kernel_rfl) (by go_simp) hR (fun z w' h=>?_) (fun z w' h=>?_)
    ·have hrv:Rl.Rv w1.heap.size TJ w4 w':=by
      cases z with
      | true=>exact (h.1 rfl).2
      | false=>exact (h.2 rfl).2
     exact⟨(HM4.out.round hrv).bY,(HM4.out.round hrv).bel⟩
    have hS9:Boxed w' s 121 (.func (.yield li) #[] #[])∧Below w1.heap.size w1 w':=by
     have hrv:Rl.Rv w1.heap.size TJ w4 w':=by
      cases z with
      | true=>exact (h.1 rfl).2
      | false=>exact (h.2 rfl).2
     exact⟨(HM4.out.round hrv).bY,(HM4.out.round hrv).bel⟩
    simp only[List.setIfInBounds_toArray,List.set_cons_succ,List.set_cons_zero];refine takeR (i:=11) (d:=24) (v:= .bool (!z)) (fuel:=0) (by kernel_rfl) rfl rfl (by kernel_rfl) (by kernel_rfl) (by kernel_rfl) (fun _ _ _ h=>by cases h.1) (.inl ⟨by kernel_rfl,fun _ _=>by go_simp⟩) hS9 ?_;simp only[List.setIfInBounds_toArray,List.set_cons_succ,List.set_cons_zero];refine doneR (by kernel_rfl) ?_ _;exact⟨rfl,z,by kernel_rfl,w4,hb4,h⟩
   ·rintro z w5 ⟨w4,hb4,ht1,ht2⟩;simp only[setAll,List.setIfInBounds_toArray,List.set_cons_succ,List.set_cons_zero,Exit.then];have HM4:Hid (KsS s li w1 W (fun _=>False) TJ TB w4):=HM2.out.below hb4;have HR4:Hid (Rl.Rv w1.heap.size TB W2' w4):=Rl.Rv.of_below hb4 HM2.out.bel.size;cases z with
    | true=>
     obtain⟨hj5,hrv⟩:=ht1 rfl
     have HI5:Hid (KsI s li w1 W (fun _=>False) J (k+1) w5 TB):=⟨TJ,hj5,HM4.out.round hrv⟩;have HR5:Hid (Rl.Rv w1.heap.size TB W2' w5):=HR4.out.trans (hrv.mono HM4.out.x.sub);clear ht1 ht2 hj5 hrv HM4 HR4 hb4
     gi_wp2
     exact⟨HI5,HR5.out⟩
    | false=>
     obtain⟨hj5,hrv⟩:=ht2 rfl
     have HI5:Hid (KsX W (fun _=>False) Jx (k+1) .ret w5 TB):=⟨TJ,rfl,hj5,HM4.out.x.rv hrv.low0⟩;have HR5:Hid (Rl.Rv w1.heap.size TB W2' w5):=HR4.out.trans (hrv.mono HM4.out.x.sub);clear ht1 ht2 hj5 hrv HM4 HR4 hb4
     gi_wp2
     exact⟨HI5,HR5.out⟩
  case done=>
   rintro V T2 h hold hup hdef hts;obtain⟨TJ,h1,h2⟩:=h.out
   have HXS:Hid (XSt W (fun _=>False) TJ (fun _=>False) [W3.heap.size] V):=h2.x.leave hts hdef;have HJd:Hid (J xs.length V TJ):=by
    have hl:xs.length=ys.length:=by rw[HXY.out,List.length_map]
    show J _ _ _;rw[hl]
    exact h1
   clear h1 h2 h hold hup hdef hts
   gi_wp2
   show LeavesInM Fence.wide 0 Tryz.prog Tryz.f57 _ R ([W3.heap.size].map Rl.mark) .returning V;refine Rl.leaves_marks (T:=fun b=>TJ b∧¬False) (by simp) (fun A=>∃TA,J xs.length A TA∧(∀b,TJ b→TA b)∧(∀b,b < W.heap.size→(TA b↔False))∧∀b,TA b→b < A.heap.size) ?_ ?_ _ V HXS.out.mks ⟨TJ,HJd.out,fun _=>id,HXS.out.old,HXS.out.own⟩
   ·rintro A D hD ⟨TA,h1,h2,h3,h4⟩;exact⟨TA,HJ.out _ _ _ _ _ h1 (Rl.Mv.putObj _ _ (h2 D hD.1)),h2,h3,fun b hb=>by simpa [World.putObj] using h4 b hb⟩
   ·rintro A ⟨TA,h1,h2,h3,h4⟩;refine⟨_,results_none rfl _ _,?_⟩
    rw[HR.out]
    exact⟨_,TA,rfl,.inl h1,h3,h4⟩
  case stop=>
   rintro c k V T2 hk h hold hup hdef hts;obtain⟨TJ,rfl,h1,h2⟩:=h.out
   have HXS:Hid (XSt W (fun _=>False) TJ (fun _=>False) [W3.heap.size] V):=h2.leave hts hdef;have HJd:Hid (Jx (k+1) V TJ):=h1;have HKX:Hid (k < xs.length):=by
    have hl:xs.length=ys.length:=by rw[HXY.out,List.length_map]
    show k < _;rw[hl]
    exact hk
   clear h1 h2 h hold hup hdef hts hk
   gi_wp2
   show LeavesInM Fence.wide 0 Tryz.prog Tryz.f57 _ R ([W3.heap.size].map Rl.mark) .returning V;refine Rl.leaves_marks (T:=fun b=>TJ b∧¬False) (by simp) (fun A=>∃TA,Jx (k+1) A TA∧(∀b,TJ b→TA b)∧(∀b,b < W.heap.size→(TA b↔False))∧∀b,TA b→b < A.heap.size) ?_ ?_ _ V HXS.out.mks ⟨TJ,HJd.out,fun _=>id,HXS.out.old,HXS.out.own⟩
   ·rintro A D hD ⟨TA,h1,h2,h3,h4⟩;exact⟨TA,HJx.out _ _ _ _ _ h1 (Rl.Mv.putObj _ _ (h2 D hD.1)),h2,h3,fun b hb=>by simpa [World.putObj] using h4 b hb⟩
   ·rintro A ⟨TA,h1,h2,h3,h4⟩;refine⟨_,results_none rfl _ _,?_⟩
    rw[HR.out]
    exact⟨_,TA,rfl,.inr ⟨k,HKX.out,h1⟩,h3,h4⟩
end Go.Proofs.YtieoppabellafaaGreatDoor.Ts
namespace Go.Proofs.YtieoppabellafaaGreatDoor.Ts
open Go.RowKit Go.Shelf Fc St Sx Sa Rl
variable {its:List It}{l:List Fa}{P:OuP}{ob:Nat}{w:World}
theorem OK.keep {B:Nat}{w w':World}{v:Value}{K:List (Nat × Bool × Int)}(h:OK B w v K)(hk:∀b,v.ownBlock=some b→w'.heap[b]? =w.heap[b]?):OK B w' v K:=by
 refine⟨h.1,?_⟩
 rcases h.2 with hn | ⟨g,cap,cur,rfl,hB,hg,rest⟩
 ·exact .inl hn
 ·exact .inr ⟨g,cap,cur,rfl,hB,(hk g rfl).trans hg,rest⟩
structure ApS (w:World)(bx:Nat)(xs:List (Nat × Bool × Int))(k:Nat)(V:World)(TB:Nat→Prop):Prop where
 bel:Below w.heap.size w V
 own:∀b,TB b→w.heap.size≤b
 le:w.heap.size≤bx
 lt:bx < V.heap.size
 nb:¬TB bx
 ex:∃u,V.heap[bx]? =some (.cells #[u] 36 (0,0))∧OK w.heap.size V u (xs.take k)∧∀b,u.ownBlock=some b→¬TB b
theorem ApS.mv {w:World}{bx k:Nat}{xs:List (Nat × Bool × Int)}{V V':World}{TB TB':Nat→Prop}(h:ApS w bx xs k V TB)(hm:Rl.Mv TB V TB' V'):ApS w bx xs k V' TB':=by
 obtain⟨h1,h2,h3,h4,h5,u,h6,h7,h8⟩:=h
 refine⟨hm.below h1 (fun b hb ht=>by have:=h2 b ht;omega) h1.size,fun b hb=>?_,h3,Nat.lt_of_lt_of_le h4 hm.size,hm.no h4 h5,u,(hm.same bx h4 h5).trans h6,OK.keep h7 (fun b hb=>hm.same b (World.ownsRow.lt h7 b hb).2 (h8 b hb)),fun b hb=>hm.no (World.ownsRow.lt h7 b hb).2 (h8 b hb)⟩
 by_cases hlt:b < V.heap.size
 ·exact h2 b ((hm.old b hlt).1 hb)
 ·have:=h1.size;omega
attribute [local go_sem] Oper.semAt_some
theorem appendSeq_any {bo bm n:Nat}(h:Ou its l P ob w)(hn:its.length=n)(hbo:Boxed w bo 70 (.pointer (some ⟨ob,0,none⟩)))(hbm:Boxed w bm 84 (.func (.func 54) #[] #[.pointer (some ⟨bo,0,none⟩)])) :
  Calls Tryz.prog 53 #[.slice none 0 0,.func (.func 57) #[] #[.pointer (some ⟨bo,0,none⟩),.pointer (some ⟨bm,0,none⟩)]] w fun e w'=>Below w.heap.size w w'∧∃u,e= .returned u∧OK w.heap.size w' u (keysL its l):=by
 have hfew:=h.few;have HW1:Hid _:=bl1 w (.cells #[.slice none 0 0] 36);have rn:=Dg.row_new w #[.slice none 0 0] 36;have hs1:(w.alloc (.cells #[.slice none 0 0] 36)).heap.size=w.heap.size+1:=by simp
 have HITR:Hid _:=keys_itr h hn hbo hbm (w.alloc (.cells #[.slice none 0 0] 36)) (bl1 w _);have hKL:(keysL its l).length≤64:=by
  unfold keysL letL;rw[List.length_map]
  have:=List.length_filter_le (letB its l) (List.range its.length);rw[List.length_range] at this
  omega
 obtain⟨xs,HX⟩:∃xs,Hid (xs=keysL its l):=⟨_,rfl⟩
 rw[←HX.out] at HITR hKL ⊢
 have HKL:Hid _:=hKL;obtain⟨R,HR⟩:∃R:Ending→World→Prop,Hid (R=fun e w'=>Below w.heap.size w w'∧∃u,e= .returned u∧OK w.heap.size w' u xs):=⟨_,rfl⟩
 rw[←HR.out]
 have H0:Hid (ApS w w.heap.size xs 0 (w.alloc (.cells #[.slice none 0 0] 36)) (fun _=>False)):=⟨HW1.out,fun b hb=>hb.elim,Nat.le_refl _,by omega,id,_,rn,World.ownsRow_nil _ _ _ _,fun b hb=>by cases hb⟩;clear h hbo hbm hn HX rn hKL
 suffices key:CallsIn Fence.wide 0 Tryz.prog 53 #[.slice none 0 0,.func (.func 57) #[] #[.pointer (some ⟨bo,0,none⟩),.pointer (some ⟨bm,0,none⟩)]] w R from callsIn_wide.1 key
 refine callsIn_of_wp_marks Tryz.func53 rfl trivial ?_ rfl;simp only[Tryz.ntmps53,List.size_toArray,List.length_cons,List.length_nil,Nat.reduceAdd,Nat.reduceSub,Array.replicate_succ,Array.replicate_zero,List.push_toArray,List.append_toArray,List.nil_append,List.cons_append]
 gi_wp2
 obtain⟨s,hs⟩:∃s,w.heap.size=s:=⟨_,rfl⟩
 obtain⟨w1,hw1⟩:∃w1,w.alloc (.cells #[.slice none 0 0] 36)=w1:=⟨_,rfl⟩
 rw[hw1] at H0 HW1 HITR hs1 ⊢
 rw[hs] at H0 hs1 ⊢
 have HS:Hid (w.heap.size=s):=hs;have HS1:Hid (w1.heap.size=s+1):=hs1;clear hw1 hs hs1;refine Rl.range_law (P:=Tryz.prog) (gf:=57) (lb:= #[.pointer (some ⟨bo,0,none⟩),.pointer (some ⟨bm,0,none⟩)]) rfl (enters_of Tryz.func57 (by kernel_rfl) rfl) (enc:=encK) (xs:=xs) (n0:=w.heap.size) (m0:=w.heap.size) (T:=fun _=>False)
  HITR.out (fun b hb=>hb.elim) HW1.out.size (Nat.le_refl _) (fun x F W T args h=>by rw[show args=_ from h];rfl)
  (fun k V TB=>Hid (ApS w s xs k V TB)) (fun c k V TB=>False)
  (fun k V TV V' TV' h hm=>ApS.mv h.out hm) (fun c k V TV V' TV' h hm=>h)
  H0 ?rnd ?done ?stop
 case rnd=>
  rintro m l' k x args F V T1 TB hxk henc ⟨Wf,Tf,HIf,hF9,hmF⟩ HI hTB hup hnc hlt;cases henc;have HXK:Hid _:=hxk;clear HIf hF9 hmF hxk hTB hnc hlt HITR H0;have hb5:=bl1 V (.cells (keyC x).toArray 47);have rk:=Dg.row_new V (keyC x).toArray 47;obtain⟨xi,xu,xt⟩:=x
  unfold keyC at *;dsimp only at *
  gi_wp2
  refine⟨ApS.mv HI.out (Rl.Mv.of_below hb5),Rl.Rv.of_below hb5 HI.out.bel.size,fun W2 HI2 hbz=>?_⟩
  have k0:=hbz.cell ((Dg.cell_row rk 0).trans rfl);have k1:=hbz.cell ((Dg.cell_row rk 1).trans rfl);have k2:=hbz.cell ((Dg.cell_row rk 2).trans rfl);have HLT:Hid (∀b,TB b→b < W2.heap.size):=fun b hb=>by have h1:=hup b hb;have h2:=hbz.size;have h3:=hb5.size;show b < _;omega
  clear HI hb5 rk hbz hup;generalize V.heap.size=kb at *;obtain⟨q1,q2,q3,q4,q5,u,q6,q7,q8⟩:=HI2.out
  obtain⟨ua,uc,rfl⟩:=q7.slice
  have hkl:k < xs.length:=(List.getElem?_eq_some_iff.1 HXK.out).1;have htl:(xs.take k).length=k:=by rw[List.length_take];omega
  have ho:W2.ownsRow w.heap.size 47 3 (.slice ua k uc) k (rowsK (xs.take k)):=by have:=q7;unfold OK at this;rw[htl] at this;exact this
  rw[htl] at q6 q8
  have c0:=(Dg.cell_row q6 0).trans rfl;obtain⟨i0,hi0,hz0,hz1,hz2⟩:=info_parts info45
  have ho5:(W2.alloc (.cells #[.int .i64 (xi:Int),.bool xu,.int .i64 xt] 47)).ownsRow w.heap.size 47 3 (.slice ua k uc) k (rowsK (xs.take k)):=own_below ho ((Below.refl _ _).alloc (Nat.le_refl _) _);have h5b:=Dg.row_alloc q6 (.cells #[.int .i64 (xi:Int),.bool xu,.int .i64 xt] 47);have hnb:=own_other ho5 h5b (by decide);have HO5:Hid _:=ho5;have H5B:Hid _:=h5b;have HNB:Hid _:=hnb;have HQ8:Hid _:=q8;have HQS:Hid (w.heap.size≤W2.heap.size):=q1.size;have hsl:s≤W2.heap.size:=Nat.le_of_lt q4;have HQ1:Hid _:=q1;have HQ2:Hid _:=q2;have HQ5:Hid _:=q5;have HKB:Hid (k≤64):=by have:=HKL.out;show k≤64;omega
  have hcl:∀(j:Nat) (u:Value),([.int .i64 (xi:Int),.bool xu,.int .i64 xt]:List Value)[j]? =some u→(W2.alloc (.cells #[.int .i64 (xi:Int),.bool xu,.int .i64 xt] 47)).cell? ((⟨W2.heap.size,0,none⟩:Addr).add j)=some u:=fun j u hj=>by
   have hr:=Dg.row_new W2 #[.int .i64 (xi:Int),.bool xu,.int .i64 xt] 47;have h7:(⟨W2.heap.size,0,none⟩:Addr).add j=⟨W2.heap.size,j,none⟩:=by unfold Addr.add;split <;> simp_all
   rw[h7,Dg.cell_row hr j,←hj]
   simp
  have HCL:Hid _:=hcl;clear q7 q1 q2 q3 q5 q6 q8 ho ho5 h5b hnb hcl htl HI2
  gi_wp2_with (refine wpListIn_append_own_at _ rfl _ _ 36 rfl w.heap.size 47 i0 _ 3 24 Tryz.underlying36 hi0 hz0 hz1 hz2 rfl (by decide) _ k (rowsK (xs.take k)) rfl HO5.out ⟨W2.heap.size,0,none⟩ 1 1 [.int .i64 (xi:Int),.bool xu,.int .i64 xt] rfl rfl HCL.out (by intro u hu;simp only[List.mem_cons,List.not_mem_nil,or_false] at hu;rcases hu with rfl | rfl | rfl <;> rfl) (by unfold maxLen;have:=HKB.out;omega) (by have:=HKB.out;omega) (by have:=HQS.out;simp;omega) ?_;intro v7 w7 ho7 hg7 _ hat7;obtain⟨va,vc,rfl⟩:=own_slice ho7;have h57:=(hg7.block _ (Array.getElem?_eq_some_iff.1 H5B.out).1 HNB.out).trans H5B.out;have z7:=(Dg.cell_row h57 0).trans rfl;have f7:=Dg.froz_row h57 0)
  have hw:=HS.out;have hws:=HQS.out;have hg7s:=hg7.size;rw[World.size_alloc] at hg7s
  have hR:Rl.Rv w.heap.size TB W2 (w7.setCell ⟨s,0,none⟩ (.slice va (k+1) vc)):=
   ((Rl.Rv.of_below (bl1 W2 _) hws).trans (Rl.Rv.grown hg7 (fun r hr=>⟨(World.ownsRow.lt HO5.out r hr).1,HQ8.out r hr⟩) (by simp;omega))).trans (Rl.Rv.setCell w7 _ (by omega) HQ5.out)
  have h9:OK w.heap.size w7 (.slice va (k+1) vc) (xs.take (k+1)):=by
   unfold OK;have hl:(xs.take (k+1)).length=k+1:=by rw[List.length_take];omega
   rw[hl,List.take_add_one,HXK.out]
   show w7.ownsRow _ _ _ _ _ (rowsK (xs.take k ++ [(xi,xu,xt)]));rw[rowsK_snoc]
   exact ho7
  refine⟨⟨HQ1.out.trans hR.below,HQ2.out,by omega,by simp;omega,HQ5.out,_,Dg.row_set h57 0 _,OK.keep h9 (fun b hb=>Below.heap_setCell _ _ _ _ (fun e=>own_other ho7 h57 (by decide) (by rw[hb,e]))),fun b hb ht=>?_⟩,hR⟩
  rcases hat7 with h8 | h8
  ·exact HQ8.out b (h8.symm.trans hb) ht
  ·rw[h8,World.size_alloc] at hb
   have h1:=HLT.out b ht;have:=Option.some.inj hb;omega
 case done=>
  rintro V T2 h hold hup hdef hts;obtain⟨q1,q2,q3,q4,q5,u,q6,q7,q8⟩:=h.out
  rw[List.take_length] at q7
  obtain⟨ua,uc,rfl⟩:=q7.slice
  have c0:=(Dg.cell_row q6 0).trans rfl;have HV:Hid (Below w.heap.size w V∧OK w.heap.size V (.slice ua xs.length uc) xs∧V.heap[w1.heap.size]? =some (.deferred (some []))∧T2 w1.heap.size):=⟨q1,q7,hdef,hts⟩;have HQ2:Hid _:=q2;have HQ8:Hid _:=q8;clear q1 q2 q3 q4 q5 q6 q7 q8 h hold hup hdef hts
  gi_wp2
  show LeavesInM Fence.wide 0 Tryz.prog Tryz.f53 _ R ([w1.heap.size].map Rl.mark) .returning V;refine Rl.leaves_marks (T:=T2) (by simp) (fun A=>Below w.heap.size w A∧OK w.heap.size A (.slice ua xs.length uc) xs) ?_ ?_ _ V ⟨by simp,fun D hD=>by simp at hD;subst hD;exact⟨HV.out.2.2.2,HV.out.2.2.1⟩⟩ ⟨HV.out.1,HV.out.2.1⟩
  ·rintro A D hD ⟨k1,k2⟩;have hD2:=HQ2.out D hD;exact⟨⟨k1.os,k1.tape,k1.output,by simpa [World.putObj] using k1.size,fun b hb=>(World.putObj_heap_other (by omega)).trans (k1.block b hb)⟩,OK.keep k2 (fun b hb=>World.putObj_heap_other (fun e=>HQ8.out b hb (by rw[e];exact hD)))⟩
  ·rintro A ⟨k1,k2⟩;refine⟨_,results_tmp (t:=4) rfl _ _ _,?_⟩
   rw[HR.out]
   exact⟨k1,_,rfl,k2⟩
 case stop=>
  rintro c k V T2 hk h hold hup hdef hts;exact h.elim
theorem keys_any (h:Ou its l P ob w):Calls Tryz.prog 28 #[.pointer (some ⟨ob,0,none⟩)] w fun e w'=>Below w.heap.size w w'∧∃bo bm,e= .returned (.func (.func 57) #[] #[.pointer (some ⟨bo,0,none⟩),.pointer (some ⟨bm,0,none⟩)])∧Boxed w' bo 70 (.pointer (some ⟨ob,0,none⟩))∧Boxed w' bm 84 (.func (.func 54) #[] #[.pointer (some ⟨bo,0,none⟩)]):=by
 refine Calls.mono (keys_maker w) ?_;rintro e w' ⟨rfl,rfl⟩;have q0:=Boxed.new w 70 (.pointer (some ⟨ob,0,none⟩));have q1:=Boxed.new (w.alloc (.cells #[.pointer (some ⟨ob,0,none⟩)] 70)) 84 (.func (.func 54) #[] #[.pointer (some ⟨w.heap.size,0,none⟩)]);rw[World.size_alloc] at q1
 exact⟨(bl1 w _).alloc (by simp) _,w.heap.size,w.heap.size+1,rfl,q0.alloc _,q1⟩
theorem collect_any {bo bm:Nat}(h:Ou its l P ob w)(hbo:Boxed w bo 70 (.pointer (some ⟨ob,0,none⟩)))(hbm:Boxed w bm 84 (.func (.func 54) #[] #[.pointer (some ⟨bo,0,none⟩)])) :
  Calls Tryz.prog 27 #[.func (.func 57) #[] #[.pointer (some ⟨bo,0,none⟩),.pointer (some ⟨bm,0,none⟩)]] w fun e w'=>Below w.heap.size w w'∧∃a c,e= .returned (.slice a (mayL its l).length c)∧RK w' (.slice a (mayL its l).length c) (mayL its l):=by
 have H:Hid _:=appendSeq_any h rfl hbo hbm;rw[keysL_may h.chk] at H
 clear h hbo hbm
 go_enter Tryz.func27,Tryz.ntmps27
 go_wp2_with fail
 refine Calls.mono H.out ?_;rintro e w1 ⟨hb,u,rfl,hu⟩;obtain⟨a,c,rfl⟩:=hu.slice
 have HU:Hid _:=hu.rk;have HB:Hid _:=hb;clear hu hb H
 go_wp2_with fail
 go_ret
 exact⟨HB.out,a,c,rfl,HU.out⟩
def SeP (its:List It)(l:List Fa)(v:Value)(w:World):Prop:=if chkF its l=0 then ∃P ob,v= .pointer (some ⟨ob,0,none⟩)∧Ou its l P ob w else v= .pointer none
end Go.Proofs.YtieoppabellafaaGreatDoor.Ts
