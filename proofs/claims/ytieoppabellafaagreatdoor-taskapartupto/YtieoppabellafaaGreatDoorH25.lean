/- Texts of the seat, packed: Ah Ai Aj Kk. -/
import Derived.Test.YtieoppabellafaaGreatDoorH01
import Derived.Test.YtieoppabellafaaGreatDoorH24
import Derived.Test.YtieoppabellafaaGreatDoorH15
import Derived.Test.YtieoppabellafaaGreatDoorH13
import Derived.OwnWalkIn
set_option maxRecDepth 1000000
set_option maxHeartbeats 64000000
set_option linter.unusedVariables false
namespace Go.Proofs.YtieoppabellafaaGreatDoor.Ts
open Go.RowKit Go.Shelf Fc St Sx Sa Rl
variable {its:List It}{l:List Fa}{P:OuP}{ob:Nat}{w:World}
noncomputable def keysL (its:List It)(l:List Fa):List (Nat × Bool × Int):=(letL its l).map fun i=>keyOfF i (fOf l i)
theorem keysL_may (hc:chkF its l=0):keysL its l=mayL its l:=by
 unfold keysL letL mayL;rw[if_pos hc]
 have key:∀r:List Nat,(r.filter (letB its l)).map (fun i=>keyOfF i (fOf l i))=r.flatMap (mayK its l):=fun r=>by
  induction r with
  | nil=>rfl
  | cons i r ih=>
   rw[List.filter_cons,List.flatMap_cons,←ih]
   unfold letB;have e1:∀{q:Prop} (b:Bool),(b=true↔q)→(q→(fOf l i).run=0)→q→True:=fun _ _ _ _=>trivial
   by_cases hb:MB (plOf its) (afOf its) (fOf l) i
   ·have hu:¬MU (plOf its) (afOf its) (fOf l) i:=fun hu=>by have h1:=hb.2.1;have h2:=hu.2.1.1;rw[h1] at h2;exact absurd h2 (by decide)
    have q1:mbB its l i=true:=mbB_iff.2 hb;rw[q1,Bool.true_or,if_pos rfl,zZ]
    unfold mayK;rw[if_pos hb,if_neg hu]
    have:keyOfF i (fOf l i)=(i,false,0):=by unfold keyOfF;rw[if_pos hb.2.1]
    rw[this]
    rfl
   ·have q1:mbB its l i=false:=by
     cases h:mbB its l i with
     | false=>rfl
     | true=>exact absurd (mbB_iff.1 h) hb
    rw[q1,Bool.false_or]
    by_cases hu:MU (plOf its) (afOf its) (fOf l) i
    ·have q2:muB its l i=true:=muB_iff.2 hu;rw[q2,if_pos rfl,zZ]
     unfold mayK;rw[if_neg hb,if_pos hu]
     have:keyOfF i (fOf l i)=(i,true,(fOf l i).slips):=by unfold keyOfF;rw[if_neg (by rw[hu.2.1.1];decide)]
     rw[this]
     rfl
    ·have q2:muB its l i=false:=by
      cases h:muB its l i with
      | false=>rfl
      | true=>exact absurd (muB_iff.1 h) hu
     rw[q2,if_neg (by decide)]
     unfold mayK;rw[if_neg hb,if_neg hu]
     rfl
 exact key _
structure XSt (Ws:World)(T TJ TB:Nat→Prop)(Ds:List Nat)(W:World):Prop where
 mks:Rl.Marks (fun b=>TJ b∧¬TB b) W Ds
 sub:∀b,TB b→TJ b
 own:∀b,TJ b→b < W.heap.size
 old:∀b,b < Ws.heap.size→(TJ b↔T b)
 sz:Ws.heap.size≤W.heap.size
section
variable {Ws:World}{T TJ TB:Nat→Prop}{Ds:List Nat}{W W':World}
theorem XSt.mv (h:XSt Ws T TJ TB Ds W){TB':Nat→Prop}(hm:Rl.Mv TB W TB' W'):Rl.Mv TJ W (fun b=>TJ b∨TB' b) W'∧XSt Ws T (fun b=>TJ b∨TB' b) TB' Ds W':=by
 have hl:∀b,TB b→b < W.heap.size:=fun b hb=>h.own b (h.sub b hb)
 have hsz:=h.sz;refine⟨hm.wide h.sub hl,h.mks.mono (fun D hD hx=>⟨.inl hD.1,hm.no (h.own D hD.1) hD.2⟩) (fun D hD hx=>(hm.same D (h.own D hD.1) hD.2).trans hx),fun b hb=> .inr hb,fun b hb=>?_,fun b hb=>?_,zH h.sz hm.size⟩
 ·rcases hb with hb | hb
  ·exact jR (h.own b hb) hm.size
  ·exact hm.up hl b hb
 ·rw[←h.old b hb]
  exact⟨fun hx=>hx.elim id (fun hx=>h.sub b ((hm.old b (by omega)).1 hx)),.inl⟩
theorem XSt.rv (h:XSt Ws T TJ TB Ds W)(hr:Rl.Rv 0 TJ W W'):XSt Ws T TJ TB Ds W':=
 ⟨h.mks.mono (fun D hD _=>hD) (fun D hD hx=>(hr.keep D hD.1 (h.own D hD.1)).trans hx),h.sub,fun b hb=>jR (h.own b hb) hr.size,h.old,zH h.sz hr.size⟩
theorem XSt.leave (h:XSt Ws T TJ TB Ds W){D:Nat}(hT:TB D)(hD:W.heap[D]? =some (.deferred (some []))):XSt Ws T TJ (fun _=>False) (D :: Ds) W:=
 ⟨Rl.Marks.cons (h.mks.mono (fun D hD _=>⟨hD.1,id⟩) (fun _ _ hx=>hx)) ⟨h.sub D hT,id⟩ hD (fun hm=>(h.mks.2 D hm).1.2 hT),fun _ h=>h.elim,h.own,h.old,h.sz⟩
end
structure KsS (Y l:Nat)(w1 Ws:World)(T TJ TB:Nat→Prop)(W:World):Prop where
 bY:Boxed W Y 121 (.func (.yield l) #[] #[])
 tY:TJ Y
 nY:¬TB Y
 bel:Below w1.heap.size w1 W
 low:∀b,TJ b→w1.heap.size≤b
 x:XSt Ws T TJ TB [] W
section
variable {Y lq:Nat}{w1 Ws:World}{T TJ TB:Nat→Prop}{W W':World}
theorem KsS.mv (h:KsS Y lq w1 Ws T TJ TB W){TB':Nat→Prop}(hm:Rl.Mv TB W TB' W'):Rl.Mv TJ W (fun b=>TJ b∨TB' b) W'∧KsS Y lq w1 Ws T (fun b=>TJ b∨TB' b) TB' W':=by
 obtain⟨h1,h2⟩:=h.x.mv hm
 have hle:=h.bel.size;refine⟨h1,Rl.boxed_mv h.bY hm h.nY,.inl h.tY,hm.no (h.x.own _ h.tY) h.nY,hm.below h.bel (fun b hb ht=>by have:=h.low b (h.x.sub b ht);omega) hle,fun b hb=>?_,h2⟩
 rcases hb with hb | hb
 ·exact h.low b hb
 ·by_cases hlt:b < W.heap.size
  ·exact h.low b (h.x.sub b ((hm.old b hlt).1 hb))
  ·omega
theorem KsS.below (h:KsS Y lq w1 Ws T TJ TB W)(hb:Below W.heap.size W W'):KsS Y lq w1 Ws T TJ TB W':=
 ⟨(hb.block Y h.bY.lt).trans h.bY,h.tY,h.nY,h.bel.trans (hb.mono h.bel.size),h.low,h.x.rv (Rl.Rv.of_below hb (zE _))⟩
theorem KsS.round (h:KsS Y lq w1 Ws T TJ TB W)(hr:Rl.Rv w1.heap.size TJ W W'):KsS Y lq w1 Ws T TJ TB W':=
 ⟨(hr.keep Y h.tY h.bY.lt).trans h.bY,h.tY,h.nY,h.bel.trans hr.below,h.low,h.x.rv hr.low0⟩
end
def KsI (Y lq:Nat)(w1 Ws:World)(T:Nat→Prop)(J:Nat→World→(Nat→Prop)→Prop)(k:Nat)(W:World)(TB:Nat→Prop):Prop:=∃TJ,J k W TJ∧KsS Y lq w1 Ws T TJ TB W
def KsX (Ws:World)(T:Nat→Prop)(Jx:Nat→World→(Nat→Prop)→Prop)(k:Nat)(c:Code)(W:World)(TB:Nat→Prop):Prop:=∃TJ,c= .ret∧Jx k W TJ∧XSt Ws T TJ TB [] W
def encK (x:Nat × Bool × Int)(_:Nat)(_:World)(_:Nat→Prop)(args:Array Value):Prop:=args= #[.agg (keyC x).toArray]
attribute [local go_sem] Oper.semAt_some
theorem keys_itr {w1:World}{bo bm n:Nat}(h:Ou its l P ob w1)(hn:its.length=n)(hbo:Boxed w1 bo 70 (.pointer (some ⟨ob,0,none⟩)))(hbm:Boxed w1 bm 84 (.func (.func 54) #[] #[.pointer (some ⟨bo,0,none⟩)]))(w:World)(hbw:Below w1.heap.size w1 w) :
  Rl.Itr Tryz.prog 57 #[.pointer (some ⟨bo,0,none⟩),.pointer (some ⟨bm,0,none⟩)] encK (keysL its l) w1.heap.size w1.heap.size (fun _=>False) w:=by
 intro li J Jx W hW hJ hJx hY hJ0;have HJ:Hid _:=hJ;have HJx:Hid _:=hJx;have HY:Hid _:=hY;have hle:w1.heap.size≤W.heap.size:=zH hbw.size hW.size;have HB0:Hid (Below w1.heap.size w1 W):=hbw.trans (hW.mono hbw.size);have hfew:=h.few;rw[hn] at hfew
 have HOU:Hid (∀wx,Below w1.heap.size w1 wx→Ou its l P ob wx):=fun wx hb=>h.later hb
 have HBO:Hid (∀wx,Below w1.heap.size w1 wx→Boxed wx bo 70 (.pointer (some ⟨ob,0,none⟩))):=fun wx hb=>(hb.block bo hbo.lt).trans hbo
 have HBM:Hid (∀wx,Below w1.heap.size w1 wx→Boxed wx bm 84 (.func (.func 54) #[] #[.pointer (some ⟨bo,0,none⟩)])):=fun wx hb=>(hb.block bm hbm.lt).trans hbm
 have HC0:Hid (∀wx,Below w1.heap.size w1 wx→wx.cell? ⟨ob,0,none⟩=some (.slice (some ⟨P.xb,P.xo,none⟩) n P.icap)):=fun wx hb=>by have:=(h.later hb).c0;rw[hn] at this;exact this
 have HC1:Hid (∀wx,Below w1.heap.size w1 wx→wx.cell? ⟨ob,1,none⟩=some (.slice (some ⟨P.fb,P.fo,none⟩) n P.lcap)):=fun wx hb=>by have:=(h.later hb).c1;rw[hn] at this;exact this
 have HFA:Hid (∀wx i,Below w1.heap.size w1 wx→i < n→wx.cell? ⟨P.fb,P.fo+i * 4,none⟩=some (.int .i64 (fOf l i).run)∧wx.cell? ⟨P.fb,P.fo+i * 4+1,none⟩=some (.int .i64 (fOf l i).tries)∧wx.cell? ⟨P.fb,P.fo+i * 4+2,none⟩=some (.int .i64 (fOf l i).slips)∧wx.cell? ⟨P.fb,P.fo+i * 4+3,none⟩=some (.bool (fOf l i).un)):=fun wx i hb hi=>(h.later hb).fact (by omega)
 obtain⟨s,hs⟩:∃s,W.heap.size=s:=⟨_,rfl⟩
 obtain⟨W2,hW2⟩:∃W2,W.alloc (.cells #[.func (.yield li) #[] #[]] 121)=W2:=⟨_,rfl⟩
 have hs2:W2.heap.size=s+1:=by rw[←hW2];simp[hs]
 have hb2:Below W.heap.size W W2:=by rw[←hW2];exact bl1 _ _
 have q2:Boxed W2 s 121 (.func (.yield li) #[] #[]):=by rw[←hW2,←hs];exact Boxed.new W 121 _
 obtain⟨W3,hW3⟩:∃W3,(W2.drew.alloc (.cells #[.int .i64 (n:Int)] 3)).alloc (.cells #[.func (.func 54) #[] #[.pointer (some ⟨bo,0,none⟩)]] 84)=W3:=⟨_,rfl⟩
 have hs3:W3.heap.size=s+3:=by rw[←hW3];simp;omega
 have hb3:Below W.heap.size W W3:=by
  rw[←hW3]
  have h1:Below W2.heap.size W2 ((W2.drew.alloc (.cells #[.int .i64 (n:Int)] 3)).alloc (.cells #[.func (.func 54) #[] #[.pointer (some ⟨bo,0,none⟩)]] 84)):=(((Below.refl _ W2).drew).alloc (by simp) _).alloc (by simp) _;exact hb2.trans (h1.mono hb2.size)
 have q3:Boxed W3 (s+1) 3 (.int .i64 (n:Int)):=by
  rw[←hW3,←hs2]
  exact (Boxed.new W2.drew 3 (.int .i64 (n:Int))).alloc _
 have q4:Boxed W3 (s+1+1) 84 (.func (.func 54) #[] #[.pointer (some ⟨bo,0,none⟩)]):=by
  have:=Boxed.new (W2.drew.alloc (.cells #[.int .i64 (n:Int)] 3)) 84 (.func (.func 54) #[] #[.pointer (some ⟨bo,0,none⟩)]);rw[jV,show W2.drew.heap.size=s+1 from hs2,hW3] at this
  exact this
 have q5:Boxed W3 s 121 (.func (.yield li) #[] #[]):=by
  rw[←hW3]
  exact ((show Boxed W2.drew s 121 _ from q2).alloc _).alloc _
 have HITR:Hid _:=through_itr w1.heap.size (w1:=w1) (bc:=s+1) (bl:=s+1+1) h hn hbo (fun b=>b=s+1∨b=s+1+1) W3 (HB0.out.trans (hb3.mono HB0.out.size)) q3 q4 (.inl rfl) (.inr rfl) (fun b hb=>by omega);have HKS:Hid (KsS s li w1 W (fun _=>False) (fun b=>False∨(W.heap.size≤b∧b < W3.heap.size)) (fun b=>b=s+1∨b=s+1+1) W3):=by
  refine⟨q5,.inr (by omega),by omega,HB0.out.trans (hb3.mono HB0.out.size),fun b hb=>(show False∨(W.heap.size≤b∧b < W3.heap.size) from hb).elim False.elim (fun h=>by omega),⟨Rl.Marks.nil _ _,fun b hb=> .inr (by omega),fun b hb=>(show False∨(W.heap.size≤b∧b < W3.heap.size) from hb).elim False.elim (fun h=>by omega),fun b hb=>⟨fun h=>h.resolve_right (by omega),.inl⟩,hb3.size⟩⟩
 have HJ3:Hid (J 0 W3 (fun b=>False∨(W.heap.size≤b∧b < W3.heap.size))):=hJ _ _ _ _ _ hJ0 (Rl.Mv.of_below_own hb3);have HMK:Hid _:=through_maker (n:Int) (.func 54) #[.pointer (some ⟨bo,0,none⟩)] W2.drew;rw[show W2.drew.heap.size=s+1 from hs2,hW3] at HMK
 obtain⟨ys,HYS⟩:∃ys,Hid (ys=letL its l):=⟨_,rfl⟩
 rw[←HYS.out] at HITR
 obtain⟨xs,HX⟩:∃xs,Hid (xs=keysL its l):=⟨_,rfl⟩
 rw[←HX.out] at HY ⊢
 have HXY:Hid (xs=ys.map fun i=>keyOfF i (fOf l i)):=by show _=_;rw[HX.out,HYS.out];rfl
 have HYN:Hid (∀i∈ys,i < n):=fun i hi=>by
  rw[HYS.out] at hi
  have:=zB.1 (List.mem_filter.1 hi).1;omega
 obtain⟨R,HR⟩:∃R:Ending→World→Prop,Hid (R=fun e W2=>∃v T2,e= .returned v∧(J xs.length W2 T2∨∃k,k < xs.length∧Jx (k+1) W2 T2)∧(∀b,b < W.heap.size→(T2 b↔False))∧(∀b,T2 b→b < W2.heap.size)):=⟨_,rfl⟩
 rw[←HR.out]
 have HS3:Hid (W3.heap.size=s+3):=hs3;have HS2:Hid (W2.heap.size=s+1):=hs2;have HSW:Hid (W.heap.size=s):=hs;have HB2:Hid (Below w1.heap.size w1 W2):=HB0.out.trans (hb2.mono HB0.out.size);clear h hbo hbm hJ hJx hY hJ0 hW hbw hb2 hb3 q2 q3 q4 q5 hs2 hs3 hn hW3 HYS HX;generalize (fun b=>False∨(W.heap.size≤b∧b < W3.heap.size))=TJ0 at HKS HJ3;refine callsIn_of_wp_marks Tryz.func57 rfl trivial ?_ rfl;simp only[Tryz.ntmps57,jN,jM,jP,Nat.reduceAdd,Nat.reduceSub,jI,jJ,jO,zN,jL,jK]
 gi_wp2
 clear hW2 hs;refine wpIn_wide.2 ?_;have hS0:Below w1.heap.size w1 W2.drew:=HB2.out.drew;refine region_thenF [(5,.pointer (some ⟨ob,0,none⟩)),(6,.pointer (some ⟨ob,0,none⟩)),(7,.pointer (some ⟨ob,0,none⟩)),(8,.slice (some ⟨P.xb,P.xo,none⟩) n P.icap),(9,.int .i64 (n:Int)),(10,.func (.func 54) #[] #[.pointer (some ⟨bo,0,none⟩)]),(11,.func (.func 86) #[] #[.pointer (some ⟨s+1,0,none⟩),.pointer (some ⟨s+1+1,0,none⟩)])] (fun w'=>w'=W3) ?_ ?_
 ·refine wp_region_held (S:=fun w'=>Below w1.heap.size w1 w') (by kernel_rfl) ?_;simp only[jN,jM,jP,Nat.reduceAdd,jI,jJ,jO,jL,jK];refine tV 0 5 (.pointer (some ⟨ob,0,none⟩)) 6 rfl hS0 ?_ (fun wx h=>by have y0:=(HBO.out wx h).cell;go_simp);refine tG 1 6 (.pointer (some ⟨ob,0,none⟩)) 5 rfl hS0 ?_;refine tG 2 7 (.pointer (some ⟨ob,0,none⟩)) 4 rfl hS0 ?_;refine tV 3 8 (.slice (some ⟨P.xb,P.xo,none⟩) n P.icap) 3 rfl hS0 ?_ (fun wx h=>by have y0:=HC0.out wx h;go_simp);refine tV 4 9 (.int .i64 (n:Int)) 2 rfl hS0 ?_ (fun wx h=>by go_simp);refine tV 5 10 (.func (.func 54) #[] #[.pointer (some ⟨bo,0,none⟩)]) 1 rfl hS0 ?_ (fun wx h=>by have y0:=(HBM.out wx h).cell;go_simp);refine oneW (R:=fun w'=>w'=W3) (i:=6) (d:=11) (f:=58) (args:= #[.int .i64 (n:Int),.func (.func 54) #[] #[.pointer (some ⟨bo,0,none⟩)]]) (v:= .func (.func 86) #[] #[.pointer (some ⟨s+1,0,none⟩),.pointer (some ⟨s+1+1,0,none⟩)]) (fuel:=0) rfl rfl (by kernel_rfl) (by kernel_rfl) (fun _=>by kernel_rfl) (HMK.out) (fun w' h=>by rw[h];exact HKS.out.bel) (fun wz hR6=>?_);simp only[jA,jB,jC];refine wpAnyH_done (by kernel_rfl) ?_ _;exact⟨rfl,by kernel_rfl,hR6⟩
 ·intro w9 hF;simp only[setAll,jA,jB,jC];obtain rfl:=hF.symm;clear HMK hS0 HB2 HS2 HC0 HBM;have hle3:w1.heap.size≤W3.heap.size:=HKS.out.bel.size
  gi_wp2
  refine Rl.range_law (P:=Tryz.prog) (gf:=86) (lb:= #[.pointer (some ⟨s+1,0,none⟩),.pointer (some ⟨s+1+1,0,none⟩)]) rfl (enters_of Tryz.func86 (by kernel_rfl) rfl) (enc:=encN) (xs:=ys) (n0:=w1.heap.size) (m0:=w1.heap.size) (T:=fun b=>b=s+1∨b=s+1+1)
   HITR.out (fun b hb=>by have:=HS3.out;omega) hle3 (jG _) (fun x F W T args h=>by rw[show args=_ from h];rfl)
   (fun k V TB=>Hid (KsI s li w1 W (fun _=>False) J k V TB)) (fun c k V TB=>Hid (KsX W (fun _=>False) Jx k c V TB))
   (fun k V TV V' TV' h hm=>by obtain⟨TJ,h1,h2⟩:=h.out;obtain⟨m1,m2⟩:=h2.mv hm;exact⟨_,HJ.out _ _ _ _ _ h1 m1,m2⟩)
   (fun c k V TV V' TV' h hm=>by obtain⟨TJ,h0,h1,h2⟩:=h.out;obtain⟨m1,m2⟩:=h2.mv hm;exact⟨_,h0,HJx.out _ _ _ _ _ h1 m1,m2⟩)
   ⟨TJ0,HJ3.out,HKS.out⟩ ?rnd ?done ?stop
  case rnd=>
   rintro m l' k x args F V T1 TB hxk henc ⟨Wf,Tf,HIf,hF9,hmF⟩ HI hTB hup hnc hlt;cases henc;have hxn:x < n:=HYN.out x (jS hxk);have HXK:Hid (xs[k]? =some (keyOfF x (fOf l x))):=by
    show _=_;rw[HXY.out,zC,hxk]
    rfl
   clear HIf hF9 hmF hxk hTB hnc hup hlt HITR HKS HJ3
   gi_wp2
   refine⟨HI,Rl.Rv.refl _ _ _,fun W2' HI2 hbz=>?_⟩
   clear HI hbz;obtain⟨TJ,hj2,hm2⟩:=HI2.out
   have HM2:Hid (KsS s li w1 W (fun _=>False) TJ TB W2'):=hm2;have HJ2:Hid _:=hj2;have HFX:Hid (∀wx,Below w1.heap.size w1 wx→wx.cell? ⟨P.fb,P.fo+x * 4,none⟩=some (.int .i64 (fOf l x).run)∧wx.cell? ⟨P.fb,P.fo+x * 4+1,none⟩=some (.int .i64 (fOf l x).tries)∧wx.cell? ⟨P.fb,P.fo+x * 4+2,none⟩=some (.int .i64 (fOf l x).slips)∧wx.cell? ⟨P.fb,P.fo+x * 4+3,none⟩=some (.bool (fOf l x).un)):=fun wx hb=>HFA.out wx x hb hxn
   clear hj2 hm2 HI2;generalize fOf l x=f at HXK HFX;have HF:Hid (FaV f= .agg #[.int .i64 f.run,.int .i64 f.tries,.int .i64 f.slips,.bool f.un]):=rfl;have hxi:(x:Int) < (n:Int):=by omega
   have HKL:Hid (k < xs.length):=(jH.1 HXK.out).1
   gi_wp2
   refine regionR (S:=fun w'=>Boxed w' s 121 (.func (.yield li) #[] #[])∧Below w1.heap.size w1 w') (β:=Bool) (fun z=>[(13,.func (.yield li) #[] #[]),(14,.int .i64 (x:Nat)),(15,.pointer (some ⟨ob,0,none⟩)),(16,.pointer (some ⟨ob,0,none⟩)),(17,.pointer (some ⟨ob,1,none⟩)),(18,.slice (some ⟨P.fb,P.fo,none⟩) n P.lcap),(19,.int .i64 (x:Nat)),(20,.pointer (some ⟨P.fb,P.fo+x * 4,none⟩)),(21,FaV f),(22,.agg (keyC (keyOfF x f)).toArray),(23,.bool z),(24,.bool (!z))]) (fun z w'=>∃w4,Below W2'.heap.size W2' w4∧(z=true→J (k+1) w' TJ∧Rl.Rv w1.heap.size TJ w4 w')∧(z=false→Jx (k+1) w' TJ∧Rl.Rv w1.heap.size TJ w4 w')) (by kernel_rfl) ?_ ?_
   ·have hS0:Boxed W2'.drew s 121 (.func (.yield li) #[] #[])∧Below w1.heap.size w1 W2'.drew:=⟨HM2.out.bY,HM2.out.bel.drew⟩;simp only[jN,jM,jP,Nat.reduceAdd,jI,jJ,jO,jL,jK];refine takeR (i:=0) (d:=13) (v:= .func (.yield li) #[] #[]) (fuel:=11) (by kernel_rfl) rfl rfl (by kernel_rfl) (by kernel_rfl) (by kernel_rfl) (fun _ _ _ h=>by cases h.1) (.inl ⟨by kernel_rfl,fun wx h=>by have y0:=h.1.cell;go_simp⟩) hS0 ?_;simp only[jA,jB,jC];refine takeR (i:=1) (d:=14) (v:= .int .i64 (x:Nat)) (fuel:=10) (by kernel_rfl) rfl rfl (by kernel_rfl) (by kernel_rfl) (by kernel_rfl) (fun _ _ _ h=>by cases h.1) (.inl ⟨by kernel_rfl,fun _ _=>by kernel_rfl⟩) hS0 ?_;simp only[jA,jB,jC];refine takeR (i:=2) (d:=15) (v:= .pointer (some ⟨ob,0,none⟩)) (fuel:=9) (by kernel_rfl) rfl rfl (by kernel_rfl) (by kernel_rfl) (by kernel_rfl) (fun _ _ _ h=>by cases h.1) (.inl ⟨by kernel_rfl,fun wx h=>by have y0:=(HBO.out wx h.2).cell;go_simp⟩) hS0 ?_;simp only[jA,jB,jC];refine takeR (i:=3) (d:=16) (v:= .pointer (some ⟨ob,0,none⟩)) (fuel:=8) (by kernel_rfl) rfl rfl (by kernel_rfl) (by kernel_rfl) (by kernel_rfl) (fun _ _ _ h=>by cases h.1) (.inl ⟨by kernel_rfl,fun _ _=>by go_simp⟩) hS0 ?_;simp only[jA,jB,jC];refine takeR (i:=4) (d:=17) (v:= .pointer (some ⟨ob,1,none⟩)) (fuel:=7) (by kernel_rfl) rfl rfl (by kernel_rfl) (by kernel_rfl) (by kernel_rfl) (fun _ _ _ h=>by cases h.1) (.inl ⟨by kernel_rfl,fun _ _=>by go_simp⟩) hS0 ?_;simp only[jA,jB,jC];refine takeR (i:=5) (d:=18) (v:= .slice (some ⟨P.fb,P.fo,none⟩) n P.lcap) (fuel:=6) (by kernel_rfl) rfl rfl (by kernel_rfl) (by kernel_rfl) (by kernel_rfl) (fun _ _ _ h=>by cases h.1) (.inl ⟨by kernel_rfl,fun wx h=>by have y0:=HC1.out wx h.2;go_simp⟩) hS0 ?_;simp only[jA,jB,jC];refine takeR (i:=6) (d:=19) (v:= .int .i64 (x:Nat)) (fuel:=5) (by kernel_rfl) rfl rfl (by kernel_rfl) (by kernel_rfl) (by kernel_rfl) (fun _ _ _ h=>by cases h.1) (.inl ⟨by kernel_rfl,fun _ _=>by kernel_rfl⟩) hS0 ?_;simp only[jA,jB,jC];refine takeR (i:=7) (d:=20) (v:= .pointer (some ⟨P.fb,P.fo+x * 4,none⟩)) (fuel:=4) (by kernel_rfl) rfl rfl (by kernel_rfl) (by kernel_rfl) (by kernel_rfl) (fun _ _ _ h=>by cases h.1) (.inl ⟨by kernel_rfl,fun _ _=>by go_simp⟩) hS0 ?_;simp only[jA,jB,jC];refine takeR (i:=8) (d:=21) (v:=FaV f) (fuel:=3) (by kernel_rfl) rfl rfl (by kernel_rfl) (by kernel_rfl) (by kernel_rfl) (fun _ _ _ h=>by cases h.1) (.inl ⟨by kernel_rfl,fun wx h=>by rw[HF.out];obtain⟨y0,y1,y2,y3⟩:=HFX.out wx h.2;go_simp⟩) hS0 ?_
    simp only[jA,jB,jC];refine callR (R:=fun w4=>Below W2'.heap.size W2' w4) (i:=9) (d:=22) (f:=59) (args:= #[.int .i64 (x:Nat),FaV f]) (v:= .agg (keyC (keyOfF x f)).toArray) (fuel:=2) rfl (by intro c h;cases h) rfl (by kernel_rfl) (by kernel_rfl) (fun _=>by kernel_rfl) (Calls.mono (keyOf_any x f W2'.drew) (by rintro e w4 ⟨rfl,hb⟩;exact⟨rfl,(Below.refl _ _).drew.trans hb⟩)) (fun w4 h=>⟨(HM2.out.below h).bY,(HM2.out.below h).bel⟩) (fun w4 hb4=>?_);simp only[jA,jB,jC];have HM4:Hid (KsS s li w1 W (fun _=>False) TJ TB w4):=HM2.out.below hb4;have hJ4:J k w4 TJ:=HJ.out _ _ _ _ _ HJ2.out (Rl.Mv.of_below hb4);obtain⟨fnn,tms,asg,bdy,hy,hR⟩:=HY.out k _ #[.agg (keyC (keyOfF x f)).toArray] w4.heap.size w4 TJ HXK.out rfl ⟨w4,TJ,hJ4,rfl,Rl.Mv.refl _ _⟩ hJ4 HM4.out.x.own (m - 1)
    refine yieldR (R:=fun t w'=>(t=true→J (k+1) w' TJ∧Rl.Rv w1.heap.size TJ w4 w')∧(t=false→Jx (k+1) w' TJ∧Rl.Rv w1.heap.size TJ w4 w')) (i:=10) (d:=23) (fuel:=1) rfl (by intro c h;cases h) rfl (by kernel_rfl) (by kernel_rfl) (by go_simp) hR (fun z w' h=>?_) (fun z w' h=>?_)
    ·have hrv:Rl.Rv w1.heap.size TJ w4 w':=by
      cases z with
      | true=>exact (h.1 rfl).2
      | false=>exact (h.2 rfl).2
     exact⟨(HM4.out.round hrv).bY,(HM4.out.round hrv).bel⟩
    have hS9:Boxed w' s 121 (.func (.yield li) #[] #[])∧Below w1.heap.size w1 w':=by
     have hrv:Rl.Rv w1.heap.size TJ w4 w':=by
      cases z with
      | true=>exact (h.1 rfl).2
      | false=>exact (h.2 rfl).2
     exact⟨(HM4.out.round hrv).bY,(HM4.out.round hrv).bel⟩
    simp only[jA,jB,jC];refine takeR (i:=11) (d:=24) (v:= .bool (!z)) (fuel:=0) (by kernel_rfl) rfl rfl (by kernel_rfl) (by kernel_rfl) (by kernel_rfl) (fun _ _ _ h=>by cases h.1) (.inl ⟨by kernel_rfl,fun _ _=>by go_simp⟩) hS9 ?_;simp only[jA,jB,jC];refine doneR (by kernel_rfl) ?_ _;exact⟨rfl,z,by kernel_rfl,w4,hb4,h⟩
   ·rintro z w5 ⟨w4,hb4,ht1,ht2⟩;simp only[setAll,jA,jB,jC,Exit.then];have HM4:Hid (KsS s li w1 W (fun _=>False) TJ TB w4):=HM2.out.below hb4;have HR4:Hid (Rl.Rv w1.heap.size TB W2' w4):=Rl.Rv.of_below hb4 HM2.out.bel.size;cases z with
    | true=>
     obtain⟨hj5,hrv⟩:=ht1 rfl
     have HI5:Hid (KsI s li w1 W (fun _=>False) J (k+1) w5 TB):=⟨TJ,hj5,HM4.out.round hrv⟩;have HR5:Hid (Rl.Rv w1.heap.size TB W2' w5):=HR4.out.trans (hrv.mono HM4.out.x.sub);clear ht1 ht2 hj5 hrv HM4 HR4 hb4
     gi_wp2
     exact⟨HI5,HR5.out⟩
    | false=>
     obtain⟨hj5,hrv⟩:=ht2 rfl
     have HI5:Hid (KsX W (fun _=>False) Jx (k+1) .ret w5 TB):=⟨TJ,rfl,hj5,HM4.out.x.rv hrv.low0⟩;have HR5:Hid (Rl.Rv w1.heap.size TB W2' w5):=HR4.out.trans (hrv.mono HM4.out.x.sub);clear ht1 ht2 hj5 hrv HM4 HR4 hb4
     gi_wp2
     exact⟨HI5,HR5.out⟩
  case done=>
   rintro V T2 h hold hup hdef hts;obtain⟨TJ,h1,h2⟩:=h.out
   have HXS:Hid (XSt W (fun _=>False) TJ (fun _=>False) [W3.heap.size] V):=h2.x.leave hts hdef;have HJd:Hid (J xs.length V TJ):=by
    have hl:xs.length=ys.length:=by rw[HXY.out,zG]
    show J _ _ _;rw[hl]
    exact h1
   clear h1 h2 h hold hup hdef hts
   gi_wp2
   show LeavesInM Fence.wide 0 Tryz.prog Tryz.f57 _ R ([W3.heap.size].map Rl.mark) .returning V;refine Rl.leaves_marks (T:=fun b=>TJ b∧¬False) (by simp) (fun A=>∃TA,J xs.length A TA∧(∀b,TJ b→TA b)∧(∀b,b < W.heap.size→(TA b↔False))∧∀b,TA b→b < A.heap.size) ?_ ?_ _ V HXS.out.mks ⟨TJ,HJd.out,fun _=>id,HXS.out.old,HXS.out.own⟩
   ·rintro A D hD ⟨TA,h1,h2,h3,h4⟩;exact⟨TA,HJ.out _ _ _ _ _ h1 (Rl.Mv.putObj _ _ (h2 D hD.1)),h2,h3,fun b hb=>by simpa [World.putObj] using h4 b hb⟩
   ·rintro A ⟨TA,h1,h2,h3,h4⟩;refine⟨_,results_none rfl _ _,?_⟩
    rw[HR.out]
    exact⟨_,TA,rfl,.inl h1,h3,h4⟩
  case stop=>
   rintro c k V T2 hk h hold hup hdef hts;obtain⟨TJ,rfl,h1,h2⟩:=h.out
   have HXS:Hid (XSt W (fun _=>False) TJ (fun _=>False) [W3.heap.size] V):=h2.leave hts hdef;have HJd:Hid (Jx (k+1) V TJ):=h1;have HKX:Hid (k < xs.length):=by
    have hl:xs.length=ys.length:=by rw[HXY.out,zG]
    show k < _;rw[hl]
    exact hk
   clear h1 h2 h hold hup hdef hts hk
   gi_wp2
   show LeavesInM Fence.wide 0 Tryz.prog Tryz.f57 _ R ([W3.heap.size].map Rl.mark) .returning V;refine Rl.leaves_marks (T:=fun b=>TJ b∧¬False) (by simp) (fun A=>∃TA,Jx (k+1) A TA∧(∀b,TJ b→TA b)∧(∀b,b < W.heap.size→(TA b↔False))∧∀b,TA b→b < A.heap.size) ?_ ?_ _ V HXS.out.mks ⟨TJ,HJd.out,fun _=>id,HXS.out.old,HXS.out.own⟩
   ·rintro A D hD ⟨TA,h1,h2,h3,h4⟩;exact⟨TA,HJx.out _ _ _ _ _ h1 (Rl.Mv.putObj _ _ (h2 D hD.1)),h2,h3,fun b hb=>by simpa [World.putObj] using h4 b hb⟩
   ·rintro A ⟨TA,h1,h2,h3,h4⟩;refine⟨_,results_none rfl _ _,?_⟩
    rw[HR.out]
    exact⟨_,TA,rfl,.inr ⟨k,HKX.out,h1⟩,h3,h4⟩
end Go.Proofs.YtieoppabellafaaGreatDoor.Ts
namespace Go.Proofs.YtieoppabellafaaGreatDoor.Ts
open Go.RowKit Go.Shelf Fc St Sx Sa Rl
variable {its:List It}{l:List Fa}{P:OuP}{ob:Nat}{w:World}
theorem OK.keep {B:Nat}{w w':World}{v:Value}{K:List (Nat × Bool × Int)}(h:OK B w v K)(hk:∀b,v.ownBlock=some b→w'.heap[b]? =w.heap[b]?):OK B w' v K:=by
 refine⟨h.1,?_⟩
 rcases h.2 with hn | ⟨g,cap,cur,rfl,hB,hg,rest⟩
 ·exact .inl hn
 ·exact .inr ⟨g,cap,cur,rfl,hB,(hk g rfl).trans hg,rest⟩
structure ApS (w:World)(bx:Nat)(xs:List (Nat × Bool × Int))(k:Nat)(V:World)(TB:Nat→Prop):Prop where
 bel:Below w.heap.size w V
 own:∀b,TB b→w.heap.size≤b
 le:w.heap.size≤bx
 lt:bx < V.heap.size
 nb:¬TB bx
 ex:∃u,V.heap[bx]? =some (.cells #[u] 36 (0,0))∧OK w.heap.size V u (xs.take k)∧∀b,u.ownBlock=some b→¬TB b
theorem ApS.mv {w:World}{bx k:Nat}{xs:List (Nat × Bool × Int)}{V V':World}{TB TB':Nat→Prop}(h:ApS w bx xs k V TB)(hm:Rl.Mv TB V TB' V'):ApS w bx xs k V' TB':=by
 obtain⟨h1,h2,h3,h4,h5,u,h6,h7,h8⟩:=h
 refine⟨hm.below h1 (fun b hb ht=>by have:=h2 b ht;omega) h1.size,fun b hb=>?_,h3,jR h4 hm.size,hm.no h4 h5,u,(hm.same bx h4 h5).trans h6,OK.keep h7 (fun b hb=>hm.same b (World.ownsRow.lt h7 b hb).2 (h8 b hb)),fun b hb=>hm.no (World.ownsRow.lt h7 b hb).2 (h8 b hb)⟩
 by_cases hlt:b < V.heap.size
 ·exact h2 b ((hm.old b hlt).1 hb)
 ·have:=h1.size;omega
attribute [local go_sem] Oper.semAt_some
theorem appendSeq_any {bo bm n:Nat}(h:Ou its l P ob w)(hn:its.length=n)(hbo:Boxed w bo 70 (.pointer (some ⟨ob,0,none⟩)))(hbm:Boxed w bm 84 (.func (.func 54) #[] #[.pointer (some ⟨bo,0,none⟩)])) :
  Calls Tryz.prog 53 #[.slice none 0 0,.func (.func 57) #[] #[.pointer (some ⟨bo,0,none⟩),.pointer (some ⟨bm,0,none⟩)]] w fun e w'=>Below w.heap.size w w'∧∃u,e= .returned u∧OK w.heap.size w' u (keysL its l):=by
 have hfew:=h.few;have HW1:Hid _:=bl1 w (.cells #[.slice none 0 0] 36);have rn:=Dg.row_new w #[.slice none 0 0] 36;have hs1:(w.alloc (.cells #[.slice none 0 0] 36)).heap.size=w.heap.size+1:=by simp
 have HITR:Hid _:=keys_itr h hn hbo hbm (w.alloc (.cells #[.slice none 0 0] 36)) (bl1 w _);have hKL:(keysL its l).length≤64:=by
  unfold keysL letL;rw[zG]
  have:=List.length_filter_le (letB its l) (List.range its.length);rw[List.length_range] at this
  omega
 obtain⟨xs,HX⟩:∃xs,Hid (xs=keysL its l):=⟨_,rfl⟩
 rw[←HX.out] at HITR hKL ⊢
 have HKL:Hid _:=hKL;obtain⟨R,HR⟩:∃R:Ending→World→Prop,Hid (R=fun e w'=>Below w.heap.size w w'∧∃u,e= .returned u∧OK w.heap.size w' u xs):=⟨_,rfl⟩
 rw[←HR.out]
 have H0:Hid (ApS w w.heap.size xs 0 (w.alloc (.cells #[.slice none 0 0] 36)) (fun _=>False)):=⟨HW1.out,fun b hb=>hb.elim,jG _,by omega,id,_,rn,zT _ _ _ _,fun b hb=>by cases hb⟩;clear h hbo hbm hn HX rn hKL
 suffices key:CallsIn Fence.wide 0 Tryz.prog 53 #[.slice none 0 0,.func (.func 57) #[] #[.pointer (some ⟨bo,0,none⟩),.pointer (some ⟨bm,0,none⟩)]] w R from callsIn_wide.1 key
 refine callsIn_of_wp_marks Tryz.func53 rfl trivial ?_ rfl;simp only[Tryz.ntmps53,jN,jM,jP,Nat.reduceAdd,Nat.reduceSub,jI,jJ,jO,zN,jL,jK]
 gi_wp2
 obtain⟨s,hs⟩:∃s,w.heap.size=s:=⟨_,rfl⟩
 obtain⟨w1,hw1⟩:∃w1,w.alloc (.cells #[.slice none 0 0] 36)=w1:=⟨_,rfl⟩
 rw[hw1] at H0 HW1 HITR hs1 ⊢
 rw[hs] at H0 hs1 ⊢
 have HS:Hid (w.heap.size=s):=hs;have HS1:Hid (w1.heap.size=s+1):=hs1;clear hw1 hs hs1;refine Rl.range_law (P:=Tryz.prog) (gf:=57) (lb:= #[.pointer (some ⟨bo,0,none⟩),.pointer (some ⟨bm,0,none⟩)]) rfl (enters_of Tryz.func57 (by kernel_rfl) rfl) (enc:=encK) (xs:=xs) (n0:=w.heap.size) (m0:=w.heap.size) (T:=fun _=>False)
  HITR.out (fun b hb=>hb.elim) HW1.out.size (jG _) (fun x F W T args h=>by rw[show args=_ from h];rfl)
  (fun k V TB=>Hid (ApS w s xs k V TB)) (fun c k V TB=>False)
  (fun k V TV V' TV' h hm=>ApS.mv h.out hm) (fun c k V TV V' TV' h hm=>h)
  H0 ?rnd ?done ?stop
 case rnd=>
  rintro m l' k x args F V T1 TB hxk henc ⟨Wf,Tf,HIf,hF9,hmF⟩ HI hTB hup hnc hlt;cases henc;have HXK:Hid _:=hxk;clear HIf hF9 hmF hxk hTB hnc hlt HITR H0;have hb5:=bl1 V (.cells (keyC x).toArray 47);have rk:=Dg.row_new V (keyC x).toArray 47;obtain⟨xi,xu,xt⟩:=x
  unfold keyC at *;dsimp only at *
  gi_wp2
  refine⟨ApS.mv HI.out (Rl.Mv.of_below hb5),Rl.Rv.of_below hb5 HI.out.bel.size,fun W2 HI2 hbz=>?_⟩
  have k0:=hbz.cell ((Dg.cell_row rk 0).trans rfl);have k1:=hbz.cell ((Dg.cell_row rk 1).trans rfl);have k2:=hbz.cell ((Dg.cell_row rk 2).trans rfl);have HLT:Hid (∀b,TB b→b < W2.heap.size):=fun b hb=>by have h1:=hup b hb;have h2:=hbz.size;have h3:=hb5.size;show b < _;omega
  clear HI hb5 rk hbz hup;generalize V.heap.size=kb at *;obtain⟨q1,q2,q3,q4,q5,u,q6,q7,q8⟩:=HI2.out
  obtain⟨ua,uc,rfl⟩:=q7.slice
  have hkl:k < xs.length:=(jH.1 HXK.out).1;have htl:(xs.take k).length=k:=by rw[List.length_take];omega
  have ho:W2.ownsRow w.heap.size 47 3 (.slice ua k uc) k (rowsK (xs.take k)):=by have:=q7;unfold OK at this;rw[htl] at this;exact this
  rw[htl] at q6 q8
  have c0:=(Dg.cell_row q6 0).trans rfl;obtain⟨i0,hi0,hz0,hz1,hz2⟩:=info_parts info45
  have ho5:(W2.alloc (.cells #[.int .i64 (xi:Int),.bool xu,.int .i64 xt] 47)).ownsRow w.heap.size 47 3 (.slice ua k uc) k (rowsK (xs.take k)):=own_below ho ((Below.refl _ _).alloc (jG _) _);have h5b:=Dg.row_alloc q6 (.cells #[.int .i64 (xi:Int),.bool xu,.int .i64 xt] 47);have hnb:=own_other ho5 h5b (by decide);have HO5:Hid _:=ho5;have H5B:Hid _:=h5b;have HNB:Hid _:=hnb;have HQ8:Hid _:=q8;have HQS:Hid (w.heap.size≤W2.heap.size):=q1.size;have hsl:s≤W2.heap.size:=Nat.le_of_lt q4;have HQ1:Hid _:=q1;have HQ2:Hid _:=q2;have HQ5:Hid _:=q5;have HKB:Hid (k≤64):=by have:=HKL.out;show k≤64;omega
  have hcl:∀(j:Nat) (u:Value),([.int .i64 (xi:Int),.bool xu,.int .i64 xt]:List Value)[j]? =some u→(W2.alloc (.cells #[.int .i64 (xi:Int),.bool xu,.int .i64 xt] 47)).cell? ((⟨W2.heap.size,0,none⟩:Addr).add j)=some u:=fun j u hj=>by
   have hr:=Dg.row_new W2 #[.int .i64 (xi:Int),.bool xu,.int .i64 xt] 47;have h7:(⟨W2.heap.size,0,none⟩:Addr).add j=⟨W2.heap.size,j,none⟩:=by unfold Addr.add;split <;> simp_all
   rw[h7,Dg.cell_row hr j,←hj]
   simp
  have HCL:Hid _:=hcl;clear q7 q1 q2 q3 q5 q6 q8 ho ho5 h5b hnb hcl htl HI2
  gi_wp2_with (refine wpListIn_append_own_at _ rfl _ _ 36 rfl w.heap.size 47 i0 _ 3 24 Tryz.underlying36 hi0 hz0 hz1 hz2 rfl (by decide) _ k (rowsK (xs.take k)) rfl HO5.out ⟨W2.heap.size,0,none⟩ 1 1 [.int .i64 (xi:Int),.bool xu,.int .i64 xt] rfl rfl HCL.out (by intro u hu;simp only[zJ,List.not_mem_nil,or_false] at hu;rcases hu with rfl | rfl | rfl <;> rfl) (by unfold maxLen;have:=HKB.out;omega) (by have:=HKB.out;omega) (by have:=HQS.out;simp;omega) ?_;intro v7 w7 ho7 hg7 _ hat7;obtain⟨va,vc,rfl⟩:=own_slice ho7;have h57:=(hg7.block _ (jD.1 H5B.out).1 HNB.out).trans H5B.out;have z7:=(Dg.cell_row h57 0).trans rfl;have f7:=Dg.froz_row h57 0)
  have hw:=HS.out;have hws:=HQS.out;have hg7s:=hg7.size;rw[jV] at hg7s
  have hR:Rl.Rv w.heap.size TB W2 (w7.setCell ⟨s,0,none⟩ (.slice va (k+1) vc)):=
   ((Rl.Rv.of_below (bl1 W2 _) hws).trans (Rl.Rv.grown hg7 (fun r hr=>⟨(World.ownsRow.lt HO5.out r hr).1,HQ8.out r hr⟩) (by simp;omega))).trans (Rl.Rv.setCell w7 _ (by omega) HQ5.out)
  have h9:OK w.heap.size w7 (.slice va (k+1) vc) (xs.take (k+1)):=by
   unfold OK;have hl:(xs.take (k+1)).length=k+1:=by rw[List.length_take];omega
   rw[hl,zL,HXK.out]
   show w7.ownsRow _ _ _ _ _ (rowsK (xs.take k ++ [(xi,xu,xt)]));rw[rowsK_snoc]
   exact ho7
  refine⟨⟨HQ1.out.trans hR.below,HQ2.out,by omega,by simp;omega,HQ5.out,_,Dg.row_set h57 0 _,OK.keep h9 (fun b hb=>jW _ _ _ _ (fun e=>own_other ho7 h57 (by decide) (by rw[hb,e]))),fun b hb ht=>?_⟩,hR⟩
  rcases hat7 with h8 | h8
  ·exact HQ8.out b (h8.symm.trans hb) ht
  ·rw[h8,jV] at hb
   have h1:=HLT.out b ht;have:=Option.some.inj hb;omega
 case done=>
  rintro V T2 h hold hup hdef hts;obtain⟨q1,q2,q3,q4,q5,u,q6,q7,q8⟩:=h.out
  rw[List.take_length] at q7
  obtain⟨ua,uc,rfl⟩:=q7.slice
  have c0:=(Dg.cell_row q6 0).trans rfl;have HV:Hid (Below w.heap.size w V∧OK w.heap.size V (.slice ua xs.length uc) xs∧V.heap[w1.heap.size]? =some (.deferred (some []))∧T2 w1.heap.size):=⟨q1,q7,hdef,hts⟩;have HQ2:Hid _:=q2;have HQ8:Hid _:=q8;clear q1 q2 q3 q4 q5 q6 q7 q8 h hold hup hdef hts
  gi_wp2
  show LeavesInM Fence.wide 0 Tryz.prog Tryz.f53 _ R ([w1.heap.size].map Rl.mark) .returning V;refine Rl.leaves_marks (T:=T2) (by simp) (fun A=>Below w.heap.size w A∧OK w.heap.size A (.slice ua xs.length uc) xs) ?_ ?_ _ V ⟨by simp,fun D hD=>by simp at hD;subst hD;exact⟨HV.out.2.2.2,HV.out.2.2.1⟩⟩ ⟨HV.out.1,HV.out.2.1⟩
  ·rintro A D hD ⟨k1,k2⟩;have hD2:=HQ2.out D hD;exact⟨⟨k1.os,k1.tape,k1.output,by simpa [World.putObj] using k1.size,fun b hb=>(jQ (by omega)).trans (k1.block b hb)⟩,OK.keep k2 (fun b hb=>jQ (fun e=>HQ8.out b hb (by rw[e];exact hD)))⟩
  ·rintro A ⟨k1,k2⟩;refine⟨_,results_tmp (t:=4) rfl _ _ _,?_⟩
   rw[HR.out]
   exact⟨k1,_,rfl,k2⟩
 case stop=>
  rintro c k V T2 hk h hold hup hdef hts;exact h.elim
theorem keys_any (h:Ou its l P ob w):Calls Tryz.prog 28 #[.pointer (some ⟨ob,0,none⟩)] w fun e w'=>Below w.heap.size w w'∧∃bo bm,e= .returned (.func (.func 57) #[] #[.pointer (some ⟨bo,0,none⟩),.pointer (some ⟨bm,0,none⟩)])∧Boxed w' bo 70 (.pointer (some ⟨ob,0,none⟩))∧Boxed w' bm 84 (.func (.func 54) #[] #[.pointer (some ⟨bo,0,none⟩)]):=by
 refine Calls.mono (keys_maker w) ?_;rintro e w' ⟨rfl,rfl⟩;have q0:=Boxed.new w 70 (.pointer (some ⟨ob,0,none⟩));have q1:=Boxed.new (w.alloc (.cells #[.pointer (some ⟨ob,0,none⟩)] 70)) 84 (.func (.func 54) #[] #[.pointer (some ⟨w.heap.size,0,none⟩)]);rw[jV] at q1
 exact⟨(bl1 w _).alloc (by simp) _,w.heap.size,w.heap.size+1,rfl,q0.alloc _,q1⟩
theorem collect_any {bo bm:Nat}(h:Ou its l P ob w)(hbo:Boxed w bo 70 (.pointer (some ⟨ob,0,none⟩)))(hbm:Boxed w bm 84 (.func (.func 54) #[] #[.pointer (some ⟨bo,0,none⟩)])) :
  Calls Tryz.prog 27 #[.func (.func 57) #[] #[.pointer (some ⟨bo,0,none⟩),.pointer (some ⟨bm,0,none⟩)]] w fun e w'=>Below w.heap.size w w'∧∃a c,e= .returned (.slice a (mayL its l).length c)∧RK w' (.slice a (mayL its l).length c) (mayL its l):=by
 have H:Hid _:=appendSeq_any h rfl hbo hbm;rw[keysL_may h.chk] at H
 clear h hbo hbm
 go_enter Tryz.func27,Tryz.ntmps27
 go_wp2_with fail
 refine Calls.mono H.out ?_;rintro e w1 ⟨hb,u,rfl,hu⟩;obtain⟨a,c,rfl⟩:=hu.slice
 have HU:Hid _:=hu.rk;have HB:Hid _:=hb;clear hu hb H
 go_wp2_with fail
 go_ret
 exact⟨HB.out,a,c,rfl,HU.out⟩
def SeP (its:List It)(l:List Fa)(v:Value)(w:World):Prop:=if chkF its l=0 then ∃P ob,v= .pointer (some ⟨ob,0,none⟩)∧Ou its l P ob w else v= .pointer none
end Go.Proofs.YtieoppabellafaaGreatDoor.Ts
namespace Go.Proofs.YtieoppabellafaaGreatDoor.Ts
open Go.RowKit Go.Shelf Fc St Sx Sa
theorem chk_two (its:List It)(l:List Fa):chkF its l=0∨chkF its l=2:=by unfold chkF;split <;> simp
theorem see26_any {its:List It}{l:List Fa}{v lv:Value}{w:World}(h:PF its l v lv w) :
  Calls Tryz.prog 26 #[.agg #[v],lv] w fun e w'=>Below w.heap.size w w'∧∃pv,e= .returned (.tuple #[pv,.int .i64 (chkF its l)])∧SeP its l pv w':=by
 have hb1:=bl1 w (.cells #[v] 28);have HSE:Hid _:=see_any (h.later hb1);have HPF:Hid (∀wx,Below w.heap.size w wx→PF its l v lv wx):=fun wx hb=>h.later hb
 have r0:=Dg.row_new w #[v] 28;have c0:=(Dg.cell_row r0 0).trans rfl;have HR0:Hid _:=r0;have HB1:Hid _:=hb1
 rcases chk_two its l with hc | hc
 rotate_left
 ·rw[hc] at HSE ⊢
  have HCC:Hid _:=hc;clear h hb1 HPF hc r0 HR0
  go_enter Tryz.func26,Tryz.ntmps26
  go_wp2_with fail
  refine Calls.mono HSE.out ?_;rintro e w2 ⟨hb2,bv,o,rfl,hrb,hso⟩;have HB2:Hid _:=HB1.out.trans (hb2.mono HB1.out.size);clear HSE hb2 c0 hrb hso HB1
  go_wp2_with fail
  go_ret2
  refine⟨HB2.out,_,rfl,?_⟩
  unfold SeP;rw[HCC.out,if_neg (by decide)]
  rfl
 ·obtain⟨xb,xo,icap,fb,fo,lcap,rfl,rfl,_⟩:=bs_of h.it h.fa hc
  obtain⟨⟨q,hq⟩,hll,_⟩:=chk_facts hc
  have hfew:=root_len (chkF_iff.1 hc).1;rw[hc] at HSE ⊢
  have HCC:Hid _:=hc;have HQ:Hid _:=hq;obtain⟨n,HN⟩:∃n,Hid (its.length=n):=⟨_,rfl⟩
  rw[HN.out] at HSE HPF hfew c0 HB1 HR0 ⊢
  clear h hb1 hc hq hll r0
  go_enter Tryz.func26,Tryz.ntmps26
  go_wp2_with fail
  refine Calls.mono HSE.out ?_;rintro e w2 ⟨hb2,bv,o,rfl,hrb,hso⟩;obtain⟨B,rfl,hBO⟩:∃B,o=some B∧BoOf (plOf its) (fOf l) B:=by
   unfold SeeO at hso;rw[if_pos HCC.out] at hso
   exact hso
  have HBO:Hid _:=hBO;obtain⟨bd,rfl,hbd⟩:=hrb
  have HRB:Hid (RB w2 (.pointer (some ⟨bd,0,none⟩)) (some B)):=⟨bd,rfl,hbd⟩;have HB2:Hid (Below w.heap.size w w2):=HB1.out.trans (hb2.mono HB1.out.size);have HR2:Hid (w2.heap[w.heap.size]? =some (.cells #[.slice (some ⟨xb,xo,none⟩) n icap] 28 (0,0))):=(hb2.block _ (jD.1 HR0.out).1).trans HR0.out;have HPL:Hid _:=See_any its (.slice (some ⟨xb,xo,none⟩) n icap) w2 (HPF.out w2 HB2.out).it (HPF.out w2 HB2.out).fair (HPF.out w2 HB2.out).tab;have c2:=(Dg.cell_row HR2.out 0).trans rfl;clear HSE hb2 c0 hso hbd hBO HB1 HR0
  go_wp2_with fail
  refine Calls.mono HPL.out ?_;rintro e w3 ⟨hb3,he⟩;rw[HQ.out] at he
  obtain⟨vb,W,o,rfl,_,hW,hV⟩:=he
  have HOV:Hid (∀i,overL (Dg.reachL W o) i=overI its i):=fun i=>by unfold overI ovT;rw[HQ.out,hW];rfl
  have HOS:Hid (∀x∈Dg.reachL W o,x.length≤1000000):=fun x hx=>by
   unfold Dg.reachL at hx;obtain⟨y,_,rfl⟩:=zS.1 hx
   exact bits_short y
  have HVW:Hid (VwAt w3 vb its (Dg.reachL W o)):=hV;have HRB3:Hid (RB w3 (.pointer (some ⟨bd,0,none⟩)) (some B)):=RB.later HRB.out hb3;have HB3:Hid (Below w.heap.size w w3):=HB2.out.trans (hb3.mono HB2.out.size);have HR3:Hid (w3.heap[w.heap.size]? =some (.cells #[.slice (some ⟨xb,xo,none⟩) n icap] 28 (0,0))):=(hb3.block _ (jD.1 HR2.out).1).trans HR2.out;have HCV:Hid (∀wx,Below w3.heap.size w3 wx→wx.cell? ⟨w.heap.size,0,none⟩=some (.slice (some ⟨xb,xo,none⟩) n icap)):=fun wx hb=>Dg.cell_later hb ((Dg.cell_row HR3.out 0).trans rfl)
  have HAL:Hid (∀wx,Below w3.heap.size w3 wx→Calls Tryz.prog 35 #[.pointer (some ⟨bd,0,none⟩)] wx fun e w'=>∃y:Option Addr × Nat,e= .returned (.slice y.1 n y.2)∧Below w3.heap.size w3 w'∧RS w' (.slice y.1 n y.2) (allS its l)):=fun wx hb=>Calls.mono (bAll_any (RB.later HRB3.out hb)) (by
   rintro e w' ⟨hb9,a,c,rfl,hr⟩;have e1:=see_all (its:=its) (l:=l) (o:=some B) (by unfold SeeO;rw[if_pos HCC.out];exact⟨_,rfl,HBO.out⟩);have e2:((some B).getD Bo.z).c=n:=by rw[←HN.out];exact HBO.out.c
   rw[e1,e2] at hr
   rw[e2]
   exact⟨(a,c),rfl,hb.trans (hb9.mono hb.size),hr⟩)
  clear HPL hb3 hW hV HRB HB2 HR2 c2
  go_wp2_with fail
  have hS0:Below w3.heap.size w3 w3.drew:=(Below.refl _ _).drew;refine region_thenG (β:=(Option Addr × Nat) × Nat) (fun z=>[(23,.pointer (some ⟨w.heap.size,0,none⟩)),(24,.slice (some ⟨xb,xo,none⟩) n icap),(25,.slice (some ⟨fb,fo,none⟩) n lcap),(26,.pointer (some ⟨vb,0,none⟩)),(27,.pointer (some ⟨bd,0,none⟩)),(28,.pointer (some ⟨bd,0,none⟩)),(29,.slice z.1.1 n z.1.2),(30,.agg #[.slice (some ⟨xb,xo,none⟩) n icap,.slice (some ⟨fb,fo,none⟩) n lcap,.pointer (some ⟨vb,0,none⟩),.pointer (some ⟨bd,0,none⟩),.slice z.1.1 n z.1.2]),(31,.pointer (some ⟨z.2,0,none⟩)),(32,.int .i64 0),(4,.pointer (some ⟨z.2,0,none⟩)),(5,.int .i64 0)]) (fun z w'=>Below w3.heap.size w3 w'∧RS w' (.slice z.1.1 n z.1.2) (allS its l)∧w'.heap[z.2]? =some (.cells #[.slice (some ⟨xb,xo,none⟩) n icap,.slice (some ⟨fb,fo,none⟩) n lcap,.pointer (some ⟨vb,0,none⟩),.pointer (some ⟨bd,0,none⟩),.slice z.1.1 n z.1.2] 123 (0,0))) ?_ ?_
  ·refine wp_region_held (S:=fun w'=>Below w3.heap.size w3 w') (by kernel_rfl) ?_;simp only[jN,jM,jP,Nat.reduceAdd,jI,jJ,jO,jL,jK];refine tG 0 23 (.pointer (some ⟨w.heap.size,0,none⟩)) 11 rfl hS0 ?_;refine tV 1 24 (.slice (some ⟨xb,xo,none⟩) n icap) 10 rfl hS0 ?_ (fun wx h=>by have y0:=HCV.out wx h;go_simp);refine tK 2 25 (.slice (some ⟨fb,fo,none⟩) n lcap) 9 rfl hS0 ?_;refine tK 3 26 (.pointer (some ⟨vb,0,none⟩)) 8 rfl hS0 ?_;refine tK 4 27 (.pointer (some ⟨bd,0,none⟩)) 7 rfl hS0 ?_;refine tK 5 28 (.pointer (some ⟨bd,0,none⟩)) 6 rfl hS0 ?_;refine tK 9 32 (.int .i64 0) 5 rfl hS0 ?_;refine oneX (β:=Option Addr × Nat) (V:=fun y=> .slice y.1 n y.2) (R:=fun y w'=>Below w3.heap.size w3 w'∧RS w' (.slice y.1 n y.2) (allS its l)) (i:=6) (d:=29) (f:=35) (args:= #[.pointer (some ⟨bd,0,none⟩)]) (fuel:=4) rfl rfl (by kernel_rfl) (by kernel_rfl) (fun _=>by kernel_rfl) (HAL.out _ hS0) (fun y w' h=>h.1) (fun y wz hR6=>?_);simp only[jA,jB,jC];refine tV 7 30 (.agg #[.slice (some ⟨xb,xo,none⟩) n icap,.slice (some ⟨fb,fo,none⟩) n lcap,.pointer (some ⟨vb,0,none⟩),.pointer (some ⟨bd,0,none⟩),.slice y.1 n y.2]) 3 rfl (hR6.1) ?_ (fun wx h=>by go_simp);refine wpAnyH_all (fuel:=2) (rs:=[8]) (by kernel_rfl) (by decide) (jE.2 ?_);refine wpOp_value (i:=8) (d:=31) (v:= .pointer (some ⟨wz.heap.size,0,none⟩)) (w':=wz.alloc (.cells #[.slice (some ⟨xb,xo,none⟩) n icap,.slice (some ⟨fb,fo,none⟩) n lcap,.pointer (some ⟨vb,0,none⟩),.pointer (some ⟨bd,0,none⟩),.slice y.1 n y.2] 123)) rfl rfl (by kernel_rfl) (by go_simp) ⟨((hR6.1)).trans ((bl1 _ _).mono ((hR6.1)).size),?_⟩;simp only[jA,jB,jC];have hSm8:=((hR6.1)).trans ((bl1 wz (.cells #[.slice (some ⟨xb,xo,none⟩) n icap,.slice (some ⟨fb,fo,none⟩) n lcap,.pointer (some ⟨vb,0,none⟩),.pointer (some ⟨bd,0,none⟩),.slice y.1 n y.2] 123)).mono ((hR6.1)).size);have hCm8:=And.intro (hR6.2.later (bl1 wz (.cells #[.slice (some ⟨xb,xo,none⟩) n icap,.slice (some ⟨fb,fo,none⟩) n lcap,.pointer (some ⟨vb,0,none⟩),.pointer (some ⟨bd,0,none⟩),.slice y.1 n y.2] 123))) (Dg.row_new wz #[.slice (some ⟨xb,xo,none⟩) n icap,.slice (some ⟨fb,fo,none⟩) n lcap,.pointer (some ⟨vb,0,none⟩),.pointer (some ⟨bd,0,none⟩),.slice y.1 n y.2] 123);refine tK 10 4 (.pointer (some ⟨wz.heap.size,0,none⟩)) 1 rfl hSm8 ?_;refine tK 11 5 (.int .i64 0) 0 rfl hSm8 ?_;refine wpAnyH_done (by kernel_rfl) ?_ _;exact⟨rfl,(y,wz.heap.size),by kernel_rfl,hSm8,hCm8.1,hCm8.2⟩
  ·rintro⟨⟨sa,sc⟩,ob⟩ w9 hF
   simp only[setAll,jA,jB,jC];have HF9:Hid _:=hF;clear hF
   go_wp2_with fail
   go_ret2
   obtain⟨q1,q2,q3⟩:=HF9.out
   have hsa:∃sb so,sa=some ⟨sb,so,none⟩:=by
    obtain⟨a,c,e,_,hr⟩:=q2
    have hz:∃z,(allS its l)[0]? =some z:=by
     unfold allS;rw[if_pos HCC.out]
     refine⟨_,jF (by simp;have:=HN.out;omega)⟩
    obtain⟨z,hz⟩:=hz
    obtain⟨b,off,rfl,_⟩:=hr 0 z hz
    injection e with e1
    exact⟨b,off,e1⟩
   obtain⟨sb,so,rfl⟩:=hsa
   have hb9:Below w.heap.size w w9:=HB3.out.trans (q1.mono HB3.out.size);refine⟨hb9,_,rfl,?_⟩
   unfold SeP;rw[if_pos HCC.out]
   have hpf:=HPF.out w9 hb9;refine⟨⟨xb,xo,icap,fb,fo,lcap,vb,bd,sb,so,sc,Dg.reachL W o,B⟩,ob,rfl,HCC.out,?_,?_,?_,HVW.out.later q1,HOV.out,HOS.out,RB.later HRB3.out q1,HBO.out,?_⟩
   ·rw[HN.out];exact q3
   ·rw[HN.out];exact hpf.it
   ·rw[HN.out];exact hpf.fa
   ·rw[HN.out];exact q2
theorem May_any {its:List It}{l:List Fa}{v lv:Value}{w:World}(h:PF its l v lv w) :
  Calls Tryz.prog 9 #[.agg #[v],lv] w fun e w'=>Below w.heap.size w w'∧∃a c,e= .returned (.slice a (mayL its l).length c)∧RK w' (.slice a (mayL its l).length c) (mayL its l):=by
 have hb1:=bl1 w (.cells #[v] 28);have HSE:Hid _:=see26_any (h.later hb1);have c0:=(Dg.cell_row (Dg.row_new w #[v] 28) 0).trans rfl;have HB1:Hid _:=hb1
 rcases chk_two its l with hc | hc
 ·have HCC:Hid _:=hc;rw[hc] at HSE
  obtain⟨ia,icap,rfl,_⟩:=h.it
  clear h hb1 hc
  go_enter Tryz.func9,Tryz.ntmps9
  go_wp2_with fail
  refine Calls.mono HSE.out ?_;rintro e w2 ⟨hb2,pv,rfl,hp⟩;unfold SeP at hp;rw[if_pos HCC.out] at hp
  obtain⟨P,ob,rfl,hO⟩:=hp
  have HO:Hid _:=hO;have HB2:Hid _:=HB1.out.trans (hb2.mono HB1.out.size);have HK:Hid _:=keys_any hO;clear HSE hb2 c0 hO HB1
  go_wp2_with fail
  refine Calls.mono HK.out ?_;rintro e w3 ⟨hb3,bo,bm,rfl,q0,q1⟩;have HB3:Hid _:=HB2.out.trans (hb3.mono HB2.out.size);have HC:Hid _:=collect_any (HO.out.later hb3) q0 q1;clear HK hb3 q0 q1 HB2 HO
  go_wp2_with fail
  refine Calls.mono HC.out ?_;rintro e w4 ⟨hb4,a,c,rfl,hr⟩;have HB4:Hid _:=HB3.out.trans (hb4.mono HB3.out.size);have HR:Hid _:=hr;clear HC hb4 hr HB3
  go_wp2_with fail
  go_ret
  exact⟨HB4.out,a,c,rfl,HR.out⟩
 ·have HE:Hid (mayL its l=[]):=by show _=_;unfold mayL;rw[if_neg (by rw[hc];decide)]
  rw[hc] at HSE
  obtain⟨ia,icap,rfl,_⟩:=h.it
  clear h hb1 hc
  go_enter Tryz.func9,Tryz.ntmps9
  go_wp2_with fail
  refine Calls.mono HSE.out ?_;rintro e w2 ⟨hb2,pv,rfl,hp⟩;have HB2:Hid _:=HB1.out.trans (hb2.mono HB1.out.size);clear HSE hb2 c0 hp HB1
  go_wp2_with fail
  go_ret
  rw[HE.out]
  exact⟨HB2.out,none,0,rfl,none,0,rfl,jG _,zE _,fun i f hi=>by simp at hi⟩
def idxK (k:Nat × Bool × Int):List (Nat × Bool × Int)→Int→Int
 | [],_=> -1
 | x :: r,i=>if k=x then i else idxK k r (i+1)
theorem idx_neg {k:Nat × Bool × Int} :∀{K:List (Nat × Bool × Int)} {i:Int},0≤i→(0≤idxK k K i↔k∈K)
 | [],i,h=>by simp[idxK]
 | x :: r,i,h=>by
  rw[idxK]
  by_cases e:k=x
  ·rw[if_pos e];simp[e,h]
  ·rw[if_neg e,idx_neg (by omega)];simp[e]
end Go.Proofs.YtieoppabellafaaGreatDoor.Ts
namespace Go.Proofs.YtieoppabellafaaGreatDoor.Fc
open Go.RowKit Go.Shelf Sx
def okIt (x:It):Bool:=decide (x.name.length≤200) && (decide (x.undo.length≤200) && decide (x.after.length≤100))
def smallI (its:List It):Bool:=(its.take 70).all okIt && decide (its.length≤70)
theorem small_fair {its:List It}(h:smallI its=true):FairI its∧its.length≤70:=by
 unfold smallI at h;rw[jT,decide_eq_true_eq] at h
 obtain⟨h1,h2⟩:=h
 rw[zR h2,zF] at h1
 have h3:∀x∈its,x.name.length≤200∧x.undo.length≤200∧x.after.length≤100:=by
  intro x hx;have:=h1 x hx;simp only[okIt,jT,decide_eq_true_eq] at this;exact this
 exact⟨⟨fun x hx=>by have:=h3 x hx;omega,fun x hx=>by have:=h3 x hx;omega⟩,h2⟩
end Go.Proofs.YtieoppabellafaaGreatDoor.Fc
