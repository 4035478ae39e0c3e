/- Texts of the seat, packed: Af Ag Ar. -/
import Derived.Test.YtieoppabellafaaGreatDoorH01
import Derived.Test.YtieoppabellafaaGreatDoorH22
import Derived.Test.YtieoppabellafaaGreatDoorH23
import Derived.Test.YtieoppabellafaaGreatDoorH17
import Derived.Test.YtieoppabellafaaGreatDoorH09
import Derived.Test.YtieoppabellafaaGreatDoorH18
import Derived.TacticsInMore
import Derived.OrdersIn
set_option maxRecDepth 1000000
set_option maxHeartbeats 64000000
set_option linter.unusedVariables false
namespace Go.Proofs.YtieoppabellafaaGreatDoor.Ts
open Go.RowKit Go.Shelf Fc St Sx Sa Rl
variable {its:List It}{l:List Fa}{P:OuP}{ob:Nat}{w:World}
theorem over_maker (v:Value)(i:Int)(a:Option Addr)(hv:v= .pointer a)(w:World):Calls Tryz.prog 122 #[v,.int .i64 i] w fun e w'=>e= .returned (.func (.func 153) #[] #[.pointer (some ⟨w.heap.size,0,none⟩),.pointer (some ⟨w.heap.size+1,0,none⟩)])∧w'=(w.alloc (.cells #[v] 70)).alloc (.cells #[.int .i64 i] 3):=by
 subst hv
 go_enter Tryz.func122,Tryz.ntmps122
 go_wp2_with fail
 go_ret
 exact⟨rfl,rfl⟩
theorem results_bool {fn:Func}{p:Tmp}(h:fn.results= #[.cell p 4])(tmps:Array Value)(w:World)(g:Nat)(q:Bool)(fr:Nat × Nat)
  (hp:tmps.getD p undef= .pointer (some ⟨g,0,none⟩)) (hg:w.heap[g]? =some (.cells #[.bool q] 4 fr)):(results fn tmps).run Tryz.prog w= .ok (.bool q) w:=by
 have hp':tmps[p]?.getD undef= .pointer (some ⟨g,0,none⟩):=by simpa using hp
 have hc:w.cell? ⟨g,0,none⟩=some (.bool q):=(cell_of_row w g 0 #[.bool q] 4 fr hg).trans rfl;simp[results,h,hp',asAddr]
 go_simp
structure BaI (w4:World)(its:List It)(l:List Fa)(xs:List Nat)(k:Nat)(V:World)(TB:Nat→Prop):Prop where
 bel:Below w4.heap.size w4 V
 own:∀b,TB b→w4.heap.size≤b
 all:∀j m,j < k→xs[j]? =some m→cleS its l (m:Int)=true
theorem BaI.mv {w4:World}{xs:List Nat}{k:Nat}{V V':World}{TB TB':Nat→Prop}(h:BaI w4 its l xs k V TB)(hm:Rl.Mv TB V TB' V'):BaI w4 its l xs k V' TB':=by
 refine⟨hm.below h.bel (fun b hb ht=>by have:=h.own b ht;omega) h.bel.size,fun b hb=>?_,h.all⟩
 by_cases hlt:b < V.heap.size
 ·exact h.own b ((hm.old b hlt).1 hb)
 ·have:=h.bel.size;omega
structure BaX (w w4:World)(rc:Nat)(its:List It)(l:List Fa)(xs:List Nat)(c:Code)(V:World)(TB:Nat→Prop):Prop where
 ret:c= .ret
 ex:∃m∈xs,cleS its l (m:Int)=false
 cell:V.heap[rc]? =some (.cells #[.bool false] 4 (0,0))
 bel:Below w.heap.size w V
 own:∀b,TB b→w4.heap.size≤b
 sz:w4.heap.size≤V.heap.size
 lt:rc < w4.heap.size
 le:w.heap.size≤w4.heap.size
theorem BaX.mv {w w4:World}{rc:Nat}{xs:List Nat}{c:Code}{V V':World}{TB TB':Nat→Prop}(h:BaX w w4 rc its l xs c V TB)(hm:Rl.Mv TB V TB' V'):BaX w w4 rc its l xs c V' TB':=by
 have hlt:=h.lt;have hsz:=h.sz;refine⟨h.ret,h.ex,(hm.same rc (by omega) (fun ht=>by have:=h.own rc ht;omega)).trans h.cell,hm.below h.bel (fun b hb ht=>by have:=h.own b ht;have:=h.le;omega) (by have:=h.le;omega),fun b hb=>?_,zH hsz hm.size,hlt,h.le⟩
 by_cases hb2:b < V.heap.size
 ·exact h.own b ((hm.old b hb2).1 hb)
 ·omega
attribute [local go_sem] Oper.semAt_some
theorem bare_any {i:Nat}(h1:1≤i)(hi:i < its.length)(h:Ou its l P ob w) :
  Calls Tryz.prog 85 #[.pointer (some ⟨ob,0,none⟩),.int .i64 (i:Int)] w fun e w'=>e= .returned (.bool (baB its l i))∧Below w.heap.size w w':=by
 have HBI:Hid _:=bare_iff h.chk h1 hi;obtain⟨Q,HQ⟩:∃Q,Hid (Q=baB its l i):=⟨_,rfl⟩
 rw[←HQ.out] at HBI ⊢
 obtain⟨s,hs⟩:∃s,w.heap.size=s:=⟨_,rfl⟩
 have q0:=((((Boxed.new w 70 (.pointer (some ⟨ob,0,none⟩))).alloc (.cells #[.bool false] 4)).alloc (.cells #[.pointer (some ⟨ob,0,none⟩)] 70)).alloc (.cells #[.int .i64 (i:Int)] 3));have q2:=((Boxed.new ((w.alloc (.cells #[.pointer (some ⟨ob,0,none⟩)] 70)).alloc (.cells #[.bool false] 4)) 70 (.pointer (some ⟨ob,0,none⟩))).alloc (.cells #[.int .i64 (i:Int)] 3));have q3:=Boxed.new (((w.alloc (.cells #[.pointer (some ⟨ob,0,none⟩)] 70)).alloc (.cells #[.bool false] 4)).alloc (.cells #[.pointer (some ⟨ob,0,none⟩)] 70)) 3 (.int .i64 (i:Int));have q1:=Dg.row_alloc (Dg.row_alloc (Dg.row_new (w.alloc (.cells #[.pointer (some ⟨ob,0,none⟩)] 70)) #[.bool false] 4) (.cells #[.pointer (some ⟨ob,0,none⟩)] 70)) (.cells #[.int .i64 (i:Int)] 3);have hb4:Below w.heap.size w ((((w.alloc (.cells #[.pointer (some ⟨ob,0,none⟩)] 70)).alloc (.cells #[.bool false] 4)).alloc (.cells #[.pointer (some ⟨ob,0,none⟩)] 70)).alloc (.cells #[.int .i64 (i:Int)] 3)):=((((Below.refl _ w).alloc (jG _) _).alloc (by simp) _).alloc (by simp;omega) _).alloc (by simp;omega) _;have hsz4:((((w.alloc (.cells #[.pointer (some ⟨ob,0,none⟩)] 70)).alloc (.cells #[.bool false] 4)).alloc (.cells #[.pointer (some ⟨ob,0,none⟩)] 70)).alloc (.cells #[.int .i64 (i:Int)] 3)).heap.size=s+4:=by simp[hs]
 simp only[jV,hs] at q0 q1 q2 q3;have HMK:Hid _:=over_maker (.pointer (some ⟨ob,0,none⟩)) (i:Int) (some ⟨ob,0,none⟩) rfl ((w.alloc (.cells #[.pointer (some ⟨ob,0,none⟩)] 70)).alloc (.cells #[.bool false] 4));simp only[jV,hs] at HMK;have c0:=((Boxed.new w 70 (.pointer (some ⟨ob,0,none⟩))).alloc (.cells #[.bool false] 4)).cell;rw[hs] at c0
 obtain⟨w4,hw4⟩:∃w4,(((w.alloc (.cells #[.pointer (some ⟨ob,0,none⟩)] 70)).alloc (.cells #[.bool false] 4)).alloc (.cells #[.pointer (some ⟨ob,0,none⟩)] 70)).alloc (.cells #[.int .i64 (i:Int)] 3)=w4:=⟨_,rfl⟩
 rw[hw4] at q0 q1 q2 q3 hb4 hsz4 HMK
 have HO4:Hid (Ou its l P ob w4):=h.later hb4;have HITR:Hid _:=over_itr 0 HO4.out q2 q3 hi;have HQ0:Hid _:=q0;have HQ1:Hid _:=q1;have HB4:Hid _:=hb4;have HSZ:Hid _:=hsz4;obtain⟨xs,HX⟩:∃xs,Hid (xs=oversN its i):=⟨_,rfl⟩
 rw[←HX.out] at HITR HBI
 obtain⟨R,HR⟩:∃R:Ending→World→Prop,Hid (R=fun e w'=>e= .returned (.bool Q)∧Below w.heap.size w w'):=⟨_,rfl⟩
 rw[←HR.out]
 have HS:Hid (w.heap.size=s):=hs;clear q0 q1 q2 q3 hb4 h HQ hw4 hsz4
 suffices key:CallsIn Fence.wide 0 Tryz.prog 85 #[.pointer (some ⟨ob,0,none⟩),.int .i64 (i:Int)] w R from callsIn_wide.1 key
 refine callsIn_of_wp_marks Tryz.func85 rfl trivial ?_ rfl;simp only[Tryz.ntmps85,jN,jM,jP,Nat.reduceAdd,Nat.reduceSub,jI,jJ,jO,zN,jL,jK]
 gi_wp2
 refine⟨trivial,rfl,(callsIn_wide.2 HMK.out).mono ?_⟩
 rintro e w' ⟨rfl,hw'⟩;obtain rfl:=hw'.symm;clear c0 HMK
 gi_wp2
 refine Rl.range_law (P:=Tryz.prog) (gf:=153) (lb:= #[.pointer (some ⟨s+1+1,0,none⟩),.pointer (some ⟨s+1+1+1,0,none⟩)]) rfl (enters_of Tryz.func153 (by kernel_rfl) rfl) (enc:=encN) (xs:=xs) (n0:=w4.heap.size) (T:=fun _=>False)
  HITR.out (fun b hb=>hb.elim) (jG _) (zE _) (fun x F W T args h=>by rw[show args=_ from h];rfl)
  (fun k V TB=>Hid (BaI w4 its l xs k V TB)) (fun c k V TB=>Hid (BaX w w4 (s+1) its l xs c V TB))
  (fun k V TV V' TV' h hm=>BaI.mv h.out hm) (fun c k V TV V' TV' h hm=>BaX.mv h.out hm)
  ⟨Below.refl _ _,fun b hb=>hb.elim,fun j m hj _=>by omega⟩ ?rnd ?done ?stop
 case rnd=>
  rintro m l' k x args F V T1 TB hxk henc ⟨Wf,Tf,HIf,hF,hmF⟩ HI hTB hup hnc hlt;cases henc;have HXK:Hid _:=hxk;clear HIf hF hmF hxk hTB hnc hup hlt
  gi_wp2
  refine⟨HI,Rl.Rv.refl _ _ _,fun W2 HI2 hbz=>?_⟩
  clear HI hbz;have HO2:Hid (Ou its l P ob W2):=HO4.out.later HI2.out.bel;have HQ2:Boxed W2 s 70 (.pointer (some ⟨ob,0,none⟩)):=(HI2.out.bel.block s (Boxed.lt HQ0.out)).trans HQ0.out;have y0:=HQ2.cell;clear HQ2;have y3:=HO2.out.c3;have HCL:Hid _:=HO2.out.cle_any (x:Int);have HCE:Hid (∀q,cleS its l (x:Int)=q→(q=true→∀j m,j < k+1→xs[j]? =some m→cleS its l (m:Int)=true)∧(q=false→∃m∈xs,cleS its l (m:Int)=false)):=fun q hq=>by
   refine⟨fun hqt j m hj hm=>?_,fun hqf=>⟨x,jS HXK.out,by rw[hq,hqf]⟩⟩
   by_cases hjk:j=k
   ·subst hjk;rw[HXK.out] at hm
    cases hm;rw[hq,hqt]
   ·exact HI2.out.all j m (by omega) hm
  generalize cleS its l (x:Int)=q at *
  gi_wp2
  refine⟨trivial,(fun h=>by cases h),(CallsIn.inRound l' (callsIn_wide.2 HCL.out)).mono ?_⟩
  rintro e W3 ⟨rfl,hb3⟩;have HB3:Hid (Below w4.heap.size w4 W3):=HI2.out.bel.trans (hb3.mono HI2.out.bel.size);have HR3:Hid (Rl.Rv w4.heap.size TB W2 W3):=Rl.Rv.of_below hb3 HI2.out.bel.size;have HOW:Hid (∀b,TB b→w4.heap.size≤b):=HI2.out.own;have hce:=HCE.out q rfl;have HCE2:Hid _:=hce;clear hb3 y0 y3 HCL HI2 HO2 HCE hce;cases q with
  | true=>
   gi_wp2
   exact⟨⟨HB3.out,HOW.out,HCE2.out.1 (by simp)⟩,HR3.out⟩
  | false=>
   have hrow:W3.heap[s+1]? =some (.cells #[.bool false] 4 (0,0)):=(HB3.out.block _ (by have:=HSZ.out;omega)).trans HQ1.out;have z0:=(Dg.cell_row hrow 0).trans rfl;have f0:=Dg.froz_row hrow 0;have HX3:Hid (BaX w w4 (s+1) its l xs .ret (W3.setCell ⟨s+1,0,none⟩ (.bool false)) TB):=by
    have hz:=HSZ.out;have hw:=HS.out;refine⟨rfl,HCE2.out.2 (by simp),Dg.row_set hrow 0 _,(HB4.out.trans (HB3.out.mono HB4.out.size)).setCell (p:=⟨s+1,0,none⟩) (by show _≤s+1;omega) _,HOW.out,by simpa using HB3.out.size,by omega,HB4.out.size⟩
   have HR4:Hid (Rl.Rv 0 TB W2 (W3.setCell ⟨s+1,0,none⟩ (.bool false))):=HR3.out.low0.trans (Rl.Rv.setCell W3 _ (zE _) (fun h=>by have:=HOW.out _ h;have:=HSZ.out;omega));clear hrow
   gi_wp2
   exact⟨HX3,HR4.out⟩
 case done=>
  rintro V T2 h hold hup hdef hts;have hz:=HSZ.out;have hw:=HS.out;have hrow:V.heap[s+1]? =some (.cells #[.bool false] 4 (0,0)):=(h.out.bel.block _ (by omega)).trans HQ1.out;have z0:=(Dg.cell_row hrow 0).trans rfl;have f0:=Dg.froz_row hrow 0;obtain rfl:Q=true:=HBI.out.2 fun m hm=>by
   obtain⟨j,hj⟩:=List.getElem?_of_mem hm
   exact h.out.all j m (jH.1 hj).1 hj
  have HV:Hid ((V.setCell ⟨s+1,0,none⟩ (.bool true)).heap[s+1]? =some (.cells #[.bool true] 4 (0,0))∧Below w.heap.size w (V.setCell ⟨s+1,0,none⟩ (.bool true))∧(V.setCell ⟨s+1,0,none⟩ (.bool true)).heap[w4.heap.size]? =some (.deferred (some []))):=
   ⟨Dg.row_set hrow 0 _,(HB4.out.trans (h.out.bel.mono HB4.out.size)).setCell (p:=⟨s+1,0,none⟩) (by show _≤s+1;omega) _,(jW V ⟨s+1,0,none⟩ _ _ (by show w4.heap.size≠s+1;omega)).trans hdef⟩
  clear hrow h hold hup hdef hts hz hw
  gi_wp2
  show LeavesInM Fence.wide 0 Tryz.prog Tryz.f85 _ R ([w4.heap.size].map Rl.mark) .returning _;refine Rl.leaves_marks (T:=fun b=>b=w4.heap.size) (by simp) (fun A=>A.heap[s+1]? =some (.cells #[.bool true] 4 (0,0))∧Below w.heap.size w A) ?_ ?_ _ _ ⟨by simp,fun D hD=>by simp at hD;subst hD;exact⟨rfl,HV.out.2.2⟩⟩ ⟨HV.out.1,HV.out.2.1⟩
  ·rintro A D hD ⟨k1,k2⟩;have hz:=HSZ.out;have hw:=HS.out;exact⟨(jQ (by omega)).trans k1,⟨k2.os,k2.tape,k2.output,by simpa [World.putObj] using k2.size,fun b hb=>(jQ (by omega)).trans (k2.block b hb)⟩⟩
  ·rintro A ⟨k1,k2⟩;refine⟨_,results_bool (p:=4) rfl _ _ (s+1) true (0,0) rfl k1,?_⟩
   rw[HR.out]
   exact⟨rfl,k2⟩
 case stop=>
  rintro c k V T2 hk h hold hup hdef hts;obtain⟨rfl,⟨m,hm,hmf⟩,h3,h4,_⟩:=h.out
  obtain rfl:Q=false:=by
   cases hQ:Q with
   | false=>rfl
   | true=>have:=HBI.out.1 hQ m hm;rw[hmf] at this;cases this
  have HV:Hid (V.heap[s+1]? =some (.cells #[.bool false] 4 (0,0))∧Below w.heap.size w V∧V.heap[w4.heap.size]? =some (.deferred (some []))):=⟨h3,h4,hdef⟩;clear h h3 h4 hold hup hdef hts hm hmf
  gi_wp2
  show LeavesInM Fence.wide 0 Tryz.prog Tryz.f85 _ R ([w4.heap.size].map Rl.mark) .returning _;refine Rl.leaves_marks (T:=fun b=>b=w4.heap.size) (by simp) (fun A=>A.heap[s+1]? =some (.cells #[.bool false] 4 (0,0))∧Below w.heap.size w A) ?_ ?_ _ _ ⟨by simp,fun D hD=>by simp at hD;subst hD;exact⟨rfl,HV.out.2.2⟩⟩ ⟨HV.out.1,HV.out.2.1⟩
  ·rintro A D hD ⟨k1,k2⟩;have hz:=HSZ.out;have hw:=HS.out;exact⟨(jQ (by omega)).trans k1,⟨k2.os,k2.tape,k2.output,by simpa [World.putObj] using k2.size,fun b hb=>(jQ (by omega)).trans (k2.block b hb)⟩⟩
  ·rintro A ⟨k1,k2⟩;refine⟨_,results_bool (p:=4) rfl _ _ (s+1) false (0,0) rfl k1,?_⟩
   rw[HR.out]
   exact⟨rfl,k2⟩
theorem mb_parts (hc:chkF its l=0){i:Nat}(hi:i < its.length):mbB its l i=true↔(plOf its).sub i=false∧(fOf l i).run=0∧rcB its l i=true:=by
 have h0:(plOf its).sub 0=true:=(lg_of hc).ok.root;rw[mbB_iff,rcB_iff]
 unfold MB
 constructor
 ·rintro⟨⟨_,_,a⟩,b,c⟩
  exact⟨a,b,c⟩
 ·rintro⟨a,b,c⟩
  refine⟨⟨?_,hi,a⟩,b,c⟩
  apply Classical.byContradiction
  intro h;obtain rfl:i=0:=by omega
  rw[h0] at a
  cases a
theorem mayBegin_any {i:Nat}(hi:i < its.length)(h:Ou its l P ob w) :
  Calls Tryz.prog 55 #[.pointer (some ⟨ob,0,none⟩),.int .i64 (i:Int)] w fun e w'=>e= .returned (.bool (mbB its l i))∧Below w.heap.size w w':=by
 have HP:Hid _:=mb_parts h.chk hi;obtain⟨q,hq⟩:=h.right
 obtain⟨x,av,am,ac,hx,_,_,k2,_⟩:=h.item hi
 obtain⟨e1,_,_⟩:=it_pl hq hx
 obtain⟨f0,_⟩:=h.fact hi
 have c0:=h.c0;have c1:=h.c1;have hn:=h.few;have h0:(plOf its).sub 0=true:=(lg_of h.chk).ok.root;have HRC:Hid (1≤i→Calls Tryz.prog 83 #[.pointer (some ⟨ob,0,none⟩),.int .i64 (i:Int)] w fun e w'=>e= .returned (.bool (rcB its l i))∧Below w.heap.size w w'):=fun h1=>reach_any h1 hi h
 have HI1:Hid ((plOf its).sub i=false→1≤i):=fun hs=>by
  apply Classical.byContradiction
  intro h;obtain rfl:i=0:=by omega
  rw[h0] at hs
  cases hs
 have hii:(i:Int) < (its.length:Int):=by omega
 rw[e1] at HP HI1
 obtain⟨Q,HQ⟩:∃Q,Hid (Q=mbB its l i):=⟨_,rfl⟩
 rw[←HQ.out] at HP ⊢
 clear h hq hx e1 h0 HQ hi;generalize x.sub=su at *;generalize (fOf l i).run=r at *;generalize rcB its l i=rc at *;generalize its.length=n at *;cases su with
 | true=>
  obtain rfl:Q=false:=by
   cases hQ:Q with
   | false=>rfl
   | true=>exact absurd (HP.out.1 hQ).1 (by decide)
  clear HP HRC HI1
  go_enter Tryz.func55,Tryz.ntmps55
  go_wp2_with fail
  go_ret
  exact⟨rfl,Below.refl _ _⟩
 | false=>
  by_cases hr:r=0
  ·subst hr;obtain rfl:Q=rc:=Bool.eq_iff_iff.2 (by rw[HP.out];exact⟨fun h=>h.2.2,fun h=>⟨rfl,rfl,h⟩⟩);have HR2:Hid _:=HRC.out (HI1.out rfl);clear HP HRC HI1
   go_enter Tryz.func55,Tryz.ntmps55
   go_wp2_with fail
   refine Calls.mono HR2.out ?_;rintro e w2 ⟨rfl,hb2⟩;have HB:Hid _:=hb2;clear hb2 HR2 c0 c1 k2 f0
   go_wp2_with fail
   go_ret
   exact⟨rfl,HB.out⟩
  ·obtain rfl:Q=false:=by
    cases hQ:Q with
    | false=>rfl
    | true=>exact absurd (HP.out.1 hQ).2.1 hr
   have hr1:decide (r=0)=false:=decide_eq_false hr;have hr2:(r==0)=false:=by simpa using hr
   clear HP HRC HI1
   go_enter Tryz.func55,Tryz.ntmps55
   go_wp2_with fail
   go_ret
   exact⟨rfl,Below.refl _ _⟩
theorem mu_parts (hc:chkF its l=0){i:Nat}(hi:i < its.length):muB its l i=true↔(1≤i∧(fOf l i).run=2∧(fOf l i).un=false∧(fOf l i).tries=(fOf l i).slips)∧falS its l ((plOf its).inn i:Nat) ((plOf its).alt i:Nat)=true∧baB its l i=true:=by
 have h0:(plOf its).sub 0=true:=(lg_of hc).ok.root;have hrt:=rt_of hc;rw[muB_iff,baB_iff]
 unfold MU
 constructor
 ·rintro⟨⟨a1,a2,a3⟩,⟨b1,b2,b3⟩,c,d⟩
  obtain⟨i1,i2,i3,i4⟩:=inn_facts hc a1 hi
  exact⟨⟨a1,b1,b2,b3⟩,(ff_S hc (show (plOf its).inn i < its.length by omega) i3 i4).1 c,d⟩
 ·rintro⟨⟨a1,b1,b2,b3⟩,c,d⟩
  obtain⟨i1,i2,i3,i4⟩:=inn_facts hc a1 hi
  refine⟨⟨a1,hi,?_⟩,⟨b1,b2,b3⟩,(ff_S hc (show (plOf its).inn i < its.length by omega) i3 i4).2 c,d⟩
  cases hs:(plOf its).sub i with
  | false=>rfl
  | true=>have h9:=hrt.sub i hi hs;rw[h9] at b1;exact absurd b1 (by decide)
theorem mayBeUndone_any {i:Nat}(hi:i < its.length)(h:Ou its l P ob w) :
  Calls Tryz.prog 56 #[.pointer (some ⟨ob,0,none⟩),.int .i64 (i:Int)] w fun e w'=>e= .returned (.bool (muB its l i))∧Below w.heap.size w w':=by
 have HP:Hid _:=mu_parts h.chk hi;obtain⟨q,hq⟩:=h.right
 obtain⟨x,av,am,ac,hx,k0,k1,k2,k3,k4,k5,k6,k7,_⟩:=h.item hi
 obtain⟨_,_,e3⟩:=it_pl hq hx
 obtain⟨f0,f1,f2,f3⟩:=h.fact hi
 have c0:=h.c0;have c1:=h.c1;have hn:=h.few;have h0:(plOf its).sub 0=true:=(lg_of h.chk).ok.root;have HI1:Hid ((fOf l i).run=2→1≤i):=fun hr=>by
  apply Classical.byContradiction
  intro h9;obtain rfl:i=0:=by omega
  have:=(rt_of h.chk).sub 0 hi h0;rw[this] at hr
  exact absurd hr (by decide)
 have HE3:Hid _:=e3;have HIT:Hid (∀wx,Ou its l P ob wx→1≤i→wx.cell? ⟨P.xb,P.xo+i * 8+5,none⟩=some (.int .i64 ((plOf its).inn i:Nat))∧wx.cell? ⟨P.xb,P.xo+i * 8+6,none⟩=some (.int .i64 ((plOf its).alt i:Nat))):=fun wx hO h1=>by
  obtain⟨x',_,_,_,hx',_,_,_,_,_,d5,d6,_⟩:=hO.item hi
  rw[hx] at hx'
  cases hx';rw[←(e3 h1).1,←(e3 h1).2]
  exact⟨d5,d6⟩
 have HFA:Hid (∀wx,Ou its l P ob wx→Calls Tryz.prog 84 #[.pointer (some ⟨P.bd,0,none⟩),.int .i64 ((plOf its).inn i:Nat),.int .i64 ((plOf its).alt i:Nat)] wx fun e w'=>e= .returned (.bool (falS its l ((plOf its).inn i:Nat) ((plOf its).alt i:Nat)))∧Below wx.heap.size wx w'):=fun wx h=>h.fal_any _ _
 have HBA:Hid (1≤i→∀wx,Ou its l P ob wx→Calls Tryz.prog 85 #[.pointer (some ⟨ob,0,none⟩),.int .i64 (i:Int)] wx fun e w'=>e= .returned (.bool (baB its l i))∧Below wx.heap.size wx w'):=fun h1 wx h=>bare_any h1 hi h
 obtain⟨Q,HQ⟩:∃Q,Hid (Q=muB its l i):=⟨_,rfl⟩
 rw[←HQ.out] at HP ⊢
 have HO0:Hid _:=h;have hii:(i:Int) < (its.length:Int):=by omega
 clear h hq hx e3 h0 HQ hi HE3 k0 k1 k2 k3 k4 k5 k6 k7;generalize (plOf its).inn i=inn at *;generalize (plOf its).alt i=alt at *;generalize falS its l (inn:Nat) (alt:Nat)=fal at *;generalize baB its l i=ba at *;generalize (fOf l i).run=r at *;generalize (fOf l i).tries=tr at *;generalize (fOf l i).slips=sl at *;generalize (fOf l i).un=un at *;obtain⟨n,HN⟩:∃n,Hid (its.length=n):=⟨_,rfl⟩
 rw[HN.out] at c0 c1 hii hn
 have hb1:=bl1 w (.cells #[.int .i64 r,.int .i64 tr,.int .i64 sl,.bool un] 55);have rx:=Dg.row_new w #[.int .i64 r,.int .i64 tr,.int .i64 sl,.bool un] 55;have g0:=(Dg.cell_row rx 0).trans rfl;have g1:=(Dg.cell_row rx 1).trans rfl;have g2:=(Dg.cell_row rx 2).trans rfl;have g3:=(Dg.cell_row rx 3).trans rfl;have HO1:Hid (Ou its l P ob (w.alloc (.cells #[.int .i64 r,.int .i64 tr,.int .i64 sl,.bool un] 55))):=HO0.out.later hb1;have HB1:Hid _:=hb1;have HCI:Hid (∀wx,Ou its l P ob wx→wx.cell? ⟨ob,0,none⟩=some (.slice (some ⟨P.xb,P.xo,none⟩) n P.icap)):=fun wx h=>by have:=h.c0;rw[HN.out] at this;exact this
 clear rx hb1 HO0
 by_cases hL:r=2∧un=false∧tr=sl
 ·obtain⟨rfl,rfl,rfl⟩:=hL
  have HI2:Hid (1≤i):=HI1.out rfl;have HP2:Hid (Q=true↔fal=true∧ba=true):=⟨fun h=>(HP.out.1 h).2,fun h=>HP.out.2 ⟨⟨HI2.out,rfl,rfl,rfl⟩,h⟩⟩;have HBA2:Hid _:=HBA.out HI2.out;have HC5:Hid (∀wx,Ou its l P ob wx→wx.cell? ⟨P.xb,P.xo+i * 8+5,none⟩=some (.int .i64 (inn:Nat))):=fun wx h=>(HIT.out wx h HI2.out).1
  have HC6:Hid (∀wx,Ou its l P ob wx→wx.cell? ⟨P.xb,P.xo+i * 8+6,none⟩=some (.int .i64 (alt:Nat))):=fun wx h=>(HIT.out wx h HI2.out).2
  clear HP HI1 HBA HIT
  go_enter Tryz.func56,Tryz.ntmps56
  go_wp2_with fail
  clear g0 g1 g2 g3 f0 f1 f2 f3 c0 c1;obtain⟨w1,hw1⟩:∃w1,w.alloc (.cells #[.int .i64 2,.int .i64 tr,.int .i64 tr,.bool false] 55)=w1:=⟨_,rfl⟩
  rw[hw1] at HO1 HB1 ⊢
  obtain⟨rb,hrb⟩:∃rb,w.heap.size=rb:=⟨_,rfl⟩
  rw[hrb]
  clear hw1;have hS0:Ou its l P ob w1.drew∧Below w.heap.size w w1.drew:=⟨HO1.out.later (Below.refl _ _).drew,HB1.out.trans ((Below.refl _ _).drew)⟩;have HLR:Hid (∀wx w':World,(Ou its l P ob wx∧Below w.heap.size w wx)→Below wx.heap.size wx w'→Ou its l P ob w'∧Below w.heap.size w w'):=fun wx w' h hb=>⟨h.1.later hb,h.2.trans (hb.mono h.2.size)⟩
  cases fal with
  | false=>
   obtain rfl:Q=false:=by
    cases hQ:Q with
    | false=>rfl
    | true=>exact absurd (HP2.out.1 hQ).1 (by decide)
   clear HP2;refine region_thenF [(29,.bool true),(30,.bool true),(31,.pointer (some ⟨ob,0,none⟩)),(32,.pointer (some ⟨ob,0,none⟩)),(33,.pointer (some ⟨ob,3,none⟩)),(34,.pointer (some ⟨P.bd,0,none⟩)),(35,.pointer (some ⟨ob,0,none⟩)),(36,.pointer (some ⟨ob,0,none⟩)),(37,.pointer (some ⟨ob,0,none⟩)),(38,.slice (some ⟨P.xb,P.xo,none⟩) n P.icap),(39,.int .i64 i),(40,.pointer (some ⟨P.xb,P.xo+i * 8,none⟩)),(41,.pointer (some ⟨P.xb,P.xo+i * 8+5,none⟩)),(42,.int .i64 (inn:Nat)),(43,.pointer (some ⟨ob,0,none⟩)),(44,.pointer (some ⟨ob,0,none⟩)),(45,.pointer (some ⟨ob,0,none⟩)),(46,.slice (some ⟨P.xb,P.xo,none⟩) n P.icap),(47,.int .i64 i),(48,.pointer (some ⟨P.xb,P.xo+i * 8,none⟩)),(49,.pointer (some ⟨P.xb,P.xo+i * 8+6,none⟩)),(50,.int .i64 (alt:Nat)),(51,.bool false),(52,.bool false),(53,.bool false),(54,undef),(55,undef),(56,undef),(57,.bool false),(4,.bool false)] (fun w'=>Ou its l P ob w'∧Below w.heap.size w w') ?_ ?_
   ·refine wp_region_held (S:=fun w'=>Ou its l P ob w'∧Below w.heap.size w w') (by kernel_rfl) ?_;simp only[jN,jM,jP,Nat.reduceAdd,jI,jJ,jO,jL,jK];refine tK 0 29 (.bool true) 29 rfl hS0 ?_;refine tK 1 30 (.bool true) 28 rfl hS0 ?_;refine tK 2 31 (.pointer (some ⟨ob,0,none⟩)) 27 rfl hS0 ?_;refine tG 3 32 (.pointer (some ⟨ob,0,none⟩)) 26 rfl hS0 ?_;refine tG 4 33 (.pointer (some ⟨ob,3,none⟩)) 25 rfl hS0 ?_;refine tV 5 34 (.pointer (some ⟨P.bd,0,none⟩)) 24 rfl hS0 ?_ (fun wx h=>by have y0:=h.1.c3;go_simp);refine tK 6 35 (.pointer (some ⟨ob,0,none⟩)) 23 rfl hS0 ?_;refine tG 7 36 (.pointer (some ⟨ob,0,none⟩)) 22 rfl hS0 ?_;refine tG 8 37 (.pointer (some ⟨ob,0,none⟩)) 21 rfl hS0 ?_;refine tV 9 38 (.slice (some ⟨P.xb,P.xo,none⟩) n P.icap) 20 rfl hS0 ?_ (fun wx h=>by have y0:=HCI.out wx h.1;go_simp);refine tK 10 39 (.int .i64 i) 19 rfl hS0 ?_;refine tG 11 40 (.pointer (some ⟨P.xb,P.xo+i * 8,none⟩)) 18 rfl hS0 ?_;refine tG 12 41 (.pointer (some ⟨P.xb,P.xo+i * 8+5,none⟩)) 17 rfl hS0 ?_;refine tV 13 42 (.int .i64 (inn:Nat)) 16 rfl hS0 ?_ (fun wx h=>by have y0:=HC5.out wx h.1;go_simp);refine tK 14 43 (.pointer (some ⟨ob,0,none⟩)) 15 rfl hS0 ?_;refine tG 15 44 (.pointer (some ⟨ob,0,none⟩)) 14 rfl hS0 ?_;refine tG 16 45 (.pointer (some ⟨ob,0,none⟩)) 13 rfl hS0 ?_;refine tV 17 46 (.slice (some ⟨P.xb,P.xo,none⟩) n P.icap) 12 rfl hS0 ?_ (fun wx h=>by have y0:=HCI.out wx h.1;go_simp);refine tK 18 47 (.int .i64 i) 11 rfl hS0 ?_;refine tG 19 48 (.pointer (some ⟨P.xb,P.xo+i * 8,none⟩)) 10 rfl hS0 ?_;refine tG 20 49 (.pointer (some ⟨P.xb,P.xo+i * 8+6,none⟩)) 9 rfl hS0 ?_;refine tV 21 50 (.int .i64 (alt:Nat)) 8 rfl hS0 ?_ (fun wx h=>by have y0:=HC6.out wx h.1;go_simp);refine oneC (i:=22) (d:=51) (f:=84) (args:= #[.pointer (some ⟨P.bd,0,none⟩),.int .i64 (inn:Nat),.int .i64 (alt:Nat)]) (v:= .bool false) (fuel:=7) rfl rfl (by kernel_rfl) (by kernel_rfl) (fun _=>by kernel_rfl) hS0 (fun wx h=>Calls.mono (HFA.out wx h.1) (by rintro e w2 ⟨rfl,hb⟩;exact⟨rfl,HLR.out wx w2 h hb⟩)) (fun wz hS122=>?_);simp only[jA,jB,jC];refine tK 23 52 (.bool false) 6 rfl hS122 ?_;refine tK 24 53 (.bool false) 5 rfl hS122 ?_;refine tU 25 54 4 rfl hS122 ?_;refine tU 26 55 3 rfl hS122 ?_;refine wpAnyH_all (fuel:=2) (rs:=[27]) (by kernel_rfl) (by decide) (jE.2 ?_);refine wpOp_un (i:=27) (d:=56) rfl rfl (by kernel_rfl) ⟨hS122,?_⟩;simp only[jA,jB,jC];refine tK 28 57 (.bool false) 1 rfl hS122 ?_;refine tK 29 4 (.bool false) 0 rfl hS122 ?_;refine wpAnyH_done (by kernel_rfl) ?_ _;exact⟨rfl,by kernel_rfl,hS122⟩
   ·intro w9 hF;simp only[setAll,jA,jB,jC];have HF9:Hid _:=hF;clear hF
    go_wp2_with fail
    go_ret
    exact⟨rfl,HF9.out.2⟩
  | true=>
   obtain rfl:Q=ba:=Bool.eq_iff_iff.2 (by rw[HP2.out];exact⟨fun h=>h.2,fun h=>⟨rfl,h⟩⟩);clear HP2;refine region_thenF [(29,.bool true),(30,.bool true),(31,.pointer (some ⟨ob,0,none⟩)),(32,.pointer (some ⟨ob,0,none⟩)),(33,.pointer (some ⟨ob,3,none⟩)),(34,.pointer (some ⟨P.bd,0,none⟩)),(35,.pointer (some ⟨ob,0,none⟩)),(36,.pointer (some ⟨ob,0,none⟩)),(37,.pointer (some ⟨ob,0,none⟩)),(38,.slice (some ⟨P.xb,P.xo,none⟩) n P.icap),(39,.int .i64 i),(40,.pointer (some ⟨P.xb,P.xo+i * 8,none⟩)),(41,.pointer (some ⟨P.xb,P.xo+i * 8+5,none⟩)),(42,.int .i64 (inn:Nat)),(43,.pointer (some ⟨ob,0,none⟩)),(44,.pointer (some ⟨ob,0,none⟩)),(45,.pointer (some ⟨ob,0,none⟩)),(46,.slice (some ⟨P.xb,P.xo,none⟩) n P.icap),(47,.int .i64 i),(48,.pointer (some ⟨P.xb,P.xo+i * 8,none⟩)),(49,.pointer (some ⟨P.xb,P.xo+i * 8+6,none⟩)),(50,.int .i64 (alt:Nat)),(51,.bool true),(52,.bool true),(53,.bool true),(54,.pointer (some ⟨ob,0,none⟩)),(55,.int .i64 i),(56,.bool Q),(57,.bool Q),(4,.bool Q)] (fun w'=>Ou its l P ob w'∧Below w.heap.size w w') ?_ ?_
   ·refine wp_region_held (S:=fun w'=>Ou its l P ob w'∧Below w.heap.size w w') (by kernel_rfl) ?_;simp only[jN,jM,jP,Nat.reduceAdd,jI,jJ,jO,jL,jK];refine tK 0 29 (.bool true) 29 rfl hS0 ?_;refine tK 1 30 (.bool true) 28 rfl hS0 ?_;refine tK 2 31 (.pointer (some ⟨ob,0,none⟩)) 27 rfl hS0 ?_;refine tG 3 32 (.pointer (some ⟨ob,0,none⟩)) 26 rfl hS0 ?_;refine tG 4 33 (.pointer (some ⟨ob,3,none⟩)) 25 rfl hS0 ?_;refine tV 5 34 (.pointer (some ⟨P.bd,0,none⟩)) 24 rfl hS0 ?_ (fun wx h=>by have y0:=h.1.c3;go_simp);refine tK 6 35 (.pointer (some ⟨ob,0,none⟩)) 23 rfl hS0 ?_;refine tG 7 36 (.pointer (some ⟨ob,0,none⟩)) 22 rfl hS0 ?_;refine tG 8 37 (.pointer (some ⟨ob,0,none⟩)) 21 rfl hS0 ?_;refine tV 9 38 (.slice (some ⟨P.xb,P.xo,none⟩) n P.icap) 20 rfl hS0 ?_ (fun wx h=>by have y0:=HCI.out wx h.1;go_simp);refine tK 10 39 (.int .i64 i) 19 rfl hS0 ?_;refine tG 11 40 (.pointer (some ⟨P.xb,P.xo+i * 8,none⟩)) 18 rfl hS0 ?_;refine tG 12 41 (.pointer (some ⟨P.xb,P.xo+i * 8+5,none⟩)) 17 rfl hS0 ?_;refine tV 13 42 (.int .i64 (inn:Nat)) 16 rfl hS0 ?_ (fun wx h=>by have y0:=HC5.out wx h.1;go_simp);refine tK 14 43 (.pointer (some ⟨ob,0,none⟩)) 15 rfl hS0 ?_;refine tG 15 44 (.pointer (some ⟨ob,0,none⟩)) 14 rfl hS0 ?_;refine tG 16 45 (.pointer (some ⟨ob,0,none⟩)) 13 rfl hS0 ?_;refine tV 17 46 (.slice (some ⟨P.xb,P.xo,none⟩) n P.icap) 12 rfl hS0 ?_ (fun wx h=>by have y0:=HCI.out wx h.1;go_simp);refine tK 18 47 (.int .i64 i) 11 rfl hS0 ?_;refine tG 19 48 (.pointer (some ⟨P.xb,P.xo+i * 8,none⟩)) 10 rfl hS0 ?_;refine tG 20 49 (.pointer (some ⟨P.xb,P.xo+i * 8+6,none⟩)) 9 rfl hS0 ?_;refine tV 21 50 (.int .i64 (alt:Nat)) 8 rfl hS0 ?_ (fun wx h=>by have y0:=HC6.out wx h.1;go_simp);refine oneC (i:=22) (d:=51) (f:=84) (args:= #[.pointer (some ⟨P.bd,0,none⟩),.int .i64 (inn:Nat),.int .i64 (alt:Nat)]) (v:= .bool true) (fuel:=7) rfl rfl (by kernel_rfl) (by kernel_rfl) (fun _=>by kernel_rfl) hS0 (fun wx h=>Calls.mono (HFA.out wx h.1) (by rintro e w2 ⟨rfl,hb⟩;exact⟨rfl,HLR.out wx w2 h hb⟩)) (fun wz hS122=>?_);simp only[jA,jB,jC];refine tK 23 52 (.bool true) 6 rfl hS122 ?_;refine tK 24 53 (.bool true) 5 rfl hS122 ?_;refine tK 25 54 (.pointer (some ⟨ob,0,none⟩)) 4 rfl hS122 ?_;refine tK 26 55 (.int .i64 i) 3 rfl hS122 ?_;refine oneC (i:=27) (d:=56) (f:=85) (args:= #[.pointer (some ⟨ob,0,none⟩),.int .i64 i]) (v:= .bool Q) (fuel:=2) rfl rfl (by kernel_rfl) (by kernel_rfl) (fun _=>by kernel_rfl) hS122 (fun wx h=>Calls.mono (HBA2.out wx h.1) (by rintro e w2 ⟨rfl,hb⟩;exact⟨rfl,HLR.out wx w2 h hb⟩)) (fun wz hS127=>?_);simp only[jA,jB,jC];refine tK 28 57 (.bool Q) 1 rfl hS127 ?_;refine tK 29 4 (.bool Q) 0 rfl hS127 ?_;refine wpAnyH_done (by kernel_rfl) ?_ _;exact⟨rfl,by kernel_rfl,hS127⟩
   ·intro w9 hF;simp only[setAll,jA,jB,jC];have HF9:Hid _:=hF;clear hF
    go_wp2_with fail
    go_ret
    exact⟨rfl,HF9.out.2⟩
 ·obtain rfl:Q=false:=by
   cases hQ:Q with
   | false=>rfl
   | true=>exact absurd (HP.out.1 hQ).1.2 hL
  clear HP HI1 HBA HIT
  by_cases hr:r=2
  ·subst hr;cases un with
   | true=>
    go_enter Tryz.func56,Tryz.ntmps56
    go_wp2_with fail
    clear g0 g1 g2 g3 f0 f1 f2 f3 c0 c1;obtain⟨w1,hw1⟩:∃w1,w.alloc (.cells #[.int .i64 2,.int .i64 tr,.int .i64 sl,.bool true] 55)=w1:=⟨_,rfl⟩
    rw[hw1] at HO1 HB1 ⊢
    obtain⟨rb,hrb⟩:∃rb,w.heap.size=rb:=⟨_,rfl⟩
    rw[hrb]
    clear hw1;have hS0:Ou its l P ob w1.drew∧Below w.heap.size w w1.drew:=⟨HO1.out.later (Below.refl _ _).drew,HB1.out.trans ((Below.refl _ _).drew)⟩;refine region_thenF [(29,.bool false),(30,.bool false),(31,undef),(32,undef),(33,undef),(34,undef),(35,undef),(36,undef),(37,undef),(38,undef),(39,undef),(40,undef),(41,undef),(42,undef),(43,undef),(44,undef),(45,undef),(46,undef),(47,undef),(48,undef),(49,undef),(50,undef),(51,undef),(52,.bool false),(53,.bool false),(54,undef),(55,undef),(56,undef),(57,.bool false),(4,.bool false)] (fun w'=>Ou its l P ob w'∧Below w.heap.size w w') ?_ ?_
    ·refine wp_region_held (S:=fun w'=>Ou its l P ob w'∧Below w.heap.size w w') (by kernel_rfl) ?_;simp only[jN,jM,jP,Nat.reduceAdd,jI,jJ,jO,jL,jK];refine tK 0 29 (.bool false) 29 rfl hS0 ?_;refine tK 1 30 (.bool false) 28 rfl hS0 ?_;refine tU 2 31 27 rfl hS0 ?_;refine tU 3 32 26 rfl hS0 ?_;refine tU 4 33 25 rfl hS0 ?_;refine tU 5 34 24 rfl hS0 ?_;refine tU 6 35 23 rfl hS0 ?_;refine tU 7 36 22 rfl hS0 ?_;refine tU 8 37 21 rfl hS0 ?_;refine tU 9 38 20 rfl hS0 ?_;refine tU 10 39 19 rfl hS0 ?_;refine tU 11 40 18 rfl hS0 ?_;refine tU 12 41 17 rfl hS0 ?_;refine tU 13 42 16 rfl hS0 ?_;refine tU 14 43 15 rfl hS0 ?_;refine tU 15 44 14 rfl hS0 ?_;refine tU 16 45 13 rfl hS0 ?_;refine tU 17 46 12 rfl hS0 ?_;refine tU 18 47 11 rfl hS0 ?_;refine tU 19 48 10 rfl hS0 ?_;refine tU 20 49 9 rfl hS0 ?_;refine tU 21 50 8 rfl hS0 ?_;refine wpAnyH_all (fuel:=7) (rs:=[22]) (by kernel_rfl) (by decide) (jE.2 ?_);refine wpOp_un (i:=22) (d:=51) rfl rfl (by kernel_rfl) ⟨hS0,?_⟩;simp only[jA,jB,jC];refine tK 23 52 (.bool false) 6 rfl hS0 ?_;refine tK 24 53 (.bool false) 5 rfl hS0 ?_;refine tU 25 54 4 rfl hS0 ?_;refine tU 26 55 3 rfl hS0 ?_;refine wpAnyH_all (fuel:=2) (rs:=[27]) (by kernel_rfl) (by decide) (jE.2 ?_);refine wpOp_un (i:=27) (d:=56) rfl rfl (by kernel_rfl) ⟨hS0,?_⟩;simp only[jA,jB,jC];refine tK 28 57 (.bool false) 1 rfl hS0 ?_;refine tK 29 4 (.bool false) 0 rfl hS0 ?_;refine wpAnyH_done (by kernel_rfl) ?_ _;exact⟨rfl,by kernel_rfl,hS0⟩
    ·intro w9 hF;simp only[setAll,jA,jB,jC];have HF9:Hid _:=hF;clear hF
     go_wp2_with fail
     go_ret
     exact⟨rfl,HF9.out.2⟩
   | false=>
    have ht:¬tr=sl:=fun h=>hL ⟨rfl,rfl,h⟩
    have ht1:decide (tr=sl)=false:=decide_eq_false ht;have ht2:(tr==sl)=false:=by simpa using ht
    clear hL
    go_enter Tryz.func56,Tryz.ntmps56
    go_wp2_with fail
    clear g0 g1 g2 g3 f0 f1 f2 f3 c0 c1;obtain⟨w1,hw1⟩:∃w1,w.alloc (.cells #[.int .i64 2,.int .i64 tr,.int .i64 sl,.bool false] 55)=w1:=⟨_,rfl⟩
    rw[hw1] at HO1 HB1 ⊢
    obtain⟨rb,hrb⟩:∃rb,w.heap.size=rb:=⟨_,rfl⟩
    rw[hrb]
    clear hw1;have hS0:Ou its l P ob w1.drew∧Below w.heap.size w w1.drew:=⟨HO1.out.later (Below.refl _ _).drew,HB1.out.trans ((Below.refl _ _).drew)⟩;refine region_thenF [(29,.bool false),(30,.bool false),(31,undef),(32,undef),(33,undef),(34,undef),(35,undef),(36,undef),(37,undef),(38,undef),(39,undef),(40,undef),(41,undef),(42,undef),(43,undef),(44,undef),(45,undef),(46,undef),(47,undef),(48,undef),(49,undef),(50,undef),(51,undef),(52,.bool false),(53,.bool false),(54,undef),(55,undef),(56,undef),(57,.bool false),(4,.bool false)] (fun w'=>Ou its l P ob w'∧Below w.heap.size w w') ?_ ?_
    ·refine wp_region_held (S:=fun w'=>Ou its l P ob w'∧Below w.heap.size w w') (by kernel_rfl) ?_;simp only[jN,jM,jP,Nat.reduceAdd,jI,jJ,jO,jL,jK];refine tK 0 29 (.bool false) 29 rfl hS0 ?_;refine tK 1 30 (.bool false) 28 rfl hS0 ?_;refine tU 2 31 27 rfl hS0 ?_;refine tU 3 32 26 rfl hS0 ?_;refine tU 4 33 25 rfl hS0 ?_;refine tU 5 34 24 rfl hS0 ?_;refine tU 6 35 23 rfl hS0 ?_;refine tU 7 36 22 rfl hS0 ?_;refine tU 8 37 21 rfl hS0 ?_;refine tU 9 38 20 rfl hS0 ?_;refine tU 10 39 19 rfl hS0 ?_;refine tU 11 40 18 rfl hS0 ?_;refine tU 12 41 17 rfl hS0 ?_;refine tU 13 42 16 rfl hS0 ?_;refine tU 14 43 15 rfl hS0 ?_;refine tU 15 44 14 rfl hS0 ?_;refine tU 16 45 13 rfl hS0 ?_;refine tU 17 46 12 rfl hS0 ?_;refine tU 18 47 11 rfl hS0 ?_;refine tU 19 48 10 rfl hS0 ?_;refine tU 20 49 9 rfl hS0 ?_;refine tU 21 50 8 rfl hS0 ?_;refine wpAnyH_all (fuel:=7) (rs:=[22]) (by kernel_rfl) (by decide) (jE.2 ?_);refine wpOp_un (i:=22) (d:=51) rfl rfl (by kernel_rfl) ⟨hS0,?_⟩;simp only[jA,jB,jC];refine tK 23 52 (.bool false) 6 rfl hS0 ?_;refine tK 24 53 (.bool false) 5 rfl hS0 ?_;refine tU 25 54 4 rfl hS0 ?_;refine tU 26 55 3 rfl hS0 ?_;refine wpAnyH_all (fuel:=2) (rs:=[27]) (by kernel_rfl) (by decide) (jE.2 ?_);refine wpOp_un (i:=27) (d:=56) rfl rfl (by kernel_rfl) ⟨hS0,?_⟩;simp only[jA,jB,jC];refine tK 28 57 (.bool false) 1 rfl hS0 ?_;refine tK 29 4 (.bool false) 0 rfl hS0 ?_;refine wpAnyH_done (by kernel_rfl) ?_ _;exact⟨rfl,by kernel_rfl,hS0⟩
    ·intro w9 hF;simp only[setAll,jA,jB,jC];have HF9:Hid _:=hF;clear hF
     go_wp2_with fail
     go_ret
     exact⟨rfl,HF9.out.2⟩
  ·have hr1:decide (r=2)=false:=decide_eq_false hr;have hr2:(r==2)=false:=by simpa using hr
   clear hL
   go_enter Tryz.func56,Tryz.ntmps56
   go_wp2_with fail
   clear g0 g1 g2 g3 f0 f1 f2 f3 c0 c1;obtain⟨w1,hw1⟩:∃w1,w.alloc (.cells #[.int .i64 r,.int .i64 tr,.int .i64 sl,.bool un] 55)=w1:=⟨_,rfl⟩
   rw[hw1] at HO1 HB1 ⊢
   obtain⟨rb,hrb⟩:∃rb,w.heap.size=rb:=⟨_,rfl⟩
   rw[hrb]
   clear hw1;have hS0:Ou its l P ob w1.drew∧Below w.heap.size w w1.drew:=⟨HO1.out.later (Below.refl _ _).drew,HB1.out.trans ((Below.refl _ _).drew)⟩;refine region_thenF [(29,.bool false),(30,.bool false),(31,undef),(32,undef),(33,undef),(34,undef),(35,undef),(36,undef),(37,undef),(38,undef),(39,undef),(40,undef),(41,undef),(42,undef),(43,undef),(44,undef),(45,undef),(46,undef),(47,undef),(48,undef),(49,undef),(50,undef),(51,undef),(52,.bool false),(53,.bool false),(54,undef),(55,undef),(56,undef),(57,.bool false),(4,.bool false)] (fun w'=>Ou its l P ob w'∧Below w.heap.size w w') ?_ ?_
   ·refine wp_region_held (S:=fun w'=>Ou its l P ob w'∧Below w.heap.size w w') (by kernel_rfl) ?_;simp only[jN,jM,jP,Nat.reduceAdd,jI,jJ,jO,jL,jK];refine tK 0 29 (.bool false) 29 rfl hS0 ?_;refine tK 1 30 (.bool false) 28 rfl hS0 ?_;refine tU 2 31 27 rfl hS0 ?_;refine tU 3 32 26 rfl hS0 ?_;refine tU 4 33 25 rfl hS0 ?_;refine tU 5 34 24 rfl hS0 ?_;refine tU 6 35 23 rfl hS0 ?_;refine tU 7 36 22 rfl hS0 ?_;refine tU 8 37 21 rfl hS0 ?_;refine tU 9 38 20 rfl hS0 ?_;refine tU 10 39 19 rfl hS0 ?_;refine tU 11 40 18 rfl hS0 ?_;refine tU 12 41 17 rfl hS0 ?_;refine tU 13 42 16 rfl hS0 ?_;refine tU 14 43 15 rfl hS0 ?_;refine tU 15 44 14 rfl hS0 ?_;refine tU 16 45 13 rfl hS0 ?_;refine tU 17 46 12 rfl hS0 ?_;refine tU 18 47 11 rfl hS0 ?_;refine tU 19 48 10 rfl hS0 ?_;refine tU 20 49 9 rfl hS0 ?_;refine tU 21 50 8 rfl hS0 ?_;refine wpAnyH_all (fuel:=7) (rs:=[22]) (by kernel_rfl) (by decide) (jE.2 ?_);refine wpOp_un (i:=22) (d:=51) rfl rfl (by kernel_rfl) ⟨hS0,?_⟩;simp only[jA,jB,jC];refine tK 23 52 (.bool false) 6 rfl hS0 ?_;refine tK 24 53 (.bool false) 5 rfl hS0 ?_;refine tU 25 54 4 rfl hS0 ?_;refine tU 26 55 3 rfl hS0 ?_;refine wpAnyH_all (fuel:=2) (rs:=[27]) (by kernel_rfl) (by decide) (jE.2 ?_);refine wpOp_un (i:=27) (d:=56) rfl rfl (by kernel_rfl) ⟨hS0,?_⟩;simp only[jA,jB,jC];refine tK 28 57 (.bool false) 1 rfl hS0 ?_;refine tK 29 4 (.bool false) 0 rfl hS0 ?_;refine wpAnyH_done (by kernel_rfl) ?_ _;exact⟨rfl,by kernel_rfl,hS0⟩
   ·intro w9 hF;simp only[setAll,jA,jB,jC];have HF9:Hid _:=hF;clear hF
    go_wp2_with fail
    go_ret
    exact⟨rfl,HF9.out.2⟩
theorem may54_any {i bo:Nat}(hi:i < its.length)(h:Ou its l P ob w)(hbo:Boxed w bo 70 (.pointer (some ⟨ob,0,none⟩))) :
  Calls Tryz.prog 54 #[.int .i64 (i:Int),.pointer (some ⟨bo,0,none⟩)] w fun e w'=>e= .returned (.bool (mbB its l i || muB its l i))∧Below w.heap.size w w':=by
 have c0:=hbo.cell;have H1:Hid _:=mayBegin_any hi h;have H2:Hid (∀wx,Below w.heap.size w wx→Calls Tryz.prog 56 #[.pointer (some ⟨ob,0,none⟩),.int .i64 (i:Int)] wx fun e w'=>e= .returned (.bool (muB its l i))∧Below wx.heap.size wx w'):=fun wx hb=>mayBeUndone_any hi (h.later hb)
 have HBO:Hid (∀wx,Below w.heap.size w wx→Boxed wx bo 70 (.pointer (some ⟨ob,0,none⟩))):=fun wx hb=>(hb.block bo hbo.lt).trans hbo
 clear h hbo;generalize mbB its l i=b1 at *;generalize muB its l i=b2 at *;cases b1 with
 | true=>
  go_enter Tryz.func54,Tryz.ntmps54
  go_wp2_with fail
  refine Calls.mono H1.out ?_;rintro e w2 ⟨rfl,hb2⟩;have HB:Hid _:=hb2;clear hb2 H1 c0
  go_wp2_with fail
  go_ret
  exact⟨rfl,HB.out⟩
 | false=>
  go_enter Tryz.func54,Tryz.ntmps54
  go_wp2_with fail
  refine Calls.mono H1.out ?_;rintro e w2 ⟨rfl,hb2⟩;have HB:Hid _:=hb2;have H3:Hid _:=H2.out w2 hb2;have c2:=(HBO.out w2 hb2).cell;clear hb2 H1 c0 H2
  go_wp2_with fail
  refine Calls.mono H3.out ?_;rintro e w3 ⟨rfl,hb3⟩;have HB3:Hid _:=HB.out.trans (hb3.mono HB.out.size);clear hb3 H3 c2 HB
  go_wp2_with fail
  go_ret
  exact⟨rfl,HB3.out⟩
end Go.Proofs.YtieoppabellafaaGreatDoor.Ts
namespace Go.Proofs.YtieoppabellafaaGreatDoor.Ts
open Go.RowKit Go.Shelf Fc St Sx Sa Rl
variable {its:List It}{l:List Fa}{P:OuP}{ob:Nat}{w:World}
noncomputable def letB (its:List It)(l:List Fa)(i:Nat):Bool:=mbB its l i || muB its l i
noncomputable def letL (its:List It)(l:List Fa):List Nat:=(List.range its.length).filter (letB its l)
theorem letL_at {n i:Nat}{q:Nat→Bool}(h:i < n):((List.range n).drop i).filter q=(if q i then [i] else []) ++ ((List.range n).drop (i+1)).filter q:=by
 have hl:i < (List.range n).length:=by simpa using h
 rw[zU hl,List.getElem_range,List.filter_cons]
 split <;> rfl
attribute [local go_sem] Oper.semAt_some
structure ThS (bc bl:Nat)(n:Nat)(fv:Value)(w1:World)(J:Nat→World→(Nat→Prop)→Prop)(T:Nat→Prop)(k:Nat)(W:World):Prop where
 j:J k W T
 qc:Boxed W bc 3 (.int .i64 (n:Int))
 ql:Boxed W bl 84 fv
 tc:T bc
 tl:T bl
 bel:Below w1.heap.size w1 W
 own:∀b,T b→b < W.heap.size
theorem ThS.round {bc bl n:Nat}{fv:Value}{w1:World}{J:Nat→World→(Nat→Prop)→Prop}{T:Nat→Prop}{k k':Nat}{W W':World}(h:ThS bc bl n fv w1 J T k W)(hj:J k' W' T)(hr:Rl.Rv w1.heap.size T W W'):ThS bc bl n fv w1 J T k' W':=
 ⟨hj,(hr.keep bc h.tc h.qc.lt).trans h.qc,(hr.keep bl h.tl h.ql.lt).trans h.ql,h.tc,h.tl,h.bel.trans hr.below,fun b hb=>jR (h.own b hb) hr.size⟩
theorem through_itr {w1:World}{bo bc bl n:Nat}(m0:Nat)(h:Ou its l P ob w1)(hn:its.length=n)(hbo:Boxed w1 bo 70 (.pointer (some ⟨ob,0,none⟩)))(T:Nat→Prop)(w:World)(hbw:Below w1.heap.size w1 w)(hbc:Boxed w bc 3 (.int .i64 (n:Int)))(hbl:Boxed w bl 84 (.func (.func 54) #[] #[.pointer (some ⟨bo,0,none⟩)]))(tc:T bc)(tl:T bl)(hown:∀b,T b→b < w.heap.size) :
  Rl.Itr Tryz.prog 86 #[.pointer (some ⟨bc,0,none⟩),.pointer (some ⟨bl,0,none⟩)] encN (letL its l) w1.heap.size m0 T w:=by
 intro li J Jx W hW hJ hJx hY hJ0;have HY:Hid _:=hY;have HJ:Hid _:=hJ;have H0:Hid (ThS bc bl n (.func (.func 54) #[] #[.pointer (some ⟨bo,0,none⟩)]) w1 J T 0 W):=⟨hJ0,(hW.block bc hbc.lt).trans hbc,(hW.block bl hbl.lt).trans hbl,tc,tl,hbw.trans (hW.mono hbw.size),fun b hb=>jR (hown b hb) hW.size⟩;have hfew:=h.few;have HL:Hid (∀(i:Nat) wx,i < n→Below w1.heap.size w1 wx→Calls Tryz.prog 54 #[.int .i64 (i:Int),.pointer (some ⟨bo,0,none⟩)] wx fun e w'=>e= .returned (.bool (letB its l i))∧Below wx.heap.size wx w'):=fun i wx hi hb=>may54_any (by omega) (h.later hb) ((hb.block bo hbo.lt).trans hbo)
 obtain⟨xs,HX⟩:∃xs,Hid (xs=letL its l):=⟨_,rfl⟩
 have HD0:Hid (xs.drop 0=((List.range n).drop 0).filter (letB its l)∧0≤xs.length):=⟨by rw[HX.out,←hn];rfl,zE _⟩;rw[←HX.out] at HY ⊢
 obtain⟨R,HR⟩:∃R:Ending→World→Prop,Hid (R=fun e W2=>∃v T2,e= .returned v∧(J xs.length W2 T2∨∃k,k < xs.length∧Jx (k+1) W2 T2)∧(∀b,b < W.heap.size→(T2 b↔T b))∧(∀b,T2 b→b < W2.heap.size)):=⟨_,rfl⟩
 rw[←HR.out]
 rw[hn] at hfew
 have c0:=H0.out.qc.cell;clear h hbo hJ hJx hY hJ0 hW hbw hbc hbl tc tl hown HX hn;generalize letB its l=lf at *;refine callsIn_of_wp Tryz.func86 rfl trivial ?_ rfl;simp only[Tryz.ntmps86,jN,jM,jP,Nat.reduceAdd,Nat.reduceSub,jI,jJ,jO,zN,jL,jK]
 gi_wp2
 clear c0
 gi_loopw [6] (fun iv wr=>∃(i k:Nat),iv= .int .i64 i∧i≤n∧Hid (ThS bc bl n (.func (.func 54) #[] #[.pointer (some ⟨bo,0,none⟩)]) w1 J T k wr)∧Hid (xs.drop k=((List.range n).drop i).filter lf∧k≤xs.length)) (fun iv _=>n - (intOf iv).toNat)
 case atStart=>exact⟨0,0,rfl,zE _,H0,HD0⟩
 case round=>
  obtain⟨i,k,rfl,hi,HF,HD⟩:=hrel
  rename World=>wr
  clear H0 HD0
  by_cases hlt:i < n
  ·have y0:=HF.out.ql.cell;have hcf:∀wx,(callFunc 54 #[.int .i64 (i:Int),.pointer (some ⟨bo,0,none⟩)]).run Tryz.prog wx= .ok (.enter 54 #[.int .i64 (i:Int),.pointer (some ⟨bo,0,none⟩)]) wx:=fun wx=>enters_of Tryz.func54 (by kernel_rfl) rfl _ _
   have HC:Hid _:=HL.out i wr hlt HF.out.bel;have hdr:=HD.out.1;rw[letL_at hlt] at hdr
   have HDR:Hid _:=hdr;have hKL:k≤xs.length:=HD.out.2;have hii:(i:Int) < (n:Int):=by omega
   clear hdr HD;generalize lf i=q at *
   gi_wp2
   refine⟨trivial,rfl,(callsIn_wide.2 HC.out).mono ?_⟩
   rintro e w3 ⟨rfl,hb3⟩;have HF3:Hid (ThS bc bl n (.func (.func 54) #[] #[.pointer (some ⟨bo,0,none⟩)]) w1 J T k w3):=HF.out.round (HJ.out _ _ _ _ _ HF.out.j (Rl.Mv.of_below hb3)) (Rl.Rv.of_below hb3 HF.out.bel.size);clear y0 HC hb3 HF hcf;cases q with
   | true=>
    obtain⟨h1,h2,h3⟩:=drop_cons (show xs.drop k=i :: ((List.range n).drop (i+1)).filter lf from HDR.out)
    have HD5:Hid (xs.drop (k+1)=((List.range n).drop (i+1)).filter lf∧k+1≤xs.length):=⟨h2,h3⟩;have HK2:Hid (k < xs.length):=h3;obtain⟨fnn,tms,asg,bdy,hy,hR⟩:=HY.out k i #[.int .i64 (i:Int)] w3.heap.size w3 T h1 rfl ⟨w3,T,HF3.out.j,rfl,Rl.Mv.refl _ _⟩ HF3.out.j HF3.out.own 0
    clear h1 h2 h3 HDR hKL
    gi_wp2
    refine⟨rfl,hR.mono ?_⟩
    rintro e W5 ⟨t,rfl,ht1,ht2⟩;cases t with
    | true=>
     obtain⟨hj5,hrv⟩:=ht1 rfl
     have HF5:Hid _:=HF3.out.round hj5 hrv;clear ht1 ht2 hrv hj5 hy hR HF3
     gi_wp2
     go_roundw
     case rel=>exact⟨i+1,k+1,by go_num,by omega,HF5,HD5⟩
     case measure=>simp[intOf] <;> omega
    | false=>
     obtain⟨hj5,hrv⟩:=ht2 rfl
     have HJ5:Hid _:=hj5;have HF5:Hid (∀b,T b→b < W5.heap.size):=fun b hb=>jR (HF3.out.own b hb) hrv.size
     clear ht1 ht2 hrv hj5 hy hR HF3
     gi_wp2
     refine bodyPost_ret (results_none rfl _ _) rfl ?_;rw[HR.out]
     exact⟨_,T,rfl,.inr ⟨k,HK2.out,HJ5.out⟩,fun _ _=>Iff.rfl,HF5.out⟩
   | false=>
    have HD5:Hid (xs.drop k=((List.range n).drop (i+1)).filter lf∧k≤xs.length):=⟨HDR.out,hKL⟩;clear HDR hKL
    gi_wp2
    refine⟨fun f h=>(by cases h),?_⟩
    gi_wp2
    go_roundw
    case rel=>exact⟨i+1,k,by go_num,by omega,HF3,HD5⟩
    case measure=>simp[intOf] <;> omega
  ·have HKX:Hid (k=xs.length):=by
    refine drop_all ?_ HD.out.2;rw[HD.out.1,List.drop_eq_nil_of_le (by simp;omega)]
    rfl
   gi_wp2
   refine bodyPost_ret (results_none rfl _ _) rfl ?_;rw[HR.out]
   refine⟨_,T,rfl,.inl ?_,fun _ _=>Iff.rfl,HF.out.own⟩
   have:=HF.out.j;rw[HKX.out] at this
   exact this
theorem through_maker (n:Int)(g:Fn)(c:Array Value)(w:World):Calls Tryz.prog 58 #[.int .i64 n,.func g #[] c] w fun e w'=>e= .returned (.func (.func 86) #[] #[.pointer (some ⟨w.heap.size,0,none⟩),.pointer (some ⟨w.heap.size+1,0,none⟩)])∧w'=(w.alloc (.cells #[.int .i64 n] 3)).alloc (.cells #[.func g #[] c] 84):=by
 go_enter Tryz.func58,Tryz.ntmps58
 go_wp2_with fail
 go_ret
 exact⟨rfl,rfl⟩
theorem keys_maker (w:World):Calls Tryz.prog 28 #[.pointer (some ⟨ob,0,none⟩)] w fun e w'=>e= .returned (.func (.func 57) #[] #[.pointer (some ⟨w.heap.size,0,none⟩),.pointer (some ⟨w.heap.size+1,0,none⟩)])∧w'=(w.alloc (.cells #[.pointer (some ⟨ob,0,none⟩)] 70)).alloc (.cells #[.func (.func 54) #[] #[.pointer (some ⟨w.heap.size,0,none⟩)]] 84):=by
 go_enter Tryz.func28,Tryz.ntmps28
 go_wp2_with fail
 go_ret
 exact⟨rfl,rfl⟩
theorem results_key {fn:Func}{p:Tmp}(h:fn.results= #[.cell p 47])(tmps:Array Value)(w:World)(g:Nat)(cs:Array Value)(fr:Nat × Nat)
  (hp:tmps.getD p undef= .pointer (some ⟨g,0,none⟩)) (hg:w.heap[g]? =some (.cells cs 47 fr)) (hs:cs.size=3):(results fn tmps).run Tryz.prog w= .ok (.agg cs) w:=
 results_cell_row (p:=p) (ty:=47) h _ _ g 47 cs fr _ hp hg Tryz.underlying47 rfl (by rw[hs];kernel_rfl)
def keyOfF (i:Nat)(f:Fa):Nat × Bool × Int:=if f.run=0 then (i,false,0) else (i,true,f.slips)
theorem keyOf_any (i:Nat)(f:Fa)(w:World):Calls Tryz.prog 59 #[.int .i64 (i:Int),FaV f] w fun e w'=>e= .returned (.agg (keyC (keyOfF i f)).toArray)∧Below w.heap.size w w':=by
 unfold FaV;obtain⟨v,HV⟩:∃v,Hid (v=keyC (keyOfF i f)):=⟨_,rfl⟩
 rw[←HV.out]
 have hv0:v=[.int .i64 (i:Int),.bool (!decide (f.run=0)),.int .i64 (if f.run=0 then 0 else f.slips)]:=by
  rw[HV.out]
  unfold keyOfF keyC
  by_cases h:f.run=0 <;> simp[h]
 have HV0:Hid _:=hv0;clear HV hv0;have b1:=bl1 w (.cells #[.int .i64 f.run,.int .i64 f.tries,.int .i64 f.slips,.bool f.un] 55);have b2:=bl1 (w.alloc (.cells #[.int .i64 f.run,.int .i64 f.tries,.int .i64 f.slips,.bool f.un] 55)) (.cells #[.int .i64 0,.bool false,.int .i64 0] 47);have HBB:Hid _:=b1.trans (b2.mono b1.size);have r1:=Dg.row_alloc (Dg.row_new w #[.int .i64 f.run,.int .i64 f.tries,.int .i64 f.slips,.bool f.un] 55) (.cells #[.int .i64 0,.bool false,.int .i64 0] 47);have r2:=Dg.row_new (w.alloc (.cells #[.int .i64 f.run,.int .i64 f.tries,.int .i64 f.slips,.bool f.un] 55)) #[.int .i64 0,.bool false,.int .i64 0] 47;rw[jV] at r2
 have c0:=(Dg.cell_row r1 0).trans rfl;have c2:=(Dg.cell_row r1 2).trans rfl;have HR2:Hid _:=r2;have d0:=(Dg.cell_row r2 0).trans rfl;have d1:=(Dg.cell_row r2 1).trans rfl;have d2:=(Dg.cell_row r2 2).trans rfl;have g0:=Dg.froz_row r2 0;have g1:=Dg.froz_row r2 1;have g2:=Dg.froz_row r2 2;clear b1 b2 r1 r2;generalize f.run=r at *;generalize f.tries=tr at *;generalize f.slips=sl at *;generalize f.un=un at *
 by_cases hr:r=0
 ·subst hr
  go_enter Tryz.func59,Tryz.ntmps59
  go_wp2_with fail
  have r3:=Dg.row_new (w.alloc (.cells #[.int .i64 0,.int .i64 tr,.int .i64 sl,.bool un] 55)) #[.int .i64 (i:Int),.bool false,.int .i64 0] 47;rw[jV] at r3
  refine⟨rfl,_,results_key (p:=4) rfl _ _ (w.heap.size+1) _ (0,0) rfl r3 rfl,?_,(bl1 w _).alloc (by simp) _⟩
  rw[HV0.out]
  simp
 ·have hr1:decide (r=0)=false:=decide_eq_false hr;have hr2:(r==0)=false:=by simpa using hr
  go_enter Tryz.func59,Tryz.ntmps59
  go_wp2_with fail
  have r3:=Dg.row_new (w.alloc (.cells #[.int .i64 r,.int .i64 tr,.int .i64 sl,.bool un] 55)) #[.int .i64 (i:Int),.bool true,.int .i64 sl] 47;rw[jV] at r3
  refine⟨rfl,_,results_key (p:=4) rfl _ _ (w.heap.size+1) _ (0,0) rfl r3 rfl,?_,(bl1 w _).alloc (by simp) _⟩
  rw[HV0.out]
  simp[hr]
end Go.Proofs.YtieoppabellafaaGreatDoor.Ts
namespace Go.Proofs.YtieoppabellafaaGreatDoor.Ts
open Go.RowKit Fc Sa
variable {P:Program}{ops:Array Oper}{Q:Exit→Act→World→Prop}{md:Region.Mode}{S:World→Prop}{l n:Nat}
def anyR (l n:Nat)(P:Program)(md:Region.Mode)(ops:Array Oper)(Q:Exit→Act→World→Prop)(S:World→Prop):Nat→Array Bool→Act→World→Prop
 | 0,ls,a,w=>Region.ready md ops ls=[]∧Q .normal a w
 | k+1,ls,a,w=>(Region.ready md ops ls=[]→Q .normal a w)∧∀i∈Region.ready md ops ls,wpOpIn (Fence.wide.inRound l) n P ops Q i (fun a' w'=>S w'∧anyR l n P md ops Q S k (ls.setIfInBounds i true) a' w') a w
theorem anyR_in:∀(k:Nat) (ls:Array Bool) (a:Act) (w:World),anyR l n P md ops Q S k ls a w→wpAnyIn (Fence.wide.inRound l) n P md ops Q k ls a w
 | 0,_,_,_,h=>h
 | k+1,_,_,_,h=>⟨h.1,fun i hi=>wpOpIn_mono (fun a' w' h'=>anyR_in k _ a' w' h'.2) (h.2 i hi)⟩
theorem opR_val {i:Nat}{o:Oper}{v:Value}{a:Act}{w:World}{K:Act→World→Prop}(hnd:∀c,o.op≠.defer c)(hi:ops[i]? =some o)(hy:YieldsIf P ops S o v a)(hS:S w)(h:K (a.put o.dst v) w):wpOpIn (Fence.wide.inRound l) n P ops Q i K a w:=by
 unfold Go.wpOpIn;simp only[hi]
 rcases hy with ⟨hw,hv⟩ | ⟨hw,rfl⟩
 ·rw[if_pos hw]
  refine⟨fun f _=>trivial,?_⟩
  rw[Oper.semAt_eq _ _ _ hnd,hv w hS]
  exact h
 ·rw[if_neg (by rw[hw];decide)]
  exact⟨fun f _=>trivial,h⟩
theorem opR_put {i j:Nat}{oi oj:Oper}{v:Value}(hnd:∀c,oj.op≠.defer c)(hj:ops[j]? =some oj)(hap:oi.apart ops oj=true)(hsi:∀cs b,oi.op≠.select cs b)(hsj:∀cs b,oj.op≠.select cs b)
  (hQ:∀c a w,Q (.panic c) (a.put oi.dst v) w→Q (.panic c) a w) {K:Act→World→Prop} {a:Act} {w:World} (hy:YieldsIf P ops S oi v a) (h:wpOpIn (Fence.wide.inRound l) n P ops Q j K (a.put oi.dst v) w) :
  wpOpIn (Fence.wide.inRound l) n P ops Q j (fun a' w'=>YieldsIf P ops S oi v a'∧K (a'.put oi.dst v) w') a w:=by
 obtain⟨p1,p2,p3⟩:=Oper.apart_spec hap
 have kp:∀u,YieldsIf P ops S oi v (a.put oj.dst u):=fun u=>hy.of_same (execOp_put oi hsi a oj.dst u p3) (wanted_put oi a oj.dst u p3)
 have sw:∀{u:Value} {w'':World},K ((a.put oi.dst v).put oj.dst u) w''→K ((a.put oj.dst u).put oi.dst v) w'':=fun {u} {w''} hk=>by rw[←Act.put_comm a v u p2];exact hk
 unfold Go.wpOpIn at *;simp only[hj] at *;rw[wanted_put oj a oi.dst v p1] at h
 by_cases hw:Region.wanted oj (yielded ops a.tmps)=true
 rotate_left
 ·rw[if_neg hw] at h ⊢
  exact⟨fun f _=>trivial,kp _,sw h.2⟩
 rw[if_pos hw] at h ⊢
 refine⟨fun f _=>trivial,?_⟩
 have h:=h.2;rw[Oper.semAt_eq _ _ _ hnd,execOp_put oj hsj a oi.dst v p1] at h
 rw[Oper.semAt_eq _ _ _ hnd]
 cases hr:(execOp a.eval oj).run P w with
 | halt x w'=>
  rw[hr] at h
  cases x <;> simp only[Oper.uponIn] at h ⊢
  case panic u=>exact hQ _ _ _ h
 | ok x w'=>
  rw[hr] at h
  cases x <;> simp only[Oper.uponIn] at h ⊢
  case value u=>exact⟨kp u,sw h⟩
  case skip=>exact⟨kp _,sw h⟩
  case defer d=>
   refine⟨(show YieldsIf P ops S oi v {a with defers:=d :: a.defers} from hy.of_same rfl rfl).of_same (execOp_put oi hsi _ oj.dst _ p3) (wanted_put oi _ oj.dst _ p3),?_⟩
   rw[←Act.put_comm _ v undef p2,←Act.put_defers]
   exact h
  case enter f args=>
   refine⟨h.1,CallsIn.mono h.2 fun e w'' he=>?_⟩
   cases e with
   | returned u=>exact⟨kp u,sw he⟩
   | panicked c=>exact hQ _ _ _ he
   | outgrown=>exact he
  case row r args=>exact⟨h.1,RowsIn.mono h.2 fun u w'' he=>⟨kp u,sw he⟩⟩
  case round l' f t cas bd=>
   refine⟨h.1,RoundIn.mono h.2 fun e w'' he=>?_⟩
   cases e with
   | returned u=>exact⟨kp u,sw he⟩
   | panicked c=>exact hQ _ _ _ he
   | outgrown=>exact he
theorem anyR_first {i:Nat}{oi:Oper}{v:Value}(hnd:∀(i:Nat) (o:Oper),ops[i]? =some o→∀c,o.op≠.defer c)(hi:ops[i]? =some oi)(hsel:∀(j:Nat) (o:Oper) cs b,ops[j]? =some o→o.op≠.select cs b)(hQ:∀c a w,Q (.panic c) (a.put oi.dst v) w→Q (.panic c) a w) :
  ∀(k:Nat) (ls:Array Bool) (a:Act) (w:World),(∀j oj,ops[j]? =some oj→j≠i→ls.getD j true=false→(∀e∈oj.after,Region.binds md e=true→e.on≠i)→oi.apart ops oj=true)→
   i∈Region.ready md ops ls→YieldsIf P ops S oi v a→S w→anyR l n P md ops Q S k (ls.setIfInBounds i true) (a.put oi.dst v) w→anyR l n P md ops Q S (k+1) ls a w:=by
 intro k
 induction k with
 | zero=>
  intro ls a w _ hr hy hS H;refine⟨(fun h=>by rw[h] at hr;cases hr),fun j hj=>?_⟩
  by_cases e:j=i
  ·subst e;exact opR_val (hnd _ _ hi) hi hy hS ⟨hS,H⟩
  ·have h9:=ready_mono hj e;rw[H.1] at h9
   cases h9
 | succ k ih=>
  intro ls a w hfree hr hy hS H;refine⟨(fun h=>by rw[h] at hr;cases hr),fun j hj=>?_⟩
  by_cases e:j=i
  ·subst e;exact opR_val (hnd _ _ hi) hi hy hS ⟨hS,H⟩
  obtain⟨hun,oj,hoj,hall⟩:=mem_ready.1 hj
  have hno:∀e∈oj.after,Region.binds md e=true→e.on≠i:=fun e he hb h9=>by
   have q1:=hall e he hb;have q0:=(mem_ready.1 hr).1;rw[h9] at q1
   rcases Nat.lt_or_ge i ls.size with h' | h'
   ·simp[h'] at q0 q1
    rw[q0] at q1
    cases q1
   ·simp[Array.getElem?_eq_none h'] at q1
  refine wpOpIn_mono (fun a' w' h3=>⟨h3.2.1,ih (ls.setIfInBounds j true) a' w' (fun q oq hoq hqi hqu hqn=>?_) (ready_mono hr (Ne.symm e)) h3.1 h3.2.1 ?_⟩) (opR_put (i:=i) (hnd j oj hoj) hoj (hfree j oj hoj e hun hno) (fun cs b=>hsel i oi cs b hi) (fun cs b=>hsel j oj cs b hoj) hQ hy (H.2 j (ready_mono hj e)))
  ·refine hfree q oq hoq hqi ?_ hqn
   by_cases hjq:j=q
   ·subst hjq;exact hun
   ·rw[getD_set_ne true hjq] at hqu
    exact hqu
  ·rw[Array.setIfInBounds_comm _ _ e]
   exact h3.2.2
theorem takeR {i:Nat}{oi:Oper}{d:Tmp}{v:Value}{fuel:Nat}{listed:Array Bool}{a:Act}{w:World}(hnd:ops.all noDefer=true)(hi:ops[i]? =some oi)(hd:oi.dst=some d)
  (hs:Region.noSelect ops=true) (hf:Region.free md ops listed i=true) (hr:(Region.ready md ops listed).contains i=true)
  (hQ:∀c a w,Q (.panic c) {tmps:=a.tmps.setIfInBounds d v,defers:=a.defers} w→Q (.panic c) a w) (hy:YieldsIf P ops S oi v a) (hS:S w)
  (h:anyR l n P md ops Q S fuel (listed.setIfInBounds i true) {tmps:=a.tmps.setIfInBounds d v,defers:=a.defers} w):anyR l n P md ops Q S (fuel+1) listed a w:=by
 have hp:∀a:Act,a.put oi.dst v= {tmps:=a.tmps.setIfInBounds d v,defers:=a.defers} :=fun a=>by rw[hd];rfl
 refine anyR_first (noDefer_all hnd) hi (Region.noSelect_spec hs) (fun c a w h=>hQ c a w (by rw[hp] at h;exact h)) fuel listed a w (Region.free_spec hi hf) (by simpa using hr) hy hS ?_;rw[hp]
 exact h
theorem callR {i:Nat}{o:Oper}{d:Tmp}{f:FuncId}{args:Array Value}{v:Value}{fuel:Nat}{listed:Array Bool}{a:Act}{w:World}{R:World→Prop}(hi:ops[i]? =some o)(hnd:∀c,o.op≠.defer c)(hd:o.dst=some d)(hr:Region.ready md ops listed=[i])(hw:Region.wanted o (yielded ops a.tmps)=true)(hrun:∀wx,(execOp a.eval o).run P wx= .ok (.enter f args) wx)
  (hc:Calls P f args w fun e w'=>e= .returned v∧R w') (hRS:∀w',R w'→S w')
  (h:∀w',R w'→anyR l n P md ops Q S fuel (listed.setIfInBounds i true) {tmps:=a.tmps.setIfInBounds d v,defers:=a.defers} w'):anyR l n P md ops Q S (fuel+1) listed a w:=by
 have hp:a.put o.dst v= {tmps:=a.tmps.setIfInBounds d v,defers:=a.defers} :=by rw[hd];rfl
 refine⟨(fun h0=>by rw[hr] at h0;cases h0),fun j hj=>?_⟩
 rw[hr] at hj
 obtain rfl:=zY.1 hj;unfold Go.wpOpIn;simp only[hi];rw[if_pos hw]
 refine⟨fun f _=>trivial,?_⟩
 rw[Oper.semAt_eq _ _ _ hnd,hrun w]
 refine⟨(fun hd=>by cases hd),(CallsIn.inRound l (callsIn_wide.2 hc)).mono ?_⟩
 rintro e w' ⟨rfl,hR⟩;refine⟨hRS w' hR,?_⟩
 rw[hp]
 exact h w' hR
theorem yieldR {i:Nat}{o:Oper}{d:Tmp}{fuel:Nat}{listed:Array Bool}{a:Act}{w:World}{R:Bool→World→Prop}{l':Nat}{f':FuncId}{t':Array Value}{cas bd:Code}(hi:ops[i]? =some o)(hnd:∀c,o.op≠.defer c)(hd:o.dst=some d)(hr:Region.ready md ops listed=[i])(hw:Region.wanted o (yielded ops a.tmps)=true)(hrun:(execOp a.eval o).run P w= .ok (.round l' f' t' cas bd) w)
  (hc:RoundIn Fence.wide (n - 1) P l' f' t' cas bd w fun e w'=>∃t:Bool,e= .returned (.bool t)∧R t w') (hRS:∀t w',R t w'→S w')
  (h:∀t w',R t w'→anyR l n P md ops Q S fuel (listed.setIfInBounds i true) {tmps:=a.tmps.setIfInBounds d (.bool t),defers:=a.defers} w'):anyR l n P md ops Q S (fuel+1) listed a w:=by
 have hp:∀v,a.put o.dst v= {tmps:=a.tmps.setIfInBounds d v,defers:=a.defers} :=fun v=>by rw[hd];rfl
 refine⟨(fun h0=>by rw[hr] at h0;cases h0),fun j hj=>?_⟩
 rw[hr] at hj
 obtain rfl:=zY.1 hj;unfold Go.wpOpIn;simp only[hi];rw[if_pos hw]
 refine⟨fun f _=>trivial,?_⟩
 rw[Oper.semAt_eq _ _ _ hnd,hrun]
 refine⟨(fun hd=>by cases hd),RoundIn.mono (F:=Fence.wide.inRound l) hc ?_⟩
 rintro e w' ⟨t,rfl,hR⟩;refine⟨hRS t w' hR,?_⟩
 rw[hp]
 exact h t w' hR
theorem doneR {listed:Array Bool}{a:Act}{w:World}(hr:Region.ready md ops listed=[])(h:Q .normal a w):∀fuel,anyR l n P md ops Q S fuel listed a w
 | 0=>⟨hr,h⟩
 | _+1=>⟨fun _=>h,by rw[hr];simp⟩
theorem regionR {id:Nat}{a:Act}{w:World}{β:Type}(L:β→List (Nat × Value))(F:β→World→Prop)(hm:P.follows .mixedOrders=true)
  (h:anyR l n P .any ops (fun e a' w'=>e= .normal∧∃z,a'= {tmps:=setAll a.tmps (L z),defers:=a.defers}∧F z w') S ops.size (Array.replicate ops.size false) a w.drew)
  (h2:∀z w',F z w'→Q .normal {tmps:=setAll a.tmps (L z),defers:=a.defers} w'):(Code.region id ops true).wpIn (Fence.wide.inRound l) n P Q a w:=by
 refine wpIn_mono (wpIn_region_any hm (anyR_in _ _ _ _ h)) ?_;rintro e a' w' ⟨rfl,z,rfl,hF⟩;exact h2 z w' hF
end Go.Proofs.YtieoppabellafaaGreatDoor.Ts
