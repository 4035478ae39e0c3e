/- Texts of the seat, packed: Af. -/
import Derived.Test.YtieoppabellafaaGreatDoorP33
import Derived.Test.YtieoppabellafaaGreatDoorP35
import Derived.TacticsInMore
set_option maxRecDepth 1000000
set_option maxHeartbeats 64000000
set_option linter.unusedVariables false
namespace Go.Proofs.YtieoppabellafaaGreatDoor.Ts
open Go.RowKit Go.Shelf Fc St Sx Sa Rl
variable {its:List It}{l:List Fa}{P:OuP}{ob:Nat}{w:World}
theorem over_maker (v:Value)(i:Int)(a:Option Addr)(hv:v= .pointer a)(w:World):Calls Tryz.prog 122 #[v,.int .i64 i] w fun e w'=>e= .returned (.func (.func 153) #[] #[.pointer (some ⟨w.heap.size,0,none⟩),.pointer (some ⟨w.heap.size+1,0,none⟩)])∧w'=(w.alloc (.cells #[v] 70)).alloc (.cells #[.int .i64 i] 3):=by
 subst hv
 go_enter Tryz.func122,Tryz.ntmps122
 go_wp2_with fail
 go_ret
 exact⟨rfl,rfl⟩
theorem results_bool {fn:Func}{p:Tmp}(h:fn.results= #[.cell p 4])(tmps:Array Value)(w:World)(g:Nat)(q:Bool)(fr:Nat × Nat)
  (hp:tmps.getD p undef= .pointer (some ⟨g,0,none⟩)) (hg:w.heap[g]? =some (.cells #[.bool q] 4 fr)):(results fn tmps).run Tryz.prog w= .ok (.bool q) w:=by
 have hp':tmps[p]?.getD undef= .pointer (some ⟨g,0,none⟩):=by simpa using hp
 have hc:w.cell? ⟨g,0,none⟩=some (.bool q):=(cell_of_row w g 0 #[.bool q] 4 fr hg).trans rfl;simp[results,h,hp',asAddr]
 go_simp
structure BaI (w4:World)(its:List It)(l:List Fa)(xs:List Nat)(k:Nat)(V:World)(TB:Nat→Prop):Prop where
 bel:Below w4.heap.size w4 V
 own:∀b,TB b→w4.heap.size≤b
 all:∀j m,j < k→xs[j]? =some m→cleS its l (m:Int)=true
theorem BaI.mv {w4:World}{xs:List Nat}{k:Nat}{V V':World}{TB TB':Nat→Prop}(h:BaI w4 its l xs k V TB)(hm:Rl.Mv TB V TB' V'):BaI w4 its l xs k V' TB':=by
 refine⟨hm.below h.bel (fun b hb ht=>by have:=h.own b ht;omega) h.bel.size,fun b hb=>?_,h.all⟩
 by_cases hlt:b < V.heap.size
 ·exact h.own b ((hm.old b hlt).1 hb)
 ·have:=h.bel.size;omega
structure BaX (w w4:World)(rc:Nat)(its:List It)(l:List Fa)(xs:List Nat)(c:Code)(V:World)(TB:Nat→Prop):Prop where
 ret:c= .ret
 ex:∃m∈xs,cleS its l (m:Int)=false
 cell:V.heap[rc]? =some (.cells #[.bool false] 4 (0,0))
 bel:Below w.heap.size w V
 own:∀b,TB b→w4.heap.size≤b
 sz:w4.heap.size≤V.heap.size
 lt:rc < w4.heap.size
 le:w.heap.size≤w4.heap.size
theorem BaX.mv {w w4:World}{rc:Nat}{xs:List Nat}{c:Code}{V V':World}{TB TB':Nat→Prop}(h:BaX w w4 rc its l xs c V TB)(hm:Rl.Mv TB V TB' V'):BaX w w4 rc its l xs c V' TB':=by
 have hlt:=h.lt;have hsz:=h.sz;refine⟨h.ret,h.ex,(hm.same rc (by omega) (fun ht=>by have:=h.own rc ht;omega)).trans h.cell,hm.below h.bel (fun b hb ht=>by have:=h.own b ht;have:=h.le;omega) (by have:=h.le;omega),fun b hb=>?_,Nat.le_trans hsz hm.size,hlt,h.le⟩
 by_cases hb2:b < V.heap.size
 ·exact h.own b ((hm.old b hb2).1 hb)
 ·omega
attribute [local go_sem] Oper.semAt_some
theorem bare_any {i:Nat}(h1:1≤i)(hi:i < its.length)(h:Ou its l P ob w) :
  Calls Tryz.prog 85 #[.pointer (some ⟨ob,0,none⟩),.int .i64 (i:Int)] w fun e w'=>e= .returned (.bool (baB its l i))∧Below w.heap.size w w':=by
 have HBI:Hid _:=bare_iff h.chk h1 hi;obtain⟨Q,HQ⟩:∃Q,Hid (Q=baB its l i):=⟨_,rfl⟩
 rw[←HQ.out] at HBI ⊢
 obtain⟨s,hs⟩:∃s,w.heap.size=s:=⟨_,rfl⟩
 have q0:=((((Boxed.new w 70 (.pointer (some ⟨ob,0,none⟩))).alloc (.cells #[.bool false] 4)).alloc (.cells #[.pointer (some ⟨ob,0,none⟩)] 70)).alloc (.cells #[.int .i64 (i:Int)] 3));have q2:=((Boxed.new ((w.alloc (.cells #[.pointer (some ⟨ob,0,none⟩)] 70)).alloc (.cells #[.bool false] 4)) 70 (.pointer (some ⟨ob,0,none⟩))).alloc (.cells #[.int .i64 (i:Int)] 3));have q3:=Boxed.new (((w.alloc (.cells #[.pointer (some ⟨ob,0,none⟩)] 70)).alloc (.cells #[.bool false] 4)).alloc (.cells #[.pointer (some ⟨ob,0,none⟩)] 70)) 3 (.int .i64 (i:Int));have q1:=Dg.row_alloc (Dg.row_alloc (Dg.row_new (w.alloc (.cells #[.pointer (some ⟨ob,0,none⟩)] 70)) #[.bool false] 4) (.cells #[.pointer (some ⟨ob,0,none⟩)] 70)) (.cells #[.int .i64 (i:Int)] 3);have hb4:Below w.heap.size w ((((w.alloc (.cells #[.pointer (some ⟨ob,0,none⟩)] 70)).alloc (.cells #[.bool false] 4)).alloc (.cells #[.pointer (some ⟨ob,0,none⟩)] 70)).alloc (.cells #[.int .i64 (i:Int)] 3)):=((((Below.refl _ w).alloc (Nat.le_refl _) _).alloc (by simp) _).alloc (by simp;omega) _).alloc (by simp;omega) _;have hsz4:((((w.alloc (.cells #[.pointer (some ⟨ob,0,none⟩)] 70)).alloc (.cells #[.bool false] 4)).alloc (.cells #[.pointer (some ⟨ob,0,none⟩)] 70)).alloc (.cells #[.int .i64 (i:Int)] 3)).heap.size=s+4:=by simp[hs]
 simp only[World.size_alloc,hs] at q0 q1 q2 q3;have HMK:Hid _:=over_maker (.pointer (some ⟨ob,0,none⟩)) (i:Int) (some ⟨ob,0,none⟩) rfl ((w.alloc (.cells #[.pointer (some ⟨ob,0,none⟩)] 70)).alloc (.cells #[.bool false] 4));simp only[World.size_alloc,hs] at HMK;have c0:=((Boxed.new w 70 (.pointer (some ⟨ob,0,none⟩))).alloc (.cells #[.bool false] 4)).cell;rw[hs] at c0
 obtain⟨w4,hw4⟩:∃w4,(((w.alloc (.cells #[.pointer (some ⟨ob,0,none⟩)] 70)).alloc (.cells #[.bool false] 4)).alloc (.cells #[.pointer (some ⟨ob,0,none⟩)] 70)).alloc (.cells #[.int .i64 (i:Int)] 3)=w4:=⟨_,rfl⟩
 rw[hw4] at q0 q1 q2 q3 hb4 hsz4 HMK
 have HO4:Hid (Ou its l P ob w4):=h.later hb4;have HITR:Hid _:=over_itr 0 HO4.out q2 q3 hi;have HQ0:Hid _:=q0;have HQ1:Hid _:=q1;have HB4:Hid _:=hb4;have HSZ:Hid _:=hsz4;obtain⟨xs,HX⟩:∃xs,Hid (xs=oversN its i):=⟨_,rfl⟩
 rw[←HX.out] at HITR HBI
 obtain⟨R,HR⟩:∃R:Ending→World→Prop,Hid (R=fun e w'=>e= .returned (.bool Q)∧Below w.heap.size w w'):=⟨_,rfl⟩
 rw[←HR.out]
 have HS:Hid (w.heap.size=s):=hs;clear q0 q1 q2 q3 hb4 h HQ hw4 hsz4
 suffices key:CallsIn Fence.wide 0 Tryz.prog 85 #[.pointer (some ⟨ob,0,none⟩),.int .i64 (i:Int)] w R from callsIn_wide.1 key
 refine callsIn_of_wp_marks Tryz.func85 rfl trivial ?_ rfl;simp only[Tryz.ntmps85,List.size_toArray,List.length_cons,List.length_nil,Nat.reduceAdd,Nat.reduceSub,Array.replicate_succ,Array.replicate_zero,List.push_toArray,List.append_toArray,List.nil_append,List.cons_append]
 gi_wp2
 refine⟨trivial,rfl,(callsIn_wide.2 HMK.out).mono ?_⟩
 rintro e w' ⟨rfl,hw'⟩;obtain rfl:=hw'.symm;clear c0 HMK
 gi_wp2
 refine Rl.range_law (P:=Tryz.prog) (gf:=153) (lb:= #[.pointer (some ⟨s+1+1,0,none⟩),.pointer (some ⟨s+1+1+1,0,none⟩)]) rfl (enters_of Tryz.func153 (by kernel_rfl) rfl) (enc:=encN) (xs:=xs) (n0:=w4.heap.size) (T:=fun _=>False)
  HITR.out (fun b hb=>hb.elim) (Nat.le_refl _) (Nat.zero_le _) (fun x F W T args h=>by rw[show args=_ from h];rfl)
  (fun k V TB=>Hid (BaI w4 its l xs k V TB)) (fun c k V TB=>Hid (BaX w w4 (s+1) its l xs c V TB))
  (fun k V TV V' TV' h hm=>BaI.mv h.out hm) (fun c k V TV V' TV' h hm=>BaX.mv h.out hm)
  ⟨Below.refl _ _,fun b hb=>hb.elim,fun j m hj _=>by omega⟩ ?rnd ?done ?stop
 case rnd=>
  rintro m l' k x args F V T1 TB hxk henc ⟨Wf,Tf,HIf,hF,hmF⟩ HI hTB hup hnc hlt;cases henc;have HXK:Hid _:=hxk;clear HIf hF hmF hxk hTB hnc hup hlt
  gi_wp2
  refine⟨HI,Rl.Rv.refl _ _ _,fun W2 HI2 hbz=>?_⟩
  clear HI hbz;have HO2:Hid (Ou its l P ob W2):=HO4.out.later HI2.out.bel;have HQ2:Boxed W2 s 70 (.pointer (some ⟨ob,0,none⟩)):=(HI2.out.bel.block s (Boxed.lt HQ0.out)).trans HQ0.out;have y0:=HQ2.cell;clear HQ2;have y3:=HO2.out.c3;have HCL:Hid _:=HO2.out.cle_any (x:Int);have HCE:Hid (∀q,cleS its l (x:Int)=q→(q=true→∀j m,j < k+1→xs[j]? =some m→cleS its l (m:Int)=true)∧(q=false→∃m∈xs,cleS its l (m:Int)=false)):=fun q hq=>by
   refine⟨fun hqt j m hj hm=>?_,fun hqf=>⟨x,List.mem_of_getElem? HXK.out,by rw[hq,hqf]⟩⟩
   by_cases hjk:j=k
   ·subst hjk;rw[HXK.out] at hm
    cases hm;rw[hq,hqt]
   ·exact HI2.out.all j m (by omega) hm
  generalize cleS its l (x:Int)=q at *
  gi_wp2
  refine⟨trivial,(fun h=>by cases h),(CallsIn.inRound l' (callsIn_wide.2 HCL.out)).mono ?_⟩
  rintro e W3 ⟨rfl,hb3⟩;have HB3:Hid (Below w4.heap.size w4 W3):=HI2.out.bel.trans (hb3.mono HI2.out.bel.size);have HR3:Hid (Rl.Rv w4.heap.size TB W2 W3):=Rl.Rv.of_below hb3 HI2.out.bel.size;have HOW:Hid (∀b,TB b→w4.heap.size≤b):=HI2.out.own;have hce:=HCE.out q rfl;have HCE2:Hid _:=hce;clear hb3 y0 y3 HCL HI2 HO2 HCE hce;cases q with
  | true=>
   gi_wp2
   exact⟨⟨HB3.out,HOW.out,HCE2.out.1 (by simp)⟩,HR3.out⟩
  | false=>
   have hrow:W3.heap[s+1]? =some (.cells #[.bool false] 4 (0,0)):=(HB3.out.block _ (by have:=HSZ.out;omega)).trans HQ1.out;have z0:=(Dg.cell_row hrow 0).trans rfl;have f0:=Dg.froz_row hrow 0;have HX3:Hid (BaX w w4 (s+1) its l xs .ret (W3.setCell ⟨s+1,0,none⟩ (.bool false)) TB):=by
    have hz:=HSZ.out;have hw:=HS.out;refine⟨rfl,HCE2.out.2 (by simp),Dg.row_set hrow 0 _,(HB4.out.trans (HB3.out.mono HB4.out.size)).setCell (p:=⟨s+1,0,none⟩) (by show _≤s+1;omega) _,HOW.out,by simpa using HB3.out.size,by omega,HB4.out.size⟩
   have HR4:Hid (Rl.Rv 0 TB W2 (W3.setCell ⟨s+1,0,none⟩ (.bool false))):=HR3.out.low0.trans (Rl.Rv.setCell W3 _ (Nat.zero_le _) (fun h=>by have:=HOW.out _ h;have:=HSZ.out;omega));clear hrow
   gi_wp2
   exact⟨HX3,HR4.out⟩
 case done=>
  rintro V T2 h hold hup hdef hts;have hz:=HSZ.out;have hw:=HS.out;have hrow:V.heap[s+1]? =some (.cells #[.bool false] 4 (0,0)):=(h.out.bel.block _ (by omega)).trans HQ1.out;have z0:=(Dg.cell_row hrow 0).trans rfl;have f0:=Dg.froz_row hrow 0;obtain rfl:Q=true:=HBI.out.2 fun m hm=>by
   obtain⟨j,hj⟩:=List.getElem?_of_mem hm
   exact h.out.all j m (List.getElem?_eq_some_iff.1 hj).1 hj
  have HV:Hid ((V.setCell ⟨s+1,0,none⟩ (.bool true)).heap[s+1]? =some (.cells #[.bool true] 4 (0,0))∧Below w.heap.size w (V.setCell ⟨s+1,0,none⟩ (.bool true))∧(V.setCell ⟨s+1,0,none⟩ (.bool true)).heap[w4.heap.size]? =some (.deferred (some []))):=
   ⟨Dg.row_set hrow 0 _,(HB4.out.trans (h.out.bel.mono HB4.out.size)).setCell (p:=⟨s+1,0,none⟩) (by show _≤s+1;omega) _,(Below.heap_setCell V ⟨s+1,0,none⟩ _ _ (by show w4.heap.size≠s+1;omega)).trans hdef⟩
  clear hrow h hold hup hdef hts hz hw
  gi_wp2
  show LeavesInM Fence.wide 0 Tryz.prog Tryz.f85 _ R ([w4.heap.size].map Rl.mark) .returning _;refine Rl.leaves_marks (T:=fun b=>b=w4.heap.size) (by simp) (fun A=>A.heap[s+1]? =some (.cells #[.bool true] 4 (0,0))∧Below w.heap.size w A) ?_ ?_ _ _ ⟨by simp,fun D hD=>by simp at hD;subst hD;exact⟨rfl,HV.out.2.2⟩⟩ ⟨HV.out.1,HV.out.2.1⟩
  ·rintro A D hD ⟨k1,k2⟩;have hz:=HSZ.out;have hw:=HS.out;exact⟨(World.putObj_heap_other (by omega)).trans k1,⟨k2.os,k2.tape,k2.output,by simpa [World.putObj] using k2.size,fun b hb=>(World.putObj_heap_other (by omega)).trans (k2.block b hb)⟩⟩
  ·rintro A ⟨k1,k2⟩;refine⟨_,results_bool (p:=4) rfl _ _ (s+1) true (0,0) rfl k1,?_⟩
   rw[HR.out]
   exact⟨rfl,k2⟩
 case stop=>
  rintro c k V T2 hk h hold hup hdef hts;obtain⟨rfl,⟨m,hm,hmf⟩,h3,h4,_⟩:=h.out
  obtain rfl:Q=false:=by
   cases hQ:Q with
   | false=>rfl
   | true=>have:=HBI.out.1 hQ m hm;rw[hmf] at this;cases this
  have HV:Hid (V.heap[s+1]? =some (.cells #[.bool false] 4 (0,0))∧Below w.heap.size w V∧V.heap[w4.heap.size]? =some (.deferred (some []))):=⟨h3,h4,hdef⟩;clear h h3 h4 hold hup hdef hts hm hmf
  gi_wp2
  show LeavesInM Fence.wide 0 Tryz.prog Tryz.f85 _ R ([w4.heap.size].map Rl.mark) .returning _;refine Rl.leaves_marks (T:=fun b=>b=w4.heap.size) (by simp) (fun A=>A.heap[s+1]? =some (.cells #[.bool false] 4 (0,0))∧Below w.heap.size w A) ?_ ?_ _ _ ⟨by simp,fun D hD=>by simp at hD;subst hD;exact⟨rfl,HV.out.2.2⟩⟩ ⟨HV.out.1,HV.out.2.1⟩
  ·rintro A D hD ⟨k1,k2⟩;have hz:=HSZ.out;have hw:=HS.out;exact⟨(World.putObj_heap_other (by omega)).trans k1,⟨k2.os,k2.tape,k2.output,by simpa [World.putObj] using k2.size,fun b hb=>(World.putObj_heap_other (by omega)).trans (k2.block b hb)⟩⟩
  ·rintro A ⟨k1,k2⟩;refine⟨_,results_bool (p:=4) rfl _ _ (s+1) false (0,0) rfl k1,?_⟩
   rw[HR.out]
   exact⟨rfl,k2⟩
theorem mb_parts (hc:chkF its l=0){i:Nat}(hi:i < its.length):mbB its l i=true↔(plOf its).sub i=false∧(fOf l i).run=0∧rcB its l i=true:=by
 have h0:(plOf its).sub 0=true:=(lg_of hc).ok.root;rw[mbB_iff,rcB_iff]
 unfold MB
 constructor
 ·rintro⟨⟨_,_,a⟩,b,c⟩
  exact⟨a,b,c⟩
 ·rintro⟨a,b,c⟩
  refine⟨⟨?_,hi,a⟩,b,c⟩
  apply Classical.byContradiction
  intro h;obtain rfl:i=0:=by omega
  rw[h0] at a
  cases a
theorem mayBegin_any {i:Nat}(hi:i < its.length)(h:Ou its l P ob w) :
  Calls Tryz.prog 55 #[.pointer (some ⟨ob,0,none⟩),.int .i64 (i:Int)] w fun e w'=>e= .returned (.bool (mbB its l i))∧Below w.heap.size w w':=by
 have HP:Hid _:=mb_parts h.chk hi;obtain⟨q,hq⟩:=h.right
 obtain⟨x,av,am,ac,hx,_,_,k2,_⟩:=h.item hi
 obtain⟨e1,_,_⟩:=it_pl hq hx
 obtain⟨f0,_⟩:=h.fact hi
 have c0:=h.c0;have c1:=h.c1;have hn:=h.few;have h0:(plOf its).sub 0=true:=(lg_of h.chk).ok.root;have HRC:Hid (1≤i→Calls Tryz.prog 83 #[.pointer (some ⟨ob,0,none⟩),.int .i64 (i:Int)] w fun e w'=>e= .returned (.bool (rcB its l i))∧Below w.heap.size w w'):=fun h1=>reach_any h1 hi h
 have HI1:Hid ((plOf its).sub i=false→1≤i):=fun hs=>by
  apply Classical.byContradiction
  intro h;obtain rfl:i=0:=by omega
  rw[h0] at hs
  cases hs
 have hii:(i:Int) < (its.length:Int):=by omega
 rw[e1] at HP HI1
 obtain⟨Q,HQ⟩:∃Q,Hid (Q=mbB its l i):=⟨_,rfl⟩
 rw[←HQ.out] at HP ⊢
 clear h hq hx e1 h0 HQ hi;generalize x.sub=su at *;generalize (fOf l i).run=r at *;generalize rcB its l i=rc at *;generalize its.length=n at *;cases su with
 | true=>
  obtain rfl:Q=false:=by
   cases hQ:Q with
   | false=>rfl
   | true=>exact absurd (HP.out.1 hQ).1 (by decide)
  clear HP HRC HI1
  go_enter Tryz.func55,Tryz.ntmps55
  go_wp2_with fail
  go_ret
  exact⟨rfl,Below.refl _ _⟩
 | false=>
  by_cases hr:r=0
  ·subst hr;obtain rfl:Q=rc:=Bool.eq_iff_iff.2 (by rw[HP.out];exact⟨fun h=>h.2.2,fun h=>⟨rfl,rfl,h⟩⟩);have HR2:Hid _:=HRC.out (HI1.out rfl);clear HP HRC HI1
   go_enter Tryz.func55,Tryz.ntmps55
   go_wp2_with fail
   refine Calls.mono HR2.out ?_;rintro e w2 ⟨rfl,hb2⟩;have HB:Hid _:=hb2;clear hb2 HR2 c0 c1 k2 f0
   go_wp2_with fail
   go_ret
   exact⟨rfl,HB.out⟩
  ·obtain rfl:Q=false:=by
    cases hQ:Q with
    | false=>rfl
    | true=>exact absurd (HP.out.1 hQ).2.1 hr
   have hr1:decide (r=0)=false:=decide_eq_false hr;have hr2:(r==0)=false:=by simpa using hr
   clear HP HRC HI1
   go_enter Tryz.func55,Tryz.ntmps55
   go_wp2_with fail
   go_ret
   exact⟨rfl,Below.refl _ _⟩
theorem mu_parts (hc:chkF its l=0){i:Nat}(hi:i < its.length):muB its l i=true↔(1≤i∧(fOf l i).run=2∧(fOf l i).un=false∧(fOf l i).tries=(fOf l i).slips)∧falS its l ((plOf its).inn i:Nat) ((plOf its).alt i:Nat)=true∧baB its l i=true:=by
 have h0:(plOf its).sub 0=true:=(lg_of hc).ok.root;have hrt:=rt_of hc;rw[muB_iff,baB_iff]
 unfold MU
 constructor
 ·rintro⟨⟨a1,a2,a3⟩,⟨b1,b2,b3⟩,c,d⟩
  obtain⟨i1,i2,i3,i4⟩:=inn_facts hc a1 hi
  exact⟨⟨a1,b1,b2,b3⟩,(ff_S hc (show (plOf its).inn i < its.length by omega) i3 i4).1 c,d⟩
 ·rintro⟨⟨a1,b1,b2,b3⟩,c,d⟩
  obtain⟨i1,i2,i3,i4⟩:=inn_facts hc a1 hi
  refine⟨⟨a1,hi,?_⟩,⟨b1,b2,b3⟩,(ff_S hc (show (plOf its).inn i < its.length by omega) i3 i4).2 c,d⟩
  cases hs:(plOf its).sub i with
  | false=>rfl
  | true=>have h9:=hrt.sub i hi hs;rw[h9] at b1;exact absurd b1 (by decide)
theorem mayBeUndone_any {i:Nat}(hi:i < its.length)(h:Ou its l P ob w) :
  Calls Tryz.prog 56 #[.pointer (some ⟨ob,0,none⟩),.int .i64 (i:Int)] w fun e w'=>e= .returned (.bool (muB its l i))∧Below w.heap.size w w':=by
 have HP:Hid _:=mu_parts h.chk hi;obtain⟨q,hq⟩:=h.right
 obtain⟨x,av,am,ac,hx,k0,k1,k2,k3,k4,k5,k6,k7,_⟩:=h.item hi
 obtain⟨_,_,e3⟩:=it_pl hq hx
 obtain⟨f0,f1,f2,f3⟩:=h.fact hi
 have c0:=h.c0;have c1:=h.c1;have hn:=h.few;have h0:(plOf its).sub 0=true:=(lg_of h.chk).ok.root;have HI1:Hid ((fOf l i).run=2→1≤i):=fun hr=>by
  apply Classical.byContradiction
  intro h9;obtain rfl:i=0:=by omega
  have:=(rt_of h.chk).sub 0 hi h0;rw[this] at hr
  exact absurd hr (by decide)
 have HE3:Hid _:=e3;have HIT:Hid (∀wx,Ou its l P ob wx→1≤i→wx.cell? ⟨P.xb,P.xo+i * 8+5,none⟩=some (.int .i64 ((plOf its).inn i:Nat))∧wx.cell? ⟨P.xb,P.xo+i * 8+6,none⟩=some (.int .i64 ((plOf its).alt i:Nat))):=fun wx hO h1=>by
  obtain⟨x',_,_,_,hx',_,_,_,_,_,d5,d6,_⟩:=hO.item hi
  rw[hx] at hx'
  cases hx';rw[←(e3 h1).1,←(e3 h1).2]
  exact⟨d5,d6⟩
 have HFA:Hid (∀wx,Ou its l P ob wx→Calls Tryz.prog 84 #[.pointer (some ⟨P.bd,0,none⟩),.int .i64 ((plOf its).inn i:Nat),.int .i64 ((plOf its).alt i:Nat)] wx fun e w'=>e= .returned (.bool (falS its l ((plOf its).inn i:Nat) ((plOf its).alt i:Nat)))∧Below wx.heap.size wx w'):=fun wx h=>h.fal_any _ _
 have HBA:Hid (1≤i→∀wx,Ou its l P ob wx→Calls Tryz.prog 85 #[.pointer (some ⟨ob,0,none⟩),.int .i64 (i:Int)] wx fun e w'=>e= .returned (.bool (baB its l i))∧Below wx.heap.size wx w'):=fun h1 wx h=>bare_any h1 hi h
 obtain⟨Q,HQ⟩:∃Q,Hid (Q=muB its l i):=⟨_,rfl⟩
 rw[←HQ.out] at HP ⊢
 have HO0:Hid _:=h;have hii:(i:Int) < (its.length:Int):=by omega
 clear h hq hx e3 h0 HQ hi HE3 k0 k1 k2 k3 k4 k5 k6 k7;generalize (plOf its).inn i=inn at *;generalize (plOf its).alt i=alt at *;generalize falS its l (inn:Nat) (alt:Nat)=fal at *;generalize baB its l i=ba at *;generalize (fOf l i).run=r at *;generalize (fOf l i).tries=tr at *;generalize (fOf l i).slips=sl at *;generalize (fOf l i).un=un at *;obtain⟨n,HN⟩:∃n,Hid (its.length=n):=⟨_,rfl⟩
 rw[HN.out] at c0 c1 hii hn
 have hb1:=bl1 w (.cells #[.int .i64 r,.int .i64 tr,.int .i64 sl,.bool un] 55);have rx:=Dg.row_new w #[.int .i64 r,.int .i64 tr,.int .i64 sl,.bool un] 55;have g0:=(Dg.cell_row rx 0).trans rfl;have g1:=(Dg.cell_row rx 1).trans rfl;have g2:=(Dg.cell_row rx 2).trans rfl;have g3:=(Dg.cell_row rx 3).trans rfl;have HO1:Hid (Ou its l P ob (w.alloc (.cells #[.int .i64 r,.int .i64 tr,.int .i64 sl,.bool un] 55))):=HO0.out.later hb1;have HB1:Hid _:=hb1;have HCI:Hid (∀wx,Ou its l P ob wx→wx.cell? ⟨ob,0,none⟩=some (.slice (some ⟨P.xb,P.xo,none⟩) n P.icap)):=fun wx h=>by have:=h.c0;rw[HN.out] at this;exact this
 clear rx hb1 HO0
 by_cases hL:r=2∧un=false∧tr=sl
 ·obtain⟨rfl,rfl,rfl⟩:=hL
  have HI2:Hid (1≤i):=HI1.out rfl;have HP2:Hid (Q=true↔fal=true∧ba=true):=⟨fun h=>(HP.out.1 h).2,fun h=>HP.out.2 ⟨⟨HI2.out,rfl,rfl,rfl⟩,h⟩⟩;have HBA2:Hid _:=HBA.out HI2.out;have HC5:Hid (∀wx,Ou its l P ob wx→wx.cell? ⟨P.xb,P.xo+i * 8+5,none⟩=some (.int .i64 (inn:Nat))):=fun wx h=>(HIT.out wx h HI2.out).1
  have HC6:Hid (∀wx,Ou its l P ob wx→wx.cell? ⟨P.xb,P.xo+i * 8+6,none⟩=some (.int .i64 (alt:Nat))):=fun wx h=>(HIT.out wx h HI2.out).2
  clear HP HI1 HBA HIT
  go_enter Tryz.func56,Tryz.ntmps56
  go_wp2_with fail
  clear g0 g1 g2 g3 f0 f1 f2 f3 c0 c1;obtain⟨w1,hw1⟩:∃w1,w.alloc (.cells #[.int .i64 2,.int .i64 tr,.int .i64 tr,.bool false] 55)=w1:=⟨_,rfl⟩
  rw[hw1] at HO1 HB1 ⊢
  obtain⟨rb,hrb⟩:∃rb,w.heap.size=rb:=⟨_,rfl⟩
  rw[hrb]
  clear hw1;have hS0:Ou its l P ob w1.drew∧Below w.heap.size w w1.drew:=⟨HO1.out.later (Below.refl _ _).drew,HB1.out.trans ((Below.refl _ _).drew)⟩;have HLR:Hid (∀wx w':World,(Ou its l P ob wx∧Below w.heap.size w wx)→Below wx.heap.size wx w'→Ou its l P ob w'∧Below w.heap.size w w'):=fun wx w' h hb=>⟨h.1.later hb,h.2.trans (hb.mono h.2.size)⟩
  cases fal with
  | false=>
   obtain rfl:Q=false:=by
    cases hQ:Q with
    | false=>rfl
    | true=>exact absurd (HP2.out.1 hQ).1 (by decide)
   clear HP2;refine region_thenF [(29,.bool true),(30,.bool true),(31,.pointer (some ⟨ob,0,none⟩)),(32,.pointer (some ⟨ob,0,none⟩)),(33,.pointer (some ⟨ob,3,none⟩)),(34,.pointer (some ⟨P.bd,0,none⟩)),(35,.pointer (some ⟨ob,0,none⟩)),(36,.pointer (some ⟨ob,0,none⟩)),(37,.pointer (some ⟨ob,0,none⟩)),(38,.slice (some ⟨P.xb,P.xo,none⟩) n P.icap),(39,.int .i64 i),(40,.pointer (some ⟨P.xb,P.xo+i * 8,none⟩)),(41,.pointer (some ⟨P.xb,P.xo+i * 8+5,none⟩)),(42,.int .i64 (inn:Nat)),(43,.pointer (some ⟨ob,0,none⟩)),(44,.pointer (some ⟨ob,0,none⟩)),(45,.pointer (some ⟨ob,0,none⟩)),(46,.slice (some ⟨P.xb,P.xo,none⟩) n P.icap),(47,.int .i64 i),(48,.pointer (some ⟨P.xb,P.xo+i * 8,none⟩)),(49,.pointer (some ⟨P.xb,P.xo+i * 8+6,none⟩)),(50,.int .i64 (alt:Nat)),(51,.bool false),(52,.bool false),(53,.bool false),(54,undef),(55,undef),(56,undef),(57,.bool false),(4,.bool false)] (fun w'=>Ou its l P ob w'∧Below w.heap.size w w') ?_ ?_
   ·refine wp_region_held (S:=fun w'=>Ou its l P ob w'∧Below w.heap.size w w') (by kernel_rfl) ?_;simp only[List.size_toArray,List.length_cons,List.length_nil,Nat.reduceAdd,Array.replicate_succ,Array.replicate_zero,List.push_toArray,List.nil_append,List.cons_append];refine tK 0 29 (.bool true) 29 rfl hS0 ?_;refine tK 1 30 (.bool true) 28 rfl hS0 ?_;refine tK 2 31 (.pointer (some ⟨ob,0,none⟩)) 27 rfl hS0 ?_;refine tG 3 32 (.pointer (some ⟨ob,0,none⟩)) 26 rfl hS0 ?_;refine tG 4 33 (.pointer (some ⟨ob,3,none⟩)) 25 rfl hS0 ?_;refine tV 5 34 (.pointer (some ⟨P.bd,0,none⟩)) 24 rfl hS0 ?_ (fun wx h=>by have y0:=h.1.c3;go_simp);refine tK 6 35 (.pointer (some ⟨ob,0,none⟩)) 23 rfl hS0 ?_;refine tG 7 36 (.pointer (some ⟨ob,0,none⟩)) 22 rfl hS0 ?_;refine tG 8 37 (.pointer (some ⟨ob,0,none⟩)) 21 rfl hS0 ?_;refine tV 9 38 (.slice (some ⟨P.xb,P.xo,none⟩) n P.icap) 20 rfl hS0 ?_ (fun wx h=>by have y0:=HCI.out wx h.1;go_simp);refine tK 10 39 (.int .i64 i) 19 rfl hS0 ?_;refine tG 11 40 (.pointer (some ⟨P.xb,P.xo+i * 8,none⟩)) 18 rfl hS0 ?_;refine tG 12 41 (.pointer (some ⟨P.xb,P.xo+i * 8+5,none⟩)) 17 rfl hS0 ?_;refine tV 13 42 (.int .i64 (inn:Nat)) 16 rfl hS0 ?_ (fun wx h=>by have y0:=HC5.out wx h.1;go_simp);refine tK 14 43 (.pointer (some ⟨ob,0,none⟩)) 15 rfl hS0 ?_;refine tG 15 44 (.pointer (some ⟨ob,0,none⟩)) 14 rfl hS0 ?_;refine tG 16 45 (.pointer (some ⟨ob,0,none⟩)) 13 rfl hS0 ?_;refine tV 17 46 (.slice (some ⟨P.xb,P.xo,none⟩) n P.icap) 12 rfl hS0 ?_ (fun wx h=>by have y0:=HCI.out wx h.1;go_simp);refine tK 18 47 (.int .i64 i) 11 rfl hS0 ?_;refine tG 19 48 (.pointer (some ⟨P.xb,P.xo+i * 8,none⟩)) 10 rfl hS0 ?_;refine tG 20 49 (.pointer (some ⟨P.xb,P.xo+i * 8+6,none⟩)) 9 rfl hS0 ?_;refine tV 21 50 (.int .i64 (alt:Nat)) 8 rfl hS0 ?_ (fun wx h=>by have y0:=HC6.out wx h.1;go_simp);refine oneC (i:=22) (d:=51) (f:=84) (args:= #[.pointer (some ⟨P.bd,0,none⟩),.int .i64 (inn:Nat),.int .i64 (alt:Nat)]) (v:= .bool false) (fuel:=7) rfl rfl (by kernel_rfl) (by kernel_rfl) (fun _=>by kernel_rfl) hS0 (fun wx h=>Calls.mono (HFA.out wx h.1) (by rintro e w2 ⟨rfl,hb⟩;exact⟨rfl,HLR.out wx w2 h hb⟩)) (fun wz hS122=>?_);simp only[List.setIfInBounds_toArray,List.set_cons_succ,List.set_cons_zero];refine tK 23 52 (.bool false) 6 rfl hS122 ?_;refine tK 24 53 (.bool false) 5 rfl hS122 ?_;refine tU 25 54 4 rfl hS122 ?_;refine tU 26 55 3 rfl hS122 ?_;refine wpAnyH_all (fuel:=2) (rs:=[27]) (by kernel_rfl) (by decide) (List.forall_mem_singleton.2 ?_);refine wpOp_un (i:=27) (d:=56) rfl rfl (by kernel_rfl) ⟨hS122,?_⟩;simp only[List.setIfInBounds_toArray,List.set_cons_succ,List.set_cons_zero];refine tK 28 57 (.bool false) 1 rfl hS122 ?_;refine tK 29 4 (.bool false) 0 rfl hS122 ?_;refine wpAnyH_done (by kernel_rfl) ?_ _;exact⟨rfl,by kernel_rfl,hS122⟩
   ·intro w9 hF;simp only[setAll,List.setIfInBounds_toArray,List.set_cons_succ,List.set_cons_zero];have HF9:Hid _:=hF;clear hF
    go_wp2_with fail
    go_ret
    exact⟨rfl,HF9.out.2⟩
  | true=>
   obtain rfl:Q=ba:=Bool.eq_iff_iff.2 (by rw[HP2.out];exact⟨fun h=>h.2,fun h=>⟨rfl,h⟩⟩);clear HP2;refine region_thenF [(29,.bool true),(30,.bool true),(31,.pointer (some ⟨ob,0,none⟩)),(32,.pointer (some ⟨ob,0,none⟩)),(33,.pointer (some ⟨ob,3,none⟩)),(34,.pointer (some ⟨P.bd,0,none⟩)),(35,.pointer (some ⟨ob,0,none⟩)),(36,.pointer (some ⟨ob,0,none⟩)),(37,.pointer (some ⟨ob,0,none⟩)),(38,.slice (some ⟨P.xb,P.xo,none⟩) n P.icap),(39,.int .i64 i),(40,.pointer (some ⟨P.xb,P.xo+i * 8,none⟩)),(41,.pointer (some ⟨P.xb,P.xo+i * 8+5,none⟩)),(42,.int .i64 (inn:Nat)),(43,.pointer (some ⟨ob,0,none⟩)),(44,.pointer (some ⟨ob,0,none⟩)),(45,.pointer (some ⟨ob,0,none⟩)),(46,.slice (some ⟨P.xb,P.xo,none⟩) n P.icap),(47,.int .i64 i),(48,.pointer (some ⟨P.xb,P.xo+i * 8,none⟩)),(49,.pointer (some ⟨P.xb,P.xo+i * 8+6,none⟩)),(50,.int .i64 (alt:Nat)),(51,.bool true),(52,.bool true),(53,.bool true),(54,.pointer (some ⟨ob,0,none⟩)),(55,.int .i64 i),(56,.bool Q),(57,.bool Q),(4,.bool Q)] (fun w'=>Ou its l P ob w'∧Below w.heap.size w w') ?_ ?_
   ·refine wp_region_held (S:=fun w'=>Ou its l P ob w'∧Below w.heap.size w w') (by kernel_rfl) ?_;simp only[List.size_toArray,List.length_cons,List.length_nil,Nat.reduceAdd,Array.replicate_succ,Array.replicate_zero,List.push_toArray,List.nil_append,List.cons_append];refine tK 0 29 (.bool true) 29 rfl hS0 ?_;refine tK 1 30 (.bool true) 28 rfl hS0 ?_;refine tK 2 31 (.pointer (some ⟨ob,0,none⟩)) 27 rfl hS0 ?_;refine tG 3 32 (.pointer (some ⟨ob,0,none⟩)) 26 rfl hS0 ?_;refine tG 4 33 (.pointer (some ⟨ob,3,none⟩)) 25 rfl hS0 ?_;refine tV 5 34 (.pointer (some ⟨P.bd,0,none⟩)) 24 rfl hS0 ?_ (fun wx h=>by have y0:=h.1.c3;go_simp);refine tK 6 35 (.pointer (some ⟨ob,0,none⟩)) 23 rfl hS0 ?_;refine tG 7 36 (.pointer (some ⟨ob,0,none⟩)) 22 rfl hS0 ?_;refine tG 8 37 (.pointer (some ⟨ob,0,none⟩)) 21 rfl hS0 ?_;refine tV 9 38 (.slice (some ⟨P.xb,P.xo,none⟩) n P.icap) 20 rfl hS0 ?_ (fun wx h=>by have y0:=HCI.out wx h.1;go_simp);refine tK 10 39 (.int .i64 i) 19 rfl hS0 ?_;refine tG 11 40 (.pointer (some ⟨P.xb,P.xo+i * 8,none⟩)) 18 rfl hS0 ?_;refine tG 12 41 (.pointer (some ⟨P.xb,P.xo+i * 8+5,none⟩)) 17 rfl hS0 ?_;refine tV 13 42 (.int .i64 (inn:Nat)) 16 rfl hS0 ?_ (fun wx h=>by have y0:=HC5.out wx h.1;go_simp);refine tK 14 43 (.pointer (some ⟨ob,0,none⟩)) 15 rfl hS0 ?_;refine tG 15 44 (.pointer (some ⟨ob,0,none⟩)) 14 rfl hS0 ?_;refine tG 16 45 (.pointer (some ⟨ob,0,none⟩)) 13 rfl hS0 ?_;refine tV 17 46 (.slice (some ⟨P.xb,P.xo,none⟩) n P.icap) 12 rfl hS0 ?_ (fun wx h=>by have y0:=HCI.out wx h.1;go_simp);refine tK 18 47 (.int .i64 i) 11 rfl hS0 ?_;refine tG 19 48 (.pointer (some ⟨P.xb,P.xo+i * 8,none⟩)) 10 rfl hS0 ?_;refine tG 20 49 (.pointer (some ⟨P.xb,P.xo+i * 8+6,none⟩)) 9 rfl hS0 ?_;refine tV 21 50 (.int .i64 (alt:Nat)) 8 rfl hS0 ?_ (fun wx h=>by have y0:=HC6.out wx h.1;go_simp);refine oneC (i:=22) (d:=51) (f:=84) (args:= #[.pointer (some ⟨P.bd,0,none⟩),.int .i64 (inn:Nat),.int .i64 (alt:Nat)]) (v:= .bool true) (fuel:=7) rfl rfl (by kernel_rfl) (by kernel_rfl) (fun _=>by kernel_rfl) hS0 (fun wx h=>Calls.mono (HFA.out wx h.1) (by rintro e w2 ⟨rfl,hb⟩;exact⟨rfl,HLR.out wx w2 h hb⟩)) (fun wz hS122=>?_);simp only[List.setIfInBounds_toArray,List.set_cons_succ,List.set_cons_zero];refine tK 23 52 (.bool true) 6 rfl hS122 ?_;refine tK 24 53 (.bool true) 5 rfl hS122 ?_;refine tK 25 54 (.pointer (some ⟨ob,0,none⟩)) 4 rfl hS122 ?_;refine tK 26 55 (.int .i64 i) 3 rfl hS122 ?_;refine oneC (i:=27) (d:=56) (f:=85) (args:= #[.pointer (some ⟨ob,0,none⟩),.int .i64 i]) (v:= .bool Q) (fuel:=2) rfl rfl (by kernel_rfl) (by kernel_rfl) (fun _=>by kernel_rfl) hS122 (fun wx h=>Calls.mono (HBA2.out wx h.1) (by rintro e w2 ⟨rfl,hb⟩;exact⟨rfl,HLR.out wx w2 h hb⟩)) (fun wz hS127=>?_);simp only[List.setIfInBounds_toArray,List.set_cons_succ,List.set_cons_zero];refine tK 28 57 (.bool Q) 1 rfl hS127 ?_;refine tK 29 4 (.bool Q) 0 rfl hS127 ?_;refine wpAnyH_done (by kernel_rfl) ?_ _;exact⟨rfl,by kernel_rfl,hS127⟩
   ·intro w9 hF;simp only[setAll,List.setIfInBounds_toArray,List.set_cons_succ,List.set_cons_zero];have HF9:Hid _:=hF;clear hF
    go_wp2_with fail
    go_ret
    exact⟨rfl,HF9.out.2⟩
 ·obtain rfl:Q=false:=by
   cases hQ:Q with
   | false=>rfl
   | true=>exact absurd (HP.out.1 hQ).1.2 hL
  clear HP HI1 HBA HIT
  by_cases hr:r=2
  ·subst hr;cases un with
   | true=>
    go_enter Tryz.func56,Tryz.ntmps56
    go_wp2_with fail
    clear g0 g1 g2 g3 f0 f1 f2 f3 c0 c1;obtain⟨w1,hw1⟩:∃w1,w.alloc (.cells #[.int .i64 2,.int .i64 tr,.int .i64 sl,.bool true] 55)=w1:=⟨_,rfl⟩
    rw[hw1] at HO1 HB1 ⊢
    obtain⟨rb,hrb⟩:∃rb,w.heap.size=rb:=⟨_,rfl⟩
    rw[hrb]
    clear hw1;have hS0:Ou its l P ob w1.drew∧Below w.heap.size w w1.drew:=⟨HO1.out.later (Below.refl _ _).drew,HB1.out.trans ((Below.refl _ _).drew)⟩;refine region_thenF [(29,.bool false),(30,.bool false),(31,undef),(32,undef),(33,undef),(34,undef),(35,undef),(36,undef),(37,undef),(38,undef),(39,undef),(40,undef),(41,undef),(42,undef),(43,undef),(44,undef),(45,undef),(46,undef),(47,undef),(48,undef),(49,undef),(50,undef),(51,undef),(52,.bool false),(53,.bool false),(54,undef),(55,undef),(56,undef),(57,.bool false),(4,.bool false)] (fun w'=>Ou its l P ob w'∧Below w.heap.size w w') ?_ ?_
    ·refine wp_region_held (S:=fun w'=>Ou its l P ob w'∧Below w.heap.size w w') (by kernel_rfl) ?_;simp only[List.size_toArray,List.length_cons,List.length_nil,Nat.reduceAdd,Array.replicate_succ,Array.replicate_zero,List.push_toArray,List.nil_append,List.cons_append];refine tK 0 29 (.bool false) 29 rfl hS0 ?_;refine tK 1 30 (.bool false) 28 rfl hS0 ?_;refine tU 2 31 27 rfl hS0 ?_;refine tU 3 32 26 rfl hS0 ?_;refine tU 4 33 25 rfl hS0 ?_;refine tU 5 34 24 rfl hS0 ?_;refine tU 6 35 23 rfl hS0 ?_;refine tU 7 36 22 rfl hS0 ?_;refine tU 8 37 21 rfl hS0 ?_;refine tU 9 38 20 rfl hS0 ?_;refine tU 10 39 19 rfl hS0 ?_;refine tU 11 40 18 rfl hS0 ?_;refine tU 12 41 17 rfl hS0 ?_;refine tU 13 42 16 rfl hS0 ?_;refine tU 14 43 15 rfl hS0 ?_;refine tU 15 44 14 rfl hS0 ?_;refine tU 16 45 13 rfl hS0 ?_;refine tU 17 46 12 rfl hS0 ?_;refine tU 18 47 11 rfl hS0 ?_;refine tU 19 48 10 rfl hS0 ?_;refine tU 20 49 9 rfl hS0 ?_;refine tU 21 50 8 rfl hS0 ?_;refine wpAnyH_all (fuel:=7) (rs:=[22]) (by kernel_rfl) (by decide) (List.forall_mem_singleton.2 ?_);refine wpOp_un (i:=22) (d:=51) rfl rfl (by kernel_rfl) ⟨hS0,?_⟩;simp only[List.setIfInBounds_toArray,List.set_cons_succ,List.set_cons_zero];refine tK 23 52 (.bool false) 6 rfl hS0 ?_;refine tK 24 53 (.bool false) 5 rfl hS0 ?_;refine tU 25 54 4 rfl hS0 ?_;refine tU 26 55 3 rfl hS0 ?_;refine wpAnyH_all (fuel:=2) (rs:=[27]) (by kernel_rfl) (by decide) (List.forall_mem_singleton.2 ?_);refine wpOp_un (i:=27) (d:=56) rfl rfl (by kernel_rfl) ⟨hS0,?_⟩;simp only[List.setIfInBounds_toArray,List.set_cons_succ,List.set_cons_zero];refine tK 28 57 (.bool false) 1 rfl hS0 ?_;refine tK 29 4 (.bool false) 0 rfl hS0 ?_;refine wpAnyH_done (by kernel_rfl) ?_ _;exact⟨rfl,by kernel_rfl,hS0⟩
    ·intro w9 hF;simp only[setAll,List.setIfInBounds_toArray,List.set_cons_succ,List.set_cons_zero];have HF9:Hid _:=hF;clear hF
     go_wp2_with fail
     go_ret
     exact⟨rfl,HF9.out.2⟩
   | false=>
    have ht:¬tr=sl:=fun h=>hL ⟨rfl,rfl,h⟩
    have ht1:decide (tr=sl)=false:=decide_eq_false ht;have ht2:(tr==sl)=false:=by simpa using ht
    clear hL
    go_enter Tryz.func56,Tryz.ntmps56
    go_wp2_with fail
    clear g0 g1 g2 g3 f0 f1 f2 f3 c0 c1;obtain⟨w1,hw1⟩:∃w1,w.alloc (.cells #[.int .i64 2,.int .i64 tr,.int .i64 sl,.bool false] 55)=w1:=⟨_,rfl⟩
    rw[hw1] at HO1 HB1 ⊢
    obtain⟨rb,hrb⟩:∃rb,w.heap.size=rb:=⟨_,rfl⟩
    rw[hrb]
    clear hw1;have hS0:Ou its l P ob w1.drew∧Below w.heap.size w w1.drew:=⟨HO1.out.later (Below.refl _ _).drew,HB1.out.trans ((Below.refl _ _).drew)⟩;refine region_thenF [(29,.bool false),(30,.bool false),(31,undef),(32,undef),(33,undef),(34,undef),(35,undef),(36,undef),(37,undef),(38,undef),(39,undef),(40,undef),(41,undef),(42,undef),(43,undef),(44,undef),(45,undef),(46,undef),(47,undef),(48,undef),(49,undef),(50,undef),(51,undef),(52,.bool false),(53,.bool false),(54,undef),(55,undef),(56,undef),(57,.bool false),(4,.bool false)] (fun w'=>Ou its l P ob w'∧Below w.heap.size w w') ?_ ?_
    ·refine wp_region_held (S:=fun w'=>Ou its l P ob w'∧Below w.heap.size w w') (by kernel_rfl) ?_;simp only[List.size_toArray,List.length_cons,List.length_nil,Nat.reduceAdd,Array.replicate_succ,Array.replicate_zero,List.push_toArray,List.nil_append,List.cons_append];refine tK 0 29 (.bool false) 29 rfl hS0 ?_;refine tK 1 30 (.bool false) 28 rfl hS0 ?_;refine tU 2 31 27 rfl hS0 ?_;refine tU 3 32 26 rfl hS0 ?_;refine tU 4 33 25 rfl hS0 ?_;refine tU 5 34 24 rfl hS0 ?_;refine tU 6 35 23 rfl hS0 ?_;refine tU 7 36 22 rfl hS0 ?_;refine tU 8 37 21 rfl hS0 ?_;refine tU 9 38 20 rfl hS0 ?_;refine tU 10 39 19 rfl hS0 ?_;refine tU 11 40 18 rfl hS0 ?_;refine tU 12 41 17 rfl hS0 ?_;refine tU 13 42 16 rfl hS0 ?_;refine tU 14 43 15 rfl hS0 ?_;refine tU 15 44 14 rfl hS0 ?_;refine tU 16 45 13 rfl hS0 ?_;refine tU 17 46 12 rfl hS0 ?_;refine tU 18 47 11 rfl hS0 ?_;refine tU 19 48 10 rfl hS0 ?_;refine tU 20 49 9 rfl hS0 ?_;refine tU 21 50 8 rfl hS0 ?_;refine wpAnyH_all (fuel:=7) (rs:=[22]) (by kernel_rfl) (by decide) (List.forall_mem_singleton.2 ?_);refine wpOp_un (i:=22) (d:=51) rfl rfl (by kernel_rfl) ⟨hS0,?_⟩;simp only[List.setIfInBounds_toArray,List.set_cons_succ,List.set_cons_zero];refine tK 23 52 (.bool false) 6 rfl hS0 ?_;refine tK 24 53 (.bool false) 5 rfl hS0 ?_;refine tU 25 54 4 rfl hS0 ?_;refine tU 26 55 3 rfl hS0 ?_;refine wpAnyH_all (fuel:=2) (rs:=[27]) (by kernel_rfl) (by decide) (List.forall_mem_singleton.2 ?_);refine wpOp_un (i:=27) (d:=56) rfl rfl (by kernel_rfl) ⟨hS0,?_⟩;simp only[List.setIfInBounds_toArray,List.set_cons_succ,List.set_cons_zero];refine tK 28 57 (.bool false) 1 rfl hS0 ?_;refine tK 29 4 (.bool false) 0 rfl hS0 ?_;refine wpAnyH_done (by kernel_rfl) ?_ _;exact⟨rfl,by kernel_rfl,hS0⟩
    ·intro w9 hF;simp only[setAll,List.setIfInBounds_toArray,List.set_cons_succ,List.set_cons_zero];have HF9:Hid _:=hF;clear hF
     go_wp2_with fail
     go_ret
     exact⟨rfl,HF9.out.2⟩
  ·have hr1:decide (r=2)=false:=decide_eq_false hr;have hr2:(r==2)=false:=by simpa using hr
   clear hL
   go_enter Tryz.func56,Tryz.ntmps56
   go_wp2_with fail
   clear g0 g1 g2 g3 f0 f1 f2 f3 c0 c1;obtain⟨w1,hw1⟩:∃w1,w.alloc (.cells #[.int .i64 r,.int .i64 tr,.int .i64 sl,.bool un] 55)=w1:=⟨_,rfl⟩
   rw[hw1] at HO1 HB1 ⊢
   obtain⟨rb,hrb⟩:∃rb,w.heap.size=rb:=⟨_,rfl⟩
   rw[hrb]
   clear hw1;have hS0:Ou its l P ob w1.drew∧Below w.heap.size w w1.drew:=⟨HO1.out.later (Below.refl _ _).drew,HB1.out.trans ((Below.refl _ _).drew)⟩;refine region_thenF [(29,.bool false),(30,.bool false),(31,undef),(32,undef),(33,undef),(34,undef),(35,undef),(36,undef),(37,undef),(38,undef),(39,undef),(40,undef),(41,undef),(42,undef),(43,undef),(44,undef),(45,undef),(46,undef),(47,undef),(48,undef),(49,undef),(50,undef),(51,undef),(52,.bool false),(53,.bool false),(54,undef),(55,undef),(56,undef),(57,.bool false),(4,.bool false)] (fun w'=>Ou its l P ob w'∧Below w.heap.size w w') ?_ ?_
   ·refine wp_region_held (S:=fun w'=>Ou its l P ob w'∧Below w.heap.size w w') (by kernel_rfl) ?_;simp only[List.size_toArray,List.length_cons,List.length_nil,Nat.reduceAdd,Array.replicate_succ,Array.replicate_zero,List.push_toArray,List.nil_append,List.cons_append];refine tK 0 29 (.bool false) 29 rfl hS0 ?_;refine tK 1 30 (.bool false) 28 rfl hS0 ?_;refine tU 2 31 27 rfl hS0 ?_;refine tU 3 32 26 rfl hS0 ?_;refine tU 4 33 25 rfl hS0 ?_;refine tU 5 34 24 rfl hS0 ?_;refine tU 6 35 23 rfl hS0 ?_;refine tU 7 36 22 rfl hS0 ?_;refine tU 8 37 21 rfl hS0 ?_;refine tU 9 38 20 rfl hS0 ?_;refine tU 10 39 19 rfl hS0 ?_;refine tU 11 40 18 rfl hS0 ?_;refine tU 12 41 17 rfl hS0 ?_;refine tU 13 42 16 rfl hS0 ?_;refine tU 14 43 15 rfl hS0 ?_;refine tU 15 44 14 rfl hS0 ?_;refine tU 16 45 13 rfl hS0 ?_;refine tU 17 46 12 rfl hS0 ?_;refine tU 18 47 11 rfl hS0 ?_;refine tU 19 48 10 rfl hS0 ?_;refine tU 20 49 9 rfl hS0 ?_;refine tU 21 50 8 rfl hS0 ?_;refine wpAnyH_all (fuel:=7) (rs:=[22]) (by kernel_rfl) (by decide) (List.forall_mem_singleton.2 ?_);refine wpOp_un (i:=22) (d:=51) rfl rfl (by kernel_rfl) ⟨hS0,?_⟩;simp only[List.setIfInBounds_toArray,List.set_cons_succ,List.set_cons_zero];refine tK 23 52 (.bool false) 6 rfl hS0 ?_;refine tK 24 53 (.bool false) 5 rfl hS0 ?_;refine tU 25 54 4 rfl hS0 ?_;refine tU 26 55 3 rfl hS0 ?_;refine wpAnyH_all (fuel:=2) (rs:=[27]) (by kernel_rfl) (by decide) (List.forall_mem_singleton.2 ?_);refine wpOp_un (i:=27) (d:=56) rfl rfl (by kernel_rfl) ⟨hS0,?_⟩;simp only[List.setIfInBounds_toArray,List.set_cons_succ,List.set_cons_zero];refine tK 28 57 (.bool false) 1 rfl hS0 ?_;refine tK 29 4 (.bool false) 0 rfl hS0 ?_;refine wpAnyH_done (by kernel_rfl) ?_ _;exact⟨rfl,by kernel_rfl,hS0⟩
   ·intro w9 hF;simp only[setAll,List.setIfInBounds_toArray,List.set_cons_succ,List.set_cons_zero];have HF9:Hid _:=hF;clear hF
    go_wp2_with fail
    go_ret
    exact⟨rfl,HF9.out.2⟩
theorem may54_any {i bo:Nat}(hi:i < its.length)(h:Ou its l P ob w)(hbo:Boxed w bo 70 (.pointer (some ⟨ob,0,none⟩))) :
  Calls Tryz.prog 54 #[.int .i64 (i:Int),.pointer (some ⟨bo,0,none⟩)] w fun e w'=>e= .returned (.bool (mbB its l i || muB its l i))∧Below w.heap.size w w':=by
 have c0:=hbo.cell;have H1:Hid _:=mayBegin_any hi h;have H2:Hid (∀wx,Below w.heap.size w wx→Calls Tryz.prog 56 #[.pointer (some ⟨ob,0,none⟩),.int .i64 (i:Int)] wx fun e w'=>e= .returned (.bool (muB its l i))∧Below wx.heap.size wx w'):=fun wx hb=>mayBeUndone_any hi (h.later hb)
 have HBO:Hid (∀wx,Below w.heap.size w wx→Boxed wx bo 70 (.pointer (some ⟨ob,0,none⟩))):=fun wx hb=>(hb.block bo hbo.lt).trans hbo
 clear h hbo;generalize mbB its l i=b1 at *;generalize muB its l i=b2 at *;cases b1 with
 | true=>
  go_enter Tryz.func54,Tryz.ntmps54
  go_wp2_with fail
  refine Calls.mono H1.out ?_;rintro e w2 ⟨rfl,hb2⟩;have HB:Hid _:=hb2;clear hb2 H1 c0
  go_wp2_with fail
  go_ret
  exact⟨rfl,HB.out⟩
 | false=>
  go_enter Tryz.func54,Tryz.ntmps54
  go_wp2_with fail
  refine Calls.mono H1.out ?_;rintro e w2 ⟨rfl,hb2⟩;have HB:Hid _:=hb2;have H3:Hid _:=H2.out w2 hb2;have c2:=(HBO.out w2 hb2).cell;clear hb2 H1 c0 H2
  go_wp2_with fail
  refine Calls.mono H3.out ?_;rintro e w3 ⟨rfl,hb3⟩;have HB3:Hid _:=HB.out.trans (hb3.mono HB.out.size);clear hb3 H3 c2 HB
  go_wp2_with fail
  go_ret
  exact⟨rfl,HB3.out⟩
end Go.Proofs.YtieoppabellafaaGreatDoor.Ts
