/- Texts of the seat, packed: Ab Ac Aa. -/
import Derived.Test.YtieoppabellafaaGreatDoorH01
import Derived.Test.YtieoppabellafaaGreatDoorH13
import Derived.Test.YtieoppabellafaaGreatDoorH20
import Derived.Test.YtieoppabellafaaGreatDoorH21
import Derived.Test.YtieoppabellafaaGreatDoorH18
import Derived.WalkKit
import Derived.Below
import Derived.RangeFuncBound
import Derived.RangeFuncBox
import Derived.RangeFuncCalls
import Derived.RangeFuncLeaves
import Derived.RangeFuncNested
set_option maxRecDepth 1000000
set_option maxHeartbeats 64000000
set_option linter.unusedVariables false
namespace Go.Proofs.YtieoppabellafaaGreatDoor.Ts
open Go.RowKit Go.Shelf Fc St Sx Sa
structure OuP where
 xb:Nat
 xo:Nat
 icap:Nat
 fb:Nat
 fo:Nat
 lcap:Nat
 vb:Nat
 bd:Nat
 sb:Nat
 so:Nat
 scap:Nat
 ov:List (List Nat)
 B:Bo
structure Ou (its:List It)(l:List Fa)(P:OuP)(ob:Nat)(w:World):Prop where
 chk:chkF its l=0
 row:w.heap[ob]? =some (.cells #[.slice (some ⟨P.xb,P.xo,none⟩) its.length P.icap,.slice (some ⟨P.fb,P.fo,none⟩) its.length P.lcap,.pointer (some ⟨P.vb,0,none⟩),.pointer (some ⟨P.bd,0,none⟩),.slice (some ⟨P.sb,P.so,none⟩) its.length P.scap] 123 (0,0))
 it:RdIt w (.slice (some ⟨P.xb,P.xo,none⟩) its.length P.icap) its
 fa:RF w (.slice (some ⟨P.fb,P.fo,none⟩) its.length P.lcap) l
 vw:VwAt w P.vb its P.ov
 ovI:∀i,overL P.ov i=overI its i
 ovS:∀x∈P.ov,x.length≤1000000
 bo:RB w (.pointer (some ⟨P.bd,0,none⟩)) (some P.B)
 boO:BoOf (plOf its) (fOf l) P.B
 st:RS w (.slice (some ⟨P.sb,P.so,none⟩) its.length P.scap) (allS its l)
section
variable {its:List It}{l:List Fa}{P:OuP}{ob:Nat}{w:World}
theorem Ou.later {w':World}(h:Ou its l P ob w)(hb:Below w.heap.size w w'):Ou its l P ob w':=
 ⟨h.chk,(hb.block _ (jD.1 h.row).1).trans h.row,h.it.later hb,h.fa.later hb,h.vw.later hb,h.ovI,h.ovS,h.bo.later hb,h.boO,h.st.later hb⟩
theorem Ou.c0 (h:Ou its l P ob w):w.cell? ⟨ob,0,none⟩=some (.slice (some ⟨P.xb,P.xo,none⟩) its.length P.icap):=(Dg.cell_row h.row 0).trans rfl
theorem Ou.c1 (h:Ou its l P ob w):w.cell? ⟨ob,1,none⟩=some (.slice (some ⟨P.fb,P.fo,none⟩) its.length P.lcap):=(Dg.cell_row h.row 1).trans rfl
theorem Ou.c2 (h:Ou its l P ob w):w.cell? ⟨ob,2,none⟩=some (.pointer (some ⟨P.vb,0,none⟩)):=(Dg.cell_row h.row 2).trans rfl
theorem Ou.c3 (h:Ou its l P ob w):w.cell? ⟨ob,3,none⟩=some (.pointer (some ⟨P.bd,0,none⟩)):=(Dg.cell_row h.row 3).trans rfl
theorem Ou.c4 (h:Ou its l P ob w):w.cell? ⟨ob,4,none⟩=some (.slice (some ⟨P.sb,P.so,none⟩) its.length P.scap):=(Dg.cell_row h.row 4).trans rfl
theorem Ou.right (h:Ou its l P ob w):∃q,sagaP its=some q:=(chk_facts h.chk).1
theorem Ou.len (h:Ou its l P ob w):l.length=its.length:=(chk_facts h.chk).2.1
theorem Ou.few (h:Ou its l P ob w):1≤its.length∧its.length≤64:=root_len (chkF_iff.1 h.chk).1
theorem Ou.item (h:Ou its l P ob w){i:Nat}(hi:i < its.length):∃(x:It) (av:Option Addr) (am ac:Nat),its[i]? =some x∧
  w.cell? ⟨P.xb,P.xo+i * 8,none⟩=some (.string ⟨x.name.toArray⟩)∧w.cell? ⟨P.xb,P.xo+i * 8+1,none⟩=some (.string ⟨x.undo.toArray⟩)∧w.cell? ⟨P.xb,P.xo+i * 8+2,none⟩=some (.bool x.sub)∧w.cell? ⟨P.xb,P.xo+i * 8+3,none⟩=some (.bool x.vital)∧
  w.cell? ⟨P.xb,P.xo+i * 8+4,none⟩=some (.int .i64 x.alts)∧w.cell? ⟨P.xb,P.xo+i * 8+5,none⟩=some (.int .i64 x.inn)∧w.cell? ⟨P.xb,P.xo+i * 8+6,none⟩=some (.int .i64 x.alt)∧w.cell? ⟨P.xb,P.xo+i * 8+7,none⟩=some (.slice av am ac)∧RdZ w (.slice av am ac) x.after:=by
 obtain⟨x,hx⟩:∃x,its[i]? =some x:=⟨_,jF hi⟩
 obtain⟨a,cap,e,_,hr⟩:=h.it
 obtain⟨b,off,av,am,ac,rfl,c0,c1,c2,c3,c4,c5,c6,c7,hz⟩:=hr i x hx
 cases e;exact⟨x,av,am,ac,hx,c0,c1,c2,c3,c4,c5,c6,c7,hz⟩
theorem Ou.fact (h:Ou its l P ob w){i:Nat}(hi:i < its.length):w.cell? ⟨P.fb,P.fo+i * 4,none⟩=some (.int .i64 (fOf l i).run)∧w.cell? ⟨P.fb,P.fo+i * 4+1,none⟩=some (.int .i64 (fOf l i).tries)∧w.cell? ⟨P.fb,P.fo+i * 4+2,none⟩=some (.int .i64 (fOf l i).slips)∧w.cell? ⟨P.fb,P.fo+i * 4+3,none⟩=some (.bool (fOf l i).un):=by
 obtain⟨x,hx⟩:∃x,l[i]? =some x:=⟨_,jF (by rw[h.len];exact hi)⟩
 obtain⟨a,cap,e,_,_,hr⟩:=h.fa
 obtain⟨b,off,rfl,c0,c1,c2,c3⟩:=hr i x hx
 injection e with e1
 cases e1;rw[fOf_at hx]
 exact⟨c0,c1,c2,c3⟩
theorem Ou.stat (h:Ou its l P ob w){i:Nat}(hi:i < its.length):w.cell? ⟨P.sb,P.so+i,none⟩=some (.int .i64 (St.S (plOf its) (fOf l) i)):=by
 have hz:(allS its l)[i]? =some (St.S (plOf its) (fOf l) i):=by
  unfold allS;rw[if_pos h.chk,zC,List.getElem?_range hi]
  rfl
 obtain⟨a,cap,e,_,hr⟩:=h.st
 obtain⟨b,off,rfl,c0⟩:=hr i _ hz
 injection e with e1
 cases e1;exact c0
theorem Ou.seen (h:Ou its l P ob w):SeeO its l (some P.B):=by
 unfold SeeO;rw[if_pos h.chk]
 exact⟨_,rfl,h.boO⟩
theorem it_pl {q:By × Tr}(hq:sagaP its=some q){i:Nat}{x:It}(hx:its[i]? =some x) :
  (plOf its).sub i=x.sub∧(plOf its).vital i=x.vital∧(1≤i→x.inn=((plOf its).inn i:Nat)∧x.alt=((plOf its).alt i:Nat)):=by
 refine⟨?_,?_,fun h1=>?_⟩
 ·show (its.getD i It.z).sub=_;rw[getD_it hx]
 ·show (its.getD i It.z).vital=_;rw[getD_it hx]
 ·obtain⟨_,hi⟩:=plan_items hq
  obtain⟨⟨j,a,y,e1,e2,_⟩,_⟩:=hi i x hx h1
  refine⟨?_,?_⟩
  ·show x.inn=((its.getD i It.z).inn.toNat:Int);rw[getD_it hx,e1]
   rfl
  ·show x.alt=((its.getD i It.z).alt.toNat:Int);rw[getD_it hx,e2]
   rfl
theorem after_pl {q:By × Tr}(hq:sagaP its=some q){i:Nat}{x:It}(hx:its[i]? =some x)(h1:1≤i){z:Int}(hz:z∈x.after):∃a:Nat,z=(a:Int)∧a∈afOf its i∧1≤a∧a < its.length:=by
 have hp:=plan_leans hq;have hil:i < its.length:=(jH.1 hx).1;obtain⟨_,_,_,_,W,o,hw⟩:=right_facts hq
 obtain⟨_,hW,hends,_,_,_,_⟩:=Dg.weave_facts hw
 have h9:=St.arcTo_mem hx hz _ hil;have h8:=zF.1 hends _ (Dg.swapA_mem.2 h9);have hz0:0≤z:=by
  unfold Dg.endsOk at h8;have h7:=of_decide_eq_true h8;omega
 have hm:z.toNat∈afOf its i:=by
  unfold afOf;rw[getD_it hx]
  exact zS.2 ⟨z,hz,rfl⟩
 obtain⟨a1,a2,_⟩:=hp.ons i h1 hil _ hm
 exact⟨z.toNat,by omega,hm,a1,a2⟩
end
open Classical in
noncomputable def psB (its:List It)(l:List Fa)(i:Nat):Bool:=decide (Ps (plOf its) (fOf l) i)
open Classical in
noncomputable def rcB (its:List It)(l:List Fa)(i:Nat):Bool:=decide (Rc (plOf its) (afOf its) (fOf l) i)
open Classical in
noncomputable def rnB (its:List It)(l:List Fa)(i:Nat):Bool:=decide (Rn (plOf its) (afOf its) (fOf l) i)
open Classical in
noncomputable def mbB (its:List It)(l:List Fa)(i:Nat):Bool:=decide (MB (plOf its) (afOf its) (fOf l) i)
open Classical in
noncomputable def muB (its:List It)(l:List Fa)(i:Nat):Bool:=decide (MU (plOf its) (afOf its) (fOf l) i)
open Classical in
noncomputable def baB (its:List It)(l:List Fa)(i:Nat):Bool:=decide (Oc (plOf its) (afOf its) (fOf l) i∧∀s,An (plOf its) i s→1≤s→Oc (plOf its) (afOf its) (fOf l) s)
open Classical in
theorem psB_iff {its:List It}{l:List Fa}{i:Nat} :psB its l i=true↔(Ps (plOf its) (fOf l) i):=by unfold psB;exact decide_eq_true_iff
open Classical in
theorem rcB_iff {its:List It}{l:List Fa}{i:Nat} :rcB its l i=true↔(Rc (plOf its) (afOf its) (fOf l) i):=by unfold rcB;exact decide_eq_true_iff
open Classical in
theorem rnB_iff {its:List It}{l:List Fa}{i:Nat} :rnB its l i=true↔(Rn (plOf its) (afOf its) (fOf l) i):=by unfold rnB;exact decide_eq_true_iff
open Classical in
theorem mbB_iff {its:List It}{l:List Fa}{i:Nat} :mbB its l i=true↔(MB (plOf its) (afOf its) (fOf l) i):=by unfold mbB;exact decide_eq_true_iff
open Classical in
theorem muB_iff {its:List It}{l:List Fa}{i:Nat} :muB its l i=true↔(MU (plOf its) (afOf its) (fOf l) i):=by unfold muB;exact decide_eq_true_iff
open Classical in
theorem baB_iff {its:List It}{l:List Fa}{i:Nat} :baB its l i=true↔(Oc (plOf its) (afOf its) (fOf l) i∧∀s,An (plOf its) i s→1≤s→Oc (plOf its) (afOf its) (fOf l) s):=by unfold baB;exact decide_eq_true_iff
theorem letsGo_any {its:List It}{l:List Fa}{P:OuP}{ob:Nat}{w:World}(h:Ou its l P ob w){i:Nat}(hi:i < its.length) :
  Calls Tryz.prog 121 #[.pointer (some ⟨ob,0,none⟩),.int .i64 (i:Int)] w fun e w'=>e= .returned (.bool (psB its l i))∧w=w':=by
 obtain⟨q,hq⟩:=h.right
 obtain⟨x,av,am,ac,hx,_,_,k2,k3,_⟩:=h.item hi
 obtain⟨e1,e2,_⟩:=it_pl hq hx
 have c0:=h.c0;have c4:=h.c4;have s0:=h.stat hi;have HQ:Hid (psB its l i=(decide (St.S (plOf its) (fOf l) i=2) || (x.sub && !x.vital && decide (St.S (plOf its) (fOf l) i=3)))):=by
  show _=_;rw[←e1,←e2]
  refine Bool.eq_iff_iff.2 ?_;rw[psB_iff,ps_S h.chk hi]
  simp only[Bool.or_eq_true,jT,Bool.not_eq_true',decide_eq_true_eq,and_assoc]
 have hii:(i:Int) < (its.length:Int):=by omega
 have hn:=h.few;obtain⟨Q,HQQ⟩:∃Q,Hid (Q=psB its l i):=⟨_,rfl⟩
 rw[←HQQ.out] at HQ ⊢
 generalize St.S (plOf its) (fOf l) i=s at *;generalize x.sub=su at *;generalize x.vital=vi at *;obtain⟨n,HN⟩:∃n,Hid (its.length=n):=⟨_,rfl⟩
 rw[HN.out] at c0 c4 hii hn
 obtain⟨xb,xo,icap,fb,fo,lcap,vb,bd,sb,so,scap,ov,B⟩:=P
 dsimp only at c0 c4 k2 k3 s0;clear h hq hx e1 e2 hi HQQ
 by_cases h2:s=2
 ·subst h2;obtain rfl:Q=true:=by rw[HQ.out];rfl
  clear HQ;cases su <;> cases vi
  all_goals
   go_enter Tryz.func121,Tryz.ntmps121
   go_wp2_with fail
   go_ret
   exact⟨rfl,rfl⟩
 ·have hd2:decide (s=2)=false:=decide_eq_false h2;have hb2:(s==2)=false:=by simpa using h2
  by_cases h3:s=3
  ·subst h3;cases su <;> cases vi
   all_goals
    have HQ2:=HQ.out;simp at HQ2;subst HQ2;clear HQ
    go_enter Tryz.func121,Tryz.ntmps121
    go_wp2_with fail
    go_ret
    exact⟨rfl,rfl⟩
  ·have hd3:decide (s=3)=false:=decide_eq_false h3;have hb3:(s==3)=false:=by simpa using h3
   obtain rfl:Q=false:=by rw[HQ.out,hd2,hd3];simp
   clear HQ;cases su <;> cases vi
   all_goals
    go_enter Tryz.func121,Tryz.ntmps121
    go_wp2_with fail
    go_ret
    exact⟨rfl,rfl⟩
end Go.Proofs.YtieoppabellafaaGreatDoor.Ts
namespace Go.Proofs.YtieoppabellafaaGreatDoor.Ts
open Go.RowKit Go.Shelf Fc St Sx Sa
variable {its:List It}{l:List Fa}{P:OuP}{ob:Nat}{w:World}
theorem Ou.at_any (h:Ou its l P ob w)(i:Int):Calls Tryz.prog 119 #[.pointer (some ⟨P.bd,0,none⟩),.int .i64 i] w fun e w'=>e= .returned (.int .i64 (atS its l i))∧Below w.heap.size w w':=by
  have h9:=bAt_any h.bo i
  rw[see_at h.seen i] at h9
  exact h9
theorem Ou.fal_any (h:Ou its l P ob w)(s a:Int):Calls Tryz.prog 84 #[.pointer (some ⟨P.bd,0,none⟩),.int .i64 s,.int .i64 a] w fun e w'=>e= .returned (.bool (falS its l s a))∧Below w.heap.size w w':=by
  have h9:=bFalling_any h.bo s a
  rw[see_fal h.seen s a] at h9
  exact h9
theorem Ou.cle_any (h:Ou its l P ob w)(i:Int):Calls Tryz.prog 34 #[.pointer (some ⟨P.bd,0,none⟩),.int .i64 i] w fun e w'=>e= .returned (.bool (cleS its l i))∧Below w.heap.size w w':=by
  have h9:=bClean_any h.bo i
  rw[see_cle h.seen i] at h9
  exact h9
theorem inn_facts (hc:chkF its l=0){i:Nat}(h1:1≤i)(hi:i < its.length):(plOf its).inn i < i∧(plOf its).sub ((plOf its).inn i)=true∧(plOf its).alt i < (plOf its).alts ((plOf its).inn i)∧(plOf its).alt i < 4:=by
  obtain⟨⟨q,hq⟩,_⟩:=chk_facts hc
  have h3:=(lg_of hc).ok.inn i h1 hi
  refine⟨h3.1,h3.2.1,h3.2.2,?_⟩
  have hl:(plOf its).inn i < its.length:=by omega
  obtain⟨x,hx⟩:∃x,its[(plOf its).inn i]? =some x:=⟨_,jF hl⟩
  have h4:(plOf its).alts ((plOf its).inn i)≤4:=by
    obtain⟨⟨r,r0,r1,r2,r3,r4,r5⟩,hi⟩:=plan_items hq
    show (its.getD ((plOf its).inn i) It.z).alts.toNat≤4
    rw[getD_it hx]
    by_cases h0:(plOf its).inn i=0
    · rw[h0,r0] at hx
      cases hx
      omega
    · have:=(hi _ x hx (by omega)).2
      split at this <;> omega
  omega
theorem rc_parts (hc:chkF its l=0){i:Nat}(h1:1≤i)(hi:i < its.length):Rc (plOf its) (afOf its) (fOf l) i↔atS its l ((plOf its).inn i:Nat)=((plOf its).alt i:Nat)∧falS its l ((plOf its).inn i:Nat) ((plOf its).alt i:Nat)=false∧rnB its l ((plOf its).inn i)=true∧∀a∈afOf its i,psB its l a=true:=by
  obtain⟨i1,i2,i3,i4⟩:=inn_facts hc h1 hi
  have e1:=at_S hc (show (plOf its).inn i < its.length by omega) i2
  have e2:=ff_S hc (show (plOf its).inn i < its.length by omega) i3 i4
  unfold Rc
  rw[e1,e2]
  simp only[rnB_iff,psB_iff,Bool.not_eq_true]
  constructor
  · rintro⟨a,b,c,d⟩
    exact⟨by rw[b],c,a,d⟩
  · rintro⟨a,b,c,d⟩
    exact⟨c,by omega,b,d⟩
theorem after_le {its:List It}{x:It}(h:x∈its):x.after.length≤arcN its:=by
  unfold arcN
  induction its with
  | nil=>cases h
  | cons y r ih=>
    rw[zZ,List.sum_cons]
    rcases zJ.1 h with rfl | h
    · omega
    · have:=ih h;omega
structure RcS (its:List It)(l:List Fa)(P:OuP)(ob rb:Nat)(row:Array Value)(w:World):Prop where
  ou:Ou its l P ob w
  row:w.heap[rb]? =some (.cells row 50 (0,0))
theorem RcS.later {rb:Nat}{row:Array Value}{w':World}(h:RcS its l P ob rb row w)(hb:Below w.heap.size w w'):RcS its l P ob rb row w':=
  ⟨h.ou.later hb,(hb.block _ (jD.1 h.row).1).trans h.row⟩
theorem reach_step {i:Nat}(h1:1≤i)(hi:i < its.length)(hR:∀w,Ou its l P ob w→Calls Tryz.prog 120 #[.pointer (some ⟨ob,0,none⟩),.int .i64 ((plOf its).inn i:Nat)] w fun e w'=>e= .returned (.bool (rnB its l ((plOf its).inn i)))∧Below w.heap.size w w')(h:Ou its l P ob w) :
    Calls Tryz.prog 83 #[.pointer (some ⟨ob,0,none⟩),.int .i64 (i:Int)] w fun e w'=>e= .returned (.bool (rcB its l i))∧Below w.heap.size w w':=by
  obtain⟨q,hq⟩:=h.right
  obtain⟨x,av,am,ac,hx,k0,k1,k2,k3,k4,k5,k6,k7,hz⟩:=h.item hi
  obtain⟨_,_,e3⟩:=it_pl hq hx
  obtain⟨e4,e5⟩:=e3 h1
  have c0:=h.c0
  have hn:=h.few
  have HPC:Hid _:=rc_parts h.chk h1 hi
  have HAF:Hid (∀z∈x.after,∃a:Nat,z=(a:Int)∧a∈afOf its i∧1≤a∧a < its.length):=fun z hz=>after_pl hq hx h1 hz
  have HAI:Hid (∀a∈afOf its i,(a:Int)∈x.after):=fun a ha=>by
    have h9:=ha
    unfold afOf at h9
    rw[getD_it hx] at h9
    obtain⟨z,hz,rfl⟩:=zS.1 h9
    obtain⟨a',e,_⟩:=after_pl hq hx h1 hz
    rw[e,j8,←e]
    exact hz
  rw[e4] at k5
  rw[e5] at k6
  have HAT:Hid (∀wx,Ou its l P ob wx→Calls Tryz.prog 119 #[.pointer (some ⟨P.bd,0,none⟩),.int .i64 ((plOf its).inn i:Nat)] wx fun e w'=>e= .returned (.int .i64 (atS its l ((plOf its).inn i:Nat)))∧Below wx.heap.size wx w'):=fun wx h=>h.at_any _
  have HFA:Hid (∀wx,Ou its l P ob wx→Calls Tryz.prog 84 #[.pointer (some ⟨P.bd,0,none⟩),.int .i64 ((plOf its).inn i:Nat),.int .i64 ((plOf its).alt i:Nat)] wx fun e w'=>e= .returned (.bool (falS its l ((plOf its).inn i:Nat) ((plOf its).alt i:Nat)))∧Below wx.heap.size wx w'):=fun wx h=>h.fal_any _ _
  have HRN:Hid _:=hR
  obtain⟨Q,HQ⟩:∃Q,Hid (Q=rcB its l i):=⟨_,rfl⟩
  rw[←HQ.out]
  have HQ1:Hid (Q=true↔Rc (plOf its) (afOf its) (fOf l) i):=by show _↔_;rw[HQ.out];exact rcB_iff
  rw[HPC.out] at HQ1
  generalize (plOf its).inn i=inn at *
  generalize (plOf its).alt i=alt at *
  generalize atS its l (inn:Nat)=at9 at *
  generalize falS its l (inn:Nat) (alt:Nat)=fal at *
  generalize rnB its l inn=rn at *
  have hii:(i:Int) < (its.length:Int):=by omega
  obtain⟨n,HN⟩:∃n,Hid (its.length=n):=⟨_,rfl⟩
  have HOU:Hid _:=h
  rw[HN.out] at c0 hii hn HAF
  have hb1:=bl1 w (.cells #[.string ⟨x.name.toArray⟩,.string ⟨x.undo.toArray⟩,.bool x.sub,.bool x.vital,.int .i64 x.alts,.int .i64 (inn:Nat),.int .i64 (alt:Nat),.slice av am ac] 50)
  have rx:=Dg.row_new w #[.string ⟨x.name.toArray⟩,.string ⟨x.undo.toArray⟩,.bool x.sub,.bool x.vital,.int .i64 x.alts,.int .i64 (inn:Nat),.int .i64 (alt:Nat),.slice av am ac] 50
  have H1:Hid (RcS its l P ob w.heap.size #[.string ⟨x.name.toArray⟩,.string ⟨x.undo.toArray⟩,.bool x.sub,.bool x.vital,.int .i64 x.alts,.int .i64 (inn:Nat),.int .i64 (alt:Nat),.slice av am ac] (w.alloc (.cells #[.string ⟨x.name.toArray⟩,.string ⟨x.undo.toArray⟩,.bool x.sub,.bool x.vital,.int .i64 x.alts,.int .i64 (inn:Nat),.int .i64 (alt:Nat),.slice av am ac] 50))):=⟨h.later hb1,rx⟩
  have HBW:Hid _:=hb1
  have HRZ:Hid _:=hz
  have haf:x.after.length≤1000000:=zH (after_le (jS hx)) (right_facts hq).2.1
  have HAFL:Hid _:=haf
  clear haf
  clear h hq hx e3 e4 e5 hi h1 hb1 rx HQ HPC hR hz
  generalize x.name=nm at *
  generalize x.undo=un at *
  generalize x.sub=su at *
  generalize x.vital=vi at *
  generalize x.alts=als at *
  go_enter Tryz.func83,Tryz.ntmps83
  go_wp2_with fail
  clear k0 k1 k2 k3 k4 k5 k6 k7 c0
  obtain⟨rb,hrb⟩:∃rb,w.heap.size=rb:=⟨_,rfl⟩
  rw[hrb] at H1 ⊢
  obtain⟨w1,hw1⟩:∃w1,w.alloc (.cells #[.string ⟨nm.toArray⟩,.string ⟨un.toArray⟩,.bool su,.bool vi,.int .i64 als,.int .i64 (inn:Nat),.int .i64 (alt:Nat),.slice av am ac] 50)=w1:=⟨_,rfl⟩
  rw[hw1] at H1 HBW ⊢
  clear hw1
  obtain⟨row,HROW⟩:∃row:Array Value,Hid (row= #[.string ⟨nm.toArray⟩,.string ⟨un.toArray⟩,.bool su,.bool vi,.int .i64 als,.int .i64 (inn:Nat),.int .i64 (alt:Nat),.slice av am ac]):=⟨_,rfl⟩
  rw[←HROW.out] at H1
  have HC5:Hid (∀wx,RcS its l P ob rb row wx→wx.cell? ⟨rb,5,none⟩=some (.int .i64 (inn:Nat))):=fun wx h=>by have:=Dg.cell_row h.row 5;rw[HROW.out] at this;exact this.trans rfl
  have HC6:Hid (∀wx,RcS its l P ob rb row wx→wx.cell? ⟨rb,6,none⟩=some (.int .i64 (alt:Nat))):=fun wx h=>by have:=Dg.cell_row h.row 6;rw[HROW.out] at this;exact this.trans rfl
  have HC7:Hid (∀wx,RcS its l P ob rb row wx→wx.cell? ⟨rb,7,none⟩=some (.slice av am ac)):=fun wx h=>by have:=Dg.cell_row h.row 7;rw[HROW.out] at this;exact this.trans rfl
  have hS0:RcS its l P ob rb row w1.drew∧Below w.heap.size w w1.drew:=⟨H1.out.later (Below.refl _ _).drew,HBW.out.trans ((Below.refl _ _).drew)⟩
  have HLR:Hid (∀wx w':World,(RcS its l P ob rb row wx∧Below w.heap.size w wx)→Below wx.heap.size wx w'→RcS its l P ob rb row w'∧Below w.heap.size w w'):=fun wx w' h hb=>⟨h.1.later hb,h.2.trans (hb.mono h.2.size)⟩
  by_cases hat:at9=(alt:Int)
  rotate_left
  · obtain rfl:Q=false:=by
      cases hQ:Q with
      | false=>rfl
      | true=>exact absurd (HQ1.out.1 hQ).1 hat
    have hne:(at9 !=(alt:Int))=true:=by simpa using hat
    clear HQ1
    refine region_thenF [(15,.pointer (some ⟨ob,0,none⟩)),(16,.pointer (some ⟨ob,0,none⟩)),(17,.pointer (some ⟨ob,3,none⟩)),(18,.pointer (some ⟨P.bd,0,none⟩)),(19,.pointer (some ⟨rb,5,none⟩)),(20,.int .i64 (inn:Nat)),(21,.int .i64 at9),(22,.pointer (some ⟨rb,6,none⟩)),(23,.int .i64 (alt:Nat)),(24,.bool true),(25,.bool true),(26,undef),(27,undef),(28,undef),(29,undef),(30,undef),(31,undef),(32,undef),(33,undef),(34,undef),(35,.bool true),(36,.bool true),(37,undef),(38,undef),(39,undef),(40,undef),(41,undef),(42,.bool true)] (fun w'=>RcS its l P ob rb row w'∧Below w.heap.size w w') ?_ ?_
    · refine wp_region_held (S:=fun w'=>RcS its l P ob rb row w'∧Below w.heap.size w w') (by kernel_rfl) ?_
      simp only[jN,jM,jP,Nat.reduceAdd,jI,jJ,jO,jL,jK]
      refine tK 0 15 (.pointer (some ⟨ob,0,none⟩)) 27 rfl hS0 ?_
      refine tG 1 16 (.pointer (some ⟨ob,0,none⟩)) 26 rfl hS0 ?_
      refine tG 2 17 (.pointer (some ⟨ob,3,none⟩)) 25 rfl hS0 ?_
      refine tV 3 18 (.pointer (some ⟨P.bd,0,none⟩)) 24 rfl hS0 ?_ (fun wx h=>by have y0:=h.1.ou.c3;go_simp)
      refine tG 4 19 (.pointer (some ⟨rb,5,none⟩)) 23 rfl hS0 ?_
      refine tV 5 20 (.int .i64 (inn:Nat)) 22 rfl hS0 ?_ (fun wx h=>by have y0:=HC5.out wx h.1;go_simp)
      refine tG 7 22 (.pointer (some ⟨rb,6,none⟩)) 21 rfl hS0 ?_
      refine tV 8 23 (.int .i64 (alt:Nat)) 20 rfl hS0 ?_ (fun wx h=>by have y0:=HC6.out wx h.1;go_simp)
      refine oneC (i:=6) (d:=21) (f:=119) (args:= #[.pointer (some ⟨P.bd,0,none⟩),.int .i64 (inn:Nat)]) (v:= .int .i64 at9) (fuel:=19) rfl rfl (by kernel_rfl) (by kernel_rfl) (fun _=>by kernel_rfl) hS0 (fun wx h=>Calls.mono (HAT.out wx h.1.ou) (by rintro e w2 ⟨rfl,hb⟩;exact⟨rfl,HLR.out wx w2 h hb⟩)) (fun wz hS106=>?_)
      simp only[jA,jB,jC]
      refine tV 9 24 (.bool true) 18 rfl hS106 ?_ (fun wx h=>by go_simp)
      refine tK 10 25 (.bool true) 17 rfl hS106 ?_
      refine tU 11 26 16 rfl hS106 ?_
      refine tU 12 27 15 rfl hS106 ?_
      refine tU 13 28 14 rfl hS106 ?_
      refine tU 14 29 13 rfl hS106 ?_
      refine tU 15 30 12 rfl hS106 ?_
      refine tU 16 31 11 rfl hS106 ?_
      refine tU 17 32 10 rfl hS106 ?_
      refine tU 18 33 9 rfl hS106 ?_
      refine wpAnyH_all (fuel:=8) (rs:=[19]) (by kernel_rfl) (by decide) (jE.2 ?_)
      refine wpOp_un (i:=19) (d:=34) rfl rfl (by kernel_rfl) ⟨hS106,?_⟩
      simp only[jA,jB,jC]
      refine tK 20 35 (.bool true) 7 rfl hS106 ?_
      refine tK 21 36 (.bool true) 6 rfl hS106 ?_
      refine tU 22 37 5 rfl hS106 ?_
      refine tU 23 38 4 rfl hS106 ?_
      refine tU 24 39 3 rfl hS106 ?_
      refine wpAnyH_all (fuel:=2) (rs:=[25]) (by kernel_rfl) (by decide) (jE.2 ?_)
      refine wpOp_un (i:=25) (d:=40) rfl rfl (by kernel_rfl) ⟨hS106,?_⟩
      simp only[jA,jB,jC]
      refine tU 26 41 1 rfl hS106 ?_
      refine tK 27 42 (.bool true) 0 rfl hS106 ?_
      refine wpAnyH_done (by kernel_rfl) ?_ _
      exact⟨rfl,by kernel_rfl,hS106⟩
    · intro w9 hF
      simp only[setAll,jA,jB,jC]
      have HF9:Hid _:=hF
      clear hF
      go_wp2_with fail
      go_ret
      exact⟨rfl,HF9.out.2⟩
  · subst hat
    cases fal with
    | true=>
      obtain rfl:Q=false:=by
        cases hQ:Q with
        | false=>rfl
        | true=>exact absurd (HQ1.out.1 hQ).2.1 (by decide)
      clear HQ1
      refine region_thenF [(15,.pointer (some ⟨ob,0,none⟩)),(16,.pointer (some ⟨ob,0,none⟩)),(17,.pointer (some ⟨ob,3,none⟩)),(18,.pointer (some ⟨P.bd,0,none⟩)),(19,.pointer (some ⟨rb,5,none⟩)),(20,.int .i64 (inn:Nat)),(21,.int .i64 (alt:Nat)),(22,.pointer (some ⟨rb,6,none⟩)),(23,.int .i64 (alt:Nat)),(24,.bool false),(25,.bool false),(26,.pointer (some ⟨ob,0,none⟩)),(27,.pointer (some ⟨ob,0,none⟩)),(28,.pointer (some ⟨ob,3,none⟩)),(29,.pointer (some ⟨P.bd,0,none⟩)),(30,.pointer (some ⟨rb,5,none⟩)),(31,.int .i64 (inn:Nat)),(32,.pointer (some ⟨rb,6,none⟩)),(33,.int .i64 (alt:Nat)),(34,.bool true),(35,.bool true),(36,.bool true),(37,undef),(38,undef),(39,undef),(40,undef),(41,undef),(42,.bool true)] (fun w'=>RcS its l P ob rb row w'∧Below w.heap.size w w') ?_ ?_
      · refine wp_region_held (S:=fun w'=>RcS its l P ob rb row w'∧Below w.heap.size w w') (by kernel_rfl) ?_
        simp only[jN,jM,jP,Nat.reduceAdd,jI,jJ,jO,jL,jK]
        refine tK 0 15 (.pointer (some ⟨ob,0,none⟩)) 27 rfl hS0 ?_
        refine tG 1 16 (.pointer (some ⟨ob,0,none⟩)) 26 rfl hS0 ?_
        refine tG 2 17 (.pointer (some ⟨ob,3,none⟩)) 25 rfl hS0 ?_
        refine tV 3 18 (.pointer (some ⟨P.bd,0,none⟩)) 24 rfl hS0 ?_ (fun wx h=>by have y0:=h.1.ou.c3;go_simp)
        refine tG 4 19 (.pointer (some ⟨rb,5,none⟩)) 23 rfl hS0 ?_
        refine tV 5 20 (.int .i64 (inn:Nat)) 22 rfl hS0 ?_ (fun wx h=>by have y0:=HC5.out wx h.1;go_simp)
        refine tG 7 22 (.pointer (some ⟨rb,6,none⟩)) 21 rfl hS0 ?_
        refine tV 8 23 (.int .i64 (alt:Nat)) 20 rfl hS0 ?_ (fun wx h=>by have y0:=HC6.out wx h.1;go_simp)
        refine oneC (i:=6) (d:=21) (f:=119) (args:= #[.pointer (some ⟨P.bd,0,none⟩),.int .i64 (inn:Nat)]) (v:= .int .i64 (alt:Nat)) (fuel:=19) rfl rfl (by kernel_rfl) (by kernel_rfl) (fun _=>by kernel_rfl) hS0 (fun wx h=>Calls.mono (HAT.out wx h.1.ou) (by rintro e w2 ⟨rfl,hb⟩;exact⟨rfl,HLR.out wx w2 h hb⟩)) (fun wz hS106=>?_)
        simp only[jA,jB,jC]
        refine tV 9 24 (.bool false) 18 rfl hS106 ?_ (fun wx h=>by go_simp)
        refine tK 10 25 (.bool false) 17 rfl hS106 ?_
        refine tK 11 26 (.pointer (some ⟨ob,0,none⟩)) 16 rfl hS106 ?_
        refine tG 12 27 (.pointer (some ⟨ob,0,none⟩)) 15 rfl hS106 ?_
        refine tG 13 28 (.pointer (some ⟨ob,3,none⟩)) 14 rfl hS106 ?_
        refine tV 14 29 (.pointer (some ⟨P.bd,0,none⟩)) 13 rfl hS106 ?_ (fun wx h=>by have y0:=h.1.ou.c3;go_simp)
        refine tG 15 30 (.pointer (some ⟨rb,5,none⟩)) 12 rfl hS106 ?_
        refine tV 16 31 (.int .i64 (inn:Nat)) 11 rfl hS106 ?_ (fun wx h=>by have y0:=HC5.out wx h.1;go_simp)
        refine tG 17 32 (.pointer (some ⟨rb,6,none⟩)) 10 rfl hS106 ?_
        refine tV 18 33 (.int .i64 (alt:Nat)) 9 rfl hS106 ?_ (fun wx h=>by have y0:=HC6.out wx h.1;go_simp)
        refine oneC (i:=19) (d:=34) (f:=84) (args:= #[.pointer (some ⟨P.bd,0,none⟩),.int .i64 (inn:Nat),.int .i64 (alt:Nat)]) (v:= .bool true) (fuel:=8) rfl rfl (by kernel_rfl) (by kernel_rfl) (fun _=>by kernel_rfl) hS106 (fun wx h=>Calls.mono (HFA.out wx h.1.ou) (by rintro e w2 ⟨rfl,hb⟩;exact⟨rfl,HLR.out wx w2 h hb⟩)) (fun wz hS119=>?_)
        simp only[jA,jB,jC]
        refine tK 20 35 (.bool true) 7 rfl hS119 ?_
        refine tK 21 36 (.bool true) 6 rfl hS119 ?_
        refine tU 22 37 5 rfl hS119 ?_
        refine tU 23 38 4 rfl hS119 ?_
        refine tU 24 39 3 rfl hS119 ?_
        refine wpAnyH_all (fuel:=2) (rs:=[25]) (by kernel_rfl) (by decide) (jE.2 ?_)
        refine wpOp_un (i:=25) (d:=40) rfl rfl (by kernel_rfl) ⟨hS119,?_⟩
        simp only[jA,jB,jC]
        refine tU 26 41 1 rfl hS119 ?_
        refine tK 27 42 (.bool true) 0 rfl hS119 ?_
        refine wpAnyH_done (by kernel_rfl) ?_ _
        exact⟨rfl,by kernel_rfl,hS119⟩
      · intro w9 hF
        simp only[setAll,jA,jB,jC]
        have HF9:Hid _:=hF
        clear hF
        go_wp2_with fail
        go_ret
        exact⟨rfl,HF9.out.2⟩
    | false=>
      cases rn with
      | false=>
        obtain rfl:Q=false:=by
          cases hQ:Q with
          | false=>rfl
          | true=>exact absurd (HQ1.out.1 hQ).2.2.1 (by decide)
        clear HQ1
        refine region_thenF [(15,.pointer (some ⟨ob,0,none⟩)),(16,.pointer (some ⟨ob,0,none⟩)),(17,.pointer (some ⟨ob,3,none⟩)),(18,.pointer (some ⟨P.bd,0,none⟩)),(19,.pointer (some ⟨rb,5,none⟩)),(20,.int .i64 (inn:Nat)),(21,.int .i64 (alt:Nat)),(22,.pointer (some ⟨rb,6,none⟩)),(23,.int .i64 (alt:Nat)),(24,.bool false),(25,.bool false),(26,.pointer (some ⟨ob,0,none⟩)),(27,.pointer (some ⟨ob,0,none⟩)),(28,.pointer (some ⟨ob,3,none⟩)),(29,.pointer (some ⟨P.bd,0,none⟩)),(30,.pointer (some ⟨rb,5,none⟩)),(31,.int .i64 (inn:Nat)),(32,.pointer (some ⟨rb,6,none⟩)),(33,.int .i64 (alt:Nat)),(34,.bool false),(35,.bool false),(36,.bool false),(37,.pointer (some ⟨ob,0,none⟩)),(38,.pointer (some ⟨rb,5,none⟩)),(39,.int .i64 (inn:Nat)),(40,.bool false),(41,.bool true),(42,.bool true)] (fun w'=>RcS its l P ob rb row w'∧Below w.heap.size w w') ?_ ?_
        · refine wp_region_held (S:=fun w'=>RcS its l P ob rb row w'∧Below w.heap.size w w') (by kernel_rfl) ?_
          simp only[jN,jM,jP,Nat.reduceAdd,jI,jJ,jO,jL,jK]
          refine tK 0 15 (.pointer (some ⟨ob,0,none⟩)) 27 rfl hS0 ?_
          refine tG 1 16 (.pointer (some ⟨ob,0,none⟩)) 26 rfl hS0 ?_
          refine tG 2 17 (.pointer (some ⟨ob,3,none⟩)) 25 rfl hS0 ?_
          refine tV 3 18 (.pointer (some ⟨P.bd,0,none⟩)) 24 rfl hS0 ?_ (fun wx h=>by have y0:=h.1.ou.c3;go_simp)
          refine tG 4 19 (.pointer (some ⟨rb,5,none⟩)) 23 rfl hS0 ?_
          refine tV 5 20 (.int .i64 (inn:Nat)) 22 rfl hS0 ?_ (fun wx h=>by have y0:=HC5.out wx h.1;go_simp)
          refine tG 7 22 (.pointer (some ⟨rb,6,none⟩)) 21 rfl hS0 ?_
          refine tV 8 23 (.int .i64 (alt:Nat)) 20 rfl hS0 ?_ (fun wx h=>by have y0:=HC6.out wx h.1;go_simp)
          refine oneC (i:=6) (d:=21) (f:=119) (args:= #[.pointer (some ⟨P.bd,0,none⟩),.int .i64 (inn:Nat)]) (v:= .int .i64 (alt:Nat)) (fuel:=19) rfl rfl (by kernel_rfl) (by kernel_rfl) (fun _=>by kernel_rfl) hS0 (fun wx h=>Calls.mono (HAT.out wx h.1.ou) (by rintro e w2 ⟨rfl,hb⟩;exact⟨rfl,HLR.out wx w2 h hb⟩)) (fun wz hS106=>?_)
          simp only[jA,jB,jC]
          refine tV 9 24 (.bool false) 18 rfl hS106 ?_ (fun wx h=>by go_simp)
          refine tK 10 25 (.bool false) 17 rfl hS106 ?_
          refine tK 11 26 (.pointer (some ⟨ob,0,none⟩)) 16 rfl hS106 ?_
          refine tG 12 27 (.pointer (some ⟨ob,0,none⟩)) 15 rfl hS106 ?_
          refine tG 13 28 (.pointer (some ⟨ob,3,none⟩)) 14 rfl hS106 ?_
          refine tV 14 29 (.pointer (some ⟨P.bd,0,none⟩)) 13 rfl hS106 ?_ (fun wx h=>by have y0:=h.1.ou.c3;go_simp)
          refine tG 15 30 (.pointer (some ⟨rb,5,none⟩)) 12 rfl hS106 ?_
          refine tV 16 31 (.int .i64 (inn:Nat)) 11 rfl hS106 ?_ (fun wx h=>by have y0:=HC5.out wx h.1;go_simp)
          refine tG 17 32 (.pointer (some ⟨rb,6,none⟩)) 10 rfl hS106 ?_
          refine tV 18 33 (.int .i64 (alt:Nat)) 9 rfl hS106 ?_ (fun wx h=>by have y0:=HC6.out wx h.1;go_simp)
          refine oneC (i:=19) (d:=34) (f:=84) (args:= #[.pointer (some ⟨P.bd,0,none⟩),.int .i64 (inn:Nat),.int .i64 (alt:Nat)]) (v:= .bool false) (fuel:=8) rfl rfl (by kernel_rfl) (by kernel_rfl) (fun _=>by kernel_rfl) hS106 (fun wx h=>Calls.mono (HFA.out wx h.1.ou) (by rintro e w2 ⟨rfl,hb⟩;exact⟨rfl,HLR.out wx w2 h hb⟩)) (fun wz hS119=>?_)
          simp only[jA,jB,jC]
          refine tK 20 35 (.bool false) 7 rfl hS119 ?_
          refine tK 21 36 (.bool false) 6 rfl hS119 ?_
          refine tK 22 37 (.pointer (some ⟨ob,0,none⟩)) 5 rfl hS119 ?_
          refine tG 23 38 (.pointer (some ⟨rb,5,none⟩)) 4 rfl hS119 ?_
          refine tV 24 39 (.int .i64 (inn:Nat)) 3 rfl hS119 ?_ (fun wx h=>by have y0:=HC5.out wx h.1;go_simp)
          refine oneC (i:=25) (d:=40) (f:=120) (args:= #[.pointer (some ⟨ob,0,none⟩),.int .i64 (inn:Nat)]) (v:= .bool false) (fuel:=2) rfl rfl (by kernel_rfl) (by kernel_rfl) (fun _=>by kernel_rfl) hS119 (fun wx h=>Calls.mono (HRN.out wx h.1.ou) (by rintro e w2 ⟨rfl,hb⟩;exact⟨rfl,HLR.out wx w2 h hb⟩)) (fun wz hS125=>?_)
          simp only[jA,jB,jC]
          refine tK 26 41 (.bool true) 1 rfl hS125 ?_
          refine tK 27 42 (.bool true) 0 rfl hS125 ?_
          refine wpAnyH_done (by kernel_rfl) ?_ _
          exact⟨rfl,by kernel_rfl,hS125⟩
        · intro w9 hF
          simp only[setAll,jA,jB,jC]
          have HF9:Hid _:=hF
          clear hF
          go_wp2_with fail
          go_ret
          exact⟨rfl,HF9.out.2⟩
      | true=>
        have HQ2:Hid (Q=true↔∀a∈afOf its i,psB its l a=true):=⟨fun h=>(HQ1.out.1 h).2.2.2,fun h=>HQ1.out.2 ⟨rfl,rfl,rfl,h⟩⟩
        clear HQ1
        refine region_thenF [(15,.pointer (some ⟨ob,0,none⟩)),(16,.pointer (some ⟨ob,0,none⟩)),(17,.pointer (some ⟨ob,3,none⟩)),(18,.pointer (some ⟨P.bd,0,none⟩)),(19,.pointer (some ⟨rb,5,none⟩)),(20,.int .i64 (inn:Nat)),(21,.int .i64 (alt:Nat)),(22,.pointer (some ⟨rb,6,none⟩)),(23,.int .i64 (alt:Nat)),(24,.bool false),(25,.bool false),(26,.pointer (some ⟨ob,0,none⟩)),(27,.pointer (some ⟨ob,0,none⟩)),(28,.pointer (some ⟨ob,3,none⟩)),(29,.pointer (some ⟨P.bd,0,none⟩)),(30,.pointer (some ⟨rb,5,none⟩)),(31,.int .i64 (inn:Nat)),(32,.pointer (some ⟨rb,6,none⟩)),(33,.int .i64 (alt:Nat)),(34,.bool false),(35,.bool false),(36,.bool false),(37,.pointer (some ⟨ob,0,none⟩)),(38,.pointer (some ⟨rb,5,none⟩)),(39,.int .i64 (inn:Nat)),(40,.bool true),(41,.bool false),(42,.bool false)] (fun w'=>RcS its l P ob rb row w'∧Below w.heap.size w w') ?_ ?_
        · refine wp_region_held (S:=fun w'=>RcS its l P ob rb row w'∧Below w.heap.size w w') (by kernel_rfl) ?_
          simp only[jN,jM,jP,Nat.reduceAdd,jI,jJ,jO,jL,jK]
          refine tK 0 15 (.pointer (some ⟨ob,0,none⟩)) 27 rfl hS0 ?_
          refine tG 1 16 (.pointer (some ⟨ob,0,none⟩)) 26 rfl hS0 ?_
          refine tG 2 17 (.pointer (some ⟨ob,3,none⟩)) 25 rfl hS0 ?_
          refine tV 3 18 (.pointer (some ⟨P.bd,0,none⟩)) 24 rfl hS0 ?_ (fun wx h=>by have y0:=h.1.ou.c3;go_simp)
          refine tG 4 19 (.pointer (some ⟨rb,5,none⟩)) 23 rfl hS0 ?_
          refine tV 5 20 (.int .i64 (inn:Nat)) 22 rfl hS0 ?_ (fun wx h=>by have y0:=HC5.out wx h.1;go_simp)
          refine tG 7 22 (.pointer (some ⟨rb,6,none⟩)) 21 rfl hS0 ?_
          refine tV 8 23 (.int .i64 (alt:Nat)) 20 rfl hS0 ?_ (fun wx h=>by have y0:=HC6.out wx h.1;go_simp)
          refine oneC (i:=6) (d:=21) (f:=119) (args:= #[.pointer (some ⟨P.bd,0,none⟩),.int .i64 (inn:Nat)]) (v:= .int .i64 (alt:Nat)) (fuel:=19) rfl rfl (by kernel_rfl) (by kernel_rfl) (fun _=>by kernel_rfl) hS0 (fun wx h=>Calls.mono (HAT.out wx h.1.ou) (by rintro e w2 ⟨rfl,hb⟩;exact⟨rfl,HLR.out wx w2 h hb⟩)) (fun wz hS106=>?_)
          simp only[jA,jB,jC]
          refine tV 9 24 (.bool false) 18 rfl hS106 ?_ (fun wx h=>by go_simp)
          refine tK 10 25 (.bool false) 17 rfl hS106 ?_
          refine tK 11 26 (.pointer (some ⟨ob,0,none⟩)) 16 rfl hS106 ?_
          refine tG 12 27 (.pointer (some ⟨ob,0,none⟩)) 15 rfl hS106 ?_
          refine tG 13 28 (.pointer (some ⟨ob,3,none⟩)) 14 rfl hS106 ?_
          refine tV 14 29 (.pointer (some ⟨P.bd,0,none⟩)) 13 rfl hS106 ?_ (fun wx h=>by have y0:=h.1.ou.c3;go_simp)
          refine tG 15 30 (.pointer (some ⟨rb,5,none⟩)) 12 rfl hS106 ?_
          refine tV 16 31 (.int .i64 (inn:Nat)) 11 rfl hS106 ?_ (fun wx h=>by have y0:=HC5.out wx h.1;go_simp)
          refine tG 17 32 (.pointer (some ⟨rb,6,none⟩)) 10 rfl hS106 ?_
          refine tV 18 33 (.int .i64 (alt:Nat)) 9 rfl hS106 ?_ (fun wx h=>by have y0:=HC6.out wx h.1;go_simp)
          refine oneC (i:=19) (d:=34) (f:=84) (args:= #[.pointer (some ⟨P.bd,0,none⟩),.int .i64 (inn:Nat),.int .i64 (alt:Nat)]) (v:= .bool false) (fuel:=8) rfl rfl (by kernel_rfl) (by kernel_rfl) (fun _=>by kernel_rfl) hS106 (fun wx h=>Calls.mono (HFA.out wx h.1.ou) (by rintro e w2 ⟨rfl,hb⟩;exact⟨rfl,HLR.out wx w2 h hb⟩)) (fun wz hS119=>?_)
          simp only[jA,jB,jC]
          refine tK 20 35 (.bool false) 7 rfl hS119 ?_
          refine tK 21 36 (.bool false) 6 rfl hS119 ?_
          refine tK 22 37 (.pointer (some ⟨ob,0,none⟩)) 5 rfl hS119 ?_
          refine tG 23 38 (.pointer (some ⟨rb,5,none⟩)) 4 rfl hS119 ?_
          refine tV 24 39 (.int .i64 (inn:Nat)) 3 rfl hS119 ?_ (fun wx h=>by have y0:=HC5.out wx h.1;go_simp)
          refine oneC (i:=25) (d:=40) (f:=120) (args:= #[.pointer (some ⟨ob,0,none⟩),.int .i64 (inn:Nat)]) (v:= .bool true) (fuel:=2) rfl rfl (by kernel_rfl) (by kernel_rfl) (fun _=>by kernel_rfl) hS119 (fun wx h=>Calls.mono (HRN.out wx h.1.ou) (by rintro e w2 ⟨rfl,hb⟩;exact⟨rfl,HLR.out wx w2 h hb⟩)) (fun wz hS125=>?_)
          simp only[jA,jB,jC]
          refine tK 26 41 (.bool false) 1 rfl hS125 ?_
          refine tK 27 42 (.bool false) 0 rfl hS125 ?_
          refine wpAnyH_done (by kernel_rfl) ?_ _
          exact⟨rfl,by kernel_rfl,hS125⟩
        · intro w9 hF
          simp only[setAll,jA,jB,jC]
          have HF9:Hid _:=hF
          clear hF
          have y7:=HC7.out w9 HF9.out.1
          go_wp2_with fail
          have HAM:Hid (am=x.after.length):=by obtain⟨a,c,e,_⟩:=HRZ.out;cases e;rfl
          have hamb:am≤1000000:=by rw[HAM.out];exact HAFL.out
          clear y7
          go_loopw [46] (fun iv wr=>∃(k:Nat),k≤am∧iv= .int .i64 k∧Hid (RcS its l P ob rb row wr∧Below w.heap.size w wr)∧Hid (∀j (z:Int),j < k→x.after[j]? =some z→psB its l z.toNat=true)) (fun iv _=>am - (intOf iv).toNat)
          case atStart=>exact⟨0,zE _,by go_num,HF9.out,fun j z hj _=>by omega⟩
          case round=>
            obtain⟨k,hk,rfl,HM,HPS⟩:=hrel
            rename World=>wr
            by_cases hlt:k < am
            rotate_left
            · obtain rfl:k=am:=by omega
              obtain rfl:Q=true:=HQ2.out.2 fun a ha=>by
                obtain⟨j,hj⟩:=List.getElem?_of_mem (HAI.out a ha)
                have hjl:=(jH.1 hj).1
                have:=HPS.out j _ (by have:=HAM.out;omega) hj
                rw[j8] at this
                exact this
              go_wp2_with fail
              go_ret
              exact⟨rfl,by rw[←hrb];exact HM.out.2⟩
            · obtain⟨z,hz⟩:∃z,x.after[k]? =some z:=⟨_,jF (by have:=HAM.out;omega)⟩
              obtain⟨a,rfl,a1,a2,a3⟩:=HAF.out z (jS hz)
              have hcell:∃b off,av=some ⟨b,off,none⟩∧wr.cell? ⟨b,off+k,none⟩=some (.int .i64 (a:Nat)):=by
                obtain⟨a9,c9,e9,_,hr⟩:=HRZ.out
                cases e9
                obtain⟨b,off,e8,e7⟩:=hr k _ hz
                exact⟨b,off,e8,Dg.cell_later HM.out.2 e7⟩
              obtain⟨b8,o8,rfl,z0⟩:=hcell
              have HLG:Hid _:=letsGo_any (i:=a) HM.out.1.ou (by rw[HN.out];exact a3)
              have HPZ:Hid (∀q,psB its l a=q→∀j (z:Int),j < k+1→x.after[j]? =some z→q=true→psB its l z.toNat=true):=fun q hq j z9 hj hz9 hqt=>by
                by_cases hjk:j=k
                · subst hjk
                  rw[hz] at hz9
                  cases hz9
                  rw[j8,hq,hqt]
                · exact HPS.out j z9 (by omega) hz9
              have HQN:Hid (psB its l a=false→Q=false):=fun h9=>by
                cases hQ:Q with
                | false=>rfl
                | true=>have:=HQ2.out.1 hQ a a1;rw[h9] at this;cases this
              have hki:(k:Int) < (am:Int):=by omega
              clear hz a1 a2 a3
              generalize psB its l a=q at *
              go_wp2_with fail
              refine Calls.mono HLG.out ?_
              rintro e w4 ⟨rfl,rfl⟩
              clear z0
              cases q with
              | true=>
                go_wp2_with fail
                go_roundw
                case rel=>exact⟨k+1,by omega,by go_num,HM,fun j z hj hz=>HPZ.out _ rfl j z hj hz rfl⟩
                case measure=>simp[intOf] <;> omega
              | false=>
                obtain rfl:Q=false:=HQN.out rfl
                go_wp2_with fail
                go_ret
                exact⟨rfl,HM.out.2⟩
theorem runs_step {s:Nat}(hs:s < its.length)(hsub:(plOf its).sub s=true)(hR:1≤s→∀w,Ou its l P ob w→Calls Tryz.prog 83 #[.pointer (some ⟨ob,0,none⟩),.int .i64 (s:Int)] w fun e w'=>e= .returned (.bool (rcB its l s))∧Below w.heap.size w w')(h:Ou its l P ob w) :
    Calls Tryz.prog 120 #[.pointer (some ⟨ob,0,none⟩),.int .i64 (s:Int)] w fun e w'=>e= .returned (.bool (rnB its l s))∧Below w.heap.size w w':=by
  have c4:=h.c4
  have s0:=h.stat hs
  have hc:=h.chk
  have hn:=h.few
  have HQ:Hid (rnB its l s=true↔¬(St.S (plOf its) (fOf l) s=2∨St.S (plOf its) (fOf l) s=3)∧(s=0∨(1≤s∧rcB its l s=true))):=by
    show _↔_
    rw[rnB_iff,rcB_iff,←dn_S hc hs,←sp_S hc hs hsub]
    by_cases h0:s=0
    · subst h0
      rw[rn_zero]
      exact⟨fun h=>⟨fun h9=>h9.elim h.1 h.2,.inl rfl⟩,fun h=>⟨fun h9=>h.1 (.inl h9),fun h9=>h.1 (.inr h9)⟩⟩
    · rw[rn_eq (by omega) hs hsub]
      exact⟨fun h=>⟨fun h9=>h9.elim h.1.1 h.1.2,.inr ⟨by omega,h.2⟩⟩,fun h=>⟨⟨fun h9=>h.1 (.inl h9),fun h9=>h.1 (.inr h9)⟩,(h.2.resolve_left h0).2⟩⟩
  obtain⟨Q,HQQ⟩:∃Q,Hid (Q=rnB its l s):=⟨_,rfl⟩
  rw[←HQQ.out] at HQ ⊢
  have hii:(s:Int) < (its.length:Int):=by omega
  have HRC:Hid _:=fun h1=>hR h1 w h
  generalize rcB its l s=rc at *
  generalize St.S (plOf its) (fOf l) s=z at *
  generalize its.length=n at *
  clear h hR HQQ hs hsub hc
  by_cases h2:z=2
  · subst h2
    obtain rfl:Q=false:=by
      cases hQ:Q with
      | false=>rfl
      | true=>exact absurd (.inl rfl) (HQ.out.1 hQ).1
    clear HQ
    go_enter Tryz.func120,Tryz.ntmps120
    go_wp2_with fail
    go_ret
    exact⟨rfl,Below.refl _ _⟩
  · have hd2:decide (z=2)=false:=decide_eq_false h2
    have hb2:(z==2)=false:=by simpa using h2
    by_cases h3:z=3
    · subst h3
      obtain rfl:Q=false:=by
        cases hQ:Q with
        | false=>rfl
        | true=>exact absurd (.inr rfl) (HQ.out.1 hQ).1
      clear HQ
      go_enter Tryz.func120,Tryz.ntmps120
      go_wp2_with fail
      go_ret
      exact⟨rfl,Below.refl _ _⟩
    · have hd3:decide (z=3)=false:=decide_eq_false h3
      have hb3:(z==3)=false:=by simpa using h3
      by_cases h0:s=0
      · subst h0
        obtain rfl:Q=true:=HQ.out.2 ⟨fun h=>h.elim h2 h3,.inl rfl⟩
        clear HQ HRC hd2 hd3 hb2 hb3
        have hd2:decide (z=2)=false:=decide_eq_false h2
        have hd3:decide (z=3)=false:=decide_eq_false h3
        have s1:w.cell? ⟨P.sb,P.so,none⟩=some (.int .i64 z):=s0
        change Calls Tryz.prog 120 #[.pointer (some ⟨ob,0,none⟩),.int .i64 0] w _
        have hi0:(0:Int) < (n:Int):=hii
        clear hii
        go_enter Tryz.func120,Tryz.ntmps120
        go_wp2_with fail
        go_ret
        have hb2:(z==2)=false:=by simpa using h2
        have hb3:(z==3)=false:=by simpa using h3
        refine⟨?_,Below.refl _ _⟩
        show Ending.returned (.bool (!(z==2) && !(z==3)))=_
        rw[hb2,hb3]
        rfl
      · obtain rfl:Q=rc:=by
          refine Bool.eq_iff_iff.2 ?_
          rw[HQ.out]
          exact⟨fun h=>(h.2.resolve_left h0).2,fun h=>⟨fun h=>h.elim h2 h3,.inr ⟨by omega,h⟩⟩⟩
        have H2:Hid _:=HRC.out (by omega)
        have hs0:decide ((s:Int)=0)=false:=decide_eq_false (by omega)
        have hs1:((s:Int)==0)=false:=by simpa using h0
        have hs2:¬(s:Int)=0:=by omega
        clear HQ HRC
        go_enter Tryz.func120,Tryz.ntmps120
        go_wp2_with fail
        refine Calls.mono H2.out ?_
        rintro e w2 ⟨rfl,hb2⟩
        have HB:Hid _:=hb2
        clear hb2 H2
        cases Q <;>
        (go_wp2_with fail
         go_ret
         exact⟨rfl,HB.out⟩)
theorem reach_runs:∀n i:Nat,i < n→i < its.length→(1≤i→∀w,Ou its l P ob w→Calls Tryz.prog 83 #[.pointer (some ⟨ob,0,none⟩),.int .i64 (i:Int)] w fun e w'=>e= .returned (.bool (rcB its l i))∧Below w.heap.size w w')∧
    ((plOf its).sub i=true→∀w,Ou its l P ob w→Calls Tryz.prog 120 #[.pointer (some ⟨ob,0,none⟩),.int .i64 (i:Int)] w fun e w'=>e= .returned (.bool (rnB its l i))∧Below w.heap.size w w'):=by
  intro n
  induction n with
  | zero=>intro i h;omega
  | succ n ih=>
    intro i hi hl
    have h1:1≤i→∀w,Ou its l P ob w→Calls Tryz.prog 83 #[.pointer (some ⟨ob,0,none⟩),.int .i64 (i:Int)] w fun e w'=>e= .returned (.bool (rcB its l i))∧Below w.heap.size w w':=fun h1 w h=>by
      obtain⟨i1,i2,_⟩:=inn_facts h.chk h1 hl
      exact reach_step h1 hl ((ih _ (by omega) (by omega)).2 i2) h
    exact⟨h1,fun hs w h=>runs_step hl hs h1 h⟩
theorem reach_any {i:Nat}(h1:1≤i)(hi:i < its.length)(h:Ou its l P ob w):Calls Tryz.prog 83 #[.pointer (some ⟨ob,0,none⟩),.int .i64 (i:Int)] w fun e w'=>e= .returned (.bool (rcB its l i))∧Below w.heap.size w w':=(reach_runs (i+1) i (by omega) hi).1 h1 w h
end Go.Proofs.YtieoppabellafaaGreatDoor.Ts
namespace Go.Proofs.YtieoppabellafaaGreatDoor.Rl
open Go.RowKit
variable {P:Program}
structure Mv (T:Nat→Prop)(A:World)(T':Nat→Prop)(B:World):Prop where
 os:B.os=A.os
 tape:B.tape=A.tape
 output:B.output=A.output
 size:A.heap.size≤B.heap.size
 same:∀k,k < A.heap.size→¬T k→B.heap[k]? =A.heap[k]?
 old:∀k,k < A.heap.size→(T' k↔T k)
 up:(∀k,T k→k < A.heap.size)→∀k,T' k→k < B.heap.size
structure Rv (n0:Nat)(T:Nat→Prop)(A B:World):Prop where
 os:B.os=A.os
 tape:B.tape=A.tape
 output:B.output=A.output
 size:A.heap.size≤B.heap.size
 low:∀k,k < n0→B.heap[k]? =A.heap[k]?
 keep:∀k,T k→k < A.heap.size→B.heap[k]? =A.heap[k]?
theorem Mv.refl (T:Nat→Prop)(A:World):Mv T A T A:=⟨rfl,rfl,rfl,jG _,fun _ _ _=>rfl,fun _ _=>Iff.rfl,fun h=>h⟩
theorem Mv.putObj {T:Nat→Prop}(A:World){d:Nat}(o:Obj)(h:T d):Mv T A T (A.putObj d o):=
 ⟨rfl,rfl,rfl,by simp[World.putObj],fun k _ hn=>jQ (fun e=>hn (by rw[e];exact h)),fun _ _=>Iff.rfl,fun hu k hk=>by simpa [World.putObj] using hu k hk⟩
theorem Mv.of_below {T:Nat→Prop}{A B:World}(h:Below A.heap.size A B):Mv T A T B:=⟨h.os,h.tape,h.output,h.size,fun k hk _=>h.block k hk,fun _ _=>Iff.rfl,fun hu k hk=>jR (hu k hk) h.size⟩
theorem Mv.of_below_own {T:Nat→Prop}{A B:World}(h:Below A.heap.size A B):Mv T A (fun k=>T k∨(A.heap.size≤k∧k < B.heap.size)) B:=⟨h.os,h.tape,h.output,h.size,fun k hk _=>h.block k hk,fun k hk=>⟨fun h=>h.resolve_right (by omega),.inl⟩,fun hu k hk=>by
 have hs:=h.size
 rcases hk with hk | hk
 ·have:=hu k hk;omega
 ·exact hk.2⟩
theorem Mv.or {T T':Nat→Prop}{A B:World}(h:Mv T A T' B)(L:Nat→Prop):Mv (fun b=>T b∨L b) A (fun b=>T' b∨L b) B:=
 ⟨h.os,h.tape,h.output,h.size,fun k hk hn=>h.same k hk (fun ht=>hn (.inl ht)),fun k hk=>by rw[h.old k hk],fun hu k hk=>by
  rcases hk with hk | hk
  ·exact h.up (fun j hj=>hu j (.inl hj)) k hk
  ·exact jR (hu k (.inr hk)) h.size⟩
theorem Mv.wide {T T' U:Nat→Prop}{A B:World}(h:Mv T A T' B)(hs:∀b,T b→U b)(hl:∀b,T b→b < A.heap.size):Mv U A (fun b=>U b∨T' b) B:=
 ⟨h.os,h.tape,h.output,h.size,fun k hk hn=>h.same k hk (fun ht=>hn (hs k ht)),fun k hk=>⟨fun hx=>hx.elim id (fun hx=>hs k ((h.old k hk).1 hx)),.inl⟩,fun hu k hk=>by
  rcases hk with hk | hk
  ·exact jR (hu k hk) h.size
  ·exact h.up hl k hk⟩
theorem Mv.below {T T':Nat→Prop}{A B:World}(h:Mv T A T' B){N:Nat}{w:World}(hb:Below N w A)(hN:∀b,b < N→¬T b)(hs:N≤A.heap.size):Below N w B:=
 ⟨h.os.trans hb.os,h.tape.trans hb.tape,h.output.trans hb.output,zH hb.size h.size,fun k hk=>(h.same k (by omega) (hN k hk)).trans (hb.block k hk)⟩
theorem Rv.refl (n0:Nat)(T:Nat→Prop)(A:World):Rv n0 T A A:=⟨rfl,rfl,rfl,jG _,fun _ _=>rfl,fun _ _ _=>rfl⟩
theorem Rv.trans {n0:Nat}{T:Nat→Prop}{A B C:World}(h:Rv n0 T A B)(k:Rv n0 T B C):Rv n0 T A C:=
 ⟨k.os.trans h.os,k.tape.trans h.tape,k.output.trans h.output,zH h.size k.size,fun i hi=>(k.low i hi).trans (h.low i hi),fun i ht hi=>(k.keep i ht (jR hi h.size)).trans (h.keep i ht hi)⟩
theorem Rv.mono {n0:Nat}{T T':Nat→Prop}{A B:World}(h:Rv n0 T A B)(ht:∀b,T' b→T b):Rv n0 T' A B:=⟨h.os,h.tape,h.output,h.size,h.low,fun k hk hl=>h.keep k (ht k hk) hl⟩
theorem Rv.of_below {n0:Nat}{T:Nat→Prop}{A B:World}(h:Below A.heap.size A B)(hn:n0≤A.heap.size):Rv n0 T A B:=⟨h.os,h.tape,h.output,h.size,fun k hk=>h.block k (by omega),fun k _ hk=>h.block k hk⟩
theorem Rv.setCell {n0:Nat}{T:Nat→Prop}(A:World){b i:Nat}(v:Value)(hn:n0≤b)(ht:¬T b):Rv n0 T A (A.setCell ⟨b,i,none⟩ v):=
 ⟨rfl,rfl,rfl,by simp,fun k hk=>jW A ⟨b,i,none⟩ v k (by show k≠b;omega),fun k hk _=>jW A ⟨b,i,none⟩ v k (fun e=>ht (by rw[←show k=b from e];exact hk))⟩
theorem Rv.grown {n0:Nat}{T:Nat→Prop}{A B:World}{row:Option Nat}(h:A.grownBy B row)(hn:∀r,row=some r→n0≤r∧¬T r)(hs:n0≤A.heap.size):Rv n0 T A B:=
 ⟨h.os,h.tape,h.output,h.size,fun k hk=>h.block k (by omega) (fun e=>by have:=(hn k e.symm).1;omega),fun k hk hl=>h.block k hl (fun e=>(hn k e.symm).2 hk)⟩
structure Bz (A B:World):Prop where
 os:B.os=A.os
 tape:B.tape=A.tape
 output:B.output=A.output
 size:B.heap.size=A.heap.size
 cells:∀(b:Nat) (o:Obj),A.heap[b]? =some o→o.isCells=true→B.heap[b]? =some o
theorem Bz.cell {A B:World}(h:Bz A B){a:Addr}{v:Value}(hc:A.cell? a=some v):B.cell? a=some v:=by
 obtain⟨o,ho,hcl⟩:=cells_of_cell hc
 rw[zI (w:=A) ((h.cells _ _ ho hcl).trans ho.symm)]
 exact hc
theorem Bz.put {W:World}{l:Nat}{r:Loop}(h:W.heap[l]? =some (.loop r))(r':Loop):Bz W (W.putObj l (.loop r')):=
 ⟨rfl,rfl,rfl,by simp[World.putObj],fun b o ho hc=>by
  by_cases e:b=l
  ·subst e;rw[h] at ho
   cases ho;cases hc
  ·exact (jQ e).trans ho⟩
def Itr {α:Type}(P:Program)(gf:Nat)(lb:Array Value)(enc:α→Nat→World→(Nat→Prop)→Array Value→Prop)(xs:List α)(n0 m0:Nat)(T:Nat→Prop)(w:World):Prop:=
 ∀(l:Nat) (J Jx:Nat→World→(Nat→Prop)→Prop) (W:World),Below w.heap.size w W→
  (∀k A TA B TB,J k A TA→Mv TA A TB B→J k B TB)→
  (∀k A TA B TB,Jx k A TA→Mv TA A TB B→Jx k B TB)→
  (∀k x args F W1 T1,xs[k]? =some x→enc x F W1 T1 args→(∃W0 T0,J k W0 T0∧W0.heap.size=F∧Mv T0 W0 T1 W1)→J k W1 T1→(∀b,T1 b→b < W1.heap.size)→∀m,YieldAt Fence.wide m P l args W1 fun e W2=>∃t:Bool,e= .returned (.bool t)∧(t=true→J (k+1) W2 T1∧Rv n0 T1 W1 W2)∧(t=false→Jx (k+1) W2 T1∧Rv m0 T1 W1 W2))→
  J 0 W T→
  CallsIn Fence.wide 0 P gf (#[.func (.yield l) #[] #[]] ++lb) W fun e W2=>∃v T2,e= .returned v∧(J xs.length W2 T2∨∃k,k < xs.length∧Jx (k+1) W2 T2)∧(∀b,b < W.heap.size→(T2 b↔T b))∧(∀b,T2 b→b < W2.heap.size)
def bodyR (n0 m0:Nat)(I:Nat→World→(Nat→Prop)→Prop)(Ix:Code→Nat→World→(Nat→Prop)→Prop)(k:Nat)(TB:Nat→Prop)(W:World):Exit→Act→World→Prop
 | .normal,_,W'=>I k W' TB∧Rv n0 TB W W'
 | .ret,_,W'=>Ix .ret k W' TB∧Rv m0 TB W W'
 | .exit id,_,W'=>Ix (.exit id) k W' TB∧Rv m0 TB W W'
 | _,_,_=>False
theorem range_law {α:Type}{g:Operand}{ps:Array Tmp}{assign body:Code}{Q:Exit→Act→World→Prop}{a:Act}{w:World}{gf:Nat}{lb:Array Value}
  (hg:a.eval g= .func (.func gf) #[] lb) (eg:∀args w,(callFunc gf args).run P w= .ok (.enter gf args) w)
  {enc:α→Nat→World→(Nat→Prop)→Array Value→Prop} {xs:List α} {n0 m0:Nat} {T:Nat→Prop} (hseq:Itr P gf lb enc xs n0 m0 T w) (hT:∀b,T b→b < w.heap.size) (hn0:n0≤w.heap.size) (hm0:m0≤n0) (hps:∀x F W T args,enc x F W T args→args.size=ps.size)
  (I:Nat→World→(Nat→Prop)→Prop) (Ix:Code→Nat→World→(Nat→Prop)→Prop)
  (hI:∀k A TA B TB,I k A TA→Mv TA A TB B→I k B TB) (hIx:∀c k A TA B TB,Ix c k A TA→Mv TA A TB B→Ix c k B TB) (h0:I 0 w T)
  (hround:∀(m l k:Nat) (x:α) (args:Array Value) (F:Nat) (W:World) (T1 TB:Nat→Prop),xs[k]? =some x→enc x F W T1 args→(∃W0 T0,I k W0 T0∧W0.heap.size=F∧Mv T0 W0 TB W)→I k W TB→TB=(fun b=>T1 b∨(b=w.heap.size∨b=w.heap.size+1))→(∀b,TB b→b < W.heap.size)→(∀b,(b=w.heap.size∨b=w.heap.size+1)→∃o:Obj,W.heap[b]? =some o∧o.isCells=false)→w.heap.size+1 < W.heap.size→
   assign.wpIn (Fence.wide.inRound l) m P (Exit.then (fun a₁ W1=>I k W1 TB∧Rv n0 TB W W1∧∀W2,I k W2 TB→Bz W1 W2→body.wpIn (Fence.wide.inRound l) m P (bodyR n0 m0 I Ix (k+1) TB W2) a₁ W2) (fun _ _ _=>False))
    {tmps:=(ps.zip args).foldl (fun t (p,v)=>t.setIfInBounds p v) a.tmps,defers:=[]} W)
  (hdone:∀W T2,I xs.length W T2→(∀b,b < w.heap.size→(T2 b↔T b))→(∀b,T2 b→b < W.heap.size)→W.heap[w.heap.size]? =some (.deferred (some []))→T2 w.heap.size→Q .normal {a with defers:= {target:= .collected w.heap.size,args:= #[]} :: a.defers} W)
  (hstop:∀c k W T2,k < xs.length→Ix c (k+1) W T2→(∀b,b < w.heap.size→(T2 b↔T b))→(∀b,T2 b→b < W.heap.size)→W.heap[w.heap.size]? =some (.deferred (some []))→T2 w.heap.size→c.wpIn Fence.wide 0 P Q {a with defers:= {target:= .collected w.heap.size,args:= #[]} :: a.defers} W) :
  (Code.rangeFunc g ps assign body).wpIn Fence.wide 0 P Q a w:=by
 refine wpIn_rangeFunc ?_;intro fn hfn;obtain⟨s,hs⟩:∃s,w.heap.size=s:=⟨_,rfl⟩
 obtain⟨rec,hrec⟩:∃rec:LoopState→Option Code→Loop,rec=fun st pe=> {state:=st,pending:=pe,fn,tmps:=a.tmps,params:=ps,assign,body,defers:=w.heap.size} :=⟨_,rfl⟩
 obtain⟨W1,hW1⟩:∃W1,(w.alloc (.deferred (some []))).alloc (.loop (rec .ready none))=W1:=⟨_,rfl⟩
 have hsz:W1.heap.size=s+2:=by rw[←hW1,←hs];simp
 have hL1:W1.heap[s+1]? =some (.loop (rec .ready none)):=by
  rw[←hW1,←hs];have:=World.alloc_heap_new (w.alloc (.deferred (some []))) (.loop (rec .ready none));rwa [jV] at this
 have hK1:W1.heap[s]? =some (.deferred (some [])):=by
  rw[←hW1,←hs];exact (zK _ _ _ (by simp)).trans (World.alloc_heap_new w _)
 have hb1:Below w.heap.size w W1:=by
  rw[←hW1];exact ((Below.refl _ w).alloc (jG _) _).alloc (by simp) _
 refine⟨w.heap.size+1,[{target:= .collected w.heap.size,args:= #[]}],W1,{target:= .fn (.func gf) lb,args:= #[.func (.yield (w.heap.size+1)) #[] #[]]},W1,gf,
  #[.func (.yield (w.heap.size+1)) #[] #[]] ++lb,W1,?_,?_,?_,?_,fun h=>(by cases h),?_⟩
 ·rw[←hW1,hrec];exact run_enterLoop_outer _ _ _ _ _
 ·simp only[resolve,hg];simp[go_sem]
 ·intro f' hf';trivial
 ·simp[invoke,go_sem,eg]
 rw[hs]
 rw[hs] at hround hdone hstop hn0
 have hTs:¬T s:=fun h=>by have:=hT _ h;omega
 have hTs1:¬T (s+1):=fun h=>by have:=hT _ h;omega
 have hm1:Mv T w (fun b=>T b∨(b=s∨b=s+1)) W1:=by
  refine⟨hb1.os,hb1.tape,hb1.output,hb1.size,fun k hk _=>hb1.block k hk,fun k hk=>⟨fun h=>h.resolve_right (by omega),.inl⟩,fun hu k hk=>?_⟩
  rcases hk with hk | hk
  ·have:=hu k hk;omega
  ·omega
 refine (hseq (s+1)
  (fun k A TA=>I k A (fun b=>TA b∨(b=s∨b=s+1))∧¬TA s∧¬TA (s+1)∧A.heap[s+1]? =some (.loop (rec .ready none))∧A.heap[s]? =some (.deferred (some [])))
  (fun k A TA=>∃c,Ix c k A (fun b=>TA b∨(b=s∨b=s+1))∧¬TA s∧¬TA (s+1)∧A.heap[s+1]? =some (.loop (rec .done (some c)))∧A.heap[s]? =some (.deferred (some [])))
  W1 hb1 ?_ ?_ ?_ ⟨hI _ _ _ _ _ h0 hm1,hTs,hTs1,hL1,hK1⟩).mono ?_
 ·rintro k A TA B TB ⟨h1,h2,h3,h4,h5⟩ hm;have l4:=(jD.1 h4).1;have l5:=(jD.1 h5).1;exact⟨hI _ _ _ _ _ h1 (hm.or _),fun h=>h2 ((hm.old s l5).1 h),fun h=>h3 ((hm.old _ l4).1 h),(hm.same _ l4 h3).trans h4,(hm.same _ l5 h2).trans h5⟩
 ·rintro k A TA B TB ⟨c,h1,h2,h3,h4,h5⟩ hm;have l4:=(jD.1 h4).1;have l5:=(jD.1 h5).1;exact⟨c,hIx _ _ _ _ _ _ h1 (hm.or _),fun h=>h2 ((hm.old s l5).1 h),fun h=>h3 ((hm.old _ l4).1 h),(hm.same _ l4 h3).trans h4,(hm.same _ l5 h2).trans h5⟩
 ·rintro k x args F W T1 hx hen ⟨W0,T0,⟨hi0,_⟩,hF,hmF⟩ ⟨hi,hns,hns1,hl,hk⟩ hup m;have hlt:s+1 < W.heap.size:=(jD.1 hl).1;have hy:=run_yield (P:=P) (args:=args) hl (by rw[hrec];exact hps x F W T1 args hen);rw[hrec] at hy
  have hupB:∀b,(T1 b∨(b=s∨b=s+1))→b < W.heap.size:=fun b hb=>by
   rcases hb with hb | hb
   ·exact hup b hb
   ·omega
  refine⟨fn,_,assign,body,hy,roundIn_of_wpIn (n:=m) hfn (wpIn_mono (hround m (s+1) k x args F W T1 _ hx hen ⟨W0,_,hi0,hF,hmF.or _⟩ hi rfl hupB (fun b hb=>?_) hlt) ?_)⟩
  ·rcases hb with rfl | rfl
   ·exact⟨_,hk,rfl⟩
   ·exact⟨_,hl,rfl⟩
  rintro e a1 Wa hp;cases e with
  | normal=>
   obtain⟨hia,hra,hbd⟩:=hp
   have hla:Wa.heap[s+1]? =some (.loop (rec .ready none)):=(hra.keep _ (.inr (.inr rfl)) hlt).trans hl;have hda:Wa.heap[s]? =some (.deferred (some [])):=(hra.keep _ (.inr (.inl rfl)) (by omega)).trans hk;have hlta:s+1 < Wa.heap.size:=(jD.1 hla).1;refine⟨_,run_beginRound hla (by rw[hrec]),?_⟩
   have hbusy:(Wa.putObj (s+1) (.loop {rec .ready none with state:= .busy})).heap[s+1]? =some (.loop {rec .ready none with state:= .busy}):=World.putObj_heap_same hlta;have hd2:(Wa.putObj (s+1) (.loop {rec .ready none with state:= .busy})).heap[s]? =some (.deferred (some [])):=(jQ (by omega)).trans hda;have hmb:Mv (fun b=>T1 b∨(b=s∨b=s+1)) Wa (fun b=>T1 b∨(b=s∨b=s+1)) (Wa.putObj (s+1) (.loop {rec .ready none with state:= .busy})):=Mv.putObj _ _ (.inr (.inr rfl));refine wpIn_mono (hbd _ (hI _ _ _ _ _ hia hmb) (Bz.put hla _)) ?_;have fin:∀(q:Nat) (hq:q≤n0) (jump:Option Code) (W3:World),Rv q (fun b=>T1 b∨(b=s∨b=s+1)) (Wa.putObj (s+1) (.loop {rec .ready none with state:= .busy})) W3→
     (Instr.endRound (s+1) jump).run P W3= .ok (.bool jump.isNone) (W3.putObj (s+1) (.loop (rec (if jump.isNone then .ready else .done) jump)))∧
     (W3.putObj (s+1) (.loop (rec (if jump.isNone then .ready else .done) jump))).heap[s+1]? =some (.loop (rec (if jump.isNone then .ready else .done) jump))∧
     (W3.putObj (s+1) (.loop (rec (if jump.isNone then .ready else .done) jump))).heap[s]? =some (.deferred (some []))∧
     Rv q T1 W (W3.putObj (s+1) (.loop (rec (if jump.isNone then .ready else .done) jump))):=fun q hq jump W3 hr3=>by
    have hl3:=(hr3.keep (s+1) (.inr (.inr rfl)) (by simpa [World.putObj] using hlta)).trans hbusy;have hd3:=(hr3.keep s (.inr (.inl rfl)) (by simp[World.putObj];omega)).trans hd2;have:=run_endRound (P:=P) jump hl3;rw[hrec] at this ⊢
    refine⟨this,World.putObj_heap_same (jD.1 hl3).1,(jQ (by omega)).trans hd3,?_⟩
    have hsz3:W.heap.size≤W3.heap.size:=zH hra.size (by have:=hr3.size;simpa [World.putObj] using this);refine⟨hr3.os.trans hra.os,hr3.tape.trans hra.tape,hr3.output.trans hra.output,by simpa [World.putObj] using hsz3,fun j hj=>?_,fun j hj hjl=>?_⟩
    ·have hjs:j≠s+1:=by omega
     rw[jQ hjs,hr3.low j hj,jQ hjs]
     exact hra.low j (by omega)
    ·have hjs:j≠s+1:=fun e=>hns1 (e ▸ hj)
     have hja:j < Wa.heap.size:=jR hjl hra.size;rw[jQ hjs,hr3.keep j (.inl hj) (by simpa [World.putObj] using hja),jQ hjs]
     exact hra.keep j (.inl hj) hjl
   rintro e a3 W3 hp;cases e with
   | normal=>
    obtain⟨hi3,hr3⟩:=hp
    obtain⟨f1,f2,f3,f4⟩:=fin n0 (jG _) none W3 hr3
    exact⟨_,_,f1,true,rfl,fun _=>⟨⟨hI _ _ _ _ _ hi3 (Mv.putObj _ _ (.inr (.inr rfl))),hns,hns1,f2,f3⟩,f4⟩,(fun h=>by cases h)⟩
   | ret=>
    obtain⟨hi3,hr3⟩:=hp
    obtain⟨f1,f2,f3,f4⟩:=fin m0 hm0 (some .ret) W3 hr3
    exact⟨_,_,f1,false,rfl,(fun h=>by cases h),fun _=>⟨⟨_,hIx _ _ _ _ _ _ hi3 (Mv.putObj _ _ (.inr (.inr rfl))),hns,hns1,f2,f3⟩,f4⟩⟩
   | exit id=>
    obtain⟨hi3,hr3⟩:=hp
    obtain⟨f1,f2,f3,f4⟩:=fin m0 hm0 (some (.exit id)) W3 hr3
    exact⟨_,_,f1,false,rfl,(fun h=>by cases h),fun _=>⟨⟨_,hIx _ _ _ _ _ _ hi3 (Mv.putObj _ _ (.inr (.inr rfl))),hns,hns1,f2,f3⟩,f4⟩⟩
   | goto t=>exact hp.elim
   | panic ch=>exact hp.elim
   | outgrown=>exact hp.elim
  | ret=>exact hp.elim
  | exit id=>exact hp.elim
  | goto t=>exact hp.elim
  | panic ch=>exact hp.elim
  | outgrown=>exact hp.elim
 ·rintro e W2 ⟨v,T2,rfl,hor,hold,hup2⟩;have hold2:∀b,b < s→((T2 b∨(b=s∨b=s+1))↔T b):=fun b hb=>by
   have:=hold b (by omega);exact⟨fun h=>this.1 (h.resolve_right (by omega)),fun h=> .inl (this.2 h)⟩
  rcases hor with ⟨hi,hns,hns1,hl,hk⟩ | ⟨k,hk0,c,hi,hns,hns1,hl,hk⟩
  ·have hlt:=(jD.1 hl).1;refine⟨none,_,by have:=run_endLoop (P:=P) hl (by rw[hrec];simp);rw[hrec] at this;exact this,?_⟩
   refine hdone _ (fun b=>T2 b∨(b=s∨b=s+1)) (hI _ _ _ _ _ hi (Mv.putObj _ _ (.inr (.inr rfl)))) hold2 (fun b hb=>?_) ((jQ (by omega)).trans hk) (.inr (.inl rfl));simp only[World.putObj,Array.size_setIfInBounds]
   rcases hb with hb | hb
   ·exact hup2 b hb
   ·omega
  ·have hlt:=(jD.1 hl).1;refine⟨some c,_,by have:=run_endLoop (P:=P) hl (by rw[hrec];simp);rw[hrec] at this;exact this,?_⟩
   refine hstop c k _ (fun b=>T2 b∨(b=s∨b=s+1)) hk0 (hIx _ _ _ _ _ _ hi (Mv.putObj _ _ (.inr (.inr rfl)))) hold2 (fun b hb=>?_) ((jQ (by omega)).trans hk) (.inr (.inl rfl));simp only[World.putObj,Array.size_setIfInBounds]
   rcases hb with hb | hb
   ·exact hup2 b hb
   ·omega
theorem boxed_mv {A B:World}{T T':Nat→Prop}{b:Nat}{t:TypeId}{v:Value}(h:Boxed A b t v)(hm:Mv T A T' B)(hn:¬T b):Boxed B b t v:=(hm.same b h.lt hn).trans h
theorem Mv.no {A B:World}{T T':Nat→Prop}(hm:Mv T A T' B){b:Nat}(hl:b < A.heap.size)(hn:¬T b):¬T' b:=fun h=>hn ((hm.old b hl).1 h)
theorem Rv.below {n0:Nat}{T:Nat→Prop}{A B:World}(h:Rv n0 T A B):Below n0 A B:=⟨h.os,h.tape,h.output,h.size,h.low⟩
theorem Rv.low0 {n0:Nat}{T:Nat→Prop}{A B:World}(h:Rv n0 T A B):Rv 0 T A B:=⟨h.os,h.tape,h.output,h.size,(fun k hk=>by omega),h.keep⟩
def mark (D:Nat):Deferred:= {target:= .collected D,args:= #[]}
def Marks (T:Nat→Prop)(w:World)(Ds:List Nat):Prop:=Ds.Nodup∧∀D∈Ds,T D∧w.heap[D]? =some (.deferred (some []))
theorem Marks.nil (T:Nat→Prop)(w:World):Marks T w []:=⟨by simp,by simp⟩
theorem Marks.mono {T T':Nat→Prop}{w w':World}{Ds:List Nat}(h:Marks T w Ds)(hT:∀D,T D→w.heap[D]? =some (.deferred (some []))→T' D)(hk:∀D,T D→w.heap[D]? =some (.deferred (some []))→w'.heap[D]? =some (.deferred (some []))):Marks T' w' Ds:=
 ⟨h.1,fun D hD=>⟨hT D (h.2 D hD).1 (h.2 D hD).2,hk D (h.2 D hD).1 (h.2 D hD).2⟩⟩
theorem Marks.cons {T:Nat→Prop}{w:World}{Ds:List Nat}{D:Nat}(h:Marks T w Ds)(hT:T D)(hD:w.heap[D]? =some (.deferred (some [])))(hn:D∉Ds):Marks T w (D :: Ds):=
 ⟨List.nodup_cons.2 ⟨hn,h.1⟩,fun X hX=>by
  rcases zJ.1 hX with rfl | hX
  ·exact⟨hT,hD⟩
  ·exact h.2 X hX⟩
theorem leaves_marks {P:Program}{fn:Func}{tmps:Array Value}{R:Ending→World→Prop}{u:FrameMode}(hu:u≠.run){T:Nat→Prop}(K:World→Prop)(hK:∀A D,T D→K A→K (A.putObj D (.deferred none)))
  (hend:∀A,K A→LeavesIn Fence.wide 0 P fn tmps R [] u A):∀(Ds:List Nat) (w:World),Marks T w Ds→K w→LeavesInM Fence.wide 0 P fn tmps R (Ds.map mark) u w:=by
 intro Ds
 induction Ds with
 | nil=>intro w _ hk;exact hend w hk
 | cons D Ds ih=>
  intro w hm hk;obtain⟨hT,hD⟩:=hm.2 D (by simp)
  refine⟨hu,.inl ⟨D,_,rfl,run_takeDeferred hD,?_⟩⟩
  have hn:=List.nodup_cons.1 hm.1;refine ih _ ⟨hn.2,fun X hX=>?_⟩ (hK _ _ hT hk);obtain⟨h1,h2⟩:=hm.2 X (by simp[hX])
  exact⟨h1,(jQ (fun (e:X=D)=>hn.1 (e ▸ hX))).trans h2⟩
end Go.Proofs.YtieoppabellafaaGreatDoor.Rl
