/- Texts of the seat, packed: Ab. -/
import Derived.Test.YtieoppabellafaaGreatDoorP21
import Derived.Test.YtieoppabellafaaGreatDoorP30
import Derived.Test.YtieoppabellafaaGreatDoorP31
import Derived.WalkKit
set_option maxRecDepth 1000000
set_option maxHeartbeats 64000000
set_option linter.unusedVariables false
namespace Go.Proofs.YtieoppabellafaaGreatDoor.Ts
open Go.RowKit Go.Shelf Fc St Sx Sa
structure OuP where
 xb:Nat
 xo:Nat
 icap:Nat
 fb:Nat
 fo:Nat
 lcap:Nat
 vb:Nat
 bd:Nat
 sb:Nat
 so:Nat
 scap:Nat
 ov:List (List Nat)
 B:Bo
structure Ou (its:List It)(l:List Fa)(P:OuP)(ob:Nat)(w:World):Prop where
 chk:chkF its l=0
 row:w.heap[ob]? =some (.cells #[.slice (some ⟨P.xb,P.xo,none⟩) its.length P.icap,.slice (some ⟨P.fb,P.fo,none⟩) its.length P.lcap,.pointer (some ⟨P.vb,0,none⟩),.pointer (some ⟨P.bd,0,none⟩),.slice (some ⟨P.sb,P.so,none⟩) its.length P.scap] 123 (0,0))
 it:RdIt w (.slice (some ⟨P.xb,P.xo,none⟩) its.length P.icap) its
 fa:RF w (.slice (some ⟨P.fb,P.fo,none⟩) its.length P.lcap) l
 vw:VwAt w P.vb its P.ov
 ovI:∀i,overL P.ov i=overI its i
 ovS:∀x∈P.ov,x.length≤1000000
 bo:RB w (.pointer (some ⟨P.bd,0,none⟩)) (some P.B)
 boO:BoOf (plOf its) (fOf l) P.B
 st:RS w (.slice (some ⟨P.sb,P.so,none⟩) its.length P.scap) (allS its l)
section
variable {its:List It}{l:List Fa}{P:OuP}{ob:Nat}{w:World}
theorem Ou.later {w':World}(h:Ou its l P ob w)(hb:Below w.heap.size w w'):Ou its l P ob w':=
 ⟨h.chk,(hb.block _ (Array.getElem?_eq_some_iff.1 h.row).1).trans h.row,h.it.later hb,h.fa.later hb,h.vw.later hb,h.ovI,h.ovS,h.bo.later hb,h.boO,h.st.later hb⟩
theorem Ou.c0 (h:Ou its l P ob w):w.cell? ⟨ob,0,none⟩=some (.slice (some ⟨P.xb,P.xo,none⟩) its.length P.icap):=(Dg.cell_row h.row 0).trans rfl
theorem Ou.c1 (h:Ou its l P ob w):w.cell? ⟨ob,1,none⟩=some (.slice (some ⟨P.fb,P.fo,none⟩) its.length P.lcap):=(Dg.cell_row h.row 1).trans rfl
theorem Ou.c2 (h:Ou its l P ob w):w.cell? ⟨ob,2,none⟩=some (.pointer (some ⟨P.vb,0,none⟩)):=(Dg.cell_row h.row 2).trans rfl
theorem Ou.c3 (h:Ou its l P ob w):w.cell? ⟨ob,3,none⟩=some (.pointer (some ⟨P.bd,0,none⟩)):=(Dg.cell_row h.row 3).trans rfl
theorem Ou.c4 (h:Ou its l P ob w):w.cell? ⟨ob,4,none⟩=some (.slice (some ⟨P.sb,P.so,none⟩) its.length P.scap):=(Dg.cell_row h.row 4).trans rfl
theorem Ou.right (h:Ou its l P ob w):∃q,sagaP its=some q:=(chk_facts h.chk).1
theorem Ou.len (h:Ou its l P ob w):l.length=its.length:=(chk_facts h.chk).2.1
theorem Ou.few (h:Ou its l P ob w):1≤its.length∧its.length≤64:=root_len (chkF_iff.1 h.chk).1
theorem Ou.item (h:Ou its l P ob w){i:Nat}(hi:i < its.length):∃(x:It) (av:Option Addr) (am ac:Nat),its[i]? =some x∧
  w.cell? ⟨P.xb,P.xo+i * 8,none⟩=some (.string ⟨x.name.toArray⟩)∧w.cell? ⟨P.xb,P.xo+i * 8+1,none⟩=some (.string ⟨x.undo.toArray⟩)∧w.cell? ⟨P.xb,P.xo+i * 8+2,none⟩=some (.bool x.sub)∧w.cell? ⟨P.xb,P.xo+i * 8+3,none⟩=some (.bool x.vital)∧
  w.cell? ⟨P.xb,P.xo+i * 8+4,none⟩=some (.int .i64 x.alts)∧w.cell? ⟨P.xb,P.xo+i * 8+5,none⟩=some (.int .i64 x.inn)∧w.cell? ⟨P.xb,P.xo+i * 8+6,none⟩=some (.int .i64 x.alt)∧w.cell? ⟨P.xb,P.xo+i * 8+7,none⟩=some (.slice av am ac)∧RdZ w (.slice av am ac) x.after:=by
 obtain⟨x,hx⟩:∃x,its[i]? =some x:=⟨_,List.getElem?_eq_getElem hi⟩
 obtain⟨a,cap,e,_,hr⟩:=h.it
 obtain⟨b,off,av,am,ac,rfl,c0,c1,c2,c3,c4,c5,c6,c7,hz⟩:=hr i x hx
 cases e;exact⟨x,av,am,ac,hx,c0,c1,c2,c3,c4,c5,c6,c7,hz⟩
theorem Ou.fact (h:Ou its l P ob w){i:Nat}(hi:i < its.length):w.cell? ⟨P.fb,P.fo+i * 4,none⟩=some (.int .i64 (fOf l i).run)∧w.cell? ⟨P.fb,P.fo+i * 4+1,none⟩=some (.int .i64 (fOf l i).tries)∧w.cell? ⟨P.fb,P.fo+i * 4+2,none⟩=some (.int .i64 (fOf l i).slips)∧w.cell? ⟨P.fb,P.fo+i * 4+3,none⟩=some (.bool (fOf l i).un):=by
 obtain⟨x,hx⟩:∃x,l[i]? =some x:=⟨_,List.getElem?_eq_getElem (by rw[h.len];exact hi)⟩
 obtain⟨a,cap,e,_,_,hr⟩:=h.fa
 obtain⟨b,off,rfl,c0,c1,c2,c3⟩:=hr i x hx
 injection e with e1
 cases e1;rw[fOf_at hx]
 exact⟨c0,c1,c2,c3⟩
theorem Ou.stat (h:Ou its l P ob w){i:Nat}(hi:i < its.length):w.cell? ⟨P.sb,P.so+i,none⟩=some (.int .i64 (St.S (plOf its) (fOf l) i)):=by
 have hz:(allS its l)[i]? =some (St.S (plOf its) (fOf l) i):=by
  unfold allS;rw[if_pos h.chk,List.getElem?_map,List.getElem?_range hi]
  rfl
 obtain⟨a,cap,e,_,hr⟩:=h.st
 obtain⟨b,off,rfl,c0⟩:=hr i _ hz
 injection e with e1
 cases e1;exact c0
theorem Ou.seen (h:Ou its l P ob w):SeeO its l (some P.B):=by
 unfold SeeO;rw[if_pos h.chk]
 exact⟨_,rfl,h.boO⟩
theorem it_pl {q:By × Tr}(hq:sagaP its=some q){i:Nat}{x:It}(hx:its[i]? =some x) :
  (plOf its).sub i=x.sub∧(plOf its).vital i=x.vital∧(1≤i→x.inn=((plOf its).inn i:Nat)∧x.alt=((plOf its).alt i:Nat)):=by
 refine⟨?_,?_,fun h1=>?_⟩
 ·show (its.getD i It.z).sub=_;rw[getD_it hx]
 ·show (its.getD i It.z).vital=_;rw[getD_it hx]
 ·obtain⟨_,hi⟩:=plan_items hq
  obtain⟨⟨j,a,y,e1,e2,_⟩,_⟩:=hi i x hx h1
  refine⟨?_,?_⟩
  ·show x.inn=((its.getD i It.z).inn.toNat:Int);rw[getD_it hx,e1]
   rfl
  ·show x.alt=((its.getD i It.z).alt.toNat:Int);rw[getD_it hx,e2]
   rfl
theorem after_pl {q:By × Tr}(hq:sagaP its=some q){i:Nat}{x:It}(hx:its[i]? =some x)(h1:1≤i){z:Int}(hz:z∈x.after):∃a:Nat,z=(a:Int)∧a∈afOf its i∧1≤a∧a < its.length:=by
 have hp:=plan_leans hq;have hil:i < its.length:=(List.getElem?_eq_some_iff.1 hx).1;obtain⟨_,_,_,_,W,o,hw⟩:=right_facts hq
 obtain⟨_,hW,hends,_,_,_,_⟩:=Dg.weave_facts hw
 have h9:=St.arcTo_mem hx hz _ hil;have h8:=List.all_eq_true.1 hends _ (Dg.swapA_mem.2 h9);have hz0:0≤z:=by
  unfold Dg.endsOk at h8;have h7:=of_decide_eq_true h8;omega
 have hm:z.toNat∈afOf its i:=by
  unfold afOf;rw[getD_it hx]
  exact List.mem_map.2 ⟨z,hz,rfl⟩
 obtain⟨a1,a2,_⟩:=hp.ons i h1 hil _ hm
 exact⟨z.toNat,by omega,hm,a1,a2⟩
end
open Classical in
noncomputable def psB (its:List It)(l:List Fa)(i:Nat):Bool:=decide (Ps (plOf its) (fOf l) i)
open Classical in
noncomputable def rcB (its:List It)(l:List Fa)(i:Nat):Bool:=decide (Rc (plOf its) (afOf its) (fOf l) i)
open Classical in
noncomputable def rnB (its:List It)(l:List Fa)(i:Nat):Bool:=decide (Rn (plOf its) (afOf its) (fOf l) i)
open Classical in
noncomputable def mbB (its:List It)(l:List Fa)(i:Nat):Bool:=decide (MB (plOf its) (afOf its) (fOf l) i)
open Classical in
noncomputable def muB (its:List It)(l:List Fa)(i:Nat):Bool:=decide (MU (plOf its) (afOf its) (fOf l) i)
open Classical in
noncomputable def baB (its:List It)(l:List Fa)(i:Nat):Bool:=decide (Oc (plOf its) (afOf its) (fOf l) i∧∀s,An (plOf its) i s→1≤s→Oc (plOf its) (afOf its) (fOf l) s)
open Classical in
theorem psB_iff {its:List It}{l:List Fa}{i:Nat} :psB its l i=true↔(Ps (plOf its) (fOf l) i):=by unfold psB;exact decide_eq_true_iff
open Classical in
theorem rcB_iff {its:List It}{l:List Fa}{i:Nat} :rcB its l i=true↔(Rc (plOf its) (afOf its) (fOf l) i):=by unfold rcB;exact decide_eq_true_iff
open Classical in
theorem rnB_iff {its:List It}{l:List Fa}{i:Nat} :rnB its l i=true↔(Rn (plOf its) (afOf its) (fOf l) i):=by unfold rnB;exact decide_eq_true_iff
open Classical in
theorem mbB_iff {its:List It}{l:List Fa}{i:Nat} :mbB its l i=true↔(MB (plOf its) (afOf its) (fOf l) i):=by unfold mbB;exact decide_eq_true_iff
open Classical in
theorem muB_iff {its:List It}{l:List Fa}{i:Nat} :muB its l i=true↔(MU (plOf its) (afOf its) (fOf l) i):=by unfold muB;exact decide_eq_true_iff
open Classical in
theorem baB_iff {its:List It}{l:List Fa}{i:Nat} :baB its l i=true↔(Oc (plOf its) (afOf its) (fOf l) i∧∀s,An (plOf its) i s→1≤s→Oc (plOf its) (afOf its) (fOf l) s):=by unfold baB;exact decide_eq_true_iff
theorem letsGo_any {its:List It}{l:List Fa}{P:OuP}{ob:Nat}{w:World}(h:Ou its l P ob w){i:Nat}(hi:i < its.length) :
  Calls Tryz.prog 121 #[.pointer (some ⟨ob,0,none⟩),.int .i64 (i:Int)] w fun e w'=>e= .returned (.bool (psB its l i))∧w=w':=by
 obtain⟨q,hq⟩:=h.right
 obtain⟨x,av,am,ac,hx,_,_,k2,k3,_⟩:=h.item hi
 obtain⟨e1,e2,_⟩:=it_pl hq hx
 have c0:=h.c0;have c4:=h.c4;have s0:=h.stat hi;have HQ:Hid (psB its l i=(decide (St.S (plOf its) (fOf l) i=2) || (x.sub && !x.vital && decide (St.S (plOf its) (fOf l) i=3)))):=by
  show _=_;rw[←e1,←e2]
  refine Bool.eq_iff_iff.2 ?_;rw[psB_iff,ps_S h.chk hi]
  simp only[Bool.or_eq_true,Bool.and_eq_true,Bool.not_eq_true',decide_eq_true_eq,and_assoc]
 have hii:(i:Int) < (its.length:Int):=by omega
 have hn:=h.few;obtain⟨Q,HQQ⟩:∃Q,Hid (Q=psB its l i):=⟨_,rfl⟩
 rw[←HQQ.out] at HQ ⊢
 generalize St.S (plOf its) (fOf l) i=s at *;generalize x.sub=su at *;generalize x.vital=vi at *;obtain⟨n,HN⟩:∃n,Hid (its.length=n):=⟨_,rfl⟩
 rw[HN.out] at c0 c4 hii hn
 obtain⟨xb,xo,icap,fb,fo,lcap,vb,bd,sb,so,scap,ov,B⟩:=P
 dsimp only at c0 c4 k2 k3 s0;clear h hq hx e1 e2 hi HQQ
 by_cases h2:s=2
 ·subst h2;obtain rfl:Q=true:=by rw[HQ.out];rfl
  clear HQ;cases su <;> cases vi
  all_goals
   go_enter Tryz.func121,Tryz.ntmps121
   go_wp2_with fail
   go_ret
   exact⟨rfl,rfl⟩
 ·have hd2:decide (s=2)=false:=decide_eq_false h2;have hb2:(s==2)=false:=by simpa using h2
  by_cases h3:s=3
  ·subst h3;cases su <;> cases vi
   all_goals
    have HQ2:=HQ.out;simp at HQ2;subst HQ2;clear HQ
    go_enter Tryz.func121,Tryz.ntmps121
    go_wp2_with fail
    go_ret
    exact⟨rfl,rfl⟩
  ·have hd3:decide (s=3)=false:=decide_eq_false h3;have hb3:(s==3)=false:=by simpa using h3
   obtain rfl:Q=false:=by rw[HQ.out,hd2,hd3];simp
   clear HQ;cases su <;> cases vi
   all_goals
    go_enter Tryz.func121,Tryz.ntmps121
    go_wp2_with fail
    go_ret
    exact⟨rfl,rfl⟩
end Go.Proofs.YtieoppabellafaaGreatDoor.Ts
