/- Texts of the seat, packed: Ln Lo Ky Kyb Th Kyc. -/
import Derived.Test.YtieoppabellafaaGreatDoorP22
import Derived.Test.YtieoppabellafaaGreatDoorP26
import Derived.Test.YtieoppabellafaaGreatDoorP29
import Derived.Test.YtieoppabellafaaGreatDoorP23
import Derived.Test.YtieoppabellafaaGreatDoorP21
import Derived.Test.YtieoppabellafaaGreatDoorP20
set_option maxRecDepth 1000000
set_option maxHeartbeats 64000000
set_option linter.unusedVariables false
namespace Go.Proofs.YtieoppabellafaaGreatDoor.Sa
open Go.RowKit Go.Shelf Fc St Sx
def RS (w:World)(v:Value)(l:List Int):Prop:=∃a cap,v= .slice a l.length cap∧l.length≤cap∧∀(i:Nat) (z:Int),l[i]? =some z→∃b off,a=some ⟨b,off,none⟩∧w.cell? ⟨b,off+i,none⟩=some (.int .i64 z)
theorem RS.later {w w':World}{v:Value}{l:List Int}(h:RS w v l)(hb:Below w.heap.size w w'):RS w' v l:=by
 obtain⟨a,cap,hv,hc,hr⟩:=h
 refine⟨a,cap,hv,hc,fun i z hi=>?_⟩
 obtain⟨b,off,ha,c0⟩:=hr i z hi
 exact⟨b,off,ha,Dg.cell_later hb c0⟩
def rowS (l:List Int):List Value:=l.map (.int .i64 ·)
theorem rowS_len (l:List Int):(rowS l).length=l.length:=List.length_map _
theorem rowS_one (l:List Int):∀u∈rowS l,u.oneCell'=true:=by
 intro u hu;obtain⟨z,_,rfl⟩:=List.mem_map.1 hu
 rfl
theorem rowS_get {l:List Int}{i:Nat}{z:Int}(h:l[i]? =some z):(rowS l)[i]? =some (.int .i64 z):=by
 unfold rowS;rw[List.getElem?_map,h]
 rfl
theorem info32:(Tryz.prog.info? 38).map (fun i=>(i.zero,i.size,i.bytes))=some (some (.int .i64 0),1,8):=by kernel_rfl
theorem cloneS_any (l:List Int)(w:World)(d off n cap:Nat)(hN:l.length=n)(h0:0 < n)(hn:n≤1000000)(hc:n≤cap)(hcap:cap≤1000000)(hl:∀(i:Nat) (z:Int),l[i]? =some z→w.cell? ⟨d,off+i,none⟩=some (.int .i64 z)) :
  Calls Tryz.prog 64 #[.slice (some ⟨d,off,none⟩) n cap] w fun e w'=>Below w.heap.size w w'∧∃a c,e= .returned (.slice a n c)∧RS w' (.slice a n c) l:=by
 obtain⟨i0,hi0,hz0,hz1,hz2⟩:=info_parts info32
 have HNews:Hid (∀j u,(rowS l)[j]? =some u→(w.alloc (.cells #[] 38)).cell? ((⟨d,off,none⟩:Addr).add j)=some u):=fun j u hu=>by
  have hj:j < l.length:=by rw[←rowS_len];exact (List.getElem?_eq_some_iff.1 hu).1
  obtain⟨z,hz⟩:∃z,l[j]? =some z:=⟨_,List.getElem?_eq_getElem hj⟩
  rw[rowS_get hz] at hu
  cases hu;have h7:(⟨d,off,none⟩:Addr).add j=⟨d,off+j,none⟩:=by unfold Addr.add;split <;> simp_all
  rw[h7]
  exact Dg.cell_later (bl1 _ _) (hl j z hz)
 have HOwn:Hid ((w.alloc (.cells #[] 38)).ownsRow w.heap.size 38 1 (.slice (some ⟨w.heap.size,0,none⟩) 0 0) 0 []):=
  ⟨rfl,.inr ⟨w.heap.size,0,#[],rfl,Nat.le_refl _,Dg.row_new _ _ _,Nat.le_refl _,Nat.zero_le _,rfl,rfl⟩⟩
 have HLn:Hid ((rowS l).length=n * 1):=by show _=_;rw[rowS_len,hN,Nat.mul_one]
 have HOne:Hid (∀u∈rowS l,u.oneCell'=true):=rowS_one l;have HN:Hid _:=hN;clear hl hN;have hE:∀w,(binOp .eql 43 (.slice (some ⟨d,off,none⟩) n cap) (.slice none 0 0)).run Tryz.prog w= .ok (.bool false) w:=fun w=>Lib.run_eql_slice_nil w 43 38 (some ⟨d,off,none⟩) n cap 0 0 Tryz.underlying43
 go_enter Tryz.func64,Tryz.ntmps64
 go_wp2_with (at_builtin;refine wpList_append_own_at _ rfl _ _ 43 rfl w.heap.size 38 i0 _ 1 8 Tryz.underlying43 hi0 hz0 hz1 hz2 rfl (by decide) _ 0 [] rfl HOwn.out ⟨d,off,none⟩ n cap (rowS l) rfl HLn.out HNews.out HOne.out (by unfold maxLen;omega) (by omega) (by simp) ?_;intro v7 w7 ho7 hg7 _ hat7)
 have HB7:Hid (Below w.heap.size w w7):=Below.grown ((Below.refl _ _).alloc (Nat.le_refl _) _) hg7 (by simp) (fun k hk=>(HOwn.out.lt _ hk).1);have HF:Hid (w7.ownsRow w.heap.size 38 1 v7 n (rowS l)):=by
  have h:=ho7;rw[Nat.zero_add,List.nil_append] at h
  exact h
 clear ho7 hg7 hat7
 go_wp2_with fail
 go_ret
 have hl:=HF.out
 rcases HF.out.2 with ⟨_,h9⟩ | ⟨g,cap',cur,rfl,_,_,q1,q2,_⟩
 ·omega
 ·refine⟨HB7.out,_,cap',rfl,_,cap',by rw[HN.out],by rw[HN.out];exact q1,fun i z hz=>⟨g,0,rfl,?_⟩⟩
  have hi:i < l.length:=(List.getElem?_eq_some_iff.1 hz).1;have:=hl.cellAt i (by rw[HN.out] at hi;omega);rw[Nat.zero_add,this,rowS_get hz]
theorem slice47 (wx:World)(d c:Nat)(hc:c≤64):(Instr.sliceAt 131 (.pointer (some ⟨d,1,none⟩)) none (some (.int .i64 (c:Int))) none).run Tryz.prog wx= .ok (.slice (some ⟨d,1,none⟩) c 64) wx:=by
 have h1:(Instr.sliceBounds false 64 64 none (some (.int .i64 (c:Int))) none).run Tryz.prog wx= .ok (0,c,64) wx:=by
  unfold Instr.sliceBounds
  go_simp
  intro h;omega
 have hu:=run_underlying Tryz.underlying131 wx;have hs:(sizeOf 38).run Tryz.prog wx= .ok 1 wx:=by kernel_rfl
 unfold Instr.sliceAt;rw[Sem.run_bind,hu]
 simp only[Result.andThen_ok,Sem.run_bind,h1,hs,Instr.sureAddr,Sem.run_pure];rfl
theorem bAll_any {w:World}{v:Value}{o:Option Bo}(h:RB w v o):Calls Tryz.prog 35 #[v] w fun e w'=>Below w.heap.size w w'∧∃a c,e= .returned (.slice a (o.getD Bo.z).c c)∧RS w' (.slice a (o.getD Bo.z).c c) (o.getD Bo.z).all:=by
 have HM:Hid _:=made_any h
 by_cases hc:(o.getD Bo.z).c=0
 ·have hd:decide (0 < (o.getD Bo.z).c)=false:=decide_eq_false (by omega);rw[hd] at HM
  have HE:Hid (∀w',RS w' (.slice none (o.getD Bo.z).c 0) (o.getD Bo.z).all):=fun w'=>by
   have:(o.getD Bo.z).all=[]:=by unfold Bo.all;rw[hc];rfl
   rw[this,hc]
   exact⟨none,0,rfl,by simp,fun i z hz=>by cases hz⟩
  have HC:Hid _:=hc;clear hd hc h
  go_enter Tryz.func35,Tryz.ntmps35
  go_wp2_with fail
  refine Calls.mono HM.out ?_;rintro e w2 ⟨rfl,hb2⟩;have HB2:Hid _:=hb2;clear HM hb2
  go_wp2_with fail
  go_ret
  exact⟨HB2.out,none,0,by rw[HC.out];rfl,HE.out w2⟩
 ·have hd:decide (0 < (o.getD Bo.z).c)=true:=decide_eq_true (by omega);rw[hd] at HM
  cases o with
  | none=>exact absurd rfl hc
  | some B=>
   obtain⟨d,rfl,h1,h2⟩:=h
   show Calls _ _ _ _ fun e w'=>Below w.heap.size w w'∧∃a c,e= .returned (.slice a B.c c)∧RS w' (.slice a B.c c) B.all
   have hpos:0 < B.c:=by have:¬B.c=0:=hc;omega
   have HCL:Hid (∀wx,Below w.heap.size w wx→Calls Tryz.prog 64 #[.slice (some ⟨d,1,none⟩) B.c 64] wx fun e w'=>∃z:Option Addr × Nat,e= .returned (.slice z.1 B.c z.2)∧Below w.heap.size w w'∧RS w' (.slice z.1 B.c z.2) B.all):=fun wx hb=>by
    have hl:B.all.length=B.c:=by unfold Bo.all;rw[List.length_map,List.length_range]
    refine Calls.mono (cloneS_any B.all wx d 1 B.c 64 hl hpos (by omega) h1 (by omega) (fun i z hz=>?_)) (by rintro e w' ⟨hb',a,c,rfl,hr⟩;exact⟨(a,c),rfl,hb.trans (hb'.mono hb.size),hr⟩);unfold Bo.all at hz;rw[List.getElem?_map] at hz
    have hi:i < B.c:=by
     apply Classical.byContradiction
     intro h9;rw[List.getElem?_eq_none (by simp;omega)] at hz
     cases hz
    rw[List.getElem?_range hi] at hz
    cases hz;exact Dg.cell_later hb (brd_cellS h2 (by omega))
   have HC0:Hid _:=brd_cell0 h2;clear h2 hc hd;generalize B.all=L at *;generalize B.c=c at *
   go_enter Tryz.func35,Tryz.ntmps35
   go_wp2_with fail
   refine Calls.mono HM.out ?_;rintro e w2 ⟨rfl,hb2⟩;have HB2:Hid _:=hb2;clear HM hb2
   go_wp2_with fail
   have hCUR:Below w.heap.size w w2.drew:=HB2.out.trans ((Below.refl _ _).drew.mono HB2.out.size);have hS0:=hCUR;refine region_thenG (β:=Option Addr × Nat) (fun z=>[(6,.pointer (some ⟨d,0,none⟩)),(7,.pointer (some ⟨d,0,none⟩)),(8,.pointer (some ⟨d,1,none⟩)),(9,.pointer (some ⟨d,0,none⟩)),(10,.pointer (some ⟨d,0,none⟩)),(11,.pointer (some ⟨d,0,none⟩)),(12,.int .i64 (c:Int)),(13,.slice (some ⟨d,1,none⟩) c 64),(14,.slice z.1 c z.2),(2,.slice z.1 c z.2)]) (fun z w'=>Below w.heap.size w w'∧RS w' (.slice z.1 c z.2) L) ?_ ?_
   ·refine wp_region_held (S:=fun w'=>Below w.heap.size w w') (by kernel_rfl) ?_;simp only[List.size_toArray,List.length_cons,List.length_nil,Nat.reduceAdd,Array.replicate_succ,Array.replicate_zero,List.push_toArray,List.nil_append,List.cons_append];refine tK 0 6 (.pointer (some ⟨d,0,none⟩)) 9 rfl hS0 ?_;refine tG 1 7 (.pointer (some ⟨d,0,none⟩)) 8 rfl hS0 ?_;refine tG 2 8 (.pointer (some ⟨d,1,none⟩)) 7 rfl hS0 ?_;refine tK 3 9 (.pointer (some ⟨d,0,none⟩)) 6 rfl hS0 ?_;refine tG 4 10 (.pointer (some ⟨d,0,none⟩)) 5 rfl hS0 ?_;refine tG 5 11 (.pointer (some ⟨d,0,none⟩)) 4 rfl hS0 ?_;refine tV 6 12 (.int .i64 (c:Int)) 3 rfl hS0 ?_ (fun wx h=>by have z0:=Dg.cell_later h HC0.out;go_simp);refine tV 7 13 (.slice (some ⟨d,1,none⟩) c 64) 2 rfl hS0 ?_ (fun wx h=>by have h9:=slice47 wx d c h1;go_simp);refine oneX (β:=Option Addr × Nat) (V:=fun z=> .slice z.1 c z.2) (R:=fun z w'=>Below w.heap.size w w'∧RS w' (.slice z.1 c z.2) L) (i:=8) (d:=14) (f:=64) (args:= #[.slice (some ⟨d,1,none⟩) c 64]) (fuel:=1) rfl rfl (by kernel_rfl) (by kernel_rfl) (fun _=>by kernel_rfl) (HCL.out _ hCUR) (fun z w' h=>h.1) (fun z wz hR8=>?_);simp only[List.setIfInBounds_toArray,List.set_cons_succ,List.set_cons_zero];refine tK 9 2 (.slice z.1 c z.2) 0 rfl (hR8.1) ?_;refine wpAnyH_done (by kernel_rfl) ?_ _;exact⟨rfl,z,by kernel_rfl,hR8⟩
   ·rintro z w9 hF;simp only[setAll,List.setIfInBounds_toArray,List.set_cons_succ,List.set_cons_zero];obtain⟨za,zc⟩:=z
    dsimp only at hF ⊢;have HF9:Hid _:=hF;clear hF
    go_wp2_with fail
    go_ret
    exact⟨HF9.out.1,_,_,rfl,HF9.out.2⟩
def fOf (l:List Fa):Nat→Fa:=fun i=>l.getD i Fa.z
theorem fOf_at {l:List Fa}{i:Nat}{x:Fa}(h:l[i]? =some x):fOf l i=x:=by
 unfold fOf;rw[List.getD_eq_getElem?_getD,h]
 rfl
theorem bs_of {its:List It}{l:List Fa}{v lv:Value}{w:World}(hIt:RdIt w v its)(hl:RF w lv l)(hc:chkF its l=0) :
  ∃xb xo icap fb fo lcap,v= .slice (some ⟨xb,xo,none⟩) its.length icap∧lv= .slice (some ⟨fb,fo,none⟩) its.length lcap∧Bs (plOf its) (fOf l) xb xo icap fb fo lcap w:=by
 obtain⟨hsome,hok⟩:=chkF_iff.1 hc
 obtain⟨q,hq⟩:=Option.isSome_iff_exists.1 hsome
 obtain⟨hpos,h64⟩:=root_len hsome
 have hlen:l.length=its.length:=by have:=hok.1;unfold subs at this;rw[List.length_map] at this;exact this
 obtain⟨ia,icap,rfl,hic,hir⟩:=hIt
 obtain⟨la,lcap,rfl,hlc,_,hlr⟩:=hl
 obtain⟨x0,hx0⟩:∃x,its[0]? =some x:=⟨_,List.getElem?_eq_getElem (by omega)⟩
 obtain⟨f0,hf0⟩:∃x,l[0]? =some x:=⟨_,List.getElem?_eq_getElem (by omega)⟩
 obtain⟨xb,xo,_,_,_,rfl,_⟩:=hir 0 x0 hx0
 obtain⟨fb,fo,rfl,_⟩:=hlr 0 f0 hf0
 obtain⟨⟨r,r0,r1,r2,r3,r4,r5⟩,hi⟩:=plan_items hq
 have hal:∀(i:Nat) (x:It),its[i]? =some x→(if x.sub then 1≤x.alts∧x.alts≤4 else x.alts=0∧x.vital=false):=fun i x hx=>by
  by_cases h0:i=0
  ·subst h0;rw[r0] at hx
   cases hx;rw[r1,if_pos rfl]
   exact⟨r4,r5⟩
  ·exact (hi i x hx (by omega)).2
 refine⟨xb,xo,icap,fb,fo,lcap,rfl,by rw[hlen],plan_ok hq,h64,hic,by show its.length≤lcap;omega,fun i hi'=>?_,fun i hi' hs=>?_,fun i hi'=>?_,fun i hi'=>?_,fun i hi'=>?_⟩
 ·obtain⟨x,hx⟩:∃x,its[i]? =some x:=⟨_,List.getElem?_eq_getElem hi'⟩
  show (its.getD i It.z).alts.toNat≤4;rw[getD_it hx]
  have:=hal i x hx
  split at this <;> omega
 ·obtain⟨x,hx⟩:∃x,its[i]? =some x:=⟨_,List.getElem?_eq_getElem hi'⟩
  have hs':(its.getD i It.z).sub=false:=hs;show (its.getD i It.z).alts.toNat=0∧(its.getD i It.z).vital=false;rw[getD_it hx] at hs' ⊢
  have:=hal i x hx;rw[hs',if_neg (by decide)] at this
  exact⟨by omega,this.2⟩
 ·have h9:i < l.length:=by rw[hlen];exact hi'
  exact (hok.2 i h9).1
 ·obtain⟨x,hx⟩:∃x,its[i]? =some x:=⟨_,List.getElem?_eq_getElem hi'⟩
  obtain⟨b',o',av,am,ac,e',k0,k1,k2,k3,k4,k5,k6,k7,_⟩:=hir i x hx
  cases e';have ha:((its.getD i It.z).alts.toNat:Int)=x.alts:=by
   rw[getD_it hx]
   have:=hal i x hx
   split at this <;> omega
  have hs:(plOf its).sub i=x.sub:=by show (its.getD i It.z).sub=_;rw[getD_it hx]
  have hv:(plOf its).vital i=x.vital:=by show (its.getD i It.z).vital=_;rw[getD_it hx]
  refine⟨_,_,x.inn,x.alt,av,am,ac,k0,k1,by rw[hs];exact k2,by rw[hv];exact k3,?_,k5,k6,k7,fun h1=>?_⟩
  ·show w.cell? _=some (.int .i64 ((its.getD i It.z).alts.toNat:Int));rw[ha]
   exact k4
  ·obtain⟨⟨j,a,y,e1,e2,_⟩,_⟩:=hi i x hx h1
   refine⟨?_,?_⟩
   ·show x.inn=((its.getD i It.z).inn.toNat:Int);rw[getD_it hx,e1]
    rfl
   ·show x.alt=((its.getD i It.z).alt.toNat:Int);rw[getD_it hx,e2]
    rfl
 ·obtain⟨x,hx⟩:∃x,l[i]? =some x:=⟨_,List.getElem?_eq_getElem (by rw[hlen];exact hi')⟩
  obtain⟨b',o',e',k0,k1,k2,k3⟩:=hlr i x hx
  cases e';rw[fOf_at hx]
  exact⟨k0,k1,k2,k3⟩
structure BoOf (p:Pl)(f:Nat→Fa)(B:Bo):Prop where
 c:B.c=p.n
 s:∀i,i < p.n→B.S i=St.S p f i
 a:∀i,i < p.n→B.A i=atP p f i
 m:B.M=Mf p f
 cl:∀i,i < p.n→B.C i=(W p f i).clean
def SeeO (its:List It)(l:List Fa)(o:Option Bo):Prop:=if chkF its l=0 then ∃B,o=some B∧BoOf (plOf its) (fOf l) B else o=none
structure PF (its:List It)(l:List Fa)(v lv:Value)(w:World):Prop where
 it:RdIt w v its
 fair:FairI its
 tab:Dg.Tab w
 fa:RF w lv l
 il:its.length≤1000000000
 ll:l.length≤1000000000
theorem PF.later {its:List It}{l:List Fa}{v lv:Value}{w w':World}(h:PF its l v lv w)(hb:Below w.heap.size w w'):PF its l v lv w':=
 ⟨h.it.later hb,h.fair,h.tab.later hb,h.fa.later hb,h.il,h.ll⟩
theorem see_any {its:List It}{l:List Fa}{v lv:Value}{w:World}(h:PF its l v lv w) :
  Calls Tryz.prog 32 #[.agg #[v],lv] w fun e w'=>Below w.heap.size w w'∧∃bv o,e= .returned (.tuple #[bv,.int .i64 (chkF its l)])∧RB w' bv o∧SeeO its l o:=by
 have hb1:=bl1 w (.cells #[v] 28);have r1:=Dg.row_new w #[v] 28;have h1:=h.later hb1;have HC:Hid _:=checkF_any its v lv l _ h1.it h1.fair h1.tab h1.fa h1.il h1.ll;have c0:=(Dg.cell_row r1 0).trans rfl;have HB1:Hid _:=hb1;have HR1:Hid _:=r1;have hc2:chkF its l=0∨chkF its l=2:=by unfold chkF;split <;> simp
 by_cases hc:chkF its l=0
 ·obtain⟨xb,xo,icap,fb,fo,lcap,rfl,rfl,hBs⟩:=bs_of h1.it h1.fa hc
  have HBO:Hid (∀wx,Below (w.alloc (.cells #[.slice (some ⟨xb,xo,none⟩) its.length icap] 28)).heap.size (w.alloc (.cells #[.slice (some ⟨xb,xo,none⟩) its.length icap] 28)) wx→Calls Tryz.prog 61 #[.agg #[.slice (some ⟨xb,xo,none⟩) its.length icap],.slice (some ⟨fb,fo,none⟩) its.length lcap] wx fun e w'=>∃d,e= .returned (.pointer (some ⟨d,0,none⟩))∧BdIs (plOf its) (fOf l) wx d w'):=fun wx hb=>boardOf_any (hBs.later hb) rfl
  have HN:Hid (its.length≤64):=hBs.le;rw[hc] at HC ⊢
  have HCC:Hid _:=hc;clear hBs h h1 hb1 r1 hc hc2
  go_enter Tryz.func32,Tryz.ntmps32
  go_wp2_with fail
  refine Calls.mono HC.out ?_;rintro e w2 ⟨rfl,hb2⟩;have HB2:Hid _:=HB1.out.trans (hb2.mono HB1.out.size);have HBO2:Hid _:=HBO.out w2 hb2;have c2:=Dg.cell_later hb2 c0;clear HC hb2 c0 HBO HB1
  go_wp2_with fail
  refine Calls.mono HBO2.out ?_;rintro e w3 ⟨d,rfl,hbd⟩;have HB3:Hid _:=HB2.out.trans (hbd.bel.mono HB2.out.size);have HBD:Hid _:=hbd;clear HBO2 hbd c2
  go_wp2_with fail
  go_ret2
  obtain⟨S,A,C,q1,q2,q3⟩:=HBD.out.ex
  refine⟨HB3.out,_,some ⟨its.length,S,A,Mf (plOf its) (fOf l),C⟩,rfl,⟨d,rfl,HN.out,q1⟩,?_⟩
  unfold SeeO;rw[if_pos HCC.out]
  exact⟨_,rfl,rfl,q2.s,q2.a,rfl,q3⟩
 ·have hc9:chkF its l=2:=by omega
  have HCC:Hid _:=hc;rw[hc9] at HC ⊢
  clear h h1 hb1 r1 hc hc2 hc9
  go_enter Tryz.func32,Tryz.ntmps32
  go_wp2_with fail
  refine Calls.mono HC.out ?_;rintro e w2 ⟨rfl,hb2⟩;have HB2:Hid _:=HB1.out.trans (hb2.mono HB1.out.size);clear HC hb2 c0 HB1
  go_wp2_with fail
  go_ret2
  refine⟨HB2.out,_,none,rfl,rfl,?_⟩
  unfold SeeO;rw[if_neg HCC.out]
noncomputable def allS (its:List It)(l:List Fa):List Int:=if chkF its l=0 then (List.range its.length).map (St.S (plOf its) (fOf l)) else []
noncomputable def verS (its:List It)(l:List Fa):Int:=if chkF its l=0 then (if St.S (plOf its) (fOf l) 0=0 then 1 else St.S (plOf its) (fOf l) 0) else 0
noncomputable def atS (its:List It)(l:List Fa)(i:Int):Int:=if chkF its l=0 then (if 0≤i∧i < (its.length:Int) then atP (plOf its) (fOf l) i.toNat else -1) else 0
noncomputable def falS (its:List It)(l:List Fa)(s a:Int):Bool:=if chkF its l=0 then decide (0≤s∧s < (its.length:Int)) && decide (0≤a∧a < 4) && Mf (plOf its) (fOf l) s.toNat a.toNat else false
noncomputable def cleS (its:List It)(l:List Fa)(i:Int):Bool:=if chkF its l=0 then decide (0≤i∧i < (its.length:Int)) && (W (plOf its) (fOf l) i.toNat).clean else false
theorem seeO_cases {its:List It}{l:List Fa}{o:Option Bo}(h:SeeO its l o):(chkF its l=0∧∃B,o=some B∧BoOf (plOf its) (fOf l) B∧1≤its.length)∨(¬chkF its l=0∧o=none):=by
 unfold SeeO at h
 by_cases hc:chkF its l=0
 ·rw[if_pos hc] at h
  obtain⟨B,h1,h2⟩:=h
  exact .inl ⟨hc,B,h1,h2,(root_len (chkF_iff.1 hc).1).1⟩
 ·rw[if_neg hc] at h
  exact .inr ⟨hc,h⟩
theorem see_all {its:List It}{l:List Fa}{o:Option Bo}(h:SeeO its l o):(o.getD Bo.z).all=allS its l:=by
 unfold allS
 rcases seeO_cases h with ⟨hc,B,rfl,hB,hp⟩ | ⟨hc,rfl⟩
 ·rw[if_pos hc]
  show (List.range B.c).map B.S=_;have:B.c=its.length:=hB.c;rw[this]
  refine List.map_congr_left fun i hi=>?_
  exact hB.s i (List.mem_range.1 hi)
 ·rw[if_neg hc]
  rfl
theorem see_ver {its:List It}{l:List Fa}{o:Option Bo}(h:SeeO its l o):(o.getD Bo.z).ver=verS its l:=by
 unfold verS
 rcases seeO_cases h with ⟨hc,B,rfl,hB,hp⟩ | ⟨hc,rfl⟩
 ·rw[if_pos hc]
  show B.ver=_;unfold Bo.ver;have:B.c=its.length:=hB.c;rw[if_neg (by omega),hB.s 0 (by show 0 < its.length;omega)]
 ·rw[if_neg hc]
  rfl
theorem see_at {its:List It}{l:List Fa}{o:Option Bo}(h:SeeO its l o)(i:Int):(o.getD Bo.z).at_ i=atS its l i:=by
 unfold atS
 rcases seeO_cases h with ⟨hc,B,rfl,hB,hp⟩ | ⟨hc,rfl⟩
 ·rw[if_pos hc]
  show B.at_ i=_;unfold Bo.at_ Bo.has;have hcc:B.c=its.length:=hB.c;rw[if_neg (by omega),hcc]
  by_cases hi:0≤i∧i < (its.length:Int)
  ·rw[if_pos hi,decide_eq_true hi,if_pos rfl]
   exact hB.a i.toNat (by show i.toNat < its.length;omega)
  ·rw[if_neg hi,decide_eq_false hi,if_neg (by decide)]
 ·rw[if_neg hc]
  rfl
theorem see_fal {its:List It}{l:List Fa}{o:Option Bo}(h:SeeO its l o)(s a:Int):(o.getD Bo.z).fal s a=falS its l s a:=by
 unfold falS
 rcases seeO_cases h with ⟨hc,B,rfl,hB,hp⟩ | ⟨hc,rfl⟩
 ·rw[if_pos hc]
  show B.fal s a=_;unfold Bo.fal Bo.has;have hcc:B.c=its.length:=hB.c;rw[hcc,hB.m]
 ·rw[if_neg hc]
  show Bo.z.fal s a=_;unfold Bo.fal;show (_ && false)=false;rw[Bool.and_false]
theorem see_cle {its:List It}{l:List Fa}{o:Option Bo}(h:SeeO its l o)(i:Int):(o.getD Bo.z).cle i=cleS its l i:=by
 unfold cleS
 rcases seeO_cases h with ⟨hc,B,rfl,hB,hp⟩ | ⟨hc,rfl⟩
 ·rw[if_pos hc]
  show B.cle i=_;unfold Bo.cle Bo.has;have hcc:B.c=its.length:=hB.c;rw[hcc]
  by_cases hi:0≤i∧i < (its.length:Int)
  ·rw[hB.cl i.toNat (by show i.toNat < its.length;omega)]
  ·rw[decide_eq_false hi]
   rfl
 ·rw[if_neg hc]
  show Bo.z.cle i=_;unfold Bo.cle;show (_ && false)=false;rw[Bool.and_false]
theorem All_any {its:List It}{l:List Fa}{v lv:Value}{w:World}(h:PF its l v lv w) :
  Calls Tryz.prog 14 #[.agg #[v],lv] w fun e w'=>Below w.heap.size w w'∧∃a c,e= .returned (.tuple #[.slice a (allS its l).length c,.int .i64 (chkF its l)])∧RS w' (.slice a (allS its l).length c) (allS its l):=by
 have hb1:=bl1 w (.cells #[v] 28);have HSE:Hid _:=see_any (h.later hb1);have c0:=(Dg.cell_row (Dg.row_new w #[v] 28) 0).trans rfl;have HB1:Hid _:=hb1;clear h hb1
 go_enter Tryz.func14,Tryz.ntmps14
 go_wp2_with fail
 refine Calls.mono HSE.out ?_;rintro e w2 ⟨hb2,bv,o,rfl,hrb,hso⟩;have HB2:Hid _:=HB1.out.trans (hb2.mono HB1.out.size);have HA:Hid _:=bAll_any hrb;have HSO:Hid _:=hso;clear HSE hb2 c0 hrb hso HB1
 go_wp2_with fail
 refine Calls.mono HA.out ?_;rintro e w3 ⟨hb3,a,c,rfl,hr⟩;have HB3:Hid _:=HB2.out.trans (hb3.mono HB2.out.size);have HR:Hid _:=hr;clear HA hb3 hr HB2
 go_wp2_with fail
 go_ret2
 have e1:=see_all HSO.out;have e2:(o.getD Bo.z).c=(allS its l).length:=by rw[←e1];unfold Bo.all;rw[List.length_map,List.length_range]
 refine⟨HB3.out,a,c,by rw[←e2];rfl,?_⟩
 have h9:=HR.out;rw[e1,e2] at h9
 exact h9
theorem Clean_any {its:List It}{l:List Fa}{v lv:Value}{w:World}(h:PF its l v lv w)(i:Int) :
  Calls Tryz.prog 12 #[.agg #[v],lv,.int .i64 i] w fun e w'=>e= .returned (.bool (cleS its l i))∧Below w.heap.size w w':=by
 have hb1:=bl1 w (.cells #[v] 28);have HSE:Hid _:=see_any (h.later hb1);have c0:=(Dg.cell_row (Dg.row_new w #[v] 28) 0).trans rfl;have HB1:Hid _:=hb1;clear h hb1
 go_enter Tryz.func12,Tryz.ntmps12
 go_wp2_with fail
 refine Calls.mono HSE.out ?_;rintro e w2 ⟨hb2,bv,o,rfl,hrb,hso⟩;have HB2:Hid _:=HB1.out.trans (hb2.mono HB1.out.size);have HA:Hid _:=bClean_any hrb i;rw[see_cle hso i] at HA
 clear HSE hb2 c0 hrb hso HB1
 go_wp2_with fail
 refine Calls.mono HA.out ?_;rintro e w3 ⟨rfl,hb3⟩;have HB3:Hid _:=HB2.out.trans (hb3.mono HB2.out.size);clear HA hb3 HB2
 go_wp2_with fail
 go_ret
 exact⟨rfl,HB3.out⟩
end Go.Proofs.YtieoppabellafaaGreatDoor.Sa
namespace Go.Proofs.YtieoppabellafaaGreatDoor.St
open Fc Sx Sa
theorem chk_facts {its:List It}{l:List Fa}(hc:chkF its l=0):(∃q,sagaP its=some q)∧l.length=its.length∧okL (subs its) l:=by
 obtain⟨h1,h2⟩:=chkF_iff.1 hc
 refine⟨Option.isSome_iff_exists.1 h1,?_,h2⟩
 have:=h2.1;unfold subs at this;rw[List.length_map] at this
 exact this
theorem lg_of {its:List It}{l:List Fa}(hc:chkF its l=0):Lg (plOf its) (afOf its):=by
 obtain⟨⟨q,hq⟩,_⟩:=chk_facts hc
 exact plan_leans hq
theorem rt_of {its:List It}{l:List Fa}(hc:chkF its l=0):Rt (plOf its) (fOf l):=by
 obtain⟨_,hl,h2⟩:=chk_facts hc
 refine⟨fun i hi=>(h2.2 i (by rw[hl];exact hi)).1,fun i hi hs=>(h2.2 i (by rw[hl];exact hi)).2 ?_⟩
 obtain⟨x,hx⟩:∃x,its[i]? =some x:=⟨_,List.getElem?_eq_getElem hi⟩
 rw[subs_getD hx]
 have:(its.getD i It.z).sub=true:=hs;rw[getD_it hx] at this
 exact this
open Classical in
noncomputable def mayK (its:List It)(l:List Fa)(i:Nat):List (Nat × Bool × Int):=
 (if MB (plOf its) (afOf its) (fOf l) i then [(i,false,0)] else []) ++ (if MU (plOf its) (afOf its) (fOf l) i then [(i,true,(fOf l i).slips)] else [])
noncomputable def mayL (its:List It)(l:List Fa):List (Nat × Bool × Int):=if chkF its l=0 then (List.range its.length).flatMap (mayK its l) else []
noncomputable def openL (its:List It)(l:List Fa):List (Nat × Bool × Int):=if chkF its l=0 then opG 0 l else []
theorem mayK_iff {its:List It}{l:List Fa}{i j:Nat}{u:Bool}{t:Int} :(j,u,t)∈mayK its l i↔j=i∧((u=false∧t=0∧MB (plOf its) (afOf its) (fOf l) i)∨(u=true∧t=(fOf l i).slips∧MU (plOf its) (afOf its) (fOf l) i)):=by
 unfold mayK;rw[List.mem_append]
 constructor
 ·rintro (h | h)
  ·split at h
   ·rename_i hm
    simp at h;exact⟨h.1,.inl ⟨h.2.1,h.2.2,hm⟩⟩
   ·cases h
  ·split at h
   ·rename_i hm
    simp at h;exact⟨h.1,.inr ⟨h.2.1,h.2.2,hm⟩⟩
   ·cases h
 ·rintro⟨rfl,⟨rfl,rfl,h⟩ | ⟨rfl,rfl,h⟩⟩
  ·rw[if_pos h];simp
  ·right;rw[if_pos h];simp
theorem may_iff {its:List It}{l:List Fa}{i:Nat}{u:Bool}{t:Int} :(i,u,t)∈mayL its l↔chkF its l=0∧((u=false∧t=0∧MB (plOf its) (afOf its) (fOf l) i)∨(u=true∧t=(fOf l i).slips∧MU (plOf its) (afOf its) (fOf l) i)):=by
 unfold mayL
 by_cases hc:chkF its l=0
 ·rw[if_pos hc,List.mem_flatMap]
  constructor
  ·rintro⟨k,hk,h⟩
   obtain⟨rfl,h⟩:=mayK_iff.1 h
   exact⟨hc,h⟩
  ·rintro⟨_,h⟩
   refine⟨i,List.mem_range.2 ?_,mayK_iff.2 ⟨rfl,h⟩⟩
   rcases h with ⟨_,_,h⟩ | ⟨_,_,h⟩
   ·exact h.1.2.1
   ·exact h.1.2.1
 ·rw[if_neg hc]
  constructor
  ·intro h;cases h
  ·rintro⟨h,_⟩;exact absurd h hc
theorem may_step {its:List It}{l:List Fa}{i:Nat}{u:Bool}{t:Int}(h:(i,u,t)∈mayL its l):1≤i∧i < its.length∧(plOf its).sub i=false:=by
 rcases (may_iff.1 h).2 with ⟨_,_,h⟩ | ⟨_,_,h⟩
 ·exact h.1
 ·exact h.1
def begF (f:Fa)(u:Bool):Fa:=if u then ⟨2,f.tries+1,f.slips,false⟩ else ⟨1,0,0,false⟩
def endF (f:Fa)(u ok:Bool):Fa:=if u then (if ok then ⟨2,f.tries,f.slips,true⟩ else ⟨2,f.tries,f.slips+1,false⟩) else (if ok then ⟨2,0,0,false⟩ else ⟨3,0,0,false⟩)
theorem beg_does {its:List It}{l:List Fa}{i:Nat}{u:Bool}{t:Int}(h:(i,u,t)∈mayL its l):does (subs its) l (if u then 4 else 1) t i=some (l.set i (begF (fOf l i) u)):=by
 obtain⟨hc,h'⟩:=may_iff.1 h
 obtain⟨_,hl,hok⟩:=chk_facts hc
 obtain⟨s1,s2,s3⟩:=may_step h
 obtain⟨x,hx⟩:∃x,its[i]? =some x:=⟨_,List.getElem?_eq_getElem s2⟩
 have hsub:(subs its).getD i true=false:=by
  rw[subs_getD hx]
  have:(its.getD i It.z).sub=false:=s3;rw[getD_it hx] at this
  exact this
 unfold does;rw[if_pos ⟨s1,by omega,hsub⟩]
 rcases h' with ⟨rfl,rfl,h9⟩ | ⟨rfl,rfl,h9⟩
 ·have hr:(l.getD i Fa.z).run=0:=h9.2.1;show (fit 1 0 (l.getD i Fa.z)).map _=_;unfold fit begF;rw[if_pos rfl,if_pos hr]
  rfl
 ·obtain⟨h1,h2,h3⟩:=h9.2.1
  have h1':(l.getD i Fa.z).run=2:=h1;have h2':(l.getD i Fa.z).un=false:=h2;have h3':(l.getD i Fa.z).tries=(l.getD i Fa.z).slips:=h3;show (fit 4 (l.getD i Fa.z).slips (l.getD i Fa.z)).map _=_;unfold fit begF;rw[if_neg (by decide),if_neg (by decide),if_neg (by decide),if_pos rfl,if_pos ⟨h1',h2',h3',rfl⟩]
  rfl
structure Good (its:List It)(l:List Fa):Prop where
 chk:chkF its l=0
 inv:Inv (plOf its) (afOf its) (fOf l)
theorem opG_in:∀{l:List Fa} {s i:Nat} {f:Fa} {x:Nat × Bool × Int},l[i]? =some f→x∈opF (s+i) f→x∈opG s l
 | a :: r,s,0,f,x,h,hx=>by
  simp only[List.getElem?_cons_zero,Option.some.injEq] at h;subst h;rw[opG,List.mem_append]
  exact .inl hx
 | a :: r,s,i+1,f,x,h,hx=>by
  simp only[List.getElem?_cons_succ] at h;rw[opG,List.mem_append]
  exact .inr (opG_in h (by rw[show s+1+i=s+ (i+1) by omega];exact hx))
theorem open_iff {its:List It}{l:List Fa}{i:Nat}{u:Bool}{t:Int} :(i,u,t)∈openL its l↔chkF its l=0∧Op (plOf its) (fOf l) i∧((u=false∧t=0∧(fOf l i).run=1)∨(u=true∧t=(fOf l i).slips∧(fOf l i).tries=(fOf l i).slips+1∧(fOf l i).un=false)):=by
 unfold openL
 by_cases hc:chkF its l=0
 rotate_left
 ·rw[if_neg hc]
  constructor
  ·intro h;cases h
  ·rintro⟨h,_⟩;exact absurd h hc
 rw[if_pos hc]
 obtain⟨⟨q,hq⟩,hl,hok⟩:=chk_facts hc
 have h0:(subs its).getD 0 true=true:=by
  obtain⟨r,r0,r1,_⟩:=(plan_items hq).1
  rw[subs_getD r0]
  exact r1
 constructor
 ·intro h;obtain⟨i',f,e1,i1,i2,hsub,hg,hf,ho,_,hc'⟩:=open_at hok h0 h
  obtain rfl:i=i':=e1;have hfo:fOf l i=f:=fOf_at hf;have hs:(plOf its).sub i=false:=by
   obtain⟨x,hx⟩:∃x,its[i]? =some x:=⟨_,List.getElem?_eq_getElem (by omega)⟩
   show (its.getD i It.z).sub=false;rw[getD_it hx]
   rw[subs_getD hx] at hsub
   exact hsub
  refine⟨hc,⟨⟨i1,by show i < its.length;omega,hs⟩,?_⟩,?_⟩
  ·rw[hfo]
   rcases hc' with ⟨_,h1,_⟩ | ⟨_,_,h2,h3⟩
   ·exact .inl h1
   ·exact .inr ⟨h2,h3⟩
  ·rw[hfo]
   rcases hc' with ⟨e,h1,_⟩ | ⟨e,_,h2,h3⟩
   ·simp only[Prod.mk.injEq,true_and] at e;exact .inl ⟨e.1,e.2,h1⟩
   ·simp only[Prod.mk.injEq,true_and] at e;exact .inr ⟨e.1,e.2,h2,h3⟩
 ·rintro⟨_,⟨⟨i1,i2,_⟩,_⟩,h⟩
  obtain⟨f,hf⟩:∃f,l[i]? =some f:=⟨_,List.getElem?_eq_getElem (by rw[hl];exact i2)⟩
  rw[fOf_at hf] at h
  refine opG_in hf ?_;rw[Nat.zero_add]
  unfold opF;rw[List.mem_append]
  rcases h with ⟨rfl,rfl,h⟩ | ⟨rfl,rfl,h2,h3⟩
  ·left;rw[if_pos h];simp
  ·right;rw[if_pos ⟨by omega,h3⟩];simp
def endE (u ok:Bool):Int:=if u then (if ok then 5 else 6) else (if ok then 2 else 3)
theorem end_does {its:List It}{l:List Fa}{i:Nat}{u ok:Bool}{t:Int}(h:(i,u,t)∈openL its l)(h3:u=true→ok=false→t≠3):does (subs its) l (endE u ok) t i=some (l.set i (endF (fOf l i) u ok)):=by
 obtain⟨hc,ho,h'⟩:=open_iff.1 h
 obtain⟨_,hl,hok⟩:=chk_facts hc
 obtain⟨s1,s2,s3⟩:=ho.1
 obtain⟨x,hx⟩:∃x,its[i]? =some x:=⟨_,List.getElem?_eq_getElem s2⟩
 have hsub:(subs its).getD i true=false:=by
  rw[subs_getD hx]
  have:(its.getD i It.z).sub=false:=s3;rw[getD_it hx] at this
  exact this
 have hr:=(rt_of hc).ok i s2;unfold does;rw[if_pos ⟨s1,by rw[hl];exact s2,hsub⟩]
 have e:fOf l i=l.getD i Fa.z:=rfl
 rcases h' with ⟨rfl,rfl,h1⟩ | ⟨rfl,rfl,h1,h2⟩
 ·rw[e] at h1
  cases ok with
  | true=>
   have:fit 2 0 (l.getD i Fa.z)=some ⟨2,0,0,false⟩:=by unfold fit;rw[if_neg (by decide),if_pos rfl,if_pos h1]
   show (fit 2 0 (l.getD i Fa.z)).map _=_;rw[this]
   rfl
  | false=>
   have:fit 3 0 (l.getD i Fa.z)=some ⟨3,0,0,false⟩:=by unfold fit;rw[if_neg (by decide),if_neg (by decide),if_pos rfl,if_pos h1]
   show (fit 3 0 (l.getD i Fa.z)).map _=_;rw[this]
   rfl
 ·rw[e] at h1 h2 hr h3 ⊢
  cases ok with
  | true=>
   have:fit 5 (l.getD i Fa.z).slips (l.getD i Fa.z)=some ⟨2,(l.getD i Fa.z).tries,(l.getD i Fa.z).slips,true⟩:=by unfold fit;rw[if_neg (by decide),if_neg (by decide),if_neg (by decide),if_neg (by decide),if_pos rfl,if_pos ⟨h1,h2,rfl⟩]
   show (fit 5 (l.getD i Fa.z).slips (l.getD i Fa.z)).map _=_;rw[this]
   rfl
  | false=>
   have h9:=h3 rfl rfl;have h4:(l.getD i Fa.z).slips < 3:=by obtain⟨a1,a2,a3,a4,_⟩:=hr;omega
   have:fit 6 (l.getD i Fa.z).slips (l.getD i Fa.z)=some ⟨2,(l.getD i Fa.z).tries,(l.getD i Fa.z).slips+1,false⟩:=by unfold fit;rw[if_neg (by decide),if_neg (by decide),if_neg (by decide),if_neg (by decide),if_neg (by decide),if_pos rfl,if_pos ⟨h1,h2,rfl,h4⟩]
   show (fit 6 (l.getD i Fa.z).slips (l.getD i Fa.z)).map _=_;rw[this]
   rfl
end Go.Proofs.YtieoppabellafaaGreatDoor.St
namespace Go.Proofs.YtieoppabellafaaGreatDoor.St
open Fc Sx Sa
open Classical in
theorem ver_eq {its:List It}{l:List Fa}(hc:chkF its l=0):verS its l=if Dn (plOf its) (fOf l) 0 then 2 else if Sp (plOf its) (fOf l) 0 then 3 else 1:=by
 have hp:=lg_of hc;have hr:=rt_of hc;have h0:0 < (plOf its).n:=by have:=hp.ok.pos;omega
 have hS:St.S (plOf its) (fOf l) 0=sagaS (W (plOf its) (fOf l) 0) false:=by
  unfold St.S;rw[if_pos hp.ok.root,halted_root]
 unfold verS;rw[if_pos hc,hS]
 unfold sagaS
 by_cases ht:(W (plOf its) (fOf l) 0).touched=false
 ·have hn:¬(Dn (plOf its) (fOf l) 0∨Sp (plOf its) (fOf l) 0):=fun h=>by
   have h9:=over_touched hp hr _ 0 (Nat.le_refl _) h0 h;unfold To at h9;rw[ht] at h9
   cases h9
  rw[if_pos ht,if_pos rfl,if_neg (fun h=>hn (.inl h)),if_neg (fun h=>hn (.inr h))]
 ·rw[if_neg ht]
  by_cases hd:(W (plOf its) (fOf l) 0).done=true
  ·rw[if_pos hd,if_neg (by decide),if_pos (show Dn (plOf its) (fOf l) 0 from hd)]
  ·rw[if_neg hd,if_neg (show ¬Dn (plOf its) (fOf l) 0 from hd)]
   by_cases hs:(W (plOf its) (fOf l) 0).spent=true
   ·rw[if_pos hs,if_neg (by decide),if_pos (show Sp (plOf its) (fOf l) 0 from hs)]
   ·rw[if_neg hs,if_neg (show ¬Sp (plOf its) (fOf l) 0 from hs)]
    rfl
theorem may_none {its:List It}{l:List Fa}(h:∀i,¬MB (plOf its) (afOf its) (fOf l) i∧¬MU (plOf its) (afOf its) (fOf l) i):mayL its l=[]:=by
 refine List.eq_nil_iff_forall_not_mem.2 ?_;rintro⟨i,u,t⟩ hm
 rcases (may_iff.1 hm).2 with ⟨_,_,h9⟩ | ⟨_,_,h9⟩
 ·exact (h i).1 h9
 ·exact (h i).2 h9
theorem task_goes {its:List It}{l:List Fa}(h:Good its l) :
  (verS its l=1→mayL its l≠[]∨openL its l≠[])∧(verS its l=3→mayL its l=[]∧openL its l=[]∧∀i:Nat,i < its.length→cleS its l i=true)∧(verS its l≠1→mayL its l=[]):=by
 have hp:=lg_of h.chk;have hv:=h.inv;have hr:=hv.rt;have hve:=ver_eq h.chk;refine⟨fun h1=>?_,fun h3=>?_,fun hn=>?_⟩
 ·have hd:¬Dn (plOf its) (fOf l) 0:=fun h9=>by rw[hve,if_pos h9] at h1;exact absurd h1 (by decide)
  have hs:¬Sp (plOf its) (fOf l) 0:=fun h9=>by rw[hve,if_neg hd,if_pos h9] at h1;exact absurd h1 (by decide)
  obtain⟨i,hi⟩:=goes_on hp hv hd hs
  rcases hi with hi | hi | hi
  ·right
   have:∃u t,(i,u,t)∈openL its l:=by
    rcases hi.2 with h9 | ⟨h9,h8⟩
    ·exact⟨false,0,open_iff.2 ⟨h.chk,hi,.inl ⟨rfl,rfl,h9⟩⟩⟩
    ·exact⟨true,_,open_iff.2 ⟨h.chk,hi,.inr ⟨rfl,rfl,h9,h8⟩⟩⟩
   obtain⟨u,t,hm⟩:=this
   intro e;rw[e] at hm
   cases hm
  ·left
   have hm:(i,false,0)∈mayL its l:=may_iff.2 ⟨h.chk,.inl ⟨rfl,rfl,hi⟩⟩;intro e;rw[e] at hm
   cases hm
  ·left
   have hm:(i,true,(fOf l i).slips)∈mayL its l:=may_iff.2 ⟨h.chk,.inr ⟨rfl,rfl,hi⟩⟩;intro e;rw[e] at hm
   cases hm
 ·have hd:¬Dn (plOf its) (fOf l) 0:=fun h9=>by rw[hve,if_pos h9] at h3;exact absurd h3 (by decide)
  have hs:Sp (plOf its) (fOf l) 0:=by
   apply Classical.byContradiction
   intro h9;rw[hve,if_neg hd,if_neg h9] at h3
   exact absurd h3 (by decide)
  have he:=ends_spent hp hr hs;refine⟨may_none fun i=>⟨(he i).1,(he i).2.1⟩,?_,fun i hi=>?_⟩
  ·refine List.eq_nil_iff_forall_not_mem.2 ?_;rintro⟨i,u,t⟩ hm
   exact (he i).2.2.1 (open_iff.1 hm).2.1
  ·unfold cleS;rw[if_pos h.chk,decide_eq_true ⟨by omega,by omega⟩,Int.toNat_natCast]
   exact (he i).2.2.2 hi
 ·by_cases hd:Dn (plOf its) (fOf l) 0
  ·exact may_none fun i=>ends_done hp hv hd i
  ·have hs:Sp (plOf its) (fOf l) 0:=by
    apply Classical.byContradiction
    intro h9;rw[hve,if_neg hd,if_neg h9] at hn
    exact hn rfl
   exact may_none fun i=>⟨(ends_spent hp hr hs i).1,(ends_spent hp hr hs i).2.1⟩
theorem cle_of {its:List It}{l:List Fa}(hc:chkF its l=0){k:Nat}(hk:k < its.length)(h:Cl (plOf its) (fOf l) k):cleS its l k=true:=by
 unfold cleS;rw[if_pos hc,decide_eq_true ⟨by omega,by omega⟩,Int.toNat_natCast]
 exact h
theorem task_over {its:List It}{l:List Fa}{i:Nat}{t:Int}(hk:(i,true,t)∈mayL its l){k:Nat}(k1:1≤k)(k2:k < its.length)(ho:Ov (afOf its) i k):cleS its l k=true:=by
 obtain⟨hc,h9 | h9⟩:=may_iff.1 hk
 ·cases h9.1
 ·exact cle_of hc k2 (h9.2.2.2.2.2.1 k k1 k2 ho)
theorem task_begin {its:List It}{l:List Fa}{i:Nat}{t:Int}(hk:(i,false,t)∈mayL its l){a:Nat}(ha:a∈afOf its i) :
  (1≤a∧a < its.length)∧(St.S (plOf its) (fOf l) a=2∨(St.S (plOf its) (fOf l) a=3∧(plOf its).sub a=true∧(plOf its).vital a=false))∧∀t',(a,true,t')∉mayL its l:=by
 obtain⟨hc,h9 | h9⟩:=may_iff.1 hk
 ·obtain⟨o1,o2,o3⟩:=order_begin (lg_of hc) (rt_of hc) h9.2.2 ha
  refine⟨o1,o2,fun t' hm=>?_⟩
  rcases (may_iff.1 hm).2 with h8 | h8
  ·cases h8.1
  ·exact o3 h8.2.2
 ·cases h9.1
end Go.Proofs.YtieoppabellafaaGreatDoor.St
namespace Go.Proofs.YtieoppabellafaaGreatDoor
open Go.RowKit Go.Shelf Sx
theorem arcTo_at {its:List It} :∀(n:Nat) (p:Int × Int),p∈arcTo its n→∃(i:Nat) (x:It),its[i]? =some x∧p.2=(i:Int)∧p.1∈x.after
 | 0,p,h=>by cases h
 | n+1,p,h=>by
  rw[arcTo] at h
  rcases List.mem_append.1 h with h | h
  ·exact arcTo_at n p h
  ·cases hx:its[n]? with
   | none=>rw[hx] at h;cases h
   | some x=>
    rw[hx] at h
    obtain⟨on,ho,rfl⟩:=List.mem_map.1 h
    exact⟨n,x,hx,rfl,ho⟩
structure Ov (its:List It)(W o:List Nat):Prop where
 len:W.length=its.length
 few:W.length≤64
 ord:Dg.OrdOk W o
 olen:o.length=W.length
 step:∀f t,(W.getD t 0).testBit f=true→∃y,its[f]? =some y∧(t:Int)∈y.after
theorem ov_of {its:List It}{W o:List Nat}(h:Dg.weaveP (its.length:Int) (Dg.swapA (arcP its))= .ok W o):Ov its W o:=by
 obtain⟨hn,hW,hends,_,hWl,hO,hol⟩:=Dg.weave_facts h
 rw[Int.toNat_natCast] at hW hends hWl hol
 refine⟨hWl,by omega,hO,by omega,fun f t hb=>?_⟩
 rw[hW] at hb
 have h1:=((Dg.webOf_bit its.length _ hends t f).1 hb).1;have h2:=Dg.swapA_mem.1 h1;obtain⟨i,x,hx,hi,ho⟩:=arcTo_at _ _ h2
 obtain rfl:f=i:=by have:(f:Int)=(i:Int):=hi;omega
 exact⟨x,hx,ho⟩
theorem over_mem {its:List It}{W o:List Nat}(h:Ov its W o){j m:Nat}(hm:m∈overL (Dg.reachL W o) (j:Int)):j < its.length∧Dg.Chain W m j:=by
 unfold overL at hm
 split at hm
 ·rename_i hj
  rw[Int.toNat_natCast] at hm
  have hjl:j < (Dg.reachL W o).length:=by omega
  have hrl:(Dg.reachL W o).length=(Dg.reachP W o).length:=by simp[Dg.reachL]
  have hrp:(Dg.reachP W o).length=W.length:=by
   unfold Dg.reachP;have:=(Dg.reach_eq h.few h.ord o.length (Nat.le_refl _)).1;rw[List.take_length] at this
   exact this
  have e:(Dg.reachL W o).getD j []=Dg.bitsOf ((Dg.reachP W o).getD j 0):=by
   rw[List.getD_eq_getElem?_getD,List.getElem?_eq_getElem hjl,List.getD_eq_getElem?_getD,List.getElem?_eq_getElem (by omega)]
   simp[Dg.reachL]
  rw[e] at hm
  refine⟨by have:=h.len;omega,(Dg.reach_chain h.few h.ord h.olen (by omega) m).1 (Dg.of_bitsOf hm)⟩
 ·cases hm
end Go.Proofs.YtieoppabellafaaGreatDoor
namespace Go.Proofs.YtieoppabellafaaGreatDoor.St
open Fc Sx Sa
theorem Ov.step {af:Nat→List Nat}{i g k:Nat}(h:i∈af g)(ho:Ov af g k):Ov af i k:=by
 induction ho with
 | one hk=>exact .more hk (.one h)
 | more hk _ ih=>exact .more hk ih
theorem root_after {its:List It}{q:By × Tr}(h:sagaP its=some q):afOf its 0=[]:=by
 unfold sagaP at h
 split at h
 rotate_left
 ·cases h
 rename_i hc
 obtain⟨_,hp⟩:=hc
 obtain⟨p1,p2,p3,p4⟩:=planT_parts hp
 have h9:=its2_root (nameI its 0) (bodS its).len (xsT (bodS its) 0 0 0);rw[←p4] at h9
 unfold afOf;rw[getD_it h9]
 rfl
theorem af_mem {its:List It}{i:Nat}{x:It}(hx:its[i]? =some x){a:Nat}(h:(a:Int)∈x.after):a∈afOf its i:=by
 unfold afOf;rw[getD_it hx]
 exact List.mem_map.2 ⟨_,h,by simp⟩
theorem over_iff {its:List It}{q:By × Tr}(h:sagaP its=some q){j m:Nat}(hj:j < its.length):m∈overI its (j:Int)↔1≤m∧m < its.length∧Ov (afOf its) j m:=by
 have hp:=plan_leans h;obtain⟨_,_,_,_,W,o,hw⟩:=right_facts h
 have hO:=ov_of hw;have hov:overI its (j:Int)=overL (Dg.reachL W o) (j:Int):=by
  unfold overI ovT;rw[h,hw]
  rfl
 obtain⟨_,hW,hends,_,_,_,_⟩:=Dg.weave_facts hw
 rw[Int.toNat_natCast] at hW hends
 rw[hov]
 constructor
 ·intro hm;have hc:=(over_mem hO hm).2;have key:∀f t,Dg.Chain W f t→(1≤f∧f < its.length)∧Ov (afOf its) t f:=fun f t hc=>by
   induction hc with
   | @one t e=>
    obtain⟨y,hy,ha⟩:=hO.step _ _ e
    have hm:=af_mem hy ha;have hf:=(List.getElem?_eq_some_iff.1 hy).1;refine⟨⟨?_,hf⟩,.one hm⟩
    apply Classical.byContradiction
    intro h9;obtain rfl:f=0:=by omega
    rw[root_after h] at hm
    cases hm
   | @more g t _ e ih=>
    obtain⟨y,hy,ha⟩:=hO.step _ _ e
    exact⟨ih.1,Ov.step (af_mem hy ha) ih.2⟩
  exact⟨(key m j hc).1.1,(key m j hc).1.2,(key m j hc).2⟩
 ·rintro⟨m1,m2,ho⟩
  have bit:∀k a,1≤k→k < its.length→a∈afOf its k→(W.getD a 0).testBit k=true:=fun k a k1 k2 ha=>by
   obtain⟨_,a2,_⟩:=hp.ons k k1 k2 a ha
   obtain⟨x,hx⟩:∃x,its[k]? =some x:=⟨_,List.getElem?_eq_getElem k2⟩
   rw[hW]
   refine (Dg.webOf_bit its.length _ hends a k).2 ⟨Dg.swapA_mem.2 ?_,a2⟩;unfold afOf at ha;rw[getD_it hx] at ha
   obtain⟨z,hz,rfl⟩:=List.mem_map.1 ha
   have hz0:0≤z:=by
    have h9:=arcTo_mem hx hz _ k2;have h8:=List.all_eq_true.1 hends _ (Dg.swapA_mem.2 h9);unfold Dg.endsOk at h8;have h7:=of_decide_eq_true h8;omega
   have:=arcTo_mem hx hz _ k2;rw[show ((z.toNat:Nat):Int)=z by omega]
   exact this
  have key:∀k,Ov (afOf its) j k→1≤k→k < its.length→Dg.Chain W k j:=fun k ho=>by
   induction ho with
   | one hk=>intro k1 k2;exact .one (bit _ _ k1 k2 hk)
   | @more k a hk _ ih=>
    intro k1 k2;obtain⟨a1,a2,_⟩:=hp.ons k k1 k2 a hk
    exact Dg.Chain.trans (.one (bit _ _ k1 k2 hk)) (ih a1 a2)
  have hc:=key m ho m1 m2;have hrp:(Dg.reachP W o).length=W.length:=by
   unfold Dg.reachP;have:=(Dg.reach_eq hO.few hO.ord o.length (Nat.le_refl _)).1;rw[List.take_length] at this
   exact this
  have hrl:(Dg.reachL W o).length=W.length:=by rw[←hrp];simp[Dg.reachL]
  have hWl:=hO.len;unfold overL;rw[if_pos ⟨by omega,by omega⟩,Int.toNat_natCast]
  have e:(Dg.reachL W o).getD j []=Dg.bitsOf ((Dg.reachP W o).getD j 0):=by
   rw[List.getD_eq_getElem?_getD,List.getElem?_eq_getElem (by omega),List.getD_eq_getElem?_getD,List.getElem?_eq_getElem (by omega)]
   simp[Dg.reachL]
  rw[e]
  unfold Dg.bitsOf;have hf:=hO.few;exact List.mem_filter.2 ⟨List.mem_range.2 (by omega),(Dg.reach_chain hO.few hO.ord hO.olen (by omega) m).2 hc⟩
theorem an_iff {its:List It}{q:By × Tr}(h:sagaP its=some q){i:Nat}(h1:1≤i)(hi:i < its.length)(s:Nat):An (plOf its) i s↔s=(plOf its).inn i∨(1≤(plOf its).inn i∧An (plOf its) ((plOf its).inn i) s):=by
 constructor
 ·exact an_inn
 ·rintro (rfl | ⟨h2,ha⟩)
  ·exact .one
  ·induction ha with
   | one=>exact .up .one h2
   | @up t _ ht ih=>exact .up ih ht
theorem oc_iff {its:List It}{l:List Fa}(hc:chkF its l=0){i:Nat}(hi:i < its.length):Oc (plOf its) (afOf its) (fOf l) i↔∀m∈overI its (i:Int),cleS its l (m:Int)=true:=by
 obtain⟨⟨q,hq⟩,_⟩:=chk_facts hc
 constructor
 ·intro h m hm;obtain⟨m1,m2,ho⟩:=(over_iff hq hi).1 hm
  exact cle_of hc m2 (h m m1 m2 ho)
 ·intro h k k1 k2 ho;have h9:=h k ((over_iff hq hi).2 ⟨k1,k2,ho⟩);unfold cleS at h9;have hk2:k < its.length:=k2;rw[if_pos hc,decide_eq_true ⟨by omega,by omega⟩,Int.toNat_natCast] at h9
  exact h9
end Go.Proofs.YtieoppabellafaaGreatDoor.St
