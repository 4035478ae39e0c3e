/- Texts of the seat, packed: Ad Ae. -/
import Derived.Test.YtieoppabellafaaGreatDoorH01
import Derived.Test.YtieoppabellafaaGreatDoorH13
import Derived.Test.YtieoppabellafaaGreatDoorH09
import Derived.Test.YtieoppabellafaaGreatDoorH18
import Derived.Test.YtieoppabellafaaGreatDoorH22
import Derived.Maps.AppendAt
set_option maxRecDepth 1000000
set_option maxHeartbeats 64000000
set_option linter.unusedVariables false
namespace Go.Proofs.YtieoppabellafaaGreatDoor
open Go.RowKit Go.Shelf Sx
set_option linter.unusedSimpArgs false
theorem ivs_nat (l:List Nat):ivs (l.map fun (x:Nat)=>(x:Int))=Dg.ivs l:=by simp[ivs,Dg.ivs]
theorem CloneO_any (v:Value)(l:List Int)(w:World)(hl:RdZ w v l)(hn:l.length≤1000000) :
  Calls Tryz.prog 69 #[v] w fun e w'=>Below w.heap.size w w'∧∃u,e= .returned u∧w'.ownsRow w.heap.size 3 1 u l.length (ivs l):=by
 obtain⟨a,cap,rfl,hc,hr⟩:=hl
 obtain⟨i0,hi0,hz0,hz1,hz2⟩:=info_parts Dg.Tryz.info3
 cases a with
 | none=>
  have hl0:l=[]:=by
   cases l with
   | nil=>rfl
   | cons x l=>
    obtain⟨b,off,h9,_⟩:=hr 0 x rfl
    cases h9
  subst hl0;have HF:Hid (w.ownsRow w.heap.size 3 1 (.slice none 0 0) 0 (ivs [])):=zT _ _ _ _;clear hr;have hE:∀w,(binOp .eql 48 (.slice none 0 cap) (.slice none 0 0)).run Tryz.prog w= .ok (.bool true) w:=fun w=>Lib.run_eql_slice_nil w 48 3 none 0 cap 0 0 Tryz.underlying48
  go_enter Tryz.func69,Tryz.ntmps69
  go_wp2_with fail
  go_ret
  exact⟨Below.refl _ _,_,rfl,HF.out⟩
 | some ad=>
  have HNews:Hid (∀j u,(ivs l)[j]? =some u→(w.alloc (.cells #[] 3)).cell? (ad.add j)=some u):=by
   show ∀j u,_
   intro j u hu;simp only[ivs,zC,Option.map_eq_some_iff] at hu;obtain⟨x,hx,rfl⟩:=hu
   obtain⟨b,off,h9,h8⟩:=hr j x hx
   cases h9;have h7:(⟨b,off,none⟩:Addr).add j=⟨b,off+j,none⟩:=by unfold Addr.add;split <;> simp_all
   rw[h7]
   exact Dg.cell_later ((Below.refl _ _).alloc (jG _) _) h8
  have HOwn:Hid ((w.alloc (.cells #[] 3)).ownsRow w.heap.size 3 1 (.slice (some ⟨w.heap.size,0,none⟩) 0 0) 0 []):=
   ⟨rfl,.inr ⟨w.heap.size,0,#[],rfl,jG _,Dg.row_new _ _ _,jG _,zE _,rfl,rfl⟩⟩
  obtain⟨n,HN⟩:∃n,Hid (l.length=n):=⟨_,rfl⟩
  have HLn:Hid ((ivs l).length=n * 1):=by show _=_;rw[ivs,zG,HN.out,Nat.mul_one]
  have HOne:Hid (∀u∈ivs l,u.oneCell'=true):=by
   show ∀u∈ivs l,_
   intro u hu;obtain⟨x,_,rfl⟩:=zS.1 hu
   rfl
  rw[HN.out] at hn hc ⊢
  clear hr;have hE:∀w,(binOp .eql 48 (.slice (some ad) n cap) (.slice none 0 0)).run Tryz.prog w= .ok (.bool false) w:=fun w=>Lib.run_eql_slice_nil w 48 3 (some ad) n cap 0 0 Tryz.underlying48
  go_enter Tryz.func69,Tryz.ntmps69
  go_wp2_with (at_builtin;refine wpList_append_own_at _ rfl _ _ 48 rfl w.heap.size 3 i0 _ 1 8 Tryz.underlying48 hi0 hz0 hz1 hz2 rfl (by decide) _ 0 [] rfl HOwn.out ad n cap (ivs l) rfl HLn.out HNews.out HOne.out (by unfold maxLen;omega) (by omega) (by simp) ?_;intro v7 w7 ho7 hg7 _ hat7)
  have HB7:Hid (Below w.heap.size w w7):=Below.grown ((Below.refl _ _).alloc (jG _) _) hg7 (by simp) (fun k hk=>(HOwn.out.lt _ hk).1);have HF:Hid (w7.ownsRow w.heap.size 3 1 v7 n (ivs l)):=by have h9:=ho7;rw[zD,jL] at h9;exact h9
  clear ho7 hg7 hat7
  go_wp2_with fail
  go_ret
  exact⟨HB7.out,_,rfl,HF.out⟩
theorem OverO_any (b i:Nat)(its:List It)(ov:List (List Nat))(l:List Nat)(w:World)(h:VwAt w b its ov)(hi:ov[i]? =some l)(hn:l.length≤1000000) :
  Calls Tryz.prog 37 #[.pointer (some ⟨b,0,none⟩),.int .i64 i] w fun e w'=>Below w.heap.size w w'∧∃u,e= .returned u∧w'.ownsRow w.heap.size 3 1 u l.length (Dg.ivs l):=by
 have H1:Hid _:=h.has (i:Int);obtain⟨sv,ovv,h0,h1,_,⟨a,cap,rfl,hc,hr⟩,h4⟩:=h
 have hil:i < ov.length:=(jH.1 hi).1;obtain⟨c,off,u,rfl,hu,hz⟩:=hr i l hi
 have hd:decide (0≤(i:Int)∧(i:Int) < (its.length:Int))=true:=decide_eq_true ⟨by omega,by omega⟩;rw[hd] at H1
 have H2:Hid _:=CloneO_any u (l.map fun (x:Nat)=>(x:Int)) w (RdZ.of_rdI hz) (by simpa using hn);obtain⟨n,HN⟩:∃n,Hid (ov.length=n):=⟨_,rfl⟩
 rw[HN.out] at h1 hil hc
 clear hr hi hz hd h4
 go_enter Tryz.func37,Tryz.ntmps37
 go_wp2_with fail
 refine Calls.mono H1.out ?_;rintro e w1 ⟨rfl,rfl⟩
 go_wp2_with fail
 refine Calls.mono H2.out ?_;rintro e w2 ⟨hb,u2,rfl,hz2⟩;have HB:Hid _:=hb;have HZ:Hid _:=hz2;clear hb hz2 H1 H2
 go_wp2_with fail
 go_ret
 have h9:=HZ.out;rw[ivs_nat,zG] at h9
 exact⟨HB.out,_,rfl,h9⟩
theorem AboveO_any (b i:Nat)(its:List It)(ov:List (List Nat))(L:List Nat)(w:World)(h:VwAt w b its ov)(hi:i < its.length)(hU:Ups its i L)(hn:L.length≤100000) :
  Calls Tryz.prog 154 #[.pointer (some ⟨b,0,none⟩),.int .i64 i] w fun e w'=>Below w.heap.size w w'∧∃u,e= .returned u∧w'.ownsRow w.heap.size 3 1 u L.length (Dg.ivs L):=by
 have H1:Hid _:=h.has (i:Int);obtain⟨i0,hi0,hz0,hz1,hz2⟩:=info_parts Dg.Tryz.info3
 obtain⟨sv,ovv,h0,h1,⟨a,cap,rfl,hc,hr⟩,_,h4⟩:=h
 have hd:decide (0≤(i:Int)∧(i:Int) < (its.length:Int))=true:=decide_eq_true ⟨by omega,by omega⟩;rw[hd] at H1
 have HR:Hid _:=hr;have HU:Hid (∀k c,(i :: L)[k]? =some c→Ups its c (L.drop k)):=hU.drop;obtain⟨n,HN⟩:∃n,Hid (its.length=n):=⟨_,rfl⟩
 obtain⟨m,HM⟩:∃n,Hid (L.length=n):=⟨_,rfl⟩
 rw[HN.out] at h0 hi hc
 rw[HM.out] at hn
 have HO0:Hid (w.ownsRow w.heap.size 3 1 (.slice none 0 0) 0 (Dg.ivs (L.take 0))):=zT _ _ _ _;clear hr hd h4 h1 hU
 go_enter Tryz.func154,Tryz.ntmps154
 go_wp2_with fail
 refine Calls.mono H1.out ?_;rintro e w1 ⟨rfl,rfl⟩;clear H1
 go_wp2_with fail
 go_loopw [1,5] (fun iv lv wr=>∃(k c:Nat),k≤m∧iv= .int .i64 c∧(i :: L)[k]? =some c∧Hid (wr.ownsRow w1.heap.size 3 1 lv k (Dg.ivs (L.take k)))∧Hid (Below w1.heap.size w1 wr)) (fun iv _ _=>(intOf iv).toNat)
 case atStart=>exact⟨0,i,zE _,rfl,rfl,HO0,Below.refl _ _⟩
 case round=>
  obtain⟨k,c,hk,rfl,hkc,HO,HB⟩:=hrel
  have hu:=HU.out k c hkc;have hcur:∃D,L.drop k=D:=⟨_,rfl⟩
  obtain⟨D,hD⟩:=hcur
  rw[hD] at hu
  cases hu with
  | nil=>
   have hkm:k=m:=by
    have h9:=congrArg List.length hD;rw[List.length_drop,HM.out] at h9
    simp at h9;omega
   subst hkm;have HF:Hid (wr.ownsRow w1.heap.size 3 1 u5 L.length (Dg.ivs L)):=by
    have h9:=HO.out;rw[zR (by rw[HM.out];exact jG _),←HM.out] at h9
    exact h9
   clear hkc hD
   go_wp2_with fail
   go_ret
   exact⟨HB.out,_,rfl,HF.out⟩
  | @cons _ j x l hlt hx hj h=>
   have hLk:L[k]? =some j:=by
    have h9:(L.drop k)[0]? =some j:=by rw[hD];rfl
    rw[List.getElem?_drop,Nat.add_zero] at h9
    exact h9
   have hkm:k < m:=by rw[←HM.out];exact (jH.1 hLk).1
   have HK1:Hid ((i :: L)[k+1]? =some j):=hLk;have HT:Hid (Dg.ivs (L.take (k+1))=Dg.ivs (L.take k) ++ [.int .i64 (j:Int)]):=by
    show _=_;rw[zL,hLk]
    simp[Dg.ivs]
   have hcl:c < n:=by rw[←HN.out];exact (jH.1 hx).1
   obtain⟨b2,off,rfl,c0,c1⟩:=HR.out c x hx
   rw[hj] at c0
   have d0:=Dg.cell_later HB.out c0;have d1:=Dg.cell_later HB.out h0;have ho:=HO.out;have hz3:=HB.out.size;have hci:(c:Int) < (n:Int):=by omega
   have hc0:(0:Int) < (c:Int):=by omega
   obtain⟨A,HA⟩:∃A,Hid (Dg.ivs (L.take k)=A):=⟨_,rfl⟩
   rw[HA.out] at ho
   clear hkc hD h hx hj c0 c1 hLk
   go_wp2_with (at_builtin;refine wpList_append_own_at _ rfl _ _ 48 rfl w1.heap.size 3 i0 _ 1 8 Tryz.underlying48 hi0 hz0 hz1 hz2 rfl (by decide) _ k A rfl (ho.alloc _) ⟨wr.heap.size,0,none⟩ 1 1 [.int .i64 (j:Int)] rfl rfl (Dg.new_cells wr [.int .i64 (j:Int)] 3) (by simp[Value.oneCell']) (by unfold maxLen;omega) (by omega) (by simp;omega) ?_;intro v7 w7 ho7 hg7 _ hat7;obtain⟨g7,cap7,rfl⟩:=Dg.ownsRow_succ' ho7)
   have HB7:Hid (Below w1.heap.size w1 w7):=Below.grown (HB.out.alloc hz3 _) hg7 (by simp;omega) (fun k hk=>(ho.lt _ hk).1);have HO7:Hid (w7.ownsRow w1.heap.size 3 1 (.slice (some ⟨g7,0,none⟩) (k+1) cap7) (k+1) (Dg.ivs (L.take (k+1)))):=by
    show World.ownsRow _ _ _ _ _ _ _;rw[HT.out,HA.out]
    exact ho7
   clear ho hg7 hat7 ho7 HB HO
   go_wp2_with fail
   go_roundw
   case rel=>exact⟨k+1,j,by omega,rfl,HK1.out,HO7,HB7⟩
   case measure=>simp[intOf];omega
theorem OverO_all (b:Nat)(i:Int)(its:List It)(ov:List (List Nat))(w:World)(h:VwAt w b its ov)(hn:∀l∈ov,l.length≤1000000) :
  Calls Tryz.prog 37 #[.pointer (some ⟨b,0,none⟩),.int .i64 i] w fun e w'=>Below w.heap.size w w'∧∃u,e= .returned u∧w'.ownsRow w.heap.size 3 1 u (overL ov i).length (Dg.ivs (overL ov i)):=by
 have hlen:ov.length=its.length:=by obtain⟨_,_,_,_,_,_,h9⟩:=h;exact h9
 by_cases hi:0≤i∧i < (ov.length:Int)
 ·obtain⟨n,rfl⟩:∃n:Nat,i=(n:Int):=⟨i.toNat,by omega⟩
  obtain⟨l,hl⟩:∃l,ov[n]? =some l:=⟨_,jF (by omega)⟩
  have h9:=OverO_any b n its ov l w h hl (hn l (jS hl));unfold overL;rw[if_pos hi,j8,jU,hl]
  exact h9
 ·have h8:=h.has i;rw[decide_eq_false (by rw[←hlen];exact hi)] at h8
  refine Calls.mono (Over_no _ i w h8) ?_;rintro e w' ⟨rfl,rfl⟩;unfold overL;rw[if_neg hi]
  exact⟨Below.refl _ _,_,rfl,zT _ _ _ _⟩
end Go.Proofs.YtieoppabellafaaGreatDoor
namespace Go.Proofs.YtieoppabellafaaGreatDoor.Ts
open Go.RowKit Go.Shelf Fc St Sx Sa Rl
variable {its:List It}{l:List Fa}{P:OuP}{ob:Nat}{w:World}
def upsN (its:List It)(i:Nat):List Nat:=aboveL its (i:Int) ++ [i]
noncomputable def oversN (its:List It)(i:Nat):List Nat:=(upsN its i).flatMap fun (j:Nat)=>overI its (j:Int)
theorem stem_of {q:By × Tr}(hq:sagaP its=some q):Stem its:=by
 intro i x hx h0;obtain⟨_,hi⟩:=plan_items hq
 obtain⟨⟨j,a,y,e1,e2,e3⟩,_⟩:=hi i x hx h0
 have h3:=(plan_ok hq).inn i h0 (jH.1 hx).1;have h4:x.inn=((plOf its).inn i:Nat):=by
  show x.inn=((its.getD i It.z).inn.toNat:Int);rw[getD_it hx,e1]
  rfl
 omega
theorem ups_an {q:By × Tr}(hq:sagaP its=some q):∀f i,1≤i→i < its.length→i≤f→∀s,s∈upsF its f i↔An (plOf its) i s:=by
 intro f
 induction f with
 | zero=>intro i h1 _ h2;omega
 | succ f ih=>
  intro i h1 hi h2 s;obtain⟨x,hx⟩:∃x,its[i]? =some x:=⟨_,jF hi⟩
  have hinn:(plOf its).inn i=x.inn.toNat:=by show (its.getD i It.z).inn.toNat=_;rw[getD_it hx]
  have h3:=(plan_ok hq).inn i h1 hi;rw[upsF,if_neg (by omega),hx]
  simp only[zJ];rw[an_iff hq h1 hi,←hinn]
  by_cases h0:(plOf its).inn i=0
  ·rw[h0]
   have:upsF its f 0=[]:=by cases f <;> simp[upsF]
   rw[this]
   constructor
   ·rintro (h | h)
    ·exact .inl h
    ·cases h
   ·rintro (h | ⟨h,_⟩)
    ·exact .inl h
    ·omega
  ·rw[ih _ (by omega) (by omega) (by omega)]
   constructor
   ·rintro (h | h)
    ·exact .inl h
    ·exact .inr ⟨by omega,h⟩
   ·rintro (h | ⟨_,h⟩)
    ·exact .inl h
    ·exact .inr h
theorem over_root {q:By × Tr}(hq:sagaP its=some q)(hp:0 < its.length):overI its ((0:Nat):Int)=[]:=by
 have hl:=plan_leans hq;refine List.eq_nil_iff_forall_not_mem.2 fun m hm=>?_
 obtain⟨m1,m2,ho⟩:=(over_iff hq hp).1 hm
 have key:∀k,St.Ov (afOf its) 0 k→1≤k→k < its.length→False:=fun k ho=>by
  induction ho with
  | one hk=>intro k1 k2;have:=(hl.ons _ k1 k2 _ hk).1;omega
  | @more k a hk _ ih=>
   intro k1 k2;obtain⟨a1,a2,_⟩:=hl.ons _ k1 k2 _ hk
   exact ih a1 a2
 exact key m ho m1 m2
theorem bare_iff (hc:chkF its l=0){i:Nat}(h1:1≤i)(hi:i < its.length):baB its l i=true↔∀m∈oversN its i,cleS its l (m:Int)=true:=by
 obtain⟨⟨q,hq⟩,_⟩:=chk_facts hc
 have hab:∀s,s∈aboveL its (i:Int)↔An (plOf its) i s:=fun s=>by
  unfold aboveL;rw[if_pos ⟨by omega,by omega⟩,j8]
  exact ups_an hq _ i h1 hi (by omega) s
 have hlt:∀s,An (plOf its) i s→s < its.length:=fun s h=>by
  have h9:=(stem_ups (stem_of hq) its.length i hi (by omega));have key:∀s,An (plOf its) i s→s < its.length:=fun s h=>by
   induction h with
   | one=>have:=(plan_ok hq).inn i h1 hi;omega
   | @up t _ ht ih=>have:=(plan_ok hq).inn t ht ih;omega
  exact key s h
 rw[baB_iff]
 unfold oversN upsN;simp only[List.mem_flatMap,jX,zY]
 constructor
 ·rintro⟨h2,h3⟩ m ⟨j,hj | rfl,hm⟩
  ·have ha:=(hab j).1 hj
   by_cases hj0:j=0
   ·subst hj0;rw[over_root hq (by omega)] at hm
    cases hm
   ·exact (oc_iff hc (hlt j ha)).1 (h3 j ha (by omega)) m hm
  ·exact (oc_iff hc hi).1 h2 m hm
 ·intro h;refine⟨(oc_iff hc hi).2 fun m hm=>h m ⟨i,.inr rfl,hm⟩,fun s hs h1s=>(oc_iff hc (hlt s hs)).2 fun m hm=>h m ⟨s,.inl ((hab s).2 hs),hm⟩⟩
def RowT (T:Nat→Prop)(v:Value)(L:List Nat)(W:World):Prop:=∃a cap,v= .slice a L.length cap∧L.length≤cap∧∀(j x:Nat),L[j]? =some x→∃g,a=some ⟨g,0,none⟩∧T g∧g < W.heap.size∧W.cell? ⟨g,j,none⟩=some (.int .i64 (x:Int))
theorem RowT.of_own {W:World}{B:Nat}{T:Nat→Prop}{v:Value}{L:List Nat}(h:W.ownsRow B 3 1 v L.length (Dg.ivs L))(hT:∀g,B≤g→g < W.heap.size→T g):RowT T v L W:=by
 have h2:=h
 rcases h.2 with ⟨rfl,h0⟩ | ⟨g,cap,cur,rfl,hb,hh,q1,q2,_⟩
 ·have:L=[]:=by
   cases L with
   | nil=>rfl
   | cons x L=>simp at h0
  subst this;exact⟨none,0,rfl,jG _,fun j x hx=>by simp at hx⟩
 ·have hg:=(jD.1 hh).1;refine⟨_,cap,rfl,q1,fun j x hx=>⟨g,rfl,hT g hb hg,hg,?_⟩⟩
  have hj:=(jH.1 hx).1;have:=h2.cellAt j (by omega);rw[this]
  unfold Dg.ivs;rw[zC,hx]
  rfl
theorem RowT.keep {T T':Nat→Prop}{v:Value}{L:List Nat}{W W':World}(h:RowT T v L W)(hk:∀g,T g→g < W.heap.size→T' g∧W'.heap[g]? =W.heap[g]?)(hs:W.heap.size≤W'.heap.size):RowT T' v L W':=by
 obtain⟨a,cap,e,hc,hr⟩:=h
 refine⟨a,cap,e,hc,fun j x hx=>?_⟩
 obtain⟨g,ha,ht,hl,hcell⟩:=hr j x hx
 obtain⟨k1,k2⟩:=hk g ht hl
 exact⟨g,ha,k1,by omega,(zI (a:=⟨g,j,none⟩) k2).trans hcell⟩
structure OvS (w1 Ws:World)(J:Nat→World→(Nat→Prop)→Prop)(T0 T:Nat→Prop)(k:Nat)(W:World):Prop where
 j:J k W T
 bel:Below w1.heap.size w1 W
 own:∀b,T b→b < W.heap.size
 old:∀b,b < Ws.heap.size→(T b↔T0 b)
 sz:Ws.heap.size≤W.heap.size
theorem OvS.round {w1 Ws:World}{J:Nat→World→(Nat→Prop)→Prop}{T0 T:Nat→Prop}{k k':Nat}{W W':World}(h:OvS w1 Ws J T0 T k W)(hj:J k' W' T)(hr:Rl.Rv w1.heap.size T W W'):OvS w1 Ws J T0 T k' W':=
 ⟨hj,h.bel.trans hr.below,fun b hb=>jR (h.own b hb) hr.size,h.old,zH h.sz hr.size⟩
theorem OvS.more {w1 Ws:World}{J:Nat→World→(Nat→Prop)→Prop}{T0 T:Nat→Prop}{k:Nat}{W W':World}(h:OvS w1 Ws J T0 T k W)(hJ:∀k A TA B TB,J k A TA→Rl.Mv TA A TB B→J k B TB)(hb:Below W.heap.size W W'):OvS w1 Ws J T0 (fun b=>T b∨(W.heap.size≤b∧b < W'.heap.size)) k W':=by
 refine⟨hJ _ _ _ _ _ h.j (Rl.Mv.of_below_own hb),h.bel.trans (hb.mono h.bel.size),fun b hb'=>?_,fun b hb'=>?_,zH h.sz hb.size⟩
 ·rcases hb' with hb' | hb'
  ·exact jR (h.own b hb') hb.size
  ·exact hb'.2
 ·have:=h.sz;rw[←h.old b hb']
  exact⟨fun h=>h.resolve_right (by omega),.inl⟩
def encN (m:Nat)(_:Nat)(_:World)(_:Nat→Prop)(args:Array Value):Prop:=args= #[.int .i64 (m:Int)]
theorem drop_cons {α:Type}{xs:List α}{k:Nat}{x:α}{r:List α}(h:xs.drop k=x :: r):xs[k]? =some x∧xs.drop (k+1)=r∧k < xs.length:=by
 have h0:(xs.drop k)[0]? =some x:=by rw[h];rfl
 rw[List.getElem?_drop,Nat.add_zero] at h0
 refine⟨h0,?_,(jH.1 h0).1⟩
 rw[←List.drop_drop,h]
 rfl
theorem drop_all {α:Type}{xs:List α}{k:Nat}(h:xs.drop k=[])(hk:k≤xs.length):k=xs.length:=by
 have:=congrArg List.length h;rw[List.length_drop] at this
 simp at this;omega
theorem push_n {W:World}{B:Nat}{u:Value}{A:List Nat}(h:W.ownsRow B 3 1 u A.length (Dg.ivs A))(hB:B≤W.heap.size)(hA:A.length≤1000000){sb i:Nat}(hs:W.cell? ⟨sb,0,none⟩=some (.int .i64 (i:Int))) :
  ∃g cap W3,(Builtin.append_ #[48,48] 48 #[u,.slice (some ⟨sb,0,none⟩) 1 1]).run Tryz.prog W= .ok (.slice (some ⟨g,0,none⟩) (A.length+1) cap) W3∧W3.ownsRow B 3 1 (.slice (some ⟨g,0,none⟩) (A.length+1) cap) (A.length+1) (Dg.ivs (A ++ [i]))∧Below B W W3:=by
 obtain⟨i0,hi0,hz0,hz1,hz2⟩:=info_parts Dg.Tryz.info3
 obtain⟨v',W',r1,r2,r3,r4,r5⟩:=run_append_own_at (P:=Tryz.prog) W B 48 48 3 i0 _ 1 8 Tryz.underlying48 hi0 hz0 hz1 hz2 rfl (by decide) u A.length (Dg.ivs A) h ⟨sb,0,none⟩ 1 1 [.int .i64 (i:Int)] rfl
  (by
   intro j v hj;have h7:(⟨sb,0,none⟩:Addr).add j=⟨sb,j,none⟩:=by unfold Addr.add;split <;> simp_all
   rw[h7]
   cases j with
   | zero=>cases hj;exact hs
   | succ j=>simp at hj)
  (by intro v hv;simp only[zJ,List.not_mem_nil,or_false] at hv;subst hv;rfl) (by unfold maxLen;omega) (by omega) hB
 have r2':W'.ownsRow B 3 1 v' (A.length+1) (Dg.ivs (A ++ [i])):=by
  have:Dg.ivs (A ++ [i])=Dg.ivs A ++ [.int .i64 (i:Int)]:=by simp[Dg.ivs]
  rw[this]
  exact r2
 have hbel:Below B W W':=⟨r3.os,r3.tape,r3.output,r3.size,fun k hk=>r3.block k (by omega) (fun e=>by have:=(World.ownsRow.lt h k e.symm).1;omega)⟩;obtain⟨g,cap,rfl⟩:=Dg.ownsRow_succ' r2'
 exact⟨g,cap,W',r1,r2',hbel⟩
attribute [local go_sem] Oper.semAt_some
theorem over_itr {w1:World}{bo bi i:Nat}(m0:Nat)(h:Ou its l P ob w1)(hbo:Boxed w1 bo 70 (.pointer (some ⟨ob,0,none⟩)))(hbi:Boxed w1 bi 3 (.int .i64 (i:Int)))(hi:i < its.length) :
  Rl.Itr Tryz.prog 153 #[.pointer (some ⟨bo,0,none⟩),.pointer (some ⟨bi,0,none⟩)] encN (oversN its i) w1.heap.size m0 (fun _=>False) w1:=by
 intro li J Jx W hW hJ hJx hY hJ0;obtain⟨q,hq⟩:=h.right
 have hst:=stem_of hq;have hfew:=h.few;have HY:Hid _:=hY;have HJ:Hid _:=hJ;have H0:Hid (OvS w1 W J (fun _=>False) (fun _=>False) 0 W):=⟨hJ0,hW,fun _ h=>h.elim,fun _ _=>Iff.rfl,jG _⟩;have HOU:Hid (∀wx,Below w1.heap.size w1 wx→Ou its l P ob wx):=fun wx hb=>h.later hb
 have HBO:Hid (∀wx,Below w1.heap.size w1 wx→Boxed wx bo 70 (.pointer (some ⟨ob,0,none⟩))):=fun wx hb=>(hb.block bo hbo.lt).trans hbo
 have HBI:Hid (∀wx,Below w1.heap.size w1 wx→Boxed wx bi 3 (.int .i64 (i:Int))):=fun wx hb=>(hb.block bi hbi.lt).trans hbi
 have HAB:Hid (∀wx,Below w1.heap.size w1 wx→Calls Tryz.prog 154 #[.pointer (some ⟨P.vb,0,none⟩),.int .i64 (i:Int)] wx fun e w'=>Below wx.heap.size wx w'∧∃u,e= .returned u∧w'.ownsRow wx.heap.size 3 1 u (aboveL its (i:Int)).length (Dg.ivs (aboveL its (i:Int)))):=fun wx hb=>by
  have hl:=ups_len its its.length i;unfold aboveL;rw[if_pos ⟨by omega,by omega⟩,j8]
  exact AboveO_any P.vb i its P.ov (upsF its its.length i) wx (h.later hb).vw hi (stem_ups hst its.length i hi (by omega)) (by omega)
 have HAL:Hid ((aboveL its (i:Int)).length≤64):=by
  have hl:=ups_len its its.length i;show _≤_;unfold aboveL
  split
  ·rw[j8];omega
  ·simp
 have HOV:Hid (∀wx (j:Nat),Below w1.heap.size w1 wx→Calls Tryz.prog 37 #[.pointer (some ⟨P.vb,0,none⟩),.int .i64 (j:Int)] wx fun e w'=>Below wx.heap.size wx w'∧∃u,e= .returned u∧w'.ownsRow wx.heap.size 3 1 u (overI its (j:Int)).length (Dg.ivs (overI its (j:Int)))):=fun wx j hb=>by
  rw[←h.ovI]
  exact OverO_all P.vb (j:Int) its P.ov wx (h.later hb).vw h.ovS
 have HOL:Hid (∀j:Nat,(overI its (j:Int)).length≤1000000):=fun j=>by
  rw[←h.ovI]
  unfold overL
  split
  ·rw[jU]
   cases hg:P.ov[((j:Nat):Int).toNat]? with
   | none=>simp
   | some x=>exact h.ovS x (jS hg)
  ·simp
 obtain⟨xs,HX⟩:∃xs,Hid (xs=oversN its i):=⟨_,rfl⟩
 rw[←HX.out] at HY ⊢
 obtain⟨U,HU⟩:∃U,Hid (U=upsN its i):=⟨_,rfl⟩
 have HXU:Hid (xs.drop 0=(U.drop 0).flatMap (fun (j:Nat)=>overI its (j:Int))∧0≤xs.length):=⟨by rw[HX.out,HU.out];rfl,zE _⟩;have HUA:Hid (U=aboveL its (i:Int) ++ [i]):=HU.out;obtain⟨R,HR⟩:∃R:Ending→World→Prop,Hid (R=fun e W2=>∃v T2,e= .returned v∧(J xs.length W2 T2∨∃k,k < xs.length∧Jx (k+1) W2 T2)∧(∀b,b < W.heap.size→(T2 b↔False))∧(∀b,T2 b→b < W2.heap.size)):=⟨_,rfl⟩
 rw[←HR.out]
 have HB0:Hid (Below w1.heap.size w1 W):=hW;clear h hbo hbi hJ hJx hY hJ0 hW hq hst;generalize aboveL its (i:Int)=A at *;refine callsIn_of_wp Tryz.func153 rfl trivial ?_ rfl;simp only[Tryz.ntmps153,jN,jM,jP,Nat.reduceAdd,Nat.reduceSub,jI,jJ,jO,zN,jL,jK]
 gi_wp2
 refine wpIn_wide.2 ?_;have hS0:Below w1.heap.size w1 W.drew:=HB0.out.drew;refine region_thenG (β:=Value × Nat × Nat × Nat) (fun z=>[(8,.pointer (some ⟨ob,0,none⟩)),(9,.pointer (some ⟨ob,0,none⟩)),(10,.pointer (some ⟨ob,2,none⟩)),(11,.pointer (some ⟨P.vb,0,none⟩)),(12,.int .i64 (i:Nat)),(13,z.1),(14,.int .i64 (i:Nat)),(15,.slice (some ⟨z.2.1,0,none⟩) 1 1),(16,.slice (some ⟨z.2.2.1,0,none⟩) (A.length+1) z.2.2.2),(17,.int .i64 ((A.length+1:Nat):Int)),(18,.int .i64 0)]) (fun z w'=>Below w1.heap.size w1 w'∧Below W.heap.size W w'∧∃B,W.heap.size≤B∧w'.ownsRow B 3 1 (.slice (some ⟨z.2.2.1,0,none⟩) (A.length+1) z.2.2.2) (A.length+1) (Dg.ivs (A ++ [i]))) ?_ ?_
 ·refine wp_region_held (S:=fun w'=>Below w1.heap.size w1 w') (by kernel_rfl) ?_;simp only[jN,jM,jP,Nat.reduceAdd,jI,jJ,jO,jL,jK];refine tV 0 8 (.pointer (some ⟨ob,0,none⟩)) 10 rfl hS0 ?_ (fun wx h=>by have y0:=(HBO.out wx h).cell;go_simp);refine tG 1 9 (.pointer (some ⟨ob,0,none⟩)) 9 rfl hS0 ?_;refine tG 2 10 (.pointer (some ⟨ob,2,none⟩)) 8 rfl hS0 ?_;refine tV 3 11 (.pointer (some ⟨P.vb,0,none⟩)) 7 rfl hS0 ?_ (fun wx h=>by have y0:=(HOU.out wx h).c2;go_simp);refine tV 4 12 (.int .i64 (i:Nat)) 6 rfl hS0 ?_ (fun wx h=>by have y0:=(HBI.out wx h).cell;go_simp);refine tV 6 14 (.int .i64 (i:Nat)) 5 rfl hS0 ?_ (fun wx h=>by have y0:=(HBI.out wx h).cell;go_simp);refine tK 10 18 (.int .i64 0) 4 rfl hS0 ?_;refine wpAnyH_all (fuel:=3) (rs:=[5,7]) (by kernel_rfl) (by decide) ?_;refine zW.2 ⟨?_,jE.2 ?_⟩
  ·refine wpOp_calls (i:=5) (d:=13) rfl rfl (by kernel_rfl) (f:=154) (args:= #[.pointer (some ⟨P.vb,0,none⟩),.int .i64 (i:Nat)]) (by kernel_rfl) _ (HAB.out _ hS0) ?_ (fun _ _ h=>by obtain⟨_,u,h,_⟩:=h;cases h) (fun _ h=>by obtain⟨_,u,h,_⟩:=h;cases h);rintro vA W2 ⟨hb2,u,hu,ho⟩;cases hu;have HB2:Hid (Below w1.heap.size w1 W2):=hS0.trans (hb2.mono hS0.size);refine⟨HB2.out,?_⟩
   simp only[jA,jB,jC];refine wpAnyH_all (fuel:=2) (rs:=[7]) (by kernel_rfl) (by decide) ?_;refine jE.2 ?_;obtain⟨sb9,hsb9⟩:∃sb9,W2.heap.size=sb9:=⟨_,rfl⟩
   have hbA:=bl1 W2 (.cells #[.int .i64 (i:Nat)] 3);refine wpOp_value (i:=7) (d:=15) (v:= .slice (some ⟨sb9,0,none⟩) 1 1) (w':=W2.alloc (.cells #[.int .i64 (i:Nat)] 3)) rfl rfl (by kernel_rfl) (by rw[←hsb9];go_simp) ?_;refine⟨HB2.out.trans (hbA.mono HB2.out.size),?_⟩
   simp only[jA,jB,jC];obtain⟨g3,cap3,W3,hr3,ho3,hb3⟩:=push_n (W:=W2.alloc (.cells #[.int .i64 (i:Nat)] 3)) (own_below ho hbA) (zH hb2.size hbA.size) (by have:=HAL.out;omega) (sb:=sb9) (i:=i) (by rw[←hsb9];exact (Dg.cell_row (Dg.row_new W2 #[.int .i64 (i:Nat)] 3) 0).trans rfl)
   have HB3:Hid (Below w1.heap.size w1 W3∧Below W.heap.size W W3∧∃B,W.heap.size≤B∧W3.ownsRow B 3 1 (.slice (some ⟨g3,0,none⟩) (A.length+1) cap3) (A.length+1) (Dg.ivs (A ++ [i]))):=by
    have q1:Below W.drew.heap.size W.drew W3:=(hb2.trans (hbA.mono hb2.size)).trans hb3;exact⟨hS0.trans (q1.mono hS0.size),((Below.refl W.heap.size W).drew).trans q1,W.drew.heap.size,jG _,ho3⟩
   refine wpAnyH_all (fuel:=1) (rs:=[8]) (by kernel_rfl) (by decide) ?_;refine jE.2 ?_;refine wpOp_value (i:=8) (d:=16) (v:= .slice (some ⟨g3,0,none⟩) (A.length+1) cap3) (w':=W3) rfl rfl (by kernel_rfl) (by simp[execOp,resolve,invoke,builtin,hr3,Result.andThen,Act.eval]) ?_;refine⟨HB3.out.1,?_⟩
   simp only[jA,jB,jC];refine wpAnyH_all (fuel:=0) (rs:=[9]) (by kernel_rfl) (by decide) ?_;refine jE.2 ?_;refine wpOp_value (i:=9) (d:=17) (v:= .int .i64 ((A.length+1:Nat):Int)) (w':=W3) rfl rfl (by kernel_rfl) (by go_simp) ?_;refine⟨HB3.out.1,?_⟩
   simp only[jA,jB,jC];refine wpAnyH_done (by kernel_rfl) ?_ _;exact⟨rfl,⟨vA,sb9,g3,cap3⟩,by kernel_rfl,HB3.out⟩
  ·have hbA:=bl1 W.drew (.cells #[.int .i64 (i:Nat)] 3);obtain⟨sb9,hsb9⟩:∃sb9,W.drew.heap.size=sb9:=⟨_,rfl⟩
   refine wpOp_value (i:=7) (d:=15) (v:= .slice (some ⟨sb9,0,none⟩) 1 1) (w':=W.drew.alloc (.cells #[.int .i64 (i:Nat)] 3)) rfl rfl (by kernel_rfl) (by rw[←hsb9];go_simp) ?_;have HB1:Hid (Below w1.heap.size w1 (W.drew.alloc (.cells #[.int .i64 (i:Nat)] 3))):=hS0.trans (hbA.mono hS0.size);refine⟨HB1.out,?_⟩
   simp only[jA,jB,jC];refine wpAnyH_all (fuel:=2) (rs:=[5]) (by kernel_rfl) (by decide) ?_;refine jE.2 ?_;refine wpOp_calls (i:=5) (d:=13) rfl rfl (by kernel_rfl) (f:=154) (args:= #[.pointer (some ⟨P.vb,0,none⟩),.int .i64 (i:Nat)]) (by kernel_rfl) _ (HAB.out _ HB1.out) ?_ (fun _ _ h=>by obtain⟨_,u,h,_⟩:=h;cases h) (fun _ h=>by obtain⟨_,u,h,_⟩:=h;cases h);rintro vA W2 ⟨hb2,u,hu,ho⟩;cases hu;have HB2:Hid (Below w1.heap.size w1 W2):=HB1.out.trans (hb2.mono HB1.out.size);refine⟨HB2.out,?_⟩
   simp only[jA,jB,jC];have hce:W2.cell? ⟨sb9,0,none⟩=some (.int .i64 (i:Nat)):=Dg.cell_later hb2 (by rw[←hsb9];exact (Dg.cell_row (Dg.row_new W.drew #[.int .i64 (i:Nat)] 3) 0).trans rfl);obtain⟨g3,cap3,W3,hr3,ho3,hb3⟩:=push_n (W:=W2) ho hb2.size (by have:=HAL.out;omega) (sb:=sb9) (i:=i) hce
   have HB3:Hid (Below w1.heap.size w1 W3∧Below W.heap.size W W3∧∃B,W.heap.size≤B∧W3.ownsRow B 3 1 (.slice (some ⟨g3,0,none⟩) (A.length+1) cap3) (A.length+1) (Dg.ivs (A ++ [i]))):=by
    have q1:Below W.drew.heap.size W.drew W3:=(hbA.trans (hb2.mono hbA.size)).trans (hb3.mono hbA.size);exact⟨hS0.trans (q1.mono hS0.size),((Below.refl W.heap.size W).drew).trans q1,_,hbA.size,ho3⟩
   refine wpAnyH_all (fuel:=1) (rs:=[8]) (by kernel_rfl) (by decide) ?_;refine jE.2 ?_;refine wpOp_value (i:=8) (d:=16) (v:= .slice (some ⟨g3,0,none⟩) (A.length+1) cap3) (w':=W3) rfl rfl (by kernel_rfl) (by simp[execOp,resolve,invoke,builtin,hr3,Result.andThen,Act.eval]) ?_;refine⟨HB3.out.1,?_⟩
   simp only[jA,jB,jC];refine wpAnyH_all (fuel:=0) (rs:=[9]) (by kernel_rfl) (by decide) ?_;refine jE.2 ?_;refine wpOp_value (i:=9) (d:=17) (v:= .int .i64 ((A.length+1:Nat):Int)) (w':=W3) rfl rfl (by kernel_rfl) (by go_simp) ?_;refine⟨HB3.out.1,?_⟩
   simp only[jA,jB,jC];refine wpAnyH_done (by kernel_rfl) ?_ _;exact⟨rfl,⟨vA,sb9,g3,cap3⟩,by kernel_rfl,HB3.out⟩
 ·rintro⟨u9,sb9,g,cap⟩ Wa hF
  simp only[setAll,jA,jB,jC];obtain⟨hf1,hf2,B,hf3,hf4⟩:=hF
  have HUL:Hid (U.length=A.length+1):=by show _=_;rw[HUA.out];simp
  have HO1:Hid _:=OvS.more H0.out HJ.out hf2;have HR1:Hid (RowT (fun b=>False∨(W.heap.size≤b∧b < Wa.heap.size)) (.slice (some ⟨g,0,none⟩) (A.length+1) cap) U Wa):=by
   have h9:=hf4;rw[←HUA.out,←HUL.out] at h9
   rw[←HUL.out]
   exact RowT.of_own h9 (fun b h1 h2=> .inr ⟨by omega,h2⟩)
  obtain⟨nU,HNU⟩:∃nU,Hid (A.length+1=nU):=⟨_,rfl⟩
  have hnU:nU≤1000:=by have:=HNU.out;have:=HAL.out;omega
  rw[HNU.out] at HR1 HUL ⊢
  clear hf1 hf2 hf3 hf4 H0 hS0;generalize (fun b=>False∨(W.heap.size≤b∧b < Wa.heap.size))=Ta at HO1 HR1
  gi_wp2
  gi_loopw [18] (fun iv wr=>∃(a k:Nat) (T:Nat→Prop),iv= .int .i64 a∧a≤nU∧Hid (OvS w1 W J (fun _=>False) T k wr)∧Hid (RowT T (.slice (some ⟨g,0,none⟩) nU cap) U wr)∧Hid (xs.drop k=(U.drop a).flatMap (fun (j:Nat)=>overI its (j:Int))∧k≤xs.length)) (fun iv _=>nU - (intOf iv).toNat)
  case atStart=>exact⟨0,0,Ta,rfl,zE _,HO1,HR1,HXU⟩
  case round=>
   obtain⟨a,k,T,rfl,ha,HF,HRU,HD⟩:=hrel
   rename World=>wr
   clear HO1 HR1 HXU
   by_cases hlt:a < nU
   ·obtain⟨j,hj⟩:∃j,U[a]? =some j:=⟨_,jF (by rw[HUL.out];exact hlt)⟩
    have hcell:wr.cell? ⟨g,a,none⟩=some (.int .i64 (j:Nat)):=by
     obtain⟨a9,c9,e9,_,hr⟩:=HRU.out
     obtain⟨g9,e8,_,_,hc⟩:=hr a j hj
     injection e9 with e7
     rw[←e7] at e8
     cases e8;exact hc
    have HDJ:Hid (xs.drop k=overI its (j:Int) ++ (U.drop (a+1)).flatMap (fun (j:Nat)=>overI its (j:Int))∧k≤xs.length):=by
     refine⟨?_,HD.out.2⟩
     rw[HD.out.1]
     obtain⟨hl,rfl⟩:=jH.1 hj
     rw[zU hl,List.flatMap_cons]
    obtain⟨rest,HREST⟩:∃rest,Hid (rest=(U.drop (a+1)).flatMap (fun (j:Nat)=>overI its (j:Int))):=⟨_,rfl⟩
    rw[←HREST.out] at HDJ
    have y0:=(HBO.out wr HF.out.bel).cell;have y2:=(HOU.out wr HF.out.bel).c2;have HC:Hid _:=HOV.out wr j HF.out.bel;have HOJ:Hid _:=HOL.out j;have hai:(a:Int) < (nU:Int):=by omega
    clear hj HD;generalize overI its (j:Int)=O at *
    gi_wp2
    refine⟨trivial,rfl,(callsIn_wide.2 HC.out).mono ?_⟩
    rintro e w3 ⟨hb3,u,rfl,ho⟩;clear y0 y2 HC hcell;have HF3:Hid _:=OvS.more HF.out HJ.out hb3;have HRU3:Hid (RowT (fun b=>T b∨(wr.heap.size≤b∧b < w3.heap.size)) (.slice (some ⟨g,0,none⟩) nU cap) U w3):=HRU.out.keep (fun b hb hl=>⟨.inl hb,hb3.block b hl⟩) hb3.size;have HRO3:Hid (RowT (fun b=>T b∨(wr.heap.size≤b∧b < w3.heap.size)) u O w3):=RowT.of_own ho (fun b h1 h2=> .inr ⟨h1,h2⟩);obtain⟨ua,uc,rfl,_⟩:=HRO3.out
    obtain⟨m,HM⟩:∃m,Hid (O.length=m):=⟨_,rfl⟩
    have hmb:m≤1000000:=by rw[←HM.out];exact HOJ.out
    rw[HM.out] at HRO3 ⊢
    clear ho hb3 HF HRU;generalize (fun b=>T b∨(wr.heap.size≤b∧b < w3.heap.size))=T2 at HF3 HRU3 HRO3;have HDZ:Hid (xs.drop k=O.drop 0 ++rest∧k≤xs.length):=HDJ.out;clear HDJ
    gi_wp2
    gi_loopw [29] (fun iv wq=>∃(b k2:Nat),iv= .int .i64 b∧b≤m∧Hid (OvS w1 W J (fun _=>False) T2 k2 wq)∧Hid (RowT T2 (.slice (some ⟨g,0,none⟩) nU cap) U wq)∧Hid (RowT T2 (.slice ua m uc) O wq)∧Hid (xs.drop k2=O.drop b ++rest∧k2≤xs.length)) (fun iv _=>m - (intOf iv).toNat)
    case atStart=>exact⟨0,k,rfl,zE _,HF3,HRU3,HRO3,HDZ⟩
    case round=>
     obtain⟨b,k2,rfl,hb,HF4,HRU4,HRO4,HD4⟩:=hrel
     rename World=>wq
     clear HF3 HRU3 HRO3 HDZ
     by_cases hbm:b < m
     ·obtain⟨x,hx⟩:∃x,O[b]? =some x:=⟨_,jF (by rw[HM.out];exact hbm)⟩
      have hcell:∃g9,ua=some ⟨g9,0,none⟩∧wq.cell? ⟨g9,b,none⟩=some (.int .i64 (x:Nat)):=by
       obtain⟨a9,c9,e9,_,hr⟩:=HRO4.out
       obtain⟨g9,e8,_,_,hc⟩:=hr b x hx
       injection e9 with e7
       exact⟨g9,e7.trans e8,hc⟩
      obtain⟨g9,rfl,z0⟩:=hcell
      have hdc:xs.drop k2=x :: (O.drop (b+1) ++rest):=by
       rw[HD4.out.1]
       obtain⟨hl,rfl⟩:=jH.1 hx
       rw[zU hl,jK]
      obtain⟨h1,h2,h3⟩:=drop_cons hdc
      have HD5:Hid (xs.drop (k2+1)=O.drop (b+1) ++rest∧k2+1≤xs.length):=⟨h2,h3⟩;have HK2:Hid (k2 < xs.length):=h3;obtain⟨fnn,tms,asg,bdy,hy,hR⟩:=HY.out k2 x #[.int .i64 (x:Int)] wq.heap.size wq T2 h1 rfl ⟨wq,T2,HF4.out.j,rfl,Rl.Mv.refl _ _⟩ HF4.out.j HF4.out.own 0
      have hbi:(b:Int) < (m:Int):=by omega
      clear hx hdc h1 h2 h3 HD4
      gi_wp2
      refine⟨rfl,hR.mono ?_⟩
      rintro e W5 ⟨t,rfl,ht1,ht2⟩;cases t with
      | true=>
       obtain⟨hj5,hrv⟩:=ht1 rfl
       have HF5:Hid _:=HF4.out.round hj5 hrv;have HRU5:Hid (RowT T2 (.slice (some ⟨g,0,none⟩) nU cap) U W5):=HRU4.out.keep (fun b hb hl=>⟨hb,hrv.keep b hb hl⟩) hrv.size;have HRO5:Hid (RowT T2 (.slice (some ⟨g9,0,none⟩) m uc) O W5):=HRO4.out.keep (fun b hb hl=>⟨hb,hrv.keep b hb hl⟩) hrv.size;clear ht1 ht2 hrv hj5 hy hR HF4 HRU4 HRO4 z0
       gi_wp2
       go_roundw
       case rel=>exact⟨b+1,k2+1,by go_num,by omega,HF5,HRU5,HRO5,HD5⟩
       case measure=>simp[intOf] <;> omega
      | false=>
       obtain⟨hj5,hrv⟩:=ht2 rfl
       have HJ5:Hid _:=hj5;have HF5:Hid (∀b,T2 b→b < W5.heap.size):=fun b hb=>jR (HF4.out.own b hb) hrv.size
       have HOLD:Hid _:=HF4.out.old;clear ht1 ht2 hrv hj5 hy hR HF4 HRU4 HRO4 z0
       gi_wp2
       refine bodyPost_ret (results_none rfl _ _) rfl ?_;rw[HR.out]
       exact⟨_,T2,rfl,.inr ⟨k2,HK2.out,HJ5.out⟩,HOLD.out,HF5.out⟩
     ·obtain rfl:b=m:=by omega
      have HD5:Hid (xs.drop k2=(U.drop (a+1)).flatMap (fun (j:Nat)=>overI its (j:Int))∧k2≤xs.length):=by
       refine⟨?_,HD4.out.2⟩
       rw[HD4.out.1,←HREST.out,List.drop_eq_nil_of_le (by rw[HM.out];exact jG _)]
       rfl
      clear HD4
      gi_wp2
      go_roundw
      case rel=>exact⟨a+1,k2,T2,by go_num,by omega,HF4,HRU4,HD5⟩
      case measure=>simp[intOf] <;> omega
   ·have HKX:Hid (k=xs.length):=by
     refine drop_all ?_ HD.out.2;rw[HD.out.1,List.drop_eq_nil_of_le (by rw[HUL.out];omega)]
     rfl
    gi_wp2
    refine bodyPost_ret (results_none rfl _ _) rfl ?_;rw[HR.out]
    refine⟨_,T,rfl,.inl ?_,HF.out.old,HF.out.own⟩
    have:=HF.out.j;rw[HKX.out] at this
    exact this
end Go.Proofs.YtieoppabellafaaGreatDoor.Ts
