/- Texts of the seat, packed: Yd Ye Yf Yg. -/
import Derived.Test.YtieoppabellafaaGreatDoorH01
import Derived.Test.YtieoppabellafaaGreatDoorH11
set_option maxRecDepth 1000000
set_option maxHeartbeats 64000000
set_option linter.unusedVariables false
namespace Go.Proofs.YtieoppabellafaaGreatDoor
open Go.RowKit Go.Shelf Sx
theorem inf68:(Tryz.prog.info? 104).map (fun i=>(i.zero,i.size,i.bytes))=some (some (.agg #[.string ⟨#[]⟩,.string ⟨#[]⟩,.slice none 0 0,.bool false,.bool false,.slice none 0 0]),6,88):=by kernel_rfl
def ndV (l:Lab)(sv:Option Addr)(sm sc:Nat)(av:Option Addr)(am ac:Nat):List Value:=[.string ⟨l.name.toArray⟩,.string ⟨l.undo.toArray⟩,.slice sv sm sc,.bool l.sub,.bool l.vital,.slice av am ac]
theorem VRd.snoc {P:Nat→Prop}{w:World}{l:Lab}{t:Tr}{sv:Option Addr}{sm sc:Nat}{av:Option Addr}{am ac:Nat}(hs:SAt P w l.after sv sm)(ht:TAt P w true t av 0 am):∀(ks:List (Lab × Tr)) (vs:List (List Value)),VRd P w false (nodesL ks) vs→VRd P w false (nodesL (ks ++ [(l,t)])) (vs ++ [ndV l sv sm sc av am ac])
 | [],vs,h=>by
  have:vs=[]:=h;subst this;exact⟨rfl,sv,sm,sc,av,am,ac,[],rfl,hs,ht,rfl⟩
 | (l',t') :: ks,vs,h=>by
  obtain⟨h0,sv',sm',sc',av',am',ac',rest,rfl,h1,h2,h3⟩:=h
  exact⟨h0,sv',sm',sc',av',am',ac',rest ++ [ndV l sv sm sc av am ac],rfl,h1,h2,VRd.snoc hs ht ks rest h3⟩
structure BdS (w:World)(its:List It)(rec:Nat→Tr)(i n k:Nat)(A:World)(P:Nat→Prop)(vs:List Value)(ws:Nat→List (List Value)):Prop where
 bel:Below w.heap.size w A
 row:A.heap[w.heap.size]? =some (.cells vs.toArray 119 (0,0))
 len:vs.length=n
 own:∀(alt:Nat) (v:Value),vs[alt]? =some v→A.ownsRow w.heap.size 104 6 v (ws alt).length (ws alt).flatten
 rd:∀alt,alt < n→VRd P A false (nodesL (kidsT its rec i alt k)) (ws alt)
 ap:∀(alt:Nat) (v:Value) (b:Nat),vs[alt]? =some v→v.ownBlock=some b→¬P b∧w.heap.size < b
 dj:∀(alt alt':Nat) (v v':Value) (b:Nat),vs[alt]? =some v→vs[alt']? =some v'→v.ownBlock=some b→v'.ownBlock=some b→alt=alt'
 pg:∀b,P b→w.heap.size < b∧b < A.heap.size
theorem BdS.later {w:World}{its:List It}{rec:Nat→Tr}{i n k:Nat}{A B:World}{P:Nat→Prop}{vs:List Value}{ws:Nat→List (List Value)}(h:BdS w its rec i n k A P vs ws)(hb:Below A.heap.size A B):BdS w its rec i n k B P vs ws:=by
 refine⟨h.bel.trans (hb.mono h.bel.size),(hb.block _ (jD.1 h.row).1).trans h.row,h.len,fun alt v hv=>own_below (h.own alt v hv) hb,fun alt ha=>VRd.keep (fun b _ hl=>hb.block b hl) (fun b hb _=>hb) _ _ _ (h.rd alt ha),h.ap,h.dj,fun b hp=>⟨(h.pg b hp).1,jR (h.pg b hp).2 hb.size⟩⟩
theorem BdS.skip {w:World}{its:List It}{rec:Nat→Tr}{i n k:Nat}{A:World}{P:Nat→Prop}{vs:List Value}{ws:Nat→List (List Value)}(h:BdS w its rec i n k A P vs ws)(y:It)(hy:its[k]? =some y)(hno:¬(y.inn=(i:Int)∧0≤y.alt∧y.alt < (n:Int))):BdS w its rec i n (k+1) A P vs ws:=by
 refine⟨h.bel,h.row,h.len,h.own,fun alt ha=>?_,h.ap,h.dj,h.pg⟩
 rw[kidsT,hy]
 simp only;rw[if_neg (fun hc=>hno ⟨hc.1,by omega,by omega⟩),List.append_nil]
 exact h.rd alt ha
theorem BdS.push {w:World}{its:List It}{rec:Nat→Tr}{i n k:Nat}{A B:World}{P:Nat→Prop}{vs:List Value}{ws:Nat→List (List Value)}(h:BdS w its rec i n k A P vs ws)(y:It)(hy:its[k]? =some y)(hin:y.inn=(i:Int))(alt:Nat)(hal:y.alt=(alt:Int))(hlt:alt < n)
  (hb:Below A.heap.size A B) (sv:Option Addr) (sm sc:Nat) (av:Option Addr) (am ac:Nat) (hs:SAt (Since A B) B (y.after.map (nameI its)) sv sm) (ht:TAt (Since A B) B true (rec k) av 0 am) (v:Value) (hv:vs[alt]? =some v) (hlen:(ws alt).length≤100000) :
  ∃u' W3,(Builtin.append_ #[117,117] 117 #[v,.slice (some ⟨B.heap.size,0,none⟩) 1 1]).run Tryz.prog (B.alloc (.cells (ndV (labI its y) sv sm sc av am ac).toArray 104))= .ok u' W3∧(∃ua m c,u'= .slice ua m c)∧(B.alloc (.cells (ndV (labI its y) sv sm sc av am ac).toArray 104)).grownBy W3 v.ownBlock∧W3.heap[w.heap.size]? =some (.cells vs.toArray 119 (0,0))∧
   ∃P' ws',BdS w its rec i n (k+1) (W3.setCell ⟨w.heap.size,alt,none⟩ u') P' (vs.set alt u') ws':=by
 obtain⟨i0,hi0,hz0,hz1,hz2⟩:=info_parts inf68
 have hB2:Below A.heap.size A (B.alloc (.cells (ndV (labI its y) sv sm sc av am ac).toArray 104)):=hb.alloc hb.size _;have h2:=h.later hB2;have hzW:(B.alloc (.cells (ndV (labI its y) sv sm sc av am ac).toArray 104)).heap.size=B.heap.size+1:=by simp
 have hcl:∀(j:Nat) (u:Value),(ndV (labI its y) sv sm sc av am ac)[j]? =some u→(B.alloc (.cells (ndV (labI its y) sv sm sc av am ac).toArray 104)).cell? ((⟨B.heap.size,0,none⟩:Addr).add j)=some u:=by
  intro j u hj;rw[Go.WideShapes.add_plain,zD,Dg.cell_row (Dg.row_new B (ndV (labI its y) sv sm sc av am ac).toArray 104),←Array.getElem?_toList]
  exact hj
 obtain⟨u',W3,hr3,ho3,hg3,_,hat3⟩:=run_append_own_at (P:=Tryz.prog) (B.alloc (.cells (ndV (labI its y) sv sm sc av am ac).toArray 104)) w.heap.size 117 117 104 i0 _ 6 _ Tryz.underlying117 hi0 hz0 hz1 hz2 rfl (by decide) v _ _ (h2.own alt v hv) ⟨B.heap.size,0,none⟩ 1 1 (ndV (labI its y) sv sm sc av am ac) rfl hcl (by intro u hu;simp[ndV] at hu;rcases hu with rfl | rfl | rfl | rfl | rfl | rfl <;> rfl) (by unfold maxLen;omega) (by omega) h2.bel.size
 have hbz:=hb.size;have hwA:w.heap.size < A.heap.size:=(jD.1 h.row).1;have hne:∀b,(b≤w.heap.size∨P b∨Since A B b)→some b≠v.ownBlock:=by
  intro b hb' e;obtain⟨h9,h8⟩:=h.ap alt v b hv e.symm
  rcases hb' with h7 | h7 | h7
  ·omega
  ·exact h9 h7
  ·have:=(own_exists (h.own alt v hv) b e.symm).2;have:=h7.1;omega
 have hr0:W3.heap[w.heap.size]? =some (.cells vs.toArray 119 (0,0)):=(hg3.block _ (jD.1 h2.row).1 (hne _ (.inl (jG _)))).trans h2.row;obtain⟨ua,uc,rfl⟩:=own_slice ho3
 refine⟨_,W3,hr3,⟨_,_,_,rfl⟩,hg3,hr0,fun b=>P b∨Since A B b,fun a=>if a=alt then ws alt ++ [ndV (labI its y) sv sm sc av am ac] else ws a,?_⟩
 obtain⟨u',hu'⟩:∃u',Value.slice ua ((ws alt).length+1) uc=u':=⟨_,rfl⟩
 rw[hu'] at ho3 hat3 ⊢
 have hz3:=hg3.size;have hoth:∀b,b≠w.heap.size→(W3.setCell ⟨w.heap.size,alt,none⟩ u').heap[b]? =W3.heap[b]? :=fun b hb'=>jW _ _ _ _ hb'
 have hkeep:∀b,w.heap.size < b→b < (B.alloc (.cells (ndV (labI its y) sv sm sc av am ac).toArray 104)).heap.size→some b≠v.ownBlock→(W3.setCell ⟨w.heap.size,alt,none⟩ u').heap[b]? =(B.alloc (.cells (ndV (labI its y) sv sm sc av am ac).toArray 104)).heap[b]? :=fun b h1 h3 h4=>(hoth b (by omega)).trans (hg3.block b h3 h4)
 have hub:∀b,u'.ownBlock=some b→v.ownBlock=some b∨b=B.heap.size+1:=by
  intro b hb'
  rcases hat3 with h9 | h9
  ·exact .inl (h9.symm.trans hb')
  ·rw[h9] at hb'
   right
   have:=Option.some.inj hb';omega
 have hvlt:∀(a:Nat) (z:Value) (b:Nat),vs[a]? =some z→z.ownBlock=some b→b < A.heap.size:=fun a z b h1 h3=>(own_exists (h.own a z h1) b h3).2
 have halen:alt < vs.length:=by rw[h.len];exact hlt
 have hget:∀(a:Nat) (z:Value),(vs.set alt u')[a]? =some z→(a=alt∧z=u')∨(a≠alt∧vs[a]? =some z):=by
  intro a z hz
  by_cases hae:a=alt
  ·subst hae;rw[List.getElem?_set_self halen] at hz
   exact .inl ⟨rfl,(Option.some.inj hz).symm⟩
  ·rw[List.getElem?_set_ne (Ne.symm hae)] at hz
   exact .inr ⟨hae,hz⟩
 refine⟨?_,?_,by rw[List.length_set];exact h.len,?_,?_,?_,?_,?_⟩
 ·exact (h2.bel.trans ⟨hg3.os,hg3.tape,hg3.output,hg3.size,fun b hb'=>hg3.block b (by omega) (hne b (.inl (by omega)))⟩).setCell (jG _) _
 ·have:=Dg.row_set hr0 alt u'
  simpa using this
 ·intro a z hz
  rcases hget a z hz with ⟨rfl,rfl⟩ | ⟨hae,hz'⟩
  ·simp only[if_true];have h9:W3.ownsRow w.heap.size 104 6 z (ws a ++ [ndV (labI its y) sv sm sc av am ac]).length (ws a ++ [ndV (labI its y) sv sm sc av am ac]).flatten:=by
    rw[j9,List.flatten_append]
    simpa using ho3
   exact own_agree (G:=fun b=>b≠w.heap.size) hoth h9 (fun b hb'=>by
    rcases hub b hb' with h8 | h8
    ·have:=(h.ap a v b hv h8).2;omega
    ·omega)
  ·simp only[if_neg hae];exact own_agree (G:=fun b=>z.ownBlock=some b) (fun b hb'=>hkeep b (h.ap a z b hz' hb').2 (by have:=hvlt a z b hz' hb';omega) (fun e=>hae (h.dj a alt z v b hz' hv hb' e.symm))) (h2.own a z hz') (fun b hb'=>hb')
 ·intro a ha;have hkP:Keeps P (B.alloc (.cells (ndV (labI its y) sv sm sc av am ac).toArray 104)) (W3.setCell ⟨w.heap.size,alt,none⟩ u'):=fun b hp hl=>hkeep b (h.pg b hp).1 hl (hne b (.inr (.inl hp)))
  have hkS:Keeps (Since A B) B (W3.setCell ⟨w.heap.size,alt,none⟩ u'):=fun b hp hl=>(hkeep b (by have:=hp.1;omega) (by omega) (hne b (.inr (.inr hp)))).trans (((Below.refl B.heap.size B).alloc (jG _) _).block b hl)
  rw[kidsT,hy]
  simp only
  by_cases hae:a=alt
  ·subst hae;simp only[if_true];rw[if_pos ⟨hin,hal⟩]
   refine VRd.snoc ?_ ?_ _ _ (VRd.keep hkP (fun b hb' _=> .inl hb') _ _ _ (h2.rd a ha))
   ·exact SAt.keep hs hkS (fun b hb' _=> .inr hb')
   ·exact TAt.keep hkS (fun b hb' _=> .inr hb') _ _ _ _ _ ht
  ·simp only[if_neg hae];rw[if_neg (fun hc=>hae (by have:=hc.2;omega)),List.append_nil]
   exact VRd.keep hkP (fun b hb' _=> .inl hb') _ _ _ (h2.rd a ha)
 ·intro a z b hz hb'
  rcases hget a z hz with ⟨rfl,rfl⟩ | ⟨hae,hz'⟩
  ·rcases hub b hb' with h8 | h8
   ·obtain⟨h9,h7⟩:=h.ap a v b hv h8
    have:=hvlt a v b hv h8;exact⟨fun hp=>hp.elim h9 (fun hp=>by have:=hp.1;omega),h7⟩
   ·exact⟨fun hp=>hp.elim (fun hp=>by have:=(h.pg b hp).2;omega) (fun hp=>by have:=hp.2;omega),by omega⟩
  ·obtain⟨h9,h7⟩:=h.ap a z b hz' hb'
   have:=hvlt a z b hz' hb';exact⟨fun hp=>hp.elim h9 (fun hp=>by have:=hp.1;omega),h7⟩
 ·intro a a' z z' b hz hz' hb1 hb2
  rcases hget a z hz with ⟨h1,h3⟩ | ⟨hae,h1⟩
  ·rcases hget a' z' hz' with ⟨h4,h5⟩ | ⟨hae',h4⟩
   ·rw[h1,h4]
   ·rw[h3] at hb1
    rcases hub b hb1 with h8 | h8
    ·rw[h1]
     exact (h.dj alt a' v z' b hv h4 h8 hb2)
    ·have:=hvlt a' z' b h4 hb2;omega
  ·rcases hget a' z' hz' with ⟨h4,h5⟩ | ⟨hae',h4⟩
   ·rw[h5] at hb2
    rcases hub b hb2 with h8 | h8
    ·rw[h4]
     exact (h.dj a alt z v b h1 hv hb1 h8)
    ·have:=hvlt a z b h1 hb1;omega
   ·exact h.dj a a' z z' b h1 h4 hb1 hb2
 ·intro b hp;have hsz4:(W3.setCell ⟨w.heap.size,alt,none⟩ u').heap.size=W3.heap.size:=by simp
  rw[hsz4]
  rcases hp with hp | hp
  ·exact⟨(h.pg b hp).1,by have:=(h.pg b hp).2;omega⟩
  ·exact⟨by have:=hp.1;omega,by have:=hp.2;omega⟩
theorem inf71:(Tryz.prog.info? 119).map (fun i=>(i.zero,i.size,i.bytes))=some (some (.agg #[.slice none 0 0]),1,24):=by kernel_rfl
theorem nodesL_len:∀l:List (Lab × Tr),(nodesL l).len=l.length
 | []=>rfl
 | (l,t) :: r=>by simp[nodesL,Tr.len,nodesL_len r]
theorem kidsT_len (its:List It)(rec:Nat→Tr)(i alt:Nat):∀k,(kidsT its rec i alt k).length≤k
 | 0=>jG _
 | k+1=>by
  have:=kidsT_len its rec i alt k;rw[kidsT,j9]
  cases its[k]? with
  | none=>simp;omega
  | some x=>
   simp only
   split <;> simp <;> omega
theorem BdS.short {w:World}{its:List It}{rec:Nat→Tr}{i n k:Nat}{A:World}{P:Nat→Prop}{vs:List Value}{ws:Nat→List (List Value)}(h:BdS w its rec i n k A P vs ws)(alt:Nat)(ha:alt < n):(ws alt).length≤k:=by
 rw[(h.rd alt ha).len,nodesL_len]
 exact kidsT_len its rec i alt k
theorem BdS.new (w:World)(its:List It)(rec:Nat→Tr)(i n:Nat):BdS w its rec i n 0 (w.alloc (.cells (madeCells #[Value.slice none 0 0] n) 119)) (fun _=>False) (List.replicate n (.slice none 0 0)) (fun _=>[]):=by
 have hget:∀(alt:Nat) (v:Value),(List.replicate n (Value.slice none 0 0))[alt]? =some v→v= .slice none 0 0:=by
  intro alt v hv;exact (List.mem_replicate.1 (jS hv)).2
 refine⟨(Below.refl _ _).alloc (jG _) _,by rw[←Dg.made_nil];exact Dg.row_new w _ 119,List.length_replicate,?_,fun alt _=>rfl,?_,?_,fun b hb=>hb.elim⟩
 ·intro alt v hv;rw[hget alt v hv]
  exact zT _ _ _ _
 ·intro alt v b hv hb;rw[hget alt v hv] at hb
  cases hb
 ·intro alt alt' v v' b hv _ hb _;rw[hget alt v hv] at hb
  cases hb
theorem BdS.bodies {w:World}{its:List It}{rec:Nat→Tr}{i n:Nat}{A:World}{P:Nat→Prop}{vs:List Value}{ws:Nat→List (List Value)}(h:BdS w its rec i n its.length A P vs ws) :
  TAt (Since w A) A true (bodiesL ((List.range n).map fun alt=>nodesL (kidsT its rec i alt its.length))) (some ⟨w.heap.size,0,none⟩) 0 n:=by
 have hwA:w.heap.size < A.heap.size:=(jD.1 h.row).1;have key:∀(d k:Nat),k+d=n→TAt (Since w A) A true (bodiesL ((List.range' k d).map fun alt=>nodesL (kidsT its rec i alt its.length))) (some ⟨w.heap.size,0,none⟩) k n:=by
  intro d
  induction d with
  | zero=>
   intro k hk;show k=n;omega
  | succ d ih=>
   intro k hk;rw[List.range'_succ,zZ]
   obtain⟨v,hv⟩:∃v,vs[k]? =some v:=⟨_,jF (by rw[h.len];omega)⟩
   have hr:VRd (Since w A) A false (nodesL (kidsT its rec i k its.length)) (ws k):=VRd.keep (fun b _ _=>rfl) (fun b hb _=>⟨Nat.le_of_lt (h.pg b hb).1,(h.pg b hb).2⟩) _ _ _ (h.rd k (by omega));obtain⟨a,c,rfl,ht⟩:=hr.own (h.own k v hv) (fun b hb=>⟨(own_exists (h.own k v hv) b hb).1,(own_exists (h.own k v hv) b hb).2⟩)
   refine⟨rfl,by omega,⟨w.heap.size,0,a,_,c,rfl,⟨jG _,hwA⟩,?_,ht⟩,ih (k+1) (by omega)⟩
   rw[zD,Dg.cell_row h.row,jY]
   exact hv
 have:=key n 0 (by omega)
 rwa [←List.range_eq_range'] at this
theorem bodiesOf_any (its:List It)(v:Value)(w:World)(i n:Nat)(x:It)(hx:its[i]? =some x)(hIt:RdIt w v its)(hil:its.length≤100000)(hn:x.alts=(n:Int))(hn4:n≤100000)(rec:Nat→Tr)
  (hN:∀(k:Nat) (y:It),its[k]? =some y→y.inn=(i:Int)→∀w1,RdIt w1 v its→Calls Tryz.prog 162 #[v,.int .i64 (k:Int)] w1 fun e w'=>NodC its y (rec k) w1 e w') :
  Calls Tryz.prog 150 #[v,.int .i64 (i:Int)] w fun e w'=>BodC (bodiesL ((List.range n).map fun alt=>nodesL (kidsT its rec i alt its.length))) w e w':=by
 have HNo:Hid _:=hN;have HIt:Hid (RdIt w v its):=hIt;clear hN;obtain⟨ia,icap,rfl,hic,hir⟩:=hIt
 obtain⟨b1,off1,yav,yam,yac,rfl,k0,k1,k2,k3,k4,k5,k6,k7,hz⟩:=hir i x hx
 have hii:(i:Int) < (its.length:Int):=by have:=(jH.1 hx).1;omega
 obtain⟨il,HIL⟩:∃il,Hid (its.length=il):=⟨_,rfl⟩
 rw[HIL.out] at hii hil hic
 rw[hn] at k4
 have HIR:Hid _:=hir;clear hir hx k0 k1 k2 k3 k5 k6 k7 hz;obtain⟨i0,hi0,hz0,hz1,hz2⟩:=info_parts inf71
 have hmk:=fun wx=>run_make (P:=Tryz.prog) wx 22 119 i0 _ Tryz.underlying22 hi0 hz0 .i64 .i64 (n:Int) (n:Int) (by omega) (by omega) (by rw[hz2];omega) (by omega)
 simp only[hz1,j8,Nat.mul_one] at hmk;have HS0:Hid _:=BdS.new w its rec i n;rw[show ((its.length:Nat))=il from HIL.out]
 go_enter Tryz.func150,Tryz.ntmps150
 go_wp2_with fail
 clear hmk k4;have HB0:Hid (Below w.heap.size w (w.alloc (.cells (madeCells #[Value.slice none 0 0] n) 119))):=(Below.refl _ _).alloc (jG _) _
 go_loopw [16] (fun kv wr=>∃(k:Nat) (P:Nat→Prop) (vs:List Value) (ws:Nat→List (List Value)),k≤il∧kv= .int .i64 k∧Hid (BdS w its rec i n k wr P vs ws)) (fun kv _=>il - (intOf kv).toNat)
 case atStart=>exact⟨0,_,_,_,zE _,rfl,HS0⟩
 case round=>
  obtain⟨k,P,vs,ws,hk,rfl,HS⟩:=hrel
  rename World=>w4
  clear HS0 HB0
  by_cases hlt:k < il
  rotate_left
  ·have hke:k=il:=by omega
   subst hke;clear HIR HNo
   go_wp2_with fail
   go_ret
   refine⟨HS.out.bel,_,_,_,rfl,?_⟩
   have h9:=HS.out;rw[←HIL.out] at h9 ⊢
   exact h9.bodies
  ·obtain⟨y,hy⟩:∃y,its[k]? =some y:=⟨_,jF (by rw[HIL.out];exact hlt)⟩
   obtain⟨b2,off2,zav,zam,zac,he,k0,k1,k2,k3,k4,k5,k6,k7,_⟩:=HIR.out k y hy
   cases he;have j0:=Dg.cell_later HS.out.bel k0;have j1:=Dg.cell_later HS.out.bel k1;have j2:=Dg.cell_later HS.out.bel k2;have j3:=Dg.cell_later HS.out.bel k3;have j4:=Dg.cell_later HS.out.bel k4;have j5:=Dg.cell_later HS.out.bel k5;have j6:=Dg.cell_later HS.out.bel k6;have j7:=Dg.cell_later HS.out.bel k7;clear k0 k1 k2 k3 k4 k5 k6 k7;have hkk:(k:Int) < (il:Int):=by omega
   have rn:=Dg.row_new w4 #[.string ⟨y.name.toArray⟩,.string ⟨y.undo.toArray⟩,.bool y.sub,.bool y.vital,.int .i64 y.alts,.int .i64 y.inn,.int .i64 y.alt,.slice zav zam zac] 50;have g5:=(Dg.cell_row rn 5).trans rfl;have g6:=(Dg.cell_row rn 6).trans rfl;have HS5:Hid _:=HS.out.later ((Below.refl w4.heap.size w4).alloc (jG _) (.cells #[.string ⟨y.name.toArray⟩,.string ⟨y.undo.toArray⟩,.bool y.sub,.bool y.vital,.int .i64 y.alts,.int .i64 y.inn,.int .i64 y.alt,.slice zav zam zac] 50));have HY:Hid _:=hy;clear hy
   by_cases hin:y.inn=(i:Int)
   rotate_left
   ·have hne:(y.inn==(i:Int))=false:=by simpa using hin
    have HSk:Hid _:=HS5.out.skip y HY.out (fun hc=>hin hc.1);clear HS HS5 rn HNo HIR
    go_wp2_with fail
    go_roundw
    case rel=>exact⟨k+1,P,vs,ws,by omega,by go_num,HSk⟩
    case measure=>simp[intOf];omega
   ·by_cases h0:0≤y.alt
    rotate_left
    ·have HSk:Hid _:=HS5.out.skip y HY.out (fun hc=>h0 hc.2.1);rw[hin] at HSk
     have hd0:decide (0≤y.alt)=false:=by simpa using h0
     have hq:(y.inn==(i:Int))=true:=by simpa using hin
     clear HS HS5 rn HNo HIR
     go_wp2_with fail
     go_roundw
     case rel=>exact⟨k+1,P,vs,ws,by omega,by go_num,HSk⟩
     case measure=>simp[intOf];omega
    ·by_cases h1:y.alt < (n:Int)
     rotate_left
     ·have HSk:Hid _:=HS5.out.skip y HY.out (fun hc=>h1 hc.2.2);rw[hin] at HSk
      have hd0:decide (0≤y.alt)=true:=by simpa using h0
      have hd1:decide (y.alt < (n:Int))=false:=by simpa using h1
      have hq:(y.inn==(i:Int))=true:=by simpa using hin
      clear HS HS5 rn HNo HIR
      go_wp2_with fail
      go_roundw
      case rel=>exact⟨k+1,P,vs,ws,by omega,by go_num,HSk⟩
      case measure=>simp[intOf];omega
     ·obtain⟨al,hal⟩:∃al:Nat,y.alt=(al:Int):=⟨y.alt.toNat,by omega⟩
      have hal2:al < n:=by omega
      have HCa:Hid _:=HNo.out k y HY.out hin;have hd0:decide (0≤(al:Int))=true:=by simp
      have hd1:decide ((al:Int) < (n:Int))=true:=by simp;omega
      have hd1':(al:Int) < (n:Int):=by omega
      rw[hal] at j6 g6 rn HS5
      rw[hin] at j5 g5 rn HS5
      have HIn:Hid _:=hin;have HAl:Hid _:=hal;clear HNo HIR h0 h1 hin hal
      go_wp2_with fail
      generalize w4.alloc (.cells #[.string ⟨y.name.toArray⟩,.string ⟨y.undo.toArray⟩,.bool y.sub,.bool y.vital,.int .i64 y.alts,.int .i64 (i:Int),.int .i64 (al:Int),.slice zav zam zac] 50)=w5 at *;clear j0 j1 j2 j3 j4 j5 j6 j7 g5 g6;have hz4:w4.heap.size < w5.heap.size:=(jD.1 rn).1;have hz0:w.heap.size < w4.heap.size:=(jD.1 HS.out.row).1;have hSd:=HS5.out.later ((Below.refl w5.heap.size w5).drew);obtain⟨v0,hv0⟩:∃v0,vs[al]? =some v0:=⟨_,jF (by rw[HS5.out.len];exact hal2)⟩
      obtain⟨va,vc,rfl⟩:=own_slice (HS5.out.own al v0 hv0)
      obtain⟨vm,HVM⟩:∃vm,Hid ((ws al).length=vm):=⟨_,rfl⟩
      rw[HVM.out] at hv0
      have hcg:w5.drew.cell? ⟨w.heap.size,al,none⟩=some (.slice va vm vc):=(Dg.cell_row hSd.row al).trans (by rw[jY];exact hv0);have MC:=HCa.out w5.drew (HIt.out.later hSd.bel);rw[HIL.out] at MC
      have hS0:w5.drew.heap[w4.heap.size]? =some (.cells #[.string ⟨y.name.toArray⟩,.string ⟨y.undo.toArray⟩,.bool y.sub,.bool y.vital,.int .i64 y.alts,.int .i64 (i:Int),.int .i64 (al:Int),.slice zav zam zac] 50 (0,0)):=rn;have HPush:Hid (∀W1 sv sm sc av am ac,Below w5.drew.heap.size w5.drew W1→SAt (Since w5.drew W1) W1 (y.after.map (nameI its)) sv sm→TAt (Since w5.drew W1) W1 true (rec k) av 0 am→
        ∃ua um uc W3,(Builtin.append_ #[117,117] 117 #[.slice va vm vc,.slice (some ⟨W1.heap.size,0,none⟩) 1 1]).run Tryz.prog (W1.alloc (.cells #[.string ⟨y.name.toArray⟩,.string ⟨y.undo.toArray⟩,.slice sv sm sc,.bool y.sub,.bool y.vital,.slice av am ac] 104))= .ok (.slice ua um uc) W3∧W3.heap[w4.heap.size]? =some (.cells #[.string ⟨y.name.toArray⟩,.string ⟨y.undo.toArray⟩,.bool y.sub,.bool y.vital,.int .i64 y.alts,.int .i64 (i:Int),.int .i64 (al:Int),.slice zav zam zac] 50 (0,0))∧W3.cell? ⟨w.heap.size,al,none⟩=some (.slice va vm vc)∧W3.frozen? ⟨w.heap.size,al,none⟩=false∧
         ∃P' vs' ws',Hid (BdS w its rec i n (k+1) (W3.setCell ⟨w.heap.size,al,none⟩ (.slice ua um uc)) P' vs' ws')):=by
       show ∀_,_
       intro W1 sv sm sc av am ac hb1 hs1 ht1;obtain⟨u',W3,hr3,⟨ua,um,uc,rfl⟩,hg3,hrow3,P',ws',hB3⟩:=hSd.push y HY.out HIn.out al HAl.out hal2 hb1 sv sm sc av am ac hs1 ht1 _ hv0 (by have:=HS5.out.short al hal2;omega)
       have hq1:W1.heap[w4.heap.size]? =some (.cells #[.string ⟨y.name.toArray⟩,.string ⟨y.undo.toArray⟩,.bool y.sub,.bool y.vital,.int .i64 y.alts,.int .i64 (i:Int),.int .i64 (al:Int),.slice zav zam zac] 50 (0,0)):=(hb1.block _ hz4).trans rn;have hq2:=Dg.row_alloc hq1 (.cells (ndV (labI its y) sv sm sc av am ac).toArray 104);have hown:=own_below (hSd.own al _ hv0) (hb1.alloc hb1.size (.cells (ndV (labI its y) sv sm sc av am ac).toArray 104));refine⟨ua,um,uc,W3,hr3,(hg3.block _ (jD.1 hq2).1 (own_other hown hq2 (by decide))).trans hq2,(Dg.cell_row hrow3 al).trans (by rw[jY];exact hv0),Dg.froz_row hrow3 al,P',_,ws',hB3⟩
      clear HS HCa HY HIn HAl HIt HS5 hSd hv0;refine wp_region_held (S:=fun w'=>w'.heap[w4.heap.size]? =some (.cells #[.string ⟨y.name.toArray⟩,.string ⟨y.undo.toArray⟩,.bool y.sub,.bool y.vital,.int .i64 y.alts,.int .i64 (i:Int),.int .i64 (al:Int),.slice zav zam zac] 50 (0,0))) (by kernel_rfl) ?_;simp only[jN,jM,jP,Nat.reduceAdd,jI,jJ,jO,jL,jK];refine tK 0 37 ((.slice (some ⟨w.heap.size,0,none⟩) n n)) 16 rfl hS0 ?_;refine tG 1 38 (.pointer (some ⟨w4.heap.size,6,none⟩)) 15 rfl hS0 ?_;refine tV 2 39 (.int .i64 (al:Int)) 14 rfl hS0 ?_ (fun w9 hw9=>by have z0:=(Dg.cell_row hw9 6).trans rfl;go_simp);refine tK 3 40 ((.slice (some ⟨w.heap.size,0,none⟩) n n)) 13 rfl hS0 ?_;refine tG 4 41 (.pointer (some ⟨w4.heap.size,6,none⟩)) 12 rfl hS0 ?_;refine tV 5 42 (.int .i64 (al:Int)) 11 rfl hS0 ?_ (fun w9 hw9=>by have z0:=(Dg.cell_row hw9 6).trans rfl;go_simp);refine tG 6 43 (.pointer (some ⟨w.heap.size,al,none⟩)) 10 rfl hS0 ?_;refine tG 7 44 (.pointer (some ⟨w.heap.size,al,none⟩)) 9 rfl hS0 ?_;refine tK 9 46 ((.slice (some ⟨b1,off1,none⟩) il icap)) 8 rfl hS0 ?_;refine tK 10 47 (.int .i64 (k:Int)) 7 rfl hS0 ?_;refine wpAnyH_all (fuel:=6) (rs:=[8,11]) (by kernel_rfl) (by decide) ?_;refine zW.2 ⟨?_,jE.2 ?_⟩
      ·refine wpOp_value (i:=8) (d:=45) (v:= .slice va vm vc) (w':=w5.drew) rfl rfl (by kernel_rfl) (by go_simp) ?_;refine⟨hS0,?_⟩
       simp only[jA,jB,jC];refine wpAnyH_all (fuel:=5) (rs:=[11]) (by kernel_rfl) (by decide) ?_;refine jE.2 ?_;refine wpOp_calls (i:=11) (d:=48) rfl rfl (by kernel_rfl) (f:=162) (args:= #[(.slice (some ⟨b1,off1,none⟩) il icap),.int .i64 (k:Int)]) (by kernel_rfl) _ MC ?_ ?_ ?_
       ·rintro vA W1 ⟨hb1,sv,sm,sc,av,am,ac,hvA,hs1,ht1⟩;cases hvA;obtain⟨ua,um,uc,W3,hr3,hq3,hc3,hf3,P',vs',ws',HB3⟩:=HPush.out W1 sv sm sc av am ac hb1 hs1 ht1
        have hq1:W1.heap[w4.heap.size]? =some (.cells #[.string ⟨y.name.toArray⟩,.string ⟨y.undo.toArray⟩,.bool y.sub,.bool y.vital,.int .i64 y.alts,.int .i64 (i:Int),.int .i64 (al:Int),.slice zav zam zac] 50 (0,0)):=(hb1.block _ hz4).trans rn;refine⟨hq1,?_⟩
        simp only[jA,jB,jC];refine wpAnyH_all (fuel:=4) (rs:=[12]) (by kernel_rfl) (by decide) ?_;refine jE.2 ?_;refine wpOp_value (i:=12) (d:=49) (v:= .slice (some ⟨W1.heap.size,0,none⟩) 1 1) (w':=W1.alloc (.cells #[.string ⟨y.name.toArray⟩,.string ⟨y.undo.toArray⟩,.slice sv sm sc,.bool y.sub,.bool y.vital,.slice av am ac] 104)) rfl rfl (by kernel_rfl) (by go_simp) ?_;refine⟨Dg.row_alloc hq1 _,?_⟩
        simp only[jA,jB,jC];refine wpAnyH_all (fuel:=3) (rs:=[13]) (by kernel_rfl) (by decide) ?_;refine jE.2 ?_;refine wpOp_value (i:=13) (d:=50) (v:= .slice ua um uc) (w':=W3) rfl rfl (by kernel_rfl) (by simp[execOp,resolve,invoke,builtin,hr3,Result.andThen,Act.eval]) ?_;refine⟨hq3,?_⟩
        simp only[jA,jB,jC];refine wpAnyH_all (fuel:=2) (rs:=[14]) (by kernel_rfl) (by decide) ?_;refine jE.2 ?_;refine wpOp_value (i:=14) (d:=51) (v:= .pointer (some ⟨w.heap.size,al,none⟩)) (w':=W3) rfl rfl (by kernel_rfl) (by go_simp) ?_;refine⟨hq3,?_⟩
        simp only[jA,jB,jC];refine wpAnyH_all (fuel:=1) (rs:=[15]) (by kernel_rfl) (by decide) ?_;refine jE.2 ?_;refine wpOp_value (i:=15) (d:=52) (v:= .pointer (some ⟨w.heap.size,al,none⟩)) (w':=W3) rfl rfl (by kernel_rfl) (by go_simp) ?_;refine⟨hq3,?_⟩
        simp only[jA,jB,jC];refine wpAnyH_all (fuel:=0) (rs:=[16]) (by kernel_rfl) (by decide) ?_;refine jE.2 ?_;refine wpOp_skip (i:=16) (w':=W3.setCell ⟨w.heap.size,al,none⟩ (.slice ua um uc)) rfl rfl (by kernel_rfl) (by go_simp) ?_;refine⟨Dg.row_other hq3 _ (by omega),by kernel_rfl,?_⟩
        clear hr3 hq3 hc3 hf3 hq1 MC HPush hcg hS0 rn
        go_wp2_with fail
        go_roundw
        case rel=>exact⟨k+1,P',vs',ws',by omega,by go_num,HB3⟩
        case measure=>simp[intOf];omega
       ·rintro ch w'' ⟨_,_,_,_,_,_,_,h9,_⟩;cases h9
       ·rintro w'' ⟨_,_,_,_,_,_,_,h9,_⟩;cases h9
      ·refine wpOp_calls (i:=11) (d:=48) rfl rfl (by kernel_rfl) (f:=162) (args:= #[(.slice (some ⟨b1,off1,none⟩) il icap),.int .i64 (k:Int)]) (by kernel_rfl) _ MC ?_ ?_ ?_
       ·rintro vA W1 ⟨hb1,sv,sm,sc,av,am,ac,hvA,hs1,ht1⟩;cases hvA;obtain⟨ua,um,uc,W3,hr3,hq3,hc3,hf3,P',vs',ws',HB3⟩:=HPush.out W1 sv sm sc av am ac hb1 hs1 ht1
        have hq1:W1.heap[w4.heap.size]? =some (.cells #[.string ⟨y.name.toArray⟩,.string ⟨y.undo.toArray⟩,.bool y.sub,.bool y.vital,.int .i64 y.alts,.int .i64 (i:Int),.int .i64 (al:Int),.slice zav zam zac] 50 (0,0)):=(hb1.block _ hz4).trans rn;have hcg1:=Dg.cell_later hb1 hcg;refine⟨hq1,?_⟩
        simp only[jA,jB,jC];refine wpAnyH_all (fuel:=5) (rs:=[8,12]) (by kernel_rfl) (by decide) ?_;refine zW.2 ⟨?_,jE.2 ?_⟩
        ·refine wpOp_value (i:=8) (d:=45) (v:= .slice va vm vc) (w':=W1) rfl rfl (by kernel_rfl) (by go_simp) ?_;refine⟨hq1,?_⟩
         simp only[jA,jB,jC];refine wpAnyH_all (fuel:=4) (rs:=[12]) (by kernel_rfl) (by decide) ?_;refine jE.2 ?_;refine wpOp_value (i:=12) (d:=49) (v:= .slice (some ⟨W1.heap.size,0,none⟩) 1 1) (w':=W1.alloc (.cells #[.string ⟨y.name.toArray⟩,.string ⟨y.undo.toArray⟩,.slice sv sm sc,.bool y.sub,.bool y.vital,.slice av am ac] 104)) rfl rfl (by kernel_rfl) (by go_simp) ?_;refine⟨Dg.row_alloc hq1 _,?_⟩
         simp only[jA,jB,jC];refine wpAnyH_all (fuel:=3) (rs:=[13]) (by kernel_rfl) (by decide) ?_;refine jE.2 ?_;refine wpOp_value (i:=13) (d:=50) (v:= .slice ua um uc) (w':=W3) rfl rfl (by kernel_rfl) (by simp[execOp,resolve,invoke,builtin,hr3,Result.andThen,Act.eval]) ?_;refine⟨hq3,?_⟩
         simp only[jA,jB,jC];refine wpAnyH_all (fuel:=2) (rs:=[14]) (by kernel_rfl) (by decide) ?_;refine jE.2 ?_;refine wpOp_value (i:=14) (d:=51) (v:= .pointer (some ⟨w.heap.size,al,none⟩)) (w':=W3) rfl rfl (by kernel_rfl) (by go_simp) ?_;refine⟨hq3,?_⟩
         simp only[jA,jB,jC];refine wpAnyH_all (fuel:=1) (rs:=[15]) (by kernel_rfl) (by decide) ?_;refine jE.2 ?_;refine wpOp_value (i:=15) (d:=52) (v:= .pointer (some ⟨w.heap.size,al,none⟩)) (w':=W3) rfl rfl (by kernel_rfl) (by go_simp) ?_;refine⟨hq3,?_⟩
         simp only[jA,jB,jC];refine wpAnyH_all (fuel:=0) (rs:=[16]) (by kernel_rfl) (by decide) ?_;refine jE.2 ?_;refine wpOp_skip (i:=16) (w':=W3.setCell ⟨w.heap.size,al,none⟩ (.slice ua um uc)) rfl rfl (by kernel_rfl) (by go_simp) ?_;refine⟨Dg.row_other hq3 _ (by omega),by kernel_rfl,?_⟩
         clear hr3 hq3 hc3 hf3 hq1 MC HPush hcg hS0 rn
         go_wp2_with fail
         go_roundw
         case rel=>exact⟨k+1,P',vs',ws',by omega,by go_num,HB3⟩
         case measure=>simp[intOf];omega
        ·refine wpOp_value (i:=12) (d:=49) (v:= .slice (some ⟨W1.heap.size,0,none⟩) 1 1) (w':=W1.alloc (.cells #[.string ⟨y.name.toArray⟩,.string ⟨y.undo.toArray⟩,.slice sv sm sc,.bool y.sub,.bool y.vital,.slice av am ac] 104)) rfl rfl (by kernel_rfl) (by go_simp) ?_;refine⟨Dg.row_alloc hq1 _,?_⟩
         simp only[jA,jB,jC];refine wpAnyH_all (fuel:=4) (rs:=[8]) (by kernel_rfl) (by decide) ?_;refine jE.2 ?_;have hcg2:=Dg.cell_later ((Below.refl W1.heap.size W1).alloc (jG _) (.cells #[.string ⟨y.name.toArray⟩,.string ⟨y.undo.toArray⟩,.slice sv sm sc,.bool y.sub,.bool y.vital,.slice av am ac] 104)) hcg1;refine wpOp_value (i:=8) (d:=45) (v:= .slice va vm vc) (w':=W1.alloc (.cells #[.string ⟨y.name.toArray⟩,.string ⟨y.undo.toArray⟩,.slice sv sm sc,.bool y.sub,.bool y.vital,.slice av am ac] 104)) rfl rfl (by kernel_rfl) (by go_simp) ?_;refine⟨Dg.row_alloc hq1 _,?_⟩
         simp only[jA,jB,jC];refine wpAnyH_all (fuel:=3) (rs:=[13]) (by kernel_rfl) (by decide) ?_;refine jE.2 ?_;refine wpOp_value (i:=13) (d:=50) (v:= .slice ua um uc) (w':=W3) rfl rfl (by kernel_rfl) (by simp[execOp,resolve,invoke,builtin,hr3,Result.andThen,Act.eval]) ?_;refine⟨hq3,?_⟩
         simp only[jA,jB,jC];refine wpAnyH_all (fuel:=2) (rs:=[14]) (by kernel_rfl) (by decide) ?_;refine jE.2 ?_;refine wpOp_value (i:=14) (d:=51) (v:= .pointer (some ⟨w.heap.size,al,none⟩)) (w':=W3) rfl rfl (by kernel_rfl) (by go_simp) ?_;refine⟨hq3,?_⟩
         simp only[jA,jB,jC];refine wpAnyH_all (fuel:=1) (rs:=[15]) (by kernel_rfl) (by decide) ?_;refine jE.2 ?_;refine wpOp_value (i:=15) (d:=52) (v:= .pointer (some ⟨w.heap.size,al,none⟩)) (w':=W3) rfl rfl (by kernel_rfl) (by go_simp) ?_;refine⟨hq3,?_⟩
         simp only[jA,jB,jC];refine wpAnyH_all (fuel:=0) (rs:=[16]) (by kernel_rfl) (by decide) ?_;refine jE.2 ?_;refine wpOp_skip (i:=16) (w':=W3.setCell ⟨w.heap.size,al,none⟩ (.slice ua um uc)) rfl rfl (by kernel_rfl) (by go_simp) ?_;refine⟨Dg.row_other hq3 _ (by omega),by kernel_rfl,?_⟩
         clear hr3 hq3 hc3 hf3 hq1 MC HPush hcg hS0 rn
         go_wp2_with fail
         go_roundw
         case rel=>exact⟨k+1,P',vs',ws',by omega,by go_num,HB3⟩
         case measure=>simp[intOf];omega
       ·rintro ch w'' ⟨_,_,_,_,_,_,_,h9,_⟩;cases h9
       ·rintro w'' ⟨_,_,_,_,_,_,_,h9,_⟩;cases h9
def AllL (Q:Lab→Prop):Tr→Prop
 | .e=>True
 | .b x r=>AllL Q x∧AllL Q r
 | .n l t r=>Q l∧AllL Q t∧AllL Q r
theorem dep_le (t:Tr):t.dep≤szA t:=by
 induction t with
 | e=>exact jG _
 | b x r h1 h2=>simp only[Tr.dep,szA];omega
 | n l t r h1 h2=>simp only[Tr.dep,szA];split <;> omega
theorem tw_le (t:Tr):tw t≤szA t:=by
 induction t with
 | e=>exact jG _
 | b x r h1 h2=>simp only[tw,szA];omega
 | n l t r h1 h2=>simp only[tw,szA];split <;> omega
theorem cntA_le (t:Tr):cntA t≤szA t:=by
 induction t with
 | e=>exact jG _
 | b x r h1 h2=>simp only[cntA,szA];omega
 | n l t r h1 h2=>simp only[cntA,szA];omega
theorem sz_le (t:Tr):t.sz≤szA t:=by
 induction t with
 | e=>exact jG _
 | b x r h1 h2=>simp only[Tr.sz,szA];omega
 | n l t r h1 h2=>simp only[Tr.sz,szA];omega
theorem fltn_le (t:Tr):∀d,(fltn d t).length≤szA t:=by
 induction t with
 | e=>intro d;exact jG _
 | b x r h1 h2=>intro d;have:=h1 d;have:=h2 d;simp only[fltn,szA,j9];omega
 | n l t r h1 h2=>
  intro d;have:=h1 (d+1);have:=h2 d;simp only[fltn,szA,j9,jM]
  split <;> simp <;> omega
theorem xsT_lab {Q:Lab→Prop}(t:Tr):∀inn alt last,AllL Q t→∀y∈xsT t inn alt last,Q y.lab:=by
 induction t with
 | e=>intro _ _ _ _ y hy;cases hy
 | b x r h1 h2=>
  intro inn alt last h y hy
  rcases jX.1 hy with h9 | h9
  ·exact h1 _ _ _ h.1 y h9
  ·exact h2 _ _ _ h.2 y h9
 | n l t r h1 h2=>
  intro inn alt last h y hy
  rcases zJ.1 hy with h9 | h9
  ·rw[h9];exact h.1
  ·rcases jX.1 h9 with h9 | h9
   ·exact h1 _ _ _ h.2.1 y h9
   ·exact h2 _ _ _ h.2.2 y h9
theorem AllL_nodes {Q:Lab→Prop} :∀l:List (Lab × Tr),(∀p∈l,Q p.1∧AllL Q p.2)→AllL Q (nodesL l)
 | [],_=>trivial
 | p :: r,h=>⟨(h p (List.mem_cons_self ..)).1,(h p (List.mem_cons_self ..)).2,AllL_nodes r fun q hq=>h q (List.mem_cons_of_mem _ hq)⟩
theorem AllL_bodies {Q:Lab→Prop} :∀l:List Tr,(∀p∈l,AllL Q p)→AllL Q (bodiesL l)
 | [],_=>trivial
 | p :: r,h=>⟨h p (List.mem_cons_self ..),AllL_bodies r fun q hq=>h q (List.mem_cons_of_mem _ hq)⟩
theorem kidsT_mem {its:List It}{rec:Nat→Tr}{i alt:Nat} :∀k p,p∈kidsT its rec i alt k→∃j x,its[j]? =some x∧p=(labI its x,rec j)
 | 0,p,h=>by cases h
 | k+1,p,h=>by
  rw[kidsT] at h
  rcases jX.1 h with h9 | h9
  ·exact kidsT_mem k p h9
  ·split at h9
   ·rename_i x hx
    split at h9
    ·rw[zY] at h9
     exact⟨k,x,hx,h9⟩
    ·cases h9
   ·cases h9
theorem AllL_bod {Q:Lab→Prop}{its:List It}(hQ:∀x∈its,Q (labI its x)):∀f i,AllL Q (bodT its f i)
 | 0,_=>trivial
 | f+1,i=>by
  rw[bodT]
  apply AllL_bodies
  intro p hp;obtain⟨alt,_,rfl⟩:=zS.1 hp
  apply AllL_nodes
  intro q hq;obtain⟨j,x,hx,rfl⟩:=kidsT_mem _ q hq
  exact⟨hQ x (jS hx),AllL_bod hQ f j⟩
theorem hangF_at {n:Nat} :∀(l:List It) (i:Nat),hangF n i l=true→∀(j:Nat) (x:It),l[j]? =some x→hangI n (i+j) x=true
 | [],_,_,j,x,h=>by simp at h
 | y :: r,i,h,j,x,hx=>by
  simp only[hangF,jT] at h;cases j with
  | zero=>simp at hx;rw[←hx];exact h.1
  | succ j=>
   have:=hangF_at r (i+1) h.2 j x (by simpa using hx)
   rwa [show i+1+j=i+ (j+1) by omega] at this
theorem hangs_at {its:List It}(h:hangs its=true):0 < its.length∧its.length≤64∧∀(j:Nat) (x:It),its[j]? =some x→x.inn < (j:Int)∧0≤x.alts∧x.alts≤4∧x.after.length < 16∧∀on∈x.after,0≤on∧on < (its.length:Int):=by
 simp only[hangs,jT,decide_eq_true_eq] at h;refine⟨h.1,h.2.1,fun j x hx=>?_⟩
 have h9:=hangF_at its 0 h.2.2 j x hx;rw[zD] at h9
 simp only[hangI,jT,decide_eq_true_eq,zF] at h9;exact⟨h9.1,h9.2.1,h9.2.2.1,h9.2.2.2.1,h9.2.2.2.2⟩
theorem bodies_rec {its:List It}(h:hangs its=true)(v:Value):∀(f i:Nat),its.length < i+f→i < its.length→∀w,RdIt w v its→Calls Tryz.prog 150 #[v,.int .i64 (i:Int)] w fun e w'=>BodC (bodT its f i) w e w'
 | 0,i,h1,h2,_,_=>by omega
 | f+1,i,h1,h2,w,hIt=>by
  obtain⟨_,h64,hat⟩:=hangs_at h
  obtain⟨x,hx⟩:∃x,its[i]? =some x:=⟨_,jF h2⟩
  obtain⟨_,ha0,ha4,_,_⟩:=hat i x hx
  have hai:altsI its i=x.alts.toNat:=by unfold altsI;rw[hx]
  have hB:=bodiesOf_any its v w i x.alts.toNat x hx hIt (by omega) (by omega) (by omega) (bodT its f) (fun k y hy hin w1 hIt1=>by
   obtain⟨hi,_,_,hl,haf⟩:=hat k y hy
   exact nodeOf_any its v w1 k y hy hIt1 haf (by omega) (bodT its f k) (fun w2 hIt2=>bodies_rec h v f k (by omega) (jH.1 hy).1 w2 hIt2))
  rw[bodT,hai]
  exact hB
theorem AllL_afs (t:Tr)(h:AllL (fun l=>l.after.length≤1100000) t):t.afs:=by
 induction t with
 | e=>trivial
 | b x r h1 h2=>exact⟨h1 h.1,h2 h.2⟩
 | n l t r h1 h2=>exact⟨by have:=h.1;omega,h1 h.2.1,h2 h.2.2⟩
theorem AllL_mono {Q Q':Lab→Prop}(hq:∀l,Q l→Q' l)(t:Tr)(h:AllL Q t):AllL Q' t:=by
 induction t with
 | e=>trivial
 | b x r h1 h2=>exact⟨h1 h.1,h2 h.2⟩
 | n l t r h1 h2=>exact⟨hq l h.1,h1 h.2.1,h2 h.2.2⟩
theorem Fair.of {t:Tr}(hs:szA t≤100000)(hl:AllL (fun l=>l.name.length≤1100000∧l.after.length≤1100000∧∀z∈l.after,z.length≤1100000) t):Fair t:=by
 have h1:=dep_le t;have h2:=tw_le t;have h3:=cntA_le t;have h4:=sz_le t;have h5:=fltn_le t 1;exact⟨⟨by omega,by omega,⟨by omega,AllL_afs t (AllL_mono (fun l h=>h.2.1) t hl)⟩,by omega⟩,by omega,by omega,xsT_lab t 0 0 0 hl⟩
theorem hang_fair {its:List It}(h:hangs its=true)(hnm:∀x∈its,x.name.length≤1100000):Fair (bodT its (its.length+1) 0):=by
 obtain⟨h0,h64,hat⟩:=hangs_at h
 have hsz:=bod_size (its:=its) (fun i x hx=>(hat i x hx).1) (fun i=>by
  unfold altsI;cases hx:its[i]? with
  | none=>simp
  | some x=>have:=(hat i x hx).2.2.1;simp only;omega) 0 h0
 refine Fair.of (by omega) (AllL_bod (fun x hx=>?_) _ _);obtain⟨j,hj,rfl⟩:=List.mem_iff_getElem.1 hx
 obtain⟨_,_,_,hl,_⟩:=hat j its[j] (jF hj)
 refine⟨hnm _ hx,by simp only[labI,zG];omega,?_⟩
 intro z hz;simp only[labI,zS] at hz;obtain⟨on,_,rfl⟩:=hz
 unfold nameI;cases hy:its[on.toNat]? with
 | none=>simp
 | some y=>exact hnm y (jS hy)
def bodS (its:List It):Tr:=bodT its (its.length+1) 0
open Classical in
noncomputable def sagaP (its:List It):Option (By × Tr):=if hangs its=true∧planT (nameI its 0) (bodS its)=some its then some (nameI its 0,bodS its) else none
def SagaC (its:List It)(w:World)(e:Ending)(w':World):Prop:=Below w.heap.size w w'∧match sagaP its with
 | none=>e= .panicked (rej 2)
 | some (x,t)=>∃a c,e= .returned (.agg #[.string ⟨x.toArray⟩,.slice a t.len c])∧TAt (Since w w') w' true t a 0 t.len
theorem SagaC.bad {its:List It}{w w':World}(h:¬(hangs its=true∧planT (nameI its 0) (bodS its)=some its))(hb:Below w.heap.size w w'):SagaC its w (.panicked (rej 2)) w':=by
 unfold SagaC sagaP;rw[if_neg h]
 exact⟨hb,rfl⟩
theorem SagaC.ok {its:List It}{w w':World}{a:Option Addr}{c:Nat}(h:hangs its=true∧planT (nameI its 0) (bodS its)=some its)(hb:Below w.heap.size w w')(ht:TAt (Since w w') w' true (bodS its) a 0 (bodS its).len):SagaC its w (.returned (.agg #[.string ⟨(nameI its 0).toArray⟩,.slice a (bodS its).len c])) w':=by
 unfold SagaC sagaP;rw[if_pos h]
 exact⟨hb,a,c,rfl,ht⟩
theorem xsT_len (t:Tr):∀inn alt last,(xsT t inn alt last).length=cntA t:=by
 induction t with
 | e=>intro _ _ _;rfl
 | b x r h1 h2=>intro inn alt last;simp only[xsT,cntA,j9,h1,h2]
 | n l t r h1 h2=>intro inn alt last;simp only[xsT,cntA,j9,jM,h1,h2];omega
theorem planT_small {x:By}{t:Tr}{its:List It}(h:planT x t=some its):its.length≤100000∧∀y∈its,y.after.length≤1000000:=by
 have hf:=fit_cnt (planT_fit h);unfold planT planP at h
 split at h
 ·cases h;have hl:=xsT_len t 0 0 0;refine⟨by rw[its2_len];omega,fun y hy=>?_⟩
  have:=(its2_after _ _ _ _ y hy).1;omega
 ·cases h
structure SgS (w:World)(v:Value)(x:It)(T:Tr)(nb:Nat)(A:World)(av:Option Addr)(ac:Nat)(P:Nat→Prop):Prop where
 bel:Below w.heap.size w A
 it:A.heap[w.heap.size]? =some (.cells #[v] 28 (0,0))
 nd:A.heap[nb]? =some (.cells #[.string ⟨x.name.toArray⟩,.slice av T.len ac] 24 (0,0))
 res:A.heap[w.heap.size+1]? =some (.cells #[.string ⟨#[]⟩,.slice none 0 0] 24 (0,0))
 ge:w.heap.size+1 < nb
 tr:TAt P A true T av 0 T.len
 pg:∀b,P b→w.heap.size+1 < b∧b < A.heap.size∧b≠nb
theorem SgS.later {w:World}{v:Value}{x:It}{T:Tr}{nb:Nat}{A B:World}{av:Option Addr}{ac:Nat}{P:Nat→Prop}(h:SgS w v x T nb A av ac P)(hb:Below A.heap.size A B):SgS w v x T nb B av ac P:=by
 have hlt:∀{b:Nat} {o:Obj},A.heap[b]? =some o→b < A.heap.size:=fun h=>(jD.1 h).1
 exact⟨h.bel.trans (hb.mono h.bel.size),(hb.block _ (hlt h.it)).trans h.it,(hb.block _ (hlt h.nd)).trans h.nd,(hb.block _ (hlt h.res)).trans h.res,h.ge,TAt.keep (fun b _ hl=>hb.block b hl) (fun b hb _=>hb) _ _ _ _ _ h.tr,fun b hp=>⟨(h.pg b hp).1,jR (h.pg b hp).2.1 hb.size,(h.pg b hp).2.2⟩⟩
theorem two_row {A:World}{n:Nat}{c0 c1:Value}{t:TypeId}(h:A.heap[n]? =some (.cells #[c0,c1] t (0,0)))(u0 u1:Value) :
  ((A.setCell ⟨n,0,none⟩ u0).setCell ⟨n,1,none⟩ u1).heap[n]? =some (.cells #[u0,u1] t (0,0))∧((A.setCell ⟨n,0,none⟩ u0).setCell ⟨n,1,none⟩ u1).heap.size=A.heap.size∧
  (∀b,b≠n→((A.setCell ⟨n,0,none⟩ u0).setCell ⟨n,1,none⟩ u1).heap[b]? =A.heap[b]?)∧∀base,base≤n→Below base A ((A.setCell ⟨n,0,none⟩ u0).setCell ⟨n,1,none⟩ u1):=by
 refine⟨Dg.row_set (Dg.row_set h 0 u0) 1 u1,by simp,fun b hb=>?_,fun base hb=>((Below.refl _ A).setCell hb u0).setCell hb u1⟩
 rw[jW _ _ _ b hb,jW _ _ _ b hb]
theorem sagaOf_any (its:List It)(v:Value)(w:World)(hIt:RdIt w v its)(hnm:∀x∈its,x.name.length≤1100000)(hT:Dg.Tab w)(haf:∀x∈its,x.after.length≤1000000) :
  Calls Tryz.prog 118 #[.agg #[v]] w fun e w'=>SagaC its w e w':=by
 have HIt:Hid (RdIt w v its):=hIt;have HNm:Hid _:=hnm;have HTb:Hid (Dg.Tab w):=hT;have HAf:Hid _:=haf;clear hnm hT haf;obtain⟨ia,icap,rfl,hic,hir⟩:=hIt
 have hb1:Below w.heap.size w ((w.alloc (.cells #[.slice ia its.length icap] 28)).alloc (.cells #[.string ⟨#[]⟩,.slice none 0 0] 24)):=((Below.refl _ w).alloc (jG _) _).alloc (by simp) _;have r0:=Dg.row_alloc (Dg.row_new w #[.slice ia its.length icap] 28) (.cells #[.string ⟨#[]⟩,.slice none 0 0] 24);have r1:=Dg.row_new (w.alloc (.cells #[.slice ia its.length icap] 28)) #[.string ⟨#[]⟩,.slice none 0 0] 24;rw[jV] at r1
 have g0:=(Dg.cell_row r0 0).trans rfl;have M1:Hid _:=mustHang_any its _ _ (HIt.out.later hb1)
 go_enter Tryz.func118,Tryz.ntmps118
 go_wp2_with fail
 generalize (w.alloc (.cells #[.slice ia its.length icap] 28)).alloc (.cells #[.string ⟨#[]⟩,.slice none 0 0] 24)=w1 at *;have hz1:w.heap.size+1 < w1.heap.size:=(jD.1 r1).1;refine Calls.mono M1.out ?_;rintro e w2 ⟨he,hb2⟩;clear M1 g0;have hbl2:=hb1.trans (hb2.mono hb1.size);have s0:=(hb2.block _ (by omega)).trans r0;have s1:=(hb2.block _ hz1).trans r1;have hz2:=jR hz1 hb2.size;clear r0 r1 hz1 hb1 hb2;cases hh:hangs its with
 | false=>
  rw[hh] at he
  obtain rfl:e= .panicked (rej 2):=he
  go_wp2_with fail
  exact⟨rfl,SagaC.bad (fun h9=>by rw[hh] at h9;cases h9.1) hbl2⟩
 | true=>
  rw[hh] at he
  obtain rfl:e= .returned (.tuple #[]):=he;have HH:Hid _:=hh;obtain⟨h0,h64,hat⟩:=hangs_at hh
  obtain⟨x,hx⟩:∃x,its[0]? =some x:=⟨_,jF h0⟩
  obtain⟨b1,off1,yav,yam,yac,rfl,k0,_⟩:=hir 0 x hx
  have HX:Hid (nameI its 0=x.name):=by show _=_;unfold nameI;rw[show (0:Int).toNat=0 from rfl,hx]
  have MB:=fun w3 h3=>bodies_rec hh (.slice (some ⟨b1,off1,none⟩) its.length icap) (its.length+1) 0 (by omega) h0 w3 h3
  have HMB:Hid _:=MB;obtain⟨T,HTT⟩:∃T,Hid (bodS its=T):=⟨_,rfl⟩
  have hzero:off1+0 * 8=off1:=by omega
  rw[hzero] at k0
  obtain⟨il,HIL⟩:∃il,Hid (its.length=il):=⟨_,rfl⟩
  have hil0:0 < il:=by rw[←HIL.out];exact h0
  rw[HIL.out] at s0
  rw[HIL.out]
  clear hh hat hx MB hir hzero h0 hic h64
  go_wp2_with fail
  have hMB:∀W,Below w.heap.size w W→Calls Tryz.prog 150 #[(.slice (some ⟨b1,off1,none⟩) il icap),.int .i64 0] W fun e w'=>BodC T W e w':=by
   intro W hW;have h9:=HMB.out W (HIt.out.later hW);rw[show bodT its (its.length+1) 0=T from HTT.out,HIL.out] at h9
   exact h9
  have HMB2:Hid _:=hMB;clear HMB hMB;refine wp_mono (Q:=fun e a' w'=>e= .normal∧∃nb av ac P,SgS w (.slice (some ⟨b1,off1,none⟩) il icap) x T nb w' av ac P∧a'=⟨#[.agg #[(.slice (some ⟨b1,off1,none⟩) il icap)],.pointer (some ⟨w.heap.size,0,none⟩),.pointer (some ⟨w.heap.size+1,0,none⟩),.pointer (some ⟨nb,0,none⟩),undef,undef,.pointer (some ⟨w.heap.size,0,none⟩),(.slice (some ⟨b1,off1,none⟩) il icap),.tuple #[],.pointer (some ⟨w.heap.size,0,none⟩),(.slice (some ⟨b1,off1,none⟩) il icap),.pointer (some ⟨b1,off1,none⟩),.pointer (some ⟨b1,off1,none⟩),.string ⟨x.name.toArray⟩,.pointer (some ⟨w.heap.size,0,none⟩),(.slice (some ⟨b1,off1,none⟩) il icap),.slice av T.len ac,.agg #[.string ⟨x.name.toArray⟩,.slice av T.len ac],undef,undef,undef,undef,undef,undef,undef,undef,undef,undef,undef,undef,undef,undef,undef,undef],[]⟩) ?_ ?_
  ·refine wp_region_held (S:=fun w'=>Below w.heap.size w w'∧w'.heap[w.heap.size]? =some (.cells #[(.slice (some ⟨b1,off1,none⟩) il icap)] 28 (0,0))∧w'.heap[w.heap.size+1]? =some (.cells #[.string ⟨#[]⟩,.slice none 0 0] 24 (0,0))) (by kernel_rfl) ?_;have hS0:Below w.heap.size w w2.drew∧w2.drew.heap[w.heap.size]? =some (.cells #[(.slice (some ⟨b1,off1,none⟩) il icap)] 28 (0,0))∧w2.drew.heap[w.heap.size+1]? =some (.cells #[.string ⟨#[]⟩,.slice none 0 0] 24 (0,0)):=⟨hbl2.drew,s0,s1⟩;simp only[jN,jM,jP,Nat.reduceAdd,jI,jJ,jO,jL,jK];refine tG 0 9 (.pointer (some ⟨w.heap.size,0,none⟩)) 10 rfl hS0 ?_;refine tV 1 10 ((.slice (some ⟨b1,off1,none⟩) il icap)) 9 rfl hS0 ?_ (fun w9 hw9=>by have z0:=(Dg.cell_row hw9.2.1 0).trans rfl;go_simp);refine tG 2 11 (.pointer (some ⟨b1,off1,none⟩)) 8 rfl hS0 ?_;refine tG 3 12 (.pointer (some ⟨b1,off1,none⟩)) 7 rfl hS0 ?_;refine tV 4 13 (.string ⟨x.name.toArray⟩) 6 rfl hS0 ?_ (fun w9 hw9=>by have z0:=Dg.cell_later hw9.1 k0;go_simp);refine tG 5 14 (.pointer (some ⟨w.heap.size,0,none⟩)) 5 rfl hS0 ?_;refine tV 6 15 ((.slice (some ⟨b1,off1,none⟩) il icap)) 4 rfl hS0 ?_ (fun w9 hw9=>by have z0:=(Dg.cell_row hw9.2.1 0).trans rfl;go_simp);refine wpAnyH_all (fuel:=3) (rs:=[7,9]) (by kernel_rfl) (by decide) ?_;refine zW.2 ⟨?_,jE.2 ?_⟩
   ·refine wpOp_calls (i:=7) (d:=16) rfl rfl (by kernel_rfl) (f:=150) (args:= #[(.slice (some ⟨b1,off1,none⟩) il icap),.int .i64 0]) (by kernel_rfl) _ (HMB2.out w2.drew hbl2.drew) ?_ ?_ ?_
    ·rintro vA WA ⟨hbA2,av,am,ac,hvA,htA⟩;obtain rfl:am=T.len:=by have:=htA.len;omega
     cases hvA;have hbA:Below w.heap.size w WA:=hbl2.trans ((Below.refl _ _).drew.trans (hbA2.mono hbl2.size));have hA0:=(hbA2.block _ (show w.heap.size < w2.heap.size by omega)).trans s0;have hA1:=(hbA2.block _ hz2).trans s1;refine⟨⟨hbA,hA0,hA1⟩,?_⟩
     simp only[jA,jB,jC];refine wpAnyH_all (fuel:=2) (rs:=[8,9]) (by kernel_rfl) (by decide) ?_;refine zW.2 ⟨?_,jE.2 ?_⟩
     ·refine wpOp_value (i:=8) (d:=17) (v:= .agg #[.string ⟨x.name.toArray⟩,.slice av T.len ac]) (w':=WA) rfl rfl (by kernel_rfl) (by go_simp) ?_;refine⟨⟨hbA,hA0,hA1⟩,?_⟩
      simp only[jA,jB,jC];refine wpAnyH_all (fuel:=1) (rs:=[9]) (by kernel_rfl) (by decide) ?_;refine jE.2 ?_;refine wpOp_value (i:=9) (d:=3) (v:= .pointer (some ⟨WA.heap.size,0,none⟩)) (w':=WA.alloc (.cells #[.string ⟨#[]⟩,.slice none 0 0] 24)) rfl rfl (by kernel_rfl) (by go_simp) ?_;refine⟨⟨hbA.alloc hbA.size _,Dg.row_alloc hA0 _,Dg.row_alloc hA1 _⟩,?_⟩
      simp only[jA,jB,jC];refine wpAnyH_all (fuel:=0) (rs:=[10]) (by kernel_rfl) (by decide) ?_;refine jE.2 ?_;refine wpOp_skip (i:=10) (w':=WA.alloc (.cells #[.string ⟨x.name.toArray⟩,.slice av T.len ac] 24)) rfl rfl (by kernel_rfl) (by go_simp) ?_;refine⟨⟨hbA.alloc hbA.size _,Dg.row_alloc hA0 _,Dg.row_alloc hA1 _⟩,wpAnyH_done (by kernel_rfl) ?_ _⟩
      refine⟨rfl,WA.heap.size,av,ac,Since w2.drew WA,⟨hbA.alloc hbA.size _,Dg.row_alloc hA0 _,Dg.row_new WA #[.string ⟨x.name.toArray⟩,.slice av T.len ac] 24,Dg.row_alloc hA1 _,jR hz2 hbA2.size,TAt.keep (fun b hb hl=>((Below.refl WA.heap.size WA).alloc (jG _) _).block b hl) (fun b hb _=>hb) _ _ _ _ _ htA,fun b hb=>⟨jR hz2 hb.1,by have:=hb.2;simp;omega,by have:=hb.2;omega⟩⟩,rfl⟩
     ·refine wpOp_value (i:=9) (d:=3) (v:= .pointer (some ⟨WA.heap.size,0,none⟩)) (w':=WA.alloc (.cells #[.string ⟨#[]⟩,.slice none 0 0] 24)) rfl rfl (by kernel_rfl) (by go_simp) ?_;refine⟨⟨hbA.alloc hbA.size _,Dg.row_alloc hA0 _,Dg.row_alloc hA1 _⟩,?_⟩
      simp only[jA,jB,jC];refine wpAnyH_all (fuel:=1) (rs:=[8]) (by kernel_rfl) (by decide) ?_;refine jE.2 ?_;refine wpOp_value (i:=8) (d:=17) (v:= .agg #[.string ⟨x.name.toArray⟩,.slice av T.len ac]) (w':=WA.alloc (.cells #[.string ⟨#[]⟩,.slice none 0 0] 24)) rfl rfl (by kernel_rfl) (by go_simp) ?_;refine⟨⟨hbA.alloc hbA.size _,Dg.row_alloc hA0 _,Dg.row_alloc hA1 _⟩,?_⟩
      simp only[jA,jB,jC];refine wpAnyH_all (fuel:=0) (rs:=[10]) (by kernel_rfl) (by decide) ?_;refine jE.2 ?_;refine wpOp_skip (i:=10) (w':=WA.alloc (.cells #[.string ⟨x.name.toArray⟩,.slice av T.len ac] 24)) rfl rfl (by kernel_rfl) (by go_simp) ?_;refine⟨⟨hbA.alloc hbA.size _,Dg.row_alloc hA0 _,Dg.row_alloc hA1 _⟩,wpAnyH_done (by kernel_rfl) ?_ _⟩
      refine⟨rfl,WA.heap.size,av,ac,Since w2.drew WA,⟨hbA.alloc hbA.size _,Dg.row_alloc hA0 _,Dg.row_new WA #[.string ⟨x.name.toArray⟩,.slice av T.len ac] 24,Dg.row_alloc hA1 _,jR hz2 hbA2.size,TAt.keep (fun b hb hl=>((Below.refl WA.heap.size WA).alloc (jG _) _).block b hl) (fun b hb _=>hb) _ _ _ _ _ htA,fun b hb=>⟨jR hz2 hb.1,by have:=hb.2;simp;omega,by have:=hb.2;omega⟩⟩,rfl⟩
    ·rintro ch w'' ⟨_,_,_,_,h9,_⟩;cases h9
    ·rintro w'' ⟨_,_,_,_,h9,_⟩;cases h9
   ·refine wpOp_value (i:=9) (d:=3) (v:= .pointer (some ⟨w2.heap.size,0,none⟩)) (w':=w2.drew.alloc (.cells #[.string ⟨#[]⟩,.slice none 0 0] 24)) rfl rfl (by kernel_rfl) (by go_simp) ?_;have hbN:Below w.heap.size w (w2.drew.alloc (.cells #[.string ⟨#[]⟩,.slice none 0 0] 24)):=hbl2.drew.alloc hbl2.size _;have rN:=Dg.row_new w2.drew #[.string ⟨#[]⟩,.slice none 0 0] 24;have hN0:=Dg.row_alloc (w:=w2.drew) s0 (.cells #[.string ⟨#[]⟩,.slice none 0 0] 24);have hN1:=Dg.row_alloc (w:=w2.drew) s1 (.cells #[.string ⟨#[]⟩,.slice none 0 0] 24);have hzN:(w2.drew.alloc (.cells #[.string ⟨#[]⟩,.slice none 0 0] 24)).heap.size=w2.heap.size+1:=by simp
    refine⟨⟨hbN,hN0,hN1⟩,?_⟩
    simp only[jA,jB,jC];generalize w2.drew.alloc (.cells #[.string ⟨#[]⟩,.slice none 0 0] 24)=wN at *;refine wpAnyH_all (fuel:=2) (rs:=[7]) (by kernel_rfl) (by decide) ?_;refine jE.2 ?_;refine wpOp_calls (i:=7) (d:=16) rfl rfl (by kernel_rfl) (f:=150) (args:= #[(.slice (some ⟨b1,off1,none⟩) il icap),.int .i64 0]) (by kernel_rfl) _ (HMB2.out wN hbN) ?_ ?_ ?_
    ·rintro vA WA ⟨hbA2,av,am,ac,hvA,htA⟩;obtain rfl:am=T.len:=by have:=htA.len;omega
     cases hvA;have hbA:Below w.heap.size w WA:=hbN.trans (hbA2.mono hbN.size);have hA0:=(hbA2.block _ (show w.heap.size < wN.heap.size by omega)).trans hN0;have hA1:=(hbA2.block _ (show w.heap.size+1 < wN.heap.size by omega)).trans hN1;have hAN:WA.heap[w2.heap.size]? =some (.cells #[.string ⟨#[]⟩,.slice none 0 0] 24 (0,0)):=(hbA2.block _ (show w2.heap.size < wN.heap.size by omega)).trans rN;refine⟨⟨hbA,hA0,hA1⟩,?_⟩
     simp only[jA,jB,jC];refine wpAnyH_all (fuel:=1) (rs:=[8]) (by kernel_rfl) (by decide) ?_;refine jE.2 ?_;refine wpOp_value (i:=8) (d:=17) (v:= .agg #[.string ⟨x.name.toArray⟩,.slice av T.len ac]) (w':=WA) rfl rfl (by kernel_rfl) (by go_simp) ?_;refine⟨⟨hbA,hA0,hA1⟩,?_⟩
     simp only[jA,jB,jC];refine wpAnyH_all (fuel:=0) (rs:=[10]) (by kernel_rfl) (by decide) ?_;refine jE.2 ?_;have q0:=(Dg.cell_row hAN 0).trans rfl;have q1:=(Dg.cell_row hAN 1).trans rfl;have f0:=Dg.froz_row hAN 0;have f1:=Dg.froz_row hAN 1;refine wpOp_skip (i:=10) (w':=(WA.setCell ⟨w2.heap.size,0,none⟩ (.string ⟨x.name.toArray⟩)).setCell ⟨w2.heap.size,1,none⟩ (.slice av T.len ac)) rfl rfl (by kernel_rfl) (by go_simp) ?_;obtain⟨t1,t2,t3,t4⟩:=two_row hAN (.string ⟨x.name.toArray⟩) (.slice av T.len ac)
     have hbE:=hbA.trans (t4 w.heap.size (by omega));have hE0:=(t3 _ (show w.heap.size≠w2.heap.size by omega)).trans hA0;have hE1:=(t3 _ (show w.heap.size+1≠w2.heap.size by omega)).trans hA1;refine⟨⟨hbE,hE0,hE1⟩,wpAnyH_done (by kernel_rfl) ?_ _⟩
     refine⟨rfl,w2.heap.size,av,ac,Since wN WA,⟨hbE,hE0,t1,hE1,hz2,TAt.keep (fun b hb hl=>t3 b (fun e=>by have:=hb.1;omega)) (fun b hb _=>hb) _ _ _ _ _ htA,fun b hb=>⟨by have:=hb.1;omega,by rw[t2];exact hb.2,by have:=hb.1;omega⟩⟩,rfl⟩
    ·rintro ch w'' ⟨_,_,_,_,h9,_⟩;cases h9
    ·rintro w'' ⟨_,_,_,_,h9,_⟩;cases h9
  ·rintro e a' w3 ⟨rfl,nb,av,ac,P,hN,rfl⟩;clear hbl2 s0 s1 hz2 HMB2;have HN:Hid (SgS w (.slice (some ⟨b1,off1,none⟩) il icap) x T nb w3 av ac P):=hN;have n0:=(Dg.cell_row hN.nd 0).trans rfl;have n1:=(Dg.cell_row hN.nd 1).trans rfl;have hFT:Fair T:=by have h9:=hang_fair HH.out HNm.out;rw[show bodT its (its.length+1) 0=T from HTT.out] at h9;exact h9
   have MM:Hid _:=Make_any w3 x.name T av ac (TAt.keep (fun b _ _=>rfl) (fun b hb _=>(hN.pg b hb).2.1) _ _ _ _ _ hN.tr) hFT (Dg.Tab.later HTb.out hN.bel);clear hN hFT;simp only[Exit.then]
   go_at_K
   go_wp2_with fail
   refine Calls.mono MM.out ?_;rintro e w4 ⟨hb4,he⟩;clear MM n0 n1;have HN4:Hid (SgS w (.slice (some ⟨b1,off1,none⟩) il icap) x T nb w4 av ac P):=HN.out.later hb4;have hz3:=HN.out.bel.size;have hz4:=hb4.size;cases hP:planT x.name T with
   | none=>
    rw[hP] at he
    obtain rfl:e= .returned (.tuple #[.agg #[.slice none 0 0],.int .i64 11]):=he;have HP:Hid (¬(hangs its=true∧planT (nameI its 0) (bodS its)=some its)):=by
     show ¬_;rw[HX.out,HTT.out,hP]
     rintro⟨_,h9⟩
     cases h9
    clear hP
    go_wp2_with fail
    refine Calls.mono (must_no 2 _) ?_;rintro e w'' ⟨rfl,rfl⟩;exact⟨rfl,SagaC.bad HP.out (HN4.out.bel.alloc HN4.out.bel.size _)⟩
   | some its'=>
    rw[hP] at he
    obtain⟨v',rfl,hs⟩:=he
    obtain⟨ia',icap',rfl,_⟩:=id hs.rd
    have hN5:=HN4.out.later ((Below.refl w4.heap.size w4).alloc (jG _) (.cells #[.slice ia' its'.length icap'] 28));have hR5:RdIt (w4.alloc (.cells #[.slice ia' its'.length icap'] 28)) (.slice ia' its'.length icap') its':=hs.rd.later ((Below.refl w4.heap.size w4).alloc (jG _) _);have rn5:=Dg.row_new w4 #[.slice ia' its'.length icap'] 28;have m0:=(Dg.cell_row rn5 0).trans rfl;have m1:=(Dg.cell_row hN5.it 0).trans rfl;obtain⟨hl',ha'⟩:=planT_small hP
    obtain⟨_,h64,_⟩:=hangs_at HH.out
    have ME:=EqualFunc_any its its' (.slice (some ⟨b1,off1,none⟩) its.length icap) (.slice ia' its'.length icap') (w4.alloc (.cells #[.slice ia' its'.length icap'] 28)) (HIt.out.later hN5.bel) hR5 (by omega) hl' HAf.out ha';rw[HIL.out] at ME
    have HME:Hid _:=ME;have HN5:Hid _:=hN5;have HP:Hid _:=hP;clear ME hP hs hR5 hN5 rn5 hl' ha' h64;obtain⟨il',HIL'⟩:∃il',Hid (its'.length=il'):=⟨_,rfl⟩
    rw[HIL'.out] at HN5 HME m0 m1 ⊢
    go_wp2_with fail
    generalize w4.alloc (.cells #[.slice ia' il' icap'] 28)=w5 at *;refine Calls.mono HME.out ?_;rintro e w6 ⟨rfl,hb6⟩;clear HME m0 m1;have HN6:Hid _:=SgS.later HN5.out hb6
    by_cases heq:its=its'
    rotate_left
    ·rw[decide_eq_false heq]
     have HQ:Hid (¬(hangs its=true∧planT (nameI its 0) (bodS its)=some its)):=by
      show ¬_;rw[HX.out,HTT.out,HP.out]
      rintro⟨_,h9⟩
      exact heq (Option.some.inj h9).symm
     go_wp2_with fail
     refine Calls.mono (must_no 2 _) ?_;rintro e w'' ⟨rfl,rfl⟩;exact⟨rfl,SagaC.bad HQ.out (SgS.bel HN6.out)⟩
    ·rw[decide_eq_true heq]
     have HQ:Hid (hangs its=true∧planT (nameI its 0) (bodS its)=some its):=by
      show _∧_;rw[HX.out,HTT.out,HP.out,←heq]
      exact⟨HH.out,rfl⟩
     have n0:=(Dg.cell_row (SgS.nd HN6.out) 0).trans rfl;have n1:=(Dg.cell_row (SgS.nd HN6.out) 1).trans rfl;have p0:=(Dg.cell_row (SgS.res HN6.out) 0).trans rfl;have p1:=(Dg.cell_row (SgS.res HN6.out) 1).trans rfl;have f0:=Dg.froz_row (SgS.res HN6.out) 0;have f1:=Dg.froz_row (SgS.res HN6.out) 1;clear heq
     go_wp2_with fail
     refine Calls.mono (must_yes 2 _) ?_;rintro e w'' ⟨rfl,rfl⟩
     go_wp2_with fail
     obtain⟨t1,t2,t3,t4⟩:=two_row (SgS.res HN6.out) (.string ⟨x.name.toArray⟩) (.slice av T.len ac)
     have hfin:=SagaC.ok (a:=av) (c:=ac) HQ.out ((SgS.bel HN6.out).trans (t4 w.heap.size (by omega))) (by rw[HTT.out];exact TAt.keep (fun b hb _=>t3 b (by have:=(SgS.pg HN6.out b hb).1;omega)) (fun b hb _=>⟨by have:=(SgS.pg HN6.out b hb).1;omega,by rw[t2];exact (SgS.pg HN6.out b hb).2.1⟩) _ _ _ _ _ (SgS.tr HN6.out));rw[HX.out,HTT.out] at hfin
     exact bodyPost_ret_by (results_cell_row rfl _ _ (w.heap.size+1) 24 _ (0,0) _ rfl t1 Tryz.underlying24 rfl (by kernel_rfl)) rfl hfin
end Go.Proofs.YtieoppabellafaaGreatDoor
