/- Texts of the seat, packed: Yd Ye Yf. -/
import Derived.Test.YtieoppabellafaaGreatDoorP17
set_option maxRecDepth 1000000
set_option maxHeartbeats 64000000
set_option linter.unusedVariables false
namespace Go.Proofs.YtieoppabellafaaGreatDoor
open Go.RowKit Go.Shelf Sx
theorem inf68:(Tryz.prog.info? 104).map (fun i=>(i.zero,i.size,i.bytes))=some (some (.agg #[.string ⟨#[]⟩,.string ⟨#[]⟩,.slice none 0 0,.bool false,.bool false,.slice none 0 0]),6,88):=by kernel_rfl
def ndV (l:Lab)(sv:Option Addr)(sm sc:Nat)(av:Option Addr)(am ac:Nat):List Value:=[.string ⟨l.name.toArray⟩,.string ⟨l.undo.toArray⟩,.slice sv sm sc,.bool l.sub,.bool l.vital,.slice av am ac]
theorem VRd.snoc {P:Nat→Prop}{w:World}{l:Lab}{t:Tr}{sv:Option Addr}{sm sc:Nat}{av:Option Addr}{am ac:Nat}(hs:SAt P w l.after sv sm)(ht:TAt P w true t av 0 am):∀(ks:List (Lab × Tr)) (vs:List (List Value)),VRd P w false (nodesL ks) vs→VRd P w false (nodesL (ks ++ [(l,t)])) (vs ++ [ndV l sv sm sc av am ac])
 | [],vs,h=>by
  have:vs=[]:=h;subst this;exact⟨rfl,sv,sm,sc,av,am,ac,[],rfl,hs,ht,rfl⟩
 | (l',t') :: ks,vs,h=>by
  obtain⟨h0,sv',sm',sc',av',am',ac',rest,rfl,h1,h2,h3⟩:=h
  exact⟨h0,sv',sm',sc',av',am',ac',rest ++ [ndV l sv sm sc av am ac],rfl,h1,h2,VRd.snoc hs ht ks rest h3⟩
structure BdS (w:World)(its:List It)(rec:Nat→Tr)(i n k:Nat)(A:World)(P:Nat→Prop)(vs:List Value)(ws:Nat→List (List Value)):Prop where
 bel:Below w.heap.size w A
 row:A.heap[w.heap.size]? =some (.cells vs.toArray 119 (0,0))
 len:vs.length=n
 own:∀(alt:Nat) (v:Value),vs[alt]? =some v→A.ownsRow w.heap.size 104 6 v (ws alt).length (ws alt).flatten
 rd:∀alt,alt < n→VRd P A false (nodesL (kidsT its rec i alt k)) (ws alt)
 ap:∀(alt:Nat) (v:Value) (b:Nat),vs[alt]? =some v→v.ownBlock=some b→¬P b∧w.heap.size < b
 dj:∀(alt alt':Nat) (v v':Value) (b:Nat),vs[alt]? =some v→vs[alt']? =some v'→v.ownBlock=some b→v'.ownBlock=some b→alt=alt'
 pg:∀b,P b→w.heap.size < b∧b < A.heap.size
theorem BdS.later {w:World}{its:List It}{rec:Nat→Tr}{i n k:Nat}{A B:World}{P:Nat→Prop}{vs:List Value}{ws:Nat→List (List Value)}(h:BdS w its rec i n k A P vs ws)(hb:Below A.heap.size A B):BdS w its rec i n k B P vs ws:=by
 refine⟨h.bel.trans (hb.mono h.bel.size),(hb.block _ (Array.getElem?_eq_some_iff.1 h.row).1).trans h.row,h.len,fun alt v hv=>own_below (h.own alt v hv) hb,fun alt ha=>VRd.keep (fun b _ hl=>hb.block b hl) (fun b hb _=>hb) _ _ _ (h.rd alt ha),h.ap,h.dj,fun b hp=>⟨(h.pg b hp).1,Nat.lt_of_lt_of_le (h.pg b hp).2 hb.size⟩⟩
theorem BdS.skip {w:World}{its:List It}{rec:Nat→Tr}{i n k:Nat}{A:World}{P:Nat→Prop}{vs:List Value}{ws:Nat→List (List Value)}(h:BdS w its rec i n k A P vs ws)(y:It)(hy:its[k]? =some y)(hno:¬(y.inn=(i:Int)∧0≤y.alt∧y.alt < (n:Int))):BdS w its rec i n (k+1) A P vs ws:=by
 refine⟨h.bel,h.row,h.len,h.own,fun alt ha=>?_,h.ap,h.dj,h.pg⟩
 rw[kidsT,hy]
 simp only;rw[if_neg (fun hc=>hno ⟨hc.1,by omega,by omega⟩),List.append_nil]
 exact h.rd alt ha
theorem BdS.push {w:World}{its:List It}{rec:Nat→Tr}{i n k:Nat}{A B:World}{P:Nat→Prop}{vs:List Value}{ws:Nat→List (List Value)}(h:BdS w its rec i n k A P vs ws)(y:It)(hy:its[k]? =some y)(hin:y.inn=(i:Int))(alt:Nat)(hal:y.alt=(alt:Int))(hlt:alt < n)
  (hb:Below A.heap.size A B) (sv:Option Addr) (sm sc:Nat) (av:Option Addr) (am ac:Nat) (hs:SAt (Since A B) B (y.after.map (nameI its)) sv sm) (ht:TAt (Since A B) B true (rec k) av 0 am) (v:Value) (hv:vs[alt]? =some v) (hlen:(ws alt).length≤100000) :
  ∃u' W3,(Builtin.append_ #[117,117] 117 #[v,.slice (some ⟨B.heap.size,0,none⟩) 1 1]).run Tryz.prog (B.alloc (.cells (ndV (labI its y) sv sm sc av am ac).toArray 104))= .ok u' W3∧(∃ua m c,u'= .slice ua m c)∧(B.alloc (.cells (ndV (labI its y) sv sm sc av am ac).toArray 104)).grownBy W3 v.ownBlock∧W3.heap[w.heap.size]? =some (.cells vs.toArray 119 (0,0))∧
   ∃P' ws',BdS w its rec i n (k+1) (W3.setCell ⟨w.heap.size,alt,none⟩ u') P' (vs.set alt u') ws':=by
 obtain⟨i0,hi0,hz0,hz1,hz2⟩:=info_parts inf68
 have hB2:Below A.heap.size A (B.alloc (.cells (ndV (labI its y) sv sm sc av am ac).toArray 104)):=hb.alloc hb.size _;have h2:=h.later hB2;have hzW:(B.alloc (.cells (ndV (labI its y) sv sm sc av am ac).toArray 104)).heap.size=B.heap.size+1:=by simp
 have hcl:∀(j:Nat) (u:Value),(ndV (labI its y) sv sm sc av am ac)[j]? =some u→(B.alloc (.cells (ndV (labI its y) sv sm sc av am ac).toArray 104)).cell? ((⟨B.heap.size,0,none⟩:Addr).add j)=some u:=by
  intro j u hj;rw[Go.WideShapes.add_plain,Nat.zero_add,Dg.cell_row (Dg.row_new B (ndV (labI its y) sv sm sc av am ac).toArray 104),←Array.getElem?_toList]
  exact hj
 obtain⟨u',W3,hr3,ho3,hg3,_,hat3⟩:=run_append_own_at (P:=Tryz.prog) (B.alloc (.cells (ndV (labI its y) sv sm sc av am ac).toArray 104)) w.heap.size 117 117 104 i0 _ 6 _ Tryz.underlying117 hi0 hz0 hz1 hz2 rfl (by decide) v _ _ (h2.own alt v hv) ⟨B.heap.size,0,none⟩ 1 1 (ndV (labI its y) sv sm sc av am ac) rfl hcl (by intro u hu;simp[ndV] at hu;rcases hu with rfl | rfl | rfl | rfl | rfl | rfl <;> rfl) (by unfold maxLen;omega) (by omega) h2.bel.size
 have hbz:=hb.size;have hwA:w.heap.size < A.heap.size:=(Array.getElem?_eq_some_iff.1 h.row).1;have hne:∀b,(b≤w.heap.size∨P b∨Since A B b)→some b≠v.ownBlock:=by
  intro b hb' e;obtain⟨h9,h8⟩:=h.ap alt v b hv e.symm
  rcases hb' with h7 | h7 | h7
  ·omega
  ·exact h9 h7
  ·have:=(own_exists (h.own alt v hv) b e.symm).2;have:=h7.1;omega
 have hr0:W3.heap[w.heap.size]? =some (.cells vs.toArray 119 (0,0)):=(hg3.block _ (Array.getElem?_eq_some_iff.1 h2.row).1 (hne _ (.inl (Nat.le_refl _)))).trans h2.row;obtain⟨ua,uc,rfl⟩:=own_slice ho3
 refine⟨_,W3,hr3,⟨_,_,_,rfl⟩,hg3,hr0,fun b=>P b∨Since A B b,fun a=>if a=alt then ws alt ++ [ndV (labI its y) sv sm sc av am ac] else ws a,?_⟩
 obtain⟨u',hu'⟩:∃u',Value.slice ua ((ws alt).length+1) uc=u':=⟨_,rfl⟩
 rw[hu'] at ho3 hat3 ⊢
 have hz3:=hg3.size;have hoth:∀b,b≠w.heap.size→(W3.setCell ⟨w.heap.size,alt,none⟩ u').heap[b]? =W3.heap[b]? :=fun b hb'=>Below.heap_setCell _ _ _ _ hb'
 have hkeep:∀b,w.heap.size < b→b < (B.alloc (.cells (ndV (labI its y) sv sm sc av am ac).toArray 104)).heap.size→some b≠v.ownBlock→(W3.setCell ⟨w.heap.size,alt,none⟩ u').heap[b]? =(B.alloc (.cells (ndV (labI its y) sv sm sc av am ac).toArray 104)).heap[b]? :=fun b h1 h3 h4=>(hoth b (by omega)).trans (hg3.block b h3 h4)
 have hub:∀b,u'.ownBlock=some b→v.ownBlock=some b∨b=B.heap.size+1:=by
  intro b hb'
  rcases hat3 with h9 | h9
  ·exact .inl (h9.symm.trans hb')
  ·rw[h9] at hb'
   right
   have:=Option.some.inj hb';omega
 have hvlt:∀(a:Nat) (z:Value) (b:Nat),vs[a]? =some z→z.ownBlock=some b→b < A.heap.size:=fun a z b h1 h3=>(own_exists (h.own a z h1) b h3).2
 have halen:alt < vs.length:=by rw[h.len];exact hlt
 have hget:∀(a:Nat) (z:Value),(vs.set alt u')[a]? =some z→(a=alt∧z=u')∨(a≠alt∧vs[a]? =some z):=by
  intro a z hz
  by_cases hae:a=alt
  ·subst hae;rw[List.getElem?_set_self halen] at hz
   exact .inl ⟨rfl,(Option.some.inj hz).symm⟩
  ·rw[List.getElem?_set_ne (Ne.symm hae)] at hz
   exact .inr ⟨hae,hz⟩
 refine⟨?_,?_,by rw[List.length_set];exact h.len,?_,?_,?_,?_,?_⟩
 ·exact (h2.bel.trans ⟨hg3.os,hg3.tape,hg3.output,hg3.size,fun b hb'=>hg3.block b (by omega) (hne b (.inl (by omega)))⟩).setCell (Nat.le_refl _) _
 ·have:=Dg.row_set hr0 alt u'
  simpa using this
 ·intro a z hz
  rcases hget a z hz with ⟨rfl,rfl⟩ | ⟨hae,hz'⟩
  ·simp only[if_true];have h9:W3.ownsRow w.heap.size 104 6 z (ws a ++ [ndV (labI its y) sv sm sc av am ac]).length (ws a ++ [ndV (labI its y) sv sm sc av am ac]).flatten:=by
    rw[List.length_append,List.flatten_append]
    simpa using ho3
   exact own_agree (G:=fun b=>b≠w.heap.size) hoth h9 (fun b hb'=>by
    rcases hub b hb' with h8 | h8
    ·have:=(h.ap a v b hv h8).2;omega
    ·omega)
  ·simp only[if_neg hae];exact own_agree (G:=fun b=>z.ownBlock=some b) (fun b hb'=>hkeep b (h.ap a z b hz' hb').2 (by have:=hvlt a z b hz' hb';omega) (fun e=>hae (h.dj a alt z v b hz' hv hb' e.symm))) (h2.own a z hz') (fun b hb'=>hb')
 ·intro a ha;have hkP:Keeps P (B.alloc (.cells (ndV (labI its y) sv sm sc av am ac).toArray 104)) (W3.setCell ⟨w.heap.size,alt,none⟩ u'):=fun b hp hl=>hkeep b (h.pg b hp).1 hl (hne b (.inr (.inl hp)))
  have hkS:Keeps (Since A B) B (W3.setCell ⟨w.heap.size,alt,none⟩ u'):=fun b hp hl=>(hkeep b (by have:=hp.1;omega) (by omega) (hne b (.inr (.inr hp)))).trans (((Below.refl B.heap.size B).alloc (Nat.le_refl _) _).block b hl)
  rw[kidsT,hy]
  simp only
  by_cases hae:a=alt
  ·subst hae;simp only[if_true];rw[if_pos ⟨hin,hal⟩]
   refine VRd.snoc ?_ ?_ _ _ (VRd.keep hkP (fun b hb' _=> .inl hb') _ _ _ (h2.rd a ha))
   ·exact SAt.keep hs hkS (fun b hb' _=> .inr hb')
   ·exact TAt.keep hkS (fun b hb' _=> .inr hb') _ _ _ _ _ ht
  ·simp only[if_neg hae];rw[if_neg (fun hc=>hae (by have:=hc.2;omega)),List.append_nil]
   exact VRd.keep hkP (fun b hb' _=> .inl hb') _ _ _ (h2.rd a ha)
 ·intro a z b hz hb'
  rcases hget a z hz with ⟨rfl,rfl⟩ | ⟨hae,hz'⟩
  ·rcases hub b hb' with h8 | h8
   ·obtain⟨h9,h7⟩:=h.ap a v b hv h8
    have:=hvlt a v b hv h8;exact⟨fun hp=>hp.elim h9 (fun hp=>by have:=hp.1;omega),h7⟩
   ·exact⟨fun hp=>hp.elim (fun hp=>by have:=(h.pg b hp).2;omega) (fun hp=>by have:=hp.2;omega),by omega⟩
  ·obtain⟨h9,h7⟩:=h.ap a z b hz' hb'
   have:=hvlt a z b hz' hb';exact⟨fun hp=>hp.elim h9 (fun hp=>by have:=hp.1;omega),h7⟩
 ·intro a a' z z' b hz hz' hb1 hb2
  rcases hget a z hz with ⟨h1,h3⟩ | ⟨hae,h1⟩
  ·rcases hget a' z' hz' with ⟨h4,h5⟩ | ⟨hae',h4⟩
   ·rw[h1,h4]
   ·rw[h3] at hb1
    rcases hub b hb1 with h8 | h8
    ·rw[h1]
     exact (h.dj alt a' v z' b hv h4 h8 hb2)
    ·have:=hvlt a' z' b h4 hb2;omega
  ·rcases hget a' z' hz' with ⟨h4,h5⟩ | ⟨hae',h4⟩
   ·rw[h5] at hb2
    rcases hub b hb2 with h8 | h8
    ·rw[h4]
     exact (h.dj a alt z v b h1 hv hb1 h8)
    ·have:=hvlt a z b h1 hb1;omega
   ·exact h.dj a a' z z' b h1 h4 hb1 hb2
 ·intro b hp;have hsz4:(W3.setCell ⟨w.heap.size,alt,none⟩ u').heap.size=W3.heap.size:=by simp
  rw[hsz4]
  rcases hp with hp | hp
  ·exact⟨(h.pg b hp).1,by have:=(h.pg b hp).2;omega⟩
  ·exact⟨by have:=hp.1;omega,by have:=hp.2;omega⟩
theorem inf71:(Tryz.prog.info? 119).map (fun i=>(i.zero,i.size,i.bytes))=some (some (.agg #[.slice none 0 0]),1,24):=by kernel_rfl
theorem nodesL_len:∀l:List (Lab × Tr),(nodesL l).len=l.length
 | []=>rfl
 | (l,t) :: r=>by simp[nodesL,Tr.len,nodesL_len r]
theorem kidsT_len (its:List It)(rec:Nat→Tr)(i alt:Nat):∀k,(kidsT its rec i alt k).length≤k
 | 0=>Nat.le_refl _
 | k+1=>by
  have:=kidsT_len its rec i alt k;rw[kidsT,List.length_append]
  cases its[k]? with
  | none=>simp;omega
  | some x=>
   simp only
   split <;> simp <;> omega
theorem BdS.short {w:World}{its:List It}{rec:Nat→Tr}{i n k:Nat}{A:World}{P:Nat→Prop}{vs:List Value}{ws:Nat→List (List Value)}(h:BdS w its rec i n k A P vs ws)(alt:Nat)(ha:alt < n):(ws alt).length≤k:=by
 rw[(h.rd alt ha).len,nodesL_len]
 exact kidsT_len its rec i alt k
theorem BdS.new (w:World)(its:List It)(rec:Nat→Tr)(i n:Nat):BdS w its rec i n 0 (w.alloc (.cells (madeCells #[Value.slice none 0 0] n) 119)) (fun _=>False) (List.replicate n (.slice none 0 0)) (fun _=>[]):=by
 have hget:∀(alt:Nat) (v:Value),(List.replicate n (Value.slice none 0 0))[alt]? =some v→v= .slice none 0 0:=by
  intro alt v hv;exact (List.mem_replicate.1 (List.mem_of_getElem? hv)).2
 refine⟨(Below.refl _ _).alloc (Nat.le_refl _) _,by rw[←Dg.made_nil];exact Dg.row_new w _ 119,List.length_replicate,?_,fun alt _=>rfl,?_,?_,fun b hb=>hb.elim⟩
 ·intro alt v hv;rw[hget alt v hv]
  exact World.ownsRow_nil _ _ _ _
 ·intro alt v b hv hb;rw[hget alt v hv] at hb
  cases hb
 ·intro alt alt' v v' b hv _ hb _;rw[hget alt v hv] at hb
  cases hb
theorem BdS.bodies {w:World}{its:List It}{rec:Nat→Tr}{i n:Nat}{A:World}{P:Nat→Prop}{vs:List Value}{ws:Nat→List (List Value)}(h:BdS w its rec i n its.length A P vs ws) :
  TAt (Since w A) A true (bodiesL ((List.range n).map fun alt=>nodesL (kidsT its rec i alt its.length))) (some ⟨w.heap.size,0,none⟩) 0 n:=by
 have hwA:w.heap.size < A.heap.size:=(Array.getElem?_eq_some_iff.1 h.row).1;have key:∀(d k:Nat),k+d=n→TAt (Since w A) A true (bodiesL ((List.range' k d).map fun alt=>nodesL (kidsT its rec i alt its.length))) (some ⟨w.heap.size,0,none⟩) k n:=by
  intro d
  induction d with
  | zero=>
   intro k hk;show k=n;omega
  | succ d ih=>
   intro k hk;rw[List.range'_succ,List.map_cons]
   obtain⟨v,hv⟩:∃v,vs[k]? =some v:=⟨_,List.getElem?_eq_getElem (by rw[h.len];omega)⟩
   have hr:VRd (Since w A) A false (nodesL (kidsT its rec i k its.length)) (ws k):=VRd.keep (fun b _ _=>rfl) (fun b hb _=>⟨Nat.le_of_lt (h.pg b hb).1,(h.pg b hb).2⟩) _ _ _ (h.rd k (by omega));obtain⟨a,c,rfl,ht⟩:=hr.own (h.own k v hv) (fun b hb=>⟨(own_exists (h.own k v hv) b hb).1,(own_exists (h.own k v hv) b hb).2⟩)
   refine⟨rfl,by omega,⟨w.heap.size,0,a,_,c,rfl,⟨Nat.le_refl _,hwA⟩,?_,ht⟩,ih (k+1) (by omega)⟩
   rw[Nat.zero_add,Dg.cell_row h.row,List.getElem?_toArray]
   exact hv
 have:=key n 0 (by omega)
 rwa [←List.range_eq_range'] at this
theorem bodiesOf_any (its:List It)(v:Value)(w:World)(i n:Nat)(x:It)(hx:its[i]? =some x)(hIt:RdIt w v its)(hil:its.length≤100000)(hn:x.alts=(n:Int))(hn4:n≤100000)(rec:Nat→Tr)
  (hN:∀(k:Nat) (y:It),its[k]? =some y→y.inn=(i:Int)→∀w1,RdIt w1 v its→Calls Tryz.prog 162 #[v,.int .i64 (k:Int)] w1 fun e w'=>NodC its y (rec k) w1 e w') :
  Calls Tryz.prog 150 #[v,.int .i64 (i:Int)] w fun e w'=>BodC (bodiesL ((List.range n).map fun alt=>nodesL (kidsT its rec i alt its.length))) w e w':=by
 have HNo:Hid _:=hN;have HIt:Hid (RdIt w v its):=hIt;clear hN;obtain⟨ia,icap,rfl,hic,hir⟩:=hIt
 obtain⟨b1,off1,yav,yam,yac,rfl,k0,k1,k2,k3,k4,k5,k6,k7,hz⟩:=hir i x hx
 have hii:(i:Int) < (its.length:Int):=by have:=(List.getElem?_eq_some_iff.1 hx).1;omega
 obtain⟨il,HIL⟩:∃il,Hid (its.length=il):=⟨_,rfl⟩
 rw[HIL.out] at hii hil hic
 rw[hn] at k4
 have HIR:Hid _:=hir;clear hir hx k0 k1 k2 k3 k5 k6 k7 hz;obtain⟨i0,hi0,hz0,hz1,hz2⟩:=info_parts inf71
 have hmk:=fun wx=>run_make (P:=Tryz.prog) wx 22 119 i0 _ Tryz.underlying22 hi0 hz0 .i64 .i64 (n:Int) (n:Int) (by omega) (by omega) (by rw[hz2];omega) (by omega)
 simp only[hz1,Int.toNat_natCast,Nat.mul_one] at hmk;have HS0:Hid _:=BdS.new w its rec i n;rw[show ((its.length:Nat))=il from HIL.out]
 go_enter Tryz.func150,Tryz.ntmps150
 go_wp2_with fail
 clear hmk k4;have HB0:Hid (Below w.heap.size w (w.alloc (.cells (madeCells #[Value.slice none 0 0] n) 119))):=(Below.refl _ _).alloc (Nat.le_refl _) _
 go_loopw [16] (fun kv wr=>∃(k:Nat) (P:Nat→Prop) (vs:List Value) (ws:Nat→List (List Value)),k≤il∧kv= .int .i64 k∧Hid (BdS w its rec i n k wr P vs ws)) (fun kv _=>il - (intOf kv).toNat)
 case atStart=>exact⟨0,_,_,_,Nat.zero_le _,rfl,HS0⟩
 case round=>
  obtain⟨k,P,vs,ws,hk,rfl,HS⟩:=hrel
  rename World=>w4
  clear HS0 HB0
  by_cases hlt:k < il
  rotate_left
  ·have hke:k=il:=by omega
   subst hke;clear HIR HNo
   go_wp2_with fail
   go_ret
   refine⟨HS.out.bel,_,_,_,rfl,?_⟩
   have h9:=HS.out;rw[←HIL.out] at h9 ⊢
   exact h9.bodies
  ·obtain⟨y,hy⟩:∃y,its[k]? =some y:=⟨_,List.getElem?_eq_getElem (by rw[HIL.out];exact hlt)⟩
   obtain⟨b2,off2,zav,zam,zac,he,k0,k1,k2,k3,k4,k5,k6,k7,_⟩:=HIR.out k y hy
   cases he;have j0:=Dg.cell_later HS.out.bel k0;have j1:=Dg.cell_later HS.out.bel k1;have j2:=Dg.cell_later HS.out.bel k2;have j3:=Dg.cell_later HS.out.bel k3;have j4:=Dg.cell_later HS.out.bel k4;have j5:=Dg.cell_later HS.out.bel k5;have j6:=Dg.cell_later HS.out.bel k6;have j7:=Dg.cell_later HS.out.bel k7;clear k0 k1 k2 k3 k4 k5 k6 k7;have hkk:(k:Int) < (il:Int):=by omega
   have rn:=Dg.row_new w4 #[.string ⟨y.name.toArray⟩,.string ⟨y.undo.toArray⟩,.bool y.sub,.bool y.vital,.int .i64 y.alts,.int .i64 y.inn,.int .i64 y.alt,.slice zav zam zac] 50;have g5:=(Dg.cell_row rn 5).trans rfl;have g6:=(Dg.cell_row rn 6).trans rfl;have HS5:Hid _:=HS.out.later ((Below.refl w4.heap.size w4).alloc (Nat.le_refl _) (.cells #[.string ⟨y.name.toArray⟩,.string ⟨y.undo.toArray⟩,.bool y.sub,.bool y.vital,.int .i64 y.alts,.int .i64 y.inn,.int .i64 y.alt,.slice zav zam zac] 50));have HY:Hid _:=hy;clear hy
   by_cases hin:y.inn=(i:Int)
   rotate_left
   ·have hne:(y.inn==(i:Int))=false:=by simpa using hin
    have HSk:Hid _:=HS5.out.skip y HY.out (fun hc=>hin hc.1);clear HS HS5 rn HNo HIR
    go_wp2_with fail
    go_roundw
    case rel=>exact⟨k+1,P,vs,ws,by omega,by go_num,HSk⟩
    case measure=>simp[intOf];omega
   ·by_cases h0:0≤y.alt
    rotate_left
    ·have HSk:Hid _:=HS5.out.skip y HY.out (fun hc=>h0 hc.2.1);rw[hin] at HSk
     have hd0:decide (0≤y.alt)=false:=by simpa using h0
     have hq:(y.inn==(i:Int))=true:=by simpa using hin
     clear HS HS5 rn HNo HIR
     go_wp2_with fail
     go_roundw
     case rel=>exact⟨k+1,P,vs,ws,by omega,by go_num,HSk⟩
     case measure=>simp[intOf];omega
    ·by_cases h1:y.alt < (n:Int)
     rotate_left
     ·have HSk:Hid _:=HS5.out.skip y HY.out (fun hc=>h1 hc.2.2);rw[hin] at HSk
      have hd0:decide (0≤y.alt)=true:=by simpa using h0
      have hd1:decide (y.alt < (n:Int))=false:=by simpa using h1
      have hq:(y.inn==(i:Int))=true:=by simpa using hin
      clear HS HS5 rn HNo HIR
      go_wp2_with fail
      go_roundw
      case rel=>exact⟨k+1,P,vs,ws,by omega,by go_num,HSk⟩
      case measure=>simp[intOf];omega
     ·obtain⟨al,hal⟩:∃al:Nat,y.alt=(al:Int):=⟨y.alt.toNat,by omega⟩
      have hal2:al < n:=by omega
      have HCa:Hid _:=HNo.out k y HY.out hin;have hd0:decide (0≤(al:Int))=true:=by simp
      have hd1:decide ((al:Int) < (n:Int))=true:=by simp;omega
      have hd1':(al:Int) < (n:Int):=by omega
      rw[hal] at j6 g6 rn HS5
      rw[hin] at j5 g5 rn HS5
      have HIn:Hid _:=hin;have HAl:Hid _:=hal;clear HNo HIR h0 h1 hin hal
      go_wp2_with fail
      generalize w4.alloc (.cells #[.string ⟨y.name.toArray⟩,.string ⟨y.undo.toArray⟩,.bool y.sub,.bool y.vital,.int .i64 y.alts,.int .i64 (i:Int),.int .i64 (al:Int),.slice zav zam zac] 50)=w5 at *;clear j0 j1 j2 j3 j4 j5 j6 j7 g5 g6;have hz4:w4.heap.size < w5.heap.size:=(Array.getElem?_eq_some_iff.1 rn).1;have hz0:w.heap.size < w4.heap.size:=(Array.getElem?_eq_some_iff.1 HS.out.row).1;have hSd:=HS5.out.later ((Below.refl w5.heap.size w5).drew);obtain⟨v0,hv0⟩:∃v0,vs[al]? =some v0:=⟨_,List.getElem?_eq_getElem (by rw[HS5.out.len];exact hal2)⟩
      obtain⟨va,vc,rfl⟩:=own_slice (HS5.out.own al v0 hv0)
      obtain⟨vm,HVM⟩:∃vm,Hid ((ws al).length=vm):=⟨_,rfl⟩
      rw[HVM.out] at hv0
      have hcg:w5.drew.cell? ⟨w.heap.size,al,none⟩=some (.slice va vm vc):=(Dg.cell_row hSd.row al).trans (by rw[List.getElem?_toArray];exact hv0);have MC:=HCa.out w5.drew (HIt.out.later hSd.bel);rw[HIL.out] at MC
      have hS0:w5.drew.heap[w4.heap.size]? =some (.cells #[.string ⟨y.name.toArray⟩,.string ⟨y.undo.toArray⟩,.bool y.sub,.bool y.vital,.int .i64 y.alts,.int .i64 (i:Int),.int .i64 (al:Int),.slice zav zam zac] 50 (0,0)):=rn;have HPush:Hid (∀W1 sv sm sc av am ac,Below w5.drew.heap.size w5.drew W1→SAt (Since w5.drew W1) W1 (y.after.map (nameI its)) sv sm→TAt (Since w5.drew W1) W1 true (rec k) av 0 am→
        ∃ua um uc W3,(Builtin.append_ #[117,117] 117 #[.slice va vm vc,.slice (some ⟨W1.heap.size,0,none⟩) 1 1]).run Tryz.prog (W1.alloc (.cells #[.string ⟨y.name.toArray⟩,.string ⟨y.undo.toArray⟩,.slice sv sm sc,.bool y.sub,.bool y.vital,.slice av am ac] 104))= .ok (.slice ua um uc) W3∧W3.heap[w4.heap.size]? =some (.cells #[.string ⟨y.name.toArray⟩,.string ⟨y.undo.toArray⟩,.bool y.sub,.bool y.vital,.int .i64 y.alts,.int .i64 (i:Int),.int .i64 (al:Int),.slice zav zam zac] 50 (0,0))∧W3.cell? ⟨w.heap.size,al,none⟩=some (.slice va vm vc)∧W3.frozen? ⟨w.heap.size,al,none⟩=false∧
         ∃P' vs' ws',Hid (BdS w its rec i n (k+1) (W3.setCell ⟨w.heap.size,al,none⟩ (.slice ua um uc)) P' vs' ws')):=by
       show ∀_,_
       intro W1 sv sm sc av am ac hb1 hs1 ht1;obtain⟨u',W3,hr3,⟨ua,um,uc,rfl⟩,hg3,hrow3,P',ws',hB3⟩:=hSd.push y HY.out HIn.out al HAl.out hal2 hb1 sv sm sc av am ac hs1 ht1 _ hv0 (by have:=HS5.out.short al hal2;omega)
       have hq1:W1.heap[w4.heap.size]? =some (.cells #[.string ⟨y.name.toArray⟩,.string ⟨y.undo.toArray⟩,.bool y.sub,.bool y.vital,.int .i64 y.alts,.int .i64 (i:Int),.int .i64 (al:Int),.slice zav zam zac] 50 (0,0)):=(hb1.block _ hz4).trans rn;have hq2:=Dg.row_alloc hq1 (.cells (ndV (labI its y) sv sm sc av am ac).toArray 104);have hown:=own_below (hSd.own al _ hv0) (hb1.alloc hb1.size (.cells (ndV (labI its y) sv sm sc av am ac).toArray 104));refine⟨ua,um,uc,W3,hr3,(hg3.block _ (Array.getElem?_eq_some_iff.1 hq2).1 (own_other hown hq2 (by decide))).trans hq2,(Dg.cell_row hrow3 al).trans (by rw[List.getElem?_toArray];exact hv0),Dg.froz_row hrow3 al,P',_,ws',hB3⟩
      clear HS HCa HY HIn HAl HIt HS5 hSd hv0;refine wp_region_held (S:=fun w'=>w'.heap[w4.heap.size]? =some (.cells #[.string ⟨y.name.toArray⟩,.string ⟨y.undo.toArray⟩,.bool y.sub,.bool y.vital,.int .i64 y.alts,.int .i64 (i:Int),.int .i64 (al:Int),.slice zav zam zac] 50 (0,0))) (by kernel_rfl) ?_;simp only[List.size_toArray,List.length_cons,List.length_nil,Nat.reduceAdd,Array.replicate_succ,Array.replicate_zero,List.push_toArray,List.nil_append,List.cons_append];refine tK 0 37 ((.slice (some ⟨w.heap.size,0,none⟩) n n)) 16 rfl hS0 ?_;refine tG 1 38 (.pointer (some ⟨w4.heap.size,6,none⟩)) 15 rfl hS0 ?_;refine tV 2 39 (.int .i64 (al:Int)) 14 rfl hS0 ?_ (fun w9 hw9=>by have z0:=(Dg.cell_row hw9 6).trans rfl;go_simp);refine tK 3 40 ((.slice (some ⟨w.heap.size,0,none⟩) n n)) 13 rfl hS0 ?_;refine tG 4 41 (.pointer (some ⟨w4.heap.size,6,none⟩)) 12 rfl hS0 ?_;refine tV 5 42 (.int .i64 (al:Int)) 11 rfl hS0 ?_ (fun w9 hw9=>by have z0:=(Dg.cell_row hw9 6).trans rfl;go_simp);refine tG 6 43 (.pointer (some ⟨w.heap.size,al,none⟩)) 10 rfl hS0 ?_;refine tG 7 44 (.pointer (some ⟨w.heap.size,al,none⟩)) 9 rfl hS0 ?_;refine tK 9 46 ((.slice (some ⟨b1,off1,none⟩) il icap)) 8 rfl hS0 ?_;refine tK 10 47 (.int .i64 (k:Int)) 7 rfl hS0 ?_;refine wpAnyH_all (fuel:=6) (rs:=[8,11]) (by kernel_rfl) (by decide) ?_;refine List.forall_mem_cons.2 ⟨?_,List.forall_mem_singleton.2 ?_⟩
      ·refine wpOp_value (i:=8) (d:=45) (v:= .slice va vm vc) (w':=w5.drew) rfl rfl (by kernel_rfl) (by go_simp) ?_;refine⟨hS0,?_⟩
       simp only[List.setIfInBounds_toArray,List.set_cons_succ,List.set_cons_zero];refine wpAnyH_all (fuel:=5) (rs:=[11]) (by kernel_rfl) (by decide) ?_;refine List.forall_mem_singleton.2 ?_;refine wpOp_calls (i:=11) (d:=48) rfl rfl (by kernel_rfl) (f:=162) (args:= #[(.slice (some ⟨b1,off1,none⟩) il icap),.int .i64 (k:Int)]) (by kernel_rfl) _ MC ?_ ?_ ?_
       ·rintro vA W1 ⟨hb1,sv,sm,sc,av,am,ac,hvA,hs1,ht1⟩;cases hvA;obtain⟨ua,um,uc,W3,hr3,hq3,hc3,hf3,P',vs',ws',HB3⟩:=HPush.out W1 sv sm sc av am ac hb1 hs1 ht1
        have hq1:W1.heap[w4.heap.size]? =some (.cells #[.string ⟨y.name.toArray⟩,.string ⟨y.undo.toArray⟩,.bool y.sub,.bool y.vital,.int .i64 y.alts,.int .i64 (i:Int),.int .i64 (al:Int),.slice zav zam zac] 50 (0,0)):=(hb1.block _ hz4).trans rn;refine⟨hq1,?_⟩
        simp only[List.setIfInBounds_toArray,List.set_cons_succ,List.set_cons_zero];refine wpAnyH_all (fuel:=4) (rs:=[12]) (by kernel_rfl) (by decide) ?_;refine List.forall_mem_singleton.2 ?_;refine wpOp_value (i:=12) (d:=49) (v:= .slice (some ⟨W1.heap.size,0,none⟩) 1 1) (w':=W1.alloc (.cells #[.string ⟨y.name.toArray⟩,.string ⟨y.undo.toArray⟩,.slice sv sm sc,.bool y.sub,.bool y.vital,.slice av am ac] 104)) rfl rfl (by kernel_rfl) (by go_simp) ?_;refine⟨Dg.row_alloc hq1 _,?_⟩
        simp only[List.setIfInBounds_toArray,List.set_cons_succ,List.set_cons_zero];refine wpAnyH_all (fuel:=3) (rs:=[13]) (by kernel_rfl) (by decide) ?_;refine List.forall_mem_singleton.2 ?_;refine wpOp_value (i:=13) (d:=50) (v:= .slice ua um uc) (w':=W3) rfl rfl (by kernel_rfl) (by simp[execOp,resolve,invoke,builtin,hr3,Result.andThen,Act.eval]) ?_;refine⟨hq3,?_⟩
        simp only[List.setIfInBounds_toArray,List.set_cons_succ,List.set_cons_zero];refine wpAnyH_all (fuel:=2) (rs:=[14]) (by kernel_rfl) (by decide) ?_;refine List.forall_mem_singleton.2 ?_;refine wpOp_value (i:=14) (d:=51) (v:= .pointer (some ⟨w.heap.size,al,none⟩)) (w':=W3) rfl rfl (by kernel_rfl) (by go_simp) ?_;refine⟨hq3,?_⟩
        simp only[List.setIfInBounds_toArray,List.set_cons_succ,List.set_cons_zero];refine wpAnyH_all (fuel:=1) (rs:=[15]) (by kernel_rfl) (by decide) ?_;refine List.forall_mem_singleton.2 ?_;refine wpOp_value (i:=15) (d:=52) (v:= .pointer (some ⟨w.heap.size,al,none⟩)) (w':=W3) rfl rfl (by kernel_rfl) (by go_simp) ?_;refine⟨hq3,?_⟩
        simp only[List.setIfInBounds_toArray,List.set_cons_succ,List.set_cons_zero];refine wpAnyH_all (fuel:=0) (rs:=[16]) (by kernel_rfl) (by decide) ?_;refine List.forall_mem_singleton.2 ?_;refine wpOp_skip (i:=16) (w':=W3.setCell ⟨w.heap.size,al,none⟩ (.slice ua um uc)) rfl rfl (by kernel_rfl) (by go_simp) ?_;refine⟨Dg.row_other hq3 _ (by omega),by kernel_rfl,?_⟩
        clear hr3 hq3 hc3 hf3 hq1 MC HPush hcg hS0 rn
        go_wp2_with fail
        go_roundw
        case rel=>exact⟨k+1,P',vs',ws',by omega,by go_num,HB3⟩
        case measure=>simp[intOf];omega
       ·rintro ch w'' ⟨_,_,_,_,_,_,_,h9,_⟩;cases h9
       ·rintro w'' ⟨_,_,_,_,_,_,_,h9,_⟩;cases h9
      ·refine wpOp_calls (i:=11) (d:=48) rfl rfl (by kernel_rfl) (f:=162) (args:= #[(.slice (some ⟨b1,off1,none⟩) il icap),.int .i64 (k:Int)]) (by kernel_rfl) _ MC ?_ ?_ ?_
       ·rintro vA W1 ⟨hb1,sv,sm,sc,av,am,ac,hvA,hs1,ht1⟩;cases hvA;obtain⟨ua,um,uc,W3,hr3,hq3,hc3,hf3,P',vs',ws',HB3⟩:=HPush.out W1 sv sm sc av am ac hb1 hs1 ht1
        have hq1:W1.heap[w4.heap.size]? =some (.cells #[.string ⟨y.name.toArray⟩,.string ⟨y.undo.toArray⟩,.bool y.sub,.bool y.vital,.int .i64 y.alts,.int .i64 (i:Int),.int .i64 (al:Int),.slice zav zam zac] 50 (0,0)):=(hb1.block _ hz4).trans rn;have hcg1:=Dg.cell_later hb1 hcg;refine⟨hq1,?_⟩
        simp only[List.setIfInBounds_toArray,List.set_cons_succ,List.set_cons_zero];refine wpAnyH_all (fuel:=5) (rs:=[8,12]) (by kernel_rfl) (by decide) ?_;refine List.forall_mem_cons.2 ⟨?_,List.forall_mem_singleton.2 ?_⟩
        ·refine wpOp_value (i:=8) (d:=45) (v:= .slice va vm vc) (w':=W1) rfl rfl (by kernel_rfl) (by go_simp) ?_;refine⟨hq1,?_⟩
         simp only[List.setIfInBounds_toArray,List.set_cons_succ,List.set_cons_zero];refine wpAnyH_all (fuel:=4) (rs:=[12]) (by kernel_rfl) (by decide) ?_;refine List.forall_mem_singleton.2 ?_;refine wpOp_value (i:=12) (d:=49) (v:= .slice (some ⟨W1.heap.size,0,none⟩) 1 1) (w':=W1.alloc (.cells #[.string ⟨y.name.toArray⟩,.string ⟨y.undo.toArray⟩,.slice sv sm sc,.bool y.sub,.bool y.vital,.slice av am ac] 104)) rfl rfl (by kernel_rfl) (by go_simp) ?_;refine⟨Dg.row_alloc hq1 _,?_⟩
         simp only[List.setIfInBounds_toArray,List.set_cons_succ,List.set_cons_zero];refine wpAnyH_all (fuel:=3) (rs:=[13]) (by kernel_rfl) (by decide) ?_;refine List.forall_mem_singleton.2 ?_;refine wpOp_value (i:=13) (d:=50) (v:= .slice ua um uc) (w':=W3) rfl rfl (by kernel_rfl) (by simp[execOp,resolve,invoke,builtin,hr3,Result.andThen,Act.eval]) ?_;refine⟨hq3,?_⟩
         simp only[List.setIfInBounds_toArray,List.set_cons_succ,List.set_cons_zero];refine wpAnyH_all (fuel:=2) (rs:=[14]) (by kernel_rfl) (by decide) ?_;refine List.forall_mem_singleton.2 ?_;refine wpOp_value (i:=14) (d:=51) (v:= .pointer (some ⟨w.heap.size,al,none⟩)) (w':=W3) rfl rfl (by kernel_rfl) (by go_simp) ?_;refine⟨hq3,?_⟩
         simp only[List.setIfInBounds_toArray,List.set_cons_succ,List.set_cons_zero];refine wpAnyH_all (fuel:=1) (rs:=[15]) (by kernel_rfl) (by decide) ?_;refine List.forall_mem_singleton.2 ?_;refine wpOp_value (i:=15) (d:=52) (v:= .pointer (some ⟨w.heap.size,al,none⟩)) (w':=W3) rfl rfl (by kernel_rfl) (by go_simp) ?_;refine⟨hq3,?_⟩
         simp only[List.setIfInBounds_toArray,List.set_cons_succ,List.set_cons_zero];refine wpAnyH_all (fuel:=0) (rs:=[16]) (by kernel_rfl) (by decide) ?_;refine List.forall_mem_singleton.2 ?_;refine wpOp_skip (i:=16) (w':=W3.setCell ⟨w.heap.size,al,none⟩ (.slice ua um uc)) rfl rfl (by kernel_rfl) (by go_simp) ?_;refine⟨Dg.row_other hq3 _ (by omega),by kernel_rfl,?_⟩
         clear hr3 hq3 hc3 hf3 hq1 MC HPush hcg hS0 rn
         go_wp2_with fail
         go_roundw
         case rel=>exact⟨k+1,P',vs',ws',by omega,by go_num,HB3⟩
         case measure=>simp[intOf];omega
        ·refine wpOp_value (i:=12) (d:=49) (v:= .slice (some ⟨W1.heap.size,0,none⟩) 1 1) (w':=W1.alloc (.cells #[.string ⟨y.name.toArray⟩,.string ⟨y.undo.toArray⟩,.slice sv sm sc,.bool y.sub,.bool y.vital,.slice av am ac] 104)) rfl rfl (by kernel_rfl) (by go_simp) ?_;refine⟨Dg.row_alloc hq1 _,?_⟩
         simp only[List.setIfInBounds_toArray,List.set_cons_succ,List.set_cons_zero];refine wpAnyH_all (fuel:=4) (rs:=[8]) (by kernel_rfl) (by decide) ?_;refine List.forall_mem_singleton.2 ?_;have hcg2:=Dg.cell_later ((Below.refl W1.heap.size W1).alloc (Nat.le_refl _) (.cells #[.string ⟨y.name.toArray⟩,.string ⟨y.undo.toArray⟩,.slice sv sm sc,.bool y.sub,.bool y.vital,.slice av am ac] 104)) hcg1;refine wpOp_value (i:=8) (d:=45) (v:= .slice va vm vc) (w':=W1.alloc (.cells #[.string ⟨y.name.toArray⟩,.string ⟨y.undo.toArray⟩,.slice sv sm sc,.bool y.sub,.bool y.vital,.slice av am ac] 104)) rfl rfl (by kernel_rfl) (by go_simp) ?_;refine⟨Dg.row_alloc hq1 _,?_⟩
         simp only[List.setIfInBounds_toArray,List.set_cons_succ,List.set_cons_zero];refine wpAnyH_all (fuel:=3) (rs:=[13]) (by kernel_rfl) (by decide) ?_;refine List.forall_mem_singleton.2 ?_;refine wpOp_value (i:=13) (d:=50) (v:= .slice ua um uc) (w':=W3) rfl rfl (by kernel_rfl) (by simp[execOp,resolve,invoke,builtin,hr3,Result.andThen,Act.eval]) ?_;refine⟨hq3,?_⟩
         simp only[List.setIfInBounds_toArray,List.set_cons_succ,List.set_cons_zero];refine wpAnyH_all (fuel:=2) (rs:=[14]) (by kernel_rfl) (by decide) ?_;refine List.forall_mem_singleton.2 ?_;refine wpOp_value (i:=14) (d:=51) (v:= .pointer (some ⟨w.heap.size,al,none⟩)) (w':=W3) rfl rfl (by kernel_rfl) (by go_simp) ?_;refine⟨hq3,?_⟩
         simp only[List.setIfInBounds_toArray,List.set_cons_succ,List.set_cons_zero];refine wpAnyH_all (fuel:=1) (rs:=[15]) (by kernel_rfl) (by decide) ?_;refine List.forall_mem_singleton.2 ?_;refine wpOp_value (i:=15) (d:=52) (v:= .pointer (some ⟨w.heap.size,al,none⟩)) (w':=W3) rfl rfl (by kernel_rfl) (by go_simp) ?_;refine⟨hq3,?_⟩
         simp only[List.setIfInBounds_toArray,List.set_cons_succ,List.set_cons_zero];refine wpAnyH_all (fuel:=0) (rs:=[16]) (by kernel_rfl) (by decide) ?_;refine List.forall_mem_singleton.2 ?_;refine wpOp_skip (i:=16) (w':=W3.setCell ⟨w.heap.size,al,none⟩ (.slice ua um uc)) rfl rfl (by kernel_rfl) (by go_simp) ?_;refine⟨Dg.row_other hq3 _ (by omega),by kernel_rfl,?_⟩
         clear hr3 hq3 hc3 hf3 hq1 MC HPush hcg hS0 rn
         go_wp2_with fail
         go_roundw
         case rel=>exact⟨k+1,P',vs',ws',by omega,by go_num,HB3⟩
         case measure=>simp[intOf];omega
       ·rintro ch w'' ⟨_,_,_,_,_,_,_,h9,_⟩;cases h9
       ·rintro w'' ⟨_,_,_,_,_,_,_,h9,_⟩;cases h9
def AllL (Q:Lab→Prop):Tr→Prop
 | .e=>True
 | .b x r=>AllL Q x∧AllL Q r
 | .n l t r=>Q l∧AllL Q t∧AllL Q r
theorem dep_le (t:Tr):t.dep≤szA t:=by
 induction t with
 | e=>exact Nat.le_refl _
 | b x r h1 h2=>simp only[Tr.dep,szA];omega
 | n l t r h1 h2=>simp only[Tr.dep,szA];split <;> omega
theorem tw_le (t:Tr):tw t≤szA t:=by
 induction t with
 | e=>exact Nat.le_refl _
 | b x r h1 h2=>simp only[tw,szA];omega
 | n l t r h1 h2=>simp only[tw,szA];split <;> omega
theorem cntA_le (t:Tr):cntA t≤szA t:=by
 induction t with
 | e=>exact Nat.le_refl _
 | b x r h1 h2=>simp only[cntA,szA];omega
 | n l t r h1 h2=>simp only[cntA,szA];omega
theorem sz_le (t:Tr):t.sz≤szA t:=by
 induction t with
 | e=>exact Nat.le_refl _
 | b x r h1 h2=>simp only[Tr.sz,szA];omega
 | n l t r h1 h2=>simp only[Tr.sz,szA];omega
theorem fltn_le (t:Tr):∀d,(fltn d t).length≤szA t:=by
 induction t with
 | e=>intro d;exact Nat.le_refl _
 | b x r h1 h2=>intro d;have:=h1 d;have:=h2 d;simp only[fltn,szA,List.length_append];omega
 | n l t r h1 h2=>
  intro d;have:=h1 (d+1);have:=h2 d;simp only[fltn,szA,List.length_append,List.length_cons]
  split <;> simp <;> omega
theorem xsT_lab {Q:Lab→Prop}(t:Tr):∀inn alt last,AllL Q t→∀y∈xsT t inn alt last,Q y.lab:=by
 induction t with
 | e=>intro _ _ _ _ y hy;cases hy
 | b x r h1 h2=>
  intro inn alt last h y hy
  rcases List.mem_append.1 hy with h9 | h9
  ·exact h1 _ _ _ h.1 y h9
  ·exact h2 _ _ _ h.2 y h9
 | n l t r h1 h2=>
  intro inn alt last h y hy
  rcases List.mem_cons.1 hy with h9 | h9
  ·rw[h9];exact h.1
  ·rcases List.mem_append.1 h9 with h9 | h9
   ·exact h1 _ _ _ h.2.1 y h9
   ·exact h2 _ _ _ h.2.2 y h9
theorem AllL_nodes {Q:Lab→Prop} :∀l:List (Lab × Tr),(∀p∈l,Q p.1∧AllL Q p.2)→AllL Q (nodesL l)
 | [],_=>trivial
 | p :: r,h=>⟨(h p (List.mem_cons_self ..)).1,(h p (List.mem_cons_self ..)).2,AllL_nodes r fun q hq=>h q (List.mem_cons_of_mem _ hq)⟩
theorem AllL_bodies {Q:Lab→Prop} :∀l:List Tr,(∀p∈l,AllL Q p)→AllL Q (bodiesL l)
 | [],_=>trivial
 | p :: r,h=>⟨h p (List.mem_cons_self ..),AllL_bodies r fun q hq=>h q (List.mem_cons_of_mem _ hq)⟩
theorem kidsT_mem {its:List It}{rec:Nat→Tr}{i alt:Nat} :∀k p,p∈kidsT its rec i alt k→∃j x,its[j]? =some x∧p=(labI its x,rec j)
 | 0,p,h=>by cases h
 | k+1,p,h=>by
  rw[kidsT] at h
  rcases List.mem_append.1 h with h9 | h9
  ·exact kidsT_mem k p h9
  ·split at h9
   ·rename_i x hx
    split at h9
    ·rw[List.mem_singleton] at h9
     exact⟨k,x,hx,h9⟩
    ·cases h9
   ·cases h9
theorem AllL_bod {Q:Lab→Prop}{its:List It}(hQ:∀x∈its,Q (labI its x)):∀f i,AllL Q (bodT its f i)
 | 0,_=>trivial
 | f+1,i=>by
  rw[bodT]
  apply AllL_bodies
  intro p hp;obtain⟨alt,_,rfl⟩:=List.mem_map.1 hp
  apply AllL_nodes
  intro q hq;obtain⟨j,x,hx,rfl⟩:=kidsT_mem _ q hq
  exact⟨hQ x (List.mem_of_getElem? hx),AllL_bod hQ f j⟩
theorem hangF_at {n:Nat} :∀(l:List It) (i:Nat),hangF n i l=true→∀(j:Nat) (x:It),l[j]? =some x→hangI n (i+j) x=true
 | [],_,_,j,x,h=>by simp at h
 | y :: r,i,h,j,x,hx=>by
  simp only[hangF,Bool.and_eq_true] at h;cases j with
  | zero=>simp at hx;rw[←hx];exact h.1
  | succ j=>
   have:=hangF_at r (i+1) h.2 j x (by simpa using hx)
   rwa [show i+1+j=i+ (j+1) by omega] at this
theorem hangs_at {its:List It}(h:hangs its=true):0 < its.length∧its.length≤64∧∀(j:Nat) (x:It),its[j]? =some x→x.inn < (j:Int)∧0≤x.alts∧x.alts≤4∧x.after.length < 16∧∀on∈x.after,0≤on∧on < (its.length:Int):=by
 simp only[hangs,Bool.and_eq_true,decide_eq_true_eq] at h;refine⟨h.1,h.2.1,fun j x hx=>?_⟩
 have h9:=hangF_at its 0 h.2.2 j x hx;rw[Nat.zero_add] at h9
 simp only[hangI,Bool.and_eq_true,decide_eq_true_eq,List.all_eq_true] at h9;exact⟨h9.1,h9.2.1,h9.2.2.1,h9.2.2.2.1,h9.2.2.2.2⟩
theorem bodies_rec {its:List It}(h:hangs its=true)(v:Value):∀(f i:Nat),its.length < i+f→i < its.length→∀w,RdIt w v its→Calls Tryz.prog 150 #[v,.int .i64 (i:Int)] w fun e w'=>BodC (bodT its f i) w e w'
 | 0,i,h1,h2,_,_=>by omega
 | f+1,i,h1,h2,w,hIt=>by
  obtain⟨_,h64,hat⟩:=hangs_at h
  obtain⟨x,hx⟩:∃x,its[i]? =some x:=⟨_,List.getElem?_eq_getElem h2⟩
  obtain⟨_,ha0,ha4,_,_⟩:=hat i x hx
  have hai:altsI its i=x.alts.toNat:=by unfold altsI;rw[hx]
  have hB:=bodiesOf_any its v w i x.alts.toNat x hx hIt (by omega) (by omega) (by omega) (bodT its f) (fun k y hy hin w1 hIt1=>by
   obtain⟨hi,_,_,hl,haf⟩:=hat k y hy
   exact nodeOf_any its v w1 k y hy hIt1 haf (by omega) (bodT its f k) (fun w2 hIt2=>bodies_rec h v f k (by omega) (List.getElem?_eq_some_iff.1 hy).1 w2 hIt2))
  rw[bodT,hai]
  exact hB
theorem AllL_afs (t:Tr)(h:AllL (fun l=>l.after.length≤100000) t):t.afs:=by
 induction t with
 | e=>trivial
 | b x r h1 h2=>exact⟨h1 h.1,h2 h.2⟩
 | n l t r h1 h2=>exact⟨by have:=h.1;omega,h1 h.2.1,h2 h.2.2⟩
theorem AllL_mono {Q Q':Lab→Prop}(hq:∀l,Q l→Q' l)(t:Tr)(h:AllL Q t):AllL Q' t:=by
 induction t with
 | e=>trivial
 | b x r h1 h2=>exact⟨h1 h.1,h2 h.2⟩
 | n l t r h1 h2=>exact⟨hq l h.1,h1 h.2.1,h2 h.2.2⟩
theorem Fair.of {t:Tr}(hs:szA t≤100000)(hl:AllL (fun l=>l.name.length≤1000000∧l.after.length≤100000∧∀z∈l.after,z.length≤1000000) t):Fair t:=by
 have h1:=dep_le t;have h2:=tw_le t;have h3:=cntA_le t;have h4:=sz_le t;have h5:=fltn_le t 1;exact⟨⟨by omega,by omega,⟨by omega,AllL_afs t (AllL_mono (fun l h=>h.2.1) t hl)⟩,by omega⟩,by omega,by omega,xsT_lab t 0 0 0 hl⟩
theorem hang_fair {its:List It}(h:hangs its=true)(hnm:∀x∈its,x.name.length≤1000000):Fair (bodT its (its.length+1) 0):=by
 obtain⟨h0,h64,hat⟩:=hangs_at h
 have hsz:=bod_size (its:=its) (fun i x hx=>(hat i x hx).1) (fun i=>by
  unfold altsI;cases hx:its[i]? with
  | none=>simp
  | some x=>have:=(hat i x hx).2.2.1;simp only;omega) 0 h0
 refine Fair.of (by omega) (AllL_bod (fun x hx=>?_) _ _);obtain⟨j,hj,rfl⟩:=List.mem_iff_getElem.1 hx
 obtain⟨_,_,_,hl,_⟩:=hat j its[j] (List.getElem?_eq_getElem hj)
 refine⟨hnm _ hx,by simp only[labI,List.length_map];omega,?_⟩
 intro z hz;simp only[labI,List.mem_map] at hz;obtain⟨on,_,rfl⟩:=hz
 unfold nameI;cases hy:its[on.toNat]? with
 | none=>simp
 | some y=>exact hnm y (List.mem_of_getElem? hy)
end Go.Proofs.YtieoppabellafaaGreatDoor
