/- Texts of the seat, packed: Ke Kf Kg Kh Ki. -/
import Derived.Test.YtieoppabellafaaGreatDoorH01
import Derived.Test.YtieoppabellafaaGreatDoorH13
import Derived.Test.YtieoppabellafaaGreatDoorH15
import Derived.Laws.OwnMore
import Derived.Lib.SliceRun
import Derived.Maps.AppendAt
import Derived.Laws.MakeOwn
set_option maxRecDepth 1000000
set_option maxHeartbeats 64000000
set_option linter.unusedVariables false
namespace Go.Proofs.YtieoppabellafaaGreatDoor.Fc
open Go.RowKit Go.Shelf
def rightB (sub:Bool)(f:Fa):Bool:=if sub then decide (f=Fa.z) else decide (okF f)
def ItV (x:It)(zv:Value):Value:= .agg #[.string ⟨x.name.toArray⟩,.string ⟨x.undo.toArray⟩,.bool x.sub,.bool x.vital,.int .i64 x.alts,.int .i64 x.inn,.int .i64 x.alt,zv]
structure RoS (w:World)(f:Fa)(W:World):Prop where
 bel:Below w.heap.size w W
 box:W.heap[w.heap.size+1]? =some (.cells f.cells.toArray 55 (0,0))
theorem RoS.later {w:World}{f:Fa}{W W':World}(h:RoS w f W)(hb:Below W.heap.size W W'):RoS w f W':=
 ⟨h.bel.trans (hb.mono h.bel.size),(hb.block _ (jD.1 h.box).1).trans h.box⟩
theorem rightOf_any (x:It)(za:Option Addr)(zm zc:Nat)(f:Fa)(w:World):Calls Tryz.prog 60 #[ItV x (.slice za zm zc),FaV f] w fun e w'=>e= .returned (.bool (rightB x.sub f))∧Below w.heap.size w w':=by
 obtain⟨nm,un,sub,vi,al,inn,alt,af⟩:=x
 unfold ItV rightB;dsimp only;have hb0:RoS w f ((w.alloc (.cells #[.string ⟨nm.toArray⟩,.string ⟨un.toArray⟩,.bool sub,.bool vi,.int .i64 al,.int .i64 inn,.int .i64 alt,.slice za zm zc] 50)).alloc (.cells #[.int .i64 f.run,.int .i64 f.tries,.int .i64 f.slips,.bool f.un] 55)):=⟨(bl1 _ _).alloc (by simp) _,by
  have r2:=Dg.row_new (w.alloc (.cells #[.string ⟨nm.toArray⟩,.string ⟨un.toArray⟩,.bool sub,.bool vi,.int .i64 al,.int .i64 inn,.int .i64 alt,.slice za zm zc] 50)) #[.int .i64 f.run,.int .i64 f.tries,.int .i64 f.slips,.bool f.un] 55;rw[jV] at r2
  exact r2⟩
 have HF:Hid (FaV f= .agg #[.int .i64 f.run,.int .i64 f.tries,.int .i64 f.slips,.bool f.un]):=rfl;have HR:Hid _:=right_any f;cases sub with
 | true=>
  obtain⟨q,hE⟩:∃q,decide (f=Fa.z)=q:=⟨_,rfl⟩
  rw[if_pos rfl,hE,HF.out]
  clear HR
  go_enter Tryz.func60,Tryz.ntmps60
  go_wp2_with fail
  generalize (w.alloc (.cells #[.string ⟨nm.toArray⟩,.string ⟨un.toArray⟩,.bool true,.bool vi,.int .i64 al,.int .i64 inn,.int .i64 alt,.slice za zm zc] 50)).alloc (.cells #[.int .i64 f.run,.int .i64 f.tries,.int .i64 f.slips,.bool f.un] 55)=w0 at *;have hS0:RoS w f w0.drew:=hb0.later (Below.refl _ _).drew;refine region_thenF [(7,FaV f),(8,FaV Fa.z),(9,.bool q),(4,.bool q)] (fun w'=>RoS w f w') ?_ ?_
  ·refine wp_region_held (S:=fun w'=>RoS w f w') (by kernel_rfl) ?_;simp only[jN,jM,jP,Nat.reduceAdd,jI,jJ,jO,jL,jK];refine tV 0 7 (FaV f) 3 rfl hS0 ?_ (fun wx h=>by rw[HF.out];obtain⟨z0,z1,z2,z3⟩:=row_cells h.box;go_simp);refine oneC (i:=1) (d:=8) (f:=87) (args:= #[]) (v:=FaV Fa.z) (fuel:=2) rfl rfl (by kernel_rfl) (by kernel_rfl) (fun _=>by kernel_rfl) hS0 (fun wx h=>Calls.mono (idle_any wx) (by rintro e w2 ⟨rfl,hb⟩;exact⟨rfl,h.later hb⟩)) (fun wz hS101=>?_);simp only[jA,jB,jC];refine tV 2 9 (.bool q) 1 rfl hS101 ?_ (fun wx h=>eq_exec f Fa.z (x:= .tmp 7) (y:= .tmp 8) rfl rfl rfl hE);refine tK 3 4 (.bool q) 0 rfl hS101 ?_;refine wpAnyH_done (by kernel_rfl) ?_ _;exact⟨rfl,by kernel_rfl,hS101⟩
  ·intro w9 hF;simp only[setAll,jA,jB,jC];have HF9:Hid _:=hF;clear hF
   go_wp2_with fail
   go_ret
   exact⟨rfl,HF9.out.bel⟩
 | false=>
  rw[if_neg (by decide),HF.out]
  rw[HF.out] at HR
  have HB0:Hid _:=hb0;clear hb0
  go_enter Tryz.func60,Tryz.ntmps60
  go_wp2_with fail
  generalize (w.alloc (.cells #[.string ⟨nm.toArray⟩,.string ⟨un.toArray⟩,.bool false,.bool vi,.int .i64 al,.int .i64 inn,.int .i64 alt,.slice za zm zc] 50)).alloc (.cells #[.int .i64 f.run,.int .i64 f.tries,.int .i64 f.slips,.bool f.un] 55)=w0 at *;refine Calls.mono (HR.out _) ?_;rintro e w2 ⟨rfl,hb⟩;have HB2:Hid _:=HB0.out.later hb
  go_wp2_with fail
  go_ret
  exact⟨rfl,HB2.out.bel⟩
def RF (w:World)(v:Value)(l:List Fa):Prop:=∃a cap,v= .slice a l.length cap∧l.length≤cap∧cap≤maxLen∧∀(i:Nat) (f:Fa),l[i]? =some f→∃b off,a=some ⟨b,off,none⟩∧
 w.cell? ⟨b,off+i * 4,none⟩=some (.int .i64 f.run)∧w.cell? ⟨b,off+i * 4+1,none⟩=some (.int .i64 f.tries)∧w.cell? ⟨b,off+i * 4+2,none⟩=some (.int .i64 f.slips)∧w.cell? ⟨b,off+i * 4+3,none⟩=some (.bool f.un)
theorem RF.later {w w':World}{v:Value}{l:List Fa}(h:RF w v l)(hb:Below w.heap.size w w'):RF w' v l:=by
 obtain⟨a,cap,hv,hc,hm,hr⟩:=h
 refine⟨a,cap,hv,hc,hm,fun i f hi=>?_⟩
 obtain⟨b,off,ha,c0,c1,c2,c3⟩:=hr i f hi
 exact⟨b,off,ha,Dg.cell_later hb c0,Dg.cell_later hb c1,Dg.cell_later hb c2,Dg.cell_later hb c3⟩
def subs (its:List It):List Bool:=its.map It.sub
theorem okF_rightB {sub:Bool}{f:Fa} :rightB sub f=true↔okF f∧(sub=true→f=Fa.z):=by
 unfold rightB;cases sub with
 | true=>
  rw[if_pos rfl,decide_eq_true_eq]
  exact⟨fun h=>⟨by rw[h];exact okF_z,fun _=>h⟩,fun h=>h.2 rfl⟩
 | false=>
  rw[if_neg (by decide),decide_eq_true_eq]
  exact⟨fun h=>⟨h,fun h=>by cases h⟩,fun h=>h.1⟩
theorem subs_getD {its:List It}{i:Nat}{x:It}(h:its[i]? =some x):(subs its).getD i true=x.sub:=by
 unfold subs;rw[jU,zC,h]
 rfl
open Classical in
noncomputable def chkF (its:List It)(l:List Fa):Int:=if (sagaP its).isSome=true∧okL (subs its) l then 0 else 2
theorem chkF_ok {its:List It}{l:List Fa}(h1:(sagaP its).isSome=true)(h2:okL (subs its) l):chkF its l=0:=by
 unfold chkF;rw[if_pos ⟨h1,h2⟩]
theorem chkF_no {its:List It}{l:List Fa}(h:¬((sagaP its).isSome=true∧okL (subs its) l)):chkF its l=2:=by
 unfold chkF;rw[if_neg h]
theorem chkF_at {its:List It}{l:List Fa}{i:Nat}{x:It}{f:Fa}(hx:its[i]? =some x)(hf:l[i]? =some f)(h:rightB x.sub f=false):chkF its l=2:=by
 refine chkF_no fun hh=>?_
 have hi:=(jH.1 hf).1;have h2:=hh.2.2 i hi;rw[subs_getD hx,jU,hf] at h2
 have h3:rightB x.sub f=true:=okF_rightB.2 h2;rw[h] at h3
 cases h3
structure ChS (w:World)(v:Value)(W:World):Prop where
 bel:Below w.heap.size w W
 box:W.heap[w.heap.size]? =some (.cells #[v] 28 (0,0))
theorem ChS.later {w:World}{v:Value}{W W':World}(h:ChS w v W)(hb:Below W.heap.size W W'):ChS w v W':=
 ⟨h.bel.trans (hb.mono h.bel.size),(hb.block _ (jD.1 h.box).1).trans h.box⟩
structure ChR (w:World)(v:Value)(f:Fa)(n:Nat)(W:World):Prop where
 ch:ChS w v W
 row:W.heap[n]? =some (.cells f.cells.toArray 55 (0,0))
theorem ChR.later {w:World}{v:Value}{f:Fa}{n:Nat}{W W':World}(h:ChR w v f n W)(hb:Below W.heap.size W W'):ChR w v f n W':=
 ⟨h.ch.later hb,(hb.block _ (jD.1 h.row).1).trans h.row⟩
theorem checkF_any (its:List It)(v lv:Value)(l:List Fa)(w:World)(hIt:RdIt w v its)(hF:FairI its)(hT:Dg.Tab w)(hl:RF w lv l)(hil:its.length≤1000000000)(hll:l.length≤1000000000) :
  Calls Tryz.prog 29 #[.agg #[v],lv] w fun e w'=>e= .returned (.int .i64 (chkF its l))∧Below w.heap.size w w':=by
 obtain⟨E,HE⟩:∃E,Hid (E=chkF its l):=⟨_,rfl⟩
 rw[←HE.out]
 have hc0:ChS w v (w.alloc (.cells #[v] 28)):=⟨bl1 _ _,Dg.row_new w _ 28⟩;have HC0:Hid _:=hc0;have M0:Hid _:=Right_any its v _ (hIt.later hc0.bel) hF (hT.later hc0.bel);have z0:=(Dg.cell_row hc0.box 0).trans rfl;obtain⟨ia,icap,rfl,hic,hir⟩:=hIt
 obtain⟨la,lcap,rfl,hlc,_,hlr⟩:=hl
 have HIR:Hid _:=hir;have HLR:Hid _:=hlr;clear hc0 hir hlr;obtain⟨n,HN⟩:∃n,Hid (its.length=n):=⟨_,rfl⟩
 obtain⟨m,HM⟩:∃m,Hid (l.length=m):=⟨_,rfl⟩
 have M:Hid (Calls Tryz.prog 52 #[.agg #[.slice ia n icap]] (w.alloc (.cells #[.slice ia n icap] 28)) fun e w'=>e= .returned (.bool (sagaP its).isSome)∧Below (w.alloc (.cells #[.slice ia n icap] 28)).heap.size (w.alloc (.cells #[.slice ia n icap] 28)) w'):=by
  have h:=HN.out;subst h;exact M0.out
 clear M0;rw[HN.out] at hil hic HC0 z0 ⊢
 rw[HM.out] at hll hlc ⊢
 by_cases hmn:m=n
 rotate_left
 ·have hne:((m:Int) !=(n:Int))=true:=by simp;omega
  have HX:Hid (E=2):=HE.out.trans (chkF_no fun h=>hmn (by have:=h.2.1;unfold subs at this;rw[zG,HM.out,HN.out] at this;exact this));clear HE hmn M
  go_enter Tryz.func29,Tryz.ntmps29
  go_wp2_with fail
  go_ret
  exact⟨by rw[HX.out];rfl,HC0.out.bel⟩
 subst hmn;have hne:((m:Int) !=(m:Int))=false:=by simp
 go_enter Tryz.func29,Tryz.ntmps29
 go_wp2_with fail
 generalize w.alloc (.cells #[.slice ia m icap] 28)=w0 at *;refine Calls.mono M.out ?_;rintro e w1 ⟨rfl,hb1⟩;have HC1:Hid _:=HC0.out.later hb1;clear M hb1 z0 HC0;cases hP:(sagaP its).isSome with
 | false=>
  have HX:Hid (E=2):=HE.out.trans (chkF_no fun h=>by rw[hP] at h;exact absurd h.1 (by decide));clear HE hP
  go_wp2_with fail
  go_ret
  exact⟨by rw[HX.out];rfl,HC1.out.bel⟩
 | true=>
  have HP:Hid _:=hP;clear hP
  go_wp2_with fail
  go_loopw [20] (fun iv wr=>∃(k:Nat),k≤m∧iv= .int .i64 k∧Hid (∀(i:Nat) (x:It) (f:Fa),i < k→its[i]? =some x→l[i]? =some f→rightB x.sub f=true)∧Hid (ChS w (.slice ia m icap) wr)) (fun iv _=>m - (intOf iv).toNat)
  case atStart=>exact⟨0,zE _,rfl,fun i x f hi=>by omega,HC1⟩
  case round=>
   obtain⟨k,hk,rfl,HA,HC⟩:=hrel
   rename World=>wr
   by_cases hlt:k < m
   rotate_left
   ·have HX:Hid (E=0):=by
     show _=_;rw[HE.out]
     refine chkF_ok HP.out ⟨by unfold subs;rw[zG,HM.out,HN.out],fun i hi=>?_⟩;rw[HM.out] at hi
     obtain⟨x,hx⟩:∃x,its[i]? =some x:=⟨_,jF (by rw[HN.out];exact hi)⟩
     obtain⟨f,hf⟩:∃f,l[i]? =some f:=⟨_,jF (by rw[HM.out];exact hi)⟩
     rw[subs_getD hx,jU,hf]
     exact okF_rightB.1 (HA.out i x f (by omega) hx hf)
    clear HE HA
    go_wp2_with fail
    go_ret
    exact⟨by rw[HX.out];rfl,HC.out.bel⟩
   obtain⟨x,hx⟩:∃x,its[k]? =some x:=⟨_,jF (by rw[HN.out];exact hlt)⟩
   obtain⟨f,hf⟩:∃f,l[k]? =some f:=⟨_,jF (by rw[HM.out];exact hlt)⟩
   have HX0:Hid (rightB x.sub f=false→E=2):=fun h=>HE.out.trans (chkF_at hx hf h)
   have HA2:Hid (rightB x.sub f=true→∀(i:Nat) (x:It) (f:Fa),i < k+1→its[i]? =some x→l[i]? =some f→rightB x.sub f=true):=fun h i x' f' hi hx' hf'=>by
    by_cases hik:i=k
    ·subst hik;rw[hx] at hx'
     rw[hf] at hf'
     cases hx';cases hf';exact h
    ·exact HA.out i x' f' (by omega) hx' hf'
   obtain⟨fb,fo,rfl,f0,f1,f2,f3⟩:=HLR.out k f hf
   obtain⟨xb,xo,xav,xam,xac,rfl,k0,k1,k2,k3,k4,k5,k6,k7,_⟩:=HIR.out k x hx
   have hbw:=HC.out.bel;have g0:=Dg.cell_later hbw f0;have g1:=Dg.cell_later hbw f1;have g2:=Dg.cell_later hbw f2;have g3:=Dg.cell_later hbw f3;have hii:(k:Int) < (m:Int):=by omega
   have HK:Hid (∀W,Below w.heap.size w W→W.cell? ⟨xb,xo+k * 8,none⟩=some (.string ⟨x.name.toArray⟩)∧W.cell? ⟨xb,xo+k * 8+1,none⟩=some (.string ⟨x.undo.toArray⟩)∧W.cell? ⟨xb,xo+k * 8+2,none⟩=some (.bool x.sub)∧W.cell? ⟨xb,xo+k * 8+3,none⟩=some (.bool x.vital)∧W.cell? ⟨xb,xo+k * 8+4,none⟩=some (.int .i64 x.alts)∧W.cell? ⟨xb,xo+k * 8+5,none⟩=some (.int .i64 x.inn)∧W.cell? ⟨xb,xo+k * 8+6,none⟩=some (.int .i64 x.alt)∧W.cell? ⟨xb,xo+k * 8+7,none⟩=some (.slice xav xam xac)):=fun W hb=>⟨Dg.cell_later hb k0,Dg.cell_later hb k1,Dg.cell_later hb k2,Dg.cell_later hb k3,Dg.cell_later hb k4,Dg.cell_later hb k5,Dg.cell_later hb k6,Dg.cell_later hb k7⟩
   clear k0 k1 k2 k3 k4 k5 k6 k7 f0 f1 f2 f3 hx hf HA hbw
   go_wp2_with fail
   have hfr:=Dg.row_new wr f.cells.toArray 55;have hC2:ChS w (.slice (some ⟨xb,xo,none⟩) m icap) (wr.alloc (.cells f.cells.toArray 55)):=HC.out.later (bl1 _ _);have hS0:ChR w (.slice (some ⟨xb,xo,none⟩) m icap) f wr.heap.size (wr.alloc (.cells f.cells.toArray 55)).drew:=⟨hC2.later (Below.refl _ _).drew,hfr⟩;have HW:Hid (wr.heap.size=wr.heap.size):=rfl;change Code.wp _ _ _ _ (wr.alloc (.cells f.cells.toArray 55));generalize wr.alloc (.cells f.cells.toArray 55)=wa at *;generalize wr.heap.size=fb9 at *;have HF:Hid (FaV f= .agg #[.int .i64 f.run,.int .i64 f.tries,.int .i64 f.slips,.bool f.un]):=rfl;have HIV:Hid (ItV x (.slice xav xam xac)= .agg #[.string ⟨x.name.toArray⟩,.string ⟨x.undo.toArray⟩,.bool x.sub,.bool x.vital,.int .i64 x.alts,.int .i64 x.inn,.int .i64 x.alt,.slice xav xam xac]):=rfl;have HRO:Hid (∀q,rightB x.sub f=q→∀w:World,Calls Tryz.prog 60 #[ItV x (.slice xav xam xac),FaV f] w fun e w'=>e= .returned (.bool q)∧Below w.heap.size w w'):=fun q hq w=>by subst hq;exact rightOf_any x xav xam xac f w
   cases hq:rightB x.sub f with
   | true=>
    have HA3:Hid _:=HA2.out hq;clear HA2 HX0;refine region_thenF [(25,.pointer (some ⟨w.heap.size,0,none⟩)),(26,.slice (some ⟨xb,xo,none⟩) m icap),(27,.int .i64 k),(28,.pointer (some ⟨xb,xo+k * 8,none⟩)),(29,ItV x (.slice xav xam xac)),(30,FaV f),(31,.bool true),(32,.bool false)] (fun w'=>ChR w (.slice (some ⟨xb,xo,none⟩) m icap) f fb9 w') ?_ ?_
    ·refine wp_region_held (S:=fun w'=>ChR w (.slice (some ⟨xb,xo,none⟩) m icap) f fb9 w') (by kernel_rfl) ?_;simp only[jN,jM,jP,Nat.reduceAdd,jI,jJ,jO,jL,jK];refine tG 0 25 (.pointer (some ⟨w.heap.size,0,none⟩)) 7 rfl hS0 ?_;refine tV 1 26 (.slice (some ⟨xb,xo,none⟩) m icap) 6 rfl hS0 ?_ (fun wx h=>by have z0:=(Dg.cell_row h.ch.box 0).trans rfl;go_simp);refine tK 2 27 (.int .i64 k) 5 rfl hS0 ?_;refine tG 3 28 (.pointer (some ⟨xb,xo+k * 8,none⟩)) 4 rfl hS0 ?_;refine tV 4 29 (ItV x (.slice xav xam xac)) 3 rfl hS0 ?_ (fun wx h=>by rw[HIV.out];obtain⟨z0,z1,z2,z3,z4,z5,z6,z7⟩:=HK.out wx h.ch.bel;go_simp);refine tV 5 30 (FaV f) 2 rfl hS0 ?_ (fun wx h=>by rw[HF.out];obtain⟨z0,z1,z2,z3⟩:=row_cells h.row;go_simp);refine oneC (i:=6) (d:=31) (f:=60) (args:= #[ItV x (.slice xav xam xac),FaV f]) (v:= .bool true) (fuel:=1) rfl rfl (by kernel_rfl) (by kernel_rfl) (fun _=>by kernel_rfl) hS0 (fun wx h=>Calls.mono (HRO.out _ hq wx) (by rintro e w2 ⟨rfl,hb⟩;exact⟨rfl,h.later hb⟩)) (fun wz hS106=>?_);simp only[jA,jB,jC];refine tK 7 32 (.bool false) 0 rfl hS106 ?_;refine wpAnyH_done (by kernel_rfl) ?_ _;exact⟨rfl,by kernel_rfl,hS106⟩
    ·intro w9 hF;simp only[setAll,jA,jB,jC];have HF9:Hid _:=hF;clear hF
     go_wp2_with fail
     go_roundw
     case rel=>exact⟨k+1,by omega,by go_num,HA3,HF9.out.ch⟩
     case measure=>simp[intOf];omega
   | false=>
    have HX:Hid _:=HX0.out hq;clear HA2 HX0;refine region_thenF [(25,.pointer (some ⟨w.heap.size,0,none⟩)),(26,.slice (some ⟨xb,xo,none⟩) m icap),(27,.int .i64 k),(28,.pointer (some ⟨xb,xo+k * 8,none⟩)),(29,ItV x (.slice xav xam xac)),(30,FaV f),(31,.bool false),(32,.bool true)] (fun w'=>ChR w (.slice (some ⟨xb,xo,none⟩) m icap) f fb9 w') ?_ ?_
    ·refine wp_region_held (S:=fun w'=>ChR w (.slice (some ⟨xb,xo,none⟩) m icap) f fb9 w') (by kernel_rfl) ?_;simp only[jN,jM,jP,Nat.reduceAdd,jI,jJ,jO,jL,jK];refine tG 0 25 (.pointer (some ⟨w.heap.size,0,none⟩)) 7 rfl hS0 ?_;refine tV 1 26 (.slice (some ⟨xb,xo,none⟩) m icap) 6 rfl hS0 ?_ (fun wx h=>by have z0:=(Dg.cell_row h.ch.box 0).trans rfl;go_simp);refine tK 2 27 (.int .i64 k) 5 rfl hS0 ?_;refine tG 3 28 (.pointer (some ⟨xb,xo+k * 8,none⟩)) 4 rfl hS0 ?_;refine tV 4 29 (ItV x (.slice xav xam xac)) 3 rfl hS0 ?_ (fun wx h=>by rw[HIV.out];obtain⟨z0,z1,z2,z3,z4,z5,z6,z7⟩:=HK.out wx h.ch.bel;go_simp);refine tV 5 30 (FaV f) 2 rfl hS0 ?_ (fun wx h=>by rw[HF.out];obtain⟨z0,z1,z2,z3⟩:=row_cells h.row;go_simp);refine oneC (i:=6) (d:=31) (f:=60) (args:= #[ItV x (.slice xav xam xac),FaV f]) (v:= .bool false) (fuel:=1) rfl rfl (by kernel_rfl) (by kernel_rfl) (fun _=>by kernel_rfl) hS0 (fun wx h=>Calls.mono (HRO.out _ hq wx) (by rintro e w2 ⟨rfl,hb⟩;exact⟨rfl,h.later hb⟩)) (fun wz hS106=>?_);simp only[jA,jB,jC];refine tK 7 32 (.bool true) 0 rfl hS106 ?_;refine wpAnyH_done (by kernel_rfl) ?_ _;exact⟨rfl,by kernel_rfl,hS106⟩
    ·intro w9 hF;simp only[setAll,jA,jB,jC];have HF9:Hid _:=hF;clear hF
     go_wp2_with fail
     go_ret
     exact⟨by rw[HX.out];rfl,HF9.out.ch.bel⟩
end Go.Proofs.YtieoppabellafaaGreatDoor.Fc
namespace Go.Proofs.YtieoppabellafaaGreatDoor.Fc
open Go.RowKit Go.Shelf
def rowsF (l:List Fa):List Value:=l.flatMap Fa.cells
theorem rowsF_cons (f:Fa)(l:List Fa):rowsF (f :: l)=f.cells ++rowsF l:=by simp[rowsF]
theorem rowsF_len (l:List Fa):(rowsF l).length=l.length * 4:=by
  induction l with
  | nil=>rfl
  | cons f l ih=>rw[rowsF_cons,j9,ih,jM];simp[Fa.cells];omega
theorem rowsF_get (l:List Fa)(i:Nat)(f:Fa)(h:l[i]? =some f)(j:Nat)(hj:j < 4):(rowsF l)[i * 4+j]? =f.cells[j]? :=by
  induction l generalizing i with
  | nil=>simp at h
  | cons q l ih=>
    have hl:q.cells.length=4:=rfl
    rw[rowsF_cons]
    cases i with
    | zero=>
      simp at h
      subst h
      rw[Nat.zero_mul,zD,zO (by omega)]
    | succ i=>
      rw[zP (by omega),←ih i (by simpa using h)]
      congr 1
      omega
theorem rowsF_set (l:List Fa)(i:Nat)(f:Fa)(h:i < l.length):rowsF (l.set i f)=((((rowsF l).set (i * 4) (.int .i64 f.run)).set (i * 4+1) (.int .i64 f.tries)).set (i * 4+2) (.int .i64 f.slips)).set (i * 4+3) (.bool f.un):=by
  induction l generalizing i with
  | nil=>simp at h
  | cons q l ih=>
    cases i with
    | zero=>
      simp only[jC,rowsF_cons]
      rfl
    | succ i=>
      simp only[jB,rowsF_cons]
      rw[ih i (by simpa using h)]
      have hl:q.cells.length=4:=rfl
      rw[show (i+1) * 4=i * 4+4 by omega]
      rw[List.set_append_right _ _ (by omega),List.set_append_right _ _ (by omega),List.set_append_right _ _ (by omega),List.set_append_right _ _ (by omega),hl]
      congr 2 <;> omega
def OF (B:Nat)(w:World)(v:Value)(l:List Fa):Prop:=w.ownsRow B 55 4 v l.length (rowsF l)
theorem OF.rf {B:Nat}{w:World}{v:Value}{l:List Fa}(h:OF B w v l):RF w v l:=by
  have hl:=h
  unfold OF at h hl
  rcases h.2 with ⟨rfl,h0⟩ | ⟨g,cap,cur,rfl,_,_,q1,q2,_⟩
  · have h1:l=[]:=zV h0
    subst h1
    exact⟨none,0,rfl,by simp,by unfold maxLen;omega,by simp⟩
  · refine⟨_,cap,rfl,q1,q2,fun i f hf=>⟨g,0,rfl,?_⟩⟩
    have hi:i < l.length:=(jH.1 hf).1
    have cell:∀j,j < 4→w.cell? ⟨g,0+i * 4+j,none⟩=f.cells[j]? :=fun j hj=>by
      have:=hl.cellAt (i * 4+j) (by omega)
      rw[←rowsF_get l i f hf j hj,←this,zD]
    exact⟨cell 0 (by omega),cell 1 (by omega),cell 2 (by omega),cell 3 (by omega)⟩
def codeF (k t:Int)(f:Fa):Fa × Bool:=
  if k=1 then (begunF,decide (f=Fa.z)) else if k=2 then (untriedF 0,decide (f=begunF)) else if k=3 then (failedF,decide (f=begunF))
  else if k=4 then (tryingF t,decide (f=untriedF t)) else if k=5 then (undoneF t,decide (f=tryingF t)) else if k=6 then (untriedF (t+1),decide (f=tryingF t) && decide (t < 3)) else (Fa.z,false)
def methN (k:Int):Nat:=if k=1 then 137 else if k=2 then 138 else if k=3 then 139 else if k=4 then 140 else if k=5 then 141 else if k=6 then 142 else 143
theorem k_cases (k:Int):k=1∨k=2∨k=3∨k=4∨k=5∨k=6∨(¬k=1∧¬k=2∧¬k=3∧¬k=4∧¬k=5∧¬k=6):=by omega
theorem fit_code {k t:Int}{f:Fa}(hf:okF f)(h0:0≤t):fit k t f=if (codeF k t f).2=true then some (codeF k t f).1 else none:=by
  obtain⟨r,tr,sl,un⟩:=f
  obtain⟨a1,a2,a3,a4,a5,a6,a7⟩:=hf
  simp only at a1 a2 a3 a4 a5 a6 a7
  have hc:∀(p q:Prop) [Decidable p] [Decidable q] (x y:Fa),(p↔q)→(q→x=y)→(if p then some x else none)=if decide q=true then some y else none:=by
    intro p q _ _ x y h1 h2
    by_cases hq:q
    · rw[if_pos (h1.2 hq),if_pos (decide_eq_true hq),h2 hq]
    · rw[if_neg (fun h=>hq (h1.1 h)),if_neg (by simpa using hq)]
  rcases k_cases k with rfl | rfl | rfl | rfl | rfl | rfl | h
  · simp only[fit,codeF,if_pos]
    refine hc _ _ _ _ ?_ (fun _=>rfl)
    simp only[Fa.z,Fa.mk.injEq]
    constructor
    · intro h;refine⟨h,by omega,by omega,?_⟩;cases un;rfl;have:=a7 rfl;omega
    · intro h;exact h.1
  · simp only[fit,codeF,show ¬(2:Int)=1 by decide,if_false,if_pos]
    refine hc _ _ _ _ ?_ (fun _=>rfl)
    simp only[begunF,Fa.mk.injEq]
    constructor
    · intro h;refine⟨h,by omega,by omega,?_⟩;cases un;rfl;have:=a7 rfl;omega
    · intro h;exact h.1
  · simp only[fit,codeF,show ¬(3:Int)=1 by decide,show ¬(3:Int)=2 by decide,if_false,if_pos]
    refine hc _ _ _ _ ?_ (fun _=>rfl)
    simp only[begunF,Fa.mk.injEq]
    constructor
    · intro h;refine⟨h,by omega,by omega,?_⟩;cases un;rfl;have:=a7 rfl;omega
    · intro h;exact h.1
  · simp only[fit,codeF,show ¬(4:Int)=1 by decide,show ¬(4:Int)=2 by decide,show ¬(4:Int)=3 by decide,if_false,if_pos]
    refine hc _ _ _ _ ?_ ?_
    · simp only[untriedF,Fa.mk.injEq]
      exact⟨fun h=>⟨h.1,h.2.2.1,h.2.2.2,h.2.1⟩,fun h=>⟨h.1,h.2.2.2,h.2.1,h.2.2.1⟩⟩
    · intro h
      simp only[untriedF,Fa.mk.injEq] at h
      simp only[tryingF,h.2.1,h.2.2.1]
  · simp only[fit,codeF,show ¬(5:Int)=1 by decide,show ¬(5:Int)=2 by decide,show ¬(5:Int)=3 by decide,show ¬(5:Int)=4 by decide,if_false,if_pos]
    refine hc _ _ _ _ ?_ ?_
    · simp only[tryingF,Fa.mk.injEq]
      exact⟨fun h=>⟨by omega,by omega,h.2.2,h.2.1⟩,fun h=>⟨by omega,h.2.2.2,h.2.2.1⟩⟩
    · intro h
      simp only[tryingF,Fa.mk.injEq] at h
      simp only[undoneF,h.2.1,h.2.2.1]
  · simp only[fit,codeF,show ¬(6:Int)=1 by decide,show ¬(6:Int)=2 by decide,show ¬(6:Int)=3 by decide,show ¬(6:Int)=4 by decide,show ¬(6:Int)=5 by decide,if_false,if_pos,←Bool.decide_and]
    refine hc _ _ _ _ ?_ ?_
    · simp only[tryingF,Fa.mk.injEq]
      exact⟨fun h=>⟨⟨by omega,by omega,h.2.2.1,h.2.1⟩,h.2.2.2⟩,fun h=>⟨by omega,h.1.2.2.2,h.1.2.2.1,h.2⟩⟩
    · rintro⟨h,_⟩
      simp only[tryingF,Fa.mk.injEq] at h
      simp only[untriedF,h.2.1,h.2.2.1]
  · obtain⟨h1,h2,h3,h4,h5,h6⟩:=h
    simp only[fit,codeF,h1,h2,h3,h4,h5,h6,if_false]
    rfl
theorem meth_any (k:Int)(f:Fa)(t:Int)(w:World)(h0:0≤t)(h3:t≤3):Calls Tryz.prog (methN k) #[TuV f t] w fun e w'=>e= .returned (.tuple #[FaV (codeF k t f).1,.bool (codeF k t f).2])∧Below w.heap.size w w':=by
  rcases k_cases k with rfl | rfl | rfl | rfl | rfl | rfl | h
  · exact start_any f t w h0 h3
  · exact ok_any f t w h0 h3
  · exact fail_any f t w h0 h3
  · exact undo_any f t w h0 h3
  · exact undone_any f t w h0 h3
  · exact slip_any f t w h0 h3
  · obtain⟨h1,h2,h3,h4,h5,h6⟩:=h
    simp only[methN,codeF,h1,h2,h3,h4,h5,h6,if_false]
    exact none_any f t w
theorem by_any (k:Int)(f:Fa)(t:Int)(w:World):Calls Tryz.prog 106 #[TuV f t,.int .i64 k] w fun e w'=>e= .returned (.func (Fn.func (methN k)) #[TuV f t] #[])∧Below w.heap.size w w':=by
  have HB:Hid _:=bl1 w (.cells #[.int .i64 f.run,.int .i64 f.tries,.int .i64 f.slips,.bool f.un,.int .i64 t] 187)
  unfold TuV
  rcases k_cases k with rfl | rfl | rfl | rfl | rfl | rfl | h
  all_goals first
    | (go_enter Tryz.func106,Tryz.ntmps106
       go_wp2_with fail
       go_ret
       exact⟨rfl,HB.out⟩)
    | (obtain⟨h1,h2,h3,h4,h5,h6⟩:=h
       have HM:Hid (methN k=143):=by show _=_;simp only[methN,h1,h2,h3,h4,h5,h6,if_false]
       have g1:(k==1)=false:=by simpa using h1
       have g2:(k==2)=false:=by simpa using h2
       have g3:(k==3)=false:=by simpa using h3
       have g4:(k==4)=false:=by simpa using h4
       have g5:(k==5)=false:=by simpa using h5
       have g6:(k==6)=false:=by simpa using h6
       go_enter Tryz.func106,Tryz.ntmps106
       go_wp2_with fail
       go_ret
       rw[HM.out]
       exact⟨rfl,HB.out⟩)
def hap (its:List It)(l:List Fa)(e:Ek.Ev):Int × List Fa:=
 if Ek.okE e=true then (match does (subs its) l e.k e.t e.i.toNat with | none=>(14,l) | some m=>(0,m)) else (2,l)
theorem hap_bad {its:List It}{l:List Fa}{e:Ek.Ev}(h:Ek.okE e=false):hap its l e=(2,l):=by
 unfold hap;rw[if_neg (by rw[h];decide)]
theorem hap_none {its:List It}{l:List Fa}{e:Ek.Ev}(h:Ek.okE e=true)(h2:does (subs its) l e.k e.t e.i.toNat=none):hap its l e=(14,l):=by
 unfold hap;rw[if_pos h,h2]
theorem hap_some {its:List It}{l m:List Fa}{e:Ek.Ev}(h:Ek.okE e=true)(h2:does (subs its) l e.k e.t e.i.toNat=some m):hap its l e=(0,m):=by
 unfold hap;rw[if_pos h,h2]
theorem ok_parts {e:Ek.Ev}(h:Ek.okE e=true):1≤e.i∧e.i≤63∧0≤e.t∧e.t≤3∧1≤e.k∧e.k≤6:=by
 unfold Ek.okE at h;rw[jT] at h
 have:=of_decide_eq_true h.1;omega
structure HaS (w:World)(v:Value)(e:Ek.Ev)(sv:Value)(W:World):Prop where
 bel:Below w.heap.size w W
 bp:W.heap[w.heap.size]? =some (.cells #[v] 28 (0,0))
 be:W.heap[w.heap.size+1]? =some (.cells #[.int .i64 e.k,.int .i64 e.i,.int .i64 e.t,sv] 94 (0,0))
theorem HaS.later {w:World}{v:Value}{e:Ek.Ev}{sv:Value}{W W':World}(h:HaS w v e sv W)(hb:Below W.heap.size W W'):HaS w v e sv W':=
 ⟨h.bel.trans (hb.mono h.bel.size),(hb.block _ (jD.1 h.bp).1).trans h.bp,(hb.block _ (jD.1 h.be).1).trans h.be⟩
theorem HaS.init (w:World)(v:Value)(e:Ek.Ev)(sv:Value):HaS w v e sv ((w.alloc (.cells #[v] 28)).alloc (.cells #[.int .i64 e.k,.int .i64 e.i,.int .i64 e.t,sv] 94)):=by
 refine⟨(bl1 _ _).alloc (by simp) _,Dg.row_alloc (Dg.row_new w _ 28) _,?_⟩
 have r2:=Dg.row_new (w.alloc (.cells #[v] 28)) #[.int .i64 e.k,.int .i64 e.i,.int .i64 e.t,sv] 94;rw[jV] at r2
 exact r2
theorem HaS.ev {w:World}{v:Value}{e:Ek.Ev}{sv:Value}{W:World}(h:HaS w v e sv W):W.cell? ⟨w.heap.size+1,0,none⟩=some (.int .i64 e.k)∧W.cell? ⟨w.heap.size+1,1,none⟩=some (.int .i64 e.i)∧W.cell? ⟨w.heap.size+1,2,none⟩=some (.int .i64 e.t)∧W.cell? ⟨w.heap.size+1,3,none⟩=some sv∧W.cell? ⟨w.heap.size,0,none⟩=some v:=
 ⟨Dg.cell_row h.be 0,Dg.cell_row h.be 1,Dg.cell_row h.be 2,Dg.cell_row h.be 3,Dg.cell_row h.bp 0⟩
theorem grown_of {B:Nat}{w w':World}(h:Below w.heap.size w w')(r:Option Nat):w.grownBy w' r:=⟨h.os,h.tape,h.output,h.size,fun k hk _=>h.block k hk⟩
theorem OF.later {B:Nat}{w w':World}{v:Value}{l:List Fa}(h:OF B w v l)(hb:Below w.heap.size w w'):OF B w' v l:=by
 refine⟨h.1,?_⟩
 rcases h.2 with hn | ⟨g,cap,cur,rfl,hB,hg,rest⟩
 ·exact .inl hn
 ·exact .inr ⟨g,cap,cur,rfl,hB,(hb.block g (jD.1 hg).1).trans hg,rest⟩
theorem call_meth (k:Int)(args:Array Value)(w:World):(callFunc (methN k) args).run Tryz.prog w= .ok (.enter (methN k) args) w:=by
 rcases k_cases k with rfl | rfl | rfl | rfl | rfl | rfl | h
 ·show (callFunc 137 args).run Tryz.prog w= .ok (.enter 137 args) w;go_simp
 ·show (callFunc 138 args).run Tryz.prog w= .ok (.enter 138 args) w;go_simp
 ·show (callFunc 139 args).run Tryz.prog w= .ok (.enter 139 args) w;go_simp
 ·show (callFunc 140 args).run Tryz.prog w= .ok (.enter 140 args) w;go_simp
 ·show (callFunc 141 args).run Tryz.prog w= .ok (.enter 141 args) w;go_simp
 ·show (callFunc 142 args).run Tryz.prog w= .ok (.enter 142 args) w;go_simp
 ·obtain⟨h1,h2,h3,h4,h5,h6⟩:=h
  have:methN k=143:=by simp only[methN,h1,h2,h3,h4,h5,h6,if_false]
  rw[this]
  go_simp
theorem grown_trans {a b c:World}{r:Option Nat}(h1:a.grownBy b r)(h2:b.grownBy c r):a.grownBy c r:=
 ⟨h2.os.trans h1.os,h2.tape.trans h1.tape,h2.output.trans h1.output,zH h1.size h2.size,fun k hk hr=>(h2.block k (jR hk h1.size) hr).trans (h1.block k hk hr)⟩
theorem own_set4 {B:Nat}{W:World}{g n cap:Nat}{l:List Fa}(h:W.ownsRow B 55 4 (.slice (some ⟨g,0,none⟩) n cap) n (rowsF l))(hl:l.length=n){i:Nat}(hi:i < n)(f:Fa) :
  OF B ((((W.setCell ⟨g,i * 4,none⟩ (.int .i64 f.run)).setCell ⟨g,i * 4+1,none⟩ (.int .i64 f.tries)).setCell ⟨g,i * 4+2,none⟩ (.int .i64 f.slips)).setCell ⟨g,i * 4+3,none⟩ (.bool f.un)) (.slice (some ⟨g,0,none⟩) n cap) (l.set i f)∧
  W.grownBy ((((W.setCell ⟨g,i * 4,none⟩ (.int .i64 f.run)).setCell ⟨g,i * 4+1,none⟩ (.int .i64 f.tries)).setCell ⟨g,i * 4+2,none⟩ (.int .i64 f.slips)).setCell ⟨g,i * 4+3,none⟩ (.bool f.un)) (some g):=by
 obtain⟨a1,b1⟩:=h.stored (i * 4) (.int .i64 f.run)
 obtain⟨a2,b2⟩:=a1.stored (i * 4+1) (.int .i64 f.tries)
 obtain⟨a3,b3⟩:=a2.stored (i * 4+2) (.int .i64 f.slips)
 obtain⟨a4,b4⟩:=a3.stored (i * 4+3) (.bool f.un)
 refine⟨?_,grown_trans b1 (grown_trans b2 (grown_trans b3 b4))⟩
 unfold OF;rw[List.length_set,hl,rowsF_set l i f (by omega)]
 exact a4
def HapC (its:List It)(l:List Fa)(e:Ek.Ev)(B:Nat)(lv:Value)(w:World)(x:Ending)(w':World):Prop:=
 x= .returned (.int .i64 (hap its l e).1)∧OF B w' lv (hap its l e).2∧w.grownBy w' lv.ownBlock
theorem HapC.same {its:List It}{l:List Fa}{e:Ek.Ev}{B:Nat}{lv:Value}{w w':World}{c:Int}(h:hap its l e=(c,l))(ho:OF B w lv l)(hb:Below w.heap.size w w'):HapC its l e B lv w (.returned (.int .i64 c)) w':=by
 unfold HapC;rw[h]
 exact⟨rfl,ho.later hb,grown_of (B:=0) hb _⟩
theorem happen_any (its:List It)(v lv sv:Value)(l:List Fa)(e:Ek.Ev)(B:Nat)(w:World)(hIt:RdIt w v its)(ho:OF B w lv l)(hl:okL (subs its) l)(hs:Ek.RI w sv e.s)(hsl:e.s.length≤1000000)(hil:its.length≤1000000000) :
  Calls Tryz.prog 72 #[.agg #[v],lv,Ek.EvV e sv] w fun x w'=>HapC its l e B lv w x w':=by
 have hln:l.length=its.length:=by rw[hl.1];unfold subs;rw[zG]
 have h0:=HaS.init w v e sv;have M0:=Ek.check_ev e sv _ (hs.later h0.bel) hsl;have HOW:Hid (OF B w lv l):=ho;obtain⟨sa,sc,rfl,_,_,_⟩:=hs
 obtain⟨ia,icap,rfl,hic,hir⟩:=hIt
 have HIR:Hid _:=hir;obtain⟨la,lcap,rfl,hlc,hlm,hlr⟩:=ho.rf
 have HLR:Hid _:=hlr;have HOK:Hid (okL (subs its) l):=hl;clear hl hir hlr ho;obtain⟨sn,HSN⟩:∃n,Hid (e.s.length=n):=⟨_,rfl⟩
 obtain⟨n,HN⟩:∃n,Hid (its.length=n):=⟨_,rfl⟩
 have HM:Hid (l.length=n):=hln.trans HN.out;clear hln;unfold Ek.EvV at M0 ⊢;rw[HSN.out] at h0 M0 hsl ⊢
 rw[HN.out] at h0 M0 hil hic ⊢
 rw[HM.out] at hlc HOW ⊢
 have H0:Hid (HaS w (.slice ia n icap) e (.slice sa sn sc) ((w.alloc (.cells #[.slice ia n icap] 28)).alloc (.cells #[.int .i64 e.k,.int .i64 e.i,.int .i64 e.t,.slice sa sn sc] 94))):=h0;have M:Hid (∀c:Int,((Ek.evE e:Nat):Int)=c→Calls Tryz.prog 105 #[.agg #[.int .i64 e.k,.int .i64 e.i,.int .i64 e.t,.slice sa sn sc]] ((w.alloc (.cells #[.slice ia n icap] 28)).alloc (.cells #[.int .i64 e.k,.int .i64 e.i,.int .i64 e.t,.slice sa sn sc] 94)) fun x w'=>x= .returned (.int .i64 c)∧Below ((w.alloc (.cells #[.slice ia n icap] 28)).alloc (.cells #[.int .i64 e.k,.int .i64 e.i,.int .i64 e.t,.slice sa sn sc] 94)).heap.size ((w.alloc (.cells #[.slice ia n icap] 28)).alloc (.cells #[.int .i64 e.k,.int .i64 e.i,.int .i64 e.t,.slice sa sn sc] 94)) w'):=by
  show ∀c,_
  rintro c rfl;exact M0
 clear M0 h0;cases hE:Ek.okE e with
 | false=>
  have HH:Hid _:=hap_bad (its:=its) (l:=l) hE
  replace M:Hid _:=M.out 2 (by unfold Ek.evE;rw[hE];rfl)
  clear hE
  go_enter Tryz.func72,Tryz.ntmps72
  go_wp2_with fail
  generalize (w.alloc (.cells #[.slice ia n icap] 28)).alloc (.cells #[.int .i64 e.k,.int .i64 e.i,.int .i64 e.t,.slice sa sn sc] 94)=w0 at *;refine Calls.mono M.out ?_;rintro x w1 ⟨rfl,hb1⟩;have H1:Hid _:=H0.out.later hb1;clear M hb1
  go_wp2_with fail
  go_ret
  exact HapC.same HH.out HOW.out H1.out.bel
 | true=>
  have HH0:Hid (does (subs its) l e.k e.t e.i.toNat=none→hap its l e=(14,l)):=fun h=>hap_none hE h
  have HH1:Hid (∀m,does (subs its) l e.k e.t e.i.toNat=some m→hap its l e=(0,m)):=fun m h=>hap_some hE h
  obtain⟨e1,e2,e3,e4,e5,e6⟩:=ok_parts hE
  replace M:Hid _:=M.out 0 (by unfold Ek.evE;rw[hE];rfl)
  clear hE;obtain⟨ik,HI⟩:∃j:Nat,Hid (e.i=(j:Int)):=⟨e.i.toNat,by show _=_;omega⟩
  have HIN:Hid (e.i.toNat=ik):=by show _=_;rw[HI.out];rfl
  have hi1:1≤ik:=by have:=HI.out;omega
  go_enter Tryz.func72,Tryz.ntmps72
  go_wp2_with fail
  generalize (w.alloc (.cells #[.slice ia n icap] 28)).alloc (.cells #[.int .i64 e.k,.int .i64 e.i,.int .i64 e.t,.slice sa sn sc] 94)=w0 at *;refine Calls.mono M.out ?_;rintro x w1 ⟨rfl,hb1⟩;have H1:Hid _:=H0.out.later hb1;clear M hb1 H0;obtain⟨z0,z1,z2,z3,z4⟩:=H1.out.ev
  rw[HI.out] at z1
  by_cases hlt:ik < n
  rotate_left
  ·have HH:Hid _:=HH0.out (by unfold does;rw[if_neg];rintro⟨_,h,_⟩;rw[HM.out,HIN.out] at h;exact hlt h);have hge:(n:Int)≤(ik:Int):=by omega
   clear HH0 HH1 hlt
   go_wp2_with fail
   go_ret
   exact HapC.same HH.out HOW.out H1.out.bel
  obtain⟨x,hx⟩:∃x,its[ik]? =some x:=⟨_,jF (by rw[HN.out];exact hlt)⟩
  obtain⟨f,hf⟩:∃f,l[ik]? =some f:=⟨_,jF (by rw[HM.out];exact hlt)⟩
  obtain⟨xb,xo,xav,xam,xac,rfl,k0,k1,k2,k3,k4,k5,k6,k7,_⟩:=HIR.out ik x hx
  have hsub:=Dg.cell_later H1.out.bel k2;have HSB:Hid ((subs its).getD ik true=x.sub):=subs_getD hx;have hii:(ik:Int) < (n:Int):=by omega
  clear k0 k1 k2 k3 k4 k5 k6 k7;cases hsu:x.sub with
  | true=>
   have HH:Hid _:=HH0.out (by unfold does;rw[if_neg];rintro⟨_,_,h⟩;rw[HIN.out,HSB.out,hsu] at h;cases h);rw[hsu] at hsub
   clear HH0 HH1 hsu HSB hx hf
   go_wp2_with fail
   go_ret
   exact HapC.same HH.out HOW.out H1.out.bel
  | false=>
   rw[hsu] at hsub
   have hgd:l.getD ik Fa.z=f:=by rw[jU,hf];rfl
   have HOKF:Hid (okF f):=by
    have:=(HOK.out.2 ik (by rw[HM.out];exact hlt)).1;rw[hgd] at this
    exact this
   have HD:Hid (does (subs its) l e.k e.t e.i.toNat=if (codeF e.k e.t f).2=true then some (l.set ik (codeF e.k e.t f).1) else none):=by
    show _=_;unfold does;rw[HIN.out,if_pos ⟨hi1,by rw[HM.out];exact hlt,HSB.out.trans hsu⟩,hgd,fit_code HOKF.out e3]
    split <;> rfl
   obtain⟨fb,fo,hfa,f0,f1,f2,f3⟩:=HLR.out ik f hf
   subst hfa;have HFC:Hid (∀W,Below w.heap.size w W→W.cell? ⟨fb,fo+ik * 4,none⟩=some (.int .i64 f.run)∧W.cell? ⟨fb,fo+ik * 4+1,none⟩=some (.int .i64 f.tries)∧W.cell? ⟨fb,fo+ik * 4+2,none⟩=some (.int .i64 f.slips)∧W.cell? ⟨fb,fo+ik * 4+3,none⟩=some (.bool f.un)):=fun W hb=>⟨Dg.cell_later hb f0,Dg.cell_later hb f1,Dg.cell_later hb f2,Dg.cell_later hb f3⟩
   have hfo:fo=0:=by
    rcases HOW.out.2 with ⟨h,_⟩ | ⟨g',cap',cur',h,_⟩
    ·cases h
    ·simp only[Value.slice.injEq,Option.some.injEq,Addr.mk.injEq] at h;exact h.1.2.1
   subst hfo;obtain⟨gf,q,HGQ⟩:∃gf q,Hid (codeF e.k e.t f=(gf,q)):=⟨_,_,rfl⟩
   rw[HGQ.out] at HD
   have HBY:Hid _:=by_any e.k f e.t;have HME:Hid (∀w:World,Calls Tryz.prog (methN e.k) #[TuV f e.t] w fun x w'=>x= .returned (.tuple #[.agg #[.int .i64 gf.run,.int .i64 gf.tries,.int .i64 gf.slips,.bool gf.un],.bool q])∧Below w.heap.size w w'):=fun w=>by
    have h:=meth_any e.k f e.t w e3 e4;rw[HGQ.out] at h
    exact h
   have hcf:∀wx,(callFunc (methN e.k) #[TuV f e.t]).run Tryz.prog wx= .ok (.enter (methN e.k) #[TuV f e.t]) wx:=fun wx=>call_meth e.k _ wx
   have HF:Hid (FaV f= .agg #[.int .i64 f.run,.int .i64 f.tries,.int .i64 f.slips,.bool f.un]):=rfl;clear HSB hsu hx hf f0 f1 f2 f3 hgd
   go_wp2_with fail
   have hS0:HaS w (.slice (some ⟨xb,xo,none⟩) n icap) e (.slice sa sn sc) w1.drew:=H1.out.later (Below.refl _ _).drew;refine region_thenF [(28,.slice (some ⟨fb,0,none⟩) n lcap),(29,.pointer (some ⟨w.heap.size+1,1,none⟩)),(30,.int .i64 ik),(31,.pointer (some ⟨fb,ik * 4,none⟩)),(32,FaV f),(33,.pointer (some ⟨w.heap.size+1,2,none⟩)),(34,.int .i64 e.t),(35,TuV f e.t),(36,.pointer (some ⟨w.heap.size+1,0,none⟩)),(37,.int .i64 e.k),(38,.func (Fn.func (methN e.k)) #[TuV f e.t] #[]),(7,.func (Fn.func (methN e.k)) #[TuV f e.t] #[])] (fun w'=>HaS w (.slice (some ⟨xb,xo,none⟩) n icap) e (.slice sa sn sc) w') ?_ ?_
   ·refine wp_region_held (S:=fun w'=>HaS w (.slice (some ⟨xb,xo,none⟩) n icap) e (.slice sa sn sc) w') (by kernel_rfl) ?_;simp only[jN,jM,jP,Nat.reduceAdd,jI,jJ,jO,jL,jK];refine tK 0 28 (.slice (some ⟨fb,0,none⟩) n lcap) 11 rfl hS0 ?_;refine tG 1 29 (.pointer (some ⟨w.heap.size+1,1,none⟩)) 10 rfl hS0 ?_;refine tV 2 30 (.int .i64 ik) 9 rfl hS0 ?_ (fun wx h=>by obtain⟨y0,y1,y2,y3,y4⟩:=h.ev;rw[HI.out] at y1;go_simp);refine tG 3 31 (.pointer (some ⟨fb,ik * 4,none⟩)) 8 rfl hS0 ?_;refine tV 4 32 (FaV f) 7 rfl hS0 ?_ (fun wx h=>by rw[HF.out];obtain⟨y0,y1,y2,y3⟩:=HFC.out wx h.bel;rw[zD] at y0 y1 y2 y3;go_simp);refine tG 5 33 (.pointer (some ⟨w.heap.size+1,2,none⟩)) 6 rfl hS0 ?_;refine tV 6 34 (.int .i64 e.t) 5 rfl hS0 ?_ (fun wx h=>by obtain⟨y0,y1,y2,y3,y4⟩:=h.ev;go_simp);refine tV 7 35 (TuV f e.t) 4 rfl hS0 ?_ (fun wx h=>by rw[HF.out];unfold TuV;go_simp);refine tG 8 36 (.pointer (some ⟨w.heap.size+1,0,none⟩)) 3 rfl hS0 ?_;refine tV 9 37 (.int .i64 e.k) 2 rfl hS0 ?_ (fun wx h=>by obtain⟨y0,y1,y2,y3,y4⟩:=h.ev;go_simp);refine oneC (i:=10) (d:=38) (f:=106) (args:= #[TuV f e.t,.int .i64 e.k]) (v:= .func (Fn.func (methN e.k)) #[TuV f e.t] #[]) (fuel:=1) rfl rfl (by kernel_rfl) (by kernel_rfl) (fun _=>by kernel_rfl) hS0 (fun wx h=>Calls.mono (HBY.out wx) (by rintro x w2 ⟨rfl,hb⟩;exact⟨rfl,h.later hb⟩)) (fun wz hS110=>?_);simp only[jA,jB,jC];refine tK 11 7 (.func (Fn.func (methN e.k)) #[TuV f e.t] #[]) 0 rfl hS110 ?_;refine wpAnyH_done (by kernel_rfl) ?_ _;exact⟨rfl,by kernel_rfl,hS110⟩
   ·intro w9 hF;simp only[setAll,jA,jB,jC];have HF9:Hid _:=hF;clear hF
    go_wp2_with fail
    refine Calls.mono (HME.out w9) ?_;rintro x w2 ⟨rfl,hb2⟩;have H2:Hid _:=HF9.out.later hb2;clear hb2 HF9 HME HBY z0 z1 z2 z3 z4;have HCL:Hid (∀W,Below w.heap.size w W→W.cell? ⟨fb,ik * 4,none⟩=some (.int .i64 f.run)∧W.cell? ⟨fb,ik * 4+1,none⟩=some (.int .i64 f.tries)∧W.cell? ⟨fb,ik * 4+2,none⟩=some (.int .i64 f.slips)∧W.cell? ⟨fb,ik * 4+3,none⟩=some (.bool f.un)):=fun W hb=>by
     have h:=HFC.out W hb;rw[zD] at h
     exact h
    cases q with
    | false=>
     have HH:Hid _:=HH0.out (HD.out.trans (if_neg (by decide)));clear HH0 HH1 HD HCL
     go_wp2_with fail
     go_ret
     exact HapC.same HH.out HOW.out (H2.out.bel.alloc H2.out.bel.size _)
    | true=>
     have HH:Hid _:=HH1.out _ (HD.out.trans (if_pos rfl));have hb3:Below w.heap.size w (w2.alloc (.cells #[.int .i64 gf.run,.int .i64 gf.tries,.int .i64 gf.slips,.bool gf.un] 55)):=H2.out.bel.alloc H2.out.bel.size _;have hO:(w2.alloc (.cells #[.int .i64 gf.run,.int .i64 gf.tries,.int .i64 gf.slips,.bool gf.un] 55)).ownsRow B 55 4 (.slice (some ⟨fb,0,none⟩) n lcap) n (rowsF l):=by
      have h:=HOW.out.later hb3;unfold OF at h;rw[HM.out] at h
      exact h
     have HO:Hid _:=hO;have HB3:Hid _:=hb3;obtain⟨c0,c1,c2,c3⟩:=HCL.out _ hb3
     have d0:=hO.frozenAt (ik * 4);have d1:=hO.frozenAt (ik * 4+1);have d2:=hO.frozenAt (ik * 4+2);have d3:=hO.frozenAt (ik * 4+3);obtain⟨y0,y1,y2,y3,y4⟩:=(H2.out.later (bl1 _ (.cells #[.int .i64 gf.run,.int .i64 gf.tries,.int .i64 gf.slips,.bool gf.un] 55))).ev
     rw[HI.out] at y1
     clear HH0 HH1 HD HCL hO hb3
     go_wp2_with fail
     go_ret
     obtain⟨p1,p2⟩:=own_set4 HO.out HM.out hlt gf
     unfold HapC;rw[HH.out]
     exact⟨rfl,p1,grown_trans (grown_of (B:=0) HB3.out _) p2⟩
theorem info38:(Tryz.prog.info? 55).map (fun i=>(i.zero,i.size,i.bytes))=some (some (.agg #[.int .i64 0,.int .i64 0,.int .i64 0,.bool false]),4,32):=by kernel_rfl
theorem rowsF_one (l:List Fa):∀u∈rowsF l,u.oneCell'=true:=by
 intro u hu;obtain⟨f,_,hf⟩:=List.mem_flatMap.1 hu
 simp only[Fa.cells,zJ,List.not_mem_nil,or_false] at hf
 rcases hf with rfl | rfl | rfl | rfl <;> rfl
theorem RF.news {w:World}{b off n cap:Nat}{l:List Fa}(h:RF w (.slice (some ⟨b,off,none⟩) n cap) l):∀j u,(rowsF l)[j]? =some u→w.cell? ((⟨b,off,none⟩:Addr).add j)=some u:=by
 intro j u hu;obtain⟨a,c,e,_,_,hr⟩:=h
 have ha:some (⟨b,off,none⟩:Addr)=a:=by cases e;rfl
 subst ha;have hj:j < l.length * 4:=by rw[←rowsF_len];exact (jH.1 hu).1
 obtain⟨f,hf⟩:∃f,l[j / 4]? =some f:=⟨_,jF (by omega)⟩
 obtain⟨b',off',e',c0,c1,c2,c3⟩:=hr _ f hf
 cases e';have hg:=rowsF_get l (j / 4) f hf (j % 4) (by omega);rw[show j / 4 * 4+j % 4=j by omega,hu] at hg
 have h7:(⟨b,off,none⟩:Addr).add j=⟨b,off+j,none⟩:=by unfold Addr.add;split <;> simp_all
 rw[h7]
 have hm:j % 4=0∨j % 4=1∨j % 4=2∨j % 4=3:=by omega
 rcases hm with h | h | h | h
 ·rw[h] at hg;rw[show off+j=off+j / 4 * 4 by omega,c0];exact hg.symm
 ·rw[h] at hg;rw[show off+j=off+j / 4 * 4+1 by omega,c1];exact hg.symm
 ·rw[h] at hg;rw[show off+j=off+j / 4 * 4+2 by omega,c2];exact hg.symm
 ·rw[h] at hg;rw[show off+j=off+j / 4 * 4+3 by omega,c3];exact hg.symm
theorem cloneF_any (v:Value)(l:List Fa)(w:World)(hl:RF w v l)(h0:0 < l.length)(hn:l.length≤1000000) :
  Calls Tryz.prog 71 #[v] w fun e w'=>Below w.heap.size w w'∧∃u,e= .returned u∧OF w.heap.size w' u l:=by
 have hl':=hl;obtain⟨a,cap,rfl,hc,_,hr⟩:=hl
 obtain⟨i0,hi0,hz0,hz1,hz2⟩:=info_parts info38
 obtain⟨f,hf⟩:∃f,l[0]? =some f:=⟨_,jF h0⟩
 obtain⟨b,off,rfl,_⟩:=hr 0 f hf
 have HNews:Hid (∀j u,(rowsF l)[j]? =some u→(w.alloc (.cells #[] 55)).cell? ((⟨b,off,none⟩:Addr).add j)=some u):=(hl'.later (bl1 _ _)).news;have HOwn:Hid ((w.alloc (.cells #[] 55)).ownsRow w.heap.size 55 4 (.slice (some ⟨w.heap.size,0,none⟩) 0 0) 0 []):=
  ⟨rfl,.inr ⟨w.heap.size,0,#[],rfl,jG _,Dg.row_new _ _ _,jG _,zE _,rfl,rfl⟩⟩
 obtain⟨n,HN⟩:∃n,Hid (l.length=n):=⟨_,rfl⟩
 have HLn:Hid ((rowsF l).length=n * 4):=by show _=_;rw[rowsF_len,HN.out]
 have HOne:Hid (∀u∈rowsF l,u.oneCell'=true):=rowsF_one l;rw[HN.out] at hn hc h0 ⊢
 clear hr hl' hf;have hE:∀w,(binOp .eql 33 (.slice (some ⟨b,off,none⟩) n cap) (.slice none 0 0)).run Tryz.prog w= .ok (.bool false) w:=fun w=>Lib.run_eql_slice_nil w 33 55 (some ⟨b,off,none⟩) n cap 0 0 Tryz.underlying33
 go_enter Tryz.func71,Tryz.ntmps71
 go_wp2_with (at_builtin;refine wpList_append_own_at _ rfl _ _ 33 rfl w.heap.size 55 i0 _ 4 32 Tryz.underlying33 hi0 hz0 hz1 hz2 rfl (by decide) _ 0 [] rfl HOwn.out ⟨b,off,none⟩ n cap (rowsF l) rfl HLn.out HNews.out HOne.out (by unfold maxLen;omega) (by omega) (by simp) ?_;intro v7 w7 ho7 hg7 _ hat7)
 have HB7:Hid (Below w.heap.size w w7):=Below.grown ((Below.refl _ _).alloc (jG _) _) hg7 (by simp) (fun k hk=>(HOwn.out.lt _ hk).1);have HF:Hid (OF w.heap.size w7 v7 l):=by
  show World.ownsRow _ _ _ _ _ _ _;rw[HN.out]
  have h:=ho7;rw[zD,jL] at h
  exact h
 clear ho7 hg7 hat7
 go_wp2_with fail
 go_ret
 exact⟨HB7.out,_,rfl,HF.out⟩
open Classical in
noncomputable def appP (its:List It)(l:List Fa)(e:Ek.Ev):Int ⊕ List Fa:=
 if chkF its l=0 then (if Ek.okE e=true then (match does (subs its) l e.k e.t e.i.toNat with | none=> .inl 14 | some m=> .inr m) else .inl 2) else .inl 2
theorem chkF_iff {its:List It}{l:List Fa} :chkF its l=0↔(sagaP its).isSome=true∧okL (subs its) l:=by
 constructor
 ·intro h
  apply Classical.byContradiction
  intro hn;rw[chkF_no hn] at h
  cases h
 ·intro h;exact chkF_ok h.1 h.2
theorem appP_hap {its:List It}{l:List Fa}(e:Ek.Ev)(h:chkF its l=0):appP its l e=if (hap its l e).1=0 then .inr (hap its l e).2 else .inl (hap its l e).1:=by
 unfold appP hap;rw[if_pos h]
 by_cases h2:Ek.okE e=true
 ·rw[if_pos h2,if_pos h2]
  cases does (subs its) l e.k e.t e.i.toNat <;> rfl
 ·rw[if_neg h2,if_neg h2]
  rfl
def AppC (r:Int ⊕ List Fa)(w:World)(x:Ending)(w':World):Prop:=Below w.heap.size w w'∧match r with
 | .inl c=>x= .returned (.tuple #[.slice none 0 0,.int .i64 c])
 | .inr m=>∃u,x= .returned (.tuple #[u,.int .i64 0])∧OF w.heap.size w' u m
theorem AppC.bad {r:Int ⊕ List Fa}{w w':World}{c:Int}(h:r= .inl c)(hb:Below w.heap.size w w'):AppC r w (.returned (.tuple #[.slice none 0 0,.int .i64 c])) w':=by
 subst h;exact⟨hb,rfl⟩
theorem AppC.ok {r:Int ⊕ List Fa}{w w':World}{m:List Fa}{u:Value}(h:r= .inr m)(hb:Below w.heap.size w w')(ho:OF w.heap.size w' u m):AppC r w (.returned (.tuple #[u,.int .i64 0])) w':=by
 subst h;exact⟨hb,u,rfl,ho⟩
theorem OF.widen {B B':Nat}{w:World}{v:Value}{l:List Fa}(h:OF B w v l)(hB:B'≤B):OF B' w v l:=by
 refine⟨h.1,?_⟩
 rcases h.2 with hn | ⟨g,cap,cur,rfl,hb,rest⟩
 ·exact .inl hn
 ·exact .inr ⟨g,cap,cur,rfl,zH hB hb,rest⟩
theorem root_len {its:List It}(h:(sagaP its).isSome=true):1≤its.length∧its.length≤64:=by
 obtain⟨p,hp⟩:=Option.isSome_iff_exists.1 h
 refine⟨?_,(right_facts hp).1⟩
 unfold sagaP at hp
 split at hp
 ·rename_i hc
  have h2:=hc.2;unfold planT planP at h2
  split at h2
  ·have h3:=Option.some.inj h2;rw[←h3,its2_len]
   omega
  ·cases h2
 ·cases hp
theorem apply_any (its:List It)(v lv sv:Value)(l:List Fa)(e:Ek.Ev)(w:World)(hIt:RdIt w v its)(hF:FairI its)(hT:Dg.Tab w)(hl:RF w lv l)(hs:Ek.RI w sv e.s)(hsl:e.s.length≤1000000)(hil:its.length≤1000000)(hll:l.length≤1000000) :
  Calls Tryz.prog 39 #[.agg #[v],lv,Ek.EvV e sv] w fun x w'=>AppC (appP its l e) w x w':=by
 have h0:=HaS.init w v e sv;have HIt:Hid (∀W,Below w.heap.size w W→RdIt W v its):=fun W hb=>hIt.later hb
 have HL:Hid (∀W,Below w.heap.size w W→RF W lv l):=fun W hb=>hl.later hb
 have HS:Hid (∀W,Below w.heap.size w W→Ek.RI W sv e.s):=fun W hb=>hs.later hb
 have MC0:=checkF_any its v lv l _ (hIt.later h0.bel) hF (hT.later h0.bel) (hl.later h0.bel) (by omega) (by omega);obtain⟨c,HC⟩:∃c,Hid (chkF its l=c):=⟨_,rfl⟩
 rw[HC.out] at MC0
 have MC:Hid (Calls Tryz.prog 29 #[.agg #[v],lv] _ fun e w'=>e= .returned (.int .i64 c)∧Below _ _ w'):=MC0;have HX0:Hid (HaS w v e sv _):=h0;clear h0 MC0;unfold Ek.EvV;obtain⟨sa,sc,rfl,_,_,_⟩:=hs
 obtain⟨ia,icap,rfl,_,_⟩:=hIt
 obtain⟨la,lcap,rfl,_,_,_⟩:=hl
 go_enter Tryz.func39,Tryz.ntmps39
 go_wp2_with fail
 generalize (w.alloc (.cells #[.slice ia its.length icap] 28)).alloc (.cells #[.int .i64 e.k,.int .i64 e.i,.int .i64 e.t,.slice sa e.s.length sc] 94)=w0 at *;refine Calls.mono MC.out ?_;rintro x w1 ⟨rfl,hb1⟩;have HX1:Hid _:=HX0.out.later hb1;clear MC hb1 HX0
 by_cases hc:c=0
 rotate_left
 ·have HP:Hid (appP its l e= .inl 2):=by
   show _=_;unfold appP;rw[if_neg (by rw[HC.out];exact hc)]
  have hc2:(c !=0)=true:=by simpa using hc
  clear hc HC
  go_wp2_with fail
  go_ret2
  exact AppC.bad HP.out HX1.out.bel
 subst hc;have HOK:Hid _:=chkF_iff.1 HC.out;have HP:Hid _:=appP_hap e HC.out;have hln:l.length=its.length:=by have:=HOK.out.2.1;rw[this];unfold subs;rw[zG]
 have hpos:=(root_len HOK.out.1).1;have MK:Hid _:=cloneF_any _ l w1 (HL.out w1 HX1.out.bel) (by omega) hll;clear HC hln hpos
 go_wp2_with fail
 refine Calls.mono MK.out ?_;rintro x w2 ⟨hb2,u,rfl,ho2⟩;have HX2:Hid _:=HX1.out.later hb2;have HO2:Hid (OF w1.heap.size w2 u l):=ho2;obtain⟨ua,ucap,rfl,_⟩:=ho2.rf
 have MH0:=happen_any its _ _ _ l e w1.heap.size w2 (HIt.out w2 HX2.out.bel) ho2 HOK.out.2 (HS.out w2 HX2.out.bel) hsl (by omega);unfold Ek.EvV at MH0;have MH:Hid (Calls Tryz.prog 72 #[.agg #[.slice ia its.length icap],.slice ua l.length ucap,.agg #[.int .i64 e.k,.int .i64 e.i,.int .i64 e.t,.slice sa e.s.length sc]] w2 fun x w'=>HapC its l e w1.heap.size (.slice ua l.length ucap) w2 x w'):=MH0;obtain⟨y0,y1,y2,y3,y4⟩:=HX2.out.ev
 have hz1:=HX1.out.bel.size;clear MK hb2 ho2 MH0
 go_wp2_with fail
 refine Calls.mono MH.out ?_;rintro x w3 ⟨rfl,ho3,hg3⟩;have HB3:Hid (Below w.heap.size w w3):=Below.grown HX2.out.bel hg3 HX2.out.bel.size (fun k hk=>zH hz1 (World.ownsRow.lt HO2.out k hk).1);have HO3:Hid (OF w.heap.size w3 _ _):=ho3.widen hz1;clear ho3 hg3 MH y0 y1 y2 y3 y4;obtain⟨c,HC⟩:∃c,Hid ((hap its l e).1=c):=⟨_,rfl⟩
 rw[HC.out] at HP ⊢
 by_cases hc:c=0
 ·subst hc;have HP2:Hid _:=HP.out.trans (if_pos rfl);clear HC HP
  go_wp2_with fail
  go_ret2
  exact AppC.ok HP2.out HB3.out HO3.out
 ·have HP2:Hid _:=HP.out.trans (if_neg hc);have hc2:(c !=0)=true:=by simpa using hc
  clear HC HP hc
  go_wp2_with fail
  go_ret2
  exact AppC.bad HP2.out HB3.out
end Go.Proofs.YtieoppabellafaaGreatDoor.Fc
namespace Go.Proofs.YtieoppabellafaaGreatDoor.Fc
open Go.RowKit Go.Shelf
theorem made_facts (n:Nat):madeCells #[Value.int .i64 0,.int .i64 0,.int .i64 0,.bool false] (n * 4)=(rowsF (List.replicate n Fa.z)).toArray:=by
 apply Array.toList_inj.1
 apply List.ext_getElem?
 intro j
 by_cases hj:j < n * 4
 ·have hf:(List.replicate n Fa.z)[j / 4]? =some Fa.z:=by rw[List.getElem?_replicate,if_pos (by omega)]
  have hg:=rowsF_get _ (j / 4) Fa.z hf (j % 4) (by omega);rw[show j / 4 * 4+j % 4=j by omega] at hg
  show _=(rowsF (List.replicate n Fa.z))[j]?;rw[hg]
  simp only[madeCells,Array.toList_map,zC];have hr:(Array.range (n * 4)).toList[j]? =some j:=by simp[hj]
  rw[hr]
  have hm:j % 4=0∨j % 4=1∨j % 4=2∨j % 4=3:=by omega
  show some ((#[Value.int .i64 0,.int .i64 0,.int .i64 0,.bool false]:Array Value)[j % 4]!)=_
  rcases hm with h | h | h | h <;> rw[h] <;> rfl
 ·rw[zM (by rw[Array.length_toList,size_madeCells];omega)]
  show none=(rowsF (List.replicate n Fa.z))[j]?;rw[zM (by rw[rowsF_len,List.length_replicate];omega)]
theorem make_facts (n:Nat)(hn:n≤64):∃C:Array Value,Hid (C=(rowsF (List.replicate n Fa.z)).toArray)∧∀wx:World,(Instr.makeSlice 33 (.int .i64 (n:Int)) (.int .i64 (n:Int))).run Tryz.prog wx= .ok (.slice (some ⟨wx.heap.size,0,none⟩) n n) (wx.alloc (.cells C 55)):=by
 obtain⟨i0,hi0,hz0,hz1,hz2⟩:=info_parts info38
 refine⟨_,rfl,fun wx=>?_⟩
 have hmk:=run_make (P:=Tryz.prog) wx 33 55 i0 _ Tryz.underlying33 hi0 hz0 .i64 .i64 (n:Int) (n:Int) (by omega) (by omega) (by rw[hz2];omega) (by omega);simp only[hz1,j8] at hmk;rw[hmk,←made_facts]
 rfl
def NonC (its:List It)(w:World)(x:Ending)(w':World):Prop:=Below w.heap.size w w'∧match (sagaP its).isSome with
 | false=>x= .returned (.slice none 0 0)
 | true=>∃g,x= .returned (.slice (some ⟨g,0,none⟩) its.length its.length)∧OF w.heap.size w' (.slice (some ⟨g,0,none⟩) its.length its.length) (List.replicate its.length Fa.z)
theorem NonC.no {its:List It}{w w':World}(h:(sagaP its).isSome=false)(hb:Below w.heap.size w w'):NonC its w (.returned (.slice none 0 0)) w':=by
 unfold NonC;rw[h]
 exact⟨hb,rfl⟩
theorem NonC.yes {its:List It}{w w':World}{g:Nat}(h:(sagaP its).isSome=true)(hb:Below w.heap.size w w')(ho:OF w.heap.size w' (.slice (some ⟨g,0,none⟩) its.length its.length) (List.replicate its.length Fa.z)):NonC its w (.returned (.slice (some ⟨g,0,none⟩) its.length its.length)) w':=by
 unfold NonC;rw[h]
 exact⟨hb,g,rfl,ho⟩
theorem noneF_any (its:List It)(v:Value)(w:World)(hIt:RdIt w v its)(hF:FairI its)(hT:Dg.Tab w) :
  Calls Tryz.prog 25 #[.agg #[v]] w fun x w'=>NonC its w x w':=by
 have hc0:ChS w v (w.alloc (.cells #[v] 28)):=⟨bl1 _ _,Dg.row_new w _ 28⟩;have M0:=Right_any its v _ (hIt.later hc0.bel) hF (hT.later hc0.bel);obtain⟨ia,icap,rfl,_,_⟩:=hIt
 have HC0:Hid (ChS w (.slice ia its.length icap) _):=hc0;obtain⟨q,HQ⟩:∃q,Hid ((sagaP its).isSome=q):=⟨_,rfl⟩
 rw[HQ.out] at M0
 have M:Hid (Calls Tryz.prog 52 #[.agg #[.slice ia its.length icap]] _ fun e w'=>e= .returned (.bool q)∧Below _ _ w'):=M0;clear M0 hc0
 go_enter Tryz.func25,Tryz.ntmps25
 go_wp2_with fail
 generalize w.alloc (.cells #[.slice ia its.length icap] 28)=w0 at *;refine Calls.mono M.out ?_;rintro x w1 ⟨rfl,hb1⟩;have HC1:Hid _:=HC0.out.later hb1;clear M HC0 hb1;cases q with
 | false=>
  go_wp2_with fail
  go_ret
  exact NonC.no HQ.out HC1.out.bel
 | true=>
  have hn:=(root_len HQ.out).2;obtain⟨C,HCC,hmk⟩:=make_facts its.length hn
  have z0:=(Dg.cell_row HC1.out.box 0).trans rfl
  go_wp2_with fail
  go_ret
  have hz:=HC1.out.bel.size;have h:=World.ownsRow_lit (base:=w.heap.size) (e:=55) (size:=4) w1 C its.length hz (by unfold maxLen;omega) (by rw[HCC.out];simp[rowsF_len]);refine NonC.yes HQ.out (HC1.out.bel.alloc hz _) ?_;unfold OF;rw[List.length_replicate]
  rw[HCC.out] at h ⊢
  exact h
end Go.Proofs.YtieoppabellafaaGreatDoor.Fc
