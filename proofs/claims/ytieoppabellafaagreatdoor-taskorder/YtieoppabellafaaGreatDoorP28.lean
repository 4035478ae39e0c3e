/- Texts of the seat, packed: Lh Lj Lk. -/
import Derived.Test.YtieoppabellafaaGreatDoorP27
import Derived.Great.FillDense
import Derived.Laws.Tables
import Derived.Deep.MidRow
set_option maxRecDepth 1000000
set_option maxHeartbeats 64000000
set_option linter.unusedVariables false
namespace Go.Proofs.YtieoppabellafaaGreatDoor.Sa
open Go.RowKit Go.Shelf Fc St
variable {p:Pl}{f:Nat→Fa}{xb xo icap fb fo lcap:Nat}{w0:World}{b:Nat}{m:Nat→Nat→Bool}{w:World}{n:Nat}
theorem wpOp_un {P:Program}{ops:Array Oper}{Q:Exit→Act→World→Prop}{i:Nat}{K:Act→World→Prop}{a:Act}{w:World}{o:Oper}{d:Tmp}(hi:ops[i]? =some o)(hd:o.dst=some d)(hw:Region.wanted o (yielded ops a.tmps)=false)
  (hK:K {tmps:=a.tmps.setIfInBounds d undef,defers:=a.defers} w):wpOp P ops Q i K a w:=by
 have hp:a.put o.dst undef= {tmps:=a.tmps.setIfInBounds d undef,defers:=a.defers} :=by rw[hd];rfl
 unfold wpOp;simp only[hi];rw[if_neg (by rw[hw];decide),hp]
 exact hK
def bodL (M:Nat→Nat→Bool):List Value:=(List.range 256).map fun j=> .bool (M (j / 4) (j % 4))
theorem bodL_at {M:Nat→Nat→Bool}{s a:Nat}(hs:s < 64)(ha:a < 4):(bodL M)[s * 4+a]? =some (.bool (M s a)):=by
 have h2:(s * 4+a) / 4=s:=by omega
 have h3:(s * 4+a) % 4=a:=by omega
 unfold bodL;rw[List.getElem?_map,List.getElem?_range (by omega)]
 simp only[Option.map_some,h2,h3]
theorem bodL_set {M:Nat→Nat→Bool}{s a:Nat}(q:Bool)(hs:s < 64)(ha:a < 4):(bodL M).set (s * 4+a) (.bool q)=bodL (put2 M s a q):=by
 unfold bodL;refine List.ext_getElem? fun j=>?_
 rw[List.getElem?_set]
 by_cases hj:j < 256
 ·rw[List.getElem?_map,List.getElem?_map,List.getElem?_range hj]
  simp only[Option.map_some,put2]
  by_cases h:s * 4+a=j
  ·have h2:j / 4=s:=by omega
   have h3:j % 4=a:=by omega
   rw[if_pos h,if_pos (by simp;omega),h2,h3,if_pos ⟨rfl,rfl⟩]
  ·rw[if_neg h,if_neg (by omega)]
 ·have hn:(List.range 256)[j]? =none:=List.getElem?_eq_none (by simp;omega);rw[List.getElem?_map,List.getElem?_map,hn,if_neg (by omega)]
  rfl
theorem bodL_len (M:Nat→Nat→Bool):(bodL M).length=256:=by unfold bodL;rw[List.length_map,List.length_range]
theorem bodL_one (M:Nat→Nat→Bool):(bodL M).toArray.all (·.oneCell')=true:=by
 rw[List.all_toArray,List.all_eq_true]
 intro v hv;unfold bodL at hv;obtain⟨j,_,rfl⟩:=List.mem_map.1 hv
 rfl
theorem zero51:Tryz.zeroCells135=(bodL fun _ _=>false).toArray:=by kernel_rfl
theorem size51:(Tryz.prog.info? 135).map (·.size)=some 256:=by kernel_rfl
def Mk (T:Nat→Nat→Bool)(k j:Nat):Nat→Nat→Bool:=fun s a=>(decide (s < k) || (decide (s=k) && decide (a < j))) && T s a
theorem Mk_put {T:Nat→Nat→Bool}{k j:Nat}{q:Bool}(hq:q=T k j):put2 (Mk T k j) k j q=Mk T k (j+1):=by
 subst hq
 funext s a
 unfold put2 Mk
 by_cases h:s=k∧a=j
 ·obtain⟨rfl,rfl⟩:=h
  rw[if_pos ⟨rfl,rfl⟩]
  simp
 ·rw[if_neg h]
  congr 1
  by_cases hs:s=k
  ·subst hs;have ha:a≠j:=fun h9=>h ⟨rfl,h9⟩
   have:decide (a < j)=decide (a < j+1):=decide_eq_decide.2 (by omega);rw[this]
  ·simp[hs]
theorem Mk_next {T:Nat→Nat→Bool}{k t:Nat}(h:∀a,t≤a→T k a=false):Mk T k t=Mk T (k+1) 0:=by
 funext s a
 unfold Mk
 by_cases hs:s=k
 ·subst hs
  by_cases ha:a < t
  ·simp[ha]
  ·simp[h a (by omega)]
 ·have:decide (s < k)=decide (s < k+1):=decide_eq_decide.2 (by omega);simp[hs,this]
theorem Mk_zero {T:Nat→Nat→Bool} :Mk T 0 0=fun _ _=>false:=by
 funext s a
 simp[Mk]
theorem Mk_end {T:Nat→Nat→Bool}{n:Nat}(h:∀s a,n≤s→T s a=false):Mk T n 0=T:=by
 funext s a
 unfold Mk
 by_cases hs:s < n
 ·simp[hs]
 ·simp[h s a (by omega)]
def tgt (p:Pl)(f:Nat→Fa)(m:Nat→Nat→Bool)(hal:Nat→Bool)(s a:Nat):Bool:=decide (s < p.n∧a < p.alts s) && (hal s || !allK p s a (okH p f m))
structure Fd (w0 w:World)(b:Nat)(v lv:Value)(m M:Nat→Nat→Bool)(W:World):Prop where
 sd:Sd w0 b v lv m W
 lt:b < w.heap.size
 bel:Below w.heap.size w W
 res:W.heap[w.heap.size]? =some (.cells Tryz.zeroCells135 135 (0,0))
 bod:W.heap[w.heap.size+1]? =some (.cells (bodL M).toArray 135 (0,0))
theorem Fd.later {w0 w:World}{b:Nat}{v lv:Value}{m M:Nat→Nat→Bool}{W W':World}(h:Fd w0 w b v lv m M W)(hb:Below W.heap.size W W'):Fd w0 w b v lv m M W':=
 ⟨h.sd.later hb,h.lt,h.bel.trans (hb.mono h.bel.size),(hb.block _ (Array.getElem?_eq_some_iff.1 h.res).1).trans h.res,(hb.block _ (Array.getElem?_eq_some_iff.1 h.bod).1).trans h.bod⟩
theorem Fd.put {w0 w:World}{b:Nat}{v lv:Value}{m M:Nat→Nat→Bool}{W:World}(h:Fd w0 w b v lv m M W){s a:Nat}(q:Bool)(hs:s < 64)(ha:a < 4):Fd w0 w b v lv m (put2 M s a q) (W.setCell ⟨w.heap.size+1,s * 4+a,none⟩ (.bool q)):=by
 refine⟨⟨h.sd.bel.setCell (by have:=h.sd.low;have:=h.lt;show _≤w.heap.size+1;omega) _,h.sd.low,Dg.row_other h.sd.sb _ (by have:=h.lt;omega)⟩,h.lt,h.bel.setCell (by show _≤w.heap.size+1;omega) _,Dg.row_other h.res _ (by omega),?_⟩
 rw[Dg.row_set h.bod,List.setIfInBounds_toArray,bodL_set q hs ha]
theorem Fd.at_ {w0 w:World}{b:Nat}{v lv:Value}{m M:Nat→Nat→Bool}{W:World}(h:Fd w0 w b v lv m M W){s a:Nat}(hs:s < 64)(ha:a < 4):W.cell? ⟨w.heap.size+1,s * 4+a,none⟩=some (.bool (M s a)):=by
 rw[Dg.cell_row h.bod,List.getElem?_toArray]
 exact bodL_at hs ha
theorem Fd.init {w0 w:World}{b:Nat}{v lv:Value}{m:Nat→Nat→Bool}(h:Sd w0 b v lv m w):Fd w0 w b v lv m (fun _ _=>false) ((w.alloc (.cells Tryz.zeroCells135 135)).alloc (.cells Tryz.zeroCells135 135)):=by
 have hb1:=bl1 w (.cells Tryz.zeroCells135 135);have hb2:=bl1 (w.alloc (.cells Tryz.zeroCells135 135)) (.cells Tryz.zeroCells135 135);refine⟨(h.later hb1).later hb2,(Array.getElem?_eq_some_iff.1 h.sb).1,hb1.trans (hb2.mono hb1.size),Dg.row_alloc (Dg.row_new w _ 135) _,?_⟩
 have:=Dg.row_new (w.alloc (.cells Tryz.zeroCells135 135)) Tryz.zeroCells135 135;rw[World.size_alloc] at this
 rw[this,zero51]
theorem falling_any (hB:Bs p f xb xo icap fb fo lcap w0)(hn:p.n=n)(hS:Sd w0 b (.slice (some ⟨xb,xo,none⟩) n icap) (.slice (some ⟨fb,fo,none⟩) n lcap) m w)(hal:Nat→Bool)(hh0:hal 0=false)
  (hh:∀s,1≤s→s < n→hal s=(hal (p.inn s) || !allK p (p.inn s) (p.alt s) (okH p f m))) :
  Calls Tryz.prog 98 #[.pointer (some ⟨b,0,none⟩)] w fun e w'=>e= .returned (.agg (bodL (tgt p f m hal)).toArray)∧Below w.heap.size w w':=by
 have hle:n≤64:=by have:=hB.le;omega
 have hic:n≤icap:=by have:=hB.icap;omega
 obtain⟨T,HT⟩:∃T,Hid (T=tgt p f m hal):=⟨_,rfl⟩
 rw[←HT.out]
 have hF0:=Fd.init hS;have c0:=hF0.sd.c0;have HB:Hid _:=hB;have HN:Hid _:=hn;have HFA:Hid (∀(wx:World) (s a:Nat),Below w.heap.size w wx→s < n→a≤4→Calls Tryz.prog 132 #[.pointer (some ⟨b,0,none⟩),.int .i64 (s:Int),.int .i64 (a:Int)] wx fun e w'=>e= .returned (.bool (!allK p s a (okH p f m)))∧Below wx.heap.size wx w'):=fun wx s a hb h1 h2=>falls_any hB hn (hS.later hb) h1 h2
 have HH:Hid (∀s,1≤s→s < n→T (p.inn s) (p.alt s)=hal s):=fun s h1 h2=>by
  have h3:=hB.ok.inn s h1 (by omega);rw[HT.out,hh s h1 h2]
  unfold tgt;rw[decide_eq_true ⟨by omega,h3.2.2⟩,Bool.true_and]
 have HI:Hid (∀s,1≤s→s < n→p.inn s < s∧p.alt s < p.alts (p.inn s)∧p.alts (p.inn s)≤4):=fun s h1 h2=>by
  have h3:=hB.ok.inn s h1 (by omega);exact⟨h3.1,h3.2.2,hB.alts _ (by omega)⟩
 have HT1:Hid (∀k a,k < n→a < p.alts k→T k a=(hal k || !allK p k a (okH p f m))):=fun k a h1 h2=>by
  rw[HT.out]
  unfold tgt;rw[decide_eq_true ⟨by omega,h2⟩,Bool.true_and]
 have HT2:Hid (∀k a,p.alts k≤a→T k a=false):=fun k a h=>by
  rw[HT.out]
  unfold tgt;rw[decide_eq_false (by omega),Bool.false_and]
 have HT3:Hid (∀k a,n≤k→T k a=false):=fun k a h=>by
  rw[HT.out]
  unfold tgt;rw[decide_eq_false (by omega),Bool.false_and]
 have HF0:Hid (Fd w0 w b (.slice (some ⟨xb,xo,none⟩) n icap) (.slice (some ⟨fb,fo,none⟩) n lcap) m (Mk T 0 0) ((w.alloc (.cells Tryz.zeroCells135 135)).alloc (.cells Tryz.zeroCells135 135))):=by show Fd _ _ _ _ _ _ _ _;rw[Mk_zero];exact hF0
 have HH0:Hid _:=hh0;clear hS hF0 hB hn hh hh0
 go_enter Tryz.func98,Tryz.ntmps98
 go_wp2_with fail
 go_loopw [13] (fun iv wr=>∃(k:Nat),k≤n∧iv= .int .i64 k∧Hid (Fd w0 w b (.slice (some ⟨xb,xo,none⟩) n icap) (.slice (some ⟨fb,fo,none⟩) n lcap) m (Mk T k 0) wr)) (fun iv _=>n - (intOf iv).toNat)
 case atStart=>exact⟨0,Nat.zero_le _,by go_num,HF0⟩
 case round=>
  obtain⟨k,hk,rfl,HM⟩:=hrel
  rename World=>wr
  by_cases hlt:k < n
  rotate_left
  ·obtain rfl:k=n:=by omega
   have hM:=HM.out;rw[Mk_end HT3.out] at hM
   have HR2:Hid _:=setRow_heap wr w.heap.size Tryz.zeroCells135 (bodL T).toArray 135 (0,0) hM.res;have HBOD:Hid _:=hM.bod;have HRES:Hid _:=hM.res;have HZ1:Hid ((Tryz.prog.info? 135).map (·.size)=some (bodL T).toArray.size):=by show _=_;rw[size51,List.size_toArray,bodL_len]
   have HZ2:Hid (Tryz.zeroCells135.size=(bodL T).toArray.size):=by show _=_;rw[zero51,List.size_toArray,List.size_toArray,bodL_len,bodL_len]
   have HZ3:Hid _:=bodL_one T;have HBE:Hid _:=below_setRow hM.bel (Nat.le_refl _) (bodL T).toArray;clear hM HM HFA HH HI HT1 HT2 HT3 HT
   go_wp2_with (first | (refine wpList_load_row rfl 135 (.tmp 3) rfl (w.heap.size+1) rfl 135 (bodL T).toArray (0,0) _ HBOD.out Tryz.underlying135 rfl HZ1.out ?_) | (refine wpList_store_row rfl 135 (.tmp 2) (.tmp 39) rfl w.heap.size (bodL T).toArray rfl rfl 135 Tryz.zeroCells135 HRES.out HZ1.out HZ2.out HZ3.out ?_))
   refine⟨rfl,_,results_cell_row (p:=2) (ty:=135) rfl _ _ w.heap.size 135 (bodL T).toArray (0,0) _ rfl HR2.out Tryz.underlying135 rfl HZ1.out,rfl,HBE.out⟩
  ·have hM:=HM.out;obtain⟨s1,s2,zi,za,av,am,ac,k0,k1,k2,k3,k4,k5,k6,k7,hz⟩:=(HB.out.later hM.sd.bel).it k (by have:=HN.out;omega)
   have hii:(k:Int) < (n:Int):=by omega
   have h4:=HB.out.alts k (by have:=HN.out;omega);have HAR:Hid (∀wx:World,Fd w0 w b (.slice (some ⟨xb,xo,none⟩) n icap) (.slice (some ⟨fb,fo,none⟩) n lcap) m (Mk T k 0) wx→Calls Tryz.prog 102 #[.pointer (some ⟨w.heap.size+1,0,none⟩),.int .i64 (k:Int),.agg #[.string s1,.string s2,.bool (p.sub k),.bool (p.vital k),.int .i64 (p.alts k:Nat),.int .i64 zi,.int .i64 za,.slice av am ac]] wx fun e w'=>e= .returned (.bool (hal k))∧Below wx.heap.size wx w'):=fun wx hF=>by
    have h9:(decide (0 < k) && hal k)=hal k:=by
     by_cases h0:0 < k
     ·simp[h0]
     ·obtain rfl:k=0:=by omega
      rw[HH0.out]
      rfl
    rw[←h9]
    refine around_any (w:=wx) (w.heap.size+1) 0 k s1 s2 (p.sub k) (p.vital k) (p.alts k:Nat) zi za av am ac (hal k) (by omega) (fun h1=>?_);obtain⟨e1,e2⟩:=hz h1
    obtain⟨e3,e4,e5⟩:=HI.out k h1 hlt
    refine⟨p.inn k,p.alt k,e1,e2,by omega,by omega,?_⟩
    have h8:=hF.at_ (s:=p.inn k) (a:=p.alt k) (by omega) (by omega);have h7:Mk T k 0 (p.inn k) (p.alt k)=hal k:=by
     unfold Mk;rw[decide_eq_true e3,HH.out k h1 hlt]
     rfl
    rw[h7] at h8
    rw[Nat.zero_add]
    exact h8
   have HTK:Hid (∀a,p.alts k≤a→T k a=false):=HT2.out k;have HTK1:Hid (∀a,a < p.alts k→T k a=(hal k || !allK p k a (okH p f m))):=fun a h=>HT1.out k a hlt h
   clear hM hz;generalize p.alts k=t at *;generalize p.sub k=su at *;generalize p.vital k=vi at *;have rx:=Dg.row_new wr #[.string s1,.string s2,.bool su,.bool vi,.int .i64 (t:Int),.int .i64 zi,.int .i64 za,.slice av am ac] 50;have hb1:=bl1 wr (.cells #[.string s1,.string s2,.bool su,.bool vi,.int .i64 (t:Int),.int .i64 zi,.int .i64 za,.slice av am ac] 50);have x0:=(Dg.cell_row rx 0).trans rfl;have x1:=(Dg.cell_row rx 1).trans rfl;have x2:=(Dg.cell_row rx 2).trans rfl;have x3:=(Dg.cell_row rx 3).trans rfl;have x4:=(Dg.cell_row rx 4).trans rfl;have x5:=(Dg.cell_row rx 5).trans rfl;have x6:=(Dg.cell_row rx 6).trans rfl;have x7:=(Dg.cell_row rx 7).trans rfl;have HM1:Hid _:=HM.out.later hb1;have HX4:Hid _:=x4;have HBW:Hid _:=hb1;clear rx hb1 HM
   go_wp2_with fail
   refine Calls.mono (HAR.out _ HM1.out) ?_;rintro e w2 ⟨rfl,hb2⟩;have HM2:Hid (Fd w0 w b (.slice (some ⟨xb,xo,none⟩) n icap) (.slice (some ⟨fb,fo,none⟩) n lcap) m (Mk T k 0) w2):=HM1.out.later hb2;have y4:=Dg.cell_later hb2 HX4.out;clear k0 k1 k2 k3 k5 k6 k7 hb2 HM1 HX4 HAR x0 x1 x2 x3 x4 x5 x6 x7 HBW;generalize wr.heap.size=xb9 at *;generalize hal k=hk9 at *
   go_wp2_with fail
   go_loopw [23] (fun iv wr=>∃(j:Nat),j≤t∧iv= .int .i64 j∧Hid (Fd w0 w b (.slice (some ⟨xb,xo,none⟩) n icap) (.slice (some ⟨fb,fo,none⟩) n lcap) m (Mk T k j) wr)) (fun iv _=>t - (intOf iv).toNat)
   case atStart=>exact⟨0,Nat.zero_le _,by go_num,HM2⟩
   case round=>
    obtain⟨j,hj,rfl,HJ⟩:=hrel
    rename World=>wj
    by_cases hjt:j < t
    rotate_left
    ·obtain rfl:j=t:=by omega
     have HJ2:Hid (Fd w0 w b (.slice (some ⟨xb,xo,none⟩) n icap) (.slice (some ⟨fb,fo,none⟩) n lcap) m (Mk T (k+1) 0) wj):=by
      show Fd _ _ _ _ _ _ _ _;rw[←Mk_next HTK.out]
      exact HJ.out
     clear HJ
     go_wp2_with fail
     go_roundw
     case rel=>exact⟨k+1,by omega,by go_num,HJ2⟩
     case measure=>simp[intOf] <;> omega
    ·have HTJ:Hid _:=HTK1.out j hjt;have hFJ:=HFA.out;have HFJ:Hid (Calls Tryz.prog 132 #[.pointer (some ⟨b,0,none⟩),.int .i64 (k:Int),.int .i64 (j:Int)] wj.drew fun e w'=>e= .returned (.bool (!allK p k j (okH p f m)))∧Fd w0 w b (.slice (some ⟨xb,xo,none⟩) n icap) (.slice (some ⟨fb,fo,none⟩) n lcap) m (Mk T k j) w'):=Calls.mono (HFA.out wj.drew k j (HJ.out.bel.trans ((Below.refl _ _).drew.mono HJ.out.bel.size)) hlt (by omega)) (by rintro e w2 ⟨rfl,hb⟩;exact⟨rfl,(HJ.out.later (Below.refl _ _).drew).later hb⟩);have hj4:(j:Int) < 4:=by omega
     have hk64:(k:Int) < 64:=by omega
     have hCUR:Fd w0 w b (.slice (some ⟨xb,xo,none⟩) n icap) (.slice (some ⟨fb,fo,none⟩) n lcap) m (Mk T k j) wj.drew:=HJ.out.later (Below.refl _ _).drew;have hS0:∃M9,Fd w0 w b (.slice (some ⟨xb,xo,none⟩) n icap) (.slice (some ⟨fb,fo,none⟩) n lcap) m M9 wj.drew:=⟨_,hCUR⟩
     clear hFJ
     go_wp2_with fail
     cases hk9 with
     | true=>
      have HTR:Hid (T k j=true):=by show _=_;rw[HTJ.out];rfl
      refine region_thenQ [(26,.int .i64 k),(27,.int .i64 j),(28,.bool true),(29,.bool true),(30,undef),(31,undef),(32,undef),(33,undef),(34,.bool true),(35,.pointer (some ⟨w.heap.size+1,k * 4,none⟩)),(36,.pointer (some ⟨w.heap.size+1,k * 4+j,none⟩))] (fun w'=>Fd w0 w b (.slice (some ⟨xb,xo,none⟩) n icap) (.slice (some ⟨fb,fo,none⟩) n lcap) m (Mk T k (j+1)) w') ?_ ?_
      ·refine wp_region_held (S:=fun w'=>∃M9,Fd w0 w b (.slice (some ⟨xb,xo,none⟩) n icap) (.slice (some ⟨fb,fo,none⟩) n lcap) m M9 w') (by kernel_rfl) ?_;simp only[List.size_toArray,List.length_cons,List.length_nil,Nat.reduceAdd,Array.replicate_succ,Array.replicate_zero,List.push_toArray,List.nil_append,List.cons_append];refine tK 0 26 (.int .i64 k) 11 rfl hS0 ?_;refine tK 1 27 (.int .i64 j) 10 rfl hS0 ?_;refine tK 2 28 (.bool true) 9 rfl hS0 ?_;refine tK 3 29 (.bool true) 8 rfl hS0 ?_;refine tU 4 30 7 rfl hS0 ?_;refine tU 5 31 6 rfl hS0 ?_;refine tU 6 32 5 rfl hS0 ?_;refine tG 9 35 (.pointer (some ⟨w.heap.size+1,k * 4,none⟩)) 4 rfl hS0 ?_;refine wpAnyH_all (fuel:=3) (rs:=[7]) (by kernel_rfl) (by decide) (List.forall_mem_singleton.2 ?_);refine wpOp_un (i:=7) (d:=33) rfl rfl (by kernel_rfl) ⟨hS0,?_⟩;simp only[List.setIfInBounds_toArray,List.set_cons_succ,List.set_cons_zero];refine tK 8 34 (.bool true) 2 rfl hS0 ?_;refine tG 10 36 (.pointer (some ⟨w.heap.size+1,k * 4+j,none⟩)) 1 rfl hS0 ?_;refine wpAnyH_all (fuel:=0) (rs:=[11]) (by kernel_rfl) (by decide) (List.forall_mem_singleton.2 ?_);have hP:=hCUR.put (s:=k) (a:=j) (true) (by omega) (by omega);rw[Mk_put HTR.out.symm] at hP
       have c9:=hCUR.at_ (s:=k) (a:=j) (by omega) (by omega);have f9:=Dg.froz_row hCUR.bod (k * 4+j);refine wpOp_skip (i:=11) (w':=wj.drew.setCell ⟨w.heap.size+1,k * 4+j,none⟩ (.bool (true))) rfl rfl (by kernel_rfl) (by go_simp) ⟨⟨_,hP⟩,?_⟩;refine wpAnyH_done (by kernel_rfl) ?_ _;exact⟨rfl,by kernel_rfl,hP⟩
      ·intro w9 hF;simp only[setAll,List.setIfInBounds_toArray,List.set_cons_succ,List.set_cons_zero,Exit.inBlock,Exit.then];have HF9:Hid _:=hF;clear hF
       go_wp2_with fail
       go_roundw
       case rel=>exact⟨j+1,by omega,by go_num,HF9⟩
       case measure=>simp[intOf] <;> omega
     | false=>
      have HTR:Hid (T k j= !allK p k j (okH p f m)):=by show _=_;rw[HTJ.out];rfl
      generalize (!allK p k j (okH p f m))=q9 at *;refine region_thenQ [(26,.int .i64 k),(27,.int .i64 j),(28,.bool false),(29,.bool false),(30,.pointer (some ⟨b,0,none⟩)),(31,.int .i64 k),(32,.int .i64 j),(33,.bool q9),(34,.bool q9),(35,.pointer (some ⟨w.heap.size+1,k * 4,none⟩)),(36,.pointer (some ⟨w.heap.size+1,k * 4+j,none⟩))] (fun w'=>Fd w0 w b (.slice (some ⟨xb,xo,none⟩) n icap) (.slice (some ⟨fb,fo,none⟩) n lcap) m (Mk T k (j+1)) w') ?_ ?_
      ·refine wp_region_held (S:=fun w'=>∃M9,Fd w0 w b (.slice (some ⟨xb,xo,none⟩) n icap) (.slice (some ⟨fb,fo,none⟩) n lcap) m M9 w') (by kernel_rfl) ?_;simp only[List.size_toArray,List.length_cons,List.length_nil,Nat.reduceAdd,Array.replicate_succ,Array.replicate_zero,List.push_toArray,List.nil_append,List.cons_append];refine tK 0 26 (.int .i64 k) 11 rfl hS0 ?_;refine tK 1 27 (.int .i64 j) 10 rfl hS0 ?_;refine tK 2 28 (.bool false) 9 rfl hS0 ?_;refine tK 3 29 (.bool false) 8 rfl hS0 ?_;refine tK 4 30 (.pointer (some ⟨b,0,none⟩)) 7 rfl hS0 ?_;refine tK 5 31 (.int .i64 k) 6 rfl hS0 ?_;refine tK 6 32 (.int .i64 j) 5 rfl hS0 ?_;refine tG 9 35 (.pointer (some ⟨w.heap.size+1,k * 4,none⟩)) 4 rfl hS0 ?_;refine oneW (R:=fun w'=>Fd w0 w b (.slice (some ⟨xb,xo,none⟩) n icap) (.slice (some ⟨fb,fo,none⟩) n lcap) m (Mk T k j) w') (i:=7) (d:=33) (f:=132) (args:= #[.pointer (some ⟨b,0,none⟩),.int .i64 k,.int .i64 j]) (v:= .bool q9) (fuel:=3) rfl rfl (by kernel_rfl) (by kernel_rfl) (fun _=>by kernel_rfl) (HFJ.out) (fun w' h=>⟨_,h⟩) (fun wz hR7=>?_);simp only[List.setIfInBounds_toArray,List.set_cons_succ,List.set_cons_zero];refine tK 8 34 (.bool q9) 2 rfl (⟨_,hR7⟩) ?_;refine tG 10 36 (.pointer (some ⟨w.heap.size+1,k * 4+j,none⟩)) 1 rfl (⟨_,hR7⟩) ?_;refine wpAnyH_all (fuel:=0) (rs:=[11]) (by kernel_rfl) (by decide) (List.forall_mem_singleton.2 ?_);have hP:=hR7.put (s:=k) (a:=j) (q9) (by omega) (by omega);rw[Mk_put HTR.out.symm] at hP
       have c9:=hR7.at_ (s:=k) (a:=j) (by omega) (by omega);have f9:=Dg.froz_row hR7.bod (k * 4+j);refine wpOp_skip (i:=11) (w':=wz.setCell ⟨w.heap.size+1,k * 4+j,none⟩ (.bool (q9))) rfl rfl (by kernel_rfl) (by go_simp) ⟨⟨_,hP⟩,?_⟩;refine wpAnyH_done (by kernel_rfl) ?_ _;exact⟨rfl,by kernel_rfl,hP⟩
      ·intro w9 hF;simp only[setAll,List.setIfInBounds_toArray,List.set_cons_succ,List.set_cons_zero,Exit.inBlock,Exit.then];have HF9:Hid _:=hF;clear hF
       go_wp2_with fail
       go_roundw
       case rel=>exact⟨j+1,by omega,by go_num,HF9⟩
       case measure=>simp[intOf] <;> omega
end Go.Proofs.YtieoppabellafaaGreatDoor.Sa
namespace Go.Proofs.YtieoppabellafaaGreatDoor.Sa
open Go.RowKit Go.Shelf Fc St
theorem fill_part {place:Nat→Option (Nat × Nat)}{c:Array Value}{i off:Nat}{v:Value}{rest:List (Nat × Value)}(hp:place i=some (off,v.cells.size))(hc:off+v.cells.size≤c.size) :
  ∃c':Array Value,Instr.fill place c ((i,v) :: rest)=Instr.fill place c' rest∧c'.size=c.size∧∀k,c'[k]? =if off≤k∧k < off+v.cells.size then v.cells[k - off]? else c[k]? :=by
 rw[Instr.fill.eq_2,hp]
 simp only[ne_eq,not_true_eq_false,decide_false,Bool.false_or,decide_eq_true_eq];rw[if_neg (by omega)]
 refine⟨_,rfl,?_⟩
 rw[←Array.foldl_toList,Array.toList_zipIdx]
 obtain⟨h1,h2⟩:=Great.foldl_set off v.cells.toList 0 c
 refine⟨h1,fun k=>?_⟩
 have h3:=h2 k;simp only[Nat.add_zero,Array.length_toList,Array.getElem?_toList] at h3;rw[show (List.foldl _ c (v.cells.toList.zipIdx 0))[k]? =_ from h3]
 by_cases h:off≤k∧k < off+v.cells.size
 ·rw[if_pos ⟨h.1,h.2,by omega⟩,if_pos h]
 ·rw[if_neg (fun h9=>h ⟨h9.1,h9.2.1⟩),if_neg h]
def brdV (n:Int)(S A:Nat→Int)(M:Nat→Nat→Bool)(C:Nat→Bool)(j:Nat):Value:=
 if j=0 then .int .i64 n else if j < 65 then .int .i64 (S (j - 1)) else if j < 129 then .int .i64 (A (j - 65)) else if j < 385 then .bool (M ((j - 129) / 4) ((j - 129) % 4)) else .bool (C (j - 385))
def brdL (n:Int)(S A:Nat→Int)(M:Nat→Nat→Bool)(C:Nat→Bool):List Value:=(List.range 449).map (brdV n S A M C)
theorem brdL_len (n:Int)(S A:Nat→Int)(M:Nat→Nat→Bool)(C:Nat→Bool):(brdL n S A M C).length=449:=by unfold brdL;rw[List.length_map,List.length_range]
theorem brdL_get {n:Int}{S A:Nat→Int}{M:Nat→Nat→Bool}{C:Nat→Bool}{j:Nat}(hj:j < 449):(brdL n S A M C)[j]? =some (brdV n S A M C j):=by
 unfold brdL;rw[List.getElem?_map,List.getElem?_range hj]
 rfl
def putN (S:Nat→Int)(i:Nat)(x:Int):Nat→Int:=fun k=>if k=i then x else S k
theorem brdL_setA {n:Int}{S A:Nat→Int}{M:Nat→Nat→Bool}{C:Nat→Bool}{i:Nat}(x:Int)(hi:i < 64):(brdL n S A M C).set (65+i) (.int .i64 x)=brdL n S (putN A i x) M C:=by
 refine List.ext_getElem? fun j=>?_
 rw[List.getElem?_set]
 by_cases hj:j < 449
 ·rw[brdL_get hj,brdL_get hj,brdL_len]
  by_cases h:65+i=j
  ·subst h;rw[if_pos rfl,if_pos (by omega)]
   unfold brdV putN;rw[if_neg (by omega),if_neg (by omega),if_pos (by omega),if_pos (by omega)]
  ·rw[if_neg h]
   unfold brdV putN
   congr 1
   split
   ·rfl
   ·split
    ·rfl
    ·split
     ·rw[if_neg (by omega)]
     ·rfl
 ·rw[List.getElem?_eq_none (by rw[brdL_len];omega),List.getElem?_eq_none (by rw[brdL_len];omega),if_neg (by omega)]
theorem brdL_setS {n:Int}{S A:Nat→Int}{M:Nat→Nat→Bool}{C:Nat→Bool}{i:Nat}(x:Int)(hi:i < 64):(brdL n S A M C).set (1+i) (.int .i64 x)=brdL n (putN S i x) A M C:=by
 refine List.ext_getElem? fun j=>?_
 rw[List.getElem?_set]
 by_cases hj:j < 449
 ·rw[brdL_get hj,brdL_get hj,brdL_len]
  by_cases h:1+i=j
  ·subst h;rw[if_pos rfl,if_pos (by omega)]
   unfold brdV putN;rw[if_neg (by omega),if_pos (by omega),if_pos (by omega)]
  ·rw[if_neg h]
   unfold brdV putN
   congr 1
   split
   ·rfl
   ·split
    ·rw[if_neg (by omega)]
    ·rfl
 ·rw[List.getElem?_eq_none (by rw[brdL_len];omega),List.getElem?_eq_none (by rw[brdL_len];omega),if_neg (by omega)]
def mrkL (C:Nat→Bool):List Value:=(List.range 64).map fun i=> .bool (C i)
def place55:Nat→Option (Nat × Nat):=fun i=>(#[(0,1),(1,64),(65,64),(129,256),(385,64)]:Array (Nat × Nat))[i]?
theorem zero55:Tryz.zeroCells139=(brdL 0 (fun _=>0) (fun _=>0) (fun _ _=>false) (fun _=>false)).toArray:=by kernel_rfl
theorem built55_fill (parts:List (Nat × Value)):Tryz.prog.built 139 parts=Instr.fill place55 Tryz.zeroCells139 parts:=by kernel_rfl
theorem built55 (n:Int)(M:Nat→Nat→Bool)(C:Nat→Bool):Tryz.prog.built 139 [(0,.int .i64 n),(4,.agg (mrkL C).toArray),(3,.agg (bodL M).toArray)]=some (brdL n (fun _=>0) (fun _=>0) M C).toArray:=by
 have hm:(mrkL C).length=64:=by unfold mrkL;rw[List.length_map,List.length_range]
 have h2:(Value.agg (mrkL C).toArray).cells.size=64:=by show (mrkL C).toArray.size=64;rw[List.size_toArray,hm]
 have h3:(Value.agg (bodL M).toArray).cells.size=256:=by show (bodL M).toArray.size=256;rw[List.size_toArray,bodL_len]
 have h1:(Value.int .i64 n).cells.size=1:=rfl;rw[built55_fill,zero55]
 obtain⟨z,hz⟩:∃z,z=brdL 0 (fun _=>0) (fun _=>0) (fun _ _=>false) (fun _=>false):=⟨_,rfl⟩
 have hzl:z.toArray.size=449:=by rw[List.size_toArray,hz,brdL_len]
 rw[←hz]
 obtain⟨c1,e1,s1,g1⟩:=fill_part (place:=place55) (c:=z.toArray) (i:=0) (off:=0) (v:= .int .i64 n) (rest:=[(4,.agg (mrkL C).toArray),(3,.agg (bodL M).toArray)]) (by rw[h1];rfl) (by rw[h1,hzl];decide)
 obtain⟨c2,e2,s2,g2⟩:=fill_part (place:=place55) (c:=c1) (i:=4) (off:=385) (v:= .agg (mrkL C).toArray) (rest:=[(3,.agg (bodL M).toArray)]) (by rw[h2];rfl) (by rw[h2,s1,hzl];decide)
 obtain⟨c3,e3,s3,g3⟩:=fill_part (place:=place55) (c:=c2) (i:=3) (off:=129) (v:= .agg (bodL M).toArray) (rest:=[]) (by rw[h3];rfl) (by rw[h3,s2,s1,hzl];decide)
 rw[e1,e2,e3,Instr.fill.eq_1]
 refine congrArg some (Array.ext_getElem? fun k=>?_);rw[g3,g2,g1,h1,h2,h3,hz]
 show (if 129≤k∧k < 129+256 then (bodL M).toArray[k - 129]? else if 385≤k∧k < 385+64 then (mrkL C).toArray[k - 385]? else if 0≤k∧k < 0+1 then (#[Value.int .i64 n]:Array Value)[k - 0]? else _)=_;simp only[List.getElem?_toArray]
 by_cases hk:k < 449
 ·rw[brdL_get hk,brdL_get hk]
  unfold brdV
  by_cases k1:129≤k∧k < 129+256
  ·rw[if_pos k1,if_neg (by omega),if_neg (by omega),if_neg (by omega),if_pos (by omega)]
   unfold bodL;rw[List.getElem?_map,List.getElem?_range (by omega)]
   rfl
  ·rw[if_neg k1]
   by_cases k2:385≤k∧k < 385+64
   ·rw[if_pos k2,if_neg (by omega),if_neg (by omega),if_neg (by omega),if_neg (by omega)]
    unfold mrkL;rw[List.getElem?_map,List.getElem?_range (by omega)]
    rfl
   ·rw[if_neg k2]
    by_cases k3:k=0
    ·subst k3;rfl
    ·rw[if_neg (by omega),if_neg k3,if_neg k3]
     by_cases k4:k < 65
     ·rw[if_pos k4,if_pos k4]
     ·rw[if_neg k4,if_neg k4,if_pos (by omega),if_pos (by omega)]
 ·rw[if_neg (by omega),if_neg (by omega),if_neg (by omega),List.getElem?_eq_none (by rw[brdL_len];omega),List.getElem?_eq_none (by rw[brdL_len];omega)]
variable {p:Pl}{f:Nat→Fa}{xb xo icap fb fo lcap:Nat}{b:Nat}{m:Nat→Nat→Bool}{w wx:World}{n:Nat}
theorem mark0_any (hB:Bs p f xb xo icap fb fo lcap w)(hn:p.n=n)(hS:Sd w b (.slice (some ⟨xb,xo,none⟩) n icap) (.slice (some ⟨fb,fo,none⟩) n lcap) m wx) :
  Calls Tryz.prog 89 #[.pointer (some ⟨b,0,none⟩),.pointer (some ⟨b,2,none⟩),.func (Fn.func 90) #[] #[],.func (Fn.func 91) #[.pointer (some ⟨b,0,none⟩)] #[]] wx fun e w'=>e= .returned (.tuple #[])∧∃m',Sd w b (.slice (some ⟨xb,xo,none⟩) n icap) (.slice (some ⟨fb,fo,none⟩) n lcap) m' w'∧Agr n 0 (fun i=>(W p f i).touched) 0 m m':=by
 refine mark_any hB hn hS 0 2 (by omega) rfl 91 90 (fun i=>(W p f i).touched) (fun _ _=>by kernel_rfl) (fun _ _=>by kernel_rfl) (fun wy m' i hS' hA hi hsub=>?_) (fun wy i hi hsub=>?_)
 ·have hv:∀j,j < p.n→p.sub j=false→p.vital j=false:=fun j hj hs=>(hB.step j hj hs).2
  have h9:=saga_touched hB.ok (f:=f) (m:=m') (s:=i) (by omega) hsub (fun j h1 h2=>hA.from_ j (by omega) (by omega));have h8:=sagaTouched_any hB hn hS' hi;rw[h9] at h8
  exact h8
 ·have he:(W p f i).touched=(stepW (f i)).touched:=by rw[W_eq (by omega),hsub];rfl
  rw[he]
  exact hasBegun_any (f i) wy
theorem mark1_any (hB:Bs p f xb xo icap fb fo lcap w)(hn:p.n=n)(hS:Sd w b (.slice (some ⟨xb,xo,none⟩) n icap) (.slice (some ⟨fb,fo,none⟩) n lcap) m wx) :
  Calls Tryz.prog 89 #[.pointer (some ⟨b,0,none⟩),.pointer (some ⟨b,66,none⟩),.func (Fn.func 92) #[] #[],.func (Fn.func 93) #[.pointer (some ⟨b,0,none⟩)] #[]] wx fun e w'=>e= .returned (.tuple #[])∧∃m',Sd w b (.slice (some ⟨xb,xo,none⟩) n icap) (.slice (some ⟨fb,fo,none⟩) n lcap) m' w'∧Agr n 1 (fun i=>(W p f i).clean) 0 m m':=by
 refine mark_any hB hn hS 1 66 (by omega) rfl 93 92 (fun i=>(W p f i).clean) (fun _ _=>by kernel_rfl) (fun _ _=>by kernel_rfl) (fun wy m' i hS' hA hi hsub=>?_) (fun wy i hi hsub=>?_)
 ·have hv:∀j,j < p.n→p.sub j=false→p.vital j=false:=fun j hj hs=>(hB.step j hj hs).2
  have h9:=saga_clean (f:=f) (m:=m') (s:=i) (by omega) hsub (fun j h1 h2=>hA.from_ j (by omega) (by omega));have h8:=sagaClean_any hB hn hS' hi;rw[h9] at h8
  exact h8
 ·have he:(W p f i).clean=(stepW (f i)).clean:=by rw[W_eq (by omega),hsub];rfl
  rw[he]
  exact stepClean_any (f i) wy
theorem mark2_any (hB:Bs p f xb xo icap fb fo lcap w)(hn:p.n=n)(hS:Sd w b (.slice (some ⟨xb,xo,none⟩) n icap) (.slice (some ⟨fb,fo,none⟩) n lcap) m wx)(h1:∀i,i < n→m 1 i=(W p f i).clean) :
  Calls Tryz.prog 89 #[.pointer (some ⟨b,0,none⟩),.pointer (some ⟨b,130,none⟩),.func (Fn.func 94) #[] #[],.func (Fn.func 95) #[.pointer (some ⟨b,0,none⟩)] #[]] wx fun e w'=>e= .returned (.tuple #[])∧∃m',Sd w b (.slice (some ⟨xb,xo,none⟩) n icap) (.slice (some ⟨fb,fo,none⟩) n lcap) m' w'∧Agr n 2 (fun i=>(W p f i).spent) 0 m m':=by
 refine mark_any hB hn hS 2 130 (by omega) rfl 95 94 (fun i=>(W p f i).spent) (fun _ _=>by kernel_rfl) (fun _ _=>by kernel_rfl) (fun wy m' i hS' hA hi hsub=>?_) (fun wy i hi hsub=>?_)
 ·have hv:∀j,j < p.n→p.sub j=false→p.vital j=false:=fun j hj hs=>(hB.step j hj hs).2
  have h9:=saga_spent hv (f:=f) (m:=m') (s:=i) (by omega) hsub (fun j q1 q2=>(hA.rest 1 j (by decide)).trans (h1 j (by omega))) (fun j q1 q2=>hA.from_ j (by omega) (by omega));have h8:=sagaSpent_any hB hn hS' hi;rw[h9] at h8
  exact h8
 ·have he:(W p f i).spent=(stepW (f i)).spent:=by rw[W_eq (by omega),hsub];rfl
  rw[he]
  exact never_any (f i) wy
theorem mark3_any (hB:Bs p f xb xo icap fb fo lcap w)(hn:p.n=n)(hS:Sd w b (.slice (some ⟨xb,xo,none⟩) n icap) (.slice (some ⟨fb,fo,none⟩) n lcap) m wx)(h1:∀i,i < n→m 1 i=(W p f i).clean)(h2:∀i,i < n→m 2 i=(W p f i).spent) :
  Calls Tryz.prog 89 #[.pointer (some ⟨b,0,none⟩),.pointer (some ⟨b,194,none⟩),.func (Fn.func 96) #[] #[],.func (Fn.func 97) #[.pointer (some ⟨b,0,none⟩)] #[]] wx fun e w'=>e= .returned (.tuple #[])∧∃m',Sd w b (.slice (some ⟨xb,xo,none⟩) n icap) (.slice (some ⟨fb,fo,none⟩) n lcap) m' w'∧Agr n 3 (fun i=>(W p f i).done) 0 m m':=by
 refine mark_any hB hn hS 3 194 (by omega) rfl 97 96 (fun i=>(W p f i).done) (fun _ _=>by kernel_rfl) (fun _ _=>by kernel_rfl) (fun wy m' i hS' hA hi hsub=>?_) (fun wy i hi hsub=>?_)
 ·have hv:∀j,j < p.n→p.sub j=false→p.vital j=false:=fun j hj hs=>(hB.step j hj hs).2
  have h9:=saga_done hv (f:=f) (m:=m') (s:=i) (by omega) hsub (fun j q1 q2=>(hA.rest 1 j (by decide)).trans (h1 j (by omega))) (fun j q1 q2=>(hA.rest 2 j (by decide)).trans (h2 j (by omega))) (fun j q1 q2=>hA.from_ j (by omega) (by omega));have h8:=sagaDone_any hB hn hS' hi (hB.ok.alts i (by omega) hsub);rw[h9] at h8
  exact h8
 ·have he:(W p f i).done=(stepW (f i)).done:=by rw[W_eq (by omega),hsub];rfl
  rw[he]
  exact stepDone_any (f i) wy
structure Mok (p:Pl)(f:Nat→Fa)(n:Nat)(m:Nat→Nat→Bool):Prop where
 m0:∀i,i < n→m 0 i=(W p f i).touched
 m1:∀i,i < n→m 1 i=(W p f i).clean
 m2:∀i,i < n→m 2 i=(W p f i).spent
 m3:∀i,i < n→m 3 i=(W p f i).done
def Mf (p:Pl)(f:Nat→Fa)(s a:Nat):Bool:=decide (s < p.n∧a < p.alts s) && (halted p f s || F p f s a)
def atP (p:Pl)(f:Nat→Fa)(i:Nat):Int:=if p.sub i then ((W p f i).at_:Int) else -1
theorem fallingM_any (hB:Bs p f xb xo icap fb fo lcap w)(hn:p.n=n)(hS:Sd w b (.slice (some ⟨xb,xo,none⟩) n icap) (.slice (some ⟨fb,fo,none⟩) n lcap) m wx)(hm:Mok p f n m) :
  Calls Tryz.prog 98 #[.pointer (some ⟨b,0,none⟩)] wx fun e w'=>e= .returned (.agg (bodL (Mf p f)).toArray)∧Below wx.heap.size wx w':=by
 have hv:∀j,j < p.n→p.sub j=false→p.vital j=false:=fun j hj hs=>(hB.step j hj hs).2
 have hF:∀s a,(!allK p s a (okH p f m))=F p f s a:=fun s a=>falls_allK hv fun j _ h2=>hm.m2 j (by omega)
 have h:=falling_any hB hn hS (halted p f) (halted_root p f) (fun s h1 h2=>by rw[hF,halted_eq hB.ok f h1 (by omega),Bool.or_comm]);have he:tgt p f m (halted p f)=Mf p f:=by
  funext s a
  unfold tgt Mf;rw[hF]
 rw[he] at h
 exact h
theorem bodyM_any (hB:Bs p f xb xo icap fb fo lcap w)(hn:p.n=n)(hS:Sd w b (.slice (some ⟨xb,xo,none⟩) n icap) (.slice (some ⟨fb,fo,none⟩) n lcap) m wx)(hm:Mok p f n m){s:Nat}(hs:s < n)(hsub:p.sub s=true) :
  Calls Tryz.prog 100 #[.pointer (some ⟨b,0,none⟩),.int .i64 (s:Int)] wx fun e w'=>e= .returned (.int .i64 (atP p f s))∧Below wx.heap.size wx w':=by
 have hv:∀j,j < p.n→p.sub j=false→p.vital j=false:=fun j hj hs=>(hB.step j hj hs).2
 have h:=body_any hB hn hS hs (hB.ok.alts s (by omega) hsub);have he:((first (ovr p f m s) (p.alts s) (p.alts s) 0:Nat):Int)=atP p f s:=by
  unfold atP;rw[if_pos hsub,saga_at hv (by omega) hsub (fun j _ h2=>hm.m1 j (by omega)) (fun j _ h2=>hm.m2 j (by omega))]
 rw[he] at h
 exact h
theorem sagaStatusM_any (hle:n≤64){v lv:Value}(hS:Sd w b v lv m wx)(hm:Mok p f n m){s:Nat}(hs:s < n)(hsub:p.sub s=true) :
  Calls Tryz.prog 101 #[.pointer (some ⟨b,0,none⟩),.int .i64 (s:Int),.bool (halted p f s)] wx fun e w'=>e= .returned (.int .i64 (St.S p f s))∧Below wx.heap.size wx w':=by
 have h:=sagaStatus_any hS (s:=s) (by omega) (halted p f s);have he:sagaS (iwM m s) (halted p f s)=St.S p f s:=by
  unfold St.S;rw[if_pos hsub]
  unfold sagaS iwM;rw[hm.m0 s hs,hm.m1 s hs,hm.m2 s hs,hm.m3 s hs]
 rw[he] at h
 exact h
theorem halt_at {p:Pl}(hp:p.Ok){f:Nat→Fa}{s:Nat}(h1:1≤s)(h2:s < p.n):Mf p f (p.inn s) (p.alt s)=halted p f s:=by
 have h3:=hp.inn s h1 h2;unfold Mf;rw[decide_eq_true ⟨by omega,h3.2.2⟩,Bool.true_and,halted_eq hp f h1 h2,Bool.or_comm]
structure Bl (w:World)(b d:Nat)(v lv:Value)(m:Nat→Nat→Bool)(n:Int)(S A:Nat→Int)(M:Nat→Nat→Bool)(C:Nat→Bool)(W:World):Prop where
 sd:Sd w b v lv m W
 low:w.heap.size≤d
 ne:b≠d
 bd:W.heap[d]? =some (.cells (brdL n S A M C).toArray 139 (0,0))
theorem Bl.later {w:World}{b d:Nat}{v lv:Value}{m:Nat→Nat→Bool}{n:Int}{S A:Nat→Int}{M:Nat→Nat→Bool}{C:Nat→Bool}{W W':World}(h:Bl w b d v lv m n S A M C W)(hb:Below W.heap.size W W'):Bl w b d v lv m n S A M C W':=
 ⟨h.sd.later hb,h.low,h.ne,(hb.block _ (Array.getElem?_eq_some_iff.1 h.bd).1).trans h.bd⟩
theorem Bl.putA {w:World}{b d:Nat}{v lv:Value}{m:Nat→Nat→Bool}{n:Int}{S A:Nat→Int}{M:Nat→Nat→Bool}{C:Nat→Bool}{W:World}(h:Bl w b d v lv m n S A M C W){i:Nat}(x:Int)(hi:i < 64):Bl w b d v lv m n S (putN A i x) M C (W.setCell ⟨d,65+i,none⟩ (.int .i64 x)):=by
 refine⟨⟨h.sd.bel.setCell h.low _,h.sd.low,Dg.row_other h.sd.sb _ h.ne⟩,h.low,h.ne,?_⟩
 rw[Dg.row_set h.bd,List.setIfInBounds_toArray,brdL_setA x hi]
theorem Bl.putS {w:World}{b d:Nat}{v lv:Value}{m:Nat→Nat→Bool}{n:Int}{S A:Nat→Int}{M:Nat→Nat→Bool}{C:Nat→Bool}{W:World}(h:Bl w b d v lv m n S A M C W){i:Nat}(x:Int)(hi:i < 64):Bl w b d v lv m n (putN S i x) A M C (W.setCell ⟨d,1+i,none⟩ (.int .i64 x)):=by
 refine⟨⟨h.sd.bel.setCell h.low _,h.sd.low,Dg.row_other h.sd.sb _ h.ne⟩,h.low,h.ne,?_⟩
 rw[Dg.row_set h.bd,List.setIfInBounds_toArray,brdL_setS x hi]
theorem brd_cellA {W:World}{d:Nat}{n:Int}{S A:Nat→Int}{M:Nat→Nat→Bool}{C:Nat→Bool}(h:W.heap[d]? =some (.cells (brdL n S A M C).toArray 139 (0,0))){i:Nat}(hi:i < 64):W.cell? ⟨d,65+i,none⟩=some (.int .i64 (A i)):=by
 rw[Dg.cell_row h,List.getElem?_toArray,brdL_get (by omega)]
 unfold brdV;rw[if_neg (by omega),if_neg (by omega),if_pos (by omega),show 65+i - 65=i by omega]
theorem brd_cellS {W:World}{d:Nat}{n:Int}{S A:Nat→Int}{M:Nat→Nat→Bool}{C:Nat→Bool}(h:W.heap[d]? =some (.cells (brdL n S A M C).toArray 139 (0,0))){i:Nat}(hi:i < 64):W.cell? ⟨d,1+i,none⟩=some (.int .i64 (S i)):=by
 rw[Dg.cell_row h,List.getElem?_toArray,brdL_get (by omega)]
 unfold brdV;rw[if_neg (by omega),if_pos (by omega),show 1+i - 1=i by omega]
theorem brd_cellM {W:World}{d:Nat}{n:Int}{S A:Nat→Int}{M:Nat→Nat→Bool}{C:Nat→Bool}(h:W.heap[d]? =some (.cells (brdL n S A M C).toArray 139 (0,0))){s a:Nat}(hs:s < 64)(ha:a < 4):W.cell? ⟨d,129+s * 4+a,none⟩=some (.bool (M s a)):=by
 rw[Dg.cell_row h,List.getElem?_toArray,brdL_get (by omega)]
 unfold brdV;rw[if_neg (by omega),if_neg (by omega),if_neg (by omega),if_pos (by omega),show (129+s * 4+a - 129) / 4=s by omega,show (129+s * 4+a - 129) % 4=a by omega]
theorem brd_cellC {W:World}{d:Nat}{n:Int}{S A:Nat→Int}{M:Nat→Nat→Bool}{C:Nat→Bool}(h:W.heap[d]? =some (.cells (brdL n S A M C).toArray 139 (0,0))){i:Nat}(hi:i < 64):W.cell? ⟨d,385+i,none⟩=some (.bool (C i)):=by
 rw[Dg.cell_row h,List.getElem?_toArray,brdL_get (by omega)]
 unfold brdV;rw[if_neg (by omega),if_neg (by omega),if_neg (by omega),if_neg (by omega),show 385+i - 385=i by omega]
theorem brd_cell0 {W:World}{d:Nat}{n:Int}{S A:Nat→Int}{M:Nat→Nat→Bool}{C:Nat→Bool}(h:W.heap[d]? =some (.cells (brdL n S A M C).toArray 139 (0,0))):W.cell? ⟨d,0,none⟩=some (.int .i64 n):=by
 rw[Dg.cell_row h,List.getElem?_toArray,brdL_get (by omega)]
 rfl
structure Bx (w:World)(b d x:Nat)(v lv:Value)(m:Nat→Nat→Bool)(n:Int)(S A:Nat→Int)(M:Nat→Nat→Bool)(C:Nat→Bool)(X:Array Value)(W:World):Prop where
 bl:Bl w b d v lv m n S A M C W
 nx:x≠d
 row:W.heap[x]? =some (.cells X 50 (0,0))
theorem Bx.later {w:World}{b d x:Nat}{v lv:Value}{m:Nat→Nat→Bool}{n:Int}{S A:Nat→Int}{M:Nat→Nat→Bool}{C:Nat→Bool}{X:Array Value}{W W':World}(h:Bx w b d x v lv m n S A M C X W)(hb:Below W.heap.size W W'):Bx w b d x v lv m n S A M C X W':=
 ⟨h.bl.later hb,h.nx,(hb.block _ (Array.getElem?_eq_some_iff.1 h.row).1).trans h.row⟩
theorem Bx.putA {w:World}{b d x:Nat}{v lv:Value}{m:Nat→Nat→Bool}{n:Int}{S A:Nat→Int}{M:Nat→Nat→Bool}{C:Nat→Bool}{X:Array Value}{W:World}(h:Bx w b d x v lv m n S A M C X W){i:Nat}(y:Int)(hi:i < 64):Bx w b d x v lv m n S (putN A i y) M C X (W.setCell ⟨d,65+i,none⟩ (.int .i64 y)):=
 ⟨h.bl.putA y hi,h.nx,Dg.row_other h.row _ h.nx⟩
theorem Bx.putS {w:World}{b d x:Nat}{v lv:Value}{m:Nat→Nat→Bool}{n:Int}{S A:Nat→Int}{M:Nat→Nat→Bool}{C:Nat→Bool}{X:Array Value}{W:World}(h:Bx w b d x v lv m n S A M C X W){i:Nat}(y:Int)(hi:i < 64):Bx w b d x v lv m n (putN S i y) A M C X (W.setCell ⟨d,1+i,none⟩ (.int .i64 y)):=
 ⟨h.bl.putS y hi,h.nx,Dg.row_other h.row _ h.nx⟩
structure Upk (p:Pl)(f:Nat→Fa)(k:Nat)(S A:Nat→Int):Prop where
 s:∀i,i < k→S i=St.S p f i
 a:∀i,i < k→A i=atP p f i
theorem Upk.next {p:Pl}{f:Nat→Fa}{k:Nat}{S A:Nat→Int}(h:Upk p f k S A){x y:Int}(hx:x=St.S p f k)(hy:y=atP p f k):Upk p f (k+1) (putN S k x) (putN A k y):=by
 subst hx hy;refine⟨fun i hi=>?_,fun i hi=>?_⟩
 ·unfold putN
  by_cases hk:i=k
  ·subst hk;rw[if_pos rfl]
  ·rw[if_neg hk];exact h.s i (by omega)
 ·unfold putN
  by_cases hk:i=k
  ·subst hk;rw[if_pos rfl]
  ·rw[if_neg hk];exact h.a i (by omega)
theorem size53:(Tryz.prog.info? 137).map (·.size)=some 64:=by kernel_rfl
theorem load53 {W:World}{v lv:Value}(h:Sd w b v lv m W){o:Oper}{a:Act}{x:Operand}(ho:o.op= .load 137 x)(hx:a.eval x= .pointer (some ⟨b,66,none⟩)):(execOp a.eval o).run Tryz.prog W= .ok (.value (.agg (mrkL (m 1)).toArray)) W:=by
 have hc:W.rangeAt b 66 (mrkL (m 1)):=fun j u hu=>by
  unfold mrkL at hu;rw[List.getElem?_map] at hu
  by_cases hj:j < 64
  ·rw[List.getElem?_range hj] at hu
   cases hu;exact h.m1 hj
  ·rw[List.getElem?_eq_none (by simp;omega)] at hu
   cases hu
 have hl:(mrkL (m 1)).length=64:=by unfold mrkL;rw[List.length_map,List.length_range]
 unfold execOp;simp only[ho,hx,Instr.loadAt,Instr.sureAddr,Sem.run_bind,Sem.run_pure,Result.andThen_ok,run_loadVar_mid W b 66 137 (mrkL (m 1)) _ hc Tryz.underlying137 rfl (by rw[size53,hl])]
theorem build55_run {W:World}{o:Oper}{a:Act}{x y z:Operand}{k:Int}{M:Nat→Nat→Bool}{C:Nat→Bool}(ho:o.op= .build 139 #[(0,x),(4,y),(3,z)])(hx:a.eval x= .int .i64 k)(hy:a.eval y= .agg (mrkL C).toArray)(hz:a.eval z= .agg (bodL M).toArray) :
  (execOp a.eval o).run Tryz.prog W= .ok (.value (.agg (brdL k (fun _=>0) (fun _=>0) M C).toArray)) W:=by
 have h:=run_build (P:=Tryz.prog) W 139 #[(0,.int .i64 k),(4,.agg (mrkL C).toArray),(3,.agg (bodL M).toArray)] _ (built55 k M C);unfold execOp;have he:((#[(0,x),(4,y),(3,z)]:Array (Nat × Operand)).map fun (q:Nat × Operand)=>(q.1,a.eval q.2))= #[(0,.int .i64 k),(4,.agg (mrkL C).toArray),(3,.agg (bodL M).toArray)]:=by
  simp[hx,hy,hz]
 simp only[ho];rw[he,Sem.run_bind,h]
 rfl
theorem box55_run {W:World}{o:Oper}{a:Act}{x:Operand}{C:Array Value}(ho:o.op= .box 139 x)(hx:a.eval x= .agg C) :
  (execOp a.eval o).run Tryz.prog W= .ok (.value (.pointer (some ⟨W.heap.size,0,none⟩))) (W.alloc (.cells C 139)):=by
 unfold execOp;simp only[ho,hx,Sem.run_bind,Instr.box,newVar,newRow,run_newObj_alloc,Sem.run_pure,Result.andThen_ok];rfl
theorem zero95 (v lv:Value):(Tryz.zeroCells172.setIfInBounds 0 v).setIfInBounds 1 lv=(stL v lv fun _ _=>false).toArray:=by
 have h:Tryz.zeroCells172=(stL (.slice none 0 0) (.slice none 0 0) fun _ _=>false).toArray:=by kernel_rfl
 rw[h]
 rfl
end Go.Proofs.YtieoppabellafaaGreatDoor.Sa
