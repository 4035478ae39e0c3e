/- Texts of the seat, packed: Zn Zo Zp Zq. -/
import Derived.Test.YtieoppabellafaaGreatDoorP12
set_option maxRecDepth 1000000
set_option maxHeartbeats 64000000
set_option linter.unusedVariables false
namespace Go.Proofs.YtieoppabellafaaGreatDoor
open Go.RowKit Go.Shelf Sx
def hangI (n i:Nat)(y:It):Bool:=decide (y.inn < (i:Int)) && (decide (0≤y.alts) && (decide (y.alts≤4) && (decide (y.after.length < 16) && y.after.all fun on=>decide (0≤on) && decide (on < (n:Int)))))
def hangF (n:Nat):Nat→List It→Bool
 | _,[]=>true
 | i,y :: r=>hangI n i y && hangF n (i+1) r
def hangs (its:List It):Bool:=decide (0 < its.length) && (decide (its.length≤64) && hangF its.length 0 its)
theorem mustHang_any (its:List It)(v:Value)(w:World)(hIt:RdIt w v its) :
  Calls Tryz.prog 149 #[v] w fun e w'=>e=mustE (hangs its) 2∧Below w.heap.size w w':=by
 obtain⟨ia,icap,rfl,hic,hir⟩:=hIt
 have HIR:Hid _:=hir;obtain⟨il,HIL⟩:∃il,Hid (its.length=il):=⟨_,rfl⟩
 rw[HIL.out] at hic ⊢
 clear hir
 by_cases h0:0 < il
 rotate_left
 ·have hil:il=0:=by omega
  have HH:Hid (hangs its=false):=by show _=_;unfold hangs;rw[HIL.out,decide_eq_false h0];rfl
  subst hil
  go_enter Tryz.func149,Tryz.ntmps149
  go_wp2_with fail
  refine Calls.mono (must_no _ _) ?_;rintro e w1 ⟨rfl,rfl⟩
  go_wp2_with fail
  exact⟨rfl,by rw[HH.out];rfl,Below.refl _ _⟩
 have q0:decide ((il:Int) > 0)=true:=by simp;omega
 have q0':decide (0 < (il:Int))=true:=by simp;omega
 have q0'':decide (0 < il)=true:=by simp;omega
 by_cases h64:il≤64
 rotate_left
 ·have HH:Hid (hangs its=false):=by show _=_;unfold hangs;rw[HIL.out,decide_eq_false h64];simp
  have q1:decide ((il:Int)≤64)=false:=by simp;omega
  have q1':decide (il≤64)=false:=by simp;omega
  go_enter Tryz.func149,Tryz.ntmps149
  go_wp2_with fail
  refine Calls.mono (must_no _ _) ?_;rintro e w1 ⟨rfl,rfl⟩
  go_wp2_with fail
  exact⟨rfl,by rw[HH.out];rfl,Below.refl _ _⟩
 have HH:Hid (hangs its=hangF il 0 its):=by show _=_;unfold hangs;rw[HIL.out,decide_eq_true h0,decide_eq_true h64];rfl
 have q1:decide ((il:Int)≤64)=true:=by simp;omega
 have q1':decide (il≤64)=true:=by simp;omega
 go_enter Tryz.func149,Tryz.ntmps149
 go_wp2_with fail
 refine Calls.mono (must_yes _ _) ?_;rintro e w0 ⟨rfl,rfl⟩
 go_wp2_with fail
 clear q0 q0' q0'' q1 q1'
 go_loopw [17] (fun iv wr=>∃(i:Nat),i≤il∧iv= .int .i64 i∧Hid (hangF il 0 its=hangF il i (its.drop i))∧Hid (Below w0.heap.size w0 wr)) (fun iv _=>il - (intOf iv).toNat)
 case atStart=>exact⟨0,Nat.zero_le _,rfl,rfl,Below.refl _ _⟩
 case round=>
  obtain⟨i,hi,rfl,HF,HB⟩:=hrel
  rename World=>w1
  by_cases hlt:i < il
  rotate_left
  ·have hie:i=il:=by omega
   subst hie;have HT:Hid (hangs its=true):=by
    show _=_;rw[HH.out,HF.out,List.drop_eq_nil_of_le (by rw[HIL.out];exact Nat.le_refl _)]
    rfl
   go_wp2_with fail
   exact⟨rfl,_,results_none rfl _ _,by rw[HT.out];rfl,HB.out⟩
  obtain⟨y,hy⟩:∃y,its[i]? =some y:=⟨_,List.getElem?_eq_getElem (by rw[HIL.out];exact hlt)⟩
  obtain⟨b1,off1,yav,yam,yac,rfl,k0,k1,k2,k3,k4,k5,k6,k7,hz⟩:=HIR.out i y hy
  have j0:=Dg.cell_later HB.out k0;have j1:=Dg.cell_later HB.out k1;have j2:=Dg.cell_later HB.out k2;have j3:=Dg.cell_later HB.out k3;have j4:=Dg.cell_later HB.out k4;have j5:=Dg.cell_later HB.out k5;have j6:=Dg.cell_later HB.out k6;have j7:=Dg.cell_later HB.out k7;obtain⟨za,zcap,hze,hzc,hzr⟩:=hz
  cases hze;have HZR:Hid _:=hzr;obtain⟨m,HM⟩:∃m,Hid (y.after.length=m):=⟨_,rfl⟩
  rw[HM.out] at j7 hzc
  have hii:(i:Int) < (il:Int):=by omega
  have hdr:its.drop i=y :: its.drop (i+1):=by
   rw[List.drop_eq_getElem_cons (by rw[HIL.out];exact hlt)]
   congr 1
   exact (List.getElem?_eq_some_iff.1 hy).2
  rw[hdr] at HF
  have HF1:Hid (hangF il 0 its=(hangI il i y && hangF il (i+1) (its.drop (i+1)))):=HF.out;have HB1:Hid (Below w0.heap.size w0 (w1.alloc (.cells #[.string ⟨y.name.toArray⟩,.string ⟨y.undo.toArray⟩,.bool y.sub,.bool y.vital,.int .i64 y.alts,.int .i64 y.inn,.int .i64 y.alt,.slice yav m yac] 50))):=HB.out.alloc HB.out.size _;have nb:=Dg.row_new w1 #[.string ⟨y.name.toArray⟩,.string ⟨y.undo.toArray⟩,.bool y.sub,.bool y.vital,.int .i64 y.alts,.int .i64 y.inn,.int .i64 y.alt,.slice yav m yac] 50;have n4:=(Dg.cell_row nb 4).trans rfl;have n5:=(Dg.cell_row nb 5).trans rfl;have n7:=(Dg.cell_row nb 7).trans rfl;clear hy hzr k0 k1 k2 k3 k4 k5 k6 k7 hdr HF nb
  by_cases h1:y.inn < (i:Int)
  rotate_left
  ·have HN:Hid (hangs its=false):=by
    show _=_;rw[HH.out,HF1.out]
    unfold hangI;rw[HM.out]
    simp[h1]
   have q2:decide (y.inn < (i:Int))=false:=by simp;omega
   go_wp2_with fail
   refine Calls.mono (must_no _ _) ?_;rintro e w2 ⟨rfl,rfl⟩
   go_wp2_with fail
   exact⟨rfl,by rw[HN.out];rfl,HB1.out⟩
  have p0:decide (y.inn < (i:Int))=true:=by simp;omega
  by_cases h2:0≤y.alts
  rotate_left
  ·have HN:Hid (hangs its=false):=by
    show _=_;rw[HH.out,HF1.out]
    unfold hangI;rw[HM.out]
    simp[h1,h2]
   have q2:decide (0≤y.alts)=false:=by simp;omega
   go_wp2_with fail
   refine Calls.mono (must_no _ _) ?_;rintro e w2 ⟨rfl,rfl⟩
   go_wp2_with fail
   exact⟨rfl,by rw[HN.out];rfl,HB1.out⟩
  have p1:decide (0≤y.alts)=true:=by simp;omega
  by_cases h3:y.alts≤4
  rotate_left
  ·have HN:Hid (hangs its=false):=by
    show _=_;rw[HH.out,HF1.out]
    unfold hangI;rw[HM.out]
    simp[h1,h2,h3]
   have q2:decide (y.alts≤4)=false:=by simp;omega
   go_wp2_with fail
   refine Calls.mono (must_no _ _) ?_;rintro e w2 ⟨rfl,rfl⟩
   go_wp2_with fail
   exact⟨rfl,by rw[HN.out];rfl,HB1.out⟩
  have p2:decide (y.alts≤4)=true:=by simp;omega
  by_cases h4:m < 16
  rotate_left
  ·have HN:Hid (hangs its=false):=by
    show _=_;rw[HH.out,HF1.out]
    unfold hangI;rw[HM.out]
    simp[h1,h2,h3,h4]
   have q2:decide ((m:Int) < 16)=false:=by simp;omega
   go_wp2_with fail
   refine Calls.mono (must_no _ _) ?_;rintro e w2 ⟨rfl,rfl⟩
   go_wp2_with fail
   exact⟨rfl,by rw[HN.out];rfl,HB1.out⟩
  have p3:decide ((m:Int) < 16)=true:=by simp;omega
  have HF2:Hid (hangI il i y=y.after.all fun on=>decide (0≤on) && decide (on < (il:Int))):=by
   show _=_;unfold hangI;rw[HM.out]
   simp[h1,h2,h3,h4]
  go_wp2_with fail
  refine Calls.mono (must_yes _ _) ?_;rintro e w2 ⟨rfl,rfl⟩
  go_wp2_with fail
  clear j0 j1 j2 j3 j4 j5 j6 j7 n4 n5 n7 p0 p1 p2 p3;generalize w1.alloc (.cells #[.string ⟨y.name.toArray⟩,.string ⟨y.undo.toArray⟩,.bool y.sub,.bool y.vital,.int .i64 y.alts,.int .i64 y.inn,.int .i64 y.alt,.slice yav m yac] 50)=w2 at *
  go_loopw [46] (fun jv wr=>∃(j:Nat),j≤m∧jv= .int .i64 j∧Hid (∀on∈y.after.take j,(decide (0≤on) && decide (on < (il:Int)))=true)∧Hid (Below w0.heap.size w0 wr)) (fun jv _=>m - (intOf jv).toNat)
  case atStart=>exact⟨0,Nat.zero_le _,rfl,by show ∀on∈_,_;simp,HB1⟩
  case round=>
   obtain⟨j,hj,rfl,HA,HBj⟩:=hrel
   rename World=>w3
   clear HB1
   by_cases hjl:j < m
   rotate_left
   ·have hjm:j=m:=by omega
    subst hjm;have HN:Hid (hangF il 0 its=hangF il (i+1) (its.drop (i+1))):=by
     show _=_;rw[HF1.out,HF2.out]
     have:(y.after.all fun on=>decide (0≤on) && decide (on < (il:Int)))=true:=by
      rw[List.all_eq_true]
      intro on hon;exact HA.out on (by rw[List.take_of_length_le (by rw[HM.out];exact Nat.le_refl _)];exact hon)
     rw[this]
     rfl
    go_wp2_with fail
    go_roundw
    case rel=>exact⟨i+1,by omega,by go_num,HN,HBj⟩
    case measure=>simp[intOf];omega
   obtain⟨on,hon⟩:∃on,y.after[j]? =some on:=⟨_,List.getElem?_eq_getElem (by rw[HM.out];exact hjl)⟩
   obtain⟨b,off,rfl,c0⟩:=HZR.out j on hon
   have d0:=Dg.cell_later HBj.out c0;have hjj:(j:Int) < (m:Int):=by omega
   have HMem:Hid (on∈y.after):=List.mem_of_getElem? hon;have HTk:Hid (y.after.take (j+1)=y.after.take j ++ [on]):=by show _=_;rw[List.take_add_one,hon];rfl
   clear hon c0
   by_cases g1:0≤on
   rotate_left
   ·have HN:Hid (hangs its=false):=by
     show _=_;rw[HH.out,HF1.out,HF2.out,List.all_eq_false.2 ⟨on,HMem.out,by simp[g1]⟩]
     rfl
    have q2:decide (0≤on)=false:=by simp;omega
    go_wp2_with fail
    refine Calls.mono (must_no _ _) ?_;rintro e w4 ⟨rfl,rfl⟩
    go_wp2_with fail
    exact⟨rfl,by rw[HN.out];rfl,HBj.out⟩
   have p5:decide (0≤on)=true:=by simp;omega
   by_cases g2:on < (il:Int)
   rotate_left
   ·have HN:Hid (hangs its=false):=by
     show _=_;rw[HH.out,HF1.out,HF2.out,List.all_eq_false.2 ⟨on,HMem.out,by simp[g1,g2]⟩]
     rfl
    have q2:decide (on < (il:Int))=false:=by simp;omega
    go_wp2_with fail
    refine Calls.mono (must_no _ _) ?_;rintro e w4 ⟨rfl,rfl⟩
    go_wp2_with fail
    exact⟨rfl,by rw[HN.out];rfl,HBj.out⟩
   have p6:decide (on < (il:Int))=true:=by simp;omega
   have HAn:Hid (∀z∈y.after.take (j+1),(decide (0≤z) && decide (z < (il:Int)))=true):=by
    show ∀z∈_,_
    rw[HTk.out]
    intro z hz
    rcases List.mem_append.1 hz with h | h
    ·exact HA.out z h
    ·simp at h;subst h;rw[p5,p6]
     rfl
   go_wp2_with fail
   refine Calls.mono (must_yes _ _) ?_;rintro e w4 ⟨rfl,rfl⟩
   go_wp2_with fail
   go_roundw
   case rel=>exact⟨j+1,by omega,by go_num,HAn,HBj⟩
   case measure=>simp[intOf];omega
theorem Equal_any (l m:List Int)(v u:Value)(w:World)(hl:RdZ w v l)(hm:RdZ w u m)(hn:l.length≤1000000)(hn':m.length≤1000000) :
  Calls Tryz.prog 163 #[v,u] w fun e w'=>e= .returned (.bool (decide (l=m)))∧Below w.heap.size w w':=by
 obtain⟨a,cap,rfl,hc,hr⟩:=hl
 obtain⟨a',cap',rfl,hc',hr'⟩:=hm
 have HR:Hid _:=hr;have HR':Hid _:=hr';obtain⟨n,HN⟩:∃n,Hid (l.length=n):=⟨_,rfl⟩
 obtain⟨n',HN'⟩:∃n,Hid (m.length=n):=⟨_,rfl⟩
 rw[HN.out] at hn hc ⊢
 rw[HN'.out] at hn' hc' ⊢
 clear hr hr'
 by_cases hnn:n=n'
 ·subst hnn
  go_enter Tryz.func163,Tryz.ntmps163
  go_wp2_with fail
  go_loopw [13] (fun iv wr=>∃(k:Nat),k≤n∧iv= .int .i64 k∧Hid (l.take k=m.take k)∧Hid (Below w.heap.size w wr)) (fun iv _=>n - (intOf iv).toNat)
  case atStart=>exact⟨0,Nat.zero_le _,rfl,by show l.take 0=m.take 0;simp,Below.refl _ _⟩
  case round=>
   obtain⟨k,hk,rfl,HX,HB⟩:=hrel
   rename World=>w1
   by_cases hlt:k < n
   ·obtain⟨x,hx⟩:∃x,l[k]? =some x:=⟨_,List.getElem?_eq_getElem (by rw[HN.out];exact hlt)⟩
    obtain⟨y,hy⟩:∃y,m[k]? =some y:=⟨_,List.getElem?_eq_getElem (by rw[HN'.out];exact hlt)⟩
    obtain⟨b,off,rfl,c0⟩:=HR.out k x hx
    obtain⟨b',off',rfl,c1⟩:=HR'.out k y hy
    have d0:=Dg.cell_later HB.out c0;have d1:=Dg.cell_later HB.out c1;have hki:(k:Int) < (n:Int):=by omega
    by_cases hxy:x=y
    ·subst hxy;have HXn:Hid (l.take (k+1)=m.take (k+1)):=by show _=_;rw[List.take_add_one,List.take_add_one,hx,hy,HX.out]
     have HB2:Hid (Below w.heap.size w w1.drew):=Dg.bl_drawn1 HB.out;clear hx hy c0 c1
     go_wp2_with fail
     go_region
     all_goals go_wp2_with fail
     all_goals go_roundw
     case rel=>exact⟨k+1,by omega,by go_num,HXn,HB2⟩
     case measure=>simp[intOf];omega
    ·have hne:(x==y)=false:=by simpa using hxy
     have hne':(x !=y)=true:=by simpa using hxy
     have HNo:Hid (decide (l=m)=false):=by
      show _=_;refine decide_eq_false fun e=>hxy ?_
      rw[e,hy] at hx
      exact (Option.some.inj hx).symm
     have HB2:Hid (Below w.heap.size w w1.drew):=Dg.bl_drawn1 HB.out;clear hx hy c0 c1
     go_wp2_with fail
     go_region
     all_goals go_wp2_with fail
     all_goals go_ret
     all_goals exact⟨by rw[HNo.out];rfl,HB2.out⟩
   ·have hkn:k=n:=by omega
    subst hkn;have HYes:Hid (decide (l=m)=true):=by
     show _=_;have h9:=HX.out;rw[List.take_of_length_le (by rw[HN.out];exact Nat.le_refl _),List.take_of_length_le (by rw[HN'.out];exact Nat.le_refl _)] at h9
     exact decide_eq_true h9
    go_wp2_with fail
    go_ret
    exact⟨by rw[HYes.out];rfl,HB.out⟩
 ·have HNo:Hid (decide (l=m)=false):=by
   show _=_;refine decide_eq_false fun e=>hnn ?_
   rw[←HN.out,←HN'.out,e]
  have hb:((n:Int)==(n':Int))=false:=by simp;omega
  have hb':((n:Int) !=(n':Int))=true:=by simp;omega
  go_enter Tryz.func163,Tryz.ntmps163
  go_wp2_with fail
  go_ret
  exact⟨by rw[HNo.out];rfl,Below.refl _ _⟩
set_option linter.unusedSimpArgs false
theorem same_any (a b:It)(av bv:Option Addr)(am ac bm bc:Nat)(w:World)(ha:RdZ w (.slice av am ac) a.after)(hb:RdZ w (.slice bv bm bc) b.after)(hal:a.after.length≤1000000)(hbl:b.after.length≤1000000) :
  Calls Tryz.prog 152 #[.agg #[.string ⟨a.name.toArray⟩,.string ⟨a.undo.toArray⟩,.bool a.sub,.bool a.vital,.int .i64 a.alts,.int .i64 a.inn,.int .i64 a.alt,.slice av am ac],.agg #[.string ⟨b.name.toArray⟩,.string ⟨b.undo.toArray⟩,.bool b.sub,.bool b.vital,.int .i64 b.alts,.int .i64 b.inn,.int .i64 b.alt,.slice bv bm bc]] w fun e w'=>e= .returned (.bool (decide (a=b)))∧Below w.heap.size w w':=by
 obtain⟨G,HG⟩:∃G,Hid (decide (a=b)=G):=⟨_,rfl⟩
 rw[HG.out]
 have nA:=Dg.row_alloc (Dg.row_new w #[.string ⟨a.name.toArray⟩,.string ⟨a.undo.toArray⟩,.bool a.sub,.bool a.vital,.int .i64 a.alts,.int .i64 a.inn,.int .i64 a.alt,.slice av am ac] 50) (.cells #[.string ⟨b.name.toArray⟩,.string ⟨b.undo.toArray⟩,.bool b.sub,.bool b.vital,.int .i64 b.alts,.int .i64 b.inn,.int .i64 b.alt,.slice bv bm bc] 50);have nB:=Dg.row_new (w.alloc (.cells #[.string ⟨a.name.toArray⟩,.string ⟨a.undo.toArray⟩,.bool a.sub,.bool a.vital,.int .i64 a.alts,.int .i64 a.inn,.int .i64 a.alt,.slice av am ac] 50)) #[.string ⟨b.name.toArray⟩,.string ⟨b.undo.toArray⟩,.bool b.sub,.bool b.vital,.int .i64 b.alts,.int .i64 b.inn,.int .i64 b.alt,.slice bv bm bc] 50;rw[World.size_alloc] at nB
 have hB0:Below w.heap.size w ((w.alloc (.cells #[.string ⟨a.name.toArray⟩,.string ⟨a.undo.toArray⟩,.bool a.sub,.bool a.vital,.int .i64 a.alts,.int .i64 a.inn,.int .i64 a.alt,.slice av am ac] 50)).alloc (.cells #[.string ⟨b.name.toArray⟩,.string ⟨b.undo.toArray⟩,.bool b.sub,.bool b.vital,.int .i64 b.alts,.int .i64 b.inn,.int .i64 b.alt,.slice bv bm bc] 50)):=((Below.refl _ _).alloc (Nat.le_refl _) _).alloc (by simp) _;have HRa:Hid (RdZ ((w.alloc (.cells #[.string ⟨a.name.toArray⟩,.string ⟨a.undo.toArray⟩,.bool a.sub,.bool a.vital,.int .i64 a.alts,.int .i64 a.inn,.int .i64 a.alt,.slice av am ac] 50)).alloc (.cells #[.string ⟨b.name.toArray⟩,.string ⟨b.undo.toArray⟩,.bool b.sub,.bool b.vital,.int .i64 b.alts,.int .i64 b.inn,.int .i64 b.alt,.slice bv bm bc] 50)) (.slice av am ac) a.after):=ha.later hB0;have HRb:Hid (RdZ ((w.alloc (.cells #[.string ⟨a.name.toArray⟩,.string ⟨a.undo.toArray⟩,.bool a.sub,.bool a.vital,.int .i64 a.alts,.int .i64 a.inn,.int .i64 a.alt,.slice av am ac] 50)).alloc (.cells #[.string ⟨b.name.toArray⟩,.string ⟨b.undo.toArray⟩,.bool b.sub,.bool b.vital,.int .i64 b.alts,.int .i64 b.inn,.int .i64 b.alt,.slice bv bm bc] 50)) (.slice bv bm bc) b.after):=hb.later hB0;have HB0:Hid _:=hB0;clear ha hb hB0
 go_enter Tryz.func152,Tryz.ntmps152
 go_wp2_with fail
 generalize (w.alloc (.cells #[.string ⟨a.name.toArray⟩,.string ⟨a.undo.toArray⟩,.bool a.sub,.bool a.vital,.int .i64 a.alts,.int .i64 a.inn,.int .i64 a.alt,.slice av am ac] 50)).alloc (.cells #[.string ⟨b.name.toArray⟩,.string ⟨b.undo.toArray⟩,.bool b.sub,.bool b.vital,.int .i64 b.alts,.int .i64 b.inn,.int .i64 b.alt,.slice bv bm bc] 50)=w1 at *;have hS:Below w1.heap.size w1 {w1 with drawn:=w1.drawn+1} :=Dg.bl_drawn1 (Below.refl _ _);have x0:=(Dg.cell_row nA 0).trans rfl;have y0:=(Dg.cell_row nB 0).trans rfl;have x1:=(Dg.cell_row nA 1).trans rfl;have y1:=(Dg.cell_row nB 1).trans rfl;have x2:=(Dg.cell_row nA 2).trans rfl;have y2:=(Dg.cell_row nB 2).trans rfl;have x3:=(Dg.cell_row nA 3).trans rfl;have y3:=(Dg.cell_row nB 3).trans rfl;have x4:=(Dg.cell_row nA 4).trans rfl;have y4:=(Dg.cell_row nB 4).trans rfl;have x5:=(Dg.cell_row nA 5).trans rfl;have y5:=(Dg.cell_row nB 5).trans rfl;have x6:=(Dg.cell_row nA 6).trans rfl;have y6:=(Dg.cell_row nB 6).trans rfl;have x7:=(Dg.cell_row nA 7).trans rfl;have y7:=(Dg.cell_row nB 7).trans rfl;clear nA nB;refine wp_region_held (S:=fun w'=>Below w1.heap.size w1 w') (by kernel_rfl) ?_;simp only[List.size_toArray,List.length_cons,List.length_nil,Nat.reduceAdd,Array.replicate_succ,Array.replicate_zero,List.push_toArray,List.nil_append,List.cons_append];refine tG 0 5 (.pointer (some ⟨w.heap.size,0,none⟩)) 47 rfl hS ?_;refine tV 1 6 (.string ⟨a.name.toArray⟩) 46 rfl hS ?_ (fun w3 hw3=>by have z0:=Dg.cell_later hw3 x0;go_simp);refine tG 2 7 (.pointer (some ⟨w.heap.size+1,0,none⟩)) 45 rfl hS ?_;refine tV 3 8 (.string ⟨b.name.toArray⟩) 44 rfl hS ?_ (fun w3 hw3=>by have z0:=Dg.cell_later hw3 y0;go_simp)
 by_cases h0:a.name=b.name
 rotate_left
 ·have HQ:Hid (G=false):=by show _=_;rw[←HG.out];exact decide_eq_false fun e=>h0 (by rw[e])
  refine tG 4 9 (.bool false) 43 rfl hS ?_;refine tK 5 10 (.bool false) 42 rfl hS ?_;refine tU 6 11 41 rfl hS ?_;refine tU 7 12 40 rfl hS ?_;refine tU 8 13 39 rfl hS ?_;refine tU 9 14 38 rfl hS ?_;refine tU 10 15 37 rfl hS ?_;refine tK 11 16 (.bool false) 36 rfl hS ?_;refine tK 12 17 (.bool false) 35 rfl hS ?_;refine tU 13 18 34 rfl hS ?_;refine tU 14 19 33 rfl hS ?_;refine tU 15 20 32 rfl hS ?_;refine tU 16 21 31 rfl hS ?_;refine tU 17 22 30 rfl hS ?_;refine tK 18 23 (.bool false) 29 rfl hS ?_;refine tK 19 24 (.bool false) 28 rfl hS ?_;refine tU 20 25 27 rfl hS ?_;refine tU 21 26 26 rfl hS ?_;refine tU 22 27 25 rfl hS ?_;refine tU 23 28 24 rfl hS ?_;refine tU 24 29 23 rfl hS ?_;refine tK 25 30 (.bool false) 22 rfl hS ?_;refine tK 26 31 (.bool false) 21 rfl hS ?_;refine tU 27 32 20 rfl hS ?_;refine tU 28 33 19 rfl hS ?_;refine tU 29 34 18 rfl hS ?_;refine tU 30 35 17 rfl hS ?_;refine tU 31 36 16 rfl hS ?_;refine tK 32 37 (.bool false) 15 rfl hS ?_;refine tK 33 38 (.bool false) 14 rfl hS ?_;refine tU 34 39 13 rfl hS ?_;refine tU 35 40 12 rfl hS ?_;refine tU 36 41 11 rfl hS ?_;refine tU 37 42 10 rfl hS ?_;refine tU 38 43 9 rfl hS ?_;refine tK 39 44 (.bool false) 8 rfl hS ?_;refine tK 40 45 (.bool false) 7 rfl hS ?_;refine tU 41 46 6 rfl hS ?_;refine tU 42 47 5 rfl hS ?_;refine tU 43 48 4 rfl hS ?_;refine tU 44 49 3 rfl hS ?_;refine tU 45 50 2 rfl hS ?_;refine tK 46 51 (.bool false) 1 rfl hS ?_;refine tK 47 4 (.bool false) 0 rfl hS ?_;refine wpAnyH_done (by kernel_rfl) ?_ 0
  go_wp2_with fail
  go_ret
  exact⟨by rw[HQ.out];rfl,HB0.out.trans (hS.mono HB0.out.size)⟩
 refine tG 4 9 (.bool true) 43 rfl hS ?_;refine tK 5 10 (.bool true) 42 rfl hS ?_;refine tG 6 11 (.pointer (some ⟨w.heap.size,1,none⟩)) 41 rfl hS ?_;refine tV 7 12 (.string ⟨a.undo.toArray⟩) 40 rfl hS ?_ (fun w3 hw3=>by have z0:=Dg.cell_later hw3 x1;go_simp);refine tG 8 13 (.pointer (some ⟨w.heap.size+1,1,none⟩)) 39 rfl hS ?_;refine tV 9 14 (.string ⟨b.undo.toArray⟩) 38 rfl hS ?_ (fun w3 hw3=>by have z0:=Dg.cell_later hw3 y1;go_simp)
 by_cases h1:a.undo=b.undo
 rotate_left
 ·have HQ:Hid (G=false):=by show _=_;rw[←HG.out];exact decide_eq_false fun e=>h1 (by rw[e])
  refine tG 10 15 (.bool false) 37 rfl hS ?_;refine tK 11 16 (.bool false) 36 rfl hS ?_;refine tK 12 17 (.bool false) 35 rfl hS ?_;refine tU 13 18 34 rfl hS ?_;refine tU 14 19 33 rfl hS ?_;refine tU 15 20 32 rfl hS ?_;refine tU 16 21 31 rfl hS ?_;refine tU 17 22 30 rfl hS ?_;refine tK 18 23 (.bool false) 29 rfl hS ?_;refine tK 19 24 (.bool false) 28 rfl hS ?_;refine tU 20 25 27 rfl hS ?_;refine tU 21 26 26 rfl hS ?_;refine tU 22 27 25 rfl hS ?_;refine tU 23 28 24 rfl hS ?_;refine tU 24 29 23 rfl hS ?_;refine tK 25 30 (.bool false) 22 rfl hS ?_;refine tK 26 31 (.bool false) 21 rfl hS ?_;refine tU 27 32 20 rfl hS ?_;refine tU 28 33 19 rfl hS ?_;refine tU 29 34 18 rfl hS ?_;refine tU 30 35 17 rfl hS ?_;refine tU 31 36 16 rfl hS ?_;refine tK 32 37 (.bool false) 15 rfl hS ?_;refine tK 33 38 (.bool false) 14 rfl hS ?_;refine tU 34 39 13 rfl hS ?_;refine tU 35 40 12 rfl hS ?_;refine tU 36 41 11 rfl hS ?_;refine tU 37 42 10 rfl hS ?_;refine tU 38 43 9 rfl hS ?_;refine tK 39 44 (.bool false) 8 rfl hS ?_;refine tK 40 45 (.bool false) 7 rfl hS ?_;refine tU 41 46 6 rfl hS ?_;refine tU 42 47 5 rfl hS ?_;refine tU 43 48 4 rfl hS ?_;refine tU 44 49 3 rfl hS ?_;refine tU 45 50 2 rfl hS ?_;refine tK 46 51 (.bool false) 1 rfl hS ?_;refine tK 47 4 (.bool false) 0 rfl hS ?_;refine wpAnyH_done (by kernel_rfl) ?_ 0
  go_wp2_with fail
  go_ret
  exact⟨by rw[HQ.out];rfl,HB0.out.trans (hS.mono HB0.out.size)⟩
 refine tG 10 15 (.bool true) 37 rfl hS ?_;refine tK 11 16 (.bool true) 36 rfl hS ?_;refine tK 12 17 (.bool true) 35 rfl hS ?_;refine tG 13 18 (.pointer (some ⟨w.heap.size,2,none⟩)) 34 rfl hS ?_;refine tV 14 19 (.bool a.sub) 33 rfl hS ?_ (fun w3 hw3=>by have z0:=Dg.cell_later hw3 x2;go_simp);refine tG 15 20 (.pointer (some ⟨w.heap.size+1,2,none⟩)) 32 rfl hS ?_;refine tV 16 21 (.bool b.sub) 31 rfl hS ?_ (fun w3 hw3=>by have z0:=Dg.cell_later hw3 y2;go_simp)
 by_cases h2:a.sub=b.sub
 rotate_left
 ·have HQ:Hid (G=false):=by show _=_;rw[←HG.out];exact decide_eq_false fun e=>h2 (by rw[e])
  refine tG 17 22 (.bool false) 30 rfl hS ?_;refine tK 18 23 (.bool false) 29 rfl hS ?_;refine tK 19 24 (.bool false) 28 rfl hS ?_;refine tU 20 25 27 rfl hS ?_;refine tU 21 26 26 rfl hS ?_;refine tU 22 27 25 rfl hS ?_;refine tU 23 28 24 rfl hS ?_;refine tU 24 29 23 rfl hS ?_;refine tK 25 30 (.bool false) 22 rfl hS ?_;refine tK 26 31 (.bool false) 21 rfl hS ?_;refine tU 27 32 20 rfl hS ?_;refine tU 28 33 19 rfl hS ?_;refine tU 29 34 18 rfl hS ?_;refine tU 30 35 17 rfl hS ?_;refine tU 31 36 16 rfl hS ?_;refine tK 32 37 (.bool false) 15 rfl hS ?_;refine tK 33 38 (.bool false) 14 rfl hS ?_;refine tU 34 39 13 rfl hS ?_;refine tU 35 40 12 rfl hS ?_;refine tU 36 41 11 rfl hS ?_;refine tU 37 42 10 rfl hS ?_;refine tU 38 43 9 rfl hS ?_;refine tK 39 44 (.bool false) 8 rfl hS ?_;refine tK 40 45 (.bool false) 7 rfl hS ?_;refine tU 41 46 6 rfl hS ?_;refine tU 42 47 5 rfl hS ?_;refine tU 43 48 4 rfl hS ?_;refine tU 44 49 3 rfl hS ?_;refine tU 45 50 2 rfl hS ?_;refine tK 46 51 (.bool false) 1 rfl hS ?_;refine tK 47 4 (.bool false) 0 rfl hS ?_;refine wpAnyH_done (by kernel_rfl) ?_ 0
  go_wp2_with fail
  go_ret
  exact⟨by rw[HQ.out];rfl,HB0.out.trans (hS.mono HB0.out.size)⟩
 refine tG 17 22 (.bool true) 30 rfl hS ?_;refine tK 18 23 (.bool true) 29 rfl hS ?_;refine tK 19 24 (.bool true) 28 rfl hS ?_;refine tG 20 25 (.pointer (some ⟨w.heap.size,3,none⟩)) 27 rfl hS ?_;refine tV 21 26 (.bool a.vital) 26 rfl hS ?_ (fun w3 hw3=>by have z0:=Dg.cell_later hw3 x3;go_simp);refine tG 22 27 (.pointer (some ⟨w.heap.size+1,3,none⟩)) 25 rfl hS ?_;refine tV 23 28 (.bool b.vital) 24 rfl hS ?_ (fun w3 hw3=>by have z0:=Dg.cell_later hw3 y3;go_simp)
 by_cases h3:a.vital=b.vital
 rotate_left
 ·have HQ:Hid (G=false):=by show _=_;rw[←HG.out];exact decide_eq_false fun e=>h3 (by rw[e])
  refine tG 24 29 (.bool false) 23 rfl hS ?_;refine tK 25 30 (.bool false) 22 rfl hS ?_;refine tK 26 31 (.bool false) 21 rfl hS ?_;refine tU 27 32 20 rfl hS ?_;refine tU 28 33 19 rfl hS ?_;refine tU 29 34 18 rfl hS ?_;refine tU 30 35 17 rfl hS ?_;refine tU 31 36 16 rfl hS ?_;refine tK 32 37 (.bool false) 15 rfl hS ?_;refine tK 33 38 (.bool false) 14 rfl hS ?_;refine tU 34 39 13 rfl hS ?_;refine tU 35 40 12 rfl hS ?_;refine tU 36 41 11 rfl hS ?_;refine tU 37 42 10 rfl hS ?_;refine tU 38 43 9 rfl hS ?_;refine tK 39 44 (.bool false) 8 rfl hS ?_;refine tK 40 45 (.bool false) 7 rfl hS ?_;refine tU 41 46 6 rfl hS ?_;refine tU 42 47 5 rfl hS ?_;refine tU 43 48 4 rfl hS ?_;refine tU 44 49 3 rfl hS ?_;refine tU 45 50 2 rfl hS ?_;refine tK 46 51 (.bool false) 1 rfl hS ?_;refine tK 47 4 (.bool false) 0 rfl hS ?_;refine wpAnyH_done (by kernel_rfl) ?_ 0
  go_wp2_with fail
  go_ret
  exact⟨by rw[HQ.out];rfl,HB0.out.trans (hS.mono HB0.out.size)⟩
 refine tG 24 29 (.bool true) 23 rfl hS ?_;refine tK 25 30 (.bool true) 22 rfl hS ?_;refine tK 26 31 (.bool true) 21 rfl hS ?_;refine tG 27 32 (.pointer (some ⟨w.heap.size,4,none⟩)) 20 rfl hS ?_;refine tV 28 33 (.int .i64 a.alts) 19 rfl hS ?_ (fun w3 hw3=>by have z0:=Dg.cell_later hw3 x4;go_simp);refine tG 29 34 (.pointer (some ⟨w.heap.size+1,4,none⟩)) 18 rfl hS ?_;refine tV 30 35 (.int .i64 b.alts) 17 rfl hS ?_ (fun w3 hw3=>by have z0:=Dg.cell_later hw3 y4;go_simp)
 by_cases h4:a.alts=b.alts
 rotate_left
 ·have HQ:Hid (G=false):=by show _=_;rw[←HG.out];exact decide_eq_false fun e=>h4 (by rw[e])
  refine tG 31 36 (.bool false) 16 rfl hS ?_;refine tK 32 37 (.bool false) 15 rfl hS ?_;refine tK 33 38 (.bool false) 14 rfl hS ?_;refine tU 34 39 13 rfl hS ?_;refine tU 35 40 12 rfl hS ?_;refine tU 36 41 11 rfl hS ?_;refine tU 37 42 10 rfl hS ?_;refine tU 38 43 9 rfl hS ?_;refine tK 39 44 (.bool false) 8 rfl hS ?_;refine tK 40 45 (.bool false) 7 rfl hS ?_;refine tU 41 46 6 rfl hS ?_;refine tU 42 47 5 rfl hS ?_;refine tU 43 48 4 rfl hS ?_;refine tU 44 49 3 rfl hS ?_;refine tU 45 50 2 rfl hS ?_;refine tK 46 51 (.bool false) 1 rfl hS ?_;refine tK 47 4 (.bool false) 0 rfl hS ?_;refine wpAnyH_done (by kernel_rfl) ?_ 0
  go_wp2_with fail
  go_ret
  exact⟨by rw[HQ.out];rfl,HB0.out.trans (hS.mono HB0.out.size)⟩
 refine tG 31 36 (.bool true) 16 rfl hS ?_;refine tK 32 37 (.bool true) 15 rfl hS ?_;refine tK 33 38 (.bool true) 14 rfl hS ?_;refine tV 34 39 (.agg #[.string ⟨a.name.toArray⟩,.string ⟨a.undo.toArray⟩,.bool a.sub,.bool a.vital,.int .i64 a.alts,.int .i64 a.inn,.int .i64 a.alt,.slice av am ac]) 13 rfl hS ?_ (fun w3 hw3=>by have z0:=Dg.cell_later hw3 x0;have z1:=Dg.cell_later hw3 x1;have z2:=Dg.cell_later hw3 x2;have z3:=Dg.cell_later hw3 x3;have z4:=Dg.cell_later hw3 x4;have z5:=Dg.cell_later hw3 x5;have z6:=Dg.cell_later hw3 x6;have z7:=Dg.cell_later hw3 x7;go_simp);refine tV 36 41 (.agg #[.string ⟨b.name.toArray⟩,.string ⟨b.undo.toArray⟩,.bool b.sub,.bool b.vital,.int .i64 b.alts,.int .i64 b.inn,.int .i64 b.alt,.slice bv bm bc]) 12 rfl hS ?_ (fun w3 hw3=>by have z0:=Dg.cell_later hw3 y0;have z1:=Dg.cell_later hw3 y1;have z2:=Dg.cell_later hw3 y2;have z3:=Dg.cell_later hw3 y3;have z4:=Dg.cell_later hw3 y4;have z5:=Dg.cell_later hw3 y5;have z6:=Dg.cell_later hw3 y6;have z7:=Dg.cell_later hw3 y7;go_simp);refine wpAnyH_all (fuel:=11) (rs:=[35]) (by kernel_rfl) (by decide) ?_;refine List.forall_mem_singleton.2 ?_;refine wpOp_calls (i:=35) (d:=40) rfl rfl (by kernel_rfl) (f:=65) (args:= #[.agg #[.string ⟨a.name.toArray⟩,.string ⟨a.undo.toArray⟩,.bool a.sub,.bool a.vital,.int .i64 a.alts,.int .i64 a.inn,.int .i64 a.alt,.slice av am ac]]) (by kernel_rfl) _ (spotOf_any a av am ac _) ?_ (fun _ _ h=>by cases h.1) (fun _ h=>by cases h.1);rintro v35 w35 ⟨h9,hb9⟩;cases h9;have hS35:Below w1.heap.size w1 w35:=hS.trans (hb9.mono hS.size);clear hb9;refine⟨hS35,?_⟩
 simp only[List.setIfInBounds_toArray,List.set_cons_succ,List.set_cons_zero];refine wpAnyH_all (fuel:=10) (rs:=[37]) (by kernel_rfl) (by decide) ?_;refine List.forall_mem_singleton.2 ?_;refine wpOp_calls (i:=37) (d:=42) rfl rfl (by kernel_rfl) (f:=65) (args:= #[.agg #[.string ⟨b.name.toArray⟩,.string ⟨b.undo.toArray⟩,.bool b.sub,.bool b.vital,.int .i64 b.alts,.int .i64 b.inn,.int .i64 b.alt,.slice bv bm bc]]) (by kernel_rfl) _ (spotOf_any b bv bm bc _) ?_ (fun _ _ h=>by cases h.1) (fun _ h=>by cases h.1);rintro v37 w37 ⟨h9,hb9⟩;cases h9;have hS37:Below w1.heap.size w1 w37:=hS35.trans (hb9.mono hS35.size);clear hb9;refine⟨hS37,?_⟩
 simp only[List.setIfInBounds_toArray,List.set_cons_succ,List.set_cons_zero]
 by_cases h5:a.inn=b.inn∧a.alt=b.alt
 rotate_left
 ·have HQ:Hid (G=false):=by show _=_;rw[←HG.out];exact decide_eq_false fun e=>h5 (by rw[e];exact⟨rfl,rfl⟩)
  refine tV 38 43 (.bool false) 9 rfl hS37 ?_ (fun _ _=>by go_simp;exact fun g1 g2=>h5 ⟨g1,g2⟩);refine tK 39 44 (.bool false) 8 rfl hS37 ?_;refine tK 40 45 (.bool false) 7 rfl hS37 ?_;refine tU 41 46 6 rfl hS37 ?_;refine tU 42 47 5 rfl hS37 ?_;refine tU 43 48 4 rfl hS37 ?_;refine tU 44 49 3 rfl hS37 ?_;refine tU 45 50 2 rfl hS37 ?_;refine tK 46 51 (.bool false) 1 rfl hS37 ?_;refine tK 47 4 (.bool false) 0 rfl hS37 ?_;refine wpAnyH_done (by kernel_rfl) ?_ 0
  go_wp2_with fail
  go_ret
  exact⟨by rw[HQ.out];rfl,HB0.out.trans (hS37.mono HB0.out.size)⟩
 have h5a:=h5.1;have h5b:=h5.2;refine tG 38 43 (.bool true) 9 rfl hS37 ?_;refine tK 39 44 (.bool true) 8 rfl hS37 ?_;refine tK 40 45 (.bool true) 7 rfl hS37 ?_;refine tG 41 46 (.pointer (some ⟨w.heap.size,7,none⟩)) 6 rfl hS37 ?_;refine tV 42 47 (.slice av am ac) 5 rfl hS37 ?_ (fun w3 hw3=>by have z0:=Dg.cell_later hw3 x7;go_simp);refine tG 43 48 (.pointer (some ⟨w.heap.size+1,7,none⟩)) 4 rfl hS37 ?_;refine tV 44 49 (.slice bv bm bc) 3 rfl hS37 ?_ (fun w3 hw3=>by have z0:=Dg.cell_later hw3 y7;go_simp);refine wpAnyH_all (fuel:=2) (rs:=[45]) (by kernel_rfl) (by decide) ?_;refine List.forall_mem_singleton.2 ?_;refine wpOp_calls (i:=45) (d:=50) rfl rfl (by kernel_rfl) (f:=163) (args:= #[.slice av am ac,.slice bv bm bc]) (by kernel_rfl) _ (Equal_any a.after b.after _ _ _ (HRa.out.later hS37) (HRb.out.later hS37) hal hbl) ?_ (fun _ _ h=>by cases h.1) (fun _ h=>by cases h.1);rintro v45 w45 ⟨h9,hb9⟩;cases h9;have hS45:Below w1.heap.size w1 w45:=hS37.trans (hb9.mono hS37.size);clear hb9;refine⟨hS45,?_⟩
 simp only[List.setIfInBounds_toArray,List.set_cons_succ,List.set_cons_zero];have HQ:Hid (G=decide (a.after=b.after)):=by
  show _=_;rw[←HG.out]
  obtain⟨a0,a1,a2,a3,a4,a5,a6,a7⟩:=a
  obtain⟨b0,b1,b2,b3,b4,b5,b6,b7⟩:=b
  simp only at h0 h1 h2 h3 h4 h5 h5a h5b;subst h0 h1 h2 h3 h4 h5a h5b;simp
 obtain⟨qq,hqq⟩:∃qq,decide (a.after=b.after)=qq:=⟨_,rfl⟩
 rw[hqq] at HQ ⊢
 refine tK 46 51 (.bool qq) 1 rfl hS45 ?_;refine tK 47 4 (.bool qq) 0 rfl hS45 ?_;refine wpAnyH_done (by kernel_rfl) ?_ 0
 go_wp2_with fail
 go_ret
 exact⟨by rw[HQ.out];rfl,HB0.out.trans (hS45.mono HB0.out.size)⟩
set_option linter.unusedSimpArgs false
theorem EqualFunc_any (l m:List It)(v u:Value)(w:World)(hl:RdIt w v l)(hm:RdIt w u m)(hn:l.length≤100000)(hn':m.length≤100000)(hla:∀x∈l,x.after.length≤1000000)(hma:∀x∈m,x.after.length≤1000000) :
  Calls Tryz.prog 151 #[v,u,.func (.func 152) #[] #[]] w fun e w'=>e= .returned (.bool (decide (l=m)))∧Below w.heap.size w w':=by
 obtain⟨a,cap,rfl,hc,hr⟩:=hl
 obtain⟨a',cap',rfl,hc',hr'⟩:=hm
 have HR:Hid _:=hr;have HR':Hid _:=hr';have HLA:Hid _:=hla;have HMA:Hid _:=hma;obtain⟨n,HN⟩:∃n,Hid (l.length=n):=⟨_,rfl⟩
 obtain⟨n',HN'⟩:∃n,Hid (m.length=n):=⟨_,rfl⟩
 rw[HN.out] at hn hc ⊢
 rw[HN'.out] at hn' hc' ⊢
 clear hr hr' hla hma
 by_cases hnn:n=n'
 ·subst hnn
  go_enter Tryz.func151,Tryz.ntmps151
  go_wp2_with fail
  go_loopw [17] (fun iv wr=>∃(k:Nat),k≤n∧iv= .int .i64 k∧Hid (l.take k=m.take k)∧Hid (Below w.heap.size w wr)) (fun iv _=>n - (intOf iv).toNat)
  case atStart=>exact⟨0,Nat.zero_le _,rfl,by show l.take 0=m.take 0;simp,Below.refl _ _⟩
  case round=>
   obtain⟨k,hk,rfl,HX,HB⟩:=hrel
   rename World=>w1
   by_cases hlt:k < n
   ·obtain⟨x,hx⟩:∃x,l[k]? =some x:=⟨_,List.getElem?_eq_getElem (by rw[HN.out];exact hlt)⟩
    obtain⟨y,hy⟩:∃y,m[k]? =some y:=⟨_,List.getElem?_eq_getElem (by rw[HN'.out];exact hlt)⟩
    obtain⟨b,off,xv,xm,xc,rfl,c0,c1,c2,c3,c4,c5,c6,c7,hzx⟩:=HR.out k x hx
    obtain⟨b',off',yv,ym,yc,rfl,e0,e1,e2,e3,e4,e5,e6,e7,hzy⟩:=HR'.out k y hy
    have hB1:Below w.heap.size w (w1.alloc (.cells #[.string ⟨x.name.toArray⟩,.string ⟨x.undo.toArray⟩,.bool x.sub,.bool x.vital,.int .i64 x.alts,.int .i64 x.inn,.int .i64 x.alt,.slice xv xm xc] 50)):=HB.out.alloc HB.out.size _;have hB2:Below w.heap.size w ((w1.alloc (.cells #[.string ⟨x.name.toArray⟩,.string ⟨x.undo.toArray⟩,.bool x.sub,.bool x.vital,.int .i64 x.alts,.int .i64 x.inn,.int .i64 x.alt,.slice xv xm xc] 50)).alloc (.cells #[.string ⟨y.name.toArray⟩,.string ⟨y.undo.toArray⟩,.bool y.sub,.bool y.vital,.int .i64 y.alts,.int .i64 y.inn,.int .i64 y.alt,.slice yv ym yc] 50)):=hB1.alloc hB1.size _;have j0:=Dg.cell_later HB.out c0;have g0:=Dg.cell_later hB1 e0;have j1:=Dg.cell_later HB.out c1;have g1:=Dg.cell_later hB1 e1;have j2:=Dg.cell_later HB.out c2;have g2:=Dg.cell_later hB1 e2;have j3:=Dg.cell_later HB.out c3;have g3:=Dg.cell_later hB1 e3;have j4:=Dg.cell_later HB.out c4;have g4:=Dg.cell_later hB1 e4;have j5:=Dg.cell_later HB.out c5;have g5:=Dg.cell_later hB1 e5;have j6:=Dg.cell_later HB.out c6;have g6:=Dg.cell_later hB1 e6;have j7:=Dg.cell_later HB.out c7;have g7:=Dg.cell_later hB1 e7;have HZX:Hid (RdZ ((w1.alloc (.cells #[.string ⟨x.name.toArray⟩,.string ⟨x.undo.toArray⟩,.bool x.sub,.bool x.vital,.int .i64 x.alts,.int .i64 x.inn,.int .i64 x.alt,.slice xv xm xc] 50)).alloc (.cells #[.string ⟨y.name.toArray⟩,.string ⟨y.undo.toArray⟩,.bool y.sub,.bool y.vital,.int .i64 y.alts,.int .i64 y.inn,.int .i64 y.alt,.slice yv ym yc] 50)) (.slice xv xm xc) x.after):=hzx.later hB2;have HZY:Hid (RdZ ((w1.alloc (.cells #[.string ⟨x.name.toArray⟩,.string ⟨x.undo.toArray⟩,.bool x.sub,.bool x.vital,.int .i64 x.alts,.int .i64 x.inn,.int .i64 x.alt,.slice xv xm xc] 50)).alloc (.cells #[.string ⟨y.name.toArray⟩,.string ⟨y.undo.toArray⟩,.bool y.sub,.bool y.vital,.int .i64 y.alts,.int .i64 y.inn,.int .i64 y.alt,.slice yv ym yc] 50)) (.slice yv ym yc) y.after):=hzy.later hB2;have HXl:Hid (x.after.length≤1000000):=HLA.out x (List.mem_of_getElem? hx);have HYl:Hid (y.after.length≤1000000):=HMA.out y (List.mem_of_getElem? hy);have HXn:Hid (x=y→l.take (k+1)=m.take (k+1)):=by show _→_;intro h9;rw[List.take_add_one,List.take_add_one,hx,hy,HX.out,h9]
    have HNo:Hid (x≠y→decide (l=m)=false):=by
     show _→_
     intro h9;refine decide_eq_false fun e=>h9 ?_
     rw[e,hy] at hx
     exact (Option.some.inj hx).symm
    have HB2:Hid (Below w.heap.size w ((w1.alloc (.cells #[.string ⟨x.name.toArray⟩,.string ⟨x.undo.toArray⟩,.bool x.sub,.bool x.vital,.int .i64 x.alts,.int .i64 x.inn,.int .i64 x.alt,.slice xv xm xc] 50)).alloc (.cells #[.string ⟨y.name.toArray⟩,.string ⟨y.undo.toArray⟩,.bool y.sub,.bool y.vital,.int .i64 y.alts,.int .i64 y.inn,.int .i64 y.alt,.slice yv ym yc] 50))):=hB2;have nA:=Dg.row_alloc (Dg.row_new w1 #[.string ⟨x.name.toArray⟩,.string ⟨x.undo.toArray⟩,.bool x.sub,.bool x.vital,.int .i64 x.alts,.int .i64 x.inn,.int .i64 x.alt,.slice xv xm xc] 50) (.cells #[.string ⟨y.name.toArray⟩,.string ⟨y.undo.toArray⟩,.bool y.sub,.bool y.vital,.int .i64 y.alts,.int .i64 y.inn,.int .i64 y.alt,.slice yv ym yc] 50);have nB:=Dg.row_new (w1.alloc (.cells #[.string ⟨x.name.toArray⟩,.string ⟨x.undo.toArray⟩,.bool x.sub,.bool x.vital,.int .i64 x.alts,.int .i64 x.inn,.int .i64 x.alt,.slice xv xm xc] 50)) #[.string ⟨y.name.toArray⟩,.string ⟨y.undo.toArray⟩,.bool y.sub,.bool y.vital,.int .i64 y.alts,.int .i64 y.inn,.int .i64 y.alt,.slice yv ym yc] 50;rw[World.size_alloc] at nB
    have hki:(k:Int) < (n:Int):=by omega
    clear hx hy c0 c1 c2 c3 c4 c5 c6 c7 e0 e1 e2 e3 e4 e5 e6 e7 hzx hzy hB1 hB2;have p0:=(Dg.cell_row nA 0).trans rfl;have q0:=(Dg.cell_row nB 0).trans rfl;have p1:=(Dg.cell_row nA 1).trans rfl;have q1:=(Dg.cell_row nB 1).trans rfl;have p2:=(Dg.cell_row nA 2).trans rfl;have q2:=(Dg.cell_row nB 2).trans rfl;have p3:=(Dg.cell_row nA 3).trans rfl;have q3:=(Dg.cell_row nB 3).trans rfl;have p4:=(Dg.cell_row nA 4).trans rfl;have q4:=(Dg.cell_row nB 4).trans rfl;have p5:=(Dg.cell_row nA 5).trans rfl;have q5:=(Dg.cell_row nB 5).trans rfl;have p6:=(Dg.cell_row nA 6).trans rfl;have q6:=(Dg.cell_row nB 6).trans rfl;have p7:=(Dg.cell_row nA 7).trans rfl;have q7:=(Dg.cell_row nB 7).trans rfl;have M:Hid _:=same_any x y xv yv xm xc ym yc ((w1.alloc (.cells #[.string ⟨x.name.toArray⟩,.string ⟨x.undo.toArray⟩,.bool x.sub,.bool x.vital,.int .i64 x.alts,.int .i64 x.inn,.int .i64 x.alt,.slice xv xm xc] 50)).alloc (.cells #[.string ⟨y.name.toArray⟩,.string ⟨y.undo.toArray⟩,.bool y.sub,.bool y.vital,.int .i64 y.alts,.int .i64 y.inn,.int .i64 y.alt,.slice yv ym yc] 50)) HZX.out HZY.out HXl.out HYl.out;clear nA nB
    go_wp2_with fail
    refine Calls.mono M.out ?_;rintro e w3 ⟨rfl,hb3⟩;have HB3:Hid (Below w.heap.size w w3):=HB2.out.trans (hb3.mono HB2.out.size);clear hb3 M HB2 HZX HZY j0 j1 j2 j3 j4 j5 j6 j7 g0 g1 g2 g3 g4 g5 g6 g7 p0 p1 p2 p3 p4 p5 p6 p7 q0 q1 q2 q3 q4 q5 q6 q7
    by_cases hxy:x=y
    ·have HXn2:Hid (l.take (k+1)=m.take (k+1)):=HXn.out hxy;have hd:decide (x=y)=true:=decide_eq_true hxy;rw[hd]
     clear HXn HNo hxy hd
     go_wp2_with fail
     go_roundw
     case rel=>exact⟨k+1,by omega,by go_num,HXn2,HB3⟩
     case measure=>simp[intOf];omega
    ·have HNo2:Hid (decide (l=m)=false):=HNo.out hxy;have hd:decide (x=y)=false:=decide_eq_false hxy;rw[hd]
     clear HXn HNo hxy hd
     go_wp2_with fail
     go_ret
     exact⟨by rw[HNo2.out];rfl,HB3.out⟩
   ·have hkn:k=n:=by omega
    subst hkn;have HYes:Hid (decide (l=m)=true):=by
     show _=_;have h9:=HX.out;rw[List.take_of_length_le (by rw[HN.out];exact Nat.le_refl _),List.take_of_length_le (by rw[HN'.out];exact Nat.le_refl _)] at h9
     exact decide_eq_true h9
    go_wp2_with fail
    go_ret
    exact⟨by rw[HYes.out];rfl,HB.out⟩
 ·have HNo:Hid (decide (l=m)=false):=by
   show _=_;refine decide_eq_false fun e=>hnn ?_
   rw[←HN.out,←HN'.out,e]
  have hb:((n:Int)==(n':Int))=false:=by simp;omega
  have hb':((n:Int) !=(n':Int))=true:=by simp;omega
  go_enter Tryz.func151,Tryz.ntmps151
  go_wp2_with fail
  go_ret
  exact⟨by rw[HNo.out];rfl,Below.refl _ _⟩
end Go.Proofs.YtieoppabellafaaGreatDoor
