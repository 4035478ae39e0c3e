/- Texts of the seat, packed: Le Lf Lg Lh Tf Tg. -/
import Derived.Test.YtieoppabellafaaGreatDoorH01
import Derived.Test.YtieoppabellafaaGreatDoorH17
import Derived.Test.YtieoppabellafaaGreatDoorH15
import Derived.Test.YtieoppabellafaaGreatDoorH14
import Derived.Test.YtieoppabellafaaGreatDoorH13
import Derived.Test.YtieoppabellafaaGreatDoorH04
import Derived.Laws.EntriesVeiled
import Derived.Deep.RegionHeld
import Derived.Deep.RegionHeldLaw
import Derived.BigQuiet
set_option maxRecDepth 1000000
set_option maxHeartbeats 64000000
set_option linter.unusedVariables false
namespace Go.Proofs.YtieoppabellafaaGreatDoor.Sa
open Go.RowKit Go.Shelf Fc St
variable {p:Pl}{f:Nat→Fa}{xb xo icap fb fo lcap:Nat}{w0:World}{b:Nat}{m:Nat→Nat→Bool}{w:World}{n:Nat}
theorem two_new (w:World)(b s:Nat):let W:=(w.alloc (.cells #[.pointer (some ⟨b,0,none⟩)] 170)).alloc (.cells #[.int .i64 (s:Int)] 3)
  Cp W w.heap.size b∧Ci W (w.heap.size+1) s∧Below w.heap.size w W:=by
 refine⟨Dg.row_alloc (Dg.row_new w _ 170) _,?_,(bl1 w _).alloc (by simp) _⟩
 have:=Dg.row_new (w.alloc (.cells #[.pointer (some ⟨b,0,none⟩)] 170)) #[.int .i64 (s:Int)] 3;rw[jV] at this
 exact this
theorem clean1_any (hB:Bs p f xb xo icap fb fo lcap w0)(hn:p.n=n){lv:Value}(hS:Sd w0 b (.slice (some ⟨xb,xo,none⟩) n icap) lv m w){c d s a:Nat}(hc:Cp w c b)(hd:Ci w d s)(hs:s < n)(ha:a≤4) :
  Calls Tryz.prog 127 #[.int .i64 (a:Int),.pointer (some ⟨c,0,none⟩),.pointer (some ⟨d,0,none⟩)] w fun e w'=>e= .returned (.bool (allK p s a (m 1)))∧Below w.heap.size w w':=by
 have HE:Hid _:=bodyClean_any hB hn hS hs ha;have c0:=hc.c0;have d0:=hd.c0;clear hB hS hc hd
 go_enter Tryz.func127,Tryz.ntmps127
 go_wp2_with fail
 refine Calls.mono HE.out ?_;rintro e w2 ⟨rfl,hb2⟩;have HB2:Hid _:=hb2;clear HE hb2 c0 d0
 go_wp2_with fail
 go_ret
 exact⟨rfl,HB2.out⟩
theorem spent1_any (hB:Bs p f xb xo icap fb fo lcap w0)(hn:p.n=n)(hS:Sd w0 b (.slice (some ⟨xb,xo,none⟩) n icap) (.slice (some ⟨fb,fo,none⟩) n lcap) m w){c d s a:Nat}(hc:Cp w c b)(hd:Ci w d s)(hs:s < n)(ha:a≤4) :
  Calls Tryz.prog 129 #[.int .i64 (a:Int),.pointer (some ⟨c,0,none⟩),.pointer (some ⟨d,0,none⟩)] w fun e w'=>e= .returned (.bool (allK p s a (m 1) && !allK p s a (okH p f m)))∧Below w.heap.size w w':=by
 have HE:Hid _:=isOver_any hB hn hS hs ha;have c0:=hc.c0;have d0:=hd.c0;clear hB hS hc hd
 go_enter Tryz.func129,Tryz.ntmps129
 go_wp2_with fail
 refine Calls.mono HE.out ?_;rintro e w2 ⟨rfl,hb2⟩;have HB2:Hid _:=hb2;clear HE hb2 c0 d0
 go_wp2_with fail
 go_ret
 exact⟨rfl,HB2.out⟩
theorem touched1_any (hB:Bs p f xb xo icap fb fo lcap w0)(hn:p.n=n){lv:Value}(hS:Sd w0 b (.slice (some ⟨xb,xo,none⟩) n icap) lv m w){c d h s a:Nat}(hc:Cp w c b)(hd:Ci w d s)(hh:w.heap[h]? =some (.cells #[.func (Fn.func 123) #[] #[.pointer (some ⟨c,0,none⟩)]] 84 (0,0)))(hs:s < n)(ha:a≤4) :
  Calls Tryz.prog 125 #[.int .i64 (a:Int),.pointer (some ⟨c,0,none⟩),.pointer (some ⟨d,0,none⟩),.pointer (some ⟨h,0,none⟩)] w fun e w'=>e= .returned (.bool (allK p s a (fun i=> !m 0 i)))∧Below w.heap.size w w':=by
 have hle:n≤64:=by have:=hB.le;omega
 have HE:Hid _:=every_any hB hn hS 123 (.pointer (some ⟨c,0,none⟩)) s a hs ha (fun i=> !m 0 i) (fun _ _=>by kernel_rfl) (fun wx i hb h1 h2=>untouched_any (hS.later hb) (hc.later hb) (i:=i) (by omega));have c0:=hc.c0;have d0:=hd.c0;have h0:=(Dg.cell_row hh 0).trans rfl;clear hB hS hc hd hh
 go_enter Tryz.func125,Tryz.ntmps125
 go_wp2_with fail
 refine Calls.mono HE.out ?_;rintro e w2 ⟨rfl,hb2⟩;have HB2:Hid _:=hb2;clear HE hb2 c0 d0 h0
 go_wp2_with fail
 go_ret
 exact⟨rfl,HB2.out⟩
theorem sagaClean_any (hB:Bs p f xb xo icap fb fo lcap w0)(hn:p.n=n){lv:Value}(hS:Sd w0 b (.slice (some ⟨xb,xo,none⟩) n icap) lv m w){s:Nat}(hs:s < n) :
  Calls Tryz.prog 93 #[.pointer (some ⟨b,0,none⟩),.int .i64 (s:Int)] w fun e w'=>e= .returned (.bool (allB (p.alts s) fun a=>allK p s a (m 1)))∧Below w.heap.size w w':=by
 obtain⟨hc,hd,hb1⟩:=two_new w b s
 have h4:=hB.alts s (by omega);have HE:Hid _:=everyBody_any hB hn (hS.later hb1) 127 #[.pointer (some ⟨w.heap.size,0,none⟩),.pointer (some ⟨w.heap.size+1,0,none⟩)] s hs (fun a=>allK p s a (m 1)) (fun _ _=>by kernel_rfl) (fun wx i hb h1=>clean1_any hB hn ((hS.later hb1).later hb) (hc.later hb) (hd.later hb) hs (by omega));have c0:=hc.c0;have d0:=hd.c0;have HB1:Hid _:=hb1;clear hB hS hc hd hb1
 go_enter Tryz.func93,Tryz.ntmps93
 go_wp2_with fail
 refine Calls.mono HE.out ?_;rintro e w2 ⟨rfl,hb2⟩;have HB2:Hid _:=HB1.out.trans (hb2.mono HB1.out.size);clear HE hb2 c0 d0 HB1
 go_wp2_with fail
 go_ret
 exact⟨rfl,HB2.out⟩
theorem sagaSpent_any (hB:Bs p f xb xo icap fb fo lcap w0)(hn:p.n=n)(hS:Sd w0 b (.slice (some ⟨xb,xo,none⟩) n icap) (.slice (some ⟨fb,fo,none⟩) n lcap) m w){s:Nat}(hs:s < n) :
  Calls Tryz.prog 95 #[.pointer (some ⟨b,0,none⟩),.int .i64 (s:Int)] w fun e w'=>e= .returned (.bool (allB (p.alts s) fun a=>allK p s a (m 1) && !allK p s a (okH p f m)))∧Below w.heap.size w w':=by
 obtain⟨hc,hd,hb1⟩:=two_new w b s
 have h4:=hB.alts s (by omega);have HE:Hid _:=everyBody_any hB hn (hS.later hb1) 129 #[.pointer (some ⟨w.heap.size,0,none⟩),.pointer (some ⟨w.heap.size+1,0,none⟩)] s hs (fun a=>allK p s a (m 1) && !allK p s a (okH p f m)) (fun _ _=>by kernel_rfl) (fun wx i hb h1=>spent1_any hB hn ((hS.later hb1).later hb) (hc.later hb) (hd.later hb) hs (by omega));have c0:=hc.c0;have d0:=hd.c0;have HB1:Hid _:=hb1;clear hB hS hc hd hb1
 go_enter Tryz.func95,Tryz.ntmps95
 go_wp2_with fail
 refine Calls.mono HE.out ?_;rintro e w2 ⟨rfl,hb2⟩;have HB2:Hid _:=HB1.out.trans (hb2.mono HB1.out.size);clear HE hb2 c0 d0 HB1
 go_wp2_with fail
 go_ret
 exact⟨rfl,HB2.out⟩
theorem sagaTouched_any (hB:Bs p f xb xo icap fb fo lcap w0)(hn:p.n=n){lv:Value}(hS:Sd w0 b (.slice (some ⟨xb,xo,none⟩) n icap) lv m w){s:Nat}(hs:s < n) :
  Calls Tryz.prog 91 #[.pointer (some ⟨b,0,none⟩),.int .i64 (s:Int)] w fun e w'=>e= .returned (.bool (!allB (p.alts s) fun a=>allK p s a (fun i=> !m 0 i)))∧Below w.heap.size w w':=by
 obtain⟨hc,hd,hb1⟩:=two_new w b s
 have h4:=hB.alts s (by omega);have hb2:=bl1 ((w.alloc (.cells #[.pointer (some ⟨b,0,none⟩)] 170)).alloc (.cells #[.int .i64 (s:Int)] 3)) (.cells #[.func (Fn.func 123) #[] #[.pointer (some ⟨w.heap.size,0,none⟩)]] 84);have hh:=Dg.row_new ((w.alloc (.cells #[.pointer (some ⟨b,0,none⟩)] 170)).alloc (.cells #[.int .i64 (s:Int)] 3)) #[.func (Fn.func 123) #[] #[.pointer (some ⟨w.heap.size,0,none⟩)]] 84;rw[jV,jV] at hh
 have hS2:=(hS.later hb1).later hb2;have HB1:Hid _:=hb1.trans (hb2.mono hb1.size);have HE:Hid _:=everyBody_any hB hn hS2 125 #[.pointer (some ⟨w.heap.size,0,none⟩),.pointer (some ⟨w.heap.size+1,0,none⟩),.pointer (some ⟨w.heap.size+1+1,0,none⟩)] s hs (fun a=>allK p s a (fun i=> !m 0 i)) (fun _ _=>by kernel_rfl) (fun wx i hb h1=>touched1_any hB hn (hS2.later hb) ((hc.later hb2).later hb) ((hd.later hb2).later hb) ((hb.block _ (jD.1 hh).1).trans hh) hs (by omega));clear hB hS hc hd hb1 hb2 hS2 hh
 go_enter Tryz.func91,Tryz.ntmps91
 go_wp2_with fail
 refine Calls.mono HE.out ?_;rintro e w2 ⟨rfl,hb2⟩;have HB2:Hid _:=HB1.out.trans (hb2.mono HB1.out.size);clear HE hb2 HB1
 go_wp2_with fail
 go_ret
 exact⟨rfl,HB2.out⟩
theorem first_is {q:Nat→Bool}{n k:Nat}(hk:k+1≤n)(h2:k+1 < n→q k=false):∀(d a:Nat),a≤k→k≤a+d→(∀j,a≤j→j < k→q j=true)→first q n d a=k
 | 0,a,h3,h4,_=>by unfold first;omega
 | d+1,a,h3,h4,h=>by
  unfold first
  by_cases ha:a=k
  ·subst ha;rw[if_neg]
   rintro⟨h5,h6⟩
   rw[h2 h5] at h6
   cases h6
  ·rw[if_pos ⟨by omega,h a (jG _) (by omega)⟩]
   exact first_is hk h2 d (a+1) (by omega) (by omega) fun j h5 h6=>h j (by omega) h6
def ovr (p:Pl)(f:Nat→Fa)(m:Nat→Nat→Bool)(s a:Nat):Bool:=allK p s a (m 1) && !allK p s a (okH p f m)
theorem body_any (hB:Bs p f xb xo icap fb fo lcap w0)(hn:p.n=n)(hS:Sd w0 b (.slice (some ⟨xb,xo,none⟩) n icap) (.slice (some ⟨fb,fo,none⟩) n lcap) m w){s:Nat}(hs:s < n)(ha:1≤p.alts s) :
  Calls Tryz.prog 100 #[.pointer (some ⟨b,0,none⟩),.int .i64 (s:Int)] w fun e w'=>e= .returned (.int .i64 ((first (ovr p f m s) (p.alts s) (p.alts s) 0:Nat):Int))∧Below w.heap.size w w':=by
 obtain⟨E,HE⟩:∃E,Hid (E=first (ovr p f m s) (p.alts s) (p.alts s) 0):=⟨_,rfl⟩
 rw[←HE.out]
 have hle:n≤64:=by have:=hB.le;omega
 have hic:n≤icap:=by have:=hB.icap;omega
 have h4:=hB.alts s (by omega);have HO:Hid (∀(wx:World) (a:Nat),Below w.heap.size w wx→a≤4→Calls Tryz.prog 130 #[.pointer (some ⟨b,0,none⟩),.int .i64 (s:Int),.int .i64 (a:Int)] wx fun e w'=>e= .returned (.bool (ovr p f m s a))∧Below wx.heap.size wx w'):=fun wx a hb h=>isOver_any hB hn (hS.later hb) hs h
 have HK:Hid (∀wx:World,Below w.heap.size w wx→wx.cell? ⟨b,0,none⟩=some (.slice (some ⟨xb,xo,none⟩) n icap)∧wx.cell? ⟨xb,xo+s * 8+4,none⟩=some (.int .i64 (p.alts s:Nat))):=fun wx hb=>by
  obtain⟨s1,s2,zi,za,av,am,ac,k0,k1,k2,k3,k4,k5,k6,k7,hz⟩:=(hB.later (hS.later hb).bel).it s (by omega)
  exact⟨(hS.later hb).c0,k4⟩
 have hii:(s:Int) < (n:Int):=by omega
 generalize p.alts s=t at *;clear hB hS
 go_enter Tryz.func100,Tryz.ntmps100
 go_wp2_with fail
 go_loopw [5] (fun iv wr=>∃(k:Nat),k+1≤t∧iv= .int .i64 k∧Hid (∀i,i < k→ovr p f m s i=true)∧Hid (Below w.heap.size w wr)) (fun iv _=>t - (intOf iv).toNat)
 case atStart=>exact⟨0,by omega,by go_num,fun i h1=>by omega,Below.refl _ _⟩
 case round=>
  obtain⟨k,hk,rfl,HA,HW⟩:=hrel
  rename World=>wr
  obtain⟨z0,z1⟩:=HK.out wr HW.out
  by_cases hlt:k+1 < t
  rotate_left
  ·have HX:Hid (E=k):=by
    show _=_;rw[HE.out]
    exact first_is hk (fun h=>absurd h hlt) _ 0 (by omega) (by omega) fun j _ h=>HA.out j h
   have hlt2:¬(k:Int) < (t:Int) - 1:=by omega
   go_wp2_with fail
   go_ret
   exact⟨by rw[HX.out];rfl,HW.out⟩
  ·have HQK:Hid _:=HO.out wr k HW.out (by omega);have HNO:Hid (ovr p f m s k=false→E=k):=fun h3=>HE.out.trans (first_is hk (fun _=>h3) _ 0 (by omega) (by omega) fun j _ h=>HA.out j h)
   have HYES:Hid (ovr p f m s k=true→∀i,i < k+1→ovr p f m s i=true):=fun h i h1=>by
    by_cases hik:i=k
    ·subst hik;exact h
    ·exact HA.out i (by omega)
   have hlt2:(k:Int) < (t:Int) - 1:=by omega
   clear HA
   go_wp2_with fail
   refine Calls.mono HQK.out ?_;rintro e w2 ⟨rfl,hb2⟩;have HW2:Hid _:=HW.out.trans (hb2.mono HW.out.size);clear HQK hb2;cases hqk:ovr p f m s k with
   | true=>
    have HY2:Hid _:=HYES.out hqk;clear HYES HNO
    go_wp2_with fail
    go_roundw
    case rel=>exact⟨k+1,by omega,by go_num,HY2,HW2⟩
    case measure=>simp[intOf];omega
   | false=>
    have HX:Hid _:=HNO.out hqk;clear HYES HNO
    go_wp2_with fail
    go_ret
    exact⟨by rw[HX.out];rfl,HW2.out⟩
theorem sagaDone_any (hB:Bs p f xb xo icap fb fo lcap w0)(hn:p.n=n)(hS:Sd w0 b (.slice (some ⟨xb,xo,none⟩) n icap) (.slice (some ⟨fb,fo,none⟩) n lcap) m w){s:Nat}(hs:s < n)(ha:1≤p.alts s) :
  Calls Tryz.prog 97 #[.pointer (some ⟨b,0,none⟩),.int .i64 (s:Int)] w fun e w'=>e= .returned (.bool (!m 2 s && allK p s (first (ovr p f m s) (p.alts s) (p.alts s) 0) (okD p m)))∧Below w.heap.size w w':=by
 have hle:n≤64:=by have:=hB.le;omega
 have h4:=hB.alts s (by omega);have hfl:first (ovr p f m s) (p.alts s) (p.alts s) 0≤4:=by
  have:∀(q:Nat→Bool) (n d a:Nat),a≤n→first q n d a≤n:=fun q n d=>by
   induction d with
   | zero=>intro a ha;exact ha
   | succ d ih=>
    intro a ha;unfold first
    split
    ·exact ih (a+1) (by omega)
    ·exact ha
  have:=this (ovr p f m s) (p.alts s) (p.alts s) 0 (by omega);omega
 have HE:Hid _:=body_any hB hn hS hs ha;have HF:Hid (∀w',Below w.heap.size w w'→_):=fun w' hb=>isWhole_any hB hn (hS.later hb) hs hfl
 have c2:=hS.m2 (i:=s) (by omega);have hii2:(s:Int) < 64:=by omega
 clear hB hS hfl;generalize first (ovr p f m s) (p.alts s) (p.alts s) 0=t at *
 generalize m 2 s=q2 at *;cases q2 with
 | true=>
  clear HE HF
  go_enter Tryz.func97,Tryz.ntmps97
  go_wp2_with fail
  go_ret
  exact⟨rfl,Below.refl _ _⟩
 | false=>
  go_enter Tryz.func97,Tryz.ntmps97
  go_wp2_with fail
  refine Calls.mono HE.out ?_;rintro e w2 ⟨rfl,hb2⟩;have HB2:Hid _:=hb2;have HF2:Hid _:=HF.out w2 hb2;clear HE HF hb2
  go_wp2_with fail
  refine Calls.mono HF2.out ?_;rintro e w3 ⟨rfl,hb3⟩;have HB3:Hid _:=HB2.out.trans (hb3.mono HB2.out.size);clear HF2 HB2 hb3
  go_wp2_with fail
  go_ret
  exact⟨rfl,HB3.out⟩
end Go.Proofs.YtieoppabellafaaGreatDoor.Sa
namespace Go.Proofs.YtieoppabellafaaGreatDoor.Sa
open Go.RowKit Go.Shelf Fc St
variable {p:Pl}{f:Nat→Fa}{xb xo icap fb fo lcap:Nat}{w0:World}{b:Nat}{m:Nat→Nat→Bool}{w:World}{n:Nat}
theorem hasBegun_any (x:Fa)(w:World):Calls Tryz.prog 90 #[FaV x] w fun e w'=>e= .returned (.bool (decide (0 < x.run)))∧Below w.heap.size w w':=by
 have r:=row_cells (Dg.row_new w x.cells.toArray 55);obtain⟨c0,c1,c2,c3⟩:=r
 unfold FaV;unfold Fa.cells at c0;have HB:Hid _:=bl1 w (.cells #[.int .i64 x.run,.int .i64 x.tries,.int .i64 x.slips,.bool x.un] 55)
 go_enter Tryz.func90,Tryz.ntmps90
 go_wp2_with fail
 go_ret
 exact⟨by first | rfl | simp[gt_iff_lt],HB.out⟩
theorem never_any (x:Fa)(w:World):Calls Tryz.prog 94 #[FaV x] w fun e w'=>e= .returned (.bool false)∧Below w.heap.size w w':=by
 unfold FaV;have HB:Hid _:=bl1 w (.cells #[.int .i64 x.run,.int .i64 x.tries,.int .i64 x.slips,.bool x.un] 55)
 go_enter Tryz.func94,Tryz.ntmps94
 go_wp2_with fail
 go_ret
 exact⟨rfl,HB.out⟩
theorem stepDone_any (x:Fa)(w:World):Calls Tryz.prog 96 #[FaV x] w fun e w'=>e= .returned (.bool (decide (x.run=2) && decide (x.tries=0)))∧Below w.heap.size w w':=by
 obtain⟨c0,c1,c2,c3⟩:=row_cells (Dg.row_new w x.cells.toArray 55)
 unfold FaV;unfold Fa.cells at c0 c1 c2 c3;have HB:Hid _:=bl1 w (.cells #[.int .i64 x.run,.int .i64 x.tries,.int .i64 x.slips,.bool x.un] 55)
 by_cases h:x.run=2
 ·rw[h] at c0 c1 c2 c3 HB ⊢
  go_enter Tryz.func96,Tryz.ntmps96
  go_wp2_with fail
  go_ret
  exact⟨by by_cases h2:x.tries=0 <;> simp[h2],HB.out⟩
 ·have e1:(x.run==2)=false:=by simpa using h
  go_enter Tryz.func96,Tryz.ntmps96
  go_wp2_with fail
  go_ret
  exact⟨by simp[h],HB.out⟩
theorem stepClean_any (x:Fa)(w:World):Calls Tryz.prog 92 #[FaV x] w fun e w'=>e= .returned (.bool (decide (x.run=0) || decide (x.run=3) || x.un))∧Below w.heap.size w w':=by
 obtain⟨c0,c1,c2,c3⟩:=row_cells (Dg.row_new w x.cells.toArray 55)
 unfold FaV;unfold Fa.cells at c0 c1 c2 c3;have HB:Hid _:=bl1 w (.cells #[.int .i64 x.run,.int .i64 x.tries,.int .i64 x.slips,.bool x.un] 55)
 by_cases h:x.run=0
 ·rw[h] at c0 c1 c2 c3 HB ⊢
  go_enter Tryz.func92,Tryz.ntmps92
  go_wp2_with fail
  go_ret
  exact⟨rfl,HB.out⟩
 ·by_cases h3:x.run=3
  ·rw[h3] at c0 c1 c2 c3 HB ⊢
   go_enter Tryz.func92,Tryz.ntmps92
   go_wp2_with fail
   go_ret
   exact⟨rfl,HB.out⟩
  ·have e1:(x.run==0)=false:=by simpa using h
   have e2:(x.run==3)=false:=by simpa using h3
   go_enter Tryz.func92,Tryz.ntmps92
   go_wp2_with fail
   go_ret
   exact⟨by simp[h,h3],HB.out⟩
structure Agr (n k:Nat)(T:Nat→Bool)(j:Nat)(m m':Nat→Nat→Bool):Prop where
 rest:∀k' i',k'≠k→m' k' i'=m k' i'
 from_:∀i',j≤i'→i' < n→m' k i'=T i'
theorem Agr.put {n k i:Nat}{T:Nat→Bool}{m m':Nat→Nat→Bool}(h:Agr n k T (i+1) m m'):Agr n k T i m (put2 m' k i (T i)):=by
 refine⟨fun k' i' hk=>?_,fun i' h1 h2=>?_⟩
 ·unfold put2;rw[if_neg (fun h9=>hk h9.1)]
  exact h.rest k' i' hk
 ·unfold put2
  by_cases hi:i'=i
  ·subst hi;rw[if_pos ⟨rfl,rfl⟩]
  ·rw[if_neg (fun h9=>hi h9.2)]
   exact h.from_ i' (by omega) h2
theorem region_thenQ {P:Program}{id:Nat}{ops:Array Oper}{dr:Bool}{Q:Exit→Act→World→Prop}{a:Act}{w:World}(L:List (Nat × Value))(F:World→Prop)
  (h:(Code.region id ops dr).wp P (fun e a' w'=>e= .normal∧a'= {tmps:=setAll a.tmps L,defers:=a.defers}∧F w') a w)
  (h2:∀w',F w'→Q .normal {tmps:=setAll a.tmps L,defers:=a.defers} w'):(Code.region id ops dr).wp P Q a w:=by
 refine wp_mono h ?_;rintro e a' w' ⟨rfl,rfl,hF⟩;exact h2 w' hF
theorem mark_any (hB:Bs p f xb xo icap fb fo lcap w0)(hn:p.n=n)(hS:Sd w0 b (.slice (some ⟨xb,xo,none⟩) n icap) (.slice (some ⟨fb,fo,none⟩) n lcap) m w)(k o:Nat)(hk:k < 4)(ho:o=2+64 * k)(g h:Nat)(T:Nat→Bool)
  (hcg:∀(i:Int) (wx:World),(callFunc g #[.pointer (some ⟨b,0,none⟩),.int .i64 i]).run Tryz.prog wx= .ok (.enter g #[.pointer (some ⟨b,0,none⟩),.int .i64 i]) wx)
  (hch:∀(x:Fa) (wx:World),(callFunc h #[FaV x]).run Tryz.prog wx= .ok (.enter h #[FaV x]) wx)
  (hg:∀(wx:World) (m':Nat→Nat→Bool) (i:Nat),Sd w0 b (.slice (some ⟨xb,xo,none⟩) n icap) (.slice (some ⟨fb,fo,none⟩) n lcap) m' wx→Agr n k T (i+1) m m'→i < n→p.sub i=true→Calls Tryz.prog g #[.pointer (some ⟨b,0,none⟩),.int .i64 (i:Int)] wx fun e w'=>e= .returned (.bool (T i))∧Below wx.heap.size wx w')
  (hh:∀(wx:World) (i:Nat),i < n→p.sub i=false→Calls Tryz.prog h #[FaV (f i)] wx fun e w'=>e= .returned (.bool (T i))∧Below wx.heap.size wx w') :
  Calls Tryz.prog 89 #[.pointer (some ⟨b,0,none⟩),.pointer (some ⟨b,o,none⟩),.func (Fn.func h) #[] #[],.func (Fn.func g) #[.pointer (some ⟨b,0,none⟩)] #[]] w fun e w'=>e= .returned (.tuple #[])∧∃m',Sd w0 b (.slice (some ⟨xb,xo,none⟩) n icap) (.slice (some ⟨fb,fo,none⟩) n lcap) m' w'∧Agr n k T 0 m m':=by
 have hle:n≤64:=by have:=hB.le;omega
 have hic:n≤icap:=by have:=hB.icap;omega
 have hlc:n≤lcap:=by have:=hB.lcap;omega
 have hpos:1≤n:=by have:=hB.ok.pos;omega
 have HB:Hid _:=hB;have HG:Hid _:=hg;have HH:Hid _:=hh;have HO:Hid _:=ho;have HK:Hid _:=hk;have HN:Hid _:=hn;have HS:Hid _:=hS;have c0:=hS.c0;clear hB hS hg hh hn ho hk
 go_enter Tryz.func89,Tryz.ntmps89
 go_wp2_with fail
 go_loopw [8] (fun iv wr=>∃(j:Nat) (z:Int),j≤n∧z=(j:Int) - 1∧iv= .int .i64 z∧Hid (∃m',Sd w0 b (.slice (some ⟨xb,xo,none⟩) n icap) (.slice (some ⟨fb,fo,none⟩) n lcap) m' wr∧Agr n k T j m m')) (fun iv _=>(intOf iv+1).toNat)
 case atStart=>exact⟨n,(n:Int) - 1,by omega,rfl,by go_num,m,HS.out,fun _ _ _=>rfl,fun i h1 h2=>by omega⟩
 case round=>
  obtain⟨j,z,hj,hz,rfl,HM⟩:=hrel
  rename World=>wr
  cases j with
  | zero=>
   have hz2:¬0≤z:=by omega
   go_wp2_with fail
   go_end0
   exact⟨rfl,HM.out⟩
  | succ i=>
   obtain rfl:z=(i:Int):=by omega
   clear hz;have hz2:(0:Int)≤(i:Int):=by omega
   obtain⟨m',hS1,hA⟩:=HM.out
   obtain⟨s1,s2,zi,za,av,am,ac,k0,k1,k2,k3,k4,k5,k6,k7,_⟩:=(HB.out.later hS1.bel).it i (by have:=HN.out;omega)
   have z0:=hS1.c0;have hii:(i:Int) < (n:Int):=by omega
   have hii2:(i:Int) < 64:=by omega
   have HS1:Hid _:=hS1;have HA:Hid _:=hA;clear k0 k1 k3 k4 k5 k6 k7 hS1 hA HM;have hS0:∃m9,Sd w0 b (.slice (some ⟨xb,xo,none⟩) n icap) (.slice (some ⟨fb,fo,none⟩) n lcap) m9 wr.drew:=⟨m',HS1.out.later (Below.refl _ _).drew⟩
   have hCUR:Sd w0 b (.slice (some ⟨xb,xo,none⟩) n icap) (.slice (some ⟨fb,fo,none⟩) n lcap) m' wr.drew:=HS1.out.later (Below.refl _ _).drew;cases hsub:p.sub i with
   | true=>
    rw[hsub] at k2
    have HGI:Hid (Calls Tryz.prog g #[.pointer (some ⟨b,0,none⟩),.int .i64 (i:Int)] wr.drew fun e w'=>e= .returned (.bool (T i))∧Sd w0 b (.slice (some ⟨xb,xo,none⟩) n icap) (.slice (some ⟨fb,fo,none⟩) n lcap) m' w'):=Calls.mono (HG.out _ _ i hCUR HA.out (by omega) hsub) (by rintro e w2 ⟨rfl,hb⟩;exact⟨rfl,hCUR.later hb⟩);clear hsub
    go_wp2_with fail
    refine region_thenQ [(27,.pointer (some ⟨b,o,none⟩)),(28,.int .i64 i),(29,.func (Fn.func g) #[.pointer (some ⟨b,0,none⟩)] #[]),(30,.int .i64 i),(31,.bool (T i)),(32,.pointer (some ⟨b,o,none⟩)),(33,.pointer (some ⟨b,o+i,none⟩))] (fun w'=>Sd w0 b (.slice (some ⟨xb,xo,none⟩) n icap) (.slice (some ⟨fb,fo,none⟩) n lcap) (put2 m' k i (T i)) w') ?_ ?_
    ·refine wp_region_held (S:=fun w'=>∃m9,Sd w0 b (.slice (some ⟨xb,xo,none⟩) n icap) (.slice (some ⟨fb,fo,none⟩) n lcap) m9 w') (by kernel_rfl) ?_;simp only[jN,jM,jP,Nat.reduceAdd,jI,jJ,jO,jL,jK];refine tK 0 27 (.pointer (some ⟨b,o,none⟩)) 7 rfl hS0 ?_;refine tK 1 28 (.int .i64 i) 6 rfl hS0 ?_;refine tK 2 29 (.func (Fn.func g) #[.pointer (some ⟨b,0,none⟩)] #[]) 5 rfl hS0 ?_;refine tK 3 30 (.int .i64 i) 4 rfl hS0 ?_;refine tG 5 32 (.pointer (some ⟨b,o,none⟩)) 3 rfl hS0 ?_;refine oneW (R:=fun w'=>Sd w0 b (.slice (some ⟨xb,xo,none⟩) n icap) (.slice (some ⟨fb,fo,none⟩) n lcap) m' w') (i:=4) (d:=31) (f:=g) (args:= #[.pointer (some ⟨b,0,none⟩),.int .i64 i]) (v:= .bool (T i)) (fuel:=2) rfl rfl (by kernel_rfl) (by kernel_rfl) (fun wx=>by have h9:=hcg i wx;go_simp) (HGI.out) (fun w' h=>⟨_,h⟩) (fun wz hR4=>?_);simp only[jA,jB,jC];refine tG 6 33 (.pointer (some ⟨b,o+i,none⟩)) 1 rfl (⟨_,hR4⟩) ?_;refine wpAnyH_all (fuel:=0) (rs:=[7]) (by kernel_rfl) (by decide) (jE.2 ?_);have hP:=hR4.put (o:=o+i) (T i) HK.out (show i < 64 by omega) (by have:=HO.out;omega);have c9:wz.cell? ⟨b,o+i,none⟩=some (.bool (m' k i)):=by rw[HO.out];exact hR4.mark HK.out (by omega)
     have f9:=Dg.froz_row hR4.sb (o+i);refine wpOp_skip (i:=7) (w':=wz.setCell ⟨b,o+i,none⟩ (.bool (T i))) rfl rfl (by kernel_rfl) (by go_simp) ⟨⟨_,hP⟩,?_⟩;refine wpAnyH_done (by kernel_rfl) ?_ _;exact⟨rfl,by kernel_rfl,hP⟩
    ·intro w9 hF;simp only[setAll,jA,jB,jC,Exit.inBlock,Exit.then];have HF9:Hid _:=hF;clear hF
     go_wp2_with fail
     go_roundw
     case rel=>exact⟨i,(i:Int) - 1,by omega,rfl,by go_num,_,HF9.out,HA.out.put⟩
     case measure=>simp[intOf] <;> omega
   | false=>
    rw[hsub] at k2
    have HHI:Hid (Calls Tryz.prog h #[FaV (f i)] wr.drew fun e w'=>e= .returned (.bool (T i))∧Sd w0 b (.slice (some ⟨xb,xo,none⟩) n icap) (.slice (some ⟨fb,fo,none⟩) n lcap) m' w'):=Calls.mono (HH.out _ i (by omega) hsub) (by rintro e w2 ⟨rfl,hb⟩;exact⟨rfl,hCUR.later hb⟩);have HFC:Hid (∀W,Below w0.heap.size w0 W→W.cell? ⟨fb,fo+i * 4,none⟩=some (.int .i64 (f i).run)∧W.cell? ⟨fb,fo+i * 4+1,none⟩=some (.int .i64 (f i).tries)∧W.cell? ⟨fb,fo+i * 4+2,none⟩=some (.int .i64 (f i).slips)∧W.cell? ⟨fb,fo+i * 4+3,none⟩=some (.bool (f i).un)):=fun W hb=>(HB.out.later hb).fa i (by have:=HN.out;omega)
    have HF:Hid (FaV (f i)= .agg #[.int .i64 (f i).run,.int .i64 (f i).tries,.int .i64 (f i).slips,.bool (f i).un]):=rfl;clear hsub
    go_wp2_with fail
    refine region_thenQ [(34,.pointer (some ⟨b,o,none⟩)),(35,.int .i64 i),(36,.func (Fn.func h) #[] #[]),(37,.pointer (some ⟨b,0,none⟩)),(38,.pointer (some ⟨b,0,none⟩)),(39,.pointer (some ⟨b,1,none⟩)),(40,.slice (some ⟨fb,fo,none⟩) n lcap),(41,.int .i64 i),(42,.pointer (some ⟨fb,fo+i * 4,none⟩)),(43,FaV (f i)),(44,.bool (T i)),(45,.pointer (some ⟨b,o,none⟩)),(46,.pointer (some ⟨b,o+i,none⟩))] (fun w'=>Sd w0 b (.slice (some ⟨xb,xo,none⟩) n icap) (.slice (some ⟨fb,fo,none⟩) n lcap) (put2 m' k i (T i)) w') ?_ ?_
    ·refine wp_region_held (S:=fun w'=>∃m9,Sd w0 b (.slice (some ⟨xb,xo,none⟩) n icap) (.slice (some ⟨fb,fo,none⟩) n lcap) m9 w') (by kernel_rfl) ?_;simp only[jN,jM,jP,Nat.reduceAdd,jI,jJ,jO,jL,jK];refine tK 0 34 (.pointer (some ⟨b,o,none⟩)) 13 rfl hS0 ?_;refine tK 1 35 (.int .i64 i) 12 rfl hS0 ?_;refine tK 2 36 (.func (Fn.func h) #[] #[]) 11 rfl hS0 ?_;refine tK 3 37 (.pointer (some ⟨b,0,none⟩)) 10 rfl hS0 ?_;refine tG 4 38 (.pointer (some ⟨b,0,none⟩)) 9 rfl hS0 ?_;refine tG 5 39 (.pointer (some ⟨b,1,none⟩)) 8 rfl hS0 ?_;refine tV 6 40 (.slice (some ⟨fb,fo,none⟩) n lcap) 7 rfl hS0 ?_ (fun wx h=>by obtain⟨m9,h9⟩:=h;have z1:=h9.c1;go_simp);refine tK 7 41 (.int .i64 i) 6 rfl hS0 ?_;refine tG 8 42 (.pointer (some ⟨fb,fo+i * 4,none⟩)) 5 rfl hS0 ?_;refine tV 9 43 (FaV (f i)) 4 rfl hS0 ?_ (fun wx h=>by rw[HF.out];obtain⟨m9,h9⟩:=h;obtain⟨y0,y1,y2,y3⟩:=HFC.out wx h9.bel;go_simp);refine tG 11 45 (.pointer (some ⟨b,o,none⟩)) 3 rfl hS0 ?_;refine oneW (R:=fun w'=>Sd w0 b (.slice (some ⟨xb,xo,none⟩) n icap) (.slice (some ⟨fb,fo,none⟩) n lcap) m' w') (i:=10) (d:=44) (f:=h) (args:= #[FaV (f i)]) (v:= .bool (T i)) (fuel:=2) rfl rfl (by kernel_rfl) (by kernel_rfl) (fun wx=>by have h9:=hch (f i) wx;go_simp) (HHI.out) (fun w' h=>⟨_,h⟩) (fun wz hR10=>?_);simp only[jA,jB,jC];refine tG 12 46 (.pointer (some ⟨b,o+i,none⟩)) 1 rfl (⟨_,hR10⟩) ?_;refine wpAnyH_all (fuel:=0) (rs:=[13]) (by kernel_rfl) (by decide) (jE.2 ?_);have hP:=hR10.put (o:=o+i) (T i) HK.out (show i < 64 by omega) (by have:=HO.out;omega);have c9:wz.cell? ⟨b,o+i,none⟩=some (.bool (m' k i)):=by rw[HO.out];exact hR10.mark HK.out (by omega)
     have f9:=Dg.froz_row hR10.sb (o+i);refine wpOp_skip (i:=13) (w':=wz.setCell ⟨b,o+i,none⟩ (.bool (T i))) rfl rfl (by kernel_rfl) (by go_simp) ⟨⟨_,hP⟩,?_⟩;refine wpAnyH_done (by kernel_rfl) ?_ _;exact⟨rfl,by kernel_rfl,hP⟩
    ·intro w9 hF;simp only[setAll,jA,jB,jC,Exit.inBlock,Exit.then];have HF9:Hid _:=hF;clear hF
     go_wp2_with fail
     go_roundw
     case rel=>exact⟨i,(i:Int) - 1,by omega,rfl,by go_num,_,HF9.out,HA.out.put⟩
     case measure=>simp[intOf] <;> omega
end Go.Proofs.YtieoppabellafaaGreatDoor.Sa
namespace Go.Proofs.YtieoppabellafaaGreatDoor.Sa
open Go.RowKit Go.Shelf Fc St
variable {p:Pl}{f:Nat→Fa}{xb xo icap fb fo lcap:Nat}{w0:World}{b:Nat}{m:Nat→Nat→Bool}{w:World}{n:Nat}
theorem stepStatus_any (x:Fa)(hx:okF x)(w:World):Calls Tryz.prog 99 #[FaV x] w fun e w'=>e= .returned (.int .i64 (stepS x))∧Below w.heap.size w w':=by
 obtain⟨c0,c1,c2,c3⟩:=row_cells (Dg.row_new w x.cells.toArray 55)
 obtain⟨a1,a2,a3,a4,a5,a6,a7⟩:=hx
 obtain⟨E,HE⟩:∃E,Hid (E=stepS x):=⟨_,rfl⟩
 rw[←HE.out]
 have HD:Hid _:=stepDone_any x;have HF:Hid (FaV x= .agg #[.int .i64 x.run,.int .i64 x.tries,.int .i64 x.slips,.bool x.un]):=rfl;unfold FaV at *;unfold Fa.cells at c0 c1 c2 c3;have HB:Hid _:=bl1 w (.cells #[.int .i64 x.run,.int .i64 x.tries,.int .i64 x.slips,.bool x.un] 55);have hr:x.run=0∨x.run=1∨x.run=3∨x.run=2:=by omega
 rcases hr with h | h | h | h
 ·rw[h] at c0 c1 c2 c3 HB HF HD ⊢
  have HX:Hid (E=0):=by show _=_;rw[HE.out];simp[stepS,h]
  go_enter Tryz.func99,Tryz.ntmps99
  go_wp2_with fail
  go_ret
  exact⟨by rw[HX.out];rfl,HB.out⟩
 ·rw[h] at c0 c1 c2 c3 HB HF HD ⊢
  have HX:Hid (E=1):=by show _=_;rw[HE.out];simp[stepS,h]
  go_enter Tryz.func99,Tryz.ntmps99
  go_wp2_with fail
  go_ret
  exact⟨by rw[HX.out];rfl,HB.out⟩
 ·rw[h] at c0 c1 c2 c3 HB HF HD ⊢
  have HX:Hid (E=3):=by show _=_;rw[HE.out];simp[stepS,h]
  go_enter Tryz.func99,Tryz.ntmps99
  go_wp2_with fail
  go_ret
  exact⟨by rw[HX.out];rfl,HB.out⟩
 ·rw[h] at c0 c1 c2 c3 HB HF HD ⊢
  have HX:Hid (E=if decide (x.tries=0)=true then 2 else if x.un=true then 5 else 4):=by show _=_;rw[HE.out];simp[stepS,h]
  have HD2:Hid (∀w:World,Calls Tryz.prog 96 #[.agg #[.int .i64 2,.int .i64 x.tries,.int .i64 x.slips,.bool x.un]] w fun e w'=>e= .returned (.bool (decide (x.tries=0)))∧Below w.heap.size w w'):=fun w=>HD.out w
  generalize decide (x.tries=0)=q at *;generalize x.un=un at *;clear a1 a2 a3 a4 a5 a6 a7 HD HE HF
  go_enter Tryz.func99,Tryz.ntmps99
  go_wp2_with fail
  refine Calls.mono (HD2.out _) ?_;rintro e w2 ⟨rfl,hb2⟩;have HB2:Hid _:=HB.out.trans (hb2.mono HB.out.size);have d3:=Dg.cell_later hb2 c3;clear HD2 HB hb2 c0 c1 c2 c3;cases q with
  | true=>
   go_wp2_with fail
   go_ret
   exact⟨by rw[HX.out];rfl,HB2.out⟩
  | false=>
   cases un with
   | true=>
    go_wp2_with fail
    go_ret
    exact⟨by rw[HX.out];rfl,HB2.out⟩
   | false=>
    go_wp2_with fail
    go_ret
    exact⟨by rw[HX.out];rfl,HB2.out⟩
def iwM (m:Nat→Nat→Bool)(i:Nat):IW:=⟨m 1 i,m 2 i,m 3 i,m 0 i,0⟩
theorem sagaStatus_any {v lv:Value}(hS:Sd w0 b v lv m w){s:Nat}(hs:s < 64)(hl:Bool) :
  Calls Tryz.prog 101 #[.pointer (some ⟨b,0,none⟩),.int .i64 (s:Int),.bool hl] w fun e w'=>e= .returned (.int .i64 (sagaS (iwM m s) hl))∧Below w.heap.size w w':=by
 obtain⟨E,HE⟩:∃E,Hid (E=sagaS (iwM m s) hl):=⟨_,rfl⟩
 rw[←HE.out]
 have HX:Hid (E=if m 0 s=false then 0 else if m 3 s then 2 else if m 2 s then 3 else if hl=false then 1 else if m 1 s then 5 else 4):=HE.out;have c0:=hS.m0 hs;have c1:=hS.m1 hs;have c2:=hS.m2 hs;have c3:=hS.m3 hs;have hii:(s:Int) < 64:=by omega
 clear hS HE;generalize m 0 s=q0 at *;generalize m 1 s=q1 at *;generalize m 2 s=q2 at *;generalize m 3 s=q3 at *;cases q0 with
 | false=>
  go_enter Tryz.func101,Tryz.ntmps101
  go_wp2_with fail
  go_ret
  exact⟨by rw[HX.out];rfl,Below.refl _ _⟩
 | true=>
  cases q3 with
  | true=>
   go_enter Tryz.func101,Tryz.ntmps101
   go_wp2_with fail
   go_ret
   exact⟨by rw[HX.out];rfl,Below.refl _ _⟩
  | false=>
   cases q2 with
   | true=>
    go_enter Tryz.func101,Tryz.ntmps101
    go_wp2_with fail
    go_ret
    exact⟨by rw[HX.out];rfl,Below.refl _ _⟩
   | false=>
    cases hl with
    | false=>
     go_enter Tryz.func101,Tryz.ntmps101
     go_wp2_with fail
     go_ret
     exact⟨by rw[HX.out];rfl,Below.refl _ _⟩
    | true=>
     cases q1 with
     | true=>
      go_enter Tryz.func101,Tryz.ntmps101
      go_wp2_with fail
      go_ret
      exact⟨by rw[HX.out];rfl,Below.refl _ _⟩
     | false=>
      go_enter Tryz.func101,Tryz.ntmps101
      go_wp2_with fail
      go_ret
      exact⟨by rw[HX.out];rfl,Below.refl _ _⟩
theorem drawn_below {B:Nat}{w w':World}(h:Below B w w')(n:Nat):Below B w (w'.drewN n):=⟨h.os,h.tape,h.output,h.size,h.block⟩
def ItA (s1 s2:ByteArray)(sub vi:Bool)(al zi za:Int)(zv:Value):Value:= .agg #[.string s1,.string s2,.bool sub,.bool vi,.int .i64 al,.int .i64 zi,.int .i64 za,zv]
theorem around_any (c o i:Nat)(s1 s2:ByteArray)(sub vi:Bool)(al zi za:Int)(av:Option Addr)(am ac:Nat)(r:Bool)(hi:i < 64)
  (hM:1≤i→∃s a:Nat,zi=(s:Int)∧za=(a:Int)∧s < 64∧a < 4∧w.cell? ⟨c,o+s * 4+a,none⟩=some (.bool r)) :
  Calls Tryz.prog 102 #[.pointer (some ⟨c,o,none⟩),.int .i64 (i:Int),ItA s1 s2 sub vi al zi za (.slice av am ac)] w fun e w'=>e= .returned (.bool (decide (0 < i) && r))∧Below w.heap.size w w':=by
 have hb1:=bl1 w (.cells #[.string s1,.string s2,.bool sub,.bool vi,.int .i64 al,.int .i64 zi,.int .i64 za,.slice av am ac] 50);have r1:=Dg.row_new w #[.string s1,.string s2,.bool sub,.bool vi,.int .i64 al,.int .i64 zi,.int .i64 za,.slice av am ac] 50;have c5:=(Dg.cell_row r1 5).trans rfl;have c6:=(Dg.cell_row r1 6).trans rfl;have HB:Hid _:=hb1;unfold ItA
 by_cases h0:1≤i
 ·obtain⟨s,a,rfl,rfl,hs,ha,hc⟩:=hM h0
  have hc2:=Dg.cell_later hb1 hc;have h0':decide (0 < i)=true:=decide_eq_true h0;have hg:decide ((i:Int) > 0)=true:=decide_eq_true (by omega);have hs2:(s:Int) < 64:=by omega
  have ha2:(a:Int) < 4:=by omega
  rw[h0']
  clear hM hb1 r1 h0 hc
  go_enter Tryz.func102,Tryz.ntmps102
  go_wp2_with fail
  go_quiet (fail)
  go_wp2_with fail
  go_ret
  exact⟨rfl,drawn_below HB.out _⟩
 ·obtain rfl:i=0:=by omega
  have hg:decide ((0:Int) > 0)=false:=rfl;clear hM hb1 r1 h0
  go_enter Tryz.func102,Tryz.ntmps102
  go_wp2_with fail
  go_quiet (fail)
  go_wp2_with fail
  go_ret
  exact⟨rfl,drawn_below HB.out _⟩
end Go.Proofs.YtieoppabellafaaGreatDoor.Sa
namespace Go.Proofs.YtieoppabellafaaGreatDoor.Sa
open Go.RowKit Go.Shelf Fc St
variable {p:Pl}{f:Nat→Fa}{xb xo icap fb fo lcap:Nat}{w0:World}{b:Nat}{m:Nat→Nat→Bool}{w:World}{n:Nat}
theorem wpOp_un {P:Program}{ops:Array Oper}{Q:Exit→Act→World→Prop}{i:Nat}{K:Act→World→Prop}{a:Act}{w:World}{o:Oper}{d:Tmp}(hi:ops[i]? =some o)(hd:o.dst=some d)(hw:Region.wanted o (yielded ops a.tmps)=false)
  (hK:K {tmps:=a.tmps.setIfInBounds d undef,defers:=a.defers} w):wpOp P ops Q i K a w:=by
 have hp:a.put o.dst undef= {tmps:=a.tmps.setIfInBounds d undef,defers:=a.defers} :=by rw[hd];rfl
 unfold wpOp;simp only[hi];rw[if_neg (by rw[hw];decide),hp]
 exact hK
def bodL (M:Nat→Nat→Bool):List Value:=(List.range 256).map fun j=> .bool (M (j / 4) (j % 4))
theorem bodL_at {M:Nat→Nat→Bool}{s a:Nat}(hs:s < 64)(ha:a < 4):(bodL M)[s * 4+a]? =some (.bool (M s a)):=by
 have h2:(s * 4+a) / 4=s:=by omega
 have h3:(s * 4+a) % 4=a:=by omega
 unfold bodL;rw[zC,List.getElem?_range (by omega)]
 simp only[Option.map_some,h2,h3]
theorem bodL_set {M:Nat→Nat→Bool}{s a:Nat}(q:Bool)(hs:s < 64)(ha:a < 4):(bodL M).set (s * 4+a) (.bool q)=bodL (put2 M s a q):=by
 unfold bodL;refine List.ext_getElem? fun j=>?_
 rw[List.getElem?_set]
 by_cases hj:j < 256
 ·rw[zC,zC,List.getElem?_range hj]
  simp only[Option.map_some,put2]
  by_cases h:s * 4+a=j
  ·have h2:j / 4=s:=by omega
   have h3:j % 4=a:=by omega
   rw[if_pos h,if_pos (by simp;omega),h2,h3,if_pos ⟨rfl,rfl⟩]
  ·rw[if_neg h,if_neg (by omega)]
 ·have hn:(List.range 256)[j]? =none:=zM (by simp;omega);rw[zC,zC,hn,if_neg (by omega)]
  rfl
theorem bodL_len (M:Nat→Nat→Bool):(bodL M).length=256:=by unfold bodL;rw[zG,List.length_range]
theorem bodL_one (M:Nat→Nat→Bool):(bodL M).toArray.all (·.oneCell')=true:=by
 rw[List.all_toArray,zF]
 intro v hv;unfold bodL at hv;obtain⟨j,_,rfl⟩:=zS.1 hv
 rfl
theorem zero51:Tryz.zeroCells135=(bodL fun _ _=>false).toArray:=by kernel_rfl
theorem size51:(Tryz.prog.info? 135).map (·.size)=some 256:=by kernel_rfl
def Mk (T:Nat→Nat→Bool)(k j:Nat):Nat→Nat→Bool:=fun s a=>(decide (s < k) || (decide (s=k) && decide (a < j))) && T s a
theorem Mk_put {T:Nat→Nat→Bool}{k j:Nat}{q:Bool}(hq:q=T k j):put2 (Mk T k j) k j q=Mk T k (j+1):=by
 subst hq
 funext s a
 unfold put2 Mk
 by_cases h:s=k∧a=j
 ·obtain⟨rfl,rfl⟩:=h
  rw[if_pos ⟨rfl,rfl⟩]
  simp
 ·rw[if_neg h]
  congr 1
  by_cases hs:s=k
  ·subst hs;have ha:a≠j:=fun h9=>h ⟨rfl,h9⟩
   have:decide (a < j)=decide (a < j+1):=decide_eq_decide.2 (by omega);rw[this]
  ·simp[hs]
theorem Mk_next {T:Nat→Nat→Bool}{k t:Nat}(h:∀a,t≤a→T k a=false):Mk T k t=Mk T (k+1) 0:=by
 funext s a
 unfold Mk
 by_cases hs:s=k
 ·subst hs
  by_cases ha:a < t
  ·simp[ha]
  ·simp[h a (by omega)]
 ·have:decide (s < k)=decide (s < k+1):=decide_eq_decide.2 (by omega);simp[hs,this]
theorem Mk_zero {T:Nat→Nat→Bool} :Mk T 0 0=fun _ _=>false:=by
 funext s a
 simp[Mk]
theorem Mk_end {T:Nat→Nat→Bool}{n:Nat}(h:∀s a,n≤s→T s a=false):Mk T n 0=T:=by
 funext s a
 unfold Mk
 by_cases hs:s < n
 ·simp[hs]
 ·simp[h s a (by omega)]
def tgt (p:Pl)(f:Nat→Fa)(m:Nat→Nat→Bool)(hal:Nat→Bool)(s a:Nat):Bool:=decide (s < p.n∧a < p.alts s) && (hal s || !allK p s a (okH p f m))
structure Fd (w0 w:World)(b:Nat)(v lv:Value)(m M:Nat→Nat→Bool)(W:World):Prop where
 sd:Sd w0 b v lv m W
 lt:b < w.heap.size
 bel:Below w.heap.size w W
 res:W.heap[w.heap.size]? =some (.cells Tryz.zeroCells135 135 (0,0))
 bod:W.heap[w.heap.size+1]? =some (.cells (bodL M).toArray 135 (0,0))
theorem Fd.later {w0 w:World}{b:Nat}{v lv:Value}{m M:Nat→Nat→Bool}{W W':World}(h:Fd w0 w b v lv m M W)(hb:Below W.heap.size W W'):Fd w0 w b v lv m M W':=
 ⟨h.sd.later hb,h.lt,h.bel.trans (hb.mono h.bel.size),(hb.block _ (jD.1 h.res).1).trans h.res,(hb.block _ (jD.1 h.bod).1).trans h.bod⟩
theorem Fd.put {w0 w:World}{b:Nat}{v lv:Value}{m M:Nat→Nat→Bool}{W:World}(h:Fd w0 w b v lv m M W){s a:Nat}(q:Bool)(hs:s < 64)(ha:a < 4):Fd w0 w b v lv m (put2 M s a q) (W.setCell ⟨w.heap.size+1,s * 4+a,none⟩ (.bool q)):=by
 refine⟨⟨h.sd.bel.setCell (by have:=h.sd.low;have:=h.lt;show _≤w.heap.size+1;omega) _,h.sd.low,Dg.row_other h.sd.sb _ (by have:=h.lt;omega)⟩,h.lt,h.bel.setCell (by show _≤w.heap.size+1;omega) _,Dg.row_other h.res _ (by omega),?_⟩
 rw[Dg.row_set h.bod,jA,bodL_set q hs ha]
theorem Fd.at_ {w0 w:World}{b:Nat}{v lv:Value}{m M:Nat→Nat→Bool}{W:World}(h:Fd w0 w b v lv m M W){s a:Nat}(hs:s < 64)(ha:a < 4):W.cell? ⟨w.heap.size+1,s * 4+a,none⟩=some (.bool (M s a)):=by
 rw[Dg.cell_row h.bod,jY]
 exact bodL_at hs ha
theorem Fd.init {w0 w:World}{b:Nat}{v lv:Value}{m:Nat→Nat→Bool}(h:Sd w0 b v lv m w):Fd w0 w b v lv m (fun _ _=>false) ((w.alloc (.cells Tryz.zeroCells135 135)).alloc (.cells Tryz.zeroCells135 135)):=by
 have hb1:=bl1 w (.cells Tryz.zeroCells135 135);have hb2:=bl1 (w.alloc (.cells Tryz.zeroCells135 135)) (.cells Tryz.zeroCells135 135);refine⟨(h.later hb1).later hb2,(jD.1 h.sb).1,hb1.trans (hb2.mono hb1.size),Dg.row_alloc (Dg.row_new w _ 135) _,?_⟩
 have:=Dg.row_new (w.alloc (.cells Tryz.zeroCells135 135)) Tryz.zeroCells135 135;rw[jV] at this
 rw[this,zero51]
theorem falling_any (hB:Bs p f xb xo icap fb fo lcap w0)(hn:p.n=n)(hS:Sd w0 b (.slice (some ⟨xb,xo,none⟩) n icap) (.slice (some ⟨fb,fo,none⟩) n lcap) m w)(hal:Nat→Bool)(hh0:hal 0=false)
  (hh:∀s,1≤s→s < n→hal s=(hal (p.inn s) || !allK p (p.inn s) (p.alt s) (okH p f m))) :
  Calls Tryz.prog 98 #[.pointer (some ⟨b,0,none⟩)] w fun e w'=>e= .returned (.agg (bodL (tgt p f m hal)).toArray)∧Below w.heap.size w w':=by
 have hle:n≤64:=by have:=hB.le;omega
 have hic:n≤icap:=by have:=hB.icap;omega
 obtain⟨T,HT⟩:∃T,Hid (T=tgt p f m hal):=⟨_,rfl⟩
 rw[←HT.out]
 have hF0:=Fd.init hS;have c0:=hF0.sd.c0;have HB:Hid _:=hB;have HN:Hid _:=hn;have HFA:Hid (∀(wx:World) (s a:Nat),Below w.heap.size w wx→s < n→a≤4→Calls Tryz.prog 132 #[.pointer (some ⟨b,0,none⟩),.int .i64 (s:Int),.int .i64 (a:Int)] wx fun e w'=>e= .returned (.bool (!allK p s a (okH p f m)))∧Below wx.heap.size wx w'):=fun wx s a hb h1 h2=>falls_any hB hn (hS.later hb) h1 h2
 have HH:Hid (∀s,1≤s→s < n→T (p.inn s) (p.alt s)=hal s):=fun s h1 h2=>by
  have h3:=hB.ok.inn s h1 (by omega);rw[HT.out,hh s h1 h2]
  unfold tgt;rw[decide_eq_true ⟨by omega,h3.2.2⟩,Bool.true_and]
 have HI:Hid (∀s,1≤s→s < n→p.inn s < s∧p.alt s < p.alts (p.inn s)∧p.alts (p.inn s)≤4):=fun s h1 h2=>by
  have h3:=hB.ok.inn s h1 (by omega);exact⟨h3.1,h3.2.2,hB.alts _ (by omega)⟩
 have HT1:Hid (∀k a,k < n→a < p.alts k→T k a=(hal k || !allK p k a (okH p f m))):=fun k a h1 h2=>by
  rw[HT.out]
  unfold tgt;rw[decide_eq_true ⟨by omega,h2⟩,Bool.true_and]
 have HT2:Hid (∀k a,p.alts k≤a→T k a=false):=fun k a h=>by
  rw[HT.out]
  unfold tgt;rw[decide_eq_false (by omega),Bool.false_and]
 have HT3:Hid (∀k a,n≤k→T k a=false):=fun k a h=>by
  rw[HT.out]
  unfold tgt;rw[decide_eq_false (by omega),Bool.false_and]
 have HF0:Hid (Fd w0 w b (.slice (some ⟨xb,xo,none⟩) n icap) (.slice (some ⟨fb,fo,none⟩) n lcap) m (Mk T 0 0) ((w.alloc (.cells Tryz.zeroCells135 135)).alloc (.cells Tryz.zeroCells135 135))):=by show Fd _ _ _ _ _ _ _ _;rw[Mk_zero];exact hF0
 have HH0:Hid _:=hh0;clear hS hF0 hB hn hh hh0
 go_enter Tryz.func98,Tryz.ntmps98
 go_wp2_with fail
 go_loopw [13] (fun iv wr=>∃(k:Nat),k≤n∧iv= .int .i64 k∧Hid (Fd w0 w b (.slice (some ⟨xb,xo,none⟩) n icap) (.slice (some ⟨fb,fo,none⟩) n lcap) m (Mk T k 0) wr)) (fun iv _=>n - (intOf iv).toNat)
 case atStart=>exact⟨0,zE _,by go_num,HF0⟩
 case round=>
  obtain⟨k,hk,rfl,HM⟩:=hrel
  rename World=>wr
  by_cases hlt:k < n
  rotate_left
  ·obtain rfl:k=n:=by omega
   have hM:=HM.out;rw[Mk_end HT3.out] at hM
   have HR2:Hid _:=setRow_heap wr w.heap.size Tryz.zeroCells135 (bodL T).toArray 135 (0,0) hM.res;have HBOD:Hid _:=hM.bod;have HRES:Hid _:=hM.res;have HZ1:Hid ((Tryz.prog.info? 135).map (·.size)=some (bodL T).toArray.size):=by show _=_;rw[size51,jN,bodL_len]
   have HZ2:Hid (Tryz.zeroCells135.size=(bodL T).toArray.size):=by show _=_;rw[zero51,jN,jN,bodL_len,bodL_len]
   have HZ3:Hid _:=bodL_one T;have HBE:Hid _:=below_setRow hM.bel (jG _) (bodL T).toArray;clear hM HM HFA HH HI HT1 HT2 HT3 HT
   go_wp2_with (first | (refine wpList_load_row rfl 135 (.tmp 3) rfl (w.heap.size+1) rfl 135 (bodL T).toArray (0,0) _ HBOD.out Tryz.underlying135 rfl HZ1.out ?_) | (refine wpList_store_row rfl 135 (.tmp 2) (.tmp 39) rfl w.heap.size (bodL T).toArray rfl rfl 135 Tryz.zeroCells135 HRES.out HZ1.out HZ2.out HZ3.out ?_))
   refine⟨rfl,_,results_cell_row (p:=2) (ty:=135) rfl _ _ w.heap.size 135 (bodL T).toArray (0,0) _ rfl HR2.out Tryz.underlying135 rfl HZ1.out,rfl,HBE.out⟩
  ·have hM:=HM.out;obtain⟨s1,s2,zi,za,av,am,ac,k0,k1,k2,k3,k4,k5,k6,k7,hz⟩:=(HB.out.later hM.sd.bel).it k (by have:=HN.out;omega)
   have hii:(k:Int) < (n:Int):=by omega
   have h4:=HB.out.alts k (by have:=HN.out;omega);have HAR:Hid (∀wx:World,Fd w0 w b (.slice (some ⟨xb,xo,none⟩) n icap) (.slice (some ⟨fb,fo,none⟩) n lcap) m (Mk T k 0) wx→Calls Tryz.prog 102 #[.pointer (some ⟨w.heap.size+1,0,none⟩),.int .i64 (k:Int),.agg #[.string s1,.string s2,.bool (p.sub k),.bool (p.vital k),.int .i64 (p.alts k:Nat),.int .i64 zi,.int .i64 za,.slice av am ac]] wx fun e w'=>e= .returned (.bool (hal k))∧Below wx.heap.size wx w'):=fun wx hF=>by
    have h9:(decide (0 < k) && hal k)=hal k:=by
     by_cases h0:0 < k
     ·simp[h0]
     ·obtain rfl:k=0:=by omega
      rw[HH0.out]
      rfl
    rw[←h9]
    refine around_any (w:=wx) (w.heap.size+1) 0 k s1 s2 (p.sub k) (p.vital k) (p.alts k:Nat) zi za av am ac (hal k) (by omega) (fun h1=>?_);obtain⟨e1,e2⟩:=hz h1
    obtain⟨e3,e4,e5⟩:=HI.out k h1 hlt
    refine⟨p.inn k,p.alt k,e1,e2,by omega,by omega,?_⟩
    have h8:=hF.at_ (s:=p.inn k) (a:=p.alt k) (by omega) (by omega);have h7:Mk T k 0 (p.inn k) (p.alt k)=hal k:=by
     unfold Mk;rw[decide_eq_true e3,HH.out k h1 hlt]
     rfl
    rw[h7] at h8
    rw[zD]
    exact h8
   have HTK:Hid (∀a,p.alts k≤a→T k a=false):=HT2.out k;have HTK1:Hid (∀a,a < p.alts k→T k a=(hal k || !allK p k a (okH p f m))):=fun a h=>HT1.out k a hlt h
   clear hM hz;generalize p.alts k=t at *;generalize p.sub k=su at *;generalize p.vital k=vi at *;have rx:=Dg.row_new wr #[.string s1,.string s2,.bool su,.bool vi,.int .i64 (t:Int),.int .i64 zi,.int .i64 za,.slice av am ac] 50;have hb1:=bl1 wr (.cells #[.string s1,.string s2,.bool su,.bool vi,.int .i64 (t:Int),.int .i64 zi,.int .i64 za,.slice av am ac] 50);have x0:=(Dg.cell_row rx 0).trans rfl;have x1:=(Dg.cell_row rx 1).trans rfl;have x2:=(Dg.cell_row rx 2).trans rfl;have x3:=(Dg.cell_row rx 3).trans rfl;have x4:=(Dg.cell_row rx 4).trans rfl;have x5:=(Dg.cell_row rx 5).trans rfl;have x6:=(Dg.cell_row rx 6).trans rfl;have x7:=(Dg.cell_row rx 7).trans rfl;have HM1:Hid _:=HM.out.later hb1;have HX4:Hid _:=x4;have HBW:Hid _:=hb1;clear rx hb1 HM
   go_wp2_with fail
   refine Calls.mono (HAR.out _ HM1.out) ?_;rintro e w2 ⟨rfl,hb2⟩;have HM2:Hid (Fd w0 w b (.slice (some ⟨xb,xo,none⟩) n icap) (.slice (some ⟨fb,fo,none⟩) n lcap) m (Mk T k 0) w2):=HM1.out.later hb2;have y4:=Dg.cell_later hb2 HX4.out;clear k0 k1 k2 k3 k5 k6 k7 hb2 HM1 HX4 HAR x0 x1 x2 x3 x4 x5 x6 x7 HBW;generalize wr.heap.size=xb9 at *;generalize hal k=hk9 at *
   go_wp2_with fail
   go_loopw [23] (fun iv wr=>∃(j:Nat),j≤t∧iv= .int .i64 j∧Hid (Fd w0 w b (.slice (some ⟨xb,xo,none⟩) n icap) (.slice (some ⟨fb,fo,none⟩) n lcap) m (Mk T k j) wr)) (fun iv _=>t - (intOf iv).toNat)
   case atStart=>exact⟨0,zE _,by go_num,HM2⟩
   case round=>
    obtain⟨j,hj,rfl,HJ⟩:=hrel
    rename World=>wj
    by_cases hjt:j < t
    rotate_left
    ·obtain rfl:j=t:=by omega
     have HJ2:Hid (Fd w0 w b (.slice (some ⟨xb,xo,none⟩) n icap) (.slice (some ⟨fb,fo,none⟩) n lcap) m (Mk T (k+1) 0) wj):=by
      show Fd _ _ _ _ _ _ _ _;rw[←Mk_next HTK.out]
      exact HJ.out
     clear HJ
     go_wp2_with fail
     go_roundw
     case rel=>exact⟨k+1,by omega,by go_num,HJ2⟩
     case measure=>simp[intOf] <;> omega
    ·have HTJ:Hid _:=HTK1.out j hjt;have hFJ:=HFA.out;have HFJ:Hid (Calls Tryz.prog 132 #[.pointer (some ⟨b,0,none⟩),.int .i64 (k:Int),.int .i64 (j:Int)] wj.drew fun e w'=>e= .returned (.bool (!allK p k j (okH p f m)))∧Fd w0 w b (.slice (some ⟨xb,xo,none⟩) n icap) (.slice (some ⟨fb,fo,none⟩) n lcap) m (Mk T k j) w'):=Calls.mono (HFA.out wj.drew k j (HJ.out.bel.trans ((Below.refl _ _).drew.mono HJ.out.bel.size)) hlt (by omega)) (by rintro e w2 ⟨rfl,hb⟩;exact⟨rfl,(HJ.out.later (Below.refl _ _).drew).later hb⟩);have hj4:(j:Int) < 4:=by omega
     have hk64:(k:Int) < 64:=by omega
     have hCUR:Fd w0 w b (.slice (some ⟨xb,xo,none⟩) n icap) (.slice (some ⟨fb,fo,none⟩) n lcap) m (Mk T k j) wj.drew:=HJ.out.later (Below.refl _ _).drew;have hS0:∃M9,Fd w0 w b (.slice (some ⟨xb,xo,none⟩) n icap) (.slice (some ⟨fb,fo,none⟩) n lcap) m M9 wj.drew:=⟨_,hCUR⟩
     clear hFJ
     go_wp2_with fail
     cases hk9 with
     | true=>
      have HTR:Hid (T k j=true):=by show _=_;rw[HTJ.out];rfl
      refine region_thenQ [(26,.int .i64 k),(27,.int .i64 j),(28,.bool true),(29,.bool true),(30,undef),(31,undef),(32,undef),(33,undef),(34,.bool true),(35,.pointer (some ⟨w.heap.size+1,k * 4,none⟩)),(36,.pointer (some ⟨w.heap.size+1,k * 4+j,none⟩))] (fun w'=>Fd w0 w b (.slice (some ⟨xb,xo,none⟩) n icap) (.slice (some ⟨fb,fo,none⟩) n lcap) m (Mk T k (j+1)) w') ?_ ?_
      ·refine wp_region_held (S:=fun w'=>∃M9,Fd w0 w b (.slice (some ⟨xb,xo,none⟩) n icap) (.slice (some ⟨fb,fo,none⟩) n lcap) m M9 w') (by kernel_rfl) ?_;simp only[jN,jM,jP,Nat.reduceAdd,jI,jJ,jO,jL,jK];refine tK 0 26 (.int .i64 k) 11 rfl hS0 ?_;refine tK 1 27 (.int .i64 j) 10 rfl hS0 ?_;refine tK 2 28 (.bool true) 9 rfl hS0 ?_;refine tK 3 29 (.bool true) 8 rfl hS0 ?_;refine tU 4 30 7 rfl hS0 ?_;refine tU 5 31 6 rfl hS0 ?_;refine tU 6 32 5 rfl hS0 ?_;refine tG 9 35 (.pointer (some ⟨w.heap.size+1,k * 4,none⟩)) 4 rfl hS0 ?_;refine wpAnyH_all (fuel:=3) (rs:=[7]) (by kernel_rfl) (by decide) (jE.2 ?_);refine wpOp_un (i:=7) (d:=33) rfl rfl (by kernel_rfl) ⟨hS0,?_⟩;simp only[jA,jB,jC];refine tK 8 34 (.bool true) 2 rfl hS0 ?_;refine tG 10 36 (.pointer (some ⟨w.heap.size+1,k * 4+j,none⟩)) 1 rfl hS0 ?_;refine wpAnyH_all (fuel:=0) (rs:=[11]) (by kernel_rfl) (by decide) (jE.2 ?_);have hP:=hCUR.put (s:=k) (a:=j) (true) (by omega) (by omega);rw[Mk_put HTR.out.symm] at hP
       have c9:=hCUR.at_ (s:=k) (a:=j) (by omega) (by omega);have f9:=Dg.froz_row hCUR.bod (k * 4+j);refine wpOp_skip (i:=11) (w':=wj.drew.setCell ⟨w.heap.size+1,k * 4+j,none⟩ (.bool (true))) rfl rfl (by kernel_rfl) (by go_simp) ⟨⟨_,hP⟩,?_⟩;refine wpAnyH_done (by kernel_rfl) ?_ _;exact⟨rfl,by kernel_rfl,hP⟩
      ·intro w9 hF;simp only[setAll,jA,jB,jC,Exit.inBlock,Exit.then];have HF9:Hid _:=hF;clear hF
       go_wp2_with fail
       go_roundw
       case rel=>exact⟨j+1,by omega,by go_num,HF9⟩
       case measure=>simp[intOf] <;> omega
     | false=>
      have HTR:Hid (T k j= !allK p k j (okH p f m)):=by show _=_;rw[HTJ.out];rfl
      generalize (!allK p k j (okH p f m))=q9 at *;refine region_thenQ [(26,.int .i64 k),(27,.int .i64 j),(28,.bool false),(29,.bool false),(30,.pointer (some ⟨b,0,none⟩)),(31,.int .i64 k),(32,.int .i64 j),(33,.bool q9),(34,.bool q9),(35,.pointer (some ⟨w.heap.size+1,k * 4,none⟩)),(36,.pointer (some ⟨w.heap.size+1,k * 4+j,none⟩))] (fun w'=>Fd w0 w b (.slice (some ⟨xb,xo,none⟩) n icap) (.slice (some ⟨fb,fo,none⟩) n lcap) m (Mk T k (j+1)) w') ?_ ?_
      ·refine wp_region_held (S:=fun w'=>∃M9,Fd w0 w b (.slice (some ⟨xb,xo,none⟩) n icap) (.slice (some ⟨fb,fo,none⟩) n lcap) m M9 w') (by kernel_rfl) ?_;simp only[jN,jM,jP,Nat.reduceAdd,jI,jJ,jO,jL,jK];refine tK 0 26 (.int .i64 k) 11 rfl hS0 ?_;refine tK 1 27 (.int .i64 j) 10 rfl hS0 ?_;refine tK 2 28 (.bool false) 9 rfl hS0 ?_;refine tK 3 29 (.bool false) 8 rfl hS0 ?_;refine tK 4 30 (.pointer (some ⟨b,0,none⟩)) 7 rfl hS0 ?_;refine tK 5 31 (.int .i64 k) 6 rfl hS0 ?_;refine tK 6 32 (.int .i64 j) 5 rfl hS0 ?_;refine tG 9 35 (.pointer (some ⟨w.heap.size+1,k * 4,none⟩)) 4 rfl hS0 ?_;refine oneW (R:=fun w'=>Fd w0 w b (.slice (some ⟨xb,xo,none⟩) n icap) (.slice (some ⟨fb,fo,none⟩) n lcap) m (Mk T k j) w') (i:=7) (d:=33) (f:=132) (args:= #[.pointer (some ⟨b,0,none⟩),.int .i64 k,.int .i64 j]) (v:= .bool q9) (fuel:=3) rfl rfl (by kernel_rfl) (by kernel_rfl) (fun _=>by kernel_rfl) (HFJ.out) (fun w' h=>⟨_,h⟩) (fun wz hR7=>?_);simp only[jA,jB,jC];refine tK 8 34 (.bool q9) 2 rfl (⟨_,hR7⟩) ?_;refine tG 10 36 (.pointer (some ⟨w.heap.size+1,k * 4+j,none⟩)) 1 rfl (⟨_,hR7⟩) ?_;refine wpAnyH_all (fuel:=0) (rs:=[11]) (by kernel_rfl) (by decide) (jE.2 ?_);have hP:=hR7.put (s:=k) (a:=j) (q9) (by omega) (by omega);rw[Mk_put HTR.out.symm] at hP
       have c9:=hR7.at_ (s:=k) (a:=j) (by omega) (by omega);have f9:=Dg.froz_row hR7.bod (k * 4+j);refine wpOp_skip (i:=11) (w':=wz.setCell ⟨w.heap.size+1,k * 4+j,none⟩ (.bool (q9))) rfl rfl (by kernel_rfl) (by go_simp) ⟨⟨_,hP⟩,?_⟩;refine wpAnyH_done (by kernel_rfl) ?_ _;exact⟨rfl,by kernel_rfl,hP⟩
      ·intro w9 hF;simp only[setAll,jA,jB,jC,Exit.inBlock,Exit.then];have HF9:Hid _:=hF;clear hF
       go_wp2_with fail
       go_roundw
       case rel=>exact⟨j+1,by omega,by go_num,HF9⟩
       case measure=>simp[intOf] <;> omega
end Go.Proofs.YtieoppabellafaaGreatDoor.Sa
namespace Go.Proofs.YtieoppabellafaaGreatDoor
open Go.RowKit Go.Shelf Sx
theorem kidsT_some {its:List It}{rec:Nat→Tr}{i alt:Nat} :∀k,kidsT its rec i alt k≠[]→∃(j:Nat) (x:It),its[j]? =some x∧x.inn=(i:Int)∧x.alt=(alt:Int)
 | 0,h=>absurd rfl h
 | k+1,h=>by
  rw[kidsT] at h
  cases hx:its[k]? with
  | none=>
   rw[hx] at h
   simp only[List.append_nil] at h;exact kidsT_some k h
  | some x=>
   rw[hx] at h
   simp only at h
   by_cases hc:x.inn=(i:Int)∧x.alt=(alt:Int)
   ·exact⟨k,x,hx,hc⟩
   ·rw[if_neg hc,List.append_nil] at h
    exact kidsT_some k h
theorem nodes_bod {its:List It}{xs:List Pd}(h:Tells its xs)(t:Tr):∀(k:Bool) (inn alt last:Nat) (pre post:List Pd),Kd k t→xs=pre ++xsT t inn alt last ++post→pre.length=last→inn≤last→(∀y∈pre,y.inn < y.num∧y.num≤last)→(∀y∈post,y.inn≤last∨last+cntA t < y.inn)→∀y∈xsT t inn alt last,bodT its (its.length+1) y.num=y.alts:=by
 induction t with
 | e=>intro _ _ _ _ _ _ _ _ _ _ _ _ y hy;cases hy
 | b x r ih1 ih2=>
  rintro k i a0 last pre post ⟨_,hkx,hkr⟩ hx hl hi hpre hpost y hy;have hcnt:cntA (.b x r)=cntA x+cntA r:=rfl;have hxx:xs=pre ++xsT x i a0 last ++ (xsT r i (a0+1) (last+cntA x) ++post):=by rw[hx,xsT];simp
  have hxr:xs=(pre ++xsT x i a0 last) ++xsT r i (a0+1) (last+cntA x) ++post:=by rw[hx,xsT];simp
  rw[xsT,jX] at hy
  rcases hy with hy | hy
  ·exact ih1 false i a0 last pre _ hkx hxx hl hi hpre (fun z hz=>by
    rcases jX.1 hz with hz | hz
    ·have:=(xsT_at r _ _ _ z hz).2.2.1;omega
    ·have:=hpost z hz;omega) y hy
  ·exact ih2 true i (a0+1) (last+cntA x) (pre ++xsT x i a0 last) post hkr hxr (by rw[j9,xsT_len,hl]) (by omega) (fun z hz=>by
    rcases jX.1 hz with hz | hz
    ·have:=hpre z hz;omega
    ·have:=xsT_at x _ _ _ z hz;exact⟨this.2.2.2.2 hi,this.2.1⟩) (fun z hz=>by have:=hpost z hz;omega) y hy
 | n l s r ih1 ih2=>
  rintro k inn alt last pre post ⟨hkk,hks,hkr⟩ hx hl hi hpre hpost y hy;have hcnt:cntA (.n l s r)=1+cntA s+cntA r:=rfl;obtain⟨nd,hnd⟩:∃nd:Pd,nd=⟨last+1,l,s,none,0,0,none,s.len,0,inn,alt⟩:=⟨_,rfl⟩
  have hxT:xsT (.n l s r) inn alt last=nd :: (xsT s (last+1) 0 (last+1) ++xsT r inn alt (last+1+cntA s)):=by rw[hnd,xsT]
  have hxs:xs=(pre ++ [nd]) ++xsT s (last+1) 0 (last+1) ++ (xsT r inn alt (last+1+cntA s) ++post):=by rw[hx,hxT];simp
  have hxr:xs=(pre ++nd :: xsT s (last+1) 0 (last+1)) ++xsT r inn alt (last+1+cntA s) ++post:=by rw[hx,hxT];simp
  have hat:xs[last]? =some nd:=by rw[hx,hxT,←hl];simp
  have hndn:nd.num=last+1∧nd.inn=inn∧nd.am=s.len∧nd.alts=s:=by rw[hnd];exact⟨rfl,rfl,rfl,rfl⟩
  obtain⟨_,_,z,hz,_,_,hza,_⟩:=h.at_ last nd hat
  have hal:altsI its (last+1)=s.len:=by unfold altsI;rw[hz];simp only;rw[hza,hndn.2.2.1];simp
  have hr1:∀y∈xsT r inn alt (last+1+cntA s),y.inn≤last∨last+1+cntA s < y.inn:=by
   intro y hy;have:=(xsT_at r _ _ _ y hy).2.2.1;omega
  have hpre2:∀y∈pre ++ [nd],y.inn < y.num∧y.num≤last+1:=by
   intro y hy
   rcases jX.1 hy with hy | hy
   ·have:=hpre y hy;omega
   ·simp only[zY] at hy;subst hy;omega
  have hpost2:∀y∈xsT r inn alt (last+1+cntA s) ++post,y.inn≤last+1∨last+1+cntA s < y.inn:=fun y hy=>by
   rcases jX.1 hy with hy | hy
   ·have:=hr1 y hy;omega
   ·have:=hpost y hy;omega
  rw[hxT,zJ,jX] at hy
  rcases hy with rfl | hy | hy
  ·have h1:=(bod_main h s).2 (last+1) 0 (last+1) its.length (pre ++ [y]) (xsT r inn alt (last+1+cntA s) ++post) hks hxs (by rw[j9,hl];rfl) (jG _) hpre2 hpost2 (by omega);rw[hndn.1,hndn.2.2.2]
   exact bodT_of h s (last+1) its.length (pre ++ [y]) (xsT r inn alt (last+1+cntA s) ++post) hxs hal (fun z hz=>by have:=hpre2 z hz;omega) (fun z hz=>by
    rcases jX.1 hz with hz | hz
    ·have:=hr1 z hz;omega
    ·have:=hpost z hz;omega) h1
  ·exact ih1 true (last+1) 0 (last+1) (pre ++ [nd]) (xsT r inn alt (last+1+cntA s) ++post) hks hxs (by rw[j9,hl];rfl) (jG _) hpre2 hpost2 y hy
  ·exact ih2 false inn alt (last+1+cntA s) (pre ++nd :: xsT s (last+1) 0 (last+1)) post hkr hxr (by rw[j9,jM,xsT_len,hl];omega) (by omega) (fun z hz=>by
    rcases jX.1 hz with hz | hz
    ·have:=hpre z hz;omega
    ·rcases zJ.1 hz with rfl | hz
     ·omega
     ·have:=xsT_at s _ _ _ z hz;exact⟨this.2.2.2.2 (jG _),this.2.1⟩) (fun z hz=>by have:=hpost z hz;omega) y hy
theorem fits_all (t:Tr):∀(inn alt last:Nat),fitN t=true→∀y∈xsT t inn alt last,fits y.alts=true∧y.am=y.alts.len:=by
 induction t with
 | e=>intro _ _ _ _ y hy;cases hy
 | b x r ih1 ih2=>
  intro inn alt last hN y hy;simp only[fitN,jT] at hN;rw[xsT,jX] at hy
  rcases hy with hy | hy
  ·exact ih1 _ _ _ hN.1 y hy
  ·exact ih2 _ _ _ hN.2 y hy
 | n l s r ih1 ih2=>
  intro inn alt last hN y hy;simp only[fitN,jT] at hN;rw[xsT,zJ,jX] at hy
  rcases hy with rfl | hy | hy
  ·exact⟨hN.1,rfl⟩
  ·exact ih1 _ _ _ hN.2.1 y hy
  ·exact ih2 _ _ _ hN.2.2 y hy
theorem alt_top (t:Tr):∀(k:Bool) (inn alt last:Nat),Kd k t→inn≤last→∀y∈xsT t inn alt last,y.inn=inn→k=true→y.alt < alt+t.len:=by
 induction t with
 | e=>intro _ _ _ _ _ _ y hy;cases hy
 | b x r ih1 ih2=>
  rintro k inn alt last ⟨_,hx,hr⟩ hl y hy hi hk;have hlen:(Tr.b x r).len=r.len+1:=rfl;rw[xsT,jX] at hy
  rcases hy with hy | hy
  ·have:=(xsT_alt x false inn alt last hx hl y hy hi).1 rfl;omega
  ·have:=ih2 true inn (alt+1) (last+cntA x) hr (by omega) y hy hi rfl;omega
 | n l s r _ _=>rintro k inn alt last ⟨hk,_⟩ _ y _ _ hk2;rw[hk] at hk2;cases hk2
theorem alt_lt (t:Tr):∀(k:Bool) (inn alt last:Nat),Kd k t→inn≤last→∀y∈xsT t inn alt last,y.inn=inn∨∃p∈xsT t inn alt last,p.num=y.inn∧y.alt < p.am:=by
 induction t with
 | e=>intro _ _ _ _ _ _ y hy;cases hy
 | b x r ih1 ih2=>
  rintro k inn alt last ⟨_,hx,hr⟩ hl y hy;rw[xsT,jX] at hy
  rcases hy with hy | hy
  ·rcases ih1 false inn alt last hx hl y hy with h | ⟨p,h1,h2⟩
   ·exact .inl h
   ·exact .inr ⟨p,by rw[xsT];exact List.mem_append_left _ h1,h2⟩
  ·rcases ih2 true inn (alt+1) (last+cntA x) hr (by omega) y hy with h | ⟨p,h1,h2⟩
   ·exact .inl h
   ·exact .inr ⟨p,by rw[xsT];exact List.mem_append_right _ h1,h2⟩
 | n l s r ih1 ih2=>
  rintro k inn alt last ⟨_,hs,hr⟩ hl y hy;rw[xsT,zJ,jX] at hy
  rcases hy with rfl | hy | hy
  ·exact .inl rfl
  ·rcases ih1 true (last+1) 0 (last+1) hs (jG _) y hy with h | ⟨p,h1,h2⟩
   ·have:=alt_top s true (last+1) 0 (last+1) hs (jG _) y hy h rfl;refine .inr ⟨_,by rw[xsT];exact List.mem_cons_self ..,h.symm,?_⟩;show y.alt < s.len;omega
   ·exact .inr ⟨p,by rw[xsT];exact List.mem_cons_of_mem _ (List.mem_append_left _ h1),h2⟩
  ·rcases ih2 false inn alt (last+1+cntA s) hr (by omega) y hy with h | ⟨p,h1,h2⟩
   ·exact .inl h
   ·exact .inr ⟨p,by rw[xsT];exact List.mem_cons_of_mem _ (List.mem_append_right _ h1),h2⟩
theorem fitB_bodies:∀l:List Tr,fitB (bodiesL l)=true→∀x∈l,0 < x.len∧x.len≤16
 | [],_,x,hx=>by cases hx
 | y :: r,h,x,hx=>by
  simp only[bodiesL,fitB,jT,decide_eq_true_eq] at h
  rcases zJ.1 hx with rfl | hx
  ·exact h.1
  ·exact fitB_bodies r h.2 x hx
theorem kids_some {x:By}{t:Tr}{its:List It}(h:planT x t=some its)(hk:Kd true t){i alt:Nat}{z:It}(hz:its[i]? =some z)(ha:(alt:Int) < z.alts):∃(j:Nat) (y:It),its[j]? =some y∧y.inn=(i:Int)∧y.alt=(alt:Int):=by
 obtain⟨hfit,_,_,he⟩:=planT_parts h
 have htell:=plan_tells h;simp only[fitS,jT] at hfit;have hbod:fits (bodT its (its.length+1) i)=true:=by
  cases i with
  | zero=>
   have h1:=plan_name h;have h2:bodS its=t:=bodS_back htell hk h1.2;unfold bodS at h2;rw[h2]
   exact hfit.2.2.2.1
  | succ j=>
   have hjl:j < (xsT t 0 0 0).length:=by
    have:=(jH.1 hz).1;rw[htell.len] at this
    omega
   obtain⟨y,hy⟩:∃y,(xsT t 0 0 0)[j]? =some y:=⟨_,jF hjl⟩
   have hm:=jS hy;have h1:=nodes_bod htell t true 0 0 0 [] [] hk (by simp) rfl (jG _) (fun y hy=>by cases hy) (fun y hy=>by cases hy) y hm;rw[(htell.at_ j y hy).1] at h1
   rw[h1]
   exact (fits_all t 0 0 0 hfit.2.2.2.2 y hm).1
 have hal:altsI its i=z.alts.toNat:=by unfold altsI;rw[hz]
 simp only[fits,jT] at hbod;have hb:=hbod.2;rw[bodT] at hb
 have h3:=fitB_bodies _ hb (nodesL (kidsT its (bodT its its.length) i alt its.length)) (zS.2 ⟨alt,zB.2 (by omega),rfl⟩);rw[nodesL_len] at h3
 exact kidsT_some its.length (fun hn=>by rw[hn] at h3;simp at h3)
theorem item_in {x:By}{t:Tr}{its:List It}(h:planT x t=some its)(hk:Kd true t){j:Nat}{z:It}(hz:its[j]? =some z)(hj:0 < j):∃(i alt:Nat) (p:It),z.inn=(i:Int)∧z.alt=(alt:Int)∧i < j∧its[i]? =some p∧(alt:Int) < p.alts:=by
 have htell:=plan_tells h;obtain⟨k,rfl⟩:∃k,j=k+1:=⟨j - 1,by omega⟩
 have hjl:k < (xsT t 0 0 0).length:=by
  have:=(jH.1 hz).1;rw[htell.len] at this
  omega
 obtain⟨y,hy⟩:∃y,(xsT t 0 0 0)[k]? =some y:=⟨_,jF hjl⟩
 obtain⟨_,hle,z',hz',hi,ha,_,_⟩:=htell.at_ k y hy
 rw[hz] at hz'
 cases hz';have hm:=jS hy
 by_cases h0:y.inn=0
 ·have h1:=alt_top t true 0 0 0 hk (jG _) y hm h0 rfl;obtain⟨_,_,_,he⟩:=planT_parts h
  refine⟨0,y.alt,rootI x t.len,by rw[hi,h0],ha,by omega,by rw[he,its2_root],?_⟩
  show (y.alt:Int) < (t.len:Int);omega
 ·rcases alt_lt t true 0 0 0 hk (jG _) y hm with h1 | ⟨p,hp,hpn,hpa⟩
  ·exact absurd h1 h0
  ·obtain⟨q,hq⟩:=zX.1 hp
   obtain⟨hqn,_,u,hu,_,_,hus,_⟩:=htell.at_ q p hq
   refine⟨y.inn,y.alt,u,hi,ha,by omega,?_,by omega⟩
   rw[←hpn,hqn]
   exact hu
theorem lean_in {x:By}{t:Tr}{its:List It}(h:planT x t=some its){f g:Nat}{y:It}(hy:its[f]? =some y)(ha:(g:Int)∈y.after):∃z,its[g]? =some z∧z.inn=y.inn∧z.alt=y.alt:=by
 obtain⟨_,_,hK,he⟩:=planT_parts h
 obtain⟨xs,hxs⟩:∃xs,xs=xsT t 0 0 0:=⟨_,rfl⟩
 rw[←hxs] at hK he
 cases f with
 | zero=>
  rw[he,its2_root] at hy
  cases hy;cases ha
 | succ j=>
  have hjl:j < xs.length:=by
   have:=(jH.1 hy).1;rw[he,its2_len] at this
   omega
  obtain⟨u,hu⟩:∃u,xs[j]? =some u:=⟨_,jF hjl⟩
  obtain⟨y',hy',hb,haf⟩:=its2_at x t.len xs j u hu
  rw[←he,hy] at hy'
  cases hy';obtain⟨r,hr⟩:=Option.isSome_iff_exists.1 (hK j hjl)
  rw[haf,hr] at ha
  simp only[Option.getD_some] at ha;obtain⟨c,hc,hcg⟩:=zS.1 ha
  obtain rfl:c=g:=by have:(c:Int)=(g:Int):=hcg;omega
  unfold leanK at hr;rw[hu] at hr
  obtain⟨v,hv,hvi,hva⟩:=leanP_body _ _ _ hr (by simp) c hc
  have h7:=its2_bare7 x t.len xs xs.length c;rw[hv] at h7
  rw[←he] at h7
  cases hz:its[c]? with
  | none=>rw[hz] at h7;cases h7
  | some z=>
   rw[hz] at h7
   simp only[Option.map_some,Option.some.injEq] at h7;have e1:(bare7 z).inn=(bare7 v).inn:=congrArg It.inn h7;have e1:z.inn=v.inn:=e1;have e2:(bare7 z).alt=(bare7 v).alt:=congrArg It.alt h7;have e2:z.alt=v.alt:=e2;have e3:y.inn=(u.inn:Int):=congrArg It.inn hb;have e4:y.alt=(u.alt:Int):=congrArg It.alt hb;exact⟨z,rfl,by rw[e1,hvi,e3],by rw[e2,hva,e4]⟩
end Go.Proofs.YtieoppabellafaaGreatDoor
