/- Texts of the seat, packed: Le Lf Li Lg. -/
import Derived.Test.YtieoppabellafaaGreatDoorP26
import Derived.Test.YtieoppabellafaaGreatDoorP23
import Derived.Laws.EntriesVeiled
import Derived.Deep.RegionHeld
import Derived.Deep.RegionHeldLaw
import Derived.BigQuiet
set_option maxRecDepth 1000000
set_option maxHeartbeats 64000000
set_option linter.unusedVariables false
namespace Go.Proofs.YtieoppabellafaaGreatDoor.Sa
open Go.RowKit Go.Shelf Fc St
variable {p:Pl}{f:Nat→Fa}{xb xo icap fb fo lcap:Nat}{w0:World}{b:Nat}{m:Nat→Nat→Bool}{w:World}{n:Nat}
theorem two_new (w:World)(b s:Nat):let W:=(w.alloc (.cells #[.pointer (some ⟨b,0,none⟩)] 170)).alloc (.cells #[.int .i64 (s:Int)] 3)
  Cp W w.heap.size b∧Ci W (w.heap.size+1) s∧Below w.heap.size w W:=by
 refine⟨Dg.row_alloc (Dg.row_new w _ 170) _,?_,(bl1 w _).alloc (by simp) _⟩
 have:=Dg.row_new (w.alloc (.cells #[.pointer (some ⟨b,0,none⟩)] 170)) #[.int .i64 (s:Int)] 3;rw[World.size_alloc] at this
 exact this
theorem clean1_any (hB:Bs p f xb xo icap fb fo lcap w0)(hn:p.n=n){lv:Value}(hS:Sd w0 b (.slice (some ⟨xb,xo,none⟩) n icap) lv m w){c d s a:Nat}(hc:Cp w c b)(hd:Ci w d s)(hs:s < n)(ha:a≤4) :
  Calls Tryz.prog 127 #[.int .i64 (a:Int),.pointer (some ⟨c,0,none⟩),.pointer (some ⟨d,0,none⟩)] w fun e w'=>e= .returned (.bool (allK p s a (m 1)))∧Below w.heap.size w w':=by
 have HE:Hid _:=bodyClean_any hB hn hS hs ha;have c0:=hc.c0;have d0:=hd.c0;clear hB hS hc hd
 go_enter Tryz.func127,Tryz.ntmps127
 go_wp2_with fail
 refine Calls.mono HE.out ?_;rintro e w2 ⟨rfl,hb2⟩;have HB2:Hid _:=hb2;clear HE hb2 c0 d0
 go_wp2_with fail
 go_ret
 exact⟨rfl,HB2.out⟩
theorem spent1_any (hB:Bs p f xb xo icap fb fo lcap w0)(hn:p.n=n)(hS:Sd w0 b (.slice (some ⟨xb,xo,none⟩) n icap) (.slice (some ⟨fb,fo,none⟩) n lcap) m w){c d s a:Nat}(hc:Cp w c b)(hd:Ci w d s)(hs:s < n)(ha:a≤4) :
  Calls Tryz.prog 129 #[.int .i64 (a:Int),.pointer (some ⟨c,0,none⟩),.pointer (some ⟨d,0,none⟩)] w fun e w'=>e= .returned (.bool (allK p s a (m 1) && !allK p s a (okH p f m)))∧Below w.heap.size w w':=by
 have HE:Hid _:=isOver_any hB hn hS hs ha;have c0:=hc.c0;have d0:=hd.c0;clear hB hS hc hd
 go_enter Tryz.func129,Tryz.ntmps129
 go_wp2_with fail
 refine Calls.mono HE.out ?_;rintro e w2 ⟨rfl,hb2⟩;have HB2:Hid _:=hb2;clear HE hb2 c0 d0
 go_wp2_with fail
 go_ret
 exact⟨rfl,HB2.out⟩
theorem touched1_any (hB:Bs p f xb xo icap fb fo lcap w0)(hn:p.n=n){lv:Value}(hS:Sd w0 b (.slice (some ⟨xb,xo,none⟩) n icap) lv m w){c d h s a:Nat}(hc:Cp w c b)(hd:Ci w d s)(hh:w.heap[h]? =some (.cells #[.func (Fn.func 123) #[] #[.pointer (some ⟨c,0,none⟩)]] 84 (0,0)))(hs:s < n)(ha:a≤4) :
  Calls Tryz.prog 125 #[.int .i64 (a:Int),.pointer (some ⟨c,0,none⟩),.pointer (some ⟨d,0,none⟩),.pointer (some ⟨h,0,none⟩)] w fun e w'=>e= .returned (.bool (allK p s a (fun i=> !m 0 i)))∧Below w.heap.size w w':=by
 have hle:n≤64:=by have:=hB.le;omega
 have HE:Hid _:=every_any hB hn hS 123 (.pointer (some ⟨c,0,none⟩)) s a hs ha (fun i=> !m 0 i) (fun _ _=>by kernel_rfl) (fun wx i hb h1 h2=>untouched_any (hS.later hb) (hc.later hb) (i:=i) (by omega));have c0:=hc.c0;have d0:=hd.c0;have h0:=(Dg.cell_row hh 0).trans rfl;clear hB hS hc hd hh
 go_enter Tryz.func125,Tryz.ntmps125
 go_wp2_with fail
 refine Calls.mono HE.out ?_;rintro e w2 ⟨rfl,hb2⟩;have HB2:Hid _:=hb2;clear HE hb2 c0 d0 h0
 go_wp2_with fail
 go_ret
 exact⟨rfl,HB2.out⟩
theorem sagaClean_any (hB:Bs p f xb xo icap fb fo lcap w0)(hn:p.n=n){lv:Value}(hS:Sd w0 b (.slice (some ⟨xb,xo,none⟩) n icap) lv m w){s:Nat}(hs:s < n) :
  Calls Tryz.prog 93 #[.pointer (some ⟨b,0,none⟩),.int .i64 (s:Int)] w fun e w'=>e= .returned (.bool (allB (p.alts s) fun a=>allK p s a (m 1)))∧Below w.heap.size w w':=by
 obtain⟨hc,hd,hb1⟩:=two_new w b s
 have h4:=hB.alts s (by omega);have HE:Hid _:=everyBody_any hB hn (hS.later hb1) 127 #[.pointer (some ⟨w.heap.size,0,none⟩),.pointer (some ⟨w.heap.size+1,0,none⟩)] s hs (fun a=>allK p s a (m 1)) (fun _ _=>by kernel_rfl) (fun wx i hb h1=>clean1_any hB hn ((hS.later hb1).later hb) (hc.later hb) (hd.later hb) hs (by omega));have c0:=hc.c0;have d0:=hd.c0;have HB1:Hid _:=hb1;clear hB hS hc hd hb1
 go_enter Tryz.func93,Tryz.ntmps93
 go_wp2_with fail
 refine Calls.mono HE.out ?_;rintro e w2 ⟨rfl,hb2⟩;have HB2:Hid _:=HB1.out.trans (hb2.mono HB1.out.size);clear HE hb2 c0 d0 HB1
 go_wp2_with fail
 go_ret
 exact⟨rfl,HB2.out⟩
theorem sagaSpent_any (hB:Bs p f xb xo icap fb fo lcap w0)(hn:p.n=n)(hS:Sd w0 b (.slice (some ⟨xb,xo,none⟩) n icap) (.slice (some ⟨fb,fo,none⟩) n lcap) m w){s:Nat}(hs:s < n) :
  Calls Tryz.prog 95 #[.pointer (some ⟨b,0,none⟩),.int .i64 (s:Int)] w fun e w'=>e= .returned (.bool (allB (p.alts s) fun a=>allK p s a (m 1) && !allK p s a (okH p f m)))∧Below w.heap.size w w':=by
 obtain⟨hc,hd,hb1⟩:=two_new w b s
 have h4:=hB.alts s (by omega);have HE:Hid _:=everyBody_any hB hn (hS.later hb1) 129 #[.pointer (some ⟨w.heap.size,0,none⟩),.pointer (some ⟨w.heap.size+1,0,none⟩)] s hs (fun a=>allK p s a (m 1) && !allK p s a (okH p f m)) (fun _ _=>by kernel_rfl) (fun wx i hb h1=>spent1_any hB hn ((hS.later hb1).later hb) (hc.later hb) (hd.later hb) hs (by omega));have c0:=hc.c0;have d0:=hd.c0;have HB1:Hid _:=hb1;clear hB hS hc hd hb1
 go_enter Tryz.func95,Tryz.ntmps95
 go_wp2_with fail
 refine Calls.mono HE.out ?_;rintro e w2 ⟨rfl,hb2⟩;have HB2:Hid _:=HB1.out.trans (hb2.mono HB1.out.size);clear HE hb2 c0 d0 HB1
 go_wp2_with fail
 go_ret
 exact⟨rfl,HB2.out⟩
theorem sagaTouched_any (hB:Bs p f xb xo icap fb fo lcap w0)(hn:p.n=n){lv:Value}(hS:Sd w0 b (.slice (some ⟨xb,xo,none⟩) n icap) lv m w){s:Nat}(hs:s < n) :
  Calls Tryz.prog 91 #[.pointer (some ⟨b,0,none⟩),.int .i64 (s:Int)] w fun e w'=>e= .returned (.bool (!allB (p.alts s) fun a=>allK p s a (fun i=> !m 0 i)))∧Below w.heap.size w w':=by
 obtain⟨hc,hd,hb1⟩:=two_new w b s
 have h4:=hB.alts s (by omega);have hb2:=bl1 ((w.alloc (.cells #[.pointer (some ⟨b,0,none⟩)] 170)).alloc (.cells #[.int .i64 (s:Int)] 3)) (.cells #[.func (Fn.func 123) #[] #[.pointer (some ⟨w.heap.size,0,none⟩)]] 84);have hh:=Dg.row_new ((w.alloc (.cells #[.pointer (some ⟨b,0,none⟩)] 170)).alloc (.cells #[.int .i64 (s:Int)] 3)) #[.func (Fn.func 123) #[] #[.pointer (some ⟨w.heap.size,0,none⟩)]] 84;rw[World.size_alloc,World.size_alloc] at hh
 have hS2:=(hS.later hb1).later hb2;have HB1:Hid _:=hb1.trans (hb2.mono hb1.size);have HE:Hid _:=everyBody_any hB hn hS2 125 #[.pointer (some ⟨w.heap.size,0,none⟩),.pointer (some ⟨w.heap.size+1,0,none⟩),.pointer (some ⟨w.heap.size+1+1,0,none⟩)] s hs (fun a=>allK p s a (fun i=> !m 0 i)) (fun _ _=>by kernel_rfl) (fun wx i hb h1=>touched1_any hB hn (hS2.later hb) ((hc.later hb2).later hb) ((hd.later hb2).later hb) ((hb.block _ (Array.getElem?_eq_some_iff.1 hh).1).trans hh) hs (by omega));clear hB hS hc hd hb1 hb2 hS2 hh
 go_enter Tryz.func91,Tryz.ntmps91
 go_wp2_with fail
 refine Calls.mono HE.out ?_;rintro e w2 ⟨rfl,hb2⟩;have HB2:Hid _:=HB1.out.trans (hb2.mono HB1.out.size);clear HE hb2 HB1
 go_wp2_with fail
 go_ret
 exact⟨rfl,HB2.out⟩
theorem first_is {q:Nat→Bool}{n k:Nat}(hk:k+1≤n)(h2:k+1 < n→q k=false):∀(d a:Nat),a≤k→k≤a+d→(∀j,a≤j→j < k→q j=true)→first q n d a=k
 | 0,a,h3,h4,_=>by unfold first;omega
 | d+1,a,h3,h4,h=>by
  unfold first
  by_cases ha:a=k
  ·subst ha;rw[if_neg]
   rintro⟨h5,h6⟩
   rw[h2 h5] at h6
   cases h6
  ·rw[if_pos ⟨by omega,h a (Nat.le_refl _) (by omega)⟩]
   exact first_is hk h2 d (a+1) (by omega) (by omega) fun j h5 h6=>h j (by omega) h6
def ovr (p:Pl)(f:Nat→Fa)(m:Nat→Nat→Bool)(s a:Nat):Bool:=allK p s a (m 1) && !allK p s a (okH p f m)
theorem body_any (hB:Bs p f xb xo icap fb fo lcap w0)(hn:p.n=n)(hS:Sd w0 b (.slice (some ⟨xb,xo,none⟩) n icap) (.slice (some ⟨fb,fo,none⟩) n lcap) m w){s:Nat}(hs:s < n)(ha:1≤p.alts s) :
  Calls Tryz.prog 100 #[.pointer (some ⟨b,0,none⟩),.int .i64 (s:Int)] w fun e w'=>e= .returned (.int .i64 ((first (ovr p f m s) (p.alts s) (p.alts s) 0:Nat):Int))∧Below w.heap.size w w':=by
 obtain⟨E,HE⟩:∃E,Hid (E=first (ovr p f m s) (p.alts s) (p.alts s) 0):=⟨_,rfl⟩
 rw[←HE.out]
 have hle:n≤64:=by have:=hB.le;omega
 have hic:n≤icap:=by have:=hB.icap;omega
 have h4:=hB.alts s (by omega);have HO:Hid (∀(wx:World) (a:Nat),Below w.heap.size w wx→a≤4→Calls Tryz.prog 130 #[.pointer (some ⟨b,0,none⟩),.int .i64 (s:Int),.int .i64 (a:Int)] wx fun e w'=>e= .returned (.bool (ovr p f m s a))∧Below wx.heap.size wx w'):=fun wx a hb h=>isOver_any hB hn (hS.later hb) hs h
 have HK:Hid (∀wx:World,Below w.heap.size w wx→wx.cell? ⟨b,0,none⟩=some (.slice (some ⟨xb,xo,none⟩) n icap)∧wx.cell? ⟨xb,xo+s * 8+4,none⟩=some (.int .i64 (p.alts s:Nat))):=fun wx hb=>by
  obtain⟨s1,s2,zi,za,av,am,ac,k0,k1,k2,k3,k4,k5,k6,k7,hz⟩:=(hB.later (hS.later hb).bel).it s (by omega)
  exact⟨(hS.later hb).c0,k4⟩
 have hii:(s:Int) < (n:Int):=by omega
 generalize p.alts s=t at *;clear hB hS
 go_enter Tryz.func100,Tryz.ntmps100
 go_wp2_with fail
 go_loopw [5] (fun iv wr=>∃(k:Nat),k+1≤t∧iv= .int .i64 k∧Hid (∀i,i < k→ovr p f m s i=true)∧Hid (Below w.heap.size w wr)) (fun iv _=>t - (intOf iv).toNat)
 case atStart=>exact⟨0,by omega,by go_num,fun i h1=>by omega,Below.refl _ _⟩
 case round=>
  obtain⟨k,hk,rfl,HA,HW⟩:=hrel
  rename World=>wr
  obtain⟨z0,z1⟩:=HK.out wr HW.out
  by_cases hlt:k+1 < t
  rotate_left
  ·have HX:Hid (E=k):=by
    show _=_;rw[HE.out]
    exact first_is hk (fun h=>absurd h hlt) _ 0 (by omega) (by omega) fun j _ h=>HA.out j h
   have hlt2:¬(k:Int) < (t:Int) - 1:=by omega
   go_wp2_with fail
   go_ret
   exact⟨by rw[HX.out];rfl,HW.out⟩
  ·have HQK:Hid _:=HO.out wr k HW.out (by omega);have HNO:Hid (ovr p f m s k=false→E=k):=fun h3=>HE.out.trans (first_is hk (fun _=>h3) _ 0 (by omega) (by omega) fun j _ h=>HA.out j h)
   have HYES:Hid (ovr p f m s k=true→∀i,i < k+1→ovr p f m s i=true):=fun h i h1=>by
    by_cases hik:i=k
    ·subst hik;exact h
    ·exact HA.out i (by omega)
   have hlt2:(k:Int) < (t:Int) - 1:=by omega
   clear HA
   go_wp2_with fail
   refine Calls.mono HQK.out ?_;rintro e w2 ⟨rfl,hb2⟩;have HW2:Hid _:=HW.out.trans (hb2.mono HW.out.size);clear HQK hb2;cases hqk:ovr p f m s k with
   | true=>
    have HY2:Hid _:=HYES.out hqk;clear HYES HNO
    go_wp2_with fail
    go_roundw
    case rel=>exact⟨k+1,by omega,by go_num,HY2,HW2⟩
    case measure=>simp[intOf];omega
   | false=>
    have HX:Hid _:=HNO.out hqk;clear HYES HNO
    go_wp2_with fail
    go_ret
    exact⟨by rw[HX.out];rfl,HW2.out⟩
theorem sagaDone_any (hB:Bs p f xb xo icap fb fo lcap w0)(hn:p.n=n)(hS:Sd w0 b (.slice (some ⟨xb,xo,none⟩) n icap) (.slice (some ⟨fb,fo,none⟩) n lcap) m w){s:Nat}(hs:s < n)(ha:1≤p.alts s) :
  Calls Tryz.prog 97 #[.pointer (some ⟨b,0,none⟩),.int .i64 (s:Int)] w fun e w'=>e= .returned (.bool (!m 2 s && allK p s (first (ovr p f m s) (p.alts s) (p.alts s) 0) (okD p m)))∧Below w.heap.size w w':=by
 have hle:n≤64:=by have:=hB.le;omega
 have h4:=hB.alts s (by omega);have hfl:first (ovr p f m s) (p.alts s) (p.alts s) 0≤4:=by
  have:∀(q:Nat→Bool) (n d a:Nat),a≤n→first q n d a≤n:=fun q n d=>by
   induction d with
   | zero=>intro a ha;exact ha
   | succ d ih=>
    intro a ha;unfold first
    split
    ·exact ih (a+1) (by omega)
    ·exact ha
  have:=this (ovr p f m s) (p.alts s) (p.alts s) 0 (by omega);omega
 have HE:Hid _:=body_any hB hn hS hs ha;have HF:Hid (∀w',Below w.heap.size w w'→_):=fun w' hb=>isWhole_any hB hn (hS.later hb) hs hfl
 have c2:=hS.m2 (i:=s) (by omega);have hii2:(s:Int) < 64:=by omega
 clear hB hS hfl;generalize first (ovr p f m s) (p.alts s) (p.alts s) 0=t at *
 generalize m 2 s=q2 at *;cases q2 with
 | true=>
  clear HE HF
  go_enter Tryz.func97,Tryz.ntmps97
  go_wp2_with fail
  go_ret
  exact⟨rfl,Below.refl _ _⟩
 | false=>
  go_enter Tryz.func97,Tryz.ntmps97
  go_wp2_with fail
  refine Calls.mono HE.out ?_;rintro e w2 ⟨rfl,hb2⟩;have HB2:Hid _:=hb2;have HF2:Hid _:=HF.out w2 hb2;clear HE HF hb2
  go_wp2_with fail
  refine Calls.mono HF2.out ?_;rintro e w3 ⟨rfl,hb3⟩;have HB3:Hid _:=HB2.out.trans (hb3.mono HB2.out.size);clear HF2 HB2 hb3
  go_wp2_with fail
  go_ret
  exact⟨rfl,HB3.out⟩
end Go.Proofs.YtieoppabellafaaGreatDoor.Sa
namespace Go.Proofs.YtieoppabellafaaGreatDoor.Sa
open Go.RowKit Go.Shelf Fc St
variable {p:Pl}{f:Nat→Fa}{xb xo icap fb fo lcap:Nat}{w0:World}{b:Nat}{m:Nat→Nat→Bool}{w:World}{n:Nat}
theorem hasBegun_any (x:Fa)(w:World):Calls Tryz.prog 90 #[FaV x] w fun e w'=>e= .returned (.bool (decide (0 < x.run)))∧Below w.heap.size w w':=by
 have r:=row_cells (Dg.row_new w x.cells.toArray 55);obtain⟨c0,c1,c2,c3⟩:=r
 unfold FaV;unfold Fa.cells at c0;have HB:Hid _:=bl1 w (.cells #[.int .i64 x.run,.int .i64 x.tries,.int .i64 x.slips,.bool x.un] 55)
 go_enter Tryz.func90,Tryz.ntmps90
 go_wp2_with fail
 go_ret
 exact⟨by first | rfl | simp[gt_iff_lt],HB.out⟩
theorem never_any (x:Fa)(w:World):Calls Tryz.prog 94 #[FaV x] w fun e w'=>e= .returned (.bool false)∧Below w.heap.size w w':=by
 unfold FaV;have HB:Hid _:=bl1 w (.cells #[.int .i64 x.run,.int .i64 x.tries,.int .i64 x.slips,.bool x.un] 55)
 go_enter Tryz.func94,Tryz.ntmps94
 go_wp2_with fail
 go_ret
 exact⟨rfl,HB.out⟩
theorem stepDone_any (x:Fa)(w:World):Calls Tryz.prog 96 #[FaV x] w fun e w'=>e= .returned (.bool (decide (x.run=2) && decide (x.tries=0)))∧Below w.heap.size w w':=by
 obtain⟨c0,c1,c2,c3⟩:=row_cells (Dg.row_new w x.cells.toArray 55)
 unfold FaV;unfold Fa.cells at c0 c1 c2 c3;have HB:Hid _:=bl1 w (.cells #[.int .i64 x.run,.int .i64 x.tries,.int .i64 x.slips,.bool x.un] 55)
 by_cases h:x.run=2
 ·rw[h] at c0 c1 c2 c3 HB ⊢
  go_enter Tryz.func96,Tryz.ntmps96
  go_wp2_with fail
  go_ret
  exact⟨by by_cases h2:x.tries=0 <;> simp[h2],HB.out⟩
 ·have e1:(x.run==2)=false:=by simpa using h
  go_enter Tryz.func96,Tryz.ntmps96
  go_wp2_with fail
  go_ret
  exact⟨by simp[h],HB.out⟩
theorem stepClean_any (x:Fa)(w:World):Calls Tryz.prog 92 #[FaV x] w fun e w'=>e= .returned (.bool (decide (x.run=0) || decide (x.run=3) || x.un))∧Below w.heap.size w w':=by
 obtain⟨c0,c1,c2,c3⟩:=row_cells (Dg.row_new w x.cells.toArray 55)
 unfold FaV;unfold Fa.cells at c0 c1 c2 c3;have HB:Hid _:=bl1 w (.cells #[.int .i64 x.run,.int .i64 x.tries,.int .i64 x.slips,.bool x.un] 55)
 by_cases h:x.run=0
 ·rw[h] at c0 c1 c2 c3 HB ⊢
  go_enter Tryz.func92,Tryz.ntmps92
  go_wp2_with fail
  go_ret
  exact⟨rfl,HB.out⟩
 ·by_cases h3:x.run=3
  ·rw[h3] at c0 c1 c2 c3 HB ⊢
   go_enter Tryz.func92,Tryz.ntmps92
   go_wp2_with fail
   go_ret
   exact⟨rfl,HB.out⟩
  ·have e1:(x.run==0)=false:=by simpa using h
   have e2:(x.run==3)=false:=by simpa using h3
   go_enter Tryz.func92,Tryz.ntmps92
   go_wp2_with fail
   go_ret
   exact⟨by simp[h,h3],HB.out⟩
structure Agr (n k:Nat)(T:Nat→Bool)(j:Nat)(m m':Nat→Nat→Bool):Prop where
 rest:∀k' i',k'≠k→m' k' i'=m k' i'
 from_:∀i',j≤i'→i' < n→m' k i'=T i'
theorem Agr.put {n k i:Nat}{T:Nat→Bool}{m m':Nat→Nat→Bool}(h:Agr n k T (i+1) m m'):Agr n k T i m (put2 m' k i (T i)):=by
 refine⟨fun k' i' hk=>?_,fun i' h1 h2=>?_⟩
 ·unfold put2;rw[if_neg (fun h9=>hk h9.1)]
  exact h.rest k' i' hk
 ·unfold put2
  by_cases hi:i'=i
  ·subst hi;rw[if_pos ⟨rfl,rfl⟩]
  ·rw[if_neg (fun h9=>hi h9.2)]
   exact h.from_ i' (by omega) h2
theorem region_thenQ {P:Program}{id:Nat}{ops:Array Oper}{dr:Bool}{Q:Exit→Act→World→Prop}{a:Act}{w:World}(L:List (Nat × Value))(F:World→Prop)
  (h:(Code.region id ops dr).wp P (fun e a' w'=>e= .normal∧a'= {tmps:=setAll a.tmps L,defers:=a.defers}∧F w') a w)
  (h2:∀w',F w'→Q .normal {tmps:=setAll a.tmps L,defers:=a.defers} w'):(Code.region id ops dr).wp P Q a w:=by
 refine wp_mono h ?_;rintro e a' w' ⟨rfl,rfl,hF⟩;exact h2 w' hF
theorem mark_any (hB:Bs p f xb xo icap fb fo lcap w0)(hn:p.n=n)(hS:Sd w0 b (.slice (some ⟨xb,xo,none⟩) n icap) (.slice (some ⟨fb,fo,none⟩) n lcap) m w)(k o:Nat)(hk:k < 4)(ho:o=2+64 * k)(g h:Nat)(T:Nat→Bool)
  (hcg:∀(i:Int) (wx:World),(callFunc g #[.pointer (some ⟨b,0,none⟩),.int .i64 i]).run Tryz.prog wx= .ok (.enter g #[.pointer (some ⟨b,0,none⟩),.int .i64 i]) wx)
  (hch:∀(x:Fa) (wx:World),(callFunc h #[FaV x]).run Tryz.prog wx= .ok (.enter h #[FaV x]) wx)
  (hg:∀(wx:World) (m':Nat→Nat→Bool) (i:Nat),Sd w0 b (.slice (some ⟨xb,xo,none⟩) n icap) (.slice (some ⟨fb,fo,none⟩) n lcap) m' wx→Agr n k T (i+1) m m'→i < n→p.sub i=true→Calls Tryz.prog g #[.pointer (some ⟨b,0,none⟩),.int .i64 (i:Int)] wx fun e w'=>e= .returned (.bool (T i))∧Below wx.heap.size wx w')
  (hh:∀(wx:World) (i:Nat),i < n→p.sub i=false→Calls Tryz.prog h #[FaV (f i)] wx fun e w'=>e= .returned (.bool (T i))∧Below wx.heap.size wx w') :
  Calls Tryz.prog 89 #[.pointer (some ⟨b,0,none⟩),.pointer (some ⟨b,o,none⟩),.func (Fn.func h) #[] #[],.func (Fn.func g) #[.pointer (some ⟨b,0,none⟩)] #[]] w fun e w'=>e= .returned (.tuple #[])∧∃m',Sd w0 b (.slice (some ⟨xb,xo,none⟩) n icap) (.slice (some ⟨fb,fo,none⟩) n lcap) m' w'∧Agr n k T 0 m m':=by
 have hle:n≤64:=by have:=hB.le;omega
 have hic:n≤icap:=by have:=hB.icap;omega
 have hlc:n≤lcap:=by have:=hB.lcap;omega
 have hpos:1≤n:=by have:=hB.ok.pos;omega
 have HB:Hid _:=hB;have HG:Hid _:=hg;have HH:Hid _:=hh;have HO:Hid _:=ho;have HK:Hid _:=hk;have HN:Hid _:=hn;have HS:Hid _:=hS;have c0:=hS.c0;clear hB hS hg hh hn ho hk
 go_enter Tryz.func89,Tryz.ntmps89
 go_wp2_with fail
 go_loopw [8] (fun iv wr=>∃(j:Nat) (z:Int),j≤n∧z=(j:Int) - 1∧iv= .int .i64 z∧Hid (∃m',Sd w0 b (.slice (some ⟨xb,xo,none⟩) n icap) (.slice (some ⟨fb,fo,none⟩) n lcap) m' wr∧Agr n k T j m m')) (fun iv _=>(intOf iv+1).toNat)
 case atStart=>exact⟨n,(n:Int) - 1,by omega,rfl,by go_num,m,HS.out,fun _ _ _=>rfl,fun i h1 h2=>by omega⟩
 case round=>
  obtain⟨j,z,hj,hz,rfl,HM⟩:=hrel
  rename World=>wr
  cases j with
  | zero=>
   have hz2:¬0≤z:=by omega
   go_wp2_with fail
   go_end0
   exact⟨rfl,HM.out⟩
  | succ i=>
   obtain rfl:z=(i:Int):=by omega
   clear hz;have hz2:(0:Int)≤(i:Int):=by omega
   obtain⟨m',hS1,hA⟩:=HM.out
   obtain⟨s1,s2,zi,za,av,am,ac,k0,k1,k2,k3,k4,k5,k6,k7,_⟩:=(HB.out.later hS1.bel).it i (by have:=HN.out;omega)
   have z0:=hS1.c0;have hii:(i:Int) < (n:Int):=by omega
   have hii2:(i:Int) < 64:=by omega
   have HS1:Hid _:=hS1;have HA:Hid _:=hA;clear k0 k1 k3 k4 k5 k6 k7 hS1 hA HM;have hS0:∃m9,Sd w0 b (.slice (some ⟨xb,xo,none⟩) n icap) (.slice (some ⟨fb,fo,none⟩) n lcap) m9 wr.drew:=⟨m',HS1.out.later (Below.refl _ _).drew⟩
   have hCUR:Sd w0 b (.slice (some ⟨xb,xo,none⟩) n icap) (.slice (some ⟨fb,fo,none⟩) n lcap) m' wr.drew:=HS1.out.later (Below.refl _ _).drew;cases hsub:p.sub i with
   | true=>
    rw[hsub] at k2
    have HGI:Hid (Calls Tryz.prog g #[.pointer (some ⟨b,0,none⟩),.int .i64 (i:Int)] wr.drew fun e w'=>e= .returned (.bool (T i))∧Sd w0 b (.slice (some ⟨xb,xo,none⟩) n icap) (.slice (some ⟨fb,fo,none⟩) n lcap) m' w'):=Calls.mono (HG.out _ _ i hCUR HA.out (by omega) hsub) (by rintro e w2 ⟨rfl,hb⟩;exact⟨rfl,hCUR.later hb⟩);clear hsub
    go_wp2_with fail
    refine region_thenQ [(27,.pointer (some ⟨b,o,none⟩)),(28,.int .i64 i),(29,.func (Fn.func g) #[.pointer (some ⟨b,0,none⟩)] #[]),(30,.int .i64 i),(31,.bool (T i)),(32,.pointer (some ⟨b,o,none⟩)),(33,.pointer (some ⟨b,o+i,none⟩))] (fun w'=>Sd w0 b (.slice (some ⟨xb,xo,none⟩) n icap) (.slice (some ⟨fb,fo,none⟩) n lcap) (put2 m' k i (T i)) w') ?_ ?_
    ·refine wp_region_held (S:=fun w'=>∃m9,Sd w0 b (.slice (some ⟨xb,xo,none⟩) n icap) (.slice (some ⟨fb,fo,none⟩) n lcap) m9 w') (by kernel_rfl) ?_;simp only[List.size_toArray,List.length_cons,List.length_nil,Nat.reduceAdd,Array.replicate_succ,Array.replicate_zero,List.push_toArray,List.nil_append,List.cons_append];refine tK 0 27 (.pointer (some ⟨b,o,none⟩)) 7 rfl hS0 ?_;refine tK 1 28 (.int .i64 i) 6 rfl hS0 ?_;refine tK 2 29 (.func (Fn.func g) #[.pointer (some ⟨b,0,none⟩)] #[]) 5 rfl hS0 ?_;refine tK 3 30 (.int .i64 i) 4 rfl hS0 ?_;refine tG 5 32 (.pointer (some ⟨b,o,none⟩)) 3 rfl hS0 ?_;refine oneW (R:=fun w'=>Sd w0 b (.slice (some ⟨xb,xo,none⟩) n icap) (.slice (some ⟨fb,fo,none⟩) n lcap) m' w') (i:=4) (d:=31) (f:=g) (args:= #[.pointer (some ⟨b,0,none⟩),.int .i64 i]) (v:= .bool (T i)) (fuel:=2) rfl rfl (by kernel_rfl) (by kernel_rfl) (fun wx=>by have h9:=hcg i wx;go_simp) (HGI.out) (fun w' h=>⟨_,h⟩) (fun wz hR4=>?_);simp only[List.setIfInBounds_toArray,List.set_cons_succ,List.set_cons_zero];refine tG 6 33 (.pointer (some ⟨b,o+i,none⟩)) 1 rfl (⟨_,hR4⟩) ?_;refine wpAnyH_all (fuel:=0) (rs:=[7]) (by kernel_rfl) (by decide) (List.forall_mem_singleton.2 ?_);have hP:=hR4.put (o:=o+i) (T i) HK.out (show i < 64 by omega) (by have:=HO.out;omega);have c9:wz.cell? ⟨b,o+i,none⟩=some (.bool (m' k i)):=by rw[HO.out];exact hR4.mark HK.out (by omega)
     have f9:=Dg.froz_row hR4.sb (o+i);refine wpOp_skip (i:=7) (w':=wz.setCell ⟨b,o+i,none⟩ (.bool (T i))) rfl rfl (by kernel_rfl) (by go_simp) ⟨⟨_,hP⟩,?_⟩;refine wpAnyH_done (by kernel_rfl) ?_ _;exact⟨rfl,by kernel_rfl,hP⟩
    ·intro w9 hF;simp only[setAll,List.setIfInBounds_toArray,List.set_cons_succ,List.set_cons_zero,Exit.inBlock,Exit.then];have HF9:Hid _:=hF;clear hF
     go_wp2_with fail
     go_roundw
     case rel=>exact⟨i,(i:Int) - 1,by omega,rfl,by go_num,_,HF9.out,HA.out.put⟩
     case measure=>simp[intOf] <;> omega
   | false=>
    rw[hsub] at k2
    have HHI:Hid (Calls Tryz.prog h #[FaV (f i)] wr.drew fun e w'=>e= .returned (.bool (T i))∧Sd w0 b (.slice (some ⟨xb,xo,none⟩) n icap) (.slice (some ⟨fb,fo,none⟩) n lcap) m' w'):=Calls.mono (HH.out _ i (by omega) hsub) (by rintro e w2 ⟨rfl,hb⟩;exact⟨rfl,hCUR.later hb⟩);have HFC:Hid (∀W,Below w0.heap.size w0 W→W.cell? ⟨fb,fo+i * 4,none⟩=some (.int .i64 (f i).run)∧W.cell? ⟨fb,fo+i * 4+1,none⟩=some (.int .i64 (f i).tries)∧W.cell? ⟨fb,fo+i * 4+2,none⟩=some (.int .i64 (f i).slips)∧W.cell? ⟨fb,fo+i * 4+3,none⟩=some (.bool (f i).un)):=fun W hb=>(HB.out.later hb).fa i (by have:=HN.out;omega)
    have HF:Hid (FaV (f i)= .agg #[.int .i64 (f i).run,.int .i64 (f i).tries,.int .i64 (f i).slips,.bool (f i).un]):=rfl;clear hsub
    go_wp2_with fail
    refine region_thenQ [(34,.pointer (some ⟨b,o,none⟩)),(35,.int .i64 i),(36,.func (Fn.func h) #[] #[]),(37,.pointer (some ⟨b,0,none⟩)),(38,.pointer (some ⟨b,0,none⟩)),(39,.pointer (some ⟨b,1,none⟩)),(40,.slice (some ⟨fb,fo,none⟩) n lcap),(41,.int .i64 i),(42,.pointer (some ⟨fb,fo+i * 4,none⟩)),(43,FaV (f i)),(44,.bool (T i)),(45,.pointer (some ⟨b,o,none⟩)),(46,.pointer (some ⟨b,o+i,none⟩))] (fun w'=>Sd w0 b (.slice (some ⟨xb,xo,none⟩) n icap) (.slice (some ⟨fb,fo,none⟩) n lcap) (put2 m' k i (T i)) w') ?_ ?_
    ·refine wp_region_held (S:=fun w'=>∃m9,Sd w0 b (.slice (some ⟨xb,xo,none⟩) n icap) (.slice (some ⟨fb,fo,none⟩) n lcap) m9 w') (by kernel_rfl) ?_;simp only[List.size_toArray,List.length_cons,List.length_nil,Nat.reduceAdd,Array.replicate_succ,Array.replicate_zero,List.push_toArray,List.nil_append,List.cons_append];refine tK 0 34 (.pointer (some ⟨b,o,none⟩)) 13 rfl hS0 ?_;refine tK 1 35 (.int .i64 i) 12 rfl hS0 ?_;refine tK 2 36 (.func (Fn.func h) #[] #[]) 11 rfl hS0 ?_;refine tK 3 37 (.pointer (some ⟨b,0,none⟩)) 10 rfl hS0 ?_;refine tG 4 38 (.pointer (some ⟨b,0,none⟩)) 9 rfl hS0 ?_;refine tG 5 39 (.pointer (some ⟨b,1,none⟩)) 8 rfl hS0 ?_;refine tV 6 40 (.slice (some ⟨fb,fo,none⟩) n lcap) 7 rfl hS0 ?_ (fun wx h=>by obtain⟨m9,h9⟩:=h;have z1:=h9.c1;go_simp);refine tK 7 41 (.int .i64 i) 6 rfl hS0 ?_;refine tG 8 42 (.pointer (some ⟨fb,fo+i * 4,none⟩)) 5 rfl hS0 ?_;refine tV 9 43 (FaV (f i)) 4 rfl hS0 ?_ (fun wx h=>by rw[HF.out];obtain⟨m9,h9⟩:=h;obtain⟨y0,y1,y2,y3⟩:=HFC.out wx h9.bel;go_simp);refine tG 11 45 (.pointer (some ⟨b,o,none⟩)) 3 rfl hS0 ?_;refine oneW (R:=fun w'=>Sd w0 b (.slice (some ⟨xb,xo,none⟩) n icap) (.slice (some ⟨fb,fo,none⟩) n lcap) m' w') (i:=10) (d:=44) (f:=h) (args:= #[FaV (f i)]) (v:= .bool (T i)) (fuel:=2) rfl rfl (by kernel_rfl) (by kernel_rfl) (fun wx=>by have h9:=hch (f i) wx;go_simp) (HHI.out) (fun w' h=>⟨_,h⟩) (fun wz hR10=>?_);simp only[List.setIfInBounds_toArray,List.set_cons_succ,List.set_cons_zero];refine tG 12 46 (.pointer (some ⟨b,o+i,none⟩)) 1 rfl (⟨_,hR10⟩) ?_;refine wpAnyH_all (fuel:=0) (rs:=[13]) (by kernel_rfl) (by decide) (List.forall_mem_singleton.2 ?_);have hP:=hR10.put (o:=o+i) (T i) HK.out (show i < 64 by omega) (by have:=HO.out;omega);have c9:wz.cell? ⟨b,o+i,none⟩=some (.bool (m' k i)):=by rw[HO.out];exact hR10.mark HK.out (by omega)
     have f9:=Dg.froz_row hR10.sb (o+i);refine wpOp_skip (i:=13) (w':=wz.setCell ⟨b,o+i,none⟩ (.bool (T i))) rfl rfl (by kernel_rfl) (by go_simp) ⟨⟨_,hP⟩,?_⟩;refine wpAnyH_done (by kernel_rfl) ?_ _;exact⟨rfl,by kernel_rfl,hP⟩
    ·intro w9 hF;simp only[setAll,List.setIfInBounds_toArray,List.set_cons_succ,List.set_cons_zero,Exit.inBlock,Exit.then];have HF9:Hid _:=hF;clear hF
     go_wp2_with fail
     go_roundw
     case rel=>exact⟨i,(i:Int) - 1,by omega,rfl,by go_num,_,HF9.out,HA.out.put⟩
     case measure=>simp[intOf] <;> omega
end Go.Proofs.YtieoppabellafaaGreatDoor.Sa
namespace Go.Proofs.YtieoppabellafaaGreatDoor.Sa
open Fc St
theorem clears_allK {p:Pl}{K:Nat→IW}{q:Nat→Bool}{s a:Nat}(h:∀j,s < j→j < p.n→q j=(K j).clean):allK p s a q=clears p K s a:=by
 unfold allK clears;rw[Bool.eq_iff_iff,List.all_eq_true,List.all_eq_true]
 refine forall_congr' fun i=>forall_congr' fun hi=>?_
 rw[List.mem_range] at hi
 by_cases hk:kid p s a i=true
 ·rw[hk,h i (of_decide_eq_true hk).1 hi]
 ·rw[show kid p s a i=false by simpa using hk]
  rfl
theorem falls_allK {p:Pl}{f:Nat→Fa}{K:Nat→IW}{m:Nat→Nat→Bool}{s a:Nat}(hv:∀j,j < p.n→p.sub j=false→p.vital j=false)(h:∀j,s < j→j < p.n→m 2 j=(K j).spent):(!allK p s a (okH p f m))=falls p f K s a:=by
 cases hF:falls p f K s a with
 | true=>
  unfold falls at hF;obtain⟨i,hi,hx⟩:=List.any_eq_true.1 hF
  rw[List.mem_range] at hi
  rw[Bool.and_eq_true] at hx
  have hk:=of_decide_eq_true hx.1;rw[allK_no hx.1 ?_]
  ·rfl
  ·unfold okH;rw[h i hk.1 hi]
   have:=hx.2;rw[Bool.or_eq_true] at this
   rcases this with h1 | h1
   ·rw[h1];rfl
   ·rw[Bool.and_eq_true,Bool.and_eq_true] at h1
    rw[h1.1.2,h1.2]
    simp
 | false=>
  unfold falls at hF;rw[allK_yes fun i h1 h2 hk=>?_]
  ·rfl
  ·have:=List.any_eq_false.1 hF i (List.mem_range.2 h2);rw[hk,Bool.true_and] at this
   unfold okH;rw[h i h1 h2]
   have h9:(decide ((f i).run=3) || p.sub i && p.vital i && (K i).spent)=false:=by simpa using this
   rw[Bool.or_eq_false_iff] at h9
   rw[h9.1]
   cases hsub:p.sub i with
   | true=>
    have:=h9.2;rw[hsub,Bool.true_and] at this
    rw[this]
    rfl
   | false=>
    rw[hv i h2 hsub]
    rfl
theorem whole_allK {p:Pl}{K:Nat→IW}{m:Nat→Nat→Bool}{s a:Nat}(hs:∀j,j < p.n→p.sub j=false→(K j).spent=false)(h2:∀j,s < j→j < p.n→m 2 j=(K j).spent)(h3:∀j,s < j→j < p.n→m 3 j=(K j).done):allK p s a (okD p m)=whole p K s a:=by
 unfold allK whole;rw[Bool.eq_iff_iff,List.all_eq_true,List.all_eq_true]
 refine forall_congr' fun i=>forall_congr' fun hi=>?_
 rw[List.mem_range] at hi
 by_cases hk:kid p s a i=true
 ·have hd:=of_decide_eq_true hk;unfold okD;rw[hk,h2 i hd.1 hi,h3 i hd.1 hi]
  cases hsub:p.sub i with
  | true=>simp
  | false=>simp[hs i hi hsub]
 ·rw[show kid p s a i=false by simpa using hk]
  rfl
theorem touched_allB {p:Pl}(hp:p.Ok){K:Nat→IW}{m:Nat→Nat→Bool}{s:Nat}(h:∀j,s < j→j < p.n→m 0 j=(K j).touched) :
  (!allB (p.alts s) fun a=>allK p s a fun i=> !m 0 i)=((List.range p.n).any fun i=>decide (s < i∧p.inn i=s) && (K i).touched):=by
 cases hF:((List.range p.n).any fun i=>decide (s < i∧p.inn i=s) && (K i).touched) with
 | true=>
  obtain⟨i,hi,hx⟩:=List.any_eq_true.1 hF
  rw[List.mem_range] at hi
  rw[Bool.and_eq_true] at hx
  have hk:=of_decide_eq_true hx.1;have h3:=(hp.inn i (by omega) hi).2.2;rw[hk.2] at h3
  have hkid:kid p s (p.alt i) i=true:=decide_eq_true ⟨hk.1,hi,hk.2,rfl⟩;rw[allB_no h3 (allK_no hkid (by rw[h i hk.1 hi,hx.2];rfl))]
  rfl
 | false=>
  rw[allB_yes fun a ha=>allK_yes fun i h1 h2 hk=>?_]
  ·rfl
  ·have:=List.any_eq_false.1 hF i (List.mem_range.2 h2);have hd:=of_decide_eq_true hk;rw[decide_eq_true ⟨hd.1,hd.2.2.1⟩,Bool.true_and] at this
   rw[h i h1 h2]
   simpa using this
theorem step_spent {p:Pl}{f:Nat→Fa}{j:Nat}(hj:j < p.n)(hs:p.sub j=false):(W p f j).spent=false:=by
 rw[W_eq hj,hs]
 rfl
theorem saga_touched {p:Pl}(hp:p.Ok){f:Nat→Fa}{m:Nat→Nat→Bool}{s:Nat}(hs:s < p.n)(hsub:p.sub s=true)(h:∀j,s < j→j < p.n→m 0 j=(W p f j).touched):(!allB (p.alts s) fun a=>allK p s a fun i=> !m 0 i)=(W p f s).touched:=by
 rw[W_eq hs,if_pos hsub]
 exact touched_allB hp h
theorem saga_clean {p:Pl}{f:Nat→Fa}{m:Nat→Nat→Bool}{s:Nat}(hs:s < p.n)(hsub:p.sub s=true)(h:∀j,s < j→j < p.n→m 1 j=(W p f j).clean):(allB (p.alts s) fun a=>allK p s a (m 1))=(W p f s).clean:=by
 rw[W_eq hs,if_pos hsub]
 show (List.range (p.alts s)).all _=(List.range (p.alts s)).all _
 congr 1
 funext a
 exact clears_allK h
theorem ovr_eq {p:Pl}{f:Nat→Fa}(hv:∀j,j < p.n→p.sub j=false→p.vital j=false){m:Nat→Nat→Bool}{s:Nat}(h1:∀j,s < j→j < p.n→m 1 j=(W p f j).clean)(h2:∀j,s < j→j < p.n→m 2 j=(W p f j).spent):(ovr p f m s)=fun a=>falls p f (W p f) s a && clears p (W p f) s a:=by
 funext a
 unfold ovr;rw[clears_allK h1,falls_allK hv h2,Bool.and_comm]
theorem saga_spent {p:Pl}{f:Nat→Fa}(hv:∀j,j < p.n→p.sub j=false→p.vital j=false){m:Nat→Nat→Bool}{s:Nat}(hs:s < p.n)(hsub:p.sub s=true)(h1:∀j,s < j→j < p.n→m 1 j=(W p f j).clean)(h2:∀j,s < j→j < p.n→m 2 j=(W p f j).spent):(allB (p.alts s) fun a=>allK p s a (m 1) && !allK p s a (okH p f m))=(W p f s).spent:=by
 rw[W_eq hs,if_pos hsub]
 have:=ovr_eq hv h1 h2;show (List.range (p.alts s)).all (ovr p f m s)=_;rw[this]
 rfl
theorem saga_at {p:Pl}{f:Nat→Fa}(hv:∀j,j < p.n→p.sub j=false→p.vital j=false){m:Nat→Nat→Bool}{s:Nat}(hs:s < p.n)(hsub:p.sub s=true)(h1:∀j,s < j→j < p.n→m 1 j=(W p f j).clean)(h2:∀j,s < j→j < p.n→m 2 j=(W p f j).spent):first (ovr p f m s) (p.alts s) (p.alts s) 0=(W p f s).at_:=by
 rw[W_eq hs,if_pos hsub,ovr_eq hv h1 h2]
 rfl
theorem saga_done {p:Pl}{f:Nat→Fa}(hv:∀j,j < p.n→p.sub j=false→p.vital j=false){m:Nat→Nat→Bool}{s:Nat}(hs:s < p.n)(hsub:p.sub s=true)(h1:∀j,s < j→j < p.n→m 1 j=(W p f j).clean)(h2:∀j,s≤j→j < p.n→m 2 j=(W p f j).spent)(h3:∀j,s < j→j < p.n→m 3 j=(W p f j).done) :
  (!m 2 s && allK p s (first (ovr p f m s) (p.alts s) (p.alts s) 0) (okD p m))=(W p f s).done:=by
 rw[saga_at hv hs hsub h1 fun j q1 q2=>h2 j (by omega) q2,h2 s (Nat.le_refl _) hs,whole_allK (fun j hj=>step_spent hj) (fun j q1 q2=>h2 j (by omega) q2) h3]
 rw[W_eq hs,if_pos hsub]
 rfl
end Go.Proofs.YtieoppabellafaaGreatDoor.Sa
namespace Go.Proofs.YtieoppabellafaaGreatDoor.Sa
open Go.RowKit Go.Shelf Fc St
variable {p:Pl}{f:Nat→Fa}{xb xo icap fb fo lcap:Nat}{w0:World}{b:Nat}{m:Nat→Nat→Bool}{w:World}{n:Nat}
theorem stepStatus_any (x:Fa)(hx:okF x)(w:World):Calls Tryz.prog 99 #[FaV x] w fun e w'=>e= .returned (.int .i64 (stepS x))∧Below w.heap.size w w':=by
 obtain⟨c0,c1,c2,c3⟩:=row_cells (Dg.row_new w x.cells.toArray 55)
 obtain⟨a1,a2,a3,a4,a5,a6,a7⟩:=hx
 obtain⟨E,HE⟩:∃E,Hid (E=stepS x):=⟨_,rfl⟩
 rw[←HE.out]
 have HD:Hid _:=stepDone_any x;have HF:Hid (FaV x= .agg #[.int .i64 x.run,.int .i64 x.tries,.int .i64 x.slips,.bool x.un]):=rfl;unfold FaV at *;unfold Fa.cells at c0 c1 c2 c3;have HB:Hid _:=bl1 w (.cells #[.int .i64 x.run,.int .i64 x.tries,.int .i64 x.slips,.bool x.un] 55);have hr:x.run=0∨x.run=1∨x.run=3∨x.run=2:=by omega
 rcases hr with h | h | h | h
 ·rw[h] at c0 c1 c2 c3 HB HF HD ⊢
  have HX:Hid (E=0):=by show _=_;rw[HE.out];simp[stepS,h]
  go_enter Tryz.func99,Tryz.ntmps99
  go_wp2_with fail
  go_ret
  exact⟨by rw[HX.out];rfl,HB.out⟩
 ·rw[h] at c0 c1 c2 c3 HB HF HD ⊢
  have HX:Hid (E=1):=by show _=_;rw[HE.out];simp[stepS,h]
  go_enter Tryz.func99,Tryz.ntmps99
  go_wp2_with fail
  go_ret
  exact⟨by rw[HX.out];rfl,HB.out⟩
 ·rw[h] at c0 c1 c2 c3 HB HF HD ⊢
  have HX:Hid (E=3):=by show _=_;rw[HE.out];simp[stepS,h]
  go_enter Tryz.func99,Tryz.ntmps99
  go_wp2_with fail
  go_ret
  exact⟨by rw[HX.out];rfl,HB.out⟩
 ·rw[h] at c0 c1 c2 c3 HB HF HD ⊢
  have HX:Hid (E=if decide (x.tries=0)=true then 2 else if x.un=true then 5 else 4):=by show _=_;rw[HE.out];simp[stepS,h]
  have HD2:Hid (∀w:World,Calls Tryz.prog 96 #[.agg #[.int .i64 2,.int .i64 x.tries,.int .i64 x.slips,.bool x.un]] w fun e w'=>e= .returned (.bool (decide (x.tries=0)))∧Below w.heap.size w w'):=fun w=>HD.out w
  generalize decide (x.tries=0)=q at *;generalize x.un=un at *;clear a1 a2 a3 a4 a5 a6 a7 HD HE HF
  go_enter Tryz.func99,Tryz.ntmps99
  go_wp2_with fail
  refine Calls.mono (HD2.out _) ?_;rintro e w2 ⟨rfl,hb2⟩;have HB2:Hid _:=HB.out.trans (hb2.mono HB.out.size);have d3:=Dg.cell_later hb2 c3;clear HD2 HB hb2 c0 c1 c2 c3;cases q with
  | true=>
   go_wp2_with fail
   go_ret
   exact⟨by rw[HX.out];rfl,HB2.out⟩
  | false=>
   cases un with
   | true=>
    go_wp2_with fail
    go_ret
    exact⟨by rw[HX.out];rfl,HB2.out⟩
   | false=>
    go_wp2_with fail
    go_ret
    exact⟨by rw[HX.out];rfl,HB2.out⟩
def iwM (m:Nat→Nat→Bool)(i:Nat):IW:=⟨m 1 i,m 2 i,m 3 i,m 0 i,0⟩
theorem sagaStatus_any {v lv:Value}(hS:Sd w0 b v lv m w){s:Nat}(hs:s < 64)(hl:Bool) :
  Calls Tryz.prog 101 #[.pointer (some ⟨b,0,none⟩),.int .i64 (s:Int),.bool hl] w fun e w'=>e= .returned (.int .i64 (sagaS (iwM m s) hl))∧Below w.heap.size w w':=by
 obtain⟨E,HE⟩:∃E,Hid (E=sagaS (iwM m s) hl):=⟨_,rfl⟩
 rw[←HE.out]
 have HX:Hid (E=if m 0 s=false then 0 else if m 3 s then 2 else if m 2 s then 3 else if hl=false then 1 else if m 1 s then 5 else 4):=HE.out;have c0:=hS.m0 hs;have c1:=hS.m1 hs;have c2:=hS.m2 hs;have c3:=hS.m3 hs;have hii:(s:Int) < 64:=by omega
 clear hS HE;generalize m 0 s=q0 at *;generalize m 1 s=q1 at *;generalize m 2 s=q2 at *;generalize m 3 s=q3 at *;cases q0 with
 | false=>
  go_enter Tryz.func101,Tryz.ntmps101
  go_wp2_with fail
  go_ret
  exact⟨by rw[HX.out];rfl,Below.refl _ _⟩
 | true=>
  cases q3 with
  | true=>
   go_enter Tryz.func101,Tryz.ntmps101
   go_wp2_with fail
   go_ret
   exact⟨by rw[HX.out];rfl,Below.refl _ _⟩
  | false=>
   cases q2 with
   | true=>
    go_enter Tryz.func101,Tryz.ntmps101
    go_wp2_with fail
    go_ret
    exact⟨by rw[HX.out];rfl,Below.refl _ _⟩
   | false=>
    cases hl with
    | false=>
     go_enter Tryz.func101,Tryz.ntmps101
     go_wp2_with fail
     go_ret
     exact⟨by rw[HX.out];rfl,Below.refl _ _⟩
    | true=>
     cases q1 with
     | true=>
      go_enter Tryz.func101,Tryz.ntmps101
      go_wp2_with fail
      go_ret
      exact⟨by rw[HX.out];rfl,Below.refl _ _⟩
     | false=>
      go_enter Tryz.func101,Tryz.ntmps101
      go_wp2_with fail
      go_ret
      exact⟨by rw[HX.out];rfl,Below.refl _ _⟩
theorem drawn_below {B:Nat}{w w':World}(h:Below B w w')(n:Nat):Below B w (w'.drewN n):=⟨h.os,h.tape,h.output,h.size,h.block⟩
def ItA (s1 s2:ByteArray)(sub vi:Bool)(al zi za:Int)(zv:Value):Value:= .agg #[.string s1,.string s2,.bool sub,.bool vi,.int .i64 al,.int .i64 zi,.int .i64 za,zv]
theorem around_any (c o i:Nat)(s1 s2:ByteArray)(sub vi:Bool)(al zi za:Int)(av:Option Addr)(am ac:Nat)(r:Bool)(hi:i < 64)
  (hM:1≤i→∃s a:Nat,zi=(s:Int)∧za=(a:Int)∧s < 64∧a < 4∧w.cell? ⟨c,o+s * 4+a,none⟩=some (.bool r)) :
  Calls Tryz.prog 102 #[.pointer (some ⟨c,o,none⟩),.int .i64 (i:Int),ItA s1 s2 sub vi al zi za (.slice av am ac)] w fun e w'=>e= .returned (.bool (decide (0 < i) && r))∧Below w.heap.size w w':=by
 have hb1:=bl1 w (.cells #[.string s1,.string s2,.bool sub,.bool vi,.int .i64 al,.int .i64 zi,.int .i64 za,.slice av am ac] 50);have r1:=Dg.row_new w #[.string s1,.string s2,.bool sub,.bool vi,.int .i64 al,.int .i64 zi,.int .i64 za,.slice av am ac] 50;have c5:=(Dg.cell_row r1 5).trans rfl;have c6:=(Dg.cell_row r1 6).trans rfl;have HB:Hid _:=hb1;unfold ItA
 by_cases h0:1≤i
 ·obtain⟨s,a,rfl,rfl,hs,ha,hc⟩:=hM h0
  have hc2:=Dg.cell_later hb1 hc;have h0':decide (0 < i)=true:=decide_eq_true h0;have hg:decide ((i:Int) > 0)=true:=decide_eq_true (by omega);have hs2:(s:Int) < 64:=by omega
  have ha2:(a:Int) < 4:=by omega
  rw[h0']
  clear hM hb1 r1 h0 hc
  go_enter Tryz.func102,Tryz.ntmps102
  go_wp2_with fail
  go_quiet (fail)
  go_wp2_with fail
  go_ret
  exact⟨rfl,drawn_below HB.out _⟩
 ·obtain rfl:i=0:=by omega
  have hg:decide ((0:Int) > 0)=false:=rfl;clear hM hb1 r1 h0
  go_enter Tryz.func102,Tryz.ntmps102
  go_wp2_with fail
  go_quiet (fail)
  go_wp2_with fail
  go_ret
  exact⟨rfl,drawn_below HB.out _⟩
end Go.Proofs.YtieoppabellafaaGreatDoor.Sa
