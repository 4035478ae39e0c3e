/- Texts of the seat, packed: Lm Ln Lo Ks Kt Kw. -/
import Derived.Test.YtieoppabellafaaGreatDoorH01
import Derived.Test.YtieoppabellafaaGreatDoorH16
import Derived.Test.YtieoppabellafaaGreatDoorH19
import Derived.Test.YtieoppabellafaaGreatDoorH17
import Derived.Lib.SliceRun
import Derived.Maps.AppendAt
set_option maxRecDepth 1000000
set_option maxHeartbeats 64000000
set_option linter.unusedVariables false
namespace Go.Proofs.YtieoppabellafaaGreatDoor.Sa
open Go.RowKit Go.Shelf Fc St
structure Bo where
 c:Nat
 S:Nat→Int
 A:Nat→Int
 M:Nat→Nat→Bool
 C:Nat→Bool
def RB (w:World)(v:Value):Option Bo→Prop
 | none=>v= .pointer none
 | some B=>∃d,v= .pointer (some ⟨d,0,none⟩)∧B.c≤64∧w.heap[d]? =some (.cells (brdL B.c B.S B.A B.M B.C).toArray 139 (0,0))
theorem RB.later {w w':World}{v:Value}{o:Option Bo}(h:RB w v o)(hb:Below w.heap.size w w'):RB w' v o:=by
 cases o with
 | none=>exact h
 | some B=>
  obtain⟨d,e,h1,h2⟩:=h
  exact⟨d,e,h1,(hb.block _ (jD.1 h2).1).trans h2⟩
def Bo.z:Bo:=⟨0,fun _=>0,fun _=>0,fun _ _=>false,fun _=>false⟩
def Bo.has (B:Bo)(i:Int):Bool:=decide (0≤i∧i < (B.c:Int))
def Bo.all (B:Bo):List Int:=(List.range B.c).map B.S
def Bo.ver (B:Bo):Int:=if B.c=0 then 0 else if B.S 0=0 then 1 else B.S 0
def Bo.at_ (B:Bo)(i:Int):Int:=if B.c=0 then 0 else if B.has i then B.A i.toNat else -1
def Bo.fal (B:Bo)(s a:Int):Bool:=B.has s && decide (0≤a∧a < 4) && B.M s.toNat a.toNat
def Bo.cle (B:Bo)(i:Int):Bool:=B.has i && B.C i.toNat
theorem made_any {w:World}{v:Value}{o:Option Bo}(h:RB w v o):Calls Tryz.prog 62 #[v] w fun e w'=>e= .returned (.bool (decide (0 < (o.getD Bo.z).c)))∧Below w.heap.size w w':=by
 cases o with
 | none=>
  obtain rfl:v= .pointer none:=h
  go_enter Tryz.func62,Tryz.ntmps62
  go_wp2_with fail
  go_ret
  exact⟨rfl,Below.refl _ _⟩
 | some B=>
  obtain⟨d,rfl,h1,h2⟩:=h
  have c0:=brd_cell0 h2;clear h2
  go_enter Tryz.func62,Tryz.ntmps62
  go_wp2_with fail
  go_ret
  exact⟨by simp,Below.refl _ _⟩
theorem has_any {w:World}{v:Value}{o:Option Bo}(h:RB w v o)(i:Int):Calls Tryz.prog 63 #[v,.int .i64 i] w fun e w'=>e= .returned (.bool ((o.getD Bo.z).has i))∧Below w.heap.size w w':=by
 cases o with
 | none=>
  obtain rfl:v= .pointer none:=h;have HX:Hid (Bo.z.has i=false):=by show _=_;unfold Bo.has;rw[decide_eq_false];rintro⟨h1,h2⟩;have:(Bo.z.c:Int)=0:=rfl;omega
  show Calls _ _ _ _ fun e w'=>e= .returned (.bool (Bo.z.has i))∧_
  rw[HX.out]
  go_enter Tryz.func63,Tryz.ntmps63
  go_wp2_with fail
  go_ret
  exact⟨rfl,Below.refl _ _⟩
 | some B=>
  obtain⟨d,rfl,h1,h2⟩:=h
  have c0:=brd_cell0 h2;clear h2;show Calls _ _ _ _ fun e w'=>e= .returned (.bool (B.has i))∧_
  obtain⟨E,HE⟩:∃E,Hid (E=B.has i):=⟨_,rfl⟩
  rw[←HE.out]
  have HX:Hid (E=decide (0≤i∧i < (B.c:Int))):=HE.out;generalize B.c=c at *;clear HE
  by_cases h0:0≤i
  ·have HX2:Hid (E=decide (i < (c:Int))):=by show _=_;rw[HX.out];simp[h0]
   go_enter Tryz.func63,Tryz.ntmps63
   go_wp2_with fail
   go_ret
   exact⟨by rw[HX2.out];rfl,Below.refl _ _⟩
  ·have HX2:Hid (E=false):=by show _=_;rw[HX.out];simp[h0]
   go_enter Tryz.func63,Tryz.ntmps63
   go_wp2_with fail
   go_ret
   exact⟨by rw[HX2.out];rfl,Below.refl _ _⟩
theorem bClean_any {w:World}{v:Value}{o:Option Bo}(h:RB w v o)(i:Int):Calls Tryz.prog 34 #[v,.int .i64 i] w fun e w'=>e= .returned (.bool ((o.getD Bo.z).cle i))∧Below w.heap.size w w':=by
 have HH:Hid _:=has_any h i;obtain⟨E,HE⟩:∃E,Hid (E=(o.getD Bo.z).cle i):=⟨_,rfl⟩
 rw[←HE.out]
 have HX:Hid (E=((o.getD Bo.z).has i && (o.getD Bo.z).C i.toNat)):=HE.out;clear HE;cases hq:(o.getD Bo.z).has i with
 | false=>
  rw[hq] at HH HX
  clear hq h
  go_enter Tryz.func34,Tryz.ntmps34
  go_wp2_with fail
  refine Calls.mono HH.out ?_;rintro e w2 ⟨rfl,hb2⟩;have HB2:Hid _:=hb2;clear HH hb2
  go_wp2_with fail
  go_ret
  exact⟨by rw[HX.out];rfl,HB2.out⟩
 | true=>
  rw[hq] at HH HX
  cases o with
  | none=>exact absurd hq (by show ¬Bo.z.has i=true;unfold Bo.has;rw[decide_eq_true_eq];rintro⟨h1,h2⟩;have:(Bo.z.c:Int)=0:=rfl;omega)
  | some B=>
   have hr:0≤i∧i < (B.c:Int):=of_decide_eq_true hq;obtain⟨d,rfl,h1,h2⟩:=h
   obtain⟨k,rfl⟩:∃k:Nat,i=(k:Int):=⟨i.toNat,by omega⟩
   have HC0:Hid _:=brd_cellC h2 (i:=k) (by omega);have HX2:Hid (E=B.C k):=HX.out;have hk:(k:Int) < 64:=by omega
   clear hq h2 hr HX;generalize B.C k=q at *
   go_enter Tryz.func34,Tryz.ntmps34
   go_wp2_with fail
   refine Calls.mono HH.out ?_;rintro e w2 ⟨rfl,hb2⟩;have HB2:Hid _:=hb2;have c9:=Dg.cell_later hb2 HC0.out;clear HH hb2
   go_wp2_with fail
   go_ret
   exact⟨by rw[HX2.out];rfl,HB2.out⟩
theorem bAt_any {w:World}{v:Value}{o:Option Bo}(h:RB w v o)(i:Int):Calls Tryz.prog 119 #[v,.int .i64 i] w fun e w'=>e= .returned (.int .i64 ((o.getD Bo.z).at_ i))∧Below w.heap.size w w':=by
 have HM:Hid _:=made_any h;have HH:Hid (∀w',Below w.heap.size w w'→_):=fun w' hb=>has_any (h.later hb) i
 obtain⟨E,HE⟩:∃E,Hid (E=(o.getD Bo.z).at_ i):=⟨_,rfl⟩
 rw[←HE.out]
 have HX:Hid (E=if (o.getD Bo.z).c=0 then 0 else if (o.getD Bo.z).has i then (o.getD Bo.z).A i.toNat else -1):=HE.out;clear HE
 by_cases hc:(o.getD Bo.z).c=0
 ·have HX2:Hid (E=0):=by show _=_;rw[HX.out,if_pos hc]
  have hd:decide (0 < (o.getD Bo.z).c)=false:=decide_eq_false (by omega);rw[hd] at HM
  clear hd hc HX HH h
  go_enter Tryz.func119,Tryz.ntmps119
  go_wp2_with fail
  refine Calls.mono HM.out ?_;rintro e w2 ⟨rfl,hb2⟩;have HB2:Hid _:=hb2;clear HM hb2
  go_wp2_with fail
  go_ret
  exact⟨by rw[HX2.out];rfl,HB2.out⟩
 ·have hd:decide (0 < (o.getD Bo.z).c)=true:=decide_eq_true (by omega);rw[hd] at HM
  have HX1:Hid (E=if (o.getD Bo.z).has i then (o.getD Bo.z).A i.toNat else -1):=by show _=_;rw[HX.out,if_neg hc]
  cases hq:(o.getD Bo.z).has i with
  | false=>
   have HX2:Hid (E= -1):=by show _=_;rw[HX1.out,hq];rfl
   rw[hq] at HH
   clear hd hc HX HX1 h hq
   go_enter Tryz.func119,Tryz.ntmps119
   go_wp2_with fail
   refine Calls.mono HM.out ?_;rintro e w2 ⟨rfl,hb2⟩;have HB2:Hid _:=hb2;have HH2:Hid _:=HH.out w2 hb2;clear HM hb2 HH
   go_wp2_with fail
   refine Calls.mono HH2.out ?_;rintro e w3 ⟨rfl,hb3⟩;have HB3:Hid _:=HB2.out.trans (hb3.mono HB2.out.size);clear HB2 hb3 HH2
   go_wp2_with fail
   go_ret
   exact⟨by rw[HX2.out];rfl,HB3.out⟩
  | true=>
   cases o with
   | none=>exact absurd rfl hc
   | some B=>
    have hr:0≤i∧i < (B.c:Int):=of_decide_eq_true hq;obtain⟨d,rfl,h1,h2⟩:=h
    obtain⟨k,rfl⟩:∃k:Nat,i=(k:Int):=⟨i.toNat,by omega⟩
    have HC0:Hid _:=brd_cellA h2 (i:=k) (by omega);have HX2:Hid (E=B.A k):=by show _=_;rw[HX1.out,hq];rfl
    rw[hq] at HH
    have hk:(k:Int) < 64:=by omega
    clear hq h2 hr HX HX1 hc hd;generalize B.A k=q at *
    go_enter Tryz.func119,Tryz.ntmps119
    go_wp2_with fail
    refine Calls.mono HM.out ?_;rintro e w2 ⟨rfl,hb2⟩;have HB2:Hid _:=hb2;have HH2:Hid _:=HH.out w2 hb2;clear HM hb2 HH
    go_wp2_with fail
    refine Calls.mono HH2.out ?_;rintro e w3 ⟨rfl,hb3⟩;have HB3:Hid _:=HB2.out.trans (hb3.mono HB2.out.size);have c9:=Dg.cell_later HB3.out HC0.out;clear HB2 hb3 HH2
    go_wp2_with fail
    go_ret
    exact⟨by rw[HX2.out];rfl,HB3.out⟩
theorem bVerdict_any {w:World}{v:Value}{o:Option Bo}(h:RB w v o):Calls Tryz.prog 33 #[v] w fun e w'=>e= .returned (.int .i64 (o.getD Bo.z).ver)∧Below w.heap.size w w':=by
 have HM:Hid _:=made_any h;obtain⟨E,HE⟩:∃E,Hid (E=(o.getD Bo.z).ver):=⟨_,rfl⟩
 rw[←HE.out]
 have HX:Hid (E=if (o.getD Bo.z).c=0 then 0 else if (o.getD Bo.z).S 0=0 then 1 else (o.getD Bo.z).S 0):=HE.out;clear HE
 by_cases hc:(o.getD Bo.z).c=0
 ·have HX2:Hid (E=0):=by show _=_;rw[HX.out,if_pos hc]
  have hd:decide (0 < (o.getD Bo.z).c)=false:=decide_eq_false (by omega);rw[hd] at HM
  clear hd hc HX h
  go_enter Tryz.func33,Tryz.ntmps33
  go_wp2_with fail
  refine Calls.mono HM.out ?_;rintro e w2 ⟨rfl,hb2⟩;have HB2:Hid _:=hb2;clear HM hb2
  go_wp2_with fail
  go_ret
  exact⟨by rw[HX2.out];rfl,HB2.out⟩
 ·have hd:decide (0 < (o.getD Bo.z).c)=true:=decide_eq_true (by omega);rw[hd] at HM
  cases o with
  | none=>exact absurd rfl hc
  | some B=>
   obtain⟨d,rfl,h1,h2⟩:=h
   have HC0:Hid (w.cell? ⟨d,1,none⟩=some (.int .i64 (B.S 0))):=brd_cellS h2 (i:=0) (by omega);have HX1:Hid (E=if B.S 0=0 then 1 else B.S 0):=by show _=_;rw[HX.out,if_neg hc];rfl
   clear h2 HX hc hd;generalize B.S 0=q at *
   by_cases h0:q=0
   ·subst h0;have HX2:Hid (E=1):=HX1.out;clear HX1
    go_enter Tryz.func33,Tryz.ntmps33
    go_wp2_with fail
    refine Calls.mono HM.out ?_;rintro e w2 ⟨rfl,hb2⟩;have HB2:Hid _:=hb2;have c9:=Dg.cell_later hb2 HC0.out;clear HM hb2
    go_wp2_with fail
    go_ret
    exact⟨by rw[HX2.out];rfl,HB2.out⟩
   ·have HX2:Hid (E=q):=by show _=_;rw[HX1.out,if_neg h0]
    have e1:(q==0)=false:=by simpa using h0
    clear HX1
    go_enter Tryz.func33,Tryz.ntmps33
    go_wp2_with fail
    refine Calls.mono HM.out ?_;rintro e w2 ⟨rfl,hb2⟩;have HB2:Hid _:=hb2;have c9:=Dg.cell_later hb2 HC0.out;clear HM hb2
    go_wp2_with fail
    go_ret
    exact⟨by rw[HX2.out];rfl,HB2.out⟩
theorem bFalling_any {w:World}{v:Value}{o:Option Bo}(h:RB w v o)(s a:Int):Calls Tryz.prog 84 #[v,.int .i64 s,.int .i64 a] w fun e w'=>e= .returned (.bool ((o.getD Bo.z).fal s a))∧Below w.heap.size w w':=by
 have HH:Hid _:=has_any h s;obtain⟨E,HE⟩:∃E,Hid (E=(o.getD Bo.z).fal s a):=⟨_,rfl⟩
 rw[←HE.out]
 have HX:Hid (E=((o.getD Bo.z).has s && decide (0≤a∧a < 4) && (o.getD Bo.z).M s.toNat a.toNat)):=HE.out;clear HE;cases hq:(o.getD Bo.z).has s with
 | false=>
  rw[hq] at HH HX
  have HX2:Hid (E=false):=HX.out;clear hq h HX
  go_enter Tryz.func84,Tryz.ntmps84
  go_wp2_with fail
  refine Calls.mono HH.out ?_;rintro e w2 ⟨rfl,hb2⟩;have HB2:Hid _:=hb2;clear HH hb2
  go_wp2_with fail
  go_ret
  exact⟨by rw[HX2.out];rfl,HB2.out⟩
 | true=>
  rw[hq] at HH HX
  cases o with
  | none=>exact absurd hq (by show ¬Bo.z.has s=true;unfold Bo.has;rw[decide_eq_true_eq];rintro⟨h1,h2⟩;have:(Bo.z.c:Int)=0:=rfl;omega)
  | some B=>
   have hr:0≤s∧s < (B.c:Int):=of_decide_eq_true hq;obtain⟨d,rfl,h1,h2⟩:=h
   obtain⟨k,rfl⟩:∃k:Nat,s=(k:Int):=⟨s.toNat,by omega⟩
   by_cases ha:0≤a
   ·by_cases h4:a < 4
    ·obtain⟨j,rfl⟩:∃j:Nat,a=(j:Int):=⟨a.toNat,by omega⟩
     have HC0:Hid _:=brd_cellM h2 (s:=k) (a:=j) (by omega) (by omega);have HX2:Hid (E=B.M k j):=by show _=_;rw[HX.out,decide_eq_true ⟨ha,h4⟩];rfl
     have hk:(k:Int) < 64:=by omega
     clear hq h2 hr HX;generalize B.M k j=q at *
     go_enter Tryz.func84,Tryz.ntmps84
     go_wp2_with fail
     refine Calls.mono HH.out ?_;rintro e w2 ⟨rfl,hb2⟩;have HB2:Hid _:=hb2;have c9:=Dg.cell_later hb2 HC0.out;clear HH hb2
     go_wp2_with fail
     go_ret
     exact⟨by rw[HX2.out];rfl,HB2.out⟩
    ·have HX2:Hid (E=false):=by show _=_;rw[HX.out,decide_eq_false (fun h=>h4 h.2)];rfl
     clear hq h2 hr HX
     go_enter Tryz.func84,Tryz.ntmps84
     go_wp2_with fail
     refine Calls.mono HH.out ?_;rintro e w2 ⟨rfl,hb2⟩;have HB2:Hid _:=hb2;clear HH hb2
     go_wp2_with fail
     go_ret
     exact⟨by rw[HX2.out];rfl,HB2.out⟩
   ·have HX2:Hid (E=false):=by show _=_;rw[HX.out,decide_eq_false (fun h=>ha h.1)];rfl
    clear hq h2 hr HX
    go_enter Tryz.func84,Tryz.ntmps84
    go_wp2_with fail
    refine Calls.mono HH.out ?_;rintro e w2 ⟨rfl,hb2⟩;have HB2:Hid _:=hb2;clear HH hb2
    go_wp2_with fail
    go_ret
    exact⟨by rw[HX2.out];rfl,HB2.out⟩
end Go.Proofs.YtieoppabellafaaGreatDoor.Sa
namespace Go.Proofs.YtieoppabellafaaGreatDoor.Sa
open Go.RowKit Go.Shelf Fc St Sx
def RS (w:World)(v:Value)(l:List Int):Prop:=∃a cap,v= .slice a l.length cap∧l.length≤cap∧∀(i:Nat) (z:Int),l[i]? =some z→∃b off,a=some ⟨b,off,none⟩∧w.cell? ⟨b,off+i,none⟩=some (.int .i64 z)
theorem RS.later {w w':World}{v:Value}{l:List Int}(h:RS w v l)(hb:Below w.heap.size w w'):RS w' v l:=by
 obtain⟨a,cap,hv,hc,hr⟩:=h
 refine⟨a,cap,hv,hc,fun i z hi=>?_⟩
 obtain⟨b,off,ha,c0⟩:=hr i z hi
 exact⟨b,off,ha,Dg.cell_later hb c0⟩
def rowS (l:List Int):List Value:=l.map (.int .i64 ·)
theorem rowS_len (l:List Int):(rowS l).length=l.length:=zG _
theorem rowS_one (l:List Int):∀u∈rowS l,u.oneCell'=true:=by
 intro u hu;obtain⟨z,_,rfl⟩:=zS.1 hu
 rfl
theorem rowS_get {l:List Int}{i:Nat}{z:Int}(h:l[i]? =some z):(rowS l)[i]? =some (.int .i64 z):=by
 unfold rowS;rw[zC,h]
 rfl
theorem info32:(Tryz.prog.info? 38).map (fun i=>(i.zero,i.size,i.bytes))=some (some (.int .i64 0),1,8):=by kernel_rfl
theorem cloneS_any (l:List Int)(w:World)(d off n cap:Nat)(hN:l.length=n)(h0:0 < n)(hn:n≤1000000)(hc:n≤cap)(hcap:cap≤1000000)(hl:∀(i:Nat) (z:Int),l[i]? =some z→w.cell? ⟨d,off+i,none⟩=some (.int .i64 z)) :
  Calls Tryz.prog 64 #[.slice (some ⟨d,off,none⟩) n cap] w fun e w'=>Below w.heap.size w w'∧∃a c,e= .returned (.slice a n c)∧RS w' (.slice a n c) l:=by
 obtain⟨i0,hi0,hz0,hz1,hz2⟩:=info_parts info32
 have HNews:Hid (∀j u,(rowS l)[j]? =some u→(w.alloc (.cells #[] 38)).cell? ((⟨d,off,none⟩:Addr).add j)=some u):=fun j u hu=>by
  have hj:j < l.length:=by rw[←rowS_len];exact (jH.1 hu).1
  obtain⟨z,hz⟩:∃z,l[j]? =some z:=⟨_,jF hj⟩
  rw[rowS_get hz] at hu
  cases hu;have h7:(⟨d,off,none⟩:Addr).add j=⟨d,off+j,none⟩:=by unfold Addr.add;split <;> simp_all
  rw[h7]
  exact Dg.cell_later (bl1 _ _) (hl j z hz)
 have HOwn:Hid ((w.alloc (.cells #[] 38)).ownsRow w.heap.size 38 1 (.slice (some ⟨w.heap.size,0,none⟩) 0 0) 0 []):=
  ⟨rfl,.inr ⟨w.heap.size,0,#[],rfl,jG _,Dg.row_new _ _ _,jG _,zE _,rfl,rfl⟩⟩
 have HLn:Hid ((rowS l).length=n * 1):=by show _=_;rw[rowS_len,hN,Nat.mul_one]
 have HOne:Hid (∀u∈rowS l,u.oneCell'=true):=rowS_one l;have HN:Hid _:=hN;clear hl hN;have hE:∀w,(binOp .eql 43 (.slice (some ⟨d,off,none⟩) n cap) (.slice none 0 0)).run Tryz.prog w= .ok (.bool false) w:=fun w=>Lib.run_eql_slice_nil w 43 38 (some ⟨d,off,none⟩) n cap 0 0 Tryz.underlying43
 go_enter Tryz.func64,Tryz.ntmps64
 go_wp2_with (at_builtin;refine wpList_append_own_at _ rfl _ _ 43 rfl w.heap.size 38 i0 _ 1 8 Tryz.underlying43 hi0 hz0 hz1 hz2 rfl (by decide) _ 0 [] rfl HOwn.out ⟨d,off,none⟩ n cap (rowS l) rfl HLn.out HNews.out HOne.out (by unfold maxLen;omega) (by omega) (by simp) ?_;intro v7 w7 ho7 hg7 _ hat7)
 have HB7:Hid (Below w.heap.size w w7):=Below.grown ((Below.refl _ _).alloc (jG _) _) hg7 (by simp) (fun k hk=>(HOwn.out.lt _ hk).1);have HF:Hid (w7.ownsRow w.heap.size 38 1 v7 n (rowS l)):=by
  have h:=ho7;rw[zD,jL] at h
  exact h
 clear ho7 hg7 hat7
 go_wp2_with fail
 go_ret
 have hl:=HF.out
 rcases HF.out.2 with ⟨_,h9⟩ | ⟨g,cap',cur,rfl,_,_,q1,q2,_⟩
 ·omega
 ·refine⟨HB7.out,_,cap',rfl,_,cap',by rw[HN.out],by rw[HN.out];exact q1,fun i z hz=>⟨g,0,rfl,?_⟩⟩
  have hi:i < l.length:=(jH.1 hz).1;have:=hl.cellAt i (by rw[HN.out] at hi;omega);rw[zD,this,rowS_get hz]
theorem slice47 (wx:World)(d c:Nat)(hc:c≤64):(Instr.sliceAt 131 (.pointer (some ⟨d,1,none⟩)) none (some (.int .i64 (c:Int))) none).run Tryz.prog wx= .ok (.slice (some ⟨d,1,none⟩) c 64) wx:=by
 have h1:(Instr.sliceBounds false 64 64 none (some (.int .i64 (c:Int))) none).run Tryz.prog wx= .ok (0,c,64) wx:=by
  unfold Instr.sliceBounds
  go_simp
  intro h;omega
 have hu:=run_underlying Tryz.underlying131 wx;have hs:(sizeOf 38).run Tryz.prog wx= .ok 1 wx:=by kernel_rfl
 unfold Instr.sliceAt;rw[Sem.run_bind,hu]
 simp only[Result.andThen_ok,Sem.run_bind,h1,hs,Instr.sureAddr,Sem.run_pure];rfl
theorem bAll_any {w:World}{v:Value}{o:Option Bo}(h:RB w v o):Calls Tryz.prog 35 #[v] w fun e w'=>Below w.heap.size w w'∧∃a c,e= .returned (.slice a (o.getD Bo.z).c c)∧RS w' (.slice a (o.getD Bo.z).c c) (o.getD Bo.z).all:=by
 have HM:Hid _:=made_any h
 by_cases hc:(o.getD Bo.z).c=0
 ·have hd:decide (0 < (o.getD Bo.z).c)=false:=decide_eq_false (by omega);rw[hd] at HM
  have HE:Hid (∀w',RS w' (.slice none (o.getD Bo.z).c 0) (o.getD Bo.z).all):=fun w'=>by
   have:(o.getD Bo.z).all=[]:=by unfold Bo.all;rw[hc];rfl
   rw[this,hc]
   exact⟨none,0,rfl,by simp,fun i z hz=>by cases hz⟩
  have HC:Hid _:=hc;clear hd hc h
  go_enter Tryz.func35,Tryz.ntmps35
  go_wp2_with fail
  refine Calls.mono HM.out ?_;rintro e w2 ⟨rfl,hb2⟩;have HB2:Hid _:=hb2;clear HM hb2
  go_wp2_with fail
  go_ret
  exact⟨HB2.out,none,0,by rw[HC.out];rfl,HE.out w2⟩
 ·have hd:decide (0 < (o.getD Bo.z).c)=true:=decide_eq_true (by omega);rw[hd] at HM
  cases o with
  | none=>exact absurd rfl hc
  | some B=>
   obtain⟨d,rfl,h1,h2⟩:=h
   show Calls _ _ _ _ fun e w'=>Below w.heap.size w w'∧∃a c,e= .returned (.slice a B.c c)∧RS w' (.slice a B.c c) B.all
   have hpos:0 < B.c:=by have:¬B.c=0:=hc;omega
   have HCL:Hid (∀wx,Below w.heap.size w wx→Calls Tryz.prog 64 #[.slice (some ⟨d,1,none⟩) B.c 64] wx fun e w'=>∃z:Option Addr × Nat,e= .returned (.slice z.1 B.c z.2)∧Below w.heap.size w w'∧RS w' (.slice z.1 B.c z.2) B.all):=fun wx hb=>by
    have hl:B.all.length=B.c:=by unfold Bo.all;rw[zG,List.length_range]
    refine Calls.mono (cloneS_any B.all wx d 1 B.c 64 hl hpos (by omega) h1 (by omega) (fun i z hz=>?_)) (by rintro e w' ⟨hb',a,c,rfl,hr⟩;exact⟨(a,c),rfl,hb.trans (hb'.mono hb.size),hr⟩);unfold Bo.all at hz;rw[zC] at hz
    have hi:i < B.c:=by
     apply Classical.byContradiction
     intro h9;rw[zM (by simp;omega)] at hz
     cases hz
    rw[List.getElem?_range hi] at hz
    cases hz;exact Dg.cell_later hb (brd_cellS h2 (by omega))
   have HC0:Hid _:=brd_cell0 h2;clear h2 hc hd;generalize B.all=L at *;generalize B.c=c at *
   go_enter Tryz.func35,Tryz.ntmps35
   go_wp2_with fail
   refine Calls.mono HM.out ?_;rintro e w2 ⟨rfl,hb2⟩;have HB2:Hid _:=hb2;clear HM hb2
   go_wp2_with fail
   have hCUR:Below w.heap.size w w2.drew:=HB2.out.trans ((Below.refl _ _).drew.mono HB2.out.size);have hS0:=hCUR;refine region_thenG (β:=Option Addr × Nat) (fun z=>[(6,.pointer (some ⟨d,0,none⟩)),(7,.pointer (some ⟨d,0,none⟩)),(8,.pointer (some ⟨d,1,none⟩)),(9,.pointer (some ⟨d,0,none⟩)),(10,.pointer (some ⟨d,0,none⟩)),(11,.pointer (some ⟨d,0,none⟩)),(12,.int .i64 (c:Int)),(13,.slice (some ⟨d,1,none⟩) c 64),(14,.slice z.1 c z.2),(2,.slice z.1 c z.2)]) (fun z w'=>Below w.heap.size w w'∧RS w' (.slice z.1 c z.2) L) ?_ ?_
   ·refine wp_region_held (S:=fun w'=>Below w.heap.size w w') (by kernel_rfl) ?_;simp only[jN,jM,jP,Nat.reduceAdd,jI,jJ,jO,jL,jK];refine tK 0 6 (.pointer (some ⟨d,0,none⟩)) 9 rfl hS0 ?_;refine tG 1 7 (.pointer (some ⟨d,0,none⟩)) 8 rfl hS0 ?_;refine tG 2 8 (.pointer (some ⟨d,1,none⟩)) 7 rfl hS0 ?_;refine tK 3 9 (.pointer (some ⟨d,0,none⟩)) 6 rfl hS0 ?_;refine tG 4 10 (.pointer (some ⟨d,0,none⟩)) 5 rfl hS0 ?_;refine tG 5 11 (.pointer (some ⟨d,0,none⟩)) 4 rfl hS0 ?_;refine tV 6 12 (.int .i64 (c:Int)) 3 rfl hS0 ?_ (fun wx h=>by have z0:=Dg.cell_later h HC0.out;go_simp);refine tV 7 13 (.slice (some ⟨d,1,none⟩) c 64) 2 rfl hS0 ?_ (fun wx h=>by have h9:=slice47 wx d c h1;go_simp);refine oneX (β:=Option Addr × Nat) (V:=fun z=> .slice z.1 c z.2) (R:=fun z w'=>Below w.heap.size w w'∧RS w' (.slice z.1 c z.2) L) (i:=8) (d:=14) (f:=64) (args:= #[.slice (some ⟨d,1,none⟩) c 64]) (fuel:=1) rfl rfl (by kernel_rfl) (by kernel_rfl) (fun _=>by kernel_rfl) (HCL.out _ hCUR) (fun z w' h=>h.1) (fun z wz hR8=>?_);simp only[jA,jB,jC];refine tK 9 2 (.slice z.1 c z.2) 0 rfl (hR8.1) ?_;refine wpAnyH_done (by kernel_rfl) ?_ _;exact⟨rfl,z,by kernel_rfl,hR8⟩
   ·rintro z w9 hF;simp only[setAll,jA,jB,jC];obtain⟨za,zc⟩:=z
    dsimp only at hF ⊢;have HF9:Hid _:=hF;clear hF
    go_wp2_with fail
    go_ret
    exact⟨HF9.out.1,_,_,rfl,HF9.out.2⟩
def fOf (l:List Fa):Nat→Fa:=fun i=>l.getD i Fa.z
theorem fOf_at {l:List Fa}{i:Nat}{x:Fa}(h:l[i]? =some x):fOf l i=x:=by
 unfold fOf;rw[jU,h]
 rfl
theorem bs_of {its:List It}{l:List Fa}{v lv:Value}{w:World}(hIt:RdIt w v its)(hl:RF w lv l)(hc:chkF its l=0) :
  ∃xb xo icap fb fo lcap,v= .slice (some ⟨xb,xo,none⟩) its.length icap∧lv= .slice (some ⟨fb,fo,none⟩) its.length lcap∧Bs (plOf its) (fOf l) xb xo icap fb fo lcap w:=by
 obtain⟨hsome,hok⟩:=chkF_iff.1 hc
 obtain⟨q,hq⟩:=Option.isSome_iff_exists.1 hsome
 obtain⟨hpos,h64⟩:=root_len hsome
 have hlen:l.length=its.length:=by have:=hok.1;unfold subs at this;rw[zG] at this;exact this
 obtain⟨ia,icap,rfl,hic,hir⟩:=hIt
 obtain⟨la,lcap,rfl,hlc,_,hlr⟩:=hl
 obtain⟨x0,hx0⟩:∃x,its[0]? =some x:=⟨_,jF (by omega)⟩
 obtain⟨f0,hf0⟩:∃x,l[0]? =some x:=⟨_,jF (by omega)⟩
 obtain⟨xb,xo,_,_,_,rfl,_⟩:=hir 0 x0 hx0
 obtain⟨fb,fo,rfl,_⟩:=hlr 0 f0 hf0
 obtain⟨⟨r,r0,r1,r2,r3,r4,r5⟩,hi⟩:=plan_items hq
 have hal:∀(i:Nat) (x:It),its[i]? =some x→(if x.sub then 1≤x.alts∧x.alts≤4 else x.alts=0∧x.vital=false):=fun i x hx=>by
  by_cases h0:i=0
  ·subst h0;rw[r0] at hx
   cases hx;rw[r1,if_pos rfl]
   exact⟨r4,r5⟩
  ·exact (hi i x hx (by omega)).2
 refine⟨xb,xo,icap,fb,fo,lcap,rfl,by rw[hlen],plan_ok hq,h64,hic,by show its.length≤lcap;omega,fun i hi'=>?_,fun i hi' hs=>?_,fun i hi'=>?_,fun i hi'=>?_,fun i hi'=>?_⟩
 ·obtain⟨x,hx⟩:∃x,its[i]? =some x:=⟨_,jF hi'⟩
  show (its.getD i It.z).alts.toNat≤4;rw[getD_it hx]
  have:=hal i x hx
  split at this <;> omega
 ·obtain⟨x,hx⟩:∃x,its[i]? =some x:=⟨_,jF hi'⟩
  have hs':(its.getD i It.z).sub=false:=hs;show (its.getD i It.z).alts.toNat=0∧(its.getD i It.z).vital=false;rw[getD_it hx] at hs' ⊢
  have:=hal i x hx;rw[hs',if_neg (by decide)] at this
  exact⟨by omega,this.2⟩
 ·have h9:i < l.length:=by rw[hlen];exact hi'
  exact (hok.2 i h9).1
 ·obtain⟨x,hx⟩:∃x,its[i]? =some x:=⟨_,jF hi'⟩
  obtain⟨b',o',av,am,ac,e',k0,k1,k2,k3,k4,k5,k6,k7,_⟩:=hir i x hx
  cases e';have ha:((its.getD i It.z).alts.toNat:Int)=x.alts:=by
   rw[getD_it hx]
   have:=hal i x hx
   split at this <;> omega
  have hs:(plOf its).sub i=x.sub:=by show (its.getD i It.z).sub=_;rw[getD_it hx]
  have hv:(plOf its).vital i=x.vital:=by show (its.getD i It.z).vital=_;rw[getD_it hx]
  refine⟨_,_,x.inn,x.alt,av,am,ac,k0,k1,by rw[hs];exact k2,by rw[hv];exact k3,?_,k5,k6,k7,fun h1=>?_⟩
  ·show w.cell? _=some (.int .i64 ((its.getD i It.z).alts.toNat:Int));rw[ha]
   exact k4
  ·obtain⟨⟨j,a,y,e1,e2,_⟩,_⟩:=hi i x hx h1
   refine⟨?_,?_⟩
   ·show x.inn=((its.getD i It.z).inn.toNat:Int);rw[getD_it hx,e1]
    rfl
   ·show x.alt=((its.getD i It.z).alt.toNat:Int);rw[getD_it hx,e2]
    rfl
 ·obtain⟨x,hx⟩:∃x,l[i]? =some x:=⟨_,jF (by rw[hlen];exact hi')⟩
  obtain⟨b',o',e',k0,k1,k2,k3⟩:=hlr i x hx
  cases e';rw[fOf_at hx]
  exact⟨k0,k1,k2,k3⟩
structure BoOf (p:Pl)(f:Nat→Fa)(B:Bo):Prop where
 c:B.c=p.n
 s:∀i,i < p.n→B.S i=St.S p f i
 a:∀i,i < p.n→B.A i=atP p f i
 m:B.M=Mf p f
 cl:∀i,i < p.n→B.C i=(W p f i).clean
def SeeO (its:List It)(l:List Fa)(o:Option Bo):Prop:=if chkF its l=0 then ∃B,o=some B∧BoOf (plOf its) (fOf l) B else o=none
structure PF (its:List It)(l:List Fa)(v lv:Value)(w:World):Prop where
 it:RdIt w v its
 fair:FairI its
 tab:Dg.Tab w
 fa:RF w lv l
 il:its.length≤1000000000
 ll:l.length≤1000000000
theorem PF.later {its:List It}{l:List Fa}{v lv:Value}{w w':World}(h:PF its l v lv w)(hb:Below w.heap.size w w'):PF its l v lv w':=
 ⟨h.it.later hb,h.fair,h.tab.later hb,h.fa.later hb,h.il,h.ll⟩
theorem see_any {its:List It}{l:List Fa}{v lv:Value}{w:World}(h:PF its l v lv w) :
  Calls Tryz.prog 32 #[.agg #[v],lv] w fun e w'=>Below w.heap.size w w'∧∃bv o,e= .returned (.tuple #[bv,.int .i64 (chkF its l)])∧RB w' bv o∧SeeO its l o:=by
 have hb1:=bl1 w (.cells #[v] 28);have r1:=Dg.row_new w #[v] 28;have h1:=h.later hb1;have HC:Hid _:=checkF_any its v lv l _ h1.it h1.fair h1.tab h1.fa h1.il h1.ll;have c0:=(Dg.cell_row r1 0).trans rfl;have HB1:Hid _:=hb1;have HR1:Hid _:=r1;have hc2:chkF its l=0∨chkF its l=2:=by unfold chkF;split <;> simp
 by_cases hc:chkF its l=0
 ·obtain⟨xb,xo,icap,fb,fo,lcap,rfl,rfl,hBs⟩:=bs_of h1.it h1.fa hc
  have HBO:Hid (∀wx,Below (w.alloc (.cells #[.slice (some ⟨xb,xo,none⟩) its.length icap] 28)).heap.size (w.alloc (.cells #[.slice (some ⟨xb,xo,none⟩) its.length icap] 28)) wx→Calls Tryz.prog 61 #[.agg #[.slice (some ⟨xb,xo,none⟩) its.length icap],.slice (some ⟨fb,fo,none⟩) its.length lcap] wx fun e w'=>∃d,e= .returned (.pointer (some ⟨d,0,none⟩))∧BdIs (plOf its) (fOf l) wx d w'):=fun wx hb=>boardOf_any (hBs.later hb) rfl
  have HN:Hid (its.length≤64):=hBs.le;rw[hc] at HC ⊢
  have HCC:Hid _:=hc;clear hBs h h1 hb1 r1 hc hc2
  go_enter Tryz.func32,Tryz.ntmps32
  go_wp2_with fail
  refine Calls.mono HC.out ?_;rintro e w2 ⟨rfl,hb2⟩;have HB2:Hid _:=HB1.out.trans (hb2.mono HB1.out.size);have HBO2:Hid _:=HBO.out w2 hb2;have c2:=Dg.cell_later hb2 c0;clear HC hb2 c0 HBO HB1
  go_wp2_with fail
  refine Calls.mono HBO2.out ?_;rintro e w3 ⟨d,rfl,hbd⟩;have HB3:Hid _:=HB2.out.trans (hbd.bel.mono HB2.out.size);have HBD:Hid _:=hbd;clear HBO2 hbd c2
  go_wp2_with fail
  go_ret2
  obtain⟨S,A,C,q1,q2,q3⟩:=HBD.out.ex
  refine⟨HB3.out,_,some ⟨its.length,S,A,Mf (plOf its) (fOf l),C⟩,rfl,⟨d,rfl,HN.out,q1⟩,?_⟩
  unfold SeeO;rw[if_pos HCC.out]
  exact⟨_,rfl,rfl,q2.s,q2.a,rfl,q3⟩
 ·have hc9:chkF its l=2:=by omega
  have HCC:Hid _:=hc;rw[hc9] at HC ⊢
  clear h h1 hb1 r1 hc hc2 hc9
  go_enter Tryz.func32,Tryz.ntmps32
  go_wp2_with fail
  refine Calls.mono HC.out ?_;rintro e w2 ⟨rfl,hb2⟩;have HB2:Hid _:=HB1.out.trans (hb2.mono HB1.out.size);clear HC hb2 c0 HB1
  go_wp2_with fail
  go_ret2
  refine⟨HB2.out,_,none,rfl,rfl,?_⟩
  unfold SeeO;rw[if_neg HCC.out]
noncomputable def allS (its:List It)(l:List Fa):List Int:=if chkF its l=0 then (List.range its.length).map (St.S (plOf its) (fOf l)) else []
noncomputable def verS (its:List It)(l:List Fa):Int:=if chkF its l=0 then (if St.S (plOf its) (fOf l) 0=0 then 1 else St.S (plOf its) (fOf l) 0) else 0
noncomputable def atS (its:List It)(l:List Fa)(i:Int):Int:=if chkF its l=0 then (if 0≤i∧i < (its.length:Int) then atP (plOf its) (fOf l) i.toNat else -1) else 0
noncomputable def falS (its:List It)(l:List Fa)(s a:Int):Bool:=if chkF its l=0 then decide (0≤s∧s < (its.length:Int)) && decide (0≤a∧a < 4) && Mf (plOf its) (fOf l) s.toNat a.toNat else false
noncomputable def cleS (its:List It)(l:List Fa)(i:Int):Bool:=if chkF its l=0 then decide (0≤i∧i < (its.length:Int)) && (W (plOf its) (fOf l) i.toNat).clean else false
theorem seeO_cases {its:List It}{l:List Fa}{o:Option Bo}(h:SeeO its l o):(chkF its l=0∧∃B,o=some B∧BoOf (plOf its) (fOf l) B∧1≤its.length)∨(¬chkF its l=0∧o=none):=by
 unfold SeeO at h
 by_cases hc:chkF its l=0
 ·rw[if_pos hc] at h
  obtain⟨B,h1,h2⟩:=h
  exact .inl ⟨hc,B,h1,h2,(root_len (chkF_iff.1 hc).1).1⟩
 ·rw[if_neg hc] at h
  exact .inr ⟨hc,h⟩
theorem see_all {its:List It}{l:List Fa}{o:Option Bo}(h:SeeO its l o):(o.getD Bo.z).all=allS its l:=by
 unfold allS
 rcases seeO_cases h with ⟨hc,B,rfl,hB,hp⟩ | ⟨hc,rfl⟩
 ·rw[if_pos hc]
  show (List.range B.c).map B.S=_;have:B.c=its.length:=hB.c;rw[this]
  refine List.map_congr_left fun i hi=>?_
  exact hB.s i (zB.1 hi)
 ·rw[if_neg hc]
  rfl
theorem see_ver {its:List It}{l:List Fa}{o:Option Bo}(h:SeeO its l o):(o.getD Bo.z).ver=verS its l:=by
 unfold verS
 rcases seeO_cases h with ⟨hc,B,rfl,hB,hp⟩ | ⟨hc,rfl⟩
 ·rw[if_pos hc]
  show B.ver=_;unfold Bo.ver;have:B.c=its.length:=hB.c;rw[if_neg (by omega),hB.s 0 (by show 0 < its.length;omega)]
 ·rw[if_neg hc]
  rfl
theorem see_at {its:List It}{l:List Fa}{o:Option Bo}(h:SeeO its l o)(i:Int):(o.getD Bo.z).at_ i=atS its l i:=by
 unfold atS
 rcases seeO_cases h with ⟨hc,B,rfl,hB,hp⟩ | ⟨hc,rfl⟩
 ·rw[if_pos hc]
  show B.at_ i=_;unfold Bo.at_ Bo.has;have hcc:B.c=its.length:=hB.c;rw[if_neg (by omega),hcc]
  by_cases hi:0≤i∧i < (its.length:Int)
  ·rw[if_pos hi,decide_eq_true hi,if_pos rfl]
   exact hB.a i.toNat (by show i.toNat < its.length;omega)
  ·rw[if_neg hi,decide_eq_false hi,if_neg (by decide)]
 ·rw[if_neg hc]
  rfl
theorem see_fal {its:List It}{l:List Fa}{o:Option Bo}(h:SeeO its l o)(s a:Int):(o.getD Bo.z).fal s a=falS its l s a:=by
 unfold falS
 rcases seeO_cases h with ⟨hc,B,rfl,hB,hp⟩ | ⟨hc,rfl⟩
 ·rw[if_pos hc]
  show B.fal s a=_;unfold Bo.fal Bo.has;have hcc:B.c=its.length:=hB.c;rw[hcc,hB.m]
 ·rw[if_neg hc]
  show Bo.z.fal s a=_;unfold Bo.fal;show (_ && false)=false;rw[Bool.and_false]
theorem see_cle {its:List It}{l:List Fa}{o:Option Bo}(h:SeeO its l o)(i:Int):(o.getD Bo.z).cle i=cleS its l i:=by
 unfold cleS
 rcases seeO_cases h with ⟨hc,B,rfl,hB,hp⟩ | ⟨hc,rfl⟩
 ·rw[if_pos hc]
  show B.cle i=_;unfold Bo.cle Bo.has;have hcc:B.c=its.length:=hB.c;rw[hcc]
  by_cases hi:0≤i∧i < (its.length:Int)
  ·rw[hB.cl i.toNat (by show i.toNat < its.length;omega)]
  ·rw[decide_eq_false hi]
   rfl
 ·rw[if_neg hc]
  show Bo.z.cle i=_;unfold Bo.cle;show (_ && false)=false;rw[Bool.and_false]
theorem Verdict_any {its:List It}{l:List Fa}{v lv:Value}{w:World}(h:PF its l v lv w) :
  Calls Tryz.prog 11 #[.agg #[v],lv] w fun e w'=>e= .returned (.int .i64 (verS its l))∧Below w.heap.size w w':=by
 have hb1:=bl1 w (.cells #[v] 28);have HSE:Hid _:=see_any (h.later hb1);have c0:=(Dg.cell_row (Dg.row_new w #[v] 28) 0).trans rfl;have HB1:Hid _:=hb1;clear h hb1
 go_enter Tryz.func11,Tryz.ntmps11
 go_wp2_with fail
 refine Calls.mono HSE.out ?_;rintro e w2 ⟨hb2,bv,o,rfl,hrb,hso⟩;have HB2:Hid _:=HB1.out.trans (hb2.mono HB1.out.size);have HA:Hid _:=bVerdict_any hrb;rw[see_ver hso] at HA
 clear HSE hb2 c0 hrb hso HB1
 go_wp2_with fail
 refine Calls.mono HA.out ?_;rintro e w3 ⟨rfl,hb3⟩;have HB3:Hid _:=HB2.out.trans (hb3.mono HB2.out.size);clear HA hb3 HB2
 go_wp2_with fail
 go_ret
 exact⟨rfl,HB3.out⟩
end Go.Proofs.YtieoppabellafaaGreatDoor.Sa
namespace Go.Proofs.YtieoppabellafaaGreatDoor.St
open Fc
def Kid (p:Pl)(s a i:Nat):Prop:=s < i∧i < p.n∧p.inn i=s∧p.alt i=a
theorem kid_iff {p:Pl}{s a i:Nat} :kid p s a i=true↔Kid p s a i:=by unfold kid Kid;rw[decide_eq_true_eq]
theorem kid_no {p:Pl}{s a i:Nat}(h:¬Kid p s a i):kid p s a i=false:=by
 cases hk:kid p s a i with
 | false=>rfl
 | true=>exact absurd (kid_iff.1 hk) h
section
variable (p:Pl)(f:Nat→Fa)
def Cl (i:Nat):Prop:=(W p f i).clean=true
def Sp (i:Nat):Prop:=(W p f i).spent=true
def Dn (i:Nat):Prop:=(W p f i).done=true
def To (i:Nat):Prop:=(W p f i).touched=true
def At (i:Nat):Nat:=(W p f i).at_
def Ps (i:Nat):Prop:=Dn p f i∨(p.sub i=true∧p.vital i=false∧Sp p f i)
def Fl (s a:Nat):Prop:=F p f s a=true
def Ha (i:Nat):Prop:=halted p f i=true
def FF (s a:Nat):Prop:=Fl p f s a∨Ha p f s
end
variable {p:Pl}{f:Nat→Fa}
theorem fl_iff {s a:Nat} :Fl p f s a↔∃i,Kid p s a i∧((f i).run=3∨(p.sub i=true∧p.vital i=true∧Sp p f i)):=by
 unfold Fl F falls;rw[List.any_eq_true]
 constructor
 ·rintro⟨i,hi,h⟩
  rw[jT,Bool.or_eq_true,jT,jT,decide_eq_true_eq,kid_iff] at h
  exact⟨i,h.1,by rcases h.2 with h | ⟨⟨h1,h2⟩,h3⟩;exact .inl h;exact .inr ⟨h1,h2,h3⟩⟩
 ·rintro⟨i,hk,h⟩
  refine⟨i,zB.2 hk.2.1,?_⟩
  rw[jT,Bool.or_eq_true,jT,jT,decide_eq_true_eq,kid_iff]
  exact⟨hk,by rcases h with h | ⟨h1,h2,h3⟩;exact .inl h;exact .inr ⟨⟨h1,h2⟩,h3⟩⟩
theorem clears_iff {K:Nat→IW}{s a:Nat} :clears p K s a=true↔∀i,Kid p s a i→(K i).clean=true:=by
 unfold clears;rw[zF]
 constructor
 ·intro h i hk;have:=h i (zB.2 hk.2.1);rw[kid_iff.2 hk] at this
  simpa using this
 ·intro h i hi
  by_cases hk:Kid p s a i
  ·rw[h i hk];simp
  ·rw[kid_no hk];rfl
theorem whole_iff {K:Nat→IW}{s a:Nat} :whole p K s a=true↔∀i,Kid p s a i→((K i).done=true∨(p.sub i=true∧p.vital i=false∧(K i).spent=true)):=by
 unfold whole;rw[zF]
 constructor
 ·intro h i hk;have:=h i (zB.2 hk.2.1);rw[kid_iff.2 hk] at this
  simp only[Bool.not_true,Bool.false_or,Bool.or_eq_true,jT,Bool.not_eq_true'] at this
  rcases this with h | ⟨⟨h1,h2⟩,h3⟩
  ·exact .inl h
  ·exact .inr ⟨h1,h2,h3⟩
 ·intro h i hi
  by_cases hk:Kid p s a i
  ·rcases h i hk with h | ⟨h1,h2,h3⟩
   ·rw[h];simp
   ·rw[h1,h2,h3];simp
  ·rw[kid_no hk];rfl
def Cs (p:Pl)(f:Nat→Fa)(s a:Nat):Prop:=∀i,Kid p s a i→Cl p f i
theorem cl_saga (hp:p.Ok){s:Nat}(hs:s < p.n)(hsub:p.sub s=true):Cl p f s↔∀a,a < p.alts s→Cs p f s a:=by
 unfold Cl;rw[W_eq hs,if_pos hsub]
 show (List.all _ _=true)↔_;rw[zF]
 constructor
 ·intro h a ha;exact clears_iff.1 (h a (zB.2 ha))
 ·intro h a ha;exact clears_iff.2 (h a (zB.1 ha))
theorem sp_saga {s:Nat}(hs:s < p.n)(hsub:p.sub s=true):Sp p f s↔∀a,a < p.alts s→Fl p f s a∧Cs p f s a:=by
 unfold Sp;rw[W_eq hs,if_pos hsub]
 show (List.all _ _=true)↔_;rw[zF]
 constructor
 ·intro h a ha;have:=h a (zB.2 ha);rw[jT] at this
  exact⟨this.1,clears_iff.1 this.2⟩
 ·intro h a ha;obtain⟨h1,h2⟩:=h a (zB.1 ha)
  rw[jT]
  exact⟨h1,clears_iff.2 h2⟩
theorem sp_step {s:Nat}(hs:s < p.n)(hsub:p.sub s=false):¬Sp p f s:=by
 unfold Sp;rw[W_eq hs,if_neg (by rw[hsub];decide)]
 simp[stepW]
theorem dn_saga {s:Nat}(hs:s < p.n)(hsub:p.sub s=true):Dn p f s↔¬Sp p f s∧∀i,Kid p s (At p f s) i→Ps p f i:=by
 unfold Dn Sp At
 conv=>lhs;rw[W_eq hs,if_pos hsub]
 conv=>rhs;rw[show W p f s=sagaW p f (W p f) s by rw[W_eq hs,if_pos hsub]]
 unfold sagaW;simp only[jT,Bool.not_eq_true',Bool.not_eq_true];rw[whole_iff]
 rfl
theorem to_saga {s:Nat}(hs:s < p.n)(hsub:p.sub s=true):To p f s↔∃i,s < i∧i < p.n∧p.inn i=s∧To p f i:=by
 unfold To;rw[W_eq hs,if_pos hsub]
 show (List.any _ _=true)↔_;rw[List.any_eq_true]
 constructor
 ·rintro⟨i,hi,h⟩
  rw[jT,decide_eq_true_eq] at h
  exact⟨i,h.1.1,zB.1 hi,h.1.2,h.2⟩
 ·rintro⟨i,h1,h2,h3,h4⟩
  exact⟨i,zB.2 h2,by rw[jT,decide_eq_true_eq];exact⟨⟨h1,h3⟩,h4⟩⟩
theorem cl_step {i:Nat}(hi:i < p.n)(hs:p.sub i=false):Cl p f i↔(f i).run=0∨(f i).run=3∨(f i).un=true:=by
 unfold Cl;rw[W_eq hi,if_neg (by rw[hs];decide)]
 simp[stepW,or_assoc]
theorem dn_step {i:Nat}(hi:i < p.n)(hs:p.sub i=false):Dn p f i↔(f i).run=2∧(f i).tries=0:=by
 unfold Dn;rw[W_eq hi,if_neg (by rw[hs];decide)]
 simp[stepW]
theorem to_step {i:Nat}(hi:i < p.n)(hs:p.sub i=false):To p f i↔0 < (f i).run:=by
 unfold To;rw[W_eq hi,if_neg (by rw[hs];decide)]
 simp[stepW]
theorem first_spec {q:Nat→Bool}{n:Nat} :∀(d a:Nat),a < n→n≤a+d→a≤first q n d a∧first q n d a < n∧(∀b,a≤b→b < first q n d a→q b=true)∧(first q n d a+1 < n→q (first q n d a)=false)
 | 0,a,h1,h2=>by omega
 | d+1,a,h1,h2=>by
  unfold first
  by_cases h3:a+1 < n∧q a=true
  ·rw[if_pos h3]
   obtain⟨p1,p2,p3,p4⟩:=first_spec d (a+1) h3.1 (by omega)
   refine⟨by omega,p2,fun b hb1 hb2=>?_,p4⟩
   by_cases hb:b=a
   ·subst hb;exact h3.2
   ·exact p3 b (by omega) hb2
  ·rw[if_neg h3]
   refine⟨jG _,h1,fun b _ _=>by omega,fun h4=>?_⟩
   cases hq:q a with
   | false=>rfl
   | true=>exact absurd ⟨h4,hq⟩ h3
theorem at_spec (hp:p.Ok){s:Nat}(hs:s < p.n)(hsub:p.sub s=true):At p f s < p.alts s∧(∀b,b < At p f s→Fl p f s b∧Cs p f s b)∧(At p f s+1 < p.alts s→¬(Fl p f s (At p f s)∧Cs p f s (At p f s))):=by
 have ha:=hp.alts s hs hsub;have he:At p f s=first (fun a=>falls p f (W p f) s a && clears p (W p f) s a) (p.alts s) (p.alts s) 0:=by
  unfold At;rw[W_eq hs,if_pos hsub]
  rfl
 obtain⟨p1,p2,p3,p4⟩:=first_spec (q:=fun a=>falls p f (W p f) s a && clears p (W p f) s a) (n:=p.alts s) (p.alts s) 0 (by omega) (by omega)
 rw[←he] at p2 p3 p4
 refine⟨p2,fun b hb=>?_,fun h1 h2=>?_⟩
 ·have:=p3 b (zE _) hb;rw[jT] at this
  exact⟨this.1,clears_iff.1 this.2⟩
 ·have:=p4 h1;have h3:(falls p f (W p f) s (At p f s) && clears p (W p f) s (At p f s))=true:=by
   rw[jT]
   exact⟨h2.1,clears_iff.2 h2.2⟩
  rw[this] at h3
  cases h3
theorem at_spent (hp:p.Ok){s:Nat}(hs:s < p.n)(hsub:p.sub s=true)(h1:Fl p f s (At p f s))(h2:Cs p f s (At p f s)):Sp p f s:=by
 obtain⟨a1,a2,a3⟩:=at_spec hp hs hsub (f:=f)
 rw[sp_saga hs hsub]
 intro a ha
 by_cases h:a < At p f s
 ·exact a2 a h
 ·have:a=At p f s:=by
   apply Classical.byContradiction
   intro h9;exact a3 (by omega) ⟨h1,h2⟩
  subst this;exact⟨h1,h2⟩
theorem ha_eq (hp:p.Ok){i:Nat}(h1:1≤i)(hi:i < p.n):Ha p f i↔FF p f (p.inn i) (p.alt i):=by
 unfold Ha FF Fl Ha;rw[halted_eq hp f h1 hi,Bool.or_eq_true]
theorem ha_root:¬Ha p f 0:=by unfold Ha;rw[halted_root];decide
inductive An (p:Pl) (i:Nat):Nat→Prop
 | one:An p i (p.inn i)
 | up {s:Nat} :An p i s→1≤s→An p i (p.inn s)
theorem An.lt (hp:p.Ok){i s:Nat}(h1:1≤i)(hi:i < p.n)(h:An p i s):s < i∧p.sub s=true:=by
 induction h with
 | one=>exact⟨(hp.inn i h1 hi).1,(hp.inn i h1 hi).2.1⟩
 | up h hs ih=>have:=hp.inn _ hs (by omega);exact⟨by omega,this.2.1⟩
theorem an_clean (hp:p.Ok){i s:Nat}(h1:1≤i)(hi:i < p.n)(h:An p i s)(hc:Cl p f s):Cl p f i:=by
 induction h with
 | one=>
  obtain⟨a1,a2,a3⟩:=hp.inn i h1 hi
  exact (cl_saga hp (by omega) a2).1 hc _ a3 i ⟨a1,hi,rfl,rfl⟩
 | @up s h hs ih=>
  have hl:=h.lt hp h1 hi;obtain⟨a1,a2,a3⟩:=hp.inn s hs (by omega)
  exact ih ((cl_saga hp (by omega) a2).1 hc _ a3 s ⟨a1,by omega,rfl,rfl⟩)
theorem an_touched (hp:p.Ok){i s:Nat}(h1:1≤i)(hi:i < p.n)(h:An p i s)(ht:To p f i):To p f s:=by
 induction h with
 | one=>
  obtain⟨a1,a2,a3⟩:=hp.inn i h1 hi
  exact (to_saga (by omega) a2).2 ⟨i,a1,hi,rfl,ht⟩
 | @up s h hs ih=>
  have hl:=h.lt hp h1 hi;obtain⟨a1,a2,a3⟩:=hp.inn s hs (by omega)
  exact (to_saga (by omega) a2).2 ⟨s,a1,by omega,rfl,ih⟩
def upd (f:Nat→Fa)(i:Nat)(g:Fa):Nat→Fa:=fun k=>if k=i then g else f k
theorem upd_same (f:Nat→Fa)(i:Nat)(g:Fa):upd f i g i=g:=if_pos rfl
theorem upd_other {f:Nat→Fa}{i k:Nat}{g:Fa}(h:k≠i):upd f i g k=f k:=if_neg h
theorem sagaW_kids {p:Pl}{f f':Nat→Fa}{K K':Nat→IW}{s:Nat}(h:∀i,s < i→i < p.n→p.inn i=s→K i=K' i∧f i=f' i):sagaW p f K s=sagaW p f' K' s:=by
 have h1:∀a,falls p f K s a=falls p f' K' s a:=fun a=>by
  unfold falls
  congr 1
  funext i
  by_cases hk:Kid p s a i
  ·obtain⟨e1,e2⟩:=h i hk.1 hk.2.1 hk.2.2.1
   rw[e1,e2]
  ·rw[kid_no hk];rfl
 have h2:∀a,clears p K s a=clears p K' s a:=fun a=>by
  unfold clears
  congr 1
  funext i
  by_cases hk:Kid p s a i
  ·rw[(h i hk.1 hk.2.1 hk.2.2.1).1]
  ·rw[kid_no hk];rfl
 have h3:∀a,whole p K s a=whole p K' s a:=fun a=>by
  unfold whole
  congr 1
  funext i
  by_cases hk:Kid p s a i
  ·rw[(h i hk.1 hk.2.1 hk.2.2.1).1]
  ·rw[kid_no hk];rfl
 have h4:((List.range p.n).any fun i=>decide (s < i∧p.inn i=s) && (K i).touched)=((List.range p.n).any fun i=>decide (s < i∧p.inn i=s) && (K' i).touched):=by
  refine any_congr fun i hi=>?_
  rw[zB] at hi
  by_cases hk:s < i∧p.inn i=s
  ·rw[(h i hk.1 hi hk.2).1]
  ·rw[decide_eq_false hk]
   rfl
 unfold sagaW;simp only[h1,h2,h3,h4]
theorem W_far {i:Nat}{g:Fa} :∀(d s:Nat),p.n - s≤d→s < p.n→s≠i→¬An p i s→W p (upd f i g) s=W p f s
 | 0,s,h1,h2,_,_=>by omega
 | d+1,s,h1,h2,h3,h4=>by
  rw[W_eq h2,W_eq h2]
  split
  ·refine sagaW_kids fun k k1 k2 k3=>?_
   have hki:k≠i:=fun e=>by subst e;subst k3;exact h4 .one
   refine⟨W_far d k (by omega) k2 hki (fun h9=>h4 ?_),upd_other hki⟩
   rw[←k3]
   exact .up h9 (by omega)
  ·rw[upd_other h3]
end Go.Proofs.YtieoppabellafaaGreatDoor.St
namespace Go.Proofs.YtieoppabellafaaGreatDoor.St
open Fc
structure Lg (p:Pl)(af:Nat→List Nat):Prop where
 ok:p.Ok
 body:∀s,s < p.n→p.sub s=true→∀a,a < p.alts s→∃i,Kid p s a i
 ons:∀i,1≤i→i < p.n→∀a∈af i,1≤a∧a < p.n∧p.inn a=p.inn i∧p.alt a=p.alt i
 rank:∃r:Nat→Nat,∀i,1≤i→i < p.n→∀a∈af i,r a < r i
inductive Ov (af:Nat→List Nat) (i:Nat):Nat→Prop
 | one {k:Nat} :i∈af k→Ov af i k
 | more {k a:Nat} :a∈af k→Ov af i a→Ov af i k
section
variable (p:Pl)(af:Nat→List Nat)(f:Nat→Fa)
structure Rt:Prop where
 ok:∀i,i < p.n→okF (f i)
 sub:∀i,i < p.n→p.sub i=true→f i=Fa.z
inductive Rn:Nat→Prop
 | root:¬Dn p f 0→¬Sp p f 0→Rn 0
 | sub {s:Nat} :1≤s→s < p.n→p.sub s=true→¬Dn p f s→¬Sp p f s→Rn (p.inn s)→At p f (p.inn s)=p.alt s→¬FF p f (p.inn s) (p.alt s)→(∀a∈af s,Ps p f a)→Rn s
def Rc (i:Nat):Prop:=Rn p af f (p.inn i)∧At p f (p.inn i)=p.alt i∧¬FF p f (p.inn i) (p.alt i)∧∀a∈af i,Ps p f a
def Oc (i:Nat):Prop:=∀k,1≤k→k < p.n→Ov af i k→Cl p f k
def MB (i:Nat):Prop:=(1≤i∧i < p.n∧p.sub i=false)∧(f i).run=0∧Rc p af f i
def MU (i:Nat):Prop:=(1≤i∧i < p.n∧p.sub i=false)∧((f i).run=2∧(f i).un=false∧(f i).tries=(f i).slips)∧FF p f (p.inn i) (p.alt i)∧Oc p af f i∧∀s,An p i s→1≤s→Oc p af f s
def Op (i:Nat):Prop:=(1≤i∧i < p.n∧p.sub i=false)∧((f i).run=1∨((f i).tries=(f i).slips+1∧(f i).un=false))
inductive Tn (i:Nat):Fa→Prop
 | start:MB p af f i→Tn i ⟨1,0,0,false⟩
 | ok:Op p f i→(f i).run=1→Tn i ⟨2,0,0,false⟩
 | fail:Op p f i→(f i).run=1→Tn i ⟨3,0,0,false⟩
 | undo:MU p af f i→Tn i ⟨2,(f i).tries+1,(f i).slips,false⟩
 | undone:Op p f i→(f i).tries=(f i).slips+1→(f i).un=false→Tn i ⟨2,(f i).tries,(f i).slips,true⟩
 | slip:Op p f i→(f i).tries=(f i).slips+1→(f i).un=false→(f i).slips < 3→Tn i ⟨2,(f i).tries,(f i).slips+1,false⟩
structure Inv:Prop where
 rt:Rt p f
 undoing:∀i,1≤i→i < p.n→0 < (f i).tries→FF p f (p.inn i) (p.alt i)
 behind:∀i,1≤i→i < p.n→To p f i→¬FF p f (p.inn i) (p.alt i)→∀a∈af i,Ps p f a
 later:∀i,1≤i→i < p.n→To p f i→p.alt i≤At p f (p.inn i)
end
variable {p:Pl}{af:Nat→List Nat}{f:Nat→Fa}
theorem Tn.step {i:Nat}{g:Fa}(h:Tn p af f i g):1≤i∧i < p.n∧p.sub i=false:=by
 cases h with
 | start h=>exact h.1
 | ok h _=>exact h.1
 | fail h _=>exact h.1
 | undo h=>exact h.1
 | undone h _ _=>exact h.1
 | slip h _ _ _=>exact h.1
theorem Rn.lt (hp:Lg p af){s:Nat}(h:Rn p af f s):s < p.n∧p.sub s=true∧¬Dn p f s∧¬Sp p f s:=by
 cases h with
 | root h1 h2=>exact⟨by have:=hp.ok.pos;omega,hp.ok.root,h1,h2⟩
 | sub h1 h2 h3 h4 h5 _ _ _ _=>exact⟨h2,h3,h4,h5⟩
theorem Rn.free (hp:Lg p af){s:Nat}(h:Rn p af f s):¬Ha p f s:=by
 cases h with
 | root _ _=>exact ha_root
 | sub h1 h2 h3 h4 h5 h6 h7 h8 _=>exact fun h9=>h8 ((ha_eq hp.ok h1 h2).1 h9)
theorem rc_an (hp:Lg p af){i s:Nat}(h1:1≤i)(hi:i < p.n)(h:Rc p af f i)(ha:An p i s):Rn p af f s:=by
 induction ha with
 | one=>exact h.1
 | @up s ha hs ih=>
  cases ih with
  | root _ _=>omega
  | sub _ _ _ _ _ h6 _ _ _=>exact h6
theorem rn_rc {s:Nat}(h:Rn p af f s)(hs:1≤s):Rc p af f s:=by
 cases h with
 | root _ _=>omega
 | sub _ _ _ _ _ h6 h7 h8 h9=>exact⟨h6,h7,h8,h9⟩
theorem Op.not_clean (hr:Rt p f){i:Nat}(h:Op p f i):¬Cl p f i:=by
 obtain⟨⟨h1,hi,hs⟩,h⟩:=h
 rw[cl_step hi hs]
 obtain⟨a1,a2,a3,a4,a5,a6,a7⟩:=hr.ok i hi
 rintro (h0 | h0 | h0)
 ·rcases h with h | ⟨h,_⟩ <;> omega
 ·rcases h with h | ⟨h,_⟩ <;> omega
 ·have h9:=a7 h0
  rcases h with h | ⟨h,hu⟩
  ·omega
  ·rw[hu] at h0;cases h0
theorem MU.not_clean {i:Nat}(h:MU p af f i):¬Cl p f i:=by
 obtain⟨⟨h1,hi,hs⟩,⟨h2,h3,_⟩,_⟩:=h
 rw[cl_step hi hs,h2,h3]
 simp
theorem sp_still (hp:Lg p af)(hr:Rt p f){i s:Nat}{g:Fa}(h:Tn p af f i g)(hs:Sp p f s)(hsn:s < p.n)(ha:An p i s):False:=by
 obtain⟨h1,hi,hsub⟩:=h.step
 have hss:=(ha.lt hp.ok h1 hi).2;have hc:Cl p f i:=an_clean hp.ok h1 hi ha (spent_clean hsn hss hs);cases h with
 | start h=>exact ((rc_an hp h1 hi h.2.2 ha).lt hp).2.2.2 hs
 | ok h _=>exact h.not_clean hr hc
 | fail h _=>exact h.not_clean hr hc
 | undo h=>exact h.not_clean hc
 | undone h _ _=>exact h.not_clean hr hc
 | slip h _ _ _=>exact h.not_clean hr hc
theorem sp_stays (hp:Lg p af)(hr:Rt p f){i s:Nat}{g:Fa}(h:Tn p af f i g)(hsn:s < p.n)(hs:Sp p f s):Sp p (upd f i g) s:=by
 have hne:s≠i:=fun e=>by subst e;exact sp_step hsn h.step.2.2 hs
 unfold Sp;rw[W_far _ s (jG _) hsn hne (fun ha=>sp_still hp hr h hs hsn ha)]
 exact hs
theorem fail_stays (hr:Rt p f){i k:Nat}{g:Fa}(h:Tn p af f i g)(hk:(f k).run=3):(upd f i g k).run=3:=by
 by_cases e:k=i
 ·subst e;obtain⟨h1,hi,hsub⟩:=h.step
  obtain⟨a1,a2,a3,a4,a5,a6,a7⟩:=hr.ok k hi
  cases h with
  | start h=>have:=h.2.1;omega
  | ok _ h=>omega
  | fail _ h=>omega
  | undo h=>have:=h.2.1.1;omega
  | undone _ h _=>omega
  | slip _ h _ _=>omega
 ·rw[upd_other e];exact hk
theorem fl_stays (hp:Lg p af)(hr:Rt p f){i s a:Nat}{g:Fa}(h:Tn p af f i g)(hf:Fl p f s a):Fl p (upd f i g) s a:=by
 rw[fl_iff] at hf ⊢
 obtain⟨k,hk,hc⟩:=hf
 refine⟨k,hk,?_⟩
 rcases hc with hc | ⟨c1,c2,c3⟩
 ·exact .inl (fail_stays hr h hc)
 ·exact .inr ⟨c1,c2,sp_stays hp hr h hk.2.1 c3⟩
theorem ha_stays (hp:Lg p af)(hr:Rt p f){i:Nat}{g:Fa}(h:Tn p af f i g):∀s,s < p.n→Ha p f s→Ha p (upd f i g) s:=by
 intro s
 induction s using Nat.strongRecOn with
 | _ s ih=>
  intro hs hh
  by_cases h0:s=0
  ·subst h0;exact absurd hh ha_root
  ·have hl:=(hp.ok.inn s (by omega) hs).1;rw[ha_eq hp.ok (by omega) hs] at hh ⊢
   rcases hh with hh | hh
   ·exact .inl (fl_stays hp hr h hh)
   ·exact .inr (ih _ hl (by omega) hh)
theorem ff_stays (hp:Lg p af)(hr:Rt p f){i s a:Nat}{g:Fa}(h:Tn p af f i g)(hs:s < p.n)(hf:FF p f s a):FF p (upd f i g) s a:=by
 rcases hf with hf | hf
 ·exact .inl (fl_stays hp hr h hf)
 ·exact .inr (ha_stays hp hr h s hs hf)
theorem left_still (hp:Lg p af)(hr:Rt p f){i s c:Nat}{g:Fa}(h:Tn p af f i g)(hs:s < p.n)(hsub:p.sub s=true)(hc1:1≤c)(hcn:c < p.n)(hcs:p.inn c=s)(hca:p.alt c < At p f s)(hci:c=i∨An p i c):False:=by
 obtain⟨h1,hi,hst⟩:=h.step
 have hkid:Kid p s (p.alt c) c:=⟨by have:=(hp.ok.inn c hc1 hcn).1;omega,hcn,hcs,rfl⟩;have hcl:Cl p f c:=((at_spec hp.ok hs hsub).2.1 _ hca).2 c hkid;have hc:Cl p f i:=by
  rcases hci with rfl | ha
  ·exact hcl
  ·exact an_clean hp.ok h1 hi ha hcl
 cases h with
 | start h=>
  have hrc:Rc p af f c:=by
   rcases hci with rfl | ha
   ·exact h.2.2
   ·exact rn_rc (rc_an hp h1 hi h.2.2 ha) hc1
  have:=hrc.2.1;rw[hcs] at this
  omega
 | ok h _=>exact h.not_clean hr hc
 | fail h _=>exact h.not_clean hr hc
 | undo h=>exact h.not_clean hc
 | undone h _ _=>exact h.not_clean hr hc
 | slip h _ _ _=>exact h.not_clean hr hc
theorem at_grows (hp:Lg p af)(hr:Rt p f){i s:Nat}{g:Fa}(h:Tn p af f i g)(hs:s < p.n)(hsub:p.sub s=true):At p f s≤At p (upd f i g) s:=by
 apply Classical.byContradiction
 intro hlt;obtain⟨b1,b2,b3⟩:=at_spec hp.ok hs hsub (f:=f)
 obtain⟨c1,c2,c3⟩:=at_spec hp.ok hs hsub (f:=upd f i g)
 refine c3 (by omega) ?_;obtain⟨d1,d2⟩:=b2 (At p (upd f i g) s) (by omega)
 refine⟨fl_stays hp hr h d1,fun k hk=>?_⟩
 have hne:k≠i:=fun e=>by
  subst e;exact left_still hp hr h hs hsub (by have:=hk.1;omega) hk.2.1 hk.2.2.1 (by have:=hk.2.2.2;omega) (.inl rfl)
 unfold Cl;rw[W_far _ k (jG _) hk.2.1 hne (fun ha=>left_still hp hr h hs hsub (by have:=hk.1;omega) hk.2.1 hk.2.2.1 (by have:=hk.2.2.2;omega) (.inr ha))]
 exact d2 k hk
theorem whole_up {s a:Nat}(hr:Rt p f)(h:∀k,Kid p s a k→Ps p f k):¬Fl p f s a:=by
 rw[fl_iff]
 rintro⟨k,hk,hc⟩
 have hps:=h k hk;cases hsub:p.sub k with
 | false=>
  rcases hc with hc | ⟨c1,_⟩
  ·rcases hps with hd | ⟨d1,_⟩
   ·rw[dn_step hk.2.1 hsub] at hd;omega
   ·rw[hsub] at d1;cases d1
  ·rw[hsub] at c1;cases c1
 | true=>
  rcases hc with hc | ⟨c1,c2,c3⟩
  ·rw[hr.sub k hk.2.1 hsub] at hc;exact absurd hc (by decide)
  ·rcases hps with hd | ⟨d1,d2,d3⟩
   ·exact ((dn_saga hk.2.1 hsub).1 hd).1 c3
   ·rw[c2] at d2;cases d2
theorem dn_still (hp:Lg p af)(hv:Inv p af f){i:Nat}{g:Fa}(h:Tn p af f i g):∀(d s:Nat),p.n - s≤d→s < p.n→Dn p f s→¬Ha p f s→An p i s→False
 | 0,s,h1,h2,_,_,_=>by omega
 | d+1,s,hd,hs,hdn,hna,ha=>by
  obtain⟨h1,hi,hst⟩:=h.step
  have hr:=hv.rt;have hsub:=(ha.lt hp.ok h1 hi).2;obtain⟨n1,n2⟩:=(dn_saga hs hsub).1 hdn
  have hfl:=whole_up hr n2;have key:∀c,1≤c→c < p.n→p.inn c=s→(c=i∨An p i c)→False:=by
   intro c hc1 hcn hcs hci;have hcl:=(hp.ok.inn c hc1 hcn).1
   rcases Nat.lt_trichotomy (p.alt c) (At p f s) with hlt | heq | hgt
   ·exact left_still hp hr h hs hsub hc1 hcn hcs hlt hci
   ·have hkid:Kid p s (At p f s) c:=⟨by omega,hcn,hcs,heq⟩;have hps:=n2 c hkid
    rcases hci with rfl | hac
    ·
     have hdc:Dn p f c:=by
      rcases hps with h9 | ⟨h9,_⟩
      ·exact h9
      ·rw[hst] at h9;cases h9
     rw[dn_step hcn hst] at hdc
     have hff:¬FF p f (p.inn c) (p.alt c):=by
      rw[hcs,heq]
      rintro (h9 | h9)
      ·exact hfl h9
      ·exact hna h9
     cases h with
     | start h=>have:=h.2.1;omega
     | ok _ h=>omega
     | fail _ h=>omega
     | undo h=>exact hff h.2.2.1
     | undone _ h _=>have:=(hr.ok c hcn).2.2.1;omega
     | slip _ h _ _=>have:=(hr.ok c hcn).2.2.1;omega
    ·have hsc:=(hac.lt hp.ok h1 hi).2
     rcases hps with h9 | ⟨_,_,h9⟩
     ·refine dn_still hp hv h d c (by omega) hcn h9 (fun h8=>?_) hac;rw[ha_eq hp.ok hc1 hcn,hcs,heq] at h8
      rcases h8 with h8 | h8
      ·exact hfl h8
      ·exact hna h8
     ·exact sp_still hp hr h h9 hcn hac
   ·have hnt:¬To p f c:=fun ht=>by have:=hv.later c hc1 hcn ht;rw[hcs] at this;omega
    have hti:¬To p f i:=by
     rcases hci with rfl | hac
     ·exact hnt
     ·exact fun ht=>hnt (an_touched hp.ok h1 hi hac ht)
    rw[to_step hi hst] at hti
    have h0:=(hr.ok i hi).1;have h6:=(hr.ok i hi).2.2.2.2.2.1;have h3:=(hr.ok i hi).2.2.1;cases h with
    | start h=>
     have:=(rc_an hp h1 hi h.2.2 ha).lt hp;exact this.2.2.1 hdn
    | ok _ h=>omega
    | fail _ h=>omega
    | undo h=>have:=h.2.1.1;omega
    | undone _ h _=>omega
    | slip _ h _ _=>omega
  cases ha with
  | one=>exact key i h1 hi rfl (.inl rfl)
  | @up c hac hc1=>exact key c hc1 (by have:=(hac.lt hp.ok h1 hi).1;omega) rfl (.inr hac)
end Go.Proofs.YtieoppabellafaaGreatDoor.St
namespace Go.Proofs.YtieoppabellafaaGreatDoor.St
open Sx
def afOf (its:List It)(i:Nat):List Nat:=(its.getD i It.z).after.map Int.toNat
theorem arcTo_mem {its:List It}{i:Nat}{x:It}(hx:its[i]? =some x){a:Int}(ha:a∈x.after):∀n,i < n→(a,(i:Int))∈arcTo its n
 | 0,h=>by omega
 | n+1,h=>by
  by_cases e:i=n
  ·subst e;rw[arcTo_succ hx]
   exact jX.2 (.inr (zS.2 ⟨a,ha,rfl⟩))
  ·have h9:=arcTo_mem hx ha n (by omega);unfold arcTo;exact jX.2 (.inl h9)
theorem plan_leans {its:List It}{q:By × Tr}(h:sagaP its=some q):Lg (plOf its) (afOf its):=by
 have hok:=plan_ok h;obtain⟨_,hitems⟩:=plan_items h
 have h':=h;unfold sagaP at h
 split at h
 rotate_left
 ·cases h
 rename_i hc
 obtain⟨_,hp⟩:=hc
 have hk:Kd true (bodS its):=kd_bodT its _ 0;obtain⟨W,o,hw⟩:∃W o,Dg.weaveP (its.length:Int) (arcP its)= .ok W o:=by
  have hp2:=hp;unfold planT planP at hp2
  split at hp2
  ·rename_i hd
   have he:=Option.some.inj hp2;have ho:=hd.2.2.2;rw[he] at ho
   unfold ordOk at ho
   split at ho
   ·exact⟨_,_,by assumption⟩
   ·cases ho
  ·cases hp2
 obtain⟨w1,w2,w3,w4,w5,w6,w7⟩:=Dg.weave_facts hw
 rw[j8] at w2 w3 w5 w7
 have arc:∀(i:Nat) (x:It) (a:Int),its[i]? =some x→a∈x.after→(a,(i:Int))∈arcP its:=fun i x a hx ha=>arcTo_mem hx ha _ (jH.1 hx).1
 have good:∀(i:Nat) (x:It) (a:Int),its[i]? =some x→a∈x.after→0≤a∧a < (its.length:Int):=fun i x a hx ha=>by
  have:=zF.1 w3 _ (arc i x a hx ha);unfold Dg.endsOk at this;exact (of_decide_eq_true this).1
 have item:∀i,i < (plOf its).n→∃x,its[i]? =some x:=fun i hi=>⟨_,jF hi⟩
 refine⟨hok,fun s hs hsub a ha=>?_,fun i i1 hi a ha=>?_,o.idxOf,fun i i1 hi a ha=>?_⟩
 ·obtain⟨x,hx⟩:=item s hs
  have ha':(a:Int) < x.alts:=by
   have:a < (its.getD s It.z).alts.toNat:=ha;rw[getD_it hx] at this
   omega
  obtain⟨j,y,hy,e1,e2⟩:=kids_some hp hk hx ha'
  have hj0:1≤j:=by
   apply Classical.byContradiction
   intro h9;obtain rfl:j=0:=by omega
   obtain⟨⟨z,z0,_,z2,_⟩,_⟩:=plan_items h'
   rw[hy] at z0
   cases z0;omega
  have ej:(plOf its).inn j=s:=by show (its.getD j It.z).inn.toNat=s;rw[getD_it hy,e1];rfl
  have ea:(plOf its).alt j=a:=by show (its.getD j It.z).alt.toNat=a;rw[getD_it hy,e2];rfl
  have hjn:j < (plOf its).n:=(jH.1 hy).1;exact⟨j,by have:=(hok.inn j hj0 hjn).1;omega,hjn,ej,ea⟩
 ·obtain⟨x,hx⟩:=item i hi
  unfold afOf at ha;rw[getD_it hx] at ha
  obtain⟨z,hz,rfl⟩:=zS.1 ha
  have hg:=good i x z hx hz;have hzn:((z.toNat:Nat):Int)=z:=by omega
  obtain⟨y,hy,e1,e2⟩:=lean_in hp hx (g:=z.toNat) (by rw[hzn];exact hz)
  have hin:∀(k:Nat) (u:It),its[k]? =some u→(plOf its).inn k=u.inn.toNat∧(plOf its).alt k=u.alt.toNat:=fun k u hu=>⟨by show (its.getD k It.z).inn.toNat=_;rw[getD_it hu],by show (its.getD k It.z).alt.toNat=_;rw[getD_it hu]⟩
  refine⟨?_,(jH.1 hy).1,by rw[(hin _ _ hy).1,(hin _ _ hx).1,e1],by rw[(hin _ _ hy).2,(hin _ _ hx).2,e2]⟩
  apply Classical.byContradiction
  intro h9;have h0:z.toNat=0:=by omega
  rw[h0] at hy
  obtain⟨⟨r,r0,_,r2,_⟩,_⟩:=plan_items h'
  rw[hy] at r0
  cases r0;obtain⟨⟨j,_,_,e3,_⟩,_⟩:=hitems i x hx i1
  omega
 ·obtain⟨x,hx⟩:=item i hi
  unfold afOf at ha;rw[getD_it hx] at ha
  obtain⟨z,hz,rfl⟩:=zS.1 ha
  have hg:=good i x z hx hz;have hzn:((z.toNat:Nat):Int)=z:=by omega
  have hbit:(W.getD i 0).testBit z.toNat=true:=by
   rw[w2]
   exact (Dg.webOf_bit _ _ w3 i z.toNat).2 ⟨by rw[hzn];exact arc i x z hx hz,hi⟩
  have hmem:i∈o:=by
   have hsub:∀y∈o,y < its.length:=fun y hy=>by have:=w6.lt y hy;omega
   apply Classical.byContradiction
   intro h9;have h8:(i :: o).Nodup:=List.nodup_cons.2 ⟨h9,w6.nodup⟩;have h7:(i :: o) ⊆ List.range its.length:=fun y hy=>by
    rw[zB]
    rcases zJ.1 hy with rfl | hy
    ·exact hi
    ·exact hsub y hy
   have:=Dg.pigeon _ _ h8 (fun y hy=>h7 hy);rw[jM,w7,List.length_range] at this
   omega
  obtain⟨k,hk9⟩:=zX.1 hmem
  have hpre:=w6.ahead k i hk9 z.toNat hbit;have hik:o.idxOf i=k:=by
   have hkl:=(jH.1 hk9).1;have he:o[k]=i:=(jH.1 hk9).2;have:=List.Nodup.idxOf_getElem w6.nodup k hkl;rw[he] at this
   exact this
  show o.idxOf z.toNat < o.idxOf i;rw[hik]
  obtain⟨m,hm⟩:=zX.1 hpre
  have hmk:m < k:=by have:=(jH.1 hm).1;simp at this;omega
  have hm2:o[m]? =some z.toNat:=by rw[List.getElem?_take,if_pos hmk] at hm;exact hm
  have hml:=(jH.1 hm2).1;have he:o[m]=z.toNat:=(jH.1 hm2).2;have:=List.Nodup.idxOf_getElem w6.nodup m hml;rw[he] at this
  omega
end Go.Proofs.YtieoppabellafaaGreatDoor.St
