/- Texts of the seat, packed: Ua Kp. -/
import Derived.Test.YtieoppabellafaaGreatDoorP05
import Derived.Test.YtieoppabellafaaGreatDoorP31
import Derived.Test.YtieoppabellafaaGreatDoorP42
import Derived.Test.YtieoppabellafaaGreatDoorRows
import Derived.Test.YtieoppabellafaaGreatDoorP23
import Derived.Test.YtieoppabellafaaGreatDoorP25
import Derived.Deep.RegionHeldLaw
import Derived.Deep.SlicePairs
import Derived.Deep.Strs
import Derived.LaidHandle
import Derived.LaidLaws
import Derived.LaidMore
import Derived.OpenShut
import Derived.ProofKit
import Derived.ShutString
import Derived.Stop.Joined
set_option maxRecDepth 1000000
set_option maxHeartbeats 64000000
set_option linter.unusedVariables false
namespace Go.Proofs.YtieoppabellafaaGreatDoor
open Go.ChangeShapes Go.WideShapes Go.ChangeAt Go.RowKit Go.Shelf Sx
theorem gTab:Tryz.prog.globalNamed "math/bits.deBruijn64tab" =some 0:=by kernel_rfl
theorem tTab:(Tryz.prog.globals[0]?).map (·.type)=some 221:=by kernel_rfl
theorem uTab:Tryz.prog.underlying 221=some (.array 64 5):=by kernel_rfl
theorem u5:Tryz.prog.underlying 5=some (.int .u8):=by kernel_rfl
theorem c5:Tryz.prog.cellsOf 5=1:=by kernel_rfl
theorem c3:Tryz.prog.cellsOf 3=1:=by kernel_rfl
theorem door_met (os:Os)(args:Array Value):laidMetH Tryz.prog [("math/bits.deBruijn64tab",Rows.laid_math_bits_deBruijn64tab)] ((World.doorLaid Tryz.prog 400 os).forCall (fun _ _=>0) ⟨#[],args,[]⟩).memory:=
 laidMetH_of_parts3 (fuel:=8) (laidMet_of_run' 8 (by kernel_rfl) (by kernel_rfl)) (by kernel_rfl) (by kernel_rfl)
theorem tab_form:(Rows.laid_math_bits_deBruijn64tab:DataW Unit)= .agg (Lib.deBruijn64tab.map fun (n:Nat)=> .lit (.int .u8 (n:Int))):=rfl
theorem tab_of_laid {W:World}(h:laidMetH Tryz.prog [("math/bits.deBruijn64tab",Rows.laid_math_bits_deBruijn64tab)] W):Dg.Tab W:=by
 rw[MakeChecks.laidMetH_plain _ _ _ (by kernel_rfl)] at h
 obtain⟨ps,⟨g0,t0,cs0,f0,p0,q0,hg0,ht0,hv0,hd0,_,_⟩,_,_⟩:=h
 obtain rfl:=Option.some.inj (gTab.symm.trans hg0);obtain rfl:=Option.some.inj (tTab.symm.trans ht0);obtain⟨xs,m1,rfl,hx1,hlen,hn,hel⟩:=DataW.trod_array uTab hd0
 rw[tab_form] at hx1
 simp only[Prod.mk.injEq,DataW.agg.injEq] at hx1;have htl:Lib.deBruijn64tab.length=64:=rfl;intro j hj;rw[htl] at hj
 obtain⟨x,hx⟩:∃x,xs[j]? =some x:=⟨_,List.getElem?_eq_getElem (by omega)⟩
 have h1:=hel j hj;rw[hx,c5] at h1
 obtain⟨k,e1,e2,_⟩:=DataW.trod_int u5 h1
 have h2:=congrArg (fun l=>l[j]?) hx1.1;simp only[List.getElem?_map,hx,Option.map_some] at h2;have h3:Lib.deBruijn64tab[j]? =some (Lib.deBruijn64tab.getD j 0):=by rw[List.getD_eq_getElem?_getD,List.getElem?_eq_getElem (by omega)];rfl
 rw[h3,e2] at h2
 simp only[Option.map_some,Option.some.injEq,DataW.lit.injEq,Lit.int.injEq,true_and] at h2;rw[World.var?_cell hg0 hv0 j,←Array.getElem?_toList,h2]
 have h4:=congrArg (fun l=>l[0]?) e1;simp only[Nat.mul_one] at h4;rw[List.getElem?_take_of_lt (by omega),List.getElem?_drop] at h4
 simpa using h4
theorem c43:Tryz.prog.cellsOf 50=8:=by kernel_rfl
theorem c27:Tryz.prog.cellsOf 28=1:=by kernel_rfl
theorem c25:Tryz.prog.cellsOf 26=1:=by kernel_rfl
theorem c41:Tryz.prog.cellsOf 48=1:=by kernel_rfl
variable {H:Type}{enc:TypeId × Value→H}{w:World}{base:Nat}{spare:Nat→Bool}{held:Bool}
theorem open_ns {fuel:Nat}{cs:List Value}{x:DataW H × List MemPlace}(h:DataW.trod enc Tryz.prog w base spare held fuel 48 cs=some x):∃a n c l,cs=[.slice a n c]∧RdZ w (.slice a n c) l∧l.length≤maxLen:=by
 rcases open_ints Tryz.underlying48 Tryz.underlying3 (by kernel_rfl) h with ⟨hcs,_⟩ | ⟨x,l,c,zs,hcs,_,hl,hm,hz,_,hcell,hwz⟩
 ·exact⟨none,0,0,[],hcs,⟨none,0,rfl,Nat.le_refl _,fun i x hx=>by simp at hx⟩,by simp⟩
 ·have hlz:l≤zs.length:=by rw[hz];split <;> omega
  have hlen:(zs.take l).length=l:=by simp;omega
  refine⟨some x,l,c,zs.take l,hcs,⟨some x,c,by rw[hlen],by rw[hlen];exact hl,fun i y hi=>?_⟩,by rw[hlen];omega⟩
  have hil:i < l:=by have:=(List.getElem?_eq_some_iff.1 hi).1;omega
  obtain⟨b,off,rfl,hcc⟩:=ints_at hcell (by omega)
  refine⟨b,off,rfl,?_⟩
  rw[hcc i (by omega),List.getD_eq_getElem?_getD]
  rw[List.getElem?_take,if_pos hil] at hi
  rw[hi]
  rfl
theorem open_item {fuel:Nat}{cs:List Value}{x:DataW H × List MemPlace}(h:DataW.trod enc Tryz.prog w base spare held fuel 50 cs=some x) :
  ∃(y:It) (a:Option Addr) (n c:Nat),cs=[.string ⟨y.name.toArray⟩,.string ⟨y.undo.toArray⟩,.bool y.sub,.bool y.vital,.int .i64 y.alts,.int .i64 y.inn,.int .i64 y.alt,.slice a n c]∧RdZ w (.slice a n c) y.after∧y.name.length≤maxLen∧y.undo.length≤maxLen∧y.after.length≤maxLen:=by
 obtain⟨xs,n',hn',_,hcl,hxl,hfs⟩:=DataW.trod_struct Tryz.underlying50 h
 rw[c43] at hcl
 have hx8:xs.length=8:=by simpa using hxl
 match cs,hcl with
 | [v0,v1,v2,v3,v4,v5,v6,v7],_=>
  have g0:=hfs 0 _ rfl;have g1:=hfs 1 _ rfl;have g2:=hfs 2 _ rfl;have g3:=hfs 3 _ rfl;have g4:=hfs 4 _ rfl;have g5:=hfs 5 _ rfl;have g6:=hfs 6 _ rfl;have g7:=hfs 7 _ rfl;simp[Tryz.cells9',Tryz.cells4,c3,c41] at g0 g1 g2 g3 g4 g5 g6 g7
  rw[List.getElem?_eq_getElem (by omega)] at g0 g1 g2 g3 g4 g5 g6 g7
  obtain⟨s0,e0,_,z0⟩:=DataW.trod_string Tryz.underlying9 g0
  obtain⟨s1,e1,_,z1⟩:=DataW.trod_string Tryz.underlying9 g1
  obtain⟨b2,e2,_⟩:=DataW.trod_bool Tryz.underlying4 g2
  obtain⟨b3,e3,_⟩:=DataW.trod_bool Tryz.underlying4 g3
  obtain⟨n4,e4,_,z4⟩:=DataW.trod_int Tryz.underlying3 g4
  obtain⟨n5,e5,_,z5⟩:=DataW.trod_int Tryz.underlying3 g5
  obtain⟨n6,e6,_,z6⟩:=DataW.trod_int Tryz.underlying3 g6
  obtain⟨a7,m7,c7,l7,e7,h7,z7⟩:=open_ns g7
  simp only[List.cons.injEq,and_true] at e0 e1 e2 e3 e4 e5 e6 e7;subst e0 e1 e2 e3 e4 e5 e6 e7;refine⟨⟨s0.data.toList,s1.data.toList,b2,b3,n4,n5,n6,l7⟩,a7,m7,c7,by rw[ba_list,ba_list],h7,?_,?_,z7⟩
  ·show s0.data.toList.length≤maxLen;rw[Array.length_toList];exact z0
  ·show s1.data.toList.length≤maxLen;rw[Array.length_toList];exact z1
instance:Inhabited (It × Option Addr × Nat × Nat):=⟨(⟨[],[],false,false,0,0,0,[]⟩,none,0,0)⟩
theorem open_items {fuel:Nat}{cs:List Value}{x:DataW H × List MemPlace}(h:DataW.trod enc Tryz.prog w base spare held fuel 26 cs=some x) :
  ∃a n c its,cs=[.slice a n c]∧RdIt w (.slice a n c) its∧its.length≤maxLen∧∀y∈its,y.name.length≤maxLen∧y.undo.length≤maxLen∧y.after.length≤maxLen:=by
 rcases Go.Deep.open_slice Tryz.underlying26 h with ⟨hcs,_⟩ | ⟨ad,len,cap,m,n,D,Pl,hcs,hb,hl,hm,hmm,rfl,hx⟩
 ·exact⟨none,0,0,[],hcs,⟨none,0,rfl,Nat.le_refl _,fun i x hx=>by simp at hx⟩,by simp,fun y hy=>by cases hy⟩
 ·have hlm:len≤m:=by rw[hmm];split <;> omega
  have each:∀i,i < len→∃t:It × Option Addr × Nat × Nat,(∀q,q < 8→w.cell? (ad.add (i * 8+q))=([.string ⟨t.1.name.toArray⟩,.string ⟨t.1.undo.toArray⟩,.bool t.1.sub,.bool t.1.vital,.int .i64 t.1.alts,.int .i64 t.1.inn,.int .i64 t.1.alt,.slice t.2.1 t.2.2.1 t.2.2.2]:List Value)[q]?)∧RdZ w (.slice t.2.1 t.2.2.1 t.2.2.2) t.1.after∧t.1.name.length≤maxLen∧t.1.undo.length≤maxLen∧t.1.after.length≤maxLen:=by
   intro i hi;obtain⟨cs',h1,h2⟩:=hx i (by omega)
   rw[c43] at h1
   obtain⟨_,hlen,hcell⟩:=World.cells?_some h1
   obtain⟨y,a,n,c,rfl,q1,q2,q3,q4⟩:=open_item h2
   refine⟨(y,a,n,c),fun q hq=>?_,q1,q2,q3,q4⟩
   have:=hcell q (by omega)
   rwa [Go.Deep.add_add] at this
  obtain⟨q,hq⟩:=Go.Deep.choose_lt each
  refine⟨some ad,len,cap,(List.range len).map fun i=>(q i).1,hcs,⟨some ad,cap,by simp,by simpa using hl,fun i t hi=>?_⟩,by simp;omega,fun t ht=>?_⟩
  ·have hil:i < len:=by have:=(List.getElem?_eq_some_iff.1 hi).1;simpa using this
   have ht:t=(q i).1:=by simp[hil] at hi;exact hi.symm
   subst ht;obtain⟨b,off,spot⟩:=ad
   have hspot:spot=none:=by
    have:=(hq 0 (by omega)).1 0 (by omega)
    simpa [Addr.add] using World.cell?_spot this
   subst hspot;obtain⟨k,r,_⟩:=hq i hil
   have k2:∀j,j < 8→w.cell? ⟨b,off+i * 8+j,none⟩=([.string ⟨(q i).1.name.toArray⟩,.string ⟨(q i).1.undo.toArray⟩,.bool (q i).1.sub,.bool (q i).1.vital,.int .i64 (q i).1.alts,.int .i64 (q i).1.inn,.int .i64 (q i).1.alt,.slice (q i).2.1 (q i).2.2.1 (q i).2.2.2]:List Value)[j]? :=fun j hj=>by
    have:=k j hj
    rwa [add_plain,←Nat.add_assoc] at this
   exact⟨b,off,_,_,_,rfl,k2 0 (by omega),k2 1 (by omega),k2 2 (by omega),k2 3 (by omega),k2 4 (by omega),k2 5 (by omega),k2 6 (by omega),k2 7 (by omega),r⟩
  ·obtain⟨i,hi,rfl⟩:=List.mem_map.1 ht
   exact (hq i (by simpa using hi)).2.2
theorem open_plan {fuel:Nat}{cs:List Value}{x:DataW H × List MemPlace}(h:DataW.trod enc Tryz.prog w base spare held fuel 28 cs=some x) :
  ∃a n c its,cs=[.slice a n c]∧RdIt w (.slice a n c) its∧its.length≤maxLen∧∀y∈its,y.name.length≤maxLen∧y.undo.length≤maxLen∧y.after.length≤maxLen:=by
 obtain⟨xs,n',_,_,hcl,hxl,hfs⟩:=DataW.trod_struct Tryz.underlying28 h
 rw[c27] at hcl
 have hx1:xs.length=1:=by simpa using hxl
 match cs,hcl with
 | [v0],_=>
  have g0:=hfs 0 _ rfl;simp[c25] at g0
  rw[List.getElem?_eq_getElem (by omega)] at g0
  exact open_items g0
end Go.Proofs.YtieoppabellafaaGreatDoor
namespace Go.Proofs.YtieoppabellafaaGreatDoor.Fc
open Go.ChangeShapes Go.WideShapes Go.ChangeAt Go.RowKit
theorem laidOut:laidOutB Tryz.prog=true:=by kernel_rfl
theorem cells38:Tryz.prog.cellsOf 55=4:=by kernel_rfl
theorem cells36:Tryz.prog.cellsOf 53=1:=by kernel_rfl
theorem cells3:Tryz.prog.cellsOf 3=1:=by kernel_rfl
theorem cells4:Tryz.prog.cellsOf 4=1:=by kernel_rfl
variable {H:Type}{enc:TypeId × Value→H}{w:World}{base:Nat}{spare:Nat→Bool}{held:Bool}
instance:Inhabited Fa:=⟨Fa.z⟩
theorem open_fact {fuel:Nat}{cs:List Value}{x:DataW H × List MemPlace}(h:DataW.trod enc Tryz.prog w base spare held fuel 55 cs=some x):∃f:Fa,cs=f.cells:=by
 obtain⟨xs,n',hn',_,hcl,hxl,hfs⟩:=DataW.trod_struct Tryz.underlying55 h
 rw[cells38] at hcl
 have hx4:xs.length=4:=by simpa using hxl
 match cs,hcl with
 | [v0,v1,v2,v3],_=>
  have g0:=hfs 0 _ rfl;have g1:=hfs 1 _ rfl;have g2:=hfs 2 _ rfl;have g3:=hfs 3 _ rfl;simp[cells36] at g0
  simp[cells3] at g1 g2
  simp[cells4] at g3
  rw[List.getElem?_eq_getElem (by omega)] at g0 g1 g2 g3
  obtain⟨n0,e0,_,z0⟩:=DataW.trod_int Tryz.underlying53 g0
  obtain⟨n1,e1,_,z1⟩:=DataW.trod_int Tryz.underlying3 g1
  obtain⟨n2,e2,_,z2⟩:=DataW.trod_int Tryz.underlying3 g2
  obtain⟨b3,e3,_⟩:=DataW.trod_bool Tryz.underlying4 g3
  simp only[List.cons.injEq,and_true] at e0 e1 e2 e3;subst e0 e1 e2 e3;exact⟨⟨n0,n1,n2,b3⟩,rfl⟩
theorem open_facts {fuel:Nat}{cs:List Value}{x:DataW H × List MemPlace}(h:DataW.trod enc Tryz.prog w base spare held fuel 33 cs=some x) :
  ∃v l,cs=[v]∧RF w v l:=by
 rcases Go.Deep.open_slice Tryz.underlying33 h with ⟨hcs,_⟩ | ⟨ad,len,cap,m,n,D,Pl,hcs,hb,hl,hm,hmm,rfl,hx⟩
 ·exact⟨_,[],hcs,none,0,rfl,Nat.le_refl _,by unfold maxLen;omega,fun i x hx=>by simp at hx⟩
 ·have hlm:len≤m:=by rw[hmm];split <;> omega
  have each:∀i,i < len→∃f:Fa,∀q,q < 4→w.cell? (ad.add (i * 4+q))=f.cells[q]? :=by
   intro i hi;obtain⟨cs',h1,h2⟩:=hx i (by omega)
   rw[cells38] at h1
   obtain⟨_,hlen,hcell⟩:=World.cells?_some h1
   obtain⟨f,rfl⟩:=open_fact h2
   refine⟨f,fun q hq=>?_⟩
   have:=hcell q (by omega)
   rwa [Go.Deep.add_add] at this
  obtain⟨q,hq⟩:=Go.Deep.choose_lt each
  refine⟨_,(List.range len).map q,hcs,some ad,cap,by simp,by simpa using hl,by omega,fun i t hi=>?_⟩
  have hil:i < len:=by have:=(List.getElem?_eq_some_iff.1 hi).1;simpa using this
  have ht:t=q i:=by simp[hil] at hi;exact hi.symm
  subst ht;obtain⟨b,off,spot⟩:=ad
  have hspot:spot=none:=by
   have:=hq 0 (by omega) 0 (by omega)
   simpa [Addr.add] using World.cell?_spot this
  subst hspot;have k2:∀j,j < 4→w.cell? ⟨b,off+i * 4+j,none⟩=(q i).cells[j]? :=fun j hj=>by
   have:=hq i hil j hj
   rwa [add_plain,←Nat.add_assoc] at this
  exact⟨b,off,rfl,k2 0 (by omega),k2 1 (by omega),k2 2 (by omega),k2 3 (by omega)⟩
end Go.Proofs.YtieoppabellafaaGreatDoor.Fc
