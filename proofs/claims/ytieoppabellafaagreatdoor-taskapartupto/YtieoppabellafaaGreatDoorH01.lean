/- Texts of the seat, packed: AA SNa SNb SRa SRb SSa SSb SSc SSe SRc SRd SRe. -/
import Derived.Test.YtieoppabellafaaGreatDoorProg
import Derived.Test.YtieoppabellafaaGreatDoorRows
import Derived.RowKit
import Derived.RangeFuncRecord
import Derived.Below
import Derived.Laws.AppendOwn
import Derived.Deep.QuietTactic
import Derived.Laws.OwnMore
import Derived.WalkKit
import Derived.LoopIn
import Derived.LoopNIn
import Derived.OwnWalkIn
import Derived.RangeFuncBound
import Derived.RangeFuncCalls
import Derived.RangeFuncLeaves
import Derived.RangeFuncNested
import Derived.Shelf.Abstract
import Derived.Shelf.RegionOpen
import Derived.TacticsInMore
import Derived.WalkSmall
import Derived.BigQuiet
import Derived.Deep.RegionWith
import Derived.WalkLawsBesides
import Derived.WalkSpells
import Derived.Deep.RegionLaw
import Derived.Maps.AppendAt
import Derived.Maps.OwnIn
set_option maxRecDepth 1000000
set_option maxHeartbeats 64000000
set_option linter.unusedVariables false
namespace Go.Proofs.YtieoppabellafaaGreatDoor
open Go Go.RowKit
theorem jA:type_of% @List.setIfInBounds_toArray:=@List.setIfInBounds_toArray
theorem jB:type_of% @List.set_cons_succ:=@List.set_cons_succ
theorem jC:type_of% @List.set_cons_zero:=@List.set_cons_zero
theorem jD:type_of% @Array.getElem?_eq_some_iff:=@Array.getElem?_eq_some_iff
theorem jE:type_of% @List.forall_mem_singleton:=@List.forall_mem_singleton
theorem jF:type_of% @List.getElem?_eq_getElem:=@List.getElem?_eq_getElem
theorem jG:type_of% @Nat.le_refl:=@Nat.le_refl
theorem jH:type_of% @List.getElem?_eq_some_iff:=@List.getElem?_eq_some_iff
theorem jI:type_of% @Array.replicate_succ:=@Array.replicate_succ
theorem jJ:type_of% @Array.replicate_zero:=@Array.replicate_zero
theorem jK:type_of% @List.cons_append:=@List.cons_append
theorem jL:type_of% @List.nil_append:=@List.nil_append
theorem jM:type_of% @List.length_cons:=@List.length_cons
theorem jN:type_of% @List.size_toArray:=@List.size_toArray
theorem jO:type_of% @List.push_toArray:=@List.push_toArray
theorem jP:type_of% @List.length_nil:=@List.length_nil
theorem jQ:type_of% @World.putObj_heap_other:=@World.putObj_heap_other
theorem jR:type_of% @Nat.lt_of_lt_of_le:=@Nat.lt_of_lt_of_le
theorem jS:type_of% @List.mem_of_getElem?:=@List.mem_of_getElem?
theorem jT:type_of% @Bool.and_eq_true:=@Bool.and_eq_true
theorem jU:type_of% @List.getD_eq_getElem?_getD:=@List.getD_eq_getElem?_getD
theorem jV:type_of% @World.size_alloc:=@World.size_alloc
theorem jW:type_of% @Below.heap_setCell:=@Below.heap_setCell
theorem jX:type_of% @List.mem_append:=@List.mem_append
theorem jY:type_of% @List.getElem?_toArray:=@List.getElem?_toArray
theorem jZ:type_of% @List.getElem?_cons_succ:=@List.getElem?_cons_succ
theorem j8:type_of% @Int.toNat_natCast:=@Int.toNat_natCast
theorem j9:type_of% @List.length_append:=@List.length_append
theorem zA:type_of% @List.getElem?_cons_zero:=@List.getElem?_cons_zero
theorem zB:type_of% @List.mem_range:=@List.mem_range
theorem zC:type_of% @List.getElem?_map:=@List.getElem?_map
theorem zD:type_of% @Nat.zero_add:=@Nat.zero_add
theorem zE:type_of% @Nat.zero_le:=@Nat.zero_le
theorem zF:type_of% @List.all_eq_true:=@List.all_eq_true
theorem zG:type_of% @List.length_map:=@List.length_map
theorem zH:type_of% @Nat.le_trans:=@Nat.le_trans
theorem zI:type_of% @World.cell?_of_block:=@World.cell?_of_block
theorem zJ:type_of% @List.mem_cons:=@List.mem_cons
theorem zK:type_of% @Below.heap_alloc:=@Below.heap_alloc
theorem zL:type_of% @List.take_add_one:=@List.take_add_one
theorem zM:type_of% @List.getElem?_eq_none:=@List.getElem?_eq_none
theorem zN:type_of% @List.append_toArray:=@List.append_toArray
theorem zO:type_of% @List.getElem?_append_left:=@List.getElem?_append_left
theorem zP:type_of% @List.getElem?_append_right:=@List.getElem?_append_right
theorem zQ:type_of% @Calls.quiet_of_same:=@Calls.quiet_of_same
theorem zR:type_of% @List.take_of_length_le:=@List.take_of_length_le
theorem zS:type_of% @List.mem_map:=@List.mem_map
theorem zT:type_of% @World.ownsRow_nil:=@World.ownsRow_nil
theorem zU:type_of% @List.drop_eq_getElem_cons:=@List.drop_eq_getElem_cons
theorem zV:type_of% @List.eq_nil_of_length_eq_zero:=@List.eq_nil_of_length_eq_zero
theorem zW:type_of% @List.forall_mem_cons:=@List.forall_mem_cons
theorem zX:type_of% @List.mem_iff_getElem?:=@List.mem_iff_getElem?
theorem zY:type_of% @List.mem_singleton:=@List.mem_singleton
theorem zZ:type_of% @List.map_cons:=@List.map_cons
end Go.Proofs.YtieoppabellafaaGreatDoor
namespace Go.Proofs.YtieoppabellafaaGreatDoor.Sx
abbrev By:=List UInt8
structure Lab where
 name:By
 undo:By
 after:List By
 sub:Bool
 vital:Bool
deriving DecidableEq
inductive Tr where
 | e:Tr
 | b:Tr→Tr→Tr
 | n:Lab→Tr→Tr→Tr
deriving DecidableEq
def Tr.len:Tr→Nat
 | .e=>0
 | .b _ r=>r.len+1
 | .n _ _ r=>r.len+1
def Tr.dep:Tr→Nat
 | .e=>0
 | .b x r=>max x.dep r.dep
 | .n l t r=>max (if l.sub then t.dep+1 else 0) r.dep
inductive Got (α:Type) where
 | ok:α→Nat→Got α
 | no:Nat→Got α
variable (nm:By→Bool)(L:List By)
def Fit {α:Type}(d:Nat)(i:Nat)(g:Got α):Prop:=match g with
 | .ok _ j=>i+d≤j∧j≤L.length
 | .no j=>i≤j∧j≤L.length
theorem Fit.zero {α:Type}{d i:Nat}{g:Got α}(h:Fit L d i g):Fit L 0 i g:=by
 cases g with
 | no j=>exact h
 | ok x j=>exact⟨by have:=h.1;omega,h.2⟩
end Go.Proofs.YtieoppabellafaaGreatDoor.Sx
namespace Go.Proofs.YtieoppabellafaaGreatDoor.Sx
open Go.RowKit
theorem lt_of_cell? {w:World}{a:Addr}{v:Value}(h:w.cell? a=some v):a.block < w.heap.size:=by
 unfold World.cell? at h;cases ho:w.heap[a.block]? with
 | none=>simp[ho] at h
 | some o=>exact (jD.1 ho).1
def SAt (P:Nat→Prop)(w:World)(xs:List By)(a:Option Addr)(n:Nat):Prop:=
 n=xs.length∧∀i x,xs[i]? =some x→∃b off,a=some ⟨b,off,none⟩∧P b∧w.cell? ⟨b,off+i,none⟩=some (Value.string ⟨x.toArray⟩)
def TAt (P:Nat→Prop)(w:World):Bool→Tr→Option Addr→Nat→Nat→Prop
 | _,.e,_,i,n=>i=n
 | k,.b x r,a,i,n=>k=true∧i < n∧(∃b off v m c,a=some ⟨b,off,none⟩∧P b∧w.cell? ⟨b,off+i,none⟩=some (.slice v m c)∧TAt P w false x v 0 m)∧TAt P w true r a (i+1) n
 | k,.n l t r,a,i,n=>k=false∧i < n∧(∃b off sv sm sc av am ac,a=some ⟨b,off,none⟩∧P b∧w.cell? ⟨b,off+i * 6,none⟩=some (Value.string ⟨l.name.toArray⟩)∧w.cell? ⟨b,off+i * 6+1,none⟩=some (Value.string ⟨l.undo.toArray⟩)∧
   w.cell? ⟨b,off+i * 6+2,none⟩=some (.slice sv sm sc)∧w.cell? ⟨b,off+i * 6+3,none⟩=some (.bool l.sub)∧w.cell? ⟨b,off+i * 6+4,none⟩=some (.bool l.vital)∧w.cell? ⟨b,off+i * 6+5,none⟩=some (.slice av am ac)∧
   SAt P w l.after sv sm∧TAt P w true t av 0 am)∧TAt P w false r a (i+1) n
def VRd (P:Nat→Prop)(w:World):Bool→Tr→List (List Value)→Prop
 | _,.e,vs=>vs=[]
 | k,.b x r,vs=>k=true∧∃v m c rest,vs=[.slice v m c] :: rest∧TAt P w false x v 0 m∧VRd P w true r rest
 | k,.n l t r,vs=>k=false∧∃sv sm sc av am ac rest,vs=[Value.string ⟨l.name.toArray⟩,Value.string ⟨l.undo.toArray⟩,.slice sv sm sc,.bool l.sub,.bool l.vital,.slice av am ac] :: rest∧SAt P w l.after sv sm∧TAt P w true t av 0 am∧VRd P w false r rest
def Keeps (P:Nat→Prop)(w w':World):Prop:=∀b,P b→b < w.heap.size→w'.heap[b]? =w.heap[b]?
theorem cell_keep {P:Nat→Prop}{w w':World}{b i:Nat}{v:Value}(h:w.cell? ⟨b,i,none⟩=some v)(hp:P b)(hk:Keeps P w w'):w'.cell? ⟨b,i,none⟩=some v:=by
 rw[zI (a:=⟨b,i,none⟩) (w:=w) (w':=w')]
 ·exact h
 ·exact hk b hp (lt_of_cell? h)
theorem SAt.keep {P Q:Nat→Prop}{w w':World}{xs:List By}{a:Option Addr}{n:Nat}(h:SAt P w xs a n)(hk:Keeps P w w')(hq:∀b,P b→b < w.heap.size→Q b):SAt Q w' xs a n:=by
 refine⟨h.1,fun i x hi=>?_⟩
 obtain⟨b,off,ha,hp,hc⟩:=h.2 i x hi
 exact⟨b,off,ha,hq b hp (lt_of_cell? hc),cell_keep hc hp hk⟩
theorem TAt.keep {P Q:Nat→Prop}{w w':World}(hk:Keeps P w w')(hq:∀b,P b→b < w.heap.size→Q b)(t:Tr):∀(k:Bool) (a:Option Addr) (i n:Nat),TAt P w k t a i n→TAt Q w' k t a i n:=by
 induction t with
 | e=>intro k a i n h;exact h
 | b x r ih1 ih2=>
  rintro k a i n ⟨h0,h1,⟨b,off,v,m,c,ha,hp,hc,hx⟩,hr⟩;exact⟨h0,h1,⟨b,off,v,m,c,ha,hq b hp (lt_of_cell? hc),cell_keep hc hp hk,ih1 _ _ _ _ hx⟩,ih2 _ _ _ _ hr⟩
 | n l t r ih1 ih2=>
  rintro k a i n ⟨h0,h1,⟨b,off,sv,sm,sc,av,am,ac,ha,hp,c0,c1,c2,c3,c4,c5,hs,ht⟩,hr⟩;exact⟨h0,h1,⟨b,off,sv,sm,sc,av,am,ac,ha,hq b hp (lt_of_cell? c0),cell_keep c0 hp hk,cell_keep c1 hp hk,cell_keep c2 hp hk,cell_keep c3 hp hk,cell_keep c4 hp hk,cell_keep c5 hp hk,hs.keep hk hq,ih1 _ _ _ _ ht⟩,ih2 _ _ _ _ hr⟩
theorem VRd.keep {P Q:Nat→Prop}{w w':World}(hk:Keeps P w w')(hq:∀b,P b→b < w.heap.size→Q b)(t:Tr):∀(k:Bool) (vs:List (List Value)),VRd P w k t vs→VRd Q w' k t vs:=by
 induction t with
 | e=>intro k vs h;exact h
 | b x r _ ih2=>
  rintro k vs ⟨h0,v,m,c,rest,hv,hx,hr⟩;exact⟨h0,v,m,c,rest,hv,hx.keep hk hq x _ _ _ _,ih2 _ _ hr⟩
 | n l t r _ ih2=>
  rintro k vs ⟨h0,sv,sm,sc,av,am,ac,rest,hv,hs,ht,hr⟩;exact⟨h0,sv,sm,sc,av,am,ac,rest,hv,hs.keep hk hq,ht.keep hk hq t _ _ _ _,ih2 _ _ hr⟩
theorem TAt.len {P:Nat→Prop}{w:World}(t:Tr):∀(k:Bool) (a:Option Addr) (i n:Nat),TAt P w k t a i n→n=i+t.len:=by
 induction t with
 | e=>intro k a i n h;simp[Tr.len];exact (show i=n from h).symm
 | b x r _ ih2=>
  rintro k a i n ⟨_,_,_,hr⟩;have:=ih2 _ _ _ _ hr;simp[Tr.len];omega
 | n l t r _ ih2=>
  rintro k a i n ⟨_,_,_,hr⟩;have:=ih2 _ _ _ _ hr;simp[Tr.len];omega
theorem VRd.len {P:Nat→Prop}{w:World}(t:Tr):∀(k:Bool) (vs:List (List Value)),VRd P w k t vs→vs.length=t.len:=by
 induction t with
 | e=>intro k vs h;cases (show vs=[] from h);rfl
 | b x r _ ih2=>
  rintro k vs ⟨_,v,m,c,rest,rfl,_,hr⟩;simp[Tr.len,ih2 _ _ hr]
 | n l t r _ ih2=>
  rintro k vs ⟨_,sv,sm,sc,av,am,ac,rest,rfl,_,_,hr⟩;simp[Tr.len,ih2 _ _ hr]
def wide (k:Bool):Nat:=if k then 1 else 6
theorem VRd.at {P:Nat→Prop}{w:World}(g:Nat)(hg:P g)(t:Tr):∀(k:Bool) (vs:List (List Value)) (i:Nat),VRd P w k t vs→(∀j u,vs.flatten[j]? =some u→w.cell? ⟨g,i * wide k+j,none⟩=some u)→TAt P w k t (some ⟨g,0,none⟩) i (i+vs.length):=by
 induction t with
 | e=>intro k vs i h _;cases (show vs=[] from h);rfl
 | b x r _ ih2=>
  rintro k vs i ⟨rfl,v,m,c,rest,rfl,hx,hr⟩ hc;refine⟨rfl,by simp,⟨g,0,v,m,c,rfl,hg,?_,hx⟩,?_⟩
  ·have:=hc 0 (.slice v m c) (by simp)
   simpa [wide] using this
  ·have h2:=ih2 true rest (i+1) hr (fun j u hj=>by
    have:=hc (j+1) u (by simpa using hj);simp only[wide,if_true] at this ⊢;rw[show (i+1) * 1+j=i * 1+ (j+1) by omega]
    exact this)
   rw[show i+ ([Value.slice v m c] :: rest).length=i+1+rest.length by simp;omega]
   exact h2
 | n l t r _ ih2=>
  rintro k vs i ⟨rfl,sv,sm,sc,av,am,ac,rest,rfl,hs,ht,hr⟩ hc;have hc':∀j u,j < 6→([Value.string ⟨l.name.toArray⟩,Value.string ⟨l.undo.toArray⟩,.slice sv sm sc,.bool l.sub,.bool l.vital,.slice av am ac]:List Value)[j]? =some u→w.cell? ⟨g,0+i * 6+j,none⟩=some u:=fun j u hj hu=>by
   have:=hc j u (by rw[List.flatten_cons,zO (by simpa using hj)];exact hu)
   simpa [wide] using this
  refine⟨rfl,by simp,⟨g,0,sv,sm,sc,av,am,ac,rfl,hg,hc' 0 _ (by omega) rfl,hc' 1 _ (by omega) rfl,hc' 2 _ (by omega) rfl,hc' 3 _ (by omega) rfl,hc' 4 _ (by omega) rfl,hc' 5 _ (by omega) rfl,hs,ht⟩,?_⟩
  have h2:=ih2 false rest (i+1) hr (fun j u hj=>by
   have:=hc (j+6) u (by rw[List.flatten_cons,zP (by simp)];simpa using hj);simp only[wide,Bool.false_eq_true,if_false] at this ⊢;rw[show (i+1) * 6+j=i * 6+ (j+6) by omega]
   exact this)
  rw[show ∀(q:List Value),i+ (q :: rest).length=i+1+rest.length from fun q=>by simp;omega]
  exact h2
theorem VRd.own {P:Nat→Prop}{w:World}{t:Tr}{k:Bool}{vs:List (List Value)}{B:Nat}{e:TypeId}{v:Value}(hv:VRd P w k t vs)(ho:w.ownsRow B e (wide k) v vs.length vs.flatten)(hp:∀g,v.ownBlock=some g→P g) :
  ∃a c,v= .slice a t.len c∧TAt P w k t a 0 t.len:=by
 have hl:=hv.len t
 rcases ho.2 with ⟨rfl,h0⟩ | ⟨g,cap,cur,rfl,hb,hg,hnc,hcm,_⟩
 ·cases vs with
  | cons _ _=>simp at h0
  | nil=>
   refine⟨none,0,by rw[←hl];rfl,?_⟩
   cases t with
   | e=>exact rfl
   | b x r=>simp[Tr.len] at hl
   | n l t r=>simp[Tr.len] at hl
 ·refine⟨_,cap,by rw[hl],?_⟩
  have:=hv.at g (hp g rfl) t k vs 0 (fun j u hj=>by
   have h1:=ho.cells (g:=g) rfl j u hj
   by_cases h0:j=0
   ·subst h0;simpa [Addr.add] using h1
   ·simpa [Addr.add,h0] using h1)
  rw[hl] at this
  simpa using this
end Go.Proofs.YtieoppabellafaaGreatDoor.Sx
namespace Go.Proofs.YtieoppabellafaaGreatDoor.Sx
open Go.RowKit Go.Shelf
structure Kr (n0 n1:Nat)(A B:World):Prop where
 os:B.os=A.os
 tape:B.tape=A.tape
 output:B.output=A.output
 size:A.heap.size≤B.heap.size
 low:∀k,k < n0→B.heap[k]? =A.heap[k]?
 high:∀k,n1≤k→k < A.heap.size→B.heap[k]? =A.heap[k]?
theorem Kr.refl (n0 n1:Nat)(A:World):Kr n0 n1 A A:=⟨rfl,rfl,rfl,jG _,fun _ _=>rfl,fun _ _ _=>rfl⟩
theorem Kr.trans {n0 n1:Nat}{A B C:World}(h:Kr n0 n1 A B)(k:Kr n0 n1 B C):Kr n0 n1 A C:=
 ⟨k.os.trans h.os,k.tape.trans h.tape,k.output.trans h.output,zH h.size k.size,fun i hi=>(k.low i hi).trans (h.low i hi),fun i hi hl=>(k.high i hi (jR hl h.size)).trans (h.high i hi hl)⟩
theorem Kr.mono {n0 n1 n2:Nat}{A B:World}(h:Kr n0 n1 A B)(hn:n1≤n2):Kr n0 n2 A B:=⟨h.os,h.tape,h.output,h.size,h.low,fun k hk hl=>h.high k (by omega) hl⟩
theorem Kr.setCell {n0 n1:Nat}(A:World){b i:Nat}(v:Value)(h0:n0≤b)(h1:b < n1):Kr n0 n1 A (A.setCell ⟨b,i,none⟩ v):=
 ⟨rfl,rfl,rfl,by simp,fun k hk=>jW A ⟨b,i,none⟩ v k (by show k≠b;omega),fun k hk _=>jW A ⟨b,i,none⟩ v k (by show k≠b;omega)⟩
theorem Kr.of_below {n0 n1:Nat}{A B:World}(h:Below A.heap.size A B)(hn:n0≤A.heap.size):Kr n0 n1 A B:=⟨h.os,h.tape,h.output,h.size,fun k hk=>h.block k (by omega),fun k _ hl=>h.block k hl⟩
theorem Kr.putObj {n0 n1:Nat}(A:World)(l:Nat)(o:Obj)(h0:n0≤l)(h1:l < n1):Kr n0 n1 A (A.putObj l o):=
 ⟨rfl,rfl,rfl,by simp,fun k hk=>jQ (by omega),fun k hk _=>jQ (by omega)⟩
theorem below_putObj {n:Nat}(A:World)(l:Nat)(o:Obj)(h:n≤l)(_hl:l < A.heap.size):Below n A (A.putObj l o):=
 ⟨rfl,rfl,rfl,by simp,fun k hk=>jQ (by omega)⟩
def myPost {α:Type}(n0 n1:Nat)(I Ix:List α→World→Prop)(xs:List α)(W:World):Exit→Act→World→Prop
 | .normal,_,W'=>Kr n0 n1 W W'∧I xs W'
 | .ret,_,W'=>Kr n0 n1 W W'∧Ix xs W'
 | _,_,_=>False
def MySeq {α:Type}(F:Fence)(n:Nat)(P:Program)(g:Nat)(lb:Array Value)(encs:α→Array Value)(V:α→Prop)(n0 N:Nat)(S Sp:List α→Prop)(w:World):Prop:=
 ∀(l:Nat) (J Jx:List α→World→Prop) (W:World),Below w.heap.size w W→(∀s A B,J s A→Below W.heap.size A B→J s B)→(∀s A B,Jx s A→Below W.heap.size A B→Jx s B)→
  (∀pre x W1,J pre W1→V x→pre.length < N→YieldAt F (n - 1) P l (encs x) W1 fun e W'=>(e= .returned (.bool true)∧J (pre ++ [x]) W'∧Kr n0 W.heap.size W1 W')∨(e= .returned (.bool false)∧Jx (pre ++ [x]) W'))→
  J [] W→
  CallsIn F n P g (#[.func (.yield l) #[] #[]] ++lb) W fun e W'=>(∃v,e= .returned v)∧((∃xs,S xs∧J xs W')∨(∃pre,Sp pre∧Jx pre W'))
theorem range_mine {α:Type}{F:Fence}{n:Nat}{P:Program}{g:Operand}{ps:Array Tmp}{assign body:Code}{Q:Exit→Act→World→Prop}{a:Act}{w:World}
  (hro:F.round=none) (h1:1≤n) {gf:Nat} {lb:Array Value} (hg:a.eval g= .func (.func gf) #[] lb) (hFg:F.fn gf) (eg:∀args w,(callFunc gf args).run P w= .ok (.enter gf args) w)
  {encs:α→Array Value} {V:α→Prop} {n0 N:Nat} {S Sp:List α→Prop} (hseq:MySeq F (n - 1) P gf lb encs V n0 N S Sp w) (hn0:n0≤w.heap.size) (hps:∀x,(encs x).size=ps.size)
  (I Ix:List α→World→Prop) (hI:∀s A B,I s A→Below w.heap.size A B→I s B) (hIx:∀s A B,Ix s A→Below w.heap.size A B→Ix s B) (h0:I [] w)
  (hround:∀(l:Nat) (pre:List α) (x:α) (W:World),V x→pre.length < N→I pre W→w.heap.size+1 < W.heap.size→assign.wpIn (F.inRound l) (n - 1 - 1) P (Exit.then (fun a₁ W1=>I pre W1∧Kr n0 w.heap.size W W1∧∀W2,I pre W2→Kr n0 (w.heap.size+2) W1 W2→body.wpIn (F.inRound l) (n - 1 - 1) P (myPost n0 w.heap.size I Ix (pre ++ [x]) W2) a₁ W2) (fun _ _ _=>False))
   {tmps:=(ps.zip (encs x)).foldl (fun t (p,v)=>t.setIfInBounds p v) a.tmps,defers:=[]} W)
  (hdone:∀(xs:List α) (W:World),S xs→I xs W→W.heap[w.heap.size]? =some (.deferred (some []))→Q .normal {a with defers:= {target:= .collected w.heap.size,args:= #[]} :: a.defers} W)
  (hstop:∀(pre:List α) (W:World),Sp pre→Ix pre W→W.heap[w.heap.size]? =some (.deferred (some []))→Code.ret.wpIn F n P Q {a with defers:= {target:= .collected w.heap.size,args:= #[]} :: a.defers} W) :
  (Code.rangeFunc g ps assign body).wpIn F n P Q a w:=by
 refine wpIn_rangeFunc ?_;intro fn hfn;rw[hro]
 obtain⟨rec,hrec⟩:∃rec:LoopState→Option Code→Loop,rec=fun st pe=> {state:=st,pending:=pe,fn,tmps:=a.tmps,params:=ps,assign,body,defers:=w.heap.size} :=⟨_,rfl⟩
 obtain⟨W1,hW1⟩:∃W1,(w.alloc (.deferred (some []))).alloc (.loop (rec .ready none))=W1:=⟨_,rfl⟩
 have hsz:W1.heap.size=w.heap.size+2:=by rw[←hW1];simp
 have hL1:W1.heap[w.heap.size+1]? =some (.loop (rec .ready none)):=by
  rw[←hW1];have:=World.alloc_heap_new (w.alloc (.deferred (some []))) (.loop (rec .ready none));rwa [jV] at this
 have hK1:W1.heap[w.heap.size]? =some (.deferred (some [])):=by
  rw[←hW1];exact (zK _ _ _ (by simp)).trans (World.alloc_heap_new w _)
 have hb1:Below w.heap.size w W1:=by
  rw[←hW1];exact ((Below.refl _ w).alloc (jG _) _).alloc (by simp) _
 have hI1:I [] W1:=hI _ _ _ h0 hb1;refine⟨w.heap.size+1,[{target:= .collected w.heap.size,args:= #[]}],W1,{target:= .fn (.func gf) lb,args:= #[.func (.yield (w.heap.size+1)) #[] #[]]},W1,gf,
  #[.func (.yield (w.heap.size+1)) #[] #[]] ++lb,W1,?_,?_,?_,?_,fun _=>h1,?_⟩
 ·rw[←hW1,hrec];exact run_enterLoop_outer _ _ _ _ _
 ·simp only[resolve,hg];simp[go_sem]
 ·intro f' hf';simp[Target.leads] at hf';subst hf';exact hFg
 ·simp[invoke,go_sem,eg]
 ·refine (hseq (w.heap.size+1)
   (fun pre W=>I pre W∧W.heap[w.heap.size+1]? =some (.loop (rec .ready none))∧W.heap[w.heap.size]? =some (.deferred (some [])))
   (fun pre W=>Ix pre W∧W.heap[w.heap.size+1]? =some (.loop (rec .done (some .ret)))∧W.heap[w.heap.size]? =some (.deferred (some [])))
   W1 hb1
   (fun s A B hs hb=>⟨hI s A B hs.1 (hb.mono (by omega)),(hb.block _ (by omega)).trans hs.2.1,(hb.block _ (by omega)).trans hs.2.2⟩)
   (fun s A B hs hb=>⟨hIx s A B hs.1 (hb.mono (by omega)),(hb.block _ (by omega)).trans hs.2.1,(hb.block _ (by omega)).trans hs.2.2⟩)
   ?_ ⟨hI1,hL1,hK1⟩).mono ?_
  ·rintro pre x W ⟨hi,hl,hk⟩ hV hN;have hlt:w.heap.size+1 < W.heap.size:=(jD.1 hl).1;have hy:=run_yield (P:=P) (args:=encs x) hl (by rw[hrec];exact hps x);rw[hrec] at hy
   refine⟨fn,_,assign,body,hy,roundIn_of_wpIn hfn (wpIn_mono (hround _ pre x W hV hN hi hlt) ?_)⟩
   rintro e a1 Wa hp;cases e with
   | normal=>
    obtain⟨hia,hka,hbd⟩:=hp
    have hla:Wa.heap[w.heap.size+1]? =some (.loop (rec .ready none)):=(hka.high _ (by omega) hlt).trans hl;have hda:Wa.heap[w.heap.size]? =some (.deferred (some [])):=(hka.high _ (by omega) (by omega)).trans hk;have hlta:w.heap.size+1 < Wa.heap.size:=(jD.1 hla).1;refine⟨_,run_beginRound hla (by rw[hrec]),?_⟩
    have hl2:(Wa.putObj (w.heap.size+1) (.loop {rec .ready none with state:= .busy})).heap[w.heap.size+1]? =some (.loop {rec .ready none with state:= .busy}):=World.putObj_heap_same hlta;have hk2:(Wa.putObj (w.heap.size+1) (.loop {rec .ready none with state:= .busy})).heap[w.heap.size]? =some (.deferred (some [])):=(jQ (by omega)).trans hda;have hb2:Below w.heap.size Wa (Wa.putObj (w.heap.size+1) (.loop {rec .ready none with state:= .busy})):=below_putObj _ _ _ (by omega) hlta;have hkr2:Kr n0 (w.heap.size+2) Wa (Wa.putObj (w.heap.size+1) (.loop {rec .ready none with state:= .busy})):=Kr.putObj _ _ _ (by omega) (by omega);refine wpIn_mono (hbd _ (hI _ _ _ hia hb2) hkr2) ?_;have fin:∀(jump:Option Code) (W3:World),Kr n0 w.heap.size (Wa.putObj (w.heap.size+1) (.loop {rec .ready none with state:= .busy})) W3→
      (Instr.endRound (w.heap.size+1) jump).run P W3= .ok (.bool jump.isNone) (W3.putObj (w.heap.size+1) (.loop (rec (if jump.isNone then .ready else .done) jump)))∧
      w.heap.size+1 < W3.heap.size∧
      (W3.putObj (w.heap.size+1) (.loop (rec (if jump.isNone then .ready else .done) jump))).heap[w.heap.size+1]? =some (.loop (rec (if jump.isNone then .ready else .done) jump))∧
      (W3.putObj (w.heap.size+1) (.loop (rec (if jump.isNone then .ready else .done) jump))).heap[w.heap.size]? =some (.deferred (some [])):=fun jump W3 hk3=>by
     have hl3:=(hk3.high (w.heap.size+1) (by omega) (by simpa using hlta)).trans hl2;have hd3:=(hk3.high w.heap.size (by omega) (by simp;omega)).trans hk2;have:=run_endRound (P:=P) jump hl3;rw[hrec] at this ⊢
     exact⟨this,(jD.1 hl3).1,World.putObj_heap_same (jD.1 hl3).1,(jQ (by omega)).trans hd3⟩
    rintro e a3 W3 hp;cases e with
    | normal=>
     obtain⟨hk3,hi3⟩:=hp
     obtain⟨hr,hlt3,hl4,hk4⟩:=fin none W3 hk3
     refine⟨_,_,hr,.inl ⟨rfl,⟨hI _ _ _ hi3 (below_putObj _ _ _ (by omega) hlt3),hl4,hk4⟩,?_⟩⟩
     rw[hsz]
     exact (((hka.mono (by omega)).trans hkr2).trans (hk3.mono (by omega))).trans (Kr.putObj _ _ _ (by omega) (by omega))
    | ret=>
     obtain⟨hk3,hi3⟩:=hp
     obtain⟨hr,hlt3,hl4,hk4⟩:=fin (some .ret) W3 hk3
     exact⟨_,_,hr,.inr ⟨rfl,hIx _ _ _ hi3 (below_putObj _ _ _ (by omega) hlt3),hl4,hk4⟩⟩
    | exit id=>exact hp.elim
    | goto t=>exact hp.elim
    | panic ch=>exact hp.elim
    | outgrown=>exact hp.elim
   | ret=>exact hp.elim
   | exit id=>exact hp.elim
   | goto t=>exact hp.elim
   | panic ch=>exact hp.elim
   | outgrown=>exact hp.elim
  ·rintro e W2 ⟨⟨v,rfl⟩,(⟨xs,hS,hi,hl,hk⟩ | ⟨pre,hSp,hi,hl,hk⟩)⟩
   ·have hlt:=(jD.1 hl).1;exact⟨none,_,by have:=run_endLoop (P:=P) hl (by rw[hrec];simp);rw[hrec] at this;exact this,hdone xs _ hS (hI _ _ _ hi (below_putObj _ _ _ (by omega) hlt)) ((jQ (by omega)).trans hk)⟩
   ·have hlt:=(jD.1 hl).1;exact⟨some .ret,_,by have:=run_endLoop (P:=P) hl (by rw[hrec];simp);rw[hrec] at this;exact this,hstop pre _ hSp (hIx _ _ _ hi (below_putObj _ _ _ (by omega) hlt)) ((jQ (by omega)).trans hk)⟩
def fltn:Nat→Tr→List (Nat × Lab × Tr)
 | _,.e=>[]
 | d,.b x r=>fltn d x ++fltn d r
 | d,.n l t r=>(d,l,t) :: ((if l.sub then fltn (d+1) t else []) ++fltn d r)
def tw:Tr→Nat
 | .e=>0
 | .b x r=>tw x+tw r
 | .n l t r=>(if l.sub then 1+tw t else 0)+tw r
def Tr.sz:Tr→Nat
 | .e=>0
 | .b x r=>x.sz+r.sz+1
 | .n _ t r=>t.sz+r.sz+1
theorem Tr.len_sz (t:Tr):t.len≤t.sz:=by
 induction t with
 | e=>exact jG _
 | b x r _ ih=>simp[Tr.len,Tr.sz];omega
 | n l x r _ ih=>simp[Tr.len,Tr.sz];omega
def Tr.afs:Tr→Prop
 | .e=>True
 | .b x r=>x.afs∧r.afs
 | .n l t r=>l.after.length≤1000000000∧t.afs∧r.afs
structure Nd where
 deep:Nat
 lab:Lab
 alts:Tr
 sv:Option Addr
 sm:Nat
 sc:Nat
 av:Option Addr
 am:Nat
 ac:Nat
def Nd.enc (x:Nd):Array Value:= #[.int .i64 (x.deep:Int),.agg #[.string ⟨x.lab.name.toArray⟩,.string ⟨x.lab.undo.toArray⟩,.slice x.sv x.sm x.sc,.bool x.lab.sub,.bool x.lab.vital,.slice x.av x.am x.ac]]
def Nd.ok (n0:Nat)(w0:World)(D:Nat)(x:Nd):Prop:=SAt (· < n0) w0 x.lab.after x.sv x.sm∧TAt (· < n0) w0 true x.alts x.av 0 x.am∧x.deep≤D∧x.lab.after.length≤1000000000
def Nd.key (x:Nd):Nat × Lab × Tr:=(x.deep,x.lab,x.alts)
structure En where
 deep:Nat
 tree:Tr
 av:Option Addr
 am:Nat
 ac:Nat
def En.val (e:En):List Value:=[.int .i64 (e.deep:Int),.slice e.av e.am e.ac]
def En.ok (n0:Nat)(w0:World)(D:Nat)(e:En):Prop:=TAt (· < n0) w0 true e.tree e.av 0 e.am∧e.deep+e.tree.dep≤D∧e.tree.sz≤1000000000∧e.tree.afs
def evs (l:List En):List Value:=(l.map En.val).flatten
def ew:List En→Nat
 | []=>0
 | e :: r=>1+tw e.tree+ew r
def efl:List En→List (Nat × Lab × Tr)
 | []=>[]
 | e :: r=>fltn e.deep e.tree ++efl r
theorem evs_len (l:List En):(evs l).length=l.length * 2:=by
 induction l with
 | nil=>rfl
 | cons e l ih=>simp[evs,En.val] at ih ⊢;omega
theorem evs_snoc (l:List En)(e:En):evs (l ++ [e])=evs l ++En.val e:=by simp[evs]
theorem ew_snoc (l:List En)(e:En):ew (l ++ [e])=ew l+1+tw e.tree:=by
 induction l with
 | nil=>simp[ew]
 | cons x l ih=>simp[ew,ih];omega
theorem efl_snoc (l:List En)(e:En):efl (l ++ [e])=efl l ++fltn e.deep e.tree:=by
 induction l with
 | nil=>simp[efl]
 | cons x l ih=>simp[efl,ih]
theorem SAt.unique {P:Nat→Prop}{w:World}{xs ys:List By}{a:Option Addr}{n:Nat}(h:SAt P w xs a n)(k:SAt P w ys a n):xs=ys:=by
 apply List.ext_getElem?
 intro i
 by_cases hi:i < n
 ·obtain⟨x,h1⟩:∃x,xs[i]? =some x:=⟨_,jF (by rw[←h.1];exact hi)⟩
  obtain⟨y,k1⟩:∃y,ys[i]? =some y:=⟨_,jF (by rw[←k.1];exact hi)⟩
  obtain⟨b,off,ha,_,hc⟩:=h.2 i _ h1
  obtain⟨b',off',ha',_,hc'⟩:=k.2 i _ k1
  rw[ha] at ha'
  cases ha';rw[hc] at hc'
  simp at hc';rw[h1,k1,hc']
 ·rw[zM (by rw[←h.1];omega),zM (by rw[←k.1];omega)]
theorem TAt.unique {P:Nat→Prop}{w:World}(t:Tr):∀(s:Tr) (k:Bool) (a:Option Addr) (i n:Nat),TAt P w k t a i n→TAt P w k s a i n→t=s:=by
 induction t with
 | e=>
  intro s k a i n h g;have h':i=n:=h;cases s with
  | e=>rfl
  | b x r=>have:=g.2.1;omega
  | n l x r=>have:=g.2.1;omega
 | b x r ih1 ih2=>
  rintro s k a i n ⟨rfl,hl,⟨b,off,v,m,c,ha,hp,hc,hx⟩,hr⟩ g;cases s with
  | e=>have:i=n:=g;omega
  | b x' r'=>
   obtain⟨_,_,⟨b',off',v',m',c',ha',_,hc',hx'⟩,hr'⟩:=g
   rw[ha] at ha';cases ha';rw[hc] at hc';simp at hc';obtain⟨rfl,rfl,rfl⟩:=hc'
   rw[ih1 _ _ _ _ _ hx hx',ih2 _ _ _ _ _ hr hr']
  | n l x' r'=>have:=g.1;simp at this
 | n l t r ih1 ih2=>
  rintro s k a i n ⟨rfl,hl,⟨b,off,sv,sm,sc,av,am,ac,ha,hp,c0,c1,c2,c3,c4,c5,hs,ht⟩,hr⟩ g;cases s with
  | e=>have:i=n:=g;omega
  | b x' r'=>have:=g.1;simp at this
  | n l' t' r'=>
   obtain⟨_,_,⟨b',off',sv',sm',sc',av',am',ac',ha',_,d0,d1,d2,d3,d4,d5,hs',ht'⟩,hr'⟩:=g
   rw[ha] at ha';cases ha';rw[c0] at d0;rw[c1] at d1;rw[c2] at d2;rw[c3] at d3;rw[c4] at d4;rw[c5] at d5
   simp at d0 d1 d2 d3 d4 d5;obtain⟨rfl,rfl,rfl⟩:=d2
   obtain⟨rfl,rfl,rfl⟩:=d5
   have e1:=hs.unique hs';rw[ih1 _ _ _ _ _ ht ht',ih2 _ _ _ _ _ hr hr']
   obtain⟨a1,a2,a3,a4,a5⟩:=l
   obtain⟨b1,b2,b3,b4,b5⟩:=l'
   simp_all
def Wt (n0:Nat)(w0:World)(n1 D:Nat)(lv:Value)(wr:World)(stk:List En):Prop:=wr.ownsRow n1 213 2 lv stk.length (evs stk)∧∀e∈stk,e.ok n0 w0 D
theorem En.val_inj {n0:Nat}{w0:World}{D:Nat}{e e':En}(h:e.val=e'.val)(ho:e.ok n0 w0 D)(ho':e'.ok n0 w0 D):e=e':=by
 obtain⟨d,t,av,am,ac⟩:=e
 obtain⟨d',t',av',am',ac'⟩:=e'
 simp[En.val] at h
 obtain⟨h1,h2,h3,h4⟩:=h
 subst h2;subst h3;subst h4;have:t=t':=TAt.unique _ _ _ _ _ _ ho.1 ho'.1;subst this;have:d=d':=by omega
 subst this;rfl
theorem evs_inj {n0:Nat}{w0:World}{D:Nat}(l:List En):∀(m:List En),evs l=evs m→(∀e∈l,e.ok n0 w0 D)→(∀e∈m,e.ok n0 w0 D)→l=m:=by
 induction l with
 | nil=>
  intro m h _ _;cases m with
  | nil=>rfl
  | cons e m=>simp[evs,En.val] at h
 | cons e l ih=>
  intro m h h1 h2;cases m with
  | nil=>simp[evs,En.val] at h
  | cons e' m=>
   have h':En.val e ++evs l=En.val e' ++evs m:=by simpa [evs] using h
   have hl:(En.val e).length=(En.val e').length:=rfl;obtain⟨q1,q2⟩:=List.append_inj h' hl
   rw[En.val_inj q1 (h1 e (by simp)) (h2 e' (by simp)),ih m q2 (fun x hx=>h1 x (by simp[hx])) (fun x hx=>h2 x (by simp[hx]))]
theorem Wt.unique {n0:Nat}{w0:World}{n1 D:Nat}{lv:Value}{wr:World}{s s':List En}(h:Wt n0 w0 n1 D lv wr s)(h':Wt n0 w0 n1 D lv wr s'):s=s':=by
 refine evs_inj s s' ?_ h.2 h'.2;have e1:=evs_len s;have e2:=evs_len s'
 rcases h.1.2 with ⟨rfl,hn⟩ | ⟨g,cap,cur,rfl,_,hg,hnc,_,_,ht⟩
 ·rcases h'.1.2 with ⟨_,hn'⟩ | ⟨g',cap',cur',hv,_⟩
  ·rw[zV hn,zV hn']
  ·cases hv
 ·rcases h'.1.2 with ⟨hv,hn'⟩ | ⟨g',cap',cur',hv,_,hg',_,_,_,ht'⟩
  ·cases hv
  ·simp at hv;obtain⟨rfl,hl,rfl⟩:=hv
   rw[hg] at hg'
   cases hg';rw[←ht,←ht',hl]
open Classical in
noncomputable def mu (n0:Nat)(w0:World)(n1 D:Nat)(lv:Value)(wr:World):Nat:=if h:∃s,Wt n0 w0 n1 D lv wr s then ew (Classical.choose h) else 0
theorem mu_eq {n0:Nat}{w0:World}{n1 D:Nat}{lv:Value}{wr:World}{s:List En}(h:Wt n0 w0 n1 D lv wr s):mu n0 w0 n1 D lv wr=ew s:=by
 have hx:∃s,Wt n0 w0 n1 D lv wr s:=⟨s,h⟩
 unfold mu;rw[dif_pos hx,(Classical.choose_spec hx).unique h]
end Go.Proofs.YtieoppabellafaaGreatDoor.Sx
namespace Go.Proofs.YtieoppabellafaaGreatDoor.Sx
open Go.RowKit
theorem cell_row {w:World}{b:Nat}{cs:Array Value}{t:TypeId}(h:w.heap[b]? =some (.cells cs t (0,0)))(i:Nat):w.cell? ⟨b,i,none⟩=cs[i]? :=by
 simp[World.cell?,h]
theorem froz_row {w:World}{b:Nat}{cs:Array Value}{t:TypeId}(h:w.heap[b]? =some (.cells cs t (0,0)))(i:Nat):w.frozen? ⟨b,i,none⟩=false:=by
 simp[World.frozen?,h]
def Got.map {α β:Type}(h:α→β):Got α→Got β
 | .ok x i=> .ok (h x) i
 | .no i=> .no i
theorem row_set {w:World}{b:Nat}{cs:Array Value}{t:TypeId}(h:w.heap[b]? =some (.cells cs t (0,0)))(i:Nat)(v:Value):(w.setCell ⟨b,i,none⟩ v).heap[b]? =some (.cells (cs.setIfInBounds i v) t (0,0)):=by
 obtain⟨hlt,hk'⟩:=jD.1 h
 simp only[World.setCell];rw[Array.getElem?_eq_getElem (by rw[Array.size_modify];exact hlt),Array.getElem_modify_self,hk']
 rfl
theorem row_new (w:World)(cs:Array Value)(t:TypeId):(w.alloc (.cells cs t)).heap[w.heap.size]? =some (.cells cs t (0,0)):=by
 show (w.heap.push _)[w.heap.size]? =_;simp
theorem row_alloc {w:World}{b:Nat}{x:Obj}(h:w.heap[b]? =some x)(o:Obj):(w.alloc o).heap[b]? =some x:=
 (zK _ _ _ (jD.1 h).1).trans h
theorem row_other {w:World}{b c i:Nat}{x:Obj}(h:w.heap[b]? =some x)(v:Value)(hn:b≠c):(w.setCell ⟨c,i,none⟩ v).heap[b]? =some x:=
 (jW w ⟨c,i,none⟩ v b hn).trans h
theorem add_zero' (g j:Nat):(⟨g,0,none⟩:Addr).add j=⟨g,j,none⟩:=by unfold Addr.add;split <;> simp_all
theorem new_cells (w:World)(l:List Value)(t:TypeId):∀j u,l[j]? =some u→(w.alloc (.cells l.toArray t)).cell? ((⟨w.heap.size,0,none⟩:Addr).add j)=some u:=fun j u h=>by
 rw[add_zero',World.cell?_alloc_new]
 simpa using h
theorem ownsRow_succ' {W:World}{base:Nat}{e:TypeId}{size:Nat}{v:Value}{k:Nat}{xs:List Value}(h:W.ownsRow base e size v (k+1) xs):∃g cap,v= .slice (some ⟨g,0,none⟩) (k+1) cap:=by
 rcases h.2 with ⟨_,h0⟩ | ⟨g,cap,cur,rfl,_⟩
 ·omega
 ·exact⟨g,cap,rfl⟩
end Go.Proofs.YtieoppabellafaaGreatDoor.Sx
namespace Go.Proofs.YtieoppabellafaaGreatDoor.Sx
open Go.RowKit Go.Shelf
attribute [local go_sem] Oper.semAt_some
def Low (n0:Nat)(w0 w:World):Prop:=∀k,k < n0→w.heap[k]? =w0.heap[k]?
theorem Low.cell {n0:Nat}{w0 w:World}(h:Low n0 w0 w){b i:Nat}{v:Value}(hb:b < n0)(hc:w0.cell? ⟨b,i,none⟩=some v):w.cell? ⟨b,i,none⟩=some v:=
 (zI (a:=⟨b,i,none⟩) (h b hb)).trans hc
theorem Tryz.info213:(Tryz.prog.info? 213).map (fun i=>(i.zero,i.size,i.bytes))=some (some (.agg #[.int .i64 0,.slice none 0 0]),2,32):=by kernel_rfl
def AllOf (pre:List Nd)(mid:List (Nat × Lab × Tr))(stk:List En)(t:Tr):Prop:=(pre.map Nd.key ++ (mid ++efl stk)).Perm (fltn 1 t)
theorem own_block {w w':World}{B n:Nat}{e:TypeId}{sz:Nat}{v:Value}{xs:List Value}(h:w.ownsRow B e sz v n xs)(hb:∀g,v.ownBlock=some g→w'.heap[g]? =w.heap[g]?):w'.ownsRow B e sz v n xs:=by
 refine⟨h.1,?_⟩
 rcases h.2 with hn | ⟨g,cap,cur,hv,h1,h2,h3⟩
 ·exact .inl hn
 ·exact .inr ⟨g,cap,cur,hv,h1,(hb g (by rw[hv];rfl)).trans h2,h3⟩
theorem ew_len (l:List En):l.length≤ew l:=by
 induction l with
 | nil=>exact jG _
 | cons e l ih=>simp[ew];omega
theorem Wt.kept {n0:Nat}{w0:World}{n1 D:Nat}{lv:Value}{A B:World}{s:List En}(h:Wt n0 w0 n1 D lv A s)(hk:Kr n0 n1 A B):Wt n0 w0 n1 D lv B s:=
 ⟨own_block h.1 (fun g hg=>hk.high g (h.1.lt g hg).1 (h.1.lt g hg).2),h.2⟩
theorem Low.kept {n0 n1:Nat}{w0 A B:World}(h:Low n0 w0 A)(hk:Kr n0 n1 A B):Low n0 w0 B:=fun k hkk=>(hk.low k hkk).trans (h k hkk)
theorem Low.alloc {n0:Nat}{w0 A:World}(h:Low n0 w0 A)(o:Obj)(hn:n0≤A.heap.size):Low n0 w0 (A.alloc o):=fun k hkk=>(zK _ _ _ (by omega)).trans (h k hkk)
theorem Wt.alloc {n0:Nat}{w0:World}{n1 D:Nat}{lv:Value}{A:World}{s:List En}(h:Wt n0 w0 n1 D lv A s)(o:Obj):Wt n0 w0 n1 D lv (A.alloc o) s:=⟨h.1.alloc o,h.2⟩
theorem allOf_next {pre:List Nd}{x:Nd}{m1 m2:List (Nat × Lab × Tr)}{stk:List En}{t:Tr}(h:AllOf pre (x.key :: (m1 ++m2)) stk t):AllOf (pre ++ [x]) (m1 ++m2) stk t:=by
 unfold AllOf at *;refine List.Perm.trans ?_ h;simp
theorem allOf_push {pre:List Nd}{e:En}{m2:List (Nat × Lab × Tr)}{stk:List En}{t:Tr}(h:AllOf pre (fltn e.deep e.tree ++m2) stk t):AllOf pre m2 (stk ++ [e]) t:=by
 unfold AllOf at *;refine List.Perm.trans ?_ h;rw[efl_snoc]
 refine List.Perm.append_left _ ?_;rw[List.append_assoc]
 exact ((List.Perm.append_left m2 List.perm_append_comm).trans (by rw[←List.append_assoc,←List.append_assoc];exact List.Perm.append_right _ List.perm_append_comm))
theorem allOf_pop {pre:List Nd}{e:En}{stk:List En}{t:Tr}(h:AllOf pre [] (stk ++ [e]) t):AllOf pre (fltn e.deep e.tree) stk t:=by
 unfold AllOf at *;refine List.Perm.trans ?_ h;rw[efl_snoc]
 refine List.Perm.append_left _ ?_;exact List.perm_append_comm
theorem nodes1_in (F:Fence)(n:Nat)(h67:F.fn 146)(hro:F.round=none)(hn:1≤n)(hd:F.depth=none)(n0 D gb:Nat)(w0 w:World)(t:Tr)(av:Option Addr)(am ac:Nat)(hlow:Low n0 w0 w)(hn0:n0≤w.heap.size)
  (hgc:w.cell? ⟨gb,1,none⟩=some (.slice av am ac)) (ht:TAt (· < n0) w0 true t av 0 am) (hD:1+t.dep≤D) (hDb:D≤1000000000) (hmb:tw t≤200000) (hsz:t.sz≤1000000000∧t.afs) :
  MySeq F n Tryz.prog 146 #[.pointer (some ⟨gb,0,none⟩)] Nd.enc (Nd.ok n0 w0 D) n0 (fltn 1 t).length (fun xs=>(xs.map Nd.key).Perm (fltn 1 t)) (fun pre=>∃rest,(pre.map Nd.key ++rest).Perm (fltn 1 t)) w:=by
 intro l J Jx W hW hJ hJx hY h0;have hzW:=hW.size;have hlW:Low n0 w0 W:=fun k hk=>(hW.block k (by omega)).trans (hlow k hk)
 have hgW:W.cell? ⟨gb,1,none⟩=some (.slice av am ac):=(hW.cell (lt_of_cell? hgc)).trans hgc;obtain⟨i0,hi0,hz0,hz1,hz2⟩:=info_parts Tryz.info213
 have hst0:Wt n0 w0 W.heap.size D (.slice (some ⟨W.heap.size,0,none⟩) 1 1) (W.alloc (.cells #[.int .i64 1,.slice av am ac] 213)) [⟨1,t,av,am,ac⟩]:=by
  refine⟨?_,fun e he=>?_⟩
  ·exact World.ownsRow_lit W #[.int .i64 1,.slice av am ac] 1 (jG _) (by decide) rfl
  ·simp at he;subst he;exact⟨ht,hD,hsz⟩
 have hJ0:J [] (W.alloc (.cells #[.int .i64 1,.slice av am ac] 213)):=hJ _ _ _ h0 ((Below.refl _ _).alloc (jG _) _);have hl0:Low n0 w0 (W.alloc (.cells #[.int .i64 1,.slice av am ac] 213)):=fun k hk=>(zK _ _ _ (by omega)).trans (hlW k hk)
 have hall0:AllOf [] [] [⟨1,t,av,am,ac⟩] t:=by simp[AllOf,efl]
 refine callsIn_of_wp Tryz.func146 rfl h67 ?_ hro;simp only[Tryz.ntmps146,jN,jM,jP,Nat.reduceAdd,Nat.reduceSub,jI,jJ,jO,zN,jL,jK]
 gi_wp2
 gi_loopw [3] (fun lv wr=>∃(stk:List En) (pre:List Nd),Hid (Wt n0 w0 W.heap.size D lv wr stk)∧Hid (Low n0 w0 wr)∧Hid (J pre wr)∧Hid (AllOf pre [] stk t)∧Hid (ew stk≤1+tw t)∧W.heap.size≤wr.heap.size)
  (fun lv wr=>mu n0 w0 W.heap.size D lv wr)
 case atStart=>exact⟨_,[],hst0,hl0,hJ0,hall0,by show ew [(⟨1,t,av,am,ac⟩:En)]≤1+tw t;simp[ew],by simp⟩
 case round=>
  rename World=>w1
  obtain⟨stk,pre,HW,HL,HJ,HA,HE,hzr⟩:=hrel
  clear hst0 hl0 hJ0 hall0
  rcases List.eq_nil_or_concat stk with rfl | ⟨s,e,rfl⟩
  ·have hG:(pre.map Nd.key).Perm (fltn 1 t):=by have:=HA.out;simpa [AllOf,efl] using this
   obtain⟨a,c,hva⟩:∃a c,u3= .slice a 0 c:=by
    rcases HW.out.1.2 with ⟨h,_⟩ | ⟨g,cap,cur,h,_⟩
    ·exact⟨_,_,h⟩
    ·exact⟨_,_,h⟩
   subst hva
   gi_wp2
   go_end0
   exact⟨⟨_,rfl⟩,.inl ⟨pre,hG,HJ.out⟩⟩
  ·rw[List.concat_eq_append] at *
   have ho:=HW.out.1;rw[show (s ++ [e]).length=s.length+1 by simp,evs_snoc] at ho
   obtain⟨g,cap,hvg⟩:=ownsRow_succ' ho
   subst hvg;have hmu:=mu_eq HW.out;have heo:=HW.out.2 e (by simp);have hle2:=evs_len s;have q0:w1.cell? ⟨g,s.length * 2,none⟩=some (.int .i64 (e.deep:Int)):=by
    rw[ho.cellAt _ (by omega),zP (by omega),hle2]
    simp[En.val]
   have q1:w1.cell? ⟨g,s.length * 2+1,none⟩=some (.slice e.av e.am e.ac):=by
    rw[ho.cellAt _ (by omega),zP (by omega),hle2]
    simp[En.val]
   have hpop:=ownsRow_pop hle2 ho;have hcap:s.length+1≤cap:=by
    rcases ho.2 with ⟨h,_⟩ | ⟨g',cap',cur,h,_,_,hc,_⟩
    ·cases h
    ·simp at h;omega
   have hcm:cap≤maxLen:=by
    rcases ho.2 with ⟨h,_⟩ | ⟨g',cap',cur,h,_,_,_,hc,_⟩
    ·cases h
    ·simp at h;omega
   unfold maxLen at hcm;have hkm:s.length < 9223372036854775807:=by omega
   clear hle2;have hea:e.am≤1000000000:=by have:=heo.1.len;have:=e.tree.len_sz;have:=heo.2.2.1;omega
   have HMU:Hid (mu n0 w0 W.heap.size D (.slice (some ⟨g,0,none⟩) (s.length+1) cap) w1=ew s+1+tw e.tree):=by
    show _=_;rw[hmu,ew_snoc]
   have hEb:ew s+1+tw e.tree≤1+tw t:=by have:=HE.out;rwa [ew_snoc] at this
   obtain⟨b4,hb4⟩:∃b4,b4=w1.heap.size:=⟨_,rfl⟩
   have hg4:g < w1.heap.size:=(ho.lt g rfl).2;have hW2:Wt n0 w0 W.heap.size D (.slice (some ⟨g,0,none⟩) s.length cap) (w1.alloc (.cells #[.int .i64 (e.deep:Int),.slice e.av e.am e.ac] 213)) s:=⟨hpop.alloc _,fun x hx=>HW.out.2 x (by simp[hx])⟩;have hL2:=HL.out.alloc (.cells #[.int .i64 (e.deep:Int),.slice e.av e.am e.ac] 213) (by omega);have hJ2:=hJ _ _ (w1.alloc (.cells #[.int .i64 (e.deep:Int),.slice e.av e.am e.ac] 213)) HJ.out ((Below.refl _ _).alloc hzr _);have hA2:=allOf_pop HA.out;have h42:=row_new w1 #[.int .i64 (e.deep:Int),.slice e.av e.am e.ac] 213;clear hmu HW HL HJ HA HE hpop ho
   gi_wp2
   gi_loopw [3,30] (fun lv iv w2=>∃(stk:List En) (pre:List Nd) (rest:Tr) (i:Nat),iv= .int .i64 i∧i≤e.am∧Hid (Wt n0 w0 W.heap.size D lv w2 stk)∧Hid (TAt (· < n0) w0 true rest e.av i e.am)∧Hid (Low n0 w0 w2)∧Hid (J pre w2)∧Hid (AllOf pre (fltn e.deep rest) stk t)∧
     Hid (ew stk+tw rest=ew s+tw e.tree)∧Hid (w2.heap[w1.heap.size]? =some (.cells #[.int .i64 (e.deep:Int),.slice e.av e.am e.ac] 213 (0,0)))∧Hid (lv.ownBlock≠some w1.heap.size)∧Hid (e.deep+rest.dep≤D)∧Hid (rest.sz≤1000000000∧rest.afs)∧W.heap.size≤w2.heap.size)
    (fun _ iv _=>e.am - (intOf iv).toNat)
   case atStart=>exact⟨s,pre,e.tree,0,rfl,zE _,hW2,heo.1,hL2,hJ2,hA2,rfl,h42,by show Value.ownBlock _≠_;simp[Value.ownBlock];omega,heo.2.1,heo.2.2,by simp;omega⟩
   case round=>
    obtain⟨stk2,pre2,rest2,i2,rfl,hi2,HW2,HT2,HL2,HJ2,HA2,HC2,H42,HN2,HD2,HS2,hz2'⟩:=hrel
    clear hW2 hL2 hJ2 hA2 h42;cases rest2 with
    | e=>
     have hie:i2=e.am:=HT2.out;subst hie
     gi_wp2
     go_roundw
     case rel=>exact⟨stk2,pre2,HW2,HL2,HJ2,HA2,by show ew stk2≤1+tw t;have:=HC2.out;simp[tw] at this;omega,hz2'⟩
     case measure=>
      rw[mu_eq HW2.out,HMU.out]
      have:=HC2.out;simp[tw] at this
      omega
    | n ln tn rn=>have:=HT2.out.1;simp at this
    | b x r=>
     obtain⟨_,hlt2,⟨bb,boff,bv,bm,bc,hav,hbp,hbc,hbx⟩,hrr⟩:=HT2.out
     have cb:=HL2.out.cell hbp hbc;rename World=>w2
     have hfl:fltn e.deep (.b x r)=fltn e.deep x ++fltn e.deep r:=rfl;have hdx:e.deep+x.dep≤D∧e.deep+r.dep≤D:=by have:=HD2.out;simp[Tr.dep] at this;omega
     have hsx:(x.sz≤1000000000∧x.afs)∧(r.sz≤1000000000∧r.afs):=by
      have h:=HS2.out;have h1:=h.1;simp only[Tr.sz] at h1;exact⟨⟨by omega,h.2.1⟩,⟨by omega,h.2.2⟩⟩
     have hbm:bm≤1000000000:=by have:=hbx.len;have:=x.len_sz;have:=hsx.1.1;omega
     have hC:ew stk2+tw x+tw r=ew s+tw e.tree:=by have:=HC2.out;simp[tw] at this;omega
     have hA3:=HA2.out;rw[hfl] at hA3
     have hW3:=HW2.out.alloc (.cells #[.slice bv bm bc] 119);have hL3:=HL2.out.alloc (.cells #[.slice bv bm bc] 119) (by omega);have hJ3:=hJ _ _ (w2.alloc (.cells #[.slice bv bm bc] 119)) HJ2.out ((Below.refl _ _).alloc hz2' _);have h43:=row_alloc H42.out (.cells #[.slice bv bm bc] 119);have hil:(i2:Int) < (e.am:Int):=by omega
     obtain⟨ed,et,eav,eam,eac⟩:=e
     dsimp only at *;subst hav;clear HT2 HW2 HL2 HJ2 HA2 HC2 H42 hfl
     gi_wp2
     gi_loopw [3,37] (fun lv iv w3=>∃(stk:List En) (pre:List Nd) (rn:Tr) (k:Nat),iv= .int .i64 k∧k≤bm∧Hid (Wt n0 w0 W.heap.size D lv w3 stk)∧Hid (TAt (· < n0) w0 false rn bv k bm)∧Hid (Low n0 w0 w3)∧Hid (J pre w3)∧Hid (AllOf pre (fltn ed rn ++fltn ed r) stk t)∧
       Hid (ew stk+tw rn+tw r=ew s+tw et)∧Hid (w3.heap[w1.heap.size]? =some (.cells #[.int .i64 (ed:Int),.slice (some ⟨bb,boff,none⟩) eam eac] 213 (0,0)))∧Hid (lv.ownBlock≠some w1.heap.size)∧Hid (ed+rn.dep≤D)∧Hid (rn.sz≤1000000000∧rn.afs)∧W.heap.size≤w3.heap.size)
      (fun _ iv _=>bm - (intOf iv).toNat)
     case atStart=>exact⟨stk2,pre2,x,0,rfl,zE _,hW3,hbx,hL3,hJ3,hA3,hC,h43,HN2,hdx.1,hsx.1,by simp;omega⟩
     case round=>
      obtain⟨stk3,pre3,rn3,k3,rfl,hk3,HW3,HT3,HL3,HJ3,HA3,HC3,H43,HN3,HD3,HS3,hz3⟩:=hrel
      clear hW3 hL3 hJ3 hA3 h43;rename World=>w3
      cases rn3 with
      | b _ _=>have:=HT3.out.1;simp at this
      | e=>
       have hie:k3=bm:=HT3.out;subst hie
       gi_wp2
       go_roundw
       case rel=>exact⟨stk3,pre3,r,i2+1,by go_num,by omega,HW3,hrr,HL3,HJ3,HA3,by show ew stk3+tw r=_;have:=HC3.out;simp[tw] at this;omega,H43,HN3,hdx.2,hsx.2,hz3⟩
       case measure=>simp[intOf];omega
      | n ln tn rn=>
       obtain⟨_,hlt3,⟨nb,noff,sv,sm,sc,nav,nam,nac,hbv,hnp,c0,c1,c2,c3,c4,c5,hss,htn⟩,hrn⟩:=HT3.out
       have d0:=HL3.out.cell hnp c0;have d1:=HL3.out.cell hnp c1;have d2:=HL3.out.cell hnp c2;have d3:=HL3.out.cell hnp c3;have d4:=HL3.out.cell hnp c4;have d5:=HL3.out.cell hnp c5;subst hbv;have hkl:(k3:Int) < (bm:Int):=by omega
       obtain⟨o8,ho8⟩:∃o8:Obj,o8= .cells #[.string ⟨ln.name.toArray⟩,.string ⟨ln.undo.toArray⟩,.slice sv sm sc,.bool ln.sub,.bool ln.vital,.slice nav nam nac] 104:=⟨_,rfl⟩
       have hW4:=HW3.out.alloc o8;have hL4:=HL3.out.alloc o8 (by omega);have hJ4:=hJ _ _ (w3.alloc o8) HJ3.out ((Below.refl _ _).alloc hz3 _);have h44:=row_alloc H43.out o8;have e0:=(cell_row h44 0).trans rfl;have hde:ed+ (if ln.sub then tn.dep+1 else 0)≤D∧ed+rn.dep≤D:=by
        have h:=HD3.out;have l1:=Nat.le_max_left (if ln.sub then tn.dep+1 else 0) rn.dep;have l2:=Nat.le_max_right (if ln.sub then tn.dep+1 else 0) rn.dep;rw[show (Tr.n ln tn rn).dep=max (if ln.sub then tn.dep+1 else 0) rn.dep from rfl] at h
        omega
       have hsz4:(tn.sz≤1000000000∧tn.afs)∧(rn.sz≤1000000000∧rn.afs):=by
        have h:=HS3.out;have h1:=h.1;simp only[Tr.sz] at h1;exact⟨⟨by omega,h.2.2.1⟩,⟨by omega,h.2.2.2⟩⟩
       obtain⟨fn,tmps,assign,body,hy,hR⟩:=hY pre3 ⟨ed,ln,tn,sv,sm,sc,nav,nam,nac⟩ (w3.alloc o8) hJ4 ⟨hss,htn,by show ed≤D;omega,HS3.out.2.1⟩ (by have:=HA3.out.length_eq;simp[fltn] at this;omega)
       dsimp only[Nd.enc] at hy
       rw[ho8] at hy hR hW4 hL4 hJ4 h44 e0
       gi_wp2
       refine hR.mono ?_;rintro e5 w5 (⟨rfl,hJ5,hk5⟩ | ⟨rfl,hJx5⟩)
       ·have hA5:AllOf (pre3 ++ [⟨ed,ln,tn,sv,sm,sc,nav,nam,nac⟩]) ((if ln.sub then fltn (ed+1) tn else []) ++ (fltn ed rn ++fltn ed r)) stk3 t:=by
         have h:=HA3.out;have h2:=allOf_next (x:=⟨ed,ln,tn,sv,sm,sc,nav,nam,nac⟩) (m1:=(if ln.sub then fltn (ed+1) tn else []) ++fltn ed rn) (m2:=fltn ed r) h
         rwa [List.append_assoc] at h2
        have hW5:=hW4.kept hk5;have hL5:=hL4.kept hk5;have hw1:w1.heap.size < w3.heap.size:=(jD.1 H43.out).1;have hz5:=hk5.size;simp at hz5;have h45:=(hk5.high w1.heap.size (by omega) (by simp;omega)).trans h44;have h85:=(hk5.high w3.heap.size (by omega) (by simp)).trans (row_new w3 #[.string ⟨ln.name.toArray⟩,.string ⟨ln.undo.toArray⟩,.slice sv sm sc,.bool ln.sub,.bool ln.vital,.slice nav nam nac] 104);have s3:=(cell_row h85 3).trans rfl;have s5:=(cell_row h85 5).trans rfl;have e05:=(cell_row h45 0).trans rfl;have hC5:ew stk3+ ((if ln.sub then 1+tw tn else 0)+tw rn)+tw r=ew s+tw et:=HC3.out;have hsl:stk3.length≤1000000:=by have:=ew_len stk3;omega
        clear hW4 hL4 hJ4 h44 hy hR HA3 HC3 HW3 HL3 HJ3 HT3 d0 d1 d2 d3 d4 d5 c0 c1 c2 c3 c4 c5 e0;cases hsb:ln.sub with
        | true=>
         rw[hsb] at hde hA5 hC5 s3
         simp only[if_true] at hde hA5 hC5
         gi_wp2_with (gi_at_builtin;refine wpListIn_append_own_at _ rfl _ _ 214 rfl W.heap.size 213 i0 _ 2 32 Tryz.underlying214 hi0 hz0 hz1 hz2 rfl (by decide) _ stk3.length (evs stk3) rfl (hW5.1.alloc _) ⟨w5.heap.size,0,none⟩ 1 1 [.int .i64 ((ed:Int)+1),.slice nav nam nac] rfl rfl (new_cells w5 [.int .i64 ((ed:Int)+1),.slice nav nam nac] 213) (by simp[Value.oneCell']) (by unfold maxLen;omega) (by omega) (by simp;omega) ?_;intro v6 w6 ho6 hg6 _ hat6;obtain⟨g6,cap6,rfl⟩:=ownsRow_succ' ho6)
         have hob:∀q,u3.ownBlock=some q→W.heap.size≤q∧q < w5.heap.size:=fun q hq=>hW5.1.lt q hq
         have hg6':(w5.alloc (.cells #[.int .i64 ((ed:Int)+1),.slice nav nam nac] 213)).grownBy w6 u3.ownBlock:=hg6;have hat6':(Value.slice (some ⟨g6,0,none⟩) (stk3.length+1) cap6).ownBlock=u3.ownBlock∨(Value.slice (some ⟨g6,0,none⟩) (stk3.length+1) cap6).ownBlock=some (w5.alloc (.cells #[.int .i64 ((ed:Int)+1),.slice nav nam nac] 213)).heap.size:=hat6;have hz6:w5.heap.size≤w6.heap.size:=by have:=hg6'.size;simp at this;omega
         have hbk:∀q,q < w5.heap.size→u3.ownBlock≠some q→w6.heap[q]? =w5.heap[q]? :=fun q hq hn=>by
          rw[hg6'.block q (by simp;omega) (fun h=>hn h.symm),zK _ _ _ hq]
         clear hg6 hat6
         go_roundw
         case rel=>
          refine⟨stk3 ++ [(⟨ed+1,tn,nav,nam,nac⟩:En)],pre3 ++ [(⟨ed,ln,tn,sv,sm,sc,nav,nam,nac⟩:Nd)],rn,k3+1,by go_num,by omega,?_,hrn,?_,?_,?_,?_,?_,?_,hde.2,hsz4.2,by omega⟩
          ·refine⟨?_,fun y hy=>?_⟩
           ·rw[evs_snoc,show (stk3 ++ [(⟨ed+1,tn,nav,nam,nac⟩:En)]).length=stk3.length+1 by simp]
            exact ho6
           ·rcases jX.1 hy with hy | hy
            ·exact hW5.2 y hy
            ·simp at hy;subst hy;exact⟨htn,by show ed+1+tn.dep≤D;omega,hsz4.1⟩
          ·exact fun q hq=>(hbk q (by omega) (fun h=>by have:=(hob q h).1;omega)).trans (hL5 q hq)
          ·exact hJ _ _ _ hJ5 ⟨hg6'.os,hg6'.tape,hg6'.output,hz6,fun q hq=>hbk q (by omega) (fun h=>by have:=(hob q h).1;omega)⟩
          ·exact allOf_push (e:=⟨ed+1,tn,nav,nam,nac⟩) hA5
          ·show ew (stk3 ++ [(⟨ed+1,tn,nav,nam,nac⟩:En)])+tw rn+tw r=_;rw[ew_snoc]
           show ew stk3+1+tw tn+tw rn+tw r=_;omega
          ·exact (hbk w1.heap.size (by omega) HN3.out).trans h45
          ·show Value.ownBlock _≠_
           rcases hat6' with h | h
           ·rw[h];exact HN3.out
           ·rw[h];simp;omega
         case measure=>simp[intOf];omega
        | false=>
         rw[hsb] at hde hA5 hC5 s3
         simp only[Bool.false_eq_true,if_false,jL] at hde hA5 hC5
         gi_wp2
         go_roundw
         case rel=>exact⟨stk3,pre3 ++ [(⟨ed,ln,tn,sv,sm,sc,nav,nam,nac⟩:Nd)],rn,k3+1,by go_num,by omega,hW5,hrn,hL5,hJ5,hA5,by show _=_;omega,h45,HN3,hde.2,hsz4.2,by omega⟩
         case measure=>simp[intOf];omega
       ·have hA5:AllOf (pre3 ++ [⟨ed,ln,tn,sv,sm,sc,nav,nam,nac⟩]) ((if ln.sub then fltn (ed+1) tn else []) ++fltn ed rn ++fltn ed r) stk3 t:=allOf_next (x:=⟨ed,ln,tn,sv,sm,sc,nav,nam,nac⟩) (m1:=(if ln.sub then fltn (ed+1) tn else []) ++fltn ed rn) (m2:=fltn ed r) HA3.out
        gi_wp2
        refine bodyPost_ret (results_none rfl _ _ _) rfl ?_;exact⟨⟨_,rfl⟩,.inr ⟨_,⟨_,hA5⟩,hJx5⟩⟩
end Go.Proofs.YtieoppabellafaaGreatDoor.Sx
namespace Go.Proofs.YtieoppabellafaaGreatDoor.Sx
open Go.RowKit Go.Shelf
attribute [local go_sem] Oper.semAt_some
theorem nodes_in (F:Fence)(n:Nat)(h39:F.fn 109)(hro:F.round=none)(x y:Value)(w:World) :
  CallsIn F n Tryz.prog 109 #[.agg #[x,y]] w fun e w'=>e= .returned (.func (.func 146) #[] #[.pointer (some ⟨w.heap.size,0,none⟩)])∧w'=w.alloc (.cells #[x,y] 24):=by
 refine callsIn_of_wp Tryz.func109 rfl h39 ?_ hro;simp only[Tryz.ntmps109,jN,jM,jP,Nat.reduceAdd,Nat.reduceSub,jI,jJ,jO,zN,jL,jK]
 gi_wp2
 go_ret
 exact⟨rfl,rfl⟩
structure Bnd (t:Tr):Prop where
 dep:t.dep≤100000000
 tw:tw t≤200000
 sz:t.sz≤1000000000∧t.afs
 cn:(fltn 1 t).length≤1000000000
theorem count_any (w:World)(x:ByteArray)(t:Tr)(av:Option Addr)(am ac:Nat)(ht:TAt (· < w.heap.size) w true t av 0 am)(hb:Bnd t) :
  Calls Tryz.prog 76 #[.agg #[.string x,.slice av am ac]] w fun e w'=>e= .returned (.int .i64 ((fltn 1 t).length:Int))∧Below w.heap.size w w':=by
 refine (callsIn_wide (n:=5)).1 ?_;refine callsIn_of_wp_marks Tryz.func76 rfl trivial ?_ rfl;simp only[Tryz.ntmps76,jN,jM,jP,Nat.reduceAdd,Nat.reduceSub,jI,jJ,jO,zN,jL,jK]
 gi_wp2_with (refine⟨trivial,?_⟩;gi_at_call 109;refine (nodes_in Fence.wide _ trivial rfl _ _ _).mono ?_;rintro e w' ⟨rfl,rfl⟩)
 obtain⟨Wl,hWl⟩:∃Wl,((w.alloc (.cells #[.string x,.slice av am ac] 24)).alloc (.cells #[.int .i64 0] 3)).alloc (.cells #[.string x,.slice av am ac] 24)=Wl:=⟨_,rfl⟩
 rw[hWl]
 have hz:Wl.heap.size=w.heap.size+3:=by rw[←hWl];simp
 have hcb:Wl.heap[w.heap.size+1]? =some (.cells #[.int .i64 0] 3 (0,0)):=by
  rw[←hWl]
  refine row_alloc ?_ _;have:=row_new (w.alloc (.cells #[.string x,.slice av am ac] 24)) #[.int .i64 0] 3
  rwa [jV] at this
 have hgb:Wl.heap[w.heap.size+2]? =some (.cells #[.string x,.slice av am ac] 24 (0,0)):=by
  rw[←hWl]
  have:=row_new ((w.alloc (.cells #[.string x,.slice av am ac] 24)).alloc (.cells #[.int .i64 0] 3)) #[.string x,.slice av am ac] 24
  simpa using this
 have hbl:Below w.heap.size w Wl:=by
  rw[←hWl]
  exact (((Below.refl _ w).alloc (jG _) _).alloc (by simp) _).alloc (by simp;omega) _
 clear hWl;have hseq:=nodes1_in Fence.wide 4 trivial rfl (by omega) rfl w.heap.size (1+t.dep) (w.heap.size+2) w Wl t av am ac (fun k hk=>hbl.block k hk) (by omega) ((cell_row hgb 1).trans rfl) ht (jG _) (by have:=hb.dep;omega) hb.tw hb.sz;refine range_mine (n:=5) rfl (by omega) (gf:=146) (lb:= #[.pointer (some ⟨w.heap.size+2,0,none⟩)]) rfl trivial (enters_of Tryz.func146 (by kernel_rfl) rfl) hseq (by omega) (fun _=>rfl)
  (fun pre W=>W.heap[w.heap.size+1]? =some (.cells #[.int .i64 (pre.length:Int)] 3 (0,0))∧Below w.heap.size w W) (fun _ _=>False)
  (fun s A B hs hB=>⟨(hB.block _ (by omega)).trans hs.1,hs.2.trans (hB.mono (by omega))⟩) (fun _ _ _ h _=>h) ⟨hcb,hbl⟩ ?round ?done ?stop
 case round=>
  rintro l pre y W hV hN ⟨hc,hB⟩ hlt;obtain⟨yd,yl,ya,ysv,ysm,ysc,yav,yam,yac⟩:=y
  simp only[Nd.enc];simp[-Array.foldl_toList]
  gi_wp2
  refine⟨⟨hc,hB⟩,Kr.refl _ _ _,?_⟩
  intro W2 hc2 hB2 hk2;have c0:=(cell_row hc2 0).trans rfl;have f0:=froz_row hc2 0;have hn:=hb.cn;have hln:pre.length < 1000000000:=by omega
  gi_wp2
  refine⟨Kr.setCell _ _ (by omega) (by omega),?_,?_⟩
  ·have:=row_set hc2 0 (.int .i64 ((pre.length:Int)+1))
   simpa using this
  ·exact hB2.setCell (p:=⟨w.heap.size+1,0,none⟩) (by show w.heap.size≤w.heap.size+1;omega) _
 case done=>
  rintro xs W hS ⟨hc,hB⟩ hK;have c0:=(cell_row hc 0).trans rfl;have hl:(xs.length:Int)=((fltn 1 t).length:Int):=by have:=hS.length_eq;simp at this;omega
  gi_wp2
  refine⟨by simp,.inl ⟨_,_,rfl,run_takeDeferred hK,?_⟩⟩
  refine⟨_,results_tmp rfl _ _ _,?_,?_⟩
  ·rw[←hl];rfl
  ·exact hB.trans (below_putObj _ _ _ (by omega) (jD.1 hK).1)
 case stop=>rintro pre W _ h _;exact h.elim
end Go.Proofs.YtieoppabellafaaGreatDoor.Sx
namespace Go.Proofs.YtieoppabellafaaGreatDoor.Sx
open Go.RowKit Go.Shelf
attribute [local go_sem] Oper.semAt_some
def mx:List (Nat × Lab × Tr)→Nat
 | []=>0
 | (d,l,_) :: r=>max (if l.sub then d+1 else 0) (mx r)
theorem mx_append (a b:List (Nat × Lab × Tr)):mx (a ++b)=max (mx a) (mx b):=by
 induction a with
 | nil=>simp[mx]
 | cons x a ih=>obtain⟨d,l,t⟩:=x;simp[mx,ih,Nat.max_assoc]
theorem mx_perm {a b:List (Nat × Lab × Tr)}(h:a.Perm b):mx a=mx b:=by
 induction h with
 | nil=>rfl
 | cons x _ ih=>obtain⟨d,l,t⟩:=x;simp[mx,ih]
 | swap x y l=>
  obtain⟨d,l1,t⟩:=x
  obtain⟨d',l2,t'⟩:=y
  simp only[mx];omega
 | trans _ _ h1 h2=>rw[h1,h2]
theorem mx_flat (t:Tr):∀d,(t.dep=0→mx (fltn d t)=0)∧(t.dep≠0→mx (fltn d t)=d+t.dep):=by
 induction t with
 | e=>intro d;simp[fltn,mx,Tr.dep]
 | b x r ih1 ih2=>
  intro d;have e1:=ih1 d;have e2:=ih2 d;have hd:(Tr.b x r).dep=max x.dep r.dep:=rfl;have hm:mx (fltn d (.b x r))=max (mx (fltn d x)) (mx (fltn d r)):=mx_append _ _;rw[hd,hm]
  omega
 | n l x r ih1 ih2=>
  intro d;have e1:=ih1 (d+1);have e2:=ih2 d
  by_cases hs:l.sub=true
  ·have hd:(Tr.n l x r).dep=max (x.dep+1) r.dep:=by simp[Tr.dep,hs]
   have hm:mx (fltn d (.n l x r))=max (d+1) (max (mx (fltn (d+1) x)) (mx (fltn d r))):=by simp[fltn,mx,mx_append,hs]
   rw[hd,hm]
   omega
  ·have hd:(Tr.n l x r).dep=r.dep:=by simp[Tr.dep,hs]
   have hm:mx (fltn d (.n l x r))=mx (fltn d r):=by simp[fltn,mx,hs]
   rw[hd,hm]
   exact e2
def over (x:Nat × Lab × Tr):Bool:=x.2.1.sub && x.1==70
theorem depth_any (w:World)(x:ByteArray)(t:Tr)(av:Option Addr)(am ac:Nat)(ht:TAt (· < w.heap.size) w true t av 0 am)(hb:Bnd t) :
  Calls Tryz.prog 75 #[.agg #[.string x,.slice av am ac]] w fun e w'=>e= .returned (.int .i64 ((1+t.dep:Nat):Int))∧Below w.heap.size w w':=by
 refine (callsIn_wide (n:=5)).1 ?_;refine callsIn_of_wp_marks Tryz.func75 rfl trivial ?_ rfl;simp only[Tryz.ntmps75,jN,jM,jP,Nat.reduceAdd,Nat.reduceSub,jI,jJ,jO,zN,jL,jK]
 gi_wp2_with (refine⟨trivial,?_⟩;gi_at_call 109;refine (nodes_in Fence.wide _ trivial rfl _ _ _).mono ?_;rintro e w' ⟨rfl,rfl⟩)
 obtain⟨Wl,hWl⟩:∃Wl,((w.alloc (.cells #[.string x,.slice av am ac] 24)).alloc (.cells #[.int .i64 1] 3)).alloc (.cells #[.string x,.slice av am ac] 24)=Wl:=⟨_,rfl⟩
 rw[hWl]
 have hz:Wl.heap.size=w.heap.size+3:=by rw[←hWl];simp
 have hcb:Wl.heap[w.heap.size+1]? =some (.cells #[.int .i64 1] 3 (0,0)):=by
  rw[←hWl]
  refine row_alloc ?_ _;have:=row_new (w.alloc (.cells #[.string x,.slice av am ac] 24)) #[.int .i64 1] 3
  rwa [jV] at this
 have hgb:Wl.heap[w.heap.size+2]? =some (.cells #[.string x,.slice av am ac] 24 (0,0)):=by
  rw[←hWl]
  have:=row_new ((w.alloc (.cells #[.string x,.slice av am ac] 24)).alloc (.cells #[.int .i64 1] 3)) #[.string x,.slice av am ac] 24
  simpa using this
 have hbl:Below w.heap.size w Wl:=by
  rw[←hWl]
  exact (((Below.refl _ w).alloc (jG _) _).alloc (by simp) _).alloc (by simp;omega) _
 clear hWl;have hseq:=nodes1_in Fence.wide 4 trivial rfl (by omega) rfl w.heap.size (1+t.dep) (w.heap.size+2) w Wl t av am ac (fun k hk=>hbl.block k hk) (by omega) ((cell_row hgb 1).trans rfl) ht (jG _) (by have:=hb.dep;omega) hb.tw hb.sz;refine range_mine (n:=5) rfl (by omega) (gf:=146) (lb:= #[.pointer (some ⟨w.heap.size+2,0,none⟩)]) rfl trivial (enters_of Tryz.func146 (by kernel_rfl) rfl) hseq (by omega) (fun _=>rfl)
  (fun pre W=>W.heap[w.heap.size+1]? =some (.cells #[.int .i64 ((max 1 (mx (pre.map Nd.key)):Nat):Int)] 3 (0,0))∧Below w.heap.size w W) (fun _ _=>False)
  (fun s A B hs hB=>⟨(hB.block _ (by omega)).trans hs.1,hs.2.trans (hB.mono (by omega))⟩) (fun _ _ _ h _=>h) ⟨hcb,hbl⟩ ?round ?done ?stop
 case round=>
  rintro l pre y W hV hN ⟨hc,hB⟩ hlt;obtain⟨yd,yl,ya,ysv,ysm,ysc,yav,yam,yac⟩:=y
  have hyd:yd≤1+t.dep:=hV.2.2.1;have hdb:=hb.dep;simp only[Nd.enc];simp[-Array.foldl_toList]
  gi_wp2
  have hz0:=hB.size;refine⟨⟨row_alloc hc _,hB.alloc hz0 _⟩,Kr.of_below ((Below.refl _ _).alloc (jG _) _) (by omega),?_⟩
  intro W2 hc2 hB2 hk2;have c0:=(cell_row hc2 0).trans rfl;have f0:=froz_row hc2 0;have hn2:=(hk2.high W.heap.size (by omega) (by simp)).trans (row_new W #[.string ⟨yl.name.toArray⟩,.string ⟨yl.undo.toArray⟩,.slice ysv ysm ysc,.bool yl.sub,.bool yl.vital,.slice yav yam yac] 104);have s3:=(cell_row hn2 3).trans rfl;have hmx:mx ((pre ++ [(⟨yd,yl,ya,ysv,ysm,ysc,yav,yam,yac⟩:Nd)]).map Nd.key)=max (mx (pre.map Nd.key)) (if yl.sub then yd+1 else 0):=by
   simp[mx_append,mx,Nd.key]
  obtain⟨M,hM⟩:∃M,max 1 (mx (pre.map Nd.key))=M:=⟨_,rfl⟩
  rw[hM] at hc2 c0
  cases hs:yl.sub with
  | false=>
   rw[hs] at s3 hmx
   gi_wp2
   have he:max 1 (mx ((pre ++ [(⟨yd,yl,ya,ysv,ysm,ysc,yav,yam,yac⟩:Nd)]).map Nd.key))=M:=by
    rw[hmx]
    simp only[Bool.false_eq_true,if_false];omega
   refine⟨Kr.refl _ _ _,?_,hB2⟩
   show W2.heap[w.heap.size+1]? =some (.cells #[.int .i64 ((max 1 (mx ((pre ++ [(⟨yd,yl,ya,ysv,ysm,ysc,yav,yam,yac⟩:Nd)]).map Nd.key)):Nat):Int)] 3 (0,0));rw[he]
   exact hc2
  | true=>
   rw[hs] at s3 hmx
   have he:max 1 (mx ((pre ++ [(⟨yd,yl,ya,ysv,ysm,ysc,yav,yam,yac⟩:Nd)]).map Nd.key))=max M (yd+1):=by
    rw[hmx]
    simp only[if_true];omega
   have fin:∀(q:Nat) (aa:Act),q=max M (yd+1)→myPost w.heap.size Wl.heap.size (fun pre W=>W.heap[w.heap.size+1]? =some (.cells #[.int .i64 ((max 1 (mx (pre.map Nd.key)):Nat):Int)] 3 (0,0))∧Below w.heap.size w W) (fun _ _=>False)
     (pre ++ [(⟨yd,yl,ya,ysv,ysm,ysc,yav,yam,yac⟩:Nd)]) W2 .normal aa (W2.setCell ⟨w.heap.size+1,0,none⟩ (.int .i64 (q:Int))):=fun q _ hq=>by
    refine⟨Kr.setCell _ _ (by omega) (by omega),?_,hB2.setCell (p:=⟨w.heap.size+1,0,none⟩) (by show w.heap.size≤w.heap.size+1;omega) _⟩
    show (W2.setCell ⟨w.heap.size+1,0,none⟩ (.int .i64 (q:Int))).heap[w.heap.size+1]? =some (.cells #[.int .i64 ((max 1 (mx ((pre ++ [(⟨yd,yl,ya,ysv,ysm,ysc,yav,yam,yac⟩:Nd)]).map Nd.key)):Nat):Int)] 3 (0,0));rw[he,←hq]
    exact row_set hc2 0 _
   rw[hz] at fin
   gi_wp2
   all_goals first | exact fin M _ (by omega) | exact fin (yd+1) _ (by omega)
 case done=>
  rintro xs W hS ⟨hc,hB⟩ hK;have c0:=(cell_row hc 0).trans rfl;have hl:max 1 (mx (xs.map Nd.key))=1+t.dep:=by
   rw[mx_perm hS]
   have:=mx_flat t 1;omega
  rw[hl] at c0
  gi_wp2
  refine⟨by simp,.inl ⟨_,_,rfl,run_takeDeferred hK,?_⟩⟩
  refine⟨_,results_tmp rfl _ _ _,rfl,?_⟩
  exact hB.trans (below_putObj _ _ _ (by omega) (jD.1 hK).1)
 case stop=>rintro pre W _ h _;exact h.elim
end Go.Proofs.YtieoppabellafaaGreatDoor.Sx
