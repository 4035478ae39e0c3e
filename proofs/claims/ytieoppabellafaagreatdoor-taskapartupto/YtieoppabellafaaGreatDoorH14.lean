/- Texts of the seat, packed: Bk Ta Tb Tc Td Bl Ka Kza. -/
import Derived.Test.YtieoppabellafaaGreatDoorH01
import Derived.Test.YtieoppabellafaaGreatDoorH02
import Derived.Test.YtieoppabellafaaGreatDoorRows
import Derived.Test.YtieoppabellafaaGreatDoorH12
import Derived.Test.YtieoppabellafaaGreatDoorH03
import Derived.Test.YtieoppabellafaaGreatDoorH13
import Derived.Test.YtieoppabellafaaGreatDoorChecked
import Derived.Deep.SlicePairs
import Derived.Deep.Strs
import Derived.OpenShut
set_option maxRecDepth 1000000
set_option maxHeartbeats 64000000
set_option linter.unusedVariables false
namespace Go.Proofs.YtieoppabellafaaGreatDoor.Sx
open Go.RowKit Go.ChangeShapes Go.WideShapes
theorem Tryz.cells104:Tryz.prog.cellsOf 104=6:=by kernel_rfl
theorem Tryz.cells119:Tryz.prog.cellsOf 119=1:=by kernel_rfl
theorem Tryz.cells24:Tryz.prog.cellsOf 24=2:=by kernel_rfl
theorem Tryz.cells22:Tryz.prog.cellsOf 22=1:=by kernel_rfl
theorem Tryz.cells117:Tryz.prog.cellsOf 117=1:=by kernel_rfl
theorem Tryz.cells102:Tryz.prog.cellsOf 102=1:=by kernel_rfl
def afB (l:List By):Nat:=(l.map fun y=>y.length+1).sum
def bkT:Tr→Nat
 | .e=>0
 | .b x r=>bkT x+bkT r+1
 | .n l t r=>l.name.length+l.undo.length+afB l.after+bkT t+bkT r+7
theorem ba_list2 (s:ByteArray):(⟨s.data.toList.toArray⟩:ByteArray)=s:=by cases s;simp
variable {H:Type}{enc:TypeId × Value→H}{w:World}{base:Nat}{spare:Nat→Bool}{held:Bool}
theorem bk_lit (s:List UInt8):Rows.uptoBulk (.lit (.string s):DataW H)=s.length+1:=by simp[Rows.uptoBulk]
theorem bk_nil:Rows.uptoBulk (.nil:DataW H)=1:=by simp[Rows.uptoBulk]
theorem bk_slice (a b:List (DataW H)):Rows.uptoBulk (.slice a b:DataW H)=Rows.uptoBulkAll a+Rows.uptoBulkAll b+1:=by simp[Rows.uptoBulk]
theorem bk_agg (a:List (DataW H)):Rows.uptoBulk (.agg a:DataW H)=Rows.uptoBulkAll a+1:=by simp[Rows.uptoBulk]
theorem bk_all0:Rows.uptoBulkAll ([]:List (DataW H))=0:=by simp[Rows.uptoBulkAll]
theorem bk_all1 (d:DataW H)(r:List (DataW H)):Rows.uptoBulkAll (d :: r)=Rows.uptoBulk d+Rows.uptoBulkAll r:=by simp[Rows.uptoBulkAll]
theorem bk_pos (d:DataW H):1≤Rows.uptoBulk d:=by
 unfold Rows.uptoBulk
 split <;> omega
theorem bk_texts (f:Nat→ByteArray):∀l:List Nat,Rows.uptoBulkAll (l.map fun i=>(.lit (.string (f i).data.toList):DataW H))=afB (l.map fun i=>(f i).data.toList)
 | []=>by simp[bk_all0,afB]
 | i :: l=>by rw[zZ,zZ,bk_all1,bk_lit,bk_texts f l];simp[afB]
theorem open_textsB {fuel:Nat}{cs:List Value}{x:DataW H × List MemPlace}(h:DataW.trod enc Tryz.prog w base spare held fuel 102 cs=some x) :
  ∃a n c xs,cs=[.slice a n c]∧SAt (· < w.heap.size) w xs a n∧afB xs+1≤Rows.uptoBulk x.1:=by
 rcases Go.Deep.open_strs Tryz.underlying102 Tryz.underlying9 (by kernel_rfl) h with ⟨hcs,rfl⟩ | ⟨ad,l,c,m,Sx,hcs,_,hl,hm,hmm,rfl,hcell⟩
 ·exact⟨none,0,0,[],hcs,⟨rfl,by simp⟩,by rw[bk_nil];simp[afB]⟩
 ·have hlm:l≤m:=by rw[hmm];split <;> omega
  refine⟨some ad,l,c,(List.range l).map fun i=>(Sx i).data.toList,hcs,⟨by simp,fun i y hi=>?_⟩,?_⟩
  ·have hil:i < l:=by have:=(jH.1 hi).1;simpa using this
   have hy:y=(Sx i).data.toList:=by simp[hil] at hi;exact hi.symm
   subst hy;obtain⟨b,off,spot⟩:=ad
   have hspot:spot=none:=by simpa [Addr.add] using World.cell?_spot (hcell 0 (by omega)).1
   subst hspot;have hc:=(hcell i (by omega)).1;rw[add_plain] at hc
   exact⟨b,off,rfl,lt_of_cell? hc,by rw[ba_list2];exact hc⟩
  ·show _≤Rows.uptoBulk (DataW.slice _ _);rw[bk_slice,bk_texts]
   omega
def BdB (w:World)(b off i k:Nat):Prop:=∃v m c x,w.cell? ⟨b,off+i,none⟩=some (.slice v m c)∧TAt (· < w.heap.size) w false x v 0 m∧bkT x+1≤k
def NdB (w:World)(b off i k:Nat):Prop:=∃(l:Lab) (t:Tr) (sv:Option Addr) (sm sc:Nat) (av:Option Addr) (am ac:Nat),w.cell? ⟨b,off+i * 6,none⟩=some (.string ⟨l.name.toArray⟩)∧w.cell? ⟨b,off+i * 6+1,none⟩=some (.string ⟨l.undo.toArray⟩)∧
 w.cell? ⟨b,off+i * 6+2,none⟩=some (.slice sv sm sc)∧w.cell? ⟨b,off+i * 6+3,none⟩=some (.bool l.sub)∧w.cell? ⟨b,off+i * 6+4,none⟩=some (.bool l.vital)∧w.cell? ⟨b,off+i * 6+5,none⟩=some (.slice av am ac)∧
 SAt (· < w.heap.size) w l.after sv sm∧TAt (· < w.heap.size) w true t av 0 am∧l.name.length+l.undo.length+afB l.after+bkT t+7≤k
theorem build_bB (b off n:Nat)(es:List (DataW H × List MemPlace))(hn:es.length=n):∀k i,i+k=n→(∀j y,i≤j→es[j]? =some y→BdB w b off j (Rows.uptoBulk y.1))→∃t,TAt (· < w.heap.size) w true t (some ⟨b,off,none⟩) i n∧bkT t≤Rows.uptoBulkAll ((es.drop i).map (·.1)):=by
 intro k
 induction k with
 | zero=>intro i hi _;exact⟨.e,by show i=n;omega,zE _⟩
 | succ k ih=>
  intro i hi h;obtain⟨r,hr,hrb⟩:=ih (i+1) (by omega) (fun j y h1 h2=>h j y (by omega) h2)
  have hl:i < es.length:=by omega
  obtain⟨v,m,c,x,h1,h2,h3⟩:=h i es[i] (jG _) (jF hl)
  refine⟨.b x r,⟨rfl,by omega,⟨b,off,v,m,c,rfl,lt_of_cell? h1,h1,h2⟩,hr⟩,?_⟩
  rw[zU hl,zZ,bk_all1]
  show bkT x+bkT r+1≤_;omega
theorem build_nB (b off n:Nat)(es:List (DataW H × List MemPlace))(hn:es.length=n):∀k i,i+k=n→(∀j y,i≤j→es[j]? =some y→NdB w b off j (Rows.uptoBulk y.1))→∃t,TAt (· < w.heap.size) w false t (some ⟨b,off,none⟩) i n∧bkT t≤Rows.uptoBulkAll ((es.drop i).map (·.1)):=by
 intro k
 induction k with
 | zero=>intro i hi _;exact⟨.e,by show i=n;omega,zE _⟩
 | succ k ih=>
  intro i hi h;obtain⟨r,hr,hrb⟩:=ih (i+1) (by omega) (fun j y h1 h2=>h j y (by omega) h2)
  have hl:i < es.length:=by omega
  obtain⟨l,t,sv,sm,sc,av,am,ac,c0,c1,c2,c3,c4,c5,h1,h2,b1⟩:=h i es[i] (jG _) (jF hl)
  refine⟨.n l t r,⟨rfl,by omega,⟨b,off,sv,sm,sc,av,am,ac,rfl,lt_of_cell? c0,c0,c1,c2,c3,c4,c5,h1,h2⟩,hr⟩,?_⟩
  rw[zU hl,zZ,bk_all1]
  show l.name.length+l.undo.length+afB l.after+bkT t+bkT r+7≤_;omega
theorem open_treeB:∀(fuel:Nat),(∀cs (x:DataW H × List MemPlace),DataW.trod enc Tryz.prog w base spare held fuel 22 cs=some x→∃a n c t,cs=[.slice a n c]∧TAt (· < w.heap.size) w true t a 0 n∧bkT t+1≤Rows.uptoBulk x.1)∧
  (∀cs (x:DataW H × List MemPlace),DataW.trod enc Tryz.prog w base spare held fuel 117 cs=some x→∃a n c t,cs=[.slice a n c]∧TAt (· < w.heap.size) w false t a 0 n∧bkT t+1≤Rows.uptoBulk x.1):=by
 intro fuel
 induction fuel using Nat.strongRecOn with
 | ind fuel ih=>
 refine⟨fun cs x h=>?_,fun cs x h=>?_⟩
 ·rcases DataW.trod_slice Tryz.underlying22 h with ⟨rfl,rfl⟩ | ⟨ad,len,cap,elems,rest,n,hf,rfl,rfl,_,hl,hm,hel,hx,_,_⟩
  ·exact⟨none,0,0,.e,rfl,rfl,by rw[bk_nil];exact jG _⟩
  ·by_cases h0:len=0
   ·subst h0;exact⟨_,_,_,.e,rfl,rfl,by show 0+1≤Rows.uptoBulk (DataW.slice _ _);rw[bk_slice];omega⟩
   obtain⟨b,off,spot⟩:=ad
   have cellOf:∀i y,elems[i]? =some y→∃v,w.cell? ((⟨b,off,spot⟩:Addr).add (i * 1))=some v∧DataW.trod enc Tryz.prog w base spare held n 119 [v]=some y:=by
    intro i y hy;have hi:i < len:=by rw[←hel];exact (jH.1 hy).1
    have h1:=hx i hi;rw[Tryz.cells119,hy,Option.bind_eq_some_iff] at h1
    obtain⟨cs',h2,h3⟩:=h1
    obtain⟨_,hlen,hcell⟩:=World.cells?_some h2
    match cs',hlen with
    | [v],_=>
     have:=hcell 0 (by omega);rw[Go.Deep.add_add] at this
     exact⟨v,by simpa using this,h3⟩
   have hspot:spot=none:=by
    obtain⟨v,hv,_⟩:=cellOf 0 _ (jF (by omega))
    simpa [Addr.add] using World.cell?_spot hv
   subst hspot;have hall:∀j y,0≤j→elems[j]? =some y→BdB w b off j (Rows.uptoBulk y.1):=by
    intro j y _ hj;obtain⟨v,hv,hy⟩:=cellOf j y hj
    obtain⟨xs,n',hn',rfl,_,hxl,hfs⟩:=DataW.trod_struct Tryz.underlying119 hy
    have g:=hfs 0 _ rfl;simp[Tryz.cells117] at g
    have hx1:xs.length=1:=by simpa using hxl
    match xs,hx1 with
    | [d0],_=>
     simp only[zA] at g;obtain⟨a2,n2,c2,t2,e2,ht2,hb2⟩:=(ih n' (by omega)).2 _ _ g
     simp at e2;subst e2;rw[add_plain,Nat.mul_one] at hv
     refine⟨a2,n2,c2,t2,hv,ht2,?_⟩
     show _≤Rows.uptoBulk (DataW.agg _);rw[bk_agg,zZ,bk_all1]
     omega
   obtain⟨t,ht,hb⟩:=build_bB b off len elems hel len 0 (by omega) hall
   refine⟨_,_,_,t,rfl,ht,?_⟩
   show _≤Rows.uptoBulk (DataW.slice _ _);rw[bk_slice]
   rw[List.drop_zero] at hb
   omega
 ·rcases DataW.trod_slice Tryz.underlying117 h with ⟨rfl,rfl⟩ | ⟨ad,len,cap,elems,rest,n,hf,rfl,rfl,_,hl,hm,hel,hx,_,_⟩
  ·exact⟨none,0,0,.e,rfl,rfl,by rw[bk_nil];exact jG _⟩
  ·by_cases h0:len=0
   ·subst h0;exact⟨_,_,_,.e,rfl,rfl,by show 0+1≤Rows.uptoBulk (DataW.slice _ _);rw[bk_slice];omega⟩
   obtain⟨b,off,spot⟩:=ad
   have cellOf:∀i y,elems[i]? =some y→∃v0 v1 v2 v3 v4 v5,(∀j,j < 6→w.cell? ((⟨b,off,spot⟩:Addr).add (i * 6+j))=([v0,v1,v2,v3,v4,v5]:List Value)[j]?)∧DataW.trod enc Tryz.prog w base spare held n 104 [v0,v1,v2,v3,v4,v5]=some y:=by
    intro i y hy;have hi:i < len:=by rw[←hel];exact (jH.1 hy).1
    have h1:=hx i hi;rw[Tryz.cells104,hy,Option.bind_eq_some_iff] at h1
    obtain⟨cs',h2,h3⟩:=h1
    obtain⟨_,hlen,hcell⟩:=World.cells?_some h2
    match cs',hlen with
    | [v0,v1,v2,v3,v4,v5],_=>
     refine⟨v0,v1,v2,v3,v4,v5,fun j hj=>?_,h3⟩
     have:=hcell j hj
     rwa [Go.Deep.add_add] at this
   have hspot:spot=none:=by
    obtain⟨v0,v1,v2,v3,v4,v5,hv,_⟩:=cellOf 0 _ (jF (by omega))
    have:=hv 0 (by omega)
    simpa [Addr.add] using World.cell?_spot this
   subst hspot;have hall:∀j y,0≤j→elems[j]? =some y→NdB w b off j (Rows.uptoBulk y.1):=by
    intro j y _ hj;obtain⟨v0,v1,v2,v3,v4,v5,hv,hy⟩:=cellOf j y hj
    obtain⟨xs,n',hn',rfl,_,hxl,hfs⟩:=DataW.trod_struct Tryz.underlying104 hy
    have hx6:xs.length=6:=by simpa using hxl
    have g0:=hfs 0 _ rfl;have g1:=hfs 1 _ rfl;have g2:=hfs 2 _ rfl;have g3:=hfs 3 _ rfl;have g4:=hfs 4 _ rfl;have g5:=hfs 5 _ rfl
    match xs,hx6 with
    | [d0,d1,d2,d3,d4,d5],_=>
    simp[Tryz.cells9'] at g0 g1
    simp[Tryz.cells102] at g2
    simp[Tryz.cells4] at g3 g4
    simp[Tryz.cells22] at g5
    obtain⟨s0,e0,y0,z0⟩:=DataW.trod_string Tryz.underlying9 g0
    obtain⟨s1,e1,y1,z1⟩:=DataW.trod_string Tryz.underlying9 g1
    obtain⟨a2,n2,c2,xs2,e2,hs2,y2⟩:=open_textsB g2
    obtain⟨b3,e3,_⟩:=DataW.trod_bool Tryz.underlying4 g3
    obtain⟨b4,e4,_⟩:=DataW.trod_bool Tryz.underlying4 g4
    obtain⟨a5,n5,c5,t5,e5,ht5,hb5⟩:=(ih n' (by omega)).1 _ _ g5
    simp only[List.cons.injEq,and_true] at e0 e1 e2 e3 e4 e5;subst e0 e1 e2 e3 e4 e5;have k:∀q,q < 6→w.cell? ⟨b,off+j * 6+q,none⟩=([.string s0,.string s1,.slice a2 n2 c2,.bool b3,.bool b4,.slice a5 n5 c5]:List Value)[q]? :=fun q hq=>by
     have:=hv q hq
     rwa [add_plain,←Nat.add_assoc] at this
    refine⟨⟨s0.data.toList,s1.data.toList,xs2,b3,b4⟩,t5,a2,n2,c2,a5,n5,c5,?_,?_,k 2 (by omega),k 3 (by omega),k 4 (by omega),k 5 (by omega),hs2,ht5,?_⟩
    ·rw[ba_list2];exact k 0 (by omega)
    ·rw[ba_list2];exact k 1 (by omega)
    ·show _≤Rows.uptoBulk (DataW.agg _);have p3:=bk_pos d3.1;have p4:=bk_pos d4.1;rw[bk_agg]
     simp only[zZ,List.map_nil,bk_all1,bk_all0];rw[y0,y1,bk_lit,bk_lit]
     show s0.data.toList.length+s1.data.toList.length+afB xs2+bkT t5+7≤_;omega
   obtain⟨t,ht,hb⟩:=build_nB b off len elems hel len 0 (by omega) hall
   refine⟨_,_,_,t,rfl,ht,?_⟩
   show _≤Rows.uptoBulk (DataW.slice _ _);rw[bk_slice]
   rw[List.drop_zero] at hb
   omega
theorem open_sagaB {fuel:Nat}{cs:List Value}{x:DataW H × List MemPlace}(h:DataW.trod enc Tryz.prog w base spare held fuel 24 cs=some x) :
  ∃(nm:By) (a:Option Addr) (n c:Nat) (t:Tr),cs=[.string ⟨nm.toArray⟩,.slice a n c]∧TAt (· < w.heap.size) w true t a 0 n∧nm.length+bkT t+3≤Rows.uptoBulk x.1:=by
 obtain⟨xs,n',_,rfl,hcl,hxl,hfs⟩:=DataW.trod_struct Tryz.underlying24 h
 rw[Tryz.cells24] at hcl
 have hx2:xs.length=2:=by simpa using hxl
 match cs,hcl with
 | [v0,v1],_=>
  have g0:=hfs 0 _ rfl;have g1:=hfs 1 _ rfl
  match xs,hx2 with
  | [d0,d1],_=>
   simp[Tryz.cells9'] at g0
   simp[Tryz.cells22] at g1
   obtain⟨s0,e0,y0,z0⟩:=DataW.trod_string Tryz.underlying9 g0
   obtain⟨a,n,c,t,e1,ht,hb⟩:=(open_treeB n').1 _ _ g1
   simp only[List.cons.injEq,and_true] at e0 e1;subst e0 e1;refine⟨s0.data.toList,a,n,c,t,by rw[ba_list2],ht,?_⟩
   show _≤Rows.uptoBulk (DataW.agg _);rw[bk_agg]
   simp only[zZ,List.map_nil,bk_all1,bk_all0];rw[y0,bk_lit]
   omega
end Go.Proofs.YtieoppabellafaaGreatDoor.Sx
namespace Go.Proofs.YtieoppabellafaaGreatDoor
open Go.RowKit Go.Shelf Sx
def Kd:Bool→Tr→Prop
 | _,.e=>True
 | k,.b x r=>k=true∧Kd false x∧Kd true r
 | k,.n _ s r=>k=false∧Kd true s∧Kd false r
theorem TAt.kd {P:Nat→Prop}{w:World}(t:Tr):∀{k:Bool} {a:Option Addr} {i n:Nat},TAt P w k t a i n→Kd k t:=by
 induction t with
 | e=>intro _ _ _ _ _;trivial
 | b x r ih1 ih2=>
  rintro k a i n ⟨rfl,_,⟨_,_,_,_,_,_,_,_,hx⟩,hr⟩;exact⟨rfl,ih1 hx,ih2 hr⟩
 | n l s r ih1 ih2=>
  rintro k a i n ⟨rfl,_,⟨_,_,_,_,_,_,_,_,_,_,_,_,_,_,_,_,_,hs⟩,hr⟩;exact⟨rfl,ih1 hs,ih2 hr⟩
def pk (rec:Nat→Tr)(i alt:Nat)(ys:List Pd):List (Lab × Tr):=ys.flatMap fun y=>if y.inn=i∧y.alt=alt then [(y.lab,rec y.num)] else []
theorem pk_append (rec:Nat→Tr)(i alt:Nat)(a b:List Pd):pk rec i alt (a ++b)=pk rec i alt a ++pk rec i alt b:=by simp[pk]
theorem pk_cons (rec:Nat→Tr)(i alt:Nat)(y:Pd)(b:List Pd):pk rec i alt (y :: b)=(if y.inn=i∧y.alt=alt then [(y.lab,rec y.num)] else []) ++pk rec i alt b:=by simp[pk]
theorem pk_none {rec:Nat→Tr}{i alt:Nat}{ys:List Pd}(h:∀y∈ys,¬(y.inn=i∧y.alt=alt)):pk rec i alt ys=[]:=by
 unfold pk;rw[List.flatMap_eq_nil_iff]
 intro y hy;rw[if_neg (h y hy)]
theorem xsT_at (t:Tr):∀(inn alt last:Nat),∀y∈xsT t inn alt last,last < y.num∧y.num≤last+cntA t∧(y.inn=inn∨last < y.inn)∧y.inn≤inn+last+cntA t∧(inn≤last→y.inn < y.num):=by
 induction t with
 | e=>intro _ _ _ y hy;cases hy
 | b x r ih1 ih2=>
  intro inn alt last y hy;rw[xsT,jX] at hy
  rcases hy with hy | hy
  ·obtain⟨h1,h2,h3,h4,h5⟩:=ih1 _ _ _ y hy
   refine⟨h1,?_,h3,?_,h5⟩ <;> simp only[cntA] <;> omega
  ·obtain⟨h1,h2,h3,h4,h5⟩:=ih2 _ _ _ y hy
   refine⟨by omega,?_,by omega,?_,fun h=>h5 (by omega)⟩ <;> simp only[cntA] <;> omega
 | n l s r ih1 ih2=>
  intro inn alt last y hy;rw[xsT,zJ,jX] at hy
  rcases hy with rfl | hy | hy
  ·refine⟨by show last < last+1;omega,?_,.inl rfl,?_,fun h=>?_⟩
   ·simp only[cntA];omega
   ·simp only[];omega
   ·show inn < last+1;omega
  ·obtain⟨h1,h2,h3,h4,h5⟩:=ih1 _ _ _ y hy
   refine⟨by omega,?_,by omega,?_,fun _=>h5 (by omega)⟩
   ·simp only[cntA];omega
   ·simp only[cntA];have:=h5 (by omega);omega
  ·obtain⟨h1,h2,h3,h4,h5⟩:=ih2 _ _ _ y hy
   refine⟨by omega,?_,by omega,?_,fun h=>h5 (by omega)⟩ <;> simp only[cntA] <;> omega
theorem xsT_alt (t:Tr):∀(k:Bool) (inn alt last:Nat),Kd k t→inn≤last→∀y∈xsT t inn alt last,y.inn=inn→(k=false→y.alt=alt)∧alt≤y.alt:=by
 induction t with
 | e=>intro _ _ _ _ _ _ y hy;cases hy
 | b x r ih1 ih2=>
  rintro k inn alt last ⟨rfl,hx,hr⟩ hl y hy hi;rw[xsT,jX] at hy
  rcases hy with hy | hy
  ·exact⟨fun h=>(by cases h),(ih1 _ _ _ _ hx hl y hy hi).2⟩
  ·exact⟨fun h=>(by cases h),by have:=(ih2 _ _ _ _ hr (by omega) y hy hi).2;omega⟩
 | n l s r ih1 ih2=>
  rintro k inn alt last ⟨rfl,hs,hr⟩ hl y hy hi;rw[xsT,zJ,jX] at hy
  rcases hy with rfl | hy | hy
  ·exact⟨fun _=>rfl,jG _⟩
  ·have:=(xsT_at s _ _ _ y hy).2.2.1;omega
  ·exact ih2 _ _ _ _ hr (by omega) y hy hi
theorem xsT_num (t:Tr):∀(inn alt last j:Nat) (y:Pd),(xsT t inn alt last)[j]? =some y→y.num=last+1+j:=by
 induction t with
 | e=>intro _ _ _ j y h;simp[xsT] at h
 | b x r ih1 ih2=>
  intro inn alt last j y h;rw[xsT] at h
  by_cases hj:j < (xsT x inn alt last).length
  ·rw[zO hj] at h
   exact ih1 _ _ _ _ _ h
  ·rw[zP (by omega),xsT_len] at h
   rw[xsT_len] at hj
   have:=ih2 _ _ _ _ _ h;omega
 | n l s r ih1 ih2=>
  intro inn alt last j y h;rw[xsT] at h
  cases j with
  | zero=>
   simp only[zA,Option.some.injEq] at h;subst h;rfl
  | succ j=>
   rw[jZ] at h
   by_cases hj:j < (xsT s (last+1) 0 (last+1)).length
   ·rw[zO hj] at h
    have:=ih1 _ _ _ _ _ h;omega
   ·rw[zP (by omega),xsT_len] at h
    rw[xsT_len] at hj
    have:=ih2 _ _ _ _ _ h;omega
structure Tells (its:List It)(xs:List Pd):Prop where
 len:its.length=xs.length+1
 root:∀y,its[0]? =some y→y.inn= -1
 at_:∀(j:Nat) (y:Pd),xs[j]? =some y→y.num=j+1∧y.inn≤j∧∃z,its[j+1]? =some z∧z.inn=(y.inn:Int)∧z.alt=(y.alt:Int)∧z.alts=(y.am:Int)∧labI its z=y.lab
theorem kidsT_pk {its:List It}{xs:List Pd}(h:Tells its xs)(rec:Nat→Tr)(i alt:Nat):∀k,k≤xs.length→kidsT its rec i alt (k+1)=pk rec i alt (xs.take k)
 | 0,_=>by
  obtain⟨y,hy⟩:∃y,its[0]? =some y:=⟨_,jF (by rw[h.len];omega)⟩
  have:=h.root y hy;rw[kidsT,kidsT,hy]
  simp only[jL];rw[if_neg (by omega)]
  rfl
 | k+1,hk=>by
  obtain⟨y,hy⟩:∃y,xs[k]? =some y:=⟨_,jF (by omega)⟩
  obtain⟨h1,_,z,h2,h3,h4,_,h5⟩:=h.at_ k y hy
  rw[kidsT,kidsT_pk h rec i alt k (by omega),zL,hy]
  simp only[Option.toList_some];rw[pk_append,h2]
  simp only;rw[pk_cons,h3,h4,h5,h1]
  have:pk rec i alt []=[]:=rfl;rw[this,List.append_nil]
  congr 1
  by_cases hc:y.inn=i∧y.alt=alt
  ·rw[if_pos (by omega),if_pos hc]
  ·rw[if_neg (by omega),if_neg hc]
theorem kids_pk {its:List It}{xs:List Pd}(h:Tells its xs)(rec:Nat→Tr)(i alt:Nat):kidsT its rec i alt its.length=pk rec i alt xs:=by
 rw[h.len,kidsT_pk h rec i alt xs.length (jG _),List.take_length]
theorem bodT_of {its:List It}{xs:List Pd}(h:Tells its xs)(T:Tr)(i f:Nat)(pre post:List Pd)(hx:xs=pre ++xsT T i 0 i ++post)(ha:altsI its i=T.len)
  (hpre:∀y∈pre,y.inn < i) (hpost:∀y∈post,y.inn < i∨i+cntA T < y.inn)
  (hT:bodiesL ((List.range T.len).map fun j=>nodesL (pk (bodT its f) i (0+j) (xsT T i 0 i)))=T):bodT its (f+1) i=T:=by
 rw[bodT,ha]
 conv=>rhs;rw[←hT]
 congr 1
 apply List.map_congr_left
 intro alt _;rw[kids_pk h,hx,pk_append,pk_append,pk_none (ys:=pre) (fun y hy=>by have:=hpre y hy;omega),pk_none (ys:=post) (fun y hy=>by have:=hpost y hy;omega),jL,List.append_nil,zD]
theorem bod_main {its:List It}{xs:List Pd}(h:Tells its xs)(t:Tr) :
  (∀(inn alt last f:Nat) (pre post:List Pd),Kd false t→xs=pre ++xsT t inn alt last ++post→pre.length=last→inn≤last→(∀y∈pre,y.inn < y.num∧y.num≤last)→(∀y∈post,y.inn≤last∨last+cntA t < y.inn)→its.length < last+1+f→nodesL (pk (bodT its f) inn alt (xsT t inn alt last))=t)∧
  (∀(i a0 last f:Nat) (pre post:List Pd),Kd true t→xs=pre ++xsT t i a0 last ++post→pre.length=last→i≤last→(∀y∈pre,y.inn < y.num∧y.num≤last)→(∀y∈post,y.inn≤last∨last+cntA t < y.inn)→its.length < last+1+f→bodiesL ((List.range t.len).map fun j=>nodesL (pk (bodT its f) i (a0+j) (xsT t i a0 last)))=t):=by
 induction t with
 | e=>exact⟨fun _ _ _ _ _ _ _ _ _ _ _ _ _=>rfl,fun _ _ _ _ _ _ _ _ _ _ _ _ _=>rfl⟩
 | b x r ih1 ih2=>
  refine⟨fun _ _ _ _ _ _ hk=>absurd hk.1 (by decide),?_⟩
  rintro i a0 last f pre post ⟨_,hkx,hkr⟩ hx hl hi hpre hpost hf;have hlen:(Tr.b x r).len=r.len+1:=rfl;have hcnt:cntA (.b x r)=cntA x+cntA r:=rfl;rw[hlen,List.range_succ_eq_map,zZ,List.map_map]
  have hxx:xs=pre ++xsT x i a0 last ++ (xsT r i (a0+1) (last+cntA x) ++post):=by rw[hx,xsT];simp
  have hxr:xs=(pre ++xsT x i a0 last) ++xsT r i (a0+1) (last+cntA x) ++post:=by rw[hx,xsT];simp
  have hr1:∀y∈xsT r i (a0+1) (last+cntA x),y.inn≤last∨last+cntA x < y.inn:=by
   intro y hy;have:=(xsT_at r _ _ _ y hy).2.2.1;omega
  have h1:=ih1.1 i a0 last f pre (xsT r i (a0+1) (last+cntA x) ++post) hkx hxx hl hi hpre (fun y hy=>by
   rcases jX.1 hy with hy | hy
   ·exact hr1 y hy
   ·have:=hpost y hy;omega) hf
  have h2:=ih2.2 i (a0+1) (last+cntA x) f (pre ++xsT x i a0 last) post hkr hxr (by rw[j9,xsT_len,hl]) (by omega) (fun y hy=>by
   rcases jX.1 hy with hy | hy
   ·have:=hpre y hy;omega
   ·have:=xsT_at x _ _ _ y hy;exact⟨this.2.2.2.2 hi,this.2.1⟩) (fun y hy=>by have:=hpost y hy;omega) (by omega)
  show Tr.b _ (bodiesL _)=Tr.b x r
  congr 1
  ·rw[Nat.add_zero,xsT,pk_append,pk_none (ys:=xsT r i (a0+1) (last+cntA x)) (fun y hy hc=>by
    have:=(xsT_alt r true i (a0+1) (last+cntA x) hkr (by omega) y hy hc.1).2;omega),List.append_nil]
   exact h1
  ·conv=>rhs;rw[←h2]
   congr 1
   apply List.map_congr_left
   intro j _;simp only[Function.comp];rw[xsT,pk_append,pk_none (ys:=xsT x i a0 last) (fun y hy hc=>by
    have:=(xsT_alt x false i a0 last hkx hi y hy hc.1).1 rfl;omega),jL,show a0+j.succ=a0+1+j by omega]
 | n l s r ih1 ih2=>
  refine⟨?_,fun _ _ _ _ _ _ hk=>absurd hk.1 (by decide)⟩
  rintro inn alt last f pre post ⟨_,hks,hkr⟩ hx hl hi hpre hpost hf;have hcnt:cntA (.n l s r)=1+cntA s+cntA r:=rfl;obtain⟨nd,hnd⟩:∃nd:Pd,nd=⟨last+1,l,s,none,0,0,none,s.len,0,inn,alt⟩:=⟨_,rfl⟩
  have hxT:xsT (.n l s r) inn alt last=nd :: (xsT s (last+1) 0 (last+1) ++xsT r inn alt (last+1+cntA s)):=by rw[hnd,xsT]
  have hxs:xs=(pre ++ [nd]) ++xsT s (last+1) 0 (last+1) ++ (xsT r inn alt (last+1+cntA s) ++post):=by rw[hx,hxT];simp
  have hxr:xs=(pre ++nd :: xsT s (last+1) 0 (last+1)) ++xsT r inn alt (last+1+cntA s) ++post:=by rw[hx,hxT];simp
  have hat:xs[last]? =some nd:=by rw[hx,hxT,←hl];simp
  have hndn:nd.num=last+1∧nd.inn=inn∧nd.alt=alt∧nd.lab=l∧nd.am=s.len:=by rw[hnd];exact⟨rfl,rfl,rfl,rfl,rfl⟩
  obtain⟨_,_,z,hz,_,_,hza,_⟩:=h.at_ last nd hat
  have hal:altsI its (last+1)=s.len:=by unfold altsI;rw[hz];simp only;rw[hza,hndn.2.2.2.2];simp
  have hr1:∀y∈xsT r inn alt (last+1+cntA s),y.inn≤last∨last+1+cntA s < y.inn:=by
   intro y hy;have:=(xsT_at r _ _ _ y hy).2.2.1;omega
  have hpre2:∀y∈pre ++ [nd],y.inn < y.num∧y.num≤last+1:=by
   intro y hy
   rcases jX.1 hy with hy | hy
   ·have:=hpre y hy;omega
   ·simp only[zY] at hy;subst hy;omega
  have hxl:xs.length+1=its.length:=h.len.symm;have hll:last < xs.length:=(jH.1 hat).1;obtain⟨g,rfl⟩:∃g,f=g+1:=⟨f - 1,by omega⟩
  have h1:=ih1.2 (last+1) 0 (last+1) g (pre ++ [nd]) (xsT r inn alt (last+1+cntA s) ++post) hks hxs (by rw[j9,hl];rfl) (jG _) hpre2 (fun y hy=>by
   rcases jX.1 hy with hy | hy
   ·have:=hr1 y hy;omega
   ·have:=hpost y hy;omega) (by omega)
  have hb:bodT its (g+1) (last+1)=s:=bodT_of h s (last+1) g (pre ++ [nd]) (xsT r inn alt (last+1+cntA s) ++post) hxs hal (fun y hy=>by have:=hpre2 y hy;omega) (fun y hy=>by
   rcases jX.1 hy with hy | hy
   ·have:=hr1 y hy;omega
   ·have:=hpost y hy;omega) h1
  have h2:=ih2.1 inn alt (last+1+cntA s) (g+1) (pre ++nd :: xsT s (last+1) 0 (last+1)) post hkr hxr (by rw[j9,jM,xsT_len,hl];omega) (by omega) (fun y hy=>by
   rcases jX.1 hy with hy | hy
   ·have:=hpre y hy;omega
   ·rcases zJ.1 hy with rfl | hy
    ·omega
    ·have:=xsT_at s _ _ _ y hy;exact⟨this.2.2.2.2 (jG _),this.2.1⟩) (fun y hy=>by have:=hpost y hy;omega) (by omega)
  rw[hxT,pk_cons,pk_append,if_pos ⟨hndn.2.1,hndn.2.2.1⟩,pk_none (ys:=xsT s (last+1) 0 (last+1)) (fun y hy hc=>by
   have:=(xsT_at s _ _ _ y hy).2.2.1;omega),jL,hndn.1,hndn.2.2.2.1,hb]
  show Tr.n l s (nodesL (pk (bodT its (g+1)) inn alt (xsT r inn alt (last+1+cntA s))))=_;rw[h2]
theorem bodS_back {its:List It}{t:Tr}(h:Tells its (xsT t 0 0 0))(hk:Kd true t)(ha:altsI its 0=t.len):bodS its=t:=by
 have h1:=(bod_main h t).2 0 0 0 its.length [] [] hk (by simp) rfl (jG _) (fun y hy=>by cases hy) (fun y hy=>by cases hy) (by omega);exact bodT_of h t 0 its.length [] [] (by simp) ha (fun y hy=>by cases hy) (fun y hy=>by cases hy) h1
theorem numFold_name:∀(xs:List Pd) (f:By→Option Nat) (nm:By) (c:Nat),xs.foldl numPut f nm=some c→(∃y∈xs,y.num=c∧y.lab.name=nm)∨f nm=some c
 | [],f,nm,c,h=> .inr h
 | z :: xs,f,nm,c,h=>by
  rcases numFold_name xs (numPut f z) nm c h with ⟨y,h1,h2⟩ | h1
  ·exact .inl ⟨y,List.mem_cons_of_mem _ h1,h2⟩
  ·unfold numPut at h1
   split at h1
   ·rename_i hn
    cases h1;exact .inl ⟨z,List.mem_cons_self ..,rfl,hn.symm⟩
   ·exact .inr h1
theorem numF_name (xs:List Pd)(nm:By)(c:Nat)(h:numF xs nm=some c):∃y∈xs,y.num=c∧y.lab.name=nm:=by
 rcases numFold_name xs _ nm c h with h | h
 ·exact h
 ·cases h
theorem leanP_names {its:List It}{num:By→Option Nat}{inn alt:Int}(g:Nat→By)(hg:∀nm on,num nm=some on→g on=nm):∀(l:List By) (acc r:List Nat),leanP its num inn alt l acc=some r→r.map g=acc.map g ++l
 | [],acc,r,h=>by simp only[leanP,Option.some.injEq] at h;subst h;simp
 | nm :: l,acc,r,h=>by
  unfold leanP at h;cases hn:num nm with
  | none=>rw[hn] at h;cases h
  | some on=>
   rw[hn] at h
   simp only at h;cases hi:its[on]? with
   | none=>rw[hi] at h;cases h
   | some x=>
    rw[hi] at h
    simp only at h
    split at h
    ·have:=leanP_names g hg l _ r h;rw[this,List.map_append,List.append_assoc]
     congr 1
     simp[hg nm on hn]
    ·cases h
def bare7 (y:It):It:= {y with after:=[]}
theorem its2_bare7 (x:By)(am:Nat)(xs:List Pd):∀(k on:Nat),((its2 x am xs k)[on]?).map bare7=((its1 x am xs xs.length)[on]?).map bare7
 | 0,_=>rfl
 | k+1,on=>by
  rw[its2]
  split
  ·rename_i y hy
   by_cases ho:on=k+1
   ·subst ho;rw[List.getElem?_set_self (jH.1 hy).1,←its2_bare7 x am xs k,hy]
    rfl
   ·rw[List.getElem?_set_ne (Ne.symm ho)]
    exact its2_bare7 x am xs k on
  ·exact its2_bare7 x am xs k on
theorem its2_lean (x:By)(am:Nat)(xs:List Pd):∀(k j:Nat) (z:It),(its2 x am xs k)[j]? =some z→(j=0∨k < j→z.after=[])∧(0 < j→j≤k→z.after=intsN ((leanK x am xs (j - 1)).getD []))
 | 0,j,z,h=>by
  have h1:=its1_no x am xs xs.length z (jS h);exact⟨fun _=>h1,fun h2 h3=>by omega⟩
 | k+1,j,z,h=>by
  rw[its2] at h
  split at h
  ·rename_i y hy
   by_cases ho:j=k+1
   ·subst ho;rw[List.getElem?_set_self (jH.1 hy).1] at h
    cases h;exact⟨fun h2=>by omega,fun _ _=>rfl⟩
   ·rw[List.getElem?_set_ne (Ne.symm ho)] at h
    obtain⟨h1,h2⟩:=its2_lean x am xs k j z h
    exact⟨fun h3=>h1 (by omega),fun h3 h4=>h2 h3 (by omega)⟩
  ·rename_i hy
   obtain⟨h1,h2⟩:=its2_lean x am xs k j z h
   refine⟨fun h3=>h1 (by omega),fun h3 h4=>?_⟩
   by_cases ho:j=k+1
   ·subst ho;exact absurd h (by rw[hy];simp)
   ·exact h2 h3 (by omega)
theorem its2_at (x:By)(am:Nat)(xs:List Pd)(j:Nat)(y:Pd)(hy:xs[j]? =some y):∃z,(its2 x am xs xs.length)[j+1]? =some z∧bare7 z=y.item∧z.after=intsN ((leanK x am xs j).getD []):=by
 have hl:=(jH.1 hy).1;obtain⟨z,hz⟩:∃z,(its2 x am xs xs.length)[j+1]? =some z:=⟨_,jF (by rw[its2_len];omega)⟩
 have h1:=its2_bare7 x am xs xs.length (j+1);have h2:(its1 x am xs xs.length)[j+1]? =some y.item:=by
  unfold its1;rw[List.take_length,jZ,zC,hy]
  rfl
 rw[hz,h2] at h1
 simp only[Option.map_some,Option.some.injEq] at h1;have h3:=(its2_lean x am xs xs.length (j+1) z hz).2 (by omega) (by omega);refine⟨z,hz,?_,h3⟩
 rw[h1]
 rfl
theorem its2_root (x:By)(am:Nat)(xs:List Pd):(its2 x am xs xs.length)[0]? =some (rootI x am):=by
 obtain⟨z,hz⟩:∃z,(its2 x am xs xs.length)[0]? =some z:=⟨_,jF (by rw[its2_len];omega)⟩
 have h1:=its2_bare7 x am xs xs.length 0;have h2:(its1 x am xs xs.length)[0]? =some (rootI x am):=rfl;have h3:=(its2_lean x am xs xs.length 0 z hz).1 (.inl rfl);rw[hz,h2] at h1
 simp only[Option.map_some,Option.some.injEq] at h1;rw[hz]
 congr 1
 have e:z= {bare7 z with after:=z.after} :=rfl;rw[e,h1,h3]
 rfl
theorem planT_parts {x:By}{t:Tr}{its:List It}(h:planT x t=some its):fitS x t=true∧goodN (xsT t 0 0 0)=true∧(∀j,j < (xsT t 0 0 0).length→(leanK x t.len (xsT t 0 0 0) j).isSome=true)∧its=its2 x t.len (xsT t 0 0 0) (xsT t 0 0 0).length:=by
 unfold planT planP at h
 split at h
 ·rename_i hc
  cases h;exact⟨hc.1,hc.2.1,hc.2.2.1,rfl⟩
 ·cases h
theorem plan_tells {x:By}{t:Tr}{its:List It}(h:planT x t=some its):Tells its (xsT t 0 0 0):=by
 obtain⟨_,_,hK,rfl⟩:=planT_parts h
 obtain⟨xs,hxs⟩:∃xs,xs=xsT t 0 0 0:=⟨_,rfl⟩
 rw[←hxs] at hK ⊢
 have hnum:∀j y,xs[j]? =some y→y.num=j+1:=fun j y hy=>by rw[hxs] at hy;have:=xsT_num t _ _ _ _ _ hy;omega
 refine⟨its2_len x t.len xs xs.length,fun y hy=>by rw[its2_root] at hy;cases hy;rfl,fun j y hy=>?_⟩
 obtain⟨z,hz,hb,ha⟩:=its2_at x t.len xs j y hy
 have hn:=hnum j y hy;have hl:=(jH.1 hy).1;have hin:y.inn < y.num:=by
  have hm:=jS hy;rw[hxs] at hm
  exact (xsT_at t _ _ _ y hm).2.2.2.2 (jG _)
 have hzi:z.inn=(y.inn:Int):=congrArg It.inn hb;have hza:z.alt=(y.alt:Int):=congrArg It.alt hb;have hzs:z.alts=(y.am:Int):=congrArg It.alts hb;have hname:z.name=y.lab.name:=congrArg It.name hb;have hundo:z.undo=y.lab.undo:=congrArg It.undo hb;have hsub:z.sub=y.lab.sub:=congrArg It.sub hb;have hvit:z.vital=y.lab.vital:=congrArg It.vital hb;refine⟨hn,by omega,z,hz,hzi,hza,hzs,?_⟩
 unfold labI;rw[hname,hundo,hsub,hvit]
 have hk:=hK j hl;obtain⟨r,hr⟩:=Option.isSome_iff_exists.1 hk
 have haft:z.after.map (nameI (its2 x t.len xs xs.length))=y.lab.after:=by
  rw[ha,hr]
  unfold leanK at hr;rw[hy] at hr
  have h2:=leanP_names (fun on=>nameI (its2 x t.len xs xs.length) (on:Int)) (fun nm on hno=>by
   obtain⟨u,hu,hun,hunm⟩:=numF_name xs nm on hno
   obtain⟨k,hk2⟩:=zX.1 hu
   have:=hnum k u hk2;obtain⟨v,hv,hvb,_⟩:=its2_at x t.len xs k u hk2
   have hvn:v.name=u.lab.name:=congrArg It.name hvb;unfold nameI;rw[j8,show on=k+1 by omega,hv]
   simp only;rw[hvn,hunm]) _ _ _ hr
  simp only[Option.getD_some,intsN,List.map_map,List.map_nil,jL] at h2 ⊢;exact h2
 rw[haft]
theorem plan_name {x:By}{t:Tr}{its:List It}(h:planT x t=some its):nameI its 0=x∧altsI its 0=t.len:=by
 obtain⟨_,_,_,rfl⟩:=planT_parts h
 unfold nameI altsI;rw[show (0:Int).toNat=0 from rfl,its2_root]
 exact⟨rfl,by simp[rootI]⟩
def cn (i alt:Nat)(ys:List Pd):List Nat:=(ys.filter fun y=>decide (y.inn=i∧y.alt=alt)).map (·.num)
theorem cn_append (i alt:Nat)(a b:List Pd):cn i alt (a ++b)=cn i alt a ++cn i alt b:=by simp[cn]
theorem cn_cons (i alt:Nat)(y:Pd)(b:List Pd):cn i alt (y :: b)=(if y.inn=i∧y.alt=alt then [y.num] else []) ++cn i alt b:=by
 unfold cn;rw[List.filter_cons]
 by_cases h:y.inn=i∧y.alt=alt
 ·rw[if_pos (decide_eq_true h),if_pos h];rfl
 ·rw[if_neg (by simpa using h),if_neg h];rfl
theorem cn_none {i alt:Nat}{ys:List Pd}(h:∀y∈ys,¬(y.inn=i∧y.alt=alt)):cn i alt ys=[]:=by
 unfold cn;rw[List.map_eq_nil_iff,List.filter_eq_nil_iff]
 intro y hy
 simpa using h y hy
theorem cn_mem {i alt:Nat}{ys:List Pd}{y:Pd}(h:y∈ys)(h1:y.inn=i)(h2:y.alt=alt):y.num∈cn i alt ys:=by
 unfold cn;exact zS.2 ⟨y,List.mem_filter.2 ⟨h,decide_eq_true ⟨h1,h2⟩⟩,rfl⟩
theorem cn_chain (t:Tr):∀(inn alt last:Nat),Kd false t→inn≤last→(cn inn alt (xsT t inn alt last)).length=t.len:=by
 induction t with
 | e=>intro _ _ _ _ _;rfl
 | b x r _ _=>intro _ _ _ hk;exact absurd hk.1 (by decide)
 | n l s r _ ih2=>
  rintro inn alt last ⟨_,hs,hr⟩ hl;rw[xsT,cn_cons,cn_append,cn_none (ys:=xsT s (last+1) 0 (last+1)) (fun y hy hc=>by
   have:=(xsT_at s _ _ _ y hy).2.2.1;omega),jL,if_pos ⟨rfl,rfl⟩,j9,ih2 _ _ _ hr (by omega)]
  show 1+r.len=r.len+1;omega
theorem cn_le (t:Tr):∀(k:Bool) (inn alt last:Nat),Kd k t→inn≤last→fitN t=true→(k=false→t.len≤16)→(k=true→fitB t=true)→∀y∈xsT t inn alt last,(cn y.inn y.alt (xsT t inn alt last)).length≤16:=by
 induction t with
 | e=>intro _ _ _ _ _ _ _ _ _ y hy;cases hy
 | b x r ih1 ih2=>
  rintro k inn alt last ⟨rfl,hx,hr⟩ hl hN _ hB y hy;simp only[fitN,jT] at hN;have hB:=hB rfl;simp only[fitB,jT,decide_eq_true_eq] at hB;rw[xsT,jX] at hy
  rw[xsT,cn_append,j9]
  rcases hy with hy | hy
  ·have ha:=xsT_at x _ _ _ y hy;have h1:=ih1 false inn alt last hx hl hN.1 (fun _=>hB.1.2) (fun h=>by cases h) y hy;have h2:cn y.inn y.alt (xsT r inn (alt+1) (last+cntA x))=[]:=cn_none fun z hz hc=>by
    have hb:=xsT_at r _ _ _ z hz;have:=ha.2.2.2.2 hl
    rcases hb.2.2.1 with e | e
    ·have:=(xsT_alt r true _ _ _ hr (by omega) z hz e).2;have:=(xsT_alt x false _ _ _ hx hl y hy (by omega)).1 rfl;omega
    ·omega
   rw[h2]
   exact h1
  ·have ha:=xsT_at r _ _ _ y hy;have h1:=ih2 true inn (alt+1) (last+cntA x) hr (by omega) hN.2 (fun h=>by cases h) (fun _=>hB.2) y hy;have h2:cn y.inn y.alt (xsT x inn alt last)=[]:=cn_none fun z hz hc=>by
    have hb:=xsT_at x _ _ _ z hz;have:=hb.2.2.2.2 hl
    rcases ha.2.2.1 with e | e
    ·have:=(xsT_alt r true _ _ _ hr (by omega) y hy e).2;have:=(xsT_alt x false _ _ _ hx hl z hz (by omega)).1 rfl;omega
    ·omega
   rw[h2,jP,zD]
   exact h1
 | n l s r ih1 ih2=>
  rintro k inn alt last ⟨rfl,hs,hr⟩ hl hN hL _ y hy;have hch:=cn_chain (.n l s r) inn alt last ⟨rfl,hs,hr⟩ hl;have hL:=hL rfl;have hlen:(Tr.n l s r).len=r.len+1:=rfl;simp only[fitN,jT] at hN;have hfs:fitB s=true:=by
   have:=hN.1;simp only[fits,jT] at this;exact this.2
  by_cases htop:y.inn=inn
  ·have hya:y.alt=alt:=(xsT_alt (.n l s r) false inn alt last ⟨rfl,hs,hr⟩ hl y hy htop).1 rfl;rw[htop,hya,hch]
   exact hL
  rw[xsT,zJ,jX] at hy
  rw[xsT,cn_cons,cn_append,if_neg (fun hc=>htop hc.1.symm),jL,j9]
  rcases hy with rfl | hy | hy
  ·exact absurd rfl htop
  ·have ha:=xsT_at s _ _ _ y hy;have:=ha.2.2.2.2 (jG _);have h1:=ih1 true (last+1) 0 (last+1) hs (jG _) hN.2.1 (fun h=>by cases h) (fun _=>hfs) y hy;have h2:cn y.inn y.alt (xsT r inn alt (last+1+cntA s))=[]:=cn_none fun z hz hc=>by
    have hb:=(xsT_at r _ _ _ z hz).2.2.1;omega
   rw[h2]
   exact h1
  ·have ha:=xsT_at r _ _ _ y hy;have h1:=ih2 false inn alt (last+1+cntA s) hr (by omega) hN.2.2 (fun _=>by omega) (fun h=>by cases h) y hy;have h2:cn y.inn y.alt (xsT s (last+1) 0 (last+1))=[]:=cn_none fun z hz hc=>by
    have hb:=xsT_at s _ _ _ z hz;have:=hb.2.2.2.2 (jG _);omega
   rw[h2,jP,zD]
   exact h1
theorem am_le (t:Tr):∀(inn alt last:Nat),fitN t=true→∀y∈xsT t inn alt last,y.am≤4:=by
 induction t with
 | e=>intro _ _ _ _ y hy;cases hy
 | b x r ih1 ih2=>
  intro inn alt last hN y hy;simp only[fitN,jT] at hN;rw[xsT,jX] at hy
  rcases hy with hy | hy
  ·exact ih1 _ _ _ hN.1 y hy
  ·exact ih2 _ _ _ hN.2 y hy
 | n l s r ih1 ih2=>
  intro inn alt last hN y hy;simp only[fitN,jT] at hN;rw[xsT,zJ,jX] at hy
  rcases hy with rfl | hy | hy
  ·have:=hN.1;simp only[fits,jT,decide_eq_true_eq] at this;exact this.1
  ·exact ih1 _ _ _ hN.2.1 y hy
  ·exact ih2 _ _ _ hN.2.2 y hy
theorem leanP_body {its:List It}{num:By→Option Nat}{inn alt:Int} :∀(l:List By) (acc r:List Nat),leanP its num inn alt l acc=some r→(∀c∈acc,∃x,its[c]? =some x∧x.inn=inn∧x.alt=alt)→∀c∈r,∃x,its[c]? =some x∧x.inn=inn∧x.alt=alt
 | [],acc,r,h,ha=>by simp only[leanP,Option.some.injEq] at h;subst h;exact ha
 | nm :: l,acc,r,h,ha=>by
  unfold leanP at h;cases hn:num nm with
  | none=>rw[hn] at h;cases h
  | some on=>
   rw[hn] at h
   simp only at h;cases hi:its[on]? with
   | none=>rw[hi] at h;cases h
   | some x=>
    rw[hi] at h
    simp only at h
    split at h
    ·rename_i hc
     refine leanP_body l _ r h fun c hcm=>?_
     rcases jX.1 hcm with hcm | hcm
     ·exact ha c hcm
     ·simp only[zY] at hcm;subst hcm;exact⟨x,hi,hc.1,hc.2.1⟩
    ·cases h
theorem arcTo_has {its:List It} :∀(n i:Nat) (x:It) (on:Int),its[i]? =some x→on∈x.after→i < n→(on,(i:Int))∈arcTo its n
 | 0,i,x,on,_,_,h=>by omega
 | n+1,i,x,on,hx,ho,h=>by
  rw[arcTo]
  by_cases hi:i=n
  ·subst hi;rw[hx]
   exact List.mem_append_right _ (zS.2 ⟨on,ho,rfl⟩)
  ·exact List.mem_append_left _ (arcTo_has n i x on hx ho (by omega))
theorem hangF_of {n:Nat} :∀(l:List It) (i:Nat),(∀(j:Nat) (x:It),l[j]? =some x→hangI n (i+j) x=true)→hangF n i l=true
 | [],_,_=>rfl
 | y :: r,i,h=>by
  simp only[hangF,jT];refine⟨by have:=h 0 y rfl;rwa [Nat.add_zero] at this,hangF_of r (i+1) fun j x hx=>?_⟩
  have:=h (j+1) x (by simpa using hx)
  rwa [show i+ (j+1)=i+1+j by omega] at this
theorem no_self {its:List It}{W o:List Nat}(h:Dg.weaveP (its.length:Int) (arcP its)= .ok W o){i:Nat}{x:It}(hx:its[i]? =some x):(i:Int)∉x.after:=by
 intro hm;have hl:=(jH.1 hx).1;obtain⟨_,hW,hends,_,hWl,hO,hol⟩:=Dg.weave_facts h
 rw[j8] at hW hends hWl hol
 have ha:((i:Int),(i:Int))∈arcP its:=arcTo_has its.length i x (i:Int) hx hm hl;have hb:=(Dg.webOf_bit its.length (arcP its) hends i i).2 ⟨ha,hl⟩;rw[←hW] at hb
 have hmo:=Dg.ord_all hO (by omega) (show i < W.length by omega);obtain⟨k,hk⟩:=zX.1 hmo
 exact Dg.nodup_at hO.nodup hk (hO.ahead k i hk i hb)
theorem plan_weave {x:By}{t:Tr}{its:List It}(h:planT x t=some its):∃W o,Dg.weaveP (its.length:Int) (arcP its)= .ok W o:=by
 unfold planT planP at h
 split at h
 ·rename_i hc
  cases h;have:=hc.2.2.2;unfold ordOk at this
  split at this
  ·rename_i W o hw
   exact⟨W,o,hw⟩
  ·cases this
 ·cases h
theorem plan_few {x:By}{t:Tr}{its:List It}(h:planT x t=some its)(hk:Kd true t)(j:Nat)(y:Pd)(hy:(xsT t 0 0 0)[j]? =some y):((leanK x t.len (xsT t 0 0 0) j).getD []).length < 16:=by
 obtain⟨W,o,hw⟩:=plan_weave h
 obtain⟨hfit,_,hK,he⟩:=planT_parts h
 obtain⟨xs,hxs⟩:∃xs,xs=xsT t 0 0 0:=⟨_,rfl⟩
 have hcl:=cn_le t true 0 0 0 hk (jG _) (by
  simp only[fitS,jT] at hfit;exact hfit.2.2.2.2) (fun h=>by cases h) (fun _=>by
  simp only[fitS,jT] at hfit;have:=hfit.2.2.2.1;simp only[fits,jT] at this;exact this.2) y (jS hy)
 have hnum:∀j y,(xsT t 0 0 0)[j]? =some y→y.num=j+1:=fun j y hy=>by have:=xsT_num t _ _ _ _ _ hy;omega
 rw[←hxs] at hK he hcl hy hnum ⊢
 have hl:=(jH.1 hy).1;obtain⟨r,hr⟩:=Option.isSome_iff_exists.1 (hK j hl)
 obtain⟨z,hz,hb,ha⟩:=its2_at x t.len xs j y hy
 rw[←he] at hz
 have hself:=no_self hw hz;rw[ha,hr] at hself
 rw[hr]
 simp only[Option.getD_some] at hself ⊢;unfold leanK at hr;rw[hy] at hr
 have hnd:=(leanP_some _ _ _ hr (by simp) (by simp)).1;have hbody:=leanP_body _ _ _ hr (by simp);have h1:((j+1) :: r).Nodup:=by
  rw[List.nodup_cons]
  refine⟨fun hm=>hself ?_,hnd⟩
  exact zS.2 ⟨j+1,hm,rfl⟩
 have h2:∀c∈(j+1) :: r,c∈cn y.inn y.alt xs:=by
  intro c hc
  rcases zJ.1 hc with rfl | hc
  ·have:=cn_mem (jS hy) rfl rfl
   rwa [hnum j y hy] at this
  ·obtain⟨u,hu,hui,hua⟩:=hbody c hc
   cases c with
   | zero=>
    have:u=rootI x t.len:=by
     have:(its1 x t.len xs xs.length)[0]? =some (rootI x t.len):=rfl;rw[this] at hu
     cases hu;rfl
    subst this;have:(-1:Int)=(y.inn:Int):=hui;omega
   | succ k=>
    unfold its1 at hu;rw[List.take_length,jZ,zC,Option.map_eq_some_iff] at hu
    obtain⟨v,hv,rfl⟩:=hu
    have e1:(v.inn:Int)=(y.inn:Int):=hui;have e2:(v.alt:Int)=(y.alt:Int):=hua;have:=cn_mem (jS hv) (show v.inn=y.inn by omega) (show v.alt=y.alt by omega)
    rwa [hnum k v hv] at this
 have:=Dg.pigeon _ _ h1 h2;rw[jM] at this
 omega
theorem plan_hangs {x:By}{t:Tr}{its:List It}(h:planT x t=some its)(hk:Kd true t):hangs its=true:=by
 obtain⟨hfit,_,hK,he⟩:=planT_parts h
 have hfew:=plan_few h hk;have hcnt:=fit_cnt hfit;have hlen:its.length=cntA t+1:=by rw[he,its2_len,xsT_len]
 simp only[fitS,jT] at hfit;have hf4:t.len≤4:=by
  have:=hfit.2.2.2.1;simp only[fits,jT,decide_eq_true_eq] at this;exact this.1
 have ham:=am_le t 0 0 0 hfit.2.2.2.2;simp only[hangs,jT,decide_eq_true_eq];refine⟨by omega,by omega,hangF_of its 0 fun j z hz=>?_⟩
 rw[zD]
 simp only[hangI,jT,decide_eq_true_eq,zF];cases j with
 | zero=>
  rw[he,its2_root] at hz
  cases hz;refine⟨by show (-1:Int) < _;omega,by show (0:Int)≤(t.len:Int);omega,by show (t.len:Int)≤4;omega,by show ([]:List Int).length < 16;decide,fun on hon=>?_⟩
  cases hon
 | succ j=>
  have hjl:j < (xsT t 0 0 0).length:=by
   have:=(jH.1 hz).1;rw[xsT_len]
   omega
  obtain⟨y,hy⟩:∃y,(xsT t 0 0 0)[j]? =some y:=⟨_,jF hjl⟩
  obtain⟨z',hz',hb,ha⟩:=its2_at x t.len _ j y hy
  rw[←he,hz] at hz'
  cases hz';have hn:y.num=j+1:=by have:=xsT_num t _ _ _ _ _ hy;omega
  have hin:y.inn < y.num:=(xsT_at t _ _ _ y (jS hy)).2.2.2.2 (jG _);have hzi:z.inn=(y.inn:Int):=congrArg It.inn hb;have hzs:z.alts=(y.am:Int):=congrArg It.alts hb;have ham4:=ham y (jS hy);have hl16:=hfew j y hy;have hlk:=(leanK_len x t.len (xsT t 0 0 0) j).2;rw[xsT_len] at hlk
  refine⟨by omega,by omega,by omega,?_,fun on hon=>?_⟩
  ·rw[ha]
   simpa [intsN] using hl16
  ·rw[ha] at hon
   obtain⟨c,hc,rfl⟩:=zS.1 hon
   have:=hlk c hc;omega
theorem saga_of_plan {x:By}{t:Tr}{its:List It}(h:planT x t=some its)(hk:Kd true t):sagaP its=some (x,t):=by
 have h1:=plan_name h;have h2:bodS its=t:=bodS_back (plan_tells h) hk h1.2;unfold sagaP;rw[h1.1,h2,if_pos ⟨plan_hangs h hk,h⟩]
theorem bk_szA (t:Tr):szA t≤bkT t:=by
 induction t with
 | e=>exact jG _
 | b x r h1 h2=>simp only[szA,bkT];omega
 | n l t r h1 h2=>simp only[szA,bkT];omega
theorem bk_tw (t:Tr):7 * tw t≤bkT t:=by
 induction t with
 | e=>exact jG _
 | b x r h1 h2=>simp only[tw,bkT];omega
 | n l t r h1 h2=>simp only[tw,bkT];split <;> omega
theorem afB_len (l:List By):l.length≤afB l:=by
 induction l with
 | nil=>exact jG _
 | cons y l ih=>simp only[afB,zZ,List.sum_cons,jM] at *;omega
theorem afB_mem {l:List By}{z:By}(h:z∈l):z.length≤afB l:=by
 induction l with
 | nil=>cases h
 | cons y l ih=>
  simp only[afB,zZ,List.sum_cons] at *
  rcases zJ.1 h with rfl | h
  ·omega
  ·have:=ih h;omega
theorem bk_lab {B:Nat}(t:Tr)(h:bkT t≤B):AllL (fun l=>l.name.length≤B∧l.after.length≤B∧∀z∈l.after,z.length≤B) t:=by
 induction t with
 | e=>trivial
 | b x r h1 h2=>simp only[bkT] at h;exact⟨h1 (by omega),h2 (by omega)⟩
 | n l t r h1 h2=>
  simp only[bkT] at h;have:=afB_len l.after;exact⟨⟨by omega,by omega,fun z hz=>by have:=afB_mem hz;omega⟩,h1 (by omega),h2 (by omega)⟩
theorem Fair.bk {t:Tr}(h:bkT t≤1048576):Fair t:=by
 have h0:=bk_szA t;have h1:=dep_le t;have h2:=bk_tw t;have h3:=cntA_le t;have h4:=sz_le t;have h5:=fltn_le t 1;have hl:=AllL_mono (Q':=fun l=>l.name.length≤1100000∧l.after.length≤1100000∧∀z∈l.after,z.length≤1100000) (fun l q=>⟨by have:=q.1;omega,by have:=q.2.1;omega,fun z hz=>by have:=q.2.2 z hz;omega⟩) t (bk_lab t h);exact⟨⟨by omega,by omega,⟨by omega,AllL_afs t (AllL_mono (fun l h=>h.2.1) t hl)⟩,by omega⟩,by omega,by omega,xsT_lab t 0 0 0 hl⟩
theorem plan_fairI {x:By}{t:Tr}{its:List It}(h:planT x t=some its)(hF:Fair t)(hx:x.length≤1100000):FairI its:=by
 obtain⟨hfit,_,_,he⟩:=planT_parts h
 have hcnt:=fit_cnt hfit;refine⟨fun z hz=>?_,fun z hz=>?_⟩
 ·obtain⟨j,hj⟩:=zX.1 hz
  cases j with
  | zero=>
   rw[he,its2_root] at hj
   cases hj;exact hx
  | succ j=>
   have hjl:j < (xsT t 0 0 0).length:=by
    have:=(jH.1 hj).1;rw[he,its2_len] at this
    omega
   obtain⟨y,hy⟩:∃y,(xsT t 0 0 0)[j]? =some y:=⟨_,jF hjl⟩
   obtain⟨z',hz',hb,_⟩:=its2_at x t.len _ j y hy
   rw[←he,hj] at hz'
   cases hz';have hname:z.name=y.lab.name:=congrArg It.name hb;rw[hname]
   exact (hF.lab y (jS hy)).1
 ·rw[he] at hz
  have:=(its2_after x t.len (xsT t 0 0 0) _ z hz).1;rw[xsT_len] at this
  omega
theorem saga_bears (x:By)(t:Tr)(a:Option Addr)(ac:Nat)(w:World)(hT:Dg.Tab w)(ht:TAt (· < w.heap.size) w true t a 0 t.len)(hx:x.length+bkT t≤1048576) :
  (∀wx,Below w.heap.size w wx→Calls Tryz.prog 6 #[.agg #[.string ⟨x.toArray⟩,.slice a t.len ac]] wx fun e w'=>MakeC x t wx e w')∧(∀its,planT x t=some its→FairI its):=
 have hF:=Fair.bk (t:=t) (by omega)
 ⟨fun wx hb=>Make_any wx x t a ac (TAt.later ht hb) hF (hT.later hb),fun its h=>plan_fairI h hF (by omega)⟩
end Go.Proofs.YtieoppabellafaaGreatDoor
namespace Go.Proofs.YtieoppabellafaaGreatDoor.Fc
structure Fa where
 run:Int
 tries:Int
 slips:Int
 un:Bool
deriving DecidableEq
def Fa.z:Fa:=⟨0,0,0,false⟩
def okF (f:Fa):Prop:=0≤f.run∧f.run≤3∧0≤f.slips∧f.slips≤3∧(f.tries=f.slips∨f.tries=f.slips+1)∧(f.tries=0∨f.run=2)∧(f.un=true→f.tries=f.slips+1)
instance (f:Fa):Decidable (okF f):=by unfold okF;infer_instance
theorem okF_z:okF Fa.z:=by decide
def fit (k t:Int)(f:Fa):Option Fa:=
 if k=1 then if f.run=0 then some ⟨1,0,0,false⟩ else none
 else if k=2 then if f.run=1 then some ⟨2,0,0,false⟩ else none
 else if k=3 then if f.run=1 then some ⟨3,0,0,false⟩ else none
 else if k=4 then if f.run=2∧f.un=false∧f.tries=t∧f.slips=t then some ⟨2,f.tries+1,f.slips,false⟩ else none
 else if k=5 then if f.tries=f.slips+1∧f.un=false∧f.slips=t then some ⟨2,f.tries,f.slips,true⟩ else none
 else if k=6 then if f.tries=f.slips+1∧f.un=false∧f.slips=t∧t < 3 then some ⟨2,f.tries,f.slips+1,false⟩ else none
 else none
theorem fit_some {k t:Int}{f g:Fa}(h:fit k t f=some g) :
  (k=1∧f.run=0∧g=⟨1,0,0,false⟩)∨(k=2∧f.run=1∧g=⟨2,0,0,false⟩)∨(k=3∧f.run=1∧g=⟨3,0,0,false⟩)∨
  (k=4∧(f.run=2∧f.un=false∧f.tries=t∧f.slips=t)∧g=⟨2,f.tries+1,f.slips,false⟩)∨
  (k=5∧(f.tries=f.slips+1∧f.un=false∧f.slips=t)∧g=⟨2,f.tries,f.slips,true⟩)∨
  (k=6∧(f.tries=f.slips+1∧f.un=false∧f.slips=t∧t < 3)∧g=⟨2,f.tries,f.slips+1,false⟩):=by
 unfold fit at h
 split at h
 ·split at h
  ·cases h;exact .inl ⟨by assumption,by assumption,rfl⟩
  ·cases h
 split at h
 ·split at h
  ·cases h;exact .inr (.inl ⟨by assumption,by assumption,rfl⟩)
  ·cases h
 split at h
 ·split at h
  ·cases h;exact .inr (.inr (.inl ⟨by assumption,by assumption,rfl⟩))
  ·cases h
 split at h
 ·split at h
  ·cases h;exact .inr (.inr (.inr (.inl ⟨by assumption,by assumption,rfl⟩)))
  ·cases h
 split at h
 ·split at h
  ·cases h;exact .inr (.inr (.inr (.inr (.inl ⟨by assumption,by assumption,rfl⟩))))
  ·cases h
 split at h
 ·split at h
  ·cases h;exact .inr (.inr (.inr (.inr (.inr ⟨by assumption,by assumption,rfl⟩))))
  ·cases h
 cases h
theorem fit_ok {k t:Int}{f g:Fa}(hf:okF f)(h:fit k t f=some g):okF g:=by
 obtain⟨f1,f2,f3,f4,f5,f6,f7⟩:=hf
 rcases fit_some h with ⟨_,_,rfl⟩ | ⟨_,_,rfl⟩ | ⟨_,_,rfl⟩ | ⟨_,⟨_,_,_,_⟩,rfl⟩ | ⟨_,⟨_,_,_⟩,rfl⟩ | ⟨_,⟨_,_,_,_⟩,rfl⟩
 ·unfold okF;decide
 ·unfold okF;decide
 ·unfold okF;decide
 ·refine⟨(show (0:Int)≤2 by decide),(show (2:Int)≤3 by decide),f3,f4,.inr ?_,.inr rfl,fun h=>by cases h⟩
  show f.tries+1=f.slips+1;omega
 ·exact⟨(show (0:Int)≤2 by decide),(show (2:Int)≤3 by decide),f3,f4,by omega,.inr rfl,fun _=>by assumption⟩
 ·refine⟨(show (0:Int)≤2 by decide),(show (2:Int)≤3 by decide),?_,?_,.inl ?_,.inr rfl,fun h=>by cases h⟩
  ·show 0≤f.slips+1;omega
  ·show f.slips+1≤3;omega
  ·show f.tries=f.slips+1
   assumption
theorem fit_once {k t:Int}{f g:Fa}(h:fit k t f=some g):fit k t g=none:=by
 rcases fit_some h with ⟨rfl,_,rfl⟩ | ⟨rfl,_,rfl⟩ | ⟨rfl,_,rfl⟩ | ⟨rfl,⟨_,_,h3,_⟩,rfl⟩ | ⟨rfl,⟨_,_,_⟩,rfl⟩ | ⟨rfl,⟨_,_,h3,_⟩,rfl⟩
 ·simp[fit]
 ·simp[fit]
 ·simp[fit]
 ·unfold fit;rw[if_neg (by decide),if_neg (by decide),if_neg (by decide),if_pos rfl,if_neg (by rintro⟨_,_,(h:f.tries+1=t),_⟩;omega)]
 ·simp[fit]
 ·unfold fit;rw[if_neg (by decide),if_neg (by decide),if_neg (by decide),if_neg (by decide),if_neg (by decide),if_pos rfl,if_neg (by rintro⟨_,_,(h:f.slips+1=t),_⟩;omega)]
theorem fit_other {k t:Int}{f g:Fa}(h:fit k t f=some g):f≠g:=by
 rintro rfl;rw[fit_once h] at h
 cases h
def okL (subs:List Bool)(l:List Fa):Prop:=l.length=subs.length∧∀i,i < l.length→okF (l.getD i Fa.z)∧(subs.getD i true=true→l.getD i Fa.z=Fa.z)
def does (subs:List Bool)(l:List Fa)(k t:Int)(i:Nat):Option (List Fa):=
 if 1≤i∧i < l.length∧subs.getD i true=false then (fit k t (l.getD i Fa.z)).map (l.set i ·) else none
theorem getD_set {l:List Fa}{i j:Nat}(h:i < l.length)(g:Fa):(l.set i g).getD j Fa.z=if i=j then g else l.getD j Fa.z:=by
 rw[jU,List.getElem?_set,jU]
 by_cases e:i=j
 ·subst e;rw[if_pos rfl,if_pos rfl,if_pos h]
  rfl
 ·rw[if_neg e,if_neg e]
theorem does_some {subs:List Bool}{l m:List Fa}{k t:Int}{i:Nat}(h:does subs l k t i=some m) :
  (1≤i∧i < l.length∧subs.getD i true=false)∧∃g,fit k t (l.getD i Fa.z)=some g∧m=l.set i g:=by
 unfold does at h
 split at h
 ·obtain⟨g,h1,h2⟩:=Option.map_eq_some_iff.1 h
  exact⟨by assumption,g,h1,h2.symm⟩
 ·cases h
theorem does_right {subs:List Bool}{l m:List Fa}{k t:Int}{i:Nat}(hl:okL subs l)(h:does subs l k t i=some m) :
  okL subs m∧does subs m k t i=none∧m.length=l.length∧∀j,j < l.length→(l.getD j Fa.z=m.getD j Fa.z↔j≠i):=by
 obtain⟨⟨h1,h2,h3⟩,g,hg,rfl⟩:=does_some h
 refine⟨⟨by rw[List.length_set];exact hl.1,fun j hj=>?_⟩,?_,List.length_set,fun j hj=>?_⟩
 ·rw[List.length_set] at hj
  rw[getD_set h2]
  by_cases e:i=j
  ·subst e;rw[if_pos rfl]
   exact⟨fit_ok (hl.2 i hj).1 hg,fun hs=>by rw[h3] at hs;cases hs⟩
  ·rw[if_neg e]
   exact hl.2 j hj
 ·unfold does
  split
  ·rw[getD_set h2,if_pos rfl,fit_once hg]
   rfl
  ·rfl
 ·rw[getD_set h2]
  by_cases e:i=j
  ·subst e;rw[if_pos rfl]
   exact⟨fun h=>absurd h (fit_other hg),fun h=>absurd rfl h⟩
  ·rw[if_neg e]
   exact⟨fun _ h=>e h.symm,fun _=>rfl⟩
def opF (i:Nat)(f:Fa):List (Nat × Bool × Int):=(if f.run=1 then [(i,false,0)] else []) ++ (if f.tries > f.slips∧f.un=false then [(i,true,f.slips)] else [])
def opG:Nat→List Fa→List (Nat × Bool × Int)
 | _,[]=>[]
 | s,f :: r=>opF s f ++opG (s+1) r
theorem opG_mem:∀{l:List Fa} {s:Nat} {x:Nat × Bool × Int},x∈opG s l→∃i f,l[i]? =some f∧x∈opF (s+i) f
 | f :: r,s,x,h=>by
  rw[opG,jX] at h
  rcases h with h | h
  ·exact⟨0,f,rfl,h⟩
  ·obtain⟨i,g,h1,h2⟩:=opG_mem h
   exact⟨i+1,g,by simpa using h1,by rw[show s+ (i+1)=s+1+i by omega];exact h2⟩
theorem open_at {subs:List Bool}{l:List Fa}(hl:okL subs l)(h0:subs.getD 0 true=true){x:Nat × Bool × Int}(hx:x∈opG 0 l) :
  ∃i f,x.1=i∧1≤i∧i < l.length∧subs.getD i true=false∧l.getD i Fa.z=f∧l[i]? =some f∧okF f∧(opF i f).length=1∧
   ((x=(i,false,0)∧f.run=1∧f.tries=0)∨(x=(i,true,f.slips)∧f.run=2∧f.tries=f.slips+1∧f.un=false)):=by
 obtain⟨i,f,hf,hm⟩:=opG_mem hx
 rw[zD] at hm
 have hi:=(jH.1 hf).1;have hg:l.getD i Fa.z=f:=by rw[jU,hf];rfl
 obtain⟨ho,hs⟩:=hl.2 i hi
 rw[hg] at ho hs
 have hsub:subs.getD i true=false:=by
  cases h:subs.getD i true with
  | false=>rfl
  | true=>
   rw[hs h] at hm
   simp[opF,Fa.z] at hm
 have hi1:1≤i:=by
  cases i with
  | zero=>rw[h0] at hsub;cases hsub
  | succ n=>omega
 have hmem:=hm;unfold opF at hm;obtain⟨o1,o2,o3,o4,o5,o6,o7⟩:=ho
 rcases jX.1 hm with h | h
 ·split at h
  ·rename_i hr
   simp at h;have ht:f.tries=0:=by omega
   refine⟨i,f,by rw[h],hi1,hi,hsub,hg,hf,⟨o1,o2,o3,o4,o5,o6,o7⟩,?_,.inl ⟨h,hr,ht⟩⟩
   unfold opF;rw[if_pos hr,if_neg (by omega)]
   rfl
  ·cases h
 ·split at h
  ·rename_i hr
   simp at h;have ht:f.tries=f.slips+1:=by omega
   have h2:f.run=2:=by omega
   refine⟨i,f,by rw[h],hi1,hi,hsub,hg,hf,⟨o1,o2,o3,o4,o5,o6,o7⟩,?_,.inr ⟨h,h2,ht,hr.2⟩⟩
   unfold opF;rw[if_neg (by omega),if_pos hr]
   rfl
  ·cases h
end Go.Proofs.YtieoppabellafaaGreatDoor.Fc
