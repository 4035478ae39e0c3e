/- Texts of the seat, packed: Kr Li Lj Lk Ll. -/
import Derived.Test.YtieoppabellafaaGreatDoorH01
import Derived.Test.YtieoppabellafaaGreatDoorH17
import Derived.Test.YtieoppabellafaaGreatDoorH13
import Derived.Test.YtieoppabellafaaGreatDoorH18
import Derived.Great.FillDense
import Derived.Laws.Tables
import Derived.Deep.MidRow
set_option maxRecDepth 1000000
set_option maxHeartbeats 64000000
set_option linter.unusedVariables false
namespace Go.Proofs.YtieoppabellafaaGreatDoor.St
open Sx
theorem kd_nodes:∀(l:List (Lab × Tr)),(∀x∈l,Kd true x.2)→Kd false (nodesL l)
 | [],_=>trivial
 | x :: l,h=>⟨rfl,h x (by simp),kd_nodes l fun y hy=>h y (by simp[hy])⟩
theorem kd_bodies:∀(l:List Tr),(∀x∈l,Kd false x)→Kd true (bodiesL l)
 | [],_=>trivial
 | x :: l,h=>⟨rfl,h x (by simp),kd_bodies l fun y hy=>h y (by simp[hy])⟩
theorem kd_kids {its:List It}{rec:Nat→Tr}(hr:∀k,Kd true (rec k))(i alt:Nat):∀k,∀x∈kidsT its rec i alt k,Kd true x.2
 | 0,x,hx=>by cases hx
 | k+1,x,hx=>by
  unfold kidsT at hx
  rcases jX.1 hx with hx | hx
  ·exact kd_kids hr i alt k x hx
  ·split at hx
   ·split at hx
    ·simp at hx;subst hx;exact hr k
    ·cases hx
   ·cases hx
theorem kd_bodT (its:List It):∀(f i:Nat),Kd true (bodT its f i)
 | 0,_=>trivial
 | f+1,i=>by
  unfold bodT;refine kd_bodies _ fun x hx=>?_
  obtain⟨a,_,rfl⟩:=zS.1 hx
  exact kd_nodes _ (kd_kids (kd_bodT its f) i a _)
theorem xs_ok (t:Tr):∀(k:Bool) (inn alt last d:Nat),Kd k t→Sx.okL (fltn d t)=true→∀y∈xsT t inn alt last,nodeOk y.lab y.am=true:=by
 induction t with
 | e=>intro k inn alt last d _ _ y hy;cases hy
 | b x r ih1 ih2=>
  intro k inn alt last d hk ho y hy;obtain⟨_,k1,k2⟩:=hk
  unfold Sx.okL fltn at ho;rw[List.all_append,jT] at ho
  rcases jX.1 hy with hy | hy
  ·exact ih1 _ _ _ _ d k1 ho.1 y hy
  ·exact ih2 _ _ _ _ d k2 ho.2 y hy
 | n l s r ih1 ih2=>
  intro k inn alt last d hk ho y hy;obtain⟨_,k1,k2⟩:=hk
  unfold Sx.okL fltn at ho;rw[List.all_cons,List.all_append,jT,jT] at ho
  obtain⟨o1,o2,o3⟩:=ho
  rcases zJ.1 hy with rfl | hy
  ·exact o1
  ·rcases jX.1 hy with hy | hy
   ·cases hsub:l.sub with
    | true=>
     rw[hsub] at o2
     exact ih1 _ _ _ _ (d+1) k1 o2 y hy
    | false=>
     have hs:s= .e:=by
      unfold nodeOk at o1;simp only[hsub] at o1;cases s with
      | e=>rfl
      | b x r=>simp[Tr.len] at o1
      | n l t r=>simp[Tr.len] at o1
     subst hs;cases hy
   ·exact ih2 _ _ _ _ d k2 o3 y hy
def It.z:It:=⟨[],[],false,false,0,0,0,[]⟩
def plOf (its:List It):Pl where
 n:=its.length
 sub:=fun i=>(its.getD i It.z).sub
 vital:=fun i=>(its.getD i It.z).vital
 alts:=fun i=>(its.getD i It.z).alts.toNat
 inn:=fun i=>(its.getD i It.z).inn.toNat
 alt:=fun i=>(its.getD i It.z).alt.toNat
theorem getD_it {its:List It}{i:Nat}{x:It}(h:its[i]? =some x):its.getD i It.z=x:=by
 rw[jU,h]
 rfl
theorem plan_items {its:List It}{q:By × Tr}(h:sagaP its=some q) :
  (∃x,its[0]? =some x∧x.sub=true∧x.inn= -1∧x.alt=0∧1≤x.alts∧x.alts≤4)∧
  ∀(i:Nat) (x:It),its[i]? =some x→1≤i→(∃(j a:Nat) (y:It),x.inn=(j:Int)∧x.alt=(a:Int)∧j < i∧its[j]? =some y∧(a:Int) < y.alts∧y.sub=true)∧(if x.sub then 1≤x.alts∧x.alts≤4 else x.alts=0∧x.vital=false):=by
 unfold sagaP at h
 split at h
 rotate_left
 ·cases h
 rename_i hc
 obtain⟨_,hp⟩:=hc
 have hk:Kd true (bodS its):=kd_bodT its _ 0;obtain⟨p1,p2,p3,p4⟩:=planT_parts hp
 have hfs:=p1;unfold fitS at hfs;simp only[jT,decide_eq_true_eq] at hfs;obtain⟨f1,_,_,f4,f5⟩:=hfs
 have hr:rightS (nameI its 0) (bodS its)=true:=by
  apply Classical.byContradiction
  intro h9;unfold codeS at f1;rw[if_neg h9] at f1
  cases f1
 unfold rightS at hr;simp only[jT,decide_eq_true_eq] at hr;obtain⟨⟨⟨_,hpos⟩,_⟩,hok⟩:=hr
 have h4:(bodS its).len≤4:=by
  unfold fits at f4;simp only[jT,decide_eq_true_eq] at f4;exact f4.1
 have htell:=plan_tells hp;have hroot:its[0]? =some (rootI (nameI its 0) (bodS its).len):=by
  have h9:=its2_root (nameI its 0) (bodS its).len (xsT (bodS its) 0 0 0);rw[←p4] at h9
  exact h9
 have step:∀(i:Nat) (x:It),its[i]? =some x→1≤i→(if x.sub then 1≤x.alts∧x.alts≤4 else x.alts=0∧x.vital=false):=by
  intro i x hx hi;obtain⟨k,rfl⟩:∃k,i=k+1:=⟨i - 1,by omega⟩
  have hkl:k < (xsT (bodS its) 0 0 0).length:=by
   have:=(jH.1 hx).1;rw[htell.len] at this
   omega
  obtain⟨y,hy⟩:∃y,(xsT (bodS its) 0 0 0)[k]? =some y:=⟨_,jF hkl⟩
  obtain⟨_,_,z,hz,_,_,ha,hlab⟩:=htell.at_ k y hy
  rw[hx] at hz
  cases hz;have hm:=jS hy;have hn:=xs_ok (bodS its) true 0 0 0 1 hk hok y hm;obtain⟨hf,he⟩:=fits_all (bodS its) 0 0 0 f5 y hm
  have hl4:y.am≤4:=by
   unfold fits at hf;simp only[jT,decide_eq_true_eq] at hf;rw[he]
   exact hf.1
  have hs:x.sub=y.lab.sub:=by rw[←hlab];rfl
  have hv:x.vital=y.lab.vital:=by rw[←hlab];rfl
  unfold nodeOk at hn;rw[jT] at hn
  rw[hs,hv,ha]
  have hn2:=hn.2;cases hsub:y.lab.sub with
  | true=>
   rw[hsub] at hn2
   simp at hn2;rw[if_pos rfl]
   omega
  | false=>
   rw[hsub] at hn2
   simp at hn2;rw[if_neg (by decide)]
   exact⟨by omega,hn2.1.2⟩
 refine⟨⟨_,hroot,rfl,rfl,rfl,by show (1:Int)≤((bodS its).len:Int);omega,by show (((bodS its).len:Nat):Int)≤4;omega⟩,fun i x hx hi=>⟨?_,step i x hx hi⟩⟩
 obtain⟨j,a,y,e1,e2,e3,e4,e5⟩:=item_in hp hk hx (by omega)
 refine⟨j,a,y,e1,e2,e3,e4,e5,?_⟩
 by_cases hj:j=0
 ·subst hj;rw[hroot] at e4
  cases e4;rfl
 ·have h9:=step j y e4 (by omega);cases hs:y.sub with
  | true=>rfl
  | false=>
   rw[hs,if_neg (by decide)] at h9
   omega
theorem plan_ok {its:List It}{q:By × Tr}(h:sagaP its=some q):(plOf its).Ok:=by
 obtain⟨⟨r,r0,r1,r2,r3,r4,r5⟩,hi⟩:=plan_items h
 have hlen:1≤its.length:=by have:=(jH.1 r0).1;omega
 refine⟨hlen,by show (its.getD 0 It.z).sub=true;rw[getD_it r0];exact r1,fun i h1 h2=>?_,fun i h2 hs=>?_⟩
 ·obtain⟨x,hx⟩:∃x,its[i]? =some x:=⟨_,jF h2⟩
  obtain⟨⟨j,a,y,e1,e2,e3,e4,e5,e6⟩,_⟩:=hi i x hx h1
  have ej:(plOf its).inn i=j:=by show (its.getD i It.z).inn.toNat=j;rw[getD_it hx,e1];rfl
  have ea:(plOf its).alt i=a:=by show (its.getD i It.z).alt.toNat=a;rw[getD_it hx,e2];rfl
  rw[ej,ea]
  refine⟨e3,by show (its.getD j It.z).sub=true;rw[getD_it e4];exact e6,by show a < (its.getD j It.z).alts.toNat;rw[getD_it e4];omega⟩
 ·obtain⟨x,hx⟩:∃x,its[i]? =some x:=⟨_,jF h2⟩
  have hs':x.sub=true:=by have:(its.getD i It.z).sub=true:=hs;rw[getD_it hx] at this;exact this
  show 1≤(its.getD i It.z).alts.toNat;rw[getD_it hx]
  by_cases h0:i=0
  ·subst h0;rw[r0] at hx
   cases hx;omega
  ·have:=(hi i x hx (by omega)).2;rw[hs',if_pos rfl] at this
   omega
end Go.Proofs.YtieoppabellafaaGreatDoor.St
namespace Go.Proofs.YtieoppabellafaaGreatDoor.Sa
open Fc St
theorem clears_allK {p:Pl}{K:Nat→IW}{q:Nat→Bool}{s a:Nat}(h:∀j,s < j→j < p.n→q j=(K j).clean):allK p s a q=clears p K s a:=by
 unfold allK clears;rw[Bool.eq_iff_iff,zF,zF]
 refine forall_congr' fun i=>forall_congr' fun hi=>?_
 rw[zB] at hi
 by_cases hk:kid p s a i=true
 ·rw[hk,h i (of_decide_eq_true hk).1 hi]
 ·rw[show kid p s a i=false by simpa using hk]
  rfl
theorem falls_allK {p:Pl}{f:Nat→Fa}{K:Nat→IW}{m:Nat→Nat→Bool}{s a:Nat}(hv:∀j,j < p.n→p.sub j=false→p.vital j=false)(h:∀j,s < j→j < p.n→m 2 j=(K j).spent):(!allK p s a (okH p f m))=falls p f K s a:=by
 cases hF:falls p f K s a with
 | true=>
  unfold falls at hF;obtain⟨i,hi,hx⟩:=List.any_eq_true.1 hF
  rw[zB] at hi
  rw[jT] at hx
  have hk:=of_decide_eq_true hx.1;rw[allK_no hx.1 ?_]
  ·rfl
  ·unfold okH;rw[h i hk.1 hi]
   have:=hx.2;rw[Bool.or_eq_true] at this
   rcases this with h1 | h1
   ·rw[h1];rfl
   ·rw[jT,jT] at h1
    rw[h1.1.2,h1.2]
    simp
 | false=>
  unfold falls at hF;rw[allK_yes fun i h1 h2 hk=>?_]
  ·rfl
  ·have:=List.any_eq_false.1 hF i (zB.2 h2);rw[hk,Bool.true_and] at this
   unfold okH;rw[h i h1 h2]
   have h9:(decide ((f i).run=3) || p.sub i && p.vital i && (K i).spent)=false:=by simpa using this
   rw[Bool.or_eq_false_iff] at h9
   rw[h9.1]
   cases hsub:p.sub i with
   | true=>
    have:=h9.2;rw[hsub,Bool.true_and] at this
    rw[this]
    rfl
   | false=>
    rw[hv i h2 hsub]
    rfl
theorem whole_allK {p:Pl}{K:Nat→IW}{m:Nat→Nat→Bool}{s a:Nat}(hs:∀j,j < p.n→p.sub j=false→(K j).spent=false)(h2:∀j,s < j→j < p.n→m 2 j=(K j).spent)(h3:∀j,s < j→j < p.n→m 3 j=(K j).done):allK p s a (okD p m)=whole p K s a:=by
 unfold allK whole;rw[Bool.eq_iff_iff,zF,zF]
 refine forall_congr' fun i=>forall_congr' fun hi=>?_
 rw[zB] at hi
 by_cases hk:kid p s a i=true
 ·have hd:=of_decide_eq_true hk;unfold okD;rw[hk,h2 i hd.1 hi,h3 i hd.1 hi]
  cases hsub:p.sub i with
  | true=>simp
  | false=>simp[hs i hi hsub]
 ·rw[show kid p s a i=false by simpa using hk]
  rfl
theorem touched_allB {p:Pl}(hp:p.Ok){K:Nat→IW}{m:Nat→Nat→Bool}{s:Nat}(h:∀j,s < j→j < p.n→m 0 j=(K j).touched) :
  (!allB (p.alts s) fun a=>allK p s a fun i=> !m 0 i)=((List.range p.n).any fun i=>decide (s < i∧p.inn i=s) && (K i).touched):=by
 cases hF:((List.range p.n).any fun i=>decide (s < i∧p.inn i=s) && (K i).touched) with
 | true=>
  obtain⟨i,hi,hx⟩:=List.any_eq_true.1 hF
  rw[zB] at hi
  rw[jT] at hx
  have hk:=of_decide_eq_true hx.1;have h3:=(hp.inn i (by omega) hi).2.2;rw[hk.2] at h3
  have hkid:kid p s (p.alt i) i=true:=decide_eq_true ⟨hk.1,hi,hk.2,rfl⟩;rw[allB_no h3 (allK_no hkid (by rw[h i hk.1 hi,hx.2];rfl))]
  rfl
 | false=>
  rw[allB_yes fun a ha=>allK_yes fun i h1 h2 hk=>?_]
  ·rfl
  ·have:=List.any_eq_false.1 hF i (zB.2 h2);have hd:=of_decide_eq_true hk;rw[decide_eq_true ⟨hd.1,hd.2.2.1⟩,Bool.true_and] at this
   rw[h i h1 h2]
   simpa using this
theorem step_spent {p:Pl}{f:Nat→Fa}{j:Nat}(hj:j < p.n)(hs:p.sub j=false):(W p f j).spent=false:=by
 rw[W_eq hj,hs]
 rfl
theorem saga_touched {p:Pl}(hp:p.Ok){f:Nat→Fa}{m:Nat→Nat→Bool}{s:Nat}(hs:s < p.n)(hsub:p.sub s=true)(h:∀j,s < j→j < p.n→m 0 j=(W p f j).touched):(!allB (p.alts s) fun a=>allK p s a fun i=> !m 0 i)=(W p f s).touched:=by
 rw[W_eq hs,if_pos hsub]
 exact touched_allB hp h
theorem saga_clean {p:Pl}{f:Nat→Fa}{m:Nat→Nat→Bool}{s:Nat}(hs:s < p.n)(hsub:p.sub s=true)(h:∀j,s < j→j < p.n→m 1 j=(W p f j).clean):(allB (p.alts s) fun a=>allK p s a (m 1))=(W p f s).clean:=by
 rw[W_eq hs,if_pos hsub]
 show (List.range (p.alts s)).all _=(List.range (p.alts s)).all _
 congr 1
 funext a
 exact clears_allK h
theorem ovr_eq {p:Pl}{f:Nat→Fa}(hv:∀j,j < p.n→p.sub j=false→p.vital j=false){m:Nat→Nat→Bool}{s:Nat}(h1:∀j,s < j→j < p.n→m 1 j=(W p f j).clean)(h2:∀j,s < j→j < p.n→m 2 j=(W p f j).spent):(ovr p f m s)=fun a=>falls p f (W p f) s a && clears p (W p f) s a:=by
 funext a
 unfold ovr;rw[clears_allK h1,falls_allK hv h2,Bool.and_comm]
theorem saga_spent {p:Pl}{f:Nat→Fa}(hv:∀j,j < p.n→p.sub j=false→p.vital j=false){m:Nat→Nat→Bool}{s:Nat}(hs:s < p.n)(hsub:p.sub s=true)(h1:∀j,s < j→j < p.n→m 1 j=(W p f j).clean)(h2:∀j,s < j→j < p.n→m 2 j=(W p f j).spent):(allB (p.alts s) fun a=>allK p s a (m 1) && !allK p s a (okH p f m))=(W p f s).spent:=by
 rw[W_eq hs,if_pos hsub]
 have:=ovr_eq hv h1 h2;show (List.range (p.alts s)).all (ovr p f m s)=_;rw[this]
 rfl
theorem saga_at {p:Pl}{f:Nat→Fa}(hv:∀j,j < p.n→p.sub j=false→p.vital j=false){m:Nat→Nat→Bool}{s:Nat}(hs:s < p.n)(hsub:p.sub s=true)(h1:∀j,s < j→j < p.n→m 1 j=(W p f j).clean)(h2:∀j,s < j→j < p.n→m 2 j=(W p f j).spent):first (ovr p f m s) (p.alts s) (p.alts s) 0=(W p f s).at_:=by
 rw[W_eq hs,if_pos hsub,ovr_eq hv h1 h2]
 rfl
theorem saga_done {p:Pl}{f:Nat→Fa}(hv:∀j,j < p.n→p.sub j=false→p.vital j=false){m:Nat→Nat→Bool}{s:Nat}(hs:s < p.n)(hsub:p.sub s=true)(h1:∀j,s < j→j < p.n→m 1 j=(W p f j).clean)(h2:∀j,s≤j→j < p.n→m 2 j=(W p f j).spent)(h3:∀j,s < j→j < p.n→m 3 j=(W p f j).done) :
  (!m 2 s && allK p s (first (ovr p f m s) (p.alts s) (p.alts s) 0) (okD p m))=(W p f s).done:=by
 rw[saga_at hv hs hsub h1 fun j q1 q2=>h2 j (by omega) q2,h2 s (jG _) hs,whole_allK (fun j hj=>step_spent hj) (fun j q1 q2=>h2 j (by omega) q2) h3]
 rw[W_eq hs,if_pos hsub]
 rfl
end Go.Proofs.YtieoppabellafaaGreatDoor.Sa
namespace Go.Proofs.YtieoppabellafaaGreatDoor.Sa
open Go.RowKit Go.Shelf Fc St
theorem fill_part {place:Nat→Option (Nat × Nat)}{c:Array Value}{i off:Nat}{v:Value}{rest:List (Nat × Value)}(hp:place i=some (off,v.cells.size))(hc:off+v.cells.size≤c.size) :
  ∃c':Array Value,Instr.fill place c ((i,v) :: rest)=Instr.fill place c' rest∧c'.size=c.size∧∀k,c'[k]? =if off≤k∧k < off+v.cells.size then v.cells[k - off]? else c[k]? :=by
 rw[Instr.fill.eq_2,hp]
 simp only[ne_eq,not_true_eq_false,decide_false,Bool.false_or,decide_eq_true_eq];rw[if_neg (by omega)]
 refine⟨_,rfl,?_⟩
 rw[←Array.foldl_toList,Array.toList_zipIdx]
 obtain⟨h1,h2⟩:=Great.foldl_set off v.cells.toList 0 c
 refine⟨h1,fun k=>?_⟩
 have h3:=h2 k;simp only[Nat.add_zero,Array.length_toList,Array.getElem?_toList] at h3;rw[show (List.foldl _ c (v.cells.toList.zipIdx 0))[k]? =_ from h3]
 by_cases h:off≤k∧k < off+v.cells.size
 ·rw[if_pos ⟨h.1,h.2,by omega⟩,if_pos h]
 ·rw[if_neg (fun h9=>h ⟨h9.1,h9.2.1⟩),if_neg h]
def brdV (n:Int)(S A:Nat→Int)(M:Nat→Nat→Bool)(C:Nat→Bool)(j:Nat):Value:=
 if j=0 then .int .i64 n else if j < 65 then .int .i64 (S (j - 1)) else if j < 129 then .int .i64 (A (j - 65)) else if j < 385 then .bool (M ((j - 129) / 4) ((j - 129) % 4)) else .bool (C (j - 385))
def brdL (n:Int)(S A:Nat→Int)(M:Nat→Nat→Bool)(C:Nat→Bool):List Value:=(List.range 449).map (brdV n S A M C)
theorem brdL_len (n:Int)(S A:Nat→Int)(M:Nat→Nat→Bool)(C:Nat→Bool):(brdL n S A M C).length=449:=by unfold brdL;rw[zG,List.length_range]
theorem brdL_get {n:Int}{S A:Nat→Int}{M:Nat→Nat→Bool}{C:Nat→Bool}{j:Nat}(hj:j < 449):(brdL n S A M C)[j]? =some (brdV n S A M C j):=by
 unfold brdL;rw[zC,List.getElem?_range hj]
 rfl
def putN (S:Nat→Int)(i:Nat)(x:Int):Nat→Int:=fun k=>if k=i then x else S k
theorem brdL_setA {n:Int}{S A:Nat→Int}{M:Nat→Nat→Bool}{C:Nat→Bool}{i:Nat}(x:Int)(hi:i < 64):(brdL n S A M C).set (65+i) (.int .i64 x)=brdL n S (putN A i x) M C:=by
 refine List.ext_getElem? fun j=>?_
 rw[List.getElem?_set]
 by_cases hj:j < 449
 ·rw[brdL_get hj,brdL_get hj,brdL_len]
  by_cases h:65+i=j
  ·subst h;rw[if_pos rfl,if_pos (by omega)]
   unfold brdV putN;rw[if_neg (by omega),if_neg (by omega),if_pos (by omega),if_pos (by omega)]
  ·rw[if_neg h]
   unfold brdV putN
   congr 1
   split
   ·rfl
   ·split
    ·rfl
    ·split
     ·rw[if_neg (by omega)]
     ·rfl
 ·rw[zM (by rw[brdL_len];omega),zM (by rw[brdL_len];omega),if_neg (by omega)]
theorem brdL_setS {n:Int}{S A:Nat→Int}{M:Nat→Nat→Bool}{C:Nat→Bool}{i:Nat}(x:Int)(hi:i < 64):(brdL n S A M C).set (1+i) (.int .i64 x)=brdL n (putN S i x) A M C:=by
 refine List.ext_getElem? fun j=>?_
 rw[List.getElem?_set]
 by_cases hj:j < 449
 ·rw[brdL_get hj,brdL_get hj,brdL_len]
  by_cases h:1+i=j
  ·subst h;rw[if_pos rfl,if_pos (by omega)]
   unfold brdV putN;rw[if_neg (by omega),if_pos (by omega),if_pos (by omega)]
  ·rw[if_neg h]
   unfold brdV putN
   congr 1
   split
   ·rfl
   ·split
    ·rw[if_neg (by omega)]
    ·rfl
 ·rw[zM (by rw[brdL_len];omega),zM (by rw[brdL_len];omega),if_neg (by omega)]
def mrkL (C:Nat→Bool):List Value:=(List.range 64).map fun i=> .bool (C i)
def place55:Nat→Option (Nat × Nat):=fun i=>(#[(0,1),(1,64),(65,64),(129,256),(385,64)]:Array (Nat × Nat))[i]?
theorem zero55:Tryz.zeroCells139=(brdL 0 (fun _=>0) (fun _=>0) (fun _ _=>false) (fun _=>false)).toArray:=by kernel_rfl
theorem built55_fill (parts:List (Nat × Value)):Tryz.prog.built 139 parts=Instr.fill place55 Tryz.zeroCells139 parts:=by kernel_rfl
theorem built55 (n:Int)(M:Nat→Nat→Bool)(C:Nat→Bool):Tryz.prog.built 139 [(0,.int .i64 n),(4,.agg (mrkL C).toArray),(3,.agg (bodL M).toArray)]=some (brdL n (fun _=>0) (fun _=>0) M C).toArray:=by
 have hm:(mrkL C).length=64:=by unfold mrkL;rw[zG,List.length_range]
 have h2:(Value.agg (mrkL C).toArray).cells.size=64:=by show (mrkL C).toArray.size=64;rw[jN,hm]
 have h3:(Value.agg (bodL M).toArray).cells.size=256:=by show (bodL M).toArray.size=256;rw[jN,bodL_len]
 have h1:(Value.int .i64 n).cells.size=1:=rfl;rw[built55_fill,zero55]
 obtain⟨z,hz⟩:∃z,z=brdL 0 (fun _=>0) (fun _=>0) (fun _ _=>false) (fun _=>false):=⟨_,rfl⟩
 have hzl:z.toArray.size=449:=by rw[jN,hz,brdL_len]
 rw[←hz]
 obtain⟨c1,e1,s1,g1⟩:=fill_part (place:=place55) (c:=z.toArray) (i:=0) (off:=0) (v:= .int .i64 n) (rest:=[(4,.agg (mrkL C).toArray),(3,.agg (bodL M).toArray)]) (by rw[h1];rfl) (by rw[h1,hzl];decide)
 obtain⟨c2,e2,s2,g2⟩:=fill_part (place:=place55) (c:=c1) (i:=4) (off:=385) (v:= .agg (mrkL C).toArray) (rest:=[(3,.agg (bodL M).toArray)]) (by rw[h2];rfl) (by rw[h2,s1,hzl];decide)
 obtain⟨c3,e3,s3,g3⟩:=fill_part (place:=place55) (c:=c2) (i:=3) (off:=129) (v:= .agg (bodL M).toArray) (rest:=[]) (by rw[h3];rfl) (by rw[h3,s2,s1,hzl];decide)
 rw[e1,e2,e3,Instr.fill.eq_1]
 refine congrArg some (Array.ext_getElem? fun k=>?_);rw[g3,g2,g1,h1,h2,h3,hz]
 show (if 129≤k∧k < 129+256 then (bodL M).toArray[k - 129]? else if 385≤k∧k < 385+64 then (mrkL C).toArray[k - 385]? else if 0≤k∧k < 0+1 then (#[Value.int .i64 n]:Array Value)[k - 0]? else _)=_;simp only[jY]
 by_cases hk:k < 449
 ·rw[brdL_get hk,brdL_get hk]
  unfold brdV
  by_cases k1:129≤k∧k < 129+256
  ·rw[if_pos k1,if_neg (by omega),if_neg (by omega),if_neg (by omega),if_pos (by omega)]
   unfold bodL;rw[zC,List.getElem?_range (by omega)]
   rfl
  ·rw[if_neg k1]
   by_cases k2:385≤k∧k < 385+64
   ·rw[if_pos k2,if_neg (by omega),if_neg (by omega),if_neg (by omega),if_neg (by omega)]
    unfold mrkL;rw[zC,List.getElem?_range (by omega)]
    rfl
   ·rw[if_neg k2]
    by_cases k3:k=0
    ·subst k3;rfl
    ·rw[if_neg (by omega),if_neg k3,if_neg k3]
     by_cases k4:k < 65
     ·rw[if_pos k4,if_pos k4]
     ·rw[if_neg k4,if_neg k4,if_pos (by omega),if_pos (by omega)]
 ·rw[if_neg (by omega),if_neg (by omega),if_neg (by omega),zM (by rw[brdL_len];omega),zM (by rw[brdL_len];omega)]
variable {p:Pl}{f:Nat→Fa}{xb xo icap fb fo lcap:Nat}{b:Nat}{m:Nat→Nat→Bool}{w wx:World}{n:Nat}
theorem mark0_any (hB:Bs p f xb xo icap fb fo lcap w)(hn:p.n=n)(hS:Sd w b (.slice (some ⟨xb,xo,none⟩) n icap) (.slice (some ⟨fb,fo,none⟩) n lcap) m wx) :
  Calls Tryz.prog 89 #[.pointer (some ⟨b,0,none⟩),.pointer (some ⟨b,2,none⟩),.func (Fn.func 90) #[] #[],.func (Fn.func 91) #[.pointer (some ⟨b,0,none⟩)] #[]] wx fun e w'=>e= .returned (.tuple #[])∧∃m',Sd w b (.slice (some ⟨xb,xo,none⟩) n icap) (.slice (some ⟨fb,fo,none⟩) n lcap) m' w'∧Agr n 0 (fun i=>(W p f i).touched) 0 m m':=by
 refine mark_any hB hn hS 0 2 (by omega) rfl 91 90 (fun i=>(W p f i).touched) (fun _ _=>by kernel_rfl) (fun _ _=>by kernel_rfl) (fun wy m' i hS' hA hi hsub=>?_) (fun wy i hi hsub=>?_)
 ·have hv:∀j,j < p.n→p.sub j=false→p.vital j=false:=fun j hj hs=>(hB.step j hj hs).2
  have h9:=saga_touched hB.ok (f:=f) (m:=m') (s:=i) (by omega) hsub (fun j h1 h2=>hA.from_ j (by omega) (by omega));have h8:=sagaTouched_any hB hn hS' hi;rw[h9] at h8
  exact h8
 ·have he:(W p f i).touched=(stepW (f i)).touched:=by rw[W_eq (by omega),hsub];rfl
  rw[he]
  exact hasBegun_any (f i) wy
theorem mark1_any (hB:Bs p f xb xo icap fb fo lcap w)(hn:p.n=n)(hS:Sd w b (.slice (some ⟨xb,xo,none⟩) n icap) (.slice (some ⟨fb,fo,none⟩) n lcap) m wx) :
  Calls Tryz.prog 89 #[.pointer (some ⟨b,0,none⟩),.pointer (some ⟨b,66,none⟩),.func (Fn.func 92) #[] #[],.func (Fn.func 93) #[.pointer (some ⟨b,0,none⟩)] #[]] wx fun e w'=>e= .returned (.tuple #[])∧∃m',Sd w b (.slice (some ⟨xb,xo,none⟩) n icap) (.slice (some ⟨fb,fo,none⟩) n lcap) m' w'∧Agr n 1 (fun i=>(W p f i).clean) 0 m m':=by
 refine mark_any hB hn hS 1 66 (by omega) rfl 93 92 (fun i=>(W p f i).clean) (fun _ _=>by kernel_rfl) (fun _ _=>by kernel_rfl) (fun wy m' i hS' hA hi hsub=>?_) (fun wy i hi hsub=>?_)
 ·have hv:∀j,j < p.n→p.sub j=false→p.vital j=false:=fun j hj hs=>(hB.step j hj hs).2
  have h9:=saga_clean (f:=f) (m:=m') (s:=i) (by omega) hsub (fun j h1 h2=>hA.from_ j (by omega) (by omega));have h8:=sagaClean_any hB hn hS' hi;rw[h9] at h8
  exact h8
 ·have he:(W p f i).clean=(stepW (f i)).clean:=by rw[W_eq (by omega),hsub];rfl
  rw[he]
  exact stepClean_any (f i) wy
theorem mark2_any (hB:Bs p f xb xo icap fb fo lcap w)(hn:p.n=n)(hS:Sd w b (.slice (some ⟨xb,xo,none⟩) n icap) (.slice (some ⟨fb,fo,none⟩) n lcap) m wx)(h1:∀i,i < n→m 1 i=(W p f i).clean) :
  Calls Tryz.prog 89 #[.pointer (some ⟨b,0,none⟩),.pointer (some ⟨b,130,none⟩),.func (Fn.func 94) #[] #[],.func (Fn.func 95) #[.pointer (some ⟨b,0,none⟩)] #[]] wx fun e w'=>e= .returned (.tuple #[])∧∃m',Sd w b (.slice (some ⟨xb,xo,none⟩) n icap) (.slice (some ⟨fb,fo,none⟩) n lcap) m' w'∧Agr n 2 (fun i=>(W p f i).spent) 0 m m':=by
 refine mark_any hB hn hS 2 130 (by omega) rfl 95 94 (fun i=>(W p f i).spent) (fun _ _=>by kernel_rfl) (fun _ _=>by kernel_rfl) (fun wy m' i hS' hA hi hsub=>?_) (fun wy i hi hsub=>?_)
 ·have hv:∀j,j < p.n→p.sub j=false→p.vital j=false:=fun j hj hs=>(hB.step j hj hs).2
  have h9:=saga_spent hv (f:=f) (m:=m') (s:=i) (by omega) hsub (fun j q1 q2=>(hA.rest 1 j (by decide)).trans (h1 j (by omega))) (fun j q1 q2=>hA.from_ j (by omega) (by omega));have h8:=sagaSpent_any hB hn hS' hi;rw[h9] at h8
  exact h8
 ·have he:(W p f i).spent=(stepW (f i)).spent:=by rw[W_eq (by omega),hsub];rfl
  rw[he]
  exact never_any (f i) wy
theorem mark3_any (hB:Bs p f xb xo icap fb fo lcap w)(hn:p.n=n)(hS:Sd w b (.slice (some ⟨xb,xo,none⟩) n icap) (.slice (some ⟨fb,fo,none⟩) n lcap) m wx)(h1:∀i,i < n→m 1 i=(W p f i).clean)(h2:∀i,i < n→m 2 i=(W p f i).spent) :
  Calls Tryz.prog 89 #[.pointer (some ⟨b,0,none⟩),.pointer (some ⟨b,194,none⟩),.func (Fn.func 96) #[] #[],.func (Fn.func 97) #[.pointer (some ⟨b,0,none⟩)] #[]] wx fun e w'=>e= .returned (.tuple #[])∧∃m',Sd w b (.slice (some ⟨xb,xo,none⟩) n icap) (.slice (some ⟨fb,fo,none⟩) n lcap) m' w'∧Agr n 3 (fun i=>(W p f i).done) 0 m m':=by
 refine mark_any hB hn hS 3 194 (by omega) rfl 97 96 (fun i=>(W p f i).done) (fun _ _=>by kernel_rfl) (fun _ _=>by kernel_rfl) (fun wy m' i hS' hA hi hsub=>?_) (fun wy i hi hsub=>?_)
 ·have hv:∀j,j < p.n→p.sub j=false→p.vital j=false:=fun j hj hs=>(hB.step j hj hs).2
  have h9:=saga_done hv (f:=f) (m:=m') (s:=i) (by omega) hsub (fun j q1 q2=>(hA.rest 1 j (by decide)).trans (h1 j (by omega))) (fun j q1 q2=>(hA.rest 2 j (by decide)).trans (h2 j (by omega))) (fun j q1 q2=>hA.from_ j (by omega) (by omega));have h8:=sagaDone_any hB hn hS' hi (hB.ok.alts i (by omega) hsub);rw[h9] at h8
  exact h8
 ·have he:(W p f i).done=(stepW (f i)).done:=by rw[W_eq (by omega),hsub];rfl
  rw[he]
  exact stepDone_any (f i) wy
structure Mok (p:Pl)(f:Nat→Fa)(n:Nat)(m:Nat→Nat→Bool):Prop where
 m0:∀i,i < n→m 0 i=(W p f i).touched
 m1:∀i,i < n→m 1 i=(W p f i).clean
 m2:∀i,i < n→m 2 i=(W p f i).spent
 m3:∀i,i < n→m 3 i=(W p f i).done
def Mf (p:Pl)(f:Nat→Fa)(s a:Nat):Bool:=decide (s < p.n∧a < p.alts s) && (halted p f s || F p f s a)
def atP (p:Pl)(f:Nat→Fa)(i:Nat):Int:=if p.sub i then ((W p f i).at_:Int) else -1
theorem fallingM_any (hB:Bs p f xb xo icap fb fo lcap w)(hn:p.n=n)(hS:Sd w b (.slice (some ⟨xb,xo,none⟩) n icap) (.slice (some ⟨fb,fo,none⟩) n lcap) m wx)(hm:Mok p f n m) :
  Calls Tryz.prog 98 #[.pointer (some ⟨b,0,none⟩)] wx fun e w'=>e= .returned (.agg (bodL (Mf p f)).toArray)∧Below wx.heap.size wx w':=by
 have hv:∀j,j < p.n→p.sub j=false→p.vital j=false:=fun j hj hs=>(hB.step j hj hs).2
 have hF:∀s a,(!allK p s a (okH p f m))=F p f s a:=fun s a=>falls_allK hv fun j _ h2=>hm.m2 j (by omega)
 have h:=falling_any hB hn hS (halted p f) (halted_root p f) (fun s h1 h2=>by rw[hF,halted_eq hB.ok f h1 (by omega),Bool.or_comm]);have he:tgt p f m (halted p f)=Mf p f:=by
  funext s a
  unfold tgt Mf;rw[hF]
 rw[he] at h
 exact h
theorem bodyM_any (hB:Bs p f xb xo icap fb fo lcap w)(hn:p.n=n)(hS:Sd w b (.slice (some ⟨xb,xo,none⟩) n icap) (.slice (some ⟨fb,fo,none⟩) n lcap) m wx)(hm:Mok p f n m){s:Nat}(hs:s < n)(hsub:p.sub s=true) :
  Calls Tryz.prog 100 #[.pointer (some ⟨b,0,none⟩),.int .i64 (s:Int)] wx fun e w'=>e= .returned (.int .i64 (atP p f s))∧Below wx.heap.size wx w':=by
 have hv:∀j,j < p.n→p.sub j=false→p.vital j=false:=fun j hj hs=>(hB.step j hj hs).2
 have h:=body_any hB hn hS hs (hB.ok.alts s (by omega) hsub);have he:((first (ovr p f m s) (p.alts s) (p.alts s) 0:Nat):Int)=atP p f s:=by
  unfold atP;rw[if_pos hsub,saga_at hv (by omega) hsub (fun j _ h2=>hm.m1 j (by omega)) (fun j _ h2=>hm.m2 j (by omega))]
 rw[he] at h
 exact h
theorem sagaStatusM_any (hle:n≤64){v lv:Value}(hS:Sd w b v lv m wx)(hm:Mok p f n m){s:Nat}(hs:s < n)(hsub:p.sub s=true) :
  Calls Tryz.prog 101 #[.pointer (some ⟨b,0,none⟩),.int .i64 (s:Int),.bool (halted p f s)] wx fun e w'=>e= .returned (.int .i64 (St.S p f s))∧Below wx.heap.size wx w':=by
 have h:=sagaStatus_any hS (s:=s) (by omega) (halted p f s);have he:sagaS (iwM m s) (halted p f s)=St.S p f s:=by
  unfold St.S;rw[if_pos hsub]
  unfold sagaS iwM;rw[hm.m0 s hs,hm.m1 s hs,hm.m2 s hs,hm.m3 s hs]
 rw[he] at h
 exact h
theorem halt_at {p:Pl}(hp:p.Ok){f:Nat→Fa}{s:Nat}(h1:1≤s)(h2:s < p.n):Mf p f (p.inn s) (p.alt s)=halted p f s:=by
 have h3:=hp.inn s h1 h2;unfold Mf;rw[decide_eq_true ⟨by omega,h3.2.2⟩,Bool.true_and,halted_eq hp f h1 h2,Bool.or_comm]
structure Bl (w:World)(b d:Nat)(v lv:Value)(m:Nat→Nat→Bool)(n:Int)(S A:Nat→Int)(M:Nat→Nat→Bool)(C:Nat→Bool)(W:World):Prop where
 sd:Sd w b v lv m W
 low:w.heap.size≤d
 ne:b≠d
 bd:W.heap[d]? =some (.cells (brdL n S A M C).toArray 139 (0,0))
theorem Bl.later {w:World}{b d:Nat}{v lv:Value}{m:Nat→Nat→Bool}{n:Int}{S A:Nat→Int}{M:Nat→Nat→Bool}{C:Nat→Bool}{W W':World}(h:Bl w b d v lv m n S A M C W)(hb:Below W.heap.size W W'):Bl w b d v lv m n S A M C W':=
 ⟨h.sd.later hb,h.low,h.ne,(hb.block _ (jD.1 h.bd).1).trans h.bd⟩
theorem Bl.putA {w:World}{b d:Nat}{v lv:Value}{m:Nat→Nat→Bool}{n:Int}{S A:Nat→Int}{M:Nat→Nat→Bool}{C:Nat→Bool}{W:World}(h:Bl w b d v lv m n S A M C W){i:Nat}(x:Int)(hi:i < 64):Bl w b d v lv m n S (putN A i x) M C (W.setCell ⟨d,65+i,none⟩ (.int .i64 x)):=by
 refine⟨⟨h.sd.bel.setCell h.low _,h.sd.low,Dg.row_other h.sd.sb _ h.ne⟩,h.low,h.ne,?_⟩
 rw[Dg.row_set h.bd,jA,brdL_setA x hi]
theorem Bl.putS {w:World}{b d:Nat}{v lv:Value}{m:Nat→Nat→Bool}{n:Int}{S A:Nat→Int}{M:Nat→Nat→Bool}{C:Nat→Bool}{W:World}(h:Bl w b d v lv m n S A M C W){i:Nat}(x:Int)(hi:i < 64):Bl w b d v lv m n (putN S i x) A M C (W.setCell ⟨d,1+i,none⟩ (.int .i64 x)):=by
 refine⟨⟨h.sd.bel.setCell h.low _,h.sd.low,Dg.row_other h.sd.sb _ h.ne⟩,h.low,h.ne,?_⟩
 rw[Dg.row_set h.bd,jA,brdL_setS x hi]
theorem brd_cellA {W:World}{d:Nat}{n:Int}{S A:Nat→Int}{M:Nat→Nat→Bool}{C:Nat→Bool}(h:W.heap[d]? =some (.cells (brdL n S A M C).toArray 139 (0,0))){i:Nat}(hi:i < 64):W.cell? ⟨d,65+i,none⟩=some (.int .i64 (A i)):=by
 rw[Dg.cell_row h,jY,brdL_get (by omega)]
 unfold brdV;rw[if_neg (by omega),if_neg (by omega),if_pos (by omega),show 65+i - 65=i by omega]
theorem brd_cellS {W:World}{d:Nat}{n:Int}{S A:Nat→Int}{M:Nat→Nat→Bool}{C:Nat→Bool}(h:W.heap[d]? =some (.cells (brdL n S A M C).toArray 139 (0,0))){i:Nat}(hi:i < 64):W.cell? ⟨d,1+i,none⟩=some (.int .i64 (S i)):=by
 rw[Dg.cell_row h,jY,brdL_get (by omega)]
 unfold brdV;rw[if_neg (by omega),if_pos (by omega),show 1+i - 1=i by omega]
theorem brd_cellM {W:World}{d:Nat}{n:Int}{S A:Nat→Int}{M:Nat→Nat→Bool}{C:Nat→Bool}(h:W.heap[d]? =some (.cells (brdL n S A M C).toArray 139 (0,0))){s a:Nat}(hs:s < 64)(ha:a < 4):W.cell? ⟨d,129+s * 4+a,none⟩=some (.bool (M s a)):=by
 rw[Dg.cell_row h,jY,brdL_get (by omega)]
 unfold brdV;rw[if_neg (by omega),if_neg (by omega),if_neg (by omega),if_pos (by omega),show (129+s * 4+a - 129) / 4=s by omega,show (129+s * 4+a - 129) % 4=a by omega]
theorem brd_cellC {W:World}{d:Nat}{n:Int}{S A:Nat→Int}{M:Nat→Nat→Bool}{C:Nat→Bool}(h:W.heap[d]? =some (.cells (brdL n S A M C).toArray 139 (0,0))){i:Nat}(hi:i < 64):W.cell? ⟨d,385+i,none⟩=some (.bool (C i)):=by
 rw[Dg.cell_row h,jY,brdL_get (by omega)]
 unfold brdV;rw[if_neg (by omega),if_neg (by omega),if_neg (by omega),if_neg (by omega),show 385+i - 385=i by omega]
theorem brd_cell0 {W:World}{d:Nat}{n:Int}{S A:Nat→Int}{M:Nat→Nat→Bool}{C:Nat→Bool}(h:W.heap[d]? =some (.cells (brdL n S A M C).toArray 139 (0,0))):W.cell? ⟨d,0,none⟩=some (.int .i64 n):=by
 rw[Dg.cell_row h,jY,brdL_get (by omega)]
 rfl
structure Bx (w:World)(b d x:Nat)(v lv:Value)(m:Nat→Nat→Bool)(n:Int)(S A:Nat→Int)(M:Nat→Nat→Bool)(C:Nat→Bool)(X:Array Value)(W:World):Prop where
 bl:Bl w b d v lv m n S A M C W
 nx:x≠d
 row:W.heap[x]? =some (.cells X 50 (0,0))
theorem Bx.later {w:World}{b d x:Nat}{v lv:Value}{m:Nat→Nat→Bool}{n:Int}{S A:Nat→Int}{M:Nat→Nat→Bool}{C:Nat→Bool}{X:Array Value}{W W':World}(h:Bx w b d x v lv m n S A M C X W)(hb:Below W.heap.size W W'):Bx w b d x v lv m n S A M C X W':=
 ⟨h.bl.later hb,h.nx,(hb.block _ (jD.1 h.row).1).trans h.row⟩
theorem Bx.putA {w:World}{b d x:Nat}{v lv:Value}{m:Nat→Nat→Bool}{n:Int}{S A:Nat→Int}{M:Nat→Nat→Bool}{C:Nat→Bool}{X:Array Value}{W:World}(h:Bx w b d x v lv m n S A M C X W){i:Nat}(y:Int)(hi:i < 64):Bx w b d x v lv m n S (putN A i y) M C X (W.setCell ⟨d,65+i,none⟩ (.int .i64 y)):=
 ⟨h.bl.putA y hi,h.nx,Dg.row_other h.row _ h.nx⟩
theorem Bx.putS {w:World}{b d x:Nat}{v lv:Value}{m:Nat→Nat→Bool}{n:Int}{S A:Nat→Int}{M:Nat→Nat→Bool}{C:Nat→Bool}{X:Array Value}{W:World}(h:Bx w b d x v lv m n S A M C X W){i:Nat}(y:Int)(hi:i < 64):Bx w b d x v lv m n (putN S i y) A M C X (W.setCell ⟨d,1+i,none⟩ (.int .i64 y)):=
 ⟨h.bl.putS y hi,h.nx,Dg.row_other h.row _ h.nx⟩
structure Upk (p:Pl)(f:Nat→Fa)(k:Nat)(S A:Nat→Int):Prop where
 s:∀i,i < k→S i=St.S p f i
 a:∀i,i < k→A i=atP p f i
theorem Upk.next {p:Pl}{f:Nat→Fa}{k:Nat}{S A:Nat→Int}(h:Upk p f k S A){x y:Int}(hx:x=St.S p f k)(hy:y=atP p f k):Upk p f (k+1) (putN S k x) (putN A k y):=by
 subst hx hy;refine⟨fun i hi=>?_,fun i hi=>?_⟩
 ·unfold putN
  by_cases hk:i=k
  ·subst hk;rw[if_pos rfl]
  ·rw[if_neg hk];exact h.s i (by omega)
 ·unfold putN
  by_cases hk:i=k
  ·subst hk;rw[if_pos rfl]
  ·rw[if_neg hk];exact h.a i (by omega)
theorem size53:(Tryz.prog.info? 137).map (·.size)=some 64:=by kernel_rfl
theorem load53 {W:World}{v lv:Value}(h:Sd w b v lv m W){o:Oper}{a:Act}{x:Operand}(ho:o.op= .load 137 x)(hx:a.eval x= .pointer (some ⟨b,66,none⟩)):(execOp a.eval o).run Tryz.prog W= .ok (.value (.agg (mrkL (m 1)).toArray)) W:=by
 have hc:W.rangeAt b 66 (mrkL (m 1)):=fun j u hu=>by
  unfold mrkL at hu;rw[zC] at hu
  by_cases hj:j < 64
  ·rw[List.getElem?_range hj] at hu
   cases hu;exact h.m1 hj
  ·rw[zM (by simp;omega)] at hu
   cases hu
 have hl:(mrkL (m 1)).length=64:=by unfold mrkL;rw[zG,List.length_range]
 unfold execOp;simp only[ho,hx,Instr.loadAt,Instr.sureAddr,Sem.run_bind,Sem.run_pure,Result.andThen_ok,run_loadVar_mid W b 66 137 (mrkL (m 1)) _ hc Tryz.underlying137 rfl (by rw[size53,hl])]
theorem build55_run {W:World}{o:Oper}{a:Act}{x y z:Operand}{k:Int}{M:Nat→Nat→Bool}{C:Nat→Bool}(ho:o.op= .build 139 #[(0,x),(4,y),(3,z)])(hx:a.eval x= .int .i64 k)(hy:a.eval y= .agg (mrkL C).toArray)(hz:a.eval z= .agg (bodL M).toArray) :
  (execOp a.eval o).run Tryz.prog W= .ok (.value (.agg (brdL k (fun _=>0) (fun _=>0) M C).toArray)) W:=by
 have h:=run_build (P:=Tryz.prog) W 139 #[(0,.int .i64 k),(4,.agg (mrkL C).toArray),(3,.agg (bodL M).toArray)] _ (built55 k M C);unfold execOp;have he:((#[(0,x),(4,y),(3,z)]:Array (Nat × Operand)).map fun (q:Nat × Operand)=>(q.1,a.eval q.2))= #[(0,.int .i64 k),(4,.agg (mrkL C).toArray),(3,.agg (bodL M).toArray)]:=by
  simp[hx,hy,hz]
 simp only[ho];rw[he,Sem.run_bind,h]
 rfl
theorem box55_run {W:World}{o:Oper}{a:Act}{x:Operand}{C:Array Value}(ho:o.op= .box 139 x)(hx:a.eval x= .agg C) :
  (execOp a.eval o).run Tryz.prog W= .ok (.value (.pointer (some ⟨W.heap.size,0,none⟩))) (W.alloc (.cells C 139)):=by
 unfold execOp;simp only[ho,hx,Sem.run_bind,Instr.box,newVar,newRow,run_newObj_alloc,Sem.run_pure,Result.andThen_ok];rfl
theorem zero95 (v lv:Value):(Tryz.zeroCells172.setIfInBounds 0 v).setIfInBounds 1 lv=(stL v lv fun _ _=>false).toArray:=by
 have h:Tryz.zeroCells172=(stL (.slice none 0 0) (.slice none 0 0) fun _ _=>false).toArray:=by kernel_rfl
 rw[h]
 rfl
end Go.Proofs.YtieoppabellafaaGreatDoor.Sa
namespace Go.Proofs.YtieoppabellafaaGreatDoor.Sa
open Go.RowKit Go.Shelf Fc St
variable {p:Pl}{f:Nat→Fa}{xb xo icap fb fo lcap:Nat}{w:World}{n:Nat}
structure BdIs (p:Pl)(f:Nat→Fa)(w:World)(d:Nat)(w':World):Prop where
 bel:Below w.heap.size w w'
 low:w.heap.size≤d
 ex:∃(S A:Nat→Int) (C:Nat→Bool),w'.heap[d]? =some (.cells (brdL p.n S A (Mf p f) C).toArray 139 (0,0))∧Upk p f p.n S A∧∀i,i < p.n→C i=(W p f i).clean
theorem sd_init (w:World)(v lv:Value):Sd w (w.heap.size+1) v lv (fun _ _=>false) ((w.alloc (.cells #[v] 28)).alloc (.cells ((Tryz.zeroCells172.setIfInBounds 0 v).setIfInBounds 1 lv) 172)):=by
 rw[zero95]
 have hb1:=bl1 w (.cells #[v] 28);refine⟨hb1.alloc (by simp) _,by omega,?_⟩
 have:=Dg.row_new (w.alloc (.cells #[v] 28)) (stL v lv fun _ _=>false).toArray 172;rw[jV] at this
 exact this
theorem boardOf_any (hB:Bs p f xb xo icap fb fo lcap w)(hn:p.n=n) :
  Calls Tryz.prog 61 #[.agg #[.slice (some ⟨xb,xo,none⟩) n icap],.slice (some ⟨fb,fo,none⟩) n lcap] w fun e w'=>∃d,e= .returned (.pointer (some ⟨d,0,none⟩))∧BdIs p f w d w':=by
 have hle:n≤64:=by have:=hB.le;omega
 have hic:n≤icap:=by have:=hB.icap;omega
 have hlc:n≤lcap:=by have:=hB.lcap;omega
 have r0:=Dg.row_new w #[.slice (some ⟨xb,xo,none⟩) n icap] 28;have c0:=(Dg.cell_row r0 0).trans rfl;have HS0:Hid _:=sd_init w (.slice (some ⟨xb,xo,none⟩) n icap) (.slice (some ⟨fb,fo,none⟩) n lcap);have HB:Hid _:=hB;have HN:Hid _:=hn;clear r0 hB hn
 go_enter Tryz.func61,Tryz.ntmps61
 go_wp2_with fail
 generalize (w.alloc (.cells #[.slice (some ⟨xb,xo,none⟩) n icap] 28)).alloc (.cells ((Tryz.zeroCells172.setIfInBounds 0 (.slice (some ⟨xb,xo,none⟩) n icap)).setIfInBounds 1 (.slice (some ⟨fb,fo,none⟩) n lcap)) 172)=w1 at *;generalize w.heap.size+1=b at *;clear c0;refine Calls.mono (mark0_any HB.out HN.out HS0.out) ?_;rintro e w2 ⟨rfl,m1,hS1,hA1⟩;have HS1:Hid _:=hS1;have HA1:Hid _:=hA1;clear hS1 hA1 HS0
 go_wp2_with fail
 refine Calls.mono (mark1_any HB.out HN.out HS1.out) ?_;rintro e w3 ⟨rfl,m2,hS2,hA2⟩;have HS2:Hid _:=hS2;have HA2:Hid _:=hA2;clear hS2 hA2 HS1
 go_wp2_with fail
 refine Calls.mono (mark2_any HB.out HN.out HS2.out (fun i hi=>HA2.out.from_ i (by omega) hi)) ?_;rintro e w4 ⟨rfl,m3,hS3,hA3⟩;have HS3:Hid _:=hS3;have HA3:Hid _:=hA3;clear hS3 hA3 HS2
 go_wp2_with fail
 refine Calls.mono (mark3_any HB.out HN.out HS3.out (fun i hi=>(HA3.out.rest 1 i (by decide)).trans (HA2.out.from_ i (by omega) hi)) (fun i hi=>HA3.out.from_ i (by omega) hi)) ?_;rintro e w5 ⟨rfl,m4,hS4,hA4⟩;have HMO:Hid (Mok p f n m4):=⟨fun i hi=>(hA4.rest 0 i (by decide)).trans ((HA3.out.rest 0 i (by decide)).trans ((HA2.out.rest 0 i (by decide)).trans (HA1.out.from_ i (by omega) hi))),fun i hi=>(hA4.rest 1 i (by decide)).trans ((HA3.out.rest 1 i (by decide)).trans (HA2.out.from_ i (by omega) hi)),fun i hi=>(hA4.rest 2 i (by decide)).trans (HA3.out.from_ i (by omega) hi),fun i hi=>hA4.from_ i (by omega) hi⟩;have HS4:Hid _:=hS4;clear hS4 hA4 HS3 HA1 HA2 HA3 m1 m2 m3
 go_wp2_with fail
 have hS0:Sd w b (.slice (some ⟨xb,xo,none⟩) n icap) (.slice (some ⟨fb,fo,none⟩) n lcap) m4 w5.drew:=HS4.out.later (Below.refl _ _).drew;have hCUR:Sd w b (.slice (some ⟨xb,xo,none⟩) n icap) (.slice (some ⟨fb,fo,none⟩) n lcap) m4 w5.drew:=hS0;have HFA:Hid (∀wx,Sd w b (.slice (some ⟨xb,xo,none⟩) n icap) (.slice (some ⟨fb,fo,none⟩) n lcap) m4 wx→Calls Tryz.prog 98 #[.pointer (some ⟨b,0,none⟩)] wx fun e w'=>e= .returned (.agg (bodL (Mf p f)).toArray)∧Sd w b (.slice (some ⟨xb,xo,none⟩) n icap) (.slice (some ⟨fb,fo,none⟩) n lcap) m4 w'):=fun wx h=>Calls.mono (fallingM_any HB.out HN.out h HMO.out) (by rintro e w' ⟨rfl,hb⟩;exact⟨rfl,h.later hb⟩)
 refine region_thenG (β:=Nat) (fun d=>[(42,.pointer (some ⟨b,0,none⟩)),(43,.pointer (some ⟨b,0,none⟩)),(44,.pointer (some ⟨b,0,none⟩)),(45,.slice (some ⟨xb,xo,none⟩) n icap),(46,.int .i64 n),(47,.pointer (some ⟨b,0,none⟩)),(48,.pointer (some ⟨b,0,none⟩)),(49,.pointer (some ⟨b,66,none⟩)),(50,.agg (mrkL (m4 1)).toArray),(51,.pointer (some ⟨b,0,none⟩)),(52,.agg (bodL (Mf p f)).toArray),(53,.agg (brdL (n:Int) (fun _=>0) (fun _=>0) (Mf p f) (m4 1)).toArray),(54,.pointer (some ⟨d,0,none⟩)),(6,.pointer (some ⟨d,0,none⟩))]) (fun d w'=>Bl w b d (.slice (some ⟨xb,xo,none⟩) n icap) (.slice (some ⟨fb,fo,none⟩) n lcap) m4 (n:Int) (fun _=>0) (fun _=>0) (Mf p f) (m4 1) w') ?_ ?_
 ·refine wp_region_held (S:=fun w'=>Sd w b (.slice (some ⟨xb,xo,none⟩) n icap) (.slice (some ⟨fb,fo,none⟩) n lcap) m4 w') (by kernel_rfl) ?_;simp only[jN,jM,jP,Nat.reduceAdd,jI,jJ,jO,jL,jK];refine tK 0 42 (.pointer (some ⟨b,0,none⟩)) 13 rfl hS0 ?_;refine tG 1 43 (.pointer (some ⟨b,0,none⟩)) 12 rfl hS0 ?_;refine tG 2 44 (.pointer (some ⟨b,0,none⟩)) 11 rfl hS0 ?_;refine tV 3 45 (.slice (some ⟨xb,xo,none⟩) n icap) 10 rfl hS0 ?_ (fun wx h=>by have z0:=h.c0;go_simp);refine tG 4 46 (.int .i64 n) 9 rfl hS0 ?_;refine tK 5 47 (.pointer (some ⟨b,0,none⟩)) 8 rfl hS0 ?_;refine tG 6 48 (.pointer (some ⟨b,0,none⟩)) 7 rfl hS0 ?_;refine tG 7 49 (.pointer (some ⟨b,66,none⟩)) 6 rfl hS0 ?_;refine tV 8 50 (.agg (mrkL (m4 1)).toArray) 5 rfl hS0 ?_ (fun wx h=>load53 h (x:= .tmp 49) rfl rfl);refine tK 9 51 (.pointer (some ⟨b,0,none⟩)) 4 rfl hS0 ?_;refine oneW (R:=fun w'=>Sd w b (.slice (some ⟨xb,xo,none⟩) n icap) (.slice (some ⟨fb,fo,none⟩) n lcap) m4 w') (i:=10) (d:=52) (f:=98) (args:= #[.pointer (some ⟨b,0,none⟩)]) (v:= .agg (bodL (Mf p f)).toArray) (fuel:=3) rfl rfl (by kernel_rfl) (by kernel_rfl) (fun _=>by kernel_rfl) (HFA.out _ hCUR) (fun w' h=>h) (fun wz hR10=>?_);simp only[jA,jB,jC];refine tV 11 53 (.agg (brdL (n:Int) (fun _=>0) (fun _=>0) (Mf p f) (m4 1)).toArray) 2 rfl (hR10) ?_ (fun wx h=>build55_run (x:= .tmp 46) (y:= .tmp 50) (z:= .tmp 52) rfl rfl rfl rfl);refine wpAnyH_all (fuel:=1) (rs:=[12]) (by kernel_rfl) (by decide) (jE.2 ?_);refine wpOp_value (i:=12) (d:=54) (v:= .pointer (some ⟨wz.heap.size,0,none⟩)) (w':=wz.alloc (.cells (brdL (n:Int) (fun _=>0) (fun _=>0) (Mf p f) (m4 1)).toArray 139)) rfl rfl (by kernel_rfl) (box55_run (x:= .tmp 53) rfl rfl) ⟨((hR10)).later (bl1 _ _),?_⟩;simp only[jA,jB,jC];have hSm12:Sd w b (.slice (some ⟨xb,xo,none⟩) n icap) (.slice (some ⟨fb,fo,none⟩) n lcap) m4 (wz.alloc (.cells (brdL (n:Int) (fun _=>0) (fun _=>0) (Mf p f) (m4 1)).toArray 139)):=((hR10)).later (bl1 _ _);have hCm12:Bl w b wz.heap.size (.slice (some ⟨xb,xo,none⟩) n icap) (.slice (some ⟨fb,fo,none⟩) n lcap) m4 (n:Int) (fun _=>0) (fun _=>0) (Mf p f) (m4 1) (wz.alloc (.cells (brdL (n:Int) (fun _=>0) (fun _=>0) (Mf p f) (m4 1)).toArray 139)):=⟨hSm12,hR10.bel.size,(by have:=(jD.1 hR10.sb).1;omega),Dg.row_new wz _ 139⟩;refine tK 13 6 (.pointer (some ⟨wz.heap.size,0,none⟩)) 0 rfl hSm12 ?_;refine wpAnyH_done (by kernel_rfl) ?_ _;exact⟨rfl,wz.heap.size,by kernel_rfl,hCm12⟩
 ·rintro d w9 hF;simp only[setAll,jA,jB,jC];have HF9:Hid _:=hF;clear hF HFA hS0 hCUR HS4;have z0:=HF9.out.sd.c0
  go_wp2_with fail
  go_loopw [60] (fun iv wr=>∃(k:Nat),k≤n∧iv= .int .i64 k∧Hid (∃S A,Bl w b d (.slice (some ⟨xb,xo,none⟩) n icap) (.slice (some ⟨fb,fo,none⟩) n lcap) m4 (n:Int) S A (Mf p f) (m4 1) wr∧Upk p f k S A)) (fun iv _=>n - (intOf iv).toNat)
  case atStart=>exact⟨0,zE _,by go_num,_,_,HF9.out,fun i hi=>by omega,fun i hi=>by omega⟩
  case round=>
   obtain⟨k,hk,rfl,HM⟩:=hrel
   rename World=>wr
   obtain⟨S0,A0,hBL,hUp⟩:=HM.out
   by_cases hlt:k < n
   rotate_left
   ·obtain rfl:k=n:=by omega
    have HBL:Hid _:=hBL;have HUp:Hid _:=hUp;clear hBL hUp HM HF9
    go_wp2_with fail
    go_ret
    refine⟨d,rfl,HBL.out.sd.bel,HBL.out.low,S0,A0,m4 1,?_,?_,fun i hi=>HMO.out.m1 i (by have:=HN.out;omega)⟩
    ·rw[HN.out];exact HBL.out.bd
    ·rw[HN.out];exact HUp.out
   ·obtain⟨s1,s2,zi,za,av,am,ac,k0,k1,k2,k3,k4,k5,k6,k7,hz⟩:=(HB.out.later hBL.sd.bel).it k (by have:=HN.out;omega)
    have hii:(k:Int) < (n:Int):=by omega
    have hk64:(k:Int) < 64:=by omega
    have HBL:Hid _:=hBL;have HUp:Hid _:=hUp;have HZ:Hid _:=hz;have hdx:wr.heap.size≠d:=by have:=(jD.1 hBL.bd).1;omega
    clear hBL hUp HM HF9 hz;have HSUB:Hid (p.sub k=p.sub k):=rfl;obtain⟨su,HSU⟩:∃su,Hid (p.sub k=su):=⟨_,rfl⟩
    obtain⟨vi,HVI⟩:∃vi,Hid (p.vital k=vi):=⟨_,rfl⟩
    obtain⟨t,HT⟩:∃t,Hid (p.alts k=t):=⟨_,rfl⟩
    rw[HSU.out] at k2
    rw[HVI.out] at k3
    rw[HT.out] at k4
    have rx:=Dg.row_new wr #[.string s1,.string s2,.bool su,.bool vi,.int .i64 (t:Int),.int .i64 zi,.int .i64 za,.slice av am ac] 50;have HBX:Hid (Bx w b d wr.heap.size (.slice (some ⟨xb,xo,none⟩) n icap) (.slice (some ⟨fb,fo,none⟩) n lcap) m4 (n:Int) S0 A0 (Mf p f) (m4 1) #[.string s1,.string s2,.bool su,.bool vi,.int .i64 (t:Int),.int .i64 zi,.int .i64 za,.slice av am ac] (wr.alloc (.cells #[.string s1,.string s2,.bool su,.bool vi,.int .i64 (t:Int),.int .i64 zi,.int .i64 za,.slice av am ac] 50))):=⟨HBL.out.later (bl1 _ _),hdx,rx⟩;have x0:=(Dg.cell_row rx 0).trans rfl;have x1:=(Dg.cell_row rx 1).trans rfl;have x2:=(Dg.cell_row rx 2).trans rfl;have x3:=(Dg.cell_row rx 3).trans rfl;have x4:=(Dg.cell_row rx 4).trans rfl;have x5:=(Dg.cell_row rx 5).trans rfl;have x6:=(Dg.cell_row rx 6).trans rfl;have x7:=(Dg.cell_row rx 7).trans rfl;clear rx HBL;cases su with
    | false=>
     go_wp2_with fail
     clear k0 k1 k2 k3 k4 k5 k6 k7 x0 x1 x2 x3 x4 x5 x6 x7 hdx;change Code.wp _ _ _ _ (wr.alloc (.cells #[.string s1,.string s2,.bool false,.bool vi,.int .i64 (t:Int),.int .i64 zi,.int .i64 za,.slice av am ac] 50));generalize wr.alloc (.cells #[.string s1,.string s2,.bool false,.bool vi,.int .i64 (t:Int),.int .i64 zi,.int .i64 za,.slice av am ac] 50)=wa at *;generalize wr.heap.size=x9 at *;have HFC:Hid (∀W,Below w.heap.size w W→W.cell? ⟨fb,fo+k * 4,none⟩=some (.int .i64 (f k).run)∧W.cell? ⟨fb,fo+k * 4+1,none⟩=some (.int .i64 (f k).tries)∧W.cell? ⟨fb,fo+k * 4+2,none⟩=some (.int .i64 (f k).slips)∧W.cell? ⟨fb,fo+k * 4+3,none⟩=some (.bool (f k).un)):=fun W hb=>(HB.out.later hb).fa k (by have:=HN.out;omega)
     have HF:Hid (FaV (f k)= .agg #[.int .i64 (f k).run,.int .i64 (f k).tries,.int .i64 (f k).slips,.bool (f k).un]):=rfl;have HST:Hid (∀wx,(Bx w b d x9 (.slice (some ⟨xb,xo,none⟩) n icap) (.slice (some ⟨fb,fo,none⟩) n lcap) m4 (n:Int) S0 A0 (Mf p f) (m4 1) #[.string s1,.string s2,.bool false,.bool vi,.int .i64 (t:Int),.int .i64 zi,.int .i64 za,.slice av am ac] wx)→Calls Tryz.prog 99 #[FaV (f k)] wx fun e w'=>e= .returned (.int .i64 (stepS (f k)))∧(Bx w b d x9 (.slice (some ⟨xb,xo,none⟩) n icap) (.slice (some ⟨fb,fo,none⟩) n lcap) m4 (n:Int) S0 A0 (Mf p f) (m4 1) #[.string s1,.string s2,.bool false,.bool vi,.int .i64 (t:Int),.int .i64 zi,.int .i64 za,.slice av am ac] w')):=fun wx h=>Calls.mono (stepStatus_any (f k) (HB.out.fok k (by have:=HN.out;omega)) wx) (by rintro e w' ⟨rfl,hb⟩;exact⟨rfl,h.later hb⟩)
     have HUN:Hid (Upk p f (k+1) (putN S0 k (stepS (f k))) (putN A0 k (-1))):=HUp.out.next (by unfold St.S;rw[HSU.out];rfl) (by unfold atP;rw[HSU.out];rfl)
     have hCUR:Bx w b d x9 (.slice (some ⟨xb,xo,none⟩) n icap) (.slice (some ⟨fb,fo,none⟩) n lcap) m4 (n:Int) S0 A0 (Mf p f) (m4 1) #[.string s1,.string s2,.bool false,.bool vi,.int .i64 (t:Int),.int .i64 zi,.int .i64 za,.slice av am ac] wa.drew:=HBX.out.later (Below.refl _ _).drew;have hS0:∃S9 A9,Bx w b d x9 (.slice (some ⟨xb,xo,none⟩) n icap) (.slice (some ⟨fb,fo,none⟩) n lcap) m4 (n:Int) S9 A9 (Mf p f) (m4 1) #[.string s1,.string s2,.bool false,.bool vi,.int .i64 (t:Int),.int .i64 zi,.int .i64 za,.slice av am ac] wa.drew:=⟨_,_,hCUR⟩
     refine region_thenF [(68,.pointer (some ⟨d,0,none⟩)),(69,.int .i64 k),(70,.pointer (some ⟨d,0,none⟩)),(71,.int .i64 k),(72,.slice (some ⟨fb,fo,none⟩) n lcap),(73,.int .i64 k),(74,.pointer (some ⟨fb,fo+k * 4,none⟩)),(75,FaV (f k)),(76,.int .i64 (stepS (f k))),(77,.pointer (some ⟨d,0,none⟩)),(78,.pointer (some ⟨d,65,none⟩)),(79,.pointer (some ⟨d,65+k,none⟩)),(80,.pointer (some ⟨d,0,none⟩)),(81,.pointer (some ⟨d,1,none⟩)),(82,.pointer (some ⟨d,1+k,none⟩))] (fun w'=>Bx w b d x9 (.slice (some ⟨xb,xo,none⟩) n icap) (.slice (some ⟨fb,fo,none⟩) n lcap) m4 (n:Int) (putN S0 k (stepS (f k))) (putN A0 k (-1)) (Mf p f) (m4 1) #[.string s1,.string s2,.bool false,.bool vi,.int .i64 (t:Int),.int .i64 zi,.int .i64 za,.slice av am ac] w') ?_ ?_
     ·refine wp_region_held (S:=fun w'=>∃S9 A9,Bx w b d x9 (.slice (some ⟨xb,xo,none⟩) n icap) (.slice (some ⟨fb,fo,none⟩) n lcap) m4 (n:Int) S9 A9 (Mf p f) (m4 1) #[.string s1,.string s2,.bool false,.bool vi,.int .i64 (t:Int),.int .i64 zi,.int .i64 za,.slice av am ac] w') (by kernel_rfl) ?_;simp only[jN,jM,jP,Nat.reduceAdd,jI,jJ,jO,jL,jK];refine tK 0 68 (.pointer (some ⟨d,0,none⟩)) 16 rfl hS0 ?_;refine tK 1 69 (.int .i64 k) 15 rfl hS0 ?_;refine tK 2 70 (.pointer (some ⟨d,0,none⟩)) 14 rfl hS0 ?_;refine tK 3 71 (.int .i64 k) 13 rfl hS0 ?_;refine tK 4 72 (.slice (some ⟨fb,fo,none⟩) n lcap) 12 rfl hS0 ?_;refine tK 5 73 (.int .i64 k) 11 rfl hS0 ?_;refine tG 6 74 (.pointer (some ⟨fb,fo+k * 4,none⟩)) 10 rfl hS0 ?_;refine tV 7 75 (FaV (f k)) 9 rfl hS0 ?_ (fun wx h=>by rw[HF.out];obtain⟨_,_,h9⟩:=h;obtain⟨y0,y1,y2,y3⟩:=HFC.out wx h9.bl.sd.bel;go_simp);refine tG 9 77 (.pointer (some ⟨d,0,none⟩)) 8 rfl hS0 ?_;refine tG 10 78 (.pointer (some ⟨d,65,none⟩)) 7 rfl hS0 ?_;refine tG 13 80 (.pointer (some ⟨d,0,none⟩)) 6 rfl hS0 ?_;refine tG 14 81 (.pointer (some ⟨d,1,none⟩)) 5 rfl hS0 ?_;refine oneW (R:=fun w'=>Bx w b d x9 (.slice (some ⟨xb,xo,none⟩) n icap) (.slice (some ⟨fb,fo,none⟩) n lcap) m4 (n:Int) S0 A0 (Mf p f) (m4 1) #[.string s1,.string s2,.bool false,.bool vi,.int .i64 (t:Int),.int .i64 zi,.int .i64 za,.slice av am ac] w') (i:=8) (d:=76) (f:=99) (args:= #[FaV (f k)]) (v:= .int .i64 (stepS (f k))) (fuel:=4) rfl rfl (by kernel_rfl) (by kernel_rfl) (fun _=>by kernel_rfl) (HST.out _ hCUR) (fun w' h=>⟨_,_,h⟩) (fun wz hR8=>?_);simp only[jA,jB,jC];refine tG 11 79 (.pointer (some ⟨d,65+k,none⟩)) 3 rfl (⟨_,_,hR8⟩) ?_;refine wpAnyH_all (fuel:=2) (rs:=[12]) (by kernel_rfl) (by decide) (jE.2 ?_);have hP1:=hR8.putA (i:=k) (-1) (by omega);have c9:=brd_cellA hR8.bl.bd (i:=k) (by omega);have f9:=Dg.froz_row hR8.bl.bd (65+k);refine wpOp_skip (i:=12) (w':=wz.setCell ⟨d,65+k,none⟩ (.int .i64 (-1))) rfl rfl (by kernel_rfl) (by go_simp) ⟨⟨_,_,hP1⟩,?_⟩;clear c9 f9;refine tG 15 82 (.pointer (some ⟨d,1+k,none⟩)) 1 rfl ⟨_,_,hP1⟩ ?_;refine wpAnyH_all (fuel:=0) (rs:=[16]) (by kernel_rfl) (by decide) (jE.2 ?_);have hP2:=hP1.putS (i:=k) (stepS (f k)) (by omega);have c9:=brd_cellS hP1.bl.bd (i:=k) (by omega);have f9:=Dg.froz_row hP1.bl.bd (1+k);refine wpOp_skip (i:=16) (w':=(wz.setCell ⟨d,65+k,none⟩ (.int .i64 (-1))).setCell ⟨d,1+k,none⟩ (.int .i64 (stepS (f k)))) rfl rfl (by kernel_rfl) (by go_simp) ⟨⟨_,_,hP2⟩,?_⟩;clear c9 f9;refine wpAnyH_done (by kernel_rfl) ?_ _;exact⟨rfl,by kernel_rfl,hP2⟩
     ·intro w9 hF;simp only[setAll,jA,jB,jC];have HF9:Hid _:=hF;clear hF
      go_wp2_with fail
      go_roundw
      case rel=>exact⟨k+1,by omega,by go_num,_,_,HF9.out.bl,HUN.out⟩
      case measure=>simp[intOf] <;> omega
    | true=>
     go_wp2_with fail
     clear k0 k1 k2 k3 k4 k5 k6 k7 x0 x1 x2 x3 x4 x5 x6 x7 hdx;change Code.wp _ _ _ _ (wr.alloc (.cells #[.string s1,.string s2,.bool true,.bool vi,.int .i64 (t:Int),.int .i64 zi,.int .i64 za,.slice av am ac] 50));generalize wr.alloc (.cells #[.string s1,.string s2,.bool true,.bool vi,.int .i64 (t:Int),.int .i64 zi,.int .i64 za,.slice av am ac] 50)=wa at *;generalize wr.heap.size=x9 at *;have HIV:Hid (ItA s1 s2 true vi (t:Int) zi za (.slice av am ac)= .agg #[.string s1,.string s2,.bool true,.bool vi,.int .i64 (t:Int),.int .i64 zi,.int .i64 za,.slice av am ac]):=rfl;have HBO:Hid (∀wx,(Bx w b d x9 (.slice (some ⟨xb,xo,none⟩) n icap) (.slice (some ⟨fb,fo,none⟩) n lcap) m4 (n:Int) S0 A0 (Mf p f) (m4 1) #[.string s1,.string s2,.bool true,.bool vi,.int .i64 (t:Int),.int .i64 zi,.int .i64 za,.slice av am ac] wx)→Calls Tryz.prog 100 #[.pointer (some ⟨b,0,none⟩),.int .i64 (k:Int)] wx fun e w'=>e= .returned (.int .i64 (atP p f k))∧(Bx w b d x9 (.slice (some ⟨xb,xo,none⟩) n icap) (.slice (some ⟨fb,fo,none⟩) n lcap) m4 (n:Int) S0 A0 (Mf p f) (m4 1) #[.string s1,.string s2,.bool true,.bool vi,.int .i64 (t:Int),.int .i64 zi,.int .i64 za,.slice av am ac] w')):=fun wx h=>Calls.mono (bodyM_any HB.out HN.out h.bl.sd HMO.out hlt HSU.out) (by rintro e w' ⟨rfl,hb⟩;exact⟨rfl,h.later hb⟩)
     have HSS:Hid (∀wx,(Bx w b d x9 (.slice (some ⟨xb,xo,none⟩) n icap) (.slice (some ⟨fb,fo,none⟩) n lcap) m4 (n:Int) S0 A0 (Mf p f) (m4 1) #[.string s1,.string s2,.bool true,.bool vi,.int .i64 (t:Int),.int .i64 zi,.int .i64 za,.slice av am ac] wx)→Calls Tryz.prog 101 #[.pointer (some ⟨b,0,none⟩),.int .i64 (k:Int),.bool (halted p f k)] wx fun e w'=>e= .returned (.int .i64 (St.S p f k))∧(Bx w b d x9 (.slice (some ⟨xb,xo,none⟩) n icap) (.slice (some ⟨fb,fo,none⟩) n lcap) m4 (n:Int) S0 A0 (Mf p f) (m4 1) #[.string s1,.string s2,.bool true,.bool vi,.int .i64 (t:Int),.int .i64 zi,.int .i64 za,.slice av am ac] w')):=fun wx h=>Calls.mono (sagaStatusM_any hle h.bl.sd HMO.out hlt HSU.out) (by rintro e w' ⟨rfl,hb⟩;exact⟨rfl,h.later hb⟩)
     have HAR:Hid (∀wx,(Bx w b d x9 (.slice (some ⟨xb,xo,none⟩) n icap) (.slice (some ⟨fb,fo,none⟩) n lcap) m4 (n:Int) S0 A0 (Mf p f) (m4 1) #[.string s1,.string s2,.bool true,.bool vi,.int .i64 (t:Int),.int .i64 zi,.int .i64 za,.slice av am ac] wx)→Calls Tryz.prog 102 #[.pointer (some ⟨d,129,none⟩),.int .i64 (k:Int),ItA s1 s2 true vi (t:Int) zi za (.slice av am ac)] wx fun e w'=>e= .returned (.bool (halted p f k))∧(Bx w b d x9 (.slice (some ⟨xb,xo,none⟩) n icap) (.slice (some ⟨fb,fo,none⟩) n lcap) m4 (n:Int) S0 A0 (Mf p f) (m4 1) #[.string s1,.string s2,.bool true,.bool vi,.int .i64 (t:Int),.int .i64 zi,.int .i64 za,.slice av am ac] w')):=fun wx h=>by
      have h9:(decide (0 < k) && halted p f k)=halted p f k:=by
       by_cases h0:0 < k
       ·simp[h0]
       ·obtain rfl:k=0:=by omega
        rw[halted_root]
        rfl
      rw[←h9]
      refine Calls.mono (around_any (w:=wx) d 129 k s1 s2 true vi (t:Int) zi za av am ac (halted p f k) (by omega) (fun h1=>?_)) (by rintro e w' ⟨rfl,hb⟩;exact⟨rfl,h.later hb⟩);obtain⟨e1,e2⟩:=HZ.out h1
      obtain⟨e3,e4,e5⟩:=HB.out.ok.inn k h1 (by have:=HN.out;omega)
      have e6:=HB.out.alts (p.inn k) (by have:=HN.out;omega);refine⟨p.inn k,p.alt k,e1,e2,by omega,by omega,?_⟩
      have h8:=brd_cellM h.bl.bd (s:=p.inn k) (a:=p.alt k) (by omega) (by omega);rw[halt_at HB.out.ok h1 (by have:=HN.out;omega)] at h8
      exact h8
     have HUN:Hid (Upk p f (k+1) (putN S0 k (St.S p f k)) (putN A0 k (atP p f k))):=HUp.out.next rfl rfl
     have hCUR:Bx w b d x9 (.slice (some ⟨xb,xo,none⟩) n icap) (.slice (some ⟨fb,fo,none⟩) n lcap) m4 (n:Int) S0 A0 (Mf p f) (m4 1) #[.string s1,.string s2,.bool true,.bool vi,.int .i64 (t:Int),.int .i64 zi,.int .i64 za,.slice av am ac] wa.drew:=HBX.out.later (Below.refl _ _).drew;have hS0:∃S9 A9,Bx w b d x9 (.slice (some ⟨xb,xo,none⟩) n icap) (.slice (some ⟨fb,fo,none⟩) n lcap) m4 (n:Int) S9 A9 (Mf p f) (m4 1) #[.string s1,.string s2,.bool true,.bool vi,.int .i64 (t:Int),.int .i64 zi,.int .i64 za,.slice av am ac] wa.drew:=⟨_,_,hCUR⟩
     generalize atP p f k=ak at *;generalize halted p f k=hk9 at *;generalize St.S p f k=sk at *;refine region_thenQ [(83,.pointer (some ⟨d,0,none⟩)),(84,.int .i64 k),(85,.pointer (some ⟨d,0,none⟩)),(86,.int .i64 k),(87,.pointer (some ⟨b,0,none⟩)),(88,.int .i64 k),(89,.int .i64 ak),(90,.pointer (some ⟨b,0,none⟩)),(91,.int .i64 k),(92,.pointer (some ⟨d,0,none⟩)),(93,.pointer (some ⟨d,0,none⟩)),(94,.pointer (some ⟨d,129,none⟩)),(95,.int .i64 k),(96,ItA s1 s2 true vi (t:Int) zi za (.slice av am ac)),(97,.bool hk9),(98,.int .i64 sk),(99,.pointer (some ⟨d,0,none⟩)),(100,.pointer (some ⟨d,65,none⟩)),(101,.pointer (some ⟨d,65+k,none⟩)),(102,.pointer (some ⟨d,0,none⟩)),(103,.pointer (some ⟨d,1,none⟩)),(104,.pointer (some ⟨d,1+k,none⟩))] (fun w'=>Bx w b d x9 (.slice (some ⟨xb,xo,none⟩) n icap) (.slice (some ⟨fb,fo,none⟩) n lcap) m4 (n:Int) (putN S0 k (sk)) (putN A0 k (ak)) (Mf p f) (m4 1) #[.string s1,.string s2,.bool true,.bool vi,.int .i64 (t:Int),.int .i64 zi,.int .i64 za,.slice av am ac] w') ?_ ?_
     ·refine wp_region_held (S:=fun w'=>∃S9 A9,Bx w b d x9 (.slice (some ⟨xb,xo,none⟩) n icap) (.slice (some ⟨fb,fo,none⟩) n lcap) m4 (n:Int) S9 A9 (Mf p f) (m4 1) #[.string s1,.string s2,.bool true,.bool vi,.int .i64 (t:Int),.int .i64 zi,.int .i64 za,.slice av am ac] w') (by kernel_rfl) ?_;simp only[jN,jM,jP,Nat.reduceAdd,jI,jJ,jO,jL,jK];refine tK 0 83 (.pointer (some ⟨d,0,none⟩)) 23 rfl hS0 ?_;refine tK 1 84 (.int .i64 k) 22 rfl hS0 ?_;refine tK 2 85 (.pointer (some ⟨d,0,none⟩)) 21 rfl hS0 ?_;refine tK 3 86 (.int .i64 k) 20 rfl hS0 ?_;refine tK 4 87 (.pointer (some ⟨b,0,none⟩)) 19 rfl hS0 ?_;refine tK 5 88 (.int .i64 k) 18 rfl hS0 ?_;refine tK 7 90 (.pointer (some ⟨b,0,none⟩)) 17 rfl hS0 ?_;refine tK 8 91 (.int .i64 k) 16 rfl hS0 ?_;refine tK 9 92 (.pointer (some ⟨d,0,none⟩)) 15 rfl hS0 ?_;refine tG 10 93 (.pointer (some ⟨d,0,none⟩)) 14 rfl hS0 ?_;refine tG 11 94 (.pointer (some ⟨d,129,none⟩)) 13 rfl hS0 ?_;refine tK 12 95 (.int .i64 k) 12 rfl hS0 ?_;refine tV 13 96 (ItA s1 s2 true vi (t:Int) zi za (.slice av am ac)) 11 rfl hS0 ?_ (fun wx h=>by rw[HIV.out];obtain⟨_,_,h9⟩:=h;have x0:=(Dg.cell_row h9.row 0).trans rfl;have x1:=(Dg.cell_row h9.row 1).trans rfl;have x2:=(Dg.cell_row h9.row 2).trans rfl;have x3:=(Dg.cell_row h9.row 3).trans rfl;have x4:=(Dg.cell_row h9.row 4).trans rfl;have x5:=(Dg.cell_row h9.row 5).trans rfl;have x6:=(Dg.cell_row h9.row 6).trans rfl;have x7:=(Dg.cell_row h9.row 7).trans rfl;go_simp);refine tG 16 99 (.pointer (some ⟨d,0,none⟩)) 10 rfl hS0 ?_;refine tG 17 100 (.pointer (some ⟨d,65,none⟩)) 9 rfl hS0 ?_;refine tG 20 102 (.pointer (some ⟨d,0,none⟩)) 8 rfl hS0 ?_;refine tG 21 103 (.pointer (some ⟨d,1,none⟩)) 7 rfl hS0 ?_;refine oneW (R:=fun w'=>Bx w b d x9 (.slice (some ⟨xb,xo,none⟩) n icap) (.slice (some ⟨fb,fo,none⟩) n lcap) m4 (n:Int) S0 A0 (Mf p f) (m4 1) #[.string s1,.string s2,.bool true,.bool vi,.int .i64 (t:Int),.int .i64 zi,.int .i64 za,.slice av am ac] w') (i:=6) (d:=89) (f:=100) (args:= #[.pointer (some ⟨b,0,none⟩),.int .i64 k]) (v:= .int .i64 ak) (fuel:=6) rfl rfl (by kernel_rfl) (by kernel_rfl) (fun _=>by kernel_rfl) (HBO.out _ hCUR) (fun w' h=>⟨_,_,h⟩) (fun wz hR6=>?_);simp only[jA,jB,jC];refine oneW (R:=fun w'=>Bx w b d x9 (.slice (some ⟨xb,xo,none⟩) n icap) (.slice (some ⟨fb,fo,none⟩) n lcap) m4 (n:Int) S0 A0 (Mf p f) (m4 1) #[.string s1,.string s2,.bool true,.bool vi,.int .i64 (t:Int),.int .i64 zi,.int .i64 za,.slice av am ac] w') (i:=14) (d:=97) (f:=102) (args:= #[.pointer (some ⟨d,129,none⟩),.int .i64 k,ItA s1 s2 true vi (t:Int) zi za (.slice av am ac)]) (v:= .bool hk9) (fuel:=5) rfl rfl (by kernel_rfl) (by kernel_rfl) (fun _=>by kernel_rfl) (HAR.out _ hR6) (fun w' h=>⟨_,_,h⟩) (fun wz hR14=>?_);simp only[jA,jB,jC];refine oneW (R:=fun w'=>Bx w b d x9 (.slice (some ⟨xb,xo,none⟩) n icap) (.slice (some ⟨fb,fo,none⟩) n lcap) m4 (n:Int) S0 A0 (Mf p f) (m4 1) #[.string s1,.string s2,.bool true,.bool vi,.int .i64 (t:Int),.int .i64 zi,.int .i64 za,.slice av am ac] w') (i:=15) (d:=98) (f:=101) (args:= #[.pointer (some ⟨b,0,none⟩),.int .i64 k,.bool hk9]) (v:= .int .i64 sk) (fuel:=4) rfl rfl (by kernel_rfl) (by kernel_rfl) (fun _=>by kernel_rfl) (HSS.out _ hR14) (fun w' h=>⟨_,_,h⟩) (fun wz hR15=>?_)
      simp only[jA,jB,jC];refine tG 18 101 (.pointer (some ⟨d,65+k,none⟩)) 3 rfl (⟨_,_,hR15⟩) ?_;refine wpAnyH_all (fuel:=2) (rs:=[19]) (by kernel_rfl) (by decide) (jE.2 ?_);have hP1:=hR15.putA (i:=k) (ak) (by omega);have c9:=brd_cellA hR15.bl.bd (i:=k) (by omega);have f9:=Dg.froz_row hR15.bl.bd (65+k);refine wpOp_skip (i:=19) (w':=wz.setCell ⟨d,65+k,none⟩ (.int .i64 (ak))) rfl rfl (by kernel_rfl) (by go_simp) ⟨⟨_,_,hP1⟩,?_⟩;clear c9 f9;refine tG 22 104 (.pointer (some ⟨d,1+k,none⟩)) 1 rfl ⟨_,_,hP1⟩ ?_;refine wpAnyH_all (fuel:=0) (rs:=[23]) (by kernel_rfl) (by decide) (jE.2 ?_);have hP2:=hP1.putS (i:=k) (sk) (by omega);have c9:=brd_cellS hP1.bl.bd (i:=k) (by omega);have f9:=Dg.froz_row hP1.bl.bd (1+k);refine wpOp_skip (i:=23) (w':=(wz.setCell ⟨d,65+k,none⟩ (.int .i64 (ak))).setCell ⟨d,1+k,none⟩ (.int .i64 (sk))) rfl rfl (by kernel_rfl) (by go_simp) ⟨⟨_,_,hP2⟩,?_⟩;clear c9 f9;refine wpAnyH_done (by kernel_rfl) ?_ _;exact⟨rfl,by kernel_rfl,hP2⟩
     ·intro w9 hF;simp only[setAll,jA,jB,jC,Exit.inBlock,Exit.then];have HF9:Hid _:=hF;clear hF
      go_wp2_with fail
      go_roundw
      case rel=>exact⟨k+1,by omega,by go_num,_,_,HF9.out.bl,HUN.out⟩
      case measure=>simp[intOf] <;> omega
end Go.Proofs.YtieoppabellafaaGreatDoor.Sa
