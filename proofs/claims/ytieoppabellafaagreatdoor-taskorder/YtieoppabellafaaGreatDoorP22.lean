/- Texts of the seat, packed: Kr Ks Kt Kw Ku Kx. -/
import Derived.Test.YtieoppabellafaaGreatDoorP21
import Derived.Test.YtieoppabellafaaGreatDoorP20
set_option maxRecDepth 1000000
set_option maxHeartbeats 64000000
set_option linter.unusedVariables false
namespace Go.Proofs.YtieoppabellafaaGreatDoor.St
open Sx
theorem kd_nodes:∀(l:List (Lab × Tr)),(∀x∈l,Kd true x.2)→Kd false (nodesL l)
 | [],_=>trivial
 | x :: l,h=>⟨rfl,h x (by simp),kd_nodes l fun y hy=>h y (by simp[hy])⟩
theorem kd_bodies:∀(l:List Tr),(∀x∈l,Kd false x)→Kd true (bodiesL l)
 | [],_=>trivial
 | x :: l,h=>⟨rfl,h x (by simp),kd_bodies l fun y hy=>h y (by simp[hy])⟩
theorem kd_kids {its:List It}{rec:Nat→Tr}(hr:∀k,Kd true (rec k))(i alt:Nat):∀k,∀x∈kidsT its rec i alt k,Kd true x.2
 | 0,x,hx=>by cases hx
 | k+1,x,hx=>by
  unfold kidsT at hx
  rcases List.mem_append.1 hx with hx | hx
  ·exact kd_kids hr i alt k x hx
  ·split at hx
   ·split at hx
    ·simp at hx;subst hx;exact hr k
    ·cases hx
   ·cases hx
theorem kd_bodT (its:List It):∀(f i:Nat),Kd true (bodT its f i)
 | 0,_=>trivial
 | f+1,i=>by
  unfold bodT;refine kd_bodies _ fun x hx=>?_
  obtain⟨a,_,rfl⟩:=List.mem_map.1 hx
  exact kd_nodes _ (kd_kids (kd_bodT its f) i a _)
theorem xs_ok (t:Tr):∀(k:Bool) (inn alt last d:Nat),Kd k t→Sx.okL (fltn d t)=true→∀y∈xsT t inn alt last,nodeOk y.lab y.am=true:=by
 induction t with
 | e=>intro k inn alt last d _ _ y hy;cases hy
 | b x r ih1 ih2=>
  intro k inn alt last d hk ho y hy;obtain⟨_,k1,k2⟩:=hk
  unfold Sx.okL fltn at ho;rw[List.all_append,Bool.and_eq_true] at ho
  rcases List.mem_append.1 hy with hy | hy
  ·exact ih1 _ _ _ _ d k1 ho.1 y hy
  ·exact ih2 _ _ _ _ d k2 ho.2 y hy
 | n l s r ih1 ih2=>
  intro k inn alt last d hk ho y hy;obtain⟨_,k1,k2⟩:=hk
  unfold Sx.okL fltn at ho;rw[List.all_cons,List.all_append,Bool.and_eq_true,Bool.and_eq_true] at ho
  obtain⟨o1,o2,o3⟩:=ho
  rcases List.mem_cons.1 hy with rfl | hy
  ·exact o1
  ·rcases List.mem_append.1 hy with hy | hy
   ·cases hsub:l.sub with
    | true=>
     rw[hsub] at o2
     exact ih1 _ _ _ _ (d+1) k1 o2 y hy
    | false=>
     have hs:s= .e:=by
      unfold nodeOk at o1;simp only[hsub] at o1;cases s with
      | e=>rfl
      | b x r=>simp[Tr.len] at o1
      | n l t r=>simp[Tr.len] at o1
     subst hs;cases hy
   ·exact ih2 _ _ _ _ d k2 o3 y hy
def It.z:It:=⟨[],[],false,false,0,0,0,[]⟩
def plOf (its:List It):Pl where
 n:=its.length
 sub:=fun i=>(its.getD i It.z).sub
 vital:=fun i=>(its.getD i It.z).vital
 alts:=fun i=>(its.getD i It.z).alts.toNat
 inn:=fun i=>(its.getD i It.z).inn.toNat
 alt:=fun i=>(its.getD i It.z).alt.toNat
theorem getD_it {its:List It}{i:Nat}{x:It}(h:its[i]? =some x):its.getD i It.z=x:=by
 rw[List.getD_eq_getElem?_getD,h]
 rfl
theorem plan_items {its:List It}{q:By × Tr}(h:sagaP its=some q) :
  (∃x,its[0]? =some x∧x.sub=true∧x.inn= -1∧x.alt=0∧1≤x.alts∧x.alts≤4)∧
  ∀(i:Nat) (x:It),its[i]? =some x→1≤i→(∃(j a:Nat) (y:It),x.inn=(j:Int)∧x.alt=(a:Int)∧j < i∧its[j]? =some y∧(a:Int) < y.alts∧y.sub=true)∧(if x.sub then 1≤x.alts∧x.alts≤4 else x.alts=0∧x.vital=false):=by
 unfold sagaP at h
 split at h
 rotate_left
 ·cases h
 rename_i hc
 obtain⟨_,hp⟩:=hc
 have hk:Kd true (bodS its):=kd_bodT its _ 0;obtain⟨p1,p2,p3,p4⟩:=planT_parts hp
 have hfs:=p1;unfold fitS at hfs;simp only[Bool.and_eq_true,decide_eq_true_eq] at hfs;obtain⟨f1,_,_,f4,f5⟩:=hfs
 have hr:rightS (nameI its 0) (bodS its)=true:=by
  apply Classical.byContradiction
  intro h9;unfold codeS at f1;rw[if_neg h9] at f1
  cases f1
 unfold rightS at hr;simp only[Bool.and_eq_true,decide_eq_true_eq] at hr;obtain⟨⟨⟨_,hpos⟩,_⟩,hok⟩:=hr
 have h4:(bodS its).len≤4:=by
  unfold fits at f4;simp only[Bool.and_eq_true,decide_eq_true_eq] at f4;exact f4.1
 have htell:=plan_tells hp;have hroot:its[0]? =some (rootI (nameI its 0) (bodS its).len):=by
  have h9:=its2_root (nameI its 0) (bodS its).len (xsT (bodS its) 0 0 0);rw[←p4] at h9
  exact h9
 have step:∀(i:Nat) (x:It),its[i]? =some x→1≤i→(if x.sub then 1≤x.alts∧x.alts≤4 else x.alts=0∧x.vital=false):=by
  intro i x hx hi;obtain⟨k,rfl⟩:∃k,i=k+1:=⟨i - 1,by omega⟩
  have hkl:k < (xsT (bodS its) 0 0 0).length:=by
   have:=(List.getElem?_eq_some_iff.1 hx).1;rw[htell.len] at this
   omega
  obtain⟨y,hy⟩:∃y,(xsT (bodS its) 0 0 0)[k]? =some y:=⟨_,List.getElem?_eq_getElem hkl⟩
  obtain⟨_,_,z,hz,_,_,ha,hlab⟩:=htell.at_ k y hy
  rw[hx] at hz
  cases hz;have hm:=List.mem_of_getElem? hy;have hn:=xs_ok (bodS its) true 0 0 0 1 hk hok y hm;obtain⟨hf,he⟩:=fits_all (bodS its) 0 0 0 f5 y hm
  have hl4:y.am≤4:=by
   unfold fits at hf;simp only[Bool.and_eq_true,decide_eq_true_eq] at hf;rw[he]
   exact hf.1
  have hs:x.sub=y.lab.sub:=by rw[←hlab];rfl
  have hv:x.vital=y.lab.vital:=by rw[←hlab];rfl
  unfold nodeOk at hn;rw[Bool.and_eq_true] at hn
  rw[hs,hv,ha]
  have hn2:=hn.2;cases hsub:y.lab.sub with
  | true=>
   rw[hsub] at hn2
   simp at hn2;rw[if_pos rfl]
   omega
  | false=>
   rw[hsub] at hn2
   simp at hn2;rw[if_neg (by decide)]
   exact⟨by omega,hn2.1.2⟩
 refine⟨⟨_,hroot,rfl,rfl,rfl,by show (1:Int)≤((bodS its).len:Int);omega,by show (((bodS its).len:Nat):Int)≤4;omega⟩,fun i x hx hi=>⟨?_,step i x hx hi⟩⟩
 obtain⟨j,a,y,e1,e2,e3,e4,e5⟩:=item_in hp hk hx (by omega)
 refine⟨j,a,y,e1,e2,e3,e4,e5,?_⟩
 by_cases hj:j=0
 ·subst hj;rw[hroot] at e4
  cases e4;rfl
 ·have h9:=step j y e4 (by omega);cases hs:y.sub with
  | true=>rfl
  | false=>
   rw[hs,if_neg (by decide)] at h9
   omega
theorem plan_ok {its:List It}{q:By × Tr}(h:sagaP its=some q):(plOf its).Ok:=by
 obtain⟨⟨r,r0,r1,r2,r3,r4,r5⟩,hi⟩:=plan_items h
 have hlen:1≤its.length:=by have:=(List.getElem?_eq_some_iff.1 r0).1;omega
 refine⟨hlen,by show (its.getD 0 It.z).sub=true;rw[getD_it r0];exact r1,fun i h1 h2=>?_,fun i h2 hs=>?_⟩
 ·obtain⟨x,hx⟩:∃x,its[i]? =some x:=⟨_,List.getElem?_eq_getElem h2⟩
  obtain⟨⟨j,a,y,e1,e2,e3,e4,e5,e6⟩,_⟩:=hi i x hx h1
  have ej:(plOf its).inn i=j:=by show (its.getD i It.z).inn.toNat=j;rw[getD_it hx,e1];rfl
  have ea:(plOf its).alt i=a:=by show (its.getD i It.z).alt.toNat=a;rw[getD_it hx,e2];rfl
  rw[ej,ea]
  refine⟨e3,by show (its.getD j It.z).sub=true;rw[getD_it e4];exact e6,by show a < (its.getD j It.z).alts.toNat;rw[getD_it e4];omega⟩
 ·obtain⟨x,hx⟩:∃x,its[i]? =some x:=⟨_,List.getElem?_eq_getElem h2⟩
  have hs':x.sub=true:=by have:(its.getD i It.z).sub=true:=hs;rw[getD_it hx] at this;exact this
  show 1≤(its.getD i It.z).alts.toNat;rw[getD_it hx]
  by_cases h0:i=0
  ·subst h0;rw[r0] at hx
   cases hx;omega
  ·have:=(hi i x hx (by omega)).2;rw[hs',if_pos rfl] at this
   omega
end Go.Proofs.YtieoppabellafaaGreatDoor.St
namespace Go.Proofs.YtieoppabellafaaGreatDoor.St
open Fc
def Kid (p:Pl)(s a i:Nat):Prop:=s < i∧i < p.n∧p.inn i=s∧p.alt i=a
theorem kid_iff {p:Pl}{s a i:Nat} :kid p s a i=true↔Kid p s a i:=by unfold kid Kid;rw[decide_eq_true_eq]
theorem kid_no {p:Pl}{s a i:Nat}(h:¬Kid p s a i):kid p s a i=false:=by
 cases hk:kid p s a i with
 | false=>rfl
 | true=>exact absurd (kid_iff.1 hk) h
section
variable (p:Pl)(f:Nat→Fa)
def Cl (i:Nat):Prop:=(W p f i).clean=true
def Sp (i:Nat):Prop:=(W p f i).spent=true
def Dn (i:Nat):Prop:=(W p f i).done=true
def To (i:Nat):Prop:=(W p f i).touched=true
def At (i:Nat):Nat:=(W p f i).at_
def Ps (i:Nat):Prop:=Dn p f i∨(p.sub i=true∧p.vital i=false∧Sp p f i)
def Fl (s a:Nat):Prop:=F p f s a=true
def Ha (i:Nat):Prop:=halted p f i=true
def FF (s a:Nat):Prop:=Fl p f s a∨Ha p f s
end
variable {p:Pl}{f:Nat→Fa}
theorem fl_iff {s a:Nat} :Fl p f s a↔∃i,Kid p s a i∧((f i).run=3∨(p.sub i=true∧p.vital i=true∧Sp p f i)):=by
 unfold Fl F falls;rw[List.any_eq_true]
 constructor
 ·rintro⟨i,hi,h⟩
  rw[Bool.and_eq_true,Bool.or_eq_true,Bool.and_eq_true,Bool.and_eq_true,decide_eq_true_eq,kid_iff] at h
  exact⟨i,h.1,by rcases h.2 with h | ⟨⟨h1,h2⟩,h3⟩;exact .inl h;exact .inr ⟨h1,h2,h3⟩⟩
 ·rintro⟨i,hk,h⟩
  refine⟨i,List.mem_range.2 hk.2.1,?_⟩
  rw[Bool.and_eq_true,Bool.or_eq_true,Bool.and_eq_true,Bool.and_eq_true,decide_eq_true_eq,kid_iff]
  exact⟨hk,by rcases h with h | ⟨h1,h2,h3⟩;exact .inl h;exact .inr ⟨⟨h1,h2⟩,h3⟩⟩
theorem clears_iff {K:Nat→IW}{s a:Nat} :clears p K s a=true↔∀i,Kid p s a i→(K i).clean=true:=by
 unfold clears;rw[List.all_eq_true]
 constructor
 ·intro h i hk;have:=h i (List.mem_range.2 hk.2.1);rw[kid_iff.2 hk] at this
  simpa using this
 ·intro h i hi
  by_cases hk:Kid p s a i
  ·rw[h i hk];simp
  ·rw[kid_no hk];rfl
theorem whole_iff {K:Nat→IW}{s a:Nat} :whole p K s a=true↔∀i,Kid p s a i→((K i).done=true∨(p.sub i=true∧p.vital i=false∧(K i).spent=true)):=by
 unfold whole;rw[List.all_eq_true]
 constructor
 ·intro h i hk;have:=h i (List.mem_range.2 hk.2.1);rw[kid_iff.2 hk] at this
  simp only[Bool.not_true,Bool.false_or,Bool.or_eq_true,Bool.and_eq_true,Bool.not_eq_true'] at this
  rcases this with h | ⟨⟨h1,h2⟩,h3⟩
  ·exact .inl h
  ·exact .inr ⟨h1,h2,h3⟩
 ·intro h i hi
  by_cases hk:Kid p s a i
  ·rcases h i hk with h | ⟨h1,h2,h3⟩
   ·rw[h];simp
   ·rw[h1,h2,h3];simp
  ·rw[kid_no hk];rfl
def Cs (p:Pl)(f:Nat→Fa)(s a:Nat):Prop:=∀i,Kid p s a i→Cl p f i
theorem cl_saga (hp:p.Ok){s:Nat}(hs:s < p.n)(hsub:p.sub s=true):Cl p f s↔∀a,a < p.alts s→Cs p f s a:=by
 unfold Cl;rw[W_eq hs,if_pos hsub]
 show (List.all _ _=true)↔_;rw[List.all_eq_true]
 constructor
 ·intro h a ha;exact clears_iff.1 (h a (List.mem_range.2 ha))
 ·intro h a ha;exact clears_iff.2 (h a (List.mem_range.1 ha))
theorem sp_saga {s:Nat}(hs:s < p.n)(hsub:p.sub s=true):Sp p f s↔∀a,a < p.alts s→Fl p f s a∧Cs p f s a:=by
 unfold Sp;rw[W_eq hs,if_pos hsub]
 show (List.all _ _=true)↔_;rw[List.all_eq_true]
 constructor
 ·intro h a ha;have:=h a (List.mem_range.2 ha);rw[Bool.and_eq_true] at this
  exact⟨this.1,clears_iff.1 this.2⟩
 ·intro h a ha;obtain⟨h1,h2⟩:=h a (List.mem_range.1 ha)
  rw[Bool.and_eq_true]
  exact⟨h1,clears_iff.2 h2⟩
theorem sp_step {s:Nat}(hs:s < p.n)(hsub:p.sub s=false):¬Sp p f s:=by
 unfold Sp;rw[W_eq hs,if_neg (by rw[hsub];decide)]
 simp[stepW]
theorem dn_saga {s:Nat}(hs:s < p.n)(hsub:p.sub s=true):Dn p f s↔¬Sp p f s∧∀i,Kid p s (At p f s) i→Ps p f i:=by
 unfold Dn Sp At
 conv=>lhs;rw[W_eq hs,if_pos hsub]
 conv=>rhs;rw[show W p f s=sagaW p f (W p f) s by rw[W_eq hs,if_pos hsub]]
 unfold sagaW;simp only[Bool.and_eq_true,Bool.not_eq_true',Bool.not_eq_true];rw[whole_iff]
 rfl
theorem to_saga {s:Nat}(hs:s < p.n)(hsub:p.sub s=true):To p f s↔∃i,s < i∧i < p.n∧p.inn i=s∧To p f i:=by
 unfold To;rw[W_eq hs,if_pos hsub]
 show (List.any _ _=true)↔_;rw[List.any_eq_true]
 constructor
 ·rintro⟨i,hi,h⟩
  rw[Bool.and_eq_true,decide_eq_true_eq] at h
  exact⟨i,h.1.1,List.mem_range.1 hi,h.1.2,h.2⟩
 ·rintro⟨i,h1,h2,h3,h4⟩
  exact⟨i,List.mem_range.2 h2,by rw[Bool.and_eq_true,decide_eq_true_eq];exact⟨⟨h1,h3⟩,h4⟩⟩
theorem cl_step {i:Nat}(hi:i < p.n)(hs:p.sub i=false):Cl p f i↔(f i).run=0∨(f i).run=3∨(f i).un=true:=by
 unfold Cl;rw[W_eq hi,if_neg (by rw[hs];decide)]
 simp[stepW,or_assoc]
theorem dn_step {i:Nat}(hi:i < p.n)(hs:p.sub i=false):Dn p f i↔(f i).run=2∧(f i).tries=0:=by
 unfold Dn;rw[W_eq hi,if_neg (by rw[hs];decide)]
 simp[stepW]
theorem to_step {i:Nat}(hi:i < p.n)(hs:p.sub i=false):To p f i↔0 < (f i).run:=by
 unfold To;rw[W_eq hi,if_neg (by rw[hs];decide)]
 simp[stepW]
theorem first_spec {q:Nat→Bool}{n:Nat} :∀(d a:Nat),a < n→n≤a+d→a≤first q n d a∧first q n d a < n∧(∀b,a≤b→b < first q n d a→q b=true)∧(first q n d a+1 < n→q (first q n d a)=false)
 | 0,a,h1,h2=>by omega
 | d+1,a,h1,h2=>by
  unfold first
  by_cases h3:a+1 < n∧q a=true
  ·rw[if_pos h3]
   obtain⟨p1,p2,p3,p4⟩:=first_spec d (a+1) h3.1 (by omega)
   refine⟨by omega,p2,fun b hb1 hb2=>?_,p4⟩
   by_cases hb:b=a
   ·subst hb;exact h3.2
   ·exact p3 b (by omega) hb2
  ·rw[if_neg h3]
   refine⟨Nat.le_refl _,h1,fun b _ _=>by omega,fun h4=>?_⟩
   cases hq:q a with
   | false=>rfl
   | true=>exact absurd ⟨h4,hq⟩ h3
theorem at_spec (hp:p.Ok){s:Nat}(hs:s < p.n)(hsub:p.sub s=true):At p f s < p.alts s∧(∀b,b < At p f s→Fl p f s b∧Cs p f s b)∧(At p f s+1 < p.alts s→¬(Fl p f s (At p f s)∧Cs p f s (At p f s))):=by
 have ha:=hp.alts s hs hsub;have he:At p f s=first (fun a=>falls p f (W p f) s a && clears p (W p f) s a) (p.alts s) (p.alts s) 0:=by
  unfold At;rw[W_eq hs,if_pos hsub]
  rfl
 obtain⟨p1,p2,p3,p4⟩:=first_spec (q:=fun a=>falls p f (W p f) s a && clears p (W p f) s a) (n:=p.alts s) (p.alts s) 0 (by omega) (by omega)
 rw[←he] at p2 p3 p4
 refine⟨p2,fun b hb=>?_,fun h1 h2=>?_⟩
 ·have:=p3 b (Nat.zero_le _) hb;rw[Bool.and_eq_true] at this
  exact⟨this.1,clears_iff.1 this.2⟩
 ·have:=p4 h1;have h3:(falls p f (W p f) s (At p f s) && clears p (W p f) s (At p f s))=true:=by
   rw[Bool.and_eq_true]
   exact⟨h2.1,clears_iff.2 h2.2⟩
  rw[this] at h3
  cases h3
theorem at_spent (hp:p.Ok){s:Nat}(hs:s < p.n)(hsub:p.sub s=true)(h1:Fl p f s (At p f s))(h2:Cs p f s (At p f s)):Sp p f s:=by
 obtain⟨a1,a2,a3⟩:=at_spec hp hs hsub (f:=f)
 rw[sp_saga hs hsub]
 intro a ha
 by_cases h:a < At p f s
 ·exact a2 a h
 ·have:a=At p f s:=by
   apply Classical.byContradiction
   intro h9;exact a3 (by omega) ⟨h1,h2⟩
  subst this;exact⟨h1,h2⟩
theorem ha_eq (hp:p.Ok){i:Nat}(h1:1≤i)(hi:i < p.n):Ha p f i↔FF p f (p.inn i) (p.alt i):=by
 unfold Ha FF Fl Ha;rw[halted_eq hp f h1 hi,Bool.or_eq_true]
theorem ha_root:¬Ha p f 0:=by unfold Ha;rw[halted_root];decide
inductive An (p:Pl) (i:Nat):Nat→Prop
 | one:An p i (p.inn i)
 | up {s:Nat} :An p i s→1≤s→An p i (p.inn s)
theorem An.lt (hp:p.Ok){i s:Nat}(h1:1≤i)(hi:i < p.n)(h:An p i s):s < i∧p.sub s=true:=by
 induction h with
 | one=>exact⟨(hp.inn i h1 hi).1,(hp.inn i h1 hi).2.1⟩
 | up h hs ih=>have:=hp.inn _ hs (by omega);exact⟨by omega,this.2.1⟩
theorem an_clean (hp:p.Ok){i s:Nat}(h1:1≤i)(hi:i < p.n)(h:An p i s)(hc:Cl p f s):Cl p f i:=by
 induction h with
 | one=>
  obtain⟨a1,a2,a3⟩:=hp.inn i h1 hi
  exact (cl_saga hp (by omega) a2).1 hc _ a3 i ⟨a1,hi,rfl,rfl⟩
 | @up s h hs ih=>
  have hl:=h.lt hp h1 hi;obtain⟨a1,a2,a3⟩:=hp.inn s hs (by omega)
  exact ih ((cl_saga hp (by omega) a2).1 hc _ a3 s ⟨a1,by omega,rfl,rfl⟩)
theorem an_touched (hp:p.Ok){i s:Nat}(h1:1≤i)(hi:i < p.n)(h:An p i s)(ht:To p f i):To p f s:=by
 induction h with
 | one=>
  obtain⟨a1,a2,a3⟩:=hp.inn i h1 hi
  exact (to_saga (by omega) a2).2 ⟨i,a1,hi,rfl,ht⟩
 | @up s h hs ih=>
  have hl:=h.lt hp h1 hi;obtain⟨a1,a2,a3⟩:=hp.inn s hs (by omega)
  exact (to_saga (by omega) a2).2 ⟨s,a1,by omega,rfl,ih⟩
end Go.Proofs.YtieoppabellafaaGreatDoor.St
namespace Go.Proofs.YtieoppabellafaaGreatDoor.St
open Fc
structure Lg (p:Pl)(af:Nat→List Nat):Prop where
 ok:p.Ok
 body:∀s,s < p.n→p.sub s=true→∀a,a < p.alts s→∃i,Kid p s a i
 ons:∀i,1≤i→i < p.n→∀a∈af i,1≤a∧a < p.n∧p.inn a=p.inn i∧p.alt a=p.alt i
 rank:∃r:Nat→Nat,∀i,1≤i→i < p.n→∀a∈af i,r a < r i
inductive Ov (af:Nat→List Nat) (i:Nat):Nat→Prop
 | one {k:Nat} :i∈af k→Ov af i k
 | more {k a:Nat} :a∈af k→Ov af i a→Ov af i k
section
variable (p:Pl)(af:Nat→List Nat)(f:Nat→Fa)
structure Rt:Prop where
 ok:∀i,i < p.n→okF (f i)
 sub:∀i,i < p.n→p.sub i=true→f i=Fa.z
inductive Rn:Nat→Prop
 | root:¬Dn p f 0→¬Sp p f 0→Rn 0
 | sub {s:Nat} :1≤s→s < p.n→p.sub s=true→¬Dn p f s→¬Sp p f s→Rn (p.inn s)→At p f (p.inn s)=p.alt s→¬FF p f (p.inn s) (p.alt s)→(∀a∈af s,Ps p f a)→Rn s
def Rc (i:Nat):Prop:=Rn p af f (p.inn i)∧At p f (p.inn i)=p.alt i∧¬FF p f (p.inn i) (p.alt i)∧∀a∈af i,Ps p f a
def Oc (i:Nat):Prop:=∀k,1≤k→k < p.n→Ov af i k→Cl p f k
def MB (i:Nat):Prop:=(1≤i∧i < p.n∧p.sub i=false)∧(f i).run=0∧Rc p af f i
def MU (i:Nat):Prop:=(1≤i∧i < p.n∧p.sub i=false)∧((f i).run=2∧(f i).un=false∧(f i).tries=(f i).slips)∧FF p f (p.inn i) (p.alt i)∧Oc p af f i∧∀s,An p i s→1≤s→Oc p af f s
def Op (i:Nat):Prop:=(1≤i∧i < p.n∧p.sub i=false)∧((f i).run=1∨((f i).tries=(f i).slips+1∧(f i).un=false))
inductive Tn (i:Nat):Fa→Prop
 | start:MB p af f i→Tn i ⟨1,0,0,false⟩
 | ok:Op p f i→(f i).run=1→Tn i ⟨2,0,0,false⟩
 | fail:Op p f i→(f i).run=1→Tn i ⟨3,0,0,false⟩
 | undo:MU p af f i→Tn i ⟨2,(f i).tries+1,(f i).slips,false⟩
 | undone:Op p f i→(f i).tries=(f i).slips+1→(f i).un=false→Tn i ⟨2,(f i).tries,(f i).slips,true⟩
 | slip:Op p f i→(f i).tries=(f i).slips+1→(f i).un=false→(f i).slips < 3→Tn i ⟨2,(f i).tries,(f i).slips+1,false⟩
structure Inv:Prop where
 rt:Rt p f
 undoing:∀i,1≤i→i < p.n→0 < (f i).tries→FF p f (p.inn i) (p.alt i)
 behind:∀i,1≤i→i < p.n→To p f i→¬FF p f (p.inn i) (p.alt i)→∀a∈af i,Ps p f a
 later:∀i,1≤i→i < p.n→To p f i→p.alt i≤At p f (p.inn i)
end
variable {p:Pl}{af:Nat→List Nat}{f:Nat→Fa}
theorem Tn.step {i:Nat}{g:Fa}(h:Tn p af f i g):1≤i∧i < p.n∧p.sub i=false:=by
 cases h with
 | start h=>exact h.1
 | ok h _=>exact h.1
 | fail h _=>exact h.1
 | undo h=>exact h.1
 | undone h _ _=>exact h.1
 | slip h _ _ _=>exact h.1
theorem Rn.lt (hp:Lg p af){s:Nat}(h:Rn p af f s):s < p.n∧p.sub s=true∧¬Dn p f s∧¬Sp p f s:=by
 cases h with
 | root h1 h2=>exact⟨by have:=hp.ok.pos;omega,hp.ok.root,h1,h2⟩
 | sub h1 h2 h3 h4 h5 _ _ _ _=>exact⟨h2,h3,h4,h5⟩
theorem Rn.free (hp:Lg p af){s:Nat}(h:Rn p af f s):¬Ha p f s:=by
 cases h with
 | root _ _=>exact ha_root
 | sub h1 h2 h3 h4 h5 h6 h7 h8 _=>exact fun h9=>h8 ((ha_eq hp.ok h1 h2).1 h9)
theorem rc_an (hp:Lg p af){i s:Nat}(h1:1≤i)(hi:i < p.n)(h:Rc p af f i)(ha:An p i s):Rn p af f s:=by
 induction ha with
 | one=>exact h.1
 | @up s ha hs ih=>
  cases ih with
  | root _ _=>omega
  | sub _ _ _ _ _ h6 _ _ _=>exact h6
theorem rn_rc {s:Nat}(h:Rn p af f s)(hs:1≤s):Rc p af f s:=by
 cases h with
 | root _ _=>omega
 | sub _ _ _ _ _ h6 h7 h8 h9=>exact⟨h6,h7,h8,h9⟩
theorem Op.not_clean (hr:Rt p f){i:Nat}(h:Op p f i):¬Cl p f i:=by
 obtain⟨⟨h1,hi,hs⟩,h⟩:=h
 rw[cl_step hi hs]
 obtain⟨a1,a2,a3,a4,a5,a6,a7⟩:=hr.ok i hi
 rintro (h0 | h0 | h0)
 ·rcases h with h | ⟨h,_⟩ <;> omega
 ·rcases h with h | ⟨h,_⟩ <;> omega
 ·have h9:=a7 h0
  rcases h with h | ⟨h,hu⟩
  ·omega
  ·rw[hu] at h0;cases h0
theorem MU.not_clean {i:Nat}(h:MU p af f i):¬Cl p f i:=by
 obtain⟨⟨h1,hi,hs⟩,⟨h2,h3,_⟩,_⟩:=h
 rw[cl_step hi hs,h2,h3]
 simp
theorem sp_still (hp:Lg p af)(hr:Rt p f){i s:Nat}{g:Fa}(h:Tn p af f i g)(hs:Sp p f s)(hsn:s < p.n)(ha:An p i s):False:=by
 obtain⟨h1,hi,hsub⟩:=h.step
 have hss:=(ha.lt hp.ok h1 hi).2;have hc:Cl p f i:=an_clean hp.ok h1 hi ha (spent_clean hsn hss hs);cases h with
 | start h=>exact ((rc_an hp h1 hi h.2.2 ha).lt hp).2.2.2 hs
 | ok h _=>exact h.not_clean hr hc
 | fail h _=>exact h.not_clean hr hc
 | undo h=>exact h.not_clean hc
 | undone h _ _=>exact h.not_clean hr hc
 | slip h _ _ _=>exact h.not_clean hr hc
theorem left_still (hp:Lg p af)(hr:Rt p f){i s c:Nat}{g:Fa}(h:Tn p af f i g)(hs:s < p.n)(hsub:p.sub s=true)(hc1:1≤c)(hcn:c < p.n)(hcs:p.inn c=s)(hca:p.alt c < At p f s)(hci:c=i∨An p i c):False:=by
 obtain⟨h1,hi,hst⟩:=h.step
 have hkid:Kid p s (p.alt c) c:=⟨by have:=(hp.ok.inn c hc1 hcn).1;omega,hcn,hcs,rfl⟩;have hcl:Cl p f c:=((at_spec hp.ok hs hsub).2.1 _ hca).2 c hkid;have hc:Cl p f i:=by
  rcases hci with rfl | ha
  ·exact hcl
  ·exact an_clean hp.ok h1 hi ha hcl
 cases h with
 | start h=>
  have hrc:Rc p af f c:=by
   rcases hci with rfl | ha
   ·exact h.2.2
   ·exact rn_rc (rc_an hp h1 hi h.2.2 ha) hc1
  have:=hrc.2.1;rw[hcs] at this
  omega
 | ok h _=>exact h.not_clean hr hc
 | fail h _=>exact h.not_clean hr hc
 | undo h=>exact h.not_clean hc
 | undone h _ _=>exact h.not_clean hr hc
 | slip h _ _ _=>exact h.not_clean hr hc
theorem whole_up {s a:Nat}(hr:Rt p f)(h:∀k,Kid p s a k→Ps p f k):¬Fl p f s a:=by
 rw[fl_iff]
 rintro⟨k,hk,hc⟩
 have hps:=h k hk;cases hsub:p.sub k with
 | false=>
  rcases hc with hc | ⟨c1,_⟩
  ·rcases hps with hd | ⟨d1,_⟩
   ·rw[dn_step hk.2.1 hsub] at hd;omega
   ·rw[hsub] at d1;cases d1
  ·rw[hsub] at c1;cases c1
 | true=>
  rcases hc with hc | ⟨c1,c2,c3⟩
  ·rw[hr.sub k hk.2.1 hsub] at hc;exact absurd hc (by decide)
  ·rcases hps with hd | ⟨d1,d2,d3⟩
   ·exact ((dn_saga hk.2.1 hsub).1 hd).1 c3
   ·rw[c2] at d2;cases d2
theorem dn_still (hp:Lg p af)(hv:Inv p af f){i:Nat}{g:Fa}(h:Tn p af f i g):∀(d s:Nat),p.n - s≤d→s < p.n→Dn p f s→¬Ha p f s→An p i s→False
 | 0,s,h1,h2,_,_,_=>by omega
 | d+1,s,hd,hs,hdn,hna,ha=>by
  obtain⟨h1,hi,hst⟩:=h.step
  have hr:=hv.rt;have hsub:=(ha.lt hp.ok h1 hi).2;obtain⟨n1,n2⟩:=(dn_saga hs hsub).1 hdn
  have hfl:=whole_up hr n2;have key:∀c,1≤c→c < p.n→p.inn c=s→(c=i∨An p i c)→False:=by
   intro c hc1 hcn hcs hci;have hcl:=(hp.ok.inn c hc1 hcn).1
   rcases Nat.lt_trichotomy (p.alt c) (At p f s) with hlt | heq | hgt
   ·exact left_still hp hr h hs hsub hc1 hcn hcs hlt hci
   ·have hkid:Kid p s (At p f s) c:=⟨by omega,hcn,hcs,heq⟩;have hps:=n2 c hkid
    rcases hci with rfl | hac
    ·
     have hdc:Dn p f c:=by
      rcases hps with h9 | ⟨h9,_⟩
      ·exact h9
      ·rw[hst] at h9;cases h9
     rw[dn_step hcn hst] at hdc
     have hff:¬FF p f (p.inn c) (p.alt c):=by
      rw[hcs,heq]
      rintro (h9 | h9)
      ·exact hfl h9
      ·exact hna h9
     cases h with
     | start h=>have:=h.2.1;omega
     | ok _ h=>omega
     | fail _ h=>omega
     | undo h=>exact hff h.2.2.1
     | undone _ h _=>have:=(hr.ok c hcn).2.2.1;omega
     | slip _ h _ _=>have:=(hr.ok c hcn).2.2.1;omega
    ·have hsc:=(hac.lt hp.ok h1 hi).2
     rcases hps with h9 | ⟨_,_,h9⟩
     ·refine dn_still hp hv h d c (by omega) hcn h9 (fun h8=>?_) hac;rw[ha_eq hp.ok hc1 hcn,hcs,heq] at h8
      rcases h8 with h8 | h8
      ·exact hfl h8
      ·exact hna h8
     ·exact sp_still hp hr h h9 hcn hac
   ·have hnt:¬To p f c:=fun ht=>by have:=hv.later c hc1 hcn ht;rw[hcs] at this;omega
    have hti:¬To p f i:=by
     rcases hci with rfl | hac
     ·exact hnt
     ·exact fun ht=>hnt (an_touched hp.ok h1 hi hac ht)
    rw[to_step hi hst] at hti
    have h0:=(hr.ok i hi).1;have h6:=(hr.ok i hi).2.2.2.2.2.1;have h3:=(hr.ok i hi).2.2.1;cases h with
    | start h=>
     have:=(rc_an hp h1 hi h.2.2 ha).lt hp;exact this.2.2.1 hdn
    | ok _ h=>omega
    | fail _ h=>omega
    | undo h=>have:=h.2.1.1;omega
    | undone _ h _=>omega
    | slip _ h _ _=>omega
  cases ha with
  | one=>exact key i h1 hi rfl (.inl rfl)
  | @up c hac hc1=>exact key c hc1 (by have:=(hac.lt hp.ok h1 hi).1;omega) rfl (.inr hac)
end Go.Proofs.YtieoppabellafaaGreatDoor.St
namespace Go.Proofs.YtieoppabellafaaGreatDoor.St
open Sx
def afOf (its:List It)(i:Nat):List Nat:=(its.getD i It.z).after.map Int.toNat
theorem arcTo_mem {its:List It}{i:Nat}{x:It}(hx:its[i]? =some x){a:Int}(ha:a∈x.after):∀n,i < n→(a,(i:Int))∈arcTo its n
 | 0,h=>by omega
 | n+1,h=>by
  by_cases e:i=n
  ·subst e;rw[arcTo_succ hx]
   exact List.mem_append.2 (.inr (List.mem_map.2 ⟨a,ha,rfl⟩))
  ·have h9:=arcTo_mem hx ha n (by omega);unfold arcTo;exact List.mem_append.2 (.inl h9)
theorem plan_leans {its:List It}{q:By × Tr}(h:sagaP its=some q):Lg (plOf its) (afOf its):=by
 have hok:=plan_ok h;obtain⟨_,hitems⟩:=plan_items h
 have h':=h;unfold sagaP at h
 split at h
 rotate_left
 ·cases h
 rename_i hc
 obtain⟨_,hp⟩:=hc
 have hk:Kd true (bodS its):=kd_bodT its _ 0;obtain⟨W,o,hw⟩:∃W o,Dg.weaveP (its.length:Int) (arcP its)= .ok W o:=by
  have hp2:=hp;unfold planT planP at hp2
  split at hp2
  ·rename_i hd
   have he:=Option.some.inj hp2;have ho:=hd.2.2.2;rw[he] at ho
   unfold ordOk at ho
   split at ho
   ·exact⟨_,_,by assumption⟩
   ·cases ho
  ·cases hp2
 obtain⟨w1,w2,w3,w4,w5,w6,w7⟩:=Dg.weave_facts hw
 rw[Int.toNat_natCast] at w2 w3 w5 w7
 have arc:∀(i:Nat) (x:It) (a:Int),its[i]? =some x→a∈x.after→(a,(i:Int))∈arcP its:=fun i x a hx ha=>arcTo_mem hx ha _ (List.getElem?_eq_some_iff.1 hx).1
 have good:∀(i:Nat) (x:It) (a:Int),its[i]? =some x→a∈x.after→0≤a∧a < (its.length:Int):=fun i x a hx ha=>by
  have:=List.all_eq_true.1 w3 _ (arc i x a hx ha);unfold Dg.endsOk at this;exact (of_decide_eq_true this).1
 have item:∀i,i < (plOf its).n→∃x,its[i]? =some x:=fun i hi=>⟨_,List.getElem?_eq_getElem hi⟩
 refine⟨hok,fun s hs hsub a ha=>?_,fun i i1 hi a ha=>?_,o.idxOf,fun i i1 hi a ha=>?_⟩
 ·obtain⟨x,hx⟩:=item s hs
  have ha':(a:Int) < x.alts:=by
   have:a < (its.getD s It.z).alts.toNat:=ha;rw[getD_it hx] at this
   omega
  obtain⟨j,y,hy,e1,e2⟩:=kids_some hp hk hx ha'
  have hj0:1≤j:=by
   apply Classical.byContradiction
   intro h9;obtain rfl:j=0:=by omega
   obtain⟨⟨z,z0,_,z2,_⟩,_⟩:=plan_items h'
   rw[hy] at z0
   cases z0;omega
  have ej:(plOf its).inn j=s:=by show (its.getD j It.z).inn.toNat=s;rw[getD_it hy,e1];rfl
  have ea:(plOf its).alt j=a:=by show (its.getD j It.z).alt.toNat=a;rw[getD_it hy,e2];rfl
  have hjn:j < (plOf its).n:=(List.getElem?_eq_some_iff.1 hy).1;exact⟨j,by have:=(hok.inn j hj0 hjn).1;omega,hjn,ej,ea⟩
 ·obtain⟨x,hx⟩:=item i hi
  unfold afOf at ha;rw[getD_it hx] at ha
  obtain⟨z,hz,rfl⟩:=List.mem_map.1 ha
  have hg:=good i x z hx hz;have hzn:((z.toNat:Nat):Int)=z:=by omega
  obtain⟨y,hy,e1,e2⟩:=lean_in hp hx (g:=z.toNat) (by rw[hzn];exact hz)
  have hin:∀(k:Nat) (u:It),its[k]? =some u→(plOf its).inn k=u.inn.toNat∧(plOf its).alt k=u.alt.toNat:=fun k u hu=>⟨by show (its.getD k It.z).inn.toNat=_;rw[getD_it hu],by show (its.getD k It.z).alt.toNat=_;rw[getD_it hu]⟩
  refine⟨?_,(List.getElem?_eq_some_iff.1 hy).1,by rw[(hin _ _ hy).1,(hin _ _ hx).1,e1],by rw[(hin _ _ hy).2,(hin _ _ hx).2,e2]⟩
  apply Classical.byContradiction
  intro h9;have h0:z.toNat=0:=by omega
  rw[h0] at hy
  obtain⟨⟨r,r0,_,r2,_⟩,_⟩:=plan_items h'
  rw[hy] at r0
  cases r0;obtain⟨⟨j,_,_,e3,_⟩,_⟩:=hitems i x hx i1
  omega
 ·obtain⟨x,hx⟩:=item i hi
  unfold afOf at ha;rw[getD_it hx] at ha
  obtain⟨z,hz,rfl⟩:=List.mem_map.1 ha
  have hg:=good i x z hx hz;have hzn:((z.toNat:Nat):Int)=z:=by omega
  have hbit:(W.getD i 0).testBit z.toNat=true:=by
   rw[w2]
   exact (Dg.webOf_bit _ _ w3 i z.toNat).2 ⟨by rw[hzn];exact arc i x z hx hz,hi⟩
  have hmem:i∈o:=by
   have hsub:∀y∈o,y < its.length:=fun y hy=>by have:=w6.lt y hy;omega
   apply Classical.byContradiction
   intro h9;have h8:(i :: o).Nodup:=List.nodup_cons.2 ⟨h9,w6.nodup⟩;have h7:(i :: o) ⊆ List.range its.length:=fun y hy=>by
    rw[List.mem_range]
    rcases List.mem_cons.1 hy with rfl | hy
    ·exact hi
    ·exact hsub y hy
   have:=Dg.pigeon _ _ h8 (fun y hy=>h7 hy);rw[List.length_cons,w7,List.length_range] at this
   omega
  obtain⟨k,hk9⟩:=List.mem_iff_getElem?.1 hmem
  have hpre:=w6.ahead k i hk9 z.toNat hbit;have hik:o.idxOf i=k:=by
   have hkl:=(List.getElem?_eq_some_iff.1 hk9).1;have he:o[k]=i:=(List.getElem?_eq_some_iff.1 hk9).2;have:=List.Nodup.idxOf_getElem w6.nodup k hkl;rw[he] at this
   exact this
  show o.idxOf z.toNat < o.idxOf i;rw[hik]
  obtain⟨m,hm⟩:=List.mem_iff_getElem?.1 hpre
  have hmk:m < k:=by have:=(List.getElem?_eq_some_iff.1 hm).1;simp at this;omega
  have hm2:o[m]? =some z.toNat:=by rw[List.getElem?_take,if_pos hmk] at hm;exact hm
  have hml:=(List.getElem?_eq_some_iff.1 hm2).1;have he:o[m]=z.toNat:=(List.getElem?_eq_some_iff.1 hm2).2;have:=List.Nodup.idxOf_getElem w6.nodup m hml;rw[he] at this
  omega
end Go.Proofs.YtieoppabellafaaGreatDoor.St
namespace Go.Proofs.YtieoppabellafaaGreatDoor.St
open Fc
variable {p:Pl}{af:Nat→List Nat}{f:Nat→Fa}
theorem over_touched (hp:Lg p af)(hr:Rt p f):∀(d a:Nat),p.n - a≤d→a < p.n→(Dn p f a∨Sp p f a)→To p f a
 | 0,a,h1,h2,_=>by omega
 | d+1,a,h1,ha,h=>by
  cases hs:p.sub a with
  | false=>
   rcases h with h | h
   ·rw[dn_step ha hs] at h
    exact (to_step ha hs).2 (by omega)
   ·exact absurd h (sp_step ha hs)
  | true=>
   have hal:=hp.ok.alts a ha hs;rw[to_saga ha hs]
   rcases h with h | h
   ·obtain⟨_,n2⟩:=(dn_saga ha hs).1 h
    obtain⟨k,hk⟩:=hp.body a ha hs _ (at_spec hp.ok ha hs (f:=f)).1
    refine⟨k,hk.1,hk.2.1,hk.2.2.1,over_touched hp hr d k (by have:=hk.1;omega) hk.2.1 ?_⟩
    rcases n2 k hk with h9 | ⟨_,_,h9⟩
    ·exact .inl h9
    ·exact .inr h9
   ·obtain⟨hfl,_⟩:=(sp_saga ha hs).1 h 0 (by omega)
    rw[fl_iff] at hfl
    obtain⟨k,hk,hc⟩:=hfl
    refine⟨k,hk.1,hk.2.1,hk.2.2.1,?_⟩
    rcases hc with hc | ⟨_,_,hc⟩
    ·cases hks:p.sub k with
     | false=>exact (to_step hk.2.1 hks).2 (by omega)
     | true=>rw[hr.sub k hk.2.1 hks] at hc;exact absurd hc (by decide)
    ·exact over_touched hp hr d k (by have:=hk.1;omega) hk.2.1 (.inr hc)
theorem ps_touched (hp:Lg p af)(hr:Rt p f){a:Nat}(ha:a < p.n)(h:Ps p f a):To p f a:=by
 refine over_touched hp hr _ a (Nat.le_refl _) ha ?_
 rcases h with h | ⟨_,_,h⟩
 ·exact .inl h
 ·exact .inr h
theorem ex_max {P:Nat→Prop}(r:Nat→Nat):∀n,(∃k,k < n∧P k)→∃k,k < n∧P k∧∀j,j < n→P j→r j≤r k
 | 0,⟨k,hk,_⟩=>by omega
 | n+1,⟨k,hk,hP⟩=>by
  by_cases hb:∃k,k < n∧P k
  ·obtain⟨m,m1,m2,m3⟩:=ex_max r n hb
   by_cases hn:P n∧r m < r n
   ·refine⟨n,by omega,hn.1,fun j hj hPj=>?_⟩
    by_cases e:j=n
    ·subst e;exact Nat.le_refl _
    ·have:=m3 j (by omega) hPj;omega
   ·refine⟨m,by omega,m2,fun j hj hPj=>?_⟩
    by_cases e:j=n
    ·subst e
     apply Classical.byContradiction
     intro h9;exact hn ⟨hPj,by omega⟩
    ·exact m3 j (by omega) hPj
  ·have e:k=n:=by
    apply Classical.byContradiction
    intro h9;exact hb ⟨k,by omega,hP⟩
   subst e;refine⟨k,by omega,hP,fun j hj hPj=>?_⟩
   by_cases e:j=k
   ·subst e;exact Nat.le_refl _
   ·exact absurd ⟨j,by omega,hPj⟩ hb
theorem ex_min {P:Nat→Prop}(r:Nat→Nat)(n:Nat)(h:∃k,k < n∧P k):∃k,k < n∧P k∧∀j,j < n→P j→r k≤r j:=by
 obtain⟨k,k1,k2,k3⟩:=ex_max (P:=fun _=>True) r n (by obtain⟨k,hk,_⟩:=h;exact⟨k,hk,trivial⟩)
 obtain⟨m,m1,m2,m3⟩:=ex_max (P:=P) (fun j=>r k - r j) n h
 refine⟨m,m1,m2,fun j hj hPj=>?_⟩
 have a1:r k - r j≤r k - r m:=m3 j hj hPj;have a2:=k3 j hj trivial;have a3:=k3 m m1 trivial;omega
theorem ov_body (hp:Lg p af){r:Nat→Nat}(hrk:∀i,1≤i→i < p.n→∀a∈af i,r a < r i){i k:Nat}(h:Ov af i k):1≤k→k < p.n→(1≤i∧i < p.n)∧p.inn k=p.inn i∧p.alt k=p.alt i∧r i < r k:=by
 induction h with
 | @one k hk=>
  intro k1 k2;obtain⟨b1,b2,b3,b4⟩:=hp.ons k k1 k2 i hk
  exact⟨⟨b1,b2⟩,b3.symm,b4.symm,hrk k k1 k2 i hk⟩
 | @more k a hk ho ih=>
  intro k1 k2;obtain⟨b1,b2,b3,b4⟩:=hp.ons k k1 k2 a hk
  obtain⟨c0,c1,c2,c3⟩:=ih b1 b2
  have:=hrk k k1 k2 a hk;exact⟨c0,by rw[←b3];exact c1,by rw[←b4];exact c2,by omega⟩
theorem ov_ps (hp:Lg p af)(hv:Inv p af f){i k:Nat}(h:Ov af i k):1≤k→k < p.n→¬FF p f (p.inn k) (p.alt k)→To p f k→Ps p f i:=by
 induction h with
 | @one k hk=>
  intro k1 k2 k3 k4;exact hv.behind k k1 k2 k4 k3 i hk
 | @more k a hk ho ih=>
  intro k1 k2 k3 k4;obtain⟨b1,b2,b3,b4⟩:=hp.ons k k1 k2 a hk
  exact ih b1 b2 (by rw[b3,b4];exact k3) (ps_touched hp hv.rt b2 (hv.behind k k1 k2 k4 k3 a hk))
theorem an_inn {i t:Nat}(h:An p i t):t=p.inn i∨(1≤p.inn i∧An p (p.inn i) t):=by
 induction h with
 | one=>exact .inl rfl
 | @up s h hs ih=>
  rcases ih with rfl | ⟨h1,h2⟩
  ·exact .inr ⟨hs,.one⟩
  ·exact .inr ⟨h1,.up h2 hs⟩
def CC (p:Pl)(af:Nat→List Nat)(f:Nat→Fa)(s:Nat):Prop:=1≤s→Oc p af f s∧∀t,An p s t→1≤t→Oc p af f t
theorem CC.kid {i:Nat}(h:CC p af f (p.inn i)){t:Nat}(ha:An p i t)(ht:1≤t):Oc p af f t:=by
 rcases an_inn ha with rfl | ⟨h1,h2⟩
 ·exact (h ht).1
 ·exact (h h1).2 t h2 ht
theorem undo_goes (hp:Lg p af)(hr:Rt p f):∀(d s:Nat),p.n - s≤d→s < p.n→∀a,FF p f s a→(∃k,Kid p s a k∧¬Cl p f k)→CC p af f s→∃i,Op p f i∨MU p af f i
 | 0,s,h1,h2,_,_,_,_=>by omega
 | d+1,s,hd,hs,a,hff,hex,hcc=>by
  obtain⟨r,hrk⟩:=hp.rank
  obtain⟨i,hi,⟨hkid,hnc⟩,hmax⟩:=ex_max (P:=fun k=>Kid p s a k∧¬Cl p f k) r p.n (by obtain⟨k,hk,hc⟩:=hex;exact⟨k,hk.2.1,hk,hc⟩)
  obtain⟨c1,c2,c3,c4⟩:=hkid
  subst c3;subst c4;have i1:1≤i:=by omega
  have hoc:Oc p af f i:=fun k k1 k2 ho=>by
   apply Classical.byContradiction
   intro h9;obtain⟨_,b1,b2,b3⟩:=ov_body hp hrk ho k1 k2
   have hkl:=(hp.ok.inn k k1 k2).1;have:=hmax k k2 ⟨⟨by omega,k2,b1,b2⟩,h9⟩;omega
  cases hsub:p.sub i with
  | false=>
   rw[cl_step hi hsub] at hnc
   obtain⟨a1,a2,a3,a4,a5,a6,a7⟩:=hr.ok i hi
   have hun:(f i).un=false:=by
    cases hu:(f i).un with
    | false=>rfl
    | true=>exact absurd (.inr (.inr hu)) hnc
   by_cases hrun:(f i).run=1
   ·exact⟨i,.inl ⟨⟨i1,hi,hsub⟩,.inl hrun⟩⟩
   ·have h2:(f i).run=2:=by
     have:¬(f i).run=0:=fun h=>hnc (.inl h)
     have:¬(f i).run=3:=fun h=>hnc (.inr (.inl h))
     omega
    rcases a5 with a5 | a5
    ·exact⟨i,.inr ⟨⟨i1,hi,hsub⟩,⟨h2,hun,a5⟩,hff,hoc,fun t ht t1=>hcc.kid ht t1⟩⟩
    ·exact⟨i,.inl ⟨⟨i1,hi,hsub⟩,.inr ⟨a5,hun⟩⟩⟩
  | true=>
   have hex2:∃b,b < p.alts i∧¬Cs p f i b:=by
    apply Classical.byContradiction
    intro h9;refine hnc ((cl_saga hp.ok hi hsub).2 fun b hb=>?_)
    apply Classical.byContradiction
    intro h8;exact h9 ⟨b,hb,h8⟩
   obtain⟨b,hb,hncs⟩:=hex2
   have hex3:∃k,Kid p i b k∧¬Cl p f k:=by
    apply Classical.byContradiction
    intro h9;refine hncs fun k hk=>?_
    apply Classical.byContradiction
    intro h8;exact h9 ⟨k,hk,h8⟩
   exact undo_goes hp hr d i (by omega) hi b (.inr ((ha_eq hp.ok i1 hi).2 hff)) hex3 fun _=>⟨hoc,fun t ht t1=>hcc.kid ht t1⟩
theorem goes (hp:Lg p af)(hv:Inv p af f):∀(d s:Nat),p.n - s≤d→Rn p af f s→CC p af f s→∃i,Op p f i∨MB p af f i∨MU p af f i
 | 0,s,h1,h2,_=>by have:=(h2.lt hp).1;omega
 | d+1,s,hd,hrn,hcc=>by
  have hr:=hv.rt;obtain⟨hs,hsub,hnd,hns⟩:=hrn.lt hp
  by_cases hfl:Fl p f s (At p f s)
  ·have hex:∃k,Kid p s (At p f s) k∧¬Cl p f k:=by
    apply Classical.byContradiction
    intro h9;refine hns (at_spent hp.ok hs hsub hfl fun k hk=>?_)
    apply Classical.byContradiction
    intro h8;exact h9 ⟨k,hk,h8⟩
   obtain⟨i,hi⟩:=undo_goes hp hr _ s (Nat.le_refl _) hs _ (.inl hfl) hex hcc
   rcases hi with hi | hi
   ·exact⟨i,.inl hi⟩
   ·exact⟨i,.inr (.inr hi)⟩
  ·have hff:¬FF p f s (At p f s):=by
    rintro (h | h)
    ·exact hfl h
    ·exact hrn.free hp h
   have hex:∃k,Kid p s (At p f s) k∧¬Ps p f k:=by
    apply Classical.byContradiction
    intro h9;refine hnd ((dn_saga hs hsub).2 ⟨hns,fun k hk=>?_⟩)
    apply Classical.byContradiction
    intro h8;exact h9 ⟨k,hk,h8⟩
   obtain⟨r,hrk⟩:=hp.rank
   obtain⟨i,hi,⟨hkid,hnp⟩,hmin⟩:=ex_min (P:=fun k=>Kid p s (At p f s) k∧¬Ps p f k) r p.n (by obtain⟨k,hk,hc⟩:=hex;exact⟨k,hk.2.1,hk,hc⟩)
   obtain⟨c1,c2,c3,c4⟩:=hkid
   have i1:1≤i:=by omega
   have haf:∀a∈af i,Ps p f a:=fun a ha=>by
    apply Classical.byContradiction
    intro h9;obtain⟨b1,b2,b3,b4⟩:=hp.ons i i1 hi a ha
    have hal:=(hp.ok.inn a b1 b2).1;have:=hmin a b2 ⟨⟨by omega,b2,by rw[b3];exact c3,by rw[b4];exact c4⟩,h9⟩;have:=hrk i i1 hi a ha;omega
   have hrc:Rc p af f i:=⟨by rw[c3];exact hrn,by rw[c3];exact c4.symm,by rw[c3,c4];exact hff,haf⟩;cases hsi:p.sub i with
   | false=>
    obtain⟨a1,a2,a3,a4,a5,a6,a7⟩:=hr.ok i hi
    by_cases h0:(f i).run=0
    ·exact⟨i,.inr (.inl ⟨⟨i1,hi,hsi⟩,h0,hrc⟩)⟩
    ·by_cases h1:(f i).run=1
     ·exact⟨i,.inl ⟨⟨i1,hi,hsi⟩,.inl h1⟩⟩
     ·exfalso
      by_cases h3:(f i).run=3
      ·exact hfl (fl_iff.2 ⟨i,⟨c1,hi,c3,c4⟩,.inl h3⟩)
      ·have h2:(f i).run=2:=by omega
       by_cases ht:(f i).tries=0
       ·exact hnp (.inl ((dn_step hi hsi).2 ⟨h2,ht⟩))
       ·have:=hv.undoing i i1 hi (by omega);rw[c3,c4] at this
        exact hff this
   | true=>
    have hni:¬Dn p f i:=fun h=>hnp (.inl h)
    have hsi2:¬Sp p f i:=fun h=>by
     cases hvi:p.vital i with
     | false=>exact hnp (.inr ⟨hsi,hvi,h⟩)
     | true=>exact hfl (fl_iff.2 ⟨i,⟨c1,hi,c3,c4⟩,.inr ⟨hsi,hvi,h⟩⟩)
    have hrni:Rn p af f i:= .sub i1 hi hsi hni hsi2 hrc.1 hrc.2.1 hrc.2.2.1 hrc.2.2.2;have hoc:Oc p af f i:=fun k k1 k2 ho=>by
     obtain⟨_,b1,b2,_⟩:=ov_body hp hrk ho k1 k2
     have hnt:¬To p f k:=fun ht=>hnp (ov_ps hp hv ho k1 k2 (by rw[b1,b2,c3,c4];exact hff) ht)
     exact idle_clean hp.ok hr.ok _ k (Nat.le_refl _) k2 (by unfold To at hnt;simpa using hnt)
    refine goes hp hv d i (by omega) hrni fun _=>⟨hoc,fun t ht t1=>?_⟩
    have hcc':CC p af f (p.inn i):=by rw[c3];exact hcc
    exact hcc'.kid ht t1
theorem goes_on (hp:Lg p af)(hv:Inv p af f)(h1:¬Dn p f 0)(h2:¬Sp p f 0):∃i,Op p f i∨MB p af f i∨MU p af f i:=
 goes hp hv _ 0 (Nat.le_refl _) (.root h1 h2) (fun h=>by omega)
theorem an_root (hp:Lg p af){i:Nat}(h1:1≤i)(hi:i < p.n):An p i 0:=by
 have:∀s,s < i→An p i s→An p i 0:=by
  intro s
  induction s using Nat.strongRecOn with
  | _ s ih=>
   intro hs ha
   by_cases h0:s=0
   ·subst h0;exact ha
   ·have hl:=(hp.ok.inn s (by omega) (by omega)).1;exact ih _ hl (by omega) (.up ha (by omega))
 exact this _ (hp.ok.inn i h1 hi).1 .one
theorem ends_done (hp:Lg p af)(hv:Inv p af f)(h:Dn p f 0)(i:Nat):¬MB p af f i∧¬MU p af f i:=by
 refine⟨fun hm=>?_,fun hm=>?_⟩
 ·exact ((rc_an hp hm.1.1 hm.1.2.1 hm.2.2 (an_root hp hm.1.1 hm.1.2.1)).lt hp).2.2.1 h
 ·exact dn_still hp hv (.undo hm) _ 0 (Nat.le_refl _) (by have:=hp.ok.pos;omega) h ha_root (an_root hp hm.1.1 hm.1.2.1)
theorem ends_spent (hp:Lg p af)(hr:Rt p f)(h:Sp p f 0)(i:Nat):¬MB p af f i∧¬MU p af f i∧¬Op p f i∧(i < p.n→Cl p f i):=by
 have h0:0 < p.n:=by have:=hp.ok.pos;omega
 have hc:Cl p f 0:=spent_clean h0 hp.ok.root h;refine⟨fun hm=>?_,fun hm=>?_,fun hm=>?_,fun hi=>?_⟩
 ·exact sp_still hp hr (.start hm) h h0 (an_root hp hm.1.1 hm.1.2.1)
 ·exact sp_still hp hr (.undo hm) h h0 (an_root hp hm.1.1 hm.1.2.1)
 ·exact hm.not_clean hr (an_clean hp.ok hm.1.1 hm.1.2.1 (an_root hp hm.1.1 hm.1.2.1) hc)
 ·by_cases e:i=0
  ·subst e;exact hc
  ·exact an_clean hp.ok (by omega) hi (an_root hp (by omega) hi) hc
end Go.Proofs.YtieoppabellafaaGreatDoor.St
namespace Go.Proofs.YtieoppabellafaaGreatDoor.St
open Fc
variable {p:Pl}{af:Nat→List Nat}{f:Nat→Fa}
theorem ps_status (hp:Lg p af)(hr:Rt p f){a:Nat}(ha:a < p.n)(h:Ps p f a):S p f a=2∨(S p f a=3∧p.sub a=true∧p.vital a=false):=by
 have ht:=ps_touched hp hr ha h;cases hs:p.sub a with
 | false=>
  left
  have hd:Dn p f a:=by
   rcases h with h | ⟨h,_⟩
   ·exact h
   ·rw[hs] at h;cases h
  rw[dn_step ha hs] at hd
  unfold S stepS;rw[if_neg (by rw[hs];decide),if_neg (by omega),if_neg (by omega),if_neg (by omega),if_pos hd.2]
 | true=>
  unfold S sagaS;rw[if_pos hs,if_neg (by unfold To at ht;rw[ht];decide)]
  rcases h with h | ⟨_,h2,h3⟩
  ·left
   unfold Dn at h;rw[h]
   rfl
  ·have hnd:¬Dn p f a:=fun hd=>((dn_saga ha hs).1 hd).1 h3
   right
   unfold Dn at hnd;unfold Sp at h3;rw[if_neg hnd,if_pos h3]
   exact⟨rfl,rfl,h2⟩
theorem order_begin (hp:Lg p af)(hr:Rt p f){i:Nat}(h:MB p af f i){a:Nat}(ha:a∈af i):(1≤a∧a < p.n)∧(S p f a=2∨(S p f a=3∧p.sub a=true∧p.vital a=false))∧¬MU p af f a:=by
 obtain⟨⟨i1,hi,_⟩,_,hrc⟩:=h
 obtain⟨b1,b2,b3,b4⟩:=hp.ons i i1 hi a ha
 refine⟨⟨b1,b2⟩,ps_status hp hr b2 (hrc.2.2.2 a ha),fun hm=>hrc.2.2.1 ?_⟩
 have:=hm.2.2.1;rw[b3,b4] at this
 exact this
end Go.Proofs.YtieoppabellafaaGreatDoor.St
