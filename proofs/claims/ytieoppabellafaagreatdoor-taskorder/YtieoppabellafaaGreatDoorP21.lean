/- Texts of the seat, packed: Kq Ta Tb Tc Yo Tf Tg. -/
import Derived.Test.YtieoppabellafaaGreatDoorP20
import Derived.Test.YtieoppabellafaaGreatDoorP19
import Derived.Test.YtieoppabellafaaGreatDoorP03
set_option maxRecDepth 1000000
set_option maxHeartbeats 64000000
set_option linter.unusedVariables false
namespace Go.Proofs.YtieoppabellafaaGreatDoor.St
open Fc
structure Pl where
 n:Nat
 sub:Nat→Bool
 vital:Nat→Bool
 alts:Nat→Nat
 inn:Nat→Nat
 alt:Nat→Nat
structure Pl.Ok (p:Pl):Prop where
 pos:1≤p.n
 root:p.sub 0=true
 inn:∀i,1≤i→i < p.n→p.inn i < i∧p.sub (p.inn i)=true∧p.alt i < p.alts (p.inn i)
 alts:∀i,i < p.n→p.sub i=true→1≤p.alts i
structure IW where
 clean:Bool
 spent:Bool
 done:Bool
 touched:Bool
 at_:Nat
def IW.z:IW:=⟨false,false,false,false,0⟩
def kid (p:Pl)(s a i:Nat):Bool:=decide (s < i∧i < p.n∧p.inn i=s∧p.alt i=a)
def falls (p:Pl)(f:Nat→Fa)(K:Nat→IW)(s a:Nat):Bool:=(List.range p.n).any fun i=>kid p s a i && (decide ((f i).run=3) || (p.sub i && p.vital i && (K i).spent))
def clears (p:Pl)(K:Nat→IW)(s a:Nat):Bool:=(List.range p.n).all fun i=> !kid p s a i || (K i).clean
def whole (p:Pl)(K:Nat→IW)(s a:Nat):Bool:=(List.range p.n).all fun i=> !kid p s a i || ((K i).done || (p.sub i && !p.vital i && (K i).spent))
def first (q:Nat→Bool)(n:Nat):Nat→Nat→Nat
 | 0,a=>a
 | d+1,a=>if a+1 < n∧q a=true then first q n d (a+1) else a
def sagaW (p:Pl)(f:Nat→Fa)(K:Nat→IW)(s:Nat):IW:=
 let at_:=first (fun a=>falls p f K s a && clears p K s a) (p.alts s) (p.alts s) 0
 let spent:=(List.range (p.alts s)).all fun a=>falls p f K s a && clears p K s a
 {clean:=(List.range (p.alts s)).all fun a=>clears p K s a,spent:=spent,done:= !spent && whole p K s at_,
  touched:=(List.range p.n).any fun i=>decide (s < i∧p.inn i=s) && (K i).touched,at_:=at_}
def stepW (f:Fa):IW:=⟨decide (f.run=0) || decide (f.run=3) || f.un,false,decide (f.run=2) && decide (f.tries=0),decide (0 < f.run),0⟩
def wk (p:Pl)(f:Nat→Fa):Nat→Nat→IW
 | 0,_=>IW.z
 | d+1,i=>if p.sub i then sagaW p f (wk p f d) i else stepW (f i)
theorem falls_congr {p:Pl}{f:Nat→Fa}{K K':Nat→IW}{s a:Nat}(h:∀i,s < i→i < p.n→K i=K' i):falls p f K s a=falls p f K' s a:=by
 unfold falls
 congr 1
 funext i
 by_cases hk:kid p s a i=true
 ·have:=of_decide_eq_true hk;rw[h i this.1 this.2.1]
 ·rw[show kid p s a i=false by simpa using hk]
  rfl
theorem clears_congr {p:Pl}{K K':Nat→IW}{s a:Nat}(h:∀i,s < i→i < p.n→K i=K' i):clears p K s a=clears p K' s a:=by
 unfold clears
 congr 1
 funext i
 by_cases hk:kid p s a i=true
 ·have:=of_decide_eq_true hk;rw[h i this.1 this.2.1]
 ·rw[show kid p s a i=false by simpa using hk]
  rfl
theorem whole_congr {p:Pl}{K K':Nat→IW}{s a:Nat}(h:∀i,s < i→i < p.n→K i=K' i):whole p K s a=whole p K' s a:=by
 unfold whole
 congr 1
 funext i
 by_cases hk:kid p s a i=true
 ·have:=of_decide_eq_true hk;rw[h i this.1 this.2.1]
 ·rw[show kid p s a i=false by simpa using hk]
  rfl
theorem any_congr {α:Type}{l:List α}{P Q:α→Bool}(h:∀x∈l,P x=Q x):l.any P=l.any Q:=by
 induction l with
 | nil=>rfl
 | cons x l ih=>rw[List.any_cons,List.any_cons,h x (by simp),ih fun y hy=>h y (by simp[hy])]
theorem sagaW_congr {p:Pl}{f:Nat→Fa}{K K':Nat→IW}{s:Nat}(h:∀i,s < i→i < p.n→K i=K' i):sagaW p f K s=sagaW p f K' s:=by
 unfold sagaW;have h1:∀a,falls p f K s a=falls p f K' s a:=fun a=>falls_congr h
 have h2:∀a,clears p K s a=clears p K' s a:=fun a=>clears_congr h
 have h3:((List.range p.n).any fun i=>decide (s < i∧p.inn i=s) && (K i).touched)=((List.range p.n).any fun i=>decide (s < i∧p.inn i=s) && (K' i).touched):=by
  refine any_congr fun i hi=>?_
  rw[List.mem_range] at hi
  by_cases hk:s < i∧p.inn i=s
  ·rw[h i hk.1 hi]
  ·rw[decide_eq_false hk]
   rfl
 simp only[h1,h2,h3,whole_congr h]
theorem wk_same (p:Pl)(f:Nat→Fa):∀(d d' i:Nat),i < p.n→p.n - i≤d→p.n - i≤d'→wk p f d i=wk p f d' i
 | 0,d',i,hi,h1,_=>by omega
 | d+1,0,i,hi,_,h2=>by omega
 | d+1,d'+1,i,hi,h1,h2=>by
  unfold wk
  split
  ·exact sagaW_congr fun k h3 h4=>wk_same p f d d' k h4 (by omega) (by omega)
  ·rfl
def W (p:Pl)(f:Nat→Fa)(i:Nat):IW:=wk p f p.n i
theorem W_eq {p:Pl}{f:Nat→Fa}{i:Nat}(hi:i < p.n):W p f i=if p.sub i then sagaW p f (W p f) i else stepW (f i):=by
 unfold W;rw[wk_same p f p.n (p.n+1) i hi (by omega) (by omega)]
 rw[wk]
def F (p:Pl)(f:Nat→Fa)(s a:Nat):Bool:=falls p f (W p f) s a
def haltK (p:Pl)(f:Nat→Fa):Nat→Nat→Bool
 | 0,_=>false
 | d+1,i=>if i=0 then false else F p f (p.inn i) (p.alt i) || haltK p f d (p.inn i)
theorem haltK_same {p:Pl}(hp:p.Ok)(f:Nat→Fa):∀(d d' i:Nat),i < p.n→i≤d→i≤d'→haltK p f (d+1) i=haltK p f (d'+1) i
 | 0,d',i,hi,h1,_=>by
  obtain rfl:i=0:=by omega
  rfl
 | d+1,0,i,hi,_,h2=>by
  obtain rfl:i=0:=by omega
  rfl
 | d+1,d'+1,i,hi,h1,h2=>by
  rw[haltK]
  conv=>rhs;rw[haltK]
  by_cases h0:i=0
  ·rw[if_pos h0,if_pos h0]
  ·have:=(hp.inn i (by omega) hi).1;rw[if_neg h0,if_neg h0,haltK_same hp f d d' (p.inn i) (by omega) (by omega) (by omega)]
def halted (p:Pl)(f:Nat→Fa)(i:Nat):Bool:=haltK p f (i+1) i
theorem halted_root (p:Pl)(f:Nat→Fa):halted p f 0=false:=by unfold halted;rw[haltK,if_pos rfl]
theorem halted_eq {p:Pl}(hp:p.Ok)(f:Nat→Fa){i:Nat}(h1:1≤i)(hi:i < p.n):halted p f i=(F p f (p.inn i) (p.alt i) || halted p f (p.inn i)):=by
 have:=(hp.inn i h1 hi).1;unfold halted;rw[haltK,if_neg (by omega)]
 obtain⟨j,rfl⟩:∃j,i=j+1:=⟨i - 1,by omega⟩
 rw[haltK_same hp f j (p.inn (j+1)) _ (by omega) (by omega) (Nat.le_refl _)]
def stepS (f:Fa):Int:=if f.run=0 then 0 else if f.run=1 then 1 else if f.run=3 then 3 else if f.tries=0 then 2 else if f.un then 5 else 4
def sagaS (x:IW)(h:Bool):Int:=if x.touched=false then 0 else if x.done then 2 else if x.spent then 3 else if h=false then 1 else if x.clean then 5 else 4
def S (p:Pl)(f:Nat→Fa)(i:Nat):Int:=if p.sub i then sagaS (W p f i) (halted p f i) else stepS (f i)
theorem spent_clears {p:Pl}{f:Nat→Fa}{s a:Nat}(hs:s < p.n)(hsub:p.sub s=true)(h:(W p f s).spent=true)(ha:a < p.alts s):F p f s a=true∧clears p (W p f) s a=true:=by
 rw[W_eq hs,if_pos hsub] at h
 have:=List.all_eq_true.1 h a (List.mem_range.2 ha);rw[Bool.and_eq_true] at this
 exact this
theorem spent_clean {p:Pl}{f:Nat→Fa}{s:Nat}(hs:s < p.n)(hsub:p.sub s=true)(h:(W p f s).spent=true):(W p f s).clean=true:=by
 rw[W_eq hs,if_pos hsub]
 refine List.all_eq_true.2 fun a ha=>?_
 exact (spent_clears hs hsub h (List.mem_range.1 ha)).2
theorem idle_clean {p:Pl}(hp:p.Ok){f:Nat→Fa}(hf:∀i,i < p.n→okF (f i)):∀(d i:Nat),p.n - i≤d→i < p.n→(W p f i).touched=false→(W p f i).clean=true
 | 0,i,h1,h2,_=>by omega
 | d+1,i,h1,h2,h=>by
  have h':=h;rw[W_eq h2] at h' ⊢
  by_cases hs:p.sub i=true
  ·rw[if_pos hs] at h' ⊢
   refine List.all_eq_true.2 fun a _=>List.all_eq_true.2 fun k hk=>?_
   rw[List.mem_range] at hk
   by_cases hkid:kid p i a k=true
   ·have hd:=of_decide_eq_true hkid;have ht:(W p f k).touched=false:=by
     have:=List.any_eq_false.1 h' k (List.mem_range.2 hk);rw[decide_eq_true ⟨hd.1,hd.2.2.1⟩] at this
     simpa using this
    rw[idle_clean hp hf d k (by omega) hk ht]
    simp
   ·rw[show kid p i a k=false by simpa using hkid]
    rfl
  ·rw[if_neg hs] at h' ⊢
   have:¬0 < (f i).run:=by simpa [stepW] using h'
   have h0:=(hf i h2).1;have:(f i).run=0:=by omega
   simp[stepW,this]
end Go.Proofs.YtieoppabellafaaGreatDoor.St
namespace Go.Proofs.YtieoppabellafaaGreatDoor
open Go.RowKit Go.Shelf Sx
def Kd:Bool→Tr→Prop
 | _,.e=>True
 | k,.b x r=>k=true∧Kd false x∧Kd true r
 | k,.n _ s r=>k=false∧Kd true s∧Kd false r
def pk (rec:Nat→Tr)(i alt:Nat)(ys:List Pd):List (Lab × Tr):=ys.flatMap fun y=>if y.inn=i∧y.alt=alt then [(y.lab,rec y.num)] else []
theorem pk_append (rec:Nat→Tr)(i alt:Nat)(a b:List Pd):pk rec i alt (a ++b)=pk rec i alt a ++pk rec i alt b:=by simp[pk]
theorem pk_cons (rec:Nat→Tr)(i alt:Nat)(y:Pd)(b:List Pd):pk rec i alt (y :: b)=(if y.inn=i∧y.alt=alt then [(y.lab,rec y.num)] else []) ++pk rec i alt b:=by simp[pk]
theorem pk_none {rec:Nat→Tr}{i alt:Nat}{ys:List Pd}(h:∀y∈ys,¬(y.inn=i∧y.alt=alt)):pk rec i alt ys=[]:=by
 unfold pk;rw[List.flatMap_eq_nil_iff]
 intro y hy;rw[if_neg (h y hy)]
theorem xsT_at (t:Tr):∀(inn alt last:Nat),∀y∈xsT t inn alt last,last < y.num∧y.num≤last+cntA t∧(y.inn=inn∨last < y.inn)∧y.inn≤inn+last+cntA t∧(inn≤last→y.inn < y.num):=by
 induction t with
 | e=>intro _ _ _ y hy;cases hy
 | b x r ih1 ih2=>
  intro inn alt last y hy;rw[xsT,List.mem_append] at hy
  rcases hy with hy | hy
  ·obtain⟨h1,h2,h3,h4,h5⟩:=ih1 _ _ _ y hy
   refine⟨h1,?_,h3,?_,h5⟩ <;> simp only[cntA] <;> omega
  ·obtain⟨h1,h2,h3,h4,h5⟩:=ih2 _ _ _ y hy
   refine⟨by omega,?_,by omega,?_,fun h=>h5 (by omega)⟩ <;> simp only[cntA] <;> omega
 | n l s r ih1 ih2=>
  intro inn alt last y hy;rw[xsT,List.mem_cons,List.mem_append] at hy
  rcases hy with rfl | hy | hy
  ·refine⟨by show last < last+1;omega,?_,.inl rfl,?_,fun h=>?_⟩
   ·simp only[cntA];omega
   ·simp only[];omega
   ·show inn < last+1;omega
  ·obtain⟨h1,h2,h3,h4,h5⟩:=ih1 _ _ _ y hy
   refine⟨by omega,?_,by omega,?_,fun _=>h5 (by omega)⟩
   ·simp only[cntA];omega
   ·simp only[cntA];have:=h5 (by omega);omega
  ·obtain⟨h1,h2,h3,h4,h5⟩:=ih2 _ _ _ y hy
   refine⟨by omega,?_,by omega,?_,fun h=>h5 (by omega)⟩ <;> simp only[cntA] <;> omega
theorem xsT_alt (t:Tr):∀(k:Bool) (inn alt last:Nat),Kd k t→inn≤last→∀y∈xsT t inn alt last,y.inn=inn→(k=false→y.alt=alt)∧alt≤y.alt:=by
 induction t with
 | e=>intro _ _ _ _ _ _ y hy;cases hy
 | b x r ih1 ih2=>
  rintro k inn alt last ⟨rfl,hx,hr⟩ hl y hy hi;rw[xsT,List.mem_append] at hy
  rcases hy with hy | hy
  ·exact⟨fun h=>(by cases h),(ih1 _ _ _ _ hx hl y hy hi).2⟩
  ·exact⟨fun h=>(by cases h),by have:=(ih2 _ _ _ _ hr (by omega) y hy hi).2;omega⟩
 | n l s r ih1 ih2=>
  rintro k inn alt last ⟨rfl,hs,hr⟩ hl y hy hi;rw[xsT,List.mem_cons,List.mem_append] at hy
  rcases hy with rfl | hy | hy
  ·exact⟨fun _=>rfl,Nat.le_refl _⟩
  ·have:=(xsT_at s _ _ _ y hy).2.2.1;omega
  ·exact ih2 _ _ _ _ hr (by omega) y hy hi
theorem xsT_num (t:Tr):∀(inn alt last j:Nat) (y:Pd),(xsT t inn alt last)[j]? =some y→y.num=last+1+j:=by
 induction t with
 | e=>intro _ _ _ j y h;simp[xsT] at h
 | b x r ih1 ih2=>
  intro inn alt last j y h;rw[xsT] at h
  by_cases hj:j < (xsT x inn alt last).length
  ·rw[List.getElem?_append_left hj] at h
   exact ih1 _ _ _ _ _ h
  ·rw[List.getElem?_append_right (by omega),xsT_len] at h
   rw[xsT_len] at hj
   have:=ih2 _ _ _ _ _ h;omega
 | n l s r ih1 ih2=>
  intro inn alt last j y h;rw[xsT] at h
  cases j with
  | zero=>
   simp only[List.getElem?_cons_zero,Option.some.injEq] at h;subst h;rfl
  | succ j=>
   rw[List.getElem?_cons_succ] at h
   by_cases hj:j < (xsT s (last+1) 0 (last+1)).length
   ·rw[List.getElem?_append_left hj] at h
    have:=ih1 _ _ _ _ _ h;omega
   ·rw[List.getElem?_append_right (by omega),xsT_len] at h
    rw[xsT_len] at hj
    have:=ih2 _ _ _ _ _ h;omega
structure Tells (its:List It)(xs:List Pd):Prop where
 len:its.length=xs.length+1
 root:∀y,its[0]? =some y→y.inn= -1
 at_:∀(j:Nat) (y:Pd),xs[j]? =some y→y.num=j+1∧y.inn≤j∧∃z,its[j+1]? =some z∧z.inn=(y.inn:Int)∧z.alt=(y.alt:Int)∧z.alts=(y.am:Int)∧labI its z=y.lab
theorem kidsT_pk {its:List It}{xs:List Pd}(h:Tells its xs)(rec:Nat→Tr)(i alt:Nat):∀k,k≤xs.length→kidsT its rec i alt (k+1)=pk rec i alt (xs.take k)
 | 0,_=>by
  obtain⟨y,hy⟩:∃y,its[0]? =some y:=⟨_,List.getElem?_eq_getElem (by rw[h.len];omega)⟩
  have:=h.root y hy;rw[kidsT,kidsT,hy]
  simp only[List.nil_append];rw[if_neg (by omega)]
  rfl
 | k+1,hk=>by
  obtain⟨y,hy⟩:∃y,xs[k]? =some y:=⟨_,List.getElem?_eq_getElem (by omega)⟩
  obtain⟨h1,_,z,h2,h3,h4,_,h5⟩:=h.at_ k y hy
  rw[kidsT,kidsT_pk h rec i alt k (by omega),List.take_add_one,hy]
  simp only[Option.toList_some];rw[pk_append,h2]
  simp only;rw[pk_cons,h3,h4,h5,h1]
  have:pk rec i alt []=[]:=rfl;rw[this,List.append_nil]
  congr 1
  by_cases hc:y.inn=i∧y.alt=alt
  ·rw[if_pos (by omega),if_pos hc]
  ·rw[if_neg (by omega),if_neg hc]
theorem kids_pk {its:List It}{xs:List Pd}(h:Tells its xs)(rec:Nat→Tr)(i alt:Nat):kidsT its rec i alt its.length=pk rec i alt xs:=by
 rw[h.len,kidsT_pk h rec i alt xs.length (Nat.le_refl _),List.take_length]
theorem bodT_of {its:List It}{xs:List Pd}(h:Tells its xs)(T:Tr)(i f:Nat)(pre post:List Pd)(hx:xs=pre ++xsT T i 0 i ++post)(ha:altsI its i=T.len)
  (hpre:∀y∈pre,y.inn < i) (hpost:∀y∈post,y.inn < i∨i+cntA T < y.inn)
  (hT:bodiesL ((List.range T.len).map fun j=>nodesL (pk (bodT its f) i (0+j) (xsT T i 0 i)))=T):bodT its (f+1) i=T:=by
 rw[bodT,ha]
 conv=>rhs;rw[←hT]
 congr 1
 apply List.map_congr_left
 intro alt _;rw[kids_pk h,hx,pk_append,pk_append,pk_none (ys:=pre) (fun y hy=>by have:=hpre y hy;omega),pk_none (ys:=post) (fun y hy=>by have:=hpost y hy;omega),List.nil_append,List.append_nil,Nat.zero_add]
theorem bod_main {its:List It}{xs:List Pd}(h:Tells its xs)(t:Tr) :
  (∀(inn alt last f:Nat) (pre post:List Pd),Kd false t→xs=pre ++xsT t inn alt last ++post→pre.length=last→inn≤last→(∀y∈pre,y.inn < y.num∧y.num≤last)→(∀y∈post,y.inn≤last∨last+cntA t < y.inn)→its.length < last+1+f→nodesL (pk (bodT its f) inn alt (xsT t inn alt last))=t)∧
  (∀(i a0 last f:Nat) (pre post:List Pd),Kd true t→xs=pre ++xsT t i a0 last ++post→pre.length=last→i≤last→(∀y∈pre,y.inn < y.num∧y.num≤last)→(∀y∈post,y.inn≤last∨last+cntA t < y.inn)→its.length < last+1+f→bodiesL ((List.range t.len).map fun j=>nodesL (pk (bodT its f) i (a0+j) (xsT t i a0 last)))=t):=by
 induction t with
 | e=>exact⟨fun _ _ _ _ _ _ _ _ _ _ _ _ _=>rfl,fun _ _ _ _ _ _ _ _ _ _ _ _ _=>rfl⟩
 | b x r ih1 ih2=>
  refine⟨fun _ _ _ _ _ _ hk=>absurd hk.1 (by decide),?_⟩
  rintro i a0 last f pre post ⟨_,hkx,hkr⟩ hx hl hi hpre hpost hf;have hlen:(Tr.b x r).len=r.len+1:=rfl;have hcnt:cntA (.b x r)=cntA x+cntA r:=rfl;rw[hlen,List.range_succ_eq_map,List.map_cons,List.map_map]
  have hxx:xs=pre ++xsT x i a0 last ++ (xsT r i (a0+1) (last+cntA x) ++post):=by rw[hx,xsT];simp
  have hxr:xs=(pre ++xsT x i a0 last) ++xsT r i (a0+1) (last+cntA x) ++post:=by rw[hx,xsT];simp
  have hr1:∀y∈xsT r i (a0+1) (last+cntA x),y.inn≤last∨last+cntA x < y.inn:=by
   intro y hy;have:=(xsT_at r _ _ _ y hy).2.2.1;omega
  have h1:=ih1.1 i a0 last f pre (xsT r i (a0+1) (last+cntA x) ++post) hkx hxx hl hi hpre (fun y hy=>by
   rcases List.mem_append.1 hy with hy | hy
   ·exact hr1 y hy
   ·have:=hpost y hy;omega) hf
  have h2:=ih2.2 i (a0+1) (last+cntA x) f (pre ++xsT x i a0 last) post hkr hxr (by rw[List.length_append,xsT_len,hl]) (by omega) (fun y hy=>by
   rcases List.mem_append.1 hy with hy | hy
   ·have:=hpre y hy;omega
   ·have:=xsT_at x _ _ _ y hy;exact⟨this.2.2.2.2 hi,this.2.1⟩) (fun y hy=>by have:=hpost y hy;omega) (by omega)
  show Tr.b _ (bodiesL _)=Tr.b x r
  congr 1
  ·rw[Nat.add_zero,xsT,pk_append,pk_none (ys:=xsT r i (a0+1) (last+cntA x)) (fun y hy hc=>by
    have:=(xsT_alt r true i (a0+1) (last+cntA x) hkr (by omega) y hy hc.1).2;omega),List.append_nil]
   exact h1
  ·conv=>rhs;rw[←h2]
   congr 1
   apply List.map_congr_left
   intro j _;simp only[Function.comp];rw[xsT,pk_append,pk_none (ys:=xsT x i a0 last) (fun y hy hc=>by
    have:=(xsT_alt x false i a0 last hkx hi y hy hc.1).1 rfl;omega),List.nil_append,show a0+j.succ=a0+1+j by omega]
 | n l s r ih1 ih2=>
  refine⟨?_,fun _ _ _ _ _ _ hk=>absurd hk.1 (by decide)⟩
  rintro inn alt last f pre post ⟨_,hks,hkr⟩ hx hl hi hpre hpost hf;have hcnt:cntA (.n l s r)=1+cntA s+cntA r:=rfl;obtain⟨nd,hnd⟩:∃nd:Pd,nd=⟨last+1,l,s,none,0,0,none,s.len,0,inn,alt⟩:=⟨_,rfl⟩
  have hxT:xsT (.n l s r) inn alt last=nd :: (xsT s (last+1) 0 (last+1) ++xsT r inn alt (last+1+cntA s)):=by rw[hnd,xsT]
  have hxs:xs=(pre ++ [nd]) ++xsT s (last+1) 0 (last+1) ++ (xsT r inn alt (last+1+cntA s) ++post):=by rw[hx,hxT];simp
  have hxr:xs=(pre ++nd :: xsT s (last+1) 0 (last+1)) ++xsT r inn alt (last+1+cntA s) ++post:=by rw[hx,hxT];simp
  have hat:xs[last]? =some nd:=by rw[hx,hxT,←hl];simp
  have hndn:nd.num=last+1∧nd.inn=inn∧nd.alt=alt∧nd.lab=l∧nd.am=s.len:=by rw[hnd];exact⟨rfl,rfl,rfl,rfl,rfl⟩
  obtain⟨_,_,z,hz,_,_,hza,_⟩:=h.at_ last nd hat
  have hal:altsI its (last+1)=s.len:=by unfold altsI;rw[hz];simp only;rw[hza,hndn.2.2.2.2];simp
  have hr1:∀y∈xsT r inn alt (last+1+cntA s),y.inn≤last∨last+1+cntA s < y.inn:=by
   intro y hy;have:=(xsT_at r _ _ _ y hy).2.2.1;omega
  have hpre2:∀y∈pre ++ [nd],y.inn < y.num∧y.num≤last+1:=by
   intro y hy
   rcases List.mem_append.1 hy with hy | hy
   ·have:=hpre y hy;omega
   ·simp only[List.mem_singleton] at hy;subst hy;omega
  have hxl:xs.length+1=its.length:=h.len.symm;have hll:last < xs.length:=(List.getElem?_eq_some_iff.1 hat).1;obtain⟨g,rfl⟩:∃g,f=g+1:=⟨f - 1,by omega⟩
  have h1:=ih1.2 (last+1) 0 (last+1) g (pre ++ [nd]) (xsT r inn alt (last+1+cntA s) ++post) hks hxs (by rw[List.length_append,hl];rfl) (Nat.le_refl _) hpre2 (fun y hy=>by
   rcases List.mem_append.1 hy with hy | hy
   ·have:=hr1 y hy;omega
   ·have:=hpost y hy;omega) (by omega)
  have hb:bodT its (g+1) (last+1)=s:=bodT_of h s (last+1) g (pre ++ [nd]) (xsT r inn alt (last+1+cntA s) ++post) hxs hal (fun y hy=>by have:=hpre2 y hy;omega) (fun y hy=>by
   rcases List.mem_append.1 hy with hy | hy
   ·have:=hr1 y hy;omega
   ·have:=hpost y hy;omega) h1
  have h2:=ih2.1 inn alt (last+1+cntA s) (g+1) (pre ++nd :: xsT s (last+1) 0 (last+1)) post hkr hxr (by rw[List.length_append,List.length_cons,xsT_len,hl];omega) (by omega) (fun y hy=>by
   rcases List.mem_append.1 hy with hy | hy
   ·have:=hpre y hy;omega
   ·rcases List.mem_cons.1 hy with rfl | hy
    ·omega
    ·have:=xsT_at s _ _ _ y hy;exact⟨this.2.2.2.2 (Nat.le_refl _),this.2.1⟩) (fun y hy=>by have:=hpost y hy;omega) (by omega)
  rw[hxT,pk_cons,pk_append,if_pos ⟨hndn.2.1,hndn.2.2.1⟩,pk_none (ys:=xsT s (last+1) 0 (last+1)) (fun y hy hc=>by
   have:=(xsT_at s _ _ _ y hy).2.2.1;omega),List.nil_append,hndn.1,hndn.2.2.2.1,hb]
  show Tr.n l s (nodesL (pk (bodT its (g+1)) inn alt (xsT r inn alt (last+1+cntA s))))=_;rw[h2]
theorem bodS_back {its:List It}{t:Tr}(h:Tells its (xsT t 0 0 0))(hk:Kd true t)(ha:altsI its 0=t.len):bodS its=t:=by
 have h1:=(bod_main h t).2 0 0 0 its.length [] [] hk (by simp) rfl (Nat.le_refl _) (fun y hy=>by cases hy) (fun y hy=>by cases hy) (by omega);exact bodT_of h t 0 its.length [] [] (by simp) ha (fun y hy=>by cases hy) (fun y hy=>by cases hy) h1
theorem numFold_name:∀(xs:List Pd) (f:By→Option Nat) (nm:By) (c:Nat),xs.foldl numPut f nm=some c→(∃y∈xs,y.num=c∧y.lab.name=nm)∨f nm=some c
 | [],f,nm,c,h=> .inr h
 | z :: xs,f,nm,c,h=>by
  rcases numFold_name xs (numPut f z) nm c h with ⟨y,h1,h2⟩ | h1
  ·exact .inl ⟨y,List.mem_cons_of_mem _ h1,h2⟩
  ·unfold numPut at h1
   split at h1
   ·rename_i hn
    cases h1;exact .inl ⟨z,List.mem_cons_self ..,rfl,hn.symm⟩
   ·exact .inr h1
theorem numF_name (xs:List Pd)(nm:By)(c:Nat)(h:numF xs nm=some c):∃y∈xs,y.num=c∧y.lab.name=nm:=by
 rcases numFold_name xs _ nm c h with h | h
 ·exact h
 ·cases h
theorem leanP_names {its:List It}{num:By→Option Nat}{inn alt:Int}(g:Nat→By)(hg:∀nm on,num nm=some on→g on=nm):∀(l:List By) (acc r:List Nat),leanP its num inn alt l acc=some r→r.map g=acc.map g ++l
 | [],acc,r,h=>by simp only[leanP,Option.some.injEq] at h;subst h;simp
 | nm :: l,acc,r,h=>by
  unfold leanP at h;cases hn:num nm with
  | none=>rw[hn] at h;cases h
  | some on=>
   rw[hn] at h
   simp only at h;cases hi:its[on]? with
   | none=>rw[hi] at h;cases h
   | some x=>
    rw[hi] at h
    simp only at h
    split at h
    ·have:=leanP_names g hg l _ r h;rw[this,List.map_append,List.append_assoc]
     congr 1
     simp[hg nm on hn]
    ·cases h
def bare7 (y:It):It:= {y with after:=[]}
theorem its2_bare7 (x:By)(am:Nat)(xs:List Pd):∀(k on:Nat),((its2 x am xs k)[on]?).map bare7=((its1 x am xs xs.length)[on]?).map bare7
 | 0,_=>rfl
 | k+1,on=>by
  rw[its2]
  split
  ·rename_i y hy
   by_cases ho:on=k+1
   ·subst ho;rw[List.getElem?_set_self (List.getElem?_eq_some_iff.1 hy).1,←its2_bare7 x am xs k,hy]
    rfl
   ·rw[List.getElem?_set_ne (Ne.symm ho)]
    exact its2_bare7 x am xs k on
  ·exact its2_bare7 x am xs k on
theorem its2_lean (x:By)(am:Nat)(xs:List Pd):∀(k j:Nat) (z:It),(its2 x am xs k)[j]? =some z→(j=0∨k < j→z.after=[])∧(0 < j→j≤k→z.after=intsN ((leanK x am xs (j - 1)).getD []))
 | 0,j,z,h=>by
  have h1:=its1_no x am xs xs.length z (List.mem_of_getElem? h);exact⟨fun _=>h1,fun h2 h3=>by omega⟩
 | k+1,j,z,h=>by
  rw[its2] at h
  split at h
  ·rename_i y hy
   by_cases ho:j=k+1
   ·subst ho;rw[List.getElem?_set_self (List.getElem?_eq_some_iff.1 hy).1] at h
    cases h;exact⟨fun h2=>by omega,fun _ _=>rfl⟩
   ·rw[List.getElem?_set_ne (Ne.symm ho)] at h
    obtain⟨h1,h2⟩:=its2_lean x am xs k j z h
    exact⟨fun h3=>h1 (by omega),fun h3 h4=>h2 h3 (by omega)⟩
  ·rename_i hy
   obtain⟨h1,h2⟩:=its2_lean x am xs k j z h
   refine⟨fun h3=>h1 (by omega),fun h3 h4=>?_⟩
   by_cases ho:j=k+1
   ·subst ho;exact absurd h (by rw[hy];simp)
   ·exact h2 h3 (by omega)
theorem its2_at (x:By)(am:Nat)(xs:List Pd)(j:Nat)(y:Pd)(hy:xs[j]? =some y):∃z,(its2 x am xs xs.length)[j+1]? =some z∧bare7 z=y.item∧z.after=intsN ((leanK x am xs j).getD []):=by
 have hl:=(List.getElem?_eq_some_iff.1 hy).1;obtain⟨z,hz⟩:∃z,(its2 x am xs xs.length)[j+1]? =some z:=⟨_,List.getElem?_eq_getElem (by rw[its2_len];omega)⟩
 have h1:=its2_bare7 x am xs xs.length (j+1);have h2:(its1 x am xs xs.length)[j+1]? =some y.item:=by
  unfold its1;rw[List.take_length,List.getElem?_cons_succ,List.getElem?_map,hy]
  rfl
 rw[hz,h2] at h1
 simp only[Option.map_some,Option.some.injEq] at h1;have h3:=(its2_lean x am xs xs.length (j+1) z hz).2 (by omega) (by omega);refine⟨z,hz,?_,h3⟩
 rw[h1]
 rfl
theorem its2_root (x:By)(am:Nat)(xs:List Pd):(its2 x am xs xs.length)[0]? =some (rootI x am):=by
 obtain⟨z,hz⟩:∃z,(its2 x am xs xs.length)[0]? =some z:=⟨_,List.getElem?_eq_getElem (by rw[its2_len];omega)⟩
 have h1:=its2_bare7 x am xs xs.length 0;have h2:(its1 x am xs xs.length)[0]? =some (rootI x am):=rfl;have h3:=(its2_lean x am xs xs.length 0 z hz).1 (.inl rfl);rw[hz,h2] at h1
 simp only[Option.map_some,Option.some.injEq] at h1;rw[hz]
 congr 1
 have e:z= {bare7 z with after:=z.after} :=rfl;rw[e,h1,h3]
 rfl
theorem planT_parts {x:By}{t:Tr}{its:List It}(h:planT x t=some its):fitS x t=true∧goodN (xsT t 0 0 0)=true∧(∀j,j < (xsT t 0 0 0).length→(leanK x t.len (xsT t 0 0 0) j).isSome=true)∧its=its2 x t.len (xsT t 0 0 0) (xsT t 0 0 0).length:=by
 unfold planT planP at h
 split at h
 ·rename_i hc
  cases h;exact⟨hc.1,hc.2.1,hc.2.2.1,rfl⟩
 ·cases h
theorem plan_tells {x:By}{t:Tr}{its:List It}(h:planT x t=some its):Tells its (xsT t 0 0 0):=by
 obtain⟨_,_,hK,rfl⟩:=planT_parts h
 obtain⟨xs,hxs⟩:∃xs,xs=xsT t 0 0 0:=⟨_,rfl⟩
 rw[←hxs] at hK ⊢
 have hnum:∀j y,xs[j]? =some y→y.num=j+1:=fun j y hy=>by rw[hxs] at hy;have:=xsT_num t _ _ _ _ _ hy;omega
 refine⟨its2_len x t.len xs xs.length,fun y hy=>by rw[its2_root] at hy;cases hy;rfl,fun j y hy=>?_⟩
 obtain⟨z,hz,hb,ha⟩:=its2_at x t.len xs j y hy
 have hn:=hnum j y hy;have hl:=(List.getElem?_eq_some_iff.1 hy).1;have hin:y.inn < y.num:=by
  have hm:=List.mem_of_getElem? hy;rw[hxs] at hm
  exact (xsT_at t _ _ _ y hm).2.2.2.2 (Nat.le_refl _)
 have hzi:z.inn=(y.inn:Int):=congrArg It.inn hb;have hza:z.alt=(y.alt:Int):=congrArg It.alt hb;have hzs:z.alts=(y.am:Int):=congrArg It.alts hb;have hname:z.name=y.lab.name:=congrArg It.name hb;have hundo:z.undo=y.lab.undo:=congrArg It.undo hb;have hsub:z.sub=y.lab.sub:=congrArg It.sub hb;have hvit:z.vital=y.lab.vital:=congrArg It.vital hb;refine⟨hn,by omega,z,hz,hzi,hza,hzs,?_⟩
 unfold labI;rw[hname,hundo,hsub,hvit]
 have hk:=hK j hl;obtain⟨r,hr⟩:=Option.isSome_iff_exists.1 hk
 have haft:z.after.map (nameI (its2 x t.len xs xs.length))=y.lab.after:=by
  rw[ha,hr]
  unfold leanK at hr;rw[hy] at hr
  have h2:=leanP_names (fun on=>nameI (its2 x t.len xs xs.length) (on:Int)) (fun nm on hno=>by
   obtain⟨u,hu,hun,hunm⟩:=numF_name xs nm on hno
   obtain⟨k,hk2⟩:=List.mem_iff_getElem?.1 hu
   have:=hnum k u hk2;obtain⟨v,hv,hvb,_⟩:=its2_at x t.len xs k u hk2
   have hvn:v.name=u.lab.name:=congrArg It.name hvb;unfold nameI;rw[Int.toNat_natCast,show on=k+1 by omega,hv]
   simp only;rw[hvn,hunm]) _ _ _ hr
  simp only[Option.getD_some,intsN,List.map_map,List.map_nil,List.nil_append] at h2 ⊢;exact h2
 rw[haft]
theorem plan_name {x:By}{t:Tr}{its:List It}(h:planT x t=some its):nameI its 0=x∧altsI its 0=t.len:=by
 obtain⟨_,_,_,rfl⟩:=planT_parts h
 unfold nameI altsI;rw[show (0:Int).toNat=0 from rfl,its2_root]
 exact⟨rfl,by simp[rootI]⟩
theorem leanP_body {its:List It}{num:By→Option Nat}{inn alt:Int} :∀(l:List By) (acc r:List Nat),leanP its num inn alt l acc=some r→(∀c∈acc,∃x,its[c]? =some x∧x.inn=inn∧x.alt=alt)→∀c∈r,∃x,its[c]? =some x∧x.inn=inn∧x.alt=alt
 | [],acc,r,h,ha=>by simp only[leanP,Option.some.injEq] at h;subst h;exact ha
 | nm :: l,acc,r,h,ha=>by
  unfold leanP at h;cases hn:num nm with
  | none=>rw[hn] at h;cases h
  | some on=>
   rw[hn] at h
   simp only at h;cases hi:its[on]? with
   | none=>rw[hi] at h;cases h
   | some x=>
    rw[hi] at h
    simp only at h
    split at h
    ·rename_i hc
     refine leanP_body l _ r h fun c hcm=>?_
     rcases List.mem_append.1 hcm with hcm | hcm
     ·exact ha c hcm
     ·simp only[List.mem_singleton] at hcm;subst hcm;exact⟨x,hi,hc.1,hc.2.1⟩
    ·cases h
def upsF (its:List It):Nat→Nat→List Nat
 | 0,_=>[]
 | f+1,i=>if i=0 then [] else match its[i]? with
  | some x=>x.inn.toNat :: upsF its f x.inn.toNat
  | none=>[]
def Stem (its:List It):Prop:=∀(i:Nat) (x:It),its[i]? =some x→0 < i→0≤x.inn∧x.inn < (i:Int)
theorem ups_len (its:List It):∀f i,(upsF its f i).length≤f
 | 0,_=>Nat.le_refl _
 | f+1,i=>by
  rw[upsF]
  split
  ·simp
  ·split
   ·have:=ups_len its f;simp only[List.length_cons];have:=this (by assumption:It).inn.toNat;omega
   ·simp
theorem stem_ups {its:List It}(h:Stem its):∀f i,i < its.length→i≤f→Ups its i (upsF its f i)
 | 0,i,_,h2=>by
  obtain rfl:i=0:=by omega
  exact Ups.nil
 | f+1,i,h1,h2=>by
  rw[upsF]
  by_cases h0:i=0
  ·subst h0;rw[if_pos rfl]
   exact Ups.nil
  ·rw[if_neg h0]
   obtain⟨x,hx⟩:∃x,its[i]? =some x:=⟨_,List.getElem?_eq_getElem h1⟩
   rw[hx]
   simp only;obtain⟨h3,h4⟩:=h i x hx (by omega)
   exact Ups.cons (by omega) hx (by omega) (stem_ups h f x.inn.toNat (by omega) (by omega))
def aboveL (its:List It)(i:Int):List Nat:=if 0≤i∧i < (its.length:Int) then upsF its its.length i.toNat else []
theorem kidsT_some {its:List It}{rec:Nat→Tr}{i alt:Nat} :∀k,kidsT its rec i alt k≠[]→∃(j:Nat) (x:It),its[j]? =some x∧x.inn=(i:Int)∧x.alt=(alt:Int)
 | 0,h=>absurd rfl h
 | k+1,h=>by
  rw[kidsT] at h
  cases hx:its[k]? with
  | none=>
   rw[hx] at h
   simp only[List.append_nil] at h;exact kidsT_some k h
  | some x=>
   rw[hx] at h
   simp only at h
   by_cases hc:x.inn=(i:Int)∧x.alt=(alt:Int)
   ·exact⟨k,x,hx,hc⟩
   ·rw[if_neg hc,List.append_nil] at h
    exact kidsT_some k h
theorem nodes_bod {its:List It}{xs:List Pd}(h:Tells its xs)(t:Tr):∀(k:Bool) (inn alt last:Nat) (pre post:List Pd),Kd k t→xs=pre ++xsT t inn alt last ++post→pre.length=last→inn≤last→(∀y∈pre,y.inn < y.num∧y.num≤last)→(∀y∈post,y.inn≤last∨last+cntA t < y.inn)→∀y∈xsT t inn alt last,bodT its (its.length+1) y.num=y.alts:=by
 induction t with
 | e=>intro _ _ _ _ _ _ _ _ _ _ _ _ y hy;cases hy
 | b x r ih1 ih2=>
  rintro k i a0 last pre post ⟨_,hkx,hkr⟩ hx hl hi hpre hpost y hy;have hcnt:cntA (.b x r)=cntA x+cntA r:=rfl;have hxx:xs=pre ++xsT x i a0 last ++ (xsT r i (a0+1) (last+cntA x) ++post):=by rw[hx,xsT];simp
  have hxr:xs=(pre ++xsT x i a0 last) ++xsT r i (a0+1) (last+cntA x) ++post:=by rw[hx,xsT];simp
  rw[xsT,List.mem_append] at hy
  rcases hy with hy | hy
  ·exact ih1 false i a0 last pre _ hkx hxx hl hi hpre (fun z hz=>by
    rcases List.mem_append.1 hz with hz | hz
    ·have:=(xsT_at r _ _ _ z hz).2.2.1;omega
    ·have:=hpost z hz;omega) y hy
  ·exact ih2 true i (a0+1) (last+cntA x) (pre ++xsT x i a0 last) post hkr hxr (by rw[List.length_append,xsT_len,hl]) (by omega) (fun z hz=>by
    rcases List.mem_append.1 hz with hz | hz
    ·have:=hpre z hz;omega
    ·have:=xsT_at x _ _ _ z hz;exact⟨this.2.2.2.2 hi,this.2.1⟩) (fun z hz=>by have:=hpost z hz;omega) y hy
 | n l s r ih1 ih2=>
  rintro k inn alt last pre post ⟨hkk,hks,hkr⟩ hx hl hi hpre hpost y hy;have hcnt:cntA (.n l s r)=1+cntA s+cntA r:=rfl;obtain⟨nd,hnd⟩:∃nd:Pd,nd=⟨last+1,l,s,none,0,0,none,s.len,0,inn,alt⟩:=⟨_,rfl⟩
  have hxT:xsT (.n l s r) inn alt last=nd :: (xsT s (last+1) 0 (last+1) ++xsT r inn alt (last+1+cntA s)):=by rw[hnd,xsT]
  have hxs:xs=(pre ++ [nd]) ++xsT s (last+1) 0 (last+1) ++ (xsT r inn alt (last+1+cntA s) ++post):=by rw[hx,hxT];simp
  have hxr:xs=(pre ++nd :: xsT s (last+1) 0 (last+1)) ++xsT r inn alt (last+1+cntA s) ++post:=by rw[hx,hxT];simp
  have hat:xs[last]? =some nd:=by rw[hx,hxT,←hl];simp
  have hndn:nd.num=last+1∧nd.inn=inn∧nd.am=s.len∧nd.alts=s:=by rw[hnd];exact⟨rfl,rfl,rfl,rfl⟩
  obtain⟨_,_,z,hz,_,_,hza,_⟩:=h.at_ last nd hat
  have hal:altsI its (last+1)=s.len:=by unfold altsI;rw[hz];simp only;rw[hza,hndn.2.2.1];simp
  have hr1:∀y∈xsT r inn alt (last+1+cntA s),y.inn≤last∨last+1+cntA s < y.inn:=by
   intro y hy;have:=(xsT_at r _ _ _ y hy).2.2.1;omega
  have hpre2:∀y∈pre ++ [nd],y.inn < y.num∧y.num≤last+1:=by
   intro y hy
   rcases List.mem_append.1 hy with hy | hy
   ·have:=hpre y hy;omega
   ·simp only[List.mem_singleton] at hy;subst hy;omega
  have hpost2:∀y∈xsT r inn alt (last+1+cntA s) ++post,y.inn≤last+1∨last+1+cntA s < y.inn:=fun y hy=>by
   rcases List.mem_append.1 hy with hy | hy
   ·have:=hr1 y hy;omega
   ·have:=hpost y hy;omega
  rw[hxT,List.mem_cons,List.mem_append] at hy
  rcases hy with rfl | hy | hy
  ·have h1:=(bod_main h s).2 (last+1) 0 (last+1) its.length (pre ++ [y]) (xsT r inn alt (last+1+cntA s) ++post) hks hxs (by rw[List.length_append,hl];rfl) (Nat.le_refl _) hpre2 hpost2 (by omega);rw[hndn.1,hndn.2.2.2]
   exact bodT_of h s (last+1) its.length (pre ++ [y]) (xsT r inn alt (last+1+cntA s) ++post) hxs hal (fun z hz=>by have:=hpre2 z hz;omega) (fun z hz=>by
    rcases List.mem_append.1 hz with hz | hz
    ·have:=hr1 z hz;omega
    ·have:=hpost z hz;omega) h1
  ·exact ih1 true (last+1) 0 (last+1) (pre ++ [nd]) (xsT r inn alt (last+1+cntA s) ++post) hks hxs (by rw[List.length_append,hl];rfl) (Nat.le_refl _) hpre2 hpost2 y hy
  ·exact ih2 false inn alt (last+1+cntA s) (pre ++nd :: xsT s (last+1) 0 (last+1)) post hkr hxr (by rw[List.length_append,List.length_cons,xsT_len,hl];omega) (by omega) (fun z hz=>by
    rcases List.mem_append.1 hz with hz | hz
    ·have:=hpre z hz;omega
    ·rcases List.mem_cons.1 hz with rfl | hz
     ·omega
     ·have:=xsT_at s _ _ _ z hz;exact⟨this.2.2.2.2 (Nat.le_refl _),this.2.1⟩) (fun z hz=>by have:=hpost z hz;omega) y hy
theorem fits_all (t:Tr):∀(inn alt last:Nat),fitN t=true→∀y∈xsT t inn alt last,fits y.alts=true∧y.am=y.alts.len:=by
 induction t with
 | e=>intro _ _ _ _ y hy;cases hy
 | b x r ih1 ih2=>
  intro inn alt last hN y hy;simp only[fitN,Bool.and_eq_true] at hN;rw[xsT,List.mem_append] at hy
  rcases hy with hy | hy
  ·exact ih1 _ _ _ hN.1 y hy
  ·exact ih2 _ _ _ hN.2 y hy
 | n l s r ih1 ih2=>
  intro inn alt last hN y hy;simp only[fitN,Bool.and_eq_true] at hN;rw[xsT,List.mem_cons,List.mem_append] at hy
  rcases hy with rfl | hy | hy
  ·exact⟨hN.1,rfl⟩
  ·exact ih1 _ _ _ hN.2.1 y hy
  ·exact ih2 _ _ _ hN.2.2 y hy
theorem alt_top (t:Tr):∀(k:Bool) (inn alt last:Nat),Kd k t→inn≤last→∀y∈xsT t inn alt last,y.inn=inn→k=true→y.alt < alt+t.len:=by
 induction t with
 | e=>intro _ _ _ _ _ _ y hy;cases hy
 | b x r ih1 ih2=>
  rintro k inn alt last ⟨_,hx,hr⟩ hl y hy hi hk;have hlen:(Tr.b x r).len=r.len+1:=rfl;rw[xsT,List.mem_append] at hy
  rcases hy with hy | hy
  ·have:=(xsT_alt x false inn alt last hx hl y hy hi).1 rfl;omega
  ·have:=ih2 true inn (alt+1) (last+cntA x) hr (by omega) y hy hi rfl;omega
 | n l s r _ _=>rintro k inn alt last ⟨hk,_⟩ _ y _ _ hk2;rw[hk] at hk2;cases hk2
theorem alt_lt (t:Tr):∀(k:Bool) (inn alt last:Nat),Kd k t→inn≤last→∀y∈xsT t inn alt last,y.inn=inn∨∃p∈xsT t inn alt last,p.num=y.inn∧y.alt < p.am:=by
 induction t with
 | e=>intro _ _ _ _ _ _ y hy;cases hy
 | b x r ih1 ih2=>
  rintro k inn alt last ⟨_,hx,hr⟩ hl y hy;rw[xsT,List.mem_append] at hy
  rcases hy with hy | hy
  ·rcases ih1 false inn alt last hx hl y hy with h | ⟨p,h1,h2⟩
   ·exact .inl h
   ·exact .inr ⟨p,by rw[xsT];exact List.mem_append_left _ h1,h2⟩
  ·rcases ih2 true inn (alt+1) (last+cntA x) hr (by omega) y hy with h | ⟨p,h1,h2⟩
   ·exact .inl h
   ·exact .inr ⟨p,by rw[xsT];exact List.mem_append_right _ h1,h2⟩
 | n l s r ih1 ih2=>
  rintro k inn alt last ⟨_,hs,hr⟩ hl y hy;rw[xsT,List.mem_cons,List.mem_append] at hy
  rcases hy with rfl | hy | hy
  ·exact .inl rfl
  ·rcases ih1 true (last+1) 0 (last+1) hs (Nat.le_refl _) y hy with h | ⟨p,h1,h2⟩
   ·have:=alt_top s true (last+1) 0 (last+1) hs (Nat.le_refl _) y hy h rfl;refine .inr ⟨_,by rw[xsT];exact List.mem_cons_self ..,h.symm,?_⟩;show y.alt < s.len;omega
   ·exact .inr ⟨p,by rw[xsT];exact List.mem_cons_of_mem _ (List.mem_append_left _ h1),h2⟩
  ·rcases ih2 false inn alt (last+1+cntA s) hr (by omega) y hy with h | ⟨p,h1,h2⟩
   ·exact .inl h
   ·exact .inr ⟨p,by rw[xsT];exact List.mem_cons_of_mem _ (List.mem_append_right _ h1),h2⟩
theorem fitB_bodies:∀l:List Tr,fitB (bodiesL l)=true→∀x∈l,0 < x.len∧x.len≤16
 | [],_,x,hx=>by cases hx
 | y :: r,h,x,hx=>by
  simp only[bodiesL,fitB,Bool.and_eq_true,decide_eq_true_eq] at h
  rcases List.mem_cons.1 hx with rfl | hx
  ·exact h.1
  ·exact fitB_bodies r h.2 x hx
theorem kids_some {x:By}{t:Tr}{its:List It}(h:planT x t=some its)(hk:Kd true t){i alt:Nat}{z:It}(hz:its[i]? =some z)(ha:(alt:Int) < z.alts):∃(j:Nat) (y:It),its[j]? =some y∧y.inn=(i:Int)∧y.alt=(alt:Int):=by
 obtain⟨hfit,_,_,he⟩:=planT_parts h
 have htell:=plan_tells h;simp only[fitS,Bool.and_eq_true] at hfit;have hbod:fits (bodT its (its.length+1) i)=true:=by
  cases i with
  | zero=>
   have h1:=plan_name h;have h2:bodS its=t:=bodS_back htell hk h1.2;unfold bodS at h2;rw[h2]
   exact hfit.2.2.2.1
  | succ j=>
   have hjl:j < (xsT t 0 0 0).length:=by
    have:=(List.getElem?_eq_some_iff.1 hz).1;rw[htell.len] at this
    omega
   obtain⟨y,hy⟩:∃y,(xsT t 0 0 0)[j]? =some y:=⟨_,List.getElem?_eq_getElem hjl⟩
   have hm:=List.mem_of_getElem? hy;have h1:=nodes_bod htell t true 0 0 0 [] [] hk (by simp) rfl (Nat.le_refl _) (fun y hy=>by cases hy) (fun y hy=>by cases hy) y hm;rw[(htell.at_ j y hy).1] at h1
   rw[h1]
   exact (fits_all t 0 0 0 hfit.2.2.2.2 y hm).1
 have hal:altsI its i=z.alts.toNat:=by unfold altsI;rw[hz]
 simp only[fits,Bool.and_eq_true] at hbod;have hb:=hbod.2;rw[bodT] at hb
 have h3:=fitB_bodies _ hb (nodesL (kidsT its (bodT its its.length) i alt its.length)) (List.mem_map.2 ⟨alt,List.mem_range.2 (by omega),rfl⟩);rw[nodesL_len] at h3
 exact kidsT_some its.length (fun hn=>by rw[hn] at h3;simp at h3)
theorem item_in {x:By}{t:Tr}{its:List It}(h:planT x t=some its)(hk:Kd true t){j:Nat}{z:It}(hz:its[j]? =some z)(hj:0 < j):∃(i alt:Nat) (p:It),z.inn=(i:Int)∧z.alt=(alt:Int)∧i < j∧its[i]? =some p∧(alt:Int) < p.alts:=by
 have htell:=plan_tells h;obtain⟨k,rfl⟩:∃k,j=k+1:=⟨j - 1,by omega⟩
 have hjl:k < (xsT t 0 0 0).length:=by
  have:=(List.getElem?_eq_some_iff.1 hz).1;rw[htell.len] at this
  omega
 obtain⟨y,hy⟩:∃y,(xsT t 0 0 0)[k]? =some y:=⟨_,List.getElem?_eq_getElem hjl⟩
 obtain⟨_,hle,z',hz',hi,ha,_,_⟩:=htell.at_ k y hy
 rw[hz] at hz'
 cases hz';have hm:=List.mem_of_getElem? hy
 by_cases h0:y.inn=0
 ·have h1:=alt_top t true 0 0 0 hk (Nat.le_refl _) y hm h0 rfl;obtain⟨_,_,_,he⟩:=planT_parts h
  refine⟨0,y.alt,rootI x t.len,by rw[hi,h0],ha,by omega,by rw[he,its2_root],?_⟩
  show (y.alt:Int) < (t.len:Int);omega
 ·rcases alt_lt t true 0 0 0 hk (Nat.le_refl _) y hm with h1 | ⟨p,hp,hpn,hpa⟩
  ·exact absurd h1 h0
  ·obtain⟨q,hq⟩:=List.mem_iff_getElem?.1 hp
   obtain⟨hqn,_,u,hu,_,_,hus,_⟩:=htell.at_ q p hq
   refine⟨y.inn,y.alt,u,hi,ha,by omega,?_,by omega⟩
   rw[←hpn,hqn]
   exact hu
theorem lean_in {x:By}{t:Tr}{its:List It}(h:planT x t=some its){f g:Nat}{y:It}(hy:its[f]? =some y)(ha:(g:Int)∈y.after):∃z,its[g]? =some z∧z.inn=y.inn∧z.alt=y.alt:=by
 obtain⟨_,_,hK,he⟩:=planT_parts h
 obtain⟨xs,hxs⟩:∃xs,xs=xsT t 0 0 0:=⟨_,rfl⟩
 rw[←hxs] at hK he
 cases f with
 | zero=>
  rw[he,its2_root] at hy
  cases hy;cases ha
 | succ j=>
  have hjl:j < xs.length:=by
   have:=(List.getElem?_eq_some_iff.1 hy).1;rw[he,its2_len] at this
   omega
  obtain⟨u,hu⟩:∃u,xs[j]? =some u:=⟨_,List.getElem?_eq_getElem hjl⟩
  obtain⟨y',hy',hb,haf⟩:=its2_at x t.len xs j u hu
  rw[←he,hy] at hy'
  cases hy';obtain⟨r,hr⟩:=Option.isSome_iff_exists.1 (hK j hjl)
  rw[haf,hr] at ha
  simp only[Option.getD_some] at ha;obtain⟨c,hc,hcg⟩:=List.mem_map.1 ha
  obtain rfl:c=g:=by have:(c:Int)=(g:Int):=hcg;omega
  unfold leanK at hr;rw[hu] at hr
  obtain⟨v,hv,hvi,hva⟩:=leanP_body _ _ _ hr (by simp) c hc
  have h7:=its2_bare7 x t.len xs xs.length c;rw[hv] at h7
  rw[←he] at h7
  cases hz:its[c]? with
  | none=>rw[hz] at h7;cases h7
  | some z=>
   rw[hz] at h7
   simp only[Option.map_some,Option.some.injEq] at h7;have e1:(bare7 z).inn=(bare7 v).inn:=congrArg It.inn h7;have e1:z.inn=v.inn:=e1;have e2:(bare7 z).alt=(bare7 v).alt:=congrArg It.alt h7;have e2:z.alt=v.alt:=e2;have e3:y.inn=(u.inn:Int):=congrArg It.inn hb;have e4:y.alt=(u.alt:Int):=congrArg It.alt hb;exact⟨z,rfl,by rw[e1,hvi,e3],by rw[e2,hva,e4]⟩
end Go.Proofs.YtieoppabellafaaGreatDoor
