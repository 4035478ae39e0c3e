/- Texts of the seat, packed: Ku Kv Ky Kyb Th Kyc Kyd. -/
import Derived.Test.YtieoppabellafaaGreatDoorH01
import Derived.Test.YtieoppabellafaaGreatDoorH20
import Derived.Test.YtieoppabellafaaGreatDoorH14
import Derived.Test.YtieoppabellafaaGreatDoorH13
import Derived.Test.YtieoppabellafaaGreatDoorH18
set_option maxRecDepth 1000000
set_option maxHeartbeats 64000000
set_option linter.unusedVariables false
namespace Go.Proofs.YtieoppabellafaaGreatDoor.St
open Fc
variable {p:Pl}{af:Nat→List Nat}{f:Nat→Fa}
theorem to_new (hp:Lg p af)(hr:Rt p f){i k:Nat}{g:Fa}(h:Tn p af f i g)(hk:k < p.n)(ht:To p (upd f i g) k):To p f k∨(MB p af f i∧(k=i∨An p i k)):=by
 obtain⟨h1,hi,hst⟩:=h.step
 by_cases hc:k=i∨An p i k
 ·have hl:To p f i∨MB p af f i:=by
   obtain⟨a1,a2,a3,a4,a5,a6,a7⟩:=hr.ok i hi
   cases h with
   | start h=>exact .inr h
   | ok _ h=>exact .inl ((to_step hi hst).2 (by omega))
   | fail _ h=>exact .inl ((to_step hi hst).2 (by omega))
   | undo h=>exact .inl ((to_step hi hst).2 (by have:=h.2.1.1;omega))
   | undone _ h _=>exact .inl ((to_step hi hst).2 (by omega))
   | slip _ h _ _=>exact .inl ((to_step hi hst).2 (by omega))
  rcases hl with hl | hl
  ·rcases hc with rfl | ha
   ·exact .inl hl
   ·exact .inl (an_touched hp.ok h1 hi ha hl)
  ·exact .inr ⟨hl,hc⟩
 ·unfold To at ht ⊢;rw[W_far _ k (jG _) hk (fun e=>hc (.inl e)) (fun e=>hc (.inr e))] at ht
  exact .inl ht
theorem ps_stays (hp:Lg p af)(hv:Inv p af f){i a:Nat}{g:Fa}(h:Tn p af f i g)(h1:1≤a)(ha:a < p.n)(hf:¬FF p f (p.inn a) (p.alt a))(hps:Ps p f a):Ps p (upd f i g) a:=by
 obtain⟨i1,hi,hst⟩:=h.step
 have hr:=hv.rt;have hne:a≠i:=fun e=>by
  subst e;have hd:Dn p f a:=by
   rcases hps with h9 | ⟨h9,_⟩
   ·exact h9
   ·rw[hst] at h9;cases h9
  rw[dn_step ha hst] at hd
  have h3:=(hr.ok a ha).2.2.1;cases h with
  | start h=>have:=h.2.1;omega
  | ok _ h=>omega
  | fail _ h=>omega
  | undo h=>exact hf h.2.2.1
  | undone _ h _=>omega
  | slip _ h _ _=>omega
 have hna:¬An p i a:=fun hA=>by
  rcases hps with h9 | ⟨_,_,h9⟩
  ·exact dn_still hp hv h _ a (jG _) ha h9 (fun h8=>hf ((ha_eq hp.ok h1 ha).1 h8)) hA
  ·exact sp_still hp hr h h9 ha hA
 unfold Ps Dn Sp;rw[W_far _ a (jG _) ha hne hna]
 exact hps
theorem rt_stays (hr:Rt p f){i:Nat}{g:Fa}(h:Tn p af f i g):Rt p (upd f i g):=by
 obtain⟨i1,hi,hst⟩:=h.step
 obtain⟨a1,a2,a3,a4,a5,a6,a7⟩:=hr.ok i hi
 have hg:okF g:=by
  cases h with
  | start h=>decide
  | ok _ _=>decide
  | fail _ _=>decide
  | undo h=>
   obtain⟨b1,b2,b3⟩:=h.2.1
   exact⟨(by decide:(0:Int)≤2),(by decide:(2:Int)≤3),a3,a4,.inr (by show (f i).tries+1=(f i).slips+1;omega),.inr rfl,fun h=>by cases h⟩
  | undone _ h _=>exact⟨(by decide:(0:Int)≤2),(by decide:(2:Int)≤3),a3,a4,.inr h,.inr rfl,fun _=>h⟩
  | slip _ h _ h3=>exact⟨(by decide:(0:Int)≤2),(by decide:(2:Int)≤3),by show 0≤(f i).slips+1;omega,by show (f i).slips+1≤3;omega,.inl h,.inr rfl,fun h=>by cases h⟩
 refine⟨fun k hk=>?_,fun k hk hs=>?_⟩
 ·by_cases e:k=i
  ·subst e;rw[upd_same];exact hg
  ·rw[upd_other e];exact hr.ok k hk
 ·have e:k≠i:=fun e=>by subst e;rw[hst] at hs;cases hs
  rw[upd_other e]
  exact hr.sub k hk hs
theorem inv_stays (hp:Lg p af)(hv:Inv p af f){i:Nat}{g:Fa}(h:Tn p af f i g):Inv p af (upd f i g):=by
 obtain⟨i1,hi,hst⟩:=h.step
 have hr:=hv.rt;have rc:∀k,1≤k→MB p af f i→(k=i∨An p i k)→Rc p af f k:=fun k hk hm hc=>by
  rcases hc with rfl | ha
  ·exact hm.2.2
  ·exact rn_rc (rc_an hp i1 hi hm.2.2 ha) hk
 refine⟨rt_stays hr h,fun k k1 k2 ht=>?_,fun k k1 k2 ht hf a ha=>?_,fun k k1 k2 ht=>?_⟩
 ·have hin:=(hp.ok.inn k k1 k2).1;refine ff_stays hp hr h (by omega) ?_
  by_cases e:k=i
  ·subst e;rw[upd_same] at ht
   cases h with
   | start h=>exact absurd ht (by decide)
   | ok _ _=>exact absurd ht (by decide)
   | fail _ _=>exact absurd ht (by decide)
   | undo h=>exact h.2.2.1
   | undone _ _ _=>exact hv.undoing k k1 k2 ht
   | slip _ _ _ _=>exact hv.undoing k k1 k2 ht
  ·rw[upd_other e] at ht
   exact hv.undoing k k1 k2 ht
 ·have hin:=(hp.ok.inn k k1 k2).1;have hf0:¬FF p f (p.inn k) (p.alt k):=fun h9=>hf (ff_stays hp hr h (by omega) h9)
  obtain⟨b1,b2,b3,b4⟩:=hp.ons k k1 k2 a ha
  have hps:Ps p f a:=by
   rcases to_new hp hr h k2 ht with h9 | ⟨h8,h9⟩
   ·exact hv.behind k k1 k2 h9 hf0 a ha
   ·exact (rc k k1 h8 h9).2.2.2 a ha
  exact ps_stays hp hv h b1 b2 (by rw[b3,b4];exact hf0) hps
 ·obtain⟨c1,c2,c3⟩:=hp.ok.inn k k1 k2
  have hg:=at_grows hp hr h (by omega) c2
  rcases to_new hp hr h k2 ht with h9 | ⟨h8,h9⟩
  ·have:=hv.later k k1 k2 h9;omega
  ·have:=(rc k k1 h8 h9).2.1;omega
theorem inv_none (hp:Lg p af)(hf:∀i,i < p.n→f i=Fa.z):Inv p af f:=by
 have hnt:∀k,k < p.n→¬To p f k:=fun k hk=>by
  have:=(state_idle hp.ok hf _ k (jG _) hk).1;unfold To;rw[this]
  decide
 exact⟨⟨fun i hi=>by rw[hf i hi];exact okF_z,fun i hi _=>hf i hi⟩,fun i _ hi h=>by rw[hf i hi] at h;exact absurd h (by decide),fun i _ hi h=>absurd h (hnt i hi),fun i _ hi h=>absurd h (hnt i hi)⟩
theorem over_touched (hp:Lg p af)(hr:Rt p f):∀(d a:Nat),p.n - a≤d→a < p.n→(Dn p f a∨Sp p f a)→To p f a
 | 0,a,h1,h2,_=>by omega
 | d+1,a,h1,ha,h=>by
  cases hs:p.sub a with
  | false=>
   rcases h with h | h
   ·rw[dn_step ha hs] at h
    exact (to_step ha hs).2 (by omega)
   ·exact absurd h (sp_step ha hs)
  | true=>
   have hal:=hp.ok.alts a ha hs;rw[to_saga ha hs]
   rcases h with h | h
   ·obtain⟨_,n2⟩:=(dn_saga ha hs).1 h
    obtain⟨k,hk⟩:=hp.body a ha hs _ (at_spec hp.ok ha hs (f:=f)).1
    refine⟨k,hk.1,hk.2.1,hk.2.2.1,over_touched hp hr d k (by have:=hk.1;omega) hk.2.1 ?_⟩
    rcases n2 k hk with h9 | ⟨_,_,h9⟩
    ·exact .inl h9
    ·exact .inr h9
   ·obtain⟨hfl,_⟩:=(sp_saga ha hs).1 h 0 (by omega)
    rw[fl_iff] at hfl
    obtain⟨k,hk,hc⟩:=hfl
    refine⟨k,hk.1,hk.2.1,hk.2.2.1,?_⟩
    rcases hc with hc | ⟨_,_,hc⟩
    ·cases hks:p.sub k with
     | false=>exact (to_step hk.2.1 hks).2 (by omega)
     | true=>rw[hr.sub k hk.2.1 hks] at hc;exact absurd hc (by decide)
    ·exact over_touched hp hr d k (by have:=hk.1;omega) hk.2.1 (.inr hc)
theorem ps_touched (hp:Lg p af)(hr:Rt p f){a:Nat}(ha:a < p.n)(h:Ps p f a):To p f a:=by
 refine over_touched hp hr _ a (jG _) ha ?_
 rcases h with h | ⟨_,_,h⟩
 ·exact .inl h
 ·exact .inr h
theorem ex_max {P:Nat→Prop}(r:Nat→Nat):∀n,(∃k,k < n∧P k)→∃k,k < n∧P k∧∀j,j < n→P j→r j≤r k
 | 0,⟨k,hk,_⟩=>by omega
 | n+1,⟨k,hk,hP⟩=>by
  by_cases hb:∃k,k < n∧P k
  ·obtain⟨m,m1,m2,m3⟩:=ex_max r n hb
   by_cases hn:P n∧r m < r n
   ·refine⟨n,by omega,hn.1,fun j hj hPj=>?_⟩
    by_cases e:j=n
    ·subst e;exact jG _
    ·have:=m3 j (by omega) hPj;omega
   ·refine⟨m,by omega,m2,fun j hj hPj=>?_⟩
    by_cases e:j=n
    ·subst e
     apply Classical.byContradiction
     intro h9;exact hn ⟨hPj,by omega⟩
    ·exact m3 j (by omega) hPj
  ·have e:k=n:=by
    apply Classical.byContradiction
    intro h9;exact hb ⟨k,by omega,hP⟩
   subst e;refine⟨k,by omega,hP,fun j hj hPj=>?_⟩
   by_cases e:j=k
   ·subst e;exact jG _
   ·exact absurd ⟨j,by omega,hPj⟩ hb
theorem ex_min {P:Nat→Prop}(r:Nat→Nat)(n:Nat)(h:∃k,k < n∧P k):∃k,k < n∧P k∧∀j,j < n→P j→r k≤r j:=by
 obtain⟨k,k1,k2,k3⟩:=ex_max (P:=fun _=>True) r n (by obtain⟨k,hk,_⟩:=h;exact⟨k,hk,trivial⟩)
 obtain⟨m,m1,m2,m3⟩:=ex_max (P:=P) (fun j=>r k - r j) n h
 refine⟨m,m1,m2,fun j hj hPj=>?_⟩
 have a1:r k - r j≤r k - r m:=m3 j hj hPj;have a2:=k3 j hj trivial;have a3:=k3 m m1 trivial;omega
theorem ov_body (hp:Lg p af){r:Nat→Nat}(hrk:∀i,1≤i→i < p.n→∀a∈af i,r a < r i){i k:Nat}(h:Ov af i k):1≤k→k < p.n→(1≤i∧i < p.n)∧p.inn k=p.inn i∧p.alt k=p.alt i∧r i < r k:=by
 induction h with
 | @one k hk=>
  intro k1 k2;obtain⟨b1,b2,b3,b4⟩:=hp.ons k k1 k2 i hk
  exact⟨⟨b1,b2⟩,b3.symm,b4.symm,hrk k k1 k2 i hk⟩
 | @more k a hk ho ih=>
  intro k1 k2;obtain⟨b1,b2,b3,b4⟩:=hp.ons k k1 k2 a hk
  obtain⟨c0,c1,c2,c3⟩:=ih b1 b2
  have:=hrk k k1 k2 a hk;exact⟨c0,by rw[←b3];exact c1,by rw[←b4];exact c2,by omega⟩
theorem ov_ps (hp:Lg p af)(hv:Inv p af f){i k:Nat}(h:Ov af i k):1≤k→k < p.n→¬FF p f (p.inn k) (p.alt k)→To p f k→Ps p f i:=by
 induction h with
 | @one k hk=>
  intro k1 k2 k3 k4;exact hv.behind k k1 k2 k4 k3 i hk
 | @more k a hk ho ih=>
  intro k1 k2 k3 k4;obtain⟨b1,b2,b3,b4⟩:=hp.ons k k1 k2 a hk
  exact ih b1 b2 (by rw[b3,b4];exact k3) (ps_touched hp hv.rt b2 (hv.behind k k1 k2 k4 k3 a hk))
theorem an_inn {i t:Nat}(h:An p i t):t=p.inn i∨(1≤p.inn i∧An p (p.inn i) t):=by
 induction h with
 | one=>exact .inl rfl
 | @up s h hs ih=>
  rcases ih with rfl | ⟨h1,h2⟩
  ·exact .inr ⟨hs,.one⟩
  ·exact .inr ⟨h1,.up h2 hs⟩
def CC (p:Pl)(af:Nat→List Nat)(f:Nat→Fa)(s:Nat):Prop:=1≤s→Oc p af f s∧∀t,An p s t→1≤t→Oc p af f t
theorem CC.kid {i:Nat}(h:CC p af f (p.inn i)){t:Nat}(ha:An p i t)(ht:1≤t):Oc p af f t:=by
 rcases an_inn ha with rfl | ⟨h1,h2⟩
 ·exact (h ht).1
 ·exact (h h1).2 t h2 ht
theorem undo_goes (hp:Lg p af)(hr:Rt p f):∀(d s:Nat),p.n - s≤d→s < p.n→∀a,FF p f s a→(∃k,Kid p s a k∧¬Cl p f k)→CC p af f s→∃i,Op p f i∨MU p af f i
 | 0,s,h1,h2,_,_,_,_=>by omega
 | d+1,s,hd,hs,a,hff,hex,hcc=>by
  obtain⟨r,hrk⟩:=hp.rank
  obtain⟨i,hi,⟨hkid,hnc⟩,hmax⟩:=ex_max (P:=fun k=>Kid p s a k∧¬Cl p f k) r p.n (by obtain⟨k,hk,hc⟩:=hex;exact⟨k,hk.2.1,hk,hc⟩)
  obtain⟨c1,c2,c3,c4⟩:=hkid
  subst c3;subst c4;have i1:1≤i:=by omega
  have hoc:Oc p af f i:=fun k k1 k2 ho=>by
   apply Classical.byContradiction
   intro h9;obtain⟨_,b1,b2,b3⟩:=ov_body hp hrk ho k1 k2
   have hkl:=(hp.ok.inn k k1 k2).1;have:=hmax k k2 ⟨⟨by omega,k2,b1,b2⟩,h9⟩;omega
  cases hsub:p.sub i with
  | false=>
   rw[cl_step hi hsub] at hnc
   obtain⟨a1,a2,a3,a4,a5,a6,a7⟩:=hr.ok i hi
   have hun:(f i).un=false:=by
    cases hu:(f i).un with
    | false=>rfl
    | true=>exact absurd (.inr (.inr hu)) hnc
   by_cases hrun:(f i).run=1
   ·exact⟨i,.inl ⟨⟨i1,hi,hsub⟩,.inl hrun⟩⟩
   ·have h2:(f i).run=2:=by
     have:¬(f i).run=0:=fun h=>hnc (.inl h)
     have:¬(f i).run=3:=fun h=>hnc (.inr (.inl h))
     omega
    rcases a5 with a5 | a5
    ·exact⟨i,.inr ⟨⟨i1,hi,hsub⟩,⟨h2,hun,a5⟩,hff,hoc,fun t ht t1=>hcc.kid ht t1⟩⟩
    ·exact⟨i,.inl ⟨⟨i1,hi,hsub⟩,.inr ⟨a5,hun⟩⟩⟩
  | true=>
   have hex2:∃b,b < p.alts i∧¬Cs p f i b:=by
    apply Classical.byContradiction
    intro h9;refine hnc ((cl_saga hp.ok hi hsub).2 fun b hb=>?_)
    apply Classical.byContradiction
    intro h8;exact h9 ⟨b,hb,h8⟩
   obtain⟨b,hb,hncs⟩:=hex2
   have hex3:∃k,Kid p i b k∧¬Cl p f k:=by
    apply Classical.byContradiction
    intro h9;refine hncs fun k hk=>?_
    apply Classical.byContradiction
    intro h8;exact h9 ⟨k,hk,h8⟩
   exact undo_goes hp hr d i (by omega) hi b (.inr ((ha_eq hp.ok i1 hi).2 hff)) hex3 fun _=>⟨hoc,fun t ht t1=>hcc.kid ht t1⟩
theorem goes (hp:Lg p af)(hv:Inv p af f):∀(d s:Nat),p.n - s≤d→Rn p af f s→CC p af f s→∃i,Op p f i∨MB p af f i∨MU p af f i
 | 0,s,h1,h2,_=>by have:=(h2.lt hp).1;omega
 | d+1,s,hd,hrn,hcc=>by
  have hr:=hv.rt;obtain⟨hs,hsub,hnd,hns⟩:=hrn.lt hp
  by_cases hfl:Fl p f s (At p f s)
  ·have hex:∃k,Kid p s (At p f s) k∧¬Cl p f k:=by
    apply Classical.byContradiction
    intro h9;refine hns (at_spent hp.ok hs hsub hfl fun k hk=>?_)
    apply Classical.byContradiction
    intro h8;exact h9 ⟨k,hk,h8⟩
   obtain⟨i,hi⟩:=undo_goes hp hr _ s (jG _) hs _ (.inl hfl) hex hcc
   rcases hi with hi | hi
   ·exact⟨i,.inl hi⟩
   ·exact⟨i,.inr (.inr hi)⟩
  ·have hff:¬FF p f s (At p f s):=by
    rintro (h | h)
    ·exact hfl h
    ·exact hrn.free hp h
   have hex:∃k,Kid p s (At p f s) k∧¬Ps p f k:=by
    apply Classical.byContradiction
    intro h9;refine hnd ((dn_saga hs hsub).2 ⟨hns,fun k hk=>?_⟩)
    apply Classical.byContradiction
    intro h8;exact h9 ⟨k,hk,h8⟩
   obtain⟨r,hrk⟩:=hp.rank
   obtain⟨i,hi,⟨hkid,hnp⟩,hmin⟩:=ex_min (P:=fun k=>Kid p s (At p f s) k∧¬Ps p f k) r p.n (by obtain⟨k,hk,hc⟩:=hex;exact⟨k,hk.2.1,hk,hc⟩)
   obtain⟨c1,c2,c3,c4⟩:=hkid
   have i1:1≤i:=by omega
   have haf:∀a∈af i,Ps p f a:=fun a ha=>by
    apply Classical.byContradiction
    intro h9;obtain⟨b1,b2,b3,b4⟩:=hp.ons i i1 hi a ha
    have hal:=(hp.ok.inn a b1 b2).1;have:=hmin a b2 ⟨⟨by omega,b2,by rw[b3];exact c3,by rw[b4];exact c4⟩,h9⟩;have:=hrk i i1 hi a ha;omega
   have hrc:Rc p af f i:=⟨by rw[c3];exact hrn,by rw[c3];exact c4.symm,by rw[c3,c4];exact hff,haf⟩;cases hsi:p.sub i with
   | false=>
    obtain⟨a1,a2,a3,a4,a5,a6,a7⟩:=hr.ok i hi
    by_cases h0:(f i).run=0
    ·exact⟨i,.inr (.inl ⟨⟨i1,hi,hsi⟩,h0,hrc⟩)⟩
    ·by_cases h1:(f i).run=1
     ·exact⟨i,.inl ⟨⟨i1,hi,hsi⟩,.inl h1⟩⟩
     ·exfalso
      by_cases h3:(f i).run=3
      ·exact hfl (fl_iff.2 ⟨i,⟨c1,hi,c3,c4⟩,.inl h3⟩)
      ·have h2:(f i).run=2:=by omega
       by_cases ht:(f i).tries=0
       ·exact hnp (.inl ((dn_step hi hsi).2 ⟨h2,ht⟩))
       ·have:=hv.undoing i i1 hi (by omega);rw[c3,c4] at this
        exact hff this
   | true=>
    have hni:¬Dn p f i:=fun h=>hnp (.inl h)
    have hsi2:¬Sp p f i:=fun h=>by
     cases hvi:p.vital i with
     | false=>exact hnp (.inr ⟨hsi,hvi,h⟩)
     | true=>exact hfl (fl_iff.2 ⟨i,⟨c1,hi,c3,c4⟩,.inr ⟨hsi,hvi,h⟩⟩)
    have hrni:Rn p af f i:= .sub i1 hi hsi hni hsi2 hrc.1 hrc.2.1 hrc.2.2.1 hrc.2.2.2;have hoc:Oc p af f i:=fun k k1 k2 ho=>by
     obtain⟨_,b1,b2,_⟩:=ov_body hp hrk ho k1 k2
     have hnt:¬To p f k:=fun ht=>hnp (ov_ps hp hv ho k1 k2 (by rw[b1,b2,c3,c4];exact hff) ht)
     exact idle_clean hp.ok hr.ok _ k (jG _) k2 (by unfold To at hnt;simpa using hnt)
    refine goes hp hv d i (by omega) hrni fun _=>⟨hoc,fun t ht t1=>?_⟩
    have hcc':CC p af f (p.inn i):=by rw[c3];exact hcc
    exact hcc'.kid ht t1
theorem goes_on (hp:Lg p af)(hv:Inv p af f)(h1:¬Dn p f 0)(h2:¬Sp p f 0):∃i,Op p f i∨MB p af f i∨MU p af f i:=
 goes hp hv _ 0 (jG _) (.root h1 h2) (fun h=>by omega)
theorem an_root (hp:Lg p af){i:Nat}(h1:1≤i)(hi:i < p.n):An p i 0:=by
 have:∀s,s < i→An p i s→An p i 0:=by
  intro s
  induction s using Nat.strongRecOn with
  | _ s ih=>
   intro hs ha
   by_cases h0:s=0
   ·subst h0;exact ha
   ·have hl:=(hp.ok.inn s (by omega) (by omega)).1;exact ih _ hl (by omega) (.up ha (by omega))
 exact this _ (hp.ok.inn i h1 hi).1 .one
theorem ends_done (hp:Lg p af)(hv:Inv p af f)(h:Dn p f 0)(i:Nat):¬MB p af f i∧¬MU p af f i:=by
 refine⟨fun hm=>?_,fun hm=>?_⟩
 ·exact ((rc_an hp hm.1.1 hm.1.2.1 hm.2.2 (an_root hp hm.1.1 hm.1.2.1)).lt hp).2.2.1 h
 ·exact dn_still hp hv (.undo hm) _ 0 (jG _) (by have:=hp.ok.pos;omega) h ha_root (an_root hp hm.1.1 hm.1.2.1)
theorem ends_spent (hp:Lg p af)(hr:Rt p f)(h:Sp p f 0)(i:Nat):¬MB p af f i∧¬MU p af f i∧¬Op p f i∧(i < p.n→Cl p f i):=by
 have h0:0 < p.n:=by have:=hp.ok.pos;omega
 have hc:Cl p f 0:=spent_clean h0 hp.ok.root h;refine⟨fun hm=>?_,fun hm=>?_,fun hm=>?_,fun hi=>?_⟩
 ·exact sp_still hp hr (.start hm) h h0 (an_root hp hm.1.1 hm.1.2.1)
 ·exact sp_still hp hr (.undo hm) h h0 (an_root hp hm.1.1 hm.1.2.1)
 ·exact hm.not_clean hr (an_clean hp.ok hm.1.1 hm.1.2.1 (an_root hp hm.1.1 hm.1.2.1) hc)
 ·by_cases e:i=0
  ·subst e;exact hc
  ·exact an_clean hp.ok (by omega) hi (an_root hp (by omega) hi) hc
end Go.Proofs.YtieoppabellafaaGreatDoor.St
namespace Go.Proofs.YtieoppabellafaaGreatDoor.St
open Fc
variable {p:Pl}{af:Nat→List Nat}{f:Nat→Fa}
def Busy (g:Fa):Prop:=¬g.run=0∧¬g.run=3∧g.un=false
theorem cl_back (hp:p.Ok){i:Nat}{g:Fa}(hg:Busy g)(hst:p.sub i=false):∀(d k:Nat),p.n - k≤d→k < p.n→Cl p (upd f i g) k→Cl p f k
 | 0,k,h1,h2,_=>by omega
 | d+1,k,h1,hk,hc=>by
  cases hs:p.sub k with
  | false=>
   rw[cl_step hk hs] at hc ⊢
   by_cases e:k=i
   ·subst e;rw[upd_same] at hc
    rcases hc with h | h | h
    ·exact absurd h hg.1
    ·exact absurd h hg.2.1
    ·rw[hg.2.2] at h;cases h
   ·rw[upd_other e] at hc
    exact hc
  | true=>
   rw[cl_saga hp hk hs] at hc ⊢
   intro a ha j hj;exact cl_back hp hg hst d j (by have:=hj.1;omega) hj.2.1 (hc a ha j hj)
theorem sp_back (hp:p.Ok){i:Nat}{g:Fa}(hg:Busy g)(hst:p.sub i=false):∀(d k:Nat),p.n - k≤d→k < p.n→Sp p (upd f i g) k→Sp p f k
 | 0,k,h1,h2,_=>by omega
 | d+1,k,h1,hk,hc=>by
  cases hs:p.sub k with
  | false=>exact absurd hc (sp_step hk hs)
  | true=>
   rw[sp_saga hk hs] at hc ⊢
   intro a ha;obtain⟨c1,c2⟩:=hc a ha
   refine⟨?_,fun j hj=>cl_back hp hg hst _ j (jG _) hj.2.1 (c2 j hj)⟩
   rw[fl_iff] at c1 ⊢
   obtain⟨j,hj,hh⟩:=c1
   refine⟨j,hj,?_⟩
   rcases hh with hh | ⟨h3,h4,h5⟩
   ·by_cases e:j=i
    ·subst e;rw[upd_same] at hh;exact absurd hh hg.2.1
    ·rw[upd_other e] at hh;exact .inl hh
   ·exact .inr ⟨h3,h4,sp_back hp hg hst d j (by have:=hj.1;omega) hj.2.1 h5⟩
theorem fl_back (hp:p.Ok){i s a:Nat}{g:Fa}(hg:Busy g)(hst:p.sub i=false)(h:Fl p (upd f i g) s a):Fl p f s a:=by
 rw[fl_iff] at h ⊢
 obtain⟨j,hj,hh⟩:=h
 refine⟨j,hj,?_⟩
 rcases hh with hh | ⟨h3,h4,h5⟩
 ·by_cases e:j=i
  ·subst e;rw[upd_same] at hh;exact absurd hh hg.2.1
  ·rw[upd_other e] at hh;exact .inl hh
 ·exact .inr ⟨h3,h4,sp_back hp hg hst _ j (jG _) hj.2.1 h5⟩
theorem ha_back (hp:p.Ok){i:Nat}{g:Fa}(hg:Busy g)(hst:p.sub i=false):∀s,s < p.n→Ha p (upd f i g) s→Ha p f s:=by
 intro s
 induction s using Nat.strongRecOn with
 | _ s ih=>
  intro hs hh
  by_cases h0:s=0
  ·subst h0;exact absurd hh ha_root
  ·have hl:=(hp.inn s (by omega) hs).1;rw[ha_eq hp (by omega) hs] at hh ⊢
   rcases hh with hh | hh
   ·exact .inl (fl_back hp hg hst hh)
   ·exact .inr (ih _ hl (by omega) hh)
theorem ff_back (hp:p.Ok){i s a:Nat}{g:Fa}(hg:Busy g)(hst:p.sub i=false)(hs:s < p.n)(h:FF p (upd f i g) s a):FF p f s a:=by
 rcases h with h | h
 ·exact .inl (fl_back hp hg hst h)
 ·exact .inr (ha_back hp hg hst s hs h)
theorem at_same (hp:Lg p af)(hr:Rt p f){i s:Nat}{g:Fa}(h:Tn p af f i g)(hg:Busy g)(hs:s < p.n)(hsub:p.sub s=true):At p (upd f i g) s=At p f s:=by
 have h1:=at_grows hp hr h hs hsub;have hst:=h.step.2.2
 apply Classical.byContradiction
 intro hne;obtain⟨b1,b2,b3⟩:=at_spec hp.ok hs hsub (f:=f)
 obtain⟨c1,c2,c3⟩:=at_spec hp.ok hs hsub (f:=upd f i g)
 obtain⟨d1,d2⟩:=c2 (At p f s) (by omega)
 exact b3 (by omega) ⟨fl_back hp.ok hg hst d1,fun k hk=>cl_back hp.ok hg hst _ k (jG _) hk.2.1 (d2 k hk)⟩
theorem mb_stays (hp:Lg p af)(hv:Inv p af f){i j:Nat}{g:Fa}(h:Tn p af f i g)(hg:Busy g)(hji:j≠i)(hm:MB p af f j):MB p af (upd f i g) j:=by
 obtain⟨i1,hi,hst⟩:=h.step
 obtain⟨⟨j1,hj,hjs⟩,hrun,hrc⟩:=hm
 have hr:=hv.rt;have hf':upd f i g j=f j:=upd_other hji;have hnd:∀s,An p j s→¬Dn p (upd f i g) s:=by
  intro s ha
  induction ha with
  | one=>
   obtain⟨a1,a2,a3⟩:=hp.ok.inn j j1 hj
   intro hd;have hps:=((dn_saga (by omega) a2).1 hd).2 j ⟨a1,hj,rfl,by rw[at_same hp hr h hg (by omega) a2];exact hrc.2.1.symm⟩
   rcases hps with h9 | ⟨h9,_⟩
   ·rw[dn_step hj hjs,hf'] at h9;omega
   ·rw[hjs] at h9;cases h9
  | @up c hc hc1 ih=>
   have hcl:=hc.lt hp.ok j1 hj;obtain⟨a1,a2,a3⟩:=hp.ok.inn c hc1 (by omega)
   have hrn:=rc_an hp j1 hj hrc hc;intro hd;have hps:=((dn_saga (by omega) a2).1 hd).2 c ⟨a1,by omega,rfl,by rw[at_same hp hr h hg (by omega) a2];exact (rn_rc hrn hc1).2.1.symm⟩
   rcases hps with h9 | ⟨_,_,h9⟩
   ·exact ih h9
   ·exact (hrn.lt hp).2.2.2 (sp_back hp.ok hg hst _ c (jG _) (by omega) h9)
 have hpass:∀k,1≤k→k < p.n→¬FF p f (p.inn k) (p.alt k)→(∀a∈af k,Ps p f a)→∀a∈af k,Ps p (upd f i g) a:=fun k k1 k2 hff hall a ha=>by
  obtain⟨b1,b2,b3,b4⟩:=hp.ons k k1 k2 a ha
  exact ps_stays hp hv h b1 b2 (by rw[b3,b4];exact hff) (hall a ha)
 have hrn:∀s,Rn p af f s→An p j s→Rn p af (upd f i g) s:=by
  intro s hs
  induction hs with
  | root h1 h2=>exact fun ha=> .root (hnd 0 ha) (fun h9=>h2 (sp_back hp.ok hg hst _ 0 (jG _) (by have:=hp.ok.pos;omega) h9))
  | @sub s h1 h2 h3 h4 h5 h6 h7 h8 h9 ih=>
   intro ha;obtain⟨a1,a2,a3⟩:=hp.ok.inn s h1 h2
   exact .sub h1 h2 h3 (hnd s ha) (fun hx=>h5 (sp_back hp.ok hg hst _ s (jG _) h2 hx)) (ih (.up ha h1)) (by rw[at_same hp hr h hg (by omega) a2];exact h7) (fun hx=>h8 (ff_back hp.ok hg hst (by omega) hx)) (hpass s h1 h2 h8 h9)
 obtain⟨a1,a2,a3⟩:=hp.ok.inn j j1 hj
 refine⟨⟨j1,hj,hjs⟩,by rw[hf'];exact hrun,hrn _ hrc.1 .one,by rw[at_same hp hr h hg (by omega) a2];exact hrc.2.1,fun hx=>hrc.2.2.1 (ff_back hp.ok hg hst (by omega) hx),hpass j j1 hj hrc.2.2.1 hrc.2.2.2⟩
theorem mu_stays (hp:Lg p af)(hv:Inv p af f){i j:Nat}{g:Fa}(h:Tn p af f i g)(hji:j≠i)(hm:MU p af f j)(hc:∀t k,(t=j∨(An p j t∧1≤t))→1≤k→k < p.n→Ov af t k→¬(k=i∨An p i k)):MU p af (upd f i g) j:=by
 obtain⟨⟨j1,hj,hjs⟩,hrun,hff,hoc,han⟩:=hm
 have hf':upd f i g j=f j:=upd_other hji;have key:∀t,(t=j∨(An p j t∧1≤t))→Oc p af f t→Oc p af (upd f i g) t:=fun t ht ho k k1 k2 hk=>by
  have hn:=hc t k ht k1 k2 hk;unfold Cl;rw[W_far _ k (jG _) k2 (fun e=>hn (.inl e)) (fun e=>hn (.inr e))]
  exact ho k k1 k2 hk
 have hin:=(hp.ok.inn j j1 hj).1;refine⟨⟨j1,hj,hjs⟩,by rw[hf'];exact hrun,ff_stays hp hv.rt h (by omega) hff,key j (.inl rfl) hoc,fun s hs s1=>key s (.inr ⟨hs,s1⟩) (han s hs s1)⟩
theorem apart_start (hp:Lg p af)(hv:Inv p af f){i j:Nat}(hi:MB p af f i)(hji:j≠i) :
  (MB p af f j→MB p af (upd f i ⟨1,0,0,false⟩) j)∧(MU p af f j→MU p af (upd f i ⟨1,0,0,false⟩) j):=by
 have h:Tn p af f i ⟨1,0,0,false⟩:= .start hi;refine⟨mb_stays hp hv h ⟨by decide,by decide,rfl⟩ hji,fun hm=>mu_stays hp hv h hji hm ?_⟩
 obtain⟨r,hrk⟩:=hp.rank
 intro t k ht k1 k2 ho hki;have hrc:Rc p af f k:=by
  rcases hki with rfl | ha
  ·exact hi.2.2
  ·exact rn_rc (rc_an hp hi.1.1 hi.1.2.1 hi.2.2 ha) k1
 obtain⟨⟨t1,t2⟩,b1,b2,_⟩:=ov_body hp hrk ho k1 k2
 have hnf:¬FF p f (p.inn t) (p.alt t):=by rw[←b1,←b2];exact hrc.2.2.1
 rcases ht with rfl | ⟨ha,_⟩
 ·exact hnf hm.2.2.1
 ·have hps:Ps p f t:=by
   cases ho with
   | one ho=>exact hrc.2.2.2 t ho
   | @more _ a hk ho=>
    obtain⟨c1,c2,c3,c4⟩:=hp.ons k k1 k2 a hk
    exact ov_ps hp hv ho c1 c2 (by rw[c3,c4];exact hrc.2.2.1) (ps_touched hp hv.rt c2 (hrc.2.2.2 a hk))
  rcases hps with h9 | ⟨_,_,h9⟩
  ·exact dn_still hp hv (.undo hm) _ t (jG _) t2 h9 (fun h8=>hnf ((ha_eq hp.ok t1 t2).1 h8)) ha
  ·exact sp_still hp hv.rt (.undo hm) h9 t2 ha
theorem not_in_clean (hp:Lg p af){i k:Nat}(i1:1≤i)(hi:i < p.n)(hn:¬Cl p f i)(hc:Cl p f k):¬(k=i∨An p i k):=by
 rintro (rfl | ha)
 ·exact hn hc
 ·exact hn (an_clean hp.ok i1 hi ha hc)
theorem mu_busy (hp:Lg p af)(hv:Inv p af f){i j:Nat}{g:Fa}(h:Tn p af f i g)(hn:¬Cl p f i)(hji:j≠i)(hm:MU p af f j):MU p af (upd f i g) j:=by
 obtain⟨i1,hi,_⟩:=h.step
 refine mu_stays hp hv h hji hm fun t k ht k1 k2 ho=>?_
 refine not_in_clean hp i1 hi hn ?_
 rcases ht with rfl | ⟨ha,t1⟩
 ·exact hm.2.2.2.1 k k1 k2 ho
 ·exact hm.2.2.2.2 t ha t1 k k1 k2 ho
theorem apart_undo (hp:Lg p af)(hv:Inv p af f){i j:Nat}(hi:MU p af f i)(hji:j≠i) :
  (MB p af f j→MB p af (upd f i ⟨2,(f i).tries+1,(f i).slips,false⟩) j)∧(MU p af f j→MU p af (upd f i ⟨2,(f i).tries+1,(f i).slips,false⟩) j):=by
 have h:Tn p af f i ⟨2,(f i).tries+1,(f i).slips,false⟩:= .undo hi;exact⟨mb_stays hp hv h ⟨(by decide:¬(2:Int)=0),(by decide:¬(2:Int)=3),rfl⟩ hji,mu_busy hp hv h hi.not_clean hji⟩
theorem apart_ok (hp:Lg p af)(hv:Inv p af f){i j:Nat}(hi:Op p f i)(hrun:(f i).run=1) :
  (MB p af f j→MB p af (upd f i ⟨2,0,0,false⟩) j)∧(MU p af f j→MU p af (upd f i ⟨2,0,0,false⟩) j):=by
 have h:Tn p af f i ⟨2,0,0,false⟩:= .ok hi hrun;refine⟨fun hm=>mb_stays hp hv h ⟨by decide,by decide,rfl⟩ (fun e=>?_) hm,fun hm=>mu_busy hp hv h (hi.not_clean hv.rt) (fun e=>?_) hm⟩
 ·subst e;have:=hm.2.1;omega
 ·subst e;have:=hm.2.1.1;omega
end Go.Proofs.YtieoppabellafaaGreatDoor.St
namespace Go.Proofs.YtieoppabellafaaGreatDoor.St
open Fc Sx Sa
theorem chk_facts {its:List It}{l:List Fa}(hc:chkF its l=0):(∃q,sagaP its=some q)∧l.length=its.length∧okL (subs its) l:=by
 obtain⟨h1,h2⟩:=chkF_iff.1 hc
 refine⟨Option.isSome_iff_exists.1 h1,?_,h2⟩
 have:=h2.1;unfold subs at this;rw[zG] at this
 exact this
theorem lg_of {its:List It}{l:List Fa}(hc:chkF its l=0):Lg (plOf its) (afOf its):=by
 obtain⟨⟨q,hq⟩,_⟩:=chk_facts hc
 exact plan_leans hq
theorem rt_of {its:List It}{l:List Fa}(hc:chkF its l=0):Rt (plOf its) (fOf l):=by
 obtain⟨_,hl,h2⟩:=chk_facts hc
 refine⟨fun i hi=>(h2.2 i (by rw[hl];exact hi)).1,fun i hi hs=>(h2.2 i (by rw[hl];exact hi)).2 ?_⟩
 obtain⟨x,hx⟩:∃x,its[i]? =some x:=⟨_,jF hi⟩
 rw[subs_getD hx]
 have:(its.getD i It.z).sub=true:=hs;rw[getD_it hx] at this
 exact this
open Classical in
noncomputable def mayK (its:List It)(l:List Fa)(i:Nat):List (Nat × Bool × Int):=
 (if MB (plOf its) (afOf its) (fOf l) i then [(i,false,0)] else []) ++ (if MU (plOf its) (afOf its) (fOf l) i then [(i,true,(fOf l i).slips)] else [])
noncomputable def mayL (its:List It)(l:List Fa):List (Nat × Bool × Int):=if chkF its l=0 then (List.range its.length).flatMap (mayK its l) else []
noncomputable def openL (its:List It)(l:List Fa):List (Nat × Bool × Int):=if chkF its l=0 then opG 0 l else []
theorem mayK_iff {its:List It}{l:List Fa}{i j:Nat}{u:Bool}{t:Int} :(j,u,t)∈mayK its l i↔j=i∧((u=false∧t=0∧MB (plOf its) (afOf its) (fOf l) i)∨(u=true∧t=(fOf l i).slips∧MU (plOf its) (afOf its) (fOf l) i)):=by
 unfold mayK;rw[jX]
 constructor
 ·rintro (h | h)
  ·split at h
   ·rename_i hm
    simp at h;exact⟨h.1,.inl ⟨h.2.1,h.2.2,hm⟩⟩
   ·cases h
  ·split at h
   ·rename_i hm
    simp at h;exact⟨h.1,.inr ⟨h.2.1,h.2.2,hm⟩⟩
   ·cases h
 ·rintro⟨rfl,⟨rfl,rfl,h⟩ | ⟨rfl,rfl,h⟩⟩
  ·rw[if_pos h];simp
  ·right;rw[if_pos h];simp
theorem may_iff {its:List It}{l:List Fa}{i:Nat}{u:Bool}{t:Int} :(i,u,t)∈mayL its l↔chkF its l=0∧((u=false∧t=0∧MB (plOf its) (afOf its) (fOf l) i)∨(u=true∧t=(fOf l i).slips∧MU (plOf its) (afOf its) (fOf l) i)):=by
 unfold mayL
 by_cases hc:chkF its l=0
 ·rw[if_pos hc,List.mem_flatMap]
  constructor
  ·rintro⟨k,hk,h⟩
   obtain⟨rfl,h⟩:=mayK_iff.1 h
   exact⟨hc,h⟩
  ·rintro⟨_,h⟩
   refine⟨i,zB.2 ?_,mayK_iff.2 ⟨rfl,h⟩⟩
   rcases h with ⟨_,_,h⟩ | ⟨_,_,h⟩
   ·exact h.1.2.1
   ·exact h.1.2.1
 ·rw[if_neg hc]
  constructor
  ·intro h;cases h
  ·rintro⟨h,_⟩;exact absurd h hc
theorem may_step {its:List It}{l:List Fa}{i:Nat}{u:Bool}{t:Int}(h:(i,u,t)∈mayL its l):1≤i∧i < its.length∧(plOf its).sub i=false:=by
 rcases (may_iff.1 h).2 with ⟨_,_,h⟩ | ⟨_,_,h⟩
 ·exact h.1
 ·exact h.1
theorem may_one {its:List It}{l:List Fa}{i:Nat}{u u':Bool}{t t':Int}(h:(i,u,t)∈mayL its l)(h':(i,u',t')∈mayL its l):u=u'∧t=t':=by
 rcases (may_iff.1 h).2 with ⟨rfl,rfl,h1⟩ | ⟨rfl,rfl,h1⟩ <;> rcases (may_iff.1 h').2 with ⟨rfl,rfl,h2⟩ | ⟨rfl,rfl,h2⟩
 ·exact⟨rfl,rfl⟩
 ·have e1:=h1.2.1;have e2:=h2.2.1.1;rw[e1] at e2;exact absurd e2 (by decide)
 ·have e1:=h1.2.1.1;have e2:=h2.2.1;rw[e1] at e2;exact absurd e2 (by decide)
 ·exact⟨rfl,rfl⟩
theorem fOf_set {l:List Fa}{i:Nat}(hi:i < l.length)(g:Fa):fOf (l.set i g)=upd (fOf l) i g:=by
 funext k
 unfold fOf upd;rw[getD_set hi]
 by_cases h:k=i
 ·subst h;rw[if_pos rfl]
 ·rw[if_neg (fun e=>h e.symm),if_neg h]
def begF (f:Fa)(u:Bool):Fa:=if u then ⟨2,f.tries+1,f.slips,false⟩ else ⟨1,0,0,false⟩
def endF (f:Fa)(u ok:Bool):Fa:=if u then (if ok then ⟨2,f.tries,f.slips,true⟩ else ⟨2,f.tries,f.slips+1,false⟩) else (if ok then ⟨2,0,0,false⟩ else ⟨3,0,0,false⟩)
theorem beg_tn {its:List It}{l:List Fa}{i:Nat}{u:Bool}{t:Int}(h:(i,u,t)∈mayL its l):Tn (plOf its) (afOf its) (fOf l) i (begF (fOf l i) u):=by
 rcases (may_iff.1 h).2 with ⟨rfl,rfl,h9⟩ | ⟨rfl,rfl,h9⟩
 ·exact .start h9
 ·exact .undo h9
theorem beg_does {its:List It}{l:List Fa}{i:Nat}{u:Bool}{t:Int}(h:(i,u,t)∈mayL its l):does (subs its) l (if u then 4 else 1) t i=some (l.set i (begF (fOf l i) u)):=by
 obtain⟨hc,h'⟩:=may_iff.1 h
 obtain⟨_,hl,hok⟩:=chk_facts hc
 obtain⟨s1,s2,s3⟩:=may_step h
 obtain⟨x,hx⟩:∃x,its[i]? =some x:=⟨_,jF s2⟩
 have hsub:(subs its).getD i true=false:=by
  rw[subs_getD hx]
  have:(its.getD i It.z).sub=false:=s3;rw[getD_it hx] at this
  exact this
 unfold does;rw[if_pos ⟨s1,by omega,hsub⟩]
 rcases h' with ⟨rfl,rfl,h9⟩ | ⟨rfl,rfl,h9⟩
 ·have hr:(l.getD i Fa.z).run=0:=h9.2.1;show (fit 1 0 (l.getD i Fa.z)).map _=_;unfold fit begF;rw[if_pos rfl,if_pos hr]
  rfl
 ·obtain⟨h1,h2,h3⟩:=h9.2.1
  have h1':(l.getD i Fa.z).run=2:=h1;have h2':(l.getD i Fa.z).un=false:=h2;have h3':(l.getD i Fa.z).tries=(l.getD i Fa.z).slips:=h3;show (fit 4 (l.getD i Fa.z).slips (l.getD i Fa.z)).map _=_;unfold fit begF;rw[if_neg (by decide),if_neg (by decide),if_neg (by decide),if_pos rfl,if_pos ⟨h1',h2',h3',rfl⟩]
  rfl
structure Good (its:List It)(l:List Fa):Prop where
 chk:chkF its l=0
 inv:Inv (plOf its) (afOf its) (fOf l)
theorem Good.len {its:List It}{l:List Fa}(h:Good its l):l.length=its.length:=(chk_facts h.chk).2.1
theorem good_none {its:List It}(h:(sagaP its).isSome=true):Good its (List.replicate its.length Fa.z):=by
 have hok:okL (subs its) (List.replicate its.length Fa.z):=by
  refine⟨by unfold subs;rw[zG,List.length_replicate],fun i hi=>?_⟩
  have:(List.replicate its.length Fa.z).getD i Fa.z=Fa.z:=by rw[jU,List.getElem?_replicate];split <;> rfl
  rw[this]
  exact⟨okF_z,fun _=>rfl⟩
 have hc:=chkF_ok h hok;refine⟨hc,inv_none (lg_of hc) fun i hi=>?_⟩
 unfold fOf;rw[jU,List.getElem?_replicate]
 split <;> rfl
theorem good_next {its:List It}{l m:List Fa}{i:Nat}{g:Fa}{k t:Int}(h:Good its l)(hd:does (subs its) l k t i=some m)(hm:m=l.set i g)(hi:i < l.length)(ht:Tn (plOf its) (afOf its) (fOf l) i g):Good its m:=by
 obtain⟨⟨q,hq⟩,_,hok⟩:=chk_facts h.chk
 refine⟨chkF_ok (by rw[hq];rfl) (does_right hok hd).1,?_⟩
 rw[hm,fOf_set hi]
 exact inv_stays (lg_of h.chk) h.inv ht
theorem beg_good {its:List It}{l:List Fa}(h:Good its l){i:Nat}{u:Bool}{t:Int}(hk:(i,u,t)∈mayL its l):Good its (l.set i (begF (fOf l i) u)):=
 good_next h (beg_does hk) rfl (by have:=(may_step hk).2.1;have:=h.len;omega) (beg_tn hk)
theorem opG_in:∀{l:List Fa} {s i:Nat} {f:Fa} {x:Nat × Bool × Int},l[i]? =some f→x∈opF (s+i) f→x∈opG s l
 | a :: r,s,0,f,x,h,hx=>by
  simp only[zA,Option.some.injEq] at h;subst h;rw[opG,jX]
  exact .inl hx
 | a :: r,s,i+1,f,x,h,hx=>by
  simp only[jZ] at h;rw[opG,jX]
  exact .inr (opG_in h (by rw[show s+1+i=s+ (i+1) by omega];exact hx))
theorem open_iff {its:List It}{l:List Fa}{i:Nat}{u:Bool}{t:Int} :(i,u,t)∈openL its l↔chkF its l=0∧Op (plOf its) (fOf l) i∧((u=false∧t=0∧(fOf l i).run=1)∨(u=true∧t=(fOf l i).slips∧(fOf l i).tries=(fOf l i).slips+1∧(fOf l i).un=false)):=by
 unfold openL
 by_cases hc:chkF its l=0
 rotate_left
 ·rw[if_neg hc]
  constructor
  ·intro h;cases h
  ·rintro⟨h,_⟩;exact absurd h hc
 rw[if_pos hc]
 obtain⟨⟨q,hq⟩,hl,hok⟩:=chk_facts hc
 have h0:(subs its).getD 0 true=true:=by
  obtain⟨r,r0,r1,_⟩:=(plan_items hq).1
  rw[subs_getD r0]
  exact r1
 constructor
 ·intro h;obtain⟨i',f,e1,i1,i2,hsub,hg,hf,ho,_,hc'⟩:=open_at hok h0 h
  obtain rfl:i=i':=e1;have hfo:fOf l i=f:=fOf_at hf;have hs:(plOf its).sub i=false:=by
   obtain⟨x,hx⟩:∃x,its[i]? =some x:=⟨_,jF (by omega)⟩
   show (its.getD i It.z).sub=false;rw[getD_it hx]
   rw[subs_getD hx] at hsub
   exact hsub
  refine⟨hc,⟨⟨i1,by show i < its.length;omega,hs⟩,?_⟩,?_⟩
  ·rw[hfo]
   rcases hc' with ⟨_,h1,_⟩ | ⟨_,_,h2,h3⟩
   ·exact .inl h1
   ·exact .inr ⟨h2,h3⟩
  ·rw[hfo]
   rcases hc' with ⟨e,h1,_⟩ | ⟨e,_,h2,h3⟩
   ·simp only[Prod.mk.injEq,true_and] at e;exact .inl ⟨e.1,e.2,h1⟩
   ·simp only[Prod.mk.injEq,true_and] at e;exact .inr ⟨e.1,e.2,h2,h3⟩
 ·rintro⟨_,⟨⟨i1,i2,_⟩,_⟩,h⟩
  obtain⟨f,hf⟩:∃f,l[i]? =some f:=⟨_,jF (by rw[hl];exact i2)⟩
  rw[fOf_at hf] at h
  refine opG_in hf ?_;rw[zD]
  unfold opF;rw[jX]
  rcases h with ⟨rfl,rfl,h⟩ | ⟨rfl,rfl,h2,h3⟩
  ·left;rw[if_pos h];simp
  ·right;rw[if_pos ⟨by omega,h3⟩];simp
theorem end_tn {its:List It}{l:List Fa}{i:Nat}{u ok:Bool}{t:Int}(h:(i,u,t)∈openL its l)(h3:u=true→ok=false→t≠3):Tn (plOf its) (afOf its) (fOf l) i (endF (fOf l i) u ok):=by
 obtain⟨hc,ho,h'⟩:=open_iff.1 h
 have hr:=(rt_of hc).ok i ho.1.2.1
 rcases h' with ⟨rfl,rfl,h1⟩ | ⟨rfl,rfl,h1,h2⟩
 ·cases ok with
  | true=>exact .ok ho h1
  | false=>exact .fail ho h1
 ·cases ok with
  | true=>exact .undone ho h1 h2
  | false=>
   have:=h3 rfl rfl;obtain⟨a1,a2,a3,a4,_⟩:=hr
   exact .slip ho h1 h2 (by omega)
def endE (u ok:Bool):Int:=if u then (if ok then 5 else 6) else (if ok then 2 else 3)
theorem end_does {its:List It}{l:List Fa}{i:Nat}{u ok:Bool}{t:Int}(h:(i,u,t)∈openL its l)(h3:u=true→ok=false→t≠3):does (subs its) l (endE u ok) t i=some (l.set i (endF (fOf l i) u ok)):=by
 obtain⟨hc,ho,h'⟩:=open_iff.1 h
 obtain⟨_,hl,hok⟩:=chk_facts hc
 obtain⟨s1,s2,s3⟩:=ho.1
 obtain⟨x,hx⟩:∃x,its[i]? =some x:=⟨_,jF s2⟩
 have hsub:(subs its).getD i true=false:=by
  rw[subs_getD hx]
  have:(its.getD i It.z).sub=false:=s3;rw[getD_it hx] at this
  exact this
 have hr:=(rt_of hc).ok i s2;unfold does;rw[if_pos ⟨s1,by rw[hl];exact s2,hsub⟩]
 have e:fOf l i=l.getD i Fa.z:=rfl
 rcases h' with ⟨rfl,rfl,h1⟩ | ⟨rfl,rfl,h1,h2⟩
 ·rw[e] at h1
  cases ok with
  | true=>
   have:fit 2 0 (l.getD i Fa.z)=some ⟨2,0,0,false⟩:=by unfold fit;rw[if_neg (by decide),if_pos rfl,if_pos h1]
   show (fit 2 0 (l.getD i Fa.z)).map _=_;rw[this]
   rfl
  | false=>
   have:fit 3 0 (l.getD i Fa.z)=some ⟨3,0,0,false⟩:=by unfold fit;rw[if_neg (by decide),if_neg (by decide),if_pos rfl,if_pos h1]
   show (fit 3 0 (l.getD i Fa.z)).map _=_;rw[this]
   rfl
 ·rw[e] at h1 h2 hr h3 ⊢
  cases ok with
  | true=>
   have:fit 5 (l.getD i Fa.z).slips (l.getD i Fa.z)=some ⟨2,(l.getD i Fa.z).tries,(l.getD i Fa.z).slips,true⟩:=by unfold fit;rw[if_neg (by decide),if_neg (by decide),if_neg (by decide),if_neg (by decide),if_pos rfl,if_pos ⟨h1,h2,rfl⟩]
   show (fit 5 (l.getD i Fa.z).slips (l.getD i Fa.z)).map _=_;rw[this]
   rfl
  | false=>
   have h9:=h3 rfl rfl;have h4:(l.getD i Fa.z).slips < 3:=by obtain⟨a1,a2,a3,a4,_⟩:=hr;omega
   have:fit 6 (l.getD i Fa.z).slips (l.getD i Fa.z)=some ⟨2,(l.getD i Fa.z).tries,(l.getD i Fa.z).slips+1,false⟩:=by unfold fit;rw[if_neg (by decide),if_neg (by decide),if_neg (by decide),if_neg (by decide),if_neg (by decide),if_pos rfl,if_pos ⟨h1,h2,rfl,h4⟩]
   show (fit 6 (l.getD i Fa.z).slips (l.getD i Fa.z)).map _=_;rw[this]
   rfl
theorem end_good {its:List It}{l:List Fa}(h:Good its l){i:Nat}{u ok:Bool}{t:Int}(hk:(i,u,t)∈openL its l)(h3:u=true→ok=false→t≠3):Good its (l.set i (endF (fOf l i) u ok)):=
 good_next h (end_does hk h3) rfl (by have:=(open_iff.1 hk).2.1.1.2.1;have h9:=h.len;rw[h9];exact this) (end_tn hk h3)
end Go.Proofs.YtieoppabellafaaGreatDoor.St
namespace Go.Proofs.YtieoppabellafaaGreatDoor.St
open Fc Sx Sa
open Classical in
theorem ver_eq {its:List It}{l:List Fa}(hc:chkF its l=0):verS its l=if Dn (plOf its) (fOf l) 0 then 2 else if Sp (plOf its) (fOf l) 0 then 3 else 1:=by
 have hp:=lg_of hc;have hr:=rt_of hc;have h0:0 < (plOf its).n:=by have:=hp.ok.pos;omega
 have hS:St.S (plOf its) (fOf l) 0=sagaS (W (plOf its) (fOf l) 0) false:=by
  unfold St.S;rw[if_pos hp.ok.root,halted_root]
 unfold verS;rw[if_pos hc,hS]
 unfold sagaS
 by_cases ht:(W (plOf its) (fOf l) 0).touched=false
 ·have hn:¬(Dn (plOf its) (fOf l) 0∨Sp (plOf its) (fOf l) 0):=fun h=>by
   have h9:=over_touched hp hr _ 0 (jG _) h0 h;unfold To at h9;rw[ht] at h9
   cases h9
  rw[if_pos ht,if_pos rfl,if_neg (fun h=>hn (.inl h)),if_neg (fun h=>hn (.inr h))]
 ·rw[if_neg ht]
  by_cases hd:(W (plOf its) (fOf l) 0).done=true
  ·rw[if_pos hd,if_neg (by decide),if_pos (show Dn (plOf its) (fOf l) 0 from hd)]
  ·rw[if_neg hd,if_neg (show ¬Dn (plOf its) (fOf l) 0 from hd)]
   by_cases hs:(W (plOf its) (fOf l) 0).spent=true
   ·rw[if_pos hs,if_neg (by decide),if_pos (show Sp (plOf its) (fOf l) 0 from hs)]
   ·rw[if_neg hs,if_neg (show ¬Sp (plOf its) (fOf l) 0 from hs)]
    rfl
theorem may_none {its:List It}{l:List Fa}(h:∀i,¬MB (plOf its) (afOf its) (fOf l) i∧¬MU (plOf its) (afOf its) (fOf l) i):mayL its l=[]:=by
 refine List.eq_nil_iff_forall_not_mem.2 ?_;rintro⟨i,u,t⟩ hm
 rcases (may_iff.1 hm).2 with ⟨_,_,h9⟩ | ⟨_,_,h9⟩
 ·exact (h i).1 h9
 ·exact (h i).2 h9
theorem task_goes {its:List It}{l:List Fa}(h:Good its l) :
  (verS its l=1→mayL its l≠[]∨openL its l≠[])∧(verS its l=3→mayL its l=[]∧openL its l=[]∧∀i:Nat,i < its.length→cleS its l i=true)∧(verS its l≠1→mayL its l=[]):=by
 have hp:=lg_of h.chk;have hv:=h.inv;have hr:=hv.rt;have hve:=ver_eq h.chk;refine⟨fun h1=>?_,fun h3=>?_,fun hn=>?_⟩
 ·have hd:¬Dn (plOf its) (fOf l) 0:=fun h9=>by rw[hve,if_pos h9] at h1;exact absurd h1 (by decide)
  have hs:¬Sp (plOf its) (fOf l) 0:=fun h9=>by rw[hve,if_neg hd,if_pos h9] at h1;exact absurd h1 (by decide)
  obtain⟨i,hi⟩:=goes_on hp hv hd hs
  rcases hi with hi | hi | hi
  ·right
   have:∃u t,(i,u,t)∈openL its l:=by
    rcases hi.2 with h9 | ⟨h9,h8⟩
    ·exact⟨false,0,open_iff.2 ⟨h.chk,hi,.inl ⟨rfl,rfl,h9⟩⟩⟩
    ·exact⟨true,_,open_iff.2 ⟨h.chk,hi,.inr ⟨rfl,rfl,h9,h8⟩⟩⟩
   obtain⟨u,t,hm⟩:=this
   intro e;rw[e] at hm
   cases hm
  ·left
   have hm:(i,false,0)∈mayL its l:=may_iff.2 ⟨h.chk,.inl ⟨rfl,rfl,hi⟩⟩;intro e;rw[e] at hm
   cases hm
  ·left
   have hm:(i,true,(fOf l i).slips)∈mayL its l:=may_iff.2 ⟨h.chk,.inr ⟨rfl,rfl,hi⟩⟩;intro e;rw[e] at hm
   cases hm
 ·have hd:¬Dn (plOf its) (fOf l) 0:=fun h9=>by rw[hve,if_pos h9] at h3;exact absurd h3 (by decide)
  have hs:Sp (plOf its) (fOf l) 0:=by
   apply Classical.byContradiction
   intro h9;rw[hve,if_neg hd,if_neg h9] at h3
   exact absurd h3 (by decide)
  have he:=ends_spent hp hr hs;refine⟨may_none fun i=>⟨(he i).1,(he i).2.1⟩,?_,fun i hi=>?_⟩
  ·refine List.eq_nil_iff_forall_not_mem.2 ?_;rintro⟨i,u,t⟩ hm
   exact (he i).2.2.1 (open_iff.1 hm).2.1
  ·unfold cleS;rw[if_pos h.chk,decide_eq_true ⟨by omega,by omega⟩,j8]
   exact (he i).2.2.2 hi
 ·by_cases hd:Dn (plOf its) (fOf l) 0
  ·exact may_none fun i=>ends_done hp hv hd i
  ·have hs:Sp (plOf its) (fOf l) 0:=by
    apply Classical.byContradiction
    intro h9;rw[hve,if_neg hd,if_neg h9] at hn
    exact hn rfl
   exact may_none fun i=>⟨(ends_spent hp hr hs i).1,(ends_spent hp hr hs i).2.1⟩
theorem cle_of {its:List It}{l:List Fa}(hc:chkF its l=0){k:Nat}(hk:k < its.length)(h:Cl (plOf its) (fOf l) k):cleS its l k=true:=by
 unfold cleS;rw[if_pos hc,decide_eq_true ⟨by omega,by omega⟩,j8]
 exact h
theorem keep_may {its:List It}{l m:List Fa}(hm:chkF its m=0){i:Nat}{u:Bool}{t:Int}(hk:(i,u,t)∈mayL its l)(hf:fOf m i=fOf l i)
  (h1:MB (plOf its) (afOf its) (fOf l) i→MB (plOf its) (afOf its) (fOf m) i) (h2:MU (plOf its) (afOf its) (fOf l) i→MU (plOf its) (afOf its) (fOf m) i):(i,u,t)∈mayL its m:=by
 obtain⟨_,h9⟩:=may_iff.1 hk
 refine may_iff.2 ⟨hm,?_⟩
 rcases h9 with ⟨rfl,rfl,h9⟩ | ⟨rfl,rfl,h9⟩
 ·exact .inl ⟨rfl,rfl,h1 h9⟩
 ·exact .inr ⟨rfl,by rw[hf],h2 h9⟩
theorem apart_beg {its:List It}{l:List Fa}(h:Good its l){i j:Nat}{u u':Bool}{t t':Int}(hk:(i,u,t)∈mayL its l)(hk':(j,u',t')∈mayL its l)(hne:(j,u',t')≠(i,u,t)):(i,u,t)∈mayL its (l.set j (begF (fOf l j) u')):=by
 have hij:i≠j:=fun e=>by
  subst e;obtain⟨e1,e2⟩:=may_one hk hk'
  exact hne (by rw[e1,e2])
 have hg:=beg_good h hk';have hj:j < l.length:=by have:=(may_step hk').2.1;have:=h.len;omega
 have hp:=lg_of h.chk;have hs:=fOf_set hj (begF (fOf l j) u');obtain⟨_,h9⟩:=may_iff.1 hk'
 have both:(MB (plOf its) (afOf its) (fOf l) i→MB (plOf its) (afOf its) (upd (fOf l) j (begF (fOf l j) u')) i)∧(MU (plOf its) (afOf its) (fOf l) i→MU (plOf its) (afOf its) (upd (fOf l) j (begF (fOf l j) u')) i):=by
  rcases h9 with ⟨rfl,rfl,h9⟩ | ⟨rfl,rfl,h9⟩
  ·exact apart_start hp h.inv h9 hij
  ·exact apart_undo hp h.inv h9 hij
 refine keep_may hg.chk hk (by rw[hs];exact upd_other hij) (fun hm=>by rw[hs];exact both.1 hm) (fun hm=>by rw[hs];exact both.2 hm)
theorem apart_end {its:List It}{l:List Fa}(h:Good its l){i j:Nat}{u:Bool}{t t':Int}(hk:(i,u,t)∈mayL its l)(ho:(j,false,t')∈openL its l):(i,u,t)∈mayL its (l.set j (endF (fOf l j) false true)):=by
 obtain⟨_,hop,h9⟩:=open_iff.1 ho
 have hrun:(fOf l j).run=1:=by
  rcases h9 with h9 | h9
  ·exact h9.2.2
  ·cases h9.1
 have hij:i≠j:=fun e=>by
  subst e
  rcases (may_iff.1 hk).2 with ⟨_,_,hm⟩ | ⟨_,_,hm⟩
  ·have:=hm.2.1;rw[hrun] at this;exact absurd this (by decide)
  ·have:=hm.2.1.1;rw[hrun] at this;exact absurd this (by decide)
 have hg:=end_good (ok:=true) h ho (fun h=>by cases h);have hj:j < l.length:=by have h8:=hop.1.2.1;rw[h.len];exact h8
 have hp:=lg_of h.chk;have hs:=fOf_set hj (endF (fOf l j) false true);have both:=apart_ok hp h.inv hop hrun (j:=i);refine keep_may hg.chk hk (by rw[hs];exact upd_other hij) (fun hm=>by rw[hs];exact both.1 hm) (fun hm=>by rw[hs];exact both.2 hm)
end Go.Proofs.YtieoppabellafaaGreatDoor.St
namespace Go.Proofs.YtieoppabellafaaGreatDoor
open Go.RowKit Go.Shelf Sx
theorem arcTo_at {its:List It} :∀(n:Nat) (p:Int × Int),p∈arcTo its n→∃(i:Nat) (x:It),its[i]? =some x∧p.2=(i:Int)∧p.1∈x.after
 | 0,p,h=>by cases h
 | n+1,p,h=>by
  rw[arcTo] at h
  rcases jX.1 h with h | h
  ·exact arcTo_at n p h
  ·cases hx:its[n]? with
   | none=>rw[hx] at h;cases h
   | some x=>
    rw[hx] at h
    obtain⟨on,ho,rfl⟩:=zS.1 h
    exact⟨n,x,hx,rfl,ho⟩
structure Ov (its:List It)(W o:List Nat):Prop where
 len:W.length=its.length
 few:W.length≤64
 ord:Dg.OrdOk W o
 olen:o.length=W.length
 step:∀f t,(W.getD t 0).testBit f=true→∃y,its[f]? =some y∧(t:Int)∈y.after
theorem ov_of {its:List It}{W o:List Nat}(h:Dg.weaveP (its.length:Int) (Dg.swapA (arcP its))= .ok W o):Ov its W o:=by
 obtain⟨hn,hW,hends,_,hWl,hO,hol⟩:=Dg.weave_facts h
 rw[j8] at hW hends hWl hol
 refine⟨hWl,by omega,hO,by omega,fun f t hb=>?_⟩
 rw[hW] at hb
 have h1:=((Dg.webOf_bit its.length _ hends t f).1 hb).1;have h2:=Dg.swapA_mem.1 h1;obtain⟨i,x,hx,hi,ho⟩:=arcTo_at _ _ h2
 obtain rfl:f=i:=by have:(f:Int)=(i:Int):=hi;omega
 exact⟨x,hx,ho⟩
theorem over_mem {its:List It}{W o:List Nat}(h:Ov its W o){j m:Nat}(hm:m∈overL (Dg.reachL W o) (j:Int)):j < its.length∧Dg.Chain W m j:=by
 unfold overL at hm
 split at hm
 ·rename_i hj
  rw[j8] at hm
  have hjl:j < (Dg.reachL W o).length:=by omega
  have hrl:(Dg.reachL W o).length=(Dg.reachP W o).length:=by simp[Dg.reachL]
  have hrp:(Dg.reachP W o).length=W.length:=by
   unfold Dg.reachP;have:=(Dg.reach_eq h.few h.ord o.length (jG _)).1;rw[List.take_length] at this
   exact this
  have e:(Dg.reachL W o).getD j []=Dg.bitsOf ((Dg.reachP W o).getD j 0):=by
   rw[jU,jF hjl,jU,jF (by omega)]
   simp[Dg.reachL]
  rw[e] at hm
  refine⟨by have:=h.len;omega,(Dg.reach_chain h.few h.ord h.olen (by omega) m).1 (Dg.of_bitsOf hm)⟩
 ·cases hm
end Go.Proofs.YtieoppabellafaaGreatDoor
namespace Go.Proofs.YtieoppabellafaaGreatDoor.St
open Fc Sx Sa
theorem Ov.step {af:Nat→List Nat}{i g k:Nat}(h:i∈af g)(ho:Ov af g k):Ov af i k:=by
 induction ho with
 | one hk=>exact .more hk (.one h)
 | more hk _ ih=>exact .more hk ih
theorem root_after {its:List It}{q:By × Tr}(h:sagaP its=some q):afOf its 0=[]:=by
 unfold sagaP at h
 split at h
 rotate_left
 ·cases h
 rename_i hc
 obtain⟨_,hp⟩:=hc
 obtain⟨p1,p2,p3,p4⟩:=planT_parts hp
 have h9:=its2_root (nameI its 0) (bodS its).len (xsT (bodS its) 0 0 0);rw[←p4] at h9
 unfold afOf;rw[getD_it h9]
 rfl
theorem af_mem {its:List It}{i:Nat}{x:It}(hx:its[i]? =some x){a:Nat}(h:(a:Int)∈x.after):a∈afOf its i:=by
 unfold afOf;rw[getD_it hx]
 exact zS.2 ⟨_,h,by simp⟩
theorem over_iff {its:List It}{q:By × Tr}(h:sagaP its=some q){j m:Nat}(hj:j < its.length):m∈overI its (j:Int)↔1≤m∧m < its.length∧Ov (afOf its) j m:=by
 have hp:=plan_leans h;obtain⟨_,_,_,_,W,o,hw⟩:=right_facts h
 have hO:=ov_of hw;have hov:overI its (j:Int)=overL (Dg.reachL W o) (j:Int):=by
  unfold overI ovT;rw[h,hw]
  rfl
 obtain⟨_,hW,hends,_,_,_,_⟩:=Dg.weave_facts hw
 rw[j8] at hW hends
 rw[hov]
 constructor
 ·intro hm;have hc:=(over_mem hO hm).2;have key:∀f t,Dg.Chain W f t→(1≤f∧f < its.length)∧Ov (afOf its) t f:=fun f t hc=>by
   induction hc with
   | @one t e=>
    obtain⟨y,hy,ha⟩:=hO.step _ _ e
    have hm:=af_mem hy ha;have hf:=(jH.1 hy).1;refine⟨⟨?_,hf⟩,.one hm⟩
    apply Classical.byContradiction
    intro h9;obtain rfl:f=0:=by omega
    rw[root_after h] at hm
    cases hm
   | @more g t _ e ih=>
    obtain⟨y,hy,ha⟩:=hO.step _ _ e
    exact⟨ih.1,Ov.step (af_mem hy ha) ih.2⟩
  exact⟨(key m j hc).1.1,(key m j hc).1.2,(key m j hc).2⟩
 ·rintro⟨m1,m2,ho⟩
  have bit:∀k a,1≤k→k < its.length→a∈afOf its k→(W.getD a 0).testBit k=true:=fun k a k1 k2 ha=>by
   obtain⟨_,a2,_⟩:=hp.ons k k1 k2 a ha
   obtain⟨x,hx⟩:∃x,its[k]? =some x:=⟨_,jF k2⟩
   rw[hW]
   refine (Dg.webOf_bit its.length _ hends a k).2 ⟨Dg.swapA_mem.2 ?_,a2⟩;unfold afOf at ha;rw[getD_it hx] at ha
   obtain⟨z,hz,rfl⟩:=zS.1 ha
   have hz0:0≤z:=by
    have h9:=arcTo_mem hx hz _ k2;have h8:=zF.1 hends _ (Dg.swapA_mem.2 h9);unfold Dg.endsOk at h8;have h7:=of_decide_eq_true h8;omega
   have:=arcTo_mem hx hz _ k2;rw[show ((z.toNat:Nat):Int)=z by omega]
   exact this
  have key:∀k,Ov (afOf its) j k→1≤k→k < its.length→Dg.Chain W k j:=fun k ho=>by
   induction ho with
   | one hk=>intro k1 k2;exact .one (bit _ _ k1 k2 hk)
   | @more k a hk _ ih=>
    intro k1 k2;obtain⟨a1,a2,_⟩:=hp.ons k k1 k2 a hk
    exact Dg.Chain.trans (.one (bit _ _ k1 k2 hk)) (ih a1 a2)
  have hc:=key m ho m1 m2;have hrp:(Dg.reachP W o).length=W.length:=by
   unfold Dg.reachP;have:=(Dg.reach_eq hO.few hO.ord o.length (jG _)).1;rw[List.take_length] at this
   exact this
  have hrl:(Dg.reachL W o).length=W.length:=by rw[←hrp];simp[Dg.reachL]
  have hWl:=hO.len;unfold overL;rw[if_pos ⟨by omega,by omega⟩,j8]
  have e:(Dg.reachL W o).getD j []=Dg.bitsOf ((Dg.reachP W o).getD j 0):=by
   rw[jU,jF (by omega),jU,jF (by omega)]
   simp[Dg.reachL]
  rw[e]
  unfold Dg.bitsOf;have hf:=hO.few;exact List.mem_filter.2 ⟨zB.2 (by omega),(Dg.reach_chain hO.few hO.ord hO.olen (by omega) m).2 hc⟩
theorem an_iff {its:List It}{q:By × Tr}(h:sagaP its=some q){i:Nat}(h1:1≤i)(hi:i < its.length)(s:Nat):An (plOf its) i s↔s=(plOf its).inn i∨(1≤(plOf its).inn i∧An (plOf its) ((plOf its).inn i) s):=by
 constructor
 ·exact an_inn
 ·rintro (rfl | ⟨h2,ha⟩)
  ·exact .one
  ·induction ha with
   | one=>exact .up .one h2
   | @up t _ ht ih=>exact .up ih ht
theorem oc_iff {its:List It}{l:List Fa}(hc:chkF its l=0){i:Nat}(hi:i < its.length):Oc (plOf its) (afOf its) (fOf l) i↔∀m∈overI its (i:Int),cleS its l (m:Int)=true:=by
 obtain⟨⟨q,hq⟩,_⟩:=chk_facts hc
 constructor
 ·intro h m hm;obtain⟨m1,m2,ho⟩:=(over_iff hq hi).1 hm
  exact cle_of hc m2 (h m m1 m2 ho)
 ·intro h k k1 k2 ho;have h9:=h k ((over_iff hq hi).2 ⟨k1,k2,ho⟩);unfold cleS at h9;have hk2:k < its.length:=k2;rw[if_pos hc,decide_eq_true ⟨by omega,by omega⟩,j8] at h9
  exact h9
variable {its:List It}{l:List Fa}
theorem sagaS_two {x:IW}{h:Bool} :sagaS x h=2↔x.touched=true∧x.done=true:=by
 unfold sagaS
 by_cases ht:x.touched=false
 ·rw[if_pos ht]
  exact⟨fun h=>absurd h (by decide),fun h9=>by rw[ht] at h9;exact absurd h9.1 (by decide)⟩
 ·rw[if_neg ht]
  have ht':x.touched=true:=by simpa using ht
  by_cases hd:x.done=true
  ·rw[if_pos hd]
   exact⟨fun _=>⟨ht',hd⟩,fun _=>rfl⟩
  ·rw[if_neg hd]
   refine⟨fun h9=>?_,fun h9=>absurd h9.2 hd⟩
   split at h9
   ·exact absurd h9 (by decide)
   ·split at h9
    ·exact absurd h9 (by decide)
    ·split at h9 <;> exact absurd h9 (by decide)
theorem sagaS_three {x:IW}{h:Bool} :sagaS x h=3↔x.touched=true∧¬x.done=true∧x.spent=true:=by
 unfold sagaS
 by_cases ht:x.touched=false
 ·rw[if_pos ht]
  exact⟨fun h=>absurd h (by decide),fun h9=>by rw[ht] at h9;exact absurd h9.1 (by decide)⟩
 ·rw[if_neg ht]
  have ht':x.touched=true:=by simpa using ht
  by_cases hd:x.done=true
  ·rw[if_pos hd]
   exact⟨fun h=>absurd h (by decide),fun h9=>absurd hd h9.2.1⟩
  ·rw[if_neg hd]
   by_cases hs:x.spent=true
   ·rw[if_pos hs]
    exact⟨fun _=>⟨ht',hd,hs⟩,fun _=>rfl⟩
   ·rw[if_neg hs]
    refine⟨fun h9=>?_,fun h9=>absurd h9.2.2 hs⟩
    split at h9
    ·exact absurd h9 (by decide)
    ·split at h9 <;> exact absurd h9 (by decide)
theorem sp_dn {p:Pl}{f:Nat→Fa}{s:Nat}(hs:s < p.n)(hsub:p.sub s=true)(h:Sp p f s):¬Dn p f s:=fun hd=>((dn_saga hs hsub).1 hd).1 h
theorem dn_S (hc:chkF its l=0){i:Nat}(hi:i < its.length):Dn (plOf its) (fOf l) i↔St.S (plOf its) (fOf l) i=2:=by
 have hp:=lg_of hc;have hr:=rt_of hc;unfold St.S;cases hs:(plOf its).sub i with
 | true=>
  rw[if_pos rfl,sagaS_two]
  exact⟨fun h=>⟨over_touched hp hr _ i (jG _) hi (.inl h),h⟩,fun h=>h.2⟩
 | false=>
  rw[if_neg (by decide),dn_step hi hs]
  obtain⟨a1,a2,a3,a4,a5,a6,a7⟩:=hr.ok i hi
  unfold stepS
  constructor
  ·rintro⟨h1,h2⟩
   rw[if_neg (by omega),if_neg (by omega),if_neg (by omega),if_pos h2]
  ·intro h
   split at h
   ·exact absurd h (by decide)
   ·split at h
    ·exact absurd h (by decide)
    ·split at h
     ·exact absurd h (by decide)
     ·split at h
      ·exact⟨by omega,by assumption⟩
      ·split at h <;> exact absurd h (by decide)
theorem sp_S (hc:chkF its l=0){i:Nat}(hi:i < its.length)(hs:(plOf its).sub i=true):Sp (plOf its) (fOf l) i↔St.S (plOf its) (fOf l) i=3:=by
 have hp:=lg_of hc;have hr:=rt_of hc;unfold St.S;rw[if_pos hs,sagaS_three]
 exact⟨fun h=>⟨over_touched hp hr _ i (jG _) hi (.inr h),sp_dn hi hs h,h⟩,fun h=>h.2.2⟩
theorem ps_S (hc:chkF its l=0){i:Nat}(hi:i < its.length):Ps (plOf its) (fOf l) i↔St.S (plOf its) (fOf l) i=2∨((plOf its).sub i=true∧(plOf its).vital i=false∧St.S (plOf its) (fOf l) i=3):=by
 unfold Ps;rw[dn_S hc hi]
 constructor
 ·rintro (h | ⟨h1,h2,h3⟩)
  ·exact .inl h
  ·exact .inr ⟨h1,h2,(sp_S hc hi h1).1 h3⟩
 ·rintro (h | ⟨h1,h2,h3⟩)
  ·exact .inl h
  ·exact .inr ⟨h1,h2,(sp_S hc hi h1).2 h3⟩
theorem ff_S (hc:chkF its l=0){s a:Nat}(hs:s < its.length)(ha:a < (plOf its).alts s)(ha4:a < 4):FF (plOf its) (fOf l) s a↔falS its l (s:Int) (a:Int)=true:=by
 unfold falS Mf FF Fl Ha;rw[if_pos hc,decide_eq_true ⟨by omega,by omega⟩,decide_eq_true ⟨by omega,by omega⟩,j8,j8,decide_eq_true ⟨hs,ha⟩,Bool.true_and,Bool.true_and,Bool.true_and,Bool.or_eq_true]
 exact or_comm
theorem at_S (hc:chkF its l=0){s:Nat}(hs:s < its.length)(hsub:(plOf its).sub s=true):atS its l (s:Int)=(At (plOf its) (fOf l) s:Int):=by
 unfold atS atP At;rw[if_pos hc,if_pos ⟨by omega,by omega⟩,j8,if_pos hsub]
theorem cl_S (hc:chkF its l=0){k:Nat}(hk:k < its.length):Cl (plOf its) (fOf l) k↔cleS its l (k:Int)=true:=by
 unfold cleS Cl;rw[if_pos hc,decide_eq_true ⟨by omega,by omega⟩,j8,Bool.true_and]
theorem rn_zero {p:Pl}{af:Nat→List Nat}{f:Nat→Fa} :Rn p af f 0↔¬Dn p f 0∧¬Sp p f 0:=by
 constructor
 ·intro h;cases h with
  | root h1 h2=>exact⟨h1,h2⟩
  | sub h1 _ _ _ _ _ _ _ _=>omega
 ·rintro⟨h1,h2⟩
  exact .root h1 h2
theorem rn_eq {p:Pl}{af:Nat→List Nat}{f:Nat→Fa}{s:Nat}(h1:1≤s)(h2:s < p.n)(h3:p.sub s=true):Rn p af f s↔(¬Dn p f s∧¬Sp p f s)∧Rc p af f s:=by
 constructor
 ·intro h;cases h with
  | root _ _=>omega
  | sub _ _ _ h4 h5 h6 h7 h8 h9=>exact⟨⟨h4,h5⟩,h6,h7,h8,h9⟩
 ·rintro⟨⟨h4,h5⟩,h6,h7,h8,h9⟩
  exact .sub h1 h2 h3 h4 h5 h6 h7 h8 h9
theorem rn_ver (hc:chkF its l=0):Rn (plOf its) (afOf its) (fOf l) 0↔verS its l=1:=by
 rw[rn_zero,ver_eq hc]
 by_cases hd:Dn (plOf its) (fOf l) 0
 ·rw[if_pos hd]
  exact⟨fun h=>absurd hd h.1,fun h=>absurd h (by decide)⟩
 ·rw[if_neg hd]
  by_cases hs:Sp (plOf its) (fOf l) 0
  ·rw[if_pos hs]
   exact⟨fun h=>absurd hs h.2,fun h=>absurd h (by decide)⟩
  ·rw[if_neg hs]
   exact⟨fun _=>rfl,fun _=>⟨hd,hs⟩⟩
end Go.Proofs.YtieoppabellafaaGreatDoor.St
