/- For every saga, all picks and every number, together of bulk at most 1048576, the law TaskApart answers true. The condition is the statement's own bound alone. -/
import Derived.Test.YtieoppabellafaaGreatDoorH13
import Derived.Test.YtieoppabellafaaGreatDoorH14
import Derived.Test.YtieoppabellafaaGreatDoorH27
import Derived.Test.YtieoppabellafaaGreatDoorH28
import Derived.Test.YtieoppabellafaaGreatDoorCards
import Derived.Test.YtieoppabellafaaGreatDoorTie
import Derived.Deep.DeepHandedRow
import Derived.Deep.DeepWitnessRowRef
import Derived.SevenTiedAt
namespace Go.Proofs.YtieoppabellafaaGreatDoor.taskApart
open Go.ChangeShapes Go.WideShapes Go.ChangeAt Go.RowKit Go.Proofs.YtieoppabellafaaGreatDoor.Fc Go.Proofs.YtieoppabellafaaGreatDoor.Sa Go.Proofs.YtieoppabellafaaGreatDoor.Ts
set_option linter.unusedVariables false
theorem own:ownKnob Tryz.prog.godebug=none:=by kernel_rfl
theorem laidOut:laidOutB Tryz.prog=true:=by kernel_rfl
theorem reads (os:Os){H:Type}(enc:TypeId × Value→H):∃places,DataW.whole enc Tryz.prog ((World.doorLaid Tryz.prog 400 os).forCall (fun _ _=>0) ⟨#[],#[.agg #[.string ⟨#[]⟩,.slice none 0 0],.slice none 0 0,.int .i64 0],[]⟩).memory Tryz.f5.params.toList Rows.taskApartSpec.vars false (#[.agg #[.string ⟨#[]⟩,.slice none 0 0],.slice none 0 0,.int .i64 0]:Array Value).toList 8=some ([.agg [.lit (.string []),.nil],.nil,.lit (.int .i64 0)],[],places):=
 ⟨[],by kernel_rfl⟩
set_option maxHeartbeats 4000000 in
set_option maxRecDepth 100000 in
theorem lifted (os:Os)(started:os.Started)(H:Type)(enc:TypeId × Value→H)(F:Stop.Interp) :
  ReturnsInHanded {} Tryz.checked os 5 .any ((Rows.OpenSpec.upto Rows.taskApartSpec).preRow enc Tryz.prog Tryz.f5 Rows.taskApartUptoRow.domain false Rows.taskApartUptoRow.laid) (((Rows.OpenSpec.upto Rows.taskApartSpec).at F).post enc Tryz.prog Tryz.f5 false true false false):=by
 obtain⟨places,hx⟩:=reads os enc
 refine returnsInHanded_of_row (C:=Tryz.checked) (s:=Rows.OpenSpec.upto Rows.taskApartSpec) own started (by kernel_rfl) Tryz.func5
  (witness_row_atRef (enc:=enc) (C:=Tryz.checked) false (World.doorLaid Tryz.prog 400 os) #[.agg #[.string ⟨#[]⟩,.slice none 0 0],.slice none 0 0,.int .i64 0] rfl (by kernel_rfl) (by kernel_rfl) (by kernel_rfl)
   (OpenSpec.preRow_of_cond 8 hx (by kernel_rfl) (fun k hk=>by cases hk;kernel_rfl) (by kernel_rfl) (laidMet_of_run' 8 (by kernel_rfl) (by kernel_rfl)))) ?_
 intro W base args ds gs before hval0 hW _ hcond _ hL _ _;have hk:Rows.uptoSmall H (ds ++gs)=true:=hcond _ rfl;have hval:∀(j:Nat) t v,Tryz.f5.params[j]? =some t→args[j]? =some v→Value.okWide Tryz.prog W .any base t v:=hval0
 have hW':=hW;obtain⟨p,q,hA0,hV,rfl,hfz,hnd⟩:=hW
 have hA:DataW.TrodAll enc Tryz.prog W 0 (fun _=>true) true Tryz.f5.params.toList args.toList ds p:=hA0;rw[Tryz.params5] at hA hval
 obtain⟨v0,vs0,d0,ds0,p0,q0,hargs,rfl,rfl,h0,r0⟩:=trodAll_cons hA
 obtain⟨v1,vs1,d1,ds1,p1,q1,rfl,rfl,rfl,h1,r1⟩:=trodAll_cons r0
 obtain⟨v2,vs2,d2,ds2,p2,q2,rfl,rfl,rfl,h2,r2⟩:=trodAll_cons r1
 obtain⟨rfl,rfl,rfl⟩:=trodAll_nil r2
 obtain rfl:args= #[v0,v1,v2]:=by cases args;simp_all
 obtain⟨rfl,rfl⟩:=trodVars_none hV
 obtain⟨a2,rfl,rfl,rfl,w2⟩:=open_int Tryz.underlying3 (hval 2 3 v2 rfl rfl) h2
 simp only[List.append_nil] at hk;have hbk:=of_decide_eq_true hk;simp only[Sx.bk_all1,Sx.bk_all0] at hbk;have k0:=h0;have lt0:∀x∈p0,x.block < W.heap.size:=by obtain⟨m,hm⟩:=k0;exact DataW.trod_lt m _ _ _ hm
 have k1:=h1;have lt1:∀x∈p1,x.block < W.heap.size:=by obtain⟨m,hm⟩:=k1;exact DataW.trod_lt m _ _ _ hm
 obtain⟨cs0,rfl,_⟩:=okWide_struct Tryz.underlying24 (hval 0 24 v0 rfl rfl)
 obtain⟨nm,a0,n0,c0,t,hcs0,ht0,hb0⟩:∃(nm:Sx.By) (a:Option Addr) (n c:Nat) (t:Sx.Tr),cs0= #[.string ⟨nm.toArray⟩,.slice a n c]∧Sx.TAt (· < W.heap.size) W true t a 0 n∧nm.length+Sx.bkT t+3≤Rows.uptoBulk d0:=by
  obtain⟨fuel,hf⟩:=h0
  obtain⟨nm,a,n,c,t,hv,q1,q2⟩:=Sx.open_sagaB hf
  refine⟨nm,a,n,c,t,?_,q1,q2⟩
  have:cs0.toList=_:=hv;rw[←this]
 subst hcs0;obtain rfl:n0=t.len:=by have:=ht0.len;omega
 obtain⟨a1,len1,cap1,rfl⟩:=okWide_slice Tryz.underlying25 (hval 1 25 v1 rfl rfl)
 obtain⟨L,hP,hlm⟩:∃L,PkR W (.slice a1 len1 cap1) L∧L.length≤maxLen:=by
  obtain⟨fuel,hf⟩:=h1
  exact open_picks hf
 have hsb:=saga_bears nm t a0 c0 W (tab_of_laid hL) ht0 (by omega);clear hA0 hval0;refine (apart_walk nm t a0 c0 (.slice a1 len1 cap1) L a2 W (tab_of_laid hL) (TAt.kd t ht0) hsb.1 hsb.2 hP hlm).mono fun e W' ⟨he,bel⟩=>?_
 subst he;exact⟨_,rfl,_,_,_,[],_,[],hW',trodAll_mk1 (shut_bool Tryz.underlying4 _),(trodAll_cons_mk (Below.trod laidOut (by kernel_rfl) (of_decide_eq_true (by kernel_rfl)) k0 bel lt0) (trodAll_cons_mk (Below.trod laidOut (by kernel_rfl) (of_decide_eq_true (by kernel_rfl)) k1 bel lt1) (trodAll_cons_mk (shut_int Tryz.underlying3 w2) trodAll_mk0))),rfl,bel.frame _,fun h=>by cases h⟩
theorem over:Rows.TaskApartUptoSaid:=
 OpenClaim.holds_of_cond 5 Tryz.f5 rfl rfl rfl rfl rfl rfl rfl ⟨rfl,rfl,rfl,rfl,rfl⟩ rfl rfl rfl rfl rfl (by kernel_rfl) Tryz.func5 (by kernel_rfl)
  (of_decide_eq_true (by kernel_rfl)) (by unfold Func.isWrapper;first | (rw[if_pos (by decide +kernel)];kernel_rfl) | (rw[if_neg (by decide +kernel)];exact⟨rfl,rfl⟩))
  (fun os started H enc _ F=>by rw[OpenClaim.pre_eq_preRow];exact lifted os started H enc F)
end Go.Proofs.YtieoppabellafaaGreatDoor.taskApart
namespace Go.Proofs.YtieoppabellafaaGreatDoor
open Go
theorem taskApartUpto_card_holds:Rows.TaskApartUptoCardSaid:=
 Claim7.holds_tied_plain_at .later [] [.data] true (true, "615d143e1bfad6358dcc3e2eb7f0285aa6ed3f0ed4b1b6b808de31f6c32429ed") true
  taskApart.over (fun _ h=>by cases h) (by kernel_rfl) (fun _ h=>by cases h) taskApartUpto_row_tie rfl ⟨rfl,rfl⟩ (by kernel_rfl) rfl
  (fun f fn hf hfn=>by
   obtain rfl:f=5:=Option.some.inj ((show Tryz.prog.funcNamed "argosy/argosylaw15.TaskApart" =some 5 by kernel_rfl).symm.trans hf) |>.symm
   obtain rfl:fn=Tryz.f5:=(Option.some.inj (Tryz.func5.symm.trans hfn)).symm;exact⟨by kernel_rfl,fun j t ht=>by
    rw[Tryz.params5] at ht
    have hm:t∈[24,25,3]:=by simpa using Array.mem_of_getElem? ht
    have hall:([24,25,3].all fun u=> !Tryz.prog.wantsStandIn u)=true:=by kernel_rfl
    exact (show Tryz.prog.wantsStandIn t=false by simpa using List.all_eq_true.1 hall t hm)⟩)
  (by kernel_rfl)
#print axioms taskApartUpto_card_holds
end Go.Proofs.YtieoppabellafaaGreatDoor
