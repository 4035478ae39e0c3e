/- TaskOrder: who may be undone has nothing above it that is not clean; who may begin leans on nothing that may be undone, or is not done. -/
import Derived.Test.YtieoppabellafaaGreatDoorP42
import Derived.Test.YtieoppabellafaaGreatDoorP43
import Derived.Test.YtieoppabellafaaGreatDoorCards
import Derived.Test.YtieoppabellafaaGreatDoorTie
import Derived.SevenTiedAt
namespace Go.Proofs.YtieoppabellafaaGreatDoor.taskOrder
open Go.ChangeShapes Go.WideShapes Go.ChangeAt Go.RowKit Go.Proofs.YtieoppabellafaaGreatDoor.Fc Go.Proofs.YtieoppabellafaaGreatDoor.Sa
set_option linter.unusedVariables false
theorem own:ownKnob Tryz.prog.godebug=none:=by kernel_rfl
set_option maxRecDepth 100000 in
theorem lifted (os:Os)(started:os.Started)(H:Type)(enc:TypeId × Value→H) :
  ReturnsInHanded {} Tryz.checked os 4 .any (fun w args=>(Rows.taskOrderSpec.pre enc Tryz.prog Tryz.f4 [] false w args∧laidMetH Tryz.prog [("math/bits.deBruijn64tab",Rows.laid_math_bits_deBruijn64tab)] w)∧sizedMet enc Tryz.prog Tryz.f4 (OpenSpec.ofChange Rows.taskOrderSpec) false w args)
   (Rows.taskOrderSpec.post enc Tryz.prog Tryz.f4 false true false false):=by
 refine returnsInHanded_of_change_and (C:=Tryz.checked) (X:=fun w _=>laidMetH Tryz.prog [("math/bits.deBruijn64tab",Rows.laid_math_bits_deBruijn64tab)] w) (fun _ _ _ hh h=>h.of_heap hh) own started (by kernel_rfl) Tryz.func4
  (ChangeSpec.witness_shaped (enc:=enc) (C:=Tryz.checked) (os:=os) (X:=fun w _=>laidMetH Tryz.prog [("math/bits.deBruijn64tab",Rows.laid_math_bits_deBruijn64tab)] w) false (World.doorLaid Tryz.prog 400 os) #[.agg #[.slice none 0 0],.slice none 0 0] 8 rfl (World.shaped_of_RefB (by kernel_rfl) (by kernel_rfl)) (by kernel_rfl) (by kernel_rfl) (by kernel_rfl) (door_met os _)) ?_
 intro W base args ds gs before hval0 hW _ _ hL _;have hval:∀(j:Nat) t v,Tryz.f4.params[j]? =some t→args[j]? =some v→Value.okWide Tryz.prog W .any base t v:=hval0
 have hW':=hW;obtain⟨p,q,hA0,hV,rfl,hfz,hnd⟩:=hW
 have hA:DataW.TrodAll enc Tryz.prog W 0 (fun _=>true) true Tryz.f4.params.toList args.toList ds p:=hA0;rw[Tryz.params4] at hA hval
 obtain⟨v0,vs0,d0,ds0,p0,q0,hargs,rfl,rfl,h0,r0⟩:=trodAll_cons hA
 obtain⟨v1,vs1,d1,ds1,p1,q1,rfl,rfl,rfl,h1,r1⟩:=trodAll_cons r0
 obtain⟨rfl,rfl,rfl⟩:=trodAll_nil r1
 obtain rfl:args= #[v0,v1]:=by cases args;simp_all
 obtain⟨rfl,rfl⟩:=trodVars_none hV
 have k0:=h0;have lt0:∀x∈p0,x.block < W.heap.size:=by obtain⟨m,hm⟩:=k0;exact DataW.trod_lt m _ _ _ hm
 obtain⟨cs0,rfl,_⟩:=okWide_struct Tryz.underlying28 (hval 0 28 v0 rfl rfl)
 obtain⟨a0,n0,c0,its0,hcs0,hi0,m0,y0⟩:∃a n c its,cs0= #[.slice a n c]∧RdIt W (.slice a n c) its∧its.length≤maxLen∧∀y∈its,y.name.length≤maxLen∧y.undo.length≤maxLen∧y.after.length≤maxLen:=by
  obtain⟨fuel,hf⟩:=h0
  obtain⟨a,n,c,its,hv,q1,q2,q3⟩:=open_plan hf
  refine⟨a,n,c,its,?_,q1,q2,q3⟩
  have:cs0.toList=_:=hv;rw[←this]
 subst hcs0;have k1:=h1;have lt1:∀x∈p1,x.block < W.heap.size:=by obtain⟨m,hm⟩:=k1;exact DataW.trod_lt m _ _ _ hm
 obtain⟨a1,len1,cap1,rfl⟩:=okWide_slice Tryz.underlying33 (hval 1 33 v1 rfl rfl)
 obtain⟨l1,hi1⟩:∃L,RF W (.slice a1 len1 cap1) L:=by
  obtain⟨fuel,hf⟩:=h1
  obtain⟨v,l,hv,hl⟩:=open_facts hf
  simp[Value.cells] at hv
  subst hv;exact⟨l,hl⟩
 clear hA0 hval0;refine (Ts.order_walk its0 _ _ l1  W (tab_of_laid hL) hi0 m0 y0 hi1).mono fun e W' ⟨he,bel⟩=>?_
 subst he;exact⟨_,rfl,_,_,_,[],_,[],hW',trodAll_mk1 (shut_bool Tryz.underlying4 _),(trodAll_cons_mk (Below.trod laidOut (by kernel_rfl) (of_decide_eq_true (by kernel_rfl)) k0 bel lt0) (trodAll_cons_mk (Below.trod laidOut (by kernel_rfl) (of_decide_eq_true (by kernel_rfl)) k1 bel lt1) trodAll_mk0)),rfl,bel.frame _,fun h=>by cases h⟩
theorem over:Rows.TaskOrderSaid:=
 OpenClaim.holds_of_wide 4 Tryz.f4 rfl rfl rfl rfl rfl rfl rfl ⟨rfl,rfl,rfl,rfl,rfl⟩ rfl rfl rfl rfl rfl (by kernel_rfl) Tryz.func4 (by kernel_rfl)
  (of_decide_eq_true (by kernel_rfl)) (by unfold Func.isWrapper;first | (rw[if_pos (by decide +kernel)];kernel_rfl) | (rw[if_neg (by decide +kernel)];exact⟨rfl,rfl⟩))
  (fun os started H enc _=>lifted os started H enc)
end Go.Proofs.YtieoppabellafaaGreatDoor.taskOrder
namespace Go.Proofs.YtieoppabellafaaGreatDoor
open Go
theorem taskOrder_card_holds:Rows.TaskOrderCardSaid:=
 Claim7.holds_tied_plain_at .later [] [.data] true (true, "615d143e1bfad6358dcc3e2eb7f0285aa6ed3f0ed4b1b6b808de31f6c32429ed") true
  taskOrder.over (fun _ h=>by cases h) (by kernel_rfl) (fun _ h=>by cases h) taskOrder_row_tie rfl ⟨rfl,rfl⟩ (by kernel_rfl) rfl
  (fun f fn hf hfn=>by
   obtain rfl:f=4:=Option.some.inj ((show Tryz.prog.funcNamed "argosy/argosylaw15.TaskOrder" =some 4 by kernel_rfl).symm.trans hf) |>.symm
   obtain rfl:fn=Tryz.f4:=(Option.some.inj (Tryz.func4.symm.trans hfn)).symm;exact⟨by kernel_rfl,fun j t ht=>by
    rw[Tryz.params4] at ht
    have hm:t∈[28,33]:=by simpa using Array.mem_of_getElem? ht
    have hall:([28,33].all fun u=> !Tryz.prog.wantsStandIn u)=true:=by kernel_rfl
    exact (show Tryz.prog.wantsStandIn t=false by simpa using List.all_eq_true.1 hall t hm)⟩)
  (by kernel_rfl)
#print axioms taskOrder_card_holds
end Go.Proofs.YtieoppabellafaaGreatDoor
