/- Texts of the seat, packed: Yh Yi Yj Yl Yk Ym Yn Yo Ys Yt SYa Ua. -/
import Derived.Test.YtieoppabellafaaGreatDoorH01
import Derived.Test.YtieoppabellafaaGreatDoorH12
import Derived.Test.YtieoppabellafaaGreatDoorH04
import Derived.Test.YtieoppabellafaaGreatDoorH03
import Derived.Test.YtieoppabellafaaGreatDoorH02
import Derived.Test.YtieoppabellafaaGreatDoorRows
import Derived.Laws.Rows
import Derived.Deep.SlicePairs
import Derived.Deep.Strs
import Derived.OpenShut
import Derived.Deep.RegionHeldLaw
import Derived.LaidHandle
import Derived.LaidLaws
import Derived.LaidMore
import Derived.ProofKit
import Derived.ShutString
import Derived.Stop.Joined
set_option maxRecDepth 1000000
set_option maxHeartbeats 64000000
set_option linter.unusedVariables false
namespace Go.Proofs.YtieoppabellafaaGreatDoor
open Go.RowKit Go.Shelf Sx
theorem SagaC.bad' {its:List It}{w w':World}(h:sagaP its=none)(hb:Below w.heap.size w w'):SagaC its w (.panicked (rej 2)) w':=by
 unfold SagaC;rw[h]
 exact⟨hb,rfl⟩
theorem SagaC.ok' {its:List It}{w w':World}{x:By}{t:Tr}{a:Option Addr}{c:Nat}(h:sagaP its=some (x,t))(hb:Below w.heap.size w w')(ht:TAt (Since w w') w' true t a 0 t.len):SagaC its w (.returned (.agg #[.string ⟨x.toArray⟩,.slice a t.len c])) w':=by
 unfold SagaC;rw[h]
 exact⟨hb,a,c,rfl,ht⟩
theorem catch58 (b2 b3:Nat)(c2 c2' c3:Value)(c:Int)(older:List PanicEntry)(w:World)(h2:w.heap[b2]? =some (.cells #[c2,c2'] 24 (0,0)))(h3:w.heap[b3]? =some (.cells #[c3] 29 (0,0)))(h23:b2≠b3) :
  CallsD Tryz.prog 148 #[.pointer (some ⟨b2,0,none⟩),.pointer (some ⟨b3,0,none⟩)] (.panicking ({v:= .iface 29 (.int .i64 c),recovered:=false} :: older)) w fun e u' w'=>
   e= .returned (.tuple #[])∧u'= .panicking ({v:= .iface 29 (.int .i64 c),recovered:=true} :: older)∧w'=((((w.alloc (.cells #[.string ⟨#[]⟩,.slice none 0 0] 24)).setCell ⟨b2,0,none⟩ (.string ⟨#[]⟩)).setCell ⟨b2,1,none⟩ (.slice none 0 0)).setCell ⟨b3,0,none⟩ (.int .i64 c)).drew:=by
 have l2:=(jD.1 h2).1;have l3:=(jD.1 h3).1;have r2:=Dg.row_alloc h2 (.cells #[.string ⟨#[]⟩,.slice none 0 0] 24);have r3:=Dg.row_alloc h3 (.cells #[.string ⟨#[]⟩,.slice none 0 0] 24);have rn:=Dg.row_new w #[.string ⟨#[]⟩,.slice none 0 0] 24;have g2:=(Dg.cell_row r2 0).trans rfl;have g2':=(Dg.cell_row r2 1).trans rfl;have f2:=Dg.froz_row r2 0;have f2':=Dg.froz_row r2 1;have g3:=(Dg.cell_row r3 0).trans rfl;have f3:=Dg.froz_row r3 0;have gn:=(Dg.cell_row rn 0).trans rfl;have gn':=(Dg.cell_row rn 1).trans rfl;refine callsD_of_wpS Tryz.func148 rfl fun c₀ cs hu=>?_
 apply wpS_seq
 apply wpS_region
 simp[wpOpsS,go_sem,recoverD,hu,Tryz.ntmps148,Exit.thenS]
 refine wpS_of_wp ?_;simp only[jI,jJ,jO,zN,jL,jK,jA,jC,jB];have hta:∀(v:Value) (w:World),(Instr.typeAssert (.iface 29 v) 20 29 false).run Tryz.prog w= .ok v w:=fun v w=>by simp[Instr.typeAssert,run_underlying Tryz.underlying29,go_sem,Result.andThen]
 have n1:b3≠b2:=fun h=>h23 h.symm
 have n2:w.heap.size≠b2:=by omega
 have n3:w.heap.size≠b3:=by omega
 go_wp2_with fail
 obtain⟨w1,hw1⟩:∃w1,w.alloc (.cells #[.string ⟨#[]⟩,.slice none 0 0] 24)=w1:=⟨_,rfl⟩
 rw[hw1] at r2 r3 rn g2 g2' f2 f2' g3 f3 gn gn' ⊢
 have HW1:Hid _:=hw1;clear hw1;have m3:∀v u,((w1.setCell ⟨b2,0,none⟩ v).setCell ⟨b2,1,none⟩ u).cell? ⟨b3,0,none⟩=some c3:=fun v u=>(Dg.cell_row (Dg.row_other (Dg.row_other r3 v n1) u n1) 0).trans rfl
 have k3:∀v u,((w1.setCell ⟨b2,0,none⟩ v).setCell ⟨b2,1,none⟩ u).frozen? ⟨b3,0,none⟩=false:=fun v u=>Dg.froz_row (Dg.row_other (Dg.row_other r3 v n1) u n1) 0
 go_region
 all_goals
  show bodyPostS Tryz.prog Tryz.f148 _ _ _ Exit.normal _ _ _;simp[bodyPostS,results,Tryz.results148]
  rw[←HW1.out]
theorem idle58 (b2 b3:Nat)(w:World) :
  CallsD Tryz.prog 148 #[.pointer (some ⟨b2,0,none⟩),.pointer (some ⟨b3,0,none⟩)] .returning w fun e u' w'=>e= .returned (.tuple #[])∧u'= .returning∧w'=w:=by
 refine callsD_of_wpS Tryz.func148 rfl fun c₀ cs hu=>?_
 apply wpS_seq
 apply wpS_region
 simp[wpOpsS,go_sem,recoverD,hu,Tryz.ntmps148,Exit.thenS]
 refine wpS_of_wp ?_;simp only[jI,jJ,jO,zN,jL,jK,jA,jC,jB]
 go_wp2_with fail
 cases c₀
 simp_all [bodyPostS,results,Tryz.results148]
theorem pan33 {a:Act}{wc:World}{R:Ending→World→Prop}{c2 c2' c3:Value}{b2 b3:Nat}{c:Int}(r2:wc.heap[b2]? =some (.cells #[c2,c2'] 24 (0,0)))(r3:wc.heap[b3]? =some (.cells #[c3] 29 (0,0)))(h23:b2≠b3)(h2:a.tmps.getD 2 undef= .pointer (some ⟨b2,0,none⟩))(h3:a.tmps.getD 3 undef= .pointer (some ⟨b3,0,none⟩))
  (hd:a.defers=[{target:=Target.fn (Fn.func 148) #[.pointer (some ⟨b2,0,none⟩),.pointer (some ⟨b3,0,none⟩)],args:= #[]}])
  (hR:R (.returned (.tuple #[.agg #[.string ⟨#[]⟩,.slice none 0 0],.int .i64 c])) ((((wc.alloc (.cells #[.string ⟨#[]⟩,.slice none 0 0] 24)).setCell ⟨b2,0,none⟩ (.string ⟨#[]⟩)).setCell ⟨b2,1,none⟩ (.slice none 0 0)).setCell ⟨b3,0,none⟩ (.int .i64 c)).drew):bodyPostD Tryz.prog Tryz.f116 R (Exit.panic (rej c)) a wc:=by
 have s2:=Dg.row_other (Dg.row_set (Dg.row_set (Dg.row_alloc r2 (.cells #[.string ⟨#[]⟩,.slice none 0 0] 24)) 0 (.string ⟨#[]⟩)) 1 (.slice none 0 0)) (i:=0) (c:=b3) (.int .i64 c) h23;have s3:=Dg.row_set (Dg.row_other (Dg.row_other (Dg.row_alloc r3 (.cells #[.string ⟨#[]⟩,.slice none 0 0] 24)) (i:=0) (c:=b2) (.string ⟨#[]⟩) (Ne.symm h23)) (i:=1) (c:=b2) (.slice none 0 0) (Ne.symm h23)) 0 (.int .i64 c);have h2':a.tmps[2]?.getD undef= .pointer (some ⟨b2,0,none⟩):=by simpa using h2
 have h3':a.tmps[3]?.getD undef= .pointer (some ⟨b3,0,none⟩):=by simpa using h3
 simp only[bodyPostD,hd];refine leaves_cons (f:=148) (args:= #[.pointer (some ⟨b2,0,none⟩),.pointer (some ⟨b3,0,none⟩)]) (by simp) (by simp[go_sem]) ?_;refine (catch58 b2 b3 c2 c2' c3 c [] wc r2 r3 h23).mono ?_;rintro e u' w'' ⟨rfl,rfl,rfl⟩;generalize ((((wc.alloc (.cells #[.string ⟨#[]⟩,.slice none 0 0] 24)).setCell ⟨b2,0,none⟩ (.string ⟨#[]⟩)).setCell ⟨b2,1,none⟩ (.slice none 0 0)).setCell ⟨b3,0,none⟩ (.int .i64 c))=wz at *;have q2:wz.drew.cell? ⟨b2,0,none⟩=some (.string ⟨#[]⟩):=(Dg.cell_row s2 0).trans rfl;have q2':wz.drew.cell? ⟨b2,1,none⟩=some (.slice none 0 0):=(Dg.cell_row s2 1).trans rfl;have q3:wz.drew.cell? ⟨b3,0,none⟩=some (.int .i64 c):=(Dg.cell_row s3 0).trans rfl;simp[Leaves,settle,results,Tryz.results116,go_sem,q2,q2',q3,h2',h3']
 exact hR
theorem ret33 {a:Act}{wc:World}{R:Ending→World→Prop}{c2 c2' c3:Value}{b2 b3:Nat}(r2:wc.heap[b2]? =some (.cells #[c2,c2'] 24 (0,0)))(r3:wc.heap[b3]? =some (.cells #[c3] 29 (0,0)))(h2:a.tmps.getD 2 undef= .pointer (some ⟨b2,0,none⟩))(h3:a.tmps.getD 3 undef= .pointer (some ⟨b3,0,none⟩))
  (hd:a.defers=[{target:=Target.fn (Fn.func 148) #[.pointer (some ⟨b2,0,none⟩),.pointer (some ⟨b3,0,none⟩)],args:= #[]}])
  (hR:R (.returned (.tuple #[.agg #[c2,c2'],c3])) wc):bodyPostD Tryz.prog Tryz.f116 R Exit.ret a wc:=by
 have q2:=(Dg.cell_row r2 0).trans rfl;have q2':=(Dg.cell_row r2 1).trans rfl;have q3:=(Dg.cell_row r3 0).trans rfl;have h2':a.tmps[2]?.getD undef= .pointer (some ⟨b2,0,none⟩):=by simpa using h2
 have h3':a.tmps[3]?.getD undef= .pointer (some ⟨b3,0,none⟩):=by simpa using h3
 simp only[bodyPostD,hd];refine leaves_cons (f:=148) (args:= #[.pointer (some ⟨b2,0,none⟩),.pointer (some ⟨b3,0,none⟩)]) (by simp) (by simp[go_sem]) ?_;refine (idle58 b2 b3 wc).mono ?_;rintro e u' w'' ⟨rfl,rfl,rfl⟩;simp[Leaves,settle,results,Tryz.results116,go_sem,q2,q2',q3,h2',h3']
 exact hR
structure FairI (its:List It):Prop where
 name:∀x∈its,x.name.length≤1100000
 after:∀x∈its,x.after.length≤1000000
theorem back1_any (its:List It)(v:Value)(w:World)(b:Nat)(hb:w.heap[b]? =some (.cells #[v] 28 (0,0)))(hIt:RdIt w v its)(hF:FairI its)(hT:Dg.Tab w) :
  Calls Tryz.prog 117 #[.pointer (some ⟨b,0,none⟩)] w fun e w'=>SagaC its w e w':=by
 have hb1:Below w.heap.size w (w.alloc (.cells #[.string ⟨#[]⟩,.slice none 0 0] 24)):=(Below.refl _ w).alloc (jG _) _;have r1:=Dg.row_alloc hb (.cells #[.string ⟨#[]⟩,.slice none 0 0] 24);have rn:=Dg.row_new w #[.string ⟨#[]⟩,.slice none 0 0] 24;have M:Hid _:=sagaOf_any its v _ (hIt.later hb1) hF.name (hT.later hb1) hF.after;obtain⟨ia,icap,rfl,_⟩:=hIt
 have g0:=(Dg.cell_row r1 0).trans rfl
 go_enter Tryz.func117,Tryz.ntmps117
 go_wp2_with fail
 generalize w.alloc (.cells #[.string ⟨#[]⟩,.slice none 0 0] 24)=w1 at *;have hz:w.heap.size < w1.heap.size:=(jD.1 rn).1;refine Calls.mono M.out ?_;rintro e w2 ⟨hb2,he⟩;clear M g0;cases hP:sagaP its with
 | none=>
  rw[hP] at he
  obtain rfl:e= .panicked (rej 2):=he
  go_wp2_with fail
  exact⟨rfl,SagaC.bad' hP (hb1.trans (hb2.mono hb1.size))⟩
 | some p=>
  obtain⟨x,t⟩:=p
  rw[hP] at he
  obtain⟨a,c,rfl,ht⟩:=he
  have rn2:=(hb2.block _ hz).trans rn;have g0:=(Dg.cell_row rn2 0).trans rfl;have g1:=(Dg.cell_row rn2 1).trans rfl;have f0:=Dg.froz_row rn2 0;have f1:=Dg.froz_row rn2 1;have HP:Hid _:=hP;have HT:Hid _:=ht;clear hP ht
  go_wp2_with fail
  obtain⟨t1,t2,t3,t4⟩:=two_row rn2 (.string ⟨x.toArray⟩) (.slice a t.len c)
  refine bodyPost_ret_by (results_cell_row rfl _ _ w.heap.size 24 _ (0,0) _ rfl t1 Tryz.underlying24 rfl (by kernel_rfl)) rfl (SagaC.ok' HP.out ((hb1.trans (hb2.mono hb1.size)).trans (t4 _ (jG _))) ?_);exact TAt.keep (fun b hb _=>t3 b (by have:=hb.1;omega)) (fun b hb _=>⟨by have:=hb.1;omega,by rw[t2];exact hb.2⟩) _ _ _ _ _ HT.out
def BackC (its:List It)(w:World)(e:Ending)(w':World):Prop:=Below w.heap.size w w'∧match sagaP its with
 | none=>e= .returned (.tuple #[.agg #[.string ⟨#[]⟩,.slice none 0 0],.int .i64 2])
 | some (x,t)=>∃a c,e= .returned (.tuple #[.agg #[.string ⟨x.toArray⟩,.slice a t.len c],.int .i64 0])∧TAt (Since w w') w' true t a 0 t.len
theorem BackC.bad {its:List It}{w w':World}(h:sagaP its=none)(hb:Below w.heap.size w w'):BackC its w (.returned (.tuple #[.agg #[.string ⟨#[]⟩,.slice none 0 0],.int .i64 2])) w':=by
 unfold BackC;rw[h]
 exact⟨hb,rfl⟩
theorem BackC.ok {its:List It}{w w':World}{x:By}{t:Tr}{a:Option Addr}{c:Nat}(h:sagaP its=some (x,t))(hb:Below w.heap.size w w')(ht:TAt (Since w w') w' true t a 0 t.len):BackC its w (.returned (.tuple #[.agg #[.string ⟨x.toArray⟩,.slice a t.len c],.int .i64 0])) w':=by
 unfold BackC;rw[h]
 exact⟨hb,a,c,rfl,ht⟩
theorem answer33 (its:List It)(v:Value)(w:World)(b:Nat)(hb:w.heap[b]? =some (.cells #[v] 28 (0,0)))(hIt:RdIt w v its)(hF:FairI its)(hT:Dg.Tab w) :
  Calls Tryz.prog 116 #[.func (Fn.func 117) #[] #[.pointer (some ⟨b,0,none⟩)]] w fun e w'=>BackC its w e w':=by
 have hb1:Below w.heap.size w ((w.alloc (.cells #[.string ⟨#[]⟩,.slice none 0 0] 24)).alloc (.cells #[.int .i64 0] 29)):=((Below.refl _ w).alloc (jG _) _).alloc (by simp) _;have r2:=Dg.row_alloc (Dg.row_new w #[.string ⟨#[]⟩,.slice none 0 0] 24) (.cells #[.int .i64 0] 29);have r3:=Dg.row_new (w.alloc (.cells #[.string ⟨#[]⟩,.slice none 0 0] 24)) #[.int .i64 0] 29;have rb:=Dg.row_alloc (Dg.row_alloc hb (.cells #[.string ⟨#[]⟩,.slice none 0 0] 24)) (.cells #[.int .i64 0] 29);rw[jV] at r3
 have M:Hid _:=back1_any its v _ b rb (hIt.later hb1) hF (hT.later hb1)
 go_enter_defers Tryz.func116,Tryz.ntmps116
 go_wp2_with fail
 generalize (w.alloc (.cells #[.string ⟨#[]⟩,.slice none 0 0] 24)).alloc (.cells #[.int .i64 0] 29)=w1 at *;have hz:w.heap.size+1 < w1.heap.size:=(jD.1 r3).1;refine Calls.mono M.out ?_;rintro e w2 ⟨hb2,he⟩;clear M;have hbw:=hb1.trans (hb2.mono hb1.size);have s2:=(hb2.block _ (by omega)).trans r2;have s3:=(hb2.block _ hz).trans r3;cases hP:sagaP its with
 | none=>
  rw[hP] at he
  obtain rfl:e= .panicked (rej 2):=he;refine pan33 s2 s3 (by omega) rfl rfl rfl (BackC.bad hP ?_);exact ((((hbw.alloc hbw.size _).setCell (jG _) _).setCell (jG _) _).setCell (by show _≤w.heap.size+1;omega) _).drew
 | some p=>
  obtain⟨x,t⟩:=p
  rw[hP] at he
  obtain⟨a,c,rfl,ht⟩:=he
  have HT:Hid _:=ht;have HP:Hid _:=hP;have z2:=(Dg.cell_row s2 0).trans rfl;have z2':=(Dg.cell_row s2 1).trans rfl;have f2:=Dg.froz_row s2 0;have f2':=Dg.froz_row s2 1;obtain⟨t1,t2,t3,t4⟩:=two_row s2 (.string ⟨x.toArray⟩) (.slice a t.len c)
  have s3':=(t3 _ (show w.heap.size+1≠w.heap.size by omega)).trans s3;have z3:=(Dg.cell_row s3' 0).trans rfl;have f3:=Dg.froz_row s3' 0;have hbE:=hbw.trans (t4 w.heap.size (jG _));have T1:Hid _:=t1;have S3:Hid _:=s3';have T2:Hid _:=t2;have T3:Hid _:=t3;have HBE:Hid _:=hbE;clear ht hP hbw s2 s3 s3' t1 t2 t3 t4 hbE
  go_wp2_with fail
  generalize (w2.setCell ⟨w.heap.size,0,none⟩ (.string ⟨x.toArray⟩)).setCell ⟨w.heap.size,1,none⟩ (.slice a t.len c)=w3 at *;refine ret33 (b2:=w.heap.size) (b3:=w.heap.size+1) (Dg.row_other T1.out (i:=0) (c:=w.heap.size+1) (.int .i64 0) (by omega)) (Dg.row_set S3.out 0 (.int .i64 0)) rfl rfl rfl (BackC.ok HP.out (HBE.out.setCell (by show _≤w.heap.size+1;omega) _) ?_);exact TAt.keep (fun b hb _=>(jW _ _ _ _ (by have:=hb.1;show b≠w.heap.size+1;omega)).trans (T3.out b (by have:=hb.1;omega))) (fun b hb _=>⟨by have:=hb.1;omega,by have h8:=T2.out;have:=hb.2;simp;omega⟩) _ _ _ _ _ HT.out
theorem Back_any (its:List It)(v:Value)(w:World)(hIt:RdIt w v its)(hF:FairI its)(hT:Dg.Tab w) :
  Calls Tryz.prog 82 #[.agg #[v]] w fun e w'=>BackC its w e w':=by
 have hb1:Below w.heap.size w ((w.alloc (.cells #[v] 28)).alloc (.cells #[.string ⟨#[]⟩,.slice none 0 0] 24)):=((Below.refl _ w).alloc (jG _) _).alloc (by simp) _;have r1:=Dg.row_alloc (Dg.row_new w #[v] 28) (.cells #[.string ⟨#[]⟩,.slice none 0 0] 24);have r2:=Dg.row_new (w.alloc (.cells #[v] 28)) #[.string ⟨#[]⟩,.slice none 0 0] 24;rw[jV] at r2
 have M:Hid _:=answer33 its v _ w.heap.size r1 (hIt.later hb1) hF (hT.later hb1);obtain⟨ia,icap,rfl,_⟩:=hIt
 go_enter Tryz.func82,Tryz.ntmps82
 go_wp2_with fail
 generalize (w.alloc (.cells #[.slice ia its.length icap] 28)).alloc (.cells #[.string ⟨#[]⟩,.slice none 0 0] 24)=w1 at *;have hz:w.heap.size+1 < w1.heap.size:=(jD.1 r2).1;refine Calls.mono M.out ?_;rintro e w2 ⟨hb2,he⟩;clear M;have hbw:=hb1.trans (hb2.mono hb1.size);have s2:=(hb2.block _ hz).trans r2;have z2:=(Dg.cell_row s2 0).trans rfl;have z2':=(Dg.cell_row s2 1).trans rfl;have f2:=Dg.froz_row s2 0;have f2':=Dg.froz_row s2 1;have S2:Hid _:=s2;have HBW:Hid _:=hbw;clear s2 hbw;cases hP:sagaP its with
 | none=>
  rw[hP] at he
  have HP:Hid _:=hP;obtain rfl:e= .returned (.tuple #[.agg #[.string ⟨#[]⟩,.slice none 0 0],.int .i64 2]):=he;clear hP
  go_wp2_with fail
  obtain⟨t1,t2,t3,t4⟩:=two_row S2.out (.string ⟨#[]⟩) (.slice none 0 0)
  have q2:=(Dg.cell_row t1 0).trans rfl;have q2':=(Dg.cell_row t1 1).trans rfl;exact bodyPost_ret_by (by simp[results,Tryz.results82,go_sem,q2,q2']) rfl (BackC.bad HP.out (HBW.out.trans (t4 w.heap.size (by omega))))
 | some p=>
  obtain⟨x,t⟩:=p
  rw[hP] at he
  obtain⟨a,c,rfl,ht⟩:=he
  have HT:Hid _:=ht;have HP:Hid _:=hP;clear ht hP
  go_wp2_with fail
  obtain⟨t1,t2,t3,t4⟩:=two_row S2.out (.string ⟨x.toArray⟩) (.slice a t.len c)
  have q2:=(Dg.cell_row t1 0).trans rfl;have q2':=(Dg.cell_row t1 1).trans rfl;refine bodyPost_ret_by (by simp[results,Tryz.results82,go_sem,q2,q2']) rfl (BackC.ok (a:=a) (c:=c) HP.out (HBW.out.trans (t4 w.heap.size (by omega))) ?_);exact TAt.keep (fun b hb _=>t3 b (by have:=hb.1;omega)) (fun b hb _=>⟨by have:=hb.1;omega,by rw[t2];exact hb.2⟩) _ _ _ _ _ HT.out
theorem Right_any (its:List It)(v:Value)(w:World)(hIt:RdIt w v its)(hF:FairI its)(hT:Dg.Tab w) :
  Calls Tryz.prog 52 #[.agg #[v]] w fun e w'=>e= .returned (.bool (sagaP its).isSome)∧Below w.heap.size w w':=by
 have hb1:Below w.heap.size w (w.alloc (.cells #[v] 28)):=(Below.refl _ w).alloc (jG _) _;have r1:=Dg.row_new w #[v] 28;have M:Hid _:=Back_any its v _ (hIt.later hb1) hF (hT.later hb1);obtain⟨ia,icap,rfl,_⟩:=hIt
 have g0:=(Dg.cell_row r1 0).trans rfl
 go_enter Tryz.func52,Tryz.ntmps52
 go_wp2_with fail
 generalize w.alloc (.cells #[.slice ia its.length icap] 28)=w1 at *;refine Calls.mono M.out ?_;rintro e w2 ⟨hb2,he⟩;clear M g0;have HBW:Hid _:=hb1.trans (hb2.mono hb1.size);have hz:=hb1.size;have hz2:=hb2.size;cases hP:sagaP its with
 | none=>
  rw[hP] at he
  obtain rfl:e= .returned (.tuple #[.agg #[.string ⟨#[]⟩,.slice none 0 0],.int .i64 2]):=he;have HP:Hid _:=hP;clear hP
  go_wp2_with fail
  go_ret
  rw[HP.out]
  exact⟨rfl,HBW.out.alloc (by omega) _⟩
 | some p=>
  obtain⟨x,t⟩:=p
  rw[hP] at he
  obtain⟨a,c,rfl,ht⟩:=he
  have HP:Hid _:=hP;clear ht hP
  go_wp2_with fail
  go_ret
  rw[HP.out]
  exact⟨rfl,HBW.out.alloc (by omega) _⟩
theorem inf97:(Tryz.prog.info? 106).map (fun i=>(i.zero,i.size,i.bytes))=some (some (.agg #[.int .i64 0,.int .i64 0]),2,16):=by kernel_rfl
def spV:List It→List Value
 | []=>[]
 | x :: r=> .int .i64 x.inn :: .int .i64 x.alt :: spV r
theorem spV_append:∀(l m:List It),spV (l ++m)=spV l ++spV m
 | [],_=>rfl
 | x :: r,m=>by simp[spV,spV_append r m]
theorem spV_at:∀(l:List It) (i:Nat) (x:It),l[i]? =some x→(spV l)[i * 2]? =some (.int .i64 x.inn)∧(spV l)[i * 2+1]? =some (.int .i64 x.alt)
 | [],i,x,h=>by simp at h
 | y :: r,0,x,h=>by simp at h;subst h;exact⟨rfl,rfl⟩
 | y :: r,i+1,x,h=>by
  have:=spV_at r i x (by simpa using h);rw[show (i+1) * 2=i * 2+2 by omega]
  exact this
theorem right_facts {its:List It}{p:By × Tr}(h:sagaP its=some p):its.length≤64∧arcN its≤1000000∧Dg.Small (arcP its)∧(arcP its).length≤8192∧∃W o,Dg.weaveP (its.length:Int) (Dg.swapA (arcP its))= .ok W o:=by
 unfold sagaP at h
 split at h
 ·rename_i hc
  have hp:=hc.2;have hf:=fit_cnt (planT_fit hp);unfold planT planP at hp
  split at hp
  ·rename_i hd
   have hl:=xsT_len (bodS its) 0 0 0;have he:=Option.some.inj hp;have ho:=hd.2.2.2;have hn63:(xsT (bodS its) 0 0 0).length < 64:=by omega
   have h1:=arcN_le (nameI its 0) (bodS its).len (xsT (bodS its) 0 0 0) (xsT (bodS its) 0 0 0).length hn63;have h2:=arcP_small (nameI its 0) (bodS its).len (xsT (bodS its) 0 0 0) (xsT (bodS its) 0 0 0).length hn63;have h3:=its2_len (nameI its 0) (bodS its).len (xsT (bodS its) 0 0 0) (xsT (bodS its) 0 0 0).length;rw[he] at h1 h2 h3 ho
   unfold ordOk at ho;cases hw:Dg.weaveP (its.length:Int) (arcP its) with
   | bad c=>rw[hw] at ho;cases ho
   | ok W o=>
    have hlen:(arcP its).length≤4096:=by
     unfold Dg.weaveP at hw
     split at hw
     ·cases hw
     ·rename_i hx
      simp only[not_or] at hx;omega
    refine⟨by omega,h1,h2,by omega,?_⟩
    rcases Dg.weave_turn (its.length:Int) (arcP its) with ⟨c,h9,_⟩ | ⟨o1,o2,_,h9⟩
    ·rw[hw] at h9;cases h9
    ·exact⟨_,_,h9⟩
  ·cases hp
 ·cases h
structure SeS (w:World)(v:Value)(its:List It)(vb k:Nat)(A:World)(sv:Value):Prop where
 bel:Below w.heap.size w A
 box:A.heap[w.heap.size]? =some (.cells #[v] 28 (0,0))
 vw:A.heap[vb]? =some (.cells #[sv,.slice none 0 0] 144 (0,0))
 ge:w.heap.size < vb
 own:A.ownsRow w.heap.size 106 2 sv k (spV (its.take k))
theorem SeS.later {w:World}{v:Value}{its:List It}{vb k:Nat}{A B:World}{sv:Value}(h:SeS w v its vb k A sv)(hb:Below A.heap.size A B):SeS w v its vb k B sv:=by
 have hlt:∀{b:Nat} {o:Obj},A.heap[b]? =some o→b < A.heap.size:=fun h=>(jD.1 h).1
 exact⟨h.bel.trans (hb.mono h.bel.size),(hb.block _ (hlt h.box)).trans h.box,(hb.block _ (hlt h.vw)).trans h.vw,h.ge,own_below h.own hb⟩
theorem SeS.push {w:World}{v:Value}{its:List It}{vb k:Nat}{A B:World}{sv:Value}(h:SeS w v its vb k A sv)(y:It)(hy:its[k]? =some y)(hb:Below A.heap.size A B)(hk:k≤100000) :
  ∃ua m uc W3,(Builtin.append_ #[141,141] 141 #[sv,.slice (some ⟨B.heap.size,0,none⟩) 1 1]).run Tryz.prog (B.alloc (.cells #[.int .i64 y.inn,.int .i64 y.alt] 106))= .ok (.slice ua m uc) W3∧(B.alloc (.cells #[.int .i64 y.inn,.int .i64 y.alt] 106)).grownBy W3 sv.ownBlock∧W3.heap[vb]? =some (.cells #[sv,.slice none 0 0] 144 (0,0))∧
   SeS w v its vb (k+1) (W3.setCell ⟨vb,0,none⟩ (.slice ua m uc)) (.slice ua m uc):=by
 obtain⟨i0,hi0,hz0,hz1,hz2⟩:=info_parts inf97
 have hB2:Below A.heap.size A (B.alloc (.cells #[.int .i64 y.inn,.int .i64 y.alt] 106)):=hb.alloc hb.size _;have h2:=h.later hB2;have hcl:∀(j:Nat) (u:Value),([.int .i64 y.inn,.int .i64 y.alt]:List Value)[j]? =some u→(B.alloc (.cells #[.int .i64 y.inn,.int .i64 y.alt] 106)).cell? ((⟨B.heap.size,0,none⟩:Addr).add j)=some u:=by
  intro j u hj;rw[Go.WideShapes.add_plain,zD,Dg.cell_row (Dg.row_new B #[.int .i64 y.inn,.int .i64 y.alt] 106),←Array.getElem?_toList]
  exact hj
 obtain⟨u',W3,hr3,ho3,hg3,_,hat3⟩:=run_append_own_at (P:=Tryz.prog) (B.alloc (.cells #[.int .i64 y.inn,.int .i64 y.alt] 106)) w.heap.size 141 141 106 i0 _ 2 _ Tryz.underlying141 hi0 hz0 hz1 hz2 rfl (by decide) sv _ _ h2.own ⟨B.heap.size,0,none⟩ 1 1 [.int .i64 y.inn,.int .i64 y.alt] rfl hcl (by intro u hu;simp at hu;rcases hu with rfl | rfl <;> rfl) (by unfold maxLen;omega) (by omega) h2.bel.size
 obtain⟨ua,uc,rfl⟩:=own_slice ho3
 have hlt:∀{b:Nat} {o:Obj},(B.alloc (.cells #[.int .i64 y.inn,.int .i64 y.alt] 106)).heap[b]? =some o→b < (B.alloc (.cells #[.int .i64 y.inn,.int .i64 y.alt] 106)).heap.size:=fun h=>(jD.1 h).1
 have hv3:W3.heap[vb]? =some (.cells #[sv,.slice none 0 0] 144 (0,0)):=(hg3.block _ (hlt h2.vw) (own_other h2.own h2.vw (by decide))).trans h2.vw;have hb3:W3.heap[w.heap.size]? =some (.cells #[v] 28 (0,0)):=(hg3.block _ (hlt h2.box) (own_other h2.own h2.box (by decide))).trans h2.box;have hge:=h.ge;refine⟨ua,_,uc,W3,hr3,hg3,hv3,?_,?_,?_,hge,?_⟩
 ·refine (h2.bel.trans ⟨hg3.os,hg3.tape,hg3.output,hg3.size,fun b hb'=>hg3.block b (by have:=h2.bel.size;omega) (fun e=>?_)⟩).setCell (by show _≤vb;omega) _;have:=(own_exists h2.own b e.symm).1;omega
 ·exact Dg.row_other hb3 _ (by omega)
 ·exact Dg.row_set hv3 0 _
 ·rw[zL,hy]
  have h9:W3.ownsRow w.heap.size 106 2 (.slice ua (k+1) uc) (k+1) (spV (its.take k ++ (some y).toList)):=by
   rw[spV_append]
   exact ho3
  exact own_agree (G:=fun b=>b≠vb) (fun b hb'=>jW _ _ _ _ hb') h9 (fun b hb' e=>own_other h9 hv3 (by decide) (e ▸ hb'.symm))
def SeeC (its:List It)(w:World)(e:Ending)(w':World):Prop:=Below w.heap.size w w'∧match sagaP its with
 | none=>e= .returned (.tuple #[.pointer none,.int .i64 2])
 | some _=>∃b W o,e= .returned (.tuple #[.pointer (some ⟨b,0,none⟩),.int .i64 0])∧w.heap.size≤b∧Dg.weaveP (its.length:Int) (Dg.swapA (arcP its))= .ok W o∧VwAt w' b its (Dg.reachL W o)
theorem SeeC.bad {its:List It}{w w':World}(h:sagaP its=none)(hb:Below w.heap.size w w'):SeeC its w (.returned (.tuple #[.pointer none,.int .i64 2])) w':=by
 unfold SeeC;rw[h]
 exact⟨hb,rfl⟩
theorem SeeC.ok {its:List It}{w w':World}{p:By × Tr}{b:Nat}{W o:List Nat}(h:sagaP its=some p)(hb:Below w.heap.size w w')(hz:w.heap.size≤b)(hw:Dg.weaveP (its.length:Int) (Dg.swapA (arcP its))= .ok W o)(hv:VwAt w' b its (Dg.reachL W o)):SeeC its w (.returned (.tuple #[.pointer (some ⟨b,0,none⟩),.int .i64 0])) w':=by
 unfold SeeC;rw[h]
 exact⟨hb,b,W,o,rfl,hz,hw,hv⟩
end Go.Proofs.YtieoppabellafaaGreatDoor
namespace Go.Proofs.YtieoppabellafaaGreatDoor.Dg
open Go.RowKit Go.Shelf
def ReachQ (n:Int)(l:List (Int × Int))(w:World)(e:Ending)(w':World):Prop:=Below w.heap.size w w'∧match weaveP n l with
 | .bad c=>e= .returned (.tuple #[.slice none 0 0,.int .i64 c])
 | .ok W o=>∃q,e= .returned (.tuple #[.slice (some ⟨q,0,none⟩) n.toNat n.toNat,.int .i64 0])∧w.heap.size≤q∧RowsI w' q n.toNat n.toNat (reachL W o)∧(reachL W o).length=n.toNat
theorem RowsI.keep {w w':World}{q k n:Nat}{L:List (List Nat)}(h:RowsI w q k n L)(hk:∀b,q≤b→b < w.heap.size→w'.heap[b]? =w.heap[b]?):RowsI w' q k n L:=by
 obtain⟨Vs,h1,h2,h3⟩:=h
 refine⟨Vs,(hk q (jG _) (jD.1 h1).1).trans h1,h2,fun i hi=>?_⟩
 obtain⟨v,a,va,cap,hv,hc,hr⟩:=h3 i hi
 refine⟨v,a,va,cap,hv,hc,fun j x hj=>?_⟩
 obtain⟨b,off,ha,hq,c0⟩:=hr j x hj
 exact⟨b,off,ha,hq,(zI (a:=⟨b,off+j,none⟩) (hk b (by omega) (lt_of_cell? c0))).trans c0⟩
theorem Reach_rows (n:Int)(v:Value)(l:List (Int × Int))(w:World)(hl:RdA w v l)(hT:Tab w) :
  Calls Tryz.prog 66 #[.int .i64 n,v] w fun e w'=>ReachQ n l w e w':=by
 have M:Hid (Calls Tryz.prog 80 #[.int .i64 n,v] w fun e w'=>WvC n l w e w'):=weave_any n v l w hl hT;have HT:Hid (Tab w):=hT;obtain⟨a,cap,rfl,_⟩:=hl
 clear hT;unfold WvC at M;unfold ReachQ;cases hP:weaveP n l with
 | bad c=>
  rw[hP] at M
  have hc:((c==0))=false:=by rcases weaveP_code hP with rfl | rfl <;> rfl
  go_enter Tryz.func66,Tryz.ntmps66
  go_wp2_with fail
  refine Calls.mono M.out ?_;rintro e w1 ⟨hb,rfl⟩
  go_wp2_with fail
  go_ret2
  exact⟨hb,rfl⟩
 | ok W o=>
  rw[hP] at M
  obtain⟨⟨hn0,hn64⟩,_,_,hWok,hWl,hOk,hol⟩:=weave_facts hP
  obtain⟨m,rfl⟩:∃m:Nat,n=(m:Int):=⟨n.toNat,by omega⟩
  simp only[j8] at hWl hol M ⊢;have hm:m≤64:=by omega
  obtain⟨i0,hi0,hz0,hz1,hz2⟩:=info_parts Tryz.info48
  clear hn0 hn64
  go_enter Tryz.func66,Tryz.ntmps66
  go_wp2_with fail
  refine Calls.mono M.out ?_;rintro e w1 ⟨hb,v1,v2,rfl,hU,hI,h1,h2⟩;have hmk:=run_make (P:=Tryz.prog) w1 142 48 i0 _ Tryz.underlying142 hi0 hz0 .i64 .i64 (m:Int) (m:Int) (by omega) (by omega) (by rw[hz2];omega) (by omega);simp only[hz1,j8,Nat.mul_one] at hmk;have HB1:Hid (Below w.heap.size w w1):=hb;have hBA:Below w1.heap.size w1 (w1.alloc (.cells (madeCells #[Value.slice none 0 0] m) 48)):=(Below.refl _ _).alloc (jG _) _;have HB2:Hid (Below w1.heap.size w1 (w1.alloc (.cells (madeCells #[Value.slice none 0 0] m) 48))):=hBA;have HR0:Hid (RowsI (w1.alloc (.cells (madeCells #[Value.slice none 0 0] m) 48)) w1.heap.size 0 m (reachL W o)):=⟨List.replicate m (.slice none 0 0),by rw[←made_nil];exact row_new w1 _ 48,by simp,fun i hi=>by omega⟩;have HZ0:Hid (w1.heap.size < (w1.alloc (.cells (madeCells #[Value.slice none 0 0] m) 48)).heap.size):=by show _ < _;simp
  have M2:Hid _:=reach_any W o v1 v2 _ (hU.later hBA) (hI.later hBA) (by omega) (by omega) hWok (fun x hx=>hOk.lt x hx) ((HT.out.later hb).later hBA);have HT1:Hid (Tab w1):=HT.out.later hb;obtain⟨a1,cap1,rfl,_⟩:=hU
  obtain⟨a2,cap2,rfl,_⟩:=hI
  clear hBA;rw[hWl] at M2 ⊢
  rw[hol] at M2 ⊢
  go_wp2_with fail
  generalize w1.alloc (.cells (madeCells #[Value.slice none 0 0] m) 48)=w2 at *;refine Calls.mono M2.out ?_;rintro e w3 ⟨hb3,b,hbq,rfl,hRow,hRl⟩;have HRow:Hid (RowU w3 b (reachP W o)):=hRow;have HLL:Hid ((reachL W o).length=m):=by show _=_;unfold reachL;rw[zG,hRl]
  have HGet:Hid (∀i,i < m→(reachL W o).getD i []=bitsOf ((reachP W o).getD i 0)):=by
   show ∀i,_
   intro i hi;unfold reachL;rw[jU,zC,jU,jF (by rw[hRl];exact hi)]
   rfl
  have HB3:Hid (Below w1.heap.size w1 w3):=HB2.out.trans (hb3.mono HB2.out.size);have HR3:Hid (RowsI w3 w1.heap.size 0 m (reachL W o)):=HR0.out.later hb3;have HZ3:Hid (w1.heap.size < w3.heap.size):=by have:=hb3.size;have:=HZ0.out;show _ < _;omega
  have HBq:Hid (w1.heap.size < b):=by have:=HZ0.out;show _ < _;omega
  have HRl:Hid ((reachP W o).length=m):=hRl;clear hRow hbq hb3 HR0 HZ0 M2 HB2 M;generalize reachP W o=R at *
  go_wp2_with fail
  go_loopw [10,11,28] (fun _ _ iv wr=>∃(k:Nat),k≤m∧iv= .int .i64 k∧Hid (RowsI wr w1.heap.size k m (reachL W o))∧Hid (RowU wr b R)∧Hid (Below w1.heap.size w1 wr)∧Hid (w1.heap.size < wr.heap.size)) (fun _ _ iv _=>m - (intOf iv).toNat)
  case atStart=>exact⟨0,zE _,rfl,HR3,HRow,HB3,HZ3⟩
  case round=>
   obtain⟨k,hk,rfl,HRs,HRw,HBk,HZk⟩:=hrel
   rename World=>w4
   clear HR3 HRow HB3 HZ3
   by_cases hlt:k < m
   ·obtain⟨r1,r2,r3⟩:=HRw.out.get k (by rw[HRl.out];exact hlt)
    have M4:Hid _:=nodes_any (R.getD k 0) r3 w4 (HT1.out.later HBk.out);have HGk:=HGet.out k hlt;generalize R.getD k 0=y at *;have hki:(k:Int) < (m:Int):=by omega
    go_wp2_with fail
    refine Calls.mono M4.out ?_;rintro e w5 ⟨nv,rfl,hb5,hown⟩;obtain⟨u,c1,c2⟩:=(HRs.out.later hb5).get k hlt
    obtain⟨na,nc,hnv,_⟩:=RdI.of_own hown
    have HR5:Hid (RowsI (w5.setCell ⟨w1.heap.size,k,none⟩ nv) w1.heap.size (k+1) m (reachL W o)):=(HRs.out.later hb5).set nv hlt (by rw[HGk];exact RdF.of_own HZk.out hown);have HW5:Hid (RowU (w5.setCell ⟨w1.heap.size,k,none⟩ nv) b R):=⟨row_other (HRw.out.below hb5).row nv (by have:=HBq.out;omega),HRw.out.lt⟩;have HB5:Hid (Below w1.heap.size w1 (w5.setCell ⟨w1.heap.size,k,none⟩ nv)):=(HBk.out.trans (hb5.mono HBk.out.size)).setCell (p:=⟨w1.heap.size,k,none⟩) (jG _) _;have HZ5:Hid (w1.heap.size < (w5.setCell ⟨w1.heap.size,k,none⟩ nv).heap.size):=by have:=hb5.size;have:=HZk.out;show _ < _;simp;omega
    clear hown hb5 HRs HRw HBk HZk;subst hnv
    go_wp2_with fail
    go_roundw
    case rel=>exact⟨k+1,by omega,by go_num,HR5,HW5,HB5,HZ5⟩
    case measure=>simp[intOf];omega
   ·have hkm:k=m:=by omega
    subst hkm
    go_wp2_with fail
    go_ret2
    exact⟨HB1.out.trans (HBk.out.mono HB1.out.size),_,rfl,HB1.out.size,HRs.out,HLL.out⟩
end Go.Proofs.YtieoppabellafaaGreatDoor.Dg
namespace Go.Proofs.YtieoppabellafaaGreatDoor
open Go.RowKit Go.Shelf Sx
theorem RdSp.of_own {A:World}{base:Nat}{sv:Value}{its:List It}(h:A.ownsRow base 106 2 sv its.length (spV its)):RdSp A sv its:=by
 have hl:(spV its).length=its.length * 2:=by
  clear h
  induction its with
  | nil=>rfl
  | cons x r ih=>simp only[spV,jM,ih];omega
 rcases h.2 with ⟨rfl,h0⟩ | ⟨g,cap,cur,rfl,_,_,hc,_⟩
 ·have:its=[]:=List.length_eq_zero_iff.1 h0;subst this;exact⟨none,0,rfl,jG _,fun i x hi=>by simp at hi⟩
 ·refine⟨_,cap,rfl,hc,fun i x hi=>?_⟩
  have hil:=(jH.1 hi).1;obtain⟨h1,h2⟩:=spV_at its i x hi
  refine⟨g,0,rfl,?_,?_⟩
  ·rw[zD,h.cellAt (i * 2) (by omega)]
   exact h1
  ·rw[zD,h.cellAt (i * 2+1) (by omega)]
   exact h2
theorem See_any (its:List It)(v:Value)(w:World)(hIt:RdIt w v its)(hF:FairI its)(hT:Dg.Tab w) :
  Calls Tryz.prog 36 #[.agg #[v]] w fun e w'=>SeeC its w e w':=by
 have HIt:Hid (RdIt w v its):=hIt;have HTb:Hid (Dg.Tab w):=hT;have hb1:Below w.heap.size w (w.alloc (.cells #[v] 28)):=(Below.refl _ w).alloc (jG _) _;have r1:=Dg.row_new w #[v] 28;have M:Hid _:=Right_any its v _ (hIt.later hb1) hF (hT.later hb1);clear hT;obtain⟨ia,icap,rfl,hic,hir⟩:=hIt
 have g0:=(Dg.cell_row r1 0).trans rfl
 go_enter Tryz.func36,Tryz.ntmps36
 go_wp2_with fail
 generalize w.alloc (.cells #[.slice ia its.length icap] 28)=w1 at *;have hz1:w.heap.size < w1.heap.size:=(jD.1 r1).1;refine Calls.mono M.out ?_;rintro e w2 ⟨rfl,hb2⟩;clear M g0;have hbl2:=hb1.trans (hb2.mono hb1.size);have s1:=(hb2.block _ hz1).trans r1;have hz2:=jR hz1 hb2.size;clear r1 hz1 hb1 hb2;cases hP:sagaP its with
 | none=>
  have HP:Hid _:=hP;clear hP
  go_wp2_with fail
  go_ret2
  exact SeeC.bad HP.out hbl2
 | some p=>
  have HP:Hid _:=hP;obtain⟨h64,hN,hSm,h8k,W,o,hW⟩:=right_facts hP
  clear hP;have g0:=(Dg.cell_row (Dg.row_alloc s1 (.cells #[.slice none 0 0,.slice none 0 0] 144)) 0).trans rfl;have HS0:Hid (SeS w (.slice ia its.length icap) its w2.heap.size 0 (w2.alloc (.cells #[.slice none 0 0,.slice none 0 0] 144)) (.slice none 0 0)):=⟨hbl2.alloc hbl2.size _,Dg.row_alloc s1 _,Dg.row_new w2 _ 144,hz2,zT _ _ _ _⟩;obtain⟨il,HIL⟩:∃il,Hid (its.length=il):=⟨_,rfl⟩
  have HIR:Hid _:=hir;have HN:Hid _:=hN;have HSm:Hid _:=hSm;have H8:Hid _:=h8k;have HW:Hid _:=hW;have hil:il≤64:=by rw[←HIL.out];exact h64
  rw[HIL.out] at hic HS0 g0 ⊢
  clear hir hN hSm h8k hW h64 s1 hbl2
  go_wp2_with fail
  generalize w2.alloc (.cells #[.slice none 0 0,.slice none 0 0] 144)=w3 at *;clear g0;obtain⟨vb,hvb⟩:∃vb,w2.heap.size=vb:=⟨_,rfl⟩
  rw[hvb] at HS0 ⊢
  go_loopw [15] (fun kv wr=>∃(k:Nat) (sv:Value),k≤il∧kv= .int .i64 k∧Hid (SeS w (.slice ia il icap) its vb k wr sv)) (fun kv _=>il - (intOf kv).toNat)
  case atStart=>exact⟨0,_,zE _,rfl,HS0⟩
  case round=>
   obtain⟨k,sv,hk,rfl,HS⟩:=hrel
   rename World=>w4
   clear HS0
   by_cases hlt:k < il
   rotate_left
   ·have hke:k=il:=by omega
    subst hke
    go_wp2_with fail
    have hS0:w4.drew.heap[w.heap.size]? =some (.cells #[(.slice ia k icap)] 28 (0,0)):=HS.out.box;have hbd:Below w4.heap.size w4 w4.drew:=(Below.refl _ _).drew;have MA:=arcs_any its _ w4.drew (HIt.out.later (HS.out.bel.drew)) (by rw[HIL.out];omega) HN.out;rw[HIL.out] at MA
    refine wp_region_held (S:=fun w'=>w'.heap[w.heap.size]? =some (.cells #[(.slice ia k icap)] 28 (0,0))) (by kernel_rfl) ?_;simp only[jN,jM,jP,Nat.reduceAdd,jI,jJ,jO,jL,jK];refine tK 0 32 (.pointer (some ⟨vb,0,none⟩)) 14 rfl hS0 ?_;refine tG 1 33 (.pointer (some ⟨w.heap.size,0,none⟩)) 13 rfl hS0 ?_;refine tV 2 34 (.slice ia k icap) 12 rfl hS0 ?_ (fun w9 hw9=>by have z0:=(Dg.cell_row hw9 0).trans rfl;go_simp);refine tG 3 35 (.int .i64 (k:Int)) 11 rfl hS0 ?_;refine tG 4 36 (.pointer (some ⟨w.heap.size,0,none⟩)) 10 rfl hS0 ?_;refine tV 5 37 (.slice ia k icap) 9 rfl hS0 ?_ (fun w9 hw9=>by have z0:=(Dg.cell_row hw9 0).trans rfl;go_simp);refine wpAnyH_all (fuel:=8) (rs:=[6]) (by kernel_rfl) (by decide) ?_;refine jE.2 ?_;refine wpOp_calls (i:=6) (d:=38) rfl rfl (by kernel_rfl) (f:=49) (args:= #[(.slice ia k icap)]) (by kernel_rfl) _ MA ?_ (fun _ _ h=>by obtain⟨_,_,h9,_⟩:=h;cases h9) (fun _ h=>by obtain⟨_,_,h9,_⟩:=h;cases h9);rintro vA W5 ⟨hb5,u5,h5,ho5⟩;cases h5;have hb45:=hbd.trans (hb5.mono (jG _));have hS5:=HS.out.later hb45;refine⟨hS5.box,?_⟩
    simp only[jA,jB,jC];have MT:=Dg.Turn_any vA (arcP its) W5 (Dg.RdA.of_own ho5 HSm.out) H8.out;refine wpAnyH_all (fuel:=7) (rs:=[7]) (by kernel_rfl) (by decide) ?_;refine jE.2 ?_;refine wpOp_calls (i:=7) (d:=39) rfl rfl (by kernel_rfl) (f:=67) (args:= #[vA]) (by kernel_rfl) _ MT ?_ (fun _ _ h=>by obtain⟨_,_,h9,_⟩:=h;cases h9) (fun _ h=>by obtain⟨_,_,h9,_⟩:=h;cases h9);rintro vB W6 ⟨hb6,u6,h6,hr6⟩;cases h6;have hS6:=hS5.later hb6;refine⟨hS6.box,?_⟩
    simp only[jA,jB,jC];have MR:=Dg.Reach_rows (k:Int) vB (Dg.swapA (arcP its)) W6 hr6 (Dg.Tab.later HTb.out hS6.bel);have hW:=HW.out;rw[HIL.out] at hW
    unfold Dg.ReachQ at MR;rw[hW] at MR
    simp only[j8] at MR;refine wpAnyH_all (fuel:=6) (rs:=[8]) (by kernel_rfl) (by decide) ?_;refine jE.2 ?_;refine wpOp_calls (i:=8) (d:=40) rfl rfl (by kernel_rfl) (f:=66) (args:= #[.int .i64 (k:Int),vB]) (by kernel_rfl) _ MR ?_ (fun _ _ h=>by obtain⟨_,_,h9,_⟩:=h;cases h9) (fun _ h=>by obtain⟨_,_,h9,_⟩:=h;cases h9);rintro vC W7 ⟨hb7,q,h7,hq7,hR7,hL7⟩;cases h7;have hS7:=hS6.later hb7;refine⟨hS7.box,?_⟩
    simp only[jA,jB,jC];refine tK 9 31 (.tuple #[(.slice (some ⟨q,0,none⟩) k k),.int .i64 0]) 5 rfl hS7.box ?_;refine tK 10 41 ((.slice (some ⟨q,0,none⟩) k k)) 4 rfl hS7.box ?_;refine tK 11 42 (.int .i64 0) 3 rfl hS7.box ?_;refine tG 12 43 (.pointer (some ⟨vb,0,none⟩)) 2 rfl hS7.box ?_;refine tG 13 44 (.pointer (some ⟨vb,1,none⟩)) 1 rfl hS7.box ?_;refine wpAnyH_all (fuel:=0) (rs:=[14]) (by kernel_rfl) (by decide) ?_;refine jE.2 ?_;have c1:=(Dg.cell_row hS7.vw 1).trans rfl;have f1:=Dg.froz_row hS7.vw 1;refine wpOp_skip (i:=14) (w':=W7.setCell ⟨vb,1,none⟩ (.slice (some ⟨q,0,none⟩) k k)) rfl rfl (by kernel_rfl) (by go_simp) ?_;have hge:=hS7.ge;refine⟨Dg.row_other hS7.box _ (by omega),by kernel_rfl,?_⟩
    have hvlt:vb < W6.heap.size:=(jD.1 hS6.vw).1;have rv:=Dg.row_set hS7.vw 1 (.slice (some ⟨q,0,none⟩) k k);have hbE:Below w.heap.size w (W7.setCell ⟨vb,1,none⟩ (.slice (some ⟨q,0,none⟩) k k)):=hS7.bel.setCell (by show _≤vb;omega) _;have hownE:=own_agree (G:=fun b=>b≠vb) (A:=W7) (B:=W7.setCell ⟨vb,1,none⟩ (.slice (some ⟨q,0,none⟩) k k)) (fun b hb'=>jW _ _ _ _ hb') hS7.own (fun b hb' e=>own_other hS7.own hS7.vw (by decide) (e ▸ hb'.symm));have hownF:(W7.setCell ⟨vb,1,none⟩ (.slice (some ⟨q,0,none⟩) k k)).ownsRow w.heap.size 106 2 sv its.length (spV its):=by
     rw[show its.take k=its from by rw[←HIL.out,List.take_length]] at hownE
     rw[HIL.out]
     exact hownE
    have hRE:Dg.RowsI (W7.setCell ⟨vb,1,none⟩ (.slice (some ⟨q,0,none⟩) k k)) q k k (Dg.reachL W o):=hR7.keep (fun b h1 _=>jW _ _ _ _ (by show b≠vb;omega));rw[←hL7] at hRE
    have hVw:VwAt (W7.setCell ⟨vb,1,none⟩ (.slice (some ⟨q,0,none⟩) k k)) vb its (Dg.reachL W o):=⟨sv,(.slice (some ⟨q,0,none⟩) k k),(Dg.cell_row rv 0).trans rfl,(Dg.cell_row rv 1).trans rfl,RdSp.of_own hownF,by have h9:=hRE.rd;rw[hL7] at h9;exact h9,by rw[hL7,HIL.out]⟩;have HFin:Hid _:=SeeC.ok HP.out hbE (by omega) HW.out hVw;clear hVw hRE hownE hownF hbE rv c1 f1 hS7 hS6 hS5 MA MT MR hR7 hr6 ho5
    go_wp2_with fail
    go_ret2
    exact HFin.out
   ·obtain⟨y,hy⟩:∃y,its[k]? =some y:=⟨_,jF (by rw[HIL.out];exact hlt)⟩
    obtain⟨b1,off1,zav,zam,zac,rfl,k0,k1,k2,k3,k4,k5,k6,k7,_⟩:=HIR.out k y hy
    have j0:=Dg.cell_later HS.out.bel k0;have j1:=Dg.cell_later HS.out.bel k1;have j2:=Dg.cell_later HS.out.bel k2;have j3:=Dg.cell_later HS.out.bel k3;have j4:=Dg.cell_later HS.out.bel k4;have j5:=Dg.cell_later HS.out.bel k5;have j6:=Dg.cell_later HS.out.bel k6;have j7:=Dg.cell_later HS.out.bel k7;have hkk:(k:Int) < (il:Int):=by omega
    clear k0 k1 k2 k3 k4 k5 k6 k7;have HY:Hid _:=hy;clear hy HIR
    go_wp2_with fail
    have rn:=Dg.row_new w4 #[.string ⟨y.name.toArray⟩,.string ⟨y.undo.toArray⟩,.bool y.sub,.bool y.vital,.int .i64 y.alts,.int .i64 y.inn,.int .i64 y.alt,.slice zav zam zac] 50;have HS5:Hid _:=HS.out.later ((Below.refl w4.heap.size w4).alloc (jG _) (.cells #[.string ⟨y.name.toArray⟩,.string ⟨y.undo.toArray⟩,.bool y.sub,.bool y.vital,.int .i64 y.alts,.int .i64 y.inn,.int .i64 y.alt,.slice zav zam zac] 50));generalize w4.alloc (.cells #[.string ⟨y.name.toArray⟩,.string ⟨y.undo.toArray⟩,.bool y.sub,.bool y.vital,.int .i64 y.alts,.int .i64 y.inn,.int .i64 y.alt,.slice zav zam zac] 50)=w5 at *;clear j0 j1 j2 j3 j4 j5 j6 j7;have hz4:w4.heap.size < w5.heap.size:=(jD.1 rn).1;have hvl:vb < w4.heap.size:=(jD.1 HS.out.vw).1;have hSd:=SeS.later HS5.out ((Below.refl w5.heap.size w5).drew);obtain⟨va,vc,rfl⟩:=own_slice hSd.own
    have hcg:w5.drew.cell? ⟨vb,0,none⟩=some (.slice va k vc):=(Dg.cell_row hSd.vw 0).trans rfl;have MC:=spotOf_any y zav zam zac w5.drew;have hS0:w5.drew.heap[w4.heap.size]? =some (.cells #[.string ⟨y.name.toArray⟩,.string ⟨y.undo.toArray⟩,.bool y.sub,.bool y.vital,.int .i64 y.alts,.int .i64 y.inn,.int .i64 y.alt,.slice zav zam zac] 50 (0,0)):=rn;have HPush:Hid (∀W1,Below w5.drew.heap.size w5.drew W1→∃ua um uc W3,(Builtin.append_ #[141,141] 141 #[.slice va k vc,.slice (some ⟨W1.heap.size,0,none⟩) 1 1]).run Tryz.prog (W1.alloc (.cells #[.int .i64 y.inn,.int .i64 y.alt] 106))= .ok (.slice ua um uc) W3∧W3.heap[w4.heap.size]? =some (.cells #[.string ⟨y.name.toArray⟩,.string ⟨y.undo.toArray⟩,.bool y.sub,.bool y.vital,.int .i64 y.alts,.int .i64 y.inn,.int .i64 y.alt,.slice zav zam zac] 50 (0,0))∧W3.cell? ⟨vb,0,none⟩=some (.slice va k vc)∧W3.frozen? ⟨vb,0,none⟩=false∧Hid (SeS w (.slice (some ⟨b1,off1,none⟩) il icap) its vb (k+1) (W3.setCell ⟨vb,0,none⟩ (.slice ua um uc)) (.slice ua um uc))):=by
     show ∀_,_
     intro W1 hb1;obtain⟨ua,um,uc,W3,hr3,hg3,hv3,hs3⟩:=hSd.push y HY.out hb1 (by omega)
     have hq1:W1.heap[w4.heap.size]? =some (.cells #[.string ⟨y.name.toArray⟩,.string ⟨y.undo.toArray⟩,.bool y.sub,.bool y.vital,.int .i64 y.alts,.int .i64 y.inn,.int .i64 y.alt,.slice zav zam zac] 50 (0,0)):=(hb1.block _ hz4).trans rn;have hq2:=Dg.row_alloc hq1 (.cells #[.int .i64 y.inn,.int .i64 y.alt] 106);have hown:=own_below hSd.own (hb1.alloc hb1.size (.cells #[.int .i64 y.inn,.int .i64 y.alt] 106));exact⟨ua,um,uc,W3,hr3,(hg3.block _ (jD.1 hq2).1 (own_other hown hq2 (by decide))).trans hq2,(Dg.cell_row hv3 0).trans rfl,Dg.froz_row hv3 0,hs3⟩
    clear HS HY HS5 hSd;refine wp_region_held (S:=fun w'=>w'.heap[w4.heap.size]? =some (.cells #[.string ⟨y.name.toArray⟩,.string ⟨y.undo.toArray⟩,.bool y.sub,.bool y.vital,.int .i64 y.alts,.int .i64 y.inn,.int .i64 y.alt,.slice zav zam zac] 50 (0,0))) (by kernel_rfl) ?_;simp only[jN,jM,jP,Nat.reduceAdd,jI,jJ,jO,jL,jK];refine tK 0 19 (.pointer (some ⟨vb,0,none⟩)) 11 rfl hS0 ?_;refine tK 1 20 (.pointer (some ⟨vb,0,none⟩)) 10 rfl hS0 ?_;refine tG 2 21 (.pointer (some ⟨vb,0,none⟩)) 9 rfl hS0 ?_;refine tG 3 22 (.pointer (some ⟨vb,0,none⟩)) 8 rfl hS0 ?_;refine tV 5 24 (.agg #[.string ⟨y.name.toArray⟩,.string ⟨y.undo.toArray⟩,.bool y.sub,.bool y.vital,.int .i64 y.alts,.int .i64 y.inn,.int .i64 y.alt,.slice zav zam zac]) 7 rfl hS0 ?_ (fun w9 hw9=>by have z0:=(Dg.cell_row hw9 0).trans rfl;have z1:=(Dg.cell_row hw9 1).trans rfl;have z2:=(Dg.cell_row hw9 2).trans rfl;have z3:=(Dg.cell_row hw9 3).trans rfl;have z4:=(Dg.cell_row hw9 4).trans rfl;have z5:=(Dg.cell_row hw9 5).trans rfl;have z6:=(Dg.cell_row hw9 6).trans rfl;have z7:=(Dg.cell_row hw9 7).trans rfl;go_simp);refine wpAnyH_all (fuel:=6) (rs:=[4,6]) (by kernel_rfl) (by decide) ?_;refine zW.2 ⟨?_,jE.2 ?_⟩
    ·refine wpOp_value (i:=4) (d:=23) (v:= .slice va k vc) (w':=w5.drew) rfl rfl (by kernel_rfl) (by go_simp) ?_;refine⟨hS0,?_⟩
     simp only[jA,jB,jC];refine wpAnyH_all (fuel:=5) (rs:=[6]) (by kernel_rfl) (by decide) ?_;refine jE.2 ?_;refine wpOp_calls (i:=6) (d:=25) rfl rfl (by kernel_rfl) (f:=65) (args:= #[.agg #[.string ⟨y.name.toArray⟩,.string ⟨y.undo.toArray⟩,.bool y.sub,.bool y.vital,.int .i64 y.alts,.int .i64 y.inn,.int .i64 y.alt,.slice zav zam zac]]) (by kernel_rfl) _ MC ?_ (fun _ _ h=>by cases h.1) (fun _ h=>by cases h.1);rintro vA W1 ⟨hvA,hb1⟩;cases hvA;obtain⟨ua,um,uc,W3,hr3,hq3,hc3,hf3,HB3⟩:=HPush.out W1 hb1
     have hq1:W1.heap[w4.heap.size]? =some (.cells #[.string ⟨y.name.toArray⟩,.string ⟨y.undo.toArray⟩,.bool y.sub,.bool y.vital,.int .i64 y.alts,.int .i64 y.inn,.int .i64 y.alt,.slice zav zam zac] 50 (0,0)):=(hb1.block _ hz4).trans rn;refine⟨hq1,?_⟩
     simp only[jA,jB,jC];refine wpAnyH_all (fuel:=4) (rs:=[7]) (by kernel_rfl) (by decide) ?_;refine jE.2 ?_;refine wpOp_value (i:=7) (d:=26) (v:= .slice (some ⟨W1.heap.size,0,none⟩) 1 1) (w':=(W1.alloc (.cells #[.int .i64 y.inn,.int .i64 y.alt] 106))) rfl rfl (by kernel_rfl) (by go_simp) ?_;refine⟨Dg.row_alloc hq1 _,?_⟩
     simp only[jA,jB,jC];refine wpAnyH_all (fuel:=3) (rs:=[8]) (by kernel_rfl) (by decide) ?_;refine jE.2 ?_;refine wpOp_value (i:=8) (d:=27) (v:= .slice ua um uc) (w':=W3) rfl rfl (by kernel_rfl) (by simp[execOp,resolve,invoke,builtin,hr3,Result.andThen,Act.eval]) ?_;refine⟨hq3,?_⟩
     simp only[jA,jB,jC];refine wpAnyH_all (fuel:=2) (rs:=[9]) (by kernel_rfl) (by decide) ?_;refine jE.2 ?_;refine wpOp_value (i:=9) (d:=28) (v:= .pointer (some ⟨vb,0,none⟩)) (w':=W3) rfl rfl (by kernel_rfl) (by go_simp) ?_;refine⟨hq3,?_⟩
     simp only[jA,jB,jC];refine wpAnyH_all (fuel:=1) (rs:=[10]) (by kernel_rfl) (by decide) ?_;refine jE.2 ?_;refine wpOp_value (i:=10) (d:=29) (v:= .pointer (some ⟨vb,0,none⟩)) (w':=W3) rfl rfl (by kernel_rfl) (by go_simp) ?_;refine⟨hq3,?_⟩
     simp only[jA,jB,jC];refine wpAnyH_all (fuel:=0) (rs:=[11]) (by kernel_rfl) (by decide) ?_;refine jE.2 ?_;refine wpOp_skip (i:=11) (w':=W3.setCell ⟨vb,0,none⟩ (.slice ua um uc)) rfl rfl (by kernel_rfl) (by go_simp) ?_;refine⟨Dg.row_other hq3 _ (by omega),by kernel_rfl,?_⟩
     clear hr3 hq3 hc3 hf3 hq1 MC HPush hcg hS0 rn
     go_wp2_with fail
     go_roundw
     case rel=>exact⟨k+1,_,by omega,by go_num,HB3⟩
     case measure=>simp[intOf];omega
    ·refine wpOp_calls (i:=6) (d:=25) rfl rfl (by kernel_rfl) (f:=65) (args:= #[.agg #[.string ⟨y.name.toArray⟩,.string ⟨y.undo.toArray⟩,.bool y.sub,.bool y.vital,.int .i64 y.alts,.int .i64 y.inn,.int .i64 y.alt,.slice zav zam zac]]) (by kernel_rfl) _ MC ?_ (fun _ _ h=>by cases h.1) (fun _ h=>by cases h.1);rintro vA W1 ⟨hvA,hb1⟩;cases hvA;obtain⟨ua,um,uc,W3,hr3,hq3,hc3,hf3,HB3⟩:=HPush.out W1 hb1
     have hq1:W1.heap[w4.heap.size]? =some (.cells #[.string ⟨y.name.toArray⟩,.string ⟨y.undo.toArray⟩,.bool y.sub,.bool y.vital,.int .i64 y.alts,.int .i64 y.inn,.int .i64 y.alt,.slice zav zam zac] 50 (0,0)):=(hb1.block _ hz4).trans rn;have hcg1:=Dg.cell_later hb1 hcg;refine⟨hq1,?_⟩
     simp only[jA,jB,jC];refine wpAnyH_all (fuel:=5) (rs:=[4,7]) (by kernel_rfl) (by decide) ?_;refine zW.2 ⟨?_,jE.2 ?_⟩
     ·refine wpOp_value (i:=4) (d:=23) (v:= .slice va k vc) (w':=W1) rfl rfl (by kernel_rfl) (by go_simp) ?_;refine⟨hq1,?_⟩
      simp only[jA,jB,jC];refine wpAnyH_all (fuel:=4) (rs:=[7]) (by kernel_rfl) (by decide) ?_;refine jE.2 ?_;refine wpOp_value (i:=7) (d:=26) (v:= .slice (some ⟨W1.heap.size,0,none⟩) 1 1) (w':=(W1.alloc (.cells #[.int .i64 y.inn,.int .i64 y.alt] 106))) rfl rfl (by kernel_rfl) (by go_simp) ?_;refine⟨Dg.row_alloc hq1 _,?_⟩
      simp only[jA,jB,jC];refine wpAnyH_all (fuel:=3) (rs:=[8]) (by kernel_rfl) (by decide) ?_;refine jE.2 ?_;refine wpOp_value (i:=8) (d:=27) (v:= .slice ua um uc) (w':=W3) rfl rfl (by kernel_rfl) (by simp[execOp,resolve,invoke,builtin,hr3,Result.andThen,Act.eval]) ?_;refine⟨hq3,?_⟩
      simp only[jA,jB,jC];refine wpAnyH_all (fuel:=2) (rs:=[9]) (by kernel_rfl) (by decide) ?_;refine jE.2 ?_;refine wpOp_value (i:=9) (d:=28) (v:= .pointer (some ⟨vb,0,none⟩)) (w':=W3) rfl rfl (by kernel_rfl) (by go_simp) ?_;refine⟨hq3,?_⟩
      simp only[jA,jB,jC];refine wpAnyH_all (fuel:=1) (rs:=[10]) (by kernel_rfl) (by decide) ?_;refine jE.2 ?_;refine wpOp_value (i:=10) (d:=29) (v:= .pointer (some ⟨vb,0,none⟩)) (w':=W3) rfl rfl (by kernel_rfl) (by go_simp) ?_;refine⟨hq3,?_⟩
      simp only[jA,jB,jC];refine wpAnyH_all (fuel:=0) (rs:=[11]) (by kernel_rfl) (by decide) ?_;refine jE.2 ?_;refine wpOp_skip (i:=11) (w':=W3.setCell ⟨vb,0,none⟩ (.slice ua um uc)) rfl rfl (by kernel_rfl) (by go_simp) ?_;refine⟨Dg.row_other hq3 _ (by omega),by kernel_rfl,?_⟩
      clear hr3 hq3 hc3 hf3 hq1 MC HPush hcg hS0 rn
      go_wp2_with fail
      go_roundw
      case rel=>exact⟨k+1,_,by omega,by go_num,HB3⟩
      case measure=>simp[intOf];omega
     ·refine wpOp_value (i:=7) (d:=26) (v:= .slice (some ⟨W1.heap.size,0,none⟩) 1 1) (w':=(W1.alloc (.cells #[.int .i64 y.inn,.int .i64 y.alt] 106))) rfl rfl (by kernel_rfl) (by go_simp) ?_;refine⟨Dg.row_alloc hq1 _,?_⟩
      simp only[jA,jB,jC];refine wpAnyH_all (fuel:=4) (rs:=[4]) (by kernel_rfl) (by decide) ?_;refine jE.2 ?_;have hcg2:=Dg.cell_later ((Below.refl W1.heap.size W1).alloc (jG _) (.cells #[.int .i64 y.inn,.int .i64 y.alt] 106)) hcg1;refine wpOp_value (i:=4) (d:=23) (v:= .slice va k vc) (w':=(W1.alloc (.cells #[.int .i64 y.inn,.int .i64 y.alt] 106))) rfl rfl (by kernel_rfl) (by go_simp) ?_;refine⟨Dg.row_alloc hq1 _,?_⟩
      simp only[jA,jB,jC];refine wpAnyH_all (fuel:=3) (rs:=[8]) (by kernel_rfl) (by decide) ?_;refine jE.2 ?_;refine wpOp_value (i:=8) (d:=27) (v:= .slice ua um uc) (w':=W3) rfl rfl (by kernel_rfl) (by simp[execOp,resolve,invoke,builtin,hr3,Result.andThen,Act.eval]) ?_;refine⟨hq3,?_⟩
      simp only[jA,jB,jC];refine wpAnyH_all (fuel:=2) (rs:=[9]) (by kernel_rfl) (by decide) ?_;refine jE.2 ?_;refine wpOp_value (i:=9) (d:=28) (v:= .pointer (some ⟨vb,0,none⟩)) (w':=W3) rfl rfl (by kernel_rfl) (by go_simp) ?_;refine⟨hq3,?_⟩
      simp only[jA,jB,jC];refine wpAnyH_all (fuel:=1) (rs:=[10]) (by kernel_rfl) (by decide) ?_;refine jE.2 ?_;refine wpOp_value (i:=10) (d:=29) (v:= .pointer (some ⟨vb,0,none⟩)) (w':=W3) rfl rfl (by kernel_rfl) (by go_simp) ?_;refine⟨hq3,?_⟩
      simp only[jA,jB,jC];refine wpAnyH_all (fuel:=0) (rs:=[11]) (by kernel_rfl) (by decide) ?_;refine jE.2 ?_;refine wpOp_skip (i:=11) (w':=W3.setCell ⟨vb,0,none⟩ (.slice ua um uc)) rfl rfl (by kernel_rfl) (by go_simp) ?_;refine⟨Dg.row_other hq3 _ (by omega),by kernel_rfl,?_⟩
      clear hr3 hq3 hc3 hf3 hq1 MC HPush hcg hS0 rn
      go_wp2_with fail
      go_roundw
      case rel=>exact⟨k+1,_,by omega,by go_num,HB3⟩
      case measure=>simp[intOf];omega
theorem Over_no (a:Option Addr)(i:Int)(w:World)(h:Calls Tryz.prog 68 #[.pointer a,.int .i64 i] w fun e w'=>e= .returned (.bool false)∧w'=w):Calls Tryz.prog 37 #[.pointer a,.int .i64 i] w fun e w'=>e= .returned (.slice none 0 0)∧w'=w:=by
 have H:Hid _:=h;clear h
 go_enter Tryz.func37,Tryz.ntmps37
 go_wp2_with fail
 refine Calls.mono H.out ?_;rintro e w1 ⟨rfl,rfl⟩
 go_wp2_with fail
 go_ret
 exact⟨rfl,rfl⟩
def overL (ov:List (List Nat))(i:Int):List Nat:=if 0≤i∧i < (ov.length:Int) then ov.getD i.toNat [] else []
noncomputable def ovT (its:List It):List (List Nat):=match Dg.weaveP (its.length:Int) (Dg.swapA (arcP its)) with
 | .ok W o=>Dg.reachL W o
 | .bad _=>[]
noncomputable def overI (its:List It)(i:Int):List Nat:=if (sagaP its).isSome then overL (ovT its) i else []
theorem bits_short (x:Nat):(Dg.bitsOf x).length≤1000000:=by
 have:=List.length_filter_le (fun i=>x.testBit i) (List.range 64);simp only[List.length_range] at this;unfold Dg.bitsOf;omega
def upsF (its:List It):Nat→Nat→List Nat
 | 0,_=>[]
 | f+1,i=>if i=0 then [] else match its[i]? with
  | some x=>x.inn.toNat :: upsF its f x.inn.toNat
  | none=>[]
def Stem (its:List It):Prop:=∀(i:Nat) (x:It),its[i]? =some x→0 < i→0≤x.inn∧x.inn < (i:Int)
theorem ups_len (its:List It):∀f i,(upsF its f i).length≤f
 | 0,_=>jG _
 | f+1,i=>by
  rw[upsF]
  split
  ·simp
  ·split
   ·have:=ups_len its f;simp only[jM];have:=this (by assumption:It).inn.toNat;omega
   ·simp
theorem stem_ups {its:List It}(h:Stem its):∀f i,i < its.length→i≤f→Ups its i (upsF its f i)
 | 0,i,_,h2=>by
  obtain rfl:i=0:=by omega
  exact Ups.nil
 | f+1,i,h1,h2=>by
  rw[upsF]
  by_cases h0:i=0
  ·subst h0;rw[if_pos rfl]
   exact Ups.nil
  ·rw[if_neg h0]
   obtain⟨x,hx⟩:∃x,its[i]? =some x:=⟨_,jF h1⟩
   rw[hx]
   simp only;obtain⟨h3,h4⟩:=h i x hx (by omega)
   exact Ups.cons (by omega) hx (by omega) (stem_ups h f x.inn.toNat (by omega) (by omega))
def aboveL (its:List It)(i:Int):List Nat:=if 0≤i∧i < (its.length:Int) then upsF its its.length i.toNat else []
theorem name1 (c:UInt8)(n:Int)(h1:enc n=[c])(h2:kl n=1)(h3:isCp n=true):nameP [c]:=
 ⟨[n],by simp[encAll,h1],n,[],rfl,h2,by simp,by simp[h3],by simp[encAll,h1]⟩
theorem nm_t:nmP [116]=true:=by
 rw[nmP,(isName_iff _).2 (name1 116 116 (by decide +kernel) (by decide +kernel) (by decide +kernel))];rfl
theorem nm_a:nmP [97]=true:=by
 rw[nmP,(isName_iff _).2 (name1 97 97 (by decide +kernel) (by decide +kernel) (by decide +kernel))];rfl
theorem nm_b:nmP [98]=true:=by
 rw[nmP,(isName_iff _).2 (name1 98 98 (by decide +kernel) (by decide +kernel) (by decide +kernel))];rfl
theorem old1 {W:World}{k:Nat}{x:Obj}(h:W.heap[k]? =some x)(o:Obj):(W.alloc o).heap[k]? =some x:=(zK _ _ _ (jD.1 h).1).trans h
theorem new1 (W:World)(o:Obj)(k:Nat)(h:k=W.heap.size):(W.alloc o).heap[k]? =some o:=by subst h;exact World.alloc_heap_new W o
end Go.Proofs.YtieoppabellafaaGreatDoor
namespace Go.Proofs.YtieoppabellafaaGreatDoor.Sx
open Go.RowKit Go.ChangeShapes Go.WideShapes
theorem Tryz.cells9':Tryz.prog.cellsOf 9=1:=by kernel_rfl
theorem Tryz.cells4:Tryz.prog.cellsOf 4=1:=by kernel_rfl
def Tr.bnd:Tr→Prop
 | .e=>True
 | .b x r=>x.len≤maxLen∧x.bnd∧r.bnd
 | .n l t r=>l.name.length≤maxLen∧l.undo.length≤maxLen∧l.after.length≤maxLen∧(∀y∈l.after,y.length≤maxLen)∧t.len≤maxLen∧t.bnd∧r.bnd
variable {H:Type}{enc:TypeId × Value→H}{w:World}{base:Nat}{spare:Nat→Bool}{held:Bool}
end Go.Proofs.YtieoppabellafaaGreatDoor.Sx
namespace Go.Proofs.YtieoppabellafaaGreatDoor
open Go.ChangeShapes Go.WideShapes Go.ChangeAt Go.RowKit Go.Shelf Sx
theorem gTab:Tryz.prog.globalNamed "math/bits.deBruijn64tab" =some 0:=by kernel_rfl
theorem tTab:(Tryz.prog.globals[0]?).map (·.type)=some 221:=by kernel_rfl
theorem uTab:Tryz.prog.underlying 221=some (.array 64 5):=by kernel_rfl
theorem u5:Tryz.prog.underlying 5=some (.int .u8):=by kernel_rfl
theorem c5:Tryz.prog.cellsOf 5=1:=by kernel_rfl
theorem tab_form:(Rows.laid_math_bits_deBruijn64tab:DataW Unit)= .agg (Lib.deBruijn64tab.map fun (n:Nat)=> .lit (.int .u8 (n:Int))):=rfl
theorem tab_of_laid {W:World}(h:laidMetH Tryz.prog [("math/bits.deBruijn64tab",Rows.laid_math_bits_deBruijn64tab)] W):Dg.Tab W:=by
 rw[MakeChecks.laidMetH_plain _ _ _ (by kernel_rfl)] at h
 obtain⟨ps,⟨g0,t0,cs0,f0,p0,q0,hg0,ht0,hv0,hd0,_,_⟩,_,_⟩:=h
 obtain rfl:=Option.some.inj (gTab.symm.trans hg0);obtain rfl:=Option.some.inj (tTab.symm.trans ht0);obtain⟨xs,m1,rfl,hx1,hlen,hn,hel⟩:=DataW.trod_array uTab hd0
 rw[tab_form] at hx1
 simp only[Prod.mk.injEq,DataW.agg.injEq] at hx1;have htl:Lib.deBruijn64tab.length=64:=rfl;intro j hj;rw[htl] at hj
 obtain⟨x,hx⟩:∃x,xs[j]? =some x:=⟨_,jF (by omega)⟩
 have h1:=hel j hj;rw[hx,c5] at h1
 obtain⟨k,e1,e2,_⟩:=DataW.trod_int u5 h1
 have h2:=congrArg (fun l=>l[j]?) hx1.1;simp only[zC,hx,Option.map_some] at h2;have h3:Lib.deBruijn64tab[j]? =some (Lib.deBruijn64tab.getD j 0):=by rw[jU,jF (by omega)];rfl
 rw[h3,e2] at h2
 simp only[Option.map_some,Option.some.injEq,DataW.lit.injEq,Lit.int.injEq,true_and] at h2;rw[World.var?_cell hg0 hv0 j,←Array.getElem?_toList,h2]
 have h4:=congrArg (fun l=>l[0]?) e1;simp only[Nat.mul_one] at h4;rw[List.getElem?_take_of_lt (by omega),List.getElem?_drop] at h4
 simpa using h4
variable {H:Type}{enc:TypeId × Value→H}{w:World}{base:Nat}{spare:Nat→Bool}{held:Bool}
instance:Inhabited (It × Option Addr × Nat × Nat):=⟨(⟨[],[],false,false,0,0,0,[]⟩,none,0,0)⟩
end Go.Proofs.YtieoppabellafaaGreatDoor
