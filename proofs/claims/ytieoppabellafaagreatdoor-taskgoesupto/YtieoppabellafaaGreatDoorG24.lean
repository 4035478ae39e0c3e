/- Texts of the seat, packed: Ag Ar Ah Ai. -/
import Derived.Test.YtieoppabellafaaGreatDoorG01
import Derived.Test.YtieoppabellafaaGreatDoorG23
import Derived.Test.YtieoppabellafaaGreatDoorG17
import Derived.Test.YtieoppabellafaaGreatDoorG09
import Derived.Test.YtieoppabellafaaGreatDoorG18
import Derived.OrdersIn
import Derived.OwnWalkIn
set_option maxRecDepth 1000000
set_option maxHeartbeats 64000000
set_option linter.unusedVariables false
namespace Go.Proofs.YtieoppabellafaaGreatDoor.Ts
open Go.RowKit Go.Shelf Fc St Sx Sa Rl
variable {its:List It}{l:List Fa}{P:OuP}{ob:Nat}{w:World}
noncomputable def letB (its:List It)(l:List Fa)(i:Nat):Bool:=mbB its l i || muB its l i
noncomputable def letL (its:List It)(l:List Fa):List Nat:=(List.range its.length).filter (letB its l)
theorem letL_at {n i:Nat}{q:Nat→Bool}(h:i < n):((List.range n).drop i).filter q=(if q i then [i] else []) ++ ((List.range n).drop (i+1)).filter q:=by
 have hl:i < (List.range n).length:=by simpa using h
 rw[zU hl,List.getElem_range,List.filter_cons]
 split <;> rfl
attribute [local go_sem] Oper.semAt_some
structure ThS (bc bl:Nat)(n:Nat)(fv:Value)(w1:World)(J:Nat→World→(Nat→Prop)→Prop)(T:Nat→Prop)(k:Nat)(W:World):Prop where
 j:J k W T
 qc:Boxed W bc 3 (.int .i64 (n:Int))
 ql:Boxed W bl 84 fv
 tc:T bc
 tl:T bl
 bel:Below w1.heap.size w1 W
 own:∀b,T b→b < W.heap.size
theorem ThS.round {bc bl n:Nat}{fv:Value}{w1:World}{J:Nat→World→(Nat→Prop)→Prop}{T:Nat→Prop}{k k':Nat}{W W':World}(h:ThS bc bl n fv w1 J T k W)(hj:J k' W' T)(hr:Rl.Rv w1.heap.size T W W'):ThS bc bl n fv w1 J T k' W':=
 ⟨hj,(hr.keep bc h.tc h.qc.lt).trans h.qc,(hr.keep bl h.tl h.ql.lt).trans h.ql,h.tc,h.tl,h.bel.trans hr.below,fun b hb=>jR (h.own b hb) hr.size⟩
theorem through_itr {w1:World}{bo bc bl n:Nat}(m0:Nat)(h:Ou its l P ob w1)(hn:its.length=n)(hbo:Boxed w1 bo 70 (.pointer (some ⟨ob,0,none⟩)))(T:Nat→Prop)(w:World)(hbw:Below w1.heap.size w1 w)(hbc:Boxed w bc 3 (.int .i64 (n:Int)))(hbl:Boxed w bl 84 (.func (.func 54) #[] #[.pointer (some ⟨bo,0,none⟩)]))(tc:T bc)(tl:T bl)(hown:∀b,T b→b < w.heap.size) :
  Rl.Itr Tryz.prog 86 #[.pointer (some ⟨bc,0,none⟩),.pointer (some ⟨bl,0,none⟩)] encN (letL its l) w1.heap.size m0 T w:=by
 intro li J Jx W hW hJ hJx hY hJ0;have HY:Hid _:=hY;have HJ:Hid _:=hJ;have H0:Hid (ThS bc bl n (.func (.func 54) #[] #[.pointer (some ⟨bo,0,none⟩)]) w1 J T 0 W):=⟨hJ0,(hW.block bc hbc.lt).trans hbc,(hW.block bl hbl.lt).trans hbl,tc,tl,hbw.trans (hW.mono hbw.size),fun b hb=>jR (hown b hb) hW.size⟩;have hfew:=h.few;have HL:Hid (∀(i:Nat) wx,i < n→Below w1.heap.size w1 wx→Calls Tryz.prog 54 #[.int .i64 (i:Int),.pointer (some ⟨bo,0,none⟩)] wx fun e w'=>e= .returned (.bool (letB its l i))∧Below wx.heap.size wx w'):=fun i wx hi hb=>may54_any (by omega) (h.later hb) ((hb.block bo hbo.lt).trans hbo)
 obtain⟨xs,HX⟩:∃xs,Hid (xs=letL its l):=⟨_,rfl⟩
 have HD0:Hid (xs.drop 0=((List.range n).drop 0).filter (letB its l)∧0≤xs.length):=⟨by rw[HX.out,←hn];rfl,zE _⟩;rw[←HX.out] at HY ⊢
 obtain⟨R,HR⟩:∃R:Ending→World→Prop,Hid (R=fun e W2=>∃v T2,e= .returned v∧(J xs.length W2 T2∨∃k,k < xs.length∧Jx (k+1) W2 T2)∧(∀b,b < W.heap.size→(T2 b↔T b))∧(∀b,T2 b→b < W2.heap.size)):=⟨_,rfl⟩
 rw[←HR.out]
 rw[hn] at hfew
 have c0:=H0.out.qc.cell;clear h hbo hJ hJx hY hJ0 hW hbw hbc hbl tc tl hown HX hn;generalize letB its l=lf at *;refine callsIn_of_wp Tryz.func86 rfl trivial ?_ rfl;simp only[Tryz.ntmps86,jN,jM,jP,Nat.reduceAdd,Nat.reduceSub,jI,jJ,jO,zN,jL,jK]
 gi_wp2
 clear c0
 gi_loopw [6] (fun iv wr=>∃(i k:Nat),iv= .int .i64 i∧i≤n∧Hid (ThS bc bl n (.func (.func 54) #[] #[.pointer (some ⟨bo,0,none⟩)]) w1 J T k wr)∧Hid (xs.drop k=((List.range n).drop i).filter lf∧k≤xs.length)) (fun iv _=>n - (intOf iv).toNat)
 case atStart=>exact⟨0,0,rfl,zE _,H0,HD0⟩
 case round=>
  obtain⟨i,k,rfl,hi,HF,HD⟩:=hrel
  rename World=>wr
  clear H0 HD0
  by_cases hlt:i < n
  ·have y0:=HF.out.ql.cell;have hcf:∀wx,(callFunc 54 #[.int .i64 (i:Int),.pointer (some ⟨bo,0,none⟩)]).run Tryz.prog wx= .ok (.enter 54 #[.int .i64 (i:Int),.pointer (some ⟨bo,0,none⟩)]) wx:=fun wx=>enters_of Tryz.func54 (by kernel_rfl) rfl _ _
   have HC:Hid _:=HL.out i wr hlt HF.out.bel;have hdr:=HD.out.1;rw[letL_at hlt] at hdr
   have HDR:Hid _:=hdr;have hKL:k≤xs.length:=HD.out.2;have hii:(i:Int) < (n:Int):=by omega
   clear hdr HD;generalize lf i=q at *
   gi_wp2
   refine⟨trivial,rfl,(callsIn_wide.2 HC.out).mono ?_⟩
   rintro e w3 ⟨rfl,hb3⟩;have HF3:Hid (ThS bc bl n (.func (.func 54) #[] #[.pointer (some ⟨bo,0,none⟩)]) w1 J T k w3):=HF.out.round (HJ.out _ _ _ _ _ HF.out.j (Rl.Mv.of_below hb3)) (Rl.Rv.of_below hb3 HF.out.bel.size);clear y0 HC hb3 HF hcf;cases q with
   | true=>
    obtain⟨h1,h2,h3⟩:=drop_cons (show xs.drop k=i :: ((List.range n).drop (i+1)).filter lf from HDR.out)
    have HD5:Hid (xs.drop (k+1)=((List.range n).drop (i+1)).filter lf∧k+1≤xs.length):=⟨h2,h3⟩;have HK2:Hid (k < xs.length):=h3;obtain⟨fnn,tms,asg,bdy,hy,hR⟩:=HY.out k i #[.int .i64 (i:Int)] w3.heap.size w3 T h1 rfl ⟨w3,T,HF3.out.j,rfl,Rl.Mv.refl _ _⟩ HF3.out.j HF3.out.own 0
    clear h1 h2 h3 HDR hKL
    gi_wp2
    refine⟨rfl,hR.mono ?_⟩
    rintro e W5 ⟨t,rfl,ht1,ht2⟩;cases t with
    | true=>
     obtain⟨hj5,hrv⟩:=ht1 rfl
     have HF5:Hid _:=HF3.out.round hj5 hrv;clear ht1 ht2 hrv hj5 hy hR HF3
     gi_wp2
     go_roundw
     case rel=>exact⟨i+1,k+1,by go_num,by omega,HF5,HD5⟩
     case measure=>simp[intOf] <;> omega
    | false=>
     obtain⟨hj5,hrv⟩:=ht2 rfl
     have HJ5:Hid _:=hj5;have HF5:Hid (∀b,T b→b < W5.heap.size):=fun b hb=>jR (HF3.out.own b hb) hrv.size
     clear ht1 ht2 hrv hj5 hy hR HF3
     gi_wp2
     refine bodyPost_ret (results_none rfl _ _) rfl ?_;rw[HR.out]
     exact⟨_,T,rfl,.inr ⟨k,HK2.out,HJ5.out⟩,fun _ _=>Iff.rfl,HF5.out⟩
   | false=>
    have HD5:Hid (xs.drop k=((List.range n).drop (i+1)).filter lf∧k≤xs.length):=⟨HDR.out,hKL⟩;clear HDR hKL
    gi_wp2
    refine⟨fun f h=>(by cases h),?_⟩
    gi_wp2
    go_roundw
    case rel=>exact⟨i+1,k,by go_num,by omega,HF3,HD5⟩
    case measure=>simp[intOf] <;> omega
  ·have HKX:Hid (k=xs.length):=by
    refine drop_all ?_ HD.out.2;rw[HD.out.1,List.drop_eq_nil_of_le (by simp;omega)]
    rfl
   gi_wp2
   refine bodyPost_ret (results_none rfl _ _) rfl ?_;rw[HR.out]
   refine⟨_,T,rfl,.inl ?_,fun _ _=>Iff.rfl,HF.out.own⟩
   have:=HF.out.j;rw[HKX.out] at this
   exact this
theorem through_maker (n:Int)(g:Fn)(c:Array Value)(w:World):Calls Tryz.prog 58 #[.int .i64 n,.func g #[] c] w fun e w'=>e= .returned (.func (.func 86) #[] #[.pointer (some ⟨w.heap.size,0,none⟩),.pointer (some ⟨w.heap.size+1,0,none⟩)])∧w'=(w.alloc (.cells #[.int .i64 n] 3)).alloc (.cells #[.func g #[] c] 84):=by
 go_enter Tryz.func58,Tryz.ntmps58
 go_wp2_with fail
 go_ret
 exact⟨rfl,rfl⟩
theorem keys_maker (w:World):Calls Tryz.prog 28 #[.pointer (some ⟨ob,0,none⟩)] w fun e w'=>e= .returned (.func (.func 57) #[] #[.pointer (some ⟨w.heap.size,0,none⟩),.pointer (some ⟨w.heap.size+1,0,none⟩)])∧w'=(w.alloc (.cells #[.pointer (some ⟨ob,0,none⟩)] 70)).alloc (.cells #[.func (.func 54) #[] #[.pointer (some ⟨w.heap.size,0,none⟩)]] 84):=by
 go_enter Tryz.func28,Tryz.ntmps28
 go_wp2_with fail
 go_ret
 exact⟨rfl,rfl⟩
theorem results_key {fn:Func}{p:Tmp}(h:fn.results= #[.cell p 47])(tmps:Array Value)(w:World)(g:Nat)(cs:Array Value)(fr:Nat × Nat)
  (hp:tmps.getD p undef= .pointer (some ⟨g,0,none⟩)) (hg:w.heap[g]? =some (.cells cs 47 fr)) (hs:cs.size=3):(results fn tmps).run Tryz.prog w= .ok (.agg cs) w:=
 results_cell_row (p:=p) (ty:=47) h _ _ g 47 cs fr _ hp hg Tryz.underlying47 rfl (by rw[hs];kernel_rfl)
def keyOfF (i:Nat)(f:Fa):Nat × Bool × Int:=if f.run=0 then (i,false,0) else (i,true,f.slips)
theorem keyOf_any (i:Nat)(f:Fa)(w:World):Calls Tryz.prog 59 #[.int .i64 (i:Int),FaV f] w fun e w'=>e= .returned (.agg (keyC (keyOfF i f)).toArray)∧Below w.heap.size w w':=by
 unfold FaV;obtain⟨v,HV⟩:∃v,Hid (v=keyC (keyOfF i f)):=⟨_,rfl⟩
 rw[←HV.out]
 have hv0:v=[.int .i64 (i:Int),.bool (!decide (f.run=0)),.int .i64 (if f.run=0 then 0 else f.slips)]:=by
  rw[HV.out]
  unfold keyOfF keyC
  by_cases h:f.run=0 <;> simp[h]
 have HV0:Hid _:=hv0;clear HV hv0;have b1:=bl1 w (.cells #[.int .i64 f.run,.int .i64 f.tries,.int .i64 f.slips,.bool f.un] 55);have b2:=bl1 (w.alloc (.cells #[.int .i64 f.run,.int .i64 f.tries,.int .i64 f.slips,.bool f.un] 55)) (.cells #[.int .i64 0,.bool false,.int .i64 0] 47);have HBB:Hid _:=b1.trans (b2.mono b1.size);have r1:=Dg.row_alloc (Dg.row_new w #[.int .i64 f.run,.int .i64 f.tries,.int .i64 f.slips,.bool f.un] 55) (.cells #[.int .i64 0,.bool false,.int .i64 0] 47);have r2:=Dg.row_new (w.alloc (.cells #[.int .i64 f.run,.int .i64 f.tries,.int .i64 f.slips,.bool f.un] 55)) #[.int .i64 0,.bool false,.int .i64 0] 47;rw[jU] at r2
 have c0:=(Dg.cell_row r1 0).trans rfl;have c2:=(Dg.cell_row r1 2).trans rfl;have HR2:Hid _:=r2;have d0:=(Dg.cell_row r2 0).trans rfl;have d1:=(Dg.cell_row r2 1).trans rfl;have d2:=(Dg.cell_row r2 2).trans rfl;have g0:=Dg.froz_row r2 0;have g1:=Dg.froz_row r2 1;have g2:=Dg.froz_row r2 2;clear b1 b2 r1 r2;generalize f.run=r at *;generalize f.tries=tr at *;generalize f.slips=sl at *;generalize f.un=un at *
 by_cases hr:r=0
 ·subst hr
  go_enter Tryz.func59,Tryz.ntmps59
  go_wp2_with fail
  have r3:=Dg.row_new (w.alloc (.cells #[.int .i64 0,.int .i64 tr,.int .i64 sl,.bool un] 55)) #[.int .i64 (i:Int),.bool false,.int .i64 0] 47;rw[jU] at r3
  refine⟨rfl,_,results_key (p:=4) rfl _ _ (w.heap.size+1) _ (0,0) rfl r3 rfl,?_,(bl1 w _).alloc (by simp) _⟩
  rw[HV0.out]
  simp
 ·have hr1:decide (r=0)=false:=decide_eq_false hr;have hr2:(r==0)=false:=by simpa using hr
  go_enter Tryz.func59,Tryz.ntmps59
  go_wp2_with fail
  have r3:=Dg.row_new (w.alloc (.cells #[.int .i64 r,.int .i64 tr,.int .i64 sl,.bool un] 55)) #[.int .i64 (i:Int),.bool true,.int .i64 sl] 47;rw[jU] at r3
  refine⟨rfl,_,results_key (p:=4) rfl _ _ (w.heap.size+1) _ (0,0) rfl r3 rfl,?_,(bl1 w _).alloc (by simp) _⟩
  rw[HV0.out]
  simp[hr]
end Go.Proofs.YtieoppabellafaaGreatDoor.Ts
namespace Go.Proofs.YtieoppabellafaaGreatDoor.Ts
open Go.RowKit Fc Sa
variable {P:Program}{ops:Array Oper}{Q:Exit→Act→World→Prop}{md:Region.Mode}{S:World→Prop}{l n:Nat}
def anyR (l n:Nat)(P:Program)(md:Region.Mode)(ops:Array Oper)(Q:Exit→Act→World→Prop)(S:World→Prop):Nat→Array Bool→Act→World→Prop
 | 0,ls,a,w=>Region.ready md ops ls=[]∧Q .normal a w
 | k+1,ls,a,w=>(Region.ready md ops ls=[]→Q .normal a w)∧∀i∈Region.ready md ops ls,wpOpIn (Fence.wide.inRound l) n P ops Q i (fun a' w'=>S w'∧anyR l n P md ops Q S k (ls.setIfInBounds i true) a' w') a w
theorem anyR_in:∀(k:Nat) (ls:Array Bool) (a:Act) (w:World),anyR l n P md ops Q S k ls a w→wpAnyIn (Fence.wide.inRound l) n P md ops Q k ls a w
 | 0,_,_,_,h=>h
 | k+1,_,_,_,h=>⟨h.1,fun i hi=>wpOpIn_mono (fun a' w' h'=>anyR_in k _ a' w' h'.2) (h.2 i hi)⟩
theorem opR_val {i:Nat}{o:Oper}{v:Value}{a:Act}{w:World}{K:Act→World→Prop}(hnd:∀c,o.op≠.defer c)(hi:ops[i]? =some o)(hy:YieldsIf P ops S o v a)(hS:S w)(h:K (a.put o.dst v) w):wpOpIn (Fence.wide.inRound l) n P ops Q i K a w:=by
 unfold Go.wpOpIn;simp only[hi]
 rcases hy with ⟨hw,hv⟩ | ⟨hw,rfl⟩
 ·rw[if_pos hw]
  refine⟨fun f _=>trivial,?_⟩
  rw[Oper.semAt_eq _ _ _ hnd,hv w hS]
  exact h
 ·rw[if_neg (by rw[hw];decide)]
  exact⟨fun f _=>trivial,h⟩
theorem opR_put {i j:Nat}{oi oj:Oper}{v:Value}(hnd:∀c,oj.op≠.defer c)(hj:ops[j]? =some oj)(hap:oi.apart ops oj=true)(hsi:∀cs b,oi.op≠.select cs b)(hsj:∀cs b,oj.op≠.select cs b)
  (hQ:∀c a w,Q (.panic c) (a.put oi.dst v) w→Q (.panic c) a w) {K:Act→World→Prop} {a:Act} {w:World} (hy:YieldsIf P ops S oi v a) (h:wpOpIn (Fence.wide.inRound l) n P ops Q j K (a.put oi.dst v) w) :
  wpOpIn (Fence.wide.inRound l) n P ops Q j (fun a' w'=>YieldsIf P ops S oi v a'∧K (a'.put oi.dst v) w') a w:=by
 obtain⟨p1,p2,p3⟩:=Oper.apart_spec hap
 have kp:∀u,YieldsIf P ops S oi v (a.put oj.dst u):=fun u=>hy.of_same (execOp_put oi hsi a oj.dst u p3) (wanted_put oi a oj.dst u p3)
 have sw:∀{u:Value} {w'':World},K ((a.put oi.dst v).put oj.dst u) w''→K ((a.put oj.dst u).put oi.dst v) w'':=fun {u} {w''} hk=>by rw[←Act.put_comm a v u p2];exact hk
 unfold Go.wpOpIn at *;simp only[hj] at *;rw[wanted_put oj a oi.dst v p1] at h
 by_cases hw:Region.wanted oj (yielded ops a.tmps)=true
 rotate_left
 ·rw[if_neg hw] at h ⊢
  exact⟨fun f _=>trivial,kp _,sw h.2⟩
 rw[if_pos hw] at h ⊢
 refine⟨fun f _=>trivial,?_⟩
 have h:=h.2;rw[Oper.semAt_eq _ _ _ hnd,execOp_put oj hsj a oi.dst v p1] at h
 rw[Oper.semAt_eq _ _ _ hnd]
 cases hr:(execOp a.eval oj).run P w with
 | halt x w'=>
  rw[hr] at h
  cases x <;> simp only[Oper.uponIn] at h ⊢
  case panic u=>exact hQ _ _ _ h
 | ok x w'=>
  rw[hr] at h
  cases x <;> simp only[Oper.uponIn] at h ⊢
  case value u=>exact⟨kp u,sw h⟩
  case skip=>exact⟨kp _,sw h⟩
  case defer d=>
   refine⟨(show YieldsIf P ops S oi v {a with defers:=d :: a.defers} from hy.of_same rfl rfl).of_same (execOp_put oi hsi _ oj.dst _ p3) (wanted_put oi _ oj.dst _ p3),?_⟩
   rw[←Act.put_comm _ v undef p2,←Act.put_defers]
   exact h
  case enter f args=>
   refine⟨h.1,CallsIn.mono h.2 fun e w'' he=>?_⟩
   cases e with
   | returned u=>exact⟨kp u,sw he⟩
   | panicked c=>exact hQ _ _ _ he
   | outgrown=>exact he
  case row r args=>exact⟨h.1,RowsIn.mono h.2 fun u w'' he=>⟨kp u,sw he⟩⟩
  case round l' f t cas bd=>
   refine⟨h.1,RoundIn.mono h.2 fun e w'' he=>?_⟩
   cases e with
   | returned u=>exact⟨kp u,sw he⟩
   | panicked c=>exact hQ _ _ _ he
   | outgrown=>exact he
theorem anyR_first {i:Nat}{oi:Oper}{v:Value}(hnd:∀(i:Nat) (o:Oper),ops[i]? =some o→∀c,o.op≠.defer c)(hi:ops[i]? =some oi)(hsel:∀(j:Nat) (o:Oper) cs b,ops[j]? =some o→o.op≠.select cs b)(hQ:∀c a w,Q (.panic c) (a.put oi.dst v) w→Q (.panic c) a w) :
  ∀(k:Nat) (ls:Array Bool) (a:Act) (w:World),(∀j oj,ops[j]? =some oj→j≠i→ls.getD j true=false→(∀e∈oj.after,Region.binds md e=true→e.on≠i)→oi.apart ops oj=true)→
   i∈Region.ready md ops ls→YieldsIf P ops S oi v a→S w→anyR l n P md ops Q S k (ls.setIfInBounds i true) (a.put oi.dst v) w→anyR l n P md ops Q S (k+1) ls a w:=by
 intro k
 induction k with
 | zero=>
  intro ls a w _ hr hy hS H;refine⟨(fun h=>by rw[h] at hr;cases hr),fun j hj=>?_⟩
  by_cases e:j=i
  ·subst e;exact opR_val (hnd _ _ hi) hi hy hS ⟨hS,H⟩
  ·have h9:=ready_mono hj e;rw[H.1] at h9
   cases h9
 | succ k ih=>
  intro ls a w hfree hr hy hS H;refine⟨(fun h=>by rw[h] at hr;cases hr),fun j hj=>?_⟩
  by_cases e:j=i
  ·subst e;exact opR_val (hnd _ _ hi) hi hy hS ⟨hS,H⟩
  obtain⟨hun,oj,hoj,hall⟩:=mem_ready.1 hj
  have hno:∀e∈oj.after,Region.binds md e=true→e.on≠i:=fun e he hb h9=>by
   have q1:=hall e he hb;have q0:=(mem_ready.1 hr).1;rw[h9] at q1
   rcases Nat.lt_or_ge i ls.size with h' | h'
   ·simp[h'] at q0 q1
    rw[q0] at q1
    cases q1
   ·simp[Array.getElem?_eq_none h'] at q1
  refine wpOpIn_mono (fun a' w' h3=>⟨h3.2.1,ih (ls.setIfInBounds j true) a' w' (fun q oq hoq hqi hqu hqn=>?_) (ready_mono hr (Ne.symm e)) h3.1 h3.2.1 ?_⟩) (opR_put (i:=i) (hnd j oj hoj) hoj (hfree j oj hoj e hun hno) (fun cs b=>hsel i oi cs b hi) (fun cs b=>hsel j oj cs b hoj) hQ hy (H.2 j (ready_mono hj e)))
  ·refine hfree q oq hoq hqi ?_ hqn
   by_cases hjq:j=q
   ·subst hjq;exact hun
   ·rw[getD_set_ne true hjq] at hqu
    exact hqu
  ·rw[Array.setIfInBounds_comm _ _ e]
   exact h3.2.2
theorem takeR {i:Nat}{oi:Oper}{d:Tmp}{v:Value}{fuel:Nat}{listed:Array Bool}{a:Act}{w:World}(hnd:ops.all noDefer=true)(hi:ops[i]? =some oi)(hd:oi.dst=some d)
  (hs:Region.noSelect ops=true) (hf:Region.free md ops listed i=true) (hr:(Region.ready md ops listed).contains i=true)
  (hQ:∀c a w,Q (.panic c) {tmps:=a.tmps.setIfInBounds d v,defers:=a.defers} w→Q (.panic c) a w) (hy:YieldsIf P ops S oi v a) (hS:S w)
  (h:anyR l n P md ops Q S fuel (listed.setIfInBounds i true) {tmps:=a.tmps.setIfInBounds d v,defers:=a.defers} w):anyR l n P md ops Q S (fuel+1) listed a w:=by
 have hp:∀a:Act,a.put oi.dst v= {tmps:=a.tmps.setIfInBounds d v,defers:=a.defers} :=fun a=>by rw[hd];rfl
 refine anyR_first (noDefer_all hnd) hi (Region.noSelect_spec hs) (fun c a w h=>hQ c a w (by rw[hp] at h;exact h)) fuel listed a w (Region.free_spec hi hf) (by simpa using hr) hy hS ?_;rw[hp]
 exact h
theorem callR {i:Nat}{o:Oper}{d:Tmp}{f:FuncId}{args:Array Value}{v:Value}{fuel:Nat}{listed:Array Bool}{a:Act}{w:World}{R:World→Prop}(hi:ops[i]? =some o)(hnd:∀c,o.op≠.defer c)(hd:o.dst=some d)(hr:Region.ready md ops listed=[i])(hw:Region.wanted o (yielded ops a.tmps)=true)(hrun:∀wx,(execOp a.eval o).run P wx= .ok (.enter f args) wx)
  (hc:Calls P f args w fun e w'=>e= .returned v∧R w') (hRS:∀w',R w'→S w')
  (h:∀w',R w'→anyR l n P md ops Q S fuel (listed.setIfInBounds i true) {tmps:=a.tmps.setIfInBounds d v,defers:=a.defers} w'):anyR l n P md ops Q S (fuel+1) listed a w:=by
 have hp:a.put o.dst v= {tmps:=a.tmps.setIfInBounds d v,defers:=a.defers} :=by rw[hd];rfl
 refine⟨(fun h0=>by rw[hr] at h0;cases h0),fun j hj=>?_⟩
 rw[hr] at hj
 obtain rfl:=zY.1 hj;unfold Go.wpOpIn;simp only[hi];rw[if_pos hw]
 refine⟨fun f _=>trivial,?_⟩
 rw[Oper.semAt_eq _ _ _ hnd,hrun w]
 refine⟨(fun hd=>by cases hd),(CallsIn.inRound l (callsIn_wide.2 hc)).mono ?_⟩
 rintro e w' ⟨rfl,hR⟩;refine⟨hRS w' hR,?_⟩
 rw[hp]
 exact h w' hR
theorem yieldR {i:Nat}{o:Oper}{d:Tmp}{fuel:Nat}{listed:Array Bool}{a:Act}{w:World}{R:Bool→World→Prop}{l':Nat}{f':FuncId}{t':Array Value}{cas bd:Code}(hi:ops[i]? =some o)(hnd:∀c,o.op≠.defer c)(hd:o.dst=some d)(hr:Region.ready md ops listed=[i])(hw:Region.wanted o (yielded ops a.tmps)=true)(hrun:(execOp a.eval o).run P w= .ok (.round l' f' t' cas bd) w)
  (hc:RoundIn Fence.wide (n - 1) P l' f' t' cas bd w fun e w'=>∃t:Bool,e= .returned (.bool t)∧R t w') (hRS:∀t w',R t w'→S w')
  (h:∀t w',R t w'→anyR l n P md ops Q S fuel (listed.setIfInBounds i true) {tmps:=a.tmps.setIfInBounds d (.bool t),defers:=a.defers} w'):anyR l n P md ops Q S (fuel+1) listed a w:=by
 have hp:∀v,a.put o.dst v= {tmps:=a.tmps.setIfInBounds d v,defers:=a.defers} :=fun v=>by rw[hd];rfl
 refine⟨(fun h0=>by rw[hr] at h0;cases h0),fun j hj=>?_⟩
 rw[hr] at hj
 obtain rfl:=zY.1 hj;unfold Go.wpOpIn;simp only[hi];rw[if_pos hw]
 refine⟨fun f _=>trivial,?_⟩
 rw[Oper.semAt_eq _ _ _ hnd,hrun]
 refine⟨(fun hd=>by cases hd),RoundIn.mono (F:=Fence.wide.inRound l) hc ?_⟩
 rintro e w' ⟨t,rfl,hR⟩;refine⟨hRS t w' hR,?_⟩
 rw[hp]
 exact h t w' hR
theorem doneR {listed:Array Bool}{a:Act}{w:World}(hr:Region.ready md ops listed=[])(h:Q .normal a w):∀fuel,anyR l n P md ops Q S fuel listed a w
 | 0=>⟨hr,h⟩
 | _+1=>⟨fun _=>h,by rw[hr];simp⟩
theorem regionR {id:Nat}{a:Act}{w:World}{β:Type}(L:β→List (Nat × Value))(F:β→World→Prop)(hm:P.follows .mixedOrders=true)
  (h:anyR l n P .any ops (fun e a' w'=>e= .normal∧∃z,a'= {tmps:=setAll a.tmps (L z),defers:=a.defers}∧F z w') S ops.size (Array.replicate ops.size false) a w.drew)
  (h2:∀z w',F z w'→Q .normal {tmps:=setAll a.tmps (L z),defers:=a.defers} w'):(Code.region id ops true).wpIn (Fence.wide.inRound l) n P Q a w:=by
 refine wpIn_mono (wpIn_region_any hm (anyR_in _ _ _ _ h)) ?_;rintro e a' w' ⟨rfl,z,rfl,hF⟩;exact h2 z w' hF
end Go.Proofs.YtieoppabellafaaGreatDoor.Ts
namespace Go.Proofs.YtieoppabellafaaGreatDoor.Ts
open Go.RowKit Go.Shelf Fc St Sx Sa Rl
variable {its:List It}{l:List Fa}{P:OuP}{ob:Nat}{w:World}
noncomputable def keysL (its:List It)(l:List Fa):List (Nat × Bool × Int):=(letL its l).map fun i=>keyOfF i (fOf l i)
theorem keysL_may (hc:chkF its l=0):keysL its l=mayL its l:=by
 unfold keysL letL mayL;rw[if_pos hc]
 have key:∀r:List Nat,(r.filter (letB its l)).map (fun i=>keyOfF i (fOf l i))=r.flatMap (mayK its l):=fun r=>by
  induction r with
  | nil=>rfl
  | cons i r ih=>
   rw[List.filter_cons,List.flatMap_cons,←ih]
   unfold letB;have e1:∀{q:Prop} (b:Bool),(b=true↔q)→(q→(fOf l i).run=0)→q→True:=fun _ _ _ _=>trivial
   by_cases hb:MB (plOf its) (afOf its) (fOf l) i
   ·have hu:¬MU (plOf its) (afOf its) (fOf l) i:=fun hu=>by have h1:=hb.2.1;have h2:=hu.2.1.1;rw[h1] at h2;exact absurd h2 (by decide)
    have q1:mbB its l i=true:=mbB_iff.2 hb;rw[q1,Bool.true_or,if_pos rfl,zZ]
    unfold mayK;rw[if_pos hb,if_neg hu]
    have:keyOfF i (fOf l i)=(i,false,0):=by unfold keyOfF;rw[if_pos hb.2.1]
    rw[this]
    rfl
   ·have q1:mbB its l i=false:=by
     cases h:mbB its l i with
     | false=>rfl
     | true=>exact absurd (mbB_iff.1 h) hb
    rw[q1,Bool.false_or]
    by_cases hu:MU (plOf its) (afOf its) (fOf l) i
    ·have q2:muB its l i=true:=muB_iff.2 hu;rw[q2,if_pos rfl,zZ]
     unfold mayK;rw[if_neg hb,if_pos hu]
     have:keyOfF i (fOf l i)=(i,true,(fOf l i).slips):=by unfold keyOfF;rw[if_neg (by rw[hu.2.1.1];decide)]
     rw[this]
     rfl
    ·have q2:muB its l i=false:=by
      cases h:muB its l i with
      | false=>rfl
      | true=>exact absurd (muB_iff.1 h) hu
     rw[q2,if_neg (by decide)]
     unfold mayK;rw[if_neg hb,if_neg hu]
     rfl
 exact key _
structure XSt (Ws:World)(T TJ TB:Nat→Prop)(Ds:List Nat)(W:World):Prop where
 mks:Rl.Marks (fun b=>TJ b∧¬TB b) W Ds
 sub:∀b,TB b→TJ b
 own:∀b,TJ b→b < W.heap.size
 old:∀b,b < Ws.heap.size→(TJ b↔T b)
 sz:Ws.heap.size≤W.heap.size
section
variable {Ws:World}{T TJ TB:Nat→Prop}{Ds:List Nat}{W W':World}
theorem XSt.mv (h:XSt Ws T TJ TB Ds W){TB':Nat→Prop}(hm:Rl.Mv TB W TB' W'):Rl.Mv TJ W (fun b=>TJ b∨TB' b) W'∧XSt Ws T (fun b=>TJ b∨TB' b) TB' Ds W':=by
 have hl:∀b,TB b→b < W.heap.size:=fun b hb=>h.own b (h.sub b hb)
 have hsz:=h.sz;refine⟨hm.wide h.sub hl,h.mks.mono (fun D hD hx=>⟨.inl hD.1,hm.no (h.own D hD.1) hD.2⟩) (fun D hD hx=>(hm.same D (h.own D hD.1) hD.2).trans hx),fun b hb=> .inr hb,fun b hb=>?_,fun b hb=>?_,zH h.sz hm.size⟩
 ·rcases hb with hb | hb
  ·exact jR (h.own b hb) hm.size
  ·exact hm.up hl b hb
 ·rw[←h.old b hb]
  exact⟨fun hx=>hx.elim id (fun hx=>h.sub b ((hm.old b (by omega)).1 hx)),.inl⟩
theorem XSt.rv (h:XSt Ws T TJ TB Ds W)(hr:Rl.Rv 0 TJ W W'):XSt Ws T TJ TB Ds W':=
 ⟨h.mks.mono (fun D hD _=>hD) (fun D hD hx=>(hr.keep D hD.1 (h.own D hD.1)).trans hx),h.sub,fun b hb=>jR (h.own b hb) hr.size,h.old,zH h.sz hr.size⟩
theorem XSt.leave (h:XSt Ws T TJ TB Ds W){D:Nat}(hT:TB D)(hD:W.heap[D]? =some (.deferred (some []))):XSt Ws T TJ (fun _=>False) (D :: Ds) W:=
 ⟨Rl.Marks.cons (h.mks.mono (fun D hD _=>⟨hD.1,id⟩) (fun _ _ hx=>hx)) ⟨h.sub D hT,id⟩ hD (fun hm=>(h.mks.2 D hm).1.2 hT),fun _ h=>h.elim,h.own,h.old,h.sz⟩
end
structure KsS (Y l:Nat)(w1 Ws:World)(T TJ TB:Nat→Prop)(W:World):Prop where
 bY:Boxed W Y 121 (.func (.yield l) #[] #[])
 tY:TJ Y
 nY:¬TB Y
 bel:Below w1.heap.size w1 W
 low:∀b,TJ b→w1.heap.size≤b
 x:XSt Ws T TJ TB [] W
section
variable {Y lq:Nat}{w1 Ws:World}{T TJ TB:Nat→Prop}{W W':World}
theorem KsS.mv (h:KsS Y lq w1 Ws T TJ TB W){TB':Nat→Prop}(hm:Rl.Mv TB W TB' W'):Rl.Mv TJ W (fun b=>TJ b∨TB' b) W'∧KsS Y lq w1 Ws T (fun b=>TJ b∨TB' b) TB' W':=by
 obtain⟨h1,h2⟩:=h.x.mv hm
 have hle:=h.bel.size;refine⟨h1,Rl.boxed_mv h.bY hm h.nY,.inl h.tY,hm.no (h.x.own _ h.tY) h.nY,hm.below h.bel (fun b hb ht=>by have:=h.low b (h.x.sub b ht);omega) hle,fun b hb=>?_,h2⟩
 rcases hb with hb | hb
 ·exact h.low b hb
 ·by_cases hlt:b < W.heap.size
  ·exact h.low b (h.x.sub b ((hm.old b hlt).1 hb))
  ·omega
theorem KsS.below (h:KsS Y lq w1 Ws T TJ TB W)(hb:Below W.heap.size W W'):KsS Y lq w1 Ws T TJ TB W':=
 ⟨(hb.block Y h.bY.lt).trans h.bY,h.tY,h.nY,h.bel.trans (hb.mono h.bel.size),h.low,h.x.rv (Rl.Rv.of_below hb (zE _))⟩
theorem KsS.round (h:KsS Y lq w1 Ws T TJ TB W)(hr:Rl.Rv w1.heap.size TJ W W'):KsS Y lq w1 Ws T TJ TB W':=
 ⟨(hr.keep Y h.tY h.bY.lt).trans h.bY,h.tY,h.nY,h.bel.trans hr.below,h.low,h.x.rv hr.low0⟩
end
def KsI (Y lq:Nat)(w1 Ws:World)(T:Nat→Prop)(J:Nat→World→(Nat→Prop)→Prop)(k:Nat)(W:World)(TB:Nat→Prop):Prop:=∃TJ,J k W TJ∧KsS Y lq w1 Ws T TJ TB W
def KsX (Ws:World)(T:Nat→Prop)(Jx:Nat→World→(Nat→Prop)→Prop)(k:Nat)(c:Code)(W:World)(TB:Nat→Prop):Prop:=∃TJ,c= .ret∧Jx k W TJ∧XSt Ws T TJ TB [] W
def encK (x:Nat × Bool × Int)(_:Nat)(_:World)(_:Nat→Prop)(args:Array Value):Prop:=args= #[.agg (keyC x).toArray]
attribute [local go_sem] Oper.semAt_some
theorem keys_itr {w1:World}{bo bm n:Nat}(h:Ou its l P ob w1)(hn:its.length=n)(hbo:Boxed w1 bo 70 (.pointer (some ⟨ob,0,none⟩)))(hbm:Boxed w1 bm 84 (.func (.func 54) #[] #[.pointer (some ⟨bo,0,none⟩)]))(w:World)(hbw:Below w1.heap.size w1 w) :
  Rl.Itr Tryz.prog 57 #[.pointer (some ⟨bo,0,none⟩),.pointer (some ⟨bm,0,none⟩)] encK (keysL its l) w1.heap.size w1.heap.size (fun _=>False) w:=by
 intro li J Jx W hW hJ hJx hY hJ0;have HJ:Hid _:=hJ;have HJx:Hid _:=hJx;have HY:Hid _:=hY;have hle:w1.heap.size≤W.heap.size:=zH hbw.size hW.size;have HB0:Hid (Below w1.heap.size w1 W):=hbw.trans (hW.mono hbw.size);have hfew:=h.few;rw[hn] at hfew
 have HOU:Hid (∀wx,Below w1.heap.size w1 wx→Ou its l P ob wx):=fun wx hb=>h.later hb
 have HBO:Hid (∀wx,Below w1.heap.size w1 wx→Boxed wx bo 70 (.pointer (some ⟨ob,0,none⟩))):=fun wx hb=>(hb.block bo hbo.lt).trans hbo
 have HBM:Hid (∀wx,Below w1.heap.size w1 wx→Boxed wx bm 84 (.func (.func 54) #[] #[.pointer (some ⟨bo,0,none⟩)])):=fun wx hb=>(hb.block bm hbm.lt).trans hbm
 have HC0:Hid (∀wx,Below w1.heap.size w1 wx→wx.cell? ⟨ob,0,none⟩=some (.slice (some ⟨P.xb,P.xo,none⟩) n P.icap)):=fun wx hb=>by have:=(h.later hb).c0;rw[hn] at this;exact this
 have HC1:Hid (∀wx,Below w1.heap.size w1 wx→wx.cell? ⟨ob,1,none⟩=some (.slice (some ⟨P.fb,P.fo,none⟩) n P.lcap)):=fun wx hb=>by have:=(h.later hb).c1;rw[hn] at this;exact this
 have HFA:Hid (∀wx i,Below w1.heap.size w1 wx→i < n→wx.cell? ⟨P.fb,P.fo+i * 4,none⟩=some (.int .i64 (fOf l i).run)∧wx.cell? ⟨P.fb,P.fo+i * 4+1,none⟩=some (.int .i64 (fOf l i).tries)∧wx.cell? ⟨P.fb,P.fo+i * 4+2,none⟩=some (.int .i64 (fOf l i).slips)∧wx.cell? ⟨P.fb,P.fo+i * 4+3,none⟩=some (.bool (fOf l i).un)):=fun wx i hb hi=>(h.later hb).fact (by omega)
 obtain⟨s,hs⟩:∃s,W.heap.size=s:=⟨_,rfl⟩
 obtain⟨W2,hW2⟩:∃W2,W.alloc (.cells #[.func (.yield li) #[] #[]] 121)=W2:=⟨_,rfl⟩
 have hs2:W2.heap.size=s+1:=by rw[←hW2];simp[hs]
 have hb2:Below W.heap.size W W2:=by rw[←hW2];exact bl1 _ _
 have q2:Boxed W2 s 121 (.func (.yield li) #[] #[]):=by rw[←hW2,←hs];exact Boxed.new W 121 _
 obtain⟨W3,hW3⟩:∃W3,(W2.drew.alloc (.cells #[.int .i64 (n:Int)] 3)).alloc (.cells #[.func (.func 54) #[] #[.pointer (some ⟨bo,0,none⟩)]] 84)=W3:=⟨_,rfl⟩
 have hs3:W3.heap.size=s+3:=by rw[←hW3];simp;omega
 have hb3:Below W.heap.size W W3:=by
  rw[←hW3]
  have h1:Below W2.heap.size W2 ((W2.drew.alloc (.cells #[.int .i64 (n:Int)] 3)).alloc (.cells #[.func (.func 54) #[] #[.pointer (some ⟨bo,0,none⟩)]] 84)):=(((Below.refl _ W2).drew).alloc (by simp) _).alloc (by simp) _;exact hb2.trans (h1.mono hb2.size)
 have q3:Boxed W3 (s+1) 3 (.int .i64 (n:Int)):=by
  rw[←hW3,←hs2]
  exact (Boxed.new W2.drew 3 (.int .i64 (n:Int))).alloc _
 have q4:Boxed W3 (s+1+1) 84 (.func (.func 54) #[] #[.pointer (some ⟨bo,0,none⟩)]):=by
  have:=Boxed.new (W2.drew.alloc (.cells #[.int .i64 (n:Int)] 3)) 84 (.func (.func 54) #[] #[.pointer (some ⟨bo,0,none⟩)]);rw[jU,show W2.drew.heap.size=s+1 from hs2,hW3] at this
  exact this
 have q5:Boxed W3 s 121 (.func (.yield li) #[] #[]):=by
  rw[←hW3]
  exact ((show Boxed W2.drew s 121 _ from q2).alloc _).alloc _
 have HITR:Hid _:=through_itr w1.heap.size (w1:=w1) (bc:=s+1) (bl:=s+1+1) h hn hbo (fun b=>b=s+1∨b=s+1+1) W3 (HB0.out.trans (hb3.mono HB0.out.size)) q3 q4 (.inl rfl) (.inr rfl) (fun b hb=>by omega);have HKS:Hid (KsS s li w1 W (fun _=>False) (fun b=>False∨(W.heap.size≤b∧b < W3.heap.size)) (fun b=>b=s+1∨b=s+1+1) W3):=by
  refine⟨q5,.inr (by omega),by omega,HB0.out.trans (hb3.mono HB0.out.size),fun b hb=>(show False∨(W.heap.size≤b∧b < W3.heap.size) from hb).elim False.elim (fun h=>by omega),⟨Rl.Marks.nil _ _,fun b hb=> .inr (by omega),fun b hb=>(show False∨(W.heap.size≤b∧b < W3.heap.size) from hb).elim False.elim (fun h=>by omega),fun b hb=>⟨fun h=>h.resolve_right (by omega),.inl⟩,hb3.size⟩⟩
 have HJ3:Hid (J 0 W3 (fun b=>False∨(W.heap.size≤b∧b < W3.heap.size))):=hJ _ _ _ _ _ hJ0 (Rl.Mv.of_below_own hb3);have HMK:Hid _:=through_maker (n:Int) (.func 54) #[.pointer (some ⟨bo,0,none⟩)] W2.drew;rw[show W2.drew.heap.size=s+1 from hs2,hW3] at HMK
 obtain⟨ys,HYS⟩:∃ys,Hid (ys=letL its l):=⟨_,rfl⟩
 rw[←HYS.out] at HITR
 obtain⟨xs,HX⟩:∃xs,Hid (xs=keysL its l):=⟨_,rfl⟩
 rw[←HX.out] at HY ⊢
 have HXY:Hid (xs=ys.map fun i=>keyOfF i (fOf l i)):=by show _=_;rw[HX.out,HYS.out];rfl
 have HYN:Hid (∀i∈ys,i < n):=fun i hi=>by
  rw[HYS.out] at hi
  have:=zB.1 (List.mem_filter.1 hi).1;omega
 obtain⟨R,HR⟩:∃R:Ending→World→Prop,Hid (R=fun e W2=>∃v T2,e= .returned v∧(J xs.length W2 T2∨∃k,k < xs.length∧Jx (k+1) W2 T2)∧(∀b,b < W.heap.size→(T2 b↔False))∧(∀b,T2 b→b < W2.heap.size)):=⟨_,rfl⟩
 rw[←HR.out]
 have HS3:Hid (W3.heap.size=s+3):=hs3;have HS2:Hid (W2.heap.size=s+1):=hs2;have HSW:Hid (W.heap.size=s):=hs;have HB2:Hid (Below w1.heap.size w1 W2):=HB0.out.trans (hb2.mono HB0.out.size);clear h hbo hbm hJ hJx hY hJ0 hW hbw hb2 hb3 q2 q3 q4 q5 hs2 hs3 hn hW3 HYS HX;generalize (fun b=>False∨(W.heap.size≤b∧b < W3.heap.size))=TJ0 at HKS HJ3;refine callsIn_of_wp_marks Tryz.func57 rfl trivial ?_ rfl;simp only[Tryz.ntmps57,jN,jM,jP,Nat.reduceAdd,Nat.reduceSub,jI,jJ,jO,zN,jL,jK]
 gi_wp2
 clear hW2 hs;refine wpIn_wide.2 ?_;have hS0:Below w1.heap.size w1 W2.drew:=HB2.out.drew;refine region_thenF [(5,.pointer (some ⟨ob,0,none⟩)),(6,.pointer (some ⟨ob,0,none⟩)),(7,.pointer (some ⟨ob,0,none⟩)),(8,.slice (some ⟨P.xb,P.xo,none⟩) n P.icap),(9,.int .i64 (n:Int)),(10,.func (.func 54) #[] #[.pointer (some ⟨bo,0,none⟩)]),(11,.func (.func 86) #[] #[.pointer (some ⟨s+1,0,none⟩),.pointer (some ⟨s+1+1,0,none⟩)])] (fun w'=>w'=W3) ?_ ?_
 ·refine wp_region_held (S:=fun w'=>Below w1.heap.size w1 w') (by kernel_rfl) ?_;simp only[jN,jM,jP,Nat.reduceAdd,jI,jJ,jO,jL,jK];refine tV 0 5 (.pointer (some ⟨ob,0,none⟩)) 6 rfl hS0 ?_ (fun wx h=>by have y0:=(HBO.out wx h).cell;go_simp);refine tG 1 6 (.pointer (some ⟨ob,0,none⟩)) 5 rfl hS0 ?_;refine tG 2 7 (.pointer (some ⟨ob,0,none⟩)) 4 rfl hS0 ?_;refine tV 3 8 (.slice (some ⟨P.xb,P.xo,none⟩) n P.icap) 3 rfl hS0 ?_ (fun wx h=>by have y0:=HC0.out wx h;go_simp);refine tV 4 9 (.int .i64 (n:Int)) 2 rfl hS0 ?_ (fun wx h=>by go_simp);refine tV 5 10 (.func (.func 54) #[] #[.pointer (some ⟨bo,0,none⟩)]) 1 rfl hS0 ?_ (fun wx h=>by have y0:=(HBM.out wx h).cell;go_simp);refine oneW (R:=fun w'=>w'=W3) (i:=6) (d:=11) (f:=58) (args:= #[.int .i64 (n:Int),.func (.func 54) #[] #[.pointer (some ⟨bo,0,none⟩)]]) (v:= .func (.func 86) #[] #[.pointer (some ⟨s+1,0,none⟩),.pointer (some ⟨s+1+1,0,none⟩)]) (fuel:=0) rfl rfl (by kernel_rfl) (by kernel_rfl) (fun _=>by kernel_rfl) (HMK.out) (fun w' h=>by rw[h];exact HKS.out.bel) (fun wz hR6=>?_);simp only[jA,jB,jC];refine wpAnyH_done (by kernel_rfl) ?_ _;exact⟨rfl,by kernel_rfl,hR6⟩
 ·intro w9 hF;simp only[setAll,jA,jB,jC];obtain rfl:=hF.symm;clear HMK hS0 HB2 HS2 HC0 HBM;have hle3:w1.heap.size≤W3.heap.size:=HKS.out.bel.size
  gi_wp2
  refine Rl.range_law (P:=Tryz.prog) (gf:=86) (lb:= #[.pointer (some ⟨s+1,0,none⟩),.pointer (some ⟨s+1+1,0,none⟩)]) rfl (enters_of Tryz.func86 (by kernel_rfl) rfl) (enc:=encN) (xs:=ys) (n0:=w1.heap.size) (m0:=w1.heap.size) (T:=fun b=>b=s+1∨b=s+1+1)
   HITR.out (fun b hb=>by have:=HS3.out;omega) hle3 (jG _) (fun x F W T args h=>by rw[show args=_ from h];rfl)
   (fun k V TB=>Hid (KsI s li w1 W (fun _=>False) J k V TB)) (fun c k V TB=>Hid (KsX W (fun _=>False) Jx k c V TB))
   (fun k V TV V' TV' h hm=>by obtain⟨TJ,h1,h2⟩:=h.out;obtain⟨m1,m2⟩:=h2.mv hm;exact⟨_,HJ.out _ _ _ _ _ h1 m1,m2⟩)
   (fun c k V TV V' TV' h hm=>by obtain⟨TJ,h0,h1,h2⟩:=h.out;obtain⟨m1,m2⟩:=h2.mv hm;exact⟨_,h0,HJx.out _ _ _ _ _ h1 m1,m2⟩)
   ⟨TJ0,HJ3.out,HKS.out⟩ ?rnd ?done ?stop
  case rnd=>
   rintro m l' k x args F V T1 TB hxk henc ⟨Wf,Tf,HIf,hF9,hmF⟩ HI hTB hup hnc hlt;cases henc;have hxn:x < n:=HYN.out x (jV hxk);have HXK:Hid (xs[k]? =some (keyOfF x (fOf l x))):=by
    show _=_;rw[HXY.out,zC,hxk]
    rfl
   clear HIf hF9 hmF hxk hTB hnc hup hlt HITR HKS HJ3
   gi_wp2
   refine⟨HI,Rl.Rv.refl _ _ _,fun W2' HI2 hbz=>?_⟩
   clear HI hbz;obtain⟨TJ,hj2,hm2⟩:=HI2.out
   have HM2:Hid (KsS s li w1 W (fun _=>False) TJ TB W2'):=hm2;have HJ2:Hid _:=hj2;have HFX:Hid (∀wx,Below w1.heap.size w1 wx→wx.cell? ⟨P.fb,P.fo+x * 4,none⟩=some (.int .i64 (fOf l x).run)∧wx.cell? ⟨P.fb,P.fo+x * 4+1,none⟩=some (.int .i64 (fOf l x).tries)∧wx.cell? ⟨P.fb,P.fo+x * 4+2,none⟩=some (.int .i64 (fOf l x).slips)∧wx.cell? ⟨P.fb,P.fo+x * 4+3,none⟩=some (.bool (fOf l x).un)):=fun wx hb=>HFA.out wx x hb hxn
   clear hj2 hm2 HI2;generalize fOf l x=f at HXK HFX;have HF:Hid (FaV f= .agg #[.int .i64 f.run,.int .i64 f.tries,.int .i64 f.slips,.bool f.un]):=rfl;have hxi:(x:Int) < (n:Int):=by omega
   have HKL:Hid (k < xs.length):=(jH.1 HXK.out).1
   gi_wp2
   refine regionR (S:=fun w'=>Boxed w' s 121 (.func (.yield li) #[] #[])∧Below w1.heap.size w1 w') (β:=Bool) (fun z=>[(13,.func (.yield li) #[] #[]),(14,.int .i64 (x:Nat)),(15,.pointer (some ⟨ob,0,none⟩)),(16,.pointer (some ⟨ob,0,none⟩)),(17,.pointer (some ⟨ob,1,none⟩)),(18,.slice (some ⟨P.fb,P.fo,none⟩) n P.lcap),(19,.int .i64 (x:Nat)),(20,.pointer (some ⟨P.fb,P.fo+x * 4,none⟩)),(21,FaV f),(22,.agg (keyC (keyOfF x f)).toArray),(23,.bool z),(24,.bool (!z))]) (fun z w'=>∃w4,Below W2'.heap.size W2' w4∧(z=true→J (k+1) w' TJ∧Rl.Rv w1.heap.size TJ w4 w')∧(z=false→Jx (k+1) w' TJ∧Rl.Rv w1.heap.size TJ w4 w')) (by kernel_rfl) ?_ ?_
   ·have hS0:Boxed W2'.drew s 121 (.func (.yield li) #[] #[])∧Below w1.heap.size w1 W2'.drew:=⟨HM2.out.bY,HM2.out.bel.drew⟩;simp only[jN,jM,jP,Nat.reduceAdd,jI,jJ,jO,jL,jK];refine takeR (i:=0) (d:=13) (v:= .func (.yield li) #[] #[]) (fuel:=11) (by kernel_rfl) rfl rfl (by kernel_rfl) (by kernel_rfl) (by kernel_rfl) (fun _ _ _ h=>by cases h.1) (.inl ⟨by kernel_rfl,fun wx h=>by have y0:=h.1.cell;go_simp⟩) hS0 ?_;simp only[jA,jB,jC];refine takeR (i:=1) (d:=14) (v:= .int .i64 (x:Nat)) (fuel:=10) (by kernel_rfl) rfl rfl (by kernel_rfl) (by kernel_rfl) (by kernel_rfl) (fun _ _ _ h=>by cases h.1) (.inl ⟨by kernel_rfl,fun _ _=>by kernel_rfl⟩) hS0 ?_;simp only[jA,jB,jC];refine takeR (i:=2) (d:=15) (v:= .pointer (some ⟨ob,0,none⟩)) (fuel:=9) (by kernel_rfl) rfl rfl (by kernel_rfl) (by kernel_rfl) (by kernel_rfl) (fun _ _ _ h=>by cases h.1) (.inl ⟨by kernel_rfl,fun wx h=>by have y0:=(HBO.out wx h.2).cell;go_simp⟩) hS0 ?_;simp only[jA,jB,jC];refine takeR (i:=3) (d:=16) (v:= .pointer (some ⟨ob,0,none⟩)) (fuel:=8) (by kernel_rfl) rfl rfl (by kernel_rfl) (by kernel_rfl) (by kernel_rfl) (fun _ _ _ h=>by cases h.1) (.inl ⟨by kernel_rfl,fun _ _=>by go_simp⟩) hS0 ?_;simp only[jA,jB,jC];refine takeR (i:=4) (d:=17) (v:= .pointer (some ⟨ob,1,none⟩)) (fuel:=7) (by kernel_rfl) rfl rfl (by kernel_rfl) (by kernel_rfl) (by kernel_rfl) (fun _ _ _ h=>by cases h.1) (.inl ⟨by kernel_rfl,fun _ _=>by go_simp⟩) hS0 ?_;simp only[jA,jB,jC];refine takeR (i:=5) (d:=18) (v:= .slice (some ⟨P.fb,P.fo,none⟩) n P.lcap) (fuel:=6) (by kernel_rfl) rfl rfl (by kernel_rfl) (by kernel_rfl) (by kernel_rfl) (fun _ _ _ h=>by cases h.1) (.inl ⟨by kernel_rfl,fun wx h=>by have y0:=HC1.out wx h.2;go_simp⟩) hS0 ?_;simp only[jA,jB,jC];refine takeR (i:=6) (d:=19) (v:= .int .i64 (x:Nat)) (fuel:=5) (by kernel_rfl) rfl rfl (by kernel_rfl) (by kernel_rfl) (by kernel_rfl) (fun _ _ _ h=>by cases h.1) (.inl ⟨by kernel_rfl,fun _ _=>by kernel_rfl⟩) hS0 ?_;simp only[jA,jB,jC];refine takeR (i:=7) (d:=20) (v:= .pointer (some ⟨P.fb,P.fo+x * 4,none⟩)) (fuel:=4) (by kernel_rfl) rfl rfl (by kernel_rfl) (by kernel_rfl) (by kernel_rfl) (fun _ _ _ h=>by cases h.1) (.inl ⟨by kernel_rfl,fun _ _=>by go_simp⟩) hS0 ?_;simp only[jA,jB,jC];refine takeR (i:=8) (d:=21) (v:=FaV f) (fuel:=3) (by kernel_rfl) rfl rfl (by kernel_rfl) (by kernel_rfl) (by kernel_rfl) (fun _ _ _ h=>by cases h.1) (.inl ⟨by kernel_rfl,fun wx h=>by rw[HF.out];obtain⟨y0,y1,y2,y3⟩:=HFX.out wx h.2;go_simp⟩) hS0 ?_
    simp only[jA,jB,jC];refine callR (R:=fun w4=>Below W2'.heap.size W2' w4) (i:=9) (d:=22) (f:=59) (args:= #[.int .i64 (x:Nat),FaV f]) (v:= .agg (keyC (keyOfF x f)).toArray) (fuel:=2) rfl (by intro c h;cases h) rfl (by kernel_rfl) (by kernel_rfl) (fun _=>by kernel_rfl) (Calls.mono (keyOf_any x f W2'.drew) (by rintro e w4 ⟨rfl,hb⟩;exact⟨rfl,(Below.refl _ _).drew.trans hb⟩)) (fun w4 h=>⟨(HM2.out.below h).bY,(HM2.out.below h).bel⟩) (fun w4 hb4=>?_);simp only[jA,jB,jC];have HM4:Hid (KsS s li w1 W (fun _=>False) TJ TB w4):=HM2.out.below hb4;have hJ4:J k w4 TJ:=HJ.out _ _ _ _ _ HJ2.out (Rl.Mv.of_below hb4);obtain⟨fnn,tms,asg,bdy,hy,hR⟩:=HY.out k _ #[.agg (keyC (keyOfF x f)).toArray] w4.heap.size w4 TJ HXK.out rfl ⟨w4,TJ,hJ4,rfl,Rl.Mv.refl _ _⟩ hJ4 HM4.out.x.own (m - 1)
    refine yieldR (R:=fun t w'=>(t=true→J (k+1) w' TJ∧Rl.Rv w1.heap.size TJ w4 w')∧(t=false→Jx (k+1) w' TJ∧Rl.Rv w1.heap.size TJ w4 w')) (i:=10) (d:=23) (fuel:=1) rfl (by intro c h;cases h) rfl (by kernel_rfl) (by kernel_rfl) (by go_simp) hR (fun z w' h=>?_) (fun z w' h=>?_)
    ·have hrv:Rl.Rv w1.heap.size TJ w4 w':=by
      cases z with
      | true=>exact (h.1 rfl).2
      | false=>exact (h.2 rfl).2
     exact⟨(HM4.out.round hrv).bY,(HM4.out.round hrv).bel⟩
    have hS9:Boxed w' s 121 (.func (.yield li) #[] #[])∧Below w1.heap.size w1 w':=by
     have hrv:Rl.Rv w1.heap.size TJ w4 w':=by
      cases z with
      | true=>exact (h.1 rfl).2
      | false=>exact (h.2 rfl).2
     exact⟨(HM4.out.round hrv).bY,(HM4.out.round hrv).bel⟩
    simp only[jA,jB,jC];refine takeR (i:=11) (d:=24) (v:= .bool (!z)) (fuel:=0) (by kernel_rfl) rfl rfl (by kernel_rfl) (by kernel_rfl) (by kernel_rfl) (fun _ _ _ h=>by cases h.1) (.inl ⟨by kernel_rfl,fun _ _=>by go_simp⟩) hS9 ?_;simp only[jA,jB,jC];refine doneR (by kernel_rfl) ?_ _;exact⟨rfl,z,by kernel_rfl,w4,hb4,h⟩
   ·rintro z w5 ⟨w4,hb4,ht1,ht2⟩;simp only[setAll,jA,jB,jC,Exit.then];have HM4:Hid (KsS s li w1 W (fun _=>False) TJ TB w4):=HM2.out.below hb4;have HR4:Hid (Rl.Rv w1.heap.size TB W2' w4):=Rl.Rv.of_below hb4 HM2.out.bel.size;cases z with
    | true=>
     obtain⟨hj5,hrv⟩:=ht1 rfl
     have HI5:Hid (KsI s li w1 W (fun _=>False) J (k+1) w5 TB):=⟨TJ,hj5,HM4.out.round hrv⟩;have HR5:Hid (Rl.Rv w1.heap.size TB W2' w5):=HR4.out.trans (hrv.mono HM4.out.x.sub);clear ht1 ht2 hj5 hrv HM4 HR4 hb4
     gi_wp2
     exact⟨HI5,HR5.out⟩
    | false=>
     obtain⟨hj5,hrv⟩:=ht2 rfl
     have HI5:Hid (KsX W (fun _=>False) Jx (k+1) .ret w5 TB):=⟨TJ,rfl,hj5,HM4.out.x.rv hrv.low0⟩;have HR5:Hid (Rl.Rv w1.heap.size TB W2' w5):=HR4.out.trans (hrv.mono HM4.out.x.sub);clear ht1 ht2 hj5 hrv HM4 HR4 hb4
     gi_wp2
     exact⟨HI5,HR5.out⟩
  case done=>
   rintro V T2 h hold hup hdef hts;obtain⟨TJ,h1,h2⟩:=h.out
   have HXS:Hid (XSt W (fun _=>False) TJ (fun _=>False) [W3.heap.size] V):=h2.x.leave hts hdef;have HJd:Hid (J xs.length V TJ):=by
    have hl:xs.length=ys.length:=by rw[HXY.out,zG]
    show J _ _ _;rw[hl]
    exact h1
   clear h1 h2 h hold hup hdef hts
   gi_wp2
   show LeavesInM Fence.wide 0 Tryz.prog Tryz.f57 _ R ([W3.heap.size].map Rl.mark) .returning V;refine Rl.leaves_marks (T:=fun b=>TJ b∧¬False) (by simp) (fun A=>∃TA,J xs.length A TA∧(∀b,TJ b→TA b)∧(∀b,b < W.heap.size→(TA b↔False))∧∀b,TA b→b < A.heap.size) ?_ ?_ _ V HXS.out.mks ⟨TJ,HJd.out,fun _=>id,HXS.out.old,HXS.out.own⟩
   ·rintro A D hD ⟨TA,h1,h2,h3,h4⟩;exact⟨TA,HJ.out _ _ _ _ _ h1 (Rl.Mv.putObj _ _ (h2 D hD.1)),h2,h3,fun b hb=>by simpa [World.putObj] using h4 b hb⟩
   ·rintro A ⟨TA,h1,h2,h3,h4⟩;refine⟨_,results_none rfl _ _,?_⟩
    rw[HR.out]
    exact⟨_,TA,rfl,.inl h1,h3,h4⟩
  case stop=>
   rintro c k V T2 hk h hold hup hdef hts;obtain⟨TJ,rfl,h1,h2⟩:=h.out
   have HXS:Hid (XSt W (fun _=>False) TJ (fun _=>False) [W3.heap.size] V):=h2.leave hts hdef;have HJd:Hid (Jx (k+1) V TJ):=h1;have HKX:Hid (k < xs.length):=by
    have hl:xs.length=ys.length:=by rw[HXY.out,zG]
    show k < _;rw[hl]
    exact hk
   clear h1 h2 h hold hup hdef hts hk
   gi_wp2
   show LeavesInM Fence.wide 0 Tryz.prog Tryz.f57 _ R ([W3.heap.size].map Rl.mark) .returning V;refine Rl.leaves_marks (T:=fun b=>TJ b∧¬False) (by simp) (fun A=>∃TA,Jx (k+1) A TA∧(∀b,TJ b→TA b)∧(∀b,b < W.heap.size→(TA b↔False))∧∀b,TA b→b < A.heap.size) ?_ ?_ _ V HXS.out.mks ⟨TJ,HJd.out,fun _=>id,HXS.out.old,HXS.out.own⟩
   ·rintro A D hD ⟨TA,h1,h2,h3,h4⟩;exact⟨TA,HJx.out _ _ _ _ _ h1 (Rl.Mv.putObj _ _ (h2 D hD.1)),h2,h3,fun b hb=>by simpa [World.putObj] using h4 b hb⟩
   ·rintro A ⟨TA,h1,h2,h3,h4⟩;refine⟨_,results_none rfl _ _,?_⟩
    rw[HR.out]
    exact⟨_,TA,rfl,.inr ⟨k,HKX.out,h1⟩,h3,h4⟩
end Go.Proofs.YtieoppabellafaaGreatDoor.Ts
namespace Go.Proofs.YtieoppabellafaaGreatDoor.Ts
open Go.RowKit Go.Shelf Fc St Sx Sa Rl
variable {its:List It}{l:List Fa}{P:OuP}{ob:Nat}{w:World}
theorem OK.keep {B:Nat}{w w':World}{v:Value}{K:List (Nat × Bool × Int)}(h:OK B w v K)(hk:∀b,v.ownBlock=some b→w'.heap[b]? =w.heap[b]?):OK B w' v K:=by
 refine⟨h.1,?_⟩
 rcases h.2 with hn | ⟨g,cap,cur,rfl,hB,hg,rest⟩
 ·exact .inl hn
 ·exact .inr ⟨g,cap,cur,rfl,hB,(hk g rfl).trans hg,rest⟩
structure ApS (w:World)(bx:Nat)(xs:List (Nat × Bool × Int))(k:Nat)(V:World)(TB:Nat→Prop):Prop where
 bel:Below w.heap.size w V
 own:∀b,TB b→w.heap.size≤b
 le:w.heap.size≤bx
 lt:bx < V.heap.size
 nb:¬TB bx
 ex:∃u,V.heap[bx]? =some (.cells #[u] 36 (0,0))∧OK w.heap.size V u (xs.take k)∧∀b,u.ownBlock=some b→¬TB b
theorem ApS.mv {w:World}{bx k:Nat}{xs:List (Nat × Bool × Int)}{V V':World}{TB TB':Nat→Prop}(h:ApS w bx xs k V TB)(hm:Rl.Mv TB V TB' V'):ApS w bx xs k V' TB':=by
 obtain⟨h1,h2,h3,h4,h5,u,h6,h7,h8⟩:=h
 refine⟨hm.below h1 (fun b hb ht=>by have:=h2 b ht;omega) h1.size,fun b hb=>?_,h3,jR h4 hm.size,hm.no h4 h5,u,(hm.same bx h4 h5).trans h6,OK.keep h7 (fun b hb=>hm.same b (World.ownsRow.lt h7 b hb).2 (h8 b hb)),fun b hb=>hm.no (World.ownsRow.lt h7 b hb).2 (h8 b hb)⟩
 by_cases hlt:b < V.heap.size
 ·exact h2 b ((hm.old b hlt).1 hb)
 ·have:=h1.size;omega
attribute [local go_sem] Oper.semAt_some
theorem appendSeq_any {bo bm n:Nat}(h:Ou its l P ob w)(hn:its.length=n)(hbo:Boxed w bo 70 (.pointer (some ⟨ob,0,none⟩)))(hbm:Boxed w bm 84 (.func (.func 54) #[] #[.pointer (some ⟨bo,0,none⟩)])) :
  Calls Tryz.prog 53 #[.slice none 0 0,.func (.func 57) #[] #[.pointer (some ⟨bo,0,none⟩),.pointer (some ⟨bm,0,none⟩)]] w fun e w'=>Below w.heap.size w w'∧∃u,e= .returned u∧OK w.heap.size w' u (keysL its l):=by
 have hfew:=h.few;have HW1:Hid _:=bl1 w (.cells #[.slice none 0 0] 36);have rn:=Dg.row_new w #[.slice none 0 0] 36;have hs1:(w.alloc (.cells #[.slice none 0 0] 36)).heap.size=w.heap.size+1:=by simp
 have HITR:Hid _:=keys_itr h hn hbo hbm (w.alloc (.cells #[.slice none 0 0] 36)) (bl1 w _);have hKL:(keysL its l).length≤64:=by
  unfold keysL letL;rw[zG]
  have:=List.length_filter_le (letB its l) (List.range its.length);rw[List.length_range] at this
  omega
 obtain⟨xs,HX⟩:∃xs,Hid (xs=keysL its l):=⟨_,rfl⟩
 rw[←HX.out] at HITR hKL ⊢
 have HKL:Hid _:=hKL;obtain⟨R,HR⟩:∃R:Ending→World→Prop,Hid (R=fun e w'=>Below w.heap.size w w'∧∃u,e= .returned u∧OK w.heap.size w' u xs):=⟨_,rfl⟩
 rw[←HR.out]
 have H0:Hid (ApS w w.heap.size xs 0 (w.alloc (.cells #[.slice none 0 0] 36)) (fun _=>False)):=⟨HW1.out,fun b hb=>hb.elim,jG _,by omega,id,_,rn,zT _ _ _ _,fun b hb=>by cases hb⟩;clear h hbo hbm hn HX rn hKL
 suffices key:CallsIn Fence.wide 0 Tryz.prog 53 #[.slice none 0 0,.func (.func 57) #[] #[.pointer (some ⟨bo,0,none⟩),.pointer (some ⟨bm,0,none⟩)]] w R from callsIn_wide.1 key
 refine callsIn_of_wp_marks Tryz.func53 rfl trivial ?_ rfl;simp only[Tryz.ntmps53,jN,jM,jP,Nat.reduceAdd,Nat.reduceSub,jI,jJ,jO,zN,jL,jK]
 gi_wp2
 obtain⟨s,hs⟩:∃s,w.heap.size=s:=⟨_,rfl⟩
 obtain⟨w1,hw1⟩:∃w1,w.alloc (.cells #[.slice none 0 0] 36)=w1:=⟨_,rfl⟩
 rw[hw1] at H0 HW1 HITR hs1 ⊢
 rw[hs] at H0 hs1 ⊢
 have HS:Hid (w.heap.size=s):=hs;have HS1:Hid (w1.heap.size=s+1):=hs1;clear hw1 hs hs1;refine Rl.range_law (P:=Tryz.prog) (gf:=57) (lb:= #[.pointer (some ⟨bo,0,none⟩),.pointer (some ⟨bm,0,none⟩)]) rfl (enters_of Tryz.func57 (by kernel_rfl) rfl) (enc:=encK) (xs:=xs) (n0:=w.heap.size) (m0:=w.heap.size) (T:=fun _=>False)
  HITR.out (fun b hb=>hb.elim) HW1.out.size (jG _) (fun x F W T args h=>by rw[show args=_ from h];rfl)
  (fun k V TB=>Hid (ApS w s xs k V TB)) (fun c k V TB=>False)
  (fun k V TV V' TV' h hm=>ApS.mv h.out hm) (fun c k V TV V' TV' h hm=>h)
  H0 ?rnd ?done ?stop
 case rnd=>
  rintro m l' k x args F V T1 TB hxk henc ⟨Wf,Tf,HIf,hF9,hmF⟩ HI hTB hup hnc hlt;cases henc;have HXK:Hid _:=hxk;clear HIf hF9 hmF hxk hTB hnc hlt HITR H0;have hb5:=bl1 V (.cells (keyC x).toArray 47);have rk:=Dg.row_new V (keyC x).toArray 47;obtain⟨xi,xu,xt⟩:=x
  unfold keyC at *;dsimp only at *
  gi_wp2
  refine⟨ApS.mv HI.out (Rl.Mv.of_below hb5),Rl.Rv.of_below hb5 HI.out.bel.size,fun W2 HI2 hbz=>?_⟩
  have k0:=hbz.cell ((Dg.cell_row rk 0).trans rfl);have k1:=hbz.cell ((Dg.cell_row rk 1).trans rfl);have k2:=hbz.cell ((Dg.cell_row rk 2).trans rfl);have HLT:Hid (∀b,TB b→b < W2.heap.size):=fun b hb=>by have h1:=hup b hb;have h2:=hbz.size;have h3:=hb5.size;show b < _;omega
  clear HI hb5 rk hbz hup;generalize V.heap.size=kb at *;obtain⟨q1,q2,q3,q4,q5,u,q6,q7,q8⟩:=HI2.out
  obtain⟨ua,uc,rfl⟩:=q7.slice
  have hkl:k < xs.length:=(jH.1 HXK.out).1;have htl:(xs.take k).length=k:=by rw[List.length_take];omega
  have ho:W2.ownsRow w.heap.size 47 3 (.slice ua k uc) k (rowsK (xs.take k)):=by have:=q7;unfold OK at this;rw[htl] at this;exact this
  rw[htl] at q6 q8
  have c0:=(Dg.cell_row q6 0).trans rfl;obtain⟨i0,hi0,hz0,hz1,hz2⟩:=info_parts info45
  have ho5:(W2.alloc (.cells #[.int .i64 (xi:Int),.bool xu,.int .i64 xt] 47)).ownsRow w.heap.size 47 3 (.slice ua k uc) k (rowsK (xs.take k)):=own_below ho ((Below.refl _ _).alloc (jG _) _);have h5b:=Dg.row_alloc q6 (.cells #[.int .i64 (xi:Int),.bool xu,.int .i64 xt] 47);have hnb:=own_other ho5 h5b (by decide);have HO5:Hid _:=ho5;have H5B:Hid _:=h5b;have HNB:Hid _:=hnb;have HQ8:Hid _:=q8;have HQS:Hid (w.heap.size≤W2.heap.size):=q1.size;have hsl:s≤W2.heap.size:=Nat.le_of_lt q4;have HQ1:Hid _:=q1;have HQ2:Hid _:=q2;have HQ5:Hid _:=q5;have HKB:Hid (k≤64):=by have:=HKL.out;show k≤64;omega
  have hcl:∀(j:Nat) (u:Value),([.int .i64 (xi:Int),.bool xu,.int .i64 xt]:List Value)[j]? =some u→(W2.alloc (.cells #[.int .i64 (xi:Int),.bool xu,.int .i64 xt] 47)).cell? ((⟨W2.heap.size,0,none⟩:Addr).add j)=some u:=fun j u hj=>by
   have hr:=Dg.row_new W2 #[.int .i64 (xi:Int),.bool xu,.int .i64 xt] 47;have h7:(⟨W2.heap.size,0,none⟩:Addr).add j=⟨W2.heap.size,j,none⟩:=by unfold Addr.add;split <;> simp_all
   rw[h7,Dg.cell_row hr j,←hj]
   simp
  have HCL:Hid _:=hcl;clear q7 q1 q2 q3 q5 q6 q8 ho ho5 h5b hnb hcl htl HI2
  gi_wp2_with (refine wpListIn_append_own_at _ rfl _ _ 36 rfl w.heap.size 47 i0 _ 3 24 Tryz.underlying36 hi0 hz0 hz1 hz2 rfl (by decide) _ k (rowsK (xs.take k)) rfl HO5.out ⟨W2.heap.size,0,none⟩ 1 1 [.int .i64 (xi:Int),.bool xu,.int .i64 xt] rfl rfl HCL.out (by intro u hu;simp only[zJ,List.not_mem_nil,or_false] at hu;rcases hu with rfl | rfl | rfl <;> rfl) (by unfold maxLen;have:=HKB.out;omega) (by have:=HKB.out;omega) (by have:=HQS.out;simp;omega) ?_;intro v7 w7 ho7 hg7 _ hat7;obtain⟨va,vc,rfl⟩:=own_slice ho7;have h57:=(hg7.block _ (jD.1 H5B.out).1 HNB.out).trans H5B.out;have z7:=(Dg.cell_row h57 0).trans rfl;have f7:=Dg.froz_row h57 0)
  have hw:=HS.out;have hws:=HQS.out;have hg7s:=hg7.size;rw[jU] at hg7s
  have hR:Rl.Rv w.heap.size TB W2 (w7.setCell ⟨s,0,none⟩ (.slice va (k+1) vc)):=
   ((Rl.Rv.of_below (bl1 W2 _) hws).trans (Rl.Rv.grown hg7 (fun r hr=>⟨(World.ownsRow.lt HO5.out r hr).1,HQ8.out r hr⟩) (by simp;omega))).trans (Rl.Rv.setCell w7 _ (by omega) HQ5.out)
  have h9:OK w.heap.size w7 (.slice va (k+1) vc) (xs.take (k+1)):=by
   unfold OK;have hl:(xs.take (k+1)).length=k+1:=by rw[List.length_take];omega
   rw[hl,zL,HXK.out]
   show w7.ownsRow _ _ _ _ _ (rowsK (xs.take k ++ [(xi,xu,xt)]));rw[rowsK_snoc]
   exact ho7
  refine⟨⟨HQ1.out.trans hR.below,HQ2.out,by omega,by simp;omega,HQ5.out,_,Dg.row_set h57 0 _,OK.keep h9 (fun b hb=>jW _ _ _ _ (fun e=>own_other ho7 h57 (by decide) (by rw[hb,e]))),fun b hb ht=>?_⟩,hR⟩
  rcases hat7 with h8 | h8
  ·exact HQ8.out b (h8.symm.trans hb) ht
  ·rw[h8,jU] at hb
   have h1:=HLT.out b ht;have:=Option.some.inj hb;omega
 case done=>
  rintro V T2 h hold hup hdef hts;obtain⟨q1,q2,q3,q4,q5,u,q6,q7,q8⟩:=h.out
  rw[List.take_length] at q7
  obtain⟨ua,uc,rfl⟩:=q7.slice
  have c0:=(Dg.cell_row q6 0).trans rfl;have HV:Hid (Below w.heap.size w V∧OK w.heap.size V (.slice ua xs.length uc) xs∧V.heap[w1.heap.size]? =some (.deferred (some []))∧T2 w1.heap.size):=⟨q1,q7,hdef,hts⟩;have HQ2:Hid _:=q2;have HQ8:Hid _:=q8;clear q1 q2 q3 q4 q5 q6 q7 q8 h hold hup hdef hts
  gi_wp2
  show LeavesInM Fence.wide 0 Tryz.prog Tryz.f53 _ R ([w1.heap.size].map Rl.mark) .returning V;refine Rl.leaves_marks (T:=T2) (by simp) (fun A=>Below w.heap.size w A∧OK w.heap.size A (.slice ua xs.length uc) xs) ?_ ?_ _ V ⟨by simp,fun D hD=>by simp at hD;subst hD;exact⟨HV.out.2.2.2,HV.out.2.2.1⟩⟩ ⟨HV.out.1,HV.out.2.1⟩
  ·rintro A D hD ⟨k1,k2⟩;have hD2:=HQ2.out D hD;exact⟨⟨k1.os,k1.tape,k1.output,by simpa [World.putObj] using k1.size,fun b hb=>(jQ (by omega)).trans (k1.block b hb)⟩,OK.keep k2 (fun b hb=>jQ (fun e=>HQ8.out b hb (by rw[e];exact hD)))⟩
  ·rintro A ⟨k1,k2⟩;refine⟨_,results_tmp (t:=4) rfl _ _ _,?_⟩
   rw[HR.out]
   exact⟨k1,_,rfl,k2⟩
 case stop=>
  rintro c k V T2 hk h hold hup hdef hts;exact h.elim
theorem keys_any (h:Ou its l P ob w):Calls Tryz.prog 28 #[.pointer (some ⟨ob,0,none⟩)] w fun e w'=>Below w.heap.size w w'∧∃bo bm,e= .returned (.func (.func 57) #[] #[.pointer (some ⟨bo,0,none⟩),.pointer (some ⟨bm,0,none⟩)])∧Boxed w' bo 70 (.pointer (some ⟨ob,0,none⟩))∧Boxed w' bm 84 (.func (.func 54) #[] #[.pointer (some ⟨bo,0,none⟩)]):=by
 refine Calls.mono (keys_maker w) ?_;rintro e w' ⟨rfl,rfl⟩;have q0:=Boxed.new w 70 (.pointer (some ⟨ob,0,none⟩));have q1:=Boxed.new (w.alloc (.cells #[.pointer (some ⟨ob,0,none⟩)] 70)) 84 (.func (.func 54) #[] #[.pointer (some ⟨w.heap.size,0,none⟩)]);rw[jU] at q1
 exact⟨(bl1 w _).alloc (by simp) _,w.heap.size,w.heap.size+1,rfl,q0.alloc _,q1⟩
theorem collect_any {bo bm:Nat}(h:Ou its l P ob w)(hbo:Boxed w bo 70 (.pointer (some ⟨ob,0,none⟩)))(hbm:Boxed w bm 84 (.func (.func 54) #[] #[.pointer (some ⟨bo,0,none⟩)])) :
  Calls Tryz.prog 27 #[.func (.func 57) #[] #[.pointer (some ⟨bo,0,none⟩),.pointer (some ⟨bm,0,none⟩)]] w fun e w'=>Below w.heap.size w w'∧∃a c,e= .returned (.slice a (mayL its l).length c)∧RK w' (.slice a (mayL its l).length c) (mayL its l):=by
 have H:Hid _:=appendSeq_any h rfl hbo hbm;rw[keysL_may h.chk] at H
 clear h hbo hbm
 go_enter Tryz.func27,Tryz.ntmps27
 go_wp2_with fail
 refine Calls.mono H.out ?_;rintro e w1 ⟨hb,u,rfl,hu⟩;obtain⟨a,c,rfl⟩:=hu.slice
 have HU:Hid _:=hu.rk;have HB:Hid _:=hb;clear hu hb H
 go_wp2_with fail
 go_ret
 exact⟨HB.out,a,c,rfl,HU.out⟩
def SeP (its:List It)(l:List Fa)(v:Value)(w:World):Prop:=if chkF its l=0 then ∃P ob,v= .pointer (some ⟨ob,0,none⟩)∧Ou its l P ob w else v= .pointer none
end Go.Proofs.YtieoppabellafaaGreatDoor.Ts
