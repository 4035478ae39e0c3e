/- Texts of the seat, packed: Ag Ar. -/
import Derived.Test.YtieoppabellafaaGreatDoorP36
import Derived.Test.YtieoppabellafaaGreatDoorP31
import Derived.Test.YtieoppabellafaaGreatDoorP14
import Derived.Test.YtieoppabellafaaGreatDoorP27
import Derived.Test.YtieoppabellafaaGreatDoorP28
import Derived.OrdersIn
set_option maxRecDepth 1000000
set_option maxHeartbeats 64000000
set_option linter.unusedVariables false
namespace Go.Proofs.YtieoppabellafaaGreatDoor.Ts
open Go.RowKit Go.Shelf Fc St Sx Sa Rl
variable {its:List It}{l:List Fa}{P:OuP}{ob:Nat}{w:World}
noncomputable def letB (its:List It)(l:List Fa)(i:Nat):Bool:=mbB its l i || muB its l i
noncomputable def letL (its:List It)(l:List Fa):List Nat:=(List.range its.length).filter (letB its l)
theorem letL_at {n i:Nat}{q:Nat→Bool}(h:i < n):((List.range n).drop i).filter q=(if q i then [i] else []) ++ ((List.range n).drop (i+1)).filter q:=by
 have hl:i < (List.range n).length:=by simpa using h
 rw[List.drop_eq_getElem_cons hl,List.getElem_range,List.filter_cons]
 split <;> rfl
attribute [local go_sem] Oper.semAt_some
structure ThS (bc bl:Nat)(n:Nat)(fv:Value)(w1:World)(J:Nat→World→(Nat→Prop)→Prop)(T:Nat→Prop)(k:Nat)(W:World):Prop where
 j:J k W T
 qc:Boxed W bc 3 (.int .i64 (n:Int))
 ql:Boxed W bl 84 fv
 tc:T bc
 tl:T bl
 bel:Below w1.heap.size w1 W
 own:∀b,T b→b < W.heap.size
theorem ThS.round {bc bl n:Nat}{fv:Value}{w1:World}{J:Nat→World→(Nat→Prop)→Prop}{T:Nat→Prop}{k k':Nat}{W W':World}(h:ThS bc bl n fv w1 J T k W)(hj:J k' W' T)(hr:Rl.Rv w1.heap.size T W W'):ThS bc bl n fv w1 J T k' W':=
 ⟨hj,(hr.keep bc h.tc h.qc.lt).trans h.qc,(hr.keep bl h.tl h.ql.lt).trans h.ql,h.tc,h.tl,h.bel.trans hr.below,fun b hb=>Nat.lt_of_lt_of_le (h.own b hb) hr.size⟩
theorem through_itr {w1:World}{bo bc bl n:Nat}(m0:Nat)(h:Ou its l P ob w1)(hn:its.length=n)(hbo:Boxed w1 bo 70 (.pointer (some ⟨ob,0,none⟩)))(T:Nat→Prop)(w:World)(hbw:Below w1.heap.size w1 w)(hbc:Boxed w bc 3 (.int .i64 (n:Int)))(hbl:Boxed w bl 84 (.func (.func 54) #[] #[.pointer (some ⟨bo,0,none⟩)]))(tc:T bc)(tl:T bl)(hown:∀b,T b→b < w.heap.size) :
  Rl.Itr Tryz.prog 86 #[.pointer (some ⟨bc,0,none⟩),.pointer (some ⟨bl,0,none⟩)] encN (letL its l) w1.heap.size m0 T w:=by
 intro li J Jx W hW hJ hJx hY hJ0;have HY:Hid _:=hY;have HJ:Hid _:=hJ;have H0:Hid (ThS bc bl n (.func (.func 54) #[] #[.pointer (some ⟨bo,0,none⟩)]) w1 J T 0 W):=⟨hJ0,(hW.block bc hbc.lt).trans hbc,(hW.block bl hbl.lt).trans hbl,tc,tl,hbw.trans (hW.mono hbw.size),fun b hb=>Nat.lt_of_lt_of_le (hown b hb) hW.size⟩;have hfew:=h.few;have HL:Hid (∀(i:Nat) wx,i < n→Below w1.heap.size w1 wx→Calls Tryz.prog 54 #[.int .i64 (i:Int),.pointer (some ⟨bo,0,none⟩)] wx fun e w'=>e= .returned (.bool (letB its l i))∧Below wx.heap.size wx w'):=fun i wx hi hb=>may54_any (by omega) (h.later hb) ((hb.block bo hbo.lt).trans hbo)
 obtain⟨xs,HX⟩:∃xs,Hid (xs=letL its l):=⟨_,rfl⟩
 have HD0:Hid (xs.drop 0=((List.range n).drop 0).filter (letB its l)∧0≤xs.length):=⟨by rw[HX.out,←hn];rfl,Nat.zero_le _⟩;rw[←HX.out] at HY ⊢
 obtain⟨R,HR⟩:∃R:Ending→World→Prop,Hid (R=fun e W2=>∃v T2,e= .returned v∧(J xs.length W2 T2∨∃k,k < xs.length∧Jx (k+1) W2 T2)∧(∀b,b < W.heap.size→(T2 b↔T b))∧(∀b,T2 b→b < W2.heap.size)):=⟨_,rfl⟩
 rw[←HR.out]
 rw[hn] at hfew
 have c0:=H0.out.qc.cell;clear h hbo hJ hJx hY hJ0 hW hbw hbc hbl tc tl hown HX hn;generalize letB its l=lf at *;refine callsIn_of_wp Tryz.func86 rfl trivial ?_ rfl;simp only[Tryz.ntmps86,List.size_toArray,List.length_cons,List.length_nil,Nat.reduceAdd,Nat.reduceSub,Array.replicate_succ,Array.replicate_zero,List.push_toArray,List.append_toArray,List.nil_append,List.cons_append]
 gi_wp2
 clear c0
 gi_loopw [6] (fun iv wr=>∃(i k:Nat),iv= .int .i64 i∧i≤n∧Hid (ThS bc bl n (.func (.func 54) #[] #[.pointer (some ⟨bo,0,none⟩)]) w1 J T k wr)∧Hid (xs.drop k=((List.range n).drop i).filter lf∧k≤xs.length)) (fun iv _=>n - (intOf iv).toNat)
 case atStart=>exact⟨0,0,rfl,Nat.zero_le _,H0,HD0⟩
 case round=>
  obtain⟨i,k,rfl,hi,HF,HD⟩:=hrel
  rename World=>wr
  clear H0 HD0
  by_cases hlt:i < n
  ·have y0:=HF.out.ql.cell;have hcf:∀wx,(callFunc 54 #[.int .i64 (i:Int),.pointer (some ⟨bo,0,none⟩)]).run Tryz.prog wx= .ok (.enter 54 #[.int .i64 (i:Int),.pointer (some ⟨bo,0,none⟩)]) wx:=fun wx=>enters_of Tryz.func54 (by kernel_rfl) rfl _ _
   have HC:Hid _:=HL.out i wr hlt HF.out.bel;have hdr:=HD.out.1;rw[letL_at hlt] at hdr
   have HDR:Hid _:=hdr;have hKL:k≤xs.length:=HD.out.2;have hii:(i:Int) < (n:Int):=by omega
   clear hdr HD;generalize lf i=q at *
   gi_wp2
   refine⟨trivial,rfl,(callsIn_wide.2 HC.out).mono ?_⟩
   rintro e w3 ⟨rfl,hb3⟩;have HF3:Hid (ThS bc bl n (.func (.func 54) #[] #[.pointer (some ⟨bo,0,none⟩)]) w1 J T k w3):=HF.out.round (HJ.out _ _ _ _ _ HF.out.j (Rl.Mv.of_below hb3)) (Rl.Rv.of_below hb3 HF.out.bel.size);clear y0 HC hb3 HF hcf;cases q with
   | true=>
    obtain⟨h1,h2,h3⟩:=drop_cons (show xs.drop k=i :: ((List.range n).drop (i+1)).filter lf from HDR.out)
    have HD5:Hid (xs.drop (k+1)=((List.range n).drop (i+1)).filter lf∧k+1≤xs.length):=⟨h2,h3⟩;have HK2:Hid (k < xs.length):=h3;obtain⟨fnn,tms,asg,bdy,hy,hR⟩:=HY.out k i #[.int .i64 (i:Int)] w3.heap.size w3 T h1 rfl ⟨w3,T,HF3.out.j,rfl,Rl.Mv.refl _ _⟩ HF3.out.j HF3.out.own 0
    clear h1 h2 h3 HDR hKL
    gi_wp2
    refine⟨rfl,hR.mono ?_⟩
    rintro e W5 ⟨t,rfl,ht1,ht2⟩;cases t with
    | true=>
     obtain⟨hj5,hrv⟩:=ht1 rfl
     have HF5:Hid _:=HF3.out.round hj5 hrv;clear ht1 ht2 hrv hj5 hy hR HF3
     gi_wp2
     go_roundw
     case rel=>exact⟨i+1,k+1,by go_num,by omega,HF5,HD5⟩
     case measure=>simp[intOf] <;> omega
    | false=>
     obtain⟨hj5,hrv⟩:=ht2 rfl
     have HJ5:Hid _:=hj5;have HF5:Hid (∀b,T b→b < W5.heap.size):=fun b hb=>Nat.lt_of_lt_of_le (HF3.out.own b hb) hrv.size
     clear ht1 ht2 hrv hj5 hy hR HF3
     gi_wp2
     refine bodyPost_ret (results_none rfl _ _) rfl ?_;rw[HR.out]
     exact⟨_,T,rfl,.inr ⟨k,HK2.out,HJ5.out⟩,fun _ _=>Iff.rfl,HF5.out⟩
   | false=>
    have HD5:Hid (xs.drop k=((List.range n).drop (i+1)).filter lf∧k≤xs.length):=⟨HDR.out,hKL⟩;clear HDR hKL
    gi_wp2
    refine⟨fun f h=>(by cases h),?_⟩
    gi_wp2
    go_roundw
    case rel=>exact⟨i+1,k,by go_num,by omega,HF3,HD5⟩
    case measure=>simp[intOf] <;> omega
  ·have HKX:Hid (k=xs.length):=by
    refine drop_all ?_ HD.out.2;rw[HD.out.1,List.drop_eq_nil_of_le (by simp;omega)]
    rfl
   gi_wp2
   refine bodyPost_ret (results_none rfl _ _) rfl ?_;rw[HR.out]
   refine⟨_,T,rfl,.inl ?_,fun _ _=>Iff.rfl,HF.out.own⟩
   have:=HF.out.j;rw[HKX.out] at this
   exact this
theorem through_maker (n:Int)(g:Fn)(c:Array Value)(w:World):Calls Tryz.prog 58 #[.int .i64 n,.func g #[] c] w fun e w'=>e= .returned (.func (.func 86) #[] #[.pointer (some ⟨w.heap.size,0,none⟩),.pointer (some ⟨w.heap.size+1,0,none⟩)])∧w'=(w.alloc (.cells #[.int .i64 n] 3)).alloc (.cells #[.func g #[] c] 84):=by
 go_enter Tryz.func58,Tryz.ntmps58
 go_wp2_with fail
 go_ret
 exact⟨rfl,rfl⟩
theorem keys_maker (w:World):Calls Tryz.prog 28 #[.pointer (some ⟨ob,0,none⟩)] w fun e w'=>e= .returned (.func (.func 57) #[] #[.pointer (some ⟨w.heap.size,0,none⟩),.pointer (some ⟨w.heap.size+1,0,none⟩)])∧w'=(w.alloc (.cells #[.pointer (some ⟨ob,0,none⟩)] 70)).alloc (.cells #[.func (.func 54) #[] #[.pointer (some ⟨w.heap.size,0,none⟩)]] 84):=by
 go_enter Tryz.func28,Tryz.ntmps28
 go_wp2_with fail
 go_ret
 exact⟨rfl,rfl⟩
theorem results_key {fn:Func}{p:Tmp}(h:fn.results= #[.cell p 47])(tmps:Array Value)(w:World)(g:Nat)(cs:Array Value)(fr:Nat × Nat)
  (hp:tmps.getD p undef= .pointer (some ⟨g,0,none⟩)) (hg:w.heap[g]? =some (.cells cs 47 fr)) (hs:cs.size=3):(results fn tmps).run Tryz.prog w= .ok (.agg cs) w:=
 results_cell_row (p:=p) (ty:=47) h _ _ g 47 cs fr _ hp hg Tryz.underlying47 rfl (by rw[hs];kernel_rfl)
def keyOfF (i:Nat)(f:Fa):Nat × Bool × Int:=if f.run=0 then (i,false,0) else (i,true,f.slips)
theorem keyOf_any (i:Nat)(f:Fa)(w:World):Calls Tryz.prog 59 #[.int .i64 (i:Int),FaV f] w fun e w'=>e= .returned (.agg (keyC (keyOfF i f)).toArray)∧Below w.heap.size w w':=by
 unfold FaV;obtain⟨v,HV⟩:∃v,Hid (v=keyC (keyOfF i f)):=⟨_,rfl⟩
 rw[←HV.out]
 have hv0:v=[.int .i64 (i:Int),.bool (!decide (f.run=0)),.int .i64 (if f.run=0 then 0 else f.slips)]:=by
  rw[HV.out]
  unfold keyOfF keyC
  by_cases h:f.run=0 <;> simp[h]
 have HV0:Hid _:=hv0;clear HV hv0;have b1:=bl1 w (.cells #[.int .i64 f.run,.int .i64 f.tries,.int .i64 f.slips,.bool f.un] 55);have b2:=bl1 (w.alloc (.cells #[.int .i64 f.run,.int .i64 f.tries,.int .i64 f.slips,.bool f.un] 55)) (.cells #[.int .i64 0,.bool false,.int .i64 0] 47);have HBB:Hid _:=b1.trans (b2.mono b1.size);have r1:=Dg.row_alloc (Dg.row_new w #[.int .i64 f.run,.int .i64 f.tries,.int .i64 f.slips,.bool f.un] 55) (.cells #[.int .i64 0,.bool false,.int .i64 0] 47);have r2:=Dg.row_new (w.alloc (.cells #[.int .i64 f.run,.int .i64 f.tries,.int .i64 f.slips,.bool f.un] 55)) #[.int .i64 0,.bool false,.int .i64 0] 47;rw[World.size_alloc] at r2
 have c0:=(Dg.cell_row r1 0).trans rfl;have c2:=(Dg.cell_row r1 2).trans rfl;have HR2:Hid _:=r2;have d0:=(Dg.cell_row r2 0).trans rfl;have d1:=(Dg.cell_row r2 1).trans rfl;have d2:=(Dg.cell_row r2 2).trans rfl;have g0:=Dg.froz_row r2 0;have g1:=Dg.froz_row r2 1;have g2:=Dg.froz_row r2 2;clear b1 b2 r1 r2;generalize f.run=r at *;generalize f.tries=tr at *;generalize f.slips=sl at *;generalize f.un=un at *
 by_cases hr:r=0
 ·subst hr
  go_enter Tryz.func59,Tryz.ntmps59
  go_wp2_with fail
  have r3:=Dg.row_new (w.alloc (.cells #[.int .i64 0,.int .i64 tr,.int .i64 sl,.bool un] 55)) #[.int .i64 (i:Int),.bool false,.int .i64 0] 47;rw[World.size_alloc] at r3
  refine⟨rfl,_,results_key (p:=4) rfl _ _ (w.heap.size+1) _ (0,0) rfl r3 rfl,?_,(bl1 w _).alloc (by simp) _⟩
  rw[HV0.out]
  simp
 ·have hr1:decide (r=0)=false:=decide_eq_false hr;have hr2:(r==0)=false:=by simpa using hr
  go_enter Tryz.func59,Tryz.ntmps59
  go_wp2_with fail
  have r3:=Dg.row_new (w.alloc (.cells #[.int .i64 r,.int .i64 tr,.int .i64 sl,.bool un] 55)) #[.int .i64 (i:Int),.bool true,.int .i64 sl] 47;rw[World.size_alloc] at r3
  refine⟨rfl,_,results_key (p:=4) rfl _ _ (w.heap.size+1) _ (0,0) rfl r3 rfl,?_,(bl1 w _).alloc (by simp) _⟩
  rw[HV0.out]
  simp[hr]
end Go.Proofs.YtieoppabellafaaGreatDoor.Ts
namespace Go.Proofs.YtieoppabellafaaGreatDoor.Ts
open Go.RowKit Fc Sa
variable {P:Program}{ops:Array Oper}{Q:Exit→Act→World→Prop}{md:Region.Mode}{S:World→Prop}{l n:Nat}
def anyR (l n:Nat)(P:Program)(md:Region.Mode)(ops:Array Oper)(Q:Exit→Act→World→Prop)(S:World→Prop):Nat→Array Bool→Act→World→Prop
 | 0,ls,a,w=>Region.ready md ops ls=[]∧Q .normal a w
 | k+1,ls,a,w=>(Region.ready md ops ls=[]→Q .normal a w)∧∀i∈Region.ready md ops ls,wpOpIn (Fence.wide.inRound l) n P ops Q i (fun a' w'=>S w'∧anyR l n P md ops Q S k (ls.setIfInBounds i true) a' w') a w
theorem anyR_in:∀(k:Nat) (ls:Array Bool) (a:Act) (w:World),anyR l n P md ops Q S k ls a w→wpAnyIn (Fence.wide.inRound l) n P md ops Q k ls a w
 | 0,_,_,_,h=>h
 | k+1,_,_,_,h=>⟨h.1,fun i hi=>wpOpIn_mono (fun a' w' h'=>anyR_in k _ a' w' h'.2) (h.2 i hi)⟩
theorem opR_val {i:Nat}{o:Oper}{v:Value}{a:Act}{w:World}{K:Act→World→Prop}(hnd:∀c,o.op≠.defer c)(hi:ops[i]? =some o)(hy:YieldsIf P ops S o v a)(hS:S w)(h:K (a.put o.dst v) w):wpOpIn (Fence.wide.inRound l) n P ops Q i K a w:=by
 unfold Go.wpOpIn;simp only[hi]
 rcases hy with ⟨hw,hv⟩ | ⟨hw,rfl⟩
 ·rw[if_pos hw]
  refine⟨fun f _=>trivial,?_⟩
  rw[Oper.semAt_eq _ _ _ hnd,hv w hS]
  exact h
 ·rw[if_neg (by rw[hw];decide)]
  exact⟨fun f _=>trivial,h⟩
theorem opR_put {i j:Nat}{oi oj:Oper}{v:Value}(hnd:∀c,oj.op≠.defer c)(hj:ops[j]? =some oj)(hap:oi.apart ops oj=true)(hsi:∀cs b,oi.op≠.select cs b)(hsj:∀cs b,oj.op≠.select cs b)
  (hQ:∀c a w,Q (.panic c) (a.put oi.dst v) w→Q (.panic c) a w) {K:Act→World→Prop} {a:Act} {w:World} (hy:YieldsIf P ops S oi v a) (h:wpOpIn (Fence.wide.inRound l) n P ops Q j K (a.put oi.dst v) w) :
  wpOpIn (Fence.wide.inRound l) n P ops Q j (fun a' w'=>YieldsIf P ops S oi v a'∧K (a'.put oi.dst v) w') a w:=by
 obtain⟨p1,p2,p3⟩:=Oper.apart_spec hap
 have kp:∀u,YieldsIf P ops S oi v (a.put oj.dst u):=fun u=>hy.of_same (execOp_put oi hsi a oj.dst u p3) (wanted_put oi a oj.dst u p3)
 have sw:∀{u:Value} {w'':World},K ((a.put oi.dst v).put oj.dst u) w''→K ((a.put oj.dst u).put oi.dst v) w'':=fun {u} {w''} hk=>by rw[←Act.put_comm a v u p2];exact hk
 unfold Go.wpOpIn at *;simp only[hj] at *;rw[wanted_put oj a oi.dst v p1] at h
 by_cases hw:Region.wanted oj (yielded ops a.tmps)=true
 rotate_left
 ·rw[if_neg hw] at h ⊢
  exact⟨fun f _=>trivial,kp _,sw h.2⟩
 rw[if_pos hw] at h ⊢
 refine⟨fun f _=>trivial,?_⟩
 have h:=h.2;rw[Oper.semAt_eq _ _ _ hnd,execOp_put oj hsj a oi.dst v p1] at h
 rw[Oper.semAt_eq _ _ _ hnd]
 cases hr:(execOp a.eval oj).run P w with
 | halt x w'=>
  rw[hr] at h
  cases x <;> simp only[Oper.uponIn] at h ⊢
  case panic u=>exact hQ _ _ _ h
 | ok x w'=>
  rw[hr] at h
  cases x <;> simp only[Oper.uponIn] at h ⊢
  case value u=>exact⟨kp u,sw h⟩
  case skip=>exact⟨kp _,sw h⟩
  case defer d=>
   refine⟨(show YieldsIf P ops S oi v {a with defers:=d :: a.defers} from hy.of_same rfl rfl).of_same (execOp_put oi hsi _ oj.dst _ p3) (wanted_put oi _ oj.dst _ p3),?_⟩
   rw[←Act.put_comm _ v undef p2,←Act.put_defers]
   exact h
  case enter f args=>
   refine⟨h.1,CallsIn.mono h.2 fun e w'' he=>?_⟩
   cases e with
   | returned u=>exact⟨kp u,sw he⟩
   | panicked c=>exact hQ _ _ _ he
   | outgrown=>exact he
  case row r args=>exact⟨h.1,RowsIn.mono h.2 fun u w'' he=>⟨kp u,sw he⟩⟩
  case round l' f t cas bd=>
   refine⟨h.1,RoundIn.mono h.2 fun e w'' he=>?_⟩
   cases e with
   | returned u=>exact⟨kp u,sw he⟩
   | panicked c=>exact hQ _ _ _ he
   | outgrown=>exact he
theorem anyR_first {i:Nat}{oi:Oper}{v:Value}(hnd:∀(i:Nat) (o:Oper),ops[i]? =some o→∀c,o.op≠.defer c)(hi:ops[i]? =some oi)(hsel:∀(j:Nat) (o:Oper) cs b,ops[j]? =some o→o.op≠.select cs b)(hQ:∀c a w,Q (.panic c) (a.put oi.dst v) w→Q (.panic c) a w) :
  ∀(k:Nat) (ls:Array Bool) (a:Act) (w:World),(∀j oj,ops[j]? =some oj→j≠i→ls.getD j true=false→(∀e∈oj.after,Region.binds md e=true→e.on≠i)→oi.apart ops oj=true)→
   i∈Region.ready md ops ls→YieldsIf P ops S oi v a→S w→anyR l n P md ops Q S k (ls.setIfInBounds i true) (a.put oi.dst v) w→anyR l n P md ops Q S (k+1) ls a w:=by
 intro k
 induction k with
 | zero=>
  intro ls a w _ hr hy hS H;refine⟨(fun h=>by rw[h] at hr;cases hr),fun j hj=>?_⟩
  by_cases e:j=i
  ·subst e;exact opR_val (hnd _ _ hi) hi hy hS ⟨hS,H⟩
  ·have h9:=ready_mono hj e;rw[H.1] at h9
   cases h9
 | succ k ih=>
  intro ls a w hfree hr hy hS H;refine⟨(fun h=>by rw[h] at hr;cases hr),fun j hj=>?_⟩
  by_cases e:j=i
  ·subst e;exact opR_val (hnd _ _ hi) hi hy hS ⟨hS,H⟩
  obtain⟨hun,oj,hoj,hall⟩:=mem_ready.1 hj
  have hno:∀e∈oj.after,Region.binds md e=true→e.on≠i:=fun e he hb h9=>by
   have q1:=hall e he hb;have q0:=(mem_ready.1 hr).1;rw[h9] at q1
   rcases Nat.lt_or_ge i ls.size with h' | h'
   ·simp[h'] at q0 q1
    rw[q0] at q1
    cases q1
   ·simp[Array.getElem?_eq_none h'] at q1
  refine wpOpIn_mono (fun a' w' h3=>⟨h3.2.1,ih (ls.setIfInBounds j true) a' w' (fun q oq hoq hqi hqu hqn=>?_) (ready_mono hr (Ne.symm e)) h3.1 h3.2.1 ?_⟩) (opR_put (i:=i) (hnd j oj hoj) hoj (hfree j oj hoj e hun hno) (fun cs b=>hsel i oi cs b hi) (fun cs b=>hsel j oj cs b hoj) hQ hy (H.2 j (ready_mono hj e)))
  ·refine hfree q oq hoq hqi ?_ hqn
   by_cases hjq:j=q
   ·subst hjq;exact hun
   ·rw[getD_set_ne true hjq] at hqu
    exact hqu
  ·rw[Array.setIfInBounds_comm _ _ e]
   exact h3.2.2
theorem takeR {i:Nat}{oi:Oper}{d:Tmp}{v:Value}{fuel:Nat}{listed:Array Bool}{a:Act}{w:World}(hnd:ops.all noDefer=true)(hi:ops[i]? =some oi)(hd:oi.dst=some d)
  (hs:Region.noSelect ops=true) (hf:Region.free md ops listed i=true) (hr:(Region.ready md ops listed).contains i=true)
  (hQ:∀c a w,Q (.panic c) {tmps:=a.tmps.setIfInBounds d v,defers:=a.defers} w→Q (.panic c) a w) (hy:YieldsIf P ops S oi v a) (hS:S w)
  (h:anyR l n P md ops Q S fuel (listed.setIfInBounds i true) {tmps:=a.tmps.setIfInBounds d v,defers:=a.defers} w):anyR l n P md ops Q S (fuel+1) listed a w:=by
 have hp:∀a:Act,a.put oi.dst v= {tmps:=a.tmps.setIfInBounds d v,defers:=a.defers} :=fun a=>by rw[hd];rfl
 refine anyR_first (noDefer_all hnd) hi (Region.noSelect_spec hs) (fun c a w h=>hQ c a w (by rw[hp] at h;exact h)) fuel listed a w (Region.free_spec hi hf) (by simpa using hr) hy hS ?_;rw[hp]
 exact h
theorem callR {i:Nat}{o:Oper}{d:Tmp}{f:FuncId}{args:Array Value}{v:Value}{fuel:Nat}{listed:Array Bool}{a:Act}{w:World}{R:World→Prop}(hi:ops[i]? =some o)(hnd:∀c,o.op≠.defer c)(hd:o.dst=some d)(hr:Region.ready md ops listed=[i])(hw:Region.wanted o (yielded ops a.tmps)=true)(hrun:∀wx,(execOp a.eval o).run P wx= .ok (.enter f args) wx)
  (hc:Calls P f args w fun e w'=>e= .returned v∧R w') (hRS:∀w',R w'→S w')
  (h:∀w',R w'→anyR l n P md ops Q S fuel (listed.setIfInBounds i true) {tmps:=a.tmps.setIfInBounds d v,defers:=a.defers} w'):anyR l n P md ops Q S (fuel+1) listed a w:=by
 have hp:a.put o.dst v= {tmps:=a.tmps.setIfInBounds d v,defers:=a.defers} :=by rw[hd];rfl
 refine⟨(fun h0=>by rw[hr] at h0;cases h0),fun j hj=>?_⟩
 rw[hr] at hj
 obtain rfl:=List.mem_singleton.1 hj;unfold Go.wpOpIn;simp only[hi];rw[if_pos hw]
 refine⟨fun f _=>trivial,?_⟩
 rw[Oper.semAt_eq _ _ _ hnd,hrun w]
 refine⟨(fun hd=>by cases hd),(CallsIn.inRound l (callsIn_wide.2 hc)).mono ?_⟩
 rintro e w' ⟨rfl,hR⟩;refine⟨hRS w' hR,?_⟩
 rw[hp]
 exact h w' hR
theorem yieldR {i:Nat}{o:Oper}{d:Tmp}{fuel:Nat}{listed:Array Bool}{a:Act}{w:World}{R:Bool→World→Prop}{l':Nat}{f':FuncId}{t':Array Value}{cas bd:Code}(hi:ops[i]? =some o)(hnd:∀c,o.op≠.defer c)(hd:o.dst=some d)(hr:Region.ready md ops listed=[i])(hw:Region.wanted o (yielded ops a.tmps)=true)(hrun:(execOp a.eval o).run P w= .ok (.round l' f' t' cas bd) w)
  (hc:RoundIn Fence.wide (n - 1) P l' f' t' cas bd w fun e w'=>∃t:Bool,e= .returned (.bool t)∧R t w') (hRS:∀t w',R t w'→S w')
  (h:∀t w',R t w'→anyR l n P md ops Q S fuel (listed.setIfInBounds i true) {tmps:=a.tmps.setIfInBounds d (.bool t),defers:=a.defers} w'):anyR l n P md ops Q S (fuel+1) listed a w:=by
 have hp:∀v,a.put o.dst v= {tmps:=a.tmps.setIfInBounds d v,defers:=a.defers} :=fun v=>by rw[hd];rfl
 refine⟨(fun h0=>by rw[hr] at h0;cases h0),fun j hj=>?_⟩
 rw[hr] at hj
 obtain rfl:=List.mem_singleton.1 hj;unfold Go.wpOpIn;simp only[hi];rw[if_pos hw]
 refine⟨fun f _=>trivial,?_⟩
 rw[Oper.semAt_eq _ _ _ hnd,hrun]
 refine⟨(fun hd=>by cases hd),RoundIn.mono (F:=Fence.wide.inRound l) hc ?_⟩
 rintro e w' ⟨t,rfl,hR⟩;refine⟨hRS t w' hR,?_⟩
 rw[hp]
 exact h t w' hR
theorem doneR {listed:Array Bool}{a:Act}{w:World}(hr:Region.ready md ops listed=[])(h:Q .normal a w):∀fuel,anyR l n P md ops Q S fuel listed a w
 | 0=>⟨hr,h⟩
 | _+1=>⟨fun _=>h,by rw[hr];simp⟩
theorem regionR {id:Nat}{a:Act}{w:World}{β:Type}(L:β→List (Nat × Value))(F:β→World→Prop)(hm:P.follows .mixedOrders=true)
  (h:anyR l n P .any ops (fun e a' w'=>e= .normal∧∃z,a'= {tmps:=setAll a.tmps (L z),defers:=a.defers}∧F z w') S ops.size (Array.replicate ops.size false) a w.drew)
  (h2:∀z w',F z w'→Q .normal {tmps:=setAll a.tmps (L z),defers:=a.defers} w'):(Code.region id ops true).wpIn (Fence.wide.inRound l) n P Q a w:=by
 refine wpIn_mono (wpIn_region_any hm (anyR_in _ _ _ _ h)) ?_;rintro e a' w' ⟨rfl,z,rfl,hF⟩;exact h2 z w' hF
end Go.Proofs.YtieoppabellafaaGreatDoor.Ts
