/- Texts of the seat, packed: Au. -/
import Derived.Test.YtieoppabellafaaGreatDoorH01
import Derived.Test.YtieoppabellafaaGreatDoorH11
import Derived.Test.YtieoppabellafaaGreatDoorH14
import Derived.Test.YtieoppabellafaaGreatDoorH21
import Derived.Test.YtieoppabellafaaGreatDoorH27
set_option maxRecDepth 1000000
set_option maxHeartbeats 64000000
set_option linter.unusedVariables false
namespace Go.Proofs.YtieoppabellafaaGreatDoor.Ts
open Go.RowKit Go.Shelf Fc St Sx Sa
theorem neq_key (k k':Nat × Bool × Int)(w:World):(Go.binOp .neq 47 (KeV k) (KeV k')).run Tryz.prog w= .ok (.bool (!decide (k=k'))) w:=by
 obtain⟨i,u,t⟩:=k
 obtain⟨i',u',t'⟩:=k'
 rw[←eq_ifK (x:=fun b=>Result.ok (Value.bool (!b)) w)]
 unfold KeV
 go_simp
theorem neq_execK (k k':Nat × Bool × Int){o:Oper}{x y:Operand}{a:Act}{w:World}{q:Bool}{ty:TypeId}(ho:o.op= .binOp .neq 47 x y ty)(hx:a.eval x=KeV k)(hy:a.eval y=KeV k')(hq:(!decide (k=k'))=q):(execOp a.eval o).run Tryz.prog w= .ok (.value (.bool q)) w:=by
 unfold execOp;subst hq;have hg:(eqGuard BinOp.neq 47 x y (KeV k) (KeV k')).run Tryz.prog w= .ok () w:=by
  have hk:Tryz.prog.eqGuardType Tryz.prog.depth 47=false:=by kernel_rfl
  unfold eqGuard KeV;simp[hk]
 simp only[ho,hx,hy,Sem.run_bind,neq_key,hg,Result.andThen_ok];rfl
structure TaS (its:List It)(w:World)(s:Nat)(pv:Value)(m:List Fa)(fv yv ov:Value)(kb:Nat)(ki:Nat)(ku:Bool)(kt:Int)(W:World):Prop where
 wk:WkS its w s pv m fv W
 may:RK W yv (mayL its m)
 opn:RK W ov (openL its m)
 key:W.heap[kb]? =some (.cells #[.int .i64 (ki:Int),.bool ku,.int .i64 kt] 47 (0,0))
theorem TaS.later {its:List It}{w:World}{s:Nat}{pv:Value}{m:List Fa}{fv yv ov:Value}{kb ki:Nat}{ku:Bool}{kt:Int}{W W':World}(h:TaS its w s pv m fv yv ov kb ki ku kt W)(hb:Below W.heap.size W W'):TaS its w s pv m fv yv ov kb ki ku kt W':=
 ⟨h.wk.later hb,RK.later h.may hb,RK.later h.opn hb,(hb.block _ (jD.1 h.key).1).trans h.key⟩
theorem RK.at {w:World}{b o n c:Nat}{K:List (Nat × Bool × Int)}(h:RK w (.slice (some ⟨b,o,none⟩) n c) K){i:Nat}{x:Nat × Bool × Int}(hx:K[i]? =some x):w.cell? ⟨b,o+i * 3,none⟩=some (.int .i64 (x.1:Int))∧w.cell? ⟨b,o+i * 3+1,none⟩=some (.bool x.2.1)∧w.cell? ⟨b,o+i * 3+2,none⟩=some (.int .i64 x.2.2):=by
 obtain⟨a,cap,e,_,_,hr⟩:=h
 injection e with e1
 obtain⟨b',o',ha,q0,q1,q2⟩:=hr i _ hx
 have h7:=e1.trans ha
 injection h7 with h8
 injection h8 with h9 h10
 subst h9;subst h10;exact⟨q0,q1,q2⟩
theorem RK.some {w:World}{a:Option Addr}{n c:Nat}{K:List (Nat × Bool × Int)}(h:RK w (.slice a n c) K){i:Nat}{x:Nat × Bool × Int}(hx:K[i]? =some x):∃b o,a=some ⟨b,o,none⟩:=by
 obtain⟨a',cap,e,_,_,hr⟩:=h
 have e1:=(Value.slice.inj e).1;obtain⟨b,o,ha,_⟩:=hr i _ hx
 exact⟨b,o,e1.trans ha⟩
theorem apart_walk (x:By)(t:Tr)(a:Option Addr)(ac:Nat)(lv:Value)(L:List (Int × Bool))(nn:Int)(w:World)(hT:Dg.Tab w)(hk:Kd true t)(hM:∀wx,Below w.heap.size w wx→Calls Tryz.prog 6 #[.agg #[.string ⟨x.toArray⟩,.slice a t.len ac]] wx fun e w'=>MakeC x t wx e w')(hFI:∀its,planT x t=some its→FairI its)(hL:PkR w lv L)(hlm:L.length≤maxLen) :
  Calls Tryz.prog 5 #[.agg #[.string ⟨x.toArray⟩,.slice a t.len ac],lv,.int .i64 nn] w fun e w'=>e= .returned (.bool true)∧Below w.heap.size w w':=by
 obtain⟨R,HR⟩:∃R:Ending→World→Prop,Hid (R=fun e w'=>e= .returned (.bool true)∧Below w.heap.size w w'):=⟨_,rfl⟩
 have hb1:=bl1 w (.cells #[.string ⟨x.toArray⟩,.slice a t.len ac] 24);have HB1:Hid _:=hb1;have HMK:Hid _:=hM _ hb1;have HTB:Hid (∀wx,Below w.heap.size w wx→Dg.Tab wx):=fun wx hb=>hT.later hb
 have HPK:Hid (∀wx,Below w.heap.size w wx→PkR wx lv L):=fun wx hb=>hL.later hb
 have HFX:Hid _:=hFI;have HKD:Hid _:=hk;have c0:=(Dg.cell_row (Dg.row_new w #[.string ⟨x.toArray⟩,.slice a t.len ac] 24) 0).trans rfl;have c1:=(Dg.cell_row (Dg.row_new w #[.string ⟨x.toArray⟩,.slice a t.len ac] 24) 1).trans rfl;obtain⟨la,lc,rfl,hlc,_⟩:=hL
 obtain⟨nL,HNL⟩:∃nL,Hid (L.length=nL):=⟨_,rfl⟩
 obtain⟨tl,HTL⟩:∃tl,Hid (t.len=tl):=⟨_,rfl⟩
 unfold maxLen at hlm;rw[HNL.out] at hlc HPK hlm ⊢
 rw[HTL.out] at HMK HB1 c0 c1 ⊢
 clear hT hk hM hFI hb1
 go_enter Tryz.func5,Tryz.ntmps5
 go_wp2_with fail
 refine Calls.mono HMK.out ?_;rintro e w2 ⟨hb2,he⟩;have HB2:Hid (Below w.heap.size w w2):=HB1.out.trans (hb2.mono HB1.out.size);clear HMK hb2 c0 c1 HB1;cases hP:planT x t with
 | none=>
  rw[hP] at he
  obtain rfl:e= .returned (.tuple #[.agg #[.slice none 0 0],.int .i64 11]):=he;have HB3:Hid (Below w.heap.size w (w2.alloc (.cells #[.slice none 0 0] 28))):=HB2.out.alloc HB2.out.size _;clear hP
  go_wp2_with fail
  refine Calls.mono (lives_any _ (HTB.out _ HB3.out)) ?_;rintro e w4 ⟨rfl,hb4⟩;have HB4:Hid _:=HB3.out.trans (hb4.mono HB3.out.size);clear hb4
  go_wp2_with fail
  first
   | (go_ret;exact⟨rfl,HB4.out⟩)
   | exact⟨rfl,HB4.out⟩
 | some its=>
  rw[hP] at he
  obtain⟨v,rfl,hst⟩:=he
  have hsg:=saga_of_plan hP HKD.out;have HSG:Hid ((sagaP its).isSome=true):=by show _=_;rw[hsg];rfl
  have HFI:Hid _:=HFX.out its hP;have hrd:=hst.rd;have HIT:Hid (∀wx,Below w2.heap.size w2 wx→RdIt wx v its):=fun wx hb=>hrd.later hb
  have h64:=root_len HSG.out;obtain⟨ia,ic,rfl,_⟩:=id hrd
  obtain⟨n,HN⟩:∃n,Hid (its.length=n):=⟨_,rfl⟩
  rw[HN.out] at HIT h64 ⊢
  clear hst hrd hsg hP HFX HKD;have HB3:Hid (Below w.heap.size w (w2.alloc (.cells #[.slice ia n ic] 28))):=HB2.out.alloc HB2.out.size _;have HB23:Hid (Below w2.heap.size w2 (w2.alloc (.cells #[.slice ia n ic] 28))):=bl1 _ _;have HR3:Hid _:=Dg.row_new w2 #[.slice ia n ic] 28;have d0:=(Dg.cell_row HR3.out 0).trans rfl
  by_cases hl4:(300:Int) < (nL:Int)
  ·go_wp2_with fail
   refine Calls.mono (lives_any _ (HTB.out _ HB3.out)) ?_;rintro e w4 ⟨rfl,hb4⟩;have HB4:Hid _:=HB3.out.trans (hb4.mono HB3.out.size);clear hb4
   go_wp2_with fail
   first
    | (go_ret;exact⟨rfl,HB4.out⟩)
    | exact⟨rfl,HB4.out⟩
  ·have HWK:Hid _:=walked_any its (.slice ia n ic) (.slice la nL lc) L _ HSG.out HFI.out (HTB.out _ HB3.out) (HIT.out _ HB23.out) (HPK.out _ HB3.out) (by rw[HNL.out];omega)
   go_wp2_with fail
   refine Calls.mono HWK.out ?_;rintro e w4 ⟨hb4,u,m,rfl,hg,hrf⟩;generalize w2.alloc (.cells #[.slice ia n ic] 28)=w3 at *;obtain⟨s,hs⟩:∃s,w2.heap.size=s:=⟨_,rfl⟩
   have HML:Hid (m.length=n):=hg.len.trans HN.out;have H4:Hid (WkS its w2 s (.slice ia n ic) m u w4):=by
    refine⟨HB23.out.trans (hb4.mono HB23.out.size),?_,hg,hrf⟩
    rw[←hs]
    exact (hb4.block _ (jD.1 HR3.out).1).trans HR3.out
   obtain⟨fa,fc,rfl,hfc,_⟩:=hrf
   have HBU:Hid (∀W,Below w2.heap.size w2 W→Below w.heap.size w W):=fun W hb=>HB2.out.trans (hb.mono HB2.out.size)
   have HPF:Hid (∀(u:Value) (W:World),WkS its w2 s (.slice ia n ic) m u W→PF its m (.slice ia n ic) u W):=fun u W h=>⟨HIT.out W h.bel,HFI.out,HTB.out W (HBU.out W h.bel),h.rf,by rw[HN.out];omega,by have:=HML.out;omega⟩
   rw[HML.out] at hfc H4 ⊢
   have z0:=(Dg.cell_row H4.out.box 0).trans rfl;clear HWK hb4 d0 HR3 HB3 HB23
   go_wp2_with fail
   clear hs;obtain⟨m1,HM1⟩:∃m1,Hid ((mayL its m).length=m1):=⟨_,rfl⟩
   obtain⟨m2,HM2⟩:∃m2,Hid ((openL its m).length=m2):=⟨_,rfl⟩
   have hm1:m1≤64:=by rw[←HM1.out];exact may_few
   have hm2:m2≤128:=by rw[←HM2.out];exact open_few
   have hS0:WkS its w2 s (.slice ia n ic) m (.slice fa n fc) w4.drew:=H4.out.later (Below.refl _ _).drew;have HMY:Hid (∀wx,WkS its w2 s (.slice ia n ic) m (.slice fa n fc) wx→Calls Tryz.prog 9 #[.agg #[.slice ia n ic],.slice fa n fc] wx fun e w'=>∃y:Option Addr × Nat,e= .returned (.slice y.1 m1 y.2)∧WkS its w2 s (.slice ia n ic) m (.slice fa n fc) w'∧RK w' (.slice y.1 m1 y.2) (mayL its m)):=fun wx h=>Calls.mono (May_any (HPF.out _ wx h)) (by
    rintro e w' ⟨hb,a,c,rfl,hr⟩;rw[HM1.out] at hr ⊢
    exact⟨(a,c),rfl,h.later hb,hr⟩)
   have HOP:Hid (∀(wx:World) (y:Option Addr × Nat),(WkS its w2 s (.slice ia n ic) m (.slice fa n fc) wx∧RK wx (.slice y.1 m1 y.2) (mayL its m))→Calls Tryz.prog 10 #[.agg #[.slice ia n ic],.slice fa n fc] wx fun e w'=>∃x:Option Addr × Nat,e= .returned (.slice x.1 m2 x.2)∧WkS its w2 s (.slice ia n ic) m (.slice fa n fc) w'∧RK w' (.slice y.1 m1 y.2) (mayL its m)∧RK w' (.slice x.1 m2 x.2) (openL its m)):=fun wx y h=>Calls.mono (open_any its _ _ m wx (HPF.out _ wx h.1).it (HPF.out _ wx h.1).fair (HPF.out _ wx h.1).tab (HPF.out _ wx h.1).fa (by rw[HN.out];omega) (by rw[HML.out];omega)) (by
    rintro e w' ⟨hb,u,rfl,hu⟩;obtain⟨a,c,rfl⟩:=hu.slice
    have h9:openP its m=openL its m:=rfl;rw[h9] at hu ⊢
    have hr:=hu.rk;rw[HM2.out] at hr ⊢
    exact⟨(a,c),rfl,h.1.later hb,h.2.later hb,hr⟩)
   refine region_thenG (β:=(Option Addr × Nat) × (Option Addr × Nat)) (fun z=>[(41,.agg #[.slice ia n ic]),(42,.slice fa n fc),(43,.slice z.1.1 m1 z.1.2),(44,.agg #[.slice ia n ic]),(45,.slice fa n fc),(46,.slice z.2.1 m2 z.2.2),(11,.slice z.1.1 m1 z.1.2),(12,.slice z.2.1 m2 z.2.2)]) (fun z w'=>WkS its w2 s (.slice ia n ic) m (.slice fa n fc) w'∧RK w' (.slice z.1.1 m1 z.1.2) (mayL its m)∧RK w' (.slice z.2.1 m2 z.2.2) (openL its m)) ?_ ?_
   ·refine wp_region_held (S:=fun w'=>WkS its w2 s (.slice ia n ic) m (.slice fa n fc) w') (by kernel_rfl) ?_;simp only[jN,jM,jP,Nat.reduceAdd,jI,jJ,jO,jL,jK];refine tV 0 41 (.agg #[.slice ia n ic]) 7 rfl hS0 ?_ (fun wx h=>by have y0:=(Dg.cell_row h.box 0).trans rfl;go_simp);refine tK 1 42 (.slice fa n fc) 6 rfl hS0 ?_;refine tV 3 44 (.agg #[.slice ia n ic]) 5 rfl hS0 ?_ (fun wx h=>by have y0:=(Dg.cell_row h.box 0).trans rfl;go_simp);refine tK 4 45 (.slice fa n fc) 4 rfl hS0 ?_;refine oneX (β:=Option Addr × Nat) (V:=fun y=> .slice y.1 m1 y.2) (R:=fun y w'=>WkS its w2 s (.slice ia n ic) m (.slice fa n fc) w'∧RK w' (.slice y.1 m1 y.2) (mayL its m)) (i:=2) (d:=43) (f:=9) (args:= #[.agg #[.slice ia n ic],.slice fa n fc]) (fuel:=3) rfl rfl (by kernel_rfl) (by kernel_rfl) (fun _=>by kernel_rfl) (HMY.out _ hS0) (fun y w' h=>h.1) (fun y wz2 hR2=>?_);simp only[jA,jB,jC];refine oneX (β:=Option Addr × Nat) (V:=fun x=> .slice x.1 m2 x.2) (R:=fun x w'=>WkS its w2 s (.slice ia n ic) m (.slice fa n fc) w'∧RK w' (.slice y.1 m1 y.2) (mayL its m)∧RK w' (.slice x.1 m2 x.2) (openL its m)) (i:=5) (d:=46) (f:=10) (args:= #[.agg #[.slice ia n ic],.slice fa n fc]) (fuel:=2) rfl rfl (by kernel_rfl) (by kernel_rfl) (fun _=>by kernel_rfl) (HOP.out _ y hR2) (fun x w' h=>h.1) (fun x wz5 hR5=>?_);simp only[jA,jB,jC];refine tK 6 11 (.slice y.1 m1 y.2) 1 rfl (hR5.1) ?_;refine tK 7 12 (.slice x.1 m2 x.2) 0 rfl (hR5.1) ?_;refine wpAnyH_done (by kernel_rfl) ?_ _;exact⟨rfl,(y,x),by kernel_rfl,hR5⟩
   ·rintro⟨⟨ya,yc⟩,oa,oc⟩ w9 hF
    simp only[setAll,jA,jB,jC];have HF9:Hid _:=hF;have z9:=(Dg.cell_row hF.1.box 0).trans rfl;have HBT:Hid (Below w.heap.size w w9):=HBU.out w9 (WkS.bel hF.1);clear hF hS0 HMY HOP z0 H4
    by_cases hz1:m1=0
    ·subst hz1
     go_wp2_with fail
     refine Calls.mono (lives_any _ (HTB.out _ HBT.out)) ?_;rintro e w12 ⟨rfl,hb12⟩;have HB12:Hid _:=HBT.out.trans (hb12.mono HBT.out.size);clear hb12
     go_wp2_with fail
     first
      | (go_ret;exact⟨rfl,HB12.out⟩)
      | exact⟨rfl,HB12.out⟩
    ·obtain⟨kq,hkq,hmod⟩:=pick_mod nn m1 (by omega)
     have hnz:¬(m1:Int)=0:=by omega
     have hnz2:((m1:Int)==0)=false:=by simpa using hnz
     obtain⟨⟨ki,ku,kt⟩,hk⟩:∃x,(mayL its m)[kq]? =some x:=⟨_,jF (by rw[HM1.out];exact hkq)⟩
     have HMEM:Hid ((ki,ku,kt)∈mayL its m):=jS hk;obtain⟨yb,yo,rfl⟩:=RK.some HF9.out.2.1 hk
     obtain⟨k0,k1,k2⟩:=RK.at HF9.out.2.1 hk
     have hkqi:(kq:Int) < (m1:Int):=by omega
     have hbA:=bl1 w9 (.cells #[.int .i64 (ki:Int),.bool ku,.int .i64 kt] 47);have HAP:Hid (TaS its w2 s (.slice ia n ic) m (.slice fa n fc) (.slice (some ⟨yb,yo,none⟩) m1 yc) (.slice oa m2 oc) w9.heap.size ki ku kt (w9.alloc (.cells #[.int .i64 (ki:Int),.bool ku,.int .i64 kt] 47))):=
      ⟨HF9.out.1.later hbA,RK.later HF9.out.2.1 hbA,RK.later HF9.out.2.2 hbA,Dg.row_new w9 _ 47⟩
     clear hbA hk HF9
     go_wp2_with fail
     generalize w9.alloc (.cells #[.int .i64 (ki:Int),.bool ku,.int .i64 kt] 47)=w10 at *;generalize w9.heap.size=kb at *;clear k0 k1 k2 z9 HBT hmod hnz hnz2 hkq hkqi hz1
     go_loopw [14] (fun iv wr=>∃(i:Nat),i≤m1∧iv= .int .i64 i∧Hid ((TaS its w2 s (.slice ia n ic) m (.slice fa n fc) (.slice (some ⟨yb,yo,none⟩) m1 yc) (.slice oa m2 oc) kb ki ku kt wr))) (fun iv _=>m1 - (intOf iv).toNat)
     case atStart=>exact⟨0,zE _,by go_num,HAP⟩
     case round=>
      obtain⟨i,hi,rfl,HM⟩:=hrel
      rename World=>wr
      by_cases hlt:i < m1
      rotate_left
      ·have hnl:¬(i:Int) < (m1:Int):=by omega
       go_wp2_with fail
       go_loopw [17] (fun iv wq=>∃(i:Nat),i≤m2∧iv= .int .i64 i∧Hid ((TaS its w2 s (.slice ia n ic) m (.slice fa n fc) (.slice (some ⟨yb,yo,none⟩) m1 yc) (.slice oa m2 oc) kb ki ku kt wq))) (fun iv _=>m2 - (intOf iv).toNat)
       case atStart=>exact⟨0,zE _,by go_num,HM⟩
       case round=>
        obtain⟨q,hq,rfl,HQ⟩:=hrel
        rename World=>wq
        by_cases hqt:q < m2
        rotate_left
        ·have hnq:¬(q:Int) < (m2:Int):=by omega
         have HBT:Hid (Below w.heap.size w wq):=HBU.out wq (WkS.bel (TaS.wk HQ.out))
         go_wp2_with fail
         refine Calls.mono (lives_any _ (HTB.out _ HBT.out)) ?_;rintro e w12 ⟨rfl,hb12⟩;have HB12:Hid _:=HBT.out.trans (hb12.mono HBT.out.size);clear hb12
         go_wp2_with fail
         first
          | (go_ret;exact⟨rfl,HB12.out⟩)
          | exact⟨rfl,HB12.out⟩
        ·have hqq:(q:Int) < (m2:Int):=by omega
         obtain⟨⟨ji,ju,jt⟩,hj⟩:∃x,(openL its m)[q]? =some x:=⟨_,jF (by rw[HM2.out];exact hqt)⟩
         have HJM:Hid ((ji,ju,jt)∈openL its m):=jS hj;obtain⟨ob,oo,rfl⟩:=RK.some (TaS.opn HQ.out) hj
         have HJC:Hid (∀wx,(TaS its w2 s (.slice ia n ic) m (.slice fa n fc) (.slice (some ⟨yb,yo,none⟩) m1 yc) (.slice (some ⟨ob,oo,none⟩) m2 oc) kb ki ku kt wx)→wx.cell? ⟨ob,oo+q * 3,none⟩=some (.int .i64 (ji:Int))∧wx.cell? ⟨ob,oo+q * 3+1,none⟩=some (.bool ju)∧wx.cell? ⟨ob,oo+q * 3+2,none⟩=some (.int .i64 jt)):=fun wx h=>RK.at h.opn hj
         obtain⟨j0,j1,j2⟩:=HJC.out wq HQ.out
         clear hj;cases ju with
         | true=>
          go_wp2_with fail
          go_roundw
          case rel=>exact⟨q+1,by omega,by go_num,HQ⟩
          case measure=>simp[intOf] <;> omega
         | false=>
          have hS0:(TaS its w2 s (.slice ia n ic) m (.slice fa n fc) (.slice (some ⟨yb,yo,none⟩) m1 yc) (.slice (some ⟨ob,oo,none⟩) m2 oc) kb ki ku kt wq.drew):=TaS.later HQ.out (Below.refl _ _).drew;have HEN:Hid (∀wx,(TaS its w2 s (.slice ia n ic) m (.slice fa n fc) (.slice (some ⟨yb,yo,none⟩) m1 yc) (.slice (some ⟨ob,oo,none⟩) m2 oc) kb ki ku kt wx)→Calls Tryz.prog 18 #[.agg #[.slice ia n ic],.slice fa n fc,.agg #[.int .i64 (ji:Int),.bool false,.int .i64 jt],.bool true] wx fun e w'=>∃u,e= .returned (.tuple #[u,.int .i64 0])∧RF w' u (m.set ji (endF (fOf m ji) false true))∧(TaS its w2 s (.slice ia n ic) m (.slice fa n fc) (.slice (some ⟨yb,yo,none⟩) m1 yc) (.slice (some ⟨ob,oo,none⟩) m2 oc) kb ki ku kt w')):=fun wx h=>Calls.mono (End_any (HPF.out _ wx h.wk) (ji,false,jt) true HJM.out (fun h=>by cases h)) (by
           rintro e w' ⟨hb,u,rfl,hr⟩;exact⟨u,rfl,hr,h.later hb⟩)
          go_wp2_with fail
          refine region_thenG (β:=Value) (fun z=>[(106,.agg #[.slice ia n ic]),(107,.slice fa n fc),(108,.slice (some ⟨ob,oo,none⟩) m2 oc),(109,.int .i64 (q:Int)),(110,.pointer (some ⟨ob,oo+q * 3,none⟩)),(111,.agg #[.int .i64 (ji:Int),.bool false,.int .i64 jt]),(112,.tuple #[z,.int .i64 0]),(105,.tuple #[z,.int .i64 0]),(113,z),(114,.int .i64 0),(18,z),(19,.int .i64 0)]) (fun z w'=>RF w' z (m.set ji (endF (fOf m ji) false true))∧(TaS its w2 s (.slice ia n ic) m (.slice fa n fc) (.slice (some ⟨yb,yo,none⟩) m1 yc) (.slice (some ⟨ob,oo,none⟩) m2 oc) kb ki ku kt w')) ?_ ?_
          ·refine wp_region_held (S:=fun w'=>TaS its w2 s (.slice ia n ic) m (.slice fa n fc) (.slice (some ⟨yb,yo,none⟩) m1 yc) (.slice (some ⟨ob,oo,none⟩) m2 oc) kb ki ku kt w') (by kernel_rfl) ?_;simp only[jN,jM,jP,Nat.reduceAdd,jI,jJ,jO,jL,jK];refine tV 0 106 (.agg #[.slice ia n ic]) 11 rfl hS0 ?_ (fun wx h=>by have y0:=(Dg.cell_row h.wk.box 0).trans rfl;go_simp);refine tK 1 107 (.slice fa n fc) 10 rfl hS0 ?_;refine tK 2 108 (.slice (some ⟨ob,oo,none⟩) m2 oc) 9 rfl hS0 ?_;refine tK 3 109 (.int .i64 (q:Int)) 8 rfl hS0 ?_;refine tG 4 110 (.pointer (some ⟨ob,oo+q * 3,none⟩)) 7 rfl hS0 ?_;refine tV 5 111 (.agg #[.int .i64 (ji:Int),.bool false,.int .i64 jt]) 6 rfl hS0 ?_ (fun wx h=>by obtain⟨y0,y1,y2⟩:=HJC.out wx h;go_simp);refine oneX (β:=Value) (V:=fun u=> .tuple #[u,.int .i64 0]) (R:=fun u w'=>RF w' u (m.set ji (endF (fOf m ji) false true))∧TaS its w2 s (.slice ia n ic) m (.slice fa n fc) (.slice (some ⟨yb,yo,none⟩) m1 yc) (.slice (some ⟨ob,oo,none⟩) m2 oc) kb ki ku kt w') (i:=6) (d:=112) (f:=18) (args:= #[.agg #[.slice ia n ic],.slice fa n fc,.agg #[.int .i64 (ji:Int),.bool false,.int .i64 jt],.bool true]) (fuel:=5) rfl rfl (by kernel_rfl) (by kernel_rfl) (fun _=>by kernel_rfl) (HEN.out _ hS0) (fun u w' h=>h.2) (fun u wz6 hR6=>?_);simp only[jA,jB,jC];refine tK 7 105 (.tuple #[u,.int .i64 0]) 4 rfl (hR6.2) ?_;refine tK 8 113 u 3 rfl (hR6.2) ?_;refine tK 9 114 (.int .i64 0) 2 rfl (hR6.2) ?_;refine tK 10 18 u 1 rfl (hR6.2) ?_;refine tK 11 19 (.int .i64 0) 0 rfl (hR6.2) ?_;refine wpAnyH_done (by kernel_rfl) ?_ _;exact⟨rfl,u,by kernel_rfl,hR6⟩
          ·intro u w11 hF;have HFA:Hid _:=hF;simp only[setAll,jA,jB,jC];have hp:=HPF.out _ w11 hF.2.wk;have h9:=Is_any (l:=m.set ji (endF (fOf m ji) false true)) (lv:=u) ⟨hp.it,hp.fair,hp.tab,hF.1,hp.il,by rw[List.length_set];exact hp.ll⟩ (ki,ku,kt);rw[decide_eq_true (apart_end hF.2.wk.good HMEM.out HJM.out)] at h9
           unfold KeV at h9;have HIS:Hid _:=h9;have y0:=(Dg.cell_row hF.2.key 0).trans rfl;have y1:=(Dg.cell_row hF.2.key 1).trans rfl;have y2:=(Dg.cell_row hF.2.key 2).trans rfl;have y3:=(Dg.cell_row hF.2.wk.box 0).trans rfl;clear hF hS0 HEN h9 hp j0 j1 j2 HQ
           go_wp2_with fail
           refine Calls.mono HIS.out ?_;rintro e w12 ⟨rfl,hb12⟩;have HF12:Hid _:=TaS.later HFA.out.2 hb12;clear hb12 HIS HFA y0 y1 y2 y3
           go_wp2_with fail
           go_roundw
           case rel=>exact⟨q+1,by omega,by go_num,HF12⟩
           case measure=>simp[intOf] <;> omega
      ·have hii:(i:Int) < (m1:Int):=by omega
       obtain⟨⟨ji,ju,jt⟩,hj⟩:∃x,(mayL its m)[i]? =some x:=⟨_,jF (by rw[HM1.out];exact hlt)⟩
       have HJM:Hid ((ji,ju,jt)∈mayL its m):=jS hj;have HJC:Hid (∀wx,(TaS its w2 s (.slice ia n ic) m (.slice fa n fc) (.slice (some ⟨yb,yo,none⟩) m1 yc) (.slice oa m2 oc) kb ki ku kt wx)→wx.cell? ⟨yb,yo+i * 3,none⟩=some (.int .i64 (ji:Int))∧wx.cell? ⟨yb,yo+i * 3+1,none⟩=some (.bool ju)∧wx.cell? ⟨yb,yo+i * 3+2,none⟩=some (.int .i64 jt)):=fun wx h=>RK.at h.may hj
       have hS0:(TaS its w2 s (.slice ia n ic) m (.slice fa n fc) (.slice (some ⟨yb,yo,none⟩) m1 yc) (.slice oa m2 oc) kb ki ku kt wr.drew):=TaS.later HM.out (Below.refl _ _).drew;have HBG:Hid (∀wx,(TaS its w2 s (.slice ia n ic) m (.slice fa n fc) (.slice (some ⟨yb,yo,none⟩) m1 yc) (.slice oa m2 oc) kb ki ku kt wx)→Calls Tryz.prog 17 #[.agg #[.slice ia n ic],.slice fa n fc,.agg #[.int .i64 (ji:Int),.bool ju,.int .i64 jt]] wx fun e w'=>∃u,e= .returned (.tuple #[u,.int .i64 0])∧RF w' u (m.set ji (begF (fOf m ji) ju))∧(TaS its w2 s (.slice ia n ic) m (.slice fa n fc) (.slice (some ⟨yb,yo,none⟩) m1 yc) (.slice oa m2 oc) kb ki ku kt w')):=fun wx h=>Calls.mono (Begin_any (HPF.out _ wx h.wk) (ji,ju,jt) HJM.out) (by
        rintro e w' ⟨hb,u,rfl,hr⟩;exact⟨u,rfl,hr,h.later hb⟩)
       clear hj HM
       go_wp2_with fail
       refine region_thenG (β:=Value) (fun z=>[(68,.agg #[.slice ia n ic]),(69,.slice fa n fc),(70,.slice (some ⟨yb,yo,none⟩) m1 yc),(71,.int .i64 (i:Int)),(72,.pointer (some ⟨yb,yo+i * 3,none⟩)),(73,.agg #[.int .i64 (ji:Int),.bool ju,.int .i64 jt]),(74,.tuple #[z,.int .i64 0]),(67,.tuple #[z,.int .i64 0]),(75,z),(76,.int .i64 0),(15,z),(16,.int .i64 0)]) (fun z w'=>RF w' z (m.set ji (begF (fOf m ji) ju))∧(TaS its w2 s (.slice ia n ic) m (.slice fa n fc) (.slice (some ⟨yb,yo,none⟩) m1 yc) (.slice oa m2 oc) kb ki ku kt w')) ?_ ?_
       ·refine wp_region_held (S:=fun w'=>TaS its w2 s (.slice ia n ic) m (.slice fa n fc) (.slice (some ⟨yb,yo,none⟩) m1 yc) (.slice oa m2 oc) kb ki ku kt w') (by kernel_rfl) ?_;simp only[jN,jM,jP,Nat.reduceAdd,jI,jJ,jO,jL,jK];refine tV 0 68 (.agg #[.slice ia n ic]) 11 rfl hS0 ?_ (fun wx h=>by have y0:=(Dg.cell_row h.wk.box 0).trans rfl;go_simp);refine tK 1 69 (.slice fa n fc) 10 rfl hS0 ?_;refine tK 2 70 (.slice (some ⟨yb,yo,none⟩) m1 yc) 9 rfl hS0 ?_;refine tK 3 71 (.int .i64 (i:Int)) 8 rfl hS0 ?_;refine tG 4 72 (.pointer (some ⟨yb,yo+i * 3,none⟩)) 7 rfl hS0 ?_;refine tV 5 73 (.agg #[.int .i64 (ji:Int),.bool ju,.int .i64 jt]) 6 rfl hS0 ?_ (fun wx h=>by obtain⟨y0,y1,y2⟩:=HJC.out wx h;go_simp);refine oneX (β:=Value) (V:=fun u=> .tuple #[u,.int .i64 0]) (R:=fun u w'=>RF w' u (m.set ji (begF (fOf m ji) ju))∧TaS its w2 s (.slice ia n ic) m (.slice fa n fc) (.slice (some ⟨yb,yo,none⟩) m1 yc) (.slice oa m2 oc) kb ki ku kt w') (i:=6) (d:=74) (f:=17) (args:= #[.agg #[.slice ia n ic],.slice fa n fc,.agg #[.int .i64 (ji:Int),.bool ju,.int .i64 jt]]) (fuel:=5) rfl rfl (by kernel_rfl) (by kernel_rfl) (fun _=>by kernel_rfl) (HBG.out _ hS0) (fun u w' h=>h.2) (fun u wz6 hR6=>?_);simp only[jA,jB,jC];refine tK 7 67 (.tuple #[u,.int .i64 0]) 4 rfl (hR6.2) ?_;refine tK 8 75 u 3 rfl (hR6.2) ?_;refine tK 9 76 (.int .i64 0) 2 rfl (hR6.2) ?_;refine tK 10 15 u 1 rfl (hR6.2) ?_;refine tK 11 16 (.int .i64 0) 0 rfl (hR6.2) ?_;refine wpAnyH_done (by kernel_rfl) ?_ _;exact⟨rfl,u,by kernel_rfl,hR6⟩
       ·intro u w11 hF;have HFA:Hid _:=hF;simp only[setAll,jA,jB,jC];clear hF hS0 HBG
        go_wp2_with fail
        by_cases he:(ji,ju,jt)=((ki,ku,kt):Nat × Bool × Int)
        ·have hS0:(TaS its w2 s (.slice ia n ic) m (.slice fa n fc) (.slice (some ⟨yb,yo,none⟩) m1 yc) (.slice oa m2 oc) kb ki ku kt w11.drew):=TaS.later HFA.out.2 (Below.refl _ _).drew;have hq:(!decide ((ji,ju,jt)=((ki,ku,kt):Nat × Bool × Int)))=false:=by rw[decide_eq_true he];rfl
         clear HFA;refine region_thenF [(77,.int .i64 0),(78,.bool false),(79,.bool false),(80,.slice (some ⟨yb,yo,none⟩) m1 yc),(81,.int .i64 (i:Int)),(82,.pointer (some ⟨yb,yo+i * 3,none⟩)),(83,.agg #[.int .i64 (ji:Int),.bool ju,.int .i64 jt]),(84,.agg #[.int .i64 (ki:Int),.bool ku,.int .i64 kt]),(85,.bool false),(86,.bool false),(87,undef),(88,undef),(89,undef),(90,undef),(91,undef),(92,.bool false),(93,.bool false)] (fun w'=>TaS its w2 s (.slice ia n ic) m (.slice fa n fc) (.slice (some ⟨yb,yo,none⟩) m1 yc) (.slice oa m2 oc) kb ki ku kt w') ?_ ?_
         ·refine wp_region_held (S:=fun w'=>TaS its w2 s (.slice ia n ic) m (.slice fa n fc) (.slice (some ⟨yb,yo,none⟩) m1 yc) (.slice oa m2 oc) kb ki ku kt w') (by kernel_rfl) ?_;simp only[jN,jM,jP,Nat.reduceAdd,jI,jJ,jO,jL,jK];refine tK 0 77 (.int .i64 0) 16 rfl hS0 ?_;refine tG 1 78 (.bool false) 15 rfl hS0 ?_;refine tK 2 79 (.bool false) 14 rfl hS0 ?_;refine tK 3 80 (.slice (some ⟨yb,yo,none⟩) m1 yc) 13 rfl hS0 ?_;refine tK 4 81 (.int .i64 (i:Int)) 12 rfl hS0 ?_;refine tG 5 82 (.pointer (some ⟨yb,yo+i * 3,none⟩)) 11 rfl hS0 ?_;refine tV 6 83 (.agg #[.int .i64 (ji:Int),.bool ju,.int .i64 jt]) 10 rfl hS0 ?_ (fun wx h=>by obtain⟨y0,y1,y2⟩:=HJC.out wx h;go_simp);refine tV 7 84 (.agg #[.int .i64 (ki:Int),.bool ku,.int .i64 kt]) 9 rfl hS0 ?_ (fun wx h=>by have y0:=(Dg.cell_row h.key 0).trans rfl;have y1:=(Dg.cell_row h.key 1).trans rfl;have y2:=(Dg.cell_row h.key 2).trans rfl;go_simp);refine tV 8 85 (.bool false) 8 rfl hS0 ?_ (fun wx h=>neq_execK (ji,ju,jt) (ki,ku,kt) rfl rfl rfl hq);refine tK 9 86 (.bool false) 7 rfl hS0 ?_;refine tU 10 87 6 rfl hS0 ?_;refine tU 11 88 5 rfl hS0 ?_;refine tU 12 89 4 rfl hS0 ?_;refine wpAnyH_all (fuel:=3) (rs:=[13]) (by kernel_rfl) (by decide) (jE.2 ?_);refine wpOp_un (i:=13) (d:=90) rfl rfl (by kernel_rfl) ⟨hS0,?_⟩;simp only[jA,jB,jC];refine tU 14 91 2 rfl hS0 ?_;refine tK 15 92 (.bool false) 1 rfl hS0 ?_;refine tK 16 93 (.bool false) 0 rfl hS0 ?_;refine wpAnyH_done (by kernel_rfl) ?_ _;exact⟨rfl,by kernel_rfl,hS0⟩
         ·intro w9 hF;simp only[setAll,jA,jB,jC];have HF9:Hid _:=hF;clear hF hS0
          go_wp2_with fail
          go_roundw
          case rel=>exact⟨i+1,by omega,by go_num,HF9⟩
          case measure=>simp[intOf] <;> omega
        ·have hq:(!decide ((ji,ju,jt)=((ki,ku,kt):Nat × Bool × Int)))=true:=by rw[decide_eq_false he];rfl
         have hS0:RF w11.drew u (m.set ji (begF (fOf m ji) ju))∧(TaS its w2 s (.slice ia n ic) m (.slice fa n fc) (.slice (some ⟨yb,yo,none⟩) m1 yc) (.slice oa m2 oc) kb ki ku kt w11.drew):=⟨RF.later HFA.out.1 (Below.refl _ _).drew,TaS.later HFA.out.2 (Below.refl _ _).drew⟩;have HIS:Hid (∀wx,(RF wx u (m.set ji (begF (fOf m ji) ju))∧(TaS its w2 s (.slice ia n ic) m (.slice fa n fc) (.slice (some ⟨yb,yo,none⟩) m1 yc) (.slice oa m2 oc) kb ki ku kt wx))→Calls Tryz.prog 16 #[.agg #[.slice ia n ic],u,.agg #[.int .i64 (ki:Int),.bool ku,.int .i64 kt]] wx fun e w'=>e= .returned (.bool true)∧RF w' u (m.set ji (begF (fOf m ji) ju))∧(TaS its w2 s (.slice ia n ic) m (.slice fa n fc) (.slice (some ⟨yb,yo,none⟩) m1 yc) (.slice oa m2 oc) kb ki ku kt w')):=fun wx h=>by
          have hp:=HPF.out _ wx h.2.wk;have h9:=Is_any (l:=m.set ji (begF (fOf m ji) ju)) (lv:=u) ⟨hp.it,hp.fair,hp.tab,h.1,hp.il,by rw[List.length_set];exact hp.ll⟩ (ki,ku,kt);rw[decide_eq_true (apart_beg h.2.wk.good HMEM.out HJM.out he)] at h9
          exact Calls.mono h9 (by rintro e w' ⟨rfl,hb⟩;exact⟨rfl,RF.later h.1 hb,h.2.later hb⟩)
         clear HFA;refine region_thenF [(77,.int .i64 0),(78,.bool false),(79,.bool false),(80,.slice (some ⟨yb,yo,none⟩) m1 yc),(81,.int .i64 (i:Int)),(82,.pointer (some ⟨yb,yo+i * 3,none⟩)),(83,.agg #[.int .i64 (ji:Int),.bool ju,.int .i64 jt]),(84,.agg #[.int .i64 (ki:Int),.bool ku,.int .i64 kt]),(85,.bool true),(86,.bool true),(87,.agg #[.slice ia n ic]),(88,u),(89,.agg #[.int .i64 (ki:Int),.bool ku,.int .i64 kt]),(90,.bool true),(91,.bool false),(92,.bool false),(93,.bool false)] (fun w'=>RF w' u (m.set ji (begF (fOf m ji) ju))∧TaS its w2 s (.slice ia n ic) m (.slice fa n fc) (.slice (some ⟨yb,yo,none⟩) m1 yc) (.slice oa m2 oc) kb ki ku kt w') ?_ ?_
         ·refine wp_region_held (S:=fun w'=>RF w' u (m.set ji (begF (fOf m ji) ju))∧TaS its w2 s (.slice ia n ic) m (.slice fa n fc) (.slice (some ⟨yb,yo,none⟩) m1 yc) (.slice oa m2 oc) kb ki ku kt w') (by kernel_rfl) ?_;simp only[jN,jM,jP,Nat.reduceAdd,jI,jJ,jO,jL,jK];refine tK 0 77 (.int .i64 0) 16 rfl hS0 ?_;refine tG 1 78 (.bool false) 15 rfl hS0 ?_;refine tK 2 79 (.bool false) 14 rfl hS0 ?_;refine tK 3 80 (.slice (some ⟨yb,yo,none⟩) m1 yc) 13 rfl hS0 ?_;refine tK 4 81 (.int .i64 (i:Int)) 12 rfl hS0 ?_;refine tG 5 82 (.pointer (some ⟨yb,yo+i * 3,none⟩)) 11 rfl hS0 ?_;refine tV 6 83 (.agg #[.int .i64 (ji:Int),.bool ju,.int .i64 jt]) 10 rfl hS0 ?_ (fun wx h=>by obtain⟨y0,y1,y2⟩:=HJC.out wx h.2;go_simp);refine tV 7 84 (.agg #[.int .i64 (ki:Int),.bool ku,.int .i64 kt]) 9 rfl hS0 ?_ (fun wx h=>by have y0:=(Dg.cell_row h.2.key 0).trans rfl;have y1:=(Dg.cell_row h.2.key 1).trans rfl;have y2:=(Dg.cell_row h.2.key 2).trans rfl;go_simp);refine tV 8 85 (.bool true) 8 rfl hS0 ?_ (fun wx h=>neq_execK (ji,ju,jt) (ki,ku,kt) rfl rfl rfl hq);refine tK 9 86 (.bool true) 7 rfl hS0 ?_;refine tV 10 87 (.agg #[.slice ia n ic]) 6 rfl hS0 ?_ (fun wx h=>by have y0:=(Dg.cell_row h.2.wk.box 0).trans rfl;go_simp);refine tK 11 88 u 5 rfl hS0 ?_;refine tV 12 89 (.agg #[.int .i64 (ki:Int),.bool ku,.int .i64 kt]) 4 rfl hS0 ?_ (fun wx h=>by have y0:=(Dg.cell_row h.2.key 0).trans rfl;have y1:=(Dg.cell_row h.2.key 1).trans rfl;have y2:=(Dg.cell_row h.2.key 2).trans rfl;go_simp);refine oneC (i:=13) (d:=90) (f:=16) (args:= #[.agg #[.slice ia n ic],u,.agg #[.int .i64 (ki:Int),.bool ku,.int .i64 kt]]) (v:= .bool true) (fuel:=3) rfl rfl (by kernel_rfl) (by kernel_rfl) (fun _=>by kernel_rfl) hS0 (fun wx h=>HIS.out wx h) (fun wz hS113=>?_);simp only[jA,jB,jC];refine tG 14 91 (.bool false) 2 rfl hS113 ?_;refine tK 15 92 (.bool false) 1 rfl hS113 ?_;refine tK 16 93 (.bool false) 0 rfl hS113 ?_;refine wpAnyH_done (by kernel_rfl) ?_ _;exact⟨rfl,by kernel_rfl,hS113⟩
         ·intro w9 hF;simp only[setAll,jA,jB,jC];have HF9:Hid _:=hF.2;clear hF hS0
          go_wp2_with fail
          go_roundw
          case rel=>exact⟨i+1,by omega,by go_num,HF9⟩
          case measure=>simp[intOf] <;> omega
end Go.Proofs.YtieoppabellafaaGreatDoor.Ts
