/- Texts of the seat, packed: Ao Bm Aq. -/
import Derived.Test.YtieoppabellafaaGreatDoorG01
import Derived.Test.YtieoppabellafaaGreatDoorG26
import Derived.Test.YtieoppabellafaaGreatDoorG11
import Derived.Test.YtieoppabellafaaGreatDoorG14
import Derived.Test.YtieoppabellafaaGreatDoorG21
import Derived.Deep.SlicePairs
import Derived.OpenShut
set_option maxRecDepth 1000000
set_option maxHeartbeats 64000000
set_option linter.unusedVariables false
namespace Go.Proofs.YtieoppabellafaaGreatDoor.Ts
open Go.RowKit Go.Shelf Fc St Sx Sa
def PkR (w:World)(v:Value)(L:List (Int × Bool)):Prop:=∃a cap,v= .slice a L.length cap∧L.length≤cap∧∀(i:Nat) (x:Int × Bool),L[i]? =some x→∃b off,a=some ⟨b,off,none⟩∧w.cell? ⟨b,off+i * 2,none⟩=some (.int .i64 x.1)∧w.cell? ⟨b,off+i * 2+1,none⟩=some (.bool x.2)
theorem PkR.later {w w':World}{v:Value}{L:List (Int × Bool)}(h:PkR w v L)(hb:Below w.heap.size w w'):PkR w' v L:=by
 obtain⟨a,cap,rfl,hc,hr⟩:=h
 refine⟨a,cap,rfl,hc,fun i x hx=>?_⟩
 obtain⟨b,off,ha,c0,c1⟩:=hr i x hx
 exact⟨b,off,ha,Dg.cell_later hb c0,Dg.cell_later hb c1⟩
structure WkS (its:List It)(w:World)(s:Nat)(pv:Value)(m:List Fa)(u:Value)(W:World):Prop where
 bel:Below w.heap.size w W
 box:W.heap[s]? =some (.cells #[pv] 28 (0,0))
 good:St.Good its m
 rf:RF W u m
theorem WkS.later {its:List It}{w:World}{s:Nat}{pv:Value}{m:List Fa}{u:Value}{W W':World}(h:WkS its w s pv m u W)(hb:Below W.heap.size W W'):WkS its w s pv m u W':=
 ⟨h.bel.trans (hb.mono h.bel.size),(hb.block _ (jD.1 h.box).1).trans h.box,h.good,h.rf.later hb⟩
theorem open_few {its:List It}{l:List Fa} :(openL its l).length≤128:=by
 unfold openL
 by_cases hc:chkF its l=0
 ·rw[if_pos hc]
  have:=opG_few l 0;have h64:=(root_len (chkF_iff.1 hc).1).2;have hl:=(chk_facts hc).2.1;omega
 ·rw[if_neg hc]
  simp
theorem pick_mod (z:Int)(q:Nat)(h:0 < q):∃k:Nat,k < q∧(IntKind.u64.wrap z).tmod (q:Int)=(k:Int):=by
 have h0:0≤IntKind.u64.wrap z:=by rw[IntKind.wrap_u64];omega
 have h1:(IntKind.u64.wrap z).tmod (q:Int)=(IntKind.u64.wrap z) % (q:Int):=Int.tmod_eq_emod_of_nonneg h0;have h2:0≤(IntKind.u64.wrap z) % (q:Int):=Int.emod_nonneg _ (by omega);have h3:(IntKind.u64.wrap z) % (q:Int) < (q:Int):=Int.emod_lt_of_pos _ (by omega);exact⟨((IntKind.u64.wrap z) % (q:Int)).toNat,by omega,by rw[h1];omega⟩
def WkC (its:List It)(w:World)(e:Ending)(w':World):Prop:=Below w.heap.size w w'∧∃u m,e= .returned (.tuple #[u,.bool true])∧St.Good its m∧RF w' u m
theorem walked_any (its:List It)(v lv:Value)(L:List (Int × Bool))(w:World)(hs:(sagaP its).isSome=true)(hF:FairI its)(hT:Dg.Tab w)(hIt:RdIt w v its)(hL:PkR w lv L)(hl:L.length≤1000000) :
  Calls Tryz.prog 8 #[.agg #[v],lv] w fun e w'=>WkC its w e w':=by
 obtain⟨R,HR⟩:∃R:Ending→World→Prop,Hid (R=WkC its w):=⟨_,rfl⟩
 show Calls _ _ _ _ (WkC its w);rw[←HR.out]
 have hb1:=bl1 w (.cells #[v] 28);have HB1:Hid _:=hb1;have HNO:Hid _:=noneF_any its v _ (hIt.later hb1) hF (hT.later hb1);have h64:=root_len hs;have HIT:Hid (∀wx,Below w.heap.size w wx→RdIt wx v its):=fun wx hb=>hIt.later hb
 have HTB:Hid (∀wx,Below w.heap.size w wx→Dg.Tab wx):=fun wx hb=>hT.later hb
 have HPK:Hid (∀wx,Below w.heap.size w wx→PkR wx lv L):=fun wx hb=>hL.later hb
 have HFI:Hid _:=hF;have HSG:Hid _:=hs;have r1:=Dg.row_new w #[v] 28;have HR1:Hid _:=r1;have c0:=(Dg.cell_row r1 0).trans rfl;obtain⟨ia,ic,rfl,_⟩:=hIt
 obtain⟨la,lc,rfl,hlc,_⟩:=hL
 obtain⟨nL,HNL⟩:∃nL,Hid (L.length=nL):=⟨_,rfl⟩
 obtain⟨n,HN⟩:∃n,Hid (its.length=n):=⟨_,rfl⟩
 rw[HNL.out] at hl hlc HPK ⊢
 rw[HN.out] at HB1 HNO h64 HIT HR1 c0 ⊢
 clear hs hF hT hb1 r1
 go_enter Tryz.func8,Tryz.ntmps8
 go_wp2_with fail
 refine Calls.mono HNO.out ?_;rintro e w2 ⟨hb2,hx⟩;rw[HSG.out] at hx
 obtain⟨g0,rfl,hof⟩:=hx
 rw[HN.out] at hof ⊢
 obtain⟨s,hs⟩:∃s,w.heap.size=s:=⟨_,rfl⟩
 have H0:Hid (WkS its w s (.slice ia n ic) (List.replicate its.length Fa.z) (.slice (some ⟨g0,0,none⟩) n n) w2):=by
  refine⟨HB1.out.trans (hb2.mono HB1.out.size),?_,good_none HSG.out,?_⟩
  ·rw[←hs]
   exact (hb2.block _ (jD.1 HR1.out).1).trans HR1.out
  ·have:=hof.rf;rw[HN.out]
   exact this
 have HPF:Hid (∀(m:List Fa) (u:Value) (W:World),WkS its w s (.slice ia n ic) m u W→PF its m (.slice ia n ic) u W):=fun m u W h=>⟨HIT.out W h.bel,HFI.out,HTB.out W h.bel,h.rf,by rw[HN.out];omega,by have:=h.good.len;rw[HN.out] at this;omega⟩
 have HML:Hid (∀m:List Fa,St.Good its m→m.length=n):=fun m h=>h.len.trans HN.out
 clear HNO hb2 hof c0 HB1 HR1
 go_wp2_with fail
 clear hs
 go_loopw [6,7] (fun fv iv wr=>∃(i:Nat) (m:List Fa),i≤nL∧iv= .int .i64 i∧Hid (WkS its w s (.slice ia n ic) m fv wr)) (fun fv iv _=>nL - (intOf iv).toNat)
 case atStart=>exact⟨0,_,zE _,by go_num,H0⟩
 case round=>
  obtain⟨i,m,hi,rfl,HM⟩:=hrel
  rename World=>wr
  obtain⟨fa,fc,rfl⟩:∃a c,u6= .slice a n c:=by
   obtain⟨a,c,e,_⟩:=HM.out.rf
   rw[HML.out m HM.out.good] at e
   exact⟨a,c,e⟩
  by_cases hlt:i < nL
  rotate_left
  ·have hnl:¬(i:Int) < (nL:Int):=by omega
   go_wp2_with fail
   rw[HR.out]
   exact⟨HM.out.bel,_,m,rfl,HM.out.good,HM.out.rf⟩
  ·have hii:(i:Int) < (nL:Int):=by omega
   obtain⟨m1,HM1⟩:∃m1,Hid ((mayL its m).length=m1):=⟨_,rfl⟩
   obtain⟨m2,HM2⟩:∃m2,Hid ((openL its m).length=m2):=⟨_,rfl⟩
   have hm1:m1≤64:=by rw[←HM1.out];exact may_few
   have hm2:m2≤128:=by rw[←HM2.out];exact open_few
   have z0:=(Dg.cell_row HM.out.box 0).trans rfl;have hS0:WkS its w s (.slice ia n ic) m (.slice fa n fc) wr.drew:=HM.out.later (Below.refl _ _).drew;have HMY:Hid (∀wx,WkS its w s (.slice ia n ic) m (.slice fa n fc) wx→Calls Tryz.prog 9 #[.agg #[.slice ia n ic],.slice fa n fc] wx fun e w'=>∃y:Option Addr × Nat,e= .returned (.slice y.1 m1 y.2)∧WkS its w s (.slice ia n ic) m (.slice fa n fc) w'∧RK w' (.slice y.1 m1 y.2) (mayL its m)):=fun wx h=>Calls.mono (May_any (HPF.out m _ wx h)) (by
    rintro e w' ⟨hb,a,c,rfl,hr⟩;rw[HM1.out] at hr ⊢
    exact⟨(a,c),rfl,h.later hb,hr⟩)
   have HOP:Hid (∀(wx:World) (y:Option Addr × Nat),(WkS its w s (.slice ia n ic) m (.slice fa n fc) wx∧RK wx (.slice y.1 m1 y.2) (mayL its m))→Calls Tryz.prog 10 #[.agg #[.slice ia n ic],.slice fa n fc] wx fun e w'=>∃x:Option Addr × Nat,e= .returned (.slice x.1 m2 x.2)∧WkS its w s (.slice ia n ic) m (.slice fa n fc) w'∧RK w' (.slice y.1 m1 y.2) (mayL its m)∧RK w' (.slice x.1 m2 x.2) (openL its m)):=fun wx y h=>Calls.mono (open_any its _ _ m wx (HPF.out m _ wx h.1).it (HPF.out m _ wx h.1).fair (HPF.out m _ wx h.1).tab (HPF.out m _ wx h.1).fa (by rw[HN.out];omega) (by rw[HML.out m h.1.good];omega)) (by
    rintro e w' ⟨hb,u,rfl,hu⟩;obtain⟨a,c,rfl⟩:=hu.slice
    have h9:openP its m=openL its m:=rfl;rw[h9] at hu ⊢
    have hr:=hu.rk;rw[HM2.out] at hr ⊢
    exact⟨(a,c),rfl,h.1.later hb,h.2.later hb,hr⟩)
   go_wp2_with fail
   refine region_thenG (β:=(Option Addr × Nat) × (Option Addr × Nat)) (fun z=>[(22,.agg #[.slice ia n ic]),(23,.slice fa n fc),(24,.slice z.1.1 m1 z.1.2),(25,.agg #[.slice ia n ic]),(26,.slice fa n fc),(27,.slice z.2.1 m2 z.2.2),(8,.slice z.1.1 m1 z.1.2),(9,.slice z.2.1 m2 z.2.2)]) (fun z w'=>WkS its w s (.slice ia n ic) m (.slice fa n fc) w'∧RK w' (.slice z.1.1 m1 z.1.2) (mayL its m)∧RK w' (.slice z.2.1 m2 z.2.2) (openL its m)) ?_ ?_
   ·refine wp_region_held (S:=fun w'=>WkS its w s (.slice ia n ic) m (.slice fa n fc) w') (by kernel_rfl) ?_;simp only[jN,jM,jP,Nat.reduceAdd,jI,jJ,jO,jL,jK];refine tV 0 22 (.agg #[.slice ia n ic]) 7 rfl hS0 ?_ (fun wx h=>by have y0:=(Dg.cell_row h.box 0).trans rfl;go_simp);refine tK 1 23 (.slice fa n fc) 6 rfl hS0 ?_;refine tV 3 25 (.agg #[.slice ia n ic]) 5 rfl hS0 ?_ (fun wx h=>by have y0:=(Dg.cell_row h.box 0).trans rfl;go_simp);refine tK 4 26 (.slice fa n fc) 4 rfl hS0 ?_;refine oneX (β:=Option Addr × Nat) (V:=fun y=> .slice y.1 m1 y.2) (R:=fun y w'=>WkS its w s (.slice ia n ic) m (.slice fa n fc) w'∧RK w' (.slice y.1 m1 y.2) (mayL its m)) (i:=2) (d:=24) (f:=9) (args:= #[.agg #[.slice ia n ic],.slice fa n fc]) (fuel:=3) rfl rfl (by kernel_rfl) (by kernel_rfl) (fun _=>by kernel_rfl) (HMY.out _ hS0) (fun y w' h=>h.1) (fun y wz2 hR2=>?_);simp only[jA,jB,jC];refine oneX (β:=Option Addr × Nat) (V:=fun x=> .slice x.1 m2 x.2) (R:=fun x w'=>WkS its w s (.slice ia n ic) m (.slice fa n fc) w'∧RK w' (.slice y.1 m1 y.2) (mayL its m)∧RK w' (.slice x.1 m2 x.2) (openL its m)) (i:=5) (d:=27) (f:=10) (args:= #[.agg #[.slice ia n ic],.slice fa n fc]) (fuel:=2) rfl rfl (by kernel_rfl) (by kernel_rfl) (fun _=>by kernel_rfl) (HOP.out _ y hR2) (fun x w' h=>h.1) (fun x wz5 hR5=>?_);simp only[jA,jB,jC];refine tK 6 8 (.slice y.1 m1 y.2) 1 rfl (hR5.1) ?_;refine tK 7 9 (.slice x.1 m2 x.2) 0 rfl (hR5.1) ?_;refine wpAnyH_done (by kernel_rfl) ?_ _;exact⟨rfl,(y,x),by kernel_rfl,hR5⟩
   ·rintro⟨⟨ya,yc⟩,oa,oc⟩ w9 hF
    simp only[setAll,jA,jB,jC];have HF9:Hid _:=hF;have z9:=(Dg.cell_row hF.1.box 0).trans rfl;clear hF hS0 HMY HOP z0 HM
    by_cases hz:m1+m2=0
    ·obtain rfl:m1=0:=by omega
     obtain rfl:m2=0:=by omega
     have HV:Hid _:=Verdict_any (HPF.out m _ w9 HF9.out.1);have hv1:verS its m≠1:=fun h=>by
      rcases (task_goes HF9.out.1.good).1 h with h9 | h9
      ·exact h9 (List.length_eq_zero_iff.1 HM1.out)
      ·exact h9 (List.length_eq_zero_iff.1 HM2.out)
     have hv2:(verS its m !=1)=true:=by simpa using hv1
     generalize verS its m=vd at *
     go_wp2_with fail
     refine Calls.mono HV.out ?_;rintro e w10 ⟨rfl,hb10⟩;have HF10:Hid _:=HF9.out.1.later hb10;clear HV hb10 z9 HF9
     go_wp2_with fail
     rw[HR.out]
     exact⟨HF10.out.bel,_,m,rfl,HF10.out.good,HF10.out.rf⟩
    ·obtain⟨p,hp⟩:∃p,L[i]? =some p:=⟨_,jF (by rw[HNL.out];exact hlt)⟩
     obtain⟨pa,pc,epk,_,hpk⟩:=HPK.out w9 HF9.out.1.bel
     rw[HNL.out] at epk
     injection epk with ep1 _ ep3
     subst ep1;obtain⟨pb,po,rfl,p0,p1⟩:=hpk i p hp
     obtain⟨kq,hkq,hmod⟩:=pick_mod p.1 (m1+m2) (by omega)
     have hmod2:(IntKind.u64.wrap p.1).tmod ((m1:Int)+ (m2:Int))=(kq:Int):=by
      rw[←hmod]
      congr 1
     have hnz:¬(m1:Int)+ (m2:Int)=0:=by omega
     have hnz2:((m1:Int)+ (m2:Int)==0)=false:=by simpa using hnz
     have hnz3:decide ((m1:Int)+ (m2:Int)=0)=false:=decide_eq_false hnz;have HMX:Hid (∀wx,WkS its w s (.slice ia n ic) m (.slice fa n fc) wx→∃b off,some (⟨pb,po,none⟩:Addr)=some ⟨b,off,none⟩∧wx.cell? ⟨b,off+i * 2,none⟩=some (.int .i64 p.1)∧wx.cell? ⟨b,off+i * 2+1,none⟩=some (.bool p.2)):=fun wx h=>by
      obtain⟨a,c,e,_,hr⟩:=HPK.out wx h.bel
      obtain⟨b,off,ha,q0,q1⟩:=hr i p hp
      injection e with e1
      exact⟨b,off,e1.trans ha,q0,q1⟩
     by_cases hkm:kq < m1
     ·have hkmi:(kq:Int) < (m1:Int):=by omega
      obtain⟨⟨ki,ku,kt⟩,hk⟩:∃x,(mayL its m)[kq]? =some x:=⟨_,jF (by rw[HM1.out];exact hkm)⟩
      have HMEM:Hid ((ki,ku,kt)∈mayL its m):=jV hk;obtain⟨a9,c9,e9,_,_,hr9⟩:=HF9.out.2.1
      injection e9 with e91 e92 e93
      obtain⟨kb,ko,ha9,_⟩:=hr9 kq _ hk
      obtain rfl:=e91.trans ha9;have HKC:Hid (∀wx,RK wx (.slice (some ⟨kb,ko,none⟩) m1 yc) (mayL its m)→wx.cell? ⟨kb,ko+kq * 3,none⟩=some (.int .i64 (ki:Int))∧wx.cell? ⟨kb,ko+kq * 3+1,none⟩=some (.bool ku)∧wx.cell? ⟨kb,ko+kq * 3+2,none⟩=some (.int .i64 kt)):=fun wx h=>by
       obtain⟨a,cap,e,_,_,hr⟩:=h
       injection e with e1
       obtain⟨b,o,ha,q0,q1,q2⟩:=hr kq _ hk
       have h7:=e1.trans ha
       injection h7 with h8
       injection h8 with h9 h10
       subst h9;subst h10;exact⟨q0,q1,q2⟩
      clear hr9 hk e92 e93
      go_wp2_with fail
      have hS0:WkS its w s (.slice ia n ic) m (.slice fa n fc) w9.drew∧RK w9.drew (.slice (some ⟨kb,ko,none⟩) m1 yc) (mayL its m):=⟨HF9.out.1.later (Below.refl _ _).drew,HF9.out.2.1.later (Below.refl _ _).drew⟩;have HBG:Hid (∀wx,WkS its w s (.slice ia n ic) m (.slice fa n fc) wx∧RK wx (.slice (some ⟨kb,ko,none⟩) m1 yc) (mayL its m)→Calls Tryz.prog 17 #[.agg #[.slice ia n ic],.slice fa n fc,.agg #[.int .i64 (ki:Int),.bool ku,.int .i64 kt]] wx fun e w'=>∃u,e= .returned (.tuple #[u,.int .i64 0])∧WkS its w s (.slice ia n ic) (m.set ki (begF (fOf m ki) ku)) u w'∧WkS its w s (.slice ia n ic) m (.slice fa n fc) w'∧RK w' (.slice (some ⟨kb,ko,none⟩) m1 yc) (mayL its m)):=fun wx h=>Calls.mono (Begin_any (HPF.out m _ wx h.1) (ki,ku,kt) HMEM.out) (by
       rintro e w' ⟨hb,u,rfl,hr⟩;have h1:=h.1.later hb;exact⟨u,rfl,⟨h1.bel,h1.box,beg_good h1.good HMEM.out,hr⟩,h1,h.2.later hb⟩)
      refine region_thenG (β:=Value) (fun z=>[(55,.agg #[.slice ia n ic]),(56,.slice fa n fc),(57,.slice (some ⟨kb,ko,none⟩) m1 yc),(58,.int .i64 (kq:Int)),(59,.pointer (some ⟨kb,ko+kq * 3,none⟩)),(60,.agg #[.int .i64 (ki:Int),.bool ku,.int .i64 kt]),(61,.tuple #[z,.int .i64 0]),(54,.tuple #[z,.int .i64 0]),(62,z),(63,.int .i64 0),(6,z),(12,.int .i64 0)]) (fun z w'=>WkS its w s (.slice ia n ic) (m.set ki (begF (fOf m ki) ku)) z w') ?_ ?_
      ·refine wp_region_held (S:=fun w'=>WkS its w s (.slice ia n ic) m (.slice fa n fc) w'∧RK w' (.slice (some ⟨kb,ko,none⟩) m1 yc) (mayL its m)) (by kernel_rfl) ?_;simp only[jN,jM,jP,Nat.reduceAdd,jI,jJ,jO,jL,jK];refine tV 0 55 (.agg #[.slice ia n ic]) 11 rfl hS0 ?_ (fun wx h=>by have y0:=(Dg.cell_row h.1.box 0).trans rfl;go_simp);refine tK 1 56 (.slice fa n fc) 10 rfl hS0 ?_;refine tK 2 57 (.slice (some ⟨kb,ko,none⟩) m1 yc) 9 rfl hS0 ?_;refine tK 3 58 (.int .i64 (kq:Int)) 8 rfl hS0 ?_;refine tG 4 59 (.pointer (some ⟨kb,ko+kq * 3,none⟩)) 7 rfl hS0 ?_;refine tV 5 60 (.agg #[.int .i64 (ki:Int),.bool ku,.int .i64 kt]) 6 rfl hS0 ?_ (fun wx h=>by obtain⟨y0,y1,y2⟩:=HKC.out wx h.2;go_simp);refine oneX (β:=Value) (V:=fun u=> .tuple #[u,.int .i64 0]) (R:=fun u w'=>WkS its w s (.slice ia n ic) (m.set ki (begF (fOf m ki) ku)) u w'∧WkS its w s (.slice ia n ic) m (.slice fa n fc) w'∧RK w' (.slice (some ⟨kb,ko,none⟩) m1 yc) (mayL its m)) (i:=6) (d:=61) (f:=17) (args:= #[.agg #[.slice ia n ic],.slice fa n fc,.agg #[.int .i64 (ki:Int),.bool ku,.int .i64 kt]]) (fuel:=5) rfl rfl (by kernel_rfl) (by kernel_rfl) (fun _=>by kernel_rfl) (HBG.out _ hS0) (fun u w' h=>h.2) (fun u wz6 hR6=>?_);simp only[jA,jB,jC];refine tK 7 54 (.tuple #[u,.int .i64 0]) 4 rfl (hR6.2) ?_;refine tK 8 62 u 3 rfl (hR6.2) ?_;refine tK 9 63 (.int .i64 0) 2 rfl (hR6.2) ?_;refine tK 10 6 u 1 rfl (hR6.2) ?_;refine tK 11 12 (.int .i64 0) 0 rfl (hR6.2) ?_;refine wpAnyH_done (by kernel_rfl) ?_ _;exact⟨rfl,u,by kernel_rfl,hR6.1⟩
      ·intro u w10 hF;have HFA:Hid _:=hF;simp only[setAll,jA,jB,jC];clear hF hS0 HBG HKC p0 p1 z9 HF9 hnz hnz2 hnz3 hmod hmod2
       go_wp2_with fail
       go_roundw
       case rel=>exact⟨i+1,_,by omega,by go_num,HFA⟩
       case measure=>simp[intOf] <;> omega
     ·obtain⟨kr,rfl⟩:∃kr,kq=m1+kr:=⟨kq - m1,by omega⟩
      have hkmi:¬((m1+kr:Nat):Int) < (m1:Int):=by omega
      have hkmi2:¬(m1:Int)+ (kr:Int) < (m1:Int):=by omega
      have hkr:kr < m2:=by omega
      have hkri:(kr:Int) < (m2:Int):=by omega
      have hsub:((m1+kr:Nat):Int) - (m1:Int)=(kr:Int):=by omega
      have hsub2:(m1:Int)+ (kr:Int) - (m1:Int)=(kr:Int):=by omega
      obtain⟨⟨ki,ku,kt⟩,hk⟩:∃x,(openL its m)[kr]? =some x:=⟨_,jF (by rw[HM2.out];exact hkr)⟩
      have HMEM:Hid ((ki,ku,kt)∈openL its m):=jV hk;obtain⟨a9,c9,e9,_,_,hr9⟩:=HF9.out.2.2
      injection e9 with e91 e92 e93
      obtain⟨kb,ko,ha9,k0,k1,k2⟩:=hr9 kr _ hk
      obtain rfl:=e91.trans ha9;clear hr9 hk e92 e93
      go_wp2_with fail
      obtain⟨okb,hok⟩:∃okb,p.2=okb:=⟨_,rfl⟩
      have HPC:Hid (∀wx,WkS its w s (.slice ia n ic) m (.slice fa n fc) wx→wx.cell? ⟨pb,po+i * 2+1,none⟩=some (.bool okb)):=fun wx h=>by
       obtain⟨b,o,e,_,q1⟩:=HMX.out wx h
       injection e with h8
       injection h8 with h9 h10
       rw[h9,h10,←hok]
       exact q1
      have hx10:=Dg.row_new w9 #[.int .i64 (ki:Int),.bool ku,.int .i64 kt] 47;have hF10:=HF9.out.1.later (bl1 w9 (.cells #[.int .i64 (ki:Int),.bool ku,.int .i64 kt] 47));generalize w9.alloc (.cells #[.int .i64 (ki:Int),.bool ku,.int .i64 kt] 47)=w10 at *;generalize w9.heap.size=xb at *;have hS0:WkS its w s (.slice ia n ic) m (.slice fa n fc) w10.drew∧w10.drew.heap[xb]? =some (.cells #[.int .i64 (ki:Int),.bool ku,.int .i64 kt] 47 (0,0)):=⟨hF10.later (Below.refl _ _).drew,hx10⟩;clear hF10 hx10 k0 k1 k2 p0 p1 z9 hnz hnz2 hnz3 hmod hmod2 hok HF9;have HEN:Hid (∀(ok:Bool),(ku=true→ok=false→kt≠3)→∀wx,WkS its w s (.slice ia n ic) m (.slice fa n fc) wx∧wx.heap[xb]? =some (.cells #[.int .i64 (ki:Int),.bool ku,.int .i64 kt] 47 (0,0))→Calls Tryz.prog 18 #[.agg #[.slice ia n ic],.slice fa n fc,.agg #[.int .i64 (ki:Int),.bool ku,.int .i64 kt],.bool ok] wx fun e w'=>∃u,e= .returned (.tuple #[u,.int .i64 0])∧WkS its w s (.slice ia n ic) (m.set ki (endF (fOf m ki) ku ok)) u w'∧WkS its w s (.slice ia n ic) m (.slice fa n fc) w'∧w'.heap[xb]? =some (.cells #[.int .i64 (ki:Int),.bool ku,.int .i64 kt] 47 (0,0))):=fun ok h3 wx h=>Calls.mono (End_any (HPF.out m _ wx h.1) (ki,ku,kt) ok HMEM.out h3) (by
       rintro e w' ⟨hb,u,rfl,hr⟩;have h1:=h.1.later hb;exact⟨u,rfl,⟨h1.bel,h1.box,end_good h1.good HMEM.out h3,hr⟩,h1,(hb.block _ (jD.1 h.2).1).trans h.2⟩)
      clear HMEM;cases okb with
      | true=>
       have h3:ku=true→true=false→kt≠3:=fun _ h=>by cases h
       refine region_thenG (β:=Value) (fun z=>[(72,.agg #[.slice ia n ic]),(73,.slice fa n fc),(74,.agg #[.int .i64 (ki:Int),.bool ku,.int .i64 kt]),(75,.slice (some ⟨pb,po,none⟩) nL lc),(76,.int .i64 (i:Int)),(77,.pointer (some ⟨pb,po+i * 2,none⟩)),(78,.pointer (some ⟨pb,po+i * 2+1,none⟩)),(79,.bool true),(80,.bool true),(81,undef),(82,undef),(83,undef),(84,undef),(85,undef),(86,undef),(87,undef),(88,.bool true),(89,.tuple #[z,.int .i64 0]),(71,.tuple #[z,.int .i64 0]),(90,z),(91,.int .i64 0),(6,z),(12,.int .i64 0)]) (fun z w'=>WkS its w s (.slice ia n ic) (m.set ki (endF (fOf m ki) ku true)) z w') ?_ ?_
       ·refine wp_region_held (S:=fun w'=>WkS its w s (.slice ia n ic) m (.slice fa n fc) w'∧w'.heap[xb]? =some (.cells #[.int .i64 (ki:Int),.bool ku,.int .i64 kt] 47 (0,0))) (by kernel_rfl) ?_;simp only[jN,jM,jP,Nat.reduceAdd,jI,jJ,jO,jL,jK];refine tV 0 72 (.agg #[.slice ia n ic]) 22 rfl hS0 ?_ (fun wx h=>by have y0:=(Dg.cell_row h.1.box 0).trans rfl;go_simp);refine tK 1 73 (.slice fa n fc) 21 rfl hS0 ?_;refine tV 2 74 (.agg #[.int .i64 (ki:Int),.bool ku,.int .i64 kt]) 20 rfl hS0 ?_ (fun wx h=>by have y0:=(Dg.cell_row h.2 0).trans rfl;have y1:=(Dg.cell_row h.2 1).trans rfl;have y2:=(Dg.cell_row h.2 2).trans rfl;go_simp);refine tK 3 75 (.slice (some ⟨pb,po,none⟩) nL lc) 19 rfl hS0 ?_;refine tK 4 76 (.int .i64 (i:Int)) 18 rfl hS0 ?_;refine tG 5 77 (.pointer (some ⟨pb,po+i * 2,none⟩)) 17 rfl hS0 ?_;refine tG 6 78 (.pointer (some ⟨pb,po+i * 2+1,none⟩)) 16 rfl hS0 ?_;refine tV 7 79 (.bool true) 15 rfl hS0 ?_ (fun wx h=>by have y0:=HPC.out wx h.1;go_simp);refine tK 8 80 (.bool true) 14 rfl hS0 ?_;refine tU 9 81 13 rfl hS0 ?_;refine tU 10 82 12 rfl hS0 ?_;refine tU 11 83 11 rfl hS0 ?_;refine tU 12 84 10 rfl hS0 ?_;refine tU 13 85 9 rfl hS0 ?_;refine tU 14 86 8 rfl hS0 ?_;refine tU 15 87 7 rfl hS0 ?_;refine tK 16 88 (.bool true) 6 rfl hS0 ?_;refine oneX (β:=Value) (V:=fun u=> .tuple #[u,.int .i64 0]) (R:=fun u w'=>WkS its w s (.slice ia n ic) (m.set ki (endF (fOf m ki) ku true)) u w'∧WkS its w s (.slice ia n ic) m (.slice fa n fc) w'∧w'.heap[xb]? =some (.cells #[.int .i64 (ki:Int),.bool ku,.int .i64 kt] 47 (0,0))) (i:=17) (d:=89) (f:=18) (args:= #[.agg #[.slice ia n ic],.slice fa n fc,.agg #[.int .i64 (ki:Int),.bool ku,.int .i64 kt],.bool true]) (fuel:=5) rfl rfl (by kernel_rfl) (by kernel_rfl) (fun _=>by kernel_rfl) (HEN.out true h3 _ hS0) (fun u w' h=>h.2) (fun u wz17 hR17=>?_);simp only[jA,jB,jC];refine tK 18 71 (.tuple #[u,.int .i64 0]) 4 rfl (hR17.2) ?_;refine tK 19 90 u 3 rfl (hR17.2) ?_;refine tK 20 91 (.int .i64 0) 2 rfl (hR17.2) ?_;refine tK 21 6 u 1 rfl (hR17.2) ?_;refine tK 22 12 (.int .i64 0) 0 rfl (hR17.2) ?_;refine wpAnyH_done (by kernel_rfl) ?_ _;exact⟨rfl,u,by kernel_rfl,hR17.1⟩
       ·intro u w11 hF;have HFA:Hid _:=hF;simp only[setAll,jA,jB,jC];clear hF hS0 HEN HPC
        go_wp2_with fail
        go_roundw
        case rel=>exact⟨i+1,_,by omega,by go_num,HFA⟩
        case measure=>simp[intOf] <;> omega
      | false=>
       cases ku with
       | false=>
        have h3:false=true→false=false→kt≠3:=fun h=>by cases h
        refine region_thenG (β:=Value) (fun z=>[(72,.agg #[.slice ia n ic]),(73,.slice fa n fc),(74,.agg #[.int .i64 (ki:Int),.bool false,.int .i64 kt]),(75,.slice (some ⟨pb,po,none⟩) nL lc),(76,.int .i64 (i:Int)),(77,.pointer (some ⟨pb,po+i * 2,none⟩)),(78,.pointer (some ⟨pb,po+i * 2+1,none⟩)),(79,.bool false),(80,.bool false),(81,.pointer (some ⟨xb,1,none⟩)),(82,.bool false),(83,.bool false),(84,undef),(85,undef),(86,undef),(87,.bool false),(88,.bool false),(89,.tuple #[z,.int .i64 0]),(71,.tuple #[z,.int .i64 0]),(90,z),(91,.int .i64 0),(6,z),(12,.int .i64 0)]) (fun z w'=>WkS its w s (.slice ia n ic) (m.set ki (endF (fOf m ki) false false)) z w') ?_ ?_
        ·refine wp_region_held (S:=fun w'=>WkS its w s (.slice ia n ic) m (.slice fa n fc) w'∧w'.heap[xb]? =some (.cells #[.int .i64 (ki:Int),.bool false,.int .i64 kt] 47 (0,0))) (by kernel_rfl) ?_;simp only[jN,jM,jP,Nat.reduceAdd,jI,jJ,jO,jL,jK];refine tV 0 72 (.agg #[.slice ia n ic]) 22 rfl hS0 ?_ (fun wx h=>by have y0:=(Dg.cell_row h.1.box 0).trans rfl;go_simp);refine tK 1 73 (.slice fa n fc) 21 rfl hS0 ?_;refine tV 2 74 (.agg #[.int .i64 (ki:Int),.bool false,.int .i64 kt]) 20 rfl hS0 ?_ (fun wx h=>by have y0:=(Dg.cell_row h.2 0).trans rfl;have y1:=(Dg.cell_row h.2 1).trans rfl;have y2:=(Dg.cell_row h.2 2).trans rfl;go_simp);refine tK 3 75 (.slice (some ⟨pb,po,none⟩) nL lc) 19 rfl hS0 ?_;refine tK 4 76 (.int .i64 (i:Int)) 18 rfl hS0 ?_;refine tG 5 77 (.pointer (some ⟨pb,po+i * 2,none⟩)) 17 rfl hS0 ?_;refine tG 6 78 (.pointer (some ⟨pb,po+i * 2+1,none⟩)) 16 rfl hS0 ?_;refine tV 7 79 (.bool false) 15 rfl hS0 ?_ (fun wx h=>by have y0:=HPC.out wx h.1;go_simp);refine tK 8 80 (.bool false) 14 rfl hS0 ?_;refine tG 9 81 (.pointer (some ⟨xb,1,none⟩)) 13 rfl hS0 ?_;refine tV 10 82 (.bool false) 12 rfl hS0 ?_ (fun wx h=>by have y0:=(Dg.cell_row h.2 0).trans rfl;have y1:=(Dg.cell_row h.2 1).trans rfl;have y2:=(Dg.cell_row h.2 2).trans rfl;go_simp);refine tK 11 83 (.bool false) 11 rfl hS0 ?_;refine tU 12 84 10 rfl hS0 ?_;refine tU 13 85 9 rfl hS0 ?_;refine tU 14 86 8 rfl hS0 ?_;refine tK 15 87 (.bool false) 7 rfl hS0 ?_;refine tK 16 88 (.bool false) 6 rfl hS0 ?_;refine oneX (β:=Value) (V:=fun u=> .tuple #[u,.int .i64 0]) (R:=fun u w'=>WkS its w s (.slice ia n ic) (m.set ki (endF (fOf m ki) false false)) u w'∧WkS its w s (.slice ia n ic) m (.slice fa n fc) w'∧w'.heap[xb]? =some (.cells #[.int .i64 (ki:Int),.bool false,.int .i64 kt] 47 (0,0))) (i:=17) (d:=89) (f:=18) (args:= #[.agg #[.slice ia n ic],.slice fa n fc,.agg #[.int .i64 (ki:Int),.bool false,.int .i64 kt],.bool false]) (fuel:=5) rfl rfl (by kernel_rfl) (by kernel_rfl) (fun _=>by kernel_rfl) (HEN.out false h3 _ hS0) (fun u w' h=>h.2) (fun u wz17 hR17=>?_);simp only[jA,jB,jC];refine tK 18 71 (.tuple #[u,.int .i64 0]) 4 rfl (hR17.2) ?_;refine tK 19 90 u 3 rfl (hR17.2) ?_;refine tK 20 91 (.int .i64 0) 2 rfl (hR17.2) ?_;refine tK 21 6 u 1 rfl (hR17.2) ?_;refine tK 22 12 (.int .i64 0) 0 rfl (hR17.2) ?_;refine wpAnyH_done (by kernel_rfl) ?_ _;exact⟨rfl,u,by kernel_rfl,hR17.1⟩
        ·intro u w11 hF;have HFA:Hid _:=hF;simp only[setAll,jA,jB,jC];clear hF hS0 HEN HPC
         go_wp2_with fail
         go_roundw
         case rel=>exact⟨i+1,_,by omega,by go_num,HFA⟩
         case measure=>simp[intOf] <;> omega
       | true=>
        by_cases hkt:3≤kt
        ·have h3:true=true→true=false→kt≠3:=fun _ h=>by cases h
         refine region_thenG (β:=Value) (fun z=>[(72,.agg #[.slice ia n ic]),(73,.slice fa n fc),(74,.agg #[.int .i64 (ki:Int),.bool true,.int .i64 kt]),(75,.slice (some ⟨pb,po,none⟩) nL lc),(76,.int .i64 (i:Int)),(77,.pointer (some ⟨pb,po+i * 2,none⟩)),(78,.pointer (some ⟨pb,po+i * 2+1,none⟩)),(79,.bool false),(80,.bool false),(81,.pointer (some ⟨xb,1,none⟩)),(82,.bool true),(83,.bool true),(84,.pointer (some ⟨xb,2,none⟩)),(85,.int .i64 kt),(86,.bool true),(87,.bool true),(88,.bool true),(89,.tuple #[z,.int .i64 0]),(71,.tuple #[z,.int .i64 0]),(90,z),(91,.int .i64 0),(6,z),(12,.int .i64 0)]) (fun z w'=>WkS its w s (.slice ia n ic) (m.set ki (endF (fOf m ki) true true)) z w') ?_ ?_
         ·refine wp_region_held (S:=fun w'=>WkS its w s (.slice ia n ic) m (.slice fa n fc) w'∧w'.heap[xb]? =some (.cells #[.int .i64 (ki:Int),.bool true,.int .i64 kt] 47 (0,0))) (by kernel_rfl) ?_;simp only[jN,jM,jP,Nat.reduceAdd,jI,jJ,jO,jL,jK];refine tV 0 72 (.agg #[.slice ia n ic]) 22 rfl hS0 ?_ (fun wx h=>by have y0:=(Dg.cell_row h.1.box 0).trans rfl;go_simp);refine tK 1 73 (.slice fa n fc) 21 rfl hS0 ?_;refine tV 2 74 (.agg #[.int .i64 (ki:Int),.bool true,.int .i64 kt]) 20 rfl hS0 ?_ (fun wx h=>by have y0:=(Dg.cell_row h.2 0).trans rfl;have y1:=(Dg.cell_row h.2 1).trans rfl;have y2:=(Dg.cell_row h.2 2).trans rfl;go_simp);refine tK 3 75 (.slice (some ⟨pb,po,none⟩) nL lc) 19 rfl hS0 ?_;refine tK 4 76 (.int .i64 (i:Int)) 18 rfl hS0 ?_;refine tG 5 77 (.pointer (some ⟨pb,po+i * 2,none⟩)) 17 rfl hS0 ?_;refine tG 6 78 (.pointer (some ⟨pb,po+i * 2+1,none⟩)) 16 rfl hS0 ?_;refine tV 7 79 (.bool false) 15 rfl hS0 ?_ (fun wx h=>by have y0:=HPC.out wx h.1;go_simp);refine tK 8 80 (.bool false) 14 rfl hS0 ?_;refine tG 9 81 (.pointer (some ⟨xb,1,none⟩)) 13 rfl hS0 ?_;refine tV 10 82 (.bool true) 12 rfl hS0 ?_ (fun wx h=>by have y0:=(Dg.cell_row h.2 0).trans rfl;have y1:=(Dg.cell_row h.2 1).trans rfl;have y2:=(Dg.cell_row h.2 2).trans rfl;go_simp);refine tK 11 83 (.bool true) 11 rfl hS0 ?_;refine tG 12 84 (.pointer (some ⟨xb,2,none⟩)) 10 rfl hS0 ?_;refine tV 13 85 (.int .i64 kt) 9 rfl hS0 ?_ (fun wx h=>by have y0:=(Dg.cell_row h.2 0).trans rfl;have y1:=(Dg.cell_row h.2 1).trans rfl;have y2:=(Dg.cell_row h.2 2).trans rfl;go_simp);refine tG 14 86 (.bool true) 8 rfl hS0 ?_;refine tK 15 87 (.bool true) 7 rfl hS0 ?_;refine tK 16 88 (.bool true) 6 rfl hS0 ?_;refine oneX (β:=Value) (V:=fun u=> .tuple #[u,.int .i64 0]) (R:=fun u w'=>WkS its w s (.slice ia n ic) (m.set ki (endF (fOf m ki) true true)) u w'∧WkS its w s (.slice ia n ic) m (.slice fa n fc) w'∧w'.heap[xb]? =some (.cells #[.int .i64 (ki:Int),.bool true,.int .i64 kt] 47 (0,0))) (i:=17) (d:=89) (f:=18) (args:= #[.agg #[.slice ia n ic],.slice fa n fc,.agg #[.int .i64 (ki:Int),.bool true,.int .i64 kt],.bool true]) (fuel:=5) rfl rfl (by kernel_rfl) (by kernel_rfl) (fun _=>by kernel_rfl) (HEN.out true h3 _ hS0) (fun u w' h=>h.2) (fun u wz17 hR17=>?_);simp only[jA,jB,jC];refine tK 18 71 (.tuple #[u,.int .i64 0]) 4 rfl (hR17.2) ?_;refine tK 19 90 u 3 rfl (hR17.2) ?_;refine tK 20 91 (.int .i64 0) 2 rfl (hR17.2) ?_;refine tK 21 6 u 1 rfl (hR17.2) ?_;refine tK 22 12 (.int .i64 0) 0 rfl (hR17.2) ?_;refine wpAnyH_done (by kernel_rfl) ?_ _;exact⟨rfl,u,by kernel_rfl,hR17.1⟩
         ·intro u w11 hF;have HFA:Hid _:=hF;simp only[setAll,jA,jB,jC];clear hF hS0 HEN HPC
          go_wp2_with fail
          go_roundw
          case rel=>exact⟨i+1,_,by omega,by go_num,HFA⟩
          case measure=>simp[intOf] <;> omega
        ·have h3:true=true→false=false→kt≠3:=fun _ _=>by omega
         refine region_thenG (β:=Value) (fun z=>[(72,.agg #[.slice ia n ic]),(73,.slice fa n fc),(74,.agg #[.int .i64 (ki:Int),.bool true,.int .i64 kt]),(75,.slice (some ⟨pb,po,none⟩) nL lc),(76,.int .i64 (i:Int)),(77,.pointer (some ⟨pb,po+i * 2,none⟩)),(78,.pointer (some ⟨pb,po+i * 2+1,none⟩)),(79,.bool false),(80,.bool false),(81,.pointer (some ⟨xb,1,none⟩)),(82,.bool true),(83,.bool true),(84,.pointer (some ⟨xb,2,none⟩)),(85,.int .i64 kt),(86,.bool false),(87,.bool false),(88,.bool false),(89,.tuple #[z,.int .i64 0]),(71,.tuple #[z,.int .i64 0]),(90,z),(91,.int .i64 0),(6,z),(12,.int .i64 0)]) (fun z w'=>WkS its w s (.slice ia n ic) (m.set ki (endF (fOf m ki) true false)) z w') ?_ ?_
         ·refine wp_region_held (S:=fun w'=>WkS its w s (.slice ia n ic) m (.slice fa n fc) w'∧w'.heap[xb]? =some (.cells #[.int .i64 (ki:Int),.bool true,.int .i64 kt] 47 (0,0))) (by kernel_rfl) ?_;simp only[jN,jM,jP,Nat.reduceAdd,jI,jJ,jO,jL,jK];refine tV 0 72 (.agg #[.slice ia n ic]) 22 rfl hS0 ?_ (fun wx h=>by have y0:=(Dg.cell_row h.1.box 0).trans rfl;go_simp);refine tK 1 73 (.slice fa n fc) 21 rfl hS0 ?_;refine tV 2 74 (.agg #[.int .i64 (ki:Int),.bool true,.int .i64 kt]) 20 rfl hS0 ?_ (fun wx h=>by have y0:=(Dg.cell_row h.2 0).trans rfl;have y1:=(Dg.cell_row h.2 1).trans rfl;have y2:=(Dg.cell_row h.2 2).trans rfl;go_simp);refine tK 3 75 (.slice (some ⟨pb,po,none⟩) nL lc) 19 rfl hS0 ?_;refine tK 4 76 (.int .i64 (i:Int)) 18 rfl hS0 ?_;refine tG 5 77 (.pointer (some ⟨pb,po+i * 2,none⟩)) 17 rfl hS0 ?_;refine tG 6 78 (.pointer (some ⟨pb,po+i * 2+1,none⟩)) 16 rfl hS0 ?_;refine tV 7 79 (.bool false) 15 rfl hS0 ?_ (fun wx h=>by have y0:=HPC.out wx h.1;go_simp);refine tK 8 80 (.bool false) 14 rfl hS0 ?_;refine tG 9 81 (.pointer (some ⟨xb,1,none⟩)) 13 rfl hS0 ?_;refine tV 10 82 (.bool true) 12 rfl hS0 ?_ (fun wx h=>by have y0:=(Dg.cell_row h.2 0).trans rfl;have y1:=(Dg.cell_row h.2 1).trans rfl;have y2:=(Dg.cell_row h.2 2).trans rfl;go_simp);refine tK 11 83 (.bool true) 11 rfl hS0 ?_;refine tG 12 84 (.pointer (some ⟨xb,2,none⟩)) 10 rfl hS0 ?_;refine tV 13 85 (.int .i64 kt) 9 rfl hS0 ?_ (fun wx h=>by have y0:=(Dg.cell_row h.2 0).trans rfl;have y1:=(Dg.cell_row h.2 1).trans rfl;have y2:=(Dg.cell_row h.2 2).trans rfl;go_simp);refine tG 14 86 (.bool false) 8 rfl hS0 ?_;refine tK 15 87 (.bool false) 7 rfl hS0 ?_;refine tK 16 88 (.bool false) 6 rfl hS0 ?_;refine oneX (β:=Value) (V:=fun u=> .tuple #[u,.int .i64 0]) (R:=fun u w'=>WkS its w s (.slice ia n ic) (m.set ki (endF (fOf m ki) true false)) u w'∧WkS its w s (.slice ia n ic) m (.slice fa n fc) w'∧w'.heap[xb]? =some (.cells #[.int .i64 (ki:Int),.bool true,.int .i64 kt] 47 (0,0))) (i:=17) (d:=89) (f:=18) (args:= #[.agg #[.slice ia n ic],.slice fa n fc,.agg #[.int .i64 (ki:Int),.bool true,.int .i64 kt],.bool false]) (fuel:=5) rfl rfl (by kernel_rfl) (by kernel_rfl) (fun _=>by kernel_rfl) (HEN.out false h3 _ hS0) (fun u w' h=>h.2) (fun u wz17 hR17=>?_);simp only[jA,jB,jC];refine tK 18 71 (.tuple #[u,.int .i64 0]) 4 rfl (hR17.2) ?_;refine tK 19 90 u 3 rfl (hR17.2) ?_;refine tK 20 91 (.int .i64 0) 2 rfl (hR17.2) ?_;refine tK 21 6 u 1 rfl (hR17.2) ?_;refine tK 22 12 (.int .i64 0) 0 rfl (hR17.2) ?_;refine wpAnyH_done (by kernel_rfl) ?_ _;exact⟨rfl,u,by kernel_rfl,hR17.1⟩
         ·intro u w11 hF;have HFA:Hid _:=hF;simp only[setAll,jA,jB,jC];clear hF hS0 HEN HPC
          go_wp2_with fail
          go_roundw
          case rel=>exact⟨i+1,_,by omega,by go_num,HFA⟩
          case measure=>simp[intOf] <;> omega
end Go.Proofs.YtieoppabellafaaGreatDoor.Ts
namespace Go.Proofs.YtieoppabellafaaGreatDoor.Ts
open Go.ChangeShapes Go.WideShapes Go.ChangeAt Go.RowKit
theorem Tryz.cells69:Tryz.prog.cellsOf 69=2:=by kernel_rfl
theorem Tryz.cells3p:Tryz.prog.cellsOf 3=1:=by kernel_rfl
theorem Tryz.cells4p:Tryz.prog.cellsOf 4=1:=by kernel_rfl
variable {H:Type}{enc:TypeId × Value→H}{w:World}{base:Nat}{spare:Nat→Bool}{held:Bool}
theorem open_pick {fuel:Nat}{cs:List Value}{x:DataW H × List MemPlace}(h:DataW.trod enc Tryz.prog w base spare held fuel 69 cs=some x):∃(n:Int) (b:Bool),cs=[.int .i64 n,.bool b]:=by
 obtain⟨xs,n',hn',_,hcl,hxl,hfs⟩:=DataW.trod_struct Tryz.underlying69 h
 rw[Tryz.cells69] at hcl
 have hx2:xs.length=2:=by simpa using hxl
 match cs,hcl with
 | [v0,v1],_=>
  have g0:=hfs 0 _ rfl;have g1:=hfs 1 _ rfl;simp[Tryz.cells3p] at g0
  simp[Tryz.cells4p] at g1
  rw[jF (by omega)] at g0 g1
  obtain⟨n0,e0,_,z0⟩:=DataW.trod_int Tryz.underlying3 g0
  obtain⟨n1,e1,_⟩:=DataW.trod_bool Tryz.underlying4 g1
  simp only[List.cons.injEq,and_true] at e0 e1;subst e0 e1;exact⟨n0,n1,rfl⟩
theorem open_picks {fuel:Nat}{a:Option Addr}{len cap:Nat}{x:DataW H × List MemPlace}
  (h:DataW.trod enc Tryz.prog w base spare held fuel 25 [.slice a len cap]=some x):∃L,PkR w (.slice a len cap) L∧L.length≤maxLen:=by
 rcases Go.Deep.open_slice Tryz.underlying25 h with ⟨hcs,_⟩ | ⟨ad,l2,c2,m,n,D,Pl,hcs,hb,hl,hm,hmm,rfl,hx⟩
 ·simp at hcs;obtain⟨rfl,rfl,rfl⟩:=hcs
  exact⟨[],⟨none,0,rfl,jG _,by simp⟩,by unfold maxLen;simp⟩
 ·simp at hcs;obtain⟨rfl,rfl,rfl⟩:=hcs
  have hlm:len≤m:=by rw[hmm];split <;> omega
  have each:∀i,i < len→∃t:Int × Bool,w.cell? (ad.add (i * 2))=some (.int .i64 t.1)∧w.cell? (ad.add (i * 2+1))=some (.bool t.2):=by
   intro i hi;obtain⟨cs',h1,h2⟩:=hx i (by omega)
   rw[Tryz.cells69] at h1
   obtain⟨_,hlen,hcell⟩:=World.cells?_some h1
   obtain⟨n,b,rfl⟩:=open_pick h2
   have k0:=hcell 0 (by omega);have k1:=hcell 1 (by omega);rw[Go.Deep.add_add] at k0 k1
   exact⟨(n,b),by simpa using k0,by simpa using k1⟩
  obtain⟨q,hq⟩:=Go.Deep.choose_lt each
  refine⟨(List.range len).map fun i=>q i,⟨some ad,cap,by simp,by simpa using hl,fun i t hi=>?_⟩,by simp;omega⟩
  have hil:i < len:=by have:=(jH.1 hi).1;simpa using this
  have ht:t=q i:=by simp[hil] at hi;exact hi.symm
  subst ht;obtain⟨b,off,spot⟩:=ad
  have hspot:spot=none:=by simpa [Addr.add] using World.cell?_spot (hq 0 (by omega)).1
  subst hspot;obtain⟨a0,a1⟩:=hq i hil
  rw[add_plain] at a0 a1
  exact⟨b,off,rfl,a0,by rw[Nat.add_assoc];exact a1⟩
end Go.Proofs.YtieoppabellafaaGreatDoor.Ts
namespace Go.Proofs.YtieoppabellafaaGreatDoor.Ts
open Go.RowKit Go.Shelf Fc St Sx Sa
theorem goes_walk (x:By)(t:Tr)(a:Option Addr)(ac:Nat)(lv:Value)(L:List (Int × Bool))(w:World)(hT:Dg.Tab w)(hk:Kd true t)(hM:∀wx,Below w.heap.size w wx→Calls Tryz.prog 6 #[.agg #[.string ⟨x.toArray⟩,.slice a t.len ac]] wx fun e w'=>MakeC x t wx e w')(hFI:∀its,planT x t=some its→FairI its)(hL:PkR w lv L)(hlm:L.length≤maxLen) :
  Calls Tryz.prog 3 #[.agg #[.string ⟨x.toArray⟩,.slice a t.len ac],lv] w fun e w'=>e= .returned (.bool true)∧Below w.heap.size w w':=by
 obtain⟨R,HR⟩:∃R:Ending→World→Prop,Hid (R=fun e w'=>e= .returned (.bool true)∧Below w.heap.size w w'):=⟨_,rfl⟩
 have hb1:=bl1 w (.cells #[.string ⟨x.toArray⟩,.slice a t.len ac] 24);have HB1:Hid _:=hb1;have HMK:Hid _:=hM _ hb1;have HTB:Hid (∀wx,Below w.heap.size w wx→Dg.Tab wx):=fun wx hb=>hT.later hb
 have HPK:Hid (∀wx,Below w.heap.size w wx→PkR wx lv L):=fun wx hb=>hL.later hb
 have HFX:Hid _:=hFI;have HKD:Hid _:=hk;have c0:=(Dg.cell_row (Dg.row_new w #[.string ⟨x.toArray⟩,.slice a t.len ac] 24) 0).trans rfl;have c1:=(Dg.cell_row (Dg.row_new w #[.string ⟨x.toArray⟩,.slice a t.len ac] 24) 1).trans rfl;obtain⟨la,lc,rfl,hlc,_⟩:=hL
 obtain⟨nL,HNL⟩:∃nL,Hid (L.length=nL):=⟨_,rfl⟩
 obtain⟨tl,HTL⟩:∃tl,Hid (t.len=tl):=⟨_,rfl⟩
 unfold maxLen at hlm;rw[HNL.out] at hlc HPK hlm ⊢
 rw[HTL.out] at HMK HB1 c0 c1 ⊢
 clear hT hk hM hFI hb1
 go_enter Tryz.func3,Tryz.ntmps3
 go_wp2_with fail
 refine Calls.mono HMK.out ?_;rintro e w2 ⟨hb2,he⟩;have HB2:Hid (Below w.heap.size w w2):=HB1.out.trans (hb2.mono HB1.out.size);clear HMK hb2 c0 c1 HB1;cases hP:planT x t with
 | none=>
  rw[hP] at he
  obtain rfl:e= .returned (.tuple #[.agg #[.slice none 0 0],.int .i64 11]):=he;have HB3:Hid (Below w.heap.size w (w2.alloc (.cells #[.slice none 0 0] 28))):=HB2.out.alloc HB2.out.size _;clear hP
  go_wp2_with fail
  refine Calls.mono (lives_any _ (HTB.out _ HB3.out)) ?_;rintro e w4 ⟨rfl,hb4⟩;have HB4:Hid _:=HB3.out.trans (hb4.mono HB3.out.size);clear hb4
  go_wp2_with fail
  first
   | (go_ret;exact⟨rfl,HB4.out⟩)
   | exact⟨rfl,HB4.out⟩
 | some its=>
  rw[hP] at he
  obtain⟨v,rfl,hst⟩:=he
  have hsg:=saga_of_plan hP HKD.out;have HSG:Hid ((sagaP its).isSome=true):=by show _=_;rw[hsg];rfl
  have HFI:Hid _:=HFX.out its hP;have hrd:=hst.rd;have HIT:Hid (∀wx,Below w2.heap.size w2 wx→RdIt wx v its):=fun wx hb=>hrd.later hb
  have h64:=root_len HSG.out;obtain⟨ia,ic,rfl,_⟩:=id hrd
  obtain⟨n,HN⟩:∃n,Hid (its.length=n):=⟨_,rfl⟩
  rw[HN.out] at HIT h64 ⊢
  clear hst hrd hsg hP HFX HKD;have HB3:Hid (Below w.heap.size w (w2.alloc (.cells #[.slice ia n ic] 28))):=HB2.out.alloc HB2.out.size _;have HB23:Hid (Below w2.heap.size w2 (w2.alloc (.cells #[.slice ia n ic] 28))):=bl1 _ _;have HR3:Hid _:=Dg.row_new w2 #[.slice ia n ic] 28;have d0:=(Dg.cell_row HR3.out 0).trans rfl
  by_cases hl4:(400:Int) < (nL:Int)
  ·go_wp2_with fail
   refine Calls.mono (lives_any _ (HTB.out _ HB3.out)) ?_;rintro e w4 ⟨rfl,hb4⟩;have HB4:Hid _:=HB3.out.trans (hb4.mono HB3.out.size);clear hb4
   go_wp2_with fail
   first
    | (go_ret;exact⟨rfl,HB4.out⟩)
    | exact⟨rfl,HB4.out⟩
  ·have HWK:Hid _:=walked_any its (.slice ia n ic) (.slice la nL lc) L _ HSG.out HFI.out (HTB.out _ HB3.out) (HIT.out _ HB23.out) (HPK.out _ HB3.out) (by rw[HNL.out];omega)
   go_wp2_with fail
   refine Calls.mono HWK.out ?_;rintro e w4 ⟨hb4,u,m,rfl,hg,hrf⟩;generalize w2.alloc (.cells #[.slice ia n ic] 28)=w3 at *;obtain⟨s,hs⟩:∃s,w2.heap.size=s:=⟨_,rfl⟩
   have HML:Hid (m.length=n):=hg.len.trans HN.out;have H4:Hid (WkS its w2 s (.slice ia n ic) m u w4):=by
    refine⟨HB23.out.trans (hb4.mono HB23.out.size),?_,hg,hrf⟩
    rw[←hs]
    exact (hb4.block _ (jD.1 HR3.out).1).trans HR3.out
   obtain⟨fa,fc,rfl,hfc,_⟩:=hrf
   have HBU:Hid (∀W,Below w2.heap.size w2 W→Below w.heap.size w W):=fun W hb=>HB2.out.trans (hb.mono HB2.out.size)
   have HPF:Hid (∀(u:Value) (W:World),WkS its w2 s (.slice ia n ic) m u W→PF its m (.slice ia n ic) u W):=fun u W h=>⟨HIT.out W h.bel,HFI.out,HTB.out W (HBU.out W h.bel),h.rf,by rw[HN.out];omega,by have:=HML.out;omega⟩
   rw[HML.out] at hfc H4 ⊢
   have z0:=(Dg.cell_row H4.out.box 0).trans rfl;clear HWK hb4 d0 HR3 HB3 HB23
   go_wp2_with fail
   clear hs;obtain⟨m1,HM1⟩:∃m1,Hid ((mayL its m).length=m1):=⟨_,rfl⟩
   obtain⟨m2,HM2⟩:∃m2,Hid ((openL its m).length=m2):=⟨_,rfl⟩
   have hm1:m1≤64:=by rw[←HM1.out];exact may_few
   have hm2:m2≤128:=by rw[←HM2.out];exact open_few
   have hS0:WkS its w2 s (.slice ia n ic) m (.slice fa n fc) w4.drew:=H4.out.later (Below.refl _ _).drew;have HMY:Hid (∀wx,WkS its w2 s (.slice ia n ic) m (.slice fa n fc) wx→Calls Tryz.prog 9 #[.agg #[.slice ia n ic],.slice fa n fc] wx fun e w'=>∃y:Option Addr × Nat,e= .returned (.slice y.1 m1 y.2)∧WkS its w2 s (.slice ia n ic) m (.slice fa n fc) w'∧RK w' (.slice y.1 m1 y.2) (mayL its m)):=fun wx h=>Calls.mono (May_any (HPF.out _ wx h)) (by
    rintro e w' ⟨hb,a,c,rfl,hr⟩;rw[HM1.out] at hr ⊢
    exact⟨(a,c),rfl,h.later hb,hr⟩)
   have HOP:Hid (∀(wx:World) (y:Option Addr × Nat),(WkS its w2 s (.slice ia n ic) m (.slice fa n fc) wx∧RK wx (.slice y.1 m1 y.2) (mayL its m))→Calls Tryz.prog 10 #[.agg #[.slice ia n ic],.slice fa n fc] wx fun e w'=>∃x:Option Addr × Nat,e= .returned (.slice x.1 m2 x.2)∧WkS its w2 s (.slice ia n ic) m (.slice fa n fc) w'∧RK w' (.slice y.1 m1 y.2) (mayL its m)∧RK w' (.slice x.1 m2 x.2) (openL its m)):=fun wx y h=>Calls.mono (open_any its _ _ m wx (HPF.out _ wx h.1).it (HPF.out _ wx h.1).fair (HPF.out _ wx h.1).tab (HPF.out _ wx h.1).fa (by rw[HN.out];omega) (by rw[HML.out];omega)) (by
    rintro e w' ⟨hb,u,rfl,hu⟩;obtain⟨a,c,rfl⟩:=hu.slice
    have h9:openP its m=openL its m:=rfl;rw[h9] at hu ⊢
    have hr:=hu.rk;rw[HM2.out] at hr ⊢
    exact⟨(a,c),rfl,h.1.later hb,h.2.later hb,hr⟩)
   refine region_thenG (β:=(Option Addr × Nat) × (Option Addr × Nat)) (fun z=>[(41,.agg #[.slice ia n ic]),(42,.slice fa n fc),(43,.slice z.1.1 m1 z.1.2),(44,.agg #[.slice ia n ic]),(45,.slice fa n fc),(46,.slice z.2.1 m2 z.2.2),(9,.slice z.1.1 m1 z.1.2),(10,.slice z.2.1 m2 z.2.2)]) (fun z w'=>WkS its w2 s (.slice ia n ic) m (.slice fa n fc) w'∧RK w' (.slice z.1.1 m1 z.1.2) (mayL its m)∧RK w' (.slice z.2.1 m2 z.2.2) (openL its m)) ?_ ?_
   ·refine wp_region_held (S:=fun w'=>WkS its w2 s (.slice ia n ic) m (.slice fa n fc) w') (by kernel_rfl) ?_;simp only[jN,jM,jP,Nat.reduceAdd,jI,jJ,jO,jL,jK];refine tV 0 41 (.agg #[.slice ia n ic]) 7 rfl hS0 ?_ (fun wx h=>by have y0:=(Dg.cell_row h.box 0).trans rfl;go_simp);refine tK 1 42 (.slice fa n fc) 6 rfl hS0 ?_;refine tV 3 44 (.agg #[.slice ia n ic]) 5 rfl hS0 ?_ (fun wx h=>by have y0:=(Dg.cell_row h.box 0).trans rfl;go_simp);refine tK 4 45 (.slice fa n fc) 4 rfl hS0 ?_;refine oneX (β:=Option Addr × Nat) (V:=fun y=> .slice y.1 m1 y.2) (R:=fun y w'=>WkS its w2 s (.slice ia n ic) m (.slice fa n fc) w'∧RK w' (.slice y.1 m1 y.2) (mayL its m)) (i:=2) (d:=43) (f:=9) (args:= #[.agg #[.slice ia n ic],.slice fa n fc]) (fuel:=3) rfl rfl (by kernel_rfl) (by kernel_rfl) (fun _=>by kernel_rfl) (HMY.out _ hS0) (fun y w' h=>h.1) (fun y wz2 hR2=>?_);simp only[jA,jB,jC];refine oneX (β:=Option Addr × Nat) (V:=fun x=> .slice x.1 m2 x.2) (R:=fun x w'=>WkS its w2 s (.slice ia n ic) m (.slice fa n fc) w'∧RK w' (.slice y.1 m1 y.2) (mayL its m)∧RK w' (.slice x.1 m2 x.2) (openL its m)) (i:=5) (d:=46) (f:=10) (args:= #[.agg #[.slice ia n ic],.slice fa n fc]) (fuel:=2) rfl rfl (by kernel_rfl) (by kernel_rfl) (fun _=>by kernel_rfl) (HOP.out _ y hR2) (fun x w' h=>h.1) (fun x wz5 hR5=>?_);simp only[jA,jB,jC];refine tK 6 9 (.slice y.1 m1 y.2) 1 rfl (hR5.1) ?_;refine tK 7 10 (.slice x.1 m2 x.2) 0 rfl (hR5.1) ?_;refine wpAnyH_done (by kernel_rfl) ?_ _;exact⟨rfl,(y,x),by kernel_rfl,hR5⟩
   ·rintro⟨⟨ya,yc⟩,oa,oc⟩ w9 hF
    simp only[setAll,jA,jB,jC];have HF9:Hid _:=hF;have z9:=(Dg.cell_row hF.1.box 0).trans rfl;have HV:Hid _:=Verdict_any (HPF.out _ w9 hF.1);obtain⟨vd,HVD⟩:∃vd,Hid (verS its m=vd):=⟨_,rfl⟩
    have HTG:Hid _:=task_goes H4.out.good;rw[HVD.out] at HV HTG
    clear hF hS0 HMY HOP z0 H4
    go_wp2_with fail
    refine Calls.mono HV.out ?_;rintro e w10 ⟨rfl,hb10⟩;have HF10:Hid _:=HF9.out.1.later hb10;have zz:=(Dg.cell_row (WkS.box HF10.out) 0).trans rfl;have HBT:Hid (Below w.heap.size w w10):=HBU.out w10 (WkS.bel HF10.out);clear HV hb10 z9 HF9
    by_cases hv1:vd=1
    ·subst hv1;have hpos:(0:Int) < (m1:Int)+ (m2:Int):=by
      rcases HTG.out.1 rfl with h9 | h9
      ·have:=List.length_pos_iff.2 h9;have:=HM1.out;omega
      ·have:=List.length_pos_iff.2 h9;have:=HM2.out;omega
     clear HTG
     go_wp2_with fail
     refine Calls.mono (lives_any _ (HTB.out _ HBT.out)) ?_;rintro e w12 ⟨rfl,hb12⟩;have HB12:Hid _:=HBT.out.trans (hb12.mono HBT.out.size);clear hb12
     go_wp2_with fail
     first
      | (go_ret;exact⟨rfl,HB12.out⟩)
      | exact⟨rfl,HB12.out⟩
    ·by_cases hv3:vd=3
     ·subst hv3;obtain⟨g1,g2,g3⟩:=HTG.out.2.1 rfl
      have hz1:m1=0:=by rw[←HM1.out,g1];rfl
      have hz2:m2=0:=by rw[←HM2.out,g2];rfl
      subst hz1;subst hz2;have HCL:Hid (∀i:Nat,i < n→cleS its m (i:Int)=true):=fun i hi=>g3 i (by rw[HN.out];exact hi)
      clear HTG g1 g2 g3 hv1
      go_wp2_with fail
      go_loopw [11] (fun iv wr=>∃(i:Nat),i≤n∧iv= .int .i64 i∧Hid (WkS its w2 s (.slice ia n ic) m (.slice fa n fc) wr)) (fun iv _=>n - (intOf iv).toNat)
      case atStart=>exact⟨0,zE _,by go_num,HF10⟩
      case round=>
       obtain⟨i,hi,rfl,HM⟩:=hrel
       rename World=>wr
       by_cases hlt:i < n
       rotate_left
       ·have hnl:¬(i:Int) < (n:Int):=by omega
        have HBT:Hid (Below w.heap.size w wr):=HBU.out wr (WkS.bel HM.out)
        go_wp2_with fail
        refine Calls.mono (lives_any _ (HTB.out _ HBT.out)) ?_;rintro e w12 ⟨rfl,hb12⟩;have HB12:Hid _:=HBT.out.trans (hb12.mono HBT.out.size);clear hb12
        go_wp2_with fail
        first
         | (go_ret;exact⟨rfl,HB12.out⟩)
         | exact⟨rfl,HB12.out⟩
       ·have hii:(i:Int) < (n:Int):=by omega
        have HC:Hid _:=Clean_any (HPF.out _ wr HM.out) (i:Int);rw[HCL.out i hlt] at HC
        have zr:=(Dg.cell_row (WkS.box HM.out) 0).trans rfl
        go_wp2_with fail
        refine Calls.mono HC.out ?_;rintro e w12 ⟨rfl,hb12⟩;have HF12:Hid _:=WkS.later HM.out hb12;clear HC hb12 zr
        go_wp2_with fail
        go_roundw
        case rel=>exact⟨i+1,by omega,by go_num,HF12⟩
        case measure=>simp[intOf] <;> omega
     ·have hz1:m1=0:=by rw[←HM1.out,HTG.out.2.2 hv1];rfl
      subst hz1;have hv1b:(vd==1)=false:=by simpa using hv1
      have hv3b:(vd==3)=false:=by simpa using hv3
      clear HTG
      go_wp2_with fail
      refine Calls.mono (lives_any _ (HTB.out _ HBT.out)) ?_;rintro e w12 ⟨rfl,hb12⟩;have HB12:Hid _:=HBT.out.trans (hb12.mono HBT.out.size);clear hb12
      go_wp2_with fail
      first
       | (go_ret;exact⟨rfl,HB12.out⟩)
       | exact⟨rfl,HB12.out⟩
end Go.Proofs.YtieoppabellafaaGreatDoor.Ts
