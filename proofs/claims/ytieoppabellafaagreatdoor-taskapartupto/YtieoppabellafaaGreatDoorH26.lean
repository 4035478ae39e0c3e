/- Texts of the seat, packed: Ak Al Am. -/
import Derived.Test.YtieoppabellafaaGreatDoorH01
import Derived.Test.YtieoppabellafaaGreatDoorH25
import Derived.Test.YtieoppabellafaaGreatDoorH17
import Derived.Test.YtieoppabellafaaGreatDoorH11
import Derived.BigQuiet
set_option maxRecDepth 1000000
set_option maxHeartbeats 64000000
set_option linter.unusedVariables false
namespace Go.Proofs.YtieoppabellafaaGreatDoor.Ts
open Go.RowKit Go.Shelf Fc St Sx Sa
def KeV (k:Nat × Bool × Int):Value:= .agg #[.int .i64 (k.1:Int),.bool k.2.1,.int .i64 k.2.2]
theorem eq_ifK (i:Nat)(u:Bool)(t:Int)(i':Nat)(u':Bool)(t':Int){α:Type}(x:Bool→α):(if (i:Int)=(i':Int) then if u=u' then if t=t' then x true else x false else x false else x false)=x (decide ((i,u,t)=((i',u',t'):Nat × Bool × Int))):=by
 simp only[Prod.mk.injEq];have:((i:Int)=(i':Int))↔i=i':=by omega
 simp only[this]
 repeat' split
 all_goals simp_all
theorem eq_key (k k':Nat × Bool × Int)(w:World):(Go.binOp .eql 47 (KeV k) (KeV k')).run Tryz.prog w= .ok (.bool (decide (k=k'))) w:=by
 obtain⟨i,u,t⟩:=k
 obtain⟨i',u',t'⟩:=k'
 rw[←eq_ifK (x:=fun b=>Result.ok (Value.bool b) w)]
 unfold KeV
 go_simp
theorem eq_execK (k k':Nat × Bool × Int){o:Oper}{x y:Operand}{a:Act}{w:World}{q:Bool}{ty:TypeId}(ho:o.op= .binOp .eql 47 x y ty)(hx:a.eval x=KeV k)(hy:a.eval y=KeV k')(hq:decide (k=k')=q):(execOp a.eval o).run Tryz.prog w= .ok (.value (.bool q)) w:=by
 unfold execOp;subst hq;have hg:(eqGuard BinOp.eql 47 x y (KeV k) (KeV k')).run Tryz.prog w= .ok () w:=by
  have hk:Tryz.prog.eqGuardType Tryz.prog.depth 47=false:=by kernel_rfl
  unfold eqGuard KeV;simp[hk]
 simp only[ho,hx,hy,Sem.run_bind,eq_key,hg,Result.andThen_ok];rfl
theorem index_any (K:List (Nat × Bool × Int))(v:Value)(k:Nat × Bool × Int)(w:World)(hK:RK w v K)(hl:K.length≤1000000) :
  Calls Tryz.prog 70 #[v,KeV k] w fun e w'=>e= .returned (.int .i64 (idxK k K 0))∧Below w.heap.size w w':=by
 obtain⟨ka,kc,rfl,hc,_,hr⟩:=hK
 obtain⟨n,HN⟩:∃n,Hid (K.length=n):=⟨_,rfl⟩
 rw[HN.out] at hc hl ⊢
 have HR:Hid _:=hr;obtain⟨E,HE⟩:∃E,Hid (E=idxK k K 0):=⟨_,rfl⟩
 rw[←HE.out]
 have HE0:Hid (E=idxK k (K.drop 0) ((0:Nat):Int)):=HE.out;have hb1:=bl1 w (.cells #[.int .i64 (k.1:Int),.bool k.2.1,.int .i64 k.2.2] 47);have HB1:Hid _:=hb1;have r1:=Dg.row_new w #[.int .i64 (k.1:Int),.bool k.2.1,.int .i64 k.2.2] 47;have HR1:Hid _:=r1;have HKV:Hid (KeV k= .agg #[.int .i64 (k.1:Int),.bool k.2.1,.int .i64 k.2.2]):=rfl;unfold KeV;clear hr HE hb1 r1
 go_enter Tryz.func70,Tryz.ntmps70
 go_wp2_with fail
 obtain⟨w1,hw1⟩:∃w1,w.alloc (.cells #[.int .i64 (k.1:Int),.bool k.2.1,.int .i64 k.2.2] 47)=w1:=⟨_,rfl⟩
 rw[hw1] at HB1 HR1 ⊢
 clear hw1
 go_loopw [8] (fun iv wr=>∃(i:Nat),i≤n∧iv= .int .i64 i∧Hid (Below w1.heap.size w1 wr)∧Hid (E=idxK k (K.drop i) ((i:Nat):Int))) (fun iv _=>n - (intOf iv).toNat)
 case atStart=>exact⟨0,zE _,by go_num,Below.refl _ _,HE0⟩
 case round=>
  obtain⟨i,hi,rfl,HM,HEI⟩:=hrel
  rename World=>wr
  by_cases hlt:i < n
  rotate_left
  ·obtain rfl:E= -1:=by
    rw[HEI.out,List.drop_eq_nil_of_le (by rw[HN.out];omega)]
    rfl
   go_wp2_with fail
   go_ret
   exact⟨rfl,HB1.out.trans (HM.out.mono HB1.out.size)⟩
  ·obtain⟨x,hx⟩:∃x,K[i]? =some x:=⟨_,jF (by rw[HN.out];exact hlt)⟩
   obtain⟨b,off,rfl,k0,k1,k2⟩:=HR.out i x hx
   have HEX:Hid (E=if k=x then (i:Int) else idxK k (K.drop (i+1)) ((i+1:Nat):Int)):=by
    show _=_;rw[HEI.out]
    obtain⟨hl,rfl⟩:=jH.1 hx
    rw[zU hl]
    rfl
   have HCX:Hid (∀wx,Below w1.heap.size w1 wx→wx.cell? ⟨b,off+i * 3,none⟩=some (.int .i64 (x.1:Int))∧wx.cell? ⟨b,off+i * 3+1,none⟩=some (.bool x.2.1)∧wx.cell? ⟨b,off+i * 3+2,none⟩=some (.int .i64 x.2.2)):=fun wx hb=>by
    have hq:=HB1.out.trans (hb.mono HB1.out.size);exact⟨Dg.cell_later hq k0,Dg.cell_later hq k1,Dg.cell_later hq k2⟩
   have HCK:Hid (∀wx,Below w1.heap.size w1 wx→wx.cell? ⟨w.heap.size,0,none⟩=some (.int .i64 (k.1:Int))∧wx.cell? ⟨w.heap.size,1,none⟩=some (.bool k.2.1)∧wx.cell? ⟨w.heap.size,2,none⟩=some (.int .i64 k.2.2)):=fun wx hb=>
    ⟨Dg.cell_later hb ((Dg.cell_row HR1.out 0).trans rfl),Dg.cell_later hb ((Dg.cell_row HR1.out 1).trans rfl),Dg.cell_later hb ((Dg.cell_row HR1.out 2).trans rfl)⟩
   have HXV:Hid (KeV x= .agg #[.int .i64 (x.1:Int),.bool x.2.1,.int .i64 x.2.2]):=rfl;obtain⟨q,hq⟩:∃q,decide (k=x)=q:=⟨_,rfl⟩
   have HQ:Hid (decide (k=x)=q):=hq;have hii:(i:Int) < (n:Int):=by omega
   have hS0:Below w1.heap.size w1 wr.drew:=HM.out.drew;clear k0 k1 k2 hx HEI hq
   go_wp2_with fail
   refine region_thenF [(11,KeV k),(12,.slice (some ⟨b,off,none⟩) n kc),(13,.int .i64 i),(14,.pointer (some ⟨b,off+i * 3,none⟩)),(15,KeV x),(16,.bool q)] (fun w'=>Below w1.heap.size w1 w') ?_ ?_
   ·refine wp_region_held (S:=fun w'=>Below w1.heap.size w1 w') (by kernel_rfl) ?_;simp only[jN,jM,jP,Nat.reduceAdd,jI,jJ,jO,jL,jK];refine tV 0 11 (KeV k) 5 rfl hS0 ?_ (fun wx h=>by rw[HKV.out];obtain⟨y0,y1,y2⟩:=HCK.out wx h;go_simp);refine tK 1 12 (.slice (some ⟨b,off,none⟩) n kc) 4 rfl hS0 ?_;refine tK 2 13 (.int .i64 i) 3 rfl hS0 ?_;refine tG 3 14 (.pointer (some ⟨b,off+i * 3,none⟩)) 2 rfl hS0 ?_;refine tV 4 15 (KeV x) 1 rfl hS0 ?_ (fun wx h=>by rw[HXV.out];obtain⟨y0,y1,y2⟩:=HCX.out wx h;go_simp);refine tV 5 16 (.bool q) 0 rfl hS0 ?_ (fun wx h=>eq_execK k x (x:= .tmp 11) (y:= .tmp 15) rfl rfl rfl HQ.out);refine wpAnyH_done (by kernel_rfl) ?_ _;exact⟨rfl,by kernel_rfl,hS0⟩
   ·intro w9 hF;simp only[setAll,jA,jB,jC];have HF9:Hid _:=hF;clear hF;cases q with
    | true=>
     obtain rfl:E=(i:Int):=by rw[HEX.out,if_pos (of_decide_eq_true HQ.out)]
     go_wp2_with fail
     go_ret
     exact⟨rfl,HB1.out.trans (HF9.out.mono HB1.out.size)⟩
    | false=>
     have HE2:Hid (E=idxK k (K.drop (i+1)) ((i+1:Nat):Int)):=by show _=_;rw[HEX.out,if_neg (of_decide_eq_false HQ.out)]
     clear HEX
     go_wp2_with fail
     go_roundw
     case rel=>exact⟨i+1,by omega,by go_num,HF9,HE2⟩
     case measure=>simp[intOf] <;> omega
theorem contains_any (K:List (Nat × Bool × Int))(v:Value)(k:Nat × Bool × Int)(w:World)(hK:RK w v K)(hl:K.length≤1000000) :
  Calls Tryz.prog 38 #[v,KeV k] w fun e w'=>e= .returned (.bool (decide (k∈K)))∧Below w.heap.size w w':=by
 have hb1:=bl1 w (.cells #[.int .i64 (k.1:Int),.bool k.2.1,.int .i64 k.2.2] 47);have HB1:Hid _:=hb1;have r1:=Dg.row_new w #[.int .i64 (k.1:Int),.bool k.2.1,.int .i64 k.2.2] 47;have k0:=(Dg.cell_row r1 0).trans rfl;have k1:=(Dg.cell_row r1 1).trans rfl;have k2:=(Dg.cell_row r1 2).trans rfl;have HI:Hid _:=index_any K v k _ (hK.later hb1) hl;obtain⟨ka,kc,rfl,_⟩:=hK
 have hn:=idx_neg (k:=k) (K:=K) (i:=0) (by omega);obtain⟨Q,HQ⟩:∃Q,Hid (Q=decide (k∈K)):=⟨_,rfl⟩
 rw[←HQ.out]
 have HQ2:Hid (Q=decide (0≤idxK k K 0)):=by show _=_;rw[HQ.out];exact decide_eq_decide.2 hn.symm
 unfold KeV at HI ⊢;generalize idxK k K 0=z at *;clear hb1 r1 hn HQ
 go_enter Tryz.func38,Tryz.ntmps38
 go_wp2_with fail
 refine Calls.mono HI.out ?_;rintro e w2 ⟨rfl,hb2⟩;have HB2:Hid _:=HB1.out.trans (hb2.mono HB1.out.size);clear HI hb2 k0 k1 k2 HB1
 go_wp2_with fail
 go_ret
 exact⟨by rw[HQ2.out];rfl,HB2.out⟩
theorem may_few {its:List It}{l:List Fa} :(mayL its l).length≤64:=by
 by_cases hc:chkF its l=0
 ·rw[←keysL_may hc]
  unfold keysL letL;rw[zG]
  have:=List.length_filter_le (letB its l) (List.range its.length);rw[List.length_range] at this
  have:=(root_len (chkF_iff.1 hc).1).2;omega
 ·unfold mayL;rw[if_neg hc]
  simp
theorem Is_any {its:List It}{l:List Fa}{v lv:Value}{w:World}(h:PF its l v lv w)(k:Nat × Bool × Int) :
  Calls Tryz.prog 16 #[.agg #[v],lv,KeV k] w fun e w'=>e= .returned (.bool (decide (k∈mayL its l)))∧Below w.heap.size w w':=by
 have hb1:=bl1 w (.cells #[v] 28);have hb2:=bl1 (w.alloc (.cells #[v] 28)) (.cells #[.int .i64 (k.1:Int),.bool k.2.1,.int .i64 k.2.2] 47);have HB2:Hid _:=hb1.trans (hb2.mono hb1.size);have r1:=Dg.row_alloc (Dg.row_new w #[v] 28) (.cells #[.int .i64 (k.1:Int),.bool k.2.1,.int .i64 k.2.2] 47);have r2:=Dg.row_new (w.alloc (.cells #[v] 28)) #[.int .i64 (k.1:Int),.bool k.2.1,.int .i64 k.2.2] 47;rw[jV] at r2
 have HR1:Hid _:=r1;have HR2:Hid _:=r2;have HPF:Hid (∀wx,Below w.heap.size w wx→PF its l v lv wx):=fun wx hb=>h.later hb
 have HKV:Hid (KeV k= .agg #[.int .i64 (k.1:Int),.bool k.2.1,.int .i64 k.2.2]):=rfl;obtain⟨ia,icap,rfl,_⟩:=h.it
 obtain⟨la,lcap,rfl,_⟩:=h.fa
 obtain⟨m,HM⟩:∃m,Hid (m=(mayL its l).length):=⟨_,rfl⟩
 have hml:m≤1000000:=by rw[HM.out];have:= @may_few its l;omega
 obtain⟨Q,HQ⟩:∃Q,Hid (Q=decide (k∈mayL its l)):=⟨_,rfl⟩
 rw[←HQ.out]
 unfold KeV;generalize its.length=n at *;generalize l.length=ml at *;clear h hb1 hb2 r1 r2
 go_enter Tryz.func16,Tryz.ntmps16
 go_wp2_with fail
 obtain⟨s,hs⟩:∃s,w.heap.size=s:=⟨_,rfl⟩
 rw[hs] at HR1 HR2 ⊢
 obtain⟨w1,hw1⟩:∃w1,(w.alloc (.cells #[.slice ia n icap] 28)).alloc (.cells #[.int .i64 (k.1:Int),.bool k.2.1,.int .i64 k.2.2] 47)=w1:=⟨_,rfl⟩
 rw[hw1] at HR1 HR2 HB2 ⊢
 have HBW:Hid (∀wx,Below w1.heap.size w1 wx→Below w.heap.size w wx):=fun wx hb=>HB2.out.trans (hb.mono HB2.out.size)
 have hS0:Below w1.heap.size w1 w1.drew:=(Below.refl _ _).drew;have HCV:Hid (∀wx,Below w1.heap.size w1 wx→wx.cell? ⟨s,0,none⟩=some (.slice ia n icap)):=fun wx hb=>Dg.cell_later hb ((Dg.cell_row HR1.out 0).trans rfl)
 have HCK:Hid (∀wx,Below w1.heap.size w1 wx→wx.cell? ⟨s+1,0,none⟩=some (.int .i64 (k.1:Int))∧wx.cell? ⟨s+1,1,none⟩=some (.bool k.2.1)∧wx.cell? ⟨s+1,2,none⟩=some (.int .i64 k.2.2)):=fun wx hb=>
  ⟨Dg.cell_later hb ((Dg.cell_row HR2.out 0).trans rfl),Dg.cell_later hb ((Dg.cell_row HR2.out 1).trans rfl),Dg.cell_later hb ((Dg.cell_row HR2.out 2).trans rfl)⟩
 have HMY:Hid (∀wx,Below w1.heap.size w1 wx→Calls Tryz.prog 9 #[.agg #[.slice ia n icap],.slice la ml lcap] wx fun e w'=>∃y:Option Addr × Nat,e= .returned (.slice y.1 m y.2)∧Below w1.heap.size w1 w'∧RK w' (.slice y.1 m y.2) (mayL its l)):=fun wx hb=>Calls.mono (May_any (HPF.out wx (HBW.out wx hb))) (by
  rintro e w' ⟨hb9,a,c,rfl,hr⟩;rw[←HM.out] at hr ⊢
  exact⟨(a,c),rfl,hb.trans (hb9.mono hb.size),hr⟩)
 clear hw1 hs HR1 HR2;refine region_thenG (β:=Option Addr × Nat) (fun z=>[(7,.agg #[.slice ia n icap]),(8,.slice la ml lcap),(9,.slice z.1 m z.2),(10,KeV k),(11,.bool Q),(6,.bool Q)]) (fun z w'=>Below w1.heap.size w1 w') ?_ ?_
 ·refine wp_region_held (S:=fun w'=>Below w1.heap.size w1 w') (by kernel_rfl) ?_;simp only[jN,jM,jP,Nat.reduceAdd,jI,jJ,jO,jL,jK];refine tV 0 7 (.agg #[.slice ia n icap]) 5 rfl hS0 ?_ (fun wx h=>by have y0:=HCV.out wx h;go_simp);refine tK 1 8 (.slice la ml lcap) 4 rfl hS0 ?_;refine tV 3 10 (KeV k) 3 rfl hS0 ?_ (fun wx h=>by rw[HKV.out];obtain⟨y0,y1,y2⟩:=HCK.out wx h;go_simp);refine oneX (β:=Option Addr × Nat) (V:=fun y=> .slice y.1 m y.2) (R:=fun y w'=>Below w1.heap.size w1 w'∧RK w' (.slice y.1 m y.2) (mayL its l)) (i:=2) (d:=9) (f:=9) (args:= #[.agg #[.slice ia n icap],.slice la ml lcap]) (fuel:=2) rfl rfl (by kernel_rfl) (by kernel_rfl) (fun _=>by kernel_rfl) (HMY.out _ hS0) (fun y w' h=>h.1) (fun y wz hR2=>?_);simp only[jA,jB,jC];refine oneW (R:=fun w'=>Below w1.heap.size w1 w') (i:=4) (d:=11) (f:=38) (args:= #[.slice y.1 m y.2,KeV k]) (v:= .bool Q) (fuel:=1) rfl rfl (by kernel_rfl) (by kernel_rfl) (fun _=>by kernel_rfl) (Calls.mono (contains_any (mayL its l) _ k _ hR2.2 (by rw[←HM.out];exact hml)) (by rintro e w9 ⟨rfl,hb⟩;exact⟨by rw[HQ.out],hR2.1.trans (hb.mono hR2.1.size)⟩)) (fun w' h=>h) (fun wz hR4=>?_);simp only[jA,jB,jC];refine tK 5 6 (.bool Q) 0 rfl (hR4) ?_;refine wpAnyH_done (by kernel_rfl) ?_ _;exact⟨rfl,y,by kernel_rfl,(hR4)⟩
 ·rintro z w9 hF;simp only[setAll,jA,jB,jC];have HF9:Hid _:=hF;clear hF
  go_wp2_with fail
  go_ret
  exact⟨rfl,HBW.out _ HF9.out⟩
def evK (k:Nat × Bool × Int)(kd:Int):Ek.Ev:=⟨kd,k.1,k.2.2,[0]⟩
theorem ri_zero {w:World}{g:Nat}{t:TypeId}(h:w.heap[g]? =some (.cells #[.int .i64 0] t (0,0))):Ek.RI w (.slice (some ⟨g,0,none⟩) 1 1) [0]:=by
 refine⟨_,1,rfl,by simp,by unfold maxLen;omega,fun i hi=>⟨g,0,rfl,?_⟩⟩
 have:i=0:=by simp at hi;omega
 subst this;exact Dg.cell_row h 0
theorem ri_cell {w:World}{g:Nat}(h:w.cell? ⟨g,0,none⟩=some (.int .i64 0)):Ek.RI w (.slice (some ⟨g,0,none⟩) 1 1) [0]:=by
 refine⟨_,1,rfl,by simp,by unfold maxLen;omega,fun i hi=>⟨g,0,rfl,?_⟩⟩
 have:i=0:=by simp at hi;omega
 subst this;exact h
def EvC (k:Nat × Bool × Int)(kd:Int)(w:World)(e:Ending)(w':World):Prop:=Below w.heap.size w w'∧∃g,e= .returned (Ek.EvV (evK k kd) (.slice (some ⟨g,0,none⟩) 1 1))∧w.heap.size≤g∧w'.cell? ⟨g,0,none⟩=some (.int .i64 0)
theorem happens_any (k:Nat × Bool × Int)(kd:Int)(w:World):Calls Tryz.prog 73 #[KeV k,.int .i64 kd] w fun e w'=>EvC k kd w e w':=by
 obtain⟨ki,ku,kt⟩:=k
 obtain⟨R,HR⟩:∃R:Ending→World→Prop,Hid (R=EvC (ki,ku,kt) kd w):=⟨_,rfl⟩
 show Calls _ _ _ _ (EvC (ki,ku,kt) kd w);rw[←HR.out]
 unfold KeV;dsimp only;have r1:=Dg.row_alloc (Dg.row_new w #[.int .i64 (ki:Int),.bool ku,.int .i64 kt] 47) (.cells #[.int .i64 0,.int .i64 0,.int .i64 0,.slice none 0 0] 94);have k0:=(Dg.cell_row r1 0).trans rfl;have k2:=(Dg.cell_row r1 2).trans rfl;clear r1
 go_enter Tryz.func73,Tryz.ntmps73
 go_wp2_with fail
 have q1:=Dg.row_alloc (Dg.row_new (w.alloc (.cells #[.int .i64 (ki:Int),.bool ku,.int .i64 kt] 47)) #[.int .i64 kd,.int .i64 (ki:Int),.int .i64 kt,.slice (some ⟨w.heap.size+1+1,0,none⟩) 1 1] 94) (.cells #[.int .i64 0] 3);have q2:=Dg.row_new ((w.alloc (.cells #[.int .i64 (ki:Int),.bool ku,.int .i64 kt] 47)).alloc (.cells #[.int .i64 kd,.int .i64 (ki:Int),.int .i64 kt,.slice (some ⟨w.heap.size+1+1,0,none⟩) 1 1] 94)) #[.int .i64 0] 3;simp only[jV] at q1 q2;refine⟨rfl,_,results_cell_row (p:=4) (ty:=94) rfl _ _ (w.heap.size+1) 94 _ (0,0) _ rfl q1 Tryz.underlying94 rfl (by kernel_rfl),?_⟩
 rw[HR.out]
 refine⟨((bl1 w _).alloc (by simp) _).alloc (by simp;omega) _,w.heap.size+1+1,rfl,by omega,(Dg.cell_row q2 0).trans rfl⟩
theorem ev_store {w:World}{b:Nat}{z0 z1 z2 z3:Value}(h:w.heap[b]? =some (.cells #[z0,z1,z2,z3] 94 (0,0)))(a0 a1 a2 a3:Value):((((w.setCell ⟨b,0,none⟩ a0).setCell ⟨b,1,none⟩ a1).setCell ⟨b,2,none⟩ a2).setCell ⟨b,3,none⟩ a3).heap[b]? =some (.cells #[a0,a1,a2,a3] 94 (0,0)):=by
 have:=Dg.row_set (Dg.row_set (Dg.row_set (Dg.row_set h 0 a0) 1 a1) 2 a2) 3 a3
 simpa using this
theorem ev_cell {w:World}{b g:Nat}(h:g≠b){v:Value}(hc:w.cell? ⟨g,0,none⟩=some v)(a0 a1 a2 a3:Value):((((w.setCell ⟨b,0,none⟩ a0).setCell ⟨b,1,none⟩ a1).setCell ⟨b,2,none⟩ a2).setCell ⟨b,3,none⟩ a3).cell? ⟨g,0,none⟩=some v:=by
 have hk:((((w.setCell ⟨b,0,none⟩ a0).setCell ⟨b,1,none⟩ a1).setCell ⟨b,2,none⟩ a2).setCell ⟨b,3,none⟩ a3).heap[g]? =w.heap[g]? :=
  (jW _ ⟨b,3,none⟩ _ _ h).trans ((jW _ ⟨b,2,none⟩ _ _ h).trans ((jW _ ⟨b,1,none⟩ _ _ h).trans (jW _ ⟨b,0,none⟩ _ _ h)))
 exact (zI (a:=⟨g,0,none⟩) hk).trans hc
theorem ev_below {w w2:World}{b:Nat}(h:Below w.heap.size w w2)(hb:w.heap.size≤b)(a0 a1 a2 a3:Value):Below w.heap.size w ((((w2.setCell ⟨b,0,none⟩ a0).setCell ⟨b,1,none⟩ a1).setCell ⟨b,2,none⟩ a2).setCell ⟨b,3,none⟩ a3):=
 (((h.setCell (p:=⟨b,0,none⟩) hb _).setCell (p:=⟨b,1,none⟩) hb _).setCell (p:=⟨b,2,none⟩) hb _).setCell (p:=⟨b,3,none⟩) hb _
theorem begins_any (k:Nat × Bool × Int)(w:World):Calls Tryz.prog 40 #[KeV k] w fun e w'=>EvC k (if k.2.1 then 4 else 1) w e w':=by
 obtain⟨ki,ku,kt⟩:=k
 obtain⟨R,HR⟩:∃R:Ending→World→Prop,Hid (R=EvC (ki,ku,kt) (if ku then 4 else 1) w):=⟨_,rfl⟩
 show Calls _ _ _ _ (EvC (ki,ku,kt) (if ku then 4 else 1) w);rw[←HR.out]
 have b1:=bl1 w (.cells #[.int .i64 (ki:Int),.bool ku,.int .i64 kt] 47);have b2:=bl1 (w.alloc (.cells #[.int .i64 (ki:Int),.bool ku,.int .i64 kt] 47)) (.cells #[.int .i64 0,.int .i64 0,.int .i64 0,.slice none 0 0] 94);have HB2:Hid _:=b1.trans (b2.mono b1.size);have r1:=Dg.row_alloc (Dg.row_new w #[.int .i64 (ki:Int),.bool ku,.int .i64 kt] 47) (.cells #[.int .i64 0,.int .i64 0,.int .i64 0,.slice none 0 0] 94);have r2:=Dg.row_new (w.alloc (.cells #[.int .i64 (ki:Int),.bool ku,.int .i64 kt] 47)) #[.int .i64 0,.int .i64 0,.int .i64 0,.slice none 0 0] 94;rw[jV] at r2
 have HR2:Hid _:=r2;have k0:=(Dg.cell_row r1 0).trans rfl;have k1:=(Dg.cell_row r1 1).trans rfl;have k2:=(Dg.cell_row r1 2).trans rfl;have HHP:Hid (∀kd:Int,Calls Tryz.prog 73 #[.agg #[.int .i64 (ki:Int),.bool ku,.int .i64 kt],.int .i64 kd] ((w.alloc (.cells #[.int .i64 (ki:Int),.bool ku,.int .i64 kt] 47)).alloc (.cells #[.int .i64 0,.int .i64 0,.int .i64 0,.slice none 0 0] 94)) fun e w'=>EvC (ki,ku,kt) kd ((w.alloc (.cells #[.int .i64 (ki:Int),.bool ku,.int .i64 kt] 47)).alloc (.cells #[.int .i64 0,.int .i64 0,.int .i64 0,.slice none 0 0] 94)) e w'):=fun kd=>happens_any (ki,ku,kt) kd _
 unfold KeV;dsimp only;clear b1 b2 r1 r2;cases ku
 all_goals
  go_enter Tryz.func40,Tryz.ntmps40
  go_wp2_with fail
  refine Calls.mono (HHP.out _) ?_;rintro e w3 ⟨hb3,g,rfl,hg,hgc⟩;have HR3:Hid (w3.heap[w.heap.size+1]? =some (.cells #[.int .i64 0,.int .i64 0,.int .i64 0,.slice none 0 0] 94 (0,0))):=(hb3.block _ (by simp)).trans HR2.out;have HB3:Hid (Below w.heap.size w w3):=HB2.out.trans (hb3.mono HB2.out.size);have HG:Hid (w.heap.size+2≤g):=by have:=hg;simp at this;show _≤_;omega
  have HGC:Hid _:=hgc;have z0:=(Dg.cell_row HR3.out 0).trans rfl;have z1:=(Dg.cell_row HR3.out 1).trans rfl;have z2:=(Dg.cell_row HR3.out 2).trans rfl;have z3:=(Dg.cell_row HR3.out 3).trans rfl;have f0:=Dg.froz_row HR3.out 0;have f1:=Dg.froz_row HR3.out 1;have f2:=Dg.froz_row HR3.out 2;have f3:=Dg.froz_row HR3.out 3;unfold Ek.EvV evK;dsimp only;clear hb3 hg hgc HHP k0 k1 k2 HB2 HR2
  go_wp2_with fail
  refine⟨rfl,_,results_cell_row (p:=2) (ty:=94) rfl _ _ (w.heap.size+1) 94 _ (0,0) _ rfl (ev_store HR3.out _ _ _ _) Tryz.underlying94 rfl (by kernel_rfl),?_⟩
  rw[HR.out]
  have hgg:=HG.out;exact⟨ev_below HB3.out (by omega) _ _ _ _,g,rfl,by omega,ev_cell (by omega) HGC.out _ _ _ _⟩
theorem ends_any (k:Nat × Bool × Int)(ok:Bool)(w:World):Calls Tryz.prog 41 #[KeV k,.bool ok] w fun e w'=>EvC k (endE k.2.1 ok) w e w':=by
 obtain⟨ki,ku,kt⟩:=k
 obtain⟨R,HR⟩:∃R:Ending→World→Prop,Hid (R=EvC (ki,ku,kt) (endE ku ok) w):=⟨_,rfl⟩
 show Calls _ _ _ _ (EvC (ki,ku,kt) (endE ku ok) w);rw[←HR.out]
 have b1:=bl1 w (.cells #[.int .i64 (ki:Int),.bool ku,.int .i64 kt] 47);have b2:=bl1 (w.alloc (.cells #[.int .i64 (ki:Int),.bool ku,.int .i64 kt] 47)) (.cells #[.int .i64 0,.int .i64 0,.int .i64 0,.slice none 0 0] 94);have HB2:Hid _:=b1.trans (b2.mono b1.size);have r1:=Dg.row_alloc (Dg.row_new w #[.int .i64 (ki:Int),.bool ku,.int .i64 kt] 47) (.cells #[.int .i64 0,.int .i64 0,.int .i64 0,.slice none 0 0] 94);have r2:=Dg.row_new (w.alloc (.cells #[.int .i64 (ki:Int),.bool ku,.int .i64 kt] 47)) #[.int .i64 0,.int .i64 0,.int .i64 0,.slice none 0 0] 94;rw[jV] at r2
 have HR2:Hid _:=r2;have k0:=(Dg.cell_row r1 0).trans rfl;have k1:=(Dg.cell_row r1 1).trans rfl;have k2:=(Dg.cell_row r1 2).trans rfl;have HHP:Hid (∀kd:Int,Calls Tryz.prog 73 #[.agg #[.int .i64 (ki:Int),.bool ku,.int .i64 kt],.int .i64 kd] ((w.alloc (.cells #[.int .i64 (ki:Int),.bool ku,.int .i64 kt] 47)).alloc (.cells #[.int .i64 0,.int .i64 0,.int .i64 0,.slice none 0 0] 94)) fun e w'=>EvC (ki,ku,kt) kd ((w.alloc (.cells #[.int .i64 (ki:Int),.bool ku,.int .i64 kt] 47)).alloc (.cells #[.int .i64 0,.int .i64 0,.int .i64 0,.slice none 0 0] 94)) e w'):=fun kd=>happens_any (ki,ku,kt) kd _
 unfold KeV;dsimp only;clear b1 b2 r1 r2;cases ku <;> cases ok
 all_goals
  go_enter Tryz.func41,Tryz.ntmps41
  go_wp2_with fail
  refine Calls.mono (HHP.out _) ?_;rintro e w3 ⟨hb3,g,rfl,hg,hgc⟩;have HR3:Hid (w3.heap[w.heap.size+1]? =some (.cells #[.int .i64 0,.int .i64 0,.int .i64 0,.slice none 0 0] 94 (0,0))):=(hb3.block _ (by simp)).trans HR2.out;have HB3:Hid (Below w.heap.size w w3):=HB2.out.trans (hb3.mono HB2.out.size);have HG:Hid (w.heap.size+2≤g):=by have:=hg;simp at this;show _≤_;omega
  have HGC:Hid _:=hgc;have z0:=(Dg.cell_row HR3.out 0).trans rfl;have z1:=(Dg.cell_row HR3.out 1).trans rfl;have z2:=(Dg.cell_row HR3.out 2).trans rfl;have z3:=(Dg.cell_row HR3.out 3).trans rfl;have f0:=Dg.froz_row HR3.out 0;have f1:=Dg.froz_row HR3.out 1;have f2:=Dg.froz_row HR3.out 2;have f3:=Dg.froz_row HR3.out 3;unfold Ek.EvV evK;dsimp only;clear hb3 hg hgc HHP k0 k1 k2 HB2 HR2
  go_wp2_with fail
  refine⟨rfl,_,results_cell_row (p:=4) (ty:=94) rfl _ _ (w.heap.size+1) 94 _ (0,0) _ rfl (ev_store HR3.out _ _ _ _) Tryz.underlying94 rfl (by kernel_rfl),?_⟩
  rw[HR.out]
  have hgg:=HG.out;exact⟨ev_below HB3.out (by omega) _ _ _ _,g,rfl,by omega,ev_cell (by omega) HGC.out _ _ _ _⟩
def GoC (m:List Fa)(w:World)(e:Ending)(w':World):Prop:=Below w.heap.size w w'∧∃u,e= .returned (.tuple #[u,.int .i64 0])∧RF w' u m
theorem app_beg {its:List It}{l:List Fa}{k:Nat × Bool × Int}(h:k∈mayL its l):appP its l (evK k (if k.2.1 then 4 else 1))= .inr (l.set k.1 (begF (fOf l k.1) k.2.1)):=by
 obtain⟨i,u,t⟩:=k
 have hd:=beg_does h;have hc:=(may_iff.1 h).1;obtain⟨s1,s2,_⟩:=may_step h
 have h64:=(root_len (chkF_iff.1 hc).1).2;have ht:(u=false∧t=0)∨(u=true∧0≤t∧t≤3):=by
  rcases (may_iff.1 h).2 with ⟨h1,h2,_⟩ | ⟨h1,h2,_⟩
  ·exact .inl ⟨h1,h2⟩
  ·obtain⟨a1,a2,a3,a4,_⟩:=(rt_of hc).ok i s2
   exact .inr ⟨h1,by omega,by omega⟩
 have hok:Ek.okE (evK (i,u,t) (if u then 4 else 1))=true:=by
  unfold Ek.okE evK Ek.okH;rw[jT]
  refine⟨decide_eq_true ?_,(show Ek.okS [0]=true by decide)⟩
  dsimp only
  rcases ht with ⟨rfl,rfl⟩ | ⟨rfl,h1,h2⟩
  ·rw[if_neg (by decide)];omega
  ·rw[if_pos rfl];omega
 unfold appP;rw[if_pos hc,if_pos hok]
 show (match does (subs its) l (if u=true then 4 else 1) t ((i:Nat):Int).toNat with | none=>_ | some m=>_)=_;rw[j8,hd]
theorem app_end {its:List It}{l:List Fa}{k:Nat × Bool × Int}{ok:Bool}(h:k∈openL its l)(h3:k.2.1=true→ok=false→k.2.2≠3):appP its l (evK k (endE k.2.1 ok))= .inr (l.set k.1 (endF (fOf l k.1) k.2.1 ok)):=by
 obtain⟨i,u,t⟩:=k
 have hd:=end_does h h3;obtain⟨hc,ho,h9⟩:=open_iff.1 h
 obtain⟨s1,s2,_⟩:=ho.1
 have h64:=(root_len (chkF_iff.1 hc).1).2;have s2':i < its.length:=s2;have ht:(u=false∧t=0)∨(u=true∧0≤t∧t≤3):=by
  rcases h9 with ⟨h1,h2,_⟩ | ⟨h1,h2,_⟩
  ·exact .inl ⟨h1,h2⟩
  ·obtain⟨a1,a2,a3,a4,_⟩:=(rt_of hc).ok i s2
   exact .inr ⟨h1,by omega,by omega⟩
 have hok:Ek.okE (evK (i,u,t) (endE u ok))=true:=by
  unfold Ek.okE evK Ek.okH endE;rw[jT]
  refine⟨decide_eq_true ?_,(show Ek.okS [0]=true by decide)⟩
  dsimp only
  rcases ht with ⟨rfl,rfl⟩ | ⟨rfl,h1,h2⟩ <;> cases ok <;> simp <;> omega
 unfold appP;rw[if_pos hc,if_pos hok]
 show (match does (subs its) l (endE u ok) t ((i:Nat):Int).toNat with | none=>_ | some m=>_)=_;rw[j8,hd]
theorem Begin_any {its:List It}{l:List Fa}{v lv:Value}{w:World}(h:PF its l v lv w)(k:Nat × Bool × Int)(hk:k∈mayL its l) :
  Calls Tryz.prog 17 #[.agg #[v],lv,KeV k] w fun e w'=>GoC (l.set k.1 (begF (fOf l k.1) k.2.1)) w e w':=by
 have hc:chkF its l=0:=by obtain⟨i,u,t⟩:=k;exact (may_iff.1 hk).1
 have HAE:Hid _:=app_beg hk;obtain⟨M,HMM⟩:∃M,Hid (M=l.set k.1 (begF (fOf l k.1) k.2.1)):=⟨_,rfl⟩
 rw[←HMM.out] at HAE ⊢
 have HEK:Hid (∀wx,Calls Tryz.prog 40 #[KeV k] wx fun e w'=>EvC k (if k.2.1 then 4 else 1) wx e w'):=fun wx=>begins_any k wx
 obtain⟨kd,HKD⟩:∃kd:Int,Hid ((if k.2.1 then 4 else 1)=kd):=⟨_,rfl⟩
 rw[HKD.out] at HAE HEK
 have hml0:(mayL its l).length≤1000000:=by have:= @may_few its l;omega
 have HKM:Hid (k∈mayL its l):=hk;obtain⟨m,HM⟩:∃m,Hid (m=(mayL its l).length):=⟨_,rfl⟩
 have hml:m≤1000000:=by rw[HM.out];exact hml0
 have hb1:=bl1 w (.cells #[v] 28);have hb2:=bl1 (w.alloc (.cells #[v] 28)) (.cells #[.int .i64 (k.1:Int),.bool k.2.1,.int .i64 k.2.2] 47);have HB2:Hid _:=hb1.trans (hb2.mono hb1.size);have r1:=Dg.row_alloc (Dg.row_new w #[v] 28) (.cells #[.int .i64 (k.1:Int),.bool k.2.1,.int .i64 k.2.2] 47);have r2:=Dg.row_new (w.alloc (.cells #[v] 28)) #[.int .i64 (k.1:Int),.bool k.2.1,.int .i64 k.2.2] 47;rw[jV] at r2
 have HPF0:Hid (∀wx,Below w.heap.size w wx→PF its l v lv wx):=fun wx hb=>h.later hb
 have HSE:Hid _:=see26_any (HPF0.out _ HB2.out);have HKV:Hid (KeV k= .agg #[.int .i64 (k.1:Int),.bool k.2.1,.int .i64 k.2.2]):=rfl;have c0:=(Dg.cell_row r1 0).trans rfl;have HR1:Hid _:=r1;have HR2:Hid _:=r2;obtain⟨xb,xo,icap,fb,fo,lcap,rfl,rfl,_⟩:=bs_of h.it h.fa hc
 obtain⟨_,hll,_⟩:=chk_facts hc
 have hfew:=root_len (chkF_iff.1 hc).1;have HCC:Hid _:=hc;obtain⟨n,HN⟩:∃n,Hid (its.length=n):=⟨_,rfl⟩
 have HLN:Hid (l.length=n):=hll.trans HN.out;rw[HN.out] at HSE HPF0 hfew c0 HB2 HR1 HR2 ⊢
 unfold KeV;clear h hb1 hb2 r1 r2 hc hll hml0 hk
 go_enter Tryz.func17,Tryz.ntmps17
 go_wp2_with fail
 obtain⟨s,hs⟩:∃s,w.heap.size=s:=⟨_,rfl⟩
 rw[hs] at HR1 HR2 c0 ⊢
 obtain⟨w1,hw1⟩:∃w1,(w.alloc (.cells #[.slice (some ⟨xb,xo,none⟩) n icap] 28)).alloc (.cells #[.int .i64 (k.1:Int),.bool k.2.1,.int .i64 k.2.2] 47)=w1:=⟨_,rfl⟩
 rw[hw1] at HR1 HR2 HB2 HSE c0 ⊢
 have HPF:Hid (∀wx,Below w1.heap.size w1 wx→PF its l (.slice (some ⟨xb,xo,none⟩) n icap) (.slice (some ⟨fb,fo,none⟩) n lcap) wx):=fun wx hb=>HPF0.out wx (HB2.out.trans (hb.mono HB2.out.size))
 have HBW:Hid (∀wx,Below w1.heap.size w1 wx→Below s w wx):=fun wx hb=>by have:=HB2.out.trans (hb.mono HB2.out.size);rw[hs] at this;exact this
 have HCV:Hid (∀wx,Below w1.heap.size w1 wx→wx.cell? ⟨s,0,none⟩=some (.slice (some ⟨xb,xo,none⟩) n icap)):=fun wx hb=>Dg.cell_later hb ((Dg.cell_row HR1.out 0).trans rfl)
 have HCK:Hid (∀wx,Below w1.heap.size w1 wx→wx.cell? ⟨s+1,0,none⟩=some (.int .i64 (k.1:Int))∧wx.cell? ⟨s+1,1,none⟩=some (.bool k.2.1)∧wx.cell? ⟨s+1,2,none⟩=some (.int .i64 k.2.2)):=fun wx hb=>
  ⟨Dg.cell_later hb ((Dg.cell_row HR2.out 0).trans rfl),Dg.cell_later hb ((Dg.cell_row HR2.out 1).trans rfl),Dg.cell_later hb ((Dg.cell_row HR2.out 2).trans rfl)⟩
 have HSW:Hid (w.heap.size=s):=hs;clear hw1 HR1 HR2 c0 HPF0 HB2 hs;refine Calls.mono (HSE.out) ?_;rintro e w2 ⟨hb2,pv,rfl,hp⟩;rw[HCC.out]
 unfold SeP at hp;rw[if_pos HCC.out] at hp
 obtain⟨P,ob,rfl,hO⟩:=hp
 have hB2:Below w1.heap.size w1 w2:=hb2;have HOU:Hid (∀wx,Below w2.heap.size w2 wx→Ou its l P ob wx):=fun wx hb=>hO.later hb
 have HB2:Hid _:=hB2;have HL2:Hid (∀wx,Below w2.heap.size w2 wx→Below w1.heap.size w1 wx):=fun wx hb=>HB2.out.trans (hb.mono HB2.out.size)
 have hS0:Below w2.heap.size w2 w2.drew:=(Below.refl _ _).drew;have HK:Hid (∀wx,Below w2.heap.size w2 wx→Calls Tryz.prog 28 #[.pointer (some ⟨ob,0,none⟩)] wx fun e w'=>∃y:Nat × Nat,e= .returned (.func (.func 57) #[] #[.pointer (some ⟨y.1,0,none⟩),.pointer (some ⟨y.2,0,none⟩)])∧Below w2.heap.size w2 w'∧Boxed w' y.1 70 (.pointer (some ⟨ob,0,none⟩))∧Boxed w' y.2 84 (.func (.func 54) #[] #[.pointer (some ⟨y.1,0,none⟩)])):=fun wx hb=>Calls.mono (keys_any (HOU.out wx hb)) (by
  rintro e w' ⟨hb9,bo,bm,rfl,q0,q1⟩;exact⟨(bo,bm),rfl,hb.trans (hb9.mono hb.size),q0,q1⟩)
 have HCO:Hid (∀(wx:World) (y:Nat × Nat),(Below w2.heap.size w2 wx∧Boxed wx y.1 70 (.pointer (some ⟨ob,0,none⟩))∧Boxed wx y.2 84 (.func (.func 54) #[] #[.pointer (some ⟨y.1,0,none⟩)]))→Calls Tryz.prog 27 #[.func (.func 57) #[] #[.pointer (some ⟨y.1,0,none⟩),.pointer (some ⟨y.2,0,none⟩)]] wx fun e w'=>∃z:Option Addr × Nat,e= .returned (.slice z.1 m z.2)∧Below w2.heap.size w2 w'∧RK w' (.slice z.1 m z.2) (mayL its l)):=fun wx y hh=>Calls.mono (collect_any (HOU.out wx hh.1) hh.2.1 hh.2.2) (by
  rintro e w' ⟨hb9,a,c,rfl,hr⟩;rw[←HM.out] at hr ⊢
  exact⟨(a,c),rfl,hh.1.trans (hb9.mono hh.1.size),hr⟩)
 have HCT:Hid (∀(wx:World) (z:Option Addr × Nat),(Below w2.heap.size w2 wx∧RK wx (.slice z.1 m z.2) (mayL its l))→Calls Tryz.prog 38 #[.slice z.1 m z.2,KeV k] wx fun e w'=>e= .returned (.bool true)∧Below w2.heap.size w2 w'):=fun wx z hh=>Calls.mono (contains_any (mayL its l) _ k wx hh.2 (by rw[←HM.out];exact hml)) (by
  rintro e w' ⟨rfl,hb⟩;rw[decide_eq_true HKM.out]
  exact⟨rfl,hh.1.trans (hb.mono hh.1.size)⟩)
 clear HSE hb2 hO hB2
 go_wp2_with fail
 refine region_thenG (β:=(Nat × Nat) × (Option Addr × Nat)) (fun z=>[(19,.pointer (some ⟨ob,0,none⟩)),(20,.func (.func 57) #[] #[.pointer (some ⟨z.1.1,0,none⟩),.pointer (some ⟨z.1.2,0,none⟩)]),(21,.slice z.2.1 m z.2.2),(22,KeV k),(23,.bool true),(24,.bool false)]) (fun z w'=>Below w2.heap.size w2 w') ?_ ?_
 ·refine wp_region_held (S:=fun w'=>Below w2.heap.size w2 w') (by kernel_rfl) ?_;simp only[jN,jM,jP,Nat.reduceAdd,jI,jJ,jO,jL,jK];refine tK 0 19 (.pointer (some ⟨ob,0,none⟩)) 5 rfl hS0 ?_;refine tV 3 22 (KeV k) 4 rfl hS0 ?_ (fun wx h=>by rw[HKV.out];obtain⟨y0,y1,y2⟩:=HCK.out wx (HL2.out wx h);go_simp);refine oneX (β:=Nat × Nat) (V:=fun y=> .func (.func 57) #[] #[.pointer (some ⟨y.1,0,none⟩),.pointer (some ⟨y.2,0,none⟩)]) (R:=fun y w'=>Below w2.heap.size w2 w'∧Boxed w' y.1 70 (.pointer (some ⟨ob,0,none⟩))∧Boxed w' y.2 84 (.func (.func 54) #[] #[.pointer (some ⟨y.1,0,none⟩)])) (i:=1) (d:=20) (f:=28) (args:= #[.pointer (some ⟨ob,0,none⟩)]) (fuel:=3) rfl rfl (by kernel_rfl) (by kernel_rfl) (fun _=>by kernel_rfl) (HK.out _ hS0) (fun y w' h=>h.1) (fun y wz1 hR1=>?_);simp only[jA,jB,jC];refine oneX (β:=Option Addr × Nat) (V:=fun x=> .slice x.1 m x.2) (R:=fun x w'=>Below w2.heap.size w2 w'∧RK w' (.slice x.1 m x.2) (mayL its l)) (i:=2) (d:=21) (f:=27) (args:= #[.func (.func 57) #[] #[.pointer (some ⟨y.1,0,none⟩),.pointer (some ⟨y.2,0,none⟩)]]) (fuel:=2) rfl rfl (by kernel_rfl) (by kernel_rfl) (fun _=>by kernel_rfl) (HCO.out _ _ hR1) (fun x w' h=>h.1) (fun x wz2 hR2=>?_);simp only[jA,jB,jC];refine oneW (R:=fun w'=>Below w2.heap.size w2 w') (i:=4) (d:=23) (f:=38) (args:= #[.slice x.1 m x.2,KeV k]) (v:= .bool true) (fuel:=1) rfl rfl (by kernel_rfl) (by kernel_rfl) (fun _=>by kernel_rfl) (HCT.out _ _ hR2) (fun w' h=>h) (fun wz hR4=>?_);simp only[jA,jB,jC];refine tK 5 24 (.bool false) 0 rfl (hR4) ?_;refine wpAnyH_done (by kernel_rfl) ?_ _;exact⟨rfl,(y,x),by kernel_rfl,(hR4)⟩
 ·rintro⟨⟨yb,ym⟩,za,zc⟩ w9 hF
  simp only[setAll,jA,jB,jC];have HF9:Hid (Below w1.heap.size w1 w9):=HL2.out w9 hF;clear hF hS0 HK HCO HCT HOU HB2 HL2
  go_wp2_with fail
  have hT0:Below w1.heap.size w1 w9.drew:=HF9.out.drew;have HBG:Hid (∀wx,Below w1.heap.size w1 wx→Calls Tryz.prog 40 #[KeV k] wx fun e w'=>∃g:Nat,e= .returned (Ek.EvV (evK k kd) (.slice (some ⟨g,0,none⟩) 1 1))∧Below w1.heap.size w1 w'∧w'.cell? ⟨g,0,none⟩=some (.int .i64 0)):=fun wx hb=>Calls.mono (HEK.out wx) (by
   rintro e w' ⟨hb9,g,rfl,_,hg⟩;exact⟨g,rfl,hb.trans (hb9.mono hb.size),hg⟩)
  have HAP:Hid (∀(wx:World) (g:Nat),(Below w1.heap.size w1 wx∧wx.cell? ⟨g,0,none⟩=some (.int .i64 0))→Calls Tryz.prog 39 #[.agg #[.slice (some ⟨xb,xo,none⟩) n icap],.slice (some ⟨fb,fo,none⟩) n lcap,Ek.EvV (evK k kd) (.slice (some ⟨g,0,none⟩) 1 1)] wx fun e w'=>∃u:Value,e= .returned (.tuple #[u,.int .i64 0])∧Below w1.heap.size w1 w'∧RF w' u M):=fun wx g hh=>Calls.mono (apply_any its _ _ _ l (evK k kd) wx (HPF.out wx hh.1).it (HPF.out wx hh.1).fair (HPF.out wx hh.1).tab (HPF.out wx hh.1).fa (ri_cell hh.2) (by show (1:Nat)≤_;omega) (by rw[HN.out];omega) (by rw[HLN.out];omega)) (by
   intro e w' he;rw[HAE.out] at he
   obtain⟨hb9,u,rfl,hu⟩:=he
   exact⟨u,rfl,hh.1.trans (hb9.mono hh.1.size),hu.rf⟩)
  refine region_thenG (β:=Nat × Value) (fun z=>[(25,.agg #[.slice (some ⟨xb,xo,none⟩) n icap]),(26,.slice (some ⟨fb,fo,none⟩) n lcap),(27,KeV k),(28,Ek.EvV (evK k kd) (.slice (some ⟨z.1,0,none⟩) 1 1)),(29,.tuple #[z.2,.int .i64 0]),(30,z.2),(31,.int .i64 0),(6,z.2),(7,.int .i64 0)]) (fun z w'=>Below w1.heap.size w1 w'∧RF w' z.2 M) ?_ ?_
  ·refine wp_region_held (S:=fun w'=>Below w1.heap.size w1 w') (by kernel_rfl) ?_;simp only[jN,jM,jP,Nat.reduceAdd,jI,jJ,jO,jL,jK];refine tV 0 25 (.agg #[.slice (some ⟨xb,xo,none⟩) n icap]) 8 rfl hT0 ?_ (fun wx h=>by have y0:=HCV.out wx h;go_simp);refine tK 1 26 (.slice (some ⟨fb,fo,none⟩) n lcap) 7 rfl hT0 ?_;refine tV 2 27 (KeV k) 6 rfl hT0 ?_ (fun wx h=>by rw[HKV.out];obtain⟨y0,y1,y2⟩:=HCK.out wx h;go_simp);refine oneX (β:=Nat) (V:=fun g=>Ek.EvV (evK k kd) (.slice (some ⟨g,0,none⟩) 1 1)) (R:=fun g w'=>Below w1.heap.size w1 w'∧w'.cell? ⟨g,0,none⟩=some (.int .i64 0)) (i:=3) (d:=28) (f:=40) (args:= #[KeV k]) (fuel:=5) rfl rfl (by kernel_rfl) (by kernel_rfl) (fun _=>by kernel_rfl) (HBG.out _ hT0) (fun g w' h=>h.1) (fun g wz3 hR3=>?_);simp only[jA,jB,jC];refine oneX (β:=Value) (V:=fun u=> .tuple #[u,.int .i64 0]) (R:=fun u w'=>Below w1.heap.size w1 w'∧RF w' u M) (i:=4) (d:=29) (f:=39) (args:= #[.agg #[.slice (some ⟨xb,xo,none⟩) n icap],.slice (some ⟨fb,fo,none⟩) n lcap,Ek.EvV (evK k kd) (.slice (some ⟨g,0,none⟩) 1 1)]) (fuel:=4) rfl rfl (by kernel_rfl) (by kernel_rfl) (fun _=>by kernel_rfl) (HAP.out _ _ hR3) (fun u w' h=>h.1) (fun u wz4 hR4=>?_);simp only[jA,jB,jC];refine tV 5 30 u 3 rfl (hR4.1) ?_ (fun wx h=>by go_simp);refine tV 6 31 (.int .i64 0) 2 rfl (hR4.1) ?_ (fun wx h=>by go_simp);refine tK 7 6 u 1 rfl (hR4.1) ?_;refine tK 8 7 (.int .i64 0) 0 rfl (hR4.1) ?_;refine wpAnyH_done (by kernel_rfl) ?_ _;exact⟨rfl,(g,u),by kernel_rfl,(hR4.1),hR4.2⟩
  ·rintro⟨g,u⟩ w10 hF
   simp only[setAll,jA,jB,jC];have HF10:Hid _:=hF;clear hF
   go_wp2_with fail
   go_ret2
   unfold GoC;refine⟨?_,_,rfl,HF10.out.2⟩
   rw[HSW.out]
   exact HBW.out _ HF10.out.1
theorem End_any {its:List It}{l:List Fa}{v lv:Value}{w:World}(h:PF its l v lv w)(k:Nat × Bool × Int)(ok:Bool)(hk:k∈openL its l)(h3:k.2.1=true→ok=false→k.2.2≠3) :
  Calls Tryz.prog 18 #[.agg #[v],lv,KeV k,.bool ok] w fun e w'=>GoC (l.set k.1 (endF (fOf l k.1) k.2.1 ok)) w e w':=by
 have hc:chkF its l=0:=by obtain⟨i,u,t⟩:=k;exact (open_iff.1 hk).1
 have HAE:Hid _:=app_end hk h3;obtain⟨M,HMM⟩:∃M,Hid (M=l.set k.1 (endF (fOf l k.1) k.2.1 ok)):=⟨_,rfl⟩
 rw[←HMM.out] at HAE ⊢
 have HEK:Hid (∀wx,Calls Tryz.prog 41 #[KeV k,.bool ok] wx fun e w'=>EvC k (endE k.2.1 ok) wx e w'):=fun wx=>ends_any k ok wx
 obtain⟨kd,HKD⟩:∃kd:Int,Hid (endE k.2.1 ok=kd):=⟨_,rfl⟩
 rw[HKD.out] at HAE HEK
 have hml0:(openL its l).length≤1000000:=by have:=opG_few l 0;have h64:=(root_len (chkF_iff.1 hc).1).2;have hl:=(chk_facts hc).2.1;unfold openL;rw[if_pos hc];omega
 have HKM:Hid (k∈openL its l):=hk;obtain⟨m,HM⟩:∃m,Hid (m=(openL its l).length):=⟨_,rfl⟩
 have hml:m≤1000000:=by rw[HM.out];exact hml0
 have hb1:=bl1 w (.cells #[v] 28);have hb2:=bl1 (w.alloc (.cells #[v] 28)) (.cells #[.int .i64 (k.1:Int),.bool k.2.1,.int .i64 k.2.2] 47);have HB2:Hid _:=hb1.trans (hb2.mono hb1.size);have r1:=Dg.row_alloc (Dg.row_new w #[v] 28) (.cells #[.int .i64 (k.1:Int),.bool k.2.1,.int .i64 k.2.2] 47);have r2:=Dg.row_new (w.alloc (.cells #[v] 28)) #[.int .i64 (k.1:Int),.bool k.2.1,.int .i64 k.2.2] 47;rw[jV] at r2
 have HPF0:Hid (∀wx,Below w.heap.size w wx→PF its l v lv wx):=fun wx hb=>h.later hb
 have HSE:Hid _:=checkF_any its v lv l _ (HPF0.out _ HB2.out).it (HPF0.out _ HB2.out).fair (HPF0.out _ HB2.out).tab (HPF0.out _ HB2.out).fa (HPF0.out _ HB2.out).il (HPF0.out _ HB2.out).ll;have HKV:Hid (KeV k= .agg #[.int .i64 (k.1:Int),.bool k.2.1,.int .i64 k.2.2]):=rfl;have c0:=(Dg.cell_row r1 0).trans rfl;have HR1:Hid _:=r1;have HR2:Hid _:=r2;obtain⟨xb,xo,icap,fb,fo,lcap,rfl,rfl,_⟩:=bs_of h.it h.fa hc
 obtain⟨_,hll,_⟩:=chk_facts hc
 have hfew:=root_len (chkF_iff.1 hc).1;have HCC:Hid _:=hc;obtain⟨n,HN⟩:∃n,Hid (its.length=n):=⟨_,rfl⟩
 have HLN:Hid (l.length=n):=hll.trans HN.out;rw[HN.out] at HSE HPF0 hfew c0 HB2 HR1 HR2 ⊢
 unfold KeV;clear h hb1 hb2 r1 r2 hc hll hml0 hk
 go_enter Tryz.func18,Tryz.ntmps18
 go_wp2_with fail
 obtain⟨s,hs⟩:∃s,w.heap.size=s:=⟨_,rfl⟩
 rw[hs] at HR1 HR2 c0 ⊢
 obtain⟨w1,hw1⟩:∃w1,(w.alloc (.cells #[.slice (some ⟨xb,xo,none⟩) n icap] 28)).alloc (.cells #[.int .i64 (k.1:Int),.bool k.2.1,.int .i64 k.2.2] 47)=w1:=⟨_,rfl⟩
 rw[hw1] at HR1 HR2 HB2 HSE c0 ⊢
 have HPF:Hid (∀wx,Below w1.heap.size w1 wx→PF its l (.slice (some ⟨xb,xo,none⟩) n icap) (.slice (some ⟨fb,fo,none⟩) n lcap) wx):=fun wx hb=>HPF0.out wx (HB2.out.trans (hb.mono HB2.out.size))
 have HBW:Hid (∀wx,Below w1.heap.size w1 wx→Below s w wx):=fun wx hb=>by have:=HB2.out.trans (hb.mono HB2.out.size);rw[hs] at this;exact this
 have HCV:Hid (∀wx,Below w1.heap.size w1 wx→wx.cell? ⟨s,0,none⟩=some (.slice (some ⟨xb,xo,none⟩) n icap)):=fun wx hb=>Dg.cell_later hb ((Dg.cell_row HR1.out 0).trans rfl)
 have HCK:Hid (∀wx,Below w1.heap.size w1 wx→wx.cell? ⟨s+1,0,none⟩=some (.int .i64 (k.1:Int))∧wx.cell? ⟨s+1,1,none⟩=some (.bool k.2.1)∧wx.cell? ⟨s+1,2,none⟩=some (.int .i64 k.2.2)):=fun wx hb=>
  ⟨Dg.cell_later hb ((Dg.cell_row HR2.out 0).trans rfl),Dg.cell_later hb ((Dg.cell_row HR2.out 1).trans rfl),Dg.cell_later hb ((Dg.cell_row HR2.out 2).trans rfl)⟩
 have HSW:Hid (w.heap.size=s):=hs;clear hw1 HR1 HR2 c0 HPF0 HB2 hs;refine Calls.mono (HSE.out) ?_;rintro e w2 ⟨rfl,hb2⟩;rw[HCC.out]
 have hB2:Below w1.heap.size w1 w2:=hb2;have HB2:Hid _:=hB2;have HL2:Hid (∀wx,Below w2.heap.size w2 wx→Below w1.heap.size w1 wx):=fun wx hb=>HB2.out.trans (hb.mono HB2.out.size)
 have hS0:Below w2.heap.size w2 w2.drew:=(Below.refl _ _).drew;have HK:Hid (∀wx,Below w2.heap.size w2 wx→Calls Tryz.prog 10 #[.agg #[.slice (some ⟨xb,xo,none⟩) n icap],.slice (some ⟨fb,fo,none⟩) n lcap] wx fun e w'=>∃z:Option Addr × Nat,e= .returned (.slice z.1 m z.2)∧Below w2.heap.size w2 w'∧RK w' (.slice z.1 m z.2) (openL its l)):=fun wx hb=>Calls.mono (open_any its _ _ l wx (HPF.out wx (HL2.out wx hb)).it (HPF.out wx (HL2.out wx hb)).fair (HPF.out wx (HL2.out wx hb)).tab (HPF.out wx (HL2.out wx hb)).fa (by rw[HN.out];omega) (by rw[HLN.out];omega)) (by
  rintro e w' ⟨hb9,u,rfl,hu⟩;obtain⟨a,c,rfl⟩:=hu.slice
  have h9:openP its l=openL its l:=rfl;rw[h9] at hu ⊢
  have hr:=hu.rk;rw[←HM.out] at hr ⊢
  exact⟨(a,c),rfl,hb.trans (hb9.mono hb.size),hr⟩)
 have HCT:Hid (∀(wx:World) (z:Option Addr × Nat),(Below w2.heap.size w2 wx∧RK wx (.slice z.1 m z.2) (openL its l))→Calls Tryz.prog 38 #[.slice z.1 m z.2,KeV k] wx fun e w'=>e= .returned (.bool true)∧Below w2.heap.size w2 w'):=fun wx z hh=>Calls.mono (contains_any (openL its l) _ k wx hh.2 (by rw[←HM.out];exact hml)) (by
  rintro e w' ⟨rfl,hb⟩;rw[decide_eq_true HKM.out]
  exact⟨rfl,hh.1.trans (hb.mono hh.1.size)⟩)
 clear HSE hb2 hB2
 go_wp2_with fail
 refine region_thenG (β:=Option Addr × Nat) (fun z=>[(14,.agg #[.slice (some ⟨xb,xo,none⟩) n icap]),(15,.slice (some ⟨fb,fo,none⟩) n lcap),(16,.slice z.1 m z.2),(17,KeV k),(18,.bool true),(19,.bool false)]) (fun z w'=>Below w2.heap.size w2 w') ?_ ?_
 ·refine wp_region_held (S:=fun w'=>Below w2.heap.size w2 w') (by kernel_rfl) ?_;simp only[jN,jM,jP,Nat.reduceAdd,jI,jJ,jO,jL,jK];refine tV 0 14 (.agg #[.slice (some ⟨xb,xo,none⟩) n icap]) 5 rfl hS0 ?_ (fun wx h=>by have y0:=HCV.out wx (HL2.out wx h);go_simp);refine tK 1 15 (.slice (some ⟨fb,fo,none⟩) n lcap) 4 rfl hS0 ?_;refine tV 3 17 (KeV k) 3 rfl hS0 ?_ (fun wx h=>by rw[HKV.out];obtain⟨y0,y1,y2⟩:=HCK.out wx (HL2.out wx h);go_simp);refine oneX (β:=Option Addr × Nat) (V:=fun x=> .slice x.1 m x.2) (R:=fun x w'=>Below w2.heap.size w2 w'∧RK w' (.slice x.1 m x.2) (openL its l)) (i:=2) (d:=16) (f:=10) (args:= #[.agg #[.slice (some ⟨xb,xo,none⟩) n icap],.slice (some ⟨fb,fo,none⟩) n lcap]) (fuel:=2) rfl rfl (by kernel_rfl) (by kernel_rfl) (fun _=>by kernel_rfl) (HK.out _ hS0) (fun x w' h=>h.1) (fun x wz2 hR2=>?_);simp only[jA,jB,jC];refine oneW (R:=fun w'=>Below w2.heap.size w2 w') (i:=4) (d:=18) (f:=38) (args:= #[.slice x.1 m x.2,KeV k]) (v:= .bool true) (fuel:=1) rfl rfl (by kernel_rfl) (by kernel_rfl) (fun _=>by kernel_rfl) (HCT.out _ _ hR2) (fun w' h=>h) (fun wz hR4=>?_);simp only[jA,jB,jC];refine tK 5 19 (.bool false) 0 rfl (hR4) ?_;refine wpAnyH_done (by kernel_rfl) ?_ _;exact⟨rfl,x,by kernel_rfl,(hR4)⟩
 ·rintro⟨za,zc⟩ w9 hF
  simp only[setAll,jA,jB,jC];have HF9:Hid (Below w1.heap.size w1 w9):=HL2.out w9 hF;clear hF hS0 HK HCT HB2 HL2
  go_wp2_with fail
  have hT0:Below w1.heap.size w1 w9.drew:=HF9.out.drew;have HBG:Hid (∀wx,Below w1.heap.size w1 wx→Calls Tryz.prog 41 #[KeV k,.bool ok] wx fun e w'=>∃g:Nat,e= .returned (Ek.EvV (evK k kd) (.slice (some ⟨g,0,none⟩) 1 1))∧Below w1.heap.size w1 w'∧w'.cell? ⟨g,0,none⟩=some (.int .i64 0)):=fun wx hb=>Calls.mono (HEK.out wx) (by
   rintro e w' ⟨hb9,g,rfl,_,hg⟩;exact⟨g,rfl,hb.trans (hb9.mono hb.size),hg⟩)
  have HAP:Hid (∀(wx:World) (g:Nat),(Below w1.heap.size w1 wx∧wx.cell? ⟨g,0,none⟩=some (.int .i64 0))→Calls Tryz.prog 39 #[.agg #[.slice (some ⟨xb,xo,none⟩) n icap],.slice (some ⟨fb,fo,none⟩) n lcap,Ek.EvV (evK k kd) (.slice (some ⟨g,0,none⟩) 1 1)] wx fun e w'=>∃u:Value,e= .returned (.tuple #[u,.int .i64 0])∧Below w1.heap.size w1 w'∧RF w' u M):=fun wx g hh=>Calls.mono (apply_any its _ _ _ l (evK k kd) wx (HPF.out wx hh.1).it (HPF.out wx hh.1).fair (HPF.out wx hh.1).tab (HPF.out wx hh.1).fa (ri_cell hh.2) (by show (1:Nat)≤_;omega) (by rw[HN.out];omega) (by rw[HLN.out];omega)) (by
   intro e w' he;rw[HAE.out] at he
   obtain⟨hb9,u,rfl,hu⟩:=he
   exact⟨u,rfl,hh.1.trans (hb9.mono hh.1.size),hu.rf⟩)
  refine region_thenG (β:=Nat × Value) (fun z=>[(20,.agg #[.slice (some ⟨xb,xo,none⟩) n icap]),(21,.slice (some ⟨fb,fo,none⟩) n lcap),(22,KeV k),(23,.bool ok),(24,Ek.EvV (evK k kd) (.slice (some ⟨z.1,0,none⟩) 1 1)),(25,.tuple #[z.2,.int .i64 0]),(26,z.2),(27,.int .i64 0),(8,z.2),(9,.int .i64 0)]) (fun z w'=>Below w1.heap.size w1 w'∧RF w' z.2 M) ?_ ?_
  ·refine wp_region_held (S:=fun w'=>Below w1.heap.size w1 w') (by kernel_rfl) ?_;simp only[jN,jM,jP,Nat.reduceAdd,jI,jJ,jO,jL,jK];refine tV 0 20 (.agg #[.slice (some ⟨xb,xo,none⟩) n icap]) 9 rfl hT0 ?_ (fun wx h=>by have y0:=HCV.out wx h;go_simp);refine tK 1 21 (.slice (some ⟨fb,fo,none⟩) n lcap) 8 rfl hT0 ?_;refine tV 2 22 (KeV k) 7 rfl hT0 ?_ (fun wx h=>by rw[HKV.out];obtain⟨y0,y1,y2⟩:=HCK.out wx h;go_simp);refine tK 3 23 (.bool ok) 6 rfl hT0 ?_;refine oneX (β:=Nat) (V:=fun g=>Ek.EvV (evK k kd) (.slice (some ⟨g,0,none⟩) 1 1)) (R:=fun g w'=>Below w1.heap.size w1 w'∧w'.cell? ⟨g,0,none⟩=some (.int .i64 0)) (i:=4) (d:=24) (f:=41) (args:= #[KeV k,.bool ok]) (fuel:=5) rfl rfl (by kernel_rfl) (by kernel_rfl) (fun _=>by kernel_rfl) (HBG.out _ hT0) (fun g w' h=>h.1) (fun g wz4 hR4=>?_);simp only[jA,jB,jC];refine oneX (β:=Value) (V:=fun u=> .tuple #[u,.int .i64 0]) (R:=fun u w'=>Below w1.heap.size w1 w'∧RF w' u M) (i:=5) (d:=25) (f:=39) (args:= #[.agg #[.slice (some ⟨xb,xo,none⟩) n icap],.slice (some ⟨fb,fo,none⟩) n lcap,Ek.EvV (evK k kd) (.slice (some ⟨g,0,none⟩) 1 1)]) (fuel:=4) rfl rfl (by kernel_rfl) (by kernel_rfl) (fun _=>by kernel_rfl) (HAP.out _ _ hR4) (fun u w' h=>h.1) (fun u wz5 hR5=>?_);simp only[jA,jB,jC];refine tV 6 26 u 3 rfl (hR5.1) ?_ (fun wx h=>by go_simp);refine tV 7 27 (.int .i64 0) 2 rfl (hR5.1) ?_ (fun wx h=>by go_simp);refine tK 8 8 u 1 rfl (hR5.1) ?_;refine tK 9 9 (.int .i64 0) 0 rfl (hR5.1) ?_;refine wpAnyH_done (by kernel_rfl) ?_ _;exact⟨rfl,(g,u),by kernel_rfl,(hR5.1),hR5.2⟩
  ·rintro⟨g,u⟩ w10 hF
   simp only[setAll,jA,jB,jC];have HF10:Hid _:=hF;clear hF
   go_wp2_with fail
   go_ret2
   unfold GoC;refine⟨?_,_,rfl,HF10.out.2⟩
   rw[HSW.out]
   exact HBW.out _ HF10.out.1
def tRow:Tr:= .b (.n ⟨[97],[120],[],false,false⟩ .e (.n ⟨[98],[121],[[97]],false,false⟩ .e .e)) .e
def iRow:List It:=[⟨[116],[],true,true,1,-1,0,[]⟩,⟨[97],[120],false,false,0,0,0,[]⟩,⟨[98],[121],false,false,0,0,0,[1]⟩]
theorem nm_x:nmP [120]=true:=by
 rw[nmP,(isName_iff _).2 (name1 120 120 (by decide +kernel) (by decide +kernel) (by decide +kernel))];rfl
theorem nm_y:nmP [121]=true:=by
 rw[nmP,(isName_iff _).2 (name1 121 121 (by decide +kernel) (by decide +kernel) (by decide +kernel))];rfl
theorem right_row:rightS [116] tRow=true:=by
 unfold rightS Sx.okL;rw[nm_t]
 have hb:bigL (fltn 1 tRow)=false:=by decide +kernel
 rw[hb]
 simp[tRow,fltn,nodeOk,nm_a,nm_b,nm_x,nm_y,Tr.len]
theorem fit_row:fitS [116] tRow=true:=by
 unfold fitS codeS;rw[right_row]
 decide +kernel
theorem plan_row:planT [116] tRow=some iRow:=by
 unfold planT planP;rw[if_pos ⟨fit_row,by decide +kernel,by decide +kernel,by kernel_rfl⟩]
 kernel_rfl
theorem saga_row:sagaP iRow=some ([116],tRow):=by
 have h1:nameI iRow 0=[116]:=by kernel_rfl
 have h2:bodS iRow=tRow:=by kernel_rfl
 unfold sagaP;rw[h1,h2,if_pos ⟨by decide +kernel,plan_row⟩]
theorem fair_row:Fair tRow:=Fair.of (by decide) (by simp[AllL,tRow])
theorem row_tree (W:World)(b1 b2 b4:Nat)
  (r1:W.heap[b1]? =some (.cells #[.string ⟨#[97]⟩] 9 (0,0)))
  (r2:W.heap[b2]? =some (.cells #[.string ⟨#[97]⟩,.string ⟨#[120]⟩,.slice none 0 0,.bool false,.bool false,.slice none 0 0,.string ⟨#[98]⟩,.string ⟨#[121]⟩,.slice (some ⟨b1,0,none⟩) 1 1,.bool false,.bool false,.slice none 0 0] 104 (0,0)))
  (r4:W.heap[b4]? =some (.cells #[.slice (some ⟨b2,0,none⟩) 2 2] 119 (0,0))) :
  TAt (· < W.heap.size) W true tRow (some ⟨b4,0,none⟩) 0 1:=by
 have l1:=(jD.1 r1).1;have l2:=(jD.1 r2).1;have l4:=(jD.1 r4).1;have nl:SAt (· < W.heap.size) W [] none 0:=⟨rfl,fun i x hx=>by simp at hx⟩;refine⟨rfl,by omega,⟨b4,0,_,2,2,rfl,l4,(Dg.cell_row r4 0).trans rfl,⟨rfl,by omega,⟨b2,0,none,0,0,none,0,0,rfl,l2,(Dg.cell_row r2 0).trans rfl,(Dg.cell_row r2 1).trans rfl,(Dg.cell_row r2 2).trans rfl,(Dg.cell_row r2 3).trans rfl,(Dg.cell_row r2 4).trans rfl,(Dg.cell_row r2 5).trans rfl,nl,rfl⟩,rfl,by omega,
  ⟨b2,0,some ⟨b1,0,none⟩,1,1,none,0,0,rfl,l2,(Dg.cell_row r2 6).trans rfl,(Dg.cell_row r2 7).trans rfl,(Dg.cell_row r2 8).trans rfl,(Dg.cell_row r2 9).trans rfl,(Dg.cell_row r2 10).trans rfl,(Dg.cell_row r2 11).trans rfl,⟨rfl,?_⟩,rfl⟩,rfl⟩⟩,rfl⟩
 intro i x hx
 match i,hx with
 | 0,hx=>
  simp at hx;subst hx;exact⟨b1,0,rfl,l1,(Dg.cell_row r1 0).trans rfl⟩
 | i+1,hx=>simp at hx
theorem five (w:World)(o0 o1 o2 o3 o4:Obj) :
  let W:=((((w.alloc o0).alloc o1).alloc o2).alloc o3).alloc o4
  W.heap[w.heap.size]? =some o0∧W.heap[w.heap.size+1]? =some o1∧W.heap[w.heap.size+1+1]? =some o2∧W.heap[w.heap.size+1+1+1+1]? =some o4∧Below w.heap.size w W:=by
 refine⟨?_,?_,?_,?_,?_⟩
 ·exact old1 (old1 (old1 (old1 (new1 w o0 _ rfl) _) _) _) _
 ·exact old1 (old1 (old1 (new1 _ o1 _ (by simp)) _) _) _
 ·exact old1 (old1 (new1 _ o2 _ (by simp)) _) _
 ·exact new1 _ o4 _ (by simp)
 ·exact (((((Below.refl _ w).alloc (jG _) _).alloc (by simp) _).alloc (by simp;omega) _).alloc (by simp;omega) _).alloc (by simp;omega) _
theorem row_any (w:World)(hT:Dg.Tab w):Calls Tryz.prog 22 #[] w fun x w'=>Below w.heap.size w w'∧∃v,x= .returned (.agg #[v])∧RdIt w' v iRow:=by
 obtain⟨q0,q1,q2,q4,hb⟩:=five w (.cells #[.slice none 0 0] 28) (.cells #[.string ⟨#[97]⟩] 9) (.cells #[.string ⟨#[97]⟩,.string ⟨#[120]⟩,.slice none 0 0,.bool false,.bool false,.slice none 0 0,.string ⟨#[98]⟩,.string ⟨#[121]⟩,.slice (some ⟨w.heap.size+1,0,none⟩) 1 1,.bool false,.bool false,.slice none 0 0] 104) (.cells #[.slice (some ⟨w.heap.size+1+1,0,none⟩) 2 2] 119) (.cells #[.slice (some ⟨w.heap.size+1+1,0,none⟩) 2 2] 119)
 have M:Hid _:=Make_any _ [116] tRow (some ⟨w.heap.size+1+1+1+1,0,none⟩) 1 (row_tree _ _ _ _ q1 q2 q4) fair_row (hT.later hb);have HB:Hid _:=hb;have Q0:Hid _:=q0;clear q0 q1 q2 q4 hb
 go_enter Tryz.func22,Tryz.ntmps22
 go_wp2_with fail
 generalize ((((w.alloc (.cells #[.slice none 0 0] 28)).alloc (.cells #[.string ⟨#[97]⟩] 9)).alloc (.cells #[.string ⟨#[97]⟩,.string ⟨#[120]⟩,.slice none 0 0,.bool false,.bool false,.slice none 0 0,.string ⟨#[98]⟩,.string ⟨#[121]⟩,.slice (some ⟨w.heap.size+1,0,none⟩) 1 1,.bool false,.bool false,.slice none 0 0] 104)).alloc (.cells #[.slice (some ⟨w.heap.size+1+1,0,none⟩) 2 2] 119)).alloc (.cells #[.slice (some ⟨w.heap.size+1+1,0,none⟩) 2 2] 119)=w0 at *;refine Calls.mono M.out ?_;rintro x w1 ⟨hb1,hx⟩;rw[plan_row] at hx
 obtain⟨v,rfl,hst⟩:=hx
 have r0:=(hb1.block _ (jD.1 Q0.out).1).trans Q0.out;obtain⟨ia,ic,rfl,hrr⟩:=hst.rd
 have HST:Hid _:=hst;have HB1:Hid (Below w.heap.size w w1):=HB.out.trans (hb1.mono HB.out.size);have HZ:Hid (w.heap.size < w0.heap.size∧w0.heap.size≤w1.heap.size):=⟨(jD.1 Q0.out).1,hb1.size⟩;have r1:=Dg.row_alloc r0 (.cells #[.slice ia iRow.length ic] 28);have z0:=(Dg.cell_row r1 0).trans rfl;have f0:=Dg.froz_row r1 0;have R0:Hid _:=r1;clear M hb1 hrr hst r0 r1
 go_wp2_with fail
 have r2:=Dg.row_set R0.out 0 (.slice ia iRow.length ic);refine⟨rfl,_,results_cell_row (p:=0) (ty:=28) rfl _ _ w.heap.size 28 #[_] (0,0) _ rfl r2 Tryz.underlying28 rfl (by kernel_rfl),(HB1.out.alloc HB1.out.size _).setCell (jG _) _,_,rfl,?_⟩
 refine HST.out _ fun b h1 h2=>?_
 have h3:=HZ.out;rw[jW _ _ _ b (by show b≠w.heap.size;omega)]
 exact zK _ _ _ h2
def lN:List Fa:=[Fa.z,Fa.z,Fa.z]
def lG:List Fa:=[Fa.z,⟨1,0,0,false⟩,Fa.z]
def lD:List Fa:=[Fa.z,⟨2,0,0,false⟩,Fa.z]
def lF:List Fa:=[Fa.z,⟨2,0,0,false⟩,⟨3,0,0,false⟩]
def lP:List Fa:=[Fa.z,⟨2,1,1,false⟩,⟨3,0,0,false⟩]
theorem chk_row {l:List Fa}(h:okL (subs iRow) l):chkF iRow l=0:=chkF_ok (by rw[saga_row];rfl) h
theorem ok3 {a b c:Fa}(ha:a=Fa.z)(hb:okF b)(hc:okF c):okL (subs iRow) [a,b,c]:=by
 subst ha;refine⟨rfl,fun i hi=>?_⟩
 have:i=0∨i=1∨i=2:=by simp at hi;omega
 rcases this with rfl | rfl | rfl
 ·exact⟨okF_z,fun _=>rfl⟩
 ·exact⟨hb,fun h=>by cases h⟩
 ·exact⟨hc,fun h=>by cases h⟩
theorem chkN:chkF iRow lN=0:=chk_row (ok3 rfl (by decide) (by decide))
theorem chkG:chkF iRow lG=0:=chk_row (ok3 rfl (by decide) (by decide))
theorem chkD:chkF iRow lD=0:=chk_row (ok3 rfl (by decide) (by decide))
theorem chkFe:chkF iRow lF=0:=chk_row (ok3 rfl (by decide) (by decide))
theorem chkP:chkF iRow lP=0:=chk_row (ok3 rfl (by decide) (by decide))
theorem mb_row {l:List Fa}(hc:chkF iRow l=0){i:Nat}(h1:1≤i)(h3:i < 3):mbB iRow l i=true↔(fOf l i).run=0∧atS iRow l 0=0∧falS iRow l 0 0=false∧verS iRow l=1∧(i=2→St.S (plOf iRow) (fOf l) 1=2):=by
 have e0:(plOf iRow).inn i=0∧(plOf iRow).alt i=0∧(plOf iRow).sub i=false:=by
  have:i=1∨i=2:=by omega
  rcases this with rfl | rfl <;> exact⟨rfl,rfl,rfl⟩
 have h3':i < iRow.length:=h3;rw[mb_parts hc h3',rcB_iff,rc_parts hc h1 h3',e0.1,e0.2.1,e0.2.2,rnB_iff,rn_ver hc]
 have ep:psB iRow l 1=true↔St.S (plOf iRow) (fOf l) 1=2:=by
  rw[psB_iff,ps_S hc (by decide)]
  constructor
  ·rintro (h | ⟨h,_⟩)
   ·exact h
   ·exact absurd h (by decide)
  ·exact .inl
 have:i=1∨i=2:=by omega
 rcases this with rfl | rfl
 ·have ea:afOf iRow 1=[]:=by decide
  rw[ea]
  constructor
  ·rintro⟨_,a,b,c,d,_⟩
   exact⟨a,b,c,d,fun h=>by cases h⟩
  ·rintro⟨a,b,c,d,_⟩
   exact⟨rfl,a,b,c,d,fun a h=>by cases h⟩
 ·have ea:afOf iRow 2=[1]:=by decide
  rw[ea]
  constructor
  ·rintro⟨_,a,b,c,d,e⟩
   exact⟨a,b,c,d,fun _=>ep.1 (e 1 (by simp))⟩
  ·rintro⟨a,b,c,d,e⟩
   refine⟨rfl,a,b,c,d,fun a h=>?_⟩
   simp at h;subst h;exact ep.2 (e rfl)
theorem let_zero {l:List Fa}(hc:chkF iRow l=0):letB iRow l 0=false:=by
 unfold letB;have h1:mbB iRow l 0=false:=by
  cases h:mbB iRow l 0 with
  | false=>rfl
  | true=>exact absurd ((mb_parts hc (by decide)).1 h).1 (by decide)
 have h2:muB iRow l 0=false:=by
  cases h:muB iRow l 0 with
  | false=>rfl
  | true=>have:=((mu_parts hc (by decide)).1 h).1.1;omega
 rw[h1,h2]
 rfl
theorem not_mu {l:List Fa}(hc:chkF iRow l=0){i:Nat}(h3:i < 3)(h:(fOf l i).run≠2∨falS iRow l 0 0=false):muB iRow l i=false:=by
 cases hm:muB iRow l i with
 | false=>rfl
 | true=>
  obtain⟨⟨a1,a2,_⟩,b,_⟩:=(mu_parts hc h3).1 hm
  rcases h with h | h
  ·exact absurd a2 h
  ·have:i=1∨i=2:=by omega
   have e:falS iRow l ((plOf iRow).inn i:Nat) ((plOf iRow).alt i:Nat)=falS iRow l 0 0:=by rcases this with rfl | rfl <;> rfl
   rw[e,h] at b
   cases b
theorem not_mb {l:List Fa}(hc:chkF iRow l=0){i:Nat}(h1:1≤i)(h3:i < 3)(h:(fOf l i).run≠0∨(i=2∧St.S (plOf iRow) (fOf l) 1≠2)):mbB iRow l i=false:=by
 cases hm:mbB iRow l i with
 | false=>rfl
 | true=>
  obtain⟨a,_,_,_,e⟩:=(mb_row hc h1 h3).1 hm
  rcases h with h | ⟨h,h'⟩
  ·exact absurd a h
  ·exact absurd (e h) h'
theorem may_row {l:List Fa}(hc:chkF iRow l=0){q1 q2:Bool}(h1:letB iRow l 1=q1)(h2:letB iRow l 2=q2):mayL iRow l=(if q1 then [keyOfF 1 (fOf l 1)] else []) ++ (if q2 then [keyOfF 2 (fOf l 2)] else []):=by
 rw[←keysL_may hc]
 unfold keysL letL;show (([0,1,2]:List Nat).filter (letB iRow l)).map _=_;rw[List.filter_cons,let_zero hc,List.filter_cons,h1,List.filter_cons,h2]
 cases q1 <;> cases q2 <;> rfl
theorem mayN:mayL iRow lN=[(1,false,0)]:=by
 have hf:falS iRow lN 0 0=false:=by unfold falS;rw[if_pos chkN];decide +kernel
 have h1:letB iRow lN 1=true:=by
  unfold letB;rw[(mb_row chkN (by decide) (by decide)).2 ⟨rfl,by unfold atS;rw[if_pos chkN];decide +kernel,hf,by unfold verS;rw[if_pos chkN];decide +kernel,fun h=>by cases h⟩]
  rfl
 have h2:letB iRow lN 2=false:=by
  unfold letB;rw[not_mb chkN (by decide) (by decide) (.inr ⟨rfl,by decide +kernel⟩),not_mu chkN (by decide) (.inr hf)]
  rfl
 rw[may_row chkN h1 h2]
 rfl
theorem mayG:mayL iRow lG=[]:=by
 have hf:falS iRow lG 0 0=false:=by unfold falS;rw[if_pos chkG];decide +kernel
 have h1:letB iRow lG 1=false:=by
  unfold letB;rw[not_mb chkG (by decide) (by decide) (.inl (by decide)),not_mu chkG (by decide) (.inr hf)]
  rfl
 have h2:letB iRow lG 2=false:=by
  unfold letB;rw[not_mb chkG (by decide) (by decide) (.inr ⟨rfl,by decide +kernel⟩),not_mu chkG (by decide) (.inr hf)]
  rfl
 rw[may_row chkG h1 h2]
 rfl
theorem mayD:mayL iRow lD=[(2,false,0)]:=by
 have hf:falS iRow lD 0 0=false:=by unfold falS;rw[if_pos chkD];decide +kernel
 have h1:letB iRow lD 1=false:=by
  unfold letB;rw[not_mb chkD (by decide) (by decide) (.inl (by decide)),not_mu chkD (by decide) (.inr hf)]
  rfl
 have h2:letB iRow lD 2=true:=by
  unfold letB;rw[(mb_row chkD (by decide) (by decide)).2 ⟨rfl,by unfold atS;rw[if_pos chkD];decide +kernel,hf,by unfold verS;rw[if_pos chkD];decide +kernel,fun _=>by decide +kernel⟩]
  rfl
 rw[may_row chkD h1 h2]
 rfl
theorem mu_row {l:List Fa}(hc:chkF iRow l=0)(hr:(fOf l 1).run=2∧(fOf l 1).un=false∧(fOf l 1).tries=(fOf l 1).slips)(hf:falS iRow l 0 0=true)(hcl:cleS iRow l 2=true):(1,true,(fOf l 1).slips)∈mayL iRow l:=by
 have ho:Oc (plOf iRow) (afOf iRow) (fOf l) 1:=fun k k1 k2 h=>by
  have k3:k < 3:=k2;have:k=1∨k=2:=by omega
  rcases this with rfl | rfl
  ·have ea:afOf iRow 1=[]:=by decide
   cases h with
   | one h=>rw[ea] at h;cases h
   | more h _=>rw[ea] at h;cases h
  ·exact (cl_S hc (by decide)).2 hcl
 refine may_iff.2 ⟨hc,.inr ⟨rfl,rfl,⟨by decide,by decide,rfl⟩,hr,(ff_S hc (by decide) (by decide) (by decide)).2 hf,ho,fun s hs h1=>?_⟩⟩;have h9:=(an_iff saga_row (by decide) (by decide) s).1 hs
 rcases h9 with rfl | ⟨h,_⟩
 ·exact absurd h1 (by decide)
 ·exact absurd h (by decide)
theorem isF:(1,true,(0:Int))∈mayL iRow lF:=
 mu_row (l:=lF) chkFe ⟨rfl,rfl,rfl⟩ (by unfold falS;rw[if_pos chkFe];decide +kernel) (by unfold cleS;rw[if_pos chkFe];decide +kernel)
theorem isP:(1,true,(1:Int))∈mayL iRow lP:=
 mu_row (l:=lP) chkP ⟨rfl,rfl,rfl⟩ (by unfold falS;rw[if_pos chkP];decide +kernel) (by unfold cleS;rw[if_pos chkP];decide +kernel)
theorem notF:(1,false,(0:Int))∉mayL iRow lF:=fun h=>by
 rcases (may_iff.1 h).2 with ⟨_,_,h⟩ | ⟨h,_⟩
 ·exact absurd h.2.1 (by decide)
 ·cases h
theorem fairI_row:FairI iRow:=by
 have:smallI iRow=true:=by decide +kernel
 exact (small_fair this).1
theorem neq_same (k:Nat × Bool × Int)(w:World):(Go.binOp .neq 47 (KeV k) (KeV k)).run Tryz.prog w= .ok (.bool false) w:=by
 unfold KeV
 go_simp
theorem neq_exec (k:Nat × Bool × Int){o:Oper}{x y:Operand}{a:Act}{w:World}{ty:TypeId}(ho:o.op= .binOp .neq 47 x y ty)(hx:a.eval x=KeV k)(hy:a.eval y=KeV k):(execOp a.eval o).run Tryz.prog w= .ok (.value (.bool false)) w:=by
 unfold execOp;have hg:(eqGuard BinOp.neq 47 x y (KeV k) (KeV k)).run Tryz.prog w= .ok () w:=by
  have hk:Tryz.prog.eqGuardType Tryz.prog.depth 47=false:=by kernel_rfl
  unfold eqGuard KeV;simp[hk]
 simp only[ho,hx,hy,Sem.run_bind,neq_same,hg,Result.andThen_ok];rfl
theorem sameKeys_any (K:List (Nat × Bool × Int))(u v:Value)(w:World)(hu:RK w u K)(hv:RK w v K)(hl:K.length≤1000000) :
  Calls Tryz.prog 23 #[u,v] w fun e w'=>e= .returned (.bool true)∧Below w.heap.size w w':=by
 obtain⟨ua,uc,rfl,huc,_,hur⟩:=hu
 obtain⟨va,vc,rfl,hvc,_,hvr⟩:=hv
 obtain⟨n,HN⟩:∃n,Hid (K.length=n):=⟨_,rfl⟩
 have HU:Hid _:=hur;have HV:Hid _:=hvr;clear hur hvr;rw[HN.out] at hl huc hvc ⊢
 have hne:((n:Int) !=(n:Int))=false:=by simp
 go_enter Tryz.func23,Tryz.ntmps23
 go_wp2_with fail
 go_loopw [5] (fun iv wr=>∃(i:Nat),i≤n∧iv= .int .i64 i∧Hid (Below w.heap.size w wr)) (fun iv _=>n - (intOf iv).toNat)
 case atStart=>exact⟨0,zE _,by go_num,Below.refl _ _⟩
 case round=>
  obtain⟨i,hi,rfl,HW⟩:=hrel
  rename World=>wr
  by_cases hlt:i < n
  rotate_left
  ·go_wp2_with fail
   go_ret
   exact⟨rfl,HW.out⟩
  ·obtain⟨x,hx⟩:∃x,K[i]? =some x:=⟨_,jF (by rw[HN.out];exact hlt)⟩
   obtain⟨ub,uo,rfl,cu0,cu1,cu2⟩:=HU.out i x hx
   obtain⟨vb,vo,rfl,cv0,cv1,cv2⟩:=HV.out i x hx
   have HCU:Hid (∀wx,Below w.heap.size w wx→wx.cell? ⟨ub,uo+i * 3,none⟩=some (.int .i64 (x.1:Int))∧wx.cell? ⟨ub,uo+i * 3+1,none⟩=some (.bool x.2.1)∧wx.cell? ⟨ub,uo+i * 3+2,none⟩=some (.int .i64 x.2.2)):=fun wx hb=>⟨Dg.cell_later hb cu0,Dg.cell_later hb cu1,Dg.cell_later hb cu2⟩
   have HCV:Hid (∀wx,Below w.heap.size w wx→wx.cell? ⟨vb,vo+i * 3,none⟩=some (.int .i64 (x.1:Int))∧wx.cell? ⟨vb,vo+i * 3+1,none⟩=some (.bool x.2.1)∧wx.cell? ⟨vb,vo+i * 3+2,none⟩=some (.int .i64 x.2.2)):=fun wx hb=>⟨Dg.cell_later hb cv0,Dg.cell_later hb cv1,Dg.cell_later hb cv2⟩
   have HXV:Hid (KeV x= .agg #[.int .i64 (x.1:Int),.bool x.2.1,.int .i64 x.2.2]):=rfl;have hii:(i:Int) < (n:Int):=by omega
   have hS0:Below w.heap.size w wr.drew:=HW.out.drew;clear hx cu0 cu1 cu2 cv0 cv1 cv2
   go_wp2_with fail
   refine region_thenF [(17,.slice (some ⟨ub,uo,none⟩) n uc),(18,.int .i64 i),(19,.pointer (some ⟨ub,uo+i * 3,none⟩)),(20,KeV x),(21,.slice (some ⟨vb,vo,none⟩) n vc),(22,.int .i64 i),(23,.pointer (some ⟨vb,vo+i * 3,none⟩)),(24,KeV x),(25,.bool false)] (fun w'=>Below w.heap.size w w') ?_ ?_
   ·refine wp_region_held (S:=fun w'=>Below w.heap.size w w') (by kernel_rfl) ?_;simp only[jN,jM,jP,Nat.reduceAdd,jI,jJ,jO,jL,jK];refine tK 0 17 (.slice (some ⟨ub,uo,none⟩) n uc) 8 rfl hS0 ?_;refine tK 1 18 (.int .i64 i) 7 rfl hS0 ?_;refine tG 2 19 (.pointer (some ⟨ub,uo+i * 3,none⟩)) 6 rfl hS0 ?_;refine tV 3 20 (KeV x) 5 rfl hS0 ?_ (fun wx h=>by rw[HXV.out];obtain⟨y0,y1,y2⟩:=HCU.out wx h;go_simp);refine tK 4 21 (.slice (some ⟨vb,vo,none⟩) n vc) 4 rfl hS0 ?_;refine tK 5 22 (.int .i64 i) 3 rfl hS0 ?_;refine tG 6 23 (.pointer (some ⟨vb,vo+i * 3,none⟩)) 2 rfl hS0 ?_;refine tV 7 24 (KeV x) 1 rfl hS0 ?_ (fun wx h=>by rw[HXV.out];obtain⟨y0,y1,y2⟩:=HCV.out wx h;go_simp);refine tV 8 25 (.bool false) 0 rfl hS0 ?_ (fun wx h=>neq_exec x (x:= .tmp 20) (y:= .tmp 24) rfl rfl rfl);refine wpAnyH_done (by kernel_rfl) ?_ _;exact⟨rfl,by kernel_rfl,hS0⟩
   ·intro w9 hF;simp only[setAll,jA,jB,jC];have HF9:Hid _:=hF;clear hF
    go_wp2_with fail
    go_roundw
    case rel=>exact⟨i+1,by omega,by go_num,HF9⟩
    case measure=>simp[intOf] <;> omega
end Go.Proofs.YtieoppabellafaaGreatDoor.Ts
