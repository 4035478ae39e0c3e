/- Texts of the seat, packed: An Ao Bm. -/
import Derived.Test.YtieoppabellafaaGreatDoorH01
import Derived.Test.YtieoppabellafaaGreatDoorH26
import Derived.Deep.SlicePairs
import Derived.OpenShut
set_option maxRecDepth 1000000
set_option maxHeartbeats 64000000
set_option linter.unusedVariables false
namespace Go.Proofs.YtieoppabellafaaGreatDoor.Ts
open Go.RowKit Go.Shelf Fc St Sx Sa
def NoK (hb:Nat)(w:World):Prop:=∃a c,w.heap[hb]? =some (.cells #[.slice a 0 c] 36 (0,0))∧RK w (.slice a 0 c) []
theorem NoK.later {hb:Nat}{w w':World}(h:NoK hb w)(hb':Below w.heap.size w w'):NoK hb w':=by
 obtain⟨a,c,h1,h2⟩:=h
 exact⟨a,c,(hb'.block _ (jD.1 h1).1).trans h1,h2.later hb'⟩
theorem next51_any {hb:Nat}{w:World}(h:NoK hb w)(k:Nat × Bool × Int):Calls Tryz.prog 51 #[KeV k,.pointer (some ⟨hb,0,none⟩)] w fun e w'=>e= .returned (.bool false)∧Below w.heap.size w w':=by
 obtain⟨a,c,h1,h2⟩:=h
 have hb1:=bl1 w (.cells #[.int .i64 (k.1:Int),.bool k.2.1,.int .i64 k.2.2] 47);have HB1:Hid _:=hb1;have r1:=Dg.row_new w #[.int .i64 (k.1:Int),.bool k.2.1,.int .i64 k.2.2] 47;have c0:=(Dg.cell_row (Dg.row_alloc h1 (.cells #[.int .i64 (k.1:Int),.bool k.2.1,.int .i64 k.2.2] 47)) 0).trans rfl;have k0:=(Dg.cell_row r1 0).trans rfl;have k1:=(Dg.cell_row r1 1).trans rfl;have k2:=(Dg.cell_row r1 2).trans rfl;have HC:Hid _:=contains_any [] (.slice a 0 c) k _ (h2.later hb1) (by simp);unfold KeV at HC ⊢;clear h1 h2 hb1 r1
 go_enter Tryz.func51,Tryz.ntmps51
 go_wp2_with fail
 refine Calls.mono HC.out ?_;rintro e w2 ⟨rfl,hb2⟩;have HB2:Hid _:=HB1.out.trans (hb2.mono HB1.out.size);clear HC hb2 HB1 c0 k0 k1 k2
 go_wp2_with fail
 go_ret
 exact⟨rfl,HB2.out⟩
theorem indexFunc_any {hb:Nat}{w:World}(h:NoK hb w)(K:List (Nat × Bool × Int))(v:Value)(hv:RK w v K)(hl:K.length≤1000000) :
  Calls Tryz.prog 81 #[v,.func (.func 51) #[] #[.pointer (some ⟨hb,0,none⟩)]] w fun e w'=>e= .returned (.int .i64 (-1))∧Below w.heap.size w w':=by
 obtain⟨ka,kc,rfl,hc,_,hr⟩:=hv
 obtain⟨n,HN⟩:∃n,Hid (K.length=n):=⟨_,rfl⟩
 rw[HN.out] at hc hl ⊢
 have HR:Hid _:=hr;have HNK:Hid (∀wx,Below w.heap.size w wx→NoK hb wx):=fun wx hb=>h.later hb
 clear hr h
 go_enter Tryz.func81,Tryz.ntmps81
 go_wp2_with fail
 go_loopw [8] (fun iv wr=>∃(i:Nat),i≤n∧iv= .int .i64 i∧Hid (Below w.heap.size w wr)) (fun iv _=>n - (intOf iv).toNat)
 case atStart=>exact⟨0,zE _,by go_num,Below.refl _ _⟩
 case round=>
  obtain⟨i,hi,rfl,HW⟩:=hrel
  rename World=>wr
  by_cases hlt:i < n
  rotate_left
  ·go_wp2_with fail
   go_ret
   exact⟨rfl,HW.out⟩
  ·obtain⟨x,hx⟩:∃x,K[i]? =some x:=⟨_,jF (by rw[HN.out];exact hlt)⟩
   obtain⟨kb,ko,rfl,c0,c1,c2⟩:=HR.out i x hx
   have d0:=Dg.cell_later HW.out c0;have d1:=Dg.cell_later HW.out c1;have d2:=Dg.cell_later HW.out c2;have HC:Hid _:=next51_any (HNK.out wr HW.out) x;unfold KeV at HC;have hcf:∀wx,(callFunc 51 #[.agg #[.int .i64 (x.1:Int),.bool x.2.1,.int .i64 x.2.2],.pointer (some ⟨hb,0,none⟩)]).run Tryz.prog wx= .ok (.enter 51 #[.agg #[.int .i64 (x.1:Int),.bool x.2.1,.int .i64 x.2.2],.pointer (some ⟨hb,0,none⟩)]) wx:=fun wx=>enters_of Tryz.func51 (by kernel_rfl) rfl _ _
   have hii:(i:Int) < (n:Int):=by omega
   clear hx c0 c1 c2
   go_wp2_with fail
   refine Calls.mono HC.out ?_;rintro e w2 ⟨rfl,hb2⟩;have HW2:Hid _:=HW.out.trans (hb2.mono HW.out.size);clear HC hb2 d0 d1 d2 hcf HW
   go_wp2_with fail
   go_roundw
   case rel=>exact⟨i+1,by omega,by go_num,HW2⟩
   case measure=>simp[intOf] <;> omega
theorem deleteFunc_any {hb:Nat}{w:World}(h:NoK hb w)(K:List (Nat × Bool × Int))(a:Option Addr)(n c:Nat)(hv:RK w (.slice a n c) K)(hl:K.length≤1000000) :
  Calls Tryz.prog 50 #[.slice a n c,.func (.func 51) #[] #[.pointer (some ⟨hb,0,none⟩)]] w fun e w'=>e= .returned (.slice a n c)∧Below w.heap.size w w':=by
 have HI:Hid _:=indexFunc_any h K _ hv hl;clear h hv
 go_enter Tryz.func50,Tryz.ntmps50
 go_wp2_with fail
 refine Calls.mono HI.out ?_;rintro e w2 ⟨rfl,hb2⟩;have HB2:Hid _:=hb2;clear HI hb2
 go_wp2_with fail
 go_ret
 exact⟨rfl,HB2.out⟩
theorem Next_any {its:List It}{l m:List Fa}{v lv mv:Value}{w:World}(h:PF its l v lv w)(hm:PF its m v mv w)(hc:chkF its l=0)(he:mayL its l=[]) :
  Calls Tryz.prog 24 #[.agg #[v],lv,mv] w fun e w'=>Below w.heap.size w w'∧∃a c,e= .returned (.slice a (mayL its m).length c)∧RK w' (.slice a (mayL its m).length c) (mayL its m):=by
 have hb1:=bl1 w (.cells #[v] 28);have HSE:Hid _:=see26_any (h.later hb1);have HPM:Hid (∀wx,Below w.heap.size w wx→PF its m v mv wx):=fun wx hb=>hm.later hb
 have r0:=Dg.row_new w #[v] 28;have c0:=(Dg.cell_row r0 0).trans rfl;have HR0:Hid _:=r0;have HB1:Hid _:=hb1;have HCC:Hid _:=hc;have HE:Hid _:=he;have HML:Hid ((mayL its m).length≤1000000):=by have:= @may_few its m;show _≤_;omega
 obtain⟨xa,xc,rfl,_⟩:=h.it
 obtain⟨ma,mc,rfl,_⟩:=hm.fa
 rw[hc] at HSE
 clear h hm hb1 hc he r0
 go_enter Tryz.func24,Tryz.ntmps24
 go_wp2_with fail
 refine Calls.mono HSE.out ?_;rintro e w2 ⟨hb2,pv,rfl,hp⟩;unfold SeP at hp;rw[if_pos HCC.out] at hp
 obtain⟨P,ob,rfl,hO⟩:=hp
 have HO:Hid _:=hO;have HB2:Hid _:=HB1.out.trans (hb2.mono HB1.out.size);have HR2:Hid _:=(hb2.block _ (jD.1 HR0.out).1).trans HR0.out;have HK:Hid _:=keys_any hO;clear HSE hb2 c0 hO HB1 HR0
 go_wp2_with fail
 refine Calls.mono HK.out ?_;rintro e w3 ⟨hb3,bo,bm,rfl,q0,q1⟩;have HB3:Hid _:=HB2.out.trans (hb3.mono HB2.out.size);have HR3:Hid _:=(hb3.block _ (jD.1 HR2.out).1).trans HR2.out;have HC:Hid _:=collect_any (HO.out.later hb3) q0 q1;rw[HE.out] at HC
 clear HK hb3 q0 q1 HB2 HO HR2
 go_wp2_with fail
 refine Calls.mono HC.out ?_;rintro e w4 ⟨hb4,a,c,rfl,hr⟩;have HB4:Hid _:=HB3.out.trans (hb4.mono HB3.out.size);have HR4:Hid _:=(hb4.block _ (jD.1 HR3.out).1).trans HR3.out;have hb5:=bl1 w4 (.cells #[.slice a 0 c] 36);have HNK:Hid (NoK w4.heap.size (w4.alloc (.cells #[.slice a 0 c] 36))):=⟨a,c,Dg.row_new w4 #[.slice a 0 c] 36,hr.later hb5⟩;have HB5:Hid _:=HB4.out.trans (hb5.mono HB4.out.size);have c5:=(Dg.cell_row (Dg.row_alloc HR4.out (.cells #[.slice a 0 c] 36)) 0).trans rfl;have HMY:Hid _:=May_any (HPM.out _ HB5.out);clear HC hb4 hr HB3 HR3 HR4 HB4 hb5
 go_wp2_with fail
 refine Calls.mono HMY.out ?_;rintro e w6 ⟨hb6,a6,c6,rfl,hr6⟩;have HB6:Hid _:=HB5.out.trans (hb6.mono HB5.out.size);have HDF:Hid _:=deleteFunc_any (HNK.out.later hb6) (mayL its m) a6 _ c6 hr6 HML.out;have HR6:Hid _:=hr6;clear HMY hb6 c5 HB5 HNK hr6
 go_wp2_with fail
 refine Calls.mono HDF.out ?_;rintro e w7 ⟨rfl,hb7⟩;have HB7:Hid _:=HB6.out.trans (hb7.mono HB6.out.size);have HR7:Hid (RK w7 (.slice a6 (mayL its m).length c6) (mayL its m)):=RK.later HR6.out hb7;clear HDF hb7 HB6 HR6
 go_wp2_with fail
 go_ret
 exact⟨HB7.out,a6,c6,rfl,HR7.out⟩
theorem RF.three {w:World}{g:Nat}{a b c:Fa}(h:w.heap[g]? =some (.cells (rowsF [a,b,c]).toArray 55 (0,0))):RF w (.slice (some ⟨g,0,none⟩) 3 3) [a,b,c]:=by
 refine⟨_,3,rfl,by simp,by unfold maxLen;omega,fun i f hf=>⟨g,0,rfl,?_⟩⟩
 have hi:i < 3:=by have:=(jH.1 hf).1;simpa using this
 have hc:∀j,j < 4→w.cell? ⟨g,0+i * 4+j,none⟩=f.cells[j]? :=fun j hj=>by
  rw[Dg.cell_row h,jY,zD]
  exact rowsF_get _ i f hf j hj
 exact⟨hc 0 (by omega),hc 1 (by omega),hc 2 (by omega),hc 3 (by omega)⟩
theorem RK.one {w:World}{g i:Nat}{u:Bool}{t:Int}(h:w.heap[g]? =some (.cells #[.int .i64 (i:Int),.bool u,.int .i64 t] 47 (0,0))):RK w (.slice (some ⟨g,0,none⟩) 1 1) [(i,u,t)]:=by
 refine⟨_,1,rfl,by simp,by unfold maxLen;omega,fun j f hf=>⟨g,0,rfl,?_⟩⟩
 have hj:j=0:=by have:=(jH.1 hf).1;simp at this;omega
 subst hj;cases hf;exact⟨(Dg.cell_row h 0).trans rfl,(Dg.cell_row h 1).trans rfl,(Dg.cell_row h 2).trans rfl⟩
structure LvS (w:World)(v:Value)(p n1:Nat)(u1 u2:Value)(qf qs:Nat)(W:World):Prop where
 bel:Below w.heap.size w W
 rd:RdIt W v iRow
 tab:Dg.Tab W
 box:W.heap[p]? =some (.cells #[v] 28 (0,0))
 n:RF W (.slice (some ⟨n1,0,none⟩) 3 3) lN
 g:RF W u1 lG
 d:RF W u2 lD
 f:RF W (.slice (some ⟨qf,0,none⟩) 3 3) lF
 s:RF W (.slice (some ⟨qs,0,none⟩) 3 3) lP
theorem LvS.later {w:World}{v:Value}{p n1 qf qs:Nat}{u1 u2:Value}{W W':World}(h:LvS w v p n1 u1 u2 qf qs W)(hb:Below W.heap.size W W'):LvS w v p n1 u1 u2 qf qs W':=
 ⟨h.bel.trans (hb.mono h.bel.size),h.rd.later hb,h.tab.later hb,(hb.block _ (jD.1 h.box).1).trans h.box,h.n.later hb,h.g.later hb,h.d.later hb,h.f.later hb,h.s.later hb⟩
theorem pf_row {W:World}{v lv:Value}{l:List Fa}(hr:RdIt W v iRow)(ht:Dg.Tab W)(hl:RF W lv l)(h3:l.length≤1000):PF iRow l v lv W:=⟨hr,fairI_row,ht,hl,by decide,by omega⟩
theorem open_row:(1,false,(0:Int))∈openL iRow lG:=by
 unfold openL;rw[if_pos chkG]
 decide
theorem lives_any (w:World)(hT:Dg.Tab w):Calls Tryz.prog 7 #[] w fun e w'=>e= .returned (.bool true)∧Below w.heap.size w w':=by
 have HT:Hid (∀wx,Below w.heap.size w wx→Dg.Tab wx):=fun wx hb=>hT.later hb
 have HR:Hid _:=row_any w hT;obtain⟨C,HCC,hmk0⟩:=make_facts 3 (by omega)
 have hmk:∀wx:World,(Instr.makeSlice 33 (.int .i64 3) (.int .i64 3)).run Tryz.prog wx= .ok (.slice (some ⟨wx.heap.size,0,none⟩) 3 3) (wx.alloc (.cells C 55)):=hmk0
 clear hT hmk0
 go_enter Tryz.func7,Tryz.ntmps7
 go_wp2_with fail
 refine Calls.mono HR.out ?_;rintro e w1 ⟨hb1,v,rfl,hrd⟩;obtain⟨ia,ic,rfl,_⟩:=id hrd
 have b2:=bl1 w1 (.cells #[.slice ia iRow.length ic] 28);have b3:=bl1 (w1.alloc (.cells #[.slice ia iRow.length ic] 28)) (.cells C 55);have HB2:Hid _:=b2.trans (b3.mono b2.size);have HB1:Hid (Below w.heap.size w ((w1.alloc (.cells #[.slice ia iRow.length ic] 28)).alloc (.cells C 55))):=hb1.trans (HB2.out.mono hb1.size);have r1:=Dg.row_alloc (Dg.row_new w1 #[.slice ia iRow.length ic] 28) (.cells C 55);have r2:=Dg.row_new (w1.alloc (.cells #[.slice ia iRow.length ic] 28)) C 55;rw[jV] at r2
 have HRD:Hid _:=RdIt.later hrd HB2.out;have HN:Hid (RF ((w1.alloc (.cells #[.slice ia iRow.length ic] 28)).alloc (.cells C 55)) (.slice (some ⟨w1.heap.size+1,0,none⟩) 3 3) lN):=by
  refine RF.three ?_;rw[r2,HCC.out]
  rfl
 have HBX:Hid _:=r1;have z1:=(Dg.cell_row r1 0).trans rfl;clear hb1 hrd b2 b3 r1 r2 HB2 HR
 go_wp2_with fail
 generalize hw2:(w1.alloc (.cells #[.slice ia iRow.length ic] 28)).alloc (.cells C 55)=w2 at *;generalize w1.heap.size=p at *;have HPN:Hid (∀wx,Below w2.heap.size w2 wx→PF iRow lN (.slice ia iRow.length ic) (.slice (some ⟨p+1,0,none⟩) 3 3) wx):=fun wx hb=>pf_row (RdIt.later HRD.out hb) (HT.out wx (HB1.out.trans (hb.mono HB1.out.size))) (RF.later HN.out hb) (by decide)
 have HBG:Hid _:=Begin_any (HPN.out w2 (Below.refl _ _)) (1,false,0) (by rw[mayN];simp);have e1:lN.set (1:Nat) (begF (fOf lN 1) false)=lG:=by rfl
 unfold KeV at HBG;dsimp only at HBG;rw[e1] at HBG
 clear hw2 hmk HCC e1;refine Calls.mono HBG.out ?_;rintro e w3 ⟨hb3,u1,rfl,hu1⟩;have HB3:Hid _:=HB1.out.trans (hb3.mono HB1.out.size);have HRD3:Hid (RdIt w3 (.slice ia iRow.length ic) iRow):=RdIt.later HRD.out hb3;have HBX3:Hid _:=(hb3.block _ (jD.1 HBX.out).1).trans HBX.out;have HN3:Hid (RF w3 (.slice (some ⟨p+1,0,none⟩) 3 3) lN):=RF.later HN.out hb3;have HU1:Hid (RF w3 u1 lG):=hu1;have z3:=(Dg.cell_row HBX3.out 0).trans rfl;have HEN:Hid _:=End_any (pf_row HRD3.out (HT.out w3 HB3.out) hu1 (by decide)) (1,false,0) true open_row (fun h=>by cases h);have e2:lG.set (1:Nat) (endF (fOf lG 1) false true)=lD:=by rfl
 unfold KeV at HEN;dsimp only at HEN;rw[e2] at HEN
 clear hb3 hu1 HBG HB1 HRD HBX HN HPN z1 e2
 go_wp2_with fail
 refine Calls.mono HEN.out ?_;rintro e w4 ⟨hb4,u2,rfl,hu2⟩;have q1:=Dg.row_alloc (Dg.row_new w4 #[.int .i64 0,.int .i64 0,.int .i64 0,.bool false,.int .i64 2,.int .i64 0,.int .i64 0,.bool false,.int .i64 3,.int .i64 0,.int .i64 0,.bool false] 55) (.cells #[.int .i64 0,.int .i64 0,.int .i64 0,.bool false,.int .i64 2,.int .i64 1,.int .i64 1,.bool false,.int .i64 3,.int .i64 0,.int .i64 0,.bool false] 55);have q2:=Dg.row_new (w4.alloc (.cells #[.int .i64 0,.int .i64 0,.int .i64 0,.bool false,.int .i64 2,.int .i64 0,.int .i64 0,.bool false,.int .i64 3,.int .i64 0,.int .i64 0,.bool false] 55)) #[.int .i64 0,.int .i64 0,.int .i64 0,.bool false,.int .i64 2,.int .i64 1,.int .i64 1,.bool false,.int .i64 3,.int .i64 0,.int .i64 0,.bool false] 55;rw[jV] at q2
 have b5:=bl1 w4 (.cells #[.int .i64 0,.int .i64 0,.int .i64 0,.bool false,.int .i64 2,.int .i64 0,.int .i64 0,.bool false,.int .i64 3,.int .i64 0,.int .i64 0,.bool false] 55);have b6:=bl1 (w4.alloc (.cells #[.int .i64 0,.int .i64 0,.int .i64 0,.bool false,.int .i64 2,.int .i64 0,.int .i64 0,.bool false,.int .i64 3,.int .i64 0,.int .i64 0,.bool false] 55)) (.cells #[.int .i64 0,.int .i64 0,.int .i64 0,.bool false,.int .i64 2,.int .i64 1,.int .i64 1,.bool false,.int .i64 3,.int .i64 0,.int .i64 0,.bool false] 55);have b7:=b5.trans (b6.mono b5.size);have b8:=hb4.trans (b7.mono hb4.size);have HL0:Hid (LvS w (.slice ia iRow.length ic) p (p+1) u1 u2 w4.heap.size (w4.heap.size+1) ((w4.alloc (.cells #[.int .i64 0,.int .i64 0,.int .i64 0,.bool false,.int .i64 2,.int .i64 0,.int .i64 0,.bool false,.int .i64 3,.int .i64 0,.int .i64 0,.bool false] 55)).alloc (.cells #[.int .i64 0,.int .i64 0,.int .i64 0,.bool false,.int .i64 2,.int .i64 1,.int .i64 1,.bool false,.int .i64 3,.int .i64 0,.int .i64 0,.bool false] 55))):=by
  have hbw:=HB3.out.trans (b8.mono HB3.out.size);exact⟨hbw,RdIt.later HRD3.out b8,HT.out _ hbw,(b8.block _ (jD.1 HBX3.out).1).trans HBX3.out,RF.later HN3.out b8,RF.later HU1.out b8,RF.later hu2 b7,RF.three q1,RF.three q2⟩
 have z4:=(Dg.cell_row HL0.out.box 0).trans rfl;clear hb4 hu2 q1 q2 b5 b6 b7 b8 HEN HB3 HRD3 HBX3 HN3 HU1 z3 HT;obtain⟨u1a,u1c,rfl⟩:∃a c,u1= .slice a 3 c:=by obtain⟨a,c,e,_⟩:=HL0.out.g;exact⟨a,c,e⟩
 obtain⟨u2a,u2c,rfl⟩:∃a c,u2= .slice a 3 c:=by obtain⟨a,c,e,_⟩:=HL0.out.d;exact⟨a,c,e⟩
 go_wp2_with fail
 generalize (w4.alloc (.cells #[.int .i64 0,.int .i64 0,.int .i64 0,.bool false,.int .i64 2,.int .i64 0,.int .i64 0,.bool false,.int .i64 3,.int .i64 0,.int .i64 0,.bool false] 55)).alloc (.cells #[.int .i64 0,.int .i64 0,.int .i64 0,.bool false,.int .i64 2,.int .i64 1,.int .i64 1,.bool false,.int .i64 3,.int .i64 0,.int .i64 0,.bool false] 55)=w5 at *;generalize w4.heap.size=q at *;have HM1:Hid _:=May_any (pf_row HL0.out.rd HL0.out.tab HL0.out.n (by decide));rw[mayN] at HM1
 refine Calls.mono HM1.out ?_;rintro e w6 ⟨hb6,a6,c6,rfl,hr6⟩;have hb7:=bl1 w6 (.cells #[.int .i64 1,.bool false,.int .i64 0] 47);have HL7:Hid _:=(HL0.out.later hb6).later hb7;have HS1:Hid _:=sameKeys_any [(1,false,0)] _ _ _ (hr6.later hb7) (RK.one (i:=1) (Dg.row_new w6 #[.int .i64 1,.bool false,.int .i64 0] 47)) (by decide);clear HM1 hb6 hr6 hb7 HL0 z4
 go_wp2_with fail
 refine Calls.mono HS1.out ?_;rintro e w8 ⟨rfl,hb8⟩;have HL8:Hid _:=HL7.out.later hb8;have z8:=(Dg.cell_row HL8.out.box 0).trans rfl;have HM2:Hid _:=May_any (pf_row HL8.out.rd HL8.out.tab HL8.out.g (by decide));rw[mayG] at HM2
 clear HS1 hb8 HL7
 go_wp2_with fail
 refine Calls.mono HM2.out ?_;rintro e w9 ⟨hb9,a9,c9,rfl,_⟩;have HL9:Hid _:=HL8.out.later hb9;have z9:=(Dg.cell_row HL9.out.box 0).trans rfl;have HNX:Hid _:=Next_any (pf_row HL9.out.rd HL9.out.tab HL9.out.g (by decide)) (pf_row HL9.out.rd HL9.out.tab HL9.out.d (by decide)) chkG mayG;rw[mayD] at HNX
 clear HM2 hb9 HL8 z8
 go_wp2_with fail
 refine Calls.mono HNX.out ?_;rintro e w10 ⟨hb10,a10,c10,rfl,hr10⟩;have hb11:=bl1 w10 (.cells #[.int .i64 2,.bool false,.int .i64 0] 47);have HL11:Hid _:=(HL9.out.later hb10).later hb11;have HS2:Hid _:=sameKeys_any [(2,false,0)] _ _ _ (hr10.later hb11) (RK.one (i:=2) (Dg.row_new w10 #[.int .i64 2,.bool false,.int .i64 0] 47)) (by decide);clear HNX hb10 hr10 hb11 HL9 z9
 go_wp2_with fail
 refine Calls.mono HS2.out ?_;rintro e w12 ⟨rfl,hb12⟩;have HL12:Hid _:=HL11.out.later hb12;have z12:=(Dg.cell_row HL12.out.box 0).trans rfl;have HI1:Hid _:=Is_any (pf_row HL12.out.rd HL12.out.tab HL12.out.f (by decide)) (1,true,0);rw[decide_eq_true isF] at HI1
 unfold KeV at HI1;dsimp only at HI1;clear HS2 hb12 HL11
 go_wp2_with fail
 refine Calls.mono HI1.out ?_;rintro e w13 ⟨rfl,hb13⟩;have HL13:Hid _:=HL12.out.later hb13;have z13:=(Dg.cell_row HL13.out.box 0).trans rfl;have HI2:Hid _:=Is_any (pf_row HL13.out.rd HL13.out.tab HL13.out.s (by decide)) (1,true,1);rw[decide_eq_true isP] at HI2
 unfold KeV at HI2;dsimp only at HI2;clear HI1 hb13 HL12 z12
 go_wp2_with fail
 refine Calls.mono HI2.out ?_;rintro e w14 ⟨rfl,hb14⟩;have HL14:Hid _:=HL13.out.later hb14;have z14:=(Dg.cell_row HL14.out.box 0).trans rfl;have HI3:Hid _:=Is_any (pf_row HL14.out.rd HL14.out.tab HL14.out.f (by decide)) (1,false,0);rw[decide_eq_false notF] at HI3
 unfold KeV at HI3;dsimp only at HI3;clear HI2 hb14 HL13 z13
 go_wp2_with fail
 refine Calls.mono HI3.out ?_;rintro e w15 ⟨rfl,hb15⟩;have HB15:Hid _:=(HL14.out.later hb15).bel;clear HI3 hb15 HL14 z14
 go_wp2_with fail
 go_ret
 exact⟨rfl,HB15.out⟩
def PkR (w:World)(v:Value)(L:List (Int × Bool)):Prop:=∃a cap,v= .slice a L.length cap∧L.length≤cap∧∀(i:Nat) (x:Int × Bool),L[i]? =some x→∃b off,a=some ⟨b,off,none⟩∧w.cell? ⟨b,off+i * 2,none⟩=some (.int .i64 x.1)∧w.cell? ⟨b,off+i * 2+1,none⟩=some (.bool x.2)
theorem PkR.later {w w':World}{v:Value}{L:List (Int × Bool)}(h:PkR w v L)(hb:Below w.heap.size w w'):PkR w' v L:=by
 obtain⟨a,cap,rfl,hc,hr⟩:=h
 refine⟨a,cap,rfl,hc,fun i x hx=>?_⟩
 obtain⟨b,off,ha,c0,c1⟩:=hr i x hx
 exact⟨b,off,ha,Dg.cell_later hb c0,Dg.cell_later hb c1⟩
structure WkS (its:List It)(w:World)(s:Nat)(pv:Value)(m:List Fa)(u:Value)(W:World):Prop where
 bel:Below w.heap.size w W
 box:W.heap[s]? =some (.cells #[pv] 28 (0,0))
 good:St.Good its m
 rf:RF W u m
theorem WkS.later {its:List It}{w:World}{s:Nat}{pv:Value}{m:List Fa}{u:Value}{W W':World}(h:WkS its w s pv m u W)(hb:Below W.heap.size W W'):WkS its w s pv m u W':=
 ⟨h.bel.trans (hb.mono h.bel.size),(hb.block _ (jD.1 h.box).1).trans h.box,h.good,h.rf.later hb⟩
theorem open_few {its:List It}{l:List Fa} :(openL its l).length≤128:=by
 unfold openL
 by_cases hc:chkF its l=0
 ·rw[if_pos hc]
  have:=opG_few l 0;have h64:=(root_len (chkF_iff.1 hc).1).2;have hl:=(chk_facts hc).2.1;omega
 ·rw[if_neg hc]
  simp
theorem pick_mod (z:Int)(q:Nat)(h:0 < q):∃k:Nat,k < q∧(IntKind.u64.wrap z).tmod (q:Int)=(k:Int):=by
 have h0:0≤IntKind.u64.wrap z:=by rw[IntKind.wrap_u64];omega
 have h1:(IntKind.u64.wrap z).tmod (q:Int)=(IntKind.u64.wrap z) % (q:Int):=Int.tmod_eq_emod_of_nonneg h0;have h2:0≤(IntKind.u64.wrap z) % (q:Int):=Int.emod_nonneg _ (by omega);have h3:(IntKind.u64.wrap z) % (q:Int) < (q:Int):=Int.emod_lt_of_pos _ (by omega);exact⟨((IntKind.u64.wrap z) % (q:Int)).toNat,by omega,by rw[h1];omega⟩
def WkC (its:List It)(w:World)(e:Ending)(w':World):Prop:=Below w.heap.size w w'∧∃u m,e= .returned (.tuple #[u,.bool true])∧St.Good its m∧RF w' u m
theorem walked_any (its:List It)(v lv:Value)(L:List (Int × Bool))(w:World)(hs:(sagaP its).isSome=true)(hF:FairI its)(hT:Dg.Tab w)(hIt:RdIt w v its)(hL:PkR w lv L)(hl:L.length≤1000000) :
  Calls Tryz.prog 8 #[.agg #[v],lv] w fun e w'=>WkC its w e w':=by
 obtain⟨R,HR⟩:∃R:Ending→World→Prop,Hid (R=WkC its w):=⟨_,rfl⟩
 show Calls _ _ _ _ (WkC its w);rw[←HR.out]
 have hb1:=bl1 w (.cells #[v] 28);have HB1:Hid _:=hb1;have HNO:Hid _:=noneF_any its v _ (hIt.later hb1) hF (hT.later hb1);have h64:=root_len hs;have HIT:Hid (∀wx,Below w.heap.size w wx→RdIt wx v its):=fun wx hb=>hIt.later hb
 have HTB:Hid (∀wx,Below w.heap.size w wx→Dg.Tab wx):=fun wx hb=>hT.later hb
 have HPK:Hid (∀wx,Below w.heap.size w wx→PkR wx lv L):=fun wx hb=>hL.later hb
 have HFI:Hid _:=hF;have HSG:Hid _:=hs;have r1:=Dg.row_new w #[v] 28;have HR1:Hid _:=r1;have c0:=(Dg.cell_row r1 0).trans rfl;obtain⟨ia,ic,rfl,_⟩:=hIt
 obtain⟨la,lc,rfl,hlc,_⟩:=hL
 obtain⟨nL,HNL⟩:∃nL,Hid (L.length=nL):=⟨_,rfl⟩
 obtain⟨n,HN⟩:∃n,Hid (its.length=n):=⟨_,rfl⟩
 rw[HNL.out] at hl hlc HPK ⊢
 rw[HN.out] at HB1 HNO h64 HIT HR1 c0 ⊢
 clear hs hF hT hb1 r1
 go_enter Tryz.func8,Tryz.ntmps8
 go_wp2_with fail
 refine Calls.mono HNO.out ?_;rintro e w2 ⟨hb2,hx⟩;rw[HSG.out] at hx
 obtain⟨g0,rfl,hof⟩:=hx
 rw[HN.out] at hof ⊢
 obtain⟨s,hs⟩:∃s,w.heap.size=s:=⟨_,rfl⟩
 have H0:Hid (WkS its w s (.slice ia n ic) (List.replicate its.length Fa.z) (.slice (some ⟨g0,0,none⟩) n n) w2):=by
  refine⟨HB1.out.trans (hb2.mono HB1.out.size),?_,good_none HSG.out,?_⟩
  ·rw[←hs]
   exact (hb2.block _ (jD.1 HR1.out).1).trans HR1.out
  ·have:=hof.rf;rw[HN.out]
   exact this
 have HPF:Hid (∀(m:List Fa) (u:Value) (W:World),WkS its w s (.slice ia n ic) m u W→PF its m (.slice ia n ic) u W):=fun m u W h=>⟨HIT.out W h.bel,HFI.out,HTB.out W h.bel,h.rf,by rw[HN.out];omega,by have:=h.good.len;rw[HN.out] at this;omega⟩
 have HML:Hid (∀m:List Fa,St.Good its m→m.length=n):=fun m h=>h.len.trans HN.out
 clear HNO hb2 hof c0 HB1 HR1
 go_wp2_with fail
 clear hs
 go_loopw [6,7] (fun fv iv wr=>∃(i:Nat) (m:List Fa),i≤nL∧iv= .int .i64 i∧Hid (WkS its w s (.slice ia n ic) m fv wr)) (fun fv iv _=>nL - (intOf iv).toNat)
 case atStart=>exact⟨0,_,zE _,by go_num,H0⟩
 case round=>
  obtain⟨i,m,hi,rfl,HM⟩:=hrel
  rename World=>wr
  obtain⟨fa,fc,rfl⟩:∃a c,u6= .slice a n c:=by
   obtain⟨a,c,e,_⟩:=HM.out.rf
   rw[HML.out m HM.out.good] at e
   exact⟨a,c,e⟩
  by_cases hlt:i < nL
  rotate_left
  ·have hnl:¬(i:Int) < (nL:Int):=by omega
   go_wp2_with fail
   rw[HR.out]
   exact⟨HM.out.bel,_,m,rfl,HM.out.good,HM.out.rf⟩
  ·have hii:(i:Int) < (nL:Int):=by omega
   obtain⟨m1,HM1⟩:∃m1,Hid ((mayL its m).length=m1):=⟨_,rfl⟩
   obtain⟨m2,HM2⟩:∃m2,Hid ((openL its m).length=m2):=⟨_,rfl⟩
   have hm1:m1≤64:=by rw[←HM1.out];exact may_few
   have hm2:m2≤128:=by rw[←HM2.out];exact open_few
   have z0:=(Dg.cell_row HM.out.box 0).trans rfl;have hS0:WkS its w s (.slice ia n ic) m (.slice fa n fc) wr.drew:=HM.out.later (Below.refl _ _).drew;have HMY:Hid (∀wx,WkS its w s (.slice ia n ic) m (.slice fa n fc) wx→Calls Tryz.prog 9 #[.agg #[.slice ia n ic],.slice fa n fc] wx fun e w'=>∃y:Option Addr × Nat,e= .returned (.slice y.1 m1 y.2)∧WkS its w s (.slice ia n ic) m (.slice fa n fc) w'∧RK w' (.slice y.1 m1 y.2) (mayL its m)):=fun wx h=>Calls.mono (May_any (HPF.out m _ wx h)) (by
    rintro e w' ⟨hb,a,c,rfl,hr⟩;rw[HM1.out] at hr ⊢
    exact⟨(a,c),rfl,h.later hb,hr⟩)
   have HOP:Hid (∀(wx:World) (y:Option Addr × Nat),(WkS its w s (.slice ia n ic) m (.slice fa n fc) wx∧RK wx (.slice y.1 m1 y.2) (mayL its m))→Calls Tryz.prog 10 #[.agg #[.slice ia n ic],.slice fa n fc] wx fun e w'=>∃x:Option Addr × Nat,e= .returned (.slice x.1 m2 x.2)∧WkS its w s (.slice ia n ic) m (.slice fa n fc) w'∧RK w' (.slice y.1 m1 y.2) (mayL its m)∧RK w' (.slice x.1 m2 x.2) (openL its m)):=fun wx y h=>Calls.mono (open_any its _ _ m wx (HPF.out m _ wx h.1).it (HPF.out m _ wx h.1).fair (HPF.out m _ wx h.1).tab (HPF.out m _ wx h.1).fa (by rw[HN.out];omega) (by rw[HML.out m h.1.good];omega)) (by
    rintro e w' ⟨hb,u,rfl,hu⟩;obtain⟨a,c,rfl⟩:=hu.slice
    have h9:openP its m=openL its m:=rfl;rw[h9] at hu ⊢
    have hr:=hu.rk;rw[HM2.out] at hr ⊢
    exact⟨(a,c),rfl,h.1.later hb,h.2.later hb,hr⟩)
   go_wp2_with fail
   refine region_thenG (β:=(Option Addr × Nat) × (Option Addr × Nat)) (fun z=>[(22,.agg #[.slice ia n ic]),(23,.slice fa n fc),(24,.slice z.1.1 m1 z.1.2),(25,.agg #[.slice ia n ic]),(26,.slice fa n fc),(27,.slice z.2.1 m2 z.2.2),(8,.slice z.1.1 m1 z.1.2),(9,.slice z.2.1 m2 z.2.2)]) (fun z w'=>WkS its w s (.slice ia n ic) m (.slice fa n fc) w'∧RK w' (.slice z.1.1 m1 z.1.2) (mayL its m)∧RK w' (.slice z.2.1 m2 z.2.2) (openL its m)) ?_ ?_
   ·refine wp_region_held (S:=fun w'=>WkS its w s (.slice ia n ic) m (.slice fa n fc) w') (by kernel_rfl) ?_;simp only[jN,jM,jP,Nat.reduceAdd,jI,jJ,jO,jL,jK];refine tV 0 22 (.agg #[.slice ia n ic]) 7 rfl hS0 ?_ (fun wx h=>by have y0:=(Dg.cell_row h.box 0).trans rfl;go_simp);refine tK 1 23 (.slice fa n fc) 6 rfl hS0 ?_;refine tV 3 25 (.agg #[.slice ia n ic]) 5 rfl hS0 ?_ (fun wx h=>by have y0:=(Dg.cell_row h.box 0).trans rfl;go_simp);refine tK 4 26 (.slice fa n fc) 4 rfl hS0 ?_;refine oneX (β:=Option Addr × Nat) (V:=fun y=> .slice y.1 m1 y.2) (R:=fun y w'=>WkS its w s (.slice ia n ic) m (.slice fa n fc) w'∧RK w' (.slice y.1 m1 y.2) (mayL its m)) (i:=2) (d:=24) (f:=9) (args:= #[.agg #[.slice ia n ic],.slice fa n fc]) (fuel:=3) rfl rfl (by kernel_rfl) (by kernel_rfl) (fun _=>by kernel_rfl) (HMY.out _ hS0) (fun y w' h=>h.1) (fun y wz2 hR2=>?_);simp only[jA,jB,jC];refine oneX (β:=Option Addr × Nat) (V:=fun x=> .slice x.1 m2 x.2) (R:=fun x w'=>WkS its w s (.slice ia n ic) m (.slice fa n fc) w'∧RK w' (.slice y.1 m1 y.2) (mayL its m)∧RK w' (.slice x.1 m2 x.2) (openL its m)) (i:=5) (d:=27) (f:=10) (args:= #[.agg #[.slice ia n ic],.slice fa n fc]) (fuel:=2) rfl rfl (by kernel_rfl) (by kernel_rfl) (fun _=>by kernel_rfl) (HOP.out _ y hR2) (fun x w' h=>h.1) (fun x wz5 hR5=>?_);simp only[jA,jB,jC];refine tK 6 8 (.slice y.1 m1 y.2) 1 rfl (hR5.1) ?_;refine tK 7 9 (.slice x.1 m2 x.2) 0 rfl (hR5.1) ?_;refine wpAnyH_done (by kernel_rfl) ?_ _;exact⟨rfl,(y,x),by kernel_rfl,hR5⟩
   ·rintro⟨⟨ya,yc⟩,oa,oc⟩ w9 hF
    simp only[setAll,jA,jB,jC];have HF9:Hid _:=hF;have z9:=(Dg.cell_row hF.1.box 0).trans rfl;clear hF hS0 HMY HOP z0 HM
    by_cases hz:m1+m2=0
    ·obtain rfl:m1=0:=by omega
     obtain rfl:m2=0:=by omega
     have HV:Hid _:=Verdict_any (HPF.out m _ w9 HF9.out.1);have hv1:verS its m≠1:=fun h=>by
      rcases (task_goes HF9.out.1.good).1 h with h9 | h9
      ·exact h9 (List.length_eq_zero_iff.1 HM1.out)
      ·exact h9 (List.length_eq_zero_iff.1 HM2.out)
     have hv2:(verS its m !=1)=true:=by simpa using hv1
     generalize verS its m=vd at *
     go_wp2_with fail
     refine Calls.mono HV.out ?_;rintro e w10 ⟨rfl,hb10⟩;have HF10:Hid _:=HF9.out.1.later hb10;clear HV hb10 z9 HF9
     go_wp2_with fail
     rw[HR.out]
     exact⟨HF10.out.bel,_,m,rfl,HF10.out.good,HF10.out.rf⟩
    ·obtain⟨p,hp⟩:∃p,L[i]? =some p:=⟨_,jF (by rw[HNL.out];exact hlt)⟩
     obtain⟨pa,pc,epk,_,hpk⟩:=HPK.out w9 HF9.out.1.bel
     rw[HNL.out] at epk
     injection epk with ep1 _ ep3
     subst ep1;obtain⟨pb,po,rfl,p0,p1⟩:=hpk i p hp
     obtain⟨kq,hkq,hmod⟩:=pick_mod p.1 (m1+m2) (by omega)
     have hmod2:(IntKind.u64.wrap p.1).tmod ((m1:Int)+ (m2:Int))=(kq:Int):=by
      rw[←hmod]
      congr 1
     have hnz:¬(m1:Int)+ (m2:Int)=0:=by omega
     have hnz2:((m1:Int)+ (m2:Int)==0)=false:=by simpa using hnz
     have hnz3:decide ((m1:Int)+ (m2:Int)=0)=false:=decide_eq_false hnz;have HMX:Hid (∀wx,WkS its w s (.slice ia n ic) m (.slice fa n fc) wx→∃b off,some (⟨pb,po,none⟩:Addr)=some ⟨b,off,none⟩∧wx.cell? ⟨b,off+i * 2,none⟩=some (.int .i64 p.1)∧wx.cell? ⟨b,off+i * 2+1,none⟩=some (.bool p.2)):=fun wx h=>by
      obtain⟨a,c,e,_,hr⟩:=HPK.out wx h.bel
      obtain⟨b,off,ha,q0,q1⟩:=hr i p hp
      injection e with e1
      exact⟨b,off,e1.trans ha,q0,q1⟩
     by_cases hkm:kq < m1
     ·have hkmi:(kq:Int) < (m1:Int):=by omega
      obtain⟨⟨ki,ku,kt⟩,hk⟩:∃x,(mayL its m)[kq]? =some x:=⟨_,jF (by rw[HM1.out];exact hkm)⟩
      have HMEM:Hid ((ki,ku,kt)∈mayL its m):=jS hk;obtain⟨a9,c9,e9,_,_,hr9⟩:=HF9.out.2.1
      injection e9 with e91 e92 e93
      obtain⟨kb,ko,ha9,_⟩:=hr9 kq _ hk
      obtain rfl:=e91.trans ha9;have HKC:Hid (∀wx,RK wx (.slice (some ⟨kb,ko,none⟩) m1 yc) (mayL its m)→wx.cell? ⟨kb,ko+kq * 3,none⟩=some (.int .i64 (ki:Int))∧wx.cell? ⟨kb,ko+kq * 3+1,none⟩=some (.bool ku)∧wx.cell? ⟨kb,ko+kq * 3+2,none⟩=some (.int .i64 kt)):=fun wx h=>by
       obtain⟨a,cap,e,_,_,hr⟩:=h
       injection e with e1
       obtain⟨b,o,ha,q0,q1,q2⟩:=hr kq _ hk
       have h7:=e1.trans ha
       injection h7 with h8
       injection h8 with h9 h10
       subst h9;subst h10;exact⟨q0,q1,q2⟩
      clear hr9 hk e92 e93
      go_wp2_with fail
      have hS0:WkS its w s (.slice ia n ic) m (.slice fa n fc) w9.drew∧RK w9.drew (.slice (some ⟨kb,ko,none⟩) m1 yc) (mayL its m):=⟨HF9.out.1.later (Below.refl _ _).drew,HF9.out.2.1.later (Below.refl _ _).drew⟩;have HBG:Hid (∀wx,WkS its w s (.slice ia n ic) m (.slice fa n fc) wx∧RK wx (.slice (some ⟨kb,ko,none⟩) m1 yc) (mayL its m)→Calls Tryz.prog 17 #[.agg #[.slice ia n ic],.slice fa n fc,.agg #[.int .i64 (ki:Int),.bool ku,.int .i64 kt]] wx fun e w'=>∃u,e= .returned (.tuple #[u,.int .i64 0])∧WkS its w s (.slice ia n ic) (m.set ki (begF (fOf m ki) ku)) u w'∧WkS its w s (.slice ia n ic) m (.slice fa n fc) w'∧RK w' (.slice (some ⟨kb,ko,none⟩) m1 yc) (mayL its m)):=fun wx h=>Calls.mono (Begin_any (HPF.out m _ wx h.1) (ki,ku,kt) HMEM.out) (by
       rintro e w' ⟨hb,u,rfl,hr⟩;have h1:=h.1.later hb;exact⟨u,rfl,⟨h1.bel,h1.box,beg_good h1.good HMEM.out,hr⟩,h1,h.2.later hb⟩)
      refine region_thenG (β:=Value) (fun z=>[(55,.agg #[.slice ia n ic]),(56,.slice fa n fc),(57,.slice (some ⟨kb,ko,none⟩) m1 yc),(58,.int .i64 (kq:Int)),(59,.pointer (some ⟨kb,ko+kq * 3,none⟩)),(60,.agg #[.int .i64 (ki:Int),.bool ku,.int .i64 kt]),(61,.tuple #[z,.int .i64 0]),(54,.tuple #[z,.int .i64 0]),(62,z),(63,.int .i64 0),(6,z),(12,.int .i64 0)]) (fun z w'=>WkS its w s (.slice ia n ic) (m.set ki (begF (fOf m ki) ku)) z w') ?_ ?_
      ·refine wp_region_held (S:=fun w'=>WkS its w s (.slice ia n ic) m (.slice fa n fc) w'∧RK w' (.slice (some ⟨kb,ko,none⟩) m1 yc) (mayL its m)) (by kernel_rfl) ?_;simp only[jN,jM,jP,Nat.reduceAdd,jI,jJ,jO,jL,jK];refine tV 0 55 (.agg #[.slice ia n ic]) 11 rfl hS0 ?_ (fun wx h=>by have y0:=(Dg.cell_row h.1.box 0).trans rfl;go_simp);refine tK 1 56 (.slice fa n fc) 10 rfl hS0 ?_;refine tK 2 57 (.slice (some ⟨kb,ko,none⟩) m1 yc) 9 rfl hS0 ?_;refine tK 3 58 (.int .i64 (kq:Int)) 8 rfl hS0 ?_;refine tG 4 59 (.pointer (some ⟨kb,ko+kq * 3,none⟩)) 7 rfl hS0 ?_;refine tV 5 60 (.agg #[.int .i64 (ki:Int),.bool ku,.int .i64 kt]) 6 rfl hS0 ?_ (fun wx h=>by obtain⟨y0,y1,y2⟩:=HKC.out wx h.2;go_simp);refine oneX (β:=Value) (V:=fun u=> .tuple #[u,.int .i64 0]) (R:=fun u w'=>WkS its w s (.slice ia n ic) (m.set ki (begF (fOf m ki) ku)) u w'∧WkS its w s (.slice ia n ic) m (.slice fa n fc) w'∧RK w' (.slice (some ⟨kb,ko,none⟩) m1 yc) (mayL its m)) (i:=6) (d:=61) (f:=17) (args:= #[.agg #[.slice ia n ic],.slice fa n fc,.agg #[.int .i64 (ki:Int),.bool ku,.int .i64 kt]]) (fuel:=5) rfl rfl (by kernel_rfl) (by kernel_rfl) (fun _=>by kernel_rfl) (HBG.out _ hS0) (fun u w' h=>h.2) (fun u wz6 hR6=>?_);simp only[jA,jB,jC];refine tK 7 54 (.tuple #[u,.int .i64 0]) 4 rfl (hR6.2) ?_;refine tK 8 62 u 3 rfl (hR6.2) ?_;refine tK 9 63 (.int .i64 0) 2 rfl (hR6.2) ?_;refine tK 10 6 u 1 rfl (hR6.2) ?_;refine tK 11 12 (.int .i64 0) 0 rfl (hR6.2) ?_;refine wpAnyH_done (by kernel_rfl) ?_ _;exact⟨rfl,u,by kernel_rfl,hR6.1⟩
      ·intro u w10 hF;have HFA:Hid _:=hF;simp only[setAll,jA,jB,jC];clear hF hS0 HBG HKC p0 p1 z9 HF9 hnz hnz2 hnz3 hmod hmod2
       go_wp2_with fail
       go_roundw
       case rel=>exact⟨i+1,_,by omega,by go_num,HFA⟩
       case measure=>simp[intOf] <;> omega
     ·obtain⟨kr,rfl⟩:∃kr,kq=m1+kr:=⟨kq - m1,by omega⟩
      have hkmi:¬((m1+kr:Nat):Int) < (m1:Int):=by omega
      have hkmi2:¬(m1:Int)+ (kr:Int) < (m1:Int):=by omega
      have hkr:kr < m2:=by omega
      have hkri:(kr:Int) < (m2:Int):=by omega
      have hsub:((m1+kr:Nat):Int) - (m1:Int)=(kr:Int):=by omega
      have hsub2:(m1:Int)+ (kr:Int) - (m1:Int)=(kr:Int):=by omega
      obtain⟨⟨ki,ku,kt⟩,hk⟩:∃x,(openL its m)[kr]? =some x:=⟨_,jF (by rw[HM2.out];exact hkr)⟩
      have HMEM:Hid ((ki,ku,kt)∈openL its m):=jS hk;obtain⟨a9,c9,e9,_,_,hr9⟩:=HF9.out.2.2
      injection e9 with e91 e92 e93
      obtain⟨kb,ko,ha9,k0,k1,k2⟩:=hr9 kr _ hk
      obtain rfl:=e91.trans ha9;clear hr9 hk e92 e93
      go_wp2_with fail
      obtain⟨okb,hok⟩:∃okb,p.2=okb:=⟨_,rfl⟩
      have HPC:Hid (∀wx,WkS its w s (.slice ia n ic) m (.slice fa n fc) wx→wx.cell? ⟨pb,po+i * 2+1,none⟩=some (.bool okb)):=fun wx h=>by
       obtain⟨b,o,e,_,q1⟩:=HMX.out wx h
       injection e with h8
       injection h8 with h9 h10
       rw[h9,h10,←hok]
       exact q1
      have hx10:=Dg.row_new w9 #[.int .i64 (ki:Int),.bool ku,.int .i64 kt] 47;have hF10:=HF9.out.1.later (bl1 w9 (.cells #[.int .i64 (ki:Int),.bool ku,.int .i64 kt] 47));generalize w9.alloc (.cells #[.int .i64 (ki:Int),.bool ku,.int .i64 kt] 47)=w10 at *;generalize w9.heap.size=xb at *;have hS0:WkS its w s (.slice ia n ic) m (.slice fa n fc) w10.drew∧w10.drew.heap[xb]? =some (.cells #[.int .i64 (ki:Int),.bool ku,.int .i64 kt] 47 (0,0)):=⟨hF10.later (Below.refl _ _).drew,hx10⟩;clear hF10 hx10 k0 k1 k2 p0 p1 z9 hnz hnz2 hnz3 hmod hmod2 hok HF9;have HEN:Hid (∀(ok:Bool),(ku=true→ok=false→kt≠3)→∀wx,WkS its w s (.slice ia n ic) m (.slice fa n fc) wx∧wx.heap[xb]? =some (.cells #[.int .i64 (ki:Int),.bool ku,.int .i64 kt] 47 (0,0))→Calls Tryz.prog 18 #[.agg #[.slice ia n ic],.slice fa n fc,.agg #[.int .i64 (ki:Int),.bool ku,.int .i64 kt],.bool ok] wx fun e w'=>∃u,e= .returned (.tuple #[u,.int .i64 0])∧WkS its w s (.slice ia n ic) (m.set ki (endF (fOf m ki) ku ok)) u w'∧WkS its w s (.slice ia n ic) m (.slice fa n fc) w'∧w'.heap[xb]? =some (.cells #[.int .i64 (ki:Int),.bool ku,.int .i64 kt] 47 (0,0))):=fun ok h3 wx h=>Calls.mono (End_any (HPF.out m _ wx h.1) (ki,ku,kt) ok HMEM.out h3) (by
       rintro e w' ⟨hb,u,rfl,hr⟩;have h1:=h.1.later hb;exact⟨u,rfl,⟨h1.bel,h1.box,end_good h1.good HMEM.out h3,hr⟩,h1,(hb.block _ (jD.1 h.2).1).trans h.2⟩)
      clear HMEM;cases okb with
      | true=>
       have h3:ku=true→true=false→kt≠3:=fun _ h=>by cases h
       refine region_thenG (β:=Value) (fun z=>[(72,.agg #[.slice ia n ic]),(73,.slice fa n fc),(74,.agg #[.int .i64 (ki:Int),.bool ku,.int .i64 kt]),(75,.slice (some ⟨pb,po,none⟩) nL lc),(76,.int .i64 (i:Int)),(77,.pointer (some ⟨pb,po+i * 2,none⟩)),(78,.pointer (some ⟨pb,po+i * 2+1,none⟩)),(79,.bool true),(80,.bool true),(81,undef),(82,undef),(83,undef),(84,undef),(85,undef),(86,undef),(87,undef),(88,.bool true),(89,.tuple #[z,.int .i64 0]),(71,.tuple #[z,.int .i64 0]),(90,z),(91,.int .i64 0),(6,z),(12,.int .i64 0)]) (fun z w'=>WkS its w s (.slice ia n ic) (m.set ki (endF (fOf m ki) ku true)) z w') ?_ ?_
       ·refine wp_region_held (S:=fun w'=>WkS its w s (.slice ia n ic) m (.slice fa n fc) w'∧w'.heap[xb]? =some (.cells #[.int .i64 (ki:Int),.bool ku,.int .i64 kt] 47 (0,0))) (by kernel_rfl) ?_;simp only[jN,jM,jP,Nat.reduceAdd,jI,jJ,jO,jL,jK];refine tV 0 72 (.agg #[.slice ia n ic]) 22 rfl hS0 ?_ (fun wx h=>by have y0:=(Dg.cell_row h.1.box 0).trans rfl;go_simp);refine tK 1 73 (.slice fa n fc) 21 rfl hS0 ?_;refine tV 2 74 (.agg #[.int .i64 (ki:Int),.bool ku,.int .i64 kt]) 20 rfl hS0 ?_ (fun wx h=>by have y0:=(Dg.cell_row h.2 0).trans rfl;have y1:=(Dg.cell_row h.2 1).trans rfl;have y2:=(Dg.cell_row h.2 2).trans rfl;go_simp);refine tK 3 75 (.slice (some ⟨pb,po,none⟩) nL lc) 19 rfl hS0 ?_;refine tK 4 76 (.int .i64 (i:Int)) 18 rfl hS0 ?_;refine tG 5 77 (.pointer (some ⟨pb,po+i * 2,none⟩)) 17 rfl hS0 ?_;refine tG 6 78 (.pointer (some ⟨pb,po+i * 2+1,none⟩)) 16 rfl hS0 ?_;refine tV 7 79 (.bool true) 15 rfl hS0 ?_ (fun wx h=>by have y0:=HPC.out wx h.1;go_simp);refine tK 8 80 (.bool true) 14 rfl hS0 ?_;refine tU 9 81 13 rfl hS0 ?_;refine tU 10 82 12 rfl hS0 ?_;refine tU 11 83 11 rfl hS0 ?_;refine tU 12 84 10 rfl hS0 ?_;refine tU 13 85 9 rfl hS0 ?_;refine tU 14 86 8 rfl hS0 ?_;refine tU 15 87 7 rfl hS0 ?_;refine tK 16 88 (.bool true) 6 rfl hS0 ?_;refine oneX (β:=Value) (V:=fun u=> .tuple #[u,.int .i64 0]) (R:=fun u w'=>WkS its w s (.slice ia n ic) (m.set ki (endF (fOf m ki) ku true)) u w'∧WkS its w s (.slice ia n ic) m (.slice fa n fc) w'∧w'.heap[xb]? =some (.cells #[.int .i64 (ki:Int),.bool ku,.int .i64 kt] 47 (0,0))) (i:=17) (d:=89) (f:=18) (args:= #[.agg #[.slice ia n ic],.slice fa n fc,.agg #[.int .i64 (ki:Int),.bool ku,.int .i64 kt],.bool true]) (fuel:=5) rfl rfl (by kernel_rfl) (by kernel_rfl) (fun _=>by kernel_rfl) (HEN.out true h3 _ hS0) (fun u w' h=>h.2) (fun u wz17 hR17=>?_);simp only[jA,jB,jC];refine tK 18 71 (.tuple #[u,.int .i64 0]) 4 rfl (hR17.2) ?_;refine tK 19 90 u 3 rfl (hR17.2) ?_;refine tK 20 91 (.int .i64 0) 2 rfl (hR17.2) ?_;refine tK 21 6 u 1 rfl (hR17.2) ?_;refine tK 22 12 (.int .i64 0) 0 rfl (hR17.2) ?_;refine wpAnyH_done (by kernel_rfl) ?_ _;exact⟨rfl,u,by kernel_rfl,hR17.1⟩
       ·intro u w11 hF;have HFA:Hid _:=hF;simp only[setAll,jA,jB,jC];clear hF hS0 HEN HPC
        go_wp2_with fail
        go_roundw
        case rel=>exact⟨i+1,_,by omega,by go_num,HFA⟩
        case measure=>simp[intOf] <;> omega
      | false=>
       cases ku with
       | false=>
        have h3:false=true→false=false→kt≠3:=fun h=>by cases h
        refine region_thenG (β:=Value) (fun z=>[(72,.agg #[.slice ia n ic]),(73,.slice fa n fc),(74,.agg #[.int .i64 (ki:Int),.bool false,.int .i64 kt]),(75,.slice (some ⟨pb,po,none⟩) nL lc),(76,.int .i64 (i:Int)),(77,.pointer (some ⟨pb,po+i * 2,none⟩)),(78,.pointer (some ⟨pb,po+i * 2+1,none⟩)),(79,.bool false),(80,.bool false),(81,.pointer (some ⟨xb,1,none⟩)),(82,.bool false),(83,.bool false),(84,undef),(85,undef),(86,undef),(87,.bool false),(88,.bool false),(89,.tuple #[z,.int .i64 0]),(71,.tuple #[z,.int .i64 0]),(90,z),(91,.int .i64 0),(6,z),(12,.int .i64 0)]) (fun z w'=>WkS its w s (.slice ia n ic) (m.set ki (endF (fOf m ki) false false)) z w') ?_ ?_
        ·refine wp_region_held (S:=fun w'=>WkS its w s (.slice ia n ic) m (.slice fa n fc) w'∧w'.heap[xb]? =some (.cells #[.int .i64 (ki:Int),.bool false,.int .i64 kt] 47 (0,0))) (by kernel_rfl) ?_;simp only[jN,jM,jP,Nat.reduceAdd,jI,jJ,jO,jL,jK];refine tV 0 72 (.agg #[.slice ia n ic]) 22 rfl hS0 ?_ (fun wx h=>by have y0:=(Dg.cell_row h.1.box 0).trans rfl;go_simp);refine tK 1 73 (.slice fa n fc) 21 rfl hS0 ?_;refine tV 2 74 (.agg #[.int .i64 (ki:Int),.bool false,.int .i64 kt]) 20 rfl hS0 ?_ (fun wx h=>by have y0:=(Dg.cell_row h.2 0).trans rfl;have y1:=(Dg.cell_row h.2 1).trans rfl;have y2:=(Dg.cell_row h.2 2).trans rfl;go_simp);refine tK 3 75 (.slice (some ⟨pb,po,none⟩) nL lc) 19 rfl hS0 ?_;refine tK 4 76 (.int .i64 (i:Int)) 18 rfl hS0 ?_;refine tG 5 77 (.pointer (some ⟨pb,po+i * 2,none⟩)) 17 rfl hS0 ?_;refine tG 6 78 (.pointer (some ⟨pb,po+i * 2+1,none⟩)) 16 rfl hS0 ?_;refine tV 7 79 (.bool false) 15 rfl hS0 ?_ (fun wx h=>by have y0:=HPC.out wx h.1;go_simp);refine tK 8 80 (.bool false) 14 rfl hS0 ?_;refine tG 9 81 (.pointer (some ⟨xb,1,none⟩)) 13 rfl hS0 ?_;refine tV 10 82 (.bool false) 12 rfl hS0 ?_ (fun wx h=>by have y0:=(Dg.cell_row h.2 0).trans rfl;have y1:=(Dg.cell_row h.2 1).trans rfl;have y2:=(Dg.cell_row h.2 2).trans rfl;go_simp);refine tK 11 83 (.bool false) 11 rfl hS0 ?_;refine tU 12 84 10 rfl hS0 ?_;refine tU 13 85 9 rfl hS0 ?_;refine tU 14 86 8 rfl hS0 ?_;refine tK 15 87 (.bool false) 7 rfl hS0 ?_;refine tK 16 88 (.bool false) 6 rfl hS0 ?_;refine oneX (β:=Value) (V:=fun u=> .tuple #[u,.int .i64 0]) (R:=fun u w'=>WkS its w s (.slice ia n ic) (m.set ki (endF (fOf m ki) false false)) u w'∧WkS its w s (.slice ia n ic) m (.slice fa n fc) w'∧w'.heap[xb]? =some (.cells #[.int .i64 (ki:Int),.bool false,.int .i64 kt] 47 (0,0))) (i:=17) (d:=89) (f:=18) (args:= #[.agg #[.slice ia n ic],.slice fa n fc,.agg #[.int .i64 (ki:Int),.bool false,.int .i64 kt],.bool false]) (fuel:=5) rfl rfl (by kernel_rfl) (by kernel_rfl) (fun _=>by kernel_rfl) (HEN.out false h3 _ hS0) (fun u w' h=>h.2) (fun u wz17 hR17=>?_);simp only[jA,jB,jC];refine tK 18 71 (.tuple #[u,.int .i64 0]) 4 rfl (hR17.2) ?_;refine tK 19 90 u 3 rfl (hR17.2) ?_;refine tK 20 91 (.int .i64 0) 2 rfl (hR17.2) ?_;refine tK 21 6 u 1 rfl (hR17.2) ?_;refine tK 22 12 (.int .i64 0) 0 rfl (hR17.2) ?_;refine wpAnyH_done (by kernel_rfl) ?_ _;exact⟨rfl,u,by kernel_rfl,hR17.1⟩
        ·intro u w11 hF;have HFA:Hid _:=hF;simp only[setAll,jA,jB,jC];clear hF hS0 HEN HPC
         go_wp2_with fail
         go_roundw
         case rel=>exact⟨i+1,_,by omega,by go_num,HFA⟩
         case measure=>simp[intOf] <;> omega
       | true=>
        by_cases hkt:3≤kt
        ·have h3:true=true→true=false→kt≠3:=fun _ h=>by cases h
         refine region_thenG (β:=Value) (fun z=>[(72,.agg #[.slice ia n ic]),(73,.slice fa n fc),(74,.agg #[.int .i64 (ki:Int),.bool true,.int .i64 kt]),(75,.slice (some ⟨pb,po,none⟩) nL lc),(76,.int .i64 (i:Int)),(77,.pointer (some ⟨pb,po+i * 2,none⟩)),(78,.pointer (some ⟨pb,po+i * 2+1,none⟩)),(79,.bool false),(80,.bool false),(81,.pointer (some ⟨xb,1,none⟩)),(82,.bool true),(83,.bool true),(84,.pointer (some ⟨xb,2,none⟩)),(85,.int .i64 kt),(86,.bool true),(87,.bool true),(88,.bool true),(89,.tuple #[z,.int .i64 0]),(71,.tuple #[z,.int .i64 0]),(90,z),(91,.int .i64 0),(6,z),(12,.int .i64 0)]) (fun z w'=>WkS its w s (.slice ia n ic) (m.set ki (endF (fOf m ki) true true)) z w') ?_ ?_
         ·refine wp_region_held (S:=fun w'=>WkS its w s (.slice ia n ic) m (.slice fa n fc) w'∧w'.heap[xb]? =some (.cells #[.int .i64 (ki:Int),.bool true,.int .i64 kt] 47 (0,0))) (by kernel_rfl) ?_;simp only[jN,jM,jP,Nat.reduceAdd,jI,jJ,jO,jL,jK];refine tV 0 72 (.agg #[.slice ia n ic]) 22 rfl hS0 ?_ (fun wx h=>by have y0:=(Dg.cell_row h.1.box 0).trans rfl;go_simp);refine tK 1 73 (.slice fa n fc) 21 rfl hS0 ?_;refine tV 2 74 (.agg #[.int .i64 (ki:Int),.bool true,.int .i64 kt]) 20 rfl hS0 ?_ (fun wx h=>by have y0:=(Dg.cell_row h.2 0).trans rfl;have y1:=(Dg.cell_row h.2 1).trans rfl;have y2:=(Dg.cell_row h.2 2).trans rfl;go_simp);refine tK 3 75 (.slice (some ⟨pb,po,none⟩) nL lc) 19 rfl hS0 ?_;refine tK 4 76 (.int .i64 (i:Int)) 18 rfl hS0 ?_;refine tG 5 77 (.pointer (some ⟨pb,po+i * 2,none⟩)) 17 rfl hS0 ?_;refine tG 6 78 (.pointer (some ⟨pb,po+i * 2+1,none⟩)) 16 rfl hS0 ?_;refine tV 7 79 (.bool false) 15 rfl hS0 ?_ (fun wx h=>by have y0:=HPC.out wx h.1;go_simp);refine tK 8 80 (.bool false) 14 rfl hS0 ?_;refine tG 9 81 (.pointer (some ⟨xb,1,none⟩)) 13 rfl hS0 ?_;refine tV 10 82 (.bool true) 12 rfl hS0 ?_ (fun wx h=>by have y0:=(Dg.cell_row h.2 0).trans rfl;have y1:=(Dg.cell_row h.2 1).trans rfl;have y2:=(Dg.cell_row h.2 2).trans rfl;go_simp);refine tK 11 83 (.bool true) 11 rfl hS0 ?_;refine tG 12 84 (.pointer (some ⟨xb,2,none⟩)) 10 rfl hS0 ?_;refine tV 13 85 (.int .i64 kt) 9 rfl hS0 ?_ (fun wx h=>by have y0:=(Dg.cell_row h.2 0).trans rfl;have y1:=(Dg.cell_row h.2 1).trans rfl;have y2:=(Dg.cell_row h.2 2).trans rfl;go_simp);refine tG 14 86 (.bool true) 8 rfl hS0 ?_;refine tK 15 87 (.bool true) 7 rfl hS0 ?_;refine tK 16 88 (.bool true) 6 rfl hS0 ?_;refine oneX (β:=Value) (V:=fun u=> .tuple #[u,.int .i64 0]) (R:=fun u w'=>WkS its w s (.slice ia n ic) (m.set ki (endF (fOf m ki) true true)) u w'∧WkS its w s (.slice ia n ic) m (.slice fa n fc) w'∧w'.heap[xb]? =some (.cells #[.int .i64 (ki:Int),.bool true,.int .i64 kt] 47 (0,0))) (i:=17) (d:=89) (f:=18) (args:= #[.agg #[.slice ia n ic],.slice fa n fc,.agg #[.int .i64 (ki:Int),.bool true,.int .i64 kt],.bool true]) (fuel:=5) rfl rfl (by kernel_rfl) (by kernel_rfl) (fun _=>by kernel_rfl) (HEN.out true h3 _ hS0) (fun u w' h=>h.2) (fun u wz17 hR17=>?_);simp only[jA,jB,jC];refine tK 18 71 (.tuple #[u,.int .i64 0]) 4 rfl (hR17.2) ?_;refine tK 19 90 u 3 rfl (hR17.2) ?_;refine tK 20 91 (.int .i64 0) 2 rfl (hR17.2) ?_;refine tK 21 6 u 1 rfl (hR17.2) ?_;refine tK 22 12 (.int .i64 0) 0 rfl (hR17.2) ?_;refine wpAnyH_done (by kernel_rfl) ?_ _;exact⟨rfl,u,by kernel_rfl,hR17.1⟩
         ·intro u w11 hF;have HFA:Hid _:=hF;simp only[setAll,jA,jB,jC];clear hF hS0 HEN HPC
          go_wp2_with fail
          go_roundw
          case rel=>exact⟨i+1,_,by omega,by go_num,HFA⟩
          case measure=>simp[intOf] <;> omega
        ·have h3:true=true→false=false→kt≠3:=fun _ _=>by omega
         refine region_thenG (β:=Value) (fun z=>[(72,.agg #[.slice ia n ic]),(73,.slice fa n fc),(74,.agg #[.int .i64 (ki:Int),.bool true,.int .i64 kt]),(75,.slice (some ⟨pb,po,none⟩) nL lc),(76,.int .i64 (i:Int)),(77,.pointer (some ⟨pb,po+i * 2,none⟩)),(78,.pointer (some ⟨pb,po+i * 2+1,none⟩)),(79,.bool false),(80,.bool false),(81,.pointer (some ⟨xb,1,none⟩)),(82,.bool true),(83,.bool true),(84,.pointer (some ⟨xb,2,none⟩)),(85,.int .i64 kt),(86,.bool false),(87,.bool false),(88,.bool false),(89,.tuple #[z,.int .i64 0]),(71,.tuple #[z,.int .i64 0]),(90,z),(91,.int .i64 0),(6,z),(12,.int .i64 0)]) (fun z w'=>WkS its w s (.slice ia n ic) (m.set ki (endF (fOf m ki) true false)) z w') ?_ ?_
         ·refine wp_region_held (S:=fun w'=>WkS its w s (.slice ia n ic) m (.slice fa n fc) w'∧w'.heap[xb]? =some (.cells #[.int .i64 (ki:Int),.bool true,.int .i64 kt] 47 (0,0))) (by kernel_rfl) ?_;simp only[jN,jM,jP,Nat.reduceAdd,jI,jJ,jO,jL,jK];refine tV 0 72 (.agg #[.slice ia n ic]) 22 rfl hS0 ?_ (fun wx h=>by have y0:=(Dg.cell_row h.1.box 0).trans rfl;go_simp);refine tK 1 73 (.slice fa n fc) 21 rfl hS0 ?_;refine tV 2 74 (.agg #[.int .i64 (ki:Int),.bool true,.int .i64 kt]) 20 rfl hS0 ?_ (fun wx h=>by have y0:=(Dg.cell_row h.2 0).trans rfl;have y1:=(Dg.cell_row h.2 1).trans rfl;have y2:=(Dg.cell_row h.2 2).trans rfl;go_simp);refine tK 3 75 (.slice (some ⟨pb,po,none⟩) nL lc) 19 rfl hS0 ?_;refine tK 4 76 (.int .i64 (i:Int)) 18 rfl hS0 ?_;refine tG 5 77 (.pointer (some ⟨pb,po+i * 2,none⟩)) 17 rfl hS0 ?_;refine tG 6 78 (.pointer (some ⟨pb,po+i * 2+1,none⟩)) 16 rfl hS0 ?_;refine tV 7 79 (.bool false) 15 rfl hS0 ?_ (fun wx h=>by have y0:=HPC.out wx h.1;go_simp);refine tK 8 80 (.bool false) 14 rfl hS0 ?_;refine tG 9 81 (.pointer (some ⟨xb,1,none⟩)) 13 rfl hS0 ?_;refine tV 10 82 (.bool true) 12 rfl hS0 ?_ (fun wx h=>by have y0:=(Dg.cell_row h.2 0).trans rfl;have y1:=(Dg.cell_row h.2 1).trans rfl;have y2:=(Dg.cell_row h.2 2).trans rfl;go_simp);refine tK 11 83 (.bool true) 11 rfl hS0 ?_;refine tG 12 84 (.pointer (some ⟨xb,2,none⟩)) 10 rfl hS0 ?_;refine tV 13 85 (.int .i64 kt) 9 rfl hS0 ?_ (fun wx h=>by have y0:=(Dg.cell_row h.2 0).trans rfl;have y1:=(Dg.cell_row h.2 1).trans rfl;have y2:=(Dg.cell_row h.2 2).trans rfl;go_simp);refine tG 14 86 (.bool false) 8 rfl hS0 ?_;refine tK 15 87 (.bool false) 7 rfl hS0 ?_;refine tK 16 88 (.bool false) 6 rfl hS0 ?_;refine oneX (β:=Value) (V:=fun u=> .tuple #[u,.int .i64 0]) (R:=fun u w'=>WkS its w s (.slice ia n ic) (m.set ki (endF (fOf m ki) true false)) u w'∧WkS its w s (.slice ia n ic) m (.slice fa n fc) w'∧w'.heap[xb]? =some (.cells #[.int .i64 (ki:Int),.bool true,.int .i64 kt] 47 (0,0))) (i:=17) (d:=89) (f:=18) (args:= #[.agg #[.slice ia n ic],.slice fa n fc,.agg #[.int .i64 (ki:Int),.bool true,.int .i64 kt],.bool false]) (fuel:=5) rfl rfl (by kernel_rfl) (by kernel_rfl) (fun _=>by kernel_rfl) (HEN.out false h3 _ hS0) (fun u w' h=>h.2) (fun u wz17 hR17=>?_);simp only[jA,jB,jC];refine tK 18 71 (.tuple #[u,.int .i64 0]) 4 rfl (hR17.2) ?_;refine tK 19 90 u 3 rfl (hR17.2) ?_;refine tK 20 91 (.int .i64 0) 2 rfl (hR17.2) ?_;refine tK 21 6 u 1 rfl (hR17.2) ?_;refine tK 22 12 (.int .i64 0) 0 rfl (hR17.2) ?_;refine wpAnyH_done (by kernel_rfl) ?_ _;exact⟨rfl,u,by kernel_rfl,hR17.1⟩
         ·intro u w11 hF;have HFA:Hid _:=hF;simp only[setAll,jA,jB,jC];clear hF hS0 HEN HPC
          go_wp2_with fail
          go_roundw
          case rel=>exact⟨i+1,_,by omega,by go_num,HFA⟩
          case measure=>simp[intOf] <;> omega
end Go.Proofs.YtieoppabellafaaGreatDoor.Ts
namespace Go.Proofs.YtieoppabellafaaGreatDoor.Ts
open Go.ChangeShapes Go.WideShapes Go.ChangeAt Go.RowKit
theorem Tryz.cells69:Tryz.prog.cellsOf 69=2:=by kernel_rfl
theorem Tryz.cells3p:Tryz.prog.cellsOf 3=1:=by kernel_rfl
theorem Tryz.cells4p:Tryz.prog.cellsOf 4=1:=by kernel_rfl
variable {H:Type}{enc:TypeId × Value→H}{w:World}{base:Nat}{spare:Nat→Bool}{held:Bool}
theorem open_pick {fuel:Nat}{cs:List Value}{x:DataW H × List MemPlace}(h:DataW.trod enc Tryz.prog w base spare held fuel 69 cs=some x):∃(n:Int) (b:Bool),cs=[.int .i64 n,.bool b]:=by
 obtain⟨xs,n',hn',_,hcl,hxl,hfs⟩:=DataW.trod_struct Tryz.underlying69 h
 rw[Tryz.cells69] at hcl
 have hx2:xs.length=2:=by simpa using hxl
 match cs,hcl with
 | [v0,v1],_=>
  have g0:=hfs 0 _ rfl;have g1:=hfs 1 _ rfl;simp[Tryz.cells3p] at g0
  simp[Tryz.cells4p] at g1
  rw[jF (by omega)] at g0 g1
  obtain⟨n0,e0,_,z0⟩:=DataW.trod_int Tryz.underlying3 g0
  obtain⟨n1,e1,_⟩:=DataW.trod_bool Tryz.underlying4 g1
  simp only[List.cons.injEq,and_true] at e0 e1;subst e0 e1;exact⟨n0,n1,rfl⟩
theorem open_picks {fuel:Nat}{a:Option Addr}{len cap:Nat}{x:DataW H × List MemPlace}
  (h:DataW.trod enc Tryz.prog w base spare held fuel 25 [.slice a len cap]=some x):∃L,PkR w (.slice a len cap) L∧L.length≤maxLen:=by
 rcases Go.Deep.open_slice Tryz.underlying25 h with ⟨hcs,_⟩ | ⟨ad,l2,c2,m,n,D,Pl,hcs,hb,hl,hm,hmm,rfl,hx⟩
 ·simp at hcs;obtain⟨rfl,rfl,rfl⟩:=hcs
  exact⟨[],⟨none,0,rfl,jG _,by simp⟩,by unfold maxLen;simp⟩
 ·simp at hcs;obtain⟨rfl,rfl,rfl⟩:=hcs
  have hlm:len≤m:=by rw[hmm];split <;> omega
  have each:∀i,i < len→∃t:Int × Bool,w.cell? (ad.add (i * 2))=some (.int .i64 t.1)∧w.cell? (ad.add (i * 2+1))=some (.bool t.2):=by
   intro i hi;obtain⟨cs',h1,h2⟩:=hx i (by omega)
   rw[Tryz.cells69] at h1
   obtain⟨_,hlen,hcell⟩:=World.cells?_some h1
   obtain⟨n,b,rfl⟩:=open_pick h2
   have k0:=hcell 0 (by omega);have k1:=hcell 1 (by omega);rw[Go.Deep.add_add] at k0 k1
   exact⟨(n,b),by simpa using k0,by simpa using k1⟩
  obtain⟨q,hq⟩:=Go.Deep.choose_lt each
  refine⟨(List.range len).map fun i=>q i,⟨some ad,cap,by simp,by simpa using hl,fun i t hi=>?_⟩,by simp;omega⟩
  have hil:i < len:=by have:=(jH.1 hi).1;simpa using this
  have ht:t=q i:=by simp[hil] at hi;exact hi.symm
  subst ht;obtain⟨b,off,spot⟩:=ad
  have hspot:spot=none:=by simpa [Addr.add] using World.cell?_spot (hq 0 (by omega)).1
  subst hspot;obtain⟨a0,a1⟩:=hq i hil
  rw[add_plain] at a0 a1
  exact⟨b,off,rfl,a0,by rw[Nat.add_assoc];exact a1⟩
end Go.Proofs.YtieoppabellafaaGreatDoor.Ts
