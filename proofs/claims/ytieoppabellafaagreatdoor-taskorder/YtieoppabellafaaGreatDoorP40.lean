/- Texts of the seat, packed: Al. -/
import Derived.Test.YtieoppabellafaaGreatDoorP31
import Derived.Test.YtieoppabellafaaGreatDoorP39
set_option maxRecDepth 1000000
set_option maxHeartbeats 64000000
set_option linter.unusedVariables false
namespace Go.Proofs.YtieoppabellafaaGreatDoor.Ts
open Go.RowKit Go.Shelf Fc St Sx Sa
def GoC (m:List Fa)(w:World)(e:Ending)(w':World):Prop:=Below w.heap.size w w'∧∃u,e= .returned (.tuple #[u,.int .i64 0])∧RF w' u m
theorem app_beg {its:List It}{l:List Fa}{k:Nat × Bool × Int}(h:k∈mayL its l):appP its l (evK k (if k.2.1 then 4 else 1))= .inr (l.set k.1 (begF (fOf l k.1) k.2.1)):=by
 obtain⟨i,u,t⟩:=k
 have hd:=beg_does h;have hc:=(may_iff.1 h).1;obtain⟨s1,s2,_⟩:=may_step h
 have h64:=(root_len (chkF_iff.1 hc).1).2;have ht:(u=false∧t=0)∨(u=true∧0≤t∧t≤3):=by
  rcases (may_iff.1 h).2 with ⟨h1,h2,_⟩ | ⟨h1,h2,_⟩
  ·exact .inl ⟨h1,h2⟩
  ·obtain⟨a1,a2,a3,a4,_⟩:=(rt_of hc).ok i s2
   exact .inr ⟨h1,by omega,by omega⟩
 have hok:Ek.okE (evK (i,u,t) (if u then 4 else 1))=true:=by
  unfold Ek.okE evK Ek.okH;rw[Bool.and_eq_true]
  refine⟨decide_eq_true ?_,(show Ek.okS [0]=true by decide)⟩
  dsimp only
  rcases ht with ⟨rfl,rfl⟩ | ⟨rfl,h1,h2⟩
  ·rw[if_neg (by decide)];omega
  ·rw[if_pos rfl];omega
 unfold appP;rw[if_pos hc,if_pos hok]
 show (match does (subs its) l (if u=true then 4 else 1) t ((i:Nat):Int).toNat with | none=>_ | some m=>_)=_;rw[Int.toNat_natCast,hd]
theorem app_end {its:List It}{l:List Fa}{k:Nat × Bool × Int}{ok:Bool}(h:k∈openL its l)(h3:k.2.1=true→ok=false→k.2.2≠3):appP its l (evK k (endE k.2.1 ok))= .inr (l.set k.1 (endF (fOf l k.1) k.2.1 ok)):=by
 obtain⟨i,u,t⟩:=k
 have hd:=end_does h h3;obtain⟨hc,ho,h9⟩:=open_iff.1 h
 obtain⟨s1,s2,_⟩:=ho.1
 have h64:=(root_len (chkF_iff.1 hc).1).2;have s2':i < its.length:=s2;have ht:(u=false∧t=0)∨(u=true∧0≤t∧t≤3):=by
  rcases h9 with ⟨h1,h2,_⟩ | ⟨h1,h2,_⟩
  ·exact .inl ⟨h1,h2⟩
  ·obtain⟨a1,a2,a3,a4,_⟩:=(rt_of hc).ok i s2
   exact .inr ⟨h1,by omega,by omega⟩
 have hok:Ek.okE (evK (i,u,t) (endE u ok))=true:=by
  unfold Ek.okE evK Ek.okH endE;rw[Bool.and_eq_true]
  refine⟨decide_eq_true ?_,(show Ek.okS [0]=true by decide)⟩
  dsimp only
  rcases ht with ⟨rfl,rfl⟩ | ⟨rfl,h1,h2⟩ <;> cases ok <;> simp <;> omega
 unfold appP;rw[if_pos hc,if_pos hok]
 show (match does (subs its) l (endE u ok) t ((i:Nat):Int).toNat with | none=>_ | some m=>_)=_;rw[Int.toNat_natCast,hd]
theorem Begin_any {its:List It}{l:List Fa}{v lv:Value}{w:World}(h:PF its l v lv w)(k:Nat × Bool × Int)(hk:k∈mayL its l) :
  Calls Tryz.prog 17 #[.agg #[v],lv,KeV k] w fun e w'=>GoC (l.set k.1 (begF (fOf l k.1) k.2.1)) w e w':=by
 have hc:chkF its l=0:=by obtain⟨i,u,t⟩:=k;exact (may_iff.1 hk).1
 have HAE:Hid _:=app_beg hk;obtain⟨M,HMM⟩:∃M,Hid (M=l.set k.1 (begF (fOf l k.1) k.2.1)):=⟨_,rfl⟩
 rw[←HMM.out] at HAE ⊢
 have HEK:Hid (∀wx,Calls Tryz.prog 40 #[KeV k] wx fun e w'=>EvC k (if k.2.1 then 4 else 1) wx e w'):=fun wx=>begins_any k wx
 obtain⟨kd,HKD⟩:∃kd:Int,Hid ((if k.2.1 then 4 else 1)=kd):=⟨_,rfl⟩
 rw[HKD.out] at HAE HEK
 have hml0:(mayL its l).length≤1000000:=by have:= @may_few its l;omega
 have HKM:Hid (k∈mayL its l):=hk;obtain⟨m,HM⟩:∃m,Hid (m=(mayL its l).length):=⟨_,rfl⟩
 have hml:m≤1000000:=by rw[HM.out];exact hml0
 have hb1:=bl1 w (.cells #[v] 28);have hb2:=bl1 (w.alloc (.cells #[v] 28)) (.cells #[.int .i64 (k.1:Int),.bool k.2.1,.int .i64 k.2.2] 47);have HB2:Hid _:=hb1.trans (hb2.mono hb1.size);have r1:=Dg.row_alloc (Dg.row_new w #[v] 28) (.cells #[.int .i64 (k.1:Int),.bool k.2.1,.int .i64 k.2.2] 47);have r2:=Dg.row_new (w.alloc (.cells #[v] 28)) #[.int .i64 (k.1:Int),.bool k.2.1,.int .i64 k.2.2] 47;rw[World.size_alloc] at r2
 have HPF0:Hid (∀wx,Below w.heap.size w wx→PF its l v lv wx):=fun wx hb=>h.later hb
 have HSE:Hid _:=see26_any (HPF0.out _ HB2.out);have HKV:Hid (KeV k= .agg #[.int .i64 (k.1:Int),.bool k.2.1,.int .i64 k.2.2]):=rfl;have c0:=(Dg.cell_row r1 0).trans rfl;have HR1:Hid _:=r1;have HR2:Hid _:=r2;obtain⟨xb,xo,icap,fb,fo,lcap,rfl,rfl,_⟩:=bs_of h.it h.fa hc
 obtain⟨_,hll,_⟩:=chk_facts hc
 have hfew:=root_len (chkF_iff.1 hc).1;have HCC:Hid _:=hc;obtain⟨n,HN⟩:∃n,Hid (its.length=n):=⟨_,rfl⟩
 have HLN:Hid (l.length=n):=hll.trans HN.out;rw[HN.out] at HSE HPF0 hfew c0 HB2 HR1 HR2 ⊢
 unfold KeV;clear h hb1 hb2 r1 r2 hc hll hml0 hk
 go_enter Tryz.func17,Tryz.ntmps17
 go_wp2_with fail
 obtain⟨s,hs⟩:∃s,w.heap.size=s:=⟨_,rfl⟩
 rw[hs] at HR1 HR2 c0 ⊢
 obtain⟨w1,hw1⟩:∃w1,(w.alloc (.cells #[.slice (some ⟨xb,xo,none⟩) n icap] 28)).alloc (.cells #[.int .i64 (k.1:Int),.bool k.2.1,.int .i64 k.2.2] 47)=w1:=⟨_,rfl⟩
 rw[hw1] at HR1 HR2 HB2 HSE c0 ⊢
 have HPF:Hid (∀wx,Below w1.heap.size w1 wx→PF its l (.slice (some ⟨xb,xo,none⟩) n icap) (.slice (some ⟨fb,fo,none⟩) n lcap) wx):=fun wx hb=>HPF0.out wx (HB2.out.trans (hb.mono HB2.out.size))
 have HBW:Hid (∀wx,Below w1.heap.size w1 wx→Below s w wx):=fun wx hb=>by have:=HB2.out.trans (hb.mono HB2.out.size);rw[hs] at this;exact this
 have HCV:Hid (∀wx,Below w1.heap.size w1 wx→wx.cell? ⟨s,0,none⟩=some (.slice (some ⟨xb,xo,none⟩) n icap)):=fun wx hb=>Dg.cell_later hb ((Dg.cell_row HR1.out 0).trans rfl)
 have HCK:Hid (∀wx,Below w1.heap.size w1 wx→wx.cell? ⟨s+1,0,none⟩=some (.int .i64 (k.1:Int))∧wx.cell? ⟨s+1,1,none⟩=some (.bool k.2.1)∧wx.cell? ⟨s+1,2,none⟩=some (.int .i64 k.2.2)):=fun wx hb=>
  ⟨Dg.cell_later hb ((Dg.cell_row HR2.out 0).trans rfl),Dg.cell_later hb ((Dg.cell_row HR2.out 1).trans rfl),Dg.cell_later hb ((Dg.cell_row HR2.out 2).trans rfl)⟩
 have HSW:Hid (w.heap.size=s):=hs;clear hw1 HR1 HR2 c0 HPF0 HB2 hs;refine Calls.mono (HSE.out) ?_;rintro e w2 ⟨hb2,pv,rfl,hp⟩;rw[HCC.out]
 unfold SeP at hp;rw[if_pos HCC.out] at hp
 obtain⟨P,ob,rfl,hO⟩:=hp
 have hB2:Below w1.heap.size w1 w2:=hb2;have HOU:Hid (∀wx,Below w2.heap.size w2 wx→Ou its l P ob wx):=fun wx hb=>hO.later hb
 have HB2:Hid _:=hB2;have HL2:Hid (∀wx,Below w2.heap.size w2 wx→Below w1.heap.size w1 wx):=fun wx hb=>HB2.out.trans (hb.mono HB2.out.size)
 have hS0:Below w2.heap.size w2 w2.drew:=(Below.refl _ _).drew;have HK:Hid (∀wx,Below w2.heap.size w2 wx→Calls Tryz.prog 28 #[.pointer (some ⟨ob,0,none⟩)] wx fun e w'=>∃y:Nat × Nat,e= .returned (.func (.func 57) #[] #[.pointer (some ⟨y.1,0,none⟩),.pointer (some ⟨y.2,0,none⟩)])∧Below w2.heap.size w2 w'∧Boxed w' y.1 70 (.pointer (some ⟨ob,0,none⟩))∧Boxed w' y.2 84 (.func (.func 54) #[] #[.pointer (some ⟨y.1,0,none⟩)])):=fun wx hb=>Calls.mono (keys_any (HOU.out wx hb)) (by
  rintro e w' ⟨hb9,bo,bm,rfl,q0,q1⟩;exact⟨(bo,bm),rfl,hb.trans (hb9.mono hb.size),q0,q1⟩)
 have HCO:Hid (∀(wx:World) (y:Nat × Nat),(Below w2.heap.size w2 wx∧Boxed wx y.1 70 (.pointer (some ⟨ob,0,none⟩))∧Boxed wx y.2 84 (.func (.func 54) #[] #[.pointer (some ⟨y.1,0,none⟩)]))→Calls Tryz.prog 27 #[.func (.func 57) #[] #[.pointer (some ⟨y.1,0,none⟩),.pointer (some ⟨y.2,0,none⟩)]] wx fun e w'=>∃z:Option Addr × Nat,e= .returned (.slice z.1 m z.2)∧Below w2.heap.size w2 w'∧RK w' (.slice z.1 m z.2) (mayL its l)):=fun wx y hh=>Calls.mono (collect_any (HOU.out wx hh.1) hh.2.1 hh.2.2) (by
  rintro e w' ⟨hb9,a,c,rfl,hr⟩;rw[←HM.out] at hr ⊢
  exact⟨(a,c),rfl,hh.1.trans (hb9.mono hh.1.size),hr⟩)
 have HCT:Hid (∀(wx:World) (z:Option Addr × Nat),(Below w2.heap.size w2 wx∧RK wx (.slice z.1 m z.2) (mayL its l))→Calls Tryz.prog 38 #[.slice z.1 m z.2,KeV k] wx fun e w'=>e= .returned (.bool true)∧Below w2.heap.size w2 w'):=fun wx z hh=>Calls.mono (contains_any (mayL its l) _ k wx hh.2 (by rw[←HM.out];exact hml)) (by
  rintro e w' ⟨rfl,hb⟩;rw[decide_eq_true HKM.out]
  exact⟨rfl,hh.1.trans (hb.mono hh.1.size)⟩)
 clear HSE hb2 hO hB2
 go_wp2_with fail
 refine region_thenG (β:=(Nat × Nat) × (Option Addr × Nat)) (fun z=>[(19,.pointer (some ⟨ob,0,none⟩)),(20,.func (.func 57) #[] #[.pointer (some ⟨z.1.1,0,none⟩),.pointer (some ⟨z.1.2,0,none⟩)]),(21,.slice z.2.1 m z.2.2),(22,KeV k),(23,.bool true),(24,.bool false)]) (fun z w'=>Below w2.heap.size w2 w') ?_ ?_
 ·refine wp_region_held (S:=fun w'=>Below w2.heap.size w2 w') (by kernel_rfl) ?_;simp only[List.size_toArray,List.length_cons,List.length_nil,Nat.reduceAdd,Array.replicate_succ,Array.replicate_zero,List.push_toArray,List.nil_append,List.cons_append];refine tK 0 19 (.pointer (some ⟨ob,0,none⟩)) 5 rfl hS0 ?_;refine tV 3 22 (KeV k) 4 rfl hS0 ?_ (fun wx h=>by rw[HKV.out];obtain⟨y0,y1,y2⟩:=HCK.out wx (HL2.out wx h);go_simp);refine oneX (β:=Nat × Nat) (V:=fun y=> .func (.func 57) #[] #[.pointer (some ⟨y.1,0,none⟩),.pointer (some ⟨y.2,0,none⟩)]) (R:=fun y w'=>Below w2.heap.size w2 w'∧Boxed w' y.1 70 (.pointer (some ⟨ob,0,none⟩))∧Boxed w' y.2 84 (.func (.func 54) #[] #[.pointer (some ⟨y.1,0,none⟩)])) (i:=1) (d:=20) (f:=28) (args:= #[.pointer (some ⟨ob,0,none⟩)]) (fuel:=3) rfl rfl (by kernel_rfl) (by kernel_rfl) (fun _=>by kernel_rfl) (HK.out _ hS0) (fun y w' h=>h.1) (fun y wz1 hR1=>?_);simp only[List.setIfInBounds_toArray,List.set_cons_succ,List.set_cons_zero];refine oneX (β:=Option Addr × Nat) (V:=fun x=> .slice x.1 m x.2) (R:=fun x w'=>Below w2.heap.size w2 w'∧RK w' (.slice x.1 m x.2) (mayL its l)) (i:=2) (d:=21) (f:=27) (args:= #[.func (.func 57) #[] #[.pointer (some ⟨y.1,0,none⟩),.pointer (some ⟨y.2,0,none⟩)]]) (fuel:=2) rfl rfl (by kernel_rfl) (by kernel_rfl) (fun _=>by kernel_rfl) (HCO.out _ _ hR1) (fun x w' h=>h.1) (fun x wz2 hR2=>?_);simp only[List.setIfInBounds_toArray,List.set_cons_succ,List.set_cons_zero];refine oneW (R:=fun w'=>Below w2.heap.size w2 w') (i:=4) (d:=23) (f:=38) (args:= #[.slice x.1 m x.2,KeV k]) (v:= .bool true) (fuel:=1) rfl rfl (by kernel_rfl) (by kernel_rfl) (fun _=>by kernel_rfl) (HCT.out _ _ hR2) (fun w' h=>h) (fun wz hR4=>?_);simp only[List.setIfInBounds_toArray,List.set_cons_succ,List.set_cons_zero];refine tK 5 24 (.bool false) 0 rfl (hR4) ?_;refine wpAnyH_done (by kernel_rfl) ?_ _;exact⟨rfl,(y,x),by kernel_rfl,(hR4)⟩
 ·rintro⟨⟨yb,ym⟩,za,zc⟩ w9 hF
  simp only[setAll,List.setIfInBounds_toArray,List.set_cons_succ,List.set_cons_zero];have HF9:Hid (Below w1.heap.size w1 w9):=HL2.out w9 hF;clear hF hS0 HK HCO HCT HOU HB2 HL2
  go_wp2_with fail
  have hT0:Below w1.heap.size w1 w9.drew:=HF9.out.drew;have HBG:Hid (∀wx,Below w1.heap.size w1 wx→Calls Tryz.prog 40 #[KeV k] wx fun e w'=>∃g:Nat,e= .returned (Ek.EvV (evK k kd) (.slice (some ⟨g,0,none⟩) 1 1))∧Below w1.heap.size w1 w'∧w'.cell? ⟨g,0,none⟩=some (.int .i64 0)):=fun wx hb=>Calls.mono (HEK.out wx) (by
   rintro e w' ⟨hb9,g,rfl,_,hg⟩;exact⟨g,rfl,hb.trans (hb9.mono hb.size),hg⟩)
  have HAP:Hid (∀(wx:World) (g:Nat),(Below w1.heap.size w1 wx∧wx.cell? ⟨g,0,none⟩=some (.int .i64 0))→Calls Tryz.prog 39 #[.agg #[.slice (some ⟨xb,xo,none⟩) n icap],.slice (some ⟨fb,fo,none⟩) n lcap,Ek.EvV (evK k kd) (.slice (some ⟨g,0,none⟩) 1 1)] wx fun e w'=>∃u:Value,e= .returned (.tuple #[u,.int .i64 0])∧Below w1.heap.size w1 w'∧RF w' u M):=fun wx g hh=>Calls.mono (apply_any its _ _ _ l (evK k kd) wx (HPF.out wx hh.1).it (HPF.out wx hh.1).fair (HPF.out wx hh.1).tab (HPF.out wx hh.1).fa (ri_cell hh.2) (by show (1:Nat)≤_;omega) (by rw[HN.out];omega) (by rw[HLN.out];omega)) (by
   intro e w' he;rw[HAE.out] at he
   obtain⟨hb9,u,rfl,hu⟩:=he
   exact⟨u,rfl,hh.1.trans (hb9.mono hh.1.size),hu.rf⟩)
  refine region_thenG (β:=Nat × Value) (fun z=>[(25,.agg #[.slice (some ⟨xb,xo,none⟩) n icap]),(26,.slice (some ⟨fb,fo,none⟩) n lcap),(27,KeV k),(28,Ek.EvV (evK k kd) (.slice (some ⟨z.1,0,none⟩) 1 1)),(29,.tuple #[z.2,.int .i64 0]),(30,z.2),(31,.int .i64 0),(6,z.2),(7,.int .i64 0)]) (fun z w'=>Below w1.heap.size w1 w'∧RF w' z.2 M) ?_ ?_
  ·refine wp_region_held (S:=fun w'=>Below w1.heap.size w1 w') (by kernel_rfl) ?_;simp only[List.size_toArray,List.length_cons,List.length_nil,Nat.reduceAdd,Array.replicate_succ,Array.replicate_zero,List.push_toArray,List.nil_append,List.cons_append];refine tV 0 25 (.agg #[.slice (some ⟨xb,xo,none⟩) n icap]) 8 rfl hT0 ?_ (fun wx h=>by have y0:=HCV.out wx h;go_simp);refine tK 1 26 (.slice (some ⟨fb,fo,none⟩) n lcap) 7 rfl hT0 ?_;refine tV 2 27 (KeV k) 6 rfl hT0 ?_ (fun wx h=>by rw[HKV.out];obtain⟨y0,y1,y2⟩:=HCK.out wx h;go_simp);refine oneX (β:=Nat) (V:=fun g=>Ek.EvV (evK k kd) (.slice (some ⟨g,0,none⟩) 1 1)) (R:=fun g w'=>Below w1.heap.size w1 w'∧w'.cell? ⟨g,0,none⟩=some (.int .i64 0)) (i:=3) (d:=28) (f:=40) (args:= #[KeV k]) (fuel:=5) rfl rfl (by kernel_rfl) (by kernel_rfl) (fun _=>by kernel_rfl) (HBG.out _ hT0) (fun g w' h=>h.1) (fun g wz3 hR3=>?_);simp only[List.setIfInBounds_toArray,List.set_cons_succ,List.set_cons_zero];refine oneX (β:=Value) (V:=fun u=> .tuple #[u,.int .i64 0]) (R:=fun u w'=>Below w1.heap.size w1 w'∧RF w' u M) (i:=4) (d:=29) (f:=39) (args:= #[.agg #[.slice (some ⟨xb,xo,none⟩) n icap],.slice (some ⟨fb,fo,none⟩) n lcap,Ek.EvV (evK k kd) (.slice (some ⟨g,0,none⟩) 1 1)]) (fuel:=4) rfl rfl (by kernel_rfl) (by kernel_rfl) (fun _=>by kernel_rfl) (HAP.out _ _ hR3) (fun u w' h=>h.1) (fun u wz4 hR4=>?_);simp only[List.setIfInBounds_toArray,List.set_cons_succ,List.set_cons_zero];refine tV 5 30 u 3 rfl (hR4.1) ?_ (fun wx h=>by go_simp);refine tV 6 31 (.int .i64 0) 2 rfl (hR4.1) ?_ (fun wx h=>by go_simp);refine tK 7 6 u 1 rfl (hR4.1) ?_;refine tK 8 7 (.int .i64 0) 0 rfl (hR4.1) ?_;refine wpAnyH_done (by kernel_rfl) ?_ _;exact⟨rfl,(g,u),by kernel_rfl,(hR4.1),hR4.2⟩
  ·rintro⟨g,u⟩ w10 hF
   simp only[setAll,List.setIfInBounds_toArray,List.set_cons_succ,List.set_cons_zero];have HF10:Hid _:=hF;clear hF
   go_wp2_with fail
   go_ret2
   unfold GoC;refine⟨?_,_,rfl,HF10.out.2⟩
   rw[HSW.out]
   exact HBW.out _ HF10.out.1
theorem End_any {its:List It}{l:List Fa}{v lv:Value}{w:World}(h:PF its l v lv w)(k:Nat × Bool × Int)(ok:Bool)(hk:k∈openL its l)(h3:k.2.1=true→ok=false→k.2.2≠3) :
  Calls Tryz.prog 18 #[.agg #[v],lv,KeV k,.bool ok] w fun e w'=>GoC (l.set k.1 (endF (fOf l k.1) k.2.1 ok)) w e w':=by
 have hc:chkF its l=0:=by obtain⟨i,u,t⟩:=k;exact (open_iff.1 hk).1
 have HAE:Hid _:=app_end hk h3;obtain⟨M,HMM⟩:∃M,Hid (M=l.set k.1 (endF (fOf l k.1) k.2.1 ok)):=⟨_,rfl⟩
 rw[←HMM.out] at HAE ⊢
 have HEK:Hid (∀wx,Calls Tryz.prog 41 #[KeV k,.bool ok] wx fun e w'=>EvC k (endE k.2.1 ok) wx e w'):=fun wx=>ends_any k ok wx
 obtain⟨kd,HKD⟩:∃kd:Int,Hid (endE k.2.1 ok=kd):=⟨_,rfl⟩
 rw[HKD.out] at HAE HEK
 have hml0:(openL its l).length≤1000000:=by have:=opG_few l 0;have h64:=(root_len (chkF_iff.1 hc).1).2;have hl:=(chk_facts hc).2.1;unfold openL;rw[if_pos hc];omega
 have HKM:Hid (k∈openL its l):=hk;obtain⟨m,HM⟩:∃m,Hid (m=(openL its l).length):=⟨_,rfl⟩
 have hml:m≤1000000:=by rw[HM.out];exact hml0
 have hb1:=bl1 w (.cells #[v] 28);have hb2:=bl1 (w.alloc (.cells #[v] 28)) (.cells #[.int .i64 (k.1:Int),.bool k.2.1,.int .i64 k.2.2] 47);have HB2:Hid _:=hb1.trans (hb2.mono hb1.size);have r1:=Dg.row_alloc (Dg.row_new w #[v] 28) (.cells #[.int .i64 (k.1:Int),.bool k.2.1,.int .i64 k.2.2] 47);have r2:=Dg.row_new (w.alloc (.cells #[v] 28)) #[.int .i64 (k.1:Int),.bool k.2.1,.int .i64 k.2.2] 47;rw[World.size_alloc] at r2
 have HPF0:Hid (∀wx,Below w.heap.size w wx→PF its l v lv wx):=fun wx hb=>h.later hb
 have HSE:Hid _:=checkF_any its v lv l _ (HPF0.out _ HB2.out).it (HPF0.out _ HB2.out).fair (HPF0.out _ HB2.out).tab (HPF0.out _ HB2.out).fa (HPF0.out _ HB2.out).il (HPF0.out _ HB2.out).ll;have HKV:Hid (KeV k= .agg #[.int .i64 (k.1:Int),.bool k.2.1,.int .i64 k.2.2]):=rfl;have c0:=(Dg.cell_row r1 0).trans rfl;have HR1:Hid _:=r1;have HR2:Hid _:=r2;obtain⟨xb,xo,icap,fb,fo,lcap,rfl,rfl,_⟩:=bs_of h.it h.fa hc
 obtain⟨_,hll,_⟩:=chk_facts hc
 have hfew:=root_len (chkF_iff.1 hc).1;have HCC:Hid _:=hc;obtain⟨n,HN⟩:∃n,Hid (its.length=n):=⟨_,rfl⟩
 have HLN:Hid (l.length=n):=hll.trans HN.out;rw[HN.out] at HSE HPF0 hfew c0 HB2 HR1 HR2 ⊢
 unfold KeV;clear h hb1 hb2 r1 r2 hc hll hml0 hk
 go_enter Tryz.func18,Tryz.ntmps18
 go_wp2_with fail
 obtain⟨s,hs⟩:∃s,w.heap.size=s:=⟨_,rfl⟩
 rw[hs] at HR1 HR2 c0 ⊢
 obtain⟨w1,hw1⟩:∃w1,(w.alloc (.cells #[.slice (some ⟨xb,xo,none⟩) n icap] 28)).alloc (.cells #[.int .i64 (k.1:Int),.bool k.2.1,.int .i64 k.2.2] 47)=w1:=⟨_,rfl⟩
 rw[hw1] at HR1 HR2 HB2 HSE c0 ⊢
 have HPF:Hid (∀wx,Below w1.heap.size w1 wx→PF its l (.slice (some ⟨xb,xo,none⟩) n icap) (.slice (some ⟨fb,fo,none⟩) n lcap) wx):=fun wx hb=>HPF0.out wx (HB2.out.trans (hb.mono HB2.out.size))
 have HBW:Hid (∀wx,Below w1.heap.size w1 wx→Below s w wx):=fun wx hb=>by have:=HB2.out.trans (hb.mono HB2.out.size);rw[hs] at this;exact this
 have HCV:Hid (∀wx,Below w1.heap.size w1 wx→wx.cell? ⟨s,0,none⟩=some (.slice (some ⟨xb,xo,none⟩) n icap)):=fun wx hb=>Dg.cell_later hb ((Dg.cell_row HR1.out 0).trans rfl)
 have HCK:Hid (∀wx,Below w1.heap.size w1 wx→wx.cell? ⟨s+1,0,none⟩=some (.int .i64 (k.1:Int))∧wx.cell? ⟨s+1,1,none⟩=some (.bool k.2.1)∧wx.cell? ⟨s+1,2,none⟩=some (.int .i64 k.2.2)):=fun wx hb=>
  ⟨Dg.cell_later hb ((Dg.cell_row HR2.out 0).trans rfl),Dg.cell_later hb ((Dg.cell_row HR2.out 1).trans rfl),Dg.cell_later hb ((Dg.cell_row HR2.out 2).trans rfl)⟩
 have HSW:Hid (w.heap.size=s):=hs;clear hw1 HR1 HR2 c0 HPF0 HB2 hs;refine Calls.mono (HSE.out) ?_;rintro e w2 ⟨rfl,hb2⟩;rw[HCC.out]
 have hB2:Below w1.heap.size w1 w2:=hb2;have HB2:Hid _:=hB2;have HL2:Hid (∀wx,Below w2.heap.size w2 wx→Below w1.heap.size w1 wx):=fun wx hb=>HB2.out.trans (hb.mono HB2.out.size)
 have hS0:Below w2.heap.size w2 w2.drew:=(Below.refl _ _).drew;have HK:Hid (∀wx,Below w2.heap.size w2 wx→Calls Tryz.prog 10 #[.agg #[.slice (some ⟨xb,xo,none⟩) n icap],.slice (some ⟨fb,fo,none⟩) n lcap] wx fun e w'=>∃z:Option Addr × Nat,e= .returned (.slice z.1 m z.2)∧Below w2.heap.size w2 w'∧RK w' (.slice z.1 m z.2) (openL its l)):=fun wx hb=>Calls.mono (open_any its _ _ l wx (HPF.out wx (HL2.out wx hb)).it (HPF.out wx (HL2.out wx hb)).fair (HPF.out wx (HL2.out wx hb)).tab (HPF.out wx (HL2.out wx hb)).fa (by rw[HN.out];omega) (by rw[HLN.out];omega)) (by
  rintro e w' ⟨hb9,u,rfl,hu⟩;obtain⟨a,c,rfl⟩:=hu.slice
  have h9:openP its l=openL its l:=rfl;rw[h9] at hu ⊢
  have hr:=hu.rk;rw[←HM.out] at hr ⊢
  exact⟨(a,c),rfl,hb.trans (hb9.mono hb.size),hr⟩)
 have HCT:Hid (∀(wx:World) (z:Option Addr × Nat),(Below w2.heap.size w2 wx∧RK wx (.slice z.1 m z.2) (openL its l))→Calls Tryz.prog 38 #[.slice z.1 m z.2,KeV k] wx fun e w'=>e= .returned (.bool true)∧Below w2.heap.size w2 w'):=fun wx z hh=>Calls.mono (contains_any (openL its l) _ k wx hh.2 (by rw[←HM.out];exact hml)) (by
  rintro e w' ⟨rfl,hb⟩;rw[decide_eq_true HKM.out]
  exact⟨rfl,hh.1.trans (hb.mono hh.1.size)⟩)
 clear HSE hb2 hB2
 go_wp2_with fail
 refine region_thenG (β:=Option Addr × Nat) (fun z=>[(14,.agg #[.slice (some ⟨xb,xo,none⟩) n icap]),(15,.slice (some ⟨fb,fo,none⟩) n lcap),(16,.slice z.1 m z.2),(17,KeV k),(18,.bool true),(19,.bool false)]) (fun z w'=>Below w2.heap.size w2 w') ?_ ?_
 ·refine wp_region_held (S:=fun w'=>Below w2.heap.size w2 w') (by kernel_rfl) ?_;simp only[List.size_toArray,List.length_cons,List.length_nil,Nat.reduceAdd,Array.replicate_succ,Array.replicate_zero,List.push_toArray,List.nil_append,List.cons_append];refine tV 0 14 (.agg #[.slice (some ⟨xb,xo,none⟩) n icap]) 5 rfl hS0 ?_ (fun wx h=>by have y0:=HCV.out wx (HL2.out wx h);go_simp);refine tK 1 15 (.slice (some ⟨fb,fo,none⟩) n lcap) 4 rfl hS0 ?_;refine tV 3 17 (KeV k) 3 rfl hS0 ?_ (fun wx h=>by rw[HKV.out];obtain⟨y0,y1,y2⟩:=HCK.out wx (HL2.out wx h);go_simp);refine oneX (β:=Option Addr × Nat) (V:=fun x=> .slice x.1 m x.2) (R:=fun x w'=>Below w2.heap.size w2 w'∧RK w' (.slice x.1 m x.2) (openL its l)) (i:=2) (d:=16) (f:=10) (args:= #[.agg #[.slice (some ⟨xb,xo,none⟩) n icap],.slice (some ⟨fb,fo,none⟩) n lcap]) (fuel:=2) rfl rfl (by kernel_rfl) (by kernel_rfl) (fun _=>by kernel_rfl) (HK.out _ hS0) (fun x w' h=>h.1) (fun x wz2 hR2=>?_);simp only[List.setIfInBounds_toArray,List.set_cons_succ,List.set_cons_zero];refine oneW (R:=fun w'=>Below w2.heap.size w2 w') (i:=4) (d:=18) (f:=38) (args:= #[.slice x.1 m x.2,KeV k]) (v:= .bool true) (fuel:=1) rfl rfl (by kernel_rfl) (by kernel_rfl) (fun _=>by kernel_rfl) (HCT.out _ _ hR2) (fun w' h=>h) (fun wz hR4=>?_);simp only[List.setIfInBounds_toArray,List.set_cons_succ,List.set_cons_zero];refine tK 5 19 (.bool false) 0 rfl (hR4) ?_;refine wpAnyH_done (by kernel_rfl) ?_ _;exact⟨rfl,x,by kernel_rfl,(hR4)⟩
 ·rintro⟨za,zc⟩ w9 hF
  simp only[setAll,List.setIfInBounds_toArray,List.set_cons_succ,List.set_cons_zero];have HF9:Hid (Below w1.heap.size w1 w9):=HL2.out w9 hF;clear hF hS0 HK HCT HB2 HL2
  go_wp2_with fail
  have hT0:Below w1.heap.size w1 w9.drew:=HF9.out.drew;have HBG:Hid (∀wx,Below w1.heap.size w1 wx→Calls Tryz.prog 41 #[KeV k,.bool ok] wx fun e w'=>∃g:Nat,e= .returned (Ek.EvV (evK k kd) (.slice (some ⟨g,0,none⟩) 1 1))∧Below w1.heap.size w1 w'∧w'.cell? ⟨g,0,none⟩=some (.int .i64 0)):=fun wx hb=>Calls.mono (HEK.out wx) (by
   rintro e w' ⟨hb9,g,rfl,_,hg⟩;exact⟨g,rfl,hb.trans (hb9.mono hb.size),hg⟩)
  have HAP:Hid (∀(wx:World) (g:Nat),(Below w1.heap.size w1 wx∧wx.cell? ⟨g,0,none⟩=some (.int .i64 0))→Calls Tryz.prog 39 #[.agg #[.slice (some ⟨xb,xo,none⟩) n icap],.slice (some ⟨fb,fo,none⟩) n lcap,Ek.EvV (evK k kd) (.slice (some ⟨g,0,none⟩) 1 1)] wx fun e w'=>∃u:Value,e= .returned (.tuple #[u,.int .i64 0])∧Below w1.heap.size w1 w'∧RF w' u M):=fun wx g hh=>Calls.mono (apply_any its _ _ _ l (evK k kd) wx (HPF.out wx hh.1).it (HPF.out wx hh.1).fair (HPF.out wx hh.1).tab (HPF.out wx hh.1).fa (ri_cell hh.2) (by show (1:Nat)≤_;omega) (by rw[HN.out];omega) (by rw[HLN.out];omega)) (by
   intro e w' he;rw[HAE.out] at he
   obtain⟨hb9,u,rfl,hu⟩:=he
   exact⟨u,rfl,hh.1.trans (hb9.mono hh.1.size),hu.rf⟩)
  refine region_thenG (β:=Nat × Value) (fun z=>[(20,.agg #[.slice (some ⟨xb,xo,none⟩) n icap]),(21,.slice (some ⟨fb,fo,none⟩) n lcap),(22,KeV k),(23,.bool ok),(24,Ek.EvV (evK k kd) (.slice (some ⟨z.1,0,none⟩) 1 1)),(25,.tuple #[z.2,.int .i64 0]),(26,z.2),(27,.int .i64 0),(8,z.2),(9,.int .i64 0)]) (fun z w'=>Below w1.heap.size w1 w'∧RF w' z.2 M) ?_ ?_
  ·refine wp_region_held (S:=fun w'=>Below w1.heap.size w1 w') (by kernel_rfl) ?_;simp only[List.size_toArray,List.length_cons,List.length_nil,Nat.reduceAdd,Array.replicate_succ,Array.replicate_zero,List.push_toArray,List.nil_append,List.cons_append];refine tV 0 20 (.agg #[.slice (some ⟨xb,xo,none⟩) n icap]) 9 rfl hT0 ?_ (fun wx h=>by have y0:=HCV.out wx h;go_simp);refine tK 1 21 (.slice (some ⟨fb,fo,none⟩) n lcap) 8 rfl hT0 ?_;refine tV 2 22 (KeV k) 7 rfl hT0 ?_ (fun wx h=>by rw[HKV.out];obtain⟨y0,y1,y2⟩:=HCK.out wx h;go_simp);refine tK 3 23 (.bool ok) 6 rfl hT0 ?_;refine oneX (β:=Nat) (V:=fun g=>Ek.EvV (evK k kd) (.slice (some ⟨g,0,none⟩) 1 1)) (R:=fun g w'=>Below w1.heap.size w1 w'∧w'.cell? ⟨g,0,none⟩=some (.int .i64 0)) (i:=4) (d:=24) (f:=41) (args:= #[KeV k,.bool ok]) (fuel:=5) rfl rfl (by kernel_rfl) (by kernel_rfl) (fun _=>by kernel_rfl) (HBG.out _ hT0) (fun g w' h=>h.1) (fun g wz4 hR4=>?_);simp only[List.setIfInBounds_toArray,List.set_cons_succ,List.set_cons_zero];refine oneX (β:=Value) (V:=fun u=> .tuple #[u,.int .i64 0]) (R:=fun u w'=>Below w1.heap.size w1 w'∧RF w' u M) (i:=5) (d:=25) (f:=39) (args:= #[.agg #[.slice (some ⟨xb,xo,none⟩) n icap],.slice (some ⟨fb,fo,none⟩) n lcap,Ek.EvV (evK k kd) (.slice (some ⟨g,0,none⟩) 1 1)]) (fuel:=4) rfl rfl (by kernel_rfl) (by kernel_rfl) (fun _=>by kernel_rfl) (HAP.out _ _ hR4) (fun u w' h=>h.1) (fun u wz5 hR5=>?_);simp only[List.setIfInBounds_toArray,List.set_cons_succ,List.set_cons_zero];refine tV 6 26 u 3 rfl (hR5.1) ?_ (fun wx h=>by go_simp);refine tV 7 27 (.int .i64 0) 2 rfl (hR5.1) ?_ (fun wx h=>by go_simp);refine tK 8 8 u 1 rfl (hR5.1) ?_;refine tK 9 9 (.int .i64 0) 0 rfl (hR5.1) ?_;refine wpAnyH_done (by kernel_rfl) ?_ _;exact⟨rfl,(g,u),by kernel_rfl,(hR5.1),hR5.2⟩
  ·rintro⟨g,u⟩ w10 hF
   simp only[setAll,List.setIfInBounds_toArray,List.set_cons_succ,List.set_cons_zero];have HF10:Hid _:=hF;clear hF
   go_wp2_with fail
   go_ret2
   unfold GoC;refine⟨?_,_,rfl,HF10.out.2⟩
   rw[HSW.out]
   exact HBW.out _ HF10.out.1
end Go.Proofs.YtieoppabellafaaGreatDoor.Ts
