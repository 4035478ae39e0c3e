/- Texts of the seat, packed: Ya Yb Zw Yc. -/
import Derived.Test.YtieoppabellafaaGreatDoorH01
import Derived.Test.YtieoppabellafaaGreatDoorH10
import Derived.Test.YtieoppabellafaaGreatDoorH09
set_option maxRecDepth 1000000
set_option maxHeartbeats 64000000
set_option linter.unusedVariables false
namespace Go.Proofs.YtieoppabellafaaGreatDoor
open Go.RowKit Go.Shelf Sx
def Pd.bare (x:Pd):Pd:=⟨x.num,x.lab,x.alts,none,0,0,none,x.am,0,x.inn,x.alt⟩
def xsT:Tr→Nat→Nat→Nat→List Pd
 | .e,_,_,_=>[]
 | .b x r,inn,alt,last=>xsT x inn alt last ++xsT r inn (alt+1) (last+cntA x)
 | .n l t r,inn,alt,last=>⟨last+1,l,t,none,0,0,none,t.len,0,inn,alt⟩ :: (xsT t (last+1) 0 (last+1) ++xsT r inn alt (last+1+cntA t))
theorem XAt.bare {P:Nat→Prop}{w:World}(t:Tr):∀(k:Bool) (a:Option Addr) (i n inn alt last:Nat) (xs:List Pd),XAt P w k t a i n inn alt last xs→xs.map Pd.bare=xsT t inn alt last:=by
 induction t with
 | e=>rintro k a i n inn alt last xs ⟨_,rfl⟩;rfl
 | b x r ih1 ih2=>
  rintro k a i n inn alt last xs ⟨h0,h1,ys,zs,rfl,⟨b,off,v,m,c,ha,hp,hc,hx⟩,hr⟩;rw[List.map_append,ih1 _ _ _ _ _ _ _ _ hx,ih2 _ _ _ _ _ _ _ _ hr]
  rfl
 | n l t r ih1 ih2=>
  rintro k a i n inn alt last xs ⟨h0,h1,sv,sm,sc,av,am,ac,ys,zs,rfl,_,_,ht,hy,hz⟩;rw[zZ,List.map_append,ih1 _ _ _ _ _ _ _ _ hy,ih2 _ _ _ _ _ _ _ _ hz]
  have:am=t.len:=by have:=ht.len;omega
  subst this;rfl
theorem numFold_bare:∀(xs:List Pd) (f:By→Option Nat),(xs.map Pd.bare).foldl numPut f=xs.foldl numPut f
 | [],_=>rfl
 | x :: xs,f=>by rw[zZ,List.foldl_cons,List.foldl_cons,numFold_bare xs];rfl
theorem numF_bare (xs:List Pd):numF (xs.map Pd.bare)=numF xs:=numFold_bare xs _
theorem goodN_bare (xs:List Pd):goodN (xs.map Pd.bare)=goodN xs:=by
 unfold goodN;rw[zG]
 congr 1
 funext j
 unfold goodAt;rw[zC,←List.map_take,numF_bare]
 cases xs[j]? <;> rfl
theorem its1_bare (x:By)(am:Nat)(xs:List Pd)(k:Nat):its1 x am (xs.map Pd.bare) k=its1 x am xs k:=by
 unfold its1;rw[←List.map_take,List.map_map]
 rfl
theorem leanK_bare (x:By)(am:Nat)(xs:List Pd)(k:Nat):leanK x am (xs.map Pd.bare) k=leanK x am xs k:=by
 unfold leanK;rw[zC,zG,its1_bare,numF_bare]
 cases xs[k]? <;> rfl
theorem its2_bare (x:By)(am:Nat)(xs:List Pd):∀k,its2 x am (xs.map Pd.bare) k=its2 x am xs k
 | 0=>by rw[its2,its2,zG,its1_bare]
 | k+1=>by rw[its2,its2,its2_bare x am xs k,leanK_bare]
theorem planP_bare (x:By)(t:Tr)(am:Nat)(xs:List Pd):planP x t am (xs.map Pd.bare)=planP x t am xs:=by
 unfold planP;rw[goodN_bare,zG,its2_bare]
 simp only[leanK_bare]
noncomputable def planT (x:By)(t:Tr):Option (List It):=planP x t t.len (xsT t 0 0 0)
structure Fair (t:Tr):Prop where
 bnd:Bnd t
 sz:szA t≤1000000000
 cn:cntA t≤1000000000
 lab:∀y∈xsT t 0 0 0,y.lab.name.length≤1100000∧y.lab.after.length≤1100000∧∀z∈y.lab.after,z.length≤1100000
theorem planT_fit {x:By}{t:Tr}{its:List It}(h:planT x t=some its):fitS x t=true:=by
 unfold planT planP at h
 split at h
 ·rename_i hc
  exact hc.1
 ·cases h
def PlanC (x:By)(t:Tr)(w:World)(e:Ending)(w':World):Prop:=Below w.heap.size w w'∧match planT x t with
 | none=>e= .panicked (rej 11)
 | some its=>∃v,e= .returned (.agg #[v])∧Stands w.heap.size w' v its
theorem Stands.widen {base base':Nat}{w:World}{v:Value}{its:List It}(h:Stands base w v its)(hb:base'≤base):Stands base' w v its:=fun A hA=>h A fun b h1 h2=>hA b (by omega) h2
theorem PlanC.bad {x:By}{t:Tr}{w w':World}(hP:planT x t=none)(hb:Below w.heap.size w w'):PlanC x t w (.panicked (rej 11)) w':=by
 unfold PlanC;rw[hP]
 exact⟨hb,rfl⟩
theorem PlanC.ok {x:By}{t:Tr}{w w':World}{its:List It}{v:Value}(hP:planT x t=some its)(hb:Below w.heap.size w w')(hs:Stands w.heap.size w' v its):PlanC x t w (.returned (.agg #[v])) w':=by
 unfold PlanC;rw[hP]
 exact⟨hb,v,rfl,hs⟩
theorem planOf_any (w:World)(x:By)(t:Tr)(a:Option Addr)(ac:Nat)(ht:TAt (· < w.heap.size) w true t a 0 t.len)(hF:Fair t)(hT:Dg.Tab w) :
  Calls Tryz.prog 21 #[.agg #[.string ⟨x.toArray⟩,.slice a t.len ac]] w fun e w'=>PlanC x t w e w':=by
 obtain⟨xs,hX⟩:=TAt.xat t true a 0 t.len 0 0 0 ht
 have hB:=XAt.bare _ _ _ _ _ _ _ _ _ hX;have hmem:∀y∈xs,y.bare∈xsT t 0 0 0:=fun y hy=>by rw[←hB];exact List.mem_map_of_mem hy
 have hP:planP x t t.len xs=planT x t:=by rw[planT,←hB,planP_bare]
 refine callsIn_wide.1 (planOf_in w x t a t.len ac ht hF.bnd hF.sz hF.cn xs hX (fun y hy=>(hF.lab _ (hmem y hy)).1) _ hT (fun y hy=>(hF.lab _ (hmem y hy)).2) ?_ ?_)
 ·intro w' hb h;rw[hP] at h
  unfold PlanC;rw[h]
  exact⟨hb,rfl⟩
 ·intro w' v its hb h hs;rw[hP] at h
  unfold PlanC;rw[h]
  exact⟨hb,v,rfl,hs⟩
theorem catch51 (b2 b3:Nat)(c2 c3:Value)(c:Int)(older:List PanicEntry)(w:World)(h2:w.heap[b2]? =some (.cells #[c2] 28 (0,0)))(h3:w.heap[b3]? =some (.cells #[c3] 29 (0,0)))(h23:b2≠b3) :
  CallsD Tryz.prog 42 #[.pointer (some ⟨b2,0,none⟩),.pointer (some ⟨b3,0,none⟩)] (.panicking ({v:= .iface 29 (.int .i64 c),recovered:=false} :: older)) w fun e u' w'=>
   e= .returned (.tuple #[])∧u'= .panicking ({v:= .iface 29 (.int .i64 c),recovered:=true} :: older)∧w'=(((w.alloc (.cells #[.slice none 0 0] 28)).setCell ⟨b2,0,none⟩ (.slice none 0 0)).setCell ⟨b3,0,none⟩ (.int .i64 c)).drew:=by
 have l2:=(jD.1 h2).1;have l3:=(jD.1 h3).1;have r2:=Dg.row_alloc h2 (.cells #[.slice none 0 0] 28);have r3:=Dg.row_alloc h3 (.cells #[.slice none 0 0] 28);have rn:=Dg.row_new w #[.slice none 0 0] 28;have g2:=(Dg.cell_row r2 0).trans rfl;have f2:=Dg.froz_row r2 0;have g3:=(Dg.cell_row r3 0).trans rfl;have f3:=Dg.froz_row r3 0;have gn:=(Dg.cell_row rn 0).trans rfl;refine callsD_of_wpS Tryz.func42 rfl fun c₀ cs hu=>?_
 apply wpS_seq
 apply wpS_region
 simp[wpOpsS,go_sem,recoverD,hu,Tryz.ntmps42,Exit.thenS]
 refine wpS_of_wp ?_;simp only[jI,jJ,jO,zN,jL,jK,jA,jC,jB];have hta:∀(v:Value) (w:World),(Instr.typeAssert (.iface 29 v) 20 29 false).run Tryz.prog w= .ok v w:=fun v w=>by simp[Instr.typeAssert,run_underlying Tryz.underlying29,go_sem,Result.andThen]
 have n1:b3≠b2:=fun h=>h23 h.symm
 have n2:w.heap.size≠b2:=by omega
 have n3:w.heap.size≠b3:=by omega
 go_wp2_with fail
 obtain⟨w1,hw1⟩:∃w1,w.alloc (.cells #[.slice none 0 0] 28)=w1:=⟨_,rfl⟩
 rw[hw1] at r2 r3 rn g2 f2 g3 f3 gn ⊢
 have HW1:Hid _:=hw1;clear hw1;have m3:∀v,(w1.setCell ⟨b2,0,none⟩ v).cell? ⟨b3,0,none⟩=some c3:=fun v=>(Dg.cell_row (Dg.row_other r3 v n1) 0).trans rfl
 have k3:∀v,(w1.setCell ⟨b2,0,none⟩ v).frozen? ⟨b3,0,none⟩=false:=fun v=>Dg.froz_row (Dg.row_other r3 v n1) 0
 go_region
 all_goals
  show bodyPostS Tryz.prog Tryz.f42 _ _ _ Exit.normal _ _ _;simp[bodyPostS,results,Tryz.results42]
  rw[←HW1.out]
theorem idle51 (b2 b3:Nat)(w:World) :
  CallsD Tryz.prog 42 #[.pointer (some ⟨b2,0,none⟩),.pointer (some ⟨b3,0,none⟩)] .returning w fun e u' w'=>e= .returned (.tuple #[])∧u'= .returning∧w'=w:=by
 refine callsD_of_wpS Tryz.func42 rfl fun c₀ cs hu=>?_
 apply wpS_seq
 apply wpS_region
 simp[wpOpsS,go_sem,recoverD,hu,Tryz.ntmps42,Exit.thenS]
 refine wpS_of_wp ?_;simp only[jI,jJ,jO,zN,jL,jK,jA,jC,jB]
 go_wp2_with fail
 cases c₀
 simp_all [bodyPostS,results,Tryz.results42]
theorem make1_any (w:World)(x:By)(t:Tr)(a:Option Addr)(ac b:Nat)(hb:w.heap[b]? =some (.cells #[.string ⟨x.toArray⟩,.slice a t.len ac] 24 (0,0)))(ht:TAt (· < w.heap.size) w true t a 0 t.len)(hF:Fair t)(hT:Dg.Tab w) :
  Calls Tryz.prog 20 #[.pointer (some ⟨b,0,none⟩)] w fun e w'=>PlanC x t w e w':=by
 have hb1:Below w.heap.size w (w.alloc (.cells #[.slice none 0 0] 28)):=(Below.refl _ w).alloc (jG _) _;have r1:=Dg.row_alloc hb (.cells #[.slice none 0 0] 28);have rn:=Dg.row_new w #[.slice none 0 0] 28;have M:Hid _:=planOf_any _ x t a ac (TAt.later ht hb1) hF (hT.later hb1);have g0:=(Dg.cell_row r1 0).trans rfl;have g1:=(Dg.cell_row r1 1).trans rfl
 go_enter Tryz.func20,Tryz.ntmps20
 go_wp2_with fail
 generalize w.alloc (.cells #[.slice none 0 0] 28)=w1 at *;have hz:w.heap.size < w1.heap.size:=(jD.1 rn).1;refine Calls.mono M.out ?_;rintro e w2 ⟨hb2,he⟩;clear M g0 g1;cases hP:planT x t with
 | none=>
  rw[hP] at he
  obtain rfl:e= .panicked (rej 11):=he
  go_wp2_with fail
  exact⟨rfl,PlanC.bad hP (hb1.trans (hb2.mono hb1.size))⟩
 | some its=>
  rw[hP] at he
  obtain⟨v,rfl,hs⟩:=he
  obtain⟨ia,icap,rfl,_⟩:=id hs.rd
  have rn2:=(hb2.block _ hz).trans rn;have g0:=(Dg.cell_row rn2 0).trans rfl;have f0:=Dg.froz_row rn2 0;have HS:Hid _:=hs;have HP:Hid _:=hP;clear hs hP
  go_wp2_with fail
  have hb3:Below w.heap.size w (w2.setCell ⟨w.heap.size,0,none⟩ (.slice ia its.length icap)):=(hb1.trans (hb2.mono hb1.size)).setCell (jG _) _;have rn3:=Dg.row_set rn2 0 (.slice ia its.length icap);refine bodyPost_ret_by (results_cell_row rfl _ _ w.heap.size 28 _ (0,0) _ rfl rn3 Tryz.underlying28 rfl (by kernel_rfl)) rfl (PlanC.ok HP.out hb3 ?_);exact Stands.widen (Stands.next HS.out (by simp) (fun b h1 h2=>jW _ _ _ _ (by show b≠w.heap.size;omega))) (Nat.le_of_lt hz)
def MakeC (x:By)(t:Tr)(w:World)(e:Ending)(w':World):Prop:=Below w.heap.size w w'∧match planT x t with
 | none=>e= .returned (.tuple #[.agg #[.slice none 0 0],.int .i64 11])
 | some its=>∃v,e= .returned (.tuple #[.agg #[v],.int .i64 0])∧Stands w.heap.size w' v its
theorem MakeC.bad {x:By}{t:Tr}{w w':World}(hP:planT x t=none)(hb:Below w.heap.size w w'):MakeC x t w (.returned (.tuple #[.agg #[.slice none 0 0],.int .i64 11])) w':=by
 unfold MakeC;rw[hP]
 exact⟨hb,rfl⟩
theorem MakeC.ok {x:By}{t:Tr}{w w':World}{its:List It}{v:Value}(hP:planT x t=some its)(hb:Below w.heap.size w w')(hs:Stands w.heap.size w' v its):MakeC x t w (.returned (.tuple #[.agg #[v],.int .i64 0])) w':=by
 unfold MakeC;rw[hP]
 exact⟨hb,v,rfl,hs⟩
theorem pan30 {a:Act}{wc:World}{R:Ending→World→Prop}{c2 c3:Value}{b2 b3:Nat}{c:Int}(r2:wc.heap[b2]? =some (.cells #[c2] 28 (0,0)))(r3:wc.heap[b3]? =some (.cells #[c3] 29 (0,0)))(h23:b2≠b3)(h2:a.tmps.getD 2 undef= .pointer (some ⟨b2,0,none⟩))(h3:a.tmps.getD 3 undef= .pointer (some ⟨b3,0,none⟩))
  (hd:a.defers=[{target:=Target.fn (Fn.func 42) #[.pointer (some ⟨b2,0,none⟩),.pointer (some ⟨b3,0,none⟩)],args:= #[]}])
  (hR:R (.returned (.tuple #[.agg #[.slice none 0 0],.int .i64 c])) (((wc.alloc (.cells #[.slice none 0 0] 28)).setCell ⟨b2,0,none⟩ (.slice none 0 0)).setCell ⟨b3,0,none⟩ (.int .i64 c)).drew):bodyPostD Tryz.prog Tryz.f19 R (Exit.panic (rej c)) a wc:=by
 have s2:=Dg.row_other (Dg.row_set (Dg.row_alloc r2 (.cells #[.slice none 0 0] 28)) 0 (.slice none 0 0)) (i:=0) (c:=b3) (.int .i64 c) h23;have s3:=Dg.row_set (Dg.row_other (Dg.row_alloc r3 (.cells #[.slice none 0 0] 28)) (i:=0) (c:=b2) (.slice none 0 0) (Ne.symm h23)) 0 (.int .i64 c);have h2':a.tmps[2]?.getD undef= .pointer (some ⟨b2,0,none⟩):=by simpa using h2
 have h3':a.tmps[3]?.getD undef= .pointer (some ⟨b3,0,none⟩):=by simpa using h3
 simp only[bodyPostD,hd];refine leaves_cons (f:=42) (args:= #[.pointer (some ⟨b2,0,none⟩),.pointer (some ⟨b3,0,none⟩)]) (by simp) (by simp[go_sem]) ?_;refine (catch51 b2 b3 c2 c3 c [] wc r2 r3 h23).mono ?_;rintro e u' w'' ⟨rfl,rfl,rfl⟩;generalize (((wc.alloc (.cells #[.slice none 0 0] 28)).setCell ⟨b2,0,none⟩ (.slice none 0 0)).setCell ⟨b3,0,none⟩ (.int .i64 c))=wz at *;have q2:wz.drew.cell? ⟨b2,0,none⟩=some (.slice none 0 0):=(Dg.cell_row s2 0).trans rfl;have q3:wz.drew.cell? ⟨b3,0,none⟩=some (.int .i64 c):=(Dg.cell_row s3 0).trans rfl;simp[Leaves,settle,results,Tryz.results19,go_sem,q2,q3,h2',h3']
 exact hR
theorem ret30 {a:Act}{wc:World}{R:Ending→World→Prop}{c2 c3:Value}{b2 b3:Nat}(r2:wc.heap[b2]? =some (.cells #[c2] 28 (0,0)))(r3:wc.heap[b3]? =some (.cells #[c3] 29 (0,0)))(h2:a.tmps.getD 2 undef= .pointer (some ⟨b2,0,none⟩))(h3:a.tmps.getD 3 undef= .pointer (some ⟨b3,0,none⟩))
  (hd:a.defers=[{target:=Target.fn (Fn.func 42) #[.pointer (some ⟨b2,0,none⟩),.pointer (some ⟨b3,0,none⟩)],args:= #[]}])
  (hR:R (.returned (.tuple #[.agg #[c2],c3])) wc):bodyPostD Tryz.prog Tryz.f19 R Exit.ret a wc:=by
 have q2:=(Dg.cell_row r2 0).trans rfl;have q3:=(Dg.cell_row r3 0).trans rfl;have h2':a.tmps[2]?.getD undef= .pointer (some ⟨b2,0,none⟩):=by simpa using h2
 have h3':a.tmps[3]?.getD undef= .pointer (some ⟨b3,0,none⟩):=by simpa using h3
 simp only[bodyPostD,hd];refine leaves_cons (f:=42) (args:= #[.pointer (some ⟨b2,0,none⟩),.pointer (some ⟨b3,0,none⟩)]) (by simp) (by simp[go_sem]) ?_;refine (idle51 b2 b3 wc).mono ?_;rintro e u' w'' ⟨rfl,rfl,rfl⟩;simp[Leaves,settle,results,Tryz.results19,go_sem,q2,q3,h2',h3']
 exact hR
theorem answer30 (w:World)(x:By)(t:Tr)(a:Option Addr)(ac b:Nat)(hb:w.heap[b]? =some (.cells #[.string ⟨x.toArray⟩,.slice a t.len ac] 24 (0,0)))(ht:TAt (· < w.heap.size) w true t a 0 t.len)(hF:Fair t)(hT:Dg.Tab w) :
  Calls Tryz.prog 19 #[.func (Fn.func 20) #[] #[.pointer (some ⟨b,0,none⟩)]] w fun e w'=>MakeC x t w e w':=by
 have hb1:Below w.heap.size w ((w.alloc (.cells #[.slice none 0 0] 28)).alloc (.cells #[.int .i64 0] 29)):=((Below.refl _ w).alloc (jG _) _).alloc (by simp) _;have r2:=Dg.row_alloc (Dg.row_new w #[.slice none 0 0] 28) (.cells #[.int .i64 0] 29);have r3:=Dg.row_new (w.alloc (.cells #[.slice none 0 0] 28)) #[.int .i64 0] 29;have rb:=Dg.row_alloc (Dg.row_alloc hb (.cells #[.slice none 0 0] 28)) (.cells #[.int .i64 0] 29);rw[jV] at r3
 have M:Hid _:=make1_any _ x t a ac b rb (TAt.later ht hb1) hF (hT.later hb1)
 go_enter_defers Tryz.func19,Tryz.ntmps19
 go_wp2_with fail
 generalize (w.alloc (.cells #[.slice none 0 0] 28)).alloc (.cells #[.int .i64 0] 29)=w1 at *;have hz:w.heap.size+1 < w1.heap.size:=(jD.1 r3).1;refine Calls.mono M.out ?_;rintro e w2 ⟨hb2,he⟩;clear M;have hbw:=hb1.trans (hb2.mono hb1.size);have s2:=(hb2.block _ (by omega)).trans r2;have s3:=(hb2.block _ hz).trans r3;cases hP:planT x t with
 | none=>
  rw[hP] at he
  obtain rfl:e= .panicked (rej 11):=he;refine pan30 s2 s3 (by omega) rfl rfl rfl (MakeC.bad hP ?_);exact (((hbw.alloc hbw.size _).setCell (jG _) _).setCell (by show _≤w.heap.size+1;omega) _).drew
 | some its=>
  rw[hP] at he
  obtain⟨v,rfl,hs⟩:=he
  obtain⟨ia,icap,rfl,_⟩:=id hs.rd
  have HS:Hid _:=hs;have HP:Hid _:=hP;have z2:=(Dg.cell_row s2 0).trans rfl;have f2:=Dg.froz_row s2 0;have s3':=Dg.row_other s3 (i:=0) (c:=w.heap.size) (.slice ia its.length icap) (by omega);have z3:=(Dg.cell_row s3' 0).trans rfl;have f3:=Dg.froz_row s3' 0;have HBW:Hid _:=hbw;have S2:Hid _:=s2;have S3:Hid _:=s3';clear hs hP hbw s2 s3 s3'
  go_wp2_with fail
  have hb3:Below w.heap.size w ((w2.setCell ⟨w.heap.size,0,none⟩ (.slice ia its.length icap)).setCell ⟨w.heap.size+1,0,none⟩ (.int .i64 0)):=(HBW.out.setCell (jG _) _).setCell (by show _≤w.heap.size+1;omega) _;refine ret30 (b2:=w.heap.size) (b3:=w.heap.size+1) (Dg.row_other (Dg.row_set S2.out 0 (.slice ia its.length icap)) (i:=0) (c:=w.heap.size+1) (.int .i64 0) (by omega)) (Dg.row_set S3.out 0 (.int .i64 0)) rfl rfl rfl (MakeC.ok HP.out hb3 ?_);exact Stands.widen (Stands.next HS.out (by simp) (fun b h1 h2=>(jW _ _ _ _ (by show b≠w.heap.size+1;omega)).trans (jW _ _ _ _ (by show b≠w.heap.size;omega)))) (show w.heap.size≤w1.heap.size by omega)
theorem Make_any (w:World)(x:By)(t:Tr)(a:Option Addr)(ac:Nat)(ht:TAt (· < w.heap.size) w true t a 0 t.len)(hF:Fair t)(hT:Dg.Tab w) :
  Calls Tryz.prog 6 #[.agg #[.string ⟨x.toArray⟩,.slice a t.len ac]] w fun e w'=>MakeC x t w e w':=by
 have hb1:Below w.heap.size w ((w.alloc (.cells #[.string ⟨x.toArray⟩,.slice a t.len ac] 24)).alloc (.cells #[.slice none 0 0] 28)):=((Below.refl _ w).alloc (jG _) _).alloc (by simp) _;have r1:=Dg.row_alloc (Dg.row_new w #[.string ⟨x.toArray⟩,.slice a t.len ac] 24) (.cells #[.slice none 0 0] 28);have r2:=Dg.row_new (w.alloc (.cells #[.string ⟨x.toArray⟩,.slice a t.len ac] 24)) #[.slice none 0 0] 28;rw[jV] at r2
 have M:Hid _:=answer30 _ x t a ac w.heap.size r1 (TAt.later ht hb1) hF (hT.later hb1)
 go_enter Tryz.func6,Tryz.ntmps6
 go_wp2_with fail
 generalize (w.alloc (.cells #[.string ⟨x.toArray⟩,.slice a t.len ac] 24)).alloc (.cells #[.slice none 0 0] 28)=w1 at *;have hz:w.heap.size+1 < w1.heap.size:=(jD.1 r2).1;refine Calls.mono M.out ?_;rintro e w2 ⟨hb2,he⟩;clear M;have hbw:=hb1.trans (hb2.mono hb1.size);have s2:=(hb2.block _ hz).trans r2;have z2:=(Dg.cell_row s2 0).trans rfl;have f2:=Dg.froz_row s2 0;have S2:Hid _:=s2;have HBW:Hid _:=hbw;clear s2 hbw;cases hP:planT x t with
 | none=>
  rw[hP] at he
  have HP:Hid _:=hP;obtain rfl:e= .returned (.tuple #[.agg #[.slice none 0 0],.int .i64 11]):=he;clear hP
  go_wp2_with fail
  have q2:=(Dg.cell_row (Dg.row_set S2.out 0 (.slice none 0 0)) 0).trans rfl;have hbE:Below w.heap.size w (w2.setCell ⟨w.heap.size+1,0,none⟩ (.slice none 0 0)):=HBW.out.setCell (by show _≤w.heap.size+1;omega) _;exact bodyPost_ret_by (by simp[results,Tryz.results6,go_sem,q2]) rfl (MakeC.bad HP.out hbE)
 | some its=>
  rw[hP] at he
  obtain⟨v,rfl,hs⟩:=he
  obtain⟨ia,icap,rfl,_⟩:=id hs.rd
  have HS:Hid _:=hs;have HP:Hid _:=hP;clear hs hP
  go_wp2_with fail
  have q2:=(Dg.cell_row (Dg.row_set S2.out 0 (.slice ia its.length icap)) 0).trans rfl;have hbE:Below w.heap.size w (w2.setCell ⟨w.heap.size+1,0,none⟩ (.slice ia its.length icap)):=HBW.out.setCell (by show _≤w.heap.size+1;omega) _;refine bodyPost_ret_by (by simp[results,Tryz.results6,go_sem,q2];rfl) rfl (MakeC.ok HP.out hbE ?_);exact Stands.widen (Stands.next HS.out (by simp) (fun b h1 h2=>jW _ _ _ _ (by show b≠w.heap.size+1;omega))) hb1.size
end Go.Proofs.YtieoppabellafaaGreatDoor
namespace Go.Proofs.YtieoppabellafaaGreatDoor
open Sx
def nodesL:List (Lab × Tr)→Tr
 | []=> .e
 | (l,t) :: r=> .n l t (nodesL r)
def bodiesL:List Tr→Tr
 | []=> .e
 | x :: r=> .b x (bodiesL r)
def nameI (its:List It)(on:Int):By:=match its[on.toNat]? with
 | some y=>y.name
 | none=>[]
def labI (its:List It)(x:It):Lab:=⟨x.name,x.undo,x.after.map (nameI its),x.sub,x.vital⟩
def altsI (its:List It)(i:Nat):Nat:=match its[i]? with
 | some x=>x.alts.toNat
 | none=>0
def kidsT (its:List It)(rec:Nat→Tr)(i alt:Nat):Nat→List (Lab × Tr)
 | 0=>[]
 | k+1=>kidsT its rec i alt k ++match its[k]? with
  | some x=>if x.inn=(i:Int)∧x.alt=(alt:Int) then [(labI its x,rec k)] else []
  | none=>[]
def bodT (its:List It):Nat→Nat→Tr
 | 0,_=> .e
 | f+1,i=>bodiesL ((List.range (altsI its i)).map fun alt=>nodesL (kidsT its (bodT its f) i alt its.length))
def Hang (its:List It):Prop:=∀(i:Nat) (x:It),its[i]? =some x→x.inn < (i:Int)
theorem kidsT_congr {its:List It}{r s:Nat→Tr}{i alt:Nat}(h:∀k x,its[k]? =some x→x.inn=(i:Int)→r k=s k):∀k,kidsT its r i alt k=kidsT its s i alt k
 | 0=>rfl
 | k+1=>by
  rw[kidsT,kidsT,kidsT_congr h k]
  congr 1
  cases hx:its[k]? with
  | none=>rfl
  | some x=>
   simp only
   split
   ·rename_i hc
    rw[h k x hx hc.1]
   ·rfl
theorem bodT_fuel {its:List It}(hH:Hang its):∀(f g i:Nat),its.length < i+f→its.length < i+g→bodT its f i=bodT its g i
 | 0,0,_,_,_=>rfl
 | 0,g+1,i,h1,_=>by
  have:altsI its i=0:=by unfold altsI;rw[zM (by omega)]
  simp[bodT,this,bodiesL]
 | f+1,0,i,_,h2=>by
  have:altsI its i=0:=by unfold altsI;rw[zM (by omega)]
  simp[bodT,this,bodiesL]
 | f+1,g+1,i,h1,h2=>by
  unfold bodT
  congr 1
  apply List.map_congr_left
  intro alt _
  congr 1
  apply kidsT_congr
  intro k x hx hi;have:=hH k x hx;exact bodT_fuel hH f g k (by omega) (by omega)
def sm (v:Nat→Nat):Nat→Nat
 | 0=>0
 | k+1=>sm v k+v k
theorem sm_le {u v:Nat→Nat}(h:∀j,u j≤v j):∀n,sm u n≤sm v n
 | 0=>jG _
 | n+1=>by have:=sm_le h n;have:=h n;simp only[sm];omega
theorem sm_add (u v:Nat→Nat):∀n,sm (fun j=>u j+v j) n=sm u n+sm v n
 | 0=>rfl
 | n+1=>by simp only[sm,sm_add u v n];omega
theorem sm_zero:∀n,sm (fun _=>0) n=0
 | 0=>rfl
 | n+1=>by simp only[sm,sm_zero n]
theorem sm_swap (f:Nat→Nat→Nat)(m:Nat):∀n,sm (fun a=>sm (fun j=>f a j) m) n=sm (fun j=>sm (fun a=>f a j) n) m
 | 0=>by simp only[sm];rw[sm_zero]
 | n+1=>by simp only[sm,sm_swap f m n];rw[←sm_add]
theorem sm_one (c:Nat→Prop) [DecidablePred c] (v:Nat)(h:∀a b,c a→c b→a=b):∀n,sm (fun a=>if c a then v else 0) n≤v
 | 0=>zE _
 | n+1=>by
  simp only[sm]
  by_cases hc:c n
  ·have:∀k,k≤n→sm (fun a=>if c a then v else 0) k=0:=by
    intro k
    induction k with
    | zero=>intro _;rfl
    | succ k ih=>
     intro hk;simp only[sm,ih (by omega)];rw[if_neg (fun hk'=>by have:=h _ _ hk' hc;omega)]
   rw[this n (jG _),if_pos hc]
   omega
  ·rw[if_neg hc]
   have:=sm_one c v h n;omega
theorem sz_nodesL:∀(l:List (Lab × Tr)),szA (nodesL l)=(l.map fun p=>1+szA p.2).sum
 | []=>rfl
 | (l,t) :: r=>by simp[nodesL,szA,sz_nodesL r]
theorem sz_bodies (f:Nat→Tr):∀(l:List Nat),szA (bodiesL (l.map f))=(l.map fun a=>1+szA (f a)).sum
 | []=>rfl
 | x :: r=>by simp[bodiesL,szA,sz_bodies f r]
theorem range_sum (v:Nat→Nat):∀n,((List.range n).map v).sum=sm v n
 | 0=>rfl
 | n+1=>by rw[List.range_succ,List.map_append,List.sum_append,range_sum v n];simp[sm]
def stands (its:List It)(i alt k:Nat):Prop:=∃x,its[k]? =some x∧x.inn=(i:Int)∧x.alt=(alt:Int)
def standsIn (its:List It)(i k:Nat):Prop:=∃x,its[k]? =some x∧x.inn=(i:Int)
open Classical in
theorem sz_kids (its:List It)(rec:Nat→Tr)(i alt:Nat):∀k,szA (nodesL (kidsT its rec i alt k))=sm (fun j=>if stands its i alt j then 1+szA (rec j) else 0) k
 | 0=>rfl
 | k+1=>by
  rw[sz_nodesL,kidsT,List.map_append,List.sum_append,←sz_nodesL,sz_kids its rec i alt k]
  simp only[sm]
  congr 1
  cases hx:its[k]? with
  | none=>rw[if_neg (by rintro⟨x,h1,_⟩;rw[hx] at h1;cases h1)];rfl
  | some x=>
   simp only
   by_cases hc:x.inn=(i:Int)∧x.alt=(alt:Int)
   ·rw[if_pos hc,if_pos ⟨x,hx,hc⟩]
    simp
   ·rw[if_neg hc,if_neg (by rintro⟨y,h1,h2⟩;rw[hx] at h1;cases h1;exact hc h2)]
    rfl
open Classical in
theorem sz_bod (its:List It)(f i:Nat):szA (bodT its (f+1) i)≤altsI its i+sm (fun j=>if standsIn its i j then 1+szA (bodT its f j) else 0) its.length:=by
 rw[bodT,sz_bodies,range_sum]
 have h1:∀a,1+szA (nodesL (kidsT its (bodT its f) i a its.length))=1+sm (fun j=>if stands its i a j then 1+szA (bodT its f j) else 0) its.length:=fun a=>by rw[sz_kids]
 have h2:sm (fun a=>1+szA (nodesL (kidsT its (bodT its f) i a its.length))) (altsI its i)=sm (fun a=>1) (altsI its i)+sm (fun a=>sm (fun j=>if stands its i a j then 1+szA (bodT its f j) else 0) its.length) (altsI its i):=by
  rw[←sm_add]
  congr 1
  funext a
  exact h1 a
 rw[h2,sm_swap]
 have h3:∀n,sm (fun _=>1) n=n:=by
  intro n
  induction n with
  | zero=>rfl
  | succ n ih=>simp only[sm,ih]
 rw[h3]
 refine Nat.add_le_add_left (sm_le (fun j=>?_) _) _
 by_cases hs:standsIn its i j
 ·rw[if_pos hs]
  refine sm_one (fun a=>stands its i a j) _ ?_ _;rintro a b ⟨x,h1,_,h2⟩ ⟨y,h3,_,h4⟩;rw[h1] at h3
  cases h3;rw[h2] at h4
  omega
 ·rw[if_neg hs]
  have:(fun a=>if stands its i a j then 1+szA (bodT its f j) else 0)=fun _=>0:=by
   funext a
   rw[if_neg]
   rintro⟨x,h1,h2,_⟩
   exact hs ⟨x,h1,h2⟩
  rw[this,sm_zero]
  exact jG _
theorem sm_congr {u v:Nat→Nat} :∀n,(∀j,j < n→u j=v j)→sm u n=sm v n
 | 0,_=>rfl
 | n+1,h=>by simp only[sm];rw[sm_congr n (fun j hj=>h j (by omega)),h n (by omega)]
open Classical in
noncomputable def tot (its:List It)(F k:Nat):Nat:=sm (fun j=>if k≤j∧∃x,its[j]? =some x∧x.inn < (k:Int) then 1+szA (bodT its F j) else 0) its.length
theorem sm_pick (u:Nat→Nat)(k:Nat):∀n,k < n→sm u n=u k+sm (fun j=>if j=k then 0 else u j) n
 | 0,h=>by omega
 | n+1,h=>by
  simp only[sm]
  by_cases hk:k=n
  ·subst hk;have:sm (fun j=>if j=k then 0 else u j) k=sm u k:=sm_congr k (fun j hj=>by rw[if_neg (by omega)]);rw[this,if_pos rfl]
   omega
  ·rw[sm_pick u k n (by omega),if_neg (fun e=>hk e.symm)]
   omega
open Classical in
theorem tot_step {its:List It}(hH:Hang its)(ha:∀i,altsI its i≤4)(k:Nat)(hk:k < its.length):tot its (its.length+1) k≤5+tot its (its.length+1) (k+1):=by
 obtain⟨x,hx⟩:∃x,its[k]? =some x:=⟨_,jF hk⟩
 have hxk:=hH k x hx;unfold tot;rw[sm_pick _ k _ hk,if_pos ⟨jG _,x,hx,hxk⟩]
 have h1:=sz_bod its its.length k;have hfu:(fun j=>if standsIn its k j then 1+szA (bodT its its.length j) else 0)=fun j=>if standsIn its k j then 1+szA (bodT its (its.length+1) j) else 0:=by
  funext j
  by_cases hs:standsIn its k j
  ·rw[if_pos hs,if_pos hs]
   obtain⟨y,hy,hi⟩:=hs
   have:=hH j y hy;rw[bodT_fuel hH its.length (its.length+1) j (by omega) (by omega)]
  ·rw[if_neg hs,if_neg hs]
 rw[hfu] at h1
 have h2:=ha k;have h3:sm (fun j=>if j=k then 0 else if k≤j∧∃x,its[j]? =some x∧x.inn < (k:Int) then 1+szA (bodT its (its.length+1) j) else 0) its.length+sm (fun j=>if standsIn its k j then 1+szA (bodT its (its.length+1) j) else 0) its.length≤sm (fun j=>if k+1≤j∧∃x,its[j]? =some x∧x.inn < ((k+1:Nat):Int) then 1+szA (bodT its (its.length+1) j) else 0) its.length:=by
  rw[←sm_add]
  refine sm_le (fun j=>?_) _
  by_cases hj:j=k
  ·subst hj;rw[if_pos rfl,if_neg (by rintro⟨y,h5,h6⟩;have:=hH j y h5;omega)]
   exact zE _
  ·rw[if_neg hj]
   by_cases hs:standsIn its k j
   ·obtain⟨y,hy,hi⟩:=hs
    have h5:=hH j y hy;rw[if_neg (by rintro⟨_,z,h7,h8⟩;rw[hy] at h7;cases h7;omega),if_pos ⟨y,hy,hi⟩,if_pos ⟨by omega,y,hy,by omega⟩]
    omega
   ·rw[if_neg hs]
    by_cases hc:k≤j∧∃x,its[j]? =some x∧x.inn < (k:Int)
    ·obtain⟨h6,y,h7,h8⟩:=hc
     rw[if_pos ⟨h6,y,h7,h8⟩,if_pos ⟨by omega,y,h7,by omega⟩]
     exact jG _
    ·rw[if_neg hc]
     exact zE _
 omega
theorem tot_le {its:List It}(hH:Hang its)(ha:∀i,altsI its i≤4):∀d k,k+d=its.length→tot its (its.length+1) k≤5 * d
 | 0,k,h=>by
  have:tot its (its.length+1) k=0:=by
   unfold tot;refine Eq.trans (sm_congr (v:=fun _=>0) _ (fun j hj=>?_)) (sm_zero _);rw[if_neg]
   rintro⟨h1,_⟩
   omega
  omega
 | d+1,k,h=>by
  have h1:=tot_step hH ha k (by omega);have h2:=tot_le hH ha d (k+1) (by omega);omega
theorem bod_size {its:List It}(hH:Hang its)(ha:∀i,altsI its i≤4)(i:Nat)(hi:i < its.length):szA (bodT its (its.length+1) i)≤5 * its.length+5:=by
 have h1:=tot_le hH ha (its.length - i) i (by omega);obtain⟨x,hx⟩:∃x,its[i]? =some x:=⟨_,jF hi⟩
 have hxi:=hH i x hx;have h2:1+szA (bodT its (its.length+1) i)≤tot its (its.length+1) i:=by
  unfold tot;rw[sm_pick _ i _ hi,if_pos ⟨jG _,x,hx,hxi⟩]
  omega
 omega
end Go.Proofs.YtieoppabellafaaGreatDoor
namespace Go.Proofs.YtieoppabellafaaGreatDoor
open Go.RowKit Go.Shelf Sx
def Since (w w':World)(b:Nat):Prop:=w.heap.size≤b∧b < w'.heap.size
def BodC (T:Tr)(w:World)(e:Ending)(w':World):Prop:=Below w.heap.size w w'∧∃a n c,e= .returned (.slice a n c)∧TAt (Since w w') w' true T a 0 n
def NodC (its:List It)(x:It)(T:Tr)(w:World)(e:Ending)(w':World):Prop:=Below w.heap.size w w'∧∃sv sm sc av am ac,e= .returned (.agg #[.string ⟨x.name.toArray⟩,.string ⟨x.undo.toArray⟩,.slice sv sm sc,.bool x.sub,.bool x.vital,.slice av am ac])∧
 SAt (Since w w') w' (x.after.map (nameI its)) sv sm∧TAt (Since w w') w' true T av 0 am
structure NdS (w:World)(x:It)(T:Tr)(nb:Nat)(yv:Value)(A:World)(u:Value)(av:Option Addr)(am ac:Nat)(P:Nat→Prop):Prop where
 bel:Below w.heap.size w A
 it:A.heap[w.heap.size+1]? =some (.cells #[.string ⟨x.name.toArray⟩,.string ⟨x.undo.toArray⟩,.bool x.sub,.bool x.vital,.int .i64 x.alts,.int .i64 x.inn,.int .i64 x.alt,yv] 50 (0,0))
 nd:A.heap[nb]? =some (.cells #[.string ⟨x.name.toArray⟩,.string ⟨x.undo.toArray⟩,u,.bool x.sub,.bool x.vital,.slice av am ac] 104 (0,0))
 res:A.heap[w.heap.size]? =some (.cells #[.string ⟨#[]⟩,.string ⟨#[]⟩,.slice none 0 0,.bool false,.bool false,.slice none 0 0] 104 (0,0))
 ge:w.heap.size+1 < nb
 tr:TAt P A true T av 0 am
 pg:∀b,P b→w.heap.size+1 < b∧b < A.heap.size∧b≠nb
theorem six_row {A:World}{n:Nat}{c0 c1 c2 c3 c4 c5:Value}{t:TypeId}(h:A.heap[n]? =some (.cells #[c0,c1,c2,c3,c4,c5] t (0,0)))(u0 u1 u2 u3 u4 u5:Value) :
  ((((((A.setCell ⟨n,0,none⟩ u0).setCell ⟨n,1,none⟩ u1).setCell ⟨n,2,none⟩ u2).setCell ⟨n,3,none⟩ u3).setCell ⟨n,4,none⟩ u4).setCell ⟨n,5,none⟩ u5).heap[n]? =some (.cells #[u0,u1,u2,u3,u4,u5] t (0,0))∧
  ((((((A.setCell ⟨n,0,none⟩ u0).setCell ⟨n,1,none⟩ u1).setCell ⟨n,2,none⟩ u2).setCell ⟨n,3,none⟩ u3).setCell ⟨n,4,none⟩ u4).setCell ⟨n,5,none⟩ u5).heap.size=A.heap.size∧
  (∀b,b≠n→((((((A.setCell ⟨n,0,none⟩ u0).setCell ⟨n,1,none⟩ u1).setCell ⟨n,2,none⟩ u2).setCell ⟨n,3,none⟩ u3).setCell ⟨n,4,none⟩ u4).setCell ⟨n,5,none⟩ u5).heap[b]? =A.heap[b]?)∧
  ∀base,base≤n→Below base A ((((((A.setCell ⟨n,0,none⟩ u0).setCell ⟨n,1,none⟩ u1).setCell ⟨n,2,none⟩ u2).setCell ⟨n,3,none⟩ u3).setCell ⟨n,4,none⟩ u4).setCell ⟨n,5,none⟩ u5):=by
 refine⟨Dg.row_set (Dg.row_set (Dg.row_set (Dg.row_set (Dg.row_set (Dg.row_set h 0 u0) 1 u1) 2 u2) 3 u3) 4 u4) 5 u5,by simp,fun b hb=>?_,fun base hb=>(((((((Below.refl _ A).setCell hb u0).setCell hb u1).setCell hb u2).setCell hb u3).setCell hb u4).setCell hb u5)⟩
 rw[jW _ _ _ b hb,jW _ _ _ b hb,jW _ _ _ b hb,jW _ _ _ b hb,jW _ _ _ b hb,jW _ _ _ b hb]
def ndT (w:World)(x:It)(b1 off1 il icap i:Nat)(yv:Value)(nb:Nat)(av:Option Addr)(am ac:Nat):Array Value:=
 #[.slice (some ⟨b1,off1,none⟩) il icap,.int .i64 (i:Int),undef,undef,.pointer (some ⟨w.heap.size,0,none⟩),.pointer (some ⟨w.heap.size+1,0,none⟩),.pointer (some ⟨nb,0,none⟩),undef,undef,.slice (some ⟨b1,off1,none⟩) il icap,.int .i64 (i:Int),.pointer (some ⟨b1,off1+i * 8,none⟩),
  .agg #[.string ⟨x.name.toArray⟩,.string ⟨x.undo.toArray⟩,.bool x.sub,.bool x.vital,.int .i64 x.alts,.int .i64 x.inn,.int .i64 x.alt,yv],.pointer (some ⟨w.heap.size+1,0,none⟩),.string ⟨x.name.toArray⟩,.pointer (some ⟨w.heap.size+1,1,none⟩),.string ⟨x.undo.toArray⟩,.pointer (some ⟨w.heap.size+1,2,none⟩),.bool x.sub,.pointer (some ⟨w.heap.size+1,3,none⟩),.bool x.vital,
  .slice (some ⟨b1,off1,none⟩) il icap,.int .i64 (i:Int),.slice av am ac,.agg #[.string ⟨x.name.toArray⟩,.string ⟨x.undo.toArray⟩,.slice none 0 0,.bool x.sub,.bool x.vital,.slice av am ac],undef,undef,undef,undef,undef,undef,undef,undef,undef,undef,undef,undef,undef,undef,undef,undef,undef,undef,undef]
theorem inf9:(Tryz.prog.info? 9).map (fun i=>(i.zero,i.size,i.bytes))=some (some (.string ⟨#[]⟩),1,16):=by kernel_rfl
theorem NdS.step {w:World}{x:It}{T:Tr}{nb:Nat}{yv:Value}{A B:World}{u:Value}{av:Option Addr}{am ac:Nat}{P:Nat→Prop}(h:NdS w x T nb yv A u av am ac P)(row:Option Nat)(hg:A.grownBy B row)(hu:∀b,row=some b→¬P b∧w.heap.size+1 < b∧b≠nb) :
  NdS w x T nb yv B u av am ac P:=by
 have hne:∀b,(b≤w.heap.size+1∨b=nb∨P b)→some b≠row:=fun b hb e=>by
  obtain⟨h1,h2,h3⟩:=hu b e.symm
  rcases hb with hb | hb | hb
  ·omega
  ·exact h3 hb
  ·exact h1 hb
 have hlt:∀{b:Nat} {o:Obj},A.heap[b]? =some o→b < A.heap.size:=fun h=>(jD.1 h).1
 refine⟨h.bel.trans ⟨hg.os,hg.tape,hg.output,hg.size,fun b hb=>hg.block b (by have:=h.bel.size;omega) (hne b (.inl (by omega)))⟩,(hg.block _ (hlt h.it) (hne _ (.inl (jG _)))).trans h.it,(hg.block _ (hlt h.nd) (hne _ (.inr (.inl rfl)))).trans h.nd,(hg.block _ (hlt h.res) (hne _ (.inl (Nat.le_succ _)))).trans h.res,h.ge,?_,fun b hb=>⟨(h.pg b hb).1,jR (h.pg b hb).2.1 hg.size,(h.pg b hb).2.2⟩⟩
 exact TAt.keep (fun b hb hl=>hg.block b hl (hne b (.inr (.inr hb)))) (fun b hb _=>hb) _ _ _ _ _ h.tr
theorem NdS.put {w:World}{x:It}{T:Tr}{nb:Nat}{yv:Value}{A:World}{u:Value}{av:Option Addr}{am ac:Nat}{P:Nat→Prop}(h:NdS w x T nb yv A u av am ac P)(u':Value):NdS w x T nb yv (A.setCell ⟨nb,2,none⟩ u') u' av am ac P:=by
 have hge:=h.ge;refine⟨h.bel.setCell (by show _≤nb;omega) _,Dg.row_other h.it _ (by omega),Dg.row_set h.nd 2 u',Dg.row_other h.res _ (by omega),h.ge,?_,fun b hb=>⟨(h.pg b hb).1,by simpa using (h.pg b hb).2.1,(h.pg b hb).2.2⟩⟩
 exact TAt.keep (fun b hb hl=>jW _ _ _ _ (h.pg b hb).2.2) (fun b hb _=>hb) _ _ _ _ _ h.tr
def nmV (its:List It)(l:List Int):List Value:=l.map fun on=> .string ⟨(nameI its on).toArray⟩
theorem SAt_own {A B:World}{base k uc:Nat}{ua:Option Addr}{its:List It}{l:List Int}{P:Nat→Prop}(ho:A.ownsRow base 9 1 (.slice ua k uc) k (nmV its l))(hl:l.length=k)(hk:∀b,(Value.slice ua k uc).ownBlock=some b→B.heap[b]? =A.heap[b]?∧P b):SAt P B (l.map (nameI its)) ua k:=by
 refine⟨by rw[zG,hl],fun i x hi=>?_⟩
 have hil:i < k:=by have:=(jH.1 hi).1;rw[zG] at this;omega
 rcases ho.2 with ⟨h0,h1⟩ | ⟨g,cap,cur,he,_⟩
 ·omega
 ·cases he;obtain⟨h1,h2⟩:=hk g rfl
  refine⟨g,0,rfl,h2,?_⟩
  rw[zI (a:=⟨g,0+i,none⟩) h1,zD,ho.cellAt i (by omega)]
  simp only[zC,Option.map_eq_some_iff] at hi;obtain⟨on,h3,rfl⟩:=hi
  simp[nmV,h3]
theorem nodeOf_any (its:List It)(v:Value)(w:World)(i:Nat)(x:It)(hx:its[i]? =some x)(hIt:RdIt w v its)(haf:∀on∈x.after,0≤on∧on < (its.length:Int))(hal:x.after.length≤1100000)(T:Tr)
  (hB:∀w1,RdIt w1 v its→Calls Tryz.prog 150 #[v,.int .i64 (i:Int)] w1 fun e w'=>BodC T w1 e w') :
  Calls Tryz.prog 162 #[v,.int .i64 (i:Int)] w fun e w'=>NodC its x T w e w':=by
 have HBo:Hid _:=hB;have HIt:Hid (RdIt w v its):=hIt;have HAF:Hid _:=haf;clear hB haf;obtain⟨ia,icap,rfl,hic,hir⟩:=hIt
 obtain⟨b1,off1,yav,yam,yac,rfl,k0,k1,k2,k3,k4,k5,k6,k7,hz⟩:=hir i x hx
 have hii:(i:Int) < (its.length:Int):=by have:=(jH.1 hx).1;omega
 obtain⟨za,zcap,hze,hzc,hzr⟩:=hz
 cases hze;obtain⟨il,HIL⟩:∃il,Hid (its.length=il):=⟨_,rfl⟩
 obtain⟨m,HM⟩:∃m,Hid (x.after.length=m):=⟨_,rfl⟩
 rw[HIL.out] at hii hic
 rw[HM.out] at k7 hzc hal
 have HX:Hid _:=hx;have HZR:Hid _:=hzr;have HIR:Hid _:=hir;clear hx hzr hir;have hb1:Below w.heap.size w (w.alloc (.cells #[.string ⟨#[]⟩,.string ⟨#[]⟩,.slice none 0 0,.bool false,.bool false,.slice none 0 0] 104)):=(Below.refl _ w).alloc (jG _) _;have j0:=Dg.cell_later hb1 k0;have j1:=Dg.cell_later hb1 k1;have j2:=Dg.cell_later hb1 k2;have j3:=Dg.cell_later hb1 k3;have j4:=Dg.cell_later hb1 k4;have j5:=Dg.cell_later hb1 k5;have j6:=Dg.cell_later hb1 k6;have j7:=Dg.cell_later hb1 k7;rw[HIL.out]
 go_enter Tryz.func162,Tryz.ntmps162
 go_wp2_with fail
 clear j0 j1 j2 j3 j4 j5 j6 j7 k0 k1 k2 k3 k4 k5 k6 k7;have r0:=Dg.row_alloc (Dg.row_new w #[.string ⟨#[]⟩,.string ⟨#[]⟩,.slice none 0 0,.bool false,.bool false,.slice none 0 0] 104) (.cells #[.string ⟨x.name.toArray⟩,.string ⟨x.undo.toArray⟩,.bool x.sub,.bool x.vital,.int .i64 x.alts,.int .i64 x.inn,.int .i64 x.alt,.slice yav m yac] 50);have r1:=Dg.row_new (w.alloc (.cells #[.string ⟨#[]⟩,.string ⟨#[]⟩,.slice none 0 0,.bool false,.bool false,.slice none 0 0] 104)) #[.string ⟨x.name.toArray⟩,.string ⟨x.undo.toArray⟩,.bool x.sub,.bool x.vital,.int .i64 x.alts,.int .i64 x.inn,.int .i64 x.alt,.slice yav m yac] 50;rw[jV] at r1
 have hb2:Below w.heap.size w ((w.alloc (.cells #[.string ⟨#[]⟩,.string ⟨#[]⟩,.slice none 0 0,.bool false,.bool false,.slice none 0 0] 104)).alloc (.cells #[.string ⟨x.name.toArray⟩,.string ⟨x.undo.toArray⟩,.bool x.sub,.bool x.vital,.int .i64 x.alts,.int .i64 x.inn,.int .i64 x.alt,.slice yav m yac] 50)):=hb1.alloc hb1.size _;generalize (w.alloc (.cells #[.string ⟨#[]⟩,.string ⟨#[]⟩,.slice none 0 0,.bool false,.bool false,.slice none 0 0] 104)).alloc (.cells #[.string ⟨x.name.toArray⟩,.string ⟨x.undo.toArray⟩,.bool x.sub,.bool x.vital,.int .i64 x.alts,.int .i64 x.inn,.int .i64 x.alt,.slice yav m yac] 50)=w2 at *;have hz2:w.heap.size+1 < w2.heap.size:=(jD.1 r1).1;clear hb1;refine wp_mono (Q:=fun e a' w'=>e= .normal∧∃nb av am ac P,NdS w x T nb (.slice yav m yac) w' (.slice none 0 0) av am ac P∧a'=⟨ndT w x b1 off1 il icap i (.slice yav m yac) nb av am ac,[]⟩) ?_ ?_
 ·refine wp_region_held (S:=fun w'=>Below w.heap.size w w'∧w'.heap[w.heap.size]? =some (.cells #[.string ⟨#[]⟩,.string ⟨#[]⟩,.slice none 0 0,.bool false,.bool false,.slice none 0 0] 104 (0,0))∧w'.heap[w.heap.size+1]? =some (.cells #[.string ⟨x.name.toArray⟩,.string ⟨x.undo.toArray⟩,.bool x.sub,.bool x.vital,.int .i64 x.alts,.int .i64 x.inn,.int .i64 x.alt,.slice yav m yac] 50 (0,0))) (by kernel_rfl) ?_;have hS0:Below w.heap.size w w2.drew∧w2.drew.heap[w.heap.size]? =some (.cells #[.string ⟨#[]⟩,.string ⟨#[]⟩,.slice none 0 0,.bool false,.bool false,.slice none 0 0] 104 (0,0))∧w2.drew.heap[w.heap.size+1]? =some (.cells #[.string ⟨x.name.toArray⟩,.string ⟨x.undo.toArray⟩,.bool x.sub,.bool x.vital,.int .i64 x.alts,.int .i64 x.inn,.int .i64 x.alt,.slice yav m yac] 50 (0,0)):=⟨hb2.drew,r0,r1⟩;simp only[jN,jM,jP,Nat.reduceAdd,jI,jJ,jO,jL,jK];refine tG 0 13 (.pointer (some ⟨w.heap.size+1,0,none⟩)) 13 rfl hS0 ?_;refine tV 1 14 (.string ⟨x.name.toArray⟩) 12 rfl hS0 ?_ (fun w3 hw3=>by have z0:=(Dg.cell_row hw3.2.2 0).trans rfl;go_simp);refine tG 2 15 (.pointer (some ⟨w.heap.size+1,1,none⟩)) 11 rfl hS0 ?_;refine tV 3 16 (.string ⟨x.undo.toArray⟩) 10 rfl hS0 ?_ (fun w3 hw3=>by have z0:=(Dg.cell_row hw3.2.2 1).trans rfl;go_simp);refine tG 4 17 (.pointer (some ⟨w.heap.size+1,2,none⟩)) 9 rfl hS0 ?_;refine tV 5 18 (.bool x.sub) 8 rfl hS0 ?_ (fun w3 hw3=>by have z0:=(Dg.cell_row hw3.2.2 2).trans rfl;go_simp);refine tG 6 19 (.pointer (some ⟨w.heap.size+1,3,none⟩)) 7 rfl hS0 ?_;refine tV 7 20 (.bool x.vital) 6 rfl hS0 ?_ (fun w3 hw3=>by have z0:=(Dg.cell_row hw3.2.2 3).trans rfl;go_simp);refine tK 8 21 ((.slice (some ⟨b1,off1,none⟩) il icap)) 5 rfl hS0 ?_;refine tK 9 22 (.int .i64 (i:Int)) 4 rfl hS0 ?_;have hMB:=HBo.out w2.drew (HIt.out.later hb2.drew);rw[HIL.out] at hMB
  refine wpAnyH_all (fuel:=3) (rs:=[10,12]) (by kernel_rfl) (by decide) ?_;refine zW.2 ⟨?_,jE.2 ?_⟩
  ·refine wpOp_calls (i:=10) (d:=23) rfl rfl (by kernel_rfl) (f:=150) (args:= #[(.slice (some ⟨b1,off1,none⟩) il icap),.int .i64 (i:Int)]) (by kernel_rfl) _ hMB ?_ ?_ ?_
   ·rintro vA WA ⟨hbA2,av,am,ac,hvA,htA⟩;cases hvA;have hbA:Below w.heap.size w WA:=hb2.trans ((Below.refl _ _).drew.trans (hbA2.mono hb2.size));have hA0:=(hbA2.block _ (show w.heap.size < w2.heap.size by omega)).trans r0;have hA1:=(hbA2.block _ hz2).trans r1;refine⟨⟨hbA,hA0,hA1⟩,?_⟩
    simp only[jA,jB,jC];refine wpAnyH_all (fuel:=2) (rs:=[11,12]) (by kernel_rfl) (by decide) ?_;refine zW.2 ⟨?_,jE.2 ?_⟩
    ·refine wpOp_value (i:=11) (d:=24) (v:= .agg #[.string ⟨x.name.toArray⟩,.string ⟨x.undo.toArray⟩,.slice none 0 0,.bool x.sub,.bool x.vital,.slice av am ac]) (w':=WA) rfl rfl (by kernel_rfl) (by go_simp) ?_;refine⟨⟨hbA,hA0,hA1⟩,?_⟩
     simp only[jA,jB,jC];refine wpAnyH_all (fuel:=1) (rs:=[12]) (by kernel_rfl) (by decide) ?_;refine jE.2 ?_;refine wpOp_value (i:=12) (d:=6) (v:= .pointer (some ⟨WA.heap.size,0,none⟩)) (w':=WA.alloc (.cells #[.string ⟨#[]⟩,.string ⟨#[]⟩,.slice none 0 0,.bool false,.bool false,.slice none 0 0] 104)) rfl rfl (by kernel_rfl) (by go_simp) ?_;refine⟨⟨hbA.alloc hbA.size _,Dg.row_alloc hA0 _,Dg.row_alloc hA1 _⟩,?_⟩
     simp only[jA,jB,jC];refine wpAnyH_all (fuel:=0) (rs:=[13]) (by kernel_rfl) (by decide) ?_;refine jE.2 ?_;refine wpOp_skip (i:=13) (w':=WA.alloc (.cells #[.string ⟨x.name.toArray⟩,.string ⟨x.undo.toArray⟩,.slice none 0 0,.bool x.sub,.bool x.vital,.slice av am ac] 104)) rfl rfl (by kernel_rfl) (by go_simp) ?_;refine⟨⟨hbA.alloc hbA.size _,Dg.row_alloc hA0 _,Dg.row_alloc hA1 _⟩,wpAnyH_done (by kernel_rfl) ?_ _⟩
     refine⟨rfl,WA.heap.size,av,am,ac,Since w2.drew WA,⟨hbA.alloc hbA.size _,Dg.row_alloc hA1 _,Dg.row_new WA #[.string ⟨x.name.toArray⟩,.string ⟨x.undo.toArray⟩,.slice none 0 0,.bool x.sub,.bool x.vital,.slice av am ac] 104,Dg.row_alloc hA0 _,jR hz2 hbA2.size,TAt.keep (fun b hb hl=>((Below.refl WA.heap.size WA).alloc (jG _) _).block b hl) (fun b hb _=>hb) _ _ _ _ _ htA,fun b hb=>⟨jR hz2 hb.1,by have:=hb.2;simp;omega,by have:=hb.2;omega⟩⟩,rfl⟩
    ·refine wpOp_value (i:=12) (d:=6) (v:= .pointer (some ⟨WA.heap.size,0,none⟩)) (w':=WA.alloc (.cells #[.string ⟨#[]⟩,.string ⟨#[]⟩,.slice none 0 0,.bool false,.bool false,.slice none 0 0] 104)) rfl rfl (by kernel_rfl) (by go_simp) ?_;refine⟨⟨hbA.alloc hbA.size _,Dg.row_alloc hA0 _,Dg.row_alloc hA1 _⟩,?_⟩
     simp only[jA,jB,jC];refine wpAnyH_all (fuel:=1) (rs:=[11]) (by kernel_rfl) (by decide) ?_;refine jE.2 ?_;refine wpOp_value (i:=11) (d:=24) (v:= .agg #[.string ⟨x.name.toArray⟩,.string ⟨x.undo.toArray⟩,.slice none 0 0,.bool x.sub,.bool x.vital,.slice av am ac]) (w':=WA.alloc (.cells #[.string ⟨#[]⟩,.string ⟨#[]⟩,.slice none 0 0,.bool false,.bool false,.slice none 0 0] 104)) rfl rfl (by kernel_rfl) (by go_simp) ?_;refine⟨⟨hbA.alloc hbA.size _,Dg.row_alloc hA0 _,Dg.row_alloc hA1 _⟩,?_⟩
     simp only[jA,jB,jC];refine wpAnyH_all (fuel:=0) (rs:=[13]) (by kernel_rfl) (by decide) ?_;refine jE.2 ?_;refine wpOp_skip (i:=13) (w':=WA.alloc (.cells #[.string ⟨x.name.toArray⟩,.string ⟨x.undo.toArray⟩,.slice none 0 0,.bool x.sub,.bool x.vital,.slice av am ac] 104)) rfl rfl (by kernel_rfl) (by go_simp) ?_;refine⟨⟨hbA.alloc hbA.size _,Dg.row_alloc hA0 _,Dg.row_alloc hA1 _⟩,wpAnyH_done (by kernel_rfl) ?_ _⟩
     refine⟨rfl,WA.heap.size,av,am,ac,Since w2.drew WA,⟨hbA.alloc hbA.size _,Dg.row_alloc hA1 _,Dg.row_new WA #[.string ⟨x.name.toArray⟩,.string ⟨x.undo.toArray⟩,.slice none 0 0,.bool x.sub,.bool x.vital,.slice av am ac] 104,Dg.row_alloc hA0 _,jR hz2 hbA2.size,TAt.keep (fun b hb hl=>((Below.refl WA.heap.size WA).alloc (jG _) _).block b hl) (fun b hb _=>hb) _ _ _ _ _ htA,fun b hb=>⟨jR hz2 hb.1,by have:=hb.2;simp;omega,by have:=hb.2;omega⟩⟩,rfl⟩
   ·rintro ch w'' ⟨_,_,_,_,h9,_⟩;cases h9
   ·rintro w'' ⟨_,_,_,_,h9,_⟩;cases h9
  ·refine wpOp_value (i:=12) (d:=6) (v:= .pointer (some ⟨w2.heap.size,0,none⟩)) (w':=w2.drew.alloc (.cells #[.string ⟨#[]⟩,.string ⟨#[]⟩,.slice none 0 0,.bool false,.bool false,.slice none 0 0] 104)) rfl rfl (by kernel_rfl) (by go_simp) ?_;have hbN:Below w.heap.size w (w2.drew.alloc (.cells #[.string ⟨#[]⟩,.string ⟨#[]⟩,.slice none 0 0,.bool false,.bool false,.slice none 0 0] 104)):=hb2.drew.alloc hb2.size _;have rN:=Dg.row_new w2.drew #[.string ⟨#[]⟩,.string ⟨#[]⟩,.slice none 0 0,.bool false,.bool false,.slice none 0 0] 104;have hN0:=Dg.row_alloc (w:=w2.drew) r0 (.cells #[.string ⟨#[]⟩,.string ⟨#[]⟩,.slice none 0 0,.bool false,.bool false,.slice none 0 0] 104);have hN1:=Dg.row_alloc (w:=w2.drew) r1 (.cells #[.string ⟨#[]⟩,.string ⟨#[]⟩,.slice none 0 0,.bool false,.bool false,.slice none 0 0] 104);have hzN:(w2.drew.alloc (.cells #[.string ⟨#[]⟩,.string ⟨#[]⟩,.slice none 0 0,.bool false,.bool false,.slice none 0 0] 104)).heap.size=w2.heap.size+1:=by simp
   refine⟨⟨hbN,hN0,hN1⟩,?_⟩
   simp only[jA,jB,jC];have hMB2:=HBo.out (w2.drew.alloc (.cells #[.string ⟨#[]⟩,.string ⟨#[]⟩,.slice none 0 0,.bool false,.bool false,.slice none 0 0] 104)) (HIt.out.later hbN);rw[HIL.out] at hMB2
   generalize w2.drew.alloc (.cells #[.string ⟨#[]⟩,.string ⟨#[]⟩,.slice none 0 0,.bool false,.bool false,.slice none 0 0] 104)=wN at *;refine wpAnyH_all (fuel:=2) (rs:=[10]) (by kernel_rfl) (by decide) ?_;refine jE.2 ?_;refine wpOp_calls (i:=10) (d:=23) rfl rfl (by kernel_rfl) (f:=150) (args:= #[(.slice (some ⟨b1,off1,none⟩) il icap),.int .i64 (i:Int)]) (by kernel_rfl) _ hMB2 ?_ ?_ ?_
   ·rintro vA WA ⟨hbA2,av,am,ac,hvA,htA⟩;cases hvA;have hbA:Below w.heap.size w WA:=hbN.trans (hbA2.mono hbN.size);have hA0:=(hbA2.block _ (show w.heap.size < wN.heap.size by omega)).trans hN0;have hA1:=(hbA2.block _ (show w.heap.size+1 < wN.heap.size by omega)).trans hN1;have hAN:WA.heap[w2.heap.size]? =some (.cells #[.string ⟨#[]⟩,.string ⟨#[]⟩,.slice none 0 0,.bool false,.bool false,.slice none 0 0] 104 (0,0)):=(hbA2.block _ (show w2.heap.size < wN.heap.size by omega)).trans rN;refine⟨⟨hbA,hA0,hA1⟩,?_⟩
    simp only[jA,jB,jC];refine wpAnyH_all (fuel:=1) (rs:=[11]) (by kernel_rfl) (by decide) ?_;refine jE.2 ?_;refine wpOp_value (i:=11) (d:=24) (v:= .agg #[.string ⟨x.name.toArray⟩,.string ⟨x.undo.toArray⟩,.slice none 0 0,.bool x.sub,.bool x.vital,.slice av am ac]) (w':=WA) rfl rfl (by kernel_rfl) (by go_simp) ?_;refine⟨⟨hbA,hA0,hA1⟩,?_⟩
    simp only[jA,jB,jC];refine wpAnyH_all (fuel:=0) (rs:=[13]) (by kernel_rfl) (by decide) ?_;refine jE.2 ?_;have q0:=(Dg.cell_row hAN 0).trans rfl;have q1:=(Dg.cell_row hAN 1).trans rfl;have q2:=(Dg.cell_row hAN 2).trans rfl;have q3:=(Dg.cell_row hAN 3).trans rfl;have q4:=(Dg.cell_row hAN 4).trans rfl;have q5:=(Dg.cell_row hAN 5).trans rfl;have f0:=Dg.froz_row hAN 0;have f1:=Dg.froz_row hAN 1;have f2:=Dg.froz_row hAN 2;have f3:=Dg.froz_row hAN 3;have f4:=Dg.froz_row hAN 4;have f5:=Dg.froz_row hAN 5;refine wpOp_skip (i:=13) (w':=((((((WA.setCell ⟨w2.heap.size,0,none⟩ (.string ⟨x.name.toArray⟩)).setCell ⟨w2.heap.size,1,none⟩ (.string ⟨x.undo.toArray⟩)).setCell ⟨w2.heap.size,2,none⟩ (.slice none 0 0)).setCell ⟨w2.heap.size,3,none⟩ (.bool x.sub)).setCell ⟨w2.heap.size,4,none⟩ (.bool x.vital)).setCell ⟨w2.heap.size,5,none⟩ (.slice av am ac))) rfl rfl (by kernel_rfl) (by go_simp) ?_;obtain⟨s1,s2,s3,s4⟩:=six_row hAN (.string ⟨x.name.toArray⟩) (.string ⟨x.undo.toArray⟩) (.slice none 0 0) (.bool x.sub) (.bool x.vital) (.slice av am ac)
    have hbE:=hbA.trans (s4 w.heap.size (by omega));have hE0:=(s3 _ (show w.heap.size≠w2.heap.size by omega)).trans hA0;have hE1:=(s3 _ (show w.heap.size+1≠w2.heap.size by omega)).trans hA1;refine⟨⟨hbE,hE0,hE1⟩,wpAnyH_done (by kernel_rfl) ?_ _⟩
    refine⟨rfl,w2.heap.size,av,am,ac,Since wN WA,⟨hbE,hE1,s1,hE0,hz2,TAt.keep (fun b hb hl=>s3 b (fun e=>by have:=hb.1;omega)) (fun b hb _=>hb) _ _ _ _ _ htA,fun b hb=>⟨by have:=hb.1;omega,by rw[s2];exact hb.2,by have:=hb.1;omega⟩⟩,rfl⟩
   ·rintro ch w'' ⟨_,_,_,_,h9,_⟩;cases h9
   ·rintro w'' ⟨_,_,_,_,h9,_⟩;cases h9
 ·rintro e a' w3 ⟨rfl,nb,av,am,ac,P,hN,rfl⟩;clear hb2 r0 r1 hz2;have z7:=(Dg.cell_row hN.it 7).trans rfl;have HN:Hid (NdS w x T nb (.slice yav m yac) w3 (.slice none 0 0) av am ac P):=hN;clear hN;simp only[Exit.then]
  go_at_K
  unfold ndT
  go_wp2_with fail
  clear z7
  go_loopw [28] (fun kv wr=>∃(k:Nat) (u:Value),k≤m∧kv= .int .i64 k∧Hid (NdS w x T nb (.slice yav m yac) wr u av am ac P)∧Hid (wr.ownsRow w.heap.size 9 1 u k (nmV its (x.after.take k)))∧Hid (∀b,u.ownBlock=some b→¬P b∧w.heap.size+1 < b∧b≠nb)) (fun kv _=>m - (intOf kv).toNat)
  case atStart=>exact⟨0,_,zE _,rfl,HN,zT _ _ _ _,fun b hb=>by cases hb⟩
  case round=>
   obtain⟨k,u,hk,rfl,HS,HO,HU⟩:=hrel
   rename World=>w4
   by_cases hlt:k < m
   rotate_left
   ·have hke:k=m:=by omega
    subst hke;obtain⟨ua,uc,rfl⟩:=own_slice HO.out
    have q0:=(Dg.cell_row HS.out.nd 0).trans rfl;have q1:=(Dg.cell_row HS.out.nd 1).trans rfl;have q2:=(Dg.cell_row HS.out.nd 2).trans rfl;have q3:=(Dg.cell_row HS.out.nd 3).trans rfl;have q4:=(Dg.cell_row HS.out.nd 4).trans rfl;have q5:=(Dg.cell_row HS.out.nd 5).trans rfl;have p0:=(Dg.cell_row HS.out.res 0).trans rfl;have p1:=(Dg.cell_row HS.out.res 1).trans rfl;have p2:=(Dg.cell_row HS.out.res 2).trans rfl;have p3:=(Dg.cell_row HS.out.res 3).trans rfl;have p4:=(Dg.cell_row HS.out.res 4).trans rfl;have p5:=(Dg.cell_row HS.out.res 5).trans rfl;have f0:=Dg.froz_row HS.out.res 0;have f1:=Dg.froz_row HS.out.res 1;have f2:=Dg.froz_row HS.out.res 2;have f3:=Dg.froz_row HS.out.res 3;have f4:=Dg.froz_row HS.out.res 4;have f5:=Dg.froz_row HS.out.res 5;clear HZR HIR HAF HX
    go_wp2_with fail
    obtain⟨s1,s2,s3,s4⟩:=six_row HS.out.res (.string ⟨x.name.toArray⟩) (.string ⟨x.undo.toArray⟩) (.slice ua k uc) (.bool x.sub) (.bool x.vital) (.slice av am ac)
    refine bodyPost_ret_by (results_cell_row rfl _ _ w.heap.size 104 _ (0,0) _ rfl s1 Tryz.underlying104 rfl (by kernel_rfl)) rfl ⟨HS.out.bel.trans (s4 _ (jG _)),_,_,_,_,_,_,rfl,?_,?_⟩
    ·have hfull:x.after.take k=x.after:=by rw[←HM.out,List.take_length]
     have ho:=HO.out;rw[hfull] at ho
     exact SAt_own ho HM.out (fun b hb=>⟨s3 b (by have:=(HU.out b hb).2.1;omega),by have:=(HU.out b hb).2.1;show w.heap.size≤b;omega,by rw[s2];exact (own_exists HO.out b hb).2⟩)
    ·exact TAt.keep (fun b hb hl=>s3 b (by have:=(HS.out.pg b hb).1;omega)) (fun b hb _=>⟨by have:=(HS.out.pg b hb).1;omega,by rw[s2];exact (HS.out.pg b hb).2.1⟩) _ _ _ _ _ HS.out.tr
   ·obtain⟨on,hon⟩:∃on,x.after[k]? =some on:=⟨_,jF (by rw[HM.out];exact hlt)⟩
    obtain⟨zb,zo,rfl,c0⟩:=HZR.out k on hon
    obtain⟨h0,h1⟩:=HAF.out on (jS hon)
    obtain⟨n,rfl⟩:∃n:Nat,on=(n:Int):=⟨on.toNat,by omega⟩
    obtain⟨y,hy⟩:∃y,its[n]? =some y:=⟨_,jF (by omega)⟩
    obtain⟨b2,off2,_,_,_,he,d0,_⟩:=HIR.out n y hy
    cases he;have HNm:Hid (nmV its (x.after.take (k+1))=nmV its (x.after.take k) ++ [.string ⟨y.name.toArray⟩]):=by
     show _=_;rw[zL,hon]
     simp[nmV,nameI,hy]
    have hnl:(n:Int) < (il:Int):=by rw[HIL.out] at h1;exact h1
    have c1:=Dg.cell_later HS.out.bel c0;have hkk:(k:Int) < (m:Int):=by omega
    have HD0:Hid _:=d0;have HIL2:Hid _:=HIL.out;clear hy hon h1 d0 c0
    go_wp2_with fail
    clear c1;have hbw:=HS.out.bel;obtain⟨ua,uc,rfl⟩:=own_slice HO.out
    refine wp_region_held (S:=fun w'=>Below w.heap.size w w') (by kernel_rfl) ?_;have hS0:Below w.heap.size w w4.drew:=hbw.drew;simp only[jN,jM,jP,Nat.reduceAdd,jI,jJ,jO,jL,jK];refine tG 0 32 (.pointer (some ⟨nb,2,none⟩)) 10 rfl hS0 ?_;refine tK 2 34 ((.slice (some ⟨b1,off1,none⟩) il icap)) 9 rfl hS0 ?_;refine tK 3 35 (.int .i64 (n:Int)) 8 rfl hS0 ?_;refine tG 4 36 (.pointer (some ⟨b1,off1+n * 8,none⟩)) 7 rfl hS0 ?_;refine tG 5 37 (.pointer (some ⟨b1,off1+n * 8,none⟩)) 6 rfl hS0 ?_;refine tV 6 38 (.string ⟨y.name.toArray⟩) 5 rfl hS0 ?_ (fun w9 hw9=>by have z0:=Dg.cell_later hw9 HD0.out;go_simp);have hN5:NdS w x T nb (.slice (some ⟨zb,zo,none⟩) m yac) (w4.drew.alloc (.cells #[.string ⟨y.name.toArray⟩] 9)) (.slice ua k uc) av am ac P:=HS.out.step none ⟨rfl,rfl,rfl,by simp,fun k hk _=>((Below.refl w4.heap.size w4).drew.alloc (jG _) _).block k hk⟩ (fun b hb=>by cases hb);have ho5:World.ownsRow (w4.drew.alloc (.cells #[.string ⟨y.name.toArray⟩] 9)) w.heap.size 9 1 (.slice ua k uc) k (nmV its (x.after.take k)):=own_below HO.out (((Below.refl w4.heap.size w4).drew).alloc (jG _) _);have q4:w4.drew.cell? ⟨nb,2,none⟩=some (.slice ua k uc):=(Dg.cell_row (w:=w4.drew) HS.out.nd 2).trans rfl;have q5:=(Dg.cell_row hN5.nd 2).trans rfl;have hb5:Below w.heap.size w (w4.drew.alloc (.cells #[.string ⟨y.name.toArray⟩] 9)):=hS0.alloc hbw.size _;obtain⟨i0,hi0,hz0,hz1,hz2⟩:=info_parts inf9
    obtain⟨u',W6,hr6,ho6,hg6,_,hat6⟩:=run_append_own_at (P:=Tryz.prog) (w4.drew.alloc (.cells #[.string ⟨y.name.toArray⟩] 9)) w.heap.size 102 102 9 i0 _ 1 _ Tryz.underlying102 hi0 hz0 hz1 hz2 rfl (by decide) (.slice ua k uc) k _ ho5 ⟨w4.heap.size,0,none⟩ 1 1 [.string ⟨y.name.toArray⟩] rfl (cell_one_new w4.drew (.string ⟨y.name.toArray⟩) 9) (by intro u hu;simp at hu;rw[hu];rfl) (by unfold maxLen;omega) (by omega) hb5.size
    obtain⟨ua',uc',rfl⟩:=own_slice ho6
    have hN6:=hN5.step _ hg6 HU.out;have c6:=(Dg.cell_row hN6.nd 2).trans rfl;have f6:=Dg.froz_row hN6.nd 2;have HN7:Hid _:=hN6.put (.slice ua' (k+1) uc');have HU7:Hid (∀b,(Value.slice ua' (k+1) uc').ownBlock=some b→¬P b∧w.heap.size+1 < b∧b≠nb):=by
     show ∀b,_
     intro b hb
     rcases hat6 with h9 | h9
     ·exact HU.out b (h9.symm.trans hb)
     ·rw[h9] at hb
      have hbe:w4.heap.size+1=b:=by have:=Option.some.inj hb;simpa using this
      have hnl4:=(jD.1 HS.out.nd).1;have:=HS.out.ge;exact⟨fun hp=>by have:=(HS.out.pg b hp).2.1;omega,by omega,by omega⟩
    have HO7:Hid (World.ownsRow (W6.setCell ⟨nb,2,none⟩ (.slice ua' (k+1) uc')) w.heap.size 9 1 (.slice ua' (k+1) uc') (k+1) (nmV its (x.after.take (k+1)))):=by
     show World.ownsRow _ _ _ _ _ _ _;rw[HNm.out]
     exact own_agree (G:=fun b=>b≠nb) (fun b hb=>jW _ _ _ _ hb) ho6 (fun b hb=>(HU7.out b hb).2.2)
    refine wpAnyH_all (fuel:=4) (rs:=[1,7]) (by kernel_rfl) (by decide) ?_;refine zW.2 ⟨?_,jE.2 ?_⟩
    ·refine wpOp_value (i:=1) (d:=33) (v:= .slice ua k uc) (w':=w4.drew) rfl rfl (by kernel_rfl) (by go_simp) ?_;refine⟨hS0,?_⟩
     simp only[jA,jB,jC];refine wpAnyH_all (fuel:=3) (rs:=[7]) (by kernel_rfl) (by decide) ?_;refine jE.2 ?_;refine wpOp_value (i:=7) (d:=39) (v:= .slice (some ⟨w4.heap.size,0,none⟩) 1 1) (w':=(w4.drew.alloc (.cells #[.string ⟨y.name.toArray⟩] 9))) rfl rfl (by kernel_rfl) (by go_simp) ?_;refine⟨hb5,?_⟩
     simp only[jA,jB,jC];refine wpAnyH_all (fuel:=2) (rs:=[8]) (by kernel_rfl) (by decide) ?_;refine jE.2 ?_;refine wpOp_value (i:=8) (d:=40) (v:= .slice ua' (k+1) uc') (w':=W6) rfl rfl (by kernel_rfl) (by simp[execOp,resolve,invoke,builtin,hr6,Result.andThen,Act.eval]) ?_;refine⟨hN6.bel,?_⟩
     simp only[jA,jB,jC];refine wpAnyH_all (fuel:=1) (rs:=[9]) (by kernel_rfl) (by decide) ?_;refine jE.2 ?_;refine wpOp_value (i:=9) (d:=41) (v:= .pointer (some ⟨nb,2,none⟩)) (w':=W6) rfl rfl (by kernel_rfl) (by go_simp) ?_;refine⟨hN6.bel,?_⟩
     simp only[jA,jB,jC];refine wpAnyH_all (fuel:=0) (rs:=[10]) (by kernel_rfl) (by decide) ?_;refine jE.2 ?_;refine wpOp_skip (i:=10) (w':=W6.setCell ⟨nb,2,none⟩ (.slice ua' (k+1) uc')) rfl rfl (by kernel_rfl) (by go_simp) ?_;refine⟨HN7.out.bel,by kernel_rfl,?_⟩
     clear hr6 hN6 c6 f6 q4 q5 hN5 ho5 HS HO HU
     go_wp2_with fail
     go_roundw
     case rel=>exact⟨k+1,_,by omega,by go_num,HN7,HO7,HU7⟩
     case measure=>simp[intOf];omega
    ·refine wpOp_value (i:=7) (d:=39) (v:= .slice (some ⟨w4.heap.size,0,none⟩) 1 1) (w':=(w4.drew.alloc (.cells #[.string ⟨y.name.toArray⟩] 9))) rfl rfl (by kernel_rfl) (by go_simp) ?_;refine⟨hb5,?_⟩
     simp only[jA,jB,jC];refine wpAnyH_all (fuel:=3) (rs:=[1]) (by kernel_rfl) (by decide) ?_;refine jE.2 ?_;refine wpOp_value (i:=1) (d:=33) (v:= .slice ua k uc) (w':=(w4.drew.alloc (.cells #[.string ⟨y.name.toArray⟩] 9))) rfl rfl (by kernel_rfl) (by have q5b:(w4.alloc (.cells #[.string ⟨y.name.toArray⟩] 9)).cell? ⟨nb,2,none⟩=some (.slice ua k uc):=q5;go_simp) ?_;refine⟨hb5,?_⟩
     simp only[jA,jB,jC];refine wpAnyH_all (fuel:=2) (rs:=[8]) (by kernel_rfl) (by decide) ?_;refine jE.2 ?_;refine wpOp_value (i:=8) (d:=40) (v:= .slice ua' (k+1) uc') (w':=W6) rfl rfl (by kernel_rfl) (by simp[execOp,resolve,invoke,builtin,hr6,Result.andThen,Act.eval]) ?_;refine⟨hN6.bel,?_⟩
     simp only[jA,jB,jC];refine wpAnyH_all (fuel:=1) (rs:=[9]) (by kernel_rfl) (by decide) ?_;refine jE.2 ?_;refine wpOp_value (i:=9) (d:=41) (v:= .pointer (some ⟨nb,2,none⟩)) (w':=W6) rfl rfl (by kernel_rfl) (by go_simp) ?_;refine⟨hN6.bel,?_⟩
     simp only[jA,jB,jC];refine wpAnyH_all (fuel:=0) (rs:=[10]) (by kernel_rfl) (by decide) ?_;refine jE.2 ?_;refine wpOp_skip (i:=10) (w':=W6.setCell ⟨nb,2,none⟩ (.slice ua' (k+1) uc')) rfl rfl (by kernel_rfl) (by go_simp) ?_;refine⟨HN7.out.bel,by kernel_rfl,?_⟩
     clear hr6 hN6 c6 f6 q4 q5 hN5 ho5 HS HO HU
     go_wp2_with fail
     go_roundw
     case rel=>exact⟨k+1,_,by omega,by go_num,HN7,HO7,HU7⟩
     case measure=>simp[intOf];omega
end Go.Proofs.YtieoppabellafaaGreatDoor
