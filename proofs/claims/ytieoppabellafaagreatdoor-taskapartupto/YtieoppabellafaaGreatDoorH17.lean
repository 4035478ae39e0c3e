/- Texts of the seat, packed: Kj Kq La Lb Lc Ld. -/
import Derived.Test.YtieoppabellafaaGreatDoorH01
import Derived.Test.YtieoppabellafaaGreatDoorH14
import Derived.Test.YtieoppabellafaaGreatDoorH16
import Derived.Test.YtieoppabellafaaGreatDoorH15
import Derived.Lib.AppendZeros
import Derived.WalkKit
import Derived.OwnWalkIn
import Derived.TacticsInMore
set_option maxRecDepth 1000000
set_option maxHeartbeats 64000000
set_option linter.unusedVariables false
namespace Go.Proofs.YtieoppabellafaaGreatDoor.Fc
open Go.RowKit Go.Shelf
theorem info45:(Tryz.prog.info? 47).map (fun i=>(i.zero,i.size,i.bytes))=some (some (.agg #[.int .i64 0,.bool false,.int .i64 0]),3,24):=by kernel_rfl
def keyC (x:Nat × Bool × Int):List Value:=[.int .i64 (x.1:Int),.bool x.2.1,.int .i64 x.2.2]
def rowsK (K:List (Nat × Bool × Int)):List Value:=K.flatMap keyC
theorem rowsK_cons (f:Nat × Bool × Int)(l:List (Nat × Bool × Int)):rowsK (f :: l)=keyC f ++rowsK l:=by simp[rowsK]
theorem rowsK_snoc (l:List (Nat × Bool × Int))(f:Nat × Bool × Int):rowsK (l ++ [f])=rowsK l ++keyC f:=by simp[rowsK]
theorem rowsK_get (l:List (Nat × Bool × Int))(i:Nat)(f:Nat × Bool × Int)(h:l[i]? =some f)(j:Nat)(hj:j < 3):(rowsK l)[i * 3+j]? =(keyC f)[j]? :=by
 induction l generalizing i with
 | nil=>simp at h
 | cons q l ih=>
  have hl:(keyC q).length=3:=rfl;rw[rowsK_cons]
  cases i with
  | zero=>
   simp at h;subst h;rw[Nat.zero_mul,zD,zO (by omega)]
  | succ i=>
   rw[zP (by omega),←ih i (by simpa using h)]
   congr 1
   omega
def OK (B:Nat)(w:World)(v:Value)(l:List (Nat × Bool × Int)):Prop:=w.ownsRow B 47 3 v l.length (rowsK l)
theorem OK.later {B:Nat}{w w':World}{v:Value}{l:List (Nat × Bool × Int)}(h:OK B w v l)(hb:Below w.heap.size w w'):OK B w' v l:=by
 refine⟨h.1,?_⟩
 rcases h.2 with hn | ⟨g,cap,cur,rfl,hB,hg,rest⟩
 ·exact .inl hn
 ·exact .inr ⟨g,cap,cur,rfl,hB,(hb.block g (jD.1 hg).1).trans hg,rest⟩
theorem OK.slice {B:Nat}{w:World}{v:Value}{l:List (Nat × Bool × Int)}(h:OK B w v l):∃a c,v= .slice a l.length c:=by
 rcases h.2 with ⟨e,e2⟩ | ⟨g,cap,cur,e,_⟩
 ·exact⟨none,0,by rw[e,e2]⟩
 ·exact⟨_,_,e⟩
def RK (w:World)(v:Value)(l:List (Nat × Bool × Int)):Prop:=∃a cap,v= .slice a l.length cap∧l.length≤cap∧cap≤maxLen∧∀(i:Nat) (f:Nat × Bool × Int),l[i]? =some f→∃b off,a=some ⟨b,off,none⟩∧
 w.cell? ⟨b,off+i * 3,none⟩=some (.int .i64 (f.1:Int))∧w.cell? ⟨b,off+i * 3+1,none⟩=some (.bool f.2.1)∧w.cell? ⟨b,off+i * 3+2,none⟩=some (.int .i64 f.2.2)
theorem RK.later {w w':World}{v:Value}{l:List (Nat × Bool × Int)}(h:RK w v l)(hb:Below w.heap.size w w'):RK w' v l:=by
 obtain⟨a,cap,hv,hc,hm,hr⟩:=h
 refine⟨a,cap,hv,hc,hm,fun i f hi=>?_⟩
 obtain⟨b,off,ha,c0,c1,c2⟩:=hr i f hi
 exact⟨b,off,ha,Dg.cell_later hb c0,Dg.cell_later hb c1,Dg.cell_later hb c2⟩
theorem OK.rk {B:Nat}{w:World}{v:Value}{l:List (Nat × Bool × Int)}(h:OK B w v l):RK w v l:=by
 have hl:=h;unfold OK at h hl
 rcases h.2 with ⟨rfl,h0⟩ | ⟨g,cap,cur,rfl,_,_,q1,q2,_⟩
 ·have h1:l=[]:=zV h0;subst h1;exact⟨none,0,rfl,by simp,by unfold maxLen;omega,by simp⟩
 ·refine⟨_,cap,rfl,q1,q2,fun i f hf=>⟨g,0,rfl,?_⟩⟩
  have hi:i < l.length:=(jH.1 hf).1;have cell:∀j,j < 3→w.cell? ⟨g,0+i * 3+j,none⟩=(keyC f)[j]? :=fun j hj=>by
   have:=hl.cellAt (i * 3+j) (by omega);rw[←rowsK_get l i f hf j hj,←this,zD]
  exact⟨cell 0 (by omega),cell 1 (by omega),cell 2 (by omega)⟩
theorem opG_snoc:∀(l:List Fa) (s:Nat) (f:Fa),opG s (l ++ [f])=opG s l ++opF (s+l.length) f
 | [],s,f=>by simp[opG]
 | a :: l,s,f=>by
  rw[jK,opG,opG,opG_snoc l (s+1) f,List.append_assoc,jM,show s+1+l.length=s+ (l.length+1) by omega]
theorem opF_few (i:Nat)(f:Fa):(opF i f).length≤2:=by unfold opF;split <;> split <;> simp
theorem opG_few:∀(l:List Fa) (s:Nat),(opG s l).length≤2 * l.length
 | [],s=>by simp[opG]
 | a :: l,s=>by
  have h1:=opF_few s a;have h2:=opG_few l (s+1);rw[opG,j9,jM]
  omega
theorem opF_code {f:Fa}(hf:okF f)(i:Nat):(f=begunF∧¬f=tryingF f.slips∧opF i f=[(i,false,0)])∨(¬f=begunF∧f=tryingF f.slips∧0≤f.slips∧f.slips≤3∧opF i f=[(i,true,f.slips)])∨(¬f=begunF∧¬f=tryingF f.slips∧opF i f=[]):=by
 obtain⟨r,tr,sl,un⟩:=f
 obtain⟨a1,a2,a3,a4,a5,a6,a7⟩:=hf
 simp only[begunF,tryingF,Fa.mk.injEq] at *;unfold opF;simp only
 by_cases h1:r=1
 ·left
  have ht:tr=0:=by omega
  have hs:sl=0:=by omega
  have hu:un=false:=by cases un;rfl;have:=a7 rfl;omega
  subst h1 ht hs hu;simp
 ·by_cases h2:tr > sl∧un=false
  ·right;left
   have ht:tr=sl+1:=by omega
   have hr:r=2:=by omega
   obtain⟨_,hu⟩:=h2
   subst ht hr hu;refine⟨by simp,by simp,a3,a4,?_⟩
   rw[if_neg (by decide),if_pos ⟨by omega,rfl⟩]
   rfl
  ·right;right
   refine⟨fun h=>h1 h.1,fun h=>h2 ⟨by omega,h.2.2.2⟩,?_⟩
   rw[if_neg h1,if_neg h2]
   rfl
structure OpR (w:World)(kv:Value)(K:List (Nat × Bool × Int))(f:Fa)(n:Nat)(W:World):Prop where
 bel:Below w.heap.size w W
 own:OK w.heap.size W kv K
 row:W.heap[n]? =some (.cells f.cells.toArray 55 (0,0))
 ne:kv.ownBlock≠some n
theorem OpR.later {w:World}{kv:Value}{K:List (Nat × Bool × Int)}{f:Fa}{n:Nat}{W W':World}(h:OpR w kv K f n W)(hb:Below W.heap.size W W'):OpR w kv K f n W':=
 ⟨h.bel.trans (hb.mono h.bel.size),h.own.later hb,(hb.block _ (jD.1 h.row).1).trans h.row,h.ne⟩
theorem OpR.push {w:World}{kv:Value}{K:List (Nat × Bool × Int)}{f:Fa}{n:Nat}{W:World}(h:OpR w kv K f n W)(hK:K.length≤1000000000)(x:Nat × Bool × Int) :
  ∃a m c W',(Builtin.append_ #[36,36] 36 #[kv,.slice (some ⟨W.heap.size,0,none⟩) 1 1]).run Tryz.prog (W.alloc (.cells #[.int .i64 (x.1:Int),.bool x.2.1,.int .i64 x.2.2] 47))= .ok (.slice a m c) W'∧OpR w (.slice a m c) (K ++ [x]) f n W':=by
 obtain⟨i0,hi0,hz0,hz1,hz2⟩:=info_parts info45
 have h1:=h.later (bl1 W (.cells #[.int .i64 (x.1:Int),.bool x.2.1,.int .i64 x.2.2] 47));obtain⟨v',W',r1,r2,r3,r4,r5⟩:=run_append_own_at (P:=Tryz.prog) (W.alloc (.cells #[.int .i64 (x.1:Int),.bool x.2.1,.int .i64 x.2.2] 47)) w.heap.size 36 36 47 i0 _ 3 24 Tryz.underlying36 hi0 hz0 hz1 hz2 rfl (by decide) kv K.length (rowsK K) h1.own ⟨W.heap.size,0,none⟩ 1 1 (keyC x) rfl
  (by
   intro j u hj;have hr:=Dg.row_new W #[.int .i64 (x.1:Int),.bool x.2.1,.int .i64 x.2.2] 47;have h7:(⟨W.heap.size,0,none⟩:Addr).add j=⟨W.heap.size,j,none⟩:=by unfold Addr.add;split <;> simp_all
   rw[h7,Dg.cell_row hr j,←hj]
   show (keyC x).toArray[j]? =_;simp)
  (by intro u hu;simp only[keyC,zJ,List.not_mem_nil,or_false] at hu;rcases hu with rfl | rfl | rfl <;> rfl) (by unfold maxLen;omega) (by omega) h1.bel.size
 have hown:OK w.heap.size W' v' (K ++ [x]):=by
  unfold OK;rw[rowsK_snoc,j9]
  exact r2
 obtain⟨a,c,rfl⟩:=hown.slice
 have hlt:=(jD.1 h.row).1;refine⟨a,_,c,W',r1,⟨Below.grown h1.bel r3 h1.bel.size (fun k hk=>(World.ownsRow.lt h1.own k hk).1),hown,?_,?_⟩⟩
 ·rw[r3.block n (by simp;omega) (fun e=>h.ne e.symm)]
  exact h1.row
 ·intro e
  rcases r5 with r5 | r5
  ·rw[e] at r5;exact h.ne r5.symm
  ·rw[e] at r5
   have:=Option.some.inj r5;simp at this;omega
open Classical in
noncomputable def openP (its:List It)(l:List Fa):List (Nat × Bool × Int):=if chkF its l=0 then opG 0 l else []
def OpnC (K:List (Nat × Bool × Int))(w:World)(x:Ending)(w':World):Prop:=Below w.heap.size w w'∧∃u,x= .returned u∧OK w.heap.size w' u K
theorem open_any (its:List It)(v lv:Value)(l:List Fa)(w:World)(hIt:RdIt w v its)(hF:FairI its)(hT:Dg.Tab w)(hl:RF w lv l)(hil:its.length≤1000000)(hll:l.length≤1000000) :
  Calls Tryz.prog 10 #[.agg #[v],lv] w fun x w'=>OpnC (openP its l) w x w':=by
 have hc0:ChS w v (w.alloc (.cells #[v] 28)):=⟨bl1 _ _,Dg.row_new w _ 28⟩;have MC0:=checkF_any its v lv l _ (hIt.later hc0.bel) hF (hT.later hc0.bel) (hl.later hc0.bel) (by omega) (by omega);obtain⟨ia,icap,rfl,_,_⟩:=hIt
 obtain⟨la,lcap,rfl,hlc,_,hlr⟩:=hl
 have HLR:Hid _:=hlr;have HC0:Hid (ChS w (.slice ia its.length icap) _):=hc0;obtain⟨c,HC⟩:∃c,Hid (chkF its l=c):=⟨_,rfl⟩
 obtain⟨m,HM⟩:∃m,Hid (l.length=m):=⟨_,rfl⟩
 rw[HC.out,HM.out] at MC0
 have MC:Hid (Calls Tryz.prog 29 #[.agg #[.slice ia its.length icap],.slice la m lcap] _ fun e w'=>e= .returned (.int .i64 c)∧Below _ _ w'):=MC0;rw[HM.out] at hll hlc ⊢
 clear hc0 MC0 hlr
 go_enter Tryz.func10,Tryz.ntmps10
 go_wp2_with fail
 generalize w.alloc (.cells #[.slice ia its.length icap] 28)=w0 at *;refine Calls.mono MC.out ?_;rintro x w1 ⟨rfl,hb1⟩;have HC1:Hid _:=HC0.out.later hb1;clear MC HC0 hb1
 by_cases hc:c=0
 rotate_left
 ·have HP:Hid (openP its l=[]):=by
   show _=_;unfold openP;rw[if_neg (by rw[HC.out];exact hc)]
  have hc2:(c !=0)=true:=by simpa using hc
  clear hc HC
  go_wp2_with fail
  go_ret
  rw[HP.out]
  exact⟨HC1.out.bel,_,rfl,zT _ _ _ _⟩
 subst hc;have HOK:Hid _:=(chkF_iff.1 HC.out).2;have HP:Hid (openP its l=opG 0 l):=by
  show _=_;unfold openP;rw[if_pos HC.out]
 clear HC;have HB1:Hid (Below w.heap.size w w1):=HC1.out.bel;clear HC1
 go_wp2_with fail
 go_loopw [14,5] (fun iv kv wr=>∃(k:Nat) (ka:Option Addr) (km kc:Nat),k≤m∧iv= .int .i64 k∧kv= .slice ka km kc∧Hid (Below w.heap.size w wr)∧Hid (OK w.heap.size wr (.slice ka km kc) (opG 0 (l.take k)))) (fun iv _ _=>m - (intOf iv).toNat)
 case atStart=>exact⟨0,none,0,0,zE _,rfl,rfl,HB1,zT _ _ _ _⟩
 case round=>
  obtain⟨k,ka,km,kc,hk,rfl,rfl,HB,HO⟩:=hrel
  rename World=>wr
  by_cases hlt:k < m
  rotate_left
  ·have HT:Hid (l.take k=l):=zR (by rw[HM.out];omega);clear HB1
   go_wp2_with fail
   go_ret
   refine⟨HB.out,_,rfl,?_⟩
   rw[HP.out]
   have h:=HO.out;rw[HT.out] at h
   exact h
  obtain⟨f,hf⟩:∃f,l[k]? =some f:=⟨_,jF (by rw[HM.out];exact hlt)⟩
  have HTK:Hid (opG 0 (l.take (k+1))=opG 0 (l.take k) ++opF k f):=by
   show _=_;rw[zL,hf]
   show opG 0 (l.take k ++ [f])=_;rw[opG_snoc,List.length_take,HM.out,zD,Nat.min_eq_left (by omega)]
  have hokf:okF f:=by
   have:=(HOK.out.2 k (by rw[HM.out];exact hlt)).1;rw[jU,hf] at this
   exact this
  have HCD:Hid _:=opF_code hokf k;have HSL:Hid (0≤f.slips∧f.slips≤3):=⟨hokf.2.2.1,hokf.2.2.2.1⟩;have HKL:Hid ((opG 0 (l.take k)).length≤1000000000):=by
   have h1:=opG_few (l.take k) 0;rw[List.length_take,HM.out] at h1
   show _≤_;omega
  obtain⟨fb,fo,rfl,f0,f1,f2,f3⟩:=HLR.out k f hf
  have g0:=Dg.cell_later HB.out f0;have g1:=Dg.cell_later HB.out f1;have g2:=Dg.cell_later HB.out f2;have g3:=Dg.cell_later HB.out f3;have hii:(k:Int) < (m:Int):=by omega
  clear f0 f1 f2 f3 hf hokf
  go_wp2_with fail
  have hne:(Value.slice ka km kc).ownBlock≠some wr.heap.size:=fun e=>by have:=(World.ownsRow.lt HO.out _ e).2;omega
  have hS:OpR w (.slice ka km kc) (opG 0 (l.take k)) f wr.heap.size (wr.alloc (.cells f.cells.toArray 55)):=⟨HB.out.trans ((bl1 _ _).mono HB.out.size),HO.out.later (bl1 _ _),Dg.row_new wr f.cells.toArray 55,hne⟩;have hS0:OpR w (.slice ka km kc) (opG 0 (l.take k)) f wr.heap.size (wr.alloc (.cells f.cells.toArray 55)).drew:=hS.later (Below.refl _ _).drew;change Code.wp _ _ _ _ (wr.alloc (.cells f.cells.toArray 55));generalize wr.alloc (.cells f.cells.toArray 55)=wa at *;generalize wr.heap.size=n9 at *;have HF:Hid (FaV f= .agg #[.int .i64 f.run,.int .i64 f.tries,.int .i64 f.slips,.bool f.un]):=rfl;clear g0 g1 g2 g3 HB HO hne hS;generalize opG 0 (l.take k)=K at *
  rcases HCD.out with ⟨b1,b2,b3⟩ | ⟨b1,b2,bl,bu,b3⟩ | ⟨b1,b2,b3⟩
  ·have HQ1:Hid (decide (f=begunF)=true):=decide_eq_true b1;have HQ2:Hid (decide (f=tryingF f.slips)=false):=decide_eq_false b2;have HB3:Hid _:=b3;clear b1 b2 b3 HCD;refine region_thenF [(19,FaV f),(20,FaV begunF),(21,.bool true)] (fun w'=>OpR w (.slice ka km kc) K f n9 w') ?_ ?_
   ·refine wp_region_held (S:=fun w'=>OpR w (.slice ka km kc) K f n9 w') (by kernel_rfl) ?_;simp only[jN,jM,jP,Nat.reduceAdd,jI,jJ,jO,jL,jK];refine tV 0 19 (FaV f) 2 rfl hS0 ?_ (fun wx h=>by rw[HF.out];obtain⟨y0,y1,y2,y3⟩:=row_cells h.row;go_simp);refine oneC (i:=1) (d:=20) (f:=30) (args:= #[]) (v:=FaV begunF) (fuel:=1) rfl rfl (by kernel_rfl) (by kernel_rfl) (fun _=>by kernel_rfl) hS0 (fun wx h=>Calls.mono (begun_any wx) (by rintro e w2 ⟨rfl,hb⟩;exact⟨rfl,h.later hb⟩)) (fun wz hS101=>?_);simp only[jA,jB,jC];refine tV 2 21 (.bool true) 0 rfl hS101 ?_ (fun wx h=>eq_exec f begunF (x:= .tmp 19) (y:= .tmp 20) rfl rfl rfl HQ1.out);refine wpAnyH_done (by kernel_rfl) ?_ _;exact⟨rfl,by kernel_rfl,hS101⟩
   ·intro w9 hF;simp only[setAll,jA,jB,jC];have HF7:Hid _:=hF;obtain⟨ka',km',kc',wp,hrun,hp⟩:=hF.push HKL.out (k,false,0)
    have hS0:OpR w (.slice ka' km' kc') (K ++ [(k,false,0)]) f n9 wp.drew:=hp.later (Below.refl _ _).drew;have HRU:Hid _:=hrun;clear hF hrun hp HF7
    go_wp2_with (at_builtin;refine Lib.wpList_append_run _ rfl _ _ _ _ rfl _ _ rfl rfl _ _ HRU.out ?_)
    refine region_thenF [(27,FaV f),(28,.pointer (some ⟨n9,2,none⟩)),(29,.int .i64 f.slips),(30,FaV (tryingF f.slips)),(31,.bool false)] (fun w'=>OpR w (.slice ka' km' kc') (K ++ [(k,false,0)]) f n9 w') ?_ ?_
    ·refine wp_region_held (S:=fun w'=>OpR w (.slice ka' km' kc') (K ++ [(k,false,0)]) f n9 w') (by kernel_rfl) ?_;simp only[jN,jM,jP,Nat.reduceAdd,jI,jJ,jO,jL,jK];refine tV 0 27 (FaV f) 4 rfl hS0 ?_ (fun wx h=>by rw[HF.out];obtain⟨y0,y1,y2,y3⟩:=row_cells h.row;go_simp);refine tG 1 28 (.pointer (some ⟨n9,2,none⟩)) 3 rfl hS0 ?_;refine tV 2 29 (.int .i64 f.slips) 2 rfl hS0 ?_ (fun wx h=>by obtain⟨y0,y1,y2,y3⟩:=row_cells h.row;go_simp);refine oneC (i:=3) (d:=30) (f:=31) (args:= #[.int .i64 f.slips]) (v:=FaV (tryingF f.slips)) (fuel:=1) rfl rfl (by kernel_rfl) (by kernel_rfl) (fun _=>by kernel_rfl) hS0 (fun wx h=>Calls.mono (trying_any f.slips wx (HSL.out.1) (HSL.out.2)) (by rintro e w2 ⟨rfl,hb⟩;exact⟨rfl,h.later hb⟩)) (fun wz hS103=>?_);simp only[jA,jB,jC];refine tV 4 31 (.bool false) 0 rfl hS103 ?_ (fun wx h=>eq_exec f (tryingF f.slips) (x:= .tmp 27) (y:= .tmp 30) rfl rfl rfl HQ2.out);refine wpAnyH_done (by kernel_rfl) ?_ _;exact⟨rfl,by kernel_rfl,hS103⟩
    ·intro w9 hF;simp only[setAll,jA,jB,jC];have HF9:Hid _:=hF;clear hF
     go_wp2_with fail
     go_roundw
     case rel=>exact⟨k+1,ka',km',kc',by omega,by go_num,rfl,HF9.out.bel,by rw[HTK.out,HB3.out];exact HF9.out.own⟩
     case measure=>simp[intOf];omega
  ·have HQ1:Hid (decide (f=begunF)=false):=decide_eq_false b1;have HQ2:Hid (decide (f=tryingF f.slips)=true):=decide_eq_true b2;have HB3:Hid _:=b3;clear b1 b2 b3 HCD;refine region_thenF [(19,FaV f),(20,FaV begunF),(21,.bool false)] (fun w'=>OpR w (.slice ka km kc) K f n9 w') ?_ ?_
   ·refine wp_region_held (S:=fun w'=>OpR w (.slice ka km kc) K f n9 w') (by kernel_rfl) ?_;simp only[jN,jM,jP,Nat.reduceAdd,jI,jJ,jO,jL,jK];refine tV 0 19 (FaV f) 2 rfl hS0 ?_ (fun wx h=>by rw[HF.out];obtain⟨y0,y1,y2,y3⟩:=row_cells h.row;go_simp);refine oneC (i:=1) (d:=20) (f:=30) (args:= #[]) (v:=FaV begunF) (fuel:=1) rfl rfl (by kernel_rfl) (by kernel_rfl) (fun _=>by kernel_rfl) hS0 (fun wx h=>Calls.mono (begun_any wx) (by rintro e w2 ⟨rfl,hb⟩;exact⟨rfl,h.later hb⟩)) (fun wz hS101=>?_);simp only[jA,jB,jC];refine tV 2 21 (.bool false) 0 rfl hS101 ?_ (fun wx h=>eq_exec f begunF (x:= .tmp 19) (y:= .tmp 20) rfl rfl rfl HQ1.out);refine wpAnyH_done (by kernel_rfl) ?_ _;exact⟨rfl,by kernel_rfl,hS101⟩
   ·intro w9 hF;simp only[setAll,jA,jB,jC];have hS0:=hF;have HF7:Hid _:=hF;clear hF
    go_wp2_with fail
    have hS0:OpR w (.slice ka km kc) K f n9 w9.drew:=HF7.out.later (Below.refl _ _).drew;refine region_thenF [(27,FaV f),(28,.pointer (some ⟨n9,2,none⟩)),(29,.int .i64 f.slips),(30,FaV (tryingF f.slips)),(31,.bool true)] (fun w'=>OpR w (.slice ka km kc) (K) f n9 w') ?_ ?_
    ·refine wp_region_held (S:=fun w'=>OpR w (.slice ka km kc) (K) f n9 w') (by kernel_rfl) ?_;simp only[jN,jM,jP,Nat.reduceAdd,jI,jJ,jO,jL,jK];refine tV 0 27 (FaV f) 4 rfl hS0 ?_ (fun wx h=>by rw[HF.out];obtain⟨y0,y1,y2,y3⟩:=row_cells h.row;go_simp);refine tG 1 28 (.pointer (some ⟨n9,2,none⟩)) 3 rfl hS0 ?_;refine tV 2 29 (.int .i64 f.slips) 2 rfl hS0 ?_ (fun wx h=>by obtain⟨y0,y1,y2,y3⟩:=row_cells h.row;go_simp);refine oneC (i:=3) (d:=30) (f:=31) (args:= #[.int .i64 f.slips]) (v:=FaV (tryingF f.slips)) (fuel:=1) rfl rfl (by kernel_rfl) (by kernel_rfl) (fun _=>by kernel_rfl) hS0 (fun wx h=>Calls.mono (trying_any f.slips wx bl bu) (by rintro e w2 ⟨rfl,hb⟩;exact⟨rfl,h.later hb⟩)) (fun wz hS103=>?_);simp only[jA,jB,jC];refine tV 4 31 (.bool true) 0 rfl hS103 ?_ (fun wx h=>eq_exec f (tryingF f.slips) (x:= .tmp 27) (y:= .tmp 30) rfl rfl rfl HQ2.out);refine wpAnyH_done (by kernel_rfl) ?_ _;exact⟨rfl,by kernel_rfl,hS103⟩
    ·intro w9 hF;simp only[setAll,jA,jB,jC];obtain⟨y0,y1,y2,y3⟩:=row_cells hF.row
     obtain⟨ka',km',kc',wp,hrun,hp⟩:=hF.push HKL.out (k,true,f.slips)
     have HRU:Hid _:=hrun;have HF9:Hid _:=hp;clear hF hrun hp HF7
     go_wp2_with (at_builtin;refine Lib.wpList_append_run _ rfl _ _ _ _ rfl _ _ rfl rfl _ _ HRU.out ?_)
     go_roundw
     case rel=>exact⟨k+1,ka',km',kc',by omega,by go_num,rfl,HF9.out.bel,by rw[HTK.out,HB3.out];exact HF9.out.own⟩
     case measure=>simp[intOf];omega
  ·have HQ1:Hid (decide (f=begunF)=false):=decide_eq_false b1;have HQ2:Hid (decide (f=tryingF f.slips)=false):=decide_eq_false b2;have HB3:Hid _:=b3;clear b1 b2 b3 HCD;refine region_thenF [(19,FaV f),(20,FaV begunF),(21,.bool false)] (fun w'=>OpR w (.slice ka km kc) K f n9 w') ?_ ?_
   ·refine wp_region_held (S:=fun w'=>OpR w (.slice ka km kc) K f n9 w') (by kernel_rfl) ?_;simp only[jN,jM,jP,Nat.reduceAdd,jI,jJ,jO,jL,jK];refine tV 0 19 (FaV f) 2 rfl hS0 ?_ (fun wx h=>by rw[HF.out];obtain⟨y0,y1,y2,y3⟩:=row_cells h.row;go_simp);refine oneC (i:=1) (d:=20) (f:=30) (args:= #[]) (v:=FaV begunF) (fuel:=1) rfl rfl (by kernel_rfl) (by kernel_rfl) (fun _=>by kernel_rfl) hS0 (fun wx h=>Calls.mono (begun_any wx) (by rintro e w2 ⟨rfl,hb⟩;exact⟨rfl,h.later hb⟩)) (fun wz hS101=>?_);simp only[jA,jB,jC];refine tV 2 21 (.bool false) 0 rfl hS101 ?_ (fun wx h=>eq_exec f begunF (x:= .tmp 19) (y:= .tmp 20) rfl rfl rfl HQ1.out);refine wpAnyH_done (by kernel_rfl) ?_ _;exact⟨rfl,by kernel_rfl,hS101⟩
   ·intro w9 hF;simp only[setAll,jA,jB,jC];have HF7:Hid _:=hF;clear hF
    go_wp2_with fail
    have hS0:OpR w (.slice ka km kc) K f n9 w9.drew:=HF7.out.later (Below.refl _ _).drew;refine region_thenF [(27,FaV f),(28,.pointer (some ⟨n9,2,none⟩)),(29,.int .i64 f.slips),(30,FaV (tryingF f.slips)),(31,.bool false)] (fun w'=>OpR w (.slice ka km kc) (K) f n9 w') ?_ ?_
    ·refine wp_region_held (S:=fun w'=>OpR w (.slice ka km kc) (K) f n9 w') (by kernel_rfl) ?_;simp only[jN,jM,jP,Nat.reduceAdd,jI,jJ,jO,jL,jK];refine tV 0 27 (FaV f) 4 rfl hS0 ?_ (fun wx h=>by rw[HF.out];obtain⟨y0,y1,y2,y3⟩:=row_cells h.row;go_simp);refine tG 1 28 (.pointer (some ⟨n9,2,none⟩)) 3 rfl hS0 ?_;refine tV 2 29 (.int .i64 f.slips) 2 rfl hS0 ?_ (fun wx h=>by obtain⟨y0,y1,y2,y3⟩:=row_cells h.row;go_simp);refine oneC (i:=3) (d:=30) (f:=31) (args:= #[.int .i64 f.slips]) (v:=FaV (tryingF f.slips)) (fuel:=1) rfl rfl (by kernel_rfl) (by kernel_rfl) (fun _=>by kernel_rfl) hS0 (fun wx h=>Calls.mono (trying_any f.slips wx (HSL.out.1) (HSL.out.2)) (by rintro e w2 ⟨rfl,hb⟩;exact⟨rfl,h.later hb⟩)) (fun wz hS103=>?_);simp only[jA,jB,jC];refine tV 4 31 (.bool false) 0 rfl hS103 ?_ (fun wx h=>eq_exec f (tryingF f.slips) (x:= .tmp 27) (y:= .tmp 30) rfl rfl rfl HQ2.out);refine wpAnyH_done (by kernel_rfl) ?_ _;exact⟨rfl,by kernel_rfl,hS103⟩
    ·intro w9 hF;simp only[setAll,jA,jB,jC];have HF9:Hid _:=hF;clear hF
     go_wp2_with fail
     go_roundw
     case rel=>exact⟨k+1,ka,km,kc,by omega,by go_num,rfl,HF9.out.bel,by rw[HTK.out,HB3.out,List.append_nil];exact HF9.out.own⟩
     case measure=>simp[intOf];omega
end Go.Proofs.YtieoppabellafaaGreatDoor.Fc
namespace Go.Proofs.YtieoppabellafaaGreatDoor.St
open Fc
structure Pl where
 n:Nat
 sub:Nat→Bool
 vital:Nat→Bool
 alts:Nat→Nat
 inn:Nat→Nat
 alt:Nat→Nat
structure Pl.Ok (p:Pl):Prop where
 pos:1≤p.n
 root:p.sub 0=true
 inn:∀i,1≤i→i < p.n→p.inn i < i∧p.sub (p.inn i)=true∧p.alt i < p.alts (p.inn i)
 alts:∀i,i < p.n→p.sub i=true→1≤p.alts i
structure IW where
 clean:Bool
 spent:Bool
 done:Bool
 touched:Bool
 at_:Nat
def IW.z:IW:=⟨false,false,false,false,0⟩
def kid (p:Pl)(s a i:Nat):Bool:=decide (s < i∧i < p.n∧p.inn i=s∧p.alt i=a)
def falls (p:Pl)(f:Nat→Fa)(K:Nat→IW)(s a:Nat):Bool:=(List.range p.n).any fun i=>kid p s a i && (decide ((f i).run=3) || (p.sub i && p.vital i && (K i).spent))
def clears (p:Pl)(K:Nat→IW)(s a:Nat):Bool:=(List.range p.n).all fun i=> !kid p s a i || (K i).clean
def whole (p:Pl)(K:Nat→IW)(s a:Nat):Bool:=(List.range p.n).all fun i=> !kid p s a i || ((K i).done || (p.sub i && !p.vital i && (K i).spent))
def first (q:Nat→Bool)(n:Nat):Nat→Nat→Nat
 | 0,a=>a
 | d+1,a=>if a+1 < n∧q a=true then first q n d (a+1) else a
def sagaW (p:Pl)(f:Nat→Fa)(K:Nat→IW)(s:Nat):IW:=
 let at_:=first (fun a=>falls p f K s a && clears p K s a) (p.alts s) (p.alts s) 0
 let spent:=(List.range (p.alts s)).all fun a=>falls p f K s a && clears p K s a
 {clean:=(List.range (p.alts s)).all fun a=>clears p K s a,spent:=spent,done:= !spent && whole p K s at_,
  touched:=(List.range p.n).any fun i=>decide (s < i∧p.inn i=s) && (K i).touched,at_:=at_}
def stepW (f:Fa):IW:=⟨decide (f.run=0) || decide (f.run=3) || f.un,false,decide (f.run=2) && decide (f.tries=0),decide (0 < f.run),0⟩
def wk (p:Pl)(f:Nat→Fa):Nat→Nat→IW
 | 0,_=>IW.z
 | d+1,i=>if p.sub i then sagaW p f (wk p f d) i else stepW (f i)
theorem falls_congr {p:Pl}{f:Nat→Fa}{K K':Nat→IW}{s a:Nat}(h:∀i,s < i→i < p.n→K i=K' i):falls p f K s a=falls p f K' s a:=by
 unfold falls
 congr 1
 funext i
 by_cases hk:kid p s a i=true
 ·have:=of_decide_eq_true hk;rw[h i this.1 this.2.1]
 ·rw[show kid p s a i=false by simpa using hk]
  rfl
theorem clears_congr {p:Pl}{K K':Nat→IW}{s a:Nat}(h:∀i,s < i→i < p.n→K i=K' i):clears p K s a=clears p K' s a:=by
 unfold clears
 congr 1
 funext i
 by_cases hk:kid p s a i=true
 ·have:=of_decide_eq_true hk;rw[h i this.1 this.2.1]
 ·rw[show kid p s a i=false by simpa using hk]
  rfl
theorem whole_congr {p:Pl}{K K':Nat→IW}{s a:Nat}(h:∀i,s < i→i < p.n→K i=K' i):whole p K s a=whole p K' s a:=by
 unfold whole
 congr 1
 funext i
 by_cases hk:kid p s a i=true
 ·have:=of_decide_eq_true hk;rw[h i this.1 this.2.1]
 ·rw[show kid p s a i=false by simpa using hk]
  rfl
theorem any_congr {α:Type}{l:List α}{P Q:α→Bool}(h:∀x∈l,P x=Q x):l.any P=l.any Q:=by
 induction l with
 | nil=>rfl
 | cons x l ih=>rw[List.any_cons,List.any_cons,h x (by simp),ih fun y hy=>h y (by simp[hy])]
theorem sagaW_congr {p:Pl}{f:Nat→Fa}{K K':Nat→IW}{s:Nat}(h:∀i,s < i→i < p.n→K i=K' i):sagaW p f K s=sagaW p f K' s:=by
 unfold sagaW;have h1:∀a,falls p f K s a=falls p f K' s a:=fun a=>falls_congr h
 have h2:∀a,clears p K s a=clears p K' s a:=fun a=>clears_congr h
 have h3:((List.range p.n).any fun i=>decide (s < i∧p.inn i=s) && (K i).touched)=((List.range p.n).any fun i=>decide (s < i∧p.inn i=s) && (K' i).touched):=by
  refine any_congr fun i hi=>?_
  rw[zB] at hi
  by_cases hk:s < i∧p.inn i=s
  ·rw[h i hk.1 hi]
  ·rw[decide_eq_false hk]
   rfl
 simp only[h1,h2,h3,whole_congr h]
theorem wk_same (p:Pl)(f:Nat→Fa):∀(d d' i:Nat),i < p.n→p.n - i≤d→p.n - i≤d'→wk p f d i=wk p f d' i
 | 0,d',i,hi,h1,_=>by omega
 | d+1,0,i,hi,_,h2=>by omega
 | d+1,d'+1,i,hi,h1,h2=>by
  unfold wk
  split
  ·exact sagaW_congr fun k h3 h4=>wk_same p f d d' k h4 (by omega) (by omega)
  ·rfl
def W (p:Pl)(f:Nat→Fa)(i:Nat):IW:=wk p f p.n i
theorem W_eq {p:Pl}{f:Nat→Fa}{i:Nat}(hi:i < p.n):W p f i=if p.sub i then sagaW p f (W p f) i else stepW (f i):=by
 unfold W;rw[wk_same p f p.n (p.n+1) i hi (by omega) (by omega)]
 rw[wk]
def F (p:Pl)(f:Nat→Fa)(s a:Nat):Bool:=falls p f (W p f) s a
def haltK (p:Pl)(f:Nat→Fa):Nat→Nat→Bool
 | 0,_=>false
 | d+1,i=>if i=0 then false else F p f (p.inn i) (p.alt i) || haltK p f d (p.inn i)
theorem haltK_same {p:Pl}(hp:p.Ok)(f:Nat→Fa):∀(d d' i:Nat),i < p.n→i≤d→i≤d'→haltK p f (d+1) i=haltK p f (d'+1) i
 | 0,d',i,hi,h1,_=>by
  obtain rfl:i=0:=by omega
  rfl
 | d+1,0,i,hi,_,h2=>by
  obtain rfl:i=0:=by omega
  rfl
 | d+1,d'+1,i,hi,h1,h2=>by
  rw[haltK]
  conv=>rhs;rw[haltK]
  by_cases h0:i=0
  ·rw[if_pos h0,if_pos h0]
  ·have:=(hp.inn i (by omega) hi).1;rw[if_neg h0,if_neg h0,haltK_same hp f d d' (p.inn i) (by omega) (by omega) (by omega)]
def halted (p:Pl)(f:Nat→Fa)(i:Nat):Bool:=haltK p f (i+1) i
theorem halted_root (p:Pl)(f:Nat→Fa):halted p f 0=false:=by unfold halted;rw[haltK,if_pos rfl]
theorem halted_eq {p:Pl}(hp:p.Ok)(f:Nat→Fa){i:Nat}(h1:1≤i)(hi:i < p.n):halted p f i=(F p f (p.inn i) (p.alt i) || halted p f (p.inn i)):=by
 have:=(hp.inn i h1 hi).1;unfold halted;rw[haltK,if_neg (by omega)]
 obtain⟨j,rfl⟩:∃j,i=j+1:=⟨i - 1,by omega⟩
 rw[haltK_same hp f j (p.inn (j+1)) _ (by omega) (by omega) (jG _)]
def stepS (f:Fa):Int:=if f.run=0 then 0 else if f.run=1 then 1 else if f.run=3 then 3 else if f.tries=0 then 2 else if f.un then 5 else 4
def sagaS (x:IW)(h:Bool):Int:=if x.touched=false then 0 else if x.done then 2 else if x.spent then 3 else if h=false then 1 else if x.clean then 5 else 4
def S (p:Pl)(f:Nat→Fa)(i:Nat):Int:=if p.sub i then sagaS (W p f i) (halted p f i) else stepS (f i)
theorem spent_clears {p:Pl}{f:Nat→Fa}{s a:Nat}(hs:s < p.n)(hsub:p.sub s=true)(h:(W p f s).spent=true)(ha:a < p.alts s):F p f s a=true∧clears p (W p f) s a=true:=by
 rw[W_eq hs,if_pos hsub] at h
 have:=zF.1 h a (zB.2 ha);rw[jT] at this
 exact this
theorem spent_clean {p:Pl}{f:Nat→Fa}{s:Nat}(hs:s < p.n)(hsub:p.sub s=true)(h:(W p f s).spent=true):(W p f s).clean=true:=by
 rw[W_eq hs,if_pos hsub]
 refine zF.2 fun a ha=>?_
 exact (spent_clears hs hsub h (zB.1 ha)).2
theorem idle_clean {p:Pl}(hp:p.Ok){f:Nat→Fa}(hf:∀i,i < p.n→okF (f i)):∀(d i:Nat),p.n - i≤d→i < p.n→(W p f i).touched=false→(W p f i).clean=true
 | 0,i,h1,h2,_=>by omega
 | d+1,i,h1,h2,h=>by
  have h':=h;rw[W_eq h2] at h' ⊢
  by_cases hs:p.sub i=true
  ·rw[if_pos hs] at h' ⊢
   refine zF.2 fun a _=>zF.2 fun k hk=>?_
   rw[zB] at hk
   by_cases hkid:kid p i a k=true
   ·have hd:=of_decide_eq_true hkid;have ht:(W p f k).touched=false:=by
     have:=List.any_eq_false.1 h' k (zB.2 hk);rw[decide_eq_true ⟨hd.1,hd.2.2.1⟩] at this
     simpa using this
    rw[idle_clean hp hf d k (by omega) hk ht]
    simp
   ·rw[show kid p i a k=false by simpa using hkid]
    rfl
  ·rw[if_neg hs] at h' ⊢
   have:¬0 < (f i).run:=by simpa [stepW] using h'
   have h0:=(hf i h2).1;have:(f i).run=0:=by omega
   simp[stepW,this]
theorem state_idle {p:Pl}(hp:p.Ok){f:Nat→Fa}(hf:∀i,i < p.n→f i=Fa.z):∀(d i:Nat),p.n - i≤d→i < p.n→
  (W p f i).touched=false∧(W p f i).clean=true∧(p.sub i=true→(W p f i).spent=false∧(W p f i).at_=0∧∀a,F p f i a=false)
 | 0,i,h1,h2=>by omega
 | d+1,i,h1,h2=>by
  have kids:∀k,i < k→k < p.n→(W p f k).touched=false∧(p.sub k=true→(W p f k).spent=false):=fun k h3 h4=>by
   obtain⟨q1,_,q3⟩:=state_idle hp hf d k (by omega) h4
   exact⟨q1,fun hs=>(q3 hs).1⟩
  have hF:∀a,F p f i a=false:=fun a=>by
   unfold F falls;refine List.any_eq_false.2 fun k hk=>?_
   rw[zB] at hk
   by_cases hkid:kid p i a k=true
   ·have hd:=of_decide_eq_true hkid;rw[hf k hk]
    cases hs:p.sub k with
    | false=>simp[Fa.z]
    | true=>simp[Fa.z,(kids k hd.1 hk).2 hs]
   ·simp[show kid p i a k=false by simpa using hkid]
  have ht:(W p f i).touched=false:=by
   rw[W_eq h2]
   by_cases hs:p.sub i=true
   ·rw[if_pos hs]
    refine List.any_eq_false.2 fun k hk=>?_
    rw[zB] at hk
    by_cases h9:i < k∧p.inn k=i
    ·rw[(kids k h9.1 hk).1];simp
    ·rw[decide_eq_false h9];simp
   ·rw[if_neg hs,hf i h2]
    decide
  refine⟨ht,idle_clean hp (fun j hj=>by rw[hf j hj];exact okF_z) _ i (jG _) h2 ht,fun hs=>⟨?_,?_,hF⟩⟩
  ·rw[W_eq h2,if_pos hs]
   have ha:=hp.alts i h2 hs;refine List.all_eq_false.2 ⟨0,zB.2 (by omega),?_⟩;have:=hF 0;unfold F at this;rw[this]
   simp
  ·rw[W_eq h2,if_pos hs]
   have ha:=hp.alts i h2 hs;show first _ _ _ 0=0
   obtain⟨m,hm⟩:∃m,p.alts i=m+1:=⟨p.alts i - 1,by omega⟩
   rw[hm]
   unfold first
   have:=hF 0;unfold F at this;rw[if_neg]
   rintro⟨_,h9⟩
   rw[this] at h9
   cases h9
end Go.Proofs.YtieoppabellafaaGreatDoor.St
namespace Go.Proofs.YtieoppabellafaaGreatDoor.Sa
open Go.RowKit Go.Shelf Fc St
def stL (v lv:Value)(m:Nat→Nat→Bool):List Value:=v :: lv :: (List.range 256).map fun j=> .bool (m (j / 64) (j % 64))
theorem stL_at {v lv:Value}{m:Nat→Nat→Bool}{k i:Nat}(hk:k < 4)(hi:i < 64):(stL v lv m)[2+64 * k+i]? =some (.bool (m k i)):=by
 have h1:2+64 * k+i=(64 * k+i)+1+1:=by omega
 have h2:(64 * k+i) / 64=k:=by omega
 have h3:(64 * k+i) % 64=i:=by omega
 unfold stL;rw[h1,jZ,jZ,zC,List.getElem?_range (by omega)]
 simp only[Option.map_some,h2,h3]
def put2 (m:Nat→Nat→Bool)(k i:Nat)(q:Bool):Nat→Nat→Bool:=fun k' i'=>if k'=k∧i'=i then q else m k' i'
theorem stL_set {v lv:Value}{m:Nat→Nat→Bool}{k i:Nat}(q:Bool)(hk:k < 4)(hi:i < 64):(stL v lv m).set (2+64 * k+i) (.bool q)=stL v lv (put2 m k i q):=by
 have h1:2+64 * k+i=(64 * k+i)+1+1:=by omega
 unfold stL;rw[h1,jB,jB]
 congr 2
 refine List.ext_getElem? fun j=>?_
 rw[List.getElem?_set]
 by_cases hj:j < 256
 ·rw[zC,zC,List.getElem?_range hj]
  simp only[Option.map_some,put2]
  by_cases h:64 * k+i=j
  ·have h2:j / 64=k:=by omega
   have h3:j % 64=i:=by omega
   rw[if_pos h,if_pos (by simp;omega),h2,h3,if_pos ⟨rfl,rfl⟩]
  ·rw[if_neg h,if_neg (by omega)]
 ·have hn:(List.range 256)[j]? =none:=zM (by simp;omega);rw[zC,zC,hn,if_neg (by omega)]
  rfl
structure Bs (p:Pl)(f:Nat→Fa)(xb xo icap fb fo lcap:Nat)(w0:World):Prop where
 ok:p.Ok
 le:p.n≤64
 icap:p.n≤icap
 lcap:p.n≤lcap
 alts:∀i,i < p.n→p.alts i≤4
 step:∀i,i < p.n→p.sub i=false→p.alts i=0∧p.vital i=false
 fok:∀i,i < p.n→okF (f i)
 it:∀i,i < p.n→∃(s1 s2:ByteArray) (zi za:Int) (av:Option Addr) (am ac:Nat),w0.cell? ⟨xb,xo+i * 8,none⟩=some (.string s1)∧w0.cell? ⟨xb,xo+i * 8+1,none⟩=some (.string s2)∧w0.cell? ⟨xb,xo+i * 8+2,none⟩=some (.bool (p.sub i))∧w0.cell? ⟨xb,xo+i * 8+3,none⟩=some (.bool (p.vital i))∧
  w0.cell? ⟨xb,xo+i * 8+4,none⟩=some (.int .i64 (p.alts i:Nat))∧w0.cell? ⟨xb,xo+i * 8+5,none⟩=some (.int .i64 zi)∧w0.cell? ⟨xb,xo+i * 8+6,none⟩=some (.int .i64 za)∧w0.cell? ⟨xb,xo+i * 8+7,none⟩=some (.slice av am ac)∧(1≤i→zi=(p.inn i:Nat)∧za=(p.alt i:Nat))
 fa:∀i,i < p.n→w0.cell? ⟨fb,fo+i * 4,none⟩=some (.int .i64 (f i).run)∧w0.cell? ⟨fb,fo+i * 4+1,none⟩=some (.int .i64 (f i).tries)∧w0.cell? ⟨fb,fo+i * 4+2,none⟩=some (.int .i64 (f i).slips)∧w0.cell? ⟨fb,fo+i * 4+3,none⟩=some (.bool (f i).un)
theorem Bs.later {p:Pl}{f:Nat→Fa}{xb xo icap fb fo lcap:Nat}{w0 w:World}(h:Bs p f xb xo icap fb fo lcap w0)(hb:Below w0.heap.size w0 w):Bs p f xb xo icap fb fo lcap w:=by
 refine⟨h.ok,h.le,h.icap,h.lcap,h.alts,h.step,h.fok,fun i hi=>?_,fun i hi=>?_⟩
 ·obtain⟨s1,s2,zi,za,av,am,ac,c0,c1,c2,c3,c4,c5,c6,c7,hz⟩:=h.it i hi
  exact⟨s1,s2,zi,za,av,am,ac,Dg.cell_later hb c0,Dg.cell_later hb c1,Dg.cell_later hb c2,Dg.cell_later hb c3,Dg.cell_later hb c4,Dg.cell_later hb c5,Dg.cell_later hb c6,Dg.cell_later hb c7,hz⟩
 ·obtain⟨c0,c1,c2,c3⟩:=h.fa i hi
  exact⟨Dg.cell_later hb c0,Dg.cell_later hb c1,Dg.cell_later hb c2,Dg.cell_later hb c3⟩
structure Sd (w0:World)(b:Nat)(v lv:Value)(m:Nat→Nat→Bool)(w:World):Prop where
 bel:Below w0.heap.size w0 w
 low:w0.heap.size≤b
 sb:w.heap[b]? =some (.cells (stL v lv m).toArray 172 (0,0))
theorem Sd.later {w0:World}{b:Nat}{v lv:Value}{m:Nat→Nat→Bool}{w w':World}(h:Sd w0 b v lv m w)(hb:Below w.heap.size w w'):Sd w0 b v lv m w':=
 ⟨h.bel.trans (hb.mono h.bel.size),h.low,(hb.block _ (jD.1 h.sb).1).trans h.sb⟩
theorem Sd.c0 {w0:World}{b:Nat}{v lv:Value}{m:Nat→Nat→Bool}{w:World}(h:Sd w0 b v lv m w):w.cell? ⟨b,0,none⟩=some v:=(Dg.cell_row h.sb 0).trans rfl
theorem Sd.c1 {w0:World}{b:Nat}{v lv:Value}{m:Nat→Nat→Bool}{w:World}(h:Sd w0 b v lv m w):w.cell? ⟨b,1,none⟩=some lv:=(Dg.cell_row h.sb 1).trans rfl
theorem Sd.mark {w0:World}{b:Nat}{v lv:Value}{m:Nat→Nat→Bool}{w:World}(h:Sd w0 b v lv m w){k i:Nat}(hk:k < 4)(hi:i < 64):w.cell? ⟨b,2+64 * k+i,none⟩=some (.bool (m k i)):=by
 rw[Dg.cell_row h.sb,jY]
 exact stL_at hk hi
theorem Sd.m0 {w0:World}{b:Nat}{v lv:Value}{m:Nat→Nat→Bool}{w:World}(h:Sd w0 b v lv m w){i:Nat}(hi:i < 64):w.cell? ⟨b,2+i,none⟩=some (.bool (m 0 i)):=h.mark (k:=0) (by omega) hi
theorem Sd.m1 {w0:World}{b:Nat}{v lv:Value}{m:Nat→Nat→Bool}{w:World}(h:Sd w0 b v lv m w){i:Nat}(hi:i < 64):w.cell? ⟨b,66+i,none⟩=some (.bool (m 1 i)):=h.mark (k:=1) (by omega) hi
theorem Sd.m2 {w0:World}{b:Nat}{v lv:Value}{m:Nat→Nat→Bool}{w:World}(h:Sd w0 b v lv m w){i:Nat}(hi:i < 64):w.cell? ⟨b,130+i,none⟩=some (.bool (m 2 i)):=h.mark (k:=2) (by omega) hi
theorem Sd.m3 {w0:World}{b:Nat}{v lv:Value}{m:Nat→Nat→Bool}{w:World}(h:Sd w0 b v lv m w){i:Nat}(hi:i < 64):w.cell? ⟨b,194+i,none⟩=some (.bool (m 3 i)):=h.mark (k:=3) (by omega) hi
theorem Sd.put {w0:World}{b:Nat}{v lv:Value}{m:Nat→Nat→Bool}{w:World}(h:Sd w0 b v lv m w){k i o:Nat}(q:Bool)(hk:k < 4)(hi:i < 64)(ho:o=2+64 * k+i):Sd w0 b v lv (put2 m k i q) (w.setCell ⟨b,o,none⟩ (.bool q)):=by
 subst ho;refine⟨h.bel.setCell h.low _,h.low,?_⟩
 rw[Dg.row_set h.sb]
 rw[←stL_set q hk hi,jA]
def allK (p:Pl)(s a:Nat)(q:Nat→Bool):Bool:=(List.range p.n).all fun i=> !kid p s a i || q i
theorem allK_no {p:Pl}{s a i:Nat}{q:Nat→Bool}(hk:kid p s a i=true)(h:q i=false):allK p s a q=false:=by
 refine List.all_eq_false.2 ⟨i,zB.2 (of_decide_eq_true hk).2.1,?_⟩;rw[hk,h]
 decide
theorem allK_yes {p:Pl}{s a:Nat}{q:Nat→Bool}(h:∀i,s < i→i < p.n→kid p s a i=true→q i=true):allK p s a q=true:=by
 refine zF.2 fun i hi=>?_
 by_cases hk:kid p s a i=true
 ·rw[hk,h i (of_decide_eq_true hk).1 (zB.1 hi) hk]
  rfl
 ·rw[show kid p s a i=false by simpa using hk]
  rfl
theorem every_any {p:Pl}{f:Nat→Fa}{xb xo icap fb fo lcap:Nat}{w0:World}(hB:Bs p f xb xo icap fb fo lcap w0){b:Nat}{m:Nat→Nat→Bool}{w:World}{lv:Value}{n:Nat}(hn:p.n=n)(hS:Sd w0 b (.slice (some ⟨xb,xo,none⟩) n icap) lv m w)(g:Nat)(c:Value)(s a:Nat)(hs:s < n)(ha:a≤4)(q:Nat→Bool)
  (hcf:∀(i:Int) (wx:World),(callFunc g #[.int .i64 i,c]).run Tryz.prog wx= .ok (.enter g #[.int .i64 i,c]) wx)
  (hq:∀(wx:World) (i:Nat),Below w.heap.size w wx→s < i→i < n→Calls Tryz.prog g #[.int .i64 (i:Int),c] wx fun e w'=>e= .returned (.bool (q i))∧Below wx.heap.size wx w') :
  Calls Tryz.prog 126 #[.pointer (some ⟨b,0,none⟩),.int .i64 (s:Int),.int .i64 (a:Int),.func (Fn.func g) #[] #[c]] w fun e w'=>e= .returned (.bool (allK p s a q))∧Below w.heap.size w w':=by
 obtain⟨E,HE⟩:∃E,Hid (E=allK p s a q):=⟨_,rfl⟩
 rw[←HE.out]
 have hle:n≤64:=by have:=hB.le;omega
 have hic:n≤icap:=by have:=hB.icap;omega
 have HB:Hid _:=hB;have HQ:Hid _:=hq;have HS:Hid _:=hS;have HN:Hid _:=hn;have c0:=hS.c0;clear hB hq hS hn
 go_enter Tryz.func126,Tryz.ntmps126
 go_wp2_with fail
 go_loopw [9] (fun iv wr=>∃(k:Nat),s < k∧k≤n∧iv= .int .i64 k∧Hid (∀i,s < i→i < k→kid p s a i=true→q i=true)∧Hid (Below w.heap.size w wr)) (fun iv _=>n - (intOf iv).toNat)
 case atStart=>exact⟨s+1,by omega,by omega,by go_num,fun i h1 h2=>by omega,Below.refl _ _⟩
 case round=>
  obtain⟨k,hk0,hk,rfl,HA,HW⟩:=hrel
  rename World=>wr
  have z0:=(HS.out.later HW.out).c0
  by_cases hlt:k < n
  rotate_left
  ·have HX:Hid (E=true):=by
    show _=_;rw[HE.out]
    exact allK_yes fun i h1 h2=>HA.out i h1 (by have:=HN.out;omega)
   go_wp2_with fail
   go_ret
   exact⟨by rw[HX.out];rfl,HW.out⟩
  ·obtain⟨s1,s2,zi,za,av,am,ac,k0,k1,k2,k3,k4,k5,k6,k7,hz⟩:=(HB.out.later (HS.out.bel.trans (HW.out.mono HS.out.bel.size))).it k (by have:=HN.out;omega)
   obtain⟨rfl,rfl⟩:=hz (by omega)
   clear k0 k1 k2 k3 k4 k7;have HK:Hid (kid p s a k=true↔p.inn k=s∧p.alt k=a):=⟨fun h=>(of_decide_eq_true h).2.2,fun h=>decide_eq_true ⟨hk0,by have:=HN.out;omega,h.1,h.2⟩⟩;have HQK:Hid _:=HQ.out wr k HW.out hk0 hlt;have HNO:Hid (p.inn k=s→p.alt k=a→q k=false→E=false):=fun h1 h2 h3=>HE.out.trans (allK_no (HK.out.2 ⟨h1,h2⟩) h3)
   have HYES:Hid ((p.inn k=s→p.alt k=a→q k=true)→∀i,s < i→i < k+1→kid p s a i=true→q i=true):=fun h i h1 h2 h3=>by
    by_cases hik:i=k
    ·subst hik;exact h (HK.out.1 h3).1 (HK.out.1 h3).2
    ·exact HA.out i h1 (by omega) h3
   clear HA HK;have hii:(k:Int) < (n:Int):=by omega
   generalize p.inn k=y at *;generalize p.alt k=z at *
   by_cases hy:y=s
   rotate_left
   ·have e1:((y:Int)==(s:Int))=false:=by simp;omega
    have HY2:Hid _:=HYES.out fun h=>absurd h hy
    clear HYES HNO HQK hy
    go_wp2_with fail
    go_roundw
    case rel=>exact⟨k+1,by omega,by omega,by go_num,HY2,HW⟩
    case measure=>simp[intOf];omega
   ·subst hy;have e1:((y:Int)==(y:Int))=true:=by simp
    by_cases hzz:z=a
    rotate_left
    ·have e2:((z:Int)==(a:Int))=false:=by simp;omega
     have HY2:Hid _:=HYES.out fun _ h=>absurd h hzz
     clear HYES HNO HQK hzz
     go_wp2_with fail
     go_roundw
     case rel=>exact⟨k+1,by omega,by omega,by go_num,HY2,HW⟩
     case measure=>simp[intOf];omega
    ·subst hzz;have e2:((z:Int)==(z:Int))=true:=by simp
     go_wp2_with fail
     refine Calls.mono HQK.out ?_;rintro e w2 ⟨rfl,hb2⟩;have HW2:Hid _:=HW.out.trans (hb2.mono HW.out.size);clear HQK hb2;cases hqk:q k with
     | true=>
      have HY2:Hid _:=HYES.out fun _ _=>hqk
      clear HYES HNO
      go_wp2_with fail
      go_roundw
      case rel=>exact⟨k+1,by omega,by omega,by go_num,HY2,HW2⟩
      case measure=>simp[intOf];omega
     | false=>
      have HX:Hid _:=HNO.out (by first | rfl | trivial) (by first | rfl | trivial) hqk;clear HYES HNO
      go_wp2_with fail
      go_ret
      exact⟨by rw[HX.out];rfl,HW2.out⟩
def allB (n:Nat)(q:Nat→Bool):Bool:=(List.range n).all q
theorem allB_no {n i:Nat}{q:Nat→Bool}(hi:i < n)(h:q i=false):allB n q=false:=List.all_eq_false.2 ⟨i,zB.2 hi,by rw[h];decide⟩
theorem allB_yes {n:Nat}{q:Nat→Bool}(h:∀i,i < n→q i=true):allB n q=true:=zF.2 fun i hi=>h i (zB.1 hi)
theorem everyBody_any {p:Pl}{f:Nat→Fa}{xb xo icap fb fo lcap:Nat}{w0:World}(hB:Bs p f xb xo icap fb fo lcap w0){b:Nat}{m:Nat→Nat→Bool}{w:World}{lv:Value}{n:Nat}(hn:p.n=n)(hS:Sd w0 b (.slice (some ⟨xb,xo,none⟩) n icap) lv m w)(g:Nat)(cap:Array Value)(s:Nat)(hs:s < n)(q:Nat→Bool)
  (hcf:∀(i:Int) (wx:World),(callFunc g (#[.int .i64 i] ++cap)).run Tryz.prog wx= .ok (.enter g (#[.int .i64 i] ++cap)) wx)
  (hq:∀(wx:World) (i:Nat),Below w.heap.size w wx→i < p.alts s→Calls Tryz.prog g (#[.int .i64 (i:Int)] ++cap) wx fun e w'=>e= .returned (.bool (q i))∧Below wx.heap.size wx w') :
  Calls Tryz.prog 124 #[.pointer (some ⟨b,0,none⟩),.int .i64 (s:Int),.func (Fn.func g) #[] cap] w fun e w'=>e= .returned (.bool (allB (p.alts s) q))∧Below w.heap.size w w':=by
 obtain⟨E,HE⟩:∃E,Hid (E=allB (p.alts s) q):=⟨_,rfl⟩
 rw[←HE.out]
 have hle:n≤64:=by have:=hB.le;omega
 have hic:n≤icap:=by have:=hB.icap;omega
 have h4:=hB.alts s (by omega);obtain⟨s1,s2,zi,za,av,am,ac,k0,k1,k2,k3,k4,k5,k6,k7,hz⟩:=(hB.later hS.bel).it s (by omega)
 clear k0 k1 k2 k3 k5 k6 k7 hz;have hii:(s:Int) < (n:Int):=by omega
 generalize p.alts s=t at *;have HQ:Hid _:=hq;have c0:=hS.c0;clear hB hq hS
 go_enter Tryz.func124,Tryz.ntmps124
 go_wp2_with fail
 go_loopw [16] (fun iv wr=>∃(k:Nat),k≤t∧iv= .int .i64 k∧Hid (∀i,i < k→q i=true)∧Hid (Below w.heap.size w wr)) (fun iv _=>t - (intOf iv).toNat)
 case atStart=>exact⟨0,by omega,by go_num,fun i h1=>by omega,Below.refl _ _⟩
 case round=>
  obtain⟨k,hk,rfl,HA,HW⟩:=hrel
  rename World=>wr
  by_cases hlt:k < t
  rotate_left
  ·have HX:Hid (E=true):=by
    show _=_;rw[HE.out]
    exact allB_yes fun i h1=>HA.out i (by omega)
   go_wp2_with fail
   go_ret
   exact⟨by rw[HX.out];rfl,HW.out⟩
  ·have HQK:Hid _:=HQ.out wr k HW.out hlt;have HNO:Hid (q k=false→E=false):=fun h3=>HE.out.trans (allB_no hlt h3)
   have HYES:Hid (q k=true→∀i,i < k+1→q i=true):=fun h i h1=>by
    by_cases hik:i=k
    ·subst hik;exact h
    ·exact HA.out i (by omega)
   clear HA
   go_wp2_with fail
   refine Calls.mono HQK.out ?_;rintro e w2 ⟨rfl,hb2⟩;have HW2:Hid _:=HW.out.trans (hb2.mono HW.out.size);clear HQK hb2;cases hqk:q k with
   | true=>
    have HY2:Hid _:=HYES.out hqk;clear HYES HNO
    go_wp2_with fail
    go_roundw
    case rel=>exact⟨k+1,by omega,by go_num,HY2,HW2⟩
    case measure=>simp[intOf];omega
   | false=>
    have HX:Hid _:=HNO.out hqk;clear HYES HNO
    go_wp2_with fail
    go_ret
    exact⟨by rw[HX.out];rfl,HW2.out⟩
variable {p:Pl}{f:Nat→Fa}{xb xo icap fb fo lcap:Nat}{w0:World}{b:Nat}{m:Nat→Nat→Bool}{w:World}{n:Nat}
def Cp (w:World)(c b:Nat):Prop:=w.heap[c]? =some (.cells #[.pointer (some ⟨b,0,none⟩)] 170 (0,0))
theorem Cp.later {w w':World}{c b:Nat}(h:Cp w c b)(hb:Below w.heap.size w w'):Cp w' c b:=(hb.block _ (jD.1 h).1).trans h
theorem Cp.c0 {w:World}{c b:Nat}(h:Cp w c b):w.cell? ⟨c,0,none⟩=some (.pointer (some ⟨b,0,none⟩)):=(Dg.cell_row h 0).trans rfl
def Ci (w:World)(c s:Nat):Prop:=w.heap[c]? =some (.cells #[.int .i64 (s:Int)] 3 (0,0))
theorem Ci.later {w w':World}{c b:Nat}(h:Ci w c b)(hb:Below w.heap.size w w'):Ci w' c b:=(hb.block _ (jD.1 h).1).trans h
theorem Ci.c0 {w:World}{c s:Nat}(h:Ci w c s):w.cell? ⟨c,0,none⟩=some (.int .i64 (s:Int)):=(Dg.cell_row h 0).trans rfl
theorem untouched_any {v lv:Value}(hS:Sd w0 b v lv m w){c:Nat}(hc:Cp w c b){i:Nat}(hi:i < 64) :
  Calls Tryz.prog 123 #[.int .i64 (i:Int),.pointer (some ⟨c,0,none⟩)] w fun e w'=>e= .returned (.bool (!m 0 i))∧Below w.heap.size w w':=by
 have c0:=hc.c0;have c1:=hS.m0 hi;have hii:(i:Int) < 64:=by omega
 clear hS hc
 go_enter Tryz.func123,Tryz.ntmps123
 go_wp2_with fail
 go_ret
 exact⟨rfl,Below.refl _ _⟩
theorem clean_any {v lv:Value}(hS:Sd w0 b v lv m w){c:Nat}(hc:Cp w c b){i:Nat}(hi:i < 64) :
  Calls Tryz.prog 155 #[.int .i64 (i:Int),.pointer (some ⟨c,0,none⟩)] w fun e w'=>e= .returned (.bool (m 1 i))∧Below w.heap.size w w':=by
 have c0:=hc.c0;have c1:=hS.m1 hi;have hii:(i:Int) < 64:=by omega
 clear hS hc
 go_enter Tryz.func155,Tryz.ntmps155
 go_wp2_with fail
 go_ret
 exact⟨rfl,Below.refl _ _⟩
def okD (p:Pl)(m:Nat→Nat→Bool)(i:Nat):Bool:=m 3 i || (!p.vital i && m 2 i)
def okH (p:Pl)(f:Nat→Fa)(m:Nat→Nat→Bool)(i:Nat):Bool:= !decide ((f i).run=3) && !(p.vital i && m 2 i)
theorem done_any (hB:Bs p f xb xo icap fb fo lcap w0)(hn:p.n=n){lv:Value}(hS:Sd w0 b (.slice (some ⟨xb,xo,none⟩) n icap) lv m w){c:Nat}(hc:Cp w c b){i:Nat}(hi:i < n) :
  Calls Tryz.prog 156 #[.int .i64 (i:Int),.pointer (some ⟨c,0,none⟩)] w fun e w'=>e= .returned (.bool (okD p m i))∧Below w.heap.size w w':=by
 have hle:n≤64:=by have:=hB.le;omega
 have hic:n≤icap:=by have:=hB.icap;omega
 have c0:=hc.c0;have c1:=hS.c0;have c2:=hS.m2 (i:=i) (by omega);have c3:=hS.m3 (i:=i) (by omega);obtain⟨s1,s2,zi,za,av,am,ac,k0,k1,k2,k3,k4,k5,k6,k7,hz⟩:=(hB.later hS.bel).it i (by omega)
 have hii:(i:Int) < (n:Int):=by omega
 have hii2:(i:Int) < 64:=by omega
 obtain⟨E,HE⟩:∃E,Hid (E=okD p m i):=⟨_,rfl⟩
 rw[←HE.out]
 have HX:Hid (E=(m 3 i || (!p.vital i && m 2 i))):=HE.out;clear hS hc hB k0 k1 k2 k4 k5 k6 k7 hz HE;generalize p.vital i=vi at *;generalize m 2 i=m2 at *;generalize m 3 i=m3 at *;cases vi <;> cases m3 <;> (go_enter Tryz.func156,Tryz.ntmps156;go_wp2_with fail;go_ret;exact⟨by rw[HX.out];cases m2 <;> rfl,Below.refl _ _⟩)
theorem holds_any (hB:Bs p f xb xo icap fb fo lcap w0)(hn:p.n=n)(hS:Sd w0 b (.slice (some ⟨xb,xo,none⟩) n icap) (.slice (some ⟨fb,fo,none⟩) n lcap) m w){c:Nat}(hc:Cp w c b){i:Nat}(hi:i < n) :
  Calls Tryz.prog 157 #[.int .i64 (i:Int),.pointer (some ⟨c,0,none⟩)] w fun e w'=>e= .returned (.bool (okH p f m i))∧Below w.heap.size w w':=by
 have hle:n≤64:=by have:=hB.le;omega
 have hic:n≤icap:=by have:=hB.icap;omega
 have hlc:n≤lcap:=by have:=hB.lcap;omega
 have c0:=hc.c0;have c1:=hS.c0;have c2:=hS.m2 (i:=i) (by omega);have c3:=hS.c1;obtain⟨s1,s2,zi,za,av,am,ac,k0,k1,k2,k3,k4,k5,k6,k7,hz⟩:=(hB.later hS.bel).it i (by omega)
 obtain⟨f0,f1,f2,f3⟩:=(hB.later hS.bel).fa i (by omega)
 have hii:(i:Int) < (n:Int):=by omega
 have hii2:(i:Int) < 64:=by omega
 obtain⟨E,HE⟩:∃E,Hid (E=okH p f m i):=⟨_,rfl⟩
 rw[←HE.out]
 have HX:Hid (E=(!decide ((f i).run=3) && !(p.vital i && m 2 i))):=HE.out;clear hS hc hB k0 k1 k2 k4 k5 k6 k7 hz HE f1 f2 f3;generalize p.vital i=vi at *;generalize m 2 i=m2 at *;generalize (f i).run=r at *
 by_cases hr:r=3
 ·subst hr;have e1:((3:Int) !=3)=false:=rfl;cases vi <;> (go_enter Tryz.func157,Tryz.ntmps157;go_wp2_with fail;go_ret;exact⟨by rw[HX.out];cases m2 <;> rfl,Below.refl _ _⟩)
 ·have e1:(r !=3)=true:=by simpa using hr
  have HX2:Hid (E= !(vi && m2)):=by show _=_;rw[HX.out];simp[hr]
  clear HX;cases vi <;> (go_enter Tryz.func157,Tryz.ntmps157;go_wp2_with fail;go_ret;exact⟨by rw[HX2.out];cases m2 <;> rfl,Below.refl _ _⟩)
end Go.Proofs.YtieoppabellafaaGreatDoor.Sa
namespace Go.Proofs.YtieoppabellafaaGreatDoor.Sa
open Go.RowKit Go.Shelf Fc St
variable {p:Pl}{f:Nat→Fa}{xb xo icap fb fo lcap:Nat}{w0:World}{b:Nat}{m:Nat→Nat→Bool}{w:World}{n:Nat}
theorem Cp.new (w:World)(b:Nat):Cp (w.alloc (.cells #[.pointer (some ⟨b,0,none⟩)] 170)) w.heap.size b:=Dg.row_new w _ 170
theorem bodyClean_any (hB:Bs p f xb xo icap fb fo lcap w0)(hn:p.n=n){lv:Value}(hS:Sd w0 b (.slice (some ⟨xb,xo,none⟩) n icap) lv m w){s a:Nat}(hs:s < n)(ha:a≤4) :
  Calls Tryz.prog 128 #[.pointer (some ⟨b,0,none⟩),.int .i64 (s:Int),.int .i64 (a:Int)] w fun e w'=>e= .returned (.bool (allK p s a (m 1)))∧Below w.heap.size w w':=by
 have hb1:=bl1 w (.cells #[.pointer (some ⟨b,0,none⟩)] 170);have hc:=Cp.new w b;have hle:n≤64:=by have:=hB.le;omega
 have HE:Hid _:=every_any hB hn (hS.later hb1) 155 (.pointer (some ⟨w.heap.size,0,none⟩)) s a hs ha (m 1) (fun _ _=>by kernel_rfl) (fun wx i hb h1 h2=>clean_any ((hS.later hb1).later hb) (hc.later hb) (i:=i) (by omega));have c0:=hc.c0;have HB1:Hid _:=hb1;clear hB hS hc hb1
 go_enter Tryz.func128,Tryz.ntmps128
 go_wp2_with fail
 refine Calls.mono HE.out ?_;rintro e w2 ⟨rfl,hb2⟩;have HB2:Hid _:=HB1.out.trans (hb2.mono HB1.out.size);clear HE hb2 c0
 go_wp2_with fail
 go_ret
 exact⟨rfl,HB2.out⟩
theorem isWhole_any (hB:Bs p f xb xo icap fb fo lcap w0)(hn:p.n=n){lv:Value}(hS:Sd w0 b (.slice (some ⟨xb,xo,none⟩) n icap) lv m w){s a:Nat}(hs:s < n)(ha:a≤4) :
  Calls Tryz.prog 131 #[.pointer (some ⟨b,0,none⟩),.int .i64 (s:Int),.int .i64 (a:Int)] w fun e w'=>e= .returned (.bool (allK p s a (okD p m)))∧Below w.heap.size w w':=by
 have hb1:=bl1 w (.cells #[.pointer (some ⟨b,0,none⟩)] 170);have hc:=Cp.new w b;have HE:Hid _:=every_any hB hn (hS.later hb1) 156 (.pointer (some ⟨w.heap.size,0,none⟩)) s a hs ha (okD p m) (fun _ _=>by kernel_rfl) (fun wx i hb h1 h2=>done_any hB hn ((hS.later hb1).later hb) (hc.later hb) (i:=i) (by omega));have c0:=hc.c0;have HB1:Hid _:=hb1;clear hB hS hc hb1
 go_enter Tryz.func131,Tryz.ntmps131
 go_wp2_with fail
 refine Calls.mono HE.out ?_;rintro e w2 ⟨rfl,hb2⟩;have HB2:Hid _:=HB1.out.trans (hb2.mono HB1.out.size);clear HE hb2 c0
 go_wp2_with fail
 go_ret
 exact⟨rfl,HB2.out⟩
theorem falls_any (hB:Bs p f xb xo icap fb fo lcap w0)(hn:p.n=n)(hS:Sd w0 b (.slice (some ⟨xb,xo,none⟩) n icap) (.slice (some ⟨fb,fo,none⟩) n lcap) m w){s a:Nat}(hs:s < n)(ha:a≤4) :
  Calls Tryz.prog 132 #[.pointer (some ⟨b,0,none⟩),.int .i64 (s:Int),.int .i64 (a:Int)] w fun e w'=>e= .returned (.bool (!allK p s a (okH p f m)))∧Below w.heap.size w w':=by
 have hb1:=bl1 w (.cells #[.pointer (some ⟨b,0,none⟩)] 170);have hc:=Cp.new w b;have HE:Hid _:=every_any hB hn (hS.later hb1) 157 (.pointer (some ⟨w.heap.size,0,none⟩)) s a hs ha (okH p f m) (fun _ _=>by kernel_rfl) (fun wx i hb h1 h2=>holds_any hB hn ((hS.later hb1).later hb) (hc.later hb) (i:=i) (by omega));have c0:=hc.c0;have HB1:Hid _:=hb1;clear hB hS hc hb1
 go_enter Tryz.func132,Tryz.ntmps132
 go_wp2_with fail
 refine Calls.mono HE.out ?_;rintro e w2 ⟨rfl,hb2⟩;have HB2:Hid _:=HB1.out.trans (hb2.mono HB1.out.size);clear HE hb2 c0
 go_wp2_with fail
 go_ret
 exact⟨rfl,HB2.out⟩
theorem isOver_any (hB:Bs p f xb xo icap fb fo lcap w0)(hn:p.n=n)(hS:Sd w0 b (.slice (some ⟨xb,xo,none⟩) n icap) (.slice (some ⟨fb,fo,none⟩) n lcap) m w){s a:Nat}(hs:s < n)(ha:a≤4) :
  Calls Tryz.prog 130 #[.pointer (some ⟨b,0,none⟩),.int .i64 (s:Int),.int .i64 (a:Int)] w fun e w'=>e= .returned (.bool (allK p s a (m 1) && !allK p s a (okH p f m)))∧Below w.heap.size w w':=by
 have HE:Hid _:=bodyClean_any hB hn hS hs ha;have HF:Hid (∀w',Below w.heap.size w w'→_):=fun w' hb=>falls_any hB hn (hS.later hb) hs ha
 clear hB hS;generalize allK p s a (m 1)=q1 at *
 go_enter Tryz.func130,Tryz.ntmps130
 go_wp2_with fail
 refine Calls.mono HE.out ?_;rintro e w2 ⟨rfl,hb2⟩;have HB2:Hid _:=hb2;have HF2:Hid _:=HF.out w2 hb2;clear HE HF hb2;cases q1 with
 | false=>
  clear HF2
  go_wp2_with fail
  go_ret
  exact⟨rfl,HB2.out⟩
 | true=>
  go_wp2_with fail
  refine Calls.mono HF2.out ?_;rintro e w3 ⟨rfl,hb3⟩;have HB3:Hid _:=HB2.out.trans (hb3.mono HB2.out.size);clear HF2 HB2 hb3
  go_wp2_with fail
  go_ret
  exact⟨rfl,HB3.out⟩
end Go.Proofs.YtieoppabellafaaGreatDoor.Sa
