/- Texts of the seat, packed: Ys Yt Kk Ki Kj Kyd. -/
import Derived.Test.YtieoppabellafaaGreatDoorP21
import Derived.Test.YtieoppabellafaaGreatDoorP23
import Derived.Test.YtieoppabellafaaGreatDoorP26
import Derived.Test.YtieoppabellafaaGreatDoorP30
import Derived.Laws.Rows
import Derived.Laws.MakeOwn
import Derived.Lib.AppendZeros
set_option maxRecDepth 1000000
set_option maxHeartbeats 64000000
set_option linter.unusedVariables false
namespace Go.Proofs.YtieoppabellafaaGreatDoor
open Go.RowKit Go.Shelf Sx
theorem name1 (c:UInt8)(n:Int)(h1:enc n=[c])(h2:kl n=1)(h3:isCp n=true):nameP [c]:=
 ⟨[n],by simp[encAll,h1],n,[],rfl,h2,by simp,by simp[h3],by simp[encAll,h1]⟩
theorem nm_t:nmP [116]=true:=by
 rw[nmP,(isName_iff _).2 (name1 116 116 (by decide +kernel) (by decide +kernel) (by decide +kernel))];rfl
theorem nm_a:nmP [97]=true:=by
 rw[nmP,(isName_iff _).2 (name1 97 97 (by decide +kernel) (by decide +kernel) (by decide +kernel))];rfl
theorem nm_b:nmP [98]=true:=by
 rw[nmP,(isName_iff _).2 (name1 98 98 (by decide +kernel) (by decide +kernel) (by decide +kernel))];rfl
theorem old1 {W:World}{k:Nat}{x:Obj}(h:W.heap[k]? =some x)(o:Obj):(W.alloc o).heap[k]? =some x:=(Below.heap_alloc _ _ _ (Array.getElem?_eq_some_iff.1 h).1).trans h
theorem new1 (W:World)(o:Obj)(k:Nat)(h:k=W.heap.size):(W.alloc o).heap[k]? =some o:=by subst h;exact World.alloc_heap_new W o
end Go.Proofs.YtieoppabellafaaGreatDoor
namespace Go.Proofs.YtieoppabellafaaGreatDoor.Fc
open Go.RowKit Go.Shelf Sx
def okIt (x:It):Bool:=decide (x.name.length≤200) && (decide (x.undo.length≤200) && decide (x.after.length≤100))
def smallI (its:List It):Bool:=(its.take 70).all okIt && decide (its.length≤70)
theorem small_no {its:List It}{i:Nat}{x:It}(hx:its[i]? =some x)(hi:i < 70)(h:okIt x=false):smallI its=false:=by
 unfold smallI;have:(its.take 70).all okIt=false:=by
  rw[List.all_eq_false]
  exact⟨x,List.mem_of_getElem? (i:=i) (by rw[List.getElem?_take,if_pos hi];exact hx),by rw[h];simp⟩
 rw[this]
 rfl
theorem small_any (its:List It)(v:Value)(w:World)(hIt:RdIt w v its)(hmx:its.length≤maxLen)(hnm:∀x∈its,x.name.length≤maxLen∧x.undo.length≤maxLen∧x.after.length≤maxLen) :
  Calls Tryz.prog 13 #[.agg #[v]] w fun e w'=>e= .returned (.bool (smallI its))∧Below w.heap.size w w':=by
 obtain⟨ia,icap,rfl,hic,hir⟩:=hIt
 have HIR:Hid _:=hir;have HNM:Hid _:=hnm;obtain⟨il,HIL⟩:∃il,Hid (its.length=il):=⟨_,rfl⟩
 rw[HIL.out] at hic hmx ⊢
 unfold maxLen at hmx;clear hir hnm;have hb1:Below w.heap.size w (w.alloc (.cells #[.slice ia il icap] 28)):=(Below.refl _ w).alloc (Nat.le_refl _) _;have r1:=Dg.row_new w #[.slice ia il icap] 28;have hg0:=(Dg.cell_row r1 0).trans rfl
 go_enter Tryz.func13,Tryz.ntmps13
 go_wp2_with fail
 generalize w.alloc (.cells #[.slice ia il icap] 28)=w0 at *;have HB0:Hid _:=hb1;clear hb1 r1
 go_loopw [3] (fun iv wr=>∃(i:Nat),i≤il∧i≤70∧iv= .int .i64 i∧Hid (∀x∈its.take i,okIt x=true)∧Hid (Below w0.heap.size w0 wr)) (fun iv _=>il - (intOf iv).toNat)
 case atStart=>exact⟨0,Nat.zero_le _,by omega,rfl,by show ∀x∈its.take 0,_;simp,Below.refl _ _⟩
 case round=>
  obtain⟨i,hi,hi70,rfl,HF,HB⟩:=hrel
  rename World=>w1
  have g0:=Dg.cell_later HB.out hg0
  by_cases hlt:i < il∧i < 70
  rotate_left
  ·have HT:Hid (smallI its=decide (il≤70)):=by
    show _=_;unfold smallI;have:(its.take 70).all okIt=true:=by
     rw[List.all_eq_true]
     intro x hx;refine HF.out x ?_
     by_cases h7:i=70
     ·rw[h7];exact hx
     ·have:i=il:=by omega
      rw[List.take_of_length_le (by rw[HIL.out,this];exact Nat.le_refl _)]
      exact List.mem_of_mem_take hx
    rw[this,HIL.out]
    rfl
   by_cases h7:il≤70
   ·have hie:i=il:=by omega
    subst hie;have HT2:Hid (smallI its=true):=HT.out.trans (decide_eq_true h7)
    go_wp2_with fail
    go_ret
    exact⟨by rw[HT2.out];show Ending.returned (.bool (decide ((i:Int)≤70)))=_;rw[decide_eq_true (by omega)],HB0.out.trans (HB.out.mono HB0.out.size)⟩
   ·have hie:i=70:=by omega
    subst hie;have hii:(70:Int) < (il:Int):=by omega
    have HT2:Hid (smallI its=false):=HT.out.trans (decide_eq_false h7)
    go_wp2_with fail
    go_ret
    exact⟨by rw[HT2.out];show Ending.returned (.bool (decide ((il:Int)≤70)))=_;rw[decide_eq_false (by omega)],HB0.out.trans (HB.out.mono HB0.out.size)⟩
  obtain⟨hlt,hlt7⟩:=hlt
  obtain⟨y,hy⟩:∃y,its[i]? =some y:=⟨_,List.getElem?_eq_getElem (by rw[HIL.out];exact hlt)⟩
  obtain⟨m0,m1,m2⟩:=HNM.out y (List.mem_of_getElem? hy)
  unfold maxLen at m0 m1 m2;obtain⟨b1,off1,yav,yam,yac,rfl,k0,k1,k2,k3,k4,k5,k6,k7,hz⟩:=HIR.out i y hy
  have hBT:Below w.heap.size w w1:=HB0.out.trans (HB.out.mono HB0.out.size);have j0:=Dg.cell_later hBT k0;have j1:=Dg.cell_later hBT k1;have j2:=Dg.cell_later hBT k2;have j3:=Dg.cell_later hBT k3;have j4:=Dg.cell_later hBT k4;have j5:=Dg.cell_later hBT k5;have j6:=Dg.cell_later hBT k6;have j7:=Dg.cell_later hBT k7;obtain⟨za,zcap,hze,hzc,hzr⟩:=hz
  cases hze;have hii:(i:Int) < (il:Int):=by omega
  have hi7:(i:Int) < 70:=by omega
  have HTk:Hid (its.take (i+1)=its.take i ++ [y]):=by show _=_;rw[List.take_add_one,hy];rfl
  have HNo:Hid (okIt y=false→smallI its=false):=fun h=>small_no hy hlt7 h
  have s0:(⟨y.name.toArray⟩:ByteArray).size=y.name.length:=by simp[ByteArray.size]
  have s1:(⟨y.undo.toArray⟩:ByteArray).size=y.undo.length:=by simp[ByteArray.size]
  have HBT:Hid _:=hBT;clear k0 k1 k2 k3 k4 k5 k6 k7 hzr hy hBT
  by_cases hok:okIt y=true
  ·have HF2:Hid (∀x∈its.take (i+1),okIt x=true):=by
    show ∀x∈its.take (i+1),_
    rw[HTk.out]
    intro x hx
    rcases List.mem_append.1 hx with h | h
    ·exact HF.out x h
    ·simp at h;subst h;exact hok
   simp only[okIt,Bool.and_eq_true,decide_eq_true_eq] at hok;obtain⟨o0,o1,o2⟩:=hok
   generalize (⟨y.name.toArray⟩:ByteArray)=N at *;generalize (⟨y.undo.toArray⟩:ByteArray)=U at *;generalize y.name.length=n0 at *;generalize y.undo.length=n1 at *;generalize y.after.length=n2 at *
   go_wp2_with fail
   go_roundw
   case rel=>exact⟨i+1,by omega,by omega,by go_num,HF2,HB.out.alloc HB.out.size _⟩
   case measure=>simp[intOf];omega
  ·have HX:Hid (smallI its=false):=HNo.out (by simpa using hok);have hk2:¬(y.name.length≤200∧y.undo.length≤200∧y.after.length≤100):=fun h=>hok (by simp[okIt,h.1,h.2.1,h.2.2])
   clear hok HNo HTk;generalize (⟨y.name.toArray⟩:ByteArray)=N at *;generalize (⟨y.undo.toArray⟩:ByteArray)=U at *;generalize y.name.length=n0 at *;generalize y.undo.length=n1 at *;generalize y.after.length=n2 at *
   by_cases o0:n0≤200
   ·by_cases o1:n1≤200
    ·have o2:¬n2≤100:=fun h=>hk2 ⟨o0,o1,h⟩
     clear hk2
     go_wp2_with fail
     go_ret
     exact⟨by rw[HX.out];rfl,HBT.out.alloc HBT.out.size _⟩
    ·clear hk2
     go_wp2_with fail
     go_ret
     exact⟨by rw[HX.out];rfl,HBT.out.alloc HBT.out.size _⟩
   ·clear hk2
    go_wp2_with fail
    go_ret
    exact⟨by rw[HX.out];rfl,HBT.out.alloc HBT.out.size _⟩
theorem small_fair {its:List It}(h:smallI its=true):FairI its∧its.length≤70:=by
 unfold smallI at h;rw[Bool.and_eq_true,decide_eq_true_eq] at h
 obtain⟨h1,h2⟩:=h
 rw[List.take_of_length_le h2,List.all_eq_true] at h1
 have h3:∀x∈its,x.name.length≤200∧x.undo.length≤200∧x.after.length≤100:=by
  intro x hx;have:=h1 x hx;simp only[okIt,Bool.and_eq_true,decide_eq_true_eq] at this;exact this
 exact⟨⟨fun x hx=>by have:=h3 x hx;omega,fun x hx=>by have:=h3 x hx;omega⟩,h2⟩
end Go.Proofs.YtieoppabellafaaGreatDoor.Fc
namespace Go.Proofs.YtieoppabellafaaGreatDoor.Fc
open Go.RowKit Go.Shelf
theorem made_facts (n:Nat):madeCells #[Value.int .i64 0,.int .i64 0,.int .i64 0,.bool false] (n * 4)=(rowsF (List.replicate n Fa.z)).toArray:=by
 apply Array.toList_inj.1
 apply List.ext_getElem?
 intro j
 by_cases hj:j < n * 4
 ·have hf:(List.replicate n Fa.z)[j / 4]? =some Fa.z:=by rw[List.getElem?_replicate,if_pos (by omega)]
  have hg:=rowsF_get _ (j / 4) Fa.z hf (j % 4) (by omega);rw[show j / 4 * 4+j % 4=j by omega] at hg
  show _=(rowsF (List.replicate n Fa.z))[j]?;rw[hg]
  simp only[madeCells,Array.toList_map,List.getElem?_map];have hr:(Array.range (n * 4)).toList[j]? =some j:=by simp[hj]
  rw[hr]
  have hm:j % 4=0∨j % 4=1∨j % 4=2∨j % 4=3:=by omega
  show some ((#[Value.int .i64 0,.int .i64 0,.int .i64 0,.bool false]:Array Value)[j % 4]!)=_
  rcases hm with h | h | h | h <;> rw[h] <;> rfl
 ·rw[List.getElem?_eq_none (by rw[Array.length_toList,size_madeCells];omega)]
  show none=(rowsF (List.replicate n Fa.z))[j]?;rw[List.getElem?_eq_none (by rw[rowsF_len,List.length_replicate];omega)]
theorem make_facts (n:Nat)(hn:n≤64):∃C:Array Value,Hid (C=(rowsF (List.replicate n Fa.z)).toArray)∧∀wx:World,(Instr.makeSlice 33 (.int .i64 (n:Int)) (.int .i64 (n:Int))).run Tryz.prog wx= .ok (.slice (some ⟨wx.heap.size,0,none⟩) n n) (wx.alloc (.cells C 55)):=by
 obtain⟨i0,hi0,hz0,hz1,hz2⟩:=info_parts info38
 refine⟨_,rfl,fun wx=>?_⟩
 have hmk:=run_make (P:=Tryz.prog) wx 33 55 i0 _ Tryz.underlying33 hi0 hz0 .i64 .i64 (n:Int) (n:Int) (by omega) (by omega) (by rw[hz2];omega) (by omega);simp only[hz1,Int.toNat_natCast] at hmk;rw[hmk,←made_facts]
 rfl
def NonC (its:List It)(w:World)(x:Ending)(w':World):Prop:=Below w.heap.size w w'∧match (sagaP its).isSome with
 | false=>x= .returned (.slice none 0 0)
 | true=>∃g,x= .returned (.slice (some ⟨g,0,none⟩) its.length its.length)∧OF w.heap.size w' (.slice (some ⟨g,0,none⟩) its.length its.length) (List.replicate its.length Fa.z)
theorem NonC.yes {its:List It}{w w':World}{g:Nat}(h:(sagaP its).isSome=true)(hb:Below w.heap.size w w')(ho:OF w.heap.size w' (.slice (some ⟨g,0,none⟩) its.length its.length) (List.replicate its.length Fa.z)):NonC its w (.returned (.slice (some ⟨g,0,none⟩) its.length its.length)) w':=by
 unfold NonC;rw[h]
 exact⟨hb,g,rfl,ho⟩
theorem info45:(Tryz.prog.info? 47).map (fun i=>(i.zero,i.size,i.bytes))=some (some (.agg #[.int .i64 0,.bool false,.int .i64 0]),3,24):=by kernel_rfl
def keyC (x:Nat × Bool × Int):List Value:=[.int .i64 (x.1:Int),.bool x.2.1,.int .i64 x.2.2]
def rowsK (K:List (Nat × Bool × Int)):List Value:=K.flatMap keyC
theorem rowsK_cons (f:Nat × Bool × Int)(l:List (Nat × Bool × Int)):rowsK (f :: l)=keyC f ++rowsK l:=by simp[rowsK]
theorem rowsK_snoc (l:List (Nat × Bool × Int))(f:Nat × Bool × Int):rowsK (l ++ [f])=rowsK l ++keyC f:=by simp[rowsK]
theorem rowsK_get (l:List (Nat × Bool × Int))(i:Nat)(f:Nat × Bool × Int)(h:l[i]? =some f)(j:Nat)(hj:j < 3):(rowsK l)[i * 3+j]? =(keyC f)[j]? :=by
 induction l generalizing i with
 | nil=>simp at h
 | cons q l ih=>
  have hl:(keyC q).length=3:=rfl;rw[rowsK_cons]
  cases i with
  | zero=>
   simp at h;subst h;rw[Nat.zero_mul,Nat.zero_add,List.getElem?_append_left (by omega)]
  | succ i=>
   rw[List.getElem?_append_right (by omega),←ih i (by simpa using h)]
   congr 1
   omega
def OK (B:Nat)(w:World)(v:Value)(l:List (Nat × Bool × Int)):Prop:=w.ownsRow B 47 3 v l.length (rowsK l)
theorem OK.later {B:Nat}{w w':World}{v:Value}{l:List (Nat × Bool × Int)}(h:OK B w v l)(hb:Below w.heap.size w w'):OK B w' v l:=by
 refine⟨h.1,?_⟩
 rcases h.2 with hn | ⟨g,cap,cur,rfl,hB,hg,rest⟩
 ·exact .inl hn
 ·exact .inr ⟨g,cap,cur,rfl,hB,(hb.block g (Array.getElem?_eq_some_iff.1 hg).1).trans hg,rest⟩
theorem OK.slice {B:Nat}{w:World}{v:Value}{l:List (Nat × Bool × Int)}(h:OK B w v l):∃a c,v= .slice a l.length c:=by
 rcases h.2 with ⟨e,e2⟩ | ⟨g,cap,cur,e,_⟩
 ·exact⟨none,0,by rw[e,e2]⟩
 ·exact⟨_,_,e⟩
def RK (w:World)(v:Value)(l:List (Nat × Bool × Int)):Prop:=∃a cap,v= .slice a l.length cap∧l.length≤cap∧cap≤maxLen∧∀(i:Nat) (f:Nat × Bool × Int),l[i]? =some f→∃b off,a=some ⟨b,off,none⟩∧
 w.cell? ⟨b,off+i * 3,none⟩=some (.int .i64 (f.1:Int))∧w.cell? ⟨b,off+i * 3+1,none⟩=some (.bool f.2.1)∧w.cell? ⟨b,off+i * 3+2,none⟩=some (.int .i64 f.2.2)
theorem RK.later {w w':World}{v:Value}{l:List (Nat × Bool × Int)}(h:RK w v l)(hb:Below w.heap.size w w'):RK w' v l:=by
 obtain⟨a,cap,hv,hc,hm,hr⟩:=h
 refine⟨a,cap,hv,hc,hm,fun i f hi=>?_⟩
 obtain⟨b,off,ha,c0,c1,c2⟩:=hr i f hi
 exact⟨b,off,ha,Dg.cell_later hb c0,Dg.cell_later hb c1,Dg.cell_later hb c2⟩
theorem OK.rk {B:Nat}{w:World}{v:Value}{l:List (Nat × Bool × Int)}(h:OK B w v l):RK w v l:=by
 have hl:=h;unfold OK at h hl
 rcases h.2 with ⟨rfl,h0⟩ | ⟨g,cap,cur,rfl,_,_,q1,q2,_⟩
 ·have h1:l=[]:=List.eq_nil_of_length_eq_zero h0;subst h1;exact⟨none,0,rfl,by simp,by unfold maxLen;omega,by simp⟩
 ·refine⟨_,cap,rfl,q1,q2,fun i f hf=>⟨g,0,rfl,?_⟩⟩
  have hi:i < l.length:=(List.getElem?_eq_some_iff.1 hf).1;have cell:∀j,j < 3→w.cell? ⟨g,0+i * 3+j,none⟩=(keyC f)[j]? :=fun j hj=>by
   have:=hl.cellAt (i * 3+j) (by omega);rw[←rowsK_get l i f hf j hj,←this,Nat.zero_add]
  exact⟨cell 0 (by omega),cell 1 (by omega),cell 2 (by omega)⟩
theorem opG_snoc:∀(l:List Fa) (s:Nat) (f:Fa),opG s (l ++ [f])=opG s l ++opF (s+l.length) f
 | [],s,f=>by simp[opG]
 | a :: l,s,f=>by
  rw[List.cons_append,opG,opG,opG_snoc l (s+1) f,List.append_assoc,List.length_cons,show s+1+l.length=s+ (l.length+1) by omega]
theorem opF_few (i:Nat)(f:Fa):(opF i f).length≤2:=by unfold opF;split <;> split <;> simp
theorem opG_few:∀(l:List Fa) (s:Nat),(opG s l).length≤2 * l.length
 | [],s=>by simp[opG]
 | a :: l,s=>by
  have h1:=opF_few s a;have h2:=opG_few l (s+1);rw[opG,List.length_append,List.length_cons]
  omega
theorem opF_code {f:Fa}(hf:okF f)(i:Nat):(f=begunF∧¬f=tryingF f.slips∧opF i f=[(i,false,0)])∨(¬f=begunF∧f=tryingF f.slips∧0≤f.slips∧f.slips≤3∧opF i f=[(i,true,f.slips)])∨(¬f=begunF∧¬f=tryingF f.slips∧opF i f=[]):=by
 obtain⟨r,tr,sl,un⟩:=f
 obtain⟨a1,a2,a3,a4,a5,a6,a7⟩:=hf
 simp only[begunF,tryingF,Fa.mk.injEq] at *;unfold opF;simp only
 by_cases h1:r=1
 ·left
  have ht:tr=0:=by omega
  have hs:sl=0:=by omega
  have hu:un=false:=by cases un;rfl;have:=a7 rfl;omega
  subst h1 ht hs hu;simp
 ·by_cases h2:tr > sl∧un=false
  ·right;left
   have ht:tr=sl+1:=by omega
   have hr:r=2:=by omega
   obtain⟨_,hu⟩:=h2
   subst ht hr hu;refine⟨by simp,by simp,a3,a4,?_⟩
   rw[if_neg (by decide),if_pos ⟨by omega,rfl⟩]
   rfl
  ·right;right
   refine⟨fun h=>h1 h.1,fun h=>h2 ⟨by omega,h.2.2.2⟩,?_⟩
   rw[if_neg h1,if_neg h2]
   rfl
structure OpR (w:World)(kv:Value)(K:List (Nat × Bool × Int))(f:Fa)(n:Nat)(W:World):Prop where
 bel:Below w.heap.size w W
 own:OK w.heap.size W kv K
 row:W.heap[n]? =some (.cells f.cells.toArray 55 (0,0))
 ne:kv.ownBlock≠some n
theorem OpR.later {w:World}{kv:Value}{K:List (Nat × Bool × Int)}{f:Fa}{n:Nat}{W W':World}(h:OpR w kv K f n W)(hb:Below W.heap.size W W'):OpR w kv K f n W':=
 ⟨h.bel.trans (hb.mono h.bel.size),h.own.later hb,(hb.block _ (Array.getElem?_eq_some_iff.1 h.row).1).trans h.row,h.ne⟩
theorem OpR.push {w:World}{kv:Value}{K:List (Nat × Bool × Int)}{f:Fa}{n:Nat}{W:World}(h:OpR w kv K f n W)(hK:K.length≤1000000000)(x:Nat × Bool × Int) :
  ∃a m c W',(Builtin.append_ #[36,36] 36 #[kv,.slice (some ⟨W.heap.size,0,none⟩) 1 1]).run Tryz.prog (W.alloc (.cells #[.int .i64 (x.1:Int),.bool x.2.1,.int .i64 x.2.2] 47))= .ok (.slice a m c) W'∧OpR w (.slice a m c) (K ++ [x]) f n W':=by
 obtain⟨i0,hi0,hz0,hz1,hz2⟩:=info_parts info45
 have h1:=h.later (bl1 W (.cells #[.int .i64 (x.1:Int),.bool x.2.1,.int .i64 x.2.2] 47));obtain⟨v',W',r1,r2,r3,r4,r5⟩:=run_append_own_at (P:=Tryz.prog) (W.alloc (.cells #[.int .i64 (x.1:Int),.bool x.2.1,.int .i64 x.2.2] 47)) w.heap.size 36 36 47 i0 _ 3 24 Tryz.underlying36 hi0 hz0 hz1 hz2 rfl (by decide) kv K.length (rowsK K) h1.own ⟨W.heap.size,0,none⟩ 1 1 (keyC x) rfl
  (by
   intro j u hj;have hr:=Dg.row_new W #[.int .i64 (x.1:Int),.bool x.2.1,.int .i64 x.2.2] 47;have h7:(⟨W.heap.size,0,none⟩:Addr).add j=⟨W.heap.size,j,none⟩:=by unfold Addr.add;split <;> simp_all
   rw[h7,Dg.cell_row hr j,←hj]
   show (keyC x).toArray[j]? =_;simp)
  (by intro u hu;simp only[keyC,List.mem_cons,List.not_mem_nil,or_false] at hu;rcases hu with rfl | rfl | rfl <;> rfl) (by unfold maxLen;omega) (by omega) h1.bel.size
 have hown:OK w.heap.size W' v' (K ++ [x]):=by
  unfold OK;rw[rowsK_snoc,List.length_append]
  exact r2
 obtain⟨a,c,rfl⟩:=hown.slice
 have hlt:=(Array.getElem?_eq_some_iff.1 h.row).1;refine⟨a,_,c,W',r1,⟨Below.grown h1.bel r3 h1.bel.size (fun k hk=>(World.ownsRow.lt h1.own k hk).1),hown,?_,?_⟩⟩
 ·rw[r3.block n (by simp;omega) (fun e=>h.ne e.symm)]
  exact h1.row
 ·intro e
  rcases r5 with r5 | r5
  ·rw[e] at r5;exact h.ne r5.symm
  ·rw[e] at r5
   have:=Option.some.inj r5;simp at this;omega
open Classical in
noncomputable def openP (its:List It)(l:List Fa):List (Nat × Bool × Int):=if chkF its l=0 then opG 0 l else []
def OpnC (K:List (Nat × Bool × Int))(w:World)(x:Ending)(w':World):Prop:=Below w.heap.size w w'∧∃u,x= .returned u∧OK w.heap.size w' u K
theorem open_any (its:List It)(v lv:Value)(l:List Fa)(w:World)(hIt:RdIt w v its)(hF:FairI its)(hT:Dg.Tab w)(hl:RF w lv l)(hil:its.length≤1000000)(hll:l.length≤1000000) :
  Calls Tryz.prog 10 #[.agg #[v],lv] w fun x w'=>OpnC (openP its l) w x w':=by
 have hc0:ChS w v (w.alloc (.cells #[v] 28)):=⟨bl1 _ _,Dg.row_new w _ 28⟩;have MC0:=checkF_any its v lv l _ (hIt.later hc0.bel) hF (hT.later hc0.bel) (hl.later hc0.bel) (by omega) (by omega);obtain⟨ia,icap,rfl,_,_⟩:=hIt
 obtain⟨la,lcap,rfl,hlc,_,hlr⟩:=hl
 have HLR:Hid _:=hlr;have HC0:Hid (ChS w (.slice ia its.length icap) _):=hc0;obtain⟨c,HC⟩:∃c,Hid (chkF its l=c):=⟨_,rfl⟩
 obtain⟨m,HM⟩:∃m,Hid (l.length=m):=⟨_,rfl⟩
 rw[HC.out,HM.out] at MC0
 have MC:Hid (Calls Tryz.prog 29 #[.agg #[.slice ia its.length icap],.slice la m lcap] _ fun e w'=>e= .returned (.int .i64 c)∧Below _ _ w'):=MC0;rw[HM.out] at hll hlc ⊢
 clear hc0 MC0 hlr
 go_enter Tryz.func10,Tryz.ntmps10
 go_wp2_with fail
 generalize w.alloc (.cells #[.slice ia its.length icap] 28)=w0 at *;refine Calls.mono MC.out ?_;rintro x w1 ⟨rfl,hb1⟩;have HC1:Hid _:=HC0.out.later hb1;clear MC HC0 hb1
 by_cases hc:c=0
 rotate_left
 ·have HP:Hid (openP its l=[]):=by
   show _=_;unfold openP;rw[if_neg (by rw[HC.out];exact hc)]
  have hc2:(c !=0)=true:=by simpa using hc
  clear hc HC
  go_wp2_with fail
  go_ret
  rw[HP.out]
  exact⟨HC1.out.bel,_,rfl,World.ownsRow_nil _ _ _ _⟩
 subst hc;have HOK:Hid _:=(chkF_iff.1 HC.out).2;have HP:Hid (openP its l=opG 0 l):=by
  show _=_;unfold openP;rw[if_pos HC.out]
 clear HC;have HB1:Hid (Below w.heap.size w w1):=HC1.out.bel;clear HC1
 go_wp2_with fail
 go_loopw [14,5] (fun iv kv wr=>∃(k:Nat) (ka:Option Addr) (km kc:Nat),k≤m∧iv= .int .i64 k∧kv= .slice ka km kc∧Hid (Below w.heap.size w wr)∧Hid (OK w.heap.size wr (.slice ka km kc) (opG 0 (l.take k)))) (fun iv _ _=>m - (intOf iv).toNat)
 case atStart=>exact⟨0,none,0,0,Nat.zero_le _,rfl,rfl,HB1,World.ownsRow_nil _ _ _ _⟩
 case round=>
  obtain⟨k,ka,km,kc,hk,rfl,rfl,HB,HO⟩:=hrel
  rename World=>wr
  by_cases hlt:k < m
  rotate_left
  ·have HT:Hid (l.take k=l):=List.take_of_length_le (by rw[HM.out];omega);clear HB1
   go_wp2_with fail
   go_ret
   refine⟨HB.out,_,rfl,?_⟩
   rw[HP.out]
   have h:=HO.out;rw[HT.out] at h
   exact h
  obtain⟨f,hf⟩:∃f,l[k]? =some f:=⟨_,List.getElem?_eq_getElem (by rw[HM.out];exact hlt)⟩
  have HTK:Hid (opG 0 (l.take (k+1))=opG 0 (l.take k) ++opF k f):=by
   show _=_;rw[List.take_add_one,hf]
   show opG 0 (l.take k ++ [f])=_;rw[opG_snoc,List.length_take,HM.out,Nat.zero_add,Nat.min_eq_left (by omega)]
  have hokf:okF f:=by
   have:=(HOK.out.2 k (by rw[HM.out];exact hlt)).1;rw[List.getD_eq_getElem?_getD,hf] at this
   exact this
  have HCD:Hid _:=opF_code hokf k;have HSL:Hid (0≤f.slips∧f.slips≤3):=⟨hokf.2.2.1,hokf.2.2.2.1⟩;have HKL:Hid ((opG 0 (l.take k)).length≤1000000000):=by
   have h1:=opG_few (l.take k) 0;rw[List.length_take,HM.out] at h1
   show _≤_;omega
  obtain⟨fb,fo,rfl,f0,f1,f2,f3⟩:=HLR.out k f hf
  have g0:=Dg.cell_later HB.out f0;have g1:=Dg.cell_later HB.out f1;have g2:=Dg.cell_later HB.out f2;have g3:=Dg.cell_later HB.out f3;have hii:(k:Int) < (m:Int):=by omega
  clear f0 f1 f2 f3 hf hokf
  go_wp2_with fail
  have hne:(Value.slice ka km kc).ownBlock≠some wr.heap.size:=fun e=>by have:=(World.ownsRow.lt HO.out _ e).2;omega
  have hS:OpR w (.slice ka km kc) (opG 0 (l.take k)) f wr.heap.size (wr.alloc (.cells f.cells.toArray 55)):=⟨HB.out.trans ((bl1 _ _).mono HB.out.size),HO.out.later (bl1 _ _),Dg.row_new wr f.cells.toArray 55,hne⟩;have hS0:OpR w (.slice ka km kc) (opG 0 (l.take k)) f wr.heap.size (wr.alloc (.cells f.cells.toArray 55)).drew:=hS.later (Below.refl _ _).drew;change Code.wp _ _ _ _ (wr.alloc (.cells f.cells.toArray 55));generalize wr.alloc (.cells f.cells.toArray 55)=wa at *;generalize wr.heap.size=n9 at *;have HF:Hid (FaV f= .agg #[.int .i64 f.run,.int .i64 f.tries,.int .i64 f.slips,.bool f.un]):=rfl;clear g0 g1 g2 g3 HB HO hne hS;generalize opG 0 (l.take k)=K at *
  rcases HCD.out with ⟨b1,b2,b3⟩ | ⟨b1,b2,bl,bu,b3⟩ | ⟨b1,b2,b3⟩
  ·have HQ1:Hid (decide (f=begunF)=true):=decide_eq_true b1;have HQ2:Hid (decide (f=tryingF f.slips)=false):=decide_eq_false b2;have HB3:Hid _:=b3;clear b1 b2 b3 HCD;refine region_thenF [(19,FaV f),(20,FaV begunF),(21,.bool true)] (fun w'=>OpR w (.slice ka km kc) K f n9 w') ?_ ?_
   ·refine wp_region_held (S:=fun w'=>OpR w (.slice ka km kc) K f n9 w') (by kernel_rfl) ?_;simp only[List.size_toArray,List.length_cons,List.length_nil,Nat.reduceAdd,Array.replicate_succ,Array.replicate_zero,List.push_toArray,List.nil_append,List.cons_append];refine tV 0 19 (FaV f) 2 rfl hS0 ?_ (fun wx h=>by rw[HF.out];obtain⟨y0,y1,y2,y3⟩:=row_cells h.row;go_simp);refine oneC (i:=1) (d:=20) (f:=30) (args:= #[]) (v:=FaV begunF) (fuel:=1) rfl rfl (by kernel_rfl) (by kernel_rfl) (fun _=>by kernel_rfl) hS0 (fun wx h=>Calls.mono (begun_any wx) (by rintro e w2 ⟨rfl,hb⟩;exact⟨rfl,h.later hb⟩)) (fun wz hS101=>?_);simp only[List.setIfInBounds_toArray,List.set_cons_succ,List.set_cons_zero];refine tV 2 21 (.bool true) 0 rfl hS101 ?_ (fun wx h=>eq_exec f begunF (x:= .tmp 19) (y:= .tmp 20) rfl rfl rfl HQ1.out);refine wpAnyH_done (by kernel_rfl) ?_ _;exact⟨rfl,by kernel_rfl,hS101⟩
   ·intro w9 hF;simp only[setAll,List.setIfInBounds_toArray,List.set_cons_succ,List.set_cons_zero];have HF7:Hid _:=hF;obtain⟨ka',km',kc',wp,hrun,hp⟩:=hF.push HKL.out (k,false,0)
    have hS0:OpR w (.slice ka' km' kc') (K ++ [(k,false,0)]) f n9 wp.drew:=hp.later (Below.refl _ _).drew;have HRU:Hid _:=hrun;clear hF hrun hp HF7
    go_wp2_with (at_builtin;refine Lib.wpList_append_run _ rfl _ _ _ _ rfl _ _ rfl rfl _ _ HRU.out ?_)
    refine region_thenF [(27,FaV f),(28,.pointer (some ⟨n9,2,none⟩)),(29,.int .i64 f.slips),(30,FaV (tryingF f.slips)),(31,.bool false)] (fun w'=>OpR w (.slice ka' km' kc') (K ++ [(k,false,0)]) f n9 w') ?_ ?_
    ·refine wp_region_held (S:=fun w'=>OpR w (.slice ka' km' kc') (K ++ [(k,false,0)]) f n9 w') (by kernel_rfl) ?_;simp only[List.size_toArray,List.length_cons,List.length_nil,Nat.reduceAdd,Array.replicate_succ,Array.replicate_zero,List.push_toArray,List.nil_append,List.cons_append];refine tV 0 27 (FaV f) 4 rfl hS0 ?_ (fun wx h=>by rw[HF.out];obtain⟨y0,y1,y2,y3⟩:=row_cells h.row;go_simp);refine tG 1 28 (.pointer (some ⟨n9,2,none⟩)) 3 rfl hS0 ?_;refine tV 2 29 (.int .i64 f.slips) 2 rfl hS0 ?_ (fun wx h=>by obtain⟨y0,y1,y2,y3⟩:=row_cells h.row;go_simp);refine oneC (i:=3) (d:=30) (f:=31) (args:= #[.int .i64 f.slips]) (v:=FaV (tryingF f.slips)) (fuel:=1) rfl rfl (by kernel_rfl) (by kernel_rfl) (fun _=>by kernel_rfl) hS0 (fun wx h=>Calls.mono (trying_any f.slips wx (HSL.out.1) (HSL.out.2)) (by rintro e w2 ⟨rfl,hb⟩;exact⟨rfl,h.later hb⟩)) (fun wz hS103=>?_);simp only[List.setIfInBounds_toArray,List.set_cons_succ,List.set_cons_zero];refine tV 4 31 (.bool false) 0 rfl hS103 ?_ (fun wx h=>eq_exec f (tryingF f.slips) (x:= .tmp 27) (y:= .tmp 30) rfl rfl rfl HQ2.out);refine wpAnyH_done (by kernel_rfl) ?_ _;exact⟨rfl,by kernel_rfl,hS103⟩
    ·intro w9 hF;simp only[setAll,List.setIfInBounds_toArray,List.set_cons_succ,List.set_cons_zero];have HF9:Hid _:=hF;clear hF
     go_wp2_with fail
     go_roundw
     case rel=>exact⟨k+1,ka',km',kc',by omega,by go_num,rfl,HF9.out.bel,by rw[HTK.out,HB3.out];exact HF9.out.own⟩
     case measure=>simp[intOf];omega
  ·have HQ1:Hid (decide (f=begunF)=false):=decide_eq_false b1;have HQ2:Hid (decide (f=tryingF f.slips)=true):=decide_eq_true b2;have HB3:Hid _:=b3;clear b1 b2 b3 HCD;refine region_thenF [(19,FaV f),(20,FaV begunF),(21,.bool false)] (fun w'=>OpR w (.slice ka km kc) K f n9 w') ?_ ?_
   ·refine wp_region_held (S:=fun w'=>OpR w (.slice ka km kc) K f n9 w') (by kernel_rfl) ?_;simp only[List.size_toArray,List.length_cons,List.length_nil,Nat.reduceAdd,Array.replicate_succ,Array.replicate_zero,List.push_toArray,List.nil_append,List.cons_append];refine tV 0 19 (FaV f) 2 rfl hS0 ?_ (fun wx h=>by rw[HF.out];obtain⟨y0,y1,y2,y3⟩:=row_cells h.row;go_simp);refine oneC (i:=1) (d:=20) (f:=30) (args:= #[]) (v:=FaV begunF) (fuel:=1) rfl rfl (by kernel_rfl) (by kernel_rfl) (fun _=>by kernel_rfl) hS0 (fun wx h=>Calls.mono (begun_any wx) (by rintro e w2 ⟨rfl,hb⟩;exact⟨rfl,h.later hb⟩)) (fun wz hS101=>?_);simp only[List.setIfInBounds_toArray,List.set_cons_succ,List.set_cons_zero];refine tV 2 21 (.bool false) 0 rfl hS101 ?_ (fun wx h=>eq_exec f begunF (x:= .tmp 19) (y:= .tmp 20) rfl rfl rfl HQ1.out);refine wpAnyH_done (by kernel_rfl) ?_ _;exact⟨rfl,by kernel_rfl,hS101⟩
   ·intro w9 hF;simp only[setAll,List.setIfInBounds_toArray,List.set_cons_succ,List.set_cons_zero];have hS0:=hF;have HF7:Hid _:=hF;clear hF
    go_wp2_with fail
    have hS0:OpR w (.slice ka km kc) K f n9 w9.drew:=HF7.out.later (Below.refl _ _).drew;refine region_thenF [(27,FaV f),(28,.pointer (some ⟨n9,2,none⟩)),(29,.int .i64 f.slips),(30,FaV (tryingF f.slips)),(31,.bool true)] (fun w'=>OpR w (.slice ka km kc) (K) f n9 w') ?_ ?_
    ·refine wp_region_held (S:=fun w'=>OpR w (.slice ka km kc) (K) f n9 w') (by kernel_rfl) ?_;simp only[List.size_toArray,List.length_cons,List.length_nil,Nat.reduceAdd,Array.replicate_succ,Array.replicate_zero,List.push_toArray,List.nil_append,List.cons_append];refine tV 0 27 (FaV f) 4 rfl hS0 ?_ (fun wx h=>by rw[HF.out];obtain⟨y0,y1,y2,y3⟩:=row_cells h.row;go_simp);refine tG 1 28 (.pointer (some ⟨n9,2,none⟩)) 3 rfl hS0 ?_;refine tV 2 29 (.int .i64 f.slips) 2 rfl hS0 ?_ (fun wx h=>by obtain⟨y0,y1,y2,y3⟩:=row_cells h.row;go_simp);refine oneC (i:=3) (d:=30) (f:=31) (args:= #[.int .i64 f.slips]) (v:=FaV (tryingF f.slips)) (fuel:=1) rfl rfl (by kernel_rfl) (by kernel_rfl) (fun _=>by kernel_rfl) hS0 (fun wx h=>Calls.mono (trying_any f.slips wx bl bu) (by rintro e w2 ⟨rfl,hb⟩;exact⟨rfl,h.later hb⟩)) (fun wz hS103=>?_);simp only[List.setIfInBounds_toArray,List.set_cons_succ,List.set_cons_zero];refine tV 4 31 (.bool true) 0 rfl hS103 ?_ (fun wx h=>eq_exec f (tryingF f.slips) (x:= .tmp 27) (y:= .tmp 30) rfl rfl rfl HQ2.out);refine wpAnyH_done (by kernel_rfl) ?_ _;exact⟨rfl,by kernel_rfl,hS103⟩
    ·intro w9 hF;simp only[setAll,List.setIfInBounds_toArray,List.set_cons_succ,List.set_cons_zero];obtain⟨y0,y1,y2,y3⟩:=row_cells hF.row
     obtain⟨ka',km',kc',wp,hrun,hp⟩:=hF.push HKL.out (k,true,f.slips)
     have HRU:Hid _:=hrun;have HF9:Hid _:=hp;clear hF hrun hp HF7
     go_wp2_with (at_builtin;refine Lib.wpList_append_run _ rfl _ _ _ _ rfl _ _ rfl rfl _ _ HRU.out ?_)
     go_roundw
     case rel=>exact⟨k+1,ka',km',kc',by omega,by go_num,rfl,HF9.out.bel,by rw[HTK.out,HB3.out];exact HF9.out.own⟩
     case measure=>simp[intOf];omega
  ·have HQ1:Hid (decide (f=begunF)=false):=decide_eq_false b1;have HQ2:Hid (decide (f=tryingF f.slips)=false):=decide_eq_false b2;have HB3:Hid _:=b3;clear b1 b2 b3 HCD;refine region_thenF [(19,FaV f),(20,FaV begunF),(21,.bool false)] (fun w'=>OpR w (.slice ka km kc) K f n9 w') ?_ ?_
   ·refine wp_region_held (S:=fun w'=>OpR w (.slice ka km kc) K f n9 w') (by kernel_rfl) ?_;simp only[List.size_toArray,List.length_cons,List.length_nil,Nat.reduceAdd,Array.replicate_succ,Array.replicate_zero,List.push_toArray,List.nil_append,List.cons_append];refine tV 0 19 (FaV f) 2 rfl hS0 ?_ (fun wx h=>by rw[HF.out];obtain⟨y0,y1,y2,y3⟩:=row_cells h.row;go_simp);refine oneC (i:=1) (d:=20) (f:=30) (args:= #[]) (v:=FaV begunF) (fuel:=1) rfl rfl (by kernel_rfl) (by kernel_rfl) (fun _=>by kernel_rfl) hS0 (fun wx h=>Calls.mono (begun_any wx) (by rintro e w2 ⟨rfl,hb⟩;exact⟨rfl,h.later hb⟩)) (fun wz hS101=>?_);simp only[List.setIfInBounds_toArray,List.set_cons_succ,List.set_cons_zero];refine tV 2 21 (.bool false) 0 rfl hS101 ?_ (fun wx h=>eq_exec f begunF (x:= .tmp 19) (y:= .tmp 20) rfl rfl rfl HQ1.out);refine wpAnyH_done (by kernel_rfl) ?_ _;exact⟨rfl,by kernel_rfl,hS101⟩
   ·intro w9 hF;simp only[setAll,List.setIfInBounds_toArray,List.set_cons_succ,List.set_cons_zero];have HF7:Hid _:=hF;clear hF
    go_wp2_with fail
    have hS0:OpR w (.slice ka km kc) K f n9 w9.drew:=HF7.out.later (Below.refl _ _).drew;refine region_thenF [(27,FaV f),(28,.pointer (some ⟨n9,2,none⟩)),(29,.int .i64 f.slips),(30,FaV (tryingF f.slips)),(31,.bool false)] (fun w'=>OpR w (.slice ka km kc) (K) f n9 w') ?_ ?_
    ·refine wp_region_held (S:=fun w'=>OpR w (.slice ka km kc) (K) f n9 w') (by kernel_rfl) ?_;simp only[List.size_toArray,List.length_cons,List.length_nil,Nat.reduceAdd,Array.replicate_succ,Array.replicate_zero,List.push_toArray,List.nil_append,List.cons_append];refine tV 0 27 (FaV f) 4 rfl hS0 ?_ (fun wx h=>by rw[HF.out];obtain⟨y0,y1,y2,y3⟩:=row_cells h.row;go_simp);refine tG 1 28 (.pointer (some ⟨n9,2,none⟩)) 3 rfl hS0 ?_;refine tV 2 29 (.int .i64 f.slips) 2 rfl hS0 ?_ (fun wx h=>by obtain⟨y0,y1,y2,y3⟩:=row_cells h.row;go_simp);refine oneC (i:=3) (d:=30) (f:=31) (args:= #[.int .i64 f.slips]) (v:=FaV (tryingF f.slips)) (fuel:=1) rfl rfl (by kernel_rfl) (by kernel_rfl) (fun _=>by kernel_rfl) hS0 (fun wx h=>Calls.mono (trying_any f.slips wx (HSL.out.1) (HSL.out.2)) (by rintro e w2 ⟨rfl,hb⟩;exact⟨rfl,h.later hb⟩)) (fun wz hS103=>?_);simp only[List.setIfInBounds_toArray,List.set_cons_succ,List.set_cons_zero];refine tV 4 31 (.bool false) 0 rfl hS103 ?_ (fun wx h=>eq_exec f (tryingF f.slips) (x:= .tmp 27) (y:= .tmp 30) rfl rfl rfl HQ2.out);refine wpAnyH_done (by kernel_rfl) ?_ _;exact⟨rfl,by kernel_rfl,hS103⟩
    ·intro w9 hF;simp only[setAll,List.setIfInBounds_toArray,List.set_cons_succ,List.set_cons_zero];have HF9:Hid _:=hF;clear hF
     go_wp2_with fail
     go_roundw
     case rel=>exact⟨k+1,ka,km,kc,by omega,by go_num,rfl,HF9.out.bel,by rw[HTK.out,HB3.out,List.append_nil];exact HF9.out.own⟩
     case measure=>simp[intOf];omega
end Go.Proofs.YtieoppabellafaaGreatDoor.Fc
namespace Go.Proofs.YtieoppabellafaaGreatDoor.St
open Fc Sx Sa
variable {its:List It}{l:List Fa}
theorem sagaS_two {x:IW}{h:Bool} :sagaS x h=2↔x.touched=true∧x.done=true:=by
 unfold sagaS
 by_cases ht:x.touched=false
 ·rw[if_pos ht]
  exact⟨fun h=>absurd h (by decide),fun h9=>by rw[ht] at h9;exact absurd h9.1 (by decide)⟩
 ·rw[if_neg ht]
  have ht':x.touched=true:=by simpa using ht
  by_cases hd:x.done=true
  ·rw[if_pos hd]
   exact⟨fun _=>⟨ht',hd⟩,fun _=>rfl⟩
  ·rw[if_neg hd]
   refine⟨fun h9=>?_,fun h9=>absurd h9.2 hd⟩
   split at h9
   ·exact absurd h9 (by decide)
   ·split at h9
    ·exact absurd h9 (by decide)
    ·split at h9 <;> exact absurd h9 (by decide)
theorem sagaS_three {x:IW}{h:Bool} :sagaS x h=3↔x.touched=true∧¬x.done=true∧x.spent=true:=by
 unfold sagaS
 by_cases ht:x.touched=false
 ·rw[if_pos ht]
  exact⟨fun h=>absurd h (by decide),fun h9=>by rw[ht] at h9;exact absurd h9.1 (by decide)⟩
 ·rw[if_neg ht]
  have ht':x.touched=true:=by simpa using ht
  by_cases hd:x.done=true
  ·rw[if_pos hd]
   exact⟨fun h=>absurd h (by decide),fun h9=>absurd hd h9.2.1⟩
  ·rw[if_neg hd]
   by_cases hs:x.spent=true
   ·rw[if_pos hs]
    exact⟨fun _=>⟨ht',hd,hs⟩,fun _=>rfl⟩
   ·rw[if_neg hs]
    refine⟨fun h9=>?_,fun h9=>absurd h9.2.2 hs⟩
    split at h9
    ·exact absurd h9 (by decide)
    ·split at h9 <;> exact absurd h9 (by decide)
theorem sp_dn {p:Pl}{f:Nat→Fa}{s:Nat}(hs:s < p.n)(hsub:p.sub s=true)(h:Sp p f s):¬Dn p f s:=fun hd=>((dn_saga hs hsub).1 hd).1 h
theorem dn_S (hc:chkF its l=0){i:Nat}(hi:i < its.length):Dn (plOf its) (fOf l) i↔St.S (plOf its) (fOf l) i=2:=by
 have hp:=lg_of hc;have hr:=rt_of hc;unfold St.S;cases hs:(plOf its).sub i with
 | true=>
  rw[if_pos rfl,sagaS_two]
  exact⟨fun h=>⟨over_touched hp hr _ i (Nat.le_refl _) hi (.inl h),h⟩,fun h=>h.2⟩
 | false=>
  rw[if_neg (by decide),dn_step hi hs]
  obtain⟨a1,a2,a3,a4,a5,a6,a7⟩:=hr.ok i hi
  unfold stepS
  constructor
  ·rintro⟨h1,h2⟩
   rw[if_neg (by omega),if_neg (by omega),if_neg (by omega),if_pos h2]
  ·intro h
   split at h
   ·exact absurd h (by decide)
   ·split at h
    ·exact absurd h (by decide)
    ·split at h
     ·exact absurd h (by decide)
     ·split at h
      ·exact⟨by omega,by assumption⟩
      ·split at h <;> exact absurd h (by decide)
theorem sp_S (hc:chkF its l=0){i:Nat}(hi:i < its.length)(hs:(plOf its).sub i=true):Sp (plOf its) (fOf l) i↔St.S (plOf its) (fOf l) i=3:=by
 have hp:=lg_of hc;have hr:=rt_of hc;unfold St.S;rw[if_pos hs,sagaS_three]
 exact⟨fun h=>⟨over_touched hp hr _ i (Nat.le_refl _) hi (.inr h),sp_dn hi hs h,h⟩,fun h=>h.2.2⟩
theorem ps_S (hc:chkF its l=0){i:Nat}(hi:i < its.length):Ps (plOf its) (fOf l) i↔St.S (plOf its) (fOf l) i=2∨((plOf its).sub i=true∧(plOf its).vital i=false∧St.S (plOf its) (fOf l) i=3):=by
 unfold Ps;rw[dn_S hc hi]
 constructor
 ·rintro (h | ⟨h1,h2,h3⟩)
  ·exact .inl h
  ·exact .inr ⟨h1,h2,(sp_S hc hi h1).1 h3⟩
 ·rintro (h | ⟨h1,h2,h3⟩)
  ·exact .inl h
  ·exact .inr ⟨h1,h2,(sp_S hc hi h1).2 h3⟩
theorem ff_S (hc:chkF its l=0){s a:Nat}(hs:s < its.length)(ha:a < (plOf its).alts s)(ha4:a < 4):FF (plOf its) (fOf l) s a↔falS its l (s:Int) (a:Int)=true:=by
 unfold falS Mf FF Fl Ha;rw[if_pos hc,decide_eq_true ⟨by omega,by omega⟩,decide_eq_true ⟨by omega,by omega⟩,Int.toNat_natCast,Int.toNat_natCast,decide_eq_true ⟨hs,ha⟩,Bool.true_and,Bool.true_and,Bool.true_and,Bool.or_eq_true]
 exact or_comm
theorem at_S (hc:chkF its l=0){s:Nat}(hs:s < its.length)(hsub:(plOf its).sub s=true):atS its l (s:Int)=(At (plOf its) (fOf l) s:Int):=by
 unfold atS atP At;rw[if_pos hc,if_pos ⟨by omega,by omega⟩,Int.toNat_natCast,if_pos hsub]
theorem cl_S (hc:chkF its l=0){k:Nat}(hk:k < its.length):Cl (plOf its) (fOf l) k↔cleS its l (k:Int)=true:=by
 unfold cleS Cl;rw[if_pos hc,decide_eq_true ⟨by omega,by omega⟩,Int.toNat_natCast,Bool.true_and]
theorem rn_zero {p:Pl}{af:Nat→List Nat}{f:Nat→Fa} :Rn p af f 0↔¬Dn p f 0∧¬Sp p f 0:=by
 constructor
 ·intro h;cases h with
  | root h1 h2=>exact⟨h1,h2⟩
  | sub h1 _ _ _ _ _ _ _ _=>omega
 ·rintro⟨h1,h2⟩
  exact .root h1 h2
theorem rn_eq {p:Pl}{af:Nat→List Nat}{f:Nat→Fa}{s:Nat}(h1:1≤s)(h2:s < p.n)(h3:p.sub s=true):Rn p af f s↔(¬Dn p f s∧¬Sp p f s)∧Rc p af f s:=by
 constructor
 ·intro h;cases h with
  | root _ _=>omega
  | sub _ _ _ h4 h5 h6 h7 h8 h9=>exact⟨⟨h4,h5⟩,h6,h7,h8,h9⟩
 ·rintro⟨⟨h4,h5⟩,h6,h7,h8,h9⟩
  exact .sub h1 h2 h3 h4 h5 h6 h7 h8 h9
theorem rn_ver (hc:chkF its l=0):Rn (plOf its) (afOf its) (fOf l) 0↔verS its l=1:=by
 rw[rn_zero,ver_eq hc]
 by_cases hd:Dn (plOf its) (fOf l) 0
 ·rw[if_pos hd]
  exact⟨fun h=>absurd hd h.1,fun h=>absurd h (by decide)⟩
 ·rw[if_neg hd]
  by_cases hs:Sp (plOf its) (fOf l) 0
  ·rw[if_pos hs]
   exact⟨fun h=>absurd hs h.2,fun h=>absurd h (by decide)⟩
  ·rw[if_neg hs]
   exact⟨fun _=>rfl,fun _=>⟨hd,hs⟩⟩
end Go.Proofs.YtieoppabellafaaGreatDoor.St
