/- Texts of the seat, packed: Zl Zm Zn Zo Zp. -/
import Derived.Test.YtieoppabellafaaGreatDoorH01
import Derived.Test.YtieoppabellafaaGreatDoorH03
import Derived.Test.YtieoppabellafaaGreatDoorH07
set_option maxRecDepth 1000000
set_option maxHeartbeats 64000000
set_option linter.unusedVariables false
namespace Go.Proofs.YtieoppabellafaaGreatDoor
open Go.RowKit Go.Shelf Sx
set_option linter.unusedSimpArgs false
theorem RdZ.of_own {w:World}{B:Nat}{v:Value}{l:List Nat}(h:w.ownsRow B 3 1 v l.length (Dg.ivs l)):RdZ w v (l.map fun (x:Nat)=>(x:Int)):=by
 obtain⟨a,cap,rfl,hc,hr⟩:=Dg.RdI.of_own h
 refine⟨a,cap,by simp,by simpa using hc,fun i x hi=>?_⟩
 rw[zC,Option.map_eq_some_iff] at hi
 obtain⟨y,hy,rfl⟩:=hi
 obtain⟨b,off,ha,c0⟩:=hr i y hy
 exact⟨b,off,ha,c0⟩
theorem own_below {w w':World}{B:Nat}{e:TypeId}{size:Nat}{v:Value}{n:Nat}{xs:List Value}(h:w.ownsRow B e size v n xs)(hbel:Below w.heap.size w w'):w'.ownsRow B e size v n xs:=by
 obtain⟨h1,h2⟩:=h
 refine⟨h1,?_⟩
 rcases h2 with h3 | ⟨g,cap,cur,h4,h5,h6,h7⟩
 ·exact .inl h3
 ·exact .inr ⟨g,cap,cur,h4,h5,(hbel.block g (jD.1 h6).1).trans h6,h7⟩
theorem takeD {P:Program}{ops:Array Oper}{Q:Exit→Act→World→Prop}{md:Region.Mode}{S:World→Prop}{i:Nat}{oi:Oper}{d:Tmp}{v:Value}{fuel:Nat}{listed:Array Bool}{a:Act}{w:World}(hi:ops[i]? =some oi)(hd:oi.dst=some d)
  (hs:Region.noSelect ops=true) (hf:Region.free md ops listed i=true) (hr:(Region.ready md ops listed).contains i=true)
  (hQ:∀c a w,Q (.panic c) {tmps:=a.tmps.setIfInBounds d v,defers:=a.defers} w→Q (.panic c) a w) (hy:YieldsIf P ops S oi v a) (hS:S w)
  (h:wpAnyH P md ops Q S fuel (listed.setIfInBounds i true) {tmps:=a.tmps.setIfInBounds d v,defers:=a.defers} w):wpAnyH P md ops Q S (fuel+1) listed a w:=by
 have hp:∀a:Act,a.put oi.dst v= {tmps:=a.tmps.setIfInBounds d v,defers:=a.defers} :=fun a=>by rw[hd];rfl
 refine wpAnyH_take hi hs hf hr (fun c a w h=>hQ c a w (by rw[hp] at h;exact h)) hy hS ?_;rw[hp]
 exact h
theorem tV {P:Program}{ops:Array Oper}{Q:Exit→Act→World→Prop}{md:Region.Mode}{S:World→Prop}{listed:Array Bool}{a:Act}{w:World}{oi:Oper}{ts:Array Value}(i:Nat)(d:Tmp)(v:Value)(fuel:Nat)(hi:ops[i]? =some oi)(hS:S w)
  (h:wpAnyH P md ops Q S fuel (listed.setIfInBounds i true) {tmps:=ts,defers:=a.defers} w) (hy:∀w,S w→(execOp a.eval oi).run P w= .ok (.value v) w)
  (hw:Region.wanted oi (yielded ops a.tmps)=true:=by kernel_rfl) (hd:oi.dst=some d:=by rfl) (hs:Region.noSelect ops=true:=by kernel_rfl) (hf:Region.free md ops listed i=true:=by kernel_rfl) (hr:(Region.ready md ops listed).contains i=true:=by kernel_rfl)
  (hQ:∀c a w,Q (.panic c) {tmps:=a.tmps.setIfInBounds d v,defers:=a.defers} w→Q (.panic c) a w:=by first | (intro _ _ _ h;cases h.1) | exact fun _ _ _ h=>h)
  (ht:a.tmps.setIfInBounds d v=ts:=by simp only[jA,jB,jC] <;> rfl):wpAnyH P md ops Q S (fuel+1) listed a w:=by
 subst ht;exact takeD hi hd hs hf hr hQ (.inl ⟨hw,hy⟩) hS h
theorem tK {P:Program}{ops:Array Oper}{Q:Exit→Act→World→Prop}{md:Region.Mode}{S:World→Prop}{listed:Array Bool}{a:Act}{w:World}{oi:Oper}{ts:Array Value}(i:Nat)(d:Tmp)(v:Value)(fuel:Nat)(hi:ops[i]? =some oi)(hS:S w)
  (h:wpAnyH P md ops Q S fuel (listed.setIfInBounds i true) {tmps:=ts,defers:=a.defers} w) (hy:∀w,S w→(execOp a.eval oi).run P w= .ok (.value v) w:=by intro _ _;kernel_rfl)
  (hw:Region.wanted oi (yielded ops a.tmps)=true:=by kernel_rfl) (hd:oi.dst=some d:=by rfl) (hs:Region.noSelect ops=true:=by kernel_rfl) (hf:Region.free md ops listed i=true:=by kernel_rfl) (hr:(Region.ready md ops listed).contains i=true:=by kernel_rfl)
  (hQ:∀c a w,Q (.panic c) {tmps:=a.tmps.setIfInBounds d v,defers:=a.defers} w→Q (.panic c) a w:=by first | (intro _ _ _ h;cases h.1) | exact fun _ _ _ h=>h)
  (ht:a.tmps.setIfInBounds d v=ts:=by simp only[jA,jB,jC] <;> rfl):wpAnyH P md ops Q S (fuel+1) listed a w:=by
 subst ht;exact takeD hi hd hs hf hr hQ (.inl ⟨hw,hy⟩) hS h
theorem tG {P:Program}{ops:Array Oper}{Q:Exit→Act→World→Prop}{md:Region.Mode}{S:World→Prop}{listed:Array Bool}{a:Act}{w:World}{oi:Oper}{ts:Array Value}(i:Nat)(d:Tmp)(v:Value)(fuel:Nat)(hi:ops[i]? =some oi)(hS:S w)
  (h:wpAnyH P md ops Q S fuel (listed.setIfInBounds i true) {tmps:=ts,defers:=a.defers} w) (hy:∀w,S w→(execOp a.eval oi).run P w= .ok (.value v) w:=by intro _ _;go_simp)
  (hw:Region.wanted oi (yielded ops a.tmps)=true:=by kernel_rfl) (hd:oi.dst=some d:=by rfl) (hs:Region.noSelect ops=true:=by kernel_rfl) (hf:Region.free md ops listed i=true:=by kernel_rfl) (hr:(Region.ready md ops listed).contains i=true:=by kernel_rfl)
  (hQ:∀c a w,Q (.panic c) {tmps:=a.tmps.setIfInBounds d v,defers:=a.defers} w→Q (.panic c) a w:=by first | (intro _ _ _ h;cases h.1) | exact fun _ _ _ h=>h)
  (ht:a.tmps.setIfInBounds d v=ts:=by simp only[jA,jB,jC] <;> rfl):wpAnyH P md ops Q S (fuel+1) listed a w:=by
 subst ht;exact takeD hi hd hs hf hr hQ (.inl ⟨hw,hy⟩) hS h
theorem tU {P:Program}{ops:Array Oper}{Q:Exit→Act→World→Prop}{md:Region.Mode}{S:World→Prop}{listed:Array Bool}{a:Act}{w:World}{oi:Oper}{ts:Array Value}(i:Nat)(d:Tmp)(fuel:Nat)(hi:ops[i]? =some oi)(hS:S w)
  (h:wpAnyH P md ops Q S fuel (listed.setIfInBounds i true) {tmps:=ts,defers:=a.defers} w)
  (hw:Region.wanted oi (yielded ops a.tmps)=false:=by kernel_rfl) (hd:oi.dst=some d:=by rfl) (hs:Region.noSelect ops=true:=by kernel_rfl) (hf:Region.free md ops listed i=true:=by kernel_rfl) (hr:(Region.ready md ops listed).contains i=true:=by kernel_rfl)
  (hQ:∀c a w,Q (.panic c) {tmps:=a.tmps.setIfInBounds d undef,defers:=a.defers} w→Q (.panic c) a w:=by first | (intro _ _ _ h;cases h.1) | exact fun _ _ _ h=>h)
  (ht:a.tmps.setIfInBounds d undef=ts:=by simp only[jA,jB,jC] <;> rfl):wpAnyH P md ops Q S (fuel+1) listed a w:=by
 subst ht;exact takeD hi hd hs hf hr hQ (.inr ⟨hw,rfl⟩) hS h
theorem wpOp_calls {P:Program}{ops:Array Oper}{Q:Exit→Act→World→Prop}{i:Nat}{K:Act→World→Prop}{a:Act}{w:World}{o:Oper}{d:Tmp}{f:FuncId}{args:Array Value}(hi:ops[i]? =some o)(hd:o.dst=some d)(hw:Region.wanted o (yielded ops a.tmps)=true)
  (hrun:(execOp a.eval o).run P w= .ok (.enter f args) w) (R:Ending→World→Prop) (h:Calls P f args w R) (hR:∀v w'',R (.returned v) w''→K {tmps:=a.tmps.setIfInBounds d v,defers:=a.defers} w'') (hP:∀ch w'',R (.panicked ch) w''→Q (.panic ch) a w'') (hO:∀w'',¬R .outgrown w''):wpOp P ops Q i K a w:=by
 have hp:∀v,a.put o.dst v= {tmps:=a.tmps.setIfInBounds d v,defers:=a.defers} :=fun v=>by rw[hd];rfl
 unfold wpOp;simp only[hi];rw[if_pos hw]
 refine .inl ?_;unfold Oper.wp;rw[hrun]
 exact h.mono fun e w'' he=>by
  cases e with
  | returned v=>show K (a.put o.dst v) w'';rw[hp];exact hR v w'' he
  | panicked ch=>exact hP ch w'' he
  | outgrown=>exact absurd he (hO w'')
theorem lookup_yes {w:World}{ops:Array Oper}{rest:List Oper}{o:Oper}{a:Act}{Q:Exit→Act→World→Prop}(hg:o.guard=none)(m x:Operand)(hop:o.op=Op.lookup 98 m x true)(mb n:Nat)(D:DataW Unit)
  (hm:a.eval m= .map (some mb)) (hown:w.ownsMap Tryz.prog 9 (plainElem Tryz.prog 3) mb n D) (nm:By) (hx:a.eval x= .string ⟨nm.toArray⟩) (hl:nm.length≤1100000) (on:Nat) (hh:Maps.has D (.string nm)=true) (hat:∀z,D.atKey (.string nm) z= .lit (.int .i64 (on:Int)))
  (hK:wpList Tryz.prog ops Q rest (a.put o.dst (.tuple #[.int .i64 (on:Int),.bool true])) w):wpList Tryz.prog ops Q (o :: rest) a w:=by
 refine wpList_lookup_own_ok_int w hg m x 98 hop 9 3 .i64 (Maps.string_keyed Tryz.underlying9) Tryz.underlying98 Tryz.underlying3 (zero3 _) mb n D hm hown _ (.string nm) hx (key_str nm hl) ?_;intro c hc _;rw[hat] at hc
 have:(on:Int)=c:=by injection hc with h1;injection h1
 rw[←this,hh]
 exact hK
theorem lookup_no {w:World}{ops:Array Oper}{rest:List Oper}{o:Oper}{a:Act}{Q:Exit→Act→World→Prop}(hg:o.guard=none)(m x:Operand)(hop:o.op=Op.lookup 98 m x true)(mb n:Nat)(D:DataW Unit)
  (hm:a.eval m= .map (some mb)) (hown:w.ownsMap Tryz.prog 9 (plainElem Tryz.prog 3) mb n D) (nm:By) (hx:a.eval x= .string ⟨nm.toArray⟩) (hl:nm.length≤1100000) (hh:Maps.has D (.string nm)=false)
  (hK:∀c:Int,wpList Tryz.prog ops Q rest (a.put o.dst (.tuple #[.int .i64 c,.bool false])) w):wpList Tryz.prog ops Q (o :: rest) a w:=by
 refine wpList_lookup_own_ok_int w hg m x 98 hop 9 3 .i64 (Maps.string_keyed Tryz.underlying9) Tryz.underlying98 Tryz.underlying3 (zero3 _) mb n D hm hown _ (.string nm) hx (key_str nm hl) ?_;intro c _ _;rw[hh]
 exact hK c
theorem own_map_later {w w':World}{mb n:Nat}{D:DataW Unit}(h:w.ownsMap Tryz.prog 9 (plainElem Tryz.prog 3) mb n D)(hb:Below w.heap.size w w'):w'.ownsMap Tryz.prog 9 (plainElem Tryz.prog 3) mb n D:=
 h.kept (row:=none) ⟨hb.os,hb.tape,hb.output,hb.size,fun k hk _=>hb.block k hk⟩ (by simp)
theorem leanings_any (x:Pd)(its:List It)(iv:Value)(mb n n0:Nat)(num:By→Option Nat)(w w0:World)(hIt:RdIt w iv its)(hM:NumM w mb n num)(hnum:∀nm c,num nm=some c→c < its.length)
  (hS:SAt (· < n0) w0 x.lab.after x.sv x.sm) (hlow:∀b,b < n0→w.heap[b]? =w0.heap[b]?) (hn0:n0≤w.heap.size) (hal:x.lab.after.length≤1100000) (hsh:∀y∈x.lab.after,y.length≤1100000) :
  Calls Tryz.prog 47 #[.agg #[.string ⟨x.lab.name.toArray⟩,.string ⟨x.lab.undo.toArray⟩,.slice x.sv x.sm x.sc,.bool x.lab.sub,.bool x.lab.vital,.slice x.av x.am x.ac,.int .i64 (x.inn:Int),.int .i64 (x.alt:Int)],iv,.map (some mb)] w fun e w'=>LeanC its num x w e w':=by
 obtain⟨ia,icap,rfl,hic,hir⟩:=hIt
 obtain⟨D,hDm,hown,hD⟩:=hM
 obtain⟨i0,hi0,hz0,hz1,hz2⟩:=info_parts Dg.Tryz.info3
 have HIR:Hid _:=hir;have HD:Hid _:=hD;have HOw:Hid _:=hown;have HNum:Hid _:=hnum;have HSS:Hid _:=hS;have HLow:Hid _:=hlow;have HSh:Hid _:=hsh;obtain⟨il,HIL⟩:∃il,Hid (its.length=il):=⟨_,rfl⟩
 rw[HIL.out] at hic ⊢
 have hsm:x.sm=x.lab.after.length:=hS.1;obtain⟨sm,HSM⟩:∃sm,Hid (x.sm=sm):=⟨_,rfl⟩
 have HAL:Hid (x.lab.after.length=sm):=by show _=_;rw[←hsm];exact HSM.out
 rw[HSM.out]
 rw[HAL.out] at hal
 obtain⟨W1,HW1⟩:∃W1,W1=w.alloc (.cells #[.string ⟨x.lab.name.toArray⟩,.string ⟨x.lab.undo.toArray⟩,.slice x.sv sm x.sc,.bool x.lab.sub,.bool x.lab.vital,.slice x.av x.am x.ac,.int .i64 (x.inn:Int),.int .i64 (x.alt:Int)] 108):=⟨_,rfl⟩
 have nb:=Dg.row_new w #[.string ⟨x.lab.name.toArray⟩,.string ⟨x.lab.undo.toArray⟩,.slice x.sv sm x.sc,.bool x.lab.sub,.bool x.lab.vital,.slice x.av x.am x.ac,.int .i64 (x.inn:Int),.int .i64 (x.alt:Int)] 108;have hB1:Below w.heap.size w W1:=by rw[HW1];exact (Below.refl _ _).alloc (jG _) _
 have hz1':w.heap.size < W1.heap.size:=by rw[HW1];simp
 rw[←HW1] at nb
 have c2:=(Dg.cell_row nb 2).trans rfl;clear hir hD hown hnum hS hlow hsh hsm
 go_enter Tryz.func47,Tryz.ntmps47
 go_wp2_with fail
 rw[←HW1]
 clear HW1;have HO0:Hid (W1.ownsRow W1.heap.size 3 1 (.slice none 0 0) ([]:List Nat).length (Dg.ivs [])):=zT _ _ _ _;obtain⟨G,HG⟩:∃G,Hid (leanP its num x.inn x.alt x.lab.after []=G):=⟨_,rfl⟩
 go_loopw [7,16] (fun lv iv wr=>∃(i:Nat) (acc:List Nat),i≤sm∧iv= .int .i64 i∧Hid (wr.ownsRow W1.heap.size 3 1 lv acc.length (Dg.ivs acc))∧Hid (leanP its num x.inn x.alt (x.lab.after.drop i) acc=G)∧Hid (acc.length≤i)∧Hid (Below W1.heap.size W1 wr)) (fun _ iv _=>sm - (intOf iv).toNat)
 case atStart=>exact⟨0,[],zE _,rfl,HO0,HG.out,jG _,Below.refl _ _⟩
 case round=>
  obtain⟨i,acc,hi,rfl,HO,HP,HAc,HB⟩:=hrel
  rename World=>w2
  clear HO0;have HBw:Hid (Below w.heap.size w w2):=hB1.trans (HB.out.mono (by omega))
  by_cases hlt:i < sm
  ·obtain⟨nm,hnm⟩:∃nm,x.lab.after[i]? =some nm:=⟨_,jF (by rw[HAL.out];exact hlt)⟩
   obtain⟨b,off,hsv,hpb,hcb⟩:=HSS.out.2 i nm hnm
   have d0:w2.cell? ⟨b,off+i,none⟩=some (.string ⟨nm.toArray⟩):=(zI (a:=⟨b,off+i,none⟩) ((HBw.out.block b (by omega)).trans (HLow.out b hpb))).trans hcb;have hnl:=HSh.out nm (jS hnm);have HOw2:Hid _:=own_map_later HOw.out HBw.out;have hdr:x.lab.after.drop i=nm :: x.lab.after.drop (i+1):=by
    rw[zU (by rw[HAL.out];exact hlt)]
    congr 1
    exact (jH.1 hnm).2
   rw[hdr] at HP
   have hii:(i:Int) < (sm:Int):=by omega
   obtain⟨hh,hat⟩:=HD.out nm
   cases hq:num nm with
   | none=>
    rw[hq] at hh
    have HGN:Hid (G=none):=by show _=_;rw[←HP.out];simp[leanP,hq]
    rw[hsv]
    clear hat hcb hdr hnm hsv
    go_wp2_with (at_lookup;refine lookup_no rfl _ _ rfl mb n D rfl HOw2.out nm rfl hnl hh ?_;intro c)
    have HPan:Hid (∀w',Below w.heap.size w w'→LeanC its num x w (.panicked (rej 11)) w'):=by
     show ∀w',_
     intro w' hb;unfold LeanC;rw[HG.out,HGN.out]
     exact⟨hb,rfl⟩
    have HS0:Hid (Below w.heap.size w w2.drew):=Dg.bl_drawn1 HBw.out;refine wp_region_held (S:=fun w'=>Below w.heap.size w w') (by kernel_rfl) ?_;simp only[jN,jM,jP,Nat.reduceAdd,jI,jJ,jO,jL,jK];refine takeD (i:=0) (d:=26) (fuel:=17) rfl rfl (by kernel_rfl) (by kernel_rfl) (by kernel_rfl) (fun _ _ _ h=>h) (.inl ⟨rfl,fun _ _=>rfl⟩) HS0.out ?_;simp only[jA,jB,jC];refine takeD (i:=1) (d:=27) (fuel:=16) rfl rfl (by kernel_rfl) (by kernel_rfl) (by kernel_rfl) (fun _ _ _ h=>h) (.inl ⟨rfl,fun _ _=>rfl⟩) HS0.out ?_;simp only[jA,jB,jC];refine tU 2 28 15 rfl HS0.out ?_;refine tU 3 29 14 rfl HS0.out ?_;refine tU 4 30 13 rfl HS0.out ?_;refine tU 5 31 12 rfl HS0.out ?_;refine tU 6 32 11 rfl HS0.out ?_;refine tU 7 33 10 rfl HS0.out ?_;refine tU 8 34 9 rfl HS0.out ?_;refine tU 9 35 8 rfl HS0.out ?_;refine tK 10 36 (.bool false) 7 rfl HS0.out ?_;refine tK 11 37 (.bool false) 6 rfl HS0.out ?_;refine tU 12 38 5 rfl HS0.out ?_;refine tU 13 39 4 rfl HS0.out ?_;refine tU 14 40 3 rfl HS0.out ?_;refine tU 15 41 2 rfl HS0.out ?_;refine tK 16 42 (.bool false) 1 rfl HS0.out ?_;refine wpAnyH_all (fuel:=0) (rs:=[17]) (by kernel_rfl) (by decide) ?_;refine jE.2 ?_;refine wpOp_calls (i:=17) (d:=43) rfl rfl (by kernel_rfl) (f:=45) (args:= #[.bool false,.int .i64 11]) (by kernel_rfl) (fun e w'=>e= .panicked (rej 11)∧w'=w2.drew) (must_no 11 _) ?_ ?_ ?_
    ·rintro v w'' ⟨h1,_⟩;cases h1
    ·rintro ch w'' ⟨h1,rfl⟩;cases h1;exact⟨rfl,HPan.out _ HS0.out⟩
    ·rintro w'' ⟨h1,_⟩;cases h1
   | some on=>
    rw[hq] at hh
    have hat':=hat on hq;have hol:on < il:=by have:=HNum.out nm on hq;rw[HIL.out] at this;exact this
    obtain⟨y,hy⟩:∃y,its[on]? =some y:=⟨_,jF (by rw[HIL.out];exact hol)⟩
    obtain⟨b1,off1,yav,yam,yac,hia,k0,k1,k2,k3,k4,k5,k6,k7,_⟩:=HIR.out on y hy
    have j0:=Dg.cell_later HBw.out k0;have j1:=Dg.cell_later HBw.out k1;have j2:=Dg.cell_later HBw.out k2;have j3:=Dg.cell_later HBw.out k3;have j4:=Dg.cell_later HBw.out k4;have j5:=Dg.cell_later HBw.out k5;have j6:=Dg.cell_later HBw.out k6;have j7:=Dg.cell_later HBw.out k7;have nb2:=(HB.out.block _ hz1').trans nb;have e6:=(Dg.cell_row nb2 6).trans rfl;have e7:=(Dg.cell_row nb2 7).trans rfl;have HRZ:Hid (RdZ w2 u7 (acc.map fun (z:Nat)=>(z:Int))):=RdZ.of_own HO.out;have hLe:leanP its num x.inn x.alt (nm :: x.lab.after.drop (i+1)) acc=if y.inn=x.inn∧y.alt=x.alt∧on∉acc then leanP its num x.inn x.alt (x.lab.after.drop (i+1)) (acc ++ [on]) else none:=by
     simp only[leanP,hq,hy]
    rw[hLe] at HP
    rw[hsv,hia]
    clear hat hcb hdr hnm hsv k0 k1 k2 k3 k4 k5 k6 k7 hLe
    go_wp2_with (at_lookup;refine lookup_yes rfl _ _ rfl mb n D rfl HOw2.out nm rfl hnl on hh hat' ?_)
    have hS2:Below w2.heap.size w2 {w2 with drawn:=w2.drawn+1} :=Dg.bl_drawn1 (Below.refl _ _);refine wp_region_held (S:=fun w'=>Below w2.heap.size w2 w') (by kernel_rfl) ?_;simp only[jN,jM,jP,Nat.reduceAdd,jI,jJ,jO,jL,jK];refine tK 0 26 (.bool true) 17 rfl hS2 ?_;refine tK 1 27 (.bool true) 16 rfl hS2 ?_;refine tK 2 28 (.slice (some ⟨b1,off1,none⟩) il icap) 15 rfl hS2 ?_;refine tK 3 29 (.int .i64 (on:Int)) 14 rfl hS2 ?_;refine tV 4 30 (.pointer (some ⟨b1,off1+on * 8,none⟩)) 13 rfl hS2 ?_ (fun w3 _=>by go_simp);refine tV 5 31 (.agg #[.string ⟨y.name.toArray⟩,.string ⟨y.undo.toArray⟩,.bool y.sub,.bool y.vital,.int .i64 y.alts,.int .i64 y.inn,.int .i64 y.alt,.slice yav yam yac]) 12 rfl hS2 ?_ (fun w3 hw3=>by have z0:=Dg.cell_later hw3 j0;have z1:=Dg.cell_later hw3 j1;have z2:=Dg.cell_later hw3 j2;have z3:=Dg.cell_later hw3 j3;have z4:=Dg.cell_later hw3 j4;have z5:=Dg.cell_later hw3 j5;have z6:=Dg.cell_later hw3 j6;have z7:=Dg.cell_later hw3 j7;go_simp);refine tG 7 33 (.pointer (some ⟨w.heap.size,6,none⟩)) 11 rfl hS2 ?_;refine tV 8 34 (.agg #[.int .i64 (x.inn:Int),.int .i64 (x.alt:Int)]) 10 rfl hS2 ?_ (fun w3 hw3=>by have z0:=Dg.cell_later hw3 e6;have z1:=Dg.cell_later hw3 e7;go_simp);refine wpAnyH_all (fuel:=9) (rs:=[6]) (by kernel_rfl) (by decide) ?_;refine jE.2 ?_;refine wpOp_calls (i:=6) (d:=32) rfl rfl (by kernel_rfl) (f:=65) (args:= #[.agg #[.string ⟨y.name.toArray⟩,.string ⟨y.undo.toArray⟩,.bool y.sub,.bool y.vital,.int .i64 y.alts,.int .i64 y.inn,.int .i64 y.alt,.slice yav yam yac]]) (by kernel_rfl) _ (spotOf_any y yav yam yac _) ?_ (fun _ _ h=>by cases h.1) (fun _ h=>by cases h.1);rintro v6 w6 ⟨h6,hb6⟩;cases h6;have hS6:Below w2.heap.size w2 w6:=hS2.trans (hb6.mono (jG _));clear hb6;refine⟨hS6,?_⟩
    simp only[jA,jB,jC]
    by_cases hsp:y.inn=(x.inn:Int)∧y.alt=(x.alt:Int)
    ·have hp1:=hsp.1;have hp2:=hsp.2;refine tG 9 35 (.bool true) 8 rfl hS6 ?_;refine tK 10 36 (.bool true) 7 rfl hS6 ?_;refine tK 11 37 (.bool true) 6 rfl hS6 ?_;refine tK 12 38 u7 5 rfl hS6 ?_;refine tK 13 39 (.int .i64 (on:Int)) 4 rfl hS6 ?_;refine wpAnyH_all (fuel:=3) (rs:=[14]) (by kernel_rfl) (by decide) ?_;refine jE.2 ?_;have hal2:(acc.map fun (z:Nat)=>(z:Int)).length≤1000000000:=by have h1:=HAc.out;rw[zG];omega
     refine wpOp_calls (i:=14) (d:=40) rfl rfl (by kernel_rfl) (f:=79) (args:= #[u7,.int .i64 (on:Int)]) (by kernel_rfl) _ (Contains_any u7 _ (on:Int) _ (HRZ.out.later hS6) hal2) ?_ (fun _ _ h=>by cases h.1) (fun _ h=>by cases h.1);rintro v8 w8 ⟨h8,rfl⟩;cases h8;refine⟨hS6,?_⟩
     simp only[jA,jB,jC]
     by_cases hin:on∈acc
     ·rw[decide_eq_true (show (on:Int)∈acc.map fun (z:Nat)=>(z:Int) from zS.2 ⟨on,hin,rfl⟩)]
      have HPan:Hid (∀w',Below w.heap.size w w'→LeanC its num x w (.panicked (rej 11)) w'):=by
       show ∀w',_
       intro w' hb;unfold LeanC;rw[HG.out,←HP.out,if_neg (fun h=>h.2.2 hin)]
       exact⟨hb,rfl⟩
      refine tK 15 41 (.bool false) 2 rfl hS6 ?_;refine tK 16 42 (.bool false) 1 rfl hS6 ?_;refine wpAnyH_all (fuel:=0) (rs:=[17]) (by kernel_rfl) (by decide) ?_;refine jE.2 ?_;refine wpOp_calls (i:=17) (d:=43) rfl rfl (by kernel_rfl) (f:=45) (args:= #[.bool false,.int .i64 11]) (by kernel_rfl) _ (must_no 11 _) (fun _ _ h=>by cases h.1) ?_ (fun _ h=>by cases h.1);rintro ch w'' ⟨h1,rfl⟩;cases h1;exact⟨rfl,HPan.out _ (HBw.out.trans (hS6.mono HBw.out.size))⟩
     ·rw[decide_eq_false (show ¬(on:Int)∈acc.map fun (z:Nat)=>(z:Int) from fun h=>by obtain⟨z,hz,he⟩:=zS.1 h;exact hin ((show z=on by omega) ▸ hz))]
      refine tK 15 41 (.bool true) 2 rfl hS6 ?_;refine tK 16 42 (.bool true) 1 rfl hS6 ?_;refine wpAnyH_all (fuel:=0) (rs:=[17]) (by kernel_rfl) (by decide) ?_;refine jE.2 ?_;refine wpOp_calls (i:=17) (d:=43) rfl rfl (by kernel_rfl) (f:=45) (args:= #[.bool true,.int .i64 11]) (by kernel_rfl) _ (must_yes 11 _) ?_ (fun _ _ h=>by cases h.1) (fun _ h=>by cases h.1);rintro v9 w9 ⟨h9,rfl⟩;cases h9;refine⟨hS6,by kernel_rfl,?_⟩
      simp only[jA,jB,jC];have HS6:Hid _:=hS6;have ho:=own_below HO.out hS6;have hz6:=zH HB.out.size hS6.size;have HB6:Hid (Below W1.heap.size W1 w9):=HB.out.trans (hS6.mono HB.out.size);have hac:=HAc.out;have HPn:Hid (leanP its num x.inn x.alt (x.lab.after.drop (i+1)) (acc ++ [on])=G):=by show _=_;rw[←HP.out,if_pos ⟨hsp.1,hsp.2,hin⟩]
      clear hS6 hp1 hp2 hh hat' j0 j1 j2 j3 j4 j5 j6 j7 e6 e7 d0 hS2 HRZ
      go_wp2_with (at_builtin;refine wpList_append_own_at _ rfl _ _ 48 rfl W1.heap.size 3 i0 _ 1 8 Tryz.underlying48 hi0 hz0 hz1 hz2 rfl (by decide) _ acc.length (Dg.ivs acc) rfl (ho.alloc _) ⟨w9.heap.size,0,none⟩ 1 1 [.int .i64 (on:Int)] rfl rfl (Dg.new_cells w9 [.int .i64 (on:Int)] 3) (by simp[Value.oneCell']) (by unfold maxLen;omega) (by omega) (by simp;omega) ?_;intro v7 w7 ho7 hg7 _ hat7;obtain⟨g7,cap7,rfl⟩:=Dg.ownsRow_succ' ho7)
      have HB7:Hid (Below W1.heap.size W1 w7):=Below.grown (HB6.out.alloc hz6 _) hg7 (by simp;omega) (fun j hj=>(ho.lt _ hj).1);have HO7:Hid (w7.ownsRow W1.heap.size 3 1 (.slice (some ⟨g7,0,none⟩) (acc.length+1) cap7) (acc ++ [on]).length (Dg.ivs (acc ++ [on]))):=by
       show World.ownsRow _ _ _ _ _ _ _;rw[Dg.ivs_snoc,j9]
       exact ho7
      have HAn:Hid ((acc ++ [on]).length≤i+1):=by show _≤_;rw[j9];simp;omega
      clear ho hg7 hat7 ho7 HB HO
      go_wp2_with fail
      go_roundw
      case rel=>exact⟨i+1,acc ++ [on],by omega,by go_num,HO7,HPn,HAn,HB7⟩
      case measure=>simp[intOf];omega
    ·have HPan:Hid (∀w',Below w.heap.size w w'→LeanC its num x w (.panicked (rej 11)) w'):=by
      show ∀w',_
      intro w' hb;unfold LeanC;rw[HG.out,←HP.out,if_neg (fun h=>hsp ⟨h.1,h.2.1⟩)]
      exact⟨hb,rfl⟩
     refine tV 9 35 (.bool false) 8 rfl hS6 ?_ (fun _ _=>by go_simp;exact fun h1 h2=>hsp ⟨h1,h2⟩);refine tK 10 36 (.bool false) 7 rfl hS6 ?_;refine tK 11 37 (.bool false) 6 rfl hS6 ?_;refine tU 12 38 5 rfl hS6 ?_;refine tU 13 39 4 rfl hS6 ?_;refine tU 14 40 3 rfl hS6 ?_;refine tU 15 41 2 rfl hS6 ?_;refine tK 16 42 (.bool false) 1 rfl hS6 ?_;refine wpAnyH_all (fuel:=0) (rs:=[17]) (by kernel_rfl) (by decide) ?_;refine jE.2 ?_;refine wpOp_calls (i:=17) (d:=43) rfl rfl (by kernel_rfl) (f:=45) (args:= #[.bool false,.int .i64 11]) (by kernel_rfl) _ (must_no 11 _) (fun _ _ h=>by cases h.1) ?_ (fun _ h=>by cases h.1);rintro ch w'' ⟨h1,rfl⟩;cases h1;exact⟨rfl,HPan.out _ (HBw.out.trans (hS6.mono HBw.out.size))⟩
  ·have him:i=sm:=by omega
   subst him;have HGs:Hid (G=some acc):=by
    show _=_;have h9:=HP.out;rw[List.drop_eq_nil_of_le (by rw[HAL.out];exact jG _)] at h9
    rw[←h9]
    rfl
   have HLC:Hid (LeanC its num x w (.returned u7) w2):=by
    show LeanC _ _ _ _ _ _;unfold LeanC;rw[HG.out,HGs.out]
    exact⟨HBw.out,u7,rfl,Dg.own_mono (by omega) HO.out⟩
   go_wp2_with fail
   go_ret
   exact HLC.out
def arcRow (i:Nat)(l:List Int)(j:Nat):List (Int × Int):=(l.take j).map fun on=>(on,(i:Int))
def arcTo (its:List It):Nat→List (Int × Int)
 | 0=>[]
 | i+1=>arcTo its i ++match its[i]? with
  | some x=>x.after.map fun on=>(on,(i:Int))
  | none=>[]
def arcP (its:List It):List (Int × Int):=arcTo its its.length
theorem arcTo_succ {its:List It}{i:Nat}{x:It}(h:its[i]? =some x):arcTo its (i+1)=arcTo its i ++x.after.map fun on=>(on,(i:Int)):=by
 simp[arcTo,h]
theorem arcRow_succ (i:Nat)(l:List Int)(j:Nat)(on:Int)(h:l[j]? =some on):arcRow i l (j+1)=arcRow i l j ++ [(on,(i:Int))]:=by
 unfold arcRow;rw[zL,h]
 simp
def arcN (its:List It):Nat:=(its.map fun x=>x.after.length).sum
theorem arcTo_len (its:List It):∀i,i≤its.length→(arcTo its i).length+ ((its.drop i).map fun x=>x.after.length).sum=arcN its:=by
 intro i
 induction i with
 | zero=>intro _;simp[arcTo,arcN]
 | succ i ih=>
  intro hi;have h:=ih (by omega);have hx:its[i]? =some its[i]:=jF (by omega);rw[arcTo_succ hx,j9,zG]
  rw[zU (by omega)] at h
  simp only[zZ,List.sum_cons] at h;omega
theorem arcs_any (its:List It)(v:Value)(w:World)(hIt:RdIt w v its)(hil:its.length≤100000)(hN:arcN its≤1000000) :
  Calls Tryz.prog 49 #[v] w fun e w'=>Below w.heap.size w w'∧∃u,e= .returned u∧w'.ownsRow w.heap.size 164 2 u (arcP its).length (Dg.avs (arcP its)):=by
 obtain⟨ia,icap,rfl,hic,hir⟩:=hIt
 obtain⟨i0,hi0,hz0,hz1,hz2⟩:=info_parts Dg.Tryz.info164
 have HIR:Hid _:=hir;obtain⟨il,HIL⟩:∃il,Hid (its.length=il):=⟨_,rfl⟩
 rw[HIL.out] at hil hic ⊢
 have HLen:Hid (∀i,i≤il→(arcTo its i).length+ ((its.drop i).map fun x=>x.after.length).sum≤1000000):=by
  show ∀i,_
  intro i hi;have:=arcTo_len its i (by rw[HIL.out];exact hi);omega
 have HO0:Hid (w.ownsRow w.heap.size 164 2 (.slice none 0 0) (arcTo its 0).length (Dg.avs (arcTo its 0))):=zT _ _ _ _;clear hir hN
 go_enter Tryz.func49,Tryz.ntmps49
 go_wp2_with fail
 go_loopw [3,10] (fun lv iv wr=>∃(i:Nat),i≤il∧iv= .int .i64 i∧Hid (wr.ownsRow w.heap.size 164 2 lv (arcTo its i).length (Dg.avs (arcTo its i)))∧Hid (Below w.heap.size w wr)) (fun _ iv _=>il - (intOf iv).toNat)
 case atStart=>exact⟨0,zE _,rfl,HO0,Below.refl _ _⟩
 case round=>
  obtain⟨i,hi,rfl,HO,HB⟩:=hrel
  rename World=>w1
  clear HO0
  by_cases hlt:i < il
  ·obtain⟨y,hy⟩:∃y,its[i]? =some y:=⟨_,jF (by rw[HIL.out];exact hlt)⟩
   obtain⟨b1,off1,yav,yam,yac,rfl,k0,k1,k2,k3,k4,k5,k6,k7,hz⟩:=HIR.out i y hy
   have j0:=Dg.cell_later HB.out k0;have j1:=Dg.cell_later HB.out k1;have j2:=Dg.cell_later HB.out k2;have j3:=Dg.cell_later HB.out k3;have j4:=Dg.cell_later HB.out k4;have j5:=Dg.cell_later HB.out k5;have j6:=Dg.cell_later HB.out k6;have j7:=Dg.cell_later HB.out k7;obtain⟨za,zcap,hze,hzc,hzr⟩:=hz
   cases hze;have HZR:Hid _:=hzr;obtain⟨m,HM⟩:∃m,Hid (y.after.length=m):=⟨_,rfl⟩
   have hml:m≤1000000:=by
    have h9:=HLen.out i (by omega);rw[zU (by rw[HIL.out];exact hlt)] at h9
    have he:its[i]'(by rw[HIL.out];exact hlt)=y:=(jH.1 hy).2;rw[he] at h9
    simp only[zZ,List.sum_cons] at h9;have:=HM.out;omega
   have HLen2:Hid ((arcTo its i).length+m≤1000000):=by
    have h9:=HLen.out i (by omega);rw[zU (by rw[HIL.out];exact hlt)] at h9
    have he:its[i]'(by rw[HIL.out];exact hlt)=y:=(jH.1 hy).2;rw[he] at h9
    simp only[zZ,List.sum_cons] at h9;have:=HM.out;show _≤_;omega
   rw[HM.out] at j7 hzc
   have hii:(i:Int) < (il:Int):=by omega
   have HS:Hid (arcTo its (i+1)=arcTo its i ++y.after.map fun on=>(on,(i:Int))):=arcTo_succ hy;have nb:=(Dg.cell_row (Dg.row_new w1 #[.string ⟨y.name.toArray⟩,.string ⟨y.undo.toArray⟩,.bool y.sub,.bool y.vital,.int .i64 y.alts,.int .i64 y.inn,.int .i64 y.alt,.slice yav m yac] 50) 7).trans rfl;have HB1:Hid (Below w.heap.size w (w1.alloc (.cells #[.string ⟨y.name.toArray⟩,.string ⟨y.undo.toArray⟩,.bool y.sub,.bool y.vital,.int .i64 y.alts,.int .i64 y.inn,.int .i64 y.alt,.slice yav m yac] 50))):=HB.out.alloc HB.out.size _;have HO1:Hid ((w1.alloc (.cells #[.string ⟨y.name.toArray⟩,.string ⟨y.undo.toArray⟩,.bool y.sub,.bool y.vital,.int .i64 y.alts,.int .i64 y.inn,.int .i64 y.alt,.slice yav m yac] 50)).ownsRow w.heap.size 164 2 u3 (arcTo its i ++arcRow i y.after 0).length (Dg.avs (arcTo its i ++arcRow i y.after 0))):=by
    show World.ownsRow _ _ _ _ _ _ _;have h9:arcRow i y.after 0=[]:=rfl;rw[h9,List.append_nil]
    exact HO.out.alloc _
   clear hy hzr k0 k1 k2 k3 k4 k5 k6 k7 HO
   go_wp2_with fail
   clear j0 j1 j2 j3 j4 j5 j6 j7;generalize w1.alloc (.cells #[.string ⟨y.name.toArray⟩,.string ⟨y.undo.toArray⟩,.bool y.sub,.bool y.vital,.int .i64 y.alts,.int .i64 y.inn,.int .i64 y.alt,.slice yav m yac] 50)=w2 at *
   go_loopw [3,18] (fun lv jv wr=>∃(j:Nat),j≤m∧jv= .int .i64 j∧Hid (wr.ownsRow w.heap.size 164 2 lv (arcTo its i ++arcRow i y.after j).length (Dg.avs (arcTo its i ++arcRow i y.after j)))∧Hid (Below w.heap.size w wr)) (fun _ jv _=>m - (intOf jv).toNat)
   case atStart=>exact⟨0,zE _,rfl,HO1,HB1⟩
   case round=>
    obtain⟨j,hj,rfl,HOj,HBj⟩:=hrel
    rename World=>w3
    clear HO1 HB1 nb
    by_cases hjl:j < m
    ·obtain⟨on,hon⟩:∃on,y.after[j]? =some on:=⟨_,jF (by rw[HM.out];exact hjl)⟩
     obtain⟨b,off,rfl,c0⟩:=HZR.out j on hon
     have d0:=Dg.cell_later HBj.out c0;have hjj:(j:Int) < (m:Int):=by omega
     have HRn:Hid (arcTo its i ++arcRow i y.after (j+1)=(arcTo its i ++arcRow i y.after j) ++ [(on,(i:Int))]):=by show _=_;rw[arcRow_succ i y.after j on hon,List.append_assoc]
     have hLn:(arcTo its i ++arcRow i y.after j).length≤1000000:=by
      have h9:=HLen2.out;rw[j9]
      have h8:(arcRow i y.after j).length≤j:=by unfold arcRow;rw[zG,List.length_take];omega
      omega
     have ho:=HOj.out;have hz3:=HBj.out.size;obtain⟨A,HA⟩:∃A,Hid (arcTo its i ++arcRow i y.after j=A):=⟨_,rfl⟩
     rw[HA.out] at ho hLn HRn
     clear hon c0
     go_wp2_with (at_builtin;refine wpList_append_own_at _ rfl _ _ 115 rfl w.heap.size 164 i0 _ 2 16 Tryz.underlying115 hi0 hz0 hz1 hz2 rfl (by decide) _ A.length (Dg.avs A) rfl (ho.alloc _) ⟨w3.heap.size,0,none⟩ 1 1 [.int .i64 on,.int .i64 (i:Int)] rfl rfl (Dg.new_cells w3 [.int .i64 on,.int .i64 (i:Int)] 164) (by simp[Value.oneCell']) (by unfold maxLen;omega) (by omega) (by simp;omega) ?_;intro v7 w7 ho7 hg7 _ hat7;obtain⟨g7,cap7,rfl⟩:=Dg.ownsRow_succ' ho7)
     have HB7:Hid (Below w.heap.size w w7):=Below.grown (HBj.out.alloc hz3 _) hg7 (by simp;omega) (fun k hk=>(ho.lt _ hk).1);have HO7:Hid (w7.ownsRow w.heap.size 164 2 (.slice (some ⟨g7,0,none⟩) (A.length+1) cap7) (arcTo its i ++arcRow i y.after (j+1)).length (Dg.avs (arcTo its i ++arcRow i y.after (j+1)))):=by
      show World.ownsRow _ _ _ _ _ _ _;rw[HRn.out,Dg.avs_append,Dg.avs_one,j9]
      exact ho7
     clear ho hg7 hat7 ho7 HBj HOj
     go_wp2_with fail
     go_roundw
     case rel=>exact⟨j+1,by omega,by go_num,HO7,HB7⟩
     case measure=>simp[intOf];omega
    ·have hjm:j=m:=by omega
     subst hjm;have HFn:Hid (arcTo its i ++arcRow i y.after j=arcTo its (i+1)):=by
      show _=_;rw[HS.out]
      unfold arcRow;rw[zR (by rw[HM.out];exact jG _)]
     have HOn:Hid (w3.ownsRow w.heap.size 164 2 u3 (arcTo its (i+1)).length (Dg.avs (arcTo its (i+1)))):=by
      show World.ownsRow _ _ _ _ _ _ _;rw[←HFn.out]
      exact HOj.out
     go_wp2_with fail
     go_roundw
     case rel=>exact⟨i+1,by omega,by go_num,HOn,HBj⟩
     case measure=>simp[intOf];omega
  ·have hie:i=il:=by omega
   subst hie;have HF:Hid (arcTo its i=arcP its):=by show _=_;unfold arcP;rw[HIL.out]
   go_wp2_with fail
   go_ret
   refine⟨HB.out,_,rfl,?_⟩
   rw[←HF.out]
   exact HO.out
def hangI (n i:Nat)(y:It):Bool:=decide (y.inn < (i:Int)) && (decide (0≤y.alts) && (decide (y.alts≤4) && (decide (y.after.length < 16) && y.after.all fun on=>decide (0≤on) && decide (on < (n:Int)))))
def hangF (n:Nat):Nat→List It→Bool
 | _,[]=>true
 | i,y :: r=>hangI n i y && hangF n (i+1) r
def hangs (its:List It):Bool:=decide (0 < its.length) && (decide (its.length≤64) && hangF its.length 0 its)
theorem mustHang_any (its:List It)(v:Value)(w:World)(hIt:RdIt w v its) :
  Calls Tryz.prog 149 #[v] w fun e w'=>e=mustE (hangs its) 2∧Below w.heap.size w w':=by
 obtain⟨ia,icap,rfl,hic,hir⟩:=hIt
 have HIR:Hid _:=hir;obtain⟨il,HIL⟩:∃il,Hid (its.length=il):=⟨_,rfl⟩
 rw[HIL.out] at hic ⊢
 clear hir
 by_cases h0:0 < il
 rotate_left
 ·have hil:il=0:=by omega
  have HH:Hid (hangs its=false):=by show _=_;unfold hangs;rw[HIL.out,decide_eq_false h0];rfl
  subst hil
  go_enter Tryz.func149,Tryz.ntmps149
  go_wp2_with fail
  refine Calls.mono (must_no _ _) ?_;rintro e w1 ⟨rfl,rfl⟩
  go_wp2_with fail
  exact⟨rfl,by rw[HH.out];rfl,Below.refl _ _⟩
 have q0:decide ((il:Int) > 0)=true:=by simp;omega
 have q0':decide (0 < (il:Int))=true:=by simp;omega
 have q0'':decide (0 < il)=true:=by simp;omega
 by_cases h64:il≤64
 rotate_left
 ·have HH:Hid (hangs its=false):=by show _=_;unfold hangs;rw[HIL.out,decide_eq_false h64];simp
  have q1:decide ((il:Int)≤64)=false:=by simp;omega
  have q1':decide (il≤64)=false:=by simp;omega
  go_enter Tryz.func149,Tryz.ntmps149
  go_wp2_with fail
  refine Calls.mono (must_no _ _) ?_;rintro e w1 ⟨rfl,rfl⟩
  go_wp2_with fail
  exact⟨rfl,by rw[HH.out];rfl,Below.refl _ _⟩
 have HH:Hid (hangs its=hangF il 0 its):=by show _=_;unfold hangs;rw[HIL.out,decide_eq_true h0,decide_eq_true h64];rfl
 have q1:decide ((il:Int)≤64)=true:=by simp;omega
 have q1':decide (il≤64)=true:=by simp;omega
 go_enter Tryz.func149,Tryz.ntmps149
 go_wp2_with fail
 refine Calls.mono (must_yes _ _) ?_;rintro e w0 ⟨rfl,rfl⟩
 go_wp2_with fail
 clear q0 q0' q0'' q1 q1'
 go_loopw [17] (fun iv wr=>∃(i:Nat),i≤il∧iv= .int .i64 i∧Hid (hangF il 0 its=hangF il i (its.drop i))∧Hid (Below w0.heap.size w0 wr)) (fun iv _=>il - (intOf iv).toNat)
 case atStart=>exact⟨0,zE _,rfl,rfl,Below.refl _ _⟩
 case round=>
  obtain⟨i,hi,rfl,HF,HB⟩:=hrel
  rename World=>w1
  by_cases hlt:i < il
  rotate_left
  ·have hie:i=il:=by omega
   subst hie;have HT:Hid (hangs its=true):=by
    show _=_;rw[HH.out,HF.out,List.drop_eq_nil_of_le (by rw[HIL.out];exact jG _)]
    rfl
   go_wp2_with fail
   exact⟨rfl,_,results_none rfl _ _,by rw[HT.out];rfl,HB.out⟩
  obtain⟨y,hy⟩:∃y,its[i]? =some y:=⟨_,jF (by rw[HIL.out];exact hlt)⟩
  obtain⟨b1,off1,yav,yam,yac,rfl,k0,k1,k2,k3,k4,k5,k6,k7,hz⟩:=HIR.out i y hy
  have j0:=Dg.cell_later HB.out k0;have j1:=Dg.cell_later HB.out k1;have j2:=Dg.cell_later HB.out k2;have j3:=Dg.cell_later HB.out k3;have j4:=Dg.cell_later HB.out k4;have j5:=Dg.cell_later HB.out k5;have j6:=Dg.cell_later HB.out k6;have j7:=Dg.cell_later HB.out k7;obtain⟨za,zcap,hze,hzc,hzr⟩:=hz
  cases hze;have HZR:Hid _:=hzr;obtain⟨m,HM⟩:∃m,Hid (y.after.length=m):=⟨_,rfl⟩
  rw[HM.out] at j7 hzc
  have hii:(i:Int) < (il:Int):=by omega
  have hdr:its.drop i=y :: its.drop (i+1):=by
   rw[zU (by rw[HIL.out];exact hlt)]
   congr 1
   exact (jH.1 hy).2
  rw[hdr] at HF
  have HF1:Hid (hangF il 0 its=(hangI il i y && hangF il (i+1) (its.drop (i+1)))):=HF.out;have HB1:Hid (Below w0.heap.size w0 (w1.alloc (.cells #[.string ⟨y.name.toArray⟩,.string ⟨y.undo.toArray⟩,.bool y.sub,.bool y.vital,.int .i64 y.alts,.int .i64 y.inn,.int .i64 y.alt,.slice yav m yac] 50))):=HB.out.alloc HB.out.size _;have nb:=Dg.row_new w1 #[.string ⟨y.name.toArray⟩,.string ⟨y.undo.toArray⟩,.bool y.sub,.bool y.vital,.int .i64 y.alts,.int .i64 y.inn,.int .i64 y.alt,.slice yav m yac] 50;have n4:=(Dg.cell_row nb 4).trans rfl;have n5:=(Dg.cell_row nb 5).trans rfl;have n7:=(Dg.cell_row nb 7).trans rfl;clear hy hzr k0 k1 k2 k3 k4 k5 k6 k7 hdr HF nb
  by_cases h1:y.inn < (i:Int)
  rotate_left
  ·have HN:Hid (hangs its=false):=by
    show _=_;rw[HH.out,HF1.out]
    unfold hangI;rw[HM.out]
    simp[h1]
   have q2:decide (y.inn < (i:Int))=false:=by simp;omega
   go_wp2_with fail
   refine Calls.mono (must_no _ _) ?_;rintro e w2 ⟨rfl,rfl⟩
   go_wp2_with fail
   exact⟨rfl,by rw[HN.out];rfl,HB1.out⟩
  have p0:decide (y.inn < (i:Int))=true:=by simp;omega
  by_cases h2:0≤y.alts
  rotate_left
  ·have HN:Hid (hangs its=false):=by
    show _=_;rw[HH.out,HF1.out]
    unfold hangI;rw[HM.out]
    simp[h1,h2]
   have q2:decide (0≤y.alts)=false:=by simp;omega
   go_wp2_with fail
   refine Calls.mono (must_no _ _) ?_;rintro e w2 ⟨rfl,rfl⟩
   go_wp2_with fail
   exact⟨rfl,by rw[HN.out];rfl,HB1.out⟩
  have p1:decide (0≤y.alts)=true:=by simp;omega
  by_cases h3:y.alts≤4
  rotate_left
  ·have HN:Hid (hangs its=false):=by
    show _=_;rw[HH.out,HF1.out]
    unfold hangI;rw[HM.out]
    simp[h1,h2,h3]
   have q2:decide (y.alts≤4)=false:=by simp;omega
   go_wp2_with fail
   refine Calls.mono (must_no _ _) ?_;rintro e w2 ⟨rfl,rfl⟩
   go_wp2_with fail
   exact⟨rfl,by rw[HN.out];rfl,HB1.out⟩
  have p2:decide (y.alts≤4)=true:=by simp;omega
  by_cases h4:m < 16
  rotate_left
  ·have HN:Hid (hangs its=false):=by
    show _=_;rw[HH.out,HF1.out]
    unfold hangI;rw[HM.out]
    simp[h1,h2,h3,h4]
   have q2:decide ((m:Int) < 16)=false:=by simp;omega
   go_wp2_with fail
   refine Calls.mono (must_no _ _) ?_;rintro e w2 ⟨rfl,rfl⟩
   go_wp2_with fail
   exact⟨rfl,by rw[HN.out];rfl,HB1.out⟩
  have p3:decide ((m:Int) < 16)=true:=by simp;omega
  have HF2:Hid (hangI il i y=y.after.all fun on=>decide (0≤on) && decide (on < (il:Int))):=by
   show _=_;unfold hangI;rw[HM.out]
   simp[h1,h2,h3,h4]
  go_wp2_with fail
  refine Calls.mono (must_yes _ _) ?_;rintro e w2 ⟨rfl,rfl⟩
  go_wp2_with fail
  clear j0 j1 j2 j3 j4 j5 j6 j7 n4 n5 n7 p0 p1 p2 p3;generalize w1.alloc (.cells #[.string ⟨y.name.toArray⟩,.string ⟨y.undo.toArray⟩,.bool y.sub,.bool y.vital,.int .i64 y.alts,.int .i64 y.inn,.int .i64 y.alt,.slice yav m yac] 50)=w2 at *
  go_loopw [46] (fun jv wr=>∃(j:Nat),j≤m∧jv= .int .i64 j∧Hid (∀on∈y.after.take j,(decide (0≤on) && decide (on < (il:Int)))=true)∧Hid (Below w0.heap.size w0 wr)) (fun jv _=>m - (intOf jv).toNat)
  case atStart=>exact⟨0,zE _,rfl,by show ∀on∈_,_;simp,HB1⟩
  case round=>
   obtain⟨j,hj,rfl,HA,HBj⟩:=hrel
   rename World=>w3
   clear HB1
   by_cases hjl:j < m
   rotate_left
   ·have hjm:j=m:=by omega
    subst hjm;have HN:Hid (hangF il 0 its=hangF il (i+1) (its.drop (i+1))):=by
     show _=_;rw[HF1.out,HF2.out]
     have:(y.after.all fun on=>decide (0≤on) && decide (on < (il:Int)))=true:=by
      rw[zF]
      intro on hon;exact HA.out on (by rw[zR (by rw[HM.out];exact jG _)];exact hon)
     rw[this]
     rfl
    go_wp2_with fail
    go_roundw
    case rel=>exact⟨i+1,by omega,by go_num,HN,HBj⟩
    case measure=>simp[intOf];omega
   obtain⟨on,hon⟩:∃on,y.after[j]? =some on:=⟨_,jF (by rw[HM.out];exact hjl)⟩
   obtain⟨b,off,rfl,c0⟩:=HZR.out j on hon
   have d0:=Dg.cell_later HBj.out c0;have hjj:(j:Int) < (m:Int):=by omega
   have HMem:Hid (on∈y.after):=jS hon;have HTk:Hid (y.after.take (j+1)=y.after.take j ++ [on]):=by show _=_;rw[zL,hon];rfl
   clear hon c0
   by_cases g1:0≤on
   rotate_left
   ·have HN:Hid (hangs its=false):=by
     show _=_;rw[HH.out,HF1.out,HF2.out,List.all_eq_false.2 ⟨on,HMem.out,by simp[g1]⟩]
     rfl
    have q2:decide (0≤on)=false:=by simp;omega
    go_wp2_with fail
    refine Calls.mono (must_no _ _) ?_;rintro e w4 ⟨rfl,rfl⟩
    go_wp2_with fail
    exact⟨rfl,by rw[HN.out];rfl,HBj.out⟩
   have p5:decide (0≤on)=true:=by simp;omega
   by_cases g2:on < (il:Int)
   rotate_left
   ·have HN:Hid (hangs its=false):=by
     show _=_;rw[HH.out,HF1.out,HF2.out,List.all_eq_false.2 ⟨on,HMem.out,by simp[g1,g2]⟩]
     rfl
    have q2:decide (on < (il:Int))=false:=by simp;omega
    go_wp2_with fail
    refine Calls.mono (must_no _ _) ?_;rintro e w4 ⟨rfl,rfl⟩
    go_wp2_with fail
    exact⟨rfl,by rw[HN.out];rfl,HBj.out⟩
   have p6:decide (on < (il:Int))=true:=by simp;omega
   have HAn:Hid (∀z∈y.after.take (j+1),(decide (0≤z) && decide (z < (il:Int)))=true):=by
    show ∀z∈_,_
    rw[HTk.out]
    intro z hz
    rcases jX.1 hz with h | h
    ·exact HA.out z h
    ·simp at h;subst h;rw[p5,p6]
     rfl
   go_wp2_with fail
   refine Calls.mono (must_yes _ _) ?_;rintro e w4 ⟨rfl,rfl⟩
   go_wp2_with fail
   go_roundw
   case rel=>exact⟨j+1,by omega,by go_num,HAn,HBj⟩
   case measure=>simp[intOf];omega
theorem Equal_any (l m:List Int)(v u:Value)(w:World)(hl:RdZ w v l)(hm:RdZ w u m)(hn:l.length≤1000000)(hn':m.length≤1000000) :
  Calls Tryz.prog 163 #[v,u] w fun e w'=>e= .returned (.bool (decide (l=m)))∧Below w.heap.size w w':=by
 obtain⟨a,cap,rfl,hc,hr⟩:=hl
 obtain⟨a',cap',rfl,hc',hr'⟩:=hm
 have HR:Hid _:=hr;have HR':Hid _:=hr';obtain⟨n,HN⟩:∃n,Hid (l.length=n):=⟨_,rfl⟩
 obtain⟨n',HN'⟩:∃n,Hid (m.length=n):=⟨_,rfl⟩
 rw[HN.out] at hn hc ⊢
 rw[HN'.out] at hn' hc' ⊢
 clear hr hr'
 by_cases hnn:n=n'
 ·subst hnn
  go_enter Tryz.func163,Tryz.ntmps163
  go_wp2_with fail
  go_loopw [13] (fun iv wr=>∃(k:Nat),k≤n∧iv= .int .i64 k∧Hid (l.take k=m.take k)∧Hid (Below w.heap.size w wr)) (fun iv _=>n - (intOf iv).toNat)
  case atStart=>exact⟨0,zE _,rfl,by show l.take 0=m.take 0;simp,Below.refl _ _⟩
  case round=>
   obtain⟨k,hk,rfl,HX,HB⟩:=hrel
   rename World=>w1
   by_cases hlt:k < n
   ·obtain⟨x,hx⟩:∃x,l[k]? =some x:=⟨_,jF (by rw[HN.out];exact hlt)⟩
    obtain⟨y,hy⟩:∃y,m[k]? =some y:=⟨_,jF (by rw[HN'.out];exact hlt)⟩
    obtain⟨b,off,rfl,c0⟩:=HR.out k x hx
    obtain⟨b',off',rfl,c1⟩:=HR'.out k y hy
    have d0:=Dg.cell_later HB.out c0;have d1:=Dg.cell_later HB.out c1;have hki:(k:Int) < (n:Int):=by omega
    by_cases hxy:x=y
    ·subst hxy;have HXn:Hid (l.take (k+1)=m.take (k+1)):=by show _=_;rw[zL,zL,hx,hy,HX.out]
     have HB2:Hid (Below w.heap.size w w1.drew):=Dg.bl_drawn1 HB.out;clear hx hy c0 c1
     go_wp2_with fail
     go_region
     all_goals go_wp2_with fail
     all_goals go_roundw
     case rel=>exact⟨k+1,by omega,by go_num,HXn,HB2⟩
     case measure=>simp[intOf];omega
    ·have hne:(x==y)=false:=by simpa using hxy
     have hne':(x !=y)=true:=by simpa using hxy
     have HNo:Hid (decide (l=m)=false):=by
      show _=_;refine decide_eq_false fun e=>hxy ?_
      rw[e,hy] at hx
      exact (Option.some.inj hx).symm
     have HB2:Hid (Below w.heap.size w w1.drew):=Dg.bl_drawn1 HB.out;clear hx hy c0 c1
     go_wp2_with fail
     go_region
     all_goals go_wp2_with fail
     all_goals go_ret
     all_goals exact⟨by rw[HNo.out];rfl,HB2.out⟩
   ·have hkn:k=n:=by omega
    subst hkn;have HYes:Hid (decide (l=m)=true):=by
     show _=_;have h9:=HX.out;rw[zR (by rw[HN.out];exact jG _),zR (by rw[HN'.out];exact jG _)] at h9
     exact decide_eq_true h9
    go_wp2_with fail
    go_ret
    exact⟨by rw[HYes.out];rfl,HB.out⟩
 ·have HNo:Hid (decide (l=m)=false):=by
   show _=_;refine decide_eq_false fun e=>hnn ?_
   rw[←HN.out,←HN'.out,e]
  have hb:((n:Int)==(n':Int))=false:=by simp;omega
  have hb':((n:Int) !=(n':Int))=true:=by simp;omega
  go_enter Tryz.func163,Tryz.ntmps163
  go_wp2_with fail
  go_ret
  exact⟨by rw[HNo.out];rfl,Below.refl _ _⟩
set_option linter.unusedSimpArgs false
theorem same_any (a b:It)(av bv:Option Addr)(am ac bm bc:Nat)(w:World)(ha:RdZ w (.slice av am ac) a.after)(hb:RdZ w (.slice bv bm bc) b.after)(hal:a.after.length≤1000000)(hbl:b.after.length≤1000000) :
  Calls Tryz.prog 152 #[.agg #[.string ⟨a.name.toArray⟩,.string ⟨a.undo.toArray⟩,.bool a.sub,.bool a.vital,.int .i64 a.alts,.int .i64 a.inn,.int .i64 a.alt,.slice av am ac],.agg #[.string ⟨b.name.toArray⟩,.string ⟨b.undo.toArray⟩,.bool b.sub,.bool b.vital,.int .i64 b.alts,.int .i64 b.inn,.int .i64 b.alt,.slice bv bm bc]] w fun e w'=>e= .returned (.bool (decide (a=b)))∧Below w.heap.size w w':=by
 obtain⟨G,HG⟩:∃G,Hid (decide (a=b)=G):=⟨_,rfl⟩
 rw[HG.out]
 have nA:=Dg.row_alloc (Dg.row_new w #[.string ⟨a.name.toArray⟩,.string ⟨a.undo.toArray⟩,.bool a.sub,.bool a.vital,.int .i64 a.alts,.int .i64 a.inn,.int .i64 a.alt,.slice av am ac] 50) (.cells #[.string ⟨b.name.toArray⟩,.string ⟨b.undo.toArray⟩,.bool b.sub,.bool b.vital,.int .i64 b.alts,.int .i64 b.inn,.int .i64 b.alt,.slice bv bm bc] 50);have nB:=Dg.row_new (w.alloc (.cells #[.string ⟨a.name.toArray⟩,.string ⟨a.undo.toArray⟩,.bool a.sub,.bool a.vital,.int .i64 a.alts,.int .i64 a.inn,.int .i64 a.alt,.slice av am ac] 50)) #[.string ⟨b.name.toArray⟩,.string ⟨b.undo.toArray⟩,.bool b.sub,.bool b.vital,.int .i64 b.alts,.int .i64 b.inn,.int .i64 b.alt,.slice bv bm bc] 50;rw[jV] at nB
 have hB0:Below w.heap.size w ((w.alloc (.cells #[.string ⟨a.name.toArray⟩,.string ⟨a.undo.toArray⟩,.bool a.sub,.bool a.vital,.int .i64 a.alts,.int .i64 a.inn,.int .i64 a.alt,.slice av am ac] 50)).alloc (.cells #[.string ⟨b.name.toArray⟩,.string ⟨b.undo.toArray⟩,.bool b.sub,.bool b.vital,.int .i64 b.alts,.int .i64 b.inn,.int .i64 b.alt,.slice bv bm bc] 50)):=((Below.refl _ _).alloc (jG _) _).alloc (by simp) _;have HRa:Hid (RdZ ((w.alloc (.cells #[.string ⟨a.name.toArray⟩,.string ⟨a.undo.toArray⟩,.bool a.sub,.bool a.vital,.int .i64 a.alts,.int .i64 a.inn,.int .i64 a.alt,.slice av am ac] 50)).alloc (.cells #[.string ⟨b.name.toArray⟩,.string ⟨b.undo.toArray⟩,.bool b.sub,.bool b.vital,.int .i64 b.alts,.int .i64 b.inn,.int .i64 b.alt,.slice bv bm bc] 50)) (.slice av am ac) a.after):=ha.later hB0;have HRb:Hid (RdZ ((w.alloc (.cells #[.string ⟨a.name.toArray⟩,.string ⟨a.undo.toArray⟩,.bool a.sub,.bool a.vital,.int .i64 a.alts,.int .i64 a.inn,.int .i64 a.alt,.slice av am ac] 50)).alloc (.cells #[.string ⟨b.name.toArray⟩,.string ⟨b.undo.toArray⟩,.bool b.sub,.bool b.vital,.int .i64 b.alts,.int .i64 b.inn,.int .i64 b.alt,.slice bv bm bc] 50)) (.slice bv bm bc) b.after):=hb.later hB0;have HB0:Hid _:=hB0;clear ha hb hB0
 go_enter Tryz.func152,Tryz.ntmps152
 go_wp2_with fail
 generalize (w.alloc (.cells #[.string ⟨a.name.toArray⟩,.string ⟨a.undo.toArray⟩,.bool a.sub,.bool a.vital,.int .i64 a.alts,.int .i64 a.inn,.int .i64 a.alt,.slice av am ac] 50)).alloc (.cells #[.string ⟨b.name.toArray⟩,.string ⟨b.undo.toArray⟩,.bool b.sub,.bool b.vital,.int .i64 b.alts,.int .i64 b.inn,.int .i64 b.alt,.slice bv bm bc] 50)=w1 at *;have hS:Below w1.heap.size w1 {w1 with drawn:=w1.drawn+1} :=Dg.bl_drawn1 (Below.refl _ _);have x0:=(Dg.cell_row nA 0).trans rfl;have y0:=(Dg.cell_row nB 0).trans rfl;have x1:=(Dg.cell_row nA 1).trans rfl;have y1:=(Dg.cell_row nB 1).trans rfl;have x2:=(Dg.cell_row nA 2).trans rfl;have y2:=(Dg.cell_row nB 2).trans rfl;have x3:=(Dg.cell_row nA 3).trans rfl;have y3:=(Dg.cell_row nB 3).trans rfl;have x4:=(Dg.cell_row nA 4).trans rfl;have y4:=(Dg.cell_row nB 4).trans rfl;have x5:=(Dg.cell_row nA 5).trans rfl;have y5:=(Dg.cell_row nB 5).trans rfl;have x6:=(Dg.cell_row nA 6).trans rfl;have y6:=(Dg.cell_row nB 6).trans rfl;have x7:=(Dg.cell_row nA 7).trans rfl;have y7:=(Dg.cell_row nB 7).trans rfl;clear nA nB;refine wp_region_held (S:=fun w'=>Below w1.heap.size w1 w') (by kernel_rfl) ?_;simp only[jN,jM,jP,Nat.reduceAdd,jI,jJ,jO,jL,jK];refine tG 0 5 (.pointer (some ⟨w.heap.size,0,none⟩)) 47 rfl hS ?_;refine tV 1 6 (.string ⟨a.name.toArray⟩) 46 rfl hS ?_ (fun w3 hw3=>by have z0:=Dg.cell_later hw3 x0;go_simp);refine tG 2 7 (.pointer (some ⟨w.heap.size+1,0,none⟩)) 45 rfl hS ?_;refine tV 3 8 (.string ⟨b.name.toArray⟩) 44 rfl hS ?_ (fun w3 hw3=>by have z0:=Dg.cell_later hw3 y0;go_simp)
 by_cases h0:a.name=b.name
 rotate_left
 ·have HQ:Hid (G=false):=by show _=_;rw[←HG.out];exact decide_eq_false fun e=>h0 (by rw[e])
  refine tG 4 9 (.bool false) 43 rfl hS ?_;refine tK 5 10 (.bool false) 42 rfl hS ?_;refine tU 6 11 41 rfl hS ?_;refine tU 7 12 40 rfl hS ?_;refine tU 8 13 39 rfl hS ?_;refine tU 9 14 38 rfl hS ?_;refine tU 10 15 37 rfl hS ?_;refine tK 11 16 (.bool false) 36 rfl hS ?_;refine tK 12 17 (.bool false) 35 rfl hS ?_;refine tU 13 18 34 rfl hS ?_;refine tU 14 19 33 rfl hS ?_;refine tU 15 20 32 rfl hS ?_;refine tU 16 21 31 rfl hS ?_;refine tU 17 22 30 rfl hS ?_;refine tK 18 23 (.bool false) 29 rfl hS ?_;refine tK 19 24 (.bool false) 28 rfl hS ?_;refine tU 20 25 27 rfl hS ?_;refine tU 21 26 26 rfl hS ?_;refine tU 22 27 25 rfl hS ?_;refine tU 23 28 24 rfl hS ?_;refine tU 24 29 23 rfl hS ?_;refine tK 25 30 (.bool false) 22 rfl hS ?_;refine tK 26 31 (.bool false) 21 rfl hS ?_;refine tU 27 32 20 rfl hS ?_;refine tU 28 33 19 rfl hS ?_;refine tU 29 34 18 rfl hS ?_;refine tU 30 35 17 rfl hS ?_;refine tU 31 36 16 rfl hS ?_;refine tK 32 37 (.bool false) 15 rfl hS ?_;refine tK 33 38 (.bool false) 14 rfl hS ?_;refine tU 34 39 13 rfl hS ?_;refine tU 35 40 12 rfl hS ?_;refine tU 36 41 11 rfl hS ?_;refine tU 37 42 10 rfl hS ?_;refine tU 38 43 9 rfl hS ?_;refine tK 39 44 (.bool false) 8 rfl hS ?_;refine tK 40 45 (.bool false) 7 rfl hS ?_;refine tU 41 46 6 rfl hS ?_;refine tU 42 47 5 rfl hS ?_;refine tU 43 48 4 rfl hS ?_;refine tU 44 49 3 rfl hS ?_;refine tU 45 50 2 rfl hS ?_;refine tK 46 51 (.bool false) 1 rfl hS ?_;refine tK 47 4 (.bool false) 0 rfl hS ?_;refine wpAnyH_done (by kernel_rfl) ?_ 0
  go_wp2_with fail
  go_ret
  exact⟨by rw[HQ.out];rfl,HB0.out.trans (hS.mono HB0.out.size)⟩
 refine tG 4 9 (.bool true) 43 rfl hS ?_;refine tK 5 10 (.bool true) 42 rfl hS ?_;refine tG 6 11 (.pointer (some ⟨w.heap.size,1,none⟩)) 41 rfl hS ?_;refine tV 7 12 (.string ⟨a.undo.toArray⟩) 40 rfl hS ?_ (fun w3 hw3=>by have z0:=Dg.cell_later hw3 x1;go_simp);refine tG 8 13 (.pointer (some ⟨w.heap.size+1,1,none⟩)) 39 rfl hS ?_;refine tV 9 14 (.string ⟨b.undo.toArray⟩) 38 rfl hS ?_ (fun w3 hw3=>by have z0:=Dg.cell_later hw3 y1;go_simp)
 by_cases h1:a.undo=b.undo
 rotate_left
 ·have HQ:Hid (G=false):=by show _=_;rw[←HG.out];exact decide_eq_false fun e=>h1 (by rw[e])
  refine tG 10 15 (.bool false) 37 rfl hS ?_;refine tK 11 16 (.bool false) 36 rfl hS ?_;refine tK 12 17 (.bool false) 35 rfl hS ?_;refine tU 13 18 34 rfl hS ?_;refine tU 14 19 33 rfl hS ?_;refine tU 15 20 32 rfl hS ?_;refine tU 16 21 31 rfl hS ?_;refine tU 17 22 30 rfl hS ?_;refine tK 18 23 (.bool false) 29 rfl hS ?_;refine tK 19 24 (.bool false) 28 rfl hS ?_;refine tU 20 25 27 rfl hS ?_;refine tU 21 26 26 rfl hS ?_;refine tU 22 27 25 rfl hS ?_;refine tU 23 28 24 rfl hS ?_;refine tU 24 29 23 rfl hS ?_;refine tK 25 30 (.bool false) 22 rfl hS ?_;refine tK 26 31 (.bool false) 21 rfl hS ?_;refine tU 27 32 20 rfl hS ?_;refine tU 28 33 19 rfl hS ?_;refine tU 29 34 18 rfl hS ?_;refine tU 30 35 17 rfl hS ?_;refine tU 31 36 16 rfl hS ?_;refine tK 32 37 (.bool false) 15 rfl hS ?_;refine tK 33 38 (.bool false) 14 rfl hS ?_;refine tU 34 39 13 rfl hS ?_;refine tU 35 40 12 rfl hS ?_;refine tU 36 41 11 rfl hS ?_;refine tU 37 42 10 rfl hS ?_;refine tU 38 43 9 rfl hS ?_;refine tK 39 44 (.bool false) 8 rfl hS ?_;refine tK 40 45 (.bool false) 7 rfl hS ?_;refine tU 41 46 6 rfl hS ?_;refine tU 42 47 5 rfl hS ?_;refine tU 43 48 4 rfl hS ?_;refine tU 44 49 3 rfl hS ?_;refine tU 45 50 2 rfl hS ?_;refine tK 46 51 (.bool false) 1 rfl hS ?_;refine tK 47 4 (.bool false) 0 rfl hS ?_;refine wpAnyH_done (by kernel_rfl) ?_ 0
  go_wp2_with fail
  go_ret
  exact⟨by rw[HQ.out];rfl,HB0.out.trans (hS.mono HB0.out.size)⟩
 refine tG 10 15 (.bool true) 37 rfl hS ?_;refine tK 11 16 (.bool true) 36 rfl hS ?_;refine tK 12 17 (.bool true) 35 rfl hS ?_;refine tG 13 18 (.pointer (some ⟨w.heap.size,2,none⟩)) 34 rfl hS ?_;refine tV 14 19 (.bool a.sub) 33 rfl hS ?_ (fun w3 hw3=>by have z0:=Dg.cell_later hw3 x2;go_simp);refine tG 15 20 (.pointer (some ⟨w.heap.size+1,2,none⟩)) 32 rfl hS ?_;refine tV 16 21 (.bool b.sub) 31 rfl hS ?_ (fun w3 hw3=>by have z0:=Dg.cell_later hw3 y2;go_simp)
 by_cases h2:a.sub=b.sub
 rotate_left
 ·have HQ:Hid (G=false):=by show _=_;rw[←HG.out];exact decide_eq_false fun e=>h2 (by rw[e])
  refine tG 17 22 (.bool false) 30 rfl hS ?_;refine tK 18 23 (.bool false) 29 rfl hS ?_;refine tK 19 24 (.bool false) 28 rfl hS ?_;refine tU 20 25 27 rfl hS ?_;refine tU 21 26 26 rfl hS ?_;refine tU 22 27 25 rfl hS ?_;refine tU 23 28 24 rfl hS ?_;refine tU 24 29 23 rfl hS ?_;refine tK 25 30 (.bool false) 22 rfl hS ?_;refine tK 26 31 (.bool false) 21 rfl hS ?_;refine tU 27 32 20 rfl hS ?_;refine tU 28 33 19 rfl hS ?_;refine tU 29 34 18 rfl hS ?_;refine tU 30 35 17 rfl hS ?_;refine tU 31 36 16 rfl hS ?_;refine tK 32 37 (.bool false) 15 rfl hS ?_;refine tK 33 38 (.bool false) 14 rfl hS ?_;refine tU 34 39 13 rfl hS ?_;refine tU 35 40 12 rfl hS ?_;refine tU 36 41 11 rfl hS ?_;refine tU 37 42 10 rfl hS ?_;refine tU 38 43 9 rfl hS ?_;refine tK 39 44 (.bool false) 8 rfl hS ?_;refine tK 40 45 (.bool false) 7 rfl hS ?_;refine tU 41 46 6 rfl hS ?_;refine tU 42 47 5 rfl hS ?_;refine tU 43 48 4 rfl hS ?_;refine tU 44 49 3 rfl hS ?_;refine tU 45 50 2 rfl hS ?_;refine tK 46 51 (.bool false) 1 rfl hS ?_;refine tK 47 4 (.bool false) 0 rfl hS ?_;refine wpAnyH_done (by kernel_rfl) ?_ 0
  go_wp2_with fail
  go_ret
  exact⟨by rw[HQ.out];rfl,HB0.out.trans (hS.mono HB0.out.size)⟩
 refine tG 17 22 (.bool true) 30 rfl hS ?_;refine tK 18 23 (.bool true) 29 rfl hS ?_;refine tK 19 24 (.bool true) 28 rfl hS ?_;refine tG 20 25 (.pointer (some ⟨w.heap.size,3,none⟩)) 27 rfl hS ?_;refine tV 21 26 (.bool a.vital) 26 rfl hS ?_ (fun w3 hw3=>by have z0:=Dg.cell_later hw3 x3;go_simp);refine tG 22 27 (.pointer (some ⟨w.heap.size+1,3,none⟩)) 25 rfl hS ?_;refine tV 23 28 (.bool b.vital) 24 rfl hS ?_ (fun w3 hw3=>by have z0:=Dg.cell_later hw3 y3;go_simp)
 by_cases h3:a.vital=b.vital
 rotate_left
 ·have HQ:Hid (G=false):=by show _=_;rw[←HG.out];exact decide_eq_false fun e=>h3 (by rw[e])
  refine tG 24 29 (.bool false) 23 rfl hS ?_;refine tK 25 30 (.bool false) 22 rfl hS ?_;refine tK 26 31 (.bool false) 21 rfl hS ?_;refine tU 27 32 20 rfl hS ?_;refine tU 28 33 19 rfl hS ?_;refine tU 29 34 18 rfl hS ?_;refine tU 30 35 17 rfl hS ?_;refine tU 31 36 16 rfl hS ?_;refine tK 32 37 (.bool false) 15 rfl hS ?_;refine tK 33 38 (.bool false) 14 rfl hS ?_;refine tU 34 39 13 rfl hS ?_;refine tU 35 40 12 rfl hS ?_;refine tU 36 41 11 rfl hS ?_;refine tU 37 42 10 rfl hS ?_;refine tU 38 43 9 rfl hS ?_;refine tK 39 44 (.bool false) 8 rfl hS ?_;refine tK 40 45 (.bool false) 7 rfl hS ?_;refine tU 41 46 6 rfl hS ?_;refine tU 42 47 5 rfl hS ?_;refine tU 43 48 4 rfl hS ?_;refine tU 44 49 3 rfl hS ?_;refine tU 45 50 2 rfl hS ?_;refine tK 46 51 (.bool false) 1 rfl hS ?_;refine tK 47 4 (.bool false) 0 rfl hS ?_;refine wpAnyH_done (by kernel_rfl) ?_ 0
  go_wp2_with fail
  go_ret
  exact⟨by rw[HQ.out];rfl,HB0.out.trans (hS.mono HB0.out.size)⟩
 refine tG 24 29 (.bool true) 23 rfl hS ?_;refine tK 25 30 (.bool true) 22 rfl hS ?_;refine tK 26 31 (.bool true) 21 rfl hS ?_;refine tG 27 32 (.pointer (some ⟨w.heap.size,4,none⟩)) 20 rfl hS ?_;refine tV 28 33 (.int .i64 a.alts) 19 rfl hS ?_ (fun w3 hw3=>by have z0:=Dg.cell_later hw3 x4;go_simp);refine tG 29 34 (.pointer (some ⟨w.heap.size+1,4,none⟩)) 18 rfl hS ?_;refine tV 30 35 (.int .i64 b.alts) 17 rfl hS ?_ (fun w3 hw3=>by have z0:=Dg.cell_later hw3 y4;go_simp)
 by_cases h4:a.alts=b.alts
 rotate_left
 ·have HQ:Hid (G=false):=by show _=_;rw[←HG.out];exact decide_eq_false fun e=>h4 (by rw[e])
  refine tG 31 36 (.bool false) 16 rfl hS ?_;refine tK 32 37 (.bool false) 15 rfl hS ?_;refine tK 33 38 (.bool false) 14 rfl hS ?_;refine tU 34 39 13 rfl hS ?_;refine tU 35 40 12 rfl hS ?_;refine tU 36 41 11 rfl hS ?_;refine tU 37 42 10 rfl hS ?_;refine tU 38 43 9 rfl hS ?_;refine tK 39 44 (.bool false) 8 rfl hS ?_;refine tK 40 45 (.bool false) 7 rfl hS ?_;refine tU 41 46 6 rfl hS ?_;refine tU 42 47 5 rfl hS ?_;refine tU 43 48 4 rfl hS ?_;refine tU 44 49 3 rfl hS ?_;refine tU 45 50 2 rfl hS ?_;refine tK 46 51 (.bool false) 1 rfl hS ?_;refine tK 47 4 (.bool false) 0 rfl hS ?_;refine wpAnyH_done (by kernel_rfl) ?_ 0
  go_wp2_with fail
  go_ret
  exact⟨by rw[HQ.out];rfl,HB0.out.trans (hS.mono HB0.out.size)⟩
 refine tG 31 36 (.bool true) 16 rfl hS ?_;refine tK 32 37 (.bool true) 15 rfl hS ?_;refine tK 33 38 (.bool true) 14 rfl hS ?_;refine tV 34 39 (.agg #[.string ⟨a.name.toArray⟩,.string ⟨a.undo.toArray⟩,.bool a.sub,.bool a.vital,.int .i64 a.alts,.int .i64 a.inn,.int .i64 a.alt,.slice av am ac]) 13 rfl hS ?_ (fun w3 hw3=>by have z0:=Dg.cell_later hw3 x0;have z1:=Dg.cell_later hw3 x1;have z2:=Dg.cell_later hw3 x2;have z3:=Dg.cell_later hw3 x3;have z4:=Dg.cell_later hw3 x4;have z5:=Dg.cell_later hw3 x5;have z6:=Dg.cell_later hw3 x6;have z7:=Dg.cell_later hw3 x7;go_simp);refine tV 36 41 (.agg #[.string ⟨b.name.toArray⟩,.string ⟨b.undo.toArray⟩,.bool b.sub,.bool b.vital,.int .i64 b.alts,.int .i64 b.inn,.int .i64 b.alt,.slice bv bm bc]) 12 rfl hS ?_ (fun w3 hw3=>by have z0:=Dg.cell_later hw3 y0;have z1:=Dg.cell_later hw3 y1;have z2:=Dg.cell_later hw3 y2;have z3:=Dg.cell_later hw3 y3;have z4:=Dg.cell_later hw3 y4;have z5:=Dg.cell_later hw3 y5;have z6:=Dg.cell_later hw3 y6;have z7:=Dg.cell_later hw3 y7;go_simp);refine wpAnyH_all (fuel:=11) (rs:=[35]) (by kernel_rfl) (by decide) ?_;refine jE.2 ?_;refine wpOp_calls (i:=35) (d:=40) rfl rfl (by kernel_rfl) (f:=65) (args:= #[.agg #[.string ⟨a.name.toArray⟩,.string ⟨a.undo.toArray⟩,.bool a.sub,.bool a.vital,.int .i64 a.alts,.int .i64 a.inn,.int .i64 a.alt,.slice av am ac]]) (by kernel_rfl) _ (spotOf_any a av am ac _) ?_ (fun _ _ h=>by cases h.1) (fun _ h=>by cases h.1);rintro v35 w35 ⟨h9,hb9⟩;cases h9;have hS35:Below w1.heap.size w1 w35:=hS.trans (hb9.mono hS.size);clear hb9;refine⟨hS35,?_⟩
 simp only[jA,jB,jC];refine wpAnyH_all (fuel:=10) (rs:=[37]) (by kernel_rfl) (by decide) ?_;refine jE.2 ?_;refine wpOp_calls (i:=37) (d:=42) rfl rfl (by kernel_rfl) (f:=65) (args:= #[.agg #[.string ⟨b.name.toArray⟩,.string ⟨b.undo.toArray⟩,.bool b.sub,.bool b.vital,.int .i64 b.alts,.int .i64 b.inn,.int .i64 b.alt,.slice bv bm bc]]) (by kernel_rfl) _ (spotOf_any b bv bm bc _) ?_ (fun _ _ h=>by cases h.1) (fun _ h=>by cases h.1);rintro v37 w37 ⟨h9,hb9⟩;cases h9;have hS37:Below w1.heap.size w1 w37:=hS35.trans (hb9.mono hS35.size);clear hb9;refine⟨hS37,?_⟩
 simp only[jA,jB,jC]
 by_cases h5:a.inn=b.inn∧a.alt=b.alt
 rotate_left
 ·have HQ:Hid (G=false):=by show _=_;rw[←HG.out];exact decide_eq_false fun e=>h5 (by rw[e];exact⟨rfl,rfl⟩)
  refine tV 38 43 (.bool false) 9 rfl hS37 ?_ (fun _ _=>by go_simp;exact fun g1 g2=>h5 ⟨g1,g2⟩);refine tK 39 44 (.bool false) 8 rfl hS37 ?_;refine tK 40 45 (.bool false) 7 rfl hS37 ?_;refine tU 41 46 6 rfl hS37 ?_;refine tU 42 47 5 rfl hS37 ?_;refine tU 43 48 4 rfl hS37 ?_;refine tU 44 49 3 rfl hS37 ?_;refine tU 45 50 2 rfl hS37 ?_;refine tK 46 51 (.bool false) 1 rfl hS37 ?_;refine tK 47 4 (.bool false) 0 rfl hS37 ?_;refine wpAnyH_done (by kernel_rfl) ?_ 0
  go_wp2_with fail
  go_ret
  exact⟨by rw[HQ.out];rfl,HB0.out.trans (hS37.mono HB0.out.size)⟩
 have h5a:=h5.1;have h5b:=h5.2;refine tG 38 43 (.bool true) 9 rfl hS37 ?_;refine tK 39 44 (.bool true) 8 rfl hS37 ?_;refine tK 40 45 (.bool true) 7 rfl hS37 ?_;refine tG 41 46 (.pointer (some ⟨w.heap.size,7,none⟩)) 6 rfl hS37 ?_;refine tV 42 47 (.slice av am ac) 5 rfl hS37 ?_ (fun w3 hw3=>by have z0:=Dg.cell_later hw3 x7;go_simp);refine tG 43 48 (.pointer (some ⟨w.heap.size+1,7,none⟩)) 4 rfl hS37 ?_;refine tV 44 49 (.slice bv bm bc) 3 rfl hS37 ?_ (fun w3 hw3=>by have z0:=Dg.cell_later hw3 y7;go_simp);refine wpAnyH_all (fuel:=2) (rs:=[45]) (by kernel_rfl) (by decide) ?_;refine jE.2 ?_;refine wpOp_calls (i:=45) (d:=50) rfl rfl (by kernel_rfl) (f:=163) (args:= #[.slice av am ac,.slice bv bm bc]) (by kernel_rfl) _ (Equal_any a.after b.after _ _ _ (HRa.out.later hS37) (HRb.out.later hS37) hal hbl) ?_ (fun _ _ h=>by cases h.1) (fun _ h=>by cases h.1);rintro v45 w45 ⟨h9,hb9⟩;cases h9;have hS45:Below w1.heap.size w1 w45:=hS37.trans (hb9.mono hS37.size);clear hb9;refine⟨hS45,?_⟩
 simp only[jA,jB,jC];have HQ:Hid (G=decide (a.after=b.after)):=by
  show _=_;rw[←HG.out]
  obtain⟨a0,a1,a2,a3,a4,a5,a6,a7⟩:=a
  obtain⟨b0,b1,b2,b3,b4,b5,b6,b7⟩:=b
  simp only at h0 h1 h2 h3 h4 h5 h5a h5b;subst h0 h1 h2 h3 h4 h5a h5b;simp
 obtain⟨qq,hqq⟩:∃qq,decide (a.after=b.after)=qq:=⟨_,rfl⟩
 rw[hqq] at HQ ⊢
 refine tK 46 51 (.bool qq) 1 rfl hS45 ?_;refine tK 47 4 (.bool qq) 0 rfl hS45 ?_;refine wpAnyH_done (by kernel_rfl) ?_ 0
 go_wp2_with fail
 go_ret
 exact⟨by rw[HQ.out];rfl,HB0.out.trans (hS45.mono HB0.out.size)⟩
end Go.Proofs.YtieoppabellafaaGreatDoor
