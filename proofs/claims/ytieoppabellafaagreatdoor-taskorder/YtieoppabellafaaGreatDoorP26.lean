/- Texts of the seat, packed: Kh La Lb Lc Ld. -/
import Derived.Test.YtieoppabellafaaGreatDoorP20
import Derived.Test.YtieoppabellafaaGreatDoorP25
import Derived.Test.YtieoppabellafaaGreatDoorP21
import Derived.Test.YtieoppabellafaaGreatDoorP23
import Derived.Lib.SliceRun
import Derived.Maps.AppendAt
import Derived.WalkKit
import Derived.OwnWalkIn
import Derived.TacticsInMore
set_option maxRecDepth 1000000
set_option maxHeartbeats 64000000
set_option linter.unusedVariables false
namespace Go.Proofs.YtieoppabellafaaGreatDoor.Fc
open Go.RowKit Go.Shelf
theorem info38:(Tryz.prog.info? 55).map (fun i=>(i.zero,i.size,i.bytes))=some (some (.agg #[.int .i64 0,.int .i64 0,.int .i64 0,.bool false]),4,32):=by kernel_rfl
theorem rowsF_one (l:List Fa):∀u∈rowsF l,u.oneCell'=true:=by
 intro u hu;obtain⟨f,_,hf⟩:=List.mem_flatMap.1 hu
 simp only[Fa.cells,List.mem_cons,List.not_mem_nil,or_false] at hf
 rcases hf with rfl | rfl | rfl | rfl <;> rfl
theorem RF.news {w:World}{b off n cap:Nat}{l:List Fa}(h:RF w (.slice (some ⟨b,off,none⟩) n cap) l):∀j u,(rowsF l)[j]? =some u→w.cell? ((⟨b,off,none⟩:Addr).add j)=some u:=by
 intro j u hu;obtain⟨a,c,e,_,_,hr⟩:=h
 have ha:some (⟨b,off,none⟩:Addr)=a:=by cases e;rfl
 subst ha;have hj:j < l.length * 4:=by rw[←rowsF_len];exact (List.getElem?_eq_some_iff.1 hu).1
 obtain⟨f,hf⟩:∃f,l[j / 4]? =some f:=⟨_,List.getElem?_eq_getElem (by omega)⟩
 obtain⟨b',off',e',c0,c1,c2,c3⟩:=hr _ f hf
 cases e';have hg:=rowsF_get l (j / 4) f hf (j % 4) (by omega);rw[show j / 4 * 4+j % 4=j by omega,hu] at hg
 have h7:(⟨b,off,none⟩:Addr).add j=⟨b,off+j,none⟩:=by unfold Addr.add;split <;> simp_all
 rw[h7]
 have hm:j % 4=0∨j % 4=1∨j % 4=2∨j % 4=3:=by omega
 rcases hm with h | h | h | h
 ·rw[h] at hg;rw[show off+j=off+j / 4 * 4 by omega,c0];exact hg.symm
 ·rw[h] at hg;rw[show off+j=off+j / 4 * 4+1 by omega,c1];exact hg.symm
 ·rw[h] at hg;rw[show off+j=off+j / 4 * 4+2 by omega,c2];exact hg.symm
 ·rw[h] at hg;rw[show off+j=off+j / 4 * 4+3 by omega,c3];exact hg.symm
theorem cloneF_any (v:Value)(l:List Fa)(w:World)(hl:RF w v l)(h0:0 < l.length)(hn:l.length≤1000000) :
  Calls Tryz.prog 71 #[v] w fun e w'=>Below w.heap.size w w'∧∃u,e= .returned u∧OF w.heap.size w' u l:=by
 have hl':=hl;obtain⟨a,cap,rfl,hc,_,hr⟩:=hl
 obtain⟨i0,hi0,hz0,hz1,hz2⟩:=info_parts info38
 obtain⟨f,hf⟩:∃f,l[0]? =some f:=⟨_,List.getElem?_eq_getElem h0⟩
 obtain⟨b,off,rfl,_⟩:=hr 0 f hf
 have HNews:Hid (∀j u,(rowsF l)[j]? =some u→(w.alloc (.cells #[] 55)).cell? ((⟨b,off,none⟩:Addr).add j)=some u):=(hl'.later (bl1 _ _)).news;have HOwn:Hid ((w.alloc (.cells #[] 55)).ownsRow w.heap.size 55 4 (.slice (some ⟨w.heap.size,0,none⟩) 0 0) 0 []):=
  ⟨rfl,.inr ⟨w.heap.size,0,#[],rfl,Nat.le_refl _,Dg.row_new _ _ _,Nat.le_refl _,Nat.zero_le _,rfl,rfl⟩⟩
 obtain⟨n,HN⟩:∃n,Hid (l.length=n):=⟨_,rfl⟩
 have HLn:Hid ((rowsF l).length=n * 4):=by show _=_;rw[rowsF_len,HN.out]
 have HOne:Hid (∀u∈rowsF l,u.oneCell'=true):=rowsF_one l;rw[HN.out] at hn hc h0 ⊢
 clear hr hl' hf;have hE:∀w,(binOp .eql 33 (.slice (some ⟨b,off,none⟩) n cap) (.slice none 0 0)).run Tryz.prog w= .ok (.bool false) w:=fun w=>Lib.run_eql_slice_nil w 33 55 (some ⟨b,off,none⟩) n cap 0 0 Tryz.underlying33
 go_enter Tryz.func71,Tryz.ntmps71
 go_wp2_with (at_builtin;refine wpList_append_own_at _ rfl _ _ 33 rfl w.heap.size 55 i0 _ 4 32 Tryz.underlying33 hi0 hz0 hz1 hz2 rfl (by decide) _ 0 [] rfl HOwn.out ⟨b,off,none⟩ n cap (rowsF l) rfl HLn.out HNews.out HOne.out (by unfold maxLen;omega) (by omega) (by simp) ?_;intro v7 w7 ho7 hg7 _ hat7)
 have HB7:Hid (Below w.heap.size w w7):=Below.grown ((Below.refl _ _).alloc (Nat.le_refl _) _) hg7 (by simp) (fun k hk=>(HOwn.out.lt _ hk).1);have HF:Hid (OF w.heap.size w7 v7 l):=by
  show World.ownsRow _ _ _ _ _ _ _;rw[HN.out]
  have h:=ho7;rw[Nat.zero_add,List.nil_append] at h
  exact h
 clear ho7 hg7 hat7
 go_wp2_with fail
 go_ret
 exact⟨HB7.out,_,rfl,HF.out⟩
open Classical in
noncomputable def appP (its:List It)(l:List Fa)(e:Ek.Ev):Int ⊕ List Fa:=
 if chkF its l=0 then (if Ek.okE e=true then (match does (subs its) l e.k e.t e.i.toNat with | none=> .inl 14 | some m=> .inr m) else .inl 2) else .inl 2
theorem chkF_iff {its:List It}{l:List Fa} :chkF its l=0↔(sagaP its).isSome=true∧okL (subs its) l:=by
 constructor
 ·intro h
  apply Classical.byContradiction
  intro hn;rw[chkF_no hn] at h
  cases h
 ·intro h;exact chkF_ok h.1 h.2
theorem appP_hap {its:List It}{l:List Fa}(e:Ek.Ev)(h:chkF its l=0):appP its l e=if (hap its l e).1=0 then .inr (hap its l e).2 else .inl (hap its l e).1:=by
 unfold appP hap;rw[if_pos h]
 by_cases h2:Ek.okE e=true
 ·rw[if_pos h2,if_pos h2]
  cases does (subs its) l e.k e.t e.i.toNat <;> rfl
 ·rw[if_neg h2,if_neg h2]
  rfl
def AppC (r:Int ⊕ List Fa)(w:World)(x:Ending)(w':World):Prop:=Below w.heap.size w w'∧match r with
 | .inl c=>x= .returned (.tuple #[.slice none 0 0,.int .i64 c])
 | .inr m=>∃u,x= .returned (.tuple #[u,.int .i64 0])∧OF w.heap.size w' u m
theorem AppC.bad {r:Int ⊕ List Fa}{w w':World}{c:Int}(h:r= .inl c)(hb:Below w.heap.size w w'):AppC r w (.returned (.tuple #[.slice none 0 0,.int .i64 c])) w':=by
 subst h;exact⟨hb,rfl⟩
theorem AppC.ok {r:Int ⊕ List Fa}{w w':World}{m:List Fa}{u:Value}(h:r= .inr m)(hb:Below w.heap.size w w')(ho:OF w.heap.size w' u m):AppC r w (.returned (.tuple #[u,.int .i64 0])) w':=by
 subst h;exact⟨hb,u,rfl,ho⟩
theorem OF.widen {B B':Nat}{w:World}{v:Value}{l:List Fa}(h:OF B w v l)(hB:B'≤B):OF B' w v l:=by
 refine⟨h.1,?_⟩
 rcases h.2 with hn | ⟨g,cap,cur,rfl,hb,rest⟩
 ·exact .inl hn
 ·exact .inr ⟨g,cap,cur,rfl,Nat.le_trans hB hb,rest⟩
theorem root_len {its:List It}(h:(sagaP its).isSome=true):1≤its.length∧its.length≤64:=by
 obtain⟨p,hp⟩:=Option.isSome_iff_exists.1 h
 refine⟨?_,(right_facts hp).1⟩
 unfold sagaP at hp
 split at hp
 ·rename_i hc
  have h2:=hc.2;unfold planT planP at h2
  split at h2
  ·have h3:=Option.some.inj h2;rw[←h3,its2_len]
   omega
  ·cases h2
 ·cases hp
theorem apply_any (its:List It)(v lv sv:Value)(l:List Fa)(e:Ek.Ev)(w:World)(hIt:RdIt w v its)(hF:FairI its)(hT:Dg.Tab w)(hl:RF w lv l)(hs:Ek.RI w sv e.s)(hsl:e.s.length≤1000000)(hil:its.length≤1000000)(hll:l.length≤1000000) :
  Calls Tryz.prog 39 #[.agg #[v],lv,Ek.EvV e sv] w fun x w'=>AppC (appP its l e) w x w':=by
 have h0:=HaS.init w v e sv;have HIt:Hid (∀W,Below w.heap.size w W→RdIt W v its):=fun W hb=>hIt.later hb
 have HL:Hid (∀W,Below w.heap.size w W→RF W lv l):=fun W hb=>hl.later hb
 have HS:Hid (∀W,Below w.heap.size w W→Ek.RI W sv e.s):=fun W hb=>hs.later hb
 have MC0:=checkF_any its v lv l _ (hIt.later h0.bel) hF (hT.later h0.bel) (hl.later h0.bel) (by omega) (by omega);obtain⟨c,HC⟩:∃c,Hid (chkF its l=c):=⟨_,rfl⟩
 rw[HC.out] at MC0
 have MC:Hid (Calls Tryz.prog 29 #[.agg #[v],lv] _ fun e w'=>e= .returned (.int .i64 c)∧Below _ _ w'):=MC0;have HX0:Hid (HaS w v e sv _):=h0;clear h0 MC0;unfold Ek.EvV;obtain⟨sa,sc,rfl,_,_,_⟩:=hs
 obtain⟨ia,icap,rfl,_,_⟩:=hIt
 obtain⟨la,lcap,rfl,_,_,_⟩:=hl
 go_enter Tryz.func39,Tryz.ntmps39
 go_wp2_with fail
 generalize (w.alloc (.cells #[.slice ia its.length icap] 28)).alloc (.cells #[.int .i64 e.k,.int .i64 e.i,.int .i64 e.t,.slice sa e.s.length sc] 94)=w0 at *;refine Calls.mono MC.out ?_;rintro x w1 ⟨rfl,hb1⟩;have HX1:Hid _:=HX0.out.later hb1;clear MC hb1 HX0
 by_cases hc:c=0
 rotate_left
 ·have HP:Hid (appP its l e= .inl 2):=by
   show _=_;unfold appP;rw[if_neg (by rw[HC.out];exact hc)]
  have hc2:(c !=0)=true:=by simpa using hc
  clear hc HC
  go_wp2_with fail
  go_ret2
  exact AppC.bad HP.out HX1.out.bel
 subst hc;have HOK:Hid _:=chkF_iff.1 HC.out;have HP:Hid _:=appP_hap e HC.out;have hln:l.length=its.length:=by have:=HOK.out.2.1;rw[this];unfold subs;rw[List.length_map]
 have hpos:=(root_len HOK.out.1).1;have MK:Hid _:=cloneF_any _ l w1 (HL.out w1 HX1.out.bel) (by omega) hll;clear HC hln hpos
 go_wp2_with fail
 refine Calls.mono MK.out ?_;rintro x w2 ⟨hb2,u,rfl,ho2⟩;have HX2:Hid _:=HX1.out.later hb2;have HO2:Hid (OF w1.heap.size w2 u l):=ho2;obtain⟨ua,ucap,rfl,_⟩:=ho2.rf
 have MH0:=happen_any its _ _ _ l e w1.heap.size w2 (HIt.out w2 HX2.out.bel) ho2 HOK.out.2 (HS.out w2 HX2.out.bel) hsl (by omega);unfold Ek.EvV at MH0;have MH:Hid (Calls Tryz.prog 72 #[.agg #[.slice ia its.length icap],.slice ua l.length ucap,.agg #[.int .i64 e.k,.int .i64 e.i,.int .i64 e.t,.slice sa e.s.length sc]] w2 fun x w'=>HapC its l e w1.heap.size (.slice ua l.length ucap) w2 x w'):=MH0;obtain⟨y0,y1,y2,y3,y4⟩:=HX2.out.ev
 have hz1:=HX1.out.bel.size;clear MK hb2 ho2 MH0
 go_wp2_with fail
 refine Calls.mono MH.out ?_;rintro x w3 ⟨rfl,ho3,hg3⟩;have HB3:Hid (Below w.heap.size w w3):=Below.grown HX2.out.bel hg3 HX2.out.bel.size (fun k hk=>Nat.le_trans hz1 (World.ownsRow.lt HO2.out k hk).1);have HO3:Hid (OF w.heap.size w3 _ _):=ho3.widen hz1;clear ho3 hg3 MH y0 y1 y2 y3 y4;obtain⟨c,HC⟩:∃c,Hid ((hap its l e).1=c):=⟨_,rfl⟩
 rw[HC.out] at HP ⊢
 by_cases hc:c=0
 ·subst hc;have HP2:Hid _:=HP.out.trans (if_pos rfl);clear HC HP
  go_wp2_with fail
  go_ret2
  exact AppC.ok HP2.out HB3.out HO3.out
 ·have HP2:Hid _:=HP.out.trans (if_neg hc);have hc2:(c !=0)=true:=by simpa using hc
  clear HC HP hc
  go_wp2_with fail
  go_ret2
  exact AppC.bad HP2.out HB3.out
end Go.Proofs.YtieoppabellafaaGreatDoor.Fc
namespace Go.Proofs.YtieoppabellafaaGreatDoor.Sa
open Go.RowKit Go.Shelf Fc St
def stL (v lv:Value)(m:Nat→Nat→Bool):List Value:=v :: lv :: (List.range 256).map fun j=> .bool (m (j / 64) (j % 64))
theorem stL_at {v lv:Value}{m:Nat→Nat→Bool}{k i:Nat}(hk:k < 4)(hi:i < 64):(stL v lv m)[2+64 * k+i]? =some (.bool (m k i)):=by
 have h1:2+64 * k+i=(64 * k+i)+1+1:=by omega
 have h2:(64 * k+i) / 64=k:=by omega
 have h3:(64 * k+i) % 64=i:=by omega
 unfold stL;rw[h1,List.getElem?_cons_succ,List.getElem?_cons_succ,List.getElem?_map,List.getElem?_range (by omega)]
 simp only[Option.map_some,h2,h3]
def put2 (m:Nat→Nat→Bool)(k i:Nat)(q:Bool):Nat→Nat→Bool:=fun k' i'=>if k'=k∧i'=i then q else m k' i'
theorem stL_set {v lv:Value}{m:Nat→Nat→Bool}{k i:Nat}(q:Bool)(hk:k < 4)(hi:i < 64):(stL v lv m).set (2+64 * k+i) (.bool q)=stL v lv (put2 m k i q):=by
 have h1:2+64 * k+i=(64 * k+i)+1+1:=by omega
 unfold stL;rw[h1,List.set_cons_succ,List.set_cons_succ]
 congr 2
 refine List.ext_getElem? fun j=>?_
 rw[List.getElem?_set]
 by_cases hj:j < 256
 ·rw[List.getElem?_map,List.getElem?_map,List.getElem?_range hj]
  simp only[Option.map_some,put2]
  by_cases h:64 * k+i=j
  ·have h2:j / 64=k:=by omega
   have h3:j % 64=i:=by omega
   rw[if_pos h,if_pos (by simp;omega),h2,h3,if_pos ⟨rfl,rfl⟩]
  ·rw[if_neg h,if_neg (by omega)]
 ·have hn:(List.range 256)[j]? =none:=List.getElem?_eq_none (by simp;omega);rw[List.getElem?_map,List.getElem?_map,hn,if_neg (by omega)]
  rfl
structure Bs (p:Pl)(f:Nat→Fa)(xb xo icap fb fo lcap:Nat)(w0:World):Prop where
 ok:p.Ok
 le:p.n≤64
 icap:p.n≤icap
 lcap:p.n≤lcap
 alts:∀i,i < p.n→p.alts i≤4
 step:∀i,i < p.n→p.sub i=false→p.alts i=0∧p.vital i=false
 fok:∀i,i < p.n→okF (f i)
 it:∀i,i < p.n→∃(s1 s2:ByteArray) (zi za:Int) (av:Option Addr) (am ac:Nat),w0.cell? ⟨xb,xo+i * 8,none⟩=some (.string s1)∧w0.cell? ⟨xb,xo+i * 8+1,none⟩=some (.string s2)∧w0.cell? ⟨xb,xo+i * 8+2,none⟩=some (.bool (p.sub i))∧w0.cell? ⟨xb,xo+i * 8+3,none⟩=some (.bool (p.vital i))∧
  w0.cell? ⟨xb,xo+i * 8+4,none⟩=some (.int .i64 (p.alts i:Nat))∧w0.cell? ⟨xb,xo+i * 8+5,none⟩=some (.int .i64 zi)∧w0.cell? ⟨xb,xo+i * 8+6,none⟩=some (.int .i64 za)∧w0.cell? ⟨xb,xo+i * 8+7,none⟩=some (.slice av am ac)∧(1≤i→zi=(p.inn i:Nat)∧za=(p.alt i:Nat))
 fa:∀i,i < p.n→w0.cell? ⟨fb,fo+i * 4,none⟩=some (.int .i64 (f i).run)∧w0.cell? ⟨fb,fo+i * 4+1,none⟩=some (.int .i64 (f i).tries)∧w0.cell? ⟨fb,fo+i * 4+2,none⟩=some (.int .i64 (f i).slips)∧w0.cell? ⟨fb,fo+i * 4+3,none⟩=some (.bool (f i).un)
theorem Bs.later {p:Pl}{f:Nat→Fa}{xb xo icap fb fo lcap:Nat}{w0 w:World}(h:Bs p f xb xo icap fb fo lcap w0)(hb:Below w0.heap.size w0 w):Bs p f xb xo icap fb fo lcap w:=by
 refine⟨h.ok,h.le,h.icap,h.lcap,h.alts,h.step,h.fok,fun i hi=>?_,fun i hi=>?_⟩
 ·obtain⟨s1,s2,zi,za,av,am,ac,c0,c1,c2,c3,c4,c5,c6,c7,hz⟩:=h.it i hi
  exact⟨s1,s2,zi,za,av,am,ac,Dg.cell_later hb c0,Dg.cell_later hb c1,Dg.cell_later hb c2,Dg.cell_later hb c3,Dg.cell_later hb c4,Dg.cell_later hb c5,Dg.cell_later hb c6,Dg.cell_later hb c7,hz⟩
 ·obtain⟨c0,c1,c2,c3⟩:=h.fa i hi
  exact⟨Dg.cell_later hb c0,Dg.cell_later hb c1,Dg.cell_later hb c2,Dg.cell_later hb c3⟩
structure Sd (w0:World)(b:Nat)(v lv:Value)(m:Nat→Nat→Bool)(w:World):Prop where
 bel:Below w0.heap.size w0 w
 low:w0.heap.size≤b
 sb:w.heap[b]? =some (.cells (stL v lv m).toArray 172 (0,0))
theorem Sd.later {w0:World}{b:Nat}{v lv:Value}{m:Nat→Nat→Bool}{w w':World}(h:Sd w0 b v lv m w)(hb:Below w.heap.size w w'):Sd w0 b v lv m w':=
 ⟨h.bel.trans (hb.mono h.bel.size),h.low,(hb.block _ (Array.getElem?_eq_some_iff.1 h.sb).1).trans h.sb⟩
theorem Sd.c0 {w0:World}{b:Nat}{v lv:Value}{m:Nat→Nat→Bool}{w:World}(h:Sd w0 b v lv m w):w.cell? ⟨b,0,none⟩=some v:=(Dg.cell_row h.sb 0).trans rfl
theorem Sd.c1 {w0:World}{b:Nat}{v lv:Value}{m:Nat→Nat→Bool}{w:World}(h:Sd w0 b v lv m w):w.cell? ⟨b,1,none⟩=some lv:=(Dg.cell_row h.sb 1).trans rfl
theorem Sd.mark {w0:World}{b:Nat}{v lv:Value}{m:Nat→Nat→Bool}{w:World}(h:Sd w0 b v lv m w){k i:Nat}(hk:k < 4)(hi:i < 64):w.cell? ⟨b,2+64 * k+i,none⟩=some (.bool (m k i)):=by
 rw[Dg.cell_row h.sb,List.getElem?_toArray]
 exact stL_at hk hi
theorem Sd.m0 {w0:World}{b:Nat}{v lv:Value}{m:Nat→Nat→Bool}{w:World}(h:Sd w0 b v lv m w){i:Nat}(hi:i < 64):w.cell? ⟨b,2+i,none⟩=some (.bool (m 0 i)):=h.mark (k:=0) (by omega) hi
theorem Sd.m1 {w0:World}{b:Nat}{v lv:Value}{m:Nat→Nat→Bool}{w:World}(h:Sd w0 b v lv m w){i:Nat}(hi:i < 64):w.cell? ⟨b,66+i,none⟩=some (.bool (m 1 i)):=h.mark (k:=1) (by omega) hi
theorem Sd.m2 {w0:World}{b:Nat}{v lv:Value}{m:Nat→Nat→Bool}{w:World}(h:Sd w0 b v lv m w){i:Nat}(hi:i < 64):w.cell? ⟨b,130+i,none⟩=some (.bool (m 2 i)):=h.mark (k:=2) (by omega) hi
theorem Sd.m3 {w0:World}{b:Nat}{v lv:Value}{m:Nat→Nat→Bool}{w:World}(h:Sd w0 b v lv m w){i:Nat}(hi:i < 64):w.cell? ⟨b,194+i,none⟩=some (.bool (m 3 i)):=h.mark (k:=3) (by omega) hi
theorem Sd.put {w0:World}{b:Nat}{v lv:Value}{m:Nat→Nat→Bool}{w:World}(h:Sd w0 b v lv m w){k i o:Nat}(q:Bool)(hk:k < 4)(hi:i < 64)(ho:o=2+64 * k+i):Sd w0 b v lv (put2 m k i q) (w.setCell ⟨b,o,none⟩ (.bool q)):=by
 subst ho;refine⟨h.bel.setCell h.low _,h.low,?_⟩
 rw[Dg.row_set h.sb]
 rw[←stL_set q hk hi,List.setIfInBounds_toArray]
def allK (p:Pl)(s a:Nat)(q:Nat→Bool):Bool:=(List.range p.n).all fun i=> !kid p s a i || q i
theorem allK_no {p:Pl}{s a i:Nat}{q:Nat→Bool}(hk:kid p s a i=true)(h:q i=false):allK p s a q=false:=by
 refine List.all_eq_false.2 ⟨i,List.mem_range.2 (of_decide_eq_true hk).2.1,?_⟩;rw[hk,h]
 decide
theorem allK_yes {p:Pl}{s a:Nat}{q:Nat→Bool}(h:∀i,s < i→i < p.n→kid p s a i=true→q i=true):allK p s a q=true:=by
 refine List.all_eq_true.2 fun i hi=>?_
 by_cases hk:kid p s a i=true
 ·rw[hk,h i (of_decide_eq_true hk).1 (List.mem_range.1 hi) hk]
  rfl
 ·rw[show kid p s a i=false by simpa using hk]
  rfl
theorem every_any {p:Pl}{f:Nat→Fa}{xb xo icap fb fo lcap:Nat}{w0:World}(hB:Bs p f xb xo icap fb fo lcap w0){b:Nat}{m:Nat→Nat→Bool}{w:World}{lv:Value}{n:Nat}(hn:p.n=n)(hS:Sd w0 b (.slice (some ⟨xb,xo,none⟩) n icap) lv m w)(g:Nat)(c:Value)(s a:Nat)(hs:s < n)(ha:a≤4)(q:Nat→Bool)
  (hcf:∀(i:Int) (wx:World),(callFunc g #[.int .i64 i,c]).run Tryz.prog wx= .ok (.enter g #[.int .i64 i,c]) wx)
  (hq:∀(wx:World) (i:Nat),Below w.heap.size w wx→s < i→i < n→Calls Tryz.prog g #[.int .i64 (i:Int),c] wx fun e w'=>e= .returned (.bool (q i))∧Below wx.heap.size wx w') :
  Calls Tryz.prog 126 #[.pointer (some ⟨b,0,none⟩),.int .i64 (s:Int),.int .i64 (a:Int),.func (Fn.func g) #[] #[c]] w fun e w'=>e= .returned (.bool (allK p s a q))∧Below w.heap.size w w':=by
 obtain⟨E,HE⟩:∃E,Hid (E=allK p s a q):=⟨_,rfl⟩
 rw[←HE.out]
 have hle:n≤64:=by have:=hB.le;omega
 have hic:n≤icap:=by have:=hB.icap;omega
 have HB:Hid _:=hB;have HQ:Hid _:=hq;have HS:Hid _:=hS;have HN:Hid _:=hn;have c0:=hS.c0;clear hB hq hS hn
 go_enter Tryz.func126,Tryz.ntmps126
 go_wp2_with fail
 go_loopw [9] (fun iv wr=>∃(k:Nat),s < k∧k≤n∧iv= .int .i64 k∧Hid (∀i,s < i→i < k→kid p s a i=true→q i=true)∧Hid (Below w.heap.size w wr)) (fun iv _=>n - (intOf iv).toNat)
 case atStart=>exact⟨s+1,by omega,by omega,by go_num,fun i h1 h2=>by omega,Below.refl _ _⟩
 case round=>
  obtain⟨k,hk0,hk,rfl,HA,HW⟩:=hrel
  rename World=>wr
  have z0:=(HS.out.later HW.out).c0
  by_cases hlt:k < n
  rotate_left
  ·have HX:Hid (E=true):=by
    show _=_;rw[HE.out]
    exact allK_yes fun i h1 h2=>HA.out i h1 (by have:=HN.out;omega)
   go_wp2_with fail
   go_ret
   exact⟨by rw[HX.out];rfl,HW.out⟩
  ·obtain⟨s1,s2,zi,za,av,am,ac,k0,k1,k2,k3,k4,k5,k6,k7,hz⟩:=(HB.out.later (HS.out.bel.trans (HW.out.mono HS.out.bel.size))).it k (by have:=HN.out;omega)
   obtain⟨rfl,rfl⟩:=hz (by omega)
   clear k0 k1 k2 k3 k4 k7;have HK:Hid (kid p s a k=true↔p.inn k=s∧p.alt k=a):=⟨fun h=>(of_decide_eq_true h).2.2,fun h=>decide_eq_true ⟨hk0,by have:=HN.out;omega,h.1,h.2⟩⟩;have HQK:Hid _:=HQ.out wr k HW.out hk0 hlt;have HNO:Hid (p.inn k=s→p.alt k=a→q k=false→E=false):=fun h1 h2 h3=>HE.out.trans (allK_no (HK.out.2 ⟨h1,h2⟩) h3)
   have HYES:Hid ((p.inn k=s→p.alt k=a→q k=true)→∀i,s < i→i < k+1→kid p s a i=true→q i=true):=fun h i h1 h2 h3=>by
    by_cases hik:i=k
    ·subst hik;exact h (HK.out.1 h3).1 (HK.out.1 h3).2
    ·exact HA.out i h1 (by omega) h3
   clear HA HK;have hii:(k:Int) < (n:Int):=by omega
   generalize p.inn k=y at *;generalize p.alt k=z at *
   by_cases hy:y=s
   rotate_left
   ·have e1:((y:Int)==(s:Int))=false:=by simp;omega
    have HY2:Hid _:=HYES.out fun h=>absurd h hy
    clear HYES HNO HQK hy
    go_wp2_with fail
    go_roundw
    case rel=>exact⟨k+1,by omega,by omega,by go_num,HY2,HW⟩
    case measure=>simp[intOf];omega
   ·subst hy;have e1:((y:Int)==(y:Int))=true:=by simp
    by_cases hzz:z=a
    rotate_left
    ·have e2:((z:Int)==(a:Int))=false:=by simp;omega
     have HY2:Hid _:=HYES.out fun _ h=>absurd h hzz
     clear HYES HNO HQK hzz
     go_wp2_with fail
     go_roundw
     case rel=>exact⟨k+1,by omega,by omega,by go_num,HY2,HW⟩
     case measure=>simp[intOf];omega
    ·subst hzz;have e2:((z:Int)==(z:Int))=true:=by simp
     go_wp2_with fail
     refine Calls.mono HQK.out ?_;rintro e w2 ⟨rfl,hb2⟩;have HW2:Hid _:=HW.out.trans (hb2.mono HW.out.size);clear HQK hb2;cases hqk:q k with
     | true=>
      have HY2:Hid _:=HYES.out fun _ _=>hqk
      clear HYES HNO
      go_wp2_with fail
      go_roundw
      case rel=>exact⟨k+1,by omega,by omega,by go_num,HY2,HW2⟩
      case measure=>simp[intOf];omega
     | false=>
      have HX:Hid _:=HNO.out (by first | rfl | trivial) (by first | rfl | trivial) hqk;clear HYES HNO
      go_wp2_with fail
      go_ret
      exact⟨by rw[HX.out];rfl,HW2.out⟩
def allB (n:Nat)(q:Nat→Bool):Bool:=(List.range n).all q
theorem allB_no {n i:Nat}{q:Nat→Bool}(hi:i < n)(h:q i=false):allB n q=false:=List.all_eq_false.2 ⟨i,List.mem_range.2 hi,by rw[h];decide⟩
theorem allB_yes {n:Nat}{q:Nat→Bool}(h:∀i,i < n→q i=true):allB n q=true:=List.all_eq_true.2 fun i hi=>h i (List.mem_range.1 hi)
theorem everyBody_any {p:Pl}{f:Nat→Fa}{xb xo icap fb fo lcap:Nat}{w0:World}(hB:Bs p f xb xo icap fb fo lcap w0){b:Nat}{m:Nat→Nat→Bool}{w:World}{lv:Value}{n:Nat}(hn:p.n=n)(hS:Sd w0 b (.slice (some ⟨xb,xo,none⟩) n icap) lv m w)(g:Nat)(cap:Array Value)(s:Nat)(hs:s < n)(q:Nat→Bool)
  (hcf:∀(i:Int) (wx:World),(callFunc g (#[.int .i64 i] ++cap)).run Tryz.prog wx= .ok (.enter g (#[.int .i64 i] ++cap)) wx)
  (hq:∀(wx:World) (i:Nat),Below w.heap.size w wx→i < p.alts s→Calls Tryz.prog g (#[.int .i64 (i:Int)] ++cap) wx fun e w'=>e= .returned (.bool (q i))∧Below wx.heap.size wx w') :
  Calls Tryz.prog 124 #[.pointer (some ⟨b,0,none⟩),.int .i64 (s:Int),.func (Fn.func g) #[] cap] w fun e w'=>e= .returned (.bool (allB (p.alts s) q))∧Below w.heap.size w w':=by
 obtain⟨E,HE⟩:∃E,Hid (E=allB (p.alts s) q):=⟨_,rfl⟩
 rw[←HE.out]
 have hle:n≤64:=by have:=hB.le;omega
 have hic:n≤icap:=by have:=hB.icap;omega
 have h4:=hB.alts s (by omega);obtain⟨s1,s2,zi,za,av,am,ac,k0,k1,k2,k3,k4,k5,k6,k7,hz⟩:=(hB.later hS.bel).it s (by omega)
 clear k0 k1 k2 k3 k5 k6 k7 hz;have hii:(s:Int) < (n:Int):=by omega
 generalize p.alts s=t at *;have HQ:Hid _:=hq;have c0:=hS.c0;clear hB hq hS
 go_enter Tryz.func124,Tryz.ntmps124
 go_wp2_with fail
 go_loopw [16] (fun iv wr=>∃(k:Nat),k≤t∧iv= .int .i64 k∧Hid (∀i,i < k→q i=true)∧Hid (Below w.heap.size w wr)) (fun iv _=>t - (intOf iv).toNat)
 case atStart=>exact⟨0,by omega,by go_num,fun i h1=>by omega,Below.refl _ _⟩
 case round=>
  obtain⟨k,hk,rfl,HA,HW⟩:=hrel
  rename World=>wr
  by_cases hlt:k < t
  rotate_left
  ·have HX:Hid (E=true):=by
    show _=_;rw[HE.out]
    exact allB_yes fun i h1=>HA.out i (by omega)
   go_wp2_with fail
   go_ret
   exact⟨by rw[HX.out];rfl,HW.out⟩
  ·have HQK:Hid _:=HQ.out wr k HW.out hlt;have HNO:Hid (q k=false→E=false):=fun h3=>HE.out.trans (allB_no hlt h3)
   have HYES:Hid (q k=true→∀i,i < k+1→q i=true):=fun h i h1=>by
    by_cases hik:i=k
    ·subst hik;exact h
    ·exact HA.out i (by omega)
   clear HA
   go_wp2_with fail
   refine Calls.mono HQK.out ?_;rintro e w2 ⟨rfl,hb2⟩;have HW2:Hid _:=HW.out.trans (hb2.mono HW.out.size);clear HQK hb2;cases hqk:q k with
   | true=>
    have HY2:Hid _:=HYES.out hqk;clear HYES HNO
    go_wp2_with fail
    go_roundw
    case rel=>exact⟨k+1,by omega,by go_num,HY2,HW2⟩
    case measure=>simp[intOf];omega
   | false=>
    have HX:Hid _:=HNO.out hqk;clear HYES HNO
    go_wp2_with fail
    go_ret
    exact⟨by rw[HX.out];rfl,HW2.out⟩
variable {p:Pl}{f:Nat→Fa}{xb xo icap fb fo lcap:Nat}{w0:World}{b:Nat}{m:Nat→Nat→Bool}{w:World}{n:Nat}
def Cp (w:World)(c b:Nat):Prop:=w.heap[c]? =some (.cells #[.pointer (some ⟨b,0,none⟩)] 170 (0,0))
theorem Cp.later {w w':World}{c b:Nat}(h:Cp w c b)(hb:Below w.heap.size w w'):Cp w' c b:=(hb.block _ (Array.getElem?_eq_some_iff.1 h).1).trans h
theorem Cp.c0 {w:World}{c b:Nat}(h:Cp w c b):w.cell? ⟨c,0,none⟩=some (.pointer (some ⟨b,0,none⟩)):=(Dg.cell_row h 0).trans rfl
def Ci (w:World)(c s:Nat):Prop:=w.heap[c]? =some (.cells #[.int .i64 (s:Int)] 3 (0,0))
theorem Ci.later {w w':World}{c b:Nat}(h:Ci w c b)(hb:Below w.heap.size w w'):Ci w' c b:=(hb.block _ (Array.getElem?_eq_some_iff.1 h).1).trans h
theorem Ci.c0 {w:World}{c s:Nat}(h:Ci w c s):w.cell? ⟨c,0,none⟩=some (.int .i64 (s:Int)):=(Dg.cell_row h 0).trans rfl
theorem untouched_any {v lv:Value}(hS:Sd w0 b v lv m w){c:Nat}(hc:Cp w c b){i:Nat}(hi:i < 64) :
  Calls Tryz.prog 123 #[.int .i64 (i:Int),.pointer (some ⟨c,0,none⟩)] w fun e w'=>e= .returned (.bool (!m 0 i))∧Below w.heap.size w w':=by
 have c0:=hc.c0;have c1:=hS.m0 hi;have hii:(i:Int) < 64:=by omega
 clear hS hc
 go_enter Tryz.func123,Tryz.ntmps123
 go_wp2_with fail
 go_ret
 exact⟨rfl,Below.refl _ _⟩
theorem clean_any {v lv:Value}(hS:Sd w0 b v lv m w){c:Nat}(hc:Cp w c b){i:Nat}(hi:i < 64) :
  Calls Tryz.prog 155 #[.int .i64 (i:Int),.pointer (some ⟨c,0,none⟩)] w fun e w'=>e= .returned (.bool (m 1 i))∧Below w.heap.size w w':=by
 have c0:=hc.c0;have c1:=hS.m1 hi;have hii:(i:Int) < 64:=by omega
 clear hS hc
 go_enter Tryz.func155,Tryz.ntmps155
 go_wp2_with fail
 go_ret
 exact⟨rfl,Below.refl _ _⟩
def okD (p:Pl)(m:Nat→Nat→Bool)(i:Nat):Bool:=m 3 i || (!p.vital i && m 2 i)
def okH (p:Pl)(f:Nat→Fa)(m:Nat→Nat→Bool)(i:Nat):Bool:= !decide ((f i).run=3) && !(p.vital i && m 2 i)
theorem done_any (hB:Bs p f xb xo icap fb fo lcap w0)(hn:p.n=n){lv:Value}(hS:Sd w0 b (.slice (some ⟨xb,xo,none⟩) n icap) lv m w){c:Nat}(hc:Cp w c b){i:Nat}(hi:i < n) :
  Calls Tryz.prog 156 #[.int .i64 (i:Int),.pointer (some ⟨c,0,none⟩)] w fun e w'=>e= .returned (.bool (okD p m i))∧Below w.heap.size w w':=by
 have hle:n≤64:=by have:=hB.le;omega
 have hic:n≤icap:=by have:=hB.icap;omega
 have c0:=hc.c0;have c1:=hS.c0;have c2:=hS.m2 (i:=i) (by omega);have c3:=hS.m3 (i:=i) (by omega);obtain⟨s1,s2,zi,za,av,am,ac,k0,k1,k2,k3,k4,k5,k6,k7,hz⟩:=(hB.later hS.bel).it i (by omega)
 have hii:(i:Int) < (n:Int):=by omega
 have hii2:(i:Int) < 64:=by omega
 obtain⟨E,HE⟩:∃E,Hid (E=okD p m i):=⟨_,rfl⟩
 rw[←HE.out]
 have HX:Hid (E=(m 3 i || (!p.vital i && m 2 i))):=HE.out;clear hS hc hB k0 k1 k2 k4 k5 k6 k7 hz HE;generalize p.vital i=vi at *;generalize m 2 i=m2 at *;generalize m 3 i=m3 at *;cases vi <;> cases m3 <;> (go_enter Tryz.func156,Tryz.ntmps156;go_wp2_with fail;go_ret;exact⟨by rw[HX.out];cases m2 <;> rfl,Below.refl _ _⟩)
theorem holds_any (hB:Bs p f xb xo icap fb fo lcap w0)(hn:p.n=n)(hS:Sd w0 b (.slice (some ⟨xb,xo,none⟩) n icap) (.slice (some ⟨fb,fo,none⟩) n lcap) m w){c:Nat}(hc:Cp w c b){i:Nat}(hi:i < n) :
  Calls Tryz.prog 157 #[.int .i64 (i:Int),.pointer (some ⟨c,0,none⟩)] w fun e w'=>e= .returned (.bool (okH p f m i))∧Below w.heap.size w w':=by
 have hle:n≤64:=by have:=hB.le;omega
 have hic:n≤icap:=by have:=hB.icap;omega
 have hlc:n≤lcap:=by have:=hB.lcap;omega
 have c0:=hc.c0;have c1:=hS.c0;have c2:=hS.m2 (i:=i) (by omega);have c3:=hS.c1;obtain⟨s1,s2,zi,za,av,am,ac,k0,k1,k2,k3,k4,k5,k6,k7,hz⟩:=(hB.later hS.bel).it i (by omega)
 obtain⟨f0,f1,f2,f3⟩:=(hB.later hS.bel).fa i (by omega)
 have hii:(i:Int) < (n:Int):=by omega
 have hii2:(i:Int) < 64:=by omega
 obtain⟨E,HE⟩:∃E,Hid (E=okH p f m i):=⟨_,rfl⟩
 rw[←HE.out]
 have HX:Hid (E=(!decide ((f i).run=3) && !(p.vital i && m 2 i))):=HE.out;clear hS hc hB k0 k1 k2 k4 k5 k6 k7 hz HE f1 f2 f3;generalize p.vital i=vi at *;generalize m 2 i=m2 at *;generalize (f i).run=r at *
 by_cases hr:r=3
 ·subst hr;have e1:((3:Int) !=3)=false:=rfl;cases vi <;> (go_enter Tryz.func157,Tryz.ntmps157;go_wp2_with fail;go_ret;exact⟨by rw[HX.out];cases m2 <;> rfl,Below.refl _ _⟩)
 ·have e1:(r !=3)=true:=by simpa using hr
  have HX2:Hid (E= !(vi && m2)):=by show _=_;rw[HX.out];simp[hr]
  clear HX;cases vi <;> (go_enter Tryz.func157,Tryz.ntmps157;go_wp2_with fail;go_ret;exact⟨by rw[HX2.out];cases m2 <;> rfl,Below.refl _ _⟩)
end Go.Proofs.YtieoppabellafaaGreatDoor.Sa
namespace Go.Proofs.YtieoppabellafaaGreatDoor.Sa
open Go.RowKit Go.Shelf Fc St
variable {p:Pl}{f:Nat→Fa}{xb xo icap fb fo lcap:Nat}{w0:World}{b:Nat}{m:Nat→Nat→Bool}{w:World}{n:Nat}
theorem Cp.new (w:World)(b:Nat):Cp (w.alloc (.cells #[.pointer (some ⟨b,0,none⟩)] 170)) w.heap.size b:=Dg.row_new w _ 170
theorem bodyClean_any (hB:Bs p f xb xo icap fb fo lcap w0)(hn:p.n=n){lv:Value}(hS:Sd w0 b (.slice (some ⟨xb,xo,none⟩) n icap) lv m w){s a:Nat}(hs:s < n)(ha:a≤4) :
  Calls Tryz.prog 128 #[.pointer (some ⟨b,0,none⟩),.int .i64 (s:Int),.int .i64 (a:Int)] w fun e w'=>e= .returned (.bool (allK p s a (m 1)))∧Below w.heap.size w w':=by
 have hb1:=bl1 w (.cells #[.pointer (some ⟨b,0,none⟩)] 170);have hc:=Cp.new w b;have hle:n≤64:=by have:=hB.le;omega
 have HE:Hid _:=every_any hB hn (hS.later hb1) 155 (.pointer (some ⟨w.heap.size,0,none⟩)) s a hs ha (m 1) (fun _ _=>by kernel_rfl) (fun wx i hb h1 h2=>clean_any ((hS.later hb1).later hb) (hc.later hb) (i:=i) (by omega));have c0:=hc.c0;have HB1:Hid _:=hb1;clear hB hS hc hb1
 go_enter Tryz.func128,Tryz.ntmps128
 go_wp2_with fail
 refine Calls.mono HE.out ?_;rintro e w2 ⟨rfl,hb2⟩;have HB2:Hid _:=HB1.out.trans (hb2.mono HB1.out.size);clear HE hb2 c0
 go_wp2_with fail
 go_ret
 exact⟨rfl,HB2.out⟩
theorem isWhole_any (hB:Bs p f xb xo icap fb fo lcap w0)(hn:p.n=n){lv:Value}(hS:Sd w0 b (.slice (some ⟨xb,xo,none⟩) n icap) lv m w){s a:Nat}(hs:s < n)(ha:a≤4) :
  Calls Tryz.prog 131 #[.pointer (some ⟨b,0,none⟩),.int .i64 (s:Int),.int .i64 (a:Int)] w fun e w'=>e= .returned (.bool (allK p s a (okD p m)))∧Below w.heap.size w w':=by
 have hb1:=bl1 w (.cells #[.pointer (some ⟨b,0,none⟩)] 170);have hc:=Cp.new w b;have HE:Hid _:=every_any hB hn (hS.later hb1) 156 (.pointer (some ⟨w.heap.size,0,none⟩)) s a hs ha (okD p m) (fun _ _=>by kernel_rfl) (fun wx i hb h1 h2=>done_any hB hn ((hS.later hb1).later hb) (hc.later hb) (i:=i) (by omega));have c0:=hc.c0;have HB1:Hid _:=hb1;clear hB hS hc hb1
 go_enter Tryz.func131,Tryz.ntmps131
 go_wp2_with fail
 refine Calls.mono HE.out ?_;rintro e w2 ⟨rfl,hb2⟩;have HB2:Hid _:=HB1.out.trans (hb2.mono HB1.out.size);clear HE hb2 c0
 go_wp2_with fail
 go_ret
 exact⟨rfl,HB2.out⟩
theorem falls_any (hB:Bs p f xb xo icap fb fo lcap w0)(hn:p.n=n)(hS:Sd w0 b (.slice (some ⟨xb,xo,none⟩) n icap) (.slice (some ⟨fb,fo,none⟩) n lcap) m w){s a:Nat}(hs:s < n)(ha:a≤4) :
  Calls Tryz.prog 132 #[.pointer (some ⟨b,0,none⟩),.int .i64 (s:Int),.int .i64 (a:Int)] w fun e w'=>e= .returned (.bool (!allK p s a (okH p f m)))∧Below w.heap.size w w':=by
 have hb1:=bl1 w (.cells #[.pointer (some ⟨b,0,none⟩)] 170);have hc:=Cp.new w b;have HE:Hid _:=every_any hB hn (hS.later hb1) 157 (.pointer (some ⟨w.heap.size,0,none⟩)) s a hs ha (okH p f m) (fun _ _=>by kernel_rfl) (fun wx i hb h1 h2=>holds_any hB hn ((hS.later hb1).later hb) (hc.later hb) (i:=i) (by omega));have c0:=hc.c0;have HB1:Hid _:=hb1;clear hB hS hc hb1
 go_enter Tryz.func132,Tryz.ntmps132
 go_wp2_with fail
 refine Calls.mono HE.out ?_;rintro e w2 ⟨rfl,hb2⟩;have HB2:Hid _:=HB1.out.trans (hb2.mono HB1.out.size);clear HE hb2 c0
 go_wp2_with fail
 go_ret
 exact⟨rfl,HB2.out⟩
theorem isOver_any (hB:Bs p f xb xo icap fb fo lcap w0)(hn:p.n=n)(hS:Sd w0 b (.slice (some ⟨xb,xo,none⟩) n icap) (.slice (some ⟨fb,fo,none⟩) n lcap) m w){s a:Nat}(hs:s < n)(ha:a≤4) :
  Calls Tryz.prog 130 #[.pointer (some ⟨b,0,none⟩),.int .i64 (s:Int),.int .i64 (a:Int)] w fun e w'=>e= .returned (.bool (allK p s a (m 1) && !allK p s a (okH p f m)))∧Below w.heap.size w w':=by
 have HE:Hid _:=bodyClean_any hB hn hS hs ha;have HF:Hid (∀w',Below w.heap.size w w'→_):=fun w' hb=>falls_any hB hn (hS.later hb) hs ha
 clear hB hS;generalize allK p s a (m 1)=q1 at *
 go_enter Tryz.func130,Tryz.ntmps130
 go_wp2_with fail
 refine Calls.mono HE.out ?_;rintro e w2 ⟨rfl,hb2⟩;have HB2:Hid _:=hb2;have HF2:Hid _:=HF.out w2 hb2;clear HE HF hb2;cases q1 with
 | false=>
  clear HF2
  go_wp2_with fail
  go_ret
  exact⟨rfl,HB2.out⟩
 | true=>
  go_wp2_with fail
  refine Calls.mono HF2.out ?_;rintro e w3 ⟨rfl,hb3⟩;have HB3:Hid _:=HB2.out.trans (hb3.mono HB2.out.size);clear HF2 HB2 hb3
  go_wp2_with fail
  go_ret
  exact⟨rfl,HB3.out⟩
end Go.Proofs.YtieoppabellafaaGreatDoor.Sa
