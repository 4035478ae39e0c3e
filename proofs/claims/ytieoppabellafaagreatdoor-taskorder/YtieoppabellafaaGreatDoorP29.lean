/- Texts of the seat, packed: Ll Lm. -/
import Derived.Test.YtieoppabellafaaGreatDoorP28
import Derived.Test.YtieoppabellafaaGreatDoorP26
import Derived.Lib.SliceRun
import Derived.Maps.AppendAt
set_option maxRecDepth 1000000
set_option maxHeartbeats 64000000
set_option linter.unusedVariables false
namespace Go.Proofs.YtieoppabellafaaGreatDoor.Sa
open Go.RowKit Go.Shelf Fc St
variable {p:Pl}{f:Nat→Fa}{xb xo icap fb fo lcap:Nat}{w:World}{n:Nat}
structure BdIs (p:Pl)(f:Nat→Fa)(w:World)(d:Nat)(w':World):Prop where
 bel:Below w.heap.size w w'
 low:w.heap.size≤d
 ex:∃(S A:Nat→Int) (C:Nat→Bool),w'.heap[d]? =some (.cells (brdL p.n S A (Mf p f) C).toArray 139 (0,0))∧Upk p f p.n S A∧∀i,i < p.n→C i=(W p f i).clean
theorem sd_init (w:World)(v lv:Value):Sd w (w.heap.size+1) v lv (fun _ _=>false) ((w.alloc (.cells #[v] 28)).alloc (.cells ((Tryz.zeroCells172.setIfInBounds 0 v).setIfInBounds 1 lv) 172)):=by
 rw[zero95]
 have hb1:=bl1 w (.cells #[v] 28);refine⟨hb1.alloc (by simp) _,by omega,?_⟩
 have:=Dg.row_new (w.alloc (.cells #[v] 28)) (stL v lv fun _ _=>false).toArray 172;rw[World.size_alloc] at this
 exact this
theorem boardOf_any (hB:Bs p f xb xo icap fb fo lcap w)(hn:p.n=n) :
  Calls Tryz.prog 61 #[.agg #[.slice (some ⟨xb,xo,none⟩) n icap],.slice (some ⟨fb,fo,none⟩) n lcap] w fun e w'=>∃d,e= .returned (.pointer (some ⟨d,0,none⟩))∧BdIs p f w d w':=by
 have hle:n≤64:=by have:=hB.le;omega
 have hic:n≤icap:=by have:=hB.icap;omega
 have hlc:n≤lcap:=by have:=hB.lcap;omega
 have r0:=Dg.row_new w #[.slice (some ⟨xb,xo,none⟩) n icap] 28;have c0:=(Dg.cell_row r0 0).trans rfl;have HS0:Hid _:=sd_init w (.slice (some ⟨xb,xo,none⟩) n icap) (.slice (some ⟨fb,fo,none⟩) n lcap);have HB:Hid _:=hB;have HN:Hid _:=hn;clear r0 hB hn
 go_enter Tryz.func61,Tryz.ntmps61
 go_wp2_with fail
 generalize (w.alloc (.cells #[.slice (some ⟨xb,xo,none⟩) n icap] 28)).alloc (.cells ((Tryz.zeroCells172.setIfInBounds 0 (.slice (some ⟨xb,xo,none⟩) n icap)).setIfInBounds 1 (.slice (some ⟨fb,fo,none⟩) n lcap)) 172)=w1 at *;generalize w.heap.size+1=b at *;clear c0;refine Calls.mono (mark0_any HB.out HN.out HS0.out) ?_;rintro e w2 ⟨rfl,m1,hS1,hA1⟩;have HS1:Hid _:=hS1;have HA1:Hid _:=hA1;clear hS1 hA1 HS0
 go_wp2_with fail
 refine Calls.mono (mark1_any HB.out HN.out HS1.out) ?_;rintro e w3 ⟨rfl,m2,hS2,hA2⟩;have HS2:Hid _:=hS2;have HA2:Hid _:=hA2;clear hS2 hA2 HS1
 go_wp2_with fail
 refine Calls.mono (mark2_any HB.out HN.out HS2.out (fun i hi=>HA2.out.from_ i (by omega) hi)) ?_;rintro e w4 ⟨rfl,m3,hS3,hA3⟩;have HS3:Hid _:=hS3;have HA3:Hid _:=hA3;clear hS3 hA3 HS2
 go_wp2_with fail
 refine Calls.mono (mark3_any HB.out HN.out HS3.out (fun i hi=>(HA3.out.rest 1 i (by decide)).trans (HA2.out.from_ i (by omega) hi)) (fun i hi=>HA3.out.from_ i (by omega) hi)) ?_;rintro e w5 ⟨rfl,m4,hS4,hA4⟩;have HMO:Hid (Mok p f n m4):=⟨fun i hi=>(hA4.rest 0 i (by decide)).trans ((HA3.out.rest 0 i (by decide)).trans ((HA2.out.rest 0 i (by decide)).trans (HA1.out.from_ i (by omega) hi))),fun i hi=>(hA4.rest 1 i (by decide)).trans ((HA3.out.rest 1 i (by decide)).trans (HA2.out.from_ i (by omega) hi)),fun i hi=>(hA4.rest 2 i (by decide)).trans (HA3.out.from_ i (by omega) hi),fun i hi=>hA4.from_ i (by omega) hi⟩;have HS4:Hid _:=hS4;clear hS4 hA4 HS3 HA1 HA2 HA3 m1 m2 m3
 go_wp2_with fail
 have hS0:Sd w b (.slice (some ⟨xb,xo,none⟩) n icap) (.slice (some ⟨fb,fo,none⟩) n lcap) m4 w5.drew:=HS4.out.later (Below.refl _ _).drew;have hCUR:Sd w b (.slice (some ⟨xb,xo,none⟩) n icap) (.slice (some ⟨fb,fo,none⟩) n lcap) m4 w5.drew:=hS0;have HFA:Hid (∀wx,Sd w b (.slice (some ⟨xb,xo,none⟩) n icap) (.slice (some ⟨fb,fo,none⟩) n lcap) m4 wx→Calls Tryz.prog 98 #[.pointer (some ⟨b,0,none⟩)] wx fun e w'=>e= .returned (.agg (bodL (Mf p f)).toArray)∧Sd w b (.slice (some ⟨xb,xo,none⟩) n icap) (.slice (some ⟨fb,fo,none⟩) n lcap) m4 w'):=fun wx h=>Calls.mono (fallingM_any HB.out HN.out h HMO.out) (by rintro e w' ⟨rfl,hb⟩;exact⟨rfl,h.later hb⟩)
 refine region_thenG (β:=Nat) (fun d=>[(42,.pointer (some ⟨b,0,none⟩)),(43,.pointer (some ⟨b,0,none⟩)),(44,.pointer (some ⟨b,0,none⟩)),(45,.slice (some ⟨xb,xo,none⟩) n icap),(46,.int .i64 n),(47,.pointer (some ⟨b,0,none⟩)),(48,.pointer (some ⟨b,0,none⟩)),(49,.pointer (some ⟨b,66,none⟩)),(50,.agg (mrkL (m4 1)).toArray),(51,.pointer (some ⟨b,0,none⟩)),(52,.agg (bodL (Mf p f)).toArray),(53,.agg (brdL (n:Int) (fun _=>0) (fun _=>0) (Mf p f) (m4 1)).toArray),(54,.pointer (some ⟨d,0,none⟩)),(6,.pointer (some ⟨d,0,none⟩))]) (fun d w'=>Bl w b d (.slice (some ⟨xb,xo,none⟩) n icap) (.slice (some ⟨fb,fo,none⟩) n lcap) m4 (n:Int) (fun _=>0) (fun _=>0) (Mf p f) (m4 1) w') ?_ ?_
 ·refine wp_region_held (S:=fun w'=>Sd w b (.slice (some ⟨xb,xo,none⟩) n icap) (.slice (some ⟨fb,fo,none⟩) n lcap) m4 w') (by kernel_rfl) ?_;simp only[List.size_toArray,List.length_cons,List.length_nil,Nat.reduceAdd,Array.replicate_succ,Array.replicate_zero,List.push_toArray,List.nil_append,List.cons_append];refine tK 0 42 (.pointer (some ⟨b,0,none⟩)) 13 rfl hS0 ?_;refine tG 1 43 (.pointer (some ⟨b,0,none⟩)) 12 rfl hS0 ?_;refine tG 2 44 (.pointer (some ⟨b,0,none⟩)) 11 rfl hS0 ?_;refine tV 3 45 (.slice (some ⟨xb,xo,none⟩) n icap) 10 rfl hS0 ?_ (fun wx h=>by have z0:=h.c0;go_simp);refine tG 4 46 (.int .i64 n) 9 rfl hS0 ?_;refine tK 5 47 (.pointer (some ⟨b,0,none⟩)) 8 rfl hS0 ?_;refine tG 6 48 (.pointer (some ⟨b,0,none⟩)) 7 rfl hS0 ?_;refine tG 7 49 (.pointer (some ⟨b,66,none⟩)) 6 rfl hS0 ?_;refine tV 8 50 (.agg (mrkL (m4 1)).toArray) 5 rfl hS0 ?_ (fun wx h=>load53 h (x:= .tmp 49) rfl rfl);refine tK 9 51 (.pointer (some ⟨b,0,none⟩)) 4 rfl hS0 ?_;refine oneW (R:=fun w'=>Sd w b (.slice (some ⟨xb,xo,none⟩) n icap) (.slice (some ⟨fb,fo,none⟩) n lcap) m4 w') (i:=10) (d:=52) (f:=98) (args:= #[.pointer (some ⟨b,0,none⟩)]) (v:= .agg (bodL (Mf p f)).toArray) (fuel:=3) rfl rfl (by kernel_rfl) (by kernel_rfl) (fun _=>by kernel_rfl) (HFA.out _ hCUR) (fun w' h=>h) (fun wz hR10=>?_);simp only[List.setIfInBounds_toArray,List.set_cons_succ,List.set_cons_zero];refine tV 11 53 (.agg (brdL (n:Int) (fun _=>0) (fun _=>0) (Mf p f) (m4 1)).toArray) 2 rfl (hR10) ?_ (fun wx h=>build55_run (x:= .tmp 46) (y:= .tmp 50) (z:= .tmp 52) rfl rfl rfl rfl);refine wpAnyH_all (fuel:=1) (rs:=[12]) (by kernel_rfl) (by decide) (List.forall_mem_singleton.2 ?_);refine wpOp_value (i:=12) (d:=54) (v:= .pointer (some ⟨wz.heap.size,0,none⟩)) (w':=wz.alloc (.cells (brdL (n:Int) (fun _=>0) (fun _=>0) (Mf p f) (m4 1)).toArray 139)) rfl rfl (by kernel_rfl) (box55_run (x:= .tmp 53) rfl rfl) ⟨((hR10)).later (bl1 _ _),?_⟩;simp only[List.setIfInBounds_toArray,List.set_cons_succ,List.set_cons_zero];have hSm12:Sd w b (.slice (some ⟨xb,xo,none⟩) n icap) (.slice (some ⟨fb,fo,none⟩) n lcap) m4 (wz.alloc (.cells (brdL (n:Int) (fun _=>0) (fun _=>0) (Mf p f) (m4 1)).toArray 139)):=((hR10)).later (bl1 _ _);have hCm12:Bl w b wz.heap.size (.slice (some ⟨xb,xo,none⟩) n icap) (.slice (some ⟨fb,fo,none⟩) n lcap) m4 (n:Int) (fun _=>0) (fun _=>0) (Mf p f) (m4 1) (wz.alloc (.cells (brdL (n:Int) (fun _=>0) (fun _=>0) (Mf p f) (m4 1)).toArray 139)):=⟨hSm12,hR10.bel.size,(by have:=(Array.getElem?_eq_some_iff.1 hR10.sb).1;omega),Dg.row_new wz _ 139⟩;refine tK 13 6 (.pointer (some ⟨wz.heap.size,0,none⟩)) 0 rfl hSm12 ?_;refine wpAnyH_done (by kernel_rfl) ?_ _;exact⟨rfl,wz.heap.size,by kernel_rfl,hCm12⟩
 ·rintro d w9 hF;simp only[setAll,List.setIfInBounds_toArray,List.set_cons_succ,List.set_cons_zero];have HF9:Hid _:=hF;clear hF HFA hS0 hCUR HS4;have z0:=HF9.out.sd.c0
  go_wp2_with fail
  go_loopw [60] (fun iv wr=>∃(k:Nat),k≤n∧iv= .int .i64 k∧Hid (∃S A,Bl w b d (.slice (some ⟨xb,xo,none⟩) n icap) (.slice (some ⟨fb,fo,none⟩) n lcap) m4 (n:Int) S A (Mf p f) (m4 1) wr∧Upk p f k S A)) (fun iv _=>n - (intOf iv).toNat)
  case atStart=>exact⟨0,Nat.zero_le _,by go_num,_,_,HF9.out,fun i hi=>by omega,fun i hi=>by omega⟩
  case round=>
   obtain⟨k,hk,rfl,HM⟩:=hrel
   rename World=>wr
   obtain⟨S0,A0,hBL,hUp⟩:=HM.out
   by_cases hlt:k < n
   rotate_left
   ·obtain rfl:k=n:=by omega
    have HBL:Hid _:=hBL;have HUp:Hid _:=hUp;clear hBL hUp HM HF9
    go_wp2_with fail
    go_ret
    refine⟨d,rfl,HBL.out.sd.bel,HBL.out.low,S0,A0,m4 1,?_,?_,fun i hi=>HMO.out.m1 i (by have:=HN.out;omega)⟩
    ·rw[HN.out];exact HBL.out.bd
    ·rw[HN.out];exact HUp.out
   ·obtain⟨s1,s2,zi,za,av,am,ac,k0,k1,k2,k3,k4,k5,k6,k7,hz⟩:=(HB.out.later hBL.sd.bel).it k (by have:=HN.out;omega)
    have hii:(k:Int) < (n:Int):=by omega
    have hk64:(k:Int) < 64:=by omega
    have HBL:Hid _:=hBL;have HUp:Hid _:=hUp;have HZ:Hid _:=hz;have hdx:wr.heap.size≠d:=by have:=(Array.getElem?_eq_some_iff.1 hBL.bd).1;omega
    clear hBL hUp HM HF9 hz;have HSUB:Hid (p.sub k=p.sub k):=rfl;obtain⟨su,HSU⟩:∃su,Hid (p.sub k=su):=⟨_,rfl⟩
    obtain⟨vi,HVI⟩:∃vi,Hid (p.vital k=vi):=⟨_,rfl⟩
    obtain⟨t,HT⟩:∃t,Hid (p.alts k=t):=⟨_,rfl⟩
    rw[HSU.out] at k2
    rw[HVI.out] at k3
    rw[HT.out] at k4
    have rx:=Dg.row_new wr #[.string s1,.string s2,.bool su,.bool vi,.int .i64 (t:Int),.int .i64 zi,.int .i64 za,.slice av am ac] 50;have HBX:Hid (Bx w b d wr.heap.size (.slice (some ⟨xb,xo,none⟩) n icap) (.slice (some ⟨fb,fo,none⟩) n lcap) m4 (n:Int) S0 A0 (Mf p f) (m4 1) #[.string s1,.string s2,.bool su,.bool vi,.int .i64 (t:Int),.int .i64 zi,.int .i64 za,.slice av am ac] (wr.alloc (.cells #[.string s1,.string s2,.bool su,.bool vi,.int .i64 (t:Int),.int .i64 zi,.int .i64 za,.slice av am ac] 50))):=⟨HBL.out.later (bl1 _ _),hdx,rx⟩;have x0:=(Dg.cell_row rx 0).trans rfl;have x1:=(Dg.cell_row rx 1).trans rfl;have x2:=(Dg.cell_row rx 2).trans rfl;have x3:=(Dg.cell_row rx 3).trans rfl;have x4:=(Dg.cell_row rx 4).trans rfl;have x5:=(Dg.cell_row rx 5).trans rfl;have x6:=(Dg.cell_row rx 6).trans rfl;have x7:=(Dg.cell_row rx 7).trans rfl;clear rx HBL;cases su with
    | false=>
     go_wp2_with fail
     clear k0 k1 k2 k3 k4 k5 k6 k7 x0 x1 x2 x3 x4 x5 x6 x7 hdx;change Code.wp _ _ _ _ (wr.alloc (.cells #[.string s1,.string s2,.bool false,.bool vi,.int .i64 (t:Int),.int .i64 zi,.int .i64 za,.slice av am ac] 50));generalize wr.alloc (.cells #[.string s1,.string s2,.bool false,.bool vi,.int .i64 (t:Int),.int .i64 zi,.int .i64 za,.slice av am ac] 50)=wa at *;generalize wr.heap.size=x9 at *;have HFC:Hid (∀W,Below w.heap.size w W→W.cell? ⟨fb,fo+k * 4,none⟩=some (.int .i64 (f k).run)∧W.cell? ⟨fb,fo+k * 4+1,none⟩=some (.int .i64 (f k).tries)∧W.cell? ⟨fb,fo+k * 4+2,none⟩=some (.int .i64 (f k).slips)∧W.cell? ⟨fb,fo+k * 4+3,none⟩=some (.bool (f k).un)):=fun W hb=>(HB.out.later hb).fa k (by have:=HN.out;omega)
     have HF:Hid (FaV (f k)= .agg #[.int .i64 (f k).run,.int .i64 (f k).tries,.int .i64 (f k).slips,.bool (f k).un]):=rfl;have HST:Hid (∀wx,(Bx w b d x9 (.slice (some ⟨xb,xo,none⟩) n icap) (.slice (some ⟨fb,fo,none⟩) n lcap) m4 (n:Int) S0 A0 (Mf p f) (m4 1) #[.string s1,.string s2,.bool false,.bool vi,.int .i64 (t:Int),.int .i64 zi,.int .i64 za,.slice av am ac] wx)→Calls Tryz.prog 99 #[FaV (f k)] wx fun e w'=>e= .returned (.int .i64 (stepS (f k)))∧(Bx w b d x9 (.slice (some ⟨xb,xo,none⟩) n icap) (.slice (some ⟨fb,fo,none⟩) n lcap) m4 (n:Int) S0 A0 (Mf p f) (m4 1) #[.string s1,.string s2,.bool false,.bool vi,.int .i64 (t:Int),.int .i64 zi,.int .i64 za,.slice av am ac] w')):=fun wx h=>Calls.mono (stepStatus_any (f k) (HB.out.fok k (by have:=HN.out;omega)) wx) (by rintro e w' ⟨rfl,hb⟩;exact⟨rfl,h.later hb⟩)
     have HUN:Hid (Upk p f (k+1) (putN S0 k (stepS (f k))) (putN A0 k (-1))):=HUp.out.next (by unfold St.S;rw[HSU.out];rfl) (by unfold atP;rw[HSU.out];rfl)
     have hCUR:Bx w b d x9 (.slice (some ⟨xb,xo,none⟩) n icap) (.slice (some ⟨fb,fo,none⟩) n lcap) m4 (n:Int) S0 A0 (Mf p f) (m4 1) #[.string s1,.string s2,.bool false,.bool vi,.int .i64 (t:Int),.int .i64 zi,.int .i64 za,.slice av am ac] wa.drew:=HBX.out.later (Below.refl _ _).drew;have hS0:∃S9 A9,Bx w b d x9 (.slice (some ⟨xb,xo,none⟩) n icap) (.slice (some ⟨fb,fo,none⟩) n lcap) m4 (n:Int) S9 A9 (Mf p f) (m4 1) #[.string s1,.string s2,.bool false,.bool vi,.int .i64 (t:Int),.int .i64 zi,.int .i64 za,.slice av am ac] wa.drew:=⟨_,_,hCUR⟩
     refine region_thenF [(68,.pointer (some ⟨d,0,none⟩)),(69,.int .i64 k),(70,.pointer (some ⟨d,0,none⟩)),(71,.int .i64 k),(72,.slice (some ⟨fb,fo,none⟩) n lcap),(73,.int .i64 k),(74,.pointer (some ⟨fb,fo+k * 4,none⟩)),(75,FaV (f k)),(76,.int .i64 (stepS (f k))),(77,.pointer (some ⟨d,0,none⟩)),(78,.pointer (some ⟨d,65,none⟩)),(79,.pointer (some ⟨d,65+k,none⟩)),(80,.pointer (some ⟨d,0,none⟩)),(81,.pointer (some ⟨d,1,none⟩)),(82,.pointer (some ⟨d,1+k,none⟩))] (fun w'=>Bx w b d x9 (.slice (some ⟨xb,xo,none⟩) n icap) (.slice (some ⟨fb,fo,none⟩) n lcap) m4 (n:Int) (putN S0 k (stepS (f k))) (putN A0 k (-1)) (Mf p f) (m4 1) #[.string s1,.string s2,.bool false,.bool vi,.int .i64 (t:Int),.int .i64 zi,.int .i64 za,.slice av am ac] w') ?_ ?_
     ·refine wp_region_held (S:=fun w'=>∃S9 A9,Bx w b d x9 (.slice (some ⟨xb,xo,none⟩) n icap) (.slice (some ⟨fb,fo,none⟩) n lcap) m4 (n:Int) S9 A9 (Mf p f) (m4 1) #[.string s1,.string s2,.bool false,.bool vi,.int .i64 (t:Int),.int .i64 zi,.int .i64 za,.slice av am ac] w') (by kernel_rfl) ?_;simp only[List.size_toArray,List.length_cons,List.length_nil,Nat.reduceAdd,Array.replicate_succ,Array.replicate_zero,List.push_toArray,List.nil_append,List.cons_append];refine tK 0 68 (.pointer (some ⟨d,0,none⟩)) 16 rfl hS0 ?_;refine tK 1 69 (.int .i64 k) 15 rfl hS0 ?_;refine tK 2 70 (.pointer (some ⟨d,0,none⟩)) 14 rfl hS0 ?_;refine tK 3 71 (.int .i64 k) 13 rfl hS0 ?_;refine tK 4 72 (.slice (some ⟨fb,fo,none⟩) n lcap) 12 rfl hS0 ?_;refine tK 5 73 (.int .i64 k) 11 rfl hS0 ?_;refine tG 6 74 (.pointer (some ⟨fb,fo+k * 4,none⟩)) 10 rfl hS0 ?_;refine tV 7 75 (FaV (f k)) 9 rfl hS0 ?_ (fun wx h=>by rw[HF.out];obtain⟨_,_,h9⟩:=h;obtain⟨y0,y1,y2,y3⟩:=HFC.out wx h9.bl.sd.bel;go_simp);refine tG 9 77 (.pointer (some ⟨d,0,none⟩)) 8 rfl hS0 ?_;refine tG 10 78 (.pointer (some ⟨d,65,none⟩)) 7 rfl hS0 ?_;refine tG 13 80 (.pointer (some ⟨d,0,none⟩)) 6 rfl hS0 ?_;refine tG 14 81 (.pointer (some ⟨d,1,none⟩)) 5 rfl hS0 ?_;refine oneW (R:=fun w'=>Bx w b d x9 (.slice (some ⟨xb,xo,none⟩) n icap) (.slice (some ⟨fb,fo,none⟩) n lcap) m4 (n:Int) S0 A0 (Mf p f) (m4 1) #[.string s1,.string s2,.bool false,.bool vi,.int .i64 (t:Int),.int .i64 zi,.int .i64 za,.slice av am ac] w') (i:=8) (d:=76) (f:=99) (args:= #[FaV (f k)]) (v:= .int .i64 (stepS (f k))) (fuel:=4) rfl rfl (by kernel_rfl) (by kernel_rfl) (fun _=>by kernel_rfl) (HST.out _ hCUR) (fun w' h=>⟨_,_,h⟩) (fun wz hR8=>?_);simp only[List.setIfInBounds_toArray,List.set_cons_succ,List.set_cons_zero];refine tG 11 79 (.pointer (some ⟨d,65+k,none⟩)) 3 rfl (⟨_,_,hR8⟩) ?_;refine wpAnyH_all (fuel:=2) (rs:=[12]) (by kernel_rfl) (by decide) (List.forall_mem_singleton.2 ?_);have hP1:=hR8.putA (i:=k) (-1) (by omega);have c9:=brd_cellA hR8.bl.bd (i:=k) (by omega);have f9:=Dg.froz_row hR8.bl.bd (65+k);refine wpOp_skip (i:=12) (w':=wz.setCell ⟨d,65+k,none⟩ (.int .i64 (-1))) rfl rfl (by kernel_rfl) (by go_simp) ⟨⟨_,_,hP1⟩,?_⟩;clear c9 f9;refine tG 15 82 (.pointer (some ⟨d,1+k,none⟩)) 1 rfl ⟨_,_,hP1⟩ ?_;refine wpAnyH_all (fuel:=0) (rs:=[16]) (by kernel_rfl) (by decide) (List.forall_mem_singleton.2 ?_);have hP2:=hP1.putS (i:=k) (stepS (f k)) (by omega);have c9:=brd_cellS hP1.bl.bd (i:=k) (by omega);have f9:=Dg.froz_row hP1.bl.bd (1+k);refine wpOp_skip (i:=16) (w':=(wz.setCell ⟨d,65+k,none⟩ (.int .i64 (-1))).setCell ⟨d,1+k,none⟩ (.int .i64 (stepS (f k)))) rfl rfl (by kernel_rfl) (by go_simp) ⟨⟨_,_,hP2⟩,?_⟩;clear c9 f9;refine wpAnyH_done (by kernel_rfl) ?_ _;exact⟨rfl,by kernel_rfl,hP2⟩
     ·intro w9 hF;simp only[setAll,List.setIfInBounds_toArray,List.set_cons_succ,List.set_cons_zero];have HF9:Hid _:=hF;clear hF
      go_wp2_with fail
      go_roundw
      case rel=>exact⟨k+1,by omega,by go_num,_,_,HF9.out.bl,HUN.out⟩
      case measure=>simp[intOf] <;> omega
    | true=>
     go_wp2_with fail
     clear k0 k1 k2 k3 k4 k5 k6 k7 x0 x1 x2 x3 x4 x5 x6 x7 hdx;change Code.wp _ _ _ _ (wr.alloc (.cells #[.string s1,.string s2,.bool true,.bool vi,.int .i64 (t:Int),.int .i64 zi,.int .i64 za,.slice av am ac] 50));generalize wr.alloc (.cells #[.string s1,.string s2,.bool true,.bool vi,.int .i64 (t:Int),.int .i64 zi,.int .i64 za,.slice av am ac] 50)=wa at *;generalize wr.heap.size=x9 at *;have HIV:Hid (ItA s1 s2 true vi (t:Int) zi za (.slice av am ac)= .agg #[.string s1,.string s2,.bool true,.bool vi,.int .i64 (t:Int),.int .i64 zi,.int .i64 za,.slice av am ac]):=rfl;have HBO:Hid (∀wx,(Bx w b d x9 (.slice (some ⟨xb,xo,none⟩) n icap) (.slice (some ⟨fb,fo,none⟩) n lcap) m4 (n:Int) S0 A0 (Mf p f) (m4 1) #[.string s1,.string s2,.bool true,.bool vi,.int .i64 (t:Int),.int .i64 zi,.int .i64 za,.slice av am ac] wx)→Calls Tryz.prog 100 #[.pointer (some ⟨b,0,none⟩),.int .i64 (k:Int)] wx fun e w'=>e= .returned (.int .i64 (atP p f k))∧(Bx w b d x9 (.slice (some ⟨xb,xo,none⟩) n icap) (.slice (some ⟨fb,fo,none⟩) n lcap) m4 (n:Int) S0 A0 (Mf p f) (m4 1) #[.string s1,.string s2,.bool true,.bool vi,.int .i64 (t:Int),.int .i64 zi,.int .i64 za,.slice av am ac] w')):=fun wx h=>Calls.mono (bodyM_any HB.out HN.out h.bl.sd HMO.out hlt HSU.out) (by rintro e w' ⟨rfl,hb⟩;exact⟨rfl,h.later hb⟩)
     have HSS:Hid (∀wx,(Bx w b d x9 (.slice (some ⟨xb,xo,none⟩) n icap) (.slice (some ⟨fb,fo,none⟩) n lcap) m4 (n:Int) S0 A0 (Mf p f) (m4 1) #[.string s1,.string s2,.bool true,.bool vi,.int .i64 (t:Int),.int .i64 zi,.int .i64 za,.slice av am ac] wx)→Calls Tryz.prog 101 #[.pointer (some ⟨b,0,none⟩),.int .i64 (k:Int),.bool (halted p f k)] wx fun e w'=>e= .returned (.int .i64 (St.S p f k))∧(Bx w b d x9 (.slice (some ⟨xb,xo,none⟩) n icap) (.slice (some ⟨fb,fo,none⟩) n lcap) m4 (n:Int) S0 A0 (Mf p f) (m4 1) #[.string s1,.string s2,.bool true,.bool vi,.int .i64 (t:Int),.int .i64 zi,.int .i64 za,.slice av am ac] w')):=fun wx h=>Calls.mono (sagaStatusM_any hle h.bl.sd HMO.out hlt HSU.out) (by rintro e w' ⟨rfl,hb⟩;exact⟨rfl,h.later hb⟩)
     have HAR:Hid (∀wx,(Bx w b d x9 (.slice (some ⟨xb,xo,none⟩) n icap) (.slice (some ⟨fb,fo,none⟩) n lcap) m4 (n:Int) S0 A0 (Mf p f) (m4 1) #[.string s1,.string s2,.bool true,.bool vi,.int .i64 (t:Int),.int .i64 zi,.int .i64 za,.slice av am ac] wx)→Calls Tryz.prog 102 #[.pointer (some ⟨d,129,none⟩),.int .i64 (k:Int),ItA s1 s2 true vi (t:Int) zi za (.slice av am ac)] wx fun e w'=>e= .returned (.bool (halted p f k))∧(Bx w b d x9 (.slice (some ⟨xb,xo,none⟩) n icap) (.slice (some ⟨fb,fo,none⟩) n lcap) m4 (n:Int) S0 A0 (Mf p f) (m4 1) #[.string s1,.string s2,.bool true,.bool vi,.int .i64 (t:Int),.int .i64 zi,.int .i64 za,.slice av am ac] w')):=fun wx h=>by
      have h9:(decide (0 < k) && halted p f k)=halted p f k:=by
       by_cases h0:0 < k
       ·simp[h0]
       ·obtain rfl:k=0:=by omega
        rw[halted_root]
        rfl
      rw[←h9]
      refine Calls.mono (around_any (w:=wx) d 129 k s1 s2 true vi (t:Int) zi za av am ac (halted p f k) (by omega) (fun h1=>?_)) (by rintro e w' ⟨rfl,hb⟩;exact⟨rfl,h.later hb⟩);obtain⟨e1,e2⟩:=HZ.out h1
      obtain⟨e3,e4,e5⟩:=HB.out.ok.inn k h1 (by have:=HN.out;omega)
      have e6:=HB.out.alts (p.inn k) (by have:=HN.out;omega);refine⟨p.inn k,p.alt k,e1,e2,by omega,by omega,?_⟩
      have h8:=brd_cellM h.bl.bd (s:=p.inn k) (a:=p.alt k) (by omega) (by omega);rw[halt_at HB.out.ok h1 (by have:=HN.out;omega)] at h8
      exact h8
     have HUN:Hid (Upk p f (k+1) (putN S0 k (St.S p f k)) (putN A0 k (atP p f k))):=HUp.out.next rfl rfl
     have hCUR:Bx w b d x9 (.slice (some ⟨xb,xo,none⟩) n icap) (.slice (some ⟨fb,fo,none⟩) n lcap) m4 (n:Int) S0 A0 (Mf p f) (m4 1) #[.string s1,.string s2,.bool true,.bool vi,.int .i64 (t:Int),.int .i64 zi,.int .i64 za,.slice av am ac] wa.drew:=HBX.out.later (Below.refl _ _).drew;have hS0:∃S9 A9,Bx w b d x9 (.slice (some ⟨xb,xo,none⟩) n icap) (.slice (some ⟨fb,fo,none⟩) n lcap) m4 (n:Int) S9 A9 (Mf p f) (m4 1) #[.string s1,.string s2,.bool true,.bool vi,.int .i64 (t:Int),.int .i64 zi,.int .i64 za,.slice av am ac] wa.drew:=⟨_,_,hCUR⟩
     generalize atP p f k=ak at *;generalize halted p f k=hk9 at *;generalize St.S p f k=sk at *;refine region_thenQ [(83,.pointer (some ⟨d,0,none⟩)),(84,.int .i64 k),(85,.pointer (some ⟨d,0,none⟩)),(86,.int .i64 k),(87,.pointer (some ⟨b,0,none⟩)),(88,.int .i64 k),(89,.int .i64 ak),(90,.pointer (some ⟨b,0,none⟩)),(91,.int .i64 k),(92,.pointer (some ⟨d,0,none⟩)),(93,.pointer (some ⟨d,0,none⟩)),(94,.pointer (some ⟨d,129,none⟩)),(95,.int .i64 k),(96,ItA s1 s2 true vi (t:Int) zi za (.slice av am ac)),(97,.bool hk9),(98,.int .i64 sk),(99,.pointer (some ⟨d,0,none⟩)),(100,.pointer (some ⟨d,65,none⟩)),(101,.pointer (some ⟨d,65+k,none⟩)),(102,.pointer (some ⟨d,0,none⟩)),(103,.pointer (some ⟨d,1,none⟩)),(104,.pointer (some ⟨d,1+k,none⟩))] (fun w'=>Bx w b d x9 (.slice (some ⟨xb,xo,none⟩) n icap) (.slice (some ⟨fb,fo,none⟩) n lcap) m4 (n:Int) (putN S0 k (sk)) (putN A0 k (ak)) (Mf p f) (m4 1) #[.string s1,.string s2,.bool true,.bool vi,.int .i64 (t:Int),.int .i64 zi,.int .i64 za,.slice av am ac] w') ?_ ?_
     ·refine wp_region_held (S:=fun w'=>∃S9 A9,Bx w b d x9 (.slice (some ⟨xb,xo,none⟩) n icap) (.slice (some ⟨fb,fo,none⟩) n lcap) m4 (n:Int) S9 A9 (Mf p f) (m4 1) #[.string s1,.string s2,.bool true,.bool vi,.int .i64 (t:Int),.int .i64 zi,.int .i64 za,.slice av am ac] w') (by kernel_rfl) ?_;simp only[List.size_toArray,List.length_cons,List.length_nil,Nat.reduceAdd,Array.replicate_succ,Array.replicate_zero,List.push_toArray,List.nil_append,List.cons_append];refine tK 0 83 (.pointer (some ⟨d,0,none⟩)) 23 rfl hS0 ?_;refine tK 1 84 (.int .i64 k) 22 rfl hS0 ?_;refine tK 2 85 (.pointer (some ⟨d,0,none⟩)) 21 rfl hS0 ?_;refine tK 3 86 (.int .i64 k) 20 rfl hS0 ?_;refine tK 4 87 (.pointer (some ⟨b,0,none⟩)) 19 rfl hS0 ?_;refine tK 5 88 (.int .i64 k) 18 rfl hS0 ?_;refine tK 7 90 (.pointer (some ⟨b,0,none⟩)) 17 rfl hS0 ?_;refine tK 8 91 (.int .i64 k) 16 rfl hS0 ?_;refine tK 9 92 (.pointer (some ⟨d,0,none⟩)) 15 rfl hS0 ?_;refine tG 10 93 (.pointer (some ⟨d,0,none⟩)) 14 rfl hS0 ?_;refine tG 11 94 (.pointer (some ⟨d,129,none⟩)) 13 rfl hS0 ?_;refine tK 12 95 (.int .i64 k) 12 rfl hS0 ?_;refine tV 13 96 (ItA s1 s2 true vi (t:Int) zi za (.slice av am ac)) 11 rfl hS0 ?_ (fun wx h=>by rw[HIV.out];obtain⟨_,_,h9⟩:=h;have x0:=(Dg.cell_row h9.row 0).trans rfl;have x1:=(Dg.cell_row h9.row 1).trans rfl;have x2:=(Dg.cell_row h9.row 2).trans rfl;have x3:=(Dg.cell_row h9.row 3).trans rfl;have x4:=(Dg.cell_row h9.row 4).trans rfl;have x5:=(Dg.cell_row h9.row 5).trans rfl;have x6:=(Dg.cell_row h9.row 6).trans rfl;have x7:=(Dg.cell_row h9.row 7).trans rfl;go_simp);refine tG 16 99 (.pointer (some ⟨d,0,none⟩)) 10 rfl hS0 ?_;refine tG 17 100 (.pointer (some ⟨d,65,none⟩)) 9 rfl hS0 ?_;refine tG 20 102 (.pointer (some ⟨d,0,none⟩)) 8 rfl hS0 ?_;refine tG 21 103 (.pointer (some ⟨d,1,none⟩)) 7 rfl hS0 ?_;refine oneW (R:=fun w'=>Bx w b d x9 (.slice (some ⟨xb,xo,none⟩) n icap) (.slice (some ⟨fb,fo,none⟩) n lcap) m4 (n:Int) S0 A0 (Mf p f) (m4 1) #[.string s1,.string s2,.bool true,.bool vi,.int .i64 (t:Int),.int .i64 zi,.int .i64 za,.slice av am ac] w') (i:=6) (d:=89) (f:=100) (args:= #[.pointer (some ⟨b,0,none⟩),.int .i64 k]) (v:= .int .i64 ak) (fuel:=6) rfl rfl (by kernel_rfl) (by kernel_rfl) (fun _=>by kernel_rfl) (HBO.out _ hCUR) (fun w' h=>⟨_,_,h⟩) (fun wz hR6=>?_);simp only[List.setIfInBounds_toArray,List.set_cons_succ,List.set_cons_zero];refine oneW (R:=fun w'=>Bx w b d x9 (.slice (some ⟨xb,xo,none⟩) n icap) (.slice (some ⟨fb,fo,none⟩) n lcap) m4 (n:Int) S0 A0 (Mf p f) (m4 1) #[.string s1,.string s2,.bool true,.bool vi,.int .i64 (t:Int),.int .i64 zi,.int .i64 za,.slice av am ac] w') (i:=14) (d:=97) (f:=102) (args:= #[.pointer (some ⟨d,129,none⟩),.int .i64 k,ItA s1 s2 true vi (t:Int) zi za (.slice av am ac)]) (v:= .bool hk9) (fuel:=5) rfl rfl (by kernel_rfl) (by kernel_rfl) (fun _=>by kernel_rfl) (HAR.out _ hR6) (fun w' h=>⟨_,_,h⟩) (fun wz hR14=>?_);simp only[List.setIfInBounds_toArray,List.set_cons_succ,List.set_cons_zero];refine oneW (R:=fun w'=>Bx w b d x9 (.slice (some ⟨xb,xo,none⟩) n icap) (.slice (some ⟨fb,fo,none⟩) n lcap) m4 (n:Int) S0 A0 (Mf p f) (m4 1) #[.string s1,.string s2,.bool true,.bool vi,.int .i64 (t:Int),.int .i64 zi,.int .i64 za,.slice av am ac] w') (i:=15) (d:=98) (f:=101) (args:= #[.pointer (some ⟨b,0,none⟩),.int .i64 k,.bool hk9]) (v:= .int .i64 sk) (fuel:=4) rfl rfl (by kernel_rfl) (by kernel_rfl) (fun _=>by kernel_rfl) (HSS.out _ hR14) (fun w' h=>⟨_,_,h⟩) (fun wz hR15=>?_)
      simp only[List.setIfInBounds_toArray,List.set_cons_succ,List.set_cons_zero];refine tG 18 101 (.pointer (some ⟨d,65+k,none⟩)) 3 rfl (⟨_,_,hR15⟩) ?_;refine wpAnyH_all (fuel:=2) (rs:=[19]) (by kernel_rfl) (by decide) (List.forall_mem_singleton.2 ?_);have hP1:=hR15.putA (i:=k) (ak) (by omega);have c9:=brd_cellA hR15.bl.bd (i:=k) (by omega);have f9:=Dg.froz_row hR15.bl.bd (65+k);refine wpOp_skip (i:=19) (w':=wz.setCell ⟨d,65+k,none⟩ (.int .i64 (ak))) rfl rfl (by kernel_rfl) (by go_simp) ⟨⟨_,_,hP1⟩,?_⟩;clear c9 f9;refine tG 22 104 (.pointer (some ⟨d,1+k,none⟩)) 1 rfl ⟨_,_,hP1⟩ ?_;refine wpAnyH_all (fuel:=0) (rs:=[23]) (by kernel_rfl) (by decide) (List.forall_mem_singleton.2 ?_);have hP2:=hP1.putS (i:=k) (sk) (by omega);have c9:=brd_cellS hP1.bl.bd (i:=k) (by omega);have f9:=Dg.froz_row hP1.bl.bd (1+k);refine wpOp_skip (i:=23) (w':=(wz.setCell ⟨d,65+k,none⟩ (.int .i64 (ak))).setCell ⟨d,1+k,none⟩ (.int .i64 (sk))) rfl rfl (by kernel_rfl) (by go_simp) ⟨⟨_,_,hP2⟩,?_⟩;clear c9 f9;refine wpAnyH_done (by kernel_rfl) ?_ _;exact⟨rfl,by kernel_rfl,hP2⟩
     ·intro w9 hF;simp only[setAll,List.setIfInBounds_toArray,List.set_cons_succ,List.set_cons_zero,Exit.inBlock,Exit.then];have HF9:Hid _:=hF;clear hF
      go_wp2_with fail
      go_roundw
      case rel=>exact⟨k+1,by omega,by go_num,_,_,HF9.out.bl,HUN.out⟩
      case measure=>simp[intOf] <;> omega
end Go.Proofs.YtieoppabellafaaGreatDoor.Sa
namespace Go.Proofs.YtieoppabellafaaGreatDoor.Sa
open Go.RowKit Go.Shelf Fc St
structure Bo where
 c:Nat
 S:Nat→Int
 A:Nat→Int
 M:Nat→Nat→Bool
 C:Nat→Bool
def RB (w:World)(v:Value):Option Bo→Prop
 | none=>v= .pointer none
 | some B=>∃d,v= .pointer (some ⟨d,0,none⟩)∧B.c≤64∧w.heap[d]? =some (.cells (brdL B.c B.S B.A B.M B.C).toArray 139 (0,0))
theorem RB.later {w w':World}{v:Value}{o:Option Bo}(h:RB w v o)(hb:Below w.heap.size w w'):RB w' v o:=by
 cases o with
 | none=>exact h
 | some B=>
  obtain⟨d,e,h1,h2⟩:=h
  exact⟨d,e,h1,(hb.block _ (Array.getElem?_eq_some_iff.1 h2).1).trans h2⟩
def Bo.z:Bo:=⟨0,fun _=>0,fun _=>0,fun _ _=>false,fun _=>false⟩
def Bo.has (B:Bo)(i:Int):Bool:=decide (0≤i∧i < (B.c:Int))
def Bo.all (B:Bo):List Int:=(List.range B.c).map B.S
def Bo.ver (B:Bo):Int:=if B.c=0 then 0 else if B.S 0=0 then 1 else B.S 0
def Bo.at_ (B:Bo)(i:Int):Int:=if B.c=0 then 0 else if B.has i then B.A i.toNat else -1
def Bo.fal (B:Bo)(s a:Int):Bool:=B.has s && decide (0≤a∧a < 4) && B.M s.toNat a.toNat
def Bo.cle (B:Bo)(i:Int):Bool:=B.has i && B.C i.toNat
theorem made_any {w:World}{v:Value}{o:Option Bo}(h:RB w v o):Calls Tryz.prog 62 #[v] w fun e w'=>e= .returned (.bool (decide (0 < (o.getD Bo.z).c)))∧Below w.heap.size w w':=by
 cases o with
 | none=>
  obtain rfl:v= .pointer none:=h
  go_enter Tryz.func62,Tryz.ntmps62
  go_wp2_with fail
  go_ret
  exact⟨rfl,Below.refl _ _⟩
 | some B=>
  obtain⟨d,rfl,h1,h2⟩:=h
  have c0:=brd_cell0 h2;clear h2
  go_enter Tryz.func62,Tryz.ntmps62
  go_wp2_with fail
  go_ret
  exact⟨by simp,Below.refl _ _⟩
theorem has_any {w:World}{v:Value}{o:Option Bo}(h:RB w v o)(i:Int):Calls Tryz.prog 63 #[v,.int .i64 i] w fun e w'=>e= .returned (.bool ((o.getD Bo.z).has i))∧Below w.heap.size w w':=by
 cases o with
 | none=>
  obtain rfl:v= .pointer none:=h;have HX:Hid (Bo.z.has i=false):=by show _=_;unfold Bo.has;rw[decide_eq_false];rintro⟨h1,h2⟩;have:(Bo.z.c:Int)=0:=rfl;omega
  show Calls _ _ _ _ fun e w'=>e= .returned (.bool (Bo.z.has i))∧_
  rw[HX.out]
  go_enter Tryz.func63,Tryz.ntmps63
  go_wp2_with fail
  go_ret
  exact⟨rfl,Below.refl _ _⟩
 | some B=>
  obtain⟨d,rfl,h1,h2⟩:=h
  have c0:=brd_cell0 h2;clear h2;show Calls _ _ _ _ fun e w'=>e= .returned (.bool (B.has i))∧_
  obtain⟨E,HE⟩:∃E,Hid (E=B.has i):=⟨_,rfl⟩
  rw[←HE.out]
  have HX:Hid (E=decide (0≤i∧i < (B.c:Int))):=HE.out;generalize B.c=c at *;clear HE
  by_cases h0:0≤i
  ·have HX2:Hid (E=decide (i < (c:Int))):=by show _=_;rw[HX.out];simp[h0]
   go_enter Tryz.func63,Tryz.ntmps63
   go_wp2_with fail
   go_ret
   exact⟨by rw[HX2.out];rfl,Below.refl _ _⟩
  ·have HX2:Hid (E=false):=by show _=_;rw[HX.out];simp[h0]
   go_enter Tryz.func63,Tryz.ntmps63
   go_wp2_with fail
   go_ret
   exact⟨by rw[HX2.out];rfl,Below.refl _ _⟩
theorem bClean_any {w:World}{v:Value}{o:Option Bo}(h:RB w v o)(i:Int):Calls Tryz.prog 34 #[v,.int .i64 i] w fun e w'=>e= .returned (.bool ((o.getD Bo.z).cle i))∧Below w.heap.size w w':=by
 have HH:Hid _:=has_any h i;obtain⟨E,HE⟩:∃E,Hid (E=(o.getD Bo.z).cle i):=⟨_,rfl⟩
 rw[←HE.out]
 have HX:Hid (E=((o.getD Bo.z).has i && (o.getD Bo.z).C i.toNat)):=HE.out;clear HE;cases hq:(o.getD Bo.z).has i with
 | false=>
  rw[hq] at HH HX
  clear hq h
  go_enter Tryz.func34,Tryz.ntmps34
  go_wp2_with fail
  refine Calls.mono HH.out ?_;rintro e w2 ⟨rfl,hb2⟩;have HB2:Hid _:=hb2;clear HH hb2
  go_wp2_with fail
  go_ret
  exact⟨by rw[HX.out];rfl,HB2.out⟩
 | true=>
  rw[hq] at HH HX
  cases o with
  | none=>exact absurd hq (by show ¬Bo.z.has i=true;unfold Bo.has;rw[decide_eq_true_eq];rintro⟨h1,h2⟩;have:(Bo.z.c:Int)=0:=rfl;omega)
  | some B=>
   have hr:0≤i∧i < (B.c:Int):=of_decide_eq_true hq;obtain⟨d,rfl,h1,h2⟩:=h
   obtain⟨k,rfl⟩:∃k:Nat,i=(k:Int):=⟨i.toNat,by omega⟩
   have HC0:Hid _:=brd_cellC h2 (i:=k) (by omega);have HX2:Hid (E=B.C k):=HX.out;have hk:(k:Int) < 64:=by omega
   clear hq h2 hr HX;generalize B.C k=q at *
   go_enter Tryz.func34,Tryz.ntmps34
   go_wp2_with fail
   refine Calls.mono HH.out ?_;rintro e w2 ⟨rfl,hb2⟩;have HB2:Hid _:=hb2;have c9:=Dg.cell_later hb2 HC0.out;clear HH hb2
   go_wp2_with fail
   go_ret
   exact⟨by rw[HX2.out];rfl,HB2.out⟩
theorem bAt_any {w:World}{v:Value}{o:Option Bo}(h:RB w v o)(i:Int):Calls Tryz.prog 119 #[v,.int .i64 i] w fun e w'=>e= .returned (.int .i64 ((o.getD Bo.z).at_ i))∧Below w.heap.size w w':=by
 have HM:Hid _:=made_any h;have HH:Hid (∀w',Below w.heap.size w w'→_):=fun w' hb=>has_any (h.later hb) i
 obtain⟨E,HE⟩:∃E,Hid (E=(o.getD Bo.z).at_ i):=⟨_,rfl⟩
 rw[←HE.out]
 have HX:Hid (E=if (o.getD Bo.z).c=0 then 0 else if (o.getD Bo.z).has i then (o.getD Bo.z).A i.toNat else -1):=HE.out;clear HE
 by_cases hc:(o.getD Bo.z).c=0
 ·have HX2:Hid (E=0):=by show _=_;rw[HX.out,if_pos hc]
  have hd:decide (0 < (o.getD Bo.z).c)=false:=decide_eq_false (by omega);rw[hd] at HM
  clear hd hc HX HH h
  go_enter Tryz.func119,Tryz.ntmps119
  go_wp2_with fail
  refine Calls.mono HM.out ?_;rintro e w2 ⟨rfl,hb2⟩;have HB2:Hid _:=hb2;clear HM hb2
  go_wp2_with fail
  go_ret
  exact⟨by rw[HX2.out];rfl,HB2.out⟩
 ·have hd:decide (0 < (o.getD Bo.z).c)=true:=decide_eq_true (by omega);rw[hd] at HM
  have HX1:Hid (E=if (o.getD Bo.z).has i then (o.getD Bo.z).A i.toNat else -1):=by show _=_;rw[HX.out,if_neg hc]
  cases hq:(o.getD Bo.z).has i with
  | false=>
   have HX2:Hid (E= -1):=by show _=_;rw[HX1.out,hq];rfl
   rw[hq] at HH
   clear hd hc HX HX1 h hq
   go_enter Tryz.func119,Tryz.ntmps119
   go_wp2_with fail
   refine Calls.mono HM.out ?_;rintro e w2 ⟨rfl,hb2⟩;have HB2:Hid _:=hb2;have HH2:Hid _:=HH.out w2 hb2;clear HM hb2 HH
   go_wp2_with fail
   refine Calls.mono HH2.out ?_;rintro e w3 ⟨rfl,hb3⟩;have HB3:Hid _:=HB2.out.trans (hb3.mono HB2.out.size);clear HB2 hb3 HH2
   go_wp2_with fail
   go_ret
   exact⟨by rw[HX2.out];rfl,HB3.out⟩
  | true=>
   cases o with
   | none=>exact absurd rfl hc
   | some B=>
    have hr:0≤i∧i < (B.c:Int):=of_decide_eq_true hq;obtain⟨d,rfl,h1,h2⟩:=h
    obtain⟨k,rfl⟩:∃k:Nat,i=(k:Int):=⟨i.toNat,by omega⟩
    have HC0:Hid _:=brd_cellA h2 (i:=k) (by omega);have HX2:Hid (E=B.A k):=by show _=_;rw[HX1.out,hq];rfl
    rw[hq] at HH
    have hk:(k:Int) < 64:=by omega
    clear hq h2 hr HX HX1 hc hd;generalize B.A k=q at *
    go_enter Tryz.func119,Tryz.ntmps119
    go_wp2_with fail
    refine Calls.mono HM.out ?_;rintro e w2 ⟨rfl,hb2⟩;have HB2:Hid _:=hb2;have HH2:Hid _:=HH.out w2 hb2;clear HM hb2 HH
    go_wp2_with fail
    refine Calls.mono HH2.out ?_;rintro e w3 ⟨rfl,hb3⟩;have HB3:Hid _:=HB2.out.trans (hb3.mono HB2.out.size);have c9:=Dg.cell_later HB3.out HC0.out;clear HB2 hb3 HH2
    go_wp2_with fail
    go_ret
    exact⟨by rw[HX2.out];rfl,HB3.out⟩
theorem bFalling_any {w:World}{v:Value}{o:Option Bo}(h:RB w v o)(s a:Int):Calls Tryz.prog 84 #[v,.int .i64 s,.int .i64 a] w fun e w'=>e= .returned (.bool ((o.getD Bo.z).fal s a))∧Below w.heap.size w w':=by
 have HH:Hid _:=has_any h s;obtain⟨E,HE⟩:∃E,Hid (E=(o.getD Bo.z).fal s a):=⟨_,rfl⟩
 rw[←HE.out]
 have HX:Hid (E=((o.getD Bo.z).has s && decide (0≤a∧a < 4) && (o.getD Bo.z).M s.toNat a.toNat)):=HE.out;clear HE;cases hq:(o.getD Bo.z).has s with
 | false=>
  rw[hq] at HH HX
  have HX2:Hid (E=false):=HX.out;clear hq h HX
  go_enter Tryz.func84,Tryz.ntmps84
  go_wp2_with fail
  refine Calls.mono HH.out ?_;rintro e w2 ⟨rfl,hb2⟩;have HB2:Hid _:=hb2;clear HH hb2
  go_wp2_with fail
  go_ret
  exact⟨by rw[HX2.out];rfl,HB2.out⟩
 | true=>
  rw[hq] at HH HX
  cases o with
  | none=>exact absurd hq (by show ¬Bo.z.has s=true;unfold Bo.has;rw[decide_eq_true_eq];rintro⟨h1,h2⟩;have:(Bo.z.c:Int)=0:=rfl;omega)
  | some B=>
   have hr:0≤s∧s < (B.c:Int):=of_decide_eq_true hq;obtain⟨d,rfl,h1,h2⟩:=h
   obtain⟨k,rfl⟩:∃k:Nat,s=(k:Int):=⟨s.toNat,by omega⟩
   by_cases ha:0≤a
   ·by_cases h4:a < 4
    ·obtain⟨j,rfl⟩:∃j:Nat,a=(j:Int):=⟨a.toNat,by omega⟩
     have HC0:Hid _:=brd_cellM h2 (s:=k) (a:=j) (by omega) (by omega);have HX2:Hid (E=B.M k j):=by show _=_;rw[HX.out,decide_eq_true ⟨ha,h4⟩];rfl
     have hk:(k:Int) < 64:=by omega
     clear hq h2 hr HX;generalize B.M k j=q at *
     go_enter Tryz.func84,Tryz.ntmps84
     go_wp2_with fail
     refine Calls.mono HH.out ?_;rintro e w2 ⟨rfl,hb2⟩;have HB2:Hid _:=hb2;have c9:=Dg.cell_later hb2 HC0.out;clear HH hb2
     go_wp2_with fail
     go_ret
     exact⟨by rw[HX2.out];rfl,HB2.out⟩
    ·have HX2:Hid (E=false):=by show _=_;rw[HX.out,decide_eq_false (fun h=>h4 h.2)];rfl
     clear hq h2 hr HX
     go_enter Tryz.func84,Tryz.ntmps84
     go_wp2_with fail
     refine Calls.mono HH.out ?_;rintro e w2 ⟨rfl,hb2⟩;have HB2:Hid _:=hb2;clear HH hb2
     go_wp2_with fail
     go_ret
     exact⟨by rw[HX2.out];rfl,HB2.out⟩
   ·have HX2:Hid (E=false):=by show _=_;rw[HX.out,decide_eq_false (fun h=>ha h.1)];rfl
    clear hq h2 hr HX
    go_enter Tryz.func84,Tryz.ntmps84
    go_wp2_with fail
    refine Calls.mono HH.out ?_;rintro e w2 ⟨rfl,hb2⟩;have HB2:Hid _:=hb2;clear HH hb2
    go_wp2_with fail
    go_ret
    exact⟨by rw[HX2.out];rfl,HB2.out⟩
end Go.Proofs.YtieoppabellafaaGreatDoor.Sa
