/- Texts of the seat, packed: Ap SYa. -/
import Derived.Test.YtieoppabellafaaGreatDoorP30
import Derived.Test.YtieoppabellafaaGreatDoorP31
import Derived.Test.YtieoppabellafaaGreatDoorP41
import Derived.Test.YtieoppabellafaaGreatDoorP05
import Derived.Deep.SlicePairs
import Derived.Deep.Strs
import Derived.OpenShut
set_option maxRecDepth 1000000
set_option maxHeartbeats 64000000
set_option linter.unusedVariables false
namespace Go.Proofs.YtieoppabellafaaGreatDoor.Ts
open Go.RowKit Go.Shelf Fc St Sx Sa
theorem over_short (its:List It)(i:Int):(overI its i).length≤1000000:=by
 unfold overI
 split
 rotate_left
 ·simp
 ·unfold overL
  split
  rotate_left
  ·simp
  ·unfold ovT
   split
   rotate_left
   ·simp
   ·rename_i W o _
    rcases Nat.lt_or_ge i.toNat (Dg.reachL W o).length with h | h
    ·have hm:(Dg.reachL W o).getD i.toNat []∈Dg.reachL W o:=by
      rw[List.getD_eq_getElem?_getD,List.getElem?_eq_getElem h]
      exact List.getElem_mem h
     generalize (Dg.reachL W o).getD i.toNat []=r at hm ⊢;unfold Dg.reachL at hm;obtain⟨x,_,rfl⟩:=List.mem_map.1 hm
     exact bits_short x
    ·rw[List.getD_eq_getElem?_getD,List.getElem?_eq_none h]
     simp
theorem after_nat {its:List It}{l:List Fa}(hc:chkF its l=0){i:Nat}{x:It}(hx:its[i]? =some x){z:Int}(hz:z∈x.after):∃a:Nat,z=(a:Int)∧a∈afOf its i:=by
 obtain⟨⟨q,hq⟩,_⟩:=chk_facts hc
 have h9:planT (nameI its 0) (bodS its)=some its:=by
  unfold sagaP at hq
  split at hq
  ·rename_i hc
   exact hc.2
  ·cases hq
 obtain⟨p1,p2,p3,p4⟩:=planT_parts h9
 have hm:=List.mem_of_getElem? hx;rw[p4] at hm
 have:=(its2_after _ _ _ _ x hm).2 z hz;obtain⟨a,rfl⟩:∃a:Nat,z=(a:Int):=⟨z.toNat,by omega⟩
 exact⟨a,rfl,af_mem hx hz⟩
theorem order_walk (its:List It)(v lv:Value)(l:List Fa)(w:World)(hT:Dg.Tab w)(hIt:RdIt w v its)(hmx:its.length≤maxLen)(hnm:∀x∈its,x.name.length≤maxLen∧x.undo.length≤maxLen∧x.after.length≤maxLen)(hl:RF w lv l) :
  Calls Tryz.prog 4 #[.agg #[v],lv] w fun e w'=>e= .returned (.bool true)∧Below w.heap.size w w':=by
 have hb1:=bl1 w (.cells #[v] 28);have HB1:Hid _:=hb1;have HSM:Hid _:=small_any its v _ (hIt.later hb1) hmx hnm;have HIT:Hid (∀wx,Below w.heap.size w wx→RdIt wx v its):=fun wx hb=>hIt.later hb
 have HTB:Hid (∀wx,Below w.heap.size w wx→Dg.Tab wx):=fun wx hb=>hT.later hb
 have HLF:Hid (∀wx,Below w.heap.size w wx→RF wx lv l):=fun wx hb=>hl.later hb
 have r1:=Dg.row_new w #[v] 28;have HR1:Hid _:=r1;have c0:=(Dg.cell_row r1 0).trans rfl;obtain⟨ia,icap,rfl,_⟩:=hIt
 obtain⟨fa,fc,rfl,hlc,hmc,_⟩:=hl
 obtain⟨nl,HNL⟩:∃nl,Hid (l.length=nl):=⟨_,rfl⟩
 obtain⟨n,HN⟩:∃n,Hid (its.length=n):=⟨_,rfl⟩
 unfold maxLen at hmc;rw[HNL.out] at hlc HLF ⊢
 rw[HN.out] at HB1 HSM HIT HR1 c0 ⊢
 clear hT hmx hnm hb1 r1
 go_enter Tryz.func4,Tryz.ntmps4
 go_wp2_with fail
 refine Calls.mono HSM.out ?_;rintro e w2 ⟨rfl,hb2⟩;have HB2:Hid _:=HB1.out.trans (hb2.mono HB1.out.size);have HR2:Hid _:=(hb2.block _ (Array.getElem?_eq_some_iff.1 HR1.out).1).trans HR1.out;have d0:=(Dg.cell_row HR2.out 0).trans rfl;obtain⟨sm,HSV⟩:∃sm,Hid (smallI its=sm):=⟨_,rfl⟩
 rw[HSV.out]
 have HLIV:Hid _:=lives_any w2 (HTB.out w2 HB2.out);clear hb2 HSM c0 HB1 HR1;cases sm with
 | false=>
  go_wp2_with fail
  refine Calls.mono HLIV.out ?_;rintro e w3 ⟨rfl,hb3⟩;have HB3:Hid _:=HB2.out.trans (hb3.mono HB2.out.size);clear hb3 HLIV
  go_wp2_with fail
  first
   | (go_ret;exact⟨rfl,HB3.out⟩)
   | exact⟨rfl,HB3.out⟩
 | true=>
  obtain⟨hF,h70⟩:=small_fair HSV.out
  by_cases hl1:(100:Int) < (nl:Int)
  ·go_wp2_with fail
   refine Calls.mono HLIV.out ?_;rintro e w3 ⟨rfl,hb3⟩;have HB3:Hid _:=HB2.out.trans (hb3.mono HB2.out.size);clear hb3 HLIV
   go_wp2_with fail
   first
    | (go_ret;exact⟨rfl,HB3.out⟩)
    | exact⟨rfl,HB3.out⟩
  ·clear HLIV;have HPF:Hid (∀W,Below w.heap.size w W→PF its l (.slice ia n icap) (.slice fa nl fc) W):=fun W hb=>⟨HIT.out W hb,hF,HTB.out W hb,HLF.out W hb,by omega,by rw[HNL.out];omega⟩
   have HFI:Hid _:=hF;rw[HN.out] at h70
   clear hF;have HMY:Hid _:=May_any (HPF.out w2 HB2.out);obtain⟨m1,HM1⟩:∃m1,Hid ((mayL its l).length=m1):=⟨_,rfl⟩
   have hm1:m1≤64:=by rw[←HM1.out];exact may_few
   rw[HM1.out] at HMY
   go_wp2_with fail
   refine Calls.mono HMY.out ?_;rintro e w3 ⟨hb3,ma,mc,rfl,hrk⟩;have HB3:Hid _:=HB2.out.trans (hb3.mono HB2.out.size);have HR3:Hid _:=(hb3.block _ (Array.getElem?_eq_some_iff.1 HR2.out).1).trans HR2.out;have e0:=(Dg.cell_row HR3.out 0).trans rfl;have HRK3:Hid _:=hrk;have HAL:Hid _:=All_any (HPF.out w3 HB3.out);obtain⟨n2,HN2⟩:∃n2,Hid ((allS its l).length=n2):=⟨_,rfl⟩
   rw[HN2.out] at HAL
   clear hb3 HMY d0 HB2 HR2 hrk
   go_wp2_with fail
   refine Calls.mono HAL.out ?_;rintro e w4 ⟨hb4,sa,sc,rfl,hrs⟩;have HB4:Hid _:=HB3.out.trans (hb4.mono HB3.out.size);have HR4:Hid _:=(hb4.block _ (Array.getElem?_eq_some_iff.1 HR3.out).1).trans HR3.out;have HRK:Hid _:=RK.later HRK3.out hb4;have HRS:Hid _:=hrs;have g0:=(Dg.cell_row HR4.out 0).trans rfl;have HLV4:Hid _:=lives_any w4 (HTB.out w4 HB4.out);clear hb4 HAL e0 HB3 HR3 HRK3 hrs
   by_cases hc:chkF its l=0
   rotate_left
   ·have hc2:chkF its l=2:=by
     unfold chkF at hc ⊢
     split
     ·rename_i h9
      rw[if_pos h9] at hc
      exact absurd rfl hc
     ·rfl
    have hm0:m1=0:=by
     rw[←HM1.out]
     unfold mayL;rw[if_neg hc]
     rfl
    subst hm0;rw[hc2]
    clear hc hc2
    go_wp2_with fail
    refine Calls.mono HLV4.out ?_;rintro e w5 ⟨rfl,hb5⟩;have HB5:Hid _:=HB4.out.trans (hb5.mono HB4.out.size);clear hb5 HLV4
    go_wp2_with fail
    first
     | (go_ret;exact⟨rfl,HB5.out⟩)
     | exact⟨rfl,HB5.out⟩
   ·rw[hc]
    have HC:Hid (chkF its l=0):=hc;have hn2:n=n2:=by
     rw[←HN2.out,←HN.out]
     unfold allS;rw[if_pos hc,List.length_map,List.length_range]
    have hnl:n=nl:=by rw[←HNL.out,←HN.out];exact (chk_facts hc).2.1.symm
    have hn1:1≤n:=by rw[←HN.out];exact (root_len (chkF_iff.1 hc).1).1
    subst hn2;subst hnl;obtain⟨a8,c8,e8,_,hir⟩:=HIT.out w4 HB4.out
    have e81:=(Value.slice.inj e8).1;clear e8;obtain⟨x00,hx00⟩:∃x,its[0]? =some x:=⟨_,List.getElem?_eq_getElem (by rw[HN.out];omega)⟩
    obtain⟨xb,xo,av8,am8,ac8,ha8,_⟩:=hir 0 x00 hx00
    obtain rfl:=e81.trans ha8;have HIR:Hid (∀(i:Nat) (x:It),its[i]? =some x→∃av am ac,w4.cell? ⟨xb,xo+i * 8,none⟩=some (.string ⟨x.name.toArray⟩)∧w4.cell? ⟨xb,xo+i * 8+1,none⟩=some (.string ⟨x.undo.toArray⟩)∧w4.cell? ⟨xb,xo+i * 8+2,none⟩=some (.bool x.sub)∧w4.cell? ⟨xb,xo+i * 8+3,none⟩=some (.bool x.vital)∧
      w4.cell? ⟨xb,xo+i * 8+4,none⟩=some (.int .i64 x.alts)∧w4.cell? ⟨xb,xo+i * 8+5,none⟩=some (.int .i64 x.inn)∧w4.cell? ⟨xb,xo+i * 8+6,none⟩=some (.int .i64 x.alt)∧w4.cell? ⟨xb,xo+i * 8+7,none⟩=some (.slice av am ac)∧RdZ w4 (.slice av am ac) x.after):=fun i x hx=>by
     obtain⟨b,off,av,am,ac,ha,h⟩:=hir i x hx
     have h9:=e81.trans ha
     injection h9 with h8
     injection h8 with h6 h7
     rw[h6,h7]
     exact⟨av,am,ac,h⟩
    clear hir e81 ha8 hc hx00;obtain⟨s,hs⟩:∃s,w.heap.size=s:=⟨_,rfl⟩
    have HBX:Hid (w4.heap[s]? =some (.cells #[.slice (some ⟨xb,xo,none⟩) n icap] 28 (0,0))):=by
     rw[←hs]
     exact HR4.out
    go_wp2_with fail
    clear hs g0 HR4 HLV4
    go_loopw [8] (fun iv wr=>∃(i:Nat),i≤m1∧iv= .int .i64 i∧Hid (Below w4.heap.size w4 wr)) (fun iv _=>m1 - (intOf iv).toNat)
    case atStart=>exact⟨0,Nat.zero_le _,by go_num,Below.refl _ _⟩
    case round=>
     obtain⟨i,hi,rfl,HW⟩:=hrel
     rename World=>wr
     have HBW:Hid (Below w.heap.size w wr):=HB4.out.trans (HW.out.mono HB4.out.size)
     by_cases hlt:i < m1
     rotate_left
     ·have hnl:¬(i:Int) < (m1:Int):=by omega
      go_wp2_with fail
      refine Calls.mono (lives_any wr (HTB.out wr HBW.out)) ?_;rintro e w5 ⟨rfl,hb5⟩;have HB5:Hid _:=HBW.out.trans (hb5.mono HBW.out.size);clear hb5
      go_wp2_with fail
      first
       | (go_ret;exact⟨rfl,HB5.out⟩)
       | exact⟨rfl,HB5.out⟩
     ·have hii:(i:Int) < (m1:Int):=by omega
      obtain⟨⟨ki,ku,kt⟩,hk⟩:∃x,(mayL its l)[i]? =some x:=⟨_,List.getElem?_eq_getElem (by rw[HM1.out];exact hlt)⟩
      have HMEM:Hid ((ki,ku,kt)∈mayL its l):=List.mem_of_getElem? hk;obtain⟨hk1,hkn,hks⟩:=may_step HMEM.out
      rw[HN.out] at hkn
      obtain⟨a9,c9,e9,_,_,hr9⟩:=HRK.out
      have e91:=(Value.slice.inj e9).1;clear e9;obtain⟨mb,mo,ha9,k0,k1,k2⟩:=hr9 i _ hk
      obtain rfl:=e91.trans ha9;clear hr9 hk e91 ha9;obtain⟨x,hx⟩:∃x,its[ki]? =some x:=⟨_,List.getElem?_eq_getElem (by rw[HN.out];exact hkn)⟩
      have hxs:x.sub=false:=by
       have h9:(its.getD ki It.z).sub=false:=hks
       rwa [getD_it hx] at h9
      obtain⟨av,am,ac,q0,q1,q2,q3,q4,q5,q6,q7,HRZ⟩:=HIR.out ki x hx
      have HRZ:Hid _:=HRZ;rw[hxs] at q2
      have HX:Hid (its[ki]? =some x):=hx;have y0:=(Dg.cell_row HBX.out 0).trans rfl;have z0:=Dg.cell_later HW.out y0;have z2:=Dg.cell_later HW.out q2;have z7:=Dg.cell_later HW.out q7;have l0:=Dg.cell_later HW.out k0;have l1:=Dg.cell_later HW.out k1;have l2:=Dg.cell_later HW.out k2;have hkii:(1:Int)≤(ki:Int):=by omega
      have hki1:¬(ki:Int) < 1:=by omega
      have hkn1:¬(n:Int)≤(ki:Int):=by omega
      have hkn2:(ki:Int) < (n:Int):=by omega
      have hbA:=bl1 wr (.cells #[.int .i64 (ki:Int),.bool ku,.int .i64 kt] 47);have rA:=Dg.row_new wr #[.int .i64 (ki:Int),.bool ku,.int .i64 kt] 47;have HBA:Hid _:=hbA;have HRA:Hid _:=rA;have za:=Dg.cell_later hbA z0;have zb:=Dg.cell_later hbA z2;have zc:=Dg.cell_later hbA z7;have x0:=(Dg.cell_row rA 0).trans rfl;have x1:=(Dg.cell_row rA 1).trans rfl;have x2:=(Dg.cell_row rA 2).trans rfl;have HAA:Hid _:=HW.out.trans (hbA.mono HW.out.size);clear q0 q1 q3 q4 q5 q6 k0 k1 k2 hx hxs hks hbA rA y0 q2 q7;cases ku with
      | true=>
       have hOV:=OverP_any its (.slice (some ⟨xb,xo,none⟩) n icap) (ki:Int) _ (HIT.out _ (HBW.out.trans (HBA.out.mono HBW.out.size))) HFI.out (HTB.out _ (HBW.out.trans (HBA.out.mono HBW.out.size)));have HOV:Hid _:=hOV;clear hOV
       go_wp2_with fail
       refine Calls.mono HOV.out ?_;rintro e w6 ⟨hb6,u,rfl,hu⟩;obtain⟨oa,oc,rfl,hoc,hor⟩:=hu
       rw[List.length_map] at hoc ⊢
       have HOR:Hid _:=hor;have hon:(overI its (ki:Int)).length≤1000000:=over_short its _;have HW6:Hid _:=HAA.out.trans (hb6.mono HAA.out.size);have HCB:Hid (∀wx,Below w6.heap.size w6 wx→wx.cell? ⟨s,0,none⟩=some (.slice (some ⟨xb,xo,none⟩) n icap)):=fun wx h=>(Dg.cell_row (((HW6.out.trans (h.mono HW6.out.size)).block _ (Array.getElem?_eq_some_iff.1 HBX.out).1).trans HBX.out) 0).trans rfl
       obtain⟨on,HON⟩:∃on,Hid ((overI its (ki:Int)).length=on):=⟨_,rfl⟩
       rw[HON.out] at hoc hon ⊢
       clear HOV hb6 hor z0 z2 z7 l0 l1 l2 za zb zc x0 x1 x2 HBA HRA
       go_wp2_with fail
       go_loopw [11] (fun jv wj=>∃(j:Nat),j≤on∧jv= .int .i64 j∧Hid (Below w6.heap.size w6 wj)) (fun jv _=>on - (intOf jv).toNat)
       case atStart=>exact⟨0,Nat.zero_le _,by go_num,Below.refl _ _⟩
       case round=>
        obtain⟨j,hj,rfl,HJ⟩:=hrel
        rename World=>wj
        by_cases hjt:j < on
        rotate_left
        ·have hnj:¬(j:Int) < (on:Int):=by omega
         have HEND:Hid (Below w4.heap.size w4 wj):=HW6.out.trans (HJ.out.mono HW6.out.size)
         go_wp2_with fail
         go_roundw
         case rel=>exact⟨i+1,by omega,by go_num,HEND⟩
         case measure=>simp[intOf] <;> omega
        ·have hjj:(j:Int) < (on:Int):=by omega
         obtain⟨g,hg⟩:∃g,(overI its (ki:Int))[j]? =some g:=⟨_,List.getElem?_eq_getElem (by rw[HON.out];exact hjt)⟩
         obtain⟨ob,oo,hoa,hc9⟩:=HOR.out j (g:Int) (by rw[List.getElem?_map,hg];rfl)
         obtain rfl:=hoa;have HOC:Hid (∀wx,Below w6.heap.size w6 wx→wx.cell? ⟨ob,oo+j,none⟩=some (.int .i64 (g:Int))):=fun wx h=>Dg.cell_later h hc9
         obtain⟨⟨q,hq⟩,_⟩:=chk_facts HC.out
         obtain⟨g1,g2,g3⟩:=(over_iff hq (by rw[HN.out];exact hkn)).1 (List.mem_of_getElem? hg)
         have hcl:=task_over HMEM.out g1 g2 g3;have HCL:Hid (∀wx,Below w6.heap.size w6 wx→Calls Tryz.prog 12 #[.agg #[.slice (some ⟨xb,xo,none⟩) n icap],.slice fa n fc,.int .i64 (g:Int)] wx fun e w'=>e= .returned (.bool true)∧Below w6.heap.size w6 w'):=fun wx hb=>by
          have hb2:=HW6.out.trans (hb.mono HW6.out.size);have h:=Clean_any (HPF.out wx (HB4.out.trans (hb2.mono HB4.out.size))) (g:Int);rw[hcl] at h
          exact Calls.mono h (by rintro e w' ⟨rfl,hb3⟩;exact⟨rfl,hb.trans (hb3.mono hb.size)⟩)
         have hS0:Below w6.heap.size w6 wj.drew:=HJ.out.drew;clear hg hc9 hcl hq g1 g2 g3
         go_wp2_with fail
         refine region_thenF [(82,.agg #[.slice (some ⟨xb,xo,none⟩) n icap]),(83,.slice fa n fc),(84,.slice (some ⟨ob,oo,none⟩) on oc),(85,.int .i64 (j:Int)),(86,.pointer (some ⟨ob,oo+j,none⟩)),(87,.int .i64 (g:Int)),(88,.bool true),(89,.bool false)] (fun w'=>Below w6.heap.size w6 w') ?_ ?_
         ·refine wp_region_held (S:=fun w'=>Below w6.heap.size w6 w') (by kernel_rfl) ?_;simp only[List.size_toArray,List.length_cons,List.length_nil,Nat.reduceAdd,Array.replicate_succ,Array.replicate_zero,List.push_toArray,List.nil_append,List.cons_append];refine tV 0 82 (.agg #[.slice (some ⟨xb,xo,none⟩) n icap]) 7 rfl hS0 ?_ (fun wx h=>by have y0:=HCB.out wx h;go_simp);refine tK 1 83 (.slice fa n fc) 6 rfl hS0 ?_;refine tK 2 84 (.slice (some ⟨ob,oo,none⟩) on oc) 5 rfl hS0 ?_;refine tK 3 85 (.int .i64 (j:Int)) 4 rfl hS0 ?_;refine tG 4 86 (.pointer (some ⟨ob,oo+j,none⟩)) 3 rfl hS0 ?_;refine tV 5 87 (.int .i64 (g:Int)) 2 rfl hS0 ?_ (fun wx h=>by have y0:=HOC.out wx h;go_simp);refine oneC (i:=6) (d:=88) (f:=12) (args:= #[.agg #[.slice (some ⟨xb,xo,none⟩) n icap],.slice fa n fc,.int .i64 (g:Int)]) (v:= .bool true) (fuel:=1) rfl rfl (by kernel_rfl) (by kernel_rfl) (fun _=>by kernel_rfl) hS0 (fun wx h=>HCL.out wx h) (fun wz hS106=>?_);simp only[List.setIfInBounds_toArray,List.set_cons_succ,List.set_cons_zero];refine tG 7 89 (.bool false) 0 rfl hS106 ?_;refine wpAnyH_done (by kernel_rfl) ?_ _;exact⟨rfl,by kernel_rfl,hS106⟩
         ·intro w9 hF;simp only[setAll,List.setIfInBounds_toArray,List.set_cons_succ,List.set_cons_zero];have HF9:Hid _:=hF;clear hF hS0
          go_wp2_with fail
          go_roundw
          case rel=>exact⟨j+1,by omega,by go_num,HF9⟩
          case measure=>simp[intOf] <;> omega
      | false=>
       obtain⟨a7,c7,e7,hac,hrz⟩:=HRZ.out
       have e71:=(Value.slice.inj e7).1;have HAM:Hid (x.after.length=am):=(Value.slice.inj e7).2.1.symm;subst e71;have HRY:Hid _:=hrz;have ham:am≤1000000:=by
        rw[←HAM.out]
        exact HFI.out.after x (List.mem_of_getElem? HX.out)
       clear e7 hrz hac
       go_wp2_with fail
       generalize wr.alloc (.cells #[.int .i64 (ki:Int),.bool false,.int .i64 kt] 47)=w5 at *;clear z0 z2 z7 l0 l1 l2 za zb zc x0 x1 x2 HRA HBA;have HCB:Hid (∀wx,Below w5.heap.size w5 wx→wx.cell? ⟨s,0,none⟩=some (.slice (some ⟨xb,xo,none⟩) n icap)):=fun wx h=>(Dg.cell_row (((HAA.out.trans (h.mono HAA.out.size)).block _ (Array.getElem?_eq_some_iff.1 HBX.out).1).trans HBX.out) 0).trans rfl
       go_loopw [13] (fun jv wj=>∃(j:Nat),j≤am∧jv= .int .i64 j∧Hid (Below w5.heap.size w5 wj)) (fun jv _=>am - (intOf jv).toNat)
       case atStart=>exact⟨0,Nat.zero_le _,by go_num,Below.refl _ _⟩
       case round=>
        obtain⟨j,hj,rfl,HJ⟩:=hrel
        rename World=>wj
        by_cases hjt:j < am
        rotate_left
        ·have hnj:¬(j:Int) < (am:Int):=by omega
         have HEND:Hid (Below w4.heap.size w4 wj):=HAA.out.trans (HJ.out.mono HAA.out.size)
         go_wp2_with fail
         go_roundw
         case rel=>exact⟨i+1,by omega,by go_num,HEND⟩
         case measure=>simp[intOf] <;> omega
        ·have hjj:(j:Int) < (am:Int):=by omega
         obtain⟨z,hz⟩:∃z,x.after[j]? =some z:=⟨_,List.getElem?_eq_getElem (by rw[HAM.out];exact hjt)⟩
         obtain⟨ab,ao,hab,hc9⟩:=HRY.out j z hz
         obtain rfl:=hab;obtain⟨a,rfl,ha⟩:=after_nat HC.out HX.out (List.mem_of_getElem? hz)
         obtain⟨⟨a1,a2⟩,hst,hno⟩:=task_begin HMEM.out ha
         rw[HN.out] at a2
         obtain⟨y,hy⟩:∃y,its[a]? =some y:=⟨_,List.getElem?_eq_getElem (by rw[HN.out];exact a2)⟩
         obtain⟨bv,bm,bc,p0,p1,p2,p3,p4,p5,p6,p7,_⟩:=HIR.out a y hy
         have hsub:(plOf its).sub a=y.sub:=by
          show (its.getD a It.z).sub=y.sub;rw[getD_it hy]
         have hvit:(plOf its).vital a=y.vital:=by
          show (its.getD a It.z).vital=y.vital;rw[getD_it hy]
         rw[hsub,hvit] at hst
         obtain⟨sS,hsS⟩:∃sS,St.S (plOf its) (fOf l) a=sS:=⟨_,rfl⟩
         rw[hsS] at hst
         obtain⟨a6,c6,e6,_,hrs⟩:=HRS.out
         have e61:=(Value.slice.inj e6).1;obtain⟨sb,so,hsb,hsc⟩:=hrs a sS (by
          unfold allS;rw[if_pos HC.out,List.getElem?_map,List.getElem?_range (by rw[HN.out];exact a2),←hsS]
          rfl)
         obtain rfl:=e61.trans hsb;obtain⟨f,hf⟩:∃f,l[a]? =some f:=⟨_,List.getElem?_eq_getElem (by rw[HNL.out];exact a2)⟩
         obtain⟨a5,c5,e5,_,_,hrf⟩:=HLF.out w4 HB4.out
         have e51:=(Value.slice.inj e5).1;obtain⟨fb,fo,hfb,_,_,hfc,_⟩:=hrf a f hf
         obtain rfl:=e51.trans hfb;have HIS:Hid (∀wx,Below w5.heap.size w5 wx→Calls Tryz.prog 16 #[.agg #[.slice (some ⟨xb,xo,none⟩) n icap],.slice (some ⟨fb,fo,none⟩) n fc,.agg #[.int .i64 (a:Int),.bool true,.int .i64 f.slips]] wx fun e w'=>e= .returned (.bool false)∧Below wx.heap.size wx w'):=fun wx hb=>by
          have hb2:=HAA.out.trans (hb.mono HAA.out.size);have h:=Is_any (HPF.out wx (HB4.out.trans (hb2.mono HB4.out.size))) (a,true,f.slips);rw[decide_eq_false (hno f.slips)] at h
          exact h
         have H45:Hid (∀wx,Below w5.heap.size w5 wx→Below w4.heap.size w4 wx):=fun wx hb=>HAA.out.trans (hb.mono HAA.out.size)
         have HAC:Hid (∀wx,Below w5.heap.size w5 wx→wx.cell? ⟨ab,ao+j,none⟩=some (.int .i64 (a:Int))):=fun wx h=>Dg.cell_later (H45.out wx h) hc9
         have HSC:Hid (∀wx,Below w5.heap.size w5 wx→wx.cell? ⟨sb,so+a,none⟩=some (.int .i64 sS)):=fun wx h=>Dg.cell_later (H45.out wx h) hsc
         have HFC:Hid (∀wx,Below w5.heap.size w5 wx→wx.cell? ⟨fb,fo+a * 4+2,none⟩=some (.int .i64 f.slips)):=fun wx h=>Dg.cell_later (H45.out wx h) hfc
         have HYC:Hid (∀wx,Below w5.heap.size w5 wx→wx.cell? ⟨xb,xo+a * 8,none⟩=some (.string ⟨y.name.toArray⟩)∧wx.cell? ⟨xb,xo+a * 8+1,none⟩=some (.string ⟨y.undo.toArray⟩)∧wx.cell? ⟨xb,xo+a * 8+2,none⟩=some (.bool y.sub)∧wx.cell? ⟨xb,xo+a * 8+3,none⟩=some (.bool y.vital)∧wx.cell? ⟨xb,xo+a * 8+4,none⟩=some (.int .i64 y.alts)∧wx.cell? ⟨xb,xo+a * 8+5,none⟩=some (.int .i64 y.inn)∧wx.cell? ⟨xb,xo+a * 8+6,none⟩=some (.int .i64 y.alt)∧wx.cell? ⟨xb,xo+a * 8+7,none⟩=some (.slice bv bm bc)):=fun wx h=>⟨Dg.cell_later (H45.out wx h) p0,Dg.cell_later (H45.out wx h) p1,Dg.cell_later (H45.out wx h) p2,Dg.cell_later (H45.out wx h) p3,Dg.cell_later (H45.out wx h) p4,Dg.cell_later (H45.out wx h) p5,Dg.cell_later (H45.out wx h) p6,Dg.cell_later (H45.out wx h) p7⟩
         have ha1:¬(a:Int) < 1:=by omega
         have han:¬(n:Int)≤(a:Int):=by omega
         have hani:(a:Int) < (n:Int):=by omega
         have i0:=HAC.out wj HJ.out;obtain⟨sv1,sv2,sv3,sv4,sv5,sv6,sv7,sv8⟩:=HYC.out wj HJ.out
         have sv0:=HCB.out wj HJ.out;clear p0 p1 p2 p3 p4 p5 p6 p7 hc9 hsc hfc hrs hrf e6 e5 e61 e51 hsb hfb hf hy hz ha hno hsub hvit hsS;have HST:Hid _:=hst;clear hst
         go_wp2_with fail
         have hbz:=bl1 wj (.cells #[.string ⟨#[]⟩,.string ⟨#[]⟩,.bool false,.bool false,.int .i64 0,.int .i64 0,.int .i64 0,.slice none 0 0] 50);have rz:=Dg.row_new wj #[.string ⟨#[]⟩,.string ⟨#[]⟩,.bool false,.bool false,.int .i64 0,.int .i64 0,.int .i64 0,.slice none 0 0] 50;have ui0:=Dg.cell_later hbz i0;have us0:=Dg.cell_later hbz sv0;have us1:=Dg.cell_later hbz sv1;have us2:=Dg.cell_later hbz sv2;have us3:=Dg.cell_later hbz sv3;have us4:=Dg.cell_later hbz sv4;have us5:=Dg.cell_later hbz sv5;have us6:=Dg.cell_later hbz sv6;have us7:=Dg.cell_later hbz sv7;have us8:=Dg.cell_later hbz sv8
         go_region
         have hb8:Below wj.heap.size wj (wj.alloc (.cells #[.string ⟨y.name.toArray⟩,.string ⟨y.undo.toArray⟩,.bool y.sub,.bool y.vital,.int .i64 y.alts,.int .i64 y.inn,.int .i64 y.alt,.slice bv bm bc] 50)).drew:=(bl1 _ _).drew;have r8:(wj.alloc (.cells #[.string ⟨y.name.toArray⟩,.string ⟨y.undo.toArray⟩,.bool y.sub,.bool y.vital,.int .i64 y.alts,.int .i64 y.inn,.int .i64 y.alt,.slice bv bm bc] 50)).drew.heap[wj.heap.size]? =some (.cells #[.string ⟨y.name.toArray⟩,.string ⟨y.undo.toArray⟩,.bool y.sub,.bool y.vital,.int .i64 y.alts,.int .i64 y.inn,.int .i64 y.alt,.slice bv bm bc] 50 (0,0)):=Dg.row_new wj _ 50;generalize (wj.alloc (.cells #[.string ⟨y.name.toArray⟩,.string ⟨y.undo.toArray⟩,.bool y.sub,.bool y.vital,.int .i64 y.alts,.int .i64 y.inn,.int .i64 y.alt,.slice bv bm bc] 50)).drew=w8 at hb8 r8 ⊢;have h8:Below w5.heap.size w5 w8:=HJ.out.trans (hb8.mono HJ.out.size);clear hb8 hbz rz ui0 us0 us1 us2 us3 us4 us5 us6 us7 us8 i0 sv0 sv1 sv2 sv3 sv4 sv5 sv6 sv7 sv8;generalize wj.heap.size=yb at r8 ⊢;have hS0:Below w5.heap.size w5 w8.drew∧w8.drew.heap[yb]? =some (.cells #[.string ⟨y.name.toArray⟩,.string ⟨y.undo.toArray⟩,.bool y.sub,.bool y.vital,.int .i64 y.alts,.int .i64 y.inn,.int .i64 y.alt,.slice bv bm bc] 50 (0,0)):=⟨h8.drew,r8⟩;have HIT27:Hid (∀wx,Below w5.heap.size w5 wx∧wx.heap[yb]? =some (.cells #[.string ⟨y.name.toArray⟩,.string ⟨y.undo.toArray⟩,.bool y.sub,.bool y.vital,.int .i64 y.alts,.int .i64 y.inn,.int .i64 y.alt,.slice bv bm bc] 50 (0,0))→Calls Tryz.prog 16 #[.agg #[.slice (some ⟨xb,xo,none⟩) n icap],.slice (some ⟨fb,fo,none⟩) n fc,.agg #[.int .i64 (a:Int),.bool true,.int .i64 f.slips]] wx fun e w'=>e= .returned (.bool false)∧Below w5.heap.size w5 w'∧w'.heap[yb]? =some (.cells #[.string ⟨y.name.toArray⟩,.string ⟨y.undo.toArray⟩,.bool y.sub,.bool y.vital,.int .i64 y.alts,.int .i64 y.inn,.int .i64 y.alt,.slice bv bm bc] 50 (0,0))):=fun wx h=>Calls.mono (HIS.out wx h.1) (by
          rintro e w' ⟨rfl,hb3⟩;exact⟨rfl,h.1.trans (hb3.mono h.1.size),(hb3.block _ (Array.getElem?_eq_some_iff.1 h.2).1).trans h.2⟩)
         clear h8 r8 HIS HJ
         go_wp2_with fail
         rcases HST.out with h2 | ⟨h2,hsu,hsv⟩
         ·subst h2;clear HST;refine region_thenF [(125,.slice (some ⟨sb,so,none⟩) n sc),(126,.slice (some ⟨ab,ao,none⟩) am ac),(127,.int .i64 (j:Int)),(128,.pointer (some ⟨ab,ao+j,none⟩)),(129,.int .i64 (a:Int)),(130,.pointer (some ⟨sb,so+a,none⟩)),(131,.int .i64 2),(132,.bool false),(133,.bool false),(134,undef),(135,undef),(136,undef),(137,undef),(138,undef),(139,undef),(140,undef),(141,undef),(142,undef),(143,undef),(144,undef),(145,undef),(146,undef),(147,undef),(148,undef),(149,undef),(150,undef),(151,.bool false),(152,.bool false),(153,.agg #[.slice (some ⟨xb,xo,none⟩) n icap]),(154,.slice (some ⟨fb,fo,none⟩) n fc),(155,.slice (some ⟨ab,ao,none⟩) am ac),(156,.int .i64 (j:Int)),(157,.pointer (some ⟨ab,ao+j,none⟩)),(158,.int .i64 (a:Int)),(159,.slice (some ⟨fb,fo,none⟩) n fc),(160,.slice (some ⟨ab,ao,none⟩) am ac),(161,.int .i64 (j:Int)),(162,.pointer (some ⟨ab,ao+j,none⟩)),(163,.int .i64 (a:Int)),(164,.pointer (some ⟨fb,fo+a * 4,none⟩)),(165,.pointer (some ⟨fb,fo+a * 4+2,none⟩)),(166,.int .i64 f.slips),(167,.agg #[.int .i64 (a:Int),.bool true,.int .i64 f.slips]),(168,.bool false),(169,.bool false)] (fun w'=>Below w5.heap.size w5 w'∧w'.heap[yb]? =some (.cells #[.string ⟨y.name.toArray⟩,.string ⟨y.undo.toArray⟩,.bool y.sub,.bool y.vital,.int .i64 y.alts,.int .i64 y.inn,.int .i64 y.alt,.slice bv bm bc] 50 (0,0))) ?_ ?_
          ·refine wp_region_held (S:=fun w'=>Below w5.heap.size w5 w'∧w'.heap[yb]? =some (.cells #[.string ⟨y.name.toArray⟩,.string ⟨y.undo.toArray⟩,.bool y.sub,.bool y.vital,.int .i64 y.alts,.int .i64 y.inn,.int .i64 y.alt,.slice bv bm bc] 50 (0,0))) (by kernel_rfl) ?_;simp only[List.size_toArray,List.length_cons,List.length_nil,Nat.reduceAdd,Array.replicate_succ,Array.replicate_zero,List.push_toArray,List.nil_append,List.cons_append];refine tK 0 125 (.slice (some ⟨sb,so,none⟩) n sc) 44 rfl hS0 ?_;refine tK 1 126 (.slice (some ⟨ab,ao,none⟩) am ac) 43 rfl hS0 ?_;refine tK 2 127 (.int .i64 (j:Int)) 42 rfl hS0 ?_;refine tG 3 128 (.pointer (some ⟨ab,ao+j,none⟩)) 41 rfl hS0 ?_;refine tV 4 129 (.int .i64 (a:Int)) 40 rfl hS0 ?_ (fun wx h=>by have y0:=HAC.out wx h.1;go_simp);refine tG 5 130 (.pointer (some ⟨sb,so+a,none⟩)) 39 rfl hS0 ?_;refine tV 6 131 (.int .i64 2) 38 rfl hS0 ?_ (fun wx h=>by have y0:=HSC.out wx h.1;go_simp);refine tG 7 132 (.bool false) 37 rfl hS0 ?_;refine tK 8 133 (.bool false) 36 rfl hS0 ?_;refine tU 9 134 35 rfl hS0 ?_;refine tU 10 135 34 rfl hS0 ?_;refine tU 11 136 33 rfl hS0 ?_;refine tU 12 137 32 rfl hS0 ?_;refine tU 13 138 31 rfl hS0 ?_;refine tU 14 139 30 rfl hS0 ?_;refine tU 15 140 29 rfl hS0 ?_;refine tU 16 141 28 rfl hS0 ?_;refine tU 17 142 27 rfl hS0 ?_;refine tU 18 143 26 rfl hS0 ?_;refine tU 19 144 25 rfl hS0 ?_;refine tU 20 145 24 rfl hS0 ?_;refine tU 21 146 23 rfl hS0 ?_;refine tU 22 147 22 rfl hS0 ?_;refine tU 23 148 21 rfl hS0 ?_;refine tU 24 149 20 rfl hS0 ?_;refine tU 25 150 19 rfl hS0 ?_;refine tK 26 151 (.bool false) 18 rfl hS0 ?_;refine tK 27 152 (.bool false) 17 rfl hS0 ?_;refine tV 28 153 (.agg #[.slice (some ⟨xb,xo,none⟩) n icap]) 16 rfl hS0 ?_ (fun wx h=>by have y0:=HCB.out wx h.1;go_simp);refine tK 29 154 (.slice (some ⟨fb,fo,none⟩) n fc) 15 rfl hS0 ?_;refine tK 30 155 (.slice (some ⟨ab,ao,none⟩) am ac) 14 rfl hS0 ?_;refine tK 31 156 (.int .i64 (j:Int)) 13 rfl hS0 ?_;refine tG 32 157 (.pointer (some ⟨ab,ao+j,none⟩)) 12 rfl hS0 ?_;refine tV 33 158 (.int .i64 (a:Int)) 11 rfl hS0 ?_ (fun wx h=>by have y0:=HAC.out wx h.1;go_simp);refine tK 34 159 (.slice (some ⟨fb,fo,none⟩) n fc) 10 rfl hS0 ?_;refine tK 35 160 (.slice (some ⟨ab,ao,none⟩) am ac) 9 rfl hS0 ?_;refine tK 36 161 (.int .i64 (j:Int)) 8 rfl hS0 ?_;refine tG 37 162 (.pointer (some ⟨ab,ao+j,none⟩)) 7 rfl hS0 ?_;refine tV 38 163 (.int .i64 (a:Int)) 6 rfl hS0 ?_ (fun wx h=>by have y0:=HAC.out wx h.1;go_simp);refine tG 39 164 (.pointer (some ⟨fb,fo+a * 4,none⟩)) 5 rfl hS0 ?_;refine tG 40 165 (.pointer (some ⟨fb,fo+a * 4+2,none⟩)) 4 rfl hS0 ?_;refine tV 41 166 (.int .i64 f.slips) 3 rfl hS0 ?_ (fun wx h=>by have y0:=HFC.out wx h.1;go_simp);refine tG 42 167 (.agg #[.int .i64 (a:Int),.bool true,.int .i64 f.slips]) 2 rfl hS0 ?_;refine oneC (i:=43) (d:=168) (f:=16) (args:= #[.agg #[.slice (some ⟨xb,xo,none⟩) n icap],.slice (some ⟨fb,fo,none⟩) n fc,.agg #[.int .i64 (a:Int),.bool true,.int .i64 f.slips]]) (v:= .bool false) (fuel:=1) rfl rfl (by kernel_rfl) (by kernel_rfl) (fun _=>by kernel_rfl) hS0 (fun wx h=>HIT27.out wx h) (fun wz hS143=>?_)
           simp only[List.setIfInBounds_toArray,List.set_cons_succ,List.set_cons_zero];refine tK 44 169 (.bool false) 0 rfl hS143 ?_;refine wpAnyH_done (by kernel_rfl) ?_ _;exact⟨rfl,by kernel_rfl,hS143⟩
          ·intro w9 hF;simp only[setAll,List.setIfInBounds_toArray,List.set_cons_succ,List.set_cons_zero];have HF9:Hid _:=hF.1;clear hF hS0
           go_wp2_with fail
           go_roundw
           case rel=>exact⟨j+1,by omega,by go_num,HF9⟩
           case measure=>simp[intOf] <;> omega
         ·subst h2;clear HST;refine region_thenF [(125,.slice (some ⟨sb,so,none⟩) n sc),(126,.slice (some ⟨ab,ao,none⟩) am ac),(127,.int .i64 (j:Int)),(128,.pointer (some ⟨ab,ao+j,none⟩)),(129,.int .i64 (a:Int)),(130,.pointer (some ⟨sb,so+a,none⟩)),(131,.int .i64 3),(132,.bool true),(133,.bool true),(134,.slice (some ⟨sb,so,none⟩) n sc),(135,.slice (some ⟨ab,ao,none⟩) am ac),(136,.int .i64 (j:Int)),(137,.pointer (some ⟨ab,ao+j,none⟩)),(138,.int .i64 (a:Int)),(139,.pointer (some ⟨sb,so+a,none⟩)),(140,.int .i64 3),(141,.bool false),(142,.bool false),(143,.pointer (some ⟨yb,2,none⟩)),(144,.bool true),(145,.bool false),(146,.bool false),(147,.bool false),(148,.pointer (some ⟨yb,3,none⟩)),(149,.bool false),(150,.bool false),(151,.bool false),(152,.bool false),(153,.agg #[.slice (some ⟨xb,xo,none⟩) n icap]),(154,.slice (some ⟨fb,fo,none⟩) n fc),(155,.slice (some ⟨ab,ao,none⟩) am ac),(156,.int .i64 (j:Int)),(157,.pointer (some ⟨ab,ao+j,none⟩)),(158,.int .i64 (a:Int)),(159,.slice (some ⟨fb,fo,none⟩) n fc),(160,.slice (some ⟨ab,ao,none⟩) am ac),(161,.int .i64 (j:Int)),(162,.pointer (some ⟨ab,ao+j,none⟩)),(163,.int .i64 (a:Int)),(164,.pointer (some ⟨fb,fo+a * 4,none⟩)),(165,.pointer (some ⟨fb,fo+a * 4+2,none⟩)),(166,.int .i64 f.slips),(167,.agg #[.int .i64 (a:Int),.bool true,.int .i64 f.slips]),(168,.bool false),(169,.bool false)] (fun w'=>Below w5.heap.size w5 w'∧w'.heap[yb]? =some (.cells #[.string ⟨y.name.toArray⟩,.string ⟨y.undo.toArray⟩,.bool y.sub,.bool y.vital,.int .i64 y.alts,.int .i64 y.inn,.int .i64 y.alt,.slice bv bm bc] 50 (0,0))) ?_ ?_
          ·refine wp_region_held (S:=fun w'=>Below w5.heap.size w5 w'∧w'.heap[yb]? =some (.cells #[.string ⟨y.name.toArray⟩,.string ⟨y.undo.toArray⟩,.bool y.sub,.bool y.vital,.int .i64 y.alts,.int .i64 y.inn,.int .i64 y.alt,.slice bv bm bc] 50 (0,0))) (by kernel_rfl) ?_;simp only[List.size_toArray,List.length_cons,List.length_nil,Nat.reduceAdd,Array.replicate_succ,Array.replicate_zero,List.push_toArray,List.nil_append,List.cons_append];refine tK 0 125 (.slice (some ⟨sb,so,none⟩) n sc) 44 rfl hS0 ?_;refine tK 1 126 (.slice (some ⟨ab,ao,none⟩) am ac) 43 rfl hS0 ?_;refine tK 2 127 (.int .i64 (j:Int)) 42 rfl hS0 ?_;refine tG 3 128 (.pointer (some ⟨ab,ao+j,none⟩)) 41 rfl hS0 ?_;refine tV 4 129 (.int .i64 (a:Int)) 40 rfl hS0 ?_ (fun wx h=>by have y0:=HAC.out wx h.1;go_simp);refine tG 5 130 (.pointer (some ⟨sb,so+a,none⟩)) 39 rfl hS0 ?_;refine tV 6 131 (.int .i64 3) 38 rfl hS0 ?_ (fun wx h=>by have y0:=HSC.out wx h.1;go_simp);refine tG 7 132 (.bool true) 37 rfl hS0 ?_;refine tK 8 133 (.bool true) 36 rfl hS0 ?_;refine tK 9 134 (.slice (some ⟨sb,so,none⟩) n sc) 35 rfl hS0 ?_;refine tK 10 135 (.slice (some ⟨ab,ao,none⟩) am ac) 34 rfl hS0 ?_;refine tK 11 136 (.int .i64 (j:Int)) 33 rfl hS0 ?_;refine tG 12 137 (.pointer (some ⟨ab,ao+j,none⟩)) 32 rfl hS0 ?_;refine tV 13 138 (.int .i64 (a:Int)) 31 rfl hS0 ?_ (fun wx h=>by have y0:=HAC.out wx h.1;go_simp);refine tG 14 139 (.pointer (some ⟨sb,so+a,none⟩)) 30 rfl hS0 ?_;refine tV 15 140 (.int .i64 3) 29 rfl hS0 ?_ (fun wx h=>by have y0:=HSC.out wx h.1;go_simp);refine tG 16 141 (.bool false) 28 rfl hS0 ?_;refine tK 17 142 (.bool false) 27 rfl hS0 ?_;refine tG 18 143 (.pointer (some ⟨yb,2,none⟩)) 26 rfl hS0 ?_;refine tV 19 144 (.bool true) 25 rfl hS0 ?_ (fun wx h=>by have y0:=(Dg.cell_row h.2 2).trans rfl;rw[hsu] at y0;go_simp);refine tK 20 145 (.bool false) 24 rfl hS0 ?_;refine tK 21 146 (.bool false) 23 rfl hS0 ?_;refine tK 22 147 (.bool false) 22 rfl hS0 ?_;refine tG 23 148 (.pointer (some ⟨yb,3,none⟩)) 21 rfl hS0 ?_;refine tV 24 149 (.bool false) 20 rfl hS0 ?_ (fun wx h=>by have y0:=(Dg.cell_row h.2 3).trans rfl;rw[hsv] at y0;go_simp);refine tK 25 150 (.bool false) 19 rfl hS0 ?_;refine tK 26 151 (.bool false) 18 rfl hS0 ?_;refine tK 27 152 (.bool false) 17 rfl hS0 ?_;refine tV 28 153 (.agg #[.slice (some ⟨xb,xo,none⟩) n icap]) 16 rfl hS0 ?_ (fun wx h=>by have y0:=HCB.out wx h.1;go_simp);refine tK 29 154 (.slice (some ⟨fb,fo,none⟩) n fc) 15 rfl hS0 ?_;refine tK 30 155 (.slice (some ⟨ab,ao,none⟩) am ac) 14 rfl hS0 ?_;refine tK 31 156 (.int .i64 (j:Int)) 13 rfl hS0 ?_;refine tG 32 157 (.pointer (some ⟨ab,ao+j,none⟩)) 12 rfl hS0 ?_;refine tV 33 158 (.int .i64 (a:Int)) 11 rfl hS0 ?_ (fun wx h=>by have y0:=HAC.out wx h.1;go_simp);refine tK 34 159 (.slice (some ⟨fb,fo,none⟩) n fc) 10 rfl hS0 ?_;refine tK 35 160 (.slice (some ⟨ab,ao,none⟩) am ac) 9 rfl hS0 ?_;refine tK 36 161 (.int .i64 (j:Int)) 8 rfl hS0 ?_;refine tG 37 162 (.pointer (some ⟨ab,ao+j,none⟩)) 7 rfl hS0 ?_;refine tV 38 163 (.int .i64 (a:Int)) 6 rfl hS0 ?_ (fun wx h=>by have y0:=HAC.out wx h.1;go_simp)
           refine tG 39 164 (.pointer (some ⟨fb,fo+a * 4,none⟩)) 5 rfl hS0 ?_;refine tG 40 165 (.pointer (some ⟨fb,fo+a * 4+2,none⟩)) 4 rfl hS0 ?_;refine tV 41 166 (.int .i64 f.slips) 3 rfl hS0 ?_ (fun wx h=>by have y0:=HFC.out wx h.1;go_simp);refine tG 42 167 (.agg #[.int .i64 (a:Int),.bool true,.int .i64 f.slips]) 2 rfl hS0 ?_;refine oneC (i:=43) (d:=168) (f:=16) (args:= #[.agg #[.slice (some ⟨xb,xo,none⟩) n icap],.slice (some ⟨fb,fo,none⟩) n fc,.agg #[.int .i64 (a:Int),.bool true,.int .i64 f.slips]]) (v:= .bool false) (fuel:=1) rfl rfl (by kernel_rfl) (by kernel_rfl) (fun _=>by kernel_rfl) hS0 (fun wx h=>HIT27.out wx h) (fun wz hS143=>?_);simp only[List.setIfInBounds_toArray,List.set_cons_succ,List.set_cons_zero];refine tK 44 169 (.bool false) 0 rfl hS143 ?_;refine wpAnyH_done (by kernel_rfl) ?_ _;exact⟨rfl,by kernel_rfl,hS143⟩
          ·intro w9 hF;simp only[setAll,List.setIfInBounds_toArray,List.set_cons_succ,List.set_cons_zero];have HF9:Hid _:=hF.1;clear hF hS0
           go_wp2_with fail
           go_roundw
           case rel=>exact⟨j+1,by omega,by go_num,HF9⟩
           case measure=>simp[intOf] <;> omega
end Go.Proofs.YtieoppabellafaaGreatDoor.Ts
namespace Go.Proofs.YtieoppabellafaaGreatDoor.Sx
open Go.RowKit Go.ChangeShapes Go.WideShapes
theorem Tryz.cells9':Tryz.prog.cellsOf 9=1:=by kernel_rfl
theorem Tryz.cells4:Tryz.prog.cellsOf 4=1:=by kernel_rfl
def Tr.bnd:Tr→Prop
 | .e=>True
 | .b x r=>x.len≤maxLen∧x.bnd∧r.bnd
 | .n l t r=>l.name.length≤maxLen∧l.undo.length≤maxLen∧l.after.length≤maxLen∧(∀y∈l.after,y.length≤maxLen)∧t.len≤maxLen∧t.bnd∧r.bnd
theorem ba_list (s:ByteArray):(⟨s.data.toList.toArray⟩:ByteArray)=s:=by cases s;simp
variable {H:Type}{enc:TypeId × Value→H}{w:World}{base:Nat}{spare:Nat→Bool}{held:Bool}
end Go.Proofs.YtieoppabellafaaGreatDoor.Sx
