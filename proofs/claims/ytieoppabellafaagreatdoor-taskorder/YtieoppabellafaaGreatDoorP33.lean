/- Texts of the seat, packed: Ac. -/
import Derived.Test.YtieoppabellafaaGreatDoorP27
import Derived.Test.YtieoppabellafaaGreatDoorP28
import Derived.Test.YtieoppabellafaaGreatDoorP32
set_option maxRecDepth 1000000
set_option maxHeartbeats 64000000
set_option linter.unusedVariables false
namespace Go.Proofs.YtieoppabellafaaGreatDoor.Ts
open Go.RowKit Go.Shelf Fc St Sx Sa
variable {its:List It}{l:List Fa}{P:OuP}{ob:Nat}{w:World}
theorem Ou.at_any (h:Ou its l P ob w)(i:Int):Calls Tryz.prog 119 #[.pointer (some ⟨P.bd,0,none⟩),.int .i64 i] w fun e w'=>e= .returned (.int .i64 (atS its l i))∧Below w.heap.size w w':=by
  have h9:=bAt_any h.bo i
  rw[see_at h.seen i] at h9
  exact h9
theorem Ou.fal_any (h:Ou its l P ob w)(s a:Int):Calls Tryz.prog 84 #[.pointer (some ⟨P.bd,0,none⟩),.int .i64 s,.int .i64 a] w fun e w'=>e= .returned (.bool (falS its l s a))∧Below w.heap.size w w':=by
  have h9:=bFalling_any h.bo s a
  rw[see_fal h.seen s a] at h9
  exact h9
theorem Ou.cle_any (h:Ou its l P ob w)(i:Int):Calls Tryz.prog 34 #[.pointer (some ⟨P.bd,0,none⟩),.int .i64 i] w fun e w'=>e= .returned (.bool (cleS its l i))∧Below w.heap.size w w':=by
  have h9:=bClean_any h.bo i
  rw[see_cle h.seen i] at h9
  exact h9
theorem inn_facts (hc:chkF its l=0){i:Nat}(h1:1≤i)(hi:i < its.length):(plOf its).inn i < i∧(plOf its).sub ((plOf its).inn i)=true∧(plOf its).alt i < (plOf its).alts ((plOf its).inn i)∧(plOf its).alt i < 4:=by
  obtain⟨⟨q,hq⟩,_⟩:=chk_facts hc
  have h3:=(lg_of hc).ok.inn i h1 hi
  refine⟨h3.1,h3.2.1,h3.2.2,?_⟩
  have hl:(plOf its).inn i < its.length:=by omega
  obtain⟨x,hx⟩:∃x,its[(plOf its).inn i]? =some x:=⟨_,List.getElem?_eq_getElem hl⟩
  have h4:(plOf its).alts ((plOf its).inn i)≤4:=by
    obtain⟨⟨r,r0,r1,r2,r3,r4,r5⟩,hi⟩:=plan_items hq
    show (its.getD ((plOf its).inn i) It.z).alts.toNat≤4
    rw[getD_it hx]
    by_cases h0:(plOf its).inn i=0
    · rw[h0,r0] at hx
      cases hx
      omega
    · have:=(hi _ x hx (by omega)).2
      split at this <;> omega
  omega
theorem rc_parts (hc:chkF its l=0){i:Nat}(h1:1≤i)(hi:i < its.length):Rc (plOf its) (afOf its) (fOf l) i↔atS its l ((plOf its).inn i:Nat)=((plOf its).alt i:Nat)∧falS its l ((plOf its).inn i:Nat) ((plOf its).alt i:Nat)=false∧rnB its l ((plOf its).inn i)=true∧∀a∈afOf its i,psB its l a=true:=by
  obtain⟨i1,i2,i3,i4⟩:=inn_facts hc h1 hi
  have e1:=at_S hc (show (plOf its).inn i < its.length by omega) i2
  have e2:=ff_S hc (show (plOf its).inn i < its.length by omega) i3 i4
  unfold Rc
  rw[e1,e2]
  simp only[rnB_iff,psB_iff,Bool.not_eq_true]
  constructor
  · rintro⟨a,b,c,d⟩
    exact⟨by rw[b],c,a,d⟩
  · rintro⟨a,b,c,d⟩
    exact⟨c,by omega,b,d⟩
theorem after_le {its:List It}{x:It}(h:x∈its):x.after.length≤arcN its:=by
  unfold arcN
  induction its with
  | nil=>cases h
  | cons y r ih=>
    rw[List.map_cons,List.sum_cons]
    rcases List.mem_cons.1 h with rfl | h
    · omega
    · have:=ih h;omega
structure RcS (its:List It)(l:List Fa)(P:OuP)(ob rb:Nat)(row:Array Value)(w:World):Prop where
  ou:Ou its l P ob w
  row:w.heap[rb]? =some (.cells row 50 (0,0))
theorem RcS.later {rb:Nat}{row:Array Value}{w':World}(h:RcS its l P ob rb row w)(hb:Below w.heap.size w w'):RcS its l P ob rb row w':=
  ⟨h.ou.later hb,(hb.block _ (Array.getElem?_eq_some_iff.1 h.row).1).trans h.row⟩
theorem reach_step {i:Nat}(h1:1≤i)(hi:i < its.length)(hR:∀w,Ou its l P ob w→Calls Tryz.prog 120 #[.pointer (some ⟨ob,0,none⟩),.int .i64 ((plOf its).inn i:Nat)] w fun e w'=>e= .returned (.bool (rnB its l ((plOf its).inn i)))∧Below w.heap.size w w')(h:Ou its l P ob w) :
    Calls Tryz.prog 83 #[.pointer (some ⟨ob,0,none⟩),.int .i64 (i:Int)] w fun e w'=>e= .returned (.bool (rcB its l i))∧Below w.heap.size w w':=by
  obtain⟨q,hq⟩:=h.right
  obtain⟨x,av,am,ac,hx,k0,k1,k2,k3,k4,k5,k6,k7,hz⟩:=h.item hi
  obtain⟨_,_,e3⟩:=it_pl hq hx
  obtain⟨e4,e5⟩:=e3 h1
  have c0:=h.c0
  have hn:=h.few
  have HPC:Hid _:=rc_parts h.chk h1 hi
  have HAF:Hid (∀z∈x.after,∃a:Nat,z=(a:Int)∧a∈afOf its i∧1≤a∧a < its.length):=fun z hz=>after_pl hq hx h1 hz
  have HAI:Hid (∀a∈afOf its i,(a:Int)∈x.after):=fun a ha=>by
    have h9:=ha
    unfold afOf at h9
    rw[getD_it hx] at h9
    obtain⟨z,hz,rfl⟩:=List.mem_map.1 h9
    obtain⟨a',e,_⟩:=after_pl hq hx h1 hz
    rw[e,Int.toNat_natCast,←e]
    exact hz
  rw[e4] at k5
  rw[e5] at k6
  have HAT:Hid (∀wx,Ou its l P ob wx→Calls Tryz.prog 119 #[.pointer (some ⟨P.bd,0,none⟩),.int .i64 ((plOf its).inn i:Nat)] wx fun e w'=>e= .returned (.int .i64 (atS its l ((plOf its).inn i:Nat)))∧Below wx.heap.size wx w'):=fun wx h=>h.at_any _
  have HFA:Hid (∀wx,Ou its l P ob wx→Calls Tryz.prog 84 #[.pointer (some ⟨P.bd,0,none⟩),.int .i64 ((plOf its).inn i:Nat),.int .i64 ((plOf its).alt i:Nat)] wx fun e w'=>e= .returned (.bool (falS its l ((plOf its).inn i:Nat) ((plOf its).alt i:Nat)))∧Below wx.heap.size wx w'):=fun wx h=>h.fal_any _ _
  have HRN:Hid _:=hR
  obtain⟨Q,HQ⟩:∃Q,Hid (Q=rcB its l i):=⟨_,rfl⟩
  rw[←HQ.out]
  have HQ1:Hid (Q=true↔Rc (plOf its) (afOf its) (fOf l) i):=by show _↔_;rw[HQ.out];exact rcB_iff
  rw[HPC.out] at HQ1
  generalize (plOf its).inn i=inn at *
  generalize (plOf its).alt i=alt at *
  generalize atS its l (inn:Nat)=at9 at *
  generalize falS its l (inn:Nat) (alt:Nat)=fal at *
  generalize rnB its l inn=rn at *
  have hii:(i:Int) < (its.length:Int):=by omega
  obtain⟨n,HN⟩:∃n,Hid (its.length=n):=⟨_,rfl⟩
  have HOU:Hid _:=h
  rw[HN.out] at c0 hii hn HAF
  have hb1:=bl1 w (.cells #[.string ⟨x.name.toArray⟩,.string ⟨x.undo.toArray⟩,.bool x.sub,.bool x.vital,.int .i64 x.alts,.int .i64 (inn:Nat),.int .i64 (alt:Nat),.slice av am ac] 50)
  have rx:=Dg.row_new w #[.string ⟨x.name.toArray⟩,.string ⟨x.undo.toArray⟩,.bool x.sub,.bool x.vital,.int .i64 x.alts,.int .i64 (inn:Nat),.int .i64 (alt:Nat),.slice av am ac] 50
  have H1:Hid (RcS its l P ob w.heap.size #[.string ⟨x.name.toArray⟩,.string ⟨x.undo.toArray⟩,.bool x.sub,.bool x.vital,.int .i64 x.alts,.int .i64 (inn:Nat),.int .i64 (alt:Nat),.slice av am ac] (w.alloc (.cells #[.string ⟨x.name.toArray⟩,.string ⟨x.undo.toArray⟩,.bool x.sub,.bool x.vital,.int .i64 x.alts,.int .i64 (inn:Nat),.int .i64 (alt:Nat),.slice av am ac] 50))):=⟨h.later hb1,rx⟩
  have HBW:Hid _:=hb1
  have HRZ:Hid _:=hz
  have haf:x.after.length≤1000000:=Nat.le_trans (after_le (List.mem_of_getElem? hx)) (right_facts hq).2.1
  have HAFL:Hid _:=haf
  clear haf
  clear h hq hx e3 e4 e5 hi h1 hb1 rx HQ HPC hR hz
  generalize x.name=nm at *
  generalize x.undo=un at *
  generalize x.sub=su at *
  generalize x.vital=vi at *
  generalize x.alts=als at *
  go_enter Tryz.func83,Tryz.ntmps83
  go_wp2_with fail
  clear k0 k1 k2 k3 k4 k5 k6 k7 c0
  obtain⟨rb,hrb⟩:∃rb,w.heap.size=rb:=⟨_,rfl⟩
  rw[hrb] at H1 ⊢
  obtain⟨w1,hw1⟩:∃w1,w.alloc (.cells #[.string ⟨nm.toArray⟩,.string ⟨un.toArray⟩,.bool su,.bool vi,.int .i64 als,.int .i64 (inn:Nat),.int .i64 (alt:Nat),.slice av am ac] 50)=w1:=⟨_,rfl⟩
  rw[hw1] at H1 HBW ⊢
  clear hw1
  obtain⟨row,HROW⟩:∃row:Array Value,Hid (row= #[.string ⟨nm.toArray⟩,.string ⟨un.toArray⟩,.bool su,.bool vi,.int .i64 als,.int .i64 (inn:Nat),.int .i64 (alt:Nat),.slice av am ac]):=⟨_,rfl⟩
  rw[←HROW.out] at H1
  have HC5:Hid (∀wx,RcS its l P ob rb row wx→wx.cell? ⟨rb,5,none⟩=some (.int .i64 (inn:Nat))):=fun wx h=>by have:=Dg.cell_row h.row 5;rw[HROW.out] at this;exact this.trans rfl
  have HC6:Hid (∀wx,RcS its l P ob rb row wx→wx.cell? ⟨rb,6,none⟩=some (.int .i64 (alt:Nat))):=fun wx h=>by have:=Dg.cell_row h.row 6;rw[HROW.out] at this;exact this.trans rfl
  have HC7:Hid (∀wx,RcS its l P ob rb row wx→wx.cell? ⟨rb,7,none⟩=some (.slice av am ac)):=fun wx h=>by have:=Dg.cell_row h.row 7;rw[HROW.out] at this;exact this.trans rfl
  have hS0:RcS its l P ob rb row w1.drew∧Below w.heap.size w w1.drew:=⟨H1.out.later (Below.refl _ _).drew,HBW.out.trans ((Below.refl _ _).drew)⟩
  have HLR:Hid (∀wx w':World,(RcS its l P ob rb row wx∧Below w.heap.size w wx)→Below wx.heap.size wx w'→RcS its l P ob rb row w'∧Below w.heap.size w w'):=fun wx w' h hb=>⟨h.1.later hb,h.2.trans (hb.mono h.2.size)⟩
  by_cases hat:at9=(alt:Int)
  rotate_left
  · obtain rfl:Q=false:=by
      cases hQ:Q with
      | false=>rfl
      | true=>exact absurd (HQ1.out.1 hQ).1 hat
    have hne:(at9 !=(alt:Int))=true:=by simpa using hat
    clear HQ1
    refine region_thenF [(15,.pointer (some ⟨ob,0,none⟩)),(16,.pointer (some ⟨ob,0,none⟩)),(17,.pointer (some ⟨ob,3,none⟩)),(18,.pointer (some ⟨P.bd,0,none⟩)),(19,.pointer (some ⟨rb,5,none⟩)),(20,.int .i64 (inn:Nat)),(21,.int .i64 at9),(22,.pointer (some ⟨rb,6,none⟩)),(23,.int .i64 (alt:Nat)),(24,.bool true),(25,.bool true),(26,undef),(27,undef),(28,undef),(29,undef),(30,undef),(31,undef),(32,undef),(33,undef),(34,undef),(35,.bool true),(36,.bool true),(37,undef),(38,undef),(39,undef),(40,undef),(41,undef),(42,.bool true)] (fun w'=>RcS its l P ob rb row w'∧Below w.heap.size w w') ?_ ?_
    · refine wp_region_held (S:=fun w'=>RcS its l P ob rb row w'∧Below w.heap.size w w') (by kernel_rfl) ?_
      simp only[List.size_toArray,List.length_cons,List.length_nil,Nat.reduceAdd,Array.replicate_succ,Array.replicate_zero,List.push_toArray,List.nil_append,List.cons_append]
      refine tK 0 15 (.pointer (some ⟨ob,0,none⟩)) 27 rfl hS0 ?_
      refine tG 1 16 (.pointer (some ⟨ob,0,none⟩)) 26 rfl hS0 ?_
      refine tG 2 17 (.pointer (some ⟨ob,3,none⟩)) 25 rfl hS0 ?_
      refine tV 3 18 (.pointer (some ⟨P.bd,0,none⟩)) 24 rfl hS0 ?_ (fun wx h=>by have y0:=h.1.ou.c3;go_simp)
      refine tG 4 19 (.pointer (some ⟨rb,5,none⟩)) 23 rfl hS0 ?_
      refine tV 5 20 (.int .i64 (inn:Nat)) 22 rfl hS0 ?_ (fun wx h=>by have y0:=HC5.out wx h.1;go_simp)
      refine tG 7 22 (.pointer (some ⟨rb,6,none⟩)) 21 rfl hS0 ?_
      refine tV 8 23 (.int .i64 (alt:Nat)) 20 rfl hS0 ?_ (fun wx h=>by have y0:=HC6.out wx h.1;go_simp)
      refine oneC (i:=6) (d:=21) (f:=119) (args:= #[.pointer (some ⟨P.bd,0,none⟩),.int .i64 (inn:Nat)]) (v:= .int .i64 at9) (fuel:=19) rfl rfl (by kernel_rfl) (by kernel_rfl) (fun _=>by kernel_rfl) hS0 (fun wx h=>Calls.mono (HAT.out wx h.1.ou) (by rintro e w2 ⟨rfl,hb⟩;exact⟨rfl,HLR.out wx w2 h hb⟩)) (fun wz hS106=>?_)
      simp only[List.setIfInBounds_toArray,List.set_cons_succ,List.set_cons_zero]
      refine tV 9 24 (.bool true) 18 rfl hS106 ?_ (fun wx h=>by go_simp)
      refine tK 10 25 (.bool true) 17 rfl hS106 ?_
      refine tU 11 26 16 rfl hS106 ?_
      refine tU 12 27 15 rfl hS106 ?_
      refine tU 13 28 14 rfl hS106 ?_
      refine tU 14 29 13 rfl hS106 ?_
      refine tU 15 30 12 rfl hS106 ?_
      refine tU 16 31 11 rfl hS106 ?_
      refine tU 17 32 10 rfl hS106 ?_
      refine tU 18 33 9 rfl hS106 ?_
      refine wpAnyH_all (fuel:=8) (rs:=[19]) (by kernel_rfl) (by decide) (List.forall_mem_singleton.2 ?_)
      refine wpOp_un (i:=19) (d:=34) rfl rfl (by kernel_rfl) ⟨hS106,?_⟩
      simp only[List.setIfInBounds_toArray,List.set_cons_succ,List.set_cons_zero]
      refine tK 20 35 (.bool true) 7 rfl hS106 ?_
      refine tK 21 36 (.bool true) 6 rfl hS106 ?_
      refine tU 22 37 5 rfl hS106 ?_
      refine tU 23 38 4 rfl hS106 ?_
      refine tU 24 39 3 rfl hS106 ?_
      refine wpAnyH_all (fuel:=2) (rs:=[25]) (by kernel_rfl) (by decide) (List.forall_mem_singleton.2 ?_)
      refine wpOp_un (i:=25) (d:=40) rfl rfl (by kernel_rfl) ⟨hS106,?_⟩
      simp only[List.setIfInBounds_toArray,List.set_cons_succ,List.set_cons_zero]
      refine tU 26 41 1 rfl hS106 ?_
      refine tK 27 42 (.bool true) 0 rfl hS106 ?_
      refine wpAnyH_done (by kernel_rfl) ?_ _
      exact⟨rfl,by kernel_rfl,hS106⟩
    · intro w9 hF
      simp only[setAll,List.setIfInBounds_toArray,List.set_cons_succ,List.set_cons_zero]
      have HF9:Hid _:=hF
      clear hF
      go_wp2_with fail
      go_ret
      exact⟨rfl,HF9.out.2⟩
  · subst hat
    cases fal with
    | true=>
      obtain rfl:Q=false:=by
        cases hQ:Q with
        | false=>rfl
        | true=>exact absurd (HQ1.out.1 hQ).2.1 (by decide)
      clear HQ1
      refine region_thenF [(15,.pointer (some ⟨ob,0,none⟩)),(16,.pointer (some ⟨ob,0,none⟩)),(17,.pointer (some ⟨ob,3,none⟩)),(18,.pointer (some ⟨P.bd,0,none⟩)),(19,.pointer (some ⟨rb,5,none⟩)),(20,.int .i64 (inn:Nat)),(21,.int .i64 (alt:Nat)),(22,.pointer (some ⟨rb,6,none⟩)),(23,.int .i64 (alt:Nat)),(24,.bool false),(25,.bool false),(26,.pointer (some ⟨ob,0,none⟩)),(27,.pointer (some ⟨ob,0,none⟩)),(28,.pointer (some ⟨ob,3,none⟩)),(29,.pointer (some ⟨P.bd,0,none⟩)),(30,.pointer (some ⟨rb,5,none⟩)),(31,.int .i64 (inn:Nat)),(32,.pointer (some ⟨rb,6,none⟩)),(33,.int .i64 (alt:Nat)),(34,.bool true),(35,.bool true),(36,.bool true),(37,undef),(38,undef),(39,undef),(40,undef),(41,undef),(42,.bool true)] (fun w'=>RcS its l P ob rb row w'∧Below w.heap.size w w') ?_ ?_
      · refine wp_region_held (S:=fun w'=>RcS its l P ob rb row w'∧Below w.heap.size w w') (by kernel_rfl) ?_
        simp only[List.size_toArray,List.length_cons,List.length_nil,Nat.reduceAdd,Array.replicate_succ,Array.replicate_zero,List.push_toArray,List.nil_append,List.cons_append]
        refine tK 0 15 (.pointer (some ⟨ob,0,none⟩)) 27 rfl hS0 ?_
        refine tG 1 16 (.pointer (some ⟨ob,0,none⟩)) 26 rfl hS0 ?_
        refine tG 2 17 (.pointer (some ⟨ob,3,none⟩)) 25 rfl hS0 ?_
        refine tV 3 18 (.pointer (some ⟨P.bd,0,none⟩)) 24 rfl hS0 ?_ (fun wx h=>by have y0:=h.1.ou.c3;go_simp)
        refine tG 4 19 (.pointer (some ⟨rb,5,none⟩)) 23 rfl hS0 ?_
        refine tV 5 20 (.int .i64 (inn:Nat)) 22 rfl hS0 ?_ (fun wx h=>by have y0:=HC5.out wx h.1;go_simp)
        refine tG 7 22 (.pointer (some ⟨rb,6,none⟩)) 21 rfl hS0 ?_
        refine tV 8 23 (.int .i64 (alt:Nat)) 20 rfl hS0 ?_ (fun wx h=>by have y0:=HC6.out wx h.1;go_simp)
        refine oneC (i:=6) (d:=21) (f:=119) (args:= #[.pointer (some ⟨P.bd,0,none⟩),.int .i64 (inn:Nat)]) (v:= .int .i64 (alt:Nat)) (fuel:=19) rfl rfl (by kernel_rfl) (by kernel_rfl) (fun _=>by kernel_rfl) hS0 (fun wx h=>Calls.mono (HAT.out wx h.1.ou) (by rintro e w2 ⟨rfl,hb⟩;exact⟨rfl,HLR.out wx w2 h hb⟩)) (fun wz hS106=>?_)
        simp only[List.setIfInBounds_toArray,List.set_cons_succ,List.set_cons_zero]
        refine tV 9 24 (.bool false) 18 rfl hS106 ?_ (fun wx h=>by go_simp)
        refine tK 10 25 (.bool false) 17 rfl hS106 ?_
        refine tK 11 26 (.pointer (some ⟨ob,0,none⟩)) 16 rfl hS106 ?_
        refine tG 12 27 (.pointer (some ⟨ob,0,none⟩)) 15 rfl hS106 ?_
        refine tG 13 28 (.pointer (some ⟨ob,3,none⟩)) 14 rfl hS106 ?_
        refine tV 14 29 (.pointer (some ⟨P.bd,0,none⟩)) 13 rfl hS106 ?_ (fun wx h=>by have y0:=h.1.ou.c3;go_simp)
        refine tG 15 30 (.pointer (some ⟨rb,5,none⟩)) 12 rfl hS106 ?_
        refine tV 16 31 (.int .i64 (inn:Nat)) 11 rfl hS106 ?_ (fun wx h=>by have y0:=HC5.out wx h.1;go_simp)
        refine tG 17 32 (.pointer (some ⟨rb,6,none⟩)) 10 rfl hS106 ?_
        refine tV 18 33 (.int .i64 (alt:Nat)) 9 rfl hS106 ?_ (fun wx h=>by have y0:=HC6.out wx h.1;go_simp)
        refine oneC (i:=19) (d:=34) (f:=84) (args:= #[.pointer (some ⟨P.bd,0,none⟩),.int .i64 (inn:Nat),.int .i64 (alt:Nat)]) (v:= .bool true) (fuel:=8) rfl rfl (by kernel_rfl) (by kernel_rfl) (fun _=>by kernel_rfl) hS106 (fun wx h=>Calls.mono (HFA.out wx h.1.ou) (by rintro e w2 ⟨rfl,hb⟩;exact⟨rfl,HLR.out wx w2 h hb⟩)) (fun wz hS119=>?_)
        simp only[List.setIfInBounds_toArray,List.set_cons_succ,List.set_cons_zero]
        refine tK 20 35 (.bool true) 7 rfl hS119 ?_
        refine tK 21 36 (.bool true) 6 rfl hS119 ?_
        refine tU 22 37 5 rfl hS119 ?_
        refine tU 23 38 4 rfl hS119 ?_
        refine tU 24 39 3 rfl hS119 ?_
        refine wpAnyH_all (fuel:=2) (rs:=[25]) (by kernel_rfl) (by decide) (List.forall_mem_singleton.2 ?_)
        refine wpOp_un (i:=25) (d:=40) rfl rfl (by kernel_rfl) ⟨hS119,?_⟩
        simp only[List.setIfInBounds_toArray,List.set_cons_succ,List.set_cons_zero]
        refine tU 26 41 1 rfl hS119 ?_
        refine tK 27 42 (.bool true) 0 rfl hS119 ?_
        refine wpAnyH_done (by kernel_rfl) ?_ _
        exact⟨rfl,by kernel_rfl,hS119⟩
      · intro w9 hF
        simp only[setAll,List.setIfInBounds_toArray,List.set_cons_succ,List.set_cons_zero]
        have HF9:Hid _:=hF
        clear hF
        go_wp2_with fail
        go_ret
        exact⟨rfl,HF9.out.2⟩
    | false=>
      cases rn with
      | false=>
        obtain rfl:Q=false:=by
          cases hQ:Q with
          | false=>rfl
          | true=>exact absurd (HQ1.out.1 hQ).2.2.1 (by decide)
        clear HQ1
        refine region_thenF [(15,.pointer (some ⟨ob,0,none⟩)),(16,.pointer (some ⟨ob,0,none⟩)),(17,.pointer (some ⟨ob,3,none⟩)),(18,.pointer (some ⟨P.bd,0,none⟩)),(19,.pointer (some ⟨rb,5,none⟩)),(20,.int .i64 (inn:Nat)),(21,.int .i64 (alt:Nat)),(22,.pointer (some ⟨rb,6,none⟩)),(23,.int .i64 (alt:Nat)),(24,.bool false),(25,.bool false),(26,.pointer (some ⟨ob,0,none⟩)),(27,.pointer (some ⟨ob,0,none⟩)),(28,.pointer (some ⟨ob,3,none⟩)),(29,.pointer (some ⟨P.bd,0,none⟩)),(30,.pointer (some ⟨rb,5,none⟩)),(31,.int .i64 (inn:Nat)),(32,.pointer (some ⟨rb,6,none⟩)),(33,.int .i64 (alt:Nat)),(34,.bool false),(35,.bool false),(36,.bool false),(37,.pointer (some ⟨ob,0,none⟩)),(38,.pointer (some ⟨rb,5,none⟩)),(39,.int .i64 (inn:Nat)),(40,.bool false),(41,.bool true),(42,.bool true)] (fun w'=>RcS its l P ob rb row w'∧Below w.heap.size w w') ?_ ?_
        · refine wp_region_held (S:=fun w'=>RcS its l P ob rb row w'∧Below w.heap.size w w') (by kernel_rfl) ?_
          simp only[List.size_toArray,List.length_cons,List.length_nil,Nat.reduceAdd,Array.replicate_succ,Array.replicate_zero,List.push_toArray,List.nil_append,List.cons_append]
          refine tK 0 15 (.pointer (some ⟨ob,0,none⟩)) 27 rfl hS0 ?_
          refine tG 1 16 (.pointer (some ⟨ob,0,none⟩)) 26 rfl hS0 ?_
          refine tG 2 17 (.pointer (some ⟨ob,3,none⟩)) 25 rfl hS0 ?_
          refine tV 3 18 (.pointer (some ⟨P.bd,0,none⟩)) 24 rfl hS0 ?_ (fun wx h=>by have y0:=h.1.ou.c3;go_simp)
          refine tG 4 19 (.pointer (some ⟨rb,5,none⟩)) 23 rfl hS0 ?_
          refine tV 5 20 (.int .i64 (inn:Nat)) 22 rfl hS0 ?_ (fun wx h=>by have y0:=HC5.out wx h.1;go_simp)
          refine tG 7 22 (.pointer (some ⟨rb,6,none⟩)) 21 rfl hS0 ?_
          refine tV 8 23 (.int .i64 (alt:Nat)) 20 rfl hS0 ?_ (fun wx h=>by have y0:=HC6.out wx h.1;go_simp)
          refine oneC (i:=6) (d:=21) (f:=119) (args:= #[.pointer (some ⟨P.bd,0,none⟩),.int .i64 (inn:Nat)]) (v:= .int .i64 (alt:Nat)) (fuel:=19) rfl rfl (by kernel_rfl) (by kernel_rfl) (fun _=>by kernel_rfl) hS0 (fun wx h=>Calls.mono (HAT.out wx h.1.ou) (by rintro e w2 ⟨rfl,hb⟩;exact⟨rfl,HLR.out wx w2 h hb⟩)) (fun wz hS106=>?_)
          simp only[List.setIfInBounds_toArray,List.set_cons_succ,List.set_cons_zero]
          refine tV 9 24 (.bool false) 18 rfl hS106 ?_ (fun wx h=>by go_simp)
          refine tK 10 25 (.bool false) 17 rfl hS106 ?_
          refine tK 11 26 (.pointer (some ⟨ob,0,none⟩)) 16 rfl hS106 ?_
          refine tG 12 27 (.pointer (some ⟨ob,0,none⟩)) 15 rfl hS106 ?_
          refine tG 13 28 (.pointer (some ⟨ob,3,none⟩)) 14 rfl hS106 ?_
          refine tV 14 29 (.pointer (some ⟨P.bd,0,none⟩)) 13 rfl hS106 ?_ (fun wx h=>by have y0:=h.1.ou.c3;go_simp)
          refine tG 15 30 (.pointer (some ⟨rb,5,none⟩)) 12 rfl hS106 ?_
          refine tV 16 31 (.int .i64 (inn:Nat)) 11 rfl hS106 ?_ (fun wx h=>by have y0:=HC5.out wx h.1;go_simp)
          refine tG 17 32 (.pointer (some ⟨rb,6,none⟩)) 10 rfl hS106 ?_
          refine tV 18 33 (.int .i64 (alt:Nat)) 9 rfl hS106 ?_ (fun wx h=>by have y0:=HC6.out wx h.1;go_simp)
          refine oneC (i:=19) (d:=34) (f:=84) (args:= #[.pointer (some ⟨P.bd,0,none⟩),.int .i64 (inn:Nat),.int .i64 (alt:Nat)]) (v:= .bool false) (fuel:=8) rfl rfl (by kernel_rfl) (by kernel_rfl) (fun _=>by kernel_rfl) hS106 (fun wx h=>Calls.mono (HFA.out wx h.1.ou) (by rintro e w2 ⟨rfl,hb⟩;exact⟨rfl,HLR.out wx w2 h hb⟩)) (fun wz hS119=>?_)
          simp only[List.setIfInBounds_toArray,List.set_cons_succ,List.set_cons_zero]
          refine tK 20 35 (.bool false) 7 rfl hS119 ?_
          refine tK 21 36 (.bool false) 6 rfl hS119 ?_
          refine tK 22 37 (.pointer (some ⟨ob,0,none⟩)) 5 rfl hS119 ?_
          refine tG 23 38 (.pointer (some ⟨rb,5,none⟩)) 4 rfl hS119 ?_
          refine tV 24 39 (.int .i64 (inn:Nat)) 3 rfl hS119 ?_ (fun wx h=>by have y0:=HC5.out wx h.1;go_simp)
          refine oneC (i:=25) (d:=40) (f:=120) (args:= #[.pointer (some ⟨ob,0,none⟩),.int .i64 (inn:Nat)]) (v:= .bool false) (fuel:=2) rfl rfl (by kernel_rfl) (by kernel_rfl) (fun _=>by kernel_rfl) hS119 (fun wx h=>Calls.mono (HRN.out wx h.1.ou) (by rintro e w2 ⟨rfl,hb⟩;exact⟨rfl,HLR.out wx w2 h hb⟩)) (fun wz hS125=>?_)
          simp only[List.setIfInBounds_toArray,List.set_cons_succ,List.set_cons_zero]
          refine tK 26 41 (.bool true) 1 rfl hS125 ?_
          refine tK 27 42 (.bool true) 0 rfl hS125 ?_
          refine wpAnyH_done (by kernel_rfl) ?_ _
          exact⟨rfl,by kernel_rfl,hS125⟩
        · intro w9 hF
          simp only[setAll,List.setIfInBounds_toArray,List.set_cons_succ,List.set_cons_zero]
          have HF9:Hid _:=hF
          clear hF
          go_wp2_with fail
          go_ret
          exact⟨rfl,HF9.out.2⟩
      | true=>
        have HQ2:Hid (Q=true↔∀a∈afOf its i,psB its l a=true):=⟨fun h=>(HQ1.out.1 h).2.2.2,fun h=>HQ1.out.2 ⟨rfl,rfl,rfl,h⟩⟩
        clear HQ1
        refine region_thenF [(15,.pointer (some ⟨ob,0,none⟩)),(16,.pointer (some ⟨ob,0,none⟩)),(17,.pointer (some ⟨ob,3,none⟩)),(18,.pointer (some ⟨P.bd,0,none⟩)),(19,.pointer (some ⟨rb,5,none⟩)),(20,.int .i64 (inn:Nat)),(21,.int .i64 (alt:Nat)),(22,.pointer (some ⟨rb,6,none⟩)),(23,.int .i64 (alt:Nat)),(24,.bool false),(25,.bool false),(26,.pointer (some ⟨ob,0,none⟩)),(27,.pointer (some ⟨ob,0,none⟩)),(28,.pointer (some ⟨ob,3,none⟩)),(29,.pointer (some ⟨P.bd,0,none⟩)),(30,.pointer (some ⟨rb,5,none⟩)),(31,.int .i64 (inn:Nat)),(32,.pointer (some ⟨rb,6,none⟩)),(33,.int .i64 (alt:Nat)),(34,.bool false),(35,.bool false),(36,.bool false),(37,.pointer (some ⟨ob,0,none⟩)),(38,.pointer (some ⟨rb,5,none⟩)),(39,.int .i64 (inn:Nat)),(40,.bool true),(41,.bool false),(42,.bool false)] (fun w'=>RcS its l P ob rb row w'∧Below w.heap.size w w') ?_ ?_
        · refine wp_region_held (S:=fun w'=>RcS its l P ob rb row w'∧Below w.heap.size w w') (by kernel_rfl) ?_
          simp only[List.size_toArray,List.length_cons,List.length_nil,Nat.reduceAdd,Array.replicate_succ,Array.replicate_zero,List.push_toArray,List.nil_append,List.cons_append]
          refine tK 0 15 (.pointer (some ⟨ob,0,none⟩)) 27 rfl hS0 ?_
          refine tG 1 16 (.pointer (some ⟨ob,0,none⟩)) 26 rfl hS0 ?_
          refine tG 2 17 (.pointer (some ⟨ob,3,none⟩)) 25 rfl hS0 ?_
          refine tV 3 18 (.pointer (some ⟨P.bd,0,none⟩)) 24 rfl hS0 ?_ (fun wx h=>by have y0:=h.1.ou.c3;go_simp)
          refine tG 4 19 (.pointer (some ⟨rb,5,none⟩)) 23 rfl hS0 ?_
          refine tV 5 20 (.int .i64 (inn:Nat)) 22 rfl hS0 ?_ (fun wx h=>by have y0:=HC5.out wx h.1;go_simp)
          refine tG 7 22 (.pointer (some ⟨rb,6,none⟩)) 21 rfl hS0 ?_
          refine tV 8 23 (.int .i64 (alt:Nat)) 20 rfl hS0 ?_ (fun wx h=>by have y0:=HC6.out wx h.1;go_simp)
          refine oneC (i:=6) (d:=21) (f:=119) (args:= #[.pointer (some ⟨P.bd,0,none⟩),.int .i64 (inn:Nat)]) (v:= .int .i64 (alt:Nat)) (fuel:=19) rfl rfl (by kernel_rfl) (by kernel_rfl) (fun _=>by kernel_rfl) hS0 (fun wx h=>Calls.mono (HAT.out wx h.1.ou) (by rintro e w2 ⟨rfl,hb⟩;exact⟨rfl,HLR.out wx w2 h hb⟩)) (fun wz hS106=>?_)
          simp only[List.setIfInBounds_toArray,List.set_cons_succ,List.set_cons_zero]
          refine tV 9 24 (.bool false) 18 rfl hS106 ?_ (fun wx h=>by go_simp)
          refine tK 10 25 (.bool false) 17 rfl hS106 ?_
          refine tK 11 26 (.pointer (some ⟨ob,0,none⟩)) 16 rfl hS106 ?_
          refine tG 12 27 (.pointer (some ⟨ob,0,none⟩)) 15 rfl hS106 ?_
          refine tG 13 28 (.pointer (some ⟨ob,3,none⟩)) 14 rfl hS106 ?_
          refine tV 14 29 (.pointer (some ⟨P.bd,0,none⟩)) 13 rfl hS106 ?_ (fun wx h=>by have y0:=h.1.ou.c3;go_simp)
          refine tG 15 30 (.pointer (some ⟨rb,5,none⟩)) 12 rfl hS106 ?_
          refine tV 16 31 (.int .i64 (inn:Nat)) 11 rfl hS106 ?_ (fun wx h=>by have y0:=HC5.out wx h.1;go_simp)
          refine tG 17 32 (.pointer (some ⟨rb,6,none⟩)) 10 rfl hS106 ?_
          refine tV 18 33 (.int .i64 (alt:Nat)) 9 rfl hS106 ?_ (fun wx h=>by have y0:=HC6.out wx h.1;go_simp)
          refine oneC (i:=19) (d:=34) (f:=84) (args:= #[.pointer (some ⟨P.bd,0,none⟩),.int .i64 (inn:Nat),.int .i64 (alt:Nat)]) (v:= .bool false) (fuel:=8) rfl rfl (by kernel_rfl) (by kernel_rfl) (fun _=>by kernel_rfl) hS106 (fun wx h=>Calls.mono (HFA.out wx h.1.ou) (by rintro e w2 ⟨rfl,hb⟩;exact⟨rfl,HLR.out wx w2 h hb⟩)) (fun wz hS119=>?_)
          simp only[List.setIfInBounds_toArray,List.set_cons_succ,List.set_cons_zero]
          refine tK 20 35 (.bool false) 7 rfl hS119 ?_
          refine tK 21 36 (.bool false) 6 rfl hS119 ?_
          refine tK 22 37 (.pointer (some ⟨ob,0,none⟩)) 5 rfl hS119 ?_
          refine tG 23 38 (.pointer (some ⟨rb,5,none⟩)) 4 rfl hS119 ?_
          refine tV 24 39 (.int .i64 (inn:Nat)) 3 rfl hS119 ?_ (fun wx h=>by have y0:=HC5.out wx h.1;go_simp)
          refine oneC (i:=25) (d:=40) (f:=120) (args:= #[.pointer (some ⟨ob,0,none⟩),.int .i64 (inn:Nat)]) (v:= .bool true) (fuel:=2) rfl rfl (by kernel_rfl) (by kernel_rfl) (fun _=>by kernel_rfl) hS119 (fun wx h=>Calls.mono (HRN.out wx h.1.ou) (by rintro e w2 ⟨rfl,hb⟩;exact⟨rfl,HLR.out wx w2 h hb⟩)) (fun wz hS125=>?_)
          simp only[List.setIfInBounds_toArray,List.set_cons_succ,List.set_cons_zero]
          refine tK 26 41 (.bool false) 1 rfl hS125 ?_
          refine tK 27 42 (.bool false) 0 rfl hS125 ?_
          refine wpAnyH_done (by kernel_rfl) ?_ _
          exact⟨rfl,by kernel_rfl,hS125⟩
        · intro w9 hF
          simp only[setAll,List.setIfInBounds_toArray,List.set_cons_succ,List.set_cons_zero]
          have HF9:Hid _:=hF
          clear hF
          have y7:=HC7.out w9 HF9.out.1
          go_wp2_with fail
          have HAM:Hid (am=x.after.length):=by obtain⟨a,c,e,_⟩:=HRZ.out;cases e;rfl
          have hamb:am≤1000000:=by rw[HAM.out];exact HAFL.out
          clear y7
          go_loopw [46] (fun iv wr=>∃(k:Nat),k≤am∧iv= .int .i64 k∧Hid (RcS its l P ob rb row wr∧Below w.heap.size w wr)∧Hid (∀j (z:Int),j < k→x.after[j]? =some z→psB its l z.toNat=true)) (fun iv _=>am - (intOf iv).toNat)
          case atStart=>exact⟨0,Nat.zero_le _,by go_num,HF9.out,fun j z hj _=>by omega⟩
          case round=>
            obtain⟨k,hk,rfl,HM,HPS⟩:=hrel
            rename World=>wr
            by_cases hlt:k < am
            rotate_left
            · obtain rfl:k=am:=by omega
              obtain rfl:Q=true:=HQ2.out.2 fun a ha=>by
                obtain⟨j,hj⟩:=List.getElem?_of_mem (HAI.out a ha)
                have hjl:=(List.getElem?_eq_some_iff.1 hj).1
                have:=HPS.out j _ (by have:=HAM.out;omega) hj
                rw[Int.toNat_natCast] at this
                exact this
              go_wp2_with fail
              go_ret
              exact⟨rfl,by rw[←hrb];exact HM.out.2⟩
            · obtain⟨z,hz⟩:∃z,x.after[k]? =some z:=⟨_,List.getElem?_eq_getElem (by have:=HAM.out;omega)⟩
              obtain⟨a,rfl,a1,a2,a3⟩:=HAF.out z (List.mem_of_getElem? hz)
              have hcell:∃b off,av=some ⟨b,off,none⟩∧wr.cell? ⟨b,off+k,none⟩=some (.int .i64 (a:Nat)):=by
                obtain⟨a9,c9,e9,_,hr⟩:=HRZ.out
                cases e9
                obtain⟨b,off,e8,e7⟩:=hr k _ hz
                exact⟨b,off,e8,Dg.cell_later HM.out.2 e7⟩
              obtain⟨b8,o8,rfl,z0⟩:=hcell
              have HLG:Hid _:=letsGo_any (i:=a) HM.out.1.ou (by rw[HN.out];exact a3)
              have HPZ:Hid (∀q,psB its l a=q→∀j (z:Int),j < k+1→x.after[j]? =some z→q=true→psB its l z.toNat=true):=fun q hq j z9 hj hz9 hqt=>by
                by_cases hjk:j=k
                · subst hjk
                  rw[hz] at hz9
                  cases hz9
                  rw[Int.toNat_natCast,hq,hqt]
                · exact HPS.out j z9 (by omega) hz9
              have HQN:Hid (psB its l a=false→Q=false):=fun h9=>by
                cases hQ:Q with
                | false=>rfl
                | true=>have:=HQ2.out.1 hQ a a1;rw[h9] at this;cases this
              have hki:(k:Int) < (am:Int):=by omega
              clear hz a1 a2 a3
              generalize psB its l a=q at *
              go_wp2_with fail
              refine Calls.mono HLG.out ?_
              rintro e w4 ⟨rfl,rfl⟩
              clear z0
              cases q with
              | true=>
                go_wp2_with fail
                go_roundw
                case rel=>exact⟨k+1,by omega,by go_num,HM,fun j z hj hz=>HPZ.out _ rfl j z hj hz rfl⟩
                case measure=>simp[intOf] <;> omega
              | false=>
                obtain rfl:Q=false:=HQN.out rfl
                go_wp2_with fail
                go_ret
                exact⟨rfl,HM.out.2⟩
theorem runs_step {s:Nat}(hs:s < its.length)(hsub:(plOf its).sub s=true)(hR:1≤s→∀w,Ou its l P ob w→Calls Tryz.prog 83 #[.pointer (some ⟨ob,0,none⟩),.int .i64 (s:Int)] w fun e w'=>e= .returned (.bool (rcB its l s))∧Below w.heap.size w w')(h:Ou its l P ob w) :
    Calls Tryz.prog 120 #[.pointer (some ⟨ob,0,none⟩),.int .i64 (s:Int)] w fun e w'=>e= .returned (.bool (rnB its l s))∧Below w.heap.size w w':=by
  have c4:=h.c4
  have s0:=h.stat hs
  have hc:=h.chk
  have hn:=h.few
  have HQ:Hid (rnB its l s=true↔¬(St.S (plOf its) (fOf l) s=2∨St.S (plOf its) (fOf l) s=3)∧(s=0∨(1≤s∧rcB its l s=true))):=by
    show _↔_
    rw[rnB_iff,rcB_iff,←dn_S hc hs,←sp_S hc hs hsub]
    by_cases h0:s=0
    · subst h0
      rw[rn_zero]
      exact⟨fun h=>⟨fun h9=>h9.elim h.1 h.2,.inl rfl⟩,fun h=>⟨fun h9=>h.1 (.inl h9),fun h9=>h.1 (.inr h9)⟩⟩
    · rw[rn_eq (by omega) hs hsub]
      exact⟨fun h=>⟨fun h9=>h9.elim h.1.1 h.1.2,.inr ⟨by omega,h.2⟩⟩,fun h=>⟨⟨fun h9=>h.1 (.inl h9),fun h9=>h.1 (.inr h9)⟩,(h.2.resolve_left h0).2⟩⟩
  obtain⟨Q,HQQ⟩:∃Q,Hid (Q=rnB its l s):=⟨_,rfl⟩
  rw[←HQQ.out] at HQ ⊢
  have hii:(s:Int) < (its.length:Int):=by omega
  have HRC:Hid _:=fun h1=>hR h1 w h
  generalize rcB its l s=rc at *
  generalize St.S (plOf its) (fOf l) s=z at *
  generalize its.length=n at *
  clear h hR HQQ hs hsub hc
  by_cases h2:z=2
  · subst h2
    obtain rfl:Q=false:=by
      cases hQ:Q with
      | false=>rfl
      | true=>exact absurd (.inl rfl) (HQ.out.1 hQ).1
    clear HQ
    go_enter Tryz.func120,Tryz.ntmps120
    go_wp2_with fail
    go_ret
    exact⟨rfl,Below.refl _ _⟩
  · have hd2:decide (z=2)=false:=decide_eq_false h2
    have hb2:(z==2)=false:=by simpa using h2
    by_cases h3:z=3
    · subst h3
      obtain rfl:Q=false:=by
        cases hQ:Q with
        | false=>rfl
        | true=>exact absurd (.inr rfl) (HQ.out.1 hQ).1
      clear HQ
      go_enter Tryz.func120,Tryz.ntmps120
      go_wp2_with fail
      go_ret
      exact⟨rfl,Below.refl _ _⟩
    · have hd3:decide (z=3)=false:=decide_eq_false h3
      have hb3:(z==3)=false:=by simpa using h3
      by_cases h0:s=0
      · subst h0
        obtain rfl:Q=true:=HQ.out.2 ⟨fun h=>h.elim h2 h3,.inl rfl⟩
        clear HQ HRC hd2 hd3 hb2 hb3
        have hd2:decide (z=2)=false:=decide_eq_false h2
        have hd3:decide (z=3)=false:=decide_eq_false h3
        have s1:w.cell? ⟨P.sb,P.so,none⟩=some (.int .i64 z):=s0
        change Calls Tryz.prog 120 #[.pointer (some ⟨ob,0,none⟩),.int .i64 0] w _
        have hi0:(0:Int) < (n:Int):=hii
        clear hii
        go_enter Tryz.func120,Tryz.ntmps120
        go_wp2_with fail
        go_ret
        have hb2:(z==2)=false:=by simpa using h2
        have hb3:(z==3)=false:=by simpa using h3
        refine⟨?_,Below.refl _ _⟩
        show Ending.returned (.bool (!(z==2) && !(z==3)))=_
        rw[hb2,hb3]
        rfl
      · obtain rfl:Q=rc:=by
          refine Bool.eq_iff_iff.2 ?_
          rw[HQ.out]
          exact⟨fun h=>(h.2.resolve_left h0).2,fun h=>⟨fun h=>h.elim h2 h3,.inr ⟨by omega,h⟩⟩⟩
        have H2:Hid _:=HRC.out (by omega)
        have hs0:decide ((s:Int)=0)=false:=decide_eq_false (by omega)
        have hs1:((s:Int)==0)=false:=by simpa using h0
        have hs2:¬(s:Int)=0:=by omega
        clear HQ HRC
        go_enter Tryz.func120,Tryz.ntmps120
        go_wp2_with fail
        refine Calls.mono H2.out ?_
        rintro e w2 ⟨rfl,hb2⟩
        have HB:Hid _:=hb2
        clear hb2 H2
        cases Q <;>
        (go_wp2_with fail
         go_ret
         exact⟨rfl,HB.out⟩)
theorem reach_runs:∀n i:Nat,i < n→i < its.length→(1≤i→∀w,Ou its l P ob w→Calls Tryz.prog 83 #[.pointer (some ⟨ob,0,none⟩),.int .i64 (i:Int)] w fun e w'=>e= .returned (.bool (rcB its l i))∧Below w.heap.size w w')∧
    ((plOf its).sub i=true→∀w,Ou its l P ob w→Calls Tryz.prog 120 #[.pointer (some ⟨ob,0,none⟩),.int .i64 (i:Int)] w fun e w'=>e= .returned (.bool (rnB its l i))∧Below w.heap.size w w'):=by
  intro n
  induction n with
  | zero=>intro i h;omega
  | succ n ih=>
    intro i hi hl
    have h1:1≤i→∀w,Ou its l P ob w→Calls Tryz.prog 83 #[.pointer (some ⟨ob,0,none⟩),.int .i64 (i:Int)] w fun e w'=>e= .returned (.bool (rcB its l i))∧Below w.heap.size w w':=fun h1 w h=>by
      obtain⟨i1,i2,_⟩:=inn_facts h.chk h1 hl
      exact reach_step h1 hl ((ih _ (by omega) (by omega)).2 i2) h
    exact⟨h1,fun hs w h=>runs_step hl hs h1 h⟩
theorem reach_any {i:Nat}(h1:1≤i)(hi:i < its.length)(h:Ou its l P ob w):Calls Tryz.prog 83 #[.pointer (some ⟨ob,0,none⟩),.int .i64 (i:Int)] w fun e w'=>e= .returned (.bool (rcB its l i))∧Below w.heap.size w w':=(reach_runs (i+1) i (by omega) hi).1 h1 w h
end Go.Proofs.YtieoppabellafaaGreatDoor.Ts
