/- Texts of the seat, packed: DQf DQg DPb DQi DPk DPc DPd DPe. -/
import Derived.Test.YtieoppabellafaaGreatDoorH01
import Derived.Test.YtieoppabellafaaGreatDoorH02
import Derived.Deep.CutRange
import Derived.Deep.RegionHeld
set_option maxRecDepth 1000000
set_option maxHeartbeats 64000000
set_option linter.unusedVariables false
namespace Go.Proofs.YtieoppabellafaaGreatDoor.Dg
open Go.RowKit
structure WvS (w wc:World)(m:Nat)(W:List Nat):Prop where
  box:Box3 w wc (.slice (some ⟨w.heap.size+1+1+1,0,none⟩) m m) (.slice none 0 0) (.int .i64 0)
  web:wc.heap[w.heap.size+1+1+1]? =some (.cells (uvs W).toArray 182 (0,0))
  len:W.length=m
  lt:∀x∈W,x < 18446744073709551616
def OnlyN (Q:Exit→Act→World→Prop):Exit→Act→World→Prop:=fun e a w=>match e with
  | .normal=>Q .normal a w
  | _=>False
theorem wp_onlyN {P:Program}{c:Code}{Q:Exit→Act→World→Prop}{a:Act}{w:World}(h:c.wp P (OnlyN Q) a w):c.wp P Q a w:=
  wp_mono h (fun e a w hq=>by cases e <;> first | exact hq | exact hq.elim)
theorem pan_end {a:Act}{w wc:World}{R:Ending→World→Prop}{c4 c5 c6:Value}(h:Box3 w wc c4 c5 c6)(h4:a.tmps.getD 4 undef= .pointer (some ⟨w.heap.size,0,none⟩))(h5:a.tmps.getD 5 undef= .pointer (some ⟨w.heap.size+1,0,none⟩))(h6:a.tmps.getD 6 undef= .pointer (some ⟨w.heap.size+1+1,0,none⟩))
    (hd:a.defers=[{target:=Target.fn (Fn.func 114) #[.pointer (some ⟨w.heap.size,0,none⟩),.pointer (some ⟨w.heap.size+1,0,none⟩),.pointer (some ⟨w.heap.size+1+1,0,none⟩)],args:= #[]}])
    (hR:R (.returned (.tuple #[.slice none 0 0,.slice none 0 0,.int .i64 13])) (put3 wc w.heap.size (.slice none 0 0) (.slice none 0 0) (.int .i64 13)).drew):bodyPostD Tryz.prog Tryz.f80 R (Exit.panic [{v:= .iface 29 (.int .i64 13),recovered:=false}]) a wc:=by
  have hB:=h.put (.slice none 0 0) (.slice none 0 0) (.int .i64 13)
  have q4:((put3 wc w.heap.size (.slice none 0 0) (.slice none 0 0) (.int .i64 13)).drew).cell? ⟨w.heap.size,0,none⟩=_:=(cell_row hB.h4 0).trans rfl
  have q5:((put3 wc w.heap.size (.slice none 0 0) (.slice none 0 0) (.int .i64 13)).drew).cell? ⟨w.heap.size+1,0,none⟩=_:=(cell_row hB.h5 0).trans rfl
  have q6:((put3 wc w.heap.size (.slice none 0 0) (.slice none 0 0) (.int .i64 13)).drew).cell? ⟨w.heap.size+1+1,0,none⟩=_:=(cell_row hB.h6 0).trans rfl
  have h4':a.tmps[4]?.getD undef= .pointer (some ⟨w.heap.size,0,none⟩):=by simpa using h4
  have h5':a.tmps[5]?.getD undef= .pointer (some ⟨w.heap.size+1,0,none⟩):=by simpa using h5
  have h6':a.tmps[6]?.getD undef= .pointer (some ⟨w.heap.size+1+1,0,none⟩):=by simpa using h6
  simp only[bodyPostD,hd]
  refine leaves_cons (f:=114) (args:= #[.pointer (some ⟨w.heap.size,0,none⟩),.pointer (some ⟨w.heap.size+1,0,none⟩),.pointer (some ⟨w.heap.size+1+1,0,none⟩)]) (by simp) (by simp[go_sem]) ?_
  refine (catch_cycle w.heap.size (w.heap.size+1) (w.heap.size+1+1) c4 c5 c6 160 48 29 [] wc h.h4 h.h5 h.h6 (by omega) (by omega) (by omega)).mono ?_
  rintro e u' w'' ⟨rfl,rfl,rfl⟩
  change Leaves _ _ _ _ _ _ (put3 wc w.heap.size (.slice none 0 0) (.slice none 0 0) (.int .i64 13)).drew
  simp[Leaves,settle,results,Tryz.results80,go_sem,q4,q5,q6,h4',h5',h6']
  exact hR
theorem ok_end {a:Act}{w wc:World}{R:Ending→World→Prop}{c4 c5 c6:Value}(h:Box3 w wc c4 c5 c6)(h4:a.tmps.getD 4 undef= .pointer (some ⟨w.heap.size,0,none⟩))(h5:a.tmps.getD 5 undef= .pointer (some ⟨w.heap.size+1,0,none⟩))(h6:a.tmps.getD 6 undef= .pointer (some ⟨w.heap.size+1+1,0,none⟩))
    (hd:a.defers=[{target:=Target.fn (Fn.func 114) #[.pointer (some ⟨w.heap.size,0,none⟩),.pointer (some ⟨w.heap.size+1,0,none⟩),.pointer (some ⟨w.heap.size+1+1,0,none⟩)],args:= #[]}])
    (hR:R (.returned (.tuple #[c4,c5,c6])) wc):bodyPostD Tryz.prog Tryz.f80 R Exit.ret a wc:=by
  have q4:=(cell_row h.h4 0).trans rfl
  have q5:=(cell_row h.h5 0).trans rfl
  have q6:=(cell_row h.h6 0).trans rfl
  have h4':a.tmps[4]?.getD undef= .pointer (some ⟨w.heap.size,0,none⟩):=by simpa using h4
  have h5':a.tmps[5]?.getD undef= .pointer (some ⟨w.heap.size+1,0,none⟩):=by simpa using h5
  have h6':a.tmps[6]?.getD undef= .pointer (some ⟨w.heap.size+1+1,0,none⟩):=by simpa using h6
  simp only[bodyPostD,hd]
  refine leaves_cons (f:=114) (args:= #[.pointer (some ⟨w.heap.size,0,none⟩),.pointer (some ⟨w.heap.size+1,0,none⟩),.pointer (some ⟨w.heap.size+1+1,0,none⟩)]) (by simp) (by simp[go_sem]) ?_
  refine (catch_idle w.heap.size (w.heap.size+1) (w.heap.size+1+1) wc).mono ?_
  rintro e u' w'' ⟨rfl,rfl,rfl⟩
  simp[Leaves,settle,results,Tryz.results80,go_sem,q4,q5,q6,h4',h5',h6']
  exact hR
theorem cell_put3 {wc:World}{b c i:Nat}{v:Value}(v4 v5 v6:Value)(h:wc.cell? ⟨c,i,none⟩=some v)(h1:c≠b)(h2:c≠b+1)(h3:c≠b+1+1):(put3 wc b v4 v5 v6).cell? ⟨c,i,none⟩=some v:=by
  rw[zI (a:=⟨c,i,none⟩) (w:=wc)]
  · exact h
  · unfold put3
    rw[jW _ _ _ c h3,jW _ _ _ c h2,jW _ _ _ c h1]
theorem made_zero (m:Nat):madeCells #[Value.int .u64 0] m=(uvs (List.replicate m 0)).toArray:=by
  apply Array.toList_inj.1
  rw[toList_madeCells_one]
  simp[uvs]
theorem WvS.new (w:World)(m:Nat):WvS w ((((w.alloc (.cells #[.slice (some ⟨w.heap.size+1+1+1,0,none⟩) m m] 160)).alloc (.cells #[.slice none 0 0] 48)).alloc (.cells #[.int .i64 0] 29)).alloc (.cells (madeCells #[.int .u64 0] m) 182)) m (List.replicate m 0):=by
  refine⟨⟨row_alloc (row_alloc (row_alloc (row_new w _ 160) _) _) _,?_,?_,((((Below.refl _ w).alloc (jG _) _).alloc (by simp) _).alloc (by simp;omega) _).alloc (by simp;omega) _,by simp⟩,?_,by simp,?_⟩
  · have:=row_alloc (row_alloc (row_new (w.alloc (.cells #[.slice (some ⟨w.heap.size+1+1+1,0,none⟩) m m] 160)) #[.slice none 0 0] 48) (.cells #[.int .i64 0] 29)) (.cells (madeCells #[.int .u64 0] m) 182)
    rwa [jV] at this
  · have:=row_alloc (row_new ((w.alloc (.cells #[.slice (some ⟨w.heap.size+1+1+1,0,none⟩) m m] 160)).alloc (.cells #[.slice none 0 0] 48)) #[.int .i64 0] 29) (.cells (madeCells #[.int .u64 0] m) 182)
    rwa [jV,jV] at this
  · have:=row_new (((w.alloc (.cells #[.slice (some ⟨w.heap.size+1+1+1,0,none⟩) m m] 160)).alloc (.cells #[.slice none 0 0] 48)).alloc (.cells #[.int .i64 0] 29)) (madeCells #[.int .u64 0] m) 182
    rw[jV,jV,jV] at this
    rw[←made_zero]
    exact this
  · intro x hx
    have:=(List.mem_replicate.1 hx).2
    omega
theorem WvS.alloc {w wc:World}{m:Nat}{W:List Nat}(h:WvS w wc m W)(o:Obj):WvS w (wc.alloc o) m W:=
  ⟨h.box.next ((Below.refl _ _).alloc (jG _) o),row_alloc h.web o,h.len,h.lt⟩
theorem WvS.put {w wc:World}{m:Nat}{W:List Nat}(h:WvS w wc m W)(t x:Nat)(hx:x < 18446744073709551616):WvS w (wc.setCell ⟨w.heap.size+1+1+1,t,none⟩ (.int .u64 (x:Int))).drew m (W.set t x):=by
  refine⟨⟨?_,?_,?_,?_,?_⟩,?_,by simpa using h.len,?_⟩
  · exact row_other h.box.h4 _ (by omega)
  · exact row_other h.box.h5 _ (by omega)
  · exact row_other h.box.h6 _ (by omega)
  · exact bl_drawn1 (h.box.bel.setCell (p:=⟨w.heap.size+1+1+1,t,none⟩) (by show w.heap.size≤w.heap.size+1+1+1;omega) _)
  · show w.heap.size+3≤(wc.setCell _ _).heap.size
    simpa using h.box.sz
  · have:=row_set h.web t (.int .u64 (x:Int))
    rw[show (uvs W).toArray.setIfInBounds t (.int .u64 (x:Int))=(uvs (W.set t x)).toArray by simp[uvs,List.map_set]] at this
    exact this
  · intro y hy
    rcases List.mem_or_eq_of_mem_set hy with h1 | h1
    · exact h.lt y h1
    · rw[h1];exact hx
theorem WvS.cell {w wc:World}{m:Nat}{W:List Nat}(h:WvS w wc m W)(t:Nat)(ht:t < m):wc.cell? ⟨w.heap.size+1+1+1,t,none⟩=some (.int .u64 ((W.getD t 0:Nat):Int))∧wc.frozen? ⟨w.heap.size+1+1+1,t,none⟩=false∧W.getD t 0 < 18446744073709551616:=by
  have hl:=h.len
  have hg:W[t]? =some (W.getD t 0):=by rw[jU,jF (by omega)];rfl
  refine⟨?_,froz_row h.web t,h.lt _ (jS hg)⟩
  rw[cell_row h.web t,jY,uvs,zC,hg]
  rfl
theorem weave_main (m:Nat)(v:Value)(l:List (Int × Int))(w:World)(hl:RdA w v l)(hm:m≤64)(hlen:l.length≤4096)(hT:Tab w) :
    Calls Tryz.prog 80 #[.int .i64 (m:Int),v] w fun e w'=>WvC (m:Int) l w e w':=by
  obtain⟨i0,hi0,hz0,hz1,hz2⟩:=info_parts Tryz.info182
  have HRA:Hid (RdA w v l):=hl
  obtain⟨a,cap,rfl,hc,hi64,hr⟩:=hl
  have HR:Hid _:=hr
  have HI:Hid _:=hi64
  obtain⟨n,HN⟩:∃n,Hid (l.length=n):=⟨_,rfl⟩
  rw[HN.out] at hc hlen ⊢
  have hmk:=fun wx=>run_make (P:=Tryz.prog) wx 160 182 i0 _ Tryz.underlying160 hi0 hz0 .i64 .i64 (m:Int) (m:Int) (by omega) (by omega) (by rw[hz2];omega) (by omega)
  simp only[hz1,j8,Nat.mul_one] at hmk
  have n1:¬((m:Int) < 0):=by omega
  have n1d:decide ((m:Int) < 0)=false:=by simp
  have n2:¬(64 < (m:Int)):=by omega
  have n2d:decide (64 < (m:Int))=false:=by simpa using n2
  have n3:¬(4096 < (n:Int)):=by omega
  have n3d:decide (4096 < (n:Int))=false:=by simpa using n3
  have hmf:∀(fn:Fn) (first cap:Array Value) (w:World),(Instr.makeFunc fn first cap).run Tryz.prog w= .ok (.func fn first cap) w:=fun _ _ _ _=>rfl
  have HTb:Hid (Tab w):=hT
  clear hr hi64 hT
  go_enter_defers Tryz.func80,Tryz.ntmps80
  go_upto_region 4 with fail
  have HS0:Hid _:=WvS.new w m
  generalize ((((w.alloc (.cells #[.slice (some ⟨w.heap.size+1+1+1,0,none⟩) m m] 160)).alloc (.cells #[.slice none 0 0] 48)).alloc (.cells #[.int .i64 0] 29)).alloc (.cells (madeCells #[.int .u64 0] m) 182))=w1 at *
  go_wp2_with fail
  go_loopw [8,24] (fun _ iv wr=>∃(k:Nat) (W:List Nat),k≤n∧iv= .int .i64 k∧Hid (WvS w wr m W)∧Hid ((l.take k).foldl putArc (List.replicate m 0)=W)∧Hid ((l.take k).all (endsOk m)=true)) (fun _ iv _=>n - (intOf iv).toNat)
  case atStart=>exact⟨0,List.replicate m 0,zE _,rfl,HS0,by show (l.take 0).foldl _ _=_;rfl,by show (l.take 0).all _=_;rfl⟩
  case round=>
    clear HS0
    obtain⟨k,W,hk,rfl,HS,HW,HA⟩:=hrel
    rename World=>w2
    by_cases hlt:k < n
    · have hki:(k:Int) < (n:Int):=by omega
      obtain⟨p,hp⟩:∃p,l[k]? =some p:=⟨_,jF (by rw[HN.out];exact hlt)⟩
      obtain⟨b,off,rfl,c0,c1⟩:=HR.out k p hp
      have hpi:=HI.out p (jS hp)
      have d0:w2.cell? ⟨b,off+k * 2,none⟩=some (.int .i64 p.1):=(zI (a:=⟨b,off+k * 2,none⟩) (HS.out.box.bel.block b (lt_of_cell? c0))).trans c0
      have d1:w2.cell? ⟨b,off+k * 2+1,none⟩=some (.int .i64 p.2):=(zI (a:=⟨b,off+k * 2+1,none⟩) (HS.out.box.bel.block b (lt_of_cell? c1))).trans c1
      have HS2:Hid _:=HS.out.alloc (.cells #[.int .i64 p.1,.int .i64 p.2] 164)
      have HAl:Hid (l.take (k+1)=l.take k ++ [p]):=by show _=_;rw[zL,hp];rfl
      have hz2:=HS.out.box.sz
      have M1:Hid (∀wx,Calls Tryz.prog 112 #[.int .i64 p.1,.int .i64 (m:Int)] wx fun e w'=>e= .returned (.bool (decide (0≤p.1∧p.1 < (m:Int))))∧w'=wx):=fun wx=>isNode_any p.1 m wx
      have M2:Hid (∀wx,Calls Tryz.prog 112 #[.int .i64 p.2,.int .i64 (m:Int)] wx fun e w'=>e= .returned (.bool (decide (0≤p.2∧p.2 < (m:Int))))∧w'=wx):=fun wx=>isNode_any p.2 m wx
      have HBad:Hid (endsOk m p=false→weaveP (m:Int) l= .bad 2):=by
        show _→_
        intro h
        unfold weaveP
        rw[if_pos]
        refine .inr (.inr (.inr ?_))
        rw[List.all_eq_false]
        exact⟨p,jS hp,by rw[j8,h];decide⟩
      have HWb:Hid (w.heap.size+1+1+1 < w2.heap.size):=(jD.1 HS.out.web).1
      clear hp c0 c1 HS
      have nb2:=row_new w2 #[.int .i64 p.1,.int .i64 p.2] 164
      have g0:=(cell_row nb2 0).trans rfl
      have g1:=(cell_row nb2 1).trans rfl
      have g4:=(cell_row HS2.out.box.h4 0).trans rfl
      have g5:=(cell_row HS2.out.box.h5 0).trans rfl
      have g6:=(cell_row HS2.out.box.h6 0).trans rfl
      have k4:=froz_row HS2.out.box.h4 0
      have k5:=froz_row HS2.out.box.h5 0
      have k6:=froz_row HS2.out.box.h6 0
      by_cases hf:0≤p.1∧p.1 < (m:Int)
      · have hfd:decide (0≤p.1∧p.1 < (m:Int))=true:=by simpa using hf
        rw[hfd] at M1
        by_cases ht:0≤p.2∧p.2 < (m:Int)
        · have htd:decide (0≤p.2∧p.2 < (m:Int))=true:=by simpa using ht
          rw[htd] at M2
          obtain⟨f,hfe⟩:∃f:Nat,p.1=(f:Int):=⟨p.1.toNat,by omega⟩
          obtain⟨t,hte⟩:∃t:Nat,p.2=(t:Int):=⟨p.2.toNat,by omega⟩
          have hfm:f < m:=by omega
          have htm:t < m:=by omega
          have HPA:Hid (putArc W p=W.set t (W.getD t 0 ||| 2 ^ f)):=by show _=_;unfold putArc;rw[hfe,hte,j8,j8]
          have HEN:Hid (endsOk m p=true):=by show _=_;simp[endsOk];omega
          obtain⟨x1,x2,x3⟩:=HS2.out.cell t htm
          have M3:Hid (∀wx,Calls Tryz.prog 113 #[.int .i64 (f:Int)] wx fun e w'=>e= .returned (.int .u64 ((2 ^ f:Nat):Int))∧w'=wx):=fun wx=>only_any f (by omega) wx
          have h2:=two_lt (show f < 64 by omega)
          have e1:=bits_or_u64_nat (W.getD t 0) (2 ^ f) x3 h2
          have hor:=or_lt x3 h2
          rw[hfe] at d0 g0 M1 HS2 nb2 x1 x2
          rw[hte] at d1 g1 M2 HS2 nb2 x1 x2
          rw[hfe,hte] at g4 g5 g6 k4 k5 k6
          rw[hte] at g0
          rw[hfe] at g1
          have HS3:Hid _:=HS2.out.put t (W.getD t 0 ||| 2 ^ f) hor
          have hti:(t:Int) < (m:Int):=by omega
          have HW2:Hid ((l.take (k+1)).foldl putArc (List.replicate m 0)=W.set t (W.getD t 0 ||| 2 ^ f)):=by
            show _=_
            rw[HAl.out,List.foldl_append,HW.out]
            exact HPA.out
          have HA2:Hid ((l.take (k+1)).all (endsOk m)=true):=by
            show _=_
            rw[HAl.out,List.all_append,HA.out]
            simp[HEN.out]
          clear HPA HEN HAl HW HA hfd htd hfe hte HBad hf ht hpi
          generalize W.getD t 0=y at *
          generalize 2 ^ f=pf at *
          go_wp2_with fail
          refine Calls.mono (M1.out _) ?_
          rintro e w3 ⟨rfl,rfl⟩
          go_wp2_with fail
          refine Calls.mono (M2.out _) ?_
          rintro e w3 ⟨rfl,rfl⟩
          go_wp2_with fail
          have hne1:w.heap.size≠w.heap.size+1+1+1:=by omega
          have hne2:w2.heap.size≠w.heap.size+1+1+1:=by have:=HWb.out;omega
          generalize w2.alloc (.cells #[.int .i64 (f:Int),.int .i64 (t:Int)] 164)=w3 at *
          generalize w2.heap.size=G2 at *
          clear nb2 d0 d1 HWb hz2
          refine wp_onlyN ?_
          go_region_law (go_simp;go_at_call 113;refine Calls.mono (M3.out _) ?_;rintro e w4 ⟨rfl,rfl⟩;dsimp only)
          all_goals
            dsimp only[OnlyN]
            go_wp2_with fail
            go_roundw
            case rel=>exact⟨k+1,_,by omega,by go_num,HS3,HW2,HA2⟩
            case measure=>simp[intOf];omega
        · have htd:decide (0≤p.2∧p.2 < (m:Int))=false:=by simpa using ht
          rw[htd] at M2
          have hbad:weaveP (m:Int) l= .bad 2:=HBad.out (by simp[endsOk];omega)
          have HBx:Hid _:=HS2.out.box.put (.slice none 0 0) (.slice none 0 0) (.int .i64 2)
          have HP:Hid _:=hbad
          clear hbad HBad
          go_wp2_with fail
          refine Calls.mono (M1.out _) ?_
          rintro e w3 ⟨rfl,rfl⟩
          go_wp2_with fail
          refine Calls.mono (M2.out _) ?_
          rintro e w3 ⟨rfl,rfl⟩
          go_wp2_with fail
          exact box_ret HBx.out rfl rfl rfl rfl ⟨HBx.out.bel,by rw[HP.out]⟩
      · have hfd:decide (0≤p.1∧p.1 < (m:Int))=false:=by simpa using hf
        rw[hfd] at M1
        have hbad:weaveP (m:Int) l= .bad 2:=HBad.out (by simp[endsOk];omega)
        have HBx:Hid _:=HS2.out.box.put (.slice none 0 0) (.slice none 0 0) (.int .i64 2)
        have HP:Hid _:=hbad
        clear hbad HBad
        go_wp2_with fail
        refine Calls.mono (M1.out _) ?_
        rintro e w3 ⟨rfl,rfl⟩
        go_wp2_with fail
        exact box_ret HBx.out rfl rfl rfl rfl ⟨HBx.out.bel,by rw[HP.out]⟩
    · have hkn:k=n:=by omega
      subst hkn
      have hWf:W=webOf m l:=by
        have h1:=HW.out
        rw[zR (by rw[HN.out];exact jG _)] at h1
        exact h1.symm
      have hAf:l.all (endsOk m)=true:=by
        have h1:=HA.out
        rwa [zR (by rw[HN.out];exact jG _)] at h1
      have hP:weaveP (m:Int) l=match ordW W with
          | none=> .bad 13
          | some o=> .ok W o:=by
        unfold weaveP
        rw[j8,if_neg (by rw[hAf,HN.out];simp;omega),hWf]
        cases ordW (webOf m l) <;> rfl
      have hWl:=HS.out.len
      have hRd:RdU w2.drew (.slice (some ⟨w.heap.size+1+1+1,0,none⟩) m m) W:=by
        refine⟨_,m,by rw[hWl],by omega,HS.out.lt,fun i x hi=>⟨_,0,rfl,?_⟩⟩
        have hil:i < m:=by have:=(jH.1 hi).1;omega
        have:=(HS.out.cell i hil).1
        rw[jU,hi] at this
        rw[zD]
        exact this
      have HRd:Hid (RdU w2.drew (.slice (some ⟨w.heap.size+1+1+1,0,none⟩) m m) W):=hRd
      have M:Hid _:=order_any W _ w2.drew hRd (by omega) (HTb.out.later (bl_drawn1 HS.out.box.bel))
      have HBx:Hid (Box3 w w2.drew (.slice (some ⟨w.heap.size+1+1+1,0,none⟩) m m) (.slice none 0 0) (.int .i64 0)):=HS.out.box.next (bl_drawn1 (Below.refl _ _))
      have HP:Hid _:=hP
      have HWl:Hid _:=hWl
      have HWb:Hid (w.heap.size+1+1+1 < w2.heap.size):=(jD.1 HS.out.web).1
      have g4:=(cell_row HS.out.box.h4 0).trans rfl
      clear hRd hP HW HA hAf hWl HS hWf
      go_upto_region 12 with fail
      go_region_law (first
        | (go_simp
           go_at_call 115
           refine Calls.mono M.out ?_
           rintro e w4 ⟨hb4,⟨o,v4,ho,rfl,hown,hlen⟩ | ⟨hno,rfl⟩⟩
           rotate_left
           exact pan_end (HBx.out.next hb4) rfl rfl rfl rfl ⟨bl_drawn1 ((HBx.out.next hb4).put _ _ _).bel,by rw[HP.out,hno]⟩
           have hbx4:=HBx.out.next hb4
           obtain⟨oa,oc,rfl,hoc,hord⟩:=RdI.of_own hown
           have f4:=(cell_row hbx4.h4 0).trans rfl
           have f5:=(cell_row hbx4.h5 0).trans rfl
           have f6:=(cell_row hbx4.h6 0).trans rfl
           have z4:=froz_row hbx4.h4 0
           have z5:=froz_row hbx4.h5 0
           have z6:=froz_row hbx4.h6 0
           dsimp only))
      all_goals
        have hzd:w2.drew.heap.size=w2.heap.size:=rfl
        have hwb:=HWb.out
        have hU:RdU (put3 w4 w.heap.size (.slice (some ⟨w.heap.size+1+1+1,0,none⟩) m m) (.slice oa o.length oc) (.int .i64 0)) (.slice (some ⟨w.heap.size+1+1+1,0,none⟩) m m) W:=by
          obtain⟨a',cap',hv',hc',hl',hr'⟩:=HRd.out.later hb4
          refine⟨a',cap',hv',hc',hl',fun i x hi=>?_⟩
          obtain⟨b',off',ha',c0'⟩:=hr' i x hi
          have hb':b'=w.heap.size+1+1+1:=by
            simp only[Value.slice.injEq] at hv'
            rw[←hv'.1] at ha'
            simp only[Option.some.injEq,Addr.mk.injEq] at ha'
            exact ha'.1.symm
          exact⟨b',off',ha',cell_put3 _ _ _ c0' (by omega) (by omega) (by omega)⟩
        have hI:RdI (put3 w4 w.heap.size (.slice (some ⟨w.heap.size+1+1+1,0,none⟩) m m) (.slice oa o.length oc) (.int .i64 0)) (.slice oa o.length oc) o:=by
          refine⟨oa,oc,rfl,hoc,fun i x hi=>?_⟩
          obtain⟨b',off',ha',c0'⟩:=hord i x hi
          have hlt:=(hown.lt b' (by rw[ha'];rfl)).1
          exact⟨b',off',ha',cell_put3 _ _ _ c0' (by omega) (by omega) (by omega)⟩
        have HUI:Hid (WvC (m:Int) l w (.returned (.tuple #[.slice (some ⟨w.heap.size+1+1+1,0,none⟩) m m,.slice oa o.length oc,.int .i64 0])) (put3 w4 w.heap.size (.slice (some ⟨w.heap.size+1+1+1,0,none⟩) m m) (.slice oa o.length oc) (.int .i64 0))):=by
          refine⟨(hbx4.put _ _ _).bel,?_⟩
          rw[HP.out,ho]
          exact⟨_,_,rfl,hU,hI,by rw[j8];exact HWl.out,by rw[j8,hlen];exact HWl.out⟩
        have HB4:Hid _:=hbx4.put (.slice (some ⟨w.heap.size+1+1+1,0,none⟩) m m) (.slice oa o.length oc) (.int .i64 0)
        rw[hlen] at HUI HB4
        clear hU hI hord hown hbx4 hb4 HRd HP M
        go_wp2_with fail
        exact ok_end HB4.out rfl rfl rfl rfl HUI.out
theorem weave_any (n:Int)(v:Value)(l:List (Int × Int))(w:World)(hl:RdA w v l)(hT:Tab w) :
  Calls Tryz.prog 80 #[.int .i64 n,v] w fun e w'=>WvC n l w e w':=by
 by_cases h:n < 0∨64 < n∨4096 < l.length
 ·exact weave_early n v l w hl h
 ·obtain⟨m,rfl⟩:∃m:Nat,n=(m:Int):=⟨n.toNat,by omega⟩
  exact weave_main m v l w hl (by omega) (by omega) hT
structure RowU (wc:World)(b:Nat)(R:List Nat):Prop where
 row:wc.heap[b]? =some (.cells (uvs R).toArray 182 (0,0))
 lt:∀x∈R,x < 18446744073709551616
theorem RowU.get {wc:World}{b:Nat}{R:List Nat}(h:RowU wc b R)(t:Nat)(ht:t < R.length):wc.cell? ⟨b,t,none⟩=some (.int .u64 ((R.getD t 0:Nat):Int))∧wc.frozen? ⟨b,t,none⟩=false∧R.getD t 0 < 18446744073709551616:=by
 have hg:R[t]? =some (R.getD t 0):=by rw[jU,jF ht];rfl
 refine⟨?_,froz_row h.row t,h.lt _ (jS hg)⟩
 rw[cell_row h.row t,jY,uvs,zC,hg]
 rfl
theorem RowU.set {wc:World}{b:Nat}{R:List Nat}(h:RowU wc b R)(t x:Nat)(hx:x < 18446744073709551616):RowU (wc.setCell ⟨b,t,none⟩ (.int .u64 (x:Int))) b (R.set t x):=by
 refine⟨?_,?_⟩
 ·have:=row_set h.row t (.int .u64 (x:Int));rw[show (uvs R).toArray.setIfInBounds t (.int .u64 (x:Int))=(uvs (R.set t x)).toArray by simp[uvs,List.map_set]] at this
  exact this
 ·intro y hy
  rcases List.mem_or_eq_of_mem_set hy with h1 | h1
  ·exact h.lt y h1
  ·rw[h1];exact hx
theorem RowU.below {wc wd:World}{b:Nat}{R:List Nat}(h:RowU wc b R)(hb:Below wc.heap.size wc wd):RowU wd b R:=⟨(hb.block b (jD.1 h.row).1).trans h.row,h.lt⟩
theorem RowU.drew {wc:World}{b:Nat}{R:List Nat}(h:RowU wc b R):RowU wc.drew b R:=⟨h.row,h.lt⟩
def OrderC (n:Int)(l:List (Int × Int))(w:World)(e:Ending)(w':World):Prop:=Below w.heap.size w w'∧match weaveP n l with
 | .bad c=>e= .returned (.tuple #[.slice none 0 0,.int .i64 c])
 | .ok _ o=>∃v,e= .returned (.tuple #[v,.int .i64 0])∧RdI w' v o∧o.length=n.toNat
theorem Order_any (n:Int)(v:Value)(l:List (Int × Int))(w:World)(hl:RdA w v l)(hT:Tab w) :
  Calls Tryz.prog 48 #[.int .i64 n,v] w fun e w'=>OrderC n l w e w':=by
 have M:Hid (Calls Tryz.prog 80 #[.int .i64 n,v] w fun e w'=>WvC n l w e w'):=weave_any n v l w hl hT;obtain⟨a,cap,rfl,_⟩:=hl
 unfold WvC at M;unfold OrderC;cases hP:weaveP n l with
 | bad c=>
  rw[hP] at M
  go_enter Tryz.func48,Tryz.ntmps48
  go_wp2_with fail
  refine Calls.mono M.out ?_;rintro e w1 ⟨hb,rfl⟩
  go_wp2_with fail
  go_ret2
  exact⟨hb,rfl⟩
 | ok W o=>
  rw[hP] at M
  go_enter Tryz.func48,Tryz.ntmps48
  go_wp2_with fail
  refine Calls.mono M.out ?_;rintro e w1 ⟨hb,v1,v2,rfl,hU,hI,h1,h2⟩
  go_wp2_with fail
  go_ret2
  exact⟨hb,v2,rfl,hI,h2⟩
def orIn (v:Nat)(R:List Nat)(f:Nat):List Nat:=R.set v (R.getD v 0 ||| R.getD f 0)
def reachOne (W:List Nat)(R:List Nat)(v:Nat):List Nat:=(bitsOf (W.getD v 0)).foldl (orIn v) (R.set v (W.getD v 0))
def reachP (W o:List Nat):List Nat:=o.foldl (reachOne W) (List.replicate W.length 0)
def WebOk (W:List Nat):Prop:=∀x∈W,∀i,x.testBit i=true→i < W.length
theorem orIn_len (v:Nat)(l:List Nat):∀R,(l.foldl (orIn v) R).length=R.length:=by
 induction l with
 | nil=>intro R;rfl
 | cons x l ih=>intro R;rw[List.foldl_cons,ih];simp[orIn]
theorem reachOne_len (W R:List Nat)(v:Nat):(reachOne W R v).length=R.length:=by simp[reachOne,orIn_len]
theorem reach_any (W o:List Nat)(v1 v2:Value)(w:World)(hW:RdU w v1 W)(hO:RdI w v2 o)(hn:W.length≤64)(hol:o.length≤64)(hok:WebOk W)(ho:∀x∈o,x < W.length)(hT:Tab w) :
  Calls Tryz.prog 103 #[v1,v2] w fun e w'=>Below w.heap.size w w'∧∃b,w.heap.size≤b∧e= .returned (.slice (some ⟨b,0,none⟩) W.length W.length)∧RowU w' b (reachP W o)∧(reachP W o).length=W.length:=by
 obtain⟨i0,hi0,hz0,hz1,hz2⟩:=info_parts Tryz.info182
 have HW:Hid (RdU w v1 W):=hW;have HO:Hid (RdI w v2 o):=hO;have HT:Hid (Tab w):=hT;have HOk:Hid (WebOk W):=hok;have HOl:Hid (∀x∈o,x < W.length):=ho;obtain⟨a1,cap1,rfl,hc1,hl1,hr1⟩:=hW
 obtain⟨a2,cap2,rfl,hc2,hr2⟩:=hO
 have HR1:Hid _:=hr1;have HR2:Hid _:=hr2;have HL1:Hid _:=hl1;obtain⟨n,HN⟩:∃n,Hid (W.length=n):=⟨_,rfl⟩
 obtain⟨m,HM⟩:∃m,Hid (o.length=m):=⟨_,rfl⟩
 rw[HN.out] at hn hc1 HOl ⊢
 rw[HM.out] at hol hc2 ⊢
 have hmk:=run_make (P:=Tryz.prog) w 159 182 i0 _ Tryz.underlying159 hi0 hz0 .i64 .i64 (n:Int) (n:Int) (by omega) (by omega) (by rw[hz2];omega) (by omega);simp only[hz1,j8,Nat.mul_one] at hmk;have HRow0:Hid (RowU (w.alloc (.cells (madeCells #[Value.int .u64 0] n) 182)) w.heap.size (List.replicate n 0)):=⟨by rw[←made_zero];exact row_new w _ 182,fun x hx=>by have:=(List.mem_replicate.1 hx).2;omega⟩;have HB0:Hid (Below w.heap.size w (w.alloc (.cells (madeCells #[Value.int .u64 0] n) 182))):=(Below.refl _ _).alloc (jG _) _;have HE0:Hid (reachP W o=o.foldl (reachOne W) (List.replicate n 0)):=by show _=_;unfold reachP;rw[HN.out]
 have HZ0:Hid (w.heap.size < (w.alloc (.cells (madeCells #[Value.int .u64 0] n) 182)).heap.size):=by show _ < _;simp
 clear hr1 hr2 hl1 hok ho hT
 go_enter Tryz.func103,Tryz.ntmps103
 go_wp2_with fail
 go_loopw [7,9,15,30,31,32] (fun _ _ iv _ _ _ wr=>∃(k:Nat) (R:List Nat),k≤m∧iv= .int .i64 k∧Hid (RowU wr w.heap.size R)∧Hid (R.length=n)∧Hid ((o.take k).foldl (reachOne W) (List.replicate n 0)=R)∧Hid (Below w.heap.size w wr)∧Hid (w.heap.size < wr.heap.size)) (fun _ _ iv _ _ _ _=>m - (intOf iv).toNat)
 case atStart=>exact⟨0,List.replicate n 0,zE _,rfl,HRow0,by show _=_;simp,by show (o.take 0).foldl _ _=_;rfl,HB0,HZ0⟩
 case round=>
  obtain⟨k,R,hk,rfl,HRow,HRl,HE,HB,HZ⟩:=hrel
  rename World=>w1
  clear HRow0 HB0 HZ0 hmk
  by_cases hlt:k < m
  ·obtain⟨x,hx⟩:∃x,o[k]? =some x:=⟨_,jF (by rw[HM.out];exact hlt)⟩
   have hxn:x < n:=HOl.out x (jS hx);obtain⟨b2,o2,rfl,c2⟩:=HR2.out k x hx
   have d2:=(zI (a:=⟨b2,o2+k,none⟩) (HB.out.block b2 (lt_of_cell? c2))).trans c2;obtain⟨y,hy⟩:∃y,W[x]? =some y:=⟨_,jF (by rw[HN.out];exact hxn)⟩
   have hyW:W.getD x 0=y:=by rw[jU,hy];rfl
   have hy64:=HL1.out y (jS hy);obtain⟨b1,o1,rfl,c1⟩:=HR1.out x y hy
   have hb1:b1 < w.heap.size:=lt_of_cell? c1;have d1:=(zI (a:=⟨b1,o1+x,none⟩) (HB.out.block b1 hb1)).trans c1;obtain⟨r1,r2,r3⟩:=HRow.out.get x (by rw[HRl.out];exact hxn)
   have HRow2:Hid (RowU (w1.setCell ⟨w.heap.size,x,none⟩ (.int .u64 (y:Int))) w.heap.size (R.set x y)):=HRow.out.set x y hy64;have HB2:Hid (Below w.heap.size w (w1.setCell ⟨w.heap.size,x,none⟩ (.int .u64 (y:Int)))):=HB.out.setCell (p:=⟨w.heap.size,x,none⟩) (jG _) _;have hne:b1≠w.heap.size:=by omega
   have d1':(w1.setCell ⟨w.heap.size,x,none⟩ (.int .u64 (y:Int))).cell? ⟨b1,o1+x,none⟩=some (.int .u64 (y:Int)):=(zI (a:=⟨b1,o1+x,none⟩) (jW w1 ⟨w.heap.size,x,none⟩ _ b1 hne)).trans d1;have hz2:w.heap.size < (w1.setCell ⟨w.heap.size,x,none⟩ (.int .u64 (y:Int))).heap.size:=by have:=HZ.out;simpa using this
   have M2:Hid _:=nodes_any y hy64 (w1.setCell ⟨w.heap.size,x,none⟩ (.int .u64 (y:Int))) (HT.out.later HB2.out);have HE2:Hid ((o.take (k+1)).foldl (reachOne W) (List.replicate n 0)=(bitsOf y).foldl (orIn x) (R.set x y)):=by
    show _=_;rw[zL,hx]
    simp only[Option.toList_some,List.foldl_append,HE.out,List.foldl_cons,List.foldl_nil,reachOne,hyW]
   have HBn:Hid (∀f∈bitsOf y,f < n):=by
    show ∀f∈bitsOf y,_
    intro f hf;rw[←HN.out]
    exact HOk.out y (jS hy) f ((mem_bitsOf hy64).1 hf)
   have hbl:=bitsOf_len y;have hki:(k:Int) < (m:Int):=by omega
   have hxi:(x:Int) < (n:Int):=by omega
   have HRl2:Hid ((R.set x y).length=n):=by show _=_;rw[List.length_set];exact HRl.out
   clear hx hy hyW c1 c2 HRow HE HRl HOl
   go_wp2_with fail
   refine Calls.mono M2.out ?_;generalize w1.setCell ⟨w.heap.size,x,none⟩ (.int .u64 (y:Int))=w2 at *;rintro e w3 ⟨nv,rfl,hb3,hown⟩;have hRI:=RdI.of_own hown;obtain⟨na,nc,rfl,hnc,hnr⟩:=hRI
   have HNR:Hid _:=hnr;have HRow3:Hid _:=HRow2.out.below hb3;have HB3:Hid (Below w.heap.size w w3):=HB2.out.trans (hb3.mono HB2.out.size);have HZ3:Hid (w.heap.size < w3.heap.size):=by have:=hb3.size;show _ < _;omega
   obtain⟨q,HQ⟩:∃q,Hid ((bitsOf y).length=q):=⟨_,rfl⟩
   have HNW:Hid (∀(j f:Nat),(bitsOf y)[j]? =some f→∀b off,na=some ⟨b,off,none⟩→w.heap.size < b):=by
    show ∀(j f:Nat),_
    intro j f hj b off hab;have:=(hown.lt b (by rw[hab];rfl)).1;omega
   rw[HQ.out] at hbl hnc ⊢
   clear hnr hown hb3 HRow2 HB2 M2 r1 r2 r3 d1 d1' d2 hz2 HB HZ
   go_wp2_with fail
   go_loopw [9,32] (fun _ jv wr=>∃(j:Nat) (R2:List Nat),j≤q∧jv= .int .i64 j∧Hid (RowU wr w.heap.size R2)∧Hid (R2.length=n)∧Hid (((bitsOf y).take j).foldl (orIn x) (R.set x y)=R2)∧Hid (Below w.heap.size w wr)∧Hid (w.heap.size < wr.heap.size)∧Hid (∀b,w.heap.size < b→b < w3.heap.size→wr.heap[b]? =w3.heap[b]?)) (fun _ jv _=>q - (intOf jv).toNat)
   case atStart=>exact⟨0,R.set x y,zE _,rfl,HRow3,HRl2,by show ((bitsOf y).take 0).foldl _ _=_;rfl,HB3,HZ3,fun _ _ _=>rfl⟩
   case round=>
    obtain⟨j,R2,hj,rfl,HRw,HRn,HEj,HBj,HZj,HKj⟩:=hrel
    rename World=>w4
    clear HRow3 HB3 HRl2
    by_cases hjl:j < q
    ·obtain⟨f,hf⟩:∃f,(bitsOf y)[j]? =some f:=⟨_,jF (by rw[HQ.out];exact hjl)⟩
     have hfn:=HBn.out f (jS hf);obtain⟨b5,o5,rfl,c5⟩:=HNR.out j f hf
     have hb5:=HNW.out j f hf b5 o5 rfl;have d5:w4.cell? ⟨b5,o5+j,none⟩=some (.int .i64 (f:Int)):=(zI (a:=⟨b5,o5+j,none⟩) (HKj.out b5 hb5 (lt_of_cell? c5))).trans c5;obtain⟨t1,t2,t3⟩:=HRw.out.get x (by rw[HRn.out];exact hxn)
     obtain⟨s1,s2,s3⟩:=HRw.out.get f (by rw[HRn.out];exact hfn)
     have e1:=bits_or_u64_nat (R2.getD x 0) (R2.getD f 0) t3 s3;have hor:=or_lt t3 s3;have HRw2:Hid (RowU (w4.setCell ⟨w.heap.size,x,none⟩ (.int .u64 ((R2.getD x 0 ||| R2.getD f 0:Nat):Int))).drew w.heap.size (R2.set x (R2.getD x 0 ||| R2.getD f 0))):=(HRw.out.set x _ hor).drew;have HBj2:Hid (Below w.heap.size w (w4.setCell ⟨w.heap.size,x,none⟩ (.int .u64 ((R2.getD x 0 ||| R2.getD f 0:Nat):Int))).drew):=bl_drawn1 (HBj.out.setCell (p:=⟨w.heap.size,x,none⟩) (jG _) _);have HZj2:Hid (w.heap.size < (w4.setCell ⟨w.heap.size,x,none⟩ (.int .u64 ((R2.getD x 0 ||| R2.getD f 0:Nat):Int))).drew.heap.size):=by show _ < (w4.setCell _ _).heap.size;have:=HZj.out;simpa using this
     have HKj2:Hid (∀b,w.heap.size < b→b < w3.heap.size→(w4.setCell ⟨w.heap.size,x,none⟩ (.int .u64 ((R2.getD x 0 ||| R2.getD f 0:Nat):Int))).drew.heap[b]? =w3.heap[b]?):=fun b h1 h2=>(jW w4 ⟨w.heap.size,x,none⟩ _ b (by show b≠w.heap.size;omega)).trans (HKj.out b h1 h2)
     have HEj2:Hid (((bitsOf y).take (j+1)).foldl (orIn x) (R.set x y)=R2.set x (R2.getD x 0 ||| R2.getD f 0)):=by
      show _=_;rw[zL,hf]
      simp only[Option.toList_some,List.foldl_append,HEj.out,List.foldl_cons,List.foldl_nil,orIn]
     have HRn2:Hid ((R2.set x (R2.getD x 0 ||| R2.getD f 0)).length=n):=by show _=_;rw[List.length_set];exact HRn.out
     have hji:(j:Int) < (q:Int):=by omega
     have hfi:(f:Int) < (n:Int):=by omega
     clear hf c5 HRw HEj HBj HZj HKj HRn;generalize R2.getD x 0=rx at *;generalize R2.getD f 0=rf at *
     go_wp2_with fail
     go_region
     all_goals
      go_wp2_with fail
      go_roundw
      case rel=>exact⟨j+1,_,by omega,by go_num,HRw2,HRn2,HEj2,HBj2,HZj2,HKj2⟩
      case measure=>simp[intOf];omega
    ·have hjq:j=q:=by omega
     subst hjq;have HE3:Hid ((o.take (k+1)).foldl (reachOne W) (List.replicate n 0)=R2):=by
      have h1:=HEj.out;rw[zR (by rw[HQ.out];exact jG _)] at h1
      show _=_;rw[HE2.out,h1]
     go_wp2_with fail
     go_roundw
     case rel=>exact⟨k+1,R2,by omega,by go_num,HRw,HRn,HE3,HBj,HZj⟩
     case measure=>simp[intOf];omega
  ·have hkm:k=m:=by omega
   subst hkm;have HF:Hid (reachP W o=R):=by
    have h1:=HE.out;rw[zR (by rw[HM.out];exact jG _)] at h1
    show _=_;rw[HE0.out,h1]
   go_wp2_with fail
   go_ret
   exact⟨HB.out,w.heap.size,jG _,rfl,by rw[HF.out];exact HRow.out,by rw[HF.out];exact HRl.out⟩
end Go.Proofs.YtieoppabellafaaGreatDoor.Dg
namespace Go.Proofs.YtieoppabellafaaGreatDoor.Dg
theorem set_get (N:List Nat)(k a:Nat)(h:k < N.length):(N.set k a).getD k 0=a:=by
 rw[jU,List.getElem?_set_self h]
 rfl
theorem webOf_len (n:Nat)(l:List (Int × Int)):(webOf n l).length=n:=by
 have:∀(l:List (Int × Int)) (W:List Nat),(l.foldl putArc W).length=W.length:=by
  intro l
  induction l with
  | nil=>intro W;rfl
  | cons p l ih=>intro W;rw[List.foldl_cons,ih];simp[putArc]
 unfold webOf;rw[this]
 simp
theorem webOf_bit (n:Nat)(l:List (Int × Int))(h:l.all (endsOk n)=true)(t f:Nat):((webOf n l).getD t 0).testBit f=true↔(((f:Int),(t:Int))∈l∧t < n):=by
 have key:∀(l:List (Int × Int)) (W:List Nat),W.length=n→l.all (endsOk n)=true→(((l.foldl putArc W).getD t 0).testBit f=true↔(((f:Int),(t:Int))∈l∧t < n)∨(W.getD t 0).testBit f=true):=by
  intro l
  induction l with
  | nil=>intro W _ _;simp
  | cons p l ih=>
   intro W hW hall;rw[List.all_cons,jT] at hall
   have hp:=hall.1;simp only[endsOk,decide_eq_true_eq] at hp;rw[List.foldl_cons,ih (putArc W p) (by simp[putArc,hW]) hall.2]
   have hput:((putArc W p).getD t 0).testBit f=true↔(p=((f:Int),(t:Int))∧t < n)∨(W.getD t 0).testBit f=true:=by
    obtain⟨p1,p2⟩:=p
    obtain⟨a,rfl⟩:∃a:Nat,p1=(a:Int):=⟨p1.toNat,by omega⟩
    obtain⟨b,rfl⟩:∃b:Nat,p2=(b:Int):=⟨p2.toNat,by omega⟩
    unfold putArc;simp only[j8,Prod.mk.injEq]
    by_cases hb:b=t
    ·subst hb;rw[set_get _ _ _ (by rw[hW];omega),or_bit,Bool.or_eq_true,decide_eq_true_eq]
     constructor
     ·rintro (h1 | h1)
      ·exact .inr h1
      ·exact .inl ⟨⟨by omega,rfl⟩,by omega⟩
     ·rintro (⟨⟨h1,_⟩,_⟩ | h1)
      ·exact .inr (by omega)
      ·exact .inl h1
    ·rw[jU,List.getElem?_set_ne hb,←jU]
     constructor
     ·exact fun h1=> .inr h1
     ·rintro (⟨⟨_,h1⟩,_⟩ | h1)
      ·omega
      ·exact h1
   rw[hput,zJ]
   constructor
   ·rintro (⟨h1,h2⟩ | ⟨rfl,h2⟩ | h1)
    ·exact .inl ⟨.inr h1,h2⟩
    ·exact .inl ⟨.inl rfl,h2⟩
    ·exact .inr h1
   ·rintro (⟨h1 | h1,h2⟩ | h1)
    ·exact .inr (.inl ⟨h1.symm,h2⟩)
    ·exact .inl ⟨h1,h2⟩
    ·exact .inr (.inr h1)
 unfold webOf;rw[key l (List.replicate n 0) (by simp) h]
 have h0:((List.replicate n 0).getD t 0).testBit f=false:=by
  rw[jU,List.getElem?_replicate]
  split <;> simp
 rw[h0]
 simp
theorem mem_getD {W:List Nat}{x:Nat}(h:x∈W):∃t,t < W.length∧W.getD t 0=x:=by
 obtain⟨t,ht⟩:=zX.1 h
 exact⟨t,(jH.1 ht).1,by rw[jU,ht];rfl⟩
theorem webOf_ok (n:Nat)(l:List (Int × Int))(h:l.all (endsOk n)=true):WebOk (webOf n l):=by
 intro x hx i hi;obtain⟨t,_,rfl⟩:=mem_getD hx
 have:=((webOf_bit n l h t i).1 hi).1;have h2:=zF.1 h _ this;simp only[endsOk,decide_eq_true_eq] at h2;rw[webOf_len]
 omega
structure OrdOk (W acc:List Nat):Prop where
 nodup:acc.Nodup
 lt:∀x∈acc,x < W.length
 ahead:∀(k x:Nat),acc[k]? =some x→∀i,(W.getD x 0).testBit i=true→i∈acc.take k
theorem ordGo_ok (W:List Nat)(hn:W.length≤64):∀(k there:Nat) (acc o:List Nat),there < 18446744073709551616→(∀i,there.testBit i=true↔i∈acc)→OrdOk W acc→ordGo W k there acc=some o→OrdOk W o∧o.length=acc.length+k:=by
 intro k
 induction k with
 | zero=>
  intro there acc o _ _ hok h;simp only[ordGo,Option.some.injEq] at h;subst h;exact⟨hok,rfl⟩
 | succ k ih=>
  intro there acc o hth hmem hok h;unfold ordGo at h
  split at h
  ·cases h
  ·rename_i h0
   have hlt:nextS W there < 18446744073709551616:=dif_lt (freeTo_lt W there _ hn);obtain⟨b1,_,b3⟩:=low_bit h0 hlt
   generalize low (nextS W there)=v at *;unfold nextS at b1;rw[dif_bit,freeTo_bit] at b1
   simp only[jT,decide_eq_true_eq,Bool.not_eq_true'] at b1;obtain⟨⟨hvn,hfree⟩,hnot⟩:=b1
   have hva:v∉acc:=fun hm=>by rw[(hmem v).2 hm] at hnot;cases hnot
   have:=ih (there ||| 2 ^ v) (acc ++ [v]) o (or_lt hth (two_lt b3)) (fun i=>by
    rw[or_bit,Bool.or_eq_true,decide_eq_true_eq,hmem i]
    simp) ?_ h
   ·refine⟨this.1,?_⟩
    have h2:=this.2;simp at h2;omega
   ·refine⟨?_,?_,?_⟩
    ·rw[List.nodup_append]
     refine⟨hok.nodup,by simp,?_⟩
     intro a ha b hb;simp at hb;subst hb;exact fun he=>hva (he ▸ ha)
    ·intro x hx
     rcases jX.1 hx with h1 | h1
     ·exact hok.lt x h1
     ·simp at h1;omega
    ·intro j x hj i hi
     by_cases hjl:j < acc.length
     ·rw[zO hjl] at hj
      rw[List.take_append_of_le_length (by omega)]
      exact hok.ahead j x hj i hi
     ·have hje:j=acc.length:=by
       have:=(jH.1 hj).1;simp at this;omega
      subst hje;simp at hj;subst hj;rw[List.take_left]
      exact (hmem i).1 (dif_zero.1 hfree i hi)
theorem weave_facts {n:Int}{l:List (Int × Int)}{W o:List Nat}(h:weaveP n l= .ok W o):(0≤n∧n≤64)∧W=webOf n.toNat l∧l.all (endsOk n.toNat)=true∧WebOk W∧W.length=n.toNat∧OrdOk W o∧o.length=n.toNat:=by
 unfold weaveP at h
 split at h
 ·cases h
 ·rename_i hc
  have hall:l.all (endsOk n.toNat)=true:=by
   cases ha:l.all (endsOk n.toNat) with
   | true=>rfl
   | false=>exact absurd (.inr (.inr (.inr ha))) hc
  split at h
  ·cases h
  ·rename_i o' ho
   cases h;have hl:=webOf_len n.toNat l;have hn:0≤n∧n≤64:=by
    constructor
    ·apply Int.not_lt.1
     intro h1;exact hc (.inl h1)
    ·apply Int.not_lt.1
     intro h1;exact hc (.inr (.inl h1))
   obtain⟨h1,h2⟩:=ordGo_ok (webOf n.toNat l) (by omega) _ 0 [] _ (by omega) (by simp) ⟨by simp,by simp,by simp⟩ ho
   refine⟨hn,rfl,hall,webOf_ok _ _ hall,hl,h1,?_⟩
   simp at h2;omega
end Go.Proofs.YtieoppabellafaaGreatDoor.Dg
namespace Go.Proofs.YtieoppabellafaaGreatDoor.Dg
open Go.RowKit
theorem Tryz.info48:(Tryz.prog.info? 48).map (fun i=>(i.zero,i.size,i.bytes))=some (some (.slice none 0 0),1,24):=by kernel_rfl
def RdF (w:World)(q:Nat)(v:Value)(l:List Nat):Prop:=∃a cap,v= .slice a l.length cap∧l.length≤cap∧∀(i:Nat) (x:Nat),l[i]? =some x→∃b off,a=some ⟨b,off,none⟩∧q < b∧w.cell? ⟨b,off+i,none⟩=some (.int .i64 (x:Int))
theorem RdF.rd {w:World}{q:Nat}{v:Value}{l:List Nat}(h:RdF w q v l):RdI w v l:=by
 obtain⟨a,cap,hv,hc,hr⟩:=h
 refine⟨a,cap,hv,hc,fun i x hi=>?_⟩
 obtain⟨b,off,ha,_,c0⟩:=hr i x hi
 exact⟨b,off,ha,c0⟩
theorem RdF.later {w w':World}{q:Nat}{v:Value}{l:List Nat}(h:RdF w q v l)(hb:Below w.heap.size w w'):RdF w' q v l:=by
 obtain⟨a,cap,hv,hc,hr⟩:=h
 refine⟨a,cap,hv,hc,fun i x hi=>?_⟩
 obtain⟨b,off,ha,hq,c0⟩:=hr i x hi
 exact⟨b,off,ha,hq,cell_later hb c0⟩
theorem RdF.set {w:World}{q j:Nat}{u v:Value}{l:List Nat}(h:RdF w q v l):RdF (w.setCell ⟨q,j,none⟩ u) q v l:=by
 obtain⟨a,cap,hv,hc,hr⟩:=h
 refine⟨a,cap,hv,hc,fun i x hi=>?_⟩
 obtain⟨b,off,ha,hq,c0⟩:=hr i x hi
 exact⟨b,off,ha,hq,(zI (a:=⟨b,off+i,none⟩) (jW w ⟨q,j,none⟩ u b (by show b≠q;omega))).trans c0⟩
theorem RdF.of_own {w:World}{B q:Nat}{v:Value}{l:List Nat}(hq:q < B)(h:w.ownsRow B 3 1 v l.length (ivs l)):RdF w q v l:=by
 obtain⟨a,cap,hv,hc,hr⟩:=RdI.of_own h
 refine⟨a,cap,hv,hc,fun i x hi=>?_⟩
 obtain⟨b,off,ha,c0⟩:=hr i x hi
 have:=(h.lt b (by rw[hv,ha];rfl)).1;exact⟨b,off,ha,by omega,c0⟩
def RowsI (w:World)(q k n:Nat)(L:List (List Nat)):Prop:=∃Vs:List Value,w.heap[q]? =some (.cells Vs.toArray 48 (0,0))∧Vs.length=n∧∀(i:Nat),i < k→∃v,Vs[i]? =some v∧RdF w q v (L.getD i [])
theorem RowsI.later {w w':World}{q k n:Nat}{L:List (List Nat)}(h:RowsI w q k n L)(hb:Below w.heap.size w w'):RowsI w' q k n L:=by
 obtain⟨Vs,h1,h2,h3⟩:=h
 refine⟨Vs,(hb.block q (jD.1 h1).1).trans h1,h2,fun i hi=>?_⟩
 obtain⟨v,a,b⟩:=h3 i hi
 exact⟨v,a,b.later hb⟩
theorem RowsI.get {w:World}{q k n:Nat}{L:List (List Nat)}(h:RowsI w q k n L)(t:Nat)(ht:t < n):∃v,w.cell? ⟨q,t,none⟩=some v∧w.frozen? ⟨q,t,none⟩=false:=by
 obtain⟨Vs,h1,h2,h3⟩:=h
 exact⟨Vs[t]'(by omega),by rw[cell_row h1 t,jY,jF (by omega)],froz_row h1 t⟩
theorem RowsI.set {w:World}{q k n:Nat}{L:List (List Nat)}(h:RowsI w q k n L)(v:Value)(hk:k < n)(hv:RdF w q v (L.getD k [])):RowsI (w.setCell ⟨q,k,none⟩ v) q (k+1) n L:=by
 obtain⟨Vs,h1,h2,h3⟩:=h
 refine⟨Vs.set k v,?_,by simpa using h2,fun i hi=>?_⟩
 ·have:=row_set h1 k v;rw[jA] at this
  exact this
 ·by_cases hik:i=k
  ·subst hik;exact⟨v,List.getElem?_set_self (by omega),hv.set⟩
  ·obtain⟨u,a,b⟩:=h3 i (by omega)
   exact⟨u,by rw[List.getElem?_set_ne (fun h=>hik h.symm)];exact a,b.set⟩
def RdL (w:World)(v:Value)(L:List (List Nat)):Prop:=∃a cap,v= .slice a L.length cap∧L.length≤cap∧∀(i:Nat) (x:List Nat),L[i]? =some x→∃b off u,a=some ⟨b,off,none⟩∧w.cell? ⟨b,off+i,none⟩=some u∧RdI w u x
theorem RdL.later {w w':World}{v:Value}{L:List (List Nat)}(h:RdL w v L)(hb:Below w.heap.size w w'):RdL w' v L:=by
 obtain⟨a,cap,hv,hc,hr⟩:=h
 refine⟨a,cap,hv,hc,fun i x hi=>?_⟩
 obtain⟨b,off,u,ha,c0,c1⟩:=hr i x hi
 exact⟨b,off,u,ha,cell_later hb c0,c1.later hb⟩
theorem RowsI.rd {w:World}{q:Nat}{L:List (List Nat)}(h:RowsI w q L.length L.length L):RdL w (.slice (some ⟨q,0,none⟩) L.length L.length) L:=by
 obtain⟨Vs,h1,h2,h3⟩:=h
 refine⟨_,_,rfl,jG _,fun i x hi=>?_⟩
 obtain⟨u,a,b⟩:=h3 i (jH.1 hi).1
 refine⟨q,0,u,rfl,by rw[zD,cell_row h1 i,jY,a],?_⟩
 rw[jU,hi] at b
 exact b.rd
theorem made_nil (m:Nat):madeCells #[Value.slice none 0 0] m=(List.replicate m (Value.slice none 0 0)).toArray:=by
 apply Array.toList_inj.1
 rw[toList_madeCells_one]
def reachL (W o:List Nat):List (List Nat):=(reachP W o).map bitsOf
theorem weaveP_code {n:Int}{l:List (Int × Int)}{c:Int}(h:weaveP n l= .bad c):c=2∨c=13:=by
 unfold weaveP at h
 split at h
 ·cases h;exact .inl rfl
 ·split at h
  ·cases h;exact .inr rfl
  ·cases h
theorem Tryz.info164:(Tryz.prog.info? 164).map (fun i=>(i.zero,i.size,i.bytes))=some (some (.agg #[.int .i64 0,.int .i64 0]),2,16):=by kernel_rfl
def av (p:Int × Int):List Value:=[.int .i64 p.1,.int .i64 p.2]
def avs:List (Int × Int)→List Value
 | []=>[]
 | p :: l=>av p ++avs l
theorem avs_append (a b:List (Int × Int)):avs (a ++b)=avs a ++avs b:=by
 induction a with
 | nil=>rfl
 | cons t a ih=>simp[avs,ih]
theorem avs_len (a:List (Int × Int)):(avs a).length=a.length * 2:=by
 induction a with
 | nil=>rfl
 | cons t a ih=>simp[avs,av,ih];omega
theorem avs_one (t:Int × Int):avs [t]=av t:=by simp[avs]
theorem avs_at (a:List (Int × Int)):∀(i j:Nat) (t:Int × Int),a[i]? =some t→j < 2→(avs a)[i * 2+j]? =(av t)[j]? :=by
 induction a with
 | nil=>intro i j t h;simp at h
 | cons p a ih=>
  intro i j t h hj;cases i with
  | zero=>
   simp at h;subst h;simp only[avs,Nat.zero_mul,zD];rw[zO (by simp[av];omega)]
  | succ i=>
   simp only[avs];rw[zP (by simp[av];omega),show (i+1) * 2+j - (av p).length=i * 2+j by simp[av];omega]
   exact ih i j t (by simpa using h) hj
def Small (l:List (Int × Int)):Prop:=∀p∈l,(-9223372036854775808≤p.1∧p.1≤9223372036854775807)∧-9223372036854775808≤p.2∧p.2≤9223372036854775807
theorem RdA.of_own {w:World}{B:Nat}{v:Value}{l:List (Int × Int)}(h:w.ownsRow B 164 2 v l.length (avs l))(hl:Small l):RdA w v l:=by
 rcases h.2 with ⟨rfl,h0⟩ | ⟨g,cap,cur,rfl,hb,hg,hnc,hcm,_⟩
 ·have h1:l=[]:=zV h0;subst h1;exact⟨none,0,rfl,jG _,by simp,by simp⟩
 ·refine⟨_,cap,rfl,hnc,hl,fun i x hi=>⟨g,0,rfl,?_,?_⟩⟩
  ·have:=h.cells (g:=g) rfl (i * 2+0) (.int .i64 x.1) (by rw[avs_at l i 0 x hi (by omega)];rfl);rw[add_zero'] at this
   rw[zD]
   exact this
  ·have:=h.cells (g:=g) rfl (i * 2+1) (.int .i64 x.2) (by rw[avs_at l i 1 x hi (by omega)];rfl);rw[add_zero'] at this
   rw[zD]
   exact this
theorem own_mono {w:World}{B B':Nat}{e:TypeId}{size:Nat}{v:Value}{n:Nat}{xs:List Value}(hB:B'≤B)(h:w.ownsRow B e size v n xs):w.ownsRow B' e size v n xs:=by
 obtain⟨h1,h2⟩:=h
 refine⟨h1,?_⟩
 rcases h2 with h3 | ⟨g,cap,cur,h4,h5,h6⟩
 ·exact .inl h3
 ·exact .inr ⟨g,cap,cur,h4,zH hB h5,h6⟩
end Go.Proofs.YtieoppabellafaaGreatDoor.Dg
namespace Go.Proofs.YtieoppabellafaaGreatDoor.Dg
theorem getD_set (l:List Nat)(v x a:Nat):(l.set v a).getD x 0=if x=v∧v < l.length then a else l.getD x 0:=by
 rw[jU,List.getElem?_set]
 by_cases h:v=x
 ·subst h
  by_cases hl:v < l.length
  ·simp[hl]
  ·rw[if_pos rfl,if_neg hl,if_neg (fun h=>hl h.2),jU,zM (by omega)]
 ·rw[if_neg h,if_neg (fun h2=>h h2.1.symm),jU]
theorem orIn_fold (v:Nat):∀(l:List Nat) (R:List Nat),v < R.length→v∉l→(∀x,x≠v→(l.foldl (orIn v) R).getD x 0=R.getD x 0)∧∀y,((l.foldl (orIn v) R).getD v 0).testBit y=true↔(R.getD v 0).testBit y=true∨∃f∈l,(R.getD f 0).testBit y=true:=by
 intro l
 induction l with
 | nil=>intro R _ _;exact⟨fun _ _=>rfl,fun y=>by simp⟩
 | cons f l ih=>
  intro R hv hn;have hfv:f≠v:=fun h=>hn (by simp[h])
  obtain⟨h1,h2⟩:=ih (orIn v R f) (by simpa [orIn] using hv) (fun h=>hn (by simp[h]))
  have hset:∀x,(orIn v R f).getD x 0=if x=v then R.getD v 0 ||| R.getD f 0 else R.getD x 0:=by
   intro x;unfold orIn;rw[getD_set]
   by_cases hx:x=v
   ·rw[if_pos ⟨hx,hv⟩,if_pos hx]
   ·rw[if_neg (fun h=>hx h.1),if_neg hx]
  refine⟨fun x hx=>?_,fun y=>?_⟩
  ·rw[List.foldl_cons,h1 x hx,hset,if_neg hx]
  ·rw[List.foldl_cons,h2 y,hset,if_pos rfl,Nat.testBit_or,Bool.or_eq_true]
   constructor
   ·rintro ((h | h) | ⟨g,hg,h⟩)
    ·exact .inl h
    ·exact .inr ⟨f,by simp,h⟩
    ·have hgv:g≠v:=fun e=>hn (by simp[←e,hg])
     rw[hset,if_neg hgv] at h
     exact .inr ⟨g,by simp[hg],h⟩
   ·rintro (h | ⟨g,hg,h⟩)
    ·exact .inl (.inl h)
    ·rcases zJ.1 hg with rfl | hg
     ·exact .inl (.inr h)
     ·have hgv:g≠v:=fun e=>hn (by simp[←e,hg])
      exact .inr ⟨g,hg,by rw[hset,if_neg hgv];exact h⟩
theorem reachOne_at (W R:List Nat)(v:Nat)(hv:v < R.length)(hn:v∉bitsOf (W.getD v 0)):(∀x,x≠v→(reachOne W R v).getD x 0=R.getD x 0)∧∀y,((reachOne W R v).getD v 0).testBit y=true↔(W.getD v 0).testBit y=true∨∃f∈bitsOf (W.getD v 0),(R.getD f 0).testBit y=true:=by
 obtain⟨h1,h2⟩:=orIn_fold v (bitsOf (W.getD v 0)) (R.set v (W.getD v 0)) (by simpa using hv) hn
 refine⟨fun x hx=>?_,fun y=>?_⟩
 ·unfold reachOne;rw[h1 x hx,getD_set,if_neg (fun h=>hx h.1)]
 ·unfold reachOne;rw[h2 y,getD_set,if_pos ⟨rfl,hv⟩]
  constructor
  ·rintro (h | ⟨f,hf,h⟩)
   ·exact .inl h
   ·rw[getD_set,if_neg (fun (e:f=v∧_)=>hn (e.1 ▸ hf))] at h
    exact .inr ⟨f,hf,h⟩
  ·rintro (h | ⟨f,hf,h⟩)
   ·exact .inl h
   ·exact .inr ⟨f,hf,by rw[getD_set,if_neg (fun (e:f=v∧_)=>hn (e.1 ▸ hf))];exact h⟩
theorem filter_lt (p q:Nat→Bool)(f:Nat)(hp:p f=true)(hq:q f=false):∀l:List Nat,(∀x∈l,q x=true→p x=true)→(l.filter q).length≤(l.filter p).length∧(f∈l→(l.filter q).length+1≤(l.filter p).length):=by
 intro l
 induction l with
 | nil=>intro _;simp
 | cons x l ih=>
  intro h;obtain⟨h1,h2⟩:=ih (fun y hy=>h y (by simp[hy]))
  rw[List.filter_cons,List.filter_cons]
  have hx:=h x (by simp)
  by_cases hqx:q x=true
  ·rw[if_pos hqx,if_pos (hx hqx)]
   refine⟨by simp;omega,fun hf=>?_⟩
   rcases zJ.1 hf with rfl | hf
   ·rw[hq] at hqx;cases hqx
   ·have:=h2 hf;simp;omega
  ·rw[if_neg hqx]
   by_cases hpx:p x=true
   ·rw[if_pos hpx]
    refine⟨by simp;omega,fun _=>by simp;omega⟩
   ·rw[if_neg hpx]
    refine⟨h1,fun hf=>?_⟩
    rcases zJ.1 hf with rfl | hf
    ·exact absurd hp hpx
    ·exact h2 hf
theorem of_bitsOf {s i:Nat}(h:i∈bitsOf s):s.testBit i=true:=by
 unfold bitsOf at h;exact (List.mem_filter.1 h).2
theorem mem_take_at {o:List Nat}{i x:Nat}(h:x∈o.take i):∃j,j < i∧o[j]? =some x:=by
 obtain⟨j,hj⟩:=zX.1 h
 have hlt:=(jH.1 hj).1;rw[List.length_take] at hlt
 exact⟨j,by omega,by rw[List.getElem?_take_of_lt (by omega)] at hj;exact hj⟩
theorem at_mem_take {o:List Nat}{i j x:Nat}(h:o[j]? =some x)(hj:j < i):x∈o.take i:=by
 refine jS (i:=j) ?_;rw[List.getElem?_take_of_lt hj]
 exact h
theorem take_sub {o:List Nat}{i j x:Nat}(h:x∈o.take j)(hj:j≤i):x∈o.take i:=by
 obtain⟨k,hk,hx⟩:=mem_take_at h
 exact at_mem_take hx (by omega)
theorem nodup_at {o:List Nat}(h:o.Nodup){i v:Nat}(hi:o[i]? =some v):v∉o.take i:=by
 intro hm;obtain⟨j,hj,hx⟩:=mem_take_at hm
 have:=(List.getElem?_inj (by have:=(jH.1 hx).1;exact this) h).1 (hx.trans hi.symm);omega
def overP (l:List Nat):Nat:=l.foldl (fun s d=>s ||| 2 ^ d) 0
theorem overP_snoc (l:List Nat)(x:Nat):overP (l ++ [x])=overP l ||| 2 ^ x:=by unfold overP;rw[List.foldl_append];rfl
theorem overP_bit (l:List Nat)(i:Nat):(overP l).testBit i=true↔i∈l:=by
 have:∀(l:List Nat) (s:Nat),(l.foldl (fun s d=>s ||| 2 ^ d) s).testBit i=true↔s.testBit i=true∨i∈l:=by
  intro l
  induction l with
  | nil=>intro s;simp
  | cons x l ih=>
   intro s;rw[List.foldl_cons,ih,or_bit,Bool.or_eq_true,decide_eq_true_eq,zJ,or_assoc]
 unfold overP;rw[this]
 simp
def readyP (W done:List Nat):List Nat:=bitsOf (dif (freeTo W (overP done) W.length) (overP done))
theorem readyP_mem {W done:List Nat}(hn:W.length≤64){x:Nat} :x∈readyP W done↔(x < W.length∧∀i,(W.getD x 0).testBit i=true→i∈done)∧x∉done:=by
 have hb:(dif (freeTo W (overP done) W.length) (overP done)).testBit x=true↔(x < W.length∧∀i,(W.getD x 0).testBit i=true→i∈done)∧x∉done:=by
  rw[dif_bit,freeTo_bit]
  simp only[jT,decide_eq_true_eq,Bool.not_eq_true']
  constructor
  ·rintro⟨⟨h1,h2⟩,h3⟩
   refine⟨⟨h1,fun i hi=>(overP_bit done i).1 (dif_zero.1 h2 i hi)⟩,fun hm=>?_⟩
   rw[(overP_bit done x).2 hm] at h3
   cases h3
  ·rintro⟨⟨h1,h2⟩,h3⟩
   refine⟨⟨h1,dif_zero.2 fun i hi=>(overP_bit done i).2 (h2 i hi)⟩,?_⟩
   cases hc:(overP done).testBit x with
   | false=>rfl
   | true=>exact absurd ((overP_bit done x).1 hc) h3
 rw[←hb]
 unfold readyP
 constructor
 ·exact of_bitsOf
 ·intro h;unfold bitsOf;refine List.mem_filter.2 ⟨zB.2 ?_,h⟩;have:=(hb.1 h).1.1;omega
theorem erase_mem {l:List Nat}{x y:Nat}(h:y∈l)(hne:y≠x):y∈l.filter (fun z=>decide (z≠x)):=List.mem_filter.2 ⟨h,by simpa using hne⟩
theorem pigeon:∀(a b:List Nat),a.Nodup→(∀x∈a,x∈b)→a.length≤b.length:=by
 intro a
 induction a with
 | nil=>intro b _ _;simp
 | cons x a ih=>
  intro b hn hs;rw[List.nodup_cons] at hn
  have h1:=ih (b.filter fun z=>decide (z≠x)) hn.2 (fun y hy=>erase_mem (hs y (by simp[hy])) (fun e=>hn.1 (e ▸ hy)));have h2:(b.filter fun z=>decide (z≠x)).length < b.length:=by
   have h3:=(filter_lt (fun _=>true) (fun z=>decide (z≠x)) x rfl (by simp) b (fun _ _ _=>rfl)).2 (hs x (by simp));have h4:(b.filter fun _=>true).length=b.length:=by rw[List.filter_eq_self.2 (by simp)]
   omega
  simp only[jM];omega
theorem ready_some {W o done:List Nat}(hn:W.length≤64)(hO:OrdOk W o)(hol:o.length=W.length)(hlt:done.length < W.length):readyP W done≠[]:=by
 have hex:∃k x,o[k]? =some x∧x∉done∧∀y∈o.take k,y∈done:=by
  have key:∀i,i≤o.length→(∀y∈o.take i,y∈done)∨∃k x,o[k]? =some x∧x∉done∧∀y∈o.take k,y∈done:=by
   intro i
   induction i with
   | zero=>intro _;exact .inl (by simp)
   | succ i ih=>
    intro hi
    rcases ih (by omega) with h | h
    ·have hx:o[i]? =some o[i]:=jF (by omega)
     by_cases hd:o[i]∈done
     ·refine .inl fun y hy=>?_
      rw[zL,hx] at hy
      rcases jX.1 hy with h1 | h1
      ·exact h y h1
      ·simp at h1;rw[h1];exact hd
     ·exact .inr ⟨i,_,hx,hd,h⟩
    ·exact .inr h
  rcases key o.length (jG _) with h | h
  ·rw[List.take_length] at h
   have:=pigeon o done hO.nodup h;omega
  ·exact h
 obtain⟨k,x,hx,hd,hall⟩:=hex
 have:x∈readyP W done:=(readyP_mem hn).2 ⟨⟨hO.lt x (jS hx),fun i hi=>hall i (hO.ahead k x hx i hi)⟩,hd⟩;intro he;rw[he] at this
 cases this
inductive Chain (W:List Nat):Nat→Nat→Prop
 | one {f t:Nat} :(W.getD t 0).testBit f=true→Chain W f t
 | more {f g t:Nat} :Chain W f g→(W.getD t 0).testBit g=true→Chain W f t
theorem Chain.trans {W:List Nat}{f g t:Nat}(h:Chain W f g)(k:Chain W g t):Chain W f t:=by
 induction k with
 | one e=>exact .more h e
 | more _ e ih=>exact .more ih e
theorem reach_eq {W o:List Nat}(hn:W.length≤64)(hO:OrdOk W o):∀i,i≤o.length→((o.take i).foldl (reachOne W) (List.replicate W.length 0)).length=W.length∧∀(j x:Nat),j < i→o[j]? =some x→∀y,(((o.take i).foldl (reachOne W) (List.replicate W.length 0)).getD x 0).testBit y=true↔(W.getD x 0).testBit y=true∨∃f,(W.getD x 0).testBit f=true∧(((o.take i).foldl (reachOne W) (List.replicate W.length 0)).getD f 0).testBit y=true:=by
 intro i
 induction i with
 | zero=>intro _;exact⟨by simp,by omega⟩
 | succ i ih=>
  intro hi;obtain⟨hl,ih⟩:=ih (by omega)
  have hv:o[i]? =some o[i]:=jF (by omega);generalize o[i]=v at hv;rw[zL,hv]
  simp only[Option.toList_some,List.foldl_append,List.foldl_cons,List.foldl_nil];generalize (o.take i).foldl (reachOne W) (List.replicate W.length 0)=R at *;have hvn:v < W.length:=hO.lt v (jS hv);have hnew:=nodup_at hO.nodup hv;have hvf:v∉bitsOf (W.getD v 0):=fun hm=>hnew (hO.ahead i v hv v (of_bitsOf hm))
  obtain⟨r1,r2⟩:=reachOne_at W R v (by rw[hl];exact hvn) hvf
  refine⟨by rw[reachOne_len];exact hl,?_⟩
  intro j x hj hx y;have hfne:∀k,k≤i→o[k]? =some x→∀f,(W.getD x 0).testBit f=true→f≠v:=fun k hk hxk f hf e=>hnew (take_sub (hO.ahead k x hxk v (e ▸ hf)) hk)
  by_cases hji:j=i
  ·subst hji;have hxv:x=v:=Option.some.inj (hx.symm.trans hv);subst hxv;rw[r2 y]
   constructor
   ·rintro (h | ⟨f,hf,h⟩)
    ·exact .inl h
    ·exact .inr ⟨f,of_bitsOf hf,by rw[r1 f (hfne j (by omega) hx f (of_bitsOf hf))];exact h⟩
   ·rintro (h | ⟨f,hf,h⟩)
    ·exact .inl h
    ·have hf64:f < 64:=by
      have:=hO.lt f (List.mem_of_mem_take (hO.ahead j x hv f hf));omega
     refine .inr ⟨f,List.mem_filter.2 ⟨zB.2 hf64,hf⟩,?_⟩;rw[r1 f (hfne j (by omega) hx f hf)] at h
     exact h
  ·have hxv:x≠v:=fun e=>hnew (e ▸ at_mem_take hx (by omega))
   rw[r1 x hxv,ih j x (by omega) hx y]
   constructor
   ·rintro (h | ⟨f,hf,h⟩)
    ·exact .inl h
    ·exact .inr ⟨f,hf,by rw[r1 f (hfne j (by omega) hx f hf)];exact h⟩
   ·rintro (h | ⟨f,hf,h⟩)
    ·exact .inl h
    ·exact .inr ⟨f,hf,by rw[r1 f (hfne j (by omega) hx f hf)] at h;exact h⟩
theorem ord_all {W o:List Nat}(hO:OrdOk W o)(hl:o.length=W.length){x:Nat}(hx:x < W.length):x∈o:=by
 apply Classical.byContradiction
 intro hm;have:=pigeon (x :: o) (List.range W.length) (List.nodup_cons.2 ⟨hm,hO.nodup⟩) (fun y hy=>by
  rcases zJ.1 hy with rfl | hy
  ·exact zB.2 hx
  ·exact zB.2 (hO.lt y hy))
 simp at this;omega
theorem reach_chain {W o:List Nat}(hn:W.length≤64)(hO:OrdOk W o)(hl:o.length=W.length){x:Nat}(hx:x < W.length)(y:Nat):((reachP W o).getD x 0).testBit y=true↔Chain W y x:=by
 have heq:∀x,x < W.length→∀y,((reachP W o).getD x 0).testBit y=true↔(W.getD x 0).testBit y=true∨∃f,(W.getD x 0).testBit f=true∧((reachP W o).getD f 0).testBit y=true:=by
  intro x hx y;obtain⟨j,hj⟩:=zX.1 (ord_all hO hl hx)
  have hjl:=(jH.1 hj).1;have:=(reach_eq hn hO o.length (jG _)).2 j x hjl hj y;rw[List.take_length] at this
  exact this
 have hlt:∀t,t∈o→∀f,(W.getD t 0).testBit f=true→f∈o:=by
  intro t ht f hf;obtain⟨j,hj⟩:=zX.1 ht
  exact List.mem_of_mem_take (hO.ahead j t hj f hf)
 constructor
 ·obtain⟨i,hi⟩:=zX.1 (ord_all hO hl hx)
  revert x y
  induction i using Nat.strongRecOn with
  | ind i ih=>
   intro x hx y hi h
   rcases (heq x hx y).1 h with h1 | ⟨f,hf,h1⟩
   ·exact .one h1
   ·obtain⟨j,hj,hjf⟩:=mem_take_at (hO.ahead i x hi f hf)
    exact .more (ih j hj (hO.lt f (jS hjf)) y hjf h1) hf
 ·intro h
  induction h with
  | one e=>exact (heq _ hx _).2 (.inl e)
  | more c e ih=>
   exact (heq _ hx _).2 (.inr ⟨_,e,ih (hO.lt _ (hlt _ (ord_all hO hl hx) _ e))⟩)
theorem ordGo_some {W o:List Nat}(hn:W.length≤64)(hO:OrdOk W o)(hl:o.length=W.length):∀(k there:Nat) (acc:List Nat),there=overP acc→there < 18446744073709551616→acc.length+k=W.length→∃r,ordGo W k there acc=some r:=by
 intro k
 induction k with
 | zero=>intro there acc _ _ _;exact⟨acc,rfl⟩
 | succ k ih=>
  intro there acc hth hlt hlen;have hne:nextS W there≠0:=by
   intro h0;refine ready_some (done:=acc) hn hO hl (by omega) ?_;unfold readyP;unfold nextS at h0;rw[←hth,h0,bitsOf_zero]
  have hnl:nextS W there < 18446744073709551616:=dif_lt (freeTo_lt W there _ hn);obtain⟨_,_,b3⟩:=low_bit hne hnl
  obtain⟨r,hr⟩:=ih (there ||| 2 ^ low (nextS W there)) (acc ++ [low (nextS W there)]) (by rw[overP_snoc,hth]) (or_lt hlt (two_lt b3)) (by rw[j9];simp;omega)
  refine⟨r,?_⟩
  rw[ordGo,if_neg hne]
  exact hr
theorem ordW_some {W o:List Nat}(hn:W.length≤64)(hO:OrdOk W o)(hl:o.length=W.length):∃r,ordW W=some r:=ordGo_some hn hO hl W.length 0 [] rfl (by omega) (by simp)
end Go.Proofs.YtieoppabellafaaGreatDoor.Dg
