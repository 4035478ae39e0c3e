/- Texts of the seat, packed: EVa Kb Kz Kc Kd. -/
import Derived.Test.YtieoppabellafaaGreatDoorH01
import Derived.Test.YtieoppabellafaaGreatDoorChecked
import Derived.Test.YtieoppabellafaaGreatDoorRows
import Derived.Test.YtieoppabellafaaGreatDoorH14
import Derived.Test.YtieoppabellafaaGreatDoorH02
import Derived.BigQuiet
import Derived.ChangeOld
import Derived.Deep.QuietTactic
import Derived.Deep.Strs
import Derived.Handy
import Derived.OpenShut
import Derived.ProofKit
import Derived.ShutString
import Derived.WalkKit
import Derived.WalkLawsBesides
import Derived.WalkMore
import Derived.WalkSpells
import Derived.Deep.RegionHeld
import Derived.Laws.Rows
import Derived.Deep.RegionHeldLaw
import Derived.OwnWalkIn
import Derived.TacticsInMore
import Derived.Laws.CopyOwn
import Derived.Laws.Tables
set_option maxRecDepth 1000000
set_option maxHeartbeats 64000000
set_option linter.unusedVariables false
namespace Go.Proofs.YtieoppabellafaaGreatDoor.Ek
section
open Go.RowKit
theorem cell_later {w wx:World}(hb:Below w.heap.size w wx){a:Addr}{v:Value}(h:w.cell? a=some v):wx.cell? a=some v:=by
  rw[hb.cell (World.block_lt_of_cell? w a h)]
  exact h
def isN (n:Int):Bool:=decide (0≤n∧n≤1099511627776)
def RI (w:World)(v:Value)(l:List Int):Prop:=
  ∃a cap,v= .slice a l.length cap∧l.length≤cap∧cap≤maxLen∧∀i,i < l.length→∃b off,a=some ⟨b,off,none⟩∧w.cell? ⟨b,off+i,none⟩=some (.int .i64 (l.getD i 0))
theorem RI.later {w w':World}{v:Value}{l:List Int}(h:RI w v l)(hb:Below w.heap.size w w'):RI w' v l:=by
  obtain⟨a,cap,rfl,h1,h2,hc⟩:=h
  refine⟨a,cap,rfl,h1,h2,fun i hi=>?_⟩
  obtain⟨b,off,rfl,hcell⟩:=hc i hi
  exact⟨b,off,rfl,cell_later hb hcell⟩
def allN (l:List Int):Bool:=l.all isN
def okS (l:List Int):Bool:=decide (1≤l.length∧l.length≤64) && allN l
def chkE (l:List Int):Nat:=if okS l then 0 else 2
theorem okS_bad {l:List Int}{k:Nat}(hk:k < l.length)(h:¬(0≤l.getD k 0∧l.getD k 0≤1099511627776)):okS l=false:=by
  have:allN l=false:=by
    unfold allN
    rw[List.all_eq_false]
    refine⟨l[k],List.getElem_mem hk,?_⟩
    have e:l.getD k 0=l[k]:=by simp[hk]
    rw[←e,show isN (l.getD k 0)=false from decide_eq_false h]
    decide
  unfold okS
  rw[this,Bool.and_false]
theorem okS_yes {l:List Int}(h1:1≤l.length)(h2:l.length≤64)(h:∀i,i < l.length→0≤l.getD i 0∧l.getD i 0≤1099511627776):okS l=true:=by
  have:allN l=true:=by
    unfold allN
    rw[zF]
    intro z hz
    obtain⟨i,hi,rfl⟩:=List.mem_iff_getElem.1 hz
    have:=h i hi
    rw[show l.getD i 0=l[i] by simp[hi]] at this
    exact decide_eq_true this
  unfold okS
  rw[this,Bool.and_true]
  exact decide_eq_true ⟨h1,h2⟩
theorem okS_long {l:List Int}(h:¬(1≤l.length∧l.length≤64)):okS l=false:=by
  unfold okS
  rw[decide_eq_false h,Bool.false_and]
theorem check_any (v:Value)(l:List Int)(w:World)(hv:RI w v l)(hn:l.length≤1000000) :
    Calls Tryz.prog 136 #[v] w fun e w'=>e= .returned (.int .i64 (chkE l:Nat))∧w'=w:=by
  obtain⟨a,cap,rfl,hc,_,hr⟩:=hv
  have HR:Hid _:=hr
  obtain⟨E,HE⟩:∃E,Hid (E=chkE l):=⟨_,rfl⟩
  rw[←HE.out]
  clear hr
  by_cases h:1≤l.length∧l.length≤64
  · obtain⟨h1,h2⟩:=h
    go_enter Tryz.func136,Tryz.ntmps136
    go_wp2_with fail
    go_loopw [15] (fun iv wr=>∃(k:Nat),k≤l.length∧iv= .int .i64 k∧Hid (∀i,i < k→0≤l.getD i 0∧l.getD i 0≤1099511627776)∧wr=w) (fun iv _=>l.length - (intOf iv).toNat)
    case atStart=>exact⟨0,zE _,rfl,fun i hi=>by omega,rfl⟩
    case round=>
      obtain⟨k,hk,rfl,HA,rfl⟩:=hrel
      by_cases hlt:k < l.length
      · obtain⟨b1,o1,rfl,hc1⟩:=HR.out k hlt
        have HBD:Hid (¬(0≤l.getD k 0∧l.getD k 0≤1099511627776)→chkE l=2):=by
          show _→_
          intro hb
          unfold chkE
          rw[okS_bad hlt hb]
          rfl
        have HA2:Hid ((0≤l.getD k 0∧l.getD k 0≤1099511627776)→∀i,i < k+1→0≤l.getD i 0∧l.getD i 0≤1099511627776):=by
          show _→∀i,_
          intro hb i hi
          by_cases hik:i=k
          · subst hik;exact hb
          · exact HA.out i (by omega)
        obtain⟨z,HZ⟩:∃z,Hid (z=l.getD k 0):=⟨_,rfl⟩
        rw[←HZ.out] at hc1 HA2 HBD
        by_cases h0:z < 0
        · have HE2:Hid (E=2):=by show _=_;rw[HE.out];exact HBD.out (by omega)
          clear HA HA2 HBD HZ HE
          go_wp2_with fail
          go_ret
          exact⟨by rw[HE2.out];rfl,rfl⟩
        · by_cases h3:1099511627776 < z
          · have HE2:Hid (E=2):=by show _=_;rw[HE.out];exact HBD.out (by omega)
            clear HA HA2 HBD HZ HE
            go_wp2_with fail
            go_ret
            exact⟨by rw[HE2.out];rfl,rfl⟩
          · have HA3:Hid _:=HA2.out (by omega)
            clear HA HA2 HBD HZ
            go_wp2_with fail
            go_roundw
            case rel=>exact⟨k+1,by omega,by go_num,HA3,trivial⟩
            case measure=>simp[intOf];omega
      · have HE2:Hid (E=0):=by
          show _=_
          rw[HE.out]
          unfold chkE
          rw[okS_yes h1 h2 (fun i hi=>HA.out i (by omega))]
          rfl
        clear HE HA
        go_wp2_with fail
        go_ret
        exact⟨by rw[HE2.out];rfl,rfl⟩
  · have HE2:Hid (E=2):=by
      show _=_
      rw[HE.out]
      unfold chkE
      rw[okS_long h]
      rfl
    clear HE
    by_cases h1:l.length < 1
    · go_enter Tryz.func136,Tryz.ntmps136
      go_wp2_with fail
      go_ret
      exact⟨by rw[HE2.out];rfl,rfl⟩
    · have h2:64 < l.length:=by omega
      go_enter Tryz.func136,Tryz.ntmps136
      go_wp2_with fail
      go_ret
      exact⟨by rw[HE2.out];rfl,rfl⟩
structure Ev where
  k:Int
  i:Int
  t:Int
  s:List Int
def okH (k i t:Int):Bool:=decide (1≤k∧k≤6∧1≤i∧i≤63∧0≤t∧t≤3∧(3 < k∨t=0))
def okE (e:Ev):Bool:=okH e.k e.i e.t && okS e.s
def evE (e:Ev):Nat:=if okE e then 0 else 2
def wordP (k:Int):List UInt8:=
  if k=1 then [115,116,97,114,116] else if k=2 then [111,107] else if k=3 then [102,97,105,108]
  else if k=4 then [117,110,100,111] else if k=5 then [117,110,100,111,110,101] else if k=6 then [115,108,105,112] else []
theorem bl_drawn {B:Nat}{w w':World}(h:Below B w w')(n:Nat):Below B w (w'.drewN n):=⟨h.os,h.tape,h.output,h.size,h.block⟩
def sortV (k:Int):Value:=
  if 1≤k∧k≤3 then .iface 223 (.agg #[.string ⟨(wordP k).toArray⟩]) else if 4≤k∧k≤6 then .iface 224 (.agg #[.string ⟨(wordP k).toArray⟩]) else .iface 226 (.agg #[])
theorem sort_cases (k:Int):k=1∨k=2∨k=3∨k=4∨k=5∨k=6∨(¬k=1∧¬k=2∧¬k=3∧¬k=4∧¬k=5∧¬k=6):=by omega
theorem sort_none {k:Int}(h:¬(1≤k∧k≤6)):sortV k= .iface 226 (.agg #[]):=by
  unfold sortV
  rw[if_neg (by omega),if_neg (by omega)]
theorem sortOf_any (k:Int)(w:World):Calls Tryz.prog 135 #[.int .i64 k] w fun e w'=>e= .returned (sortV k)∧w'=w:=by
  rcases sort_cases k with rfl | rfl | rfl | rfl | rfl | rfl | h
  all_goals first
    | (go_enter Tryz.func135,Tryz.ntmps135
       go_wp2_with fail
       go_ret
       exact⟨rfl,rfl⟩)
    | (have hs:Hid _:=sort_none (k:=k) (by omega)
       obtain⟨h1,h2,h3,h4,h5,h6⟩:=h
       have g1:(k==1)=false:=by simpa using h1
       have g2:(k==2)=false:=by simpa using h2
       have g3:(k==3)=false:=by simpa using h3
       have g4:(k==4)=false:=by simpa using h4
       have g5:(k==5)=false:=by simpa using h5
       have g6:(k==6)=false:=by simpa using h6
       go_enter Tryz.func135,Tryz.ntmps135
       go_wp2_with fail
       go_ret
       rw[hs.out]
       exact⟨rfl,rfl⟩)
theorem as_same (t:TypeId)(v:Value)(ht:t=224∨t=223):∀w:World,(Instr.typeAssert (.iface t v) 208 t true).run Tryz.prog w= .ok (.tuple #[v,.bool true]) w:=by
  rcases ht with rfl | rfl
  · intro w;kernel_rfl
  · intro w;kernel_rfl
theorem as_70_74 (v:Value):∀w:World,(Instr.typeAssert (.iface 224 v) 208 223 true).run Tryz.prog w= .ok (.tuple #[.agg #[.string ⟨#[]⟩],.bool false]) w:=by
  intro w;kernel_rfl
theorem as_76_74 (v:Value):∀w:World,(Instr.typeAssert (.iface 226 v) 208 223 true).run Tryz.prog w= .ok (.tuple #[.agg #[.string ⟨#[]⟩],.bool false]) w:=by
  intro w;kernel_rfl
theorem as_76_70 (v:Value):∀w:World,(Instr.typeAssert (.iface 226 v) 208 224 true).run Tryz.prog w= .ok (.tuple #[.agg #[.string ⟨#[]⟩],.bool false]) w:=by
  intro w;kernel_rfl
def fits (k t:Int):Bool:=decide ((1≤k∧k≤3∧t=0)∨(4≤k∧k≤6∧0≤t∧t≤3))
theorem tryFits_any (k t:Int)(w:World):Calls Tryz.prog 134 #[sortV k,.int .i64 t] w fun e w'=>e= .returned (.bool (fits k t))∧w'=w:=by
  unfold sortV
  by_cases h1:1≤k∧k≤3
  · rw[if_pos h1]
    have hf:Hid (fits k t=decide (t=0)):=by
      show _=_
      unfold fits
      exact decide_eq_decide.2 (by omega)
    have q1:=as_same 223 (.agg #[.string ⟨(wordP k).toArray⟩]) (.inr rfl)
    go_enter Tryz.func134,Tryz.ntmps134
    go_wp2_with fail
    go_ret
    exact⟨by rw[hf.out];by_cases h:t=0 <;> simp[h],rfl⟩
  · rw[if_neg h1]
    by_cases h2:4≤k∧k≤6
    · rw[if_pos h2]
      have hf:Hid (fits k t=decide (0≤t∧t≤3)):=by
        show _=_
        unfold fits
        exact decide_eq_decide.2 (by omega)
      clear h1 h2
      have q1:=as_same 224 (.agg #[.string ⟨(wordP k).toArray⟩]) (.inl rfl)
      have q2:=as_70_74 (.agg #[.string ⟨(wordP k).toArray⟩])
      by_cases h0:0≤t
      · go_enter Tryz.func134,Tryz.ntmps134
        go_wp2_with fail
        go_ret
        exact⟨by rw[hf.out];simp[h0],rfl⟩
      · go_enter Tryz.func134,Tryz.ntmps134
        go_wp2_with fail
        go_ret
        exact⟨by rw[hf.out];simp;omega,rfl⟩
    · rw[if_neg h2]
      have hf:Hid (fits k t=false):=by
        show _=_
        unfold fits
        exact decide_eq_false (by omega)
      clear h1 h2
      have q1:=as_76_70 (.agg #[])
      have q2:=as_76_74 (.agg #[])
      go_enter Tryz.func134,Tryz.ntmps134
      go_wp2_with fail
      go_ret
      exact⟨by rw[hf.out];rfl,rfl⟩
def EvV (e:Ev)(sv:Value):Value:= .agg #[.int .i64 e.k,.int .i64 e.i,.int .i64 e.t,sv]
theorem fits_ok {k i t:Int} :okH k i t=(decide (1≤i∧i < 64) && fits k t):=by
  unfold okH fits
  rw[←Bool.decide_and]
  exact decide_eq_decide.2 (by omega)
theorem check_ev (e:Ev)(sv:Value)(w:World)(hv:RI w sv e.s)(hn:e.s.length≤1000000) :
    Calls Tryz.prog 105 #[EvV e sv] w fun x w'=>x= .returned (.int .i64 (evE e:Nat))∧Below w.heap.size w w':=by
  obtain⟨k,i,t,s⟩:=e
  unfold EvV
  dsimp only at *
  have HC:Hid (∀c:Int,((chkE s:Nat):Int)=c→∀wx:World,Below w.heap.size w wx→Calls Tryz.prog 136 #[sv] wx fun e w'=>e= .returned (.int .i64 c)∧w'=wx):=by
    show ∀c,_
    rintro c rfl wx hb
    exact check_any sv s wx (hv.later hb) hn
  obtain⟨sa,sc,rfl,_,_,hrr⟩:=hv
  clear hrr
  have HB:Hid (Below w.heap.size w (w.alloc (.cells #[.int .i64 k,.int .i64 i,.int .i64 t,.slice sa s.length sc] 94))):=(Below.refl _ _).alloc (jG _) _
  have HS:Hid _:=sortOf_any k
  by_cases h1:1≤i∧i < 64
  · by_cases h2:fits k t=true
    · have HT:Hid _:=tryFits_any k t
      rw[h2] at HT
      obtain⟨h11,h12⟩:=h1
      by_cases h3:okS s=true
      · have HE:Hid (evE ⟨k,i,t,s⟩=0):=by
          show _=_
          unfold evE okE
          dsimp only
          rw[fits_ok,h2,h3,decide_eq_true ⟨h11,h12⟩]
          rfl
        replace HC:Hid _:=HC.out 0 (by unfold chkE;rw[if_pos h3];rfl)
        clear h2 h3 hn
        generalize sortV k=sk at *
        go_enter Tryz.func105,Tryz.ntmps105
        go_wp2_with fail
        go_quiet (first
          | (go_at_call 135;refine zQ (HS.out _))
          | (go_at_call 134;refine zQ (HT.out _))
          | (go_at_call 136;refine zQ (HC.out _ (by first | exact HB.out | exact bl_drawn1 HB.out | exact bl_drawn HB.out _))))
        go_wp2_with fail
        go_ret
        refine⟨by rw[HE.out];rfl,by first | exact HB.out | exact bl_drawn1 HB.out | exact bl_drawn HB.out _⟩
      · have HE:Hid (evE ⟨k,i,t,s⟩=2):=by
          show _=_
          unfold evE okE
          dsimp only
          rw[show okS s=false by simpa using h3,Bool.and_false]
          rfl
        replace HC:Hid _:=HC.out 2 (by unfold chkE;rw[if_neg h3];rfl)
        clear h2 h3 hn
        generalize sortV k=sk at *
        go_enter Tryz.func105,Tryz.ntmps105
        go_wp2_with fail
        go_quiet (first
          | (go_at_call 135;refine zQ (HS.out _))
          | (go_at_call 134;refine zQ (HT.out _))
          | (go_at_call 136;refine zQ (HC.out _ (by first | exact HB.out | exact bl_drawn1 HB.out | exact bl_drawn HB.out _))))
        go_wp2_with fail
        go_ret
        refine⟨by rw[HE.out];rfl,by first | exact HB.out | exact bl_drawn1 HB.out | exact bl_drawn HB.out _⟩
    · have h2f:fits k t=false:=by simpa using h2
      have HT:Hid _:=tryFits_any k t
      rw[h2f] at HT
      obtain⟨h11,h12⟩:=h1
      have HE:Hid (evE ⟨k,i,t,s⟩=2):=by
        show _=_
        unfold evE okE
        dsimp only
        rw[fits_ok,h2f,Bool.and_false,Bool.false_and]
        rfl
      clear h2 h2f hn
      generalize sortV k=sk at *
      go_enter Tryz.func105,Tryz.ntmps105
      go_wp2_with fail
      go_quiet (first
        | (go_at_call 135;refine zQ (HS.out _))
        | (go_at_call 134;refine zQ (HT.out _))
        | (go_at_call 136;refine zQ (HC.out _ (by first | exact HB.out | exact bl_drawn1 HB.out | exact bl_drawn HB.out _))))
      go_wp2_with fail
      go_ret
      refine⟨by rw[HE.out];rfl,by first | exact HB.out | exact bl_drawn1 HB.out | exact bl_drawn HB.out _⟩
  · have HE:Hid (evE ⟨k,i,t,s⟩=2):=by
      show _=_
      unfold evE okE
      dsimp only
      rw[fits_ok,decide_eq_false h1,Bool.false_and,Bool.false_and]
      rfl
    have HT:Hid _:=tryFits_any k t
    clear hn
    by_cases h0:1≤i
    · have h5:decide (i < 64)=false:=decide_eq_false (by omega)
      clear h1
      go_enter Tryz.func105,Tryz.ntmps105
      go_wp2_with fail
      go_quiet (first
        | (go_at_call 135;refine zQ (HS.out _))
        | (go_at_call 134;refine zQ (HT.out _))
        | (go_at_call 136;refine zQ (HC.out _ (by first | exact HB.out | exact bl_drawn1 HB.out | exact bl_drawn HB.out _))))
      go_wp2_with fail
      go_ret
      refine⟨by rw[HE.out];rfl,by first | exact HB.out | exact bl_drawn1 HB.out | exact bl_drawn HB.out _⟩
    · clear h1
      go_enter Tryz.func105,Tryz.ntmps105
      go_wp2_with fail
      go_quiet (first
        | (go_at_call 135;refine zQ (HS.out _))
        | (go_at_call 134;refine zQ (HT.out _))
        | (go_at_call 136;refine zQ (HC.out _ (by first | exact HB.out | exact bl_drawn1 HB.out | exact bl_drawn HB.out _))))
      go_wp2_with fail
      go_ret
      refine⟨by rw[HE.out];rfl,by first | exact HB.out | exact bl_drawn1 HB.out | exact bl_drawn HB.out _⟩
end
end Go.Proofs.YtieoppabellafaaGreatDoor.Ek
namespace Go.Proofs.YtieoppabellafaaGreatDoor.Fc
open Go.RowKit Go.Shelf
def Fa.cells (f:Fa):List Value:=[.int .i64 f.run,.int .i64 f.tries,.int .i64 f.slips,.bool f.un]
def FaV (f:Fa):Value:= .agg #[.int .i64 f.run,.int .i64 f.tries,.int .i64 f.slips,.bool f.un]
def begunF:Fa:=⟨1,0,0,false⟩
def failedF:Fa:=⟨3,0,0,false⟩
def untriedF (t:Int):Fa:=⟨2,t,t,false⟩
def tryingF (t:Int):Fa:=⟨2,t+1,t,false⟩
def undoneF (t:Int):Fa:=⟨2,t+1,t,true⟩
theorem bl1 (w:World)(o:Obj):Below w.heap.size w (w.alloc o):=(Below.refl _ w).alloc (jG _) _
theorem idle_any (w:World):Calls Tryz.prog 87 #[] w fun e w'=>e= .returned (FaV Fa.z)∧Below w.heap.size w w':=by
 go_enter Tryz.func87,Tryz.ntmps87
 go_wp2_with fail
 refine⟨rfl,_,results_cell_row (p:=0) (ty:=55) rfl _ _ w.heap.size 55 #[_,_,_,_] (0,0) _ rfl (Dg.row_new w _ 55) Tryz.underlying55 rfl (by kernel_rfl),rfl,bl1 _ _⟩
theorem begun_any (w:World):Calls Tryz.prog 30 #[] w fun e w'=>e= .returned (FaV begunF)∧Below w.heap.size w w':=by
 go_enter Tryz.func30,Tryz.ntmps30
 go_wp2_with fail
 refine⟨rfl,_,results_cell_row (p:=0) (ty:=55) rfl _ _ w.heap.size 55 #[_,_,_,_] (0,0) _ rfl (Dg.row_new w _ 55) Tryz.underlying55 rfl (by kernel_rfl),rfl,bl1 _ _⟩
theorem failed_any (w:World):Calls Tryz.prog 159 #[] w fun e w'=>e= .returned (FaV failedF)∧Below w.heap.size w w':=by
 go_enter Tryz.func159,Tryz.ntmps159
 go_wp2_with fail
 refine⟨rfl,_,results_cell_row (p:=0) (ty:=55) rfl _ _ w.heap.size 55 #[_,_,_,_] (0,0) _ rfl (Dg.row_new w _ 55) Tryz.underlying55 rfl (by kernel_rfl),rfl,bl1 _ _⟩
theorem untried_any (t:Int)(w:World):Calls Tryz.prog 158 #[.int .i64 t] w fun e w'=>e= .returned (FaV (untriedF t))∧Below w.heap.size w w':=by
 go_enter Tryz.func158,Tryz.ntmps158
 go_wp2_with fail
 refine⟨rfl,_,results_cell_row (p:=2) (ty:=55) rfl _ _ w.heap.size 55 #[_,_,_,_] (0,0) _ rfl (Dg.row_new w _ 55) Tryz.underlying55 rfl (by kernel_rfl),rfl,bl1 _ _⟩
theorem trying_any (t:Int)(w:World)(h0:0≤t)(h3:t≤3):Calls Tryz.prog 31 #[.int .i64 t] w fun e w'=>e= .returned (FaV (tryingF t))∧Below w.heap.size w w':=by
 go_enter Tryz.func31,Tryz.ntmps31
 go_wp2_with fail
 refine⟨rfl,_,results_cell_row (p:=2) (ty:=55) rfl _ _ w.heap.size 55 #[_,_,_,_] (0,0) _ rfl (Dg.row_new w _ 55) Tryz.underlying55 rfl (by kernel_rfl),rfl,bl1 _ _⟩
theorem undoneBy_any (t:Int)(w:World)(h0:0≤t)(h3:t≤3):Calls Tryz.prog 160 #[.int .i64 t] w fun e w'=>e= .returned (FaV (undoneF t))∧Below w.heap.size w w':=by
 go_enter Tryz.func160,Tryz.ntmps160
 go_wp2_with fail
 refine⟨rfl,_,results_cell_row (p:=2) (ty:=55) rfl _ _ w.heap.size 55 #[_,_,_,_] (0,0) _ rfl (Dg.row_new w _ 55) Tryz.underlying55 rfl (by kernel_rfl),rfl,bl1 _ _⟩
theorem right_any (f:Fa)(w:World):Calls Tryz.prog 88 #[FaV f] w fun e w'=>e= .returned (.bool (decide (okF f)))∧Below w.heap.size w w':=by
 obtain⟨A,HA⟩:∃A,Hid (A=decide (okF f)):=⟨_,rfl⟩
 rw[←HA.out]
 obtain⟨r,t,s,u⟩:=f
 unfold FaV;dsimp only;have HB:Hid (Below w.heap.size w (w.alloc (.cells #[.int .i64 r,.int .i64 t,.int .i64 s,.bool u] 55))):=bl1 _ _;have no:Hid (¬okF ⟨r,t,s,u⟩→A=false):=fun h=>by rw[HA.out];exact decide_eq_false h
 have yes:Hid (okF ⟨r,t,s,u⟩→A=true):=fun h=>by rw[HA.out];exact decide_eq_true h
 clear HA
 by_cases h1:r < 0
 ·have HX:Hid (A=false):=no.out (fun h=>by have:=h.1;simp only at this;omega);clear no yes
  go_enter Tryz.func88,Tryz.ntmps88
  go_wp2_with fail
  go_ret
  exact⟨by rw[HX.out];rfl,HB.out⟩
 by_cases h2:3 < r
 ·have HX:Hid (A=false):=no.out (fun h=>by have:=h.2.1;simp only at this;omega);clear no yes
  go_enter Tryz.func88,Tryz.ntmps88
  go_wp2_with fail
  go_ret
  exact⟨by rw[HX.out];rfl,HB.out⟩
 by_cases h3:s < 0
 ·have HX:Hid (A=false):=no.out (fun h=>by have:=h.2.2.1;simp only at this;omega);clear no yes
  go_enter Tryz.func88,Tryz.ntmps88
  go_wp2_with fail
  go_ret
  exact⟨by rw[HX.out];rfl,HB.out⟩
 by_cases h4:3 < s
 ·have HX:Hid (A=false):=no.out (fun h=>by have:=h.2.2.2.1;simp only at this;omega);clear no yes
  go_enter Tryz.func88,Tryz.ntmps88
  go_wp2_with fail
  go_ret
  exact⟨by rw[HX.out];rfl,HB.out⟩
 by_cases h5:r=2∨t=0
 ·have h56:((r !=2) && (t !=0))=false:=by rcases h5 with rfl | rfl <;> simp
  have h57:(r !=2)=false∨((r !=2)=true∧(t !=0)=false):=by
   rcases h5 with rfl | rfl
   ·exact .inl (by decide)
   ·by_cases h:r=2
    ·exact .inl (by simp[h])
    ·exact .inr ⟨by simp[h],by decide⟩
  clear h56
  by_cases h6:t=s+1
  ·have HX:Hid (A=true):=yes.out ⟨by show 0≤r;omega,by show r≤3;omega,by show 0≤s;omega,by show s≤3;omega,.inr h6,h5.symm,fun _=>h6⟩;have h7:(t==s+1)=true:=by simp[h6]
   clear no yes h5 h6
   rcases h57 with h8 | ⟨h8,h9⟩
   ·go_enter Tryz.func88,Tryz.ntmps88
    go_wp2_with fail
    go_ret
    exact⟨by rw[HX.out];rfl,HB.out⟩
   ·go_enter Tryz.func88,Tryz.ntmps88
    go_wp2_with fail
    go_ret
    exact⟨by rw[HX.out];rfl,HB.out⟩
  ·have h7:(t==s+1)=false:=by simpa using h6
   by_cases h10:t=s∧u=false
   ·obtain⟨h10,rfl⟩:=h10
    have HX:Hid (A=true):=yes.out ⟨by show 0≤r;omega,by show r≤3;omega,by show 0≤s;omega,by show s≤3;omega,.inl h10,h5.symm,fun h=>by cases h⟩;have h11:(t==s)=true:=by simp[h10]
    clear no yes h5 h6 h10
    rcases h57 with h8 | ⟨h8,h9⟩
    ·go_enter Tryz.func88,Tryz.ntmps88
     go_wp2_with fail
     go_ret
     exact⟨by rw[HX.out];rfl,HB.out⟩
    ·go_enter Tryz.func88,Tryz.ntmps88
     go_wp2_with fail
     go_ret
     exact⟨by rw[HX.out];rfl,HB.out⟩
   ·have HX:Hid (A=false):=no.out (fun h=>by
     have h5':=h.2.2.2.2.1;have h6':=h.2.2.2.2.2.2;simp only at h5' h6'
     rcases h5' with h5' | h5'
     ·cases u
      ·exact h10 ⟨h5',rfl⟩
      ·exact h6 (h6' rfl)
     ·exact h6 h5')
    by_cases h11:t=s
    ·have h12:u=true:=by cases u;exact absurd ⟨h11,rfl⟩ h10;rfl
     subst h12;have h13:(t==s)=true:=by simp[h11]
     clear no yes h5 h6 h10 h11
     rcases h57 with h8 | ⟨h8,h9⟩
     ·go_enter Tryz.func88,Tryz.ntmps88
      go_wp2_with fail
      go_ret
      exact⟨by rw[HX.out];rfl,HB.out⟩
     ·go_enter Tryz.func88,Tryz.ntmps88
      go_wp2_with fail
      go_ret
      exact⟨by rw[HX.out];rfl,HB.out⟩
    ·have h13:(t==s)=false:=by simpa using h11
     clear no yes h5 h6 h10 h11
     rcases h57 with h8 | ⟨h8,h9⟩
     ·go_enter Tryz.func88,Tryz.ntmps88
      go_wp2_with fail
      go_ret
      exact⟨by rw[HX.out];rfl,HB.out⟩
     ·go_enter Tryz.func88,Tryz.ntmps88
      go_wp2_with fail
      go_ret
      exact⟨by rw[HX.out];rfl,HB.out⟩
 ·have HX:Hid (A=false):=no.out (fun h=>by have:=h.2.2.2.2.2.1;simp only at this;omega);have h8:(r !=2)=true:=by simp;omega
  have h9:(t !=0)=true:=by simp;omega
  clear no yes h5
  go_enter Tryz.func88,Tryz.ntmps88
  go_wp2_with fail
  go_ret
  exact⟨by rw[HX.out];rfl,HB.out⟩
end Go.Proofs.YtieoppabellafaaGreatDoor.Fc
namespace Go.Proofs.YtieoppabellafaaGreatDoor.Fc
open Go.RowKit
theorem takeD {P:Program}{ops:Array Oper}{Q:Exit→Act→World→Prop}{md:Region.Mode}{S:World→Prop}{i:Nat}{oi:Oper}{d:Tmp}{v:Value}{fuel:Nat}{listed:Array Bool}{a:Act}{w:World}(hi:ops[i]? =some oi)(hd:oi.dst=some d)
  (hs:Region.noSelect ops=true) (hf:Region.free md ops listed i=true) (hr:(Region.ready md ops listed).contains i=true)
  (hQ:∀c a w,Q (.panic c) {tmps:=a.tmps.setIfInBounds d v,defers:=a.defers} w→Q (.panic c) a w) (hy:YieldsIf P ops S oi v a) (hS:S w)
  (h:wpAnyH P md ops Q S fuel (listed.setIfInBounds i true) {tmps:=a.tmps.setIfInBounds d v,defers:=a.defers} w):wpAnyH P md ops Q S (fuel+1) listed a w:=by
 have hp:∀a:Act,a.put oi.dst v= {tmps:=a.tmps.setIfInBounds d v,defers:=a.defers} :=fun a=>by rw[hd];rfl
 refine wpAnyH_take hi hs hf hr (fun c a w h=>hQ c a w (by rw[hp] at h;exact h)) hy hS ?_;rw[hp]
 exact h
theorem tV {P:Program}{ops:Array Oper}{Q:Exit→Act→World→Prop}{md:Region.Mode}{S:World→Prop}{listed:Array Bool}{a:Act}{w:World}{oi:Oper}{ts:Array Value}(i:Nat)(d:Tmp)(v:Value)(fuel:Nat)(hi:ops[i]? =some oi)(hS:S w)
  (h:wpAnyH P md ops Q S fuel (listed.setIfInBounds i true) {tmps:=ts,defers:=a.defers} w) (hy:∀w,S w→(execOp a.eval oi).run P w= .ok (.value v) w)
  (hw:Region.wanted oi (yielded ops a.tmps)=true:=by kernel_rfl) (hd:oi.dst=some d:=by rfl) (hs:Region.noSelect ops=true:=by kernel_rfl) (hf:Region.free md ops listed i=true:=by kernel_rfl) (hr:(Region.ready md ops listed).contains i=true:=by kernel_rfl)
  (hQ:∀c a w,Q (.panic c) {tmps:=a.tmps.setIfInBounds d v,defers:=a.defers} w→Q (.panic c) a w:=by first | (intro _ _ _ h;cases h.1) | exact fun _ _ _ h=>h)
  (ht:a.tmps.setIfInBounds d v=ts:=by simp only[jA,jB,jC] <;> rfl):wpAnyH P md ops Q S (fuel+1) listed a w:=by
 subst ht;exact takeD hi hd hs hf hr hQ (.inl ⟨hw,hy⟩) hS h
theorem tK {P:Program}{ops:Array Oper}{Q:Exit→Act→World→Prop}{md:Region.Mode}{S:World→Prop}{listed:Array Bool}{a:Act}{w:World}{oi:Oper}{ts:Array Value}(i:Nat)(d:Tmp)(v:Value)(fuel:Nat)(hi:ops[i]? =some oi)(hS:S w)
  (h:wpAnyH P md ops Q S fuel (listed.setIfInBounds i true) {tmps:=ts,defers:=a.defers} w) (hy:∀w,S w→(execOp a.eval oi).run P w= .ok (.value v) w:=by intro _ _;kernel_rfl)
  (hw:Region.wanted oi (yielded ops a.tmps)=true:=by kernel_rfl) (hd:oi.dst=some d:=by rfl) (hs:Region.noSelect ops=true:=by kernel_rfl) (hf:Region.free md ops listed i=true:=by kernel_rfl) (hr:(Region.ready md ops listed).contains i=true:=by kernel_rfl)
  (hQ:∀c a w,Q (.panic c) {tmps:=a.tmps.setIfInBounds d v,defers:=a.defers} w→Q (.panic c) a w:=by first | (intro _ _ _ h;cases h.1) | exact fun _ _ _ h=>h)
  (ht:a.tmps.setIfInBounds d v=ts:=by simp only[jA,jB,jC] <;> rfl):wpAnyH P md ops Q S (fuel+1) listed a w:=by
 subst ht;exact takeD hi hd hs hf hr hQ (.inl ⟨hw,hy⟩) hS h
theorem tG {P:Program}{ops:Array Oper}{Q:Exit→Act→World→Prop}{md:Region.Mode}{S:World→Prop}{listed:Array Bool}{a:Act}{w:World}{oi:Oper}{ts:Array Value}(i:Nat)(d:Tmp)(v:Value)(fuel:Nat)(hi:ops[i]? =some oi)(hS:S w)
  (h:wpAnyH P md ops Q S fuel (listed.setIfInBounds i true) {tmps:=ts,defers:=a.defers} w) (hy:∀w,S w→(execOp a.eval oi).run P w= .ok (.value v) w:=by intro _ _;go_simp)
  (hw:Region.wanted oi (yielded ops a.tmps)=true:=by kernel_rfl) (hd:oi.dst=some d:=by rfl) (hs:Region.noSelect ops=true:=by kernel_rfl) (hf:Region.free md ops listed i=true:=by kernel_rfl) (hr:(Region.ready md ops listed).contains i=true:=by kernel_rfl)
  (hQ:∀c a w,Q (.panic c) {tmps:=a.tmps.setIfInBounds d v,defers:=a.defers} w→Q (.panic c) a w:=by first | (intro _ _ _ h;cases h.1) | exact fun _ _ _ h=>h)
  (ht:a.tmps.setIfInBounds d v=ts:=by simp only[jA,jB,jC] <;> rfl):wpAnyH P md ops Q S (fuel+1) listed a w:=by
 subst ht;exact takeD hi hd hs hf hr hQ (.inl ⟨hw,hy⟩) hS h
theorem tU {P:Program}{ops:Array Oper}{Q:Exit→Act→World→Prop}{md:Region.Mode}{S:World→Prop}{listed:Array Bool}{a:Act}{w:World}{oi:Oper}{ts:Array Value}(i:Nat)(d:Tmp)(fuel:Nat)(hi:ops[i]? =some oi)(hS:S w)
  (h:wpAnyH P md ops Q S fuel (listed.setIfInBounds i true) {tmps:=ts,defers:=a.defers} w)
  (hw:Region.wanted oi (yielded ops a.tmps)=false:=by kernel_rfl) (hd:oi.dst=some d:=by rfl) (hs:Region.noSelect ops=true:=by kernel_rfl) (hf:Region.free md ops listed i=true:=by kernel_rfl) (hr:(Region.ready md ops listed).contains i=true:=by kernel_rfl)
  (hQ:∀c a w,Q (.panic c) {tmps:=a.tmps.setIfInBounds d undef,defers:=a.defers} w→Q (.panic c) a w:=by first | (intro _ _ _ h;cases h.1) | exact fun _ _ _ h=>h)
  (ht:a.tmps.setIfInBounds d undef=ts:=by simp only[jA,jB,jC] <;> rfl):wpAnyH P md ops Q S (fuel+1) listed a w:=by
 subst ht;exact takeD hi hd hs hf hr hQ (.inr ⟨hw,rfl⟩) hS h
theorem wpOp_calls {P:Program}{ops:Array Oper}{Q:Exit→Act→World→Prop}{i:Nat}{K:Act→World→Prop}{a:Act}{w:World}{o:Oper}{d:Tmp}{f:FuncId}{args:Array Value}(hi:ops[i]? =some o)(hd:o.dst=some d)(hw:Region.wanted o (yielded ops a.tmps)=true)
  (hrun:(execOp a.eval o).run P w= .ok (.enter f args) w) (R:Ending→World→Prop) (h:Calls P f args w R) (hR:∀v w'',R (.returned v) w''→K {tmps:=a.tmps.setIfInBounds d v,defers:=a.defers} w'') (hP:∀ch w'',R (.panicked ch) w''→Q (.panic ch) a w'') (hO:∀w'',¬R .outgrown w''):wpOp P ops Q i K a w:=by
 have hp:∀v,a.put o.dst v= {tmps:=a.tmps.setIfInBounds d v,defers:=a.defers} :=fun v=>by rw[hd];rfl
 unfold wpOp;simp only[hi];rw[if_pos hw]
 refine .inl ?_;unfold Oper.wp;rw[hrun]
 exact h.mono fun e w'' he=>by
  cases e with
  | returned v=>show K (a.put o.dst v) w'';rw[hp];exact hR v w'' he
  | panicked ch=>exact hP ch w'' he
  | outgrown=>exact absurd he (hO w'')
theorem wpOp_value {P:Program}{ops:Array Oper}{Q:Exit→Act→World→Prop}{i:Nat}{K:Act→World→Prop}{a:Act}{w w':World}{o:Oper}{d:Tmp}{v:Value}(hi:ops[i]? =some o)(hd:o.dst=some d)(hw:Region.wanted o (yielded ops a.tmps)=true)
  (hrun:(execOp a.eval o).run P w= .ok (.value v) w') (hK:K {tmps:=a.tmps.setIfInBounds d v,defers:=a.defers} w'):wpOp P ops Q i K a w:=by
 have hp:a.put o.dst v= {tmps:=a.tmps.setIfInBounds d v,defers:=a.defers} :=by rw[hd];rfl
 unfold wpOp;simp only[hi];rw[if_pos hw]
 refine .inl ?_;unfold Oper.wp;rw[hrun]
 show K (a.put o.dst v) w';rw[hp]
 exact hK
def setAll (tm:Array Value):List (Nat × Value)→Array Value
 | []=>tm
 | (d,v) :: r=>setAll (tm.setIfInBounds d v) r
theorem oneC {P:Program}{ops:Array Oper}{Q:Exit→Act→World→Prop}{md:Region.Mode}{S:World→Prop}{i:Nat}{o:Oper}{d:Tmp}{f:FuncId}{args:Array Value}{v:Value}{fuel:Nat}{listed:Array Bool}{a:Act}{w:World}
  (hi:ops[i]? =some o) (hd:o.dst=some d) (hr:Region.ready md ops listed=[i]) (hw:Region.wanted o (yielded ops a.tmps)=true) (hrun:∀wx,(execOp a.eval o).run P wx= .ok (.enter f args) wx)
  (hS:S w) (hc:∀wx,S wx→Calls P f args wx fun e w'=>e= .returned v∧S w')
  (h:∀w',S w'→wpAnyH P md ops Q S fuel (listed.setIfInBounds i true) {tmps:=a.tmps.setIfInBounds d v,defers:=a.defers} w'):wpAnyH P md ops Q S (fuel+1) listed a w:=by
 refine wpAnyH_all hr (by simp) (jE.2 ?_);refine wpOp_calls hi hd hw (hrun w) _ (hc w hS) ?_ (fun _ _ h=>by cases h.1) (fun _ h=>by cases h.1);rintro v' w'' ⟨h1,h2⟩;cases h1;exact⟨h2,h w'' h2⟩
theorem region_thenF {P:Program}{id:Nat}{ops:Array Oper}{dr:Bool}{Q:Exit→Act→World→Prop}{K:Act→World→Prop}{a:Act}{w:World}(L:List (Nat × Value))(F:World→Prop)
  (h:(Code.region id ops dr).wp P (fun e a' w'=>e= .normal∧a'= {tmps:=setAll a.tmps L,defers:=a.defers}∧F w') a w)
  (h2:∀w',F w'→K {tmps:=setAll a.tmps L,defers:=a.defers} w'):(Code.region id ops dr).wp P (Exit.then K Q) a w:=by
 refine wp_mono h ?_;rintro e a' w' ⟨rfl,rfl,hF⟩;exact h2 w' hF
theorem oneW {P:Program}{ops:Array Oper}{Q:Exit→Act→World→Prop}{md:Region.Mode}{S:World→Prop}{i:Nat}{o:Oper}{d:Tmp}{f:FuncId}{args:Array Value}{v:Value}{fuel:Nat}{listed:Array Bool}{a:Act}{w:World}{R:World→Prop}
  (hi:ops[i]? =some o) (hd:o.dst=some d) (hr:Region.ready md ops listed=[i]) (hw:Region.wanted o (yielded ops a.tmps)=true) (hrun:∀wx,(execOp a.eval o).run P wx= .ok (.enter f args) wx)
  (hc:Calls P f args w fun e w'=>e= .returned v∧R w') (hRS:∀w',R w'→S w')
  (h:∀w',R w'→wpAnyH P md ops Q S fuel (listed.setIfInBounds i true) {tmps:=a.tmps.setIfInBounds d v,defers:=a.defers} w'):wpAnyH P md ops Q S (fuel+1) listed a w:=by
 refine wpAnyH_all hr (by simp) (jE.2 ?_);refine wpOp_calls hi hd hw (hrun w) _ hc ?_ (fun _ _ h=>by cases h.1) (fun _ h=>by cases h.1);rintro v' w'' ⟨h1,h2⟩;cases h1;exact⟨hRS w'' h2,h w'' h2⟩
theorem oneX {P:Program}{ops:Array Oper}{Q:Exit→Act→World→Prop}{md:Region.Mode}{S:World→Prop}{i:Nat}{o:Oper}{d:Tmp}{f:FuncId}{args:Array Value}{β:Type}{V:β→Value}{fuel:Nat}{listed:Array Bool}{a:Act}{w:World}{R:β→World→Prop}
  (hi:ops[i]? =some o) (hd:o.dst=some d) (hr:Region.ready md ops listed=[i]) (hw:Region.wanted o (yielded ops a.tmps)=true) (hrun:∀wx,(execOp a.eval o).run P wx= .ok (.enter f args) wx)
  (hc:Calls P f args w fun e w'=>∃z,e= .returned (V z)∧R z w') (hRS:∀z w',R z w'→S w')
  (h:∀z w',R z w'→wpAnyH P md ops Q S fuel (listed.setIfInBounds i true) {tmps:=a.tmps.setIfInBounds d (V z),defers:=a.defers} w'):wpAnyH P md ops Q S (fuel+1) listed a w:=by
 refine wpAnyH_all hr (by simp) (jE.2 ?_);refine wpOp_calls hi hd hw (hrun w) _ hc ?_ (fun _ _ h=>by obtain⟨_,h1,_⟩:=h;cases h1) (fun _ h=>by obtain⟨_,h1,_⟩:=h;cases h1);rintro v' w'' ⟨z,h1,h2⟩;cases h1;exact⟨hRS z w'' h2,h z w'' h2⟩
theorem region_thenG {P:Program}{id:Nat}{ops:Array Oper}{dr:Bool}{Q:Exit→Act→World→Prop}{K:Act→World→Prop}{a:Act}{w:World}{β:Type}(L:β→List (Nat × Value))(F:β→World→Prop)
  (h:(Code.region id ops dr).wp P (fun e a' w'=>e= .normal∧∃z,a'= {tmps:=setAll a.tmps (L z),defers:=a.defers}∧F z w') a w)
  (h2:∀z w',F z w'→K {tmps:=setAll a.tmps (L z),defers:=a.defers} w'):(Code.region id ops dr).wp P (Exit.then K Q) a w:=by
 refine wp_mono h ?_;rintro e a' w' ⟨rfl,z,rfl,hF⟩;exact h2 z w' hF
end Go.Proofs.YtieoppabellafaaGreatDoor.Fc
namespace Go.Proofs.YtieoppabellafaaGreatDoor.Fc
open Go.RowKit Go.Shelf
theorem wpOp_skip {P:Program}{ops:Array Oper}{Q:Exit→Act→World→Prop}{i:Nat}{K:Act→World→Prop}{a:Act}{w w':World}{o:Oper}(hi:ops[i]? =some o)(hd:o.dst=none)(hw:Region.wanted o (yielded ops a.tmps)=true)
  (hrun:(execOp a.eval o).run P w= .ok .skip w') (hK:K a w'):wpOp P ops Q i K a w:=by
 have hp:a.put o.dst undef=a:=by rw[hd];rfl
 unfold wpOp;simp only[hi];rw[if_pos hw]
 refine .inl ?_;unfold Oper.wp;rw[hrun]
 show K (a.put o.dst undef) w';rw[hp]
 exact hK
theorem eq_if (r t s:Int)(u:Bool)(r' t' s':Int)(u':Bool){α:Type}(x:Bool→α):(if r=r' then if t=t' then if s=s' then if u=u' then x true else x false else x false else x false else x false)=x (decide ((⟨r,t,s,u⟩:Fa)=⟨r',t',s',u'⟩)):=by
 simp only[Fa.mk.injEq]
 repeat' split
 all_goals simp_all
theorem eq_fact (f g:Fa)(w:World):(Go.binOp .eql 55 (FaV f) (FaV g)).run Tryz.prog w= .ok (.bool (decide (f=g))) w:=by
 obtain⟨r,t,s,u⟩:=f
 obtain⟨r',t',s',u'⟩:=g
 rw[←eq_if (x:=fun b=>Result.ok (Value.bool b) w)]
 unfold FaV
 go_simp
theorem eq_exec (f g:Fa){o:Oper}{x y:Operand}{a:Act}{w:World}{q:Bool}{ty:TypeId}(ho:o.op= .binOp .eql 55 x y ty)(hx:a.eval x=FaV f)(hy:a.eval y=FaV g)(hq:decide (f=g)=q):(execOp a.eval o).run Tryz.prog w= .ok (.value (.bool q)) w:=by
 unfold execOp;subst hq;have hg:(eqGuard BinOp.eql 55 x y (FaV f) (FaV g)).run Tryz.prog w= .ok () w:=by
  have hk:Tryz.prog.eqGuardType Tryz.prog.depth 55=false:=by kernel_rfl
  unfold eqGuard FaV;simp[hk]
 simp only[ho,hx,hy,Sem.run_bind,eq_fact,hg,Result.andThen_ok];rfl
def TuV (f:Fa)(t:Int):Value:= .agg #[.int .i64 f.run,.int .i64 f.tries,.int .i64 f.slips,.bool f.un,.int .i64 t]
theorem results_fa2 {fn:Func}{p u:Tmp}(h:fn.results= #[.cell p 55,.tmp u])(tmps:Array Value)(w:World){g:Nat}{f:Fa}
  (hp:tmps.getD p undef= .pointer (some ⟨g,0,none⟩)) (hg:w.heap[g]? =some (.cells f.cells.toArray 55 (0,0))) :
  (results fn tmps).run Tryz.prog w= .ok (.tuple #[FaV f,tmps.getD u undef]) w:=by
 have hp':tmps[p]?.getD undef= .pointer (some ⟨g,0,none⟩):=by simpa using hp
 simp[results,h,hp',asAddr,run_loadVar_row (P:=Tryz.prog) w g 55 55 _ (0,0) _ hg Tryz.underlying55 rfl (by kernel_rfl)]
 rfl
theorem row_cells {W:World}{n:Nat}{f:Fa}(h:W.heap[n]? =some (.cells f.cells.toArray 55 (0,0))):W.cell? ⟨n,0,none⟩=some (.int .i64 f.run)∧W.cell? ⟨n,1,none⟩=some (.int .i64 f.tries)∧W.cell? ⟨n,2,none⟩=some (.int .i64 f.slips)∧W.cell? ⟨n,3,none⟩=some (.bool f.un):=
 ⟨Dg.cell_row h 0,Dg.cell_row h 1,Dg.cell_row h 2,Dg.cell_row h 3⟩
structure MeS (w:World)(f:Fa)(t:Int)(W:World):Prop where
 bel:Below w.heap.size w W
 box:W.heap[w.heap.size]? =some (.cells #[.int .i64 f.run,.int .i64 f.tries,.int .i64 f.slips,.bool f.un,.int .i64 t] 187 (0,0))
 res:∃g:Fa,W.heap[w.heap.size+1]? =some (.cells g.cells.toArray 55 (0,0))
theorem MeS.later {w:World}{f:Fa}{t:Int}{W W':World}(h:MeS w f t W)(hb:Below W.heap.size W W'):MeS w f t W':=by
 obtain⟨g,hg⟩:=h.res
 exact⟨h.bel.trans (hb.mono h.bel.size),(hb.block _ (jD.1 h.box).1).trans h.box,g,(hb.block _ (jD.1 hg).1).trans hg⟩
theorem MeS.c {w:World}{f:Fa}{t:Int}{W:World}(h:MeS w f t W)(i:Nat):W.cell? ⟨w.heap.size,i,none⟩=(#[Value.int .i64 f.run,.int .i64 f.tries,.int .i64 f.slips,.bool f.un,.int .i64 t]:Array Value)[i]? :=Dg.cell_row h.box i
theorem MeS.init_res (w:World)(f:Fa)(t:Int):((w.alloc (.cells #[.int .i64 f.run,.int .i64 f.tries,.int .i64 f.slips,.bool f.un,.int .i64 t] 187)).alloc (.cells #[.int .i64 0,.int .i64 0,.int .i64 0,.bool false] 55)).heap[w.heap.size+1]? =some (.cells Fa.z.cells.toArray 55 (0,0)):=by
 have r2:=Dg.row_new (w.alloc (.cells #[.int .i64 f.run,.int .i64 f.tries,.int .i64 f.slips,.bool f.un,.int .i64 t] 187)) #[.int .i64 0,.int .i64 0,.int .i64 0,.bool false] 55;rw[jV] at r2
 exact r2
theorem MeS.init (w:World)(f:Fa)(t:Int):MeS w f t ((w.alloc (.cells #[.int .i64 f.run,.int .i64 f.tries,.int .i64 f.slips,.bool f.un,.int .i64 t] 187)).alloc (.cells #[.int .i64 0,.int .i64 0,.int .i64 0,.bool false] 55)):=
 ⟨(bl1 _ _).alloc (by simp) _,Dg.row_alloc (Dg.row_new w _ 187) _,_,MeS.init_res w f t⟩
theorem size38:(Tryz.prog.info? 55).map (·.size)=some 4:=by kernel_rfl
theorem store_fact {W:World}{n:Nat}{g:Fa}(h:W.heap[n]? =some (.cells g.cells.toArray 55 (0,0)))(k:Fa){o:Oper}{x y:Operand}{a:Act}(ho:o.op= .store 55 x y)(hx:a.eval x= .pointer (some ⟨n,0,none⟩))(hy:a.eval y=FaV k):(execOp a.eval o).run Tryz.prog W= .ok .skip (W.setRow n k.cells.toArray):=by
 unfold execOp;have hy':a.eval y= .agg k.cells.toArray:=hy;simp only[ho,hx,hy',Instr.storeAt,Instr.sureAddr,Sem.run_bind,Sem.run_pure,Result.andThen_ok,run_storeVar_row W n 55 55 g.cells.toArray k.cells.toArray h size38 rfl (by simp[Fa.cells,Value.oneCell'])]
theorem MeS.step {w:World}{f:Fa}{t:Int}{W:World}{ops:Array Oper}{Q:Exit→Act→World→Prop}{i:Nat}{K:Act→World→Prop}{o:Oper}{x y:Operand}{a:Act}(h:MeS w f t W)(k:Fa)(hi:ops[i]? =some o)(hd:o.dst=none)(hw:Region.wanted o (yielded ops a.tmps)=true)(ho:o.op= .store 55 x y)(hx:a.eval x= .pointer (some ⟨w.heap.size+1,0,none⟩))(hy:a.eval y=FaV k)
  (hK:∀W',MeS w f t W'→W'.heap[w.heap.size+1]? =some (.cells k.cells.toArray 55 (0,0))→K a W'):wpOp Tryz.prog ops Q i K a W:=by
 obtain⟨g,hg⟩:=h.res
 have h2:=setRow_heap W (w.heap.size+1) _ k.cells.toArray 55 (0,0) hg;refine wpOp_skip hi hd hw (store_fact hg k ho hx hy) (hK _ ⟨below_setRow h.bel (by omega) _,?_,k,h2⟩ h2);rw[setRow_other _ _ _ _ (by omega)]
 exact h.box
theorem start_any (f:Fa)(t:Int)(w:World)(h0:0≤t)(h3:t≤3):Calls Tryz.prog 137 #[TuV f t] w fun e w'=>e= .returned (.tuple #[FaV begunF,.bool (decide (f=Fa.z))])∧Below w.heap.size w w':=by
 obtain⟨q,hE⟩:∃q,decide (f=Fa.z)=q:=⟨_,rfl⟩
 rw[hE]
 have hM0:=MeS.init w f t;have HF:Hid (FaV f= .agg #[.int .i64 f.run,.int .i64 f.tries,.int .i64 f.slips,.bool f.un]):=rfl;unfold TuV
 go_enter Tryz.func137,Tryz.ntmps137
 go_wp2_with fail
 generalize (w.alloc (.cells #[.int .i64 f.run,.int .i64 f.tries,.int .i64 f.slips,.bool f.un,.int .i64 t] 187)).alloc (.cells #[.int .i64 0,.int .i64 0,.int .i64 0,.bool false] 55)=w0 at *;have hS0:MeS w f t w0.drew:=hM0.later (Below.refl _ _).drew;refine region_thenF [(4,FaV begunF),(5,.pointer (some ⟨w.heap.size,0,none⟩)),(6,FaV f),(7,FaV Fa.z),(8,.bool q),(3,.bool q)] (fun w'=>MeS w f t w'∧w'.heap[w.heap.size+1]? =some (.cells (Fa.cells begunF).toArray 55 (0,0))) ?_ ?_
 ·refine wp_region_held (S:=fun w'=>MeS w f t w') (by kernel_rfl) ?_;simp only[jN,jM,jP,Nat.reduceAdd,jI,jJ,jO,jL,jK];refine tG 1 5 (.pointer (some ⟨w.heap.size,0,none⟩)) 6 rfl hS0 ?_;refine tV 2 6 (FaV f) 5 rfl hS0 ?_ (fun wx h=>by rw[HF.out];have z0:=h.c 0;have z1:=h.c 1;have z2:=h.c 2;have z3:=h.c 3;simp only[jY,zA,jZ] at z0 z1 z2 z3;go_simp);refine oneC (i:=0) (d:=4) (f:=30) (args:= #[]) (v:=FaV begunF) (fuel:=4) rfl rfl (by kernel_rfl) (by kernel_rfl) (fun _=>by kernel_rfl) hS0 (fun wx h=>Calls.mono (begun_any wx) (by rintro e w2 ⟨rfl,hb⟩;exact⟨rfl,h.later hb⟩)) (fun wz hS100=>?_);simp only[jA,jB,jC];refine oneC (i:=3) (d:=7) (f:=87) (args:= #[]) (v:=FaV Fa.z) (fuel:=3) rfl rfl (by kernel_rfl) (by kernel_rfl) (fun _=>by kernel_rfl) hS100 (fun wx h=>Calls.mono (idle_any wx) (by rintro e w2 ⟨rfl,hb⟩;exact⟨rfl,h.later hb⟩)) (fun wz hS103=>?_);simp only[jA,jB,jC];refine tV 4 8 (.bool q) 2 rfl hS103 ?_ (fun wx h=>eq_exec f Fa.z (x:= .tmp 6) (y:= .tmp 7) rfl rfl rfl hE);refine wpAnyH_all (fuel:=1) (rs:=[5]) (by kernel_rfl) (by decide) (jE.2 ?_);refine MeS.step (i:=5) (x:= .tmp 2) (y:= .tmp 4) hS103 begunF rfl rfl (by kernel_rfl) rfl rfl rfl (fun wS hSS hgS=>⟨hSS,?_⟩);refine tK 6 3 (.bool q) 0 rfl hSS ?_;refine wpAnyH_done (by kernel_rfl) ?_ _;exact⟨rfl,by kernel_rfl,hSS,hgS⟩
 ·intro w9 hF;simp only[setAll,jA,jB,jC];have HF9:Hid _:=hF;clear hF
  go_wp2_with fail
  exact bodyPost_ret_by (results_fa2 rfl _ _ rfl HF9.out.2) rfl ⟨rfl,HF9.out.1.bel⟩
theorem ok_any (f:Fa)(t:Int)(w:World)(h0:0≤t)(h3:t≤3):Calls Tryz.prog 138 #[TuV f t] w fun e w'=>e= .returned (.tuple #[FaV (untriedF 0),.bool (decide (f=begunF))])∧Below w.heap.size w w':=by
 obtain⟨q,hE⟩:∃q,decide (f=begunF)=q:=⟨_,rfl⟩
 rw[hE]
 have hM0:=MeS.init w f t;have HF:Hid (FaV f= .agg #[.int .i64 f.run,.int .i64 f.tries,.int .i64 f.slips,.bool f.un]):=rfl;unfold TuV
 go_enter Tryz.func138,Tryz.ntmps138
 go_wp2_with fail
 generalize (w.alloc (.cells #[.int .i64 f.run,.int .i64 f.tries,.int .i64 f.slips,.bool f.un,.int .i64 t] 187)).alloc (.cells #[.int .i64 0,.int .i64 0,.int .i64 0,.bool false] 55)=w0 at *;have hS0:MeS w f t w0.drew:=hM0.later (Below.refl _ _).drew;refine region_thenF [(4,FaV (untriedF 0)),(5,.pointer (some ⟨w.heap.size,0,none⟩)),(6,FaV f),(7,FaV begunF),(8,.bool q),(3,.bool q)] (fun w'=>MeS w f t w'∧w'.heap[w.heap.size+1]? =some (.cells (Fa.cells (untriedF 0)).toArray 55 (0,0))) ?_ ?_
 ·refine wp_region_held (S:=fun w'=>MeS w f t w') (by kernel_rfl) ?_;simp only[jN,jM,jP,Nat.reduceAdd,jI,jJ,jO,jL,jK];refine tG 1 5 (.pointer (some ⟨w.heap.size,0,none⟩)) 6 rfl hS0 ?_;refine tV 2 6 (FaV f) 5 rfl hS0 ?_ (fun wx h=>by rw[HF.out];have z0:=h.c 0;have z1:=h.c 1;have z2:=h.c 2;have z3:=h.c 3;simp only[jY,zA,jZ] at z0 z1 z2 z3;go_simp);refine oneC (i:=0) (d:=4) (f:=158) (args:= #[.int .i64 0]) (v:=FaV (untriedF 0)) (fuel:=4) rfl rfl (by kernel_rfl) (by kernel_rfl) (fun _=>by kernel_rfl) hS0 (fun wx h=>Calls.mono (untried_any _ wx) (by rintro e w2 ⟨rfl,hb⟩;exact⟨rfl,h.later hb⟩)) (fun wz hS100=>?_);simp only[jA,jB,jC];refine oneC (i:=3) (d:=7) (f:=30) (args:= #[]) (v:=FaV begunF) (fuel:=3) rfl rfl (by kernel_rfl) (by kernel_rfl) (fun _=>by kernel_rfl) hS100 (fun wx h=>Calls.mono (begun_any wx) (by rintro e w2 ⟨rfl,hb⟩;exact⟨rfl,h.later hb⟩)) (fun wz hS103=>?_);simp only[jA,jB,jC];refine tV 4 8 (.bool q) 2 rfl hS103 ?_ (fun wx h=>eq_exec f begunF (x:= .tmp 6) (y:= .tmp 7) rfl rfl rfl hE);refine wpAnyH_all (fuel:=1) (rs:=[5]) (by kernel_rfl) (by decide) (jE.2 ?_);refine MeS.step (i:=5) (x:= .tmp 2) (y:= .tmp 4) hS103 (untriedF 0) rfl rfl (by kernel_rfl) rfl rfl rfl (fun wS hSS hgS=>⟨hSS,?_⟩);refine tK 6 3 (.bool q) 0 rfl hSS ?_;refine wpAnyH_done (by kernel_rfl) ?_ _;exact⟨rfl,by kernel_rfl,hSS,hgS⟩
 ·intro w9 hF;simp only[setAll,jA,jB,jC];have HF9:Hid _:=hF;clear hF
  go_wp2_with fail
  exact bodyPost_ret_by (results_fa2 rfl _ _ rfl HF9.out.2) rfl ⟨rfl,HF9.out.1.bel⟩
theorem fail_any (f:Fa)(t:Int)(w:World)(h0:0≤t)(h3:t≤3):Calls Tryz.prog 139 #[TuV f t] w fun e w'=>e= .returned (.tuple #[FaV failedF,.bool (decide (f=begunF))])∧Below w.heap.size w w':=by
 obtain⟨q,hE⟩:∃q,decide (f=begunF)=q:=⟨_,rfl⟩
 rw[hE]
 have hM0:=MeS.init w f t;have HF:Hid (FaV f= .agg #[.int .i64 f.run,.int .i64 f.tries,.int .i64 f.slips,.bool f.un]):=rfl;unfold TuV
 go_enter Tryz.func139,Tryz.ntmps139
 go_wp2_with fail
 generalize (w.alloc (.cells #[.int .i64 f.run,.int .i64 f.tries,.int .i64 f.slips,.bool f.un,.int .i64 t] 187)).alloc (.cells #[.int .i64 0,.int .i64 0,.int .i64 0,.bool false] 55)=w0 at *;have hS0:MeS w f t w0.drew:=hM0.later (Below.refl _ _).drew;refine region_thenF [(4,FaV failedF),(5,.pointer (some ⟨w.heap.size,0,none⟩)),(6,FaV f),(7,FaV begunF),(8,.bool q),(3,.bool q)] (fun w'=>MeS w f t w'∧w'.heap[w.heap.size+1]? =some (.cells (Fa.cells failedF).toArray 55 (0,0))) ?_ ?_
 ·refine wp_region_held (S:=fun w'=>MeS w f t w') (by kernel_rfl) ?_;simp only[jN,jM,jP,Nat.reduceAdd,jI,jJ,jO,jL,jK];refine tG 1 5 (.pointer (some ⟨w.heap.size,0,none⟩)) 6 rfl hS0 ?_;refine tV 2 6 (FaV f) 5 rfl hS0 ?_ (fun wx h=>by rw[HF.out];have z0:=h.c 0;have z1:=h.c 1;have z2:=h.c 2;have z3:=h.c 3;simp only[jY,zA,jZ] at z0 z1 z2 z3;go_simp);refine oneC (i:=0) (d:=4) (f:=159) (args:= #[]) (v:=FaV failedF) (fuel:=4) rfl rfl (by kernel_rfl) (by kernel_rfl) (fun _=>by kernel_rfl) hS0 (fun wx h=>Calls.mono (failed_any wx) (by rintro e w2 ⟨rfl,hb⟩;exact⟨rfl,h.later hb⟩)) (fun wz hS100=>?_);simp only[jA,jB,jC];refine oneC (i:=3) (d:=7) (f:=30) (args:= #[]) (v:=FaV begunF) (fuel:=3) rfl rfl (by kernel_rfl) (by kernel_rfl) (fun _=>by kernel_rfl) hS100 (fun wx h=>Calls.mono (begun_any wx) (by rintro e w2 ⟨rfl,hb⟩;exact⟨rfl,h.later hb⟩)) (fun wz hS103=>?_);simp only[jA,jB,jC];refine tV 4 8 (.bool q) 2 rfl hS103 ?_ (fun wx h=>eq_exec f begunF (x:= .tmp 6) (y:= .tmp 7) rfl rfl rfl hE);refine wpAnyH_all (fuel:=1) (rs:=[5]) (by kernel_rfl) (by decide) (jE.2 ?_);refine MeS.step (i:=5) (x:= .tmp 2) (y:= .tmp 4) hS103 failedF rfl rfl (by kernel_rfl) rfl rfl rfl (fun wS hSS hgS=>⟨hSS,?_⟩);refine tK 6 3 (.bool q) 0 rfl hSS ?_;refine wpAnyH_done (by kernel_rfl) ?_ _;exact⟨rfl,by kernel_rfl,hSS,hgS⟩
 ·intro w9 hF;simp only[setAll,jA,jB,jC];have HF9:Hid _:=hF;clear hF
  go_wp2_with fail
  exact bodyPost_ret_by (results_fa2 rfl _ _ rfl HF9.out.2) rfl ⟨rfl,HF9.out.1.bel⟩
theorem undo_any (f:Fa)(t:Int)(w:World)(h0:0≤t)(h3:t≤3):Calls Tryz.prog 140 #[TuV f t] w fun e w'=>e= .returned (.tuple #[FaV (tryingF t),.bool (decide (f=(untriedF t)))])∧Below w.heap.size w w':=by
 obtain⟨q,hE⟩:∃q,decide (f=(untriedF t))=q:=⟨_,rfl⟩
 rw[hE]
 have hM0:=MeS.init w f t;have HF:Hid (FaV f= .agg #[.int .i64 f.run,.int .i64 f.tries,.int .i64 f.slips,.bool f.un]):=rfl;unfold TuV
 go_enter Tryz.func140,Tryz.ntmps140
 go_wp2_with fail
 generalize (w.alloc (.cells #[.int .i64 f.run,.int .i64 f.tries,.int .i64 f.slips,.bool f.un,.int .i64 t] 187)).alloc (.cells #[.int .i64 0,.int .i64 0,.int .i64 0,.bool false] 55)=w0 at *;have hS0:MeS w f t w0.drew:=hM0.later (Below.refl _ _).drew;refine region_thenF [(4,.pointer (some ⟨w.heap.size,4,none⟩)),(5,.int .i64 t),(6,FaV (tryingF t)),(7,.pointer (some ⟨w.heap.size,0,none⟩)),(8,FaV f),(9,.pointer (some ⟨w.heap.size,4,none⟩)),(10,.int .i64 t),(11,FaV (untriedF t)),(12,.bool q),(3,.bool q)] (fun w'=>MeS w f t w'∧w'.heap[w.heap.size+1]? =some (.cells (Fa.cells (tryingF t)).toArray 55 (0,0))) ?_ ?_
 ·refine wp_region_held (S:=fun w'=>MeS w f t w') (by kernel_rfl) ?_;simp only[jN,jM,jP,Nat.reduceAdd,jI,jJ,jO,jL,jK];refine tG 0 4 (.pointer (some ⟨w.heap.size,4,none⟩)) 10 rfl hS0 ?_;refine tV 1 5 (.int .i64 t) 9 rfl hS0 ?_ (fun wx h=>by have z4:=h.c 4;simp only[jY,zA,jZ] at z4;go_simp);refine tG 3 7 (.pointer (some ⟨w.heap.size,0,none⟩)) 8 rfl hS0 ?_;refine tV 4 8 (FaV f) 7 rfl hS0 ?_ (fun wx h=>by rw[HF.out];have z0:=h.c 0;have z1:=h.c 1;have z2:=h.c 2;have z3:=h.c 3;simp only[jY,zA,jZ] at z0 z1 z2 z3;go_simp);refine tG 5 9 (.pointer (some ⟨w.heap.size,4,none⟩)) 6 rfl hS0 ?_;refine tV 6 10 (.int .i64 t) 5 rfl hS0 ?_ (fun wx h=>by have z4:=h.c 4;simp only[jY,zA,jZ] at z4;go_simp);refine oneC (i:=2) (d:=6) (f:=31) (args:= #[.int .i64 t]) (v:=FaV (tryingF t)) (fuel:=4) rfl rfl (by kernel_rfl) (by kernel_rfl) (fun _=>by kernel_rfl) hS0 (fun wx h=>Calls.mono (trying_any _ wx h0 h3) (by rintro e w2 ⟨rfl,hb⟩;exact⟨rfl,h.later hb⟩)) (fun wz hS102=>?_);simp only[jA,jB,jC];refine oneC (i:=7) (d:=11) (f:=158) (args:= #[.int .i64 t]) (v:=FaV (untriedF t)) (fuel:=3) rfl rfl (by kernel_rfl) (by kernel_rfl) (fun _=>by kernel_rfl) hS102 (fun wx h=>Calls.mono (untried_any _ wx) (by rintro e w2 ⟨rfl,hb⟩;exact⟨rfl,h.later hb⟩)) (fun wz hS107=>?_);simp only[jA,jB,jC];refine tV 8 12 (.bool q) 2 rfl hS107 ?_ (fun wx h=>eq_exec f (untriedF t) (x:= .tmp 8) (y:= .tmp 11) rfl rfl rfl hE);refine wpAnyH_all (fuel:=1) (rs:=[9]) (by kernel_rfl) (by decide) (jE.2 ?_);refine MeS.step (i:=9) (x:= .tmp 2) (y:= .tmp 6) hS107 (tryingF t) rfl rfl (by kernel_rfl) rfl rfl rfl (fun wS hSS hgS=>⟨hSS,?_⟩);refine tK 10 3 (.bool q) 0 rfl hSS ?_;refine wpAnyH_done (by kernel_rfl) ?_ _;exact⟨rfl,by kernel_rfl,hSS,hgS⟩
 ·intro w9 hF;simp only[setAll,jA,jB,jC];have HF9:Hid _:=hF;clear hF
  go_wp2_with fail
  exact bodyPost_ret_by (results_fa2 rfl _ _ rfl HF9.out.2) rfl ⟨rfl,HF9.out.1.bel⟩
theorem undone_any (f:Fa)(t:Int)(w:World)(h0:0≤t)(h3:t≤3):Calls Tryz.prog 141 #[TuV f t] w fun e w'=>e= .returned (.tuple #[FaV (undoneF t),.bool (decide (f=(tryingF t)))])∧Below w.heap.size w w':=by
 obtain⟨q,hE⟩:∃q,decide (f=(tryingF t))=q:=⟨_,rfl⟩
 rw[hE]
 have hM0:=MeS.init w f t;have HF:Hid (FaV f= .agg #[.int .i64 f.run,.int .i64 f.tries,.int .i64 f.slips,.bool f.un]):=rfl;unfold TuV
 go_enter Tryz.func141,Tryz.ntmps141
 go_wp2_with fail
 generalize (w.alloc (.cells #[.int .i64 f.run,.int .i64 f.tries,.int .i64 f.slips,.bool f.un,.int .i64 t] 187)).alloc (.cells #[.int .i64 0,.int .i64 0,.int .i64 0,.bool false] 55)=w0 at *;have hS0:MeS w f t w0.drew:=hM0.later (Below.refl _ _).drew;refine region_thenF [(4,.pointer (some ⟨w.heap.size,4,none⟩)),(5,.int .i64 t),(6,FaV (undoneF t)),(7,.pointer (some ⟨w.heap.size,0,none⟩)),(8,FaV f),(9,.pointer (some ⟨w.heap.size,4,none⟩)),(10,.int .i64 t),(11,FaV (tryingF t)),(12,.bool q),(3,.bool q)] (fun w'=>MeS w f t w'∧w'.heap[w.heap.size+1]? =some (.cells (Fa.cells (undoneF t)).toArray 55 (0,0))) ?_ ?_
 ·refine wp_region_held (S:=fun w'=>MeS w f t w') (by kernel_rfl) ?_;simp only[jN,jM,jP,Nat.reduceAdd,jI,jJ,jO,jL,jK];refine tG 0 4 (.pointer (some ⟨w.heap.size,4,none⟩)) 10 rfl hS0 ?_;refine tV 1 5 (.int .i64 t) 9 rfl hS0 ?_ (fun wx h=>by have z4:=h.c 4;simp only[jY,zA,jZ] at z4;go_simp);refine tG 3 7 (.pointer (some ⟨w.heap.size,0,none⟩)) 8 rfl hS0 ?_;refine tV 4 8 (FaV f) 7 rfl hS0 ?_ (fun wx h=>by rw[HF.out];have z0:=h.c 0;have z1:=h.c 1;have z2:=h.c 2;have z3:=h.c 3;simp only[jY,zA,jZ] at z0 z1 z2 z3;go_simp);refine tG 5 9 (.pointer (some ⟨w.heap.size,4,none⟩)) 6 rfl hS0 ?_;refine tV 6 10 (.int .i64 t) 5 rfl hS0 ?_ (fun wx h=>by have z4:=h.c 4;simp only[jY,zA,jZ] at z4;go_simp);refine oneC (i:=2) (d:=6) (f:=160) (args:= #[.int .i64 t]) (v:=FaV (undoneF t)) (fuel:=4) rfl rfl (by kernel_rfl) (by kernel_rfl) (fun _=>by kernel_rfl) hS0 (fun wx h=>Calls.mono (undoneBy_any _ wx h0 h3) (by rintro e w2 ⟨rfl,hb⟩;exact⟨rfl,h.later hb⟩)) (fun wz hS102=>?_);simp only[jA,jB,jC];refine oneC (i:=7) (d:=11) (f:=31) (args:= #[.int .i64 t]) (v:=FaV (tryingF t)) (fuel:=3) rfl rfl (by kernel_rfl) (by kernel_rfl) (fun _=>by kernel_rfl) hS102 (fun wx h=>Calls.mono (trying_any _ wx h0 h3) (by rintro e w2 ⟨rfl,hb⟩;exact⟨rfl,h.later hb⟩)) (fun wz hS107=>?_);simp only[jA,jB,jC];refine tV 8 12 (.bool q) 2 rfl hS107 ?_ (fun wx h=>eq_exec f (tryingF t) (x:= .tmp 8) (y:= .tmp 11) rfl rfl rfl hE);refine wpAnyH_all (fuel:=1) (rs:=[9]) (by kernel_rfl) (by decide) (jE.2 ?_);refine MeS.step (i:=9) (x:= .tmp 2) (y:= .tmp 6) hS107 (undoneF t) rfl rfl (by kernel_rfl) rfl rfl rfl (fun wS hSS hgS=>⟨hSS,?_⟩);refine tK 10 3 (.bool q) 0 rfl hSS ?_;refine wpAnyH_done (by kernel_rfl) ?_ _;exact⟨rfl,by kernel_rfl,hSS,hgS⟩
 ·intro w9 hF;simp only[setAll,jA,jB,jC];have HF9:Hid _:=hF;clear hF
  go_wp2_with fail
  exact bodyPost_ret_by (results_fa2 rfl _ _ rfl HF9.out.2) rfl ⟨rfl,HF9.out.1.bel⟩
theorem slip_true (f:Fa)(t:Int)(w:World)(hq:decide (f=(tryingF t))=true)(h0:0≤t)(h3:t≤3):Calls Tryz.prog 142 #[TuV f t] w fun e w'=>e= .returned (.tuple #[FaV (untriedF (t+1)),.bool (decide (f=(tryingF t)) && decide (t < 3))])∧Below w.heap.size w w':=by
 have hE:=hq;rw[hq]
 have hM0:=MeS.init w f t;have HF:Hid (FaV f= .agg #[.int .i64 f.run,.int .i64 f.tries,.int .i64 f.slips,.bool f.un]):=rfl;unfold TuV;have hw1:IntKind.i64.wrap (t+1)=t+1:=by rw[IntKind.wrap_i64];omega
 go_enter Tryz.func142,Tryz.ntmps142
 go_wp2_with fail
 generalize (w.alloc (.cells #[.int .i64 f.run,.int .i64 f.tries,.int .i64 f.slips,.bool f.un,.int .i64 t] 187)).alloc (.cells #[.int .i64 0,.int .i64 0,.int .i64 0,.bool false] 55)=w0 at *;have hS0:MeS w f t w0.drew:=hM0.later (Below.refl _ _).drew;refine region_thenF [(4,.pointer (some ⟨w.heap.size,4,none⟩)),(5,.int .i64 t),(6,.int .i64 (t+1)),(7,FaV (untriedF (t+1))),(8,.pointer (some ⟨w.heap.size,0,none⟩)),(9,FaV f),(10,.pointer (some ⟨w.heap.size,4,none⟩)),(11,.int .i64 t),(12,FaV (tryingF t)),(13,.bool true),(14,.bool true),(15,.pointer (some ⟨w.heap.size,4,none⟩)),(16,.int .i64 t),(17,.bool (decide (t < 3))),(18,.bool (decide (t < 3))),(3,.bool (decide (t < 3)))] (fun w'=>MeS w f t w'∧w'.heap[w.heap.size+1]? =some (.cells (Fa.cells (untriedF (t+1))).toArray 55 (0,0))) ?_ ?_
 ·refine wp_region_held (S:=fun w'=>MeS w f t w') (by kernel_rfl) ?_;simp only[jN,jM,jP,Nat.reduceAdd,jI,jJ,jO,jL,jK];refine tG 0 4 (.pointer (some ⟨w.heap.size,4,none⟩)) 16 rfl hS0 ?_;refine tV 1 5 (.int .i64 t) 15 rfl hS0 ?_ (fun wx h=>by have z4:=h.c 4;simp only[jY,zA,jZ] at z4;go_simp);refine tV 2 6 (.int .i64 (t+1)) 14 rfl hS0 ?_ (fun wx h=>by go_simp);refine tG 4 8 (.pointer (some ⟨w.heap.size,0,none⟩)) 13 rfl hS0 ?_;refine tV 5 9 (FaV f) 12 rfl hS0 ?_ (fun wx h=>by rw[HF.out];have z0:=h.c 0;have z1:=h.c 1;have z2:=h.c 2;have z3:=h.c 3;simp only[jY,zA,jZ] at z0 z1 z2 z3;go_simp);refine tG 6 10 (.pointer (some ⟨w.heap.size,4,none⟩)) 11 rfl hS0 ?_;refine tV 7 11 (.int .i64 t) 10 rfl hS0 ?_ (fun wx h=>by have z4:=h.c 4;simp only[jY,zA,jZ] at z4;go_simp);refine oneC (i:=3) (d:=7) (f:=158) (args:= #[.int .i64 (t+1)]) (v:=FaV (untriedF (t+1))) (fuel:=9) rfl rfl (by kernel_rfl) (by kernel_rfl) (fun _=>by kernel_rfl) hS0 (fun wx h=>Calls.mono (untried_any _ wx) (by rintro e w2 ⟨rfl,hb⟩;exact⟨rfl,h.later hb⟩)) (fun wz hS103=>?_);simp only[jA,jB,jC];refine oneC (i:=8) (d:=12) (f:=31) (args:= #[.int .i64 t]) (v:=FaV (tryingF t)) (fuel:=8) rfl rfl (by kernel_rfl) (by kernel_rfl) (fun _=>by kernel_rfl) hS103 (fun wx h=>Calls.mono (trying_any _ wx h0 h3) (by rintro e w2 ⟨rfl,hb⟩;exact⟨rfl,h.later hb⟩)) (fun wz hS108=>?_);simp only[jA,jB,jC];refine tV 9 13 (.bool true) 7 rfl hS108 ?_ (fun wx h=>eq_exec f (tryingF t) (x:= .tmp 9) (y:= .tmp 12) rfl rfl rfl hE);refine tK 10 14 (.bool true) 6 rfl hS108 ?_;refine tG 11 15 (.pointer (some ⟨w.heap.size,4,none⟩)) 5 rfl hS108 ?_;refine tV 12 16 (.int .i64 t) 4 rfl hS108 ?_ (fun wx h=>by have z4:=h.c 4;simp only[jY,zA,jZ] at z4;go_simp);refine tV 13 17 (.bool (decide (t < 3))) 3 rfl hS108 ?_ (fun wx h=>by go_simp);refine tK 14 18 (.bool (decide (t < 3))) 2 rfl hS108 ?_;refine wpAnyH_all (fuel:=1) (rs:=[15]) (by kernel_rfl) (by decide) (jE.2 ?_);refine MeS.step (i:=15) (x:= .tmp 2) (y:= .tmp 7) hS108 (untriedF (t+1)) rfl rfl (by kernel_rfl) rfl rfl rfl (fun wS hSS hgS=>⟨hSS,?_⟩);refine tK 16 3 (.bool (decide (t < 3))) 0 rfl hSS ?_;refine wpAnyH_done (by kernel_rfl) ?_ _;exact⟨rfl,by kernel_rfl,hSS,hgS⟩
 ·intro w9 hF;simp only[setAll,jA,jB,jC];have HF9:Hid _:=hF;clear hF
  go_wp2_with fail
  exact bodyPost_ret_by (results_fa2 rfl _ _ rfl HF9.out.2) rfl ⟨rfl,HF9.out.1.bel⟩
theorem slip_false (f:Fa)(t:Int)(w:World)(hq:decide (f=(tryingF t))=false)(h0:0≤t)(h3:t≤3):Calls Tryz.prog 142 #[TuV f t] w fun e w'=>e= .returned (.tuple #[FaV (untriedF (t+1)),.bool (decide (f=(tryingF t)) && decide (t < 3))])∧Below w.heap.size w w':=by
 have hE:=hq;rw[hq]
 have hM0:=MeS.init w f t;have HF:Hid (FaV f= .agg #[.int .i64 f.run,.int .i64 f.tries,.int .i64 f.slips,.bool f.un]):=rfl;unfold TuV;have hw1:IntKind.i64.wrap (t+1)=t+1:=by rw[IntKind.wrap_i64];omega
 go_enter Tryz.func142,Tryz.ntmps142
 go_wp2_with fail
 generalize (w.alloc (.cells #[.int .i64 f.run,.int .i64 f.tries,.int .i64 f.slips,.bool f.un,.int .i64 t] 187)).alloc (.cells #[.int .i64 0,.int .i64 0,.int .i64 0,.bool false] 55)=w0 at *;have hS0:MeS w f t w0.drew:=hM0.later (Below.refl _ _).drew;refine region_thenF [(4,.pointer (some ⟨w.heap.size,4,none⟩)),(5,.int .i64 t),(6,.int .i64 (t+1)),(7,FaV (untriedF (t+1))),(8,.pointer (some ⟨w.heap.size,0,none⟩)),(9,FaV f),(10,.pointer (some ⟨w.heap.size,4,none⟩)),(11,.int .i64 t),(12,FaV (tryingF t)),(13,.bool false),(14,.bool false),(15,undef),(16,undef),(17,undef),(18,.bool false),(3,.bool false)] (fun w'=>MeS w f t w'∧w'.heap[w.heap.size+1]? =some (.cells (Fa.cells (untriedF (t+1))).toArray 55 (0,0))) ?_ ?_
 ·refine wp_region_held (S:=fun w'=>MeS w f t w') (by kernel_rfl) ?_;simp only[jN,jM,jP,Nat.reduceAdd,jI,jJ,jO,jL,jK];refine tG 0 4 (.pointer (some ⟨w.heap.size,4,none⟩)) 16 rfl hS0 ?_;refine tV 1 5 (.int .i64 t) 15 rfl hS0 ?_ (fun wx h=>by have z4:=h.c 4;simp only[jY,zA,jZ] at z4;go_simp);refine tV 2 6 (.int .i64 (t+1)) 14 rfl hS0 ?_ (fun wx h=>by go_simp);refine tG 4 8 (.pointer (some ⟨w.heap.size,0,none⟩)) 13 rfl hS0 ?_;refine tV 5 9 (FaV f) 12 rfl hS0 ?_ (fun wx h=>by rw[HF.out];have z0:=h.c 0;have z1:=h.c 1;have z2:=h.c 2;have z3:=h.c 3;simp only[jY,zA,jZ] at z0 z1 z2 z3;go_simp);refine tG 6 10 (.pointer (some ⟨w.heap.size,4,none⟩)) 11 rfl hS0 ?_;refine tV 7 11 (.int .i64 t) 10 rfl hS0 ?_ (fun wx h=>by have z4:=h.c 4;simp only[jY,zA,jZ] at z4;go_simp);refine oneC (i:=3) (d:=7) (f:=158) (args:= #[.int .i64 (t+1)]) (v:=FaV (untriedF (t+1))) (fuel:=9) rfl rfl (by kernel_rfl) (by kernel_rfl) (fun _=>by kernel_rfl) hS0 (fun wx h=>Calls.mono (untried_any _ wx) (by rintro e w2 ⟨rfl,hb⟩;exact⟨rfl,h.later hb⟩)) (fun wz hS103=>?_);simp only[jA,jB,jC];refine oneC (i:=8) (d:=12) (f:=31) (args:= #[.int .i64 t]) (v:=FaV (tryingF t)) (fuel:=8) rfl rfl (by kernel_rfl) (by kernel_rfl) (fun _=>by kernel_rfl) hS103 (fun wx h=>Calls.mono (trying_any _ wx h0 h3) (by rintro e w2 ⟨rfl,hb⟩;exact⟨rfl,h.later hb⟩)) (fun wz hS108=>?_);simp only[jA,jB,jC];refine tV 9 13 (.bool false) 7 rfl hS108 ?_ (fun wx h=>eq_exec f (tryingF t) (x:= .tmp 9) (y:= .tmp 12) rfl rfl rfl hE);refine tK 10 14 (.bool false) 6 rfl hS108 ?_;refine tU 11 15 5 rfl hS108 ?_;refine tU 12 16 4 rfl hS108 ?_;refine tU 13 17 3 rfl hS108 ?_;refine tK 14 18 (.bool false) 2 rfl hS108 ?_;refine wpAnyH_all (fuel:=1) (rs:=[15]) (by kernel_rfl) (by decide) (jE.2 ?_);refine MeS.step (i:=15) (x:= .tmp 2) (y:= .tmp 7) hS108 (untriedF (t+1)) rfl rfl (by kernel_rfl) rfl rfl rfl (fun wS hSS hgS=>⟨hSS,?_⟩);refine tK 16 3 (.bool false) 0 rfl hSS ?_;refine wpAnyH_done (by kernel_rfl) ?_ _;exact⟨rfl,by kernel_rfl,hSS,hgS⟩
 ·intro w9 hF;simp only[setAll,jA,jB,jC];have HF9:Hid _:=hF;clear hF
  go_wp2_with fail
  exact bodyPost_ret_by (results_fa2 rfl _ _ rfl HF9.out.2) rfl ⟨rfl,HF9.out.1.bel⟩
theorem slip_any (f:Fa)(t:Int)(w:World)(h0:0≤t)(h3:t≤3):Calls Tryz.prog 142 #[TuV f t] w fun e w'=>e= .returned (.tuple #[FaV (untriedF (t+1)),.bool (decide (f=tryingF t) && decide (t < 3))])∧Below w.heap.size w w':=by
 cases hq:decide (f=tryingF t) with
 | true=>rw[←hq];exact slip_true f t w hq h0 h3
 | false=>rw[←hq];exact slip_false f t w hq h0 h3
theorem none_any (f:Fa)(t:Int)(w:World):Calls Tryz.prog 143 #[TuV f t] w fun e w'=>e= .returned (.tuple #[FaV Fa.z,.bool false])∧Below w.heap.size w w':=by
 have hM0:=MeS.init w f t;have hR:=MeS.init_res w f t;unfold TuV
 go_enter Tryz.func143,Tryz.ntmps143
 go_wp2_with fail
 exact bodyPost_ret_by (results_fa2 rfl _ _ rfl hR) rfl ⟨rfl,hM0.bel⟩
end Go.Proofs.YtieoppabellafaaGreatDoor.Fc
