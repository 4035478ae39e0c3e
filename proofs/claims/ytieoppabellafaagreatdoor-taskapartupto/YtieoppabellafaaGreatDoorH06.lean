/- Texts of the seat, packed: STe Za Zb Zc Zd. -/
import Derived.Test.YtieoppabellafaaGreatDoorH01
import Derived.Test.YtieoppabellafaaGreatDoorH05
import Derived.Test.YtieoppabellafaaGreatDoorChecked
import Derived.Test.YtieoppabellafaaGreatDoorH02
import Derived.Below
import Derived.RangeFuncBound
import Derived.RangeFuncCalls
import Derived.RangeFuncLeaves
import Derived.RangeFuncNested
import Derived.LoopIn
import Derived.LoopNIn
import Derived.OwnWalkIn
import Derived.Shelf.Abstract
import Derived.Shelf.RegionOpen
import Derived.TacticsInMore
import Derived.WalkKit
set_option maxRecDepth 1000000
set_option maxHeartbeats 64000000
set_option linter.unusedVariables false
namespace Go.Proofs.YtieoppabellafaaGreatDoor.Sx
open Go.RowKit Go.Shelf
attribute [local go_sem] Oper.semAt_some
noncomputable def okL (l:List (Nat × Lab × Tr)):Bool:=l.all fun x=>nodeOk x.2.1 x.2.2.len
theorem okL_perm {a b:List (Nat × Lab × Tr)}(h:a.Perm b):okL a=okL b:=h.all_eq
noncomputable def rightS (x:By)(t:Tr):Bool:=nmP x && decide (0 < t.len) && !bigL (fltn 1 t) && okL (fltn 1 t)
noncomputable def codeS (x:By)(t:Tr):Int:=if rightS x t then 0 else 2
theorem retE {fn:Func}{p:Tmp}(h:fn.results= #[.cell p 29]){a:Act}{w:World}(b:Nat)(v0:Value)(hp:a.tmps.getD p undef= .pointer (some ⟨b,0,none⟩))(hb:w.cell? ⟨b,0,none⟩=some v0):(results fn a.tmps).run Tryz.prog w= .ok v0 w:=by
 have hp':a.tmps[p]?.getD undef= .pointer (some ⟨b,0,none⟩):=by simpa using hp
 simp[results,h,hp',go_sem,hb]
theorem check_any (w:World)(x:By)(t:Tr)(av:Option Addr)(am ac:Nat)(ht:TAt (· < w.heap.size) w true t av 0 am)(hb:Bnd t) :
  Calls Tryz.prog 74 #[.agg #[.string ⟨x.toArray⟩,.slice av am ac]] w fun e w'=>e= .returned (.int .i64 (codeS x t))∧Below w.heap.size w w':=by
 obtain rfl:am=t.len:=by have:=ht.len;omega
 have n0:=row_alloc (row_new w #[.string ⟨x.toArray⟩,.slice av t.len ac] 24) (.cells #[.int .i64 0] 29);have r0:((w.alloc (.cells #[.string ⟨x.toArray⟩,.slice av t.len ac] 24)).alloc (.cells #[.int .i64 0] 29)).heap[w.heap.size+1]? =some (.cells #[.int .i64 0] 29 (0,0)):=by
  have:=row_new (w.alloc (.cells #[.string ⟨x.toArray⟩,.slice av t.len ac] 24)) #[.int .i64 0] 29
  rwa [jV] at this
 have hB0:Below w.heap.size w ((w.alloc (.cells #[.string ⟨x.toArray⟩,.slice av t.len ac] 24)).alloc (.cells #[.int .i64 0] 29)):=((Below.refl _ w).alloc (jG _) _).alloc (by simp) _;have M1:Hid _:=isName_by x ((w.alloc (.cells #[.string ⟨x.toArray⟩,.slice av t.len ac] 24)).alloc (.cells #[.int .i64 0] 29));refine (callsIn_wide (n:=5)).1 ?_;refine callsIn_of_wp_marks Tryz.func74 rfl trivial ?_ rfl;simp only[Tryz.ntmps74,jN,jM,jP,Nat.reduceAdd,Nat.reduceSub,jI,jJ,jO,zN,jL,jK]
 gi_wp2_with fail
 refine⟨trivial,?_⟩
 refine (callsIn_wide.2 M1.out).mono ?_;clear M1;rintro e w1 ⟨rfl,hb1⟩;have n1:=(hb1.block _ (by simp;omega)).trans n0;have r1:=(hb1.block _ (by simp)).trans r0;have hB1:=hB0.trans (hb1.mono (by simp;omega));have hz1:=hb1.size;simp at hz1;clear hb1 n0 r0 hB0;have c0:=(cell_row n1 0).trans rfl;have c1:=(cell_row n1 1).trans rfl;have q0:=(cell_row r1 0).trans rfl;have qf:=froz_row r1 0;have hB2:Below w.heap.size w (w1.setCell ⟨w.heap.size+1,0,none⟩ (.int .i64 2)):=hB1.setCell (p:=⟨w.heap.size+1,0,none⟩) (by show w.heap.size≤w.heap.size+1;omega) _;cases hn:nmP x with
 | false=>
  have HQ:Hid (codeS x t=2):=by show _=_;simp[codeS,rightS,hn]
  gi_wp2
  refine⟨trivial,?_⟩
  gi_wp2
  exact⟨.int .i64 2,retE (p:=2) rfl (w.heap.size+1) _ rfl ((cell_row (row_set r1 0 _) 0).trans rfl),by rw[HQ.out],hB2⟩
 | true=>
  by_cases hl:t.len=0
  ·have HQ:Hid (codeS x t=2):=by show _=_;simp[codeS,rightS,hl]
   gi_wp2
   refine⟨trivial,?_⟩
   gi_wp2
   exact⟨.int .i64 2,retE (p:=2) rfl (w.heap.size+1) _ rfl ((cell_row (row_set r1 0 _) 0).trans rfl),by rw[HQ.out],hB2⟩
  ·have hl':((t.len:Int)==0)=false:=by simp;omega
   have ht1:TAt (· < w1.heap.size) w1 true t av 0 t.len:=ht.keep (fun b hb _=>hB1.block b hb) (fun b hb _=>by omega) _ _ _ _ _;have M2:Hid _:=big_any w1 ⟨x.toArray⟩ t av t.len ac ht1 hb
   gi_wp2_with fail
   refine⟨trivial,?_⟩
   refine (callsIn_wide.2 M2.out).mono ?_;clear M2 ht1;rintro e w2 ⟨rfl,hb2⟩;have n2:=(hb2.block _ (by omega)).trans n1;have r2:=(hb2.block _ (by omega)).trans r1;have hB3:=hB1.trans (hb2.mono (by omega));have hz2:=hb2.size;have d0:=(cell_row n2 0).trans rfl;have d1:=(cell_row n2 1).trans rfl;have e0:=(cell_row r2 0).trans rfl;have ef:=froz_row r2 0;have hB4:Below w.heap.size w (w2.setCell ⟨w.heap.size+1,0,none⟩ (.int .i64 2)):=hB3.setCell (p:=⟨w.heap.size+1,0,none⟩) (by show w.heap.size≤w.heap.size+1;omega) _;clear c0 c1 q0 qf n1 r1 hB2 hb2;cases hbg:bigL (fltn 1 t) with
   | true=>
    have HQ:Hid (codeS x t=2):=by show _=_;simp[codeS,rightS,hbg]
    gi_wp2
    exact⟨.int .i64 2,retE (p:=2) rfl (w.heap.size+1) _ rfl ((cell_row (row_set r2 0 _) 0).trans rfl),by rw[HQ.out],hB4⟩
   | false=>
    gi_wp2_with (refine⟨trivial,?_⟩;gi_at_call 109;refine (nodes_in Fence.wide _ trivial rfl _ _ _).mono ?_;rintro e w' ⟨rfl,rfl⟩)
    obtain⟨Wl,hWl⟩:∃Wl,w2.alloc (.cells #[.string ⟨x.toArray⟩,.slice av t.len ac] 24)=Wl:=⟨_,rfl⟩
    rw[hWl]
    have hz:Wl.heap.size=w2.heap.size+1:=by rw[←hWl];simp
    have hrb:Wl.heap[w.heap.size+1]? =some (.cells #[.int .i64 0] 29 (0,0)):=by rw[←hWl];exact row_alloc r2 _
    have hgb:Wl.heap[w2.heap.size]? =some (.cells #[.string ⟨x.toArray⟩,.slice av t.len ac] 24 (0,0)):=by rw[←hWl];exact row_new w2 _ 24
    have hbl:Below w.heap.size w Wl:=by rw[←hWl];exact hB3.alloc (by omega) _
    clear hWl;have hseq:=nodes1_in Fence.wide 4 trivial rfl (by omega) rfl w.heap.size (1+t.dep) w2.heap.size w Wl t av t.len ac (fun k hk=>hbl.block k hk) (by omega) ((cell_row hgb 1).trans rfl) ht (jG _) (by have:=hb.dep;omega) hb.tw hb.sz;refine range_mine (n:=5) rfl (by omega) (gf:=146) (lb:= #[.pointer (some ⟨w2.heap.size,0,none⟩)]) rfl trivial (enters_of Tryz.func146 (by kernel_rfl) rfl) hseq (by omega) (fun _=>rfl)
     (fun pre W=>W.heap[w.heap.size+1]? =some (.cells #[.int .i64 0] 29 (0,0))∧okL (pre.map Nd.key)=true∧Below w.heap.size w W)
     (fun pre W=>W.heap[w.heap.size+1]? =some (.cells #[.int .i64 2] 29 (0,0))∧okL (pre.map Nd.key)=false∧Below w.heap.size w W)
     (fun s A B hs hB=>⟨(hB.block _ (by omega)).trans hs.1,hs.2.1,hs.2.2.trans (hB.mono (by omega))⟩)
     (fun s A B hs hB=>⟨(hB.block _ (by omega)).trans hs.1,hs.2.1,hs.2.2.trans (hB.mono (by omega))⟩) ⟨hrb,rfl,hbl⟩ ?round ?done ?stop
    case round=>
     rintro l pre y W hV hN ⟨hr,hL,hB⟩ hlt;obtain⟨yd,yl,ya,ysv,ysm,ysc,yav,yam,yac⟩:=y
     have hz0:=hB.size;simp only[Nd.enc];simp only[Array.zip]
     gi_wp2
     refine⟨⟨row_alloc hr _,hL,hB.alloc hz0 _⟩,Kr.of_below ((Below.refl _ _).alloc (jG _) _) (by omega),?_⟩
     rintro W2 ⟨hr2,hL2,hB2'⟩ hk2;have hn2:=(hk2.high W.heap.size (by omega) (by simp)).trans (row_new W #[.string ⟨yl.name.toArray⟩,.string ⟨yl.undo.toArray⟩,.slice ysv ysm ysc,.bool yl.sub,.bool yl.vital,.slice yav yam yac] 104);have s0:=(cell_row hn2 0).trans rfl;have s1:=(cell_row hn2 1).trans rfl;have s2:=(cell_row hn2 2).trans rfl;have s3:=(cell_row hn2 3).trans rfl;have s4:=(cell_row hn2 4).trans rfl;have s5:=(cell_row hn2 5).trans rfl;have hsa:SAt (· < w.heap.size) W2 yl.after ysv ysm:=SAt.keep (P:=(· < w.heap.size)) hV.1 (fun b hb _=>hB2'.block b hb) (fun _ h _=>h);have hsm:ysm≤1000000000:=by have:=hV.1.1;have:=hV.2.2.2;simp only at *;omega
     obtain rfl:yam=ya.len:=by have:=hV.2.1.len;simp at this;omega
     have M3:Hid _:=isRight_any _ yl ysv ysm ysc yav ya.len yac W2 hsa hsm;have HOK:Hid (okL ((pre ++ [(⟨yd,yl,ya,ysv,ysm,ysc,yav,ya.len,yac⟩:Nd)]).map Nd.key)=nodeOk yl ya.len):=by
      show _=_;unfold okL at hL ⊢;rw[List.map_append,List.all_append,hL]
      simp[Nd.key]
     gi_wp2_with fail
     refine⟨trivial,?_⟩
     refine (CallsIn.inRound l (callsIn_wide.2 M3.out)).mono ?_;clear M3;rintro e w5 ⟨rfl,hb5⟩;have hz2:=hB2'.size;have r5:=(hb5.block _ (jD.1 hr2).1).trans hr2;have k5:Kr w.heap.size Wl.heap.size W2 w5:=Kr.of_below hb5 hz2;have b5:=hB2'.trans (hb5.mono hz2);have r3:=(cell_row r5 0).trans rfl;have rf3:=froz_row r5 0;cases hno:nodeOk yl ya.len with
     | true=>
      gi_wp2
      exact⟨k5,r5,by rw[HOK.out];exact hno,b5⟩
     | false=>
      gi_wp2
      exact⟨k5.trans (Kr.setCell _ _ (by omega) (by omega)),row_set r5 0 _,by rw[HOK.out];exact hno,b5.setCell (p:=⟨w.heap.size+1,0,none⟩) (by show w.heap.size≤w.heap.size+1;omega) _⟩
    case done=>
     rintro xs W hS ⟨hr,hL,hB⟩ hK;have r3:=(cell_row hr 0).trans rfl;have rf3:=froz_row hr 0;have HQ:Hid (codeS x t=0):=by
      show _=_;have:okL (fltn 1 t)=true:=by rw[←okL_perm hS];exact hL
      simp[codeS,rightS,hn,hbg,this]
      omega
     have hKs:(W.setCell ⟨w.heap.size+1,0,none⟩ (.int .i64 0)).heap[Wl.heap.size]? =some (.deferred (some [])):=(jW W ⟨w.heap.size+1,0,none⟩ _ _ (by show Wl.heap.size≠w.heap.size+1;omega)).trans hK;have hBs:Below w.heap.size w (W.setCell ⟨w.heap.size+1,0,none⟩ (.int .i64 0)):=hB.setCell (p:=⟨w.heap.size+1,0,none⟩) (by show w.heap.size≤w.heap.size+1;omega) _
     gi_wp2
     have hr':((W.setCell ⟨w.heap.size+1,0,none⟩ (.int .i64 0)).putObj Wl.heap.size (.deferred none)).heap[w.heap.size+1]? =some (.cells #[.int .i64 0] 29 (0,0)):=(jQ (by omega)).trans (row_set hr 0 _);refine⟨by simp,.inl ⟨_,_,rfl,run_takeDeferred hKs,?_⟩⟩
     exact⟨.int .i64 0,retE (p:=2) rfl (w.heap.size+1) _ rfl ((cell_row hr' 0).trans rfl),by rw[HQ.out],hBs.trans (below_putObj _ _ _ (by omega) (jD.1 hKs).1)⟩
    case stop=>
     rintro pre W ⟨rest,hP⟩ ⟨hr,hL,hB⟩ hK;have HQ:Hid (codeS x t=2):=by
      show _=_;have:okL (fltn 1 t)=false:=by
       rw[←okL_perm hP]
       unfold okL at hL ⊢;rw[List.all_append,hL];rfl
      simp[codeS,rightS,this]
     gi_wp2
     have hr':(W.putObj Wl.heap.size (.deferred none)).heap[w.heap.size+1]? =some (.cells #[.int .i64 2] 29 (0,0)):=(jQ (by omega)).trans hr;refine⟨by simp,.inl ⟨_,_,rfl,run_takeDeferred hK,?_⟩⟩
     exact⟨.int .i64 2,retE (p:=2) rfl (w.heap.size+1) _ rfl ((cell_row hr' 0).trans rfl),by rw[HQ.out],hB.trans (below_putObj _ _ _ (by omega) (jD.1 hK).1)⟩
end Go.Proofs.YtieoppabellafaaGreatDoor.Sx
namespace Go.Proofs.YtieoppabellafaaGreatDoor
open Go.RowKit
variable {P:Program}
def wideR (ro:Option Nat):Fence:= {Fence.wide with round:=ro}
def wpE (P:Program)(ro:Option Nat)(f:FuncId)(c:Code)(Q:Exit→Act→World→Prop)(a:Act)(w:World):Prop:=
 ∀(b:Frame) (k:List Item) (cs:List Frame),b.roundOf=ro→b.fn=f→
  ∃e a' w',Q e a' w'∧ArrivesIn (Machine.fenced P Fence.wide) P (lone (b.atR a (.code c :: k)) cs w) b k cs e a' w'
theorem wpE_of {ro:Option Nat}{f:FuncId}{n:Nat}{c:Code}{Q:Exit→Act→World→Prop}{a:Act}{w:World}(h:c.wpIn (wideR ro) n P Q a w):wpE P ro f c Q a w:=
 fun b k cs hro _=>h b k cs hro trivial (fun _ hd=>by cases hd)
theorem wpE_mono {ro:Option Nat}{f:FuncId}{c:Code}{Q Q':Exit→Act→World→Prop}{a:Act}{w:World}(h:wpE P ro f c Q a w)(hq:∀e a w,Q e a w→Q' e a w):wpE P ro f c Q' a w:=
 fun b k cs hro hf=>let ⟨e,a',w',q,r⟩:=h b k cs hro hf;⟨e,a',w',hq _ _ _ q,r⟩
theorem wpE_seq {ro:Option Nat}{f:FuncId}{x y:Code}{Q:Exit→Act→World→Prop}{a:Act}{w:World}(h:wpE P ro f x (Exit.then (wpE P ro f y Q) Q) a w):wpE P ro f (Code.seq x y) Q a w:=by
 intro b k cs hro hf;have h0:(lone (b.atR a (.code (.seq x y) :: k)) cs w).fenced P Fence.wide:=fenced_wide P _;obtain⟨e,a₁,w₁,hq,harr⟩:=h b (.code y :: k) cs hro hf
 cases e with
 | normal=>
  obtain⟨e₂,a₂,w₂,hq₂,harr₂⟩:=hq b k cs hro hf
  exact⟨e₂,a₂,w₂,hq₂,.of_steps (.head h0 stepR_seq harr) harr₂⟩
 | exit id=>exact⟨_,a₁,w₁,hq,.of_steps (.one h0 stepR_seq) (.pass (x:= .code y) rfl (fun _ _=> .inl (by simp)) harr)⟩
 | goto l=>exact⟨_,a₁,w₁,hq,.of_steps (.one h0 stepR_seq) (.pass (x:= .code y) rfl (fun _ _=> .inl (by simp)) harr)⟩
 | ret=>exact⟨_,a₁,w₁,hq,.of_steps (.one h0 stepR_seq) (.pass (x:= .code y) rfl (fun _ _=> .inl (by simp)) harr)⟩
 | panic ch=>exact⟨_,a₁,w₁,hq,.of_steps (.one h0 stepR_seq) (.pass (x:= .code y) rfl (fun _ _=> .inl (by simp)) harr)⟩
 | outgrown=>exact⟨_,a₁,w₁,hq,.of_steps (.one h0 stepR_seq) (.pass (x:= .code y) rfl (fun _ _=> .inl (by simp)) harr)⟩
theorem wpE_cond {ro:Option Nat}{f:FuncId}{c:Operand}{x y:Code}{Q:Exit→Act→World→Prop}{a:Act}{w:World}{t:Bool}(hc:a.eval c= .bool t)(h:wpE P ro f (if t then x else y) Q a w):wpE P ro f (Code.cond c x y) Q a w:=
 fun b k cs hro hf=>let ⟨e,a',w',q,r⟩:=h b k cs hro hf;⟨e,a',w',q,.of_steps (.one (fenced_wide P _) (stepR_cond hc)) r⟩
theorem wpE_block {ro:Option Nat}{f:FuncId}{id:Nat}{c:Code}{Q:Exit→Act→World→Prop}{a:Act}{w:World}(h:wpE P ro f c (Exit.inBlock id Q) a w):wpE P ro f (Code.block id c) Q a w:=by
 intro b k cs hro hf;have h0:(lone (b.atR a (.code (.block id c) :: k)) cs w).fenced P Fence.wide:=fenced_wide P _;obtain⟨e,a₁,w₁,hq,harr⟩:=h b (.inBlock id :: k) cs hro hf
 cases e with
 | normal=>exact⟨.normal,a₁,w₁,hq,.head h0 stepR_block (StepsIn.trans harr (.one (fenced_wide P _) stepR_inBlock))⟩
 | exit id'=>
  by_cases hid:id'=id
  ·simp only[Exit.inBlock,hid,if_true] at hq;exact⟨.normal,a₁,w₁,hq,.head h0 stepR_block (harr.1 k (by simp[exitTo,hid]))⟩
  ·simp only[Exit.inBlock,hid,if_false] at hq;have this:(id==id')=false:=by simp;exact fun h=>hid h.symm
   have hx:exitTo id' (.inBlock id :: k)=exitTo id' k:=by simp[exitTo,this]
   exact⟨.exit id',a₁,w₁,hq,fun k' hk=> .head h0 stepR_block (harr.1 k' (by rw[hx];exact hk)),
    fun hr' hk=>let ⟨k₁,h1,h2⟩:=harr.2 hr' (by rw[hx];exact hk);⟨k₁,h1,.head h0 stepR_block h2⟩⟩
 | goto l=>
  have hx:gotoIn l (.inBlock id :: k)=gotoIn l k:=by simp[gotoIn]
  exact⟨_,a₁,w₁,hq,fun k' hk=> .head h0 stepR_block (harr.1 k' (by rw[hx];exact hk)),
   fun hr' hk=>let ⟨k₁,h1,h2⟩:=harr.2 hr' (by rw[hx];exact hk);⟨k₁,h1,.head h0 stepR_block h2⟩⟩
 | ret=>exact⟨_,a₁,w₁,hq,.of_steps (.one h0 stepR_block) harr⟩
 | panic ch=>exact⟨_,a₁,w₁,hq,.of_steps (.one h0 stepR_block) harr⟩
 | outgrown=>exact⟨_,a₁,w₁,hq,.of_steps (.one h0 stepR_block) harr⟩
theorem wpE_loop {ro:Option Nat}{f:FuncId}{c:Code}{Q:Exit→Act→World→Prop}{a:Act}{w:World}(I:Nat→Act→World→Prop)(m:Nat)(h₀:I m a w)
  (round:∀m a w,I m a w→wpE P ro f c (Exit.then (fun a' w'=>∃m',m' < m∧I m' a' w') Q) a w):wpE P ro f (Code.loop c) Q a w:=by
 intro b k cs hro hf;have key:∀j a w,I j a w→
   ∃e a' w',Q e a' w'∧ArrivesIn (Machine.fenced P Fence.wide) P (lone (b.atR a (.code c :: .inLoop c :: k)) cs w) b k cs e a' w':=by
  intro j
  induction j using Nat.strongRecOn with
  | _ j ih=>
   intro a w hI;obtain⟨e,a₁,w₁,hq,harr⟩:=round j a w hI b (.inLoop c :: k) cs hro hf
   cases e with
   | normal=>
    obtain⟨j',hlt,hI₁⟩:=hq
    obtain⟨e₂,a₂,w₂,hq₂,harr₂⟩:=ih j' hlt a₁ w₁ hI₁
    exact⟨e₂,a₂,w₂,hq₂,.of_steps (StepsIn.trans harr (.one (fenced_wide P _) stepR_inLoop)) harr₂⟩
   | exit id=>exact⟨_,a₁,w₁,hq,.pass (x:= .inLoop c) rfl (fun _ _=> .inl (by simp)) harr⟩
   | goto l=>exact⟨_,a₁,w₁,hq,.pass (x:= .inLoop c) rfl (fun _ _=> .inl (by simp)) harr⟩
   | ret=>exact⟨_,a₁,w₁,hq,.pass (x:= .inLoop c) rfl (fun _ _=> .inl (by simp)) harr⟩
   | panic ch=>exact⟨_,a₁,w₁,hq,.pass (x:= .inLoop c) rfl (fun _ _=> .inl (by simp)) harr⟩
   | outgrown=>exact⟨_,a₁,w₁,hq,.pass (x:= .inLoop c) rfl (fun _ _=> .inl (by simp)) harr⟩
 obtain⟨e,a',w',hq,harr⟩:=key m a w h₀
 exact⟨e,a',w',hq,.of_steps (.one (fenced_wide P _) stepR_loop) harr⟩
theorem callsE {f:FuncId}{fn:Func}{c:Code}{args:Array Value}{w:World}{R:Ending→World→Prop}(hf:P.funcs[f]? =some fn)(hb:fn.body=some c)
  (h:wpE P none f c (bodyPostM Fence.wide 0 P fn R) {tmps:=args ++Array.replicate (fn.ntmps - args.size) undef,defers:=[]} w):CallsIn Fence.wide 0 P f args w R:=by
 refine⟨trivial,fun cs hr=>?_⟩
 let b:Frame:= {(default:Frame) with fn:=f,kind:= .normal,roundOf:=none}
 have henter:Frame.enter P f args .normal=b.atR {tmps:=args ++Array.replicate (fn.ntmps - args.size) undef,defers:=[]} [.code c]:=by
  simp[Frame.enter,Frame.atR,hf,hb,b]
 have hF:Fence.wide.fn f:=trivial;obtain⟨e,a',w',hq,harr⟩:=h b [] cs rfl rfl
 rw[←henter] at harr
 cases e with
 | normal=>
  obtain⟨e',w'',fr',hR,hs,hfn,hl⟩:=leaves_stepsInM a'.defers .returning w' {b.atR a' [] with mode:= .returning} cs rfl rfl rfl hf rfl hF hr hq
  exact⟨e',w'',fr',hR,ComesIn.of_steps (StepsIn.trans harr (.one (fenced_wide P _) (stepR_end rfl))) hs,hfn,hl⟩
 | ret=>
  obtain⟨todo,hs₀⟩:=harr.1 rfl
  obtain⟨e',w'',fr',hR,hs,hfn,hl⟩:=leaves_stepsInM a'.defers .returning w' {b.atR a' todo with mode:= .returning} cs rfl rfl rfl hf rfl hF hr hq
  exact⟨e',w'',fr',hR,ComesIn.of_steps hs₀ hs,hfn,hl⟩
 | panic chain=>
  obtain⟨todo,hs₀⟩:=harr
  obtain⟨e',w'',fr',hR,hs,hfn,hl⟩:=leaves_stepsInM a'.defers (.panicking chain) w' {b.atR a' todo with mode:= .panicking chain} cs rfl rfl rfl hf rfl hF hr hq
  exact⟨e',w'',fr',hR,ComesIn.of_steps hs₀ hs,hfn,hl⟩
 | exit id=>exact hq.elim
 | goto l=>exact hq.elim
 | outgrown=>exact⟨.outgrown,w',b,hq,harr.resolve_left (by simp[b]),rfl,trivial⟩
def roundP (P:Program)(l:Nat)(R:Ending→World→Prop):Exit→Act→World→Prop
 | .normal,_,w=>∃v w',(Instr.endRound l none).run P w= .ok v w'∧R (.returned v) w'
 | .panic ch,a,w=>a.defers=[]∧R (.panicked ch) w
 | _,_,_=>False
theorem roundE {l:Nat}{f:FuncId}{fn:Func}(hf:P.funcs[f]? =some fn){n:Nat}{tmps:Array Value}{assign body:Code}{w:World}{R:Ending→World→Prop}
  (h:wpE P (some l) f assign (Exit.then (fun a₁ w₁=>∃w₂,(Instr.beginRound l).run P w₁= .ok () w₂∧wpE P (some l) f body (roundP P l R) a₁ w₂) (fun _ _ _=>False)) {tmps:=tmps,defers:=[]} w) :
  RoundIn Fence.wide n P l f tmps assign body w R:=by
 refine⟨trivial,fun c cs _=>?_⟩
 let b:Frame:= {(default:Frame) with fn:=f,kind:= .normal,roundOf:=some l}
 have hb0:Frame.round l f tmps assign body .normal=b.atR {tmps:=tmps,defers:=[]} [.code assign,.beginRound,.code body]:=by
  simp[Frame.round,Frame.atR,b]
 obtain⟨e,a₁,w₁,hq,harr⟩:=h b [.beginRound,.code body] (c :: cs) rfl rfl
 rw[←hb0] at harr
 cases e with
 | normal=>
  obtain⟨w₂,hbr,hbody⟩:=hq
  have s1:StepsIn (Machine.fenced P Fence.wide) P (lone (b.atR a₁ [.beginRound,.code body]) (c :: cs) w₁) (lone (b.atR a₁ [.code body]) (c :: cs) w₂):=
   .one (fenced_wide P _) (stepR_beginRound rfl hbr)
  obtain⟨e₂,a₂,w₃,hq₂,harr₂⟩:=hbody b [] (c :: cs) rfl rfl
  cases e₂ with
  | normal=>
   obtain⟨v,w₄,hend,hR⟩:=hq₂
   exact⟨.returned v,w₄,hR,(StepsIn.trans harr s1).trans (StepsIn.trans harr₂ (.one (fenced_wide P _) (stepR_round_end rfl rfl hend)))⟩
  | panic chain=>
   obtain⟨hd,hR⟩:=hq₂
   obtain⟨todo,hs⟩:=harr₂
   have hl:({b.atR a₂ todo with mode:= .panicking chain} :Frame).leaving P w₃ (.panicked chain):=⟨rfl,hd,fn,hf⟩;exact⟨.panicked chain,w₃,hR,(StepsIn.trans harr s1).trans (StepsIn.trans hs (.one (fenced_wide P _) (step_leave_panicked hl)))⟩
  | ret=>exact hq₂.elim
  | exit id=>exact hq₂.elim
  | goto t=>exact hq₂.elim
  | outgrown=>exact hq₂.elim
 | exit id=>exact hq.elim
 | goto t=>exact hq.elim
 | ret=>exact hq.elim
 | panic chain=>exact hq.elim
 | outgrown=>exact hq.elim
theorem wpE_rangeFunc {f:FuncId}{g:Operand}{ps:Array Tmp}{assign body:Code}{Q:Exit→Act→World→Prop}{a:Act}{w:World}{gf:Nat}{lb:Array Value}(hg:a.eval g= .func (.func gf) #[] lb)(eg:∀args w,(callFunc gf args).run P w= .ok (.enter gf args) w)
  (h:CallsIn Fence.wide 0 P gf (#[.func (.yield (w.heap.size+1)) #[] #[]] ++lb)
   ((w.alloc (.deferred (some []))).alloc (.loop {state:= .ready,pending:=none,fn:=f,tmps:=a.tmps,params:=ps,assign,body,defers:=w.heap.size}))
   fun e w3=>(∃v w4,e= .returned v∧(Instr.endLoop (w.heap.size+1)).run P w3= .ok none w4∧Q .normal {a with defers:= {target:= .collected w.heap.size,args:= #[]} :: a.defers} w4)∨
    (∃ch,e= .panicked ch∧Q (.panic ch) {a with defers:= {target:= .collected w.heap.size,args:= #[]} :: a.defers} w3)) :
  wpE P none f (Code.rangeFunc g ps assign body) Q a w:=by
 intro b k cs hro hf;subst hf;have he:=run_enterLoop_outer (P:=P) (w:=w) b.fn a.tmps ps assign body;rw[←hro] at he
 obtain⟨W1,hW1⟩:∃W1,(w.alloc (.deferred (some []))).alloc (.loop {state:= .ready,pending:=none,fn:=b.fn,tmps:=a.tmps,params:=ps,assign,body,defers:=w.heap.size})=W1:=⟨_,rfl⟩
 rw[hW1] at he h
 have hres:(resolve a.eval (rangeCall g (w.heap.size+1)) 0).run P W1= .ok {target:= .fn (.func gf) lb,args:= #[.func (.yield (w.heap.size+1)) #[] #[]]} W1:=by
  simp only[resolve,hg];simp[go_sem]
 have hinv:(invoke (.fn (.func gf) lb) #[.func (.yield (w.heap.size+1)) #[] #[]]).run P W1= .ok (.enter gf (#[.func (.yield (w.heap.size+1)) #[] #[]] ++lb)) W1:=by
  simp[invoke,go_sem,eg]
 have henter:=stepR_rangeFunc (P:=P) (b:=b) (a:=a) (k:=k) (cs:=cs) (w:=w) he hres hinv;obtain⟨e,w₃,fr,hR,hsteps,hfn,hleave⟩:=h.2 (b.atR {a with defers:=[{target:= .collected w.heap.size,args:= #[]}] ++a.defers} (.inRangeFunc (w.heap.size+1) :: k) :: cs) (fun _ hd=>by cases hd)
 rcases hR with ⟨v,w₄,rfl,hend,hq⟩ | ⟨ch,rfl,hq⟩
 ·have sback:StepsIn (Machine.fenced P Fence.wide) P (lone (b.atR a (.code (.rangeFunc g ps assign body) :: k)) cs w) (lone (b.atR {a with defers:=[{target:= .collected w.heap.size,args:= #[]}] ++a.defers} k) cs w₄):=by
   refine .head (fenced_wide P _) henter (StepsIn.trans hsteps (.head (fenced_wide P _) ?_ (.one (fenced_wide P _) (stepR_endRangeFunc hend))));rw[←finish_atR_inRangeFunc (w.heap.size+1) v]
   exact step_leave_returned hleave
  exact⟨.normal,_,w₄,hq,sback⟩
 ·refine⟨.panic ch,_,w₃,hq,.inRangeFunc (w.heap.size+1) :: k,.head (fenced_wide P _) henter (StepsIn.trans hsteps (.one (fenced_wide P _) ?_))⟩
  rw[←Frame.raise_atR]
  exact step_leave_panicked hleave
end Go.Proofs.YtieoppabellafaaGreatDoor
namespace Go.Proofs.YtieoppabellafaaGreatDoor
open Go.RowKit
variable {P:Program}
structure Mv (T:Nat→Prop)(A:World)(T':Nat→Prop)(B:World):Prop where
 os:B.os=A.os
 tape:B.tape=A.tape
 output:B.output=A.output
 size:A.heap.size≤B.heap.size
 same:∀k,k < A.heap.size→¬T k→B.heap[k]? =A.heap[k]?
 old:∀k,k < A.heap.size→(T' k↔T k)
 up:(∀k,T k→k < A.heap.size)→∀k,T' k→k < B.heap.size
structure Rv (n0:Nat)(T:Nat→Prop)(A B:World):Prop where
 os:B.os=A.os
 tape:B.tape=A.tape
 output:B.output=A.output
 size:A.heap.size≤B.heap.size
 low:∀k,k < n0→B.heap[k]? =A.heap[k]?
 keep:∀k,T k→k < A.heap.size→B.heap[k]? =A.heap[k]?
def KD (T:Nat→Prop)(A B:World):Prop:=∀b ds,T b→A.heap[b]? =some (.deferred ds)→B.heap[b]? =some (.deferred ds)
theorem Mv.trans {T T' T'':Nat→Prop}{A B C:World}(h:Mv T A T' B)(k:Mv T' B T'' C):Mv T A T'' C:=
 ⟨k.os.trans h.os,k.tape.trans h.tape,k.output.trans h.output,zH h.size k.size,
  fun i hi hn=>(k.same i (jR hi h.size) (fun ht=>hn ((h.old i hi).1 ht))).trans (h.same i hi hn),
  fun i hi=>(k.old i (jR hi h.size)).trans (h.old i hi),fun hu=>k.up (h.up hu)⟩
theorem Mv.alloc (T:Nat→Prop)(A:World)(o:Obj):Mv T A (fun k=>T k∨k=A.heap.size) (A.alloc o):=
 ⟨rfl,rfl,rfl,by simp,fun i hi _=>zK _ _ _ hi,fun i hi=>⟨fun h=>h.resolve_right (by omega),.inl⟩,fun hu k hk=>by rcases hk with hk | rfl <;> simp;have:=hu k hk;omega⟩
theorem Mv.alloc_other (T:Nat→Prop)(A:World)(o:Obj):Mv T A T (A.alloc o):=
 ⟨rfl,rfl,rfl,by simp,fun i hi _=>zK _ _ _ hi,fun i hi=>Iff.rfl,fun hu k hk=>by have:=hu k hk;simp;omega⟩
theorem Mv.setCell {T:Nat→Prop}(A:World){b i:Nat}(v:Value)(h:T b):Mv T A T (A.setCell ⟨b,i,none⟩ v):=
 ⟨rfl,rfl,rfl,by simp,fun k _ hn=>jW A ⟨b,i,none⟩ v k (fun e=>hn (by rw[e];exact h)),fun _ _=>Iff.rfl,fun hu k hk=>by simpa using hu k hk⟩
theorem Mv.putObj {T:Nat→Prop}(A:World){d:Nat}(o:Obj)(h:T d):Mv T A T (A.putObj d o):=
 ⟨rfl,rfl,rfl,by simp,fun k _ hn=>jQ (fun e=>hn (by rw[e];exact h)),fun _ _=>Iff.rfl,fun hu k hk=>by simpa using hu k hk⟩
theorem Mv.or {T T':Nat→Prop}{A B:World}(h:Mv T A T' B)(L:Nat→Prop):Mv (fun b=>T b∨L b) A (fun b=>T' b∨L b) B:=
 ⟨h.os,h.tape,h.output,h.size,fun k hk hn=>h.same k hk (fun ht=>hn (.inl ht)),fun k hk=>by rw[h.old k hk],fun hu k hk=>by
  rcases hk with hk | hk
  ·exact h.up (fun j hj=>hu j (.inl hj)) k hk
  ·exact jR (hu k (.inr hk)) h.size⟩
theorem Mv.below {T T':Nat→Prop}{A B:World}(h:Mv T A T' B){N:Nat}{w:World}(hb:Below N w A)(hN:∀b,b < N→¬T b)(hs:N≤A.heap.size):Below N w B:=
 ⟨h.os.trans hb.os,h.tape.trans hb.tape,h.output.trans hb.output,zH hb.size h.size,fun k hk=>(h.same k (by omega) (hN k hk)).trans (hb.block k hk)⟩
theorem Rv.trans {n0:Nat}{T:Nat→Prop}{A B C:World}(h:Rv n0 T A B)(k:Rv n0 T B C):Rv n0 T A C:=
 ⟨k.os.trans h.os,k.tape.trans h.tape,k.output.trans h.output,zH h.size k.size,fun i hi=>(k.low i hi).trans (h.low i hi),fun i ht hi=>(k.keep i ht (jR hi h.size)).trans (h.keep i ht hi)⟩
theorem Rv.mono {n0:Nat}{T T':Nat→Prop}{A B:World}(h:Rv n0 T A B)(ht:∀b,T' b→T b):Rv n0 T' A B:=⟨h.os,h.tape,h.output,h.size,h.low,fun k hk hl=>h.keep k (ht k hk) hl⟩
theorem Rv.of_below {n0:Nat}{T:Nat→Prop}{A B:World}(h:Below A.heap.size A B)(hn:n0≤A.heap.size):Rv n0 T A B:=⟨h.os,h.tape,h.output,h.size,fun k hk=>h.block k (by omega),fun k _ hk=>h.block k hk⟩
theorem Rv.alloc {n0:Nat}{T:Nat→Prop}(A:World)(o:Obj)(hn:n0≤A.heap.size):Rv n0 T A (A.alloc o):=⟨rfl,rfl,rfl,by simp,fun k hk=>zK _ _ _ (by omega),fun k _ hk=>zK _ _ _ hk⟩
theorem Rv.setCell {n0:Nat}{T:Nat→Prop}(A:World){b i:Nat}(v:Value)(hn:n0≤b)(ht:¬T b):Rv n0 T A (A.setCell ⟨b,i,none⟩ v):=
 ⟨rfl,rfl,rfl,by simp,fun k hk=>jW A ⟨b,i,none⟩ v k (by show k≠b;omega),fun k hk _=>jW A ⟨b,i,none⟩ v k (fun e=>ht (by rw[←show k=b from e];exact hk))⟩
theorem Rv.kd {n0:Nat}{T:Nat→Prop}{A B:World}(h:Rv n0 T A B):KD T A B:=fun b _ ht hb=>(h.keep b ht (jD.1 hb).1).trans hb
def Itr {α:Type}(P:Program)(gf:Nat)(lb:Array Value)(encs:α→Array Value)(xs:List α)(n0:Nat)(T:Nat→Prop)(w:World):Prop:=
 ∀(l:Nat) (J:Nat→World→(Nat→Prop)→Prop) (Jp:List PanicEntry→World→(Nat→Prop)→Prop) (W:World),Below w.heap.size w W→
  (∀k A TA B TB,J k A TA→Mv TA A TB B→J k B TB)→
  (∀ch A TA d o,Jp ch A TA→TA d→Jp ch (A.putObj d o) TA)→
  (∀k x W1 T1,xs[k]? =some x→J k W1 T1→∀m,YieldAt Fence.wide m P l (encs x) W1 fun e W2=>(e= .returned (.bool true)∧J (k+1) W2 T1∧Rv n0 T1 W1 W2)∨(∃ch,e= .panicked ch∧Jp ch W2 T1∧KD T1 W1 W2))→
  J 0 W T→
  CallsIn Fence.wide 0 P gf (#[.func (.yield l) #[] #[]] ++lb) W fun e W2=>(∃v T2,e= .returned v∧J xs.length W2 T2∧(∀b,b < W.heap.size→(T2 b↔T b)))∨(∃ch T2,e= .panicked ch∧Jp ch W2 T2∧(∀b,b < W.heap.size→(T2 b↔T b)))
def bodyE (n0:Nat)(I:Nat→World→(Nat→Prop)→Prop)(Ip:List PanicEntry→World→(Nat→Prop)→Prop)(k:Nat)(TB:Nat→Prop)(W:World):Exit→Act→World→Prop
 | .normal,_,W'=>I k W' TB∧Rv n0 TB W W'
 | .panic ch,a,W'=>a.defers=[]∧Ip ch W' TB∧KD TB W W'
 | _,_,_=>False
theorem range_law {α:Type}{f:FuncId}{fn:Func}(hf:P.funcs[f]? =some fn){g:Operand}{ps:Array Tmp}{assign body:Code}{Q:Exit→Act→World→Prop}{a:Act}{w:World}{gf:Nat}{lb:Array Value}
  (hg:a.eval g= .func (.func gf) #[] lb) (eg:∀args w,(callFunc gf args).run P w= .ok (.enter gf args) w)
  {encs:α→Array Value} {xs:List α} {n0:Nat} {T:Nat→Prop} (hseq:Itr P gf lb encs xs n0 T w) (hT:∀b,T b→b < w.heap.size) (hn0:n0≤w.heap.size) (hps:∀x,(encs x).size=ps.size)
  (I:Nat→World→(Nat→Prop)→Prop) (Ip:List PanicEntry→World→(Nat→Prop)→Prop)
  (hI:∀k A TA B TB,I k A TA→Mv TA A TB B→I k B TB) (hIp:∀ch A TA d o,Ip ch A TA→TA d→Ip ch (A.putObj d o) TA) (h0:I 0 w T)
  (hround:∀(l k:Nat) (x:α) (W:World) (TB:Nat→Prop),xs[k]? =some x→I k W TB→TB w.heap.size→TB (w.heap.size+1)→w.heap.size+1 < W.heap.size→
   wpE P (some l) f assign (Exit.then (fun a₁ W1=>I k W1 TB∧Rv n0 TB W W1∧∀W2,I k W2 TB→Mv TB W1 TB W2→wpE P (some l) f body (bodyE n0 I Ip (k+1) TB W2) a₁ W2) (fun _ _ _=>False))
    {tmps:=(ps.zip (encs x)).foldl (fun t (p,v)=>t.setIfInBounds p v) a.tmps,defers:=[]} W)
  (hdone:∀W T2,I xs.length W T2→(∀b,b < w.heap.size→(T2 b↔T b))→T2 w.heap.size→W.heap[w.heap.size]? =some (.deferred (some []))→Q .normal {a with defers:= {target:= .collected w.heap.size,args:= #[]} :: a.defers} W)
  (hpan:∀ch W T2,Ip ch W T2→(∀b,b < w.heap.size→(T2 b↔T b))→T2 w.heap.size→W.heap[w.heap.size]? =some (.deferred (some []))→Q (.panic ch) {a with defers:= {target:= .collected w.heap.size,args:= #[]} :: a.defers} W) :
  wpE P none f (Code.rangeFunc g ps assign body) Q a w:=by
 refine wpE_rangeFunc hg eg ?_;obtain⟨s,hs⟩:∃s,w.heap.size=s:=⟨_,rfl⟩
 obtain⟨rec,hrec⟩:∃rec:LoopState→Loop,rec=fun st=> {state:=st,pending:=none,fn:=f,tmps:=a.tmps,params:=ps,assign,body,defers:=w.heap.size} :=⟨_,rfl⟩
 have hW1:(w.alloc (.deferred (some []))).alloc (.loop {state:= .ready,pending:=none,fn:=f,tmps:=a.tmps,params:=ps,assign,body,defers:=w.heap.size})=(w.alloc (.deferred (some []))).alloc (.loop (rec .ready)):=by rw[hrec]
 rw[hW1]
 clear hW1;obtain⟨W1,hW1⟩:∃W1,(w.alloc (.deferred (some []))).alloc (.loop (rec .ready))=W1:=⟨_,rfl⟩
 have hsz:W1.heap.size=s+2:=by rw[←hW1,←hs];simp
 have hL1:W1.heap[s+1]? =some (.loop (rec .ready)):=by
  rw[←hW1,←hs];have:=World.alloc_heap_new (w.alloc (.deferred (some []))) (.loop (rec .ready));rwa [jV] at this
 have hK1:W1.heap[s]? =some (.deferred (some [])):=by
  rw[←hW1,←hs];exact (zK _ _ _ (by simp)).trans (World.alloc_heap_new w _)
 have hb1:Below w.heap.size w W1:=by
  rw[←hW1];exact ((Below.refl _ w).alloc (jG _) _).alloc (by simp) _
 rw[hW1,hs]
 rw[hs] at hround hdone hpan hn0
 have hTs:¬T s:=fun h=>by have:=hT _ h;omega
 have hTs1:¬T (s+1):=fun h=>by have:=hT _ h;omega
 have hm1:Mv T w (fun b=>T b∨(b=s∨b=s+1)) W1:=by
  refine⟨hb1.os,hb1.tape,hb1.output,hb1.size,fun k hk _=>hb1.block k hk,fun k hk=>⟨fun h=>h.resolve_right (by omega),.inl⟩,fun hu k hk=>?_⟩
  rcases hk with hk | hk
  ·have:=hu k hk;omega
  ·omega
 refine (hseq (s+1)
  (fun k A TA=>I k A (fun b=>TA b∨(b=s∨b=s+1))∧¬TA s∧¬TA (s+1)∧A.heap[s+1]? =some (.loop (rec .ready))∧A.heap[s]? =some (.deferred (some [])))
  (fun ch A TA=>Ip ch A (fun b=>TA b∨(b=s∨b=s+1))∧¬TA s∧A.heap[s]? =some (.deferred (some [])))
  W1 hb1 ?_ ?_ ?_ ⟨hI _ _ _ _ _ h0 hm1,hTs,hTs1,hL1,hK1⟩).mono ?_
 ·rintro k A TA B TB ⟨h1,h2,h3,h4,h5⟩ hm;have l4:=(jD.1 h4).1;have l5:=(jD.1 h5).1;exact⟨hI _ _ _ _ _ h1 (hm.or _),fun h=>h2 ((hm.old s l5).1 h),fun h=>h3 ((hm.old _ l4).1 h),(hm.same _ l4 h3).trans h4,(hm.same _ l5 h2).trans h5⟩
 ·rintro ch A TA d o ⟨h1,h2,h3⟩ hd;exact⟨hIp _ _ _ _ _ h1 (.inl hd),h2,(jQ (fun e=>h2 (by rw[e];exact hd))).trans h3⟩
 ·rintro k x W T1 hx ⟨hi,hns,hns1,hl,hk⟩ m;have hlt:s+1 < W.heap.size:=(jD.1 hl).1;have hy:=run_yield (P:=P) (args:=encs x) hl (by rw[hrec];exact hps x);rw[hrec] at hy
  refine⟨f,_,assign,body,hy,roundE hf (wpE_mono (hround (s+1) k x W _ hx hi (.inr (.inl rfl)) (.inr (.inr rfl)) hlt) ?_)⟩
  rintro e a1 Wa hp;cases e with
  | normal=>
   obtain⟨hia,hra,hbd⟩:=hp
   have hla:Wa.heap[s+1]? =some (.loop (rec .ready)):=(hra.keep _ (.inr (.inr rfl)) hlt).trans hl;have hda:Wa.heap[s]? =some (.deferred (some [])):=(hra.keep _ (.inr (.inl rfl)) (by omega)).trans hk;have hlta:s+1 < Wa.heap.size:=(jD.1 hla).1;refine⟨_,run_beginRound hla (by rw[hrec]),?_⟩
   have hbusy:(Wa.putObj (s+1) (.loop {rec .ready with state:= .busy})).heap[s+1]? =some (.loop {rec .ready with state:= .busy}):=World.putObj_heap_same hlta;have hd2:(Wa.putObj (s+1) (.loop {rec .ready with state:= .busy})).heap[s]? =some (.deferred (some [])):=(jQ (by omega)).trans hda;have hmb:Mv (fun b=>T1 b∨(b=s∨b=s+1)) Wa (fun b=>T1 b∨(b=s∨b=s+1)) (Wa.putObj (s+1) (.loop {rec .ready with state:= .busy})):=Mv.putObj _ _ (.inr (.inr rfl));refine wpE_mono (hbd _ (hI _ _ _ _ _ hia hmb) hmb) ?_;rintro e a3 W3 hp;cases e with
   | normal=>
    obtain⟨hi3,hr3⟩:=hp
    have hl3:=(hr3.keep (s+1) (.inr (.inr rfl)) (by simpa using hlta)).trans hbusy;have hd3:=(hr3.keep s (.inr (.inl rfl)) (by simp;omega)).trans hd2;have hlt3:=(jD.1 hl3).1;have hend:=run_endRound (P:=P) none hl3;have hrr:({{rec .ready with state:= .busy} with state:=if (none:Option Code).isNone then .ready else .done,pending:=none} :Loop)=rec .ready:=by rw[hrec];rfl
    rw[hrr] at hend
    refine⟨_,_,hend,.inl ⟨rfl,⟨hI _ _ _ _ _ hi3 (Mv.putObj _ _ (.inr (.inr rfl))),hns,hns1,World.putObj_heap_same hlt3,(jQ (by omega)).trans hd3⟩,?_⟩⟩
    have hsz3:W.heap.size≤W3.heap.size:=zH hra.size (by have:=hr3.size;simpa using this);refine⟨hr3.os.trans hra.os,hr3.tape.trans hra.tape,hr3.output.trans hra.output,by simpa using hsz3,fun j hj=>?_,fun j hj hjl=>?_⟩
    ·have hjs:j≠s+1:=by omega
     rw[jQ hjs,hr3.low j hj,jQ hjs]
     exact hra.low j hj
    ·have hjs:j≠s+1:=fun e=>hns1 (e ▸ hj)
     have hja:j < Wa.heap.size:=jR hjl hra.size;rw[jQ hjs,hr3.keep j (.inl hj) (by simpa using hja),jQ hjs]
     exact hra.keep j (.inl hj) hjl
   | panic ch=>
    obtain⟨hdf,hip,hkd⟩:=hp
    refine⟨hdf,.inr ⟨ch,rfl,⟨hip,hns,hkd s _ (.inr (.inl rfl)) hd2⟩,?_⟩⟩
    intro b ds hb hbd2;have hbs:b≠s+1:=fun e=>hns1 (e ▸ hb)
    refine hkd b ds (.inl hb) ?_;rw[jQ hbs,hra.keep b (.inl hb) (jD.1 hbd2).1]
    exact hbd2
   | ret=>exact hp.elim
   | exit id=>exact hp.elim
   | goto t=>exact hp.elim
   | outgrown=>exact hp.elim
  | ret=>exact hp.elim
  | exit id=>exact hp.elim
  | goto t=>exact hp.elim
  | panic ch=>exact hp.elim
  | outgrown=>exact hp.elim
 ·rintro e W2 (⟨v,T2,rfl,⟨hi,hns,hns1,hl,hk⟩,hold⟩ | ⟨ch,T2,rfl,⟨hi,hns,hk⟩,hold⟩)
  ·have hel:=run_endLoop (P:=P) hl (by rw[hrec];simp);rw[show (rec .ready).pending=none by rw[hrec]] at hel
   refine .inl ⟨v,_,rfl,hel,?_⟩
   ·refine hdone _ (fun b=>T2 b∨(b=s∨b=s+1)) (hI _ _ _ _ _ hi (Mv.putObj _ _ (.inr (.inr rfl)))) (fun b hb=>?_) (.inr (.inl rfl)) ((jQ (by omega)).trans hk);have:=hold b (by omega);exact⟨fun h=>this.1 (h.resolve_right (by omega)),fun h=> .inl (this.2 h)⟩
  ·refine .inr ⟨ch,rfl,hpan ch _ (fun b=>T2 b∨(b=s∨b=s+1)) hi (fun b hb=>?_) (.inr (.inl rfl)) hk⟩;have:=hold b (by omega);exact⟨fun h=>this.1 (h.resolve_right (by omega)),fun h=> .inl (this.2 h)⟩
end Go.Proofs.YtieoppabellafaaGreatDoor
namespace Go.Proofs.YtieoppabellafaaGreatDoor
open Go.RowKit Sx
def cntA:Tr→Nat
 | .e=>0
 | .b x r=>cntA x+cntA r
 | .n _ t r=>1+cntA t+cntA r
def szA:Tr→Nat
 | .e=>0
 | .b x r=>1+szA x+szA r
 | .n _ t r=>1+szA t+szA r
structure Pd where
 num:Nat
 lab:Lab
 alts:Tr
 sv:Option Addr
 sm:Nat
 sc:Nat
 av:Option Addr
 am:Nat
 ac:Nat
 inn:Nat
 alt:Nat
def Pd.enc (x:Pd):Array Value:= #[.int .i64 (x.num:Int),.agg #[.string ⟨x.lab.name.toArray⟩,.string ⟨x.lab.undo.toArray⟩,.slice x.sv x.sm x.sc,.bool x.lab.sub,.bool x.lab.vital,.slice x.av x.am x.ac,.int .i64 (x.inn:Int),.int .i64 (x.alt:Int)]]
def XAt (P:Nat→Prop)(w:World):Bool→Tr→Option Addr→Nat→Nat→Nat→Nat→Nat→List Pd→Prop
 | _,.e,_,i,n,_,_,_,xs=>i=n∧xs=[]
 | k,.b x r,a,i,n,inn,alt,last,xs=>k=true∧i < n∧∃ys zs,xs=ys ++zs∧(∃b off v m c,a=some ⟨b,off,none⟩∧P b∧w.cell? ⟨b,off+i,none⟩=some (.slice v m c)∧XAt P w false x v 0 m inn alt last ys)∧XAt P w true r a (i+1) n inn (alt+1) (last+cntA x) zs
 | k,.n l t r,a,i,n,inn,alt,last,xs=>k=false∧i < n∧∃sv sm sc av am ac ys zs,xs=⟨last+1,l,t,sv,sm,sc,av,am,ac,inn,alt⟩ :: (ys ++zs)∧
   (∃b off,a=some ⟨b,off,none⟩∧P b∧w.cell? ⟨b,off+i * 6,none⟩=some (Value.string ⟨l.name.toArray⟩)∧w.cell? ⟨b,off+i * 6+1,none⟩=some (Value.string ⟨l.undo.toArray⟩)∧
   w.cell? ⟨b,off+i * 6+2,none⟩=some (.slice sv sm sc)∧w.cell? ⟨b,off+i * 6+3,none⟩=some (.bool l.sub)∧w.cell? ⟨b,off+i * 6+4,none⟩=some (.bool l.vital)∧w.cell? ⟨b,off+i * 6+5,none⟩=some (.slice av am ac))∧
   SAt P w l.after sv sm∧TAt P w true t av 0 am∧XAt P w true t av 0 am (last+1) 0 (last+1) ys∧XAt P w false r a (i+1) n inn alt (last+1+cntA t) zs
theorem TAt.xat {P:Nat→Prop}{w:World}(t:Tr):∀(k:Bool) (a:Option Addr) (i n inn alt last:Nat),TAt P w k t a i n→∃xs,XAt P w k t a i n inn alt last xs:=by
 induction t with
 | e=>intro k a i n inn alt last h;exact⟨[],h,rfl⟩
 | b x r ih1 ih2=>
  rintro k a i n inn alt last ⟨h0,h1,⟨b,off,v,m,c,ha,hp,hc,hx⟩,hr⟩;obtain⟨ys,hy⟩:=ih1 _ _ _ _ inn alt last hx
  obtain⟨zs,hz⟩:=ih2 _ _ _ _ inn (alt+1) (last+cntA x) hr
  exact⟨ys ++zs,h0,h1,ys,zs,rfl,⟨b,off,v,m,c,ha,hp,hc,hy⟩,hz⟩
 | n l t r ih1 ih2=>
  rintro k a i n inn alt last ⟨h0,h1,⟨b,off,sv,sm,sc,av,am,ac,ha,hp,c0,c1,c2,c3,c4,c5,hs,ht⟩,hr⟩;obtain⟨ys,hy⟩:=ih1 _ _ _ _ (last+1) 0 (last+1) ht
  obtain⟨zs,hz⟩:=ih2 _ _ _ _ inn alt (last+1+cntA t) hr
  exact⟨_,h0,h1,sv,sm,sc,av,am,ac,ys,zs,rfl,⟨b,off,ha,hp,c0,c1,c2,c3,c4,c5⟩,hs,ht,hy,hz⟩
theorem XAt.count {P:Nat→Prop}{w:World}(t:Tr):∀(k:Bool) (a:Option Addr) (i n inn alt last:Nat) (xs:List Pd),XAt P w k t a i n inn alt last xs→xs.length=cntA t∧n=i+t.len∧∀(j:Nat) (x:Pd),xs[j]? =some x→x.num=last+1+j:=by
 induction t with
 | e=>rintro k a i n inn alt last xs ⟨h,rfl⟩;exact⟨rfl,by simp[Tr.len];omega,by simp⟩
 | b x r ih1 ih2=>
  rintro k a i n inn alt last xs ⟨_,_,ys,zs,rfl,⟨b,off,v,m,c,_,_,_,hx⟩,hr⟩;obtain⟨l1,_,n1⟩:=ih1 _ _ _ _ _ _ _ _ hx
  obtain⟨l2,e2,n2⟩:=ih2 _ _ _ _ _ _ _ _ hr
  refine⟨by simp[cntA,l1,l2],by simp only[Tr.len];omega,fun j y hj=>?_⟩
  by_cases hjl:j < ys.length
  ·rw[zO hjl] at hj
   exact n1 j y hj
  ·rw[zP (by omega)] at hj
   have:=n2 _ y hj;omega
 | n l t r ih1 ih2=>
  rintro k a i n inn alt last xs ⟨_,_,sv,sm,sc,av,am,ac,ys,zs,rfl,_,_,_,hx,hr⟩;obtain⟨l1,_,n1⟩:=ih1 _ _ _ _ _ _ _ _ hx
  obtain⟨l2,e2,n2⟩:=ih2 _ _ _ _ _ _ _ _ hr
  refine⟨by simp[cntA,l1,l2];omega,by simp only[Tr.len];omega,fun j y hj=>?_⟩
  cases j with
  | zero=>simp at hj;subst hj;rfl
  | succ j=>
   rw[jZ] at hj
   by_cases hjl:j < ys.length
   ·rw[zO hjl] at hj
    have:=n1 j y hj;omega
   ·rw[zP (by omega)] at hj
    have:=n2 _ y hj;omega
def mark (D:Nat):Deferred:= {target:= .collected D,args:= #[]}
def Marks (T:Nat→Prop)(w:World)(Ds:List Nat):Prop:=Ds.Nodup∧∀D∈Ds,T D∧w.heap[D]? =some (.deferred (some []))
theorem Marks.nil (T:Nat→Prop)(w:World):Marks T w []:=⟨by simp,by simp⟩
theorem Marks.mono {T T':Nat→Prop}{w w':World}{Ds:List Nat}(h:Marks T w Ds)(hT:∀D,T D→T' D)(hk:∀D,T D→w.heap[D]? =some (.deferred (some []))→w'.heap[D]? =some (.deferred (some []))):Marks T' w' Ds:=
 ⟨h.1,fun D hD=>⟨hT D (h.2 D hD).1,hk D (h.2 D hD).1 (h.2 D hD).2⟩⟩
theorem Marks.cons {T:Nat→Prop}{w:World}{Ds:List Nat}{D:Nat}(h:Marks T w Ds)(hT:T D)(hD:w.heap[D]? =some (.deferred (some [])))(hn:D∉Ds):Marks T w (D :: Ds):=
 ⟨List.nodup_cons.2 ⟨hn,h.1⟩,fun X hX=>by
  rcases zJ.1 hX with rfl | hX
  ·exact⟨hT,hD⟩
  ·exact h.2 X hX⟩
theorem leaves_marks {P:Program}{fn:Func}{tmps:Array Value}{R:Ending→World→Prop}{u:FrameMode}(hu:u≠.run){T:Nat→Prop}(K:World→Prop)(hK:∀A D,T D→K A→K (A.putObj D (.deferred none)))
  (hend:∀A,K A→LeavesIn Fence.wide 0 P fn tmps R [] u A):∀(Ds:List Nat) (w:World),Marks T w Ds→K w→LeavesInM Fence.wide 0 P fn tmps R (Ds.map mark) u w:=by
 intro Ds
 induction Ds with
 | nil=>intro w _ hk;exact hend w hk
 | cons D Ds ih=>
  intro w hm hk;obtain⟨hT,hD⟩:=hm.2 D (by simp)
  refine⟨hu,.inl ⟨D,_,rfl,run_takeDeferred hD,?_⟩⟩
  have hn:=List.nodup_cons.1 hm.1;refine ih _ ⟨hn.2,fun X hX=>?_⟩ (hK _ _ hT hk);obtain⟨h1,h2⟩:=hm.2 X (by simp[hX])
  exact⟨h1,(jQ (fun (e:X=D)=>hn.1 (e ▸ hX))).trans h2⟩
end Go.Proofs.YtieoppabellafaaGreatDoor
namespace Go.Proofs.YtieoppabellafaaGreatDoor
open Go.RowKit Go.Shelf Sx
attribute [local go_sem] Oper.semAt_some
theorem wpE_of_wp {P:Program}{f:FuncId}{c:Code}{Q:Exit→Act→World→Prop}{a:Act}{w:World}(h:c.wp P Q a w):wpE P none f c Q a w:=
 wpE_of (n:=0) ((wpIn_wide (n:=0)).2 h)
theorem wpE_seq_wp {P:Program}{f:FuncId}{x y:Code}{Q:Exit→Act→World→Prop}{a:Act}{w:World}(h:∀K:Act→World→Prop,(∀a w,wpE P none f y Q a w→K a w)→x.wp P (Exit.then K Q) a w):wpE P none f (Code.seq x y) Q a w:=
 wpE_seq (wpE_of_wp (h _ fun _ _ h=>h))
structure NSt (n0:Nat)(w0:World)(bi bb bq bl l inn am ac:Nat)(a:Option Addr)(J:Nat→World→(Nat→Prop)→Prop)(W0:World)(T0:Nat→Prop)(last k:Nat)(T:Nat→Prop)(Wr:World)(Ds:List Nat):Prop where
 j:J k Wr T
 low:∀b,b < n0→Wr.heap[b]? =w0.heap[b]?
 le:n0≤Wr.heap.size
 own:∀b,T b→n0≤b∧b < Wr.heap.size
 hbi:Wr.heap[bi]? =some (.cells #[.int .i64 (inn:Int)] 3 (0,0))
 hbb:Wr.heap[bb]? =some (.cells #[.slice a am ac] 22 (0,0))
 hbq:Wr.heap[bq]? =some (.cells #[.func (.yield l) #[] #[]] 157 (0,0))
 hbl:Wr.heap[bl]? =some (.cells #[.int .i64 (last:Int)] 3 (0,0))
 ti:T bi
 tb:T bb
 tq:T bq
 tl:T bl
 ni:bl≠bi
 nb:bl≠bb
 nq:bl≠bq
 mks:Marks T Wr Ds
 old:∀b,b < W0.heap.size→(T b↔T0 b)
 sz:W0.heap.size≤Wr.heap.size
section
variable {n0:Nat}{w0:World}{bi bb bq bl l inn am ac:Nat}{a:Option Addr}{J:Nat→World→(Nat→Prop)→Prop}{W0:World}{T0:Nat→Prop}{last k:Nat}{T:Nat→Prop}{Wr:World}{Ds:List Nat}
theorem NSt.alloc (h:NSt n0 w0 bi bb bq bl l inn am ac a J W0 T0 last k T Wr Ds)(hJ:∀k A TA B TB,J k A TA→Mv TA A TB B→J k B TB)(o:Obj):NSt n0 w0 bi bb bq bl l inn am ac a J W0 T0 last k (fun b=>T b∨b=Wr.heap.size) (Wr.alloc o) Ds:=by
 have al:∀{b x},Wr.heap[b]? =some x→(Wr.alloc o).heap[b]? =some x:=fun hx=>(zK _ _ _ (jD.1 hx).1).trans hx
 refine⟨hJ _ _ _ _ _ h.j (Mv.alloc _ _ _),fun b hb=>(zK _ _ _ (by have:=h.le;omega)).trans (h.low b hb),by have:=h.le;simp;omega,fun b hb=>?_,al h.hbi,al h.hbb,al h.hbq,al h.hbl,.inl h.ti,.inl h.tb,.inl h.tq,.inl h.tl,h.ni,h.nb,h.nq,h.mks.mono (fun _=> .inl) (fun D _ hD=>al hD),fun b hb=>?_,by have:=h.sz;simp;omega⟩
 ·rcases hb with hb | rfl
  ·have:=h.own b hb;simp;omega
  ·have:=h.le;simp;omega
 ·have:=h.sz;exact⟨fun hx=>(h.old b hb).1 (hx.resolve_right (by omega)),fun hx=> .inl ((h.old b hb).2 hx)⟩
theorem NSt.step (h:NSt n0 w0 bi bb bq bl l inn am ac a J W0 T0 last k T Wr Ds)(hJ:∀k A TA B TB,J k A TA→Mv TA A TB B→J k B TB)(z:Nat):NSt n0 w0 bi bb bq bl l inn am ac a J W0 T0 z k T (Wr.setCell ⟨bl,0,none⟩ (.int .i64 (z:Int))) Ds:=by
 have ne:∀{b},b≠bl→(Wr.setCell ⟨bl,0,none⟩ (.int .i64 (z:Int))).heap[b]? =Wr.heap[b]? :=fun hb=>jW Wr ⟨bl,0,none⟩ _ _ hb
 have hlow:=(h.own bl h.tl).1;refine⟨hJ _ _ _ _ _ h.j (Mv.setCell _ _ h.tl),fun b hb=>(ne (by omega)).trans (h.low b hb),by simpa using h.le,fun b hb=>by simpa using h.own b hb,(ne (Ne.symm h.ni)).trans h.hbi,(ne (Ne.symm h.nb)).trans h.hbb,(ne (Ne.symm h.nq)).trans h.hbq,Dg.row_set h.hbl 0 _,h.ti,h.tb,h.tq,h.tl,h.ni,h.nb,h.nq,h.mks.mono (fun _=>id) (fun D _ hD=>(ne ?_).trans hD),h.old,by simpa using h.sz⟩
 intro e;rw[e,h.hbl] at hD
 cases hD
theorem NSt.round (h:NSt n0 w0 bi bb bq bl l inn am ac a J W0 T0 last k T Wr Ds){W':World}{k':Nat}(hj:J k' W' T)(hr:Rv n0 T Wr W'):NSt n0 w0 bi bb bq bl l inn am ac a J W0 T0 last k' T W' Ds:=by
 have kp:∀{b x},T b→Wr.heap[b]? =some x→W'.heap[b]? =some x:=fun hb hx=>(hr.keep _ hb (jD.1 hx).1).trans hx
 exact⟨hj,fun b hb=>(hr.low b hb).trans (h.low b hb),zH h.le hr.size,fun b hb=>⟨(h.own b hb).1,jR (h.own b hb).2 hr.size⟩,kp h.ti h.hbi,kp h.tb h.hbb,kp h.tq h.hbq,kp h.tl h.hbl,h.ti,h.tb,h.tq,h.tl,h.ni,h.nb,h.nq,h.mks.mono (fun _=>id) (fun D hT hD=>kp hT hD),h.old,zH h.sz hr.size⟩
theorem NSt.cell (h:NSt n0 w0 bi bb bq bl l inn am ac a J W0 T0 last k T Wr Ds){b i:Nat}{v:Value}(hb:b < n0)(hc:w0.cell? ⟨b,i,none⟩=some v):Wr.cell? ⟨b,i,none⟩=some v:=
 (zI (a:=⟨b,i,none⟩) (h.low b hb)).trans hc
end
end Go.Proofs.YtieoppabellafaaGreatDoor
