/- Texts of the seat, packed: Am An. -/
import Derived.Test.YtieoppabellafaaGreatDoorG01
import Derived.Test.YtieoppabellafaaGreatDoorG11
import Derived.Test.YtieoppabellafaaGreatDoorG25
import Derived.BigQuiet
set_option maxRecDepth 1000000
set_option maxHeartbeats 64000000
set_option linter.unusedVariables false
namespace Go.Proofs.YtieoppabellafaaGreatDoor.Ts
open Go.RowKit Go.Shelf Fc St Sx Sa
def tRow:Tr:= .b (.n ⟨[97],[120],[],false,false⟩ .e (.n ⟨[98],[121],[[97]],false,false⟩ .e .e)) .e
def iRow:List It:=[⟨[116],[],true,true,1,-1,0,[]⟩,⟨[97],[120],false,false,0,0,0,[]⟩,⟨[98],[121],false,false,0,0,0,[1]⟩]
theorem nm_x:nmP [120]=true:=by
 rw[nmP,(isName_iff _).2 (name1 120 120 (by decide +kernel) (by decide +kernel) (by decide +kernel))];rfl
theorem nm_y:nmP [121]=true:=by
 rw[nmP,(isName_iff _).2 (name1 121 121 (by decide +kernel) (by decide +kernel) (by decide +kernel))];rfl
theorem right_row:rightS [116] tRow=true:=by
 unfold rightS Sx.okL;rw[nm_t]
 have hb:bigL (fltn 1 tRow)=false:=by decide +kernel
 rw[hb]
 simp[tRow,fltn,nodeOk,nm_a,nm_b,nm_x,nm_y,Tr.len]
theorem fit_row:fitS [116] tRow=true:=by
 unfold fitS codeS;rw[right_row]
 decide +kernel
theorem plan_row:planT [116] tRow=some iRow:=by
 unfold planT planP;rw[if_pos ⟨fit_row,by decide +kernel,by decide +kernel,by kernel_rfl⟩]
 kernel_rfl
theorem saga_row:sagaP iRow=some ([116],tRow):=by
 have h1:nameI iRow 0=[116]:=by kernel_rfl
 have h2:bodS iRow=tRow:=by kernel_rfl
 unfold sagaP;rw[h1,h2,if_pos ⟨by decide +kernel,plan_row⟩]
theorem fair_row:Fair tRow:=Fair.of (by decide) (by simp[AllL,tRow])
theorem row_tree (W:World)(b1 b2 b4:Nat)
  (r1:W.heap[b1]? =some (.cells #[.string ⟨#[97]⟩] 9 (0,0)))
  (r2:W.heap[b2]? =some (.cells #[.string ⟨#[97]⟩,.string ⟨#[120]⟩,.slice none 0 0,.bool false,.bool false,.slice none 0 0,.string ⟨#[98]⟩,.string ⟨#[121]⟩,.slice (some ⟨b1,0,none⟩) 1 1,.bool false,.bool false,.slice none 0 0] 104 (0,0)))
  (r4:W.heap[b4]? =some (.cells #[.slice (some ⟨b2,0,none⟩) 2 2] 119 (0,0))) :
  TAt (· < W.heap.size) W true tRow (some ⟨b4,0,none⟩) 0 1:=by
 have l1:=(jD.1 r1).1;have l2:=(jD.1 r2).1;have l4:=(jD.1 r4).1;have nl:SAt (· < W.heap.size) W [] none 0:=⟨rfl,fun i x hx=>by simp at hx⟩;refine⟨rfl,by omega,⟨b4,0,_,2,2,rfl,l4,(Dg.cell_row r4 0).trans rfl,⟨rfl,by omega,⟨b2,0,none,0,0,none,0,0,rfl,l2,(Dg.cell_row r2 0).trans rfl,(Dg.cell_row r2 1).trans rfl,(Dg.cell_row r2 2).trans rfl,(Dg.cell_row r2 3).trans rfl,(Dg.cell_row r2 4).trans rfl,(Dg.cell_row r2 5).trans rfl,nl,rfl⟩,rfl,by omega,
  ⟨b2,0,some ⟨b1,0,none⟩,1,1,none,0,0,rfl,l2,(Dg.cell_row r2 6).trans rfl,(Dg.cell_row r2 7).trans rfl,(Dg.cell_row r2 8).trans rfl,(Dg.cell_row r2 9).trans rfl,(Dg.cell_row r2 10).trans rfl,(Dg.cell_row r2 11).trans rfl,⟨rfl,?_⟩,rfl⟩,rfl⟩⟩,rfl⟩
 intro i x hx
 match i,hx with
 | 0,hx=>
  simp at hx;subst hx;exact⟨b1,0,rfl,l1,(Dg.cell_row r1 0).trans rfl⟩
 | i+1,hx=>simp at hx
theorem five (w:World)(o0 o1 o2 o3 o4:Obj) :
  let W:=((((w.alloc o0).alloc o1).alloc o2).alloc o3).alloc o4
  W.heap[w.heap.size]? =some o0∧W.heap[w.heap.size+1]? =some o1∧W.heap[w.heap.size+1+1]? =some o2∧W.heap[w.heap.size+1+1+1+1]? =some o4∧Below w.heap.size w W:=by
 refine⟨?_,?_,?_,?_,?_⟩
 ·exact old1 (old1 (old1 (old1 (new1 w o0 _ rfl) _) _) _) _
 ·exact old1 (old1 (old1 (new1 _ o1 _ (by simp)) _) _) _
 ·exact old1 (old1 (new1 _ o2 _ (by simp)) _) _
 ·exact new1 _ o4 _ (by simp)
 ·exact (((((Below.refl _ w).alloc (jG _) _).alloc (by simp) _).alloc (by simp;omega) _).alloc (by simp;omega) _).alloc (by simp;omega) _
theorem row_any (w:World)(hT:Dg.Tab w):Calls Tryz.prog 22 #[] w fun x w'=>Below w.heap.size w w'∧∃v,x= .returned (.agg #[v])∧RdIt w' v iRow:=by
 obtain⟨q0,q1,q2,q4,hb⟩:=five w (.cells #[.slice none 0 0] 28) (.cells #[.string ⟨#[97]⟩] 9) (.cells #[.string ⟨#[97]⟩,.string ⟨#[120]⟩,.slice none 0 0,.bool false,.bool false,.slice none 0 0,.string ⟨#[98]⟩,.string ⟨#[121]⟩,.slice (some ⟨w.heap.size+1,0,none⟩) 1 1,.bool false,.bool false,.slice none 0 0] 104) (.cells #[.slice (some ⟨w.heap.size+1+1,0,none⟩) 2 2] 119) (.cells #[.slice (some ⟨w.heap.size+1+1,0,none⟩) 2 2] 119)
 have M:Hid _:=Make_any _ [116] tRow (some ⟨w.heap.size+1+1+1+1,0,none⟩) 1 (row_tree _ _ _ _ q1 q2 q4) fair_row (hT.later hb);have HB:Hid _:=hb;have Q0:Hid _:=q0;clear q0 q1 q2 q4 hb
 go_enter Tryz.func22,Tryz.ntmps22
 go_wp2_with fail
 generalize ((((w.alloc (.cells #[.slice none 0 0] 28)).alloc (.cells #[.string ⟨#[97]⟩] 9)).alloc (.cells #[.string ⟨#[97]⟩,.string ⟨#[120]⟩,.slice none 0 0,.bool false,.bool false,.slice none 0 0,.string ⟨#[98]⟩,.string ⟨#[121]⟩,.slice (some ⟨w.heap.size+1,0,none⟩) 1 1,.bool false,.bool false,.slice none 0 0] 104)).alloc (.cells #[.slice (some ⟨w.heap.size+1+1,0,none⟩) 2 2] 119)).alloc (.cells #[.slice (some ⟨w.heap.size+1+1,0,none⟩) 2 2] 119)=w0 at *;refine Calls.mono M.out ?_;rintro x w1 ⟨hb1,hx⟩;rw[plan_row] at hx
 obtain⟨v,rfl,hst⟩:=hx
 have r0:=(hb1.block _ (jD.1 Q0.out).1).trans Q0.out;obtain⟨ia,ic,rfl,hrr⟩:=hst.rd
 have HST:Hid _:=hst;have HB1:Hid (Below w.heap.size w w1):=HB.out.trans (hb1.mono HB.out.size);have HZ:Hid (w.heap.size < w0.heap.size∧w0.heap.size≤w1.heap.size):=⟨(jD.1 Q0.out).1,hb1.size⟩;have r1:=Dg.row_alloc r0 (.cells #[.slice ia iRow.length ic] 28);have z0:=(Dg.cell_row r1 0).trans rfl;have f0:=Dg.froz_row r1 0;have R0:Hid _:=r1;clear M hb1 hrr hst r0 r1
 go_wp2_with fail
 have r2:=Dg.row_set R0.out 0 (.slice ia iRow.length ic);refine⟨rfl,_,results_cell_row (p:=0) (ty:=28) rfl _ _ w.heap.size 28 #[_] (0,0) _ rfl r2 Tryz.underlying28 rfl (by kernel_rfl),(HB1.out.alloc HB1.out.size _).setCell (jG _) _,_,rfl,?_⟩
 refine HST.out _ fun b h1 h2=>?_
 have h3:=HZ.out;rw[jW _ _ _ b (by show b≠w.heap.size;omega)]
 exact zK _ _ _ h2
def lN:List Fa:=[Fa.z,Fa.z,Fa.z]
def lG:List Fa:=[Fa.z,⟨1,0,0,false⟩,Fa.z]
def lD:List Fa:=[Fa.z,⟨2,0,0,false⟩,Fa.z]
def lF:List Fa:=[Fa.z,⟨2,0,0,false⟩,⟨3,0,0,false⟩]
def lP:List Fa:=[Fa.z,⟨2,1,1,false⟩,⟨3,0,0,false⟩]
theorem chk_row {l:List Fa}(h:okL (subs iRow) l):chkF iRow l=0:=chkF_ok (by rw[saga_row];rfl) h
theorem ok3 {a b c:Fa}(ha:a=Fa.z)(hb:okF b)(hc:okF c):okL (subs iRow) [a,b,c]:=by
 subst ha;refine⟨rfl,fun i hi=>?_⟩
 have:i=0∨i=1∨i=2:=by simp at hi;omega
 rcases this with rfl | rfl | rfl
 ·exact⟨okF_z,fun _=>rfl⟩
 ·exact⟨hb,fun h=>by cases h⟩
 ·exact⟨hc,fun h=>by cases h⟩
theorem chkN:chkF iRow lN=0:=chk_row (ok3 rfl (by decide) (by decide))
theorem chkG:chkF iRow lG=0:=chk_row (ok3 rfl (by decide) (by decide))
theorem chkD:chkF iRow lD=0:=chk_row (ok3 rfl (by decide) (by decide))
theorem chkFe:chkF iRow lF=0:=chk_row (ok3 rfl (by decide) (by decide))
theorem chkP:chkF iRow lP=0:=chk_row (ok3 rfl (by decide) (by decide))
theorem mb_row {l:List Fa}(hc:chkF iRow l=0){i:Nat}(h1:1≤i)(h3:i < 3):mbB iRow l i=true↔(fOf l i).run=0∧atS iRow l 0=0∧falS iRow l 0 0=false∧verS iRow l=1∧(i=2→St.S (plOf iRow) (fOf l) 1=2):=by
 have e0:(plOf iRow).inn i=0∧(plOf iRow).alt i=0∧(plOf iRow).sub i=false:=by
  have:i=1∨i=2:=by omega
  rcases this with rfl | rfl <;> exact⟨rfl,rfl,rfl⟩
 have h3':i < iRow.length:=h3;rw[mb_parts hc h3',rcB_iff,rc_parts hc h1 h3',e0.1,e0.2.1,e0.2.2,rnB_iff,rn_ver hc]
 have ep:psB iRow l 1=true↔St.S (plOf iRow) (fOf l) 1=2:=by
  rw[psB_iff,ps_S hc (by decide)]
  constructor
  ·rintro (h | ⟨h,_⟩)
   ·exact h
   ·exact absurd h (by decide)
  ·exact .inl
 have:i=1∨i=2:=by omega
 rcases this with rfl | rfl
 ·have ea:afOf iRow 1=[]:=by decide
  rw[ea]
  constructor
  ·rintro⟨_,a,b,c,d,_⟩
   exact⟨a,b,c,d,fun h=>by cases h⟩
  ·rintro⟨a,b,c,d,_⟩
   exact⟨rfl,a,b,c,d,fun a h=>by cases h⟩
 ·have ea:afOf iRow 2=[1]:=by decide
  rw[ea]
  constructor
  ·rintro⟨_,a,b,c,d,e⟩
   exact⟨a,b,c,d,fun _=>ep.1 (e 1 (by simp))⟩
  ·rintro⟨a,b,c,d,e⟩
   refine⟨rfl,a,b,c,d,fun a h=>?_⟩
   simp at h;subst h;exact ep.2 (e rfl)
theorem let_zero {l:List Fa}(hc:chkF iRow l=0):letB iRow l 0=false:=by
 unfold letB;have h1:mbB iRow l 0=false:=by
  cases h:mbB iRow l 0 with
  | false=>rfl
  | true=>exact absurd ((mb_parts hc (by decide)).1 h).1 (by decide)
 have h2:muB iRow l 0=false:=by
  cases h:muB iRow l 0 with
  | false=>rfl
  | true=>have:=((mu_parts hc (by decide)).1 h).1.1;omega
 rw[h1,h2]
 rfl
theorem not_mu {l:List Fa}(hc:chkF iRow l=0){i:Nat}(h3:i < 3)(h:(fOf l i).run≠2∨falS iRow l 0 0=false):muB iRow l i=false:=by
 cases hm:muB iRow l i with
 | false=>rfl
 | true=>
  obtain⟨⟨a1,a2,_⟩,b,_⟩:=(mu_parts hc h3).1 hm
  rcases h with h | h
  ·exact absurd a2 h
  ·have:i=1∨i=2:=by omega
   have e:falS iRow l ((plOf iRow).inn i:Nat) ((plOf iRow).alt i:Nat)=falS iRow l 0 0:=by rcases this with rfl | rfl <;> rfl
   rw[e,h] at b
   cases b
theorem not_mb {l:List Fa}(hc:chkF iRow l=0){i:Nat}(h1:1≤i)(h3:i < 3)(h:(fOf l i).run≠0∨(i=2∧St.S (plOf iRow) (fOf l) 1≠2)):mbB iRow l i=false:=by
 cases hm:mbB iRow l i with
 | false=>rfl
 | true=>
  obtain⟨a,_,_,_,e⟩:=(mb_row hc h1 h3).1 hm
  rcases h with h | ⟨h,h'⟩
  ·exact absurd a h
  ·exact absurd (e h) h'
theorem may_row {l:List Fa}(hc:chkF iRow l=0){q1 q2:Bool}(h1:letB iRow l 1=q1)(h2:letB iRow l 2=q2):mayL iRow l=(if q1 then [keyOfF 1 (fOf l 1)] else []) ++ (if q2 then [keyOfF 2 (fOf l 2)] else []):=by
 rw[←keysL_may hc]
 unfold keysL letL;show (([0,1,2]:List Nat).filter (letB iRow l)).map _=_;rw[List.filter_cons,let_zero hc,List.filter_cons,h1,List.filter_cons,h2]
 cases q1 <;> cases q2 <;> rfl
theorem mayN:mayL iRow lN=[(1,false,0)]:=by
 have hf:falS iRow lN 0 0=false:=by unfold falS;rw[if_pos chkN];decide +kernel
 have h1:letB iRow lN 1=true:=by
  unfold letB;rw[(mb_row chkN (by decide) (by decide)).2 ⟨rfl,by unfold atS;rw[if_pos chkN];decide +kernel,hf,by unfold verS;rw[if_pos chkN];decide +kernel,fun h=>by cases h⟩]
  rfl
 have h2:letB iRow lN 2=false:=by
  unfold letB;rw[not_mb chkN (by decide) (by decide) (.inr ⟨rfl,by decide +kernel⟩),not_mu chkN (by decide) (.inr hf)]
  rfl
 rw[may_row chkN h1 h2]
 rfl
theorem mayG:mayL iRow lG=[]:=by
 have hf:falS iRow lG 0 0=false:=by unfold falS;rw[if_pos chkG];decide +kernel
 have h1:letB iRow lG 1=false:=by
  unfold letB;rw[not_mb chkG (by decide) (by decide) (.inl (by decide)),not_mu chkG (by decide) (.inr hf)]
  rfl
 have h2:letB iRow lG 2=false:=by
  unfold letB;rw[not_mb chkG (by decide) (by decide) (.inr ⟨rfl,by decide +kernel⟩),not_mu chkG (by decide) (.inr hf)]
  rfl
 rw[may_row chkG h1 h2]
 rfl
theorem mayD:mayL iRow lD=[(2,false,0)]:=by
 have hf:falS iRow lD 0 0=false:=by unfold falS;rw[if_pos chkD];decide +kernel
 have h1:letB iRow lD 1=false:=by
  unfold letB;rw[not_mb chkD (by decide) (by decide) (.inl (by decide)),not_mu chkD (by decide) (.inr hf)]
  rfl
 have h2:letB iRow lD 2=true:=by
  unfold letB;rw[(mb_row chkD (by decide) (by decide)).2 ⟨rfl,by unfold atS;rw[if_pos chkD];decide +kernel,hf,by unfold verS;rw[if_pos chkD];decide +kernel,fun _=>by decide +kernel⟩]
  rfl
 rw[may_row chkD h1 h2]
 rfl
theorem mu_row {l:List Fa}(hc:chkF iRow l=0)(hr:(fOf l 1).run=2∧(fOf l 1).un=false∧(fOf l 1).tries=(fOf l 1).slips)(hf:falS iRow l 0 0=true)(hcl:cleS iRow l 2=true):(1,true,(fOf l 1).slips)∈mayL iRow l:=by
 have ho:Oc (plOf iRow) (afOf iRow) (fOf l) 1:=fun k k1 k2 h=>by
  have k3:k < 3:=k2;have:k=1∨k=2:=by omega
  rcases this with rfl | rfl
  ·have ea:afOf iRow 1=[]:=by decide
   cases h with
   | one h=>rw[ea] at h;cases h
   | more h _=>rw[ea] at h;cases h
  ·exact (cl_S hc (by decide)).2 hcl
 refine may_iff.2 ⟨hc,.inr ⟨rfl,rfl,⟨by decide,by decide,rfl⟩,hr,(ff_S hc (by decide) (by decide) (by decide)).2 hf,ho,fun s hs h1=>?_⟩⟩;have h9:=(an_iff saga_row (by decide) (by decide) s).1 hs
 rcases h9 with rfl | ⟨h,_⟩
 ·exact absurd h1 (by decide)
 ·exact absurd h (by decide)
theorem isF:(1,true,(0:Int))∈mayL iRow lF:=
 mu_row (l:=lF) chkFe ⟨rfl,rfl,rfl⟩ (by unfold falS;rw[if_pos chkFe];decide +kernel) (by unfold cleS;rw[if_pos chkFe];decide +kernel)
theorem isP:(1,true,(1:Int))∈mayL iRow lP:=
 mu_row (l:=lP) chkP ⟨rfl,rfl,rfl⟩ (by unfold falS;rw[if_pos chkP];decide +kernel) (by unfold cleS;rw[if_pos chkP];decide +kernel)
theorem notF:(1,false,(0:Int))∉mayL iRow lF:=fun h=>by
 rcases (may_iff.1 h).2 with ⟨_,_,h⟩ | ⟨h,_⟩
 ·exact absurd h.2.1 (by decide)
 ·cases h
theorem fairI_row:FairI iRow:=by
 have:smallI iRow=true:=by decide +kernel
 exact (small_fair this).1
theorem neq_same (k:Nat × Bool × Int)(w:World):(Go.binOp .neq 47 (KeV k) (KeV k)).run Tryz.prog w= .ok (.bool false) w:=by
 unfold KeV
 go_simp
theorem neq_exec (k:Nat × Bool × Int){o:Oper}{x y:Operand}{a:Act}{w:World}{ty:TypeId}(ho:o.op= .binOp .neq 47 x y ty)(hx:a.eval x=KeV k)(hy:a.eval y=KeV k):(execOp a.eval o).run Tryz.prog w= .ok (.value (.bool false)) w:=by
 unfold execOp;have hg:(eqGuard BinOp.neq 47 x y (KeV k) (KeV k)).run Tryz.prog w= .ok () w:=by
  have hk:Tryz.prog.eqGuardType Tryz.prog.depth 47=false:=by kernel_rfl
  unfold eqGuard KeV;simp[hk]
 simp only[ho,hx,hy,Sem.run_bind,neq_same,hg,Result.andThen_ok];rfl
theorem sameKeys_any (K:List (Nat × Bool × Int))(u v:Value)(w:World)(hu:RK w u K)(hv:RK w v K)(hl:K.length≤1000000) :
  Calls Tryz.prog 23 #[u,v] w fun e w'=>e= .returned (.bool true)∧Below w.heap.size w w':=by
 obtain⟨ua,uc,rfl,huc,_,hur⟩:=hu
 obtain⟨va,vc,rfl,hvc,_,hvr⟩:=hv
 obtain⟨n,HN⟩:∃n,Hid (K.length=n):=⟨_,rfl⟩
 have HU:Hid _:=hur;have HV:Hid _:=hvr;clear hur hvr;rw[HN.out] at hl huc hvc ⊢
 have hne:((n:Int) !=(n:Int))=false:=by simp
 go_enter Tryz.func23,Tryz.ntmps23
 go_wp2_with fail
 go_loopw [5] (fun iv wr=>∃(i:Nat),i≤n∧iv= .int .i64 i∧Hid (Below w.heap.size w wr)) (fun iv _=>n - (intOf iv).toNat)
 case atStart=>exact⟨0,zE _,by go_num,Below.refl _ _⟩
 case round=>
  obtain⟨i,hi,rfl,HW⟩:=hrel
  rename World=>wr
  by_cases hlt:i < n
  rotate_left
  ·go_wp2_with fail
   go_ret
   exact⟨rfl,HW.out⟩
  ·obtain⟨x,hx⟩:∃x,K[i]? =some x:=⟨_,jF (by rw[HN.out];exact hlt)⟩
   obtain⟨ub,uo,rfl,cu0,cu1,cu2⟩:=HU.out i x hx
   obtain⟨vb,vo,rfl,cv0,cv1,cv2⟩:=HV.out i x hx
   have HCU:Hid (∀wx,Below w.heap.size w wx→wx.cell? ⟨ub,uo+i * 3,none⟩=some (.int .i64 (x.1:Int))∧wx.cell? ⟨ub,uo+i * 3+1,none⟩=some (.bool x.2.1)∧wx.cell? ⟨ub,uo+i * 3+2,none⟩=some (.int .i64 x.2.2)):=fun wx hb=>⟨Dg.cell_later hb cu0,Dg.cell_later hb cu1,Dg.cell_later hb cu2⟩
   have HCV:Hid (∀wx,Below w.heap.size w wx→wx.cell? ⟨vb,vo+i * 3,none⟩=some (.int .i64 (x.1:Int))∧wx.cell? ⟨vb,vo+i * 3+1,none⟩=some (.bool x.2.1)∧wx.cell? ⟨vb,vo+i * 3+2,none⟩=some (.int .i64 x.2.2)):=fun wx hb=>⟨Dg.cell_later hb cv0,Dg.cell_later hb cv1,Dg.cell_later hb cv2⟩
   have HXV:Hid (KeV x= .agg #[.int .i64 (x.1:Int),.bool x.2.1,.int .i64 x.2.2]):=rfl;have hii:(i:Int) < (n:Int):=by omega
   have hS0:Below w.heap.size w wr.drew:=HW.out.drew;clear hx cu0 cu1 cu2 cv0 cv1 cv2
   go_wp2_with fail
   refine region_thenF [(17,.slice (some ⟨ub,uo,none⟩) n uc),(18,.int .i64 i),(19,.pointer (some ⟨ub,uo+i * 3,none⟩)),(20,KeV x),(21,.slice (some ⟨vb,vo,none⟩) n vc),(22,.int .i64 i),(23,.pointer (some ⟨vb,vo+i * 3,none⟩)),(24,KeV x),(25,.bool false)] (fun w'=>Below w.heap.size w w') ?_ ?_
   ·refine wp_region_held (S:=fun w'=>Below w.heap.size w w') (by kernel_rfl) ?_;simp only[jN,jM,jP,Nat.reduceAdd,jI,jJ,jO,jL,jK];refine tK 0 17 (.slice (some ⟨ub,uo,none⟩) n uc) 8 rfl hS0 ?_;refine tK 1 18 (.int .i64 i) 7 rfl hS0 ?_;refine tG 2 19 (.pointer (some ⟨ub,uo+i * 3,none⟩)) 6 rfl hS0 ?_;refine tV 3 20 (KeV x) 5 rfl hS0 ?_ (fun wx h=>by rw[HXV.out];obtain⟨y0,y1,y2⟩:=HCU.out wx h;go_simp);refine tK 4 21 (.slice (some ⟨vb,vo,none⟩) n vc) 4 rfl hS0 ?_;refine tK 5 22 (.int .i64 i) 3 rfl hS0 ?_;refine tG 6 23 (.pointer (some ⟨vb,vo+i * 3,none⟩)) 2 rfl hS0 ?_;refine tV 7 24 (KeV x) 1 rfl hS0 ?_ (fun wx h=>by rw[HXV.out];obtain⟨y0,y1,y2⟩:=HCV.out wx h;go_simp);refine tV 8 25 (.bool false) 0 rfl hS0 ?_ (fun wx h=>neq_exec x (x:= .tmp 20) (y:= .tmp 24) rfl rfl rfl);refine wpAnyH_done (by kernel_rfl) ?_ _;exact⟨rfl,by kernel_rfl,hS0⟩
   ·intro w9 hF;simp only[setAll,jA,jB,jC];have HF9:Hid _:=hF;clear hF
    go_wp2_with fail
    go_roundw
    case rel=>exact⟨i+1,by omega,by go_num,HF9⟩
    case measure=>simp[intOf] <;> omega
def NoK (hb:Nat)(w:World):Prop:=∃a c,w.heap[hb]? =some (.cells #[.slice a 0 c] 36 (0,0))∧RK w (.slice a 0 c) []
theorem NoK.later {hb:Nat}{w w':World}(h:NoK hb w)(hb':Below w.heap.size w w'):NoK hb w':=by
 obtain⟨a,c,h1,h2⟩:=h
 exact⟨a,c,(hb'.block _ (jD.1 h1).1).trans h1,h2.later hb'⟩
theorem next51_any {hb:Nat}{w:World}(h:NoK hb w)(k:Nat × Bool × Int):Calls Tryz.prog 51 #[KeV k,.pointer (some ⟨hb,0,none⟩)] w fun e w'=>e= .returned (.bool false)∧Below w.heap.size w w':=by
 obtain⟨a,c,h1,h2⟩:=h
 have hb1:=bl1 w (.cells #[.int .i64 (k.1:Int),.bool k.2.1,.int .i64 k.2.2] 47);have HB1:Hid _:=hb1;have r1:=Dg.row_new w #[.int .i64 (k.1:Int),.bool k.2.1,.int .i64 k.2.2] 47;have c0:=(Dg.cell_row (Dg.row_alloc h1 (.cells #[.int .i64 (k.1:Int),.bool k.2.1,.int .i64 k.2.2] 47)) 0).trans rfl;have k0:=(Dg.cell_row r1 0).trans rfl;have k1:=(Dg.cell_row r1 1).trans rfl;have k2:=(Dg.cell_row r1 2).trans rfl;have HC:Hid _:=contains_any [] (.slice a 0 c) k _ (h2.later hb1) (by simp);unfold KeV at HC ⊢;clear h1 h2 hb1 r1
 go_enter Tryz.func51,Tryz.ntmps51
 go_wp2_with fail
 refine Calls.mono HC.out ?_;rintro e w2 ⟨rfl,hb2⟩;have HB2:Hid _:=HB1.out.trans (hb2.mono HB1.out.size);clear HC hb2 HB1 c0 k0 k1 k2
 go_wp2_with fail
 go_ret
 exact⟨rfl,HB2.out⟩
theorem indexFunc_any {hb:Nat}{w:World}(h:NoK hb w)(K:List (Nat × Bool × Int))(v:Value)(hv:RK w v K)(hl:K.length≤1000000) :
  Calls Tryz.prog 81 #[v,.func (.func 51) #[] #[.pointer (some ⟨hb,0,none⟩)]] w fun e w'=>e= .returned (.int .i64 (-1))∧Below w.heap.size w w':=by
 obtain⟨ka,kc,rfl,hc,_,hr⟩:=hv
 obtain⟨n,HN⟩:∃n,Hid (K.length=n):=⟨_,rfl⟩
 rw[HN.out] at hc hl ⊢
 have HR:Hid _:=hr;have HNK:Hid (∀wx,Below w.heap.size w wx→NoK hb wx):=fun wx hb=>h.later hb
 clear hr h
 go_enter Tryz.func81,Tryz.ntmps81
 go_wp2_with fail
 go_loopw [8] (fun iv wr=>∃(i:Nat),i≤n∧iv= .int .i64 i∧Hid (Below w.heap.size w wr)) (fun iv _=>n - (intOf iv).toNat)
 case atStart=>exact⟨0,zE _,by go_num,Below.refl _ _⟩
 case round=>
  obtain⟨i,hi,rfl,HW⟩:=hrel
  rename World=>wr
  by_cases hlt:i < n
  rotate_left
  ·go_wp2_with fail
   go_ret
   exact⟨rfl,HW.out⟩
  ·obtain⟨x,hx⟩:∃x,K[i]? =some x:=⟨_,jF (by rw[HN.out];exact hlt)⟩
   obtain⟨kb,ko,rfl,c0,c1,c2⟩:=HR.out i x hx
   have d0:=Dg.cell_later HW.out c0;have d1:=Dg.cell_later HW.out c1;have d2:=Dg.cell_later HW.out c2;have HC:Hid _:=next51_any (HNK.out wr HW.out) x;unfold KeV at HC;have hcf:∀wx,(callFunc 51 #[.agg #[.int .i64 (x.1:Int),.bool x.2.1,.int .i64 x.2.2],.pointer (some ⟨hb,0,none⟩)]).run Tryz.prog wx= .ok (.enter 51 #[.agg #[.int .i64 (x.1:Int),.bool x.2.1,.int .i64 x.2.2],.pointer (some ⟨hb,0,none⟩)]) wx:=fun wx=>enters_of Tryz.func51 (by kernel_rfl) rfl _ _
   have hii:(i:Int) < (n:Int):=by omega
   clear hx c0 c1 c2
   go_wp2_with fail
   refine Calls.mono HC.out ?_;rintro e w2 ⟨rfl,hb2⟩;have HW2:Hid _:=HW.out.trans (hb2.mono HW.out.size);clear HC hb2 d0 d1 d2 hcf HW
   go_wp2_with fail
   go_roundw
   case rel=>exact⟨i+1,by omega,by go_num,HW2⟩
   case measure=>simp[intOf] <;> omega
theorem deleteFunc_any {hb:Nat}{w:World}(h:NoK hb w)(K:List (Nat × Bool × Int))(a:Option Addr)(n c:Nat)(hv:RK w (.slice a n c) K)(hl:K.length≤1000000) :
  Calls Tryz.prog 50 #[.slice a n c,.func (.func 51) #[] #[.pointer (some ⟨hb,0,none⟩)]] w fun e w'=>e= .returned (.slice a n c)∧Below w.heap.size w w':=by
 have HI:Hid _:=indexFunc_any h K _ hv hl;clear h hv
 go_enter Tryz.func50,Tryz.ntmps50
 go_wp2_with fail
 refine Calls.mono HI.out ?_;rintro e w2 ⟨rfl,hb2⟩;have HB2:Hid _:=hb2;clear HI hb2
 go_wp2_with fail
 go_ret
 exact⟨rfl,HB2.out⟩
theorem Next_any {its:List It}{l m:List Fa}{v lv mv:Value}{w:World}(h:PF its l v lv w)(hm:PF its m v mv w)(hc:chkF its l=0)(he:mayL its l=[]) :
  Calls Tryz.prog 24 #[.agg #[v],lv,mv] w fun e w'=>Below w.heap.size w w'∧∃a c,e= .returned (.slice a (mayL its m).length c)∧RK w' (.slice a (mayL its m).length c) (mayL its m):=by
 have hb1:=bl1 w (.cells #[v] 28);have HSE:Hid _:=see26_any (h.later hb1);have HPM:Hid (∀wx,Below w.heap.size w wx→PF its m v mv wx):=fun wx hb=>hm.later hb
 have r0:=Dg.row_new w #[v] 28;have c0:=(Dg.cell_row r0 0).trans rfl;have HR0:Hid _:=r0;have HB1:Hid _:=hb1;have HCC:Hid _:=hc;have HE:Hid _:=he;have HML:Hid ((mayL its m).length≤1000000):=by have:= @may_few its m;show _≤_;omega
 obtain⟨xa,xc,rfl,_⟩:=h.it
 obtain⟨ma,mc,rfl,_⟩:=hm.fa
 rw[hc] at HSE
 clear h hm hb1 hc he r0
 go_enter Tryz.func24,Tryz.ntmps24
 go_wp2_with fail
 refine Calls.mono HSE.out ?_;rintro e w2 ⟨hb2,pv,rfl,hp⟩;unfold SeP at hp;rw[if_pos HCC.out] at hp
 obtain⟨P,ob,rfl,hO⟩:=hp
 have HO:Hid _:=hO;have HB2:Hid _:=HB1.out.trans (hb2.mono HB1.out.size);have HR2:Hid _:=(hb2.block _ (jD.1 HR0.out).1).trans HR0.out;have HK:Hid _:=keys_any hO;clear HSE hb2 c0 hO HB1 HR0
 go_wp2_with fail
 refine Calls.mono HK.out ?_;rintro e w3 ⟨hb3,bo,bm,rfl,q0,q1⟩;have HB3:Hid _:=HB2.out.trans (hb3.mono HB2.out.size);have HR3:Hid _:=(hb3.block _ (jD.1 HR2.out).1).trans HR2.out;have HC:Hid _:=collect_any (HO.out.later hb3) q0 q1;rw[HE.out] at HC
 clear HK hb3 q0 q1 HB2 HO HR2
 go_wp2_with fail
 refine Calls.mono HC.out ?_;rintro e w4 ⟨hb4,a,c,rfl,hr⟩;have HB4:Hid _:=HB3.out.trans (hb4.mono HB3.out.size);have HR4:Hid _:=(hb4.block _ (jD.1 HR3.out).1).trans HR3.out;have hb5:=bl1 w4 (.cells #[.slice a 0 c] 36);have HNK:Hid (NoK w4.heap.size (w4.alloc (.cells #[.slice a 0 c] 36))):=⟨a,c,Dg.row_new w4 #[.slice a 0 c] 36,hr.later hb5⟩;have HB5:Hid _:=HB4.out.trans (hb5.mono HB4.out.size);have c5:=(Dg.cell_row (Dg.row_alloc HR4.out (.cells #[.slice a 0 c] 36)) 0).trans rfl;have HMY:Hid _:=May_any (HPM.out _ HB5.out);clear HC hb4 hr HB3 HR3 HR4 HB4 hb5
 go_wp2_with fail
 refine Calls.mono HMY.out ?_;rintro e w6 ⟨hb6,a6,c6,rfl,hr6⟩;have HB6:Hid _:=HB5.out.trans (hb6.mono HB5.out.size);have HDF:Hid _:=deleteFunc_any (HNK.out.later hb6) (mayL its m) a6 _ c6 hr6 HML.out;have HR6:Hid _:=hr6;clear HMY hb6 c5 HB5 HNK hr6
 go_wp2_with fail
 refine Calls.mono HDF.out ?_;rintro e w7 ⟨rfl,hb7⟩;have HB7:Hid _:=HB6.out.trans (hb7.mono HB6.out.size);have HR7:Hid (RK w7 (.slice a6 (mayL its m).length c6) (mayL its m)):=RK.later HR6.out hb7;clear HDF hb7 HB6 HR6
 go_wp2_with fail
 go_ret
 exact⟨HB7.out,a6,c6,rfl,HR7.out⟩
theorem RF.three {w:World}{g:Nat}{a b c:Fa}(h:w.heap[g]? =some (.cells (rowsF [a,b,c]).toArray 55 (0,0))):RF w (.slice (some ⟨g,0,none⟩) 3 3) [a,b,c]:=by
 refine⟨_,3,rfl,by simp,by unfold maxLen;omega,fun i f hf=>⟨g,0,rfl,?_⟩⟩
 have hi:i < 3:=by have:=(jH.1 hf).1;simpa using this
 have hc:∀j,j < 4→w.cell? ⟨g,0+i * 4+j,none⟩=f.cells[j]? :=fun j hj=>by
  rw[Dg.cell_row h,jY,zD]
  exact rowsF_get _ i f hf j hj
 exact⟨hc 0 (by omega),hc 1 (by omega),hc 2 (by omega),hc 3 (by omega)⟩
theorem RK.one {w:World}{g i:Nat}{u:Bool}{t:Int}(h:w.heap[g]? =some (.cells #[.int .i64 (i:Int),.bool u,.int .i64 t] 47 (0,0))):RK w (.slice (some ⟨g,0,none⟩) 1 1) [(i,u,t)]:=by
 refine⟨_,1,rfl,by simp,by unfold maxLen;omega,fun j f hf=>⟨g,0,rfl,?_⟩⟩
 have hj:j=0:=by have:=(jH.1 hf).1;simp at this;omega
 subst hj;cases hf;exact⟨(Dg.cell_row h 0).trans rfl,(Dg.cell_row h 1).trans rfl,(Dg.cell_row h 2).trans rfl⟩
structure LvS (w:World)(v:Value)(p n1:Nat)(u1 u2:Value)(qf qs:Nat)(W:World):Prop where
 bel:Below w.heap.size w W
 rd:RdIt W v iRow
 tab:Dg.Tab W
 box:W.heap[p]? =some (.cells #[v] 28 (0,0))
 n:RF W (.slice (some ⟨n1,0,none⟩) 3 3) lN
 g:RF W u1 lG
 d:RF W u2 lD
 f:RF W (.slice (some ⟨qf,0,none⟩) 3 3) lF
 s:RF W (.slice (some ⟨qs,0,none⟩) 3 3) lP
theorem LvS.later {w:World}{v:Value}{p n1 qf qs:Nat}{u1 u2:Value}{W W':World}(h:LvS w v p n1 u1 u2 qf qs W)(hb:Below W.heap.size W W'):LvS w v p n1 u1 u2 qf qs W':=
 ⟨h.bel.trans (hb.mono h.bel.size),h.rd.later hb,h.tab.later hb,(hb.block _ (jD.1 h.box).1).trans h.box,h.n.later hb,h.g.later hb,h.d.later hb,h.f.later hb,h.s.later hb⟩
theorem pf_row {W:World}{v lv:Value}{l:List Fa}(hr:RdIt W v iRow)(ht:Dg.Tab W)(hl:RF W lv l)(h3:l.length≤1000):PF iRow l v lv W:=⟨hr,fairI_row,ht,hl,by decide,by omega⟩
theorem open_row:(1,false,(0:Int))∈openL iRow lG:=by
 unfold openL;rw[if_pos chkG]
 decide
theorem lives_any (w:World)(hT:Dg.Tab w):Calls Tryz.prog 7 #[] w fun e w'=>e= .returned (.bool true)∧Below w.heap.size w w':=by
 have HT:Hid (∀wx,Below w.heap.size w wx→Dg.Tab wx):=fun wx hb=>hT.later hb
 have HR:Hid _:=row_any w hT;obtain⟨C,HCC,hmk0⟩:=make_facts 3 (by omega)
 have hmk:∀wx:World,(Instr.makeSlice 33 (.int .i64 3) (.int .i64 3)).run Tryz.prog wx= .ok (.slice (some ⟨wx.heap.size,0,none⟩) 3 3) (wx.alloc (.cells C 55)):=hmk0
 clear hT hmk0
 go_enter Tryz.func7,Tryz.ntmps7
 go_wp2_with fail
 refine Calls.mono HR.out ?_;rintro e w1 ⟨hb1,v,rfl,hrd⟩;obtain⟨ia,ic,rfl,_⟩:=id hrd
 have b2:=bl1 w1 (.cells #[.slice ia iRow.length ic] 28);have b3:=bl1 (w1.alloc (.cells #[.slice ia iRow.length ic] 28)) (.cells C 55);have HB2:Hid _:=b2.trans (b3.mono b2.size);have HB1:Hid (Below w.heap.size w ((w1.alloc (.cells #[.slice ia iRow.length ic] 28)).alloc (.cells C 55))):=hb1.trans (HB2.out.mono hb1.size);have r1:=Dg.row_alloc (Dg.row_new w1 #[.slice ia iRow.length ic] 28) (.cells C 55);have r2:=Dg.row_new (w1.alloc (.cells #[.slice ia iRow.length ic] 28)) C 55;rw[jU] at r2
 have HRD:Hid _:=RdIt.later hrd HB2.out;have HN:Hid (RF ((w1.alloc (.cells #[.slice ia iRow.length ic] 28)).alloc (.cells C 55)) (.slice (some ⟨w1.heap.size+1,0,none⟩) 3 3) lN):=by
  refine RF.three ?_;rw[r2,HCC.out]
  rfl
 have HBX:Hid _:=r1;have z1:=(Dg.cell_row r1 0).trans rfl;clear hb1 hrd b2 b3 r1 r2 HB2 HR
 go_wp2_with fail
 generalize hw2:(w1.alloc (.cells #[.slice ia iRow.length ic] 28)).alloc (.cells C 55)=w2 at *;generalize w1.heap.size=p at *;have HPN:Hid (∀wx,Below w2.heap.size w2 wx→PF iRow lN (.slice ia iRow.length ic) (.slice (some ⟨p+1,0,none⟩) 3 3) wx):=fun wx hb=>pf_row (RdIt.later HRD.out hb) (HT.out wx (HB1.out.trans (hb.mono HB1.out.size))) (RF.later HN.out hb) (by decide)
 have HBG:Hid _:=Begin_any (HPN.out w2 (Below.refl _ _)) (1,false,0) (by rw[mayN];simp);have e1:lN.set (1:Nat) (begF (fOf lN 1) false)=lG:=by rfl
 unfold KeV at HBG;dsimp only at HBG;rw[e1] at HBG
 clear hw2 hmk HCC e1;refine Calls.mono HBG.out ?_;rintro e w3 ⟨hb3,u1,rfl,hu1⟩;have HB3:Hid _:=HB1.out.trans (hb3.mono HB1.out.size);have HRD3:Hid (RdIt w3 (.slice ia iRow.length ic) iRow):=RdIt.later HRD.out hb3;have HBX3:Hid _:=(hb3.block _ (jD.1 HBX.out).1).trans HBX.out;have HN3:Hid (RF w3 (.slice (some ⟨p+1,0,none⟩) 3 3) lN):=RF.later HN.out hb3;have HU1:Hid (RF w3 u1 lG):=hu1;have z3:=(Dg.cell_row HBX3.out 0).trans rfl;have HEN:Hid _:=End_any (pf_row HRD3.out (HT.out w3 HB3.out) hu1 (by decide)) (1,false,0) true open_row (fun h=>by cases h);have e2:lG.set (1:Nat) (endF (fOf lG 1) false true)=lD:=by rfl
 unfold KeV at HEN;dsimp only at HEN;rw[e2] at HEN
 clear hb3 hu1 HBG HB1 HRD HBX HN HPN z1 e2
 go_wp2_with fail
 refine Calls.mono HEN.out ?_;rintro e w4 ⟨hb4,u2,rfl,hu2⟩;have q1:=Dg.row_alloc (Dg.row_new w4 #[.int .i64 0,.int .i64 0,.int .i64 0,.bool false,.int .i64 2,.int .i64 0,.int .i64 0,.bool false,.int .i64 3,.int .i64 0,.int .i64 0,.bool false] 55) (.cells #[.int .i64 0,.int .i64 0,.int .i64 0,.bool false,.int .i64 2,.int .i64 1,.int .i64 1,.bool false,.int .i64 3,.int .i64 0,.int .i64 0,.bool false] 55);have q2:=Dg.row_new (w4.alloc (.cells #[.int .i64 0,.int .i64 0,.int .i64 0,.bool false,.int .i64 2,.int .i64 0,.int .i64 0,.bool false,.int .i64 3,.int .i64 0,.int .i64 0,.bool false] 55)) #[.int .i64 0,.int .i64 0,.int .i64 0,.bool false,.int .i64 2,.int .i64 1,.int .i64 1,.bool false,.int .i64 3,.int .i64 0,.int .i64 0,.bool false] 55;rw[jU] at q2
 have b5:=bl1 w4 (.cells #[.int .i64 0,.int .i64 0,.int .i64 0,.bool false,.int .i64 2,.int .i64 0,.int .i64 0,.bool false,.int .i64 3,.int .i64 0,.int .i64 0,.bool false] 55);have b6:=bl1 (w4.alloc (.cells #[.int .i64 0,.int .i64 0,.int .i64 0,.bool false,.int .i64 2,.int .i64 0,.int .i64 0,.bool false,.int .i64 3,.int .i64 0,.int .i64 0,.bool false] 55)) (.cells #[.int .i64 0,.int .i64 0,.int .i64 0,.bool false,.int .i64 2,.int .i64 1,.int .i64 1,.bool false,.int .i64 3,.int .i64 0,.int .i64 0,.bool false] 55);have b7:=b5.trans (b6.mono b5.size);have b8:=hb4.trans (b7.mono hb4.size);have HL0:Hid (LvS w (.slice ia iRow.length ic) p (p+1) u1 u2 w4.heap.size (w4.heap.size+1) ((w4.alloc (.cells #[.int .i64 0,.int .i64 0,.int .i64 0,.bool false,.int .i64 2,.int .i64 0,.int .i64 0,.bool false,.int .i64 3,.int .i64 0,.int .i64 0,.bool false] 55)).alloc (.cells #[.int .i64 0,.int .i64 0,.int .i64 0,.bool false,.int .i64 2,.int .i64 1,.int .i64 1,.bool false,.int .i64 3,.int .i64 0,.int .i64 0,.bool false] 55))):=by
  have hbw:=HB3.out.trans (b8.mono HB3.out.size);exact⟨hbw,RdIt.later HRD3.out b8,HT.out _ hbw,(b8.block _ (jD.1 HBX3.out).1).trans HBX3.out,RF.later HN3.out b8,RF.later HU1.out b8,RF.later hu2 b7,RF.three q1,RF.three q2⟩
 have z4:=(Dg.cell_row HL0.out.box 0).trans rfl;clear hb4 hu2 q1 q2 b5 b6 b7 b8 HEN HB3 HRD3 HBX3 HN3 HU1 z3 HT;obtain⟨u1a,u1c,rfl⟩:∃a c,u1= .slice a 3 c:=by obtain⟨a,c,e,_⟩:=HL0.out.g;exact⟨a,c,e⟩
 obtain⟨u2a,u2c,rfl⟩:∃a c,u2= .slice a 3 c:=by obtain⟨a,c,e,_⟩:=HL0.out.d;exact⟨a,c,e⟩
 go_wp2_with fail
 generalize (w4.alloc (.cells #[.int .i64 0,.int .i64 0,.int .i64 0,.bool false,.int .i64 2,.int .i64 0,.int .i64 0,.bool false,.int .i64 3,.int .i64 0,.int .i64 0,.bool false] 55)).alloc (.cells #[.int .i64 0,.int .i64 0,.int .i64 0,.bool false,.int .i64 2,.int .i64 1,.int .i64 1,.bool false,.int .i64 3,.int .i64 0,.int .i64 0,.bool false] 55)=w5 at *;generalize w4.heap.size=q at *;have HM1:Hid _:=May_any (pf_row HL0.out.rd HL0.out.tab HL0.out.n (by decide));rw[mayN] at HM1
 refine Calls.mono HM1.out ?_;rintro e w6 ⟨hb6,a6,c6,rfl,hr6⟩;have hb7:=bl1 w6 (.cells #[.int .i64 1,.bool false,.int .i64 0] 47);have HL7:Hid _:=(HL0.out.later hb6).later hb7;have HS1:Hid _:=sameKeys_any [(1,false,0)] _ _ _ (hr6.later hb7) (RK.one (i:=1) (Dg.row_new w6 #[.int .i64 1,.bool false,.int .i64 0] 47)) (by decide);clear HM1 hb6 hr6 hb7 HL0 z4
 go_wp2_with fail
 refine Calls.mono HS1.out ?_;rintro e w8 ⟨rfl,hb8⟩;have HL8:Hid _:=HL7.out.later hb8;have z8:=(Dg.cell_row HL8.out.box 0).trans rfl;have HM2:Hid _:=May_any (pf_row HL8.out.rd HL8.out.tab HL8.out.g (by decide));rw[mayG] at HM2
 clear HS1 hb8 HL7
 go_wp2_with fail
 refine Calls.mono HM2.out ?_;rintro e w9 ⟨hb9,a9,c9,rfl,_⟩;have HL9:Hid _:=HL8.out.later hb9;have z9:=(Dg.cell_row HL9.out.box 0).trans rfl;have HNX:Hid _:=Next_any (pf_row HL9.out.rd HL9.out.tab HL9.out.g (by decide)) (pf_row HL9.out.rd HL9.out.tab HL9.out.d (by decide)) chkG mayG;rw[mayD] at HNX
 clear HM2 hb9 HL8 z8
 go_wp2_with fail
 refine Calls.mono HNX.out ?_;rintro e w10 ⟨hb10,a10,c10,rfl,hr10⟩;have hb11:=bl1 w10 (.cells #[.int .i64 2,.bool false,.int .i64 0] 47);have HL11:Hid _:=(HL9.out.later hb10).later hb11;have HS2:Hid _:=sameKeys_any [(2,false,0)] _ _ _ (hr10.later hb11) (RK.one (i:=2) (Dg.row_new w10 #[.int .i64 2,.bool false,.int .i64 0] 47)) (by decide);clear HNX hb10 hr10 hb11 HL9 z9
 go_wp2_with fail
 refine Calls.mono HS2.out ?_;rintro e w12 ⟨rfl,hb12⟩;have HL12:Hid _:=HL11.out.later hb12;have z12:=(Dg.cell_row HL12.out.box 0).trans rfl;have HI1:Hid _:=Is_any (pf_row HL12.out.rd HL12.out.tab HL12.out.f (by decide)) (1,true,0);rw[decide_eq_true isF] at HI1
 unfold KeV at HI1;dsimp only at HI1;clear HS2 hb12 HL11
 go_wp2_with fail
 refine Calls.mono HI1.out ?_;rintro e w13 ⟨rfl,hb13⟩;have HL13:Hid _:=HL12.out.later hb13;have z13:=(Dg.cell_row HL13.out.box 0).trans rfl;have HI2:Hid _:=Is_any (pf_row HL13.out.rd HL13.out.tab HL13.out.s (by decide)) (1,true,1);rw[decide_eq_true isP] at HI2
 unfold KeV at HI2;dsimp only at HI2;clear HI1 hb13 HL12 z12
 go_wp2_with fail
 refine Calls.mono HI2.out ?_;rintro e w14 ⟨rfl,hb14⟩;have HL14:Hid _:=HL13.out.later hb14;have z14:=(Dg.cell_row HL14.out.box 0).trans rfl;have HI3:Hid _:=Is_any (pf_row HL14.out.rd HL14.out.tab HL14.out.f (by decide)) (1,false,0);rw[decide_eq_false notF] at HI3
 unfold KeV at HI3;dsimp only at HI3;clear HI2 hb14 HL13 z13
 go_wp2_with fail
 refine Calls.mono HI3.out ?_;rintro e w15 ⟨rfl,hb15⟩;have HB15:Hid _:=(HL14.out.later hb15).bel;clear HI3 hb15 HL14 z14
 go_wp2_with fail
 go_ret
 exact⟨rfl,HB15.out⟩
end Go.Proofs.YtieoppabellafaaGreatDoor.Ts
