/- Texts of the seat, packed: DPf DQt SMa SMb SMc SMd SMe SMf SWA SWC SWB SWH SWM SWI SWJ. -/
import Derived.Test.YtieoppabellafaaGreatDoorH01
import Derived.Test.YtieoppabellafaaGreatDoorH03
import Derived.Test.YtieoppabellafaaGreatDoorRows
import GoSem.Core.Utf8
import Derived.Lib.Strings
import Derived.WalkKit
import Derived.WalkLawsBesides
import Derived.WalkSpells
import Derived.BigQuiet
import Derived.Deep.QuietTactic
import Derived.Laws.BytesArg
import Derived.Laws.IdiomStrings
import Derived.Lib.OthersKept
import Derived.Laws.OwnMore
import Derived.Lib.Bytealg
import Derived.Laws.Runes
import Derived.LoopN
set_option maxRecDepth 1000000
set_option maxHeartbeats 64000000
set_option linter.unusedVariables false
namespace Go.Proofs.YtieoppabellafaaGreatDoor.Dg
def swapA (l:List (Int × Int)):List (Int × Int):=l.map fun p=>(p.2,p.1)
theorem swapA_swapA (l:List (Int × Int)):swapA (swapA l)=l:=by
 unfold swapA;rw[List.map_map]
 exact (List.map_congr_left (fun p _=>rfl)).trans (List.map_id l)
theorem swapA_len (l:List (Int × Int)):(swapA l).length=l.length:=by simp[swapA]
theorem swapA_mem {l:List (Int × Int)}{a b:Int} :(a,b)∈swapA l↔(b,a)∈l:=by
 unfold swapA;rw[zS]
 constructor
 ·rintro⟨⟨p,q⟩,h,e⟩
  cases e;exact h
 ·intro h;exact⟨(b,a),h,rfl⟩
theorem swapA_ends (n:Nat)(l:List (Int × Int)):(swapA l).all (endsOk n)=l.all (endsOk n):=by
 unfold swapA;rw[List.all_map]
 congr 1
 funext p
 simp only[Function.comp,endsOk]
 congr 1
 exact propext ⟨fun h=>⟨h.2,h.1⟩,fun h=>⟨h.2,h.1⟩⟩
theorem web_turn {n:Nat}{l:List (Int × Int)}(h:l.all (endsOk n)=true)(t f:Nat):((webOf n (swapA l)).getD t 0).testBit f=true↔((webOf n l).getD f 0).testBit t=true:=by
 rw[webOf_bit n (swapA l) (by rw[swapA_ends];exact h),webOf_bit n l h,swapA_mem]
 constructor
 ·rintro⟨h1,_⟩
  have:=zF.1 h _ h1;simp only[endsOk,decide_eq_true_eq] at this;exact⟨h1,by omega⟩
 ·rintro⟨h1,_⟩
  have:=zF.1 h _ h1;simp only[endsOk,decide_eq_true_eq] at this;exact⟨h1,by omega⟩
theorem ord_turn {n:Nat}{l:List (Int × Int)}(h:l.all (endsOk n)=true){o:List Nat}(hO:OrdOk (webOf n l) o)(hl:o.length=n):OrdOk (webOf n (swapA l)) o.reverse:=by
 have hW:=webOf_len n l;have hW':=webOf_len n (swapA l);refine⟨List.pairwise_reverse.2 (List.Pairwise.imp (fun h=>fun e=>h e.symm) hO.nodup),?_,?_⟩
 ·intro x hx;rw[hW',←hW]
  exact hO.lt x (List.mem_reverse.1 hx)
 ·intro k x hk i hi;rw[web_turn h] at hi
  have hkl:k < o.length:=by have:=(jH.1 hk).1;simpa using this
  rw[List.getElem?_reverse hkl] at hk
  have hin:i < n:=by
   apply Classical.byContradiction
   intro hc;rw[jU,zM (by rw[hW];omega)] at hi
   simp at hi
  obtain⟨j,hj⟩:=zX.1 (ord_all hO (by rw[hW];exact hl) (by rw[hW];exact hin))
  have hjl:=(jH.1 hj).1;obtain⟨j',hj',hx'⟩:=mem_take_at (hO.ahead j i hj x hi)
  have he:=(List.getElem?_inj (by omega) hO.nodup).1 (hk.trans hx'.symm);refine at_mem_take (j:=o.length - 1 - j) ?_ (by omega);rw[List.getElem?_reverse (by omega),show o.length - 1 - (o.length - 1 - j)=j by omega]
  exact hj
theorem ordW_turn {n:Nat}{l:List (Int × Int)}(hn:n≤64)(h:l.all (endsOk n)=true){o:List Nat}(ho:ordW (webOf n l)=some o):∃o',ordW (webOf n (swapA l))=some o':=by
 have hW:=webOf_len n l;have hW':=webOf_len n (swapA l);obtain⟨h1,h2⟩:=ordGo_ok (webOf n l) (by omega) _ 0 [] _ (by omega) (by simp) ⟨by simp,by simp,by simp⟩ ho
 simp only[jP,zD,hW] at h2;exact ordW_some (by omega) (ord_turn h h1 h2) (by rw[List.length_reverse,h2,hW'])
theorem weave_turn (n:Int)(l:List (Int × Int)):(∃c,weaveP n l= .bad c∧weaveP n (swapA l)= .bad c)∨∃o o',weaveP n l= .ok (webOf n.toNat l) o∧weaveP n (swapA l)= .ok (webOf n.toNat (swapA l)) o':=by
 unfold weaveP;rw[swapA_len,swapA_ends]
 by_cases hc:n < 0∨64 < n∨4096 < l.length∨l.all (endsOk n.toNat)=false
 ·rw[if_pos hc,if_pos hc]
  exact .inl ⟨2,rfl,rfl⟩
 ·rw[if_neg hc,if_neg hc]
  have hall:l.all (endsOk n.toNat)=true:=by
   cases ha:l.all (endsOk n.toNat) with
   | true=>rfl
   | false=>exact absurd (.inr (.inr (.inr ha))) hc
  have hn:n.toNat≤64:=by
   have:¬64 < n:=fun h1=>hc (.inr (.inl h1))
   omega
  cases ho:ordW (webOf n.toNat l) with
  | some o=>
   obtain⟨o',ho'⟩:=ordW_turn hn hall ho
   rw[ho']
   exact .inr ⟨o,o',rfl,rfl⟩
  | none=>
   cases ho':ordW (webOf n.toNat (swapA l)) with
   | none=>exact .inl ⟨13,rfl,rfl⟩
   | some o'=>
    obtain⟨o'',h3⟩:=ordW_turn hn (by rw[swapA_ends];exact hall) ho'
    rw[swapA_swapA,ho] at h3
    cases h3
end Go.Proofs.YtieoppabellafaaGreatDoor.Dg
namespace Go.Proofs.YtieoppabellafaaGreatDoor.Dg
open Go.RowKit
structure RowA (wc:World)(b:Nat)(R:List (Int × Int)):Prop where
 row:wc.heap[b]? =some (.cells (avs R).toArray 164 (0,0))
theorem RowA.get {wc:World}{b:Nat}{R:List (Int × Int)}(h:RowA wc b R)(t:Nat)(ht:t < R.length):(∃x,wc.cell? ⟨b,t * 2,none⟩=some x)∧(∃x,wc.cell? ⟨b,t * 2+1,none⟩=some x)∧wc.frozen? ⟨b,t * 2,none⟩=false∧wc.frozen? ⟨b,t * 2+1,none⟩=false:=by
 have hl:=avs_len R;refine⟨⟨(avs R)[t * 2]'(by omega),?_⟩,⟨(avs R)[t * 2+1]'(by omega),?_⟩,froz_row h.row _,froz_row h.row _⟩
 ·rw[cell_row h.row,jY,jF]
 ·rw[cell_row h.row,jY,jF]
theorem avs_set:∀(R:List (Int × Int)) (t:Nat) (p:Int × Int),((avs R).set (t * 2) (.int .i64 p.1)).set (t * 2+1) (.int .i64 p.2)=avs (R.set t p):=by
 intro R
 induction R with
 | nil=>intro t p;rfl
 | cons q R ih=>
  intro t p;cases t with
  | zero=>rfl
  | succ t=>
   have h1:(t+1) * 2=t * 2+1+1:=by omega
   have h2:(t+1) * 2+1=(t * 2+1)+1+1:=by omega
   rw[h2,h1]
   simp only[avs,av,jK,jL,jB,ih t p]
theorem RowA.set {wc:World}{b:Nat}{R:List (Int × Int)}(h:RowA wc b R)(t:Nat)(p:Int × Int):RowA ((wc.setCell ⟨b,t * 2,none⟩ (.int .i64 p.1)).setCell ⟨b,t * 2+1,none⟩ (.int .i64 p.2)) b (R.set t p):=by
 refine⟨?_⟩
 have h1:=row_set (row_set h.row (t * 2) (.int .i64 p.1)) (t * 2+1) (.int .i64 p.2);rw[jA,jA,avs_set] at h1
 exact h1
theorem avs_zero (m:Nat):avs (List.replicate m (0,0))=List.replicate (m * 2) (Value.int .i64 0):=by
 induction m with
 | zero=>rfl
 | succ m ih=>
  rw[List.replicate_succ,show (m+1) * 2=m * 2+1+1 by omega,List.replicate_succ,List.replicate_succ]
  simp only[avs,av,ih,jK,jL]
theorem made_arcs (m:Nat):madeCells #[Value.int .i64 0,Value.int .i64 0] (m * 2)=(avs (List.replicate m (0,0))).toArray:=by
 apply Array.toList_inj.1
 rw[avs_zero]
 apply List.ext_getElem?
 intro j
 by_cases hj:j < m * 2
 ·rcases Nat.mod_two_eq_zero_or_one j with h | h <;> simp[madeCells,hj,h]
 ·simp[madeCells,hj]
def turnTo (l:List (Int × Int))(k:Nat):List (Int × Int):=swapA (l.take k) ++List.replicate (l.length - k) (0,0)
theorem turnTo_len (l:List (Int × Int))(k:Nat)(hk:k≤l.length):(turnTo l k).length=l.length:=by simp[turnTo,swapA];omega
theorem turnTo_step (l:List (Int × Int))(k:Nat)(p:Int × Int)(hx:l[k]? =some p):(turnTo l k).set k (p.2,p.1)=turnTo l (k+1):=by
 have hk:=(jH.1 hx).1;unfold turnTo;have hl:(swapA (l.take k)).length=k:=by simp[swapA];omega
 rw[List.set_append_right _ _ (by omega),hl,Nat.sub_self,show l.length - k=(l.length - (k+1))+1 by omega,List.replicate_succ,jC,zL,hx]
 simp[swapA]
theorem RowA.rd {wc:World}{b:Nat}{R:List (Int × Int)}(h:RowA wc b R)(hs:Small R):RdA wc (.slice (some ⟨b,0,none⟩) R.length R.length) R:=by
 refine⟨_,_,rfl,jG _,hs,fun i p hi=>⟨b,0,rfl,?_,?_⟩⟩
 ·rw[zD,cell_row h.row,jY]
  exact (avs_at R i 0 p hi (by omega)).trans rfl
 ·rw[zD,cell_row h.row,jY]
  exact (avs_at R i 1 p hi (by omega)).trans rfl
theorem Turn_any (v:Value)(l:List (Int × Int))(w:World)(hl:RdA w v l)(hn:l.length≤8192) :
  Calls Tryz.prog 67 #[v] w fun e w'=>Below w.heap.size w w'∧∃u,e= .returned u∧RdA w' u (swapA l):=by
 obtain⟨i0,hi0,hz0,hz1,hz2⟩:=info_parts Tryz.info164
 obtain⟨a,cap,rfl,hc,hs,hr⟩:=hl
 have HR:Hid _:=hr;have HS:Hid (Small l):=hs;obtain⟨n,HN⟩:∃n,Hid (l.length=n):=⟨_,rfl⟩
 rw[HN.out] at hn hc ⊢
 have hmk:=run_make (P:=Tryz.prog) w 115 164 i0 _ Tryz.underlying115 hi0 hz0 .i64 .i64 (n:Int) (n:Int) (by omega) (by omega) (by rw[hz2];omega) (by omega);simp only[hz1,j8] at hmk;have HRow0:Hid (RowA (w.alloc (.cells (madeCells #[Value.int .i64 0,Value.int .i64 0] (n * 2)) 164)) w.heap.size (turnTo l 0)):=by
  have h0:turnTo l 0=List.replicate n (0,0):=by unfold turnTo;rw[HN.out];simp[swapA]
  show RowA _ _ _;rw[h0]
  exact⟨by rw[←made_arcs];exact row_new w _ 164⟩
 have HB0:Hid (Below w.heap.size w (w.alloc (.cells (madeCells #[Value.int .i64 0,Value.int .i64 0] (n * 2)) 164))):=(Below.refl _ _).alloc (jG _) _;have HZ0:Hid (w.heap.size < (w.alloc (.cells (madeCells #[Value.int .i64 0,Value.int .i64 0] (n * 2)) 164)).heap.size):=by show _ < _;simp
 clear hr hs
 go_enter Tryz.func67,Tryz.ntmps67
 go_wp2_with fail
 generalize w.alloc (.cells (madeCells #[Value.int .i64 0,Value.int .i64 0] (n * 2)) 164)=w1 at *
 go_loopw [4,5,11] (fun _ _ iv wr=>∃(k:Nat),k≤n∧iv= .int .i64 k∧Hid (RowA wr w.heap.size (turnTo l k))∧Hid (Below w.heap.size w wr)∧Hid (w.heap.size < wr.heap.size)) (fun _ _ iv _=>n - (intOf iv).toNat)
 case atStart=>exact⟨0,zE _,rfl,HRow0,HB0,HZ0⟩
 case round=>
  obtain⟨k,hk,rfl,HRow,HB,HZ⟩:=hrel
  rename World=>w2
  clear HRow0 HB0 HZ0 hmk
  by_cases hlt:k < n
  ·obtain⟨p,hx⟩:∃p,l[k]? =some p:=⟨_,jF (by rw[HN.out];exact hlt)⟩
   obtain⟨b,off,rfl,c0,c1⟩:=HR.out k p hx
   have d0:=cell_later HB.out c0;have d1:=cell_later HB.out c1;have hki:(k:Int) < (n:Int):=by omega
   have HStep:Hid _:=turnTo_step l k p hx;have HTl:Hid ((turnTo l k).length=n):=by show _=_;rw[turnTo_len l k (by rw[HN.out];omega)];exact HN.out
   obtain⟨p1,p2⟩:=p
   simp only at d0 d1;have HRow2:Hid (RowA (w2.alloc (.cells #[.int .i64 p1,.int .i64 p2] 164)) w.heap.size (turnTo l k)):=⟨row_alloc HRow.out.row _⟩;have HB2:Hid (Below w.heap.size w (w2.alloc (.cells #[.int .i64 p1,.int .i64 p2] 164))):=HB.out.alloc (Nat.le_of_lt HZ.out) _;have HZ2:Hid (w.heap.size < (w2.alloc (.cells #[.int .i64 p1,.int .i64 p2] 164)).heap.size):=by have:=HZ.out;show _ < _;simp;omega
   have nb:=row_new w2 #[.int .i64 p1,.int .i64 p2] 164;obtain⟨⟨x0,g0⟩,⟨x1,g1⟩,f0,f1⟩:=HRow2.out.get k (by rw[HTl.out];exact hlt)
   have hrs:=row_set HRow2.out.row (k * 2) (.int .i64 p2);have f1':=froz_row hrs (k * 2+1);have g1':((w2.alloc (.cells #[.int .i64 p1,.int .i64 p2] 164)).setCell ⟨w.heap.size,k * 2,none⟩ (.int .i64 p2)).cell? ⟨w.heap.size,k * 2+1,none⟩=some x1:=by
    rw[cell_row hrs,Array.getElem?_setIfInBounds_ne (by omega),←cell_row HRow2.out.row]
    exact g1
   have HRow3:Hid (RowA (((w2.alloc (.cells #[.int .i64 p1,.int .i64 p2] 164)).setCell ⟨w.heap.size,k * 2,none⟩ (.int .i64 p2)).setCell ⟨w.heap.size,k * 2+1,none⟩ (.int .i64 p1)) w.heap.size (turnTo l (k+1))):=by
    show RowA _ _ _;rw[←HStep.out]
    exact HRow2.out.set k (p2,p1)
   have HB3:Hid (Below w.heap.size w (((w2.alloc (.cells #[.int .i64 p1,.int .i64 p2] 164)).setCell ⟨w.heap.size,k * 2,none⟩ (.int .i64 p2)).setCell ⟨w.heap.size,k * 2+1,none⟩ (.int .i64 p1))):=(HB2.out.setCell (p:=⟨w.heap.size,k * 2,none⟩) (jG _) _).setCell (p:=⟨w.heap.size,k * 2+1,none⟩) (jG _) _;have HZ3:Hid (w.heap.size < (((w2.alloc (.cells #[.int .i64 p1,.int .i64 p2] 164)).setCell ⟨w.heap.size,k * 2,none⟩ (.int .i64 p2)).setCell ⟨w.heap.size,k * 2+1,none⟩ (.int .i64 p1)).heap.size):=by have:=HZ2.out;show _ < _;simpa using this
   clear hx c0 c1 HRow HB hrs
   go_wp2_with fail
   go_roundw
   case rel=>exact⟨k+1,by omega,by go_num,HRow3,HB3,HZ3⟩
   case measure=>simp[intOf];omega
  ·have hkn:k=n:=by omega
   subst hkn;have HF:Hid (turnTo l k=swapA l):=by
    show _=_;unfold turnTo;rw[HN.out,Nat.sub_self,zR (by rw[HN.out];exact jG _)]
    simp
   go_wp2_with fail
   go_ret
   refine⟨HB.out,_,rfl,?_⟩
   have h9:=HRow.out;rw[HF.out] at h9
   have hsm:Small (swapA l):=by
    intro p hp;obtain⟨q,hq,rfl⟩:=zS.1 hp
    have:=HS.out q hq;exact⟨this.2,this.1⟩
   have h10:=h9.rd hsm;rw[swapA_len,HN.out] at h10
   exact h10
end Go.Proofs.YtieoppabellafaaGreatDoor.Dg
namespace Go.Proofs.YtieoppabellafaaGreatDoor.Sx
def isCp (r:Int):Bool:=decide (0≤r∧r≤1114111∧(r < 55296∨57343 < r))
def wid (r:Int):Int:=if r < 0 then 0 else if r < 128 then 1 else if r < 2048 then 2 else if r < 55296 then 3 else if r < 57344 then 0 else if r < 65536 then 3 else if r < 1114112 then 4 else 0
def encN (n:Nat):List UInt8:=
 if n < 128 then [UInt8.ofNat n]
 else if n < 2048 then [UInt8.ofNat (192+n / 64),UInt8.ofNat (128+n % 64)]
 else if n < 65536 then [UInt8.ofNat (224+n / 4096),UInt8.ofNat (128+n / 64 % 64),UInt8.ofNat (128+n % 64)]
 else [UInt8.ofNat (240+n / 262144),UInt8.ofNat (128+n / 4096 % 64),UInt8.ofNat (128+n / 64 % 64),UInt8.ofNat (128+n % 64)]
def enc (r:Int):List UInt8:=encN r.toNat
def encAll:List Int→List UInt8
 | []=>[]
 | c :: cs=>enc c ++encAll cs
def NoCp (l:List UInt8):Prop:=∀c,isCp c=true→¬(enc c <+:l)
structure Parts (l:List UInt8)(cs:List Int)(rest:List UInt8):Prop where
 eq:l=encAll cs ++rest
 cp:∀c∈cs,isCp c=true
 stop:rest=[]∨NoCp rest
theorem isCp_iff (r:Int):isCp r=true↔(0≤r∧r≤1114111∧(r < 55296∨57343 < r)):=by simp[isCp]
theorem ofNat_toNat (n:Nat)(h:n < 256):(UInt8.ofNat n).toNat=n:=by
 simp[Nat.mod_eq_of_lt h]
theorem valid_of (r:Int)(h:isCp r=true):Utf8.valid r=true:=by
 rw[isCp_iff] at h
 simp[Utf8.valid]
 omega
theorem enc_nat (n:Nat):enc n=encN n:=by
 rw[enc,j8]
theorem enc1 (n:Nat)(h:n < 128):enc n=[UInt8.ofNat n]:=by
 rw[enc_nat,encN,if_pos h]
theorem enc2 (n:Nat)(h0:128≤n)(h:n < 2048):enc n=[UInt8.ofNat (192+n / 64),UInt8.ofNat (128+n % 64)]:=by
 rw[enc_nat,encN,if_neg (by omega),if_pos h]
theorem enc3 (n:Nat)(h0:2048≤n)(h:n < 65536):enc n=[UInt8.ofNat (224+n / 4096),UInt8.ofNat (128+n / 64 % 64),UInt8.ofNat (128+n % 64)]:=by
 rw[enc_nat,encN,if_neg (by omega),if_neg (by omega),if_pos h]
theorem enc4 (n:Nat)(h0:65536≤n):enc n=[UInt8.ofNat (240+n / 262144),UInt8.ofNat (128+n / 4096 % 64),UInt8.ofNat (128+n / 64 % 64),UInt8.ofNat (128+n % 64)]:=by
 rw[enc_nat,encN,if_neg (by omega),if_neg (by omega),if_neg (by omega)]
theorem cp_cases (r:Int)(h:isCp r=true):∃n:Nat,r=n∧(n < 128∨(128≤n∧n < 2048)∨(2048≤n∧n < 65536∧(n < 55296∨57343 < n))∨(65536≤n∧n < 1114112)):=by
 rw[isCp_iff] at h
 exact⟨r.toNat,by omega,by omega⟩
theorem get_drop (s:ByteArray)(pos k:Nat):s.get! (pos+k)=(s.data.toList.drop pos)[k]?.getD 0:=by
 rw[List.getElem?_drop]
 show s.data[pos+k]! =_
 by_cases h:pos+k < s.data.size
 ·rw[getElem!_pos s.data (pos+k) h]
  rw[Array.getElem?_toList,Array.getElem?_eq_getElem h]
  rfl
 ·rw[getElem!_neg s.data (pos+k) h]
  rw[Array.getElem?_toList,Array.getElem?_eq_none (by omega)]
  rfl
theorem in_drop (s:ByteArray)(pos k:Nat):decide (pos+k < s.size)=decide (k < (s.data.toList.drop pos).length):=by
 rw[decide_eq_decide,List.length_drop]
 show pos+k < s.data.size↔_;simp;omega
theorem decode_cp (s:ByteArray)(pos:Nat)(c:Int)(t:List UInt8)(hl:s.data.toList.drop pos=enc c ++t)(h:isCp c=true):Utf8.decode s pos=(c.toNat,(enc c).length):=by
 unfold Utf8.decode Utf8.runeError;simp only[get_drop,in_drop,hl];clear hl;obtain⟨n,rfl,hn⟩:=cp_cases c h
 rcases hn with hn | ⟨h1,h2⟩ | ⟨h1,h2,h3⟩ | ⟨h1,h2⟩
 ·rw[enc1 n hn]
  have e0:=ofNat_toNat n (by omega);simp only[jK,jL,zA,Option.getD_some,e0];rw[if_pos hn]
  simp
 ·rw[enc2 n h1 h2]
  have e0:=ofNat_toNat (192+n / 64) (by omega);have e1:=ofNat_toNat (128+n % 64) (by omega);simp only[jK,jL,zA,jZ,Option.getD_some,e0,e1];rw[if_neg (by omega),if_pos (by simp;omega),if_pos (by omega)]
  simp;omega
 ·rw[enc3 n h1 h2]
  have e0:=ofNat_toNat (224+n / 4096) (by omega);have e1:=ofNat_toNat (128+n / 64 % 64) (by omega);have e2:=ofNat_toNat (128+n % 64) (by omega);simp only[jK,jL,zA,jZ,Option.getD_some,e0,e1,e2];have ec:(224+n / 4096) % 16 * 4096+ (128+n / 64 % 64) % 64 * 64+ (128+n % 64) % 64=n:=by omega
  rw[ec]
  rw[if_neg (by omega),if_neg (by simp;omega),if_pos (by simp;omega),if_pos (by simp[valid_of _ h];omega)]
  simp
 ·rw[enc4 n h1]
  have e0:=ofNat_toNat (240+n / 262144) (by omega);have e1:=ofNat_toNat (128+n / 4096 % 64) (by omega);have e2:=ofNat_toNat (128+n / 64 % 64) (by omega);have e3:=ofNat_toNat (128+n % 64) (by omega);simp only[jK,jL,zA,jZ,Option.getD_some,e0,e1,e2,e3];have ec:(240+n / 262144) % 8 * 262144+ (128+n / 4096 % 64) % 64 * 4096+ (128+n / 64 % 64) % 64 * 64+ (128+n % 64) % 64=n:=by omega
  rw[ec]
  rw[if_neg (by omega),if_neg (by simp;omega),if_neg (by simp;omega),if_pos (by simp;omega),if_pos (by simp[valid_of _ h];omega)]
  simp
theorem cp_of_valid (n:Nat)(h:Utf8.valid n=true):isCp n=true:=by
 rw[isCp_iff]
 simp[Utf8.valid] at h
 omega
theorem byte_eq (a:UInt8)(n:Nat)(h:a.toNat=n):UInt8.ofNat n=a:=by
 apply UInt8.toNat_inj.1
 have:=a.toNat_lt;rw[ofNat_toNat n (by omega),h]
theorem pre_two (a b:UInt8)(t:List UInt8)(h1:a.toNat / 32=6)(h2:b.toNat / 64=2)(h3:128≤a.toNat % 32 * 64+b.toNat % 64) :
  ∃c,isCp c=true∧enc c <+:a :: b :: t:=by
 have ha:=a.toNat_lt;have hb:=b.toNat_lt;refine⟨((a.toNat % 32 * 64+b.toNat % 64:Nat):Int),by rw[isCp_iff];omega,?_⟩
 rw[enc2 _ (by omega) (by omega),byte_eq a _ (by omega),byte_eq b _ (by omega)]
 exact⟨t,rfl⟩
theorem pre_three (a b c:UInt8)(t:List UInt8)(h1:a.toNat / 16=14)(h2:b.toNat / 64=2)(h4:c.toNat / 64=2)(h3:2048≤a.toNat % 16 * 4096+b.toNat % 64 * 64+c.toNat % 64)
  (hv:Utf8.valid ((a.toNat % 16 * 4096+b.toNat % 64 * 64+c.toNat % 64:Nat):Int)=true):∃r,isCp r=true∧enc r <+:a :: b :: c :: t:=by
 have ha:=a.toNat_lt;have hb:=b.toNat_lt;have hc:=c.toNat_lt;refine⟨((a.toNat % 16 * 4096+b.toNat % 64 * 64+c.toNat % 64:Nat):Int),cp_of_valid _ hv,?_⟩
 rw[enc3 _ (by omega) (by omega),byte_eq a _ (by omega),byte_eq b _ (by omega),byte_eq c _ (by omega)]
 exact⟨t,rfl⟩
theorem pre_four (a b c d:UInt8)(t:List UInt8)(h1:a.toNat / 8=30)(h2:b.toNat / 64=2)(h4:c.toNat / 64=2)(h5:d.toNat / 64=2)(h3:65536≤a.toNat % 8 * 262144+b.toNat % 64 * 4096+c.toNat % 64 * 64+d.toNat % 64)
  (hv:Utf8.valid ((a.toNat % 8 * 262144+b.toNat % 64 * 4096+c.toNat % 64 * 64+d.toNat % 64:Nat):Int)=true):∃r,isCp r=true∧enc r <+:a :: b :: c :: d :: t:=by
 have ha:=a.toNat_lt;have hb:=b.toNat_lt;have hc:=c.toNat_lt;have hd:=d.toNat_lt;refine⟨((a.toNat % 8 * 262144+b.toNat % 64 * 4096+c.toNat % 64 * 64+d.toNat % 64:Nat):Int),cp_of_valid _ hv,?_⟩
 rw[enc4 _ (by omega),byte_eq a _ (by omega),byte_eq b _ (by omega),byte_eq c _ (by omega),byte_eq d _ (by omega)]
 exact⟨t,rfl⟩
theorem decode_good (s:ByteArray)(pos:Nat)(a:UInt8)(t:List UInt8)(hl:s.data.toList.drop pos=a :: t)(q:Nat)(h:Utf8.decode s pos≠(q,1)∨a.toNat < 128)(hq:q=65533):∃c,isCp c=true∧enc c <+:a :: t:=by
 by_cases h0:a.toNat < 128
 ·refine⟨(a.toNat:Int),by rw[isCp_iff];omega,?_⟩
  rw[enc1 _ h0,byte_eq a _ rfl]
  exact⟨t,rfl⟩
 have hd:Utf8.decode s pos≠(q,1):=by
  rcases h with h | h
  ·exact h
  ·exact absurd h h0
 rw[hq] at hd
 revert hd
 unfold Utf8.decode Utf8.runeError;simp only[get_drop,in_drop,hl];clear hl;simp only[zA,Option.getD_some];generalize (65533,1)=z;rw[if_neg h0]
 split
 ·rename_i h1
  split
  ·rename_i h2
   intro _;cases t with
   | nil=>simp at h1
   | cons b t=>
    simp only[jZ,zA,Option.getD_some] at h1 h2;simp at h1;exact pre_two a b t h1.1 h1.2 h2
  ·intro hx;exact absurd rfl hx
 split
 ·rename_i h1 h2
  clear h1
  split
  ·rename_i h3
   intro _;cases t with
   | nil=>simp at h2
   | cons b t=>
    cases t with
    | nil=>simp at h2
    | cons c t=>
     simp only[jZ,zA,Option.getD_some] at h2 h3;simp at h2;simp only[jT,decide_eq_true_eq] at h3;exact pre_three a b c t h2.1.1 h2.1.2 h2.2 h3.1 h3.2
  ·intro hx;exact absurd rfl hx
 split
 ·rename_i h1 h2 h3
  clear h1 h2
  split
  ·rename_i h4
   intro _;cases t with
   | nil=>simp at h3
   | cons b t=>
    cases t with
    | nil=>simp at h3
    | cons c t=>
     cases t with
     | nil=>simp at h3
     | cons d t=>
      simp only[jZ,zA,Option.getD_some] at h3 h4;simp at h3;simp only[jT,decide_eq_true_eq] at h4;exact pre_four a b c d t h3.1.1.1 h3.1.1.2 h3.1.2 h3.2 h4.1 h4.2
  ·intro hx;exact absurd rfl hx
 ·intro hx;exact absurd rfl hx
theorem decode_none (s:ByteArray)(pos:Nat)(l:List UInt8)(hl:s.data.toList.drop pos=l)(h:NoCp l)(hne:l≠[]):Utf8.decode s pos=(65533,1):=by
 cases l with
 | nil=>exact absurd rfl hne
 | cons a t=>
  by_cases hd:Utf8.decode s pos=(65533,1)
  ·exact hd
  ·obtain⟨c,hc,hp⟩:=decode_good s pos a t hl 65533 (.inl hd) rfl
   exact absurd hp (h c hc)
theorem enc_len (c:Int)(h:isCp c=true):((enc c).length:Int)=wid c:=by
 obtain⟨n,rfl,hn⟩:=cp_cases c h
 rcases hn with hn | ⟨h1,h2⟩ | ⟨h1,h2,h3⟩ | ⟨h1,h2⟩
 ·rw[enc1 n hn]
  unfold wid;rw[if_neg (by omega),if_pos (by omega)]
  rfl
 ·rw[enc2 n h1 h2]
  unfold wid;rw[if_neg (by omega),if_neg (by omega),if_pos (by omega)]
  rfl
 ·rw[enc3 n h1 h2]
  unfold wid;rw[if_neg (by omega),if_neg (by omega),if_neg (by omega)]
  rcases h3 with h3 | h3
  ·rw[if_pos (by omega)]
   rfl
  ·rw[if_neg (by omega),if_neg (by omega),if_pos (by omega)]
   rfl
 ·rw[enc4 n h1]
  unfold wid;rw[if_neg (by omega),if_neg (by omega),if_neg (by omega),if_neg (by omega),if_neg (by omega),if_neg (by omega),if_pos (by omega)]
  rfl
theorem wid_bd (c:Int)(h:isCp c=true):1≤wid c∧wid c≤4:=by
 rw[isCp_iff] at h
 unfold wid
 repeat' split
 all_goals omega
theorem enc_pos (c:Int)(h:isCp c=true):1≤(enc c).length∧(enc c).length≤4:=by
 have h1:=enc_len c h;have h2:=wid_bd c h;omega
theorem cp_toNat (c:Int)(h:isCp c=true):((c.toNat:Nat):Int)=c:=by
 rw[isCp_iff] at h
 omega
theorem encAll_append (a b:List Int):encAll (a ++b)=encAll a ++encAll b:=by
 induction a with
 | nil=>rfl
 | cons c a ih=>simp[encAll,ih]
theorem encAll_one (c:Int):encAll [c]=enc c:=by simp[encAll]
theorem parts_exists_aux (n:Nat):∀l:List UInt8,l.length≤n→∃cs rest,Parts l cs rest:=by
 induction n with
 | zero=>
  intro l hl;have:l=[]:=zV (by omega);exact⟨[],l,by simp[encAll],by simp,.inl this⟩
 | succ n ih=>
  intro l hl
  by_cases h:∃c,isCp c=true∧enc c <+:l
  ·obtain⟨c,hc,t,ht⟩:=h
   have hp:=enc_pos c hc;have hlen:l.length=(enc c).length+t.length:=by rw[←ht];simp
   obtain⟨cs,rest,p⟩:=ih t (by omega)
   refine⟨c :: cs,rest,?_,?_,p.stop⟩
   ·rw[←ht,p.eq]
    simp[encAll]
   ·intro x hx
    rcases zJ.1 hx with rfl | hx
    ·exact hc
    ·exact p.cp x hx
  ·refine⟨[],l,by simp[encAll],by simp,.inr ?_⟩
   intro c hc hp;exact h ⟨c,hc,hp⟩
theorem parts_exists (l:List UInt8):∃cs rest,Parts l cs rest:=parts_exists_aux l.length l (jG _)
theorem enc_unique (a b:Int)(l:List UInt8)(ha:isCp a=true)(hb:isCp b=true)(pa:enc a <+:l)(pb:enc b <+:l):a=b:=by
 obtain⟨t,rfl⟩:=pa
 obtain⟨u,hu⟩:=pb
 have h1:=decode_cp ⟨(enc a ++t).toArray⟩ 0 a t (by simp) ha;have h2:=decode_cp ⟨(enc a ++t).toArray⟩ 0 b u (by rw[←hu];simp) hb;rw[h1] at h2
 have h3:=congrArg Prod.fst h2;have h4:=cp_toNat a ha;have h5:=cp_toNat b hb;simp only at h3;omega
theorem size_list (s:ByteArray):s.data.toList.length=s.size:=by
 show s.data.toList.length=s.data.size;simp
theorem decode_at (s:ByteArray)(d todo:List Int)(c:Int)(rest:List UInt8)(h:s.data.toList=encAll (d ++c :: todo) ++rest)(hc:isCp c=true) :
  Utf8.decode s (encAll d).length=(c.toNat,(enc c).length):=by
 refine decode_cp s _ c (encAll todo ++rest) ?_ hc;rw[h,encAll_append]
 simp only[List.append_assoc,List.drop_left,encAll]
theorem decode_stop (s:ByteArray)(cs:List Int)(rest:List UInt8)(h:s.data.toList=encAll cs ++rest)(hn:NoCp rest)(hne:rest≠[]) :
  Utf8.decode s (encAll cs).length=(65533,1):=by
 refine decode_none s _ rest ?_ hn hne;rw[h,List.drop_left]
def hp (t:ByteArray):Bool:=decide (t.data.toList.take 3=[239,191,189])
theorem enc_bad:enc 65533=[239,191,189]:=by decide +kernel
theorem hp_yes (s:ByteArray)(d todo:List Int)(rest:List UInt8)(h:s.data.toList=encAll (d ++65533 :: todo) ++rest) :
  hp (s.extract (encAll d).length s.size)=true:=by
 have hz:=size_list s;unfold hp;rw[Lib.extract_data,h,encAll_append]
 simp only[List.append_assoc,List.drop_left,encAll,enc_bad];rw[h,encAll_append] at hz
 simp[encAll,enc_bad] at hz
 have e:s.size - (encAll d).length=3+ (encAll todo).length+rest.length:=by omega
 rw[e]
 simp[List.take_take]
 rw[show min 3 (3+ (encAll todo).length+rest.length)=3 by omega]
 simp
theorem hp_no (s:ByteArray)(cs:List Int)(rest:List UInt8)(h:s.data.toList=encAll cs ++rest)(hn:NoCp rest) :
  hp (s.extract (encAll cs).length s.size)=false:=by
 unfold hp;rw[decide_eq_false_iff_not]
 intro e;rw[Lib.extract_data,h,List.drop_left,List.take_take] at e
 have h1:enc 65533 <+:rest:=by
  rw[enc_bad,←e]
  exact List.take_prefix _ _
 exact hn 65533 (by decide) h1
def bt (s:ByteArray)(i:Nat):Nat:=(s.data.toList.getD i 0).toNat
theorem bt_at (s:ByteArray)(i:Nat)(h:i < s.size):s[i].toNat=bt s i:=by
 have h2:i < s.data.size:=h;unfold bt;have e:s.data.toList.getD i 0=s[i]:=by
  rw[jU,Array.getElem?_toList,Array.getElem?_eq_getElem h2]
  rfl
 rw[e]
theorem bt_lt (s:ByteArray)(i:Nat):bt s i < 256:=by
 unfold bt;exact UInt8.toNat_lt _
def kl (r:Int):Int:=
  if isCp r=false then 0 else if 128≤r∨(97≤r∧r≤122)∨(65≤r∧r≤90)∨r=95 then 1 else if 48≤r∧r≤57 then 2
  else if r=9∨r=10∨r=13∨r=32 then 3 else if 32 < r∧r < 127 then 4 else 0
def isMark (c:Int):Bool:=decide (c=123∨c=125∨c=40∨c=41∨c=59∨c=44)
structure Tok where
  kind:Int
  text:List UInt8
  at_:Nat
structure Sc where
  done:List Tok
  cur:Option (Nat × List UInt8)
  remark:Bool
def curToks:Option (Nat × List UInt8)→List Tok
  | none=>[]
  | some p=>[⟨1,p.2,p.1⟩]
def Sc.toks (s:Sc):List Tok:=s.done ++curToks s.cur
def sc0:Sc:=⟨[],none,false⟩
inductive Out where
  | ok (s:Sc)
  | err (p:Nat) (e:Int)
def letterS (s:Sc)(at_:Nat)(c:Int):Out:=
  match s.cur with
  | none=> .ok ⟨s.done,some (at_,enc c),false⟩
  | some p=>if p.1+24 < at_+ (enc c).length then .err p.1 5 else .ok ⟨s.done,some (p.1,p.2 ++enc c),false⟩
def stepS (s:Sc)(at_:Nat)(c:Int):Out:=
  if s.remark=true then .ok ⟨s.done,s.cur,decide (c≠10)⟩
  else if c=35 then .ok ⟨s.toks,none,true⟩
  else if kl c=3 then .ok ⟨s.toks,none,false⟩
  else if isMark c=true then .ok ⟨s.toks ++ [⟨2,enc c,at_⟩],none,false⟩
  else if kl c=2 then (match s.cur with | none=> .err at_ 10 | some _=>letterS s at_ c)
  else if kl c=1 then letterS s at_ c
  else .err at_ 10
def goS (s:Sc)(at_:Nat):List Int→Out
  | []=> .ok s
  | c :: cs=>match stepS s at_ c with
    | .ok s'=>goS s' (at_+ (enc c).length) cs
    | .err p e=> .err p e
theorem goS_append (a b:List Int):∀(s:Sc) (p:Nat),goS s p (a ++b)=match goS s p a with
    | .ok s'=>goS s' (p+ (encAll a).length) b
    | .err q e=> .err q e:=by
  induction a with
  | nil=>intro s p;simp[goS,encAll]
  | cons c a ih=>
    intro s p
    simp only[jK,goS]
    cases h:stepS s p c with
    | ok s'=>
      simp only
      rw[ih]
      simp[encAll,Nat.add_assoc]
    | err q e=>rfl
theorem goS_snoc_ok {s s':Sc}{p:Nat}{d:List Int}(h:goS s p d= .ok s')(c:Int):goS s p (d ++ [c])=stepS s' (p+ (encAll d).length) c:=by
  rw[goS_append,h]
  simp only[goS]
  cases stepS s' (p+ (encAll d).length) c <;> rfl
theorem goS_prefix {s s':Sc}{p:Nat}{a b:List Int}(h:goS s p (a ++b)= .ok s'):∃s1,goS s p a= .ok s1∧goS s1 (p+ (encAll a).length) b= .ok s':=by
  rw[goS_append] at h
  cases h1:goS s p a with
  | ok s1=>rw[h1] at h;exact⟨s1,rfl,h⟩
  | err q e=>rw[h1] at h;cases h
theorem snoc_ind {α:Type}{P:List α→Prop}(h0:P [])(h1:∀d c,P d→P (d ++ [c]))(l:List α):P l:=by
  have h:∀n,∀l:List α,l.length=n→P l:=by
    intro n
    induction n with
    | zero=>intro l hl;rw[zV hl];exact h0
    | succ n ih=>
      intro l hl
      have hne:l≠[]:=by intro h;rw[h] at hl;cases hl
      rw[←List.dropLast_concat_getLast hne]
      exact h1 _ _ (ih _ (by rw[List.length_dropLast,hl];rfl))
  exact h _ l rfl
theorem kl_name (c:Int)(h:kl c=1∨kl c=2):c≠35∧kl c≠3∧isMark c=false∧c≠10:=by
  have h3:kl c≠3:=by omega
  unfold kl at h
  refine⟨?_,h3,?_,?_⟩
  · rintro rfl;revert h;decide
  · unfold isMark
    rw[decide_eq_false_iff_not]
    rintro (rfl | rfl | rfl | rfl | rfl | rfl) <;> (revert h;decide)
  · rintro rfl;revert h;decide
theorem kl_mark (c:Int)(h:isMark c=true):kl c=4∧c≠35∧enc c=[UInt8.ofNat c.toNat]∧isCp c=true∧0≤c∧c < 128:=by
  unfold isMark at h
  rw[decide_eq_true_eq] at h
  rcases h with rfl | rfl | rfl | rfl | rfl | rfl <;> decide +kernel
theorem step_ok {s s':Sc}{p:Nat}{c:Int}(h:stepS s p c= .ok s') :
    (s.remark=true∧s'=⟨s.done,s.cur,decide (c≠10)⟩)∨
    (s.remark=false∧(c=35∨kl c=3)∧s'=⟨s.toks,none,decide (c=35)⟩)∨
    (s.remark=false∧isMark c=true∧s'=⟨s.toks ++ [⟨2,enc c,p⟩],none,false⟩)∨
    (s.remark=false∧s.cur=none∧kl c=1∧s'=⟨s.done,some (p,enc c),false⟩)∨
    (∃q t,s.remark=false∧s.cur=some (q,t)∧(kl c=1∨kl c=2)∧p+ (enc c).length≤q+24∧s'=⟨s.done,some (q,t ++enc c),false⟩):=by
  have fin:s.remark=false→(kl c=1∨(kl c=2∧s.cur≠none))→letterS s p c= .ok s'→
      (s.remark=false∧s.cur=none∧kl c=1∧s'=⟨s.done,some (p,enc c),false⟩)∨
      (∃q t,s.remark=false∧s.cur=some (q,t)∧(kl c=1∨kl c=2)∧p+ (enc c).length≤q+24∧s'=⟨s.done,some (q,t ++enc c),false⟩):=by
    intro hr hk hl
    unfold letterS at hl
    split at hl
    · rename_i hc
      simp only[Out.ok.injEq] at hl
      rcases hk with hk | ⟨_,hn⟩
      · exact .inl ⟨hr,hc,hk,hl.symm⟩
      · exact absurd hc hn
    · rename_i q hc
      split at hl
      · cases hl
      · rename_i hle
        simp only[Out.ok.injEq] at hl
        exact .inr ⟨q.1,q.2,hr,hc,hk.imp id And.left,by omega,hl.symm⟩
  unfold stepS at h
  split at h
  · rename_i hr
    simp only[Out.ok.injEq] at h
    exact .inl ⟨hr,h.symm⟩
  rename_i hr
  have hr:s.remark=false:=by simpa using hr
  split at h
  · rename_i hc
    simp only[Out.ok.injEq] at h
    exact .inr (.inl ⟨hr,.inl hc,by rw[←h];simp[hc]⟩)
  rename_i hc
  split at h
  · rename_i hk
    simp only[Out.ok.injEq] at h
    exact .inr (.inl ⟨hr,.inr hk,by rw[←h];simp[hc]⟩)
  split at h
  · rename_i hm
    simp only[Out.ok.injEq] at h
    exact .inr (.inr (.inl ⟨hr,hm,h.symm⟩))
  split at h
  · rename_i hk
    split at h
    · cases h
    · rename_i q hcur
      exact .inr (.inr (.inr (fin hr (.inr ⟨hk,by rw[hcur];simp⟩) h)))
  split at h
  · rename_i hk
    exact .inr (.inr (.inr (fin hr (.inl hk) h)))
  · cases h
theorem step_err {s:Sc}{p:Nat}{c:Int}{q:Nat}{e:Int}(h:stepS s p c= .err q e) :
    s.remark=false∧c≠35∧kl c≠3∧isMark c=false∧
    ((q=p∧e=10∧((kl c=2∧s.cur=none)∨(kl c≠1∧kl c≠2)))∨
     (∃t,e=5∧s.cur=some (q,t)∧(kl c=1∨kl c=2)∧q+24 < p+ (enc c).length)):=by
  have fin:(kl c=1∨kl c=2)→letterS s p c= .err q e→∃t,e=5∧s.cur=some (q,t)∧(kl c=1∨kl c=2)∧q+24 < p+ (enc c).length:=by
    intro hk hl
    unfold letterS at hl
    split at hl
    · cases hl
    · rename_i x hc
      split at hl
      · rename_i hle
        simp only[Out.err.injEq] at hl
        obtain⟨rfl,rfl⟩:=hl
        exact⟨x.2,rfl,hc,hk,hle⟩
      · cases hl
  unfold stepS at h
  split at h
  · cases h
  rename_i hr
  have hr:s.remark=false:=by simpa using hr
  split at h
  · cases h
  rename_i h35
  split at h
  · cases h
  rename_i h3
  split at h
  · cases h
  rename_i hm
  refine⟨hr,h35,h3,by simpa using hm,?_⟩
  split at h
  · rename_i hk
    split at h
    · rename_i hcur
      simp only[Out.err.injEq] at h
      exact .inl ⟨h.1.symm,h.2.symm,.inl ⟨hk,hcur⟩⟩
    · exact .inr (fin (.inr hk) h)
  rename_i hk2
  split at h
  · rename_i hk
    exact .inr (fin (.inl hk) h)
  · rename_i hk1
    simp only[Out.err.injEq] at h
    exact .inl ⟨h.1.symm,h.2.symm,.inr ⟨hk1,hk2⟩⟩
theorem step_more (done:List Tok)(q:Nat)(t:List UInt8)(p:Nat)(c:Int)(hk:kl c=1∨kl c=2) :
    stepS ⟨done,some (q,t),false⟩ p c=if q+24 < p+ (enc c).length then .err q 5 else .ok ⟨done,some (q,t ++enc c),false⟩:=by
  obtain⟨h1,h2,h3,_⟩:=kl_name c hk
  unfold stepS
  simp only[h1,h2,h3,if_false,Bool.false_eq_true]
  rcases hk with hk | hk
  · rw[if_neg (by omega),if_pos hk]
    rfl
  · rw[if_pos hk]
    rfl
theorem step_new (done:List Tok)(p:Nat)(c:Int)(hk:kl c=1):stepS ⟨done,none,false⟩ p c= .ok ⟨done,some (p,enc c),false⟩:=by
  obtain⟨h1,h2,h3,_⟩:=kl_name c (.inl hk)
  unfold stepS
  simp only[h1,h2,h3,if_false,Bool.false_eq_true]
  rw[if_neg (by omega),if_pos hk]
  rfl
theorem remark_cur:∀(d:List Int) (s:Sc),goS sc0 0 d= .ok s→s.remark=true→s.cur=none:=by
  intro d
  induction d using snoc_ind with
  | h0=>intro s h _;simp only[goS,Out.ok.injEq] at h;rw[←h];rfl
  | h1 d c ih=>
    intro s h hr
    obtain⟨s1,h1,h2⟩:=goS_prefix h
    rw[goS_snoc_ok h1] at h
    rcases step_ok h with ⟨a,rfl⟩ | ⟨_,_,rfl⟩ | ⟨_,_,rfl⟩ | ⟨_,_,_,rfl⟩ | ⟨_,_,_,_,_,_,rfl⟩
    · exact ih s1 h1 a
    · rfl
    · rfl
    · cases hr
    · cases hr
theorem cur_inv:∀(d:List Int) (s:Sc),goS sc0 0 d= .ok s→∀p t,s.cur=some (p,t)→
    ∃d1 d2,d=d1 ++d2∧t=encAll d2∧p=(encAll d1).length∧(∃s1,goS sc0 0 d1= .ok s1)∧goS sc0 0 d2= .ok ⟨[],some (0,t),false⟩∧d2≠[]:=by
  intro d
  induction d using snoc_ind with
  | h0=>intro s h p t hc;simp only[goS,Out.ok.injEq] at h;rw[←h] at hc;cases hc
  | h1 d c ih=>
    intro s h p t hc
    obtain⟨s1,h1,h2⟩:=goS_prefix h
    rw[goS_snoc_ok h1,zD] at h
    rcases step_ok h with ⟨a,rfl⟩ | ⟨_,_,rfl⟩ | ⟨_,_,rfl⟩ | ⟨_,_,hk,rfl⟩ | ⟨q,u,_,hcur,hk,hle,rfl⟩
    · rw[show s1.cur=none from remark_cur d s1 h1 a] at hc
      cases hc
    · cases hc
    · cases hc
    · simp only[Option.some.injEq,Prod.mk.injEq] at hc
      obtain⟨rfl,rfl⟩:=hc
      refine⟨d,[c],rfl,by simp[encAll],rfl,⟨s1,h1⟩,?_,by simp⟩
      simp only[goS,sc0,step_new [] 0 c hk]
    · simp only[Option.some.injEq,Prod.mk.injEq] at hc
      obtain⟨rfl,rfl⟩:=hc
      obtain⟨d1,d2,e1,e2,e3,e4,e5,e6⟩:=ih s1 h1 q u hcur
      refine⟨d1,d2 ++ [c],by rw[e1];simp,by rw[encAll_append,encAll_one,e2],e3,e4,?_,by simp⟩
      rw[goS_snoc_ok e5,step_more _ _ _ _ _ hk]
      have hlen:(encAll d).length=(encAll d1).length+ (encAll d2).length:=by rw[e1,encAll_append,j9]
      rw[if_neg (by omega)]
structure Res where
  toks:List Tok
  place:Nat
  err:Int
def lexR (cs:List Int)(rest:List UInt8):Res:=
  match goS sc0 0 cs with
  | .err p e=>⟨[],p,e⟩
  | .ok s=>if rest=[] then ⟨s.toks,(encAll cs).length,0⟩ else ⟨[],(encAll cs).length,4⟩
theorem toks_len:∀(d:List Int),(∀c∈d,isCp c=true)→∀s,goS sc0 0 d= .ok s→s.toks.length≤(encAll d).length:=by
  intro d
  induction d using snoc_ind with
  | h0=>intro _ s h;simp only[goS,Out.ok.injEq] at h;rw[←h];simp[Sc.toks,sc0,curToks]
  | h1 d c ih=>
    intro hcp s h
    obtain⟨s1,h1,h2⟩:=goS_prefix h
    rw[goS_snoc_ok h1,zD] at h
    have hi:=ih (fun x hx=>hcp x (by simp[hx])) s1 h1
    have he:=(enc_pos c (hcp c (by simp))).1
    rw[encAll_append,encAll_one,j9]
    rcases step_ok h with ⟨a,rfl⟩ | ⟨_,_,rfl⟩ | ⟨_,_,rfl⟩ | ⟨_,hc,hk,rfl⟩ | ⟨q,u,_,hcur,hk,hle,rfl⟩
    · simp[Sc.toks] at hi ⊢;omega
    · simp[Sc.toks,curToks] at hi ⊢;omega
    · simp[Sc.toks,curToks] at hi ⊢;omega
    · simp[Sc.toks,curToks] at hi ⊢;omega
    · simp[Sc.toks,curToks,hcur] at hi ⊢;omega
theorem lexR_ok {cs:List Int}{st:Sc}(h:goS sc0 0 cs= .ok st):lexR cs []=⟨st.toks,(encAll cs).length,0⟩:=by
 unfold lexR;rw[h]
 rfl
def isNm (c:Int):Bool:=decide (kl c=1∨kl c=2)
theorem isNm_iff (c:Int):isNm c=true↔(kl c=1∨kl c=2):=by simp[isNm]
theorem go_more (r:List Int)(hr:∀c∈r,isNm c=true)(hcp:∀c∈r,isCp c=true):∀(done:List Tok) (q:Nat) (t:List UInt8) (p:Nat),p=q+t.length→t.length≤24→
  goS ⟨done,some (q,t),false⟩ p r=if q+24 < p+ (encAll r).length then .err q 5 else .ok ⟨done,some (q,t ++encAll r),false⟩:=by
 induction r with
 | nil=>
  intro done q t p hp ht;have h0:(encAll []).length=0:=rfl;rw[if_neg (by omega)]
  simp[goS,encAll]
 | cons c r ih=>
  intro done q t p hp ht;have hk:=(isNm_iff c).1 (hr c (by simp));simp only[goS];rw[step_more _ _ _ _ _ hk]
  by_cases hb:q+24 < p+ (enc c).length
  ·rw[if_pos hb,if_pos (by simp[encAll];omega)]
  ·rw[if_neg hb]
   simp only;rw[ih (fun x hx=>hr x (by simp[hx])) (fun x hx=>hcp x (by simp[hx])) done q (t ++enc c) (p+ (enc c).length) (by simp;omega) (by simp;omega)]
   have e:p+ (enc c).length+ (encAll r).length=p+ (encAll (c :: r)).length:=by simp[encAll];omega
   rw[e]
   simp[encAll]
theorem go_name (c:Int)(r:List Int)(hc:kl c=1)(hr:∀x∈r,isNm x=true)(hcp:∀x∈c :: r,isCp x=true)(done:List Tok)(p:Nat) :
  goS ⟨done,none,false⟩ p (c :: r)=if 24 < (encAll (c :: r)).length then .err p 5 else .ok ⟨done,some (p,encAll (c :: r)),false⟩:=by
 have hz:=enc_pos c (hcp c (by simp));simp only[goS];rw[step_new done p c hc]
 simp only;rw[go_more r hr (fun x hx=>hcp x (by simp[hx])) done p (enc c) (p+ (enc c).length) rfl (by omega)]
 have e:p+ (enc c).length+ (encAll r).length=p+ (encAll (c :: r)).length:=by simp[encAll];omega
 rw[e]
 by_cases hb:24 < (encAll (c :: r)).length
 ·rw[if_pos hb,if_pos (by omega)]
 ·rw[if_neg hb,if_neg (by omega)]
  simp[encAll]
end Go.Proofs.YtieoppabellafaaGreatDoor.Sx
namespace Go.Proofs.YtieoppabellafaaGreatDoor.Sx
open Go.RowKit
theorem ret_int {k:IntKind}{a b:Int}(h:a=b):Ending.returned (.int k a)= .returned (.int k b):=by rw[h]
theorem ret_bool {a b:Bool}(h:a=b):Ending.returned (.bool a)= .returned (.bool b):=by rw[h]
theorem gwidth_any (r:Int)(w:World) :
  Calls Tryz.prog 170 #[.int .i64 r] w fun e w'=>e= .returned (.int .i64 (wid r))∧w'=w.alloc (.cells #[.int .i64 r] 3):=by
 go_enter Tryz.func170,Tryz.ntmps170
 go_wp2
 all_goals go_ret
 all_goals refine⟨ret_int ?_,rfl⟩
 all_goals unfold wid
 all_goals repeat' split
 all_goals omega
def cls (r:Int):Int:=
 if isCp r=false then 0 else if 128≤r∨(97≤r∧r≤122)∨(65≤r∧r≤90)∨r=95 then 1 else if 48≤r∧r≤57 then 2
 else if r=9∨r=10∨r=13∨r=32 then 3 else if 32 < r∧r < 127 then 4 else 0
theorem wid_zero (r:Int):(wid r==0)= !isCp r:=by
 unfold wid isCp;rw[Bool.eq_iff_iff]
 simp
 repeat' split
 all_goals omega
theorem gclass_any (r:Int)(w:World) :
  Calls Tryz.prog 167 #[.int .i64 r] w fun e w'=>e= .returned (.int .i64 (cls r))∧w'=(w.alloc (.cells #[.int .i64 r] 3)).alloc (.cells #[.int .i64 r] 3):=by
 by_cases h:isCp r=true
 ·have hz:(wid r==0)=false:=by rw[wid_zero,h];rfl
  have H:Hid (isCp r=true):=h;have h2:0≤r∧r≤1114111∧(r < 55296∨57343 < r):=by simpa [isCp] using h
  obtain⟨h3,h4,_⟩:=h2
  clear h
  go_enter Tryz.func167,Tryz.ntmps167
  go_wp2_with (first | (go_at_call 170;refine (gwidth_any _ _).mono ?_;rintro e w' ⟨rfl,rfl⟩) | go_in)
  all_goals go_ret
  all_goals refine⟨ret_int ?_,rfl⟩
  all_goals unfold cls
  all_goals simp only[H.out]
  all_goals (repeat' split)
  all_goals first | rfl | omega | (simp_all;done) | (simp_all;omega)
 ·have h1:isCp r=false:=by simpa using h
  have hz:(wid r==0)=true:=by rw[wid_zero,h1];rfl
  have H:Hid (isCp r=false):=h1;clear h h1
  go_enter Tryz.func167,Tryz.ntmps167
  go_wp2_with (first | (go_at_call 170;refine (gwidth_any _ _).mono ?_;rintro e w' ⟨rfl,rfl⟩) | go_in)
  all_goals go_ret
  all_goals refine⟨ret_int ?_,rfl⟩
  all_goals simp[cls,H.out]
theorem ret_b {a b:Bool}(h:a=b):Ending.returned (.bool a)= .returned (.bool b):=by rw[h]
theorem ret_i {k:IntKind}{a b:Int}(h:a=b):Ending.returned (.int k a)= .returned (.int k b):=by rw[h]
theorem prefix_any (t:ByteArray)(w:World)(hs:t.size≤100000) :
  Calls Tryz.prog 166 #[.string t,.string ⟨#[239,191,189]⟩] w fun e w'=>e= .returned (.bool (hp t))∧w'=w:=by
 by_cases h:3≤t.size
 ·go_enter Tryz.func166,Tryz.ntmps166
  go_wp2
  go_ret
  refine⟨ret_b ?_,rfl⟩
  rw[Lib.extract_toList]
  unfold hp;rw[Bool.eq_iff_iff]
  simp
 ·have hz:=size_list t
  go_enter Tryz.func166,Tryz.ntmps166
  go_wp2
  go_ret
  refine⟨ret_b ?_,rfl⟩
  unfold hp
  symm
  rw[decide_eq_false_iff_not]
  intro e;have:=congrArg List.length e;simp at this;omega
def badV (cs:List Int)(rest:List UInt8):Int:=if rest=[] then -1 else ((encAll cs).length:Int)
theorem bad_any (s:ByteArray)(cs:List Int)(rest:List UInt8)(hp0:Parts s.data.toList cs rest)(w:World)(hs:s.size≤100000) :
  Calls Tryz.prog 164 #[.string s] w fun e w'=>e= .returned (.int .i64 (badV cs rest))∧Below w.heap.size w w':=by
 have hz:=size_list s;have hbl:∀n,Below w.heap.size w (w.iter s n):=fun n=>(Below.refl _ _).alloc (jG _) _
 go_enter Tryz.func164,Tryz.ntmps164
 go_wp2
 go_loopw [3,4] (fun _ _ wr=>∃(d todo:List Int),Hid (cs=d ++todo)∧wr=w.iter s (encAll d).length) (fun _ _ wr=>s.size - wr.iterPos w.heap.size)
 case atStart=>exact⟨[],cs,rfl,rfl⟩
 case round=>
  obtain⟨d,todo,HC,rfl⟩:=hrel
  have hip:∀n,(w.iter s n).iterPos w.heap.size=n:=fun n=>by simp
  cases todo with
  | cons c todo=>
   have hS:s.data.toList=encAll (d ++c :: todo) ++rest:=by rw[←HC.out];exact hp0.eq
   have hc:isCp c=true:=hp0.cp c (by rw[HC.out];simp);have hd:=decode_at s d todo c rest hS hc;have hyes:c=65533→hp (s.extract (encAll d).length s.size)=true:=by rintro rfl;exact hp_yes s d todo rest hS
   have hk:=enc_pos c hc;have hlen:(encAll (d ++ [c])).length=(encAll d).length+ (enc c).length:=by rw[encAll_append,encAll_one];simp
   have hsz:(encAll d).length+ (enc c).length≤s.size:=by
    rw[←hz,hS,encAll_append]
    simp[encAll]
   have hcn:=cp_toNat c hc;have HR:Hid (cs=(d ++ [c]) ++todo):=by show _=_;rw[HC.out];simp
   have HL:Hid ((encAll (d ++ [c])).length=(encAll d).length+ (enc c).length):=hlen;generalize hp1:(encAll d).length=pos at *;generalize hk1:(enc c).length=k at *;have hnx:∀ty,(Instr.next (.pointer (some ⟨w.heap.size,0,none⟩)) true ty).run Tryz.prog (w.iter s pos)= .ok (.tuple #[.bool true,.int .i64 pos,.int .i32 c]) (w.iter s (pos+k)):=by
    intro ty;have h:=run_next_any (P:=Tryz.prog) w s pos ty (by omega);rw[hd] at h
    simp only[hcn] at h;exact h
   have hx:(s.extract pos s.size).size≤100000:=by simp;omega
   have hlt:pos < s.size:=by omega
   clear hS hc hd hlen hcn HC hp1 hk1 hp0 hz
   by_cases hb:c=65533
   ·have h1:=hyes hb;have h2:(c==65533)=true:=by simp[hb]
    clear hb hyes
    go_wp2_with (go_at_call 166;refine (prefix_any _ _ hx).mono ?_;rintro e w' ⟨rfl,rfl⟩)
    go_roundw
    case rel=>exact⟨d ++ [c],todo,HR,by rw[HL.out]⟩
    case measure=>simp;omega
   ·have h2:(c==65533)=false:=by simp[hb]
    clear hb hyes
    go_wp2_with (go_at_call 166;refine (prefix_any _ _ hx).mono ?_;rintro e w' ⟨rfl,rfl⟩)
    go_roundw
    case rel=>exact⟨d ++ [c],todo,HR,by rw[HL.out]⟩
    case measure=>simp;omega
  | nil=>
   have hC:cs=d:=by simpa using HC.out
   subst hC
   by_cases hr:rest=[]
   ·have hsz:¬(encAll cs).length < s.size:=by
     rw[←hz,hp0.eq,hr]
     simp
    have HB:Hid (badV cs rest= -1):=by show _=_;simp[badV,hr]
    generalize (encAll cs).length=pos at *;have hnx:∀ty,(Instr.next (.pointer (some ⟨w.heap.size,0,none⟩)) true ty).run Tryz.prog (w.iter s pos)=_:=fun ty=>run_next_end w s pos ty hsz
    clear hr hp0 hz
    go_wp2
    go_ret
    exact⟨ret_i HB.out.symm,hbl _⟩
   ·have hn:NoCp rest:=hp0.stop.resolve_left hr;have hd:=decode_stop s cs rest hp0.eq hn hr;have hno:=hp_no s cs rest hp0.eq hn;have hlt:(encAll cs).length < s.size:=by
     rw[←hz,hp0.eq]
     have:=List.length_pos_iff.2 hr;simp;omega
    have HB:Hid (badV cs rest=((encAll cs).length:Int)):=by show _=_;simp[badV,hr]
    generalize (encAll cs).length=pos at *;have hnx:∀ty,(Instr.next (.pointer (some ⟨w.heap.size,0,none⟩)) true ty).run Tryz.prog (w.iter s pos)= .ok (.tuple #[.bool true,.int .i64 pos,.int .i32 65533]) (w.iter s (pos+1)):=by
     intro ty;have h:=run_next_any (P:=Tryz.prog) w s pos ty hlt;rw[hd] at h
     exact h
    have hx:(s.extract pos s.size).size≤100000:=by simp;omega
    clear hr hp0 hz hd hn
    go_wp2_with (go_at_call 166;refine (prefix_any _ _ hx).mono ?_;rintro e w' ⟨rfl,rfl⟩)
    go_ret
    exact⟨ret_i HB.out.symm,hbl _⟩
theorem owns_iterAt {w:World}{base:Nat}{e:TypeId}{size:Nat}{v:Value}{n:Nat}{xs:List Value}(h:w.ownsRow base e size v n xs){k:Nat}(hk:k < base)(s:ByteArray)(p:Nat):(w.iterAt k s p).ownsRow base e size v n xs:=by
 obtain⟨h1,h2⟩:=h
 refine⟨h1,?_⟩
 rcases h2 with h2 | ⟨g,cap,cur,a,b,c,d⟩
 ·exact .inl h2
 ·exact .inr ⟨g,cap,cur,a,b,by rw[Lib.iterAt_other _ _ _ _ _ (by omega)];exact c,d⟩
theorem iter_pos_of {w:World}{k:Nat}{s:ByteArray}{p:Nat}(h:w.heap[k]? =some (.stringIter s p)):w.iterPos k=p:=by simp[World.iterPos,h]
theorem owns_low {w:World}{B B':Nat}{e:TypeId}{size:Nat}{v:Value}{n:Nat}{xs:List Value}(h:w.ownsRow B e size v n xs)(hB:B'≤B):w.ownsRow B' e size v n xs:=by
 obtain⟨h1,h2⟩:=h
 refine⟨h1,?_⟩
 rcases h2 with h2 | ⟨g,cap,cur,a,b,c⟩
 ·exact .inl h2
 ·exact .inr ⟨g,cap,cur,a,by omega,c⟩
theorem below_drewN {B:Nat}{a w:World}(h:Below B a w)(n:Nat):Below B a (w.drewN n):=h.trans ⟨rfl,rfl,rfl,jG _,fun _ _=>rfl⟩
theorem cells3 (w:World)(a b c:Value)(t:TypeId):∀j u,[a,b,c][j]? =some u→(w.alloc (.cells #[a,b,c] t)).cell? ((⟨w.heap.size,0,none⟩:Addr).add j)=some u:=by
 intro j u hj
 match j,hj with
 | 0,hj=>simp at hj;subst hj;simp[Addr.add]
 | 1,hj=>simp at hj;subst hj;simp[Addr.add]
 | 2,hj=>simp at hj;subst hj;simp[Addr.add]
 | j+3,hj=>simp at hj
theorem owns_later {w w':World}{B:Nat}{e:TypeId}{size:Nat}{v:Value}{n:Nat}{xs:List Value}(h:w.ownsRow B e size v n xs)(hb:Below w.heap.size w w'):w'.ownsRow B e size v n xs:=by
 obtain⟨h1,h2⟩:=h
 refine⟨h1,?_⟩
 rcases h2 with h2 | ⟨g,cap,cur,a,b,c,d⟩
 ·exact .inl h2
 ·have hg:g < w.heap.size:=(jD.1 c).1;exact .inr ⟨g,cap,cur,a,b,(hb.block g hg).trans c,d⟩
def tv (t:Tok):List Value:=[.int .i64 t.kind,.string ⟨t.text.toArray⟩,.int .i64 (t.at_:Int)]
def tvs:List Tok→List Value
 | []=>[]
 | t :: l=>tv t ++tvs l
theorem tvs_append (a b:List Tok):tvs (a ++b)=tvs a ++tvs b:=by
 induction a with
 | nil=>rfl
 | cons t a ih=>simp[tvs,ih]
theorem tvs_len (a:List Tok):(tvs a).length=a.length * 3:=by
 induction a with
 | nil=>rfl
 | cons t a ih=>simp[tvs,tv,ih];omega
theorem tvs_one (t:Tok):tvs [t]=tv t:=by simp[tvs]
theorem tvs_at (a:List Tok)(i j:Nat)(t:Tok)(h:a[i]? =some t)(hj:j < 3):(tvs a)[i * 3+j]? =(tv t)[j]? :=by
 induction a generalizing i with
 | nil=>simp at h
 | cons x a ih=>
  cases i with
  | zero=>
   simp at h;subst h;simp only[tvs,Nat.zero_mul,zD];rw[zO (by simp[tv];omega)]
  | succ i=>
   simp at h;simp only[tvs];rw[zP (by simp[tv];omega)]
   have e:(i+1) * 3+j - (tv x).length=i * 3+j:=by simp[tv];omega
   rw[e]
   exact ih i h
theorem tv_one_cell (t:Tok):∀u∈tv t,u.oneCell'=true:=by
 intro u hu;simp[tv] at hu
 rcases hu with rfl | rfl | rfl <;> rfl
structure KB (b B:Nat)(w w':World):Prop where
 os:w'.os=w.os
 tape:w'.tape=w.tape
 output:w'.output=w.output
 size:w.heap.size≤w'.heap.size
 block:∀k,k < B→k≠b→w'.heap[k]? =w.heap[k]?
theorem KB.refl (b B:Nat)(w:World):KB b B w w:=⟨rfl,rfl,rfl,jG _,fun _ _ _=>rfl⟩
theorem KB.trans {b B:Nat}{x y z:World}(h:KB b B x y)(k:KB b B y z):KB b B x z:=
 ⟨k.os.trans h.os,k.tape.trans h.tape,k.output.trans h.output,zH h.size k.size,fun i hi hn=>(k.block i hi hn).trans (h.block i hi hn)⟩
theorem KB.of_below {b B:Nat}{x y:World}(h:Below B x y):KB b B x y:=⟨h.os,h.tape,h.output,h.size,fun i hi _=>h.block i hi⟩
theorem KB.setCell (b B:Nat)(w:World)(i:Nat)(v:Value):KB b B w (w.setCell ⟨b,i,none⟩ v):=
 ⟨rfl,rfl,rfl,by simp,fun k _ hn=>heap_setCell_other w ⟨b,i,none⟩ k v hn⟩
theorem KB.setFar {b B:Nat}(w:World)(g i:Nat)(v:Value)(hg:B≤g):KB b B w (w.setCell ⟨g,i,none⟩ v):=
 ⟨rfl,rfl,rfl,by simp,fun k hk _=>heap_setCell_other w ⟨g,i,none⟩ k v (by show k≠g;omega)⟩
theorem KB.drewN {b B:Nat}{x y:World}(h:KB b B x y)(n:Nat):KB b B x (y.drewN n):=⟨h.os,h.tape,h.output,h.size,h.block⟩
theorem KB.below {b B B0:Nat}{x y:World}(h:KB b B x y)(h1:B0≤b)(h2:B0≤B):Below B0 x y:=
 ⟨h.os,h.tape,h.output,h.size,fun k hk=>h.block k (by omega) (by omega)⟩
structure ScanAt (w:World)(b B:Nat)(s:ByteArray)(v:Value)(st:Sc):Prop where
 blk:w.heap[b]? =some (.cells #[.string s,v,.bool st.cur.isSome,.bool st.remark] 237 (0,0))
 own:w.ownsRow B 232 3 v st.toks.length (tvs st.toks)
 lt:b < B
 le:B≤w.heap.size
theorem cell_blk {w:World}{b:Nat}{cs:Array Value}{t:TypeId}(h:w.heap[b]? =some (.cells cs t (0,0)))(i:Nat):w.cell? ⟨b,i,none⟩=cs[i]? :=cell_of_row w b i cs t (0,0) h
theorem last_tok {w:World}{B:Nat}{v:Value}{l:List Tok}{t:Tok}(h:w.ownsRow B 232 3 v (l ++ [t]).length (tvs (l ++ [t]))) :
  ∃g cap,v= .slice (some ⟨g,0,none⟩) (l.length+1) cap∧B≤g∧g < w.heap.size∧l.length < cap∧cap≤maxLen∧
   w.cell? ⟨g,l.length * 3,none⟩=some (.int .i64 t.kind)∧w.cell? ⟨g,l.length * 3+1,none⟩=some (.string ⟨t.text.toArray⟩)∧w.cell? ⟨g,l.length * 3+2,none⟩=some (.int .i64 (t.at_:Int))∧
   (∀j,w.frozen? ⟨g,j,none⟩=false):=by
 have hl:(l ++ [t]).length=l.length+1:=by simp
 rw[hl] at h
 have hlast:(l ++ [t])[l.length]? =some t:=by simp
 rcases h.2 with ⟨_,h0⟩ | ⟨g,cap,cur,rfl,hb,hg,hnc,hcm,_⟩
 ·omega
 ·refine⟨g,cap,rfl,hb,(jD.1 hg).1,by omega,hcm,?_,?_,?_,fun j=>h.frozenAt j⟩
  ·rw[h.cellAt _ (by omega)]
   exact tvs_at _ l.length 0 t hlast (by omega)
  ·rw[h.cellAt _ (by omega)]
   exact tvs_at _ l.length 1 t hlast (by omega)
  ·rw[h.cellAt _ (by omega)]
   exact tvs_at _ l.length 2 t hlast (by omega)
theorem last_at {w:World}{B g cap:Nat}{l:List Tok}{t:Tok}(h:w.ownsRow B 232 3 (.slice (some ⟨g,0,none⟩) (l.length+1) cap) (l ++ [t]).length (tvs (l ++ [t]))) :
  B≤g∧g < w.heap.size∧l.length < cap∧cap≤maxLen∧
   w.cell? ⟨g,l.length * 3,none⟩=some (.int .i64 t.kind)∧w.cell? ⟨g,l.length * 3+1,none⟩=some (.string ⟨t.text.toArray⟩)∧w.cell? ⟨g,l.length * 3+2,none⟩=some (.int .i64 (t.at_:Int))∧
   (∀j,w.frozen? ⟨g,j,none⟩=false):=by
 obtain⟨g',cap',e,r⟩:=last_tok h
 simp only[Value.slice.injEq,Option.some.injEq,Addr.mk.injEq,and_true,true_and] at e;obtain⟨rfl,rfl⟩:=e
 exact r
theorem tvs_set_text (l:List Tok)(t:Tok)(x:List UInt8):(tvs (l ++ [t])).set (l.length * 3+1) (.string ⟨x.toArray⟩)=tvs (l ++ [⟨t.kind,x,t.at_⟩]):=by
 rw[tvs_append,tvs_append,tvs_one,tvs_one]
 rw[List.set_append_right _ _ (by rw[tvs_len];omega),tvs_len]
 rw[show l.length * 3+1 - l.length * 3=1 by omega]
 rfl
theorem set_text {w:World}{B g cap:Nat}{l:List Tok}{t:Tok}(x:List UInt8)(h:w.ownsRow B 232 3 (.slice (some ⟨g,0,none⟩) (l.length+1) cap) (l ++ [t]).length (tvs (l ++ [t]))) :
  (w.setCell ⟨g,l.length * 3+1,none⟩ (.string ⟨x.toArray⟩)).ownsRow B 232 3 (.slice (some ⟨g,0,none⟩) (l.length+1) cap) (l ++ [(⟨t.kind,x,t.at_⟩:Tok)]).length (tvs (l ++ [⟨t.kind,x,t.at_⟩])):=by
 have hl:(l ++ [t]).length=l.length+1:=by simp
 rw[hl] at h
 have h2:=(h.stored (l.length * 3+1) (.string ⟨x.toArray⟩)).1;rw[tvs_set_text] at h2
 simpa using h2
theorem scan_push {W w3:World}{b B:Nat}{o:Obj}{v v':Value}{s:ByteArray}{done:List Tok}{t:Tok}{x2 x3:Value}(hblk:W.heap[b]? =some (.cells #[.string s,v,x2,x3] 237 (0,0)))
  (hown:W.ownsRow B 232 3 v done.length (tvs done)) (hlt:b < B) (hle:B≤W.heap.size) (ho:w3.ownsRow B 232 3 v' (done ++ [t]).length (tvs (done ++ [t]))) (hg:(W.alloc o).grownBy w3 v.ownBlock) :
  w3.heap[b]? =some (.cells #[.string s,v,x2,x3] 237 (0,0))∧KB b B W w3∧
   (∀u,(w3.setCell ⟨b,1,none⟩ u).heap[b]? =some (.cells #[.string s,u,x2,x3] 237 (0,0)))∧(∀u,(w3.setCell ⟨b,1,none⟩ u).ownsRow B 232 3 v' (done ++ [t]).length (tvs (done ++ [t]))):=by
 have hb3:w3.heap[b]? =some (.cells #[.string s,v,x2,x3] 237 (0,0)):=by
  rw[hg.block b (by simp;omega) (fun h=>by have:=(hown.lt _ h.symm).1;omega),zK _ _ _ (by omega)]
  exact hblk
 refine⟨hb3,?_,fun u=>heap_setCell_same w3 b 1 _ 237 u hb3,fun u=>ownsRow_setCell_below ho hlt u⟩
 exact KB.of_below (Below.grown ((Below.refl _ _).alloc hle _) hg (by simp;omega) (fun j hj=>(hown.lt _ hj).1))
theorem Tryz.info232:(Tryz.prog.info? 232).map (fun i=>(i.zero,i.size,i.bytes))=some (some (.agg #[.int .i64 0,.string ⟨#[]⟩,.int .i64 0]),3,32):=by kernel_rfl
theorem append_tok {W:World}{ops:Array Oper}{rest:List Oper}{o:Oper}{a:Act}{Q:Exit→Act→World→Prop}(hgd:o.guard=none)(s x:Operand)
  (ho:o.op= .call {callee:= .builtin .append,args:= #[s,x],argTypes:= #[227,227]}) (B:Nat) (v:Value) (l:List Tok) (hs:a.eval s=v) (hown:W.ownsRow B 232 3 v l.length (tvs l))
  (t:Tok) (A:Addr) (hx:a.eval x= .slice (some A) 1 1) (hcells:∀j u,(tv t)[j]? =some u→W.cell? (A.add j)=some u) (hl:l.length≤100000) (hB:B≤W.heap.size)
  (h:∀g cap w',w'.ownsRow B 232 3 (.slice (some ⟨g,0,none⟩) (l.length+1) cap) (l ++ [t]).length (tvs (l ++ [t]))→W.grownBy w' v.ownBlock→wpList Tryz.prog ops Q rest (a.put o.dst (.slice (some ⟨g,0,none⟩) (l.length+1) cap)) w'):wpList Tryz.prog ops Q (o :: rest) a W:=by
 obtain⟨i0,hi,hz0,hz1,hz2⟩:=info_parts Tryz.info232
 refine wpList_append_own _ hgd s x 227 ho B 232 i0 _ 3 32 Tryz.underlying227 hi hz0 hz1 hz2 rfl (by decide) v l.length (tvs l) hs hown A 1 1 (tv t) hx rfl hcells (tv_one_cell t) (by unfold maxLen;omega) (by omega) hB ?_;intro v' w' hown' hg _;have ho':w'.ownsRow B 232 3 v' (l ++ [t]).length (tvs (l ++ [t])):=by rw[tvs_append,tvs_one];simpa using hown'
 obtain⟨g,cap,rfl,_⟩:=last_tok ho'
 exact h g cap w' ho' hg
theorem cells_set (w:World)(p:Addr)(q x y z:Value):∀j u,[x,y,z][j]? =some u→((w.setCell p q).alloc (.cells #[x,y,z] 232)).cell? ((⟨w.heap.size,0,none⟩:Addr).add j)=some u:=by
 intro j u hj;have h:=cells3 (w.setCell p q) x y z 232 j u hj
 rwa [World.size_setCell] at h
theorem ibyte51 (s:ByteArray)(c:Int)(w:World) :
  Calls Tryz.prog 179 #[.string s,.int .u8 c] w fun e w'=>e= .returned (.int .i64 (Lib.indexByte s.data.toList c.toNat.toUInt8))∧w'=w:=by
 go_enter Tryz.func179,Tryz.ntmps179
 go_wp2
 rw[run_callFunc_extern Tryz.func180 (by kernel_rfl) (by kernel_rfl) (by kernel_rfl) (e:=Extern.BytealgIndexByte.indexByte) (by kernel_rfl),Lib.run_indexByteString]
 simp only[Result.andThen];rw[Oper.upon_value]
 go_wp2
 go_ret
 exact⟨rfl,rfl⟩
theorem ibyte (s:ByteArray)(c:Int)(w:World) :
  Calls Tryz.prog 175 #[.string s,.int .u8 c] w fun e w'=>e= .returned (.int .i64 (Lib.indexByte s.data.toList c.toNat.toUInt8))∧w'=w:=by
 go_enter Tryz.func175,Tryz.ntmps175
 go_wp2_with (go_at_call 179;refine (ibyte51 _ _ _).mono ?_;rintro e w' ⟨rfl,rfl⟩)
 go_ret
 exact⟨rfl,rfl⟩
theorem ib_marks (c:Int)(h0:0≤c)(h1:c < 256):decide (0≤Lib.indexByte [123,125,40,41,59,44] c.toNat.toUInt8)=isMark c:=by
 have h:∀n:Fin 256,decide (0≤Lib.indexByte [123,125,40,41,59,44] n.val.toUInt8)=isMark (n.val:Int):=by decide +kernel
 have:=h ⟨c.toNat,by omega⟩;simp only at this;rw[this]
 congr 1
 omega
theorem irune_ascii (c:Int)(h0:0≤c)(h1:c < 128)(w:World) :
  Calls Tryz.prog 173 #[.string ⟨#[123,125,40,41,59,44]⟩,.int .i32 c] w fun e w'=>∃k:Int,e= .returned (.int .i64 k)∧decide (0≤k)=isMark c∧Below w.heap.size w w':=by
 have HM:Hid _:=ib_marks c h0 (by omega)
 go_enter Tryz.func173,Tryz.ntmps173
 go_wp2_with (go_at_call 175;refine (ibyte _ _ _).mono ?_;rintro e w' ⟨rfl,rfl⟩)
 go_ret
 exact⟨_,rfl,HM.out,Below.refl _ _⟩
theorem encode_cp (c:Int)(h:isCp c=true):Utf8.encode c=⟨(enc c).toArray⟩:=by
 have hv:=valid_of c h;unfold Utf8.encode enc encN;simp only[hv,if_true];generalize c.toNat=n;clear hv h
 by_cases h1:n < 128
 ·simp only[h1,if_true]
 by_cases h2:n < 2048
 ·simp only[h1,h2,if_true,if_false]
 by_cases h3:n < 65536
 ·simp only[h1,h2,h3,if_true,if_false]
 ·simp only[h1,h2,h3,if_false]
theorem no_mark (c:Int)(h:128≤c):isMark c=false:=by
 unfold isMark;rw[decide_eq_false_iff_not]
 omega
theorem parts_marks:Parts (⟨#[123,125,40,41,59,44]⟩:ByteArray).data.toList [123,125,40,41,59,44] []:=
 ⟨by decide +kernel,by decide +kernel,.inl rfl⟩
theorem irune_bad (w:World) :
  Calls Tryz.prog 173 #[.string ⟨#[123,125,40,41,59,44]⟩,.int .i32 65533] w fun e w'=>e= .returned (.int .i64 (-1))∧Below w.heap.size w w':=by
 obtain⟨s,hs⟩:∃s:ByteArray,s=⟨#[123,125,40,41,59,44]⟩:=⟨_,rfl⟩
 rw[←hs]
 have hp0:Parts s.data.toList [123,125,40,41,59,44] []:=by rw[hs];exact parts_marks
 have hsz6:s.size=6:=by rw[hs];rfl
 have hlt:∀c∈([123,125,40,41,59,44]:List Int),(c==65533)=false:=by decide
 generalize ([123,125,40,41,59,44]:List Int)=cs at *;clear hs;have hz:=size_list s;have hbl:∀n,Below w.heap.size w (w.iter s n):=fun n=>(Below.refl _ _).alloc (jG _) _
 go_enter Tryz.func173,Tryz.ntmps173
 go_wp2
 go_loopw [5,6] (fun _ _ wr=>∃(d todo:List Int),Hid (cs=d ++todo)∧wr=w.iter s (encAll d).length) (fun _ _ wr=>s.size - wr.iterPos w.heap.size)
 case atStart=>exact⟨[],cs,rfl,rfl⟩
 case round=>
  obtain⟨d,todo,HC,rfl⟩:=hrel
  have hip:∀n,(w.iter s n).iterPos w.heap.size=n:=fun n=>by simp
  cases todo with
  | cons c todo=>
   have hS:s.data.toList=encAll (d ++c :: todo) ++ []:=by rw[←HC.out];exact hp0.eq
   have hc:isCp c=true:=hp0.cp c (by rw[HC.out];simp);have h2:(c==65533)=false:=hlt c (by rw[HC.out];simp);have hd:=decode_at s d todo c [] hS hc;have hk:=enc_pos c hc;have hlen:(encAll (d ++ [c])).length=(encAll d).length+ (enc c).length:=by rw[encAll_append,encAll_one];simp
   have hsz:(encAll d).length+ (enc c).length≤s.size:=by
    rw[←hz,hS,encAll_append]
    simp[encAll]
   have hcn:=cp_toNat c hc;have HR:Hid (cs=(d ++ [c]) ++todo):=by show _=_;rw[HC.out];simp
   have HL:Hid ((encAll (d ++ [c])).length=(encAll d).length+ (enc c).length):=hlen;generalize hp1:(encAll d).length=pos at *;generalize hk1:(enc c).length=k at *;have hnx:∀ty,(Instr.next (.pointer (some ⟨w.heap.size,0,none⟩)) true ty).run Tryz.prog (w.iter s pos)= .ok (.tuple #[.bool true,.int .i64 pos,.int .i32 c]) (w.iter s (pos+k)):=by
    intro ty;have h:=run_next_any (P:=Tryz.prog) w s pos ty (by omega);rw[hd] at h
    simp only[hcn] at h;exact h
   clear hS hc hd hlen hcn HC hp1 hk1 hp0 hz hlt
   go_wp2
   go_roundw
   case rel=>exact⟨d ++ [c],todo,HR,by rw[HL.out]⟩
   case measure=>simp;omega
  | nil=>
   have hC:cs=d:=by simpa using HC.out
   subst hC;have hsz:¬(encAll cs).length < s.size:=by
    rw[←hz,hp0.eq]
    simp
   generalize (encAll cs).length=pos at *;have hnx:∀ty,(Instr.next (.pointer (some ⟨w.heap.size,0,none⟩)) true ty).run Tryz.prog (w.iter s pos)=_:=fun ty=>run_next_end w s pos ty hsz
   clear hp0 hz hlt
   go_wp2
   go_ret
   exact⟨rfl,hbl _⟩
end Go.Proofs.YtieoppabellafaaGreatDoor.Sx
