/- Texts of the seat, packed: SRc SRd SRe SRf. -/
import Derived.Test.YtieoppabellafaaGreatDoorP04
import Derived.Maps.OwnIn
set_option maxRecDepth 1000000
set_option maxHeartbeats 64000000
set_option linter.unusedVariables false
namespace Go.Proofs.YtieoppabellafaaGreatDoor.Sx
open Go.RowKit Go.Shelf
attribute [local go_sem] Oper.semAt_some
def Low (n0:Nat)(w0 w:World):Prop:=∀k,k < n0→w.heap[k]? =w0.heap[k]?
theorem Low.cell {n0:Nat}{w0 w:World}(h:Low n0 w0 w){b i:Nat}{v:Value}(hb:b < n0)(hc:w0.cell? ⟨b,i,none⟩=some v):w.cell? ⟨b,i,none⟩=some v:=
 (World.cell?_of_block (a:=⟨b,i,none⟩) (h b hb)).trans hc
theorem Tryz.info213:(Tryz.prog.info? 213).map (fun i=>(i.zero,i.size,i.bytes))=some (some (.agg #[.int .i64 0,.slice none 0 0]),2,32):=by kernel_rfl
def AllOf (pre:List Nd)(mid:List (Nat × Lab × Tr))(stk:List En)(t:Tr):Prop:=(pre.map Nd.key ++ (mid ++efl stk)).Perm (fltn 1 t)
theorem own_block {w w':World}{B n:Nat}{e:TypeId}{sz:Nat}{v:Value}{xs:List Value}(h:w.ownsRow B e sz v n xs)(hb:∀g,v.ownBlock=some g→w'.heap[g]? =w.heap[g]?):w'.ownsRow B e sz v n xs:=by
 refine⟨h.1,?_⟩
 rcases h.2 with hn | ⟨g,cap,cur,hv,h1,h2,h3⟩
 ·exact .inl hn
 ·exact .inr ⟨g,cap,cur,hv,h1,(hb g (by rw[hv];rfl)).trans h2,h3⟩
theorem ew_len (l:List En):l.length≤ew l:=by
 induction l with
 | nil=>exact Nat.le_refl _
 | cons e l ih=>simp[ew];omega
theorem Wt.kept {n0:Nat}{w0:World}{n1 D:Nat}{lv:Value}{A B:World}{s:List En}(h:Wt n0 w0 n1 D lv A s)(hk:Kr n0 n1 A B):Wt n0 w0 n1 D lv B s:=
 ⟨own_block h.1 (fun g hg=>hk.high g (h.1.lt g hg).1 (h.1.lt g hg).2),h.2⟩
theorem Low.kept {n0 n1:Nat}{w0 A B:World}(h:Low n0 w0 A)(hk:Kr n0 n1 A B):Low n0 w0 B:=fun k hkk=>(hk.low k hkk).trans (h k hkk)
theorem Low.alloc {n0:Nat}{w0 A:World}(h:Low n0 w0 A)(o:Obj)(hn:n0≤A.heap.size):Low n0 w0 (A.alloc o):=fun k hkk=>(Below.heap_alloc _ _ _ (by omega)).trans (h k hkk)
theorem Wt.alloc {n0:Nat}{w0:World}{n1 D:Nat}{lv:Value}{A:World}{s:List En}(h:Wt n0 w0 n1 D lv A s)(o:Obj):Wt n0 w0 n1 D lv (A.alloc o) s:=⟨h.1.alloc o,h.2⟩
theorem allOf_next {pre:List Nd}{x:Nd}{m1 m2:List (Nat × Lab × Tr)}{stk:List En}{t:Tr}(h:AllOf pre (x.key :: (m1 ++m2)) stk t):AllOf (pre ++ [x]) (m1 ++m2) stk t:=by
 unfold AllOf at *;refine List.Perm.trans ?_ h;simp
theorem allOf_push {pre:List Nd}{e:En}{m2:List (Nat × Lab × Tr)}{stk:List En}{t:Tr}(h:AllOf pre (fltn e.deep e.tree ++m2) stk t):AllOf pre m2 (stk ++ [e]) t:=by
 unfold AllOf at *;refine List.Perm.trans ?_ h;rw[efl_snoc]
 refine List.Perm.append_left _ ?_;rw[List.append_assoc]
 exact ((List.Perm.append_left m2 List.perm_append_comm).trans (by rw[←List.append_assoc,←List.append_assoc];exact List.Perm.append_right _ List.perm_append_comm))
theorem allOf_pop {pre:List Nd}{e:En}{stk:List En}{t:Tr}(h:AllOf pre [] (stk ++ [e]) t):AllOf pre (fltn e.deep e.tree) stk t:=by
 unfold AllOf at *;refine List.Perm.trans ?_ h;rw[efl_snoc]
 refine List.Perm.append_left _ ?_;exact List.perm_append_comm
theorem nodes1_in (F:Fence)(n:Nat)(h67:F.fn 146)(hro:F.round=none)(hn:1≤n)(hd:F.depth=none)(n0 D gb:Nat)(w0 w:World)(t:Tr)(av:Option Addr)(am ac:Nat)(hlow:Low n0 w0 w)(hn0:n0≤w.heap.size)
  (hgc:w.cell? ⟨gb,1,none⟩=some (.slice av am ac)) (ht:TAt (· < n0) w0 true t av 0 am) (hD:1+t.dep≤D) (hDb:D≤1000000000) (hmb:tw t≤100000) (hsz:t.sz≤1000000000∧t.afs) :
  MySeq F n Tryz.prog 146 #[.pointer (some ⟨gb,0,none⟩)] Nd.enc (Nd.ok n0 w0 D) n0 (fltn 1 t).length (fun xs=>(xs.map Nd.key).Perm (fltn 1 t)) (fun pre=>∃rest,(pre.map Nd.key ++rest).Perm (fltn 1 t)) w:=by
 intro l J Jx W hW hJ hJx hY h0;have hzW:=hW.size;have hlW:Low n0 w0 W:=fun k hk=>(hW.block k (by omega)).trans (hlow k hk)
 have hgW:W.cell? ⟨gb,1,none⟩=some (.slice av am ac):=(hW.cell (lt_of_cell? hgc)).trans hgc;obtain⟨i0,hi0,hz0,hz1,hz2⟩:=info_parts Tryz.info213
 have hst0:Wt n0 w0 W.heap.size D (.slice (some ⟨W.heap.size,0,none⟩) 1 1) (W.alloc (.cells #[.int .i64 1,.slice av am ac] 213)) [⟨1,t,av,am,ac⟩]:=by
  refine⟨?_,fun e he=>?_⟩
  ·exact World.ownsRow_lit W #[.int .i64 1,.slice av am ac] 1 (Nat.le_refl _) (by decide) rfl
  ·simp at he;subst he;exact⟨ht,hD,hsz⟩
 have hJ0:J [] (W.alloc (.cells #[.int .i64 1,.slice av am ac] 213)):=hJ _ _ _ h0 ((Below.refl _ _).alloc (Nat.le_refl _) _);have hl0:Low n0 w0 (W.alloc (.cells #[.int .i64 1,.slice av am ac] 213)):=fun k hk=>(Below.heap_alloc _ _ _ (by omega)).trans (hlW k hk)
 have hall0:AllOf [] [] [⟨1,t,av,am,ac⟩] t:=by simp[AllOf,efl]
 refine callsIn_of_wp Tryz.func146 rfl h67 ?_ hro;simp only[Tryz.ntmps146,List.size_toArray,List.length_cons,List.length_nil,Nat.reduceAdd,Nat.reduceSub,Array.replicate_succ,Array.replicate_zero,List.push_toArray,List.append_toArray,List.nil_append,List.cons_append]
 gi_wp2
 gi_loopw [3] (fun lv wr=>∃(stk:List En) (pre:List Nd),Hid (Wt n0 w0 W.heap.size D lv wr stk)∧Hid (Low n0 w0 wr)∧Hid (J pre wr)∧Hid (AllOf pre [] stk t)∧Hid (ew stk≤1+tw t)∧W.heap.size≤wr.heap.size)
  (fun lv wr=>mu n0 w0 W.heap.size D lv wr)
 case atStart=>exact⟨_,[],hst0,hl0,hJ0,hall0,by show ew [(⟨1,t,av,am,ac⟩:En)]≤1+tw t;simp[ew],by simp⟩
 case round=>
  rename World=>w1
  obtain⟨stk,pre,HW,HL,HJ,HA,HE,hzr⟩:=hrel
  clear hst0 hl0 hJ0 hall0
  rcases List.eq_nil_or_concat stk with rfl | ⟨s,e,rfl⟩
  ·have hG:(pre.map Nd.key).Perm (fltn 1 t):=by have:=HA.out;simpa [AllOf,efl] using this
   obtain⟨a,c,hva⟩:∃a c,u3= .slice a 0 c:=by
    rcases HW.out.1.2 with ⟨h,_⟩ | ⟨g,cap,cur,h,_⟩
    ·exact⟨_,_,h⟩
    ·exact⟨_,_,h⟩
   subst hva
   gi_wp2
   go_end0
   exact⟨⟨_,rfl⟩,.inl ⟨pre,hG,HJ.out⟩⟩
  ·rw[List.concat_eq_append] at *
   have ho:=HW.out.1;rw[show (s ++ [e]).length=s.length+1 by simp,evs_snoc] at ho
   obtain⟨g,cap,hvg⟩:=ownsRow_succ' ho
   subst hvg;have hmu:=mu_eq HW.out;have heo:=HW.out.2 e (by simp);have hle2:=evs_len s;have q0:w1.cell? ⟨g,s.length * 2,none⟩=some (.int .i64 (e.deep:Int)):=by
    rw[ho.cellAt _ (by omega),List.getElem?_append_right (by omega),hle2]
    simp[En.val]
   have q1:w1.cell? ⟨g,s.length * 2+1,none⟩=some (.slice e.av e.am e.ac):=by
    rw[ho.cellAt _ (by omega),List.getElem?_append_right (by omega),hle2]
    simp[En.val]
   have hpop:=ownsRow_pop hle2 ho;have hcap:s.length+1≤cap:=by
    rcases ho.2 with ⟨h,_⟩ | ⟨g',cap',cur,h,_,_,hc,_⟩
    ·cases h
    ·simp at h;omega
   have hcm:cap≤maxLen:=by
    rcases ho.2 with ⟨h,_⟩ | ⟨g',cap',cur,h,_,_,_,hc,_⟩
    ·cases h
    ·simp at h;omega
   unfold maxLen at hcm;have hkm:s.length < 9223372036854775807:=by omega
   clear hle2;have hea:e.am≤1000000000:=by have:=heo.1.len;have:=e.tree.len_sz;have:=heo.2.2.1;omega
   have HMU:Hid (mu n0 w0 W.heap.size D (.slice (some ⟨g,0,none⟩) (s.length+1) cap) w1=ew s+1+tw e.tree):=by
    show _=_;rw[hmu,ew_snoc]
   have hEb:ew s+1+tw e.tree≤1+tw t:=by have:=HE.out;rwa [ew_snoc] at this
   obtain⟨b4,hb4⟩:∃b4,b4=w1.heap.size:=⟨_,rfl⟩
   have hg4:g < w1.heap.size:=(ho.lt g rfl).2;have hW2:Wt n0 w0 W.heap.size D (.slice (some ⟨g,0,none⟩) s.length cap) (w1.alloc (.cells #[.int .i64 (e.deep:Int),.slice e.av e.am e.ac] 213)) s:=⟨hpop.alloc _,fun x hx=>HW.out.2 x (by simp[hx])⟩;have hL2:=HL.out.alloc (.cells #[.int .i64 (e.deep:Int),.slice e.av e.am e.ac] 213) (by omega);have hJ2:=hJ _ _ (w1.alloc (.cells #[.int .i64 (e.deep:Int),.slice e.av e.am e.ac] 213)) HJ.out ((Below.refl _ _).alloc hzr _);have hA2:=allOf_pop HA.out;have h42:=row_new w1 #[.int .i64 (e.deep:Int),.slice e.av e.am e.ac] 213;clear hmu HW HL HJ HA HE hpop ho
   gi_wp2
   gi_loopw [3,30] (fun lv iv w2=>∃(stk:List En) (pre:List Nd) (rest:Tr) (i:Nat),iv= .int .i64 i∧i≤e.am∧Hid (Wt n0 w0 W.heap.size D lv w2 stk)∧Hid (TAt (· < n0) w0 true rest e.av i e.am)∧Hid (Low n0 w0 w2)∧Hid (J pre w2)∧Hid (AllOf pre (fltn e.deep rest) stk t)∧
     Hid (ew stk+tw rest=ew s+tw e.tree)∧Hid (w2.heap[w1.heap.size]? =some (.cells #[.int .i64 (e.deep:Int),.slice e.av e.am e.ac] 213 (0,0)))∧Hid (lv.ownBlock≠some w1.heap.size)∧Hid (e.deep+rest.dep≤D)∧Hid (rest.sz≤1000000000∧rest.afs)∧W.heap.size≤w2.heap.size)
    (fun _ iv _=>e.am - (intOf iv).toNat)
   case atStart=>exact⟨s,pre,e.tree,0,rfl,Nat.zero_le _,hW2,heo.1,hL2,hJ2,hA2,rfl,h42,by show Value.ownBlock _≠_;simp[Value.ownBlock];omega,heo.2.1,heo.2.2,by simp;omega⟩
   case round=>
    obtain⟨stk2,pre2,rest2,i2,rfl,hi2,HW2,HT2,HL2,HJ2,HA2,HC2,H42,HN2,HD2,HS2,hz2'⟩:=hrel
    clear hW2 hL2 hJ2 hA2 h42;cases rest2 with
    | e=>
     have hie:i2=e.am:=HT2.out;subst hie
     gi_wp2
     go_roundw
     case rel=>exact⟨stk2,pre2,HW2,HL2,HJ2,HA2,by show ew stk2≤1+tw t;have:=HC2.out;simp[tw] at this;omega,hz2'⟩
     case measure=>
      rw[mu_eq HW2.out,HMU.out]
      have:=HC2.out;simp[tw] at this
      omega
    | n ln tn rn=>have:=HT2.out.1;simp at this
    | b x r=>
     obtain⟨_,hlt2,⟨bb,boff,bv,bm,bc,hav,hbp,hbc,hbx⟩,hrr⟩:=HT2.out
     have cb:=HL2.out.cell hbp hbc;rename World=>w2
     have hfl:fltn e.deep (.b x r)=fltn e.deep x ++fltn e.deep r:=rfl;have hdx:e.deep+x.dep≤D∧e.deep+r.dep≤D:=by have:=HD2.out;simp[Tr.dep] at this;omega
     have hsx:(x.sz≤1000000000∧x.afs)∧(r.sz≤1000000000∧r.afs):=by
      have h:=HS2.out;have h1:=h.1;simp only[Tr.sz] at h1;exact⟨⟨by omega,h.2.1⟩,⟨by omega,h.2.2⟩⟩
     have hbm:bm≤1000000000:=by have:=hbx.len;have:=x.len_sz;have:=hsx.1.1;omega
     have hC:ew stk2+tw x+tw r=ew s+tw e.tree:=by have:=HC2.out;simp[tw] at this;omega
     have hA3:=HA2.out;rw[hfl] at hA3
     have hW3:=HW2.out.alloc (.cells #[.slice bv bm bc] 119);have hL3:=HL2.out.alloc (.cells #[.slice bv bm bc] 119) (by omega);have hJ3:=hJ _ _ (w2.alloc (.cells #[.slice bv bm bc] 119)) HJ2.out ((Below.refl _ _).alloc hz2' _);have h43:=row_alloc H42.out (.cells #[.slice bv bm bc] 119);have hil:(i2:Int) < (e.am:Int):=by omega
     obtain⟨ed,et,eav,eam,eac⟩:=e
     dsimp only at *;subst hav;clear HT2 HW2 HL2 HJ2 HA2 HC2 H42 hfl
     gi_wp2
     gi_loopw [3,37] (fun lv iv w3=>∃(stk:List En) (pre:List Nd) (rn:Tr) (k:Nat),iv= .int .i64 k∧k≤bm∧Hid (Wt n0 w0 W.heap.size D lv w3 stk)∧Hid (TAt (· < n0) w0 false rn bv k bm)∧Hid (Low n0 w0 w3)∧Hid (J pre w3)∧Hid (AllOf pre (fltn ed rn ++fltn ed r) stk t)∧
       Hid (ew stk+tw rn+tw r=ew s+tw et)∧Hid (w3.heap[w1.heap.size]? =some (.cells #[.int .i64 (ed:Int),.slice (some ⟨bb,boff,none⟩) eam eac] 213 (0,0)))∧Hid (lv.ownBlock≠some w1.heap.size)∧Hid (ed+rn.dep≤D)∧Hid (rn.sz≤1000000000∧rn.afs)∧W.heap.size≤w3.heap.size)
      (fun _ iv _=>bm - (intOf iv).toNat)
     case atStart=>exact⟨stk2,pre2,x,0,rfl,Nat.zero_le _,hW3,hbx,hL3,hJ3,hA3,hC,h43,HN2,hdx.1,hsx.1,by simp;omega⟩
     case round=>
      obtain⟨stk3,pre3,rn3,k3,rfl,hk3,HW3,HT3,HL3,HJ3,HA3,HC3,H43,HN3,HD3,HS3,hz3⟩:=hrel
      clear hW3 hL3 hJ3 hA3 h43;rename World=>w3
      cases rn3 with
      | b _ _=>have:=HT3.out.1;simp at this
      | e=>
       have hie:k3=bm:=HT3.out;subst hie
       gi_wp2
       go_roundw
       case rel=>exact⟨stk3,pre3,r,i2+1,by go_num,by omega,HW3,hrr,HL3,HJ3,HA3,by show ew stk3+tw r=_;have:=HC3.out;simp[tw] at this;omega,H43,HN3,hdx.2,hsx.2,hz3⟩
       case measure=>simp[intOf];omega
      | n ln tn rn=>
       obtain⟨_,hlt3,⟨nb,noff,sv,sm,sc,nav,nam,nac,hbv,hnp,c0,c1,c2,c3,c4,c5,hss,htn⟩,hrn⟩:=HT3.out
       have d0:=HL3.out.cell hnp c0;have d1:=HL3.out.cell hnp c1;have d2:=HL3.out.cell hnp c2;have d3:=HL3.out.cell hnp c3;have d4:=HL3.out.cell hnp c4;have d5:=HL3.out.cell hnp c5;subst hbv;have hkl:(k3:Int) < (bm:Int):=by omega
       obtain⟨o8,ho8⟩:∃o8:Obj,o8= .cells #[.string ⟨ln.name.toArray⟩,.string ⟨ln.undo.toArray⟩,.slice sv sm sc,.bool ln.sub,.bool ln.vital,.slice nav nam nac] 104:=⟨_,rfl⟩
       have hW4:=HW3.out.alloc o8;have hL4:=HL3.out.alloc o8 (by omega);have hJ4:=hJ _ _ (w3.alloc o8) HJ3.out ((Below.refl _ _).alloc hz3 _);have h44:=row_alloc H43.out o8;have e0:=(cell_row h44 0).trans rfl;have hde:ed+ (if ln.sub then tn.dep+1 else 0)≤D∧ed+rn.dep≤D:=by
        have h:=HD3.out;have l1:=Nat.le_max_left (if ln.sub then tn.dep+1 else 0) rn.dep;have l2:=Nat.le_max_right (if ln.sub then tn.dep+1 else 0) rn.dep;rw[show (Tr.n ln tn rn).dep=max (if ln.sub then tn.dep+1 else 0) rn.dep from rfl] at h
        omega
       have hsz4:(tn.sz≤1000000000∧tn.afs)∧(rn.sz≤1000000000∧rn.afs):=by
        have h:=HS3.out;have h1:=h.1;simp only[Tr.sz] at h1;exact⟨⟨by omega,h.2.2.1⟩,⟨by omega,h.2.2.2⟩⟩
       obtain⟨fn,tmps,assign,body,hy,hR⟩:=hY pre3 ⟨ed,ln,tn,sv,sm,sc,nav,nam,nac⟩ (w3.alloc o8) hJ4 ⟨hss,htn,by show ed≤D;omega,HS3.out.2.1⟩ (by have:=HA3.out.length_eq;simp[fltn] at this;omega)
       dsimp only[Nd.enc] at hy
       rw[ho8] at hy hR hW4 hL4 hJ4 h44 e0
       gi_wp2
       refine hR.mono ?_;rintro e5 w5 (⟨rfl,hJ5,hk5⟩ | ⟨rfl,hJx5⟩)
       ·have hA5:AllOf (pre3 ++ [⟨ed,ln,tn,sv,sm,sc,nav,nam,nac⟩]) ((if ln.sub then fltn (ed+1) tn else []) ++ (fltn ed rn ++fltn ed r)) stk3 t:=by
         have h:=HA3.out;have h2:=allOf_next (x:=⟨ed,ln,tn,sv,sm,sc,nav,nam,nac⟩) (m1:=(if ln.sub then fltn (ed+1) tn else []) ++fltn ed rn) (m2:=fltn ed r) h
         rwa [List.append_assoc] at h2
        have hW5:=hW4.kept hk5;have hL5:=hL4.kept hk5;have hw1:w1.heap.size < w3.heap.size:=(Array.getElem?_eq_some_iff.1 H43.out).1;have hz5:=hk5.size;simp at hz5;have h45:=(hk5.high w1.heap.size (by omega) (by simp;omega)).trans h44;have h85:=(hk5.high w3.heap.size (by omega) (by simp)).trans (row_new w3 #[.string ⟨ln.name.toArray⟩,.string ⟨ln.undo.toArray⟩,.slice sv sm sc,.bool ln.sub,.bool ln.vital,.slice nav nam nac] 104);have s3:=(cell_row h85 3).trans rfl;have s5:=(cell_row h85 5).trans rfl;have e05:=(cell_row h45 0).trans rfl;have hC5:ew stk3+ ((if ln.sub then 1+tw tn else 0)+tw rn)+tw r=ew s+tw et:=HC3.out;have hsl:stk3.length≤1000000:=by have:=ew_len stk3;omega
        clear hW4 hL4 hJ4 h44 hy hR HA3 HC3 HW3 HL3 HJ3 HT3 d0 d1 d2 d3 d4 d5 c0 c1 c2 c3 c4 c5 e0;cases hsb:ln.sub with
        | true=>
         rw[hsb] at hde hA5 hC5 s3
         simp only[if_true] at hde hA5 hC5
         gi_wp2_with (gi_at_builtin;refine wpListIn_append_own_at _ rfl _ _ 214 rfl W.heap.size 213 i0 _ 2 32 Tryz.underlying214 hi0 hz0 hz1 hz2 rfl (by decide) _ stk3.length (evs stk3) rfl (hW5.1.alloc _) ⟨w5.heap.size,0,none⟩ 1 1 [.int .i64 ((ed:Int)+1),.slice nav nam nac] rfl rfl (new_cells w5 [.int .i64 ((ed:Int)+1),.slice nav nam nac] 213) (by simp[Value.oneCell']) (by unfold maxLen;omega) (by omega) (by simp;omega) ?_;intro v6 w6 ho6 hg6 _ hat6;obtain⟨g6,cap6,rfl⟩:=ownsRow_succ' ho6)
         have hob:∀q,u3.ownBlock=some q→W.heap.size≤q∧q < w5.heap.size:=fun q hq=>hW5.1.lt q hq
         have hg6':(w5.alloc (.cells #[.int .i64 ((ed:Int)+1),.slice nav nam nac] 213)).grownBy w6 u3.ownBlock:=hg6;have hat6':(Value.slice (some ⟨g6,0,none⟩) (stk3.length+1) cap6).ownBlock=u3.ownBlock∨(Value.slice (some ⟨g6,0,none⟩) (stk3.length+1) cap6).ownBlock=some (w5.alloc (.cells #[.int .i64 ((ed:Int)+1),.slice nav nam nac] 213)).heap.size:=hat6;have hz6:w5.heap.size≤w6.heap.size:=by have:=hg6'.size;simp at this;omega
         have hbk:∀q,q < w5.heap.size→u3.ownBlock≠some q→w6.heap[q]? =w5.heap[q]? :=fun q hq hn=>by
          rw[hg6'.block q (by simp;omega) (fun h=>hn h.symm),Below.heap_alloc _ _ _ hq]
         clear hg6 hat6
         go_roundw
         case rel=>
          refine⟨stk3 ++ [(⟨ed+1,tn,nav,nam,nac⟩:En)],pre3 ++ [(⟨ed,ln,tn,sv,sm,sc,nav,nam,nac⟩:Nd)],rn,k3+1,by go_num,by omega,?_,hrn,?_,?_,?_,?_,?_,?_,hde.2,hsz4.2,by omega⟩
          ·refine⟨?_,fun y hy=>?_⟩
           ·rw[evs_snoc,show (stk3 ++ [(⟨ed+1,tn,nav,nam,nac⟩:En)]).length=stk3.length+1 by simp]
            exact ho6
           ·rcases List.mem_append.1 hy with hy | hy
            ·exact hW5.2 y hy
            ·simp at hy;subst hy;exact⟨htn,by show ed+1+tn.dep≤D;omega,hsz4.1⟩
          ·exact fun q hq=>(hbk q (by omega) (fun h=>by have:=(hob q h).1;omega)).trans (hL5 q hq)
          ·exact hJ _ _ _ hJ5 ⟨hg6'.os,hg6'.tape,hg6'.output,hz6,fun q hq=>hbk q (by omega) (fun h=>by have:=(hob q h).1;omega)⟩
          ·exact allOf_push (e:=⟨ed+1,tn,nav,nam,nac⟩) hA5
          ·show ew (stk3 ++ [(⟨ed+1,tn,nav,nam,nac⟩:En)])+tw rn+tw r=_;rw[ew_snoc]
           show ew stk3+1+tw tn+tw rn+tw r=_;omega
          ·exact (hbk w1.heap.size (by omega) HN3.out).trans h45
          ·show Value.ownBlock _≠_
           rcases hat6' with h | h
           ·rw[h];exact HN3.out
           ·rw[h];simp;omega
         case measure=>simp[intOf];omega
        | false=>
         rw[hsb] at hde hA5 hC5 s3
         simp only[Bool.false_eq_true,if_false,List.nil_append] at hde hA5 hC5
         gi_wp2
         go_roundw
         case rel=>exact⟨stk3,pre3 ++ [(⟨ed,ln,tn,sv,sm,sc,nav,nam,nac⟩:Nd)],rn,k3+1,by go_num,by omega,hW5,hrn,hL5,hJ5,hA5,by show _=_;omega,h45,HN3,hde.2,hsz4.2,by omega⟩
         case measure=>simp[intOf];omega
       ·have hA5:AllOf (pre3 ++ [⟨ed,ln,tn,sv,sm,sc,nav,nam,nac⟩]) ((if ln.sub then fltn (ed+1) tn else []) ++fltn ed rn ++fltn ed r) stk3 t:=allOf_next (x:=⟨ed,ln,tn,sv,sm,sc,nav,nam,nac⟩) (m1:=(if ln.sub then fltn (ed+1) tn else []) ++fltn ed rn) (m2:=fltn ed r) HA3.out
        gi_wp2
        refine bodyPost_ret (results_none rfl _ _ _) rfl ?_;exact⟨⟨_,rfl⟩,.inr ⟨_,⟨_,hA5⟩,hJx5⟩⟩
end Go.Proofs.YtieoppabellafaaGreatDoor.Sx
namespace Go.Proofs.YtieoppabellafaaGreatDoor.Sx
open Go.RowKit Go.Shelf
attribute [local go_sem] Oper.semAt_some
theorem nodes_in (F:Fence)(n:Nat)(h39:F.fn 109)(hro:F.round=none)(x y:Value)(w:World) :
  CallsIn F n Tryz.prog 109 #[.agg #[x,y]] w fun e w'=>e= .returned (.func (.func 146) #[] #[.pointer (some ⟨w.heap.size,0,none⟩)])∧w'=w.alloc (.cells #[x,y] 24):=by
 refine callsIn_of_wp Tryz.func109 rfl h39 ?_ hro;simp only[Tryz.ntmps109,List.size_toArray,List.length_cons,List.length_nil,Nat.reduceAdd,Nat.reduceSub,Array.replicate_succ,Array.replicate_zero,List.push_toArray,List.append_toArray,List.nil_append,List.cons_append]
 gi_wp2
 go_ret
 exact⟨rfl,rfl⟩
structure Bnd (t:Tr):Prop where
 dep:t.dep≤100000000
 tw:tw t≤100000
 sz:t.sz≤1000000000∧t.afs
 cn:(fltn 1 t).length≤1000000000
theorem count_any (w:World)(x:ByteArray)(t:Tr)(av:Option Addr)(am ac:Nat)(ht:TAt (· < w.heap.size) w true t av 0 am)(hb:Bnd t) :
  Calls Tryz.prog 76 #[.agg #[.string x,.slice av am ac]] w fun e w'=>e= .returned (.int .i64 ((fltn 1 t).length:Int))∧Below w.heap.size w w':=by
 refine (callsIn_wide (n:=5)).1 ?_;refine callsIn_of_wp_marks Tryz.func76 rfl trivial ?_ rfl;simp only[Tryz.ntmps76,List.size_toArray,List.length_cons,List.length_nil,Nat.reduceAdd,Nat.reduceSub,Array.replicate_succ,Array.replicate_zero,List.push_toArray,List.append_toArray,List.nil_append,List.cons_append]
 gi_wp2_with (refine⟨trivial,?_⟩;gi_at_call 109;refine (nodes_in Fence.wide _ trivial rfl _ _ _).mono ?_;rintro e w' ⟨rfl,rfl⟩)
 obtain⟨Wl,hWl⟩:∃Wl,((w.alloc (.cells #[.string x,.slice av am ac] 24)).alloc (.cells #[.int .i64 0] 3)).alloc (.cells #[.string x,.slice av am ac] 24)=Wl:=⟨_,rfl⟩
 rw[hWl]
 have hz:Wl.heap.size=w.heap.size+3:=by rw[←hWl];simp
 have hcb:Wl.heap[w.heap.size+1]? =some (.cells #[.int .i64 0] 3 (0,0)):=by
  rw[←hWl]
  refine row_alloc ?_ _;have:=row_new (w.alloc (.cells #[.string x,.slice av am ac] 24)) #[.int .i64 0] 3
  rwa [World.size_alloc] at this
 have hgb:Wl.heap[w.heap.size+2]? =some (.cells #[.string x,.slice av am ac] 24 (0,0)):=by
  rw[←hWl]
  have:=row_new ((w.alloc (.cells #[.string x,.slice av am ac] 24)).alloc (.cells #[.int .i64 0] 3)) #[.string x,.slice av am ac] 24
  simpa using this
 have hbl:Below w.heap.size w Wl:=by
  rw[←hWl]
  exact (((Below.refl _ w).alloc (Nat.le_refl _) _).alloc (by simp) _).alloc (by simp;omega) _
 clear hWl;have hseq:=nodes1_in Fence.wide 4 trivial rfl (by omega) rfl w.heap.size (1+t.dep) (w.heap.size+2) w Wl t av am ac (fun k hk=>hbl.block k hk) (by omega) ((cell_row hgb 1).trans rfl) ht (Nat.le_refl _) (by have:=hb.dep;omega) hb.tw hb.sz;refine range_mine (n:=5) rfl (by omega) (gf:=146) (lb:= #[.pointer (some ⟨w.heap.size+2,0,none⟩)]) rfl trivial (enters_of Tryz.func146 (by kernel_rfl) rfl) hseq (by omega) (fun _=>rfl)
  (fun pre W=>W.heap[w.heap.size+1]? =some (.cells #[.int .i64 (pre.length:Int)] 3 (0,0))∧Below w.heap.size w W) (fun _ _=>False)
  (fun s A B hs hB=>⟨(hB.block _ (by omega)).trans hs.1,hs.2.trans (hB.mono (by omega))⟩) (fun _ _ _ h _=>h) ⟨hcb,hbl⟩ ?round ?done ?stop
 case round=>
  rintro l pre y W hV hN ⟨hc,hB⟩ hlt;obtain⟨yd,yl,ya,ysv,ysm,ysc,yav,yam,yac⟩:=y
  simp only[Nd.enc];simp[-Array.foldl_toList]
  gi_wp2
  refine⟨⟨hc,hB⟩,Kr.refl _ _ _,?_⟩
  intro W2 hc2 hB2 hk2;have c0:=(cell_row hc2 0).trans rfl;have f0:=froz_row hc2 0;have hn:=hb.cn;have hln:pre.length < 1000000000:=by omega
  gi_wp2
  refine⟨Kr.setCell _ _ (by omega) (by omega),?_,?_⟩
  ·have:=row_set hc2 0 (.int .i64 ((pre.length:Int)+1))
   simpa using this
  ·exact hB2.setCell (p:=⟨w.heap.size+1,0,none⟩) (by show w.heap.size≤w.heap.size+1;omega) _
 case done=>
  rintro xs W hS ⟨hc,hB⟩ hK;have c0:=(cell_row hc 0).trans rfl;have hl:(xs.length:Int)=((fltn 1 t).length:Int):=by have:=hS.length_eq;simp at this;omega
  gi_wp2
  refine⟨by simp,.inl ⟨_,_,rfl,run_takeDeferred hK,?_⟩⟩
  refine⟨_,results_tmp rfl _ _ _,?_,?_⟩
  ·rw[←hl];rfl
  ·exact hB.trans (below_putObj _ _ _ (by omega) (Array.getElem?_eq_some_iff.1 hK).1)
 case stop=>rintro pre W _ h _;exact h.elim
end Go.Proofs.YtieoppabellafaaGreatDoor.Sx
namespace Go.Proofs.YtieoppabellafaaGreatDoor.Sx
open Go.RowKit Go.Shelf
attribute [local go_sem] Oper.semAt_some
def mx:List (Nat × Lab × Tr)→Nat
 | []=>0
 | (d,l,_) :: r=>max (if l.sub then d+1 else 0) (mx r)
theorem mx_append (a b:List (Nat × Lab × Tr)):mx (a ++b)=max (mx a) (mx b):=by
 induction a with
 | nil=>simp[mx]
 | cons x a ih=>obtain⟨d,l,t⟩:=x;simp[mx,ih,Nat.max_assoc]
theorem mx_perm {a b:List (Nat × Lab × Tr)}(h:a.Perm b):mx a=mx b:=by
 induction h with
 | nil=>rfl
 | cons x _ ih=>obtain⟨d,l,t⟩:=x;simp[mx,ih]
 | swap x y l=>
  obtain⟨d,l1,t⟩:=x
  obtain⟨d',l2,t'⟩:=y
  simp only[mx];omega
 | trans _ _ h1 h2=>rw[h1,h2]
theorem mx_flat (t:Tr):∀d,(t.dep=0→mx (fltn d t)=0)∧(t.dep≠0→mx (fltn d t)=d+t.dep):=by
 induction t with
 | e=>intro d;simp[fltn,mx,Tr.dep]
 | b x r ih1 ih2=>
  intro d;have e1:=ih1 d;have e2:=ih2 d;have hd:(Tr.b x r).dep=max x.dep r.dep:=rfl;have hm:mx (fltn d (.b x r))=max (mx (fltn d x)) (mx (fltn d r)):=mx_append _ _;rw[hd,hm]
  omega
 | n l x r ih1 ih2=>
  intro d;have e1:=ih1 (d+1);have e2:=ih2 d
  by_cases hs:l.sub=true
  ·have hd:(Tr.n l x r).dep=max (x.dep+1) r.dep:=by simp[Tr.dep,hs]
   have hm:mx (fltn d (.n l x r))=max (d+1) (max (mx (fltn (d+1) x)) (mx (fltn d r))):=by simp[fltn,mx,mx_append,hs]
   rw[hd,hm]
   omega
  ·have hd:(Tr.n l x r).dep=r.dep:=by simp[Tr.dep,hs]
   have hm:mx (fltn d (.n l x r))=mx (fltn d r):=by simp[fltn,mx,hs]
   rw[hd,hm]
   exact e2
def over (x:Nat × Lab × Tr):Bool:=x.2.1.sub && x.1==70
theorem depth_any (w:World)(x:ByteArray)(t:Tr)(av:Option Addr)(am ac:Nat)(ht:TAt (· < w.heap.size) w true t av 0 am)(hb:Bnd t) :
  Calls Tryz.prog 75 #[.agg #[.string x,.slice av am ac]] w fun e w'=>e= .returned (.int .i64 ((1+t.dep:Nat):Int))∧Below w.heap.size w w':=by
 refine (callsIn_wide (n:=5)).1 ?_;refine callsIn_of_wp_marks Tryz.func75 rfl trivial ?_ rfl;simp only[Tryz.ntmps75,List.size_toArray,List.length_cons,List.length_nil,Nat.reduceAdd,Nat.reduceSub,Array.replicate_succ,Array.replicate_zero,List.push_toArray,List.append_toArray,List.nil_append,List.cons_append]
 gi_wp2_with (refine⟨trivial,?_⟩;gi_at_call 109;refine (nodes_in Fence.wide _ trivial rfl _ _ _).mono ?_;rintro e w' ⟨rfl,rfl⟩)
 obtain⟨Wl,hWl⟩:∃Wl,((w.alloc (.cells #[.string x,.slice av am ac] 24)).alloc (.cells #[.int .i64 1] 3)).alloc (.cells #[.string x,.slice av am ac] 24)=Wl:=⟨_,rfl⟩
 rw[hWl]
 have hz:Wl.heap.size=w.heap.size+3:=by rw[←hWl];simp
 have hcb:Wl.heap[w.heap.size+1]? =some (.cells #[.int .i64 1] 3 (0,0)):=by
  rw[←hWl]
  refine row_alloc ?_ _;have:=row_new (w.alloc (.cells #[.string x,.slice av am ac] 24)) #[.int .i64 1] 3
  rwa [World.size_alloc] at this
 have hgb:Wl.heap[w.heap.size+2]? =some (.cells #[.string x,.slice av am ac] 24 (0,0)):=by
  rw[←hWl]
  have:=row_new ((w.alloc (.cells #[.string x,.slice av am ac] 24)).alloc (.cells #[.int .i64 1] 3)) #[.string x,.slice av am ac] 24
  simpa using this
 have hbl:Below w.heap.size w Wl:=by
  rw[←hWl]
  exact (((Below.refl _ w).alloc (Nat.le_refl _) _).alloc (by simp) _).alloc (by simp;omega) _
 clear hWl;have hseq:=nodes1_in Fence.wide 4 trivial rfl (by omega) rfl w.heap.size (1+t.dep) (w.heap.size+2) w Wl t av am ac (fun k hk=>hbl.block k hk) (by omega) ((cell_row hgb 1).trans rfl) ht (Nat.le_refl _) (by have:=hb.dep;omega) hb.tw hb.sz;refine range_mine (n:=5) rfl (by omega) (gf:=146) (lb:= #[.pointer (some ⟨w.heap.size+2,0,none⟩)]) rfl trivial (enters_of Tryz.func146 (by kernel_rfl) rfl) hseq (by omega) (fun _=>rfl)
  (fun pre W=>W.heap[w.heap.size+1]? =some (.cells #[.int .i64 ((max 1 (mx (pre.map Nd.key)):Nat):Int)] 3 (0,0))∧Below w.heap.size w W) (fun _ _=>False)
  (fun s A B hs hB=>⟨(hB.block _ (by omega)).trans hs.1,hs.2.trans (hB.mono (by omega))⟩) (fun _ _ _ h _=>h) ⟨hcb,hbl⟩ ?round ?done ?stop
 case round=>
  rintro l pre y W hV hN ⟨hc,hB⟩ hlt;obtain⟨yd,yl,ya,ysv,ysm,ysc,yav,yam,yac⟩:=y
  have hyd:yd≤1+t.dep:=hV.2.2.1;have hdb:=hb.dep;simp only[Nd.enc];simp[-Array.foldl_toList]
  gi_wp2
  have hz0:=hB.size;refine⟨⟨row_alloc hc _,hB.alloc hz0 _⟩,Kr.of_below ((Below.refl _ _).alloc (Nat.le_refl _) _) (by omega),?_⟩
  intro W2 hc2 hB2 hk2;have c0:=(cell_row hc2 0).trans rfl;have f0:=froz_row hc2 0;have hn2:=(hk2.high W.heap.size (by omega) (by simp)).trans (row_new W #[.string ⟨yl.name.toArray⟩,.string ⟨yl.undo.toArray⟩,.slice ysv ysm ysc,.bool yl.sub,.bool yl.vital,.slice yav yam yac] 104);have s3:=(cell_row hn2 3).trans rfl;have hmx:mx ((pre ++ [(⟨yd,yl,ya,ysv,ysm,ysc,yav,yam,yac⟩:Nd)]).map Nd.key)=max (mx (pre.map Nd.key)) (if yl.sub then yd+1 else 0):=by
   simp[mx_append,mx,Nd.key]
  obtain⟨M,hM⟩:∃M,max 1 (mx (pre.map Nd.key))=M:=⟨_,rfl⟩
  rw[hM] at hc2 c0
  cases hs:yl.sub with
  | false=>
   rw[hs] at s3 hmx
   gi_wp2
   have he:max 1 (mx ((pre ++ [(⟨yd,yl,ya,ysv,ysm,ysc,yav,yam,yac⟩:Nd)]).map Nd.key))=M:=by
    rw[hmx]
    simp only[Bool.false_eq_true,if_false];omega
   refine⟨Kr.refl _ _ _,?_,hB2⟩
   show W2.heap[w.heap.size+1]? =some (.cells #[.int .i64 ((max 1 (mx ((pre ++ [(⟨yd,yl,ya,ysv,ysm,ysc,yav,yam,yac⟩:Nd)]).map Nd.key)):Nat):Int)] 3 (0,0));rw[he]
   exact hc2
  | true=>
   rw[hs] at s3 hmx
   have he:max 1 (mx ((pre ++ [(⟨yd,yl,ya,ysv,ysm,ysc,yav,yam,yac⟩:Nd)]).map Nd.key))=max M (yd+1):=by
    rw[hmx]
    simp only[if_true];omega
   have fin:∀(q:Nat) (aa:Act),q=max M (yd+1)→myPost w.heap.size Wl.heap.size (fun pre W=>W.heap[w.heap.size+1]? =some (.cells #[.int .i64 ((max 1 (mx (pre.map Nd.key)):Nat):Int)] 3 (0,0))∧Below w.heap.size w W) (fun _ _=>False)
     (pre ++ [(⟨yd,yl,ya,ysv,ysm,ysc,yav,yam,yac⟩:Nd)]) W2 .normal aa (W2.setCell ⟨w.heap.size+1,0,none⟩ (.int .i64 (q:Int))):=fun q _ hq=>by
    refine⟨Kr.setCell _ _ (by omega) (by omega),?_,hB2.setCell (p:=⟨w.heap.size+1,0,none⟩) (by show w.heap.size≤w.heap.size+1;omega) _⟩
    show (W2.setCell ⟨w.heap.size+1,0,none⟩ (.int .i64 (q:Int))).heap[w.heap.size+1]? =some (.cells #[.int .i64 ((max 1 (mx ((pre ++ [(⟨yd,yl,ya,ysv,ysm,ysc,yav,yam,yac⟩:Nd)]).map Nd.key)):Nat):Int)] 3 (0,0));rw[he,←hq]
    exact row_set hc2 0 _
   rw[hz] at fin
   gi_wp2
   all_goals first | exact fin M _ (by omega) | exact fin (yd+1) _ (by omega)
 case done=>
  rintro xs W hS ⟨hc,hB⟩ hK;have c0:=(cell_row hc 0).trans rfl;have hl:max 1 (mx (xs.map Nd.key))=1+t.dep:=by
   rw[mx_perm hS]
   have:=mx_flat t 1;omega
  rw[hl] at c0
  gi_wp2
  refine⟨by simp,.inl ⟨_,_,rfl,run_takeDeferred hK,?_⟩⟩
  refine⟨_,results_tmp rfl _ _ _,rfl,?_⟩
  exact hB.trans (below_putObj _ _ _ (by omega) (Array.getElem?_eq_some_iff.1 hK).1)
 case stop=>rintro pre W _ h _;exact h.elim
end Go.Proofs.YtieoppabellafaaGreatDoor.Sx
namespace Go.Proofs.YtieoppabellafaaGreatDoor.Sx
open Go.RowKit Go.Shelf
attribute [local go_sem] Oper.semAt_some
def bigL (l:List (Nat × Lab × Tr)):Bool:=decide (1000 < l.length) || l.any over
theorem bigL_perm {a b:List (Nat × Lab × Tr)}(h:a.Perm b):bigL a=bigL b:=by
 unfold bigL;rw[h.length_eq,h.any_eq]
theorem bigL_true {a b:List (Nat × Lab × Tr)}(h:bigL a=true):bigL (a ++b)=true:=by
 simp only[bigL,Bool.or_eq_true,decide_eq_true_eq,List.any_append,List.length_append] at *
 rcases h with h | h
 ·exact .inl (by omega)
 ·exact .inr (.inl h)
theorem big_any (w:World)(x:ByteArray)(t:Tr)(av:Option Addr)(am ac:Nat)(ht:TAt (· < w.heap.size) w true t av 0 am)(hb:Bnd t) :
  Calls Tryz.prog 108 #[.agg #[.string x,.slice av am ac]] w fun e w'=>e= .returned (.bool (bigL (fltn 1 t)))∧Below w.heap.size w w':=by
 refine (callsIn_wide (n:=5)).1 ?_;refine callsIn_of_wp_marks Tryz.func108 rfl trivial ?_ rfl;simp only[Tryz.ntmps108,List.size_toArray,List.length_cons,List.length_nil,Nat.reduceAdd,Nat.reduceSub,Array.replicate_succ,Array.replicate_zero,List.push_toArray,List.append_toArray,List.nil_append,List.cons_append]
 gi_wp2_with (refine⟨trivial,?_⟩;gi_at_call 109;refine (nodes_in Fence.wide _ trivial rfl _ _ _).mono ?_;rintro e w' ⟨rfl,rfl⟩)
 obtain⟨Wl,hWl⟩:∃Wl,(((w.alloc (.cells #[.string x,.slice av am ac] 24)).alloc (.cells #[.bool false] 4)).alloc (.cells #[.int .i64 0] 3)).alloc (.cells #[.string x,.slice av am ac] 24)=Wl:=⟨_,rfl⟩
 rw[hWl]
 have hz:Wl.heap.size=w.heap.size+4:=by rw[←hWl];simp
 have hrb:Wl.heap[w.heap.size+1]? =some (.cells #[.bool false] 4 (0,0)):=by
  rw[←hWl]
  refine row_alloc (row_alloc ?_ _) _;have:=row_new (w.alloc (.cells #[.string x,.slice av am ac] 24)) #[.bool false] 4
  rwa [World.size_alloc] at this
 have hcb:Wl.heap[w.heap.size+2]? =some (.cells #[.int .i64 0] 3 (0,0)):=by
  rw[←hWl]
  refine row_alloc ?_ _;have:=row_new ((w.alloc (.cells #[.string x,.slice av am ac] 24)).alloc (.cells #[.bool false] 4)) #[.int .i64 0] 3
  simpa using this
 have hgb:Wl.heap[w.heap.size+3]? =some (.cells #[.string x,.slice av am ac] 24 (0,0)):=by
  rw[←hWl]
  have:=row_new (((w.alloc (.cells #[.string x,.slice av am ac] 24)).alloc (.cells #[.bool false] 4)).alloc (.cells #[.int .i64 0] 3)) #[.string x,.slice av am ac] 24
  simpa using this
 have hbl:Below w.heap.size w Wl:=by
  rw[←hWl]
  exact ((((Below.refl _ w).alloc (Nat.le_refl _) _).alloc (by simp) _).alloc (by simp;omega) _).alloc (by simp;omega) _
 clear hWl;have hseq:=nodes1_in Fence.wide 4 trivial rfl (by omega) rfl w.heap.size (1+t.dep) (w.heap.size+3) w Wl t av am ac (fun k hk=>hbl.block k hk) (by omega) ((cell_row hgb 1).trans rfl) ht (Nat.le_refl _) (by have:=hb.dep;omega) hb.tw hb.sz;refine range_mine (n:=5) rfl (by omega) (gf:=146) (lb:= #[.pointer (some ⟨w.heap.size+3,0,none⟩)]) rfl trivial (enters_of Tryz.func146 (by kernel_rfl) rfl) hseq (by omega) (fun _=>rfl)
  (fun pre W=>W.heap[w.heap.size+2]? =some (.cells #[.int .i64 (pre.length:Int)] 3 (0,0))∧W.heap[w.heap.size+1]? =some (.cells #[.bool false] 4 (0,0))∧bigL (pre.map Nd.key)=false∧Below w.heap.size w W)
  (fun pre W=>W.heap[w.heap.size+1]? =some (.cells #[.bool true] 4 (0,0))∧bigL (pre.map Nd.key)=true∧Below w.heap.size w W)
  (fun s A B hs hB=>⟨(hB.block _ (by omega)).trans hs.1,(hB.block _ (by omega)).trans hs.2.1,hs.2.2.1,hs.2.2.2.trans (hB.mono (by omega))⟩)
  (fun s A B hs hB=>⟨(hB.block _ (by omega)).trans hs.1,hs.2.1,hs.2.2.trans (hB.mono (by omega))⟩) ⟨hcb,hrb,rfl,hbl⟩ ?round ?done ?stop
 case round=>
  rintro l pre y W hV hN ⟨hc,hr,hL,hB⟩ hlt;obtain⟨yd,yl,ya,ysv,ysm,ysc,yav,yam,yac⟩:=y
  have hyd:yd≤1+t.dep:=hV.2.2.1;have hdb:=hb.dep;have hz0:=hB.size;have hn:=hb.cn;have hln:pre.length < 1000000000:=by omega
  simp only[Nd.enc];simp only[Array.zip]
  gi_wp2
  refine⟨⟨row_alloc hc _,row_alloc hr _,hL,hB.alloc hz0 _⟩,Kr.of_below ((Below.refl _ _).alloc (Nat.le_refl _) _) (by omega),?_⟩
  rintro W2 ⟨hc2,hr2,hL2,hB2⟩ hk2;have hc2':W2.heap[w.heap.size+1+1]? =some (.cells #[.int .i64 (pre.length:Int)] 3 (0,0)):=hc2;have c0:=(cell_row hc2' 0).trans rfl;have f0:=froz_row hc2' 0;have hn2:=(hk2.high W.heap.size (by omega) (by simp)).trans (row_new W #[.string ⟨yl.name.toArray⟩,.string ⟨yl.undo.toArray⟩,.slice ysv ysm ysc,.bool yl.sub,.bool yl.vital,.slice yav yam yac] 104);have s3:∀v,(W2.setCell ⟨w.heap.size+1+1,0,none⟩ v).cell? ⟨W.heap.size,3,none⟩=some (.bool yl.sub):=fun v=>(cell_row (row_other hn2 v (by omega)) 3).trans rfl
  have r0:∀v,(W2.setCell ⟨w.heap.size+1+1,0,none⟩ v).cell? ⟨w.heap.size+1,0,none⟩=some (.bool false):=fun v=>(cell_row (row_other hr2 v (by omega)) 0).trans rfl
  have rf:∀v,(W2.setCell ⟨w.heap.size+1+1,0,none⟩ v).frozen? ⟨w.heap.size+1,0,none⟩=false:=fun v=>froz_row (row_other hr2 v (by omega)) 0
  have hany:(pre.map Nd.key).any over=false:=by
   simp only[bigL,Bool.or_eq_false_iff] at hL;exact hL.2
  have hbq:bigL ((pre ++ [(⟨yd,yl,ya,ysv,ysm,ysc,yav,yam,yac⟩:Nd)]).map Nd.key)=(decide (1000 < pre.length+1) || (yl.sub && yd==70)):=by
   simp[bigL,hany,over,Nd.key]
  have kk1:∀v,Kr w.heap.size Wl.heap.size W2 (W2.setCell ⟨w.heap.size+1+1,0,none⟩ v):=fun v=>Kr.setCell _ _ (by omega) (by omega)
  have bb1:∀v,Below w.heap.size w (W2.setCell ⟨w.heap.size+1+1,0,none⟩ v):=fun v=>hB2.setCell (p:=⟨w.heap.size+1+1,0,none⟩) (by show w.heap.size≤w.heap.size+1+1;omega) _
  have finN:∀aa:Act,(decide (1000 < pre.length+1) || (yl.sub && yd==70))=false→myPost w.heap.size Wl.heap.size
    (fun pre W=>W.heap[w.heap.size+2]? =some (.cells #[.int .i64 (pre.length:Int)] 3 (0,0))∧W.heap[w.heap.size+1]? =some (.cells #[.bool false] 4 (0,0))∧bigL (pre.map Nd.key)=false∧Below w.heap.size w W)
    (fun pre W=>W.heap[w.heap.size+1]? =some (.cells #[.bool true] 4 (0,0))∧bigL (pre.map Nd.key)=true∧Below w.heap.size w W)
    (pre ++ [(⟨yd,yl,ya,ysv,ysm,ysc,yav,yam,yac⟩:Nd)]) W2 .normal aa (W2.setCell ⟨w.heap.size+1+1,0,none⟩ (.int .i64 ((pre.length:Int)+1))):=fun _ hq=>by
   refine⟨kk1 _,?_,row_other hr2 _ (by omega),by rw[hbq];exact hq,bb1 _⟩
   have:=row_set hc2' 0 (.int .i64 ((pre.length:Int)+1))
   simpa using this
  have finR:∀aa:Act,(decide (1000 < pre.length+1) || (yl.sub && yd==70))=true→myPost w.heap.size Wl.heap.size
    (fun pre W=>W.heap[w.heap.size+2]? =some (.cells #[.int .i64 (pre.length:Int)] 3 (0,0))∧W.heap[w.heap.size+1]? =some (.cells #[.bool false] 4 (0,0))∧bigL (pre.map Nd.key)=false∧Below w.heap.size w W)
    (fun pre W=>W.heap[w.heap.size+1]? =some (.cells #[.bool true] 4 (0,0))∧bigL (pre.map Nd.key)=true∧Below w.heap.size w W)
    (pre ++ [(⟨yd,yl,ya,ysv,ysm,ysc,yav,yam,yac⟩:Nd)]) W2 .ret aa ((W2.setCell ⟨w.heap.size+1+1,0,none⟩ (.int .i64 ((pre.length:Int)+1))).setCell ⟨w.heap.size+1,0,none⟩ (.bool true)):=fun _ hq=>by
   exact⟨(kk1 _).trans (Kr.setCell _ _ (by omega) (by omega)),row_set (row_other hr2 _ (by omega)) 0 _,by rw[hbq];exact hq,(bb1 _).setCell (p:=⟨w.heap.size+1,0,none⟩) (by show w.heap.size≤w.heap.size+1;omega) _⟩
  clear hbq hany hL hL2 hc2 hc2' hn2 hr hc
  by_cases h1:1000 < pre.length+1
  ·have h1':(1000:Int) < (pre.length:Int)+1:=by omega
   gi_wp2
   exact finR _ (by simp[h1])
  ·have h1':decide ((1000:Int) < (pre.length:Int)+1)=false:=by simp;omega
   have h1d:decide (1000 < pre.length+1)=false:=by simp;omega
   cases hs:yl.sub with
   | false=>
    rw[hs] at s3 finN
    gi_wp2
    exact finN _ (by simp[h1d])
   | true=>
    rw[hs] at s3 finN finR
    by_cases h7:yd=70
    ·subst h7
     gi_wp2
     exact finR _ (by simp)
    ·have h7':((yd:Int)==70)=false:=by simp;omega
     gi_wp2
     exact finN _ (by simp[h1d,h7])
 case done=>
  rintro xs W hS ⟨hc,hr,hL,hB⟩ hK;have r0:=(cell_row hr 0).trans rfl;have rf:=froz_row hr 0;have hbig:bigL (fltn 1 t)=false:=by rw[←bigL_perm hS];exact hL
  gi_wp2
  have hKs:(W.setCell ⟨w.heap.size+1,0,none⟩ (.bool false)).heap[Wl.heap.size]? =some (.deferred (some [])):=(Below.heap_setCell W ⟨w.heap.size+1,0,none⟩ _ _ (by show Wl.heap.size≠w.heap.size+1;omega)).trans hK;have hBs:Below w.heap.size w (W.setCell ⟨w.heap.size+1,0,none⟩ (.bool false)):=hB.setCell (p:=⟨w.heap.size+1,0,none⟩) (by show w.heap.size≤w.heap.size+1;omega) _;have hr':((W.setCell ⟨w.heap.size+1,0,none⟩ (.bool false)).putObj Wl.heap.size (.deferred none)).heap[w.heap.size+1]? =some (.cells #[.bool false] 4 (0,0)):=(World.putObj_heap_other (by omega)).trans (row_set hr 0 _);have r0':((W.setCell ⟨w.heap.size+1,0,none⟩ (.bool false)).putObj Wl.heap.size (.deferred none)).cell? ⟨w.heap.size+1,0,none⟩=some (.bool false):=(cell_row hr' 0).trans rfl;refine⟨by simp,.inl ⟨_,_,rfl,run_takeDeferred hKs,?_⟩⟩
  exact⟨.bool false,by simp[results,Tryz.results108,go_sem,r0'],by rw[hbig],(hBs).trans (below_putObj _ _ _ (by omega) (Array.getElem?_eq_some_iff.1 hKs).1)⟩
 case stop=>
  rintro pre W ⟨rest,hP⟩ ⟨hr,hL,hB⟩ hK;have r0:=(cell_row hr 0).trans rfl;have hbig:bigL (fltn 1 t)=true:=by rw[←bigL_perm hP];exact bigL_true hL
  gi_wp2
  have hr':(W.putObj Wl.heap.size (.deferred none)).heap[w.heap.size+1]? =some (.cells #[.bool true] 4 (0,0)):=(World.putObj_heap_other (by omega)).trans hr;have r0':(W.putObj Wl.heap.size (.deferred none)).cell? ⟨w.heap.size+1,0,none⟩=some (.bool true):=(cell_row hr' 0).trans rfl;refine⟨by simp,.inl ⟨_,_,rfl,run_takeDeferred hK,?_⟩⟩
  exact⟨.bool true,by simp[results,Tryz.results108,go_sem,r0'],by rw[hbig],(hB).trans (below_putObj _ _ _ (by omega) (Array.getElem?_eq_some_iff.1 hK).1)⟩
end Go.Proofs.YtieoppabellafaaGreatDoor.Sx
