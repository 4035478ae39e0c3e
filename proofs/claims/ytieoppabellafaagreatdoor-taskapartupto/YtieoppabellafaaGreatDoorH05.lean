/- Texts of the seat, packed: SWK SWN SWQ SWR SWS SWT SWU SMg SWV SXD STa STd. -/
import Derived.Test.YtieoppabellafaaGreatDoorH01
import Derived.Test.YtieoppabellafaaGreatDoorH04
import Derived.Test.YtieoppabellafaaGreatDoorH02
import Derived.WalkMore
import Derived.Deep.RegionWith
import Derived.BigQuiet
import Derived.Deep.QuietTactic
import Derived.Defers
import Derived.Laws.Externs
import Derived.Lib.AppendStr
import Derived.Lib.Builder
import Derived.Lib.UnsafeStr
import Derived.LoopN
import Derived.Recover
set_option maxRecDepth 1000000
set_option maxHeartbeats 64000000
set_option linter.unusedVariables false
namespace Go.Proofs.YtieoppabellafaaGreatDoor.Sx
open Go.RowKit
theorem vrune (c:Int)(hc:isCp c=true)(w:World):Calls Tryz.prog 176 #[.int .i32 c] w fun e w'=>e= .returned (.bool true)∧w'=w:=by
 rw[isCp_iff] at hc
 obtain⟨h1,h2,h3⟩:=hc
 go_enter Tryz.func176,Tryz.ntmps176
 go_wp2
 all_goals go_ret
 all_goals first | exact⟨rfl,rfl⟩ | (exfalso;omega)
theorem ib_none (l:List UInt8)(b:UInt8)(h:∀x∈l,x≠b):Lib.indexByte l b= -1:=by
 induction l with
 | nil=>rfl
 | cons x l ih=>
  unfold Lib.indexByte;have h1:(x==b)=false:=by rw[beq_eq_false_iff_ne];exact h x (by simp)
  rw[h1,ih (fun y hy=>h y (by simp[hy]))]
  rfl
theorem ib_sub (k:Nat)(b:Nat)(h0:128≤b)(h1:b < 256):Lib.indexByte ((⟨#[123,125,40,41,59,44]⟩:ByteArray).extract k 6).data.toList ((b:Int).toNat.toUInt8)= -1:=by
 apply ib_none
 intro x hx;have hx2:x∈([123,125,40,41,59,44]:List UInt8):=by
  rw[Lib.extract_data] at hx
  exact List.mem_of_mem_drop (List.mem_of_mem_take hx)
 have hl:∀y∈([123,125,40,41,59,44]:List UInt8),y.toNat < 128:=by decide
 have h2:=hl x hx2;rintro rfl;rw[j8] at h2
 have e:b.toUInt8.toNat=b:=ofNat_toNat b h1;omega
theorem irune_2 (c:Int)(rs:ByteArray)(hc:isCp c=true)(h128:128≤c)(hne:(c==65533)=false)(hrs:rs.size=2)(hb:128≤bt rs 1)(w:World)
  (hcv:∀w,(convert 21 9 (.int .i32 c)).run Tryz.prog w= .ok (.string rs) w) :
  Calls Tryz.prog 173 #[.string ⟨#[123,125,40,41,59,44]⟩,.int .i32 c] w fun e w'=>e= .returned (.int .i64 (-1))∧Below w.heap.size w w':=by
 obtain⟨s,hs⟩:∃s:ByteArray,s=⟨#[123,125,40,41,59,44]⟩:=⟨_,rfl⟩
 have HC:Hid (isCp c=true):=hc;have hb2:=bt_lt rs 1;have HIB:Hid (∀wx,Calls Tryz.prog 175 #[.string (s.extract 2 6),.int .u8 (bt rs 1:Int)] wx fun e w'=>e= .returned (.int .i64 (-1))∧w'=wx):=by
  intro wx;have h:=ibyte (s.extract 2 6) (bt rs 1:Int) wx;rw[hs,ib_sub 2 (bt rs 1) hb hb2,←hs] at h
  exact h
 have hs6:s.size=6:=by rw[hs];rfl
 have hsb:bt s 1 < 128:=by rw[hs];decide
 rw[←hs]
 clear hs hc;have l1:1 < s.size:=by omega
 have l2:1 < rs.size:=by omega
 have e1:=bt_at s 1 l1;have e2:=bt_at rs 1 l2;have hd:((bt s 1:Int) !=(bt rs 1:Int))=true:=by rw[bne_iff_ne];omega
 have hw0:Below w.heap.size w w:=Below.refl _ _;have hwr:IntKind.i64.wrap 2=2:=by decide
 go_enter Tryz.func173,Tryz.ntmps173
 go_wp2_with (go_at_call 176;refine (vrune _ HC.out _).mono ?_;rintro e w' ⟨rfl,rfl⟩)
 go_step3
 go_wp2
 refine wp_loop_rounds 1 ?_;rw[rounds_succ]
 go_wp2
 go_step3
 go_wp2
 go_quiet (fail)
 have hw1:=below_drewN hw0 nq;generalize World.drewN _ nq=w1 at *
 go_wp2
 go_quiet ((go_at_call 175;exact zQ (HIB.out _)))
 go_wp2
 simp only[Exit.noGoto,Exit.inBlock,Exit.then]
 go_ret
 exact⟨rfl,below_drewN hw1 _⟩
theorem irune_3 (c:Int)(rs:ByteArray)(hc:isCp c=true)(h128:128≤c)(hne:(c==65533)=false)(hrs:rs.size=3)(hb:128≤bt rs 2)(w:World)
  (hcv:∀w,(convert 21 9 (.int .i32 c)).run Tryz.prog w= .ok (.string rs) w) :
  Calls Tryz.prog 173 #[.string ⟨#[123,125,40,41,59,44]⟩,.int .i32 c] w fun e w'=>e= .returned (.int .i64 (-1))∧Below w.heap.size w w':=by
 obtain⟨s,hs⟩:∃s:ByteArray,s=⟨#[123,125,40,41,59,44]⟩:=⟨_,rfl⟩
 have HC:Hid (isCp c=true):=hc;have hb2:=bt_lt rs 2;have HIB:Hid (∀wx,Calls Tryz.prog 175 #[.string (s.extract 3 6),.int .u8 (bt rs 2:Int)] wx fun e w'=>e= .returned (.int .i64 (-1))∧w'=wx):=by
  intro wx;have h:=ibyte (s.extract 3 6) (bt rs 2:Int) wx;rw[hs,ib_sub 3 (bt rs 2) hb hb2,←hs] at h
  exact h
 have hs6:s.size=6:=by rw[hs];rfl
 have hsb:bt s 2 < 128:=by rw[hs];decide
 rw[←hs]
 clear hs hc;have l1:2 < s.size:=by omega
 have l2:2 < rs.size:=by omega
 have e1:=bt_at s 2 l1;have e2:=bt_at rs 2 l2;have hd:((bt s 2:Int) !=(bt rs 2:Int))=true:=by rw[bne_iff_ne];omega
 have hw0:Below w.heap.size w w:=Below.refl _ _;have hwr:IntKind.i64.wrap 3=3:=by decide
 go_enter Tryz.func173,Tryz.ntmps173
 go_wp2_with (go_at_call 176;refine (vrune _ HC.out _).mono ?_;rintro e w' ⟨rfl,rfl⟩)
 go_step3
 go_wp2
 refine wp_loop_rounds 1 ?_;rw[rounds_succ]
 go_wp2
 go_step3
 go_wp2
 go_quiet (fail)
 have hw1:=below_drewN hw0 nq;generalize World.drewN _ nq=w1 at *
 go_wp2
 go_quiet ((go_at_call 175;exact zQ (HIB.out _)))
 go_wp2
 simp only[Exit.noGoto,Exit.inBlock,Exit.then]
 go_ret
 exact⟨rfl,below_drewN hw1 _⟩
theorem irune_4 (c:Int)(rs:ByteArray)(hc:isCp c=true)(h128:128≤c)(hne:(c==65533)=false)(hrs:rs.size=4)(hb:128≤bt rs 3)(w:World)
  (hcv:∀w,(convert 21 9 (.int .i32 c)).run Tryz.prog w= .ok (.string rs) w) :
  Calls Tryz.prog 173 #[.string ⟨#[123,125,40,41,59,44]⟩,.int .i32 c] w fun e w'=>e= .returned (.int .i64 (-1))∧Below w.heap.size w w':=by
 obtain⟨s,hs⟩:∃s:ByteArray,s=⟨#[123,125,40,41,59,44]⟩:=⟨_,rfl⟩
 have HC:Hid (isCp c=true):=hc;have hb2:=bt_lt rs 3;have HIB:Hid (∀wx,Calls Tryz.prog 175 #[.string (s.extract 4 6),.int .u8 (bt rs 3:Int)] wx fun e w'=>e= .returned (.int .i64 (-1))∧w'=wx):=by
  intro wx;have h:=ibyte (s.extract 4 6) (bt rs 3:Int) wx;rw[hs,ib_sub 4 (bt rs 3) hb hb2,←hs] at h
  exact h
 have hs6:s.size=6:=by rw[hs];rfl
 have hsb:bt s 3 < 128:=by rw[hs];decide
 rw[←hs]
 clear hs hc;have l1:3 < s.size:=by omega
 have l2:3 < rs.size:=by omega
 have e1:=bt_at s 3 l1;have e2:=bt_at rs 3 l2;have hd:((bt s 3:Int) !=(bt rs 3:Int))=true:=by rw[bne_iff_ne];omega
 have hw0:Below w.heap.size w w:=Below.refl _ _;have hwr:IntKind.i64.wrap 4=4:=by decide
 go_enter Tryz.func173,Tryz.ntmps173
 go_wp2_with (go_at_call 176;refine (vrune _ HC.out _).mono ?_;rintro e w' ⟨rfl,rfl⟩)
 go_step3
 go_wp2
 refine wp_loop_rounds 1 ?_;rw[rounds_succ]
 go_wp2
 go_step3
 go_wp2
 go_quiet (fail)
 have hw1:=below_drewN hw0 nq;generalize World.drewN _ nq=w1 at *
 go_wp2
 go_quiet ((go_at_call 175;exact zQ (HIB.out _)))
 go_wp2
 simp only[Exit.noGoto,Exit.inBlock,Exit.then]
 go_ret
 exact⟨rfl,below_drewN hw1 _⟩
theorem irune_any (c:Int)(hc:isCp c=true)(w:World) :
  Calls Tryz.prog 173 #[.string ⟨#[123,125,40,41,59,44]⟩,.int .i32 c] w fun e w'=>∃k:Int,e= .returned (.int .i64 k)∧decide (0≤k)=isMark c∧Below w.heap.size w w':=by
 have hci:=(isCp_iff c).1 hc
 by_cases h:c < 128
 ·exact irune_ascii c hci.1 h w
 have hm:decide ((0:Int)≤-1)=isMark c:=by rw[no_mark c (by omega)];rfl
 by_cases hb:c=65533
 ·subst hb;refine (irune_bad w).mono ?_;rintro e w' ⟨rfl,h2⟩;exact⟨_,rfl,hm,h2⟩
 have hne:(c==65533)=false:=by rw[beq_eq_false_iff_ne];exact hb
 have hcv:∀w,(convert 21 9 (.int .i32 c)).run Tryz.prog w= .ok (.string ⟨(enc c).toArray⟩) w:=by
  intro w;rw[run_convert_int_string w 21 9 .i32 c (by kernel_rfl) Tryz.underlying9,encode_cp _ hc]
 obtain⟨n,rfl,hn⟩:=cp_cases c hc
 rcases hn with hn | ⟨h1,h2⟩ | ⟨h1,h2,h3⟩ | ⟨h1,h2⟩
 ·omega
 ·refine (irune_2 n _ hc (by omega) hne ?_ ?_ w hcv).mono ?_
  ·rw[enc2 n h1 h2];rfl
  ·rw[enc2 n h1 h2]
   show 128≤(UInt8.ofNat (128+n % 64)).toNat;rw[ofNat_toNat _ (by omega)]
   omega
  ·rintro e w' ⟨rfl,h2⟩;exact⟨_,rfl,hm,h2⟩
 ·refine (irune_3 n _ hc (by omega) hne ?_ ?_ w hcv).mono ?_
  ·rw[enc3 n h1 h2];rfl
  ·rw[enc3 n h1 h2]
   show 128≤(UInt8.ofNat (128+n % 64)).toNat;rw[ofNat_toNat _ (by omega)]
   omega
  ·rintro e w' ⟨rfl,h2⟩;exact⟨_,rfl,hm,h2⟩
 ·refine (irune_4 n _ hc (by omega) hne ?_ ?_ w hcv).mono ?_
  ·rw[enc4 n h1];rfl
  ·rw[enc4 n h1]
   show 128≤(UInt8.ofNat (128+n % 64)).toNat;rw[ofNat_toNat _ (by omega)]
   omega
  ·rintro e w' ⟨rfl,h2⟩;exact⟨_,rfl,hm,h2⟩
theorem has_mark (c:Int)(hc:isCp c=true)(w:World) :
  Calls Tryz.prog 168 #[.string ⟨#[123,125,40,41,59,44]⟩,.int .i32 c] w fun e w'=>e= .returned (.bool (isMark c))∧Below w.heap.size w w':=by
 go_enter Tryz.func168,Tryz.ntmps168
 go_wp2_with fail
 refine (irune_any c hc _).mono ?_;rintro e w' ⟨k,rfl,hm,hb⟩;have HM:Hid _:=hm;clear hm
 go_wp2
 go_ret
 exact⟨ret_bool HM.out,hb⟩
theorem letter_big (b B:Nat)(s:ByteArray)(v:Value)(done:List Tok)(p:Nat)(t:List UInt8)(at_ k:Nat)(w:World)(h:ScanAt w b B s v ⟨done,some (p,t),false⟩)(hpa:p≤100000)(hat:at_+k≤100000)(hbig:p+24 < at_+k)(hdl:done.length≤100000) :
  Calls Tryz.prog 169 #[.pointer (some ⟨b,0,none⟩),.int .i64 at_,.int .i64 ((at_+k:Nat):Int)] w fun e w'=>e= .returned (.tuple #[.int .i64 p,.int .i64 5])∧KB b B w w':=by
 obtain⟨hblk,hown,hlt,hle⟩:=h
 have hkb:=KB.refl b B w;obtain⟨g,cap,rfl,hBg,hgz,hcap,hcm,c0,c1,c2,hf⟩:=last_tok (l:=done) (t:=⟨1,t,p⟩) hown
 have d0:=cell_blk hblk 0;have d1:=cell_blk hblk 1;have d2:=cell_blk hblk 2;simp at d0 d1 d2;generalize done.length=n at *;generalize at_+k=q at *
 go_enter Tryz.func169,Tryz.ntmps169
 go_wp2
 go_quiet (fail)
 go_wp2
 go_ret2
 exact⟨rfl,hkb.drewN _⟩
theorem scan_text {w:World}{b B g cap:Nat}{s:ByteArray}{done:List Tok}{p:Nat}{t:List UInt8}(x:List UInt8)(m:Nat)
  (h:ScanAt w b B s (.slice (some ⟨g,0,none⟩) (done.length+1) cap) ⟨done,some (p,t),false⟩) (hg:B≤g) :
  ScanAt ((w.drewN m).setCell ⟨g,done.length * 3+1,none⟩ (.string ⟨x.toArray⟩)) b B s (.slice (some ⟨g,0,none⟩) (done.length+1) cap) ⟨done,some (p,x),false⟩∧
   KB b B w ((w.drewN m).setCell ⟨g,done.length * 3+1,none⟩ (.string ⟨x.toArray⟩)):=by
 obtain⟨hblk,hown,hlt,hle⟩:=h
 have hown2:(w.drewN m).ownsRow B 232 3 (.slice (some ⟨g,0,none⟩) (done.length+1) cap) (done ++ [(⟨1,t,p⟩:Tok)]).length (tvs (done ++ [⟨1,t,p⟩])):=hown;refine⟨⟨?_,?_,hlt,by simpa using hle⟩,?_⟩
 ·rw[heap_setCell_other _ _ _ _ (by show b≠g;omega)]
  exact hblk
 ·exact set_text x hown2
 ·exact ((KB.refl b B w).drewN m).trans (KB.setFar _ g _ _ hg)
theorem letter_more (b B:Nat)(s:ByteArray)(v:Value)(done:List Tok)(p:Nat)(t x:List UInt8)(at_ k:Nat)(w:World)(h:ScanAt w b B s v ⟨done,some (p,t),false⟩)(hpa:p≤at_+k)(hs:s.size≤100000)(hat:at_+k≤s.size)(hbig:¬p+24 < at_+k)(hdl:done.length≤100000)(hx:s.extract p (at_+k)=⟨x.toArray⟩) :
  Calls Tryz.prog 169 #[.pointer (some ⟨b,0,none⟩),.int .i64 at_,.int .i64 ((at_+k:Nat):Int)] w fun e w'=>e= .returned (.tuple #[.int .i64 0,.int .i64 0])∧(∃v',ScanAt w' b B s v' ⟨done,some (p,x),false⟩)∧KB b B w w':=by
 have h0:=h;obtain⟨hblk,hown,hlt,hle⟩:=h
 obtain⟨g,cap,rfl,hBg,hgz,hcap,hcm,c0,c1,c2,hf⟩:=last_tok (l:=done) (t:=⟨1,t,p⟩) hown
 have HF:Hid _:=fun m=>scan_text x m h0 hBg
 have HX:Hid (s.extract p (at_+k)=⟨x.toArray⟩):=hx;have d0:=cell_blk hblk 0;have d1:=cell_blk hblk 1;have d2:=cell_blk hblk 2;simp at d0 d1 d2;have hne:b≠g:=by omega
 clear hblk hown hx h0;generalize done.length=n at *;generalize hq:at_+k=q at *;clear hq
 go_enter Tryz.func169,Tryz.ntmps169
 go_wp2
 go_quiet (fail)
 go_wp2
 go_region
 go_wp2
 go_ret2
 rw[HX.out]
 exact⟨rfl,⟨_,(HF.out _).1⟩,(HF.out _).2⟩
theorem letter_new (b B:Nat)(s:ByteArray)(v:Value)(done:List Tok)(x:List UInt8)(at_ k:Nat)(w:World)(h:ScanAt w b B s v ⟨done,none,false⟩)(hs:s.size≤100000)(hat:at_+k≤s.size)(hk:k≤4)(hdl:done.length≤100000)(hx:s.extract at_ (at_+k)=⟨x.toArray⟩) :
  Calls Tryz.prog 169 #[.pointer (some ⟨b,0,none⟩),.int .i64 at_,.int .i64 ((at_+k:Nat):Int)] w fun e w'=>e= .returned (.tuple #[.int .i64 0,.int .i64 0])∧(∃v',ScanAt w' b B s v' ⟨done,some (at_,x),false⟩)∧KB b B w w':=by
 have h0:=h;obtain⟨hblk,hown,hlt,hle⟩:=h
 have hown:w.ownsRow B 232 3 v done.length (tvs done):=by simpa [Sc.toks,curToks] using hown
 have d0:=cell_blk hblk 0;have d1:=cell_blk hblk 1;have d2:=cell_blk hblk 2;simp at d0 d1 d2;have hf:∀j,w.frozen? ⟨b,j,none⟩=false:=fun j=>frozen_of_row w b j _ 237 hblk
 have hblk1:(w.setCell ⟨b,2,none⟩ (.bool true)).heap[b]? =some (.cells #[.string s,v,.bool true,.bool false] 237 (0,0)):=heap_setCell_same w b 2 _ 237 _ hblk;have hown1:(w.setCell ⟨b,2,none⟩ (.bool true)).ownsRow B 232 3 v done.length (tvs done):=ownsRow_setCell_below hown hlt _;have hkb1:KB b B w (w.setCell ⟨b,2,none⟩ (.bool true)):=KB.setCell b B w 2 _;have hcells:∀x y z,∀j u,[x,y,z][j]? =some u→((w.setCell ⟨b,2,none⟩ (.bool true)).alloc (.cells #[x,y,z] 232)).cell? ((⟨w.heap.size,0,none⟩:Addr).add j)=some u:=by
  intro x y z j u hj;have h:=cells3 (w.setCell ⟨b,2,none⟩ (.bool true)) x y z 232 j u hj
  rwa [World.size_setCell] at h
 have HC:Hid _:=hcells;have HB1:Hid (_=_):=hblk1;clear hcells hblk1
 go_enter Tryz.func169,Tryz.ntmps169
 go_wp2_with (at_builtin;refine append_tok rfl _ _ rfl B _ done rfl (hown1.alloc _) ⟨1,[],at_⟩ ⟨w.heap.size,0,none⟩ rfl (HC.out _ _ _) hdl (by simp;omega) ?_;intro g cap w3 ho3 hgrow3;obtain⟨hb3,hk3,hb4,ho4⟩:=scan_push (t:=⟨1,[],at_⟩) HB1.out hown1 hlt (by simpa using hle) ho3 hgrow3;obtain⟨hBg,hgz,hcap,hcm,c0,c1,c2,hf3⟩:=last_at ho3;have e0:=cell_blk hb3 0;have e1:=cell_blk hb3 1;have e2:=cell_blk hb3 2;simp at e0 e1 e2;have hfb:∀j,w3.frozen? ⟨b,j,none⟩=false:=fun j=>frozen_of_row w3 b j _ 237 hb3;have hne:b≠g:=by omega)
 have hsz3:B≤w3.heap.size:=by omega
 have H4:ScanAt (w3.setCell ⟨b,1,none⟩ (.slice (some ⟨g,0,none⟩) (done.length+1) cap)) b B s (.slice (some ⟨g,0,none⟩) (done.length+1) cap) ⟨done,some (at_,[]),false⟩:=⟨hb4 _,ho4 _,hlt,by simpa using hsz3⟩;have K4:KB b B w (w3.setCell ⟨b,1,none⟩ (.slice (some ⟨g,0,none⟩) (done.length+1) cap)):=hkb1.trans (hk3.trans (KB.setCell b B w3 1 _));have HF:Hid _:=fun m=>scan_text x m H4 hBg
 have HX:Hid (s.extract at_ (at_+k)=⟨x.toArray⟩):=hx;clear hb4 ho4 ho3 hgrow3 hk3 hb3 HB1 hown1 hkb1 HC hblk hown d0 d1 d2 hf hx e0 e1 e2 c0 c1 c2 hf3 hfb h0;have K4:Hid _:=K4;generalize w3.setCell ⟨b,1,none⟩ (.slice (some ⟨g,0,none⟩) (done.length+1) cap)=W4 at *;obtain⟨hblk,hown,_,hle4⟩:=H4
 obtain⟨_,hgz4,_,_,c0,c1,c2,hf⟩:=last_at (l:=done) (t:=⟨1,[],at_⟩) hown
 have d0:=cell_blk hblk 0;have d1:=cell_blk hblk 1;have d2:=cell_blk hblk 2;simp at d0 d1 d2;simp only at c0 c1 c2;clear hblk hown;generalize done.length=n at *
 go_quiet (fail)
 go_wp2
 go_region
 go_wp2
 go_ret2
 rw[HX.out]
 exact⟨rfl,⟨_,(HF.out _).1⟩,K4.out.trans (HF.out _).2⟩
theorem gclass_b (c K:Int)(hK:kl c=K)(w:World):Calls Tryz.prog 167 #[.int .i64 c] w fun e w'=>e= .returned (.int .i64 K)∧Below w.heap.size w w':=by
 refine (gclass_any c w).mono ?_;rintro e w' ⟨rfl,rfl⟩;exact⟨by rw[←hK];rfl,((Below.refl _ _).alloc (jG _) _).alloc (by simp) _⟩
theorem ScanAt.later {w w1:World}{b B:Nat}{s:ByteArray}{v:Value}{st:Sc}(h:ScanAt w b B s v st)(hb:Below w.heap.size w w1):ScanAt w1 b B s v st∧KB b B w w1:=by
 obtain⟨h1,h2,h3,h4⟩:=h
 have hz:=hb.size;exact⟨⟨(hb.block b (by omega)).trans h1,owns_later h2 hb,h3,by omega⟩,KB.of_below (hb.mono h4)⟩
theorem ScanAt.cells {w:World}{b B:Nat}{s:ByteArray}{v:Value}{st:Sc}(h:ScanAt w b B s v st) :
  w.cell? ⟨b,0,none⟩=some (.string s)∧w.cell? ⟨b,1,none⟩=some v∧w.cell? ⟨b,2,none⟩=some (.bool st.cur.isSome)∧w.cell? ⟨b,3,none⟩=some (.bool st.remark)∧(∀j,w.frozen? ⟨b,j,none⟩=false):=
 ⟨cell_blk h.blk 0,cell_blk h.blk 1,cell_blk h.blk 2,cell_blk h.blk 3,fun j=>frozen_of_row w b j _ 237 h.blk⟩
theorem ScanAt.set3 {w:World}{b B:Nat}{s:ByteArray}{v:Value}{st:Sc}(h:ScanAt w b B s v st)(r:Bool):ScanAt (w.setCell ⟨b,3,none⟩ (.bool r)) b B s v ⟨st.done,st.cur,r⟩:=by
 obtain⟨h1,h2,h3,h4⟩:=h
 exact⟨heap_setCell_same w b 3 _ 237 _ h1,ownsRow_setCell_below h2 h3 _,h3,by simpa using h4⟩
theorem ScanAt.stop {w:World}{b B:Nat}{s:ByteArray}{v:Value}{st:Sc}(h:ScanAt w b B s v st):ScanAt (w.setCell ⟨b,2,none⟩ (.bool false)) b B s v ⟨st.toks,none,st.remark⟩:=by
 obtain⟨h1,h2,h3,h4⟩:=h
 refine⟨heap_setCell_same w b 2 _ 237 _ h1,?_,h3,by simpa using h4⟩
 have e:Sc.toks ⟨st.toks,none,st.remark⟩=st.toks:=by simp[Sc.toks,curToks]
 rw[e]
 exact ownsRow_setCell_below h2 h3 _
def Took (b B:Nat)(s:ByteArray)(w:World)(o:Out)(e:Ending)(w':World):Prop:=
 match o with
 | .ok st=>e= .returned (.tuple #[.int .i64 0,.int .i64 0])∧(∃v,ScanAt w' b B s v st)∧KB b B w w'
 | .err p x=>e= .returned (.tuple #[.int .i64 (p:Int),.int .i64 x])∧KB b B w w'
theorem take_remark (b B:Nat)(s:ByteArray)(v:Value)(st:Sc)(at_:Nat)(c:Int)(w:World)(h:ScanAt w b B s v st)(hr:st.remark=true) :
  Calls Tryz.prog 165 #[.pointer (some ⟨b,0,none⟩),.int .i64 at_,.int .i32 c] w fun e w'=>Took b B s w (.ok ⟨st.done,st.cur,decide (c≠10)⟩) e w':=by
 obtain⟨c0,c1,c2,c3,hf⟩:=h.cells
 have HF:Hid _:=fun r=>(h.set3 r)
 have HK:Hid _:=fun r=>KB.setCell b B w 3 (.bool r)
 have HD:Hid ((c !=10)=decide (c≠10)):=by show _=_;rw[Bool.eq_iff_iff];simp
 rw[hr] at c3
 generalize st.cur.isSome=q at *;clear h hr
 go_enter Tryz.func165,Tryz.ntmps165
 go_wp2
 go_ret2
 rw[HD.out]
 exact⟨rfl,⟨_,HF.out _⟩,HK.out _⟩
theorem take_open (b B:Nat)(s:ByteArray)(v:Value)(st:Sc)(at_:Nat)(c:Int)(hc:c=35)(w:World)(h:ScanAt w b B s v st)(hr:st.remark=false) :
  Calls Tryz.prog 165 #[.pointer (some ⟨b,0,none⟩),.int .i64 at_,.int .i32 c] w fun e w'=>Took b B s w (.ok ⟨st.toks,none,true⟩) e w':=by
 subst hc;obtain⟨c0,c1,c2,c3,hf⟩:=h.cells
 rw[hr] at c3
 go_enter Tryz.func165,Tryz.ntmps165
 go_wp2_with (go_at_call 167;refine (gclass_b 35 4 (by decide +kernel) _).mono ?_;rintro e w1 ⟨rfl,hb1⟩;obtain⟨h1,k1⟩:=h.later hb1;obtain⟨d0,d1,d2,d3,hg⟩:=h1.cells;rw[hr] at d3)
 have H1:=(h1.set3 true).stop;have K1:=(k1.trans (KB.setCell b B w1 3 (.bool true))).trans (KB.setCell b B _ 2 (.bool false))
 go_ret2
 exact⟨rfl,⟨_,H1⟩,K1⟩
theorem take_blank (b B:Nat)(s:ByteArray)(v:Value)(st:Sc)(at_:Nat)(c:Int)(hlo:0≤c)(hhi:c≤1114111)(h35:(c==35)=false)(hk:kl c=3)(w:World)(h:ScanAt w b B s v st)(hr:st.remark=false) :
  Calls Tryz.prog 165 #[.pointer (some ⟨b,0,none⟩),.int .i64 at_,.int .i32 c] w fun e w'=>Took b B s w (.ok ⟨st.toks,none,false⟩) e w':=by
 obtain⟨c0,c1,c2,c3,hf⟩:=h.cells
 rw[hr] at c3
 have HK:Hid (kl c=3):=hk;clear hk
 go_enter Tryz.func165,Tryz.ntmps165
 go_wp2_with (go_at_call 167;refine (gclass_b c 3 HK.out _).mono ?_;rintro e w1 ⟨rfl,hb1⟩;obtain⟨h1,k1⟩:=h.later hb1;obtain⟨d0,d1,d2,d3,hg⟩:=h1.cells;rw[hr] at d3)
 have H1:=h1.stop;rw[hr] at H1
 have K1:=k1.trans (KB.setCell b B _ 2 (.bool false))
 go_ret2
 exact⟨rfl,⟨_,H1⟩,K1⟩
theorem take_other (b B:Nat)(s:ByteArray)(v:Value)(st:Sc)(at_:Nat)(c K:Int)(hc:isCp c=true)(hlo:0≤c)(hhi:c≤1114111)(h35:(c==35)=false)(hk:kl c=K)(k1:(K==1)=false)(k2:(K==2)=false)(k3:(K==3)=false)(hm:isMark c=false)(w:World)(h:ScanAt w b B s v st)(hr:st.remark=false) :
  Calls Tryz.prog 165 #[.pointer (some ⟨b,0,none⟩),.int .i64 at_,.int .i32 c] w fun e w'=>Took b B s w (.err at_ 10) e w':=by
 obtain⟨c0,c1,c2,c3,hf⟩:=h.cells
 rw[hr] at c3
 have HK:Hid (kl c=K):=hk;have HM:Hid (isMark c=false):=hm;have HC:Hid (isCp c=true):=hc;clear hk hm hc
 go_enter Tryz.func165,Tryz.ntmps165
 go_wp2_with (first
  | (go_at_call 167;refine (gclass_b c K HK.out _).mono ?_;rintro e w1 ⟨rfl,hb1⟩)
  | (go_at_call 168;refine (has_mark c HC.out _).mono ?_;rintro e w2 ⟨rfl,hb2⟩;rw[HM.out]))
 obtain⟨h1,k1⟩:=h.later hb1
 obtain⟨h2,k2⟩:=h1.later hb2
 go_ret2
 exact⟨rfl,k1.trans k2⟩
theorem take_digit (b B:Nat)(s:ByteArray)(v:Value)(st:Sc)(at_:Nat)(c:Int)(hc:isCp c=true)(hlo:0≤c)(hhi:c≤1114111)(h35:(c==35)=false)(hk:kl c=2)(hm:isMark c=false)(w:World)(h:ScanAt w b B s v st)(hr:st.remark=false)(hn:st.cur=none) :
  Calls Tryz.prog 165 #[.pointer (some ⟨b,0,none⟩),.int .i64 at_,.int .i32 c] w fun e w'=>Took b B s w (.err at_ 10) e w':=by
 obtain⟨c0,c1,c2,c3,hf⟩:=h.cells
 rw[hr] at c3
 have HK:Hid (kl c=2):=hk;have HM:Hid (isMark c=false):=hm;have HC:Hid (isCp c=true):=hc;have HN:Hid (st.cur.isSome=false):=by show _=_;rw[hn];rfl
 clear hk hm hc hn
 go_enter Tryz.func165,Tryz.ntmps165
 go_wp2_with (first
  | (go_at_call 167;refine (gclass_b c 2 HK.out _).mono ?_;rintro e w1 ⟨rfl,hb1⟩)
  | (go_at_call 168;refine (has_mark c HC.out _).mono ?_;rintro e w2 ⟨rfl,hb2⟩;rw[HM.out];obtain⟨h1,k1⟩:=h.later hb1;obtain⟨h2,k2⟩:=h1.later hb2;obtain⟨d0,d1,d2,d3,hg⟩:=h2.cells;rw[HN.out] at d2))
 go_ret2
 exact⟨rfl,k1.trans k2⟩
theorem take_letter (b B:Nat)(s:ByteArray)(v:Value)(st:Sc)(at_:Nat)(c:Int)(o:Out)(hc:isCp c=true)(hlo:0≤c)(hhi:c≤1114111)(h35:(c==35)=false)(hk:kl c=1)(hm:isMark c=false)(w:World)(h:ScanAt w b B s v st)(hr:st.remark=false)
  (hs:at_+ (enc c).length≤100000)
  (hl:∀w2,ScanAt w2 b B s v st→Calls Tryz.prog 169 #[.pointer (some ⟨b,0,none⟩),.int .i64 at_,.int .i64 ((at_+ (enc c).length:Nat):Int)] w2 fun e w'=>Took b B s w2 o e w') :
  Calls Tryz.prog 165 #[.pointer (some ⟨b,0,none⟩),.int .i64 at_,.int .i32 c] w fun e w'=>Took b B s w o e w':=by
 obtain⟨c0,c1,c2,c3,hf⟩:=h.cells
 rw[hr] at c3
 have HK:Hid (kl c=1):=hk;have HM:Hid (isMark c=false):=hm;have HC:Hid (isCp c=true):=hc;have HW:Hid (wid c=((enc c).length:Int)):=(enc_len c hc).symm;have HL:Hid _:=hl;clear hk hm hc hl;generalize (enc c).length=k at *
 go_enter Tryz.func165,Tryz.ntmps165
 go_wp2_with (first
  | (go_at_call 167;refine (gclass_b c 1 HK.out _).mono ?_;rintro e w1 ⟨rfl,hb1⟩)
  | (go_at_call 168;refine (has_mark c HC.out _).mono ?_;rintro e w2 ⟨rfl,hb2⟩;rw[HM.out])
  )
 refine (gwidth_any _ _).mono ?_;rintro e w3 ⟨rfl,hw3⟩;have hb3:Below w2.heap.size w2 w3:=by rw[hw3];exact (Below.refl _ _).alloc (jG _) _
 clear hw3;rw[HW.out]
 obtain⟨h1,k1⟩:=h.later hb1
 obtain⟨h2,k2⟩:=h1.later hb2
 obtain⟨h3,k3⟩:=h2.later hb3
 go_wp2_with fail
 refine (HL.out _ h3).mono ?_;rintro e w4 hT;cases o with
 | ok st'=>
  obtain⟨rfl,hv,hk⟩:=hT
  have HV:Hid _:=hv;clear hv
  go_wp2
  go_ret2
  exact⟨rfl,HV.out,((k1.trans k2).trans k3).trans hk⟩
 | err p x=>
  obtain⟨rfl,hk⟩:=hT
  go_wp2
  go_ret2
  exact⟨rfl,((k1.trans k2).trans k3).trans hk⟩
theorem take_more (b B:Nat)(s:ByteArray)(v:Value)(st:Sc)(at_:Nat)(c:Int)(o:Out)(hc:isCp c=true)(hlo:0≤c)(hhi:c≤1114111)(h35:(c==35)=false)(hk:kl c=2)(hm:isMark c=false)(w:World)(h:ScanAt w b B s v st)(hr:st.remark=false)(hn:st.cur.isSome=true)
  (hs:at_+ (enc c).length≤100000)
  (hl:∀w2,ScanAt w2 b B s v st→Calls Tryz.prog 169 #[.pointer (some ⟨b,0,none⟩),.int .i64 at_,.int .i64 ((at_+ (enc c).length:Nat):Int)] w2 fun e w'=>Took b B s w2 o e w') :
  Calls Tryz.prog 165 #[.pointer (some ⟨b,0,none⟩),.int .i64 at_,.int .i32 c] w fun e w'=>Took b B s w o e w':=by
 obtain⟨c0,c1,c2,c3,hf⟩:=h.cells
 rw[hr] at c3
 have HK:Hid (kl c=2):=hk;have HM:Hid (isMark c=false):=hm;have HC:Hid (isCp c=true):=hc;have HW:Hid (wid c=((enc c).length:Int)):=(enc_len c hc).symm;have HL:Hid _:=hl;have HN:Hid (st.cur.isSome=true):=hn;clear hk hm hc hl hn;generalize (enc c).length=k at *
 go_enter Tryz.func165,Tryz.ntmps165
 go_wp2_with (first
  | (go_at_call 167;refine (gclass_b c 2 HK.out _).mono ?_;rintro e w1 ⟨rfl,hb1⟩)
  | (go_at_call 168;refine (has_mark c HC.out _).mono ?_;rintro e w2 ⟨rfl,hb2⟩;rw[HM.out];obtain⟨h1,k1⟩:=h.later hb1;obtain⟨h2,k2⟩:=h1.later hb2;obtain⟨d0,d1,d2,d3,hg⟩:=h2.cells;rw[HN.out] at d2)
  )
 refine (gwidth_any _ _).mono ?_;rintro e w3 ⟨rfl,hw3⟩;have hb3:Below w2.heap.size w2 w3:=by rw[hw3];exact (Below.refl _ _).alloc (jG _) _
 clear hw3;rw[HW.out]
 obtain⟨h3,k3⟩:=h2.later hb3
 go_wp2_with fail
 refine (HL.out _ h3).mono ?_;rintro e w4 hT;cases o with
 | ok st'=>
  obtain⟨rfl,hv,hk⟩:=hT
  have HV:Hid _:=hv;clear hv
  go_wp2
  go_ret2
  exact⟨rfl,HV.out,((k1.trans k2).trans k3).trans hk⟩
 | err p x=>
  obtain⟨rfl,hk⟩:=hT
  go_wp2
  go_ret2
  exact⟨rfl,((k1.trans k2).trans k3).trans hk⟩
theorem take_mark (b B:Nat)(s:ByteArray)(v:Value)(st:Sc)(at_:Nat)(c:Int)(hc:isCp c=true)(hlo:0≤c)(hhi:c≤1114111)(h35:(c==35)=false)(hk:kl c=4)(hm:isMark c=true)(w:World)(h:ScanAt w b B s v st)(hr:st.remark=false)(hs:at_≤100000)(hdl:st.toks.length≤100000) :
  Calls Tryz.prog 165 #[.pointer (some ⟨b,0,none⟩),.int .i64 at_,.int .i32 c] w fun e w'=>Took b B s w (.ok ⟨st.toks ++ [⟨2,enc c,at_⟩],none,false⟩) e w':=by
 obtain⟨c0,c1,c2,c3,hf⟩:=h.cells
 rw[hr] at c3
 have HK:Hid (kl c=4):=hk;have HM:Hid (isMark c=true):=hm;have HC:Hid (isCp c=true):=hc;have hcv:∀w,(convert 21 9 (.int .i32 c)).run Tryz.prog w= .ok (.string ⟨(enc c).toArray⟩) w:=by
  intro w;rw[run_convert_int_string w 21 9 .i32 c (by kernel_rfl) Tryz.underlying9,encode_cp _ hc]
 clear hk hm hc;have hlt:=h.lt;generalize enc c=x at *
 go_enter Tryz.func165,Tryz.ntmps165
 go_wp2_with (first
  | (go_at_call 167;refine (gclass_b c 4 HK.out _).mono ?_;rintro e w1 ⟨rfl,hb1⟩)
  | (go_at_call 168;refine (has_mark c HC.out _).mono ?_;rintro e w2 ⟨rfl,hb2⟩;rw[HM.out];obtain⟨h1,k1⟩:=h.later hb1;obtain⟨h2,k2⟩:=h1.later hb2;obtain⟨d0,d1,d2,d3,hg⟩:=h2.cells;rw[hr] at d3)
  | (at_builtin;refine append_tok rfl _ _ rfl B _ st.toks rfl ((ownsRow_setCell_below h2.own hlt (.bool false)).alloc _) ⟨2,x,at_⟩ ⟨w2.heap.size,0,none⟩ rfl (cells_set w2 _ _ _ _ _) hdl (by have:=h2.le;simp;omega) ?_;intro g cap w3 ho3 hgrow3;obtain⟨hb3,hk3,hb4,ho4⟩:=scan_push (t:=⟨2,x,at_⟩) h2.stop.blk (ownsRow_setCell_below h2.own hlt (.bool false)) hlt (by have:=h2.le;simpa using this) ho3 hgrow3;have e0:=cell_blk hb3 0;have e1:=cell_blk hb3 1;have e2:=cell_blk hb3 2;simp at e0 e1 e2;have hfb:∀j,w3.frozen? ⟨b,j,none⟩=false:=fun j=>frozen_of_row w3 b j _ 237 hb3))
 have hz3:=hk3.size;have hle2:=h2.le
 go_ret2
 refine⟨rfl,⟨.slice (some ⟨g,0,none⟩) (st.toks.length+1) cap,⟨?_,?_,hlt,?_⟩⟩,((k1.trans k2).trans (KB.setCell b B w2 2 (.bool false))).trans (hk3.trans (KB.setCell b B w3 1 _))⟩
 ·have:=hb4 (.slice (some ⟨g,0,none⟩) (st.toks.length+1) cap);rw[hr] at this
  exact this
 ·have:=ho4 (.slice (some ⟨g,0,none⟩) (st.toks.length+1) cap);have e:Sc.toks ⟨st.toks ++ [⟨2,x,at_⟩],none,false⟩=st.toks ++ [⟨2,x,at_⟩]:=by simp[Sc.toks,curToks]
  rw[e]
  exact this
 ·simp at hz3 ⊢;omega
theorem take_any (b B:Nat)(s:ByteArray)(v:Value)(st:Sc)(at_:Nat)(c:Int)(hc:isCp c=true)(w:World)(h:ScanAt w b B s v st)(hs:s.size≤100000)(hat:at_+ (enc c).length≤s.size)(hdl:st.toks.length≤100000)
  (hx0:s.extract at_ (at_+ (enc c).length)=⟨(enc c).toArray⟩) (hx:∀p t,st.cur=some (p,t)→p≤at_∧s.extract p (at_+ (enc c).length)=⟨(t ++enc c).toArray⟩) :
  Calls Tryz.prog 165 #[.pointer (some ⟨b,0,none⟩),.int .i64 at_,.int .i32 c] w fun e w'=>Took b B s w (stepS st at_ c) e w':=by
 obtain⟨hlo,hhi,_⟩:=(isCp_iff c).1 hc
 have hep:=enc_pos c hc;have hbeq:∀k:Int,c≠k→(c==k)=false:=fun k hk=>by rw[beq_eq_false_iff_ne];exact hk
 have hdone:st.done.length≤100000:=by
  have:st.toks.length=st.done.length+ (curToks st.cur).length:=by simp[Sc.toks]
  omega
 have hlet:st.remark=false→∀w2,ScanAt w2 b B s v st→Calls Tryz.prog 169 #[.pointer (some ⟨b,0,none⟩),.int .i64 at_,.int .i64 ((at_+ (enc c).length:Nat):Int)] w2 fun e w'=>Took b B s w2 (letterS st at_ c) e w':=by
  intro hr w2 h2;obtain⟨done,cur,rem⟩:=st
  simp only at hr hx hdone;subst hr;cases cur with
  | none=>exact letter_new b B s v done (enc c) at_ (enc c).length w2 h2 hs hat hep.2 hdone hx0
  | some q=>
   obtain⟨p,t⟩:=q
   obtain⟨hp,hxx⟩:=hx p t rfl
   unfold letterS;simp only
   by_cases hbig:p+24 < at_+ (enc c).length
   ·rw[if_pos hbig]
    exact letter_big b B s v done p t at_ (enc c).length w2 h2 (by omega) (by omega) hbig hdone
   ·rw[if_neg hbig]
    exact letter_more b B s v done p t (t ++enc c) at_ (enc c).length w2 h2 (by omega) hs hat hbig hdone hxx
 unfold stepS
 split
 ·rename_i hr
  exact take_remark b B s v st at_ c w h hr
 rename_i hr
 have hr:st.remark=false:=by simpa using hr
 split
 ·rename_i h35
  exact take_open b B s v st at_ c h35 w h hr
 rename_i h35
 split
 ·rename_i h3
  exact take_blank b B s v st at_ c hlo hhi (hbeq 35 h35) h3 w h hr
 rename_i h3
 split
 ·rename_i hm
  exact take_mark b B s v st at_ c hc hlo hhi (hbeq 35 h35) (kl_mark c hm).1 hm w h hr (by omega) hdl
 rename_i hm
 have hm:isMark c=false:=by simpa using hm
 split
 ·rename_i h2
  split
  ·rename_i hn
   exact take_digit b B s v st at_ c hc hlo hhi (hbeq 35 h35) h2 hm w h hr hn
  ·rename_i q hn
   exact take_more b B s v st at_ c _ hc hlo hhi (hbeq 35 h35) h2 hm w h hr (by rw[hn];rfl) (by omega) (hlet hr)
 rename_i h2
 split
 ·rename_i h1
  exact take_letter b B s v st at_ c _ hc hlo hhi (hbeq 35 h35) h1 hm w h hr (by omega) (hlet hr)
 ·rename_i h1
  exact take_other b B s v st at_ c (kl c) hc hlo hhi (hbeq 35 h35) rfl (by rw[beq_eq_false_iff_ne];exact h1) (by rw[beq_eq_false_iff_ne];exact h2) (by rw[beq_eq_false_iff_ne];exact h3) hm w h hr
theorem extract_mid (s:ByteArray)(a x b:List UInt8)(h:s.data.toList=a ++x ++b)(i j:Nat)(hi:i=a.length)(hj:j=a.length+x.length):s.extract i j=⟨x.toArray⟩:=by
 apply ByteArray.ext
 apply Array.ext'
 rw[Lib.extract_data,h,hi,hj]
 simp
theorem goS_bounds (cs d todo:List Int)(c:Int)(hC:cs=d ++c :: todo)(s:ByteArray)(hS:s.data.toList=encAll cs)(st:Sc)(hg:goS sc0 0 d= .ok st) :
  s.extract (encAll d).length ((encAll d).length+ (enc c).length)=⟨(enc c).toArray⟩∧∀p t,st.cur=some (p,t)→p≤(encAll d).length∧s.extract p ((encAll d).length+ (enc c).length)=⟨(t ++enc c).toArray⟩:=by
 refine⟨extract_mid s (encAll d) (enc c) (encAll todo) (by rw[hS,hC,encAll_append];simp[encAll]) _ _ rfl rfl,?_⟩
 intro p t hc;obtain⟨d1,d2,e1,e2,e3,_,_,_⟩:=cur_inv d st hg p t hc
 have hl:(encAll d).length=(encAll d1).length+ (encAll d2).length:=by rw[e1,encAll_append,j9]
 refine⟨by omega,extract_mid s (encAll d1) (t ++enc c) (encAll todo) ?_ _ _ e3 ?_⟩
 ·rw[hS,hC,e1,e2,encAll_append,encAll_append]
  simp[encAll]
 ·rw[hl,e2,j9]
  omega
def Lexed (w:World)(r:Res)(e:Ending)(w':World):Prop:=
 ∃v,e= .returned (.tuple #[v,.int .i64 (r.place:Int),.int .i64 r.err])∧w'.ownsRow w.heap.size 232 3 v r.toks.length (tvs r.toks)∧Below w.heap.size w w'
theorem step_e {st:Sc}{p:Nat}{c:Int}{q:Nat}{e:Int}(h:stepS st p c= .err q e):(e !=0)=true:=by
 obtain⟨_,_,_,_,h⟩:=step_err h
 rcases h with ⟨_,rfl,_⟩ | ⟨_,rfl,_⟩ <;> rfl
theorem lex_whole (s:ByteArray)(cs:List Int)(hp0:Parts s.data.toList cs [])(w:World)(hs:s.size≤65536) :
  Calls Tryz.prog 161 #[.string s] w fun e w'=>Lexed w (lexR cs []) e w':=by
 have hz:=size_list s;have hb:badV cs [] < 0:=by simp[badV]
 have hE:(encAll cs).length=s.size:=by rw[←hz,hp0.eq];simp
 have ht:s.data.toList=encAll cs:=by rw[hp0.eq];simp
 have hts:s.size≤100000:=by omega
 go_enter Tryz.func161,Tryz.ntmps161
 go_wp2_with (go_at_call 164;refine (bad_any s cs [] hp0 _ (by omega)).mono ?_;rintro e w1 ⟨rfl,hb1⟩)
 have hsz1:=hb1.size;have hS0:ScanAt ((w1.alloc (.cells #[.string s,.slice none 0 0,.bool false,.bool false] 237)).iter s 0) w1.heap.size (w1.heap.size+2) s (.slice none 0 0) sc0:=by
  refine⟨?_,zT _ _ _ _,by omega,?_⟩
  ·show ((w1.alloc (.cells #[.string s,.slice none 0 0,.bool false,.bool false] 237)).alloc (.stringIter s 0)).heap[w1.heap.size]? =_;rw[zK _ _ _ (by simp)]
   exact heap_alloc_new w1 _
  ·show _≤((w1.alloc (.cells #[.string s,.slice none 0 0,.bool false,.bool false] 237)).alloc (.stringIter s 0)).heap.size;simp
 have hI0:((w1.alloc (.cells #[.string s,.slice none 0 0,.bool false,.bool false] 237)).iter s 0).heap[w1.heap.size+1]? =some (.stringIter s 0):=by
  have h:=World.iter_heap (w1.alloc (.cells #[.string s,.slice none 0 0,.bool false,.bool false] 237)) s 0
  simpa using h
 have hB0:Below w.heap.size w ((w1.alloc (.cells #[.string s,.slice none 0 0,.bool false,.bool false] 237)).iter s 0):=(hb1.alloc (by omega) _).alloc (by simp;omega) _;generalize w1.heap.size=b at *
 go_loopw [8,9,10,11] (fun _ _ _ _ wr=>∃(d todo:List Int) (st:Sc) (v:Value),Hid (cs=d ++todo)∧Hid (goS sc0 0 d= .ok st)∧ScanAt wr b (b+2) s v st∧wr.heap[b+1]? =some (.stringIter s (encAll d).length)∧Below w.heap.size w wr) (fun _ _ _ _ wr=>s.size - wr.iterPos (b+1))
 case atStart=>exact⟨[],cs,sc0,_,rfl,rfl,hS0,hI0,hB0⟩
 case round=>
  clear hS0 hI0 hB0;obtain⟨d,todo,st,v,HC,HG,hS,hit,hbw⟩:=hrel
  have hpos0:=iter_pos_of hit;have hzw:=hbw.size;cases todo with
  | cons c todo=>
   have hc:isCp c=true:=hp0.cp c (by rw[HC.out];simp);have hcd:∀x∈d,isCp x=true:=fun x hx=>hp0.cp x (by rw[HC.out];simp[hx])
   have hS2:s.data.toList=encAll (d ++c :: todo) ++ []:=by rw[ht,HC.out];simp
   have hd:=decode_at s d todo c [] hS2 hc;have hk:=enc_pos c hc;have hlen:(encAll (d ++ [c])).length=(encAll d).length+ (enc c).length:=by rw[encAll_append,encAll_one];simp
   have hsz:(encAll d).length+ (enc c).length≤s.size:=by
    rw[←size_list s,hS2,encAll_append]
    simp[encAll]
   have hcn:=cp_toNat c hc;have htl:=toks_len d hcd st HG.out;obtain⟨hx0,hx⟩:=goS_bounds cs d todo c HC.out s ht st HG.out
   have hstep:=goS_snoc_ok HG.out c;rw[zD] at hstep
   have HSTEP:Hid (goS sc0 0 (d ++ [c])=stepS st (encAll d).length c):=hstep;have HCD:Hid (cs=(d ++ [c]) ++todo):=by show _=_;rw[HC.out];simp
   have HL:Hid ((encAll (d ++ [c])).length=(encAll d).length+ (enc c).length):=hlen;have hS1:ScanAt (wr.iterAt (b+1) s ((encAll d).length+ (enc c).length)) b (b+2) s v st:=
    ⟨by rw[Lib.iterAt_other _ _ _ _ _ (by omega)];exact hS.blk,owns_iterAt hS.own (by omega) _ _,hS.lt,by rw[Lib.iterAt_size];exact hS.le⟩
   have HT:Hid _:=take_any b (b+2) s v st (encAll d).length c hc _ hS1 hts hsz (by omega) hx0 hx;have hit2:=Lib.iterAt_heap wr (b+1) s (encAll d).length ((encAll d).length+ (enc c).length) hit;have hbw2:=Lib.below_iterAt hbw (k:=b+1) (by omega) s ((encAll d).length+ (enc c).length);clear hx0 hx hstep htl hS2 hlen hS hcd hS1;generalize hp1:(encAll d).length=pos at *;generalize hk1:(enc c).length=k at *;have hnx:∀ty,(Instr.next (.pointer (some ⟨b+1,0,none⟩)) true ty).run Tryz.prog wr= .ok (.tuple #[.bool true,.int .i64 pos,.int .i32 c]) (wr.iterAt (b+1) s (pos+k)):=by
    intro ty;have h:=Lib.run_next_any_at (P:=Tryz.prog) wr (b+1) s pos ty hit (by omega);rw[hd] at h
    simp only[hcn] at h;exact h
   obtain⟨W1,hW1⟩:∃W1,W1=wr.iterAt (b+1) s (pos+k):=⟨_,rfl⟩
   rw[←hW1] at hnx hit2 hbw2 HT
   clear hW1 hit hbw hc hd hcn HC hp1 hk1 hp0 hz ht HG
   go_wp2_with fail
   refine Calls.mono HT.out ?_;clear HT;rintro e w2 hT;cases hq:stepS st pos c with
   | ok st'=>
    rw[hq] at hT HSTEP
    obtain⟨rfl,⟨v',hS'⟩,hkb⟩:=hT
    have hit3:w2.heap[b+1]? =some (.stringIter s (pos+k)):=(hkb.block (b+1) (by omega) (by omega)).trans hit2;have hbw3:Below w.heap.size w w2:=hbw2.trans (hkb.below (by omega) (by omega));clear hkb hq
    go_wp2
    go_roundw
    case rel=>exact⟨d ++ [c],todo,st',v',HCD,HSTEP,hS',by rw[HL.out];exact hit3,hbw3⟩
    case measure=>rw[iter_pos_of hit3,hpos0];omega
   | err p x=>
    have hx0:=step_e hq;rw[hq] at hT HSTEP
    obtain⟨rfl,hkb⟩:=hT
    have hbw3:Below w.heap.size w w2:=hbw2.trans (hkb.below (by omega) (by omega));have HR:Hid (lexR cs []=⟨[],p,x⟩):=by
     show _=_;unfold lexR;rw[HCD.out,goS_append,HSTEP.out]
    clear hkb hq
    go_wp2
    go_ret3
    rw[HR.out]
    exact⟨_,rfl,zT _ _ _ _,hbw3⟩
  | nil=>
   have hC:cs=d:=by simpa using HC.out
   subst hC;obtain⟨c0,c1,c2,c3,hf⟩:=hS.cells
   have hsz:¬(encAll cs).length < s.size:=by
    rw[←size_list s,ht]
    omega
   generalize hp1:(encAll cs).length=pos at *;have hnx:∀ty,(Instr.next (.pointer (some ⟨b+1,0,none⟩)) true ty).run Tryz.prog wr=_:=fun ty=>Lib.run_next_end_at wr (b+1) s pos ty hit hsz
   have HR:Hid (lexR cs []=⟨st.toks,s.size,0⟩):=by show _=_;unfold lexR;rw[HG.out];simp only[if_true];rw[hp1,hE]
   have HO:=owns_low hS.own (B':=w.heap.size) (by omega);clear hp0 hz HC ht HG hE hS
   go_wp2
   go_ret3
   rw[HR.out]
   exact⟨v,rfl,HO,hbw⟩
theorem lex_part (s:ByteArray)(cs:List Int)(rest:List UInt8)(hp0:Parts s.data.toList cs rest)(hr:rest≠[])(w:World)(hs:s.size≤65536) :
  Calls Tryz.prog 161 #[.string s] w fun e w'=>Lexed w (lexR cs rest) e w':=by
 have hz:=size_list s;obtain⟨E,hE⟩:∃E:Nat,(encAll cs).length=E:=⟨_,rfl⟩
 have hbE:Hid (badV cs rest=(E:Int)):=by show _=_;simp[badV,hr,hE]
 have hEs:E≤s.size:=by rw[←hz,hp0.eq,←hE];simp
 have HEE:Hid ((encAll cs).length=E):=hE;clear hE
 go_enter Tryz.func161,Tryz.ntmps161
 go_wp2_with (go_at_call 164;refine (bad_any s cs rest hp0 _ (by omega)).mono ?_;rintro e w1 ⟨rfl,hb1⟩;rw[hbE.out])
 have hsz1:=hb1.size;have ht:(s.extract 0 E).data.toList=encAll cs:=by
  rw[Lib.extract_data]
  rw[hp0.eq,←HEE.out]
  simp
 have htz:(s.extract 0 E).size=E:=by simp;try omega
 generalize s.extract 0 E=t at *;have hts:t.size≤100000:=by omega
 have hS0:ScanAt ((w1.alloc (.cells #[.string t,.slice none 0 0,.bool false,.bool false] 237)).iter t 0) w1.heap.size (w1.heap.size+2) t (.slice none 0 0) sc0:=by
  refine⟨?_,zT _ _ _ _,by omega,?_⟩
  ·show ((w1.alloc (.cells #[.string t,.slice none 0 0,.bool false,.bool false] 237)).alloc (.stringIter t 0)).heap[w1.heap.size]? =_;rw[zK _ _ _ (by simp)]
   exact heap_alloc_new w1 _
  ·show _≤((w1.alloc (.cells #[.string t,.slice none 0 0,.bool false,.bool false] 237)).alloc (.stringIter t 0)).heap.size;simp
 have hI0:((w1.alloc (.cells #[.string t,.slice none 0 0,.bool false,.bool false] 237)).iter t 0).heap[w1.heap.size+1]? =some (.stringIter t 0):=by
  have h:=World.iter_heap (w1.alloc (.cells #[.string t,.slice none 0 0,.bool false,.bool false] 237)) t 0
  simpa using h
 have hB0:Below w.heap.size w ((w1.alloc (.cells #[.string t,.slice none 0 0,.bool false,.bool false] 237)).iter t 0):=(hb1.alloc (by omega) _).alloc (by simp;omega) _;generalize w1.heap.size=b at *
 go_loopw [8,9,10,11] (fun _ _ _ _ wr=>∃(d todo:List Int) (st:Sc) (v:Value),Hid (cs=d ++todo)∧Hid (goS sc0 0 d= .ok st)∧ScanAt wr b (b+2) t v st∧wr.heap[b+1]? =some (.stringIter t (encAll d).length)∧Below w.heap.size w wr) (fun _ _ _ _ wr=>t.size - wr.iterPos (b+1))
 case atStart=>exact⟨[],cs,sc0,_,rfl,rfl,hS0,hI0,hB0⟩
 case round=>
  clear hS0 hI0 hB0;obtain⟨d,todo,st,v,HC,HG,hS,hit,hbw⟩:=hrel
  have hpos0:=iter_pos_of hit;have hzw:=hbw.size;cases todo with
  | cons c todo=>
   have hc:isCp c=true:=hp0.cp c (by rw[HC.out];simp);have hcd:∀x∈d,isCp x=true:=fun x hx=>hp0.cp x (by rw[HC.out];simp[hx])
   have hS2:t.data.toList=encAll (d ++c :: todo) ++ []:=by rw[ht,HC.out];simp
   have hd:=decode_at t d todo c [] hS2 hc;have hk:=enc_pos c hc;have hlen:(encAll (d ++ [c])).length=(encAll d).length+ (enc c).length:=by rw[encAll_append,encAll_one];simp
   have hsz:(encAll d).length+ (enc c).length≤t.size:=by
    rw[←size_list t,hS2,encAll_append]
    simp[encAll]
   have hcn:=cp_toNat c hc;have htl:=toks_len d hcd st HG.out;obtain⟨hx0,hx⟩:=goS_bounds cs d todo c HC.out t ht st HG.out
   have hstep:=goS_snoc_ok HG.out c;rw[zD] at hstep
   have HSTEP:Hid (goS sc0 0 (d ++ [c])=stepS st (encAll d).length c):=hstep;have HCD:Hid (cs=(d ++ [c]) ++todo):=by show _=_;rw[HC.out];simp
   have HL:Hid ((encAll (d ++ [c])).length=(encAll d).length+ (enc c).length):=hlen;have hS1:ScanAt (wr.iterAt (b+1) t ((encAll d).length+ (enc c).length)) b (b+2) t v st:=
    ⟨by rw[Lib.iterAt_other _ _ _ _ _ (by omega)];exact hS.blk,owns_iterAt hS.own (by omega) _ _,hS.lt,by rw[Lib.iterAt_size];exact hS.le⟩
   have HT:Hid _:=take_any b (b+2) t v st (encAll d).length c hc _ hS1 hts hsz (by omega) hx0 hx;have hit2:=Lib.iterAt_heap wr (b+1) t (encAll d).length ((encAll d).length+ (enc c).length) hit;have hbw2:=Lib.below_iterAt hbw (k:=b+1) (by omega) t ((encAll d).length+ (enc c).length);clear hx0 hx hstep htl hS2 hlen hS hcd hS1;generalize hp1:(encAll d).length=pos at *;generalize hk1:(enc c).length=k at *;have hnx:∀ty,(Instr.next (.pointer (some ⟨b+1,0,none⟩)) true ty).run Tryz.prog wr= .ok (.tuple #[.bool true,.int .i64 pos,.int .i32 c]) (wr.iterAt (b+1) t (pos+k)):=by
    intro ty;have h:=Lib.run_next_any_at (P:=Tryz.prog) wr (b+1) t pos ty hit (by omega);rw[hd] at h
    simp only[hcn] at h;exact h
   obtain⟨W1,hW1⟩:∃W1,W1=wr.iterAt (b+1) t (pos+k):=⟨_,rfl⟩
   rw[←hW1] at hnx hit2 hbw2 HT
   clear hW1 hit hbw hc hd hcn HC hp1 hk1 hp0 hz ht HG hr
   go_wp2_with fail
   refine Calls.mono HT.out ?_;clear HT;rintro e w2 hT;cases hq:stepS st pos c with
   | ok st'=>
    rw[hq] at hT HSTEP
    obtain⟨rfl,⟨v',hS'⟩,hkb⟩:=hT
    have hit3:w2.heap[b+1]? =some (.stringIter t (pos+k)):=(hkb.block (b+1) (by omega) (by omega)).trans hit2;have hbw3:Below w.heap.size w w2:=hbw2.trans (hkb.below (by omega) (by omega));clear hkb hq
    go_wp2
    go_roundw
    case rel=>exact⟨d ++ [c],todo,st',v',HCD,HSTEP,hS',by rw[HL.out];exact hit3,hbw3⟩
    case measure=>rw[iter_pos_of hit3,hpos0];omega
   | err p x=>
    have hx0:=step_e hq;rw[hq] at hT HSTEP
    obtain⟨rfl,hkb⟩:=hT
    have hbw3:Below w.heap.size w w2:=hbw2.trans (hkb.below (by omega) (by omega));have HR:Hid (lexR cs rest=⟨[],p,x⟩):=by
     show _=_;unfold lexR;rw[HCD.out,goS_append,HSTEP.out]
    clear hkb hq
    go_wp2
    go_ret3
    rw[HR.out]
    exact⟨_,rfl,zT _ _ _ _,hbw3⟩
  | nil=>
   have hC:cs=d:=by simpa using HC.out
   subst hC;obtain⟨c0,c1,c2,c3,hf⟩:=hS.cells
   have hsz:¬(encAll cs).length < t.size:=by
    rw[←size_list t,ht]
    omega
   generalize hp1:(encAll cs).length=pos at *;have hnx:∀ty,(Instr.next (.pointer (some ⟨b+1,0,none⟩)) true ty).run Tryz.prog wr=_:=fun ty=>Lib.run_next_end_at wr (b+1) t pos ty hit hsz
   have HR:Hid (lexR cs rest=⟨[],E,4⟩):=by show _=_;unfold lexR;rw[HG.out];simp only[hr,if_false];rw[hp1,HEE.out]
   clear hp0 hz HC ht HG hr hS
   go_wp2
   go_ret3
   rw[HR.out]
   exact⟨_,rfl,zT _ _ _ _,hbw⟩
theorem lex_any (s:ByteArray)(cs:List Int)(rest:List UInt8)(hp0:Parts s.data.toList cs rest)(w:World)(hs:s.size≤65536) :
  Calls Tryz.prog 161 #[.string s] w fun e w'=>Lexed w (lexR cs rest) e w':=by
 by_cases hr:rest=[]
 ·subst hr;exact lex_whole s cs hp0 w hs
 ·exact lex_part s cs rest hp0 hr w hs
theorem lex_great (s:ByteArray)(w:World)(hs:¬s.size≤65536) :
  Calls Tryz.prog 161 #[.string s] w fun e w'=>Lexed w ⟨[],0,5⟩ e w':=by
 go_enter Tryz.func161,Tryz.ntmps161
 go_wp2
 go_ret3
 exact⟨_,rfl,zT _ _ _ _,Below.refl _ _⟩
def ReadsT (w:World)(v:Value)(l:List Tok):Prop:=
 ∃a cap,v= .slice a l.length cap∧(a=none→cap=0)∧l.length≤cap∧∀i t,l[i]? =some t→∃b off,a=some ⟨b,off,none⟩∧w.cell? ⟨b,off+i * 3,none⟩=some (.int .i64 t.kind)∧w.cell? ⟨b,off+i * 3+1,none⟩=some (.string ⟨t.text.toArray⟩)∧w.cell? ⟨b,off+i * 3+2,none⟩=some (.int .i64 (t.at_:Int))
theorem readsT_of_owns {w:World}{B:Nat}{v:Value}{l:List Tok}(h:w.ownsRow B 232 3 v l.length (tvs l)):ReadsT w v l:=by
 rcases h.2 with ⟨rfl,h0⟩ | ⟨g,cap,cur,rfl,hb,hg,hnc,hcm,_⟩
 ·have h1:l=[]:=zV h0;subst h1;exact⟨none,0,rfl,fun _=>rfl,jG _,by simp⟩
 ·refine⟨_,cap,rfl,(fun h=>by cases h),hnc,fun i t hi=>⟨g,0,rfl,?_,?_,?_⟩⟩
  all_goals have hil:i < l.length:=(jH.1 hi).1
  ·rw[zD,h.cellAt _ (by omega)]
   exact tvs_at l i 0 t hi (by omega)
  ·rw[zD,h.cellAt _ (by omega)]
   exact tvs_at l i 1 t hi (by omega)
  ·rw[zD,h.cellAt _ (by omega)]
   exact tvs_at l i 2 t hi (by omega)
end Go.Proofs.YtieoppabellafaaGreatDoor.Sx
namespace Go.Proofs.YtieoppabellafaaGreatDoor.Sx
theorem parts_unique:∀(cs cs':List Int) (l rest rest':List UInt8),Parts l cs rest→Parts l cs' rest'→cs=cs'∧rest=rest':=by
 intro cs
 induction cs with
 | nil=>
  intro cs' l rest rest' h h';have e1:l=rest:=by rw[h.eq];simp[encAll]
  cases cs' with
  | nil=>
   have e2:l=rest':=by rw[h'.eq];simp[encAll]
   exact⟨rfl,by rw[←e1,←e2]⟩
  | cons c cs'=>
   exfalso
   have hc:=h'.cp c (by simp);have hpre:enc c <+:l:=⟨encAll cs' ++rest',by rw[h'.eq];simp[encAll]⟩;have hep:=enc_pos c hc
   rcases h.stop with h0 | h0
   ·rw[e1,h0] at hpre
    have:=hpre.length_le;simp at this;rw[this] at hep
    simp at hep
   ·exact h0 c hc (by rw[←e1];exact hpre)
 | cons c cs ih=>
  intro cs' l rest rest' h h';have hc:=h.cp c (by simp);have hpre:enc c <+:l:=⟨encAll cs ++rest,by rw[h.eq];simp[encAll]⟩;have hep:=enc_pos c hc;cases cs' with
  | nil=>
   exfalso
   have e2:l=rest':=by rw[h'.eq];simp[encAll]
   rcases h'.stop with h0 | h0
   ·rw[e2,h0] at hpre
    have:=hpre.length_le;simp at this;rw[this] at hep
    simp at hep
   ·exact h0 c hc (by rw[←e2];exact hpre)
  | cons c' cs'=>
   have hc':=h'.cp c' (by simp);have hpre':enc c' <+:l:=⟨encAll cs' ++rest',by rw[h'.eq];simp[encAll]⟩;have e:=enc_unique c c' l hc hc' hpre hpre';subst e;have hl:encAll cs ++rest=encAll cs' ++rest':=by
    have h1:=h.eq;rw[h'.eq] at h1
    simp only[encAll,List.append_assoc,List.append_cancel_left_eq] at h1;exact h1.symm
   obtain⟨a,b⟩:=ih cs' (encAll cs ++rest) rest rest' ⟨rfl,fun x hx=>h.cp x (by simp[hx]),h.stop⟩ ⟨hl,fun x hx=>h'.cp x (by simp[hx]),h'.stop⟩
   exact⟨by rw[a],b⟩
def IsName (r:List Int):Prop:=∃c r',r=c :: r'∧kl c=1∧(∀x∈r',isNm x=true)∧(∀x∈r,isCp x=true)∧(encAll r).length≤24
def nameP (x:List UInt8):Prop:=∃r,x=encAll r∧IsName r
theorem name_go {r:List Int}(h:IsName r)(done:List Tok)(p:Nat):goS ⟨done,none,false⟩ p r= .ok ⟨done,some (p,encAll r),false⟩:=by
 obtain⟨c,r',rfl,h1,h2,h3,h4⟩:=h
 rw[go_name c r' h1 h2 h3,if_neg (by omega)]
theorem tok_inv:∀(d:List Int),(∀c∈d,isCp c=true)→∀s,goS sc0 0 d= .ok s→(∀q t,s.cur=some (q,t)→∃r,t=encAll r∧IsName r)∧∀t∈s.toks,(t.kind=1∧nameP t.text)∨(t.kind=2∧∃c,isMark c=true∧t.text=enc c):=by
 intro d
 induction d using snoc_ind with
 | h0=>
  intro _ s h;simp only[goS,Out.ok.injEq] at h;rw[←h]
  exact⟨fun q t h=>(by cases h),fun t ht=>(by simp[Sc.toks,sc0,curToks] at ht)⟩
 | h1 d c ih=>
  intro hcp s h;obtain⟨s1,h1,h2⟩:=goS_prefix h
  rw[goS_snoc_ok h1,zD] at h
  obtain⟨hcur,htok⟩:=ih (fun x hx=>hcp x (by simp[hx])) s1 h1
  have hc:=hcp c (by simp);have hdone:∀t∈s1.done,(t.kind=1∧nameP t.text)∨(t.kind=2∧∃c,isMark c=true∧t.text=enc c):=fun t ht=>htok t (by simp[Sc.toks,ht])
  rcases step_ok h with ⟨a,rfl⟩ | ⟨_,_,rfl⟩ | ⟨_,hm,rfl⟩ | ⟨_,hn,hk,rfl⟩ | ⟨q,u,_,hq,hk,hle,rfl⟩
  ·exact⟨hcur,htok⟩
  ·refine⟨fun q t h=>(by cases h),fun t ht=>htok t ?_⟩
   simpa [Sc.toks,curToks] using ht
  ·refine⟨fun q t h=>(by cases h),fun t ht=>?_⟩
   simp only[Sc.toks,curToks,List.append_nil] at ht
   rcases jX.1 ht with ht | ht
   ·exact htok t ht
   ·simp only[zY] at ht;subst ht;exact .inr ⟨rfl,c,hm,rfl⟩
  ·have hone:IsName [c]:=⟨c,[],rfl,hk,by simp,by simpa using hc,by have:=enc_pos c hc;simp[encAll];omega⟩;refine⟨?_,?_⟩
   ·intro q t h;simp only[Option.some.injEq,Prod.mk.injEq] at h;exact⟨[c],by rw[←h.2];simp[encAll],hone⟩
   ·intro t ht;simp only[Sc.toks,curToks] at ht
    rcases jX.1 ht with ht | ht
    ·exact hdone t ht
    ·simp only[zY] at ht;subst ht;exact .inl ⟨rfl,[c],by simp[encAll],hone⟩
  ·obtain⟨r,rfl,c0,r',hr,k0,k1,k2,k3⟩:=hcur q u hq
   obtain⟨d1,d2,f1,f2,f3,_,_,_⟩:=cur_inv d s1 h1 q _ hq
   have hl:(encAll d).length=q+ (encAll r).length:=by rw[f1,encAll_append,j9,f3,f2]
   have hnew:IsName (r ++ [c]):=by
    refine⟨c0,r' ++ [c],by rw[hr];rfl,k0,?_,?_,?_⟩
    ·intro x hx
     rcases jX.1 hx with hx | hx
     ·exact k1 x hx
     ·simp only[zY] at hx;subst hx;exact (isNm_iff x).2 hk
    ·intro x hx
     rcases jX.1 hx with hx | hx
     ·exact k2 x hx
     ·simp only[zY] at hx;subst hx;exact hc
    ·rw[encAll_append,encAll_one,j9]
     omega
   have he:encAll r ++enc c=encAll (r ++ [c]):=by rw[encAll_append,encAll_one]
   refine⟨?_,?_⟩
   ·intro q' t h;simp only[Option.some.injEq,Prod.mk.injEq] at h;exact⟨r ++ [c],by rw[←h.2,he],hnew⟩
   ·intro t ht;simp only[Sc.toks,curToks] at ht
    rcases jX.1 ht with ht | ht
    ·exact hdone t ht
    ·simp only[zY] at ht;subst ht;exact .inl ⟨rfl,r ++ [c],he,hnew⟩
end Go.Proofs.YtieoppabellafaaGreatDoor.Sx
namespace Go.Proofs.YtieoppabellafaaGreatDoor.Sx
open Go.RowKit
def nameB (r:Res)(s:List UInt8):Bool:=match r.toks with
 | [t]=>decide (r.err=0∧t.kind=1∧t.text=s)
 | _=>false
def answer (s:ByteArray)(cs:List Int)(rest:List UInt8):Res:=if s.size≤65536 then lexR cs rest else ⟨[],0,5⟩
theorem lex_all (s:ByteArray)(cs:List Int)(rest:List UInt8)(hp0:Parts s.data.toList cs rest)(w:World) :
  Calls Tryz.prog 161 #[.string s] w fun e w'=>Lexed w (answer s cs rest) e w':=by
 unfold answer
 split
 ·rename_i h
  exact lex_any s cs rest hp0 w h
 ·rename_i h
  exact lex_great s w h
theorem name_any (s:ByteArray)(cs:List Int)(rest:List UInt8)(hp0:Parts s.data.toList cs rest)(w:World) :
  Calls Tryz.prog 144 #[.string s] w fun e w'=>e= .returned (.bool (nameB (answer s cs rest) s.data.toList))∧Below w.heap.size w w':=by
 have HL:Hid _:=lex_all s cs rest hp0 w;generalize answer s cs rest=r at *;obtain⟨toks,place,err⟩:=r
 clear hp0
 go_enter Tryz.func144,Tryz.ntmps144
 go_wp2_with fail
 refine Calls.mono HL.out ?_;rintro e w1 ⟨v,rfl,hown,hb1⟩;clear HL;simp only at hown;have hr:=readsT_of_owns hown;clear hown;obtain⟨a,cap,rfl,hn0,hcap,hr⟩:=hr
 by_cases h0:err=0
 ·subst h0
  rcases toks with _ | ⟨t,_ | ⟨t2,toks⟩⟩
  ·clear hr hn0
   go_wp2
   go_ret
   exact⟨rfl,hb1⟩
  ·obtain⟨b,off,rfl,c0,c1,c2⟩:=hr 0 t rfl
   simp only[Nat.zero_mul,Nat.add_zero] at c0 c1;have HN:Hid (nameB ⟨[t],place,0⟩ s.data.toList=decide (t.kind=1∧t.text=s.data.toList)):=by
    show _=_;simp[nameB]
   by_cases hk:t.kind=1
   ·rw[hk] at c0
    have HK:Hid (t.kind=1):=hk;clear hr hn0 hk c2
    go_wp2
    go_ret
    refine⟨ret_bool ?_,hb1⟩
    rw[HN.out,HK.out,Lib.toList_data,Bool.eq_iff_iff]
    simp
   ·have hk2:(t.kind==1)=false:=by rw[beq_eq_false_iff_ne];exact hk
    have HK:Hid (¬t.kind=1):=hk;clear hr hn0 hk c2
    go_wp2
    go_ret
    refine⟨ret_bool ?_,hb1⟩
    rw[HN.out]
    have:=HK.out;simp[this]
  ·have hl2:(((t :: t2 :: toks).length:Int)==1)=false:=by rw[beq_eq_false_iff_ne];simp;omega
   clear hr hn0;generalize ht:(t :: t2 :: toks).length=n at *
   go_wp2
   go_ret
   exact⟨rfl,hb1⟩
 ·have h2:(err==0)=false:=by rw[beq_eq_false_iff_ne];exact h0
  have HN:Hid (nameB ⟨toks,place,err⟩ s.data.toList=false):=by
   show _=_;unfold nameB
   split
   ·simp[h0]
   ·rfl
  clear h0 hr hn0
  go_wp2
  go_ret
  exact⟨ret_bool HN.out.symm,hb1⟩
def isWord (l:List UInt8):Bool:=l==[115,97,103,97] || l==[115,116,101,112] || l==[115,117,98] || l==[117,110,100,111] || l==[97,102,116,101,114] || l==[118,105,116,97,108] || l==[108,111,111,115,101] || l==[111,114]
theorem word_any (s:ByteArray)(w:World):Calls Tryz.prog 145 #[.string s] w fun e w'=>e= .returned (.bool (isWord s.data.toList))∧w'=w:=by
 go_enter Tryz.func145,Tryz.ntmps145
 go_wp2
 all_goals go_ret
 all_goals refine⟨ret_bool ?_,rfl⟩
 all_goals simp_all [isWord,Lib.toList_data]
noncomputable def isName (x:List UInt8):Bool:= @decide (nameP x) (Classical.propDecidable _)
theorem isName_iff (x:List UInt8):isName x=true↔nameP x:=by simp[isName]
theorem nameB_eq (s:ByteArray)(cs:List Int)(rest:List UInt8)(hp:Parts s.data.toList cs rest):nameB (answer s cs rest) s.data.toList=isName s.data.toList:=by
 rw[Bool.eq_iff_iff]
 have hz:=size_list s
 constructor
 ·intro h;rw[isName_iff]
  unfold nameB at h
  split at h
  ·rename_i t ht
   rw[decide_eq_true_eq] at h
   obtain⟨h1,h2,h3⟩:=h
   unfold answer at ht h1
   split at ht
   ·unfold lexR at ht;cases hg:goS sc0 0 cs with
    | err p e=>rw[hg] at ht;cases ht
    | ok st=>
     rw[hg] at ht
     by_cases hr:rest=[]
     ·simp only[hr,if_true] at ht
      rcases (tok_inv cs hp.cp st hg).2 t (by rw[ht];simp) with ⟨_,hn⟩ | ⟨h4,_⟩
      ·rw[←h3];exact hn
      ·omega
     ·simp[hr] at ht
   ·cases ht
  ·cases h
 ·intro h;rw[isName_iff] at h
  obtain⟨r,hr,hn⟩:=h
  have hn2:=hn;obtain⟨c,r',e1,e2,e3,e4,e5⟩:=hn
  obtain⟨rfl,rfl⟩:=parts_unique cs r _ rest [] hp ⟨by rw[hr];simp,e4,.inl rfl⟩
  have hg:goS sc0 0 cs= .ok ⟨[],some (0,encAll cs),false⟩:=name_go hn2 [] 0;have hsz:s.size≤65536:=by rw[←hz,hr];omega
  unfold answer;rw[if_pos hsz,lexR_ok hg]
  simp[nameB,Sc.toks,curToks,hr]
theorem name_is (s:ByteArray)(w:World) :
  Calls Tryz.prog 144 #[.string s] w fun e w'=>e= .returned (.bool (isName s.data.toList))∧Below w.heap.size w w':=by
 obtain⟨cs,rest,hp⟩:=parts_exists s.data.toList
 have h:=name_any s cs rest hp w
 rwa [nameB_eq s cs rest hp] at h
noncomputable def nmP (x:By):Bool:=isName x && !isWord x
theorem isName_any (s:ByteArray)(w:World):Calls Tryz.prog 107 #[.string s] w fun e w'=>e= .returned (.bool (nmP s.data.toList))∧Below w.heap.size w w':=by
 have M1:Hid _:=name_is s w
 go_enter Tryz.func107,Tryz.ntmps107
 go_wp2_with fail
 refine Calls.mono M1.out ?_;rintro e w1 ⟨rfl,hb1⟩;cases hn:isName s.data.toList with
 | false=>
  have hq:nmP s.data.toList=false:=by simp[nmP,hn]
  go_wp2_with fail
  go_ret
  exact⟨by rw[hq];rfl,hb1⟩
 | true=>
  have hq:nmP s.data.toList= !isWord s.data.toList:=by simp[nmP,hn]
  go_wp2_with (go_at_call 145;refine (word_any _ _).mono ?_;rintro e w' ⟨rfl,rfl⟩)
  go_ret
  exact⟨by rw[hq];rfl,hb1⟩
theorem isName_by (x:By)(w:World):Calls Tryz.prog 107 #[.string ⟨x.toArray⟩] w fun e w'=>e= .returned (.bool (nmP x))∧Below w.heap.size w w':=isName_any ⟨x.toArray⟩ w
noncomputable def nodeOk (l:Lab)(n:Nat):Bool:=nmP l.name && l.after.all nmP && (if l.sub then l.undo==[] && decide (0 < n) else (l.undo==[] || nmP l.undo) && !l.vital && decide (n=0))
theorem isRight_any (P:Nat→Prop)(l:Lab)(sv:Option Addr)(sm sc:Nat)(av:Option Addr)(am ac:Nat)(w:World)(hs:SAt P w l.after sv sm)(hm:sm≤1000000000) :
  Calls Tryz.prog 110 #[.agg #[.string ⟨l.name.toArray⟩,.string ⟨l.undo.toArray⟩,.slice sv sm sc,.bool l.sub,.bool l.vital,.slice av am ac]] w fun e w'=>e= .returned (.bool (nodeOk l am))∧Below w.heap.size w w':=by
 obtain⟨nm,un,af,sb,vt⟩:=l
 dsimp only at *;have n0:=row_new w #[.string ⟨nm.toArray⟩,.string ⟨un.toArray⟩,.slice sv sm sc,.bool sb,.bool vt,.slice av am ac] 104;have hb0:Below w.heap.size w (w.alloc (.cells #[.string ⟨nm.toArray⟩,.string ⟨un.toArray⟩,.slice sv sm sc,.bool sb,.bool vt,.slice av am ac] 104)):=(Below.refl _ _).alloc (jG _) _;have M1:Hid _:=isName_by nm (w.alloc (.cells #[.string ⟨nm.toArray⟩,.string ⟨un.toArray⟩,.slice sv sm sc,.bool sb,.bool vt,.slice av am ac] 104))
 go_enter Tryz.func110,Tryz.ntmps110
 go_wp2_with fail
 refine Calls.mono M1.out ?_;clear M1;rintro e w1 ⟨rfl,hb1⟩;have n1:=(hb1.block _ (by simp)).trans n0;have hbw1:=hb0.trans (hb1.mono (by simp));cases hn:nmP nm with
 | false=>
  go_wp2_with fail
  go_ret
  exact⟨by simp[nodeOk,hn],hbw1⟩
 | true=>
  have c0:=(cell_row n1 2).trans rfl
  go_wp2_with fail
  go_loopw [4,12] (fun _ iv wr=>∃(k:Nat),k≤sm∧iv= .int .i64 k∧Hid (wr.heap[w.heap.size]? =some (.cells #[.string ⟨nm.toArray⟩,.string ⟨un.toArray⟩,.slice sv sm sc,.bool sb,.bool vt,.slice av am ac] 104 (0,0)))∧Hid (Below w.heap.size w wr)∧Hid (∀x∈af.take k,nmP x=true)) (fun _ iv _=>sm - (intOf iv).toNat)
  case atStart=>exact⟨0,zE _,rfl,n1,hbw1,by show ∀x∈af.take 0,_;simp⟩
  case round=>
   obtain⟨k,hk,rfl,HN,HB,HA⟩:=hrel
   have hzr:=HB.out.size
   by_cases hlt:k < sm
   ·obtain⟨x,hx⟩:∃x,af[k]? =some x:=⟨_,jF (by rw[←hs.1];exact hlt)⟩
    obtain⟨b,off,rfl,_,hc⟩:=hs.2 k x hx
    have d0:=cell_later HB.out hc;have M2:Hid _:=isName_by x wr;have hlt':(k:Int) < (sm:Int):=by omega
    have HX:Hid _:=hx;clear hx
    go_wp2_with fail
    refine Calls.mono M2.out ?_;clear M2;rintro e w2 ⟨rfl,hb2⟩;have n2:=(hb2.block _ (jD.1 HN.out).1).trans HN.out;have hbw2:=HB.out.trans (hb2.mono hzr);cases hnx:nmP x with
    | false=>
     have hq:nodeOk ⟨nm,un,af,sb,vt⟩ am=false:=by
      have:af.all nmP=false:=by
       rw[List.all_eq_false]
       exact⟨x,jS HX.out,by simp[hnx]⟩
      simp[nodeOk,this]
     go_wp2_with fail
     go_ret
     exact⟨by rw[hq];rfl,hbw2⟩
    | true=>
     go_wp2_with fail
     go_roundw
     case rel=>
      refine⟨k+1,by omega,by go_num,n2,hbw2,?_⟩
      show ∀y∈af.take (k+1),_
      intro y hy;rw[zL,HX.out] at hy
      rcases jX.1 hy with h | h
      ·exact HA.out y h
      ·simp at h;subst h;exact hnx
     case measure=>simp[intOf];omega
   ·have hkl:k=sm:=by omega
    subst hkl;have hall:af.all nmP=true:=by
     rw[zF]
     intro y hy;exact HA.out y (by rw[hs.1,List.take_length];exact hy)
    have d1:=(cell_row HN.out 1).trans rfl;have d3:=(cell_row HN.out 3).trans rfl;have d4:=(cell_row HN.out 4).trans rfl;have d5:=(cell_row HN.out 5).trans rfl;cases sb with
    | true=>
     have HQ:Hid (nodeOk ⟨nm,un,af,true,vt⟩ am=(un==[] && decide (0 < am))):=by show _=_;simp[nodeOk,hn,hall]
     have HBB:Hid _:=HB
     by_cases hu:un=[]
     ·subst hu
      go_wp2_with fail
      go_ret
      exact⟨by rw[HQ.out];simp,HBB.out⟩
     ·go_wp2_with fail
      go_ret
      exact⟨by rw[HQ.out];simp[hu],HBB.out⟩
    | false=>
     have HQ:Hid (nodeOk ⟨nm,un,af,false,vt⟩ am=((un==[] || nmP un) && !vt && decide (am=0))):=by show _=_;simp[nodeOk,hn,hall]
     have M3:Hid _:=isName_by un wr;have HBB:Hid _:=HB;have HZ:Hid (((am:Int)==0)=decide (am=0)):=by show _=_;rw[Bool.eq_iff_iff];simp
     by_cases hu:un=[]
     ·subst hu;cases vt with
      | true=>
       go_wp2_with fail
       go_ret
       exact⟨by rw[HQ.out];simp,HBB.out⟩
      | false=>
       go_wp2_with fail
       go_ret
       exact⟨by rw[HQ.out];simp;exact HZ.out,HBB.out⟩
     ·go_wp2_with fail
      refine Calls.mono M3.out ?_;rintro e w2 ⟨rfl,hb2⟩;have n2:=(hb2.block _ (jD.1 HN.out).1).trans HN.out;have hbw2:=HB.out.trans (hb2.mono hzr);have g4:=(cell_row n2 4).trans rfl;have g5:=(cell_row n2 5).trans rfl;clear d1 d3 d4 d5;cases hnu:nmP un with
      | false=>
       go_wp2_with fail
       go_ret
       exact⟨by rw[HQ.out];simp[hu,hnu],hbw2⟩
      | true=>
       cases vt with
       | true=>
        go_wp2_with fail
        go_ret
        exact⟨by rw[HQ.out];simp,hbw2⟩
       | false=>
        go_wp2_with fail
        go_ret
        exact⟨by rw[HQ.out];simp[hnu];exact HZ.out,hbw2⟩
end Go.Proofs.YtieoppabellafaaGreatDoor.Sx
