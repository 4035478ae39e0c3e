/- The bytes of all files, and the room, are together what was said at first, and what the disk grew by, whatever is done. -/
import Derived.Test.YtbbmbjlpccdclaaRows
import Derived.Test.YtbbmbjlpccdclaaXl
import Derived.Test.YtbbmbjlpccdclaaXm
import Derived.Test.YtbbmbjlpccdclaaMc
import Derived.ProofKit
import Derived.OpenShut
import Derived.ShutString
import Derived.ChangeOld
namespace Go.Proofs.Ytbbmbjlpccdclaa.diskRooms
open Go.RowKit
set_option linter.unusedVariables false

theorem n_step (S : DS) (x : Ac) : (stepP S x).n = S.n := by
  unfold stepP
  split
  · exact write_n _ _ _ _
  · split
    · exact write_n _ _ _ _
    · split
      · exact armP_n _ _
      · split
        · exact crashP_n _ _
        · split
          · exact growP_n _ _
          · split
            · rfl
            · exact write_n _ _ _ _

theorem n_play (S : DS) : ∀ (L : List Ac), (playP S L).n = S.n := by
  intro L
  induction L generalizing S with
  | nil => rfl
  | cons x L ih =>
    show (playP (stepP S x) L).n = _
    rw [ih, n_step]

theorem tot_step {S : DS} (hn : S.n = 3) (x : Ac) (hx : ¬ x.kind = 5) : tot3 (stepP S x) = tot3 S := by
  unfold stepP
  split
  · exact tot_write hn _ _ _ (fun k _ _ => by
      show (List.take _ _).length ≤ _
      rw [List.length_take]
      omega)
  · split
    · exact tot_write hn _ _ _ (fun k _ _ => by
        show (List.take _ _).length ≤ _
        rw [List.length_take]
        omega)
    · split
      · exact armP_tot _ _
      · split
        · show tot3 (crashP S x.keep) = _
          have : tot3 (crashP S x.keep) = tot3 (crashK x.keep S S.n) := rfl
          rw [this, hn]
          exact tot_crashK hn _ 3 (Nat.le_refl _)
        · split
          · rfl
          · exact tot_write hn _ _ _ (fun k _ hm => by
              show ((S.fs k).b ++ x.b).length ≤ _
              unfold fitsP at hm
              rw [List.length_append]
              split at hm
              · omega
              · cases hm)

theorem fs_grow {S : DS} (x : Ac) (hx : x.kind = 5) : (stepP S x).fs = S.fs := by
  unfold stepP
  rw [if_neg (by omega), if_neg (by omega), if_neg (by omega), if_neg (by omega), if_pos hx]
  exact growP_fs _ _

theorem read_len {S : DS} (h : S.n = 3) (i : Nat) (hi : i < 3) : readP S i = (S.fs i).b := by
  unfold readP hasB
  rw [decide_eq_true (by omega), if_pos rfl]
  rfl

theorem p_room {B : Nat} {w : World} {p r g : Nat} {S : DS} {k : Nat} (h : LP B w p r g S k) : Calls Try.prog 19 #[.pointer (some ⟨p, 0, none⟩)] w fun e w' => e = .returned (.int .i64 S.room) ∧ LP B w' p r g S k ∧ Below w.heap.size w w' := by
  refine Calls.mono (d_room h.ld) ?_
  rintro e w' ⟨q1, _, q3⟩
  exact ⟨q1, h.later q3, q3⟩

theorem p_read {B : Nat} {w : World} {p r g : Nat} {S : DS} {k : Nat} (h : LP B w p r g S k) (h3 : S.n = 3) (i : Nat) (hi : i < 3) : Calls Try.prog 15 #[.pointer (some ⟨p, 0, none⟩), .int .i64 i] w fun e w' => (∃ a c, e = .returned (.slice a (S.fs i).b.length c)) ∧ LP B w' p r g S k ∧ Below w.heap.size w w' := by
  have hb := h.bnd
  have := d_read h.ld i (by omega) (by omega)
  rw [read_len h3 i hi] at this
  refine Calls.mono this ?_
  rintro e w' ⟨⟨v, rfl, a, c, rfl, _⟩, _, q3⟩
  exact ⟨⟨a, c, rfl⟩, h.later q3, q3⟩

set_option maxRecDepth 1000000 in
set_option maxHeartbeats 4000000 in
theorem walk (a : Option Addr) (n c : Nat) (L : List Ac) (w : World) (hx : RAs w (.slice a n c) L) (hn : FitN L) :
    Calls Try.prog 5 #[.slice a n c] w fun e w' => e = .returned (.bool true) ∧ Below w.heap.size w w' := by
  have HF : Hid _ := few_any _ L w hx
  obtain ⟨q, HQ⟩ : ∃ q, Hid (fewP L = q) := ⟨_, rfl⟩
  rw [HQ.out] at HF
  cases q with
  | false =>
    have HL : Hid _ := lives_any w
    obtain ⟨a', cap, he, _, _, _⟩ := hx
    cases he
    go_enter Try.func5, Try.ntmps5
    go_wp2_with fail
    refine Calls.mono HF.out ?_
    rintro e w1 ⟨rfl, rfl⟩
    go_wp2_with fail
    refine Calls.mono HL.out ?_
    rintro e w2 ⟨rfl, hb⟩
    go_wp2_with fail
    go_ret
    exact ⟨rfl, hb⟩
  | true =>
    have HI : Hid (Ins w.heap.size w L a) := hx.ins
    obtain ⟨hl, ho⟩ := few_len HQ.out
    have HO : Hid (∀ x ∈ L, okA x = true) := ho
    have HFN : Hid (FitN L) := hn
    obtain ⟨a', cap, he, _, _, _⟩ := hx
    cases he
    have HN : Hid _ := new_lp 3 4000 w (by omega) (by omega) (by omega)
    clear ho hn
    go_enter Try.func5, Try.ntmps5
    go_wp2_with fail
    refine Calls.mono HF.out ?_
    rintro e w0 ⟨rfl, rfl⟩
    go_wp2_with fail
    refine Calls.mono HN.out ?_
    rintro e w1 ⟨rfl, hd1, hb1⟩
    have HR : Hid _ := rnew_lp 3 4000 w0 w1 (by omega) (by omega) (by omega) hd1 hb1
    clear hd1 hb1 HN HF HQ
    go_wp2_with fail
    refine Calls.mono HR.out ?_
    rintro e w2 ⟨r, g, rfl, hlp, hb2⟩
    have HLP : Hid _ := hlp
    have HB2 : Hid _ := hb2
    clear hlp hb2 HR
    go_wp2_with fail
    go_loopw [7, 8] (fun sv i wr => ∃ k s : Nat, k ≤ L.length ∧ i = .int .i64 k ∧ sv = .int .i64 s ∧ s ≤ 100000000000 ∧ Hid (tot3 (playP (newP 3 4000) (L.take k)) = s) ∧ Hid (LP w0.heap.size wr w0.heap.size r g (playP (newP 3 4000) (L.take k)) k) ∧ Hid (Below w0.heap.size w0 wr)) (fun _ i _ => L.length - (intOf i).toNat)
    case atStart => exact ⟨0, 4000, Nat.zero_le _, rfl, rfl, by omega, rfl, HLP, HB2⟩
    case round =>
      obtain ⟨k, s, hk, rfl, rfl, hs, HT, HP, HB⟩ := hrel
      have h3 : (playP (newP 3 4000) (L.take k)).n = 3 := n_play _ _
      by_cases hlt : k < L.length
      · obtain ⟨blk, off, bv0, kv0, rfl, _, _, _⟩ := HI.out wr HB.out k L[k] (List.getElem?_eq_getElem hlt)
        have HRA : Hid (∀ wx, Below w0.heap.size w0 wx → ∃ bv' kv', RA1 wx blk (off + k * 5) L[k] bv' kv' ∧ Low w0.heap.size bv' ∧ Low w0.heap.size kv') := fun wx hb => by
          obtain ⟨blk', off', bv', kv', he, h1, h2, h3⟩ := HI.out wx hb k L[k] (List.getElem?_eq_getElem hlt)
          cases he
          exact ⟨bv', kv', h1, h2, h3⟩
        have hokx := HO.out _ (List.getElem_mem hlt)
        have hnx := HFN.out _ (List.getElem_mem hlt)
        have HPL : Hid (playP (newP 3 4000) (L.take (k + 1)) = stepP (playP (newP 3 4000) (L.take k)) L[k]) := play_take _ _ _ hlt
        have hs3 := n_step (playP (newP 3 4000) (L.take k)) L[k]
        have ht5 := fun (h : ¬ L[k].kind = 5) => tot_step h3 L[k] h
        have hf5 := fun (h : L[k].kind = 5) => fs_grow (S := playP (newP 3 4000) (L.take k)) L[k] h
        rw [h3] at hs3
        generalize playP (newP 3 4000) (L.take k) = S at *
        generalize L[k] = x at *
        have HS' : Hid (∀ (wx : World) bv kv, LP w0.heap.size wx w0.heap.size r g S k → RB wx bv x.b → RI wx kv x.keep → Low w0.heap.size bv → Low w0.heap.size kv → Calls Try.prog 12 #[.pointer (some ⟨w0.heap.size, 0, none⟩), .pointer (some ⟨r, 0, none⟩), .agg #[.int .i64 x.kind, .int .i64 x.i, .int .i64 x.n, bv, kv]] wx fun e w' => e = .returned (.bool true) ∧ LP w0.heap.size w' w0.heap.size r g (stepP S x) (k + 1) ∧ Below w0.heap.size wx w') := fun wx bv kv h hb hk lb lk => lp_step h (by omega) x bv kv hb hk hokx hnx lb lk
        obtain ⟨S', HSS⟩ : ∃ S', Hid (stepP S x = S') := ⟨_, rfl⟩
        rw [HSS.out] at HPL HS' hs3 ht5 hf5
        have HT5 : Hid (¬ x.kind = 5 → tot3 S' = tot3 S) := ht5
        have HF5 : Hid (x.kind = 5 → S'.fs = S.fs) := hf5
        have hr0 := HP.out.sm.room
        have hbn := HP.out.bnd
        have hsd : tot3 S = S.room + (S.fs 0).b.length + (S.fs 1).b.length + (S.fs 2).b.length := rfl
        have HSD : Hid _ := hsd
        have H3 : Hid (S'.n = 3) := hs3
        have hroomle : S.room ≤ 10050000000 := by omega
        generalize hRm : S.room = rm0 at *
        clear ht5 hf5 hs3 h3 HI HO HFN hsd hokx hnx hr0 hbn
        have HP1 : Hid _ := p_room HP.out
        rw [hRm] at HP1
        have HRM : Hid (S.room = rm0) := hRm
        clear hRm
        go_wp2_with fail
        refine Calls.mono HP1.out ?_
        rintro e w3 ⟨rfl, hp3, hb3⟩
        have HB3 : Hid (Below w0.heap.size w0 w3) := HB.out.trans (hb3.mono HB.out.size)
        obtain ⟨bv, kv, ⟨c0, c1, c2, c3, c4, hbb, hkk⟩, lb, lk⟩ := HRA.out w3 HB3.out
        have HC : Hid _ := HS'.out w3 bv kv hp3 hbb hkk lb lk
        obtain ⟨ba, bc, rfl, _, _, _, _⟩ := hbb
        obtain ⟨ka, kc, rfl, _, _, _⟩ := hkk
        clear HP1 hp3 hb3 lb lk HS'
        go_wp2_with fail
        refine Calls.mono HC.out ?_
        rintro e w4 ⟨rfl, hp4, hb4⟩
        have HB4 : Hid (Below w0.heap.size w0 w4) := HB3.out.trans hb4
        have HP4 : Hid _ := hp4
        obtain ⟨bv4, kv4, ⟨d0, _⟩, _⟩ := HRA.out w4 HB4.out
        have hh := hp4.bnd
        have hroom := hp4.sm.room
        have hl0 := hp4.sm.len 0
        have hl1 := hp4.sm.len 1
        have hl2 := hp4.sm.len 2
        have htot : tot3 S' = S'.room + (S'.fs 0).b.length + (S'.fs 1).b.length + (S'.fs 2).b.length := rfl
        have hroom2 : S'.room ≤ 10050000000 := by omega
        have hl0' : (S'.fs 0).b.length ≤ 600000 := by omega
        have hl1' : (S'.fs 1).b.length ≤ 600000 := by omega
        have hl2' : (S'.fs 2).b.length ≤ 600000 := by omega
        have HTot : Hid _ := htot
        clear HC c0 c1 c2 c3 c4 hp4 hb4 hh hroom hl0 hl1 hl2 htot HRA
        obtain ⟨s2, HS2⟩ : ∃ s2, Hid (tot3 S' = s2) := ⟨_, rfl⟩
        rw [HS2.out] at HTot HT5
        by_cases hk5 : x.kind = 5
        · have d5 : w4.cell? ⟨blk, off + k * 5, none⟩ = some (.int .i64 5) := by rw [← hk5]; exact d0
          have HSum : Hid ((s : Int) + S'.room - rm0 = (s2 : Int)) := by
            show _ = _
            have h1 := HF5.out hk5
            have h2 := HTot.out
            have h4 := HSD.out
            rw [HT.out] at h4
            rw [h1] at h2
            omega
          obtain ⟨rm1, HX⟩ : ∃ r, Hid (S'.room = r) := ⟨_, rfl⟩
          obtain ⟨l0, HY0⟩ : ∃ r, Hid ((S'.fs 0).b.length = r) := ⟨_, rfl⟩
          obtain ⟨l1, HY1⟩ : ∃ r, Hid ((S'.fs 1).b.length = r) := ⟨_, rfl⟩
          obtain ⟨l2, HY2⟩ : ∃ r, Hid ((S'.fs 2).b.length = r) := ⟨_, rfl⟩
          rw [HX.out] at hroom2 HTot
          rw [HY0.out] at hl0' HTot
          rw [HY1.out] at hl1' HTot
          rw [HY2.out] at hl2' HTot
          rw [HX.out] at HSum
          have htt := HTot.out
          have hsum := HSum.out
          have hs2b : s2 ≤ 100000000000 := by omega
          have he : (((rm1 : Int) + l0 + l1 + l2) != ((s : Int) + rm1 - rm0)) = false := by simp; omega
          have HSumv : Hid (Value.int .i64 ((s : Int) + rm1 - rm0) = .int .i64 (s2 : Int)) := by show _ = _; rw [hsum]
          have HQ1 : Hid _ := p_room HP4.out
          rw [HX.out] at HQ1
          have hbig : (s : Int) + rm1 ≤ 9000000000000 := by omega
          have hneg : 0 ≤ (s : Int) + rm1 - rm0 := by omega
          clear d0 htt hsum
          go_wp2_with fail
          refine Calls.mono HQ1.out ?_
          rintro e w5 ⟨rfl, hp5, hb5⟩
          have HB5 : Hid _ := HB4.out.trans (hb5.mono HB4.out.size)
          clear HQ1 hb5
          have HQ2 : Hid _ := p_room hp5
          rw [HX.out] at HQ2
          go_wp2_with fail
          refine Calls.mono HQ2.out ?_
          rintro e w6 ⟨rfl, hp6, hb6⟩
          have HB6 : Hid _ := HB5.out.trans (hb6.mono HB5.out.size)
          have HQ3 : Hid _ := p_read hp6 H3.out 0 (by omega)
          rw [HY0.out] at HQ3
          clear HQ2 hb6
          go_wp2_with fail
          refine Calls.mono HQ3.out ?_
          rintro e w7 ⟨⟨a7, c7, rfl⟩, hp7, hb7⟩
          have HB7 : Hid _ := HB6.out.trans (hb7.mono HB6.out.size)
          have HQ4 : Hid _ := p_read hp7 H3.out 1 (by omega)
          rw [HY1.out] at HQ4
          clear HQ3 hb7 hp6
          go_wp2_with fail
          refine Calls.mono HQ4.out ?_
          rintro e w8 ⟨⟨a8, c8, rfl⟩, hp8, hb8⟩
          have HB8 : Hid _ := HB7.out.trans (hb8.mono HB7.out.size)
          have HQ5 : Hid _ := p_read hp8 H3.out 2 (by omega)
          rw [HY2.out] at HQ5
          clear HQ4 hb8 hp7
          go_wp2_with fail
          refine Calls.mono HQ5.out ?_
          rintro e w9 ⟨⟨a9, c9, rfl⟩, hp9, hb9⟩
          have HB9 : Hid _ := HB8.out.trans (hb9.mono HB8.out.size)
          have HP9 : Hid _ := hp9
          clear HQ5 hb9 hp8 hp9
          go_wp2_with fail
          go_roundw
          case rel => exact ⟨k + 1, s2, by omega, by go_num, HSumv.out, hs2b, by show _ = _; rw [HPL.out]; exact HS2.out, by show LP _ _ _ _ _ _ _; rw [HPL.out]; exact HP9.out, HB9⟩
          case measure => simp [intOf]; omega
        · have d5 : (x.kind == 5) = false := by simpa using hk5
          have HSum : Hid (s2 = s) := by
            show _ = _
            rw [HT5.out hk5, HT.out]
          obtain ⟨rm1, HX⟩ : ∃ r, Hid (S'.room = r) := ⟨_, rfl⟩
          obtain ⟨l0, HY0⟩ : ∃ r, Hid ((S'.fs 0).b.length = r) := ⟨_, rfl⟩
          obtain ⟨l1, HY1⟩ : ∃ r, Hid ((S'.fs 1).b.length = r) := ⟨_, rfl⟩
          obtain ⟨l2, HY2⟩ : ∃ r, Hid ((S'.fs 2).b.length = r) := ⟨_, rfl⟩
          rw [HX.out] at hroom2 HTot
          rw [HY0.out] at hl0' HTot
          rw [HY1.out] at hl1' HTot
          rw [HY2.out] at hl2' HTot
          have htt := HTot.out
          have hsum := HSum.out
          have hs2b : s2 ≤ 100000000000 := by omega
          have he : (((rm1 : Int) + l0 + l1 + l2) != (s : Int)) = false := by simp; omega
          have HSumv : Hid (Value.int .i64 (s : Int) = .int .i64 (s2 : Int)) := by show _ = _; rw [hsum]
          have hp5 := HP4.out
          clear htt hsum hk5
          have HQ2 : Hid _ := p_room hp5
          rw [HX.out] at HQ2
          go_wp2_with fail
          refine Calls.mono HQ2.out ?_
          rintro e w6 ⟨rfl, hp6, hb6⟩
          have HB6 : Hid _ := HB4.out.trans (hb6.mono HB4.out.size)
          have HQ3 : Hid _ := p_read hp6 H3.out 0 (by omega)
          rw [HY0.out] at HQ3
          clear HQ2 hb6
          go_wp2_with fail
          refine Calls.mono HQ3.out ?_
          rintro e w7 ⟨⟨a7, c7, rfl⟩, hp7, hb7⟩
          have HB7 : Hid _ := HB6.out.trans (hb7.mono HB6.out.size)
          have HQ4 : Hid _ := p_read hp7 H3.out 1 (by omega)
          rw [HY1.out] at HQ4
          clear HQ3 hb7 hp6
          go_wp2_with fail
          refine Calls.mono HQ4.out ?_
          rintro e w8 ⟨⟨a8, c8, rfl⟩, hp8, hb8⟩
          have HB8 : Hid _ := HB7.out.trans (hb8.mono HB7.out.size)
          have HQ5 : Hid _ := p_read hp8 H3.out 2 (by omega)
          rw [HY2.out] at HQ5
          clear HQ4 hb8 hp7
          go_wp2_with fail
          refine Calls.mono HQ5.out ?_
          rintro e w9 ⟨⟨a9, c9, rfl⟩, hp9, hb9⟩
          have HB9 : Hid _ := HB8.out.trans (hb9.mono HB8.out.size)
          have HP9 : Hid _ := hp9
          clear HQ5 hb9 hp8 hp9
          go_wp2_with fail
          go_roundw
          case rel => exact ⟨k + 1, s2, by omega, by go_num, HSumv.out, hs2b, by show _ = _; rw [HPL.out]; exact HS2.out, by show LP _ _ _ _ _ _ _; rw [HPL.out]; exact HP9.out, HB9⟩
          case measure => simp [intOf]; omega
      · have HL : Hid _ := lives_any wr
        clear HI HO HFN h3
        go_wp2_with fail
        refine Calls.mono HL.out ?_
        rintro e w5 ⟨rfl, hb5⟩
        go_wp2_with fail
        go_ret
        exact ⟨rfl, HB.out.trans (hb5.mono HB.out.size)⟩

open Go.ChangeShapes Go.WideShapes Go.ChangeAt

theorem own : ownKnob Try.prog.godebug = none := by kernel_rfl
theorem laidOut : laidOutB Try.prog = true := by kernel_rfl

set_option maxRecDepth 100000 in
theorem lifted (os : Os) (started : os.Started) (H : Type) (enc : TypeId × Value → H) :
    ReturnsInHanded {} Try.checked os 5 .any (Rows.diskRoomsSpec.pre6 enc Try.prog Try.f5 Rows.diskRoomsRow.domain false) (Rows.diskRoomsSpec.post enc Try.prog Try.f5 false true false false) := by
  refine returnsInHanded_of_change (C := Try.checked) own started (by kernel_rfl) Try.func5
    (ChangeSpec.witness6 (enc := enc) (C := Try.checked) false ⟨#[], #[.slice none 0 0], []⟩ 8 (by kernel_rfl) (by kernel_rfl) (by kernel_rfl) (by kernel_rfl)) ?_
  intro W base args ds gs before hval0 hW hcnd _
  have hval : ∀ (j : Nat) t v, Try.f5.params[j]? = some t → args[j]? = some v → Value.okWide Try.prog W .any base t v := hval0
  have hW' := hW
  obtain ⟨p, q, hA0, hV, rfl, hfz, hnd⟩ := hW
  have hA : DataW.TrodAll enc Try.prog W 0 (fun _ => true) true Try.f5.params.toList args.toList ds p := hA0
  rw [Try.params5] at hA hval
  obtain ⟨v0, vs0, d0, ds0, p0, q0, hargs, rfl, rfl, h0, r0⟩ := trodAll_cons hA
  obtain ⟨rfl, rfl, rfl⟩ := trodAll_nil r0
  obtain rfl : args = #[v0] := by cases args; simp_all
  obtain ⟨rfl, rfl⟩ := trodVars_none hV
  obtain ⟨a0, len0, cap0, rfl⟩ := okWide_slice Try.underlying22 (hval 0 22 v0 rfl rfl)
  have k0 := h0
  have lt0 : ∀ x ∈ p0, x.block < W.heap.size := by obtain ⟨m, hm⟩ := k0; exact DataW.trod_lt m _ _ _ hm
  obtain ⟨z0, w0, u0⟩ : ∃ L, RAs W (.slice a0 len0 cap0) L ∧ FitN L := by
    obtain ⟨fuel, hf⟩ := h0
    exact open_acts hf
  clear hA0 hval0
  refine (walk a0 len0 cap0 z0 W w0 u0).mono fun e W' ⟨he, bel⟩ => ?_
  subst he
  exact ⟨_, rfl, _, _, _, [], _, [], hW', trodAll_mk1 (shut_bool Try.underlying4 _), (trodAll_cons_mk (Below.trod laidOut (by kernel_rfl) (of_decide_eq_true (by kernel_rfl)) k0 bel lt0) trodAll_mk0), rfl, bel.frame _, fun h => by cases h⟩

theorem over : Rows.diskRoomsRow.holds Try.pinned (OpenSpec.ofChange Rows.diskRoomsSpec) :=
  OpenClaim.holds_of_wide 5 Try.f5 rfl rfl rfl rfl rfl rfl rfl ⟨rfl, rfl, rfl, rfl, rfl⟩ rfl rfl rfl rfl rfl (by kernel_rfl) Try.func5 (by kernel_rfl)
    (of_decide_eq_true (by kernel_rfl)) (by unfold Func.isWrapper; first | (rw [if_pos (by decide +kernel)]; kernel_rfl) | (rw [if_neg (by decide +kernel)]; exact ⟨rfl, rfl⟩))
    (fun os started H enc _ => lifted os started H enc)
end Go.Proofs.Ytbbmbjlpccdclaa.diskRooms
namespace Go.Proofs.Ytbbmbjlpccdclaa

theorem diskRooms_holds : Rows.DiskRoomsSaid := diskRooms.over
#print axioms diskRooms_holds
end Go.Proofs.Ytbbmbjlpccdclaa
