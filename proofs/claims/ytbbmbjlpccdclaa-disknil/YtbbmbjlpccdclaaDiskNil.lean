/- No disk, and one that nothing made, has nothing, and does nothing. -/
import Derived.Test.YtbbmbjlpccdclaaRows
import Derived.Test.YtbbmbjlpccdclaaWv
import Derived.Test.YtbbmbjlpccdclaaXd
import Derived.Test.YtbbmbjlpccdclaaXj
import Derived.Test.YtbbmbjlpccdclaaXm
import Derived.Test.YtbbmbjlpccdclaaMc
import Derived.ProofKit
import Derived.OpenShut
import Derived.ShutString
import Derived.ChangeOld
namespace Go.Proofs.Ytbbmbjlpccdclaa.diskNil
open Go.RowKit
set_option linter.unusedVariables false

/-- What stands behind each call: the pointer is dead, and the call that came in lies in its box. -/
structure BX (w0 w : World) (pp : Option Addr) (z : Ac) (bv kv : Value) : Prop where
  dead : Dead pp w
  ci : w.cell? ⟨w0.heap.size, 1, none⟩ = some (.int .i64 z.i)
  cn : w.cell? ⟨w0.heap.size, 2, none⟩ = some (.int .i64 z.n)
  cb : w.cell? ⟨w0.heap.size, 3, none⟩ = some bv
  ck : w.cell? ⟨w0.heap.size, 4, none⟩ = some kv
  b : RB w bv z.b
  bel : Below w0.heap.size w0 w

theorem BX.later {w0 w w' : World} {pp : Option Addr} {z : Ac} {bv kv : Value} (h : BX w0 w pp z bv kv) (hb : Below w.heap.size w w') : BX w0 w' pp z bv kv :=
  ⟨h.dead.later hb, cell_later hb h.ci, cell_later hb h.cn, cell_later hb h.cb, cell_later hb h.ck, h.b.later hb, h.bel.trans (hb.mono h.bel.size)⟩

/-- The box, and the slice of one call behind it. -/
def B2 (w : World) (z : Ac) (bv kv : Value) : World := (w.alloc (.cells #[.int .i64 z.kind, .int .i64 z.i, .int .i64 z.n, bv, kv] 36)).alloc (.cells #[.int .i64 z.kind, .int .i64 z.i, .int .i64 z.n, bv, kv] 36)

theorem box_cell (w : World) (cs : Array Value) (t : TypeId) (j : Nat) (v : Value) (hj : cs[j]? = some v) : (w.alloc (.cells cs t)).cell? ⟨w.heap.size, j, none⟩ = some v := by
  rw [cell_of_row _ _ _ cs t (0, 0) (heap_alloc_new _ _)]
  exact hj

theorem B2_ras (w : World) (z : Ac) (bv kv : Value) (hb : RB w bv z.b) (hk : RI w kv z.keep) : RAs (B2 w z bv kv) (.slice (some ⟨w.heap.size + 1, 0, none⟩) 1 1) [z] := by
  have hbel : Below w.heap.size w (B2 w z bv kv) := alloc2 _ _ _
  refine ⟨_, 1, rfl, by simp, by unfold maxLen; omega, fun j x hj => ?_⟩
  match j, hj with
  | 0, hj =>
    simp at hj
    subst hj
    have hs : w.heap.size + 1 = (w.alloc (.cells #[.int .i64 z.kind, .int .i64 z.i, .int .i64 z.n, bv, kv] 36)).heap.size := by simp
    refine ⟨w.heap.size + 1, 0, bv, kv, rfl, ?_, ?_, ?_, ?_, ?_, hb.later hbel, hk.later hbel⟩ <;> rw [hs] <;> exact box_cell _ _ _ _ _ rfl
  | j + 1, hj => simp at hj

theorem B2_bx (w : World) (z : Ac) (bv kv : Value) (hb : RB w bv z.b) : BX w (B2 w z bv kv) none z bv kv := by
  have hbel : Below w.heap.size w (B2 w z bv kv) := alloc2 _ _ _
  refine ⟨dead_nil _, ?_, ?_, ?_, ?_, hb.later hbel, hbel⟩ <;> (refine cell_later ((Below.refl _ _).alloc (Nat.le_refl _) _) ?_; exact box_cell _ _ _ _ _ rfl)

theorem B3_bx (w : World) (z : Ac) (bv kv : Value) (hb : RB w bv z.b) (k : Nat) (hk : k = (B2 w z bv kv).heap.size) (t : TypeId) : BX w ((B2 w z bv kv).alloc (.cells Try.zeroCells55 t)) (some ⟨k, 0, none⟩) z bv kv := by
  have h := (B2_bx w z bv kv hb).later ((Below.refl (B2 w z bv kv).heap.size (B2 w z bv kv)).alloc (Nat.le_refl _) (.cells Try.zeroCells55 t))
  subst hk
  exact ⟨dead_unmade _ _ (box_cell _ _ _ _ _ zero_cnt), h.ci, h.cn, h.cb, h.ck, h.b, h.bel⟩

set_option maxRecDepth 1000000 in
set_option maxHeartbeats 4000000 in
theorem walk (z : Ac) (bv kv : Value) (made : Bool) (w : World) (hb : RB w bv z.b) (hk : RI w kv z.keep) (hz : z.n ≤ 9223372036854775807) :
    Calls Try.prog 7 #[.agg #[.int .i64 z.kind, .int .i64 z.i, .int .i64 z.n, bv, kv], .bool made] w fun e w' => e = .returned (.bool true) ∧ Below w.heap.size w w' := by
  have HF : Hid (Calls Try.prog 8 #[.slice (some ⟨w.heap.size + 1, 0, none⟩) 1 1] (B2 w z bv kv) fun e w' => e = .returned (.bool (fewP [z])) ∧ w' = B2 w z bv kv) := few_any _ _ _ (B2_ras w z bv kv hb hk)
  have HX0 : Hid _ := B2_bx w z bv kv hb
  have HX1 : Hid _ := B3_bx w z bv kv hb
  obtain ⟨ba, bc, rfl, _, _, _, _⟩ := hb
  obtain ⟨ka, kc, rfl, _, _, _⟩ := hk
  generalize fewP [z] = q at *
  cases q with
  | false =>
    have HL : Hid _ := lives_any (B2 w z (.slice ba z.b.length bc) (.slice ka z.keep.length kc))
    clear HX1
    go_enter Try.func7, Try.ntmps7
    go_wp2_with fail
    refine Calls.mono HF.out ?_
    rintro e w1 ⟨rfl, rfl⟩
    go_wp2_with fail
    refine Calls.mono HL.out ?_
    rintro e w2 ⟨rfl, h2⟩
    go_wp2_with fail
    go_ret
    exact ⟨rfl, (HX0.out.later h2).bel⟩
  | true =>
    cases made with
    | false =>
      clear HX1
      go_enter Try.func7, Try.ntmps7
      go_wp2_with fail
      refine Calls.mono HF.out ?_
      rintro e w1 ⟨rfl, rfl⟩
      have HX2 : Hid (BX w (B2 w z (.slice ba z.b.length bc) (.slice ka z.keep.length kc)) none z (.slice ba z.b.length bc) (.slice ka z.keep.length kc)) := HX0
      clear HF HX0
      generalize B2 w z (.slice ba z.b.length bc) (.slice ka z.keep.length kc) = w2 at *
      have hci := HX2.out.ci
      have hcn := HX2.out.cn
      have hcb := HX2.out.cb
      have hck := HX2.out.ck
      go_wp2_with fail
      refine Calls.mono (n_append _ _ _ _ _ HX2.out.dead HX2.out.b) ?_
      rintro e w3 ⟨rfl, h3⟩
      have HX3 : Hid _ := HX2.out.later h3
      clear hci hcn hcb hck HX2 h3
      have hci := HX3.out.ci
      have hcn := HX3.out.cn
      have hcb := HX3.out.cb
      have hck := HX3.out.ck
      go_wp2_with fail
      refine Calls.mono (n_sync _ _ _ HX3.out.dead) ?_
      rintro e w4 ⟨rfl, h4⟩
      have HX4 : Hid _ := HX3.out.later h4
      clear hci hcn hcb hck HX3 h4
      have hci := HX4.out.ci
      have hcn := HX4.out.cn
      have hcb := HX4.out.cb
      have hck := HX4.out.ck
      go_wp2_with fail
      refine Calls.mono (n_cut _ _ _ _ HX4.out.dead) ?_
      rintro e w5 ⟨rfl, h5⟩
      have HX5 : Hid _ := HX4.out.later h5
      clear hci hcn hcb hck HX4 h5
      have hci := HX5.out.ci
      have hcn := HX5.out.cn
      have hcb := HX5.out.cb
      have hck := HX5.out.ck
      go_wp2_with fail
      refine Calls.mono (n_grow _ _ _ HX5.out.dead) ?_
      rintro e w6 ⟨rfl, h6⟩
      have HX6 : Hid _ := HX5.out.later h6
      clear hci hcn hcb hck HX5 h6
      have hci := HX6.out.ci
      have hcn := HX6.out.cn
      have hcb := HX6.out.cb
      have hck := HX6.out.ck
      go_wp2_with fail
      refine Calls.mono (n_arm _ _ _ HX6.out.dead) ?_
      rintro e w7 ⟨rfl, h7⟩
      have HX7 : Hid _ := HX6.out.later h7
      clear hci hcn hcb hck HX6 h7
      have hci := HX7.out.ci
      have hcn := HX7.out.cn
      have hcb := HX7.out.cb
      have hck := HX7.out.ck
      go_wp2_with fail
      refine Calls.mono (n_crash _ _ _ _ _ HX7.out.dead) ?_
      rintro e w8 ⟨rfl, h8⟩
      have HX8 : Hid _ := HX7.out.later h8
      clear hci hcn hcb hck HX7 h8
      have hci := HX8.out.ci
      have hcn := HX8.out.cn
      have hcb := HX8.out.cb
      have hck := HX8.out.ck
      go_wp2_with fail
      refine Calls.mono (n_files _ _ HX8.out.dead) ?_
      rintro e w9 ⟨rfl, h9⟩
      have HX9 : Hid _ := HX8.out.later h9
      clear hci hcn hcb hck HX8 h9
      have hci := HX9.out.ci
      have hcn := HX9.out.cn
      have hcb := HX9.out.cb
      have hck := HX9.out.ck
      go_wp2_with fail
      refine Calls.mono (n_read _ _ _ HX9.out.dead) ?_
      rintro e w10 ⟨rfl, h10⟩
      have HX10 : Hid _ := HX9.out.later h10
      clear hci hcn hcb hck HX9 h10
      have hci := HX10.out.ci
      have hcn := HX10.out.cn
      have hcb := HX10.out.cb
      have hck := HX10.out.ck
      go_wp2_with fail
      refine Calls.mono (n_synced _ _ _ HX10.out.dead) ?_
      rintro e w11 ⟨rfl, h11⟩
      have HX11 : Hid _ := HX10.out.later h11
      clear hci hcn hcb hck HX10 h11
      have hci := HX11.out.ci
      have hcn := HX11.out.cn
      have hcb := HX11.out.cb
      have hck := HX11.out.ck
      go_wp2_with fail
      refine Calls.mono (n_room _ _ HX11.out.dead) ?_
      rintro e w12 ⟨rfl, h12⟩
      have HX12 : Hid _ := HX11.out.later h12
      clear hci hcn hcb hck HX11 h12
      have hci := HX12.out.ci
      have hcn := HX12.out.cn
      have hcb := HX12.out.cb
      have hck := HX12.out.ck
      go_wp2_with fail
      refine Calls.mono (n_down _ _ HX12.out.dead) ?_
      rintro e w13 ⟨rfl, h13⟩
      have HX13 : Hid _ := HX12.out.later h13
      clear hci hcn hcb hck HX12 h13
      have hci := HX13.out.ci
      have hcn := HX13.out.cn
      have hcb := HX13.out.cb
      have hck := HX13.out.ck
      go_wp2_with fail
      refine Calls.mono (n_copy _ _ HX13.out.dead) ?_
      rintro e w14 ⟨rfl, h14⟩
      have HX14 : Hid _ := HX13.out.later h14
      clear hci hcn hcb hck HX13 h14
      have HL : Hid _ := lives_any w14
      go_wp2_with fail
      refine Calls.mono HL.out ?_
      rintro e w15 ⟨rfl, h15⟩
      go_wp2_with fail
      go_ret
      exact ⟨rfl, (HX14.out.later h15).bel⟩
    | true =>
      clear HX0
      go_enter Try.func7, Try.ntmps7
      go_wp2_with fail
      refine Calls.mono HF.out ?_
      rintro e w1 ⟨rfl, rfl⟩
      clear HF
      generalize B2 w z (.slice ba z.b.length bc) (.slice ka z.keep.length kc) = w1 at *
      have HX2 : Hid (BX w (w1.alloc (.cells Try.zeroCells55 55)) (some ⟨w1.heap.size, 0, none⟩) z (.slice ba z.b.length bc) (.slice ka z.keep.length kc)) := HX1.out _ rfl _
      clear HX1
      have hci := HX2.out.ci
      have hcn := HX2.out.cn
      have hcb := HX2.out.cb
      have hck := HX2.out.ck
      go_wp2_with fail
      refine Calls.mono (n_append _ _ _ _ _ HX2.out.dead HX2.out.b) ?_
      rintro e w3 ⟨rfl, h3⟩
      have HX3 : Hid _ := HX2.out.later h3
      clear hci hcn hcb hck HX2 h3
      have hci := HX3.out.ci
      have hcn := HX3.out.cn
      have hcb := HX3.out.cb
      have hck := HX3.out.ck
      go_wp2_with fail
      refine Calls.mono (n_sync _ _ _ HX3.out.dead) ?_
      rintro e w4 ⟨rfl, h4⟩
      have HX4 : Hid _ := HX3.out.later h4
      clear hci hcn hcb hck HX3 h4
      have hci := HX4.out.ci
      have hcn := HX4.out.cn
      have hcb := HX4.out.cb
      have hck := HX4.out.ck
      go_wp2_with fail
      refine Calls.mono (n_cut _ _ _ _ HX4.out.dead) ?_
      rintro e w5 ⟨rfl, h5⟩
      have HX5 : Hid _ := HX4.out.later h5
      clear hci hcn hcb hck HX4 h5
      have hci := HX5.out.ci
      have hcn := HX5.out.cn
      have hcb := HX5.out.cb
      have hck := HX5.out.ck
      go_wp2_with fail
      refine Calls.mono (n_grow _ _ _ HX5.out.dead) ?_
      rintro e w6 ⟨rfl, h6⟩
      have HX6 : Hid _ := HX5.out.later h6
      clear hci hcn hcb hck HX5 h6
      have hci := HX6.out.ci
      have hcn := HX6.out.cn
      have hcb := HX6.out.cb
      have hck := HX6.out.ck
      go_wp2_with fail
      refine Calls.mono (n_arm _ _ _ HX6.out.dead) ?_
      rintro e w7 ⟨rfl, h7⟩
      have HX7 : Hid _ := HX6.out.later h7
      clear hci hcn hcb hck HX6 h7
      have hci := HX7.out.ci
      have hcn := HX7.out.cn
      have hcb := HX7.out.cb
      have hck := HX7.out.ck
      go_wp2_with fail
      refine Calls.mono (n_crash _ _ _ _ _ HX7.out.dead) ?_
      rintro e w8 ⟨rfl, h8⟩
      have HX8 : Hid _ := HX7.out.later h8
      clear hci hcn hcb hck HX7 h8
      have hci := HX8.out.ci
      have hcn := HX8.out.cn
      have hcb := HX8.out.cb
      have hck := HX8.out.ck
      go_wp2_with fail
      refine Calls.mono (n_files _ _ HX8.out.dead) ?_
      rintro e w9 ⟨rfl, h9⟩
      have HX9 : Hid _ := HX8.out.later h9
      clear hci hcn hcb hck HX8 h9
      have hci := HX9.out.ci
      have hcn := HX9.out.cn
      have hcb := HX9.out.cb
      have hck := HX9.out.ck
      go_wp2_with fail
      refine Calls.mono (n_read _ _ _ HX9.out.dead) ?_
      rintro e w10 ⟨rfl, h10⟩
      have HX10 : Hid _ := HX9.out.later h10
      clear hci hcn hcb hck HX9 h10
      have hci := HX10.out.ci
      have hcn := HX10.out.cn
      have hcb := HX10.out.cb
      have hck := HX10.out.ck
      go_wp2_with fail
      refine Calls.mono (n_synced _ _ _ HX10.out.dead) ?_
      rintro e w11 ⟨rfl, h11⟩
      have HX11 : Hid _ := HX10.out.later h11
      clear hci hcn hcb hck HX10 h11
      have hci := HX11.out.ci
      have hcn := HX11.out.cn
      have hcb := HX11.out.cb
      have hck := HX11.out.ck
      go_wp2_with fail
      refine Calls.mono (n_room _ _ HX11.out.dead) ?_
      rintro e w12 ⟨rfl, h12⟩
      have HX12 : Hid _ := HX11.out.later h12
      clear hci hcn hcb hck HX11 h12
      have hci := HX12.out.ci
      have hcn := HX12.out.cn
      have hcb := HX12.out.cb
      have hck := HX12.out.ck
      go_wp2_with fail
      refine Calls.mono (n_down _ _ HX12.out.dead) ?_
      rintro e w13 ⟨rfl, h13⟩
      have HX13 : Hid _ := HX12.out.later h13
      clear hci hcn hcb hck HX12 h13
      have hci := HX13.out.ci
      have hcn := HX13.out.cn
      have hcb := HX13.out.cb
      have hck := HX13.out.ck
      go_wp2_with fail
      refine Calls.mono (n_copy _ _ HX13.out.dead) ?_
      rintro e w14 ⟨rfl, h14⟩
      have HX14 : Hid _ := HX13.out.later h14
      clear hci hcn hcb hck HX13 h14
      have HL : Hid _ := lives_any w14
      go_wp2_with fail
      refine Calls.mono HL.out ?_
      rintro e w15 ⟨rfl, h15⟩
      go_wp2_with fail
      go_ret
      exact ⟨rfl, (HX14.out.later h15).bel⟩

open Go.ChangeShapes Go.WideShapes Go.ChangeAt

theorem own : ownKnob Try.prog.godebug = none := by kernel_rfl
theorem laidOut : laidOutB Try.prog = true := by kernel_rfl

set_option maxRecDepth 100000 in
theorem lifted (os : Os) (started : os.Started) (H : Type) (enc : TypeId × Value → H) :
    ReturnsInHanded {} Try.checked os 7 .any (Rows.diskNilSpec.pre6 enc Try.prog Try.f7 Rows.diskNilRow.domain false) (Rows.diskNilSpec.post enc Try.prog Try.f7 false true false false) := by
  refine returnsInHanded_of_change (C := Try.checked) own started (by kernel_rfl) Try.func7
    (ChangeSpec.witness6 (enc := enc) (C := Try.checked) false ⟨#[], #[.agg #[.int .i64 0, .int .i64 0, .int .i64 0, .slice none 0 0, .slice none 0 0], .bool false], []⟩ 8 (by kernel_rfl) (by kernel_rfl) (by kernel_rfl) (by kernel_rfl)) ?_
  intro W base args ds gs before hval0 hW hcnd _
  have hval : ∀ (j : Nat) t v, Try.f7.params[j]? = some t → args[j]? = some v → Value.okWide Try.prog W .any base t v := hval0
  have hW' := hW
  obtain ⟨p, q, hA0, hV, rfl, hfz, hnd⟩ := hW
  have hA : DataW.TrodAll enc Try.prog W 0 (fun _ => true) true Try.f7.params.toList args.toList ds p := hA0
  rw [Try.params7] at hA hval
  obtain ⟨v0, vs0, d0, ds0, p0, q0, hargs, rfl, rfl, h0, r0⟩ := trodAll_cons hA
  obtain ⟨v1, vs1, d1, ds1, p1, q1, rfl, rfl, rfl, h1, r1⟩ := trodAll_cons r0
  obtain ⟨rfl, rfl, rfl⟩ := trodAll_nil r1
  obtain rfl : args = #[v0, v1] := by cases args; simp_all
  obtain ⟨rfl, rfl⟩ := trodVars_none hV
  obtain ⟨a1, rfl, rfl, rfl⟩ := open_bool Try.underlying4 (hval 1 4 v1 rfl rfl) h1
  have k0 := h0
  have lt0 : ∀ x ∈ p0, x.block < W.heap.size := by obtain ⟨m, hm⟩ := k0; exact DataW.trod_lt m _ _ _ hm
  obtain ⟨cs0, rfl, _⟩ := okWide_struct Try.underlying36 (hval 0 36 v0 rfl rfl)
  obtain ⟨z0, b0, k0v, hcs0, w0, u0, y0⟩ : ∃ (z : Ac) (bv kv : Value), cs0 = #[.int .i64 z.kind, .int .i64 z.i, .int .i64 z.n, bv, kv] ∧ RB W bv z.b ∧ RI W kv z.keep ∧ z.n ≤ 9223372036854775807 := by
    obtain ⟨fuel, hf⟩ := h0
    obtain ⟨z, bv, kv, hv, q1, q2, q3⟩ := open_act hf
    refine ⟨z, bv, kv, ?_, q1, q2, q3⟩
    have : cs0.toList = _ := hv
    rw [← this]
  subst hcs0
  clear hA0 hval0
  refine (walk z0 b0 k0v a1 W w0 u0 y0 ).mono fun e W' ⟨he, bel⟩ => ?_
  subst he
  exact ⟨_, rfl, _, _, _, [], _, [], hW', trodAll_mk1 (shut_bool Try.underlying4 _), (trodAll_cons_mk (Below.trod laidOut (by kernel_rfl) (of_decide_eq_true (by kernel_rfl)) k0 bel lt0) (trodAll_cons_mk (shut_bool Try.underlying4 _) trodAll_mk0)), rfl, bel.frame _, fun h => by cases h⟩

theorem over : Rows.diskNilRow.holds Try.pinned (OpenSpec.ofChange Rows.diskNilSpec) :=
  OpenClaim.holds_of_wide 7 Try.f7 rfl rfl rfl rfl rfl rfl rfl ⟨rfl, rfl, rfl, rfl, rfl⟩ rfl rfl rfl rfl rfl (by kernel_rfl) Try.func7 (by kernel_rfl)
    (of_decide_eq_true (by kernel_rfl)) (by unfold Func.isWrapper; first | (rw [if_pos (by decide +kernel)]; kernel_rfl) | (rw [if_neg (by decide +kernel)]; exact ⟨rfl, rfl⟩))
    (fun os started H enc _ => lifted os started H enc)
end Go.Proofs.Ytbbmbjlpccdclaa.diskNil
namespace Go.Proofs.Ytbbmbjlpccdclaa

theorem diskNil_holds : Rows.DiskNilSaid := diskNil.over
#print axioms diskNil_holds
end Go.Proofs.Ytbbmbjlpccdclaa
