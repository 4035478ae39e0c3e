/- The walks over Join. -/
import Derived.Test.YtjpeefibdpjfaabSd
namespace Go.Proofs.Ytjpeefibdpjfaab
open Go.RowKit Go.Shelf
set_option linter.unusedVariables false
attribute [local go_sem] Oper.semAt_some

/-- The greater of two counts; the join. -/
def mxI (x y : Int) : Int := if x < y then y else x
def mx3 (x : Nat × Int × Int) : Int := mxI x.2.1 x.2.2
def joinL (a b : List Int) : List Int := (upto (pf a b) (max a.length b.length)).map mx3

theorem join_len (a b : List Int) : (joinL a b).length = max a.length b.length := by simp [joinL, upto]

/-- What a list is, as a value. -/
def ListV (l : List Int) (B : Nat) (w : World) (e : Ending) (w' : World) : Prop :=
  ∃ v c, e = .returned (.slice v l.length c) ∧ RI w' (.slice v l.length c) l ∧ Below B w w'

set_option maxRecDepth 1000000 in
set_option maxHeartbeats 4000000 in
theorem join_any (va vb : Value) (la lb : List Int) (w : World) (ha : RI w va la) (hb : RI w vb lb) (hla : la.length ≤ 1000000) (hlb : lb.length ≤ 1000000) :
    Calls Try.prog 12 #[va, vb] w fun e w' => ListV (joinL la lb) w.heap.size w e w' := by
  have HRa : Hid (RI w va la) := ha
  have HRb : Hid (RI w vb lb) := hb
  obtain ⟨aa, ca, rfl, _, _, _⟩ := ha
  obtain ⟨ab, cb, rfl, _, _, _⟩ := hb
  have HST : Hid (∀ (W0 : World) (A B : Nat), Below w.heap.size w W0 → Boxed W0 A 23 _ → Boxed W0 B 23 _ → _) := fun W0 A B h1 h2 h3 => pairs_stops 4 (by omega) A B w W0 _ _ la lb HRa.out HRb.out hla hlb h1 h2 h3
  obtain ⟨J, HJ⟩ : ∃ J, Hid (J = joinL la lb) := ⟨_, rfl⟩
  rw [← HJ.out]
  obtain ⟨i0, hi, hz0, hz1, hz2⟩ := info_parts Try.info3
  generalize hna : la.length = na at *
  generalize hnb : lb.length = nb at *
  have HNm : Hid (max la.length lb.length = max na nb) := by show _ = _; rw [hna, hnb]
  have hmx : max na nb ≤ 1000000 := by omega
  clear hna hnb
  rename_i q1 q2 q3 q4 q5 q6
  clear q1 q2 q3 q4 q5 q6 hla hlb HRa HRb
  refine (callsIn_wide (n := 5)).1 ?_
  refine callsIn_of_wp_marks Try.func12 rfl trivial ?_ rfl
  simp only [Try.ntmps12, List.size_toArray, List.length_cons, List.length_nil, Nat.reduceAdd, Nat.reduceSub, Array.replicate_succ, Array.replicate_zero, List.push_toArray, List.append_toArray, List.nil_append, List.cons_append]
  gi_wp2_with (refine ⟨trivial, ?_⟩; gi_at_call 20; refine (callsIn_wide.2 (pairs_any _ _ _ _ _ _ _)).mono ?_; rintro e w' ⟨rfl, rfl⟩)
  have bL := ((Boxed.new w 23 (.slice none 0 0)).alloc (.cells #[.slice aa na ca] 23)).alloc (.cells #[.slice ab nb cb] 23)
  have bA := (Boxed.new (w.alloc (.cells #[.slice none 0 0] 23)) 23 (.slice aa na ca)).alloc (.cells #[.slice ab nb cb] 23)
  have bB := Boxed.new ((w.alloc (.cells #[.slice none 0 0] 23)).alloc (.cells #[.slice aa na ca] 23)) 23 (.slice ab nb cb)
  simp only [World.size_alloc] at bA bB
  have hB0 : Below w.heap.size w (((w.alloc (.cells #[.slice none 0 0] 23)).alloc (.cells #[.slice aa na ca] 23)).alloc (.cells #[.slice ab nb cb] 23)) := (((Below.refl _ w).alloc (Nat.le_refl _) _).alloc (by simp) _).alloc (by simp; omega) _
  have hsz : (((w.alloc (.cells #[.slice none 0 0] 23)).alloc (.cells #[.slice aa na ca] 23)).alloc (.cells #[.slice ab nb cb] 23)).heap.size = w.heap.size + 3 := by simp
  obtain ⟨W0, hW0⟩ : ∃ W0, ((w.alloc (.cells #[.slice none 0 0] 23)).alloc (.cells #[.slice aa na ca] 23)).alloc (.cells #[.slice ab nb cb] 23) = W0 := ⟨_, rfl⟩
  rw [hW0] at bL bA bB hB0 hsz ⊢
  clear hW0
  refine wpIn_rangeFunc_ownH (n := 5) (F := Fence.wide) rfl (by omega) (gf := 27) (lb := #[.pointer (some ⟨w.heap.size + 1, 0, none⟩), .pointer (some ⟨w.heap.size + 1 + 1, 0, none⟩)]) rfl trivial (enters_of Try.func27 (by kernel_rfl) rfl)
    (HST.out W0 _ _ hB0 bA bB) (fun h k => h.trans k) (Kq.put (w := W0) (by omega) (by omega) (by omega)) (Below.refl _ _) (fun _ => rfl)
    (fun pre W => (∃ v, Boxed W w.heap.size 23 v ∧ W.ownsRow w.heap.size 3 1 v pre.length (ivs (pre.map mx3)) ∧ True) ∧ Below w.heap.size w W)
    (fun _ _ _ => False)
    (OwnFrom.and (Own.from (holdsRow_own w.heap.size w.heap.size 23 3 1 (fun pre : List (Nat × Int × Int) => pre.length) (fun pre => ivs (pre.map mx3)) (fun _ _ => True)) _) (ownFrom_below (Nat.le_refl _) (by omega)))
    (fun _ _ _ _ _ hs _ _ => hs)
    ⟨⟨_, bL, World.ownsRow_nil _ _ _ _, trivial⟩, hB0⟩
    (fun x a' W => ∃ Bx, w.heap.size < Bx ∧ Trio W Bx x ∧ a' = { tmps := #[.slice aa na ca, .slice ab nb cb, undef, undef, .slice none 0 0, .pointer (some ⟨w.heap.size, 0, none⟩), .pointer (some ⟨Bx, 0, none⟩), .slice aa na ca, .slice ab nb cb, .func (.func 27) #[] #[.pointer (some ⟨w.heap.size + 1, 0, none⟩), .pointer (some ⟨w.heap.size + 1 + 1, 0, none⟩)], .agg #[.int .i64 (x.1 : Int), .int .i64 x.2.1, .int .i64 x.2.2], undef, undef, undef, undef, undef, undef, undef, undef, undef], defers := [] })
    (fun x a' _ X Y row hs hg hr => by obtain ⟨Bx, h1, h2, h3⟩ := hs; exact ⟨Bx, h1, h2.kept hg (fun r e => (hr r e).2), h3⟩)
    ?assign ?body ?done ?stop
  case assign =>
    rintro l pre x W K ⟨⟨v, bL1, hrow, _⟩, hB1⟩ hK
    unfold encP
    gi_wp2
    exact hK _ _ ((KeepsOthers.alloc _ _).from _) (Kq.alloc _ _ hB1.size) ⟨⟨v, bL1.alloc _, hrow.alloc _, trivial⟩, hB1.alloc hB1.size _⟩ ⟨W.heap.size, bL1.lt, Trio.new W x, rfl⟩
  case body =>
    rintro l pre x a' W hl ⟨r, hr⟩ ⟨⟨v, hv, hrow, _⟩, hB1⟩ ⟨Bx, hBx, bX, rfl⟩ hlt
    have cL := hv.cell
    have cX0 := (cell_row bX 0).trans rfl
    have cX1 := (cell_row bX 1).trans rfl
    have cX2 := (cell_row bX 2).trans rfl
    have hBs := hB1.size
    have HMS : Hid (∀ z, z = mx3 x → ivs ((pre ++ [x]).map mx3) = ivs (pre.map mx3) ++ [.int .i64 z]) := by rintro z rfl; show _ = _; simp [ivs]
    have HMX : Hid (mx3 x = if x.2.1 < x.2.2 then x.2.2 else x.2.1) := rfl
    obtain ⟨va0, na0, ca0, rfl⟩ : ∃ g n c, v = .slice g n c := by
      rcases hrow.2 with ⟨rfl, _⟩ | ⟨g, cap, cur, rfl, _⟩
      · exact ⟨_, _, _, rfl⟩
      · exact ⟨_, _, _, rfl⟩
    obtain ⟨x0, p, q⟩ := x
    dsimp only at *
    by_cases hpq : p < q
    · have hz : mx3 (x0, p, q) = q := by show mxI p q = _; unfold mxI; rw [if_pos hpq]
      have HM2 : Hid _ := HMS.out _ hz.symm
      have hle : pre.length + 1 ≤ 1000000 := by omega
      clear HMS HMX hz
      gi_wp2_with (gi_at_builtin; refine wpListIn_append_own _ rfl _ _ 23 rfl w.heap.size 3 i0 (.int .i64 0) 1 8 Try.underlying23 hi hz0 hz1 hz2 rfl (by decide) _ _ _ rfl (hrow.alloc _) ⟨W.heap.size, 0, none⟩ 1 1 [.int .i64 q] rfl rfl (cell_one_new _ _ _) (by simp [Value.oneCell']) (by unfold maxLen; omega) (by omega) (by simp; omega) ?_; intro v' w1 hown' hgrow _; obtain ⟨g', cap', rfl⟩ := ownsRow_succ hown'; obtain ⟨hv1, hv2, hr2, hk2, hb2⟩ := hv.appended (by decide) hrow hBs (Nat.le_refl _) hown' hgrow; have hc1 := hv1.cell; have hf1 := hv1.frozen)
      have hnr : ∀ {A : Nat} {u : Value}, A ≠ w.heap.size → Boxed W A 23 u → Boxed (w1.setCell ⟨w.heap.size, 0, none⟩ (.slice (some ⟨g', 0, none⟩) (pre.length + 1) cap')) A 23 u := fun hA hbx =>
        (((hbx.alloc _).kept hgrow (hbx.not_row (by decide) hrow))).kept (grownBy_setCell' w1 w.heap.size _) (by simpa using hA)
      refine ⟨hk2.from _, ⟨hb2, hnr (by omega), hnr (by omega)⟩, ⟨_, hv2, ?_⟩, hB1.trans hb2⟩
      rw [HM2.out, List.length_append]
      first
        | exact hr2
        | exact ⟨hr2, trivial⟩
    · have hz : mx3 (x0, p, q) = p := by show mxI p q = _; unfold mxI; rw [if_neg hpq]
      have HM2 : Hid _ := HMS.out _ hz.symm
      have hle : pre.length + 1 ≤ 1000000 := by omega
      clear HMS HMX hz
      gi_wp2_with (gi_at_builtin; refine wpListIn_append_own _ rfl _ _ 23 rfl w.heap.size 3 i0 (.int .i64 0) 1 8 Try.underlying23 hi hz0 hz1 hz2 rfl (by decide) _ _ _ rfl (hrow.alloc _) ⟨W.heap.size, 0, none⟩ 1 1 [.int .i64 p] rfl rfl (cell_one_new _ _ _) (by simp [Value.oneCell']) (by unfold maxLen; omega) (by omega) (by simp; omega) ?_; intro v' w1 hown' hgrow _; obtain ⟨g', cap', rfl⟩ := ownsRow_succ hown'; obtain ⟨hv1, hv2, hr2, hk2, hb2⟩ := hv.appended (by decide) hrow hBs (Nat.le_refl _) hown' hgrow; have hc1 := hv1.cell; have hf1 := hv1.frozen)
      have hnr : ∀ {A : Nat} {u : Value}, A ≠ w.heap.size → Boxed W A 23 u → Boxed (w1.setCell ⟨w.heap.size, 0, none⟩ (.slice (some ⟨g', 0, none⟩) (pre.length + 1) cap')) A 23 u := fun hA hbx =>
        (((hbx.alloc _).kept hgrow (hbx.not_row (by decide) hrow))).kept (grownBy_setCell' w1 w.heap.size _) (by simpa using hA)
      refine ⟨hk2.from _, ⟨hb2, hnr (by omega), hnr (by omega)⟩, ⟨_, hv2, ?_⟩, hB1.trans hb2⟩
      rw [HM2.out, List.length_append]
      first
        | exact hr2
        | exact ⟨hr2, trivial⟩
  case done =>
    rintro D ys W hD rfl ⟨⟨v, hv, hrow, _⟩, hB1⟩ hK
    have cL := hv.cell
    have ho2 := ownsRow_putObj hrow (.deferred none) hK rfl
    have HLn : Hid (((upto (pf la lb) (max na nb)).map mx3) = J) := by show _ = _; rw [HJ.out]; unfold joinL; rw [HNm.out]
    have HJn : Hid (J.length = (upto (pf la lb) (max na nb)).length) := by show _ = _; rw [← HLn.out, List.length_map]
    rw [HLn.out] at ho2
    rw [← HJn.out] at ho2
    obtain ⟨va0, ca0, rfl⟩ : ∃ g c, v = .slice g J.length c := by
      rcases ho2.2 with ⟨rfl, h0⟩ | ⟨g, cap, cur, rfl, _⟩
      · exact ⟨none, 0, by rw [h0]⟩
      · exact ⟨_, _, rfl⟩
    gi_wp2
    refine ⟨by simp, .inl ⟨_, _, rfl, run_takeDeferred hK, ?_⟩⟩
    exact ⟨_, results_tmp rfl _ _ _, _, _, rfl, RI.of_owns ho2 rfl, hB1.trans (belowK_b (w := w) (Nat.le_refl _) W D _ _ (by omega) hK rfl rfl)⟩
  case stop =>
    rintro D c pre W _ _ h _
    exact h.elim
end Go.Proofs.Ytjpeefibdpjfaab
