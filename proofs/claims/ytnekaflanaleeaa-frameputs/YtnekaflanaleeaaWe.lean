/- The walk over frame.Take. -/
import Derived.Test.YtnekaflanaleeaaWd
namespace Go.Proofs.Ytnekaflanaleeaa
set_option linter.unusedVariables false
open Go.RowKit

theorem slice_from {w : World} {a : Option Addr} {n ca : Nat} {l : List UInt8} (h : RB w (.slice a n ca) l) (p : Nat) (hp : p ≤ l.length) :
    ∃ V, RB w V (l.drop p) ∧ ∀ wx : World, (Instr.sliceAt 22 (.slice a n ca) (some (.int .i64 p)) none none).run Try.prog wx = .ok V wx := by
  have h0 := h
  obtain ⟨a', ca', he, h1, _, _⟩ := h0
  simp only [Value.slice.injEq] at he
  obtain ⟨rfl, rfl, rfl⟩ := he
  have hs := h.sub p l.length ca hp (Nat.le_refl _) h1 (Nat.le_refl _)
  rw [List.take_length] at hs
  refine ⟨_, hs, fun wx => ?_⟩
  rw [run_sliceAt_slice wx 22 _ _ _ _ Try.underlying22, run_slice_l wx 22 a l.length ca Try.underlying22 .i64 p (by omega) (by omega)]
  have : (sizeOf (Try.prog.elem 22)).run Try.prog wx = .ok 1 wx := by kernel_rfl
  rw [this]
  simp

theorem slice_mid {w : World} {a : Option Addr} {n ca : Nat} {l : List UInt8} (h : RB w (.slice a n ca) l) (lo hi : Nat) (h1 : lo ≤ hi) (h2 : hi ≤ l.length) (e : Int) (he : e = hi) :
    ∃ V, RB w V ((l.take hi).drop lo) ∧ ∀ wx : World, (Instr.sliceAt 22 (.slice a n ca) (some (.int .i64 lo)) (some (.int .i64 e)) (some (.int .i64 e))).run Try.prog wx = .ok V wx := by
  subst he
  have h0 := h
  obtain ⟨a', ca', he, h3, _, _⟩ := h0
  simp only [Value.slice.injEq] at he
  obtain ⟨rfl, rfl, rfl⟩ := he
  have hs := h.sub lo hi hi h1 h2 (Nat.le_refl _) (by omega)
  refine ⟨_, hs, fun wx => ?_⟩
  rw [run_sliceAt_slice wx 22 _ _ _ _ Try.underlying22, run_slice_lhm wx 22 a l.length ca Try.underlying22 .i64 .i64 .i64 lo hi hi (by omega) (by omega) (by omega) (by omega)]
  have : (sizeOf (Try.prog.elem 22)).run Try.prog wx = .ok 1 wx := by kernel_rfl
  rw [this]
  simp

theorem slice_to {w : World} {a : Option Addr} {n ca : Nat} {l : List UInt8} (h : RB w (.slice a n ca) l) (hi : Nat) (h2 : hi ≤ l.length) (e : Int) (he : e = hi) :
    ∃ V, RB w V (l.take hi) ∧ ∀ wx : World, (Instr.sliceAt 22 (.slice a n ca) none (some (.int .i64 e)) none).run Try.prog wx = .ok V wx := by
  subst he
  have h0 := h
  obtain ⟨a', ca', he, h3, _, _⟩ := h0
  simp only [Value.slice.injEq] at he
  obtain ⟨rfl, rfl, rfl⟩ := he
  have hs := h.sub 0 hi ca (by omega) h2 (by omega) (Nat.le_refl _)
  rw [List.drop_zero] at hs
  refine ⟨_, hs, fun wx => ?_⟩
  rw [run_sliceAt_slice wx 22 _ _ _ _ Try.underlying22, run_slice_h wx 22 a l.length ca Try.underlying22 .i64 hi (by omega) (by omega)]
  have : (sizeOf (Try.prog.elem 22)).run Try.prog wx = .ok 1 wx := by kernel_rfl
  rw [this]
  simp

theorem owns_low {w : World} {B B' : Nat} {e : TypeId} {size : Nat} {v : Value} {n : Nat} {xs : List Value} (h : w.ownsRow B e size v n xs) (hB : B' ≤ B) : w.ownsRow B' e size v n xs := by
  obtain ⟨h1, h2⟩ := h
  refine ⟨h1, ?_⟩
  rcases h2 with h2 | ⟨g, cap, cur, a, b, c⟩
  · exact .inl h2
  · exact .inr ⟨g, cap, cur, a, by omega, c⟩

set_option maxRecDepth 1000000 in
set_option maxHeartbeats 1000000 in
theorem take_out (x : Value) (l : List UInt8) (p : Int) (w : World) (hx : RB w x l) (hp : p < 0 ∨ (l.length : Int) < p) (hl : l.length ≤ 100000) :
    Calls Try.prog 13 #[x, .int .i64 p] w fun e w' => e = .returned (.tuple #[.slice none 0 0, .int .i64 0, .int .i64 2]) ∧ w' = w := by
  obtain ⟨a, ca, rfl, _, _, _, _⟩ := hx
  by_cases h0 : p < 0
  · go_enter Try.func13, Try.ntmps13
    go_wp2_with fail
    go_ret3
    exact ⟨rfl, rfl⟩
  · have h1 : (l.length : Int) < p := by omega
    go_enter Try.func13, Try.ntmps13
    go_wp2_with fail
    go_ret3
    exact ⟨rfl, rfl⟩

set_option maxRecDepth 1000000 in
set_option maxHeartbeats 1000000 in
theorem take_err (x : Value) (l : List UInt8) (p : Nat) (w : World) (hx : RB w x l) (hp : p ≤ l.length) (hl : l.length ≤ 100000) (he : ¬ (measureP (l.drop p)).2 = 0) :
    Calls Try.prog 13 #[x, .int .i64 p] w fun e w' => Below w.heap.size w w' ∧ e = .returned (.tuple #[.slice none 0 0, .int .i64 0, .int .i64 ((measureP (l.drop p)).2 : Nat)]) := by
  obtain ⟨a, ca, rfl, hr⟩ := hx
  obtain ⟨V, hV, hS⟩ := slice_from ⟨a, ca, rfl, hr⟩ p hp
  have HM : Hid (Calls Try.prog 23 #[V] w fun e w' => e = .returned (.tuple #[.int .i64 ((measureP (l.drop p)).1 : Nat), .int .i64 ((measureP (l.drop p)).2 : Nat)]) ∧ Below w.heap.size w w') := measure_any V _ w hV (by rw [List.length_drop]; omega)
  generalize (measureP (l.drop p)).1 = sz at *
  generalize (measureP (l.drop p)).2 = er at *
  clear hr hV
  go_enter Try.func13, Try.ntmps13
  go_wp2_with (first | (go_at_call 23; refine Calls.mono HM.out ?_; rintro e w2 ⟨rfl, hb2⟩))
  go_ret3
  exact ⟨hb2, rfl⟩

theorem measure_ok {l : List UInt8} (h : (measureP l).2 = 0) : 6 ≤ (measureP l).1 ∧ (measureP l).1 ≤ l.length ∧ (measureP l).1 ≤ 1030 := by
  unfold measureP at h ⊢
  by_cases g0 : l.length = 0
  · rw [if_pos g0] at h; simp at h
  · rw [if_neg g0] at h ⊢
    by_cases g1 : l.length < 2
    · rw [if_pos g1] at h; simp at h
    · rw [if_neg g1] at h ⊢
      by_cases g2 : 1024 < num2 l
      · rw [if_pos g2] at h; simp at h
      · rw [if_neg g2] at h ⊢
        by_cases g3 : l.length < num2 l + 6
        · rw [if_pos g3] at h; simp at h
        · rw [if_neg g3]; simp only []; omega

set_option maxRecDepth 1000000 in
set_option maxHeartbeats 1000000 in
theorem take_full (x : Value) (l : List UInt8) (p : Nat) (w : World) (hx : RB w x l) (hp : p ≤ l.length) (hl : l.length ≤ 100000) (he : (measureP (l.drop p)).2 = 0) :
    Calls Try.prog 13 #[x, .int .i64 p] w fun e w' => Below w.heap.size w w' ∧
      ((openP ((l.drop p).take (measureP (l.drop p)).1) = true ∧ ∃ v, e = .returned (.tuple #[v, .int .i64 ((p + (measureP (l.drop p)).1 : Nat) : Int), .int .i64 0]) ∧ w'.ownsRow w.heap.size 5 1 v (((l.drop p).drop 2).take ((measureP (l.drop p)).1 - 6)).length (bvs (((l.drop p).drop 2).take ((measureP (l.drop p)).1 - 6)))) ∨
       (openP ((l.drop p).take (measureP (l.drop p)).1) = false ∧ e = .returned (.tuple #[.slice none 0 0, .int .i64 0, .int .i64 12]))) := by
  obtain ⟨a, ca, rfl, hr⟩ := hx
  have hRB : RB w (.slice a l.length ca) l := ⟨a, ca, rfl, hr⟩
  obtain ⟨V, hV, hS⟩ := slice_from hRB p hp
  have HM : Hid (Calls Try.prog 23 #[V] w fun e w' => e = .returned (.tuple #[.int .i64 ((measureP (l.drop p)).1 : Nat), .int .i64 ((measureP (l.drop p)).2 : Nat)]) ∧ Below w.heap.size w w') := measure_any V _ w hV (by rw [List.length_drop]; omega)
  rw [he] at HM
  obtain ⟨m1, m2, m3⟩ := measure_ok he
  rw [List.length_drop] at m2
  have hmid := slice_mid hRB p (p + (measureP (l.drop p)).1) (by omega) (by omega) ((p : Int) + ((measureP (l.drop p)).1 : Int)) (by omega)
  have hbody : (((l.drop p).take (measureP (l.drop p)).1).take ((measureP (l.drop p)).1 - 4)).drop 2 = ((l.drop p).drop 2).take ((measureP (l.drop p)).1 - 6) := by
    rw [List.take_take, Nat.min_eq_left (by omega), List.drop_take]
    rw [show (measureP (l.drop p)).1 - 4 - 2 = (measureP (l.drop p)).1 - 6 by omega]
  have hfl : ((l.drop p).take (measureP (l.drop p)).1).length = (measureP (l.drop p)).1 - 4 + 4 := by rw [List.length_take, List.length_drop]; omega
  have hbl : (((l.drop p).drop 2).take ((measureP (l.drop p)).1 - 6)).length ≤ 1024 := by rw [List.length_take]; omega
  have hft : (l.take (p + (measureP (l.drop p)).1)).drop p = (l.drop p).take (measureP (l.drop p)).1 := by rw [List.drop_take, show p + (measureP (l.drop p)).1 - p = (measureP (l.drop p)).1 by omega]
  rw [hft] at hmid
  obtain ⟨V2, hV2, hS2⟩ := hmid
  have HO : Hid (∀ wx, Below w.heap.size w wx → Calls Try.prog 24 #[V2] wx fun e w' => Below wx.heap.size wx w' ∧ ((openP ((l.drop p).take (measureP (l.drop p)).1) = true ∧ ∃ v, e = .returned (.tuple #[v, .bool true]) ∧ RB wx v (((l.drop p).drop 2).take ((measureP (l.drop p)).1 - 6))) ∨ (openP ((l.drop p).take (measureP (l.drop p)).1) = false ∧ e = .returned (.tuple #[.slice none 0 0, .bool false])))) := by
    intro wx hb
    have := open_any V2 _ _ wx (hV2.later hb) hfl (by omega) (by omega)
    rw [hbody] at this
    exact this
  clear hft hbody hfl hV hV2 hRB hr he
  generalize ((l.drop p).drop 2).take ((measureP (l.drop p)).1 - 6) = body at *
  generalize openP ((l.drop p).take (measureP (l.drop p)).1) = ok at *
  generalize (measureP (l.drop p)).1 = sz at *
  cases ok with
  | false =>
    have HO2 : Hid (∀ wx, Below w.heap.size w wx → Calls Try.prog 24 #[V2] wx fun e w' => e = .returned (.tuple #[.slice none 0 0, .bool false]) ∧ Below wx.heap.size wx w') := by
      intro wx hb
      refine Calls.mono (HO.out wx hb) ?_
      rintro e w' ⟨h1, h2⟩
      rcases h2 with ⟨h3, _⟩ | ⟨_, h3⟩
      · cases h3
      · exact ⟨h3, h1⟩
    clear HO
    go_enter Try.func13, Try.ntmps13
    go_wp2_with (first
      | (go_at_call 23; refine Calls.mono HM.out ?_; rintro e w2 ⟨rfl, hb2⟩; have HB2 : Hid (Below w.heap.size w w2) := hb2; clear hb2)
      | (go_at_call 24; refine Calls.mono (HO2.out w2 HB2.out) ?_; rintro e w3 ⟨rfl, hb3⟩; have HB3 : Hid (Below w2.heap.size w2 w3) := hb3; clear hb3))
    go_ret3
    exact ⟨HB2.out.trans (HB3.out.mono HB2.out.size), .inr ⟨by trivial, rfl⟩⟩
  | true =>
    have HO2 : Hid (∀ wx, Below w.heap.size w wx → Calls Try.prog 24 #[V2] wx fun e w' => ∃ v, e = .returned (.tuple #[v, .bool true]) ∧ RB wx v body ∧ Below wx.heap.size wx w') := by
      intro wx hb
      refine Calls.mono (HO.out wx hb) ?_
      rintro e w' ⟨h1, h2⟩
      rcases h2 with ⟨_, v, h3, h4⟩ | ⟨h3, _⟩
      · exact ⟨v, h3, h4, h1⟩
      · cases h3
    clear HO
    go_enter Try.func13, Try.ntmps13
    go_wp2_with (first
      | (go_at_call 23; refine Calls.mono HM.out ?_; rintro e w2 ⟨rfl, hb2⟩; have HB2 : Hid (Below w.heap.size w w2) := hb2; clear hb2)
      | (go_at_call 24; refine Calls.mono (HO2.out w2 HB2.out) ?_; rintro e w3 ⟨v, rfl, hv, hb3⟩; have HB3 : Hid (Below w2.heap.size w2 w3) := hb3; have HV3 : Hid (RB w2 v body) := hv; clear hb3 hv)
      | (go_at_call 25; refine Calls.mono (clone_any v body w3 (HV3.out.later HB3.out) (by omega)) ?_; rintro e w4 ⟨v4, rfl, ho4, hb4⟩; have HB4 : Hid (Below w3.heap.size w3 w4) := hb4; have HO4 : Hid (w4.ownsRow w3.heap.size 5 1 v4 body.length (bvs body)) := ho4; clear hb4 ho4))
    go_ret3
    have hb3 := HB2.out.trans (HB3.out.mono HB2.out.size)
    exact ⟨hb3.trans (HB4.out.mono hb3.size), .inl ⟨by trivial, _, rfl, owns_low HO4.out hb3.size⟩⟩

/-- Take, at any place that is there. -/
theorem take_any (x : Value) (l : List UInt8) (p : Nat) (w : World) (hx : RB w x l) (hp : p ≤ l.length) (hl : l.length ≤ 100000) :
    Calls Try.prog 13 #[x, .int .i64 p] w fun e w' => Below w.heap.size w w' ∧ ∃ v, e = .returned (.tuple #[v, .int .i64 ((takeP l p).2.1 : Nat), .int .i64 ((takeP l p).2.2 : Nat)]) ∧ w'.ownsRow w.heap.size 5 1 v (takeP l p).1.length (bvs (takeP l p).1) := by
  by_cases he : (measureP (l.drop p)).2 = 0
  · refine Calls.mono (take_full x l p w hx hp hl he) ?_
    rintro e w' ⟨h1, h2⟩
    refine ⟨h1, ?_⟩
    unfold takeP
    rw [if_pos he]
    rcases h2 with ⟨h3, v, h4, h5⟩ | ⟨h3, h4⟩
    · rw [if_pos h3]
      exact ⟨v, h4, h5⟩
    · rw [if_neg (by rw [h3]; decide)]
      exact ⟨_, h4, World.ownsRow_nil _ _ _ _⟩
  · refine Calls.mono (take_err x l p w hx hp hl he) ?_
    rintro e w' ⟨h1, h2⟩
    refine ⟨h1, ?_⟩
    unfold takeP
    rw [if_neg he]
    exact ⟨_, h2, World.ownsRow_nil _ _ _ _⟩
end Go.Proofs.Ytnekaflanaleeaa
