/- slices.Reverse of effects. -/
import Derived.Test.YthkndkbffiaknaaRf
namespace Go.Proofs.Ythkndkbffiaknaa.Tz
open Go.RowKit Go.Shelf Go.Proofs.Ythkndkbffiaknaa
set_option maxRecDepth 1000000
set_option linter.unusedVariables false

theorem OwE.ec {w : World} {g n c : Nat} {L : List Ef} (h : OwE w (.slice (some ⟨g, 0, none⟩) n c) L) {i : Nat} (hi : i < L.length) : EC w g (i * 4) (L.getD i default) ∧ ∀ j, w.frozen? ⟨g, j, none⟩ = false := by
  rcases h with ⟨e, _⟩ | ⟨g', cap', cur, e, h1, h2, h3, h4, h5⟩
  · cases e
  · simp only [Value.slice.injEq, Option.some.injEq, Addr.mk.injEq] at e
    obtain ⟨⟨rfl, _, _⟩, _, _⟩ := e
    have hg : L[i]? = some (L.getD i default) := by simp [List.getD, hi]
    exact ⟨EC.of fun j hj => by rw [cell_row h3]; exact h5 i _ hg j hj, fun j => froz_row h3 _⟩
theorem OwE.set {w : World} {g n c : Nat} {C : List Ef} (h : OwE w (.slice (some ⟨g, 0, none⟩) n c) C) {i : Nat} (hi : i < C.length) (p : Ef) : OwE (set4 w g (i * 4) p) (.slice (some ⟨g, 0, none⟩) n c) (C.set i p) := by
  rcases h with ⟨e, _⟩ | ⟨g', cap', cur, e, h1, h2, h3, h4, h5⟩
  · cases e
  · simp only [Value.slice.injEq, Option.some.injEq, Addr.mk.injEq] at e
    obtain ⟨⟨rfl, _, _⟩, rfl, rfl⟩ := e
    obtain ⟨cur', k1, k2, k3, k4⟩ := set4_row (o := i * 4) h3 p
    refine .inr ⟨g, c, cur', by rw [List.length_set], by rw [List.length_set]; exact h1, h2, k1, by rw [k2]; exact h4, fun j q hq jj hjj => ?_⟩
    have hj := (List.getElem?_eq_some_iff.1 hq).1
    rw [List.length_set] at hj
    by_cases hij : i = j
    · subst hij
      rw [List.getElem?_set_self hi] at hq
      cases hq
      exact k3 (by omega) jj hjj
    · rw [List.getElem?_set_ne hij] at hq
      rw [k4 _ (by omega)]
      exact h5 j q hq jj hjj

/-- Turned round from both ends, i of each. -/
def RvI (L M : List Ef) (i : Nat) : Prop := M.length = L.length ∧ ∀ t, t < L.length → M.getD t default = if t < i ∨ L.length - i ≤ t then L.getD (L.length - 1 - t) default else L.getD t default
theorem rv_step {L M : List Ef} {i : Nat} (h : RvI L M i) (hi : i < L.length - 1 - i) : RvI L ((M.set i (M.getD (L.length - 1 - i) default)).set (L.length - 1 - i) (M.getD i default)) (i + 1) := by
  obtain ⟨h1, h2⟩ := h
  refine ⟨by simp [h1], fun t ht => ?_⟩
  have e1 := h2 i (by omega)
  have e2 := h2 (L.length - 1 - i) (by omega)
  rw [if_neg (by omega)] at e1 e2
  rw [List.getD_eq_getElem?_getD, List.getElem?_set, List.getElem?_set]
  by_cases q1 : L.length - 1 - i = t
  · subst q1
    rw [if_pos rfl, if_pos (by simp [h1]; omega), e1, if_pos (by omega)]
    simp [show L.length - 1 - (L.length - 1 - i) = i by omega]
  · rw [if_neg q1]
    by_cases q2 : i = t
    · subst q2
      rw [if_pos rfl, if_pos (by omega), e2, if_pos (by omega)]
      rfl
    · rw [if_neg q2, ← List.getD_eq_getElem?_getD, h2 t ht]
      by_cases q3 : t < i ∨ L.length - i ≤ t
      · rw [if_pos q3, if_pos (by omega)]
      · rw [if_neg q3, if_neg (by omega)]
theorem rv_end {L M : List Ef} {i : Nat} (h : RvI L M i) (hi : ¬ (i : Int) < (L.length : Int) - 1 - i) (h2 : 2 * i ≤ L.length) : M = L.reverse := by
  obtain ⟨h1, h3⟩ := h
  refine List.ext_getElem? fun t => ?_
  by_cases ht : t < L.length
  · have e := h3 t ht
    rw [List.getElem?_reverse ht]
    have e1 : M[t]? = some (M.getD t default) := by simp [List.getD, h1, ht]
    have e2 : L[L.length - 1 - t]? = some (L.getD (L.length - 1 - t) default) := by simp [List.getD, show L.length - 1 - t < L.length by omega]
    rw [e1, e2, e]
    by_cases q : t < i ∨ L.length - i ≤ t
    · rw [if_pos q]
    · rw [if_neg q, show L.length - 1 - t = t by omega]
  · rw [List.getElem?_eq_none (by omega), List.getElem?_eq_none (by simp; omega)]
theorem rv_start (L : List Ef) : RvI L L 0 := ⟨rfl, fun t ht => by rw [if_neg (by omega)]⟩

theorem grown_refl (w : World) (row : Option Nat) : w.grownBy w row := ⟨rfl, rfl, rfl, Nat.le_refl _, fun _ _ _ => rfl⟩

set_option maxHeartbeats 8000000 in
theorem reverse_any (L : List Ef) (v : Value) (w : World) (h : OwE w v L) (hl : L.length ≤ 1000000) :
    Calls Try.prog 24 #[v] w fun e w' => e = .returned (.tuple #[]) ∧ OwE w' v L.reverse ∧ w.grownBy w' v.ownBlock := by
  rcases id h with ⟨rfl, rfl⟩ | ⟨g, c, cur, rfl, h1, h2, _⟩
  · clear hl
    go_enter Try.func24, Try.ntmps24
    go_wp2_with fail
    go_loopw [2, 3] (fun s2 s3 wr => s2 = .int .i64 0 ∧ s3 = .int .i64 (-1) ∧ wr = w) (fun _ _ _ => 0)
    case atStart => exact ⟨rfl, rfl, rfl⟩
    obtain ⟨rfl, rfl, rfl⟩ := hrel
    go_wp2_with fail
    refine bodyPost_end (results_none9 rfl _ _) rfl ?_
    exact ⟨rfl, h, grown_refl _ _⟩
  · obtain ⟨n, hn⟩ : ∃ n, L.length = n := ⟨_, rfl⟩
    have HN : Hid (L.length = n) := hn
    have H0 : Hid (OwE w (.slice (some ⟨g, 0, none⟩) n c) L) := by rw [← hn]; exact h
    rw [hn] at hl ⊢
    clear h h1 h2 hn
    go_enter Try.func24, Try.ntmps24
    go_wp2_with fail
    go_loopw [2, 3] (fun s2 s3 wr => ∃ (i : Nat) (j : Int) (M : List Ef), s2 = .int .i64 i ∧ s3 = .int .i64 j ∧ j = (n : Int) - 1 - i ∧ 2 * i ≤ n ∧ Hid (OwE wr (.slice (some ⟨g, 0, none⟩) n c) M) ∧ Hid (RvI L M i) ∧ Hid (w.grownBy wr (some g))) (fun s2 _ _ => n - (intOf s2).toNat)
    case atStart => exact ⟨0, _, L, rfl, rfl, by simp <;> omega, by omega, H0, rv_start L, grown_refl _ _⟩
    case round =>
      obtain ⟨i, j, M, rfl, rfl, hj, hi2, HM, HR, HG⟩ := hrel
      rename World => wr
      by_cases hlt : (i : Int) < j
      · obtain ⟨x, hx⟩ : ∃ x : Nat, x = n - 1 - i := ⟨_, rfl⟩
        obtain rfl : j = (x : Int) := by omega
        have HJ : Hid ((x : Int) = (n : Int) - 1 - i) := hj
        have hin : (i : Int) < (n : Int) := by omega
        have hxn : (x : Int) < (n : Int) := by omega
        obtain ⟨⟨a0, a1, a2, a3⟩, fz⟩ := HM.out.ec (i := i) (by have := HR.out.1; have := HN.out; omega)
        obtain ⟨⟨b0, b1, b2, b3⟩, _⟩ := HM.out.ec (i := x) (by have := HR.out.1; have := HN.out; omega)
        obtain ⟨p, hp⟩ : ∃ p, M.getD i default = p := ⟨_, rfl⟩
        obtain ⟨q, hq⟩ : ∃ q, M.getD x default = q := ⟨_, rfl⟩
        have HP : Hid (M.getD i default = p ∧ M.getD x default = q) := ⟨hp, hq⟩
        rw [hp] at a0 a1 a2 a3
        rw [hq] at b0 b1 b2 b3
        have HX : Hid (x = n - 1 - i) := hx
        clear hp hq hj hx
        go_wp2_with fail
        go_region
        obtain ⟨wx, hwx⟩ : ∃ wx, set4 (set4 wr g (i * 4) q) g (x * 4) p = wx := ⟨_, rfl⟩
        have HWX : Hid ((((((((wr.setCell ⟨g, i * 4, none⟩ (.int .i64 q.i)).setCell ⟨g, i * 4 + 1, none⟩ (.bool q.u)).setCell ⟨g, i * 4 + 2, none⟩ (.int .i64 q.t)).setCell ⟨g, i * 4 + 3, none⟩ (.bool q.ok)).setCell ⟨g, x * 4, none⟩ (.int .i64 p.i)).setCell ⟨g, x * 4 + 1, none⟩ (.bool p.u)).setCell ⟨g, x * 4 + 2, none⟩ (.int .i64 p.t)).setCell ⟨g, x * 4 + 3, none⟩ (.bool p.ok) = wx) := hwx
        rw [HWX.out]
        have HM2 : Hid (OwE wx.drew (.slice (some ⟨g, 0, none⟩) n c) ((M.set i q).set x p)) := by
          have h1 := (HM.out.set (i := i) (by have := HR.out.1; have := HN.out; omega) q).set (i := x) (by have := HR.out.1; have := HN.out; simp; omega) p
          rw [hwx] at h1
          exact h1.of_block (fun _ _ => rfl)
        have HR2 : Hid (RvI L ((M.set i q).set x p) (i + 1)) := by
          have h1 := rv_step HR.out (by have := HN.out; have := HX.out; omega)
          rw [show L.length - 1 - i = x by have := HN.out; have := HX.out; omega, HP.out.1, HP.out.2] at h1
          exact h1
        have HG2 : Hid (w.grownBy wx.drew (some g)) := by
          have h1 := (set4_kept (fun k => k = g) wr g (i * 4) q rfl).trans (set4_kept (fun k => k = g) (set4 wr g (i * 4) q) g (x * 4) p rfl) (fun _ h _ => h)
          rw [hwx] at h1
          have h2 := HG.out
          exact ⟨h1.os.trans h2.os, h1.tape.trans h2.tape, h1.output.trans h2.output, Nat.le_trans h2.size h1.size, fun k hk hne => (h1.block k (Nat.lt_of_lt_of_le hk h2.size) (fun e => hne (by rw [e]))).trans (h2.block k hk hne)⟩
        clear a0 a1 a2 a3 b0 b1 b2 b3 fz HWX hwx
        go_wp2_with fail
        go_roundw
        case rel =>
          have hJ := HJ.out
          exact ⟨i + 1, (x : Int) - 1, _, by go_num, rfl, by omega, by omega, HM2, HR2, HG2⟩
        case measure => simp [intOf]; omega
      · have HE : Hid (M = L.reverse) := rv_end HR.out (by have := HN.out; omega) (by have := HN.out; omega)
        go_wp2_with fail
        refine bodyPost_end (results_none9 rfl _ _) rfl ?_
        refine ⟨rfl, ?_, HG.out⟩
        rw [← HE.out]
        exact HM.out
end Go.Proofs.Ythkndkbffiaknaa.Tz
