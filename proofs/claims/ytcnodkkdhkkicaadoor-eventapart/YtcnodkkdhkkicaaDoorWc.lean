/- The walk over wire.first: the number at the front of bytes. -/
import Derived.Test.YtcnodkkdhkkicaaDoorWb
import Derived.WalkMore
namespace Go.Proofs.YtcnodkkdhkkicaaDoor
open Go.RowKit
set_option linter.unusedVariables false

theorem longs_step : ∀ (l : List UInt8) (k : Nat), k ≤ longs l → k < l.length → 128 ≤ (l.getD k 0).toNat → k + 1 ≤ longs l
  | [], k, _, h, _ => by simp at h
  | c :: l, 0, _, _, h => by
    have h1 : 128 ≤ c.toNat := h
    rw [longs, if_pos h1]; omega
  | c :: l, k + 1, hk, hl, h => by
    by_cases h1 : 128 ≤ c.toNat
    · rw [longs, if_pos h1] at hk ⊢
      rw [List.getD_cons_succ] at h
      have := longs_step l k (by omega) (by simpa using hl) h
      omega
    · rw [longs, if_neg h1] at hk; omega

theorem longs_stop : ∀ (l : List UInt8) (k : Nat), k ≤ longs l → k < l.length → (l.getD k 0).toNat < 128 → longs l = k
  | [], k, _, h, _ => by simp at h
  | c :: l, 0, _, _, h => by
    have h1 : ¬ 128 ≤ c.toNat := by have : c.toNat < 128 := h; omega
    rw [longs, if_neg h1]
  | c :: l, k + 1, hk, hl, h => by
    by_cases h1 : 128 ≤ c.toNat
    · rw [longs, if_pos h1] at hk ⊢
      rw [List.getD_cons_succ] at h
      have := longs_stop l k (by omega) (by simpa using hl) h
      omega
    · rw [longs, if_neg h1] at hk; omega

theorem val_take : ∀ (l : List UInt8) (k : Nat), k < l.length → val (l.take (k + 1)) = val (l.take k) + (l.getD k 0).toNat % 128 * 128 ^ k
  | [], k, h => by simp at h
  | c :: l, 0, _ => by
    show c.toNat % 128 + 128 * val (l.take 0) = 0 + c.toNat % 128 * 128 ^ 0
    rw [List.take_zero]
    show c.toNat % 128 + 128 * 0 = _
    omega
  | c :: l, k + 1, h => by
    have ih := val_take l k (by simpa using h)
    rw [List.getD_cons_succ, List.take_succ_cons, List.take_succ_cons]
    show c.toNat % 128 + 128 * val (l.take (k + 1)) = c.toNat % 128 + 128 * val (l.take k) + _
    rw [ih, Nat.pow_succ, ← Nat.mul_assoc, Nat.mul_add]
    omega

theorem val_lt : ∀ (l : List UInt8), val l < 128 ^ l.length
  | [] => by simp [val]
  | c :: l => by
    have := val_lt l
    rw [List.length_cons, Nat.pow_succ]
    show c.toNat % 128 + 128 * val l < _
    omega

/-- Six bytes at most: what the loop knows. -/
def Fi (l : List UInt8) (k q : Nat) : Prop := k ≤ longs l ∧ q = val (l.take k) ∧ q < 128 ^ k

theorem Fi.zero (l : List UInt8) : Fi l 0 0 := ⟨Nat.zero_le _, by simp [val], by simp⟩

theorem Fi.next {l : List UInt8} {k q c : Nat} (h : Fi l k q) (hk : k < l.length) (hc : c = (l.getD k 0).toNat) (h8 : 128 ≤ c) : Fi l (k + 1) (q + (c - 128) * 128 ^ k) := by
  obtain ⟨h1, h2, h3⟩ := h
  have hb := b_lt (l.getD k 0)
  subst hc
  have e : (l.getD k 0).toNat % 128 = (l.getD k 0).toNat - 128 := by omega
  have hv := val_take l k hk
  rw [e, ← h2] at hv
  refine ⟨longs_step l k h1 hk h8, hv.symm, ?_⟩
  rw [← hv]
  have := val_lt (l.take (k + 1))
  rw [List.length_take, Nat.min_eq_left (by omega)] at this
  exact this

theorem Fi.six {l : List UInt8} {q : Nat} (h : Fi l 6 q) : numP l = (0, 0, 4) := by
  unfold numP
  rw [if_pos h.1]

theorem Fi.short {l : List UInt8} {k q : Nat} (h : Fi l k q) (hk : k < 6) (hl : k = l.length) : numP l = (0, 0, 3) := by
  have := longs_le l
  have h1 := h.1
  unfold numP
  rw [if_neg (by omega), if_pos (by omega)]

theorem Fi.last {l : List UInt8} {k q c : Nat} (h : Fi l k q) (h6 : k < 6) (hk : k < l.length) (hc : c = (l.getD k 0).toNat) (h8 : c < 128) :
    q + c * 128 ^ k < 128 ^ (k + 1) ∧ numP l = if (c = 0 ∧ 0 < k) ∨ 1099511627776 < q + c * 128 ^ k then (0, 0, 4) else (q + c * 128 ^ k, k + 1, 0) := by
  obtain ⟨h1, h2, h3⟩ := h
  subst hc
  have hL := longs_stop l k h1 hk h8
  have hv := val_take l k hk
  rw [Nat.mod_eq_of_lt h8, ← h2] at hv
  refine ⟨?_, ?_⟩
  · rw [← hv]
    have := val_lt (l.take (k + 1))
    rw [List.length_take, Nat.min_eq_left (by omega)] at this
    exact this
  · unfold numP
    rw [hL, if_neg (by omega), if_neg (by omega), hv]

/-- What first answers. -/
def firstV (r : Nat × Nat × Nat) : Value := .tuple #[.int .i64 (r.1 : Nat), .int .i64 (r.2.1 : Nat), .int .i64 (r.2.2 : Nat)]

theorem right_yes (n : Int) (h : 0 ≤ n ∧ n ≤ 1099511627776) (w : World) : Calls Tryd.prog 47 #[.int .i64 n] w fun e w' => e = .returned (.bool true) ∧ w' = w := by
  have := right_any n w
  rw [show isN n = true from decide_eq_true h] at this
  exact this

theorem right_no (n : Int) (h : ¬ (0 ≤ n ∧ n ≤ 1099511627776)) (w : World) : Calls Tryd.prog 47 #[.int .i64 n] w fun e w' => e = .returned (.bool false) ∧ w' = w := by
  have := right_any n w
  rw [show isN n = false from decide_eq_false h] at this
  exact this

theorem ret_tri {a b c a' b' c' : Int} (h1 : a = a') (h2 : b = b') (h3 : c = c') : Ending.returned (.tuple #[.int .i64 a, .int .i64 b, .int .i64 c]) = .returned (.tuple #[.int .i64 a', .int .i64 b', .int .i64 c']) := by rw [h1, h2, h3]

set_option maxRecDepth 1000000 in
set_option maxHeartbeats 2000000 in
theorem first_any (x : Value) (l : List UInt8) (w : World) (hx : RB w x l) (hl : l.length ≤ 100000) :
    Calls Tryd.prog 53 #[x] w fun e w' => e = .returned (firstV (numP l)) ∧ w' = w := by
  obtain ⟨a, ca, rfl, _, _, _, hca⟩ := hx
  have HC : Hid _ := hca
  clear hca
  obtain ⟨R, HR⟩ : ∃ R, Hid (R = numP l) := ⟨_, rfl⟩
  rw [← HR.out]
  go_enter Tryd.func53, Tryd.ntmps53
  go_wp2_with fail
  go_step3
  go_wp2_with fail
  go_step3
  go_wp2_with fail
  go_loopw [5, 6] (fun nv iv wr => ∃ (k q : Nat), k ≤ 6 ∧ k ≤ l.length ∧ iv = .int .i64 k ∧ nv = .int .i64 q ∧ Hid (Fi l k q) ∧ wr = w) (fun _ iv _ => 6 - (intOf iv).toNat)
  case atStart => exact ⟨0, 0, by omega, Nat.zero_le _, rfl, rfl, Fi.zero l, rfl⟩
  case round =>
    obtain ⟨k, q, hk6, hkl, rfl, rfl, HF, rfl⟩ := hrel
    by_cases h6 : k = 6
    · subst h6
      have HQ : Hid (R = (0, 0, 4)) := by show _ = _; rw [HR.out]; exact HF.out.six
      clear HR HF
      go_wp2_with fail
      simp only [Exit.noGoto]
      go_ret3
      rw [HQ.out]
      exact ⟨rfl, rfl⟩
    · by_cases hlt : k < l.length
      · obtain ⟨b1, o1, rfl, hc1⟩ := HC.out k hlt
        have hbl := b_lt (l.getD k 0)
        obtain ⟨c, HCC⟩ : ∃ c, Hid (c = (l.getD k 0).toNat) := ⟨_, rfl⟩
        rw [← HCC.out] at hc1 hbl
        have hq3 := HF.out.2.2
        by_cases h8 : c < 128
        · obtain ⟨hlim, hnum⟩ := HF.out.last (by omega) hlt HCC.out h8
          rw [← HR.out] at hnum
          clear HR HF HC
          by_cases h0 : c = 0 ∧ 0 < k
          · have HQ : Hid (R = (0, 0, 4)) := by show _ = _; rw [hnum, if_pos (.inl h0)]
            obtain ⟨hc0, hk0⟩ := h0
            clear hnum hlim HCC
            subst hc0
            have hk5 : k = 1 ∨ k = 2 ∨ k = 3 ∨ k = 4 ∨ k = 5 := by omega
            rcases hk5 with rfl | rfl | rfl | rfl | rfl
            all_goals
              go_wp2_with fail
              simp only [Exit.noGoto]
              go_ret3
              rw [HQ.out]
              exact ⟨rfl, rfl⟩
          · by_cases hbig : 1099511627776 < q + c * 128 ^ k
            · have HQ : Hid (R = (0, 0, 4)) := by show _ = _; rw [hnum, if_pos (.inr hbig)]
              clear hnum HCC
              have hk5 : k = 0 ∨ k = 1 ∨ k = 2 ∨ k = 3 ∨ k = 4 ∨ k = 5 := by omega
              rcases hk5 with rfl | rfl | rfl | rfl | rfl | rfl
              · omega
              · omega
              · omega
              · omega
              · omega
              · have hcn : ¬ c = 0 := by omega
                clear h0
                go_wp2_with fail
                refine Calls.mono (right_no _ (by omega) _) ?_
                rintro e w1 ⟨rfl, rfl⟩
                go_wp2_with fail
                simp only [Exit.noGoto]
                go_ret3
                rw [HQ.out]
                exact ⟨rfl, rfl⟩
            · have HQ : Hid (R = (q + c * 128 ^ k, k + 1, 0)) := by show _ = _; rw [hnum, if_neg (fun h => h.elim h0 hbig)]
              clear hnum HCC
              have hk5 : k = 0 ∨ k = 1 ∨ k = 2 ∨ k = 3 ∨ k = 4 ∨ k = 5 := by omega
              rcases hk5 with rfl | rfl | rfl | rfl | rfl | rfl
              · rw [Nat.add_zero] at hc1
                have hq0 : q = 0 := by omega
                subst hq0
                by_cases hcn : c = 0
                · subst hcn
                  go_wp2_with fail
                  refine Calls.mono (right_yes _ (by omega) _) ?_
                  rintro e w1 ⟨rfl, rfl⟩
                  go_wp2_with fail
                  simp only [Exit.noGoto]
                  go_ret3
                  rw [HQ.out]
                  exact ⟨ret_tri (by omega) rfl rfl, rfl⟩
                · go_wp2_with fail
                  refine Calls.mono (right_yes _ (by omega) _) ?_
                  rintro e w1 ⟨rfl, rfl⟩
                  go_wp2_with fail
                  simp only [Exit.noGoto]
                  go_ret3
                  rw [HQ.out]
                  exact ⟨ret_tri (by omega) rfl rfl, rfl⟩
              all_goals
                have hcn : ¬ c = 0 := by omega
                clear h0
                go_wp2_with fail
                refine Calls.mono (right_yes _ (by omega) _) ?_
                rintro e w1 ⟨rfl, rfl⟩
                go_wp2_with fail
                simp only [Exit.noGoto]
                go_ret3
                rw [HQ.out]
                exact ⟨ret_tri (by omega) rfl rfl, rfl⟩
        · have HF2 : Hid (Fi l (k + 1) (q + (c - 128) * 128 ^ k)) := HF.out.next hlt HCC.out (by omega)
          clear HF HC HCC HR
          have hk5 : k = 0 ∨ k = 1 ∨ k = 2 ∨ k = 3 ∨ k = 4 ∨ k = 5 := by omega
          rcases hk5 with rfl | rfl | rfl | rfl | rfl | rfl
          · rw [Nat.add_zero] at hc1
            have hq0 : q = 0 := by omega
            subst hq0
            go_wp2_with fail
            go_roundw
            case rel => exact ⟨1, _, by omega, by omega, by go_num, by congr 1; omega, HF2, trivial⟩
            case measure => simp [intOf]
          all_goals
            go_wp2_with fail
            go_roundw
            case rel => exact ⟨_, _, by omega, by omega, by go_num, by congr 1; omega, HF2, trivial⟩
            case measure => simp [intOf]
      · have HQ : Hid (R = (0, 0, 3)) := by show _ = _; rw [HR.out]; exact HF.out.short (by omega) (by omega)
        have hkk : k = l.length := by omega
        clear HR HF
        subst hkk
        go_wp2_with fail
        simp only [Exit.noGoto]
        go_ret3
        rw [HQ.out]
        exact ⟨rfl, rfl⟩
end Go.Proofs.YtcnodkkdhkkicaaDoor
