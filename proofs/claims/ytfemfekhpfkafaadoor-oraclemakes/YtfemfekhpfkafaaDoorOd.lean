/- The walks over Most, and the document's. -/
import Derived.Test.YtfemfekhpfkafaaDoorOc
namespace Go.Proofs.YtfemfekhpfkafaaDoor.Or
open Go.RowKit Go.Proofs.YtfemfekhpfkafaaDoor
set_option maxRecDepth 1000000
set_option linter.unusedVariables false

theorem mostN_yes {s : List UInt8} {k q : Nat} (h : failsP s k = false) (hq : q = slipsP s k) : mostN s (k + 1) = mostN s k + 1 + (q + 1) := by
  subst hq
  show mostN s k + 1 + (if failsP s k then 0 else slipsP s k + 1) = _
  rw [if_neg (by rw [h]; exact Bool.noConfusion)]
theorem mostN_no {s : List UInt8} {k : Nat} (h : failsP s k = true) : mostN s (k + 1) = mostN s k + 1 := by
  show mostN s k + 1 + (if failsP s k then 0 else slipsP s k + 1) = _
  rw [if_pos h]

theorem most_any (s : List UInt8) (v : Value) (n : Int) (w : World) (hr : RB w v s) (hl : s.length ≤ 1000000) :
    Calls Tryd.prog 14 #[v, .int .i64 n] w fun e w' => e = .returned (.int .i64 (mostP s n : Nat)) ∧ w' = w := by
  have HF : Hid (∀ (i : Nat) wx, wx.heap = w.heap → Calls Tryd.prog 10 #[v, .int .i64 i] wx fun e w' => e = .returned (.bool (failsP s i)) ∧ w' = wx) :=
    fun i wx h => fails_any s v i wx (RB.heap hr h) hl
  have HS : Hid (∀ (i : Nat) wx, wx.heap = w.heap → Calls Tryd.prog 12 #[v, .int .i64 i] wx fun e w' => e = .returned (.int .i64 (slipsP s i : Nat)) ∧ w' = wx) :=
    fun i wx h => slips_any s v i wx (RB.heap hr h) hl
  clear hr
  by_cases g1 : n < 0
  · have HQ : Hid (mostP s n = mostN s 0) := by show _ = _; unfold mostP; congr 1; omega
    rw [HQ.out]
    clear HQ
    go_enter Tryd.func14, Tryd.ntmps14
    go_wp2_with fail
    go_loopw [10, 5] (fun iv tv wr => ∃ (k : Nat), k ≤ 0 ∧ iv = .int .i64 k ∧ tv = .int .i64 ((mostN s k : Nat) : Int) ∧ wr = w) (fun iv _ _ => 0 - (intOf iv).toNat)
    case atStart => exact ⟨0, Nat.zero_le _, rfl, rfl, rfl⟩
    case round =>
      obtain ⟨k, hk, rfl, rfl, rfl⟩ := hrel
      have hmx := mostN_le s k
      obtain ⟨y, HY⟩ : ∃ y, Hid (y = mostN s k) := ⟨_, rfl⟩
      rw [← HY.out] at hmx ⊢
      by_cases hlt : k < 0
      · exact absurd hlt (Nat.not_lt_zero _)
      · have hkm : k = 0 := by omega
        subst hkm
        go_wp2_with fail
        go_ret
        exact ⟨by rw [HY.out]; rfl, rfl⟩
  by_cases g2 : 64 < n
  · have HQ : Hid (mostP s n = mostN s 64) := by show _ = _; unfold mostP; congr 1; omega
    rw [HQ.out]
    clear HQ
    go_enter Tryd.func14, Tryd.ntmps14
    go_wp2_with fail
    go_loopw [10, 5] (fun iv tv wr => ∃ (k : Nat), k ≤ 64 ∧ iv = .int .i64 k ∧ tv = .int .i64 ((mostN s k : Nat) : Int) ∧ wr = w) (fun iv _ _ => 64 - (intOf iv).toNat)
    case atStart => exact ⟨0, Nat.zero_le _, rfl, rfl, rfl⟩
    case round =>
      obtain ⟨k, hk, rfl, rfl, rfl⟩ := hrel
      have hmx := mostN_le s k
      obtain ⟨y, HY⟩ : ∃ y, Hid (y = mostN s k) := ⟨_, rfl⟩
      rw [← HY.out] at hmx ⊢
      by_cases hlt : k < 64
      · have hki : (k : Int) < (64 : Int) := by omega
        have hk64 : (k : Int) < 64 := by omega
        obtain ⟨q, HQ⟩ : ∃ q, Hid (q = slipsP s k) := ⟨_, rfl⟩
        have hq4 : q < 4 := by rw [HQ.out]; exact slipsP_lt s k
        have HSk : Hid _ := HS.out k
        rw [← HQ.out] at HSk
        have HFk : Hid _ := HF.out k
        by_cases hf : failsP s k = true
        · have HE : Hid (mostN s (k + 1) = y + 1) := by rw [HY.out]; exact mostN_no hf
          rw [hf] at HFk
          clear HQ HY hf
          go_wp2_with fail
          refine Calls.mono (HFk.out _ rfl) ?_
          rintro e w2 ⟨rfl, rfl⟩
          go_wp2_with fail
          go_roundw
          case rel => exact ⟨k + 1, by omega, by go_num, by rw [HE.out]; go_num, trivial⟩
          case measure => simp [intOf]; omega
        · have hf2 : failsP s k = false := by simpa using hf
          have HE : Hid (mostN s (k + 1) = y + 1 + (q + 1)) := by rw [HY.out]; exact mostN_yes hf2 HQ.out
          rw [hf2] at HFk
          clear HQ HY hf hf2
          go_wp2_with fail
          refine Calls.mono (HFk.out _ rfl) ?_
          rintro e w2 ⟨rfl, rfl⟩
          go_wp2_with fail
          refine Calls.mono (HSk.out _ rfl) ?_
          rintro e w2 ⟨rfl, rfl⟩
          go_wp2_with fail
          go_roundw
          case rel => exact ⟨k + 1, by omega, by go_num, by rw [HE.out]; go_num, trivial⟩
          case measure => simp [intOf]; omega
      · have hkm : k = 64 := by omega
        subst hkm
        go_wp2_with fail
        go_ret
        exact ⟨by rw [HY.out]; rfl, rfl⟩
  obtain ⟨m, rfl⟩ : ∃ m : Nat, n = (m : Int) := ⟨n.toNat, by omega⟩
  have hm64 : m ≤ 64 := by omega
  have HQ : Hid (mostP s (m : Int) = mostN s m) := by show _ = _; unfold mostP; congr 1; omega
  rw [HQ.out]
  clear HQ
  go_enter Tryd.func14, Tryd.ntmps14
  go_wp2_with fail
  go_loopw [10, 5] (fun iv tv wr => ∃ (k : Nat), k ≤ m ∧ iv = .int .i64 k ∧ tv = .int .i64 ((mostN s k : Nat) : Int) ∧ wr = w) (fun iv _ _ => m - (intOf iv).toNat)
  case atStart => exact ⟨0, Nat.zero_le _, rfl, rfl, rfl⟩
  case round =>
    obtain ⟨k, hk, rfl, rfl, rfl⟩ := hrel
    have hmx := mostN_le s k
    obtain ⟨y, HY⟩ : ∃ y, Hid (y = mostN s k) := ⟨_, rfl⟩
    rw [← HY.out] at hmx ⊢
    by_cases hlt : k < m
    · have hki : (k : Int) < (m : Int) := by omega
      have hk64 : (k : Int) < 64 := by omega
      obtain ⟨q, HQ⟩ : ∃ q, Hid (q = slipsP s k) := ⟨_, rfl⟩
      have hq4 : q < 4 := by rw [HQ.out]; exact slipsP_lt s k
      have HSk : Hid _ := HS.out k
      rw [← HQ.out] at HSk
      have HFk : Hid _ := HF.out k
      by_cases hf : failsP s k = true
      · have HE : Hid (mostN s (k + 1) = y + 1) := by rw [HY.out]; exact mostN_no hf
        rw [hf] at HFk
        clear HQ HY hf
        go_wp2_with fail
        refine Calls.mono (HFk.out _ rfl) ?_
        rintro e w2 ⟨rfl, rfl⟩
        go_wp2_with fail
        go_roundw
        case rel => exact ⟨k + 1, by omega, by go_num, by rw [HE.out]; go_num, trivial⟩
        case measure => simp [intOf]; omega
      · have hf2 : failsP s k = false := by simpa using hf
        have HE : Hid (mostN s (k + 1) = y + 1 + (q + 1)) := by rw [HY.out]; exact mostN_yes hf2 HQ.out
        rw [hf2] at HFk
        clear HQ HY hf hf2
        go_wp2_with fail
        refine Calls.mono (HFk.out _ rfl) ?_
        rintro e w2 ⟨rfl, rfl⟩
        go_wp2_with fail
        refine Calls.mono (HSk.out _ rfl) ?_
        rintro e w2 ⟨rfl, rfl⟩
        go_wp2_with fail
        go_roundw
        case rel => exact ⟨k + 1, by omega, by go_num, by rw [HE.out]; go_num, trivial⟩
        case measure => simp [intOf]; omega
    · have hkm : k = m := by omega
      subst hkm
      go_wp2_with fail
      go_ret
      exact ⟨by rw [HY.out]; rfl, rfl⟩

theorem rmost_any (s : List UInt8) (n : Int) (w : World) (hl : s.length ≤ 1000000) :
    Calls Tryd.prog 15 #[.string ⟨s.toArray⟩, .int .i64 n] w fun e w' => e = .returned (.int .i64 (mostP s n : Nat)) ∧ w' = w := by
  have HF : Hid (∀ (i : Nat) wx, wx.heap = w.heap → Calls Tryd.prog 11 #[.string ⟨s.toArray⟩, .int .i64 i] wx fun e w' => e = .returned (.bool (failsP s i)) ∧ w' = wx) :=
    fun i wx h => rfails_any s i wx hl
  have HS : Hid (∀ (i : Nat) wx, wx.heap = w.heap → Calls Tryd.prog 13 #[.string ⟨s.toArray⟩, .int .i64 i] wx fun e w' => e = .returned (.int .i64 (slipsP s i : Nat)) ∧ w' = wx) :=
    fun i wx h => rslips_any s i wx hl
  by_cases g1 : n < 0
  · have HQ : Hid (mostP s n = mostN s 0) := by show _ = _; unfold mostP; congr 1; omega
    rw [HQ.out]
    clear HQ
    generalize (⟨s.toArray⟩ : ByteArray) = B at *
    go_enter Tryd.func15, Tryd.ntmps15
    go_wp2_with fail
    go_loopw [6, 5] (fun iv tv wr => ∃ (k : Nat), k ≤ 0 ∧ iv = .int .i64 k ∧ tv = .int .i64 ((mostN s k : Nat) : Int) ∧ wr = w) (fun iv _ _ => 0 - (intOf iv).toNat)
    case atStart => exact ⟨0, Nat.zero_le _, rfl, rfl, rfl⟩
    case round =>
      obtain ⟨k, hk, rfl, rfl, rfl⟩ := hrel
      have hmx := mostN_le s k
      obtain ⟨y, HY⟩ : ∃ y, Hid (y = mostN s k) := ⟨_, rfl⟩
      rw [← HY.out] at hmx ⊢
      by_cases hlt : k < 0
      · exact absurd hlt (Nat.not_lt_zero _)
      · have hkm : k = 0 := by omega
        subst hkm
        go_wp2_with fail
        go_ret
        exact ⟨by rw [HY.out]; rfl, rfl⟩
  by_cases g2 : 64 < n
  · have HQ : Hid (mostP s n = mostN s 64) := by show _ = _; unfold mostP; congr 1; omega
    rw [HQ.out]
    clear HQ
    generalize (⟨s.toArray⟩ : ByteArray) = B at *
    go_enter Tryd.func15, Tryd.ntmps15
    go_wp2_with fail
    go_loopw [6, 5] (fun iv tv wr => ∃ (k : Nat), k ≤ 64 ∧ iv = .int .i64 k ∧ tv = .int .i64 ((mostN s k : Nat) : Int) ∧ wr = w) (fun iv _ _ => 64 - (intOf iv).toNat)
    case atStart => exact ⟨0, Nat.zero_le _, rfl, rfl, rfl⟩
    case round =>
      obtain ⟨k, hk, rfl, rfl, rfl⟩ := hrel
      have hmx := mostN_le s k
      obtain ⟨y, HY⟩ : ∃ y, Hid (y = mostN s k) := ⟨_, rfl⟩
      rw [← HY.out] at hmx ⊢
      by_cases hlt : k < 64
      · have hki : (k : Int) < (64 : Int) := by omega
        have hk64 : (k : Int) < 64 := by omega
        obtain ⟨q, HQ⟩ : ∃ q, Hid (q = slipsP s k) := ⟨_, rfl⟩
        have hq4 : q < 4 := by rw [HQ.out]; exact slipsP_lt s k
        have HSk : Hid _ := HS.out k
        rw [← HQ.out] at HSk
        have HFk : Hid _ := HF.out k
        by_cases hf : failsP s k = true
        · have HE : Hid (mostN s (k + 1) = y + 1) := by rw [HY.out]; exact mostN_no hf
          rw [hf] at HFk
          clear HQ HY hf
          go_wp2_with fail
          refine Calls.mono (HFk.out _ rfl) ?_
          rintro e w2 ⟨rfl, rfl⟩
          go_wp2_with fail
          go_roundw
          case rel => exact ⟨k + 1, by omega, by go_num, by rw [HE.out]; go_num, trivial⟩
          case measure => simp [intOf]; omega
        · have hf2 : failsP s k = false := by simpa using hf
          have HE : Hid (mostN s (k + 1) = y + 1 + (q + 1)) := by rw [HY.out]; exact mostN_yes hf2 HQ.out
          rw [hf2] at HFk
          clear HQ HY hf hf2
          go_wp2_with fail
          refine Calls.mono (HFk.out _ rfl) ?_
          rintro e w2 ⟨rfl, rfl⟩
          go_wp2_with fail
          refine Calls.mono (HSk.out _ rfl) ?_
          rintro e w2 ⟨rfl, rfl⟩
          go_wp2_with fail
          go_roundw
          case rel => exact ⟨k + 1, by omega, by go_num, by rw [HE.out]; go_num, trivial⟩
          case measure => simp [intOf]; omega
      · have hkm : k = 64 := by omega
        subst hkm
        go_wp2_with fail
        go_ret
        exact ⟨by rw [HY.out]; rfl, rfl⟩
  obtain ⟨m, rfl⟩ : ∃ m : Nat, n = (m : Int) := ⟨n.toNat, by omega⟩
  have hm64 : m ≤ 64 := by omega
  have HQ : Hid (mostP s (m : Int) = mostN s m) := by show _ = _; unfold mostP; congr 1; omega
  rw [HQ.out]
  clear HQ
  generalize (⟨s.toArray⟩ : ByteArray) = B at *
  go_enter Tryd.func15, Tryd.ntmps15
  go_wp2_with fail
  go_loopw [6, 5] (fun iv tv wr => ∃ (k : Nat), k ≤ m ∧ iv = .int .i64 k ∧ tv = .int .i64 ((mostN s k : Nat) : Int) ∧ wr = w) (fun iv _ _ => m - (intOf iv).toNat)
  case atStart => exact ⟨0, Nat.zero_le _, rfl, rfl, rfl⟩
  case round =>
    obtain ⟨k, hk, rfl, rfl, rfl⟩ := hrel
    have hmx := mostN_le s k
    obtain ⟨y, HY⟩ : ∃ y, Hid (y = mostN s k) := ⟨_, rfl⟩
    rw [← HY.out] at hmx ⊢
    by_cases hlt : k < m
    · have hki : (k : Int) < (m : Int) := by omega
      have hk64 : (k : Int) < 64 := by omega
      obtain ⟨q, HQ⟩ : ∃ q, Hid (q = slipsP s k) := ⟨_, rfl⟩
      have hq4 : q < 4 := by rw [HQ.out]; exact slipsP_lt s k
      have HSk : Hid _ := HS.out k
      rw [← HQ.out] at HSk
      have HFk : Hid _ := HF.out k
      by_cases hf : failsP s k = true
      · have HE : Hid (mostN s (k + 1) = y + 1) := by rw [HY.out]; exact mostN_no hf
        rw [hf] at HFk
        clear HQ HY hf
        go_wp2_with fail
        refine Calls.mono (HFk.out _ rfl) ?_
        rintro e w2 ⟨rfl, rfl⟩
        go_wp2_with fail
        go_roundw
        case rel => exact ⟨k + 1, by omega, by go_num, by rw [HE.out]; go_num, trivial⟩
        case measure => simp [intOf]; omega
      · have hf2 : failsP s k = false := by simpa using hf
        have HE : Hid (mostN s (k + 1) = y + 1 + (q + 1)) := by rw [HY.out]; exact mostN_yes hf2 HQ.out
        rw [hf2] at HFk
        clear HQ HY hf hf2
        go_wp2_with fail
        refine Calls.mono (HFk.out _ rfl) ?_
        rintro e w2 ⟨rfl, rfl⟩
        go_wp2_with fail
        refine Calls.mono (HSk.out _ rfl) ?_
        rintro e w2 ⟨rfl, rfl⟩
        go_wp2_with fail
        go_roundw
        case rel => exact ⟨k + 1, by omega, by go_num, by rw [HE.out]; go_num, trivial⟩
        case measure => simp [intOf]; omega
    · have hkm : k = m := by omega
      subst hkm
      go_wp2_with fail
      go_ret
      exact ⟨by rw [HY.out]; rfl, rfl⟩
end Go.Proofs.YtfemfekhpfkafaaDoor.Or
