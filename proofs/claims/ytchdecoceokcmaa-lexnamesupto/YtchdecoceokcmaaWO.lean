/- Walks over the document's 'one': a code point's bytes as a text. -/
import Derived.Test.YtchdecoceokcmaaWH
import Derived.LoopN
namespace Go.Proofs.Ytchdecoceokcmaa
open Go.RowKit

theorem ret_str {a b : ByteArray} (h : a = b) : Ending.returned (.string a) = .returned (.string b) := by rw [h]

theorem conv_one (W : World) (g : Nat) (x : Int) (hg : g = W.heap.size) :
    (convert 40 9 (.slice (some ⟨g, 0, none⟩) 1 1)).run Try.prog (W.alloc (.cells #[.int .u8 x] 5)) = .ok (.string ⟨#[UInt8.ofNat x.toNat]⟩) (W.alloc (.cells #[.int .u8 x] 5)) := by
  subst hg
  refine run_convert_bytes_arg _ 40 5 Try.underlying40 Try.underlying5 W.heap.size 0 1 1 [x] rfl ?_ 9 Try.underlying9
  intro i hi
  have h0 : i = 0 := by omega
  subst h0
  simp

theorem bcat (a b : List UInt8) : (⟨a.toArray⟩ : ByteArray) ++ ⟨b.toArray⟩ = ⟨(a ++ b).toArray⟩ := by
  apply ByteArray.ext
  simp

theorem badd (k n : Nat) : UInt8.ofNat k + UInt8.ofNat n = UInt8.ofNat (k + n) := by rw [UInt8.ofNat_add]

theorem str2 (n : Nat) : (⟨#[192 + UInt8.ofNat (n / 64)]⟩ : ByteArray) ++ (⟨#[128 + UInt8.ofNat (n % 64)]⟩ ++ ⟨#[]⟩) = ⟨#[UInt8.ofNat (192 + n / 64), UInt8.ofNat (128 + n % 64)]⟩ := by
  rw [← badd 192, ← badd 128]
  exact (congrArg _ (bcat [_] [])).trans (bcat [_] [_])
theorem str3 (n : Nat) : (⟨#[224 + UInt8.ofNat (n / 64 / 64)]⟩ : ByteArray) ++ (⟨#[128 + UInt8.ofNat (n / 64 % 64)]⟩ ++ (⟨#[128 + UInt8.ofNat (n % 64)]⟩ ++ ⟨#[]⟩)) = ⟨#[UInt8.ofNat (224 + n / 4096), UInt8.ofNat (128 + n / 64 % 64), UInt8.ofNat (128 + n % 64)]⟩ := by
  rw [← badd 224, ← badd 128, ← badd 128, Nat.div_div_eq_div_mul]
  exact (congrArg _ ((congrArg _ (bcat [_] [])).trans (bcat [_] [_]))).trans (bcat [_] [_, _])
theorem str4 (n : Nat) : (⟨#[240 + UInt8.ofNat (n / 64 / 64 / 64)]⟩ : ByteArray) ++ (⟨#[128 + UInt8.ofNat (n / 64 / 64 % 64)]⟩ ++ (⟨#[128 + UInt8.ofNat (n / 64 % 64)]⟩ ++ (⟨#[128 + UInt8.ofNat (n % 64)]⟩ ++ ⟨#[]⟩))) = ⟨#[UInt8.ofNat (240 + n / 262144), UInt8.ofNat (128 + n / 4096 % 64), UInt8.ofNat (128 + n / 64 % 64), UInt8.ofNat (128 + n % 64)]⟩ := by
  have e1 : n / 64 / 64 / 64 = n / 262144 := by omega
  have e2 : n / 64 / 64 = n / 4096 := by omega
  rw [← badd 240, ← badd 128, ← badd 128, ← badd 128, e1, e2]
  exact (congrArg _ ((congrArg _ ((congrArg _ (bcat [_] [])).trans (bcat [_] [_]))).trans (bcat [_] [_, _]))).trans (bcat [_] [_, _, _])

set_option maxRecDepth 1000000 in
set_option maxHeartbeats 1000000 in
theorem one_one (n : Nat) (h1 : n < 128) (hc : isCp n = true) (w : World) :
    Calls Try.prog 52 #[.int .i64 n] w fun e w' => e = .returned (.string ⟨#[UInt8.ofNat n]⟩) ∧ Below w.heap.size w w' := by
  have hw : wid (n : Int) = 1 := by rw [← enc_len _ hc, enc1 n h1]; rfl
  have hcv := conv_one
  clear hc
  go_enter Try.func52, Try.ntmps52
  go_wp2_with (go_at_call 43; refine (rwidth_any _ _).mono ?_; rintro e w' ⟨rfl, rfl⟩)
  go_ret
  exact ⟨rfl, (Below.refl _ _).alloc (Nat.le_refl _) _⟩

set_option maxRecDepth 1000000 in
set_option maxHeartbeats 1000000 in
theorem one_two (n : Nat) (h1 : 128 ≤ n) (h2 : n < 2048) (hc : isCp n = true) (w : World) :
    Calls Try.prog 52 #[.int .i64 n] w fun e w' => e = .returned (.string ⟨#[UInt8.ofNat (192 + n / 64), UInt8.ofNat (128 + n % 64)]⟩) ∧ Below w.heap.size w w' := by
  have hw : wid (n : Int) = 2 := by rw [← enc_len _ hc, enc2 n h1 h2]; rfl
  have hcv := conv_one
  clear hc
  go_enter Try.func52, Try.ntmps52
  go_wp2_with (go_at_call 43; refine (rwidth_any _ _).mono ?_; rintro e w' ⟨rfl, rfl⟩)
  refine wp_loop_rounds 2 ?_
  rw [rounds_succ]
  go_wp2
  rw [rounds_succ]
  go_wp2
  go_ret
  refine ⟨ret_str ?_, ?_⟩
  · exact str2 n
  · exact ((((Below.refl _ _).alloc (Nat.le_refl _) _).alloc (by simp) _).alloc (by simp; omega) _)

set_option maxRecDepth 1000000 in
set_option maxHeartbeats 1000000 in
theorem one_three (n : Nat) (h1 : 2048 ≤ n) (h2 : n < 65536) (hc : isCp n = true) (w : World) :
    Calls Try.prog 52 #[.int .i64 n] w fun e w' => e = .returned (.string ⟨#[UInt8.ofNat (224 + n / 4096), UInt8.ofNat (128 + n / 64 % 64), UInt8.ofNat (128 + n % 64)]⟩) ∧ Below w.heap.size w w' := by
  have hw : wid (n : Int) = 3 := by rw [← enc_len _ hc, enc3 n h1 h2]; rfl
  have hcv := conv_one
  clear hc
  go_enter Try.func52, Try.ntmps52
  go_wp2_with (go_at_call 43; refine (rwidth_any _ _).mono ?_; rintro e w' ⟨rfl, rfl⟩)
  refine wp_loop_rounds 3 ?_
  rw [rounds_succ]
  go_wp2
  rw [rounds_succ]
  go_wp2
  rw [rounds_succ]
  go_wp2
  go_ret
  refine ⟨ret_str ?_, ?_⟩
  · exact str3 n
  · exact (((((Below.refl _ _).alloc (Nat.le_refl _) _).alloc (by simp) _).alloc (by simp; omega) _).alloc (by simp; omega) _)

set_option maxRecDepth 1000000 in
set_option maxHeartbeats 1000000 in
theorem one_four (n : Nat) (h1 : 65536 ≤ n) (h2 : n < 1114112) (hc : isCp n = true) (w : World) :
    Calls Try.prog 52 #[.int .i64 n] w fun e w' => e = .returned (.string ⟨#[UInt8.ofNat (240 + n / 262144), UInt8.ofNat (128 + n / 4096 % 64), UInt8.ofNat (128 + n / 64 % 64), UInt8.ofNat (128 + n % 64)]⟩) ∧ Below w.heap.size w w' := by
  have hw : wid (n : Int) = 4 := by rw [← enc_len _ hc, enc4 n h1]; rfl
  have hcv := conv_one
  clear hc
  go_enter Try.func52, Try.ntmps52
  go_wp2_with (go_at_call 43; refine (rwidth_any _ _).mono ?_; rintro e w' ⟨rfl, rfl⟩)
  refine wp_loop_rounds 4 ?_
  rw [rounds_succ]
  go_wp2
  rw [rounds_succ]
  go_wp2
  rw [rounds_succ]
  go_wp2
  rw [rounds_succ]
  go_wp2
  go_ret
  refine ⟨ret_str ?_, ?_⟩
  · exact str4 n
  · exact ((((((Below.refl _ _).alloc (Nat.le_refl _) _).alloc (by simp) _).alloc (by simp; omega) _).alloc (by simp; omega) _).alloc (by simp; omega) _)

theorem one_any (c : Int) (hc : isCp c = true) (w : World) :
    Calls Try.prog 52 #[.int .i64 c] w fun e w' => e = .returned (.string ⟨(enc c).toArray⟩) ∧ Below w.heap.size w w' := by
  obtain ⟨n, rfl, hr⟩ := cp_cases c hc
  rcases hr with h | ⟨h1, h2⟩ | ⟨h1, h2, h3⟩ | ⟨h1, h2⟩
  · rw [enc1 n h]
    exact one_one n h hc w
  · rw [enc2 n h1 h2]
    exact one_two n h1 h2 hc w
  · rw [enc3 n h1 h2]
    exact one_three n h1 h2 hc w
  · rw [enc4 n h1]
    exact one_four n h1 h2 hc w
end Go.Proofs.Ytchdecoceokcmaa
