/- A walk over strings.ContainsRune at the six marks: a code point beyond ASCII is none of them. -/
import Derived.Test.YtchdecoceokcmaaWJ
import Derived.Test.YtchdecoceokcmaaMc
import Derived.WalkMore
namespace Go.Proofs.Ytchdecoceokcmaa
open Go.RowKit

set_option maxRecDepth 1000000 in
set_option maxHeartbeats 1000000 in
theorem vrune (c : Int) (hc : isCp c = true) (w : World) : Calls Try.prog 47 #[.int .i32 c] w fun e w' => e = .returned (.bool true) ∧ w' = w := by
  rw [isCp_iff] at hc
  obtain ⟨h1, h2, h3⟩ := hc
  go_enter Try.func47, Try.ntmps47
  go_wp2
  all_goals go_ret
  all_goals first | exact ⟨rfl, rfl⟩ | (exfalso; omega)

theorem ib_none (l : List UInt8) (b : UInt8) (h : ∀ x ∈ l, x ≠ b) : Lib.indexByte l b = -1 := by
  induction l with
  | nil => rfl
  | cons x l ih =>
    unfold Lib.indexByte
    have h1 : (x == b) = false := by rw [beq_eq_false_iff_ne]; exact h x (by simp)
    rw [h1, ih (fun y hy => h y (by simp [hy]))]
    rfl

theorem ib_sub (k : Nat) (b : Nat) (h0 : 128 ≤ b) (h1 : b < 256) : Lib.indexByte ((⟨#[123, 125, 40, 41, 59, 44]⟩ : ByteArray).extract k 6).data.toList ((b : Int).toNat.toUInt8) = -1 := by
  apply ib_none
  intro x hx
  have hx2 : x ∈ ([123, 125, 40, 41, 59, 44] : List UInt8) := by
    rw [Lib.extract_data] at hx
    exact List.mem_of_mem_drop (List.mem_of_mem_take hx)
  have hl : ∀ y ∈ ([123, 125, 40, 41, 59, 44] : List UInt8), y.toNat < 128 := by decide
  have h2 := hl x hx2
  rintro rfl
  rw [Int.toNat_natCast] at h2
  have e : b.toUInt8.toNat = b := ofNat_toNat b h1
  omega

set_option maxRecDepth 1000000 in
set_option maxHeartbeats 1000000 in
theorem irune_2 (c : Int) (rs : ByteArray) (hc : isCp c = true) (h128 : 128 ≤ c) (hne : (c == 65533) = false) (hrs : rs.size = 2) (hb : 128 ≤ bt rs 1) (w : World)
    (hcv : ∀ w, (convert 21 9 (.int .i32 c)).run Try.prog w = .ok (.string rs) w) :
    Calls Try.prog 41 #[.string ⟨#[123, 125, 40, 41, 59, 44]⟩, .int .i32 c] w fun e w' => e = .returned (.int .i64 (-1)) ∧ Below w.heap.size w w' := by
  obtain ⟨s, hs⟩ : ∃ s : ByteArray, s = ⟨#[123, 125, 40, 41, 59, 44]⟩ := ⟨_, rfl⟩
  have HC : Hid (isCp c = true) := hc
  have hb2 := bt_lt rs 1
  have HIB : Hid (∀ wx, Calls Try.prog 46 #[.string (s.extract 2 6), .int .u8 (bt rs 1 : Int)] wx fun e w' => e = .returned (.int .i64 (-1)) ∧ w' = wx) := by
    intro wx
    have h := ibyte (s.extract 2 6) (bt rs 1 : Int) wx
    rw [hs, ib_sub 2 (bt rs 1) hb hb2, ← hs] at h
    exact h
  have hs6 : s.size = 6 := by rw [hs]; rfl
  have hsb : bt s 1 < 128 := by rw [hs]; decide
  rw [← hs]
  clear hs hc
  have l1 : 1 < s.size := by omega
  have l2 : 1 < rs.size := by omega
  have e1 := bt_at s 1 l1
  have e2 := bt_at rs 1 l2
  have hd : ((bt s 1 : Int) != (bt rs 1 : Int)) = true := by rw [bne_iff_ne]; omega
  have hw0 : Below w.heap.size w w := Below.refl _ _
  have hwr : IntKind.i64.wrap 2 = 2 := by decide
  go_enter Try.func41, Try.ntmps41
  go_wp2_with (go_at_call 47; refine (vrune _ HC.out _).mono ?_; rintro e w' ⟨rfl, rfl⟩)
  go_step3
  go_wp2
  refine wp_loop_rounds 1 ?_
  rw [rounds_succ]
  go_wp2
  go_step3
  go_wp2
  go_quiet (fail)
  have hw1 := below_drewN hw0 nq
  generalize World.drewN _ nq = w1 at *
  go_wp2
  go_quiet ((go_at_call 46; exact Calls.quiet_of_same (HIB.out _)))
  go_wp2
  simp only [Exit.noGoto, Exit.inBlock, Exit.then]
  go_ret
  exact ⟨rfl, below_drewN hw1 _⟩

set_option maxRecDepth 1000000 in
set_option maxHeartbeats 1000000 in
theorem irune_3 (c : Int) (rs : ByteArray) (hc : isCp c = true) (h128 : 128 ≤ c) (hne : (c == 65533) = false) (hrs : rs.size = 3) (hb : 128 ≤ bt rs 2) (w : World)
    (hcv : ∀ w, (convert 21 9 (.int .i32 c)).run Try.prog w = .ok (.string rs) w) :
    Calls Try.prog 41 #[.string ⟨#[123, 125, 40, 41, 59, 44]⟩, .int .i32 c] w fun e w' => e = .returned (.int .i64 (-1)) ∧ Below w.heap.size w w' := by
  obtain ⟨s, hs⟩ : ∃ s : ByteArray, s = ⟨#[123, 125, 40, 41, 59, 44]⟩ := ⟨_, rfl⟩
  have HC : Hid (isCp c = true) := hc
  have hb2 := bt_lt rs 2
  have HIB : Hid (∀ wx, Calls Try.prog 46 #[.string (s.extract 3 6), .int .u8 (bt rs 2 : Int)] wx fun e w' => e = .returned (.int .i64 (-1)) ∧ w' = wx) := by
    intro wx
    have h := ibyte (s.extract 3 6) (bt rs 2 : Int) wx
    rw [hs, ib_sub 3 (bt rs 2) hb hb2, ← hs] at h
    exact h
  have hs6 : s.size = 6 := by rw [hs]; rfl
  have hsb : bt s 2 < 128 := by rw [hs]; decide
  rw [← hs]
  clear hs hc
  have l1 : 2 < s.size := by omega
  have l2 : 2 < rs.size := by omega
  have e1 := bt_at s 2 l1
  have e2 := bt_at rs 2 l2
  have hd : ((bt s 2 : Int) != (bt rs 2 : Int)) = true := by rw [bne_iff_ne]; omega
  have hw0 : Below w.heap.size w w := Below.refl _ _
  have hwr : IntKind.i64.wrap 3 = 3 := by decide
  go_enter Try.func41, Try.ntmps41
  go_wp2_with (go_at_call 47; refine (vrune _ HC.out _).mono ?_; rintro e w' ⟨rfl, rfl⟩)
  go_step3
  go_wp2
  refine wp_loop_rounds 1 ?_
  rw [rounds_succ]
  go_wp2
  go_step3
  go_wp2
  go_quiet (fail)
  have hw1 := below_drewN hw0 nq
  generalize World.drewN _ nq = w1 at *
  go_wp2
  go_quiet ((go_at_call 46; exact Calls.quiet_of_same (HIB.out _)))
  go_wp2
  simp only [Exit.noGoto, Exit.inBlock, Exit.then]
  go_ret
  exact ⟨rfl, below_drewN hw1 _⟩

set_option maxRecDepth 1000000 in
set_option maxHeartbeats 1000000 in
theorem irune_4 (c : Int) (rs : ByteArray) (hc : isCp c = true) (h128 : 128 ≤ c) (hne : (c == 65533) = false) (hrs : rs.size = 4) (hb : 128 ≤ bt rs 3) (w : World)
    (hcv : ∀ w, (convert 21 9 (.int .i32 c)).run Try.prog w = .ok (.string rs) w) :
    Calls Try.prog 41 #[.string ⟨#[123, 125, 40, 41, 59, 44]⟩, .int .i32 c] w fun e w' => e = .returned (.int .i64 (-1)) ∧ Below w.heap.size w w' := by
  obtain ⟨s, hs⟩ : ∃ s : ByteArray, s = ⟨#[123, 125, 40, 41, 59, 44]⟩ := ⟨_, rfl⟩
  have HC : Hid (isCp c = true) := hc
  have hb2 := bt_lt rs 3
  have HIB : Hid (∀ wx, Calls Try.prog 46 #[.string (s.extract 4 6), .int .u8 (bt rs 3 : Int)] wx fun e w' => e = .returned (.int .i64 (-1)) ∧ w' = wx) := by
    intro wx
    have h := ibyte (s.extract 4 6) (bt rs 3 : Int) wx
    rw [hs, ib_sub 4 (bt rs 3) hb hb2, ← hs] at h
    exact h
  have hs6 : s.size = 6 := by rw [hs]; rfl
  have hsb : bt s 3 < 128 := by rw [hs]; decide
  rw [← hs]
  clear hs hc
  have l1 : 3 < s.size := by omega
  have l2 : 3 < rs.size := by omega
  have e1 := bt_at s 3 l1
  have e2 := bt_at rs 3 l2
  have hd : ((bt s 3 : Int) != (bt rs 3 : Int)) = true := by rw [bne_iff_ne]; omega
  have hw0 : Below w.heap.size w w := Below.refl _ _
  have hwr : IntKind.i64.wrap 4 = 4 := by decide
  go_enter Try.func41, Try.ntmps41
  go_wp2_with (go_at_call 47; refine (vrune _ HC.out _).mono ?_; rintro e w' ⟨rfl, rfl⟩)
  go_step3
  go_wp2
  refine wp_loop_rounds 1 ?_
  rw [rounds_succ]
  go_wp2
  go_step3
  go_wp2
  go_quiet (fail)
  have hw1 := below_drewN hw0 nq
  generalize World.drewN _ nq = w1 at *
  go_wp2
  go_quiet ((go_at_call 46; exact Calls.quiet_of_same (HIB.out _)))
  go_wp2
  simp only [Exit.noGoto, Exit.inBlock, Exit.then]
  go_ret
  exact ⟨rfl, below_drewN hw1 _⟩

theorem irune_any (c : Int) (hc : isCp c = true) (w : World) :
    Calls Try.prog 41 #[.string ⟨#[123, 125, 40, 41, 59, 44]⟩, .int .i32 c] w fun e w' => ∃ k : Int, e = .returned (.int .i64 k) ∧ decide (0 ≤ k) = isMark c ∧ Below w.heap.size w w' := by
  have hci := (isCp_iff c).1 hc
  by_cases h : c < 128
  · exact irune_ascii c hci.1 h w
  have hm : decide ((0 : Int) ≤ -1) = isMark c := by rw [no_mark c (by omega)]; rfl
  by_cases hb : c = 65533
  · subst hb
    refine (irune_bad w).mono ?_
    rintro e w' ⟨rfl, h2⟩
    exact ⟨_, rfl, hm, h2⟩
  have hne : (c == 65533) = false := by rw [beq_eq_false_iff_ne]; exact hb
  have hcv : ∀ w, (convert 21 9 (.int .i32 c)).run Try.prog w = .ok (.string ⟨(enc c).toArray⟩) w := by
    intro w
    rw [run_convert_int_string w 21 9 .i32 c (by kernel_rfl) Try.underlying9, encode_cp _ hc]
  obtain ⟨n, rfl, hn⟩ := cp_cases c hc
  rcases hn with hn | ⟨h1, h2⟩ | ⟨h1, h2, h3⟩ | ⟨h1, h2⟩
  · omega
  · refine (irune_2 n _ hc (by omega) hne ?_ ?_ w hcv).mono ?_
    · rw [enc2 n h1 h2]; rfl
    · rw [enc2 n h1 h2]
      show 128 ≤ (UInt8.ofNat (128 + n % 64)).toNat
      rw [ofNat_toNat _ (by omega)]
      omega
    · rintro e w' ⟨rfl, h2⟩
      exact ⟨_, rfl, hm, h2⟩
  · refine (irune_3 n _ hc (by omega) hne ?_ ?_ w hcv).mono ?_
    · rw [enc3 n h1 h2]; rfl
    · rw [enc3 n h1 h2]
      show 128 ≤ (UInt8.ofNat (128 + n % 64)).toNat
      rw [ofNat_toNat _ (by omega)]
      omega
    · rintro e w' ⟨rfl, h2⟩
      exact ⟨_, rfl, hm, h2⟩
  · refine (irune_4 n _ hc (by omega) hne ?_ ?_ w hcv).mono ?_
    · rw [enc4 n h1]; rfl
    · rw [enc4 n h1]
      show 128 ≤ (UInt8.ofNat (128 + n % 64)).toNat
      rw [ofNat_toNat _ (by omega)]
      omega
    · rintro e w' ⟨rfl, h2⟩
      exact ⟨_, rfl, hm, h2⟩

set_option maxRecDepth 1000000 in
set_option maxHeartbeats 1000000 in
theorem has_mark (c : Int) (hc : isCp c = true) (w : World) :
    Calls Try.prog 32 #[.string ⟨#[123, 125, 40, 41, 59, 44]⟩, .int .i32 c] w fun e w' => e = .returned (.bool (isMark c)) ∧ Below w.heap.size w w' := by
  go_enter Try.func32, Try.ntmps32
  go_wp2_with fail
  refine (irune_any c hc _).mono ?_
  rintro e w' ⟨k, rfl, hm, hb⟩
  have HM : Hid _ := hm
  clear hm
  go_wp2
  go_ret
  exact ⟨ret_bool HM.out, hb⟩
end Go.Proofs.Ytchdecoceokcmaa
