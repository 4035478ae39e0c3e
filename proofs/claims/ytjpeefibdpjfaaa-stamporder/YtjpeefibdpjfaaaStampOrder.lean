/- StampOrder: for all counts a, b and c: a rank turned round turns Before and After, Before is transitive, and all are the same as themselves; proved in full, nothing is asked of the input. -/
import Derived.Test.YtjpeefibdpjfaaaRows
import Derived.Test.YtjpeefibdpjfaaaSj
import Derived.ProofKit
import Derived.OpenShut
import Derived.ShutString
import Derived.ChangeOld
namespace Go.Proofs.Ytjpeefibdpjfaaa.stampOrder
open Go.RowKit
set_option linter.unusedVariables false

set_option maxRecDepth 1000000 in
set_option maxHeartbeats 4000000 in
theorem walk_big (v u t : Value) (a b c : List Int) (w : World) (hv : RI w v a) (hu : RI w u b) (ht : RI w t c) (h : ¬ (a.length ≤ 300 ∧ b.length ≤ 300 ∧ c.length ≤ 300)) :
    Calls Try.prog 6 #[v, u, t] w fun e w' => e = .returned (.bool true) ∧ Below w.heap.size w w' := by
  obtain ⟨xa, xc, rfl, _⟩ := hv
  obtain ⟨ya, yc, rfl, _⟩ := hu
  obtain ⟨za, zc, rfl, _⟩ := ht
  generalize a.length = na at *
  generalize b.length = nb at *
  generalize c.length = nc at *
  by_cases h0 : na ≤ 300
  · by_cases h1 : nb ≤ 300
    · have h2 : 300 < nc := by omega
      clear h
      go_enter Try.func6, Try.ntmps6
      go_wp2_with fail
      refine Calls.mono (few_yes _ _ _ _ h0) ?_
      rintro e w1 ⟨rfl, hw1⟩
      obtain rfl := hw1.symm
      go_wp2_with fail
      refine Calls.mono (few_yes _ _ _ _ h1) ?_
      rintro e w2 ⟨rfl, hw2⟩
      obtain rfl := hw2.symm
      go_wp2_with fail
      refine Calls.mono (few_no _ _ _ _ h2) ?_
      rintro e w3 ⟨rfl, hw3⟩
      obtain rfl := hw3.symm
      go_wp2_with fail
      refine Calls.mono (lives_any _) ?_
      rintro e wz ⟨rfl, hbz⟩
      go_wp2_with fail
      go_ret
      exact ⟨rfl, hbz⟩
    · have h1 : 300 < nb := by omega
      clear h
      go_enter Try.func6, Try.ntmps6
      go_wp2_with fail
      refine Calls.mono (few_yes _ _ _ _ h0) ?_
      rintro e w1 ⟨rfl, hw1⟩
      obtain rfl := hw1.symm
      go_wp2_with fail
      refine Calls.mono (few_no _ _ _ _ h1) ?_
      rintro e w2 ⟨rfl, hw2⟩
      obtain rfl := hw2.symm
      go_wp2_with fail
      refine Calls.mono (lives_any _) ?_
      rintro e wz ⟨rfl, hbz⟩
      go_wp2_with fail
      go_ret
      exact ⟨rfl, hbz⟩
  · have h0 : 300 < na := by omega
    clear h
    go_enter Try.func6, Try.ntmps6
    go_wp2_with fail
    refine Calls.mono (few_no _ _ _ _ h0) ?_
    rintro e w1 ⟨rfl, hw1⟩
    obtain rfl := hw1.symm
    go_wp2_with fail
    refine Calls.mono (lives_any _) ?_
    rintro e wz ⟨rfl, hbz⟩
    go_wp2_with fail
    go_ret
    exact ⟨rfl, hbz⟩

set_option maxRecDepth 1000000 in
set_option maxHeartbeats 4000000 in
theorem walk0 (xa ya za : Option Addr) (na nb nc xc yc zc : Nat) (r : Nat) (w : World) (h0 : na ≤ 300) (h1 : nb ≤ 300) (h2 : nc ≤ 300)
    (HX : Hid (∀ wx : World, Below w.heap.size w wx → Calls Try.prog 15 #[.slice xa na xc, .slice ya nb yc] wx fun e w' => e = .returned (.int .i64 0) ∧ Below wx.heap.size wx w'))
    (HY : Hid (∀ wx : World, Below w.heap.size w wx → Calls Try.prog 15 #[.slice ya nb yc, .slice za nc zc] wx fun e w' => e = .returned (.int .i64 (r : Nat)) ∧ Below wx.heap.size wx w'))
    (HZ : Hid (∀ wx : World, Below w.heap.size w wx → Calls Try.prog 15 #[.slice xa na xc, .slice za nc zc] wx fun e w' => e = .returned (.int .i64 (r : Nat)) ∧ Below wx.heap.size wx w'))
    (HW : Hid (∀ wx : World, Below w.heap.size w wx → Calls Try.prog 15 #[.slice ya nb yc, .slice xa na xc] wx fun e w' => e = .returned (.int .i64 0) ∧ Below wx.heap.size wx w'))
    (HS : Hid (∀ wx : World, Below w.heap.size w wx → Calls Try.prog 15 #[.slice xa na xc, .slice xa na xc] wx fun e w' => e = .returned (.int .i64 0) ∧ Below wx.heap.size wx w')) :
    Calls Try.prog 6 #[.slice xa na xc, .slice ya nb yc, .slice za nc zc] w fun e w' => e = .returned (.bool true) ∧ Below w.heap.size w w' := by
  go_enter Try.func6, Try.ntmps6
  go_wp2_with fail
  refine Calls.mono (few_yes _ _ _ _ h0) ?_
  rintro e w1 ⟨rfl, hw1⟩
  obtain rfl := hw1.symm
  go_wp2_with fail
  refine Calls.mono (few_yes _ _ _ _ h1) ?_
  rintro e w2 ⟨rfl, hw2⟩
  obtain rfl := hw2.symm
  go_wp2_with fail
  refine Calls.mono (few_yes _ _ _ _ h2) ?_
  rintro e w3 ⟨rfl, hw3⟩
  obtain rfl := hw3.symm
  go_wp2_with fail
  refine Calls.mono (HX.out _ (Below.refl _ _)) ?_
  rintro e w4 ⟨rfl, hb4⟩
  have HB4 : Hid (Below w.heap.size w w4) := hb4
  clear hb4
  go_wp2_with fail
  refine Calls.mono (HY.out _ HB4.out) ?_
  rintro e w5 ⟨rfl, hb5⟩
  have HB5 : Hid (Below w.heap.size w w5) := HB4.out.trans (hb5.mono HB4.out.size)
  clear hb5
  go_wp2_with fail
  refine Calls.mono (HZ.out _ HB5.out) ?_
  rintro e w6 ⟨rfl, hb6⟩
  have HB6 : Hid (Below w.heap.size w w6) := HB5.out.trans (hb6.mono HB5.out.size)
  clear hb6
  go_wp2_with fail
  refine Calls.mono (HW.out _ HB6.out) ?_
  rintro e w7 ⟨rfl, hb7⟩
  have HB7 : Hid (Below w.heap.size w w7) := HB6.out.trans (hb7.mono HB6.out.size)
  clear hb7
  go_wp2_with fail
  refine Calls.mono (HS.out _ HB7.out) ?_
  rintro e w8 ⟨rfl, hb8⟩
  have HB8 : Hid (Below w.heap.size w w8) := HB7.out.trans (hb8.mono HB7.out.size)
  clear hb8
  go_wp2_with fail
  refine Calls.mono (lives_any _) ?_
  rintro e w9 ⟨rfl, hb9⟩
  have HB9 : Hid (Below w.heap.size w w9) := HB8.out.trans (hb9.mono HB8.out.size)
  clear hb9
  go_wp2_with fail
  go_ret
  exact ⟨rfl, HB9.out⟩

set_option maxRecDepth 1000000 in
set_option maxHeartbeats 4000000 in
theorem walk1a (xa ya za : Option Addr) (na nb nc xc yc zc : Nat) (w : World) (h0 : na ≤ 300) (h1 : nb ≤ 300) (h2 : nc ≤ 300)
    (HX : Hid (∀ wx : World, Below w.heap.size w wx → Calls Try.prog 15 #[.slice xa na xc, .slice ya nb yc] wx fun e w' => e = .returned (.int .i64 1) ∧ Below wx.heap.size wx w'))
    (HY : Hid (∀ wx : World, Below w.heap.size w wx → Calls Try.prog 15 #[.slice ya nb yc, .slice za nc zc] wx fun e w' => e = .returned (.int .i64 1) ∧ Below wx.heap.size wx w'))
    (HZ : Hid (∀ wx : World, Below w.heap.size w wx → Calls Try.prog 15 #[.slice xa na xc, .slice za nc zc] wx fun e w' => e = .returned (.int .i64 1) ∧ Below wx.heap.size wx w'))
    (HW : Hid (∀ wx : World, Below w.heap.size w wx → Calls Try.prog 15 #[.slice ya nb yc, .slice xa na xc] wx fun e w' => e = .returned (.int .i64 2) ∧ Below wx.heap.size wx w'))
    (HS : Hid (∀ wx : World, Below w.heap.size w wx → Calls Try.prog 15 #[.slice xa na xc, .slice xa na xc] wx fun e w' => e = .returned (.int .i64 0) ∧ Below wx.heap.size wx w')) :
    Calls Try.prog 6 #[.slice xa na xc, .slice ya nb yc, .slice za nc zc] w fun e w' => e = .returned (.bool true) ∧ Below w.heap.size w w' := by
  go_enter Try.func6, Try.ntmps6
  go_wp2_with fail
  refine Calls.mono (few_yes _ _ _ _ h0) ?_
  rintro e w1 ⟨rfl, hw1⟩
  obtain rfl := hw1.symm
  go_wp2_with fail
  refine Calls.mono (few_yes _ _ _ _ h1) ?_
  rintro e w2 ⟨rfl, hw2⟩
  obtain rfl := hw2.symm
  go_wp2_with fail
  refine Calls.mono (few_yes _ _ _ _ h2) ?_
  rintro e w3 ⟨rfl, hw3⟩
  obtain rfl := hw3.symm
  go_wp2_with fail
  refine Calls.mono (HX.out _ (Below.refl _ _)) ?_
  rintro e w4 ⟨rfl, hb4⟩
  have HB4 : Hid (Below w.heap.size w w4) := hb4
  clear hb4
  go_wp2_with fail
  refine Calls.mono (HY.out _ HB4.out) ?_
  rintro e w5 ⟨rfl, hb5⟩
  have HB5 : Hid (Below w.heap.size w w5) := HB4.out.trans (hb5.mono HB4.out.size)
  clear hb5
  go_wp2_with fail
  refine Calls.mono (HZ.out _ HB5.out) ?_
  rintro e w6 ⟨rfl, hb6⟩
  have HB6 : Hid (Below w.heap.size w w6) := HB5.out.trans (hb6.mono HB5.out.size)
  clear hb6
  go_wp2_with fail
  refine Calls.mono (HW.out _ HB6.out) ?_
  rintro e w7 ⟨rfl, hb7⟩
  have HB7 : Hid (Below w.heap.size w w7) := HB6.out.trans (hb7.mono HB6.out.size)
  clear hb7
  go_wp2_with fail
  refine Calls.mono (HS.out _ HB7.out) ?_
  rintro e w8 ⟨rfl, hb8⟩
  have HB8 : Hid (Below w.heap.size w w8) := HB7.out.trans (hb8.mono HB7.out.size)
  clear hb8
  go_wp2_with fail
  refine Calls.mono (lives_any _) ?_
  rintro e w9 ⟨rfl, hb9⟩
  have HB9 : Hid (Below w.heap.size w w9) := HB8.out.trans (hb9.mono HB8.out.size)
  clear hb9
  go_wp2_with fail
  go_ret
  exact ⟨rfl, HB9.out⟩

set_option maxRecDepth 1000000 in
set_option maxHeartbeats 4000000 in
theorem walk1b (xa ya za : Option Addr) (na nb nc xc yc zc : Nat) (r : Nat) (s : Nat) (w : World) (h0 : na ≤ 300) (h1 : nb ≤ 300) (h2 : nc ≤ 300) (hr : (((r : Nat) : Int) != 1) = true)
    (HX : Hid (∀ wx : World, Below w.heap.size w wx → Calls Try.prog 15 #[.slice xa na xc, .slice ya nb yc] wx fun e w' => e = .returned (.int .i64 1) ∧ Below wx.heap.size wx w'))
    (HY : Hid (∀ wx : World, Below w.heap.size w wx → Calls Try.prog 15 #[.slice ya nb yc, .slice za nc zc] wx fun e w' => e = .returned (.int .i64 (r : Nat)) ∧ Below wx.heap.size wx w'))
    (HZ : Hid (∀ wx : World, Below w.heap.size w wx → Calls Try.prog 15 #[.slice xa na xc, .slice za nc zc] wx fun e w' => e = .returned (.int .i64 (s : Nat)) ∧ Below wx.heap.size wx w'))
    (HW : Hid (∀ wx : World, Below w.heap.size w wx → Calls Try.prog 15 #[.slice ya nb yc, .slice xa na xc] wx fun e w' => e = .returned (.int .i64 2) ∧ Below wx.heap.size wx w'))
    (HS : Hid (∀ wx : World, Below w.heap.size w wx → Calls Try.prog 15 #[.slice xa na xc, .slice xa na xc] wx fun e w' => e = .returned (.int .i64 0) ∧ Below wx.heap.size wx w')) :
    Calls Try.prog 6 #[.slice xa na xc, .slice ya nb yc, .slice za nc zc] w fun e w' => e = .returned (.bool true) ∧ Below w.heap.size w w' := by
  go_enter Try.func6, Try.ntmps6
  go_wp2_with fail
  refine Calls.mono (few_yes _ _ _ _ h0) ?_
  rintro e w1 ⟨rfl, hw1⟩
  obtain rfl := hw1.symm
  go_wp2_with fail
  refine Calls.mono (few_yes _ _ _ _ h1) ?_
  rintro e w2 ⟨rfl, hw2⟩
  obtain rfl := hw2.symm
  go_wp2_with fail
  refine Calls.mono (few_yes _ _ _ _ h2) ?_
  rintro e w3 ⟨rfl, hw3⟩
  obtain rfl := hw3.symm
  go_wp2_with fail
  refine Calls.mono (HX.out _ (Below.refl _ _)) ?_
  rintro e w4 ⟨rfl, hb4⟩
  have HB4 : Hid (Below w.heap.size w w4) := hb4
  clear hb4
  go_wp2_with fail
  refine Calls.mono (HY.out _ HB4.out) ?_
  rintro e w5 ⟨rfl, hb5⟩
  have HB5 : Hid (Below w.heap.size w w5) := HB4.out.trans (hb5.mono HB4.out.size)
  clear hb5
  go_wp2_with fail
  refine Calls.mono (HZ.out _ HB5.out) ?_
  rintro e w6 ⟨rfl, hb6⟩
  have HB6 : Hid (Below w.heap.size w w6) := HB5.out.trans (hb6.mono HB5.out.size)
  clear hb6
  go_wp2_with fail
  refine Calls.mono (HW.out _ HB6.out) ?_
  rintro e w7 ⟨rfl, hb7⟩
  have HB7 : Hid (Below w.heap.size w w7) := HB6.out.trans (hb7.mono HB6.out.size)
  clear hb7
  go_wp2_with fail
  refine Calls.mono (HS.out _ HB7.out) ?_
  rintro e w8 ⟨rfl, hb8⟩
  have HB8 : Hid (Below w.heap.size w w8) := HB7.out.trans (hb8.mono HB7.out.size)
  clear hb8
  go_wp2_with fail
  refine Calls.mono (lives_any _) ?_
  rintro e w9 ⟨rfl, hb9⟩
  have HB9 : Hid (Below w.heap.size w w9) := HB8.out.trans (hb9.mono HB8.out.size)
  clear hb9
  go_wp2_with fail
  go_ret
  exact ⟨rfl, HB9.out⟩

set_option maxRecDepth 1000000 in
set_option maxHeartbeats 4000000 in
theorem walk2 (xa ya za : Option Addr) (na nb nc xc yc zc : Nat) (r : Nat) (s : Nat) (w : World) (h0 : na ≤ 300) (h1 : nb ≤ 300) (h2 : nc ≤ 300)
    (HX : Hid (∀ wx : World, Below w.heap.size w wx → Calls Try.prog 15 #[.slice xa na xc, .slice ya nb yc] wx fun e w' => e = .returned (.int .i64 2) ∧ Below wx.heap.size wx w'))
    (HY : Hid (∀ wx : World, Below w.heap.size w wx → Calls Try.prog 15 #[.slice ya nb yc, .slice za nc zc] wx fun e w' => e = .returned (.int .i64 (r : Nat)) ∧ Below wx.heap.size wx w'))
    (HZ : Hid (∀ wx : World, Below w.heap.size w wx → Calls Try.prog 15 #[.slice xa na xc, .slice za nc zc] wx fun e w' => e = .returned (.int .i64 (s : Nat)) ∧ Below wx.heap.size wx w'))
    (HW : Hid (∀ wx : World, Below w.heap.size w wx → Calls Try.prog 15 #[.slice ya nb yc, .slice xa na xc] wx fun e w' => e = .returned (.int .i64 1) ∧ Below wx.heap.size wx w'))
    (HS : Hid (∀ wx : World, Below w.heap.size w wx → Calls Try.prog 15 #[.slice xa na xc, .slice xa na xc] wx fun e w' => e = .returned (.int .i64 0) ∧ Below wx.heap.size wx w')) :
    Calls Try.prog 6 #[.slice xa na xc, .slice ya nb yc, .slice za nc zc] w fun e w' => e = .returned (.bool true) ∧ Below w.heap.size w w' := by
  go_enter Try.func6, Try.ntmps6
  go_wp2_with fail
  refine Calls.mono (few_yes _ _ _ _ h0) ?_
  rintro e w1 ⟨rfl, hw1⟩
  obtain rfl := hw1.symm
  go_wp2_with fail
  refine Calls.mono (few_yes _ _ _ _ h1) ?_
  rintro e w2 ⟨rfl, hw2⟩
  obtain rfl := hw2.symm
  go_wp2_with fail
  refine Calls.mono (few_yes _ _ _ _ h2) ?_
  rintro e w3 ⟨rfl, hw3⟩
  obtain rfl := hw3.symm
  go_wp2_with fail
  refine Calls.mono (HX.out _ (Below.refl _ _)) ?_
  rintro e w4 ⟨rfl, hb4⟩
  have HB4 : Hid (Below w.heap.size w w4) := hb4
  clear hb4
  go_wp2_with fail
  refine Calls.mono (HY.out _ HB4.out) ?_
  rintro e w5 ⟨rfl, hb5⟩
  have HB5 : Hid (Below w.heap.size w w5) := HB4.out.trans (hb5.mono HB4.out.size)
  clear hb5
  go_wp2_with fail
  refine Calls.mono (HZ.out _ HB5.out) ?_
  rintro e w6 ⟨rfl, hb6⟩
  have HB6 : Hid (Below w.heap.size w w6) := HB5.out.trans (hb6.mono HB5.out.size)
  clear hb6
  go_wp2_with fail
  refine Calls.mono (HW.out _ HB6.out) ?_
  rintro e w7 ⟨rfl, hb7⟩
  have HB7 : Hid (Below w.heap.size w w7) := HB6.out.trans (hb7.mono HB6.out.size)
  clear hb7
  go_wp2_with fail
  refine Calls.mono (HS.out _ HB7.out) ?_
  rintro e w8 ⟨rfl, hb8⟩
  have HB8 : Hid (Below w.heap.size w w8) := HB7.out.trans (hb8.mono HB7.out.size)
  clear hb8
  go_wp2_with fail
  refine Calls.mono (lives_any _) ?_
  rintro e w9 ⟨rfl, hb9⟩
  have HB9 : Hid (Below w.heap.size w w9) := HB8.out.trans (hb9.mono HB8.out.size)
  clear hb9
  go_wp2_with fail
  go_ret
  exact ⟨rfl, HB9.out⟩

set_option maxRecDepth 1000000 in
set_option maxHeartbeats 4000000 in
theorem walk3 (xa ya za : Option Addr) (na nb nc xc yc zc : Nat) (r : Nat) (s : Nat) (w : World) (h0 : na ≤ 300) (h1 : nb ≤ 300) (h2 : nc ≤ 300)
    (HX : Hid (∀ wx : World, Below w.heap.size w wx → Calls Try.prog 15 #[.slice xa na xc, .slice ya nb yc] wx fun e w' => e = .returned (.int .i64 3) ∧ Below wx.heap.size wx w'))
    (HY : Hid (∀ wx : World, Below w.heap.size w wx → Calls Try.prog 15 #[.slice ya nb yc, .slice za nc zc] wx fun e w' => e = .returned (.int .i64 (r : Nat)) ∧ Below wx.heap.size wx w'))
    (HZ : Hid (∀ wx : World, Below w.heap.size w wx → Calls Try.prog 15 #[.slice xa na xc, .slice za nc zc] wx fun e w' => e = .returned (.int .i64 (s : Nat)) ∧ Below wx.heap.size wx w'))
    (HW : Hid (∀ wx : World, Below w.heap.size w wx → Calls Try.prog 15 #[.slice ya nb yc, .slice xa na xc] wx fun e w' => e = .returned (.int .i64 3) ∧ Below wx.heap.size wx w'))
    (HS : Hid (∀ wx : World, Below w.heap.size w wx → Calls Try.prog 15 #[.slice xa na xc, .slice xa na xc] wx fun e w' => e = .returned (.int .i64 0) ∧ Below wx.heap.size wx w')) :
    Calls Try.prog 6 #[.slice xa na xc, .slice ya nb yc, .slice za nc zc] w fun e w' => e = .returned (.bool true) ∧ Below w.heap.size w w' := by
  go_enter Try.func6, Try.ntmps6
  go_wp2_with fail
  refine Calls.mono (few_yes _ _ _ _ h0) ?_
  rintro e w1 ⟨rfl, hw1⟩
  obtain rfl := hw1.symm
  go_wp2_with fail
  refine Calls.mono (few_yes _ _ _ _ h1) ?_
  rintro e w2 ⟨rfl, hw2⟩
  obtain rfl := hw2.symm
  go_wp2_with fail
  refine Calls.mono (few_yes _ _ _ _ h2) ?_
  rintro e w3 ⟨rfl, hw3⟩
  obtain rfl := hw3.symm
  go_wp2_with fail
  refine Calls.mono (HX.out _ (Below.refl _ _)) ?_
  rintro e w4 ⟨rfl, hb4⟩
  have HB4 : Hid (Below w.heap.size w w4) := hb4
  clear hb4
  go_wp2_with fail
  refine Calls.mono (HY.out _ HB4.out) ?_
  rintro e w5 ⟨rfl, hb5⟩
  have HB5 : Hid (Below w.heap.size w w5) := HB4.out.trans (hb5.mono HB4.out.size)
  clear hb5
  go_wp2_with fail
  refine Calls.mono (HZ.out _ HB5.out) ?_
  rintro e w6 ⟨rfl, hb6⟩
  have HB6 : Hid (Below w.heap.size w w6) := HB5.out.trans (hb6.mono HB5.out.size)
  clear hb6
  go_wp2_with fail
  refine Calls.mono (HW.out _ HB6.out) ?_
  rintro e w7 ⟨rfl, hb7⟩
  have HB7 : Hid (Below w.heap.size w w7) := HB6.out.trans (hb7.mono HB6.out.size)
  clear hb7
  go_wp2_with fail
  refine Calls.mono (HS.out _ HB7.out) ?_
  rintro e w8 ⟨rfl, hb8⟩
  have HB8 : Hid (Below w.heap.size w w8) := HB7.out.trans (hb8.mono HB7.out.size)
  clear hb8
  go_wp2_with fail
  refine Calls.mono (lives_any _) ?_
  rintro e w9 ⟨rfl, hb9⟩
  have HB9 : Hid (Below w.heap.size w w9) := HB8.out.trans (hb9.mono HB8.out.size)
  clear hb9
  go_wp2_with fail
  go_ret
  exact ⟨rfl, HB9.out⟩

theorem walk (v : Value) (a : List Int) (u : Value) (b : List Int) (t : Value) (c : List Int) (w : World) (hv : RI w v a) (hu : RI w u b) (ht : RI w t c) :
    Calls Try.prog 6 #[v, u, t] w fun e w' => e = .returned (.bool true) ∧ Below w.heap.size w w' := by
  by_cases h : a.length ≤ 300 ∧ b.length ≤ 300 ∧ c.length ≤ 300
  · obtain ⟨h0, h1, h2⟩ := h
    have HX : ∀ wx : World, Below w.heap.size w wx → Calls Try.prog 15 #[v, u] wx fun e w' => e = .returned (.int .i64 (rankZ a b : Nat)) ∧ Below wx.heap.size wx w' := fun wx h => rank_any v u a b wx (hv.later h) (hu.later h) (by omega) (by omega)
    have HY : ∀ wx : World, Below w.heap.size w wx → Calls Try.prog 15 #[u, t] wx fun e w' => e = .returned (.int .i64 (rankZ b c : Nat)) ∧ Below wx.heap.size wx w' := fun wx h => rank_any u t b c wx (hu.later h) (ht.later h) (by omega) (by omega)
    have HZ : ∀ wx : World, Below w.heap.size w wx → Calls Try.prog 15 #[v, t] wx fun e w' => e = .returned (.int .i64 (rankZ a c : Nat)) ∧ Below wx.heap.size wx w' := fun wx h => rank_any v t a c wx (hv.later h) (ht.later h) (by omega) (by omega)
    have HW : ∀ wx : World, Below w.heap.size w wx → Calls Try.prog 15 #[u, v] wx fun e w' => e = .returned (.int .i64 (rankZ b a : Nat)) ∧ Below wx.heap.size wx w' := fun wx h => rank_any u v b a wx (hu.later h) (hv.later h) (by omega) (by omega)
    have HS : ∀ wx : World, Below w.heap.size w wx → Calls Try.prog 15 #[v, v] wx fun e w' => e = .returned (.int .i64 (rankZ a a : Nat)) ∧ Below wx.heap.size wx w' := fun wx h => rank_any v v a a wx (hv.later h) (hv.later h) (by omega) (by omega)
    rw [rank_self] at HS
    obtain ⟨xa, xc, rfl, _⟩ := hv
    obtain ⟨ya, yc, rfl, _⟩ := hu
    obtain ⟨za, zc, rfl, _⟩ := ht
    rcases rank_turn a b with ⟨e1, e2⟩ | ⟨e1, e2⟩ | ⟨e1, e2⟩ | ⟨e1, e2⟩
    · rw [rank_same c e1] at HY
      rw [e1] at HX
      rw [e2] at HW
      exact walk0 xa ya za _ _ _ xc yc zc (rankZ a c) w h0 h1 h2 HX HY HZ HW HS
    · rw [e1] at HX
      rw [e2] at HW
      by_cases hy : rankZ b c = 1
      · rw [rank_before e1 hy] at HZ
        rw [hy] at HY
        exact walk1a xa ya za _ _ _ xc yc zc w h0 h1 h2 HX HY HZ HW HS
      · refine walk1b xa ya za _ _ _ xc yc zc (rankZ b c) (rankZ a c) w h0 h1 h2 ?_ HX HY HZ HW HS
        simp only [bne_iff_ne, ne_eq]
        omega
    · rw [e1] at HX
      rw [e2] at HW
      exact walk2 xa ya za _ _ _ xc yc zc (rankZ b c) (rankZ a c) w h0 h1 h2 HX HY HZ HW HS
    · rw [e1] at HX
      rw [e2] at HW
      exact walk3 xa ya za _ _ _ xc yc zc (rankZ b c) (rankZ a c) w h0 h1 h2 HX HY HZ HW HS
  · exact walk_big v u t a b c w hv hu ht h

open Go.ChangeShapes Go.WideShapes Go.ChangeAt

theorem own : ownKnob Try.prog.godebug = none := by kernel_rfl
theorem laidOut : laidOutB Try.prog = true := by kernel_rfl

set_option maxRecDepth 100000 in
theorem lifted (os : Os) (started : os.Started) (H : Type) (enc : TypeId × Value → H) :
    ReturnsInHanded {} Try.checked os 6 .any (Rows.stampOrderSpec.pre6 enc Try.prog Try.f6 Rows.stampOrderRow.domain false) (Rows.stampOrderSpec.post enc Try.prog Try.f6 false true false false) := by
  refine returnsInHanded_of_change (C := Try.checked) own started (by kernel_rfl) Try.func6
    (ChangeSpec.witness6 (enc := enc) (C := Try.checked) false ⟨#[], #[.slice none 0 0, .slice none 0 0, .slice none 0 0], []⟩ 8 (by kernel_rfl) (by kernel_rfl) (by kernel_rfl) (by kernel_rfl)) ?_
  intro W base args ds gs before hval0 hW hcnd _
  have hval : ∀ (j : Nat) t v, Try.f6.params[j]? = some t → args[j]? = some v → Value.okWide Try.prog W .any base t v := hval0
  have hW' := hW
  obtain ⟨p, q, hA0, hV, rfl, hfz, hnd⟩ := hW
  have hA : DataW.TrodAll enc Try.prog W 0 (fun _ => true) true Try.f6.params.toList args.toList ds p := hA0
  rw [Try.params6] at hA hval
  obtain ⟨v0, vs0, d0, ds0, p0, q0, hargs, rfl, rfl, h0, r0⟩ := trodAll_cons hA
  obtain ⟨v1, vs1, d1, ds1, p1, q1, rfl, rfl, rfl, h1, r1⟩ := trodAll_cons r0
  obtain ⟨v2, vs2, d2, ds2, p2, q2, rfl, rfl, rfl, h2, r2⟩ := trodAll_cons r1
  obtain ⟨rfl, rfl, rfl⟩ := trodAll_nil r2
  obtain rfl : args = #[v0, v1, v2] := by cases args; simp_all
  obtain ⟨rfl, rfl⟩ := trodVars_none hV
  obtain ⟨a0, len0, cap0, rfl⟩ := okWide_slice Try.underlying22 (hval 0 22 v0 rfl rfl)
  have k0 := h0
  have lt0 : ∀ x ∈ p0, x.block < W.heap.size := by obtain ⟨m, hm⟩ := k0; exact DataW.trod_lt m _ _ _ hm
  obtain ⟨z0, w0⟩ : ∃ L, RI W (.slice a0 len0 cap0) L := by
    obtain ⟨fuel, hf⟩ := h0
    obtain ⟨v, l, hv, hl⟩ := open_i64s hf
    simp [Value.cells] at hv
    subst hv
    exact ⟨l, hl⟩
  obtain ⟨a1, len1, cap1, rfl⟩ := okWide_slice Try.underlying22 (hval 1 22 v1 rfl rfl)
  have k1 := h1
  have lt1 : ∀ x ∈ p1, x.block < W.heap.size := by obtain ⟨m, hm⟩ := k1; exact DataW.trod_lt m _ _ _ hm
  obtain ⟨z1, w1⟩ : ∃ L, RI W (.slice a1 len1 cap1) L := by
    obtain ⟨fuel, hf⟩ := h1
    obtain ⟨v, l, hv, hl⟩ := open_i64s hf
    simp [Value.cells] at hv
    subst hv
    exact ⟨l, hl⟩
  obtain ⟨a2, len2, cap2, rfl⟩ := okWide_slice Try.underlying22 (hval 2 22 v2 rfl rfl)
  have k2 := h2
  have lt2 : ∀ x ∈ p2, x.block < W.heap.size := by obtain ⟨m, hm⟩ := k2; exact DataW.trod_lt m _ _ _ hm
  obtain ⟨z2, w2⟩ : ∃ L, RI W (.slice a2 len2 cap2) L := by
    obtain ⟨fuel, hf⟩ := h2
    obtain ⟨v, l, hv, hl⟩ := open_i64s hf
    simp [Value.cells] at hv
    subst hv
    exact ⟨l, hl⟩
  clear hA0 hval0
  refine (walk (.slice a0 len0 cap0) z0 (.slice a1 len1 cap1) z1 (.slice a2 len2 cap2) z2 W w0 w1 w2).mono fun e W' ⟨he, bel⟩ => ?_
  subst he
  exact ⟨_, rfl, _, _, _, [], _, [], hW', trodAll_mk1 (shut_bool Try.underlying4 _), (trodAll_cons_mk (Below.trod laidOut (by kernel_rfl) (of_decide_eq_true (by kernel_rfl)) k0 bel lt0) (trodAll_cons_mk (Below.trod laidOut (by kernel_rfl) (of_decide_eq_true (by kernel_rfl)) k1 bel lt1) (trodAll_cons_mk (Below.trod laidOut (by kernel_rfl) (of_decide_eq_true (by kernel_rfl)) k2 bel lt2) trodAll_mk0))), rfl, bel.frame _, fun h => by cases h⟩

theorem over : Rows.stampOrderRow.holds Try.pinned (OpenSpec.ofChange Rows.stampOrderSpec) :=
  OpenClaim.holds_of_wide 6 Try.f6 rfl rfl rfl rfl rfl rfl rfl ⟨rfl, rfl, rfl, rfl, rfl⟩ rfl rfl rfl rfl rfl (by kernel_rfl) Try.func6 (by kernel_rfl)
    (of_decide_eq_true (by kernel_rfl)) (by unfold Func.isWrapper; first | (rw [if_pos (by decide +kernel)]; kernel_rfl) | (rw [if_neg (by decide +kernel)]; exact ⟨rfl, rfl⟩))
    (fun os started H enc _ => lifted os started H enc)
end Go.Proofs.Ytjpeefibdpjfaaa.stampOrder
namespace Go.Proofs.Ytjpeefibdpjfaaa

theorem stampOrder_holds : Rows.StampOrderSaid := stampOrder.over
#print axioms stampOrder_holds
end Go.Proofs.Ytjpeefibdpjfaaa
