/- StampLeast: for all counts a, b and c: of one length the join is behind both and the least that is; proved in full, nothing is asked of the input. -/
import Derived.Test.YtjpeefibdpjfaaaRows
import Derived.Test.YtjpeefibdpjfaaaSj
import Derived.ProofKit
import Derived.OpenShut
import Derived.ShutString
import Derived.ChangeOld
namespace Go.Proofs.Ytjpeefibdpjfaaa.stampLeast
open Go.RowKit
set_option linter.unusedVariables false

set_option maxRecDepth 1000000 in
set_option maxHeartbeats 4000000 in
theorem ab_any (v u : Value) (x y : List Int) (w : World) (hv : RI w v x) (hu : RI w u y) (hx : x.length ≤ 1000000) (hy : y.length ≤ 1000000) :
    Calls Try.prog 28 #[v, u] w fun e w' => e = .returned (.bool (leB y x)) ∧ Below w.heap.size w w' := by
  have HK : Hid (∀ wx, Below w.heap.size w wx → _) := fun wx h => rank_any v u x y wx (hv.later h) (hu.later h) hx hy
  unfold rankZ at HK
  obtain ⟨xa, xc, rfl, _⟩ := hv
  obtain ⟨ya, yc, rfl, _⟩ := hu
  generalize leB x y = p at *
  generalize leB y x = q at *
  generalize x.length = nx at *
  generalize y.length = ny at *
  cases q
  · have HK2 : Hid (∀ wx, Below w.heap.size w wx → Calls Try.prog 15 #[.slice xa nx xc, .slice ya ny yc] wx fun e w' => ∃ r : Nat, e = .returned (.int .i64 (r : Nat)) ∧ (((r : Nat) : Int) == 2) = false ∧ (((r : Nat) : Int) == 0) = false ∧ Below wx.heap.size wx w') := by
      show ∀ wx, _
      intro wx h
      refine Calls.mono (HK.out wx h) ?_
      rintro e w' ⟨h1, h2⟩
      refine ⟨_, h1, ?_, ?_, h2⟩ <;> cases p <;> rfl
    clear HK
    go_enter Try.func28, Try.ntmps28
    go_wp2_with fail
    refine Calls.mono (HK2.out _ (Below.refl _ _)) ?_
    rintro e w1 ⟨r1, rfl, e1, e2, hb1⟩
    have HB1 : Hid _ := hb1
    clear hb1
    go_wp2_with fail
    refine Calls.mono (HK2.out _ HB1.out) ?_
    rintro e w2 ⟨r2, rfl, e3, e4, hb2⟩
    have HB2 : Hid (Below w.heap.size w w2) := HB1.out.trans (hb2.mono HB1.out.size)
    clear hb2
    go_wp2_with fail
    go_ret
    exact ⟨rfl, HB2.out⟩
  · cases p
    · have HK2 : Hid (Calls Try.prog 15 #[.slice xa nx xc, .slice ya ny yc] w fun e w' => e = .returned (.int .i64 2) ∧ Below w.heap.size w w') := HK.out w (Below.refl _ _)
      clear HK
      go_enter Try.func28, Try.ntmps28
      go_wp2_with fail
      refine Calls.mono HK2.out ?_
      rintro e w1 ⟨rfl, hb1⟩
      go_wp2_with fail
      go_ret
      exact ⟨rfl, hb1⟩
    · have HK2 : Hid (∀ wx, Below w.heap.size w wx → Calls Try.prog 15 #[.slice xa nx xc, .slice ya ny yc] wx fun e w' => e = .returned (.int .i64 0) ∧ Below wx.heap.size wx w') := fun wx h => HK.out wx h
      clear HK
      go_enter Try.func28, Try.ntmps28
      go_wp2_with fail
      refine Calls.mono (HK2.out _ (Below.refl _ _)) ?_
      rintro e w1 ⟨rfl, hb1⟩
      have HB1 : Hid _ := hb1
      clear hb1
      go_wp2_with fail
      refine Calls.mono (HK2.out _ HB1.out) ?_
      rintro e w2 ⟨rfl, hb2⟩
      have HB2 : Hid (Below w.heap.size w w2) := HB1.out.trans (hb2.mono HB1.out.size)
      clear hb2
      go_wp2_with fail
      go_ret
      exact ⟨rfl, HB2.out⟩

set_option maxRecDepth 1000000 in
set_option maxHeartbeats 4000000 in
theorem walk_big (v u t : Value) (a b c : List Int) (w : World) (hv : RI w v a) (hu : RI w u b) (ht : RI w t c) (h : ¬ (a.length ≤ 300 ∧ a.length = b.length ∧ b.length = c.length)) :
    Calls Try.prog 7 #[v, u, t] w fun e w' => e = .returned (.bool true) ∧ Below w.heap.size w w' := by
  obtain ⟨xa, xc, rfl, q1, q2, _⟩ := hv
  obtain ⟨ya, yc, rfl, q3, q4, _⟩ := hu
  obtain ⟨za, zc, rfl, q5, q6, _⟩ := ht
  generalize a.length = na at *
  generalize b.length = nb at *
  generalize c.length = nc at *
  by_cases h0 : na ≤ 300
  · by_cases h1 : na = nb
    · have h2 : (((nb : Nat) : Int) != ((nc : Nat) : Int)) = true := by
        simp only [bne_iff_ne, ne_eq]
        omega
      have h3 : (((na : Nat) : Int) != ((nb : Nat) : Int)) = false := by simp [h1]
      clear h h1
      go_enter Try.func7, Try.ntmps7
      go_wp2_with fail
      refine Calls.mono (few_yes _ _ _ _ h0) ?_
      rintro e w1 ⟨rfl, hw1⟩
      obtain rfl := hw1.symm
      go_wp2_with fail
      refine Calls.mono (lives_any _) ?_
      rintro e wz ⟨rfl, hbz⟩
      go_wp2_with fail
      go_ret
      exact ⟨rfl, hbz⟩
    · have h2 : (((na : Nat) : Int) != ((nb : Nat) : Int)) = true := by
        simp only [bne_iff_ne, ne_eq]
        omega
      clear h h1
      go_enter Try.func7, Try.ntmps7
      go_wp2_with fail
      refine Calls.mono (few_yes _ _ _ _ h0) ?_
      rintro e w1 ⟨rfl, hw1⟩
      obtain rfl := hw1.symm
      go_wp2_with fail
      refine Calls.mono (lives_any _) ?_
      rintro e wz ⟨rfl, hbz⟩
      go_wp2_with fail
      go_ret
      exact ⟨rfl, hbz⟩
  · have h0 : 300 < na := by omega
    clear h
    go_enter Try.func7, Try.ntmps7
    go_wp2_with fail
    refine Calls.mono (few_no _ _ _ _ h0) ?_
    rintro e w1 ⟨rfl, hw1⟩
    obtain rfl := hw1.symm
    go_wp2_with fail
    refine Calls.mono (lives_any _) ?_
    rintro e wz ⟨rfl, hbz⟩
    go_wp2_with fail
    go_ret
    exact ⟨rfl, hbz⟩

set_option maxRecDepth 1000000 in
set_option maxHeartbeats 4000000 in
theorem walk_n (xa ya za : Option Addr) (xc yc zc : Nat) (a j : List Int) (w : World) (h0 : a.length ≤ 300) (hjl : j.length ≤ 1000000) (hal : a.length ≤ 1000000)
    (HV : Hid (∀ wx : World, Below w.heap.size w wx → RI wx (.slice xa a.length xc) a))
    (HJa : Hid (∀ wx : World, Below w.heap.size w wx → Calls Try.prog 18 #[.slice xa a.length xc, .slice ya a.length yc] wx fun e w' => ListV j wx.heap.size wx e w'))
    (HA1 : Hid (∀ (wx : World) (u : Value), Below w.heap.size w wx → RI wx u j → Calls Try.prog 28 #[u, .slice xa a.length xc] wx fun e w' => e = .returned (.bool true) ∧ Below wx.heap.size wx w'))
    (HA2 : Hid (∀ (wx : World) (u : Value), Below w.heap.size w wx → RI wx u j → Calls Try.prog 28 #[u, .slice ya a.length yc] wx fun e w' => e = .returned (.bool true) ∧ Below wx.heap.size wx w'))
    (HJb : Hid (∀ wx : World, Below w.heap.size w wx → Calls Try.prog 18 #[.slice ya a.length yc, .slice xa a.length xc] wx fun e w' => ListV j wx.heap.size wx e w'))
    (HJc : Hid (∀ wx : World, Below w.heap.size w wx → Calls Try.prog 18 #[.slice xa a.length xc, .slice xa a.length xc] wx fun e w' => ListV a wx.heap.size wx e w'))
    (HC1 : Hid (∀ wx : World, Below w.heap.size w wx → Calls Try.prog 28 #[.slice za a.length zc, .slice xa a.length xc] wx fun e w' => e = .returned (.bool false) ∧ Below wx.heap.size wx w')) :
    Calls Try.prog 7 #[.slice xa a.length xc, .slice ya a.length yc, .slice za a.length zc] w fun e w' => e = .returned (.bool true) ∧ Below w.heap.size w w' := by
  go_enter Try.func7, Try.ntmps7
  go_wp2_with fail
  refine Calls.mono (few_yes _ _ _ _ h0) ?_
  rintro e w1 ⟨rfl, hw1⟩
  obtain rfl := hw1.symm
  go_wp2_with fail
  refine Calls.mono (HJa.out _ (Below.refl _ _)) ?_
  rintro e w2 ⟨vj, cj, rfl, hr2, hb2⟩
  have HB2 : Hid (Below w.heap.size w w2) := hb2
  have HJ2 : Hid (RI w2 (.slice vj j.length cj) j) := hr2
  clear hr2
  clear hb2
  go_wp2_with fail
  refine Calls.mono (HA1.out _ _ HB2.out HJ2.out) ?_
  rintro e w3 ⟨rfl, hb3⟩
  have HB3 : Hid (Below w.heap.size w w3) := HB2.out.trans (hb3.mono HB2.out.size)
  have HJ3 : Hid (RI w3 (.slice vj j.length cj) j) := HJ2.out.later hb3
  clear hb3
  go_wp2_with fail
  refine Calls.mono (HA2.out _ _ HB3.out HJ3.out) ?_
  rintro e w4 ⟨rfl, hb4⟩
  have HB4 : Hid (Below w.heap.size w w4) := HB3.out.trans (hb4.mono HB3.out.size)
  have HJ4 : Hid (RI w4 (.slice vj j.length cj) j) := HJ3.out.later hb4
  clear hb4
  go_wp2_with fail
  refine Calls.mono (HJb.out _ HB4.out) ?_
  rintro e w5 ⟨vk, ck, rfl, hr5, hb5⟩
  have HB5 : Hid (Below w.heap.size w w5) := HB4.out.trans (hb5.mono HB4.out.size)
  have HJ5 : Hid (RI w5 (.slice vj j.length cj) j) := HJ4.out.later hb5
  have HSM : Hid _ := same_any j j _ _ w5 hr5 HJ5.out hjl hjl
  rw [show decide (j = j) = true from decide_eq_true rfl] at HSM
  clear hr5
  clear hb5
  go_wp2_with fail
  refine Calls.mono (HSM.out) ?_
  rintro e w6 ⟨rfl, hb6⟩
  have HB6 : Hid (Below w.heap.size w w6) := HB5.out.trans (hb6.mono HB5.out.size)
  have HJ6 : Hid (RI w6 (.slice vj j.length cj) j) := HJ5.out.later hb6
  clear hb6
  go_wp2_with fail
  refine Calls.mono (HJc.out _ HB6.out) ?_
  rintro e w7 ⟨vl, cl, rfl, hr7, hb7⟩
  have HB7 : Hid (Below w.heap.size w w7) := HB6.out.trans (hb7.mono HB6.out.size)
  have HJ7 : Hid (RI w7 (.slice vj j.length cj) j) := HJ6.out.later hb7
  have HSN : Hid _ := same_any a a _ _ w7 hr7 (HV.out _ HB7.out) hal hal
  rw [show decide (a = a) = true from decide_eq_true rfl] at HSN
  clear hr7
  clear hb7
  go_wp2_with fail
  refine Calls.mono (HSN.out) ?_
  rintro e w8 ⟨rfl, hb8⟩
  have HB8 : Hid (Below w.heap.size w w8) := HB7.out.trans (hb8.mono HB7.out.size)
  have HJ8 : Hid (RI w8 (.slice vj j.length cj) j) := HJ7.out.later hb8
  clear hb8
  go_wp2_with fail
  refine Calls.mono (HC1.out _ HB8.out) ?_
  rintro e w9 ⟨rfl, hb9⟩
  have HB9 : Hid (Below w.heap.size w w9) := HB8.out.trans (hb9.mono HB8.out.size)
  have HJ9 : Hid (RI w9 (.slice vj j.length cj) j) := HJ8.out.later hb9
  clear hb9
  go_wp2_with fail
  refine Calls.mono (lives_any _) ?_
  rintro e w10 ⟨rfl, hb10⟩
  have HB10 : Hid (Below w.heap.size w w10) := HB9.out.trans (hb10.mono HB9.out.size)
  clear hb10
  go_wp2_with fail
  go_ret
  exact ⟨rfl, HB10.out⟩

set_option maxRecDepth 1000000 in
set_option maxHeartbeats 4000000 in
theorem walk_yn (xa ya za : Option Addr) (xc yc zc : Nat) (a j : List Int) (w : World) (h0 : a.length ≤ 300) (hjl : j.length ≤ 1000000) (hal : a.length ≤ 1000000)
    (HV : Hid (∀ wx : World, Below w.heap.size w wx → RI wx (.slice xa a.length xc) a))
    (HJa : Hid (∀ wx : World, Below w.heap.size w wx → Calls Try.prog 18 #[.slice xa a.length xc, .slice ya a.length yc] wx fun e w' => ListV j wx.heap.size wx e w'))
    (HA1 : Hid (∀ (wx : World) (u : Value), Below w.heap.size w wx → RI wx u j → Calls Try.prog 28 #[u, .slice xa a.length xc] wx fun e w' => e = .returned (.bool true) ∧ Below wx.heap.size wx w'))
    (HA2 : Hid (∀ (wx : World) (u : Value), Below w.heap.size w wx → RI wx u j → Calls Try.prog 28 #[u, .slice ya a.length yc] wx fun e w' => e = .returned (.bool true) ∧ Below wx.heap.size wx w'))
    (HJb : Hid (∀ wx : World, Below w.heap.size w wx → Calls Try.prog 18 #[.slice ya a.length yc, .slice xa a.length xc] wx fun e w' => ListV j wx.heap.size wx e w'))
    (HJc : Hid (∀ wx : World, Below w.heap.size w wx → Calls Try.prog 18 #[.slice xa a.length xc, .slice xa a.length xc] wx fun e w' => ListV a wx.heap.size wx e w'))
    (HC1 : Hid (∀ wx : World, Below w.heap.size w wx → Calls Try.prog 28 #[.slice za a.length zc, .slice xa a.length xc] wx fun e w' => e = .returned (.bool true) ∧ Below wx.heap.size wx w'))
    (HC2 : Hid (∀ wx : World, Below w.heap.size w wx → Calls Try.prog 28 #[.slice za a.length zc, .slice ya a.length yc] wx fun e w' => e = .returned (.bool false) ∧ Below wx.heap.size wx w')) :
    Calls Try.prog 7 #[.slice xa a.length xc, .slice ya a.length yc, .slice za a.length zc] w fun e w' => e = .returned (.bool true) ∧ Below w.heap.size w w' := by
  go_enter Try.func7, Try.ntmps7
  go_wp2_with fail
  refine Calls.mono (few_yes _ _ _ _ h0) ?_
  rintro e w1 ⟨rfl, hw1⟩
  obtain rfl := hw1.symm
  go_wp2_with fail
  refine Calls.mono (HJa.out _ (Below.refl _ _)) ?_
  rintro e w2 ⟨vj, cj, rfl, hr2, hb2⟩
  have HB2 : Hid (Below w.heap.size w w2) := hb2
  have HJ2 : Hid (RI w2 (.slice vj j.length cj) j) := hr2
  clear hr2
  clear hb2
  go_wp2_with fail
  refine Calls.mono (HA1.out _ _ HB2.out HJ2.out) ?_
  rintro e w3 ⟨rfl, hb3⟩
  have HB3 : Hid (Below w.heap.size w w3) := HB2.out.trans (hb3.mono HB2.out.size)
  have HJ3 : Hid (RI w3 (.slice vj j.length cj) j) := HJ2.out.later hb3
  clear hb3
  go_wp2_with fail
  refine Calls.mono (HA2.out _ _ HB3.out HJ3.out) ?_
  rintro e w4 ⟨rfl, hb4⟩
  have HB4 : Hid (Below w.heap.size w w4) := HB3.out.trans (hb4.mono HB3.out.size)
  have HJ4 : Hid (RI w4 (.slice vj j.length cj) j) := HJ3.out.later hb4
  clear hb4
  go_wp2_with fail
  refine Calls.mono (HJb.out _ HB4.out) ?_
  rintro e w5 ⟨vk, ck, rfl, hr5, hb5⟩
  have HB5 : Hid (Below w.heap.size w w5) := HB4.out.trans (hb5.mono HB4.out.size)
  have HJ5 : Hid (RI w5 (.slice vj j.length cj) j) := HJ4.out.later hb5
  have HSM : Hid _ := same_any j j _ _ w5 hr5 HJ5.out hjl hjl
  rw [show decide (j = j) = true from decide_eq_true rfl] at HSM
  clear hr5
  clear hb5
  go_wp2_with fail
  refine Calls.mono (HSM.out) ?_
  rintro e w6 ⟨rfl, hb6⟩
  have HB6 : Hid (Below w.heap.size w w6) := HB5.out.trans (hb6.mono HB5.out.size)
  have HJ6 : Hid (RI w6 (.slice vj j.length cj) j) := HJ5.out.later hb6
  clear hb6
  go_wp2_with fail
  refine Calls.mono (HJc.out _ HB6.out) ?_
  rintro e w7 ⟨vl, cl, rfl, hr7, hb7⟩
  have HB7 : Hid (Below w.heap.size w w7) := HB6.out.trans (hb7.mono HB6.out.size)
  have HJ7 : Hid (RI w7 (.slice vj j.length cj) j) := HJ6.out.later hb7
  have HSN : Hid _ := same_any a a _ _ w7 hr7 (HV.out _ HB7.out) hal hal
  rw [show decide (a = a) = true from decide_eq_true rfl] at HSN
  clear hr7
  clear hb7
  go_wp2_with fail
  refine Calls.mono (HSN.out) ?_
  rintro e w8 ⟨rfl, hb8⟩
  have HB8 : Hid (Below w.heap.size w w8) := HB7.out.trans (hb8.mono HB7.out.size)
  have HJ8 : Hid (RI w8 (.slice vj j.length cj) j) := HJ7.out.later hb8
  clear hb8
  go_wp2_with fail
  refine Calls.mono (HC1.out _ HB8.out) ?_
  rintro e w9 ⟨rfl, hb9⟩
  have HB9 : Hid (Below w.heap.size w w9) := HB8.out.trans (hb9.mono HB8.out.size)
  have HJ9 : Hid (RI w9 (.slice vj j.length cj) j) := HJ8.out.later hb9
  clear hb9
  go_wp2_with fail
  refine Calls.mono (HC2.out _ HB9.out) ?_
  rintro e w10 ⟨rfl, hb10⟩
  have HB10 : Hid (Below w.heap.size w w10) := HB9.out.trans (hb10.mono HB9.out.size)
  have HJ10 : Hid (RI w10 (.slice vj j.length cj) j) := HJ9.out.later hb10
  clear hb10
  go_wp2_with fail
  refine Calls.mono (lives_any _) ?_
  rintro e w11 ⟨rfl, hb11⟩
  have HB11 : Hid (Below w.heap.size w w11) := HB10.out.trans (hb11.mono HB10.out.size)
  clear hb11
  go_wp2_with fail
  go_ret
  exact ⟨rfl, HB11.out⟩

set_option maxRecDepth 1000000 in
set_option maxHeartbeats 4000000 in
theorem walk_yy (xa ya za : Option Addr) (xc yc zc : Nat) (a j : List Int) (w : World) (h0 : a.length ≤ 300) (hjl : j.length ≤ 1000000) (hal : a.length ≤ 1000000)
    (HV : Hid (∀ wx : World, Below w.heap.size w wx → RI wx (.slice xa a.length xc) a))
    (HJa : Hid (∀ wx : World, Below w.heap.size w wx → Calls Try.prog 18 #[.slice xa a.length xc, .slice ya a.length yc] wx fun e w' => ListV j wx.heap.size wx e w'))
    (HA1 : Hid (∀ (wx : World) (u : Value), Below w.heap.size w wx → RI wx u j → Calls Try.prog 28 #[u, .slice xa a.length xc] wx fun e w' => e = .returned (.bool true) ∧ Below wx.heap.size wx w'))
    (HA2 : Hid (∀ (wx : World) (u : Value), Below w.heap.size w wx → RI wx u j → Calls Try.prog 28 #[u, .slice ya a.length yc] wx fun e w' => e = .returned (.bool true) ∧ Below wx.heap.size wx w'))
    (HJb : Hid (∀ wx : World, Below w.heap.size w wx → Calls Try.prog 18 #[.slice ya a.length yc, .slice xa a.length xc] wx fun e w' => ListV j wx.heap.size wx e w'))
    (HJc : Hid (∀ wx : World, Below w.heap.size w wx → Calls Try.prog 18 #[.slice xa a.length xc, .slice xa a.length xc] wx fun e w' => ListV a wx.heap.size wx e w'))
    (HC1 : Hid (∀ wx : World, Below w.heap.size w wx → Calls Try.prog 28 #[.slice za a.length zc, .slice xa a.length xc] wx fun e w' => e = .returned (.bool true) ∧ Below wx.heap.size wx w'))
    (HC2 : Hid (∀ wx : World, Below w.heap.size w wx → Calls Try.prog 28 #[.slice za a.length zc, .slice ya a.length yc] wx fun e w' => e = .returned (.bool true) ∧ Below wx.heap.size wx w'))
    (HC3 : Hid (∀ (wx : World) (u : Value), Below w.heap.size w wx → RI wx u j → Calls Try.prog 28 #[.slice za a.length zc, u] wx fun e w' => e = .returned (.bool true) ∧ Below wx.heap.size wx w')) :
    Calls Try.prog 7 #[.slice xa a.length xc, .slice ya a.length yc, .slice za a.length zc] w fun e w' => e = .returned (.bool true) ∧ Below w.heap.size w w' := by
  go_enter Try.func7, Try.ntmps7
  go_wp2_with fail
  refine Calls.mono (few_yes _ _ _ _ h0) ?_
  rintro e w1 ⟨rfl, hw1⟩
  obtain rfl := hw1.symm
  go_wp2_with fail
  refine Calls.mono (HJa.out _ (Below.refl _ _)) ?_
  rintro e w2 ⟨vj, cj, rfl, hr2, hb2⟩
  have HB2 : Hid (Below w.heap.size w w2) := hb2
  have HJ2 : Hid (RI w2 (.slice vj j.length cj) j) := hr2
  clear hr2
  clear hb2
  go_wp2_with fail
  refine Calls.mono (HA1.out _ _ HB2.out HJ2.out) ?_
  rintro e w3 ⟨rfl, hb3⟩
  have HB3 : Hid (Below w.heap.size w w3) := HB2.out.trans (hb3.mono HB2.out.size)
  have HJ3 : Hid (RI w3 (.slice vj j.length cj) j) := HJ2.out.later hb3
  clear hb3
  go_wp2_with fail
  refine Calls.mono (HA2.out _ _ HB3.out HJ3.out) ?_
  rintro e w4 ⟨rfl, hb4⟩
  have HB4 : Hid (Below w.heap.size w w4) := HB3.out.trans (hb4.mono HB3.out.size)
  have HJ4 : Hid (RI w4 (.slice vj j.length cj) j) := HJ3.out.later hb4
  clear hb4
  go_wp2_with fail
  refine Calls.mono (HJb.out _ HB4.out) ?_
  rintro e w5 ⟨vk, ck, rfl, hr5, hb5⟩
  have HB5 : Hid (Below w.heap.size w w5) := HB4.out.trans (hb5.mono HB4.out.size)
  have HJ5 : Hid (RI w5 (.slice vj j.length cj) j) := HJ4.out.later hb5
  have HSM : Hid _ := same_any j j _ _ w5 hr5 HJ5.out hjl hjl
  rw [show decide (j = j) = true from decide_eq_true rfl] at HSM
  clear hr5
  clear hb5
  go_wp2_with fail
  refine Calls.mono (HSM.out) ?_
  rintro e w6 ⟨rfl, hb6⟩
  have HB6 : Hid (Below w.heap.size w w6) := HB5.out.trans (hb6.mono HB5.out.size)
  have HJ6 : Hid (RI w6 (.slice vj j.length cj) j) := HJ5.out.later hb6
  clear hb6
  go_wp2_with fail
  refine Calls.mono (HJc.out _ HB6.out) ?_
  rintro e w7 ⟨vl, cl, rfl, hr7, hb7⟩
  have HB7 : Hid (Below w.heap.size w w7) := HB6.out.trans (hb7.mono HB6.out.size)
  have HJ7 : Hid (RI w7 (.slice vj j.length cj) j) := HJ6.out.later hb7
  have HSN : Hid _ := same_any a a _ _ w7 hr7 (HV.out _ HB7.out) hal hal
  rw [show decide (a = a) = true from decide_eq_true rfl] at HSN
  clear hr7
  clear hb7
  go_wp2_with fail
  refine Calls.mono (HSN.out) ?_
  rintro e w8 ⟨rfl, hb8⟩
  have HB8 : Hid (Below w.heap.size w w8) := HB7.out.trans (hb8.mono HB7.out.size)
  have HJ8 : Hid (RI w8 (.slice vj j.length cj) j) := HJ7.out.later hb8
  clear hb8
  go_wp2_with fail
  refine Calls.mono (HC1.out _ HB8.out) ?_
  rintro e w9 ⟨rfl, hb9⟩
  have HB9 : Hid (Below w.heap.size w w9) := HB8.out.trans (hb9.mono HB8.out.size)
  have HJ9 : Hid (RI w9 (.slice vj j.length cj) j) := HJ8.out.later hb9
  clear hb9
  go_wp2_with fail
  refine Calls.mono (HC2.out _ HB9.out) ?_
  rintro e w10 ⟨rfl, hb10⟩
  have HB10 : Hid (Below w.heap.size w w10) := HB9.out.trans (hb10.mono HB9.out.size)
  have HJ10 : Hid (RI w10 (.slice vj j.length cj) j) := HJ9.out.later hb10
  clear hb10
  go_wp2_with fail
  refine Calls.mono (HC3.out _ _ HB10.out HJ10.out) ?_
  rintro e w11 ⟨rfl, hb11⟩
  have HB11 : Hid (Below w.heap.size w w11) := HB10.out.trans (hb11.mono HB10.out.size)
  have HJ11 : Hid (RI w11 (.slice vj j.length cj) j) := HJ10.out.later hb11
  clear hb11
  go_wp2_with fail
  refine Calls.mono (lives_any _) ?_
  rintro e w12 ⟨rfl, hb12⟩
  have HB12 : Hid (Below w.heap.size w w12) := HB11.out.trans (hb12.mono HB11.out.size)
  clear hb12
  go_wp2_with fail
  go_ret
  exact ⟨rfl, HB12.out⟩

theorem walk (v : Value) (a : List Int) (u : Value) (b : List Int) (t : Value) (c : List Int) (w : World) (hv : RI w v a) (hu : RI w u b) (ht : RI w t c) :
    Calls Try.prog 7 #[v, u, t] w fun e w' => e = .returned (.bool true) ∧ Below w.heap.size w w' := by
  by_cases h : a.length ≤ 300 ∧ a.length = b.length ∧ b.length = c.length
  · obtain ⟨h0, h1, h2⟩ := h
    have hjl : (joinL a b).length ≤ 1000000 := by rw [join_len]; omega
    have hal : a.length ≤ 1000000 := by omega
    have HV : ∀ wx : World, Below w.heap.size w wx → RI wx v a := fun wx h => hv.later h
    have HJ : ∀ wx : World, Below w.heap.size w wx → Calls Try.prog 18 #[v, u] wx fun e w' => ListV (joinL a b) wx.heap.size wx e w' := fun wx h => join_any v u a b wx (hv.later h) (hu.later h) (by omega) (by omega)
    have HJ2 : ∀ wx : World, Below w.heap.size w wx → Calls Try.prog 18 #[u, v] wx fun e w' => ListV (joinL b a) wx.heap.size wx e w' := fun wx h => join_any u v b a wx (hu.later h) (hv.later h) (by omega) (by omega)
    have HJ3 : ∀ wx : World, Below w.heap.size w wx → Calls Try.prog 18 #[v, v] wx fun e w' => ListV (joinL a a) wx.heap.size wx e w' := fun wx h => join_any v v a a wx (hv.later h) (hv.later h) (by omega) (by omega)
    rw [join_comm] at HJ2
    rw [join_self] at HJ3
    have HA1 : ∀ (wx : World) (x : Value), Below w.heap.size w wx → RI wx x (joinL a b) → Calls Try.prog 28 #[x, v] wx fun e w' => e = .returned (.bool true) ∧ Below wx.heap.size wx w' := fun wx x h hx => by
      have := ab_any x v (joinL a b) a wx hx (hv.later h) hjl hal
      rw [join_l] at this
      exact this
    have HA2 : ∀ (wx : World) (x : Value), Below w.heap.size w wx → RI wx x (joinL a b) → Calls Try.prog 28 #[x, u] wx fun e w' => e = .returned (.bool true) ∧ Below wx.heap.size wx w' := fun wx x h hx => by
      have := ab_any x u (joinL a b) b wx hx (hu.later h) hjl (by omega)
      rw [join_r] at this
      exact this
    have HC1 : ∀ wx : World, Below w.heap.size w wx → Calls Try.prog 28 #[t, v] wx fun e w' => e = .returned (.bool (leB a c)) ∧ Below wx.heap.size wx w' := fun wx h => ab_any t v c a wx (ht.later h) (hv.later h) (by omega) (by omega)
    have HC2 : ∀ wx : World, Below w.heap.size w wx → Calls Try.prog 28 #[t, u] wx fun e w' => e = .returned (.bool (leB b c)) ∧ Below wx.heap.size wx w' := fun wx h => ab_any t u c b wx (ht.later h) (hu.later h) (by omega) (by omega)
    have HC3 : leB a c = true → leB b c = true → ∀ (wx : World) (x : Value), Below w.heap.size w wx → RI wx x (joinL a b) → Calls Try.prog 28 #[t, x] wx fun e w' => e = .returned (.bool true) ∧ Below wx.heap.size wx w' := fun k1 k2 wx x h hx => by
      have := ab_any t x c (joinL a b) wx (ht.later h) hx (by omega) hjl
      rw [join_least k1 k2] at this
      exact this
    generalize joinL a b = j at *
    obtain ⟨xa, xc, rfl, _⟩ := hv
    obtain ⟨ya, yc, rfl, _⟩ := hu
    obtain ⟨za, zc, rfl, _⟩ := ht
    rw [← h2, ← h1] at HC1 HC2 HC3
    rw [← h2, ← h1]
    rw [← h1] at HJ HJ2 HA2
    cases hp : leB a c with
    | false =>
      rw [hp] at HC1
      exact walk_n xa ya za xc yc zc a j w h0 hjl hal HV HJ HA1 HA2 HJ2 HJ3 HC1
    | true =>
      rw [hp] at HC1
      cases hq : leB b c with
      | false =>
        rw [hq] at HC2
        exact walk_yn xa ya za xc yc zc a j w h0 hjl hal HV HJ HA1 HA2 HJ2 HJ3 HC1 HC2
      | true =>
        rw [hq] at HC2
        exact walk_yy xa ya za xc yc zc a j w h0 hjl hal HV HJ HA1 HA2 HJ2 HJ3 HC1 HC2 (HC3 hp hq)
  · exact walk_big v u t a b c w hv hu ht h

open Go.ChangeShapes Go.WideShapes Go.ChangeAt

theorem own : ownKnob Try.prog.godebug = none := by kernel_rfl
theorem laidOut : laidOutB Try.prog = true := by kernel_rfl

set_option maxRecDepth 100000 in
theorem lifted (os : Os) (started : os.Started) (H : Type) (enc : TypeId × Value → H) :
    ReturnsInHanded {} Try.checked os 7 .any (Rows.stampLeastSpec.pre6 enc Try.prog Try.f7 Rows.stampLeastRow.domain false) (Rows.stampLeastSpec.post enc Try.prog Try.f7 false true false false) := by
  refine returnsInHanded_of_change (C := Try.checked) own started (by kernel_rfl) Try.func7
    (ChangeSpec.witness6 (enc := enc) (C := Try.checked) false ⟨#[], #[.slice none 0 0, .slice none 0 0, .slice none 0 0], []⟩ 8 (by kernel_rfl) (by kernel_rfl) (by kernel_rfl) (by kernel_rfl)) ?_
  intro W base args ds gs before hval0 hW hcnd _
  have hval : ∀ (j : Nat) t v, Try.f7.params[j]? = some t → args[j]? = some v → Value.okWide Try.prog W .any base t v := hval0
  have hW' := hW
  obtain ⟨p, q, hA0, hV, rfl, hfz, hnd⟩ := hW
  have hA : DataW.TrodAll enc Try.prog W 0 (fun _ => true) true Try.f7.params.toList args.toList ds p := hA0
  rw [Try.params7] at hA hval
  obtain ⟨v0, vs0, d0, ds0, p0, q0, hargs, rfl, rfl, h0, r0⟩ := trodAll_cons hA
  obtain ⟨v1, vs1, d1, ds1, p1, q1, rfl, rfl, rfl, h1, r1⟩ := trodAll_cons r0
  obtain ⟨v2, vs2, d2, ds2, p2, q2, rfl, rfl, rfl, h2, r2⟩ := trodAll_cons r1
  obtain ⟨rfl, rfl, rfl⟩ := trodAll_nil r2
  obtain rfl : args = #[v0, v1, v2] := by cases args; simp_all
  obtain ⟨rfl, rfl⟩ := trodVars_none hV
  obtain ⟨a0, len0, cap0, rfl⟩ := okWide_slice Try.underlying22 (hval 0 22 v0 rfl rfl)
  have k0 := h0
  have lt0 : ∀ x ∈ p0, x.block < W.heap.size := by obtain ⟨m, hm⟩ := k0; exact DataW.trod_lt m _ _ _ hm
  obtain ⟨z0, w0⟩ : ∃ L, RI W (.slice a0 len0 cap0) L := by
    obtain ⟨fuel, hf⟩ := h0
    obtain ⟨v, l, hv, hl⟩ := open_i64s hf
    simp [Value.cells] at hv
    subst hv
    exact ⟨l, hl⟩
  obtain ⟨a1, len1, cap1, rfl⟩ := okWide_slice Try.underlying22 (hval 1 22 v1 rfl rfl)
  have k1 := h1
  have lt1 : ∀ x ∈ p1, x.block < W.heap.size := by obtain ⟨m, hm⟩ := k1; exact DataW.trod_lt m _ _ _ hm
  obtain ⟨z1, w1⟩ : ∃ L, RI W (.slice a1 len1 cap1) L := by
    obtain ⟨fuel, hf⟩ := h1
    obtain ⟨v, l, hv, hl⟩ := open_i64s hf
    simp [Value.cells] at hv
    subst hv
    exact ⟨l, hl⟩
  obtain ⟨a2, len2, cap2, rfl⟩ := okWide_slice Try.underlying22 (hval 2 22 v2 rfl rfl)
  have k2 := h2
  have lt2 : ∀ x ∈ p2, x.block < W.heap.size := by obtain ⟨m, hm⟩ := k2; exact DataW.trod_lt m _ _ _ hm
  obtain ⟨z2, w2⟩ : ∃ L, RI W (.slice a2 len2 cap2) L := by
    obtain ⟨fuel, hf⟩ := h2
    obtain ⟨v, l, hv, hl⟩ := open_i64s hf
    simp [Value.cells] at hv
    subst hv
    exact ⟨l, hl⟩
  clear hA0 hval0
  refine (walk (.slice a0 len0 cap0) z0 (.slice a1 len1 cap1) z1 (.slice a2 len2 cap2) z2 W w0 w1 w2).mono fun e W' ⟨he, bel⟩ => ?_
  subst he
  exact ⟨_, rfl, _, _, _, [], _, [], hW', trodAll_mk1 (shut_bool Try.underlying4 _), (trodAll_cons_mk (Below.trod laidOut (by kernel_rfl) (of_decide_eq_true (by kernel_rfl)) k0 bel lt0) (trodAll_cons_mk (Below.trod laidOut (by kernel_rfl) (of_decide_eq_true (by kernel_rfl)) k1 bel lt1) (trodAll_cons_mk (Below.trod laidOut (by kernel_rfl) (of_decide_eq_true (by kernel_rfl)) k2 bel lt2) trodAll_mk0))), rfl, bel.frame _, fun h => by cases h⟩

theorem over : Rows.stampLeastRow.holds Try.pinned (OpenSpec.ofChange Rows.stampLeastSpec) :=
  OpenClaim.holds_of_wide 7 Try.f7 rfl rfl rfl rfl rfl rfl rfl ⟨rfl, rfl, rfl, rfl, rfl⟩ rfl rfl rfl rfl rfl (by kernel_rfl) Try.func7 (by kernel_rfl)
    (of_decide_eq_true (by kernel_rfl)) (by unfold Func.isWrapper; first | (rw [if_pos (by decide +kernel)]; kernel_rfl) | (rw [if_neg (by decide +kernel)]; exact ⟨rfl, rfl⟩))
    (fun os started H enc _ => lifted os started H enc)
end Go.Proofs.Ytjpeefibdpjfaaa.stampLeast
namespace Go.Proofs.Ytjpeefibdpjfaaa

theorem stampLeast_holds : Rows.StampLeastSaid := stampLeast.over
#print axioms stampLeast_holds
end Go.Proofs.Ytjpeefibdpjfaaa
