/- The walk over OracleMakes. -/
import Derived.Test.YtfemfekhpfkafaaDoorOi
import Derived.Test.YtfemfekhpfkafaaDoorSi
namespace Go.Proofs.YtfemfekhpfkafaaDoor.Or
open Go.RowKit Go.Proofs.YtfemfekhpfkafaaDoor
set_option maxRecDepth 1000000
set_option linter.unusedVariables false

theorem OI.new (w : World) : OI w.heap.size (w.alloc (.cells #[] 3)) w.heap.size 0 0 [] :=
  World.ownsRow_made w #[] 0 (Nat.le_refl _) (by unfold maxLen; omega) rfl

set_option maxHeartbeats 1000000 in
theorem makes_walk (a0 : Option Addr) (len0 cap0 : Nat) (F : List Int) (a1 : Option Addr) (len1 cap1 : Nat) (S : List Int) (w : World)
    (h0 : RI w (.slice a0 len0 cap0) F) (n0 : ∀ k c, Value.slice a0 len0 cap0 = .slice none k c → c = 0) (h1 : RI w (.slice a1 len1 cap1) S) (n1 : ∀ k c, Value.slice a1 len1 cap1 = .slice none k c → c = 0) :
    Calls Tryd.prog 4 #[.slice a0 len0 cap0, .slice a1 len1 cap1] w fun e w' => e = .returned (.bool true) ∧ Below w.heap.size w w' := by
  have HL : Hid (∀ wx, Calls Tryd.prog 7 #[] wx fun e w' => e = .returned (.bool true) ∧ Below wx.heap.size wx w') := lives_any
  have hl0 : len0 = F.length ∧ len0 ≤ cap0 ∧ cap0 ≤ maxLen := by
    obtain ⟨a', c', he, h1, h2, _⟩ := h0
    simp only [Value.slice.injEq] at he
    obtain ⟨rfl, rfl, rfl⟩ := he
    exact ⟨rfl, h1, h2⟩
  have hl1 : len1 = S.length ∧ len1 ≤ cap1 ∧ cap1 ≤ maxLen := by
    obtain ⟨a', c', he, h1, h2, _⟩ := h1
    simp only [Value.slice.injEq] at he
    obtain ⟨rfl, rfl, rfl⟩ := he
    exact ⟨rfl, h1, h2⟩
  obtain ⟨rfl, hc0, hm0⟩ := hl0
  obtain ⟨rfl, hc1, hm1⟩ := hl1
  have hm0' : F.length ≤ 9223372036854775807 := by unfold maxLen at hm0; omega
  have hm1' : S.length ≤ 9223372036854775807 := by unfold maxLen at hm1; omega
  by_cases hb0 : 200 < F.length
  · have hbi : (200 : Int) < (F.length : Int) := by omega
    clear h0 h1 n0 n1 hm0 hm1
    go_enter Tryd.func4, Tryd.ntmps4
    go_wp2_with fail
    refine Calls.mono (HL.out _) ?_
    rintro e w2 ⟨rfl, hb2⟩
    go_wp2_with fail
    go_ret
    exact ⟨rfl, hb2⟩
  · have hbi : ¬ (200 : Int) < (F.length : Int) := by omega
    by_cases hb1 : 200 < S.length
    · have hbi1 : (200 : Int) < (S.length : Int) := by omega
      clear h0 h1 n0 n1 hm0 hm1
      go_enter Tryd.func4, Tryd.ntmps4
      go_wp2_with fail
      refine Calls.mono (HL.out _) ?_
      rintro e w2 ⟨rfl, hb2⟩
      go_wp2_with fail
      go_ret
      exact ⟨rfl, hb2⟩
    · have hbi1 : ¬ (200 : Int) < (S.length : Int) := by omega
      have H0 : Hid (RI w (.slice a0 F.length cap0) F) := h0
      have H1 : Hid (RI w (.slice a1 S.length cap1) S) := h1
      have N0 : Hid (∀ k c, Value.slice a0 F.length cap0 = .slice none k c → c = 0) := n0
      have N1 : Hid (∀ k c, Value.slice a1 S.length cap1 = .slice none k c → c = 0) := n1
      have HB1 : Hid (Below w.heap.size w (w.alloc (.cells #[] 3))) := (Below.refl _ _).alloc (Nat.le_refl _) _
      have HO1 : Hid (OI w.heap.size (w.alloc (.cells #[] 3)) w.heap.size 0 0 []) := OI.new w
      clear h0 h1 n0 n1 hm0 hm1
      go_enter Tryd.func4, Tryd.ntmps4
      have HI2 : Hid (∀ w2, Below w.heap.size w w2 → Below w2.heap.size w2 (w2.alloc (.cells #[] 3)) ∧ Below w.heap.size w (w2.alloc (.cells #[] 3))) := fun w2 h => ⟨(Below.refl _ _).alloc (Nat.le_refl _) _, h.alloc h.size _⟩
      have HMK : Hid (∀ wx u v, RI wx u F → RI wx v S → Calls Tryd.prog 16 #[u, v] wx (MakeC wx F S)) := fun wx u v x y => make_any F S u v wx x y (by omega) (by omega)
      have HRM : Hid (∀ wx, Below w.heap.size w wx → Calls Tryd.prog 17 #[.slice a0 F.length cap0, .slice a1 S.length cap1] wx (RMakeC wx F S)) := fun wx hb => rmake_any F S _ _ wx (H0.out.later hb) (H1.out.later hb) (by omega) (by omega)
      go_wp2_with (first
        | (at_builtin; refine append_ints rfl _ _ rfl w.heap.size w.heap.size 0 0 [] rfl HO1.out _ F rfl (H0.out.later HB1.out) N0.out (by omega) (by omega) (by simp) F.length F (by omega) rfl ?_; intro g2 c2 w2 ho2 hg2; have HO2 : Hid (OI w.heap.size w2 g2 F.length c2 F) := ho2; have HB2 : Hid (Below w.heap.size w w2) := HB1.out.trans (HO1.out.below (by simp) hg2); clear ho2 hg2 HO1 HB1)
        | (at_builtin; refine append_ints rfl _ _ rfl w2.heap.size w2.heap.size 0 0 [] rfl (OI.new w2) _ S rfl (H1.out.later (HI2.out w2 HB2.out).2) N1.out (by omega) (by omega) (by simp) S.length S (by omega) rfl ?_; intro g4 c4 w4 ho4 hg4; have HO4 : Hid (OI w2.heap.size w4 g4 S.length c4 S) := ho4; have HB4 : Hid (Below w2.heap.size w2 w4) := (HI2.out w2 HB2.out).1.trans ((OI.new w2).below (by simp) hg4); clear ho4 hg4))
      have HB5 : Hid (Below w.heap.size w w4) := HB2.out.trans (HB4.out.mono HB2.out.size)
      refine Calls.mono (HMK.out w4 _ _ (HO2.out.ri.2.later HB4.out) HO4.out.ri.2) ?_
      rintro e w6 ⟨hb6, hc6⟩
      have HB6 : Hid (Below w.heap.size w w6) := HB5.out.trans (hb6.mono HB5.out.size)
      have HR6 : Hid _ := HRM.out w6 HB6.out
      clear HMK HRM HI2 HO2 HO4 HB2 HB4 HB5 hb6 H0 H1 N0 N1
      by_cases hok : okM F S = true
      · rw [if_pos hok] at hc6
        obtain ⟨g, c, rfl, hr6⟩ := hc6
        have HV6 : Hid (RB w6 (.slice (some ⟨g, 0, none⟩) (mk F S).length c) (mk F S)) := hr6
        clear hr6
        go_wp2_with fail
        refine Calls.mono HR6.out ?_
        rintro e w7 ⟨hb7, hc7⟩
        rw [if_pos hok] at hc7
        subst hc7
        have HB7 : Hid (Below w.heap.size w w7) := HB6.out.trans (hb7.mono HB6.out.size)
        have hcv := string_of_RB (HV6.out.later hb7)
        generalize (⟨(mk F S).toArray⟩ : ByteArray) = O at *
        clear HV6 HR6 HB6 hb7
        go_wp2_with fail
        refine Calls.mono (HL.out _) ?_
        rintro e w8 ⟨rfl, hb8⟩
        have HB8 : Hid (Below w.heap.size w w8) := HB7.out.trans (hb8.mono HB7.out.size)
        clear hb8
        go_wp2_with fail
        go_ret
        exact ⟨rfl, HB8.out⟩
      · rw [if_neg hok] at hc6
        subst hc6
        go_wp2_with fail
        refine Calls.mono HR6.out ?_
        rintro e w7 ⟨hb7, hc7⟩
        rw [if_neg hok] at hc7
        subst hc7
        have HB7 : Hid (Below w.heap.size w w7) := HB6.out.trans (hb7.mono HB6.out.size)
        have hcv : (convert 22 9 (.slice none 0 0)).run Tryd.prog w7 = .ok (.string ⟨#[]⟩) w7 := string_of_RB (RB.nil w7)
        clear HR6 HB6 hb7
        go_wp2_with fail
        refine Calls.mono (HL.out _) ?_
        rintro e w8 ⟨rfl, hb8⟩
        have HB8 : Hid (Below w.heap.size w w8) := HB7.out.trans (hb8.mono HB7.out.size)
        clear hb8
        go_wp2_with fail
        go_ret
        exact ⟨rfl, HB8.out⟩
end Go.Proofs.YtfemfekhpfkafaaDoor.Or
