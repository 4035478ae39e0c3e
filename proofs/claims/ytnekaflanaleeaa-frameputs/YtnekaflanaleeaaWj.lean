/- The walks over the document's All and Same. -/
import Derived.Test.YtnekaflanaleeaaWi
namespace Go.Proofs.Ytnekaflanaleeaa
open Go.RowKit
set_option linter.unusedVariables false

theorem rtake_any (l : List UInt8) (p : Nat) (w : World) (hp : p ≤ l.length) (hl : l.length ≤ 100000) :
    Calls Try.prog 14 #[.string ⟨l.toArray⟩, .int .i64 p] w fun e w' => Below w.heap.size w w' ∧ e = .returned (.tuple #[.string ⟨(takeP l p).1.toArray⟩, .int .i64 ((takeP l p).2.1 : Nat), .int .i64 ((takeP l p).2.2 : Nat)]) := by
  by_cases he : (measureP (l.drop p)).2 = 0
  · refine Calls.mono (rtake_full l p w hp hl he) ?_
    rintro e w' ⟨h1, h2⟩
    refine ⟨h1, ?_⟩
    unfold takeP
    rw [if_pos he]
    by_cases h3 : openP ((l.drop p).take (measureP (l.drop p)).1) = true
    · rw [if_pos h3] at h2 ⊢
      exact h2
    · rw [if_neg h3] at h2 ⊢
      exact h2
  · by_cases h2 : (l.drop p).length < 2
    · refine Calls.mono (rtake_few l p w hp hl h2) ?_
      rintro e w' ⟨h1, rfl⟩
      refine ⟨Below.refl _ _, ?_⟩
      unfold takeP
      rw [if_neg he]
      exact h1
    · refine Calls.mono (rtake_err l p w hp hl (by omega) he) ?_
      rintro e w' ⟨h1, h3⟩
      refine ⟨h3, ?_⟩
      unfold takeP
      rw [if_neg he]
      exact h1

theorem Try.info9 : (Try.prog.info? 9).map (fun i => (i.zero, i.size, i.bytes)) = some (some (.string ⟨#[]⟩), 1, 16) := by kernel_rfl

/-- Texts as they lie in memory. -/
def svs (L : List (List UInt8)) : List Value := L.map fun b => Value.string ⟨b.toArray⟩

set_option maxRecDepth 1000000 in
set_option maxHeartbeats 1000000 in
theorem rall_any (l : List UInt8) (w : World) (hl : l.length ≤ 100000) :
    Calls Try.prog 16 #[.string ⟨l.toArray⟩] w fun e w' => Below w.heap.size w w' ∧ ∃ v, e = .returned (.tuple #[v, .int .i64 ((allP l (l.length + 1) 0).2.1 : Nat), .int .i64 ((allP l (l.length + 1) 0).2.2 : Nat)]) ∧ w'.ownsRow w.heap.size 9 1 v (allP l (l.length + 1) 0).1.length (svs (allP l (l.length + 1) 0).1) := by
  obtain ⟨i0, hi, hz0, hz1, hz2⟩ := info_parts Try.info9
  obtain ⟨R, HR⟩ : ∃ R, Hid (R = allP l (l.length + 1) 0) := ⟨_, rfl⟩
  rw [← HR.out]
  have HT : Hid (∀ (p : Nat) (wx : World), p ≤ l.length → Calls Try.prog 14 #[.string ⟨l.toArray⟩, .int .i64 p] wx fun e w' => Below wx.heap.size wx w' ∧ e = .returned (.tuple #[.string ⟨(takeP l p).1.toArray⟩, .int .i64 ((takeP l p).2.1 : Nat), .int .i64 ((takeP l p).2.2 : Nat)])) := fun p wx hp => rtake_any l p wx hp hl
  go_enter Try.func16, Try.ntmps16
  go_wp2
  go_loopw [5, 6] (fun bv pv wr => ∃ (p f cap : Nat) (av : Option Addr) (L : List (List UInt8)), p ≤ l.length ∧ 6 * L.length ≤ p ∧ Hid (l.length < p + f) ∧ pv = .int .i64 p ∧ bv = .slice av L.length cap ∧ Hid (wr.ownsRow w.heap.size 9 1 (.slice av L.length cap) L.length (svs L)) ∧ Hid (R = (L ++ (allP l f p).1, (allP l f p).2)) ∧ Below w.heap.size w wr) (fun _ pv _ => l.length - (intOf pv).toNat)
  case atStart => exact ⟨0, l.length + 1, 0, none, [], Nat.zero_le _, Nat.le_refl _, by show _ < _; omega, rfl, rfl, World.ownsRow_nil _ _ _ _, HR.out, Below.refl _ _⟩
  case round =>
    obtain ⟨p, f, cap, av, L, hp, hLp, HF, rfl, rfl, HL, HE, hbw⟩ := hrel
    have HC := HT.out p wr hp
    have HBW : Hid (Below w.heap.size w wr) := hbw
    have hsz := hbw.size
    clear hbw HT
    obtain ⟨f, rfl⟩ : ∃ f', f = f' + 1 := ⟨f - 1, by have := HF.out; omega⟩
    by_cases hlt : L.length < l.length
    · by_cases he : (takeP l p).2.2 = 0
      · obtain ⟨n1, n2, n3, n4⟩ := takeP_next he
        have HE2 : Hid (R = (L ++ [(takeP l p).1] ++ (allP l f (takeP l p).2.1).1, (allP l f (takeP l p).2.1).2)) := by
          show _ = _
          rw [HE.out, allP_step he]
          simp
        have HF2 : Hid (l.length < (takeP l p).2.1 + f) := by have := HF.out; show _ < _; omega
        rw [he] at HC
        have HC2 : Hid (Calls Try.prog 14 #[.string ⟨l.toArray⟩, .int .i64 p] wr fun e w' => Below wr.heap.size wr w' ∧ e = .returned (.tuple #[.string ⟨(takeP l p).1.toArray⟩, .int .i64 ((takeP l p).2.1 : Nat), .int .i64 ((0 : Nat) : Int)])) := HC
        clear HC HE he n3 n4
        generalize (takeP l p).2.1 = p2 at *
        generalize (takeP l p).1 = bd at *
        have hLl : L.length ≤ 100000 := by omega
        go_wp2_with (first
          | (go_at_call 14; refine Calls.mono HC2.out ?_; rintro e w2 ⟨hb2, rfl⟩; have HB2 : Hid (Below wr.heap.size wr w2) := hb2; clear hb2)
          | (at_builtin; refine wpList_append_own _ rfl _ _ 40 rfl w.heap.size 9 i0 (.string ⟨#[]⟩) 1 16 Try.underlying40 hi hz0 hz1 hz2 rfl (by decide) _ L.length (svs L) rfl (owns_later (owns_later HL.out HB2.out) ((Below.refl _ _).alloc (Nat.le_refl _) _)) ⟨w2.heap.size, 0, none⟩ 1 1 [.string ⟨bd.toArray⟩] rfl rfl (cell_one_new _ _ _) (fun u hu => by simp at hu; subst hu; rfl) (by unfold maxLen; omega) (by omega) (by have := HB2.out.size; simp; omega) ?_; intro v4 w4 ho4 hg4 _))
        have HO4 : Hid (w4.ownsRow w.heap.size 9 1 v4 (L ++ [bd]).length (svs (L ++ [bd]))) := by
          show w4.ownsRow _ _ _ _ _ _
          rw [List.length_append, svs, List.map_append]
          exact ho4
        have hb5 : Below w.heap.size w w4 := Below.grown ((HBW.out.trans (HB2.out.mono hsz)).alloc (by have := HB2.out.size; omega) _) hg4 (by have := HB2.out.size; simp; omega) (fun k hk => ((HL.out).lt _ hk).1)
        obtain ⟨a4, c4, rfl⟩ := owns_slice HO4.out
        go_roundw
        case rel => exact ⟨p2, f, c4, a4, L ++ [bd], by omega, by rw [List.length_append]; simp; omega, HF2, rfl, rfl, HO4, HE2, hb5⟩
        case measure => simp [intOf]; omega
      · have HE2 : Hid (R = (L, p, (takeP l p).2.2)) := by
          show _ = _
          rw [HE.out, allP_stop he]
          simp
        have HC2 : Hid (Calls Try.prog 14 #[.string ⟨l.toArray⟩, .int .i64 p] wr fun e w' => Below wr.heap.size wr w' ∧ e = .returned (.tuple #[.string ⟨(takeP l p).1.toArray⟩, .int .i64 ((takeP l p).2.1 : Nat), .int .i64 ((takeP l p).2.2 : Nat)])) := HC
        clear HC HE
        generalize (takeP l p).2.1 = p2 at *
        generalize (takeP l p).1 = bd at *
        generalize (takeP l p).2.2 = er at *
        have hLl : L.length ≤ 100000 := by omega
        go_wp2_with (first
          | (go_at_call 14; refine Calls.mono HC2.out ?_; rintro e w2 ⟨hb2, rfl⟩; have HB2 : Hid (Below wr.heap.size wr w2) := hb2; clear hb2))
        go_ret3
        rw [HE2.out]
        exact ⟨HBW.out.trans (HB2.out.mono hsz), _, rfl, owns_later HL.out HB2.out⟩
    · have hl0 : l.length = 0 := by omega
      have hL0 : L = [] := List.eq_nil_of_length_eq_zero (by omega)
      have hp0 : p = 0 := by omega
      subst hL0 hp0
      have HE2 : Hid (R = ([], 0, 16)) := by
        show _ = _
        rw [HE.out, allP_stop (by rw [takeP_end l 0 (by omega)]; decide), takeP_end l 0 (by omega)]
        rfl
      clear HC HE
      have hlt2 : ¬ 0 < l.length := by omega
      clear hlt
      go_wp2_with fail
      go_ret3
      rw [HE2.out]
      exact ⟨HBW.out, _, rfl, HL.out⟩
end Go.Proofs.Ytnekaflanaleeaa
