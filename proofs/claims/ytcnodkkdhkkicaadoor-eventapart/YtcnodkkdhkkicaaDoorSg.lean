/- The walks over Bytes and Read. -/
import Derived.Test.YtcnodkkdhkkicaaDoorSa
import Derived.Test.YtcnodkkdhkkicaaDoorWf
namespace Go.Proofs.YtcnodkkdhkkicaaDoor
open Go.RowKit
set_option linter.unusedVariables false

/-- What Bytes answers. -/
def bytR (a : List UInt8) (l : List Int) : List UInt8 := if okS l then a ++ putsP (natL l) else []

theorem puts_ok {a : List UInt8} {l : List Int} (h : okS l = true) : putsR a l = a ++ putsP (natL l) ∧ putsE l = 0 := by
  have h1 := okS_len h
  have h2 := okS_all h
  unfold putsR putsE
  rw [if_pos (by omega), if_pos h2, if_pos (by omega), if_pos h2]
  exact ⟨rfl, rfl⟩

set_option maxRecDepth 1000000 in
set_option maxHeartbeats 1000000 in
theorem bytes_any (x y : Value) (a : List UInt8) (l : List Int) (w : World) (hx : RB w x a) (hy : RI w y l) (ha : a.length ≤ 90000) (hl : l.length ≤ 1000000) :
    Calls Tryd.prog 22 #[x, y] w fun e w' => ∃ v c, e = .returned (.tuple #[.slice v (bytR a l).length c, .int .i64 (chkE l : Nat)]) ∧ RB w' (.slice v (bytR a l).length c) (bytR a l) ∧ Below w.heap.size w w' := by
  have HC : Hid _ := check_any y l w hy hl
  have HP : Hid _ := puts_any x y a l w hx hy ha hl
  obtain ⟨xa, xc, rfl, _, _, _, _⟩ := hx
  obtain ⟨ya, yc, rfl, _, _, _⟩ := hy
  unfold bytR chkE at *
  by_cases h : okS l = true
  · rw [(puts_ok (a := a) h).1, (puts_ok (a := a) h).2] at HP
    rw [if_pos h] at HC
    rw [if_pos h, if_pos h]
    clear h
    generalize a ++ putsP (natL l) = S at *
    go_enter Tryd.func22, Tryd.ntmps22
    go_wp2_with fail
    refine Calls.mono HC.out ?_
    rintro e w1 ⟨rfl, rfl⟩
    go_wp2_with fail
    refine Calls.mono HP.out ?_
    rintro e w2 ⟨v, c, rfl, hr, hb⟩
    have HR : Hid _ := hr
    have HB : Hid _ := hb
    clear hr hb
    go_wp2_with fail
    go_ret2
    exact ⟨_, _, rfl, HR.out, HB.out⟩
  · rw [if_neg h] at HC
    rw [if_neg h, if_neg h]
    clear h HP
    go_enter Tryd.func22, Tryd.ntmps22
    go_wp2_with fail
    refine Calls.mono HC.out ?_
    rintro e w1 ⟨rfl, rfl⟩
    go_wp2_with fail
    go_ret2
    exact ⟨none, 0, rfl, RB.nil _, Below.refl _ _⟩

/-- What Read answers. -/
def readP (b : List UInt8) (p : Int) : List Nat × Nat × Nat := if (listI b p).2.2 = 0 then (if okS (intL (listI b p).1) then listI b p else ([], 0, 2)) else ([], 0, (listI b p).2.2)

theorem intL_nil : intL [] = [] := rfl

theorem list_small (b : List UInt8) (p : Int) : (listI b p).1.length ≤ 1000000 := by
  have h : (listI b p).2.2 ≠ 0 ∨ (listI b p).1.length ≤ 255 := by
    unfold listI
    by_cases hp : 0 ≤ p ∧ p ≤ (b.length : Int)
    · rw [if_pos hp]
      unfold listP
      by_cases h1 : (takeP b p.toNat).2.2 = 0
      · rw [if_pos h1]
        by_cases h2 : 255 < (takeP b p.toNat).1
        · rw [if_pos h2]; right; simp
        · rw [if_neg h2]
          by_cases h3 : (takesP b (takeP b p.toNat).1 (takeP b p.toNat).2.1).2.2 = 0
          · right
            have := (takes_ok _ _ (take_ok (by omega) h1).2.2.1 h3).1
            omega
          · left; exact h3
      · rw [if_neg h1]; right; simp
    · rw [if_neg hp]; right; simp
  rcases h with h | h
  · have : (listI b p).1 = [] := by
      unfold listI at h ⊢
      by_cases hp : 0 ≤ p ∧ p ≤ (b.length : Int)
      · rw [if_pos hp] at h ⊢
        unfold listP at h ⊢
        by_cases h1 : (takeP b p.toNat).2.2 = 0
        · rw [if_pos h1] at h ⊢
          by_cases h2 : 255 < (takeP b p.toNat).1
          · rw [if_pos h2]
          · rw [if_neg h2] at h ⊢
            exact (takes_err _ _ h).1
        · rw [if_neg h1]
      · rw [if_neg hp]
    rw [this]; simp
  · omega

set_option maxRecDepth 1000000 in
set_option maxHeartbeats 1000000 in
theorem read_any (x : Value) (b : List UInt8) (p : Int) (w : World) (hx : RB w x b) (hb : b.length ≤ 100000) :
    Calls Tryd.prog 32 #[x, .int .i64 p] w fun e w' => ListC (readP b p) w.heap.size w e w' := by
  have HT : Hid _ := takes_any x b p w hx hb
  have hsm := list_small b p
  obtain ⟨xa, xc, rfl, _, _, _, _⟩ := hx
  unfold readP
  generalize listI b p = r at *
  obtain ⟨ns, m, E⟩ := r
  unfold ListC at HT
  dsimp only at *
  by_cases he : E = 0
  · subst he
    rw [if_pos rfl]
    by_cases hok : okS (intL ns) = true
    · rw [if_pos hok]
      have HCK : Hid (∀ (wx : World) (v : Value), RI wx v (intL ns) → Calls Tryd.prog 27 #[v] wx fun e w' => e = .returned (.int .i64 0) ∧ w' = wx) := by
        show ∀ wx v, _
        intro wx v hv
        have := check_any v (intL ns) wx hv (by rw [intL_len]; exact hsm)
        unfold chkE at this
        rw [if_pos hok] at this
        exact this
      clear hok hsm
      go_enter Tryd.func32, Tryd.ntmps32
      go_wp2_with fail
      refine Calls.mono HT.out ?_
      rintro e w1 ⟨v, c, rfl, hr, hp1, hb1⟩
      have HP1 : Hid _ := hp1
      clear hp1
      have HR : Hid (RI w1 (.slice v ns.length c) (intL ns)) := hr
      have HB : Hid _ := hb1
      clear hr hb1
      go_wp2_with fail
      refine Calls.mono (HCK.out _ _ HR.out) ?_
      rintro e w2 ⟨rfl, rfl⟩
      go_wp2_with fail
      go_ret3
      exact ⟨_, _, rfl, HR.out, HP1.out, HB.out⟩
    · rw [if_neg hok]
      have HCK : Hid (∀ (wx : World) (v : Value), RI wx v (intL ns) → Calls Tryd.prog 27 #[v] wx fun e w' => e = .returned (.int .i64 2) ∧ w' = wx) := by
        show ∀ wx v, _
        intro wx v hv
        have := check_any v (intL ns) wx hv (by rw [intL_len]; exact hsm)
        unfold chkE at this
        rw [if_neg hok] at this
        exact this
      clear hok hsm
      go_enter Tryd.func32, Tryd.ntmps32
      go_wp2_with fail
      refine Calls.mono HT.out ?_
      rintro e w1 ⟨v, c, rfl, hr, hp1, hb1⟩
      have HP1 : Hid _ := hp1
      clear hp1
      have HR : Hid (RI w1 (.slice v ns.length c) (intL ns)) := hr
      have HB : Hid _ := hb1
      clear hr hb1
      go_wp2_with fail
      refine Calls.mono (HCK.out _ _ HR.out) ?_
      rintro e w2 ⟨rfl, rfl⟩
      go_wp2_with fail
      go_ret3
      exact ⟨none, 0, rfl, RI.nil _, (fun _ h => by cases h), HB.out⟩
  · rw [if_neg he]
    clear hsm
    go_enter Tryd.func32, Tryd.ntmps32
    go_wp2_with fail
    refine Calls.mono HT.out ?_
    rintro e w1 ⟨v, c, rfl, _, _, hb1⟩
    have HB : Hid _ := hb1
    clear hb1
    go_wp2_with fail
    go_ret3
    exact ⟨none, 0, rfl, RI.nil _, (fun _ h => by cases h), HB.out⟩

end Go.Proofs.YtcnodkkdhkkicaaDoor
