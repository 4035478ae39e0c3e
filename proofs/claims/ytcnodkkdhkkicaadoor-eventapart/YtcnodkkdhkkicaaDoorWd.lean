/- The walk over wire.Take. -/
import Derived.Test.YtcnodkkdhkkicaaDoorWc
namespace Go.Proofs.YtcnodkkdhkkicaaDoor
open Go.RowKit
set_option linter.unusedVariables false

theorem num_small {l : List UInt8} : (numP l).1 ≤ 1099511627776 ∧ (numP l).2.1 ≤ 6 ∧ (numP l).2.2 ≤ 4 := by
  by_cases h : (numP l).2.2 = 0
  · obtain ⟨h1, _, _, h2, _⟩ := num_ok h
    exact ⟨h1, h2, by omega⟩
  · obtain ⟨h1, h2, h3⟩ := num_err h
    rw [h1, h2]
    exact ⟨by omega, by omega, by omega⟩

/-- What Take answers, at any place. -/
def takeI (l : List UInt8) (p : Int) : Nat × Nat × Nat := if 0 ≤ p ∧ p ≤ (l.length : Int) then takeP l p.toNat else (0, 0, 2)

set_option maxRecDepth 1000000 in
set_option maxHeartbeats 1000000 in
theorem take_any (x : Value) (l : List UInt8) (p : Nat) (w : World) (hx : RB w x l) (hp : p ≤ l.length) (hl : l.length ≤ 100000) :
    Calls Tryd.prog 43 #[x, .int .i64 p] w fun e w' => e = .returned (firstV (takeP l p)) ∧ w' = w := by
  obtain ⟨a, ca, rfl, hr⟩ := hx
  obtain ⟨V, hV, hS⟩ := slice_from ⟨a, ca, rfl, hr⟩ p hp
  have HM : Hid _ := first_any V _ w hV (by rw [List.length_drop]; omega)
  obtain ⟨h1, h2, h3⟩ := num_small (l := l.drop p)
  have h4 : (numP (l.drop p)).2.2 ≠ 0 → (numP (l.drop p)).1 = 0 := fun h => (num_err h).1
  unfold takeP
  unfold firstV at HM
  generalize (numP (l.drop p)).1 = n at *
  generalize (numP (l.drop p)).2.1 = sz at *
  generalize (numP (l.drop p)).2.2 = er at *
  clear hr hV
  by_cases he : er = 0
  · subst he
    rw [if_pos rfl]
    clear h4
    go_enter Tryd.func43, Tryd.ntmps43
    go_wp2_with fail
    refine Calls.mono HM.out ?_
    rintro e w2 ⟨rfl, rfl⟩
    go_wp2_with fail
    go_ret3
    exact ⟨ret_tri rfl (by show _ = ((p + sz : Nat) : Int); omega) rfl, rfl⟩
  · rw [if_neg he, h4 he]
    clear h4
    go_enter Tryd.func43, Tryd.ntmps43
    go_wp2_with fail
    refine Calls.mono HM.out ?_
    rintro e w2 ⟨rfl, rfl⟩
    go_wp2_with fail
    go_ret3
    exact ⟨rfl, rfl⟩

set_option maxRecDepth 1000000 in
set_option maxHeartbeats 1000000 in
theorem take_out (x : Value) (l : List UInt8) (p : Int) (w : World) (hx : RB w x l) (hp : ¬ (0 ≤ p ∧ p ≤ (l.length : Int))) (hl : l.length ≤ 100000) :
    Calls Tryd.prog 43 #[x, .int .i64 p] w fun e w' => e = .returned (firstV (0, 0, 2)) ∧ w' = w := by
  obtain ⟨a, ca, rfl, _, _, _, _⟩ := hx
  by_cases h0 : p < 0
  · go_enter Tryd.func43, Tryd.ntmps43
    go_wp2_with fail
    go_ret3
    exact ⟨rfl, rfl⟩
  · have h1 : (l.length : Int) < p := by omega
    go_enter Tryd.func43, Tryd.ntmps43
    go_wp2_with fail
    go_ret3
    exact ⟨rfl, rfl⟩

theorem takei_any (x : Value) (l : List UInt8) (p : Int) (w : World) (hx : RB w x l) (hl : l.length ≤ 100000) :
    Calls Tryd.prog 43 #[x, .int .i64 p] w fun e w' => e = .returned (firstV (takeI l p)) ∧ w' = w := by
  unfold takeI
  by_cases h : 0 ≤ p ∧ p ≤ (l.length : Int)
  · rw [if_pos h]
    obtain ⟨q, rfl⟩ : ∃ q : Nat, p = (q : Int) := ⟨p.toNat, by omega⟩
    rw [Int.toNat_natCast]
    exact take_any x l q w hx (by omega) hl
  · rw [if_neg h]
    exact take_out x l p w hx h hl
end Go.Proofs.YtcnodkkdhkkicaaDoor
