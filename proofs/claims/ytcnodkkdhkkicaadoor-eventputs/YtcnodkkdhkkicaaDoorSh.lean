/- The walks over the document's Bytes and Read of stamps. -/
import Derived.Test.YtcnodkkdhkkicaaDoorSg
import Derived.Test.YtcnodkkdhkkicaaDoorWj
namespace Go.Proofs.YtcnodkkdhkkicaaDoor
open Go.RowKit
set_option linter.unusedVariables false

set_option maxRecDepth 1000000 in
set_option maxHeartbeats 1000000 in
theorem rbytes_any (a : List UInt8) (y : Value) (l : List Int) (w : World) (hy : RI w y l) (ha : a.length ≤ 90000) (hl : l.length ≤ 1000000) :
    Calls Tryd.prog 40 #[.string ⟨a.toArray⟩, y] w fun e w' => e = .returned (.tuple #[.string ⟨(bytR a l).toArray⟩, .int .i64 (chkE l : Nat)]) ∧ Below w.heap.size w w' := by
  have HC : Hid _ := rright_any y l w hy hl
  have HP : Hid _ := rputs_any a y l w hy ha hl
  obtain ⟨ya, yc, rfl, _, _, _⟩ := hy
  unfold bytR chkE at *
  by_cases h : okS l = true
  · rw [(puts_ok (a := a) h).1, (puts_ok (a := a) h).2] at HP
    rw [h] at HC
    rw [if_pos h, if_pos h]
    clear h
    generalize a ++ putsP (natL l) = S at *
    go_enter Tryd.func40, Tryd.ntmps40
    go_wp2_with fail
    refine Calls.mono HC.out ?_
    rintro e w1 ⟨rfl, rfl⟩
    go_wp2_with fail
    refine Calls.mono HP.out ?_
    rintro e w2 ⟨rfl, hb⟩
    have HB : Hid _ := hb
    clear hb
    go_wp2_with fail
    go_ret2
    exact ⟨rfl, HB.out⟩
  · have h2 : okS l = false := by simpa using h
    rw [h2] at HC
    rw [if_neg h, if_neg h]
    clear h h2 HP
    go_enter Tryd.func40, Tryd.ntmps40
    go_wp2_with fail
    refine Calls.mono HC.out ?_
    rintro e w1 ⟨rfl, rfl⟩
    go_wp2_with fail
    go_ret2
    exact ⟨rfl, Below.refl _ _⟩

set_option maxRecDepth 1000000 in
set_option maxHeartbeats 1000000 in
theorem rread_any (b : List UInt8) (p : Int) (w : World) (hb : b.length ≤ 100000) :
    Calls Tryd.prog 34 #[.string ⟨b.toArray⟩, .int .i64 p] w fun e w' => ListC (readP b p) w.heap.size w e w' := by
  have HT : Hid _ := rtakes_any b p w hb
  have hsm := list_small b p
  unfold readP
  generalize listI b p = r at *
  obtain ⟨ns, m, E⟩ := r
  unfold ListC at HT
  dsimp only at *
  by_cases he : E = 0
  · subst he
    rw [if_pos rfl]
    by_cases hok : okS (intL ns) = true
    · rw [if_pos hok]
      have HCK : Hid (∀ (wx : World) (v : Value), RI wx v (intL ns) → Calls Tryd.prog 38 #[v] wx fun e w' => e = .returned (.bool true) ∧ w' = wx) := by
        show ∀ wx v, _
        intro wx v hv
        have := rright_any v (intL ns) wx hv (by rw [intL_len]; exact hsm)
        rw [hok] at this
        exact this
      clear hok hsm
      go_enter Tryd.func34, Tryd.ntmps34
      go_wp2_with fail
      refine Calls.mono HT.out ?_
      rintro e w1 ⟨v, c, rfl, hr, hp1, hb1⟩
      have HP1 : Hid _ := hp1
      clear hp1
      have HR : Hid (RI w1 (.slice v ns.length c) (intL ns)) := hr
      have HB : Hid _ := hb1
      clear hr hb1
      go_wp2_with fail
      refine Calls.mono (HCK.out _ _ HR.out) ?_
      rintro e w2 ⟨rfl, rfl⟩
      go_wp2_with fail
      go_ret3
      exact ⟨_, _, rfl, HR.out, HP1.out, HB.out⟩
    · rw [if_neg hok]
      have hok2 : okS (intL ns) = false := by simpa using hok
      have HCK : Hid (∀ (wx : World) (v : Value), RI wx v (intL ns) → Calls Tryd.prog 38 #[v] wx fun e w' => e = .returned (.bool false) ∧ w' = wx) := by
        show ∀ wx v, _
        intro wx v hv
        have := rright_any v (intL ns) wx hv (by rw [intL_len]; exact hsm)
        rw [hok2] at this
        exact this
      clear hok hok2 hsm
      go_enter Tryd.func34, Tryd.ntmps34
      go_wp2_with fail
      refine Calls.mono HT.out ?_
      rintro e w1 ⟨v, c, rfl, hr, hp1, hb1⟩
      have HP1 : Hid _ := hp1
      clear hp1
      have HR : Hid (RI w1 (.slice v ns.length c) (intL ns)) := hr
      have HB : Hid _ := hb1
      clear hr hb1
      go_wp2_with fail
      refine Calls.mono (HCK.out _ _ HR.out) ?_
      rintro e w2 ⟨rfl, rfl⟩
      go_wp2_with fail
      go_ret3
      exact ⟨none, 0, rfl, RI.nil _, (fun _ h => by cases h), HB.out⟩
  · rw [if_neg he]
    clear hsm
    go_enter Tryd.func34, Tryd.ntmps34
    go_wp2_with fail
    refine Calls.mono HT.out ?_
    rintro e w1 ⟨v, c, rfl, _, _, hb1⟩
    have HB : Hid _ := hb1
    clear hb1
    go_wp2_with fail
    go_ret3
    exact ⟨none, 0, rfl, RI.nil _, (fun _ h => by cases h), HB.out⟩
end Go.Proofs.YtcnodkkdhkkicaaDoor
