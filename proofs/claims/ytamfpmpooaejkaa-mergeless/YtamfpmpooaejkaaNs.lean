/- The walk over MergeMerges. -/
import Derived.Test.YtamfpmpooaejkaaNr
namespace Go.Proofs.Ytamfpmpooaejkaa
open Go.RowKit Go.Shelf
set_option maxRecDepth 1000000
set_option linter.unusedVariables false

theorem few_yes {R : List (List Ev)} (h : fewB R = true) : R.length ≤ 70 ∧ Mg.tot R ≤ 150 := of_decide_eq_true h

theorem mrg_len (st : Ev → List Int) (l : List (List Ev)) : ∀ (f : Nat) (had : List Nat), (Mg.mrg st l f had).1.length ≤ f
  | 0, had => Nat.le_refl _
  | f + 1, had => by
    rw [Mg.mrg]
    cases Mg.pick st l had with
    | none => simp
    | some i =>
      simp only
      cases (l.getD i [])[had.getD i 0]? with
      | none => simp
      | some e => simp only [List.length_cons]; have := mrg_len st l f (Mg.bump had i); omega
theorem mgH_len (R : List (List Ev)) : (mgH R).length ≤ Mg.tot R := by
  unfold mgH
  split
  · exact mrg_len evS R _ _
  · simp

set_option maxHeartbeats 4000000 in
theorem merges_walk (R : List (List Ev)) (lv : Value) (w : World) (hl : RRE w lv R) (hf : Fit R) : Calls Try.prog 3 #[lv] w fun e w' => e = .returned (.bool true) ∧ Below w.heap.size w w' := by
  have HFW : Hid _ := few_any lv R w hl hf
  have HRL : Hid (RRE w lv R) := hl
  obtain ⟨la, lc, rfl, _⟩ := hl
  cases hfb : fewB R with
  | false =>
    rw [hfb] at HFW
    clear hfb hf
    generalize R.length = n at *
    go_enter Try.func3, Try.ntmps3
    go_wp2_with fail
    refine Calls.mono HFW.out ?_
    rintro e w1 ⟨rfl, h⟩
    obtain rfl := h.symm
    go_wp2_with fail
    refine Calls.mono (lives_any _) ?_
    rintro e w1 ⟨rfl, hb⟩
    have HB : Hid _ := hb
    clear hb
    go_wp2_with fail
    go_ret
    exact ⟨rfl, HB.out⟩
  | true =>
    rw [hfb] at HFW
    obtain ⟨h70, h150⟩ := few_yes hfb
    have HM1 : Hid _ := c_merge _ R w HRL.out (by omega)
    have HM2 : Hid (∀ w1, Below w.heap.size w w1 → _) := fun w1 hb => c_rmerge _ R w1 (HRL.out.later hb) (by omega)
    have HLN : Hid ((mgH R).length ≤ 150 ∧ (mgN R).length ≤ 64) := ⟨Nat.le_trans (mgH_len R) h150, by
      by_cases h : 1 ≤ R.length ∧ R.length ≤ 64
      · rw [mgN_len R h]; exact h.2
      · unfold mgN; rw [if_neg h]; simp⟩
    clear hfb hf HRL
    generalize R.length = n at *
    go_enter Try.func3, Try.ntmps3
    go_wp2_with fail
    refine Calls.mono HFW.out ?_
    rintro e w1 ⟨rfl, h⟩
    obtain rfl := h.symm
    go_wp2_with fail
    refine Calls.mono HM1.out ?_
    rintro e w1 ⟨va, vc, na, nc, rfl, r1, r2, r3, r4⟩
    have HB1 : Hid (Below w.heap.size w w1) := r4
    have HR1 : Hid (RE w1 (.slice va (mgH R).length vc) (mgH R)) := r1
    have HN1 : Hid (RI w1 (.slice na (mgN R).length nc) (mgN R)) := r3
    have HS1 : Hid _ := r2
    clear r1 r2 r3 r4 HM1
    go_wp2_with fail
    refine Calls.mono (HM2.out w1 HB1.out) ?_
    rintro e w2 ⟨va2, vc2, na2, nc2, rfl, r1, r2, r3, r4⟩
    have HR1 : Hid (RE w2 (.slice va (mgH R).length vc) (mgH R)) := HR1.out.later r4
    have HN1 : Hid (RI w2 (.slice na (mgN R).length nc) (mgN R)) := HN1.out.later r4
    have HR2 : Hid (RE w2 (.slice va2 (mgH R).length vc2) (mgH R)) := r1
    have HN2 : Hid (RI w2 (.slice na2 (mgN R).length nc2) (mgN R)) := r3
    have HB2 : Hid (Below w.heap.size w w2) := HB1.out.trans (r4.mono HB1.out.size)
    clear r1 r2 r3 r4 HM2 HB1
    have HSA : Hid _ := sameAll_any (mgH R) (mgH R) _ _ w2 HR1.out HR2.out HS1.out HS1.out (by have := HLN.out.1; omega) (by have := HLN.out.1; omega)
    rw [decide_eq_true rfl] at HSA
    go_wp2_with fail
    refine Calls.mono HSA.out ?_
    rintro e w3 ⟨rfl, r4⟩
    have HB3 : Hid (Below w.heap.size w w3) := HB2.out.trans (r4.mono HB2.out.size)
    have HSB : Hid _ := same_any (mgN R) (mgN R) _ _ w3 (HN1.out.later r4) (HN2.out.later r4) (by have := HLN.out.2; omega) (by have := HLN.out.2; omega)
    rw [decide_eq_true rfl] at HSB
    clear r4 HSA
    go_wp2_with fail
    refine Calls.mono HSB.out ?_
    rintro e w4 ⟨rfl, r4⟩
    have HB4 : Hid (Below w.heap.size w w4) := HB3.out.trans (r4.mono HB3.out.size)
    clear r4 HSB
    go_wp2_with fail
    refine Calls.mono (lives_any _) ?_
    rintro e w5 ⟨rfl, r4⟩
    have HB5 : Hid (Below w.heap.size w w5) := HB4.out.trans (r4.mono HB4.out.size)
    clear r4
    go_wp2_with fail
    go_ret
    exact ⟨rfl, HB5.out⟩

end Go.Proofs.Ytamfpmpooaejkaa
