/- The walk over MergeSplits. -/
import Derived.Test.YtamfpmpooaejkaaNs
namespace Go.Proofs.Ytamfpmpooaejkaa
open Go.RowKit Go.Shelf
set_option maxRecDepth 1000000
set_option linter.unusedVariables false

theorem spl_few (n : Int) (H : List Ev) (hl : H.length ≤ 1000000) (hs : ∀ L ∈ spl n H, ∀ x ∈ L, x.s.length ≤ 1000000) : FewR (spl n H) := by
  refine ⟨?_, fun L hL => ⟨?_, hs L hL⟩⟩
  · unfold spl
    split
    · rename_i h
      have := hist_n h
      rw [prts_len]
      omega
    · simp
  · unfold spl at hL
    split at hL
    · unfold prts at hL
      obtain ⟨i, _, rfl⟩ := List.mem_map.1 hL
      have : ∀ (h : List Ev) (bs : List Nat), (Mg.part i h bs).length ≤ h.length := by
        intro h
        induction h with
        | nil => intro bs; cases bs <;> simp [Mg.part]
        | cons e h ih =>
          intro bs
          cases bs with
          | nil => simp [Mg.part]
          | cons b bs =>
            rw [Mg.part]
            have := ih bs
            split
            · simp only [List.length_cons]; omega
            · simp only [List.length_cons]; omega
      exact Nat.le_trans (this _ _) hl
    · simp at hL

set_option maxHeartbeats 8000000 in
theorem splits_walk (H : List Ev) (hv : Value) (n i k : Int) (w : World) (hh : RE w hv H) : Calls Try.prog 4 #[hv, .int .i64 n, .int .i64 i, .int .i64 k] w fun e w' => e = .returned (.bool true) ∧ Below w.heap.size w w' := by
  have HRH : Hid (RE w hv H) := hh
  obtain ⟨ha, hc, rfl, _⟩ := hh
  have HSH : Hid _ := short_any ha H.length hc w
  by_cases h150 : H.length ≤ 150
  · rw [decide_eq_true h150] at HSH
    have HC1 : Hid _ := c_split _ H n w HRH.out (by omega)
    have HC2 : Hid (∀ w1, Below w.heap.size w w1 → _) := fun w1 hb => c_rsplit _ H n w1 (HRH.out.later hb) (by omega)
    have HC3 : Hid (∀ w1, Below w.heap.size w w1 → _) := fun w1 hb => c_check _ H n w1 (HRH.out.later hb) (by omega)
    have HC4 : Hid (∀ w1, Below w.heap.size w w1 → _) := fun w1 hb => c_rcheck _ H n w1 (HRH.out.later hb) (by omega)
    have HC5 : Hid (∀ w1, Below w.heap.size w w1 → _) := fun w1 hb => c_ahead _ H i k w1 (HRH.out.later hb)
    have HC6 : Hid (∀ w1, Below w.heap.size w w1 → _) := fun w1 hb => c_rahead _ H i k w1 (HRH.out.later hb)
    have HFS : Hid ((∀ L ∈ spl n H, ∀ x ∈ L, x.s.length ≤ 1000000) → FewR (spl n H)) := fun hs => spl_few n H (by omega) hs
    clear HRH h150
    unfold SplC at HC1 HC2
    generalize H.length = m at *
    generalize chkN n H = E at *
    generalize ahd H i k = A at *
    generalize spl n H = X at *
    go_enter Try.func4, Try.ntmps4
    go_wp2_with fail
    refine Calls.mono HSH.out ?_
    rintro e w1 ⟨rfl, h⟩
    obtain rfl := h.symm
    clear HSH
    go_wp2_with fail
    refine Calls.mono HC1.out ?_
    rintro e w1 ⟨a1, c1, rfl, r1, r2, r4⟩
    have HB1 : Hid (Below w.heap.size w w1) := r4
    have HR1 : Hid (RRE w1 (.slice a1 X.length c1) X) := r1
    have HF : Hid (FewR X) := HFS.out r2
    clear r1 r2 r4 HC1 HFS
    go_wp2_with fail
    refine Calls.mono (HC2.out w1 HB1.out) ?_
    rintro e w2 ⟨a2, c2, rfl, r1, r2, r4⟩
    have HR1 : Hid (RRE w2 (.slice a1 X.length c1) X) := HR1.out.later r4
    have HR2 : Hid (RRE w2 (.slice a2 X.length c2) X) := r1
    have HB2 : Hid (Below w.heap.size w w2) := HB1.out.trans (r4.mono HB1.out.size)
    clear r1 r2 r4 HC2 HB1
    have HSA : Hid (Calls Try.prog 18 #[.slice a1 X.length c1, .slice a2 X.length c2] w2 fun e w' => e = .returned (.bool true) ∧ Below w2.heap.size w2 w') := by
      have h9 := sameRows_any X X _ _ w2 HR1.out HR2.out HF.out HF.out
      rw [decide_eq_true rfl] at h9
      exact h9
    go_wp2_with fail
    refine Calls.mono HSA.out ?_
    rintro e w3 ⟨rfl, r4⟩
    have HB3 : Hid (Below w.heap.size w w3) := HB2.out.trans (r4.mono HB2.out.size)
    clear r4 HSA
    go_wp2_with fail
    refine Calls.mono (HC3.out w3 HB3.out) ?_
    rintro e w4 ⟨rfl, r4⟩
    have HB4 : Hid (Below w.heap.size w w4) := HB3.out.trans (r4.mono HB3.out.size)
    clear r4 HC3
    go_wp2_with fail
    refine Calls.mono (HC4.out w4 HB4.out) ?_
    rintro e w5 ⟨rfl, r4⟩
    have HB5 : Hid (Below w.heap.size w w5) := HB4.out.trans (r4.mono HB4.out.size)
    clear r4 HC4
    go_wp2_with fail
    refine Calls.mono (HC5.out w5 HB5.out) ?_
    rintro e w6 ⟨rfl, r4⟩
    have HB6 : Hid (Below w.heap.size w w6) := HB5.out.trans (r4.mono HB5.out.size)
    clear r4 HC5
    go_wp2_with fail
    refine Calls.mono (HC6.out w6 HB6.out) ?_
    rintro e w7 ⟨rfl, r4⟩
    have HB7 : Hid (Below w.heap.size w w7) := HB6.out.trans (r4.mono HB6.out.size)
    clear r4 HC6
    go_wp2_with fail
    refine Calls.mono (lives_any _) ?_
    rintro e w8 ⟨rfl, r4⟩
    have HB8 : Hid (Below w.heap.size w w8) := HB7.out.trans (r4.mono HB7.out.size)
    clear r4
    go_wp2_with fail
    go_ret
    exact ⟨rfl, HB8.out⟩
  · rw [decide_eq_false h150] at HSH
    clear HRH h150
    generalize H.length = m at *
    go_enter Try.func4, Try.ntmps4
    go_wp2_with fail
    refine Calls.mono HSH.out ?_
    rintro e w1 ⟨rfl, h⟩
    obtain rfl := h.symm
    go_wp2_with fail
    refine Calls.mono (lives_any _) ?_
    rintro e w1 ⟨rfl, hb⟩
    have HB : Hid _ := hb
    clear hb
    go_wp2_with fail
    go_ret
    exact ⟨rfl, HB.out⟩
end Go.Proofs.Ytamfpmpooaejkaa
