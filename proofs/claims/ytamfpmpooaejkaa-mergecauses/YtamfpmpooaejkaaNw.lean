/- The walk over MergeCauses. -/
import Derived.Test.YtamfpmpooaejkaaNu
namespace Go.Proofs.Ytamfpmpooaejkaa
open Go.RowKit Go.Shelf
set_option maxRecDepth 1000000
set_option linter.unusedVariables false

theorem causes_plain {n : Int} {H : List Ev} (h : hist n H = true) {i k : Nat} (hki : k < i) (hi : i < H.length) : ahd H (i : Int) (k : Int) = false ∧ (H.getD i Ev.none).s ≠ (H.getD k Ev.none).s ∧ (H.getD i Ev.none).s.length ≤ 64 ∧ (H.getD k Ev.none).s.length ≤ 64 := by
  have hn := hist_n h
  obtain ⟨m, rfl⟩ : ∃ m : Nat, n = (m : Int) := ⟨n.toNat, by omega⟩
  obtain ⟨bs, hb⟩ := hist_brs h
  obtain ⟨j, hj, hlt, hl1, hl2⟩ := Mg.causes evS m H bs hb k i hki _ _ (getD_ev (by omega)) (getD_ev hi)
  unfold evS at hlt hl1 hl2
  refine ⟨?_, fun e => by rw [e] at hlt; omega, by omega, by omega⟩
  unfold ahd
  rw [if_pos (by omega), Int.toNat_natCast, Int.toNat_natCast]
  have hle : leB (H.getD i Ev.none).s (H.getD k Ev.none).s = false := leB_bad (k := j) hlt
  unfold rankZ rankN
  rw [hle]
  cases leB (H.getD k Ev.none).s (H.getD i Ev.none).s <;> rfl

set_option maxHeartbeats 8000000 in
theorem causes_walk (H : List Ev) (hv : Value) (n : Int) (w : World) (hh : RE w hv H) : Calls Try.prog 7 #[hv, .int .i64 n] w fun e w' => e = .returned (.bool true) ∧ Below w.heap.size w w' := by
  have HRH : Hid (RE w hv H) := hh
  obtain ⟨ha, hc, rfl, q1, q2, hcs⟩ := hh
  have HCS : Hid _ := hcs
  clear hcs
  by_cases h60 : H.length ≤ 60
  · have HC1 : Hid _ := c_check _ H n w HRH.out (by omega)
    have hg : ¬ (H.length : Int) > 60 := by omega
    cases hhs : hist n H with
    | false =>
      rw [show chkN n H = 2 by unfold chkN; rw [hhs]; rfl] at HC1
      clear hhs HRH HCS
      generalize H.length = m at *
      go_enter Try.func7, Try.ntmps7
      go_wp2_with fail
      refine Calls.mono HC1.out ?_
      rintro e w1 ⟨rfl, r4⟩
      have HB1 : Hid (Below w.heap.size w w1) := r4
      clear r4 HC1
      go_wp2_with fail
      refine Calls.mono (lives_any _) ?_
      rintro e w2 ⟨rfl, r4⟩
      have HB2 : Hid (Below w.heap.size w w2) := HB1.out.trans (r4.mono HB1.out.size)
      clear r4
      go_wp2_with fail
      go_ret
      exact ⟨rfl, HB2.out⟩
    | true =>
      rw [show chkN n H = 0 by unfold chkN; rw [hhs]; rfl] at HC1
      have HPL : Hid (∀ i k : Nat, k < i → i < H.length → ahd H (i : Int) (k : Int) = false ∧ (H.getD i Ev.none).s ≠ (H.getD k Ev.none).s ∧ (H.getD i Ev.none).s.length ≤ 64 ∧ (H.getD k Ev.none).s.length ≤ 64) := fun i k h1 h2 => causes_plain hhs h1 h2
      have HAHA : Hid (∀ (i k : Nat) (wx : World), Below w.heap.size w wx → _) := fun i k wx hb => c_ahead _ H (i : Int) (k : Int) wx (HRH.out.later hb)
      clear hhs HRH
      obtain ⟨m, HM⟩ : ∃ m, Hid (H.length = m) := ⟨_, rfl⟩
      rw [HM.out] at HC1 HPL HAHA q1 h60 hg ⊢
      go_enter Try.func7, Try.ntmps7
      go_wp2_with fail
      refine Calls.mono HC1.out ?_
      rintro e w1 ⟨rfl, r4⟩
      have HB1 : Hid (Below w.heap.size w w1) := r4
      clear r4 HC1
      go_wp2_with fail
      go_loopw [5] (fun iv wr => ∃ i : Nat, i ≤ m ∧ iv = .int .i64 i ∧ Hid (Below w.heap.size w wr)) (fun iv _ => m - (intOf iv).toNat)
      case atStart => exact ⟨0, Nat.zero_le _, rfl, HB1⟩
      case round =>
        obtain ⟨i, hi, rfl, HB2⟩ := hrel
        rename World => w2
        clear HB1
        by_cases him : i < m
        · go_wp2_with fail
          go_loopw [6] (fun iv wr => ∃ k : Nat, k ≤ i ∧ iv = .int .i64 k ∧ Hid (Below w.heap.size w wr)) (fun iv _ => i - (intOf iv).toNat)
          case atStart => exact ⟨0, Nat.zero_le _, rfl, HB2⟩
          case round =>
            obtain ⟨k, hk, rfl, HB3⟩ := hrel
            rename World => w3
            clear HB2
            by_cases hki : k < i
            · have gi := getD_ev (L := H) (k := i) (by rw [HM.out]; exact him)
              have gk := getD_ev (L := H) (k := k) (by rw [HM.out]; omega)
              obtain ⟨b, off, sv, rfl, _, _, _, ci, ri⟩ := HCS.out i _ gi
              obtain ⟨b', off', tv, e9, _, _, _, ck, rk⟩ := HCS.out k _ gk
              simp only [Option.some.injEq, Addr.mk.injEq] at e9
              obtain ⟨rfl, rfl, _⟩ := e9
              obtain ⟨p1, p2, p3, p4⟩ := HPL.out i k hki him
              have HAH : Hid (∀ wx, Below w.heap.size w wx → Calls Try.prog 21 #[.slice (some ⟨b, off, none⟩) m hc, .int .i64 (i : Int), .int .i64 (k : Int)] wx fun e w' => e = .returned (.bool false) ∧ Below w.heap.size w w') := fun wx h => by
                refine Calls.mono (HAHA.out i k wx h) ?_
                rintro e w' ⟨q1, q2⟩
                rw [p1] at q1
                exact ⟨q1, h.trans (q2.mono h.size)⟩
              have HSM : Hid (∀ wx, Below w.heap.size w wx → Calls Try.prog 14 #[sv, tv] wx fun e w' => e = .returned (.bool false) ∧ Below w.heap.size w w') := fun wx h => by
                refine Calls.mono (same_any _ _ sv tv wx (ri.later h) (rk.later h) (by omega) (by omega)) ?_
                rintro e w' ⟨q1, q2⟩
                rw [decide_eq_false p2] at q1
                exact ⟨q1, h.trans (q2.mono h.size)⟩
              obtain ⟨sa, sn, sc, rfl⟩ : ∃ a b c, sv = .slice a b c := by obtain ⟨a, c, h, _⟩ := ri; exact ⟨_, _, _, h⟩
              obtain ⟨ta, tn, tc, rfl⟩ : ∃ a b c, tv = .slice a b c := by obtain ⟨a, c, h, _⟩ := rk; exact ⟨_, _, _, h⟩
              have hS0 : Below w.heap.size w w3.drew := HB3.out.drew
              have hin : (i : Int) < (m : Int) := by omega
              have hkn : (k : Int) < (m : Int) := by omega
              clear gi gk ri rk p1 p2 p3 p4
              go_wp2_with fail
              refine region_thenF [(27, .slice (some ⟨b, off, none⟩) m hc), (28, .int .i64 (i : Int)), (29, .int .i64 (k : Int)), (30, .bool false), (31, .bool false), (32, .slice (some ⟨b, off, none⟩) m hc), (33, .int .i64 (i : Int)), (34, .pointer (some ⟨b, off + i * 4, none⟩)), (35, .pointer (some ⟨b, off + i * 4 + 3, none⟩)), (36, .slice sa sn sc), (37, .slice (some ⟨b, off, none⟩) m hc), (38, .int .i64 (k : Int)), (39, .pointer (some ⟨b, off + k * 4, none⟩)), (40, .pointer (some ⟨b, off + k * 4 + 3, none⟩)), (41, .slice ta tn tc), (42, .bool false), (43, .bool false)] (fun w' => Below w.heap.size w w') ?_ ?_
              · refine wp_region_held (S := fun w' => Below w.heap.size w w') (by kernel_rfl) ?_
                simp only [List.size_toArray, List.length_cons, List.length_nil, Nat.reduceAdd, Array.replicate_succ, Array.replicate_zero, List.push_toArray, List.nil_append, List.cons_append]
                refine takeD (i := 0) (d := 27) (v := .slice (some ⟨b, off, none⟩) m hc) (fuel := 16) rfl rfl (by kernel_rfl) (by kernel_rfl) (by kernel_rfl) (fun _ _ _ h => by cases h.1) (.inl ⟨by kernel_rfl, fun _ _ => by kernel_rfl⟩) hS0 ?_
                simp only [List.setIfInBounds_toArray, List.set_cons_succ, List.set_cons_zero]
                refine takeD (i := 1) (d := 28) (v := .int .i64 (i : Int)) (fuel := 15) rfl rfl (by kernel_rfl) (by kernel_rfl) (by kernel_rfl) (fun _ _ _ h => by cases h.1) (.inl ⟨by kernel_rfl, fun _ _ => by kernel_rfl⟩) hS0 ?_
                simp only [List.setIfInBounds_toArray, List.set_cons_succ, List.set_cons_zero]
                refine takeD (i := 2) (d := 29) (v := .int .i64 (k : Int)) (fuel := 14) rfl rfl (by kernel_rfl) (by kernel_rfl) (by kernel_rfl) (fun _ _ _ h => by cases h.1) (.inl ⟨by kernel_rfl, fun _ _ => by kernel_rfl⟩) hS0 ?_
                simp only [List.setIfInBounds_toArray, List.set_cons_succ, List.set_cons_zero]
                refine oneC (i := 3) (d := 30) (f := 21) (args := #[.slice (some ⟨b, off, none⟩) m hc, .int .i64 (i : Int), .int .i64 (k : Int)]) (v := .bool false) (fuel := 13) rfl rfl (by kernel_rfl) (by kernel_rfl) (fun _ => by kernel_rfl) hS0 (fun wx h => HAH.out wx h) (fun wz hS103 => ?_)
                simp only [List.setIfInBounds_toArray, List.set_cons_succ, List.set_cons_zero]
                refine takeD (i := 4) (d := 31) (v := .bool false) (fuel := 12) rfl rfl (by kernel_rfl) (by kernel_rfl) (by kernel_rfl) (fun _ _ _ h => by cases h.1) (.inl ⟨by kernel_rfl, fun _ _ => by kernel_rfl⟩) hS103 ?_
                simp only [List.setIfInBounds_toArray, List.set_cons_succ, List.set_cons_zero]
                refine takeD (i := 5) (d := 32) (v := .slice (some ⟨b, off, none⟩) m hc) (fuel := 11) rfl rfl (by kernel_rfl) (by kernel_rfl) (by kernel_rfl) (fun _ _ _ h => by cases h.1) (.inl ⟨by kernel_rfl, fun _ _ => by kernel_rfl⟩) hS103 ?_
                simp only [List.setIfInBounds_toArray, List.set_cons_succ, List.set_cons_zero]
                refine takeD (i := 6) (d := 33) (v := .int .i64 (i : Int)) (fuel := 10) rfl rfl (by kernel_rfl) (by kernel_rfl) (by kernel_rfl) (fun _ _ _ h => by cases h.1) (.inl ⟨by kernel_rfl, fun _ _ => by kernel_rfl⟩) hS103 ?_
                simp only [List.setIfInBounds_toArray, List.set_cons_succ, List.set_cons_zero]
                refine takeD (i := 7) (d := 34) (v := .pointer (some ⟨b, off + i * 4, none⟩)) (fuel := 9) rfl rfl (by kernel_rfl) (by kernel_rfl) (by kernel_rfl) (fun _ _ _ h => by cases h.1) (.inl ⟨by kernel_rfl, fun _ _ => by go_simp⟩) hS103 ?_
                simp only [List.setIfInBounds_toArray, List.set_cons_succ, List.set_cons_zero]
                refine takeD (i := 8) (d := 35) (v := .pointer (some ⟨b, off + i * 4 + 3, none⟩)) (fuel := 8) rfl rfl (by kernel_rfl) (by kernel_rfl) (by kernel_rfl) (fun _ _ _ h => by cases h.1) (.inl ⟨by kernel_rfl, fun _ _ => by go_simp⟩) hS103 ?_
                simp only [List.setIfInBounds_toArray, List.set_cons_succ, List.set_cons_zero]
                refine takeD (i := 9) (d := 36) (v := .slice sa sn sc) (fuel := 7) rfl rfl (by kernel_rfl) (by kernel_rfl) (by kernel_rfl) (fun _ _ _ h => by cases h.1) (.inl ⟨by kernel_rfl, fun wx h => by have z9 := cell_later h ci; go_simp⟩) hS103 ?_
                simp only [List.setIfInBounds_toArray, List.set_cons_succ, List.set_cons_zero]
                refine takeD (i := 10) (d := 37) (v := .slice (some ⟨b, off, none⟩) m hc) (fuel := 6) rfl rfl (by kernel_rfl) (by kernel_rfl) (by kernel_rfl) (fun _ _ _ h => by cases h.1) (.inl ⟨by kernel_rfl, fun _ _ => by kernel_rfl⟩) hS103 ?_
                simp only [List.setIfInBounds_toArray, List.set_cons_succ, List.set_cons_zero]
                refine takeD (i := 11) (d := 38) (v := .int .i64 (k : Int)) (fuel := 5) rfl rfl (by kernel_rfl) (by kernel_rfl) (by kernel_rfl) (fun _ _ _ h => by cases h.1) (.inl ⟨by kernel_rfl, fun _ _ => by kernel_rfl⟩) hS103 ?_
                simp only [List.setIfInBounds_toArray, List.set_cons_succ, List.set_cons_zero]
                refine takeD (i := 12) (d := 39) (v := .pointer (some ⟨b, off + k * 4, none⟩)) (fuel := 4) rfl rfl (by kernel_rfl) (by kernel_rfl) (by kernel_rfl) (fun _ _ _ h => by cases h.1) (.inl ⟨by kernel_rfl, fun _ _ => by go_simp⟩) hS103 ?_
                simp only [List.setIfInBounds_toArray, List.set_cons_succ, List.set_cons_zero]
                refine takeD (i := 13) (d := 40) (v := .pointer (some ⟨b, off + k * 4 + 3, none⟩)) (fuel := 3) rfl rfl (by kernel_rfl) (by kernel_rfl) (by kernel_rfl) (fun _ _ _ h => by cases h.1) (.inl ⟨by kernel_rfl, fun _ _ => by go_simp⟩) hS103 ?_
                simp only [List.setIfInBounds_toArray, List.set_cons_succ, List.set_cons_zero]
                refine takeD (i := 14) (d := 41) (v := .slice ta tn tc) (fuel := 2) rfl rfl (by kernel_rfl) (by kernel_rfl) (by kernel_rfl) (fun _ _ _ h => by cases h.1) (.inl ⟨by kernel_rfl, fun wx h => by have z9 := cell_later h ck; go_simp⟩) hS103 ?_
                simp only [List.setIfInBounds_toArray, List.set_cons_succ, List.set_cons_zero]
                refine oneC (i := 15) (d := 42) (f := 14) (args := #[.slice sa sn sc, .slice ta tn tc]) (v := .bool false) (fuel := 1) rfl rfl (by kernel_rfl) (by kernel_rfl) (fun _ => by kernel_rfl) hS103 (fun wx h => HSM.out wx h) (fun wz hS115 => ?_)
                simp only [List.setIfInBounds_toArray, List.set_cons_succ, List.set_cons_zero]
                refine takeD (i := 16) (d := 43) (v := .bool false) (fuel := 0) rfl rfl (by kernel_rfl) (by kernel_rfl) (by kernel_rfl) (fun _ _ _ h => by cases h.1) (.inl ⟨by kernel_rfl, fun _ _ => by kernel_rfl⟩) hS115 ?_
                simp only [List.setIfInBounds_toArray, List.set_cons_succ, List.set_cons_zero]
                refine wpAnyH_done (by kernel_rfl) ?_ _
                exact ⟨rfl, by kernel_rfl, hS115⟩
              · intro w9 hF
                simp only [setAll, List.setIfInBounds_toArray, List.set_cons_succ, List.set_cons_zero]
                have HF : Hid _ := hF
                clear hF
                go_wp2_with fail
                go_roundw
                case rel => exact ⟨k + 1, by omega, by go_num, HF⟩
                case measure => simp [intOf]; omega
            · obtain rfl : i = k := by omega
              go_wp2_with fail
              go_roundw
              case rel => exact ⟨i + 1, by omega, by go_num, HB3⟩
              case measure => simp [intOf]; omega
        · go_wp2_with fail
          refine Calls.mono (lives_any _) ?_
          rintro e w3 ⟨rfl, r4⟩
          have HB3 : Hid (Below w.heap.size w w3) := HB2.out.trans (r4.mono HB2.out.size)
          clear r4
          go_wp2_with fail
          go_ret
          exact ⟨rfl, HB3.out⟩
  · have hg : (H.length : Int) > 60 := by omega
    clear HRH HCS h60
    generalize H.length = m at *
    go_enter Try.func7, Try.ntmps7
    go_wp2_with fail
    refine Calls.mono (lives_any _) ?_
    rintro e w1 ⟨rfl, hb⟩
    have HB : Hid _ := hb
    clear hb
    go_wp2_with fail
    go_ret
    exact ⟨rfl, HB.out⟩
end Go.Proofs.Ytamfpmpooaejkaa
