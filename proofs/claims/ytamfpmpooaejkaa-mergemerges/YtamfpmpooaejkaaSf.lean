/- The walks over Next, the program's and the document's. -/
import Derived.Test.YtamfpmpooaejkaaSd
namespace Go.Proofs.Ytamfpmpooaejkaa
open Go.RowKit
set_option linter.unusedVariables false

/-- Whether a stamp is a branch's next one. -/
def othB (s had : List Int) (i : Int) : Bool := allB (fun x => decide ((x.1 : Int) = i) || decide (x.2.1 ≤ x.2.2)) s had
def nxB (had s : List Int) (i : Int) : Bool := !(atZ had i == 9223372036854775807) && (atZ s i == wrap64 (atZ had i + 1)) && othB s had i

set_option maxRecDepth 1000000 in
set_option maxHeartbeats 2000000 in
theorem next_any (v u : Value) (had s : List Int) (i : Int) (w : World) (hv : RI w v had) (hu : RI w u s) (hn : had.length ≤ 9223372036854775807) (hn' : s.length ≤ 9223372036854775807) :
    Calls Try.prog 45 #[v, u, .int .i64 i] w fun e w' => e = .returned (.bool (nxB had s i)) ∧ Below w.heap.size w w' := by
  have hb : Below w.heap.size w (w.alloc (.cells #[.int .i64 i] 3)) := (Below.refl _ _).alloc (Nat.le_refl _) _
  have H1 : Hid _ := at_any v had i _ (hv.later hb) hn
  have H2 : Hid _ := at_any u s i _ (hu.later hb) hn'
  have H3 : Hid _ := all_nx u v s had w.heap.size i _ (hu.later hb) (hv.later hb) hn' hn (cell_new w i)
  have HB : Hid _ := hb
  have hc := cell_new w i
  obtain ⟨R, HR⟩ : ∃ R, Hid (R = nxB had s i) := ⟨_, rfl⟩
  rw [← HR.out]
  unfold nxB at HR
  change Hid (Calls Try.prog 40 _ _ fun e w' => e = .returned (.bool (othB s had i)) ∧ _) at H3
  obtain ⟨xa, xc, rfl, _⟩ := hv
  obtain ⟨ya, yc, rfl, _⟩ := hu
  generalize othB s had i = o at *
  generalize atZ had i = x at *
  generalize atZ s i = y at *
  generalize had.length = nh at *
  generalize s.length = ns at *
  clear hb
  by_cases hx : x = 9223372036854775807
  · have HR2 : Hid (R = false) := by show _ = _; rw [HR.out, hx]; rfl
    subst hx
    clear HR H3 H2
    go_enter Try.func45, Try.ntmps45
    go_wp2_with fail
    refine Calls.mono H1.out ?_
    rintro e w1 ⟨rfl, rfl⟩
    go_wp2_with fail
    go_ret
    exact ⟨by rw [HR2.out]; rfl, HB.out⟩
  · have hx2 : (x == (9223372036854775807 : Int)) = false := by simpa using hx
    cases hy : (y == wrap64 (x + 1)) with
    | false =>
      have HR2 : Hid (R = false) := by show _ = _; rw [HR.out, hx2, hy]; rfl
      clear HR H3 hx
      go_enter Try.func45, Try.ntmps45
      go_wp2_with fail
      refine Calls.mono H1.out ?_
      rintro e w1 ⟨rfl, rfl⟩
      go_wp2_with fail
      refine Calls.mono H2.out ?_
      rintro e w2 ⟨rfl, rfl⟩
      go_wp2_with fail
      go_ret
      exact ⟨by rw [HR2.out]; rfl, HB.out⟩
    | true =>
      have HR2 : Hid (R = o) := by show _ = _; rw [HR.out, hx2, hy]; simp
      clear HR hx
      go_enter Try.func45, Try.ntmps45
      go_wp2_with fail
      refine Calls.mono H1.out ?_
      rintro e w1 ⟨rfl, rfl⟩
      go_wp2_with fail
      refine Calls.mono H2.out ?_
      rintro e w2 ⟨rfl, rfl⟩
      go_wp2_with fail
      refine Calls.mono H3.out ?_
      rintro e w3 ⟨rfl, hb3⟩
      have HB3 : Hid (Below w.heap.size w w3) := HB.out.trans (hb3.mono HB.out.size)
      clear hb3
      go_wp2_with fail
      go_ret
      exact ⟨by rw [HR2.out]; rfl, HB3.out⟩

theorem oth_bad {s had : List Int} {i : Int} {k : Nat} (h1 : (k : Int) ≠ i) (h2 : had.getD k 0 < s.getD k 0) : othB s had i = false := by
  cases hc : othB s had i with
  | false => rfl
  | true =>
    have hk : k < max s.length had.length := by
      apply Classical.byContradiction
      intro hk
      rw [getD_far s k (by omega), getD_far had k (by omega)] at h2
      omega
    have := allB_iff.1 hc k hk
    simp only [Bool.or_eq_true, decide_eq_true_eq] at this
    omega

theorem oth_yes {s had : List Int} {i : Int} (h : ∀ k : Nat, k < max s.length had.length → (k : Int) = i ∨ s.getD k 0 ≤ had.getD k 0) : othB s had i = true := by
  unfold othB
  rw [allB_iff]
  intro k hk
  simp only [Bool.or_eq_true, decide_eq_true_eq]
  exact h k hk

theorem nx_neg {had s : List Int} {i : Int} (h : i < 0) : nxB had s i = false := by
  have h1 : ∀ l : List Int, atZ l i = 0 := fun l => by unfold atZ; rw [if_neg (by omega)]
  unfold nxB
  rw [h1, h1]
  have h2 : ((0 : Int) == wrap64 (0 + 1)) = false := by simp [wrap64]
  rw [h2]
  simp

set_option maxRecDepth 1000000 in
set_option maxHeartbeats 2000000 in
theorem rnext_any (v u : Value) (had s : List Int) (i : Int) (w : World) (hv : RI w v had) (hu : RI w u s) (hn : had.length ≤ 9223372036854775807) (hn' : s.length ≤ 9223372036854775807) :
    Calls Try.prog 38 #[v, u, .int .i64 i] w fun e w' => e = .returned (.bool (nxB had s i)) ∧ Below w.heap.size w w' := by
  have H1 : Hid _ := rat_any v had i w hv hn
  have H2 : Hid _ := rat_any u s i w hu hn'
  have H3 : Hid (∀ (k : Nat) (wx : World), Below w.heap.size w wx → _) := fun k wx h => rat_any v had (k : Int) wx (hv.later h) hn
  obtain ⟨R, HR⟩ : ∃ R, Hid (R = nxB had s i) := ⟨_, rfl⟩
  rw [← HR.out]
  have HNG : Hid (i < 0 → R = false) := by show _ → _; intro h; rw [HR.out]; exact nx_neg h
  unfold nxB at HR
  have HBD : Hid (∀ k : Nat, (k : Int) ≠ i → had.getD k 0 < s.getD k 0 → othB s had i = false) := fun k h1 h2 => oth_bad h1 h2
  have HYS : Hid ((∀ k : Nat, k < max s.length had.length → (k : Int) = i ∨ s.getD k 0 ≤ had.getD k 0) → othB s had i = true) := fun h => oth_yes h
  have HFS : Hid (∀ k, s.length ≤ k → s.getD k 0 = 0) := fun k h => getD_far s k h
  obtain ⟨xa, xc, rfl, _, _, hrv⟩ := hv
  obtain ⟨ya, yc, rfl, _, _, hru⟩ := hu
  have HCV : Hid _ := hrv
  have HCU : Hid _ := hru
  clear hrv hru
  generalize othB s had i = o at *
  generalize atZ had i = x at *
  generalize atZ s i = y at *
  generalize had.length = nh at *
  generalize s.length = ns at *
  by_cases hx : x = 9223372036854775807
  · have HR2 : Hid (R = false) := by show _ = _; rw [HR.out, hx]; rfl
    subst hx
    clear HR H3 H2
    go_enter Try.func38, Try.ntmps38
    go_wp2_with fail
    refine Calls.mono H1.out ?_
    rintro e w1 ⟨rfl, rfl⟩
    go_wp2_with fail
    go_ret
    exact ⟨by rw [HR2.out]; rfl, Below.refl _ _⟩
  · have hx2 : (x == (9223372036854775807 : Int)) = false := by simpa using hx
    cases hy : (y == wrap64 (x + 1)) with
    | false =>
      have HR2 : Hid (R = false) := by show _ = _; rw [HR.out, hx2, hy]; rfl
      have hy2 : (y != wrap64 (x + 1)) = true := by simp [bne, hy]
      clear HR H3 hx
      go_enter Try.func38, Try.ntmps38
      go_wp2_with fail
      refine Calls.mono H1.out ?_
      rintro e w1 ⟨rfl, rfl⟩
      go_wp2_with fail
      refine Calls.mono H2.out ?_
      rintro e w2 ⟨rfl, rfl⟩
      go_wp2_with fail
      go_ret
      exact ⟨by rw [HR2.out]; rfl, Below.refl _ _⟩
    | true =>
      have hy2 : (y != wrap64 (x + 1)) = false := by simp [bne, hy]
      by_cases hi : i < 0
      · have HR2 : Hid (R = false) := HNG.out hi
        clear HR H3 hx HNG HBD HYS
        go_enter Try.func38, Try.ntmps38
        go_wp2_with fail
        refine Calls.mono H1.out ?_
        rintro e w1 ⟨rfl, rfl⟩
        go_wp2_with fail
        refine Calls.mono H2.out ?_
        rintro e w2 ⟨rfl, rfl⟩
        go_wp2_with fail
        go_ret
        exact ⟨by rw [HR2.out]; rfl, Below.refl _ _⟩
      · have HR2 : Hid (R = o) := by show _ = _; rw [HR.out, hx2, hy]; simp
        clear HR hx HNG
        go_enter Try.func38, Try.ntmps38
        go_wp2_with fail
        refine Calls.mono H1.out ?_
        rintro e w1 ⟨rfl, rfl⟩
        go_wp2_with fail
        refine Calls.mono H2.out ?_
        rintro e w2 ⟨rfl, rfl⟩
        clear H1 H2
        go_wp2_with fail
        go_loopw [8] (fun iv wr => ∃ (k : Nat), k ≤ ns ∧ iv = .int .i64 k ∧ Hid (∀ j : Nat, j < k → (j : Int) = i ∨ s.getD j 0 ≤ had.getD j 0) ∧ Hid (Below w2.heap.size w2 wr)) (fun iv _ => ns - (intOf iv).toNat)
        case atStart => exact ⟨0, Nat.zero_le _, rfl, fun j hj => by omega, Below.refl _ _⟩
        case round =>
          obtain ⟨k, hk, rfl, HA, HB⟩ := hrel
          rename World => wr
          by_cases hlt : k < ns
          · obtain ⟨b1, o1, rfl, hc1⟩ := HCU.out k hlt
            have hc2 : ∀ m, (wr.drewN m).cell? ⟨b1, o1 + k, none⟩ = some (.int .i64 (s.getD k 0)) := fun _ => cell_later HB.out hc1
            have H4 : Hid (∀ n, _) := fun n => H3.out k (wr.drewN n) (below_drewN HB.out n)
            rw [atZ_nat] at H4
            have HBk : Hid _ := HBD.out k
            have HAk : Hid (((k : Int) = i ∨ s.getD k 0 ≤ had.getD k 0) → ∀ j : Nat, j < k + 1 → (j : Int) = i ∨ s.getD j 0 ≤ had.getD j 0) := by
              show _ → ∀ j, _
              intro h j hj
              by_cases hjk : j = k
              · subst hjk; exact h
              · exact HA.out j (by omega)
            generalize s.getD k 0 = p at *
            generalize had.getD k 0 = q at *
            clear hc1 HA
            by_cases hki : (k : Int) = i
            · have HA2 : Hid _ := HAk.out (.inl hki)
              have hq : ((k : Int) != i) = false := by simp [bne, hki]
              clear HAk HBk hki
              go_wp2_with fail
              go_quiet ((go_at_call 46; exact Calls.quiet_of_same (H4.out _)))
              go_wp2_with fail
              go_roundw
              case rel => exact ⟨k + 1, by omega, by go_num, HA2, below_drewN HB.out _⟩
              case measure => simp [intOf]; omega
            · have hq : ((k : Int) != i) = true := by simpa [bne] using hki
              by_cases hpq : q < p
              · have HR3 : Hid (R = false) := by show _ = _; rw [HR2.out]; exact HBk.out hki hpq
                have hd : decide (q < p) = true := decide_eq_true hpq
                clear HAk HBk hki HR2 HBD HYS
                go_wp2_with fail
                go_quiet ((go_at_call 46; exact Calls.quiet_of_same (H4.out _)))
                go_wp2_with fail
                go_ret
                exact ⟨by rw [HR3.out]; rfl, below_drewN HB.out _⟩
              · have HA2 : Hid _ := HAk.out (.inr (by omega))
                have hd : decide (q < p) = false := decide_eq_false hpq
                clear HAk HBk hki
                go_wp2_with fail
                go_quiet ((go_at_call 46; exact Calls.quiet_of_same (H4.out _)))
                go_wp2_with fail
                go_roundw
                case rel => exact ⟨k + 1, by omega, by go_num, HA2, below_drewN HB.out _⟩
                case measure => simp [intOf]; omega
          · have hkn : k = ns := by omega
            have HA0 : Hid (∀ j : Nat, j < ns → (j : Int) = i ∨ s.getD j 0 ≤ had.getD j 0) := by rw [← hkn]; exact HA
            clear HA hkn
            go_wp2_with fail
            go_loopw [9] (fun iv wx => ∃ (m : Nat), ns ≤ m ∧ (m ≤ nh ∨ m = ns) ∧ iv = .int .i64 m ∧ Hid (∀ j : Nat, j < m → (j : Int) = i ∨ s.getD j 0 ≤ had.getD j 0) ∧ Hid (Below w2.heap.size w2 wx)) (fun iv _ => nh - (intOf iv).toNat)
            case atStart => exact ⟨ns, Nat.le_refl _, .inr rfl, rfl, HA0, HB⟩
            case round =>
              obtain ⟨m, hm1, hm2, rfl, HA, HB⟩ := hrel
              rename World => wx
              by_cases hlm : m < nh
              · obtain ⟨b1, o1, rfl, hc1⟩ := HCV.out m hlm
                have hc2 := cell_later HB.out hc1
                have hs0 := HFS.out m hm1
                have HBk : Hid _ := HBD.out m
                have HAk : Hid (((m : Int) = i ∨ s.getD m 0 ≤ had.getD m 0) → ∀ j : Nat, j < m + 1 → (j : Int) = i ∨ s.getD j 0 ≤ had.getD j 0) := by
                  show _ → ∀ j, _
                  intro h j hj
                  by_cases hjk : j = m
                  · subst hjk; exact h
                  · exact HA.out j (by omega)
                rw [hs0] at HBk HAk
                generalize had.getD m 0 = q at *
                clear hc1 HA hs0
                by_cases hki : (m : Int) = i
                · have HA2 : Hid _ := HAk.out (.inl hki)
                  have hq : ((m : Int) != i) = false := by simp [bne, hki]
                  clear HAk HBk hki
                  go_wp2_with fail
                  go_roundw
                  case rel => exact ⟨m + 1, by omega, by omega, by go_num, HA2, HB⟩
                  case measure => simp [intOf]; omega
                · have hq : ((m : Int) != i) = true := by simpa [bne] using hki
                  by_cases hpq : q < 0
                  · have HR3 : Hid (R = false) := by show _ = _; rw [HR2.out]; exact HBk.out hki hpq
                    clear HAk HBk hki HR2 HBD HYS
                    go_wp2_with fail
                    go_ret
                    exact ⟨by rw [HR3.out]; rfl, HB.out⟩
                  · have HA2 : Hid _ := HAk.out (.inr (by omega))
                    clear HAk HBk hki
                    go_wp2_with fail
                    go_roundw
                    case rel => exact ⟨m + 1, by omega, by omega, by go_num, HA2, HB⟩
                    case measure => simp [intOf]; omega
              · have HR3 : Hid (R = true) := by show _ = _; rw [HR2.out]; exact HYS.out (fun j hj => HA.out j (by omega))
                clear HR2 HBD HYS HA
                go_wp2_with fail
                go_ret
                exact ⟨by rw [HR3.out]; rfl, HB.out⟩
end Go.Proofs.Ytamfpmpooaejkaa
