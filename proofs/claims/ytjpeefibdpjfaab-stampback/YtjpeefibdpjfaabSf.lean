/- The walks over the document's Join, and over Next. -/
import Derived.Test.YtjpeefibdpjfaabSe
namespace Go.Proofs.Ytjpeefibdpjfaab
open Go.RowKit
set_option linter.unusedVariables false

theorem join_step (a b : List Int) (k : Nat) : (upto (pf a b) (k + 1)).map mx3 = (upto (pf a b) k).map mx3 ++ [mxI (a.getD k 0) (b.getD k 0)] := by
  rw [upto_succ, List.map_append]
  rfl


/-- Whether a stamp is a branch's next one. -/
def othB (s had : List Int) (i : Int) : Bool := allB (fun x => decide ((x.1 : Int) = i) || decide (x.2.1 ≤ x.2.2)) s had
def nxB (had s : List Int) (i : Int) : Bool := !(atZ had i == 9223372036854775807) && (atZ s i == wrap64 (atZ had i + 1)) && othB s had i

set_option maxRecDepth 1000000 in
set_option maxHeartbeats 2000000 in
theorem next_any (v u : Value) (had s : List Int) (i : Int) (w : World) (hv : RI w v had) (hu : RI w u s) (hn : had.length ≤ 1000000) (hn' : s.length ≤ 1000000) :
    Calls Try.prog 13 #[v, u, .int .i64 i] w fun e w' => e = .returned (.bool (nxB had s i)) ∧ Below w.heap.size w w' := by
  have hb : Below w.heap.size w (w.alloc (.cells #[.int .i64 i] 3)) := (Below.refl _ _).alloc (Nat.le_refl _) _
  have H1 : Hid _ := at_any v had i _ (hv.later hb) hn
  have H2 : Hid _ := at_any u s i _ (hu.later hb) hn'
  have H3 : Hid _ := all_nx u v s had w.heap.size i _ (hu.later hb) (hv.later hb) hn' hn (cell_new w i)
  have HB : Hid _ := hb
  have hc := cell_new w i
  obtain ⟨R, HR⟩ : ∃ R, Hid (R = nxB had s i) := ⟨_, rfl⟩
  rw [← HR.out]
  unfold nxB at HR
  change Hid (Calls Try.prog 17 _ _ fun e w' => e = .returned (.bool (othB s had i)) ∧ _) at H3
  obtain ⟨xa, xc, rfl, _⟩ := hv
  obtain ⟨ya, yc, rfl, _⟩ := hu
  generalize othB s had i = o at *
  generalize atZ had i = x at *
  generalize atZ s i = y at *
  generalize had.length = nh at *
  generalize s.length = ns at *
  clear hb
  by_cases hx : x = 9223372036854775807
  · have HR2 : Hid (R = false) := by show _ = _; rw [HR.out, hx]; rfl
    subst hx
    clear HR H3 H2
    go_enter Try.func13, Try.ntmps13
    go_wp2_with fail
    refine Calls.mono H1.out ?_
    rintro e w1 ⟨rfl, rfl⟩
    go_wp2_with fail
    go_ret
    exact ⟨by rw [HR2.out]; rfl, HB.out⟩
  · have hx2 : (x == (9223372036854775807 : Int)) = false := by simpa using hx
    cases hy : (y == wrap64 (x + 1)) with
    | false =>
      have HR2 : Hid (R = false) := by show _ = _; rw [HR.out, hx2, hy]; rfl
      clear HR H3 hx
      go_enter Try.func13, Try.ntmps13
      go_wp2_with fail
      refine Calls.mono H1.out ?_
      rintro e w1 ⟨rfl, rfl⟩
      go_wp2_with fail
      refine Calls.mono H2.out ?_
      rintro e w2 ⟨rfl, rfl⟩
      go_wp2_with fail
      go_ret
      exact ⟨by rw [HR2.out]; rfl, HB.out⟩
    | true =>
      have HR2 : Hid (R = o) := by show _ = _; rw [HR.out, hx2, hy]; simp
      clear HR hx
      go_enter Try.func13, Try.ntmps13
      go_wp2_with fail
      refine Calls.mono H1.out ?_
      rintro e w1 ⟨rfl, rfl⟩
      go_wp2_with fail
      refine Calls.mono H2.out ?_
      rintro e w2 ⟨rfl, rfl⟩
      go_wp2_with fail
      refine Calls.mono H3.out ?_
      rintro e w3 ⟨rfl, hb3⟩
      have HB3 : Hid (Below w.heap.size w w3) := HB.out.trans (hb3.mono HB.out.size)
      clear hb3
      go_wp2_with fail
      go_ret
      exact ⟨by rw [HR2.out]; rfl, HB3.out⟩

theorem oth_bad {s had : List Int} {i : Int} {k : Nat} (h1 : (k : Int) ≠ i) (h2 : had.getD k 0 < s.getD k 0) : othB s had i = false := by
  cases hc : othB s had i with
  | false => rfl
  | true =>
    have hk : k < max s.length had.length := by
      apply Classical.byContradiction
      intro hk
      rw [getD_far s k (by omega), getD_far had k (by omega)] at h2
      omega
    have := allB_iff.1 hc k hk
    simp only [Bool.or_eq_true, decide_eq_true_eq] at this
    omega

theorem oth_yes {s had : List Int} {i : Int} (h : ∀ k : Nat, k < max s.length had.length → (k : Int) = i ∨ s.getD k 0 ≤ had.getD k 0) : othB s had i = true := by
  unfold othB
  rw [allB_iff]
  intro k hk
  simp only [Bool.or_eq_true, decide_eq_true_eq]
  exact h k hk

theorem nx_neg {had s : List Int} {i : Int} (h : i < 0) : nxB had s i = false := by
  have h1 : ∀ l : List Int, atZ l i = 0 := fun l => by unfold atZ; rw [if_neg (by omega)]
  unfold nxB
  rw [h1, h1]
  have h2 : ((0 : Int) == wrap64 (0 + 1)) = false := by simp [wrap64]
  rw [h2]
  simp


end Go.Proofs.Ytjpeefibdpjfaab
