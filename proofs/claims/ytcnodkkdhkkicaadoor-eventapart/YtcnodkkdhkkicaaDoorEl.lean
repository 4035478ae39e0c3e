/- The walks over the document's Same and Digits. -/
import Derived.Test.YtcnodkkdhkkicaaDoorEi
namespace Go.Proofs.YtcnodkkdhkkicaaDoor
open Go.RowKit
set_option linter.unusedVariables false

theorem ev_ext {a b : Ev} (h1 : a.k = b.k) (h2 : a.i = b.i) (h3 : a.t = b.t) (h4 : a.s = b.s) : a = b := by
  cases a; cases b
  simp only at h1 h2 h3 h4
  subst h1 h2 h3 h4
  rfl

def sameB (a b : Ev) : Bool := decide (a.k = b.k) && decide (a.i = b.i) && decide (a.t = b.t) && decide (a.s = b.s)

theorem sameB_iff {a b : Ev} : sameB a b = true ↔ a = b := by
  unfold sameB
  simp only [Bool.and_eq_true, decide_eq_true_eq]
  constructor
  · rintro ⟨⟨⟨h1, h2⟩, h3⟩, h4⟩
    exact ev_ext h1 h2 h3 h4
  · rintro rfl
    exact ⟨⟨⟨rfl, rfl⟩, rfl⟩, rfl⟩

theorem beq_dec (a b : Int) : (a == b) = decide (a = b) := by by_cases h : a = b <;> simp [h]

set_option maxRecDepth 1000000 in
set_option maxHeartbeats 4000000 in
theorem same_ev (a b : Ev) (va vb : Value) (w : World) (ha : RI w va a.s) (hb : RI w vb b.s) (na : a.s.length ≤ 1000000) (nb : b.s.length ≤ 1000000) :
    Calls Tryd.prog 20 #[EvV a va, EvV b vb] w fun x w' => x = .returned (.bool (sameB a b)) ∧ Below w.heap.size w w' := by
  have HX : Hid (Below w.heap.size w ((w.alloc (.cells #[.int .i64 a.k, .int .i64 a.i, .int .i64 a.t, va] 25)).alloc (.cells #[.int .i64 b.k, .int .i64 b.i, .int .i64 b.t, vb] 25))) := ((Below.refl _ _).alloc (Nat.le_refl _) _).alloc (by simp) _
  have HC : Hid _ := same_any a.s b.s va vb ((w.alloc (.cells #[.int .i64 a.k, .int .i64 a.i, .int .i64 a.t, va] 25)).alloc (.cells #[.int .i64 b.k, .int .i64 b.i, .int .i64 b.t, vb] 25)) (ha.later HX.out) (hb.later HX.out) na nb
  obtain ⟨sa, sc, rfl, _, _, hrr⟩ := ha
  obtain ⟨sb, sd, rfl, _, _, hrr'⟩ := hb
  clear hrr hrr'
  unfold EvV sameB
  generalize decide (a.s = b.s) = o at *
  generalize a.s.length = n1 at *
  generalize b.s.length = n2 at *
  generalize a.k = k1 at *
  generalize a.i = i1 at *
  generalize a.t = t1 at *
  generalize b.k = k2 at *
  generalize b.i = i2 at *
  generalize b.t = t2 at *
  by_cases hk : k1 = k2
  · have gk : (k1 == k2) = true := by simpa using hk
    rw [decide_eq_true hk, Bool.true_and]
    by_cases hi : i1 = i2
    · have gi : (i1 == i2) = true := by simpa using hi
      rw [decide_eq_true hi, Bool.true_and]
      by_cases ht : t1 = t2
      · have gt : (t1 == t2) = true := by simpa using ht
        rw [decide_eq_true ht, Bool.true_and]
        clear hk hi ht
        go_enter Tryd.func20, Tryd.ntmps20
        go_wp2_with fail
        refine Calls.mono HC.out ?_
        rintro e w1 ⟨rfl, hb1⟩
        have HB1 : Hid (Below w.heap.size w w1) := HX.out.trans (hb1.mono (by simp; omega))
        clear hb1
        go_wp2_with fail
        go_ret
        exact ⟨rfl, HB1.out⟩
      · have gt : (t1 == t2) = false := by simpa using ht
        rw [decide_eq_false ht, Bool.false_and]
        clear hk hi ht HC
        go_enter Tryd.func20, Tryd.ntmps20
        go_wp2_with fail
        go_ret
        exact ⟨rfl, HX.out⟩
    · have gi : (i1 == i2) = false := by simpa using hi
      rw [decide_eq_false hi, Bool.false_and, Bool.false_and]
      clear hk hi HC
      go_enter Tryd.func20, Tryd.ntmps20
      go_wp2_with fail
      go_ret
      exact ⟨rfl, HX.out⟩
  · have gk : (k1 == k2) = false := by simpa using hk
    rw [decide_eq_false hk, Bool.false_and, Bool.false_and, Bool.false_and]
    clear hk HC
    go_enter Tryd.func20, Tryd.ntmps20
    go_wp2_with fail
    go_ret
    exact ⟨rfl, HX.out⟩

set_option maxRecDepth 1000000 in
set_option maxHeartbeats 4000000 in
theorem digit_any (n : Nat) (hn : n < 10) (w : World) : Calls Tryd.prog 30 #[.int .i64 n] w fun e w' => e = .returned (.string ⟨(dgs n).toArray⟩) ∧ w' = w := by
  rw [dgs_lt hn]
  have hc : n = 0 ∨ n = 1 ∨ n = 2 ∨ n = 3 ∨ n = 4 ∨ n = 5 ∨ n = 6 ∨ n = 7 ∨ n = 8 ∨ n = 9 := by omega
  rcases hc with rfl | rfl | rfl | rfl | rfl | rfl | rfl | rfl | rfl | rfl
  all_goals
    go_enter Tryd.func30, Tryd.ntmps30
    go_wp2_with fail
    go_ret
    exact ⟨rfl, rfl⟩

set_option maxRecDepth 1000000 in
set_option maxHeartbeats 4000000 in
theorem digits_any0 : ∀ (m n : Nat), n < 10 ^ (m + 1) → m ≤ 15 → ∀ w : World, Calls Tryd.prog 30 #[.int .i64 n] w fun e w' => e = .returned (.string ⟨(dgs n).toArray⟩) ∧ w' = w := by
  intro m
  induction m with
  | zero => intro n hn _ w; exact digit_any n (by simpa using hn) w
  | succ m ih =>
    intro n hn hm w
    by_cases h : n < 10
    · exact digit_any n h w
    · have hq : n / 10 < 10 ^ (m + 1) := by
        rw [Nat.div_lt_iff_lt_mul (by decide), ← Nat.pow_succ]
        exact hn
      have HI : Hid (∀ w : World, Calls Tryd.prog 30 #[.int .i64 ((n : Int) / 10)] w fun e w' => e = .returned (.string ⟨(dgs (n / 10)).toArray⟩) ∧ w' = w) := fun w => ih (n / 10) hq (by omega) w
      have HJ : Hid (∀ w : World, Calls Tryd.prog 30 #[.int .i64 ((n : Int) % 10)] w fun e w' => e = .returned (.string ⟨(dgs (n % 10)).toArray⟩) ∧ w' = w) := fun w => digit_any (n % 10) (by omega) w
      have HO : Hid (dgs n = dgs (n / 10) ++ dgs (n % 10)) := dgs_ge h
      have hpow : n < 100000000000000000 := by
        have h2 : 10 ^ (m + 1 + 1) ≤ 10 ^ 17 := Nat.pow_le_pow_right (by decide) (by omega)
        have h3 : (10 : Nat) ^ 17 = 100000000000000000 := by decide
        omega
      have l1 := dgs_len 16 (n / 10) (by have h3 : (10 : Nat) ^ 17 = 100000000000000000 := by decide
                                         omega)
      have l2 := dgs_len 16 (n % 10) (by have h3 : (10 : Nat) ^ 17 = 100000000000000000 := by decide
                                         omega)
      have hm1 : (n : Int).tmod 10 = (n : Int) % 10 := Int.tmod_eq_emod_of_nonneg (by omega)
      have hm2 : (n : Int).tdiv 10 = (n : Int) / 10 := Int.tdiv_eq_ediv_of_nonneg (by omega)
      have hm4 : IntKind.i64.wrap ((n : Int) / 10) = (n : Int) / 10 := by rw [IntKind.wrap_i64]; omega
      rw [HO.out]
      have hcat : (⟨(dgs (n / 10)).toArray⟩ : ByteArray) ++ ⟨(dgs (n % 10)).toArray⟩ = ⟨(dgs (n / 10) ++ dgs (n % 10)).toArray⟩ := bcat _ _
      clear ih hq HO hn
      generalize dgs (n / 10) = D1 at *
      generalize dgs (n % 10) = D2 at *
      go_enter Tryd.func30, Tryd.ntmps30
      go_wp2_with fail
      refine Calls.mono (HI.out _) ?_
      rintro e w1 ⟨rfl, h2⟩
      obtain rfl := h2.symm
      clear h2
      go_wp2_with fail
      refine Calls.mono (HJ.out _) ?_
      rintro e w1 ⟨rfl, h2⟩
      obtain rfl := h2.symm
      clear h2
      go_wp2_with fail
      go_ret
      exact ⟨rfl, rfl⟩

theorem digits_any (n : Int) (h0 : 0 ≤ n) (h1 : n ≤ 1099511627776) (D : List UInt8) (hD : D = dgs n.toNat) (w : World) : Calls Tryd.prog 30 #[.int .i64 n] w fun e w' => e = .returned (.string ⟨D.toArray⟩) ∧ w' = w := by
  subst hD
  have := digits_any0 12 n.toNat (by omega) (by omega) w
  rw [show ((n.toNat : Nat) : Int) = n by omega] at this
  exact this
end Go.Proofs.YtcnodkkdhkkicaaDoor
