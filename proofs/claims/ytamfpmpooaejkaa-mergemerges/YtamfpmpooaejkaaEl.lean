/- The walks over the document's Same and Digits. -/
import Derived.Test.YtamfpmpooaejkaaWi
namespace Go.Proofs.Ytamfpmpooaejkaa
set_option maxRecDepth 1000000
open Go.RowKit
set_option linter.unusedVariables false

/-- What happened to an item, in which try, and when. -/
structure Ev where
  k : Int
  i : Int
  t : Int
  s : List Int

/-- No event. -/
def Ev.none : Ev := ⟨0, 0, 0, []⟩

def EvV (e : Ev) (sv : Value) : Value := .agg #[.int .i64 e.k, .int .i64 e.i, .int .i64 e.t, sv]

theorem ev_ext {a b : Ev} (h1 : a.k = b.k) (h2 : a.i = b.i) (h3 : a.t = b.t) (h4 : a.s = b.s) : a = b := by
  cases a; cases b
  simp only at h1 h2 h3 h4
  subst h1 h2 h3 h4
  rfl

def sameB (a b : Ev) : Bool := decide (a.k = b.k) && decide (a.i = b.i) && decide (a.t = b.t) && decide (a.s = b.s)

theorem sameB_iff {a b : Ev} : sameB a b = true ↔ a = b := by
  unfold sameB
  simp only [Bool.and_eq_true, decide_eq_true_eq]
  constructor
  · rintro ⟨⟨⟨h1, h2⟩, h3⟩, h4⟩
    exact ev_ext h1 h2 h3 h4
  · rintro rfl
    exact ⟨⟨⟨rfl, rfl⟩, rfl⟩, rfl⟩

theorem beq_dec (a b : Int) : (a == b) = decide (a = b) := by by_cases h : a = b <;> simp [h]

set_option maxRecDepth 1000000 in
set_option maxHeartbeats 4000000 in
theorem same_ev (a b : Ev) (va vb : Value) (w : World) (ha : RI w va a.s) (hb : RI w vb b.s) (na : a.s.length ≤ 1000000) (nb : b.s.length ≤ 1000000) :
    Calls Try.prog 28 #[EvV a va, EvV b vb] w fun x w' => x = .returned (.bool (sameB a b)) ∧ Below w.heap.size w w' := by
  have HX : Hid (Below w.heap.size w ((w.alloc (.cells #[.int .i64 a.k, .int .i64 a.i, .int .i64 a.t, va] 45)).alloc (.cells #[.int .i64 b.k, .int .i64 b.i, .int .i64 b.t, vb] 45))) := ((Below.refl _ _).alloc (Nat.le_refl _) _).alloc (by simp) _
  have HC : Hid _ := same_any a.s b.s va vb ((w.alloc (.cells #[.int .i64 a.k, .int .i64 a.i, .int .i64 a.t, va] 45)).alloc (.cells #[.int .i64 b.k, .int .i64 b.i, .int .i64 b.t, vb] 45)) (ha.later HX.out) (hb.later HX.out) na nb
  obtain ⟨sa, sc, rfl, _, _, hrr⟩ := ha
  obtain ⟨sb, sd, rfl, _, _, hrr'⟩ := hb
  clear hrr hrr'
  unfold EvV sameB
  generalize decide (a.s = b.s) = o at *
  generalize a.s.length = n1 at *
  generalize b.s.length = n2 at *
  generalize a.k = k1 at *
  generalize a.i = i1 at *
  generalize a.t = t1 at *
  generalize b.k = k2 at *
  generalize b.i = i2 at *
  generalize b.t = t2 at *
  by_cases hk : k1 = k2
  · have gk : (k1 == k2) = true := by simpa using hk
    rw [decide_eq_true hk, Bool.true_and]
    by_cases hi : i1 = i2
    · have gi : (i1 == i2) = true := by simpa using hi
      rw [decide_eq_true hi, Bool.true_and]
      by_cases ht : t1 = t2
      · have gt : (t1 == t2) = true := by simpa using ht
        rw [decide_eq_true ht, Bool.true_and]
        clear hk hi ht
        go_enter Try.func28, Try.ntmps28
        go_wp2_with fail
        refine Calls.mono HC.out ?_
        rintro e w1 ⟨rfl, hb1⟩
        have HB1 : Hid (Below w.heap.size w w1) := HX.out.trans (hb1.mono (by simp; omega))
        clear hb1
        go_wp2_with fail
        go_ret
        exact ⟨rfl, HB1.out⟩
      · have gt : (t1 == t2) = false := by simpa using ht
        rw [decide_eq_false ht, Bool.false_and]
        clear hk hi ht HC
        go_enter Try.func28, Try.ntmps28
        go_wp2_with fail
        go_ret
        exact ⟨rfl, HX.out⟩
    · have gi : (i1 == i2) = false := by simpa using hi
      rw [decide_eq_false hi, Bool.false_and, Bool.false_and]
      clear hk hi HC
      go_enter Try.func28, Try.ntmps28
      go_wp2_with fail
      go_ret
      exact ⟨rfl, HX.out⟩
  · have gk : (k1 == k2) = false := by simpa using hk
    rw [decide_eq_false hk, Bool.false_and, Bool.false_and, Bool.false_and]
    clear hk HC
    go_enter Try.func28, Try.ntmps28
    go_wp2_with fail
    go_ret
    exact ⟨rfl, HX.out⟩

end Go.Proofs.Ytamfpmpooaejkaa
