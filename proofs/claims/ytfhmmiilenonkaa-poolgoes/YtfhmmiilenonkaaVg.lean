/- The laws' step for any call; calls in memory; few. -/
import Derived.Test.YtfhmmiilenonkaaVd
import Derived.Test.YtfhmmiilenonkaaVe
import Derived.Test.YtfhmmiilenonkaaVf
namespace Go.Proofs.Ytfhmmiilenonkaa
open Go.RowKit Go.Shelf
set_option maxRecDepth 1000000
set_option linter.unusedVariables false

variable {N : Nat} {F S : Nat → Prop} {w w' : World} {p r b1 b2 b3 n : Nat} {s : Pq.St Jb}

theorem step_any {x : Ac} {sv : Value} (h : PB N w p r n s) (hx : okA x) (hsv : RS (fun b => b < N) w sv x.e.s) :
    Calls Try.prog 11 #[.pointer (some ⟨p, 0, none⟩), .pointer (some ⟨r, 0, none⟩), AV x sv] w fun e w' => StC N w p r n (stepP n s x) e w' := by
  have hsl : ∃ a n c, sv = .slice a n c := by obtain ⟨⟨a, c, q, _⟩, _⟩ := hsv; exact ⟨_, _, _, q⟩
  by_cases h1 : x.k = 1
  · exact step_take h h1 hx hsl
  by_cases h2 : x.k = 2
  · exact step_put h h2 hx hsv
  by_cases h3 : x.k = 3
  · exact step_done h h3 hx hsl
  by_cases h4 : x.k = 4
  · exact step_drop h h4 hx hsl
  exact step_push h ⟨h1, h2, h3, h4⟩ hx hsv

/-- Calls in memory, each with its stamp's value. -/
abbrev AcP := Ac × Value
def RA (w : World) (v : Value) (l : List AcP) : Prop :=
  ∃ a cap, v = .slice a l.length cap ∧ l.length ≤ cap ∧ cap ≤ maxLen ∧ ∀ i x, l[i]? = some x → ∃ b off, a = some ⟨b, off, none⟩ ∧ w.cell? ⟨b, off + i * 9, none⟩ = some (.int .i64 x.1.k) ∧ w.cell? ⟨b, off + i * 9 + 1, none⟩ = some (.int .i64 x.1.v) ∧ w.cell? ⟨b, off + i * 9 + 2, none⟩ = some (.int .i64 x.1.n) ∧ JC w b (off + i * 9 + 3) (x.1.e, x.2) ∧ RS (fun k => k < w.heap.size) w x.2 x.1.e.s ∧ (-9223372036854775808 ≤ x.1.n ∧ x.1.n ≤ 9223372036854775807)

theorem RA.later {v : Value} {l : List AcP} (h : RA w v l) (hb : Below w.heap.size w w') : RA w' v l := by
  obtain ⟨a, cap, he, hc, hm, hr⟩ := h
  refine ⟨a, cap, he, hc, hm, fun i x hx => ?_⟩
  obtain ⟨b, off, q1, q2, q3, q4, q5, q6, q7⟩ := hr i x hx
  exact ⟨b, off, q1, cell_later hb q2, cell_later hb q3, cell_later hb q4, q5.later hb, (q6.later hb).mono (fun k hk _ => hk), q7⟩

theorem getD_ac {L : List AcP} {k : Nat} (h : k < L.length) : ∃ x, L[k]? = some x := ⟨_, List.getElem?_eq_getElem h⟩

/-- What few answers. -/
def FewC (l : List AcP) (w : World) (e : Ending) (w' : World) : Prop := ∃ q : Bool, e = .returned (.bool q) ∧ (q = true → l.length ≤ 300 ∧ ∀ x ∈ l, okA x.1) ∧ Below w.heap.size w w'

set_option maxHeartbeats 4000000 in
theorem few_any (w : World) (v : Value) (l : List AcP) (h : RA w v l) : Calls Try.prog 7 #[v] w fun e w' => FewC l w e w' := by
  obtain ⟨a, cap, rfl, hc, hm, hr⟩ := h
  have HR : Hid _ := hr
  obtain ⟨n, HN⟩ : ∃ n, Hid (l.length = n) := ⟨_, rfl⟩
  rw [HN.out] at hc ⊢
  clear hr
  have HLN : Hid (n ≤ 300 → l.length ≤ 300) := fun h => by rw [HN.out]; exact h
  by_cases h4 : n ≤ 300
  · go_enter Try.func7, Try.ntmps7
    go_wp2_with fail
    go_loopw [3] (fun s3 wr => ∃ j : Nat, s3 = .int .i64 j ∧ j ≤ n ∧ Hid (Below w.heap.size w wr) ∧ Hid (∀ x ∈ l.take j, okA x.1)) (fun s3 _ => n - (intOf s3).toNat)
    case atStart => exact ⟨0, rfl, Nat.zero_le _, Below.refl _ _, by show ∀ x ∈ l.take 0, _; simp⟩
    case round =>
      obtain ⟨j, rfl, hj, HW, HX⟩ := hrel
      rename World => wr
      by_cases hlt : j < n
      · obtain ⟨x, hx⟩ := getD_ac (L := l) (k := j) (by rw [HN.out]; exact hlt)
        obtain ⟨b, off, rfl, _, _, _, ⟨d0, d1, d2, d3, d4, d5⟩, hRS, hpk⟩ := HR.out j x hx
        obtain ⟨⟨sa, sc, hsv, _⟩, _⟩ := hRS
        have HXx : Hid _ := hx
        have HPK : Hid _ := hpk
        obtain ⟨⟨xk, xv, xn, ⟨xi, xu, xt, xb, xkk, xs⟩⟩, xv2⟩ := x
        dsimp only at *
        subst hsv
        obtain ⟨sl, hsl⟩ : ∃ n, xs.length = n := ⟨_, rfl⟩
        have HSL : Hid (xs.length = sl) := hsl
        rw [hsl] at d5
        have hji : (j : Int) < (n : Int) := by omega
        have e5 := cell_later HW.out d5
        clear hx hsl
        by_cases hs : sl ≤ 100
        · have hd : ¬ (100 : Int) < (sl : Int) := by omega
          have hdd : decide ((100 : Int) < (sl : Int)) = false := decide_eq_false hd
          have HX2 : Hid (∀ x ∈ l.take (j + 1), okA x.1) := by
            show ∀ x ∈ _, _
            intro x hx
            rw [List.take_add_one, HXx.out] at hx
            rcases List.mem_append.1 hx with hx | hx
            · exact HX.out x hx
            · simp at hx; subst hx; exact ⟨by show xs.length ≤ 100; rw [HSL.out]; exact hs, HPK.out⟩
          clear HX
          go_wp2_with fail
          go_roundw
          case rel => exact ⟨j + 1, by go_num, by omega, HW, HX2⟩
          case measure => simp [intOf]; omega
        · have hd : (100 : Int) < (sl : Int) := by omega
          have hdd : decide ((100 : Int) < (sl : Int)) = true := decide_eq_true hd
          clear HX
          go_wp2_with fail
          go_ret
          exact ⟨false, rfl, fun h => (by cases h), HW.out⟩
      · have hjn : j = n := by omega
        subst hjn
        have HX2 : Hid (∀ x ∈ l, okA x.1) := by
          have h9 := HX.out
          have e9 : l.take j = l := List.take_of_length_le (by rw [HN.out]; exact Nat.le_refl _)
          rw [e9] at h9
          exact h9
        clear HX
        go_wp2_with fail
        go_ret
        exact ⟨true, rfl, fun _ => ⟨HLN.out h4, HX2.out⟩, HW.out⟩
  · have hne : (300 : Int) < (n : Int) := by omega
    go_enter Try.func7, Try.ntmps7
    go_wp2_with fail
    go_ret
    exact ⟨false, rfl, fun h => (by cases h), Below.refl _ _⟩

/-- A pool behind the first calls of a list. -/
def playsP (n : Nat) (l : List AcP) : Pq.St Jb := l.foldl (fun s x => stepP n s x.1) (st0 n)
theorem playsP_snoc (n : Nat) (l : List AcP) (x : AcP) : playsP n (l ++ [x]) = stepP n (playsP n l) x.1 := by simp [playsP]
theorem playsP_take {n i : Nat} {l : List AcP} {x : AcP} (hx : l[i]? = some x) : playsP n (l.take (i + 1)) = stepP n (playsP n (l.take i)) x.1 := by
  rw [List.take_add_one, hx]
  exact playsP_snoc _ _ _
end Go.Proofs.Ytfhmmiilenonkaa
