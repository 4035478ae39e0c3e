/- Calls in memory; few; step for any call; DequePlays's walk. -/
import Derived.Test.YthbckfncpnobcaaRq
namespace Go.Proofs.Ythbckfncpnobcaa
open Go.RowKit
set_option maxRecDepth 1000000
set_option linter.unusedVariables false

/-- A call: its kind, and its job with the stamp's value. -/
abbrev Ac := Int × JbP
/-- Calls in memory. -/
def RA (w : World) (v : Value) (l : List Ac) : Prop :=
  ∃ a cap, v = .slice a l.length cap ∧ l.length ≤ cap ∧ cap ≤ maxLen ∧ ∀ i x, l[i]? = some x → ∃ b off, a = some ⟨b, off, none⟩ ∧ w.cell? ⟨b, off + i * 7, none⟩ = some (.int .i64 x.1) ∧ JC w b (off + i * 7 + 1) x.2 ∧ RS (fun k => k < w.heap.size) w x.2.2 x.2.1.s

theorem getD_ac {L : List Ac} {k : Nat} (h : k < L.length) : ∃ x, L[k]? = some x := ⟨_, List.getElem?_eq_getElem h⟩

def okA (x : Ac) : Prop := x.2.1.s.length ≤ 100

/-- What few answers. -/
def FewC (l : List Ac) (w : World) (e : Ending) (w' : World) : Prop := ∃ q : Bool, e = .returned (.bool q) ∧ (q = true → l.length ≤ 400 ∧ ∀ x ∈ l, okA x) ∧ Below w.heap.size w w'

set_option maxHeartbeats 4000000 in
theorem few_any (w : World) (v : Value) (l : List Ac) (h : RA w v l) : Calls Try.prog 8 #[v] w fun e w' => FewC l w e w' := by
  obtain ⟨a, cap, rfl, hc, hm, hr⟩ := h
  have HR : Hid _ := hr
  obtain ⟨n, HN⟩ : ∃ n, Hid (l.length = n) := ⟨_, rfl⟩
  rw [HN.out] at hc ⊢
  clear hr
  have HLN : Hid (n ≤ 400 → l.length ≤ 400) := fun h => by rw [HN.out]; exact h
  by_cases h4 : n ≤ 400
  · go_enter Try.func8, Try.ntmps8
    go_wp2_with fail
    go_loopw [3] (fun s3 wr => ∃ j : Nat, s3 = .int .i64 j ∧ j ≤ n ∧ Hid (Below w.heap.size w wr) ∧ Hid (∀ x ∈ l.take j, okA x)) (fun s3 _ => n - (intOf s3).toNat)
    case atStart => exact ⟨0, rfl, Nat.zero_le _, Below.refl _ _, by show ∀ x ∈ l.take 0, _; simp⟩
    case round =>
      obtain ⟨j, rfl, hj, HW, HX⟩ := hrel
      rename World => wr
      by_cases hlt : j < n
      · obtain ⟨x, hx⟩ := getD_ac (L := l) (k := j) (by rw [HN.out]; exact hlt)
        obtain ⟨b, off, rfl, d, ⟨d0, d1, d2, d3, d4, d5⟩, hRS⟩ := HR.out j x hx
        obtain ⟨⟨sa, sc, hsv, _⟩, _⟩ := hRS
        have HXx : Hid _ := hx
        obtain ⟨xk, ⟨xi, xu, xt, xb, xkk, xs⟩, xv⟩ := x
        dsimp only at *
        subst hsv
        obtain ⟨sl, hsl⟩ : ∃ n, xs.length = n := ⟨_, rfl⟩
        have HSL : Hid (xs.length = sl) := hsl
        rw [hsl] at d5
        have hji : (j : Int) < (n : Int) := by omega
        have e5 := cell_later HW.out d5
        clear hx hsl
        by_cases hs : sl ≤ 100
        · have hd : ¬ (100 : Int) < (sl : Int) := by omega
          have hdd : decide ((100 : Int) < (sl : Int)) = false := decide_eq_false hd
          have HX2 : Hid (∀ x ∈ l.take (j + 1), okA x) := by
            show ∀ x ∈ _, _
            intro x hx
            rw [List.take_add_one, HXx.out] at hx
            rcases List.mem_append.1 hx with hx | hx
            · exact HX.out x hx
            · simp at hx; subst hx; show xs.length ≤ 100; rw [HSL.out]; exact hs
          clear HX
          go_wp2_with fail
          go_roundw
          case rel => exact ⟨j + 1, by go_num, by omega, HW, HX2⟩
          case measure => simp [intOf]; omega
        · have hd : (100 : Int) < (sl : Int) := by omega
          have hdd : decide ((100 : Int) < (sl : Int)) = true := decide_eq_true hd
          clear HX
          go_wp2_with fail
          go_ret
          exact ⟨false, rfl, fun h => (by cases h), HW.out⟩
      · have hjn : j = n := by omega
        subst hjn
        have HX2 : Hid (∀ x ∈ l, okA x) := by
          have h9 := HX.out
          have e9 : l.take j = l := List.take_of_length_le (by rw [HN.out]; exact Nat.le_refl _)
          rw [e9] at h9
          exact h9
        clear HX
        go_wp2_with fail
        go_ret
        exact ⟨true, rfl, fun _ => ⟨HLN.out h4, HX2.out⟩, HW.out⟩
  · have hne : (400 : Int) < (n : Int) := by omega
    go_enter Try.func8, Try.ntmps8
    go_wp2_with fail
    go_ret
    exact ⟨false, rfl, fun h => (by cases h), Below.refl _ _⟩

/-- What a call makes of a deque. -/
def stepP (L : List Jb) (x : Ac) : List Jb := if x.1 = 1 then (takeP true L).2 else if x.1 = 2 then (takeP false L).2 else if x.1 = 3 then dropP ⟨x.2.1.i, x.2.1.u, x.2.1.t⟩ L else (pushP L x.2.1).2

/-- Not too many jobs, stamps not too long. -/
def LInv (L : List Jb) : Prop := L.length ≤ 128 ∧ ∀ x ∈ L, x.s.length ≤ 1000

theorem LInv.nil : LInv [] := ⟨by simp, by simp⟩
theorem LInv.step {L : List Jb} (h : LInv L) {x : Ac} (hx : okA x) : LInv (stepP L x) := by
  have tk : ∀ b, LInv (takeP b L).2 := fun b => by
    unfold takeP
    split
    · exact LInv.nil
    · split
      · exact ⟨by simp only [List.length_dropLast]; have := h.1; omega, fun y hy => h.2 y ((List.dropLast_sublist _).subset hy)⟩
      · exact ⟨by simp only [List.length_tail]; have := h.1; omega, fun y hy => h.2 y (List.mem_of_mem_tail hy)⟩
  unfold stepP
  split
  · exact tk true
  · split
    · exact tk false
    · split
      · exact ⟨Nat.le_trans (List.length_filter_le _ _) h.1, fun y hy => h.2 y (List.mem_filter.1 hy).1⟩
      · unfold pushP
        split
        · exact h
        · rename_i h9
          have h1 := h.1
          refine ⟨by simp only [List.length_append, List.length_cons, List.length_nil]; omega, fun y hy => ?_⟩
          rcases List.mem_append.1 hy with hy | hy
          · exact h.2 y hy
          · simp at hy
            subst hy
            have : x.2.1.s.length ≤ 100 := hx
            omega

theorem step_any {N : Nat} {F : Nat → Prop} (w : World) (p : Nat) (rv : Value) (M : List JbP) (x : Ac) (hd : LD N F w p (M.map Prod.fst)) (hr : RJ (Gd N F) w rv M) (hi : LInv (M.map Prod.fst)) (hs : RS (fun b => b < N) w x.2.2 x.2.1.s) (hx : okA x) :
    Calls Try.prog 10 #[.pointer (some ⟨p, 0, none⟩), rv, AV x.1 x.2.1 x.2.2] w fun e w' => StC N w p (stepP (M.map Prod.fst) x) e w' := by
  have hl : M.length ≤ 128 := by have := hi.1; rwa [List.length_map] at this
  have hfs : FewS M := fun y hy => by have := hi.2 y.1 (List.mem_map_of_mem hy); omega
  have hsv : ∃ a n c, x.2.2 = .slice a n c := by obtain ⟨⟨a, c, e, _⟩, _⟩ := hs; exact ⟨_, _, _, e⟩
  have hxs : x.2.1.s.length ≤ 100 := hx
  unfold stepP
  by_cases h1 : x.1 = 1
  · rw [if_pos h1, h1]
    exact step_pop w p rv x.2.2 M x.2.1 hd hr hl hfs hsv
  rw [if_neg h1]
  by_cases h2 : x.1 = 2
  · rw [if_pos h2, h2]
    exact step_steal w p rv x.2.2 M x.2.1 hd hr hl hfs hsv
  rw [if_neg h2]
  by_cases h3 : x.1 = 3
  · rw [if_pos h3, h3]
    exact step_drop w p rv x.2.2 M x.2.1 hd hr hl hsv
  rw [if_neg h3]
  exact step_push w p rv x.2.2 M x.1 x.2.1 h1 h2 h3 hd hr hl hs (by omega)
end Go.Proofs.Ythbckfncpnobcaa
