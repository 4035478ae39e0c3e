/- The document's first, and its Left. -/
import Derived.Test.YthkndkbffiaknaaRp
namespace Go.Proofs.Ythkndkbffiaknaa.Tz
open Go.RowKit Go.Shelf Go.Proofs.Ythkndkbffiaknaa
set_option maxRecDepth 1000000
set_option linter.unusedVariables false

/-- Where an item was first done, or undone, well. -/
def firstV (l : List Ef) (i : Int) (u : Bool) : Int := match firstE l i u false with
  | some j => j
  | none => -1
def hit (i : Int) (u : Bool) (e : Ef) : Bool := e.i == i && e.u == u && (false || e.ok)
theorem first_some {l : List Ef} {i : Int} {u : Bool} {j : Nat} (hj : j < l.length) (h1 : hit i u (l.getD j default) = true) (h2 : ∀ q, q < j → hit i u (l.getD q default) = false) : firstV l i u = j := by
  have : firstE l i u false = some j := by
    unfold firstE
    rw [List.findIdx?_eq_some_iff_getElem]
    refine ⟨hj, ?_, fun q hq => ?_⟩
    · have e : l.getD j default = l[j] := by simp [hj]
      rw [← e]
      exact h1
    · have e : l.getD q default = l[q] := by simp [show q < l.length by omega]
      rw [← e]
      have := h2 q hq
      unfold hit at this
      rw [this]
      decide
  unfold firstV
  rw [this]
theorem first_no {l : List Ef} {i : Int} {u : Bool} (h2 : ∀ q, q < l.length → hit i u (l.getD q default) = false) : firstV l i u = -1 := by
  have : firstE l i u false = none := by
    unfold firstE
    rw [List.findIdx?_eq_none_iff]
    intro e he
    obtain ⟨q, hq, rfl⟩ := List.mem_iff_getElem.1 he
    have e : l.getD q default = l[q] := by simp [hq]
    rw [← e]
    exact h2 q hq
  unfold firstV
  rw [this]
theorem firstV_neg {l : List Ef} {i : Int} {u : Bool} : firstV l i u < 0 ↔ firstE l i u false = none := by
  unfold firstV
  cases firstE l i u false with
  | none => simp
  | some j => simp <;> omega
theorem left_first {l : List Ef} {x : Int} : leftP l x ↔ ¬ firstV l x false < 0 ∧ firstV l x true < 0 := by
  rw [left_iff, firstV_neg, firstV_neg]

set_option maxHeartbeats 8000000 in
theorem first_any (l : List Ef) (v : Value) (i : Int) (u : Bool) (hl : l.length ≤ 1000000) (w : World) (h : RE w v l) :
    Calls Try.prog 28 #[v, .int .i64 i, .bool u, .bool false] w fun e w' => e = .returned (.int .i64 (firstV l i u)) ∧ Below w.heap.size w w' := by
  obtain ⟨a, c, hvs, hlc⟩ := h.slice
  subst hvs
  obtain ⟨n, hn⟩ : ∃ n, l.length = n := ⟨_, rfl⟩
  have HN : Hid (l.length = n) := hn
  have HRE : Hid (∀ wx, Below w.heap.size w wx → RE wx (.slice a n c) l) := fun wx hb => by rw [← hn]; exact h.later hb
  rw [hn] at hl ⊢
  clear h hn hlc
  go_enter Try.func28, Try.ntmps28
  go_wp2_with fail
  go_loopw [9] (fun s9 wr => ∃ (j : Nat), s9 = .int .i64 j ∧ j ≤ n ∧ Hid (Below w.heap.size w wr) ∧ Hid (∀ q, q < j → hit i u (l.getD q default) = false)) (fun s9 _ => n - (intOf s9).toNat)
  case atStart => exact ⟨0, rfl, Nat.zero_le _, Below.refl _ _, fun q hq => by omega⟩
  case round =>
    obtain ⟨j, rfl, hj, HB, HX⟩ := hrel
    rename World => wr
    by_cases hlt : j < n
    · have hjl : j < l.length := by rw [HN.out]; exact hlt
      obtain ⟨_, b, off, ha, d0, d1, d2, d3⟩ := (HRE.out wr HB.out).at' hjl
      subst ha
      have hji : (j : Int) < (n : Int) := by omega
      obtain ⟨⟨ei, eu, et, eo⟩, he⟩ : ∃ e, l.getD j default = e := ⟨_, rfl⟩
      rw [he] at d0 d1 d2 d3
      dsimp only at d0 d1 d2 d3
      have HE : Hid (l.getD j default = ⟨ei, eu, et, eo⟩) := he
      have NO : hit i u ⟨ei, eu, et, eo⟩ = false → Hid (∀ q, q < j + 1 → hit i u (l.getD q default) = false) := fun h q hq => by
        by_cases e9 : q = j
        · rw [e9, HE.out]; exact h
        · exact HX.out q (by omega)
      have HNO : Hid _ := NO
      clear he hjl NO
      by_cases h1 : ei = i
      · subst h1
        by_cases h2 : eu = u
        · subst h2
          cases eo with
          | true =>
            have HF : Hid (firstV l ei eu = (j : Int)) := first_some (by rw [HN.out]; exact hlt) (by rw [HE.out]; simp [hit]) HX.out
            clear HX HNO
            go_wp2_with fail
            go_ret
            exact ⟨(congrArg (fun z => Ending.returned (.int .i64 z)) HF.out.symm), HB.out⟩
          | false =>
            have HX2 : Hid _ := HNO.out (by simp [hit])
            clear HX HNO
            go_wp2_with fail
            go_roundw
            case rel => exact ⟨j + 1, by go_num, by omega, HB, HX2⟩
            case measure => simp [intOf]; omega
        · have HX2 : Hid _ := HNO.out (by simp [hit, h2])
          have h2b : (eu == u) = false := by simpa using h2
          clear HX HNO
          cases eu <;> cases u
          · exact absurd rfl h2
          · clear h2 h2b
            go_wp2_with fail
            go_roundw
            case rel => exact ⟨j + 1, by go_num, by omega, HB, HX2⟩
            case measure => simp [intOf]; omega
          · clear h2 h2b
            go_wp2_with fail
            go_roundw
            case rel => exact ⟨j + 1, by go_num, by omega, HB, HX2⟩
            case measure => simp [intOf]; omega
          · exact absurd rfl h2
      · have HX2 : Hid _ := HNO.out (by simp [hit, h1])
        have h1b : (ei == i) = false := by simpa using h1
        clear HX HNO
        go_wp2_with fail
        go_roundw
        case rel => exact ⟨j + 1, by go_num, by omega, HB, HX2⟩
        case measure => simp [intOf]; omega
    · have HF : Hid (firstV l i u = -1) := first_no (fun q hq => HX.out q (by rw [HN.out] at hq; omega))
      clear HX
      go_wp2_with fail
      go_ret
      exact ⟨(congrArg (fun z => Ending.returned (.int .i64 z)) HF.out.symm), HB.out⟩
end Go.Proofs.Ythkndkbffiaknaa.Tz
