/- Texts of the seat, packed: JTqd. -/
import Derived.Test.YtlegmmhacnbnlaaGreatDoorP19
/- The plain side of layer 20: what is left, by the deeds. It names no number of a program. -/
namespace Go.Proofs.YtlegmmhacnbnlaaGreatDoor.J.Tz
set_option linter.unusedVariables false

def spD (o : Option Sp) : Sp := o.getD ⟨never, never, never⟩
theorem well_iff {l : List Ef} (hl : l.length ≤ 1000000) (i : Int) (u : Bool) : (spD (dd l 0 (i, u, 0))).well ≠ never ↔ ∃ e ∈ l, e.i = i ∧ e.u = u ∧ e.ok = true := by
  unfold dd
  rw [List.drop_zero]
  cases hd : ddL 0 l (i, u, 0) with
  | none =>
    have hno := ddL_some.ddL_none hd rfl
    refine ⟨fun h => absurd rfl h, fun ⟨e, he, h1, h2, h3⟩ => ?_⟩
    obtain ⟨j, hj⟩ := List.getElem?_of_mem he
    exact absurd ⟨h1, h2⟩ (hno j e hj)
  | some s =>
    obtain ⟨_, _, hw⟩ := ddL_some hd
    show s.well ≠ never ↔ _
    rcases hw with ⟨w1, w2⟩ | ⟨g, z, w1, w2, w3, w4, w5, w6⟩
    · refine ⟨fun h => absurd w1 h, fun ⟨e, he, h1, h2, h3⟩ => ?_⟩
      obtain ⟨j, hj⟩ := List.getElem?_of_mem he
      exact absurd ⟨h1, h2, h3⟩ (w2 j e hj)
    · refine ⟨fun _ => ⟨z, List.mem_of_getElem? w2, w3, w4, w5⟩, fun _ h9 => ?_⟩
      have := (List.getElem?_eq_some_iff.1 w2).1
      rw [w1] at h9
      simp only [never] at h9
      omega
theorem left_deeds {l : List Ef} (hl : l.length ≤ 1000000) (i : Int) : leftP l i ↔ (spD (dd l 0 (i, false, 0))).well ≠ never ∧ (spD (dd l 0 (i, true, 0))).well = never := by
  unfold leftP
  rw [well_iff hl, ← well_iff hl i true]
  exact and_congr Iff.rfl ⟨fun h => Classical.not_not.1 h, fun h h2 => h2 h⟩
theorem dd_try {l : List Ef} {k : Int × Bool × Int} {s : Sp} (h : dd l 0 k = some s) : k.2.2 = 0 := by
  unfold dd at h
  exact (ddL_some h).1

/-- What is gathered of the keys that have come. -/
structure LfI (l : List Ef) (D : Int × Bool × Int → Prop) (out : List Int) : Prop where
  nd : out.Nodup
  mem : ∀ x, x ∈ out ↔ D (x, false, 0) ∧ leftP l x
theorem lf_start (l : List Ef) : LfI l (fun _ => False) [] := ⟨List.nodup_nil, fun x => by simp⟩
theorem LfI.add {l : List Ef} {D : Int × Bool × Int → Prop} {out : List Int} (h : LfI l D out) {k : Int × Bool × Int} (hd : ¬ D k) (h0 : k.2.2 = 0) (hu : k.2.1 = false) (hp : leftP l k.1) : LfI l (fun x => D x ∨ x = k) (out ++ [k.1]) := by
  have hk : k = (k.1, false, 0) := by obtain ⟨a, b, c⟩ := k; simp at hu h0; rw [hu, h0]
  refine ⟨List.nodup_append.2 ⟨h.nd, by simp, fun a ha b hb => ?_⟩, fun x => ?_⟩
  · simp at hb
    subst hb
    rintro rfl
    exact hd (hk ▸ ((h.mem _).1 ha).1)
  · rw [List.mem_append, h.mem]
    constructor
    · rintro (⟨h1, h2⟩ | h1)
      · exact ⟨.inl h1, h2⟩
      · simp at h1
        subst h1
        exact ⟨.inr hk.symm, hp⟩
    · rintro ⟨h1 | h1, h2⟩
      · exact .inl ⟨h1, h2⟩
      · right
        rw [← h1]
        simp
theorem LfI.skip {l : List Ef} {D : Int × Bool × Int → Prop} {out : List Int} (h : LfI l D out) {k : Int × Bool × Int} (hn : k.2.1 = true ∨ ¬ leftP l k.1) : LfI l (fun x => D x ∨ x = k) out := by
  refine ⟨h.nd, fun x => ?_⟩
  rw [h.mem]
  constructor
  · rintro ⟨h1, h2⟩
    exact ⟨.inl h1, h2⟩
  · rintro ⟨h1 | h1, h2⟩
    · exact ⟨h1, h2⟩
    · subst h1
      rcases hn with hn | hn
      · simp at hn
      · exact absurd h2 hn
theorem LfI.len {l : List Ef} {D : Int × Bool × Int → Prop} {out : List Int} (h : LfI l D out) : out.length ≤ l.length := by
  have hs : out ⊆ l.map Ef.i := fun x hx => by
    obtain ⟨⟨e, he, h1, _⟩, _⟩ := ((h.mem x).1 hx).2
    exact List.mem_map.2 ⟨e, he, h1⟩
  have := List.Nodup.length_le_of_subset h.nd hs
  simpa using this
/-- All have come; sorted. -/
theorem LfI.sorted {l : List Ef} (hl : l.length ≤ 1000000) {D : Int × Bool × Int → Prop} {out : List Int} (h : LfI l D out) (hall : ∀ k s, dd l 0 k = some s → D k) :
    (out.mergeSort fun x y => decide (x ≤ y)).Pairwise (· < ·) ∧ ∀ x, x ∈ (out.mergeSort fun x y => decide (x ≤ y)) ↔ leftP l x := by
  have hp := List.mergeSort_perm out (fun x y => decide (x ≤ y))
  refine ⟨?_, fun x => ?_⟩
  · have h1 : (out.mergeSort fun x y => decide (x ≤ y)).Pairwise (fun a b => decide (a ≤ b) = true) := List.pairwise_mergeSort (fun a b c h1 h2 => by simp at *; omega) (fun a b => by simp; omega) out
    have h2 : (out.mergeSort fun x y => decide (x ≤ y)).Nodup := hp.nodup_iff.2 h.nd
    refine (h1.and h2).imp fun {a b} hh => ?_
    have h3 : a ≤ b := by simpa using hh.1
    have h4 : a ≠ b := hh.2
    omega
  · rw [hp.mem_iff, h.mem]
    refine ⟨fun hh => hh.2, fun hh => ⟨?_, hh⟩⟩
    have h1 := ((left_deeds hl x).1 hh).1
    cases hd : dd l 0 (x, false, 0) with
    | none => rw [hd] at h1; exact absurd rfl h1
    | some s => exact hall _ s hd
end Go.Proofs.YtlegmmhacnbnlaaGreatDoor.J.Tz

