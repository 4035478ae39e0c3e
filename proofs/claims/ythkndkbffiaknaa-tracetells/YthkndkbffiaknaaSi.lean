/- Appends to ints of the call's own; slices.Clone. -/
import Derived.Test.YthkndkbffiaknaaWi
import Derived.Lib.SliceRun
namespace Go.Proofs.Ythkndkbffiaknaa

open Go.RowKit

set_option linter.unusedVariables false

theorem append_int {w : World} {ops : Array Oper} {rest : List Oper} {o : Oper} {a : Act} {Q : Exit → Act → World → Prop} (hgd : o.guard = none) (s x : Operand)
    (ho : o.op = .call { callee := .builtin .append, args := #[s, x], argTypes := #[33, 33] }) (base : Nat) (v : Value) (n : Nat) (l : List Int)
    (hs : a.eval s = v) (hown : w.ownsRow base 3 1 v n (ivs l)) (ad : Addr) (z : Int) (hx : a.eval x = .slice (some ad) 1 1) (hc : w.cell? ad = some (.int .i64 z))
    (hn : n ≤ 1000000) (hbase : base ≤ w.heap.size)
    (h : ∀ v' w', w'.ownsRow base 3 1 v' (n + 1) (ivs (l ++ [z])) → Below base w w' → wpList Try.prog ops Q rest (a.put o.dst v') w') : wpList Try.prog ops Q (o :: rest) a w := by
  obtain ⟨i0, hi, hz0, hz1, hz2⟩ := info_parts Try.info3
  have hsp : ad.add 0 = ad := by cases ad; rfl
  refine wpList_append_own _ hgd s x 33 ho base 3 i0 (.int .i64 0) 1 8 Try.underlying33 hi hz0 hz1 hz2 rfl (by decide) v n (ivs l) hs hown ad 1 1 (ivs [z]) hx rfl ?_ ?_ (by unfold maxLen; omega) (by omega) hbase ?_
  · intro j u hj
    match j, hj with
    | 0, hj =>
      simp [ivs] at hj
      subst hj
      rw [hsp]
      exact hc
    | j + 1, hj => simp [ivs] at hj
  · intro u hu
    simp [ivs] at hu
    subst hu
    rfl
  · intro v' w' h1 h2 h3
    refine h v' w' ?_ (Below.grown (Below.refl _ _) h2 hbase (fun k hk => (hown.lt k hk).1))
    have e : ivs (l ++ [z]) = ivs l ++ ivs [z] := by simp [ivs]
    rw [e]
    exact h1

theorem cell_new (w : World) (z : Int) : (w.alloc (.cells #[.int .i64 z] 3)).cell? ⟨w.heap.size, 0, none⟩ = some (.int .i64 z) := by
  rw [cell_row (row_new w _ 3)]
  rfl

theorem ivs_len (l : List Int) : (ivs l).length = l.length := by simp [ivs]

/-- Ints of the call's own, in a block of their own. -/
def OI (B : Nat) (w : World) (g n cap : Nat) (l : List Int) : Prop := w.ownsRow B 3 1 (.slice (some ⟨g, 0, none⟩) n cap) n (ivs l)

theorem OI.ri {B : Nat} {w : World} {g n cap : Nat} {l : List Int} (h : OI B w g n cap l) : n = l.length ∧ RI w (.slice (some ⟨g, 0, none⟩) n cap) l := by
  have h0 : n = l.length := by have := h.1; rw [ivs_len] at this; omega
  exact ⟨h0, RI.of_owns h h0⟩

theorem OI.lt {B : Nat} {w : World} {g n cap : Nat} {l : List Int} (h : OI B w g n cap l) : B ≤ g ∧ g < w.heap.size := World.ownsRow.lt h g rfl

theorem OI.below {B : Nat} {w w' : World} {g n cap : Nat} {l : List Int} (h : OI B w g n cap l) (hB : B ≤ w.heap.size) (hg : w.grownBy w' (some g)) : Below B w w' :=
  Below.grown (Below.refl _ _) hg hB (fun k hk => by cases hk; exact h.lt.1)

theorem OI.made (w : World) : OI w.heap.size (w.alloc (.cells #[] 3)) w.heap.size 0 0 [] :=
  World.ownsRow_made w #[] 0 (Nat.le_refl _) (Nat.zero_le _) rfl

theorem OI.frozen {B : Nat} {w : World} {g n cap : Nat} {l : List Int} (h : OI B w g n cap l) (i : Nat) : w.frozen? ⟨g, i, none⟩ = false := by
  rcases h.2 with ⟨e, _⟩ | ⟨g', cap', cur, e, _, hb, _⟩
  · cases e
  · simp only [Value.slice.injEq, Option.some.injEq, Addr.mk.injEq] at e
    obtain ⟨⟨rfl, _, _⟩, _, _⟩ := e
    exact froz_row hb i

theorem OI.cell {B : Nat} {w : World} {g n cap : Nat} {l : List Int} (h : OI B w g n cap l) (i : Nat) (hi : i < n) : w.cell? ⟨g, i, none⟩ = some (.int .i64 (l.getD i 0)) := by
  obtain ⟨h1, a, c, e, _, _, hc⟩ := h.ri
  simp only [Value.slice.injEq] at e
  obtain ⟨rfl, _, _⟩ := e
  obtain ⟨b, off, e2, h2⟩ := hc i (by omega)
  simp only [Option.some.injEq, Addr.mk.injEq] at e2
  obtain ⟨rfl, rfl, _⟩ := e2
  rw [Nat.zero_add] at h2
  exact h2

theorem RI.set {w : World} {g n cap : Nat} {l : List Int} (h : RI w (.slice (some ⟨g, 0, none⟩) n cap) l) (i : Nat) (hi : i < l.length) (x : Int) : RI (w.setCell ⟨g, i, none⟩ (.int .i64 x)) (.slice (some ⟨g, 0, none⟩) n cap) (l.set i x) := by
  obtain ⟨a, c, e, h1, h2, hc⟩ := h
  simp only [Value.slice.injEq] at e
  obtain ⟨rfl, rfl, rfl⟩ := e
  refine ⟨_, _, by rw [List.length_set], by rw [List.length_set]; exact h1, h2, fun j hj => ⟨g, 0, rfl, ?_⟩⟩
  rw [List.length_set] at hj
  obtain ⟨b, off, e2, h3⟩ := hc j hj
  simp only [Option.some.injEq, Addr.mk.injEq] at e2
  obtain ⟨rfl, rfl, _⟩ := e2
  rw [Nat.zero_add] at h3 ⊢
  by_cases hij : i = j
  · subst hij
    rw [World.cell?_setCell_same' w _ _ (by rw [h3]; rfl)]
    simp [hi]
  · rw [World.cell?_setCell_other _ _ _ _ (by intro h; cases h; exact hij rfl), h3]
    simp [hij]

theorem append_ints {w : World} {ops : Array Oper} {rest : List Oper} {o : Oper} {a : Act} {Q : Exit → Act → World → Prop} (hgd : o.guard = none) (s x : Operand)
    (ho : o.op = .call { callee := .builtin .append, args := #[s, x], argTypes := #[33, 33] }) (base g n cap : Nat) (l0 : List Int)
    (hs : a.eval s = .slice (some ⟨g, 0, none⟩) n cap) (hown : OI base w g n cap l0) (xv : Value) (l : List Int) (hx : a.eval x = xv) (hr : RI w xv l) (hnil : ∀ k c, xv = .slice none k c → c = 0)
    (hn : n ≤ 10000000) (hl : l.length ≤ 1000000) (hbase : base ≤ w.heap.size) (n2 : Nat) (l2 : List Int) (hn2 : n2 = n + l.length) (hl2 : l2 = l0 ++ l)
    (h : ∀ g' cap' w', OI base w' g' n2 cap' l2 → w.grownBy w' (some g) → wpList Try.prog ops Q rest (a.put o.dst (.slice (some ⟨g', 0, none⟩) n2 cap')) w') : wpList Try.prog ops Q (o :: rest) a w := by
  subst hn2 hl2
  obtain ⟨i0, hi, hz0, hz1, hz2⟩ := info_parts Try.info3
  obtain ⟨ad, cp, rfl, _, _, hc⟩ := hr
  cases ad with
  | none =>
    have h0 := hnil _ _ rfl
    subst h0
    have hl0 : l = [] := by
      cases l with
      | nil => rfl
      | cons y l =>
        obtain ⟨b, off, hb, _⟩ := hc 0 (by simp)
        cases hb
    subst hl0
    refine wpList_append_own_none hgd s x 33 ho base 3 i0 1 Try.underlying33 hi _ n _ hs hown hx ?_
    have := h g cap w (by rw [List.append_nil]; exact hown) ⟨rfl, rfl, rfl, Nat.le_refl _, fun _ _ _ => rfl⟩
    simpa using this
  | some ad =>
    refine wpList_append_own _ hgd s x 33 ho base 3 i0 (.int .i64 0) 1 8 Try.underlying33 hi hz0 hz1 hz2 rfl (by decide) _ n _ hs hown ad l.length cp (ivs l) hx (by rw [ivs_len]; omega) ?_ ?_ (by unfold maxLen; omega) (by omega) hbase ?_
    · intro j u hj
      simp only [ivs, List.getElem?_map, Option.map_eq_some_iff] at hj
      obtain ⟨z, hz, rfl⟩ := hj
      obtain ⟨hjl, hz2⟩ := List.getElem?_eq_some_iff.1 hz
      obtain ⟨b, off, hb, hcell⟩ := hc j hjl
      simp only [Option.some.injEq] at hb
      subst hb
      rw [Go.WideShapes.add_plain, hcell]
      simp [hjl, hz2]
    · intro u hu
      obtain ⟨z, _, rfl⟩ := List.mem_map.1 hu
      rfl
    · intro v' w' h1 h2 h3
      rcases h1.2 with ⟨rfl, h5⟩ | ⟨g', cap', cur, rfl, hrest⟩
      · have h6 := h3.1 rfl
        simp at h6
      · refine h g' cap' w' ?_ h2
        have e : ivs (l0 ++ l) = ivs l0 ++ ivs l := by simp [ivs]
        unfold OI
        rw [e]
        exact h1

end Go.Proofs.Ythkndkbffiaknaa
