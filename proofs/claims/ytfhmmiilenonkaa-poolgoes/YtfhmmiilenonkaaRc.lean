/- Appends to rows of jobs of one's own; clear. -/
import Derived.Test.YtfhmmiilenonkaaRb
import Derived.Deep.AppendSrc
import Derived.Deep.RegionHeldLaw
import Derived.Deep.RegionLaw
namespace Go.Proofs.Ytfhmmiilenonkaa

open Go.RowKit

set_option maxRecDepth 1000000

set_option linter.unusedVariables false

theorem Try.info37 : (Try.prog.info? 37).map (fun i => (i.zero, i.size, i.bytes)) = some (some (JV ⟨0, false, 0, false, 0, []⟩ (.slice none 0 0)), 6, 64) := by kernel_rfl

theorem setCells_row {b : Nat} {t : TypeId} : ∀ (vs : List Value) (o : Nat) {w : World} {cs : Array Value}, w.heap[b]? = some (.cells cs t (0, 0)) →
    ∃ cs', (w.setCells b o vs).heap[b]? = some (.cells cs' t (0, 0)) ∧ cs'.size = cs.size ∧ ∀ k, (k < o ∨ o + vs.length ≤ k) → cs'[k]? = cs[k]?
  | [], o, w, cs, h => ⟨cs, h, rfl, fun _ _ => rfl⟩
  | v :: r, o, w, cs, h => by
    obtain ⟨cs', h1, h2, h3⟩ := setCells_row r (o + 1) (row_set h o v)
    refine ⟨cs', h1, by rw [h2]; simp, fun k hk => ?_⟩
    simp only [List.length_cons] at hk
    rw [h3 k (by omega), Array.getElem?_setIfInBounds, if_neg (by omega)]

theorem setCells_kept (T : Nat → Prop) {b : Nat} (hT : T b) : ∀ (vs : List Value) (o : Nat) (w : World), Kp T w (w.setCells b o vs)
  | [], o, w => Kp.refl _ _
  | v :: r, o, w => ((Kp.refl T w).set ⟨b, o, none⟩ v hT).trans (setCells_kept T hT r (o + 1) _) (fun _ h _ => h)

theorem isSome_row {w : World} {b : Nat} {cs : Array Value} {t : TypeId} (h : w.heap[b]? = some (.cells cs t (0, 0))) {i : Nat} (hi : i < cs.size) : (w.cell? ⟨b, i, none⟩).isSome = true := by
  rw [cell_row h, Array.getElem?_eq_getElem hi]; rfl

/-- clear of jobs. -/
theorem run_clear_j (t ty : TypeId) (ht : Try.prog.underlying t = some (.slice 37)) {w : World} {g o n c : Nat} {cur : Array Value} (hg : w.heap[g]? = some (.cells cur 37 (0, 0))) (hs : o + n * 6 ≤ cur.size) :
    ∃ vs : List Value, vs.length = n * 6 ∧ (Builtin.clear_ #[t] ty #[.slice (some ⟨g, o, none⟩) n c]).run Try.prog w = .ok (.tuple #[]) (w.setCells g o vs) := by
  obtain ⟨i0, hi, hz0, hz1, hz2⟩ := info_parts Try.info37
  by_cases h0 : n = 0
  · subst h0
    exact ⟨[], rfl, by simp [Builtin.clear_, run_underlying ht]; rfl⟩
  · obtain ⟨m, rfl⟩ : ∃ m, n = m + 1 := ⟨n - 1, by omega⟩
    have hlen : (Builtin.zeroCells (JV ⟨0, false, 0, false, 0, []⟩ (.slice none 0 0)).cells (m + 1)).toList.length = (m + 1) * 6 := by
      rw [Array.length_toList, size_zeroCells]; rfl
    have h1 : ∀ u ∈ (Builtin.zeroCells (JV ⟨0, false, 0, false, 0, []⟩ (.slice none 0 0)).cells (m + 1)).toList, u.oneCell' = true := by
      intro u hu
      simp only [Builtin.zeroCells, Array.toList_map, List.mem_map] at hu
      obtain ⟨i, _, rfl⟩ := hu
      have h6 : i % (JV ⟨0, false, 0, false, 0, []⟩ (.slice none 0 0)).cells.size < 6 := Nat.mod_lt _ (by decide)
      generalize i % (JV ⟨0, false, 0, false, 0, []⟩ (.slice none 0 0)).cells.size = j at *
      match j, h6 with
      | 0, _ => rfl
      | 1, _ => rfl
      | 2, _ => rfl
      | 3, _ => rfl
      | 4, _ => rfl
      | 5, _ => rfl
      | j + 6, h => omega
    have hst := run_storeCells_cells (P := Try.prog) g o _ 0 w (fun j hj => isSome_row hg (by rw [hlen] at hj; omega)) (fun j hj => froz_row hg _) h1
    simp only [Nat.add_zero] at hst
    have hv : (zeroValue 37).run Try.prog w = .ok (JV ⟨0, false, 0, false, 0, []⟩ (.slice none 0 0)) w := by kernel_rfl
    exact ⟨_, hlen, by simp [Builtin.clear_, run_underlying ht, hv, hst]⟩

theorem add_at (g o j : Nat) : (⟨g, o, none⟩ : Addr).add j = ⟨g, o + j, none⟩ := by unfold Addr.add; split <;> simp_all

/-- A job behind those of a row of one's own. -/
theorem run_append_j (t ty : TypeId) (ht : Try.prog.underlying t = some (.slice 37)) {w : World} {v : Value} {L : List JbP} (h : OwR w v L) (p : JbP) (h1p : p.2.oneCell' = true) {nb : Nat} (hb : w.heap[nb]? = some (.cells (jrow p).toArray 37 (0, 0))) (hne : v.ownBlock ≠ some nb) (hl : L.length ≤ 1000000000) :
    ∃ a c w', (Builtin.append_ #[t, t] ty #[v, .slice (some ⟨nb, 0, none⟩) 1 1]).run Try.prog w = .ok (.slice a (L.length + 1) c) w' ∧ OwR w' (.slice a (L.length + 1) c) (L ++ [p]) ∧ w.grownBy w' v.ownBlock ∧ ((Value.slice a (L.length + 1) c).ownBlock = v.ownBlock ∨ (Value.slice a (L.length + 1) c).ownBlock = some w.heap.size) := by
  obtain ⟨i0, hi, hz0, hz1, hz2⟩ := info_parts Try.info37
  have hone : ∀ u ∈ jrow p, u.oneCell' = true := by
    intro u hu
    simp only [jrow, List.mem_cons, List.not_mem_nil, or_false] at hu
    rcases hu with rfl | rfl | rfl | rfl | rfl | rfl <;> first | rfl | exact h1p
  have hsrc : Src Try.prog i0.size t (.slice (some ⟨nb, 0, none⟩) 1 1) 1 (jrow p) w :=
    Src.ofSlice w ht ⟨nb, 0, none⟩ 1 1 (jrow p) (by rw [hz1]; rfl) (fun j u hu => by rw [add_at, Nat.zero_add, cell_row hb, List.getElem?_toArray]; exact hu) hone
  -- a new row
  have grow : ∀ (base : Option Addr) (cap : Nat), v = .slice base L.length cap → cap < L.length + 1 → (Builtin.firstCells i0.size L.length (.slice base L.length cap)).run Try.prog w.drew = .ok (jrows L).toArray w.drew →
      ∃ a c w', (Builtin.append_ #[t, t] ty #[v, .slice (some ⟨nb, 0, none⟩) 1 1]).run Try.prog w = .ok (.slice a (L.length + 1) c) w' ∧ OwR w' (.slice a (L.length + 1) c) (L ++ [p]) ∧ w.grownBy w' v.ownBlock ∧ ((Value.slice a (L.length + 1) c).ownBlock = v.ownBlock ∨ (Value.slice a (L.length + 1) c).ownBlock = some w.heap.size) := by
    rintro base cap rfl hcap hold
    have hr := run_append_grow_src (P := Try.prog) w t t ty 37 i0 _ ht hi hz0 base L.length cap (jrows L) hold _ 1 (jrow p) hsrc (by omega) (by omega) (growslice_fits (by omega) (by rw [hz2]; omega))
    refine ⟨_, _, _, hr, .inr ⟨w.heap.size, 0, _, _, by rw [List.length_append]; rfl, ?_, ?_, heap_alloc_new w.drew _, ?_, ?_⟩, ⟨rfl, rfl, rfl, by simp, fun k hk _ => heap_alloc_old w.drew _ hk⟩, .inr rfl⟩
    · rw [List.length_append]; exact grownCap_ge _ _ _ _
    · exact grownCap_le_maxLen _ _ _ _ (by unfold maxLen; omega)
    · have := grownCap_ge w (L.length + 1) cap 37
      simp only [Array.size_append, List.size_toArray, List.length_append, jrows_len, jrow_len, size_zeroCells]
      have e6 : (JV ⟨0, false, 0, false, 0, []⟩ (.slice none 0 0)).cells.size = 6 := rfl
      rw [e6]
      omega
    · intro i q hq j hj
      rw [Nat.zero_add, Array.getElem?_append_left]
      · rw [List.getElem?_toArray]
        have e : jrows L ++ jrow p = jrows (L ++ [p]) := by simp [jrows]
        rw [e]
        exact jrows_get _ i q hq j hj
      · have := (List.getElem?_eq_some_iff.1 hq).1
        rw [List.length_append] at this
        simp only [List.size_toArray, List.length_append, jrows_len, jrow_len]
        simp at this
        omega
  rcases id h with ⟨rfl, rfl⟩ | ⟨g, o, cap, cur, rfl, hlc, hcm, hg, hs, hc⟩
  · exact grow none 0 rfl (by simp) (run_firstCells_none w.drew _ 0 0 0)
  · by_cases hroom : L.length + 1 ≤ cap
    · have hst := run_append_room_src (P := Try.prog) w t t ty 37 i0 ht hi g o L.length cap _ 1 (jrow p) hsrc hroom (fun j hj => isSome_row hg (by rw [hz1]; rw [jrow_len] at hj; omega)) (fun j hj => froz_row hg _)
      rw [hz1] at hst
      have e6 : w.setCells g (o + L.length * 6) (jrow p) = set6 w g (o + L.length * 6) p := rfl
      rw [e6] at hst
      obtain ⟨cur', k1, k2, k3, k4⟩ := set6_row (o := o + L.length * 6) hg p
      refine ⟨_, _, _, hst, .inr ⟨g, o, cap, cur', by rw [List.length_append]; rfl, by rw [List.length_append]; exact hroom, hcm, k1, by rw [k2]; exact hs, fun i q hq j hj => ?_⟩, ?_, .inl rfl⟩
      · by_cases hil : i < L.length
        · rw [List.getElem?_append_left hil] at hq
          rw [k4 _ (.inl (by omega))]
          exact hc i q hq j hj
        · have := (List.getElem?_eq_some_iff.1 hq).1
          rw [List.length_append] at this
          simp at this
          obtain rfl : i = L.length := by omega
          rw [List.getElem?_append_right (by omega)] at hq
          simp at hq
          subst hq
          exact k3 (by omega) j hj
      · have hk := set6_kept (fun k => k = g) w g (o + L.length * 6) p rfl
        exact ⟨hk.os, hk.tape, hk.output, hk.size, fun k hk2 hn => hk.block k hk2 (fun e => hn (by rw [e]; rfl))⟩
    · refine grow (some ⟨g, o, none⟩) cap rfl (by omega) ?_
      refine run_firstCells_some w.drew i0.size L.length ⟨g, o, none⟩ L.length cap (jrows L) (by rw [jrows_len, hz1]) (fun j u hu => ?_)
      have hj : j < L.length * 6 := by rw [← jrows_len]; exact (List.getElem?_eq_some_iff.1 hu).1
      obtain ⟨q, hq⟩ : ∃ q, L[j / 6]? = some q := ⟨_, List.getElem?_eq_getElem (by omega)⟩
      have e : j = j / 6 * 6 + j % 6 := by omega
      rw [add_at]
      show w.cell? _ = _
      rw [cell_row hg]
      rw [e, jrows_get L (j / 6) q hq (j % 6) (by omega)] at hu
      rw [← hu, ← hc (j / 6) q hq (j % 6) (by omega)]
      congr 1
      omega

theorem step_append_run {P : Program} {ops : Array Oper} {o : Oper} {a : Act} {w : World} {K : Act → World → Prop} {Q : Exit → Act → World → Prop} {E : Prop}
    (hg : o.guard = none) (s x : Operand) (t : TypeId) (hop : o.op = Op.call { callee := Callee.builtin Builtin.append, args := #[s, x], argTypes := #[t, t] })
    (d : Tmp) (hdst : o.dst = some d) (v xv v' : Value) (w' : World) (hs : a.eval s = v) (hx : a.eval x = xv) (hrun : (Builtin.append_ #[t, t] o.type #[v, xv]).run P w = .ok v' w') (hK : K (a.put (some d) v') w') :
    if Region.wanted o (yielded ops a.tmps) = true then Oper.wp P o a w K Q else E := by
  have hw : Region.wanted o (yielded ops a.tmps) = true := by simp [Region.wanted, hg]
  rw [if_pos hw]
  unfold Oper.wp
  simp [execOp, hop, resolve, invoke, builtin, hs, hx, hrun, Result.andThen]
  rw [← hdst] at hK
  exact hK

/-- 'append' of a job, as one step of a region that draws its order. -/
theorem step_append_j {ops : Array Oper} {o : Oper} {a : Act} {w : World} {K : Act → World → Prop} {Q : Exit → Act → World → Prop} {E : Prop}
    (hg : o.guard = none) (s x : Operand) (t : TypeId) (hop : o.op = Op.call { callee := Callee.builtin Builtin.append, args := #[s, x], argTypes := #[t, t] }) (d : Tmp) (hdst : o.dst = some d)
    (ht : Try.prog.underlying t = some (.slice 37)) (v : Value) (L : List JbP) (p : JbP) (h1p : p.2.oneCell' = true) (nb : Nat) (hs : a.eval s = v) (hx : a.eval x = .slice (some ⟨nb, 0, none⟩) 1 1) (h : OwR w v L) (hb : w.heap[nb]? = some (.cells (jrow p).toArray 37 (0, 0))) (hne : v.ownBlock ≠ some nb) (hl : L.length ≤ 1000000000)
    (hK : ∀ ad c w', OwR w' (.slice ad (L.length + 1) c) (L ++ [p]) → w.grownBy w' v.ownBlock → ((Value.slice ad (L.length + 1) c).ownBlock = v.ownBlock ∨ (Value.slice ad (L.length + 1) c).ownBlock = some w.heap.size) → K (a.put (some d) (.slice ad (L.length + 1) c)) w') :
    if Region.wanted o (yielded ops a.tmps) = true then Oper.wp Try.prog o a w K Q else E := by
  obtain ⟨ad, c, w', h1, h2, h3, h4⟩ := run_append_j t o.type ht h p h1p hb hne hl
  exact step_append_run hg s x t hop d hdst _ _ _ _ hs hx h1 (hK ad c w' h2 h3 h4)

end Go.Proofs.Ytfhmmiilenonkaa
