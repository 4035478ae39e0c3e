/- The walk over the document's Push. -/
import Derived.Test.YtfhmmiilenonkaaRl
namespace Go.Proofs.Ytfhmmiilenonkaa

open Go.RowKit

set_option maxRecDepth 1000000

set_option linter.unusedVariables false

theorem ow_empty (W : World) : OwR (W.alloc (.cells #[] 37)) (.slice (some ⟨W.heap.size, 0, none⟩) 0 0) [] :=
  .inr ⟨W.heap.size, 0, 0, #[], rfl, Nat.le_refl _, by unfold maxLen; omega, row_new W _ 37, by simp, fun i p h => by simp at h⟩

/-- All jobs of a list behind none. -/
theorem run_append_js {S : Nat → Prop} {w : World} {b0 : Nat} {ra : Option Addr} {n rc : Nat} {L : List JbP} (h : OwR w (.slice (some ⟨b0, 0, none⟩) 0 0) []) (hr : RJ S w (.slice ra n rc) L) (hl : n ≤ 1000000) :
    ∃ a c w', (Builtin.append_ #[82, 82] 82 #[.slice (some ⟨b0, 0, none⟩) 0 0, .slice ra n rc]).run Try.prog w = .ok (.slice a n c) w' ∧ OwR w' (.slice a n c) L ∧ (∀ g, (Value.slice a n c).ownBlock = some g → g = b0 ∨ w.heap.size ≤ g) ∧ Below w.heap.size w w' := by
  obtain ⟨i0, hi, hz0, hz1, hz2⟩ := info_parts Try.info37
  obtain ⟨ra', rc', he, hc1, hc2, hc⟩ := id hr
  have hn : n = L.length := (Value.slice.inj he).2.1
  obtain rfl := (Value.slice.inj he).1
  subst hn
  by_cases h0 : L = []
  · subst h0
    have hsrc : Src Try.prog i0.size 82 (.slice ra 0 rc) 0 [] w := by
      cases ra with
      | none => exact Src.ofNil w Try.underlying82 rc
      | some a => exact Src.ofSlice w Try.underlying82 a 0 rc [] (by simp) (by intro j u hu; simp at hu) (by intro u hu; cases hu)
    have hst := run_append_room_src (P := Try.prog) w 82 82 82 37 i0 Try.underlying82 hi b0 0 0 0 _ 0 [] hsrc (Nat.le_refl _) (fun j hj => by simp at hj) (fun j hj => by simp at hj)
    exact ⟨_, _, w, hst, h, fun g hg => .inl (by simpa [Value.ownBlock] using hg.symm), Below.refl _ _⟩
  · have hpos : 0 < L.length := by
      cases L with
      | nil => exact absurd rfl h0
      | cons a b => simp
    obtain ⟨z, hz⟩ : ∃ z, L[0]? = some z := ⟨_, List.getElem?_eq_getElem hpos⟩
    obtain ⟨b, off, rfl, _⟩ := hc 0 z hz
    have hnews : ∀ j u, (jrows L)[j]? = some u → w.cell? ((⟨b, off, none⟩ : Addr).add j) = some u := fun j u hu => by
      have hj : j < L.length * 6 := by rw [← jrows_len]; exact (List.getElem?_eq_some_iff.1 hu).1
      obtain ⟨q, hq⟩ : ∃ q, L[j / 6]? = some q := ⟨_, List.getElem?_eq_getElem (by omega)⟩
      have e : j = j / 6 * 6 + j % 6 := by omega
      obtain ⟨b', off', e2, _, hJ, _⟩ := hc (j / 6) q hq
      simp only [Option.some.injEq, Addr.mk.injEq] at e2
      obtain ⟨rfl, rfl, _⟩ := e2
      rw [e, jrows_get L (j / 6) q hq (j % 6) (by omega)] at hu
      have := hJ.get (j % 6) u hu
      rw [add_at, ← this]
      congr 2
      omega
    have hone : ∀ u ∈ jrows L, u.oneCell' = true := fun u hu => by
      obtain ⟨q, hq, hu2⟩ := List.mem_flatMap.1 hu
      have h1 := (hr.getv q hq).one
      simp only [jrow, List.mem_cons, List.not_mem_nil, or_false] at hu2
      rcases hu2 with rfl | rfl | rfl | rfl | rfl | rfl <;> first | rfl | exact h1
    have hsrc : Src Try.prog i0.size 82 (.slice (some ⟨b, off, none⟩) L.length rc) L.length (jrows L) w := Src.ofSlice w Try.underlying82 ⟨b, off, none⟩ L.length rc (jrows L) (by rw [hz1, jrows_len]) hnews hone
    have hrr := run_append_grow_src (P := Try.prog) w 82 82 82 37 i0 _ Try.underlying82 hi hz0 (some ⟨b0, 0, none⟩) 0 0 [] (by
        have := run_firstCells_some (P := Try.prog) w.drew i0.size 0 ⟨b0, 0, none⟩ 0 0 [] (by simp) (by intro j u hu; simp at hu)
        exact this) _ L.length (jrows L) hsrc (by omega) (by omega) (growslice_fits (by omega) (by rw [hz2]; omega))
    simp only [Nat.zero_add, List.nil_append] at hrr
    refine ⟨_, _, _, hrr, .inr ⟨w.heap.size, 0, _, _, rfl, ?_, ?_, heap_alloc_new w.drew _, ?_, ?_⟩, fun g hg => .inr (by simp [Value.ownBlock] at hg; omega), ((Below.refl _ _).drew).alloc (Nat.le_refl _) _⟩
    · exact grownCap_ge _ _ _ _
    · exact grownCap_le_maxLen _ _ _ _ (by unfold maxLen; omega)
    · have := grownCap_ge w L.length 0 37
      simp only [Array.size_append, List.size_toArray, jrows_len, size_zeroCells]
      have e6 : (JV ⟨0, false, 0, false, 0, []⟩ (.slice none 0 0)).cells.size = 6 := rfl
      rw [e6]
      omega
    · intro i q hq j hj
      rw [Nat.zero_add, Array.getElem?_append_left]
      · rw [List.getElem?_toArray]
        exact jrows_get _ i q hq j hj
      · have := (List.getElem?_eq_some_iff.1 hq).1
        simp only [List.size_toArray, jrows_len]
        omega

set_option maxHeartbeats 8000000 in
theorem rpush_any (S : Nat → Prop) (w : World) (rv : Value) (L : List JbP) (e : Jb) (sv : Value) (h : RJ S w rv L) (hs : RS S w sv e.s) (hS : ∀ b, w.heap.size ≤ b → S b) (hl : L.length ≤ 1000000) :
    Calls Try.prog 49 #[rv, JV e sv] w fun x w' => ∃ rv' L', x = .returned (.tuple #[rv', .int .i64 (pushP (L.map Prod.fst) e).1]) ∧ RJ S w' rv' L' ∧ L'.map Prod.fst = (pushP (L.map Prod.fst) e).2 ∧ Below w.heap.size w w' := by
  unfold pushP
  rw [List.length_map]
  have HH : Hid (RJ S w rv L) := h
  have HSE : Hid (RS S w sv e.s) := hs
  have HSB : Hid _ := hS
  obtain ⟨ra, rc, rfl, hc1, hc2, _⟩ := id h
  obtain ⟨sa, sc, hsv, _⟩ := hs.1
  obtain ⟨⟨ei, eu, et, eb, ek, es⟩, he⟩ : ∃ e', e' = e := ⟨_, rfl⟩
  subst he
  dsimp only at hsv
  subst hsv
  by_cases h128 : L.length = 128
  · rw [if_pos h128]
    have hlen : ((L.length : Nat) : Int) = 128 := by omega
    have HH2 : Hid (RJ S w (.slice ra 128 rc) L) := by rw [← h128]; exact h
    rw [h128]
    unfold JV
    dsimp only
    clear hs hS h
    go_enter Try.func49, Try.ntmps49
    go_wp2_with fail
    go_ret2
    exact ⟨.slice ra 128 rc, rfl, L, HH2.out.later (bl1 _ _), rfl, bl1 _ _⟩
  · rw [if_neg h128]
    have HP : Hid (∀ {W : World} {b0 : Nat}, OwR W (.slice (some ⟨b0, 0, none⟩) 0 0) [] → Below w.heap.size w W → ∃ a2 c2 W', (Builtin.append_ #[82, 82] 82 #[.slice (some ⟨b0, 0, none⟩) 0 0, .slice ra L.length rc]).run Try.prog W = .ok (.slice a2 L.length c2) W' ∧ OwR W' (.slice a2 L.length c2) L ∧ (∀ g, (Value.slice a2 L.length c2).ownBlock = some g → g = b0 ∨ W.heap.size ≤ g) ∧ Below W.heap.size W W') := by
      show ∀ {W : World} {b0 : Nat}, _
      intro W b0 h1 h2
      exact run_append_js h1 (h.later h2) hl
    obtain ⟨ln, hln⟩ : ∃ n, L.length = n := ⟨_, rfl⟩
    obtain ⟨sl, hsl⟩ : ∃ n, es.length = n := ⟨_, rfl⟩
    have HLN : Hid (L.length = ln) := hln
    have HSL : Hid (es.length = sl) := hsl
    have hdf : ((ln : Int) == 128) = false := beq_eq_false_iff_ne.2 (by omega)
    have hne : ¬ (ln : Int) = 128 := by omega
    have hb1 : Below w.heap.size w (w.alloc (.cells #[.int .i64 ei, .bool eu, .int .i64 et, .bool eb, .int .i64 ek, .slice sa sl sc] 37)) := bl1 _ _
    have hrow := row_new w #[.int .i64 ei, .bool eu, .int .i64 et, .bool eb, .int .i64 ek, .slice sa sl sc] 37
    rw [hln] at HP hl hc1 ⊢
    unfold JV
    dsimp only
    rw [hsl]
    clear hs hS h h128 hln hsl
    go_enter Try.func49, Try.ntmps49
    go_wp2_with fail
    have hws : (w.alloc (.cells #[.int .i64 ei, .bool eu, .int .i64 et, .bool eb, .int .i64 ek, .slice sa sl sc] 37)).heap.size = w.heap.size + 1 := by simp
    generalize w.alloc (.cells #[.int .i64 ei, .bool eu, .int .i64 et, .bool eb, .int .i64 ek, .slice sa sl sc] 37) = w1 at *
    have HB1 : Hid _ := hb1
    have HS : Hid (∀ W, Below w1.heap.size w1 W → W.cell? ⟨w.heap.size, 0, none⟩ = some (.int .i64 ei) ∧ W.cell? ⟨w.heap.size, 1, none⟩ = some (.bool eu) ∧ W.cell? ⟨w.heap.size, 2, none⟩ = some (.int .i64 et) ∧ W.cell? ⟨w.heap.size, 3, none⟩ = some (.bool eb) ∧ W.cell? ⟨w.heap.size, 4, none⟩ = some (.int .i64 ek) ∧ W.cell? ⟨w.heap.size, 5, none⟩ = some (.slice sa sl sc)) := fun W hW => ⟨cell_later hW ((cell_row hrow 0).trans rfl), cell_later hW ((cell_row hrow 1).trans rfl), cell_later hW ((cell_row hrow 2).trans rfl), cell_later hW ((cell_row hrow 3).trans rfl), cell_later hW ((cell_row hrow 4).trans rfl), cell_later hW ((cell_row hrow 5).trans rfl)⟩
    have HAP1 : Hid (∀ {W : World} {b0 : Nat}, OwR W (.slice (some ⟨b0, 0, none⟩) 0 0) [] → Below w1.heap.size w1 W → ∃ a2 c2 W', (Builtin.append_ #[82, 82] 82 #[.slice (some ⟨b0, 0, none⟩) 0 0, .slice ra ln rc]).run Try.prog W = .ok (.slice a2 ln c2) W' ∧ OwR W' (.slice a2 ln c2) L ∧ (∀ g, (Value.slice a2 ln c2).ownBlock = some g → g = b0 ∨ W.heap.size ≤ g) ∧ Below W.heap.size W W') := by
      show ∀ {W : World} {b0 : Nat}, _
      intro W b0 h1 h2
      exact HP.out h1 (hb1.trans (h2.mono hb1.size))
    have HAP2 : Hid (∀ {W : World} {a2 : Option Addr} {c2 b4 : Nat}, OwR W (.slice a2 ln c2) L → W.heap[b4]? = some (.cells #[.int .i64 ei, .bool eu, .int .i64 et, .bool eb, .int .i64 ek, .slice sa sl sc] 37 (0, 0)) → (Value.slice a2 ln c2).ownBlock ≠ some b4 → ∃ na nc w3, (Builtin.append_ #[82, 82] 82 #[.slice a2 ln c2, .slice (some ⟨b4, 0, none⟩) 1 1]).run Try.prog W = .ok (.slice na (ln + 1) nc) w3 ∧ OwR w3 (.slice na (ln + 1) nc) (L ++ [(⟨ei, eu, et, eb, ek, es⟩, .slice sa sl sc)]) ∧ W.grownBy w3 (Value.slice a2 ln c2).ownBlock ∧ ((Value.slice na (ln + 1) nc).ownBlock = (Value.slice a2 ln c2).ownBlock ∨ (Value.slice na (ln + 1) nc).ownBlock = some W.heap.size)) := by
      show ∀ {W : World} {a2 : Option Addr} {c2 b4 : Nat}, _
      intro W a2 c2 b4 h1 h2 h3
      have h9 := HLN.out
      have := run_append_j 82 82 Try.underlying82 h1 (⟨ei, eu, et, eb, ek, es⟩, .slice sa sl sc) rfl h2 h3 (by omega)
      rw [h9] at this
      exact this
    have HT : Hid (∀ {W w3 : World} {a2 na : Option Addr} {c2 nc : Nat}, W.grownBy w3 (Value.slice a2 ln c2).ownBlock → Below w1.heap.size w1 W → (∀ g, (Value.slice a2 ln c2).ownBlock = some g → w1.heap.size ≤ g) → ((Value.slice na (ln + 1) nc).ownBlock = (Value.slice a2 ln c2).ownBlock ∨ (Value.slice na (ln + 1) nc).ownBlock = some W.heap.size) → (w3.cell? ⟨w.heap.size, 0, none⟩ = some (.int .i64 ei) ∧ w3.cell? ⟨w.heap.size, 1, none⟩ = some (.bool eu) ∧ w3.cell? ⟨w.heap.size, 2, none⟩ = some (.int .i64 et) ∧ w3.cell? ⟨w.heap.size, 3, none⟩ = some (.bool eb) ∧ w3.cell? ⟨w.heap.size, 4, none⟩ = some (.int .i64 ek) ∧ w3.cell? ⟨w.heap.size, 5, none⟩ = some (.slice sa sl sc)) ∧ Below w1.heap.size w1 w3 ∧ ∀ g, (Value.slice na (ln + 1) nc).ownBlock = some g → w1.heap.size ≤ g) := by
      show ∀ {W w3 : World} {a2 na : Option Addr} {c2 nc : Nat}, _
      intro W w3 a2 na c2 nc hg hB hlo hat
      have hB3 : Below w1.heap.size w1 w3 := Below.grown hB hg hB.size (fun k hk => hlo k hk)
      refine ⟨HS.out _ hB3, hB3, fun g hg9 => ?_⟩
      rcases hat with h9 | h9
      · exact hlo g (by rw [← h9]; exact hg9)
      · rw [h9] at hg9
        have := hB.size
        simp at hg9
        omega
    have hS0 := HS.out w1.drew (Below.refl _ _).drew
    have hbd : Below w1.heap.size w1 w1.drew := (Below.refl _ _).drew
    clear hrow hws hb1
    refine region_thenG (β := Value × Value × Value × Option Addr × Nat) (fun z => [(10, z.1), (11, .slice ra ln rc), (12, z.2.1), (13, .agg #[.int .i64 ei, .bool eu, .int .i64 et, .bool eb, .int .i64 ek, .slice sa sl sc]), (14, z.2.2.1), (15, .slice z.2.2.2.1 (ln + 1) z.2.2.2.2), (4, .slice z.2.2.2.1 (ln + 1) z.2.2.2.2), (5, .int .i64 0)]) (fun z W => OwR W (.slice z.2.2.2.1 (ln + 1) z.2.2.2.2) (L ++ [(⟨ei, eu, et, eb, ek, es⟩, .slice sa sl sc)]) ∧ Below w1.heap.size w1 W ∧ ∀ g, (Value.slice z.2.2.2.1 (ln + 1) z.2.2.2.2).ownBlock = some g → w1.heap.size ≤ g) ?_ ?_
    · refine wp_region_held (S := fun W => W.cell? ⟨w.heap.size, 0, none⟩ = some (.int .i64 ei) ∧ W.cell? ⟨w.heap.size, 1, none⟩ = some (.bool eu) ∧ W.cell? ⟨w.heap.size, 2, none⟩ = some (.int .i64 et) ∧ W.cell? ⟨w.heap.size, 3, none⟩ = some (.bool eb) ∧ W.cell? ⟨w.heap.size, 4, none⟩ = some (.int .i64 ek) ∧ W.cell? ⟨w.heap.size, 5, none⟩ = some (.slice sa sl sc)) (by kernel_rfl) ?_
      simp only [List.size_toArray, List.length_cons, List.length_nil, Nat.reduceAdd, Array.replicate_succ, Array.replicate_zero, List.push_toArray, List.nil_append, List.cons_append]
      refine takeD (i := 1) (d := 11) (v := .slice ra ln rc) (fuel := 7) rfl rfl (by kernel_rfl) (by kernel_rfl) (by kernel_rfl) (fun _ _ _ h => by cases h.1) (.inl ⟨by kernel_rfl, fun _ _ => by kernel_rfl⟩) hS0 ?_
      simp only [List.setIfInBounds_toArray, List.set_cons_succ, List.set_cons_zero]
      refine takeD (i := 3) (d := 13) (v := .agg #[.int .i64 ei, .bool eu, .int .i64 et, .bool eb, .int .i64 ek, .slice sa sl sc]) (fuel := 6) rfl rfl (by kernel_rfl) (by kernel_rfl) (by kernel_rfl) (fun _ _ _ h => by cases h.1) (.inl ⟨by kernel_rfl, fun wx h => by obtain ⟨y0, y1, y2, y3, y4, y5⟩ := h; go_simp⟩) hS0 ?_
      simp only [List.setIfInBounds_toArray, List.set_cons_succ, List.set_cons_zero]
      refine wpAnyH_all (fuel := 5) (rs := [0, 4]) (by kernel_rfl) (by decide) ?_
      refine List.forall_mem_cons.2 ⟨?_, List.forall_mem_singleton.2 ?_⟩
      · obtain ⟨b0, hb0e⟩ : ∃ b0, b0 = w1.drew.heap.size := ⟨_, rfl⟩
        have hO0 : OwR (w1.drew.alloc (.cells #[] 37)) (.slice (some ⟨b0, 0, none⟩) 0 0) [] := by rw [hb0e]; exact ow_empty _
        have hb1 : Below w1.heap.size w1 (w1.drew.alloc (.cells #[] 37)) := hbd.alloc hbd.size _
        have hbs0 : w1.heap.size ≤ b0 ∧ b0 < (w1.drew.alloc (.cells #[] 37)).heap.size := ⟨by rw [hb0e]; exact hbd.size, by rw [hb0e]; simp⟩
        refine wpOp_value (i := 0) (d := 10) (v := .slice (some ⟨b0, 0, none⟩) 0 0) (w' := w1.drew.alloc (.cells #[] 37)) rfl rfl (by kernel_rfl) (by rw [hb0e]; go_simp) ⟨HS.out _ hb1, ?_⟩
        simp only [List.setIfInBounds_toArray, List.set_cons_succ, List.set_cons_zero]
        have hbl0 : Below w1.drew.heap.size w1.drew (w1.drew.alloc (.cells #[] 37)) := bl1 _ _
        generalize w1.drew.alloc (.cells #[] 37) = y1 at *
        refine wpAnyH_all (fuel := 4) (rs := [2, 4]) (by kernel_rfl) (by decide) ?_
        refine List.forall_mem_cons.2 ⟨?_, List.forall_mem_singleton.2 ?_⟩
        · obtain ⟨a2, c2, y2, hrun2, hO2, hg2, hbel2⟩ := HAP1.out hO0 hb1
          have hb2 : Below w1.heap.size w1 y2 := hb1.trans (hbel2.mono hb1.size)
          refine wpOp_value (i := 2) (d := 12) (v := .slice a2 ln c2) (w' := y2) rfl rfl (by kernel_rfl) (exec_append rfl rfl rfl hrun2) ⟨HS.out _ hb2, ?_⟩
          simp only [List.setIfInBounds_toArray, List.set_cons_succ, List.set_cons_zero]
          refine wpAnyH_all (fuel := 3) (rs := [4]) (by kernel_rfl) (by decide) ?_
          refine List.forall_mem_singleton.2 ?_
          obtain ⟨b4, hb4e⟩ : ∃ b4, b4 = y2.heap.size := ⟨_, rfl⟩
          have hb3 : Below w1.heap.size w1 (y2.alloc (.cells #[.int .i64 ei, .bool eu, .int .i64 et, .bool eb, .int .i64 ek, .slice sa sl sc] 37)) := hb2.alloc hb2.size _
          have hR4 : (y2.alloc (.cells #[.int .i64 ei, .bool eu, .int .i64 et, .bool eb, .int .i64 ek, .slice sa sl sc] 37)).heap[b4]? = some (.cells #[.int .i64 ei, .bool eu, .int .i64 et, .bool eb, .int .i64 ek, .slice sa sl sc] 37 (0, 0)) := by rw [hb4e]; exact row_new _ _ _
          have hbl4 : Below y2.heap.size y2 (y2.alloc (.cells #[.int .i64 ei, .bool eu, .int .i64 et, .bool eb, .int .i64 ek, .slice sa sl sc] 37)) := bl1 _ _
          have hb4s : w1.heap.size ≤ b4 ∧ b4 < (y2.alloc (.cells #[.int .i64 ei, .bool eu, .int .i64 et, .bool eb, .int .i64 ek, .slice sa sl sc] 37)).heap.size := ⟨by rw [hb4e]; exact hb2.size, by rw [hb4e]; simp⟩
          refine wpOp_value (i := 4) (d := 14) (v := .slice (some ⟨b4, 0, none⟩) 1 1) (w' := y2.alloc (.cells #[.int .i64 ei, .bool eu, .int .i64 et, .bool eb, .int .i64 ek, .slice sa sl sc] 37)) rfl rfl (by kernel_rfl) (by rw [hb4e]; go_simp) ⟨HS.out _ hb3, ?_⟩
          simp only [List.setIfInBounds_toArray, List.set_cons_succ, List.set_cons_zero]
          generalize y2.alloc (.cells #[.int .i64 ei, .bool eu, .int .i64 et, .bool eb, .int .i64 ek, .slice sa sl sc] 37) = y3 at *
          have hO5 := hO2.later hbl4
          have hR5 := hR4
          have hne5 : (Value.slice a2 ln c2).ownBlock ≠ some b4 := fun e => by have := hO2.lt _ e; omega
          obtain ⟨na, nc, w3, hrun, ho3, hg3, hat3⟩ := HAP2.out hO5 hR5 hne5
          obtain ⟨q0, q1, q2⟩ := HT.out hg3 hb3 (fun g hg => by rcases hg2 g hg with h | h <;> omega) hat3
          refine wpAnyH_all (fuel := 2) (rs := [5]) (by kernel_rfl) (by decide) ?_
          refine List.forall_mem_singleton.2 ?_
          refine wpOp_value (i := 5) (d := 15) (v := .slice na (ln + 1) nc) (w' := w3) rfl rfl (by kernel_rfl) (exec_append rfl rfl rfl hrun) ⟨q0, ?_⟩
          simp only [List.setIfInBounds_toArray, List.set_cons_succ, List.set_cons_zero]
          refine takeD (i := 6) (d := 4) (v := .slice na (ln + 1) nc) (fuel := 1) rfl rfl (by kernel_rfl) (by kernel_rfl) (by kernel_rfl) (fun _ _ _ h => by cases h.1) (.inl ⟨by kernel_rfl, fun _ _ => by kernel_rfl⟩) q0 ?_
          simp only [List.setIfInBounds_toArray, List.set_cons_succ, List.set_cons_zero]
          refine takeD (i := 7) (d := 5) (v := .int .i64 0) (fuel := 0) rfl rfl (by kernel_rfl) (by kernel_rfl) (by kernel_rfl) (fun _ _ _ h => by cases h.1) (.inl ⟨by kernel_rfl, fun _ _ => by kernel_rfl⟩) q0 ?_
          simp only [List.setIfInBounds_toArray, List.set_cons_succ, List.set_cons_zero]
          refine wpAnyH_done (by kernel_rfl) ?_ _
          exact ⟨rfl, (.slice (some ⟨b0, 0, none⟩) 0 0, .slice a2 ln c2, .slice (some ⟨b4, 0, none⟩) 1 1, na, nc), by kernel_rfl, ho3, q1, q2⟩
        · obtain ⟨b4, hb4e⟩ : ∃ b4, b4 = y1.heap.size := ⟨_, rfl⟩
          have hb2 : Below w1.heap.size w1 (y1.alloc (.cells #[.int .i64 ei, .bool eu, .int .i64 et, .bool eb, .int .i64 ek, .slice sa sl sc] 37)) := hb1.alloc hb1.size _
          have hR4 : (y1.alloc (.cells #[.int .i64 ei, .bool eu, .int .i64 et, .bool eb, .int .i64 ek, .slice sa sl sc] 37)).heap[b4]? = some (.cells #[.int .i64 ei, .bool eu, .int .i64 et, .bool eb, .int .i64 ek, .slice sa sl sc] 37 (0, 0)) := by rw [hb4e]; exact row_new _ _ _
          have hbl4 : Below y1.heap.size y1 (y1.alloc (.cells #[.int .i64 ei, .bool eu, .int .i64 et, .bool eb, .int .i64 ek, .slice sa sl sc] 37)) := bl1 _ _
          have hb4s : w1.heap.size ≤ b4 ∧ b4 < (y1.alloc (.cells #[.int .i64 ei, .bool eu, .int .i64 et, .bool eb, .int .i64 ek, .slice sa sl sc] 37)).heap.size := ⟨by rw [hb4e]; exact hb1.size, by rw [hb4e]; simp⟩
          refine wpOp_value (i := 4) (d := 14) (v := .slice (some ⟨b4, 0, none⟩) 1 1) (w' := y1.alloc (.cells #[.int .i64 ei, .bool eu, .int .i64 et, .bool eb, .int .i64 ek, .slice sa sl sc] 37)) rfl rfl (by kernel_rfl) (by rw [hb4e]; go_simp) ⟨HS.out _ hb2, ?_⟩
          simp only [List.setIfInBounds_toArray, List.set_cons_succ, List.set_cons_zero]
          have hO0 := hO0.later hbl4
          have hbs0 : w1.heap.size ≤ b0 ∧ b0 < y1.heap.size := hbs0
          generalize y1.alloc (.cells #[.int .i64 ei, .bool eu, .int .i64 et, .bool eb, .int .i64 ek, .slice sa sl sc] 37) = y2 at *
          refine wpAnyH_all (fuel := 3) (rs := [2]) (by kernel_rfl) (by decide) ?_
          refine List.forall_mem_singleton.2 ?_
          obtain ⟨a2, c2, y3, hrun2, hO2, hg2, hbel2⟩ := HAP1.out hO0 hb2
          have hb3 : Below w1.heap.size w1 y3 := hb2.trans (hbel2.mono hb2.size)
          refine wpOp_value (i := 2) (d := 12) (v := .slice a2 ln c2) (w' := y3) rfl rfl (by kernel_rfl) (exec_append rfl rfl rfl hrun2) ⟨HS.out _ hb3, ?_⟩
          simp only [List.setIfInBounds_toArray, List.set_cons_succ, List.set_cons_zero]
          have hO5 := hO2
          have hR5 := row_later hR4 hbel2
          have hne5 : (Value.slice a2 ln c2).ownBlock ≠ some b4 := fun e => by rcases hg2 _ e with h | h <;> omega
          obtain ⟨na, nc, w3, hrun, ho3, hg3, hat3⟩ := HAP2.out hO5 hR5 hne5
          obtain ⟨q0, q1, q2⟩ := HT.out hg3 hb3 (fun g hg => by rcases hg2 g hg with h | h <;> omega) hat3
          refine wpAnyH_all (fuel := 2) (rs := [5]) (by kernel_rfl) (by decide) ?_
          refine List.forall_mem_singleton.2 ?_
          refine wpOp_value (i := 5) (d := 15) (v := .slice na (ln + 1) nc) (w' := w3) rfl rfl (by kernel_rfl) (exec_append rfl rfl rfl hrun) ⟨q0, ?_⟩
          simp only [List.setIfInBounds_toArray, List.set_cons_succ, List.set_cons_zero]
          refine takeD (i := 6) (d := 4) (v := .slice na (ln + 1) nc) (fuel := 1) rfl rfl (by kernel_rfl) (by kernel_rfl) (by kernel_rfl) (fun _ _ _ h => by cases h.1) (.inl ⟨by kernel_rfl, fun _ _ => by kernel_rfl⟩) q0 ?_
          simp only [List.setIfInBounds_toArray, List.set_cons_succ, List.set_cons_zero]
          refine takeD (i := 7) (d := 5) (v := .int .i64 0) (fuel := 0) rfl rfl (by kernel_rfl) (by kernel_rfl) (by kernel_rfl) (fun _ _ _ h => by cases h.1) (.inl ⟨by kernel_rfl, fun _ _ => by kernel_rfl⟩) q0 ?_
          simp only [List.setIfInBounds_toArray, List.set_cons_succ, List.set_cons_zero]
          refine wpAnyH_done (by kernel_rfl) ?_ _
          exact ⟨rfl, (.slice (some ⟨b0, 0, none⟩) 0 0, .slice a2 ln c2, .slice (some ⟨b4, 0, none⟩) 1 1, na, nc), by kernel_rfl, ho3, q1, q2⟩
      · obtain ⟨b4, hb4e⟩ : ∃ b4, b4 = w1.drew.heap.size := ⟨_, rfl⟩
        have hb1 : Below w1.heap.size w1 (w1.drew.alloc (.cells #[.int .i64 ei, .bool eu, .int .i64 et, .bool eb, .int .i64 ek, .slice sa sl sc] 37)) := hbd.alloc hbd.size _
        have hR4 : (w1.drew.alloc (.cells #[.int .i64 ei, .bool eu, .int .i64 et, .bool eb, .int .i64 ek, .slice sa sl sc] 37)).heap[b4]? = some (.cells #[.int .i64 ei, .bool eu, .int .i64 et, .bool eb, .int .i64 ek, .slice sa sl sc] 37 (0, 0)) := by rw [hb4e]; exact row_new _ _ _
        have hbl4 : Below w1.drew.heap.size w1.drew (w1.drew.alloc (.cells #[.int .i64 ei, .bool eu, .int .i64 et, .bool eb, .int .i64 ek, .slice sa sl sc] 37)) := bl1 _ _
        have hb4s : w1.heap.size ≤ b4 ∧ b4 < (w1.drew.alloc (.cells #[.int .i64 ei, .bool eu, .int .i64 et, .bool eb, .int .i64 ek, .slice sa sl sc] 37)).heap.size := ⟨by rw [hb4e]; exact hbd.size, by rw [hb4e]; simp⟩
        refine wpOp_value (i := 4) (d := 14) (v := .slice (some ⟨b4, 0, none⟩) 1 1) (w' := w1.drew.alloc (.cells #[.int .i64 ei, .bool eu, .int .i64 et, .bool eb, .int .i64 ek, .slice sa sl sc] 37)) rfl rfl (by kernel_rfl) (by rw [hb4e]; go_simp) ⟨HS.out _ hb1, ?_⟩
        simp only [List.setIfInBounds_toArray, List.set_cons_succ, List.set_cons_zero]
        generalize w1.drew.alloc (.cells #[.int .i64 ei, .bool eu, .int .i64 et, .bool eb, .int .i64 ek, .slice sa sl sc] 37) = y1 at *
        refine wpAnyH_all (fuel := 4) (rs := [0]) (by kernel_rfl) (by decide) ?_
        refine List.forall_mem_singleton.2 ?_
        obtain ⟨b0, hb0e⟩ : ∃ b0, b0 = y1.heap.size := ⟨_, rfl⟩
        have hO0 : OwR (y1.alloc (.cells #[] 37)) (.slice (some ⟨b0, 0, none⟩) 0 0) [] := by rw [hb0e]; exact ow_empty _
        have hb2 : Below w1.heap.size w1 (y1.alloc (.cells #[] 37)) := hb1.alloc hb1.size _
        have hbs0 : w1.heap.size ≤ b0 ∧ b0 < (y1.alloc (.cells #[] 37)).heap.size := ⟨by rw [hb0e]; exact hb1.size, by rw [hb0e]; simp⟩
        refine wpOp_value (i := 0) (d := 10) (v := .slice (some ⟨b0, 0, none⟩) 0 0) (w' := y1.alloc (.cells #[] 37)) rfl rfl (by kernel_rfl) (by rw [hb0e]; go_simp) ⟨HS.out _ hb2, ?_⟩
        simp only [List.setIfInBounds_toArray, List.set_cons_succ, List.set_cons_zero]
        have hbl0 : Below y1.heap.size y1 (y1.alloc (.cells #[] 37)) := bl1 _ _
        generalize y1.alloc (.cells #[] 37) = y2 at *
        refine wpAnyH_all (fuel := 3) (rs := [2]) (by kernel_rfl) (by decide) ?_
        refine List.forall_mem_singleton.2 ?_
        obtain ⟨a2, c2, y3, hrun2, hO2, hg2, hbel2⟩ := HAP1.out hO0 hb2
        have hb3 : Below w1.heap.size w1 y3 := hb2.trans (hbel2.mono hb2.size)
        refine wpOp_value (i := 2) (d := 12) (v := .slice a2 ln c2) (w' := y3) rfl rfl (by kernel_rfl) (exec_append rfl rfl rfl hrun2) ⟨HS.out _ hb3, ?_⟩
        simp only [List.setIfInBounds_toArray, List.set_cons_succ, List.set_cons_zero]
        have hO5 := hO2
        have hR5 := row_later (row_later hR4 hbl0) hbel2
        have hne5 : (Value.slice a2 ln c2).ownBlock ≠ some b4 := fun e => by rcases hg2 _ e with h | h <;> omega
        obtain ⟨na, nc, w3, hrun, ho3, hg3, hat3⟩ := HAP2.out hO5 hR5 hne5
        obtain ⟨q0, q1, q2⟩ := HT.out hg3 hb3 (fun g hg => by rcases hg2 g hg with h | h <;> omega) hat3
        refine wpAnyH_all (fuel := 2) (rs := [5]) (by kernel_rfl) (by decide) ?_
        refine List.forall_mem_singleton.2 ?_
        refine wpOp_value (i := 5) (d := 15) (v := .slice na (ln + 1) nc) (w' := w3) rfl rfl (by kernel_rfl) (exec_append rfl rfl rfl hrun) ⟨q0, ?_⟩
        simp only [List.setIfInBounds_toArray, List.set_cons_succ, List.set_cons_zero]
        refine takeD (i := 6) (d := 4) (v := .slice na (ln + 1) nc) (fuel := 1) rfl rfl (by kernel_rfl) (by kernel_rfl) (by kernel_rfl) (fun _ _ _ h => by cases h.1) (.inl ⟨by kernel_rfl, fun _ _ => by kernel_rfl⟩) q0 ?_
        simp only [List.setIfInBounds_toArray, List.set_cons_succ, List.set_cons_zero]
        refine takeD (i := 7) (d := 5) (v := .int .i64 0) (fuel := 0) rfl rfl (by kernel_rfl) (by kernel_rfl) (by kernel_rfl) (fun _ _ _ h => by cases h.1) (.inl ⟨by kernel_rfl, fun _ _ => by kernel_rfl⟩) q0 ?_
        simp only [List.setIfInBounds_toArray, List.set_cons_succ, List.set_cons_zero]
        refine wpAnyH_done (by kernel_rfl) ?_ _
        exact ⟨rfl, (.slice (some ⟨b0, 0, none⟩) 0 0, .slice a2 ln c2, .slice (some ⟨b4, 0, none⟩) 1 1, na, nc), by kernel_rfl, ho3, q1, q2⟩
    · rintro ⟨z1, z2, z3, za, zc⟩ w9 ⟨hF1, hF2, hF3⟩
      have HF1 : Hid (OwR w9 (.slice za (ln + 1) zc) (L ++ [(⟨ei, eu, et, eb, ek, es⟩, .slice sa sl sc)])) := hF1
      have HF2 : Hid _ := hF2
      have HF3 : Hid (∀ g, (Value.slice za (ln + 1) zc).ownBlock = some g → w1.heap.size ≤ g) := hF3
      clear hF1 hF2 hF3 HT HAP2 HAP1 HS hS0 hbd HP
      simp only [setAll, List.setIfInBounds_toArray, List.set_cons_succ, List.set_cons_zero]
      go_wp2_with fail
      go_ret2
      have hBw : Below w.heap.size w w9 := HB1.out.trans (HF2.out.mono HB1.out.size)
      refine ⟨.slice za (ln + 1) zc, L ++ [(⟨ei, eu, et, eb, ek, es⟩, .slice sa sl sc)], rfl, RJ.of_owr HF1.out (fun g hg => HSB.out g (Nat.le_trans HB1.out.size (HF3.out g hg))) (fun x hx => ?_), by rw [List.map_append]; rfl, hBw⟩
      rcases List.mem_append.1 hx with hx | hx
      · exact (HH.out.getv x hx).later hBw
      · simp at hx
        subst hx
        have h9 : RS S w (.slice sa sl sc) es := by rw [← HSL.out]; exact HSE.out
        exact h9.later hBw

end Go.Proofs.Ytfhmmiilenonkaa
