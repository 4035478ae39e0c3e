/- Walks over lex.Join and the document's Join: the tokens' texts, one blank between any two. -/
import Derived.Test.YtchdecoceokcmaaWY
import Derived.Test.YtchdecoceokcmaaWU
namespace Go.Proofs.Ytchdecoceokcmaa
open Go.RowKit
set_option linter.unusedVariables false

/-- Texts, one blank between any two. -/
def jn : List (List UInt8) → List UInt8
  | [] => []
  | [x] => x
  | x :: y :: r => x ++ 32 :: jn (y :: r)

theorem jn_snoc (xs : List (List UInt8)) (x : List UInt8) (h : xs ≠ []) : jn (xs ++ [x]) = jn xs ++ [32] ++ x := by
  induction xs with
  | nil => exact absurd rfl h
  | cons y xs ih =>
    cases xs with
    | nil => simp [jn]
    | cons z xs =>
      have := ih (by simp)
      simp only [List.cons_append] at this ⊢
      simp only [jn, this]
      simp

theorem jn_take (xs : List (List UInt8)) (k : Nat) : (jn (xs.take k)).length ≤ (jn xs).length := by
  have step : ∀ k, (jn (xs.take k)).length ≤ (jn (xs.take (k + 1))).length := by
    intro k
    by_cases hk : k < xs.length
    · rw [List.take_succ_eq_append_getElem hk]
      by_cases h0 : xs.take k = []
      · rw [h0]; simp [jn]
      · rw [jn_snoc _ _ h0]
        simp
    · rw [List.take_of_length_le (by omega), List.take_of_length_le (by omega)]
      exact Nat.le_refl _
  have all : ∀ m, (jn (xs.take k)).length ≤ (jn (xs.take (k + m))).length := by
    intro m
    induction m with
    | zero => exact Nat.le_refl _
    | succ m ih => exact Nat.le_trans ih (step (k + m))
  have h := all xs.length
  rwa [List.take_of_length_le (l := xs) (i := k + xs.length) (by omega)] at h

/-- A slice of tokens, of which the texts alone are told. -/
def ReadsX (w : World) (v : Value) (xs : List ByteArray) : Prop :=
  ∃ a cap, v = .slice a xs.length cap ∧ (a = none → cap = 0) ∧ xs.length ≤ cap ∧ ∀ i x, xs[i]? = some x → ∃ b off k p, a = some ⟨b, off, none⟩ ∧ w.cell? ⟨b, off + i * 3, none⟩ = some (.int .i64 k) ∧ w.cell? ⟨b, off + i * 3 + 1, none⟩ = some (.string x) ∧ w.cell? ⟨b, off + i * 3 + 2, none⟩ = some (.int .i64 p)

theorem ReadsX.later {w wx : World} {v : Value} {xs : List ByteArray} (h : ReadsX w v xs) (hb : Below w.heap.size w wx) : ReadsX wx v xs := by
  obtain ⟨a, cap, hv, hn, hc, hr⟩ := h
  refine ⟨a, cap, hv, hn, hc, fun i t hi => ?_⟩
  obtain ⟨b, off, k, p, ha, c0, c1, c2⟩ := hr i t hi
  exact ⟨b, off, k, p, ha, cell_later hb c0, cell_later hb c1, cell_later hb c2⟩

def txts (l : List Tok) : List ByteArray := l.map fun t => ⟨t.text.toArray⟩

theorem readsX_of_readsT {w : World} {v : Value} {l : List Tok} (h : ReadsT w v l) : ReadsX w v (txts l) := by
  obtain ⟨a, cap, hv, hn, hc, hr⟩ := h
  refine ⟨a, cap, by simpa [txts] using hv, hn, by simpa [txts] using hc, fun i x hi => ?_⟩
  simp only [txts, List.getElem?_map, Option.map_eq_some_iff] at hi
  obtain ⟨t, ht, rfl⟩ := hi
  obtain ⟨b, off, ha, c0, c1, c2⟩ := hr i t ht
  exact ⟨b, off, _, _, ha, c0, c1, c2⟩

def bys (xs : List ByteArray) : List (List UInt8) := xs.map fun x => x.data.toList

theorem IsB.later {w w1 : World} {b B : Nat} {l : List UInt8} (h : IsB w b B l) (hb : Below w.heap.size w w1) : IsB w1 b B l := by
  have go : ∀ p v, BAt w b B p v l → BAt w1 b B p v l := by
    rintro p v ⟨h1, h2, h3, h4, h5⟩
    have hz := hb.size
    exact ⟨(hb.block b (by omega)).trans h1, owns_later h2 hb, h3, by omega, h5⟩
  obtain ⟨v, h | h⟩ := h
  · exact ⟨v, .inl (go _ _ h)⟩
  · exact ⟨v, .inr (go _ _ h)⟩

theorem IsB.le {w : World} {b B : Nat} {l : List UInt8} (h : IsB w b B l) : B ≤ w.heap.size := by
  obtain ⟨v, h | h⟩ := h
  · exact h.le
  · exact h.le

set_option maxRecDepth 1000000 in
set_option maxHeartbeats 2000000 in
theorem join_any (x : Value) (xs : List ByteArray) (w : World) (hx : ReadsX w x xs) (hl : xs.length ≤ 100000) (hj : (jn (bys xs)).length ≤ 140737488355328) :
    Calls Try.prog 17 #[x] w fun e w' => e = .returned (.string ⟨(jn (bys xs)).toArray⟩) ∧ Below w.heap.size w w' := by
  obtain ⟨a, ca, rfl, _, hna, hca⟩ := hx
  have hB0 : IsB (w.alloc (.cells #[.pointer none, .slice none 0 0] 56)) w.heap.size (w.heap.size + 1) [] := ⟨_, .inl ⟨heap_alloc_new w _, World.ownsRow_nil _ _ _ _, by omega, by simp, fun _ => rfl⟩⟩
  have hbw0 : Below w.heap.size w (w.alloc (.cells #[.pointer none, .slice none 0 0] 56)) := (Below.refl _ _).alloc (Nat.le_refl _) _
  go_enter Try.func17, Try.ntmps17
  go_wp2
  go_loopw [4, 5, 8] (fun _ _ iv wr => ∃ (k : Nat), k ≤ xs.length ∧ iv = .int .i64 k ∧ IsB wr w.heap.size (w.heap.size + 1) (jn (bys (xs.take k))) ∧ Below w.heap.size w wr) (fun _ _ iv _ => xs.length - (intOf iv).toNat)
  case atStart => exact ⟨0, Nat.zero_le _, rfl, hB0, hbw0⟩
  case round =>
    clear hB0 hbw0
    obtain ⟨k, hk, rfl, hB, hbw⟩ := hrel
    by_cases hlt : k < xs.length
    · obtain ⟨y, hy⟩ : ∃ y, xs[k]? = some y := ⟨_, List.getElem?_eq_getElem hlt⟩
      obtain ⟨b1, o1, kk, pp, rfl, a0, a1, a2⟩ := hca k y hy
      have d0 := cell_later hbw a0
      have d1 := cell_later hbw a1
      have d2 := cell_later hbw a2
      have hzw := hbw.size
      have HT : Hid (xs.take (k + 1) = xs.take k ++ [y]) := by
        show _ = _
        rw [List.take_succ_eq_append_getElem hlt]
        rw [List.getElem?_eq_getElem hlt] at hy
        simp only [Option.some.injEq] at hy
        rw [hy]
      have hB1 := hB.later (w1 := wr.alloc (.cells #[.int .i64 kk, .string y, .int .i64 pp] 38)) ((Below.refl _ _).alloc (Nat.le_refl _) _)
      have hblk : (wr.alloc (.cells #[.int .i64 kk, .string y, .int .i64 pp] 38)).heap[wr.heap.size]? = some (.cells #[.int .i64 kk, .string y, .int .i64 pp] 38 (0, 0)) := heap_alloc_new wr _
      have hbw1 : Below w.heap.size w (wr.alloc (.cells #[.int .i64 kk, .string y, .int .i64 pp] 38)) := hbw.alloc hzw _
      have hjt := jn_take (bys xs) (k + 1)
      have hbt : (bys xs).take (k + 1) = bys (xs.take k) ++ [y.data.toList] := by
        have e : (bys xs).take (k + 1) = bys (xs.take (k + 1)) := by simp [bys]
        rw [e, HT.out]
        simp [bys]
      rw [hbt] at hjt
      have HBT : Hid (bys (xs.take (k + 1)) = bys (xs.take k) ++ [y.data.toList]) := by show _ = _; rw [HT.out]; simp [bys]
      have hys := size_list y
      have hBz := hB.le
      by_cases hk0 : k = 0
      · subst hk0
        have e0 : bys (xs.take 0) = [] := rfl
        simp only [Nat.zero_mul, Nat.add_zero] at d0 d1 d2
        rw [e0] at hB1 hjt hB
        have HB : Hid _ := hB1
        have HY : Hid (y.size ≤ 140737488355328) := by
          show _ ≤ _
          simp [jn] at hjt
          have : y.size = y.data.size := rfl
          omega
        clear hca a0 a1 a2 hy hB hB1 hblk hjt hbt hys e0
        go_wp2_with fail
        refine (wstring _ _ _ y _ HB.out (by have := HY.out; simp [jn]; exact this)).mono ?_
        rintro e w2 ⟨rfl, hB2, k2, _⟩
        clear HB
        have hbw2 : Below w.heap.size w w2 := hbw1.trans (k2.below (Nat.le_refl _) (by omega))
        go_wp2
        go_roundw
        case rel => exact ⟨1, by omega, rfl, by rw [HBT.out]; exact hB2, hbw2⟩
        case measure => simp [intOf]; omega
      · have hne : bys (xs.take k) ≠ [] := by
          intro h
          have h2 := congrArg List.length h
          simp only [bys, List.length_map, List.length_take, List.length_nil] at h2
          omega
        have HJ : Hid (jn (bys (xs.take (k + 1))) = jn (bys (xs.take k)) ++ [32] ++ y.data.toList) := by show _ = _; rw [HBT.out, jn_snoc _ _ hne]
        have HLEN : Hid ((jn (bys (xs.take k)) ++ [32]).length + y.size ≤ 140737488355328) := by
          show _ ≤ _
          have e := congrArg List.length (jn_snoc (bys (xs.take k)) y.data.toList hne)
          rw [List.length_append, hys] at e
          omega
        have HB : Hid _ := hB1
        have HBL : Hid _ := hblk
        have hk1 : 0 < k := by omega
        clear hca a0 a1 a2 hy hB hB1 hblk hjt hbt hys hne hk0
        go_wp2_with fail
        refine (wbyte _ _ _ _ HB.out (by have := HLEN.out; simp at this ⊢; omega)).mono ?_
        rintro e w2 ⟨rfl, hB2, k2, t2⟩
        have hb2 := t2 _ _ _ _ HBL.out (by decide) (by omega)
        have e1 := cell_blk hb2 1
        simp at e1
        have hbw2 : Below w.heap.size w w2 := hbw1.trans (k2.below (Nat.le_refl _) (by omega))
        have HB2 : Hid _ := hB2
        clear HB HBL hB2 hb2 t2
        go_wp2_with fail
        refine (wstring _ _ _ y _ HB2.out HLEN.out).mono ?_
        rintro e w3 ⟨rfl, hB3, k3, _⟩
        have hbw3 : Below w.heap.size w w3 := hbw2.trans (k3.below (Nat.le_refl _) (by omega))
        go_wp2
        go_roundw
        case rel => exact ⟨k + 1, by omega, by go_num, by rw [HJ.out]; exact hB3, hbw3⟩
        case measure => simp [intOf]; omega
    · have hkk : k = xs.length := by omega
      have HT : Hid (xs.take k = xs) := by show _ = _; rw [hkk, List.take_length]
      rw [HT.out] at hB
      have HB : Hid _ := hB
      clear hB hca hkk
      go_wp2_with fail
      refine (bstring _ _ _ _ HB.out).mono ?_
      rintro e w2 ⟨rfl, k2⟩
      go_wp2
      go_ret
      exact ⟨rfl, hbw.trans (k2.below (Nat.le_refl _) (by omega))⟩
end Go.Proofs.Ytchdecoceokcmaa
