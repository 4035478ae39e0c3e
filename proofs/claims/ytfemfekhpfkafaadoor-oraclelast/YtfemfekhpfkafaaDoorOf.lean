/- The walk over Make. -/
import Derived.Test.YtfemfekhpfkafaaDoorOe
import Derived.Test.YtfemfekhpfkafaaDoorSj
namespace Go.Proofs.YtfemfekhpfkafaaDoor.Or
open Go.RowKit Go.Proofs.YtfemfekhpfkafaaDoor
set_option maxRecDepth 1000000
set_option linter.unusedVariables false

/-- Sixty-four bytes as they lie in memory. -/
def rowF (f : Nat → Nat) : Array Value := ((List.range 64).map fun i => Value.int .u8 (f i : Nat)).toArray
def BK (w : World) (g : Nat) (f : Nat → Nat) : Prop := w.heap[g]? = some (.cells (rowF f) 44 (0, 0))
def upd (f : Nat → Nat) (k x : Nat) : Nat → Nat := fun i => if i = k then x else f i

theorem rowF_at (f : Nat → Nat) (i : Nat) (h : i < 64) : (rowF f)[i]? = some (.int .u8 (f i : Nat)) := by
  unfold rowF
  simp [h]
theorem rowF_set (f : Nat → Nat) (k x : Nat) (h : k < 64) : (rowF f).setIfInBounds k (.int .u8 (x : Nat)) = rowF (upd f k x) := by
  apply Array.ext_getElem?
  intro i
  rw [Array.getElem?_setIfInBounds]
  have hs : ∀ f, (rowF f).size = 64 := fun f => by simp [rowF]
  by_cases hk : k = i
  · subst hk
    rw [if_pos rfl, if_pos (by rw [hs]; exact h), rowF_at _ _ h]
    simp [upd]
  · rw [if_neg hk]
    by_cases hi : i < 64
    · rw [rowF_at _ _ hi, rowF_at _ _ hi]
      simp [upd, Ne.symm hk]
    · rw [Array.getElem?_eq_none (by rw [hs]; omega), Array.getElem?_eq_none (by rw [hs]; omega)]
theorem BK.get {w : World} {g : Nat} {f : Nat → Nat} (h : BK w g f) (i : Nat) (hi : i < 64) : w.cell? ⟨g, i, none⟩ = some (.int .u8 (f i : Nat)) := by
  rw [cell_row h, rowF_at _ _ hi]
theorem BK.froz {w : World} {g : Nat} {f : Nat → Nat} (h : BK w g f) (i : Nat) : w.frozen? ⟨g, i, none⟩ = false := froz_row h i
theorem BK.set {w : World} {g : Nat} {f : Nat → Nat} (h : BK w g f) (i x : Nat) (hi : i < 64) : BK (w.setCell ⟨g, i, none⟩ (.int .u8 (x : Nat))) g (upd f i x) := by
  unfold BK
  rw [row_set h, rowF_set _ _ _ hi]
theorem BK.rb {w : World} {g : Nat} {f : Nat → Nat} (h : BK w g f) (hf : ∀ i, f i < 256) : RB w (.slice (some ⟨g, 0, none⟩) 64 64) (bytesL f 64) := by
  refine ⟨_, 64, by rw [bytesL_len], by rw [bytesL_len]; omega, by unfold maxLen; omega, (fun h => by cases h), fun i hi => ⟨g, 0, rfl, ?_⟩⟩
  rw [bytesL_len] at hi
  rw [Nat.zero_add, h.get i hi, bytesL_at _ _ _ hi]
  have := hf i
  simp
  omega

/-- What is known behind k of the slips, and behind k of the items that fail. -/
def f1 (S : List Int) (k : Nat) : Nat → Nat := fun i => if i < k then (S.getD i 0).toNat else 0
def f2 (F S : List Int) (k : Nat) : Nat → Nat := fun i => (S.getD i 0).toNat + if (i : Int) ∈ F.take k then 4 else 0

theorem f1_succ (S : List Int) (k : Nat) : upd (f1 S k) k (S.getD k 0).toNat = f1 S (k + 1) := by
  funext i
  unfold upd f1
  by_cases h : i = k
  · subst h; simp
  · rw [if_neg h]
    by_cases h2 : i < k
    · rw [if_pos h2, if_pos (by omega)]
    · rw [if_neg h2, if_neg (by omega)]
theorem f1_end (F S : List Int) : f1 S S.length = f2 F S 0 := by
  funext i
  unfold f1 f2
  by_cases h : i < S.length
  · rw [if_pos h]; simp
  · rw [if_neg h]
    simp [show S.length ≤ i by omega]
theorem f2_end (F S : List Int) : f2 F S F.length = bt F S := by
  funext i
  unfold f2 bt
  rw [List.take_length]
theorem or4 (x : Nat) (h : x < 4) : x ||| 4 = x + 4 := by
  have : ∀ x, x < 4 → x ||| 4 = x + 4 := by decide
  exact this x h
theorem or44 (x : Nat) (h : x < 4) : (x + 4) ||| 4 = x + 4 := by
  have : ∀ x, x < 4 → (x + 4) ||| 4 = x + 4 := by decide
  exact this x h
theorem f2_succ (F S : List Int) (k j : Nat) (hk : k < F.length) (hj : F.getD k 0 = (j : Int)) (hs : (S.getD j 0).toNat < 4) : upd (f2 F S k) j (f2 F S k j ||| 4) = f2 F S (k + 1) := by
  have e : F[k] = (j : Int) := by rw [← hj]; simp [hk]
  have ht : F.take (k + 1) = F.take k ++ [(j : Int)] := by rw [← e, List.take_append_getElem hk]
  funext i
  unfold upd f2
  by_cases h : i = j
  · subst h
    have hm2 : (i : Int) ∈ F.take (k + 1) := by rw [ht]; simp
    rw [if_pos rfl]
    by_cases hm : (i : Int) ∈ F.take k
    · rw [if_pos hm, if_pos hm2, or44 _ hs]
    · rw [if_neg hm, if_pos hm2, Nat.add_zero, or4 _ hs]
  · simp only [if_neg h, ht]
    have : ((i : Int) ∈ F.take k ++ [(j : Int)]) ↔ (i : Int) ∈ F.take k := by
      simp only [List.mem_append, List.mem_singleton, or_iff_left_iff_imp]
      intro h2
      omega
    simp only [this]
theorem f2_lt (F S : List Int) (k j : Nat) (hs : (S.getD j 0).toNat < 4) : f2 F S k j < 8 := by
  unfold f2
  split <;> omega

theorem ok_bad_slip {F S : List Int} {k : Nat} (hk : k < S.length) (h : ¬ (0 ≤ S.getD k 0 ∧ S.getD k 0 ≤ 3)) : okM F S = false := by
  cases hb : okM F S with
  | false => rfl
  | true => exact absurd (okM_at hb k) h
theorem ok_bad_fail {F S : List Int} {k : Nat} (hk : k < F.length) (h : ¬ (0 ≤ F.getD k 0 ∧ F.getD k 0 < 64)) : okM F S = false := by
  cases hb : okM F S with
  | false => rfl
  | true =>
    have e : F.getD k 0 = F[k] := by simp [hk]
    exact absurd (okM_fail hb (F.getD k 0) (e ▸ List.getElem_mem hk)) h
theorem ok_all {F S : List Int} (h1 : S.length ≤ 64) (h2 : ∀ k, k < S.length → 0 ≤ S.getD k 0 ∧ S.getD k 0 ≤ 3) (h3 : ∀ k, k < F.length → 0 ≤ F.getD k 0 ∧ F.getD k 0 < 64) : okM F S = true := by
  simp only [okM, Bool.and_eq_true, decide_eq_true_eq, List.all_eq_true]
  refine ⟨⟨h1, fun x hx => ?_⟩, fun x hx => ?_⟩
  · obtain ⟨k, hk, rfl⟩ := List.mem_iff_getElem.1 hx
    have := h2 k hk
    simpa [hk] using this
  · obtain ⟨k, hk, rfl⟩ := List.mem_iff_getElem.1 hx
    have := h3 k hk
    simpa [hk] using this

theorem zero_row (S : List Int) : (rowF (f1 S 0)) = #[.int .u8 0, .int .u8 0, .int .u8 0, .int .u8 0, .int .u8 0, .int .u8 0, .int .u8 0, .int .u8 0, .int .u8 0, .int .u8 0, .int .u8 0, .int .u8 0, .int .u8 0, .int .u8 0, .int .u8 0, .int .u8 0, .int .u8 0, .int .u8 0, .int .u8 0, .int .u8 0, .int .u8 0, .int .u8 0, .int .u8 0, .int .u8 0, .int .u8 0, .int .u8 0, .int .u8 0, .int .u8 0, .int .u8 0, .int .u8 0, .int .u8 0, .int .u8 0, .int .u8 0, .int .u8 0, .int .u8 0, .int .u8 0, .int .u8 0, .int .u8 0, .int .u8 0, .int .u8 0, .int .u8 0, .int .u8 0, .int .u8 0, .int .u8 0, .int .u8 0, .int .u8 0, .int .u8 0, .int .u8 0, .int .u8 0, .int .u8 0, .int .u8 0, .int .u8 0, .int .u8 0, .int .u8 0, .int .u8 0, .int .u8 0, .int .u8 0, .int .u8 0, .int .u8 0, .int .u8 0, .int .u8 0, .int .u8 0, .int .u8 0, .int .u8 0] := rfl

theorem all64 (g : Nat) (wx : World) : (Instr.sliceAt 44 (.pointer (some ⟨g, 0, none⟩)) none none none).run Tryd.prog wx = .ok (.slice (some ⟨g, 0, none⟩) 64 64) wx := by
  rw [run_sliceAt_array_all wx 44 ⟨g, 0, none⟩ (by kernel_rfl)]
  have : (sizeOf (Tryd.prog.elem 44)).run Tryd.prog wx = .ok 1 wx := by kernel_rfl
  rw [this]
  have e : Tryd.prog.arrayLen 44 = 64 := by kernel_rfl
  rw [e]
  rfl

/-- What Make gives back. -/
def MakeC (w : World) (F S : List Int) (e : Ending) (w' : World) : Prop :=
  Below w.heap.size w w' ∧ if okM F S = true then ∃ g c, e = .returned (.tuple #[.slice (some ⟨g, 0, none⟩) (mk F S).length c, .int .i64 0]) ∧ RB w' (.slice (some ⟨g, 0, none⟩) (mk F S).length c) (mk F S) else e = .returned (.tuple #[.slice none 0 0, .int .i64 2])
end Go.Proofs.YtfemfekhpfkafaaDoor.Or
