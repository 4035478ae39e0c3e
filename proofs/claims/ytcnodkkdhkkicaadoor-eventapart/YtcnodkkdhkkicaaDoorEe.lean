/- The walks over headText and Text. -/
import Derived.Test.YtcnodkkdhkkicaaDoorEc
import Derived.Handy
namespace Go.Proofs.YtcnodkkdhkkicaaDoor
open Go.RowKit
set_option linter.unusedVariables false

set_option maxRecDepth 1000000 in
set_option maxHeartbeats 1000000 in
theorem word_try (S : ByteArray) (w : World) : Calls Tryd.prog 81 #[.agg #[.string S]] w fun e w' => e = .returned (.string S) ∧ Below w.heap.size w w' := by
  go_enter Tryd.func81, Tryd.ntmps81
  go_wp2_with fail
  go_ret
  exact ⟨rfl, by first | exact Below.refl _ _ | exact (Below.refl _ _).alloc (Nat.le_refl _) _⟩

set_option maxRecDepth 1000000 in
set_option maxHeartbeats 1000000 in
theorem word_step (S : ByteArray) (w : World) : Calls Tryd.prog 82 #[.agg #[.string S]] w fun e w' => e = .returned (.string S) ∧ Below w.heap.size w w' := by
  go_enter Tryd.func82, Tryd.ntmps82
  go_wp2_with fail
  go_ret
  exact ⟨rfl, by first | exact Below.refl _ _ | exact (Below.refl _ _).alloc (Nat.le_refl _) _⟩

theorem dec_any (i : Nat) (hi : i < 100) (D : List UInt8) (hD : D = dgs i) (w : World) : Calls Tryd.prog 41 #[.int .i64 i] w fun e w' => e = .returned (.string ⟨D.toArray⟩) ∧ w' = w := by
  subst hD
  exact itoa_small i hi w

set_option maxRecDepth 1000000 in
set_option maxHeartbeats 4000000 in
theorem headText_try (W : List UInt8) (i t : Nat) (w : World) (hW : W.length ≤ 6) (hi : i < 100) (ht : t < 100) :
    Calls Tryd.prog 28 #[.iface 70 (.agg #[.string ⟨W.toArray⟩]), .int .i64 i, .int .i64 t] w fun e w' => e = .returned (.string ⟨(W ++ 32 :: (dgs i ++ 46 :: dgs t)).toArray⟩) ∧ Below w.heap.size w w' := by
  have HI : Hid _ := dec_any i hi _ rfl
  have HJ : Hid _ := dec_any t ht _ rfl
  have HW : Hid _ := word_try ⟨W.toArray⟩
  have q1 := as_same 70 (.agg #[.string ⟨W.toArray⟩]) (.inl rfl)
  have hd1 := dgs_small (n := i) (by omega)
  have hd2 := dgs_small (n := t) (by omega)
  generalize dgs i = D at *
  generalize dgs t = T at *
  have b1 : (⟨W.toArray⟩ : ByteArray) ++ ⟨#[32]⟩ = ⟨(W ++ [32]).toArray⟩ := bcat W [32]
  have b2 : (⟨(W ++ [32]).toArray⟩ : ByteArray) ++ ⟨D.toArray⟩ = ⟨(W ++ [32] ++ D).toArray⟩ := bcat _ _
  have b3 : (⟨#[46]⟩ : ByteArray) ++ ⟨T.toArray⟩ = ⟨([46] ++ T).toArray⟩ := bcat [46] _
  go_enter Tryd.func28, Tryd.ntmps28
  go_wp2_with fail
  refine Calls.mono (HW.out _) ?_
  rintro e w1 ⟨rfl, hb1⟩
  have HB1 : Hid _ := hb1
  clear hb1
  go_wp2_with fail
  refine Calls.mono (HI.out _) ?_
  rintro e w2 ⟨rfl, h2⟩
  obtain rfl := h2.symm
  clear h2
  go_wp2_with fail
  refine Calls.mono (HJ.out _) ?_
  rintro e w2 ⟨rfl, h2⟩
  obtain rfl := h2.symm
  clear h2
  go_wp2_with fail
  go_ret
  exact ⟨by show Ending.returned (Value.string (⟨(W ++ 32 :: D).toArray⟩ ++ ⟨(46 :: T).toArray⟩)) = _; rw [bcat]; simp, HB1.out.alloc HB1.out.size _⟩

set_option maxRecDepth 1000000 in
set_option maxHeartbeats 4000000 in
theorem headText_step (W : List UInt8) (i t : Nat) (w : World) (hW : W.length ≤ 6) (hi : i < 100) (ht : t < 100) :
    Calls Tryd.prog 28 #[.iface 74 (.agg #[.string ⟨W.toArray⟩]), .int .i64 i, .int .i64 t] w fun e w' => e = .returned (.string ⟨(W ++ 32 :: dgs i).toArray⟩) ∧ Below w.heap.size w w' := by
  have HI : Hid _ := dec_any i hi _ rfl
  have HW : Hid _ := word_step ⟨W.toArray⟩
  have q1 := as_74_70 (.agg #[.string ⟨W.toArray⟩])
  have hd1 := dgs_small (n := i) (by omega)
  generalize dgs i = D at *
  have b1 : (⟨W.toArray⟩ : ByteArray) ++ ⟨#[32]⟩ = ⟨(W ++ [32]).toArray⟩ := bcat W [32]
  have b2 : (⟨(W ++ [32]).toArray⟩ : ByteArray) ++ ⟨D.toArray⟩ = ⟨(W ++ [32] ++ D).toArray⟩ := bcat _ _
  go_enter Tryd.func28, Tryd.ntmps28
  go_wp2_with fail
  refine Calls.mono (HW.out _) ?_
  rintro e w1 ⟨rfl, hb1⟩
  have HB1 : Hid _ := hb1
  clear hb1
  go_wp2_with fail
  refine Calls.mono (HI.out _) ?_
  rintro e w2 ⟨rfl, h2⟩
  obtain rfl := h2.symm
  clear h2
  go_wp2_with fail
  go_ret
  exact ⟨rfl, HB1.out.alloc HB1.out.size _⟩

theorem headText_any (k i t : Int) (w : World) (h : okH k i t = true) :
    Calls Tryd.prog 28 #[sortV k, .int .i64 i, .int .i64 t] w fun e w' => e = .returned (.string ⟨(headT k i t).toArray⟩) ∧ Below w.heap.size w w' := by
  obtain ⟨k1, k2, i1, i2, t1, t2, kt⟩ : 1 ≤ k ∧ k ≤ 6 ∧ 1 ≤ i ∧ i ≤ 63 ∧ 0 ≤ t ∧ t ≤ 3 ∧ (3 < k ∨ t = 0) := of_decide_eq_true h
  obtain ⟨a, rfl⟩ : ∃ a : Nat, i = (a : Int) := ⟨i.toNat, by omega⟩
  obtain ⟨b, rfl⟩ : ∃ b : Nat, t = (b : Int) := ⟨t.toNat, by omega⟩
  unfold sortV headT numT
  rw [Int.toNat_natCast, Int.toNat_natCast]
  by_cases h3 : 3 < k
  · rw [if_neg (by omega), if_pos (by omega), if_pos h3]
    exact headText_try _ a b w (word_len k) (by omega) (by omega)
  · rw [if_pos (by omega), if_neg h3, List.append_nil]
    exact headText_step _ a b w (word_len k) (by omega) (by omega)
end Go.Proofs.YtcnodkkdhkkicaaDoor
