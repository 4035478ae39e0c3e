/- The program's nodes and order. -/
import Derived.Test.YtdbohfpkhidfiaaDoorRRQa
namespace Go.Proofs.YtdbohfpkhidfiaaDoorRR
open Go.RowKit

theorem Tryd.info3 : (Tryd.prog.info? 3).map (fun i => (i.zero, i.size, i.bytes)) = some (some (.int .i64 0), 1, 8) := by kernel_rfl

theorem ivs_snoc (l : List Nat) (x : Nat) : ivs (l ++ [x]) = ivs l ++ [.int .i64 (x : Int)] := by simp [ivs]

set_option maxRecDepth 1000000 in
set_option maxHeartbeats 1000000 in
theorem nodes_any (s : Nat) (hs : s < 18446744073709551616) (w : World) (hT : Tab w) :
    Calls Tryd.prog 21 #[.int .u64 (s : Int)] w fun e w' => ∃ v, e = .returned v ∧ Below w.heap.size w w' ∧ w'.ownsRow w.heap.size 3 1 v (bitsOf s).length (ivs (bitsOf s)) := by
  obtain ⟨i0, hi0, hz0, hz1, hz2⟩ := info_parts Tryd.info3
  obtain ⟨G, HG⟩ : ∃ G, Hid (bitsOf s = G) := ⟨_, rfl⟩
  rw [HG.out]
  have hG64 : G.length ≤ 64 := by rw [← HG.out]; exact bitsOf_len s
  have HT : Hid (Tab w) := hT
  have HB0 : Hid (Below w.heap.size w w) := Below.refl _ _
  have HA0 : Hid (([] : List Nat) ++ bitsOf s = G) := HG
  clear hT
  go_enter Tryd.func21, Tryd.ntmps21
  go_wp2_with fail
  go_loopw [0, 3] (fun sv lv wr => ∃ (t : Nat) (acc : List Nat), t < 18446744073709551616 ∧ sv = .int .u64 (t : Int) ∧ Hid (wr.ownsRow w.heap.size 3 1 lv acc.length (ivs acc)) ∧ Hid (acc ++ bitsOf t = G) ∧ Hid (Below w.heap.size w wr)) (fun sv _ _ => (bitsOf (intOf sv).toNat).length)
  case atStart => exact ⟨s, [], hs, rfl, World.ownsRow_nil _ _ _ _, HA0, HB0⟩
  case round =>
    obtain ⟨t, acc, ht, rfl, HO, HA, HB⟩ := hrel
    rename World => w1
    clear HB0 HA0
    by_cases h0 : t = 0
    · subst h0
      have hacc : acc = G := by have := HA.out; rwa [bitsOf_zero, List.append_nil] at this
      subst hacc
      go_wp2_with fail
      go_ret
      exact ⟨_, rfl, HB.out, HO.out⟩
    · have h0b : (((t : Nat) : Int) != 0) = true := by simp; omega
      have hb := bitsOf_step h0 ht
      have hlow := (low_bit h0 ht).2.2
      have M1 : Hid _ := tz_any t h0 ht w1 (HT.out.later HB.out)
      have hz := HB.out.size
      have hal : acc.length ≤ 64 := by have := congrArg List.length HA.out; simp at this; omega
      have e1 : IntKind.u64.wrap ((t : Int) - 1) = ((t - 1 : Nat) : Int) := by rw [IntKind.wrap_u64]; omega
      have e2 := bits_and_u64_nat t (t - 1) ht (by omega)
      have ho := HO.out
      have HA2 : Hid ((acc ++ [low t]) ++ bitsOf (t &&& (t - 1)) = G) := by
        show _ = _
        rw [← HA.out, hb]
        simp
      have HM : Hid ((bitsOf t).length = (bitsOf (t &&& (t - 1))).length + 1) := by show _ = _; rw [hb]; rfl
      have ht2 := sub_lt64 ht
      clear hb HA HO
      generalize low t = lo at *
      go_wp2_with fail
      refine Calls.mono M1.out ?_
      rintro e w2 ⟨rfl, rfl⟩
      go_wp2_with (at_builtin; refine wpList_append_own_at _ rfl _ _ 25 rfl w.heap.size 3 i0 _ 1 8 Tryd.underlying25 hi0 hz0 hz1 hz2 rfl (by decide) _ acc.length (ivs acc) rfl (ho.alloc _) ⟨w2.heap.size, 0, none⟩ 1 1 [.int .i64 (lo : Int)] rfl rfl (new_cells w2 [.int .i64 (lo : Int)] 3) (by simp [Value.oneCell']) (by unfold maxLen; omega) (by omega) (by simp; omega) ?_; intro v5 w5 ho5 hg5 _ hat5; obtain ⟨g5, cap5, rfl⟩ := ownsRow_succ' ho5)
      have HB5 : Hid (Below w.heap.size w w5) := Below.grown (HB.out.alloc hz _) hg5 (by simp; omega) (fun j hj => (ho.lt _ hj).1)
      have HO5 : Hid (w5.ownsRow w.heap.size 3 1 (.slice (some ⟨g5, 0, none⟩) (acc.length + 1) cap5) (acc ++ [lo]).length (ivs (acc ++ [lo]))) := by
        show World.ownsRow _ _ _ _ _ _ _
        rw [ivs_snoc]
        simpa using ho5
      clear ho hg5 hat5 ho5 HB
      go_wp2_with fail
      go_roundw
      case rel => exact ⟨t &&& (t - 1), acc ++ [lo], ht2, rfl, HO5, HA2, HB5⟩
      case measure =>
        have := HM.out
        simp [intOf]
        omega
end Go.Proofs.YtdbohfpkhidfiaaDoorRR
