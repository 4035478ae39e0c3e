/- Texts of the seat, packed: Wg. -/
import Derived.Test.YtijkgdbabikojaaGreatP12
import Derived.Deep.RegionHeldLaw
/- The walks over the document's One, Put and Puts. -/
namespace Go.Proofs.YtijkgdbabikojaaGreat
set_option maxRecDepth 1000000
open Go.RowKit
set_option linter.unusedVariables false

theorem byte_more2 (k : Nat) (hk : ¬ k < 128) : bvs [UInt8.ofNat (128 + k % 128)] = [.int .u8 ((128 + (k : Int) % 128))] := by
  simp only [bvs, List.map_cons, List.map_nil, u8_nat, List.cons.injEq, and_true]
  congr 1
  omega

theorem str_new (w : World) (c : UInt8) (x : Int) (h : bvs [c] = [.int .u8 x]) : (convert 34 9 (.slice (some ⟨w.heap.size, 0, none⟩) 1 1)).run Tryz.prog (w.alloc (.cells #[.int .u8 x] 5)) = .ok (.string ⟨[c].toArray⟩) (w.alloc (.cells #[.int .u8 x] 5)) :=
  string_of_RB (RB.new w [c] #[.int .u8 x] 5 h.symm (by simp))

theorem str_late (w w2 : World) (c : UInt8) (x : Int) (h : bvs [c] = [.int .u8 x]) (hb : Below (w.alloc (.cells #[.int .u8 x] 5)).heap.size (w.alloc (.cells #[.int .u8 x] 5)) w2) : (convert 34 9 (.slice (some ⟨w.heap.size, 0, none⟩) 1 1)).run Tryz.prog w2 = .ok (.string ⟨[c].toArray⟩) w2 :=
  string_of_RB ((RB.new w [c] #[.int .u8 x] 5 h.symm (by simp)).later hb)

theorem str_newd (w : World) (c : UInt8) (x : Int) (h : bvs [c] = [.int .u8 x]) : (convert 34 9 (.slice (some ⟨w.heap.size, 0, none⟩) 1 1)).run Tryz.prog (w.alloc (.cells #[.int .u8 x] 5)).drew = .ok (.string ⟨[c].toArray⟩) (w.alloc (.cells #[.int .u8 x] 5)).drew :=
  string_of_RB ((RB.new w [c] #[.int .u8 x] 5 h.symm (by simp)).later ((Below.refl _ _).drew))

theorem str_lated (w w2 : World) (c : UInt8) (x : Int) (h : bvs [c] = [.int .u8 x]) (hb : Below (w.alloc (.cells #[.int .u8 x] 5)).drew.heap.size (w.alloc (.cells #[.int .u8 x] 5)).drew w2) : (convert 34 9 (.slice (some ⟨w.heap.size, 0, none⟩) 1 1)).run Tryz.prog w2 = .ok (.string ⟨[c].toArray⟩) w2 :=
  string_of_RB (((RB.new w [c] #[.int .u8 x] 5 h.symm (by simp)).later ((Below.refl _ _).drew)).later hb)

set_option maxRecDepth 1000000 in
set_option maxHeartbeats 1000000 in
theorem one_any0 : ∀ (m n : Nat), n < 128 ^ (m + 1) → m ≤ 7 → ∀ w : World,
    Calls Tryz.prog 113 #[.int .i64 n] w fun e w' => e = .returned (.string ⟨(oneP n).toArray⟩) ∧ Below w.heap.size w w' := by
  intro m
  induction m with
  | zero =>
    intro n hn _ w
    have hn2 : n < 128 := by simpa using hn
    have HY : Hid (bvs [UInt8.ofNat n] = [.int .u8 (n : Int)]) := byte_last n hn2
    have hcv := string_of_RB (RB.new w [UInt8.ofNat n] #[.int .u8 (n : Int)] 5 HY.out.symm (by simp))
    have HO : Hid (oneP n = [UInt8.ofNat n]) := one_lt hn2
    rw [show ([UInt8.ofNat n] : List UInt8).length = 1 from rfl] at hcv
    go_enter Tryz.func113, Tryz.ntmps113
    go_wp2_with fail
    go_ret
    rw [HO.out]
    exact ⟨rfl, (Below.refl _ _).alloc (Nat.le_refl _) _⟩
  | succ m ih =>
    intro n hn hm w
    by_cases hn2 : n < 128
    · have HY : Hid (bvs [UInt8.ofNat n] = [.int .u8 (n : Int)]) := byte_last n hn2
      have hcv := string_of_RB (RB.new w [UInt8.ofNat n] #[.int .u8 (n : Int)] 5 HY.out.symm (by simp))
      have HO : Hid (oneP n = [UInt8.ofNat n]) := one_lt hn2
      rw [show ([UInt8.ofNat n] : List UInt8).length = 1 from rfl] at hcv
      clear ih
      go_enter Tryz.func113, Tryz.ntmps113
      go_wp2_with fail
      go_ret
      rw [HO.out]
      exact ⟨rfl, (Below.refl _ _).alloc (Nat.le_refl _) _⟩
    · have hq : n / 128 < 128 ^ (m + 1) := by
        rw [Nat.div_lt_iff_lt_mul (by decide), ← Nat.pow_succ]
        exact hn
      have HI : Hid (∀ w : World, Calls Tryz.prog 113 #[.int .i64 ((n / 128 : Nat) : Int)] w fun e w' => e = .returned (.string ⟨(oneP (n / 128)).toArray⟩) ∧ Below w.heap.size w w') := fun w => ih (n / 128) hq (by omega) w
      have hpow : n < 9223372036854775808 := by
        have h1 : n < 128 ^ (m + 1 + 1) := hn
        have h2 : 128 ^ (m + 1 + 1) ≤ 128 ^ 8 := Nat.pow_le_pow_right (by decide) (by omega)
        have h3 : (128 : Nat) ^ 8 ≤ 9223372036854775808 := by decide
        omega
      have HY : Hid (bvs [UInt8.ofNat (128 + n % 128)] = [.int .u8 (128 + (n : Int) % 128)]) := byte_more2 n hn2
      have HO : Hid (oneP n = [UInt8.ofNat (128 + n % 128)] ++ oneP (n / 128)) := one_ge hn2
      have HI2 : Hid (∀ w : World, Calls Tryz.prog 113 #[.int .i64 ((n : Int) / 128)] w fun e w' => e = .returned (.string ⟨(oneP (n / 128)).toArray⟩) ∧ Below w.heap.size w w') := HI.out
      have hm1 : (n : Int).tmod 128 = (n : Int) % 128 := Int.tmod_eq_emod_of_nonneg (by omega)
      have hm2 : IntKind.i64.wrap (128 + (n : Int) % 128) = 128 + (n : Int) % 128 := by rw [IntKind.wrap_i64]; omega
      have hm3 : IntKind.u8.wrap (128 + (n : Int) % 128) = 128 + (n : Int) % 128 := by simp [IntKind.wrap, IntKind.signed, IntKind.bits]; omega
      have hm4 : IntKind.i64.wrap ((n : Int) / 128) = (n : Int) / 128 := by rw [IntKind.wrap_i64]; omega
      have hcv := fun wx => str_new wx (UInt8.ofNat (128 + n % 128)) (128 + (n : Int) % 128) HY.out
      have hcvd := fun wx => str_newd wx (UInt8.ofNat (128 + n % 128)) (128 + (n : Int) % 128) HY.out
      have hcat : (⟨[UInt8.ofNat (128 + n % 128)].toArray⟩ : ByteArray) ++ ⟨(oneP (n / 128)).toArray⟩ = ⟨([UInt8.ofNat (128 + n % 128)] ++ oneP (n / 128)).toArray⟩ := bcat _ _
      have hlen : (oneP (n / 128)).length ≤ 9 := by
        have := one_len_le 8 (n / 128) (by have : (9223372036854775808 : Nat) = 128 ^ 9 := by decide
                                           omega)
        omega
      clear ih hq HI
      generalize oneP (n / 128) = r at *
      generalize UInt8.ofNat (128 + n % 128) = c at *
      go_enter Tryz.func113, Tryz.ntmps113
      go_wp2_with fail
      go_region_held_law (fun _ => True) (first | trivial) (first
        | (go_simp; go_at_call 113; refine Calls.mono (HI2.out _) ?_; rintro e w2 ⟨rfl, hb2⟩; try (have hcv2 := str_lated w w2 c _ HY.out hb2)))
      all_goals
        go_wp2_with fail
        go_ret
        rw [HO.out]
        refine ⟨rfl, ?_⟩
        first
          | exact (((Below.refl _ w).alloc (Nat.le_refl _) _).drew).trans (hb2.mono (by simp [World.drew]))
          | exact ((((Below.refl _ w).drew).trans hb2).alloc hb2.size _)

theorem one_any (n : Nat) (hn : n ≤ 1099511627776) (w : World) :
    Calls Tryz.prog 113 #[.int .i64 n] w fun e w' => e = .returned (.string ⟨(oneP n).toArray⟩) ∧ Below w.heap.size w w' := one_any0 5 n (by omega) (by omega) w

theorem is_yes (n : Int) (h : 0 ≤ n ∧ n ≤ 1099511627776) (w : World) : Calls Tryz.prog 115 #[.int .i64 n] w fun e w' => e = .returned (.bool true) ∧ w' = w := by
  have := is_any n w
  rw [show isN n = true from decide_eq_true h] at this
  exact this

theorem is_no (n : Int) (h : ¬ (0 ≤ n ∧ n ≤ 1099511627776)) (w : World) : Calls Tryz.prog 115 #[.int .i64 n] w fun e w' => e = .returned (.bool false) ∧ w' = w := by
  have := is_any n w
  rw [show isN n = false from decide_eq_false h] at this
  exact this


set_option maxRecDepth 1000000 in
set_option maxHeartbeats 1000000 in
theorem rputs_any (a : List UInt8) (y : Value) (l : List Int) (w : World) (hy : RI w y l) (ha : a.length ≤ 90000) (hl : l.length ≤ 1000000) :
    Calls Tryz.prog 126 #[.string ⟨a.toArray⟩, y] w fun e w' => e = .returned (.tuple #[.string ⟨(putsR a l).toArray⟩, .int .i64 (putsE l : Nat)]) ∧ Below w.heap.size w w' := by
  obtain ⟨ya, yc, rfl, _, _, hyc⟩ := hy
  have HYC : Hid _ := hyc
  clear hyc
  obtain ⟨R, HR⟩ : ∃ R, Hid (R = putsR a l) := ⟨_, rfl⟩
  obtain ⟨E, HE⟩ : ∃ E, Hid (E = putsE l) := ⟨_, rfl⟩
  rw [← HR.out, ← HE.out]
  by_cases h255 : l.length ≤ 255
  · have HO : Hid (∀ wx : World, _) := fun wx => one_any l.length (by omega) wx
    have h6 := one_six (n := l.length) (by omega)
    have hcat : (⟨a.toArray⟩ : ByteArray) ++ ⟨(oneP l.length).toArray⟩ = ⟨(a ++ oneP l.length).toArray⟩ := bcat _ _
    obtain ⟨C, HC⟩ : ∃ C, Hid (C = oneP l.length) := ⟨_, rfl⟩
    rw [← HC.out] at HO h6 hcat
    go_enter Tryz.func126, Tryz.ntmps126
    go_wp2_with fail
    refine Calls.mono (HO.out _) ?_
    rintro e w1 ⟨rfl, hb1⟩
    have HB1 : Hid (Below w.heap.size w w1) := hb1
    clear hb1
    go_wp2_with fail
    clear hcat HO
    go_loopw [6, 7] (fun sv iv wr => ∃ (k : Nat) (S : List UInt8), k ≤ l.length ∧ iv = .int .i64 k ∧ sv = .string ⟨S.toArray⟩ ∧ S.length ≤ 90006 + 6 * k ∧ Hid (S = a ++ C ++ manyP (natL (l.take k))) ∧ Hid (∀ i, i < k → isN (l.getD i 0) = true) ∧ Hid (Below w.heap.size w wr)) (fun _ iv _ => l.length - (intOf iv).toNat)
    case atStart => exact ⟨0, a ++ C, Nat.zero_le _, rfl, rfl, by rw [List.length_append]; omega, by show _ = _; simp [natL, manyP], fun i hi => by omega, HB1⟩
    case round =>
      obtain ⟨k, S, hk, rfl, rfl, hS, HS, HA, HB⟩ := hrel
      rename World => wr
      by_cases hlt : k < l.length
      · obtain ⟨b1, o1, rfl, hc1⟩ := HYC.out k hlt
        have hc2 := cell_later HB.out hc1
        have HMT : Hid (manyP (natL (l.take (k + 1))) = manyP (natL (l.take k)) ++ oneP (l.getD k 0).toNat) := many_take hlt
        obtain ⟨z, HZ⟩ : ∃ z, Hid (z = l.getD k 0) := ⟨_, rfl⟩
        rw [← HZ.out] at hc2 HMT
        clear hc1
        by_cases hn : 0 ≤ z ∧ z ≤ 1099511627776
        · have HA2 : Hid (∀ i, i < k + 1 → isN (l.getD i 0) = true) := by
            show ∀ i, i < k + 1 → _
            intro i hi
            by_cases hik : i = k
            · subst hik; rw [← HZ.out]; exact decide_eq_true hn
            · exact HA.out i (by omega)
          clear HZ HA
          obtain ⟨q, rfl⟩ : ∃ q : Nat, z = (q : Int) := ⟨z.toNat, by omega⟩
          rw [Int.toNat_natCast] at HMT
          have HO : Hid (∀ wx : World, _) := fun wx => one_any q (by omega) wx
          have h6q := one_six (n := q) (by omega)
          have hcat : (⟨S.toArray⟩ : ByteArray) ++ ⟨(oneP q).toArray⟩ = ⟨(S ++ oneP q).toArray⟩ := bcat _ _
          have HS2 : Hid (S ++ oneP q = a ++ C ++ manyP (natL (l.take (k + 1)))) := by
            show _ = _
            rw [HMT.out, HS.out, List.append_assoc (a ++ C)]
          have hS2 : (S ++ oneP q).length ≤ 90006 + 6 * (k + 1) := by rw [List.length_append]; omega
          generalize oneP q = r at *
          go_wp2_with fail
          refine Calls.mono (is_yes _ hn _) ?_
          rintro e w3 ⟨rfl, rfl⟩
          go_wp2_with fail
          refine Calls.mono (HO.out _) ?_
          rintro e w4 ⟨rfl, hb4⟩
          have HB4 : Hid (Below w.heap.size w w4) := HB.out.trans (hb4.mono HB.out.size)
          clear hb4 HO
          go_wp2_with fail
          go_roundw
          case rel => exact ⟨k + 1, S ++ r, by omega, by go_num, rfl, hS2, HS2, HA2, HB4⟩
          case measure => simp [intOf]; omega
        · have hall : allN l = false := by
            unfold allN
            rw [List.all_eq_false]
            refine ⟨l[k], List.getElem_mem hlt, ?_⟩
            have e : z = l[k] := by rw [HZ.out]; simp [hlt]
            rw [← e, show isN z = false from decide_eq_false hn]
            decide
          have HR2 : Hid (R = []) := by show _ = _; rw [HR.out]; unfold putsR; rw [if_pos h255, if_neg (by rw [hall]; decide)]
          have HE2 : Hid (E = 2) := by show _ = _; rw [HE.out]; unfold putsE; rw [if_pos h255, if_neg (by rw [hall]; decide)]
          clear HR HE hall
          go_wp2_with fail
          refine Calls.mono (is_no _ hn _) ?_
          rintro e w3 ⟨rfl, rfl⟩
          go_wp2_with fail
          go_ret2
          rw [HR2.out, HE2.out]
          exact ⟨rfl, HB.out⟩
      · have hkk : k = l.length := by omega
        have hall : allN l = true := by
          unfold allN
          rw [List.all_eq_true]
          intro z hz
          obtain ⟨i, hi, rfl⟩ := List.mem_iff_getElem.1 hz
          have := HA.out i (by omega)
          simpa [hi] using this
        have HR2 : Hid (R = S) := by
          show _ = _
          rw [HR.out]
          unfold putsR
          rw [if_pos h255, if_pos hall, HS.out, hkk, List.take_length, HC.out]
          unfold putsP
          rw [natL_len, List.append_assoc]
        have HE2 : Hid (E = 0) := by show _ = _; rw [HE.out]; unfold putsE; rw [if_pos h255, if_pos hall]
        clear HR HE hall HS HA hkk
        go_wp2_with fail
        go_ret2
        rw [HR2.out, HE2.out]
        exact ⟨rfl, HB.out⟩
  · have HR2 : Hid (R = []) := by show _ = _; rw [HR.out]; unfold putsR; rw [if_neg h255]
    have HE2 : Hid (E = 5) := by show _ = _; rw [HE.out]; unfold putsE; rw [if_neg h255]
    clear HR HE
    go_enter Tryz.func126, Tryz.ntmps126
    go_wp2_with fail
    go_ret2
    rw [HR2.out, HE2.out]
    exact ⟨rfl, Below.refl _ _⟩
end Go.Proofs.YtijkgdbabikojaaGreat

