/- The walk over Make. -/
import Derived.Test.YtfemfekhpfkafaaDoorOf
namespace Go.Proofs.YtfemfekhpfkafaaDoor.Or
open Go.RowKit Go.Proofs.YtfemfekhpfkafaaDoor
set_option maxRecDepth 1000000
set_option linter.unusedVariables false

theorem tl_congr (f h : Nat → Nat) (n : Nat) (e : ∀ i, i < n → f i = h i) : tl f n = tl h n := by
  induction n with
  | zero => rfl
  | succ n ih =>
    unfold tl
    rw [e n (by omega), ih (fun i hi => e i (by omega))]

set_option maxHeartbeats 1000000 in
theorem make_any (F S : List Int) (fv sv : Value) (w : World) (hf : RI w fv F) (hs : RI w sv S) (hfl : F.length ≤ 1000000) (hsl : S.length ≤ 1000000) :
    Calls Tryd.prog 16 #[fv, sv] w (MakeC w F S) := by
  obtain ⟨a, cap, rfl, hc, _, hr⟩ := hs
  obtain ⟨fa, fcap, rfl, hfc, _, hfr⟩ := hf
  have HR : Hid _ := hr
  have HFR : Hid _ := hfr
  obtain ⟨n, HN⟩ : ∃ n, Hid (S.length = n) := ⟨_, rfl⟩
  obtain ⟨m, HM⟩ : ∃ n, Hid (F.length = n) := ⟨_, rfl⟩
  rw [HN.out] at hsl hc ⊢
  rw [HM.out] at hfl hfc ⊢
  clear hr hfr
  have HBad : Hid (∀ w', okM F S = false → Below w.heap.size w w' → MakeC w F S (.returned (.tuple #[.slice none 0 0, .int .i64 2])) w') :=
    fun w' h hb => ⟨hb, by rw [if_neg (by rw [h]; exact Bool.noConfusion)]⟩
  by_cases h64 : n ≤ 64
  · have HZ : Hid (BK (w.alloc (.cells (rowF (f1 S 0)) 44)) w.heap.size (f1 S 0)) := row_new w _ 44
    rw [zero_row] at HZ
    have HB0 : Hid (∀ cs, Below w.heap.size w (w.alloc (.cells cs 44))) := fun cs => (Below.refl _ _).alloc (Nat.le_refl _) _
    go_enter Tryd.func16, Tryd.ntmps16
    go_wp2_with fail
    go_loopw [16] (fun iv wr => ∃ (k : Nat), k ≤ n ∧ iv = .int .i64 k ∧ Hid (∀ j, j < k → 0 ≤ S.getD j 0 ∧ S.getD j 0 ≤ 3) ∧ Hid (BK wr w.heap.size (f1 S k)) ∧ Hid (Below w.heap.size w wr)) (fun iv _ => n - (intOf iv).toNat)
    case atStart => exact ⟨0, Nat.zero_le _, rfl, fun j hj => by omega, HZ, HB0.out _⟩
    case round =>
      obtain ⟨k, hk, rfl, HX, HK, HB⟩ := hrel
      rename World => w1
      clear HZ HB0
      by_cases hlt : k < n
      · obtain ⟨b, off, rfl, c0⟩ := HR.out k (by rw [HN.out]; exact hlt)
        have d0 := cell_later HB.out c0
        obtain ⟨y, HY⟩ : ∃ y, Hid (y = S.getD k 0) := ⟨_, rfl⟩
        rw [← HY.out] at d0
        have hki : (k : Int) < (n : Int) := by omega
        clear c0
        by_cases hy : 0 ≤ y ∧ y ≤ 3
        · obtain ⟨hy0, hy3⟩ := hy
          have hm : IntKind.u8.wrap y = y := by simp [IntKind.wrap, IntKind.signed, IntKind.bits]; omega
          have hfz := HK.out.froz k
          have hcl := HK.out.get k (by omega)
          have HX2 : Hid (∀ j, j < k + 1 → 0 ≤ S.getD j 0 ∧ S.getD j 0 ≤ 3) := by
            show ∀ j, _
            intro j hj
            by_cases hjk : j = k
            · subst hjk; rw [← HY.out]; exact ⟨hy0, hy3⟩
            · exact HX.out j (by omega)
          obtain ⟨z, rfl⟩ : ∃ z : Nat, y = (z : Int) := ⟨y.toNat, by omega⟩
          have HK2 : Hid (BK (w1.setCell ⟨w.heap.size, k, none⟩ (.int .u8 (z : Nat))) w.heap.size (f1 S (k + 1))) := by
            have := HK.out.set k z (by omega)
            have e : z = (S.getD k 0).toNat := by have := HY.out; omega
            rw [e, f1_succ, ← e] at this
            exact this
          have HB2 : Hid (Below w.heap.size w (w1.setCell ⟨w.heap.size, k, none⟩ (.int .u8 (z : Nat)))) := HB.out.setCell (Nat.le_refl _) _
          have hk64 : (k : Int) < 64 := by omega
          clear HY HX
          go_wp2_with fail
          exact ⟨⟨k + 1, by omega, by go_num, HX2, HK2, HB2⟩, by simp [intOf]; omega⟩
        · have HF : Hid (okM F S = false) := ok_bad_slip (k := k) (by rw [HN.out]; exact hlt) (by rw [← HY.out]; exact hy)
          clear HY HX HK
          by_cases hy0 : 0 ≤ y
          · have hy3 : 3 < y := by omega
            go_wp2_with fail
            go_ret2
            exact HBad.out _ HF.out HB.out
          · go_wp2_with fail
            go_ret2
            exact HBad.out _ HF.out HB.out
      · have hkn : k = n := by omega
        subst hkn
        have HX9 : Hid _ := HX
        have HK0 : Hid (BK w1 w.heap.size (f2 F S 0)) := by rw [← f1_end, HN.out]; exact HK.out
        have HB1 : Hid _ := HB
        clear HX HK HB
        go_wp2_with fail
        go_loopw [34] (fun iv wr => ∃ (k : Nat), k ≤ m ∧ iv = .int .i64 k ∧ Hid (∀ j, j < k → 0 ≤ F.getD j 0 ∧ F.getD j 0 < 64) ∧ Hid (BK wr w.heap.size (f2 F S k)) ∧ Hid (Below w.heap.size w wr)) (fun iv _ => m - (intOf iv).toNat)
        case atStart => exact ⟨0, Nat.zero_le _, rfl, fun j hj => by omega, HK0.out, HB1.out⟩
        case round =>
          obtain ⟨q, hq, rfl, HX, HK, HB⟩ := hrel
          rename World => w2
          clear HK0 HB1
          have HS4 : Hid (∀ j : Nat, (S.getD j 0).toNat < 4) := by
            show ∀ j : Nat, _
            intro j
            by_cases hj : j < k
            · have := HX9.out j hj; omega
            · have : S.getD j 0 = 0 := by simp [show S.length ≤ j by rw [HN.out]; omega]
              rw [this]; decide
          by_cases hlt : q < m
          · obtain ⟨b, off, rfl, c0⟩ := HFR.out q (by rw [HM.out]; exact hlt)
            have d0 := cell_later HB.out c0
            obtain ⟨y, HY⟩ : ∃ y, Hid (y = F.getD q 0) := ⟨_, rfl⟩
            rw [← HY.out] at d0
            have hki : (q : Int) < (m : Int) := by omega
            clear c0
            by_cases hy : 0 ≤ y ∧ y < 64
            · obtain ⟨hy0, hy3⟩ := hy
              have HX2 : Hid (∀ j, j < q + 1 → 0 ≤ F.getD j 0 ∧ F.getD j 0 < 64) := by
                show ∀ j, _
                intro j hj
                by_cases hjk : j = q
                · subst hjk; rw [← HY.out]; exact ⟨hy0, hy3⟩
                · exact HX.out j (by omega)
              obtain ⟨z, rfl⟩ : ∃ z : Nat, y = (z : Int) := ⟨y.toNat, by omega⟩
              have hz : z < 64 := by omega
              have hfz := HK.out.froz z
              have hcl := HK.out.get z hz
              obtain ⟨x, HXX⟩ : ∃ x, Hid (x = f2 F S q z) := ⟨_, rfl⟩
              have hx : x < 8 := by rw [HXX.out]; exact f2_lt F S q z (HS4.out z)
              have hor : bits .or .u8 (x : Int) 4 = ((x ||| 4 : Nat) : Int) := Go.u8_or_nat x 4 (by omega) (by omega)
              rw [← HXX.out] at hcl
              have HK2 : Hid (BK (w2.setCell ⟨w.heap.size, z, none⟩ (.int .u8 ((x ||| 4 : Nat) : Int))) w.heap.size (f2 F S (q + 1))) := by
                have := HK.out.set z (x ||| 4) hz
                rw [HXX.out, f2_succ F S q z (by rw [HM.out]; exact hlt) HY.out.symm (HS4.out z), ← HXX.out] at this
                exact this
              have HB2 : Hid (Below w.heap.size w (w2.setCell ⟨w.heap.size, z, none⟩ (.int .u8 ((x ||| 4 : Nat) : Int)))) := HB.out.setCell (Nat.le_refl _) _
              clear HY HX HXX
              go_wp2_with fail
              exact ⟨⟨q + 1, by omega, by go_num, HX2, HK2, HB2⟩, by simp [intOf]; omega⟩
            · have HF : Hid (okM F S = false) := ok_bad_fail (k := q) (by rw [HM.out]; exact hlt) (by rw [← HY.out]; exact hy)
              clear HY HX HK
              by_cases hy0 : 0 ≤ y
              · have hy3 : 64 ≤ y := by omega
                go_wp2_with fail
                go_ret2
                exact HBad.out _ HF.out HB.out
              · go_wp2_with fail
                go_ret2
                exact HBad.out _ HF.out HB.out
          · have hkn : q = m := by omega
            subst hkn
            have HOK : Hid (okM F S = true) := ok_all (by rw [HN.out]; exact h64) (by rw [HN.out]; exact HX9.out) (by rw [HM.out]; exact HX.out)
            have HK1 : Hid (BK w2 w.heap.size (bt F S)) := by rw [← f2_end, HM.out]; exact HK.out
            have HR1 : Hid (RB w2 (.slice (some ⟨w.heap.size, 0, none⟩) 64 64) (bytesL (bt F S) 64)) := HK1.out.rb (fun i => Nat.lt_trans (bt_lt HOK.out i) (by decide))
            have HT : Hid _ := trim_any ⟨w.heap.size, 0, none⟩ 64 64 _ w2 HR1.out (by omega)
            have HTL : Hid (tl (fL (bytesL (bt F S) 64)) 64 = tl (bt F S) 64) := tl_congr _ _ 64 (fun i hi => by
              unfold fL
              rw [bytesL_at _ _ _ hi]
              have := bt_lt HOK.out i
              simp
              omega)
            rw [HTL.out] at HT
            have HR3 : Hid (RB w2 (.slice (some ⟨w.heap.size, 0, none⟩) (tl (bt F S) 64) 64) (mk F S)) := by
              have := RB.pre HR1.out (tl (bt F S) 64) (tl_le _ _)
              rw [bytesL_take _ _ _ (tl_le _ _)] at this
              exact this
            have HL : Hid ((mk F S).length = tl (bt F S) 64) := bytesL_len _ _
            have hsl := fun wx => all64 w.heap.size wx
            obtain ⟨t, HTT⟩ : ∃ t, Hid (tl (bt F S) 64 = t) := ⟨_, rfl⟩
            have ht : t ≤ 64 := by rw [← HTT.out]; exact tl_le _ _
            rw [HTT.out] at HT HR3 HL
            have HC : Hid _ := clone_any ⟨w.heap.size, 0, none⟩ t 64 (mk F S) w2 HR3.out (by omega)
            clear HX9 HS4 HX HK HK1 HR1 HTL HR3 HTT
            go_wp2_with fail
            refine Calls.mono HT.out ?_
            rintro e w3 ⟨rfl, rfl⟩
            go_wp2_with fail
            refine Calls.mono HC.out ?_
            rintro e w4 ⟨g, c, rfl, ho, hb⟩
            have HO : Hid _ := ho.rb.2
            have HBE : Hid (Below w.heap.size w w4) := HB.out.trans (hb.mono HB.out.size)
            clear ho hb HC HT
            go_wp2_with fail
            go_ret2
            unfold MakeC
            rw [if_pos HOK.out]
            exact ⟨HBE.out, g, c, by rw [HL.out]; rfl, by rw [HL.out]; exact HO.out⟩
  · have HF : Hid (okM F S = false) := by
      cases hb : okM F S with
      | false => rfl
      | true => exact absurd (okM_len hb) (by rw [HN.out]; exact h64)
    go_enter Tryd.func16, Tryd.ntmps16
    go_wp2_with fail
    go_ret2
    exact HBad.out _ HF.out (Below.refl _ _)
end Go.Proofs.YtfemfekhpfkafaaDoor.Or
