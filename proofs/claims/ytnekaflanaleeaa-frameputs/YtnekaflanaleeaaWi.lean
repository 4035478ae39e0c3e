/- The walk over the document's Take where a whole frame stands. -/
import Derived.Test.YtnekaflanaleeaaWh
namespace Go.Proofs.Ytnekaflanaleeaa
open Go.RowKit
set_option linter.unusedVariables false

theorem list_neq (a b : List UInt8) (wx : World) : (binOp .neq 9 (.string ⟨a.toArray⟩) (.string ⟨b.toArray⟩)).run Try.prog wx = .ok (.bool (!(a == b))) wx := by
  rw [binOp_string_neq]
  have h : ∀ c : List UInt8, (⟨c.toArray⟩ : ByteArray).toList = c := fun c => by rw [ByteArray.toList_eq]
  rw [h, h]
  rfl

theorem list_eql (a b : List UInt8) (wx : World) : (binOp .eql 9 (.string ⟨a.toArray⟩) (.string ⟨b.toArray⟩)).run Try.prog wx = .ok (.bool (a == b)) wx := by
  rw [binOp_string_eql]
  have h : ∀ c : List UInt8, (⟨c.toArray⟩ : ByteArray).toList = c := fun c => by rw [ByteArray.toList_eq]
  rw [h, h]
  rfl

set_option maxRecDepth 1000000 in
set_option maxHeartbeats 1000000 in
theorem rtake_full (l : List UInt8) (p : Nat) (w : World) (hp : p ≤ l.length) (hl : l.length ≤ 100000) (he : (measureP (l.drop p)).2 = 0) :
    Calls Try.prog 14 #[.string ⟨l.toArray⟩, .int .i64 p] w fun e w' => Below w.heap.size w w' ∧ e = .returned (if openP ((l.drop p).take (measureP (l.drop p)).1) then .tuple #[.string ⟨(((l.drop p).drop 2).take ((measureP (l.drop p)).1 - 6)).toArray⟩, .int .i64 ((p + (measureP (l.drop p)).1 : Nat) : Int), .int .i64 0] else .tuple #[.string ⟨#[]⟩, .int .i64 0, .int .i64 12]) := by
  have hS := str_from l p hp
  have hdl : (l.drop p).length ≤ 100000 := by rw [List.length_drop]; omega
  obtain ⟨m1, m2, m3⟩ := measure_ok he
  have HM := measure_two (l.drop p) (by omega)
  generalize l.drop p = d at *
  have hI0 := str_at d 0 0 rfl (by omega)
  have hI1 := str_at d 1 1 rfl (by omega)
  have hn : num2 d = 256 * (d.getD 0 0).toNat + (d.getD 1 0).toNat := rfl
  have hy0 := byte_lt (d.getD 0 0)
  have hy1 := byte_lt (d.getD 1 0)
  obtain ⟨q, HQ⟩ : ∃ q, Hid (q = num2 d) := ⟨_, rfl⟩
  have hq : (measureP d).1 = q + 6 ∧ q ≤ 1024 ∧ q + 6 ≤ d.length := by
    rw [HQ.out]
    rw [HM] at he ⊢
    by_cases h3 : 1024 < num2 d
    · rw [if_pos h3] at he; simp at he
    · rw [if_neg h3] at he ⊢
      by_cases h4 : d.length < num2 d + 6
      · rw [if_pos h4] at he; simp at he
      · rw [if_neg h4]
        exact ⟨rfl, by omega, by omega⟩
  obtain ⟨hq1, hq2, hq3⟩ := hq
  rw [hq1, show q + 6 - 6 = q by omega]
  have hok := frame_is d q HQ.out.symm hq3
  have hbd : (d.take (q + 2)).drop 2 = (d.drop 2).take q := by rw [List.drop_take, show q + 2 - 2 = q by omega]
  rw [hbd] at hok
  have hM1 := str_mid d 2 (q + 2) 2 ((q : Int) + 2) rfl (by omega) (by omega) (by omega)
  have hT1 := str_to d (q + 6) ((q : Int) + 6) (by omega) (by omega)
  rw [hbd] at hM1
  have hbl : ((d.drop 2).take q).length ≤ 1024 := by rw [List.length_take]; omega
  have HFR : Hid (∀ wx, Calls Try.prog 21 #[.string ⟨((d.drop 2).take q).toArray⟩] wx fun e w' => e = .returned (.string ⟨(frameP ((d.drop 2).take q)).toArray⟩) ∧ Below wx.heap.size wx w') := fun wx => rframe_any _ wx hbl
  have hn' : 256 * ((d.getD 0 0).toNat : Int) + ((d.getD 1 0).toNat : Int) = (q : Int) := by rw [HQ.out, hn]; omega
  have HOK : Hid ((frameP ((d.drop 2).take q) == d.take (q + 6)) = openP (d.take (q + 6))) := hok
  clear hok hbd HM hn HQ m1 m2 m3 hq1 he
  generalize openP (d.take (q + 6)) = ok at *
  generalize frameP ((d.drop 2).take q) = fr at *
  generalize (d.drop 2).take q = bd at *
  generalize d.take (q + 6) = dt at *
  generalize (d.getD 0 0).toNat = y0 at *
  generalize (d.getD 1 0).toNat = y1 at *
  go_enter Try.func14, Try.ntmps14
  go_wp2_with fail
  go_quiet (fail)
  have hb1 : Below w.heap.size w (w.drewN nq) := below_drewN (Below.refl _ _) _
  generalize w.drewN nq = w1 at *
  go_wp2_with fail
  have HS0 : Hid (Below w.heap.size w w1.drew) := hb1.drew
  have HK : Hid (∀ w2 w3 : World, Below w.heap.size w w2 → Below w2.heap.size w2 w3 → Below w.heap.size w w3) := fun w2 w3 h1 h2 => h1.trans (h2.mono h1.size)
  have hq4 : (q : Int) + 6 ≤ ((⟨d.toArray⟩ : ByteArray).size : Int) := by rw [bsize]; omega
  have hq5 : 0 ≤ (q : Int) + 6 := by omega
  have hq6 : (q : Int) + 6 ≤ (d.length : Int) := by omega
  have hwq : IntKind.i64.wrap ((q : Int) + 6) = (q : Int) + 6 := by rw [IntKind.wrap_i64]; omega
  clear hb1
  go_region_with (first | (go_at_call 21; refine Calls.mono (HFR.out _) ?_; rintro e w4 ⟨rfl, hb4⟩))
  all_goals
    have HB4 : Hid (Below w.heap.size w w4) := HK.out _ _ HS0.out hb4
    clear hb4 HK HS0 HFR
    rw [HOK.out]
    clear HOK
    cases ok with
    | false =>
      go_wp2_with fail
      go_ret3
      exact ⟨HB4.out, rfl⟩
    | true =>
      go_wp2_with fail
      go_ret3
      exact ⟨HB4.out, by go_num⟩
end Go.Proofs.Ytnekaflanaleeaa
