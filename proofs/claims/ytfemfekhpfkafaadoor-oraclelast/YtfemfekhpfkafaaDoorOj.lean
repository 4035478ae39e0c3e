/- The walk over OracleLast. -/
import Derived.Test.YtfemfekhpfkafaaDoorOi
namespace Go.Proofs.YtfemfekhpfkafaaDoor.Or
open Go.RowKit Go.Proofs.YtfemfekhpfkafaaDoor
set_option maxRecDepth 1000000
set_option linter.unusedVariables false

set_option maxHeartbeats 1000000 in
theorem last_walk (a : Option Addr) (len cap : Nat) (s : List UInt8) (i t : Int) (w : World) (hr : RB w (.slice a len cap) s) :
    Calls Tryd.prog 6 #[.slice a len cap, .int .i64 i, .int .i64 t] w fun e w' => e = .returned (.bool true) ∧ Below w.heap.size w w' := by
  have HL : Hid (∀ wx, Calls Tryd.prog 7 #[] wx fun e w' => e = .returned (.bool true) ∧ Below wx.heap.size wx w') := lives_any
  have hlen : len = s.length ∧ len ≤ cap ∧ cap ≤ maxLen := by
    obtain ⟨a', c', he, h1, h2, _, _⟩ := hr
    simp only [Value.slice.injEq] at he
    obtain ⟨rfl, rfl, rfl⟩ := he
    exact ⟨rfl, h1, h2⟩
  obtain ⟨he, hlc, hcm⟩ := hlen
  have hm : len ≤ 9223372036854775807 := by unfold maxLen at hcm; omega
  by_cases hbig : 1000 < len
  · have hbi : (1000 : Int) < (len : Int) := by omega
    clear he hr hcm
    go_enter Tryd.func6, Tryd.ntmps6
    go_wp2_with fail
    refine Calls.mono (HL.out _) ?_
    rintro e w2 ⟨rfl, hb2⟩
    go_wp2_with fail
    go_ret
    exact ⟨rfl, hb2⟩
  · have hbi : ¬ (1000 : Int) < (len : Int) := by omega
    have HS : Hid _ := slips_any s (.slice a len cap) i w hr (by omega)
    have HO : Hid _ := ok_any s (.slice a len cap) i true t w hr (by omega)
    have hq : slipsP s i < 4 := slipsP_lt s i
    have HD : Hid (okP s i true t = decide ((slipsP s i : Int) ≤ t)) := rfl
    rw [HD.out] at HO
    obtain ⟨q, HQ⟩ : ∃ q, Hid (slipsP s i = q) := ⟨_, rfl⟩
    rw [HQ.out] at HS HO hq
    unfold kV at HO
    clear he hr hcm HD HQ
    by_cases hqt : (q : Int) ≤ t
    · rw [decide_eq_true hqt] at HO
      go_enter Tryd.func6, Tryd.ntmps6
      go_wp2_with fail
      refine Calls.mono HS.out ?_
      rintro e w2 ⟨rfl, rfl⟩
      go_wp2_with fail
      refine Calls.mono HO.out ?_
      rintro e w3 ⟨rfl, hb3⟩
      have HB3 : Hid _ := hb3
      clear hb3
      go_wp2_with fail
      all_goals
        refine Calls.mono (HL.out _) ?_
        rintro e w4 ⟨rfl, hb4⟩
        have HB4 : Hid _ := HB3.out.trans (hb4.mono HB3.out.size)
        clear hb4
        go_wp2_with fail
        go_ret
        exact ⟨rfl, HB4.out⟩
    · rw [decide_eq_false hqt] at HO
      have h3 : t < 3 := by omega
      go_enter Tryd.func6, Tryd.ntmps6
      go_wp2_with fail
      refine Calls.mono HS.out ?_
      rintro e w2 ⟨rfl, rfl⟩
      go_wp2_with fail
      refine Calls.mono HO.out ?_
      rintro e w3 ⟨rfl, hb3⟩
      have HB3 : Hid _ := hb3
      clear hb3
      go_wp2_with fail
      all_goals
        refine Calls.mono (HL.out _) ?_
        rintro e w4 ⟨rfl, hb4⟩
        have HB4 : Hid _ := HB3.out.trans (hb4.mono HB3.out.size)
        clear hb4
        go_wp2_with fail
        go_ret
        exact ⟨ret_b (by simp [hqt]), HB4.out⟩
end Go.Proofs.YtfemfekhpfkafaaDoor.Or
