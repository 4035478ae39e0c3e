/- The walks over what a script says: at, Fails, Slips; the document's. -/
import Derived.Test.YtfemfekhpfkafaaDoorOa
import Derived.Test.YtfemfekhpfkafaaDoorWa
import Derived.Test.YtfemfekhpfkafaaDoorGt
import Derived.Laws.BitsAllLaws
namespace Go.Proofs.YtfemfekhpfkafaaDoor.Or
open Go.RowKit Go.Proofs.YtfemfekhpfkafaaDoor
set_option maxRecDepth 1000000
set_option linter.unusedVariables false

/-- Bytes read in every world of the same memory. -/
theorem RB.heap {w wx : World} {v : Value} {l : List UInt8} (h : RB w v l) (e : wx.heap = w.heap) : RB wx v l := by
  obtain ⟨a, cap, hv, h1, h2, h3, hc⟩ := h
  refine ⟨a, cap, hv, h1, h2, h3, fun i hi => ?_⟩
  obtain ⟨b, off, ha, hcell⟩ := hc i hi
  refine ⟨b, off, ha, ?_⟩
  rw [← hcell]
  unfold World.cell?
  rw [e]

theorem at_any (s : List UInt8) (v : Value) (i : Int) (w : World) (hr : RB w v s) (hl : s.length ≤ 1000000) :
    Calls Tryd.prog 19 #[v, .int .i64 i] w fun e w' => e = .returned (.int .u8 (atP s i : Nat)) ∧ w' = w := by
  obtain ⟨a, cap, rfl, h1, h2, h3, hc⟩ := hr
  obtain ⟨q, HQ⟩ : ∃ q : Nat, Hid (q = atP s i) := ⟨_, rfl⟩
  rw [← HQ.out]
  obtain ⟨n, HN⟩ : ∃ n, Hid (s.length = n) := ⟨_, rfl⟩
  rw [HN.out] at hl h1 ⊢
  by_cases g1 : i < 0
  · have HD : Hid (q = 0) := HQ.out.trans (atP_out s i (.inl g1))
    clear HQ
    go_enter Tryd.func19, Tryd.ntmps19
    go_wp2_with fail
    go_ret
    exact ⟨by rw [HD.out]; rfl, rfl⟩
  · by_cases g2 : i < (n : Int)
    · obtain ⟨k, rfl⟩ : ∃ k : Nat, i = (k : Int) := ⟨i.toNat, by omega⟩
      obtain ⟨b, off, rfl, c0⟩ := hc k (by rw [HN.out]; omega)
      have HD : Hid (q = (s.getD k 0).toNat) := HQ.out.trans (atP_in s k)
      rw [← HD.out] at c0
      clear HQ hc
      go_enter Tryd.func19, Tryd.ntmps19
      go_wp2_with fail
      go_ret
      exact ⟨rfl, rfl⟩
    · have HD : Hid (q = 0) := HQ.out.trans (atP_out s i (.inr (by rw [HN.out]; omega)))
      clear HQ
      go_enter Tryd.func19, Tryd.ntmps19
      go_wp2_with fail
      go_ret
      exact ⟨by rw [HD.out]; rfl, rfl⟩

theorem fails_any (s : List UInt8) (v : Value) (i : Int) (w : World) (hr : RB w v s) (hl : s.length ≤ 1000000) :
    Calls Tryd.prog 10 #[v, .int .i64 i] w fun e w' => e = .returned (.bool (failsP s i)) ∧ w' = w := by
  have HA : Hid _ := at_any s v i w hr hl
  obtain ⟨q, HQ⟩ : ∃ q : Bool, Hid (q = failsP s i) := ⟨_, rfl⟩
  rw [← HQ.out]
  obtain ⟨x, HX⟩ : ∃ x : Nat, Hid (x = atP s i) := ⟨_, rfl⟩
  rw [← HX.out] at HA
  have hx : x < 256 := by rw [HX.out]; exact atP_lt s i
  have hb : bits .and .u8 (x : Int) 4 = ((x &&& 4 : Nat) : Int) := Go.u8_and_nat x 4 hx (by omega)
  have HD : Hid (q = decide ((x &&& 4) ≠ 0)) := by
    show q = _
    rw [HQ.out, failsP, ← HX.out, and4 x hx]
  have hF : (((x &&& 4 : Nat) : Int) != 0) = q := by
    rw [HD.out]
    by_cases h0 : (x &&& 4) = 0
    · rw [h0]; rfl
    · rw [decide_eq_true h0]
      simp only [bne_iff_ne, ne_eq]
      omega
  have HF : Hid _ := hF
  clear HQ HX hF
  go_enter Tryd.func10, Tryd.ntmps10
  go_wp2_with fail
  refine Calls.mono HA.out ?_
  rintro e w2 ⟨rfl, rfl⟩
  go_wp2_with fail
  go_ret
  exact ⟨ret_b HF.out, rfl⟩

theorem slips_any (s : List UInt8) (v : Value) (i : Int) (w : World) (hr : RB w v s) (hl : s.length ≤ 1000000) :
    Calls Tryd.prog 12 #[v, .int .i64 i] w fun e w' => e = .returned (.int .i64 (slipsP s i : Nat)) ∧ w' = w := by
  have HA : Hid _ := at_any s v i w hr hl
  obtain ⟨q, HQ⟩ : ∃ q : Nat, Hid (q = slipsP s i) := ⟨_, rfl⟩
  rw [← HQ.out]
  obtain ⟨x, HX⟩ : ∃ x : Nat, Hid (x = atP s i) := ⟨_, rfl⟩
  rw [← HX.out] at HA
  have hx : x < 256 := by rw [HX.out]; exact atP_lt s i
  have hq : q < 4 := by rw [HQ.out]; exact slipsP_lt s i
  have hb : bits .and .u8 (x : Int) 3 = (q : Int) := by
    rw [HQ.out, slipsP, ← HX.out, ← and3 x hx]
    exact Go.u8_and_nat x 3 hx (by omega)
  clear HQ HX
  go_enter Tryd.func12, Tryd.ntmps12
  go_wp2_with fail
  refine Calls.mono HA.out ?_
  rintro e w2 ⟨rfl, rfl⟩
  go_wp2_with fail
  go_ret
  exact ⟨rfl, rfl⟩

theorem rat_any (s : List UInt8) (i : Int) (w : World) (hl : s.length ≤ 1000000) :
    Calls Tryd.prog 20 #[.string ⟨s.toArray⟩, .int .i64 i] w fun e w' => e = .returned (.int .i64 (atP s i : Nat)) ∧ w' = w := by
  obtain ⟨q, HQ⟩ : ∃ q : Nat, Hid (q = atP s i) := ⟨_, rfl⟩
  rw [← HQ.out]
  obtain ⟨n, HN⟩ : ∃ n, Hid (s.length = n) := ⟨_, rfl⟩
  have hsz : ((⟨s.toArray⟩ : ByteArray)).size = n := by rw [bsize]; exact HN.out
  have hl2 : n ≤ 1000000 := by rw [← HN.out]; exact hl
  by_cases g1 : i < 0
  · have HD : Hid (q = 0) := HQ.out.trans (atP_out s i (.inl g1))
    clear HQ
    generalize (⟨s.toArray⟩ : ByteArray) = B at *
    go_enter Tryd.func20, Tryd.ntmps20
    go_wp2_with fail
    go_ret
    exact ⟨by rw [HD.out]; rfl, rfl⟩
  · by_cases g2 : i < (n : Int)
    · obtain ⟨k, rfl⟩ : ∃ k : Nat, i = (k : Int) := ⟨i.toNat, by omega⟩
      have hk : k < s.length := by rw [HN.out]; omega
      have HD : Hid (q = (s.getD k 0).toNat) := HQ.out.trans (atP_in s k)
      have hq : q < 256 := by rw [HD.out]; exact UInt8.toNat_lt _
      have hat := fun wx => str_at s k (k : Int) rfl hk wx
      rw [← HD.out] at hat
      clear HQ
      generalize (⟨s.toArray⟩ : ByteArray) = B at *
      go_enter Tryd.func20, Tryd.ntmps20
      go_wp2_with fail
      go_ret
      exact ⟨rfl, rfl⟩
    · have HD : Hid (q = 0) := HQ.out.trans (atP_out s i (.inr (by rw [HN.out]; omega)))
      clear HQ
      generalize (⟨s.toArray⟩ : ByteArray) = B at *
      go_enter Tryd.func20, Tryd.ntmps20
      go_wp2_with fail
      go_ret
      exact ⟨by rw [HD.out]; rfl, rfl⟩

theorem rfails_any (s : List UInt8) (i : Int) (w : World) (hl : s.length ≤ 1000000) :
    Calls Tryd.prog 11 #[.string ⟨s.toArray⟩, .int .i64 i] w fun e w' => e = .returned (.bool (failsP s i)) ∧ w' = w := by
  have HA : Hid _ := rat_any s i w hl
  obtain ⟨q, HQ⟩ : ∃ q : Bool, Hid (q = failsP s i) := ⟨_, rfl⟩
  rw [← HQ.out]
  obtain ⟨x, HX⟩ : ∃ x : Nat, Hid (x = atP s i) := ⟨_, rfl⟩
  rw [← HX.out] at HA
  have hx : x < 256 := by rw [HX.out]; exact atP_lt s i
  have HF : Hid ((((x : Int).tdiv 4).tmod 2 == 1) = q) := by
    show _ = q
    rw [HQ.out, failsP, ← HX.out, Int.tdiv_eq_ediv_of_nonneg (by omega), Int.tmod_eq_emod_of_nonneg (by omega)]
    by_cases h0 : x / 4 % 2 = 1
    · rw [decide_eq_true h0]
      simp only [beq_iff_eq]
      omega
    · rw [decide_eq_false h0]
      simp only [beq_eq_false_iff_ne, ne_eq]
      omega
  clear HQ HX
  generalize (⟨s.toArray⟩ : ByteArray) = B at *
  go_enter Tryd.func11, Tryd.ntmps11
  go_wp2_with fail
  refine Calls.mono HA.out ?_
  rintro e w2 ⟨rfl, rfl⟩
  go_wp2_with fail
  go_ret
  trace_state
  exact ⟨ret_b HF.out, rfl⟩

theorem rslips_any (s : List UInt8) (i : Int) (w : World) (hl : s.length ≤ 1000000) :
    Calls Tryd.prog 13 #[.string ⟨s.toArray⟩, .int .i64 i] w fun e w' => e = .returned (.int .i64 (slipsP s i : Nat)) ∧ w' = w := by
  have HA : Hid _ := rat_any s i w hl
  obtain ⟨q, HQ⟩ : ∃ q : Nat, Hid (q = slipsP s i) := ⟨_, rfl⟩
  rw [← HQ.out]
  obtain ⟨x, HX⟩ : ∃ x : Nat, Hid (x = atP s i) := ⟨_, rfl⟩
  rw [← HX.out] at HA
  have hx : x < 256 := by rw [HX.out]; exact atP_lt s i
  have hm : (x : Int).tmod 4 = (q : Int) := by
    rw [HQ.out, slipsP, ← HX.out, Int.tmod_eq_emod_of_nonneg (by omega)]
    omega
  clear HQ HX
  generalize (⟨s.toArray⟩ : ByteArray) = B at *
  go_enter Tryd.func13, Tryd.ntmps13
  go_wp2_with fail
  refine Calls.mono HA.out ?_
  rintro e w2 ⟨rfl, rfl⟩
  go_wp2_with fail
  go_ret
  exact ⟨rfl, rfl⟩
end Go.Proofs.YtfemfekhpfkafaaDoor.Or
