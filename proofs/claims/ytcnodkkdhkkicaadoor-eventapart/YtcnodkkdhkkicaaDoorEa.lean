/- The walks over sortOf, tryFits. -/
import Derived.Test.YtcnodkkdhkkicaaDoorPb
import Derived.Test.YtcnodkkdhkkicaaDoorPc
import Derived.Test.YtcnodkkdhkkicaaDoorSa
import Derived.BigQuiet
import Derived.Deep.QuietTactic
namespace Go.Proofs.YtcnodkkdhkkicaaDoor
open Go.RowKit
set_option linter.unusedVariables false

theorem bl_drawn {B : Nat} {w w' : World} (h : Below B w w') (n : Nat) : Below B w (w'.drewN n) := ⟨h.os, h.tape, h.output, h.size, h.block⟩
theorem bl_drawn1 {B : Nat} {w w' : World} (h : Below B w w') : Below B w w'.drew := ⟨h.os, h.tape, h.output, h.size, h.block⟩

/-- An event's sort. -/
def sortV (k : Int) : Value :=
  if 1 ≤ k ∧ k ≤ 3 then .iface 74 (.agg #[.string ⟨(wordP k).toArray⟩]) else if 4 ≤ k ∧ k ≤ 6 then .iface 70 (.agg #[.string ⟨(wordP k).toArray⟩]) else .iface 76 (.agg #[])

theorem sort_cases (k : Int) : k = 1 ∨ k = 2 ∨ k = 3 ∨ k = 4 ∨ k = 5 ∨ k = 6 ∨ (¬ k = 1 ∧ ¬ k = 2 ∧ ¬ k = 3 ∧ ¬ k = 4 ∧ ¬ k = 5 ∧ ¬ k = 6) := by omega

theorem sort_none {k : Int} (h : ¬ (1 ≤ k ∧ k ≤ 6)) : sortV k = .iface 76 (.agg #[]) := by
  unfold sortV
  rw [if_neg (by omega), if_neg (by omega)]

set_option maxRecDepth 1000000 in
set_option maxHeartbeats 1000000 in
theorem sortOf_any (k : Int) (w : World) : Calls Tryd.prog 26 #[.int .i64 k] w fun e w' => e = .returned (sortV k) ∧ w' = w := by
  rcases sort_cases k with rfl | rfl | rfl | rfl | rfl | rfl | h
  all_goals first
    | (go_enter Tryd.func26, Tryd.ntmps26
       go_wp2_with fail
       go_ret
       exact ⟨rfl, rfl⟩)
    | (have hs : Hid _ := sort_none (k := k) (by omega)
       obtain ⟨h1, h2, h3, h4, h5, h6⟩ := h
       have g1 : (k == 1) = false := by simpa using h1
       have g2 : (k == 2) = false := by simpa using h2
       have g3 : (k == 3) = false := by simpa using h3
       have g4 : (k == 4) = false := by simpa using h4
       have g5 : (k == 5) = false := by simpa using h5
       have g6 : (k == 6) = false := by simpa using h6
       go_enter Tryd.func26, Tryd.ntmps26
       go_wp2_with fail
       go_ret
       rw [hs.out]
       exact ⟨rfl, rfl⟩)

theorem as_same (t : TypeId) (v : Value) (ht : t = 70 ∨ t = 74) : ∀ w : World, (Instr.typeAssert (.iface t v) 52 t true).run Tryd.prog w = .ok (.tuple #[v, .bool true]) w := by
  rcases ht with rfl | rfl
  · intro w; kernel_rfl
  · intro w; kernel_rfl
theorem as_70_74 (v : Value) : ∀ w : World, (Instr.typeAssert (.iface 70 v) 52 74 true).run Tryd.prog w = .ok (.tuple #[.agg #[.string ⟨#[]⟩], .bool false]) w := by
  intro w; kernel_rfl
theorem as_74_70 (v : Value) : ∀ w : World, (Instr.typeAssert (.iface 74 v) 52 70 true).run Tryd.prog w = .ok (.tuple #[.agg #[.string ⟨#[]⟩], .bool false]) w := by
  intro w; kernel_rfl
theorem as_76_74 (v : Value) : ∀ w : World, (Instr.typeAssert (.iface 76 v) 52 74 true).run Tryd.prog w = .ok (.tuple #[.agg #[.string ⟨#[]⟩], .bool false]) w := by
  intro w; kernel_rfl
theorem as_76_70 (v : Value) : ∀ w : World, (Instr.typeAssert (.iface 76 v) 52 70 true).run Tryd.prog w = .ok (.tuple #[.agg #[.string ⟨#[]⟩], .bool false]) w := by
  intro w; kernel_rfl

/-- May an event of a kind have such a try? -/
def fits (k t : Int) : Bool := decide ((1 ≤ k ∧ k ≤ 3 ∧ t = 0) ∨ (4 ≤ k ∧ k ≤ 6 ∧ 0 ≤ t ∧ t ≤ 3))

set_option maxRecDepth 1000000 in
set_option maxHeartbeats 1000000 in
theorem tryFits_any (k t : Int) (w : World) : Calls Tryd.prog 25 #[sortV k, .int .i64 t] w fun e w' => e = .returned (.bool (fits k t)) ∧ w' = w := by
  unfold sortV
  by_cases h1 : 1 ≤ k ∧ k ≤ 3
  · rw [if_pos h1]
    have hf : Hid (fits k t = decide (t = 0)) := by
      show _ = _
      unfold fits
      exact decide_eq_decide.2 (by omega)
    have q1 := as_same 74 (.agg #[.string ⟨(wordP k).toArray⟩]) (.inr rfl)
    go_enter Tryd.func25, Tryd.ntmps25
    go_wp2_with fail
    go_ret
    exact ⟨by rw [hf.out]; by_cases h : t = 0 <;> simp [h], rfl⟩
  · rw [if_neg h1]
    by_cases h2 : 4 ≤ k ∧ k ≤ 6
    · rw [if_pos h2]
      have hf : Hid (fits k t = decide (0 ≤ t ∧ t ≤ 3)) := by
        show _ = _
        unfold fits
        exact decide_eq_decide.2 (by omega)
      clear h1 h2
      have q1 := as_same 70 (.agg #[.string ⟨(wordP k).toArray⟩]) (.inl rfl)
      have q2 := as_70_74 (.agg #[.string ⟨(wordP k).toArray⟩])
      by_cases h0 : 0 ≤ t
      · go_enter Tryd.func25, Tryd.ntmps25
        go_wp2_with fail
        go_ret
        exact ⟨by rw [hf.out]; simp [h0], rfl⟩
      · go_enter Tryd.func25, Tryd.ntmps25
        go_wp2_with fail
        go_ret
        exact ⟨by rw [hf.out]; simp; omega, rfl⟩
    · rw [if_neg h2]
      have hf : Hid (fits k t = false) := by
        show _ = _
        unfold fits
        exact decide_eq_false (by omega)
      clear h1 h2
      have q1 := as_76_70 (.agg #[])
      have q2 := as_76_74 (.agg #[])
      go_enter Tryd.func25, Tryd.ntmps25
      go_wp2_with fail
      go_ret
      exact ⟨by rw [hf.out]; rfl, rfl⟩

/-- An event in memory. -/
def EvV (e : Ev) (sv : Value) : Value := .agg #[.int .i64 e.k, .int .i64 e.i, .int .i64 e.t, sv]

theorem fits_ok {k i t : Int} : okH k i t = (decide (1 ≤ i ∧ i < 64) && fits k t) := by
  unfold okH fits
  rw [← Bool.decide_and]
  exact decide_eq_decide.2 (by omega)

set_option maxRecDepth 1000000 in
set_option maxHeartbeats 2000000 in
theorem check_ev (e : Ev) (sv : Value) (w : World) (hv : RI w sv e.s) (hn : e.s.length ≤ 1000000) :
    Calls Tryd.prog 10 #[EvV e sv] w fun x w' => x = .returned (.int .i64 (evE e : Nat)) ∧ Below w.heap.size w w' := by
  obtain ⟨k, i, t, s⟩ := e
  unfold EvV
  dsimp only at *
  have HC : Hid (∀ c : Int, ((chkE s : Nat) : Int) = c → ∀ wx : World, Below w.heap.size w wx → Calls Tryd.prog 27 #[sv] wx fun e w' => e = .returned (.int .i64 c) ∧ w' = wx) := by
    show ∀ c, _
    rintro c rfl wx hb
    exact check_any sv s wx (hv.later hb) hn
  obtain ⟨sa, sc, rfl, _, _, hrr⟩ := hv
  clear hrr
  have HB : Hid (Below w.heap.size w (w.alloc (.cells #[.int .i64 k, .int .i64 i, .int .i64 t, .slice sa s.length sc] 25))) := (Below.refl _ _).alloc (Nat.le_refl _) _
  have HS : Hid _ := sortOf_any k
  by_cases h1 : 1 ≤ i ∧ i < 64
  · by_cases h2 : fits k t = true
    · have HT : Hid _ := tryFits_any k t
      rw [h2] at HT
      obtain ⟨h11, h12⟩ := h1
      by_cases h3 : okS s = true
      · have HE : Hid (evE ⟨k, i, t, s⟩ = 0) := by
          show _ = _
          unfold evE okE
          dsimp only
          rw [fits_ok, h2, h3, decide_eq_true ⟨h11, h12⟩]
          rfl
        replace HC : Hid _ := HC.out 0 (by unfold chkE; rw [if_pos h3]; rfl)
        clear h2 h3 hn
        generalize sortV k = sk at *
        go_enter Tryd.func10, Tryd.ntmps10
        go_wp2_with fail
        go_quiet (first
          | (go_at_call 26; refine Calls.quiet_of_same (HS.out _))
          | (go_at_call 25; refine Calls.quiet_of_same (HT.out _))
          | (go_at_call 27; refine Calls.quiet_of_same (HC.out _ (by first | exact HB.out | exact bl_drawn1 HB.out | exact bl_drawn HB.out _))))
        go_wp2_with fail
        go_ret
        refine ⟨by rw [HE.out]; rfl, by first | exact HB.out | exact bl_drawn1 HB.out | exact bl_drawn HB.out _⟩
      · have HE : Hid (evE ⟨k, i, t, s⟩ = 2) := by
          show _ = _
          unfold evE okE
          dsimp only
          rw [show okS s = false by simpa using h3, Bool.and_false]
          rfl
        replace HC : Hid _ := HC.out 2 (by unfold chkE; rw [if_neg h3]; rfl)
        clear h2 h3 hn
        generalize sortV k = sk at *
        go_enter Tryd.func10, Tryd.ntmps10
        go_wp2_with fail
        go_quiet (first
          | (go_at_call 26; refine Calls.quiet_of_same (HS.out _))
          | (go_at_call 25; refine Calls.quiet_of_same (HT.out _))
          | (go_at_call 27; refine Calls.quiet_of_same (HC.out _ (by first | exact HB.out | exact bl_drawn1 HB.out | exact bl_drawn HB.out _))))
        go_wp2_with fail
        go_ret
        refine ⟨by rw [HE.out]; rfl, by first | exact HB.out | exact bl_drawn1 HB.out | exact bl_drawn HB.out _⟩
    · have h2f : fits k t = false := by simpa using h2
      have HT : Hid _ := tryFits_any k t
      rw [h2f] at HT
      obtain ⟨h11, h12⟩ := h1
      have HE : Hid (evE ⟨k, i, t, s⟩ = 2) := by
        show _ = _
        unfold evE okE
        dsimp only
        rw [fits_ok, h2f, Bool.and_false, Bool.false_and]
        rfl
      clear h2 h2f hn
      generalize sortV k = sk at *
      go_enter Tryd.func10, Tryd.ntmps10
      go_wp2_with fail
      go_quiet (first
        | (go_at_call 26; refine Calls.quiet_of_same (HS.out _))
        | (go_at_call 25; refine Calls.quiet_of_same (HT.out _))
        | (go_at_call 27; refine Calls.quiet_of_same (HC.out _ (by first | exact HB.out | exact bl_drawn1 HB.out | exact bl_drawn HB.out _))))
      go_wp2_with fail
      go_ret
      refine ⟨by rw [HE.out]; rfl, by first | exact HB.out | exact bl_drawn1 HB.out | exact bl_drawn HB.out _⟩
  · have HE : Hid (evE ⟨k, i, t, s⟩ = 2) := by
      show _ = _
      unfold evE okE
      dsimp only
      rw [fits_ok, decide_eq_false h1, Bool.false_and, Bool.false_and]
      rfl
    have HT : Hid _ := tryFits_any k t
    clear hn
    by_cases h0 : 1 ≤ i
    · have h5 : decide (i < 64) = false := decide_eq_false (by omega)
      clear h1
      go_enter Tryd.func10, Tryd.ntmps10
      go_wp2_with fail
      go_quiet (first
        | (go_at_call 26; refine Calls.quiet_of_same (HS.out _))
        | (go_at_call 25; refine Calls.quiet_of_same (HT.out _))
        | (go_at_call 27; refine Calls.quiet_of_same (HC.out _ (by first | exact HB.out | exact bl_drawn1 HB.out | exact bl_drawn HB.out _))))
      go_wp2_with fail
      go_ret
      refine ⟨by rw [HE.out]; rfl, by first | exact HB.out | exact bl_drawn1 HB.out | exact bl_drawn HB.out _⟩
    · clear h1
      go_enter Tryd.func10, Tryd.ntmps10
      go_wp2_with fail
      go_quiet (first
        | (go_at_call 26; refine Calls.quiet_of_same (HS.out _))
        | (go_at_call 25; refine Calls.quiet_of_same (HT.out _))
        | (go_at_call 27; refine Calls.quiet_of_same (HC.out _ (by first | exact HB.out | exact bl_drawn1 HB.out | exact bl_drawn HB.out _))))
      go_wp2_with fail
      go_ret
      refine ⟨by rw [HE.out]; rfl, by first | exact HB.out | exact bl_drawn1 HB.out | exact bl_drawn HB.out _⟩
end Go.Proofs.YtcnodkkdhkkicaaDoor
