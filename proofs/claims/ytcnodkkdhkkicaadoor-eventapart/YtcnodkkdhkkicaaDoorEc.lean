/- The walk over takeHead. -/
import Derived.Test.YtcnodkkdhkkicaaDoorEb
import Derived.Laws.ResultCell
import Derived.Laws.Rows
namespace Go.Proofs.YtcnodkkdhkkicaaDoor
open Go.RowKit
set_option linter.unusedVariables false

/-- Has an event of this kind a try? -/
def tri (k : Int) : Bool := decide (4 ≤ k ∧ k ≤ 6)

theorem sort_tri {k : Int} (h : tri k = true) : ∃ W, sortV k = .iface 70 (.agg #[.string W]) := by
  have h1 : 4 ≤ k ∧ k ≤ 6 := of_decide_eq_true h
  exact ⟨_, by unfold sortV; rw [if_neg (by omega), if_pos h1]⟩
theorem sort_not {k : Int} (h : tri k = false) : ∀ w : World, (Instr.typeAssert (sortV k) 52 70 true).run Tryd.prog w = .ok (.tuple #[.agg #[.string ⟨#[]⟩], .bool false]) w := by
  have h1 : ¬ (4 ≤ k ∧ k ≤ 6) := of_decide_eq_false h
  unfold sortV
  by_cases h2 : 1 ≤ k ∧ k ≤ 3
  · rw [if_pos h2]; exact as_74_70 _
  · rw [if_neg h2, if_neg h1]; exact as_76_70 _

theorem results_ev2 {fn : Func} {p u : Tmp} (h : fn.results = #[.cell p 25, .tmp u]) (tmps : Array Value) (w : World) {g : Nat} {k i t : Int} {sv : Value}
    (hp : tmps.getD p undef = .pointer (some ⟨g, 0, none⟩)) (hg : Box w g k i t sv) :
    (results fn tmps).run Tryd.prog w = .ok (.tuple #[.agg #[.int .i64 k, .int .i64 i, .int .i64 t, sv], tmps.getD u undef]) w := by
  have hp' : tmps[p]?.getD undef = .pointer (some ⟨g, 0, none⟩) := by simpa using hp
  simp [results, h, hp', asAddr, run_loadVar_row (P := Tryd.prog) w g 25 25 _ (0, 0) _ hg Tryd.underlying25 rfl (by kernel_rfl)]

theorem results_ev3 {fn : Func} {p u v : Tmp} (h : fn.results = #[.cell p 25, .tmp u, .tmp v]) (tmps : Array Value) (w : World) {g : Nat} {k i t : Int} {sv : Value}
    (hp : tmps.getD p undef = .pointer (some ⟨g, 0, none⟩)) (hg : Box w g k i t sv) :
    (results fn tmps).run Tryd.prog w = .ok (.tuple #[.agg #[.int .i64 k, .int .i64 i, .int .i64 t, sv], tmps.getD u undef, tmps.getD v undef]) w := by
  have hp' : tmps[p]?.getD undef = .pointer (some ⟨g, 0, none⟩) := by simpa using hp
  simp [results, h, hp', asAddr, run_loadVar_row (P := Tryd.prog) w g 25 25 _ (0, 0) _ hg Tryd.underlying25 rfl (by kernel_rfl)]

theorem headF_cons (q : Bool) {b : List UInt8} (h : ¬ b = []) : headF q b = if q = true ∧ (takeP b 1).2.2 = 0 then ((b.getD 0 0).toNat, (takeP b 1).1, (takeP b (takeP b 1).2.1).1, (takeP b (takeP b 1).2.1).2.1, (takeP b (takeP b 1).2.1).2.2)
    else ((b.getD 0 0).toNat, (takeP b 1).1, 0, (takeP b 1).2.1, (takeP b 1).2.2) := by
  unfold headF
  rw [if_neg h]

theorem take_first (l : List UInt8) (p : Nat) (x : Value) (w : World) (hx : RB w x l) (hp : p ≤ l.length) (hl : l.length ≤ 100000) (n q E : Nat) (h : takeP l p = (n, q, E)) :
    Calls Tryd.prog 43 #[x, .int .i64 (p : Nat)] w fun e w' => e = .returned (.tuple #[.int .i64 (n : Nat), .int .i64 (q : Nat), .int .i64 (E : Nat)]) ∧ w' = w := by
  have h0 := take_any x l p w hx hp hl
  rw [h] at h0
  exact h0

theorem lt_of_cell {w : World} {a : Addr} {v : Value} (h : w.cell? a = some v) : a.block < w.heap.size := by
  unfold World.cell? at h
  cases ho : w.heap[a.block]? with
  | none => simp [ho] at h
  | some o => exact (Array.getElem?_eq_some_iff.1 ho).1

def headV (h : Nat × Nat × Nat × Nat × Nat) : Value := .tuple #[.agg #[.int .i64 (h.1 : Nat), .int .i64 (h.2.1 : Nat), .int .i64 (h.2.2.1 : Nat), .slice none 0 0], .int .i64 (h.2.2.2.1 : Nat), .int .i64 (h.2.2.2.2 : Nat)]

set_option maxRecDepth 1000000 in
set_option maxHeartbeats 4000000 in
theorem takeHead_any (x : Value) (b : List UInt8) (w : World) (hx : RB w x b) (hb : b.length ≤ 100000) :
    Calls Tryd.prog 31 #[x] w fun e w' => e = .returned (headV (headF (tri ((b.getD 0 0).toNat : Nat)) b)) ∧ Below w.heap.size w w' := by
  by_cases h0 : b = []
  · subst h0
    obtain ⟨xa, xc, rfl, _, _, _, _⟩ := hx
    go_enter Tryd.func31, Tryd.ntmps31
    go_wp2_with fail
    exact bodyPost_ret_by (results_ev3 rfl _ _ rfl (Box.new w 0 0 0 (.slice none 0 0))) rfl ⟨rfl, (Below.refl _ _).alloc (Nat.le_refl _) _⟩
  · have HT1 : Hid (∀ (n q E : Nat), takeP b 1 = (n, q, E) → ∀ wx : World, Below w.heap.size w wx → Calls Tryd.prog 43 #[x, .int .i64 1] wx fun e w' => e = .returned (.tuple #[.int .i64 (n : Nat), .int .i64 (q : Nat), .int .i64 (E : Nat)]) ∧ w' = wx) := by
      show ∀ n q E, _
      intro n q E h wx hbx
      exact take_first b 1 x wx (hx.later hbx) (by cases b with | nil => exact absurd rfl h0 | cons c l => simp) hb n q E h
    have hpos : 0 < b.length := by cases b with | nil => exact absurd rfl h0 | cons c l => simp
    have hbx := hx
    obtain ⟨xa, xc, rfl, _, _, _, hcells⟩ := hbx
    obtain ⟨b1, o1, rfl, hc1⟩ := hcells 0 hpos
    rw [headF_cons _ h0]
    have hc256 := UInt8.toNat_lt (b.getD 0 0)
    generalize (b.getD 0 0).toNat = c at *
    obtain ⟨n, q, E, hr1⟩ : ∃ n q E, takeP b 1 = (n, q, E) := ⟨_, _, _, rfl⟩
    rw [hr1]
    replace HT1 : Hid _ := HT1.out n q E hr1
    have HTK : Hid _ := hr1
    have HX : Hid _ := hx
    clear hcells hr1
    have d1 : ∀ o, (w.alloc o).cell? ⟨b1, o1, none⟩ = some (.int .u8 (c : Nat)) := fun o => (((Below.refl w.heap.size w).alloc (Nat.le_refl _) o).cell (p := ⟨b1, o1, none⟩) (by exact lt_of_cell hc1)).trans hc1
    have HB0 : Hid (∀ o, Below w.heap.size w (w.alloc o)) := fun o => (Below.refl _ _).alloc (Nat.le_refl _) o
    have hwr : wrap64 ((c : Nat) : Int) = (c : Nat) := by unfold wrap64; omega
    clear hc1 hx hc256
    have HQ : Hid (E = 0 → q ≤ b.length) := fun hE => by
      have := take_ok (l := b) (p := 1) (by omega) (by rw [HTK.out, hE])
      rw [HTK.out] at this
      exact this.2.2.1
    by_cases hE : E = 0
    · subst hE
      cases ht : tri (c : Nat)
      · have HS : Hid _ := sortOf_any (c : Nat)
        have q1 := sort_not ht
        generalize sortV (c : Nat) = sk at *
        rw [if_neg (by simp)]
        clear ht
        go_enter Tryd.func31, Tryd.ntmps31
        go_wp2_with fail
        refine Calls.mono (HT1.out _ (HB0.out _)) ?_
        rintro e w1 ⟨rfl, h2⟩
        obtain rfl := h2
        go_wp2_with fail
        refine Calls.mono (HS.out _) ?_
        rintro e w1 ⟨rfl, h2⟩
        obtain rfl := h2
        go_wp2_with fail
        exact bodyPost_ret_by (results_ev3 rfl _ _ rfl (((Box.new w (c : Nat) (n : Nat) 0 (.slice none 0 0)).alloc _).alloc _)) rfl ⟨rfl, ((HB0.out _).alloc (by simp) _).alloc (by simp; omega) _⟩
      · have HS : Hid _ := sortOf_any (c : Nat)
        obtain ⟨W, hW⟩ := sort_tri ht
        rw [hW] at HS
        have q1 := as_same 70 (.agg #[.string W]) (.inl rfl)
        rw [if_pos ⟨rfl, rfl⟩]
        obtain ⟨n2, q2, E2, hr2⟩ : ∃ n2 q2 E2, takeP b q = (n2, q2, E2) := ⟨_, _, _, rfl⟩
        dsimp only
        rw [hr2]
        have HT2 : Hid (∀ wx : World, Below w.heap.size w wx → Calls Tryd.prog 43 #[.slice (some ⟨b1, o1, none⟩) b.length xc, .int .i64 (q : Nat)] wx fun e w' => e = .returned (.tuple #[.int .i64 (n2 : Nat), .int .i64 (q2 : Nat), .int .i64 (E2 : Nat)]) ∧ w' = wx) := fun wx hbx => take_first b q _ wx (RB.later HX.out hbx) (HQ.out rfl) hb n2 q2 E2 hr2
        clear ht hW hr2 HTK HQ
        go_enter Tryd.func31, Tryd.ntmps31
        go_wp2_with fail
        refine Calls.mono (HT1.out _ (HB0.out _)) ?_
        rintro e w1 ⟨rfl, h2⟩
        obtain rfl := h2
        go_wp2_with fail
        refine Calls.mono (HS.out _) ?_
        rintro e w1 ⟨rfl, h2⟩
        obtain rfl := h2
        go_wp2_with fail
        refine Calls.mono (HT2.out _ (((HB0.out _).alloc (by simp) _).alloc (by simp; omega) _)) ?_
        rintro e w1 ⟨rfl, h2⟩
        obtain rfl := h2
        go_wp2_with fail
        exact bodyPost_ret_by (results_ev3 rfl _ _ rfl (((Box.new w (c : Nat) (n : Nat) (n2 : Nat) (.slice none 0 0)).alloc _).alloc _)) rfl ⟨rfl, ((HB0.out _).alloc (by simp) _).alloc (by simp; omega) _⟩
    · have hE1 : (((E : Nat) : Int) == 0) = false := by simpa using hE
      rw [if_neg (fun hh => hE hh.2)]
      cases ht : tri (c : Nat)
      · have HS : Hid _ := sortOf_any (c : Nat)
        have q1 := sort_not ht
        generalize sortV (c : Nat) = sk at *
        clear ht
        go_enter Tryd.func31, Tryd.ntmps31
        go_wp2_with fail
        refine Calls.mono (HT1.out _ (HB0.out _)) ?_
        rintro e w1 ⟨rfl, h2⟩
        obtain rfl := h2
        go_wp2_with fail
        refine Calls.mono (HS.out _) ?_
        rintro e w1 ⟨rfl, h2⟩
        obtain rfl := h2
        go_wp2_with fail
        exact bodyPost_ret_by (results_ev3 rfl _ _ rfl (((Box.new w (c : Nat) (n : Nat) 0 (.slice none 0 0)).alloc _).alloc _)) rfl ⟨rfl, ((HB0.out _).alloc (by simp) _).alloc (by simp; omega) _⟩
      · have HS : Hid _ := sortOf_any (c : Nat)
        obtain ⟨W, hW⟩ := sort_tri ht
        rw [hW] at HS
        have q1 := as_same 70 (.agg #[.string W]) (.inl rfl)
        clear ht hW
        go_enter Tryd.func31, Tryd.ntmps31
        go_wp2_with fail
        refine Calls.mono (HT1.out _ (HB0.out _)) ?_
        rintro e w1 ⟨rfl, h2⟩
        obtain rfl := h2
        go_wp2_with fail
        refine Calls.mono (HS.out _) ?_
        rintro e w1 ⟨rfl, h2⟩
        obtain rfl := h2
        go_wp2_with fail
        exact bodyPost_ret_by (results_ev3 rfl _ _ rfl (((Box.new w (c : Nat) (n : Nat) 0 (.slice none 0 0)).alloc _).alloc _)) rfl ⟨rfl, ((HB0.out _).alloc (by simp) _).alloc (by simp; omega) _⟩
end Go.Proofs.YtcnodkkdhkkicaaDoor
