/- Texts of the seat, packed: EVa. -/
import Derived.Test.YtgdnlceliiekkaaGreatDoorRows
import Derived.Test.YtgdnlceliiekkaaGreatDoorChecked
import Derived.BigQuiet
import Derived.ChangeOld
import Derived.Deep.QuietTactic
import Derived.Deep.Strs
import Derived.Handy
import Derived.OpenShut
import Derived.ProofKit
import Derived.ShutString
import Derived.WalkKit
import Derived.WalkLawsBesides
import Derived.WalkMore
import Derived.WalkSpells
/- Events that are right: stamp.Check and event.Check; an event that came in. -/
namespace Go.Proofs.YtgdnlceliiekkaaGreatDoor.Ek

set_option linter.unusedVariables false

section

open Go.RowKit

theorem cell_later {w wx : World} (hb : Below w.heap.size w wx) {a : Addr} {v : Value} (h : w.cell? a = some v) : wx.cell? a = some v := by
  rw [hb.cell (World.block_lt_of_cell? w a h)]
  exact h

/-- Is it a number? -/
def isN (n : Int) : Bool := decide (0 ≤ n ∧ n ≤ 1099511627776)

/-- A slice of ints that reads as a list. -/
def RI (w : World) (v : Value) (l : List Int) : Prop :=
  ∃ a cap, v = .slice a l.length cap ∧ l.length ≤ cap ∧ cap ≤ maxLen ∧ ∀ i, i < l.length → ∃ b off, a = some ⟨b, off, none⟩ ∧ w.cell? ⟨b, off + i, none⟩ = some (.int .i64 (l.getD i 0))

theorem RI.later {w w' : World} {v : Value} {l : List Int} (h : RI w v l) (hb : Below w.heap.size w w') : RI w' v l := by
  obtain ⟨a, cap, rfl, h1, h2, hc⟩ := h
  refine ⟨a, cap, rfl, h1, h2, fun i hi => ?_⟩
  obtain ⟨b, off, rfl, hcell⟩ := hc i hi
  exact ⟨b, off, rfl, cell_later hb hcell⟩

theorem RI.nil (w : World) : RI w (.slice none 0 0) [] := ⟨none, 0, rfl, by simp, by unfold maxLen; omega, by simp⟩

def ivs (l : List Int) : List Value := l.map fun x => .int .i64 x

/-- All are numbers. -/
def allN (l : List Int) : Bool := l.all isN

/-- Is it a right stamp? -/
def okS (l : List Int) : Bool := decide (1 ≤ l.length ∧ l.length ≤ 64) && allN l

def chkE (l : List Int) : Nat := if okS l then 0 else 2

theorem okS_bad {l : List Int} {k : Nat} (hk : k < l.length) (h : ¬ (0 ≤ l.getD k 0 ∧ l.getD k 0 ≤ 1099511627776)) : okS l = false := by
  have : allN l = false := by
    unfold allN
    rw [List.all_eq_false]
    refine ⟨l[k], List.getElem_mem hk, ?_⟩
    have e : l.getD k 0 = l[k] := by simp [hk]
    rw [← e, show isN (l.getD k 0) = false from decide_eq_false h]
    decide
  unfold okS
  rw [this, Bool.and_false]

theorem okS_yes {l : List Int} (h1 : 1 ≤ l.length) (h2 : l.length ≤ 64) (h : ∀ i, i < l.length → 0 ≤ l.getD i 0 ∧ l.getD i 0 ≤ 1099511627776) : okS l = true := by
  have : allN l = true := by
    unfold allN
    rw [List.all_eq_true]
    intro z hz
    obtain ⟨i, hi, rfl⟩ := List.mem_iff_getElem.1 hz
    have := h i hi
    rw [show l.getD i 0 = l[i] by simp [hi]] at this
    exact decide_eq_true this
  unfold okS
  rw [this, Bool.and_true]
  exact decide_eq_true ⟨h1, h2⟩

theorem okS_long {l : List Int} (h : ¬ (1 ≤ l.length ∧ l.length ≤ 64)) : okS l = false := by
  unfold okS
  rw [decide_eq_false h, Bool.false_and]

set_option maxRecDepth 1000000 in
set_option maxHeartbeats 1000000 in
theorem check_any (v : Value) (l : List Int) (w : World) (hv : RI w v l) (hn : l.length ≤ 1000000) :
    Calls Tryz.prog 58 #[v] w fun e w' => e = .returned (.int .i64 (chkE l : Nat)) ∧ w' = w := by
  obtain ⟨a, cap, rfl, hc, _, hr⟩ := hv
  have HR : Hid _ := hr
  obtain ⟨E, HE⟩ : ∃ E, Hid (E = chkE l) := ⟨_, rfl⟩
  rw [← HE.out]
  clear hr
  by_cases h : 1 ≤ l.length ∧ l.length ≤ 64
  · obtain ⟨h1, h2⟩ := h
    go_enter Tryz.func58, Tryz.ntmps58
    go_wp2_with fail
    go_loopw [15] (fun iv wr => ∃ (k : Nat), k ≤ l.length ∧ iv = .int .i64 k ∧ Hid (∀ i, i < k → 0 ≤ l.getD i 0 ∧ l.getD i 0 ≤ 1099511627776) ∧ wr = w) (fun iv _ => l.length - (intOf iv).toNat)
    case atStart => exact ⟨0, Nat.zero_le _, rfl, fun i hi => by omega, rfl⟩
    case round =>
      obtain ⟨k, hk, rfl, HA, rfl⟩ := hrel
      by_cases hlt : k < l.length
      · obtain ⟨b1, o1, rfl, hc1⟩ := HR.out k hlt
        have HBD : Hid (¬ (0 ≤ l.getD k 0 ∧ l.getD k 0 ≤ 1099511627776) → chkE l = 2) := by
          show _ → _
          intro hb
          unfold chkE
          rw [okS_bad hlt hb]
          rfl
        have HA2 : Hid ((0 ≤ l.getD k 0 ∧ l.getD k 0 ≤ 1099511627776) → ∀ i, i < k + 1 → 0 ≤ l.getD i 0 ∧ l.getD i 0 ≤ 1099511627776) := by
          show _ → ∀ i, _
          intro hb i hi
          by_cases hik : i = k
          · subst hik; exact hb
          · exact HA.out i (by omega)
        obtain ⟨z, HZ⟩ : ∃ z, Hid (z = l.getD k 0) := ⟨_, rfl⟩
        rw [← HZ.out] at hc1 HA2 HBD
        by_cases h0 : z < 0
        · have HE2 : Hid (E = 2) := by show _ = _; rw [HE.out]; exact HBD.out (by omega)
          clear HA HA2 HBD HZ HE
          go_wp2_with fail
          go_ret
          exact ⟨by rw [HE2.out]; rfl, rfl⟩
        · by_cases h3 : 1099511627776 < z
          · have HE2 : Hid (E = 2) := by show _ = _; rw [HE.out]; exact HBD.out (by omega)
            clear HA HA2 HBD HZ HE
            go_wp2_with fail
            go_ret
            exact ⟨by rw [HE2.out]; rfl, rfl⟩
          · have HA3 : Hid _ := HA2.out (by omega)
            clear HA HA2 HBD HZ
            go_wp2_with fail
            go_roundw
            case rel => exact ⟨k + 1, by omega, by go_num, HA3, trivial⟩
            case measure => simp [intOf]; omega
      · have HE2 : Hid (E = 0) := by
          show _ = _
          rw [HE.out]
          unfold chkE
          rw [okS_yes h1 h2 (fun i hi => HA.out i (by omega))]
          rfl
        clear HE HA
        go_wp2_with fail
        go_ret
        exact ⟨by rw [HE2.out]; rfl, rfl⟩
  · have HE2 : Hid (E = 2) := by
      show _ = _
      rw [HE.out]
      unfold chkE
      rw [okS_long h]
      rfl
    clear HE
    by_cases h1 : l.length < 1
    · go_enter Tryz.func58, Tryz.ntmps58
      go_wp2_with fail
      go_ret
      exact ⟨by rw [HE2.out]; rfl, rfl⟩
    · have h2 : 64 < l.length := by omega
      go_enter Tryz.func58, Tryz.ntmps58
      go_wp2_with fail
      go_ret
      exact ⟨by rw [HE2.out]; rfl, rfl⟩

/-- An event. -/
structure Ev where
  k : Int
  i : Int
  t : Int
  s : List Int

/-- No event. -/
def Ev.nil : Ev := ⟨0, 0, 0, []⟩

/-- Is it right, but for its stamp? -/
def okH (k i t : Int) : Bool := decide (1 ≤ k ∧ k ≤ 6 ∧ 1 ≤ i ∧ i ≤ 63 ∧ 0 ≤ t ∧ t ≤ 3 ∧ (3 < k ∨ t = 0))

def okE (e : Ev) : Bool := okH e.k e.i e.t && okS e.s

def evE (e : Ev) : Nat := if okE e then 0 else 2

/-- A kind's word. -/
def wordP (k : Int) : List UInt8 :=
  if k = 1 then [115, 116, 97, 114, 116] else if k = 2 then [111, 107] else if k = 3 then [102, 97, 105, 108]
  else if k = 4 then [117, 110, 100, 111] else if k = 5 then [117, 110, 100, 111, 110, 101] else if k = 6 then [115, 108, 105, 112] else []

theorem bl_drawn {B : Nat} {w w' : World} (h : Below B w w') (n : Nat) : Below B w (w'.drewN n) := ⟨h.os, h.tape, h.output, h.size, h.block⟩

theorem bl_drawn1 {B : Nat} {w w' : World} (h : Below B w w') : Below B w w'.drew := ⟨h.os, h.tape, h.output, h.size, h.block⟩

/-- An event's sort. -/
def sortV (k : Int) : Value :=
  if 1 ≤ k ∧ k ≤ 3 then .iface 137 (.agg #[.string ⟨(wordP k).toArray⟩]) else if 4 ≤ k ∧ k ≤ 6 then .iface 138 (.agg #[.string ⟨(wordP k).toArray⟩]) else .iface 140 (.agg #[])

theorem sort_cases (k : Int) : k = 1 ∨ k = 2 ∨ k = 3 ∨ k = 4 ∨ k = 5 ∨ k = 6 ∨ (¬ k = 1 ∧ ¬ k = 2 ∧ ¬ k = 3 ∧ ¬ k = 4 ∧ ¬ k = 5 ∧ ¬ k = 6) := by omega

theorem sort_none {k : Int} (h : ¬ (1 ≤ k ∧ k ≤ 6)) : sortV k = .iface 140 (.agg #[]) := by
  unfold sortV
  rw [if_neg (by omega), if_neg (by omega)]

set_option maxRecDepth 1000000 in
set_option maxHeartbeats 1000000 in
theorem sortOf_any (k : Int) (w : World) : Calls Tryz.prog 57 #[.int .i64 k] w fun e w' => e = .returned (sortV k) ∧ w' = w := by
  rcases sort_cases k with rfl | rfl | rfl | rfl | rfl | rfl | h
  all_goals first
    | (go_enter Tryz.func57, Tryz.ntmps57
       go_wp2_with fail
       go_ret
       exact ⟨rfl, rfl⟩)
    | (have hs : Hid _ := sort_none (k := k) (by omega)
       obtain ⟨h1, h2, h3, h4, h5, h6⟩ := h
       have g1 : (k == 1) = false := by simpa using h1
       have g2 : (k == 2) = false := by simpa using h2
       have g3 : (k == 3) = false := by simpa using h3
       have g4 : (k == 4) = false := by simpa using h4
       have g5 : (k == 5) = false := by simpa using h5
       have g6 : (k == 6) = false := by simpa using h6
       go_enter Tryz.func57, Tryz.ntmps57
       go_wp2_with fail
       go_ret
       rw [hs.out]
       exact ⟨rfl, rfl⟩)

theorem as_same (t : TypeId) (v : Value) (ht : t = 138 ∨ t = 137) : ∀ w : World, (Instr.typeAssert (.iface t v) 110 t true).run Tryz.prog w = .ok (.tuple #[v, .bool true]) w := by
  rcases ht with rfl | rfl
  · intro w; kernel_rfl
  · intro w; kernel_rfl

theorem as_70_74 (v : Value) : ∀ w : World, (Instr.typeAssert (.iface 138 v) 110 137 true).run Tryz.prog w = .ok (.tuple #[.agg #[.string ⟨#[]⟩], .bool false]) w := by
  intro w; kernel_rfl

theorem as_76_74 (v : Value) : ∀ w : World, (Instr.typeAssert (.iface 140 v) 110 137 true).run Tryz.prog w = .ok (.tuple #[.agg #[.string ⟨#[]⟩], .bool false]) w := by
  intro w; kernel_rfl

theorem as_76_70 (v : Value) : ∀ w : World, (Instr.typeAssert (.iface 140 v) 110 138 true).run Tryz.prog w = .ok (.tuple #[.agg #[.string ⟨#[]⟩], .bool false]) w := by
  intro w; kernel_rfl

/-- May an event of a kind have such a try? -/
def fits (k t : Int) : Bool := decide ((1 ≤ k ∧ k ≤ 3 ∧ t = 0) ∨ (4 ≤ k ∧ k ≤ 6 ∧ 0 ≤ t ∧ t ≤ 3))

set_option maxRecDepth 1000000 in
set_option maxHeartbeats 1000000 in
theorem tryFits_any (k t : Int) (w : World) : Calls Tryz.prog 56 #[sortV k, .int .i64 t] w fun e w' => e = .returned (.bool (fits k t)) ∧ w' = w := by
  unfold sortV
  by_cases h1 : 1 ≤ k ∧ k ≤ 3
  · rw [if_pos h1]
    have hf : Hid (fits k t = decide (t = 0)) := by
      show _ = _
      unfold fits
      exact decide_eq_decide.2 (by omega)
    have q1 := as_same 137 (.agg #[.string ⟨(wordP k).toArray⟩]) (.inr rfl)
    go_enter Tryz.func56, Tryz.ntmps56
    go_wp2_with fail
    go_ret
    exact ⟨by rw [hf.out]; by_cases h : t = 0 <;> simp [h], rfl⟩
  · rw [if_neg h1]
    by_cases h2 : 4 ≤ k ∧ k ≤ 6
    · rw [if_pos h2]
      have hf : Hid (fits k t = decide (0 ≤ t ∧ t ≤ 3)) := by
        show _ = _
        unfold fits
        exact decide_eq_decide.2 (by omega)
      clear h1 h2
      have q1 := as_same 138 (.agg #[.string ⟨(wordP k).toArray⟩]) (.inl rfl)
      have q2 := as_70_74 (.agg #[.string ⟨(wordP k).toArray⟩])
      by_cases h0 : 0 ≤ t
      · go_enter Tryz.func56, Tryz.ntmps56
        go_wp2_with fail
        go_ret
        exact ⟨by rw [hf.out]; simp [h0], rfl⟩
      · go_enter Tryz.func56, Tryz.ntmps56
        go_wp2_with fail
        go_ret
        exact ⟨by rw [hf.out]; simp; omega, rfl⟩
    · rw [if_neg h2]
      have hf : Hid (fits k t = false) := by
        show _ = _
        unfold fits
        exact decide_eq_false (by omega)
      clear h1 h2
      have q1 := as_76_70 (.agg #[])
      have q2 := as_76_74 (.agg #[])
      go_enter Tryz.func56, Tryz.ntmps56
      go_wp2_with fail
      go_ret
      exact ⟨by rw [hf.out]; rfl, rfl⟩

/-- An event in memory. -/
def EvV (e : Ev) (sv : Value) : Value := .agg #[.int .i64 e.k, .int .i64 e.i, .int .i64 e.t, sv]

theorem fits_ok {k i t : Int} : okH k i t = (decide (1 ≤ i ∧ i < 64) && fits k t) := by
  unfold okH fits
  rw [← Bool.decide_and]
  exact decide_eq_decide.2 (by omega)

set_option maxRecDepth 1000000 in
set_option maxHeartbeats 2000000 in
theorem check_ev (e : Ev) (sv : Value) (w : World) (hv : RI w sv e.s) (hn : e.s.length ≤ 1000000) :
    Calls Tryz.prog 34 #[EvV e sv] w fun x w' => x = .returned (.int .i64 (evE e : Nat)) ∧ Below w.heap.size w w' := by
  obtain ⟨k, i, t, s⟩ := e
  unfold EvV
  dsimp only at *
  have HC : Hid (∀ c : Int, ((chkE s : Nat) : Int) = c → ∀ wx : World, Below w.heap.size w wx → Calls Tryz.prog 58 #[sv] wx fun e w' => e = .returned (.int .i64 c) ∧ w' = wx) := by
    show ∀ c, _
    rintro c rfl wx hb
    exact check_any sv s wx (hv.later hb) hn
  obtain ⟨sa, sc, rfl, _, _, hrr⟩ := hv
  clear hrr
  have HB : Hid (Below w.heap.size w (w.alloc (.cells #[.int .i64 k, .int .i64 i, .int .i64 t, .slice sa s.length sc] 44))) := (Below.refl _ _).alloc (Nat.le_refl _) _
  have HS : Hid _ := sortOf_any k
  by_cases h1 : 1 ≤ i ∧ i < 64
  · by_cases h2 : fits k t = true
    · have HT : Hid _ := tryFits_any k t
      rw [h2] at HT
      obtain ⟨h11, h12⟩ := h1
      by_cases h3 : okS s = true
      · have HE : Hid (evE ⟨k, i, t, s⟩ = 0) := by
          show _ = _
          unfold evE okE
          dsimp only
          rw [fits_ok, h2, h3, decide_eq_true ⟨h11, h12⟩]
          rfl
        replace HC : Hid _ := HC.out 0 (by unfold chkE; rw [if_pos h3]; rfl)
        clear h2 h3 hn
        generalize sortV k = sk at *
        go_enter Tryz.func34, Tryz.ntmps34
        go_wp2_with fail
        go_quiet (first
          | (go_at_call 57; refine Calls.quiet_of_same (HS.out _))
          | (go_at_call 56; refine Calls.quiet_of_same (HT.out _))
          | (go_at_call 58; refine Calls.quiet_of_same (HC.out _ (by first | exact HB.out | exact bl_drawn1 HB.out | exact bl_drawn HB.out _))))
        go_wp2_with fail
        go_ret
        refine ⟨by rw [HE.out]; rfl, by first | exact HB.out | exact bl_drawn1 HB.out | exact bl_drawn HB.out _⟩
      · have HE : Hid (evE ⟨k, i, t, s⟩ = 2) := by
          show _ = _
          unfold evE okE
          dsimp only
          rw [show okS s = false by simpa using h3, Bool.and_false]
          rfl
        replace HC : Hid _ := HC.out 2 (by unfold chkE; rw [if_neg h3]; rfl)
        clear h2 h3 hn
        generalize sortV k = sk at *
        go_enter Tryz.func34, Tryz.ntmps34
        go_wp2_with fail
        go_quiet (first
          | (go_at_call 57; refine Calls.quiet_of_same (HS.out _))
          | (go_at_call 56; refine Calls.quiet_of_same (HT.out _))
          | (go_at_call 58; refine Calls.quiet_of_same (HC.out _ (by first | exact HB.out | exact bl_drawn1 HB.out | exact bl_drawn HB.out _))))
        go_wp2_with fail
        go_ret
        refine ⟨by rw [HE.out]; rfl, by first | exact HB.out | exact bl_drawn1 HB.out | exact bl_drawn HB.out _⟩
    · have h2f : fits k t = false := by simpa using h2
      have HT : Hid _ := tryFits_any k t
      rw [h2f] at HT
      obtain ⟨h11, h12⟩ := h1
      have HE : Hid (evE ⟨k, i, t, s⟩ = 2) := by
        show _ = _
        unfold evE okE
        dsimp only
        rw [fits_ok, h2f, Bool.and_false, Bool.false_and]
        rfl
      clear h2 h2f hn
      generalize sortV k = sk at *
      go_enter Tryz.func34, Tryz.ntmps34
      go_wp2_with fail
      go_quiet (first
        | (go_at_call 57; refine Calls.quiet_of_same (HS.out _))
        | (go_at_call 56; refine Calls.quiet_of_same (HT.out _))
        | (go_at_call 58; refine Calls.quiet_of_same (HC.out _ (by first | exact HB.out | exact bl_drawn1 HB.out | exact bl_drawn HB.out _))))
      go_wp2_with fail
      go_ret
      refine ⟨by rw [HE.out]; rfl, by first | exact HB.out | exact bl_drawn1 HB.out | exact bl_drawn HB.out _⟩
  · have HE : Hid (evE ⟨k, i, t, s⟩ = 2) := by
      show _ = _
      unfold evE okE
      dsimp only
      rw [fits_ok, decide_eq_false h1, Bool.false_and, Bool.false_and]
      rfl
    have HT : Hid _ := tryFits_any k t
    clear hn
    by_cases h0 : 1 ≤ i
    · have h5 : decide (i < 64) = false := decide_eq_false (by omega)
      clear h1
      go_enter Tryz.func34, Tryz.ntmps34
      go_wp2_with fail
      go_quiet (first
        | (go_at_call 57; refine Calls.quiet_of_same (HS.out _))
        | (go_at_call 56; refine Calls.quiet_of_same (HT.out _))
        | (go_at_call 58; refine Calls.quiet_of_same (HC.out _ (by first | exact HB.out | exact bl_drawn1 HB.out | exact bl_drawn HB.out _))))
      go_wp2_with fail
      go_ret
      refine ⟨by rw [HE.out]; rfl, by first | exact HB.out | exact bl_drawn1 HB.out | exact bl_drawn HB.out _⟩
    · clear h1
      go_enter Tryz.func34, Tryz.ntmps34
      go_wp2_with fail
      go_quiet (first
        | (go_at_call 57; refine Calls.quiet_of_same (HS.out _))
        | (go_at_call 56; refine Calls.quiet_of_same (HT.out _))
        | (go_at_call 58; refine Calls.quiet_of_same (HC.out _ (by first | exact HB.out | exact bl_drawn1 HB.out | exact bl_drawn HB.out _))))
      go_wp2_with fail
      go_ret
      refine ⟨by rw [HE.out]; rfl, by first | exact HB.out | exact bl_drawn1 HB.out | exact bl_drawn HB.out _⟩

end

section

open Go.RowKit Go.ChangeShapes Go.WideShapes Go.ChangeAt

variable {H : Type} {enc : TypeId × Value → H} {w : World} {base : Nat} {spare : Nat → Bool} {held : Bool}

theorem open_i64s {fuel : Nat} {cs : List Value} {x : DataW H × List MemPlace} (h : DataW.trod enc Tryz.prog w base spare held fuel 35 cs = some x) : ∃ v l, cs = [v] ∧ RI w v l := by
  rcases open_ints Tryz.underlying35 Tryz.underlying3 (by kernel_rfl) h with ⟨hcs, _⟩ | ⟨x, l, c, zs, hcs, _, hl, hm, hz, _, hcell, hwz⟩
  · exact ⟨_, [], hcs, RI.nil w⟩
  · have hlz : l ≤ zs.length := by rw [hz]; split <;> omega
    have hlen : (zs.take l).length = l := by simp; omega
    refine ⟨_, zs.take l, hcs, ⟨some x, c, by rw [hlen], by rw [hlen]; exact hl, hm, fun i hi => ?_⟩⟩
    rw [hlen] at hi
    obtain ⟨b, off, rfl, hcc⟩ := ints_at hcell (by omega)
    refine ⟨b, off, rfl, ?_⟩
    rw [hcc i (by omega)]
    congr 2
    simp only [List.getD_eq_getElem?_getD, List.getElem?_take]
    rw [if_pos hi]

theorem Tryz.cells44 : Tryz.prog.cellsOf 44 = 4 := by kernel_rfl

theorem Tryz.cells42 : Tryz.prog.cellsOf 42 = 1 := by kernel_rfl

theorem Tryz.cells35 : Tryz.prog.cellsOf 35 = 1 := by kernel_rfl

theorem Tryz.cells3 : Tryz.prog.cellsOf 3 = 1 := by kernel_rfl

set_option maxRecDepth 1000000 in
theorem open_ev {fuel : Nat} {cs : List Value} {x : DataW H × List MemPlace} (h : DataW.trod enc Tryz.prog w base spare held fuel 44 cs = some x) :
    ∃ (e : Ev) (sv : Value), cs = [.int .i64 e.k, .int .i64 e.i, .int .i64 e.t, sv] ∧ RI w sv e.s := by
  obtain ⟨xs, n', hn', _, hcl, hxl, hfs⟩ := DataW.trod_struct Tryz.underlying44 h
  rw [Tryz.cells44] at hcl
  have hx4 : xs.length = 4 := by simpa using hxl
  match cs, hcl with
  | [v0, v1, v2, v3], _ =>
    have g0 := hfs 0 _ rfl
    have g1 := hfs 1 _ rfl
    have g2 := hfs 2 _ rfl
    have g3 := hfs 3 _ rfl
    simp [Tryz.cells42] at g0
    simp [Tryz.cells3] at g1 g2
    simp [Tryz.cells35] at g3
    rw [List.getElem?_eq_getElem (by omega)] at g0 g1 g2 g3
    obtain ⟨n0, e0, _, z0⟩ := DataW.trod_int Tryz.underlying42 g0
    obtain ⟨n1, e1, _, z1⟩ := DataW.trod_int Tryz.underlying3 g1
    obtain ⟨n2, e2, _, z2⟩ := DataW.trod_int Tryz.underlying3 g2
    obtain ⟨sv, l, e3, hl⟩ := open_i64s g3
    simp only [List.cons.injEq, and_true] at e0 e1 e2 e3
    subst e0 e1 e2 e3
    exact ⟨⟨n0, n1, n2, l⟩, v3, rfl, hl⟩

end

end Go.Proofs.YtgdnlceliiekkaaGreatDoor.Ek

