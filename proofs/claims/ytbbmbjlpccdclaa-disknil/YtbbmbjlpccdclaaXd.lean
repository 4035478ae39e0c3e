/- Calls as they come in; the walk over the laws' few. -/
import Derived.Test.YtbbmbjlpccdclaaWq
namespace Go.Proofs.Ytbbmbjlpccdclaa
open Go.RowKit
set_option linter.unusedVariables false

/-- A call. -/
structure Ac where
  kind : Int
  i : Int
  n : Int
  b : List UInt8
  keep : List Int

/-- One call in memory. -/
def RA1 (w : World) (blk o : Nat) (x : Ac) (bv kv : Value) : Prop :=
  w.cell? ⟨blk, o, none⟩ = some (.int .i64 x.kind) ∧ w.cell? ⟨blk, o + 1, none⟩ = some (.int .i64 x.i) ∧ w.cell? ⟨blk, o + 2, none⟩ = some (.int .i64 x.n) ∧ w.cell? ⟨blk, o + 3, none⟩ = some bv ∧ w.cell? ⟨blk, o + 4, none⟩ = some kv ∧ RB w bv x.b ∧ RI w kv x.keep

/-- A slice of calls. -/
def RAs (w : World) (v : Value) (L : List Ac) : Prop :=
  ∃ a cap, v = .slice a L.length cap ∧ L.length ≤ cap ∧ cap ≤ maxLen ∧ ∀ j x, L[j]? = some x → ∃ blk off bv kv, a = some ⟨blk, off, none⟩ ∧ RA1 w blk (off + j * 5) x bv kv

def okA (x : Ac) : Bool := decide (x.b.length ≤ 3000) && decide (x.keep.length ≤ 200)
def fewP (L : List Ac) : Bool := decide (L.length ≤ 200) && L.all okA

set_option maxRecDepth 1000000 in
set_option maxHeartbeats 1000000 in
theorem few_any (x : Value) (L : List Ac) (w : World) (hx : RAs w x L) :
    Calls Try.prog 8 #[x] w fun e w' => e = .returned (.bool (fewP L)) ∧ w' = w := by
  obtain ⟨a, ca, rfl, _, _, hca⟩ := hx
  by_cases h20 : L.length ≤ 200
  · obtain ⟨R, HR⟩ : ∃ R, Hid (R = fewP L) := ⟨_, rfl⟩
    rw [← HR.out]
    go_enter Try.func8, Try.ntmps8
    go_wp2
    go_loopw [3] (fun i wr => ∃ (k : Nat), k ≤ L.length ∧ i = .int .i64 k ∧ Hid (∀ b ∈ L.take k, okA b = true) ∧ wr = w) (fun i _ => L.length - (intOf i).toNat)
    case atStart => exact ⟨0, Nat.zero_le _, rfl, by show ∀ b ∈ L.take 0, _; simp, rfl⟩
    case round =>
      obtain ⟨k, hk, rfl, HA, rfl⟩ := hrel
      by_cases hlt : k < L.length
      · obtain ⟨b1, o1, bv, kv, rfl, c0, c1, c2, c3, c4, hb, hkp⟩ := hca k L[k] (List.getElem?_eq_getElem hlt)
        obtain ⟨ba, bc, rfl, _, hbm, _, _⟩ := hb
        obtain ⟨ka, kc, rfl, _, hkm, _⟩ := hkp
        have hbl : L[k].b.length ≤ maxLen := by omega
        have hkl : L[k].keep.length ≤ maxLen := by omega
        unfold maxLen at hbl hkl
        clear c0 c1 c2 hbm hkm
        by_cases hb : L[k].b.length ≤ 3000 ∧ L[k].keep.length ≤ 200
        · have HA2 : Hid (∀ b ∈ L.take (k + 1), okA b = true) := by
            show ∀ b ∈ L.take (k + 1), _
            intro b hm
            rw [List.take_succ_eq_append_getElem hlt, List.mem_append] at hm
            rcases hm with hm | hm
            · exact HA.out b hm
            · simp at hm
              subst hm
              unfold okA
              simp [hb.1, hb.2]
          obtain ⟨hb1, hb2⟩ := hb
          generalize L[k] = bb at *
          clear hca
          have hb3 : ¬ 3000 < (bb.b.length : Int) := by omega
          have hb4 : ¬ 200 < (bb.keep.length : Int) := by omega
          go_wp2
          go_roundw
          case rel => exact ⟨k + 1, by omega, by go_num, HA2, by trivial⟩
          case measure => simp [intOf]; omega
        · have HF : Hid (R = false) := by
            show _ = _
            rw [HR.out]
            unfold fewP
            rw [Bool.and_eq_false_iff]
            right
            rw [List.all_eq_false]
            refine ⟨L[k], List.getElem_mem hlt, ?_⟩
            unfold okA
            rw [Bool.and_eq_true, decide_eq_true_eq, decide_eq_true_eq]
            exact hb
          generalize L[k] = bb at *
          clear hca
          by_cases hb1 : bb.b.length ≤ 3000
          · have hb2 : 200 < bb.keep.length := by omega
            have hb3 : ¬ 3000 < (bb.b.length : Int) := by omega
            have hb4 : 200 < (bb.keep.length : Int) := by omega
            clear hb
            go_wp2
            go_ret
            rw [HF.out]
            exact ⟨rfl, rfl⟩
          · have hb3 : 3000 < (bb.b.length : Int) := by omega
            clear hb
            go_wp2
            go_ret
            rw [HF.out]
            exact ⟨rfl, rfl⟩
      · have hkk : k = L.length := by omega
        have HF : Hid (R = true) := by
          show _ = _
          rw [HR.out]
          unfold fewP
          rw [Bool.and_eq_true]
          refine ⟨by simpa using h20, ?_⟩
          rw [List.all_eq_true]
          intro b hm
          exact HA.out b (by rw [hkk, List.take_length]; exact hm)
        clear hkk
        go_wp2
        go_ret
        rw [HF.out]
        exact ⟨rfl, rfl⟩
  · have hF : fewP L = false := by unfold fewP; rw [Bool.and_eq_false_iff]; left; simpa using h20
    rw [hF]
    clear hF
    go_enter Try.func8, Try.ntmps8
    go_wp2
    go_ret
    exact ⟨rfl, rfl⟩
end Go.Proofs.Ytbbmbjlpccdclaa
