/- Function values; the walks over disk.unless, runs, has, fits, reaches, grows and what they make; call. -/
import Derived.Test.YtbbmbjlpccdclaaWa
import Derived.Shelf.Abstract
namespace Go.Proofs.Ytbbmbjlpccdclaa
open Go.RowKit
set_option linter.unusedVariables false

/-- A function that has a body is entered. -/
def Ent (g : Nat) : Prop := ∀ args w, (callFunc g args).run Try.prog w = .ok (.enter g args) w

/-- A function value, called with nothing. -/
def AskV (v : Value) (w : World) (R : Ending → World → Prop) : Prop := ∃ (g : Nat) (fi lb : Array Value), v = .func (.func g) fi lb ∧ Ent g ∧ Calls Try.prog g (fi ++ lb) w R

/-- What is asked one behind the other, and what is done then. -/
def Chain (blk : Nat) (dv : Value) (Q : Int → World → Prop) : List Value → World → Prop
  | [], w => AskV dv w (fun e w' => e = .returned (.tuple #[]) ∧ Q 0 w')
  | v :: vs, w => AskV v w (fun e w' => ∃ k : Int, e = .returned (.int .i64 k) ∧ w'.heap[blk]? = w.heap[blk]? ∧ (k ≠ 0 → Q k w') ∧ (k = 0 → Chain blk dv Q vs w'))

/-- A slice of function values, all in one block. -/
def RF (w : World) (blk : Nat) (v : Value) (vs : List Value) : Prop :=
  ∃ a cap, v = .slice a vs.length cap ∧ vs.length ≤ 10 ∧ ∀ i u, vs[i]? = some u → ∃ off, a = some ⟨blk, off, none⟩ ∧ w.cell? ⟨blk, off + i, none⟩ = some u

theorem call_nil (dv sl : Value) (w : World) : Calls Try.prog 33 #[.pointer none, dv, sl] w fun e w' => e = .returned (.int .i64 1) ∧ w' = w := by
  go_enter Try.func33, Try.ntmps33
  go_wp2
  go_ret
  exact ⟨rfl, rfl⟩

theorem call_unmade (p : Nat) (dv sl : Value) (w : World) (hc : w.cell? ⟨p, 130, none⟩ = some (.int .i64 0)) : Calls Try.prog 33 #[.pointer (some ⟨p, 0, none⟩), dv, sl] w fun e w' => e = .returned (.int .i64 1) ∧ w' = w := by
  go_enter Try.func33, Try.ntmps33
  go_wp2
  go_ret
  exact ⟨rfl, rfl⟩

set_option maxRecDepth 1000000 in
set_option maxHeartbeats 1000000 in
theorem call_any (p n blk : Nat) (dv sl : Value) (vs : List Value) (w : World) (Q : Int → World → Prop) (hc : w.cell? ⟨p, 130, none⟩ = some (.int .i64 n)) (hn : n ≠ 0) (hs : RF w blk sl vs) (hch : Chain blk dv Q vs w) :
    Calls Try.prog 33 #[.pointer (some ⟨p, 0, none⟩), dv, sl] w fun e w' => ∃ k : Int, e = .returned (.int .i64 k) ∧ Q k w' := by
  obtain ⟨a, cap, rfl, hl10, hcs⟩ := hs
  have hn2 : ((n : Int) == 0) = false := by simp; omega
  have HCH : Hid (Chain blk dv Q vs w) := hch
  have HCS : Hid (∀ i u, vs[i]? = some u → ∃ off, a = some ⟨blk, off, none⟩ ∧ w.cell? ⟨blk, off + i, none⟩ = some u) := hcs
  clear hch hcs hn
  go_enter Try.func33, Try.ntmps33
  go_wp2
  go_loopw [21] (fun i wr => ∃ k : Nat, k ≤ vs.length ∧ i = .int .i64 k ∧ Hid (Chain blk dv Q (vs.drop k) wr) ∧ Hid (wr.heap[blk]? = w.heap[blk]?)) (fun i _ => vs.length - (intOf i).toNat)
  case atStart => exact ⟨0, Nat.zero_le _, rfl, HCH, rfl⟩
  case round =>
    obtain ⟨k, hk, rfl, HD, HB⟩ := hrel
    by_cases hlt : k < vs.length
    · obtain ⟨off, rfl, hcell⟩ := HCS.out k vs[k] (List.getElem?_eq_getElem hlt)
      have hcell2 : wr.cell? ⟨blk, off + k, none⟩ = some vs[k] := by rw [World.cell?_of_block (w := w) HB.out]; exact hcell
      have hD := HD.out
      rw [List.drop_eq_getElem_cons hlt] at hD
      obtain ⟨g, fi, lb, hv, hent, hcalls⟩ := hD
      rw [hv] at hcell2
      have HC := hcalls
      have HC2 : Hid (Calls Try.prog g (fi ++ lb) wr (fun e w' => ∃ k2 : Int, e = .returned (.int .i64 k2) ∧ w'.heap[blk]? = wr.heap[blk]? ∧ (k2 ≠ 0 → Q k2 w') ∧ (k2 = 0 → Chain blk dv Q (vs.drop (k + 1)) w'))) := HC
      have eg : ∀ args w, (callFunc g args).run Try.prog w = .ok (.enter g args) w := hent
      clear hcell hv HD hcalls HC hent HCS
      go_wp2_with (first | (go_at_fn g; refine Calls.mono HC2.out ?_; rintro e w2 ⟨k2, rfl, hb2, hq2, hd2⟩; have HB2 : Hid (w2.heap[blk]? = wr.heap[blk]?) := hb2; have HQ2 : Hid (k2 ≠ 0 → Q k2 w2) := hq2; have HD2 : Hid (k2 = 0 → Chain blk dv Q (vs.drop (k + 1)) w2) := hd2; clear hb2 hq2 hd2))
      · rename_i h0
        have hne : k2 ≠ 0 := by simpa using h0
        go_ret
        exact ⟨k2, rfl, HQ2.out hne⟩
      · rename_i h0
        have heq : k2 = 0 := by simpa using h0
        go_roundw
        case rel => exact ⟨k + 1, by omega, by go_num, HD2.out heq, HB2.out.trans HB.out⟩
        case measure => simp [intOf]; omega
    · have hkk : vs.drop k = [] := List.drop_eq_nil_of_le (by omega)
      have hD := HD.out
      rw [hkk] at hD
      obtain ⟨g, fi, lb, rfl, hent, hcalls⟩ := hD
      have HC2 : Hid (Calls Try.prog g (fi ++ lb) wr (fun e w' => e = .returned (.tuple #[]) ∧ Q 0 w')) := hcalls
      have eg : ∀ args w, (callFunc g args).run Try.prog w = .ok (.enter g args) w := hent
      clear HD hkk hcalls hent HCS HCH
      go_wp2_with (first | (go_at_fn g; refine Calls.mono HC2.out ?_; rintro e w2 ⟨rfl, hq2⟩; have HQ2 : Hid (Q 0 w2) := hq2; clear hq2))
      go_ret
      exact ⟨0, rfl, HQ2.out⟩
end Go.Proofs.Ytbbmbjlpccdclaa
