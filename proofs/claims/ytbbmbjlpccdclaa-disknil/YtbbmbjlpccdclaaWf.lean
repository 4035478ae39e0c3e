/- The walk over disk.file's with. -/
import Derived.Test.YtbbmbjlpccdclaaWe
import Derived.Deep.RegionLaw
namespace Go.Proofs.Ytbbmbjlpccdclaa
open Go.RowKit
set_option linter.unusedVariables false

/-- 'append' with a known run, as one step of a region that draws its order. -/
theorem step_append_run {P : Program} {ops : Array Oper} {o : Oper} {a : Act} {w : World} {K : Act → World → Prop} {Q : Exit → Act → World → Prop} {E : Prop}
    (hg : o.guard = none) (s x : Operand) (t : TypeId) (hop : o.op = Op.call { callee := Callee.builtin Builtin.append, args := #[s, x], argTypes := #[t, t] })
    (d : Tmp) (hdst : o.dst = some d) (v xv v' : Value) (w' : World) (hs : a.eval s = v) (hx : a.eval x = xv) (hrun : (Builtin.append_ #[t, t] o.type #[v, xv]).run P w = .ok v' w') (hK : K (a.put (some d) v') w') :
    if Region.wanted o (yielded ops a.tmps) = true then Oper.wp P o a w K Q else E := by
  have hw : Region.wanted o (yielded ops a.tmps) = true := by simp [Region.wanted, hg]
  rw [if_pos hw]
  unfold Oper.wp
  simp [execOp, hop, resolve, invoke, builtin, hs, hx, hrun, Result.andThen]
  rw [← hdst] at hK
  exact hK

/-- What a turned file is like in memory. -/
def NewF (w : World) (v : Value) (f : Fl) (e : Ending) (w' : World) : Prop :=
  ∃ V, e = .returned (.agg #[V, .int .i64 f.s]) ∧ w'.ownsRow 0 5 1 V f.b.length (bvs f.b) ∧ Kp (fun k => v.ownBlock = some k) w w' ∧ (V.ownBlock = v.ownBlock ∨ ∃ g, V.ownBlock = some g ∧ w.heap.size ≤ g)

set_option maxRecDepth 1000000 in
set_option maxHeartbeats 1000000 in
theorem with_any (v xv : Value) (b l : List UInt8) (s : Nat) (w : World) (h : w.ownsRow 0 5 1 v b.length (bvs b)) (hx : RB w xv l) (hb : b.length ≤ 10000000) (hl : l.length ≤ 10000000) :
    Calls Try.prog 52 #[.agg #[v, .int .i64 s], xv] w (NewF w v ⟨b ++ l, s⟩) := by
  obtain ⟨a, c, rfl, _, _, _⟩ := owns_slice h
  have hx0 := hx
  obtain ⟨xa, xc, rfl, _, _, _, _⟩ := hx0
  have hbel := (alloc2 w (.cells #[.slice a b.length c, .int .i64 s] 52) (.cells #[.slice none 0 0, .int .i64 0] 52)).drew
  obtain ⟨v', w', hrun, hown, hgr, hblk⟩ := run_append_b _ 33 _ _ b l (owns_later h hbel) (hx.later hbel) hb hl
  obtain ⟨a2, c2, rfl, _, _, _⟩ := owns_slice hown
  have HV : Hid (∀ g, (Value.slice a b.length c).ownBlock = some g → g < w.heap.size) := fun g hg => (h.lt g hg).2
  have HG : Hid (((w.alloc (.cells #[.slice a b.length c, .int .i64 s] 52)).alloc (.cells #[.slice none 0 0, .int .i64 0] 52)).drew.grownBy w' (Value.slice a b.length c).ownBlock) := hgr
  have HO : Hid (w'.ownsRow 0 5 1 (.slice a2 (b ++ l).length c2) (b ++ l).length (bvs (b ++ l))) := hown
  have hr1 : w'.heap[w.heap.size + 1]? = some (.cells #[.slice none 0 0, .int .i64 0] 52 (0, 0)) := by
    rw [hgr.block _ (by show _ < ((w.alloc _).alloc _).heap.size; simp) (fun he => by have := HV.out _ he.symm; omega)]
    exact heap_new _ _ _ (by simp)
  have hr0 : w'.heap[w.heap.size]? = some (.cells #[.slice a b.length c, .int .i64 s] 52 (0, 0)) := by
    rw [hgr.block _ (by show _ < ((w.alloc _).alloc _).heap.size; simp; omega) (fun he => by have := HV.out _ he.symm; omega)]
    show ((w.alloc _).alloc _).heap[w.heap.size]? = _
    rw [Below.heap_alloc _ _ _ (by simp)]
    exact heap_new _ _ _ rfl
  obtain ⟨_, hq0, _⟩ := rowF hr0
  obtain ⟨hq1, hq2, hq3⟩ := rowF hr1
  have HW : Hid (w'.heap[w.heap.size + 1]? = some (.cells #[.slice none 0 0, .int .i64 0] 52 (0, 0))) := hr1
  have HKp : Hid (Kp (fun k => (Value.slice a b.length c).ownBlock = some k) w w') := (Kp.of_below _ hbel).trans (Kp.of_grown (fun k => (Value.slice a b.length c).ownBlock = some k) hgr (fun k h => h)) (fun x hx _ => hx)
  have HBk : Hid ((Value.slice a2 (b ++ l).length c2).ownBlock = (Value.slice a b.length c).ownBlock ∨ (Value.slice a2 (b ++ l).length c2).ownBlock = some (w.heap.size + 2)) := by
    rcases hblk with h | h
    · exact .inl h
    · exact .inr (by rw [h]; simp [World.drew])
  clear hr0 hr1
  have HR : Hid _ := hrun
  clear h hx hbel hown hgr hblk hrun
  go_enter Try.func52, Try.ntmps52
  go_wp2_with fail
  go_region_law (first | (refine step_append_run rfl (.tmp 6) (.tmp 7) 33 rfl 8 rfl _ _ _ _ rfl rfl HR.out ?_))
  all_goals
    go_wp2_with fail
    refine retF rfl (w.heap.size + 1) _ _ rfl rfl (setF HW.out _ _) ?_
    rw [← List.length_append]
    refine ⟨_, rfl, owns_kept (Kp.set2 _ _ _ _) HO.out (fun g hg => ?_), HKp.out.trans (Kp.set2 _ _ _ _) (fun x hx hl => by omega), ?_⟩
    · rcases HBk.out with h | h
      · rw [h] at hg
        have := HV.out g hg
        omega
      · rw [h] at hg
        cases hg
        omega
    · rcases HBk.out with h | h
      · exact .inl h
      · exact .inr ⟨_, h, by omega⟩
end Go.Proofs.Ytbbmbjlpccdclaa
