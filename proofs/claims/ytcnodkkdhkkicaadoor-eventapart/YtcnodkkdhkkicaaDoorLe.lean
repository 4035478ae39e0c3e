/- Calls in a region that draws its order: one that is ready, and two that are. -/
import Derived.Test.YtcnodkkdhkkicaaDoorEm
namespace Go.Proofs.YtcnodkkdhkkicaaDoor
open Go.RowKit
set_option linter.unusedVariables false

theorem oneC {P : Program} {ops : Array Oper} {Q : Exit → Act → World → Prop} {md : Region.Mode} {S : World → Prop} {i : Nat} {o : Oper} {d : Tmp} {f : FuncId} {args : Array Value} {v : Value} {fuel : Nat} {listed : Array Bool} {a : Act} {w : World}
    (hi : ops[i]? = some o) (hd : o.dst = some d) (hr : Region.ready md ops listed = [i]) (hw : Region.wanted o (yielded ops a.tmps) = true) (hrun : ∀ wx, (execOp a.eval o).run P wx = .ok (.enter f args) wx)
    (hS : S w) (hc : ∀ wx, S wx → Calls P f args wx fun e w' => e = .returned v ∧ S w')
    (h : ∀ w', S w' → wpAnyH P md ops Q S fuel (listed.setIfInBounds i true) { tmps := a.tmps.setIfInBounds d v, defers := a.defers } w') : wpAnyH P md ops Q S (fuel + 1) listed a w := by
  refine wpAnyH_all hr (by simp) (List.forall_mem_singleton.2 ?_)
  refine wpOp_calls hi hd hw (hrun w) _ (hc w hS) ?_ (fun _ _ h => by cases h.1) (fun _ h => by cases h.1)
  rintro v' w'' ⟨h1, h2⟩
  cases h1
  exact ⟨h2, h w'' h2⟩

theorem twoC {P : Program} {ops : Array Oper} {Q : Exit → Act → World → Prop} {md : Region.Mode} {S : World → Prop} {i j : Nat} {o u : Oper} {d g : Tmp} {f k : FuncId} {args brgs : Array Value} {v z : Value} {fuel : Nat} {listed : Array Bool} {a : Act} {w : World}
    (hi : ops[i]? = some o) (hj : ops[j]? = some u) (hd : o.dst = some d) (hg : u.dst = some g) (hdg : d ≠ g) (hij : i ≠ j)
    (hr : Region.ready md ops listed = [i, j]) (hri : Region.ready md ops (listed.setIfInBounds i true) = [j]) (hrj : Region.ready md ops (listed.setIfInBounds j true) = [i])
    (hw : Region.wanted o (yielded ops a.tmps) = true) (hu : Region.wanted u (yielded ops a.tmps) = true)
    (hw2 : Region.wanted o (yielded ops (a.tmps.setIfInBounds g z)) = true) (hu2 : Region.wanted u (yielded ops (a.tmps.setIfInBounds d v)) = true)
    (r1 : ∀ wx, (execOp a.eval o).run P wx = .ok (.enter f args) wx) (r2 : ∀ wx, (execOp a.eval u).run P wx = .ok (.enter k brgs) wx)
    (r3 : ∀ wx, (execOp ({ tmps := a.tmps.setIfInBounds g z, defers := a.defers } : Act).eval o).run P wx = .ok (.enter f args) wx) (r4 : ∀ wx, (execOp ({ tmps := a.tmps.setIfInBounds d v, defers := a.defers } : Act).eval u).run P wx = .ok (.enter k brgs) wx)
    (hS : S w) (hc : ∀ wx, S wx → Calls P f args wx fun e w' => e = .returned v ∧ S w') (hk : ∀ wx, S wx → Calls P k brgs wx fun e w' => e = .returned z ∧ S w')
    (h : ∀ w', S w' → wpAnyH P md ops Q S fuel ((listed.setIfInBounds i true).setIfInBounds j true) { tmps := (a.tmps.setIfInBounds d v).setIfInBounds g z, defers := a.defers } w') : wpAnyH P md ops Q S (fuel + 2) listed a w := by
  refine wpAnyH_all (fuel := fuel + 1) hr (by simp) (List.forall_mem_cons.2 ⟨?_, List.forall_mem_singleton.2 ?_⟩)
  · refine wpOp_calls hi hd hw (r1 w) _ (hc w hS) ?_ (fun _ _ h => by cases h.1) (fun _ h => by cases h.1)
    rintro v' w'' ⟨h1, h2⟩
    cases h1
    exact ⟨h2, oneC hj hg hri hu2 r4 h2 hk h⟩
  · refine wpOp_calls hj hg hu (r2 w) _ (hk w hS) ?_ (fun _ _ h => by cases h.1) (fun _ h => by cases h.1)
    rintro v' w'' ⟨h1, h2⟩
    cases h1
    refine ⟨h2, oneC hi hd hrj hw2 r3 h2 hc ?_⟩
    intro w' hS'
    have := h w' hS'
    rw [Array.setIfInBounds_comm _ _ hdg, Array.setIfInBounds_comm _ _ hij] at this
    exact this

/-- A region that draws, ended with the same slots in all its orders. -/
theorem region_thenF {P : Program} {id : Nat} {ops : Array Oper} {dr : Bool} {Q : Exit → Act → World → Prop} {K : Act → World → Prop} {a : Act} {w : World} (L : List (Nat × Value)) (F : World → Prop)
    (h : (Code.region id ops dr).wp P (fun e a' w' => e = .normal ∧ a' = { tmps := setAll a.tmps L, defers := a.defers } ∧ F w') a w)
    (h2 : ∀ w', F w' → K { tmps := setAll a.tmps L, defers := a.defers } w') : (Code.region id ops dr).wp P (Exit.then K Q) a w := by
  refine wp_mono h ?_
  rintro e a' w' ⟨rfl, rfl, hF⟩
  exact h2 w' hF
end Go.Proofs.YtcnodkkdhkkicaaDoor
