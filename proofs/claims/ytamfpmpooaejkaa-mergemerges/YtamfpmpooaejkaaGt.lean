/- Tools for regions that draw their order, in a function and in a round. -/
import Derived.Test.YtamfpmpooaejkaaGa
import Derived.Deep.RegionHeld
import Derived.Deep.RegionHeldLaw
import Derived.WalkKit
import Derived.OwnWalkIn
import Derived.TacticsInMore
namespace Go.Proofs.Ytamfpmpooaejkaa
open Go.RowKit
set_option linter.unusedVariables false

/-- An operation that yields in every such world is taken first; its slot is named. -/
theorem takeD {P : Program} {ops : Array Oper} {Q : Exit → Act → World → Prop} {md : Region.Mode} {S : World → Prop} {i : Nat} {oi : Oper} {d : Tmp} {v : Value} {fuel : Nat} {listed : Array Bool} {a : Act} {w : World} (hi : ops[i]? = some oi) (hd : oi.dst = some d)
    (hs : Region.noSelect ops = true) (hf : Region.free md ops listed i = true) (hr : (Region.ready md ops listed).contains i = true)
    (hQ : ∀ c a w, Q (.panic c) { tmps := a.tmps.setIfInBounds d v, defers := a.defers } w → Q (.panic c) a w) (hy : YieldsIf P ops S oi v a) (hS : S w)
    (h : wpAnyH P md ops Q S fuel (listed.setIfInBounds i true) { tmps := a.tmps.setIfInBounds d v, defers := a.defers } w) : wpAnyH P md ops Q S (fuel + 1) listed a w := by
  have hp : ∀ a : Act, a.put oi.dst v = { tmps := a.tmps.setIfInBounds d v, defers := a.defers } := fun a => by rw [hd]; rfl
  refine wpAnyH_take hi hs hf hr (fun c a w h => hQ c a w (by rw [hp] at h; exact h)) hy hS ?_
  rw [hp]
  exact h

theorem wpOp_calls {P : Program} {ops : Array Oper} {Q : Exit → Act → World → Prop} {i : Nat} {K : Act → World → Prop} {a : Act} {w : World} {o : Oper} {d : Tmp} {f : FuncId} {args : Array Value} (hi : ops[i]? = some o) (hd : o.dst = some d) (hw : Region.wanted o (yielded ops a.tmps) = true)
    (hrun : (execOp a.eval o).run P w = .ok (.enter f args) w) (R : Ending → World → Prop) (h : Calls P f args w R) (hR : ∀ v w'', R (.returned v) w'' → K { tmps := a.tmps.setIfInBounds d v, defers := a.defers } w'') (hP : ∀ ch w'', R (.panicked ch) w'' → Q (.panic ch) a w'') (hO : ∀ w'', ¬ R .outgrown w'') : wpOp P ops Q i K a w := by
  have hp : ∀ v, a.put o.dst v = { tmps := a.tmps.setIfInBounds d v, defers := a.defers } := fun v => by rw [hd]; rfl
  unfold wpOp
  simp only [hi]
  rw [if_pos hw]
  refine .inl ?_
  unfold Oper.wp
  rw [hrun]
  exact h.mono fun e w'' he => by
    cases e with
    | returned v => show K (a.put o.dst v) w''; rw [hp]; exact hR v w'' he
    | panicked ch => exact hP ch w'' he
    | outgrown => exact absurd he (hO w'')

/-- What an operation does out of a round it does in one, if it defers nothing. -/
theorem oper_round {P : Program} {o : Oper} {a : Act} {w : World} {K : Act → World → Prop} {Q : Exit → Act → World → Prop} (l n : Nat) (hnd : ∀ c, o.op ≠ .defer c) (h : o.wp P a w K Q) : o.wpIn (Fence.wide.inRound l) n P a w K Q := by
  refine ⟨fun f _ => trivial, ?_⟩
  rw [Oper.semAt_eq _ _ _ hnd]
  unfold Oper.wp at h
  cases hr : (execOp a.eval o).run P w with
  | halt x w' =>
    rw [hr] at h
    cases x with
    | panic v => exact h
    | _ => exact h.elim
  | ok nx w' =>
    rw [hr] at h
    cases nx with
    | value v => exact h
    | skip => exact h
    | defer d => exact h
    | enter f args => exact ⟨(fun hd => by cases hd), CallsIn.inRound l (callsIn_wide.2 h)⟩
    | row r args => exact ⟨(fun hd => by cases hd), fun c cs _ => let ⟨v, w2, r1, r2⟩ := h c cs; ⟨v, w2, r1, stepsIn_wide.2 r2⟩⟩
    | _ => exact h.elim

theorem any_round {P : Program} {md : Region.Mode} {ops : Array Oper} {Q : Exit → Act → World → Prop} (l n : Nat) (hnd : ∀ (i : Nat) (o : Oper), ops[i]? = some o → ∀ c, o.op ≠ .defer c) (hno : ¬ LetsOut Q) : ∀ (fuel : Nat) (listed : Array Bool) (a : Act) (w : World), wpAny P md ops Q fuel listed a w → wpAnyIn (Fence.wide.inRound l) n P md ops Q fuel listed a w
  | 0, _, _, _, h => h
  | fuel + 1, listed, a, w, h => by
    refine ⟨h.1, fun i hi => ?_⟩
    have h2 := h.2 i hi
    unfold wpOp at h2
    unfold wpOpIn
    cases ho : ops[i]? with
    | none =>
      rw [ho] at h2
      exact any_round l n hnd hno fuel _ _ _ h2
    | some o =>
      rw [ho] at h2
      simp only at h2 ⊢
      by_cases hw : Region.wanted o (yielded ops a.tmps) = true
      · rw [if_pos hw] at h2 ⊢
        rcases h2 with h2 | h2
        · exact Oper.wpIn_mono (fun a w h => any_round l n hnd hno fuel _ _ _ h) (oper_round l n (hnd i o ho) h2)
        · exact absurd h2.2 hno
      · rw [if_neg hw] at h2 ⊢
        exact ⟨fun f _ => trivial, any_round l n hnd hno fuel _ _ _ h2⟩

/-- A region that draws its order, in a round. -/
theorem regionH_round {P : Program} {id : Nat} {ops : Array Oper} {Q : Exit → Act → World → Prop} {S : World → Prop} {a : Act} {w : World} (l n : Nat) (hm : P.follows .mixedOrders = true) (hnd : ∀ (i : Nat) (o : Oper), ops[i]? = some o → ∀ c, o.op ≠ .defer c) (hno : ¬ LetsOut Q)
    (h : wpAnyH P .any ops Q S ops.size (Array.replicate ops.size false) a w.drew) : (Code.region id ops true).wpIn (Fence.wide.inRound l) n P Q a w :=
  wpIn_region_any hm (any_round l n hnd hno _ _ _ _ (wpAny_of_held _ _ _ _ h))

def noDefer (o : Oper) : Bool := match o.op with
  | .defer _ => false
  | _ => true

theorem noDefer_all {ops : Array Oper} (h : ops.all noDefer = true) : ∀ (i : Nat) (o : Oper), ops[i]? = some o → ∀ c, o.op ≠ .defer c := by
  intro i o ho c hc
  rw [Array.all_eq_true] at h
  obtain ⟨hi, he⟩ := Array.getElem?_eq_some_iff.1 ho
  have := h i hi
  rw [he] at this
  unfold noDefer at this
  rw [hc] at this
  cases this

theorem wpOp_value {P : Program} {ops : Array Oper} {Q : Exit → Act → World → Prop} {i : Nat} {K : Act → World → Prop} {a : Act} {w w' : World} {o : Oper} {d : Tmp} {v : Value} (hi : ops[i]? = some o) (hd : o.dst = some d) (hw : Region.wanted o (yielded ops a.tmps) = true)
    (hrun : (execOp a.eval o).run P w = .ok (.value v) w') (hK : K { tmps := a.tmps.setIfInBounds d v, defers := a.defers } w') : wpOp P ops Q i K a w := by
  have hp : a.put o.dst v = { tmps := a.tmps.setIfInBounds d v, defers := a.defers } := by rw [hd]; rfl
  unfold wpOp
  simp only [hi]
  rw [if_pos hw]
  refine .inl ?_
  unfold Oper.wp
  rw [hrun]
  show K (a.put o.dst v) w'
  rw [hp]
  exact hK

def setAll (tm : Array Value) : List (Nat × Value) → Array Value
  | [] => tm
  | (d, v) :: r => setAll (tm.setIfInBounds d v) r

/-- A region that draws, ended the same way in all its orders. -/
theorem region_then {P : Program} {id : Nat} {ops : Array Oper} {dr : Bool} {Q : Exit → Act → World → Prop} {K : Act → World → Prop} {a : Act} {w : World} (L : List (Nat × Value)) (w2 : World)
    (h : (Code.region id ops dr).wp P (fun e a' w' => e = .normal ∧ a' = { tmps := setAll a.tmps L, defers := a.defers } ∧ w' = w2) a w)
    (h2 : K { tmps := setAll a.tmps L, defers := a.defers } w2) : (Code.region id ops dr).wp P (Exit.then K Q) a w := by
  refine wp_mono h ?_
  rintro e a' w' ⟨rfl, rfl, rfl⟩
  exact h2

theorem oneC {P : Program} {ops : Array Oper} {Q : Exit → Act → World → Prop} {md : Region.Mode} {S : World → Prop} {i : Nat} {o : Oper} {d : Tmp} {f : FuncId} {args : Array Value} {v : Value} {fuel : Nat} {listed : Array Bool} {a : Act} {w : World}
    (hi : ops[i]? = some o) (hd : o.dst = some d) (hr : Region.ready md ops listed = [i]) (hw : Region.wanted o (yielded ops a.tmps) = true) (hrun : ∀ wx, (execOp a.eval o).run P wx = .ok (.enter f args) wx)
    (hS : S w) (hc : ∀ wx, S wx → Calls P f args wx fun e w' => e = .returned v ∧ S w')
    (h : ∀ w', S w' → wpAnyH P md ops Q S fuel (listed.setIfInBounds i true) { tmps := a.tmps.setIfInBounds d v, defers := a.defers } w') : wpAnyH P md ops Q S (fuel + 1) listed a w := by
  refine wpAnyH_all hr (by simp) (List.forall_mem_singleton.2 ?_)
  refine wpOp_calls hi hd hw (hrun w) _ (hc w hS) ?_ (fun _ _ h => by cases h.1) (fun _ h => by cases h.1)
  rintro v' w'' ⟨h1, h2⟩
  cases h1
  exact ⟨h2, h w'' h2⟩

/-- A region that draws, ended with the same slots in all its orders. -/
theorem region_thenF {P : Program} {id : Nat} {ops : Array Oper} {dr : Bool} {Q : Exit → Act → World → Prop} {K : Act → World → Prop} {a : Act} {w : World} (L : List (Nat × Value)) (F : World → Prop)
    (h : (Code.region id ops dr).wp P (fun e a' w' => e = .normal ∧ a' = { tmps := setAll a.tmps L, defers := a.defers } ∧ F w') a w)
    (h2 : ∀ w', F w' → K { tmps := setAll a.tmps L, defers := a.defers } w') : (Code.region id ops dr).wp P (Exit.then K Q) a w := by
  refine wp_mono h ?_
  rintro e a' w' ⟨rfl, rfl, hF⟩
  exact h2 w' hF

theorem wpOp_un {P : Program} {ops : Array Oper} {Q : Exit → Act → World → Prop} {i : Nat} {K : Act → World → Prop} {a : Act} {w : World} {o : Oper} {d : Tmp} (hi : ops[i]? = some o) (hd : o.dst = some d) (hw : Region.wanted o (yielded ops a.tmps) = false)
    (hK : K { tmps := a.tmps.setIfInBounds d undef, defers := a.defers } w) : wpOp P ops Q i K a w := by
  have hp : a.put o.dst undef = { tmps := a.tmps.setIfInBounds d undef, defers := a.defers } := by rw [hd]; rfl
  unfold wpOp
  simp only [hi]
  rw [if_neg (by rw [hw]; decide), hp]
  exact hK

end Go.Proofs.Ytamfpmpooaejkaa
