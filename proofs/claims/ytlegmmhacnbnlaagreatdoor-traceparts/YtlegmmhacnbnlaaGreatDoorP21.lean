/- Texts of the seat, packed: JAr. -/
import Derived.Test.YtlegmmhacnbnlaaGreatDoorP14
import Derived.OrdersIn
import Derived.RangeFuncCalls
/- A region that draws its order, in a round: what only reads is taken first, where a condition on the world holds throughout; a call by its contract; a yield by its round. -/
namespace Go.Proofs.YtlegmmhacnbnlaaGreatDoor.J.Tz
open Go.RowKit Go.Proofs.YtlegmmhacnbnlaaGreatDoor.J
set_option linter.unusedVariables false

def noDefer (o : Oper) : Bool := match o.op with
  | .defer _ => false
  | _ => true

theorem noDefer_all {ops : Array Oper} (h : ops.all noDefer = true) : ∀ (i : Nat) (o : Oper), ops[i]? = some o → ∀ c, o.op ≠ .defer c := by
  intro i o ho c hc
  rw [Array.all_eq_true] at h
  obtain ⟨hi, he⟩ := Array.getElem?_eq_some_iff.1 ho
  have := h i hi
  rw [he] at this
  unfold noDefer at this
  rw [hc] at this
  cases this

variable {P : Program} {ops : Array Oper} {Q : Exit → Act → World → Prop} {md : Region.Mode} {S : World → Prop} {l n : Nat}

/-- Whatever order is drawn, in a round, and S holds behind each operation. -/
def anyR (l n : Nat) (P : Program) (md : Region.Mode) (ops : Array Oper) (Q : Exit → Act → World → Prop) (S : World → Prop) : Nat → Array Bool → Act → World → Prop
  | 0, ls, a, w => Region.ready md ops ls = [] ∧ Q .normal a w
  | k + 1, ls, a, w => (Region.ready md ops ls = [] → Q .normal a w) ∧ ∀ i ∈ Region.ready md ops ls, wpOpIn (Fence.wide.inRound l) n P ops Q i (fun a' w' => S w' ∧ anyR l n P md ops Q S k (ls.setIfInBounds i true) a' w') a w

theorem anyR_in : ∀ (k : Nat) (ls : Array Bool) (a : Act) (w : World), anyR l n P md ops Q S k ls a w → wpAnyIn (Fence.wide.inRound l) n P md ops Q k ls a w
  | 0, _, _, _, h => h
  | k + 1, _, _, _, h => ⟨h.1, fun i hi => wpOpIn_mono (fun a' w' h' => anyR_in k _ a' w' h'.2) (h.2 i hi)⟩

theorem opR_val {i : Nat} {o : Oper} {v : Value} {a : Act} {w : World} {K : Act → World → Prop} (hnd : ∀ c, o.op ≠ .defer c) (hi : ops[i]? = some o) (hy : YieldsIf P ops S o v a) (hS : S w) (h : K (a.put o.dst v) w) : wpOpIn (Fence.wide.inRound l) n P ops Q i K a w := by
  unfold Go.wpOpIn
  simp only [hi]
  rcases hy with ⟨hw, hv⟩ | ⟨hw, rfl⟩
  · rw [if_pos hw]
    refine ⟨fun f _ => trivial, ?_⟩
    rw [Oper.semAt_eq _ _ _ hnd, hv w hS]
    exact h
  · rw [if_neg (by rw [hw]; decide)]
    exact ⟨fun f _ => trivial, h⟩

/-- An operation apart from one that only reads. -/
theorem opR_put {i j : Nat} {oi oj : Oper} {v : Value} (hnd : ∀ c, oj.op ≠ .defer c) (hj : ops[j]? = some oj) (hap : oi.apart ops oj = true) (hsi : ∀ cs b, oi.op ≠ .select cs b) (hsj : ∀ cs b, oj.op ≠ .select cs b)
    (hQ : ∀ c a w, Q (.panic c) (a.put oi.dst v) w → Q (.panic c) a w) {K : Act → World → Prop} {a : Act} {w : World} (hy : YieldsIf P ops S oi v a) (h : wpOpIn (Fence.wide.inRound l) n P ops Q j K (a.put oi.dst v) w) :
    wpOpIn (Fence.wide.inRound l) n P ops Q j (fun a' w' => YieldsIf P ops S oi v a' ∧ K (a'.put oi.dst v) w') a w := by
  obtain ⟨p1, p2, p3⟩ := Oper.apart_spec hap
  have kp : ∀ u, YieldsIf P ops S oi v (a.put oj.dst u) := fun u => hy.of_same (execOp_put oi hsi a oj.dst u p3) (wanted_put oi a oj.dst u p3)
  have sw : ∀ {u : Value} {w'' : World}, K ((a.put oi.dst v).put oj.dst u) w'' → K ((a.put oj.dst u).put oi.dst v) w'' := fun {u} {w''} hk => by rw [← Act.put_comm a v u p2]; exact hk
  unfold Go.wpOpIn at *
  simp only [hj] at *
  rw [wanted_put oj a oi.dst v p1] at h
  by_cases hw : Region.wanted oj (yielded ops a.tmps) = true
  rotate_left
  · rw [if_neg hw] at h ⊢
    exact ⟨fun f _ => trivial, kp _, sw h.2⟩
  rw [if_pos hw] at h ⊢
  refine ⟨fun f _ => trivial, ?_⟩
  have h := h.2
  rw [Oper.semAt_eq _ _ _ hnd, execOp_put oj hsj a oi.dst v p1] at h
  rw [Oper.semAt_eq _ _ _ hnd]
  cases hr : (execOp a.eval oj).run P w with
  | halt x w' =>
    rw [hr] at h
    cases x <;> simp only [Oper.uponIn] at h ⊢
    case panic u => exact hQ _ _ _ h
  | ok x w' =>
    rw [hr] at h
    cases x <;> simp only [Oper.uponIn] at h ⊢
    case value u => exact ⟨kp u, sw h⟩
    case skip => exact ⟨kp _, sw h⟩
    case defer d =>
      refine ⟨(show YieldsIf P ops S oi v { a with defers := d :: a.defers } from hy.of_same rfl rfl).of_same (execOp_put oi hsi _ oj.dst _ p3) (wanted_put oi _ oj.dst _ p3), ?_⟩
      rw [← Act.put_comm _ v undef p2, ← Act.put_defers]
      exact h
    case enter f args =>
      refine ⟨h.1, CallsIn.mono h.2 fun e w'' he => ?_⟩
      cases e with
      | returned u => exact ⟨kp u, sw he⟩
      | panicked c => exact hQ _ _ _ he
      | outgrown => exact he
    case row r args => exact ⟨h.1, RowsIn.mono h.2 fun u w'' he => ⟨kp u, sw he⟩⟩
    case round l' f t cas bd =>
      refine ⟨h.1, RoundIn.mono h.2 fun e w'' he => ?_⟩
      cases e with
      | returned u => exact ⟨kp u, sw he⟩
      | panicked c => exact hQ _ _ _ he
      | outgrown => exact he

theorem anyR_first {i : Nat} {oi : Oper} {v : Value} (hnd : ∀ (i : Nat) (o : Oper), ops[i]? = some o → ∀ c, o.op ≠ .defer c) (hi : ops[i]? = some oi) (hsel : ∀ (j : Nat) (o : Oper) cs b, ops[j]? = some o → o.op ≠ .select cs b) (hQ : ∀ c a w, Q (.panic c) (a.put oi.dst v) w → Q (.panic c) a w) :
    ∀ (k : Nat) (ls : Array Bool) (a : Act) (w : World), (∀ j oj, ops[j]? = some oj → j ≠ i → ls.getD j true = false → (∀ e ∈ oj.after, Region.binds md e = true → e.on ≠ i) → oi.apart ops oj = true) →
      i ∈ Region.ready md ops ls → YieldsIf P ops S oi v a → S w → anyR l n P md ops Q S k (ls.setIfInBounds i true) (a.put oi.dst v) w → anyR l n P md ops Q S (k + 1) ls a w := by
  intro k
  induction k with
  | zero =>
    intro ls a w _ hr hy hS H
    refine ⟨(fun h => by rw [h] at hr; cases hr), fun j hj => ?_⟩
    by_cases e : j = i
    · subst e
      exact opR_val (hnd _ _ hi) hi hy hS ⟨hS, H⟩
    · have h9 := ready_mono hj e
      rw [H.1] at h9
      cases h9
  | succ k ih =>
    intro ls a w hfree hr hy hS H
    refine ⟨(fun h => by rw [h] at hr; cases hr), fun j hj => ?_⟩
    by_cases e : j = i
    · subst e
      exact opR_val (hnd _ _ hi) hi hy hS ⟨hS, H⟩
    obtain ⟨hun, oj, hoj, hall⟩ := mem_ready.1 hj
    have hno : ∀ e ∈ oj.after, Region.binds md e = true → e.on ≠ i := fun e he hb h9 => by
      have q1 := hall e he hb
      have q0 := (mem_ready.1 hr).1
      rw [h9] at q1
      rcases Nat.lt_or_ge i ls.size with h' | h'
      · simp [h'] at q0 q1
        rw [q0] at q1
        cases q1
      · simp [Array.getElem?_eq_none h'] at q1
    refine wpOpIn_mono (fun a' w' h3 => ⟨h3.2.1, ih (ls.setIfInBounds j true) a' w' (fun q oq hoq hqi hqu hqn => ?_) (ready_mono hr (Ne.symm e)) h3.1 h3.2.1 ?_⟩) (opR_put (i := i) (hnd j oj hoj) hoj (hfree j oj hoj e hun hno) (fun cs b => hsel i oi cs b hi) (fun cs b => hsel j oj cs b hoj) hQ hy (H.2 j (ready_mono hj e)))
    · refine hfree q oq hoq hqi ?_ hqn
      by_cases hjq : j = q
      · subst hjq
        exact hun
      · rw [getD_set_ne true hjq] at hqu
        exact hqu
    · rw [Array.setIfInBounds_comm _ _ e]
      exact h3.2.2

/-- The moves: what only reads, first. -/
theorem takeR {i : Nat} {oi : Oper} {d : Tmp} {v : Value} {fuel : Nat} {listed : Array Bool} {a : Act} {w : World} (hnd : ops.all noDefer = true) (hi : ops[i]? = some oi) (hd : oi.dst = some d)
    (hs : Region.noSelect ops = true) (hf : Region.free md ops listed i = true) (hr : (Region.ready md ops listed).contains i = true)
    (hQ : ∀ c a w, Q (.panic c) { tmps := a.tmps.setIfInBounds d v, defers := a.defers } w → Q (.panic c) a w) (hy : YieldsIf P ops S oi v a) (hS : S w)
    (h : anyR l n P md ops Q S fuel (listed.setIfInBounds i true) { tmps := a.tmps.setIfInBounds d v, defers := a.defers } w) : anyR l n P md ops Q S (fuel + 1) listed a w := by
  have hp : ∀ a : Act, a.put oi.dst v = { tmps := a.tmps.setIfInBounds d v, defers := a.defers } := fun a => by rw [hd]; rfl
  refine anyR_first (noDefer_all hnd) hi (Region.noSelect_spec hs) (fun c a w h => hQ c a w (by rw [hp] at h; exact h)) fuel listed a w (Region.free_spec hi hf) (by simpa using hr) hy hS ?_
  rw [hp]
  exact h

/-- A call, by its contract. -/
theorem callR {i : Nat} {o : Oper} {d : Tmp} {f : FuncId} {args : Array Value} {v : Value} {fuel : Nat} {listed : Array Bool} {a : Act} {w : World} {R : World → Prop} (hi : ops[i]? = some o) (hnd : ∀ c, o.op ≠ .defer c) (hd : o.dst = some d) (hr : Region.ready md ops listed = [i]) (hw : Region.wanted o (yielded ops a.tmps) = true) (hrun : ∀ wx, (execOp a.eval o).run P wx = .ok (.enter f args) wx)
    (hc : Calls P f args w fun e w' => e = .returned v ∧ R w') (hRS : ∀ w', R w' → S w')
    (h : ∀ w', R w' → anyR l n P md ops Q S fuel (listed.setIfInBounds i true) { tmps := a.tmps.setIfInBounds d v, defers := a.defers } w') : anyR l n P md ops Q S (fuel + 1) listed a w := by
  have hp : a.put o.dst v = { tmps := a.tmps.setIfInBounds d v, defers := a.defers } := by rw [hd]; rfl
  refine ⟨(fun h0 => by rw [hr] at h0; cases h0), fun j hj => ?_⟩
  rw [hr] at hj
  obtain rfl := List.mem_singleton.1 hj
  unfold Go.wpOpIn
  simp only [hi]
  rw [if_pos hw]
  refine ⟨fun f _ => trivial, ?_⟩
  rw [Oper.semAt_eq _ _ _ hnd, hrun w]
  refine ⟨(fun hd => by cases hd), (CallsIn.inRound l (callsIn_wide.2 hc)).mono ?_⟩
  rintro e w' ⟨rfl, hR⟩
  refine ⟨hRS w' hR, ?_⟩
  rw [hp]
  exact h w' hR

/-- A yield, by its round. -/
theorem yieldR {i : Nat} {o : Oper} {d : Tmp} {fuel : Nat} {listed : Array Bool} {a : Act} {w : World} {R : Bool → World → Prop} {l' : Nat} {f' : FuncId} {t' : Array Value} {cas bd : Code} (hi : ops[i]? = some o) (hnd : ∀ c, o.op ≠ .defer c) (hd : o.dst = some d) (hr : Region.ready md ops listed = [i]) (hw : Region.wanted o (yielded ops a.tmps) = true) (hrun : (execOp a.eval o).run P w = .ok (.round l' f' t' cas bd) w)
    (hc : RoundIn Fence.wide (n - 1) P l' f' t' cas bd w fun e w' => ∃ t : Bool, e = .returned (.bool t) ∧ R t w') (hRS : ∀ t w', R t w' → S w')
    (h : ∀ t w', R t w' → anyR l n P md ops Q S fuel (listed.setIfInBounds i true) { tmps := a.tmps.setIfInBounds d (.bool t), defers := a.defers } w') : anyR l n P md ops Q S (fuel + 1) listed a w := by
  have hp : ∀ v, a.put o.dst v = { tmps := a.tmps.setIfInBounds d v, defers := a.defers } := fun v => by rw [hd]; rfl
  refine ⟨(fun h0 => by rw [hr] at h0; cases h0), fun j hj => ?_⟩
  rw [hr] at hj
  obtain rfl := List.mem_singleton.1 hj
  unfold Go.wpOpIn
  simp only [hi]
  rw [if_pos hw]
  refine ⟨fun f _ => trivial, ?_⟩
  rw [Oper.semAt_eq _ _ _ hnd, hrun]
  refine ⟨(fun hd => by cases hd), RoundIn.mono (F := Fence.wide.inRound l) hc ?_⟩
  rintro e w' ⟨t, rfl, hR⟩
  refine ⟨hRS t w' hR, ?_⟩
  rw [hp]
  exact h t w' hR

/-- Whatever may come up. -/
theorem readyR {fuel : Nat} {listed : Array Bool} {a : Act} {w : World} {rs : List Nat} (hr : Region.ready md ops listed = rs) (hne : rs ≠ [])
    (h : ∀ i ∈ rs, wpOpIn (Fence.wide.inRound l) n P ops Q i (fun a' w' => S w' ∧ anyR l n P md ops Q S fuel (listed.setIfInBounds i true) a' w') a w) : anyR l n P md ops Q S (fuel + 1) listed a w :=
  ⟨fun h0 => absurd (hr.symm.trans h0) hne, fun i hi => h i (hr ▸ hi)⟩
/-- An operation that yields, and may turn the world. -/
theorem valR {i : Nat} {o : Oper} {d : Tmp} {v : Value} {fuel : Nat} {listed : Array Bool} {a : Act} {w w' : World} (hi : ops[i]? = some o) (hnd : ∀ c, o.op ≠ .defer c) (hd : o.dst = some d) (hw : Region.wanted o (yielded ops a.tmps) = true) (hrun : (execOp a.eval o).run P w = .ok (.value v) w') (hS : S w')
    (h : anyR l n P md ops Q S fuel (listed.setIfInBounds i true) { tmps := a.tmps.setIfInBounds d v, defers := a.defers } w') :
    wpOpIn (Fence.wide.inRound l) n P ops Q i (fun a' w' => S w' ∧ anyR l n P md ops Q S fuel (listed.setIfInBounds i true) a' w') a w := by
  have hp : a.put o.dst v = { tmps := a.tmps.setIfInBounds d v, defers := a.defers } := by rw [hd]; rfl
  unfold Go.wpOpIn
  simp only [hi]
  rw [if_pos hw]
  refine ⟨fun f _ => trivial, ?_⟩
  rw [Oper.semAt_eq _ _ _ hnd, hrun]
  simp only [Oper.uponIn]
  rw [hp]
  exact ⟨hS, h⟩
/-- A store. -/
theorem setR {i : Nat} {o : Oper} {fuel : Nat} {listed : Array Bool} {a : Act} {w w' : World} (hi : ops[i]? = some o) (hnd : ∀ c, o.op ≠ .defer c) (hd : o.dst = none) (hw : Region.wanted o (yielded ops a.tmps) = true) (hrun : (execOp a.eval o).run P w = .ok .skip w') (hS : S w')
    (h : anyR l n P md ops Q S fuel (listed.setIfInBounds i true) a w') :
    wpOpIn (Fence.wide.inRound l) n P ops Q i (fun a' w' => S w' ∧ anyR l n P md ops Q S fuel (listed.setIfInBounds i true) a' w') a w := by
  have hp : a.put o.dst undef = a := by rw [hd]; rfl
  unfold Go.wpOpIn
  simp only [hi]
  rw [if_pos hw]
  refine ⟨fun f _ => trivial, ?_⟩
  rw [Oper.semAt_eq _ _ _ hnd, hrun]
  simp only [Oper.uponIn]
  rw [hp]
  exact ⟨hS, h⟩

theorem doneR {listed : Array Bool} {a : Act} {w : World} (hr : Region.ready md ops listed = []) (h : Q .normal a w) : ∀ fuel, anyR l n P md ops Q S fuel listed a w
  | 0 => ⟨hr, h⟩
  | _ + 1 => ⟨fun _ => h, by rw [hr]; simp⟩

/-- The region in a round, whatever follows. -/
theorem regionR {id : Nat} {a : Act} {w : World} {β : Type} (L : β → List (Nat × Value)) (F : β → World → Prop) (hm : P.follows .mixedOrders = true)
    (h : anyR l n P .any ops (fun e a' w' => e = .normal ∧ ∃ z, a' = { tmps := setAll a.tmps (L z), defers := a.defers } ∧ F z w') S ops.size (Array.replicate ops.size false) a w.drew)
    (h2 : ∀ z w', F z w' → Q .normal { tmps := setAll a.tmps (L z), defers := a.defers } w') : (Code.region id ops true).wpIn (Fence.wide.inRound l) n P Q a w := by
  refine wpIn_mono (wpIn_region_any hm (anyR_in _ _ _ _ h)) ?_
  rintro e a' w' ⟨rfl, z, rfl, hF⟩
  exact h2 z w' hF
end Go.Proofs.YtlegmmhacnbnlaaGreatDoor.J.Tz

