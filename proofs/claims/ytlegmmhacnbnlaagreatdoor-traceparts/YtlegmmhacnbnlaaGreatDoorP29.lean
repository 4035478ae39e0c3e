/- Texts of the seat, packed: Pa Za. -/
import Derived.Test.YtlegmmhacnbnlaaGreatDoorP26
import Derived.Below
import Derived.RangeFuncBound
import Derived.RangeFuncCalls
import Derived.RangeFuncLeaves
import Derived.RangeFuncNested
/- The plain side of TraceParts: what Order asks, by the deeds; each beginning of a trace that is in order is. It names no number of a program. -/
namespace Go.Proofs.YtlegmmhacnbnlaaGreatDoor.J.Tz
set_option linter.unusedVariables false
set_option maxRecDepth 100000

/-- The spots of a step's undoing, and of the step. -/
def unD (l : List Ef) (i : Int) : Sp := spD (dd l 0 (i, true, 0))
def stD (l : List Ef) (i : Int) : Sp := spD (dd l 0 (i, false, 0))
/-- Undone ahead of being done, or when it was undone. -/
def amissP (l : List Ef) (i : Int) : Prop := (unD l i).first < (stD l i).well ∨ (unD l i).well < (unD l i).last
/-- Undone ahead of one that leans on it. -/
def earlyP (O : Int → Int → Prop) (l : List Ef) (i : Int) : Prop := (unD l i).well ≠ never ∧ ∃ k s, dd l 0 k = some s ∧ k.2.1 = true ∧ s.well ≠ never ∧ (unD l i).first < s.well ∧ O i k.1
/-- Is all in order? -/
def inOrd (st : Int → Bool) (n : Nat) (O : Int → Int → Prop) (l : List Ef) : Prop := (∀ e ∈ l, st e.i = true) ∧ ∀ i : Nat, i < n → ¬ amissP l i ∧ ¬ earlyP O l i

theorem never_eq : never = 9223372036854775807 := rfl
attribute [local irreducible] never
/-- Nothing is ahead of where it began. -/
theorem spD_ge (k : Int × Bool × Int) : ∀ (l : List Ef) (a : Nat), ((a : Int) + l.length ≤ never) → (a : Int) ≤ (spD (ddL a l k)).first ∧ (a : Int) ≤ (spD (ddL a l k)).well ∧ (spD (ddL a l k)).first ≤ never ∧ (spD (ddL a l k)).well ≤ never ∧ (spD (ddL a l k)).last ≤ never
  | [], a, h => by
    have h1 : (a : Int) ≤ never := by have : ((([] : List Ef).length : Nat) : Int) = 0 := rfl; omega
    exact ⟨h1, h1, Int.le_refl never, Int.le_refl never, Int.le_refl never⟩
  | e :: l, a, h => by
    have ih := spD_ge k l (a + 1) (by simp at h ⊢; omega)
    simp only [List.length_cons] at h
    unfold ddL
    by_cases he : k = (e.i, e.u, 0)
    · rw [if_pos he]
      cases hd : ddL (a + 1) l k with
      | none =>
        simp only [spD, Option.getD_some]
        refine ⟨Int.le_refl _, ?_, by omega, ?_, by omega⟩ <;> (split <;> omega)
      | some s =>
        rw [hd] at ih
        simp only [spD, Option.getD_some] at ih ⊢
        obtain ⟨i1, i2, i3, i4, i5⟩ := ih
        refine ⟨Int.le_refl _, ?_, by omega, ?_, i5⟩ <;> (split <;> omega)
    · rw [if_neg he]
      obtain ⟨i1, i2, i3, i4, i5⟩ := ih
      refine ⟨?_, ?_, i3, i4, i5⟩ <;> omega

/-- Of a beginning. -/
theorem spD_take (k : Int × Bool × Int) : ∀ (l : List Ef) (a m : Nat), ((a : Int) + l.length ≤ never) →
    (spD (ddL a (l.take m) k)).first = (if (spD (ddL a l k)).first < a + m then (spD (ddL a l k)).first else never) ∧
    (spD (ddL a (l.take m) k)).well = (if (spD (ddL a l k)).well < a + m then (spD (ddL a l k)).well else never) ∧
    (ddL a (l.take m) k = none ∨ (spD (ddL a (l.take m) k)).last ≤ (spD (ddL a l k)).last) ∧
    ((ddL a (l.take m) k).isSome → (ddL a l k).isSome)
  | [], a, m, h => by
    rw [List.take_nil]
    have e1 : (spD (ddL a [] k)).first = never := rfl
    have e2 : (spD (ddL a [] k)).well = never := rfl
    rw [e1, e2]
    exact ⟨by rw [ite_self], by rw [ite_self], .inl rfl, id⟩
  | e :: l, a, 0, h => by
    have h1 := spD_ge k (e :: l) a h
    have : spD (ddL a ((e :: l).take 0) k) = ⟨never, never, never⟩ := rfl
    rw [this]
    refine ⟨?_, ?_, .inl rfl, fun h9 => by cases h9⟩
    · rw [if_neg (by omega)]
    · rw [if_neg (by omega)]
  | e :: l, a, m + 1, h => by
    have h' : ((a + 1 : Nat) : Int) + l.length ≤ never := by simp at h ⊢; omega
    have ih := spD_take k l (a + 1) m h'
    have hg := spD_ge k l (a + 1) h'
    simp only [List.length_cons] at h
    rw [List.take_succ_cons]
    unfold ddL
    by_cases he : k = (e.i, e.u, 0)
    · rw [if_pos he, if_pos he]
      obtain ⟨i1, i2, i3, i4⟩ := ih
      obtain ⟨g1, g2, g3, g4, g5⟩ := hg
      have hla : ∀ s, ddL (a + 1) l k = some s → ((a + 1 : Nat) : Int) ≤ s.last := by
        intro s hs
        obtain ⟨_, ⟨f, q, x, y, q1, q2, q3, q4, q5, q6, _⟩, _⟩ := ddL_some hs
        rw [q6]
        omega
      cases hd : ddL (a + 1) l k with
      | none =>
        have hd' : ddL (a + 1) (l.take m) k = none := by
          cases hx : ddL (a + 1) (l.take m) k with
          | none => rfl
          | some s => rw [hx, hd] at i4; exact absurd (i4 rfl) (by simp)
        rw [hd']
        simp only [spD, Option.getD_some]
        have ha : (a : Int) < (a : Int) + ((m + 1 : Nat) : Int) := by omega
        refine ⟨(if_pos ha).symm, ?_, .inr (Int.le_refl _), fun _ => rfl⟩
        by_cases ho : e.ok = true
        · simp only [ho, if_true]
          exact (if_pos ha).symm
        · simp only [ho, if_false, Bool.false_eq_true]
          exact (ite_self _).symm
      | some s =>
        have hs := hla s hd
        rw [hd] at i1 i2 i3 g1 g2 g3 g4 g5
        simp only [spD, Option.getD_some] at i1 i2 i3 g1 g2 g3 g4 g5
        cases hx : ddL (a + 1) (l.take m) k with
        | none =>
          rw [hx] at i1 i2 i3
          simp only [Option.getD_none] at i1 i2 i3
          simp only [spD, Option.getD_some]
          have ha : (a : Int) < (a : Int) + ((m + 1 : Nat) : Int) := by omega
          refine ⟨(if_pos ha).symm, ?_, .inr (by show (a : Int) ≤ s.last; omega), fun _ => rfl⟩
          by_cases ho : e.ok = true
          · simp only [ho, if_true]
            exact (if_pos ha).symm
          · simp only [ho, if_false, Bool.false_eq_true]
            by_cases h9 : s.well < (a : Int) + ((m + 1 : Nat) : Int)
            · refine Eq.trans ?_ (if_pos h9).symm
              exact i2.trans (if_pos (by omega))
            · exact (if_neg h9).symm
        | some s2 =>
          rw [hx] at i1 i2 i3
          simp only [Option.getD_some] at i1 i2 i3
          simp only [spD, Option.getD_some]
          have ha : (a : Int) < (a : Int) + ((m + 1 : Nat) : Int) := by omega
          have i3' : s2.last ≤ s.last := by
            rcases i3 with i3 | i3
            · cases i3
            · exact i3
          refine ⟨(if_pos ha).symm, ?_, .inr i3', fun _ => rfl⟩
          by_cases ho : e.ok = true
          · simp only [ho, if_true]
            exact (if_pos ha).symm
          · simp only [ho, if_false, Bool.false_eq_true]
            by_cases h9 : s.well < (a : Int) + ((m + 1 : Nat) : Int)
            · refine Eq.trans ?_ (if_pos h9).symm
              exact i2.trans (if_pos (by omega))
            · refine Eq.trans ?_ (if_neg h9).symm
              exact i2.trans (if_neg (by omega))
    · rw [if_neg he, if_neg he]
      obtain ⟨i1, i2, i3, i4⟩ := ih
      have e9 : ((a + 1 : Nat) : Int) + m = a + (m + 1 : Nat) := by omega
      rw [e9] at i1 i2
      exact ⟨i1, i2, i3, i4⟩

/-- TraceParts: each beginning of a trace that is in order is. -/
theorem inOrd_take {st : Int → Bool} {n : Nat} {O : Int → Int → Prop} {l : List Ef} (hl : l.length ≤ 1000000) (h : inOrd st n O l) (m : Nat) : inOrd st n O (l.take m) := by
  have h0 : ((0 : Nat) : Int) + l.length ≤ never := by simp only [never_eq]; omega
  have ht : ∀ k, (spD (dd (l.take m) 0 k)).first = (if (spD (dd l 0 k)).first < ((0 : Nat) : Int) + m then (spD (dd l 0 k)).first else never) ∧
    (spD (dd (l.take m) 0 k)).well = (if (spD (dd l 0 k)).well < ((0 : Nat) : Int) + m then (spD (dd l 0 k)).well else never) ∧
    (dd (l.take m) 0 k = none ∨ (spD (dd (l.take m) 0 k)).last ≤ (spD (dd l 0 k)).last) := fun k => by
    have h1 := spD_take k l 0 m h0
    unfold dd
    rw [List.drop_zero, List.drop_zero]
    exact ⟨h1.1, h1.2.1, h1.2.2.1⟩
  have hg : ∀ k, (spD (dd l 0 k)).first ≤ never ∧ (spD (dd l 0 k)).well ≤ never ∧ (spD (dd l 0 k)).last ≤ never := fun k => by
    have h1 := spD_ge k l 0 h0
    unfold dd
    rw [List.drop_zero]
    exact ⟨h1.2.2.1, h1.2.2.2⟩
  have hg2 : ∀ k, (spD (dd (l.take m) 0 k)).last ≤ never := fun k => by
    have h1 := spD_ge k (l.take m) 0 (by rw [List.length_take]; simp only [never_eq]; omega)
    unfold dd
    rw [List.drop_zero]
    exact h1.2.2.2.2
  refine ⟨fun e he => h.1 e (List.mem_of_mem_take he), fun i hi => ⟨fun ha => (h.2 i hi).1 ?_, fun ha => (h.2 i hi).2 ?_⟩⟩
  · unfold amissP unD stD at *
    obtain ⟨u1, u2, u3⟩ := ht ((i : Int), true, 0)
    obtain ⟨s1, s2, s3⟩ := ht ((i : Int), false, 0)
    have gu := hg ((i : Int), true, 0)
    have gs := hg ((i : Int), false, 0)
    have gl := hg2 ((i : Int), true, 0)
    rcases ha with ha | ha
    · left
      rw [u1, s2] at ha
      split at ha <;> split at ha <;> omega
    · right
      rw [u2] at ha
      split at ha
      · rcases u3 with u3 | u3
        · have e1 : (spD (dd (l.take m) 0 ((i : Int), true, 0))).well = never := by rw [u3]; rfl
          rw [e1] at u2
          rw [if_pos (by assumption)] at u2
          omega
        · omega
      · omega
  · obtain ⟨a1, k, s, a2, a3, a4, a5, a6⟩ := ha
    obtain ⟨u1, u2, u3⟩ := ht ((i : Int), true, 0)
    obtain ⟨s1, s2, s3⟩ := ht k
    have gu := hg ((i : Int), true, 0)
    have gk := hg k
    have e2 : spD (dd (l.take m) 0 k) = s := by rw [a2]; rfl
    rw [e2] at s1 s2 s3
    have hw : (spD (dd l 0 k)).well = s.well := by
      split at s2
      · exact s2.symm
      · exact absurd s2 a4
    unfold unD at a1 a5
    have hf : (spD (dd l 0 ((i : Int), true, 0))).first = (spD (dd (l.take m) 0 ((i : Int), true, 0))).first := by
      split at u1
      · exact u1.symm
      · rw [u1] at a5; omega
    cases hd : dd l 0 k with
    | none => rw [hd] at hw; exact absurd hw.symm a4
    | some t =>
      rw [hd] at hw
      have hw' : t.well = s.well := hw
      refine ⟨?_, k, t, hd, a3, by rw [hw']; exact a4, ?_, a6⟩
      · unfold unD
        intro h9
        rw [h9] at u2
        split at u2 <;> exact a1 u2
      · unfold unD
        rw [hf, hw']
        exact a5

/-- Whether it is so, by what is known of the two. -/
theorem amiss_iff {l : List Ef} {i : Int} {u s : Sp} (hu : unD l i = u) (hs : stD l i = s) : amissP l i ↔ u.first < s.well ∨ u.well < u.last := by
  unfold amissP
  rw [hu, hs]
end Go.Proofs.YtlegmmhacnbnlaaGreatDoor.J.Tz

/- A range over a function whose rounds may panic: the frame's function is known, so a panic that leaves a round is passed up. The iterator's own blocks are named by a set; a round keeps them, the iterator keeps all others. -/
namespace Go.Proofs.YtlegmmhacnbnlaaGreatDoor

open Go.RowKit

variable {P : Program}

/-- A fence that lets all in, in a round or not. -/
def wideR (ro : Option Nat) : Fence := { Fence.wide with round := ro }

/-- What a piece of code does in a frame of the function f. -/
def wpE (P : Program) (ro : Option Nat) (f : FuncId) (c : Code) (Q : Exit → Act → World → Prop) (a : Act) (w : World) : Prop :=
  ∀ (b : Frame) (k : List Item) (cs : List Frame), b.roundOf = ro → b.fn = f →
    ∃ e a' w', Q e a' w' ∧ ArrivesIn (Machine.fenced P Fence.wide) P (lone (b.atR a (.code c :: k)) cs w) b k cs e a' w'

theorem wpE_of {ro : Option Nat} {f : FuncId} {n : Nat} {c : Code} {Q : Exit → Act → World → Prop} {a : Act} {w : World} (h : c.wpIn (wideR ro) n P Q a w) : wpE P ro f c Q a w :=
  fun b k cs hro _ => h b k cs hro trivial (fun _ hd => by cases hd)

theorem wpE_mono {ro : Option Nat} {f : FuncId} {c : Code} {Q Q' : Exit → Act → World → Prop} {a : Act} {w : World} (h : wpE P ro f c Q a w) (hq : ∀ e a w, Q e a w → Q' e a w) : wpE P ro f c Q' a w :=
  fun b k cs hro hf => let ⟨e, a', w', q, r⟩ := h b k cs hro hf; ⟨e, a', w', hq _ _ _ q, r⟩

theorem wpE_seq {ro : Option Nat} {f : FuncId} {x y : Code} {Q : Exit → Act → World → Prop} {a : Act} {w : World} (h : wpE P ro f x (Exit.then (wpE P ro f y Q) Q) a w) : wpE P ro f (Code.seq x y) Q a w := by
  intro b k cs hro hf
  have h0 : (lone (b.atR a (.code (.seq x y) :: k)) cs w).fenced P Fence.wide := fenced_wide P _
  obtain ⟨e, a₁, w₁, hq, harr⟩ := h b (.code y :: k) cs hro hf
  cases e with
  | normal =>
    obtain ⟨e₂, a₂, w₂, hq₂, harr₂⟩ := hq b k cs hro hf
    exact ⟨e₂, a₂, w₂, hq₂, .of_steps (.head h0 stepR_seq harr) harr₂⟩
  | exit id => exact ⟨_, a₁, w₁, hq, .of_steps (.one h0 stepR_seq) (.pass (x := .code y) rfl (fun _ _ => .inl (by simp)) harr)⟩
  | goto l => exact ⟨_, a₁, w₁, hq, .of_steps (.one h0 stepR_seq) (.pass (x := .code y) rfl (fun _ _ => .inl (by simp)) harr)⟩
  | ret => exact ⟨_, a₁, w₁, hq, .of_steps (.one h0 stepR_seq) (.pass (x := .code y) rfl (fun _ _ => .inl (by simp)) harr)⟩
  | panic ch => exact ⟨_, a₁, w₁, hq, .of_steps (.one h0 stepR_seq) (.pass (x := .code y) rfl (fun _ _ => .inl (by simp)) harr)⟩
  | outgrown => exact ⟨_, a₁, w₁, hq, .of_steps (.one h0 stepR_seq) (.pass (x := .code y) rfl (fun _ _ => .inl (by simp)) harr)⟩

theorem wpE_cond {ro : Option Nat} {f : FuncId} {c : Operand} {x y : Code} {Q : Exit → Act → World → Prop} {a : Act} {w : World} {t : Bool} (hc : a.eval c = .bool t) (h : wpE P ro f (if t then x else y) Q a w) : wpE P ro f (Code.cond c x y) Q a w :=
  fun b k cs hro hf => let ⟨e, a', w', q, r⟩ := h b k cs hro hf; ⟨e, a', w', q, .of_steps (.one (fenced_wide P _) (stepR_cond hc)) r⟩

theorem wpE_block {ro : Option Nat} {f : FuncId} {id : Nat} {c : Code} {Q : Exit → Act → World → Prop} {a : Act} {w : World} (h : wpE P ro f c (Exit.inBlock id Q) a w) : wpE P ro f (Code.block id c) Q a w := by
  intro b k cs hro hf
  have h0 : (lone (b.atR a (.code (.block id c) :: k)) cs w).fenced P Fence.wide := fenced_wide P _
  obtain ⟨e, a₁, w₁, hq, harr⟩ := h b (.inBlock id :: k) cs hro hf
  cases e with
  | normal => exact ⟨.normal, a₁, w₁, hq, .head h0 stepR_block (StepsIn.trans harr (.one (fenced_wide P _) stepR_inBlock))⟩
  | exit id' =>
    by_cases hid : id' = id
    · simp only [Exit.inBlock, hid, if_true] at hq
      exact ⟨.normal, a₁, w₁, hq, .head h0 stepR_block (harr.1 k (by simp [exitTo, hid]))⟩
    · simp only [Exit.inBlock, hid, if_false] at hq
      have this : (id == id') = false := by simp; exact fun h => hid h.symm
      have hx : exitTo id' (.inBlock id :: k) = exitTo id' k := by simp [exitTo, this]
      exact ⟨.exit id', a₁, w₁, hq, fun k' hk => .head h0 stepR_block (harr.1 k' (by rw [hx]; exact hk)),
        fun hr' hk => let ⟨k₁, h1, h2⟩ := harr.2 hr' (by rw [hx]; exact hk); ⟨k₁, h1, .head h0 stepR_block h2⟩⟩
  | goto l =>
    have hx : gotoIn l (.inBlock id :: k) = gotoIn l k := by simp [gotoIn]
    exact ⟨_, a₁, w₁, hq, fun k' hk => .head h0 stepR_block (harr.1 k' (by rw [hx]; exact hk)),
      fun hr' hk => let ⟨k₁, h1, h2⟩ := harr.2 hr' (by rw [hx]; exact hk); ⟨k₁, h1, .head h0 stepR_block h2⟩⟩
  | ret => exact ⟨_, a₁, w₁, hq, .of_steps (.one h0 stepR_block) harr⟩
  | panic ch => exact ⟨_, a₁, w₁, hq, .of_steps (.one h0 stepR_block) harr⟩
  | outgrown => exact ⟨_, a₁, w₁, hq, .of_steps (.one h0 stepR_block) harr⟩

theorem wpE_loop {ro : Option Nat} {f : FuncId} {c : Code} {Q : Exit → Act → World → Prop} {a : Act} {w : World} (I : Nat → Act → World → Prop) (m : Nat) (h₀ : I m a w)
    (round : ∀ m a w, I m a w → wpE P ro f c (Exit.then (fun a' w' => ∃ m', m' < m ∧ I m' a' w') Q) a w) : wpE P ro f (Code.loop c) Q a w := by
  intro b k cs hro hf
  have key : ∀ j a w, I j a w →
      ∃ e a' w', Q e a' w' ∧ ArrivesIn (Machine.fenced P Fence.wide) P (lone (b.atR a (.code c :: .inLoop c :: k)) cs w) b k cs e a' w' := by
    intro j
    induction j using Nat.strongRecOn with
    | _ j ih =>
      intro a w hI
      obtain ⟨e, a₁, w₁, hq, harr⟩ := round j a w hI b (.inLoop c :: k) cs hro hf
      cases e with
      | normal =>
        obtain ⟨j', hlt, hI₁⟩ := hq
        obtain ⟨e₂, a₂, w₂, hq₂, harr₂⟩ := ih j' hlt a₁ w₁ hI₁
        exact ⟨e₂, a₂, w₂, hq₂, .of_steps (StepsIn.trans harr (.one (fenced_wide P _) stepR_inLoop)) harr₂⟩
      | exit id => exact ⟨_, a₁, w₁, hq, .pass (x := .inLoop c) rfl (fun _ _ => .inl (by simp)) harr⟩
      | goto l => exact ⟨_, a₁, w₁, hq, .pass (x := .inLoop c) rfl (fun _ _ => .inl (by simp)) harr⟩
      | ret => exact ⟨_, a₁, w₁, hq, .pass (x := .inLoop c) rfl (fun _ _ => .inl (by simp)) harr⟩
      | panic ch => exact ⟨_, a₁, w₁, hq, .pass (x := .inLoop c) rfl (fun _ _ => .inl (by simp)) harr⟩
      | outgrown => exact ⟨_, a₁, w₁, hq, .pass (x := .inLoop c) rfl (fun _ _ => .inl (by simp)) harr⟩
  obtain ⟨e, a', w', hq, harr⟩ := key m a w h₀
  exact ⟨e, a', w', hq, .of_steps (.one (fenced_wide P _) stepR_loop) harr⟩

/-- A function's contract out of its body, marks among its deferred calls. -/
theorem callsE {f : FuncId} {fn : Func} {c : Code} {args : Array Value} {w : World} {R : Ending → World → Prop} (hf : P.funcs[f]? = some fn) (hb : fn.body = some c)
    (h : wpE P none f c (bodyPostM Fence.wide 0 P fn R) { tmps := args ++ Array.replicate (fn.ntmps - args.size) undef, defers := [] } w) : CallsIn Fence.wide 0 P f args w R := by
  refine ⟨trivial, fun cs hr => ?_⟩
  let b : Frame := { (default : Frame) with fn := f, kind := .normal, roundOf := none }
  have henter : Frame.enter P f args .normal = b.atR { tmps := args ++ Array.replicate (fn.ntmps - args.size) undef, defers := [] } [.code c] := by
    simp [Frame.enter, Frame.atR, hf, hb, b]
  have hF : Fence.wide.fn f := trivial
  obtain ⟨e, a', w', hq, harr⟩ := h b [] cs rfl rfl
  rw [← henter] at harr
  cases e with
  | normal =>
    obtain ⟨e', w'', fr', hR, hs, hfn, hl⟩ := leaves_stepsInM a'.defers .returning w' { b.atR a' [] with mode := .returning } cs rfl rfl rfl hf rfl hF hr hq
    exact ⟨e', w'', fr', hR, ComesIn.of_steps (StepsIn.trans harr (.one (fenced_wide P _) (stepR_end rfl))) hs, hfn, hl⟩
  | ret =>
    obtain ⟨todo, hs₀⟩ := harr.1 rfl
    obtain ⟨e', w'', fr', hR, hs, hfn, hl⟩ := leaves_stepsInM a'.defers .returning w' { b.atR a' todo with mode := .returning } cs rfl rfl rfl hf rfl hF hr hq
    exact ⟨e', w'', fr', hR, ComesIn.of_steps hs₀ hs, hfn, hl⟩
  | panic chain =>
    obtain ⟨todo, hs₀⟩ := harr
    obtain ⟨e', w'', fr', hR, hs, hfn, hl⟩ := leaves_stepsInM a'.defers (.panicking chain) w' { b.atR a' todo with mode := .panicking chain } cs rfl rfl rfl hf rfl hF hr hq
    exact ⟨e', w'', fr', hR, ComesIn.of_steps hs₀ hs, hfn, hl⟩
  | exit id => exact hq.elim
  | goto l => exact hq.elim
  | outgrown => exact ⟨.outgrown, w', b, hq, harr.resolve_left (by simp [b]), rfl, trivial⟩

/-- How a round may be left here: off its end, or by a panic. -/
def roundP (P : Program) (l : Nat) (R : Ending → World → Prop) : Exit → Act → World → Prop
  | .normal, _, w => ∃ v w', (Instr.endRound l none).run P w = .ok v w' ∧ R (.returned v) w'
  | .panic ch, a, w => a.defers = [] ∧ R (.panicked ch) w
  | _, _, _ => False

theorem roundE {l : Nat} {f : FuncId} {fn : Func} (hf : P.funcs[f]? = some fn) {n : Nat} {tmps : Array Value} {assign body : Code} {w : World} {R : Ending → World → Prop}
    (h : wpE P (some l) f assign (Exit.then (fun a₁ w₁ => ∃ w₂, (Instr.beginRound l).run P w₁ = .ok () w₂ ∧ wpE P (some l) f body (roundP P l R) a₁ w₂) (fun _ _ _ => False)) { tmps := tmps, defers := [] } w) :
    RoundIn Fence.wide n P l f tmps assign body w R := by
  refine ⟨trivial, fun c cs _ => ?_⟩
  let b : Frame := { (default : Frame) with fn := f, kind := .normal, roundOf := some l }
  have hb0 : Frame.round l f tmps assign body .normal = b.atR { tmps := tmps, defers := [] } [.code assign, .beginRound, .code body] := by
    simp [Frame.round, Frame.atR, b]
  obtain ⟨e, a₁, w₁, hq, harr⟩ := h b [.beginRound, .code body] (c :: cs) rfl rfl
  rw [← hb0] at harr
  cases e with
  | normal =>
    obtain ⟨w₂, hbr, hbody⟩ := hq
    have s1 : StepsIn (Machine.fenced P Fence.wide) P (lone (b.atR a₁ [.beginRound, .code body]) (c :: cs) w₁) (lone (b.atR a₁ [.code body]) (c :: cs) w₂) :=
      .one (fenced_wide P _) (stepR_beginRound rfl hbr)
    obtain ⟨e₂, a₂, w₃, hq₂, harr₂⟩ := hbody b [] (c :: cs) rfl rfl
    cases e₂ with
    | normal =>
      obtain ⟨v, w₄, hend, hR⟩ := hq₂
      exact ⟨.returned v, w₄, hR, (StepsIn.trans harr s1).trans (StepsIn.trans harr₂ (.one (fenced_wide P _) (stepR_round_end rfl rfl hend)))⟩
    | panic chain =>
      obtain ⟨hd, hR⟩ := hq₂
      obtain ⟨todo, hs⟩ := harr₂
      have hl : ({ b.atR a₂ todo with mode := .panicking chain } : Frame).leaving P w₃ (.panicked chain) := ⟨rfl, hd, fn, hf⟩
      exact ⟨.panicked chain, w₃, hR, (StepsIn.trans harr s1).trans (StepsIn.trans hs (.one (fenced_wide P _) (step_leave_panicked hl)))⟩
    | ret => exact hq₂.elim
    | exit id => exact hq₂.elim
    | goto t => exact hq₂.elim
    | outgrown => exact hq₂.elim
  | exit id => exact hq.elim
  | goto t => exact hq.elim
  | ret => exact hq.elim
  | panic chain => exact hq.elim
  | outgrown => exact hq.elim

/-- The statement, where no round leaves by a jump. -/
theorem wpE_rangeFunc {f : FuncId} {g : Operand} {ps : Array Tmp} {assign body : Code} {Q : Exit → Act → World → Prop} {a : Act} {w : World} {gf : Nat} {lb : Array Value} (hg : a.eval g = .func (.func gf) #[] lb) (eg : ∀ args w, (callFunc gf args).run P w = .ok (.enter gf args) w)
    (h : CallsIn Fence.wide 0 P gf (#[.func (.yield (w.heap.size + 1)) #[] #[]] ++ lb)
      ((w.alloc (.deferred (some []))).alloc (.loop { state := .ready, pending := none, fn := f, tmps := a.tmps, params := ps, assign, body, defers := w.heap.size }))
      fun e w3 => (∃ v w4, e = .returned v ∧ (Instr.endLoop (w.heap.size + 1)).run P w3 = .ok none w4 ∧ Q .normal { a with defers := { target := .collected w.heap.size, args := #[] } :: a.defers } w4) ∨
        (∃ ch, e = .panicked ch ∧ Q (.panic ch) { a with defers := { target := .collected w.heap.size, args := #[] } :: a.defers } w3)) :
    wpE P none f (Code.rangeFunc g ps assign body) Q a w := by
  intro b k cs hro hf
  subst hf
  have he := run_enterLoop_outer (P := P) (w := w) b.fn a.tmps ps assign body
  rw [← hro] at he
  obtain ⟨W1, hW1⟩ : ∃ W1, (w.alloc (.deferred (some []))).alloc (.loop { state := .ready, pending := none, fn := b.fn, tmps := a.tmps, params := ps, assign, body, defers := w.heap.size }) = W1 := ⟨_, rfl⟩
  rw [hW1] at he h
  have hres : (resolve a.eval (rangeCall g (w.heap.size + 1)) 0).run P W1 = .ok { target := .fn (.func gf) lb, args := #[.func (.yield (w.heap.size + 1)) #[] #[]] } W1 := by
    simp only [resolve, hg]
    simp [go_sem]
  have hinv : (invoke (.fn (.func gf) lb) #[.func (.yield (w.heap.size + 1)) #[] #[]]).run P W1 = .ok (.enter gf (#[.func (.yield (w.heap.size + 1)) #[] #[]] ++ lb)) W1 := by
    simp [invoke, go_sem, eg]
  have henter := stepR_rangeFunc (P := P) (b := b) (a := a) (k := k) (cs := cs) (w := w) he hres hinv
  obtain ⟨e, w₃, fr, hR, hsteps, hfn, hleave⟩ := h.2 (b.atR { a with defers := [{ target := .collected w.heap.size, args := #[] }] ++ a.defers } (.inRangeFunc (w.heap.size + 1) :: k) :: cs) (fun _ hd => by cases hd)
  rcases hR with ⟨v, w₄, rfl, hend, hq⟩ | ⟨ch, rfl, hq⟩
  · have sback : StepsIn (Machine.fenced P Fence.wide) P (lone (b.atR a (.code (.rangeFunc g ps assign body) :: k)) cs w) (lone (b.atR { a with defers := [{ target := .collected w.heap.size, args := #[] }] ++ a.defers } k) cs w₄) := by
      refine .head (fenced_wide P _) henter (StepsIn.trans hsteps (.head (fenced_wide P _) ?_ (.one (fenced_wide P _) (stepR_endRangeFunc hend))))
      rw [← finish_atR_inRangeFunc (w.heap.size + 1) v]
      exact step_leave_returned hleave
    exact ⟨.normal, _, w₄, hq, sback⟩
  · refine ⟨.panic ch, _, w₃, hq, .inRangeFunc (w.heap.size + 1) :: k, .head (fenced_wide P _) henter (StepsIn.trans hsteps (.one (fenced_wide P _) ?_))⟩
    rw [← Frame.raise_atR]
    exact step_leave_panicked hleave

end Go.Proofs.YtlegmmhacnbnlaaGreatDoor

