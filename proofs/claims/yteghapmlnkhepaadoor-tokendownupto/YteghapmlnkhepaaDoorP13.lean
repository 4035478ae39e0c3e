/- Texts of the seat, packed: Kq Za Zb. -/
import Derived.Below
import Derived.RangeFuncBound
import Derived.RangeFuncCalls
import Derived.RangeFuncLeaves
import Derived.RangeFuncNested
/- The plain side of layer 14: what holds of items and bodies, by what is known of the steps; the statuses. It names no number of a program. -/
namespace Go.Proofs.YteghapmlnkhepaaDoor.St

set_option linter.unusedVariables false

/-- A plan: how many items, and of each what it is, in which body of which item it stands. -/
structure Pl where
  n : Nat
  sub : Nat → Bool
  vital : Nat → Bool
  alts : Nat → Nat
  inn : Nat → Nat
  alt : Nat → Nat

/-- What right plans are. -/
structure Pl.Ok (p : Pl) : Prop where
  pos : 1 ≤ p.n
  root : p.sub 0 = true
  inn : ∀ i, 1 ≤ i → i < p.n → p.inn i < i ∧ p.sub (p.inn i) = true ∧ p.alt i < p.alts (p.inn i)
  alts : ∀ i, i < p.n → p.sub i = true → 1 ≤ p.alts i

end Go.Proofs.YteghapmlnkhepaaDoor.St

/- A range over a function whose rounds may panic: the frame's function is known, so a panic that leaves a round is passed up. The iterator's own blocks are named by a set; a round keeps them, the iterator keeps all others. -/
namespace Go.Proofs.YteghapmlnkhepaaDoor

open Go.RowKit

variable {P : Program}

/-- A fence that lets all in, in a round or not. -/
def wideR (ro : Option Nat) : Fence := { Fence.wide with round := ro }

/-- What a piece of code does in a frame of the function f. -/
def wpE (P : Program) (ro : Option Nat) (f : FuncId) (c : Code) (Q : Exit → Act → World → Prop) (a : Act) (w : World) : Prop :=
  ∀ (b : Frame) (k : List Item) (cs : List Frame), b.roundOf = ro → b.fn = f →
    ∃ e a' w', Q e a' w' ∧ ArrivesIn (Machine.fenced P Fence.wide) P (lone (b.atR a (.code c :: k)) cs w) b k cs e a' w'

theorem wpE_of {ro : Option Nat} {f : FuncId} {n : Nat} {c : Code} {Q : Exit → Act → World → Prop} {a : Act} {w : World} (h : c.wpIn (wideR ro) n P Q a w) : wpE P ro f c Q a w :=
  fun b k cs hro _ => h b k cs hro trivial (fun _ hd => by cases hd)

theorem wpE_mono {ro : Option Nat} {f : FuncId} {c : Code} {Q Q' : Exit → Act → World → Prop} {a : Act} {w : World} (h : wpE P ro f c Q a w) (hq : ∀ e a w, Q e a w → Q' e a w) : wpE P ro f c Q' a w :=
  fun b k cs hro hf => let ⟨e, a', w', q, r⟩ := h b k cs hro hf; ⟨e, a', w', hq _ _ _ q, r⟩

theorem wpE_seq {ro : Option Nat} {f : FuncId} {x y : Code} {Q : Exit → Act → World → Prop} {a : Act} {w : World} (h : wpE P ro f x (Exit.then (wpE P ro f y Q) Q) a w) : wpE P ro f (Code.seq x y) Q a w := by
  intro b k cs hro hf
  have h0 : (lone (b.atR a (.code (.seq x y) :: k)) cs w).fenced P Fence.wide := fenced_wide P _
  obtain ⟨e, a₁, w₁, hq, harr⟩ := h b (.code y :: k) cs hro hf
  cases e with
  | normal =>
    obtain ⟨e₂, a₂, w₂, hq₂, harr₂⟩ := hq b k cs hro hf
    exact ⟨e₂, a₂, w₂, hq₂, .of_steps (.head h0 stepR_seq harr) harr₂⟩
  | exit id => exact ⟨_, a₁, w₁, hq, .of_steps (.one h0 stepR_seq) (.pass (x := .code y) rfl (fun _ _ => .inl (by simp)) harr)⟩
  | goto l => exact ⟨_, a₁, w₁, hq, .of_steps (.one h0 stepR_seq) (.pass (x := .code y) rfl (fun _ _ => .inl (by simp)) harr)⟩
  | ret => exact ⟨_, a₁, w₁, hq, .of_steps (.one h0 stepR_seq) (.pass (x := .code y) rfl (fun _ _ => .inl (by simp)) harr)⟩
  | panic ch => exact ⟨_, a₁, w₁, hq, .of_steps (.one h0 stepR_seq) (.pass (x := .code y) rfl (fun _ _ => .inl (by simp)) harr)⟩
  | outgrown => exact ⟨_, a₁, w₁, hq, .of_steps (.one h0 stepR_seq) (.pass (x := .code y) rfl (fun _ _ => .inl (by simp)) harr)⟩

theorem wpE_cond {ro : Option Nat} {f : FuncId} {c : Operand} {x y : Code} {Q : Exit → Act → World → Prop} {a : Act} {w : World} {t : Bool} (hc : a.eval c = .bool t) (h : wpE P ro f (if t then x else y) Q a w) : wpE P ro f (Code.cond c x y) Q a w :=
  fun b k cs hro hf => let ⟨e, a', w', q, r⟩ := h b k cs hro hf; ⟨e, a', w', q, .of_steps (.one (fenced_wide P _) (stepR_cond hc)) r⟩

theorem wpE_block {ro : Option Nat} {f : FuncId} {id : Nat} {c : Code} {Q : Exit → Act → World → Prop} {a : Act} {w : World} (h : wpE P ro f c (Exit.inBlock id Q) a w) : wpE P ro f (Code.block id c) Q a w := by
  intro b k cs hro hf
  have h0 : (lone (b.atR a (.code (.block id c) :: k)) cs w).fenced P Fence.wide := fenced_wide P _
  obtain ⟨e, a₁, w₁, hq, harr⟩ := h b (.inBlock id :: k) cs hro hf
  cases e with
  | normal => exact ⟨.normal, a₁, w₁, hq, .head h0 stepR_block (StepsIn.trans harr (.one (fenced_wide P _) stepR_inBlock))⟩
  | exit id' =>
    by_cases hid : id' = id
    · simp only [Exit.inBlock, hid, if_true] at hq
      exact ⟨.normal, a₁, w₁, hq, .head h0 stepR_block (harr.1 k (by simp [exitTo, hid]))⟩
    · simp only [Exit.inBlock, hid, if_false] at hq
      have this : (id == id') = false := by simp; exact fun h => hid h.symm
      have hx : exitTo id' (.inBlock id :: k) = exitTo id' k := by simp [exitTo, this]
      exact ⟨.exit id', a₁, w₁, hq, fun k' hk => .head h0 stepR_block (harr.1 k' (by rw [hx]; exact hk)),
        fun hr' hk => let ⟨k₁, h1, h2⟩ := harr.2 hr' (by rw [hx]; exact hk); ⟨k₁, h1, .head h0 stepR_block h2⟩⟩
  | goto l =>
    have hx : gotoIn l (.inBlock id :: k) = gotoIn l k := by simp [gotoIn]
    exact ⟨_, a₁, w₁, hq, fun k' hk => .head h0 stepR_block (harr.1 k' (by rw [hx]; exact hk)),
      fun hr' hk => let ⟨k₁, h1, h2⟩ := harr.2 hr' (by rw [hx]; exact hk); ⟨k₁, h1, .head h0 stepR_block h2⟩⟩
  | ret => exact ⟨_, a₁, w₁, hq, .of_steps (.one h0 stepR_block) harr⟩
  | panic ch => exact ⟨_, a₁, w₁, hq, .of_steps (.one h0 stepR_block) harr⟩
  | outgrown => exact ⟨_, a₁, w₁, hq, .of_steps (.one h0 stepR_block) harr⟩

theorem wpE_loop {ro : Option Nat} {f : FuncId} {c : Code} {Q : Exit → Act → World → Prop} {a : Act} {w : World} (I : Nat → Act → World → Prop) (m : Nat) (h₀ : I m a w)
    (round : ∀ m a w, I m a w → wpE P ro f c (Exit.then (fun a' w' => ∃ m', m' < m ∧ I m' a' w') Q) a w) : wpE P ro f (Code.loop c) Q a w := by
  intro b k cs hro hf
  have key : ∀ j a w, I j a w →
      ∃ e a' w', Q e a' w' ∧ ArrivesIn (Machine.fenced P Fence.wide) P (lone (b.atR a (.code c :: .inLoop c :: k)) cs w) b k cs e a' w' := by
    intro j
    induction j using Nat.strongRecOn with
    | _ j ih =>
      intro a w hI
      obtain ⟨e, a₁, w₁, hq, harr⟩ := round j a w hI b (.inLoop c :: k) cs hro hf
      cases e with
      | normal =>
        obtain ⟨j', hlt, hI₁⟩ := hq
        obtain ⟨e₂, a₂, w₂, hq₂, harr₂⟩ := ih j' hlt a₁ w₁ hI₁
        exact ⟨e₂, a₂, w₂, hq₂, .of_steps (StepsIn.trans harr (.one (fenced_wide P _) stepR_inLoop)) harr₂⟩
      | exit id => exact ⟨_, a₁, w₁, hq, .pass (x := .inLoop c) rfl (fun _ _ => .inl (by simp)) harr⟩
      | goto l => exact ⟨_, a₁, w₁, hq, .pass (x := .inLoop c) rfl (fun _ _ => .inl (by simp)) harr⟩
      | ret => exact ⟨_, a₁, w₁, hq, .pass (x := .inLoop c) rfl (fun _ _ => .inl (by simp)) harr⟩
      | panic ch => exact ⟨_, a₁, w₁, hq, .pass (x := .inLoop c) rfl (fun _ _ => .inl (by simp)) harr⟩
      | outgrown => exact ⟨_, a₁, w₁, hq, .pass (x := .inLoop c) rfl (fun _ _ => .inl (by simp)) harr⟩
  obtain ⟨e, a', w', hq, harr⟩ := key m a w h₀
  exact ⟨e, a', w', hq, .of_steps (.one (fenced_wide P _) stepR_loop) harr⟩

/-- A function's contract out of its body, marks among its deferred calls. -/
theorem callsE {f : FuncId} {fn : Func} {c : Code} {args : Array Value} {w : World} {R : Ending → World → Prop} (hf : P.funcs[f]? = some fn) (hb : fn.body = some c)
    (h : wpE P none f c (bodyPostM Fence.wide 0 P fn R) { tmps := args ++ Array.replicate (fn.ntmps - args.size) undef, defers := [] } w) : CallsIn Fence.wide 0 P f args w R := by
  refine ⟨trivial, fun cs hr => ?_⟩
  let b : Frame := { (default : Frame) with fn := f, kind := .normal, roundOf := none }
  have henter : Frame.enter P f args .normal = b.atR { tmps := args ++ Array.replicate (fn.ntmps - args.size) undef, defers := [] } [.code c] := by
    simp [Frame.enter, Frame.atR, hf, hb, b]
  have hF : Fence.wide.fn f := trivial
  obtain ⟨e, a', w', hq, harr⟩ := h b [] cs rfl rfl
  rw [← henter] at harr
  cases e with
  | normal =>
    obtain ⟨e', w'', fr', hR, hs, hfn, hl⟩ := leaves_stepsInM a'.defers .returning w' { b.atR a' [] with mode := .returning } cs rfl rfl rfl hf rfl hF hr hq
    exact ⟨e', w'', fr', hR, ComesIn.of_steps (StepsIn.trans harr (.one (fenced_wide P _) (stepR_end rfl))) hs, hfn, hl⟩
  | ret =>
    obtain ⟨todo, hs₀⟩ := harr.1 rfl
    obtain ⟨e', w'', fr', hR, hs, hfn, hl⟩ := leaves_stepsInM a'.defers .returning w' { b.atR a' todo with mode := .returning } cs rfl rfl rfl hf rfl hF hr hq
    exact ⟨e', w'', fr', hR, ComesIn.of_steps hs₀ hs, hfn, hl⟩
  | panic chain =>
    obtain ⟨todo, hs₀⟩ := harr
    obtain ⟨e', w'', fr', hR, hs, hfn, hl⟩ := leaves_stepsInM a'.defers (.panicking chain) w' { b.atR a' todo with mode := .panicking chain } cs rfl rfl rfl hf rfl hF hr hq
    exact ⟨e', w'', fr', hR, ComesIn.of_steps hs₀ hs, hfn, hl⟩
  | exit id => exact hq.elim
  | goto l => exact hq.elim
  | outgrown => exact ⟨.outgrown, w', b, hq, harr.resolve_left (by simp [b]), rfl, trivial⟩

/-- How a round may be left here: off its end, or by a panic. -/
def roundP (P : Program) (l : Nat) (R : Ending → World → Prop) : Exit → Act → World → Prop
  | .normal, _, w => ∃ v w', (Instr.endRound l none).run P w = .ok v w' ∧ R (.returned v) w'
  | .panic ch, a, w => a.defers = [] ∧ R (.panicked ch) w
  | _, _, _ => False

theorem roundE {l : Nat} {f : FuncId} {fn : Func} (hf : P.funcs[f]? = some fn) {n : Nat} {tmps : Array Value} {assign body : Code} {w : World} {R : Ending → World → Prop}
    (h : wpE P (some l) f assign (Exit.then (fun a₁ w₁ => ∃ w₂, (Instr.beginRound l).run P w₁ = .ok () w₂ ∧ wpE P (some l) f body (roundP P l R) a₁ w₂) (fun _ _ _ => False)) { tmps := tmps, defers := [] } w) :
    RoundIn Fence.wide n P l f tmps assign body w R := by
  refine ⟨trivial, fun c cs _ => ?_⟩
  let b : Frame := { (default : Frame) with fn := f, kind := .normal, roundOf := some l }
  have hb0 : Frame.round l f tmps assign body .normal = b.atR { tmps := tmps, defers := [] } [.code assign, .beginRound, .code body] := by
    simp [Frame.round, Frame.atR, b]
  obtain ⟨e, a₁, w₁, hq, harr⟩ := h b [.beginRound, .code body] (c :: cs) rfl rfl
  rw [← hb0] at harr
  cases e with
  | normal =>
    obtain ⟨w₂, hbr, hbody⟩ := hq
    have s1 : StepsIn (Machine.fenced P Fence.wide) P (lone (b.atR a₁ [.beginRound, .code body]) (c :: cs) w₁) (lone (b.atR a₁ [.code body]) (c :: cs) w₂) :=
      .one (fenced_wide P _) (stepR_beginRound rfl hbr)
    obtain ⟨e₂, a₂, w₃, hq₂, harr₂⟩ := hbody b [] (c :: cs) rfl rfl
    cases e₂ with
    | normal =>
      obtain ⟨v, w₄, hend, hR⟩ := hq₂
      exact ⟨.returned v, w₄, hR, (StepsIn.trans harr s1).trans (StepsIn.trans harr₂ (.one (fenced_wide P _) (stepR_round_end rfl rfl hend)))⟩
    | panic chain =>
      obtain ⟨hd, hR⟩ := hq₂
      obtain ⟨todo, hs⟩ := harr₂
      have hl : ({ b.atR a₂ todo with mode := .panicking chain } : Frame).leaving P w₃ (.panicked chain) := ⟨rfl, hd, fn, hf⟩
      exact ⟨.panicked chain, w₃, hR, (StepsIn.trans harr s1).trans (StepsIn.trans hs (.one (fenced_wide P _) (step_leave_panicked hl)))⟩
    | ret => exact hq₂.elim
    | exit id => exact hq₂.elim
    | goto t => exact hq₂.elim
    | outgrown => exact hq₂.elim
  | exit id => exact hq.elim
  | goto t => exact hq.elim
  | ret => exact hq.elim
  | panic chain => exact hq.elim
  | outgrown => exact hq.elim

/-- The statement, where no round leaves by a jump. -/
theorem wpE_rangeFunc {f : FuncId} {g : Operand} {ps : Array Tmp} {assign body : Code} {Q : Exit → Act → World → Prop} {a : Act} {w : World} {gf : Nat} {lb : Array Value} (hg : a.eval g = .func (.func gf) #[] lb) (eg : ∀ args w, (callFunc gf args).run P w = .ok (.enter gf args) w)
    (h : CallsIn Fence.wide 0 P gf (#[.func (.yield (w.heap.size + 1)) #[] #[]] ++ lb)
      ((w.alloc (.deferred (some []))).alloc (.loop { state := .ready, pending := none, fn := f, tmps := a.tmps, params := ps, assign, body, defers := w.heap.size }))
      fun e w3 => (∃ v w4, e = .returned v ∧ (Instr.endLoop (w.heap.size + 1)).run P w3 = .ok none w4 ∧ Q .normal { a with defers := { target := .collected w.heap.size, args := #[] } :: a.defers } w4) ∨
        (∃ ch, e = .panicked ch ∧ Q (.panic ch) { a with defers := { target := .collected w.heap.size, args := #[] } :: a.defers } w3)) :
    wpE P none f (Code.rangeFunc g ps assign body) Q a w := by
  intro b k cs hro hf
  subst hf
  have he := run_enterLoop_outer (P := P) (w := w) b.fn a.tmps ps assign body
  rw [← hro] at he
  obtain ⟨W1, hW1⟩ : ∃ W1, (w.alloc (.deferred (some []))).alloc (.loop { state := .ready, pending := none, fn := b.fn, tmps := a.tmps, params := ps, assign, body, defers := w.heap.size }) = W1 := ⟨_, rfl⟩
  rw [hW1] at he h
  have hres : (resolve a.eval (rangeCall g (w.heap.size + 1)) 0).run P W1 = .ok { target := .fn (.func gf) lb, args := #[.func (.yield (w.heap.size + 1)) #[] #[]] } W1 := by
    simp only [resolve, hg]
    simp [go_sem]
  have hinv : (invoke (.fn (.func gf) lb) #[.func (.yield (w.heap.size + 1)) #[] #[]]).run P W1 = .ok (.enter gf (#[.func (.yield (w.heap.size + 1)) #[] #[]] ++ lb)) W1 := by
    simp [invoke, go_sem, eg]
  have henter := stepR_rangeFunc (P := P) (b := b) (a := a) (k := k) (cs := cs) (w := w) he hres hinv
  obtain ⟨e, w₃, fr, hR, hsteps, hfn, hleave⟩ := h.2 (b.atR { a with defers := [{ target := .collected w.heap.size, args := #[] }] ++ a.defers } (.inRangeFunc (w.heap.size + 1) :: k) :: cs) (fun _ hd => by cases hd)
  rcases hR with ⟨v, w₄, rfl, hend, hq⟩ | ⟨ch, rfl, hq⟩
  · have sback : StepsIn (Machine.fenced P Fence.wide) P (lone (b.atR a (.code (.rangeFunc g ps assign body) :: k)) cs w) (lone (b.atR { a with defers := [{ target := .collected w.heap.size, args := #[] }] ++ a.defers } k) cs w₄) := by
      refine .head (fenced_wide P _) henter (StepsIn.trans hsteps (.head (fenced_wide P _) ?_ (.one (fenced_wide P _) (stepR_endRangeFunc hend))))
      rw [← finish_atR_inRangeFunc (w.heap.size + 1) v]
      exact step_leave_returned hleave
    exact ⟨.normal, _, w₄, hq, sback⟩
  · refine ⟨.panic ch, _, w₃, hq, .inRangeFunc (w.heap.size + 1) :: k, .head (fenced_wide P _) henter (StepsIn.trans hsteps (.one (fenced_wide P _) ?_))⟩
    rw [← Frame.raise_atR]
    exact step_leave_panicked hleave

end Go.Proofs.YteghapmlnkhepaaDoor

/- The law for a range over a function whose rounds may panic: what the iterator owns, what a round keeps. -/
namespace Go.Proofs.YteghapmlnkhepaaDoor

open Go.RowKit

variable {P : Program}

/-- A move of one who owns T: all others' blocks stay; what is new may be owned. -/
structure Mv (T : Nat → Prop) (A : World) (T' : Nat → Prop) (B : World) : Prop where
  os : B.os = A.os
  tape : B.tape = A.tape
  output : B.output = A.output
  size : A.heap.size ≤ B.heap.size
  same : ∀ k, k < A.heap.size → ¬ T k → B.heap[k]? = A.heap[k]?
  old : ∀ k, k < A.heap.size → (T' k ↔ T k)
  up : (∀ k, T k → k < A.heap.size) → ∀ k, T' k → k < B.heap.size

/-- A round: what is owned by the iterator stays, and all below n0. -/
structure Rv (n0 : Nat) (T : Nat → Prop) (A B : World) : Prop where
  os : B.os = A.os
  tape : B.tape = A.tape
  output : B.output = A.output
  size : A.heap.size ≤ B.heap.size
  low : ∀ k, k < n0 → B.heap[k]? = A.heap[k]?
  keep : ∀ k, T k → k < A.heap.size → B.heap[k]? = A.heap[k]?

/-- Blocks of deferred calls stay. -/
def KD (T : Nat → Prop) (A B : World) : Prop := ∀ b ds, T b → A.heap[b]? = some (.deferred ds) → B.heap[b]? = some (.deferred ds)

theorem Mv.refl (T : Nat → Prop) (A : World) : Mv T A T A := ⟨rfl, rfl, rfl, Nat.le_refl _, fun _ _ _ => rfl, fun _ _ => Iff.rfl, fun h => h⟩

theorem Mv.trans {T T' T'' : Nat → Prop} {A B C : World} (h : Mv T A T' B) (k : Mv T' B T'' C) : Mv T A T'' C :=
  ⟨k.os.trans h.os, k.tape.trans h.tape, k.output.trans h.output, Nat.le_trans h.size k.size,
    fun i hi hn => (k.same i (Nat.lt_of_lt_of_le hi h.size) (fun ht => hn ((h.old i hi).1 ht))).trans (h.same i hi hn),
    fun i hi => (k.old i (Nat.lt_of_lt_of_le hi h.size)).trans (h.old i hi), fun hu => k.up (h.up hu)⟩

theorem Mv.alloc (T : Nat → Prop) (A : World) (o : Obj) : Mv T A (fun k => T k ∨ k = A.heap.size) (A.alloc o) :=
  ⟨rfl, rfl, rfl, by simp, fun i hi _ => Below.heap_alloc _ _ _ hi, fun i hi => ⟨fun h => h.resolve_right (by omega), .inl⟩, fun hu k hk => by rcases hk with hk | rfl <;> simp; have := hu k hk; omega⟩

theorem Mv.alloc_other (T : Nat → Prop) (A : World) (o : Obj) : Mv T A T (A.alloc o) :=
  ⟨rfl, rfl, rfl, by simp, fun i hi _ => Below.heap_alloc _ _ _ hi, fun i hi => Iff.rfl, fun hu k hk => by have := hu k hk; simp; omega⟩

theorem Mv.setCell {T : Nat → Prop} (A : World) {b i : Nat} (v : Value) (h : T b) : Mv T A T (A.setCell ⟨b, i, none⟩ v) :=
  ⟨rfl, rfl, rfl, by simp, fun k _ hn => Below.heap_setCell A ⟨b, i, none⟩ v k (fun e => hn (by rw [e]; exact h)), fun _ _ => Iff.rfl, fun hu k hk => by simpa using hu k hk⟩

theorem Mv.putObj {T : Nat → Prop} (A : World) {d : Nat} (o : Obj) (h : T d) : Mv T A T (A.putObj d o) :=
  ⟨rfl, rfl, rfl, by simp, fun k _ hn => World.putObj_heap_other (fun e => hn (by rw [e]; exact h)), fun _ _ => Iff.rfl, fun hu k hk => by simpa using hu k hk⟩

theorem Mv.of_below {T : Nat → Prop} {A B : World} (h : Below A.heap.size A B) : Mv T A T B := ⟨h.os, h.tape, h.output, h.size, fun k hk _ => h.block k hk, fun _ _ => Iff.rfl, fun hu k hk => Nat.lt_of_lt_of_le (hu k hk) h.size⟩

theorem Mv.drew (T : Nat → Prop) (A : World) : Mv T A T A.drew := ⟨rfl, rfl, rfl, Nat.le_refl _, fun _ _ _ => rfl, fun _ _ => Iff.rfl, fun h => h⟩

theorem Mv.or {T T' : Nat → Prop} {A B : World} (h : Mv T A T' B) (L : Nat → Prop) : Mv (fun b => T b ∨ L b) A (fun b => T' b ∨ L b) B :=
  ⟨h.os, h.tape, h.output, h.size, fun k hk hn => h.same k hk (fun ht => hn (.inl ht)), fun k hk => by rw [h.old k hk], fun hu k hk => by
    rcases hk with hk | hk
    · exact h.up (fun j hj => hu j (.inl hj)) k hk
    · exact Nat.lt_of_lt_of_le (hu k (.inr hk)) h.size⟩

theorem Mv.below {T T' : Nat → Prop} {A B : World} (h : Mv T A T' B) {N : Nat} {w : World} (hb : Below N w A) (hN : ∀ b, b < N → ¬ T b) (hs : N ≤ A.heap.size) : Below N w B :=
  ⟨h.os.trans hb.os, h.tape.trans hb.tape, h.output.trans hb.output, Nat.le_trans hb.size h.size, fun k hk => (h.same k (by omega) (hN k hk)).trans (hb.block k hk)⟩

theorem Rv.refl (n0 : Nat) (T : Nat → Prop) (A : World) : Rv n0 T A A := ⟨rfl, rfl, rfl, Nat.le_refl _, fun _ _ => rfl, fun _ _ _ => rfl⟩

theorem Rv.trans {n0 : Nat} {T : Nat → Prop} {A B C : World} (h : Rv n0 T A B) (k : Rv n0 T B C) : Rv n0 T A C :=
  ⟨k.os.trans h.os, k.tape.trans h.tape, k.output.trans h.output, Nat.le_trans h.size k.size, fun i hi => (k.low i hi).trans (h.low i hi), fun i ht hi => (k.keep i ht (Nat.lt_of_lt_of_le hi h.size)).trans (h.keep i ht hi)⟩

theorem Rv.mono {n0 : Nat} {T T' : Nat → Prop} {A B : World} (h : Rv n0 T A B) (ht : ∀ b, T' b → T b) : Rv n0 T' A B := ⟨h.os, h.tape, h.output, h.size, h.low, fun k hk hl => h.keep k (ht k hk) hl⟩

theorem Rv.of_below {n0 : Nat} {T : Nat → Prop} {A B : World} (h : Below A.heap.size A B) (hn : n0 ≤ A.heap.size) : Rv n0 T A B := ⟨h.os, h.tape, h.output, h.size, fun k hk => h.block k (by omega), fun k _ hk => h.block k hk⟩

theorem Rv.alloc {n0 : Nat} {T : Nat → Prop} (A : World) (o : Obj) (hn : n0 ≤ A.heap.size) : Rv n0 T A (A.alloc o) := ⟨rfl, rfl, rfl, by simp, fun k hk => Below.heap_alloc _ _ _ (by omega), fun k _ hk => Below.heap_alloc _ _ _ hk⟩

theorem Rv.setCell {n0 : Nat} {T : Nat → Prop} (A : World) {b i : Nat} (v : Value) (hn : n0 ≤ b) (ht : ¬ T b) : Rv n0 T A (A.setCell ⟨b, i, none⟩ v) :=
  ⟨rfl, rfl, rfl, by simp, fun k hk => Below.heap_setCell A ⟨b, i, none⟩ v k (by show k ≠ b; omega), fun k hk _ => Below.heap_setCell A ⟨b, i, none⟩ v k (fun e => ht (by rw [← show k = b from e]; exact hk))⟩

theorem Rv.drew {n0 : Nat} {T : Nat → Prop} (A : World) : Rv n0 T A A.drew := ⟨rfl, rfl, rfl, Nat.le_refl _, fun _ _ => rfl, fun _ _ _ => rfl⟩

theorem Rv.kd {n0 : Nat} {T : Nat → Prop} {A B : World} (h : Rv n0 T A B) : KD T A B := fun b _ ht hb => (h.keep b ht (Array.getElem?_eq_some_iff.1 hb).1).trans hb

/-- The iterator's word. -/
def Itr {α : Type} (P : Program) (gf : Nat) (lb : Array Value) (encs : α → Array Value) (xs : List α) (n0 : Nat) (T : Nat → Prop) (w : World) : Prop :=
  ∀ (l : Nat) (J : Nat → World → (Nat → Prop) → Prop) (Jp : List PanicEntry → World → (Nat → Prop) → Prop) (W : World), Below w.heap.size w W →
    (∀ k A TA B TB, J k A TA → Mv TA A TB B → J k B TB) →
    (∀ ch A TA d o, Jp ch A TA → TA d → Jp ch (A.putObj d o) TA) →
    (∀ k x W1 T1, xs[k]? = some x → J k W1 T1 → ∀ m, YieldAt Fence.wide m P l (encs x) W1 fun e W2 => (e = .returned (.bool true) ∧ J (k + 1) W2 T1 ∧ Rv n0 T1 W1 W2) ∨ (∃ ch, e = .panicked ch ∧ Jp ch W2 T1 ∧ KD T1 W1 W2)) →
    J 0 W T →
    CallsIn Fence.wide 0 P gf (#[.func (.yield l) #[] #[]] ++ lb) W fun e W2 => (∃ v T2, e = .returned v ∧ J xs.length W2 T2 ∧ (∀ b, b < W.heap.size → (T2 b ↔ T b))) ∨ (∃ ch T2, e = .panicked ch ∧ Jp ch W2 T2 ∧ (∀ b, b < W.heap.size → (T2 b ↔ T b)))

/-- How a round's body may be left. -/
def bodyE (n0 : Nat) (I : Nat → World → (Nat → Prop) → Prop) (Ip : List PanicEntry → World → (Nat → Prop) → Prop) (k : Nat) (TB : Nat → Prop) (W : World) : Exit → Act → World → Prop
  | .normal, _, W' => I k W' TB ∧ Rv n0 TB W W'
  | .panic ch, a, W' => a.defers = [] ∧ Ip ch W' TB ∧ KD TB W W'
  | _, _, _ => False

theorem range_law {α : Type} {f : FuncId} {fn : Func} (hf : P.funcs[f]? = some fn) {g : Operand} {ps : Array Tmp} {assign body : Code} {Q : Exit → Act → World → Prop} {a : Act} {w : World} {gf : Nat} {lb : Array Value}
    (hg : a.eval g = .func (.func gf) #[] lb) (eg : ∀ args w, (callFunc gf args).run P w = .ok (.enter gf args) w)
    {encs : α → Array Value} {xs : List α} {n0 : Nat} {T : Nat → Prop} (hseq : Itr P gf lb encs xs n0 T w) (hT : ∀ b, T b → b < w.heap.size) (hn0 : n0 ≤ w.heap.size) (hps : ∀ x, (encs x).size = ps.size)
    (I : Nat → World → (Nat → Prop) → Prop) (Ip : List PanicEntry → World → (Nat → Prop) → Prop)
    (hI : ∀ k A TA B TB, I k A TA → Mv TA A TB B → I k B TB) (hIp : ∀ ch A TA d o, Ip ch A TA → TA d → Ip ch (A.putObj d o) TA) (h0 : I 0 w T)
    (hround : ∀ (l k : Nat) (x : α) (W : World) (TB : Nat → Prop), xs[k]? = some x → I k W TB → TB w.heap.size → TB (w.heap.size + 1) → w.heap.size + 1 < W.heap.size →
      wpE P (some l) f assign (Exit.then (fun a₁ W1 => I k W1 TB ∧ Rv n0 TB W W1 ∧ ∀ W2, I k W2 TB → Mv TB W1 TB W2 → wpE P (some l) f body (bodyE n0 I Ip (k + 1) TB W2) a₁ W2) (fun _ _ _ => False))
        { tmps := (ps.zip (encs x)).foldl (fun t (p, v) => t.setIfInBounds p v) a.tmps, defers := [] } W)
    (hdone : ∀ W T2, I xs.length W T2 → (∀ b, b < w.heap.size → (T2 b ↔ T b)) → T2 w.heap.size → W.heap[w.heap.size]? = some (.deferred (some [])) → Q .normal { a with defers := { target := .collected w.heap.size, args := #[] } :: a.defers } W)
    (hpan : ∀ ch W T2, Ip ch W T2 → (∀ b, b < w.heap.size → (T2 b ↔ T b)) → T2 w.heap.size → W.heap[w.heap.size]? = some (.deferred (some [])) → Q (.panic ch) { a with defers := { target := .collected w.heap.size, args := #[] } :: a.defers } W) :
    wpE P none f (Code.rangeFunc g ps assign body) Q a w := by
  refine wpE_rangeFunc hg eg ?_
  obtain ⟨s, hs⟩ : ∃ s, w.heap.size = s := ⟨_, rfl⟩
  obtain ⟨rec, hrec⟩ : ∃ rec : LoopState → Loop, rec = fun st => { state := st, pending := none, fn := f, tmps := a.tmps, params := ps, assign, body, defers := w.heap.size } := ⟨_, rfl⟩
  have hW1 : (w.alloc (.deferred (some []))).alloc (.loop { state := .ready, pending := none, fn := f, tmps := a.tmps, params := ps, assign, body, defers := w.heap.size }) = (w.alloc (.deferred (some []))).alloc (.loop (rec .ready)) := by rw [hrec]
  rw [hW1]
  clear hW1
  obtain ⟨W1, hW1⟩ : ∃ W1, (w.alloc (.deferred (some []))).alloc (.loop (rec .ready)) = W1 := ⟨_, rfl⟩
  have hsz : W1.heap.size = s + 2 := by rw [← hW1, ← hs]; simp
  have hL1 : W1.heap[s + 1]? = some (.loop (rec .ready)) := by
    rw [← hW1, ← hs]; have := World.alloc_heap_new (w.alloc (.deferred (some []))) (.loop (rec .ready)); rwa [World.size_alloc] at this
  have hK1 : W1.heap[s]? = some (.deferred (some [])) := by
    rw [← hW1, ← hs]; exact (Below.heap_alloc _ _ _ (by simp)).trans (World.alloc_heap_new w _)
  have hb1 : Below w.heap.size w W1 := by
    rw [← hW1]; exact ((Below.refl _ w).alloc (Nat.le_refl _) _).alloc (by simp) _
  rw [hW1, hs]
  rw [hs] at hround hdone hpan hn0
  have hTs : ¬ T s := fun h => by have := hT _ h; omega
  have hTs1 : ¬ T (s + 1) := fun h => by have := hT _ h; omega
  have hm1 : Mv T w (fun b => T b ∨ (b = s ∨ b = s + 1)) W1 := by
    refine ⟨hb1.os, hb1.tape, hb1.output, hb1.size, fun k hk _ => hb1.block k hk, fun k hk => ⟨fun h => h.resolve_right (by omega), .inl⟩, fun hu k hk => ?_⟩
    rcases hk with hk | hk
    · have := hu k hk; omega
    · omega
  refine (hseq (s + 1)
    (fun k A TA => I k A (fun b => TA b ∨ (b = s ∨ b = s + 1)) ∧ ¬ TA s ∧ ¬ TA (s + 1) ∧ A.heap[s + 1]? = some (.loop (rec .ready)) ∧ A.heap[s]? = some (.deferred (some [])))
    (fun ch A TA => Ip ch A (fun b => TA b ∨ (b = s ∨ b = s + 1)) ∧ ¬ TA s ∧ A.heap[s]? = some (.deferred (some [])))
    W1 hb1 ?_ ?_ ?_ ⟨hI _ _ _ _ _ h0 hm1, hTs, hTs1, hL1, hK1⟩).mono ?_
  · rintro k A TA B TB ⟨h1, h2, h3, h4, h5⟩ hm
    have l4 := (Array.getElem?_eq_some_iff.1 h4).1
    have l5 := (Array.getElem?_eq_some_iff.1 h5).1
    exact ⟨hI _ _ _ _ _ h1 (hm.or _), fun h => h2 ((hm.old s l5).1 h), fun h => h3 ((hm.old _ l4).1 h), (hm.same _ l4 h3).trans h4, (hm.same _ l5 h2).trans h5⟩
  · rintro ch A TA d o ⟨h1, h2, h3⟩ hd
    exact ⟨hIp _ _ _ _ _ h1 (.inl hd), h2, (World.putObj_heap_other (fun e => h2 (by rw [e]; exact hd))).trans h3⟩
  · rintro k x W T1 hx ⟨hi, hns, hns1, hl, hk⟩ m
    have hlt : s + 1 < W.heap.size := (Array.getElem?_eq_some_iff.1 hl).1
    have hy := run_yield (P := P) (args := encs x) hl (by rw [hrec]; exact hps x)
    rw [hrec] at hy
    refine ⟨f, _, assign, body, hy, roundE hf (wpE_mono (hround (s + 1) k x W _ hx hi (.inr (.inl rfl)) (.inr (.inr rfl)) hlt) ?_)⟩
    rintro e a1 Wa hp
    cases e with
    | normal =>
      obtain ⟨hia, hra, hbd⟩ := hp
      have hla : Wa.heap[s + 1]? = some (.loop (rec .ready)) := (hra.keep _ (.inr (.inr rfl)) hlt).trans hl
      have hda : Wa.heap[s]? = some (.deferred (some [])) := (hra.keep _ (.inr (.inl rfl)) (by omega)).trans hk
      have hlta : s + 1 < Wa.heap.size := (Array.getElem?_eq_some_iff.1 hla).1
      refine ⟨_, run_beginRound hla (by rw [hrec]), ?_⟩
      have hbusy : (Wa.putObj (s + 1) (.loop { rec .ready with state := .busy })).heap[s + 1]? = some (.loop { rec .ready with state := .busy }) := World.putObj_heap_same hlta
      have hd2 : (Wa.putObj (s + 1) (.loop { rec .ready with state := .busy })).heap[s]? = some (.deferred (some [])) := (World.putObj_heap_other (by omega)).trans hda
      have hmb : Mv (fun b => T1 b ∨ (b = s ∨ b = s + 1)) Wa (fun b => T1 b ∨ (b = s ∨ b = s + 1)) (Wa.putObj (s + 1) (.loop { rec .ready with state := .busy })) := Mv.putObj _ _ (.inr (.inr rfl))
      refine wpE_mono (hbd _ (hI _ _ _ _ _ hia hmb) hmb) ?_
      rintro e a3 W3 hp
      cases e with
      | normal =>
        obtain ⟨hi3, hr3⟩ := hp
        have hl3 := (hr3.keep (s + 1) (.inr (.inr rfl)) (by simpa using hlta)).trans hbusy
        have hd3 := (hr3.keep s (.inr (.inl rfl)) (by simp; omega)).trans hd2
        have hlt3 := (Array.getElem?_eq_some_iff.1 hl3).1
        have hend := run_endRound (P := P) none hl3
        have hrr : ({ { rec .ready with state := .busy } with state := if (none : Option Code).isNone then .ready else .done, pending := none } : Loop) = rec .ready := by rw [hrec]; rfl
        rw [hrr] at hend
        refine ⟨_, _, hend, .inl ⟨rfl, ⟨hI _ _ _ _ _ hi3 (Mv.putObj _ _ (.inr (.inr rfl))), hns, hns1, World.putObj_heap_same hlt3, (World.putObj_heap_other (by omega)).trans hd3⟩, ?_⟩⟩
        have hsz3 : W.heap.size ≤ W3.heap.size := Nat.le_trans hra.size (by have := hr3.size; simpa using this)
        refine ⟨hr3.os.trans hra.os, hr3.tape.trans hra.tape, hr3.output.trans hra.output, by simpa using hsz3, fun j hj => ?_, fun j hj hjl => ?_⟩
        · have hjs : j ≠ s + 1 := by omega
          rw [World.putObj_heap_other hjs, hr3.low j hj, World.putObj_heap_other hjs]
          exact hra.low j hj
        · have hjs : j ≠ s + 1 := fun e => hns1 (e ▸ hj)
          have hja : j < Wa.heap.size := Nat.lt_of_lt_of_le hjl hra.size
          rw [World.putObj_heap_other hjs, hr3.keep j (.inl hj) (by simpa using hja), World.putObj_heap_other hjs]
          exact hra.keep j (.inl hj) hjl
      | panic ch =>
        obtain ⟨hdf, hip, hkd⟩ := hp
        refine ⟨hdf, .inr ⟨ch, rfl, ⟨hip, hns, hkd s _ (.inr (.inl rfl)) hd2⟩, ?_⟩⟩
        intro b ds hb hbd2
        have hbs : b ≠ s + 1 := fun e => hns1 (e ▸ hb)
        refine hkd b ds (.inl hb) ?_
        rw [World.putObj_heap_other hbs, hra.keep b (.inl hb) (Array.getElem?_eq_some_iff.1 hbd2).1]
        exact hbd2
      | ret => exact hp.elim
      | exit id => exact hp.elim
      | goto t => exact hp.elim
      | outgrown => exact hp.elim
    | ret => exact hp.elim
    | exit id => exact hp.elim
    | goto t => exact hp.elim
    | panic ch => exact hp.elim
    | outgrown => exact hp.elim
  · rintro e W2 (⟨v, T2, rfl, ⟨hi, hns, hns1, hl, hk⟩, hold⟩ | ⟨ch, T2, rfl, ⟨hi, hns, hk⟩, hold⟩)
    · have hel := run_endLoop (P := P) hl (by rw [hrec]; simp)
      rw [show (rec .ready).pending = none by rw [hrec]] at hel
      refine .inl ⟨v, _, rfl, hel, ?_⟩
      · refine hdone _ (fun b => T2 b ∨ (b = s ∨ b = s + 1)) (hI _ _ _ _ _ hi (Mv.putObj _ _ (.inr (.inr rfl)))) (fun b hb => ?_) (.inr (.inl rfl)) ((World.putObj_heap_other (by omega)).trans hk)
        have := hold b (by omega)
        exact ⟨fun h => this.1 (h.resolve_right (by omega)), fun h => .inl (this.2 h)⟩
    · refine .inr ⟨ch, rfl, hpan ch _ (fun b => T2 b ∨ (b = s ∨ b = s + 1)) hi (fun b hb => ?_) (.inr (.inl rfl)) hk⟩
      have := hold b (by omega)
      exact ⟨fun h => this.1 (h.resolve_right (by omega)), fun h => .inl (this.2 h)⟩

end Go.Proofs.YteghapmlnkhepaaDoor

