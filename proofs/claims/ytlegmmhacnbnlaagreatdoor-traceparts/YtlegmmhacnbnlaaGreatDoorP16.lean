/- Texts of the seat, packed: JQa. -/
import Derived.RangeFuncNested
import Derived.RangeFuncBound
import Derived.RangeFuncCalls
import Derived.RangeFuncLeaves
import Derived.RangeFuncBox
import Derived.Below
/- The law for a range over a function whose rounds may leave it: what the iterator owns, what a round keeps. -/
namespace Go.Proofs.YtlegmmhacnbnlaaGreatDoor.J.Rl
set_option maxRecDepth 1000000
open Go.RowKit
set_option linter.unusedVariables false

variable {P : Program}

/-- A move of one who owns T: all others' blocks stay; what is new may be owned. -/
structure Mv (T : Nat → Prop) (A : World) (T' : Nat → Prop) (B : World) : Prop where
  os : B.os = A.os
  tape : B.tape = A.tape
  output : B.output = A.output
  size : A.heap.size ≤ B.heap.size
  same : ∀ k, k < A.heap.size → ¬ T k → B.heap[k]? = A.heap[k]?
  old : ∀ k, k < A.heap.size → (T' k ↔ T k)
  up : (∀ k, T k → k < A.heap.size) → ∀ k, T' k → k < B.heap.size

/-- A round: what is owned by the iterator stays, and all below n0. -/
structure Rv (n0 : Nat) (T : Nat → Prop) (A B : World) : Prop where
  os : B.os = A.os
  tape : B.tape = A.tape
  output : B.output = A.output
  size : A.heap.size ≤ B.heap.size
  low : ∀ k, k < n0 → B.heap[k]? = A.heap[k]?
  keep : ∀ k, T k → k < A.heap.size → B.heap[k]? = A.heap[k]?

theorem Mv.refl (T : Nat → Prop) (A : World) : Mv T A T A := ⟨rfl, rfl, rfl, Nat.le_refl _, fun _ _ _ => rfl, fun _ _ => Iff.rfl, fun h => h⟩
theorem Mv.trans {T T' T'' : Nat → Prop} {A B C : World} (h : Mv T A T' B) (k : Mv T' B T'' C) : Mv T A T'' C :=
  ⟨k.os.trans h.os, k.tape.trans h.tape, k.output.trans h.output, Nat.le_trans h.size k.size,
    fun i hi hn => (k.same i (Nat.lt_of_lt_of_le hi h.size) (fun ht => hn ((h.old i hi).1 ht))).trans (h.same i hi hn),
    fun i hi => (k.old i (Nat.lt_of_lt_of_le hi h.size)).trans (h.old i hi), fun hu => k.up (h.up hu)⟩
theorem Mv.alloc (T : Nat → Prop) (A : World) (o : Obj) : Mv T A (fun k => T k ∨ k = A.heap.size) (A.alloc o) :=
  ⟨rfl, rfl, rfl, by simp, fun i hi _ => Below.heap_alloc _ _ _ hi, fun i hi => ⟨fun h => h.resolve_right (by omega), .inl⟩, fun hu k hk => by rcases hk with hk | rfl <;> simp; have := hu k hk; omega⟩
theorem Mv.setCell {T : Nat → Prop} (A : World) {b i : Nat} (v : Value) (h : T b) : Mv T A T (A.setCell ⟨b, i, none⟩ v) :=
  ⟨rfl, rfl, rfl, by simp, fun k _ hn => Below.heap_setCell A ⟨b, i, none⟩ v k (fun e => hn (by rw [e]; exact h)), fun _ _ => Iff.rfl, fun hu k hk => by simpa using hu k hk⟩
theorem Mv.putObj {T : Nat → Prop} (A : World) {d : Nat} (o : Obj) (h : T d) : Mv T A T (A.putObj d o) :=
  ⟨rfl, rfl, rfl, by simp [World.putObj], fun k _ hn => World.putObj_heap_other (fun e => hn (by rw [e]; exact h)), fun _ _ => Iff.rfl, fun hu k hk => by simpa [World.putObj] using hu k hk⟩
theorem Mv.of_below {T : Nat → Prop} {A B : World} (h : Below A.heap.size A B) : Mv T A T B := ⟨h.os, h.tape, h.output, h.size, fun k hk _ => h.block k hk, fun _ _ => Iff.rfl, fun hu k hk => Nat.lt_of_lt_of_le (hu k hk) h.size⟩
/-- What is new is owned, too. -/
theorem Mv.of_below_own {T : Nat → Prop} {A B : World} (h : Below A.heap.size A B) : Mv T A (fun k => T k ∨ (A.heap.size ≤ k ∧ k < B.heap.size)) B := ⟨h.os, h.tape, h.output, h.size, fun k hk _ => h.block k hk, fun k hk => ⟨fun h => h.resolve_right (by omega), .inl⟩, fun hu k hk => by
  have hs := h.size
  rcases hk with hk | hk
  · have := hu k hk; omega
  · exact hk.2⟩
theorem Mv.drew (T : Nat → Prop) (A : World) : Mv T A T A.drew := ⟨rfl, rfl, rfl, Nat.le_refl _, fun _ _ _ => rfl, fun _ _ => Iff.rfl, fun h => h⟩
theorem Mv.or {T T' : Nat → Prop} {A B : World} (h : Mv T A T' B) (L : Nat → Prop) : Mv (fun b => T b ∨ L b) A (fun b => T' b ∨ L b) B :=
  ⟨h.os, h.tape, h.output, h.size, fun k hk hn => h.same k hk (fun ht => hn (.inl ht)), fun k hk => by rw [h.old k hk], fun hu k hk => by
    rcases hk with hk | hk
    · exact h.up (fun j hj => hu j (.inl hj)) k hk
    · exact Nat.lt_of_lt_of_le (hu k (.inr hk)) h.size⟩
/-- A move of one whose blocks are another's, too. -/
theorem Mv.wide {T T' U : Nat → Prop} {A B : World} (h : Mv T A T' B) (hs : ∀ b, T b → U b) (hl : ∀ b, T b → b < A.heap.size) : Mv U A (fun b => U b ∨ T' b) B :=
  ⟨h.os, h.tape, h.output, h.size, fun k hk hn => h.same k hk (fun ht => hn (hs k ht)), fun k hk => ⟨fun hx => hx.elim id (fun hx => hs k ((h.old k hk).1 hx)), .inl⟩, fun hu k hk => by
    rcases hk with hk | hk
    · exact Nat.lt_of_lt_of_le (hu k hk) h.size
    · exact h.up hl k hk⟩
theorem Mv.below {T T' : Nat → Prop} {A B : World} (h : Mv T A T' B) {N : Nat} {w : World} (hb : Below N w A) (hN : ∀ b, b < N → ¬ T b) (hs : N ≤ A.heap.size) : Below N w B :=
  ⟨h.os.trans hb.os, h.tape.trans hb.tape, h.output.trans hb.output, Nat.le_trans hb.size h.size, fun k hk => (h.same k (by omega) (hN k hk)).trans (hb.block k hk)⟩

theorem Rv.refl (n0 : Nat) (T : Nat → Prop) (A : World) : Rv n0 T A A := ⟨rfl, rfl, rfl, Nat.le_refl _, fun _ _ => rfl, fun _ _ _ => rfl⟩
theorem Rv.trans {n0 : Nat} {T : Nat → Prop} {A B C : World} (h : Rv n0 T A B) (k : Rv n0 T B C) : Rv n0 T A C :=
  ⟨k.os.trans h.os, k.tape.trans h.tape, k.output.trans h.output, Nat.le_trans h.size k.size, fun i hi => (k.low i hi).trans (h.low i hi), fun i ht hi => (k.keep i ht (Nat.lt_of_lt_of_le hi h.size)).trans (h.keep i ht hi)⟩
theorem Rv.mono {n0 : Nat} {T T' : Nat → Prop} {A B : World} (h : Rv n0 T A B) (ht : ∀ b, T' b → T b) : Rv n0 T' A B := ⟨h.os, h.tape, h.output, h.size, h.low, fun k hk hl => h.keep k (ht k hk) hl⟩
theorem Rv.of_below {n0 : Nat} {T : Nat → Prop} {A B : World} (h : Below A.heap.size A B) (hn : n0 ≤ A.heap.size) : Rv n0 T A B := ⟨h.os, h.tape, h.output, h.size, fun k hk => h.block k (by omega), fun k _ hk => h.block k hk⟩
theorem Rv.setCell {n0 : Nat} {T : Nat → Prop} (A : World) {b i : Nat} (v : Value) (hn : n0 ≤ b) (ht : ¬ T b) : Rv n0 T A (A.setCell ⟨b, i, none⟩ v) :=
  ⟨rfl, rfl, rfl, by simp, fun k hk => Below.heap_setCell A ⟨b, i, none⟩ v k (by show k ≠ b; omega), fun k hk _ => Below.heap_setCell A ⟨b, i, none⟩ v k (fun e => ht (by rw [← show k = b from e]; exact hk))⟩
theorem Rv.grown {n0 : Nat} {T : Nat → Prop} {A B : World} {row : Option Nat} (h : A.grownBy B row) (hn : ∀ r, row = some r → n0 ≤ r ∧ ¬ T r) (hs : n0 ≤ A.heap.size) : Rv n0 T A B :=
  ⟨h.os, h.tape, h.output, h.size, fun k hk => h.block k (by omega) (fun e => by have := (hn k e.symm).1; omega), fun k hk hl => h.block k hl (fun e => (hn k e.symm).2 hk)⟩
theorem Rv.drew {n0 : Nat} {T : Nat → Prop} (A : World) : Rv n0 T A A.drew := ⟨rfl, rfl, rfl, Nat.le_refl _, fun _ _ => rfl, fun _ _ _ => rfl⟩

/-- All blocks of cells stay as they were (a loop's record alone was turned). -/
structure Bz (A B : World) : Prop where
  os : B.os = A.os
  tape : B.tape = A.tape
  output : B.output = A.output
  size : B.heap.size = A.heap.size
  cells : ∀ (b : Nat) (o : Obj), A.heap[b]? = some o → o.isCells = true → B.heap[b]? = some o

theorem Bz.cell {A B : World} (h : Bz A B) {a : Addr} {v : Value} (hc : A.cell? a = some v) : B.cell? a = some v := by
  obtain ⟨o, ho, hcl⟩ := cells_of_cell hc
  rw [World.cell?_of_block (w := A) ((h.cells _ _ ho hcl).trans ho.symm)]
  exact hc
theorem Bz.put {W : World} {l : Nat} {r : Loop} (h : W.heap[l]? = some (.loop r)) (r' : Loop) : Bz W (W.putObj l (.loop r')) :=
  ⟨rfl, rfl, rfl, by simp [World.putObj], fun b o ho hc => by
    by_cases e : b = l
    · subst e
      rw [h] at ho
      cases ho
      cases hc
    · exact (World.putObj_heap_other e).trans ho⟩

/-- The iterator's word. -/
def Itr {α : Type} (P : Program) (gf : Nat) (lb : Array Value) (enc : α → Nat → World → (Nat → Prop) → Array Value → Prop) (xs : List α) (n0 m0 : Nat) (G : World → Prop) (T : Nat → Prop) (w : World) : Prop :=
  ∀ (l : Nat) (J Jx : Nat → World → (Nat → Prop) → Prop) (W : World), Below w.heap.size w W →
    (∀ k A TA B TB, J k A TA → Mv TA A TB B → J k B TB) →
    (∀ k A TA B TB, Jx k A TA → Mv TA A TB B → Jx k B TB) →
    (∀ k A TA, J k A TA → G A) →
    (∀ k x args F W1 T1, xs[k]? = some x → enc x F W1 T1 args → (∃ W0 T0, J k W0 T0 ∧ W0.heap.size = F ∧ Mv T0 W0 T1 W1) → J k W1 T1 → (∀ b, T1 b → b < W1.heap.size) → ∀ m, YieldAt Fence.wide m P l args W1 fun e W2 => ∃ t : Bool, e = .returned (.bool t) ∧ (t = true → J (k + 1) W2 T1 ∧ Rv n0 T1 W1 W2) ∧ (t = false → Jx (k + 1) W2 T1 ∧ Rv m0 T1 W1 W2)) →
    J 0 W T →
    CallsIn Fence.wide 0 P gf (#[.func (.yield l) #[] #[]] ++ lb) W fun e W2 => ∃ v T2, e = .returned v ∧ (J xs.length W2 T2 ∨ ∃ k, k < xs.length ∧ Jx (k + 1) W2 T2) ∧ (∀ b, b < W.heap.size → (T2 b ↔ T b)) ∧ (∀ b, T2 b → b < W2.heap.size)

/-- How a round's body may be left. -/
def bodyR (n0 m0 : Nat) (I : Nat → World → (Nat → Prop) → Prop) (Ix : Code → Nat → World → (Nat → Prop) → Prop) (k : Nat) (TB : Nat → Prop) (W : World) : Exit → Act → World → Prop
  | .normal, _, W' => I k W' TB ∧ Rv n0 TB W W'
  | .ret, _, W' => Ix .ret k W' TB ∧ Rv m0 TB W W'
  | .exit id, _, W' => Ix (.exit id) k W' TB ∧ Rv m0 TB W W'
  | _, _, _ => False

theorem range_law {α : Type} {g : Operand} {ps : Array Tmp} {assign body : Code} {Q : Exit → Act → World → Prop} {a : Act} {w : World} {gf : Nat} {lb : Array Value}
    (hg : a.eval g = .func (.func gf) #[] lb) (eg : ∀ args w, (callFunc gf args).run P w = .ok (.enter gf args) w)
    {enc : α → Nat → World → (Nat → Prop) → Array Value → Prop} {xs : List α} {n0 m0 : Nat} {G : World → Prop} {T : Nat → Prop} (hseq : Itr P gf lb enc xs n0 m0 G T w) (hT : ∀ b, T b → b < w.heap.size) (hn0 : n0 ≤ w.heap.size) (hm0 : m0 ≤ n0) (hps : ∀ x F W T args, enc x F W T args → args.size = ps.size)
    (I : Nat → World → (Nat → Prop) → Prop) (Ix : Code → Nat → World → (Nat → Prop) → Prop)
    (hI : ∀ k A TA B TB, I k A TA → Mv TA A TB B → I k B TB) (hIx : ∀ c k A TA B TB, Ix c k A TA → Mv TA A TB B → Ix c k B TB) (hG : ∀ k A TA, I k A TA → G A) (h0 : I 0 w T)
    (hround : ∀ (m l k : Nat) (x : α) (args : Array Value) (F : Nat) (W : World) (T1 TB : Nat → Prop), xs[k]? = some x → enc x F W T1 args → (∃ W0 T0, I k W0 T0 ∧ W0.heap.size = F ∧ Mv T0 W0 TB W) → I k W TB → TB = (fun b => T1 b ∨ (b = w.heap.size ∨ b = w.heap.size + 1)) → (∀ b, TB b → b < W.heap.size) → (∀ b, (b = w.heap.size ∨ b = w.heap.size + 1) → ∃ o : Obj, W.heap[b]? = some o ∧ o.isCells = false) → w.heap.size + 1 < W.heap.size →
      assign.wpIn (Fence.wide.inRound l) m P (Exit.then (fun a₁ W1 => I k W1 TB ∧ Rv n0 TB W W1 ∧ ∀ W2, Mv TB W1 TB W2 → I k W2 TB → Bz W1 W2 → body.wpIn (Fence.wide.inRound l) m P (bodyR n0 m0 I Ix (k + 1) TB W2) a₁ W2) (fun _ _ _ => False))
        { tmps := (ps.zip args).foldl (fun t (p, v) => t.setIfInBounds p v) a.tmps, defers := [] } W)
    (hdone : ∀ W T2, I xs.length W T2 → (∀ b, b < w.heap.size → (T2 b ↔ T b)) → (∀ b, T2 b → b < W.heap.size) → W.heap[w.heap.size]? = some (.deferred (some [])) → T2 w.heap.size → Q .normal { a with defers := { target := .collected w.heap.size, args := #[] } :: a.defers } W)
    (hstop : ∀ c k W T2, k < xs.length → Ix c (k + 1) W T2 → (∀ b, b < w.heap.size → (T2 b ↔ T b)) → (∀ b, T2 b → b < W.heap.size) → W.heap[w.heap.size]? = some (.deferred (some [])) → T2 w.heap.size → c.wpIn Fence.wide 0 P Q { a with defers := { target := .collected w.heap.size, args := #[] } :: a.defers } W) :
    (Code.rangeFunc g ps assign body).wpIn Fence.wide 0 P Q a w := by
  refine wpIn_rangeFunc ?_
  intro fn hfn
  obtain ⟨s, hs⟩ : ∃ s, w.heap.size = s := ⟨_, rfl⟩
  obtain ⟨rec, hrec⟩ : ∃ rec : LoopState → Option Code → Loop, rec = fun st pe => { state := st, pending := pe, fn, tmps := a.tmps, params := ps, assign, body, defers := w.heap.size } := ⟨_, rfl⟩
  obtain ⟨W1, hW1⟩ : ∃ W1, (w.alloc (.deferred (some []))).alloc (.loop (rec .ready none)) = W1 := ⟨_, rfl⟩
  have hsz : W1.heap.size = s + 2 := by rw [← hW1, ← hs]; simp
  have hL1 : W1.heap[s + 1]? = some (.loop (rec .ready none)) := by
    rw [← hW1, ← hs]; have := World.alloc_heap_new (w.alloc (.deferred (some []))) (.loop (rec .ready none)); rwa [World.size_alloc] at this
  have hK1 : W1.heap[s]? = some (.deferred (some [])) := by
    rw [← hW1, ← hs]; exact (Below.heap_alloc _ _ _ (by simp)).trans (World.alloc_heap_new w _)
  have hb1 : Below w.heap.size w W1 := by
    rw [← hW1]; exact ((Below.refl _ w).alloc (Nat.le_refl _) _).alloc (by simp) _
  refine ⟨w.heap.size + 1, [{ target := .collected w.heap.size, args := #[] }], W1, { target := .fn (.func gf) lb, args := #[.func (.yield (w.heap.size + 1)) #[] #[]] }, W1, gf,
    #[.func (.yield (w.heap.size + 1)) #[] #[]] ++ lb, W1, ?_, ?_, ?_, ?_, fun h => (by cases h), ?_⟩
  · rw [← hW1, hrec]; exact run_enterLoop_outer _ _ _ _ _
  · simp only [resolve, hg]
    simp [go_sem]
  · intro f' hf'; trivial
  · simp [invoke, go_sem, eg]
  rw [hs]
  rw [hs] at hround hdone hstop hn0
  have hTs : ¬ T s := fun h => by have := hT _ h; omega
  have hTs1 : ¬ T (s + 1) := fun h => by have := hT _ h; omega
  have hm1 : Mv T w (fun b => T b ∨ (b = s ∨ b = s + 1)) W1 := by
    refine ⟨hb1.os, hb1.tape, hb1.output, hb1.size, fun k hk _ => hb1.block k hk, fun k hk => ⟨fun h => h.resolve_right (by omega), .inl⟩, fun hu k hk => ?_⟩
    rcases hk with hk | hk
    · have := hu k hk; omega
    · omega
  refine (hseq (s + 1)
    (fun k A TA => I k A (fun b => TA b ∨ (b = s ∨ b = s + 1)) ∧ ¬ TA s ∧ ¬ TA (s + 1) ∧ A.heap[s + 1]? = some (.loop (rec .ready none)) ∧ A.heap[s]? = some (.deferred (some [])))
    (fun k A TA => ∃ c, Ix c k A (fun b => TA b ∨ (b = s ∨ b = s + 1)) ∧ ¬ TA s ∧ ¬ TA (s + 1) ∧ A.heap[s + 1]? = some (.loop (rec .done (some c))) ∧ A.heap[s]? = some (.deferred (some [])))
    W1 hb1 ?_ ?_ (fun k A TA h => hG _ _ _ h.1) ?_ ⟨hI _ _ _ _ _ h0 hm1, hTs, hTs1, hL1, hK1⟩).mono ?_
  · rintro k A TA B TB ⟨h1, h2, h3, h4, h5⟩ hm
    have l4 := (Array.getElem?_eq_some_iff.1 h4).1
    have l5 := (Array.getElem?_eq_some_iff.1 h5).1
    exact ⟨hI _ _ _ _ _ h1 (hm.or _), fun h => h2 ((hm.old s l5).1 h), fun h => h3 ((hm.old _ l4).1 h), (hm.same _ l4 h3).trans h4, (hm.same _ l5 h2).trans h5⟩
  · rintro k A TA B TB ⟨c, h1, h2, h3, h4, h5⟩ hm
    have l4 := (Array.getElem?_eq_some_iff.1 h4).1
    have l5 := (Array.getElem?_eq_some_iff.1 h5).1
    exact ⟨c, hIx _ _ _ _ _ _ h1 (hm.or _), fun h => h2 ((hm.old s l5).1 h), fun h => h3 ((hm.old _ l4).1 h), (hm.same _ l4 h3).trans h4, (hm.same _ l5 h2).trans h5⟩
  · rintro k x args F W T1 hx hen ⟨W0, T0, ⟨hi0, _⟩, hF, hmF⟩ ⟨hi, hns, hns1, hl, hk⟩ hup m
    have hlt : s + 1 < W.heap.size := (Array.getElem?_eq_some_iff.1 hl).1
    have hy := run_yield (P := P) (args := args) hl (by rw [hrec]; exact hps x F W T1 args hen)
    rw [hrec] at hy
    have hupB : ∀ b, (T1 b ∨ (b = s ∨ b = s + 1)) → b < W.heap.size := fun b hb => by
      rcases hb with hb | hb
      · exact hup b hb
      · omega
    refine ⟨fn, _, assign, body, hy, roundIn_of_wpIn (n := m) hfn (wpIn_mono (hround m (s + 1) k x args F W T1 _ hx hen ⟨W0, _, hi0, hF, hmF.or _⟩ hi rfl hupB (fun b hb => ?_) hlt) ?_)⟩
    · rcases hb with rfl | rfl
      · exact ⟨_, hk, rfl⟩
      · exact ⟨_, hl, rfl⟩
    rintro e a1 Wa hp
    cases e with
    | normal =>
      obtain ⟨hia, hra, hbd⟩ := hp
      have hla : Wa.heap[s + 1]? = some (.loop (rec .ready none)) := (hra.keep _ (.inr (.inr rfl)) hlt).trans hl
      have hda : Wa.heap[s]? = some (.deferred (some [])) := (hra.keep _ (.inr (.inl rfl)) (by omega)).trans hk
      have hlta : s + 1 < Wa.heap.size := (Array.getElem?_eq_some_iff.1 hla).1
      refine ⟨_, run_beginRound hla (by rw [hrec]), ?_⟩
      have hbusy : (Wa.putObj (s + 1) (.loop { rec .ready none with state := .busy })).heap[s + 1]? = some (.loop { rec .ready none with state := .busy }) := World.putObj_heap_same hlta
      have hd2 : (Wa.putObj (s + 1) (.loop { rec .ready none with state := .busy })).heap[s]? = some (.deferred (some [])) := (World.putObj_heap_other (by omega)).trans hda
      have hmb : Mv (fun b => T1 b ∨ (b = s ∨ b = s + 1)) Wa (fun b => T1 b ∨ (b = s ∨ b = s + 1)) (Wa.putObj (s + 1) (.loop { rec .ready none with state := .busy })) := Mv.putObj _ _ (.inr (.inr rfl))
      refine wpIn_mono (hbd _ hmb (hI _ _ _ _ _ hia hmb) (Bz.put hla _)) ?_
      have fin : ∀ (q : Nat) (hq : q ≤ n0) (jump : Option Code) (W3 : World), Rv q (fun b => T1 b ∨ (b = s ∨ b = s + 1)) (Wa.putObj (s + 1) (.loop { rec .ready none with state := .busy })) W3 →
          (Instr.endRound (s + 1) jump).run P W3 = .ok (.bool jump.isNone) (W3.putObj (s + 1) (.loop (rec (if jump.isNone then .ready else .done) jump))) ∧
          (W3.putObj (s + 1) (.loop (rec (if jump.isNone then .ready else .done) jump))).heap[s + 1]? = some (.loop (rec (if jump.isNone then .ready else .done) jump)) ∧
          (W3.putObj (s + 1) (.loop (rec (if jump.isNone then .ready else .done) jump))).heap[s]? = some (.deferred (some [])) ∧
          Rv q T1 W (W3.putObj (s + 1) (.loop (rec (if jump.isNone then .ready else .done) jump))) := fun q hq jump W3 hr3 => by
        have hl3 := (hr3.keep (s + 1) (.inr (.inr rfl)) (by simpa [World.putObj] using hlta)).trans hbusy
        have hd3 := (hr3.keep s (.inr (.inl rfl)) (by simp [World.putObj]; omega)).trans hd2
        have := run_endRound (P := P) jump hl3
        rw [hrec] at this ⊢
        refine ⟨this, World.putObj_heap_same (Array.getElem?_eq_some_iff.1 hl3).1, (World.putObj_heap_other (by omega)).trans hd3, ?_⟩
        have hsz3 : W.heap.size ≤ W3.heap.size := Nat.le_trans hra.size (by have := hr3.size; simpa [World.putObj] using this)
        refine ⟨hr3.os.trans hra.os, hr3.tape.trans hra.tape, hr3.output.trans hra.output, by simpa [World.putObj] using hsz3, fun j hj => ?_, fun j hj hjl => ?_⟩
        · have hjs : j ≠ s + 1 := by omega
          rw [World.putObj_heap_other hjs, hr3.low j hj, World.putObj_heap_other hjs]
          exact hra.low j (by omega)
        · have hjs : j ≠ s + 1 := fun e => hns1 (e ▸ hj)
          have hja : j < Wa.heap.size := Nat.lt_of_lt_of_le hjl hra.size
          rw [World.putObj_heap_other hjs, hr3.keep j (.inl hj) (by simpa [World.putObj] using hja), World.putObj_heap_other hjs]
          exact hra.keep j (.inl hj) hjl
      rintro e a3 W3 hp
      cases e with
      | normal =>
        obtain ⟨hi3, hr3⟩ := hp
        obtain ⟨f1, f2, f3, f4⟩ := fin n0 (Nat.le_refl _) none W3 hr3
        exact ⟨_, _, f1, true, rfl, fun _ => ⟨⟨hI _ _ _ _ _ hi3 (Mv.putObj _ _ (.inr (.inr rfl))), hns, hns1, f2, f3⟩, f4⟩, (fun h => by cases h)⟩
      | ret =>
        obtain ⟨hi3, hr3⟩ := hp
        obtain ⟨f1, f2, f3, f4⟩ := fin m0 hm0 (some .ret) W3 hr3
        exact ⟨_, _, f1, false, rfl, (fun h => by cases h), fun _ => ⟨⟨_, hIx _ _ _ _ _ _ hi3 (Mv.putObj _ _ (.inr (.inr rfl))), hns, hns1, f2, f3⟩, f4⟩⟩
      | exit id =>
        obtain ⟨hi3, hr3⟩ := hp
        obtain ⟨f1, f2, f3, f4⟩ := fin m0 hm0 (some (.exit id)) W3 hr3
        exact ⟨_, _, f1, false, rfl, (fun h => by cases h), fun _ => ⟨⟨_, hIx _ _ _ _ _ _ hi3 (Mv.putObj _ _ (.inr (.inr rfl))), hns, hns1, f2, f3⟩, f4⟩⟩
      | goto t => exact hp.elim
      | panic ch => exact hp.elim
      | outgrown => exact hp.elim
    | ret => exact hp.elim
    | exit id => exact hp.elim
    | goto t => exact hp.elim
    | panic ch => exact hp.elim
    | outgrown => exact hp.elim
  · rintro e W2 ⟨v, T2, rfl, hor, hold, hup2⟩
    have hold2 : ∀ b, b < s → ((T2 b ∨ (b = s ∨ b = s + 1)) ↔ T b) := fun b hb => by
      have := hold b (by omega)
      exact ⟨fun h => this.1 (h.resolve_right (by omega)), fun h => .inl (this.2 h)⟩
    rcases hor with ⟨hi, hns, hns1, hl, hk⟩ | ⟨k, hk0, c, hi, hns, hns1, hl, hk⟩
    · have hlt := (Array.getElem?_eq_some_iff.1 hl).1
      refine ⟨none, _, by have := run_endLoop (P := P) hl (by rw [hrec]; simp); rw [hrec] at this; exact this, ?_⟩
      refine hdone _ (fun b => T2 b ∨ (b = s ∨ b = s + 1)) (hI _ _ _ _ _ hi (Mv.putObj _ _ (.inr (.inr rfl)))) hold2 (fun b hb => ?_) ((World.putObj_heap_other (by omega)).trans hk) (.inr (.inl rfl))
      simp only [World.putObj, Array.size_setIfInBounds]
      rcases hb with hb | hb
      · exact hup2 b hb
      · omega
    · have hlt := (Array.getElem?_eq_some_iff.1 hl).1
      refine ⟨some c, _, by have := run_endLoop (P := P) hl (by rw [hrec]; simp); rw [hrec] at this; exact this, ?_⟩
      refine hstop c k _ (fun b => T2 b ∨ (b = s ∨ b = s + 1)) hk0 (hIx _ _ _ _ _ _ hi (Mv.putObj _ _ (.inr (.inr rfl)))) hold2 (fun b hb => ?_) ((World.putObj_heap_other (by omega)).trans hk) (.inr (.inl rfl))
      simp only [World.putObj, Array.size_setIfInBounds]
      rcases hb with hb | hb
      · exact hup2 b hb
      · omega

theorem boxed_mv {A B : World} {T T' : Nat → Prop} {b : Nat} {t : TypeId} {v : Value} (h : Boxed A b t v) (hm : Mv T A T' B) (hn : ¬ T b) : Boxed B b t v := (hm.same b h.lt hn).trans h
theorem Mv.no {A B : World} {T T' : Nat → Prop} (hm : Mv T A T' B) {b : Nat} (hl : b < A.heap.size) (hn : ¬ T b) : ¬ T' b := fun h => hn ((hm.old b hl).1 h)
theorem Rv.below {n0 : Nat} {T : Nat → Prop} {A B : World} (h : Rv n0 T A B) : Below n0 A B := ⟨h.os, h.tape, h.output, h.size, h.low⟩
theorem Rv.low0 {n0 : Nat} {T : Nat → Prop} {A B : World} (h : Rv n0 T A B) : Rv 0 T A B := ⟨h.os, h.tape, h.output, h.size, (fun k hk => by omega), h.keep⟩

def mark (D : Nat) : Deferred := { target := .collected D, args := #[] }

/-- The marks of the ranges that were gone through: each block is the iterator's own, and holds no call. -/
def Marks (T : Nat → Prop) (w : World) (Ds : List Nat) : Prop := Ds.Nodup ∧ ∀ D ∈ Ds, T D ∧ w.heap[D]? = some (.deferred (some []))

theorem Marks.nil (T : Nat → Prop) (w : World) : Marks T w [] := ⟨by simp, by simp⟩

theorem Marks.mono {T T' : Nat → Prop} {w w' : World} {Ds : List Nat} (h : Marks T w Ds) (hT : ∀ D, T D → w.heap[D]? = some (.deferred (some [])) → T' D) (hk : ∀ D, T D → w.heap[D]? = some (.deferred (some [])) → w'.heap[D]? = some (.deferred (some []))) : Marks T' w' Ds :=
  ⟨h.1, fun D hD => ⟨hT D (h.2 D hD).1 (h.2 D hD).2, hk D (h.2 D hD).1 (h.2 D hD).2⟩⟩

theorem Marks.cons {T : Nat → Prop} {w : World} {Ds : List Nat} {D : Nat} (h : Marks T w Ds) (hT : T D) (hD : w.heap[D]? = some (.deferred (some []))) (hn : D ∉ Ds) : Marks T w (D :: Ds) :=
  ⟨List.nodup_cons.2 ⟨hn, h.1⟩, fun X hX => by
    rcases List.mem_cons.1 hX with rfl | hX
    · exact ⟨hT, hD⟩
    · exact h.2 X hX⟩

theorem leaves_marks {P : Program} {fn : Func} {tmps : Array Value} {R : Ending → World → Prop} {u : FrameMode} (hu : u ≠ .run) {T : Nat → Prop} (K : World → Prop) (hK : ∀ A D, T D → K A → K (A.putObj D (.deferred none)))
    (hend : ∀ A, K A → LeavesIn Fence.wide 0 P fn tmps R [] u A) : ∀ (Ds : List Nat) (w : World), Marks T w Ds → K w → LeavesInM Fence.wide 0 P fn tmps R (Ds.map mark) u w := by
  intro Ds
  induction Ds with
  | nil => intro w _ hk; exact hend w hk
  | cons D Ds ih =>
    intro w hm hk
    obtain ⟨hT, hD⟩ := hm.2 D (by simp)
    refine ⟨hu, .inl ⟨D, _, rfl, run_takeDeferred hD, ?_⟩⟩
    have hn := List.nodup_cons.1 hm.1
    refine ih _ ⟨hn.2, fun X hX => ?_⟩ (hK _ _ hT hk)
    obtain ⟨h1, h2⟩ := hm.2 X (by simp [hX])
    exact ⟨h1, (World.putObj_heap_other (fun (e : X = D) => hn.1 (e ▸ hX))).trans h2⟩

/-- A loop whose measure is not read off the world. -/
theorem loopM {F : Fence} {n : Nat} {c : Code} {Q : Exit → Act → World → Prop} {a : Act} {w : World} (I : Nat → Act → World → Prop) (m : Nat) (h₀ : I m a w)
    (round : ∀ m a w, I m a w → c.wpIn F n P (Exit.then (fun a' w' => ∃ m', m' < m ∧ I m' a' w') Q) a w) : (Code.loop c).wpIn F n P Q a w := by
  classical
  have lst : ∀ (p : Nat → Prop) (k : Nat), p k → ∃ j, p j ∧ ∀ i, i < j → ¬ p i := by
    intro p k
    induction k using Nat.strongRecOn with
    | ind k ih =>
      intro hk
      rcases Classical.em (∃ i, i < k ∧ p i) with ⟨i, hi, hp⟩ | hno
      · exact ih i hi hp
      · exact ⟨k, hk, fun i hi hp => hno ⟨i, hi, hp⟩⟩
  refine wpIn_loop (fun a w => ∃ m, I m a w) (fun a w => if h : ∃ m, I m a w then Classical.choose (lst (fun m => I m a w) _ (Classical.choose_spec h)) else 0) ⟨m, h₀⟩ ?_
  intro a w h
  have hs := Classical.choose_spec (lst (fun m => I m a w) _ (Classical.choose_spec h))
  rw [dif_pos h]
  refine wpIn_mono (round _ a w hs.1) ?_
  intro e a' w' hq
  cases e with
  | normal =>
    obtain ⟨m', hlt, hI⟩ := hq
    have h' : ∃ m, I m a' w' := ⟨m', hI⟩
    refine ⟨h', ?_⟩
    rw [dif_pos h']
    have hs' := Classical.choose_spec (lst (fun m => I m a' w') _ (Classical.choose_spec h'))
    refine Nat.lt_of_le_of_lt ?_ hlt
    exact Nat.le_of_not_lt (fun hh => hs'.2 _ hh hI)
  | _ => exact hq

end Go.Proofs.YtlegmmhacnbnlaaGreatDoor.J.Rl

