/- Texts of the seat, packed: Zb Zc Zd. -/
import Derived.Test.YtlegmmhacnbnlaaGreatDoorP29
import Derived.Test.YtlegmmhacnbnlaaGreatDoorP01
import Derived.Test.YtlegmmhacnbnlaaGreatDoorChecked
import Derived.Test.YtlegmmhacnbnlaaGreatDoorP09
import Derived.LoopIn
import Derived.LoopNIn
import Derived.OwnWalkIn
import Derived.Shelf.Abstract
import Derived.Shelf.RegionOpen
import Derived.TacticsInMore
import Derived.WalkKit
/- The law for a range over a function whose rounds may panic: what the iterator owns, what a round keeps. -/
namespace Go.Proofs.YtlegmmhacnbnlaaGreatDoor

open Go.RowKit

variable {P : Program}

/-- A move of one who owns T: all others' blocks stay; what is new may be owned. -/
structure Mv (T : Nat → Prop) (A : World) (T' : Nat → Prop) (B : World) : Prop where
  os : B.os = A.os
  tape : B.tape = A.tape
  output : B.output = A.output
  size : A.heap.size ≤ B.heap.size
  same : ∀ k, k < A.heap.size → ¬ T k → B.heap[k]? = A.heap[k]?
  old : ∀ k, k < A.heap.size → (T' k ↔ T k)
  up : (∀ k, T k → k < A.heap.size) → ∀ k, T' k → k < B.heap.size

/-- A round: what is owned by the iterator stays, and all below n0. -/
structure Rv (n0 : Nat) (T : Nat → Prop) (A B : World) : Prop where
  os : B.os = A.os
  tape : B.tape = A.tape
  output : B.output = A.output
  size : A.heap.size ≤ B.heap.size
  low : ∀ k, k < n0 → B.heap[k]? = A.heap[k]?
  keep : ∀ k, T k → k < A.heap.size → B.heap[k]? = A.heap[k]?

/-- Blocks of deferred calls stay. -/
def KD (T : Nat → Prop) (A B : World) : Prop := ∀ b ds, T b → A.heap[b]? = some (.deferred ds) → B.heap[b]? = some (.deferred ds)

theorem Mv.refl (T : Nat → Prop) (A : World) : Mv T A T A := ⟨rfl, rfl, rfl, Nat.le_refl _, fun _ _ _ => rfl, fun _ _ => Iff.rfl, fun h => h⟩

theorem Mv.trans {T T' T'' : Nat → Prop} {A B C : World} (h : Mv T A T' B) (k : Mv T' B T'' C) : Mv T A T'' C :=
  ⟨k.os.trans h.os, k.tape.trans h.tape, k.output.trans h.output, Nat.le_trans h.size k.size,
    fun i hi hn => (k.same i (Nat.lt_of_lt_of_le hi h.size) (fun ht => hn ((h.old i hi).1 ht))).trans (h.same i hi hn),
    fun i hi => (k.old i (Nat.lt_of_lt_of_le hi h.size)).trans (h.old i hi), fun hu => k.up (h.up hu)⟩

theorem Mv.alloc (T : Nat → Prop) (A : World) (o : Obj) : Mv T A (fun k => T k ∨ k = A.heap.size) (A.alloc o) :=
  ⟨rfl, rfl, rfl, by simp, fun i hi _ => Below.heap_alloc _ _ _ hi, fun i hi => ⟨fun h => h.resolve_right (by omega), .inl⟩, fun hu k hk => by rcases hk with hk | rfl <;> simp; have := hu k hk; omega⟩

theorem Mv.alloc_other (T : Nat → Prop) (A : World) (o : Obj) : Mv T A T (A.alloc o) :=
  ⟨rfl, rfl, rfl, by simp, fun i hi _ => Below.heap_alloc _ _ _ hi, fun i hi => Iff.rfl, fun hu k hk => by have := hu k hk; simp; omega⟩

theorem Mv.setCell {T : Nat → Prop} (A : World) {b i : Nat} (v : Value) (h : T b) : Mv T A T (A.setCell ⟨b, i, none⟩ v) :=
  ⟨rfl, rfl, rfl, by simp, fun k _ hn => Below.heap_setCell A ⟨b, i, none⟩ v k (fun e => hn (by rw [e]; exact h)), fun _ _ => Iff.rfl, fun hu k hk => by simpa using hu k hk⟩

theorem Mv.putObj {T : Nat → Prop} (A : World) {d : Nat} (o : Obj) (h : T d) : Mv T A T (A.putObj d o) :=
  ⟨rfl, rfl, rfl, by simp, fun k _ hn => World.putObj_heap_other (fun e => hn (by rw [e]; exact h)), fun _ _ => Iff.rfl, fun hu k hk => by simpa using hu k hk⟩

theorem Mv.of_below {T : Nat → Prop} {A B : World} (h : Below A.heap.size A B) : Mv T A T B := ⟨h.os, h.tape, h.output, h.size, fun k hk _ => h.block k hk, fun _ _ => Iff.rfl, fun hu k hk => Nat.lt_of_lt_of_le (hu k hk) h.size⟩

theorem Mv.drew (T : Nat → Prop) (A : World) : Mv T A T A.drew := ⟨rfl, rfl, rfl, Nat.le_refl _, fun _ _ _ => rfl, fun _ _ => Iff.rfl, fun h => h⟩

theorem Mv.or {T T' : Nat → Prop} {A B : World} (h : Mv T A T' B) (L : Nat → Prop) : Mv (fun b => T b ∨ L b) A (fun b => T' b ∨ L b) B :=
  ⟨h.os, h.tape, h.output, h.size, fun k hk hn => h.same k hk (fun ht => hn (.inl ht)), fun k hk => by rw [h.old k hk], fun hu k hk => by
    rcases hk with hk | hk
    · exact h.up (fun j hj => hu j (.inl hj)) k hk
    · exact Nat.lt_of_lt_of_le (hu k (.inr hk)) h.size⟩

theorem Mv.below {T T' : Nat → Prop} {A B : World} (h : Mv T A T' B) {N : Nat} {w : World} (hb : Below N w A) (hN : ∀ b, b < N → ¬ T b) (hs : N ≤ A.heap.size) : Below N w B :=
  ⟨h.os.trans hb.os, h.tape.trans hb.tape, h.output.trans hb.output, Nat.le_trans hb.size h.size, fun k hk => (h.same k (by omega) (hN k hk)).trans (hb.block k hk)⟩

theorem Rv.refl (n0 : Nat) (T : Nat → Prop) (A : World) : Rv n0 T A A := ⟨rfl, rfl, rfl, Nat.le_refl _, fun _ _ => rfl, fun _ _ _ => rfl⟩

theorem Rv.trans {n0 : Nat} {T : Nat → Prop} {A B C : World} (h : Rv n0 T A B) (k : Rv n0 T B C) : Rv n0 T A C :=
  ⟨k.os.trans h.os, k.tape.trans h.tape, k.output.trans h.output, Nat.le_trans h.size k.size, fun i hi => (k.low i hi).trans (h.low i hi), fun i ht hi => (k.keep i ht (Nat.lt_of_lt_of_le hi h.size)).trans (h.keep i ht hi)⟩

theorem Rv.mono {n0 : Nat} {T T' : Nat → Prop} {A B : World} (h : Rv n0 T A B) (ht : ∀ b, T' b → T b) : Rv n0 T' A B := ⟨h.os, h.tape, h.output, h.size, h.low, fun k hk hl => h.keep k (ht k hk) hl⟩

theorem Rv.of_below {n0 : Nat} {T : Nat → Prop} {A B : World} (h : Below A.heap.size A B) (hn : n0 ≤ A.heap.size) : Rv n0 T A B := ⟨h.os, h.tape, h.output, h.size, fun k hk => h.block k (by omega), fun k _ hk => h.block k hk⟩

theorem Rv.alloc {n0 : Nat} {T : Nat → Prop} (A : World) (o : Obj) (hn : n0 ≤ A.heap.size) : Rv n0 T A (A.alloc o) := ⟨rfl, rfl, rfl, by simp, fun k hk => Below.heap_alloc _ _ _ (by omega), fun k _ hk => Below.heap_alloc _ _ _ hk⟩

theorem Rv.setCell {n0 : Nat} {T : Nat → Prop} (A : World) {b i : Nat} (v : Value) (hn : n0 ≤ b) (ht : ¬ T b) : Rv n0 T A (A.setCell ⟨b, i, none⟩ v) :=
  ⟨rfl, rfl, rfl, by simp, fun k hk => Below.heap_setCell A ⟨b, i, none⟩ v k (by show k ≠ b; omega), fun k hk _ => Below.heap_setCell A ⟨b, i, none⟩ v k (fun e => ht (by rw [← show k = b from e]; exact hk))⟩

theorem Rv.drew {n0 : Nat} {T : Nat → Prop} (A : World) : Rv n0 T A A.drew := ⟨rfl, rfl, rfl, Nat.le_refl _, fun _ _ => rfl, fun _ _ _ => rfl⟩

theorem Rv.kd {n0 : Nat} {T : Nat → Prop} {A B : World} (h : Rv n0 T A B) : KD T A B := fun b _ ht hb => (h.keep b ht (Array.getElem?_eq_some_iff.1 hb).1).trans hb

/-- The iterator's word. -/
def Itr {α : Type} (P : Program) (gf : Nat) (lb : Array Value) (encs : α → Array Value) (xs : List α) (n0 : Nat) (T : Nat → Prop) (w : World) : Prop :=
  ∀ (l : Nat) (J : Nat → World → (Nat → Prop) → Prop) (Jp : List PanicEntry → World → (Nat → Prop) → Prop) (W : World), Below w.heap.size w W →
    (∀ k A TA B TB, J k A TA → Mv TA A TB B → J k B TB) →
    (∀ ch A TA d o, Jp ch A TA → TA d → Jp ch (A.putObj d o) TA) →
    (∀ k x W1 T1, xs[k]? = some x → J k W1 T1 → ∀ m, YieldAt Fence.wide m P l (encs x) W1 fun e W2 => (e = .returned (.bool true) ∧ J (k + 1) W2 T1 ∧ Rv n0 T1 W1 W2) ∨ (∃ ch, e = .panicked ch ∧ Jp ch W2 T1 ∧ KD T1 W1 W2)) →
    J 0 W T →
    CallsIn Fence.wide 0 P gf (#[.func (.yield l) #[] #[]] ++ lb) W fun e W2 => (∃ v T2, e = .returned v ∧ J xs.length W2 T2 ∧ (∀ b, b < W.heap.size → (T2 b ↔ T b))) ∨ (∃ ch T2, e = .panicked ch ∧ Jp ch W2 T2 ∧ (∀ b, b < W.heap.size → (T2 b ↔ T b)))

/-- How a round's body may be left. -/
def bodyE (n0 : Nat) (I : Nat → World → (Nat → Prop) → Prop) (Ip : List PanicEntry → World → (Nat → Prop) → Prop) (k : Nat) (TB : Nat → Prop) (W : World) : Exit → Act → World → Prop
  | .normal, _, W' => I k W' TB ∧ Rv n0 TB W W'
  | .panic ch, a, W' => a.defers = [] ∧ Ip ch W' TB ∧ KD TB W W'
  | _, _, _ => False

theorem range_law {α : Type} {f : FuncId} {fn : Func} (hf : P.funcs[f]? = some fn) {g : Operand} {ps : Array Tmp} {assign body : Code} {Q : Exit → Act → World → Prop} {a : Act} {w : World} {gf : Nat} {lb : Array Value}
    (hg : a.eval g = .func (.func gf) #[] lb) (eg : ∀ args w, (callFunc gf args).run P w = .ok (.enter gf args) w)
    {encs : α → Array Value} {xs : List α} {n0 : Nat} {T : Nat → Prop} (hseq : Itr P gf lb encs xs n0 T w) (hT : ∀ b, T b → b < w.heap.size) (hn0 : n0 ≤ w.heap.size) (hps : ∀ x, (encs x).size = ps.size)
    (I : Nat → World → (Nat → Prop) → Prop) (Ip : List PanicEntry → World → (Nat → Prop) → Prop)
    (hI : ∀ k A TA B TB, I k A TA → Mv TA A TB B → I k B TB) (hIp : ∀ ch A TA d o, Ip ch A TA → TA d → Ip ch (A.putObj d o) TA) (h0 : I 0 w T)
    (hround : ∀ (l k : Nat) (x : α) (W : World) (TB : Nat → Prop), xs[k]? = some x → I k W TB → TB w.heap.size → TB (w.heap.size + 1) → w.heap.size + 1 < W.heap.size →
      wpE P (some l) f assign (Exit.then (fun a₁ W1 => I k W1 TB ∧ Rv n0 TB W W1 ∧ ∀ W2, I k W2 TB → Mv TB W1 TB W2 → wpE P (some l) f body (bodyE n0 I Ip (k + 1) TB W2) a₁ W2) (fun _ _ _ => False))
        { tmps := (ps.zip (encs x)).foldl (fun t (p, v) => t.setIfInBounds p v) a.tmps, defers := [] } W)
    (hdone : ∀ W T2, I xs.length W T2 → (∀ b, b < w.heap.size → (T2 b ↔ T b)) → T2 w.heap.size → W.heap[w.heap.size]? = some (.deferred (some [])) → Q .normal { a with defers := { target := .collected w.heap.size, args := #[] } :: a.defers } W)
    (hpan : ∀ ch W T2, Ip ch W T2 → (∀ b, b < w.heap.size → (T2 b ↔ T b)) → T2 w.heap.size → W.heap[w.heap.size]? = some (.deferred (some [])) → Q (.panic ch) { a with defers := { target := .collected w.heap.size, args := #[] } :: a.defers } W) :
    wpE P none f (Code.rangeFunc g ps assign body) Q a w := by
  refine wpE_rangeFunc hg eg ?_
  obtain ⟨s, hs⟩ : ∃ s, w.heap.size = s := ⟨_, rfl⟩
  obtain ⟨rec, hrec⟩ : ∃ rec : LoopState → Loop, rec = fun st => { state := st, pending := none, fn := f, tmps := a.tmps, params := ps, assign, body, defers := w.heap.size } := ⟨_, rfl⟩
  have hW1 : (w.alloc (.deferred (some []))).alloc (.loop { state := .ready, pending := none, fn := f, tmps := a.tmps, params := ps, assign, body, defers := w.heap.size }) = (w.alloc (.deferred (some []))).alloc (.loop (rec .ready)) := by rw [hrec]
  rw [hW1]
  clear hW1
  obtain ⟨W1, hW1⟩ : ∃ W1, (w.alloc (.deferred (some []))).alloc (.loop (rec .ready)) = W1 := ⟨_, rfl⟩
  have hsz : W1.heap.size = s + 2 := by rw [← hW1, ← hs]; simp
  have hL1 : W1.heap[s + 1]? = some (.loop (rec .ready)) := by
    rw [← hW1, ← hs]; have := World.alloc_heap_new (w.alloc (.deferred (some []))) (.loop (rec .ready)); rwa [World.size_alloc] at this
  have hK1 : W1.heap[s]? = some (.deferred (some [])) := by
    rw [← hW1, ← hs]; exact (Below.heap_alloc _ _ _ (by simp)).trans (World.alloc_heap_new w _)
  have hb1 : Below w.heap.size w W1 := by
    rw [← hW1]; exact ((Below.refl _ w).alloc (Nat.le_refl _) _).alloc (by simp) _
  rw [hW1, hs]
  rw [hs] at hround hdone hpan hn0
  have hTs : ¬ T s := fun h => by have := hT _ h; omega
  have hTs1 : ¬ T (s + 1) := fun h => by have := hT _ h; omega
  have hm1 : Mv T w (fun b => T b ∨ (b = s ∨ b = s + 1)) W1 := by
    refine ⟨hb1.os, hb1.tape, hb1.output, hb1.size, fun k hk _ => hb1.block k hk, fun k hk => ⟨fun h => h.resolve_right (by omega), .inl⟩, fun hu k hk => ?_⟩
    rcases hk with hk | hk
    · have := hu k hk; omega
    · omega
  refine (hseq (s + 1)
    (fun k A TA => I k A (fun b => TA b ∨ (b = s ∨ b = s + 1)) ∧ ¬ TA s ∧ ¬ TA (s + 1) ∧ A.heap[s + 1]? = some (.loop (rec .ready)) ∧ A.heap[s]? = some (.deferred (some [])))
    (fun ch A TA => Ip ch A (fun b => TA b ∨ (b = s ∨ b = s + 1)) ∧ ¬ TA s ∧ A.heap[s]? = some (.deferred (some [])))
    W1 hb1 ?_ ?_ ?_ ⟨hI _ _ _ _ _ h0 hm1, hTs, hTs1, hL1, hK1⟩).mono ?_
  · rintro k A TA B TB ⟨h1, h2, h3, h4, h5⟩ hm
    have l4 := (Array.getElem?_eq_some_iff.1 h4).1
    have l5 := (Array.getElem?_eq_some_iff.1 h5).1
    exact ⟨hI _ _ _ _ _ h1 (hm.or _), fun h => h2 ((hm.old s l5).1 h), fun h => h3 ((hm.old _ l4).1 h), (hm.same _ l4 h3).trans h4, (hm.same _ l5 h2).trans h5⟩
  · rintro ch A TA d o ⟨h1, h2, h3⟩ hd
    exact ⟨hIp _ _ _ _ _ h1 (.inl hd), h2, (World.putObj_heap_other (fun e => h2 (by rw [e]; exact hd))).trans h3⟩
  · rintro k x W T1 hx ⟨hi, hns, hns1, hl, hk⟩ m
    have hlt : s + 1 < W.heap.size := (Array.getElem?_eq_some_iff.1 hl).1
    have hy := run_yield (P := P) (args := encs x) hl (by rw [hrec]; exact hps x)
    rw [hrec] at hy
    refine ⟨f, _, assign, body, hy, roundE hf (wpE_mono (hround (s + 1) k x W _ hx hi (.inr (.inl rfl)) (.inr (.inr rfl)) hlt) ?_)⟩
    rintro e a1 Wa hp
    cases e with
    | normal =>
      obtain ⟨hia, hra, hbd⟩ := hp
      have hla : Wa.heap[s + 1]? = some (.loop (rec .ready)) := (hra.keep _ (.inr (.inr rfl)) hlt).trans hl
      have hda : Wa.heap[s]? = some (.deferred (some [])) := (hra.keep _ (.inr (.inl rfl)) (by omega)).trans hk
      have hlta : s + 1 < Wa.heap.size := (Array.getElem?_eq_some_iff.1 hla).1
      refine ⟨_, run_beginRound hla (by rw [hrec]), ?_⟩
      have hbusy : (Wa.putObj (s + 1) (.loop { rec .ready with state := .busy })).heap[s + 1]? = some (.loop { rec .ready with state := .busy }) := World.putObj_heap_same hlta
      have hd2 : (Wa.putObj (s + 1) (.loop { rec .ready with state := .busy })).heap[s]? = some (.deferred (some [])) := (World.putObj_heap_other (by omega)).trans hda
      have hmb : Mv (fun b => T1 b ∨ (b = s ∨ b = s + 1)) Wa (fun b => T1 b ∨ (b = s ∨ b = s + 1)) (Wa.putObj (s + 1) (.loop { rec .ready with state := .busy })) := Mv.putObj _ _ (.inr (.inr rfl))
      refine wpE_mono (hbd _ (hI _ _ _ _ _ hia hmb) hmb) ?_
      rintro e a3 W3 hp
      cases e with
      | normal =>
        obtain ⟨hi3, hr3⟩ := hp
        have hl3 := (hr3.keep (s + 1) (.inr (.inr rfl)) (by simpa using hlta)).trans hbusy
        have hd3 := (hr3.keep s (.inr (.inl rfl)) (by simp; omega)).trans hd2
        have hlt3 := (Array.getElem?_eq_some_iff.1 hl3).1
        have hend := run_endRound (P := P) none hl3
        have hrr : ({ { rec .ready with state := .busy } with state := if (none : Option Code).isNone then .ready else .done, pending := none } : Loop) = rec .ready := by rw [hrec]; rfl
        rw [hrr] at hend
        refine ⟨_, _, hend, .inl ⟨rfl, ⟨hI _ _ _ _ _ hi3 (Mv.putObj _ _ (.inr (.inr rfl))), hns, hns1, World.putObj_heap_same hlt3, (World.putObj_heap_other (by omega)).trans hd3⟩, ?_⟩⟩
        have hsz3 : W.heap.size ≤ W3.heap.size := Nat.le_trans hra.size (by have := hr3.size; simpa using this)
        refine ⟨hr3.os.trans hra.os, hr3.tape.trans hra.tape, hr3.output.trans hra.output, by simpa using hsz3, fun j hj => ?_, fun j hj hjl => ?_⟩
        · have hjs : j ≠ s + 1 := by omega
          rw [World.putObj_heap_other hjs, hr3.low j hj, World.putObj_heap_other hjs]
          exact hra.low j hj
        · have hjs : j ≠ s + 1 := fun e => hns1 (e ▸ hj)
          have hja : j < Wa.heap.size := Nat.lt_of_lt_of_le hjl hra.size
          rw [World.putObj_heap_other hjs, hr3.keep j (.inl hj) (by simpa using hja), World.putObj_heap_other hjs]
          exact hra.keep j (.inl hj) hjl
      | panic ch =>
        obtain ⟨hdf, hip, hkd⟩ := hp
        refine ⟨hdf, .inr ⟨ch, rfl, ⟨hip, hns, hkd s _ (.inr (.inl rfl)) hd2⟩, ?_⟩⟩
        intro b ds hb hbd2
        have hbs : b ≠ s + 1 := fun e => hns1 (e ▸ hb)
        refine hkd b ds (.inl hb) ?_
        rw [World.putObj_heap_other hbs, hra.keep b (.inl hb) (Array.getElem?_eq_some_iff.1 hbd2).1]
        exact hbd2
      | ret => exact hp.elim
      | exit id => exact hp.elim
      | goto t => exact hp.elim
      | outgrown => exact hp.elim
    | ret => exact hp.elim
    | exit id => exact hp.elim
    | goto t => exact hp.elim
    | panic ch => exact hp.elim
    | outgrown => exact hp.elim
  · rintro e W2 (⟨v, T2, rfl, ⟨hi, hns, hns1, hl, hk⟩, hold⟩ | ⟨ch, T2, rfl, ⟨hi, hns, hk⟩, hold⟩)
    · have hel := run_endLoop (P := P) hl (by rw [hrec]; simp)
      rw [show (rec .ready).pending = none by rw [hrec]] at hel
      refine .inl ⟨v, _, rfl, hel, ?_⟩
      · refine hdone _ (fun b => T2 b ∨ (b = s ∨ b = s + 1)) (hI _ _ _ _ _ hi (Mv.putObj _ _ (.inr (.inr rfl)))) (fun b hb => ?_) (.inr (.inl rfl)) ((World.putObj_heap_other (by omega)).trans hk)
        have := hold b (by omega)
        exact ⟨fun h => this.1 (h.resolve_right (by omega)), fun h => .inl (this.2 h)⟩
    · refine .inr ⟨ch, rfl, hpan ch _ (fun b => T2 b ∨ (b = s ∨ b = s + 1)) hi (fun b hb => ?_) (.inr (.inl rfl)) hk⟩
      have := hold b (by omega)
      exact ⟨fun h => this.1 (h.resolve_right (by omega)), fun h => .inl (this.2 h)⟩

end Go.Proofs.YtlegmmhacnbnlaaGreatDoor

/- The nodes of a saga by their numbers, as they lie in memory; marks of ranges over functions. -/
namespace Go.Proofs.YtlegmmhacnbnlaaGreatDoor

open Go.RowKit Go.Proofs.YtlegmmhacnbnlaaGreatDoor.Sx

/-- How many nodes there are, those within others, too. -/
def cntA : Tr → Nat
  | .e => 0
  | .b x r => cntA x + cntA r
  | .n _ t r => 1 + cntA t + cntA r

/-- All parts. -/
def szA : Tr → Nat
  | .e => 0
  | .b x r => 1 + szA x + szA r
  | .n _ t r => 1 + szA t + szA r

/-- A node, its number, its body; where what it has lies. -/
structure Pd where
  num : Nat
  lab : Lab
  alts : Tr
  sv : Option Addr
  sm : Nat
  sc : Nat
  av : Option Addr
  am : Nat
  ac : Nat
  inn : Nat
  alt : Nat

def Pd.node (x : Pd) : List Value := [.string ⟨x.lab.name.toArray⟩, .string ⟨x.lab.undo.toArray⟩, .slice x.sv x.sm x.sc, .bool x.lab.sub, .bool x.lab.vital, .slice x.av x.am x.ac]

def Pd.enc (x : Pd) : Array Value := #[.int .i64 (x.num : Int), .agg #[.string ⟨x.lab.name.toArray⟩, .string ⟨x.lab.undo.toArray⟩, .slice x.sv x.sm x.sc, .bool x.lab.sub, .bool x.lab.vital, .slice x.av x.am x.ac, .int .i64 (x.inn : Int), .int .i64 (x.alt : Int)]]

/-- Bodies (true), or nodes (false), as they lie in a slice, and their nodes by numbers. -/
def XAt (P : Nat → Prop) (w : World) : Bool → Tr → Option Addr → Nat → Nat → Nat → Nat → Nat → List Pd → Prop
  | _, .e, _, i, n, _, _, _, xs => i = n ∧ xs = []
  | k, .b x r, a, i, n, inn, alt, last, xs => k = true ∧ i < n ∧ ∃ ys zs, xs = ys ++ zs ∧ (∃ b off v m c, a = some ⟨b, off, none⟩ ∧ P b ∧ w.cell? ⟨b, off + i, none⟩ = some (.slice v m c) ∧ XAt P w false x v 0 m inn alt last ys) ∧ XAt P w true r a (i + 1) n inn (alt + 1) (last + cntA x) zs
  | k, .n l t r, a, i, n, inn, alt, last, xs => k = false ∧ i < n ∧ ∃ sv sm sc av am ac ys zs, xs = ⟨last + 1, l, t, sv, sm, sc, av, am, ac, inn, alt⟩ :: (ys ++ zs) ∧
      (∃ b off, a = some ⟨b, off, none⟩ ∧ P b ∧ w.cell? ⟨b, off + i * 6, none⟩ = some (Value.string ⟨l.name.toArray⟩) ∧ w.cell? ⟨b, off + i * 6 + 1, none⟩ = some (Value.string ⟨l.undo.toArray⟩) ∧
      w.cell? ⟨b, off + i * 6 + 2, none⟩ = some (.slice sv sm sc) ∧ w.cell? ⟨b, off + i * 6 + 3, none⟩ = some (.bool l.sub) ∧ w.cell? ⟨b, off + i * 6 + 4, none⟩ = some (.bool l.vital) ∧ w.cell? ⟨b, off + i * 6 + 5, none⟩ = some (.slice av am ac)) ∧
      SAt P w l.after sv sm ∧ TAt P w true t av 0 am ∧ XAt P w true t av 0 am (last + 1) 0 (last + 1) ys ∧ XAt P w false r a (i + 1) n inn alt (last + 1 + cntA t) zs

theorem TAt.xat {P : Nat → Prop} {w : World} (t : Tr) : ∀ (k : Bool) (a : Option Addr) (i n inn alt last : Nat), TAt P w k t a i n → ∃ xs, XAt P w k t a i n inn alt last xs := by
  induction t with
  | e => intro k a i n inn alt last h; exact ⟨[], h, rfl⟩
  | b x r ih1 ih2 =>
    rintro k a i n inn alt last ⟨h0, h1, ⟨b, off, v, m, c, ha, hp, hc, hx⟩, hr⟩
    obtain ⟨ys, hy⟩ := ih1 _ _ _ _ inn alt last hx
    obtain ⟨zs, hz⟩ := ih2 _ _ _ _ inn (alt + 1) (last + cntA x) hr
    exact ⟨ys ++ zs, h0, h1, ys, zs, rfl, ⟨b, off, v, m, c, ha, hp, hc, hy⟩, hz⟩
  | n l t r ih1 ih2 =>
    rintro k a i n inn alt last ⟨h0, h1, ⟨b, off, sv, sm, sc, av, am, ac, ha, hp, c0, c1, c2, c3, c4, c5, hs, ht⟩, hr⟩
    obtain ⟨ys, hy⟩ := ih1 _ _ _ _ (last + 1) 0 (last + 1) ht
    obtain ⟨zs, hz⟩ := ih2 _ _ _ _ inn alt (last + 1 + cntA t) hr
    exact ⟨_, h0, h1, sv, sm, sc, av, am, ac, ys, zs, rfl, ⟨b, off, ha, hp, c0, c1, c2, c3, c4, c5⟩, hs, ht, hy, hz⟩

theorem XAt.count {P : Nat → Prop} {w : World} (t : Tr) : ∀ (k : Bool) (a : Option Addr) (i n inn alt last : Nat) (xs : List Pd), XAt P w k t a i n inn alt last xs → xs.length = cntA t ∧ n = i + t.len ∧ ∀ (j : Nat) (x : Pd), xs[j]? = some x → x.num = last + 1 + j := by
  induction t with
  | e => rintro k a i n inn alt last xs ⟨h, rfl⟩; exact ⟨rfl, by simp [Tr.len]; omega, by simp⟩
  | b x r ih1 ih2 =>
    rintro k a i n inn alt last xs ⟨_, _, ys, zs, rfl, ⟨b, off, v, m, c, _, _, _, hx⟩, hr⟩
    obtain ⟨l1, _, n1⟩ := ih1 _ _ _ _ _ _ _ _ hx
    obtain ⟨l2, e2, n2⟩ := ih2 _ _ _ _ _ _ _ _ hr
    refine ⟨by simp [cntA, l1, l2], by simp only [Tr.len]; omega, fun j y hj => ?_⟩
    by_cases hjl : j < ys.length
    · rw [List.getElem?_append_left hjl] at hj
      exact n1 j y hj
    · rw [List.getElem?_append_right (by omega)] at hj
      have := n2 _ y hj
      omega
  | n l t r ih1 ih2 =>
    rintro k a i n inn alt last xs ⟨_, _, sv, sm, sc, av, am, ac, ys, zs, rfl, _, _, _, hx, hr⟩
    obtain ⟨l1, _, n1⟩ := ih1 _ _ _ _ _ _ _ _ hx
    obtain ⟨l2, e2, n2⟩ := ih2 _ _ _ _ _ _ _ _ hr
    refine ⟨by simp [cntA, l1, l2]; omega, by simp only [Tr.len]; omega, fun j y hj => ?_⟩
    cases j with
    | zero => simp at hj; subst hj; rfl
    | succ j =>
      rw [List.getElem?_cons_succ] at hj
      by_cases hjl : j < ys.length
      · rw [List.getElem?_append_left hjl] at hj
        have := n1 j y hj
        omega
      · rw [List.getElem?_append_right (by omega)] at hj
        have := n2 _ y hj
        omega

def mark (D : Nat) : Deferred := { target := .collected D, args := #[] }

/-- The marks of the ranges that were gone through: each block is the iterator's own, and holds no call. -/
def Marks (T : Nat → Prop) (w : World) (Ds : List Nat) : Prop := Ds.Nodup ∧ ∀ D ∈ Ds, T D ∧ w.heap[D]? = some (.deferred (some []))

theorem Marks.nil (T : Nat → Prop) (w : World) : Marks T w [] := ⟨by simp, by simp⟩

theorem Marks.mono {T T' : Nat → Prop} {w w' : World} {Ds : List Nat} (h : Marks T w Ds) (hT : ∀ D, T D → T' D) (hk : ∀ D, T D → w.heap[D]? = some (.deferred (some [])) → w'.heap[D]? = some (.deferred (some []))) : Marks T' w' Ds :=
  ⟨h.1, fun D hD => ⟨hT D (h.2 D hD).1, hk D (h.2 D hD).1 (h.2 D hD).2⟩⟩

theorem Marks.cons {T : Nat → Prop} {w : World} {Ds : List Nat} {D : Nat} (h : Marks T w Ds) (hT : T D) (hD : w.heap[D]? = some (.deferred (some []))) (hn : D ∉ Ds) : Marks T w (D :: Ds) :=
  ⟨List.nodup_cons.2 ⟨hn, h.1⟩, fun X hX => by
    rcases List.mem_cons.1 hX with rfl | hX
    · exact ⟨hT, hD⟩
    · exact h.2 X hX⟩

theorem leaves_marks {P : Program} {fn : Func} {tmps : Array Value} {R : Ending → World → Prop} {u : FrameMode} (hu : u ≠ .run) {T : Nat → Prop} (K : World → Prop) (hK : ∀ A D, T D → K A → K (A.putObj D (.deferred none)))
    (hend : ∀ A, K A → LeavesIn Fence.wide 0 P fn tmps R [] u A) : ∀ (Ds : List Nat) (w : World), Marks T w Ds → K w → LeavesInM Fence.wide 0 P fn tmps R (Ds.map mark) u w := by
  intro Ds
  induction Ds with
  | nil => intro w _ hk; exact hend w hk
  | cons D Ds ih =>
    intro w hm hk
    obtain ⟨hT, hD⟩ := hm.2 D (by simp)
    refine ⟨hu, .inl ⟨D, _, rfl, run_takeDeferred hD, ?_⟩⟩
    have hn := List.nodup_cons.1 hm.1
    refine ih _ ⟨hn.2, fun X hX => ?_⟩ (hK _ _ hT hk)
    obtain ⟨h1, h2⟩ := hm.2 X (by simp [hX])
    exact ⟨h1, (World.putObj_heap_other (fun (e : X = D) => hn.1 (e ▸ hX))).trans h2⟩

end Go.Proofs.YtlegmmhacnbnlaaGreatDoor

/- The program's iterator over the nodes of an item's bodies. -/
namespace Go.Proofs.YtlegmmhacnbnlaaGreatDoor

open Go.RowKit Go.Shelf Go.Proofs.YtlegmmhacnbnlaaGreatDoor.Sx

attribute [local go_sem] Oper.semAt_some

theorem wpE_of_wp {P : Program} {f : FuncId} {c : Code} {Q : Exit → Act → World → Prop} {a : Act} {w : World} (h : c.wp P Q a w) : wpE P none f c Q a w :=
  wpE_of (n := 0) ((wpIn_wide (n := 0)).2 h)

theorem wpE_seq_wp {P : Program} {f : FuncId} {x y : Code} {Q : Exit → Act → World → Prop} {a : Act} {w : World} (h : ∀ K : Act → World → Prop, (∀ a w, wpE P none f y Q a w → K a w) → x.wp P (Exit.then K Q) a w) : wpE P none f (Code.seq x y) Q a w :=
  wpE_seq (wpE_of_wp (h _ fun _ _ h => h))

/-- What is known of the iterator and of its caller between two steps. -/
structure NSt (n0 : Nat) (w0 : World) (bi bb bq bl l inn am ac : Nat) (a : Option Addr) (J : Nat → World → (Nat → Prop) → Prop) (W0 : World) (T0 : Nat → Prop) (last k : Nat) (T : Nat → Prop) (Wr : World) (Ds : List Nat) : Prop where
  j : J k Wr T
  low : ∀ b, b < n0 → Wr.heap[b]? = w0.heap[b]?
  le : n0 ≤ Wr.heap.size
  own : ∀ b, T b → n0 ≤ b ∧ b < Wr.heap.size
  hbi : Wr.heap[bi]? = some (.cells #[.int .i64 (inn : Int)] 3 (0, 0))
  hbb : Wr.heap[bb]? = some (.cells #[.slice a am ac] 92 (0, 0))
  hbq : Wr.heap[bq]? = some (.cells #[.func (.yield l) #[] #[]] 167 (0, 0))
  hbl : Wr.heap[bl]? = some (.cells #[.int .i64 (last : Int)] 3 (0, 0))
  ti : T bi
  tb : T bb
  tq : T bq
  tl : T bl
  ni : bl ≠ bi
  nb : bl ≠ bb
  nq : bl ≠ bq
  mks : Marks T Wr Ds
  old : ∀ b, b < W0.heap.size → (T b ↔ T0 b)
  sz : W0.heap.size ≤ Wr.heap.size

section

variable {n0 : Nat} {w0 : World} {bi bb bq bl l inn am ac : Nat} {a : Option Addr} {J : Nat → World → (Nat → Prop) → Prop} {W0 : World} {T0 : Nat → Prop} {last k : Nat} {T : Nat → Prop} {Wr : World} {Ds : List Nat}

theorem NSt.alloc (h : NSt n0 w0 bi bb bq bl l inn am ac a J W0 T0 last k T Wr Ds) (hJ : ∀ k A TA B TB, J k A TA → Mv TA A TB B → J k B TB) (o : Obj) : NSt n0 w0 bi bb bq bl l inn am ac a J W0 T0 last k (fun b => T b ∨ b = Wr.heap.size) (Wr.alloc o) Ds := by
  have al : ∀ {b x}, Wr.heap[b]? = some x → (Wr.alloc o).heap[b]? = some x := fun hx => (Below.heap_alloc _ _ _ (Array.getElem?_eq_some_iff.1 hx).1).trans hx
  refine ⟨hJ _ _ _ _ _ h.j (Mv.alloc _ _ _), fun b hb => (Below.heap_alloc _ _ _ (by have := h.le; omega)).trans (h.low b hb), by have := h.le; simp; omega, fun b hb => ?_, al h.hbi, al h.hbb, al h.hbq, al h.hbl, .inl h.ti, .inl h.tb, .inl h.tq, .inl h.tl, h.ni, h.nb, h.nq, h.mks.mono (fun _ => .inl) (fun D _ hD => al hD), fun b hb => ?_, by have := h.sz; simp; omega⟩
  · rcases hb with hb | rfl
    · have := h.own b hb; simp; omega
    · have := h.le; simp; omega
  · have := h.sz
    exact ⟨fun hx => (h.old b hb).1 (hx.resolve_right (by omega)), fun hx => .inl ((h.old b hb).2 hx)⟩

theorem NSt.step (h : NSt n0 w0 bi bb bq bl l inn am ac a J W0 T0 last k T Wr Ds) (hJ : ∀ k A TA B TB, J k A TA → Mv TA A TB B → J k B TB) (z : Nat) : NSt n0 w0 bi bb bq bl l inn am ac a J W0 T0 z k T (Wr.setCell ⟨bl, 0, none⟩ (.int .i64 (z : Int))) Ds := by
  have ne : ∀ {b}, b ≠ bl → (Wr.setCell ⟨bl, 0, none⟩ (.int .i64 (z : Int))).heap[b]? = Wr.heap[b]? := fun hb => Below.heap_setCell Wr ⟨bl, 0, none⟩ _ _ hb
  have hlow := (h.own bl h.tl).1
  refine ⟨hJ _ _ _ _ _ h.j (Mv.setCell _ _ h.tl), fun b hb => (ne (by omega)).trans (h.low b hb), by simpa using h.le, fun b hb => by simpa using h.own b hb, (ne (Ne.symm h.ni)).trans h.hbi, (ne (Ne.symm h.nb)).trans h.hbb, (ne (Ne.symm h.nq)).trans h.hbq, Dg.row_set h.hbl 0 _, h.ti, h.tb, h.tq, h.tl, h.ni, h.nb, h.nq, h.mks.mono (fun _ => id) (fun D _ hD => (ne ?_).trans hD), h.old, by simpa using h.sz⟩
  intro e
  rw [e, h.hbl] at hD
  cases hD

theorem NSt.round (h : NSt n0 w0 bi bb bq bl l inn am ac a J W0 T0 last k T Wr Ds) {W' : World} {k' : Nat} (hj : J k' W' T) (hr : Rv n0 T Wr W') : NSt n0 w0 bi bb bq bl l inn am ac a J W0 T0 last k' T W' Ds := by
  have kp : ∀ {b x}, T b → Wr.heap[b]? = some x → W'.heap[b]? = some x := fun hb hx => (hr.keep _ hb (Array.getElem?_eq_some_iff.1 hx).1).trans hx
  exact ⟨hj, fun b hb => (hr.low b hb).trans (h.low b hb), Nat.le_trans h.le hr.size, fun b hb => ⟨(h.own b hb).1, Nat.lt_of_lt_of_le (h.own b hb).2 hr.size⟩, kp h.ti h.hbi, kp h.tb h.hbb, kp h.tq h.hbq, kp h.tl h.hbl, h.ti, h.tb, h.tq, h.tl, h.ni, h.nb, h.nq, h.mks.mono (fun _ => id) (fun D hT hD => kp hT hD), h.old, Nat.le_trans h.sz hr.size⟩

theorem NSt.cell (h : NSt n0 w0 bi bb bq bl l inn am ac a J W0 T0 last k T Wr Ds) {b i : Nat} {v : Value} (hb : b < n0) (hc : w0.cell? ⟨b, i, none⟩ = some v) : Wr.cell? ⟨b, i, none⟩ = some v :=
  (World.cell?_of_block (a := ⟨b, i, none⟩) (h.low b hb)).trans hc

end

end Go.Proofs.YtlegmmhacnbnlaaGreatDoor

