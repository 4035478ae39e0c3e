/- The first worker, from a pick on, that has a job: first. -/
import Derived.Test.YtfhmmiilenonkaaQg
namespace Go.Proofs.Ytfhmmiilenonkaa
open Go.RowKit Go.Shelf
set_option maxRecDepth 1000000
set_option linter.unusedVariables false

variable {N : Nat} {F : Nat → Prop} {w w' : World} {p n : Nat} {s : Pq.St Jb}

/-- A job of a worker: what it holds (true), or the highest that waits. -/
def tkF (g : Bool) (s : Pq.St Jb) (v : Nat) : Option (Jb × Pq.St Jb) :=
  match g with
  | true => match s.hd v with
    | some j => some (j, ⟨s.rows, s.hold.set v none⟩)
    | none => none
  | false => match s.row v with
    | j :: r => some (j, ⟨s.rows.set v r, s.hold⟩)
    | [] => none
def tkN (g : Bool) : Nat := if g = true then 51 else 54
theorem tkN_ent (g : Bool) : ∀ args w, (callFunc (tkN g) args).run Try.prog w = .ok (.enter (tkN g) args) w := by
  cases g
  · exact fun args w => by kernel_rfl
  · exact fun args w => by kernel_rfl

theorem set_row_self (h : s.Ok n) {v : Nat} (hv : v < n) : s.rows.set v (s.row v) = s.rows := by
  refine List.ext_getElem? fun i => ?_
  by_cases e : i = v
  · subst e
    rw [List.getElem?_set_self (by rw [h.r]; exact hv)]
    unfold Pq.St.row
    rw [List.getD_eq_getElem?_getD, List.getElem?_eq_getElem (by rw [h.r]; exact hv)]
    rfl
  · rw [List.getElem?_set_ne (fun h => e h.symm)]

/-- What is told. -/
def TkC (N : Nat) (F : Nat → Prop) (w : World) (p n : Nat) (s : Pq.St Jb) (o : Option (Jb × Pq.St Jb)) (e : Ending) (w' : World) : Prop :=
  Kp (Mv N F) w w' ∧ match o with
  | some (j, s') => ∃ sv, e = .returned (.tuple #[JV j sv, .int .i64 0]) ∧ RS (fun k => k ≠ p ∧ ¬ F k) w' sv j.s ∧ LP N F w' p n s'
  | none => ∃ sv, e = .returned (.tuple #[JV zJ sv, .int .i64 6]) ∧ RI w' sv [] ∧ LP N F w' p n s

theorem tk_any (g : Bool) (h : LP N F w p n s) (hi : PInv s) {v : Nat} (hv : v < n) :
    Calls Try.prog (tkN g) #[.pointer (some ⟨p, 1 + v * 2, none⟩)] w fun e w' => TkC N F w p n s (tkF g s v) e w' := by
  have hp : N ≤ p ∧ ¬ F p := by obtain ⟨⟨D, cs, h1, h2, h5⟩, h3, h4⟩ := h; exact ⟨h2, h1.nf⟩
  cases g with
  | true =>
    unfold tkF tkN
    simp only [if_pos]
    cases hj : s.hd v with
    | none =>
      refine Calls.mono (give_none h hv hj) ?_
      rintro e w' ⟨rfl, hb⟩
      exact ⟨Kp.of_below _ hb, _, rfl, RI.nil _, h.later hb⟩
    | some j =>
      refine Calls.mono (give_some h hv hj) ?_
      rintro e w' ⟨sv, rfl, h1, h2, h3⟩
      exact ⟨h3.mono (fun k hk => by rw [hk]; exact hp), sv, rfl, h1, h2⟩
  | false =>
    unfold tkF tkN
    simp only [Bool.false_eq_true, if_false]
    have H := steal_w h hv (hi.le v)
    cases hr : s.row v with
    | nil =>
      rw [hr] at H
      refine Calls.mono H ?_
      rintro e w' ⟨sv, rfl, h1, h2, h3⟩
      refine ⟨h3, sv, rfl, h1.1, ?_⟩
      have e1 : (takeP false ([] : List Jb)).2 = s.row v := by rw [hr]; rfl
      rw [e1, set_row_self h.ok hv] at h2
      exact h2
    | cons j r =>
      rw [hr] at H
      refine Calls.mono H ?_
      rintro e w' ⟨sv, rfl, h1, h2, h3⟩
      exact ⟨h3, sv, rfl, h1, h2⟩

/-- The four boxes of first, and the pool. -/
structure FirS (N : Nat) (F : Nat → Prop) (w : World) (p n : Nat) (b0 gp : Nat) (V : World) (TB : Nat → Prop) (s : Pq.St Jb) (js : Array Value) (ix er : Int) : Prop where
  lp : LP N (fun b => (F b ∨ (b0 ≤ b ∧ b < b0 + 4)) ∨ TB b) V p n s
  kp : Kp (Mv N F) w V
  own : ∀ b, TB b → w.heap.size ≤ b ∧ b < V.heap.size
  nb : ∀ b, b0 ≤ b → b < b0 + 4 → ¬ TB b
  qf : Boxed V b0 102 (.func (.func gp) #[] #[])
  qj : V.heap[b0 + 1]? = some (.cells js 37 (0, 0))
  sz : js.size = 6
  qi : Boxed V (b0 + 2) 3 (.int .i64 ix)
  qe : Boxed V (b0 + 3) 26 (.int .i64 er)

section
variable {b0 gp : Nat} {V V' : World} {TB TB' : Nat → Prop} {js : Array Value} {ix er : Int}
theorem FirS.mv (h : FirS N F w p n b0 gp V TB s js ix er) (hm : Rl.Mv TB V TB' V') : FirS N F w p n b0 gp V' TB' s js ix er := by
  obtain ⟨h1, h2, h3, h4, h5, h6, h7, h8, h9⟩ := h
  have hk : Kp TB V V' := ⟨hm.os, hm.tape, hm.output, hm.size, hm.same⟩
  have hz := h2.size
  have hl := row_lt h9
  refine ⟨h1.mv hm (fun b hb => (h3 b hb).2), h2.trans hk (fun b hb hlt => by have := (h3 b hb).1; omega), fun b hb => ⟨?_, hm.up (fun b hb => (h3 b hb).2) b hb⟩, fun b hb1 hb2 => hm.no (by omega) (h4 b hb1 hb2), Rl.boxed_mv h5 hm (h4 _ (by omega) (by omega)), hk.row h6 (h4 _ (by omega) (by omega)), h7, Rl.boxed_mv h8 hm (h4 _ (by omega) (by omega)), Rl.boxed_mv h9 hm (h4 _ (by omega) (by omega))⟩
  by_cases hlt : b < V.heap.size
  · exact (h3 b ((hm.old b hlt).1 hb)).1
  · omega
theorem FirS.later (h : FirS N F w p n b0 gp V TB s js ix er) (hb : Below V.heap.size V V') : FirS N F w p n b0 gp V' TB s js ix er := h.mv (Rl.Mv.of_below hb)
/-- The pool was asked. -/
theorem FirS.call {s' : Pq.St Jb} (h : FirS N F w p n b0 gp V TB s js ix er) (hl : LP N (fun b => (F b ∨ (b0 ≤ b ∧ b < b0 + 4)) ∨ TB b) V' p n s') (hk : Kp (Mv N (fun b => (F b ∨ (b0 ≤ b ∧ b < b0 + 4)) ∨ TB b)) V V') :
    FirS N F w p n b0 gp V' TB s' js ix er ∧ Rl.Rv 0 TB V V' := by
  obtain ⟨h1, h2, h3, h4, h5, h6, h7, h8, h9⟩ := h
  have hg : ∀ b, b0 ≤ b → b < b0 + 4 → ¬ Mv N (fun b => (F b ∨ (b0 ≤ b ∧ b < b0 + 4)) ∨ TB b) b := fun b hb1 hb2 hh => hh.2 (.inl (.inr ⟨hb1, hb2⟩))
  refine ⟨⟨hl, h2.trans (hk.mono (T' := Mv N F) (fun b hb => ⟨hb.1, fun hf => hb.2 (.inl (.inl hf))⟩)) (fun _ h _ => h), fun b hb => ⟨(h3 b hb).1, Nat.lt_of_lt_of_le (h3 b hb).2 hk.size⟩, h4, hk.row h5 (hg _ (by omega) (by omega)), hk.row h6 (hg _ (by omega) (by omega)), h7, hk.row h8 (hg _ (by omega) (by omega)), hk.row h9 (hg _ (by omega) (by omega))⟩, ⟨hk.os, hk.tape, hk.output, hk.size, (fun b hb => by omega), fun b hb hlt => hk.block b hlt (fun hh => hh.2 (.inr hb))⟩⟩
/-- What is told is laid into the boxes. -/
theorem FirS.res (h : FirS N F w p n b0 gp V TB s js ix er) (hb0 : w.heap.size ≤ b0) (hN : N ≤ w.heap.size) (hF : ∀ b, F b → b < w.heap.size) (e : JbP) (ix' er' : Int) :
    FirS N F w p n b0 gp (((set6 V (b0 + 1) 0 e).setCell ⟨b0 + 2, 0, none⟩ (.int .i64 ix')).setCell ⟨b0 + 3, 0, none⟩ (.int .i64 er')) TB s (jrow e).toArray ix' er' ∧ Rl.Rv 0 TB V (((set6 V (b0 + 1) 0 e).setCell ⟨b0 + 2, 0, none⟩ (.int .i64 ix')).setCell ⟨b0 + 3, 0, none⟩ (.int .i64 er')) ∧ Kp (fun b => b0 < b ∧ b < b0 + 4) V (((set6 V (b0 + 1) 0 e).setCell ⟨b0 + 2, 0, none⟩ (.int .i64 ix')).setCell ⟨b0 + 3, 0, none⟩ (.int .i64 er')) := by
  obtain ⟨h1, h2, h3, h4, h5, h6, h7, h8, h9⟩ := h
  have k1 : Kp (fun b => b = b0 + 1) V (set6 V (b0 + 1) 0 e) := set6_kept _ _ _ _ _ rfl
  have k2 : Kp (fun b => b = b0 + 2) (set6 V (b0 + 1) 0 e) ((set6 V (b0 + 1) 0 e).setCell ⟨b0 + 2, 0, none⟩ (.int .i64 ix')) := (Kp.refl _ _).set _ _ rfl
  have k3 : Kp (fun b => b = b0 + 3) ((set6 V (b0 + 1) 0 e).setCell ⟨b0 + 2, 0, none⟩ (.int .i64 ix')) (((set6 V (b0 + 1) 0 e).setCell ⟨b0 + 2, 0, none⟩ (.int .i64 ix')).setCell ⟨b0 + 3, 0, none⟩ (.int .i64 er')) := (Kp.refl _ _).set _ _ rfl
  have kk : Kp (fun b => b0 < b ∧ b < b0 + 4) V (((set6 V (b0 + 1) 0 e).setCell ⟨b0 + 2, 0, none⟩ (.int .i64 ix')).setCell ⟨b0 + 3, 0, none⟩ (.int .i64 er')) :=
    ((k1.mono (T' := fun b => b0 < b ∧ b < b0 + 4) (fun b hb => by omega)).trans k2 (fun b hb _ => by omega)).trans k3 (fun b hb _ => by omega)
  refine ⟨⟨h1.kept kk (fun b hb _ => .inl (.inr ⟨by omega, hb.2⟩)) (fun b hb => .inl hb) (fun b hb => Nat.lt_of_lt_of_le (h1.fl b hb) kk.size), h2.trans kk (fun b hb hlt => by omega), fun b hb => ⟨(h3 b hb).1, Nat.lt_of_lt_of_le (h3 b hb).2 kk.size⟩, h4, kk.row h5 (by omega), k3.row (k2.row (set6_whole h6 h7 e) (by omega)) (by omega), rfl, k3.row (row_set (k1.row h8 (by omega)) 0 _) (by omega), row_set (k2.row (k1.row h9 (by omega)) (by omega)) 0 _⟩, ⟨kk.os, kk.tape, kk.output, kk.size, (fun b hb => by omega), fun b hb hlt => kk.block b hlt (fun hh => h4 b (by omega) hh.2 hb)⟩, kk⟩
end

/-- What first finds. -/
def firstP (g : Bool) (s : Pq.St Jb) (l : List Nat) : Option (Jb × Nat × Pq.St Jb) :=
  match l.find? (fun v => (tkF g s v).isSome) with
  | some v => (tkF g s v).map fun x => (x.1, v, x.2)
  | none => none
theorem firstP_some {g : Bool} {l : List Nat} {k v : Nat} {j : Jb} {s' : Pq.St Jb} (h : ∀ i u, i < k → l[i]? = some u → tkF g s u = none) (hk : l[k]? = some v) (ht : tkF g s v = some (j, s')) : firstP g s l = some (j, v, s') := by
  have hf : l.find? (fun v => (tkF g s v).isSome) = some v := by
    rw [List.find?_eq_some_iff_getElem]
    obtain ⟨hlt, he⟩ := List.getElem?_eq_some_iff.1 hk
    refine ⟨by rw [ht]; rfl, k, hlt, he, fun i hi => ?_⟩
    have := h i _ hi (List.getElem?_eq_getElem (by omega))
    simp [this]
  unfold firstP
  rw [hf]
  simp [ht]
theorem firstP_none {g : Bool} {l : List Nat} (h : ∀ i u, i < l.length → l[i]? = some u → tkF g s u = none) : firstP g s l = none := by
  have hf : l.find? (fun v => (tkF g s v).isSome) = none := by
    rw [List.find?_eq_none]
    intro x hx
    obtain ⟨i, hi, he⟩ := List.mem_iff_getElem.1 hx
    rw [h i x hi (by rw [List.getElem?_eq_getElem hi, he])]
    simp
  unfold firstP
  rw [hf]

/-- In the midst of first; where it is left. -/
def FirI (N : Nat) (F : Nat → Prop) (w : World) (p n : Nat) (g : Bool) (s : Pq.St Jb) (l : List Nat) (k : Nat) (V : World) (TB : Nat → Prop) : Prop :=
  (∃ js, FirS N F w p n w.heap.size (tkN g) V TB s js 0 0) ∧ ∀ i u, i < k → l[i]? = some u → tkF g s u = none
def FirX (N : Nat) (F : Nat → Prop) (w : World) (p n : Nat) (g : Bool) (s : Pq.St Jb) (l : List Nat) (V : World) (TB : Nat → Prop) : Prop :=
  ∃ j v s' sv, firstP g s l = some (j, v, s') ∧ FirS N F w p n w.heap.size (tkN g) V TB s' (jrow (j, sv)).toArray v 0 ∧ RS (fun k => k ≠ p ∧ ¬ ((F k ∨ (w.heap.size ≤ k ∧ k < w.heap.size + 4)) ∨ TB k)) V sv j.s
theorem FirX.mv {g : Bool} {l : List Nat} {V V' : World} {TB TB' : Nat → Prop} (h : FirX N F w p n g s l V TB) (hm : Rl.Mv TB V TB' V') : FirX N F w p n g s l V' TB' := by
  obtain ⟨j, v, s', sv, h1, h2, h3⟩ := h
  have hk : Kp TB V V' := ⟨hm.os, hm.tape, hm.output, hm.size, hm.same⟩
  refine ⟨j, v, s', sv, h1, h2.mv hm, ?_⟩
  exact ((h3.mono (S' := fun k => (k ≠ p ∧ ¬ ((F k ∨ (w.heap.size ≤ k ∧ k < w.heap.size + 4)) ∨ TB k)) ∧ k < V.heap.size) (fun k hk hi => ⟨hi, hk⟩)).kept hk (fun k hi hx => hi.1.2 (.inr hx))).mono (fun k _ hi => ⟨hi.1.1, fun hh => hh.elim (fun hh => hi.1.2 (.inl hh)) (fun hh => hi.1.2 (.inr ((hm.old k hi.2).1 hh)))⟩)

theorem results_fir {fn : Func} (h : fn.results = #[.cell 6 37, .cell 7 3, .cell 8 26]) (tmps : Array Value) (w : World) {b : Nat} {e : Jb} {v : Value} {ix er : Int}
    (h6 : tmps.getD 6 undef = .pointer (some ⟨b + 1, 0, none⟩)) (h7 : tmps.getD 7 undef = .pointer (some ⟨b + 1 + 1, 0, none⟩)) (h8 : tmps.getD 8 undef = .pointer (some ⟨b + 1 + 1 + 1, 0, none⟩))
    (hj : w.heap[b + 1]? = some (.cells (jrow (e, v)).toArray 37 (0, 0))) (hi : Boxed w (b + 2) 3 (.int .i64 ix)) (he : Boxed w (b + 3) 26 (.int .i64 er)) :
    (results fn tmps).run Try.prog w = .ok (.tuple #[JV e v, .int .i64 ix, .int .i64 er]) w := by
  have h6' : tmps[6]?.getD undef = .pointer (some ⟨b + 1, 0, none⟩) := by simpa using h6
  have h7' : tmps[7]?.getD undef = .pointer (some ⟨b + 1 + 1, 0, none⟩) := by simpa using h7
  have h8' : tmps[8]?.getD undef = .pointer (some ⟨b + 1 + 1 + 1, 0, none⟩) := by simpa using h8
  have c7 : w.cell? ⟨b + 1 + 1, 0, none⟩ = some (.int .i64 ix) := hi.cell
  have c8 : w.cell? ⟨b + 1 + 1 + 1, 0, none⟩ = some (.int .i64 er) := he.cell
  have q7 : (loadVar 3 ⟨b + 1 + 1, 0, none⟩).run Try.prog w = .ok (.int .i64 ix) w := by go_simp
  have q8 : (loadVar 26 ⟨b + 1 + 1 + 1, 0, none⟩).run Try.prog w = .ok (.int .i64 er) w := by go_simp
  simp [results, h, h6', h7', h8', asAddr, run_loadVar_row (P := Try.prog) w (b + 1) 37 37 _ (0, 0) _ hj Try.underlying37 rfl (by kernel_rfl), q7, q8]
  rfl

attribute [local go_sem] Oper.semAt_some

set_option maxHeartbeats 8000000 in
theorem first_w (g : Bool) (pick : Int) (h : LP N F w p n s) (hi : PInv s) (hpk : -9223372036854775808 ≤ pick ∧ pick ≤ 9223372036854775807) :
    Calls Try.prog 53 #[.pointer (some ⟨p, 0, none⟩), .int .i64 pick, .func (.func (tkN g)) #[] #[]] w fun e w' => Kp (Mv N F) w w' ∧ match firstP g s (Pq.circ n (frm pick n)) with
      | some (j, v, s') => ∃ sv, e = .returned (.tuple #[JV j sv, .int .i64 v, .int .i64 0]) ∧ RS (fun k => k ≠ p ∧ ¬ F k) w' sv j.s ∧ LP N F w' p n s'
      | none => e = .returned (.tuple #[JV zJ (.slice none 0 0), .int .i64 0, .int .i64 6]) ∧ LP N F w' p n s := by
  obtain ⟨w1, hw1⟩ : ∃ w1, (((w.alloc (.cells #[.func (.func (tkN g)) #[] #[]] 102)).alloc (.cells (jrow (zJ, .slice none 0 0)).toArray 37)).alloc (.cells #[.int .i64 0] 3)).alloc (.cells #[.int .i64 0] 26) = w1 := ⟨_, rfl⟩
  have HW1 : Hid ((((w.alloc (.cells #[.func (.func (tkN g)) #[] #[]] 102)).alloc (.cells #[.int .i64 0, .bool false, .int .i64 0, .bool false, .int .i64 0, .slice none 0 0] 37)).alloc (.cells #[.int .i64 0] 3)).alloc (.cells #[.int .i64 0] 26) = w1) := hw1
  obtain ⟨R, HR⟩ : ∃ R : Ending → World → Prop, Hid (R = fun e w' => Kp (Mv N F) w w' ∧ match firstP g s (Pq.circ n (frm pick n)) with
      | some (j, v, s') => ∃ sv, e = .returned (.tuple #[JV j sv, .int .i64 v, .int .i64 0]) ∧ RS (fun k => k ≠ p ∧ ¬ F k) w' sv j.s ∧ LP N F w' p n s'
      | none => e = .returned (.tuple #[JV zJ (.slice none 0 0), .int .i64 0, .int .i64 6]) ∧ LP N F w' p n s) := ⟨_, rfl⟩
  rw [← HR.out]
  clear hw1
  suffices key : CallsIn Fence.wide 0 Try.prog 53 #[.pointer (some ⟨p, 0, none⟩), .int .i64 pick, .func (.func (tkN g)) #[] #[]] w R from callsIn_wide.1 key
  refine callsIn_of_wp_marks Try.func53 rfl trivial ?_ rfl
  simp only [Try.ntmps53, List.size_toArray, List.length_cons, List.length_nil, Nat.reduceAdd, Nat.reduceSub, Array.replicate_succ, Array.replicate_zero, List.push_toArray, List.append_toArray, List.nil_append, List.cons_append]
  gi_wp2
  rw [HW1.out]
  have hw1 := HW1.out
  have hb1 : Below w.heap.size w w1 := by rw [← hw1]; exact (bl3 w _ _ _).alloc (by simp; omega) _
  have hs1 : w1.heap.size = w.heap.size + 4 := by rw [← hw1]; simp
  have e1 : (w.alloc (.cells #[.func (.func (tkN g)) #[] #[]] 102)).heap.size = w.heap.size + 1 := by simp
  have e2 : ((w.alloc (.cells #[.func (.func (tkN g)) #[] #[]] 102)).alloc (.cells #[.int .i64 0, .bool false, .int .i64 0, .bool false, .int .i64 0, .slice none 0 0] 37)).heap.size = w.heap.size + 2 := by simp
  have e3 : (((w.alloc (.cells #[.func (.func (tkN g)) #[] #[]] 102)).alloc (.cells #[.int .i64 0, .bool false, .int .i64 0, .bool false, .int .i64 0, .slice none 0 0] 37)).alloc (.cells #[.int .i64 0] 3)).heap.size = w.heap.size + 3 := by simp
  have q0 : Boxed w1 w.heap.size 102 (.func (.func (tkN g)) #[] #[]) := by rw [← hw1]; exact (((Boxed.new w 102 _).alloc _).alloc _).alloc _
  have qj : w1.heap[w.heap.size + 1]? = some (.cells #[.int .i64 0, .bool false, .int .i64 0, .bool false, .int .i64 0, .slice none 0 0] 37 (0, 0)) := by
    have := row_later (row_later (row_new (w.alloc (.cells #[.func (.func (tkN g)) #[] #[]] 102)) #[.int .i64 0, .bool false, .int .i64 0, .bool false, .int .i64 0, .slice none 0 0] 37) (bl1 _ (.cells #[.int .i64 0] 3))) (bl1 _ (.cells #[.int .i64 0] 26))
    rw [e1, hw1] at this
    exact this
  have qi : Boxed w1 (w.heap.size + 2) 3 (.int .i64 0) := by
    have := (Boxed.new ((w.alloc (.cells #[.func (.func (tkN g)) #[] #[]] 102)).alloc (.cells #[.int .i64 0, .bool false, .int .i64 0, .bool false, .int .i64 0, .slice none 0 0] 37)) 3 (.int .i64 0)).alloc (.cells #[.int .i64 0] 26)
    rw [e2, hw1] at this
    exact this
  have qe : Boxed w1 (w.heap.size + 3) 26 (.int .i64 0) := by
    have := Boxed.new (((w.alloc (.cells #[.func (.func (tkN g)) #[] #[]] 102)).alloc (.cells #[.int .i64 0, .bool false, .int .i64 0, .bool false, .int .i64 0, .slice none 0 0] 37)).alloc (.cells #[.int .i64 0] 3)) 26 (.int .i64 0)
    rw [e3, hw1] at this
    exact this
  clear HW1 hw1 e1 e2 e3
  obtain ⟨w2, hw2⟩ : ∃ w2, (w1.alloc (.cells #[.pointer (some ⟨p, 0, none⟩)] 25)).alloc (.cells #[.int .i64 pick] 3) = w2 := ⟨_, rfl⟩
  have hb2 : Below w1.heap.size w1 w2 := by rw [← hw2]; exact bl2 _ _ _
  have hs2 : w2.heap.size = w.heap.size + 6 := by rw [← hw2]; simp; omega
  have q2 : Boxed w2 (w.heap.size + 4) 25 (.pointer (some ⟨p, 0, none⟩)) := by rw [← hw2, ← hs1]; exact (Boxed.new w1 25 _).alloc _
  have q3 : Boxed w2 (w.heap.size + 4 + 1) 3 (.int .i64 pick) := by
    have := Boxed.new (w1.alloc (.cells #[.pointer (some ⟨p, 0, none⟩)] 25)) 3 (.int .i64 pick)
    rw [World.size_alloc, hs1, hw2] at this
    exact this
  have hb02 : Below w.heap.size w w2 := hb1.trans (hb2.mono hb1.size)
  have HC : Hid _ := circle_any (.pointer (some ⟨p, 0, none⟩)) (.inr ⟨_, rfl⟩) pick w1
  rw [hw2, hs1] at HC
  have HITR : Hid _ := circle_itr p n (w.heap.size + 4) (w.heap.size + 4 + 1) pick h.n0 h.n64 hpk (fun b => b = w.heap.size + 4 ∨ b = w.heap.size + 4 + 1) w2 q2 q3 (.inl rfl) (.inr rfl) (fun b hb => by omega)
  have HI : Hid _ := hi
  have HN : Hid _ := h.le
  have HFl : Hid (∀ k, F k → k < w.heap.size) := h.fl
  have h64 := h.n64
  obtain ⟨l, hl⟩ : ∃ l, Pq.circ n (frm pick n) = l := ⟨_, rfl⟩
  have HLl : Hid (∀ u ∈ l, u < n) := fun u hu => by rw [← hl] at hu; exact Pq.circ_lt hu
  rw [hl] at HITR HR
  have H0 : Hid (FirI N F w p n g s l 0 w2 (fun b => b = w.heap.size + 4 ∨ b = w.heap.size + 4 + 1)) :=
    ⟨⟨_, h.kept (X := fun _ => False) (Kp.of_below _ hb02) (fun _ h _ => h.elim) (fun k hk => hk.elim (fun hk => hk.imp id (fun h => h.1)) (fun h => .inr (by omega))) (fun k hk => hk.elim (fun hk => hk.elim (fun hk => by have := h.fl k hk; omega) (fun h => by omega)) (fun h => by omega)), Kp.of_below _ hb02, fun b hb => by omega, fun b h1 h2 => by omega, (hb2.block _ q0.lt).trans q0, row_later qj hb2, rfl, (hb2.block _ qi.lt).trans qi, (hb2.block _ qe.lt).trans qe⟩, fun i u hi => by omega⟩
  have HS2 : Hid _ := hs2
  clear h hi hb1 hb2 hb02 q0 qj qi qe q2 q3 hs1 hs2 hw2 hl
  refine ⟨trivial, rfl, (callsIn_wide.2 HC.out).mono ?_⟩
  rintro e w3 ⟨rfl, hw3⟩
  subst hw3
  clear HC
  gi_wp2
  refine Rl.range_law (P := Try.prog) (gf := 44) (lb := #[.pointer (some ⟨w.heap.size + 4, 0, none⟩), .pointer (some ⟨w.heap.size + 4 + 1, 0, none⟩)]) rfl (enters_of Try.func44 (by kernel_rfl) rfl) (enc := encW p) (xs := l) (n0 := 0) (m0 := 0) (G := CirG p n) (T := fun b => b = w.heap.size + 4 ∨ b = w.heap.size + 4 + 1)
    HITR.out (fun b hb => by have := HS2.out; omega) (Nat.zero_le _) (Nat.le_refl _) (fun x F W T args h => by rw [show args = _ from h]; rfl)
    (fun k V TB => Hid (FirI N F w p n g s l k V TB)) (fun c k V TB => Hid (c = .ret ∧ FirX N F w p n g s l V TB))
    (fun k V TV V' TV' h hm => by obtain ⟨⟨js, h1⟩, h2⟩ := h.out; exact ⟨⟨js, h1.mv hm⟩, h2⟩) (fun c k V TV V' TV' h hm => ⟨h.out.1, h.out.2.mv hm⟩)
    (fun k V TV h => by obtain ⟨⟨js, h1⟩, h2⟩ := h.out; exact h1.lp.num) H0 ?rnd ?done ?stop
  case rnd =>
    rintro m l' k x args F9 V T1 TB hxk henc ⟨Wf, Tf, HIf, hF9, hmF⟩ HI2 hTB hup hnc hlt
    cases henc
    have HXK : Hid _ := hxk
    have hxn : x < n := HLl.out x (List.mem_of_getElem? hxk)
    clear HIf hF9 hmF hxk hTB hnc hlt HITR H0 HS2 hup
    gi_wp2
    refine ⟨HI2, Rl.Rv.refl _ _ _, fun W2 HI3 hbz => ?_⟩
    clear hbz HI2
    obtain ⟨⟨js, hf⟩, hno⟩ := HI3.out
    have HF : Hid _ := hf
    have HNo : Hid (∀ i u, i < k → l[i]? = some u → tkF g s u = none) := hno
    have HCt : Hid _ := tk_any g hf.lp HI.out hxn
    have y0 := hf.qf.cell
    have hent := tkN_ent g
    clear hf hno HI3
    gi_wp2
    refine ⟨trivial, (fun hd => by cases hd), (CallsIn.inRound l' (callsIn_wide.2 HCt.out)).mono ?_⟩
    rintro e w4 ⟨hk4, ho⟩
    cases ht : tkF g s x with
    | none =>
      rw [ht] at ho
      obtain ⟨sv, rfl, hsv, hl4⟩ := ho
      obtain ⟨sa, sc, rfl, _⟩ := hsv
      obtain ⟨n1, n2⟩ := HF.out.call hl4 hk4
      have N1 : Hid _ := n1
      have N2 : Hid _ := n2
      have HT : Hid _ := ht
      unfold JV zJ
      dsimp only
      clear n1 n2 hk4 hl4 HCt ht y0
      gi_wp2
      have hb5 := bl1 w4 (.cells #[.int .i64 0, .bool false, .int .i64 0, .bool false, .int .i64 0, .slice sa 0 sc] 37)
      refine ⟨⟨⟨_, N1.out.later hb5⟩, fun i u hi hu => ?_⟩, N2.out.trans (Rl.Rv.of_below hb5 (Nat.zero_le _))⟩
      by_cases e : i = k
      · subst e
        rw [HXK.out] at hu
        cases hu
        exact HT.out
      · exact HNo.out i u (by omega) hu
    | some r =>
      obtain ⟨j, s'⟩ := r
      rw [ht] at ho
      obtain ⟨sv, rfl, hsv, hl4⟩ := ho
      obtain ⟨sa, sc, hsl, _⟩ := hsv.1
      obtain ⟨n1, n2⟩ := HF.out.call hl4 hk4
      have N1 : Hid _ := n1
      have N2 : Hid _ := n2
      have HSV : Hid _ := hsv
      have HP : Hid (firstP g s l = some (j, x, s')) := firstP_some HNo.out HXK.out ht
      obtain ⟨ji, ju, jt, jb, jk, js9⟩ := j
      subst hsl
      unfold JV
      dsimp only at *
      obtain ⟨ml, hml⟩ : ∃ m, js9.length = m := ⟨_, rfl⟩
      have hjs := n1.sz
      obtain ⟨u0, hu0⟩ : ∃ u, js[0]? = some u := ⟨_, Array.getElem?_eq_getElem (by omega)⟩
      obtain ⟨u1, hu1⟩ : ∃ u, js[1]? = some u := ⟨_, Array.getElem?_eq_getElem (by omega)⟩
      obtain ⟨u2, hu2⟩ : ∃ u, js[2]? = some u := ⟨_, Array.getElem?_eq_getElem (by omega)⟩
      obtain ⟨u3, hu3⟩ : ∃ u, js[3]? = some u := ⟨_, Array.getElem?_eq_getElem (by omega)⟩
      obtain ⟨u4, hu4⟩ : ∃ u, js[4]? = some u := ⟨_, Array.getElem?_eq_getElem (by omega)⟩
      obtain ⟨u5, hu5⟩ : ∃ u, js[5]? = some u := ⟨_, Array.getElem?_eq_getElem (by omega)⟩
      have d0 := (cell_row n1.qj 0).trans hu0
      have d1 := (cell_row n1.qj 1).trans hu1
      have d2 := (cell_row n1.qj 2).trans hu2
      have d3 := (cell_row n1.qj 3).trans hu3
      have d4 := (cell_row n1.qj 4).trans hu4
      have d5 := (cell_row n1.qj 5).trans hu5
      have f1 := froz_row n1.qj
      have c2 : w4.cell? ⟨w.heap.size + 1 + 1, 0, none⟩ = some (.int .i64 0) := n1.qi.cell
      have f2 : ∀ i, w4.frozen? ⟨w.heap.size + 1 + 1, i, none⟩ = false := froz_row n1.qi
      have c3 : w4.cell? ⟨w.heap.size + 1 + 1 + 1, 0, none⟩ = some (.int .i64 0) := n1.qe.cell
      have f3 : ∀ i, w4.frozen? ⟨w.heap.size + 1 + 1 + 1, i, none⟩ = false := froz_row n1.qe
      have hw4 : w.heap.size + 4 ≤ w4.heap.size := by have : w.heap.size + 3 < w4.heap.size := row_lt n1.qe; omega
      have hb1 : w.heap.size + 1 < w4.heap.size := by omega
      have hb2 : w.heap.size + 1 + 1 < w4.heap.size := by omega
      have hb3 : w.heap.size + 1 + 1 + 1 < w4.heap.size := by omega
      rw [hml]
      have HML : Hid _ := hml
      clear n1 n2 hk4 hl4 HCt ht hsv hu0 hu1 hu2 hu3 hu4 hu5 hjs hml y0
      gi_wp2
      obtain rfl := HML.out
      obtain ⟨m1, m2, m3⟩ := N1.out.res (Nat.le_refl _) HN.out HFl.out (⟨ji, ju, jt, jb, jk, js9⟩, .slice sa js9.length sc) x 0
      have hb5 := bl1 (((set6 w4 (w.heap.size + 1) 0 (⟨ji, ju, jt, jb, jk, js9⟩, .slice sa js9.length sc)).setCell ⟨w.heap.size + 2, 0, none⟩ (.int .i64 (x : Int))).setCell ⟨w.heap.size + 3, 0, none⟩ (.int .i64 0)) (.cells #[.int .i64 ji, .bool ju, .int .i64 jt, .bool jb, .int .i64 jk, .slice sa js9.length sc] 37)
      refine ⟨⟨rfl, _, _, _, _, HP.out, m1.later hb5, ?_⟩, (N2.out.trans m2).trans (Rl.Rv.of_below hb5 (Nat.zero_le _))⟩
      exact RS.later (RS.kept (S := fun k => k ≠ p ∧ ¬ ((F k ∨ (w.heap.size ≤ k ∧ k < w.heap.size + 4)) ∨ TB k)) HSV.out m3 (fun k hk hx => hk.2 (.inl (.inr ⟨by omega, hx.2⟩)))) hb5
  case done =>
    rintro V T2 h hold hup hdef hts
    obtain ⟨⟨js, hf⟩, hno⟩ := h.out
    have HNo : Hid (firstP g s l = none) := firstP_none hno
    have HF : Hid _ := hf
    have HV : Hid (V.heap[w3.heap.size]? = some (.deferred (some [])) ∧ T2 w3.heap.size) := ⟨hdef, hts⟩
    have hjs := hf.sz
    obtain ⟨u0, hu0⟩ : ∃ u, js[0]? = some u := ⟨_, Array.getElem?_eq_getElem (by omega)⟩
    obtain ⟨u1, hu1⟩ : ∃ u, js[1]? = some u := ⟨_, Array.getElem?_eq_getElem (by omega)⟩
    obtain ⟨u2, hu2⟩ : ∃ u, js[2]? = some u := ⟨_, Array.getElem?_eq_getElem (by omega)⟩
    obtain ⟨u3, hu3⟩ : ∃ u, js[3]? = some u := ⟨_, Array.getElem?_eq_getElem (by omega)⟩
    obtain ⟨u4, hu4⟩ : ∃ u, js[4]? = some u := ⟨_, Array.getElem?_eq_getElem (by omega)⟩
    obtain ⟨u5, hu5⟩ : ∃ u, js[5]? = some u := ⟨_, Array.getElem?_eq_getElem (by omega)⟩
    have d0 := (cell_row hf.qj 0).trans hu0
    have d1 := (cell_row hf.qj 1).trans hu1
    have d2 := (cell_row hf.qj 2).trans hu2
    have d3 := (cell_row hf.qj 3).trans hu3
    have d4 := (cell_row hf.qj 4).trans hu4
    have d5 := (cell_row hf.qj 5).trans hu5
    have f1 := froz_row hf.qj
    have c2 : V.cell? ⟨w.heap.size + 1 + 1, 0, none⟩ = some (.int .i64 0) := hf.qi.cell
    have f2 : ∀ i, V.frozen? ⟨w.heap.size + 1 + 1, i, none⟩ = false := froz_row hf.qi
    have c3 : V.cell? ⟨w.heap.size + 1 + 1 + 1, 0, none⟩ = some (.int .i64 0) := hf.qe.cell
    have f3 : ∀ i, V.frozen? ⟨w.heap.size + 1 + 1 + 1, i, none⟩ = false := froz_row hf.qe
    clear h hold hup hdef hts hf hno hu0 hu1 hu2 hu3 hu4 hu5 hjs HITR H0 HLl
    gi_wp2
    obtain ⟨m1, m2, m3⟩ := HF.out.res (Nat.le_refl _) HN.out HFl.out (zJ, .slice none 0 0) 0 6
    have hd9 := m3.row HV.out.1 (fun hx => by have := HS2.out; omega)
    show LeavesInM Fence.wide 0 Try.prog Try.f53 _ R ([w3.heap.size].map Rl.mark) .returning _
    refine Rl.leaves_marks (T := T2) (by simp) (fun A => FirS N F w p n w.heap.size (tkN g) A T2 s (jrow (zJ, .slice none 0 0)).toArray 0 6) ?_ ?_ _ _ ⟨by simp, fun D hD => by simp at hD; subst hD; exact ⟨HV.out.2, hd9⟩⟩ m1
    · rintro A D hD k1
      exact k1.mv (Rl.Mv.putObj A _ hD)
    · rintro A k1
      refine ⟨_, results_fir rfl _ _ rfl rfl rfl k1.qj k1.qi k1.qe, ?_⟩
      rw [HR.out]
      refine ⟨k1.kp, ?_⟩
      rw [HNo.out]
      exact ⟨rfl, k1.lp.less (fun b hb => .inl (.inl hb))⟩
  case stop =>
    rintro c k V T2 hk h hold hup hdef hts
    obtain ⟨rfl, hx⟩ := h.out
    have HX : Hid _ := hx
    have HV : Hid (V.heap[w3.heap.size]? = some (.deferred (some [])) ∧ T2 w3.heap.size) := ⟨hdef, hts⟩
    clear h hold hup hdef hts hx hk HITR H0 HLl
    gi_wp2
    show LeavesInM Fence.wide 0 Try.prog Try.f53 _ R ([w3.heap.size].map Rl.mark) .returning V
    refine Rl.leaves_marks (T := T2) (by simp) (fun A => FirX N F w p n g s l A T2) ?_ ?_ _ V ⟨by simp, fun D hD => by simp at hD; subst hD; exact ⟨HV.out.2, HV.out.1⟩⟩ HX.out
    · rintro A D hD k1
      exact k1.mv (Rl.Mv.putObj A _ hD)
    · rintro A ⟨j, v, s', sv, k0, k1, k2⟩
      refine ⟨_, results_fir rfl _ _ rfl rfl rfl k1.qj k1.qi k1.qe, ?_⟩
      rw [HR.out]
      refine ⟨k1.kp, ?_⟩
      rw [k0]
      exact ⟨sv, rfl, k2.mono (fun b _ hb => ⟨hb.1, fun hf => hb.2 (.inl (.inl hf))⟩), k1.lp.less (fun b hb => .inl (.inl hb))⟩
end Go.Proofs.Ytfhmmiilenonkaa
