/- The program's pool in memory: block p, each worker's deque, and what it holds. -/
import Derived.Test.YtfhmmiilenonkaaRm
import Derived.Test.YtfhmmiilenonkaaQb
namespace Go.Proofs.Ytfhmmiilenonkaa
open Go.RowKit
set_option maxRecDepth 1000000
set_option linter.unusedVariables false

set_option maxHeartbeats 1000000 in
theorem apart39_any (e : Jb) (v : Value) (w : World) (hv : RI w v e.s) (hn : e.s.length ≤ 1000000) :
    Calls Try.prog 39 #[JV e v] w fun x w' => ∃ v', x = .returned (JV e v') ∧ OwI w.heap.size w' v' e.s ∧ Below w.heap.size w w' := by
  obtain ⟨a, c, hve, _⟩ := id hv
  have HC : Hid (∀ w1, Below w.heap.size w w1 → Calls Try.prog 55 #[v] w1 fun x w' => ∃ v', x = .returned v' ∧ OwI w1.heap.size w' v' e.s ∧ Below w1.heap.size w1 w') := fun w1 hb => clone_all v e.s w1 (hv.later hb) hn
  obtain ⟨ei, eu, et, eb, ek, es⟩ := e
  subst hve
  unfold JV
  dsimp only at *
  generalize es.length = n at *
  clear hv
  go_enter Try.func39, Try.ntmps39
  go_wp2_with fail
  refine Calls.mono (HC.out _ (bl2 _ _ _)) ?_
  rintro x w2 ⟨v', rfl, ho, hb⟩
  have r0 := row_later (row_new1 w (.cells #[.int .i64 ei, .bool eu, .int .i64 et, .bool eb, .int .i64 ek, .slice a n c] 37) (.cells #[.int .i64 0, .bool false, .int .i64 0, .bool false, .int .i64 0, .slice none 0 0] 37)) hb
  have r1 := row_later (row_new2 w (.cells #[.int .i64 ei, .bool eu, .int .i64 et, .bool eb, .int .i64 ek, .slice a n c] 37) (.cells #[.int .i64 0, .bool false, .int .i64 0, .bool false, .int .i64 0, .slice none 0 0] 37)) hb
  obtain ⟨a', c', hv'⟩ := ho.slice
  have HO : Hid _ := ho
  have HB : Hid (Below w.heap.size w w2) := (bl2 _ _ _).trans (hb.mono (by simp; omega))
  subst hv'
  have c0 := cell_row r0 0
  have c1 := cell_row r0 1
  have c2 := cell_row r0 2
  have c3 := cell_row r0 3
  have c4 := cell_row r0 4
  have c5 := cell_row r0 5
  have d0 := cell_row r1 0
  have d1 := cell_row r1 1
  have d2 := cell_row r1 2
  have d3 := cell_row r1 3
  have d4 := cell_row r1 4
  have d5 := cell_row r1 5
  have f0 := froz_row r0
  have f1 := froz_row r1
  simp at c0 c1 c2 c3 c4 c5 d0 d1 d2 d3 d4 d5
  have R0 : Hid _ := r0
  have R1 : Hid _ := r1
  clear ho hb HC r0 r1
  go_wp2_with fail
  have hr0 := row_set R0.out 5 (.slice a' es.length c')
  have k1 : Kp (fun k => k = w.heap.size ∨ k = w.heap.size + 1) w2 (w2.setCell ⟨w.heap.size, 5, none⟩ (.slice a' es.length c')) := (Kp.refl _ _).set _ _ (.inl rfl)
  have k0 : Kp (fun k => k = w.heap.size) w2 (w2.setCell ⟨w.heap.size, 5, none⟩ (.slice a' es.length c')) := (Kp.refl _ _).set _ _ rfl
  have hr1 := k0.row R1.out (by simp)
  have hr2 := set6_whole hr1 rfl (⟨ei, eu, et, eb, ek, es⟩, .slice a' es.length c')
  have k2 := k1.trans (set6_kept (fun k => k = w.heap.size ∨ k = w.heap.size + 1) _ _ 0 (⟨ei, eu, et, eb, ek, es⟩, .slice a' es.length c') (.inr rfl)) (fun _ h _ => h)
  refine retJ rfl (w.heap.size + 1) ⟨ei, eu, et, eb, ek, es⟩ (.slice a' es.length c') rfl rfl hr2 ?_
  have hl := HO.out
  refine ⟨_, rfl, ?_, ?_⟩
  · have hlt := fun g hg => (World.ownsRow.lt hl g hg).1
    simp only [World.size_alloc] at hlt
    exact World.ownsRow.mono_base (owns_kept k2 hl (fun g hg hx => by have := hlt g hg; rcases hx with rfl | rfl <;> omega)) (by simp; omega)
  · exact HB.out.trans (k2.below (B := w.heap.size) HB.out.size (fun k hk => by rcases hk with rfl | rfl <;> omega))

/-- What a worker holds, in memory: a block of S, and nothing writes it. -/
def HV (S : Nat → Prop) (w : World) (v : Value) (o : Option Jb) : Prop :=
  match o with
  | none => v = .pointer none
  | some j => ∃ h sv, v = .pointer (some ⟨h, 0, none⟩) ∧ w.heap[h]? = some (.cells (jrow (j, sv)).toArray 37 (0, 0)) ∧ S h ∧ RS S w sv j.s

theorem HV.kept {S T : Nat → Prop} {w w' : World} {v : Value} {o : Option Jb} (h : HV S w v o) (hk : Kp T w w') (hT : ∀ k, S k → ¬ T k) : HV S w' v o := by
  cases o with
  | none => exact h
  | some j =>
    obtain ⟨b, sv, h1, h2, h3, h4⟩ := h
    exact ⟨b, sv, h1, hk.row h2 (hT b h3), h3, h4.kept hk hT⟩
theorem HV.mono {S S' : Nat → Prop} {w : World} {v : Value} {o : Option Jb} (h : HV S w v o) (hS : ∀ k, k < w.heap.size → S k → S' k) : HV S' w v o := by
  cases o with
  | none => exact h
  | some j =>
    obtain ⟨b, sv, h1, h2, h3, h4⟩ := h
    exact ⟨b, sv, h1, h2, hS b (row_lt h2) h3, h4.mono hS⟩

/-- What no deque of the pool writes, nor the pool. -/
def Im (D : Nat → Nat → Prop) (F : Nat → Prop) (p n : Nat) (k : Nat) : Prop := k ≠ p ∧ (∀ v, v < n → ¬ D v k) ∧ ¬ F k

/-- A pool in memory: D: the deques' blocks; F: blocks that it neither reads nor writes. -/
structure PL (D : Nat → Nat → Prop) (F : Nat → Prop) (w : World) (p n : Nat) (cs : Array Value) (s : Pq.St Jb) : Prop where
  blk : w.heap[p]? = some (.cells cs 59 (0, 0))
  size : cs.size = 129
  num : cs[0]? = some (.int .i64 (n : Int))
  n0 : 0 < n
  n64 : n ≤ 64
  ok : s.Ok n
  dq : ∀ v, v < n → ∃ q, cs[1 + v * 2]? = some (.pointer (some ⟨q, 0, none⟩)) ∧ DQ (D v) w q (s.row v)
  hd : ∀ v, v < n → ∃ hv, cs[1 + v * 2 + 1]? = some hv ∧ HV (Im D F p n) w hv (s.hd v)
  np : ∀ v, v < n → ¬ D v p
  dis : ∀ u v k, u < n → v < n → D u k → D v k → u = v
  nf : ¬ F p
  nd : ∀ v k, v < n → D v k → ¬ F k

section
variable {D : Nat → Nat → Prop} {F : Nat → Prop} {w w' : World} {p n : Nat} {cs : Array Value} {s : Pq.St Jb}

theorem PL.kept {T : Nat → Prop} (h : PL D F w p n cs s) (hk : Kp T w w') (hp : ¬ T p) (hD : ∀ v k, v < n → D v k → ¬ T k) (hI : ∀ k, Im D F p n k → ¬ T k) : PL D F w' p n cs s :=
  ⟨hk.row h.blk hp, h.size, h.num, h.n0, h.n64, h.ok, fun v hv => by obtain ⟨q, h1, h2⟩ := h.dq v hv; exact ⟨q, h1, h2.kept hk (fun k => hD v k hv)⟩, fun v hv => by obtain ⟨q, h1, h2⟩ := h.hd v hv; exact ⟨q, h1, h2.kept hk hI⟩, h.np, h.dis, h.nf, h.nd⟩
theorem PL.later (h : PL D F w p n cs s) (hb : Below w.heap.size w w') : PL D F w' p n cs s := h.kept (Kp.of_below (fun _ => False) hb) (fun h => h) (fun _ _ _ _ h => h) (fun _ _ h => h)
theorem PL.live (h : PL D F w p n cs s) {v k : Nat} (hv : v < n) (hk : D v k) : k < w.heap.size := by
  obtain ⟨q, h1, h2⟩ := h.dq v hv
  exact h2.live k hk
/-- A worker's deque is turned. -/
theorem PL.deq {v q : Nat} {D' : Nat → Prop} {L' : List Jb} (h : PL D F w p n cs s) (hv : v < n) (hq : cs[1 + v * 2]? = some (.pointer (some ⟨q, 0, none⟩))) (hk : Kp (D v) w w') (hd : DQ D' w' q L') (hD : ∀ k, D' k → D v k ∨ w.heap.size ≤ k) (hF : ∀ k, F k → k < w.heap.size) :
    PL (fun u k => if u = v then D' k else D u k) F w' p n cs ⟨s.rows.set v L', s.hold⟩ := by
  have hpl : p < w.heap.size := row_lt h.blk
  have old : ∀ k, k < w.heap.size → D' k → D v k := fun k hk hd => (hD k hd).resolve_right (by omega)
  refine ⟨hk.row h.blk (h.np v hv), h.size, h.num, h.n0, h.n64, ⟨by simp [h.ok.r], h.ok.h⟩, fun u hu => ?_, fun u hu => ?_, fun u hu => ?_, fun u u' k hu hu' hk1 hk2 => ?_, h.nf, fun u k hu hk1 => ?_⟩
  · by_cases e : u = v
    · subst e
      refine ⟨q, hq, ?_⟩
      simp only [if_pos]
      unfold Pq.St.row
      rw [Pq.getD_set _ _ _ _ _ (by rw [h.ok.r]; exact hu), if_pos rfl]
      exact hd
    · obtain ⟨q', h1, h2⟩ := h.dq u hu
      refine ⟨q', h1, ?_⟩
      simp only [if_neg e]
      unfold Pq.St.row
      rw [Pq.getD_set _ _ _ _ _ (by rw [h.ok.r]; exact hv), if_neg e]
      exact h2.kept hk (fun k h3 h4 => e (h.dis u v k hu hv h3 h4))
  · obtain ⟨hv2, h1, h2⟩ := h.hd u hu
    refine ⟨hv2, h1, ?_⟩
    refine (h2.mono (S' := fun k => Im D F p n k ∧ k < w.heap.size) (fun k h3 h4 => ⟨h4, h3⟩)).kept hk (fun k h3 => h3.1.2.1 v hv) |>.mono (fun k _ h3 => ⟨h3.1.1, fun u' hu' => ?_, h3.1.2.2⟩)
    by_cases e : u' = v
    · simp only [if_pos e]; exact fun h4 => h3.1.2.1 v hv (old k h3.2 h4)
    · simp only [if_neg e]; exact h3.1.2.1 u' hu'
  · by_cases e : u = v
    · simp only [if_pos e]; exact fun h4 => h.np v hv (old p hpl h4)
    · simp only [if_neg e]; exact h.np u hu
  · by_cases e : u = v
    · by_cases e' : u' = v
      · rw [e, e']
      · simp only [if_pos e] at hk1
        simp only [if_neg e'] at hk2
        exact absurd (h.dis v u' k hv hu' (old k (h.live hu' hk2) hk1) hk2).symm e'
    · by_cases e' : u' = v
      · simp only [if_neg e] at hk1
        simp only [if_pos e'] at hk2
        exact absurd (h.dis u v k hu hv hk1 (old k (h.live hu hk1) hk2)) e
      · simp only [if_neg e] at hk1
        simp only [if_neg e'] at hk2
        exact h.dis u u' k hu hu' hk1 hk2
  · by_cases e : u = v
    · simp only [if_pos e] at hk1
      rcases hD k hk1 with h9 | h9
      · exact h.nd v k hv h9
      · exact fun h8 => by have := hF k h8; omega
    · simp only [if_neg e] at hk1
      exact h.nd u k hu hk1
/-- What a worker holds is turned. -/
theorem PL.put {v : Nat} {hv : Value} {o : Option Jb} (h : PL D F w p n cs s) (hvn : v < n) (ho : HV (Im D F p n) w hv o) :
    PL D F (w.setCell ⟨p, 1 + v * 2 + 1, none⟩ hv) p n (cs.setIfInBounds (1 + v * 2 + 1) hv) ⟨s.rows, s.hold.set v o⟩ := by
  have hk : Kp (fun k => k = p) w (w.setCell ⟨p, 1 + v * 2 + 1, none⟩ hv) := (Kp.refl _ w).set _ _ rfl
  have hn := h.n64
  refine ⟨row_set h.blk _ _, by simp [h.size], ?_, h.n0, h.n64, ⟨h.ok.r, by simp [h.ok.h]⟩, fun u hu => ?_, fun u hu => ?_, h.np, h.dis, h.nf, h.nd⟩
  · rw [Array.getElem?_setIfInBounds_ne (by omega)]; exact h.num
  · obtain ⟨q, h1, h2⟩ := h.dq u hu
    exact ⟨q, by rw [Array.getElem?_setIfInBounds_ne (by omega)]; exact h1, h2.kept hk (fun k hk2 e => h.np u hu (e ▸ hk2))⟩
  · by_cases e : u = v
    · subst e
      refine ⟨hv, by rw [Array.getElem?_setIfInBounds_self_of_lt (by rw [h.size]; omega)], ?_⟩
      unfold Pq.St.hd
      rw [Pq.getD_set _ _ _ _ _ (by rw [h.ok.h]; exact hu), if_pos rfl]
      exact ho.kept hk (fun k hk2 e => hk2.1 e)
    · obtain ⟨q, h1, h2⟩ := h.hd u hu
      refine ⟨q, by rw [Array.getElem?_setIfInBounds_ne (by omega)]; exact h1, ?_⟩
      unfold Pq.St.hd
      rw [Pq.getD_set _ _ _ _ _ (by rw [h.ok.h]; exact hvn), if_neg e]
      exact h2.kept hk (fun k hk2 e => hk2.1 e)
end

/-- A pool whose blocks are the call's own; it neither reads nor writes F. -/
structure LP (N : Nat) (F : Nat → Prop) (w : World) (p n : Nat) (s : Pq.St Jb) : Prop where
  ex : ∃ D cs, PL D F w p n cs s ∧ N ≤ p ∧ ∀ v k, v < n → D v k → N ≤ k
  le : N ≤ w.heap.size
  fl : ∀ k, F k → k < w.heap.size
/-- What may turn. -/
def Mv (N : Nat) (F : Nat → Prop) : Nat → Prop := fun k => N ≤ k ∧ ¬ F k

section
variable {N : Nat} {F : Nat → Prop} {w w' : World} {p n : Nat} {s : Pq.St Jb}
theorem LP.later (h : LP N F w p n s) (hb : Below w.heap.size w w') : LP N F w' p n s := by
  obtain ⟨⟨D, cs, h1, h2⟩, h3, h4⟩ := h
  exact ⟨⟨D, cs, h1.later hb, h2⟩, Nat.le_trans h3 hb.size, fun k hk => Nat.lt_of_lt_of_le (h4 k hk) hb.size⟩
theorem LP.lt (h : LP N F w p n s) : p < w.heap.size := by obtain ⟨⟨D, cs, h1, h2⟩, h3, h4⟩ := h; exact row_lt h1.blk
theorem LP.n0 (h : LP N F w p n s) : 0 < n := by obtain ⟨⟨D, cs, h1, h2⟩, h3, h4⟩ := h; exact h1.n0
theorem LP.n64 (h : LP N F w p n s) : n ≤ 64 := by obtain ⟨⟨D, cs, h1, h2⟩, h3, h4⟩ := h; exact h1.n64
theorem LP.ok (h : LP N F w p n s) : s.Ok n := by obtain ⟨⟨D, cs, h1, h2⟩, h3, h4⟩ := h; exact h1.ok
theorem LP.num (h : LP N F w p n s) : CirG p n w := by
  obtain ⟨⟨D, cs, h1, h2⟩, h3, h4⟩ := h
  exact (cell_row h1.blk 0).trans h1.num
theorem PL.less {D : Nat → Nat → Prop} {cs : Array Value} {F' : Nat → Prop} (h : PL D F w p n cs s) (hF : ∀ k, k < w.heap.size → F' k → F k) : PL D F' w p n cs s :=
  ⟨h.blk, h.size, h.num, h.n0, h.n64, h.ok, h.dq, fun v hv => by obtain ⟨q, h1, h2⟩ := h.hd v hv; exact ⟨q, h1, h2.mono (fun k hk h3 => ⟨h3.1, h3.2.1, fun h4 => h3.2.2 (hF k hk h4)⟩)⟩, h.np, h.dis, fun hh => h.nf (hF _ (row_lt h.blk) hh), fun v k hv hk hh => h.nd v k hv hk (hF _ (h.live hv hk) hh)⟩
/-- What is new may be guarded; what is guarded may turn. -/
theorem LP.kept {F' X : Nat → Prop} (h : LP N F w p n s) (hk : Kp X w w') (hX : ∀ k, X k → k < w.heap.size → F k) (hF : ∀ k, F' k → F k ∨ w.heap.size ≤ k) (hl : ∀ k, F' k → k < w'.heap.size) : LP N F' w' p n s := by
  have hlt := h.lt
  obtain ⟨⟨D, cs, h1, h2, h5⟩, h3, h4⟩ := h
  have k2 : Kp (fun k => X k ∧ k < w.heap.size) w w' := ⟨hk.os, hk.tape, hk.output, hk.size, fun k hlk hn => hk.block k hlk (fun hx => hn ⟨hx, hlk⟩)⟩
  refine ⟨⟨D, cs, (h1.less (F' := fun k => F' k ∧ k < w.heap.size ∨ F k) (fun k hlk hh => ?_)).kept k2 (fun hx => h1.nf (hX _ hx.1 hx.2)) (fun v k hv hk hx => h1.nd v k hv hk (hX _ hx.1 hx.2)) (fun k hi hx => hi.2.2 (.inr (hX _ hx.1 hx.2))) |> fun h9 => ⟨h9.blk, h9.size, h9.num, h9.n0, h9.n64, h9.ok, h9.dq, fun v hv => ?_, h9.np, h9.dis, fun hh => h9.nf (.inl ⟨hh, hlt⟩), fun v k hv hk hh => h9.nd v k hv hk (.inl ⟨hh, h1.live hv hk⟩)⟩, h2, h5⟩, Nat.le_trans h3 hk.size, hl⟩
  · rcases hh with hh | hh
    · exact (hF k hh.1).resolve_right (by omega)
    · exact hh
  · obtain ⟨q, q1, q2⟩ := h1.hd v hv
    refine ⟨q, q1, ((q2.mono (S' := fun k => Im D F p n k ∧ k < w.heap.size) (fun k hk hi => ⟨hi, hk⟩)).kept k2 (fun k hi hx => hi.1.2.2 (hX _ hx.1 hx.2))).mono (fun k _ hi => ⟨hi.1.1, hi.1.2.1, fun hh => hi.1.2.2 ((hF k hh).resolve_right (by have := hi.2; omega))⟩)⟩
theorem LP.guard (h : LP N F w p n s) (hb : Below w.heap.size w w') : LP N (fun k => F k ∨ w.heap.size ≤ k ∧ k < w'.heap.size) w' p n s :=
  h.kept (Kp.of_below (fun _ => False) hb) (fun _ h _ => h.elim) (fun k hk => hk.imp id (fun h => h.1)) (fun k hk => hk.elim (fun hk => Nat.lt_of_lt_of_le (h.fl k hk) hb.size) (fun h => h.2))
theorem LP.less {F' : Nat → Prop} (h : LP N F w p n s) (hF : ∀ k, F' k → F k) : LP N F' w p n s :=
  h.kept (Kp.refl (fun _ => False) w) (fun _ h _ => h.elim) (fun k hk => .inl (hF k hk)) (fun k hk => h.fl k (hF k hk))
/-- In a round of an iterator that owns TB. -/
theorem LP.mv {TB TB' : Nat → Prop} (h : LP N (fun k => F k ∨ TB k) w p n s) (hm : Rl.Mv TB w TB' w') (hu : ∀ k, TB k → k < w.heap.size) : LP N (fun k => F k ∨ TB' k) w' p n s := by
  refine h.kept (X := TB) ⟨hm.os, hm.tape, hm.output, hm.size, hm.same⟩ (fun k hk _ => .inr hk) (fun k hk => ?_) (fun k hk => ?_)
  · rcases hk with hk | hk
    · exact .inl (.inl hk)
    · by_cases hlt : k < w.heap.size
      · exact .inl (.inr ((hm.old k hlt).1 hk))
      · exact .inr (by omega)
  · rcases hk with hk | hk
    · exact Nat.lt_of_lt_of_le (h.fl k (.inl hk)) hm.size
    · exact hm.up hu k hk
theorem Mv.below (h : Kp (Mv N F) w w') (hN : N ≤ w.heap.size) : Below N w w' := h.below hN (fun k hk => hk.1)
end
end Go.Proofs.Ytfhmmiilenonkaa
