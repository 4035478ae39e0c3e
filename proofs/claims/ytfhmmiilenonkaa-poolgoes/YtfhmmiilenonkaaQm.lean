/- The document's pool in memory; Is, Put, Done, Held. -/
import Derived.Test.YtfhmmiilenonkaaQk
import Derived.BigRegion
namespace Go.Proofs.Ytfhmmiilenonkaa
open Go.RowKit Go.Shelf
set_option maxRecDepth 1000000
set_option linter.unusedVariables false

variable {S : Nat → Prop} {w w' : World} {r b1 b2 b3 n : Nat} {s : Pq.St Jb}

/-- The document's rows. -/
def RRow (S : Nat → Prop) (w : World) (rs : Array Value) (n : Nat) (s : Pq.St Jb) : Prop := rs.size = n ∧ ∀ v, v < n → ∃ rv L, rs[v]? = some rv ∧ RJ S w rv L ∧ L.map Prod.fst = s.row v
/-- What is held. -/
def RHold (S : Nat → Prop) (w : World) (hs : Array Value) (n : Nat) (s : Pq.St Jb) : Prop := hs.size = n * 6 ∧ ∀ v, v < n → ∃ e : JbP, (∀ j, j < 6 → hs[v * 6 + j]? = (jrow e)[j]?) ∧ RS S w e.2 e.1.s ∧ e.1 = (s.hd v).getD zJ
def RHas (fs : Array Value) (n : Nat) (s : Pq.St Jb) : Prop := fs.size = n ∧ ∀ v, v < n → fs[v]? = some (.bool (s.hd v).isSome)

/-- The document's pool in memory. -/
structure RV (S : Nat → Prop) (w : World) (r b1 b2 b3 n : Nat) (s : Pq.St Jb) (rs hs fs : Array Value) : Prop where
  blk : w.heap[r]? = some (.cells #[.slice (some ⟨b1, 0, none⟩) n n, .slice (some ⟨b2, 0, none⟩) n n, .slice (some ⟨b3, 0, none⟩) n n] 74 (0, 0))
  q1 : w.heap[b1]? = some (.cells rs 82 (0, 0))
  q2 : w.heap[b2]? = some (.cells hs 37 (0, 0))
  q3 : w.heap[b3]? = some (.cells fs 4 (0, 0))
  row : RRow S w rs n s
  hold : RHold S w hs n s
  has : RHas fs n s
  d1 : b1 ≠ r
  d2 : b2 ≠ r
  d3 : b3 ≠ r
  d12 : b1 ≠ b2
  d13 : b1 ≠ b3
  d23 : b2 ≠ b3
  nr : ¬ S r
  n1 : ¬ S b1
  n2 : ¬ S b2
  n3 : ¬ S b3
  n0 : 0 < n
  n64 : n ≤ 64
  ok : s.Ok n

theorem RRow.kept {T : Nat → Prop} {rs : Array Value} (h : RRow S w rs n s) (hk : Kp T w w') (hT : ∀ k, S k → ¬ T k) : RRow S w' rs n s := ⟨h.1, fun v hv => by obtain ⟨rv, L, h1, h2, h3⟩ := h.2 v hv; exact ⟨rv, L, h1, h2.kept hk hT, h3⟩⟩
theorem RHold.kept {T : Nat → Prop} {hs : Array Value} (h : RHold S w hs n s) (hk : Kp T w w') (hT : ∀ k, S k → ¬ T k) : RHold S w' hs n s := ⟨h.1, fun v hv => by obtain ⟨e, h1, h2, h3⟩ := h.2 v hv; exact ⟨e, h1, h2.kept hk hT, h3⟩⟩
theorem RRow.mono {S' : Nat → Prop} {rs : Array Value} (h : RRow S w rs n s) (hS : ∀ k, k < w.heap.size → S k → S' k) : RRow S' w rs n s := ⟨h.1, fun v hv => by obtain ⟨rv, L, h1, h2, h3⟩ := h.2 v hv; exact ⟨rv, L, h1, h2.mono hS, h3⟩⟩
theorem RHold.mono {S' : Nat → Prop} {hs : Array Value} (h : RHold S w hs n s) (hS : ∀ k, k < w.heap.size → S k → S' k) : RHold S' w hs n s := ⟨h.1, fun v hv => by obtain ⟨e, h1, h2, h3⟩ := h.2 v hv; exact ⟨e, h1, h2.mono hS, h3⟩⟩

section
variable {rs hs fs : Array Value}
theorem RV.kept {T : Nat → Prop} (h : RV S w r b1 b2 b3 n s rs hs fs) (hk : Kp T w w') (hT : ∀ k, S k → ¬ T k) (t0 : ¬ T r) (t1 : ¬ T b1) (t2 : ¬ T b2) (t3 : ¬ T b3) : RV S w' r b1 b2 b3 n s rs hs fs :=
  { h with blk := hk.row h.blk t0, q1 := hk.row h.q1 t1, q2 := hk.row h.q2 t2, q3 := hk.row h.q3 t3, row := h.row.kept hk hT, hold := h.hold.kept hk hT }
theorem RV.later (h : RV S w r b1 b2 b3 n s rs hs fs) (hb : Below w.heap.size w w') : RV S w' r b1 b2 b3 n s rs hs fs := h.kept (Kp.of_below (fun _ => False) hb) (fun _ _ h => h) id id id id
/-- What is new may be read, too. -/
theorem RV.mono {S' : Nat → Prop} (h : RV S w r b1 b2 b3 n s rs hs fs) (hS : ∀ k, k < w.heap.size → S k → S' k) (hn : ∀ k, S' k → S k ∨ w.heap.size ≤ k) : RV S' w r b1 b2 b3 n s rs hs fs :=
  have no : ∀ k, k < w.heap.size → ¬ S k → ¬ S' k := fun k hl h1 h2 => (hn k h2).elim h1 (fun h => by omega)
  { h with row := h.row.mono hS, hold := h.hold.mono hS, nr := no _ (row_lt h.blk) h.nr, n1 := no _ (row_lt h.q1) h.n1, n2 := no _ (row_lt h.q2) h.n2, n3 := no _ (row_lt h.q3) h.n3 }
theorem RV.c1 (h : RV S w r b1 b2 b3 n s rs hs fs) : w.cell? ⟨r, 0, none⟩ = some (.slice (some ⟨b1, 0, none⟩) n n) := (cell_row h.blk 0).trans rfl
theorem RV.c2 (h : RV S w r b1 b2 b3 n s rs hs fs) : w.cell? ⟨r, 1, none⟩ = some (.slice (some ⟨b2, 0, none⟩) n n) := (cell_row h.blk 1).trans rfl
theorem RV.c3 (h : RV S w r b1 b2 b3 n s rs hs fs) : w.cell? ⟨r, 2, none⟩ = some (.slice (some ⟨b3, 0, none⟩) n n) := (cell_row h.blk 2).trans rfl
theorem RV.has_at (h : RV S w r b1 b2 b3 n s rs hs fs) {v : Nat} (hv : v < n) : w.cell? ⟨b3, v, none⟩ = some (.bool (s.hd v).isSome) := (cell_row h.q3 v).trans (h.has.2 v hv)
theorem RV.hold_at (h : RV S w r b1 b2 b3 n s rs hs fs) {v : Nat} (hv : v < n) : ∃ e : JbP, JC w b2 (v * 6) e ∧ RS S w e.2 e.1.s ∧ e.1 = (s.hd v).getD zJ := by
  obtain ⟨e, h1, h2, h3⟩ := h.hold.2 v hv
  exact ⟨e, JC.of fun j hj => by rw [cell_row h.q2]; exact h1 j hj, h2, h3⟩
theorem RV.row_at (h : RV S w r b1 b2 b3 n s rs hs fs) {v : Nat} (hv : v < n) : ∃ rv L, w.cell? ⟨b1, v, none⟩ = some rv ∧ RJ S w rv L ∧ L.map Prod.fst = s.row v := by
  obtain ⟨rv, L, h1, h2, h3⟩ := h.row.2 v hv
  exact ⟨rv, L, (cell_row h.q1 v).trans h1, h2, h3⟩
theorem RV.set1 {v : Nat} {rv : Value} {L : List JbP} {L' : List Jb} (h : RV S w r b1 b2 b3 n s rs hs fs) (hv : v < n) (hL : RJ S w rv L) (hL' : L.map Prod.fst = L') :
    RV S (w.setCell ⟨b1, v, none⟩ rv) r b1 b2 b3 n ⟨s.rows.set v L', s.hold⟩ (rs.setIfInBounds v rv) hs fs := by
  have hk : Kp (fun k => k = b1) w (w.setCell ⟨b1, v, none⟩ rv) := (Kp.refl _ w).set _ _ rfl
  have hT : ∀ k, S k → ¬ k = b1 := fun k hk e => h.n1 (e ▸ hk)
  refine { h with blk := hk.row h.blk (fun e => h.d1 e.symm), q1 := row_set h.q1 v rv, q2 := hk.row h.q2 (fun e => h.d12 e.symm), q3 := hk.row h.q3 (fun e => h.d13 e.symm), row := ⟨by simp [h.row.1], fun u hu => ?_⟩, hold := h.hold.kept hk hT, ok := ⟨by simp [h.ok.r], h.ok.h⟩ }
  by_cases e : u = v
  · subst e
    refine ⟨rv, L, by rw [Array.getElem?_setIfInBounds_self_of_lt (by rw [h.row.1]; exact hu)], hL.kept hk hT, ?_⟩
    unfold Pq.St.row
    rw [Pq.getD_set _ _ _ _ _ (by rw [h.ok.r]; exact hu), if_pos rfl]
    exact hL'
  · obtain ⟨rv', M, h1, h2, h3⟩ := h.row.2 u hu
    refine ⟨rv', M, by rw [Array.getElem?_setIfInBounds_ne (fun h => e h.symm)]; exact h1, h2.kept hk hT, ?_⟩
    unfold Pq.St.row
    rw [Pq.getD_set _ _ _ _ _ (by rw [h.ok.r]; exact hv), if_neg e]
    exact h3
/-- What is held is turned, and whether something is. -/
theorem RV.set23 {v : Nat} {e : JbP} {o : Option Jb} (h : RV S w r b1 b2 b3 n s rs hs fs) (hv : v < n) (he : RS S w e.2 e.1.s) (ho : e.1 = o.getD zJ) :
    ∃ hs', RV S ((set6 w b2 (v * 6) e).setCell ⟨b3, v, none⟩ (.bool o.isSome)) r b1 b2 b3 n ⟨s.rows, s.hold.set v o⟩ rs hs' (fs.setIfInBounds v (.bool o.isSome)) := by
  have k2 : Kp (fun k => k = b2) w (set6 w b2 (v * 6) e) := set6_kept _ _ _ _ _ rfl
  have k3 : Kp (fun k => k = b3) (set6 w b2 (v * 6) e) ((set6 w b2 (v * 6) e).setCell ⟨b3, v, none⟩ (.bool o.isSome)) := (Kp.refl _ _).set _ _ rfl
  have kk : Kp (fun k => k = b2 ∨ k = b3) w ((set6 w b2 (v * 6) e).setCell ⟨b3, v, none⟩ (.bool o.isSome)) := (k2.mono (T' := fun k => k = b2 ∨ k = b3) (fun k h => .inl h)).trans k3 (fun k h _ => .inr h)
  have hT : ∀ k, S k → ¬ (k = b2 ∨ k = b3) := fun k hk e => e.elim (fun e => h.n2 (e ▸ hk)) (fun e => h.n3 (e ▸ hk))
  obtain ⟨hs', g1, g2, g3, g4⟩ := set6_row (o := v * 6) h.q2 e
  refine ⟨hs', { h with blk := kk.row h.blk (fun e => e.elim (fun e => h.d2 e.symm) (fun e => h.d3 e.symm)), q1 := kk.row h.q1 (fun e => e.elim h.d12 h.d13), q2 := k3.row g1 h.d23, q3 := row_set (k2.row h.q3 (fun e => h.d23 e.symm)) v _, row := h.row.kept kk hT, hold := ⟨g2.trans h.hold.1, fun u hu => ?_⟩, has := ⟨by simp [h.has.1], fun u hu => ?_⟩, ok := ⟨h.ok.r, by simp [h.ok.h]⟩ }⟩
  · by_cases e9 : u = v
    · subst e9
      refine ⟨e, fun j hj => g3 (by rw [h.hold.1]; omega) j hj, he.kept kk hT, ?_⟩
      unfold Pq.St.hd
      rw [Pq.getD_set _ _ _ _ _ (by rw [h.ok.h]; exact hu), if_pos rfl]
      exact ho
    · obtain ⟨e', h1, h2, h3⟩ := h.hold.2 u hu
      refine ⟨e', fun j hj => by rw [g4 _ (by omega)]; exact h1 j hj, h2.kept kk hT, ?_⟩
      unfold Pq.St.hd
      rw [Pq.getD_set _ _ _ _ _ (by rw [h.ok.h]; exact hv), if_neg e9]
      exact h3
  · unfold Pq.St.hd
    rw [Pq.getD_set _ _ _ _ _ (by rw [h.ok.h]; exact hv)]
    by_cases e9 : u = v
    · subst e9
      rw [Array.getElem?_setIfInBounds_self_of_lt (by rw [h.has.1]; exact hu), if_pos rfl]
    · rw [Array.getElem?_setIfInBounds_ne (fun h => e9 h.symm), if_neg e9]
      exact h.has.2 u hu
/-- What is held is turned; something is held before and after. -/
theorem RV.set2 {v : Nat} {e : JbP} {j : Jb} (h : RV S w r b1 b2 b3 n s rs hs fs) (hv : v < n) (he : RS S w e.2 e.1.s) (hj : s.hd v = some j) :
    ∃ hs', RV S (set6 w b2 (v * 6) e) r b1 b2 b3 n ⟨s.rows, s.hold.set v (some e.1)⟩ rs hs' fs := by
  have k2 : Kp (fun k => k = b2) w (set6 w b2 (v * 6) e) := set6_kept _ _ _ _ _ rfl
  have hT : ∀ k, S k → ¬ (k = b2) := fun k hk e => h.n2 (e ▸ hk)
  obtain ⟨hs', g1, g2, g3, g4⟩ := set6_row (o := v * 6) h.q2 e
  refine ⟨hs', { h with blk := k2.row h.blk (fun e => h.d2 e.symm), q1 := k2.row h.q1 h.d12, q2 := g1, q3 := k2.row h.q3 (fun e => h.d23 e.symm), row := h.row.kept k2 hT, hold := ⟨g2.trans h.hold.1, fun u hu => ?_⟩, has := ⟨h.has.1, fun u hu => ?_⟩, ok := ⟨h.ok.r, by simp [h.ok.h]⟩ }⟩
  · by_cases e9 : u = v
    · subst e9
      refine ⟨e, fun j hj => g3 (by rw [h.hold.1]; omega) j hj, he.kept k2 hT, ?_⟩
      unfold Pq.St.hd
      rw [Pq.getD_set _ _ _ _ _ (by rw [h.ok.h]; exact hu), if_pos rfl]
      rfl
    · obtain ⟨e', h1, h2, h3⟩ := h.hold.2 u hu
      refine ⟨e', fun j hj => by rw [g4 _ (by omega)]; exact h1 j hj, h2.kept k2 hT, ?_⟩
      unfold Pq.St.hd
      rw [Pq.getD_set _ _ _ _ _ (by rw [h.ok.h]; exact hv), if_neg e9]
      exact h3
  · unfold Pq.St.hd
    rw [Pq.getD_set _ _ _ _ _ (by rw [h.ok.h]; exact hv)]
    by_cases e9 : u = v
    · subst e9
      rw [if_pos rfl, h.has.2 u hu, hj]
      rfl
    · rw [if_neg e9]
      exact h.has.2 u hu

set_option maxHeartbeats 2000000 in
theorem is_in (h : RV S w r b1 b2 b3 n s rs hs fs) (v : Int) : Calls Try.prog 45 #[.pointer (some ⟨r, 0, none⟩), .int .i64 v] w fun e w' => e = .returned (.bool (decide (0 ≤ v ∧ v < n))) ∧ w' = w := by
  have c1 := h.c1
  clear h
  by_cases h0 : 0 ≤ v
  · have hd : decide (0 ≤ v) = true := decide_eq_true h0
    by_cases h1 : v < n
    · have hd1 : decide (v < (n : Int)) = true := decide_eq_true h1
      rw [decide_eq_true (show 0 ≤ v ∧ v < n from ⟨h0, h1⟩)]
      go_enter Try.func45, Try.ntmps45
      go_wp2_with fail
      go_ret
      exact ⟨rfl, rfl⟩
    · have hd1 : decide (v < (n : Int)) = false := decide_eq_false h1
      rw [decide_eq_false (show ¬ (0 ≤ v ∧ v < n) from fun h => h1 h.2)]
      go_enter Try.func45, Try.ntmps45
      go_wp2_with fail
      go_ret
      exact ⟨rfl, rfl⟩
  · have hd : decide (0 ≤ v) = false := decide_eq_false h0
    rw [decide_eq_false (show ¬ (0 ≤ v ∧ v < n) from fun h => h0 h.1)]
    go_enter Try.func45, Try.ntmps45
    go_wp2_with fail
    go_ret
    exact ⟨rfl, rfl⟩
theorem is_at (h : RV S w r b1 b2 b3 n s rs hs fs) {v : Nat} (hv : v < n) : Calls Try.prog 45 #[.pointer (some ⟨r, 0, none⟩), .int .i64 (v : Int)] w fun e w' => e = .returned (.bool true) ∧ w' = w := by
  have := is_in h (v : Int)
  rw [decide_eq_true ⟨by omega, by omega⟩] at this
  exact this
theorem is_out (h : RV S w r b1 b2 b3 n s rs hs fs) {v : Int} (hv : v < 0 ∨ (n : Int) ≤ v) : Calls Try.prog 45 #[.pointer (some ⟨r, 0, none⟩), .int .i64 v] w fun e w' => e = .returned (.bool false) ∧ w' = w := by
  have := is_in h v
  rw [decide_eq_false (by omega)] at this
  exact this
end
end Go.Proofs.Ytfhmmiilenonkaa
