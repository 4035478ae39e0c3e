/- What stores make of a program's disk. -/
import Derived.Test.YtbbmbjlpccdclaaWg
namespace Go.Proofs.Ytbbmbjlpccdclaa
open Go.RowKit
set_option linter.unusedVariables false

/-- A disk's own blocks, and what is new. -/
def Wid (T : Nat → Prop) (w w' : World) : Nat → Prop := fun k => T k ∨ (w.heap.size ≤ k ∧ k < w'.heap.size)

theorem DV.frozen {T : Nat → Prop} {w : World} {p : Nat} {S : DS} {V : Nat → Value} (h : DV T w p S V) (o : Nat) : w.frozen? ⟨p, o, none⟩ = false := by
  obtain ⟨cs, hb, _⟩ := h.blk
  exact frozen_of_row _ _ _ cs 55 hb

theorem set_other (w : World) (p o q : Nat) (u : Value) (h : q ≠ o) : (w.setCell ⟨p, o, none⟩ u).cell? ⟨p, q, none⟩ = w.cell? ⟨p, q, none⟩ :=
  World.cell?_setCell_other _ _ _ _ (fun e => h (by cases e; rfl))

theorem set_same {w : World} {a : Addr} {x : Value} (u : Value) (h : w.cell? a = some x) : (w.setCell a u).cell? a = some u := World.cell?_setCell_same _ _ _ h

theorem set_blk {w : World} {p : Nat} (o : Nat) (u : Value) (h : ∃ cs, w.heap[p]? = some (.cells cs 55 (0, 0)) ∧ cs.size = 134) : ∃ cs, (w.setCell ⟨p, o, none⟩ u).heap[p]? = some (.cells cs 55 (0, 0)) ∧ cs.size = 134 := by
  obtain ⟨cs, h1, h2⟩ := h
  exact ⟨_, heap_setCell_same _ _ _ _ 55 _ h1, by simp [h2]⟩

theorem size_set (w : World) (a : Addr) (u : Value) : (w.setCell a u).heap.size = w.heap.size := by simp [World.setCell]

theorem Kp.set1 (w : World) (p o : Nat) (u : Value) : Kp (fun k => k = p) w (w.setCell ⟨p, o, none⟩ u) := (Kp.refl _ _).set _ _ rfl

/-- The count, the room, the fuse, the power are stored. -/
theorem DV.set {T : Nat → Prop} {w : World} {p : Nat} {S : DS} {V : Nat → Value} (h : DV T w p S V) (o : Nat) (u : Value) (S' : DS) (ho : 130 ≤ o) (hn : S'.n = S.n) (hf : S'.fs = S.fs)
    (h1 : (w.setCell ⟨p, o, none⟩ u).cell? ⟨p, 131, none⟩ = some (.int .i64 S'.room)) (h2 : (w.setCell ⟨p, o, none⟩ u).cell? ⟨p, 132, none⟩ = some (.int .i64 S'.fuse)) (h3 : (w.setCell ⟨p, o, none⟩ u).cell? ⟨p, 133, none⟩ = some (.bool S'.down)) (ho2 : o ≠ 130) :
    DV T (w.setCell ⟨p, o, none⟩ u) p S' V := by
  refine ⟨set_blk _ _ h.blk, h.own, fun k hk => by rw [size_set]; exact h.live k hk, ?_, h1, h2, h3, fun i hi => ?_, h.mine, h.apart⟩
  · rw [set_other _ _ _ _ _ (by omega), hn]
    exact h.cnt
  · obtain ⟨g1, g2, g3⟩ := h.file i hi
    rw [hf]
    refine ⟨by rw [set_other _ _ _ _ _ (by omega)]; exact g1, by rw [set_other _ _ _ _ _ (by omega)]; exact g2, owns_kept (Kp.set1 _ _ _ _) g3 (fun g hg => (h.mine i g hi hg).2)⟩

theorem DV.setRoom {T : Nat → Prop} {w : World} {p : Nat} {S : DS} {V : Nat → Value} (h : DV T w p S V) (r : Nat) : DV T (w.setCell ⟨p, 131, none⟩ (.int .i64 r)) p { S with room := r } V :=
  h.set 131 _ _ (by omega) rfl rfl (set_same _ h.rm) (by rw [set_other _ _ _ _ _ (by omega)]; exact h.fu) (by rw [set_other _ _ _ _ _ (by omega)]; exact h.dn) (by omega)

theorem DV.setFuse {T : Nat → Prop} {w : World} {p : Nat} {S : DS} {V : Nat → Value} (h : DV T w p S V) (r : Int) : DV T (w.setCell ⟨p, 132, none⟩ (.int .i64 r)) p { S with fuse := r } V :=
  h.set 132 _ _ (by omega) rfl rfl (by rw [set_other _ _ _ _ _ (by omega)]; exact h.rm) (set_same _ h.fu) (by rw [set_other _ _ _ _ _ (by omega)]; exact h.dn) (by omega)

theorem DV.setDown {T : Nat → Prop} {w : World} {p : Nat} {S : DS} {V : Nat → Value} (h : DV T w p S V) (r : Bool) : DV T (w.setCell ⟨p, 133, none⟩ (.bool r)) p { S with down := r } V :=
  h.set 133 _ _ (by omega) rfl rfl (by rw [set_other _ _ _ _ _ (by omega)]; exact h.rm) (by rw [set_other _ _ _ _ _ (by omega)]; exact h.fu) (set_same _ h.dn) (by omega)

def putV (V : Nat → Value) (i : Nat) (v : Value) : Nat → Value := fun j => if j = i then v else V j
theorem putV_same (V : Nat → Value) (i : Nat) (v : Value) : putV V i v i = v := by simp [putV]
theorem putV_other (V : Nat → Value) (i j : Nat) (v : Value) (h : j ≠ i) : putV V i v j = V j := by simp [putV, h]

/-- A file is stored. -/
theorem DV.put {T : Nat → Prop} {w w2 : World} {p : Nat} {S : DS} {V : Nat → Value} (h : DV T w p S V) (i : Nat) (hi : i < 65) (v : Value) (f : Fl) (h1 : w2.ownsRow 0 5 1 v f.b.length (bvs f.b)) (h2 : Kp (fun k => (V i).ownBlock = some k) w w2)
    (h3 : v.ownBlock = (V i).ownBlock ∨ ∃ g, v.ownBlock = some g ∧ w.heap.size ≤ g) :
    DV (Wid T w w2) ((w2.setCell ⟨p, i * 2, none⟩ v).setCell ⟨p, i * 2 + 1, none⟩ (.int .i64 f.s)) p { S with fs := putF S.fs i f } (putV V i v) := by
  have hp : ¬ (V i).ownBlock = some p := fun he => (h.mine i p hi he).2 rfl
  have hpl : p < w.heap.size := h.live p h.own
  have hpb := h2.block p hpl hp
  have hcell : ∀ o, w2.cell? ⟨p, o, none⟩ = w.cell? ⟨p, o, none⟩ := fun o => World.cell?_of_block (w := w) hpb
  have hvl := fun g hg => h1.lt g hg
  have hpn : ∀ g, v.ownBlock = some g → g ≠ p := by
    intro g hg
    rcases h3 with h4 | ⟨g', h4, hl⟩
    · rw [h4] at hg
      exact (h.mine i g hi hg).2
    · rw [h4] at hg
      cases hg
      omega
  have hne : ∀ q, q ≠ i * 2 → q ≠ i * 2 + 1 → ((w2.setCell ⟨p, i * 2, none⟩ v).setCell ⟨p, i * 2 + 1, none⟩ (.int .i64 f.s)).cell? ⟨p, q, none⟩ = w.cell? ⟨p, q, none⟩ := fun q q1 q2 => by
    rw [set_other _ _ _ _ _ q2, set_other _ _ _ _ _ q1, hcell]
  obtain ⟨f0, f1, f2⟩ := h.file i hi
  have hb2 : ∃ cs, w2.heap[p]? = some (.cells cs 55 (0, 0)) ∧ cs.size = 134 := by rw [hpb]; exact h.blk
  have hk1 : Kp (fun k => k = p) w2 ((w2.setCell ⟨p, i * 2, none⟩ v).setCell ⟨p, i * 2 + 1, none⟩ (.int .i64 f.s)) := (Kp.set1 _ _ _ _).set _ _ rfl
  refine ⟨set_blk _ _ (set_blk _ _ hb2), .inl h.own, fun k hk => ?_, ?_, ?_, ?_, ?_, fun j hj => ?_, fun j g hj hg => ?_, fun j k g hj hk hjk hg => ?_⟩
  · rw [size_set, size_set]
    rcases hk with hk | hk
    · exact Nat.lt_of_lt_of_le (h.live k hk) h2.size
    · exact hk.2
  · rw [hne _ (by omega) (by omega)]
    exact h.cnt
  · rw [hne _ (by omega) (by omega)]
    exact h.rm
  · rw [hne _ (by omega) (by omega)]
    exact h.fu
  · rw [hne _ (by omega) (by omega)]
    exact h.dn
  · by_cases hji : j = i
    · subst hji
      rw [putV_same]
      show _ ∧ _ = some (Value.int .i64 ((putF S.fs j f j).s : Int)) ∧ World.ownsRow _ _ _ _ _ (putF S.fs j f j).b.length (bvs (putF S.fs j f j).b)
      rw [putF_same]
      refine ⟨?_, ?_, owns_kept hk1 h1 hpn⟩
      · rw [set_other _ _ _ _ _ (by omega)]
        exact set_same (x := V j) _ (by rw [hcell]; exact f0)
      · exact set_same (x := .int .i64 (S.fs j).s) _ (by rw [set_other _ _ _ _ _ (by omega), hcell]; exact f1)
    · rw [putV_other _ _ _ _ hji]
      show _ ∧ _ = some (Value.int .i64 ((putF S.fs i f j).s : Int)) ∧ World.ownsRow _ _ _ _ _ (putF S.fs i f j).b.length (bvs (putF S.fs i f j).b)
      rw [putF_other _ _ _ _ hji]
      obtain ⟨e0, e1, e2⟩ := h.file j hj
      refine ⟨by rw [hne _ (by omega) (by omega)]; exact e0, by rw [hne _ (by omega) (by omega)]; exact e1, ?_⟩
      exact owns_kept hk1 (owns_kept h2 e2 (fun g hg he => h.apart i j g hi hj (by omega) he hg)) (fun g hg => (h.mine j g hj hg).2)
  · by_cases hji : j = i
    · subst hji
      rw [putV_same] at hg
      refine ⟨?_, hpn g hg⟩
      rcases h3 with h4 | ⟨g', h4, hl⟩
      · rw [h4] at hg
        exact .inl (h.mine j g hj hg).1
      · have hg2 := hg
        rw [h4] at hg2
        cases hg2
        exact .inr ⟨hl, (hvl g hg).2⟩
    · rw [putV_other _ _ _ _ hji] at hg
      exact ⟨.inl (h.mine j g hj hg).1, (h.mine j g hj hg).2⟩
  · by_cases hji : j = i
    · subst hji
      rw [putV_same] at hg
      rw [putV_other _ _ _ _ (by omega)]
      rcases h3 with h4 | ⟨g', h4, hl⟩
      · rw [h4] at hg
        exact h.apart j k g hj hk hjk hg
      · intro he
        rw [h4] at hg
        cases hg
        have := h.live g (h.mine k g hk he).1
        omega
    · rw [putV_other _ _ _ _ hji] at hg
      by_cases hki : k = i
      · subst hki
        rw [putV_same]
        intro he
        rcases h3 with h4 | ⟨g', h4, hl⟩
        · rw [h4] at he
          exact h.apart j k g hj hk hjk hg he
        · rw [h4] at he
          cases he
          have := h.live g (h.mine j g hj hg).1
          omega
      · rw [putV_other _ _ _ _ hki]
        exact h.apart j k g hj hk hjk hg
end Go.Proofs.Ytbbmbjlpccdclaa
