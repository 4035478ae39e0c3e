/- Events in memory, in a row of one's own; the walk over branch.Load. -/
import Derived.Test.YtamfpmpooaejkaaGt
import Derived.Test.YtamfpmpooaejkaaEl
import Derived.Maps.AppendAt
import Derived.Shelf.Abstract
import Derived.Shelf.RegionOpen
import Derived.LoopNIn
import Derived.LoopIn
namespace Go.Proofs.Ytamfpmpooaejkaa
open Go.RowKit Go.Shelf
set_option maxRecDepth 1000000
set_option linter.unusedVariables false
attribute [local go_sem] Oper.semAt_some

theorem Try.info45 : (Try.prog.info? 45).map (fun i => (i.zero, i.size, i.bytes)) = some (some (.agg #[.int .i64 0, .int .i64 0, .int .i64 0, .slice none 0 0]), 4, 48) := by kernel_rfl

def evRow (p : Ev × Value) : List Value := [.int .i64 p.1.k, .int .i64 p.1.i, .int .i64 p.1.t, p.2]
def evRows (P : List (Ev × Value)) : List Value := P.flatMap evRow
theorem evRows_append (A B : List (Ev × Value)) : evRows (A ++ B) = evRows A ++ evRows B := by simp [evRows]
theorem evRows_len (P : List (Ev × Value)) : (evRows P).length = P.length * 4 := by
  induction P with
  | nil => rfl
  | cons p P ih =>
    have : evRows (p :: P) = evRow p ++ evRows P := by simp [evRows]
    rw [this, List.length_append, ih, List.length_cons]
    simp [evRow]
    omega

/-- A stamp in memory, in blocks that are nobody else's. -/
def StV (N : Nat) (W : World) (T : Nat → Prop) (v : Value) (p : Ev × Value) : Prop :=
  ∃ a c, p.2 = .slice a p.1.s.length c ∧ RI W p.2 p.1.s ∧ p.1.s.length ≤ 1000000 ∧ ∀ b, a = some b → 0 < p.1.s.length → b.block < W.heap.size ∧ ¬ T b.block ∧ v.ownBlock ≠ some b.block

/-- Events in a row of one's own. -/
def LogR (N : Nat) (W : World) (T : Nat → Prop) (v : Value) (L : List Ev) : Prop :=
  ∃ P : List (Ev × Value), P.map Prod.fst = L ∧ W.ownsRow N 45 4 v L.length (evRows P) ∧ (∀ g, v.ownBlock = some g → ¬ T g) ∧ ∀ p ∈ P, StV N W T v p

theorem RI.stay {w w' : World} {v : Value} {l : List Int} (h : RI w v l) (hk : ∀ a n c, v = .slice (some a) n c → 0 < l.length → a.block < w.heap.size → w'.heap[a.block]? = w.heap[a.block]?) : RI w' v l := by
  obtain ⟨a, cap, rfl, h1, h2, hc⟩ := h
  refine ⟨a, cap, rfl, h1, h2, fun i hi => ?_⟩
  obtain ⟨b, off, rfl, hcell⟩ := hc i hi
  refine ⟨b, off, rfl, ?_⟩
  have hlt : b < w.heap.size := World.block_lt_of_cell? w ⟨b, off + i, none⟩ hcell
  rw [World.cell?_of_block (w := w) (a := ⟨b, off + i, none⟩) (hk ⟨b, off, none⟩ _ _ rfl (by omega) hlt)]
  exact hcell

theorem StV.kept {N : Nat} {W W' : World} {T T' : Nat → Prop} {v : Value} {p : Ev × Value} (h : StV N W T v p) (hk : ∀ b, b < W.heap.size → ¬ T b → v.ownBlock ≠ some b → W'.heap[b]? = W.heap[b]?) (hT : ∀ b, b < W.heap.size → ¬ T b → ¬ T' b) (hs : W.heap.size ≤ W'.heap.size) : StV N W' T' v p := by
  obtain ⟨a, c, e, h1, h2, h3⟩ := h
  refine ⟨a, c, e, h1.stay (fun x n c' he hl _ => ?_), h2, fun b hb hl => ?_⟩
  · rw [e] at he
    cases he
    obtain ⟨g2, g3, g4⟩ := h3 x rfl hl
    exact hk _ g2 g3 g4
  · obtain ⟨g2, g3, g4⟩ := h3 b hb hl
    exact ⟨Nat.lt_of_lt_of_le g2 hs, hT _ g2 g3, g4⟩

theorem LogR.kept {N : Nat} {W W' : World} {T T' : Nat → Prop} {v : Value} {L : List Ev} (h : LogR N W T v L) (hk : ∀ b, b < W.heap.size → ¬ T b → W'.heap[b]? = W.heap[b]?) (hT : ∀ b, b < W.heap.size → ¬ T b → ¬ T' b) (hs : W.heap.size ≤ W'.heap.size) : LogR N W' T' v L := by
  obtain ⟨P, h1, h2, h3, h4⟩ := h
  refine ⟨P, h1, ⟨h2.1, ?_⟩, fun g hg => hT g (World.ownsRow.lt h2 g hg).2 (h3 g hg), fun p hp => (h4 p hp).kept (fun b b2 b3 _ => hk b b2 b3) hT hs⟩
  rcases h2.2 with hn | ⟨g, cap, cur, rfl, hb, hg, rest⟩
  · exact .inl hn
  · refine .inr ⟨g, cap, cur, rfl, hb, ?_, rest⟩
    rw [hk g (Array.getElem?_eq_some_iff.1 hg).1 (h3 g rfl)]
    exact hg

theorem LogR.mv {N : Nat} {W W' : World} {T T' : Nat → Prop} {v : Value} {L : List Ev} (h : LogR N W T v L) (hm : Mv T W T' W') : LogR N W' T' v L :=
  h.kept (fun b b2 b3 => hm.same b b2 b3) (fun b b2 b3 => hm.no b2 b3) hm.size

theorem LogR.nil (N : Nat) (W : World) (T : Nat → Prop) : LogR N W T (.slice none 0 0) [] := ⟨[], rfl, World.ownsRow_nil _ _ _ _, (fun g hg => by cases hg), (fun p hp => by cases hp)⟩

theorem LogR.slice {N : Nat} {W : World} {T : Nat → Prop} {v : Value} {L : List Ev} (h : LogR N W T v L) : ∃ a c, v = .slice a L.length c := by
  obtain ⟨P, h1, h2, _⟩ := h
  rcases h2.2 with ⟨e, e2⟩ | ⟨g, cap, cur, e, _⟩
  · exact ⟨none, 0, by rw [e, e2]⟩
  · exact ⟨_, _, e⟩

/-- An event behind them. -/
theorem LogR.push {N : Nat} {W : World} {T : Nat → Prop} {v : Value} {L : List Ev} (h : LogR N W T v L) (hL : L.length ≤ 1000000) (hN : N ≤ W.heap.size) (hT : ∀ b, T b → b < W.heap.size) (e : Ev) (a : Option Addr) (c : Nat) (g : Nat)
    (hg : ∀ j u, (evRow (e, .slice a e.s.length c))[j]? = some u → W.cell? (Addr.add ⟨g, 0, none⟩ j) = some u) (hri : RI W (.slice a e.s.length c) e.s) (hes : e.s.length ≤ 1000000)
    (hst : ∀ b, a = some b → 0 < e.s.length → b.block < W.heap.size ∧ ¬ T b.block ∧ v.ownBlock ≠ some b.block) :
    ∃ v' W', (Builtin.append_ #[25, 25] 25 #[v, .slice (some ⟨g, 0, none⟩) 1 1]).run Try.prog W = .ok v' W' ∧ LogR N W' T v' (L ++ [e]) ∧ W.grownBy W' v.ownBlock ∧ (∀ r, v.ownBlock = some r → N ≤ r ∧ ¬ T r) ∧ (∃ a' c', v' = .slice a' (L ++ [e]).length c') ∧ (v'.ownBlock = v.ownBlock ∨ v'.ownBlock = some W.heap.size) := by
  obtain ⟨P, h1, h2, h3, h4⟩ := h
  obtain ⟨i0, hi, hz0, hz1, hz2⟩ := info_parts Try.info45
  have hPl : P.length = L.length := by rw [← h1, List.length_map]
  obtain ⟨v', W', r1, r2, r3, r4, r5⟩ := run_append_own_at (P := Try.prog) W N 25 25 45 i0 (.agg #[.int .i64 0, .int .i64 0, .int .i64 0, .slice none 0 0]) 4 48 Try.underlying25 hi hz0 hz1 hz2 rfl (by decide) v L.length (evRows P) h2 ⟨g, 0, none⟩ 1 1 (evRow (e, .slice a e.s.length c)) rfl hg (by intro u hu; simp [evRow] at hu; rcases hu with rfl | rfl | rfl | rfl <;> rfl) (by unfold maxLen; omega) (by omega) hN
  have hown : ∀ r, v.ownBlock = some r → N ≤ r ∧ ¬ T r := fun r hr => ⟨(World.ownsRow.lt h2 r hr).1, h3 r hr⟩
  have hsz := r3.size
  have key : ∀ p, StV N W T v p → StV N W' T v' p := fun p hp => by
    obtain ⟨a1, c1, e1, q1, q2, q3⟩ := hp.kept (W' := W') (T' := T) (fun b b2 b3 b4 => r3.block b b2 (fun e => b4 e.symm)) (fun _ _ h => h) hsz
    obtain ⟨a2, c2, e2, _, _, p3⟩ := hp
    refine ⟨a1, c1, e1, q1, q2, fun b hb hl => ?_⟩
    obtain ⟨g2, g3, g4⟩ := q3 b hb hl
    refine ⟨g2, g3, ?_⟩
    rcases r5 with r5 | r5
    · rw [r5]; exact g4
    · rw [r5]
      intro e9
      rw [e1] at e2
      cases e2
      have h9 := (p3 b hb hl).1
      have : W.heap.size = b.block := Option.some.inj e9
      omega
  refine ⟨v', W', r1, ⟨P ++ [(e, .slice a e.s.length c)], by rw [List.map_append, h1]; rfl, ?_, ?_, ?_⟩, r3, hown, ?_⟩
  · rw [evRows_append, List.length_append]
    have : evRows [(e, Value.slice a e.s.length c)] = evRow (e, .slice a e.s.length c) := by simp [evRows]
    rw [this]
    exact r2
  · intro g' hg'
    rcases r5 with r5 | r5
    · exact h3 g' (r5 ▸ hg')
    · rw [r5] at hg'
      cases hg'
      exact fun ht => by have := hT _ ht; omega
  · intro p hp
    rcases List.mem_append.1 hp with hp | hp
    · exact key p (h4 p hp)
    · simp only [List.mem_cons, List.not_mem_nil, or_false] at hp
      subst hp
      exact key _ ⟨a, c, rfl, hri, hes, hst⟩
  · refine ⟨?_, r5⟩
    rw [List.length_append]
    rcases r2.2 with ⟨e1, e2⟩ | ⟨g', cap, cur, e1, _⟩
    · simp at e2
    · exact ⟨_, _, e1⟩

theorem add0 (g j : Nat) : Addr.add ⟨g, 0, none⟩ j = ⟨g, j, none⟩ := by rw [Go.WideShapes.add_plain]; simp

theorem RI.bz {A B : World} {v : Value} {l : List Int} (h : RI A v l) (hb : Bz A B) : RI B v l := by
  obtain ⟨a, cap, hv, h1, h2, hc⟩ := h
  refine ⟨a, cap, hv, h1, h2, fun i hi => ?_⟩
  obtain ⟨b, off, ha, hcell⟩ := hc i hi
  exact ⟨b, off, ha, hb.cell hcell⟩
theorem boxed_bz {A B : World} {b : Nat} {t : TypeId} {v : Value} (h : Boxed A b t v) (hb : Bz A B) : Boxed B b t v := hb.cells b _ h rfl
theorem boxed_eq {W : World} {b : Nat} {t : TypeId} {u v : Value} (h : Boxed W b t u) (k : Boxed W b t v) : u = v := by
  have := (show W.heap[b]? = _ from h).symm.trans k
  simpa using this
end Go.Proofs.Ytamfpmpooaejkaa
