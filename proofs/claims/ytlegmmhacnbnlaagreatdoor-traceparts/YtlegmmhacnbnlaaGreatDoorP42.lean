/- Texts of the seat, packed: Yd. -/
import Derived.Test.YtlegmmhacnbnlaaGreatDoorP41
/- What the program's bodiesOf knows between two steps. -/
namespace Go.Proofs.YtlegmmhacnbnlaaGreatDoor

open Go.RowKit Go.Shelf Go.Proofs.YtlegmmhacnbnlaaGreatDoor.Sx

theorem inf68 : (Tryz.prog.info? 148).map (fun i => (i.zero, i.size, i.bytes)) = some (some (.agg #[.string ⟨#[]⟩, .string ⟨#[]⟩, .slice none 0 0, .bool false, .bool false, .slice none 0 0]), 6, 88) := by kernel_rfl

/-- The cells of a node. -/
def ndV (l : Lab) (sv : Option Addr) (sm sc : Nat) (av : Option Addr) (am ac : Nat) : List Value := [.string ⟨l.name.toArray⟩, .string ⟨l.undo.toArray⟩, .slice sv sm sc, .bool l.sub, .bool l.vital, .slice av am ac]

theorem VRd.snoc {P : Nat → Prop} {w : World} {l : Lab} {t : Tr} {sv : Option Addr} {sm sc : Nat} {av : Option Addr} {am ac : Nat} (hs : SAt P w l.after sv sm) (ht : TAt P w true t av 0 am) : ∀ (ks : List (Lab × Tr)) (vs : List (List Value)), VRd P w false (nodesL ks) vs → VRd P w false (nodesL (ks ++ [(l, t)])) (vs ++ [ndV l sv sm sc av am ac])
  | [], vs, h => by
    have : vs = [] := h
    subst this
    exact ⟨rfl, sv, sm, sc, av, am, ac, [], rfl, hs, ht, rfl⟩
  | (l', t') :: ks, vs, h => by
    obtain ⟨h0, sv', sm', sc', av', am', ac', rest, rfl, h1, h2, h3⟩ := h
    exact ⟨h0, sv', sm', sc', av', am', ac', rest ++ [ndV l sv sm sc av am ac], rfl, h1, h2, VRd.snoc hs ht ks rest h3⟩

/-- What bodiesOf knows once k items are looked at: the row of bodies, each body's row of nodes. -/
structure BdS (w : World) (its : List It) (rec : Nat → Tr) (i n k : Nat) (A : World) (P : Nat → Prop) (vs : List Value) (ws : Nat → List (List Value)) : Prop where
  bel : Below w.heap.size w A
  row : A.heap[w.heap.size]? = some (.cells vs.toArray 145 (0, 0))
  len : vs.length = n
  own : ∀ (alt : Nat) (v : Value), vs[alt]? = some v → A.ownsRow w.heap.size 148 6 v (ws alt).length (ws alt).flatten
  rd : ∀ alt, alt < n → VRd P A false (nodesL (kidsT its rec i alt k)) (ws alt)
  ap : ∀ (alt : Nat) (v : Value) (b : Nat), vs[alt]? = some v → v.ownBlock = some b → ¬ P b ∧ w.heap.size < b
  dj : ∀ (alt alt' : Nat) (v v' : Value) (b : Nat), vs[alt]? = some v → vs[alt']? = some v' → v.ownBlock = some b → v'.ownBlock = some b → alt = alt'
  pg : ∀ b, P b → w.heap.size < b ∧ b < A.heap.size

theorem BdS.later {w : World} {its : List It} {rec : Nat → Tr} {i n k : Nat} {A B : World} {P : Nat → Prop} {vs : List Value} {ws : Nat → List (List Value)} (h : BdS w its rec i n k A P vs ws) (hb : Below A.heap.size A B) : BdS w its rec i n k B P vs ws := by
  refine ⟨h.bel.trans (hb.mono h.bel.size), (hb.block _ (Array.getElem?_eq_some_iff.1 h.row).1).trans h.row, h.len, fun alt v hv => own_below (h.own alt v hv) hb, fun alt ha => VRd.keep (fun b _ hl => hb.block b hl) (fun b hb _ => hb) _ _ _ (h.rd alt ha), h.ap, h.dj, fun b hp => ⟨(h.pg b hp).1, Nat.lt_of_lt_of_le (h.pg b hp).2 hb.size⟩⟩

/-- An item that stands elsewhere. -/
theorem BdS.skip {w : World} {its : List It} {rec : Nat → Tr} {i n k : Nat} {A : World} {P : Nat → Prop} {vs : List Value} {ws : Nat → List (List Value)} (h : BdS w its rec i n k A P vs ws) (y : It) (hy : its[k]? = some y) (hno : ¬ (y.inn = (i : Int) ∧ 0 ≤ y.alt ∧ y.alt < (n : Int))) : BdS w its rec i n (k + 1) A P vs ws := by
  refine ⟨h.bel, h.row, h.len, h.own, fun alt ha => ?_, h.ap, h.dj, h.pg⟩
  rw [kidsT, hy]
  simp only
  rw [if_neg (fun hc => hno ⟨hc.1, by omega, by omega⟩), List.append_nil]
  exact h.rd alt ha

theorem BdS.push {w : World} {its : List It} {rec : Nat → Tr} {i n k : Nat} {A B : World} {P : Nat → Prop} {vs : List Value} {ws : Nat → List (List Value)} (h : BdS w its rec i n k A P vs ws) (y : It) (hy : its[k]? = some y) (hin : y.inn = (i : Int)) (alt : Nat) (hal : y.alt = (alt : Int)) (hlt : alt < n)
    (hb : Below A.heap.size A B) (sv : Option Addr) (sm sc : Nat) (av : Option Addr) (am ac : Nat) (hs : SAt (Since A B) B (y.after.map (nameI its)) sv sm) (ht : TAt (Since A B) B true (rec k) av 0 am) (v : Value) (hv : vs[alt]? = some v) (hlen : (ws alt).length ≤ 100000) :
    ∃ u' W3, (Builtin.append_ #[143, 143] 143 #[v, .slice (some ⟨B.heap.size, 0, none⟩) 1 1]).run Tryz.prog (B.alloc (.cells (ndV (labI its y) sv sm sc av am ac).toArray 148)) = .ok u' W3 ∧ (∃ ua m c, u' = .slice ua m c) ∧ (B.alloc (.cells (ndV (labI its y) sv sm sc av am ac).toArray 148)).grownBy W3 v.ownBlock ∧ W3.heap[w.heap.size]? = some (.cells vs.toArray 145 (0, 0)) ∧
      ∃ P' ws', BdS w its rec i n (k + 1) (W3.setCell ⟨w.heap.size, alt, none⟩ u') P' (vs.set alt u') ws' := by
  obtain ⟨i0, hi0, hz0, hz1, hz2⟩ := info_parts inf68
  have hB2 : Below A.heap.size A (B.alloc (.cells (ndV (labI its y) sv sm sc av am ac).toArray 148)) := hb.alloc hb.size _
  have h2 := h.later hB2
  have hzW : (B.alloc (.cells (ndV (labI its y) sv sm sc av am ac).toArray 148)).heap.size = B.heap.size + 1 := by simp
  have hcl : ∀ (j : Nat) (u : Value), (ndV (labI its y) sv sm sc av am ac)[j]? = some u → (B.alloc (.cells (ndV (labI its y) sv sm sc av am ac).toArray 148)).cell? ((⟨B.heap.size, 0, none⟩ : Addr).add j) = some u := by
    intro j u hj
    rw [Go.WideShapes.add_plain, Nat.zero_add, Dg.cell_row (Dg.row_new B (ndV (labI its y) sv sm sc av am ac).toArray 148), ← Array.getElem?_toList]
    exact hj
  obtain ⟨u', W3, hr3, ho3, hg3, _, hat3⟩ := run_append_own_at (P := Tryz.prog) (B.alloc (.cells (ndV (labI its y) sv sm sc av am ac).toArray 148)) w.heap.size 143 143 148 i0 _ 6 _ Tryz.underlying143 hi0 hz0 hz1 hz2 rfl (by decide) v _ _ (h2.own alt v hv) ⟨B.heap.size, 0, none⟩ 1 1 (ndV (labI its y) sv sm sc av am ac) rfl hcl (by intro u hu; simp [ndV] at hu; rcases hu with rfl | rfl | rfl | rfl | rfl | rfl <;> rfl) (by unfold maxLen; omega) (by omega) h2.bel.size
  have hbz := hb.size
  have hwA : w.heap.size < A.heap.size := (Array.getElem?_eq_some_iff.1 h.row).1
  have hne : ∀ b, (b ≤ w.heap.size ∨ P b ∨ Since A B b) → some b ≠ v.ownBlock := by
    intro b hb' e
    obtain ⟨h9, h8⟩ := h.ap alt v b hv e.symm
    rcases hb' with h7 | h7 | h7
    · omega
    · exact h9 h7
    · have := (own_exists (h.own alt v hv) b e.symm).2
      have := h7.1
      omega
  have hr0 : W3.heap[w.heap.size]? = some (.cells vs.toArray 145 (0, 0)) := (hg3.block _ (Array.getElem?_eq_some_iff.1 h2.row).1 (hne _ (.inl (Nat.le_refl _)))).trans h2.row
  obtain ⟨ua, uc, rfl⟩ := own_slice ho3
  refine ⟨_, W3, hr3, ⟨_, _, _, rfl⟩, hg3, hr0, fun b => P b ∨ Since A B b, fun a => if a = alt then ws alt ++ [ndV (labI its y) sv sm sc av am ac] else ws a, ?_⟩
  obtain ⟨u', hu'⟩ : ∃ u', Value.slice ua ((ws alt).length + 1) uc = u' := ⟨_, rfl⟩
  rw [hu'] at ho3 hat3 ⊢
  have hz3 := hg3.size
  have hoth : ∀ b, b ≠ w.heap.size → (W3.setCell ⟨w.heap.size, alt, none⟩ u').heap[b]? = W3.heap[b]? := fun b hb' => Below.heap_setCell _ _ _ _ hb'
  have hkeep : ∀ b, w.heap.size < b → b < (B.alloc (.cells (ndV (labI its y) sv sm sc av am ac).toArray 148)).heap.size → some b ≠ v.ownBlock → (W3.setCell ⟨w.heap.size, alt, none⟩ u').heap[b]? = (B.alloc (.cells (ndV (labI its y) sv sm sc av am ac).toArray 148)).heap[b]? := fun b h1 h3 h4 => (hoth b (by omega)).trans (hg3.block b h3 h4)
  have hub : ∀ b, u'.ownBlock = some b → v.ownBlock = some b ∨ b = B.heap.size + 1 := by
    intro b hb'
    rcases hat3 with h9 | h9
    · exact .inl (h9.symm.trans hb')
    · rw [h9] at hb'
      right
      have := Option.some.inj hb'
      omega
  have hvlt : ∀ (a : Nat) (z : Value) (b : Nat), vs[a]? = some z → z.ownBlock = some b → b < A.heap.size := fun a z b h1 h3 => (own_exists (h.own a z h1) b h3).2
  have halen : alt < vs.length := by rw [h.len]; exact hlt
  have hget : ∀ (a : Nat) (z : Value), (vs.set alt u')[a]? = some z → (a = alt ∧ z = u') ∨ (a ≠ alt ∧ vs[a]? = some z) := by
    intro a z hz
    by_cases hae : a = alt
    · subst hae
      rw [List.getElem?_set_self halen] at hz
      exact .inl ⟨rfl, (Option.some.inj hz).symm⟩
    · rw [List.getElem?_set_ne (Ne.symm hae)] at hz
      exact .inr ⟨hae, hz⟩
  refine ⟨?_, ?_, by rw [List.length_set]; exact h.len, ?_, ?_, ?_, ?_, ?_⟩
  · exact (h2.bel.trans ⟨hg3.os, hg3.tape, hg3.output, hg3.size, fun b hb' => hg3.block b (by omega) (hne b (.inl (by omega)))⟩).setCell (Nat.le_refl _) _
  · have := Dg.row_set hr0 alt u'
    simpa using this
  · intro a z hz
    rcases hget a z hz with ⟨rfl, rfl⟩ | ⟨hae, hz'⟩
    · simp only [if_true]
      have h9 : W3.ownsRow w.heap.size 148 6 z (ws a ++ [ndV (labI its y) sv sm sc av am ac]).length (ws a ++ [ndV (labI its y) sv sm sc av am ac]).flatten := by
        rw [List.length_append, List.flatten_append]
        simpa using ho3
      exact own_agree (G := fun b => b ≠ w.heap.size) hoth h9 (fun b hb' => by
        rcases hub b hb' with h8 | h8
        · have := (h.ap a v b hv h8).2
          omega
        · omega)
    · simp only [if_neg hae]
      exact own_agree (G := fun b => z.ownBlock = some b) (fun b hb' => hkeep b (h.ap a z b hz' hb').2 (by have := hvlt a z b hz' hb'; omega) (fun e => hae (h.dj a alt z v b hz' hv hb' e.symm))) (h2.own a z hz') (fun b hb' => hb')
  · intro a ha
    have hkP : Keeps P (B.alloc (.cells (ndV (labI its y) sv sm sc av am ac).toArray 148)) (W3.setCell ⟨w.heap.size, alt, none⟩ u') := fun b hp hl => hkeep b (h.pg b hp).1 hl (hne b (.inr (.inl hp)))
    have hkS : Keeps (Since A B) B (W3.setCell ⟨w.heap.size, alt, none⟩ u') := fun b hp hl => (hkeep b (by have := hp.1; omega) (by omega) (hne b (.inr (.inr hp)))).trans (((Below.refl B.heap.size B).alloc (Nat.le_refl _) _).block b hl)
    rw [kidsT, hy]
    simp only
    by_cases hae : a = alt
    · subst hae
      simp only [if_true]
      rw [if_pos ⟨hin, hal⟩]
      refine VRd.snoc ?_ ?_ _ _ (VRd.keep hkP (fun b hb' _ => .inl hb') _ _ _ (h2.rd a ha))
      · exact SAt.keep hs hkS (fun b hb' _ => .inr hb')
      · exact TAt.keep hkS (fun b hb' _ => .inr hb') _ _ _ _ _ ht
    · simp only [if_neg hae]
      rw [if_neg (fun hc => hae (by have := hc.2; omega)), List.append_nil]
      exact VRd.keep hkP (fun b hb' _ => .inl hb') _ _ _ (h2.rd a ha)
  · intro a z b hz hb'
    rcases hget a z hz with ⟨rfl, rfl⟩ | ⟨hae, hz'⟩
    · rcases hub b hb' with h8 | h8
      · obtain ⟨h9, h7⟩ := h.ap a v b hv h8
        have := hvlt a v b hv h8
        exact ⟨fun hp => hp.elim h9 (fun hp => by have := hp.1; omega), h7⟩
      · exact ⟨fun hp => hp.elim (fun hp => by have := (h.pg b hp).2; omega) (fun hp => by have := hp.2; omega), by omega⟩
    · obtain ⟨h9, h7⟩ := h.ap a z b hz' hb'
      have := hvlt a z b hz' hb'
      exact ⟨fun hp => hp.elim h9 (fun hp => by have := hp.1; omega), h7⟩
  · intro a a' z z' b hz hz' hb1 hb2
    rcases hget a z hz with ⟨h1, h3⟩ | ⟨hae, h1⟩
    · rcases hget a' z' hz' with ⟨h4, h5⟩ | ⟨hae', h4⟩
      · rw [h1, h4]
      · rw [h3] at hb1
        rcases hub b hb1 with h8 | h8
        · rw [h1]
          exact (h.dj alt a' v z' b hv h4 h8 hb2)
        · have := hvlt a' z' b h4 hb2
          omega
    · rcases hget a' z' hz' with ⟨h4, h5⟩ | ⟨hae', h4⟩
      · rw [h5] at hb2
        rcases hub b hb2 with h8 | h8
        · rw [h4]
          exact (h.dj a alt z v b h1 hv hb1 h8)
        · have := hvlt a z b h1 hb1
          omega
      · exact h.dj a a' z z' b h1 h4 hb1 hb2
  · intro b hp
    have hsz4 : (W3.setCell ⟨w.heap.size, alt, none⟩ u').heap.size = W3.heap.size := by simp
    rw [hsz4]
    rcases hp with hp | hp
    · exact ⟨(h.pg b hp).1, by have := (h.pg b hp).2; omega⟩
    · exact ⟨by have := hp.1; omega, by have := hp.2; omega⟩

end Go.Proofs.YtlegmmhacnbnlaaGreatDoor

