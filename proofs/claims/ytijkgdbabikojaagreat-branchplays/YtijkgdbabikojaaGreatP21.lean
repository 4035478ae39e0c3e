/- Texts of the seat, packed: Gh Gi. -/
import Derived.Test.YtijkgdbabikojaaGreatP20
import Derived.Maps.AppendAt
/- Events in memory, in a row of one's own; the walk over branch.Load. -/
namespace Go.Proofs.YtijkgdbabikojaaGreat
open Go.RowKit Go.Shelf
set_option maxRecDepth 1000000
set_option linter.unusedVariables false
attribute [local go_sem] Oper.semAt_some

theorem Tryz.info33 : (Tryz.prog.info? 33).map (fun i => (i.zero, i.size, i.bytes)) = some (some (.agg #[.int .i64 0, .int .i64 0, .int .i64 0, .slice none 0 0]), 4, 48) := by kernel_rfl

def evRow (p : Ev × Value) : List Value := [.int .i64 p.1.k, .int .i64 p.1.i, .int .i64 p.1.t, p.2]
def evRows (P : List (Ev × Value)) : List Value := P.flatMap evRow
theorem evRows_append (A B : List (Ev × Value)) : evRows (A ++ B) = evRows A ++ evRows B := by simp [evRows]
theorem evRows_len (P : List (Ev × Value)) : (evRows P).length = P.length * 4 := by
  induction P with
  | nil => rfl
  | cons p P ih =>
    have : evRows (p :: P) = evRow p ++ evRows P := by simp [evRows]
    rw [this, List.length_append, ih, List.length_cons]
    simp [evRow]
    omega

/-- A stamp in memory, in blocks that are nobody else's. -/
def StV (N : Nat) (W : World) (T : Nat → Prop) (v : Value) (p : Ev × Value) : Prop :=
  ∃ a c, p.2 = .slice a p.1.s.length c ∧ RI W p.2 p.1.s ∧ p.1.s.length ≤ 1000000 ∧ ∀ b, a = some b → 0 < p.1.s.length → N ≤ b.block ∧ b.block < W.heap.size ∧ ¬ T b.block ∧ v.ownBlock ≠ some b.block

/-- Events in a row of one's own. -/
def LogR (N : Nat) (W : World) (T : Nat → Prop) (v : Value) (L : List Ev) : Prop :=
  ∃ P : List (Ev × Value), P.map Prod.fst = L ∧ W.ownsRow N 33 4 v L.length (evRows P) ∧ (∀ g, v.ownBlock = some g → ¬ T g) ∧ ∀ p ∈ P, StV N W T v p

theorem RI.stay {w w' : World} {v : Value} {l : List Int} (h : RI w v l) (hk : ∀ a n c, v = .slice (some a) n c → 0 < l.length → a.block < w.heap.size → w'.heap[a.block]? = w.heap[a.block]?) : RI w' v l := by
  obtain ⟨a, cap, rfl, h1, h2, hc⟩ := h
  refine ⟨a, cap, rfl, h1, h2, fun i hi => ?_⟩
  obtain ⟨b, off, rfl, hcell⟩ := hc i hi
  refine ⟨b, off, rfl, ?_⟩
  have hlt : b < w.heap.size := World.block_lt_of_cell? w ⟨b, off + i, none⟩ hcell
  rw [World.cell?_of_block (w := w) (a := ⟨b, off + i, none⟩) (hk ⟨b, off, none⟩ _ _ rfl (by omega) hlt)]
  exact hcell

theorem StV.kept {N : Nat} {W W' : World} {T T' : Nat → Prop} {v : Value} {p : Ev × Value} (h : StV N W T v p) (hk : ∀ b, N ≤ b → b < W.heap.size → ¬ T b → v.ownBlock ≠ some b → W'.heap[b]? = W.heap[b]?) (hT : ∀ b, b < W.heap.size → ¬ T b → ¬ T' b) (hs : W.heap.size ≤ W'.heap.size) : StV N W' T' v p := by
  obtain ⟨a, c, e, h1, h2, h3⟩ := h
  refine ⟨a, c, e, h1.stay (fun x n c' he hl _ => ?_), h2, fun b hb hl => ?_⟩
  · rw [e] at he
    cases he
    obtain ⟨g1, g2, g3, g4⟩ := h3 x rfl hl
    exact hk _ g1 g2 g3 g4
  · obtain ⟨g1, g2, g3, g4⟩ := h3 b hb hl
    exact ⟨g1, Nat.lt_of_lt_of_le g2 hs, hT _ g2 g3, g4⟩

theorem LogR.kept {N : Nat} {W W' : World} {T T' : Nat → Prop} {v : Value} {L : List Ev} (h : LogR N W T v L) (hk : ∀ b, N ≤ b → b < W.heap.size → ¬ T b → W'.heap[b]? = W.heap[b]?) (hT : ∀ b, b < W.heap.size → ¬ T b → ¬ T' b) (hs : W.heap.size ≤ W'.heap.size) : LogR N W' T' v L := by
  obtain ⟨P, h1, h2, h3, h4⟩ := h
  refine ⟨P, h1, ⟨h2.1, ?_⟩, fun g hg => hT g (World.ownsRow.lt h2 g hg).2 (h3 g hg), fun p hp => (h4 p hp).kept (fun b b1 b2 b3 _ => hk b b1 b2 b3) hT hs⟩
  rcases h2.2 with hn | ⟨g, cap, cur, rfl, hb, hg, rest⟩
  · exact .inl hn
  · refine .inr ⟨g, cap, cur, rfl, hb, ?_, rest⟩
    rw [hk g hb (Array.getElem?_eq_some_iff.1 hg).1 (h3 g rfl)]
    exact hg

theorem LogR.mv {N : Nat} {W W' : World} {T T' : Nat → Prop} {v : Value} {L : List Ev} (h : LogR N W T v L) (hm : Mv T W T' W') : LogR N W' T' v L :=
  h.kept (fun b _ b2 b3 => hm.same b b2 b3) (fun b b2 b3 => hm.no b2 b3) hm.size

theorem LogR.nil (N : Nat) (W : World) (T : Nat → Prop) : LogR N W T (.slice none 0 0) [] := ⟨[], rfl, World.ownsRow_nil _ _ _ _, (fun g hg => by cases hg), (fun p hp => by cases hp)⟩

theorem LogR.slice {N : Nat} {W : World} {T : Nat → Prop} {v : Value} {L : List Ev} (h : LogR N W T v L) : ∃ a c, v = .slice a L.length c := by
  obtain ⟨P, h1, h2, _⟩ := h
  rcases h2.2 with ⟨e, e2⟩ | ⟨g, cap, cur, e, _⟩
  · exact ⟨none, 0, by rw [e, e2]⟩
  · exact ⟨_, _, e⟩

/-- An event behind them. -/
theorem LogR.push {N : Nat} {W : World} {T : Nat → Prop} {v : Value} {L : List Ev} (h : LogR N W T v L) (hL : L.length ≤ 1000000) (hN : N ≤ W.heap.size) (hT : ∀ b, T b → b < W.heap.size) (e : Ev) (a : Option Addr) (c : Nat) (g : Nat)
    (hg : ∀ j u, (evRow (e, .slice a e.s.length c))[j]? = some u → W.cell? (Addr.add ⟨g, 0, none⟩ j) = some u) (hri : RI W (.slice a e.s.length c) e.s) (hes : e.s.length ≤ 1000000)
    (hst : ∀ b, a = some b → 0 < e.s.length → N ≤ b.block ∧ b.block < W.heap.size ∧ ¬ T b.block ∧ v.ownBlock ≠ some b.block) :
    ∃ v' W', (Builtin.append_ #[41, 41] 41 #[v, .slice (some ⟨g, 0, none⟩) 1 1]).run Tryz.prog W = .ok v' W' ∧ LogR N W' T v' (L ++ [e]) ∧ W.grownBy W' v.ownBlock ∧ (∀ r, v.ownBlock = some r → N ≤ r ∧ ¬ T r) ∧ ∃ a' c', v' = .slice a' (L ++ [e]).length c' := by
  obtain ⟨P, h1, h2, h3, h4⟩ := h
  obtain ⟨i0, hi, hz0, hz1, hz2⟩ := info_parts Tryz.info33
  have hPl : P.length = L.length := by rw [← h1, List.length_map]
  obtain ⟨v', W', r1, r2, r3, r4, r5⟩ := run_append_own_at (P := Tryz.prog) W N 41 41 33 i0 (.agg #[.int .i64 0, .int .i64 0, .int .i64 0, .slice none 0 0]) 4 48 Tryz.underlying41 hi hz0 hz1 hz2 rfl (by decide) v L.length (evRows P) h2 ⟨g, 0, none⟩ 1 1 (evRow (e, .slice a e.s.length c)) rfl hg (by intro u hu; simp [evRow] at hu; rcases hu with rfl | rfl | rfl | rfl <;> rfl) (by unfold maxLen; omega) (by omega) hN
  have hown : ∀ r, v.ownBlock = some r → N ≤ r ∧ ¬ T r := fun r hr => ⟨(World.ownsRow.lt h2 r hr).1, h3 r hr⟩
  have hsz := r3.size
  have key : ∀ p, StV N W T v p → StV N W' T v' p := fun p hp => by
    obtain ⟨a1, c1, e1, q1, q2, q3⟩ := hp.kept (W' := W') (T' := T) (fun b b1 b2 b3 b4 => r3.block b b2 (fun e => b4 e.symm)) (fun _ _ h => h) hsz
    obtain ⟨a2, c2, e2, _, _, p3⟩ := hp
    refine ⟨a1, c1, e1, q1, q2, fun b hb hl => ?_⟩
    obtain ⟨g1, g2, g3, g4⟩ := q3 b hb hl
    refine ⟨g1, g2, g3, ?_⟩
    rcases r5 with r5 | r5
    · rw [r5]; exact g4
    · rw [r5]
      intro e9
      rw [e1] at e2
      cases e2
      have h9 := (p3 b hb hl).2.1
      have : W.heap.size = b.block := Option.some.inj e9
      omega
  refine ⟨v', W', r1, ⟨P ++ [(e, .slice a e.s.length c)], by rw [List.map_append, h1]; rfl, ?_, ?_, ?_⟩, r3, hown, ?_⟩
  · rw [evRows_append, List.length_append]
    have : evRows [(e, Value.slice a e.s.length c)] = evRow (e, .slice a e.s.length c) := by simp [evRows]
    rw [this]
    exact r2
  · intro g' hg'
    rcases r5 with r5 | r5
    · exact h3 g' (r5 ▸ hg')
    · rw [r5] at hg'
      cases hg'
      exact fun ht => by have := hT _ ht; omega
  · intro p hp
    rcases List.mem_append.1 hp with hp | hp
    · exact key p (h4 p hp)
    · simp only [List.mem_cons, List.not_mem_nil, or_false] at hp
      subst hp
      exact key _ ⟨a, c, rfl, hri, hes, hst⟩
  · rw [List.length_append]
    rcases r2.2 with ⟨e1, e2⟩ | ⟨g', cap, cur, e1, _⟩
    · simp at e2
    · exact ⟨_, _, e1⟩

/-- Where the k-th ends. -/
def endK (xs : List (Ev × Nat)) : Nat → Nat
  | 0 => 0
  | k + 1 => (xs.getD k (Ev.none, 0)).2
def evK (xs : List (Ev × Nat)) (k : Nat) : List Ev := (xs.take k).map Prod.fst
theorem evK_succ {xs : List (Ev × Nat)} {k : Nat} {x : Ev × Nat} (h : xs[k]? = some x) : evK xs (k + 1) = evK xs k ++ [x.1] := by
  unfold evK
  rw [List.take_add_one, h]
  simp
theorem evK_len {xs : List (Ev × Nat)} {k : Nat} (h : k ≤ xs.length) : (evK xs k).length = k := by
  unfold evK
  rw [List.length_map, List.length_take]
  omega

theorem whW_length (n : Nat) (i : Int) : ∀ (k : Nat) (fs : List (List UInt8 × Nat)), (whW n i k fs).length ≤ fs.length
  | _, [] => by simp [whW]
  | k, x :: r => by
    have ih := whW_length n i (k + 1) r
    rw [whW]
    cases rd x.1 with
    | none => simp
    | some y =>
      simp only
      split
      · simp only [List.length_cons]; omega
      · simp

/-- What Load has when k events are told. -/
structure LdS (n0 : Nat) (w0 : World) (xs : List (Ev × Nat)) (k : Nat) (W : World) (T : Nat → Prop) : Prop where
  bl : ∃ v, Boxed W n0 41 v ∧ LogR (n0 + 2) W T v (evK xs k)
  bs : Boxed W (n0 + 1) 3 (.int .i64 (endK xs k : Nat))
  t0 : ¬ T n0
  t1 : ¬ T (n0 + 1)
  bel : Below n0 w0 W
  hT : ∀ b, b < n0 → ¬ T b
  le : n0 + 2 ≤ W.heap.size

theorem LdS.mv {n0 : Nat} {w0 : World} {xs : List (Ev × Nat)} {k : Nat} {A B : World} {T T' : Nat → Prop} (h : LdS n0 w0 xs k A T) (hm : Mv T A T' B) : LdS n0 w0 xs k B T' := by
  obtain ⟨v, h1, h2⟩ := h.bl
  have hle := h.le
  exact ⟨⟨v, boxed_mv h1 hm h.t0, h2.mv hm⟩, boxed_mv h.bs hm h.t1, hm.no (by omega) h.t0, hm.no (by omega) h.t1, hm.below h.bel h.hT (by omega), fun b hb => hm.no (by omega) (h.hT b hb), Nat.le_trans hle hm.size⟩
end Go.Proofs.YtijkgdbabikojaaGreat

/- The walk over branch.Load. -/
namespace Go.Proofs.YtijkgdbabikojaaGreat
open Go.RowKit Go.Shelf
set_option maxRecDepth 1000000
set_option linter.unusedVariables false
attribute [local go_sem] Oper.semAt_some

/-- What Load and Keep are told of a disk, or of none. -/
structure Dsk (pp : Option Addr) (n : Nat) (i : Int) (B : List UInt8) (w : World) : Prop where
  cnt : Cnt pp n w
  few : n ≤ 65
  len : B.length ≤ 100000
  rd : hasN n i = true → ∀ wx, Below w.heap.size w wx → Calls Tryz.prog 33 #[.pointer pp, .int .i64 i] wx fun e w' => ∃ v, e = .returned v ∧ Dk.RBf wx.heap.size w' v B ∧ Below wx.heap.size wx w'

/-- The events of a branch, with their ends. -/
def whE (n : Nat) (i : Int) (B : List UInt8) : List (Ev × Nat) := if hasN n i = true then whW (n - 1) i 0 (frL B) else []

theorem whE_len (n : Nat) (i : Int) (B : List UInt8) : (whE n i B).length ≤ B.length + 1 := by
  unfold whE
  split
  · have h1 := whW_length (n - 1) i 0 (frL B)
    have h2 := frF_length B (B.length + 1) 0
    unfold frL at h1 ⊢
    omega
  · simp

theorem whole_it {pp : Option Addr} {n : Nat} {i : Int} {B : List UInt8} {w0 : World} (h : Dsk pp n i B w0) (D I : Nat) (T : Nat → Prop) (w : World) (hbl : Below w0.heap.size w0 w) (bd : Boxed w D 25 (.pointer pp)) (bi : Boxed w I 3 (.int .i64 i)) (tD : T D) (tI : T I) (hown : ∀ b, T b → w0.heap.size ≤ b ∧ b < w.heap.size) :
    Itr Tryz.prog 81 #[.pointer (some ⟨D, 0, none⟩), .pointer (some ⟨I, 0, none⟩)] encW (whE n i B) w0.heap.size T w :=
  whole_itr pp n i w0 h.cnt h.few B h.len h.rd D I T w hbl bd bi tD tI hown _ rfl

theorem add0 (g j : Nat) : Addr.add ⟨g, 0, none⟩ j = ⟨g, j, none⟩ := by rw [Go.WideShapes.add_plain]; simp

theorem RI.bz {A B : World} {v : Value} {l : List Int} (h : RI A v l) (hb : Bz A B) : RI B v l := by
  obtain ⟨a, cap, hv, h1, h2, hc⟩ := h
  refine ⟨a, cap, hv, h1, h2, fun i hi => ?_⟩
  obtain ⟨b, off, ha, hcell⟩ := hc i hi
  exact ⟨b, off, ha, hb.cell hcell⟩
theorem boxed_bz {A B : World} {b : Nat} {t : TypeId} {v : Value} (h : Boxed A b t v) (hb : Bz A B) : Boxed B b t v := hb.cells b _ h rfl
theorem boxed_eq {W : World} {b : Nat} {t : TypeId} {u v : Value} (h : Boxed W b t u) (k : Boxed W b t v) : u = v := by
  have := (show W.heap[b]? = _ from h).symm.trans k
  simpa using this

set_option maxHeartbeats 8000000 in
theorem load_any (pp : Option Addr) (n : Nat) (i : Int) (B : List UInt8) (w : World) (h : Dsk pp n i B w) :
    Calls Tryz.prog 10 #[.pointer pp, .int .i64 i] w fun e w' => ∃ a c, e = .returned (.tuple #[.slice a (whE n i B).length c, .int .i64 (endK (whE n i B) (whE n i B).length : Nat)]) ∧ LogR (w.heap.size + 2) w' (fun _ => False) (.slice a (whE n i B).length c) (evK (whE n i B) (whE n i B).length) ∧ Below w.heap.size w w' := by
  have HD : Hid (Dsk pp n i B w) := h
  have HXL : Hid ((whE n i B).length ≤ 100001) := by show _ ≤ _; have := whE_len n i B; have := h.len; omega
  have HIT : Hid _ := @whole_it pp n i B w h
  clear h
  obtain ⟨xs, HX⟩ : ∃ xs, Hid (xs = whE n i B) := ⟨_, rfl⟩
  rw [← HX.out] at HXL HIT ⊢
  clear HX
  refine (callsIn_wide (n := 0)).1 ?_
  refine callsIn_of_wp_marks Tryz.func10 rfl trivial ?_ rfl
  simp only [Tryz.ntmps10, List.size_toArray, List.length_cons, List.length_nil, Nat.reduceAdd, Nat.reduceSub, Array.replicate_succ, Array.replicate_zero, List.push_toArray, List.append_toArray, List.nil_append, List.cons_append]
  gi_wp2_with (refine ⟨trivial, rfl, ?_⟩; refine (callsIn_wide.2 (whole_any _ _ _)).mono ?_; rintro e w' ⟨rfl, rfl⟩)
  have b0 := (((Boxed.new w 41 (.slice none 0 0)).alloc (.cells #[.int .i64 0] 3)).alloc (.cells #[.pointer pp] 25)).alloc (.cells #[.int .i64 i] 3)
  have b1 := ((Boxed.new (w.alloc (.cells #[.slice none 0 0] 41)) 3 (.int .i64 0)).alloc (.cells #[.pointer pp] 25)).alloc (.cells #[.int .i64 i] 3)
  have b2 := (Boxed.new ((w.alloc (.cells #[.slice none 0 0] 41)).alloc (.cells #[.int .i64 0] 3)) 25 (.pointer pp)).alloc (.cells #[.int .i64 i] 3)
  have b3 := Boxed.new (((w.alloc (.cells #[.slice none 0 0] 41)).alloc (.cells #[.int .i64 0] 3)).alloc (.cells #[.pointer pp] 25)) 3 (.int .i64 i)
  simp only [World.size_alloc] at b1 b2 b3
  have hB0 : Below w.heap.size w ((((w.alloc (.cells #[.slice none 0 0] 41)).alloc (.cells #[.int .i64 0] 3)).alloc (.cells #[.pointer pp] 25)).alloc (.cells #[.int .i64 i] 3)) := ((((Below.refl _ w).alloc (Nat.le_refl _) _).alloc (by simp) _).alloc (by simp; omega) _).alloc (by simp; omega) _
  have hsz : ((((w.alloc (.cells #[.slice none 0 0] 41)).alloc (.cells #[.int .i64 0] 3)).alloc (.cells #[.pointer pp] 25)).alloc (.cells #[.int .i64 i] 3)).heap.size = w.heap.size + 4 := by simp
  obtain ⟨W0, hW0⟩ : ∃ W0, (((w.alloc (.cells #[.slice none 0 0] 41)).alloc (.cells #[.int .i64 0] 3)).alloc (.cells #[.pointer pp] 25)).alloc (.cells #[.int .i64 i] 3) = W0 := ⟨_, rfl⟩
  rw [hW0] at b0 b1 b2 b3 hB0 hsz ⊢
  clear hW0
  have HSZ : Hid (W0.heap.size = w.heap.size + 4) := hsz
  refine range_law (P := Tryz.prog) (gf := 81) (lb := #[.pointer (some ⟨w.heap.size + 1 + 1, 0, none⟩), .pointer (some ⟨w.heap.size + 1 + 1 + 1, 0, none⟩)]) rfl (enters_of Tryz.func81 (by kernel_rfl) rfl) (enc := encW) (xs := xs) (n0 := w.heap.size) (T := fun b => b = w.heap.size + 1 + 1 ∨ b = w.heap.size + 1 + 1 + 1)
    (HIT.out _ _ _ W0 hB0 b2 b3 (.inl rfl) (.inr rfl) (fun b hb => by omega)) (fun b hb => by omega) (by omega)
    (fun x F W T args h => by obtain ⟨_, _, rfl, _⟩ := h; rfl)
    (fun k W T => Hid (LdS w.heap.size w xs k W T)) (fun c k W T => False)
    (fun k A TA B TB h hm => h.out.mv hm) (fun c k A TA B TB h _ => h.elim)
    ⟨⟨_, b0, LogR.nil _ _ _⟩, b1, by omega, by omega, hB0, fun b hb => by omega, by omega⟩ ?round ?done (fun c k W T2 _ h => h.elim)
  case round =>
    rintro m l k x args F W T1 TB hxk ⟨sa, sc, rfl, hri, hsa, hsl⟩ ⟨Wf, Tf, HIf, hF, hmF⟩ HI hTB hup hnc hlt
    have hk := (List.getElem?_eq_some_iff.1 hxk).1
    have HEK : Hid _ := evK_succ hxk
    have HEN : Hid (endK xs (k + 1) = x.2) := by
      show (xs.getD k (Ev.none, 0)).2 = x.2
      rw [List.getD_eq_getElem?_getD, hxk]
      rfl
    have hl64 : 0 ≤ x.2 := Nat.zero_le _
    have HFS : Hid (∀ v, Boxed W w.heap.size 41 v → LogR (w.heap.size + 2) W TB v (evK xs k) → ∀ g, v.ownBlock = some g → g < F) := fun v hv hl g hg => by
      obtain ⟨vf, f1, f2⟩ := HIf.out.bl
      have e1 : Boxed W w.heap.size 41 vf := boxed_mv f1 hmF HIf.out.t0
      have e2 : v = vf := by
        have := (show W.heap[w.heap.size]? = _ from hv).symm.trans e1
        simpa using this
      subst e2
      obtain ⟨P, _, p2, _⟩ := f2
      have := (World.ownsRow.lt p2 g hg).2
      omega
    have HRI : Hid (RI W (.slice sa x.1.s.length sc) x.1.s) := hri
    have HTB : Hid (∀ b, TB b ↔ (T1 b ∨ (b = W0.heap.size ∨ b = W0.heap.size + 1))) := fun b => by rw [hTB]
    have HSA : Hid (∀ b, sa = some b → 0 < x.1.s.length → F ≤ b.block ∧ b.block < W.heap.size ∧ ¬ TB b.block) := fun b hb hl => by
      refine ⟨(hsa b hb).1, ?_, ?_⟩
      · obtain ⟨a', c', e', _, _, hcl⟩ := HRI.out
        cases e'
        obtain ⟨bb, off, e2, hcell⟩ := hcl 0 hl
        rw [hb] at e2
        cases e2
        exact World.block_lt_of_cell? W _ hcell
      · intro ht
        rcases (HTB.out _).1 ht with h | h
        · exact (hsa b hb).2 h
        · obtain ⟨o, ho, hc⟩ := hnc _ h
          obtain ⟨a', c', e', _, _, hcl⟩ := HRI.out
          cases e'
          obtain ⟨bb, off, e2, hcell⟩ := hcl 0 hl
          rw [hb] at e2
          cases e2
          obtain ⟨o2, ho2, hc2⟩ := cells_of_cell hcell
          rw [ho] at ho2
          cases ho2
          rw [hc] at hc2
          cases hc2
    have HFN : Hid (w.heap.size + 2 ≤ F) := by show _ ≤ _; have := HIf.out.le; omega
    clear hTB hnc hri hsa HIf hmF
    unfold EvV
    obtain ⟨⟨ek, ei, et, es⟩, en⟩ := x
    simp only at hl64 HEK HEN HRI HSA hsl ⊢
    have HHI : Hid _ := HI.out
    gi_wp2
    refine ⟨HHI.out.mv (Mv.of_below ((Below.refl _ _).alloc (Nat.le_refl _) _)), Rv.of_below ((Below.refl _ _).alloc (Nat.le_refl _) _) (by have := HHI.out.le; omega), fun W2 HI2 hbz => ?_⟩
    have hsz2 : W2.heap.size = W.heap.size + 1 := by rw [hbz.size]; simp
    obtain ⟨v0, g1, g2⟩ := HHI.out.bl
    obtain ⟨v, h1, h2⟩ := HI2.out.bl
    obtain ⟨va0, vc0, hv0⟩ := h2.slice
    subst hv0
    have hvv : v0 = .slice va0 (evK xs k).length vc0 := boxed_eq (boxed_bz (g1.alloc _) hbz) h1
    have HOW : Hid (∀ g, (Value.slice va0 (evK xs k).length vc0).ownBlock = some g → g < F) := by rw [← hvv]; exact HFS.out v0 g1 g2
    have hbx := hbz.cells W.heap.size _ (World.alloc_heap_new W _) rfl
    have z0 := cell_row hbx 0
    have z1 := cell_row hbx 1
    have z2 := cell_row hbx 2
    have z3 := cell_row hbx 3
    have hri2 : RI W2 (.slice sa es.length sc) es := (RI.later HRI.out ((Below.refl _ _).alloc (Nat.le_refl _) _)).bz hbz
    have hB3 : Below W2.heap.size W2 (W2.alloc (.cells #[.int .i64 ek, .int .i64 ei, .int .i64 et, .slice sa es.length sc] 33)) := (Below.refl _ _).alloc (Nat.le_refl _) _
    have h23 := h2.mv (Mv.of_below hB3)
    have hle2 := HI2.out.le
    obtain ⟨v', W4, hrun, hl4, hgr, hown, a', c', hv'⟩ := h23.push (by rw [evK_len (Nat.le_of_lt hk)]; have := HXL.out; omega) (by simp; omega) (fun b hb => by have := hup b hb; simp; omega) ⟨ek, ei, et, es⟩ sa sc W2.heap.size (fun j u hj => by
      rw [add0, cell_of_row _ _ _ _ 33 (0, 0) (World.alloc_heap_new W2 _)]
      simp only [evRow] at hj
      rw [← Array.getElem?_toList]
      exact hj) (hri2.later hB3) hsl (fun b hb hl => by
      obtain ⟨q1, q2, q3⟩ := HSA.out b hb hl
      have q4 := HFN.out
      exact ⟨by omega, by simp; omega, q3, fun e => by have := HOW.out _ e; omega⟩)
    obtain ⟨ln, HLN⟩ : ∃ ln, Hid ((evK xs k ++ [(⟨ek, ei, et, es⟩ : Ev)]).length = ln) := ⟨_, rfl⟩
    rw [HLN.out] at hv'
    subst hv'
    have HL4 : Hid _ := hl4
    have HS2 : Hid _ := HI2.out
    have cl := h1.cell
    have b04 : Boxed W4 w.heap.size 41 (.slice va0 (evK xs k).length vc0) := (hgr.block _ (h1.alloc (.cells #[.int .i64 ek, .int .i64 ei, .int .i64 et, .slice sa es.length sc] 33)).lt (fun e => by have := (hown _ e.symm).1; omega)).trans (h1.alloc _)
    have b14 : Boxed W4 (w.heap.size + 1) 3 (.int .i64 (endK xs k : Nat)) := (hgr.block _ (HI2.out.bs.alloc (.cells #[.int .i64 ek, .int .i64 ei, .int .i64 et, .slice sa es.length sc] 33)).lt (fun e => by have := (hown _ e.symm).1; omega)).trans (HI2.out.bs.alloc _)
    have c04 := b04.cell
    have f04 := b04.frozen
    have b15 := b14.other (B' := w.heap.size) (by omega) (.slice a' ln c')
    have c15 := b15.cell
    have f15 := b15.frozen
    have HB04 : Hid _ := b04
    have HB15 : Hid _ := b15
    have HRV : Hid (Rv w.heap.size TB W2 W4) := (Rv.of_below hB3 (by omega)).trans (Rv.grown hgr (fun r hr => ⟨by have := (hown r hr).1; omega, (hown r hr).2⟩) (by simp; omega))
    have hs4 := hgr.size
    have hs4' : W2.heap.size + 1 ≤ W4.heap.size := by simpa using hs4
    clear b04 b14 b15 h1 h2 h23 g1 g2 hl4 hgr hown hB3 hri2 hbx hvv HOW HFS HSA
    have HSZ2 : Hid _ := hsz2
    clear hsz2 hs4 hs4'
    gi_wp2_with (gi_at_builtin; refine wpListIn_append_run rfl _ _ 41 rfl rfl rfl hrun ?_)
    have hle9 := HS2.out.le
    have hl9 : LogR (w.heap.size + 2) ((W4.setCell ⟨w.heap.size, 0, none⟩ (.slice a' ln c')).setCell ⟨w.heap.size + 1, 0, none⟩ (.int .i64 (en : Nat))) TB (.slice a' ln c') (evK xs k ++ [⟨ek, ei, et, es⟩]) := LogR.kept HL4.out (fun b b1 _ _ => by
      rw [Below.heap_setCell _ _ _ _ (show b ≠ w.heap.size + 1 by omega), Below.heap_setCell _ _ _ _ (show b ≠ w.heap.size by omega)]) (fun _ _ h => h) (by simp)
    rw [← HEK.out] at hl9
    refine ⟨⟨⟨_, (Boxed.set _ HB04.out).other (by omega) _, hl9⟩, ?_, HS2.out.t0, HS2.out.t1, ?_, HS2.out.hT, ?_⟩, ?_⟩
    · rw [HEN.out]
      exact Boxed.set _ HB15.out
    · have hq : Below w.heap.size w W4 := HS2.out.bel.trans HRV.out.below
      exact (hq.setCell (p := ⟨w.heap.size, 0, none⟩) (Nat.le_refl _) _).setCell (p := ⟨w.heap.size + 1, 0, none⟩) (by show _ ≤ w.heap.size + 1; omega) _
    · have := HRV.out.size
      simp
      omega
    · exact HRV.out.trans ((Rv.setCell _ _ (Nat.le_refl _) HS2.out.t0).trans (Rv.setCell _ _ (by omega) HS2.out.t1))
  case done =>
    rintro W T2 HI hold hup hdef hts
    have h2 := HI.out
    obtain ⟨v, h1, hlog⟩ := h2.bl
    have hlen := evK_len (xs := xs) (k := xs.length) (Nat.le_refl _)
    obtain ⟨va0, vc0, hv0⟩ := hlog.slice
    rw [hlen] at hv0
    subst hv0
    rw [HSZ.out] at hdef hts ⊢
    have HTS : Hid _ := hts
    clear hts
    have HLOG : Hid _ := hlog
    have HB0 : Hid _ := h1
    have HB1 : Hid _ := h2.bs
    have HBL : Hid _ := h2.bel
    have HDF : Hid _ := hdef
    clear h1 h2 hlog hdef hold hup hsz hlen HI
    gi_wp2
    have c0 := Boxed.cell HB0.out
    have c1 := Boxed.cell HB1.out
    refine wpIn_mono (Q := fun e a' w' => e = Exit.normal ∧ w' = W.drew ∧ a' = { tmps := #[.pointer pp, .int .i64 i, undef, undef, .slice va0 xs.length vc0, .int .i64 (endK xs xs.length : Nat), .pointer (some ⟨w.heap.size, 0, none⟩), .pointer (some ⟨w.heap.size + 1, 0, none⟩), undef, undef, .pointer pp, .int .i64 i, .func (.func 81) #[] #[.pointer (some ⟨w.heap.size + 1 + 1, 0, none⟩), .pointer (some ⟨w.heap.size + 1 + 1 + 1, 0, none⟩)], undef, undef, undef, undef, undef, undef, undef, .slice va0 xs.length vc0, .int .i64 (endK xs xs.length : Nat)], defers := [{ target := .collected (w.heap.size + 4), args := #[] }] }) ((wpIn_wide (n := 0)).2 (wp_region_held (S := fun wx => wx = W.drew) (by kernel_rfl) ?_)) ?_
    · simp only [List.size_toArray, List.length_cons, List.length_nil, Nat.reduceAdd, Array.replicate_succ, Array.replicate_zero, List.push_toArray, List.nil_append, List.cons_append]
      have hS0 : W.drew = W.drew := rfl
      refine takeD (i := 0) (d := 20) (v := .slice va0 xs.length vc0) (fuel := 3) rfl rfl (by kernel_rfl) (by kernel_rfl) (by kernel_rfl) (fun _ _ _ h => by cases h.1) (.inl ⟨by kernel_rfl, fun wx h => by subst h; go_simp⟩) hS0 ?_
      simp only [List.setIfInBounds_toArray, List.set_cons_succ, List.set_cons_zero]
      refine takeD (i := 1) (d := 21) (v := .int .i64 (endK xs xs.length : Nat)) (fuel := 2) rfl rfl (by kernel_rfl) (by kernel_rfl) (by kernel_rfl) (fun _ _ _ h => by cases h.1) (.inl ⟨by kernel_rfl, fun wx h => by subst h; go_simp⟩) hS0 ?_
      simp only [List.setIfInBounds_toArray, List.set_cons_succ, List.set_cons_zero]
      refine takeD (i := 2) (d := 4) (v := .slice va0 xs.length vc0) (fuel := 1) rfl rfl (by kernel_rfl) (by kernel_rfl) (by kernel_rfl) (fun _ _ _ h => by cases h.1) (.inl ⟨by kernel_rfl, fun _ _ => by kernel_rfl⟩) hS0 ?_
      simp only [List.setIfInBounds_toArray, List.set_cons_succ, List.set_cons_zero]
      refine takeD (i := 3) (d := 5) (v := .int .i64 (endK xs xs.length : Nat)) (fuel := 0) rfl rfl (by kernel_rfl) (by kernel_rfl) (by kernel_rfl) (fun _ _ _ h => by cases h.1) (.inl ⟨by kernel_rfl, fun _ _ => by kernel_rfl⟩) hS0 ?_
      simp only [List.setIfInBounds_toArray, List.set_cons_succ, List.set_cons_zero]
      refine wpAnyH_done (by kernel_rfl) ?_ _
      exact ⟨rfl, rfl, rfl⟩
    · rintro e a' w' ⟨rfl, rfl, rfl⟩
      gi_wp2
      refine ⟨by simp, .inl ⟨_, _, rfl, run_takeDeferred (w := W.drew) HDF.out, ?_⟩⟩
      refine ⟨.tuple #[.slice va0 xs.length vc0, .int .i64 (endK xs xs.length : Nat)], ?_, va0, vc0, rfl, ?_, ?_⟩
      · simp [results, Tryz.f10, go_sem]
      · refine LogR.kept HLOG.out (fun b b1 b2 b3 => ?_) (fun _ _ _ h => h) (by rw [World.size_putObj']; exact Nat.le_refl _)
        by_cases hb : b = w.heap.size + 4
        · subst hb; exact absurd HTS.out b3
        · exact World.putObj_heap_other hb
      · have hq := HBL.out
        exact ⟨hq.os, hq.tape, hq.output, by rw [World.size_putObj']; exact hq.size, fun k hk => (World.putObj_heap_other (by omega)).trans (hq.block k hk)⟩
end Go.Proofs.YtijkgdbabikojaaGreat

