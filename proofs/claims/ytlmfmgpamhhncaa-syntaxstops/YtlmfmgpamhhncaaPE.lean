/- Texts of the seat, packed: Tf Tg Th Ti Tj. -/
import Derived.Test.YtlmfmgpamhhncaaPD
/- The program's writer: marks, names, leanings. -/
namespace Go.Proofs.Ytlmfmgpamhhncaa
open Go.RowKit

def nmT (x : By) : Tok := ⟨1, x, 0⟩
def mkT (x : By) : Tok := ⟨2, x, 0⟩

/-- The writer's block and its tokens. -/
structure WrA (w : World) (wb B : Nat) (v : Value) (l : List Tok) : Prop where
  blk : w.heap[wb]? = some (.cells #[v] 71 (0, 0))
  own : w.ownsRow B 48 3 v l.length (tvs l)
  lt : wb < B
  le : B ≤ w.heap.size

/-- All blocks but the writer's and its row's are as they were. -/
structure Kx (wb : Nat) (v : Value) (w w' : World) : Prop where
  os : w'.os = w.os
  tape : w'.tape = w.tape
  output : w'.output = w.output
  size : w.heap.size ≤ w'.heap.size
  block : ∀ k, k < w.heap.size → k ≠ wb → some k ≠ v.ownBlock → w'.heap[k]? = w.heap[k]?

/-- Tokens were put behind the writer's. -/
def Wrote (wb B : Nat) (v : Value) (l : List Tok) (w : World) (new : List Tok) (w' : World) : Prop :=
  ∃ v', WrA w' wb B v' (l ++ new) ∧ Kx wb v w w' ∧ (v'.ownBlock = v.ownBlock ∨ ∃ q, v'.ownBlock = some q ∧ w.heap.size ≤ q)

theorem WrA.below {w w' : World} {wb B : Nat} {v : Value} {l : List Tok} (h : WrA w wb B v l) (hb : Below w.heap.size w w') : WrA w' wb B v l := by
  have hlt := (Array.getElem?_eq_some_iff.1 h.blk).1
  refine ⟨(hb.block wb hlt).trans h.blk, ?_, h.lt, by have := hb.size; have := h.le; omega⟩
  exact own_block h.own (fun g hg => hb.block g (h.own.lt g hg).2)

theorem Wrote.none {wb B : Nat} {v : Value} {l : List Tok} {w : World} (h : WrA w wb B v l) : Wrote wb B v l w [] w :=
  ⟨v, by rw [List.append_nil]; exact h, ⟨rfl, rfl, rfl, Nat.le_refl _, fun _ _ _ _ => rfl⟩, .inl rfl⟩

theorem Wrote.after {wb B : Nat} {v : Value} {l : List Tok} {w w1 w2 : World} {new : List Tok} (hb : Below w.heap.size w w1) (h : Wrote wb B v l w1 new w2) : Wrote wb B v l w new w2 := by
  obtain ⟨v', h1, h2, h3⟩ := h
  have hz := hb.size
  refine ⟨v', h1, ⟨h2.os.trans hb.os, h2.tape.trans hb.tape, h2.output.trans hb.output, by have := h2.size; omega, fun k hk h4 h5 => (h2.block k (by omega) h4 h5).trans (hb.block k hk)⟩, ?_⟩
  rcases h3 with h | ⟨q, hq, hl⟩
  · exact .inl h
  · exact .inr ⟨q, hq, by omega⟩

theorem Wrote.before {wb B : Nat} {v : Value} {l : List Tok} {w w1 w2 : World} {new : List Tok} (h : Wrote wb B v l w new w1) (hb : Below w1.heap.size w1 w2) : Wrote wb B v l w new w2 := by
  obtain ⟨v', h1, h2, h3⟩ := h
  have hz := hb.size
  exact ⟨v', h1.below hb, ⟨hb.os.trans h2.os, hb.tape.trans h2.tape, hb.output.trans h2.output, by have := h2.size; omega, fun k hk h4 h5 => (hb.block k (by have := h2.size; omega)).trans (h2.block k hk h4 h5)⟩, h3⟩

theorem Wrote.trans {wb B : Nat} {v v1 : Value} {l : List Tok} {w w1 w2 : World} {a b : List Tok} (k1 : Kx wb v w w1) (o1 : v1.ownBlock = v.ownBlock ∨ ∃ q, v1.ownBlock = some q ∧ w.heap.size ≤ q) (h : Wrote wb B v1 (l ++ a) w1 b w2) : Wrote wb B v l w (a ++ b) w2 := by
  obtain ⟨v2, h2, k2, o2⟩ := h
  have hz1 := k1.size
  have hz2 := k2.size
  refine ⟨v2, by rw [← List.append_assoc]; exact h2, ⟨k2.os.trans k1.os, k2.tape.trans k1.tape, k2.output.trans k1.output, by omega, fun k hk h4 h5 => ?_⟩, ?_⟩
  · rw [k2.block k (by omega) h4 (fun he => ?_), k1.block k hk h4 h5]
    rcases o1 with h | ⟨q, hq, hl⟩
    · rw [h] at he; exact h5 he
    · rw [hq] at he; simp at he; omega
  · rcases o2 with h | ⟨q, hq, hl⟩
    · rw [h]; exact o1
    · exact .inr ⟨q, hq, by omega⟩

theorem Kx.row {wb : Nat} {v : Value} {w w' : World} (h : Kx wb v w w') {b : Nat} {x : Obj} (hb : w.heap[b]? = some x) (h1 : b ≠ wb) (h2 : some b ≠ v.ownBlock) : w'.heap[b]? = some x :=
  (h.block b (Array.getElem?_eq_some_iff.1 hb).1 h1 h2).trans hb

theorem append_tok_at {W : World} {ops : Array Oper} {rest : List Oper} {o : Oper} {a : Act} {Q : Exit → Act → World → Prop} (hgd : o.guard = none) (s x : Operand)
    (ho : o.op = .call { callee := .builtin .append, args := #[s, x], argTypes := #[40, 40] }) (B : Nat) (v : Value) (l : List Tok) (hs : a.eval s = v) (hown : W.ownsRow B 48 3 v l.length (tvs l))
    (t : Tok) (A : Addr) (hx : a.eval x = .slice (some A) 1 1) (hcells : ∀ j u, (tv t)[j]? = some u → W.cell? (A.add j) = some u) (hl : l.length ≤ 1000000000) (hB : B ≤ W.heap.size)
    (h : ∀ g cap w', w'.ownsRow B 48 3 (.slice (some ⟨g, 0, none⟩) (l.length + 1) cap) (l ++ [t]).length (tvs (l ++ [t])) → W.grownBy w' v.ownBlock → (some g = v.ownBlock ∨ g = W.heap.size) → wpList Try.prog ops Q rest (a.put o.dst (.slice (some ⟨g, 0, none⟩) (l.length + 1) cap)) w') : wpList Try.prog ops Q (o :: rest) a W := by
  obtain ⟨i0, hi, hz0, hz1, hz2⟩ := info_parts Try.info48
  refine wpList_append_own_at _ hgd s x 40 ho B 48 i0 _ 3 32 Try.underlying40 hi hz0 hz1 hz2 rfl (by decide) v l.length (tvs l) hs hown A 1 1 (tv t) hx rfl hcells (tv_one_cell t) (by unfold maxLen; omega) (by omega) hB ?_
  intro v' w' hown' hg _ hat
  have ho' : w'.ownsRow B 48 3 v' (l ++ [t]).length (tvs (l ++ [t])) := by rw [tvs_append, tvs_one]; simpa using hown'
  obtain ⟨g, cap, rfl, _⟩ := last_tok ho'
  refine h g cap w' ho' hg ?_
  rcases hat with h | h
  · exact .inl h
  · simp [Value.ownBlock] at h; exact .inr h

/-- A token was put: the row is stored. -/
theorem wr_push {W w3 : World} {wb B g cap : Nat} {v : Value} {l : List Tok} {t : Tok} {o : Obj} (h : WrA W wb B v l) (ho : w3.ownsRow B 48 3 (.slice (some ⟨g, 0, none⟩) (l.length + 1) cap) (l ++ [t]).length (tvs (l ++ [t]))) (hg : (W.alloc o).grownBy w3 v.ownBlock)
    (hat : some g = v.ownBlock ∨ g = (W.alloc o).heap.size) : w3.heap[wb]? = some (.cells #[v] 71 (0, 0)) ∧ Wrote wb B v l W [t] (w3.setCell ⟨wb, 0, none⟩ (.slice (some ⟨g, 0, none⟩) (l.length + 1) cap)) := by
  have hwb := (Array.getElem?_eq_some_iff.1 h.blk).1
  have hlt := h.lt
  have hle := h.le
  have hb3 : w3.heap[wb]? = some (.cells #[v] 71 (0, 0)) := by
    rw [hg.block wb (by simp; omega) (fun he => by have := (h.own.lt _ he.symm).1; omega), Below.heap_alloc _ _ _ hwb]
    exact h.blk
  have hz : W.heap.size ≤ w3.heap.size := by have := hg.size; simp at this; omega
  refine ⟨hb3, .slice (some ⟨g, 0, none⟩) (l.length + 1) cap, ⟨row_set hb3 0 _, ownsRow_setCell_below ho hlt _, hlt, by simp; omega⟩, ⟨hg.os, hg.tape, hg.output, by simpa using hz, fun k hk h1 h2 => ?_⟩, ?_⟩
  · rw [Below.heap_setCell w3 ⟨wb, 0, none⟩ _ k h1, hg.block k (by simp; omega) h2, Below.heap_alloc _ _ _ hk]
  · rcases hat with h | h
    · exact .inl h
    · exact .inr ⟨g, rfl, by rw [h]; simp⟩

set_option maxRecDepth 1000000 in
set_option maxHeartbeats 1000000 in
theorem mark_wr (w : World) (wb B : Nat) (v : Value) (l : List Tok) (x : By) (h : WrA w wb B v l) (hl : l.length ≤ 1000000000) :
    Calls Try.prog 62 #[.pointer (some ⟨wb, 0, none⟩), .string ⟨x.toArray⟩] w fun e w' => e = .returned (.tuple #[]) ∧ Wrote wb B v l w [mkT x] w' := by
  have c0 := (cell_row h.blk 0).trans rfl
  have hle := h.le
  have HW : Hid _ := h
  have ho := h.own
  go_enter Try.func62, Try.ntmps62
  go_wp2_with (at_builtin; refine append_tok_at rfl _ _ rfl B v l rfl (ho.alloc _) (mkT x) ⟨w.heap.size, 0, none⟩ rfl (new_cells w [.int .i64 2, .string ⟨x.toArray⟩, .int .i64 0] 48) hl (by simp; omega) ?_; intro g cap w3 ho3 hg3 hat3; obtain ⟨hb3, hwr⟩ := wr_push HW.out ho3 hg3 hat3; have d0 := (cell_row hb3 0).trans rfl; have df := froz_row hb3 0)
  go_end0
  exact ⟨rfl, hwr⟩

/-- Blocks that the writer leaves alone. -/
def Far (wb : Nat) (v : Value) (b : Nat) : Prop := b ≠ wb ∧ some b ≠ v.ownBlock

set_option maxRecDepth 1000000 in
set_option maxHeartbeats 2000000 in
theorem names_wr (w : World) (wb B : Nat) (v : Value) (l : List Tok) (xs : List By) (a : Option Addr) (c : Nat) (h : WrA w wb B v l) (hs : SAt (Far wb v) w xs a xs.length) (hl : l.length + xs.length ≤ 1000000000) :
    Calls Try.prog 34 #[.pointer (some ⟨wb, 0, none⟩), .slice a xs.length c] w fun e w' => e = .returned (.tuple #[]) ∧ Wrote wb B v l w (xs.map nmT) w' := by
  go_enter Try.func34, Try.ntmps34
  go_wp2
  go_loopw [5, 8] (fun _ iv wr => ∃ (k : Nat), k ≤ xs.length ∧ iv = .int .i64 k ∧ Hid (Wrote wb B v l w ((xs.take k).map nmT) wr)) (fun _ iv _ => xs.length - (intOf iv).toNat)
  case atStart => exact ⟨0, Nat.zero_le _, rfl, Wrote.none h⟩
  case round =>
    obtain ⟨k, hk, rfl, HW⟩ := hrel
    by_cases hlt : k < xs.length
    · obtain ⟨x, hx⟩ : ∃ x, xs[k]? = some x := ⟨_, List.getElem?_eq_getElem hlt⟩
      obtain ⟨b, off, rfl, hfar, hc⟩ := hs.2 k x hx
      obtain ⟨v1, hw1, k1, o1⟩ := HW.out
      have d0 : wr.cell? ⟨b, off + k, none⟩ = some (.string ⟨x.toArray⟩) := (World.cell?_of_block (a := ⟨b, off + k, none⟩) (k1.block b (lt_of_cell? hc) hfar.1 hfar.2)).trans hc
      have c0 := (cell_row hw1.blk 0).trans rfl
      have hle := hw1.le
      have HWA : Hid _ := hw1
      have ho := hw1.own
      have hll : (l ++ (xs.take k).map nmT).length ≤ 1000000000 := by simp; omega
      have htk : Hid (((xs.take (k + 1)).map nmT) = (xs.take k).map nmT ++ [nmT x]) := by
        show _ = _
        rw [List.take_add_one, hx]; simp
      have hlt' : (k : Int) < (xs.length : Int) := by omega
      obtain ⟨L0, hL0⟩ : ∃ L0, l ++ (xs.take k).map nmT = L0 := ⟨_, rfl⟩
      rw [hL0] at ho hll HWA
      clear hx hw1 hs h
      go_wp2_with (at_builtin; refine append_tok_at rfl _ _ rfl B v1 L0 rfl (ho.alloc _) (nmT x) ⟨wr.heap.size, 0, none⟩ rfl (new_cells wr [.int .i64 1, .string ⟨x.toArray⟩, .int .i64 0] 48) hll (by simp; omega) ?_; intro g cap w3 ho3 hg3 hat3; obtain ⟨hb3, hwr⟩ := wr_push HWA.out ho3 hg3 hat3; have q0 := (cell_row hb3 0).trans rfl; have qf := froz_row hb3 0)
      go_roundw
      case rel =>
        refine ⟨k + 1, by omega, by go_num, ?_⟩
        show Wrote _ _ _ _ _ _ _
        rw [htk.out]
        refine Wrote.trans k1 o1 ?_
        rw [hL0]
        exact hwr
      case measure => simp [intOf]; omega
    · have hkl : k = xs.length := by omega
      subst hkl
      have hw := HW.out
      rw [List.take_length] at hw
      go_wp2
      go_end0
      exact ⟨rfl, hw⟩

def pMore (xs : List By) : List Tok := xs.flatMap fun y => [mkT mAnd, nmT y]

/-- Leanings, as tokens. -/
def pLean : List By → List Tok
  | [] => []
  | x :: r => nmT wAfter :: nmT x :: pMore r

theorem pLean_snoc (xs : List By) (x : By) : pLean (xs ++ [x]) = pLean xs ++ (if xs = [] then [nmT wAfter, nmT x] else [mkT mAnd, nmT x]) := by
  cases xs with
  | nil => rfl
  | cons y r => simp [pLean, pMore]

theorem pLean_len (xs : List By) : (pLean xs).length ≤ 2 * xs.length := by
  cases xs with
  | nil => simp [pLean]
  | cons y r =>
    simp only [pLean, pMore, List.length_cons, List.length_flatMap]
    have : (r.map fun _ => 2).sum = 2 * r.length := by
      induction r with
      | nil => rfl
      | cons z r ih => simp at ih ⊢; omega
    simp at this ⊢
    omega

/-- A slice of texts that the call itself has just laid. -/
theorem lit_far {w : World} {wb B : Nat} {v : Value} {l : List Tok} (h : WrA w wb B v l) (xs : List By) : SAt (Far wb v) (w.alloc (.cells (svs xs).toArray 9)) xs (some ⟨w.heap.size, 0, none⟩) xs.length := by
  have hwb := (Array.getElem?_eq_some_iff.1 h.blk).1
  refine ⟨rfl, fun i x hi => ⟨w.heap.size, 0, rfl, ⟨by omega, fun he => by have := (h.own.lt _ he.symm).2; omega⟩, ?_⟩⟩
  have := new_cells w (svs xs) 9 i (.string ⟨x.toArray⟩) (by simp [svs, hi])
  rw [add_zero'] at this
  rw [Nat.zero_add]
  exact this

set_option maxRecDepth 1000000 in
set_option maxHeartbeats 2000000 in
theorem leanings_wr (w : World) (wb B : Nat) (v : Value) (l : List Tok) (xs : List By) (a : Option Addr) (c : Nat) (h : WrA w wb B v l) (hs : SAt (Far wb v) w xs a xs.length) (hl : l.length + 2 * xs.length ≤ 100000000) :
    Calls Try.prog 83 #[.pointer (some ⟨wb, 0, none⟩), .slice a xs.length c] w fun e w' => e = .returned (.tuple #[]) ∧ Wrote wb B v l w (pLean xs) w' := by
  go_enter Try.func83, Try.ntmps83
  go_wp2
  go_loopw [4, 5, 8] (fun _ _ iv wr => ∃ (k : Nat), k ≤ xs.length ∧ iv = .int .i64 k ∧ Hid (Wrote wb B v l w (pLean (xs.take k)) wr)) (fun _ _ iv _ => xs.length - (intOf iv).toNat)
  case atStart => exact ⟨0, Nat.zero_le _, rfl, Wrote.none h⟩
  case round =>
    obtain ⟨k, hk, rfl, HW⟩ := hrel
    by_cases hlt : k < xs.length
    · obtain ⟨x, hx⟩ : ∃ x, xs[k]? = some x := ⟨_, List.getElem?_eq_getElem hlt⟩
      obtain ⟨b, off, rfl, hfar, hc⟩ := hs.2 k x hx
      obtain ⟨v1, hw1, k1, o1⟩ := HW.out
      have d0 : wr.cell? ⟨b, off + k, none⟩ = some (.string ⟨x.toArray⟩) := (World.cell?_of_block (a := ⟨b, off + k, none⟩) (k1.block b (lt_of_cell? hc) hfar.1 hfar.2)).trans hc
      have hpl := pLean_len (xs.take k)
      have hlt' : (k : Int) < (xs.length : Int) := by omega
      have HTK : Hid (xs.take (k + 1) = xs.take k ++ [x]) := by show _ = _; rw [List.take_add_one, hx]; rfl
      have hl0 : (l ++ pLean (xs.take k)).length ≤ 1000000 * 200 := by simp at hpl ⊢; omega
      obtain ⟨L0, hL0⟩ : ∃ L0, l ++ pLean (xs.take k) = L0 := ⟨_, rfl⟩
      rw [hL0] at hw1 hl0
      -- behind the word, or the mark, the name
      have two : ∀ (w2 : World) (t : Tok), Wrote wb B v1 L0 wr [t] w2 → Calls Try.prog 34 #[.pointer (some ⟨wb, 0, none⟩), .slice (some ⟨w2.heap.size, 0, none⟩) 1 1] (w2.alloc (.cells #[.string ⟨x.toArray⟩] 9)) fun e w' => e = .returned (.tuple #[]) ∧ Wrote wb B v1 L0 wr [t, nmT x] w' := by
        rintro w2 t ⟨v2, hw2, k2, o2⟩
        refine (names_wr (w2.alloc (.cells #[.string ⟨x.toArray⟩] 9)) wb B v2 (L0 ++ [t]) [x] _ 1 (hw2.below ((Below.refl _ _).alloc (Nat.le_refl _) _)) (lit_far hw2 [x]) (by simp; omega)).mono ?_
        rintro e w3 ⟨rfl, h3⟩
        exact ⟨rfl, Wrote.trans (a := [t]) (b := [nmT x]) k2 o2 (Wrote.after ((Below.refl _ _).alloc (Nat.le_refl _) _) h3)⟩
      have HT : Hid _ := two
      clear two hx
      by_cases hk0 : k = 0
      · subst hk0
        rw [Nat.add_zero] at d0
        have M1 : Hid _ := names_wr (wr.alloc (.cells #[.string ⟨wAfter.toArray⟩] 9)) wb B v1 L0 [wAfter] (some ⟨wr.heap.size, 0, none⟩) 1 (hw1.below ((Below.refl _ _).alloc (Nat.le_refl _) _)) (lit_far hw1 [wAfter]) (by simp; omega)
        go_wp2_with fail
        refine Calls.mono M1.out ?_
        rintro e w2 ⟨rfl, h2⟩
        have h2' := Wrote.after ((Below.refl _ _).alloc (Nat.le_refl _) _) h2
        go_wp2_with fail
        refine Calls.mono (HT.out w2 _ h2') ?_
        rintro e w3 ⟨rfl, h3⟩
        go_wp2_with fail
        go_roundw
        case rel =>
          refine ⟨1, by omega, by go_num, ?_⟩
          show Wrote _ _ _ _ _ _ _
          rw [HTK.out, pLean_snoc]
          refine Wrote.trans k1 o1 ?_
          rw [hL0]
          exact h3
        case measure => simp [intOf]; omega
      · have hk0' : ((k : Int) == 0) = false := by simp; omega
        have M1 : Hid _ := mark_wr wr wb B v1 L0 mAnd hw1 (by omega)
        go_wp2_with fail
        refine Calls.mono M1.out ?_
        rintro e w2 ⟨rfl, h2⟩
        go_wp2_with fail
        refine Calls.mono (HT.out w2 _ h2) ?_
        rintro e w3 ⟨rfl, h3⟩
        go_wp2_with fail
        go_roundw
        case rel =>
          refine ⟨k + 1, by omega, by go_num, ?_⟩
          show Wrote _ _ _ _ _ _ _
          rw [HTK.out, pLean_snoc, if_neg (by intro hh; have := congrArg List.length hh; simp only [List.length_take, List.length_nil] at this; omega)]
          refine Wrote.trans k1 o1 ?_
          rw [hL0]
          exact h3
        case measure => simp [intOf]; omega
    · have hkl : k = xs.length := by omega
      subst hkl
      have hw := HW.out
      rw [List.take_length] at hw
      go_wp2
      go_end0
      exact ⟨rfl, hw⟩
end Go.Proofs.Ytlmfmgpamhhncaa

/- The program's writer: steps, nodes, bodies. -/
namespace Go.Proofs.Ytlmfmgpamhhncaa
open Go.RowKit

/-- A step, as tokens. -/
def pStep (l : Lab) : List Tok := [nmT wStep, nmT l.name] ++ ((if l.undo = [] then [] else [nmT wUndo, nmT l.undo]) ++ (pLean l.after ++ [mkT mEnd]))

/-- Nodes, or bodies (the first one without 'or'), as tokens. -/
def pr : Bool → Tr → List Tok
  | _, .e => []
  | f, .b x r => (if f then [] else [nmT wOr]) ++ (mkT mIn :: (pr true x ++ (mkT mOut :: pr false r)))
  | f, .n l t r => (if l.sub then [nmT (if l.vital then wVital else wLoose), nmT wSub, nmT l.name] ++ (pLean l.after ++ (mkT mOpen :: (pr true t ++ [mkT mShut]))) else pStep l) ++ pr f r

theorem far_next {wb : Nat} {v v' : Value} {w w' : World} (k : Kx wb v w w') (o : v'.ownBlock = v.ownBlock ∨ ∃ q, v'.ownBlock = some q ∧ w.heap.size ≤ q) : Keeps (Far wb v) w w' ∧ ∀ b, Far wb v b → b < w.heap.size → Far wb v' b := by
  refine ⟨fun b hb hl => k.block b hl hb.1 hb.2, fun b hb hl => ⟨hb.1, ?_⟩⟩
  rcases o with h | ⟨q, hq, hl'⟩
  · rw [h]; exact hb.2
  · rw [hq]; simp; omega

theorem names_lit (w : World) (wb B : Nat) (v : Value) (l : List Tok) (xs : List By) (h : WrA w wb B v l) (hl : l.length + xs.length ≤ 1000000000) :
    Calls Try.prog 34 #[.pointer (some ⟨wb, 0, none⟩), .slice (some ⟨w.heap.size, 0, none⟩) xs.length xs.length] (w.alloc (.cells (svs xs).toArray 9)) fun e w' => e = .returned (.tuple #[]) ∧ Wrote wb B v l w (xs.map nmT) w' := by
  refine (names_wr _ wb B v l xs _ xs.length (h.below ((Below.refl _ _).alloc (Nat.le_refl _) _)) (lit_far h xs) hl).mono ?_
  rintro e w' ⟨rfl, hw⟩
  exact ⟨rfl, Wrote.after ((Below.refl _ _).alloc (Nat.le_refl _) _) hw⟩

theorem box_far {w : World} {wb B : Nat} {v : Value} {l : List Tok} (h : WrA w wb B v l) : Far wb v w.heap.size := by
  have hwb := (Array.getElem?_eq_some_iff.1 h.blk).1
  exact ⟨by omega, fun he => by have := (h.own.lt _ he.symm).2; omega⟩

theorem names2 (w : World) (wb B : Nat) (v : Value) (l : List Tok) (q : Nat) (hq : q = w.heap.size) (x y : By) (h : WrA w wb B v l) (hl : l.length ≤ 100000000) :
    Calls Try.prog 34 #[.pointer (some ⟨wb, 0, none⟩), .slice (some ⟨q, 0, none⟩) 2 2] (w.alloc (.cells #[.string ⟨x.toArray⟩, .string ⟨y.toArray⟩] 9)) fun e w' => e = .returned (.tuple #[]) ∧ Wrote wb B v l w [nmT x, nmT y] w' := by
  subst hq
  exact names_lit w wb B v l [x, y] h (by simp; omega)

theorem names3 (w : World) (wb B : Nat) (v : Value) (l : List Tok) (q : Nat) (hq : q = w.heap.size) (x y z : By) (h : WrA w wb B v l) (hl : l.length ≤ 100000000) :
    Calls Try.prog 34 #[.pointer (some ⟨wb, 0, none⟩), .slice (some ⟨q, 0, none⟩) 3 3] (w.alloc (.cells #[.string ⟨x.toArray⟩, .string ⟨y.toArray⟩, .string ⟨z.toArray⟩] 9)) fun e w' => e = .returned (.tuple #[]) ∧ Wrote wb B v l w [nmT x, nmT y, nmT z] w' := by
  subst hq
  exact names_lit w wb B v l [x, y, z] h (by simp; omega)

set_option maxRecDepth 1000000 in
set_option maxHeartbeats 1000000 in
theorem step_wr (w : World) (wb B : Nat) (v : Value) (l : List Tok) (lb : Lab) (sv : Option Addr) (sc : Nat) (av : Option Addr) (am ac : Nat) (h : WrA w wb B v l) (hs : SAt (Far wb v) w lb.after sv lb.after.length) (hl : l.length + 2 * lb.after.length ≤ 10000000) :
    Calls Try.prog 82 #[.pointer (some ⟨wb, 0, none⟩), .agg #[.string ⟨lb.name.toArray⟩, .string ⟨lb.undo.toArray⟩, .slice sv lb.after.length sc, .bool lb.sub, .bool lb.vital, .slice av am ac]] w fun e w' => e = .returned (.tuple #[]) ∧ Wrote wb B v l w (pStep lb) w' := by
  obtain ⟨nm, un, af, sb, vt⟩ := lb
  dsimp only at *
  have hA0 : Below w.heap.size w (w.alloc (.cells #[.string ⟨nm.toArray⟩, .string ⟨un.toArray⟩, .slice sv af.length sc, .bool sb, .bool vt, .slice av am ac] 80)) := (Below.refl _ _).alloc (Nat.le_refl _) _
  have h0 := h.below hA0
  have hb0 := box_far h
  have n0 := row_new w #[.string ⟨nm.toArray⟩, .string ⟨un.toArray⟩, .slice sv af.length sc, .bool sb, .bool vt, .slice av am ac] 80
  have hs0 : SAt (Far wb v) (w.alloc (.cells #[.string ⟨nm.toArray⟩, .string ⟨un.toArray⟩, .slice sv af.length sc, .bool sb, .bool vt, .slice av am ac] 80)) af sv af.length := hs.keep (fun b _ hl => hA0.block b hl) (fun _ hb _ => hb)
  have M1 : Hid _ := names2 _ wb B v l (w.heap.size + 1) (by simp) wStep nm h0 (by omega)
  obtain ⟨G, HG⟩ : ∃ G, Hid (G = pStep ⟨nm, un, af, sb, vt⟩) := ⟨_, rfl⟩
  rw [← HG.out]
  have hz0 : (w.alloc (.cells #[.string ⟨nm.toArray⟩, .string ⟨un.toArray⟩, .slice sv af.length sc, .bool sb, .bool vt, .slice av am ac] 80)).heap.size = w.heap.size + 1 := by simp
  go_enter Try.func82, Try.ntmps82
  go_wp2_with fail
  refine Calls.mono M1.out ?_
  clear M1
  generalize w.alloc (.cells #[.string ⟨nm.toArray⟩, .string ⟨un.toArray⟩, .slice sv af.length sc, .bool sb, .bool vt, .slice av am ac] 80) = W0 at *
  rintro e w1 ⟨rfl, v1, a1, k1, o1⟩
  obtain ⟨p1, f1⟩ := far_next k1 o1
  have n1 := k1.row n0 hb0.1 hb0.2
  have hb1 := f1 _ hb0 (by omega)
  have hs1 := hs0.keep p1 f1
  have c1 := (cell_row n1 1).trans rfl
  clear hs hs0 n0 p1 f1
  -- behind 'undo'
  have rest : ∀ (v2 : Value) (w2 : World) (new : List Tok), WrA w2 wb B v2 (l ++ new) → Kx wb v W0 w2 → (v2.ownBlock = v.ownBlock ∨ ∃ q, v2.ownBlock = some q ∧ W0.heap.size ≤ q) → SAt (Far wb v2) w2 af sv af.length → new.length ≤ 4 →
      Calls Try.prog 83 #[.pointer (some ⟨wb, 0, none⟩), .slice sv af.length sc] w2 fun e w3 => e = .returned (.tuple #[]) ∧ Calls Try.prog 62 #[.pointer (some ⟨wb, 0, none⟩), .string ⟨mEnd.toArray⟩] w3 fun e w4 => e = .returned (.tuple #[]) ∧ Wrote wb B v l W0 (new ++ (pLean af ++ [mkT mEnd])) w4 := by
    intro v2 w2 new a2 k2 o2 hs2 hn
    refine (leanings_wr w2 wb B v2 (l ++ new) af sv sc a2 hs2 (by simp; omega)).mono ?_
    rintro e w3 ⟨rfl, v3, a3, k3, o3⟩
    refine ⟨rfl, ?_⟩
    have hpl := pLean_len af
    refine (mark_wr w3 wb B v3 _ mEnd a3 (by simp; omega)).mono ?_
    rintro e w4 ⟨rfl, h4⟩
    exact ⟨rfl, Wrote.trans k2 o2 (Wrote.trans k3 o3 h4)⟩
  have HR : Hid _ := rest
  clear rest
  by_cases hu : un = []
  · subst hu
    have HGo : Hid (G = [nmT wStep, nmT nm] ++ (pLean af ++ [mkT mEnd])) := by show _ = _; rw [HG.out]; simp [pStep]
    have c2 := (cell_row n1 2).trans rfl
    go_wp2_with fail
    refine Calls.mono (HR.out v1 w1 _ a1 k1 o1 hs1 (by simp)) ?_
    rintro e w3 ⟨rfl, M4⟩
    go_wp2_with fail
    refine Calls.mono M4 ?_
    rintro e w4 ⟨rfl, h4⟩
    go_wp2_with fail
    go_end0
    exact ⟨rfl, by rw [HGo.out]; exact Wrote.after hA0 h4⟩
  · have HGo : Hid (G = [nmT wStep, nmT nm, nmT wUndo, nmT un] ++ (pLean af ++ [mkT mEnd])) := by show _ = _; rw [HG.out]; simp [pStep, hu]
    have M2 : Hid _ := names2 w1 wb B v1 _ w1.heap.size rfl wUndo un a1 (by simp; omega)
    have hu2 : un.isEmpty = false := by simp [hu]
    have hu3 : (un == []) = false := by simp [hu]
    go_wp2_with fail
    refine Calls.mono M2.out ?_
    clear M2
    rintro e w2 ⟨rfl, v2, a2, k2, o2⟩
    obtain ⟨p2, f2⟩ := far_next k2 o2
    have n2 := k2.row n1 hb1.1 hb1.2
    have hs2 := hs1.keep p2 f2
    have c2 := (cell_row n2 2).trans rfl
    have o3 : v2.ownBlock = v.ownBlock ∨ ∃ q, v2.ownBlock = some q ∧ W0.heap.size ≤ q := by
      rcases o2 with h | ⟨q, hq, hl⟩
      · rw [h]; exact o1
      · exact .inr ⟨q, hq, by have := k1.size; omega⟩
    have k3 : Kx wb v W0 w2 := ⟨k2.os.trans k1.os, k2.tape.trans k1.tape, k2.output.trans k1.output, Nat.le_trans k1.size k2.size, fun k hk h4 h5 => by
      rw [k2.block k (by have := k1.size; omega) h4 (fun he => ?_), k1.block k hk h4 h5]
      rcases o1 with h | ⟨q, hq, hl⟩
      · rw [h] at he; exact h5 he
      · rw [hq] at he; simp at he; omega⟩
    have a3 : WrA w2 wb B v2 (l ++ [nmT wStep, nmT nm, nmT wUndo, nmT un]) := by
      have := a2
      rw [List.append_assoc] at this
      exact this
    go_wp2_with fail
    refine Calls.mono (HR.out v2 w2 _ a3 k3 o3 hs2 (by simp)) ?_
    rintro e w3 ⟨rfl, M4⟩
    go_wp2_with fail
    refine Calls.mono M4 ?_
    rintro e w4 ⟨rfl, h4⟩
    go_wp2_with fail
    go_end0
    exact ⟨rfl, by rw [HGo.out]; exact Wrote.after hA0 h4⟩
end Go.Proofs.Ytlmfmgpamhhncaa

/- The program's writer: nodes and bodies. -/
namespace Go.Proofs.Ytlmfmgpamhhncaa
open Go.RowKit

/-- A node, as tokens. -/
def pNode (l : Lab) (t : Tr) : List Tok := if l.sub then [nmT (if l.vital then wVital else wLoose), nmT wSub, nmT l.name] ++ (pLean l.after ++ (mkT mOpen :: (pr true t ++ [mkT mShut]))) else pStep l

theorem pr_n (f : Bool) (l : Lab) (t r : Tr) : pr f (.n l t r) = pNode l t ++ pr f r := rfl

theorem pLean_len' (xs : List By) : (pLean xs).length = 2 * xs.length := by
  cases xs with
  | nil => rfl
  | cons y r =>
    have : ∀ r : List By, (pMore r).length = 2 * r.length := fun r => by
      induction r with
      | nil => rfl
      | cons z r ih => simp [pMore] at ih ⊢; omega
    simp only [pLean, List.length_cons, this]; omega

theorem after_pNode (l : Lab) (t : Tr) : 2 * l.after.length ≤ (pNode l t).length := by
  have := pLean_len' l.after
  unfold pNode
  split
  · simp; omega
  · simp [pStep]; omega

/-- Bodies are written. -/
def BWok (wb B : Nat) (t : Tr) : Prop := ∀ (w : World) (v : Value) (l : List Tok) (a : Option Addr) (c : Nat), WrA w wb B v l → TAt (Far wb v) w true t a 0 t.len → l.length + (pr true t).length + 2 ≤ 10000000 → t.sz ≤ 1000000000 →
  Calls Try.prog 35 #[.pointer (some ⟨wb, 0, none⟩), .slice a t.len c] w fun e w' => e = .returned (.tuple #[]) ∧ Wrote wb B v l w (mkT mOpen :: (pr true t ++ [mkT mShut])) w'

set_option maxRecDepth 1000000 in
set_option maxHeartbeats 1000000 in
theorem node_wr (w : World) (wb B : Nat) (v : Value) (l : List Tok) (lb : Lab) (t : Tr) (sv : Option Addr) (sc : Nat) (av : Option Addr) (ac : Nat) (IH : BWok wb B t) (h : WrA w wb B v l) (hs : SAt (Far wb v) w lb.after sv lb.after.length) (ht : TAt (Far wb v) w true t av 0 t.len)
    (hl : l.length + (pNode lb t).length ≤ 10000000) (hsz : t.sz ≤ 1000000000) :
    Calls Try.prog 63 #[.pointer (some ⟨wb, 0, none⟩), .agg #[.string ⟨lb.name.toArray⟩, .string ⟨lb.undo.toArray⟩, .slice sv lb.after.length sc, .bool lb.sub, .bool lb.vital, .slice av t.len ac]] w fun e w' => e = .returned (.tuple #[]) ∧ Wrote wb B v l w (pNode lb t) w' := by
  have hap := after_pNode lb t
  obtain ⟨nm, un, af, sb, vt⟩ := lb
  dsimp only at *
  have hA0 : Below w.heap.size w (w.alloc (.cells #[.string ⟨nm.toArray⟩, .string ⟨un.toArray⟩, .slice sv af.length sc, .bool sb, .bool vt, .slice av t.len ac] 80)) := (Below.refl _ _).alloc (Nat.le_refl _) _
  have h0 := h.below hA0
  have hb0 := box_far h
  have n0 := row_new w #[.string ⟨nm.toArray⟩, .string ⟨un.toArray⟩, .slice sv af.length sc, .bool sb, .bool vt, .slice av t.len ac] 80
  have hs0 : SAt (Far wb v) (w.alloc (.cells #[.string ⟨nm.toArray⟩, .string ⟨un.toArray⟩, .slice sv af.length sc, .bool sb, .bool vt, .slice av t.len ac] 80)) af sv af.length := hs.keep (fun b _ hl => hA0.block b hl) (fun _ hb _ => hb)
  have ht0 : TAt (Far wb v) (w.alloc (.cells #[.string ⟨nm.toArray⟩, .string ⟨un.toArray⟩, .slice sv af.length sc, .bool sb, .bool vt, .slice av t.len ac] 80)) true t av 0 t.len := ht.keep (fun b _ hl => hA0.block b hl) (fun _ hb _ => hb) _ _ _ _ _
  have hz0 : (w.alloc (.cells #[.string ⟨nm.toArray⟩, .string ⟨un.toArray⟩, .slice sv af.length sc, .bool sb, .bool vt, .slice av t.len ac] 80)).heap.size = w.heap.size + 1 := by simp
  cases sb with
  | false =>
    have M1 : Hid _ := step_wr _ wb B v l ⟨nm, un, af, false, vt⟩ sv sc av t.len ac h0 hs0 (by dsimp only; omega)
    have HG : Hid (pNode ⟨nm, un, af, false, vt⟩ t = pStep ⟨nm, un, af, false, vt⟩) := rfl
    go_enter Try.func63, Try.ntmps63
    go_wp2_with fail
    refine Calls.mono M1.out ?_
    rintro e w1 ⟨rfl, h1⟩
    go_wp2_with fail
    first | go_end0 | refine bodyPost_ret (results_none rfl _ _ _) rfl ?_
    exact ⟨rfl, by rw [HG.out]; exact Wrote.after hA0 h1⟩
  | true =>
    obtain ⟨wt, hwt⟩ : ∃ wt : By, wt = (if vt then wVital else wLoose) := ⟨_, rfl⟩
    have HG : Hid (pNode ⟨nm, un, af, true, vt⟩ t = [nmT wt, nmT wSub, nmT nm] ++ (pLean af ++ (mkT mOpen :: (pr true t ++ [mkT mShut])))) := by show _ = _; rw [hwt]; rfl
    have M1 : Hid _ := names3 _ wb B v l (w.heap.size + 1) (by simp) wt wSub nm h0 (by omega)
    have hlen : l.length + (3 + ((pLean af).length + ((pr true t).length + 2))) ≤ 10000000 := by
      have := HG.out
      rw [this] at hl
      simp at hl
      omega
    have hpl := pLean_len' af
    -- behind the name
    have rest : ∀ (w1 : World), Wrote wb B v l (w.alloc (.cells #[.string ⟨nm.toArray⟩, .string ⟨un.toArray⟩, .slice sv af.length sc, .bool true, .bool vt, .slice av t.len ac] 80)) [nmT wt, nmT wSub, nmT nm] w1 →
        w1.cell? ⟨w.heap.size, 2, none⟩ = some (.slice sv af.length sc) ∧ Calls Try.prog 83 #[.pointer (some ⟨wb, 0, none⟩), .slice sv af.length sc] w1 fun e w2 => e = .returned (.tuple #[]) ∧ w2.cell? ⟨w.heap.size, 5, none⟩ = some (.slice av t.len ac) ∧
          Calls Try.prog 35 #[.pointer (some ⟨wb, 0, none⟩), .slice av t.len ac] w2 fun e w3 => e = .returned (.tuple #[]) ∧ Wrote wb B v l w (pNode ⟨nm, un, af, true, vt⟩ t) w3 := by
      rintro w1 ⟨v1, a1, k1, o1⟩
      obtain ⟨p1, f1⟩ := far_next k1 o1
      have n1 := k1.row n0 hb0.1 hb0.2
      have hb1 := f1 _ hb0 (by omega)
      refine ⟨(cell_row n1 2).trans rfl, (leanings_wr w1 wb B v1 _ af sv sc a1 (hs0.keep p1 f1) (by simp; omega)).mono ?_⟩
      rintro e w2 ⟨rfl, v2, a2, k2, o2⟩
      obtain ⟨p2, f2⟩ := far_next k2 o2
      have n2 := k2.row n1 hb1.1 hb1.2
      refine ⟨rfl, (cell_row n2 5).trans rfl, (IH w2 v2 _ av ac a2 ((ht0.keep p1 f1 _ _ _ _ _).keep p2 f2 _ _ _ _ _) (by simp; omega) hsz).mono ?_⟩
      rintro e w3 ⟨rfl, h3⟩
      exact ⟨rfl, by rw [HG.out]; exact Wrote.after hA0 (Wrote.trans k1 o1 (Wrote.trans k2 o2 h3))⟩
    have HR : Hid _ := rest
    clear rest
    cases vt with
    | true =>
      have hw' : wt = wVital := hwt
      subst hw'
      go_enter Try.func63, Try.ntmps63
      go_wp2_with fail
      refine Calls.mono M1.out ?_
      rintro e w1 ⟨rfl, h1⟩
      obtain ⟨c2, M2⟩ := HR.out w1 h1
      go_wp2_with fail
      refine Calls.mono M2 ?_
      rintro e w2 ⟨rfl, c5, M3⟩
      go_wp2_with fail
      refine Calls.mono M3 ?_
      rintro e w3 ⟨rfl, h3⟩
      go_wp2_with fail
      go_end0
      exact ⟨rfl, h3⟩
    | false =>
      have hw' : wt = wLoose := hwt
      subst hw'
      go_enter Try.func63, Try.ntmps63
      go_wp2_with fail
      refine Calls.mono M1.out ?_
      rintro e w1 ⟨rfl, h1⟩
      obtain ⟨c2, M2⟩ := HR.out w1 h1
      go_wp2_with fail
      refine Calls.mono M2 ?_
      rintro e w2 ⟨rfl, c5, M3⟩
      go_wp2_with fail
      refine Calls.mono M3 ?_
      rintro e w3 ⟨rfl, h3⟩
      go_wp2_with fail
      go_end0
      exact ⟨rfl, h3⟩
end Go.Proofs.Ytlmfmgpamhhncaa

/- The program's writer: bodies. -/
namespace Go.Proofs.Ytlmfmgpamhhncaa
open Go.RowKit

theorem names1 (w : World) (wb B : Nat) (v : Value) (l : List Tok) (q : Nat) (hq : q = w.heap.size) (x : By) (h : WrA w wb B v l) (hl : l.length ≤ 100000000) :
    Calls Try.prog 34 #[.pointer (some ⟨wb, 0, none⟩), .slice (some ⟨q, 0, none⟩) 1 1] (w.alloc (.cells #[.string ⟨x.toArray⟩] 9)) fun e w' => e = .returned (.tuple #[]) ∧ Wrote wb B v l w [nmT x] w' := by
  subst hq
  exact names_lit w wb B v l [x] h (by simp; omega)

theorem pr_flag (f g : Bool) (t : Tr) (h : t.ok false = true) : pr f t = pr g t := by
  induction t generalizing f g with
  | e => rfl
  | b x r _ _ => simp [Tr.ok] at h
  | n l t r _ ih =>
    simp [Tr.ok] at h
    rw [pr_n, pr_n, ih f g h.2]

set_option maxRecDepth 1000000 in
set_option maxHeartbeats 2000000 in
theorem bodies_wr (wb B : Nat) (t : Tr) (IH : ∀ tn, tn.sz < t.sz → BWok wb B tn) : BWok wb B t := by
  intro w v l a c h ht hl hsz
  have hlen := t.len_sz
  have M1 : Hid _ := mark_wr w wb B v l mOpen h (by omega)
  obtain ⟨G, HG⟩ : ∃ G, Hid (G = mkT mOpen :: (pr true t ++ [mkT mShut])) := ⟨_, rfl⟩
  rw [← HG.out]
  obtain ⟨T, HT⟩ : ∃ T, Hid (t.len = T) := ⟨_, rfl⟩
  rw [HT.out] at ht ⊢
  have hT : T ≤ 1000000000 := by have := HT.out; omega
  go_enter Try.func35, Try.ntmps35
  go_wp2_with fail
  refine Calls.mono M1.out ?_
  clear M1
  rintro e w1 ⟨rfl, v1, a1, k1, o1⟩
  obtain ⟨p1, f1⟩ := far_next k1 o1
  have ht1 := ht.keep p1 f1 _ _ _ _ _
  obtain ⟨L1, hL1⟩ : ∃ L1, l ++ [mkT mOpen] = L1 := ⟨_, rfl⟩
  have hL1l : L1.length = l.length + 1 := by rw [← hL1]; simp
  rw [hL1] at a1
  have HFin : Hid (∀ w2, Wrote wb B v1 L1 w1 (pr true t ++ [mkT mShut]) w2 → Wrote wb B v l w G w2) := by
    show ∀ w2, _
    intro w2 h2
    rw [HG.out]
    rw [← hL1] at h2
    exact Wrote.trans (a := [mkT mOpen]) k1 o1 h2
  clear p1 f1 ht k1 o1 hL1
  go_wp2_with fail
  go_loopw [4, 5, 12] (fun _ _ iv w2 => ∃ (i : Nat) (rest : Tr) (cons : List Tok), i ≤ T ∧ iv = .int .i64 i ∧ Hid (Wrote wb B v1 L1 w1 cons w2) ∧ Hid (TAt (Far wb v1) w1 true rest a i T) ∧ Hid (pr true t = cons ++ pr (decide (i = 0)) rest) ∧ Hid (rest.sz ≤ t.sz))
    (fun _ _ iv _ => T - (intOf iv).toNat)
  case atStart => exact ⟨0, t, [], Nat.zero_le _, rfl, Wrote.none a1, ht1, rfl, Nat.le_refl _⟩
  case round =>
    obtain ⟨i, rest, cons, hi, rfl, HW, HTr, HE, HS⟩ := hrel
    rename World => w2
    obtain ⟨v2, a2, k2, o2⟩ := HW.out
    have hcl : cons.length ≤ (pr true t).length := by rw [HE.out]; simp
    cases rest with
    | n _ _ _ => have := HTr.out.1; simp at this
    | e =>
      have hie : i = T := HTr.out
      subst hie
      have M2 : Hid _ := mark_wr w2 wb B v2 _ mShut a2 (by simp; omega)
      have HE2 : Hid (pr true t = cons) := by show _ = _; rw [HE.out]; simp [pr]
      go_wp2_with fail
      refine Calls.mono M2.out ?_
      rintro e w3 ⟨rfl, h3⟩
      go_wp2_with fail
      go_end0
      exact ⟨rfl, HFin.out w3 (by rw [HE2.out]; exact Wrote.trans k2 o2 h3)⟩
    | b x r =>
      obtain ⟨_, hlt, ⟨bb, boff, bv, bm, bc, rfl, hbp, hbc, hbx⟩, hrr⟩ := HTr.out
      obtain ⟨p2, f2⟩ := far_next k2 o2
      have cb := cell_keep hbc hbp p2
      have hA2 : Below w2.heap.size w2 (w2.alloc (.cells #[.slice bv bm bc] 112)) := (Below.refl _ _).alloc (Nat.le_refl _) _
      have a2' := a2.below hA2
      have hbf := box_far a2
      have n2 := row_new w2 #[.slice bv bm bc] 112
      have hz2 : (w2.alloc (.cells #[.slice bv bm bc] 112)).heap.size = w2.heap.size + 1 := by simp
      have hbx2 : TAt (Far wb v2) (w2.alloc (.cells #[.slice bv bm bc] 112)) false x bv 0 bm := (hbx.keep p2 f2 _ _ _ _ _).keep (fun b _ hl => hA2.block b hl) (fun _ h _ => h) _ _ _ _ _
      have hil : (i : Int) < (T : Int) := by omega
      have hEl : (pr true t).length = cons.length + (pr (decide (i = 0)) (.b x r)).length := by rw [HE.out]; simp
      have hprl : (pr true x).length + 2 ≤ (pr (decide (i = 0)) (.b x r)).length := by simp [pr]; omega
      have hsx : x.sz ≤ t.sz ∧ r.sz ≤ t.sz ∧ x.sz < t.sz := by have := HS.out; simp only [Tr.sz] at this; omega
      have hbm : bm ≤ 1000000000 := by have := hbx.len; have := x.len_sz; omega
      -- the mark '(', and what is known then
      have mIn2 : ∀ (w3 : World), Wrote wb B v2 (L1 ++ cons) (w2.alloc (.cells #[.slice bv bm bc] 112)) (if decide (i = 0) then [] else [nmT wOr]) w3 →
          Calls Try.prog 62 #[.pointer (some ⟨wb, 0, none⟩), .string ⟨mIn.toArray⟩] w3 fun e w4 => e = .returned (.tuple #[]) ∧ Wrote wb B v2 (L1 ++ cons) (w2.alloc (.cells #[.slice bv bm bc] 112)) ((if decide (i = 0) then [] else [nmT wOr]) ++ [mkT mIn]) w4 := by
        rintro w3 ⟨v3, a3, k3, o3⟩
        refine (mark_wr w3 wb B v3 _ mIn a3 (by split <;> simp <;> omega)).mono ?_
        rintro e w4 ⟨rfl, h4⟩
        exact ⟨rfl, Wrote.trans k3 o3 h4⟩
      have HM : Hid _ := mIn2
      clear mIn2
      by_cases hi0 : i = 0
      · have hif : (if decide (i = 0) then [] else [nmT wOr]) = [] := by simp [hi0]
        rw [hif] at HM
        have M3 := HM.out _ (Wrote.none a2')
        have HI0 : Hid (i = 0) := hi0
        have hi0' : ¬ (0 : Int) < (i : Int) := by omega
        clear hi0
        go_wp2_with fail
        refine Calls.mono M3 ?_
        rintro e w4 ⟨rfl, h4⟩
        obtain ⟨v4, a4, k4, o4⟩ := h4
        obtain ⟨p4, f4⟩ := far_next k4 o4
        have n4 := k4.row n2 hbf.1 hbf.2
        have hbf4 := f4 _ hbf (by omega)
        have hx4 := hbx2.keep p4 f4 _ _ _ _ _
        have cn := (cell_row n4 0).trans rfl
        obtain ⟨L4, hL4⟩ : ∃ L4, L1 ++ cons ++ ([] ++ [mkT mIn]) = L4 := ⟨_, rfl⟩
        have hL4l : L4.length ≤ L1.length + cons.length + 2 := by rw [← hL4]; simp; try omega
        rw [hL4] at a4
        have HK4 : Hid (∀ w5 new, Wrote wb B v4 L4 w4 new w5 → Wrote wb B v1 L1 w1 (cons ++ (([] ++ [mkT mIn]) ++ new)) w5) := by
          show ∀ w5 new, _
          intro w5 new h5
          rw [← hL4] at h5
          exact Wrote.trans k2 o2 (Wrote.after hA2 (Wrote.trans k4 o4 h5))
        clear k4 o4 p4 f4 hL4 cb
        go_wp2_with fail
        go_loopw [7, 27] (fun _ kv w5 => ∃ (k : Nat) (rn : Tr) (cn2 : List Tok), k ≤ bm ∧ kv = .int .i64 k ∧ Hid (Wrote wb B v4 L4 w4 cn2 w5) ∧ Hid (TAt (Far wb v4) w4 false rn bv k bm) ∧ Hid (pr true x = cn2 ++ pr true rn) ∧ Hid (rn.sz ≤ x.sz)) (fun _ kv _ => bm - (intOf kv).toNat)
        case atStart => exact ⟨0, x, [], Nat.zero_le _, rfl, Wrote.none a4, hx4, rfl, Nat.le_refl _⟩
        case round =>
          obtain ⟨k, rn, cn2, hk, rfl, HW5, HT5, HE5, HS5⟩ := hrel
          rename World => w5
          obtain ⟨v5, a5, k5, o5⟩ := HW5.out
          obtain ⟨p5, f5⟩ := far_next k5 o5
          have hc5 : cn2.length + (pr true rn).length = (pr true x).length := by rw [HE5.out]; simp
          cases rn with
          | b _ _ => have := HT5.out.1; simp at this
          | e =>
            have hie : k = bm := HT5.out
            subst hie
            have M5 : Hid _ := mark_wr w5 wb B v5 _ mOut a5 (by simp; omega)
            have HE6 : Hid (pr true x = cn2) := by show _ = _; rw [HE5.out]; simp [pr]
            go_wp2_with fail
            refine Calls.mono M5.out ?_
            rintro e w6 ⟨rfl, h6⟩
            go_wp2_with fail
            go_roundw
            case rel =>
              refine ⟨i + 1, r, cons ++ (([] ++ [mkT mIn]) ++ (cn2 ++ [mkT mOut])), by omega, by go_num, HK4.out w6 _ (Wrote.trans k5 o5 h6), hrr, ?_, hsx.2.1⟩
              show pr true t = _
              rw [HE.out, show (pr (decide (i = 0)) (.b x r)) = ([] ++ [mkT mIn]) ++ (pr true x ++ (mkT mOut :: pr false r)) by simp [pr, HI0.out], HE6.out]
              simp
            case measure => simp [intOf]; omega
          | n ln tn rn =>
            obtain ⟨_, hltk, ⟨nb, noff, sv, sm, sc, nav, nam, nac, rfl, hnp, c0, c1, c2, c3, c4, c5, hss, htn⟩, hrn⟩ := HT5.out
            have d0 := cell_keep c0 hnp p5
            have d1 := cell_keep c1 hnp p5
            have d2 := cell_keep c2 hnp p5
            have d3 := cell_keep c3 hnp p5
            have d4 := cell_keep c4 hnp p5
            have d5 := cell_keep c5 hnp p5
            obtain rfl : sm = ln.after.length := hss.1
            obtain rfl : nam = tn.len := by have := htn.len; omega
            have hA5 : Below w5.heap.size w5 (w5.alloc (.cells #[.string ⟨ln.name.toArray⟩, .string ⟨ln.undo.toArray⟩, .slice sv ln.after.length sc, .bool ln.sub, .bool ln.vital, .slice nav tn.len nac] 80)) := (Below.refl _ _).alloc (Nat.le_refl _) _
            have hsn : tn.sz < t.sz ∧ rn.sz ≤ x.sz := by have := HS5.out; simp only [Tr.sz] at this; omega
            have hpn : (pNode ln tn).length + (pr true rn).length = (pr true (.n ln tn rn)).length := by rw [pr_n]; simp
            have M6 : Hid _ := node_wr (w5.alloc (.cells #[.string ⟨ln.name.toArray⟩, .string ⟨ln.undo.toArray⟩, .slice sv ln.after.length sc, .bool ln.sub, .bool ln.vital, .slice nav tn.len nac] 80)) wb B v5 (L4 ++ cn2) ln tn sv sc nav nac (IH tn hsn.1) (a5.below hA5)
              ((hss.keep p5 f5).keep (fun b _ hl => hA5.block b hl) (fun _ h _ => h)) ((htn.keep p5 f5 _ _ _ _ _).keep (fun b _ hl => hA5.block b hl) (fun _ h _ => h) _ _ _ _ _) (by simp; omega) (by omega)
            have hkl : (k : Int) < (bm : Int) := by omega
            go_wp2_with fail
            refine Calls.mono M6.out ?_
            rintro e w6 ⟨rfl, h6⟩
            go_wp2_with fail
            go_roundw
            case rel => exact ⟨k + 1, rn, cn2 ++ pNode ln tn, by omega, by go_num, Wrote.trans k5 o5 (Wrote.after hA5 h6), hrn, by show pr true x = _; rw [HE5.out, pr_n]; simp, hsn.2⟩
            case measure => simp [intOf]; omega
      · have hi0' : (0 : Int) < (i : Int) := by omega
        have M3 : Hid _ := names1 (w2.alloc (.cells #[.slice bv bm bc] 112)) wb B v2 (L1 ++ cons) (w2.heap.size + 1) (by simp) wOr a2' (by simp; omega)
        have hif : (if decide (i = 0) then [] else [nmT wOr]) = [nmT wOr] := by simp [hi0]
        rw [hif] at HM
        go_wp2_with fail
        refine Calls.mono M3.out ?_
        rintro e w3 ⟨rfl, h3⟩
        go_wp2_with fail
        refine Calls.mono (HM.out w3 h3) ?_
        rintro e w4 ⟨rfl, h4⟩
        obtain ⟨v4, a4, k4, o4⟩ := h4
        obtain ⟨p4, f4⟩ := far_next k4 o4
        have n4 := k4.row n2 hbf.1 hbf.2
        have hbf4 := f4 _ hbf (by omega)
        have hx4 := hbx2.keep p4 f4 _ _ _ _ _
        have cn := (cell_row n4 0).trans rfl
        obtain ⟨L4, hL4⟩ : ∃ L4, L1 ++ cons ++ ([nmT wOr] ++ [mkT mIn]) = L4 := ⟨_, rfl⟩
        have hL4l : L4.length ≤ L1.length + cons.length + 2 := by rw [← hL4]; simp; try omega
        rw [hL4] at a4
        have HK4 : Hid (∀ w5 new, Wrote wb B v4 L4 w4 new w5 → Wrote wb B v1 L1 w1 (cons ++ (([nmT wOr] ++ [mkT mIn]) ++ new)) w5) := by
          show ∀ w5 new, _
          intro w5 new h5
          rw [← hL4] at h5
          exact Wrote.trans k2 o2 (Wrote.after hA2 (Wrote.trans k4 o4 h5))
        clear k4 o4 p4 f4 hL4 cb
        go_wp2_with fail
        go_loopw [7, 27] (fun _ kv w5 => ∃ (k : Nat) (rn : Tr) (cn2 : List Tok), k ≤ bm ∧ kv = .int .i64 k ∧ Hid (Wrote wb B v4 L4 w4 cn2 w5) ∧ Hid (TAt (Far wb v4) w4 false rn bv k bm) ∧ Hid (pr true x = cn2 ++ pr true rn) ∧ Hid (rn.sz ≤ x.sz)) (fun _ kv _ => bm - (intOf kv).toNat)
        case atStart => exact ⟨0, x, [], Nat.zero_le _, rfl, Wrote.none a4, hx4, rfl, Nat.le_refl _⟩
        case round =>
          obtain ⟨k, rn, cn2, hk, rfl, HW5, HT5, HE5, HS5⟩ := hrel
          rename World => w5
          obtain ⟨v5, a5, k5, o5⟩ := HW5.out
          obtain ⟨p5, f5⟩ := far_next k5 o5
          have hc5 : cn2.length + (pr true rn).length = (pr true x).length := by rw [HE5.out]; simp
          cases rn with
          | b _ _ => have := HT5.out.1; simp at this
          | e =>
            have hie : k = bm := HT5.out
            subst hie
            have M5 : Hid _ := mark_wr w5 wb B v5 _ mOut a5 (by simp; omega)
            have HE6 : Hid (pr true x = cn2) := by show _ = _; rw [HE5.out]; simp [pr]
            go_wp2_with fail
            refine Calls.mono M5.out ?_
            rintro e w6 ⟨rfl, h6⟩
            go_wp2_with fail
            go_roundw
            case rel =>
              refine ⟨i + 1, r, cons ++ (([nmT wOr] ++ [mkT mIn]) ++ (cn2 ++ [mkT mOut])), by omega, by go_num, HK4.out w6 _ (Wrote.trans k5 o5 h6), hrr, ?_, hsx.2.1⟩
              show pr true t = _
              rw [HE.out, show (pr (decide (i = 0)) (.b x r)) = ([nmT wOr] ++ [mkT mIn]) ++ (pr true x ++ (mkT mOut :: pr false r)) by simp [pr, hi0], HE6.out]
              simp
            case measure => simp [intOf]; omega
          | n ln tn rn =>
            obtain ⟨_, hltk, ⟨nb, noff, sv, sm, sc, nav, nam, nac, rfl, hnp, c0, c1, c2, c3, c4, c5, hss, htn⟩, hrn⟩ := HT5.out
            have d0 := cell_keep c0 hnp p5
            have d1 := cell_keep c1 hnp p5
            have d2 := cell_keep c2 hnp p5
            have d3 := cell_keep c3 hnp p5
            have d4 := cell_keep c4 hnp p5
            have d5 := cell_keep c5 hnp p5
            obtain rfl : sm = ln.after.length := hss.1
            obtain rfl : nam = tn.len := by have := htn.len; omega
            have hA5 : Below w5.heap.size w5 (w5.alloc (.cells #[.string ⟨ln.name.toArray⟩, .string ⟨ln.undo.toArray⟩, .slice sv ln.after.length sc, .bool ln.sub, .bool ln.vital, .slice nav tn.len nac] 80)) := (Below.refl _ _).alloc (Nat.le_refl _) _
            have hsn : tn.sz < t.sz ∧ rn.sz ≤ x.sz := by have := HS5.out; simp only [Tr.sz] at this; omega
            have hpn : (pNode ln tn).length + (pr true rn).length = (pr true (.n ln tn rn)).length := by rw [pr_n]; simp
            have M6 : Hid _ := node_wr (w5.alloc (.cells #[.string ⟨ln.name.toArray⟩, .string ⟨ln.undo.toArray⟩, .slice sv ln.after.length sc, .bool ln.sub, .bool ln.vital, .slice nav tn.len nac] 80)) wb B v5 (L4 ++ cn2) ln tn sv sc nav nac (IH tn hsn.1) (a5.below hA5)
              ((hss.keep p5 f5).keep (fun b _ hl => hA5.block b hl) (fun _ h _ => h)) ((htn.keep p5 f5 _ _ _ _ _).keep (fun b _ hl => hA5.block b hl) (fun _ h _ => h) _ _ _ _ _) (by simp; omega) (by omega)
            have hkl : (k : Int) < (bm : Int) := by omega
            go_wp2_with fail
            refine Calls.mono M6.out ?_
            rintro e w6 ⟨rfl, h6⟩
            go_wp2_with fail
            go_roundw
            case rel => exact ⟨k + 1, rn, cn2 ++ pNode ln tn, by omega, by go_num, Wrote.trans k5 o5 (Wrote.after hA5 h6), hrn, by show pr true x = _; rw [HE5.out, pr_n]; simp, hsn.2⟩
            case measure => simp [intOf]; omega
end Go.Proofs.Ytlmfmgpamhhncaa

/- The program's Print. -/
namespace Go.Proofs.Ytlmfmgpamhhncaa
open Go.RowKit

theorem bw_all (wb B : Nat) : ∀ (n : Nat) (t : Tr), t.sz ≤ n → BWok wb B t := by
  intro n
  induction n with
  | zero => intro t ht; exact bodies_wr wb B t (fun tn h => by omega)
  | succ n ih => intro t ht; exact bodies_wr wb B t (fun tn h => ih tn (by omega))

/-- A saga's tokens. -/
def pSaga (x : By) (t : Tr) : List Tok := [nmT wSaga, nmT x] ++ (mkT mOpen :: (pr true t ++ [mkT mShut]))

/-- A saga's text. -/
def textS (x : By) (t : Tr) : By := jn ((pSaga x t).map (·.text))

theorem bys_txts (l : List Tok) : bys (txts l) = l.map (·.text) := by simp [bys, txts]

set_option maxRecDepth 1000000 in
set_option maxHeartbeats 2000000 in
theorem print_any (w : World) (x : By) (t : Tr) (av : Option Addr) (am ac : Nat) (ht : TAt (· < w.heap.size) w true t av 0 am) (hb : Bnd t) (hT : (pr true t).length + 4 ≤ 100000) (hJ : (textS x t).length ≤ 1000000000) :
    Calls Try.prog 13 #[.agg #[.string ⟨x.toArray⟩, .slice av am ac]] w fun e w' => e = .returned (.tuple #[.string ⟨(if rightS x t then textS x t else []).toArray⟩, .int .i64 (codeS x t)]) ∧ Below w.heap.size w w' := by
  obtain rfl : am = t.len := by have := ht.len; omega
  obtain ⟨G, HG⟩ : ∃ G, Hid (G = (if rightS x t then textS x t else [])) := ⟨_, rfl⟩
  rw [← HG.out]
  have hA0 : Below w.heap.size w (w.alloc (.cells #[.string ⟨x.toArray⟩, .slice av t.len ac] 25)) := (Below.refl _ _).alloc (Nat.le_refl _) _
  have n0 := row_new w #[.string ⟨x.toArray⟩, .slice av t.len ac] 25
  have ht0 : TAt (· < w.heap.size) (w.alloc (.cells #[.string ⟨x.toArray⟩, .slice av t.len ac] 25)) true t av 0 t.len := ht.keep (fun b hb _ => hA0.block b hb) (fun _ h _ => h) _ _ _ _ _
  have M1 : Hid _ := check_any (w.alloc (.cells #[.string ⟨x.toArray⟩, .slice av t.len ac] 25)) x t av t.len ac (ht0.keep (fun _ _ _ => rfl) (fun b hb _ => by simp; omega) _ _ _ _ _) hb
  have hz0 : (w.alloc (.cells #[.string ⟨x.toArray⟩, .slice av t.len ac] 25)).heap.size = w.heap.size + 1 := by simp
  go_enter Try.func13, Try.ntmps13
  go_wp2_with fail
  refine Calls.mono M1.out ?_
  clear M1
  generalize w.alloc (.cells #[.string ⟨x.toArray⟩, .slice av t.len ac] 25) = W0 at *
  rintro e w1 ⟨rfl, hb1⟩
  have n1 := (hb1.block _ (by omega)).trans n0
  have hB1 := hA0.trans (hb1.mono (by omega))
  have ht1 : TAt (· < w.heap.size) w1 true t av 0 t.len := ht0.keep (fun b hb _ => hb1.block b (by omega)) (fun _ h _ => h) _ _ _ _ _
  have hz1 := hb1.size
  clear hb1 n0 ht0 ht hA0
  cases hr : rightS x t with
  | false =>
    have hc : codeS x t = 2 := by simp [codeS, hr]
    have HGo : Hid (G = []) := by show _ = _; rw [HG.out]; simp [hr]
    rw [hc]
    go_wp2_with fail
    go_ret2
    exact ⟨by rw [HGo.out, hc]; rfl, hB1⟩
  | true =>
    have hc : codeS x t = 0 := by simp [codeS, hr]
    have HGo : Hid (G = textS x t) := by show _ = _; rw [HG.out]; simp [hr]
    have HC : Hid (codeS x t = 0) := hc
    rw [hc]
    clear hc
    have c0 := (cell_row (row_alloc n1 (.cells #[.slice none 0 0] 71)) 0).trans rfl
    have hA2 : Below w1.heap.size w1 (w1.alloc (.cells #[.slice none 0 0] 71)) := (Below.refl _ _).alloc (Nat.le_refl _) _
    have a2 : WrA (w1.alloc (.cells #[.slice none 0 0] 71)) w1.heap.size (w1.heap.size + 1) (.slice none 0 0) [] := ⟨row_new w1 _ 71, World.ownsRow_nil _ _ _ _, by omega, by simp⟩
    have M2 : Hid _ := names2 (w1.alloc (.cells #[.slice none 0 0] 71)) w1.heap.size (w1.heap.size + 1) (.slice none 0 0) [] (w1.heap.size + 1) (by simp) wSaga x a2 (by simp)
    have n2 := row_alloc n1 (.cells #[.slice none 0 0] 71)
    have hB2 : Below w.heap.size w (w1.alloc (.cells #[.slice none 0 0] 71)) := hB1.alloc (by omega) _
    have ht2 : TAt (· < w.heap.size) (w1.alloc (.cells #[.slice none 0 0] 71)) true t av 0 t.len := ht1.keep (fun b hb _ => hA2.block b (by omega)) (fun _ h _ => h) _ _ _ _ _
    go_wp2_with fail
    refine Calls.mono M2.out ?_
    clear M2
    generalize w1.alloc (.cells #[.slice none 0 0] 71) = W2 at *
    rintro e w3 ⟨rfl, v3, a3, k3, o3⟩
    have hW2 := (Array.getElem?_eq_some_iff.1 a2.blk).1
    have hz2 := hA2.size
    have n3 := k3.row n2 (by omega) (by simp [Value.ownBlock])
    have hB3 : Below w.heap.size w w3 := ⟨k3.os.trans hB2.os, k3.tape.trans hB2.tape, k3.output.trans hB2.output, by have := k3.size; have := hB2.size; omega, fun q hq => (k3.block q (by omega) (by omega) (by simp [Value.ownBlock])).trans (hB2.block q hq)⟩
    have hfar : ∀ b, b < w.heap.size → Far w1.heap.size v3 b := fun b hb => ⟨by omega, fun he => by have := (a3.own.lt b he.symm).1; omega⟩
    have ht3 : TAt (Far w1.heap.size v3) w3 true t av 0 t.len := ht2.keep (fun b hb _ => k3.block b (by omega) (by omega) (by simp [Value.ownBlock])) (fun b hb _ => hfar b hb) _ _ _ _ _
    have c1 := (cell_row n3 1).trans rfl
    have M3 : Hid _ := bw_all w1.heap.size (w1.heap.size + 1) t.sz t (Nat.le_refl _) w3 v3 _ av ac a3 ht3 (by simp; omega) hb.sz.1
    go_wp2_with fail
    refine Calls.mono M3.out ?_
    clear M3
    rintro e w4 ⟨rfl, v4, a4, k4, o4⟩
    have hB4 : Below w.heap.size w w4 := ⟨k4.os.trans hB3.os, k4.tape.trans hB3.tape, k4.output.trans hB3.output, by have := k4.size; have := hB3.size; omega, fun q hq => (k4.block q (by have := hB3.size; omega) (by omega) (hfar q hq).2).trans (hB3.block q hq)⟩
    have HTk : Hid ([] ++ [nmT wSaga, nmT x] ++ (mkT mOpen :: (pr true t ++ [mkT mShut])) = pSaga x t) := rfl
    rw [HTk.out] at a4
    have d0 := (cell_row a4.blk 0).trans rfl
    have hrx := readsX_of_readsT (readsT_of_owns a4.own)
    have M4 : Hid _ := join_any v4 (txts (pSaga x t)) w4 hrx (by simp [txts, pSaga]; omega) (by rw [bys_txts]; show (textS x t).length ≤ _; omega)
    go_wp2_with fail
    refine Calls.mono M4.out ?_
    rintro e w5 ⟨rfl, hb5⟩
    go_wp2_with fail
    go_ret2
    refine ⟨?_, hB4.trans (hb5.mono hB4.size)⟩
    rw [HGo.out, HC.out, bys_txts]
    rfl
end Go.Proofs.Ytlmfmgpamhhncaa

