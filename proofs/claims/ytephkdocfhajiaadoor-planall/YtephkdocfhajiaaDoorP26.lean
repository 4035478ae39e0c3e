/- Texts of the seat, packed: Zt Zu. -/
import Derived.Test.YtephkdocfhajiaaDoorP25
/- What the program's planOf knows between two steps: the items' own row, the numbers of the names, the two boxes. -/
namespace Go.Proofs.YtephkdocfhajiaaDoor
open Go.RowKit Go.Shelf Go.Proofs.YtephkdocfhajiaaDoor.Sx

/-- One more name with its number. -/
def numPut (num : By → Option Nat) (x : Pd) : By → Option Nat := fun y => if y = x.lab.name then some x.num else num y

/-- The numbers of the names of such nodes. -/
def numF (xs : List Pd) : By → Option Nat := xs.foldl numPut fun _ => none

theorem numF_snoc (xs : List Pd) (x : Pd) : numF (xs ++ [x]) = numPut (numF xs) x := by
  simp [numF, List.foldl_append]

/-- May the node at j be numbered: has none ahead of it its name, and has it its undo? -/
def goodAt (xs : List Pd) (j : Nat) : Bool := match xs[j]? with
  | none => true
  | some x => (numF (xs.take j) x.lab.name).isNone && hasUndo x.lab

def goodN (xs : List Pd) : Bool := (List.range xs.length).all (goodAt xs)

theorem goodN_true {xs : List Pd} (h : ∀ j, j < xs.length → goodAt xs j = true) : goodN xs = true := by
  unfold goodN
  rw [List.all_eq_true]
  intro j hj
  exact h j (List.mem_range.1 hj)

theorem goodN_false {xs : List Pd} {j : Nat} (hj : j < xs.length) (h : goodAt xs j = false) : goodN xs = false := by
  unfold goodN
  rw [List.all_eq_false]
  exact ⟨j, List.mem_range.2 hj, by rw [h]; simp⟩

/-- The saga itself as an item. -/
def rootI (x : By) (am : Nat) : It := ⟨x, [], true, true, (am : Int), -1, 0, []⟩

/-- The items once k nodes are numbered. -/
def its1 (x : By) (am : Nat) (xs : List Pd) (k : Nat) : List It := rootI x am :: (xs.take k).map Pd.item

theorem its1_succ {x : By} {am : Nat} {xs : List Pd} {k : Nat} {y : Pd} (hy : xs[k]? = some y) : its1 x am xs (k + 1) = its1 x am xs k ++ [y.item] := by
  unfold its1
  rw [List.take_add_one, hy]
  simp

/-- The cells of items, with the values of their After. -/
def flatV : List It → List Value → List Value
  | x :: r, u :: s => [.string ⟨x.name.toArray⟩, .string ⟨x.undo.toArray⟩, .bool x.sub, .bool x.vital, .int .i64 x.alts, .int .i64 x.inn, .int .i64 x.alt, u] ++ flatV r s
  | _, _ => []

theorem flatV_len : ∀ (its : List It) (aft : List Value), aft.length = its.length → (flatV its aft).length = its.length * 8
  | [], _, _ => by simp [flatV]
  | x :: r, [], h => by simp at h
  | x :: r, u :: s, h => by
    have := flatV_len r s (by simpa using h)
    simp only [flatV, List.length_append, List.length_cons, List.length_nil]
    omega

theorem flatV_append : ∀ (its : List It) (aft : List Value) (its' : List It) (aft' : List Value), aft.length = its.length → flatV (its ++ its') (aft ++ aft') = flatV its aft ++ flatV its' aft'
  | [], [], _, _, _ => by simp [flatV]
  | [], u :: s, _, _, h => by simp at h
  | x :: r, [], _, _, h => by simp at h
  | x :: r, u :: s, its', aft', h => by
    have := flatV_append r s its' aft' (by simpa using h)
    simp only [List.cons_append, flatV, this, List.append_assoc]

theorem flatV_at : ∀ (its : List It) (aft : List Value) (i : Nat) (x : It) (u : Value), its[i]? = some x → aft[i]? = some u →
    (flatV its aft).drop (i * 8) = [.string ⟨x.name.toArray⟩, .string ⟨x.undo.toArray⟩, .bool x.sub, .bool x.vital, .int .i64 x.alts, .int .i64 x.inn, .int .i64 x.alt, u] ++ flatV (its.drop (i + 1)) (aft.drop (i + 1))
  | [], _, i, x, u, h, _ => by simp at h
  | y :: r, [], i, x, u, _, h => by simp at h
  | y :: r, v :: s, 0, x, u, h, h' => by
    simp at h h'
    subst h h'
    simp [flatV]
  | y :: r, v :: s, i + 1, x, u, h, h' => by
    have := flatV_at r s i x u (by simpa using h) (by simpa using h')
    rw [show (i + 1) * 8 = 8 + i * 8 by omega, ← List.drop_drop]
    simpa [flatV] using this

/-- Two worlds agree on such blocks. -/
def Agree (G : Nat → Prop) (A B : World) : Prop := ∀ b, G b → B.heap[b]? = A.heap[b]?

theorem own_agree {G : Nat → Prop} {A B : World} (h : Agree G A B) {base e size n : Nat} {v : Value} {xs : List Value} (ho : A.ownsRow base e size v n xs) (hg : ∀ b, v.ownBlock = some b → G b) : B.ownsRow base e size v n xs := by
  refine ⟨ho.1, ?_⟩
  rcases ho.2 with h0 | ⟨g, cap, cur, rfl, hb, hh, h1⟩
  · exact .inl h0
  · exact .inr ⟨g, cap, cur, rfl, hb, (h g (hg g rfl)).trans hh, h1⟩

theorem num_agree {G : Nat → Prop} {A B : World} (h : Agree G A B) {mb n : Nat} {num : By → Option Nat} (hm : NumM A mb n num) (hg : G mb) : NumM B mb n num := by
  obtain ⟨D, h1, ⟨es, clock, h2, h3⟩, h4⟩ := hm
  exact ⟨D, h1, ⟨es, clock, (h mb hg).trans h2, h3⟩, h4⟩

/-- Whole numbers in blocks of G. -/
def RdG (G : Nat → Prop) (w : World) (v : Value) (l : List Int) : Prop := ∃ a cap, v = .slice a l.length cap ∧ l.length ≤ cap ∧ ∀ (i : Nat) (x : Int), l[i]? = some x → ∃ b off, G b ∧ a = some ⟨b, off, none⟩ ∧ w.cell? ⟨b, off + i, none⟩ = some (.int .i64 x)

theorem RdG.rd {G : Nat → Prop} {w : World} {v : Value} {l : List Int} (h : RdG G w v l) : RdZ w v l := by
  obtain ⟨a, cap, hv, hc, hr⟩ := h
  refine ⟨a, cap, hv, hc, fun i x hi => ?_⟩
  obtain ⟨b, off, _, h1, h2⟩ := hr i x hi
  exact ⟨b, off, h1, h2⟩

theorem RdG.agree {G G' : Nat → Prop} {A B : World} {v : Value} {l : List Int} (h : RdG G A v l) (ha : Agree G A B) (hg : ∀ b, G b → G' b) : RdG G' B v l := by
  obtain ⟨a, cap, hv, hc, hr⟩ := h
  refine ⟨a, cap, hv, hc, fun i x hi => ?_⟩
  obtain ⟨b, off, h0, h1, h2⟩ := hr i x hi
  exact ⟨b, off, hg b h0, h1, (World.cell?_of_block (a := ⟨b, off + i, none⟩) (ha b h0)).trans h2⟩

theorem RdG.nil (G : Nat → Prop) (w : World) : RdG G w (.slice none 0 0) [] := ⟨none, 0, rfl, Nat.le_refl _, fun i x hi => by simp at hi⟩

/-- What planOf holds: the saga's box, the box of the items with their row, the box of the numbers with their map; G are its blocks. -/
structure PSt (G : Nat → Prop) (base : Nat) (A : World) (bs bi bm mb n : Nat) (sc : Array Value) (iv : Value) (its : List It) (aft : List Value) (num : By → Option Nat) : Prop where
  hbs : A.heap[bs]? = some (.cells sc 24 (0, 0))
  hbi : A.heap[bi]? = some (.cells #[iv] 25 (0, 0))
  hbm : A.heap[bm]? = some (.cells #[.map (some mb)] 103 (0, 0))
  gs : G bs
  gi : G bi
  gm : G bm
  gb : G mb
  ne : bs ≠ bi ∧ bm ≠ bi ∧ mb ≠ bi ∧ mb ≠ bs ∧ mb ≠ bm
  own : A.ownsRow base 43 8 iv its.length (flatV its aft)
  gv : ∀ b, iv.ownBlock = some b → G b ∧ b ≠ bi ∧ b ≠ bs ∧ b ≠ bm ∧ b ≠ mb
  len : aft.length = its.length
  rd : ∀ (i : Nat) (x : It) (u : Value), its[i]? = some x → aft[i]? = some u → RdG G A u x.after
  nums : NumM A mb n num

theorem PSt.agree {G : Nat → Prop} {base : Nat} {A B : World} {bs bi bm mb n : Nat} {sc : Array Value} {iv : Value} {its : List It} {aft : List Value} {num : By → Option Nat} (h : PSt G base A bs bi bm mb n sc iv its aft num) (ha : Agree G A B) :
    PSt G base B bs bi bm mb n sc iv its aft num :=
  ⟨(ha _ h.gs).trans h.hbs, (ha _ h.gi).trans h.hbi, (ha _ h.gm).trans h.hbm, h.gs, h.gi, h.gm, h.gb, h.ne, own_agree ha h.own (fun b hb => (h.gv b hb).1), h.gv, h.len, fun i x u hx hu => (h.rd i x u hx hu).agree ha (fun _ => id), num_agree ha h.nums h.gb⟩

/-- The blocks of planOf and those of the iterator lie apart. -/
def Apart (base : Nat) (G T : Nat → Prop) (A : World) : Prop := ∀ b, G b → base ≤ b ∧ b < A.heap.size ∧ ¬ T b

theorem Apart.mv {base : Nat} {G T T' : Nat → Prop} {A B : World} (h : Apart base G T A) (m : Mv T A T' B) : Apart base G T' B := fun b hb =>
  ⟨(h b hb).1, Nat.lt_of_lt_of_le (h b hb).2.1 m.size, fun ht => (h b hb).2.2 ((m.old b (h b hb).2.1).1 ht)⟩

theorem Apart.agree {base : Nat} {G T T' : Nat → Prop} {A B : World} (h : Apart base G T A) (m : Mv T A T' B) : Agree G A B := fun b hb => m.same b (h b hb).2.1 (h b hb).2.2

theorem PSt.mv {G T T' : Nat → Prop} {base : Nat} {A B : World} {bs bi bm mb n : Nat} {sc : Array Value} {iv : Value} {its : List It} {aft : List Value} {num : By → Option Nat} (h : PSt G base A bs bi bm mb n sc iv its aft num) {b0 : Nat} (ha : Apart b0 G T A) (m : Mv T A T' B) :
    PSt G base B bs bi bm mb n sc iv its aft num := h.agree (ha.agree m)

/-- What planOf holds of the items, as a slice that can be read. -/
theorem PSt.items {G : Nat → Prop} {base : Nat} {A : World} {bs bi bm mb n : Nat} {sc : Array Value} {iv : Value} {its : List It} {aft : List Value} {num : By → Option Nat} (h : PSt G base A bs bi bm mb n sc iv its aft num) : RdIt A iv its := by
  have hl := h.len
  have hrd := h.rd
  rcases h.own.2 with ⟨rfl, h0⟩ | ⟨g, cap, cur, rfl, hb, hg, hcap, _, hsz, ht⟩
  · have : its = [] := List.length_eq_zero_iff.1 h0
    subst this
    exact ⟨none, 0, rfl, Nat.le_refl _, fun i x hx => by simp at hx⟩
  · refine ⟨_, cap, rfl, hcap, fun i x hx => ?_⟩
    have hi : i < its.length := (List.getElem?_eq_some_iff.1 hx).1
    obtain ⟨u, hu⟩ : ∃ u, aft[i]? = some u := ⟨_, List.getElem?_eq_getElem (by omega)⟩
    have hz := hrd i x u hx hu
    have hat : ∀ j v, j < 8 → ([.string ⟨x.name.toArray⟩, .string ⟨x.undo.toArray⟩, .bool x.sub, .bool x.vital, .int .i64 x.alts, .int .i64 x.inn, .int .i64 x.alt, u] : List Value)[j]? = some v → A.cell? ⟨g, 0 + i * 8 + j, none⟩ = some v := by
      intro j v hj hv
      rw [Dg.cell_row hg, ← Array.getElem?_toList]
      have h1 : (cur.toList.take (its.length * 8))[0 + i * 8 + j]? = (flatV its aft)[0 + i * 8 + j]? := by rw [ht]
      rw [List.getElem?_take_of_lt (by omega)] at h1
      rw [h1]
      have h2 : ((flatV its aft).drop (i * 8))[j]? = some v := by
        rw [flatV_at its aft i x u hx hu, List.getElem?_append_left (by simpa using hj)]
        exact hv
      rw [List.getElem?_drop] at h2
      rw [← h2]
      congr 1
      omega
    obtain ⟨av, am, ac, hue⟩ : ∃ av am ac, u = .slice av am ac := by
      obtain ⟨a, c, hv, _⟩ := hz
      exact ⟨_, _, _, hv⟩
    subst hue
    exact ⟨g, 0, av, am, ac, rfl, hat 0 _ (by omega) rfl, hat 1 _ (by omega) rfl, hat 2 _ (by omega) rfl, hat 3 _ (by omega) rfl, hat 4 _ (by omega) rfl, hat 5 _ (by omega) rfl, hat 6 _ (by omega) rfl, hat 7 _ (by omega) rfl, hz.rd⟩
end Go.Proofs.YtephkdocfhajiaaDoor

/- What the program's planOf knows, a step on: a name numbered, an item more, an item's leanings laid. -/
namespace Go.Proofs.YtephkdocfhajiaaDoor
open Go.RowKit Go.Shelf Go.Proofs.YtephkdocfhajiaaDoor.Sx

theorem Agree.grown {G : Nat → Prop} {A B : World} {row : Option Nat} (hg : A.grownBy B row) (hlt : ∀ b, G b → b < A.heap.size) (hne : ∀ b, G b → some b ≠ row) : Agree G A B := fun b hb => hg.block b (hlt b hb) (hne b hb)

theorem Agree.below {G : Nat → Prop} {A B : World} (hb : Below A.heap.size A B) (hlt : ∀ b, G b → b < A.heap.size) : Agree G A B := fun b h => hb.block b (hlt b h)

/-- A name more has its number. -/
theorem PSt.numbered {G : Nat → Prop} {base : Nat} {A B : World} {bs bi bm mb n : Nat} {sc : Array Value} {iv : Value} {its : List It} {aft : List Value} {num num' : By → Option Nat} (h : PSt G base A bs bi bm mb n sc iv its aft num)
    (hg : A.grownBy B (some mb)) (hlt : ∀ b, G b → b < A.heap.size) (hmap : ∀ (i : Nat) (x : It) (u : Value), its[i]? = some x → aft[i]? = some u → RdG (fun b => G b ∧ b ≠ mb) A u x.after) (hn : NumM B mb (n + 1) num') :
    PSt G base B bs bi bm mb (n + 1) sc iv its aft num' := by
  have ha : Agree (fun b => G b ∧ b ≠ mb) A B := Agree.grown hg (fun b hb => hlt b hb.1) (fun b hb e => hb.2 (by cases e; rfl))
  obtain ⟨e1, e2, e3, e4, e5⟩ := h.ne
  exact ⟨(ha _ ⟨h.gs, fun e => e4 e.symm⟩).trans h.hbs, (ha _ ⟨h.gi, fun e => e3 e.symm⟩).trans h.hbi, (ha _ ⟨h.gm, fun e => e5 e.symm⟩).trans h.hbm, h.gs, h.gi, h.gm, h.gb, h.ne,
    own_agree ha h.own (fun b hb => ⟨(h.gv b hb).1, (h.gv b hb).2.2.2.2⟩), h.gv, h.len, fun i x u hx hu => (hmap i x u hx hu).agree ha (fun _ hb => hb.1), hn⟩

/-- A cell of numbers is no cell of another thing. -/
theorem RdG.set {G : Nat → Prop} {A : World} {v : Value} {l : List Int} (h : RdG G A v l) {p : Addr} {o : Value} (hp : A.cell? p = some o) (hno : ∀ x : Int, o ≠ .int .i64 x) (u : Value) : RdG G (A.setCell p u) v l := by
  obtain ⟨a, cap, hv, hc, hr⟩ := h
  refine ⟨a, cap, hv, hc, fun i x hi => ?_⟩
  obtain ⟨b, off, h0, h1, h2⟩ := hr i x hi
  refine ⟨b, off, h0, h1, ?_⟩
  have hne : (⟨b, off + i, none⟩ : Addr) ≠ p := by
    intro e
    rw [← e, h2] at hp
    cases hp
    exact hno x rfl
  rw [World.cell?_setCell_other (h := Ne.symm hne)]
  exact h2

/-- An item more stands behind the others. -/
theorem PSt.push {G : Nat → Prop} {base : Nat} {A A1 : World} {bs bi bm mb n : Nat} {sc : Array Value} {iv iv' : Value} {its : List It} {aft : List Value} {num : By → Option Nat} (h : PSt G base A bs bi bm mb n sc iv its aft num) (y : It) (hya : y.after = [])
    (ho : A1.ownsRow base 43 8 iv' (its.length + 1) (flatV its aft ++ [.string ⟨y.name.toArray⟩, .string ⟨y.undo.toArray⟩, .bool y.sub, .bool y.vital, .int .i64 y.alts, .int .i64 y.inn, .int .i64 y.alt, .slice none 0 0]))
    (hg : A.grownBy A1 iv.ownBlock) (hat : iv'.ownBlock = iv.ownBlock ∨ iv'.ownBlock = some A.heap.size) (hlt : ∀ b, G b → b < A.heap.size)
    (hmap : ∀ (i : Nat) (x : It) (u : Value), its[i]? = some x → aft[i]? = some u → x.after = [] ∧ u = .slice none 0 0) :
    PSt (fun b => G b ∨ iv'.ownBlock = some b) base (A1.setCell ⟨bi, 0, none⟩ iv') bs bi bm mb n sc iv' (its ++ [y]) (aft ++ [.slice none 0 0]) num := by
  obtain ⟨e1, e2, e3, e4, e5⟩ := h.ne
  have hag : Agree (fun b => G b ∧ ∀ g, iv.ownBlock = some g → b ≠ g) A A1 := Agree.grown hg (fun b hb => hlt b hb.1) (fun b hb e => hb.2 b e.symm rfl)
  have hbi1 : A1.heap[bi]? = some (.cells #[iv] 25 (0, 0)) := (hag bi ⟨h.gi, fun g hg' e => (h.gv g hg').2.1 e.symm⟩).trans h.hbi
  have hoth : ∀ b, b ≠ bi → (A1.setCell ⟨bi, 0, none⟩ iv').heap[b]? = A1.heap[b]? := fun b hb => Below.heap_setCell A1 ⟨bi, 0, none⟩ iv' b hb
  have hgv : ∀ b, iv'.ownBlock = some b → (G b ∨ iv'.ownBlock = some b) ∧ b ≠ bi ∧ b ≠ bs ∧ b ≠ bm ∧ b ≠ mb := by
    intro b hb
    have hb0 := hb
    rcases hat with hat | hat
    · rw [hat] at hb
      obtain ⟨k1, k2⟩ := h.gv b hb
      exact ⟨.inl k1, k2⟩
    · rw [hat] at hb
      cases hb
      have l1 := hlt _ h.gi
      have l2 := hlt _ h.gs
      have l3 := hlt _ h.gm
      have l4 := hlt _ h.gb
      exact ⟨.inr hb0, by omega, by omega, by omega, by omega⟩
  refine ⟨?_, ?_, ?_, .inl h.gs, .inl h.gi, .inl h.gm, .inl h.gb, h.ne, ?_, hgv, by simp [h.len], ?_, ?_⟩
  · rw [hoth bs e1]
    exact (hag bs ⟨h.gs, fun g hg' e => (h.gv g hg').2.2.1 e.symm⟩).trans h.hbs
  · have := Dg.row_set hbi1 0 iv'
    simpa using this
  · rw [hoth bm e2]
    exact (hag bm ⟨h.gm, fun g hg' e => (h.gv g hg').2.2.2.1 e.symm⟩).trans h.hbm
  · have hfl : flatV (its ++ [y]) (aft ++ [.slice none 0 0]) = flatV its aft ++ [.string ⟨y.name.toArray⟩, .string ⟨y.undo.toArray⟩, .bool y.sub, .bool y.vital, .int .i64 y.alts, .int .i64 y.inn, .int .i64 y.alt, .slice none 0 0] := by
      rw [flatV_append _ _ _ _ h.len]
      simp [flatV]
    rw [hfl, List.length_append]
    exact own_agree (G := fun b => b ≠ bi) (fun b hb => hoth b hb) ho (fun b hb => (hgv b hb).2.1)
  · intro i x u hx hu
    by_cases hi : i < its.length
    · rw [List.getElem?_append_left hi] at hx
      rw [List.getElem?_append_left (by rw [h.len]; exact hi)] at hu
      obtain ⟨k1, k2⟩ := hmap i x u hx hu
      rw [k1, k2]
      exact RdG.nil _ _
    · have hil : i = its.length := by
        have := (List.getElem?_eq_some_iff.1 hx).1
        simp at this
        omega
      subst hil
      rw [List.getElem?_append_right (Nat.le_refl _)] at hx
      rw [List.getElem?_append_right (by rw [h.len]; exact Nat.le_refl _)] at hu
      simp [h.len] at hx hu
      rw [← hx, ← hu, hya]
      exact RdG.nil _ _
  · refine num_agree (G := fun b => b = mb) (fun b hb => ?_) h.nums rfl
    subst hb
    rw [hoth _ e3]
    exact hag _ ⟨h.gb, fun g hg' e => (h.gv g hg').2.2.2.2 e.symm⟩

theorem flatV_set : ∀ (its : List It) (aft : List Value) (i : Nat) (x : It) (u : Value) (l : List Int), aft.length = its.length → its[i]? = some x → flatV (its.set i { x with after := l }) (aft.set i u) = (flatV its aft).set (i * 8 + 7) u
  | [], _, i, x, u, l, _, h => by simp at h
  | y :: r, [], i, x, u, l, h, _ => by simp at h
  | y :: r, v :: s, 0, x, u, l, _, hx => by
    simp at hx
    subst hx
    simp [flatV]
  | y :: r, v :: s, i + 1, x, u, l, h, hx => by
    have := flatV_set r s i x u l (by simpa using h) (by simpa using hx)
    rw [show (i + 1) * 8 + 7 = 8 + (i * 8 + 7) by omega]
    simp only [List.set_cons_succ, flatV, this, List.cons_append, List.nil_append]
    rw [show 8 + (i * 8 + 7) = (i * 8 + 7) + 1 + 1 + 1 + 1 + 1 + 1 + 1 + 1 by omega]
    simp only [List.set_cons_succ]

/-- An item's leanings are laid. -/
theorem PSt.lean {G : Nat → Prop} {base : Nat} {A : World} {bs bi bm mb n : Nat} {sc : Array Value} {its : List It} {aft : List Value} {num : By → Option Nat} {g cap : Nat} (h : PSt G base A bs bi bm mb n sc (.slice (some ⟨g, 0, none⟩) its.length cap) its aft num)
    (G' : Nat → Prop) (hGG : ∀ b, G b → G' b) (i : Nat) (x : It) (hx : its[i]? = some x) (u : Value) (l : List Int) (hu : RdG G' A u l) (hsl : ∀ v ∈ aft, ∀ z : Int, v ≠ .int .i64 z) :
    PSt G' base (A.setCell ⟨g, i * 8 + 7, none⟩ u) bs bi bm mb n sc (.slice (some ⟨g, 0, none⟩) its.length cap) (its.set i { x with after := l }) (aft.set i u) num := by
  obtain ⟨gG, g1, g2, g3, g4⟩ := h.gv g rfl
  have hil : i < its.length := (List.getElem?_eq_some_iff.1 hx).1
  obtain ⟨v, hv⟩ : ∃ v, aft[i]? = some v := ⟨_, List.getElem?_eq_getElem (by rw [h.len]; exact hil)⟩
  have hcell : A.cell? ⟨g, i * 8 + 7, none⟩ = some v := by
    rw [World.ownsRow.cellAt h.own (i * 8 + 7) (by omega)]
    have := flatV_at its aft i x v hx hv
    have h2 : ((flatV its aft).drop (i * 8))[7]? = some v := by rw [this]; rfl
    rw [List.getElem?_drop] at h2
    exact h2
  have hno : ∀ z : Int, v ≠ .int .i64 z := hsl v (List.mem_of_getElem? hv)
  have hoth : ∀ b, b ≠ g → (A.setCell ⟨g, i * 8 + 7, none⟩ u).heap[b]? = A.heap[b]? := fun b hb => Below.heap_setCell A ⟨g, i * 8 + 7, none⟩ u b hb
  refine ⟨?_, ?_, ?_, hGG _ h.gs, hGG _ h.gi, hGG _ h.gm, hGG _ h.gb, h.ne, ?_, fun b hb => ⟨hGG _ (h.gv b hb).1, (h.gv b hb).2⟩, by simp [h.len], ?_, ?_⟩
  · rw [hoth bs (fun e => g2 e.symm)]; exact h.hbs
  · rw [hoth bi (fun e => g1 e.symm)]; exact h.hbi
  · rw [hoth bm (fun e => g3 e.symm)]; exact h.hbm
  · rw [flatV_set its aft i x u l h.len hx, List.length_set]
    exact (World.ownsRow.stored h.own (i * 8 + 7) u).1
  · intro j y w hy hw
    by_cases hj : j = i
    · subst hj
      rw [List.getElem?_set_self hil] at hy
      rw [List.getElem?_set_self (by rw [h.len]; exact hil)] at hw
      cases hy
      cases hw
      exact hu.set hcell hno u
    · rw [List.getElem?_set_ne (Ne.symm hj)] at hy hw
      exact ((h.rd j y w hy hw).agree (fun _ _ => rfl) hGG).set hcell hno u
  · refine num_agree (G := fun b => b = mb) (fun b hb => ?_) h.nums rfl
    subst hb
    exact hoth _ (fun e => g4 e.symm)

/-- A row of one type is no row of another. -/
theorem own_other {A : World} {base e size n : Nat} {v : Value} {xs : List Value} (h : A.ownsRow base e size v n xs) {b : Nat} {cs : Array Value} {t : TypeId} (hb : A.heap[b]? = some (.cells cs t (0, 0))) (hne : t ≠ e) : some b ≠ v.ownBlock := by
  intro he
  rcases h.2 with ⟨rfl, _⟩ | ⟨g, cap, cur, rfl, _, hg, _⟩
  · cases he
  · have : b = g := Option.some.inj he
    subst this
    rw [hb] at hg
    injection hg with hg
    injection hg with _ h2 _
    exact hne h2

theorem own_slice {A : World} {base e size n : Nat} {v : Value} {xs : List Value} (h : A.ownsRow base e size v n xs) : ∃ a c, v = .slice a n c := by
  rcases h.2 with ⟨rfl, rfl⟩ | ⟨g, cap, cur, rfl, _⟩
  · exact ⟨_, _, rfl⟩
  · exact ⟨_, _, rfl⟩

theorem own_exists {A : World} {base e size n : Nat} {v : Value} {xs : List Value} (h : A.ownsRow base e size v n xs) : ∀ b, v.ownBlock = some b → base ≤ b ∧ b < A.heap.size := h.lt

/-- A step by a law that ends in 'grownBy' keeps what the iterator owns. -/
theorem Rv.grown {n0 : Nat} {T : Nat → Prop} {A B : World} {row : Option Nat} (hg : A.grownBy B row) (hn : n0 ≤ A.heap.size) (hr : ∀ b, row = some b → n0 ≤ b ∧ ¬ T b) : Rv n0 T A B :=
  ⟨hg.os, hg.tape, hg.output, hg.size, fun k hk => hg.block k (by omega) (fun e => by have := (hr k e.symm).1; omega), fun k hk hl => hg.block k hl (fun e => (hr k e.symm).2 hk)⟩

/-- What an operation does out of a round it does in one, if it defers nothing. -/
theorem oper_round {P : Program} {o : Oper} {a : Act} {w : World} {K : Act → World → Prop} {Q : Exit → Act → World → Prop} (l n : Nat) (hnd : ∀ c, o.op ≠ .defer c) (h : o.wp P a w K Q) : o.wpIn (Fence.wide.inRound l) n P a w K Q := by
  refine ⟨fun f _ => trivial, ?_⟩
  rw [Oper.semAt_eq _ _ _ hnd]
  unfold Oper.wp at h
  cases hr : (execOp a.eval o).run P w with
  | halt x w' =>
    rw [hr] at h
    cases x with
    | panic v => exact h
    | _ => exact h.elim
  | ok nx w' =>
    rw [hr] at h
    cases nx with
    | value v => exact h
    | skip => exact h
    | defer d => exact h
    | enter f args => exact ⟨(fun hd => by cases hd), CallsIn.inRound l (callsIn_wide.2 h)⟩
    | row r args => exact ⟨(fun hd => by cases hd), fun c cs _ => let ⟨v, w2, r1, r2⟩ := h c cs; ⟨v, w2, r1, stepsIn_wide.2 r2⟩⟩
    | _ => exact h.elim

theorem any_round {P : Program} {md : Region.Mode} {ops : Array Oper} {Q : Exit → Act → World → Prop} (l n : Nat) (hnd : ∀ (i : Nat) (o : Oper), ops[i]? = some o → ∀ c, o.op ≠ .defer c) (hno : ¬ LetsOut Q) : ∀ (fuel : Nat) (listed : Array Bool) (a : Act) (w : World), wpAny P md ops Q fuel listed a w → wpAnyIn (Fence.wide.inRound l) n P md ops Q fuel listed a w
  | 0, _, _, _, h => h
  | fuel + 1, listed, a, w, h => by
    refine ⟨h.1, fun i hi => ?_⟩
    have h2 := h.2 i hi
    unfold wpOp at h2
    unfold wpOpIn
    cases ho : ops[i]? with
    | none =>
      rw [ho] at h2
      exact any_round l n hnd hno fuel _ _ _ h2
    | some o =>
      rw [ho] at h2
      simp only at h2 ⊢
      by_cases hw : Region.wanted o (yielded ops a.tmps) = true
      · rw [if_pos hw] at h2 ⊢
        rcases h2 with h2 | h2
        · exact Oper.wpIn_mono (fun a w h => any_round l n hnd hno fuel _ _ _ h) (oper_round l n (hnd i o ho) h2)
        · exact absurd h2.2 hno
      · rw [if_neg hw] at h2 ⊢
        exact ⟨fun f _ => trivial, any_round l n hnd hno fuel _ _ _ h2⟩

/-- A region that draws its order, in a round. -/
theorem regionH_round {P : Program} {id : Nat} {ops : Array Oper} {Q : Exit → Act → World → Prop} {S : World → Prop} {a : Act} {w : World} (l n : Nat) (hm : P.follows .mixedOrders = true) (hnd : ∀ (i : Nat) (o : Oper), ops[i]? = some o → ∀ c, o.op ≠ .defer c) (hno : ¬ LetsOut Q)
    (h : wpAnyH P .any ops Q S ops.size (Array.replicate ops.size false) a w.drew) : (Code.region id ops true).wpIn (Fence.wide.inRound l) n P Q a w :=
  wpIn_region_any hm (any_round l n hnd hno _ _ _ _ (wpAny_of_held _ _ _ _ h))

def noDefer (o : Oper) : Bool := match o.op with
  | .defer _ => false
  | _ => true

theorem noDefer_all {ops : Array Oper} (h : ops.all noDefer = true) : ∀ (i : Nat) (o : Oper), ops[i]? = some o → ∀ c, o.op ≠ .defer c := by
  intro i o ho c hc
  rw [Array.all_eq_true] at h
  obtain ⟨hi, he⟩ := Array.getElem?_eq_some_iff.1 ho
  have := h i hi
  rw [he] at this
  unfold noDefer at this
  rw [hc] at this
  cases this

theorem wpOp_value {P : Program} {ops : Array Oper} {Q : Exit → Act → World → Prop} {i : Nat} {K : Act → World → Prop} {a : Act} {w w' : World} {o : Oper} {d : Tmp} {v : Value} (hi : ops[i]? = some o) (hd : o.dst = some d) (hw : Region.wanted o (yielded ops a.tmps) = true)
    (hrun : (execOp a.eval o).run P w = .ok (.value v) w') (hK : K { tmps := a.tmps.setIfInBounds d v, defers := a.defers } w') : wpOp P ops Q i K a w := by
  have hp : a.put o.dst v = { tmps := a.tmps.setIfInBounds d v, defers := a.defers } := by rw [hd]; rfl
  unfold wpOp
  simp only [hi]
  rw [if_pos hw]
  refine .inl ?_
  unfold Oper.wp
  rw [hrun]
  show K (a.put o.dst v) w'
  rw [hp]
  exact hK

theorem wpOp_skip {P : Program} {ops : Array Oper} {Q : Exit → Act → World → Prop} {i : Nat} {K : Act → World → Prop} {a : Act} {w w' : World} {o : Oper} (hi : ops[i]? = some o) (hd : o.dst = none) (hw : Region.wanted o (yielded ops a.tmps) = true)
    (hrun : (execOp a.eval o).run P w = .ok .skip w') (hK : K a w') : wpOp P ops Q i K a w := by
  have hp : a.put o.dst undef = a := by rw [hd]; rfl
  unfold wpOp
  simp only [hi]
  rw [if_pos hw]
  refine .inl ?_
  unfold Oper.wp
  rw [hrun]
  show K (a.put o.dst undef) w'
  rw [hp]
  exact hK

/-- 'append' onto a row of the call's own, as one operation of a region that draws, in a round or not. -/
theorem stepIn_append_own {F : Fence} {nF : Nat} {P : Program} {w : World} {o : Oper} {a : Act} {K : Act → World → Prop} {Q : Exit → Act → World → Prop} (s x : Operand) (t : TypeId)
    (ho : o.op = .call { callee := .builtin .append, args := #[s, x], argTypes := #[t, t] })
    (base : Nat) (e : TypeId) (i : TypeInfo) (z : Value) (size bytes : Nat) (ht : P.underlying t = some (.slice e)) (hi : P.info? e = some i) (hz : i.zero = some z)
    (hsize : i.size = size) (hby : i.bytes = bytes) (hzs : z.cells.size = size) (hsz : 0 < size)
    (v : Value) (n : Nat) (xs : List Value) (hs : a.eval s = v) (hown : w.ownsRow base e size v n xs)
    (ad : Addr) (m c : Nat) (news : List Value) (hx : a.eval x = .slice (some ad) m c) (hl : news.length = m * size) (hnews : ∀ j u, news[j]? = some u → w.cell? (ad.add j) = some u) (h1 : ∀ u ∈ news, u.oneCell' = true)
    (h63 : n + m ≤ maxLen) (hbytes : (n + m) * bytes ≤ 140737488355328) (hbase : base ≤ w.heap.size)
    (h : ∀ v' w', w'.ownsRow base e size v' (n + m) (xs ++ news) → w.grownBy w' v.ownBlock → (v'.ownBlock = v.ownBlock ∨ v'.ownBlock = some w.heap.size) → K (a.put o.dst v') w') :
    Oper.wpIn F nF P o a w K Q := by
  obtain ⟨v', w', hr, h2, h3, h4, h5⟩ := run_append_own_at (P := P) w base t o.type e i z size bytes ht hi hz hsize hby hzs hsz v n xs hown ad m c news hl hnews h1 h63 hbytes hbase
  unfold Oper.wpIn
  refine ⟨by simp [Oper.about, ho, resolve, Target.leads, Sem.run_pure], ?_⟩
  rw [Oper.semAt_plain F _ _ (by rw [ho]; intro c hc'; cases hc')]
  simp [execOp, ho, resolve, invoke, builtin, hs, hx, hr, Result.andThen]
  exact h v' w' h2 h3 h5
end Go.Proofs.YtephkdocfhajiaaDoor

