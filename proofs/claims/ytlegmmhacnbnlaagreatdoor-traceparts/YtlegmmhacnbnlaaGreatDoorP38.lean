/- Texts of the seat, packed: Zu Zx Zy. -/
import Derived.Test.YtlegmmhacnbnlaaGreatDoorP37
import Derived.Test.YtlegmmhacnbnlaaGreatDoorP13
/- What the program's planOf knows, a step on: a name numbered, an item more, an item's leanings laid. -/
namespace Go.Proofs.YtlegmmhacnbnlaaGreatDoor

open Go.RowKit Go.Shelf Go.Proofs.YtlegmmhacnbnlaaGreatDoor.Sx

theorem Agree.grown {G : Nat → Prop} {A B : World} {row : Option Nat} (hg : A.grownBy B row) (hlt : ∀ b, G b → b < A.heap.size) (hne : ∀ b, G b → some b ≠ row) : Agree G A B := fun b hb => hg.block b (hlt b hb) (hne b hb)

theorem Agree.below {G : Nat → Prop} {A B : World} (hb : Below A.heap.size A B) (hlt : ∀ b, G b → b < A.heap.size) : Agree G A B := fun b h => hb.block b (hlt b h)

/-- A name more has its number. -/
theorem PSt.numbered {G : Nat → Prop} {base : Nat} {A B : World} {bs bi bm mb n : Nat} {sc : Array Value} {iv : Value} {its : List It} {aft : List Value} {num num' : By → Option Nat} (h : PSt G base A bs bi bm mb n sc iv its aft num)
    (hg : A.grownBy B (some mb)) (hlt : ∀ b, G b → b < A.heap.size) (hmap : ∀ (i : Nat) (x : It) (u : Value), its[i]? = some x → aft[i]? = some u → RdG (fun b => G b ∧ b ≠ mb) A u x.after) (hn : NumM B mb (n + 1) num') :
    PSt G base B bs bi bm mb (n + 1) sc iv its aft num' := by
  have ha : Agree (fun b => G b ∧ b ≠ mb) A B := Agree.grown hg (fun b hb => hlt b hb.1) (fun b hb e => hb.2 (by cases e; rfl))
  obtain ⟨e1, e2, e3, e4, e5⟩ := h.ne
  exact ⟨(ha _ ⟨h.gs, fun e => e4 e.symm⟩).trans h.hbs, (ha _ ⟨h.gi, fun e => e3 e.symm⟩).trans h.hbi, (ha _ ⟨h.gm, fun e => e5 e.symm⟩).trans h.hbm, h.gs, h.gi, h.gm, h.gb, h.ne,
    own_agree ha h.own (fun b hb => ⟨(h.gv b hb).1, (h.gv b hb).2.2.2.2⟩), h.gv, h.len, fun i x u hx hu => (hmap i x u hx hu).agree ha (fun _ hb => hb.1), hn⟩

/-- A cell of numbers is no cell of another thing. -/
theorem RdG.set {G : Nat → Prop} {A : World} {v : Value} {l : List Int} (h : RdG G A v l) {p : Addr} {o : Value} (hp : A.cell? p = some o) (hno : ∀ x : Int, o ≠ .int .i64 x) (u : Value) : RdG G (A.setCell p u) v l := by
  obtain ⟨a, cap, hv, hc, hr⟩ := h
  refine ⟨a, cap, hv, hc, fun i x hi => ?_⟩
  obtain ⟨b, off, h0, h1, h2⟩ := hr i x hi
  refine ⟨b, off, h0, h1, ?_⟩
  have hne : (⟨b, off + i, none⟩ : Addr) ≠ p := by
    intro e
    rw [← e, h2] at hp
    cases hp
    exact hno x rfl
  rw [World.cell?_setCell_other (h := Ne.symm hne)]
  exact h2

/-- An item more stands behind the others. -/
theorem PSt.push {G : Nat → Prop} {base : Nat} {A A1 : World} {bs bi bm mb n : Nat} {sc : Array Value} {iv iv' : Value} {its : List It} {aft : List Value} {num : By → Option Nat} (h : PSt G base A bs bi bm mb n sc iv its aft num) (y : It) (hya : y.after = [])
    (ho : A1.ownsRow base 34 8 iv' (its.length + 1) (flatV its aft ++ [.string ⟨y.name.toArray⟩, .string ⟨y.undo.toArray⟩, .bool y.sub, .bool y.vital, .int .i64 y.alts, .int .i64 y.inn, .int .i64 y.alt, .slice none 0 0]))
    (hg : A.grownBy A1 iv.ownBlock) (hat : iv'.ownBlock = iv.ownBlock ∨ iv'.ownBlock = some A.heap.size) (hlt : ∀ b, G b → b < A.heap.size)
    (hmap : ∀ (i : Nat) (x : It) (u : Value), its[i]? = some x → aft[i]? = some u → x.after = [] ∧ u = .slice none 0 0) :
    PSt (fun b => G b ∨ iv'.ownBlock = some b) base (A1.setCell ⟨bi, 0, none⟩ iv') bs bi bm mb n sc iv' (its ++ [y]) (aft ++ [.slice none 0 0]) num := by
  obtain ⟨e1, e2, e3, e4, e5⟩ := h.ne
  have hag : Agree (fun b => G b ∧ ∀ g, iv.ownBlock = some g → b ≠ g) A A1 := Agree.grown hg (fun b hb => hlt b hb.1) (fun b hb e => hb.2 b e.symm rfl)
  have hbi1 : A1.heap[bi]? = some (.cells #[iv] 22 (0, 0)) := (hag bi ⟨h.gi, fun g hg' e => (h.gv g hg').2.1 e.symm⟩).trans h.hbi
  have hoth : ∀ b, b ≠ bi → (A1.setCell ⟨bi, 0, none⟩ iv').heap[b]? = A1.heap[b]? := fun b hb => Below.heap_setCell A1 ⟨bi, 0, none⟩ iv' b hb
  have hgv : ∀ b, iv'.ownBlock = some b → (G b ∨ iv'.ownBlock = some b) ∧ b ≠ bi ∧ b ≠ bs ∧ b ≠ bm ∧ b ≠ mb := by
    intro b hb
    have hb0 := hb
    rcases hat with hat | hat
    · rw [hat] at hb
      obtain ⟨k1, k2⟩ := h.gv b hb
      exact ⟨.inl k1, k2⟩
    · rw [hat] at hb
      cases hb
      have l1 := hlt _ h.gi
      have l2 := hlt _ h.gs
      have l3 := hlt _ h.gm
      have l4 := hlt _ h.gb
      exact ⟨.inr hb0, by omega, by omega, by omega, by omega⟩
  refine ⟨?_, ?_, ?_, .inl h.gs, .inl h.gi, .inl h.gm, .inl h.gb, h.ne, ?_, hgv, by simp [h.len], ?_, ?_⟩
  · rw [hoth bs e1]
    exact (hag bs ⟨h.gs, fun g hg' e => (h.gv g hg').2.2.1 e.symm⟩).trans h.hbs
  · have := Dg.row_set hbi1 0 iv'
    simpa using this
  · rw [hoth bm e2]
    exact (hag bm ⟨h.gm, fun g hg' e => (h.gv g hg').2.2.2.1 e.symm⟩).trans h.hbm
  · have hfl : flatV (its ++ [y]) (aft ++ [.slice none 0 0]) = flatV its aft ++ [.string ⟨y.name.toArray⟩, .string ⟨y.undo.toArray⟩, .bool y.sub, .bool y.vital, .int .i64 y.alts, .int .i64 y.inn, .int .i64 y.alt, .slice none 0 0] := by
      rw [flatV_append _ _ _ _ h.len]
      simp [flatV]
    rw [hfl, List.length_append]
    exact own_agree (G := fun b => b ≠ bi) (fun b hb => hoth b hb) ho (fun b hb => (hgv b hb).2.1)
  · intro i x u hx hu
    by_cases hi : i < its.length
    · rw [List.getElem?_append_left hi] at hx
      rw [List.getElem?_append_left (by rw [h.len]; exact hi)] at hu
      obtain ⟨k1, k2⟩ := hmap i x u hx hu
      rw [k1, k2]
      exact RdG.nil _ _
    · have hil : i = its.length := by
        have := (List.getElem?_eq_some_iff.1 hx).1
        simp at this
        omega
      subst hil
      rw [List.getElem?_append_right (Nat.le_refl _)] at hx
      rw [List.getElem?_append_right (by rw [h.len]; exact Nat.le_refl _)] at hu
      simp [h.len] at hx hu
      rw [← hx, ← hu, hya]
      exact RdG.nil _ _
  · refine num_agree (G := fun b => b = mb) (fun b hb => ?_) h.nums rfl
    subst hb
    rw [hoth _ e3]
    exact hag _ ⟨h.gb, fun g hg' e => (h.gv g hg').2.2.2.2 e.symm⟩

theorem flatV_set : ∀ (its : List It) (aft : List Value) (i : Nat) (x : It) (u : Value) (l : List Int), aft.length = its.length → its[i]? = some x → flatV (its.set i { x with after := l }) (aft.set i u) = (flatV its aft).set (i * 8 + 7) u
  | [], _, i, x, u, l, _, h => by simp at h
  | y :: r, [], i, x, u, l, h, _ => by simp at h
  | y :: r, v :: s, 0, x, u, l, _, hx => by
    simp at hx
    subst hx
    simp [flatV]
  | y :: r, v :: s, i + 1, x, u, l, h, hx => by
    have := flatV_set r s i x u l (by simpa using h) (by simpa using hx)
    rw [show (i + 1) * 8 + 7 = 8 + (i * 8 + 7) by omega]
    simp only [List.set_cons_succ, flatV, this, List.cons_append, List.nil_append]
    rw [show 8 + (i * 8 + 7) = (i * 8 + 7) + 1 + 1 + 1 + 1 + 1 + 1 + 1 + 1 by omega]
    simp only [List.set_cons_succ]

/-- An item's leanings are laid. -/
theorem PSt.lean {G : Nat → Prop} {base : Nat} {A : World} {bs bi bm mb n : Nat} {sc : Array Value} {its : List It} {aft : List Value} {num : By → Option Nat} {g cap : Nat} (h : PSt G base A bs bi bm mb n sc (.slice (some ⟨g, 0, none⟩) its.length cap) its aft num)
    (G' : Nat → Prop) (hGG : ∀ b, G b → G' b) (i : Nat) (x : It) (hx : its[i]? = some x) (u : Value) (l : List Int) (hu : RdG G' A u l) (hsl : ∀ v ∈ aft, ∀ z : Int, v ≠ .int .i64 z) :
    PSt G' base (A.setCell ⟨g, i * 8 + 7, none⟩ u) bs bi bm mb n sc (.slice (some ⟨g, 0, none⟩) its.length cap) (its.set i { x with after := l }) (aft.set i u) num := by
  obtain ⟨gG, g1, g2, g3, g4⟩ := h.gv g rfl
  have hil : i < its.length := (List.getElem?_eq_some_iff.1 hx).1
  obtain ⟨v, hv⟩ : ∃ v, aft[i]? = some v := ⟨_, List.getElem?_eq_getElem (by rw [h.len]; exact hil)⟩
  have hcell : A.cell? ⟨g, i * 8 + 7, none⟩ = some v := by
    rw [World.ownsRow.cellAt h.own (i * 8 + 7) (by omega)]
    have := flatV_at its aft i x v hx hv
    have h2 : ((flatV its aft).drop (i * 8))[7]? = some v := by rw [this]; rfl
    rw [List.getElem?_drop] at h2
    exact h2
  have hno : ∀ z : Int, v ≠ .int .i64 z := hsl v (List.mem_of_getElem? hv)
  have hoth : ∀ b, b ≠ g → (A.setCell ⟨g, i * 8 + 7, none⟩ u).heap[b]? = A.heap[b]? := fun b hb => Below.heap_setCell A ⟨g, i * 8 + 7, none⟩ u b hb
  refine ⟨?_, ?_, ?_, hGG _ h.gs, hGG _ h.gi, hGG _ h.gm, hGG _ h.gb, h.ne, ?_, fun b hb => ⟨hGG _ (h.gv b hb).1, (h.gv b hb).2⟩, by simp [h.len], ?_, ?_⟩
  · rw [hoth bs (fun e => g2 e.symm)]; exact h.hbs
  · rw [hoth bi (fun e => g1 e.symm)]; exact h.hbi
  · rw [hoth bm (fun e => g3 e.symm)]; exact h.hbm
  · rw [flatV_set its aft i x u l h.len hx, List.length_set]
    exact (World.ownsRow.stored h.own (i * 8 + 7) u).1
  · intro j y w hy hw
    by_cases hj : j = i
    · subst hj
      rw [List.getElem?_set_self hil] at hy
      rw [List.getElem?_set_self (by rw [h.len]; exact hil)] at hw
      cases hy
      cases hw
      exact hu.set hcell hno u
    · rw [List.getElem?_set_ne (Ne.symm hj)] at hy hw
      exact ((h.rd j y w hy hw).agree (fun _ _ => rfl) hGG).set hcell hno u
  · refine num_agree (G := fun b => b = mb) (fun b hb => ?_) h.nums rfl
    subst hb
    exact hoth _ (fun e => g4 e.symm)

/-- A row of one type is no row of another. -/
theorem own_other {A : World} {base e size n : Nat} {v : Value} {xs : List Value} (h : A.ownsRow base e size v n xs) {b : Nat} {cs : Array Value} {t : TypeId} (hb : A.heap[b]? = some (.cells cs t (0, 0))) (hne : t ≠ e) : some b ≠ v.ownBlock := by
  intro he
  rcases h.2 with ⟨rfl, _⟩ | ⟨g, cap, cur, rfl, _, hg, _⟩
  · cases he
  · have : b = g := Option.some.inj he
    subst this
    rw [hb] at hg
    injection hg with hg
    injection hg with _ h2 _
    exact hne h2

theorem own_slice {A : World} {base e size n : Nat} {v : Value} {xs : List Value} (h : A.ownsRow base e size v n xs) : ∃ a c, v = .slice a n c := by
  rcases h.2 with ⟨rfl, rfl⟩ | ⟨g, cap, cur, rfl, _⟩
  · exact ⟨_, _, rfl⟩
  · exact ⟨_, _, rfl⟩

theorem own_exists {A : World} {base e size n : Nat} {v : Value} {xs : List Value} (h : A.ownsRow base e size v n xs) : ∀ b, v.ownBlock = some b → base ≤ b ∧ b < A.heap.size := h.lt

/-- A step by a law that ends in 'grownBy' keeps what the iterator owns. -/
theorem Rv.grown {n0 : Nat} {T : Nat → Prop} {A B : World} {row : Option Nat} (hg : A.grownBy B row) (hn : n0 ≤ A.heap.size) (hr : ∀ b, row = some b → n0 ≤ b ∧ ¬ T b) : Rv n0 T A B :=
  ⟨hg.os, hg.tape, hg.output, hg.size, fun k hk => hg.block k (by omega) (fun e => by have := (hr k e.symm).1; omega), fun k hk hl => hg.block k hl (fun e => (hr k e.symm).2 hk)⟩

/-- What an operation does out of a round it does in one, if it defers nothing. -/
theorem oper_round {P : Program} {o : Oper} {a : Act} {w : World} {K : Act → World → Prop} {Q : Exit → Act → World → Prop} (l n : Nat) (hnd : ∀ c, o.op ≠ .defer c) (h : o.wp P a w K Q) : o.wpIn (Fence.wide.inRound l) n P a w K Q := by
  refine ⟨fun f _ => trivial, ?_⟩
  rw [Oper.semAt_eq _ _ _ hnd]
  unfold Oper.wp at h
  cases hr : (execOp a.eval o).run P w with
  | halt x w' =>
    rw [hr] at h
    cases x with
    | panic v => exact h
    | _ => exact h.elim
  | ok nx w' =>
    rw [hr] at h
    cases nx with
    | value v => exact h
    | skip => exact h
    | defer d => exact h
    | enter f args => exact ⟨(fun hd => by cases hd), CallsIn.inRound l (callsIn_wide.2 h)⟩
    | row r args => exact ⟨(fun hd => by cases hd), fun c cs _ => let ⟨v, w2, r1, r2⟩ := h c cs; ⟨v, w2, r1, stepsIn_wide.2 r2⟩⟩
    | _ => exact h.elim

theorem any_round {P : Program} {md : Region.Mode} {ops : Array Oper} {Q : Exit → Act → World → Prop} (l n : Nat) (hnd : ∀ (i : Nat) (o : Oper), ops[i]? = some o → ∀ c, o.op ≠ .defer c) (hno : ¬ LetsOut Q) : ∀ (fuel : Nat) (listed : Array Bool) (a : Act) (w : World), wpAny P md ops Q fuel listed a w → wpAnyIn (Fence.wide.inRound l) n P md ops Q fuel listed a w
  | 0, _, _, _, h => h
  | fuel + 1, listed, a, w, h => by
    refine ⟨h.1, fun i hi => ?_⟩
    have h2 := h.2 i hi
    unfold wpOp at h2
    unfold wpOpIn
    cases ho : ops[i]? with
    | none =>
      rw [ho] at h2
      exact any_round l n hnd hno fuel _ _ _ h2
    | some o =>
      rw [ho] at h2
      simp only at h2 ⊢
      by_cases hw : Region.wanted o (yielded ops a.tmps) = true
      · rw [if_pos hw] at h2 ⊢
        rcases h2 with h2 | h2
        · exact Oper.wpIn_mono (fun a w h => any_round l n hnd hno fuel _ _ _ h) (oper_round l n (hnd i o ho) h2)
        · exact absurd h2.2 hno
      · rw [if_neg hw] at h2 ⊢
        exact ⟨fun f _ => trivial, any_round l n hnd hno fuel _ _ _ h2⟩

/-- A region that draws its order, in a round. -/
theorem regionH_round {P : Program} {id : Nat} {ops : Array Oper} {Q : Exit → Act → World → Prop} {S : World → Prop} {a : Act} {w : World} (l n : Nat) (hm : P.follows .mixedOrders = true) (hnd : ∀ (i : Nat) (o : Oper), ops[i]? = some o → ∀ c, o.op ≠ .defer c) (hno : ¬ LetsOut Q)
    (h : wpAnyH P .any ops Q S ops.size (Array.replicate ops.size false) a w.drew) : (Code.region id ops true).wpIn (Fence.wide.inRound l) n P Q a w :=
  wpIn_region_any hm (any_round l n hnd hno _ _ _ _ (wpAny_of_held _ _ _ _ h))

def noDefer (o : Oper) : Bool := match o.op with
  | .defer _ => false
  | _ => true

theorem noDefer_all {ops : Array Oper} (h : ops.all noDefer = true) : ∀ (i : Nat) (o : Oper), ops[i]? = some o → ∀ c, o.op ≠ .defer c := by
  intro i o ho c hc
  rw [Array.all_eq_true] at h
  obtain ⟨hi, he⟩ := Array.getElem?_eq_some_iff.1 ho
  have := h i hi
  rw [he] at this
  unfold noDefer at this
  rw [hc] at this
  cases this

theorem wpOp_value {P : Program} {ops : Array Oper} {Q : Exit → Act → World → Prop} {i : Nat} {K : Act → World → Prop} {a : Act} {w w' : World} {o : Oper} {d : Tmp} {v : Value} (hi : ops[i]? = some o) (hd : o.dst = some d) (hw : Region.wanted o (yielded ops a.tmps) = true)
    (hrun : (execOp a.eval o).run P w = .ok (.value v) w') (hK : K { tmps := a.tmps.setIfInBounds d v, defers := a.defers } w') : wpOp P ops Q i K a w := by
  have hp : a.put o.dst v = { tmps := a.tmps.setIfInBounds d v, defers := a.defers } := by rw [hd]; rfl
  unfold wpOp
  simp only [hi]
  rw [if_pos hw]
  refine .inl ?_
  unfold Oper.wp
  rw [hrun]
  show K (a.put o.dst v) w'
  rw [hp]
  exact hK

theorem wpOp_skip {P : Program} {ops : Array Oper} {Q : Exit → Act → World → Prop} {i : Nat} {K : Act → World → Prop} {a : Act} {w w' : World} {o : Oper} (hi : ops[i]? = some o) (hd : o.dst = none) (hw : Region.wanted o (yielded ops a.tmps) = true)
    (hrun : (execOp a.eval o).run P w = .ok .skip w') (hK : K a w') : wpOp P ops Q i K a w := by
  have hp : a.put o.dst undef = a := by rw [hd]; rfl
  unfold wpOp
  simp only [hi]
  rw [if_pos hw]
  refine .inl ?_
  unfold Oper.wp
  rw [hrun]
  show K (a.put o.dst undef) w'
  rw [hp]
  exact hK

end Go.Proofs.YtlegmmhacnbnlaaGreatDoor

/- Plain: the items once their leanings are laid. -/
namespace Go.Proofs.YtlegmmhacnbnlaaGreatDoor

open Go.RowKit Go.Shelf Go.Proofs.YtlegmmhacnbnlaaGreatDoor.Sx

/-- On which items the node at k leans. -/
def leanK (x : By) (am : Nat) (xs : List Pd) (k : Nat) : Option (List Nat) := match xs[k]? with
  | some y => leanP (its1 x am xs xs.length) (numF xs) y.inn y.alt y.lab.after []
  | none => none

def intsN (l : List Nat) : List Int := l.map fun (n : Nat) => (n : Int)

/-- The items once k nodes have their leanings. -/
def its2 (x : By) (am : Nat) (xs : List Pd) : Nat → List It
  | 0 => its1 x am xs xs.length
  | k + 1 => match (its2 x am xs k)[k + 1]? with
    | some y => (its2 x am xs k).set (k + 1) { y with after := intsN ((leanK x am xs k).getD []) }
    | none => its2 x am xs k

theorem its1_len (x : By) (am : Nat) (xs : List Pd) : (its1 x am xs xs.length).length = xs.length + 1 := by simp [its1]

theorem its2_len (x : By) (am : Nat) (xs : List Pd) : ∀ k, (its2 x am xs k).length = xs.length + 1
  | 0 => its1_len x am xs
  | k + 1 => by
    rw [its2]
    split
    · rw [List.length_set]; exact its2_len x am xs k
    · exact its2_len x am xs k

/-- Laying leanings turns no place. -/
theorem its2_spot (x : By) (am : Nat) (xs : List Pd) : ∀ (k on : Nat), ((its2 x am xs k)[on]?).map (fun y => (y.inn, y.alt)) = ((its1 x am xs xs.length)[on]?).map (fun y => (y.inn, y.alt))
  | 0, _ => rfl
  | k + 1, on => by
    rw [its2]
    split
    · rename_i y hy
      by_cases ho : on = k + 1
      · subst ho
        rw [List.getElem?_set_self (List.getElem?_eq_some_iff.1 hy).1, ← its2_spot x am xs k, hy]
        rfl
      · rw [List.getElem?_set_ne (Ne.symm ho)]
        exact its2_spot x am xs k on
    · exact its2_spot x am xs k on

theorem leanP_congr {its its' : List It} {num : By → Option Nat} {inn alt : Int} (h : ∀ on : Nat, (its[on]?).map (fun y => (y.inn, y.alt)) = (its'[on]?).map (fun y => (y.inn, y.alt))) : ∀ (l : List By) (acc : List Nat), leanP its num inn alt l acc = leanP its' num inn alt l acc
  | [], _ => rfl
  | nm :: r, acc => by
    unfold leanP
    cases num nm with
    | none => rfl
    | some on =>
      have ho := h on
      simp only
      cases h1 : its[on]? with
      | none =>
        rw [h1] at ho
        cases h2 : its'[on]? with
        | none => rfl
        | some z => rw [h2] at ho; cases ho
      | some y =>
        rw [h1] at ho
        cases h2 : its'[on]? with
        | none => rw [h2] at ho; cases ho
        | some z =>
          rw [h2] at ho
          simp only [Option.map_some, Option.some.injEq, Prod.mk.injEq] at ho
          simp only [ho.1, ho.2]
          split
          · exact leanP_congr h r _
          · rfl

theorem lean_two (x : By) (am : Nat) (xs : List Pd) (k : Nat) {y : Pd} (hy : xs[k]? = some y) : leanP (its2 x am xs k) (numF xs) y.inn y.alt y.lab.after [] = leanK x am xs k := by
  unfold leanK
  rw [hy]
  exact leanP_congr (its2_spot x am xs k) _ _

theorem numFold_some : ∀ (xs : List Pd) (f : By → Option Nat) (nm : By) (c : Nat), xs.foldl numPut f nm = some c → (∃ y ∈ xs, y.num = c) ∨ f nm = some c
  | [], f, nm, c, h => .inr h
  | z :: xs, f, nm, c, h => by
    rcases numFold_some xs (numPut f z) nm c h with ⟨y, h1, h2⟩ | h1
    · exact .inl ⟨y, List.mem_cons_of_mem _ h1, h2⟩
    · unfold numPut at h1
      split at h1
      · cases h1
        exact .inl ⟨z, List.mem_cons_self .., rfl⟩
      · exact .inr h1

/-- A number that a name has is that of a node. -/
theorem numF_some (xs : List Pd) (nm : By) (c : Nat) (h : numF xs nm = some c) : ∃ y ∈ xs, y.num = c := by
  rcases numFold_some xs _ nm c h with h | h
  · exact h
  · cases h

theorem RdG.of_own {A : World} {base : Nat} {v : Value} {r : List Nat} (G : Nat → Prop) (h : A.ownsRow base 3 1 v r.length (Dg.ivs r)) : RdG (fun b => G b ∨ v.ownBlock = some b) A v (intsN r) := by
  have hl : (intsN r).length = r.length := by simp [intsN]
  rcases h.2 with ⟨rfl, h0⟩ | ⟨g, cap, cur, rfl, hb, hg, hc, _⟩
  · have : r = [] := List.length_eq_zero_iff.1 h0
    subst this
    exact ⟨none, 0, rfl, Nat.le_refl _, fun i x hi => by simp [intsN] at hi⟩
  · refine ⟨_, cap, by rw [hl], by rw [hl]; exact hc, fun i x hi => ⟨g, 0, .inr rfl, rfl, ?_⟩⟩
    have hil : i < r.length := by have := (List.getElem?_eq_some_iff.1 hi).1; omega
    rw [Nat.zero_add, h.cellAt i (by omega)]
    simp only [intsN, List.getElem?_map, Option.map_eq_some_iff] at hi
    obtain ⟨q, hq, rfl⟩ := hi
    simp [Dg.ivs, hq]

/-- What planOf knows in its second loop, once k nodes have their leanings; D0 is the mark that the first loop left. -/
def Pl2 (w : World) (x : By) (am : Nat) (sc : Array Value) (xs : List Pd) (g0 D0 k : Nat) (A : World) (TA : Nat → Prop) : Prop :=
  Lo w A TA ∧ (∀ j, j < k → (leanK x am xs j).isSome = true) ∧ (w.heap.size ≤ D0 ∧ D0 < A.heap.size ∧ ¬ TA D0 ∧ A.heap[D0]? = some (.deferred (some []))) ∧
    ∃ (G : Nat → Prop) (g cap : Nat) (aft : List Value), Apart w.heap.size G TA A ∧ ¬ G D0 ∧ G (w.heap.size + 1) ∧ A.heap[w.heap.size + 1]? = some (.cells #[.slice none 0 0] 24 (0, 0)) ∧ (∀ v ∈ aft, ∀ z : Int, v ≠ .int .i64 z) ∧
    PSt G w.heap.size A w.heap.size (g0 + 1) (g0 + 3) (g0 + 2) xs.length sc (.slice (some ⟨g, 0, none⟩) (xs.length + 1) cap) (its2 x am xs k) aft (numF xs)

theorem Pl2.mv {w : World} {x : By} {am : Nat} {sc : Array Value} {xs : List Pd} {g0 D0 k : Nat} {A B : World} {TA TB : Nat → Prop} (h : Pl2 w x am sc xs g0 D0 k A TA) (m : Mv TA A TB B) : Pl2 w x am sc xs g0 D0 k B TB := by
  obtain ⟨h1, h2, ⟨d1, d2, d3, d4⟩, G, g, cap, aft, h3, hd, h4, h5, h6, h7⟩ := h
  exact ⟨h1.mv m, h2, ⟨d1, Nat.lt_of_lt_of_le d2 m.size, fun ht => d3 ((m.old _ d2).1 ht), (m.same _ d2 d3).trans d4⟩, G, g, cap, aft, h3.mv m, hd, h4, (h3.agree m _ h4).trans h5, h6, h7.mv h3 m⟩

/-- May the items be ordered? -/
noncomputable def ordOk (its : List It) : Bool := match Dg.weaveP (its.length : Int) (arcP its) with
  | .ok _ _ => true
  | .bad _ => false

open Classical in
/-- The plan of a saga, or none. -/
noncomputable def planP (x : By) (t : Tr) (am : Nat) (xs : List Pd) : Option (List It) :=
  if fitS x t = true ∧ goodN xs = true ∧ (∀ j, j < xs.length → (leanK x am xs j).isSome = true) ∧ ordOk (its2 x am xs xs.length) = true then some (its2 x am xs xs.length) else none

end Go.Proofs.YtlegmmhacnbnlaaGreatDoor

/- Plain: how many arcs a plan has. -/
namespace Go.Proofs.YtlegmmhacnbnlaaGreatDoor

open Go.RowKit Go.Shelf Go.Proofs.YtlegmmhacnbnlaaGreatDoor.Sx

theorem len_zero {t : Tr} (h : t.len = 0) : t = .e := by cases t <;> simp_all [Tr.len]

/-- All nodes are gone through where all are right. -/
theorem cnt_flat (t : Tr) : ∀ d, okL (fltn d t) = true → cntA t = (fltn d t).length := by
  induction t with
  | e => intro d _; rfl
  | b x r ih1 ih2 =>
    intro d h
    simp only [fltn, okL, List.all_append, Bool.and_eq_true] at h
    simp only [fltn, cntA, List.length_append]
    rw [ih1 d h.1, ih2 d h.2]
  | n l t r ih1 ih2 =>
    intro d h
    simp only [fltn, okL, List.all_append, List.all_cons, Bool.and_eq_true] at h
    obtain ⟨h1, h2, h3⟩ := h
    simp only [fltn, cntA, List.length_append, List.length_cons]
    rw [ih2 d h3]
    cases hs : l.sub with
    | true =>
      rw [hs] at h2
      simp only [if_true] at h2 ⊢
      rw [ih1 (d + 1) h2]
      omega
    | false =>
      simp only [nodeOk, hs] at h1
      have : t.len = 0 := by simp at h1; exact h1.2.2
      rw [len_zero this]
      simp [cntA]
      omega

theorem fit_cnt {x : By} {t : Tr} (h : fitS x t = true) : cntA t < 64 := by
  simp only [fitS, Bool.and_eq_true, decide_eq_true_eq] at h
  obtain ⟨h1, _, h2, _⟩ := h
  have h3 : rightS x t = true := by
    unfold codeS at h1
    split at h1
    · assumption
    · cases h1
  simp only [rightS, Bool.and_eq_true] at h3
  rw [cnt_flat t 1 h3.2]
  exact h2

theorem leanP_some {its : List It} {num : By → Option Nat} {inn alt : Int} : ∀ (l : List By) (acc r : List Nat), leanP its num inn alt l acc = some r → acc.Nodup → (∀ c ∈ acc, c < its.length) → r.Nodup ∧ ∀ c ∈ r, c < its.length
  | [], acc, r, h, h1, h2 => by
    cases h
    exact ⟨h1, h2⟩
  | nm :: l, acc, r, h, h1, h2 => by
    unfold leanP at h
    cases hn : num nm with
    | none => rw [hn] at h; cases h
    | some on =>
      rw [hn] at h
      simp only at h
      cases ho : its[on]? with
      | none => rw [ho] at h; cases h
      | some y =>
        rw [ho] at h
        simp only at h
        split at h
        · rename_i hc
          refine leanP_some l _ r h ?_ ?_
          · rw [List.nodup_append]
            refine ⟨h1, by simp, ?_⟩
            intro a ha b hb
            rw [List.mem_singleton] at hb
            rintro rfl
            exact hc.2.2 (hb ▸ ha)
          · intro c hc2
            rcases List.mem_append.1 hc2 with h9 | h9
            · exact h2 c h9
            · rw [List.mem_singleton] at h9
              rw [h9]
              exact (List.getElem?_eq_some_iff.1 ho).1
        · cases h

theorem leanP_len {its : List It} {num : By → Option Nat} {inn alt : Int} {l : List By} {r : List Nat} (h : leanP its num inn alt l [] = some r) : r.length ≤ its.length ∧ ∀ c ∈ r, c < its.length := by
  obtain ⟨h1, h2⟩ := leanP_some l [] r h List.nodup_nil (fun _ h => by cases h)
  refine ⟨?_, h2⟩
  have := Dg.pigeon r (List.range its.length) h1 (fun x hx => List.mem_range.2 (h2 x hx))
  simpa using this

theorem leanK_len (x : By) (am : Nat) (xs : List Pd) (k : Nat) : (((leanK x am xs k).getD []).length ≤ xs.length + 1) ∧ ∀ c ∈ (leanK x am xs k).getD [], c < xs.length + 1 := by
  cases h : leanK x am xs k with
  | none => simp
  | some r =>
    unfold leanK at h
    split at h
    · have := leanP_len h
      rw [its1_len] at this
      exact this
    · cases h

theorem its1_no (x : By) (am : Nat) (xs : List Pd) (k : Nat) : ∀ y ∈ its1 x am xs k, y.after = [] := by
  intro y hy
  unfold its1 at hy
  rcases List.mem_cons.1 hy with rfl | h
  · rfl
  · obtain ⟨p, _, rfl⟩ := List.mem_map.1 h
    rfl

theorem its2_after (x : By) (am : Nat) (xs : List Pd) : ∀ k, ∀ y ∈ its2 x am xs k, y.after.length ≤ xs.length + 1 ∧ ∀ on ∈ y.after, 0 ≤ on ∧ on < (xs.length : Int) + 1
  | 0 => by
    intro y hy
    rw [its1_no x am xs _ y hy]
    simp
  | k + 1 => by
    intro y hy
    rw [its2] at hy
    split at hy
    · rename_i z hz
      rcases List.mem_or_eq_of_mem_set hy with h9 | h9
      · exact its2_after x am xs k y h9
      · rw [h9]
        obtain ⟨l1, l2⟩ := leanK_len x am xs k
        refine ⟨by simpa [intsN] using l1, fun on hon => ?_⟩
        simp only [intsN, List.mem_map] at hon
        obtain ⟨c, hc, rfl⟩ := hon
        have := l2 c hc
        omega
    · exact its2_after x am xs k y hy

theorem sum_le (B : Nat) : ∀ l : List It, (∀ y ∈ l, y.after.length ≤ B) → (l.map fun x => x.after.length).sum ≤ l.length * B
  | [], _ => by simp
  | y :: l, h => by
    have h1 := sum_le B l (fun z hz => h z (List.mem_cons_of_mem _ hz))
    have h2 := h y (List.mem_cons_self ..)
    simp only [List.map_cons, List.sum_cons, List.length_cons, Nat.succ_mul]
    omega

theorem arcN_le (x : By) (am : Nat) (xs : List Pd) (k : Nat) (h : xs.length < 64) : arcN (its2 x am xs k) ≤ 1000000 := by
  have h1 := sum_le 64 (its2 x am xs k) (fun y hy => by have := (its2_after x am xs k y hy).1; omega)
  rw [its2_len] at h1
  unfold arcN
  omega

theorem arcTo_mem (its : List It) : ∀ i p, p ∈ arcTo its i → p.2 < (i : Int) ∧ 0 ≤ p.2 ∧ ∃ y ∈ its, p.1 ∈ y.after
  | 0, p, h => by cases h
  | i + 1, p, h => by
    rw [arcTo] at h
    rcases List.mem_append.1 h with h9 | h9
    · obtain ⟨h1, h2, h3⟩ := arcTo_mem its i p h9
      exact ⟨by omega, h2, h3⟩
    · split at h9
      · rename_i y hy
        obtain ⟨on, ho, rfl⟩ := List.mem_map.1 h9
        exact ⟨by show (i : Int) < _; omega, by show 0 ≤ (i : Int); omega, y, List.mem_of_getElem? hy, ho⟩
      · cases h9

theorem arcP_small (x : By) (am : Nat) (xs : List Pd) (k : Nat) (h : xs.length < 64) : Dg.Small (arcP (its2 x am xs k)) := by
  intro p hp
  obtain ⟨h1, h2, y, hy, hm⟩ := arcTo_mem _ _ p hp
  have h3 := (its2_after x am xs k y hy).2 _ hm
  rw [its2_len] at h1
  omega

end Go.Proofs.YtlegmmhacnbnlaaGreatDoor

