/- Texts of the seat, packed: Na Nb. -/
import Derived.WalkKit
import Derived.Laws.OwnMore
import Derived.Below
/- Sagas as plain trees, and a reader of them that goes on token by token (plain words; no program is named). -/
namespace Go.Proofs.Ytlmfmgpamhhncaa

abbrev By := List UInt8

/-- What a node says of itself. -/
structure Lab where
  name : By
  undo : By
  after : List By
  sub : Bool
  vital : Bool
deriving DecidableEq

/-- Bodies ('b': a body's nodes, and the other bodies), nodes ('n': a node, its bodies, and the other nodes), or none more. -/
inductive Tr where
  | e : Tr
  | b : Tr → Tr → Tr
  | n : Lab → Tr → Tr → Tr
deriving DecidableEq

def Tr.app : Tr → Tr → Tr
  | .e, s => s
  | .b x r, s => .b x (r.app s)
  | .n l t r, s => .n l t (r.app s)

theorem Tr.app_e (t : Tr) : t.app .e = t := by
  induction t with
  | e => rfl
  | b x r _ ih => simp [Tr.app, ih]
  | n l a r _ ih => simp [Tr.app, ih]

theorem Tr.app_assoc (x y z : Tr) : (x.app y).app z = x.app (y.app z) := by
  induction x with
  | e => rfl
  | b x r _ ih => simp [Tr.app, ih]
  | n l a r _ ih => simp [Tr.app, ih]

/-- Is it bodies (true), or nodes (false), all through? -/
def Tr.ok : Bool → Tr → Bool
  | _, .e => true
  | k, .b x r => k && x.ok false && r.ok true
  | k, .n _ t r => !k && t.ok true && r.ok false

/-- How many bodies, or nodes, stand beside each other. -/
def Tr.len : Tr → Nat
  | .e => 0
  | .b _ r => r.len + 1
  | .n _ _ r => r.len + 1

theorem Tr.len_app (x y : Tr) : (x.app y).len = x.len + y.len := by
  induction x with
  | e => simp [Tr.app, Tr.len]
  | b x r _ ih => simp [Tr.app, Tr.len, ih]; omega
  | n l a r _ ih => simp [Tr.app, Tr.len, ih]; omega

/-- How many nodes there are in all. -/
def Tr.cnt : Tr → Nat
  | .e => 0
  | .b x r => x.cnt + r.cnt
  | .n _ t r => t.cnt + r.cnt + 1

/-- How deep: of nodes, the greatest of what lies within; of bodies likewise. -/
def Tr.dep : Tr → Nat
  | .e => 0
  | .b x r => max x.dep r.dep
  | .n l t r => max (if l.sub then t.dep + 1 else 0) r.dep

/-- Steps have no bodies. -/
def Tr.bare : Tr → Bool
  | .e => true
  | .b x r => x.bare && r.bare
  | .n l t r => (l.sub || t == .e) && t.bare && r.bare

/-- What a reader got: something, and where it stands; or where it stands, at what can't follow. -/
inductive Got (α : Type) where
  | ok : α → Nat → Got α
  | no : Nat → Got α

def wSaga : By := [115, 97, 103, 97]
def wStep : By := [115, 116, 101, 112]
def wSub : By := [115, 117, 98]
def wUndo : By := [117, 110, 100, 111]
def wAfter : By := [97, 102, 116, 101, 114]
def wVital : By := [118, 105, 116, 97, 108]
def wLoose : By := [108, 111, 111, 115, 101]
def wOr : By := [111, 114]
def mOpen : By := [123]
def mShut : By := [125]
def mIn : By := [40]
def mOut : By := [41]
def mEnd : By := [59]
def mAnd : By := [44]

variable (nm : By → Bool) (L : List By)

/-- Is the token at a place of such a text? -/
def isT (i : Nat) (s : By) : Bool := L[i]? == some s

/-- A name. -/
def rName (i : Nat) : Got By := match L[i]? with
  | some t => if nm t then .ok t (i + 1) else .no i
  | none => .no i

/-- As often as one likes ',' and a name. -/
def rMore : Nat → Nat → Got (List By)
  | 0, i => .no i
  | f + 1, i => if isT L i mAnd then match rName nm L (i + 1) with
      | .no j => .no j
      | .ok t j => match rMore f j with
        | .no k => .no k
        | .ok l k => .ok (t :: l) k
    else .ok [] i

/-- Leanings, or none. -/
def rLean (i : Nat) : Got (List By) := if isT L i wAfter then match rName nm L (i + 1) with
    | .no j => .no j
    | .ok t j => match rMore nm L (L.length + 1) j with
      | .no k => .no k
      | .ok l k => .ok (t :: l) k
  else .ok [] i

/-- Perhaps 'undo' and a name. -/
def rUndo (i : Nat) : Got By := if isT L i wUndo then rName nm L (i + 1) else .ok [] i

/-- What follows the word 'step'. -/
def rStep (i : Nat) : Got Lab := match rName nm L i with
  | .no j => .no j
  | .ok x j => match rUndo nm L j with
    | .no k => .no k
    | .ok u k => match rLean nm L k with
      | .no m => .no m
      | .ok a m => if isT L m mEnd then .ok ⟨x, u, a, false, false⟩ (m + 1) else .no m

/-- A sub-saga behind 'sub'. -/
def rSub (alts : Nat → Got Tr) (v : Bool) (i : Nat) : Got (Lab × Tr) := match rName nm L i with
  | .no j => .no j
  | .ok x j => match rLean nm L j with
    | .no k => .no k
    | .ok a k => match alts k with
      | .no m => .no m
      | .ok t m => .ok (⟨x, [], a, true, v⟩, t) m

/-- A node. -/
def rNode (alts : Nat → Got Tr) (i : Nat) : Got (Lab × Tr) :=
  if isT L i wStep then match rStep nm L (i + 1) with
    | .no j => .no j
    | .ok l j => .ok (l, .e) j
  else if isT L i wVital || isT L i wLoose then
    if isT L (i + 1) wSub then rSub nm L alts (isT L i wVital) (i + 2) else .no (i + 1)
  else .no i

/-- Bodies stand behind '{'. -/
def brace (g : Nat → Got Tr) (i : Nat) : Got Tr := if isT L i mOpen then g (i + 1) else .no i

/-- true: bodies behind '{', with their '}'; false: nodes behind '(', with their ')'. -/
def rd : Nat → Bool → Nat → Got Tr
  | 0, _, i => .no i
  | f + 1, true, i => if isT L i mIn then match rd f false (i + 1) with
      | .no j => .no j
      | .ok x j => if isT L j wOr then match rd f true (j + 1) with
          | .no k => .no k
          | .ok r k => .ok (.b x r) k
        else if isT L j mShut then .ok (.b x .e) (j + 1) else .no j
    else .no i
  | f + 1, false, i => if isT L i mOut then .ok .e (i + 1) else match rNode nm L (brace L (rd f true)) i with
      | .no j => .no j
      | .ok (l, t) j => match rd f false j with
        | .no k => .no k
        | .ok r k => .ok (.n l t r) k

/-- A saga's text. -/
def rSaga (F : Nat) : Got (By × Tr) := if isT L 0 wSaga then match rName nm L 1 with
    | .no j => .no j
    | .ok x j => match brace L (rd nm L F true) j with
      | .no k => .no k
      | .ok t k => if k = L.length then .ok (x, t) k else .no k
  else .no 0

/-! ### Where a reader stands -/

theorem isT_lt {i : Nat} {s : By} (h : isT L i s = true) : i < L.length := by
  simp only [isT, beq_iff_eq] at h
  exact (List.getElem?_eq_some_iff.1 h).1

def Got.at : {α : Type} → Got α → Nat
  | _, .ok _ i => i
  | _, .no i => i

/-- A reader that begins within the text ends within it, not ahead of where it began; with something, beyond by one at least where it must take. -/
def Fit {α : Type} (d : Nat) (i : Nat) (g : Got α) : Prop := match g with
  | .ok _ j => i + d ≤ j ∧ j ≤ L.length
  | .no j => i ≤ j ∧ j ≤ L.length

theorem rName_fit (i : Nat) (hi : i ≤ L.length) : Fit L 1 i (rName nm L i) := by
  unfold rName
  cases h : L[i]? with
  | none => exact ⟨Nat.le_refl _, hi⟩
  | some t =>
    have := (List.getElem?_eq_some_iff.1 h).1
    dsimp only
    split
    · exact ⟨by omega, by omega⟩
    · exact ⟨by omega, by omega⟩

theorem rMore_fit (f : Nat) : ∀ i, i ≤ L.length → Fit L 0 i (rMore nm L f i) := by
  induction f with
  | zero => intro i hi; exact ⟨Nat.le_refl _, hi⟩
  | succ f ih =>
    intro i hi
    unfold rMore
    split
    · rename_i h
      have hlt := isT_lt L h
      have hn := rName_fit nm L (i + 1) (by omega)
      cases hr : rName nm L (i + 1) with
      | no j => rw [hr] at hn; exact ⟨by have := hn.1; omega, hn.2⟩
      | ok t j =>
        rw [hr] at hn
        have h2 := ih j hn.2
        dsimp only
        cases hm : rMore nm L f j with
        | no k => rw [hm] at h2; exact ⟨by have := hn.1; have := h2.1; omega, h2.2⟩
        | ok l k => rw [hm] at h2; exact ⟨by have := hn.1; have := h2.1; omega, h2.2⟩
    · exact ⟨by omega, hi⟩

theorem rLean_fit (i : Nat) (hi : i ≤ L.length) : Fit L 0 i (rLean nm L i) := by
  unfold rLean
  split
  · rename_i h
    have hlt := isT_lt L h
    have hn := rName_fit nm L (i + 1) (by omega)
    cases hr : rName nm L (i + 1) with
    | no j => rw [hr] at hn; exact ⟨by have := hn.1; omega, hn.2⟩
    | ok t j =>
      rw [hr] at hn
      have h2 := rMore_fit nm L (L.length + 1) j hn.2
      dsimp only
      cases hm : rMore nm L (L.length + 1) j with
      | no k => rw [hm] at h2; exact ⟨by have := hn.1; have := h2.1; omega, h2.2⟩
      | ok l k => rw [hm] at h2; exact ⟨by have := hn.1; have := h2.1; omega, h2.2⟩
  · exact ⟨by omega, hi⟩

theorem rUndo_fit (i : Nat) (hi : i ≤ L.length) : Fit L 0 i (rUndo nm L i) := by
  unfold rUndo
  split
  · rename_i h
    have hlt := isT_lt L h
    have hn := rName_fit nm L (i + 1) (by omega)
    cases hr : rName nm L (i + 1) with
    | no j => rw [hr] at hn; exact ⟨by have := hn.1; omega, hn.2⟩
    | ok t j => rw [hr] at hn; exact ⟨by have := hn.1; omega, hn.2⟩
  · exact ⟨by omega, hi⟩

theorem rStep_fit (i : Nat) (hi : i ≤ L.length) : Fit L 1 i (rStep nm L i) := by
  unfold rStep
  have hn := rName_fit nm L i hi
  cases hr : rName nm L i with
  | no j => rw [hr] at hn; exact hn
  | ok t j =>
    rw [hr] at hn
    have h2 := rUndo_fit nm L j hn.2
    dsimp only
    cases hu : rUndo nm L j with
    | no k => rw [hu] at h2; exact ⟨by have := hn.1; have := h2.1; omega, h2.2⟩
    | ok u k =>
      rw [hu] at h2
      have h3 := rLean_fit nm L k h2.2
      dsimp only
      cases hl : rLean nm L k with
      | no m => rw [hl] at h3; exact ⟨by have := hn.1; have := h2.1; have := h3.1; omega, h3.2⟩
      | ok a m =>
        rw [hl] at h3
        dsimp only
        split
        · rename_i h
          have := isT_lt L h
          exact ⟨by have := hn.1; have := h2.1; have := h3.1; omega, by omega⟩
        · exact ⟨by have := hn.1; have := h2.1; have := h3.1; omega, h3.2⟩

theorem rSub_fit (alts : Nat → Got Tr) (halts : ∀ k, k ≤ L.length → Fit L 0 k (alts k)) (v : Bool) (i : Nat) (hi : i ≤ L.length) : Fit L 1 i (rSub nm L alts v i) := by
  unfold rSub
  have hn := rName_fit nm L i hi
  cases hr : rName nm L i with
  | no j => rw [hr] at hn; exact hn
  | ok t j =>
    rw [hr] at hn
    have h3 := rLean_fit nm L j hn.2
    dsimp only
    cases hl : rLean nm L j with
    | no m => rw [hl] at h3; exact ⟨by have := hn.1; have := h3.1; omega, h3.2⟩
    | ok a m =>
      rw [hl] at h3
      have h4 := halts m h3.2
      dsimp only
      cases ha : alts m with
      | no q => rw [ha] at h4; exact ⟨by have := hn.1; have := h3.1; have := h4.1; omega, h4.2⟩
      | ok q r => rw [ha] at h4; exact ⟨by have := hn.1; have := h3.1; have := h4.1; omega, h4.2⟩

theorem rNode_fit (alts : Nat → Got Tr) (halts : ∀ k, k ≤ L.length → Fit L 0 k (alts k)) (i : Nat) (hi : i ≤ L.length) : Fit L 1 i (rNode nm L alts i) := by
  unfold rNode
  split
  · rename_i h
    have := isT_lt L h
    have h2 := rStep_fit nm L (i + 1) (by omega)
    cases hs : rStep nm L (i + 1) with
    | no j => rw [hs] at h2; exact ⟨by have := h2.1; omega, h2.2⟩
    | ok l j => rw [hs] at h2; exact ⟨by have := h2.1; omega, h2.2⟩
  · split
    · rename_i h
      have hlt : i < L.length := by
        rcases Bool.or_eq_true_iff.1 h with h | h
        · exact isT_lt L h
        · exact isT_lt L h
      split
      · rename_i h2
        have hlt2 := isT_lt L h2
        have h3 := rSub_fit nm L alts halts (isT L i wVital) (i + 2) (by omega)
        cases hs : rSub nm L alts (isT L i wVital) (i + 2) with
        | no j => rw [hs] at h3; exact ⟨by have := h3.1; omega, h3.2⟩
        | ok l j => rw [hs] at h3; exact ⟨by have := h3.1; omega, h3.2⟩
      · exact ⟨by omega, by omega⟩
    · exact ⟨Nat.le_refl _, hi⟩

theorem brace_fit (g : Nat → Got Tr) (hg : ∀ k, k ≤ L.length → Fit L 0 k (g k)) (i : Nat) (hi : i ≤ L.length) : Fit L 1 i (brace L g i) := by
  unfold brace
  split
  · rename_i h
    have := isT_lt L h
    have h2 := hg (i + 1) (by omega)
    cases hs : g (i + 1) with
    | no j => rw [hs] at h2; exact ⟨by have := h2.1; omega, h2.2⟩
    | ok l j => rw [hs] at h2; exact ⟨by have := h2.1; omega, h2.2⟩
  · exact ⟨Nat.le_refl _, hi⟩

theorem Fit.zero {α : Type} {d i : Nat} {g : Got α} (h : Fit L d i g) : Fit L 0 i g := by
  cases g with
  | no j => exact h
  | ok x j => exact ⟨by have := h.1; omega, h.2⟩

theorem rd_fit (f : Nat) : ∀ k i, i ≤ L.length → Fit L 0 i (rd nm L f k i) := by
  induction f with
  | zero => intro k i hi; cases k <;> exact ⟨Nat.le_refl _, hi⟩
  | succ f ih =>
    intro k i hi
    cases k with
    | true =>
      unfold rd
      split
      · rename_i h
        have := isT_lt L h
        have h2 := ih false (i + 1) (by omega)
        cases hs : rd nm L f false (i + 1) with
        | no j => rw [hs] at h2; exact ⟨by have := h2.1; omega, h2.2⟩
        | ok x j =>
          rw [hs] at h2
          dsimp only
          split
          · rename_i h3
            have := isT_lt L h3
            have h4 := ih true (j + 1) (by omega)
            cases hr : rd nm L f true (j + 1) with
            | no k => rw [hr] at h4; exact ⟨by have := h2.1; have := h4.1; omega, h4.2⟩
            | ok r k => rw [hr] at h4; exact ⟨by have := h2.1; have := h4.1; omega, h4.2⟩
          · split
            · rename_i h3
              have := isT_lt L h3
              exact ⟨by have := h2.1; omega, by omega⟩
            · exact ⟨by have := h2.1; omega, h2.2⟩
      · exact ⟨Nat.le_refl _, hi⟩
    | false =>
      unfold rd
      split
      · rename_i h
        have := isT_lt L h
        exact ⟨by omega, by omega⟩
      · have h2 := rNode_fit nm L (brace L (rd nm L f true)) (fun k hk => (brace_fit L _ (ih true) k hk).zero) i hi
        cases hs : rNode nm L (brace L (rd nm L f true)) i with
        | no j => rw [hs] at h2; exact h2
        | ok x j =>
          rw [hs] at h2
          dsimp only
          have h3 := ih false j h2.2
          cases hr : rd nm L f false j with
          | no k => rw [hr] at h3; exact ⟨by have := h2.1; have := h3.1; omega, h3.2⟩
          | ok r k => rw [hr] at h3; exact ⟨by have := h2.1; have := h3.1; omega, h3.2⟩

/-! ### What is read is bodies, or nodes; steps have no bodies -/

theorem rStep_lab {i j : Nat} {l : Lab} (h : rStep nm L i = .ok l j) : l.sub = false ∧ l.vital = false := by
  unfold rStep at h
  split at h
  · cases h
  · split at h
    · cases h
    · split at h
      · cases h
      · split at h
        · cases h; exact ⟨rfl, rfl⟩
        · cases h

theorem rNode_lab {alts : Nat → Got Tr} {i j : Nat} {l : Lab} {t : Tr} (h : rNode nm L alts i = .ok (l, t) j) : (l.sub = false ∧ t = .e) ∨ (l.sub = true ∧ ∃ k m, alts k = .ok t m) := by
  unfold rNode at h
  split at h
  · split at h
    · cases h
    · rename_i l' j' hs
      cases h
      exact .inl ⟨(rStep_lab nm L hs).1, rfl⟩
  · split at h
    · split at h
      · unfold rSub at h
        split at h
        · cases h
        · split at h
          · cases h
          · split at h
            · cases h
            · rename_i ha
              cases h
              exact .inr ⟨rfl, _, _, ha⟩
      · cases h
    · cases h

theorem rd_ok (f : Nat) : ∀ k i t j, rd nm L f k i = .ok t j → t.ok k = true ∧ t.bare = true := by
  induction f with
  | zero => intro k i t j h; cases k <;> cases h
  | succ f ih =>
    intro k i t j h
    cases k with
    | true =>
      unfold rd at h
      split at h
      · split at h
        · cases h
        · rename_i x j' hx
          have h1 := ih _ _ _ _ hx
          split at h
          · split at h
            · cases h
            · rename_i r k' hr
              have h2 := ih _ _ _ _ hr
              cases h
              simp [Tr.ok, Tr.bare, h1, h2]
          · split at h
            · cases h
              simp [Tr.ok, Tr.bare, h1]
            · cases h
      · cases h
    | false =>
      unfold rd at h
      split at h
      · cases h
        simp [Tr.ok, Tr.bare]
      · split at h
        · cases h
        · rename_i l t' j' hn
          split at h
          · cases h
          · rename_i r k' hr
            have h2 := ih _ _ _ _ hr
            cases h
            rcases rNode_lab nm L hn with ⟨h3, rfl⟩ | ⟨h3, k, m, ha⟩
            · simp [Tr.ok, Tr.bare, h2]
            · have h4 : t'.ok true = true ∧ t'.bare = true := by
                unfold brace at ha
                split at ha
                · exact ih _ _ _ _ ha
                · cases ha
              simp [Tr.ok, Tr.bare, h2, h3, h4]
end Go.Proofs.Ytlmfmgpamhhncaa

/- Sagas in memory: bodies and nodes as they lie in slices. -/
namespace Go.Proofs.Ytlmfmgpamhhncaa
open Go.RowKit

theorem lt_of_cell? {w : World} {a : Addr} {v : Value} (h : w.cell? a = some v) : a.block < w.heap.size := by
  unfold World.cell? at h
  cases ho : w.heap[a.block]? with
  | none => simp [ho] at h
  | some o => exact (Array.getElem?_eq_some_iff.1 ho).1


/-- Texts as they lie in a slice of strings. -/
def SAt (P : Nat → Prop) (w : World) (xs : List By) (a : Option Addr) (n : Nat) : Prop :=
  n = xs.length ∧ ∀ i x, xs[i]? = some x → ∃ b off, a = some ⟨b, off, none⟩ ∧ P b ∧ w.cell? ⟨b, off + i, none⟩ = some (Value.string ⟨x.toArray⟩)

/-- Bodies (true), or nodes (false), as they lie in a slice from the i-th on to the n-th. -/
def TAt (P : Nat → Prop) (w : World) : Bool → Tr → Option Addr → Nat → Nat → Prop
  | _, .e, _, i, n => i = n
  | k, .b x r, a, i, n => k = true ∧ i < n ∧ (∃ b off v m c, a = some ⟨b, off, none⟩ ∧ P b ∧ w.cell? ⟨b, off + i, none⟩ = some (.slice v m c) ∧ TAt P w false x v 0 m) ∧ TAt P w true r a (i + 1) n
  | k, .n l t r, a, i, n => k = false ∧ i < n ∧ (∃ b off sv sm sc av am ac, a = some ⟨b, off, none⟩ ∧ P b ∧ w.cell? ⟨b, off + i * 6, none⟩ = some (Value.string ⟨l.name.toArray⟩) ∧ w.cell? ⟨b, off + i * 6 + 1, none⟩ = some (Value.string ⟨l.undo.toArray⟩) ∧
      w.cell? ⟨b, off + i * 6 + 2, none⟩ = some (.slice sv sm sc) ∧ w.cell? ⟨b, off + i * 6 + 3, none⟩ = some (.bool l.sub) ∧ w.cell? ⟨b, off + i * 6 + 4, none⟩ = some (.bool l.vital) ∧ w.cell? ⟨b, off + i * 6 + 5, none⟩ = some (.slice av am ac) ∧
      SAt P w l.after sv sm ∧ TAt P w true t av 0 am) ∧ TAt P w false r a (i + 1) n

/-- Bodies, or nodes, as the values of a row. -/
def VRd (P : Nat → Prop) (w : World) : Bool → Tr → List (List Value) → Prop
  | _, .e, vs => vs = []
  | k, .b x r, vs => k = true ∧ ∃ v m c rest, vs = [.slice v m c] :: rest ∧ TAt P w false x v 0 m ∧ VRd P w true r rest
  | k, .n l t r, vs => k = false ∧ ∃ sv sm sc av am ac rest, vs = [Value.string ⟨l.name.toArray⟩, Value.string ⟨l.undo.toArray⟩, .slice sv sm sc, .bool l.sub, .bool l.vital, .slice av am ac] :: rest ∧ SAt P w l.after sv sm ∧ TAt P w true t av 0 am ∧ VRd P w false r rest

/-- Whatever the blocks hold that are looked at, they hold it still. -/
def Keeps (P : Nat → Prop) (w w' : World) : Prop := ∀ b, P b → b < w.heap.size → w'.heap[b]? = w.heap[b]?

theorem cell_keep {P : Nat → Prop} {w w' : World} {b i : Nat} {v : Value} (h : w.cell? ⟨b, i, none⟩ = some v) (hp : P b) (hk : Keeps P w w') : w'.cell? ⟨b, i, none⟩ = some v := by
  rw [World.cell?_of_block (a := ⟨b, i, none⟩) (w := w) (w' := w')]
  · exact h
  · exact hk b hp (lt_of_cell? h)

theorem SAt.keep {P Q : Nat → Prop} {w w' : World} {xs : List By} {a : Option Addr} {n : Nat} (h : SAt P w xs a n) (hk : Keeps P w w') (hq : ∀ b, P b → b < w.heap.size → Q b) : SAt Q w' xs a n := by
  refine ⟨h.1, fun i x hi => ?_⟩
  obtain ⟨b, off, ha, hp, hc⟩ := h.2 i x hi
  exact ⟨b, off, ha, hq b hp (lt_of_cell? hc), cell_keep hc hp hk⟩

theorem TAt.keep {P Q : Nat → Prop} {w w' : World} (hk : Keeps P w w') (hq : ∀ b, P b → b < w.heap.size → Q b) (t : Tr) : ∀ (k : Bool) (a : Option Addr) (i n : Nat), TAt P w k t a i n → TAt Q w' k t a i n := by
  induction t with
  | e => intro k a i n h; exact h
  | b x r ih1 ih2 =>
    rintro k a i n ⟨h0, h1, ⟨b, off, v, m, c, ha, hp, hc, hx⟩, hr⟩
    exact ⟨h0, h1, ⟨b, off, v, m, c, ha, hq b hp (lt_of_cell? hc), cell_keep hc hp hk, ih1 _ _ _ _ hx⟩, ih2 _ _ _ _ hr⟩
  | n l t r ih1 ih2 =>
    rintro k a i n ⟨h0, h1, ⟨b, off, sv, sm, sc, av, am, ac, ha, hp, c0, c1, c2, c3, c4, c5, hs, ht⟩, hr⟩
    exact ⟨h0, h1, ⟨b, off, sv, sm, sc, av, am, ac, ha, hq b hp (lt_of_cell? c0), cell_keep c0 hp hk, cell_keep c1 hp hk, cell_keep c2 hp hk, cell_keep c3 hp hk, cell_keep c4 hp hk, cell_keep c5 hp hk, hs.keep hk hq, ih1 _ _ _ _ ht⟩, ih2 _ _ _ _ hr⟩

theorem VRd.keep {P Q : Nat → Prop} {w w' : World} (hk : Keeps P w w') (hq : ∀ b, P b → b < w.heap.size → Q b) (t : Tr) : ∀ (k : Bool) (vs : List (List Value)), VRd P w k t vs → VRd Q w' k t vs := by
  induction t with
  | e => intro k vs h; exact h
  | b x r _ ih2 =>
    rintro k vs ⟨h0, v, m, c, rest, hv, hx, hr⟩
    exact ⟨h0, v, m, c, rest, hv, hx.keep hk hq x _ _ _ _, ih2 _ _ hr⟩
  | n l t r _ ih2 =>
    rintro k vs ⟨h0, sv, sm, sc, av, am, ac, rest, hv, hs, ht, hr⟩
    exact ⟨h0, sv, sm, sc, av, am, ac, rest, hv, hs.keep hk hq, ht.keep hk hq t _ _ _ _, ih2 _ _ hr⟩

theorem TAt.len {P : Nat → Prop} {w : World} (t : Tr) : ∀ (k : Bool) (a : Option Addr) (i n : Nat), TAt P w k t a i n → n = i + t.len := by
  induction t with
  | e => intro k a i n h; simp [Tr.len]; exact (show i = n from h).symm
  | b x r _ ih2 =>
    rintro k a i n ⟨_, _, _, hr⟩
    have := ih2 _ _ _ _ hr
    simp [Tr.len]; omega
  | n l t r _ ih2 =>
    rintro k a i n ⟨_, _, _, hr⟩
    have := ih2 _ _ _ _ hr
    simp [Tr.len]; omega

theorem TAt.ok {P : Nat → Prop} {w : World} (t : Tr) : ∀ (k : Bool) (a : Option Addr) (i n : Nat), TAt P w k t a i n → t.ok k = true := by
  induction t with
  | e => intro k a i n h; simp [Tr.ok]
  | b x r ih1 ih2 =>
    rintro k a i n ⟨rfl, _, ⟨b, off, v, m, c, ha, hp, hc, hx⟩, hr⟩
    simp [Tr.ok, ih1 _ _ _ _ hx, ih2 _ _ _ _ hr]
  | n l t r ih1 ih2 =>
    rintro k a i n ⟨rfl, _, ⟨b, off, sv, sm, sc, av, am, ac, ha, hp, c0, c1, c2, c3, c4, c5, hs, ht⟩, hr⟩
    simp [Tr.ok, ih1 _ _ _ _ ht, ih2 _ _ _ _ hr]

theorem VRd.len {P : Nat → Prop} {w : World} (t : Tr) : ∀ (k : Bool) (vs : List (List Value)), VRd P w k t vs → vs.length = t.len := by
  induction t with
  | e => intro k vs h; cases (show vs = [] from h); rfl
  | b x r _ ih2 =>
    rintro k vs ⟨_, v, m, c, rest, rfl, _, hr⟩
    simp [Tr.len, ih2 _ _ hr]
  | n l t r _ ih2 =>
    rintro k vs ⟨_, sv, sm, sc, av, am, ac, rest, rfl, _, _, hr⟩
    simp [Tr.len, ih2 _ _ hr]

theorem VRd.app {P : Nat → Prop} {w : World} (t : Tr) (s : Tr) (us : List (List Value)) : ∀ (k : Bool) (vs : List (List Value)), VRd P w k t vs → VRd P w k s us → VRd P w k (t.app s) (vs ++ us) := by
  induction t with
  | e => intro k vs h hs; cases (show vs = [] from h); exact hs
  | b x r _ ih2 =>
    rintro k vs ⟨rfl, v, m, c, rest, rfl, hx, hr⟩ hs
    exact ⟨rfl, v, m, c, rest ++ us, rfl, hx, ih2 _ _ hr hs⟩
  | n l t r _ ih2 =>
    rintro k vs ⟨rfl, sv, sm, sc, av, am, ac, rest, rfl, hs1, ht, hr⟩ hs
    exact ⟨rfl, sv, sm, sc, av, am, ac, rest ++ us, rfl, hs1, ht, ih2 _ _ hr hs⟩

def wide (k : Bool) : Nat := if k then 1 else 6

theorem VRd.cells {P : Nat → Prop} {w : World} (t : Tr) : ∀ (k : Bool) (vs : List (List Value)), VRd P w k t vs → vs.flatten.length = vs.length * wide k ∧ ∀ u ∈ vs.flatten, u.oneCell' = true := by
  induction t with
  | e => intro k vs h; cases (show vs = [] from h); simp
  | b x r _ ih2 =>
    rintro k vs ⟨rfl, v, m, c, rest, rfl, _, hr⟩
    have := ih2 _ _ hr
    refine ⟨?_, ?_⟩
    · simp [wide] at this ⊢; omega
    · intro u hu
      simp only [List.flatten_cons, List.cons_append, List.nil_append, List.mem_cons] at hu
      rcases hu with rfl | hu
      · rfl
      · exact this.2 u hu
  | n l t r _ ih2 =>
    rintro k vs ⟨rfl, sv, sm, sc, av, am, ac, rest, rfl, _, _, hr⟩
    have := ih2 _ _ hr
    refine ⟨?_, ?_⟩
    · simp [wide] at this ⊢; omega
    · intro u hu
      simp only [List.flatten_cons, List.cons_append, List.nil_append, List.mem_cons] at hu
      rcases hu with rfl | rfl | rfl | rfl | rfl | rfl | hu
      all_goals first | rfl | exact this.2 u hu

/-- A row in memory that holds the values reads as they do. -/
theorem VRd.at {P : Nat → Prop} {w : World} (g : Nat) (hg : P g) (t : Tr) : ∀ (k : Bool) (vs : List (List Value)) (i : Nat), VRd P w k t vs → (∀ j u, vs.flatten[j]? = some u → w.cell? ⟨g, i * wide k + j, none⟩ = some u) → TAt P w k t (some ⟨g, 0, none⟩) i (i + vs.length) := by
  induction t with
  | e => intro k vs i h _; cases (show vs = [] from h); rfl
  | b x r _ ih2 =>
    rintro k vs i ⟨rfl, v, m, c, rest, rfl, hx, hr⟩ hc
    refine ⟨rfl, by simp, ⟨g, 0, v, m, c, rfl, hg, ?_, hx⟩, ?_⟩
    · have := hc 0 (.slice v m c) (by simp)
      simpa [wide] using this
    · have h2 := ih2 true rest (i + 1) hr (fun j u hj => by
        have := hc (j + 1) u (by simpa using hj)
        simp only [wide, if_true] at this ⊢
        rw [show (i + 1) * 1 + j = i * 1 + (j + 1) by omega]
        exact this)
      rw [show i + ([Value.slice v m c] :: rest).length = i + 1 + rest.length by simp; omega]
      exact h2
  | n l t r _ ih2 =>
    rintro k vs i ⟨rfl, sv, sm, sc, av, am, ac, rest, rfl, hs, ht, hr⟩ hc
    have hc' : ∀ j u, j < 6 → ([Value.string ⟨l.name.toArray⟩, Value.string ⟨l.undo.toArray⟩, .slice sv sm sc, .bool l.sub, .bool l.vital, .slice av am ac] : List Value)[j]? = some u → w.cell? ⟨g, 0 + i * 6 + j, none⟩ = some u := fun j u hj hu => by
      have := hc j u (by rw [List.flatten_cons, List.getElem?_append_left (by simpa using hj)]; exact hu)
      simpa [wide] using this
    refine ⟨rfl, by simp, ⟨g, 0, sv, sm, sc, av, am, ac, rfl, hg, hc' 0 _ (by omega) rfl, hc' 1 _ (by omega) rfl, hc' 2 _ (by omega) rfl, hc' 3 _ (by omega) rfl, hc' 4 _ (by omega) rfl, hc' 5 _ (by omega) rfl, hs, ht⟩, ?_⟩
    have h2 := ih2 false rest (i + 1) hr (fun j u hj => by
      have := hc (j + 6) u (by rw [List.flatten_cons, List.getElem?_append_right (by simp)]; simpa using hj)
      simp only [wide, Bool.false_eq_true, if_false] at this ⊢
      rw [show (i + 1) * 6 + j = i * 6 + (j + 6) by omega]
      exact this)
    rw [show ∀ (q : List Value), i + (q :: rest).length = i + 1 + rest.length from fun q => by simp; omega]
    exact h2

/-- A row of the call's own that holds the values reads as they do. -/
theorem VRd.own {P : Nat → Prop} {w : World} {t : Tr} {k : Bool} {vs : List (List Value)} {B : Nat} {e : TypeId} {v : Value} (hv : VRd P w k t vs) (ho : w.ownsRow B e (wide k) v vs.length vs.flatten) (hp : ∀ g, v.ownBlock = some g → P g) :
    ∃ a c, v = .slice a t.len c ∧ TAt P w k t a 0 t.len := by
  have hl := hv.len t
  rcases ho.2 with ⟨rfl, h0⟩ | ⟨g, cap, cur, rfl, hb, hg, hnc, hcm, _⟩
  · cases vs with
    | cons _ _ => simp at h0
    | nil =>
      refine ⟨none, 0, by rw [← hl]; rfl, ?_⟩
      cases t with
      | e => exact rfl
      | b x r => simp [Tr.len] at hl
      | n l t r => simp [Tr.len] at hl
  · refine ⟨_, cap, by rw [hl], ?_⟩
    have := hv.at g (hp g rfl) t k vs 0 (fun j u hj => by
      have h1 := ho.cells (g := g) rfl j u hj
      by_cases h0 : j = 0
      · subst h0; simpa [Addr.add] using h1
      · simpa [Addr.add, h0] using h1)
    rw [hl] at this
    simpa using this
end Go.Proofs.Ytlmfmgpamhhncaa

