/- Texts of the seat, packed: SNa SNb SRa SRb. -/
import Derived.Below
import Derived.Laws.OwnMore
import Derived.WalkKit
import Derived.LoopIn
import Derived.LoopNIn
import Derived.OwnWalkIn
import Derived.RangeFuncBound
import Derived.RangeFuncCalls
import Derived.RangeFuncLeaves
import Derived.RangeFuncNested
import Derived.Shelf.Abstract
import Derived.Shelf.RegionOpen
import Derived.TacticsInMore
import Derived.Test.YtlegmmhacnbnlaaGreatDoorRows
import Derived.WalkSmall
/- Sagas as plain trees, and a reader of them that goes on token by token (plain words; no program is named). -/
namespace Go.Proofs.YtlegmmhacnbnlaaGreatDoor.Sx

abbrev By := List UInt8

/-- What a node says of itself. -/
structure Lab where
  name : By
  undo : By
  after : List By
  sub : Bool
  vital : Bool
deriving DecidableEq

/-- Bodies ('b': a body's nodes, and the other bodies), nodes ('n': a node, its bodies, and the other nodes), or none more. -/
inductive Tr where
  | e : Tr
  | b : Tr → Tr → Tr
  | n : Lab → Tr → Tr → Tr
deriving DecidableEq

/-- Is it bodies (true), or nodes (false), all through? -/
def Tr.ok : Bool → Tr → Bool
  | _, .e => true
  | k, .b x r => k && x.ok false && r.ok true
  | k, .n _ t r => !k && t.ok true && r.ok false

/-- How many bodies, or nodes, stand beside each other. -/
def Tr.len : Tr → Nat
  | .e => 0
  | .b _ r => r.len + 1
  | .n _ _ r => r.len + 1

/-- How deep: of nodes, the greatest of what lies within; of bodies likewise. -/
def Tr.dep : Tr → Nat
  | .e => 0
  | .b x r => max x.dep r.dep
  | .n l t r => max (if l.sub then t.dep + 1 else 0) r.dep

/-- What a reader got: something, and where it stands; or where it stands, at what can't follow. -/
inductive Got (α : Type) where
  | ok : α → Nat → Got α
  | no : Nat → Got α

variable (nm : By → Bool) (L : List By)

def Got.at : {α : Type} → Got α → Nat
  | _, .ok _ i => i
  | _, .no i => i

/-- A reader that begins within the text ends within it, not ahead of where it began; with something, beyond by one at least where it must take. -/
def Fit {α : Type} (d : Nat) (i : Nat) (g : Got α) : Prop := match g with
  | .ok _ j => i + d ≤ j ∧ j ≤ L.length
  | .no j => i ≤ j ∧ j ≤ L.length

theorem Fit.zero {α : Type} {d i : Nat} {g : Got α} (h : Fit L d i g) : Fit L 0 i g := by
  cases g with
  | no j => exact h
  | ok x j => exact ⟨by have := h.1; omega, h.2⟩

end Go.Proofs.YtlegmmhacnbnlaaGreatDoor.Sx

/- Sagas in memory: bodies and nodes as they lie in slices. -/
namespace Go.Proofs.YtlegmmhacnbnlaaGreatDoor.Sx

open Go.RowKit

theorem lt_of_cell? {w : World} {a : Addr} {v : Value} (h : w.cell? a = some v) : a.block < w.heap.size := by
  unfold World.cell? at h
  cases ho : w.heap[a.block]? with
  | none => simp [ho] at h
  | some o => exact (Array.getElem?_eq_some_iff.1 ho).1

/-- Texts as they lie in a slice of strings. -/
def SAt (P : Nat → Prop) (w : World) (xs : List By) (a : Option Addr) (n : Nat) : Prop :=
  n = xs.length ∧ ∀ i x, xs[i]? = some x → ∃ b off, a = some ⟨b, off, none⟩ ∧ P b ∧ w.cell? ⟨b, off + i, none⟩ = some (Value.string ⟨x.toArray⟩)

/-- Bodies (true), or nodes (false), as they lie in a slice from the i-th on to the n-th. -/
def TAt (P : Nat → Prop) (w : World) : Bool → Tr → Option Addr → Nat → Nat → Prop
  | _, .e, _, i, n => i = n
  | k, .b x r, a, i, n => k = true ∧ i < n ∧ (∃ b off v m c, a = some ⟨b, off, none⟩ ∧ P b ∧ w.cell? ⟨b, off + i, none⟩ = some (.slice v m c) ∧ TAt P w false x v 0 m) ∧ TAt P w true r a (i + 1) n
  | k, .n l t r, a, i, n => k = false ∧ i < n ∧ (∃ b off sv sm sc av am ac, a = some ⟨b, off, none⟩ ∧ P b ∧ w.cell? ⟨b, off + i * 6, none⟩ = some (Value.string ⟨l.name.toArray⟩) ∧ w.cell? ⟨b, off + i * 6 + 1, none⟩ = some (Value.string ⟨l.undo.toArray⟩) ∧
      w.cell? ⟨b, off + i * 6 + 2, none⟩ = some (.slice sv sm sc) ∧ w.cell? ⟨b, off + i * 6 + 3, none⟩ = some (.bool l.sub) ∧ w.cell? ⟨b, off + i * 6 + 4, none⟩ = some (.bool l.vital) ∧ w.cell? ⟨b, off + i * 6 + 5, none⟩ = some (.slice av am ac) ∧
      SAt P w l.after sv sm ∧ TAt P w true t av 0 am) ∧ TAt P w false r a (i + 1) n

/-- Bodies, or nodes, as the values of a row. -/
def VRd (P : Nat → Prop) (w : World) : Bool → Tr → List (List Value) → Prop
  | _, .e, vs => vs = []
  | k, .b x r, vs => k = true ∧ ∃ v m c rest, vs = [.slice v m c] :: rest ∧ TAt P w false x v 0 m ∧ VRd P w true r rest
  | k, .n l t r, vs => k = false ∧ ∃ sv sm sc av am ac rest, vs = [Value.string ⟨l.name.toArray⟩, Value.string ⟨l.undo.toArray⟩, .slice sv sm sc, .bool l.sub, .bool l.vital, .slice av am ac] :: rest ∧ SAt P w l.after sv sm ∧ TAt P w true t av 0 am ∧ VRd P w false r rest

/-- Whatever the blocks hold that are looked at, they hold it still. -/
def Keeps (P : Nat → Prop) (w w' : World) : Prop := ∀ b, P b → b < w.heap.size → w'.heap[b]? = w.heap[b]?

theorem cell_keep {P : Nat → Prop} {w w' : World} {b i : Nat} {v : Value} (h : w.cell? ⟨b, i, none⟩ = some v) (hp : P b) (hk : Keeps P w w') : w'.cell? ⟨b, i, none⟩ = some v := by
  rw [World.cell?_of_block (a := ⟨b, i, none⟩) (w := w) (w' := w')]
  · exact h
  · exact hk b hp (lt_of_cell? h)

theorem SAt.keep {P Q : Nat → Prop} {w w' : World} {xs : List By} {a : Option Addr} {n : Nat} (h : SAt P w xs a n) (hk : Keeps P w w') (hq : ∀ b, P b → b < w.heap.size → Q b) : SAt Q w' xs a n := by
  refine ⟨h.1, fun i x hi => ?_⟩
  obtain ⟨b, off, ha, hp, hc⟩ := h.2 i x hi
  exact ⟨b, off, ha, hq b hp (lt_of_cell? hc), cell_keep hc hp hk⟩

theorem TAt.keep {P Q : Nat → Prop} {w w' : World} (hk : Keeps P w w') (hq : ∀ b, P b → b < w.heap.size → Q b) (t : Tr) : ∀ (k : Bool) (a : Option Addr) (i n : Nat), TAt P w k t a i n → TAt Q w' k t a i n := by
  induction t with
  | e => intro k a i n h; exact h
  | b x r ih1 ih2 =>
    rintro k a i n ⟨h0, h1, ⟨b, off, v, m, c, ha, hp, hc, hx⟩, hr⟩
    exact ⟨h0, h1, ⟨b, off, v, m, c, ha, hq b hp (lt_of_cell? hc), cell_keep hc hp hk, ih1 _ _ _ _ hx⟩, ih2 _ _ _ _ hr⟩
  | n l t r ih1 ih2 =>
    rintro k a i n ⟨h0, h1, ⟨b, off, sv, sm, sc, av, am, ac, ha, hp, c0, c1, c2, c3, c4, c5, hs, ht⟩, hr⟩
    exact ⟨h0, h1, ⟨b, off, sv, sm, sc, av, am, ac, ha, hq b hp (lt_of_cell? c0), cell_keep c0 hp hk, cell_keep c1 hp hk, cell_keep c2 hp hk, cell_keep c3 hp hk, cell_keep c4 hp hk, cell_keep c5 hp hk, hs.keep hk hq, ih1 _ _ _ _ ht⟩, ih2 _ _ _ _ hr⟩

theorem VRd.keep {P Q : Nat → Prop} {w w' : World} (hk : Keeps P w w') (hq : ∀ b, P b → b < w.heap.size → Q b) (t : Tr) : ∀ (k : Bool) (vs : List (List Value)), VRd P w k t vs → VRd Q w' k t vs := by
  induction t with
  | e => intro k vs h; exact h
  | b x r _ ih2 =>
    rintro k vs ⟨h0, v, m, c, rest, hv, hx, hr⟩
    exact ⟨h0, v, m, c, rest, hv, hx.keep hk hq x _ _ _ _, ih2 _ _ hr⟩
  | n l t r _ ih2 =>
    rintro k vs ⟨h0, sv, sm, sc, av, am, ac, rest, hv, hs, ht, hr⟩
    exact ⟨h0, sv, sm, sc, av, am, ac, rest, hv, hs.keep hk hq, ht.keep hk hq t _ _ _ _, ih2 _ _ hr⟩

theorem TAt.len {P : Nat → Prop} {w : World} (t : Tr) : ∀ (k : Bool) (a : Option Addr) (i n : Nat), TAt P w k t a i n → n = i + t.len := by
  induction t with
  | e => intro k a i n h; simp [Tr.len]; exact (show i = n from h).symm
  | b x r _ ih2 =>
    rintro k a i n ⟨_, _, _, hr⟩
    have := ih2 _ _ _ _ hr
    simp [Tr.len]; omega
  | n l t r _ ih2 =>
    rintro k a i n ⟨_, _, _, hr⟩
    have := ih2 _ _ _ _ hr
    simp [Tr.len]; omega

theorem TAt.ok {P : Nat → Prop} {w : World} (t : Tr) : ∀ (k : Bool) (a : Option Addr) (i n : Nat), TAt P w k t a i n → t.ok k = true := by
  induction t with
  | e => intro k a i n h; simp [Tr.ok]
  | b x r ih1 ih2 =>
    rintro k a i n ⟨rfl, _, ⟨b, off, v, m, c, ha, hp, hc, hx⟩, hr⟩
    simp [Tr.ok, ih1 _ _ _ _ hx, ih2 _ _ _ _ hr]
  | n l t r ih1 ih2 =>
    rintro k a i n ⟨rfl, _, ⟨b, off, sv, sm, sc, av, am, ac, ha, hp, c0, c1, c2, c3, c4, c5, hs, ht⟩, hr⟩
    simp [Tr.ok, ih1 _ _ _ _ ht, ih2 _ _ _ _ hr]

theorem VRd.len {P : Nat → Prop} {w : World} (t : Tr) : ∀ (k : Bool) (vs : List (List Value)), VRd P w k t vs → vs.length = t.len := by
  induction t with
  | e => intro k vs h; cases (show vs = [] from h); rfl
  | b x r _ ih2 =>
    rintro k vs ⟨_, v, m, c, rest, rfl, _, hr⟩
    simp [Tr.len, ih2 _ _ hr]
  | n l t r _ ih2 =>
    rintro k vs ⟨_, sv, sm, sc, av, am, ac, rest, rfl, _, _, hr⟩
    simp [Tr.len, ih2 _ _ hr]

def wide (k : Bool) : Nat := if k then 1 else 6

theorem VRd.cells {P : Nat → Prop} {w : World} (t : Tr) : ∀ (k : Bool) (vs : List (List Value)), VRd P w k t vs → vs.flatten.length = vs.length * wide k ∧ ∀ u ∈ vs.flatten, u.oneCell' = true := by
  induction t with
  | e => intro k vs h; cases (show vs = [] from h); simp
  | b x r _ ih2 =>
    rintro k vs ⟨rfl, v, m, c, rest, rfl, _, hr⟩
    have := ih2 _ _ hr
    refine ⟨?_, ?_⟩
    · simp [wide] at this ⊢; omega
    · intro u hu
      simp only [List.flatten_cons, List.cons_append, List.nil_append, List.mem_cons] at hu
      rcases hu with rfl | hu
      · rfl
      · exact this.2 u hu
  | n l t r _ ih2 =>
    rintro k vs ⟨rfl, sv, sm, sc, av, am, ac, rest, rfl, _, _, hr⟩
    have := ih2 _ _ hr
    refine ⟨?_, ?_⟩
    · simp [wide] at this ⊢; omega
    · intro u hu
      simp only [List.flatten_cons, List.cons_append, List.nil_append, List.mem_cons] at hu
      rcases hu with rfl | rfl | rfl | rfl | rfl | rfl | hu
      all_goals first | rfl | exact this.2 u hu

/-- A row in memory that holds the values reads as they do. -/
theorem VRd.at {P : Nat → Prop} {w : World} (g : Nat) (hg : P g) (t : Tr) : ∀ (k : Bool) (vs : List (List Value)) (i : Nat), VRd P w k t vs → (∀ j u, vs.flatten[j]? = some u → w.cell? ⟨g, i * wide k + j, none⟩ = some u) → TAt P w k t (some ⟨g, 0, none⟩) i (i + vs.length) := by
  induction t with
  | e => intro k vs i h _; cases (show vs = [] from h); rfl
  | b x r _ ih2 =>
    rintro k vs i ⟨rfl, v, m, c, rest, rfl, hx, hr⟩ hc
    refine ⟨rfl, by simp, ⟨g, 0, v, m, c, rfl, hg, ?_, hx⟩, ?_⟩
    · have := hc 0 (.slice v m c) (by simp)
      simpa [wide] using this
    · have h2 := ih2 true rest (i + 1) hr (fun j u hj => by
        have := hc (j + 1) u (by simpa using hj)
        simp only [wide, if_true] at this ⊢
        rw [show (i + 1) * 1 + j = i * 1 + (j + 1) by omega]
        exact this)
      rw [show i + ([Value.slice v m c] :: rest).length = i + 1 + rest.length by simp; omega]
      exact h2
  | n l t r _ ih2 =>
    rintro k vs i ⟨rfl, sv, sm, sc, av, am, ac, rest, rfl, hs, ht, hr⟩ hc
    have hc' : ∀ j u, j < 6 → ([Value.string ⟨l.name.toArray⟩, Value.string ⟨l.undo.toArray⟩, .slice sv sm sc, .bool l.sub, .bool l.vital, .slice av am ac] : List Value)[j]? = some u → w.cell? ⟨g, 0 + i * 6 + j, none⟩ = some u := fun j u hj hu => by
      have := hc j u (by rw [List.flatten_cons, List.getElem?_append_left (by simpa using hj)]; exact hu)
      simpa [wide] using this
    refine ⟨rfl, by simp, ⟨g, 0, sv, sm, sc, av, am, ac, rfl, hg, hc' 0 _ (by omega) rfl, hc' 1 _ (by omega) rfl, hc' 2 _ (by omega) rfl, hc' 3 _ (by omega) rfl, hc' 4 _ (by omega) rfl, hc' 5 _ (by omega) rfl, hs, ht⟩, ?_⟩
    have h2 := ih2 false rest (i + 1) hr (fun j u hj => by
      have := hc (j + 6) u (by rw [List.flatten_cons, List.getElem?_append_right (by simp)]; simpa using hj)
      simp only [wide, Bool.false_eq_true, if_false] at this ⊢
      rw [show (i + 1) * 6 + j = i * 6 + (j + 6) by omega]
      exact this)
    rw [show ∀ (q : List Value), i + (q :: rest).length = i + 1 + rest.length from fun q => by simp; omega]
    exact h2

/-- A row of the call's own that holds the values reads as they do. -/
theorem VRd.own {P : Nat → Prop} {w : World} {t : Tr} {k : Bool} {vs : List (List Value)} {B : Nat} {e : TypeId} {v : Value} (hv : VRd P w k t vs) (ho : w.ownsRow B e (wide k) v vs.length vs.flatten) (hp : ∀ g, v.ownBlock = some g → P g) :
    ∃ a c, v = .slice a t.len c ∧ TAt P w k t a 0 t.len := by
  have hl := hv.len t
  rcases ho.2 with ⟨rfl, h0⟩ | ⟨g, cap, cur, rfl, hb, hg, hnc, hcm, _⟩
  · cases vs with
    | cons _ _ => simp at h0
    | nil =>
      refine ⟨none, 0, by rw [← hl]; rfl, ?_⟩
      cases t with
      | e => exact rfl
      | b x r => simp [Tr.len] at hl
      | n l t r => simp [Tr.len] at hl
  · refine ⟨_, cap, by rw [hl], ?_⟩
    have := hv.at g (hp g rfl) t k vs 0 (fun j u hj => by
      have h1 := ho.cells (g := g) rfl j u hj
      by_cases h0 : j = 0
      · subst h0; simpa [Addr.add] using h1
      · simpa [Addr.add, h0] using h1)
    rw [hl] at this
    simpa using this

end Go.Proofs.YtlegmmhacnbnlaaGreatDoor.Sx

/- A range over a function whose iterator keeps memory of its own: the caller's boxes lie below, the iterator's rows above; each leaves the other's alone. -/
namespace Go.Proofs.YtlegmmhacnbnlaaGreatDoor.Sx

open Go.RowKit Go.Shelf

/-- What a round leaves alone: all below n0, and all that was made since n1. -/
structure Kr (n0 n1 : Nat) (A B : World) : Prop where
  os : B.os = A.os
  tape : B.tape = A.tape
  output : B.output = A.output
  size : A.heap.size ≤ B.heap.size
  low : ∀ k, k < n0 → B.heap[k]? = A.heap[k]?
  high : ∀ k, n1 ≤ k → k < A.heap.size → B.heap[k]? = A.heap[k]?

theorem Kr.refl (n0 n1 : Nat) (A : World) : Kr n0 n1 A A := ⟨rfl, rfl, rfl, Nat.le_refl _, fun _ _ => rfl, fun _ _ _ => rfl⟩

theorem Kr.trans {n0 n1 : Nat} {A B C : World} (h : Kr n0 n1 A B) (k : Kr n0 n1 B C) : Kr n0 n1 A C :=
  ⟨k.os.trans h.os, k.tape.trans h.tape, k.output.trans h.output, Nat.le_trans h.size k.size, fun i hi => (k.low i hi).trans (h.low i hi), fun i hi hl => (k.high i hi (Nat.lt_of_lt_of_le hl h.size)).trans (h.high i hi hl)⟩

theorem Kr.mono {n0 n1 n2 : Nat} {A B : World} (h : Kr n0 n1 A B) (hn : n1 ≤ n2) : Kr n0 n2 A B := ⟨h.os, h.tape, h.output, h.size, h.low, fun k hk hl => h.high k (by omega) hl⟩

theorem Kr.setCell {n0 n1 : Nat} (A : World) {b i : Nat} (v : Value) (h0 : n0 ≤ b) (h1 : b < n1) : Kr n0 n1 A (A.setCell ⟨b, i, none⟩ v) :=
  ⟨rfl, rfl, rfl, by simp, fun k hk => Below.heap_setCell A ⟨b, i, none⟩ v k (by show k ≠ b; omega), fun k hk _ => Below.heap_setCell A ⟨b, i, none⟩ v k (by show k ≠ b; omega)⟩

theorem Kr.of_below {n0 n1 : Nat} {A B : World} (h : Below A.heap.size A B) (hn : n0 ≤ A.heap.size) : Kr n0 n1 A B := ⟨h.os, h.tape, h.output, h.size, fun k hk => h.block k (by omega), fun k _ hl => h.block k hl⟩

theorem Kr.putObj {n0 n1 : Nat} (A : World) (l : Nat) (o : Obj) (h0 : n0 ≤ l) (h1 : l < n1) : Kr n0 n1 A (A.putObj l o) :=
  ⟨rfl, rfl, rfl, by simp, fun k hk => World.putObj_heap_other (by omega), fun k hk _ => World.putObj_heap_other (by omega)⟩

theorem below_putObj {n : Nat} (A : World) (l : Nat) (o : Obj) (h : n ≤ l) (_hl : l < A.heap.size) : Below n A (A.putObj l o) :=
  ⟨rfl, rfl, rfl, by simp, fun k hk => World.putObj_heap_other (by omega)⟩

/-- How a round's body may be left. -/
def myPost {α : Type} (n0 n1 : Nat) (I Ix : List α → World → Prop) (xs : List α) (W : World) : Exit → Act → World → Prop
  | .normal, _, W' => Kr n0 n1 W W' ∧ I xs W'
  | .ret, _, W' => Kr n0 n1 W W' ∧ Ix xs W'
  | _, _, _ => False

/-- The iterator's word. -/
def MySeq {α : Type} (F : Fence) (n : Nat) (P : Program) (g : Nat) (lb : Array Value) (encs : α → Array Value) (V : α → Prop) (n0 N : Nat) (S Sp : List α → Prop) (w : World) : Prop :=
  ∀ (l : Nat) (J Jx : List α → World → Prop) (W : World), Below w.heap.size w W → (∀ s A B, J s A → Below W.heap.size A B → J s B) → (∀ s A B, Jx s A → Below W.heap.size A B → Jx s B) →
    (∀ pre x W1, J pre W1 → V x → pre.length < N → YieldAt F (n - 1) P l (encs x) W1 fun e W' => (e = .returned (.bool true) ∧ J (pre ++ [x]) W' ∧ Kr n0 W.heap.size W1 W') ∨ (e = .returned (.bool false) ∧ Jx (pre ++ [x]) W')) →
    J [] W →
    CallsIn F n P g (#[.func (.yield l) #[] #[]] ++ lb) W fun e W' => (∃ v, e = .returned v) ∧ ((∃ xs, S xs ∧ J xs W') ∨ (∃ pre, Sp pre ∧ Jx pre W'))

theorem range_mine {α : Type} {F : Fence} {n : Nat} {P : Program} {g : Operand} {ps : Array Tmp} {assign body : Code} {Q : Exit → Act → World → Prop} {a : Act} {w : World}
    (hro : F.round = none) (h1 : 1 ≤ n) {gf : Nat} {lb : Array Value} (hg : a.eval g = .func (.func gf) #[] lb) (hFg : F.fn gf) (eg : ∀ args w, (callFunc gf args).run P w = .ok (.enter gf args) w)
    {encs : α → Array Value} {V : α → Prop} {n0 N : Nat} {S Sp : List α → Prop} (hseq : MySeq F (n - 1) P gf lb encs V n0 N S Sp w) (hn0 : n0 ≤ w.heap.size) (hps : ∀ x, (encs x).size = ps.size)
    (I Ix : List α → World → Prop) (hI : ∀ s A B, I s A → Below w.heap.size A B → I s B) (hIx : ∀ s A B, Ix s A → Below w.heap.size A B → Ix s B) (h0 : I [] w)
    (hround : ∀ (l : Nat) (pre : List α) (x : α) (W : World), V x → pre.length < N → I pre W → w.heap.size + 1 < W.heap.size → assign.wpIn (F.inRound l) (n - 1 - 1) P (Exit.then (fun a₁ W1 => I pre W1 ∧ Kr n0 w.heap.size W W1 ∧ ∀ W2, I pre W2 → Kr n0 (w.heap.size + 2) W1 W2 → body.wpIn (F.inRound l) (n - 1 - 1) P (myPost n0 w.heap.size I Ix (pre ++ [x]) W2) a₁ W2) (fun _ _ _ => False))
      { tmps := (ps.zip (encs x)).foldl (fun t (p, v) => t.setIfInBounds p v) a.tmps, defers := [] } W)
    (hdone : ∀ (xs : List α) (W : World), S xs → I xs W → W.heap[w.heap.size]? = some (.deferred (some [])) → Q .normal { a with defers := { target := .collected w.heap.size, args := #[] } :: a.defers } W)
    (hstop : ∀ (pre : List α) (W : World), Sp pre → Ix pre W → W.heap[w.heap.size]? = some (.deferred (some [])) → Code.ret.wpIn F n P Q { a with defers := { target := .collected w.heap.size, args := #[] } :: a.defers } W) :
    (Code.rangeFunc g ps assign body).wpIn F n P Q a w := by
  refine wpIn_rangeFunc ?_
  intro fn hfn
  rw [hro]
  obtain ⟨rec, hrec⟩ : ∃ rec : LoopState → Option Code → Loop, rec = fun st pe => { state := st, pending := pe, fn, tmps := a.tmps, params := ps, assign, body, defers := w.heap.size } := ⟨_, rfl⟩
  obtain ⟨W1, hW1⟩ : ∃ W1, (w.alloc (.deferred (some []))).alloc (.loop (rec .ready none)) = W1 := ⟨_, rfl⟩
  have hsz : W1.heap.size = w.heap.size + 2 := by rw [← hW1]; simp
  have hL1 : W1.heap[w.heap.size + 1]? = some (.loop (rec .ready none)) := by
    rw [← hW1]; have := World.alloc_heap_new (w.alloc (.deferred (some []))) (.loop (rec .ready none)); rwa [World.size_alloc] at this
  have hK1 : W1.heap[w.heap.size]? = some (.deferred (some [])) := by
    rw [← hW1]; exact (Below.heap_alloc _ _ _ (by simp)).trans (World.alloc_heap_new w _)
  have hb1 : Below w.heap.size w W1 := by
    rw [← hW1]; exact ((Below.refl _ w).alloc (Nat.le_refl _) _).alloc (by simp) _
  have hI1 : I [] W1 := hI _ _ _ h0 hb1
  refine ⟨w.heap.size + 1, [{ target := .collected w.heap.size, args := #[] }], W1, { target := .fn (.func gf) lb, args := #[.func (.yield (w.heap.size + 1)) #[] #[]] }, W1, gf,
    #[.func (.yield (w.heap.size + 1)) #[] #[]] ++ lb, W1, ?_, ?_, ?_, ?_, fun _ => h1, ?_⟩
  · rw [← hW1, hrec]; exact run_enterLoop_outer _ _ _ _ _
  · simp only [resolve, hg]
    simp [go_sem]
  · intro f' hf'; simp [Target.leads] at hf'; subst hf'; exact hFg
  · simp [invoke, go_sem, eg]
  · refine (hseq (w.heap.size + 1)
      (fun pre W => I pre W ∧ W.heap[w.heap.size + 1]? = some (.loop (rec .ready none)) ∧ W.heap[w.heap.size]? = some (.deferred (some [])))
      (fun pre W => Ix pre W ∧ W.heap[w.heap.size + 1]? = some (.loop (rec .done (some .ret))) ∧ W.heap[w.heap.size]? = some (.deferred (some [])))
      W1 hb1
      (fun s A B hs hb => ⟨hI s A B hs.1 (hb.mono (by omega)), (hb.block _ (by omega)).trans hs.2.1, (hb.block _ (by omega)).trans hs.2.2⟩)
      (fun s A B hs hb => ⟨hIx s A B hs.1 (hb.mono (by omega)), (hb.block _ (by omega)).trans hs.2.1, (hb.block _ (by omega)).trans hs.2.2⟩)
      ?_ ⟨hI1, hL1, hK1⟩).mono ?_
    · rintro pre x W ⟨hi, hl, hk⟩ hV hN
      have hlt : w.heap.size + 1 < W.heap.size := (Array.getElem?_eq_some_iff.1 hl).1
      have hy := run_yield (P := P) (args := encs x) hl (by rw [hrec]; exact hps x)
      rw [hrec] at hy
      refine ⟨fn, _, assign, body, hy, roundIn_of_wpIn hfn (wpIn_mono (hround _ pre x W hV hN hi hlt) ?_)⟩
      rintro e a1 Wa hp
      cases e with
      | normal =>
        obtain ⟨hia, hka, hbd⟩ := hp
        have hla : Wa.heap[w.heap.size + 1]? = some (.loop (rec .ready none)) := (hka.high _ (by omega) hlt).trans hl
        have hda : Wa.heap[w.heap.size]? = some (.deferred (some [])) := (hka.high _ (by omega) (by omega)).trans hk
        have hlta : w.heap.size + 1 < Wa.heap.size := (Array.getElem?_eq_some_iff.1 hla).1
        refine ⟨_, run_beginRound hla (by rw [hrec]), ?_⟩
        have hl2 : (Wa.putObj (w.heap.size + 1) (.loop { rec .ready none with state := .busy })).heap[w.heap.size + 1]? = some (.loop { rec .ready none with state := .busy }) := World.putObj_heap_same hlta
        have hk2 : (Wa.putObj (w.heap.size + 1) (.loop { rec .ready none with state := .busy })).heap[w.heap.size]? = some (.deferred (some [])) := (World.putObj_heap_other (by omega)).trans hda
        have hb2 : Below w.heap.size Wa (Wa.putObj (w.heap.size + 1) (.loop { rec .ready none with state := .busy })) := below_putObj _ _ _ (by omega) hlta
        have hkr2 : Kr n0 (w.heap.size + 2) Wa (Wa.putObj (w.heap.size + 1) (.loop { rec .ready none with state := .busy })) := Kr.putObj _ _ _ (by omega) (by omega)
        refine wpIn_mono (hbd _ (hI _ _ _ hia hb2) hkr2) ?_
        have fin : ∀ (jump : Option Code) (W3 : World), Kr n0 w.heap.size (Wa.putObj (w.heap.size + 1) (.loop { rec .ready none with state := .busy })) W3 →
            (Instr.endRound (w.heap.size + 1) jump).run P W3 = .ok (.bool jump.isNone) (W3.putObj (w.heap.size + 1) (.loop (rec (if jump.isNone then .ready else .done) jump))) ∧
            w.heap.size + 1 < W3.heap.size ∧
            (W3.putObj (w.heap.size + 1) (.loop (rec (if jump.isNone then .ready else .done) jump))).heap[w.heap.size + 1]? = some (.loop (rec (if jump.isNone then .ready else .done) jump)) ∧
            (W3.putObj (w.heap.size + 1) (.loop (rec (if jump.isNone then .ready else .done) jump))).heap[w.heap.size]? = some (.deferred (some [])) := fun jump W3 hk3 => by
          have hl3 := (hk3.high (w.heap.size + 1) (by omega) (by simpa using hlta)).trans hl2
          have hd3 := (hk3.high w.heap.size (by omega) (by simp; omega)).trans hk2
          have := run_endRound (P := P) jump hl3
          rw [hrec] at this ⊢
          exact ⟨this, (Array.getElem?_eq_some_iff.1 hl3).1, World.putObj_heap_same (Array.getElem?_eq_some_iff.1 hl3).1, (World.putObj_heap_other (by omega)).trans hd3⟩
        rintro e a3 W3 hp
        cases e with
        | normal =>
          obtain ⟨hk3, hi3⟩ := hp
          obtain ⟨hr, hlt3, hl4, hk4⟩ := fin none W3 hk3
          refine ⟨_, _, hr, .inl ⟨rfl, ⟨hI _ _ _ hi3 (below_putObj _ _ _ (by omega) hlt3), hl4, hk4⟩, ?_⟩⟩
          rw [hsz]
          exact (((hka.mono (by omega)).trans hkr2).trans (hk3.mono (by omega))).trans (Kr.putObj _ _ _ (by omega) (by omega))
        | ret =>
          obtain ⟨hk3, hi3⟩ := hp
          obtain ⟨hr, hlt3, hl4, hk4⟩ := fin (some .ret) W3 hk3
          exact ⟨_, _, hr, .inr ⟨rfl, hIx _ _ _ hi3 (below_putObj _ _ _ (by omega) hlt3), hl4, hk4⟩⟩
        | exit id => exact hp.elim
        | goto t => exact hp.elim
        | panic ch => exact hp.elim
        | outgrown => exact hp.elim
      | ret => exact hp.elim
      | exit id => exact hp.elim
      | goto t => exact hp.elim
      | panic ch => exact hp.elim
      | outgrown => exact hp.elim
    · rintro e W2 ⟨⟨v, rfl⟩, (⟨xs, hS, hi, hl, hk⟩ | ⟨pre, hSp, hi, hl, hk⟩)⟩
      · have hlt := (Array.getElem?_eq_some_iff.1 hl).1
        exact ⟨none, _, by have := run_endLoop (P := P) hl (by rw [hrec]; simp); rw [hrec] at this; exact this, hdone xs _ hS (hI _ _ _ hi (below_putObj _ _ _ (by omega) hlt)) ((World.putObj_heap_other (by omega)).trans hk)⟩
      · have hlt := (Array.getElem?_eq_some_iff.1 hl).1
        exact ⟨some .ret, _, by have := run_endLoop (P := P) hl (by rw [hrec]; simp); rw [hrec] at this; exact this, hstop pre _ hSp (hIx _ _ _ hi (below_putObj _ _ _ (by omega) hlt)) ((World.putObj_heap_other (by omega)).trans hk)⟩

end Go.Proofs.YtlegmmhacnbnlaaGreatDoor.Sx

/- The program's iterator over a saga's nodes: plain words and what it keeps in memory. -/
namespace Go.Proofs.YtlegmmhacnbnlaaGreatDoor.Sx

open Go.RowKit Go.Shelf

/-- All nodes, each with the depth at which its saga stands. -/
def fltn : Nat → Tr → List (Nat × Lab × Tr)
  | _, .e => []
  | d, .b x r => fltn d x ++ fltn d r
  | d, .n l t r => (d, l, t) :: ((if l.sub then fltn (d + 1) t else []) ++ fltn d r)

/-- What is still to be pushed, and gone through. -/
def tw : Tr → Nat
  | .e => 0
  | .b x r => tw x + tw r
  | .n l t r => (if l.sub then 1 + tw t else 0) + tw r

/-- Bodies and nodes in all. -/
def Tr.sz : Tr → Nat
  | .e => 0
  | .b x r => x.sz + r.sz + 1
  | .n _ t r => t.sz + r.sz + 1

theorem Tr.len_sz (t : Tr) : t.len ≤ t.sz := by
  induction t with
  | e => exact Nat.le_refl _
  | b x r _ ih => simp [Tr.len, Tr.sz]; omega
  | n l x r _ ih => simp [Tr.len, Tr.sz]; omega

/-- No node leans on too many. -/
def Tr.afs : Tr → Prop
  | .e => True
  | .b x r => x.afs ∧ r.afs
  | .n l t r => l.after.length ≤ 1000000000 ∧ t.afs ∧ r.afs

/-- A node that is handed on. -/
structure Nd where
  deep : Nat
  lab : Lab
  alts : Tr
  sv : Option Addr
  sm : Nat
  sc : Nat
  av : Option Addr
  am : Nat
  ac : Nat

def Nd.val (x : Nd) : List Value := [.string ⟨x.lab.name.toArray⟩, .string ⟨x.lab.undo.toArray⟩, .slice x.sv x.sm x.sc, .bool x.lab.sub, .bool x.lab.vital, .slice x.av x.am x.ac]

def Nd.enc (x : Nd) : Array Value := #[.int .i64 (x.deep : Int), .agg #[.string ⟨x.lab.name.toArray⟩, .string ⟨x.lab.undo.toArray⟩, .slice x.sv x.sm x.sc, .bool x.lab.sub, .bool x.lab.vital, .slice x.av x.am x.ac]]

def Nd.ok (n0 : Nat) (w0 : World) (D : Nat) (x : Nd) : Prop := SAt (· < n0) w0 x.lab.after x.sv x.sm ∧ TAt (· < n0) w0 true x.alts x.av 0 x.am ∧ x.deep ≤ D ∧ x.lab.after.length ≤ 1000000000

def Nd.key (x : Nd) : Nat × Lab × Tr := (x.deep, x.lab, x.alts)

/-- What waits. -/
structure En where
  deep : Nat
  tree : Tr
  av : Option Addr
  am : Nat
  ac : Nat

def En.val (e : En) : List Value := [.int .i64 (e.deep : Int), .slice e.av e.am e.ac]

def En.ok (n0 : Nat) (w0 : World) (D : Nat) (e : En) : Prop := TAt (· < n0) w0 true e.tree e.av 0 e.am ∧ e.deep + e.tree.dep ≤ D ∧ e.tree.sz ≤ 1000000000 ∧ e.tree.afs

def evs (l : List En) : List Value := (l.map En.val).flatten

def ew : List En → Nat
  | [] => 0
  | e :: r => 1 + tw e.tree + ew r

def efl : List En → List (Nat × Lab × Tr)
  | [] => []
  | e :: r => fltn e.deep e.tree ++ efl r

theorem evs_len (l : List En) : (evs l).length = l.length * 2 := by
  induction l with
  | nil => rfl
  | cons e l ih => simp [evs, En.val] at ih ⊢; omega

theorem evs_snoc (l : List En) (e : En) : evs (l ++ [e]) = evs l ++ En.val e := by simp [evs]

theorem ew_snoc (l : List En) (e : En) : ew (l ++ [e]) = ew l + 1 + tw e.tree := by
  induction l with
  | nil => simp [ew]
  | cons x l ih => simp [ew, ih]; omega

theorem efl_snoc (l : List En) (e : En) : efl (l ++ [e]) = efl l ++ fltn e.deep e.tree := by
  induction l with
  | nil => simp [efl]
  | cons x l ih => simp [efl, ih]

/-- A tree in memory is one tree. -/
theorem SAt.unique {P : Nat → Prop} {w : World} {xs ys : List By} {a : Option Addr} {n : Nat} (h : SAt P w xs a n) (k : SAt P w ys a n) : xs = ys := by
  apply List.ext_getElem?
  intro i
  by_cases hi : i < n
  · obtain ⟨x, h1⟩ : ∃ x, xs[i]? = some x := ⟨_, List.getElem?_eq_getElem (by rw [← h.1]; exact hi)⟩
    obtain ⟨y, k1⟩ : ∃ y, ys[i]? = some y := ⟨_, List.getElem?_eq_getElem (by rw [← k.1]; exact hi)⟩
    obtain ⟨b, off, ha, _, hc⟩ := h.2 i _ h1
    obtain ⟨b', off', ha', _, hc'⟩ := k.2 i _ k1
    rw [ha] at ha'
    cases ha'
    rw [hc] at hc'
    simp at hc'
    rw [h1, k1, hc']
  · rw [List.getElem?_eq_none (by rw [← h.1]; omega), List.getElem?_eq_none (by rw [← k.1]; omega)]

theorem TAt.unique {P : Nat → Prop} {w : World} (t : Tr) : ∀ (s : Tr) (k : Bool) (a : Option Addr) (i n : Nat), TAt P w k t a i n → TAt P w k s a i n → t = s := by
  induction t with
  | e =>
    intro s k a i n h g
    have h' : i = n := h
    cases s with
    | e => rfl
    | b x r => have := g.2.1; omega
    | n l x r => have := g.2.1; omega
  | b x r ih1 ih2 =>
    rintro s k a i n ⟨rfl, hl, ⟨b, off, v, m, c, ha, hp, hc, hx⟩, hr⟩ g
    cases s with
    | e => have : i = n := g; omega
    | b x' r' =>
      obtain ⟨_, _, ⟨b', off', v', m', c', ha', _, hc', hx'⟩, hr'⟩ := g
      rw [ha] at ha'; cases ha'
      rw [hc] at hc'; simp at hc'
      obtain ⟨rfl, rfl, rfl⟩ := hc'
      rw [ih1 _ _ _ _ _ hx hx', ih2 _ _ _ _ _ hr hr']
    | n l x' r' => have := g.1; simp at this
  | n l t r ih1 ih2 =>
    rintro s k a i n ⟨rfl, hl, ⟨b, off, sv, sm, sc, av, am, ac, ha, hp, c0, c1, c2, c3, c4, c5, hs, ht⟩, hr⟩ g
    cases s with
    | e => have : i = n := g; omega
    | b x' r' => have := g.1; simp at this
    | n l' t' r' =>
      obtain ⟨_, _, ⟨b', off', sv', sm', sc', av', am', ac', ha', _, d0, d1, d2, d3, d4, d5, hs', ht'⟩, hr'⟩ := g
      rw [ha] at ha'; cases ha'
      rw [c0] at d0; rw [c1] at d1; rw [c2] at d2; rw [c3] at d3; rw [c4] at d4; rw [c5] at d5
      simp at d0 d1 d2 d3 d4 d5
      obtain ⟨rfl, rfl, rfl⟩ := d2
      obtain ⟨rfl, rfl, rfl⟩ := d5
      have e1 := hs.unique hs'
      rw [ih1 _ _ _ _ _ ht ht', ih2 _ _ _ _ _ hr hr']
      obtain ⟨a1, a2, a3, a4, a5⟩ := l
      obtain ⟨b1, b2, b3, b4, b5⟩ := l'
      simp_all

/-- The waiting ones, in memory. -/
def Wt (n0 : Nat) (w0 : World) (n1 D : Nat) (lv : Value) (wr : World) (stk : List En) : Prop := wr.ownsRow n1 176 2 lv stk.length (evs stk) ∧ ∀ e ∈ stk, e.ok n0 w0 D

theorem En.val_inj {n0 : Nat} {w0 : World} {D : Nat} {e e' : En} (h : e.val = e'.val) (ho : e.ok n0 w0 D) (ho' : e'.ok n0 w0 D) : e = e' := by
  obtain ⟨d, t, av, am, ac⟩ := e
  obtain ⟨d', t', av', am', ac'⟩ := e'
  simp [En.val] at h
  obtain ⟨h1, h2, h3, h4⟩ := h
  subst h2; subst h3; subst h4
  have : t = t' := TAt.unique _ _ _ _ _ _ ho.1 ho'.1
  subst this
  have : d = d' := by omega
  subst this
  rfl

theorem evs_inj {n0 : Nat} {w0 : World} {D : Nat} (l : List En) : ∀ (m : List En), evs l = evs m → (∀ e ∈ l, e.ok n0 w0 D) → (∀ e ∈ m, e.ok n0 w0 D) → l = m := by
  induction l with
  | nil =>
    intro m h _ _
    cases m with
    | nil => rfl
    | cons e m => simp [evs, En.val] at h
  | cons e l ih =>
    intro m h h1 h2
    cases m with
    | nil => simp [evs, En.val] at h
    | cons e' m =>
      have h' : En.val e ++ evs l = En.val e' ++ evs m := by simpa [evs] using h
      have hl : (En.val e).length = (En.val e').length := rfl
      obtain ⟨q1, q2⟩ := List.append_inj h' hl
      rw [En.val_inj q1 (h1 e (by simp)) (h2 e' (by simp)), ih m q2 (fun x hx => h1 x (by simp [hx])) (fun x hx => h2 x (by simp [hx]))]

theorem Wt.unique {n0 : Nat} {w0 : World} {n1 D : Nat} {lv : Value} {wr : World} {s s' : List En} (h : Wt n0 w0 n1 D lv wr s) (h' : Wt n0 w0 n1 D lv wr s') : s = s' := by
  refine evs_inj s s' ?_ h.2 h'.2
  have e1 := evs_len s
  have e2 := evs_len s'
  rcases h.1.2 with ⟨rfl, hn⟩ | ⟨g, cap, cur, rfl, _, hg, hnc, _, _, ht⟩
  · rcases h'.1.2 with ⟨_, hn'⟩ | ⟨g', cap', cur', hv, _⟩
    · rw [List.eq_nil_of_length_eq_zero hn, List.eq_nil_of_length_eq_zero hn']
    · cases hv
  · rcases h'.1.2 with ⟨hv, hn'⟩ | ⟨g', cap', cur', hv, _, hg', _, _, _, ht'⟩
    · cases hv
    · simp at hv
      obtain ⟨rfl, hl, rfl⟩ := hv
      rw [hg] at hg'
      cases hg'
      rw [← ht, ← ht', hl]

open Classical in

/-- How much is left. -/
noncomputable def mu (n0 : Nat) (w0 : World) (n1 D : Nat) (lv : Value) (wr : World) : Nat := if h : ∃ s, Wt n0 w0 n1 D lv wr s then ew (Classical.choose h) else 0

theorem mu_eq {n0 : Nat} {w0 : World} {n1 D : Nat} {lv : Value} {wr : World} {s : List En} (h : Wt n0 w0 n1 D lv wr s) : mu n0 w0 n1 D lv wr = ew s := by
  have hx : ∃ s, Wt n0 w0 n1 D lv wr s := ⟨s, h⟩
  unfold mu
  rw [dif_pos hx, (Classical.choose_spec hx).unique h]

end Go.Proofs.YtlegmmhacnbnlaaGreatDoor.Sx

