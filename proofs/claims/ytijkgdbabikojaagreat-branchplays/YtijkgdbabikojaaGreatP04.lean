/- Texts of the seat, packed: DMa DWa DWb DWc DWd DWe. -/
import Derived.Test.YtijkgdbabikojaaGreatRows
import Derived.WalkKit
import Derived.WalkSpells
import Derived.WalkLawsBesides
import Derived.BigQuiet
import Derived.Deep.QuietTactic
import Derived.Deep.RegionHeld
import Derived.Laws.Rows
import Derived.Laws.IdiomStrings
import Derived.Laws.BytesArg
import Derived.Laws.AppendOwnNone
import Derived.Maps.AppendAt
import Derived.Lib.SliceRun
import Derived.Laws.MakeOwn
import Derived.Shelf.Abstract
/- Plain: a disk as a value, and what each call makes of it. -/
namespace Go.Proofs.YtijkgdbabikojaaGreat.Dk
set_option maxRecDepth 1000000

/-- A file: its bytes, and how many of them are synced. -/
structure Fl where
  b : List UInt8
  s : Nat

/-- A disk: how many files, the files, the room, the fuse (below 0: none), and whether the power is gone. -/
structure DS where
  n : Nat
  fs : Nat → Fl
  room : Nat
  fuse : Int
  down : Bool

def putF (fs : Nat → Fl) (i : Nat) (f : Fl) : Nat → Fl := fun j => if j = i then f else fs j

theorem putF_same (fs : Nat → Fl) (i : Nat) (f : Fl) : putF fs i f i = f := by simp [putF]
theorem putF_other (fs : Nat → Fl) (i j : Nat) (f : Fl) (h : j ≠ i) : putF fs i f j = fs j := by simp [putF, h]

/-- What a disk is like, however it came to be. -/
structure Okay (S : DS) : Prop where
  pos : 1 ≤ S.n
  few : S.n ≤ 65
  syn : ∀ i, (S.fs i).s ≤ (S.fs i).b.length
  none : ∀ i, S.n ≤ i → S.fs i = ⟨[], 0⟩
  fuse : -1 ≤ S.fuse
  fuse2 : S.fuse ≤ 9223372036854775807

/-- The lengths stay within this. -/
structure Small (L R : Nat) (S : DS) : Prop where
  len : ∀ i, (S.fs i).b.length ≤ L
  room : S.room ≤ R

def newP (n room : Nat) : DS := ⟨n, fun _ => ⟨[], 0⟩, room, -1, false⟩

/-- A file is turned; the room takes what it loses, and gives what it gains. -/
def turnP (S : DS) (i : Nat) (f : Fl) : DS := { S with fs := putF S.fs i f, room := S.room + (S.fs i).b.length - f.b.length }

def burnF (f : Int) : Int := if 0 < f then f - 1 else -1

def hasB (S : DS) (i : Int) : Bool := decide (0 ≤ i ∧ i < S.n)

/-- A call that turns a file: what is asked further tells more, the file becomes how. -/
def writeP (S : DS) (i : Int) (more : Int) (how : Fl → Fl) : Int × DS :=
  if S.down = true then (9, S) else if hasB S i = false then (2, S) else if more ≠ 0 then (more, S) else if S.fuse = 0 then (9, { S with down := true }) else (0, turnP { S with fuse := burnF S.fuse } i.toNat (how (S.fs i.toNat)))

def fitsP (S : DS) (l : Nat) : Int := if l ≤ S.room then 0 else 8
def reachP (S : DS) (i n : Int) : Int := if 0 ≤ n ∧ n ≤ (S.fs i.toNat).b.length then 0 else 2
def growsP (S : DS) (n : Int) : Int := if 0 ≤ n ∧ n ≤ 1048576 - S.room then 0 else 2

def withP (b : List UInt8) (f : Fl) : Fl := ⟨f.b ++ b, f.s⟩
def firstP (n : Nat) (f : Fl) : Fl := ⟨f.b.take n, n⟩
def tornN (k : Int) (f : Fl) : Nat := f.s + (min (max k 0) (((f.b.length - f.s : Nat)) : Int)).toNat
def tornP (k : Int) (f : Fl) : Fl := firstP (tornN k f) f

def appendP (S : DS) (i : Int) (b : List UInt8) : Int × DS := writeP S i (fitsP S b.length) (withP b)
def syncP (S : DS) (i : Int) : Int × DS := writeP S i 0 (fun f => firstP f.b.length f)
def cutP (S : DS) (i n : Int) : Int × DS := writeP S i (reachP S i n) (firstP n.toNat)
def growP (S : DS) (n : Int) : Int × DS := if growsP S n ≠ 0 then (2, S) else (0, { S with room := S.room + n.toNat })
def armP (S : DS) (n : Int) : Int × DS := if S.down = true then (9, S) else (0, { S with fuse := max n (-1) })

/-- The first k files behind a crash. -/
def crashK (keep : List Int) (S : DS) : Nat → DS
  | 0 => S
  | k + 1 => let T := crashK keep S k; turnP T k (tornP (keep.getD k 0) (T.fs k))
def crashP (S : DS) (keep : List Int) : DS := { crashK keep S S.n with fuse := -1, down := false }

theorem tornN_le (k : Int) (f : Fl) (h : f.s ≤ f.b.length) : f.s ≤ tornN k f ∧ tornN k f ≤ f.b.length := by
  unfold tornN
  omega

theorem hasB_true {S : DS} {i : Int} (h : hasB S i = true) : ∃ k : Nat, i = k ∧ k < S.n := by
  unfold hasB at h
  have := of_decide_eq_true h
  exact ⟨i.toNat, by omega, by omega⟩

theorem Okay.turn {S : DS} (h : Okay S) (i : Nat) (f : Fl) (hi : i < S.n) (hf : f.s ≤ f.b.length) : Okay (turnP S i f) := by
  refine ⟨h.pos, h.few, fun j => ?_, fun j hj => ?_, h.fuse, h.fuse2⟩
  · show (putF S.fs i f j).s ≤ (putF S.fs i f j).b.length
    unfold putF
    split
    · exact hf
    · exact h.syn j
  · show putF S.fs i f j = _
    have hj2 : S.n ≤ j := hj
    rw [putF_other _ _ _ _ (by omega)]
    exact h.none j hj2

theorem Okay.down {S : DS} (h : Okay S) (b : Bool) : Okay { S with down := b } := ⟨h.pos, h.few, h.syn, h.none, h.fuse, h.fuse2⟩
theorem Okay.setFuse {S : DS} (h : Okay S) (f : Int) (h1 : -1 ≤ f) (h2 : f ≤ 9223372036854775807) : Okay { S with fuse := f } := ⟨h.pos, h.few, h.syn, h.none, h1, h2⟩
theorem Okay.setRoom {S : DS} (h : Okay S) (r : Nat) : Okay { S with room := r } := ⟨h.pos, h.few, h.syn, h.none, h.fuse, h.fuse2⟩

theorem burnF_ok {f : Int} (h : -1 ≤ f) (h2 : f ≤ 9223372036854775807) : -1 ≤ burnF f ∧ burnF f ≤ 9223372036854775807 := by
  unfold burnF
  split <;> omega

theorem burnF_eq {f : Int} (h : -1 ≤ f) (_h0 : f ≠ 0) : max (f - 1) (-1) = burnF f := by
  unfold burnF
  split <;> omega

theorem Okay.write {S : DS} (h : Okay S) (i more : Int) (how : Fl → Fl) (hh : ∀ k : Nat, i = k → k < S.n → more = 0 → (how (S.fs k)).s ≤ (how (S.fs k)).b.length) : Okay (writeP S i more how).2 := by
  unfold writeP
  split
  · exact h
  · split
    · exact h
    · rename_i h2
      obtain ⟨k, rfl, hk⟩ := hasB_true (by simpa using h2)
      split
      · exact h
      · split
        · exact h.down _
        · rename_i h3 _
          have := burnF_ok h.fuse h.fuse2
          exact (h.setFuse _ this.1 this.2).turn _ _ hk (hh k rfl hk (by simpa using h3))

theorem crashK_n (keep : List Int) (S : DS) : ∀ k, (crashK keep S k).n = S.n
  | 0 => rfl
  | k + 1 => crashK_n keep S k

theorem crashK_fs (keep : List Int) (S : DS) : ∀ k j, (crashK keep S k).fs j = if j < k then tornP (keep.getD j 0) (S.fs j) else S.fs j
  | 0, j => by simp [crashK]
  | k + 1, j => by
    have ih := crashK_fs keep S k
    show putF (crashK keep S k).fs k _ j = _
    unfold putF
    by_cases h : j = k
    · subst h
      rw [if_pos rfl, if_pos (by omega), ih j, if_neg (by omega)]
    · rw [if_neg h, ih j]
      by_cases h2 : j < k
      · rw [if_pos h2, if_pos (by omega)]
      · rw [if_neg h2, if_neg (by omega)]

theorem Okay.crashK {S : DS} (h : Okay S) (keep : List Int) : ∀ k, k ≤ S.n → Okay (crashK keep S k)
  | 0, _ => h
  | k + 1, hk => by
    have ih := Okay.crashK h keep k (by omega)
    refine ih.turn k _ (by rw [crashK_n]; omega) ?_
    have := tornN_le (keep.getD k 0) _ (ih.syn k)
    show tornN _ _ ≤ (List.take _ _).length
    rw [List.length_take]
    omega

theorem Okay.crash {S : DS} (h : Okay S) (keep : List Int) : Okay (crashP S keep) := by
  have := h.crashK keep S.n (Nat.le_refl _)
  exact (this.setFuse (-1) (by omega) (by omega)).down false

theorem crashK_room (keep : List Int) {S : DS} (h : Okay S) {L R : Nat} (hs : Small L R S) : ∀ k, k ≤ S.n → Small L (R + k * L) (crashK keep S k)
  | 0, _ => by rw [Nat.zero_mul, Nat.add_zero]; exact hs
  | k + 1, hk => by
    have ih := crashK_room keep h hs k (by omega)
    have ho := h.crashK keep k (by omega)
    refine ⟨fun j => ?_, ?_⟩
    · rw [crashK_fs]
      split
      · show (List.take _ _).length ≤ L
        rw [List.length_take]
        have := hs.len j
        omega
      · exact hs.len j
    · show (crashK keep S k).room + ((crashK keep S k).fs k).b.length - _ ≤ _
      have h1 := ih.room
      have h2 := ih.len k
      rw [Nat.add_mul, Nat.one_mul]
      omega
end Go.Proofs.YtijkgdbabikojaaGreat.Dk

/- Bytes in memory; what is kept of a world; a program's disk in memory. -/
namespace Go.Proofs.YtijkgdbabikojaaGreat.Dk
set_option maxRecDepth 1000000
open Go.RowKit
set_option linter.unusedVariables false

theorem ret_i {k : IntKind} {a b : Int} (h : a = b) : Ending.returned (.int k a) = .returned (.int k b) := by rw [h]
theorem ret_b {a b : Bool} (h : a = b) : Ending.returned (.bool a) = .returned (.bool b) := by rw [h]
theorem ret_v {a b : Value} (h : a = b) : Ending.returned a = .returned b := by rw [h]

theorem Tryz.info5 : (Tryz.prog.info? 5).map (fun i => (i.zero, i.size, i.bytes)) = some (some (.int .u8 0), 1, 1) := by kernel_rfl

theorem byte_lt (b : UInt8) : b.toNat < 256 := b.toNat_lt

/-- A slice of bytes that reads as a list. -/
def RB (w : World) (v : Value) (l : List UInt8) : Prop :=
  ∃ a cap, v = .slice a l.length cap ∧ l.length ≤ cap ∧ cap ≤ maxLen ∧ (a = none → cap = 0) ∧ ∀ i, i < l.length → ∃ b off, a = some ⟨b, off, none⟩ ∧ w.cell? ⟨b, off + i, none⟩ = some (.int .u8 ((l.getD i 0).toNat : Nat))

/-- Bytes as they lie in memory. -/
def bvs (l : List UInt8) : List Value := l.map fun b => Value.int .u8 (b.toNat : Int)

theorem bvs_append (a b : List UInt8) : bvs (a ++ b) = bvs a ++ bvs b := by simp [bvs]
theorem bvs_len (a : List UInt8) : (bvs a).length = a.length := by simp [bvs]
theorem bvs_take (a : List UInt8) (n : Nat) : bvs (a.take n) = (bvs a).take n := by simp [bvs]

theorem below_drewN {B : Nat} {a w : World} (h : Below B a w) (n : Nat) : Below B a (w.drewN n) := h.trans ⟨rfl, rfl, rfl, Nat.le_refl _, fun _ _ => rfl⟩

theorem cell_later {w wx : World} (hb : Below w.heap.size w wx) {a : Addr} {v : Value} (h : w.cell? a = some v) : wx.cell? a = some v := by
  rw [hb.cell (World.block_lt_of_cell? w a h)]
  exact h

theorem RB.later {w wx : World} {v : Value} {l : List UInt8} (h : RB w v l) (hb : Below w.heap.size w wx) : RB wx v l := by
  obtain ⟨a, cap, hv, h1, h2, h3, hc⟩ := h
  refine ⟨a, cap, hv, h1, h2, h3, fun i hi => ?_⟩
  obtain ⟨b, off, ha, hcell⟩ := hc i hi
  exact ⟨b, off, ha, cell_later hb hcell⟩

theorem RB.of_owns {w : World} {B : Nat} {v : Value} {n : Nat} {l : List UInt8} (hown : w.ownsRow B 5 1 v n (bvs l)) (hn : n = l.length) : RB w v l := by
  subst hn
  rcases hown.2 with ⟨rfl, h0⟩ | ⟨g, cap, cur, rfl, _, _, h1, h2, _⟩
  · have h1 : l = [] := List.eq_nil_of_length_eq_zero h0
    subst h1
    exact ⟨none, 0, rfl, by simp, by unfold maxLen; omega, fun _ => rfl, by simp⟩
  · refine ⟨_, cap, rfl, h1, h2, (fun h => by cases h), fun i hi => ⟨g, 0, rfl, ?_⟩⟩
    have h := hown.cellAt i (by omega)
    rw [Nat.zero_add, h]
    simp [bvs, hi]

theorem RB.nil (w : World) : RB w (.slice none 0 0) [] := ⟨none, 0, rfl, by simp, by unfold maxLen; omega, fun _ => rfl, by simp⟩

theorem string_of_RB {w : World} {v : Value} {l : List UInt8} (h : RB w v l) : (convert 34 9 v).run Tryz.prog w = .ok (.string ⟨l.toArray⟩) w := by
  obtain ⟨a, cap, rfl, _, _, h3, hc⟩ := h
  cases a with
  | none =>
    have hl : l = [] := by
      cases l with
      | nil => rfl
      | cons y l =>
        obtain ⟨b, off, hb, _⟩ := hc 0 (by simp)
        cases hb
    subst hl
    exact run_convert_bytes_nil w 34 5 Tryz.underlying34 Tryz.underlying5 _ _ 9 Tryz.underlying9
  | some a =>
    refine run_convert_bytes_back w 34 9 5 _ cap l Tryz.underlying34 Tryz.underlying5 Tryz.underlying9 ?_
    intro j hj
    obtain ⟨b, off, hb, hcell⟩ := hc j hj
    simp only [Option.some.injEq] at hb
    subst hb
    rw [Go.WideShapes.add_plain, hcell]
    simp [hj]

theorem bvs_get {l : List UInt8} {j : Nat} {u : Value} (h : (bvs l)[j]? = some u) : j < l.length ∧ u = .int .u8 ((l.getD j 0).toNat : Nat) := by
  have hj : j < l.length := by
    have := (List.getElem?_eq_some_iff.1 h).1
    simpa [bvs] using this
  refine ⟨hj, ?_⟩
  simp [bvs, hj] at h
  rw [← h]
  simp [hj]

theorem RB.cells {w : World} {x : Addr} {n cap : Nat} {l : List UInt8} (h : RB w (.slice (some x) n cap) l) : n = l.length ∧ ∀ j u, (bvs l)[j]? = some u → w.cell? (x.add j) = some u := by
  obtain ⟨a, ca, he, _, _, _, hc⟩ := h
  simp only [Value.slice.injEq] at he
  obtain ⟨rfl, rfl, rfl⟩ := he
  refine ⟨rfl, fun j u hj => ?_⟩
  obtain ⟨hj2, rfl⟩ := bvs_get hj
  obtain ⟨b, off, hb, hcell⟩ := hc j hj2
  simp only [Option.some.injEq] at hb
  subst hb
  rw [Go.WideShapes.add_plain, hcell]

theorem bvs_one {l : List UInt8} : ∀ u ∈ bvs l, u.oneCell' = true := by
  intro u hu
  obtain ⟨x, _, rfl⟩ := List.mem_map.1 hu
  rfl

/-- Bytes put behind bytes of one's own. -/
theorem run_append_b (w : World) (ty : TypeId) (v xv : Value) (bs l : List UInt8) (hown : w.ownsRow 0 5 1 v bs.length (bvs bs)) (hr : RB w xv l) (hn : bs.length ≤ 10000000) (hl : l.length ≤ 10000000) :
    ∃ v' w', (Builtin.append_ #[34, 34] ty #[v, xv]).run Tryz.prog w = .ok v' w' ∧ w'.ownsRow 0 5 1 v' (bs ++ l).length (bvs (bs ++ l)) ∧ w.grownBy w' v.ownBlock ∧ (v'.ownBlock = v.ownBlock ∨ v'.ownBlock = some w.heap.size) := by
  obtain ⟨i0, hi, hz0, hz1, hz2⟩ := info_parts Tryz.info5
  have hr2 := hr
  obtain ⟨ad, cp, rfl, _, _, hnone, hc⟩ := hr
  cases ad with
  | none =>
    have h0 := hnone rfl
    subst h0
    have hl0 : l = [] := by
      cases l with
      | nil => rfl
      | cons y l =>
        obtain ⟨b, off, hb, _⟩ := hc 0 (by simp)
        cases hb
    subst hl0
    rw [List.append_nil]
    exact ⟨v, w, run_append_owned_none (P := Tryz.prog) (w := w) 0 34 ty 5 i0 1 Tryz.underlying34 hi v bs.length (bvs bs) hown, hown, ⟨rfl, rfl, rfl, Nat.le_refl _, fun _ _ _ => rfl⟩, .inl rfl⟩
  | some ad =>
    obtain ⟨v', w', h1, h2, h3, _, h5⟩ := run_append_own_at (P := Tryz.prog) w 0 34 ty 5 i0 (.int .u8 0) 1 1 Tryz.underlying34 hi hz0 hz1 hz2 rfl (by decide) v bs.length (bvs bs) hown ad l.length cp (bvs l) (by rw [bvs_len]; omega) hr2.cells.2 bvs_one (by unfold maxLen; omega) (by omega) (Nat.zero_le _)
    refine ⟨v', w', h1, ?_, h3, h5⟩
    rw [List.length_append, bvs_append]
    exact h2

/-- What is kept of a world: all but blocks of T, and what is new. -/
structure Kp (T : Nat → Prop) (w w' : World) : Prop where
  os : w'.os = w.os
  tape : w'.tape = w.tape
  output : w'.output = w.output
  size : w.heap.size ≤ w'.heap.size
  block : ∀ k, k < w.heap.size → ¬ T k → w'.heap[k]? = w.heap[k]?

theorem Kp.refl (T : Nat → Prop) (w : World) : Kp T w w := ⟨rfl, rfl, rfl, Nat.le_refl _, fun _ _ _ => rfl⟩

theorem Kp.trans {T T' : Nat → Prop} {a b c : World} (h : Kp T a b) (k : Kp T' b c) (hT : ∀ x, T' x → x < a.heap.size → T x) : Kp T a c :=
  ⟨k.os.trans h.os, k.tape.trans h.tape, k.output.trans h.output, Nat.le_trans h.size k.size, fun i hi hn => (k.block i (Nat.lt_of_lt_of_le hi h.size) (fun ht => hn (hT i ht hi))).trans (h.block i hi hn)⟩

theorem Kp.of_below {w w' : World} (T : Nat → Prop) (h : Below w.heap.size w w') : Kp T w w' := ⟨h.os, h.tape, h.output, h.size, fun k hk _ => h.block k hk⟩

theorem Kp.below {T : Nat → Prop} {w w' : World} (h : Kp T w w') {B : Nat} (hB : B ≤ w.heap.size) (hT : ∀ k, T k → B ≤ k) : Below B w w' :=
  ⟨h.os, h.tape, h.output, h.size, fun k hk => h.block k (by omega) (fun ht => by have := hT k ht; omega)⟩

theorem Kp.mono {T T' : Nat → Prop} {w w' : World} (h : Kp T w w') (hT : ∀ k, T k → T' k) : Kp T' w w' := ⟨h.os, h.tape, h.output, h.size, fun k hk hn => h.block k hk (fun ht => hn (hT k ht))⟩

theorem Kp.of_grown {w w' : World} {row : Option Nat} (T : Nat → Prop) (h : w.grownBy w' row) (hT : ∀ k, row = some k → T k) : Kp T w w' :=
  ⟨h.os, h.tape, h.output, h.size, fun k hk hn => h.block k hk (fun e => hn (hT k e.symm))⟩

theorem Kp.set {T : Nat → Prop} {a w : World} (h : Kp T a w) (p : Addr) (u : Value) (hp : T p.block) : Kp T a (w.setCell p u) :=
  h.trans (T' := T) ⟨rfl, rfl, rfl, by simp [World.setCell], fun k hk hn => Below.heap_setCell _ _ _ _ (fun e => hn (by rw [e]; exact hp))⟩ (fun x hx _ => hx)

theorem Kp.alloc {T : Nat → Prop} {a w : World} (h : Kp T a w) (o : Obj) : Kp T a (w.alloc o) :=
  h.trans (T' := T) ⟨rfl, rfl, rfl, by simp, fun k hk hn => Below.heap_alloc _ _ _ hk⟩ (fun x hx _ => hx)

theorem Kp.drew {T : Nat → Prop} {a w : World} (h : Kp T a w) : Kp T a w.drew := ⟨h.os, h.tape, h.output, h.size, h.block⟩
theorem Kp.drewN {T : Nat → Prop} {a w : World} (h : Kp T a w) (n : Nat) : Kp T a (w.drewN n) := h.trans (T' := T) ⟨rfl, rfl, rfl, Nat.le_refl _, fun _ _ _ => rfl⟩ (fun x hx _ => hx)

theorem Kp.cell {T : Nat → Prop} {w w' : World} (h : Kp T w w') {a : Addr} {v : Value} (hc : w.cell? a = some v) (hn : ¬ T a.block) : w'.cell? a = some v := by
  rw [World.cell?_of_block (w := w) (h.block a.block (World.block_lt_of_cell? w a hc) hn)]
  exact hc

theorem owns_kept {w w' : World} {T : Nat → Prop} (h : Kp T w w') {B : Nat} {e : TypeId} {size : Nat} {v : Value} {n : Nat} {xs : List Value} (ho : w.ownsRow B e size v n xs) (hv : ∀ g, v.ownBlock = some g → ¬ T g) : w'.ownsRow B e size v n xs := by
  refine ⟨ho.1, ?_⟩
  rcases ho.2 with hn | ⟨g, cap, cur, rfl, hb, hg, rest⟩
  · exact .inl hn
  · refine .inr ⟨g, cap, cur, rfl, hb, ?_, rest⟩
    rw [h.block g (Array.getElem?_eq_some_iff.1 hg).1 (hv g rfl)]
    exact hg

theorem RB.kept {w w' : World} {T : Nat → Prop} {v : Value} {l : List UInt8} (h : RB w v l) (hk : Kp T w w') (hv : ∀ a n c, v = .slice (some a) n c → ¬ T a.block) : RB w' v l := by
  obtain ⟨a, cap, rfl, h1, h2, h3, hc⟩ := h
  refine ⟨a, cap, rfl, h1, h2, h3, fun i hi => ?_⟩
  obtain ⟨b, off, rfl, hcell⟩ := hc i hi
  exact ⟨b, off, rfl, hk.cell hcell (show ¬ T b from hv ⟨b, off, none⟩ _ _ rfl)⟩

/-- The program's disk in memory: block p; V: the files' slices; T: the blocks that are its own. -/
structure DV (T : Nat → Prop) (w : World) (p : Nat) (S : DS) (V : Nat → Value) : Prop where
  blk : ∃ cs, w.heap[p]? = some (.cells cs 95 (0, 0)) ∧ cs.size = 134
  own : T p
  live : ∀ k, T k → k < w.heap.size
  cnt : w.cell? ⟨p, 130, none⟩ = some (.int .i64 S.n)
  rm : w.cell? ⟨p, 131, none⟩ = some (.int .i64 S.room)
  fu : w.cell? ⟨p, 132, none⟩ = some (.int .i64 S.fuse)
  dn : w.cell? ⟨p, 133, none⟩ = some (.bool S.down)
  file : ∀ i, i < 65 → w.cell? ⟨p, i * 2, none⟩ = some (V i) ∧ w.cell? ⟨p, i * 2 + 1, none⟩ = some (.int .i64 (S.fs i).s) ∧ w.ownsRow 0 5 1 (V i) (S.fs i).b.length (bvs (S.fs i).b)
  mine : ∀ i g, i < 65 → (V i).ownBlock = some g → T g ∧ g ≠ p
  apart : ∀ i j g, i < 65 → j < 65 → i ≠ j → (V i).ownBlock = some g → (V j).ownBlock ≠ some g

def DK (T : Nat → Prop) (w : World) (p : Nat) (S : DS) : Prop := ∃ V, DV T w p S V

/-- What touches none of a disk's blocks leaves it. -/
theorem DV.kept {T T' : Nat → Prop} {w w' : World} {p : Nat} {S : DS} {V : Nat → Value} (h : DV T w p S V) (hk : Kp T' w w') (hT : ∀ k, T k → ¬ T' k) : DV T w' p S V := by
  have hp := hT p h.own
  obtain ⟨cs, hb, hcs⟩ := h.blk
  refine ⟨⟨cs, ?_, hcs⟩, h.own, fun k hk2 => Nat.lt_of_lt_of_le (h.live k hk2) hk.size, hk.cell h.cnt hp, hk.cell h.rm hp, hk.cell h.fu hp, hk.cell h.dn hp, fun i hi => ?_, h.mine, h.apart⟩
  · rw [hk.block p (h.live p h.own) hp]
    exact hb
  · obtain ⟨h1, h2, h3⟩ := h.file i hi
    exact ⟨hk.cell h1 hp, hk.cell h2 hp, owns_kept hk h3 (fun g hg => hT g (h.mine i g hi hg).1)⟩

theorem DV.later {T : Nat → Prop} {w w' : World} {p : Nat} {S : DS} {V : Nat → Value} (h : DV T w p S V) (hb : Below w.heap.size w w') : DV T w' p S V :=
  h.kept (Kp.of_below (fun _ => False) hb) (fun _ _ h => h)

theorem DK.later {T : Nat → Prop} {w w' : World} {p : Nat} {S : DS} (h : DK T w p S) (hb : Below w.heap.size w w') : DK T w' p S := by
  obtain ⟨V, h⟩ := h
  exact ⟨V, h.later hb⟩

theorem DK.kept {T T' : Nat → Prop} {w w' : World} {p : Nat} {S : DS} (h : DK T w p S) (hk : Kp T' w w') (hT : ∀ k, T k → ¬ T' k) : DK T w' p S := by
  obtain ⟨V, h⟩ := h
  exact ⟨V, h.kept hk hT⟩

/-- More blocks may be a disk's own. -/
theorem DK.wide {T T' : Nat → Prop} {w : World} {p : Nat} {S : DS} (h : DK T w p S) (hT : ∀ k, T k → T' k) (hl : ∀ k, T' k → k < w.heap.size) : DK T' w p S := by
  obtain ⟨V, h⟩ := h
  exact ⟨V, h.blk, hT _ h.own, hl, h.cnt, h.rm, h.fu, h.dn, h.file, fun i g hi hg => ⟨hT _ (h.mine i g hi hg).1, (h.mine i g hi hg).2⟩, h.apart⟩
end Go.Proofs.YtijkgdbabikojaaGreat.Dk

/- Function values; the walks over disk.unless, runs, has, fits, reaches, grows and what they make; call. -/
namespace Go.Proofs.YtijkgdbabikojaaGreat.Dk
set_option maxRecDepth 1000000
open Go.RowKit
set_option linter.unusedVariables false

/-- A function that has a body is entered. -/
def Ent (g : Nat) : Prop := ∀ args w, (callFunc g args).run Tryz.prog w = .ok (.enter g args) w

/-- A function value, called with nothing. -/
def AskV (v : Value) (w : World) (R : Ending → World → Prop) : Prop := ∃ (g : Nat) (fi lb : Array Value), v = .func (.func g) fi lb ∧ Ent g ∧ Calls Tryz.prog g (fi ++ lb) w R

/-- What is asked one behind the other, and what is done then. -/
def Chain (blk : Nat) (dv : Value) (Q : Int → World → Prop) : List Value → World → Prop
  | [], w => AskV dv w (fun e w' => e = .returned (.tuple #[]) ∧ Q 0 w')
  | v :: vs, w => AskV v w (fun e w' => ∃ k : Int, e = .returned (.int .i64 k) ∧ w'.heap[blk]? = w.heap[blk]? ∧ (k ≠ 0 → Q k w') ∧ (k = 0 → Chain blk dv Q vs w'))

/-- A slice of function values, all in one block. -/
def RF (w : World) (blk : Nat) (v : Value) (vs : List Value) : Prop :=
  ∃ a cap, v = .slice a vs.length cap ∧ vs.length ≤ 10 ∧ ∀ i u, vs[i]? = some u → ∃ off, a = some ⟨blk, off, none⟩ ∧ w.cell? ⟨blk, off + i, none⟩ = some u

theorem call_nil (dv sl : Value) (w : World) : Calls Tryz.prog 48 #[.pointer none, dv, sl] w fun e w' => e = .returned (.int .i64 1) ∧ w' = w := by
  go_enter Tryz.func48, Tryz.ntmps48
  go_wp2
  go_ret
  exact ⟨rfl, rfl⟩

theorem call_unmade (p : Nat) (dv sl : Value) (w : World) (hc : w.cell? ⟨p, 130, none⟩ = some (.int .i64 0)) : Calls Tryz.prog 48 #[.pointer (some ⟨p, 0, none⟩), dv, sl] w fun e w' => e = .returned (.int .i64 1) ∧ w' = w := by
  go_enter Tryz.func48, Tryz.ntmps48
  go_wp2
  go_ret
  exact ⟨rfl, rfl⟩

set_option maxRecDepth 1000000 in
set_option maxHeartbeats 1000000 in
theorem call_any (p n blk : Nat) (dv sl : Value) (vs : List Value) (w : World) (Q : Int → World → Prop) (hc : w.cell? ⟨p, 130, none⟩ = some (.int .i64 n)) (hn : n ≠ 0) (hs : RF w blk sl vs) (hch : Chain blk dv Q vs w) :
    Calls Tryz.prog 48 #[.pointer (some ⟨p, 0, none⟩), dv, sl] w fun e w' => ∃ k : Int, e = .returned (.int .i64 k) ∧ Q k w' := by
  obtain ⟨a, cap, rfl, hl10, hcs⟩ := hs
  have hn2 : ((n : Int) == 0) = false := by simp; omega
  have HCH : Hid (Chain blk dv Q vs w) := hch
  have HCS : Hid (∀ i u, vs[i]? = some u → ∃ off, a = some ⟨blk, off, none⟩ ∧ w.cell? ⟨blk, off + i, none⟩ = some u) := hcs
  clear hch hcs hn
  go_enter Tryz.func48, Tryz.ntmps48
  go_wp2
  go_loopw [21] (fun i wr => ∃ k : Nat, k ≤ vs.length ∧ i = .int .i64 k ∧ Hid (Chain blk dv Q (vs.drop k) wr) ∧ Hid (wr.heap[blk]? = w.heap[blk]?)) (fun i _ => vs.length - (intOf i).toNat)
  case atStart => exact ⟨0, Nat.zero_le _, rfl, HCH, rfl⟩
  case round =>
    obtain ⟨k, hk, rfl, HD, HB⟩ := hrel
    by_cases hlt : k < vs.length
    · obtain ⟨off, rfl, hcell⟩ := HCS.out k vs[k] (List.getElem?_eq_getElem hlt)
      have hcell2 : wr.cell? ⟨blk, off + k, none⟩ = some vs[k] := by rw [World.cell?_of_block (w := w) HB.out]; exact hcell
      have hD := HD.out
      rw [List.drop_eq_getElem_cons hlt] at hD
      obtain ⟨g, fi, lb, hv, hent, hcalls⟩ := hD
      rw [hv] at hcell2
      have HC := hcalls
      have HC2 : Hid (Calls Tryz.prog g (fi ++ lb) wr (fun e w' => ∃ k2 : Int, e = .returned (.int .i64 k2) ∧ w'.heap[blk]? = wr.heap[blk]? ∧ (k2 ≠ 0 → Q k2 w') ∧ (k2 = 0 → Chain blk dv Q (vs.drop (k + 1)) w'))) := HC
      have eg : ∀ args w, (callFunc g args).run Tryz.prog w = .ok (.enter g args) w := hent
      clear hcell hv HD hcalls HC hent HCS
      go_wp2_with (first | (go_at_fn g; refine Calls.mono HC2.out ?_; rintro e w2 ⟨k2, rfl, hb2, hq2, hd2⟩; have HB2 : Hid (w2.heap[blk]? = wr.heap[blk]?) := hb2; have HQ2 : Hid (k2 ≠ 0 → Q k2 w2) := hq2; have HD2 : Hid (k2 = 0 → Chain blk dv Q (vs.drop (k + 1)) w2) := hd2; clear hb2 hq2 hd2))
      · rename_i h0
        have hne : k2 ≠ 0 := by simpa using h0
        go_ret
        exact ⟨k2, rfl, HQ2.out hne⟩
      · rename_i h0
        have heq : k2 = 0 := by simpa using h0
        go_roundw
        case rel => exact ⟨k + 1, by omega, by go_num, HD2.out heq, HB2.out.trans HB.out⟩
        case measure => simp [intOf]; omega
    · have hkk : vs.drop k = [] := List.drop_eq_nil_of_le (by omega)
      have hD := HD.out
      rw [hkk] at hD
      obtain ⟨g, fi, lb, rfl, hent, hcalls⟩ := hD
      have HC2 : Hid (Calls Tryz.prog g (fi ++ lb) wr (fun e w' => e = .returned (.tuple #[]) ∧ Q 0 w')) := hcalls
      have eg : ∀ args w, (callFunc g args).run Tryz.prog w = .ok (.enter g args) w := hent
      clear HD hkk hcalls hent HCS HCH
      go_wp2_with (first | (go_at_fn g; refine Calls.mono HC2.out ?_; rintro e w2 ⟨rfl, hq2⟩; have HQ2 : Hid (Q 0 w2) := hq2; clear hq2))
      go_ret
      exact ⟨0, rfl, HQ2.out⟩
end Go.Proofs.YtijkgdbabikojaaGreat.Dk

/- The walks over disk.unless, runs, burns, and has, fits, reaches, grows with what they make. -/
namespace Go.Proofs.YtijkgdbabikojaaGreat.Dk
set_option maxRecDepth 1000000
open Go.RowKit
set_option linter.unusedVariables false

theorem ent45 : Ent 59 := fun args w => by kernel_rfl
theorem ent60 : Ent 98 := fun args w => by kernel_rfl
theorem ent63 : Ent 88 := fun args w => by kernel_rfl
theorem ent64 : Ent 125 := fun args w => by kernel_rfl
theorem ent65 : Ent 90 := fun args w => by kernel_rfl
theorem ent62 : Ent 87 := fun args w => by kernel_rfl

theorem unless_any (q : Bool) (e0 : Int) (w : World) : Calls Tryz.prog 89 #[.bool q, .int .i64 e0] w fun e w' => e = .returned (.int .i64 (if q = true then 0 else e0)) ∧ w' = w := by
  cases q
  · go_enter Tryz.func89, Tryz.ntmps89
    go_wp2
    go_ret
    exact ⟨rfl, rfl⟩
  · go_enter Tryz.func89, Tryz.ntmps89
    go_wp2
    go_ret
    exact ⟨rfl, rfl⟩

theorem runs_any (p : Nat) (q : Bool) (w : World) (hc : w.cell? ⟨p, 133, none⟩ = some (.bool q)) : Calls Tryz.prog 59 #[.pointer (some ⟨p, 0, none⟩)] w fun e w' => e = .returned (.int .i64 (if q = true then 9 else 0)) ∧ w' = w := by
  have H := fun w => unless_any (!q) 9 w
  cases q
  · go_enter Tryz.func59, Tryz.ntmps59
    go_wp2_with (first | (go_at_call 89; refine Calls.mono (H _) ?_; rintro e w' ⟨rfl, rfl⟩))
    go_ret
    exact ⟨rfl, rfl⟩
  · go_enter Tryz.func59, Tryz.ntmps59
    go_wp2_with (first | (go_at_call 89; refine Calls.mono (H _) ?_; rintro e w' ⟨rfl, rfl⟩))
    go_ret
    exact ⟨rfl, rfl⟩

theorem has_any (pp : Option Addr) (i : Int) (w : World) : Calls Tryz.prog 73 #[.pointer pp, .int .i64 i] w fun e w' => e = .returned (.func (.func 98) #[] #[.pointer (some ⟨w.heap.size + 1, 0, none⟩), .pointer (some ⟨w.heap.size, 0, none⟩)]) ∧ w' = (w.alloc (.cells #[.pointer pp] 25)).alloc (.cells #[.int .i64 i] 3) := by
  have hmf : ∀ (fn : Fn) (first cap : Array Value) (w : World), (Instr.makeFunc fn first cap).run Tryz.prog w = .ok (.func fn first cap) w := fun _ _ _ _ => rfl
  go_enter Tryz.func73, Tryz.ntmps73
  go_wp2
  go_ret
  exact ⟨by simp, rfl⟩

theorem fits_any (pp : Option Addr) (i : Int) (w : World) : Calls Tryz.prog 62 #[.pointer pp, .int .i64 i] w fun e w' => e = .returned (.func (.func 90) #[] #[.pointer (some ⟨w.heap.size + 1, 0, none⟩), .pointer (some ⟨w.heap.size, 0, none⟩)]) ∧ w' = (w.alloc (.cells #[.pointer pp] 25)).alloc (.cells #[.int .i64 i] 3) := by
  have hmf : ∀ (fn : Fn) (first cap : Array Value) (w : World), (Instr.makeFunc fn first cap).run Tryz.prog w = .ok (.func fn first cap) w := fun _ _ _ _ => rfl
  go_enter Tryz.func62, Tryz.ntmps62
  go_wp2
  go_ret
  exact ⟨by simp, rfl⟩

theorem reaches_any (pp : Option Addr) (i n : Int) (w : World) : Calls Tryz.prog 112 #[.pointer pp, .int .i64 i, .int .i64 n] w fun e w' => e = .returned (.func (.func 125) #[] #[.pointer (some ⟨w.heap.size + 2, 0, none⟩), .pointer (some ⟨w.heap.size, 0, none⟩), .pointer (some ⟨w.heap.size + 1, 0, none⟩)]) ∧ w' = ((w.alloc (.cells #[.pointer pp] 25)).alloc (.cells #[.int .i64 i] 3)).alloc (.cells #[.int .i64 n] 3) := by
  have hmf : ∀ (fn : Fn) (first cap : Array Value) (w : World), (Instr.makeFunc fn first cap).run Tryz.prog w = .ok (.func fn first cap) w := fun _ _ _ _ => rfl
  go_enter Tryz.func112, Tryz.ntmps112
  go_wp2
  go_ret
  exact ⟨by simp, rfl⟩

set_option maxRecDepth 1000000 in
set_option maxHeartbeats 1000000 in
theorem has1_any (p bi bd n : Nat) (i : Int) (w : World) (hi : w.cell? ⟨bi, 0, none⟩ = some (.int .i64 i)) (hd : w.cell? ⟨bd, 0, none⟩ = some (.pointer (some ⟨p, 0, none⟩))) (hc : w.cell? ⟨p, 130, none⟩ = some (.int .i64 n)) :
    Calls Tryz.prog 98 #[.pointer (some ⟨bi, 0, none⟩), .pointer (some ⟨bd, 0, none⟩)] w fun e w' => e = .returned (.int .i64 (if 0 ≤ i ∧ i < n then 0 else 2)) ∧ ∃ q, w' = w.drewN q := by
  have hi2 : ∀ m, (w.drewN m).cell? ⟨bi, 0, none⟩ = some (.int .i64 i) := fun _ => hi
  have hd2 : ∀ m, (w.drewN m).cell? ⟨bd, 0, none⟩ = some (.pointer (some ⟨p, 0, none⟩)) := fun _ => hd
  have hc2 : ∀ m, (w.drewN m).cell? ⟨p, 130, none⟩ = some (.int .i64 n) := fun _ => hc
  clear hi hd hc
  by_cases h0 : 0 ≤ i
  · by_cases h1 : i < n
    · have e0 : decide (0 ≤ i) = true := by simpa using h0
      have e1 : decide (i < (n : Int)) = true := by simpa using h1
      rw [if_pos ⟨h0, h1⟩]
      go_enter Tryz.func98, Tryz.ntmps98
      go_wp2_with fail
      go_quiet ((go_at_call 89; exact Calls.quiet_of_same (unless_any _ _ _)))
      go_wp2
      go_ret
      exact ⟨rfl, _, rfl⟩
    · have e0 : decide (0 ≤ i) = true := by simpa using h0
      have e1 : decide (i < (n : Int)) = false := by simpa using h1
      rw [if_neg (by omega)]
      go_enter Tryz.func98, Tryz.ntmps98
      go_wp2_with fail
      go_quiet ((go_at_call 89; exact Calls.quiet_of_same (unless_any _ _ _)))
      go_wp2
      go_ret
      exact ⟨rfl, _, rfl⟩
  · have e0 : decide (0 ≤ i) = false := by simpa using h0
    rw [if_neg (by omega)]
    go_enter Tryz.func98, Tryz.ntmps98
    go_wp2_with fail
    go_quiet ((go_at_call 89; exact Calls.quiet_of_same (unless_any _ _ _)))
    go_wp2
    go_ret
    exact ⟨rfl, _, rfl⟩
end Go.Proofs.YtijkgdbabikojaaGreat.Dk

/- The walks over what disk.fits, reaches, grows make, and over burns. -/
namespace Go.Proofs.YtijkgdbabikojaaGreat.Dk
set_option maxRecDepth 1000000
open Go.RowKit
set_option linter.unusedVariables false

set_option maxRecDepth 1000000 in
set_option maxHeartbeats 1000000 in
theorem fits1_any (p bi bd r l : Nat) (w : World) (hi : w.cell? ⟨bi, 0, none⟩ = some (.int .i64 l)) (hd : w.cell? ⟨bd, 0, none⟩ = some (.pointer (some ⟨p, 0, none⟩))) (hc : w.cell? ⟨p, 131, none⟩ = some (.int .i64 r)) :
    Calls Tryz.prog 90 #[.pointer (some ⟨bi, 0, none⟩), .pointer (some ⟨bd, 0, none⟩)] w fun e w' => e = .returned (.int .i64 (if l ≤ r then 0 else 8)) ∧ ∃ q, w' = w.drewN q := by
  have hi2 : ∀ m, (w.drewN m).cell? ⟨bi, 0, none⟩ = some (.int .i64 l) := fun _ => hi
  have hd2 : ∀ m, (w.drewN m).cell? ⟨bd, 0, none⟩ = some (.pointer (some ⟨p, 0, none⟩)) := fun _ => hd
  have hc2 : ∀ m, (w.drewN m).cell? ⟨p, 131, none⟩ = some (.int .i64 r) := fun _ => hc
  clear hi hd hc
  by_cases h0 : l ≤ r
  · have e0 : decide ((l : Int) ≤ r) = true := by simpa using h0
    rw [if_pos h0]
    go_enter Tryz.func90, Tryz.ntmps90
    go_wp2_with fail
    go_quiet ((go_at_call 89; exact Calls.quiet_of_same (unless_any _ _ _)))
    go_wp2
    go_ret
    exact ⟨rfl, _, rfl⟩
  · have e0 : decide ((l : Int) ≤ r) = false := by simpa using h0
    rw [if_neg h0]
    go_enter Tryz.func90, Tryz.ntmps90
    go_wp2_with fail
    go_quiet ((go_at_call 89; exact Calls.quiet_of_same (unless_any _ _ _)))
    go_wp2
    go_ret
    exact ⟨rfl, _, rfl⟩

set_option maxRecDepth 1000000 in
set_option maxHeartbeats 1000000 in
theorem reaches1_any (p bn bd bi i l : Nat) (a : Option Addr) (cap : Nat) (n : Int) (w : World) (hi65 : i < 65) (hl : l ≤ 10000000) (hn : w.cell? ⟨bn, 0, none⟩ = some (.int .i64 n)) (hi : w.cell? ⟨bi, 0, none⟩ = some (.int .i64 i)) (hd : w.cell? ⟨bd, 0, none⟩ = some (.pointer (some ⟨p, 0, none⟩))) (hc : w.cell? ⟨p, i * 2, none⟩ = some (.slice a l cap)) :
    Calls Tryz.prog 125 #[.pointer (some ⟨bn, 0, none⟩), .pointer (some ⟨bd, 0, none⟩), .pointer (some ⟨bi, 0, none⟩)] w fun e w' => e = .returned (.int .i64 (if 0 ≤ n ∧ n ≤ l then 0 else 2)) ∧ ∃ q, w' = w.drewN q := by
  have hn2 : ∀ m, (w.drewN m).cell? ⟨bn, 0, none⟩ = some (.int .i64 n) := fun _ => hn
  have hi2 : ∀ m, (w.drewN m).cell? ⟨bi, 0, none⟩ = some (.int .i64 i) := fun _ => hi
  have hd2 : ∀ m, (w.drewN m).cell? ⟨bd, 0, none⟩ = some (.pointer (some ⟨p, 0, none⟩)) := fun _ => hd
  have hc2 : ∀ m, (w.drewN m).cell? ⟨p, i * 2, none⟩ = some (.slice a l cap) := fun _ => hc
  clear hi hd hc hn
  by_cases h0 : 0 ≤ n
  · have e0 : decide (0 ≤ n) = true := by simpa using h0
    by_cases h1 : n ≤ l
    · have e1 : decide (n ≤ (l : Int)) = true := by simpa using h1
      rw [if_pos ⟨h0, h1⟩]
      go_enter Tryz.func125, Tryz.ntmps125
      go_wp2_with fail
      go_quiet ((go_at_call 89; exact Calls.quiet_of_same (unless_any _ _ _)))
      go_wp2
      go_ret
      exact ⟨rfl, _, rfl⟩
    · have e1 : decide (n ≤ (l : Int)) = false := by simpa using h1
      rw [if_neg (by omega)]
      go_enter Tryz.func125, Tryz.ntmps125
      go_wp2_with fail
      go_quiet ((go_at_call 89; exact Calls.quiet_of_same (unless_any _ _ _)))
      go_wp2
      go_ret
      exact ⟨rfl, _, rfl⟩
  · have e0 : decide (0 ≤ n) = false := by simpa using h0
    rw [if_neg (by omega)]
    go_enter Tryz.func125, Tryz.ntmps125
    go_wp2_with fail
    go_quiet ((go_at_call 89; exact Calls.quiet_of_same (unless_any _ _ _)))
    go_wp2
    go_ret
    exact ⟨rfl, _, rfl⟩

theorem burns_off (p : Nat) (cs : Array Value) (q : Bool) (w : World) (hq : w.cell? ⟨p, 133, none⟩ = some (.bool q)) (hb : w.heap[p]? = some (.cells cs 95 (0, 0))) (hs : cs.size = 134) (hc : w.cell? ⟨p, 132, none⟩ = some (.int .i64 0)) :
    Calls Tryz.prog 88 #[.pointer (some ⟨p, 0, none⟩)] w fun e w' => e = .returned (.int .i64 9) ∧ w' = w.setCell ⟨p, 133, none⟩ (.bool true) := by
  have hf : ∀ o, w.frozen? ⟨p, o, none⟩ = false := fun o => frozen_of_row _ _ _ cs 95 hb
  go_enter Tryz.func88, Tryz.ntmps88
  go_wp2
  go_ret
  exact ⟨rfl, rfl⟩

theorem burns_on (p : Nat) (cs : Array Value) (f : Int) (w : World) (hf1 : -1 ≤ f) (hf2 : f ≤ 9223372036854775807) (hf0 : f ≠ 0) (hb : w.heap[p]? = some (.cells cs 95 (0, 0))) (hs : cs.size = 134) (hc : w.cell? ⟨p, 132, none⟩ = some (.int .i64 f)) :
    Calls Tryz.prog 88 #[.pointer (some ⟨p, 0, none⟩)] w fun e w' => e = .returned (.int .i64 0) ∧ w' = w.setCell ⟨p, 132, none⟩ (.int .i64 (burnF f)) := by
  have hf : ∀ o, w.frozen? ⟨p, o, none⟩ = false := fun o => frozen_of_row _ _ _ cs 95 hb
  have hz : (f == 0) = false := by simpa using hf0
  have HE : Hid (max (f - 1) (-1) = burnF f) := burnF_eq hf1 hf0
  go_enter Tryz.func88, Tryz.ntmps88
  go_wp2
  all_goals
    go_ret
    refine ⟨rfl, ?_⟩
    congr 2
    rw [← HE.out]
    omega
end Go.Proofs.YtijkgdbabikojaaGreat.Dk

/- The walks over disk.file's with, first, torn. -/
namespace Go.Proofs.YtijkgdbabikojaaGreat.Dk
set_option maxRecDepth 1000000
open Go.RowKit
set_option linter.unusedVariables false

theorem owns_slice {w : World} {B : Nat} {e : TypeId} {s : Nat} {v : Value} {n : Nat} {xs : List Value} (h : w.ownsRow B e s v n xs) : ∃ a c, v = .slice a n c ∧ n ≤ c ∧ c ≤ maxLen ∧ (a = none → c = 0) := by
  rcases h.2 with ⟨rfl, rfl⟩ | ⟨g, cap, cur, rfl, _, _, h1, h2, _⟩
  · exact ⟨none, 0, rfl, Nat.le_refl _, Nat.zero_le _, fun _ => rfl⟩
  · exact ⟨_, cap, rfl, h1, h2, fun h => by cases h⟩

/-- The first bytes of bytes of one's own. -/
theorem owns_first {w : World} {v : Value} {b : List UInt8} (h : w.ownsRow 0 5 1 v b.length (bvs b)) (n : Nat) (hn : n ≤ b.length) :
    ∃ V, (∀ wx, (Instr.sliceAt 34 v none (some (.int .i64 n)) none).run Tryz.prog wx = .ok V wx) ∧ w.ownsRow 0 5 1 V (b.take n).length (bvs (b.take n)) ∧ V.ownBlock = v.ownBlock := by
  have hl : (b.take n).length = n := by rw [List.length_take]; omega
  rw [hl, bvs_take]
  rcases h.2 with ⟨rfl, h0⟩ | ⟨g, cap, cur, rfl, hb, hg, h1, h2, h3, h4⟩
  · have hn0 : n = 0 := by omega
    subst hn0
    refine ⟨.slice none 0 0, fun wx => ?_, ⟨by simp, .inl ⟨rfl, rfl⟩⟩, rfl⟩
    rw [run_sliceAt_slice wx 34 _ _ _ _ Tryz.underlying34, run_slice_h wx 34 none _ 0 Tryz.underlying34 .i64 ((0 : Nat) : Int) (by omega) (by omega)]
    have : (sizeOf (Tryz.prog.elem 34)).run Tryz.prog wx = .ok 1 wx := by kernel_rfl
    rw [this]
    rfl
  · by_cases hc : cap = 0
    · subst hc
      have hn0 : n = 0 := by omega
      subst hn0
      refine ⟨.slice (some ⟨g, 0, none⟩) 0 0, fun wx => ?_, ⟨by simp, .inr ⟨g, 0, cur, rfl, hb, hg, by omega, h2, h3, by simp⟩⟩, rfl⟩
      rw [run_sliceAt_slice wx 34 _ _ _ _ Tryz.underlying34, run_slice_h wx 34 _ _ 0 Tryz.underlying34 .i64 ((0 : Nat) : Int) (by omega) (by omega)]
      have : (sizeOf (Tryz.prog.elem 34)).run Tryz.prog wx = .ok 1 wx := by kernel_rfl
      rw [this]
      rfl
    · refine ⟨.slice (some ⟨g, 0, none⟩) n cap, fun wx => ?_, ⟨by rw [List.length_take, bvs_len]; omega, .inr ⟨g, cap, cur, rfl, hb, hg, by omega, h2, h3, ?_⟩⟩, rfl⟩
      · rw [run_sliceAt_slice wx 34 _ _ _ _ Tryz.underlying34, run_slice_h wx 34 _ _ cap Tryz.underlying34 .i64 n (by omega) (by omega)]
        have : (sizeOf (Tryz.prog.elem 34)).run Tryz.prog wx = .ok 1 wx := by kernel_rfl
        rw [this]
        unfold sliced
        simp [hc, Go.WideShapes.add_plain]
      · rw [← h4, List.take_take, Nat.mul_one]
        congr 1
        omega

/-- A file as a result is read. -/
theorem retF {fn : Func} {p : Tmp} (h : fn.results = #[.cell p 92]) {a : Act} {w : World} {R : Ending → World → Prop} (b : Nat) (v0 v1 : Value) (hp : a.tmps.getD p undef = .pointer (some ⟨b, 0, none⟩)) (hd : a.defers = [])
    (hb : w.heap[b]? = some (.cells #[v0, v1] 92 (0, 0))) (hR : R (.returned (.agg #[v0, v1])) w) : bodyPost Tryz.prog fn R .ret a w :=
  bodyPost_ret_by (results_cell_row h _ _ b 92 _ (0, 0) _ hp hb Tryz.underlying92 rfl (by kernel_rfl)) hd hR

theorem heap_new (w : World) (o : Obj) (k : Nat) (hk : k = w.heap.size) : (w.alloc o).heap[k]? = some o := by subst hk; exact heap_alloc_new _ _

theorem owns_later {w w' : World} {B : Nat} {e : TypeId} {size : Nat} {v : Value} {n : Nat} {xs : List Value} (ho : w.ownsRow B e size v n xs) (hb : Below w.heap.size w w') : w'.ownsRow B e size v n xs :=
  owns_kept (Kp.of_below (fun _ => False) hb) ho (fun _ _ h => h)

theorem alloc2 (w : World) (o o' : Obj) : Below w.heap.size w ((w.alloc o).alloc o') := ((Below.refl _ _).alloc (Nat.le_refl _) o).alloc (by simp) o'

theorem Kp.set2 (w : World) (g : Nat) (a b : Value) : Kp (fun k => k = g) w ((w.setCell ⟨g, 0, none⟩ a).setCell ⟨g, 1, none⟩ b) := by
  have h1 : Kp (fun k => k = g) w (w.setCell ⟨g, 0, none⟩ a) := (Kp.refl _ _).set _ _ rfl
  exact h1.set _ _ rfl

theorem rowF {w : World} {g : Nat} {v0 v1 : Value} (h : w.heap[g]? = some (.cells #[v0, v1] 92 (0, 0))) : w.cell? ⟨g, 0, none⟩ = some v0 ∧ w.cell? ⟨g, 1, none⟩ = some v1 ∧ ∀ o, w.frozen? ⟨g, o, none⟩ = false :=
  ⟨by rw [cell_of_row _ _ _ _ 92 (0, 0) h]; rfl, by rw [cell_of_row _ _ _ _ 92 (0, 0) h]; rfl, fun o => frozen_of_row _ _ _ _ 92 h⟩

theorem setF {w : World} {g : Nat} {v0 v1 : Value} (h : w.heap[g]? = some (.cells #[v0, v1] 92 (0, 0))) (a b : Value) : ((w.setCell ⟨g, 0, none⟩ a).setCell ⟨g, 1, none⟩ b).heap[g]? = some (.cells #[a, b] 92 (0, 0)) := by
  rw [heap_setCell_same _ _ _ _ 92 _ (heap_setCell_same _ _ _ _ 92 _ h)]
  rfl

set_option maxRecDepth 1000000 in
set_option maxHeartbeats 1000000 in
theorem first_any (v : Value) (b : List UInt8) (s n : Nat) (w : World) (h : w.ownsRow 0 5 1 v b.length (bvs b)) (hn : n ≤ b.length) :
    Calls Tryz.prog 55 #[.agg #[v, .int .i64 s], .int .i64 n] w fun e w' => ∃ V, e = .returned (.agg #[V, .int .i64 n]) ∧ w'.ownsRow 0 5 1 V (b.take n).length (bvs (b.take n)) ∧ V.ownBlock = v.ownBlock ∧ Below w.heap.size w w' := by
  obtain ⟨V, hrun, hown, hblk⟩ := owns_first h n hn
  obtain ⟨a, c, rfl, _, _, _⟩ := owns_slice h
  have HO : Hid (w.ownsRow 0 5 1 V (b.take n).length (bvs (b.take n))) := hown
  have HB : Hid (V.ownBlock = (Value.slice a b.length c).ownBlock) := hblk
  obtain ⟨a2, c2, rfl, _, _, _⟩ := owns_slice hown
  clear hown hblk h
  generalize (b.take n).length = m at *
  go_enter Tryz.func55, Tryz.ntmps55
  go_wp2_with fail
  exact retF rfl (w.heap.size + 1) _ _ rfl rfl (heap_new _ _ _ (by simp)) ⟨_, rfl, owns_later HO.out (alloc2 _ _ _), HB.out, alloc2 _ _ _⟩

set_option maxRecDepth 1000000 in
set_option maxHeartbeats 1000000 in
theorem torn_any (v : Value) (b : List UInt8) (s : Nat) (k : Int) (w : World) (h : w.ownsRow 0 5 1 v b.length (bvs b)) (hs : s ≤ b.length) (hl : b.length ≤ 10000000) :
    Calls Tryz.prog 52 #[.agg #[v, .int .i64 s], .int .i64 k] w fun e w' => ∃ V, e = .returned (.agg #[V, .int .i64 (tornN k ⟨b, s⟩)]) ∧ w'.ownsRow 0 5 1 V (b.take (tornN k ⟨b, s⟩)).length (bvs (b.take (tornN k ⟨b, s⟩))) ∧ V.ownBlock = v.ownBlock ∧ Below w.heap.size w w' := by
  obtain ⟨a, c, rfl, _, _, _⟩ := owns_slice h
  have hT := tornN_le k ⟨b, s⟩ hs
  have HC : Hid (∀ (e0 : Int) wx, e0 = tornN k ⟨b, s⟩ → Below w.heap.size w wx → Calls Tryz.prog 55 #[.agg #[.slice a b.length c, .int .i64 s], .int .i64 e0] wx fun e w' => ∃ V, e = .returned (.agg #[V, .int .i64 (tornN k ⟨b, s⟩)]) ∧ w'.ownsRow 0 5 1 V (b.take (tornN k ⟨b, s⟩)).length (bvs (b.take (tornN k ⟨b, s⟩))) ∧ V.ownBlock = (Value.slice a b.length c).ownBlock ∧ Below wx.heap.size wx w') :=
    fun e0 wx he hb => by subst he; exact first_any _ b s _ wx (owns_later h hb) hT.2
  have HN : Hid ((tornN k ⟨b, s⟩ : Int) = s + min (max k 0) (b.length - s)) := by
    show _ = _
    unfold tornN
    simp only []
    omega
  have HV : Hid (∀ g, (Value.slice a b.length c).ownBlock = some g → g < w.heap.size) := fun g hg => (h.lt g hg).2
  generalize tornN k ⟨b, s⟩ = q at *
  clear h
  generalize b.length = bl at *
  go_enter Tryz.func52, Tryz.ntmps52
  go_wp2_with fail
  all_goals
    refine Calls.mono (HC.out _ _ (by have := HN.out; omega) (alloc2 _ _ _)) ?_
    rintro e w2 ⟨V, rfl, ho2, hb2, hbel⟩
    obtain ⟨a2, c2, rfl, _, _, _⟩ := owns_slice ho2
    have HO : Hid (w2.ownsRow 0 5 1 (.slice a2 (b.take q).length c2) (b.take q).length (bvs (b.take q))) := ho2
    have HB : Hid ((Value.slice a2 (b.take q).length c2).ownBlock = (Value.slice a bl c).ownBlock) := hb2
    have HL : Hid (Below w.heap.size w w2) := (alloc2 _ _ _).trans (hbel.mono (by simp; omega))
    have hrow : w2.heap[w.heap.size + 1]? = some (.cells #[.slice none 0 0, .int .i64 0] 92 (0, 0)) := by
      rw [hbel.block _ (by simp)]
      exact heap_new _ _ _ (by simp)
    obtain ⟨hr0, hr1, hrf⟩ := rowF hrow
    have HR : Hid (w2.heap[w.heap.size + 1]? = some (.cells #[.slice none 0 0, .int .i64 0] 92 (0, 0))) := hrow
    clear ho2 hb2 hbel HC HN hrow
    obtain ⟨m, HM⟩ : ∃ m, Hid ((b.take q).length = m) := ⟨_, rfl⟩
    rw [HM.out] at HO HB
    simp only [HM.out]
    go_wp2_with fail
    exact retF rfl (w.heap.size + 1) _ _ rfl rfl (setF HR.out _ _) ⟨_, rfl, by rw [HM.out]; exact owns_kept (T := fun k => k = w.heap.size + 1) (Kp.set2 _ _ _ _) HO.out (fun g hg => by rw [HB.out] at hg; have := HV.out g hg; omega), HB.out, (HL.out.setCell (by simp) _).setCell (by simp) _⟩
end Go.Proofs.YtijkgdbabikojaaGreat.Dk

