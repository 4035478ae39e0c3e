/- Plain: a disk as a value, and what each call makes of it. -/
namespace Go.Proofs.Ytbbmbjlpccdclaa

/-- A file: its bytes, and how many of them are synced. -/
structure Fl where
  b : List UInt8
  s : Nat

/-- A disk: how many files, the files, the room, the fuse (below 0: none), and whether the power is gone. -/
structure DS where
  n : Nat
  fs : Nat → Fl
  room : Nat
  fuse : Int
  down : Bool

def putF (fs : Nat → Fl) (i : Nat) (f : Fl) : Nat → Fl := fun j => if j = i then f else fs j

theorem putF_same (fs : Nat → Fl) (i : Nat) (f : Fl) : putF fs i f i = f := by simp [putF]
theorem putF_other (fs : Nat → Fl) (i j : Nat) (f : Fl) (h : j ≠ i) : putF fs i f j = fs j := by simp [putF, h]

/-- What a disk is like, however it came to be. -/
structure Okay (S : DS) : Prop where
  pos : 1 ≤ S.n
  few : S.n ≤ 65
  syn : ∀ i, (S.fs i).s ≤ (S.fs i).b.length
  none : ∀ i, S.n ≤ i → S.fs i = ⟨[], 0⟩
  fuse : -1 ≤ S.fuse
  fuse2 : S.fuse ≤ 9223372036854775807

/-- The lengths stay within this. -/
structure Small (L R : Nat) (S : DS) : Prop where
  len : ∀ i, (S.fs i).b.length ≤ L
  room : S.room ≤ R

def newP (n room : Nat) : DS := ⟨n, fun _ => ⟨[], 0⟩, room, -1, false⟩

/-- A file is turned; the room takes what it loses, and gives what it gains. -/
def turnP (S : DS) (i : Nat) (f : Fl) : DS := { S with fs := putF S.fs i f, room := S.room + (S.fs i).b.length - f.b.length }

def burnF (f : Int) : Int := if 0 < f then f - 1 else -1

def hasB (S : DS) (i : Int) : Bool := decide (0 ≤ i ∧ i < S.n)

/-- A call that turns a file: what is asked further tells more, the file becomes how. -/
def writeP (S : DS) (i : Int) (more : Int) (how : Fl → Fl) : Int × DS :=
  if S.down = true then (9, S) else if hasB S i = false then (2, S) else if more ≠ 0 then (more, S) else if S.fuse = 0 then (9, { S with down := true }) else (0, turnP { S with fuse := burnF S.fuse } i.toNat (how (S.fs i.toNat)))

def fitsP (S : DS) (l : Nat) : Int := if l ≤ S.room then 0 else 8
def reachP (S : DS) (i n : Int) : Int := if 0 ≤ n ∧ n ≤ (S.fs i.toNat).b.length then 0 else 2
def growsP (S : DS) (n : Int) : Int := if 0 ≤ n ∧ n ≤ 1048576 - S.room then 0 else 2

def withP (b : List UInt8) (f : Fl) : Fl := ⟨f.b ++ b, f.s⟩
def firstP (n : Nat) (f : Fl) : Fl := ⟨f.b.take n, n⟩
def tornN (k : Int) (f : Fl) : Nat := f.s + (min (max k 0) (((f.b.length - f.s : Nat)) : Int)).toNat
def tornP (k : Int) (f : Fl) : Fl := firstP (tornN k f) f

def appendP (S : DS) (i : Int) (b : List UInt8) : Int × DS := writeP S i (fitsP S b.length) (withP b)
def syncP (S : DS) (i : Int) : Int × DS := writeP S i 0 (fun f => firstP f.b.length f)
def cutP (S : DS) (i n : Int) : Int × DS := writeP S i (reachP S i n) (firstP n.toNat)
def growP (S : DS) (n : Int) : Int × DS := if growsP S n ≠ 0 then (2, S) else (0, { S with room := S.room + n.toNat })
def armP (S : DS) (n : Int) : Int × DS := if S.down = true then (9, S) else (0, { S with fuse := max n (-1) })

/-- The first k files behind a crash. -/
def crashK (keep : List Int) (S : DS) : Nat → DS
  | 0 => S
  | k + 1 => let T := crashK keep S k; turnP T k (tornP (keep.getD k 0) (T.fs k))
def crashP (S : DS) (keep : List Int) : DS := { crashK keep S S.n with fuse := -1, down := false }

theorem tornN_le (k : Int) (f : Fl) (h : f.s ≤ f.b.length) : f.s ≤ tornN k f ∧ tornN k f ≤ f.b.length := by
  unfold tornN
  omega

theorem hasB_true {S : DS} {i : Int} (h : hasB S i = true) : ∃ k : Nat, i = k ∧ k < S.n := by
  unfold hasB at h
  have := of_decide_eq_true h
  exact ⟨i.toNat, by omega, by omega⟩

theorem Okay.turn {S : DS} (h : Okay S) (i : Nat) (f : Fl) (hi : i < S.n) (hf : f.s ≤ f.b.length) : Okay (turnP S i f) := by
  refine ⟨h.pos, h.few, fun j => ?_, fun j hj => ?_, h.fuse, h.fuse2⟩
  · show (putF S.fs i f j).s ≤ (putF S.fs i f j).b.length
    unfold putF
    split
    · exact hf
    · exact h.syn j
  · show putF S.fs i f j = _
    have hj2 : S.n ≤ j := hj
    rw [putF_other _ _ _ _ (by omega)]
    exact h.none j hj2

theorem Okay.down {S : DS} (h : Okay S) (b : Bool) : Okay { S with down := b } := ⟨h.pos, h.few, h.syn, h.none, h.fuse, h.fuse2⟩
theorem Okay.setFuse {S : DS} (h : Okay S) (f : Int) (h1 : -1 ≤ f) (h2 : f ≤ 9223372036854775807) : Okay { S with fuse := f } := ⟨h.pos, h.few, h.syn, h.none, h1, h2⟩
theorem Okay.setRoom {S : DS} (h : Okay S) (r : Nat) : Okay { S with room := r } := ⟨h.pos, h.few, h.syn, h.none, h.fuse, h.fuse2⟩

theorem burnF_ok {f : Int} (h : -1 ≤ f) (h2 : f ≤ 9223372036854775807) : -1 ≤ burnF f ∧ burnF f ≤ 9223372036854775807 := by
  unfold burnF
  split <;> omega

theorem burnF_eq {f : Int} (h : -1 ≤ f) (_h0 : f ≠ 0) : max (f - 1) (-1) = burnF f := by
  unfold burnF
  split <;> omega

theorem Okay.write {S : DS} (h : Okay S) (i more : Int) (how : Fl → Fl) (hh : ∀ k : Nat, i = k → k < S.n → more = 0 → (how (S.fs k)).s ≤ (how (S.fs k)).b.length) : Okay (writeP S i more how).2 := by
  unfold writeP
  split
  · exact h
  · split
    · exact h
    · rename_i h2
      obtain ⟨k, rfl, hk⟩ := hasB_true (by simpa using h2)
      split
      · exact h
      · split
        · exact h.down _
        · rename_i h3 _
          have := burnF_ok h.fuse h.fuse2
          exact (h.setFuse _ this.1 this.2).turn _ _ hk (hh k rfl hk (by simpa using h3))

theorem crashK_n (keep : List Int) (S : DS) : ∀ k, (crashK keep S k).n = S.n
  | 0 => rfl
  | k + 1 => crashK_n keep S k

theorem crashK_fs (keep : List Int) (S : DS) : ∀ k j, (crashK keep S k).fs j = if j < k then tornP (keep.getD j 0) (S.fs j) else S.fs j
  | 0, j => by simp [crashK]
  | k + 1, j => by
    have ih := crashK_fs keep S k
    show putF (crashK keep S k).fs k _ j = _
    unfold putF
    by_cases h : j = k
    · subst h
      rw [if_pos rfl, if_pos (by omega), ih j, if_neg (by omega)]
    · rw [if_neg h, ih j]
      by_cases h2 : j < k
      · rw [if_pos h2, if_pos (by omega)]
      · rw [if_neg h2, if_neg (by omega)]

theorem Okay.crashK {S : DS} (h : Okay S) (keep : List Int) : ∀ k, k ≤ S.n → Okay (crashK keep S k)
  | 0, _ => h
  | k + 1, hk => by
    have ih := Okay.crashK h keep k (by omega)
    refine ih.turn k _ (by rw [crashK_n]; omega) ?_
    have := tornN_le (keep.getD k 0) _ (ih.syn k)
    show tornN _ _ ≤ (List.take _ _).length
    rw [List.length_take]
    omega

theorem Okay.crash {S : DS} (h : Okay S) (keep : List Int) : Okay (crashP S keep) := by
  have := h.crashK keep S.n (Nat.le_refl _)
  exact (this.setFuse (-1) (by omega) (by omega)).down false

theorem crashK_room (keep : List Int) {S : DS} (h : Okay S) {L R : Nat} (hs : Small L R S) : ∀ k, k ≤ S.n → Small L (R + k * L) (crashK keep S k)
  | 0, _ => by rw [Nat.zero_mul, Nat.add_zero]; exact hs
  | k + 1, hk => by
    have ih := crashK_room keep h hs k (by omega)
    have ho := h.crashK keep k (by omega)
    refine ⟨fun j => ?_, ?_⟩
    · rw [crashK_fs]
      split
      · show (List.take _ _).length ≤ L
        rw [List.length_take]
        have := hs.len j
        omega
      · exact hs.len j
    · show (crashK keep S k).room + ((crashK keep S k).fs k).b.length - _ ≤ _
      have h1 := ih.room
      have h2 := ih.len k
      rw [Nat.add_mul, Nat.one_mul]
      omega
end Go.Proofs.Ytbbmbjlpccdclaa
