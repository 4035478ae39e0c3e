/- A disk of the call's own, handed on; the laws' lives: the document's examples. -/
import Derived.Test.YtbbmbjlpccdclaaXh
namespace Go.Proofs.Ytbbmbjlpccdclaa
open Go.RowKit
set_option linter.unusedVariables false

/-- A disk whose blocks are the call's own. -/
structure LD (B : Nat) (w : World) (p : Nat) (S : DS) (L R : Nat) : Prop where
  dk : ∃ T, DK T w p S ∧ ∀ k, T k → B ≤ k
  ok : Okay S
  sm : Small L R S
  hB : B ≤ w.heap.size

theorem LD.later {B : Nat} {w w' : World} {p : Nat} {S : DS} {L R : Nat} (h : LD B w p S L R) (hb : Below w.heap.size w w') : LD B w' p S L R := by
  obtain ⟨⟨T, h1, h2⟩, h3, h4, h5⟩ := h
  exact ⟨⟨T, h1.later hb, h2⟩, h3, h4, Nat.le_trans h5 hb.size⟩

theorem WR.ld {T : Nat → Prop} {B : Nat} {w w' : World} {p : Nat} {res : Int × DS} {e : Ending} {L R : Nat} (h : WR T w p res e w') (hT : ∀ k, T k → B ≤ k) (hB : B ≤ w.heap.size) (ho : Okay res.2) (hs : Small L R res.2) : e = .returned (.int .i64 res.1) ∧ LD B w' p res.2 L R ∧ Below B w w' := by
  obtain ⟨h1, h2, h3⟩ := h
  refine ⟨h1, ⟨⟨_, h2, fun k hk => ?_⟩, ho, hs, Nat.le_trans hB h3.size⟩, h3.below hB hT⟩
  rcases hk with hk | hk
  · exact hT k hk
  · exact Nat.le_trans hB hk.1

theorem d_append {B : Nat} {wp : World} {p : Nat} {S : DS} {L R : Nat} (h : LD B wp p S L R) (i : Int) (l : List UInt8) (cs : Array Value) (fr : Nat × Nat) (hcs : cs.toList = bvs l) (hl : l.length ≤ 1000000) (hL : L ≤ 10000000) (hR : R ≤ 1000000000000) :
    Calls Try.prog 23 #[.pointer (some ⟨p, 0, none⟩), .int .i64 i, .slice (some ⟨wp.heap.size, 0, none⟩) l.length l.length] (wp.alloc (.cells cs 5 fr)) fun e w' => e = .returned (.int .i64 (appendP S i l).1) ∧ LD B w' p (appendP S i l).2 (L + l.length) R ∧ Below B wp w' := by
  obtain ⟨⟨T, h1, h2⟩, h3, h4, h5⟩ := h
  have hb : Below wp.heap.size wp (wp.alloc (.cells cs 5 fr)) := (Below.refl _ _).alloc (Nat.le_refl _) _
  have hT := h1.live
  refine Calls.mono (append_any T _ p S i _ l (h1.later hb) h3 (small_mono h4 hL hR) (RB.newf wp l cs 5 fr _ rfl hcs hl) (by omega) (fun a n c he hx => by cases he; exact Nat.lt_irrefl _ (hT _ hx))) ?_
  intro e w' hw
  obtain ⟨q1, q2, q3⟩ := hw.ld h2 (Nat.le_trans h5 hb.size) (okay_append h3 i l) (small_append h4 i l)
  exact ⟨q1, q2, (hb.mono h5).trans q3⟩

theorem d_sync {B : Nat} {w : World} {p : Nat} {S : DS} {L R : Nat} (h : LD B w p S L R) (i : Int) (hL : L ≤ 10000000) (hR : R ≤ 1000000000000) :
    Calls Try.prog 22 #[.pointer (some ⟨p, 0, none⟩), .int .i64 i] w fun e w' => e = .returned (.int .i64 (syncP S i).1) ∧ LD B w' p (syncP S i).2 L R ∧ Below B w w' := by
  obtain ⟨⟨T, h1, h2⟩, h3, h4, h5⟩ := h
  refine Calls.mono (sync_any T _ p S i h1 h3 (small_mono h4 hL hR)) ?_
  intro e w' hw
  exact hw.ld h2 h5 (okay_sync h3 i) (small_sync h4 i)

theorem d_cut {B : Nat} {w : World} {p : Nat} {S : DS} {L R : Nat} (h : LD B w p S L R) (i n : Int) (hL : L ≤ 10000000) (hR : R ≤ 1000000000000) :
    Calls Try.prog 21 #[.pointer (some ⟨p, 0, none⟩), .int .i64 i, .int .i64 n] w fun e w' => e = .returned (.int .i64 (cutP S i n).1) ∧ LD B w' p (cutP S i n).2 L (R + L) ∧ Below B w w' := by
  obtain ⟨⟨T, h1, h2⟩, h3, h4, h5⟩ := h
  refine Calls.mono (cut_any T _ p S i n h1 h3 (small_mono h4 hL hR)) ?_
  intro e w' hw
  exact hw.ld h2 h5 (okay_cut h3 i n) (small_cut h4 i n)

theorem d_arm {B : Nat} {w : World} {p : Nat} {S : DS} {L R : Nat} (h : LD B w p S L R) (n : Int) (hn : n ≤ 9223372036854775807) :
    Calls Try.prog 20 #[.pointer (some ⟨p, 0, none⟩), .int .i64 n] w fun e w' => e = .returned (.int .i64 (armP S n).1) ∧ LD B w' p (armP S n).2 L R ∧ Below B w w' := by
  obtain ⟨⟨T, h1, h2⟩, h3, h4, h5⟩ := h
  refine Calls.mono (arm_any T _ p S n h1 h3) ?_
  intro e w' hw
  exact hw.ld h2 h5 (okay_arm h3 n hn) (small_arm h4 n)

theorem d_crash {B : Nat} {w : World} {p : Nat} {S : DS} {L R : Nat} (h : LD B w p S L R) (kv : Value) (keep : List Int) (hr : RI w kv keep) (hk : 0 < keep.length → ∀ a n c, kv = .slice (some a) n c → a.block < B) (hl : keep.length ≤ 1000000) (hL : L ≤ 10000000) (hR : R ≤ 900000000000) :
    Calls Try.prog 17 #[.pointer (some ⟨p, 0, none⟩), kv] w fun e w' => e = .returned (.int .i64 0) ∧ LD B w' p (crashP S keep) L (R + 65 * L) ∧ Below B w w' := by
  obtain ⟨⟨T, h1, h2⟩, h3, h4, h5⟩ := h
  refine Calls.mono (crash_any T _ p S kv keep h1 h3 (small_mono h4 hL hR) hr (fun h0 a n c he hx => by have := hk h0 a n c he; have := h2 _ hx; omega) hl) ?_
  intro e w' hw
  exact hw.ld h2 h5 (h3.crash keep) (small_crash h4 h3 keep)

theorem d_crash1 {B : Nat} {wp : World} {p : Nat} {S : DS} {L R : Nat} (h : LD B wp p S L R) (x : Int) (hL : L ≤ 10000000) (hR : R ≤ 900000000000) :
    Calls Try.prog 17 #[.pointer (some ⟨p, 0, none⟩), .slice (some ⟨wp.heap.size, 0, none⟩) 1 1] (wp.alloc (.cells #[.int .i64 x] 3)) fun e w' => e = .returned (.int .i64 0) ∧ LD B w' p (crashP S [x]) L (R + 65 * L) ∧ Below B wp w' := by
  obtain ⟨⟨T, h1, h2⟩, h3, h4, h5⟩ := h
  have hb : Below wp.heap.size wp (wp.alloc (.cells #[.int .i64 x] 3)) := (Below.refl _ _).alloc (Nat.le_refl _) _
  have hT := h1.live
  have hri : RI (wp.alloc (.cells #[.int .i64 x] 3)) (.slice (some ⟨wp.heap.size, 0, none⟩) 1 1) [x] := by
    refine ⟨_, 1, rfl, Nat.le_refl _, by unfold maxLen; omega, fun i hi => ⟨_, _, rfl, ?_⟩⟩
    have : i = 0 := by simp at hi; omega
    subst this
    exact cell_alloc1 _ _ _ _ rfl
  refine Calls.mono (crash_any T _ p S _ [x] (h1.later hb) h3 (small_mono h4 hL hR) hri (fun _ a n c he hx => by cases he; exact Nat.lt_irrefl _ (hT _ hx)) (by simp)) ?_
  intro e w' hw
  obtain ⟨q1, q2, q3⟩ := hw.ld h2 (Nat.le_trans h5 hb.size) (h3.crash [x]) (small_crash h4 h3 [x])
  exact ⟨q1, q2, (hb.mono h5).trans q3⟩

theorem d_read {B : Nat} {w : World} {p : Nat} {S : DS} {L R : Nat} (h : LD B w p S L R) (i : Int) (hL : L ≤ 10000000) (hR : R ≤ 1000000000000) :
    Calls Try.prog 15 #[.pointer (some ⟨p, 0, none⟩), .int .i64 i] w fun e w' => (∃ v, e = .returned v ∧ RB w' v (readP S i)) ∧ LD B w' p S L R ∧ Below w.heap.size w w' := by
  have h0 := h
  obtain ⟨⟨T, h1, h2⟩, h3, h4, h5⟩ := h
  refine Calls.mono (read_any T _ p S i h1 h3 (small_mono h4 hL hR)) ?_
  rintro e w' ⟨q1, q2⟩
  exact ⟨q1, h0.later q2, q2⟩

theorem d_synced {B : Nat} {w : World} {p : Nat} {S : DS} {L R : Nat} (h : LD B w p S L R) (i : Int) (hL : L ≤ 10000000) (hR : R ≤ 1000000000000) :
    Calls Try.prog 16 #[.pointer (some ⟨p, 0, none⟩), .int .i64 i] w fun e w' => e = .returned (.int .i64 (syncedP S i)) ∧ LD B w' p S L R ∧ Below w.heap.size w w' := by
  have h0 := h
  obtain ⟨⟨T, h1, h2⟩, h3, h4, h5⟩ := h
  refine Calls.mono (synced_any T _ p S i h1 h3 (small_mono h4 hL hR)) ?_
  rintro e w' ⟨q1, q2⟩
  exact ⟨q1, h0.later q2, q2⟩

theorem d_room {B : Nat} {w : World} {p : Nat} {S : DS} {L R : Nat} (h : LD B w p S L R) :
    Calls Try.prog 19 #[.pointer (some ⟨p, 0, none⟩)] w fun e w' => e = .returned (.int .i64 S.room) ∧ LD B w' p S L R ∧ Below w.heap.size w w' := by
  have h0 := h
  obtain ⟨⟨T, ⟨V, h1⟩, h2⟩, h3, h4, h5⟩ := h
  have hpos := h3.pos
  refine Calls.mono (room_any p S.n S.room w h1.cnt (by omega) h1.rm) ?_
  rintro e w' ⟨q1, q2⟩
  exact ⟨q1, h0.later q2, q2⟩

theorem d_down {B : Nat} {w : World} {p : Nat} {S : DS} {L R : Nat} (h : LD B w p S L R) :
    Calls Try.prog 18 #[.pointer (some ⟨p, 0, none⟩)] w fun e w' => e = .returned (.bool S.down) ∧ LD B w' p S L R ∧ Below w.heap.size w w' := by
  have h0 := h
  obtain ⟨⟨T, ⟨V, h1⟩, h2⟩, h3, h4, h5⟩ := h
  have hpos := h3.pos
  refine Calls.mono (down_any p S.n S.down w h1.cnt (by omega) h1.dn) ?_
  rintro e w' ⟨q1, q2⟩
  exact ⟨q1, h0.later q2, q2⟩

theorem okay_new {n room : Nat} (h1 : 1 ≤ n) (h2 : n ≤ 65) : Okay (newP n room) :=
  ⟨h1, h2, fun i => Nat.le_refl _, fun i _ => rfl, by show -1 ≤ (-1 : Int); omega, by show (-1 : Int) ≤ _; omega⟩
theorem small_new (n room : Nat) : Small 0 room (newP n room) := ⟨fun i => Nat.le_refl _, Nat.le_refl _⟩

theorem d_new (files room : Nat) (w : World) (h1 : 1 ≤ files) (h2 : files ≤ 65) (h3 : room ≤ 1048576) :
    Calls Try.prog 10 #[.int .i64 files, .int .i64 room] w fun e w' => ∃ p, e = .returned (.tuple #[.pointer (some ⟨p, 0, none⟩), .int .i64 0]) ∧ LD w.heap.size w' p (newP files room) 0 room ∧ Below w.heap.size w w' := by
  refine Calls.mono (new_yes files room w h1 h2 h3) ?_
  rintro e w' ⟨q1, q2, q3⟩
  exact ⟨_, q1, ⟨⟨_, q2, fun k hk => by rw [hk]; exact Nat.le_refl _⟩, okay_new h1 h2, small_new _ _, q3.size⟩, q3⟩

def v0 : DS := newP 2 9
def v1 : DS := (appendP v0 0 [97, 98, 99]).2
def v2 : DS := (syncP v1 0).2
def v3 : DS := (appendP v2 0 [100, 101]).2
def v4 : DS := (appendP v3 1 [120]).2
def v5 : DS := crashP v4 [1]
def v6 : DS := (armP v5 1).2
def v7 : DS := (appendP v6 1 [121]).2
def v8 : DS := (syncP v7 1).2

theorem k1 : (appendP v0 0 [97, 98, 99]).1 = 0 := by decide +kernel
theorem k2 : (syncP v1 0).1 = 0 := by decide +kernel
theorem k3 : (appendP v2 0 [100, 101]).1 = 0 := by decide +kernel
theorem k4 : (appendP v3 1 [120]).1 = 0 := by decide +kernel
theorem k5a : readP v5 0 = [97, 98, 99, 100] := by decide +kernel
theorem k5b : readP v5 1 = [] := by decide +kernel
theorem k5c : v5.room = 5 := by decide +kernel
theorem k6 : (armP v5 1).1 = 0 := by decide +kernel
theorem k7 : (appendP v6 1 [121]).1 = 0 := by decide +kernel
theorem k8 : (syncP v7 1).1 = 9 := by decide +kernel
theorem k8d : v8.down = true := by decide +kernel

end Go.Proofs.Ytbbmbjlpccdclaa
