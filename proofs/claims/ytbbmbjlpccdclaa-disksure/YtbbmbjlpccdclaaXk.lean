/- The laws' step for every call; both disks handed on; begun. -/
import Derived.Test.YtbbmbjlpccdclaaXj
namespace Go.Proofs.Ytbbmbjlpccdclaa
open Go.RowKit
set_option linter.unusedVariables false

/-- What a call makes of a disk. -/
def stepP (S : DS) (x : Ac) : DS :=
  if x.kind = 1 then (syncP S x.i).2 else if x.kind = 2 then (cutP S x.i x.n).2 else if x.kind = 3 then (armP S x.n).2 else if x.kind = 4 then crashP S x.keep else if x.kind = 5 then (growP S x.n).2 else if x.kind = 6 then S else (appendP S x.i x.b).2

theorem step_any (T : Nat → Prop) (w : World) (p r g : Nat) (S : DS) (x : Ac) (bv kv : Value) (hd : DK T w p S) (hr : RV w r g S) (ho : Okay S) (hs : Small 9000000 800000000000 S) (hnr : ¬ T r) (hng : ¬ T g) (hrb : RB w bv x.b) (hri : RI w kv x.keep) (hx : okA x = true)
    (hbT : 0 < x.b.length → ∀ a n c, bv = .slice (some a) n c → ¬ T a.block) (hkT : 0 < x.keep.length → ∀ a n c, kv = .slice (some a) n c → ¬ T a.block ∧ a.block ≠ r ∧ a.block ≠ g) :
    Calls Try.prog 12 #[.pointer (some ⟨p, 0, none⟩), .pointer (some ⟨r, 0, none⟩), .agg #[.int .i64 x.kind, .int .i64 x.i, .int .i64 x.n, bv, kv]] w (StepC T w p r g (stepP S x)) := by
  have ha : bv.oneCell' = true := by obtain ⟨a, c, rfl, _⟩ := hrb; rfl
  have hk : kv.oneCell' = true := by obtain ⟨a, c, rfl, _⟩ := hri; rfl
  have hs2 : Small 10000000 1000000000000 S := small_mono hs (by omega) (by omega)
  have hs3 : Small 10000000 900000000000 S := small_mono hs (by omega) (by omega)
  unfold okA at hx
  rw [Bool.and_eq_true, decide_eq_true_eq, decide_eq_true_eq] at hx
  unfold stepP
  by_cases h1 : x.kind = 1
  · rw [if_pos h1, h1]
    exact step_sync T w p r g S x.i x.n bv kv hd hr ho hs2 hnr hng ha hk
  rw [if_neg h1]
  by_cases h2 : x.kind = 2
  · rw [if_pos h2, h2]
    exact step_cut T w p r g S x.i x.n bv kv hd hr ho hs2 hnr hng ha hk
  rw [if_neg h2]
  by_cases h3 : x.kind = 3
  · rw [if_pos h3, h3]
    exact step_arm T w p r g S x.i x.n bv kv hd hr ho hs2 hnr hng ha hk
  rw [if_neg h3]
  by_cases h4 : x.kind = 4
  · rw [if_pos h4, h4]
    exact step_crash T w p r g S x.i x.n bv kv x.keep hd hr ho hs3 hnr hng ha hri hkT (by omega)
  rw [if_neg h4]
  by_cases h5 : x.kind = 5
  · rw [if_pos h5, h5]
    exact step_grow T w p r g S x.i x.n bv kv hd hr ho hs2 hnr hng ha hk
  rw [if_neg h5]
  by_cases h6 : x.kind = 6
  · rw [if_pos h6, h6]
    exact step_copy T w p r g S x.i x.n bv kv hd hr ho hs hnr hng ha hk
  rw [if_neg h6]
  exact step_append T w p r g S x.kind x.i x.n bv kv x.b hd hr ho hs3 hnr hng hk hrb hbT (by omega) (by simpa using h1) (by simpa using h2) (by simpa using h3) (by simpa using h4) (by simpa using h5) (by simpa using h6)

/-- How great a disk is behind k calls. -/
def Lk (k : Nat) : Nat := 3000 * k
def Rk (k : Nat) : Nat := 50000000 * (k + 1)

theorem okay_step {S : DS} (h : Okay S) (x : Ac) (hn : x.n ≤ 9223372036854775807) : Okay (stepP S x) := by
  unfold stepP
  split
  · exact okay_sync h _
  · split
    · exact okay_cut h _ _
    · split
      · exact okay_arm h _ hn
      · split
        · exact h.crash _
        · split
          · exact okay_grow h _
          · split
            · exact h
            · exact okay_append h _ _

theorem small_step {S : DS} {k : Nat} (hk : k ≤ 200) (h : Small (Lk k) (Rk k) S) (ho : Okay S) (x : Ac) (hx : okA x = true) : Small (Lk (k + 1)) (Rk (k + 1)) (stepP S x) := by
  unfold okA at hx
  rw [Bool.and_eq_true, decide_eq_true_eq, decide_eq_true_eq] at hx
  have e1 : Lk (k + 1) = Lk k + 3000 := by unfold Lk; omega
  have e2 : Rk (k + 1) = Rk k + 50000000 := by unfold Rk; omega
  have e3 : Lk k ≤ 600000 := by unfold Lk; omega
  rw [e1, e2]
  unfold stepP
  split
  · exact small_mono (small_sync h _) (by omega) (by omega)
  · split
    · exact small_mono (small_cut h _ _) (by omega) (by omega)
    · split
      · exact small_mono (small_arm h _) (by omega) (by omega)
      · split
        · exact small_mono (small_crash h ho _) (by omega) (by omega)
        · split
          · exact small_mono (small_grow h _) (by omega) (by omega)
          · split
            · exact small_mono h (by omega) (by omega)
            · exact small_mono (small_append h _ _) (by omega) (by omega)

/-- Both disks, of the call's own. -/
structure LP (B : Nat) (w : World) (p r g : Nat) (S : DS) (k : Nat) : Prop where
  dk : ∃ T, DK T w p S ∧ (∀ j, T j → B ≤ j) ∧ ¬ T r ∧ ¬ T g
  rv : RV w r g S
  hr : B ≤ r
  hg : B ≤ g
  ok : Okay S
  sm : Small (Lk k) (Rk k) S
  hB : B ≤ w.heap.size
  few : k ≤ 200

theorem LP.later {B : Nat} {w w' : World} {p r g : Nat} {S : DS} {k : Nat} (h : LP B w p r g S k) (hb : Below w.heap.size w w') : LP B w' p r g S k := by
  obtain ⟨T, q1, q2, q3, q4⟩ := h.dk
  exact ⟨⟨T, q1.later hb, q2, q3, q4⟩, h.rv.later hb, h.hr, h.hg, h.ok, h.sm, Nat.le_trans h.hB hb.size, h.few⟩

theorem LP.bnd {B : Nat} {w : World} {p r g : Nat} {S : DS} {k : Nat} (h : LP B w p r g S k) : Lk k ≤ 600000 ∧ Rk k ≤ 10050000000 := by
  have := h.few
  unfold Lk Rk
  omega

theorem LP.ld {B : Nat} {w : World} {p r g : Nat} {S : DS} {k : Nat} (h : LP B w p r g S k) : LD B w p S (Lk k) (Rk k) := by
  obtain ⟨T, q1, q2, q3, q4⟩ := h.dk
  exact ⟨⟨T, q1, q2⟩, h.ok, h.sm, h.hB⟩

/-- An argument's slice lies below. -/
def Low (B : Nat) (v : Value) : Prop := ∀ a n c, 0 < n → v = .slice (some a) n c → a.block < B

theorem lp_step {B : Nat} {w : World} {p r g : Nat} {S : DS} {k : Nat} (h : LP B w p r g S k) (hk : k < 200) (x : Ac) (bv kv : Value) (hrb : RB w bv x.b) (hri : RI w kv x.keep) (hx : okA x = true) (hn : x.n ≤ 9223372036854775807) (hbl : Low B bv) (hkl : Low B kv) :
    Calls Try.prog 12 #[.pointer (some ⟨p, 0, none⟩), .pointer (some ⟨r, 0, none⟩), .agg #[.int .i64 x.kind, .int .i64 x.i, .int .i64 x.n, bv, kv]] w fun e w' => e = .returned (.bool true) ∧ LP B w' p r g (stepP S x) (k + 1) ∧ Below B w w' := by
  obtain ⟨T, q1, q2, q3, q4⟩ := h.dk
  have hb := h.bnd
  have e1 : ∀ a n c, bv = .slice (some a) n c → n = x.b.length := fun a n c he => by obtain ⟨a', c', he', _⟩ := hrb; rw [he] at he'; cases he'; rfl
  have e2 : ∀ a n c, kv = .slice (some a) n c → n = x.keep.length := fun a n c he => by obtain ⟨a', c', he', _⟩ := hri; rw [he] at he'; cases he'; rfl
  refine Calls.mono (step_any T w p r g S x bv kv q1 h.rv h.ok (small_mono h.sm (by omega) (by omega)) q3 q4 hrb hri hx (fun h0 a n c he hT => ?_) (fun h0 a n c he => ?_)) ?_
  · have h1 := hbl a n c (by rw [e1 a n c he]; exact h0) he
    have h2 := q2 _ hT
    omega
  · have h1 := hkl a n c (by rw [e2 a n c he]; exact h0) he
    have h3 := h.hr
    have h4 := h.hg
    exact ⟨fun hT => by have h2 := q2 _ hT; omega, by omega, by omega⟩
  · rintro e w' ⟨h1, h2, h3, h4⟩
    have hz := h4.size
    have hrl := h.rv.rlt
    have hB := h.hB
    refine ⟨h1, ⟨⟨_, h2, fun j hj => ?_, fun hj => ?_, fun hj => ?_⟩, h3, h.hr, h.hg, okay_step h.ok x hn, small_step h.few h.sm h.ok x hx, by omega, by omega⟩, h4.below hB (fun j hj => ?_)⟩
    · rcases hj with hj | hj
      · exact q2 j hj
      · omega
    · rcases hj with hj | hj
      · exact q3 hj
      · omega
    · rcases hj with hj | hj
      · exact q4 hj
      · omega
    · rcases hj with hj | hj | hj
      · exact q2 j hj
      · rw [hj]; exact h.hr
      · rw [hj]; exact h.hg

/-- Both disks are made. -/
theorem lp_new {w w1 w2 : World} {p files room : Nat} (h1 : 1 ≤ files) (h2 : files ≤ 65) (h3 : room ≤ 1048576) (B : Nat) (hB : B ≤ w.heap.size) (hd : DK (fun k => k = w.heap.size) w1 p (newP files room)) (hb1 : Below w.heap.size w w1)
    (hz1 : w1.heap.size = w.heap.size + 1 ∨ w.heap.size < w1.heap.size) (hr : RV w2 (w1.heap.size + 1) w1.heap.size (newP files room)) (hb2 : Below w1.heap.size w1 w2) : LP B w2 p (w1.heap.size + 1) w1.heap.size (newP files room) 0 := by
  have hz : w.heap.size < w1.heap.size := by rcases hz1 with h | h <;> omega
  refine ⟨⟨_, hd.later hb2, fun j hj => by omega, by omega, by omega⟩, hr, by omega, by omega, okay_new h1 h2, small_mono (small_new _ _) (Nat.zero_le _) (by unfold Rk; omega), by have := hb2.size; omega, by omega⟩

/-- What is known of calls that came in, in every later world. -/
def Ins (B : Nat) (w : World) (L : List Ac) (a : Option Addr) : Prop :=
  ∀ wx, Below B w wx → ∀ j x, L[j]? = some x → ∃ blk off bv kv, a = some ⟨blk, off, none⟩ ∧ RA1 wx blk (off + j * 5) x bv kv ∧ Low B bv ∧ Low B kv

theorem RB.low {w : World} {v : Value} {l : List UInt8} (h : RB w v l) : Low w.heap.size v := by
  intro a n c hn he
  obtain ⟨a', cap, he', _, _, _, hc⟩ := h
  rw [he] at he'
  cases he'
  obtain ⟨b, off, hb, hcell⟩ := hc 0 hn
  cases hb
  exact World.block_lt_of_cell? w _ hcell

theorem RI.low {w : World} {v : Value} {l : List Int} (h : RI w v l) : Low w.heap.size v := by
  intro a n c hn he
  obtain ⟨a', cap, he', _, _, hc⟩ := h
  rw [he] at he'
  cases he'
  obtain ⟨b, off, hb, hcell⟩ := hc 0 hn
  cases hb
  exact World.block_lt_of_cell? w _ hcell

theorem RAs.ins {w : World} {L : List Ac} {a : Option Addr} {n c : Nat} (h : RAs w (.slice a n c) L) : Ins w.heap.size w L a := by
  obtain ⟨a', cap, he, _, _, hc⟩ := h
  cases he
  intro wx hb j x hj
  obtain ⟨blk, off, bv, kv, rfl, h0, h1, h2, h3, h4, h5, h6⟩ := hc j x hj
  exact ⟨blk, off, bv, kv, rfl, ⟨cell_later hb h0, cell_later hb h1, cell_later hb h2, cell_later hb h3, cell_later hb h4, h5.later hb, h6.later hb⟩, h5.low, h6.low⟩

/-- The numbers of calls fit. -/
def FitN (L : List Ac) : Prop := ∀ x ∈ L, x.n ≤ 9223372036854775807

def playP (S : DS) (L : List Ac) : DS := L.foldl stepP S

theorem play_take (S : DS) (L : List Ac) (k : Nat) (h : k < L.length) : playP S (L.take (k + 1)) = stepP (playP S (L.take k)) L[k] := by
  unfold playP
  rw [List.take_succ_eq_append_getElem h, List.foldl_append]
  rfl

theorem few_len {L : List Ac} (h : fewP L = true) : L.length ≤ 200 ∧ ∀ x ∈ L, okA x = true := by
  unfold fewP at h
  rw [Bool.and_eq_true, decide_eq_true_eq, List.all_eq_true] at h
  exact h
end Go.Proofs.Ytbbmbjlpccdclaa
