/- A walk over the scan's 'take': one code point more. -/
import Derived.Test.YtchdecoceokcmaaWN
import Derived.Test.YtchdecoceokcmaaWK
import Derived.Test.YtchdecoceokcmaaWC
namespace Go.Proofs.Ytchdecoceokcmaa
open Go.RowKit
set_option linter.unusedVariables false

theorem gclass_b (c K : Int) (hK : kl c = K) (w : World) : Calls Try.prog 31 #[.int .i64 c] w fun e w' => e = .returned (.int .i64 K) ∧ Below w.heap.size w w' := by
  refine (gclass_any c w).mono ?_
  rintro e w' ⟨rfl, rfl⟩
  exact ⟨by rw [← hK]; rfl, ((Below.refl _ _).alloc (Nat.le_refl _) _).alloc (by simp) _⟩

theorem ScanAt.later {w w1 : World} {b B : Nat} {s : ByteArray} {v : Value} {st : Sc} (h : ScanAt w b B s v st) (hb : Below w.heap.size w w1) : ScanAt w1 b B s v st ∧ KB b B w w1 := by
  obtain ⟨h1, h2, h3, h4⟩ := h
  have hz := hb.size
  exact ⟨⟨(hb.block b (by omega)).trans h1, owns_later h2 hb, h3, by omega⟩, KB.of_below (hb.mono h4)⟩

theorem ScanAt.cells {w : World} {b B : Nat} {s : ByteArray} {v : Value} {st : Sc} (h : ScanAt w b B s v st) :
    w.cell? ⟨b, 0, none⟩ = some (.string s) ∧ w.cell? ⟨b, 1, none⟩ = some v ∧ w.cell? ⟨b, 2, none⟩ = some (.bool st.cur.isSome) ∧ w.cell? ⟨b, 3, none⟩ = some (.bool st.remark) ∧ (∀ j, w.frozen? ⟨b, j, none⟩ = false) :=
  ⟨cell_blk h.blk 0, cell_blk h.blk 1, cell_blk h.blk 2, cell_blk h.blk 3, fun j => frozen_of_row w b j _ 46 h.blk⟩

theorem ScanAt.set3 {w : World} {b B : Nat} {s : ByteArray} {v : Value} {st : Sc} (h : ScanAt w b B s v st) (r : Bool) : ScanAt (w.setCell ⟨b, 3, none⟩ (.bool r)) b B s v ⟨st.done, st.cur, r⟩ := by
  obtain ⟨h1, h2, h3, h4⟩ := h
  exact ⟨heap_setCell_same w b 3 _ 46 _ h1, ownsRow_setCell_below h2 h3 _, h3, by simpa using h4⟩

theorem ScanAt.stop {w : World} {b B : Nat} {s : ByteArray} {v : Value} {st : Sc} (h : ScanAt w b B s v st) : ScanAt (w.setCell ⟨b, 2, none⟩ (.bool false)) b B s v ⟨st.toks, none, st.remark⟩ := by
  obtain ⟨h1, h2, h3, h4⟩ := h
  refine ⟨heap_setCell_same w b 2 _ 46 _ h1, ?_, h3, by simpa using h4⟩
  have e : Sc.toks ⟨st.toks, none, st.remark⟩ = st.toks := by simp [Sc.toks, curToks]
  rw [e]
  exact ownsRow_setCell_below h2 h3 _

/-- What 'take' and 'letter' answer, by the machine's step. -/
def Took (b B : Nat) (s : ByteArray) (w : World) (o : Out) (e : Ending) (w' : World) : Prop :=
  match o with
  | .ok st => e = .returned (.tuple #[.int .i64 0, .int .i64 0]) ∧ (∃ v, ScanAt w' b B s v st) ∧ KB b B w w'
  | .err p x => e = .returned (.tuple #[.int .i64 (p : Int), .int .i64 x]) ∧ KB b B w w'

set_option maxRecDepth 1000000 in
set_option maxHeartbeats 2000000 in
theorem take_remark (b B : Nat) (s : ByteArray) (v : Value) (st : Sc) (at_ : Nat) (c : Int) (w : World) (h : ScanAt w b B s v st) (hr : st.remark = true) :
    Calls Try.prog 22 #[.pointer (some ⟨b, 0, none⟩), .int .i64 at_, .int .i32 c] w fun e w' => Took b B s w (.ok ⟨st.done, st.cur, decide (c ≠ 10)⟩) e w' := by
  obtain ⟨c0, c1, c2, c3, hf⟩ := h.cells
  have HF : Hid _ := fun r => (h.set3 r)
  have HK : Hid _ := fun r => KB.setCell b B w 3 (.bool r)
  have HD : Hid ((c != 10) = decide (c ≠ 10)) := by show _ = _; rw [Bool.eq_iff_iff]; simp
  rw [hr] at c3
  generalize st.cur.isSome = q at *
  clear h hr
  go_enter Try.func22, Try.ntmps22
  go_wp2
  go_ret2
  rw [HD.out]
  exact ⟨rfl, ⟨_, HF.out _⟩, HK.out _⟩

set_option maxRecDepth 1000000 in
set_option maxHeartbeats 2000000 in
theorem take_open (b B : Nat) (s : ByteArray) (v : Value) (st : Sc) (at_ : Nat) (c : Int) (hc : c = 35) (w : World) (h : ScanAt w b B s v st) (hr : st.remark = false) :
    Calls Try.prog 22 #[.pointer (some ⟨b, 0, none⟩), .int .i64 at_, .int .i32 c] w fun e w' => Took b B s w (.ok ⟨st.toks, none, true⟩) e w' := by
  subst hc
  obtain ⟨c0, c1, c2, c3, hf⟩ := h.cells
  rw [hr] at c3
  go_enter Try.func22, Try.ntmps22
  go_wp2_with (go_at_call 31; refine (gclass_b 35 4 (by decide +kernel) _).mono ?_; rintro e w1 ⟨rfl, hb1⟩; obtain ⟨h1, k1⟩ := h.later hb1; obtain ⟨d0, d1, d2, d3, hg⟩ := h1.cells; rw [hr] at d3)
  have H1 := (h1.set3 true).stop
  have K1 := (k1.trans (KB.setCell b B w1 3 (.bool true))).trans (KB.setCell b B _ 2 (.bool false))
  go_ret2
  exact ⟨rfl, ⟨_, H1⟩, K1⟩

set_option maxRecDepth 1000000 in
set_option maxHeartbeats 2000000 in
theorem take_blank (b B : Nat) (s : ByteArray) (v : Value) (st : Sc) (at_ : Nat) (c : Int) (hlo : 0 ≤ c) (hhi : c ≤ 1114111) (h35 : (c == 35) = false) (hk : kl c = 3) (w : World) (h : ScanAt w b B s v st) (hr : st.remark = false) :
    Calls Try.prog 22 #[.pointer (some ⟨b, 0, none⟩), .int .i64 at_, .int .i32 c] w fun e w' => Took b B s w (.ok ⟨st.toks, none, false⟩) e w' := by
  obtain ⟨c0, c1, c2, c3, hf⟩ := h.cells
  rw [hr] at c3
  have HK : Hid (kl c = 3) := hk
  clear hk
  go_enter Try.func22, Try.ntmps22
  go_wp2_with (go_at_call 31; refine (gclass_b c 3 HK.out _).mono ?_; rintro e w1 ⟨rfl, hb1⟩; obtain ⟨h1, k1⟩ := h.later hb1; obtain ⟨d0, d1, d2, d3, hg⟩ := h1.cells; rw [hr] at d3)
  have H1 := h1.stop
  rw [hr] at H1
  have K1 := k1.trans (KB.setCell b B _ 2 (.bool false))
  go_ret2
  exact ⟨rfl, ⟨_, H1⟩, K1⟩
end Go.Proofs.Ytchdecoceokcmaa
