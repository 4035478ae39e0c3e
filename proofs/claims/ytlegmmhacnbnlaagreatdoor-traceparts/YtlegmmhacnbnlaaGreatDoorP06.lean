/- Texts of the seat, packed: SWQ SWR SWS SWT. -/
import Derived.Test.YtlegmmhacnbnlaaGreatDoorP04
import Derived.Test.YtlegmmhacnbnlaaGreatDoorP05
/- A walk over the scan's 'take': one code point more. -/
namespace Go.Proofs.YtlegmmhacnbnlaaGreatDoor.Sx

open Go.RowKit

set_option linter.unusedVariables false

theorem gclass_b (c K : Int) (hK : kl c = K) (w : World) : Calls Tryz.prog 114 #[.int .i64 c] w fun e w' => e = .returned (.int .i64 K) ∧ Below w.heap.size w w' := by
  refine (gclass_any c w).mono ?_
  rintro e w' ⟨rfl, rfl⟩
  exact ⟨by rw [← hK]; rfl, ((Below.refl _ _).alloc (Nat.le_refl _) _).alloc (by simp) _⟩

theorem ScanAt.later {w w1 : World} {b B : Nat} {s : ByteArray} {v : Value} {st : Sc} (h : ScanAt w b B s v st) (hb : Below w.heap.size w w1) : ScanAt w1 b B s v st ∧ KB b B w w1 := by
  obtain ⟨h1, h2, h3, h4⟩ := h
  have hz := hb.size
  exact ⟨⟨(hb.block b (by omega)).trans h1, owns_later h2 hb, h3, by omega⟩, KB.of_below (hb.mono h4)⟩

theorem ScanAt.cells {w : World} {b B : Nat} {s : ByteArray} {v : Value} {st : Sc} (h : ScanAt w b B s v st) :
    w.cell? ⟨b, 0, none⟩ = some (.string s) ∧ w.cell? ⟨b, 1, none⟩ = some v ∧ w.cell? ⟨b, 2, none⟩ = some (.bool st.cur.isSome) ∧ w.cell? ⟨b, 3, none⟩ = some (.bool st.remark) ∧ (∀ j, w.frozen? ⟨b, j, none⟩ = false) :=
  ⟨cell_blk h.blk 0, cell_blk h.blk 1, cell_blk h.blk 2, cell_blk h.blk 3, fun j => frozen_of_row w b j _ 186 h.blk⟩

theorem ScanAt.set3 {w : World} {b B : Nat} {s : ByteArray} {v : Value} {st : Sc} (h : ScanAt w b B s v st) (r : Bool) : ScanAt (w.setCell ⟨b, 3, none⟩ (.bool r)) b B s v ⟨st.done, st.cur, r⟩ := by
  obtain ⟨h1, h2, h3, h4⟩ := h
  exact ⟨heap_setCell_same w b 3 _ 186 _ h1, ownsRow_setCell_below h2 h3 _, h3, by simpa using h4⟩

theorem ScanAt.stop {w : World} {b B : Nat} {s : ByteArray} {v : Value} {st : Sc} (h : ScanAt w b B s v st) : ScanAt (w.setCell ⟨b, 2, none⟩ (.bool false)) b B s v ⟨st.toks, none, st.remark⟩ := by
  obtain ⟨h1, h2, h3, h4⟩ := h
  refine ⟨heap_setCell_same w b 2 _ 186 _ h1, ?_, h3, by simpa using h4⟩
  have e : Sc.toks ⟨st.toks, none, st.remark⟩ = st.toks := by simp [Sc.toks, curToks]
  rw [e]
  exact ownsRow_setCell_below h2 h3 _

/-- What 'take' and 'letter' answer, by the machine's step. -/
def Took (b B : Nat) (s : ByteArray) (w : World) (o : Out) (e : Ending) (w' : World) : Prop :=
  match o with
  | .ok st => e = .returned (.tuple #[.int .i64 0, .int .i64 0]) ∧ (∃ v, ScanAt w' b B s v st) ∧ KB b B w w'
  | .err p x => e = .returned (.tuple #[.int .i64 (p : Int), .int .i64 x]) ∧ KB b B w w'

set_option maxRecDepth 1000000 in
set_option maxHeartbeats 2000000 in
theorem take_remark (b B : Nat) (s : ByteArray) (v : Value) (st : Sc) (at_ : Nat) (c : Int) (w : World) (h : ScanAt w b B s v st) (hr : st.remark = true) :
    Calls Tryz.prog 112 #[.pointer (some ⟨b, 0, none⟩), .int .i64 at_, .int .i32 c] w fun e w' => Took b B s w (.ok ⟨st.done, st.cur, decide (c ≠ 10)⟩) e w' := by
  obtain ⟨c0, c1, c2, c3, hf⟩ := h.cells
  have HF : Hid _ := fun r => (h.set3 r)
  have HK : Hid _ := fun r => KB.setCell b B w 3 (.bool r)
  have HD : Hid ((c != 10) = decide (c ≠ 10)) := by show _ = _; rw [Bool.eq_iff_iff]; simp
  rw [hr] at c3
  generalize st.cur.isSome = q at *
  clear h hr
  go_enter Tryz.func112, Tryz.ntmps112
  go_wp2
  go_ret2
  rw [HD.out]
  exact ⟨rfl, ⟨_, HF.out _⟩, HK.out _⟩

set_option maxRecDepth 1000000 in
set_option maxHeartbeats 2000000 in
theorem take_open (b B : Nat) (s : ByteArray) (v : Value) (st : Sc) (at_ : Nat) (c : Int) (hc : c = 35) (w : World) (h : ScanAt w b B s v st) (hr : st.remark = false) :
    Calls Tryz.prog 112 #[.pointer (some ⟨b, 0, none⟩), .int .i64 at_, .int .i32 c] w fun e w' => Took b B s w (.ok ⟨st.toks, none, true⟩) e w' := by
  subst hc
  obtain ⟨c0, c1, c2, c3, hf⟩ := h.cells
  rw [hr] at c3
  go_enter Tryz.func112, Tryz.ntmps112
  go_wp2_with (go_at_call 114; refine (gclass_b 35 4 (by decide +kernel) _).mono ?_; rintro e w1 ⟨rfl, hb1⟩; obtain ⟨h1, k1⟩ := h.later hb1; obtain ⟨d0, d1, d2, d3, hg⟩ := h1.cells; rw [hr] at d3)
  have H1 := (h1.set3 true).stop
  have K1 := (k1.trans (KB.setCell b B w1 3 (.bool true))).trans (KB.setCell b B _ 2 (.bool false))
  go_ret2
  exact ⟨rfl, ⟨_, H1⟩, K1⟩

set_option maxRecDepth 1000000 in
set_option maxHeartbeats 2000000 in
theorem take_blank (b B : Nat) (s : ByteArray) (v : Value) (st : Sc) (at_ : Nat) (c : Int) (hlo : 0 ≤ c) (hhi : c ≤ 1114111) (h35 : (c == 35) = false) (hk : kl c = 3) (w : World) (h : ScanAt w b B s v st) (hr : st.remark = false) :
    Calls Tryz.prog 112 #[.pointer (some ⟨b, 0, none⟩), .int .i64 at_, .int .i32 c] w fun e w' => Took b B s w (.ok ⟨st.toks, none, false⟩) e w' := by
  obtain ⟨c0, c1, c2, c3, hf⟩ := h.cells
  rw [hr] at c3
  have HK : Hid (kl c = 3) := hk
  clear hk
  go_enter Tryz.func112, Tryz.ntmps112
  go_wp2_with (go_at_call 114; refine (gclass_b c 3 HK.out _).mono ?_; rintro e w1 ⟨rfl, hb1⟩; obtain ⟨h1, k1⟩ := h.later hb1; obtain ⟨d0, d1, d2, d3, hg⟩ := h1.cells; rw [hr] at d3)
  have H1 := h1.stop
  rw [hr] at H1
  have K1 := k1.trans (KB.setCell b B _ 2 (.bool false))
  go_ret2
  exact ⟨rfl, ⟨_, H1⟩, K1⟩

end Go.Proofs.YtlegmmhacnbnlaaGreatDoor.Sx

/- A walk over the scan's 'take', continued: marks, names, and what can't be. -/
namespace Go.Proofs.YtlegmmhacnbnlaaGreatDoor.Sx

open Go.RowKit

set_option linter.unusedVariables false

set_option maxRecDepth 1000000 in
set_option maxHeartbeats 2000000 in
theorem take_other (b B : Nat) (s : ByteArray) (v : Value) (st : Sc) (at_ : Nat) (c K : Int) (hc : isCp c = true) (hlo : 0 ≤ c) (hhi : c ≤ 1114111) (h35 : (c == 35) = false) (hk : kl c = K) (k1 : (K == 1) = false) (k2 : (K == 2) = false) (k3 : (K == 3) = false) (hm : isMark c = false) (w : World) (h : ScanAt w b B s v st) (hr : st.remark = false) :
    Calls Tryz.prog 112 #[.pointer (some ⟨b, 0, none⟩), .int .i64 at_, .int .i32 c] w fun e w' => Took b B s w (.err at_ 10) e w' := by
  obtain ⟨c0, c1, c2, c3, hf⟩ := h.cells
  rw [hr] at c3
  have HK : Hid (kl c = K) := hk
  have HM : Hid (isMark c = false) := hm
  have HC : Hid (isCp c = true) := hc
  clear hk hm hc
  go_enter Tryz.func112, Tryz.ntmps112
  go_wp2_with (first
    | (go_at_call 114; refine (gclass_b c K HK.out _).mono ?_; rintro e w1 ⟨rfl, hb1⟩)
    | (go_at_call 115; refine (has_mark c HC.out _).mono ?_; rintro e w2 ⟨rfl, hb2⟩; rw [HM.out]))
  obtain ⟨h1, k1⟩ := h.later hb1
  obtain ⟨h2, k2⟩ := h1.later hb2
  go_ret2
  exact ⟨rfl, k1.trans k2⟩

set_option maxRecDepth 1000000 in
set_option maxHeartbeats 2000000 in
theorem take_digit (b B : Nat) (s : ByteArray) (v : Value) (st : Sc) (at_ : Nat) (c : Int) (hc : isCp c = true) (hlo : 0 ≤ c) (hhi : c ≤ 1114111) (h35 : (c == 35) = false) (hk : kl c = 2) (hm : isMark c = false) (w : World) (h : ScanAt w b B s v st) (hr : st.remark = false) (hn : st.cur = none) :
    Calls Tryz.prog 112 #[.pointer (some ⟨b, 0, none⟩), .int .i64 at_, .int .i32 c] w fun e w' => Took b B s w (.err at_ 10) e w' := by
  obtain ⟨c0, c1, c2, c3, hf⟩ := h.cells
  rw [hr] at c3
  have HK : Hid (kl c = 2) := hk
  have HM : Hid (isMark c = false) := hm
  have HC : Hid (isCp c = true) := hc
  have HN : Hid (st.cur.isSome = false) := by show _ = _; rw [hn]; rfl
  clear hk hm hc hn
  go_enter Tryz.func112, Tryz.ntmps112
  go_wp2_with (first
    | (go_at_call 114; refine (gclass_b c 2 HK.out _).mono ?_; rintro e w1 ⟨rfl, hb1⟩)
    | (go_at_call 115; refine (has_mark c HC.out _).mono ?_; rintro e w2 ⟨rfl, hb2⟩; rw [HM.out]; obtain ⟨h1, k1⟩ := h.later hb1; obtain ⟨h2, k2⟩ := h1.later hb2; obtain ⟨d0, d1, d2, d3, hg⟩ := h2.cells; rw [HN.out] at d2))
  go_ret2
  exact ⟨rfl, k1.trans k2⟩

set_option maxRecDepth 1000000 in
set_option maxHeartbeats 2000000 in
theorem take_letter (b B : Nat) (s : ByteArray) (v : Value) (st : Sc) (at_ : Nat) (c : Int) (o : Out) (hc : isCp c = true) (hlo : 0 ≤ c) (hhi : c ≤ 1114111) (h35 : (c == 35) = false) (hk : kl c = 1) (hm : isMark c = false) (w : World) (h : ScanAt w b B s v st) (hr : st.remark = false)
    (hs : at_ + (enc c).length ≤ 100000)
    (hl : ∀ w2, ScanAt w2 b B s v st → Calls Tryz.prog 116 #[.pointer (some ⟨b, 0, none⟩), .int .i64 at_, .int .i64 ((at_ + (enc c).length : Nat) : Int)] w2 fun e w' => Took b B s w2 o e w') :
    Calls Tryz.prog 112 #[.pointer (some ⟨b, 0, none⟩), .int .i64 at_, .int .i32 c] w fun e w' => Took b B s w o e w' := by
  obtain ⟨c0, c1, c2, c3, hf⟩ := h.cells
  rw [hr] at c3
  have HK : Hid (kl c = 1) := hk
  have HM : Hid (isMark c = false) := hm
  have HC : Hid (isCp c = true) := hc
  have HW : Hid (wid c = ((enc c).length : Int)) := (enc_len c hc).symm
  have HL : Hid _ := hl
  clear hk hm hc hl
  generalize (enc c).length = k at *
  go_enter Tryz.func112, Tryz.ntmps112
  go_wp2_with (first
    | (go_at_call 114; refine (gclass_b c 1 HK.out _).mono ?_; rintro e w1 ⟨rfl, hb1⟩)
    | (go_at_call 115; refine (has_mark c HC.out _).mono ?_; rintro e w2 ⟨rfl, hb2⟩; rw [HM.out])
    )
  refine (gwidth_any _ _).mono ?_
  rintro e w3 ⟨rfl, hw3⟩
  have hb3 : Below w2.heap.size w2 w3 := by rw [hw3]; exact (Below.refl _ _).alloc (Nat.le_refl _) _
  clear hw3
  rw [HW.out]
  obtain ⟨h1, k1⟩ := h.later hb1
  obtain ⟨h2, k2⟩ := h1.later hb2
  obtain ⟨h3, k3⟩ := h2.later hb3
  go_wp2_with fail
  refine (HL.out _ h3).mono ?_
  rintro e w4 hT
  cases o with
  | ok st' =>
    obtain ⟨rfl, hv, hk⟩ := hT
    have HV : Hid _ := hv
    clear hv
    go_wp2
    go_ret2
    exact ⟨rfl, HV.out, ((k1.trans k2).trans k3).trans hk⟩
  | err p x =>
    obtain ⟨rfl, hk⟩ := hT
    go_wp2
    go_ret2
    exact ⟨rfl, ((k1.trans k2).trans k3).trans hk⟩

set_option maxRecDepth 1000000 in
set_option maxHeartbeats 2000000 in
theorem take_more (b B : Nat) (s : ByteArray) (v : Value) (st : Sc) (at_ : Nat) (c : Int) (o : Out) (hc : isCp c = true) (hlo : 0 ≤ c) (hhi : c ≤ 1114111) (h35 : (c == 35) = false) (hk : kl c = 2) (hm : isMark c = false) (w : World) (h : ScanAt w b B s v st) (hr : st.remark = false) (hn : st.cur.isSome = true)
    (hs : at_ + (enc c).length ≤ 100000)
    (hl : ∀ w2, ScanAt w2 b B s v st → Calls Tryz.prog 116 #[.pointer (some ⟨b, 0, none⟩), .int .i64 at_, .int .i64 ((at_ + (enc c).length : Nat) : Int)] w2 fun e w' => Took b B s w2 o e w') :
    Calls Tryz.prog 112 #[.pointer (some ⟨b, 0, none⟩), .int .i64 at_, .int .i32 c] w fun e w' => Took b B s w o e w' := by
  obtain ⟨c0, c1, c2, c3, hf⟩ := h.cells
  rw [hr] at c3
  have HK : Hid (kl c = 2) := hk
  have HM : Hid (isMark c = false) := hm
  have HC : Hid (isCp c = true) := hc
  have HW : Hid (wid c = ((enc c).length : Int)) := (enc_len c hc).symm
  have HL : Hid _ := hl
  have HN : Hid (st.cur.isSome = true) := hn
  clear hk hm hc hl hn
  generalize (enc c).length = k at *
  go_enter Tryz.func112, Tryz.ntmps112
  go_wp2_with (first
    | (go_at_call 114; refine (gclass_b c 2 HK.out _).mono ?_; rintro e w1 ⟨rfl, hb1⟩)
    | (go_at_call 115; refine (has_mark c HC.out _).mono ?_; rintro e w2 ⟨rfl, hb2⟩; rw [HM.out]; obtain ⟨h1, k1⟩ := h.later hb1; obtain ⟨h2, k2⟩ := h1.later hb2; obtain ⟨d0, d1, d2, d3, hg⟩ := h2.cells; rw [HN.out] at d2)
    )
  refine (gwidth_any _ _).mono ?_
  rintro e w3 ⟨rfl, hw3⟩
  have hb3 : Below w2.heap.size w2 w3 := by rw [hw3]; exact (Below.refl _ _).alloc (Nat.le_refl _) _
  clear hw3
  rw [HW.out]
  obtain ⟨h3, k3⟩ := h2.later hb3
  go_wp2_with fail
  refine (HL.out _ h3).mono ?_
  rintro e w4 hT
  cases o with
  | ok st' =>
    obtain ⟨rfl, hv, hk⟩ := hT
    have HV : Hid _ := hv
    clear hv
    go_wp2
    go_ret2
    exact ⟨rfl, HV.out, ((k1.trans k2).trans k3).trans hk⟩
  | err p x =>
    obtain ⟨rfl, hk⟩ := hT
    go_wp2
    go_ret2
    exact ⟨rfl, ((k1.trans k2).trans k3).trans hk⟩

end Go.Proofs.YtlegmmhacnbnlaaGreatDoor.Sx

/- A walk over the scan's 'take', the end: marks; and all its ways together. -/
namespace Go.Proofs.YtlegmmhacnbnlaaGreatDoor.Sx

open Go.RowKit

set_option linter.unusedVariables false

set_option maxRecDepth 1000000 in
set_option maxHeartbeats 2000000 in
theorem take_mark (b B : Nat) (s : ByteArray) (v : Value) (st : Sc) (at_ : Nat) (c : Int) (hc : isCp c = true) (hlo : 0 ≤ c) (hhi : c ≤ 1114111) (h35 : (c == 35) = false) (hk : kl c = 4) (hm : isMark c = true) (w : World) (h : ScanAt w b B s v st) (hr : st.remark = false) (hs : at_ ≤ 100000) (hdl : st.toks.length ≤ 100000) :
    Calls Tryz.prog 112 #[.pointer (some ⟨b, 0, none⟩), .int .i64 at_, .int .i32 c] w fun e w' => Took b B s w (.ok ⟨st.toks ++ [⟨2, enc c, at_⟩], none, false⟩) e w' := by
  obtain ⟨c0, c1, c2, c3, hf⟩ := h.cells
  rw [hr] at c3
  have HK : Hid (kl c = 4) := hk
  have HM : Hid (isMark c = true) := hm
  have HC : Hid (isCp c = true) := hc
  have hcv : ∀ w, (convert 21 9 (.int .i32 c)).run Tryz.prog w = .ok (.string ⟨(enc c).toArray⟩) w := by
    intro w
    rw [run_convert_int_string w 21 9 .i32 c (by kernel_rfl) Tryz.underlying9, encode_cp _ hc]
  clear hk hm hc
  have hlt := h.lt
  generalize enc c = x at *
  go_enter Tryz.func112, Tryz.ntmps112
  go_wp2_with (first
    | (go_at_call 114; refine (gclass_b c 4 HK.out _).mono ?_; rintro e w1 ⟨rfl, hb1⟩)
    | (go_at_call 115; refine (has_mark c HC.out _).mono ?_; rintro e w2 ⟨rfl, hb2⟩; rw [HM.out]; obtain ⟨h1, k1⟩ := h.later hb1; obtain ⟨h2, k2⟩ := h1.later hb2; obtain ⟨d0, d1, d2, d3, hg⟩ := h2.cells; rw [hr] at d3)
    | (at_builtin; refine append_tok rfl _ _ rfl B _ st.toks rfl ((ownsRow_setCell_below h2.own hlt (.bool false)).alloc _) ⟨2, x, at_⟩ ⟨w2.heap.size, 0, none⟩ rfl (cells_set w2 _ _ _ _ _) hdl (by have := h2.le; simp; omega) ?_; intro g cap w3 ho3 hgrow3; obtain ⟨hb3, hk3, hb4, ho4⟩ := scan_push (t := ⟨2, x, at_⟩) h2.stop.blk (ownsRow_setCell_below h2.own hlt (.bool false)) hlt (by have := h2.le; simpa using this) ho3 hgrow3; have e0 := cell_blk hb3 0; have e1 := cell_blk hb3 1; have e2 := cell_blk hb3 2; simp at e0 e1 e2; have hfb : ∀ j, w3.frozen? ⟨b, j, none⟩ = false := fun j => frozen_of_row w3 b j _ 186 hb3))
  have hz3 := hk3.size
  have hle2 := h2.le
  go_ret2
  refine ⟨rfl, ⟨.slice (some ⟨g, 0, none⟩) (st.toks.length + 1) cap, ⟨?_, ?_, hlt, ?_⟩⟩, ((k1.trans k2).trans (KB.setCell b B w2 2 (.bool false))).trans (hk3.trans (KB.setCell b B w3 1 _))⟩
  · have := hb4 (.slice (some ⟨g, 0, none⟩) (st.toks.length + 1) cap)
    rw [hr] at this
    exact this
  · have := ho4 (.slice (some ⟨g, 0, none⟩) (st.toks.length + 1) cap)
    have e : Sc.toks ⟨st.toks ++ [⟨2, x, at_⟩], none, false⟩ = st.toks ++ [⟨2, x, at_⟩] := by simp [Sc.toks, curToks]
    rw [e]
    exact this
  · simp at hz3 ⊢
    omega

theorem take_any (b B : Nat) (s : ByteArray) (v : Value) (st : Sc) (at_ : Nat) (c : Int) (hc : isCp c = true) (w : World) (h : ScanAt w b B s v st) (hs : s.size ≤ 100000) (hat : at_ + (enc c).length ≤ s.size) (hdl : st.toks.length ≤ 100000)
    (hx0 : s.extract at_ (at_ + (enc c).length) = ⟨(enc c).toArray⟩) (hx : ∀ p t, st.cur = some (p, t) → p ≤ at_ ∧ s.extract p (at_ + (enc c).length) = ⟨(t ++ enc c).toArray⟩) :
    Calls Tryz.prog 112 #[.pointer (some ⟨b, 0, none⟩), .int .i64 at_, .int .i32 c] w fun e w' => Took b B s w (stepS st at_ c) e w' := by
  obtain ⟨hlo, hhi, _⟩ := (isCp_iff c).1 hc
  have hep := enc_pos c hc
  have hbeq : ∀ k : Int, c ≠ k → (c == k) = false := fun k hk => by rw [beq_eq_false_iff_ne]; exact hk
  have hdone : st.done.length ≤ 100000 := by
    have : st.toks.length = st.done.length + (curToks st.cur).length := by simp [Sc.toks]
    omega
  have hlet : st.remark = false → ∀ w2, ScanAt w2 b B s v st → Calls Tryz.prog 116 #[.pointer (some ⟨b, 0, none⟩), .int .i64 at_, .int .i64 ((at_ + (enc c).length : Nat) : Int)] w2 fun e w' => Took b B s w2 (letterS st at_ c) e w' := by
    intro hr w2 h2
    obtain ⟨done, cur, rem⟩ := st
    simp only at hr hx hdone
    subst hr
    cases cur with
    | none => exact letter_new b B s v done (enc c) at_ (enc c).length w2 h2 hs hat hep.2 hdone hx0
    | some q =>
      obtain ⟨p, t⟩ := q
      obtain ⟨hp, hxx⟩ := hx p t rfl
      unfold letterS
      simp only
      by_cases hbig : p + 24 < at_ + (enc c).length
      · rw [if_pos hbig]
        exact letter_big b B s v done p t at_ (enc c).length w2 h2 (by omega) (by omega) hbig hdone
      · rw [if_neg hbig]
        exact letter_more b B s v done p t (t ++ enc c) at_ (enc c).length w2 h2 (by omega) hs hat hbig hdone hxx
  unfold stepS
  split
  · rename_i hr
    exact take_remark b B s v st at_ c w h hr
  rename_i hr
  have hr : st.remark = false := by simpa using hr
  split
  · rename_i h35
    exact take_open b B s v st at_ c h35 w h hr
  rename_i h35
  split
  · rename_i h3
    exact take_blank b B s v st at_ c hlo hhi (hbeq 35 h35) h3 w h hr
  rename_i h3
  split
  · rename_i hm
    exact take_mark b B s v st at_ c hc hlo hhi (hbeq 35 h35) (kl_mark c hm).1 hm w h hr (by omega) hdl
  rename_i hm
  have hm : isMark c = false := by simpa using hm
  split
  · rename_i h2
    split
    · rename_i hn
      exact take_digit b B s v st at_ c hc hlo hhi (hbeq 35 h35) h2 hm w h hr hn
    · rename_i q hn
      exact take_more b B s v st at_ c _ hc hlo hhi (hbeq 35 h35) h2 hm w h hr (by rw [hn]; rfl) (by omega) (hlet hr)
  rename_i h2
  split
  · rename_i h1
    exact take_letter b B s v st at_ c _ hc hlo hhi (hbeq 35 h35) h1 hm w h hr (by omega) (hlet hr)
  · rename_i h1
    exact take_other b B s v st at_ c (kl c) hc hlo hhi (hbeq 35 h35) rfl (by rw [beq_eq_false_iff_ne]; exact h1) (by rw [beq_eq_false_iff_ne]; exact h2) (by rw [beq_eq_false_iff_ne]; exact h3) hm w h hr

end Go.Proofs.YtlegmmhacnbnlaaGreatDoor.Sx

/- A walk over lex.Lex: a text's tokens, or the first byte that can't be. -/
namespace Go.Proofs.YtlegmmhacnbnlaaGreatDoor.Sx

open Go.RowKit

set_option linter.unusedVariables false

/-- The bytes of a text between two places. -/
theorem extract_mid (s : ByteArray) (a x b : List UInt8) (h : s.data.toList = a ++ x ++ b) (i j : Nat) (hi : i = a.length) (hj : j = a.length + x.length) : s.extract i j = ⟨x.toArray⟩ := by
  apply ByteArray.ext
  apply Array.ext'
  rw [Lib.extract_data, h, hi, hj]
  simp

theorem goS_bounds (cs d todo : List Int) (c : Int) (hC : cs = d ++ c :: todo) (s : ByteArray) (hS : s.data.toList = encAll cs) (st : Sc) (hg : goS sc0 0 d = .ok st) :
    s.extract (encAll d).length ((encAll d).length + (enc c).length) = ⟨(enc c).toArray⟩ ∧ ∀ p t, st.cur = some (p, t) → p ≤ (encAll d).length ∧ s.extract p ((encAll d).length + (enc c).length) = ⟨(t ++ enc c).toArray⟩ := by
  refine ⟨extract_mid s (encAll d) (enc c) (encAll todo) (by rw [hS, hC, encAll_append]; simp [encAll]) _ _ rfl rfl, ?_⟩
  intro p t hc
  obtain ⟨d1, d2, e1, e2, e3, _, _, _⟩ := cur_inv d st hg p t hc
  have hl : (encAll d).length = (encAll d1).length + (encAll d2).length := by rw [e1, encAll_append, List.length_append]
  refine ⟨by omega, extract_mid s (encAll d1) (t ++ enc c) (encAll todo) ?_ _ _ e3 ?_⟩
  · rw [hS, hC, e1, e2, encAll_append, encAll_append]
    simp [encAll]
  · rw [hl, e2, List.length_append]
    omega

/-- What 'Lex' answers. -/
def Lexed (w : World) (r : Res) (e : Ending) (w' : World) : Prop :=
  ∃ v, e = .returned (.tuple #[v, .int .i64 (r.place : Int), .int .i64 r.err]) ∧ w'.ownsRow w.heap.size 183 3 v r.toks.length (tvs r.toks) ∧ Below w.heap.size w w'

theorem step_e {st : Sc} {p : Nat} {c : Int} {q : Nat} {e : Int} (h : stepS st p c = .err q e) : (e != 0) = true := by
  obtain ⟨_, _, _, _, h⟩ := step_err h
  rcases h with ⟨_, rfl, _⟩ | ⟨_, rfl, _⟩ <;> rfl

set_option maxRecDepth 1000000 in
set_option maxHeartbeats 4000000 in
theorem lex_whole (s : ByteArray) (cs : List Int) (hp0 : Parts s.data.toList cs []) (w : World) (hs : s.size ≤ 65536) :
    Calls Tryz.prog 110 #[.string s] w fun e w' => Lexed w (lexR cs []) e w' := by
  have hz := size_list s
  have hb : badV cs [] < 0 := by simp [badV]
  have hE : (encAll cs).length = s.size := by rw [← hz, hp0.eq]; simp
  have ht : s.data.toList = encAll cs := by rw [hp0.eq]; simp
  have hts : s.size ≤ 100000 := by omega
  go_enter Tryz.func110, Tryz.ntmps110
  go_wp2_with (go_at_call 111; refine (bad_any s cs [] hp0 _ (by omega)).mono ?_; rintro e w1 ⟨rfl, hb1⟩)
  have hsz1 := hb1.size
  have hS0 : ScanAt ((w1.alloc (.cells #[.string s, .slice none 0 0, .bool false, .bool false] 186)).iter s 0) w1.heap.size (w1.heap.size + 2) s (.slice none 0 0) sc0 := by
    refine ⟨?_, World.ownsRow_nil _ _ _ _, by omega, ?_⟩
    · show ((w1.alloc (.cells #[.string s, .slice none 0 0, .bool false, .bool false] 186)).alloc (.stringIter s 0)).heap[w1.heap.size]? = _
      rw [Below.heap_alloc _ _ _ (by simp)]
      exact heap_alloc_new w1 _
    · show _ ≤ ((w1.alloc (.cells #[.string s, .slice none 0 0, .bool false, .bool false] 186)).alloc (.stringIter s 0)).heap.size
      simp
  have hI0 : ((w1.alloc (.cells #[.string s, .slice none 0 0, .bool false, .bool false] 186)).iter s 0).heap[w1.heap.size + 1]? = some (.stringIter s 0) := by
    have h := World.iter_heap (w1.alloc (.cells #[.string s, .slice none 0 0, .bool false, .bool false] 186)) s 0
    simpa using h
  have hB0 : Below w.heap.size w ((w1.alloc (.cells #[.string s, .slice none 0 0, .bool false, .bool false] 186)).iter s 0) := (hb1.alloc (by omega) _).alloc (by simp; omega) _
  generalize w1.heap.size = b at *
  go_loopw [8, 9, 10, 11] (fun _ _ _ _ wr => ∃ (d todo : List Int) (st : Sc) (v : Value), Hid (cs = d ++ todo) ∧ Hid (goS sc0 0 d = .ok st) ∧ ScanAt wr b (b + 2) s v st ∧ wr.heap[b + 1]? = some (.stringIter s (encAll d).length) ∧ Below w.heap.size w wr) (fun _ _ _ _ wr => s.size - wr.iterPos (b + 1))
  case atStart => exact ⟨[], cs, sc0, _, rfl, rfl, hS0, hI0, hB0⟩
  case round =>
    clear hS0 hI0 hB0
    obtain ⟨d, todo, st, v, HC, HG, hS, hit, hbw⟩ := hrel
    have hpos0 := iter_pos_of hit
    have hzw := hbw.size
    cases todo with
    | cons c todo =>
      have hc : isCp c = true := hp0.cp c (by rw [HC.out]; simp)
      have hcd : ∀ x ∈ d, isCp x = true := fun x hx => hp0.cp x (by rw [HC.out]; simp [hx])
      have hS2 : s.data.toList = encAll (d ++ c :: todo) ++ [] := by rw [ht, HC.out]; simp
      have hd := decode_at s d todo c [] hS2 hc
      have hk := enc_pos c hc
      have hlen : (encAll (d ++ [c])).length = (encAll d).length + (enc c).length := by rw [encAll_append, encAll_one]; simp
      have hsz : (encAll d).length + (enc c).length ≤ s.size := by
        rw [← size_list s, hS2, encAll_append]
        simp [encAll]
      have hcn := cp_toNat c hc
      have htl := toks_len d hcd st HG.out
      obtain ⟨hx0, hx⟩ := goS_bounds cs d todo c HC.out s ht st HG.out
      have hstep := goS_snoc_ok HG.out c
      rw [Nat.zero_add] at hstep
      have HSTEP : Hid (goS sc0 0 (d ++ [c]) = stepS st (encAll d).length c) := hstep
      have HCD : Hid (cs = (d ++ [c]) ++ todo) := by show _ = _; rw [HC.out]; simp
      have HL : Hid ((encAll (d ++ [c])).length = (encAll d).length + (enc c).length) := hlen
      have hS1 : ScanAt (wr.iterAt (b + 1) s ((encAll d).length + (enc c).length)) b (b + 2) s v st :=
        ⟨by rw [Lib.iterAt_other _ _ _ _ _ (by omega)]; exact hS.blk, owns_iterAt hS.own (by omega) _ _, hS.lt, by rw [Lib.iterAt_size]; exact hS.le⟩
      have HT : Hid _ := take_any b (b + 2) s v st (encAll d).length c hc _ hS1 hts hsz (by omega) hx0 hx
      have hit2 := Lib.iterAt_heap wr (b + 1) s (encAll d).length ((encAll d).length + (enc c).length) hit
      have hbw2 := Lib.below_iterAt hbw (k := b + 1) (by omega) s ((encAll d).length + (enc c).length)
      clear hx0 hx hstep htl hS2 hlen hS hcd hS1
      generalize hp1 : (encAll d).length = pos at *
      generalize hk1 : (enc c).length = k at *
      have hnx : ∀ ty, (Instr.next (.pointer (some ⟨b + 1, 0, none⟩)) true ty).run Tryz.prog wr = .ok (.tuple #[.bool true, .int .i64 pos, .int .i32 c]) (wr.iterAt (b + 1) s (pos + k)) := by
        intro ty
        have h := Lib.run_next_any_at (P := Tryz.prog) wr (b + 1) s pos ty hit (by omega)
        rw [hd] at h
        simp only [hcn] at h
        exact h
      obtain ⟨W1, hW1⟩ : ∃ W1, W1 = wr.iterAt (b + 1) s (pos + k) := ⟨_, rfl⟩
      rw [← hW1] at hnx hit2 hbw2 HT
      clear hW1 hit hbw hc hd hcn HC hp1 hk1 hp0 hz ht HG
      go_wp2_with fail
      refine Calls.mono HT.out ?_
      clear HT
      rintro e w2 hT
      cases hq : stepS st pos c with
      | ok st' =>
        rw [hq] at hT HSTEP
        obtain ⟨rfl, ⟨v', hS'⟩, hkb⟩ := hT
        have hit3 : w2.heap[b + 1]? = some (.stringIter s (pos + k)) := (hkb.block (b + 1) (by omega) (by omega)).trans hit2
        have hbw3 : Below w.heap.size w w2 := hbw2.trans (hkb.below (by omega) (by omega))
        clear hkb hq
        go_wp2
        go_roundw
        case rel => exact ⟨d ++ [c], todo, st', v', HCD, HSTEP, hS', by rw [HL.out]; exact hit3, hbw3⟩
        case measure => rw [iter_pos_of hit3, hpos0]; omega
      | err p x =>
        have hx0 := step_e hq
        rw [hq] at hT HSTEP
        obtain ⟨rfl, hkb⟩ := hT
        have hbw3 : Below w.heap.size w w2 := hbw2.trans (hkb.below (by omega) (by omega))
        have HR : Hid (lexR cs [] = ⟨[], p, x⟩) := by
          show _ = _
          unfold lexR
          rw [HCD.out, goS_append, HSTEP.out]
        clear hkb hq
        go_wp2
        go_ret3
        rw [HR.out]
        exact ⟨_, rfl, World.ownsRow_nil _ _ _ _, hbw3⟩
    | nil =>
      have hC : cs = d := by simpa using HC.out
      subst hC
      obtain ⟨c0, c1, c2, c3, hf⟩ := hS.cells
      have hsz : ¬ (encAll cs).length < s.size := by
        rw [← size_list s, ht]
        omega
      generalize hp1 : (encAll cs).length = pos at *
      have hnx : ∀ ty, (Instr.next (.pointer (some ⟨b + 1, 0, none⟩)) true ty).run Tryz.prog wr = _ := fun ty => Lib.run_next_end_at wr (b + 1) s pos ty hit hsz
      have HR : Hid (lexR cs [] = ⟨st.toks, s.size, 0⟩) := by show _ = _; unfold lexR; rw [HG.out]; simp only [if_true]; rw [hp1, hE]
      have HO := owns_low hS.own (B' := w.heap.size) (by omega)
      clear hp0 hz HC ht HG hE hS
      go_wp2
      go_ret3
      rw [HR.out]
      exact ⟨v, rfl, HO, hbw⟩

set_option maxRecDepth 1000000 in
set_option maxHeartbeats 4000000 in
theorem lex_part (s : ByteArray) (cs : List Int) (rest : List UInt8) (hp0 : Parts s.data.toList cs rest) (hr : rest ≠ []) (w : World) (hs : s.size ≤ 65536) :
    Calls Tryz.prog 110 #[.string s] w fun e w' => Lexed w (lexR cs rest) e w' := by
  have hz := size_list s
  obtain ⟨E, hE⟩ : ∃ E : Nat, (encAll cs).length = E := ⟨_, rfl⟩
  have hbE : Hid (badV cs rest = (E : Int)) := by show _ = _; simp [badV, hr, hE]
  have hEs : E ≤ s.size := by rw [← hz, hp0.eq, ← hE]; simp
  have HEE : Hid ((encAll cs).length = E) := hE
  clear hE
  go_enter Tryz.func110, Tryz.ntmps110
  go_wp2_with (go_at_call 111; refine (bad_any s cs rest hp0 _ (by omega)).mono ?_; rintro e w1 ⟨rfl, hb1⟩; rw [hbE.out])
  have hsz1 := hb1.size
  have ht : (s.extract 0 E).data.toList = encAll cs := by
    rw [Lib.extract_data]
    rw [hp0.eq, ← HEE.out]
    simp
  have htz : (s.extract 0 E).size = E := by simp; try omega
  generalize s.extract 0 E = t at *
  have hts : t.size ≤ 100000 := by omega
  have hS0 : ScanAt ((w1.alloc (.cells #[.string t, .slice none 0 0, .bool false, .bool false] 186)).iter t 0) w1.heap.size (w1.heap.size + 2) t (.slice none 0 0) sc0 := by
    refine ⟨?_, World.ownsRow_nil _ _ _ _, by omega, ?_⟩
    · show ((w1.alloc (.cells #[.string t, .slice none 0 0, .bool false, .bool false] 186)).alloc (.stringIter t 0)).heap[w1.heap.size]? = _
      rw [Below.heap_alloc _ _ _ (by simp)]
      exact heap_alloc_new w1 _
    · show _ ≤ ((w1.alloc (.cells #[.string t, .slice none 0 0, .bool false, .bool false] 186)).alloc (.stringIter t 0)).heap.size
      simp
  have hI0 : ((w1.alloc (.cells #[.string t, .slice none 0 0, .bool false, .bool false] 186)).iter t 0).heap[w1.heap.size + 1]? = some (.stringIter t 0) := by
    have h := World.iter_heap (w1.alloc (.cells #[.string t, .slice none 0 0, .bool false, .bool false] 186)) t 0
    simpa using h
  have hB0 : Below w.heap.size w ((w1.alloc (.cells #[.string t, .slice none 0 0, .bool false, .bool false] 186)).iter t 0) := (hb1.alloc (by omega) _).alloc (by simp; omega) _
  generalize w1.heap.size = b at *
  go_loopw [8, 9, 10, 11] (fun _ _ _ _ wr => ∃ (d todo : List Int) (st : Sc) (v : Value), Hid (cs = d ++ todo) ∧ Hid (goS sc0 0 d = .ok st) ∧ ScanAt wr b (b + 2) t v st ∧ wr.heap[b + 1]? = some (.stringIter t (encAll d).length) ∧ Below w.heap.size w wr) (fun _ _ _ _ wr => t.size - wr.iterPos (b + 1))
  case atStart => exact ⟨[], cs, sc0, _, rfl, rfl, hS0, hI0, hB0⟩
  case round =>
    clear hS0 hI0 hB0
    obtain ⟨d, todo, st, v, HC, HG, hS, hit, hbw⟩ := hrel
    have hpos0 := iter_pos_of hit
    have hzw := hbw.size
    cases todo with
    | cons c todo =>
      have hc : isCp c = true := hp0.cp c (by rw [HC.out]; simp)
      have hcd : ∀ x ∈ d, isCp x = true := fun x hx => hp0.cp x (by rw [HC.out]; simp [hx])
      have hS2 : t.data.toList = encAll (d ++ c :: todo) ++ [] := by rw [ht, HC.out]; simp
      have hd := decode_at t d todo c [] hS2 hc
      have hk := enc_pos c hc
      have hlen : (encAll (d ++ [c])).length = (encAll d).length + (enc c).length := by rw [encAll_append, encAll_one]; simp
      have hsz : (encAll d).length + (enc c).length ≤ t.size := by
        rw [← size_list t, hS2, encAll_append]
        simp [encAll]
      have hcn := cp_toNat c hc
      have htl := toks_len d hcd st HG.out
      obtain ⟨hx0, hx⟩ := goS_bounds cs d todo c HC.out t ht st HG.out
      have hstep := goS_snoc_ok HG.out c
      rw [Nat.zero_add] at hstep
      have HSTEP : Hid (goS sc0 0 (d ++ [c]) = stepS st (encAll d).length c) := hstep
      have HCD : Hid (cs = (d ++ [c]) ++ todo) := by show _ = _; rw [HC.out]; simp
      have HL : Hid ((encAll (d ++ [c])).length = (encAll d).length + (enc c).length) := hlen
      have hS1 : ScanAt (wr.iterAt (b + 1) t ((encAll d).length + (enc c).length)) b (b + 2) t v st :=
        ⟨by rw [Lib.iterAt_other _ _ _ _ _ (by omega)]; exact hS.blk, owns_iterAt hS.own (by omega) _ _, hS.lt, by rw [Lib.iterAt_size]; exact hS.le⟩
      have HT : Hid _ := take_any b (b + 2) t v st (encAll d).length c hc _ hS1 hts hsz (by omega) hx0 hx
      have hit2 := Lib.iterAt_heap wr (b + 1) t (encAll d).length ((encAll d).length + (enc c).length) hit
      have hbw2 := Lib.below_iterAt hbw (k := b + 1) (by omega) t ((encAll d).length + (enc c).length)
      clear hx0 hx hstep htl hS2 hlen hS hcd hS1
      generalize hp1 : (encAll d).length = pos at *
      generalize hk1 : (enc c).length = k at *
      have hnx : ∀ ty, (Instr.next (.pointer (some ⟨b + 1, 0, none⟩)) true ty).run Tryz.prog wr = .ok (.tuple #[.bool true, .int .i64 pos, .int .i32 c]) (wr.iterAt (b + 1) t (pos + k)) := by
        intro ty
        have h := Lib.run_next_any_at (P := Tryz.prog) wr (b + 1) t pos ty hit (by omega)
        rw [hd] at h
        simp only [hcn] at h
        exact h
      obtain ⟨W1, hW1⟩ : ∃ W1, W1 = wr.iterAt (b + 1) t (pos + k) := ⟨_, rfl⟩
      rw [← hW1] at hnx hit2 hbw2 HT
      clear hW1 hit hbw hc hd hcn HC hp1 hk1 hp0 hz ht HG hr
      go_wp2_with fail
      refine Calls.mono HT.out ?_
      clear HT
      rintro e w2 hT
      cases hq : stepS st pos c with
      | ok st' =>
        rw [hq] at hT HSTEP
        obtain ⟨rfl, ⟨v', hS'⟩, hkb⟩ := hT
        have hit3 : w2.heap[b + 1]? = some (.stringIter t (pos + k)) := (hkb.block (b + 1) (by omega) (by omega)).trans hit2
        have hbw3 : Below w.heap.size w w2 := hbw2.trans (hkb.below (by omega) (by omega))
        clear hkb hq
        go_wp2
        go_roundw
        case rel => exact ⟨d ++ [c], todo, st', v', HCD, HSTEP, hS', by rw [HL.out]; exact hit3, hbw3⟩
        case measure => rw [iter_pos_of hit3, hpos0]; omega
      | err p x =>
        have hx0 := step_e hq
        rw [hq] at hT HSTEP
        obtain ⟨rfl, hkb⟩ := hT
        have hbw3 : Below w.heap.size w w2 := hbw2.trans (hkb.below (by omega) (by omega))
        have HR : Hid (lexR cs rest = ⟨[], p, x⟩) := by
          show _ = _
          unfold lexR
          rw [HCD.out, goS_append, HSTEP.out]
        clear hkb hq
        go_wp2
        go_ret3
        rw [HR.out]
        exact ⟨_, rfl, World.ownsRow_nil _ _ _ _, hbw3⟩
    | nil =>
      have hC : cs = d := by simpa using HC.out
      subst hC
      obtain ⟨c0, c1, c2, c3, hf⟩ := hS.cells
      have hsz : ¬ (encAll cs).length < t.size := by
        rw [← size_list t, ht]
        omega
      generalize hp1 : (encAll cs).length = pos at *
      have hnx : ∀ ty, (Instr.next (.pointer (some ⟨b + 1, 0, none⟩)) true ty).run Tryz.prog wr = _ := fun ty => Lib.run_next_end_at wr (b + 1) t pos ty hit hsz
      have HR : Hid (lexR cs rest = ⟨[], E, 4⟩) := by show _ = _; unfold lexR; rw [HG.out]; simp only [hr, if_false]; rw [hp1, HEE.out]
      clear hp0 hz HC ht HG hr hS
      go_wp2
      go_ret3
      rw [HR.out]
      exact ⟨_, rfl, World.ownsRow_nil _ _ _ _, hbw⟩

theorem lex_any (s : ByteArray) (cs : List Int) (rest : List UInt8) (hp0 : Parts s.data.toList cs rest) (w : World) (hs : s.size ≤ 65536) :
    Calls Tryz.prog 110 #[.string s] w fun e w' => Lexed w (lexR cs rest) e w' := by
  by_cases hr : rest = []
  · subst hr
    exact lex_whole s cs hp0 w hs
  · exact lex_part s cs rest hp0 hr w hs

set_option maxRecDepth 1000000 in
set_option maxHeartbeats 2000000 in
theorem lex_great (s : ByteArray) (w : World) (hs : ¬ s.size ≤ 65536) :
    Calls Tryz.prog 110 #[.string s] w fun e w' => Lexed w ⟨[], 0, 5⟩ e w' := by
  go_enter Tryz.func110, Tryz.ntmps110
  go_wp2
  go_ret3
  exact ⟨_, rfl, World.ownsRow_nil _ _ _ _, Below.refl _ _⟩

end Go.Proofs.YtlegmmhacnbnlaaGreatDoor.Sx

