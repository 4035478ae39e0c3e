/- Texts of the seat, packed: SWN SWQ SWR SWS. -/
import Derived.Test.YtephkdocfhajiaaDoorP06
import Derived.Deep.RegionWith
import Derived.Test.YtephkdocfhajiaaDoorP05
/- A walk over the scan's 'letter'. -/
namespace Go.Proofs.YtephkdocfhajiaaDoor.Sx

open Go.RowKit

set_option linter.unusedVariables false

set_option maxRecDepth 1000000 in
set_option maxHeartbeats 1000000 in
theorem letter_big (b B : Nat) (s : ByteArray) (v : Value) (done : List Tok) (p : Nat) (t : List UInt8) (at_ k : Nat) (w : World) (h : ScanAt w b B s v ⟨done, some (p, t), false⟩) (hpa : p ≤ 100000) (hat : at_ + k ≤ 100000) (hbig : p + 24 < at_ + k) (hdl : done.length ≤ 100000) :
    Calls Tryd.prog 88 #[.pointer (some ⟨b, 0, none⟩), .int .i64 at_, .int .i64 ((at_ + k : Nat) : Int)] w fun e w' => e = .returned (.tuple #[.int .i64 p, .int .i64 5]) ∧ KB b B w w' := by
  obtain ⟨hblk, hown, hlt, hle⟩ := h
  have hkb := KB.refl b B w
  obtain ⟨g, cap, rfl, hBg, hgz, hcap, hcm, c0, c1, c2, hf⟩ := last_tok (l := done) (t := ⟨1, t, p⟩) hown
  have d0 := cell_blk hblk 0
  have d1 := cell_blk hblk 1
  have d2 := cell_blk hblk 2
  simp at d0 d1 d2
  generalize done.length = n at *
  generalize at_ + k = q at *
  go_enter Tryd.func88, Tryd.ntmps88
  go_wp2
  go_quiet (fail)
  go_wp2
  go_ret2
  exact ⟨rfl, hkb.drewN _⟩

theorem scan_text {w : World} {b B g cap : Nat} {s : ByteArray} {done : List Tok} {p : Nat} {t : List UInt8} (x : List UInt8) (m : Nat)
    (h : ScanAt w b B s (.slice (some ⟨g, 0, none⟩) (done.length + 1) cap) ⟨done, some (p, t), false⟩) (hg : B ≤ g) :
    ScanAt ((w.drewN m).setCell ⟨g, done.length * 3 + 1, none⟩ (.string ⟨x.toArray⟩)) b B s (.slice (some ⟨g, 0, none⟩) (done.length + 1) cap) ⟨done, some (p, x), false⟩ ∧
      KB b B w ((w.drewN m).setCell ⟨g, done.length * 3 + 1, none⟩ (.string ⟨x.toArray⟩)) := by
  obtain ⟨hblk, hown, hlt, hle⟩ := h
  have hown2 : (w.drewN m).ownsRow B 136 3 (.slice (some ⟨g, 0, none⟩) (done.length + 1) cap) (done ++ [(⟨1, t, p⟩ : Tok)]).length (tvs (done ++ [⟨1, t, p⟩])) := hown
  refine ⟨⟨?_, ?_, hlt, by simpa using hle⟩, ?_⟩
  · rw [heap_setCell_other _ _ _ _ (by show b ≠ g; omega)]
    exact hblk
  · exact set_text x hown2
  · exact ((KB.refl b B w).drewN m).trans (KB.setFar _ g _ _ hg)

set_option maxRecDepth 1000000 in
set_option maxHeartbeats 2000000 in
theorem letter_more (b B : Nat) (s : ByteArray) (v : Value) (done : List Tok) (p : Nat) (t x : List UInt8) (at_ k : Nat) (w : World) (h : ScanAt w b B s v ⟨done, some (p, t), false⟩) (hpa : p ≤ at_ + k) (hs : s.size ≤ 100000) (hat : at_ + k ≤ s.size) (hbig : ¬ p + 24 < at_ + k) (hdl : done.length ≤ 100000) (hx : s.extract p (at_ + k) = ⟨x.toArray⟩) :
    Calls Tryd.prog 88 #[.pointer (some ⟨b, 0, none⟩), .int .i64 at_, .int .i64 ((at_ + k : Nat) : Int)] w fun e w' => e = .returned (.tuple #[.int .i64 0, .int .i64 0]) ∧ (∃ v', ScanAt w' b B s v' ⟨done, some (p, x), false⟩) ∧ KB b B w w' := by
  have h0 := h
  obtain ⟨hblk, hown, hlt, hle⟩ := h
  obtain ⟨g, cap, rfl, hBg, hgz, hcap, hcm, c0, c1, c2, hf⟩ := last_tok (l := done) (t := ⟨1, t, p⟩) hown
  have HF : Hid _ := fun m => scan_text x m h0 hBg
  have HX : Hid (s.extract p (at_ + k) = ⟨x.toArray⟩) := hx
  have d0 := cell_blk hblk 0
  have d1 := cell_blk hblk 1
  have d2 := cell_blk hblk 2
  simp at d0 d1 d2
  have hne : b ≠ g := by omega
  clear hblk hown hx h0
  generalize done.length = n at *
  generalize hq : at_ + k = q at *
  clear hq
  go_enter Tryd.func88, Tryd.ntmps88
  go_wp2
  go_quiet (fail)
  go_wp2
  go_region
  go_wp2
  go_ret2
  rw [HX.out]
  exact ⟨rfl, ⟨_, (HF.out _).1⟩, (HF.out _).2⟩

set_option maxRecDepth 1000000 in
set_option maxHeartbeats 2000000 in
theorem letter_new (b B : Nat) (s : ByteArray) (v : Value) (done : List Tok) (x : List UInt8) (at_ k : Nat) (w : World) (h : ScanAt w b B s v ⟨done, none, false⟩) (hs : s.size ≤ 100000) (hat : at_ + k ≤ s.size) (hk : k ≤ 4) (hdl : done.length ≤ 100000) (hx : s.extract at_ (at_ + k) = ⟨x.toArray⟩) :
    Calls Tryd.prog 88 #[.pointer (some ⟨b, 0, none⟩), .int .i64 at_, .int .i64 ((at_ + k : Nat) : Int)] w fun e w' => e = .returned (.tuple #[.int .i64 0, .int .i64 0]) ∧ (∃ v', ScanAt w' b B s v' ⟨done, some (at_, x), false⟩) ∧ KB b B w w' := by
  have h0 := h
  obtain ⟨hblk, hown, hlt, hle⟩ := h
  have hown : w.ownsRow B 136 3 v done.length (tvs done) := by simpa [Sc.toks, curToks] using hown
  have d0 := cell_blk hblk 0
  have d1 := cell_blk hblk 1
  have d2 := cell_blk hblk 2
  simp at d0 d1 d2
  have hf : ∀ j, w.frozen? ⟨b, j, none⟩ = false := fun j => frozen_of_row w b j _ 143 hblk
  have hblk1 : (w.setCell ⟨b, 2, none⟩ (.bool true)).heap[b]? = some (.cells #[.string s, v, .bool true, .bool false] 143 (0, 0)) := heap_setCell_same w b 2 _ 143 _ hblk
  have hown1 : (w.setCell ⟨b, 2, none⟩ (.bool true)).ownsRow B 136 3 v done.length (tvs done) := ownsRow_setCell_below hown hlt _
  have hkb1 : KB b B w (w.setCell ⟨b, 2, none⟩ (.bool true)) := KB.setCell b B w 2 _
  have hcells : ∀ x y z, ∀ j u, [x, y, z][j]? = some u → ((w.setCell ⟨b, 2, none⟩ (.bool true)).alloc (.cells #[x, y, z] 136)).cell? ((⟨w.heap.size, 0, none⟩ : Addr).add j) = some u := by
    intro x y z j u hj
    have h := cells3 (w.setCell ⟨b, 2, none⟩ (.bool true)) x y z 136 j u hj
    rwa [World.size_setCell] at h
  have HC : Hid _ := hcells
  have HB1 : Hid (_ = _) := hblk1
  clear hcells hblk1
  go_enter Tryd.func88, Tryd.ntmps88
  go_wp2_with (at_builtin; refine append_tok rfl _ _ rfl B _ done rfl (hown1.alloc _) ⟨1, [], at_⟩ ⟨w.heap.size, 0, none⟩ rfl (HC.out _ _ _) hdl (by simp; omega) ?_; intro g cap w3 ho3 hgrow3; obtain ⟨hb3, hk3, hb4, ho4⟩ := scan_push (t := ⟨1, [], at_⟩) HB1.out hown1 hlt (by simpa using hle) ho3 hgrow3; obtain ⟨hBg, hgz, hcap, hcm, c0, c1, c2, hf3⟩ := last_at ho3; have e0 := cell_blk hb3 0; have e1 := cell_blk hb3 1; have e2 := cell_blk hb3 2; simp at e0 e1 e2; have hfb : ∀ j, w3.frozen? ⟨b, j, none⟩ = false := fun j => frozen_of_row w3 b j _ 143 hb3; have hne : b ≠ g := by omega)
  have hsz3 : B ≤ w3.heap.size := by omega
  have H4 : ScanAt (w3.setCell ⟨b, 1, none⟩ (.slice (some ⟨g, 0, none⟩) (done.length + 1) cap)) b B s (.slice (some ⟨g, 0, none⟩) (done.length + 1) cap) ⟨done, some (at_, []), false⟩ := ⟨hb4 _, ho4 _, hlt, by simpa using hsz3⟩
  have K4 : KB b B w (w3.setCell ⟨b, 1, none⟩ (.slice (some ⟨g, 0, none⟩) (done.length + 1) cap)) := hkb1.trans (hk3.trans (KB.setCell b B w3 1 _))
  have HF : Hid _ := fun m => scan_text x m H4 hBg
  have HX : Hid (s.extract at_ (at_ + k) = ⟨x.toArray⟩) := hx
  clear hb4 ho4 ho3 hgrow3 hk3 hb3 HB1 hown1 hkb1 HC hblk hown d0 d1 d2 hf hx e0 e1 e2 c0 c1 c2 hf3 hfb h0
  have K4 : Hid _ := K4
  generalize w3.setCell ⟨b, 1, none⟩ (.slice (some ⟨g, 0, none⟩) (done.length + 1) cap) = W4 at *
  obtain ⟨hblk, hown, _, hle4⟩ := H4
  obtain ⟨_, hgz4, _, _, c0, c1, c2, hf⟩ := last_at (l := done) (t := ⟨1, [], at_⟩) hown
  have d0 := cell_blk hblk 0
  have d1 := cell_blk hblk 1
  have d2 := cell_blk hblk 2
  simp at d0 d1 d2
  simp only at c0 c1 c2
  clear hblk hown
  generalize done.length = n at *
  go_quiet (fail)
  go_wp2
  go_region
  go_wp2
  go_ret2
  rw [HX.out]
  exact ⟨rfl, ⟨_, (HF.out _).1⟩, K4.out.trans (HF.out _).2⟩

end Go.Proofs.YtephkdocfhajiaaDoor.Sx

/- A walk over the scan's 'take': one code point more. -/
namespace Go.Proofs.YtephkdocfhajiaaDoor.Sx

open Go.RowKit

set_option linter.unusedVariables false

theorem gclass_b (c K : Int) (hK : kl c = K) (w : World) : Calls Tryd.prog 86 #[.int .i64 c] w fun e w' => e = .returned (.int .i64 K) ∧ Below w.heap.size w w' := by
  refine (gclass_any c w).mono ?_
  rintro e w' ⟨rfl, rfl⟩
  exact ⟨by rw [← hK]; rfl, ((Below.refl _ _).alloc (Nat.le_refl _) _).alloc (by simp) _⟩

theorem ScanAt.later {w w1 : World} {b B : Nat} {s : ByteArray} {v : Value} {st : Sc} (h : ScanAt w b B s v st) (hb : Below w.heap.size w w1) : ScanAt w1 b B s v st ∧ KB b B w w1 := by
  obtain ⟨h1, h2, h3, h4⟩ := h
  have hz := hb.size
  exact ⟨⟨(hb.block b (by omega)).trans h1, owns_later h2 hb, h3, by omega⟩, KB.of_below (hb.mono h4)⟩

theorem ScanAt.cells {w : World} {b B : Nat} {s : ByteArray} {v : Value} {st : Sc} (h : ScanAt w b B s v st) :
    w.cell? ⟨b, 0, none⟩ = some (.string s) ∧ w.cell? ⟨b, 1, none⟩ = some v ∧ w.cell? ⟨b, 2, none⟩ = some (.bool st.cur.isSome) ∧ w.cell? ⟨b, 3, none⟩ = some (.bool st.remark) ∧ (∀ j, w.frozen? ⟨b, j, none⟩ = false) :=
  ⟨cell_blk h.blk 0, cell_blk h.blk 1, cell_blk h.blk 2, cell_blk h.blk 3, fun j => frozen_of_row w b j _ 143 h.blk⟩

theorem ScanAt.set3 {w : World} {b B : Nat} {s : ByteArray} {v : Value} {st : Sc} (h : ScanAt w b B s v st) (r : Bool) : ScanAt (w.setCell ⟨b, 3, none⟩ (.bool r)) b B s v ⟨st.done, st.cur, r⟩ := by
  obtain ⟨h1, h2, h3, h4⟩ := h
  exact ⟨heap_setCell_same w b 3 _ 143 _ h1, ownsRow_setCell_below h2 h3 _, h3, by simpa using h4⟩

theorem ScanAt.stop {w : World} {b B : Nat} {s : ByteArray} {v : Value} {st : Sc} (h : ScanAt w b B s v st) : ScanAt (w.setCell ⟨b, 2, none⟩ (.bool false)) b B s v ⟨st.toks, none, st.remark⟩ := by
  obtain ⟨h1, h2, h3, h4⟩ := h
  refine ⟨heap_setCell_same w b 2 _ 143 _ h1, ?_, h3, by simpa using h4⟩
  have e : Sc.toks ⟨st.toks, none, st.remark⟩ = st.toks := by simp [Sc.toks, curToks]
  rw [e]
  exact ownsRow_setCell_below h2 h3 _

/-- What 'take' and 'letter' answer, by the machine's step. -/
def Took (b B : Nat) (s : ByteArray) (w : World) (o : Out) (e : Ending) (w' : World) : Prop :=
  match o with
  | .ok st => e = .returned (.tuple #[.int .i64 0, .int .i64 0]) ∧ (∃ v, ScanAt w' b B s v st) ∧ KB b B w w'
  | .err p x => e = .returned (.tuple #[.int .i64 (p : Int), .int .i64 x]) ∧ KB b B w w'

set_option maxRecDepth 1000000 in
set_option maxHeartbeats 2000000 in
theorem take_remark (b B : Nat) (s : ByteArray) (v : Value) (st : Sc) (at_ : Nat) (c : Int) (w : World) (h : ScanAt w b B s v st) (hr : st.remark = true) :
    Calls Tryd.prog 84 #[.pointer (some ⟨b, 0, none⟩), .int .i64 at_, .int .i32 c] w fun e w' => Took b B s w (.ok ⟨st.done, st.cur, decide (c ≠ 10)⟩) e w' := by
  obtain ⟨c0, c1, c2, c3, hf⟩ := h.cells
  have HF : Hid _ := fun r => (h.set3 r)
  have HK : Hid _ := fun r => KB.setCell b B w 3 (.bool r)
  have HD : Hid ((c != 10) = decide (c ≠ 10)) := by show _ = _; rw [Bool.eq_iff_iff]; simp
  rw [hr] at c3
  generalize st.cur.isSome = q at *
  clear h hr
  go_enter Tryd.func84, Tryd.ntmps84
  go_wp2
  go_ret2
  rw [HD.out]
  exact ⟨rfl, ⟨_, HF.out _⟩, HK.out _⟩

set_option maxRecDepth 1000000 in
set_option maxHeartbeats 2000000 in
theorem take_open (b B : Nat) (s : ByteArray) (v : Value) (st : Sc) (at_ : Nat) (c : Int) (hc : c = 35) (w : World) (h : ScanAt w b B s v st) (hr : st.remark = false) :
    Calls Tryd.prog 84 #[.pointer (some ⟨b, 0, none⟩), .int .i64 at_, .int .i32 c] w fun e w' => Took b B s w (.ok ⟨st.toks, none, true⟩) e w' := by
  subst hc
  obtain ⟨c0, c1, c2, c3, hf⟩ := h.cells
  rw [hr] at c3
  go_enter Tryd.func84, Tryd.ntmps84
  go_wp2_with (go_at_call 86; refine (gclass_b 35 4 (by decide +kernel) _).mono ?_; rintro e w1 ⟨rfl, hb1⟩; obtain ⟨h1, k1⟩ := h.later hb1; obtain ⟨d0, d1, d2, d3, hg⟩ := h1.cells; rw [hr] at d3)
  have H1 := (h1.set3 true).stop
  have K1 := (k1.trans (KB.setCell b B w1 3 (.bool true))).trans (KB.setCell b B _ 2 (.bool false))
  go_ret2
  exact ⟨rfl, ⟨_, H1⟩, K1⟩

set_option maxRecDepth 1000000 in
set_option maxHeartbeats 2000000 in
theorem take_blank (b B : Nat) (s : ByteArray) (v : Value) (st : Sc) (at_ : Nat) (c : Int) (hlo : 0 ≤ c) (hhi : c ≤ 1114111) (h35 : (c == 35) = false) (hk : kl c = 3) (w : World) (h : ScanAt w b B s v st) (hr : st.remark = false) :
    Calls Tryd.prog 84 #[.pointer (some ⟨b, 0, none⟩), .int .i64 at_, .int .i32 c] w fun e w' => Took b B s w (.ok ⟨st.toks, none, false⟩) e w' := by
  obtain ⟨c0, c1, c2, c3, hf⟩ := h.cells
  rw [hr] at c3
  have HK : Hid (kl c = 3) := hk
  clear hk
  go_enter Tryd.func84, Tryd.ntmps84
  go_wp2_with (go_at_call 86; refine (gclass_b c 3 HK.out _).mono ?_; rintro e w1 ⟨rfl, hb1⟩; obtain ⟨h1, k1⟩ := h.later hb1; obtain ⟨d0, d1, d2, d3, hg⟩ := h1.cells; rw [hr] at d3)
  have H1 := h1.stop
  rw [hr] at H1
  have K1 := k1.trans (KB.setCell b B _ 2 (.bool false))
  go_ret2
  exact ⟨rfl, ⟨_, H1⟩, K1⟩

end Go.Proofs.YtephkdocfhajiaaDoor.Sx

/- A walk over the scan's 'take', continued: marks, names, and what can't be. -/
namespace Go.Proofs.YtephkdocfhajiaaDoor.Sx

open Go.RowKit

set_option linter.unusedVariables false

set_option maxRecDepth 1000000 in
set_option maxHeartbeats 2000000 in
theorem take_other (b B : Nat) (s : ByteArray) (v : Value) (st : Sc) (at_ : Nat) (c K : Int) (hc : isCp c = true) (hlo : 0 ≤ c) (hhi : c ≤ 1114111) (h35 : (c == 35) = false) (hk : kl c = K) (k1 : (K == 1) = false) (k2 : (K == 2) = false) (k3 : (K == 3) = false) (hm : isMark c = false) (w : World) (h : ScanAt w b B s v st) (hr : st.remark = false) :
    Calls Tryd.prog 84 #[.pointer (some ⟨b, 0, none⟩), .int .i64 at_, .int .i32 c] w fun e w' => Took b B s w (.err at_ 10) e w' := by
  obtain ⟨c0, c1, c2, c3, hf⟩ := h.cells
  rw [hr] at c3
  have HK : Hid (kl c = K) := hk
  have HM : Hid (isMark c = false) := hm
  have HC : Hid (isCp c = true) := hc
  clear hk hm hc
  go_enter Tryd.func84, Tryd.ntmps84
  go_wp2_with (first
    | (go_at_call 86; refine (gclass_b c K HK.out _).mono ?_; rintro e w1 ⟨rfl, hb1⟩)
    | (go_at_call 87; refine (has_mark c HC.out _).mono ?_; rintro e w2 ⟨rfl, hb2⟩; rw [HM.out]))
  obtain ⟨h1, k1⟩ := h.later hb1
  obtain ⟨h2, k2⟩ := h1.later hb2
  go_ret2
  exact ⟨rfl, k1.trans k2⟩

set_option maxRecDepth 1000000 in
set_option maxHeartbeats 2000000 in
theorem take_digit (b B : Nat) (s : ByteArray) (v : Value) (st : Sc) (at_ : Nat) (c : Int) (hc : isCp c = true) (hlo : 0 ≤ c) (hhi : c ≤ 1114111) (h35 : (c == 35) = false) (hk : kl c = 2) (hm : isMark c = false) (w : World) (h : ScanAt w b B s v st) (hr : st.remark = false) (hn : st.cur = none) :
    Calls Tryd.prog 84 #[.pointer (some ⟨b, 0, none⟩), .int .i64 at_, .int .i32 c] w fun e w' => Took b B s w (.err at_ 10) e w' := by
  obtain ⟨c0, c1, c2, c3, hf⟩ := h.cells
  rw [hr] at c3
  have HK : Hid (kl c = 2) := hk
  have HM : Hid (isMark c = false) := hm
  have HC : Hid (isCp c = true) := hc
  have HN : Hid (st.cur.isSome = false) := by show _ = _; rw [hn]; rfl
  clear hk hm hc hn
  go_enter Tryd.func84, Tryd.ntmps84
  go_wp2_with (first
    | (go_at_call 86; refine (gclass_b c 2 HK.out _).mono ?_; rintro e w1 ⟨rfl, hb1⟩)
    | (go_at_call 87; refine (has_mark c HC.out _).mono ?_; rintro e w2 ⟨rfl, hb2⟩; rw [HM.out]; obtain ⟨h1, k1⟩ := h.later hb1; obtain ⟨h2, k2⟩ := h1.later hb2; obtain ⟨d0, d1, d2, d3, hg⟩ := h2.cells; rw [HN.out] at d2))
  go_ret2
  exact ⟨rfl, k1.trans k2⟩

set_option maxRecDepth 1000000 in
set_option maxHeartbeats 2000000 in
theorem take_letter (b B : Nat) (s : ByteArray) (v : Value) (st : Sc) (at_ : Nat) (c : Int) (o : Out) (hc : isCp c = true) (hlo : 0 ≤ c) (hhi : c ≤ 1114111) (h35 : (c == 35) = false) (hk : kl c = 1) (hm : isMark c = false) (w : World) (h : ScanAt w b B s v st) (hr : st.remark = false)
    (hs : at_ + (enc c).length ≤ 100000)
    (hl : ∀ w2, ScanAt w2 b B s v st → Calls Tryd.prog 88 #[.pointer (some ⟨b, 0, none⟩), .int .i64 at_, .int .i64 ((at_ + (enc c).length : Nat) : Int)] w2 fun e w' => Took b B s w2 o e w') :
    Calls Tryd.prog 84 #[.pointer (some ⟨b, 0, none⟩), .int .i64 at_, .int .i32 c] w fun e w' => Took b B s w o e w' := by
  obtain ⟨c0, c1, c2, c3, hf⟩ := h.cells
  rw [hr] at c3
  have HK : Hid (kl c = 1) := hk
  have HM : Hid (isMark c = false) := hm
  have HC : Hid (isCp c = true) := hc
  have HW : Hid (wid c = ((enc c).length : Int)) := (enc_len c hc).symm
  have HL : Hid _ := hl
  clear hk hm hc hl
  generalize (enc c).length = k at *
  go_enter Tryd.func84, Tryd.ntmps84
  go_wp2_with (first
    | (go_at_call 86; refine (gclass_b c 1 HK.out _).mono ?_; rintro e w1 ⟨rfl, hb1⟩)
    | (go_at_call 87; refine (has_mark c HC.out _).mono ?_; rintro e w2 ⟨rfl, hb2⟩; rw [HM.out])
    )
  refine (gwidth_any _ _).mono ?_
  rintro e w3 ⟨rfl, hw3⟩
  have hb3 : Below w2.heap.size w2 w3 := by rw [hw3]; exact (Below.refl _ _).alloc (Nat.le_refl _) _
  clear hw3
  rw [HW.out]
  obtain ⟨h1, k1⟩ := h.later hb1
  obtain ⟨h2, k2⟩ := h1.later hb2
  obtain ⟨h3, k3⟩ := h2.later hb3
  go_wp2_with fail
  refine (HL.out _ h3).mono ?_
  rintro e w4 hT
  cases o with
  | ok st' =>
    obtain ⟨rfl, hv, hk⟩ := hT
    have HV : Hid _ := hv
    clear hv
    go_wp2
    go_ret2
    exact ⟨rfl, HV.out, ((k1.trans k2).trans k3).trans hk⟩
  | err p x =>
    obtain ⟨rfl, hk⟩ := hT
    go_wp2
    go_ret2
    exact ⟨rfl, ((k1.trans k2).trans k3).trans hk⟩

set_option maxRecDepth 1000000 in
set_option maxHeartbeats 2000000 in
theorem take_more (b B : Nat) (s : ByteArray) (v : Value) (st : Sc) (at_ : Nat) (c : Int) (o : Out) (hc : isCp c = true) (hlo : 0 ≤ c) (hhi : c ≤ 1114111) (h35 : (c == 35) = false) (hk : kl c = 2) (hm : isMark c = false) (w : World) (h : ScanAt w b B s v st) (hr : st.remark = false) (hn : st.cur.isSome = true)
    (hs : at_ + (enc c).length ≤ 100000)
    (hl : ∀ w2, ScanAt w2 b B s v st → Calls Tryd.prog 88 #[.pointer (some ⟨b, 0, none⟩), .int .i64 at_, .int .i64 ((at_ + (enc c).length : Nat) : Int)] w2 fun e w' => Took b B s w2 o e w') :
    Calls Tryd.prog 84 #[.pointer (some ⟨b, 0, none⟩), .int .i64 at_, .int .i32 c] w fun e w' => Took b B s w o e w' := by
  obtain ⟨c0, c1, c2, c3, hf⟩ := h.cells
  rw [hr] at c3
  have HK : Hid (kl c = 2) := hk
  have HM : Hid (isMark c = false) := hm
  have HC : Hid (isCp c = true) := hc
  have HW : Hid (wid c = ((enc c).length : Int)) := (enc_len c hc).symm
  have HL : Hid _ := hl
  have HN : Hid (st.cur.isSome = true) := hn
  clear hk hm hc hl hn
  generalize (enc c).length = k at *
  go_enter Tryd.func84, Tryd.ntmps84
  go_wp2_with (first
    | (go_at_call 86; refine (gclass_b c 2 HK.out _).mono ?_; rintro e w1 ⟨rfl, hb1⟩)
    | (go_at_call 87; refine (has_mark c HC.out _).mono ?_; rintro e w2 ⟨rfl, hb2⟩; rw [HM.out]; obtain ⟨h1, k1⟩ := h.later hb1; obtain ⟨h2, k2⟩ := h1.later hb2; obtain ⟨d0, d1, d2, d3, hg⟩ := h2.cells; rw [HN.out] at d2)
    )
  refine (gwidth_any _ _).mono ?_
  rintro e w3 ⟨rfl, hw3⟩
  have hb3 : Below w2.heap.size w2 w3 := by rw [hw3]; exact (Below.refl _ _).alloc (Nat.le_refl _) _
  clear hw3
  rw [HW.out]
  obtain ⟨h3, k3⟩ := h2.later hb3
  go_wp2_with fail
  refine (HL.out _ h3).mono ?_
  rintro e w4 hT
  cases o with
  | ok st' =>
    obtain ⟨rfl, hv, hk⟩ := hT
    have HV : Hid _ := hv
    clear hv
    go_wp2
    go_ret2
    exact ⟨rfl, HV.out, ((k1.trans k2).trans k3).trans hk⟩
  | err p x =>
    obtain ⟨rfl, hk⟩ := hT
    go_wp2
    go_ret2
    exact ⟨rfl, ((k1.trans k2).trans k3).trans hk⟩

end Go.Proofs.YtephkdocfhajiaaDoor.Sx

/- A walk over the scan's 'take', the end: marks; and all its ways together. -/
namespace Go.Proofs.YtephkdocfhajiaaDoor.Sx

open Go.RowKit

set_option linter.unusedVariables false

set_option maxRecDepth 1000000 in
set_option maxHeartbeats 2000000 in
theorem take_mark (b B : Nat) (s : ByteArray) (v : Value) (st : Sc) (at_ : Nat) (c : Int) (hc : isCp c = true) (hlo : 0 ≤ c) (hhi : c ≤ 1114111) (h35 : (c == 35) = false) (hk : kl c = 4) (hm : isMark c = true) (w : World) (h : ScanAt w b B s v st) (hr : st.remark = false) (hs : at_ ≤ 100000) (hdl : st.toks.length ≤ 100000) :
    Calls Tryd.prog 84 #[.pointer (some ⟨b, 0, none⟩), .int .i64 at_, .int .i32 c] w fun e w' => Took b B s w (.ok ⟨st.toks ++ [⟨2, enc c, at_⟩], none, false⟩) e w' := by
  obtain ⟨c0, c1, c2, c3, hf⟩ := h.cells
  rw [hr] at c3
  have HK : Hid (kl c = 4) := hk
  have HM : Hid (isMark c = true) := hm
  have HC : Hid (isCp c = true) := hc
  have hcv : ∀ w, (convert 21 9 (.int .i32 c)).run Tryd.prog w = .ok (.string ⟨(enc c).toArray⟩) w := by
    intro w
    rw [run_convert_int_string w 21 9 .i32 c (by kernel_rfl) Tryd.underlying9, encode_cp _ hc]
  clear hk hm hc
  have hlt := h.lt
  generalize enc c = x at *
  go_enter Tryd.func84, Tryd.ntmps84
  go_wp2_with (first
    | (go_at_call 86; refine (gclass_b c 4 HK.out _).mono ?_; rintro e w1 ⟨rfl, hb1⟩)
    | (go_at_call 87; refine (has_mark c HC.out _).mono ?_; rintro e w2 ⟨rfl, hb2⟩; rw [HM.out]; obtain ⟨h1, k1⟩ := h.later hb1; obtain ⟨h2, k2⟩ := h1.later hb2; obtain ⟨d0, d1, d2, d3, hg⟩ := h2.cells; rw [hr] at d3)
    | (at_builtin; refine append_tok rfl _ _ rfl B _ st.toks rfl ((ownsRow_setCell_below h2.own hlt (.bool false)).alloc _) ⟨2, x, at_⟩ ⟨w2.heap.size, 0, none⟩ rfl (cells_set w2 _ _ _ _ _) hdl (by have := h2.le; simp; omega) ?_; intro g cap w3 ho3 hgrow3; obtain ⟨hb3, hk3, hb4, ho4⟩ := scan_push (t := ⟨2, x, at_⟩) h2.stop.blk (ownsRow_setCell_below h2.own hlt (.bool false)) hlt (by have := h2.le; simpa using this) ho3 hgrow3; have e0 := cell_blk hb3 0; have e1 := cell_blk hb3 1; have e2 := cell_blk hb3 2; simp at e0 e1 e2; have hfb : ∀ j, w3.frozen? ⟨b, j, none⟩ = false := fun j => frozen_of_row w3 b j _ 143 hb3))
  have hz3 := hk3.size
  have hle2 := h2.le
  go_ret2
  refine ⟨rfl, ⟨.slice (some ⟨g, 0, none⟩) (st.toks.length + 1) cap, ⟨?_, ?_, hlt, ?_⟩⟩, ((k1.trans k2).trans (KB.setCell b B w2 2 (.bool false))).trans (hk3.trans (KB.setCell b B w3 1 _))⟩
  · have := hb4 (.slice (some ⟨g, 0, none⟩) (st.toks.length + 1) cap)
    rw [hr] at this
    exact this
  · have := ho4 (.slice (some ⟨g, 0, none⟩) (st.toks.length + 1) cap)
    have e : Sc.toks ⟨st.toks ++ [⟨2, x, at_⟩], none, false⟩ = st.toks ++ [⟨2, x, at_⟩] := by simp [Sc.toks, curToks]
    rw [e]
    exact this
  · simp at hz3 ⊢
    omega

theorem take_any (b B : Nat) (s : ByteArray) (v : Value) (st : Sc) (at_ : Nat) (c : Int) (hc : isCp c = true) (w : World) (h : ScanAt w b B s v st) (hs : s.size ≤ 100000) (hat : at_ + (enc c).length ≤ s.size) (hdl : st.toks.length ≤ 100000)
    (hx0 : s.extract at_ (at_ + (enc c).length) = ⟨(enc c).toArray⟩) (hx : ∀ p t, st.cur = some (p, t) → p ≤ at_ ∧ s.extract p (at_ + (enc c).length) = ⟨(t ++ enc c).toArray⟩) :
    Calls Tryd.prog 84 #[.pointer (some ⟨b, 0, none⟩), .int .i64 at_, .int .i32 c] w fun e w' => Took b B s w (stepS st at_ c) e w' := by
  obtain ⟨hlo, hhi, _⟩ := (isCp_iff c).1 hc
  have hep := enc_pos c hc
  have hbeq : ∀ k : Int, c ≠ k → (c == k) = false := fun k hk => by rw [beq_eq_false_iff_ne]; exact hk
  have hdone : st.done.length ≤ 100000 := by
    have : st.toks.length = st.done.length + (curToks st.cur).length := by simp [Sc.toks]
    omega
  have hlet : st.remark = false → ∀ w2, ScanAt w2 b B s v st → Calls Tryd.prog 88 #[.pointer (some ⟨b, 0, none⟩), .int .i64 at_, .int .i64 ((at_ + (enc c).length : Nat) : Int)] w2 fun e w' => Took b B s w2 (letterS st at_ c) e w' := by
    intro hr w2 h2
    obtain ⟨done, cur, rem⟩ := st
    simp only at hr hx hdone
    subst hr
    cases cur with
    | none => exact letter_new b B s v done (enc c) at_ (enc c).length w2 h2 hs hat hep.2 hdone hx0
    | some q =>
      obtain ⟨p, t⟩ := q
      obtain ⟨hp, hxx⟩ := hx p t rfl
      unfold letterS
      simp only
      by_cases hbig : p + 24 < at_ + (enc c).length
      · rw [if_pos hbig]
        exact letter_big b B s v done p t at_ (enc c).length w2 h2 (by omega) (by omega) hbig hdone
      · rw [if_neg hbig]
        exact letter_more b B s v done p t (t ++ enc c) at_ (enc c).length w2 h2 (by omega) hs hat hbig hdone hxx
  unfold stepS
  split
  · rename_i hr
    exact take_remark b B s v st at_ c w h hr
  rename_i hr
  have hr : st.remark = false := by simpa using hr
  split
  · rename_i h35
    exact take_open b B s v st at_ c h35 w h hr
  rename_i h35
  split
  · rename_i h3
    exact take_blank b B s v st at_ c hlo hhi (hbeq 35 h35) h3 w h hr
  rename_i h3
  split
  · rename_i hm
    exact take_mark b B s v st at_ c hc hlo hhi (hbeq 35 h35) (kl_mark c hm).1 hm w h hr (by omega) hdl
  rename_i hm
  have hm : isMark c = false := by simpa using hm
  split
  · rename_i h2
    split
    · rename_i hn
      exact take_digit b B s v st at_ c hc hlo hhi (hbeq 35 h35) h2 hm w h hr hn
    · rename_i q hn
      exact take_more b B s v st at_ c _ hc hlo hhi (hbeq 35 h35) h2 hm w h hr (by rw [hn]; rfl) (by omega) (hlet hr)
  rename_i h2
  split
  · rename_i h1
    exact take_letter b B s v st at_ c _ hc hlo hhi (hbeq 35 h35) h1 hm w h hr (by omega) (hlet hr)
  · rename_i h1
    exact take_other b B s v st at_ c (kl c) hc hlo hhi (hbeq 35 h35) rfl (by rw [beq_eq_false_iff_ne]; exact h1) (by rw [beq_eq_false_iff_ne]; exact h2) (by rw [beq_eq_false_iff_ne]; exact h3) hm w h hr

end Go.Proofs.YtephkdocfhajiaaDoor.Sx

