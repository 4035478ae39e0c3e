/- A walk over the scan's 'letter'. -/
import Derived.Test.YtchdecoceokcmaaWM
import Derived.Deep.RegionWith
namespace Go.Proofs.Ytchdecoceokcmaa
open Go.RowKit
set_option linter.unusedVariables false

set_option maxRecDepth 1000000 in
set_option maxHeartbeats 1000000 in
theorem letter_big (b B : Nat) (s : ByteArray) (v : Value) (done : List Tok) (p : Nat) (t : List UInt8) (at_ k : Nat) (w : World) (h : ScanAt w b B s v ⟨done, some (p, t), false⟩) (hpa : p ≤ 100000) (hat : at_ + k ≤ 100000) (hbig : p + 24 < at_ + k) (hdl : done.length ≤ 100000) :
    Calls Try.prog 33 #[.pointer (some ⟨b, 0, none⟩), .int .i64 at_, .int .i64 ((at_ + k : Nat) : Int)] w fun e w' => e = .returned (.tuple #[.int .i64 p, .int .i64 5]) ∧ KB b B w w' := by
  obtain ⟨hblk, hown, hlt, hle⟩ := h
  have hkb := KB.refl b B w
  obtain ⟨g, cap, rfl, hBg, hgz, hcap, hcm, c0, c1, c2, hf⟩ := last_tok (l := done) (t := ⟨1, t, p⟩) hown
  have d0 := cell_blk hblk 0
  have d1 := cell_blk hblk 1
  have d2 := cell_blk hblk 2
  simp at d0 d1 d2
  generalize done.length = n at *
  generalize at_ + k = q at *
  go_enter Try.func33, Try.ntmps33
  go_wp2
  go_quiet (fail)
  go_wp2
  go_ret2
  exact ⟨rfl, hkb.drewN _⟩

theorem scan_text {w : World} {b B g cap : Nat} {s : ByteArray} {done : List Tok} {p : Nat} {t : List UInt8} (x : List UInt8) (m : Nat)
    (h : ScanAt w b B s (.slice (some ⟨g, 0, none⟩) (done.length + 1) cap) ⟨done, some (p, t), false⟩) (hg : B ≤ g) :
    ScanAt ((w.drewN m).setCell ⟨g, done.length * 3 + 1, none⟩ (.string ⟨x.toArray⟩)) b B s (.slice (some ⟨g, 0, none⟩) (done.length + 1) cap) ⟨done, some (p, x), false⟩ ∧
      KB b B w ((w.drewN m).setCell ⟨g, done.length * 3 + 1, none⟩ (.string ⟨x.toArray⟩)) := by
  obtain ⟨hblk, hown, hlt, hle⟩ := h
  have hown2 : (w.drewN m).ownsRow B 38 3 (.slice (some ⟨g, 0, none⟩) (done.length + 1) cap) (done ++ [(⟨1, t, p⟩ : Tok)]).length (tvs (done ++ [⟨1, t, p⟩])) := hown
  refine ⟨⟨?_, ?_, hlt, by simpa using hle⟩, ?_⟩
  · rw [heap_setCell_other _ _ _ _ (by show b ≠ g; omega)]
    exact hblk
  · exact set_text x hown2
  · exact ((KB.refl b B w).drewN m).trans (KB.setFar _ g _ _ hg)

set_option maxRecDepth 1000000 in
set_option maxHeartbeats 2000000 in
theorem letter_more (b B : Nat) (s : ByteArray) (v : Value) (done : List Tok) (p : Nat) (t x : List UInt8) (at_ k : Nat) (w : World) (h : ScanAt w b B s v ⟨done, some (p, t), false⟩) (hpa : p ≤ at_ + k) (hs : s.size ≤ 100000) (hat : at_ + k ≤ s.size) (hbig : ¬ p + 24 < at_ + k) (hdl : done.length ≤ 100000) (hx : s.extract p (at_ + k) = ⟨x.toArray⟩) :
    Calls Try.prog 33 #[.pointer (some ⟨b, 0, none⟩), .int .i64 at_, .int .i64 ((at_ + k : Nat) : Int)] w fun e w' => e = .returned (.tuple #[.int .i64 0, .int .i64 0]) ∧ (∃ v', ScanAt w' b B s v' ⟨done, some (p, x), false⟩) ∧ KB b B w w' := by
  have h0 := h
  obtain ⟨hblk, hown, hlt, hle⟩ := h
  obtain ⟨g, cap, rfl, hBg, hgz, hcap, hcm, c0, c1, c2, hf⟩ := last_tok (l := done) (t := ⟨1, t, p⟩) hown
  have HF : Hid _ := fun m => scan_text x m h0 hBg
  have HX : Hid (s.extract p (at_ + k) = ⟨x.toArray⟩) := hx
  have d0 := cell_blk hblk 0
  have d1 := cell_blk hblk 1
  have d2 := cell_blk hblk 2
  simp at d0 d1 d2
  have hne : b ≠ g := by omega
  clear hblk hown hx h0
  generalize done.length = n at *
  generalize hq : at_ + k = q at *
  clear hq
  go_enter Try.func33, Try.ntmps33
  go_wp2
  go_quiet (fail)
  go_wp2
  go_region
  go_wp2
  go_ret2
  rw [HX.out]
  exact ⟨rfl, ⟨_, (HF.out _).1⟩, (HF.out _).2⟩

set_option maxRecDepth 1000000 in
set_option maxHeartbeats 2000000 in
theorem letter_new (b B : Nat) (s : ByteArray) (v : Value) (done : List Tok) (x : List UInt8) (at_ k : Nat) (w : World) (h : ScanAt w b B s v ⟨done, none, false⟩) (hs : s.size ≤ 100000) (hat : at_ + k ≤ s.size) (hk : k ≤ 4) (hdl : done.length ≤ 100000) (hx : s.extract at_ (at_ + k) = ⟨x.toArray⟩) :
    Calls Try.prog 33 #[.pointer (some ⟨b, 0, none⟩), .int .i64 at_, .int .i64 ((at_ + k : Nat) : Int)] w fun e w' => e = .returned (.tuple #[.int .i64 0, .int .i64 0]) ∧ (∃ v', ScanAt w' b B s v' ⟨done, some (at_, x), false⟩) ∧ KB b B w w' := by
  have h0 := h
  obtain ⟨hblk, hown, hlt, hle⟩ := h
  have hown : w.ownsRow B 38 3 v done.length (tvs done) := by simpa [Sc.toks, curToks] using hown
  have d0 := cell_blk hblk 0
  have d1 := cell_blk hblk 1
  have d2 := cell_blk hblk 2
  simp at d0 d1 d2
  have hf : ∀ j, w.frozen? ⟨b, j, none⟩ = false := fun j => frozen_of_row w b j _ 46 hblk
  have hblk1 : (w.setCell ⟨b, 2, none⟩ (.bool true)).heap[b]? = some (.cells #[.string s, v, .bool true, .bool false] 46 (0, 0)) := heap_setCell_same w b 2 _ 46 _ hblk
  have hown1 : (w.setCell ⟨b, 2, none⟩ (.bool true)).ownsRow B 38 3 v done.length (tvs done) := ownsRow_setCell_below hown hlt _
  have hkb1 : KB b B w (w.setCell ⟨b, 2, none⟩ (.bool true)) := KB.setCell b B w 2 _
  have hcells : ∀ x y z, ∀ j u, [x, y, z][j]? = some u → ((w.setCell ⟨b, 2, none⟩ (.bool true)).alloc (.cells #[x, y, z] 38)).cell? ((⟨w.heap.size, 0, none⟩ : Addr).add j) = some u := by
    intro x y z j u hj
    have h := cells3 (w.setCell ⟨b, 2, none⟩ (.bool true)) x y z 38 j u hj
    rwa [World.size_setCell] at h
  have HC : Hid _ := hcells
  have HB1 : Hid (_ = _) := hblk1
  clear hcells hblk1
  go_enter Try.func33, Try.ntmps33
  go_wp2_with (at_builtin; refine append_tok rfl _ _ rfl B _ done rfl (hown1.alloc _) ⟨1, [], at_⟩ ⟨w.heap.size, 0, none⟩ rfl (HC.out _ _ _) hdl (by simp; omega) ?_; intro g cap w3 ho3 hgrow3; obtain ⟨hb3, hk3, hb4, ho4⟩ := scan_push (t := ⟨1, [], at_⟩) HB1.out hown1 hlt (by simpa using hle) ho3 hgrow3; obtain ⟨hBg, hgz, hcap, hcm, c0, c1, c2, hf3⟩ := last_at ho3; have e0 := cell_blk hb3 0; have e1 := cell_blk hb3 1; have e2 := cell_blk hb3 2; simp at e0 e1 e2; have hfb : ∀ j, w3.frozen? ⟨b, j, none⟩ = false := fun j => frozen_of_row w3 b j _ 46 hb3; have hne : b ≠ g := by omega)
  have hsz3 : B ≤ w3.heap.size := by omega
  have H4 : ScanAt (w3.setCell ⟨b, 1, none⟩ (.slice (some ⟨g, 0, none⟩) (done.length + 1) cap)) b B s (.slice (some ⟨g, 0, none⟩) (done.length + 1) cap) ⟨done, some (at_, []), false⟩ := ⟨hb4 _, ho4 _, hlt, by simpa using hsz3⟩
  have K4 : KB b B w (w3.setCell ⟨b, 1, none⟩ (.slice (some ⟨g, 0, none⟩) (done.length + 1) cap)) := hkb1.trans (hk3.trans (KB.setCell b B w3 1 _))
  have HF : Hid _ := fun m => scan_text x m H4 hBg
  have HX : Hid (s.extract at_ (at_ + k) = ⟨x.toArray⟩) := hx
  clear hb4 ho4 ho3 hgrow3 hk3 hb3 HB1 hown1 hkb1 HC hblk hown d0 d1 d2 hf hx e0 e1 e2 c0 c1 c2 hf3 hfb h0
  have K4 : Hid _ := K4
  generalize w3.setCell ⟨b, 1, none⟩ (.slice (some ⟨g, 0, none⟩) (done.length + 1) cap) = W4 at *
  obtain ⟨hblk, hown, _, hle4⟩ := H4
  obtain ⟨_, hgz4, _, _, c0, c1, c2, hf⟩ := last_at (l := done) (t := ⟨1, [], at_⟩) hown
  have d0 := cell_blk hblk 0
  have d1 := cell_blk hblk 1
  have d2 := cell_blk hblk 2
  simp at d0 d1 d2
  simp only at c0 c1 c2
  clear hblk hown
  generalize done.length = n at *
  go_quiet (fail)
  go_wp2
  go_region
  go_wp2
  go_ret2
  rw [HX.out]
  exact ⟨rfl, ⟨_, (HF.out _).1⟩, K4.out.trans (HF.out _).2⟩
end Go.Proofs.Ytchdecoceokcmaa
