/- Texts of the seat, packed: Gm Gl. -/
import Derived.Test.YtijkgdbabikojaaGreatP23
import Derived.Test.YtijkgdbabikojaaGreatP19
import Derived.Test.YtijkgdbabikojaaGreatP15
/- The walk over branch.Append. -/
namespace Go.Proofs.YtijkgdbabikojaaGreat
open Go.RowKit
open Dk (DS DK Okay Small WR Kp cutP appendP syncP hasB hasB_true)
set_option maxRecDepth 1000000
set_option linter.unusedVariables false

/-- What Append makes of a disk. -/
def appP (S : DS) (i : Int) (e : Ev) : Int × DS :=
  if hasN S.n i = true ∧ okE e = true ∧ e.s.length = S.n - 1 then appendP S i (Fr.frameP (encE e)) else (2, S)

theorem enc_len2 {e : Ev} (h : okE e = true) : (encE e).length ≤ 1024 := enc_frame h

set_option maxHeartbeats 4000000 in
theorem append_br (T : Nat → Prop) (w : World) (p : Nat) (S : DS) (i : Int) (ev : Ev) (a : Option Addr) (c : Nat) (hd : DK T w p S) (ho : Okay S) (hs : Small 1000000 100000000000 S) (hv : RI w (.slice a ev.s.length c) ev.s) (hn : ev.s.length ≤ 1000000) :
    Calls Tryz.prog 9 #[.pointer (some ⟨p, 0, none⟩), .int .i64 i, EvV ev (.slice a ev.s.length c)] w (WR T w p (appP S i ev)) := by
  have hfew := ho.few
  have hpos := ho.pos
  have HHT : Hid (∀ k, T k → k < w.heap.size) := hd.live
  obtain ⟨w0, HW0⟩ : ∃ w0, Hid (w.alloc (.cells #[.int .i64 ev.k, .int .i64 ev.i, .int .i64 ev.t, .slice a ev.s.length c] 33) = w0) := ⟨_, rfl⟩
  have hb0 : Below w.heap.size w w0 := by rw [← HW0.out]; exact (Below.refl _ _).alloc (Nat.le_refl _) _
  have HBX : Hid (Box w0 w.heap.size ev.k ev.i ev.t (.slice a ev.s.length c)) := by show Box _ _ _ _ _ _; rw [← HW0.out]; exact Box.new w _ _ _ _
  have HB0 : Hid _ := hb0
  have hC := cnt_dk hd ho
  have HM : Hid _ := made_br _ _ w0 (hC.later hb0) hfew
  have HBy : Hid (∀ wx, Below w.heap.size w wx → Calls Tryz.prog 37 #[.agg #[.int .i64 ev.k, .int .i64 ev.i, .int .i64 ev.t, .slice a ev.s.length c]] wx fun x w' => ∃ v c, x = .returned (.tuple #[.slice v (bytE ev).length c, .int .i64 (evE ev : Nat)]) ∧ RB w' (.slice v (bytE ev).length c) (bytE ev) ∧ Below wx.heap.size wx w') := fun wx hb => bytes_ev ev _ wx (hv.later hb) hn
  have HHs : Hid (∀ wx, Below w.heap.size w wx → Calls Tryz.prog 38 #[.pointer (some ⟨p, 0, none⟩), .int .i64 i] wx fun e w' => e = .returned (.bool (hasN S.n i)) ∧ Below wx.heap.size wx w') := fun wx hb => has_br _ _ i wx (hC.later hb) hfew
  have HBr : Hid (∀ wx, Below w.heap.size w wx → Calls Tryz.prog 39 #[.pointer (some ⟨p, 0, none⟩)] wx fun e w' => e = .returned (.int .i64 ((S.n : Int) - 1)) ∧ Below wx.heap.size wx w') := fun wx hb => branches_any _ _ wx (hC.later hb) hfew
  have HAp : Hid (∀ (xv : Value) (l : List UInt8) (wx : World), Below w.heap.size w wx → RB wx xv l → l.length ≤ 1000000 → (∀ a n c, xv = .slice (some a) n c → w.heap.size ≤ a.block) → Calls Tryz.prog 24 #[.pointer (some ⟨p, 0, none⟩), .int .i64 i, xv] wx (WR T wx p (appendP S i l))) := fun xv l wx hb hx h1 h2 => Dk.append_any T wx p S i xv l (hd.later hb) ho (Dk.small_mono hs (by omega) (by omega)) hx (by omega) (fun a n c he ht => by have := HHT.out _ ht; have := h2 a n c he; omega)
  have HD : Hid _ := hd
  have hd0 : decide (0 < S.n) = true := decide_eq_true (by omega)
  rw [hd0] at HM
  obtain ⟨RES, HRES⟩ : ∃ RES, Hid (RES = appP S i ev) := ⟨_, rfl⟩
  rw [← HRES.out]
  unfold appP at HRES
  unfold EvV
  obtain ⟨ek, Hek⟩ : ∃ z, Hid (ev.k = z) := ⟨_, rfl⟩
  obtain ⟨ei, Hei⟩ : ∃ z, Hid (ev.i = z) := ⟨_, rfl⟩
  obtain ⟨et, Het⟩ : ∃ z, Hid (ev.t = z) := ⟨_, rfl⟩
  obtain ⟨en, Hen⟩ : ∃ z, Hid (ev.s.length = z) := ⟨_, rfl⟩
  obtain ⟨N, HN⟩ : ∃ N, Hid ((S.n : Int) - 1 = N) := ⟨_, rfl⟩
  obtain ⟨hq, Hhq⟩ : ∃ q, Hid (hasN S.n i = q) := ⟨_, rfl⟩
  obtain ⟨by_, Hby⟩ : ∃ q, Hid (bytE ev = q) := ⟨_, rfl⟩
  obtain ⟨er, Her⟩ : ∃ q, Hid (evE ev = q) := ⟨_, rfl⟩
  rw [Hek.out, Hei.out, Het.out, Hen.out] at HW0 HBX HBy ⊢
  rw [HN.out] at HBr
  rw [Hhq.out] at HHs HRES
  rw [Hby.out, Her.out] at HBy
  have hen : en ≤ 1000000 := by have := Hen.out; omega
  rw [Hen.out] at HRES
  clear hd hd0 hC hb0 hv hs hn
  go_enter Tryz.func9, Tryz.ntmps9
  go_wp2_with fail
  rw [HW0.out]
  refine Calls.mono HM.out ?_
  rintro e w1 ⟨rfl, hb1⟩
  have HB1 : Hid _ := HB0.out.trans (hb1.mono HB0.out.size)
  have bx1 := HBX.out.later hb1
  have z0 := bx1.c0
  have z1 := bx1.c1
  have z2 := bx1.c2
  have z3 := bx1.c3
  have HX1 : Hid _ := bx1
  have H1 : Hid _ := HBy.out w1 HB1.out
  clear hb1 HM bx1
  go_wp2_with fail
  refine Calls.mono H1.out ?_
  rintro e w2 ⟨va, vc, rfl, hrb, hb2⟩
  have HB2 : Hid _ := HB1.out.trans (hb2.mono HB1.out.size)
  have HX2 : Hid _ := Box.later HX1.out hb2
  have HRB : Hid _ := hrb
  clear hb2 H1 hrb z0 z1 z2 z3
  go_wp2_with fail
  have HH2 : Hid (∀ wx, Below w2.heap.size w2 wx → Calls Tryz.prog 38 #[.pointer (some ⟨p, 0, none⟩), .int .i64 i] wx fun e w' => e = .returned (.bool hq) ∧ Below w2.heap.size w2 w') := fun wx h => Calls.mono (HHs.out wx (HB2.out.trans (h.mono HB2.out.size))) (fun e w' h2 => ⟨h2.1, h.trans (h2.2.mono h.size)⟩)
  have HB3 : Hid (∀ wx, Below w2.heap.size w2 wx → Calls Tryz.prog 39 #[.pointer (some ⟨p, 0, none⟩)] wx fun e w' => e = .returned (.int .i64 N) ∧ Below w2.heap.size w2 w') := fun wx h => Calls.mono (HBr.out wx (HB2.out.trans (h.mono HB2.out.size))) (fun e w' h2 => ⟨h2.1, h.trans (h2.2.mono h.size)⟩)
  have HCE : Hid (∀ wx, Below w2.heap.size w2 wx → wx.cell? ⟨w.heap.size, 3, none⟩ = some (.slice a en c)) := fun wx h => (Box.later HX2.out h).c3
  have HEV : Hid (er = if okE ev = true then 0 else 2) := Her.out.symm
  have HNN : Hid (N = (S.n : Int) - 1) := HN.out.symm
  clear HHs HBr Her HN Hhq
  cases hq with
  | false =>
    rw [if_neg (fun h => by cases h.1)] at HRES
    refine wp_mono (Q := fun e a' w' => e = Exit.normal ∧ Below w2.heap.size w2 w' ∧ ∃ z18 z19 z20 z21 z22 z23 z24 z25 z26 z27 z28 z29 z30 z31 z32 : Value, a' = { tmps := #[.pointer (some ⟨p, 0, none⟩), .int .i64 i, .agg #[.int .i64 ek, .int .i64 ei, .int .i64 et, .slice a en c], undef, undef, .pointer (some ⟨w.heap.size, 0, none⟩), .int .i64 0, .slice va by_.length vc, .int .i64 (er : Nat), undef, .pointer (some ⟨p, 0, none⟩), .bool true, .bool false, .tuple #[.slice va by_.length vc, .int .i64 (er : Nat)], .agg #[.int .i64 ek, .int .i64 ei, .int .i64 et, .slice a en c], .tuple #[.slice va by_.length vc, .int .i64 (er : Nat)], .slice va by_.length vc, .int .i64 (er : Nat), z18, z19, z20, z21, z22, z23, z24, z25, z26, z27, z28, z29, z30, z31, z32, .bool true, undef, undef, undef, undef, undef, undef, undef, undef, undef, undef, undef, undef], defers := [] }) (wp_region_held (S := fun wx => Below w2.heap.size w2 wx) (by kernel_rfl) ?_) ?_
    · simp only [List.size_toArray, List.length_cons, List.length_nil, Nat.reduceAdd, Array.replicate_succ, Array.replicate_zero, List.push_toArray, List.nil_append, List.cons_append]
      have hS0 : Below w2.heap.size w2 w2.drew := (Below.refl _ _).drew
      refine takeD (i := 0) (d := 18) (v := .pointer (some ⟨p, 0, none⟩)) (fuel := 15) rfl rfl (by kernel_rfl) (by kernel_rfl) (by kernel_rfl) (fun _ _ _ h => by cases h.1) (.inl ⟨by kernel_rfl, fun _ _ => by kernel_rfl⟩) hS0 ?_
      simp only [List.setIfInBounds_toArray, List.set_cons_succ, List.set_cons_zero]
      refine takeD (i := 1) (d := 19) (v := .int .i64 i) (fuel := 14) rfl rfl (by kernel_rfl) (by kernel_rfl) (by kernel_rfl) (fun _ _ _ h => by cases h.1) (.inl ⟨by kernel_rfl, fun _ _ => by kernel_rfl⟩) hS0 ?_
      simp only [List.setIfInBounds_toArray, List.set_cons_succ, List.set_cons_zero]
      refine oneC (i := 2) (d := 20) (f := 38) (args := #[.pointer (some ⟨p, 0, none⟩), .int .i64 i]) (v := .bool false) (fuel := 13) rfl rfl (by kernel_rfl) (by kernel_rfl) (fun _ => by kernel_rfl) hS0 (fun wx h => (HH2.out wx h)) (fun wz hS0 => ?_)
      simp only [List.setIfInBounds_toArray, List.set_cons_succ, List.set_cons_zero]
      refine takeD (i := 3) (d := 21) (v := .bool true) (fuel := 12) rfl rfl (by kernel_rfl) (by kernel_rfl) (by kernel_rfl) (fun _ _ _ h => by cases h.1) (.inl ⟨by kernel_rfl, fun _ _ => by kernel_rfl⟩) hS0 ?_
      simp only [List.setIfInBounds_toArray, List.set_cons_succ, List.set_cons_zero]
      refine takeD (i := 4) (d := 22) (v := .bool true) (fuel := 11) rfl rfl (by kernel_rfl) (by kernel_rfl) (by kernel_rfl) (fun _ _ _ h => by cases h.1) (.inl ⟨by kernel_rfl, fun _ _ => by kernel_rfl⟩) hS0 ?_
      simp only [List.setIfInBounds_toArray, List.set_cons_succ, List.set_cons_zero]
      refine takeD (i := 5) (d := 23) (v := undef) (fuel := 10) rfl rfl (by kernel_rfl) (by kernel_rfl) (by kernel_rfl) (fun _ _ _ h => by cases h.1) (.inr ⟨by kernel_rfl, rfl⟩) hS0 ?_
      simp only [List.setIfInBounds_toArray, List.set_cons_succ, List.set_cons_zero]
      refine takeD (i := 6) (d := 24) (v := undef) (fuel := 9) rfl rfl (by kernel_rfl) (by kernel_rfl) (by kernel_rfl) (fun _ _ _ h => by cases h.1) (.inr ⟨by kernel_rfl, rfl⟩) hS0 ?_
      simp only [List.setIfInBounds_toArray, List.set_cons_succ, List.set_cons_zero]
      refine takeD (i := 7) (d := 25) (v := .bool true) (fuel := 8) rfl rfl (by kernel_rfl) (by kernel_rfl) (by kernel_rfl) (fun _ _ _ h => by cases h.1) (.inl ⟨by kernel_rfl, fun _ _ => by kernel_rfl⟩) hS0 ?_
      simp only [List.setIfInBounds_toArray, List.set_cons_succ, List.set_cons_zero]
      refine takeD (i := 8) (d := 26) (v := .bool true) (fuel := 7) rfl rfl (by kernel_rfl) (by kernel_rfl) (by kernel_rfl) (fun _ _ _ h => by cases h.1) (.inl ⟨by kernel_rfl, fun _ _ => by kernel_rfl⟩) hS0 ?_
      simp only [List.setIfInBounds_toArray, List.set_cons_succ, List.set_cons_zero]
      refine takeD (i := 9) (d := 27) (v := undef) (fuel := 6) rfl rfl (by kernel_rfl) (by kernel_rfl) (by kernel_rfl) (fun _ _ _ h => by cases h.1) (.inr ⟨by kernel_rfl, rfl⟩) hS0 ?_
      simp only [List.setIfInBounds_toArray, List.set_cons_succ, List.set_cons_zero]
      refine takeD (i := 10) (d := 28) (v := undef) (fuel := 5) rfl rfl (by kernel_rfl) (by kernel_rfl) (by kernel_rfl) (fun _ _ _ h => by cases h.1) (.inr ⟨by kernel_rfl, rfl⟩) hS0 ?_
      simp only [List.setIfInBounds_toArray, List.set_cons_succ, List.set_cons_zero]
      refine takeD (i := 11) (d := 29) (v := undef) (fuel := 4) rfl rfl (by kernel_rfl) (by kernel_rfl) (by kernel_rfl) (fun _ _ _ h => by cases h.1) (.inr ⟨by kernel_rfl, rfl⟩) hS0 ?_
      simp only [List.setIfInBounds_toArray, List.set_cons_succ, List.set_cons_zero]
      refine takeD (i := 12) (d := 30) (v := undef) (fuel := 3) rfl rfl (by kernel_rfl) (by kernel_rfl) (by kernel_rfl) (fun _ _ _ h => by cases h.1) (.inr ⟨by kernel_rfl, rfl⟩) hS0 ?_
      simp only [List.setIfInBounds_toArray, List.set_cons_succ, List.set_cons_zero]
      refine wpAnyH_all (fuel := 2) (rs := [13]) (by kernel_rfl) (by decide) (List.forall_mem_singleton.2 ?_)
      refine wpOp_un (i := 13) (d := 31) rfl rfl (by kernel_rfl) ⟨hS0, ?_⟩
      simp only [List.setIfInBounds_toArray, List.set_cons_succ, List.set_cons_zero]
      refine takeD (i := 14) (d := 32) (v := undef) (fuel := 1) rfl rfl (by kernel_rfl) (by kernel_rfl) (by kernel_rfl) (fun _ _ _ h => by cases h.1) (.inr ⟨by kernel_rfl, rfl⟩) hS0 ?_
      simp only [List.setIfInBounds_toArray, List.set_cons_succ, List.set_cons_zero]
      refine takeD (i := 15) (d := 33) (v := .bool true) (fuel := 0) rfl rfl (by kernel_rfl) (by kernel_rfl) (by kernel_rfl) (fun _ _ _ h => by cases h.1) (.inl ⟨by kernel_rfl, fun _ _ => by kernel_rfl⟩) hS0 ?_
      simp only [List.setIfInBounds_toArray, List.set_cons_succ, List.set_cons_zero]
      refine wpAnyH_done (by kernel_rfl) ?_ _
      exact ⟨rfl, hS0, _, _, _, _, _, _, _, _, _, _, _, _, _, _, _, rfl⟩
    · rintro e a' w3 ⟨rfl, hb3, z18, z19, z20, z21, z22, z23, z24, z25, z26, z27, z28, z29, z30, z31, z32, rfl⟩
      have HB3' : Hid _ := HB2.out.trans (hb3.mono HB2.out.size)
      clear hb3
      go_wp2_with fail
      go_ret
      rw [HRES.out]
      exact WR.none HD.out HB3'.out
  | true =>
    by_cases hok : okE ev = true
    · have her : er = 0 := by rw [HEV.out, if_pos hok]
      have her2 : ((er : Int) != 0) = false := by simp [her]
      have HBYL : Hid (by_.length ≤ 1024) := by show _ ≤ _; rw [← Hby.out]; unfold bytE; rw [if_pos hok]; exact enc_frame hok
      have HBYE : Hid (encE ev = by_) := by show _ = _; rw [← Hby.out]; unfold bytE; rw [if_pos hok]
      rw [HBYE.out] at HRES
      clear her
      by_cases hl : en = S.n - 1
      · have hl2 : ((en : Int) != N) = false := by rw [HNN.out]; simp; omega
        rw [if_pos ⟨rfl, hok, hl⟩] at HRES
        clear hl
        refine wp_mono (Q := fun e a' w' => e = Exit.normal ∧ Below w2.heap.size w2 w' ∧ ∃ z18 z19 z20 z21 z22 z23 z24 z25 z26 z27 z28 z29 z30 z31 z32 : Value, a' = { tmps := #[.pointer (some ⟨p, 0, none⟩), .int .i64 i, .agg #[.int .i64 ek, .int .i64 ei, .int .i64 et, .slice a en c], undef, undef, .pointer (some ⟨w.heap.size, 0, none⟩), .int .i64 0, .slice va by_.length vc, .int .i64 (er : Nat), undef, .pointer (some ⟨p, 0, none⟩), .bool true, .bool false, .tuple #[.slice va by_.length vc, .int .i64 (er : Nat)], .agg #[.int .i64 ek, .int .i64 ei, .int .i64 et, .slice a en c], .tuple #[.slice va by_.length vc, .int .i64 (er : Nat)], .slice va by_.length vc, .int .i64 (er : Nat), z18, z19, z20, z21, z22, z23, z24, z25, z26, z27, z28, z29, z30, z31, z32, .bool false, undef, undef, undef, undef, undef, undef, undef, undef, undef, undef, undef, undef], defers := [] }) (wp_region_held (S := fun wx => Below w2.heap.size w2 wx) (by kernel_rfl) ?_) ?_
        · simp only [List.size_toArray, List.length_cons, List.length_nil, Nat.reduceAdd, Array.replicate_succ, Array.replicate_zero, List.push_toArray, List.nil_append, List.cons_append]
          have hS0 : Below w2.heap.size w2 w2.drew := (Below.refl _ _).drew
          refine takeD (i := 0) (d := 18) (v := .pointer (some ⟨p, 0, none⟩)) (fuel := 15) rfl rfl (by kernel_rfl) (by kernel_rfl) (by kernel_rfl) (fun _ _ _ h => by cases h.1) (.inl ⟨by kernel_rfl, fun _ _ => by kernel_rfl⟩) hS0 ?_
          simp only [List.setIfInBounds_toArray, List.set_cons_succ, List.set_cons_zero]
          refine takeD (i := 1) (d := 19) (v := .int .i64 i) (fuel := 14) rfl rfl (by kernel_rfl) (by kernel_rfl) (by kernel_rfl) (fun _ _ _ h => by cases h.1) (.inl ⟨by kernel_rfl, fun _ _ => by kernel_rfl⟩) hS0 ?_
          simp only [List.setIfInBounds_toArray, List.set_cons_succ, List.set_cons_zero]
          refine oneC (i := 2) (d := 20) (f := 38) (args := #[.pointer (some ⟨p, 0, none⟩), .int .i64 i]) (v := .bool true) (fuel := 13) rfl rfl (by kernel_rfl) (by kernel_rfl) (fun _ => by kernel_rfl) hS0 (fun wx h => (HH2.out wx h)) (fun wz hS0 => ?_)
          simp only [List.setIfInBounds_toArray, List.set_cons_succ, List.set_cons_zero]
          refine takeD (i := 3) (d := 21) (v := .bool false) (fuel := 12) rfl rfl (by kernel_rfl) (by kernel_rfl) (by kernel_rfl) (fun _ _ _ h => by cases h.1) (.inl ⟨by kernel_rfl, fun _ _ => by kernel_rfl⟩) hS0 ?_
          simp only [List.setIfInBounds_toArray, List.set_cons_succ, List.set_cons_zero]
          refine takeD (i := 4) (d := 22) (v := .bool false) (fuel := 11) rfl rfl (by kernel_rfl) (by kernel_rfl) (by kernel_rfl) (fun _ _ _ h => by cases h.1) (.inl ⟨by kernel_rfl, fun _ _ => by kernel_rfl⟩) hS0 ?_
          simp only [List.setIfInBounds_toArray, List.set_cons_succ, List.set_cons_zero]
          refine takeD (i := 5) (d := 23) (v := .int .i64 (er : Nat)) (fuel := 10) rfl rfl (by kernel_rfl) (by kernel_rfl) (by kernel_rfl) (fun _ _ _ h => by cases h.1) (.inl ⟨by kernel_rfl, fun _ _ => by kernel_rfl⟩) hS0 ?_
          simp only [List.setIfInBounds_toArray, List.set_cons_succ, List.set_cons_zero]
          refine takeD (i := 6) (d := 24) (v := .bool false) (fuel := 9) rfl rfl (by kernel_rfl) (by kernel_rfl) (by kernel_rfl) (fun _ _ _ h => by cases h.1) (.inl ⟨by kernel_rfl, fun _ _ => by go_simp⟩) hS0 ?_
          simp only [List.setIfInBounds_toArray, List.set_cons_succ, List.set_cons_zero]
          refine takeD (i := 7) (d := 25) (v := .bool false) (fuel := 8) rfl rfl (by kernel_rfl) (by kernel_rfl) (by kernel_rfl) (fun _ _ _ h => by cases h.1) (.inl ⟨by kernel_rfl, fun _ _ => by kernel_rfl⟩) hS0 ?_
          simp only [List.setIfInBounds_toArray, List.set_cons_succ, List.set_cons_zero]
          refine takeD (i := 8) (d := 26) (v := .bool false) (fuel := 7) rfl rfl (by kernel_rfl) (by kernel_rfl) (by kernel_rfl) (fun _ _ _ h => by cases h.1) (.inl ⟨by kernel_rfl, fun _ _ => by kernel_rfl⟩) hS0 ?_
          simp only [List.setIfInBounds_toArray, List.set_cons_succ, List.set_cons_zero]
          refine takeD (i := 9) (d := 27) (v := .pointer (some ⟨w.heap.size, 3, none⟩)) (fuel := 6) rfl rfl (by kernel_rfl) (by kernel_rfl) (by kernel_rfl) (fun _ _ _ h => by cases h.1) (.inl ⟨by kernel_rfl, fun _ _ => by go_simp⟩) hS0 ?_
          simp only [List.setIfInBounds_toArray, List.set_cons_succ, List.set_cons_zero]
          refine takeD (i := 10) (d := 28) (v := .slice a en c) (fuel := 5) rfl rfl (by kernel_rfl) (by kernel_rfl) (by kernel_rfl) (fun _ _ _ h => by cases h.1) (.inl ⟨by kernel_rfl, fun wx h => by have z0 := HCE.out wx h; go_simp⟩) hS0 ?_
          simp only [List.setIfInBounds_toArray, List.set_cons_succ, List.set_cons_zero]
          refine takeD (i := 11) (d := 29) (v := .int .i64 (en : Nat)) (fuel := 4) rfl rfl (by kernel_rfl) (by kernel_rfl) (by kernel_rfl) (fun _ _ _ h => by cases h.1) (.inl ⟨by kernel_rfl, fun _ _ => by go_simp⟩) hS0 ?_
          simp only [List.setIfInBounds_toArray, List.set_cons_succ, List.set_cons_zero]
          refine takeD (i := 12) (d := 30) (v := .pointer (some ⟨p, 0, none⟩)) (fuel := 3) rfl rfl (by kernel_rfl) (by kernel_rfl) (by kernel_rfl) (fun _ _ _ h => by cases h.1) (.inl ⟨by kernel_rfl, fun _ _ => by kernel_rfl⟩) hS0 ?_
          simp only [List.setIfInBounds_toArray, List.set_cons_succ, List.set_cons_zero]
          refine oneC (i := 13) (d := 31) (f := 39) (args := #[.pointer (some ⟨p, 0, none⟩)]) (v := .int .i64 N) (fuel := 2) rfl rfl (by kernel_rfl) (by kernel_rfl) (fun _ => by kernel_rfl) hS0 (fun wx h => (HB3.out wx h)) (fun wz hS0 => ?_)
          simp only [List.setIfInBounds_toArray, List.set_cons_succ, List.set_cons_zero]
          refine takeD (i := 14) (d := 32) (v := .bool false) (fuel := 1) rfl rfl (by kernel_rfl) (by kernel_rfl) (by kernel_rfl) (fun _ _ _ h => by cases h.1) (.inl ⟨by kernel_rfl, fun _ _ => by go_simp⟩) hS0 ?_
          simp only [List.setIfInBounds_toArray, List.set_cons_succ, List.set_cons_zero]
          refine takeD (i := 15) (d := 33) (v := .bool false) (fuel := 0) rfl rfl (by kernel_rfl) (by kernel_rfl) (by kernel_rfl) (fun _ _ _ h => by cases h.1) (.inl ⟨by kernel_rfl, fun _ _ => by kernel_rfl⟩) hS0 ?_
          simp only [List.setIfInBounds_toArray, List.set_cons_succ, List.set_cons_zero]
          refine wpAnyH_done (by kernel_rfl) ?_ _
          exact ⟨rfl, hS0, _, _, _, _, _, _, _, _, _, _, _, _, _, _, _, rfl⟩
        · rintro e a' w3 ⟨rfl, hb3, z18, z19, z20, z21, z22, z23, z24, z25, z26, z27, z28, z29, z30, z31, z32, rfl⟩
          have HB3' : Hid _ := HB2.out.trans (hb3.mono HB2.out.size)
          have HRB3 : Hid (RB w3 (.slice va by_.length vc) by_) := RB.later HRB.out hb3
          have H4 : Hid _ := Fr.put_any (.slice none 0 0) _ [] by_ w3 (RB.nil _) HRB3.out (by simp) HBYL.out
          simp only [List.length_nil, Nat.zero_add, List.nil_append] at H4
          clear hb3
          go_wp2_with fail
          refine Calls.mono H4.out ?_
          rintro e w4 ⟨g, cap, rfl, hob, hb4⟩
          have HB4 : Hid _ := HB3'.out.trans (hb4.mono HB3'.out.size)
          have H5 : Hid _ := HAp.out (.slice (some ⟨g, 0, none⟩) (by_.length + 6) cap) (Fr.frameP by_) w4 HB4.out hob.rb.2 (by rw [Fr.frameP_len]; have := HBYL.out; omega) (fun a n c he => by cases he; have h9 := hob.lt.1; have h8 := HB3'.out.size; show w.heap.size ≤ g; omega)
          rw [← HRES.out] at H5
          clear hb4 hob H4
          go_wp2_with fail
          refine Calls.mono H5.out ?_
          rintro e w5 ⟨rfl, q2, q3⟩
          have Q2 : Hid _ := q2
          have Q3 : Hid _ := q3
          clear q2 q3 H5 HRES
          go_wp2_with fail
          go_ret
          have hb := HB4.out
          have h9 := Q3.out.size
          have h8 := hb.size
          refine ⟨rfl, DK.wide Q2.out (fun k hk => ?_) (fun k hk => ?_), (Kp.of_below T hb).trans Q3.out (fun x hx _ => hx)⟩
          · rcases hk with hk | hk
            · exact .inl hk
            · exact .inr ⟨by omega, hk.2⟩
          · rcases hk with hk | hk
            · have := HHT.out k hk; omega
            · exact hk.2
      · have hl2 : ((en : Int) != N) = true := by rw [HNN.out]; simp; omega
        rw [if_neg (fun h => hl h.2.2)] at HRES
        clear hl
        refine wp_mono (Q := fun e a' w' => e = Exit.normal ∧ Below w2.heap.size w2 w' ∧ ∃ z18 z19 z20 z21 z22 z23 z24 z25 z26 z27 z28 z29 z30 z31 z32 : Value, a' = { tmps := #[.pointer (some ⟨p, 0, none⟩), .int .i64 i, .agg #[.int .i64 ek, .int .i64 ei, .int .i64 et, .slice a en c], undef, undef, .pointer (some ⟨w.heap.size, 0, none⟩), .int .i64 0, .slice va by_.length vc, .int .i64 (er : Nat), undef, .pointer (some ⟨p, 0, none⟩), .bool true, .bool false, .tuple #[.slice va by_.length vc, .int .i64 (er : Nat)], .agg #[.int .i64 ek, .int .i64 ei, .int .i64 et, .slice a en c], .tuple #[.slice va by_.length vc, .int .i64 (er : Nat)], .slice va by_.length vc, .int .i64 (er : Nat), z18, z19, z20, z21, z22, z23, z24, z25, z26, z27, z28, z29, z30, z31, z32, .bool true, undef, undef, undef, undef, undef, undef, undef, undef, undef, undef, undef, undef], defers := [] }) (wp_region_held (S := fun wx => Below w2.heap.size w2 wx) (by kernel_rfl) ?_) ?_
        · simp only [List.size_toArray, List.length_cons, List.length_nil, Nat.reduceAdd, Array.replicate_succ, Array.replicate_zero, List.push_toArray, List.nil_append, List.cons_append]
          have hS0 : Below w2.heap.size w2 w2.drew := (Below.refl _ _).drew
          refine takeD (i := 0) (d := 18) (v := .pointer (some ⟨p, 0, none⟩)) (fuel := 15) rfl rfl (by kernel_rfl) (by kernel_rfl) (by kernel_rfl) (fun _ _ _ h => by cases h.1) (.inl ⟨by kernel_rfl, fun _ _ => by kernel_rfl⟩) hS0 ?_
          simp only [List.setIfInBounds_toArray, List.set_cons_succ, List.set_cons_zero]
          refine takeD (i := 1) (d := 19) (v := .int .i64 i) (fuel := 14) rfl rfl (by kernel_rfl) (by kernel_rfl) (by kernel_rfl) (fun _ _ _ h => by cases h.1) (.inl ⟨by kernel_rfl, fun _ _ => by kernel_rfl⟩) hS0 ?_
          simp only [List.setIfInBounds_toArray, List.set_cons_succ, List.set_cons_zero]
          refine oneC (i := 2) (d := 20) (f := 38) (args := #[.pointer (some ⟨p, 0, none⟩), .int .i64 i]) (v := .bool true) (fuel := 13) rfl rfl (by kernel_rfl) (by kernel_rfl) (fun _ => by kernel_rfl) hS0 (fun wx h => (HH2.out wx h)) (fun wz hS0 => ?_)
          simp only [List.setIfInBounds_toArray, List.set_cons_succ, List.set_cons_zero]
          refine takeD (i := 3) (d := 21) (v := .bool false) (fuel := 12) rfl rfl (by kernel_rfl) (by kernel_rfl) (by kernel_rfl) (fun _ _ _ h => by cases h.1) (.inl ⟨by kernel_rfl, fun _ _ => by kernel_rfl⟩) hS0 ?_
          simp only [List.setIfInBounds_toArray, List.set_cons_succ, List.set_cons_zero]
          refine takeD (i := 4) (d := 22) (v := .bool false) (fuel := 11) rfl rfl (by kernel_rfl) (by kernel_rfl) (by kernel_rfl) (fun _ _ _ h => by cases h.1) (.inl ⟨by kernel_rfl, fun _ _ => by kernel_rfl⟩) hS0 ?_
          simp only [List.setIfInBounds_toArray, List.set_cons_succ, List.set_cons_zero]
          refine takeD (i := 5) (d := 23) (v := .int .i64 (er : Nat)) (fuel := 10) rfl rfl (by kernel_rfl) (by kernel_rfl) (by kernel_rfl) (fun _ _ _ h => by cases h.1) (.inl ⟨by kernel_rfl, fun _ _ => by kernel_rfl⟩) hS0 ?_
          simp only [List.setIfInBounds_toArray, List.set_cons_succ, List.set_cons_zero]
          refine takeD (i := 6) (d := 24) (v := .bool false) (fuel := 9) rfl rfl (by kernel_rfl) (by kernel_rfl) (by kernel_rfl) (fun _ _ _ h => by cases h.1) (.inl ⟨by kernel_rfl, fun _ _ => by go_simp⟩) hS0 ?_
          simp only [List.setIfInBounds_toArray, List.set_cons_succ, List.set_cons_zero]
          refine takeD (i := 7) (d := 25) (v := .bool false) (fuel := 8) rfl rfl (by kernel_rfl) (by kernel_rfl) (by kernel_rfl) (fun _ _ _ h => by cases h.1) (.inl ⟨by kernel_rfl, fun _ _ => by kernel_rfl⟩) hS0 ?_
          simp only [List.setIfInBounds_toArray, List.set_cons_succ, List.set_cons_zero]
          refine takeD (i := 8) (d := 26) (v := .bool false) (fuel := 7) rfl rfl (by kernel_rfl) (by kernel_rfl) (by kernel_rfl) (fun _ _ _ h => by cases h.1) (.inl ⟨by kernel_rfl, fun _ _ => by kernel_rfl⟩) hS0 ?_
          simp only [List.setIfInBounds_toArray, List.set_cons_succ, List.set_cons_zero]
          refine takeD (i := 9) (d := 27) (v := .pointer (some ⟨w.heap.size, 3, none⟩)) (fuel := 6) rfl rfl (by kernel_rfl) (by kernel_rfl) (by kernel_rfl) (fun _ _ _ h => by cases h.1) (.inl ⟨by kernel_rfl, fun _ _ => by go_simp⟩) hS0 ?_
          simp only [List.setIfInBounds_toArray, List.set_cons_succ, List.set_cons_zero]
          refine takeD (i := 10) (d := 28) (v := .slice a en c) (fuel := 5) rfl rfl (by kernel_rfl) (by kernel_rfl) (by kernel_rfl) (fun _ _ _ h => by cases h.1) (.inl ⟨by kernel_rfl, fun wx h => by have z0 := HCE.out wx h; go_simp⟩) hS0 ?_
          simp only [List.setIfInBounds_toArray, List.set_cons_succ, List.set_cons_zero]
          refine takeD (i := 11) (d := 29) (v := .int .i64 (en : Nat)) (fuel := 4) rfl rfl (by kernel_rfl) (by kernel_rfl) (by kernel_rfl) (fun _ _ _ h => by cases h.1) (.inl ⟨by kernel_rfl, fun _ _ => by go_simp⟩) hS0 ?_
          simp only [List.setIfInBounds_toArray, List.set_cons_succ, List.set_cons_zero]
          refine takeD (i := 12) (d := 30) (v := .pointer (some ⟨p, 0, none⟩)) (fuel := 3) rfl rfl (by kernel_rfl) (by kernel_rfl) (by kernel_rfl) (fun _ _ _ h => by cases h.1) (.inl ⟨by kernel_rfl, fun _ _ => by kernel_rfl⟩) hS0 ?_
          simp only [List.setIfInBounds_toArray, List.set_cons_succ, List.set_cons_zero]
          refine oneC (i := 13) (d := 31) (f := 39) (args := #[.pointer (some ⟨p, 0, none⟩)]) (v := .int .i64 N) (fuel := 2) rfl rfl (by kernel_rfl) (by kernel_rfl) (fun _ => by kernel_rfl) hS0 (fun wx h => (HB3.out wx h)) (fun wz hS0 => ?_)
          simp only [List.setIfInBounds_toArray, List.set_cons_succ, List.set_cons_zero]
          refine takeD (i := 14) (d := 32) (v := .bool true) (fuel := 1) rfl rfl (by kernel_rfl) (by kernel_rfl) (by kernel_rfl) (fun _ _ _ h => by cases h.1) (.inl ⟨by kernel_rfl, fun _ _ => by go_simp⟩) hS0 ?_
          simp only [List.setIfInBounds_toArray, List.set_cons_succ, List.set_cons_zero]
          refine takeD (i := 15) (d := 33) (v := .bool true) (fuel := 0) rfl rfl (by kernel_rfl) (by kernel_rfl) (by kernel_rfl) (fun _ _ _ h => by cases h.1) (.inl ⟨by kernel_rfl, fun _ _ => by kernel_rfl⟩) hS0 ?_
          simp only [List.setIfInBounds_toArray, List.set_cons_succ, List.set_cons_zero]
          refine wpAnyH_done (by kernel_rfl) ?_ _
          exact ⟨rfl, hS0, _, _, _, _, _, _, _, _, _, _, _, _, _, _, _, rfl⟩
        · rintro e a' w3 ⟨rfl, hb3, z18, z19, z20, z21, z22, z23, z24, z25, z26, z27, z28, z29, z30, z31, z32, rfl⟩
          have HB3' : Hid _ := HB2.out.trans (hb3.mono HB2.out.size)
          clear hb3
          go_wp2_with fail
          go_ret
          rw [HRES.out]
          exact WR.none HD.out HB3'.out
    · have her : er = 2 := by rw [HEV.out, if_neg hok]
      have her2 : ((er : Int) != 0) = true := by simp [her]
      rw [if_neg (fun h => hok h.2.1)] at HRES
      clear her
      refine wp_mono (Q := fun e a' w' => e = Exit.normal ∧ Below w2.heap.size w2 w' ∧ ∃ z18 z19 z20 z21 z22 z23 z24 z25 z26 z27 z28 z29 z30 z31 z32 : Value, a' = { tmps := #[.pointer (some ⟨p, 0, none⟩), .int .i64 i, .agg #[.int .i64 ek, .int .i64 ei, .int .i64 et, .slice a en c], undef, undef, .pointer (some ⟨w.heap.size, 0, none⟩), .int .i64 0, .slice va by_.length vc, .int .i64 (er : Nat), undef, .pointer (some ⟨p, 0, none⟩), .bool true, .bool false, .tuple #[.slice va by_.length vc, .int .i64 (er : Nat)], .agg #[.int .i64 ek, .int .i64 ei, .int .i64 et, .slice a en c], .tuple #[.slice va by_.length vc, .int .i64 (er : Nat)], .slice va by_.length vc, .int .i64 (er : Nat), z18, z19, z20, z21, z22, z23, z24, z25, z26, z27, z28, z29, z30, z31, z32, .bool true, undef, undef, undef, undef, undef, undef, undef, undef, undef, undef, undef, undef], defers := [] }) (wp_region_held (S := fun wx => Below w2.heap.size w2 wx) (by kernel_rfl) ?_) ?_
      · simp only [List.size_toArray, List.length_cons, List.length_nil, Nat.reduceAdd, Array.replicate_succ, Array.replicate_zero, List.push_toArray, List.nil_append, List.cons_append]
        have hS0 : Below w2.heap.size w2 w2.drew := (Below.refl _ _).drew
        refine takeD (i := 0) (d := 18) (v := .pointer (some ⟨p, 0, none⟩)) (fuel := 15) rfl rfl (by kernel_rfl) (by kernel_rfl) (by kernel_rfl) (fun _ _ _ h => by cases h.1) (.inl ⟨by kernel_rfl, fun _ _ => by kernel_rfl⟩) hS0 ?_
        simp only [List.setIfInBounds_toArray, List.set_cons_succ, List.set_cons_zero]
        refine takeD (i := 1) (d := 19) (v := .int .i64 i) (fuel := 14) rfl rfl (by kernel_rfl) (by kernel_rfl) (by kernel_rfl) (fun _ _ _ h => by cases h.1) (.inl ⟨by kernel_rfl, fun _ _ => by kernel_rfl⟩) hS0 ?_
        simp only [List.setIfInBounds_toArray, List.set_cons_succ, List.set_cons_zero]
        refine oneC (i := 2) (d := 20) (f := 38) (args := #[.pointer (some ⟨p, 0, none⟩), .int .i64 i]) (v := .bool true) (fuel := 13) rfl rfl (by kernel_rfl) (by kernel_rfl) (fun _ => by kernel_rfl) hS0 (fun wx h => (HH2.out wx h)) (fun wz hS0 => ?_)
        simp only [List.setIfInBounds_toArray, List.set_cons_succ, List.set_cons_zero]
        refine takeD (i := 3) (d := 21) (v := .bool false) (fuel := 12) rfl rfl (by kernel_rfl) (by kernel_rfl) (by kernel_rfl) (fun _ _ _ h => by cases h.1) (.inl ⟨by kernel_rfl, fun _ _ => by kernel_rfl⟩) hS0 ?_
        simp only [List.setIfInBounds_toArray, List.set_cons_succ, List.set_cons_zero]
        refine takeD (i := 4) (d := 22) (v := .bool false) (fuel := 11) rfl rfl (by kernel_rfl) (by kernel_rfl) (by kernel_rfl) (fun _ _ _ h => by cases h.1) (.inl ⟨by kernel_rfl, fun _ _ => by kernel_rfl⟩) hS0 ?_
        simp only [List.setIfInBounds_toArray, List.set_cons_succ, List.set_cons_zero]
        refine takeD (i := 5) (d := 23) (v := .int .i64 (er : Nat)) (fuel := 10) rfl rfl (by kernel_rfl) (by kernel_rfl) (by kernel_rfl) (fun _ _ _ h => by cases h.1) (.inl ⟨by kernel_rfl, fun _ _ => by kernel_rfl⟩) hS0 ?_
        simp only [List.setIfInBounds_toArray, List.set_cons_succ, List.set_cons_zero]
        refine takeD (i := 6) (d := 24) (v := .bool true) (fuel := 9) rfl rfl (by kernel_rfl) (by kernel_rfl) (by kernel_rfl) (fun _ _ _ h => by cases h.1) (.inl ⟨by kernel_rfl, fun _ _ => by go_simp⟩) hS0 ?_
        simp only [List.setIfInBounds_toArray, List.set_cons_succ, List.set_cons_zero]
        refine takeD (i := 7) (d := 25) (v := .bool true) (fuel := 8) rfl rfl (by kernel_rfl) (by kernel_rfl) (by kernel_rfl) (fun _ _ _ h => by cases h.1) (.inl ⟨by kernel_rfl, fun _ _ => by kernel_rfl⟩) hS0 ?_
        simp only [List.setIfInBounds_toArray, List.set_cons_succ, List.set_cons_zero]
        refine takeD (i := 8) (d := 26) (v := .bool true) (fuel := 7) rfl rfl (by kernel_rfl) (by kernel_rfl) (by kernel_rfl) (fun _ _ _ h => by cases h.1) (.inl ⟨by kernel_rfl, fun _ _ => by kernel_rfl⟩) hS0 ?_
        simp only [List.setIfInBounds_toArray, List.set_cons_succ, List.set_cons_zero]
        refine takeD (i := 9) (d := 27) (v := undef) (fuel := 6) rfl rfl (by kernel_rfl) (by kernel_rfl) (by kernel_rfl) (fun _ _ _ h => by cases h.1) (.inr ⟨by kernel_rfl, rfl⟩) hS0 ?_
        simp only [List.setIfInBounds_toArray, List.set_cons_succ, List.set_cons_zero]
        refine takeD (i := 10) (d := 28) (v := undef) (fuel := 5) rfl rfl (by kernel_rfl) (by kernel_rfl) (by kernel_rfl) (fun _ _ _ h => by cases h.1) (.inr ⟨by kernel_rfl, rfl⟩) hS0 ?_
        simp only [List.setIfInBounds_toArray, List.set_cons_succ, List.set_cons_zero]
        refine takeD (i := 11) (d := 29) (v := undef) (fuel := 4) rfl rfl (by kernel_rfl) (by kernel_rfl) (by kernel_rfl) (fun _ _ _ h => by cases h.1) (.inr ⟨by kernel_rfl, rfl⟩) hS0 ?_
        simp only [List.setIfInBounds_toArray, List.set_cons_succ, List.set_cons_zero]
        refine takeD (i := 12) (d := 30) (v := undef) (fuel := 3) rfl rfl (by kernel_rfl) (by kernel_rfl) (by kernel_rfl) (fun _ _ _ h => by cases h.1) (.inr ⟨by kernel_rfl, rfl⟩) hS0 ?_
        simp only [List.setIfInBounds_toArray, List.set_cons_succ, List.set_cons_zero]
        refine wpAnyH_all (fuel := 2) (rs := [13]) (by kernel_rfl) (by decide) (List.forall_mem_singleton.2 ?_)
        refine wpOp_un (i := 13) (d := 31) rfl rfl (by kernel_rfl) ⟨hS0, ?_⟩
        simp only [List.setIfInBounds_toArray, List.set_cons_succ, List.set_cons_zero]
        refine takeD (i := 14) (d := 32) (v := undef) (fuel := 1) rfl rfl (by kernel_rfl) (by kernel_rfl) (by kernel_rfl) (fun _ _ _ h => by cases h.1) (.inr ⟨by kernel_rfl, rfl⟩) hS0 ?_
        simp only [List.setIfInBounds_toArray, List.set_cons_succ, List.set_cons_zero]
        refine takeD (i := 15) (d := 33) (v := .bool true) (fuel := 0) rfl rfl (by kernel_rfl) (by kernel_rfl) (by kernel_rfl) (fun _ _ _ h => by cases h.1) (.inl ⟨by kernel_rfl, fun _ _ => by kernel_rfl⟩) hS0 ?_
        simp only [List.setIfInBounds_toArray, List.set_cons_succ, List.set_cons_zero]
        refine wpAnyH_done (by kernel_rfl) ?_ _
        exact ⟨rfl, hS0, _, _, _, _, _, _, _, _, _, _, _, _, _, _, _, rfl⟩
      · rintro e a' w3 ⟨rfl, hb3, z18, z19, z20, z21, z22, z23, z24, z25, z26, z27, z28, z29, z30, z31, z32, rfl⟩
        have HB3' : Hid _ := HB2.out.trans (hb3.mono HB2.out.size)
        clear hb3
        go_wp2_with fail
        go_ret
        rw [HRES.out]
        exact WR.none HD.out HB3'.out
end Go.Proofs.YtijkgdbabikojaaGreat

/- The walk over branch.Begin. -/
namespace Go.Proofs.YtijkgdbabikojaaGreat
open Go.RowKit
open Dk (DS DK Okay Small WR Kp cutP appendP syncP hasB hasB_true)
set_option maxRecDepth 1000000
set_option linter.unusedVariables false

set_option maxHeartbeats 2000000 in
theorem begin_any (T : Nat → Prop) (w : World) (p : Nat) (S : DS) (s : List UInt8) (hd : DK T w p S) (ho : Okay S) (hs : Small 1000000 10000000000 S) (hl : (lastB S).length ≤ 100000) (hsl : s.length ≤ 1000000) :
    Calls Tryz.prog 12 #[.pointer (some ⟨p, 0, none⟩), .string ⟨s.toArray⟩] w (WR T w p (beginP S s)) := by
  have hfew := ho.few
  have hpos := ho.pos
  have hT := hd.live
  have HM : Hid _ := made_br _ _ w (cnt_dk hd ho) hfew
  have HLa : Hid (∀ wx, Below w.heap.size w wx → Calls Tryz.prog 43 #[.pointer (some ⟨p, 0, none⟩)] wx fun e w' => e = .returned (.int .i64 ((S.n : Int) - 1)) ∧ Below wx.heap.size wx w') := fun wx hb => last_any _ _ wx ((cnt_dk hd ho).later hb) hfew
  have HTo : Hid (∀ wx, Below w.heap.size w wx → Calls Tryz.prog 11 #[.pointer (some ⟨p, 0, none⟩)] wx fun e w' => e = .returned (.tuple #[tV (toldG (lastB S)), .int .i64 (tE (toldG (lastB S)))]) ∧ Below wx.heap.size wx w') := fun wx hb => told_any T wx p S (hd.later hb) ho (Dk.small_mono hs (by omega) (by omega)) hl
  have HRe : Hid (∀ (xv : Value) (l : List UInt8) (wx : World), Below w.heap.size w wx → RB wx xv l → l.length ≤ 1000000 → (∀ a n c, xv = .slice (some a) n c → w.heap.size ≤ a.block ∧ a.block < wx.heap.size) → Calls Tryz.prog 45 #[.pointer (some ⟨p, 0, none⟩), .int .i64 ((S.n : Int) - 1), xv] wx (WR T wx p (replP S ((S.n : Int) - 1) l))) := fun xv l wx hb hx h1 h2 => replace_any T wx p S _ xv l (hd.later hb) ho hs hx h1 (fun a n c he => ⟨fun ht => by have := hT _ ht; have := h2 a n c he; omega, (h2 a n c he).2⟩)
  have hd0 : decide (0 < S.n) = true := decide_eq_true (by omega)
  rw [hd0] at HM
  have hsz : (⟨s.toArray⟩ : ByteArray).size = s.length := by simp [ByteArray.size]
  have HD : Hid _ := hd
  obtain ⟨RES, HRES⟩ : ∃ RES, Hid (RES = beginP S s) := ⟨_, rfl⟩
  rw [← HRES.out]
  unfold beginP at HRES
  generalize lastB S = B at *
  obtain ⟨o, HO⟩ : ∃ o, Hid (toldG B = o) := ⟨_, rfl⟩
  rw [HO.out] at HTo HRES
  obtain ⟨N, HN⟩ : ∃ N, Hid ((S.n : Int) - 1 = N) := ⟨_, rfl⟩
  rw [HN.out] at HLa HRe HRES
  clear hd hd0
  go_enter Tryz.func12, Tryz.ntmps12
  go_wp2_with fail
  refine Calls.mono HM.out ?_
  rintro e w1 ⟨rfl, hb1⟩
  have HB1 : Hid _ := hb1
  have H1 : Hid _ := HTo.out w1 hb1
  clear hb1 HM
  by_cases hbig : 65536 < s.length
  · rw [if_pos hbig] at HRES
    have hbig2 : (65536 : Int) < (s.length : Int) := by omega
    go_wp2_with fail
    go_ret
    rw [HRES.out]
    exact WR.none HD.out HB1.out
  rw [if_neg hbig] at HRES
  have HBG : Hid (s.length ≤ 65536) := by show _ ≤ _; omega
  have HHT : Hid _ := hT
  have hbig2 : ¬ (65536 : Int) < (s.length : Int) := by omega
  go_wp2_with fail
  refine Calls.mono H1.out ?_
  rintro e w2 ⟨rfl, hb2⟩
  have HB2 : Hid _ := HB1.out.trans (hb2.mono HB1.out.size)
  clear hb2 H1
  cases o with
  | some t =>
    rw [if_pos (show (some t).isSome = true from rfl)] at HRES
    unfold tV tE
    simp only [Option.isSome_some, Option.getD_some]
    go_wp2_with fail
    go_ret
    rw [HRES.out]
    exact WR.none HD.out HB2.out
  | none =>
    rw [if_neg (show ¬ (none : Option (List UInt8)).isSome = true by simp)] at HRES
    obtain ⟨V, w3, hcv, hV, hVb, hb3⟩ := bytes_str s hsl w2
    have HB3 : Hid _ := HB2.out.trans (hb3.mono HB2.out.size)
    have H4 : Hid _ := textFrames_any V s w3 hV (by omega)
    have HTL : Hid ((textP s).length ≤ 1000000 ∧ 0 < (textP s).length) := by
      show _ ≤ _ ∧ _
      have h6 : textP s = Fr.putP (pieces s) ++ Fr.frameP [] := by unfold textP; rw [Fr.putP_append]; simp [Fr.putP]
      have h7 := pieces_put s HBG.out (pieces s).length
      rw [List.take_length] at h7
      rw [h6, List.length_append, Fr.frameP_len]
      simp
      omega
    obtain ⟨tx, HTX⟩ : ∃ tx, Hid (textP s = tx) := ⟨_, rfl⟩
    rw [HTX.out] at HTL H4 HRES
    clear HTX
    have HS3 : Hid (w.heap.size ≤ w3.heap.size) := Nat.le_trans HB2.out.size hb3.size
    obtain ⟨Va, Vc, rfl, _, _, _, _⟩ := hV
    unfold tV tE
    simp only [Option.isSome_none, Option.getD_none]
    clear hb3 hVb hsz hT hbig hbig2 hfew hpos
    go_wp2_with fail
    refine Calls.mono H4.out ?_
    rintro e w4 ⟨fa, fc, rfl, hf, hfa, hb4⟩
    have HB4 : Hid _ := HB3.out.trans (hb4.mono HB3.out.size)
    have H5 : Hid _ := HLa.out w4 HB4.out
    have HF : Hid _ := hf
    have HFA : Hid (∀ b, fa = some b → w.heap.size ≤ b.block ∧ b.block < w4.heap.size) := fun b hb => by
      refine ⟨by have := hfa b hb; have := HS3.out; omega, ?_⟩
      obtain ⟨a', c', e', _, _, _, hc⟩ := hf
      cases e'
      obtain ⟨bb, off, e2, hcell⟩ := hc 0 HTL.out.2
      rw [hb] at e2
      cases e2
      exact World.block_lt_of_cell? w4 _ hcell
    clear hb4 H4 hfa hf
    go_wp2_with fail
    refine Calls.mono H5.out ?_
    rintro e w5 ⟨rfl, hb5⟩
    have HB5 : Hid _ := HB4.out.trans (hb5.mono HB4.out.size)
    have H6 : Hid _ := HRe.out (.slice fa tx.length fc) tx w5 HB5.out (RB.later HF.out hb5) HTL.out.1 (fun a n c he => by cases he; have := HFA.out a rfl; have := hb5.size; omega)
    rw [← HRES.out] at H6
    clear hb5 H5 HF HFA HTL HRES HRe HLa HTo
    go_wp2_with fail
    refine Calls.mono H6.out ?_
    rintro e w6 ⟨rfl, h2, h3⟩
    have HW : Hid (WR T w5 p RES (.returned (.int .i64 RES.1)) w6) := ⟨rfl, h2, h3⟩
    clear h2 h3 H6
    go_wp2_with fail
    go_ret
    obtain ⟨q1, q2, q3⟩ := HW.out
    have hb := HB5.out
    refine ⟨rfl, q2.wide (fun k hk => ?_) (fun k hk => ?_), (Kp.of_below T hb).trans q3 (fun x hx _ => hx)⟩
    · rcases hk with hk | hk
      · exact .inl hk
      · exact .inr ⟨by have := hb.size; omega, hk.2⟩
    · have := hb.size
      have := q3.size
      rcases hk with hk | hk
      · have := HHT.out k hk; omega
      · exact hk.2
end Go.Proofs.YtijkgdbabikojaaGreat

