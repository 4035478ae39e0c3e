/- Texts of the seat, packed: Ic. -/
import Derived.Test.YtijkgdbabikojaaGreatP32
/- The walk over the document's Load of layer 11. -/
namespace Go.Proofs.YtijkgdbabikojaaGreat
open Go.RowKit
open Dk (DS DK Okay Small RV RR Kp cutP appendP syncP hasB hasB_true)
set_option maxRecDepth 1000000
set_option linter.unusedVariables false

/-- What the document's Load tells. -/
def rldP (S : DS) (i : Int) : List Ev × Nat := if hasN S.n i = true then loadL (S.n - 1) i (Dk.readP S i) else ([], 0)

theorem logW_none {m : Nat} {i : Int} {k : Nat} {x : List UInt8} {r : List (List UInt8)} (h : rd x = none) : logW m i k (x :: r) = ([], 0) := by rw [logW, h]
theorem logW_no {m : Nat} {i : Int} {k : Nat} {x : List UInt8} {r : List (List UInt8)} {e : Ev} (h : rd x = some e) (hn : ¬ (e.s.length = m ∧ atZ e.s i = ((k + 1 : Nat) : Int))) : logW m i k (x :: r) = ([], 0) := by rw [logW, h]; simp only; rw [if_neg hn]
theorem logW_yes {m : Nat} {i : Int} {k : Nat} {x : List UInt8} {r : List (List UInt8)} {e : Ev} (h : rd x = some e) (hn : e.s.length = m ∧ atZ e.s i = ((k + 1 : Nat) : Int)) : logW m i k (x :: r) = (e :: (logW m i (k + 1) r).1, x.length + 6 + (logW m i (k + 1) r).2) := by rw [logW, h]; simp only; rw [if_pos hn]

/-- What Load knows when k events are told. -/
structure LoI (B0 : Nat) (w : World) (m : Nat) (i : Int) (L : List (List UInt8)) (RES : List Ev × Nat) (k nb : Nat) (v : Value) (W : World) : Prop where
  ex : ∃ acc : List Ev, acc.length = k ∧ LogR B0 W (fun _ => False) v acc ∧ acc ++ (logW m i k (L.drop k)).1 = RES.1
  nb : nb + (logW m i k (L.drop k)).2 = RES.2
  bel : Below B0 w W

set_option maxHeartbeats 8000000 in
theorem rload_any (r g : Nat) (S : DS) (i : Int) (w : World) (h : RV w r g S) (ho : Okay S) (hs : Small 100000 10000000000 S) :
    Calls Tryz.prog 30 #[.pointer (some ⟨r, 0, none⟩), .int .i64 i] w fun e w' => ∃ a c, e = .returned (.tuple #[.slice a (rldP S i).1.length c, .int .i64 ((rldP S i).2 : Nat)]) ∧ LogR w.heap.size w' (fun _ => False) (.slice a (rldP S i).1.length c) (rldP S i).1 ∧ Below w.heap.size w w' := by
  have hpos := ho.pos
  have hfew := ho.few
  obtain ⟨m, HM⟩ : ∃ m, Hid (S.n = m + 1) := ⟨S.n - 1, by show _ = _; omega⟩
  have c0 := h.sl
  rw [HM.out] at c0 hfew
  have HFile : Hid (∀ k : Nat, k < m + 1 → w.cell? ⟨g, k * 2, none⟩ = some (.string ⟨(S.fs k).b.toArray⟩)) := fun k hk => (h.file k (by rw [HM.out]; exact hk)).1
  have HV : Hid _ := h
  obtain ⟨RES, HRES⟩ : ∃ R, Hid (rldP S i = R) := ⟨_, rfl⟩
  rw [HRES.out]
  unfold rldP hasN at HRES
  rw [HM.out] at HRES
  by_cases h0 : i < 0
  · rw [if_neg (by rw [decide_eq_true_eq]; omega)] at HRES
    clear h ho hs hpos
    go_enter Tryz.func30, Tryz.ntmps30
    go_wp2_with fail
    go_ret2
    rw [← HRES.out]
    exact ⟨none, 0, rfl, LogR.nil _ _ _, Below.refl _ _⟩
  by_cases h1 : (m : Int) ≤ i
  · rw [if_neg (by rw [decide_eq_true_eq]; omega)] at HRES
    clear h ho hs hpos
    go_enter Tryz.func30, Tryz.ntmps30
    go_wp2_with fail
    go_ret2
    rw [← HRES.out]
    exact ⟨none, 0, rfl, LogR.nil _ _ _, Below.refl _ _⟩
  obtain ⟨j, rfl⟩ : ∃ j : Nat, i = (j : Int) := ⟨i.toNat, by omega⟩
  rw [if_pos (by rw [decide_eq_true_eq]; omega), Nat.add_sub_cancel] at HRES
  have hjm : j < m := by omega
  have hrd : Dk.readP S (j : Int) = (S.fs j).b := by
    unfold Dk.readP
    rw [if_pos (show hasB S (j : Int) = true from decide_eq_true (by rw [HM.out]; omega))]
    rfl
  rw [hrd] at HRES
  have cf := HFile.out j (by omega)
  have hBl := hs.len j
  unfold loadL at HRES
  generalize (S.fs j).b = B at *
  have H1 : Hid (Calls Tryz.prog 67 #[.string ⟨B.toArray⟩] w fun e w' => Below w.heap.size w w' ∧ ∃ a c, e = .returned (.tuple #[.slice a (Fr.allP B (B.length + 1) 0).1.length c, .int .i64 ((Fr.allP B (B.length + 1) 0).2.1 : Nat), .int .i64 ((Fr.allP B (B.length + 1) 0).2.2 : Nat)]) ∧ Fr.RS w' (.slice a (Fr.allP B (B.length + 1) 0).1.length c) (Fr.allP B (B.length + 1) 0).1) := by
    refine Calls.mono (Fr.rall_any B w hBl) ?_
    rintro e w' ⟨q1, v, q2, q3⟩
    have q4 := Fr.RS.of_owns q3 rfl
    obtain ⟨a, c, rfl, _⟩ := id q4
    exact ⟨q1, a, c, q2, q4⟩
  have HAC := all_count B (B.length + 1) 0
  have HAS := all_short B (B.length + 1) 0 (Nat.zero_le _)
  generalize Fr.allP B (B.length + 1) 0 = R at *
  obtain ⟨L, e1, e2⟩ := R
  simp only at H1 HRES HAC HAS
  have HCN : Hid (L.length ≤ 100001 ∧ L.flatten.length ≤ 100000) := by show _ ∧ _; omega
  have HI0 : Hid (∀ W, LoI W.heap.size W m (j : Int) L RES 0 0 (.slice none 0 0) W) := fun W => ⟨⟨[], rfl, LogR.nil _ _ _, by rw [← HRES.out]; rfl⟩, by rw [← HRES.out, Nat.zero_add]; rfl, Below.refl _ _⟩
  have HRB : Hid (RES.2 ≤ 800000) := by
    show _ ≤ _
    rw [← HRES.out]
    obtain ⟨_, q2, q3⟩ := log_good m (j : Int) 0 L
    rw [q3, put_len2, List.length_map]
    have e3 : ((logW m (j : Int) 0 L).1.map encE).flatten.length ≤ L.flatten.length := by rw [q2]; exact take_flat L _
    have e4 : (logW m (j : Int) 0 L).1.length ≤ L.length := by
      have := congrArg List.length q2
      rw [List.length_map, List.length_take] at this
      omega
    have := HCN.out
    omega
  have HV1 : Hid (∀ W, Below w.heap.size w W → Sl r g (m + 1) W) := fun W hb => by have := (Dk.RV.later HV.out hb).sl; rw [HM.out] at this; exact this
  have HLN : Hid (∀ x ∈ L, x.length ≤ 100000) := fun x hx => by
    have : x.length ≤ L.flatten.length := by
      obtain ⟨A, B', rfl⟩ := List.append_of_mem hx
      simp only [List.flatten_append, List.flatten_cons, List.length_append]
      omega
    have := HCN.out.2
    omega
  clear h ho hs hpos HAC HAS hrd HRES HFile hBl
  go_enter Tryz.func30, Tryz.ntmps30
  go_wp2_with fail
  refine Calls.mono H1.out ?_
  rintro e w1 ⟨hb1, va, vc, rfl, hrs⟩
  have HB1 : Hid _ := hb1
  obtain ⟨va', vc', ev, hcc, _, hcell⟩ := hrs
  simp only [Value.slice.injEq] at ev
  obtain ⟨rfl, _, rfl⟩ := ev
  have HCL : Hid _ := hcell
  obtain ⟨n, HN⟩ : ∃ n, Hid (L.length = n) := ⟨_, rfl⟩
  rw [HN.out] at hcc ⊢
  have hn : n ≤ 100001 := by rw [← HN.out]; exact HCN.out.1
  have HI1 : Hid _ := HI0.out w1
  clear hcell hb1 H1 HI0 c0 cf h0 h1
  go_wp2_with fail
  go_loopw [9, 10, 11] (fun ov nv iv wr => ∃ (k nb : Nat), k ≤ n ∧ iv = .int .i64 k ∧ nv = .int .i64 (nb : Nat) ∧ (∃ oa oc, ov = .slice oa k oc) ∧ Hid (LoI w1.heap.size w1 m (j : Int) L RES k nb ov wr)) (fun _ _ iv _ => n - (intOf iv).toNat)
  case atStart => exact ⟨0, 0, Nat.zero_le _, rfl, rfl, ⟨none, 0, rfl⟩, HI1⟩
  case round =>
    obtain ⟨k, nb, hk, rfl, rfl, ⟨oa, oc, rfl⟩, HI⟩ := hrel
    by_cases hlt : k < n
    · have hki : (k : Int) < (n : Int) := by omega
      have hx : L[k]? = some (L.getD k []) := by
        rw [List.getElem?_eq_getElem (by rw [HN.out]; exact hlt), List.getD_eq_getElem?_getD, List.getElem?_eq_getElem (by rw [HN.out]; exact hlt)]
        rfl
      have HDR : Hid (L.drop k = L.getD k [] :: L.drop (k + 1)) := by
        show _ = _
        rw [List.drop_eq_getElem_cons (by rw [HN.out]; exact hlt), List.getD_eq_getElem?_getD, List.getElem?_eq_getElem (by rw [HN.out]; exact hlt)]
        rfl
      obtain ⟨gb, off, rfl, cx⟩ := HCL.out k _ hx
      have hxl := HLN.out _ (List.mem_of_getElem? hx)
      obtain ⟨x, HX⟩ : ∃ x, Hid (L.getD k [] = x) := ⟨_, rfl⟩
      rw [HX.out] at cx HDR hxl
      have cxr := cell_later HI.out.bel cx
      have hxz : (⟨x.toArray⟩ : ByteArray).size = x.length := by simp [ByteArray.size]
      have K1 : Hid (Calls Tryz.prog 68 #[.string ⟨x.toArray⟩] wr (ReadC (rd x) wr)) := by
        have := rread_ev x wr hxl
        rw [rd_doc] at this
        exact this
      clear hx HX
      go_wp2_with fail
      refine Calls.mono K1.out ?_
      rintro e w2 ⟨sv, rfl, hri, hsv, hb2⟩
      have hsl2 : (evO (rd x)).s.length ≤ 1000000 := by
        cases ho : rd x with
        | none => simp [evO, Ev.none]
        | some e => have := okS_len (okE_stamp (rd_some ho).1); show e.s.length ≤ 1000000; omega
      obtain ⟨ev, HEV⟩ : ∃ ev, Hid (evO (rd x) = ev) := ⟨_, rfl⟩
      obtain ⟨er, HER⟩ : ∃ er, Hid (errO (rd x) = er) := ⟨_, rfl⟩
      rw [HEV.out] at hri hsl2
      rw [HEV.out, HER.out]
      unfold EvV
      have hri0 := hri
      obtain ⟨sa, sc, rfl, _, _, _⟩ := hri
      obtain ⟨ek, HEK⟩ : ∃ z, Hid (ev.k = z) := ⟨_, rfl⟩
      obtain ⟨ei, HEI⟩ : ∃ z, Hid (ev.i = z) := ⟨_, rfl⟩
      obtain ⟨et, HET⟩ : ∃ z, Hid (ev.t = z) := ⟨_, rfl⟩
      obtain ⟨en, HEN⟩ : ∃ z, Hid (ev.s.length = z) := ⟨_, rfl⟩
      have HSL : Hid (ev.s.length ≤ 1000000) := hsl2
      have hen : en ≤ 1000000 := by rw [← HEN.out]; exact hsl2
      rw [HEK.out, HEI.out, HET.out, HEN.out]
      obtain ⟨W2, HW2⟩ : ∃ W2, Hid (w2.alloc (.cells #[.int .i64 ek, .int .i64 ei, .int .i64 et, .slice sa en sc] 33) = W2) := ⟨_, rfl⟩
      have hb22 : Below w2.heap.size w2 W2 := by rw [← HW2.out]; exact (Below.refl _ _).alloc (Nat.le_refl _) _
      have HB2 : Hid (Below wr.heap.size wr W2) := hb2.trans (hb22.mono hb2.size)
      have HBX : Hid (Box W2 w2.heap.size ek ei et (.slice sa en sc)) := by show Box _ _ _ _ _ _; rw [← HW2.out]; exact Box.new w2 _ _ _ _
      have HRI : Hid (RI W2 (.slice sa en sc) ev.s) := by show RI _ _ _; have h9 := hri0.later hb22; rw [HEN.out] at h9; exact h9
      have HSV : Hid (∀ b, sa = some b → wr.heap.size ≤ b.block) := fun b hb => hsv b _ _ (by rw [hb])
      have HS0 : Hid (Below W2.heap.size W2 W2.drew ∧ Box W2.drew w2.heap.size ek ei et (.slice sa en sc) ∧ Sl r g (m + 1) W2.drew) := ⟨(Below.refl _ _).drew, Box.later HBX.out (Below.refl _ _).drew, HV1.out W2 (HB1.out.trans ((HI.out.bel.trans (HB2.out.mono HI.out.bel.size)).mono HB1.out.size))⟩
      obtain ⟨AT, HAT⟩ : ∃ z, Hid (atZ ev.s (j : Int) = z) := ⟨_, rfl⟩
      have HAt : Hid (∀ wx, (Below W2.heap.size W2 wx ∧ Box wx w2.heap.size ek ei et (.slice sa en sc) ∧ Sl r g (m + 1) wx) → Calls Tryz.prog 69 #[.slice sa en sc, .int .i64 (j : Nat)] wx fun e w' => e = .returned (.int .i64 AT) ∧ (Below W2.heap.size W2 w' ∧ Box w' w2.heap.size ek ei et (.slice sa en sc) ∧ Sl r g (m + 1) w')) := fun wx h => by
        have := rat_any (.slice sa en sc) ev.s (j : Int) wx (RI.later HRI.out h.1) hsl2
        rw [HAT.out] at this
        refine Calls.mono this ?_
        rintro e w' ⟨q1, rfl⟩
        exact ⟨q1, h⟩
      have hwm : IntKind.i64.wrap (m : Int) = (m : Int) := by rw [IntKind.wrap_i64]; omega
      have hwk : IntKind.i64.wrap ((k : Int) + 1) = (k : Int) + 1 := by rw [IntKind.wrap_i64]; omega
      clear hri0 hsv hb2 hb22 hsl2 K1
      cases hrd : rd x with
      | none =>
        have HLG : Hid (logW m (j : Int) k (x :: L.drop (k + 1)) = ([], 0)) := logW_none hrd
        have her : er = 4 := by rw [← HER.out, hrd]; rfl
        have her2 : ((er : Int) != 0) = true := by simp [her]
        clear her hrd
        go_wp2_with fail
        rw [HW2.out]
        have hS0 := HS0.out
        refine region_thenF [(53, .int .i64 (er : Nat)), (54, .bool true), (55, .bool true), (56, undef), (57, undef), (58, undef), (59, undef), (60, undef), (61, undef), (62, undef), (63, undef), (64, undef), (65, undef), (66, .bool true), (67, .bool true), (68, undef), (69, undef), (70, undef), (71, undef), (72, undef), (73, undef), (74, undef), (75, .bool true)] (fun w' => Below W2.heap.size W2 w' ∧ Box w' w2.heap.size ek ei et (.slice sa en sc) ∧ Sl r g (m + 1) w') ?_ ?_
        · refine wp_region_held (S := fun w' => Below W2.heap.size W2 w' ∧ Box w' w2.heap.size ek ei et (.slice sa en sc) ∧ Sl r g (m + 1) w') (by kernel_rfl) ?_
          simp only [List.size_toArray, List.length_cons, List.length_nil, Nat.reduceAdd, Array.replicate_succ, Array.replicate_zero, List.push_toArray, List.nil_append, List.cons_append]
          refine takeD (i := 0) (d := 53) (v := .int .i64 (er : Nat)) (fuel := 22) rfl rfl (by kernel_rfl) (by kernel_rfl) (by kernel_rfl) (fun _ _ _ h => by cases h.1) (.inl ⟨by kernel_rfl, fun _ _ => by kernel_rfl⟩) hS0 ?_
          simp only [List.setIfInBounds_toArray, List.set_cons_succ, List.set_cons_zero]
          refine takeD (i := 1) (d := 54) (v := .bool true) (fuel := 21) rfl rfl (by kernel_rfl) (by kernel_rfl) (by kernel_rfl) (fun _ _ _ h => by cases h.1) (.inl ⟨by kernel_rfl, fun _ _ => by go_simp⟩) hS0 ?_
          simp only [List.setIfInBounds_toArray, List.set_cons_succ, List.set_cons_zero]
          refine takeD (i := 2) (d := 55) (v := .bool true) (fuel := 20) rfl rfl (by kernel_rfl) (by kernel_rfl) (by kernel_rfl) (fun _ _ _ h => by cases h.1) (.inl ⟨by kernel_rfl, fun _ _ => by kernel_rfl⟩) hS0 ?_
          simp only [List.setIfInBounds_toArray, List.set_cons_succ, List.set_cons_zero]
          refine takeD (i := 3) (d := 56) (v := undef) (fuel := 19) rfl rfl (by kernel_rfl) (by kernel_rfl) (by kernel_rfl) (fun _ _ _ h => by cases h.1) (.inr ⟨by kernel_rfl, rfl⟩) hS0 ?_
          simp only [List.setIfInBounds_toArray, List.set_cons_succ, List.set_cons_zero]
          refine takeD (i := 4) (d := 57) (v := undef) (fuel := 18) rfl rfl (by kernel_rfl) (by kernel_rfl) (by kernel_rfl) (fun _ _ _ h => by cases h.1) (.inr ⟨by kernel_rfl, rfl⟩) hS0 ?_
          simp only [List.setIfInBounds_toArray, List.set_cons_succ, List.set_cons_zero]
          refine takeD (i := 5) (d := 58) (v := undef) (fuel := 17) rfl rfl (by kernel_rfl) (by kernel_rfl) (by kernel_rfl) (fun _ _ _ h => by cases h.1) (.inr ⟨by kernel_rfl, rfl⟩) hS0 ?_
          simp only [List.setIfInBounds_toArray, List.set_cons_succ, List.set_cons_zero]
          refine takeD (i := 6) (d := 59) (v := undef) (fuel := 16) rfl rfl (by kernel_rfl) (by kernel_rfl) (by kernel_rfl) (fun _ _ _ h => by cases h.1) (.inr ⟨by kernel_rfl, rfl⟩) hS0 ?_
          simp only [List.setIfInBounds_toArray, List.set_cons_succ, List.set_cons_zero]
          refine takeD (i := 7) (d := 60) (v := undef) (fuel := 15) rfl rfl (by kernel_rfl) (by kernel_rfl) (by kernel_rfl) (fun _ _ _ h => by cases h.1) (.inr ⟨by kernel_rfl, rfl⟩) hS0 ?_
          simp only [List.setIfInBounds_toArray, List.set_cons_succ, List.set_cons_zero]
          refine takeD (i := 8) (d := 61) (v := undef) (fuel := 14) rfl rfl (by kernel_rfl) (by kernel_rfl) (by kernel_rfl) (fun _ _ _ h => by cases h.1) (.inr ⟨by kernel_rfl, rfl⟩) hS0 ?_
          simp only [List.setIfInBounds_toArray, List.set_cons_succ, List.set_cons_zero]
          refine takeD (i := 9) (d := 62) (v := undef) (fuel := 13) rfl rfl (by kernel_rfl) (by kernel_rfl) (by kernel_rfl) (fun _ _ _ h => by cases h.1) (.inr ⟨by kernel_rfl, rfl⟩) hS0 ?_
          simp only [List.setIfInBounds_toArray, List.set_cons_succ, List.set_cons_zero]
          refine takeD (i := 10) (d := 63) (v := undef) (fuel := 12) rfl rfl (by kernel_rfl) (by kernel_rfl) (by kernel_rfl) (fun _ _ _ h => by cases h.1) (.inr ⟨by kernel_rfl, rfl⟩) hS0 ?_
          simp only [List.setIfInBounds_toArray, List.set_cons_succ, List.set_cons_zero]
          refine takeD (i := 11) (d := 64) (v := undef) (fuel := 11) rfl rfl (by kernel_rfl) (by kernel_rfl) (by kernel_rfl) (fun _ _ _ h => by cases h.1) (.inr ⟨by kernel_rfl, rfl⟩) hS0 ?_
          simp only [List.setIfInBounds_toArray, List.set_cons_succ, List.set_cons_zero]
          refine takeD (i := 12) (d := 65) (v := undef) (fuel := 10) rfl rfl (by kernel_rfl) (by kernel_rfl) (by kernel_rfl) (fun _ _ _ h => by cases h.1) (.inr ⟨by kernel_rfl, rfl⟩) hS0 ?_
          simp only [List.setIfInBounds_toArray, List.set_cons_succ, List.set_cons_zero]
          refine takeD (i := 13) (d := 66) (v := .bool true) (fuel := 9) rfl rfl (by kernel_rfl) (by kernel_rfl) (by kernel_rfl) (fun _ _ _ h => by cases h.1) (.inl ⟨by kernel_rfl, fun _ _ => by kernel_rfl⟩) hS0 ?_
          simp only [List.setIfInBounds_toArray, List.set_cons_succ, List.set_cons_zero]
          refine takeD (i := 14) (d := 67) (v := .bool true) (fuel := 8) rfl rfl (by kernel_rfl) (by kernel_rfl) (by kernel_rfl) (fun _ _ _ h => by cases h.1) (.inl ⟨by kernel_rfl, fun _ _ => by kernel_rfl⟩) hS0 ?_
          simp only [List.setIfInBounds_toArray, List.set_cons_succ, List.set_cons_zero]
          refine takeD (i := 15) (d := 68) (v := undef) (fuel := 7) rfl rfl (by kernel_rfl) (by kernel_rfl) (by kernel_rfl) (fun _ _ _ h => by cases h.1) (.inr ⟨by kernel_rfl, rfl⟩) hS0 ?_
          simp only [List.setIfInBounds_toArray, List.set_cons_succ, List.set_cons_zero]
          refine takeD (i := 16) (d := 69) (v := undef) (fuel := 6) rfl rfl (by kernel_rfl) (by kernel_rfl) (by kernel_rfl) (fun _ _ _ h => by cases h.1) (.inr ⟨by kernel_rfl, rfl⟩) hS0 ?_
          simp only [List.setIfInBounds_toArray, List.set_cons_succ, List.set_cons_zero]
          refine takeD (i := 17) (d := 70) (v := undef) (fuel := 5) rfl rfl (by kernel_rfl) (by kernel_rfl) (by kernel_rfl) (fun _ _ _ h => by cases h.1) (.inr ⟨by kernel_rfl, rfl⟩) hS0 ?_
          simp only [List.setIfInBounds_toArray, List.set_cons_succ, List.set_cons_zero]
          refine takeD (i := 19) (d := 72) (v := undef) (fuel := 4) rfl rfl (by kernel_rfl) (by kernel_rfl) (by kernel_rfl) (fun _ _ _ h => by cases h.1) (.inr ⟨by kernel_rfl, rfl⟩) hS0 ?_
          simp only [List.setIfInBounds_toArray, List.set_cons_succ, List.set_cons_zero]
          refine takeD (i := 20) (d := 73) (v := undef) (fuel := 3) rfl rfl (by kernel_rfl) (by kernel_rfl) (by kernel_rfl) (fun _ _ _ h => by cases h.1) (.inr ⟨by kernel_rfl, rfl⟩) hS0 ?_
          simp only [List.setIfInBounds_toArray, List.set_cons_succ, List.set_cons_zero]
          refine wpAnyH_all (fuel := 2) (rs := [18]) (by kernel_rfl) (by decide) (List.forall_mem_singleton.2 ?_)
          refine wpOp_un (i := 18) (d := 71) rfl rfl (by kernel_rfl) ⟨hS0, ?_⟩
          simp only [List.setIfInBounds_toArray, List.set_cons_succ, List.set_cons_zero]
          refine takeD (i := 21) (d := 74) (v := undef) (fuel := 1) rfl rfl (by kernel_rfl) (by kernel_rfl) (by kernel_rfl) (fun _ _ _ h => by cases h.1) (.inr ⟨by kernel_rfl, rfl⟩) hS0 ?_
          simp only [List.setIfInBounds_toArray, List.set_cons_succ, List.set_cons_zero]
          refine takeD (i := 22) (d := 75) (v := .bool true) (fuel := 0) rfl rfl (by kernel_rfl) (by kernel_rfl) (by kernel_rfl) (fun _ _ _ h => by cases h.1) (.inl ⟨by kernel_rfl, fun _ _ => by kernel_rfl⟩) hS0 ?_
          simp only [List.setIfInBounds_toArray, List.set_cons_succ, List.set_cons_zero]
          refine wpAnyH_done (by kernel_rfl) ?_ _
          exact ⟨rfl, by kernel_rfl, hS0⟩
        · intro w9 hF
          simp only [setAll, List.setIfInBounds_toArray, List.set_cons_succ, List.set_cons_zero]
          have HB9 : Hid _ := hF.1
          clear hF
          go_wp2_with fail
          go_ret2
          have hbb : Below wr.heap.size wr w9 := HB2.out.trans (HB9.out.mono HB2.out.size)
          obtain ⟨acc, a1, a2, a3⟩ := HI.out.ex
          have a4 := HI.out.nb
          rw [HDR.out, HLG.out] at a3 a4
          simp only [List.append_nil, Nat.add_zero] at a3 a4
          rw [← a3, ← a4, a1]
          exact ⟨oa, oc, rfl, (a2.base HB1.out.size).kept (fun b _ b2 _ => hbb.block b b2) (fun _ _ h => h) hbb.size, HB1.out.trans ((HI.out.bel.trans (hbb.mono HI.out.bel.size)).mono HB1.out.size)⟩
      | some e0 =>
        have her : er = 0 := by rw [← HER.out, hrd]; rfl
        have her2 : ((er : Int) != 0) = false := by simp [her]
        have hev : e0 = ev := by rw [← HEV.out, hrd]; rfl
        subst hev
        clear her
        by_cases hl : en = m
        · have hl2 : ((en : Int) != (m : Int)) = false := by simp [hl]
          by_cases ha : AT = (k : Int) + 1
          · have ha2 : (AT != (k : Int) + 1) = false := by simp [ha]
            have HLG : Hid (logW m (j : Int) k (x :: L.drop (k + 1)) = (e0 :: (logW m (j : Int) (k + 1) (L.drop (k + 1))).1, x.length + 6 + (logW m (j : Int) (k + 1) (L.drop (k + 1))).2)) := logW_yes hrd ⟨by rw [HEN.out]; exact hl, by rw [HAT.out, ha]; omega⟩
            clear hl ha hrd
            go_wp2_with fail
            rw [HW2.out]
            have hS0 := HS0.out
            refine region_thenF [(53, .int .i64 (er : Nat)), (54, .bool false), (55, .bool false), (56, .pointer (some ⟨w2.heap.size, 3, none⟩)), (57, .slice sa en sc), (58, .int .i64 (en : Nat)), (59, .pointer (some ⟨r, 0, none⟩)), (60, .pointer (some ⟨r, 0, none⟩)), (61, .pointer (some ⟨r, 0, none⟩)), (62, .slice (some ⟨g, 0, none⟩) (m + 1) (m + 1)), (63, .int .i64 ((m : Int) + 1)), (64, .int .i64 (m : Int)), (65, .bool false), (66, .bool false), (67, .bool false), (68, .pointer (some ⟨w2.heap.size, 3, none⟩)), (69, .slice sa en sc), (70, .int .i64 (j : Nat)), (71, .int .i64 AT), (72, .int .i64 (k : Nat)), (73, .int .i64 ((k : Int) + 1)), (74, .bool false), (75, .bool false)] (fun w' => Below W2.heap.size W2 w' ∧ Box w' w2.heap.size ek ei et (.slice sa en sc) ∧ Sl r g (m + 1) w') ?_ ?_
            · refine wp_region_held (S := fun w' => Below W2.heap.size W2 w' ∧ Box w' w2.heap.size ek ei et (.slice sa en sc) ∧ Sl r g (m + 1) w') (by kernel_rfl) ?_
              simp only [List.size_toArray, List.length_cons, List.length_nil, Nat.reduceAdd, Array.replicate_succ, Array.replicate_zero, List.push_toArray, List.nil_append, List.cons_append]
              refine takeD (i := 0) (d := 53) (v := .int .i64 (er : Nat)) (fuel := 22) rfl rfl (by kernel_rfl) (by kernel_rfl) (by kernel_rfl) (fun _ _ _ h => by cases h.1) (.inl ⟨by kernel_rfl, fun _ _ => by kernel_rfl⟩) hS0 ?_
              simp only [List.setIfInBounds_toArray, List.set_cons_succ, List.set_cons_zero]
              refine takeD (i := 1) (d := 54) (v := .bool false) (fuel := 21) rfl rfl (by kernel_rfl) (by kernel_rfl) (by kernel_rfl) (fun _ _ _ h => by cases h.1) (.inl ⟨by kernel_rfl, fun _ _ => by go_simp⟩) hS0 ?_
              simp only [List.setIfInBounds_toArray, List.set_cons_succ, List.set_cons_zero]
              refine takeD (i := 2) (d := 55) (v := .bool false) (fuel := 20) rfl rfl (by kernel_rfl) (by kernel_rfl) (by kernel_rfl) (fun _ _ _ h => by cases h.1) (.inl ⟨by kernel_rfl, fun _ _ => by kernel_rfl⟩) hS0 ?_
              simp only [List.setIfInBounds_toArray, List.set_cons_succ, List.set_cons_zero]
              refine takeD (i := 3) (d := 56) (v := .pointer (some ⟨w2.heap.size, 3, none⟩)) (fuel := 19) rfl rfl (by kernel_rfl) (by kernel_rfl) (by kernel_rfl) (fun _ _ _ h => by cases h.1) (.inl ⟨by kernel_rfl, fun _ _ => by go_simp⟩) hS0 ?_
              simp only [List.setIfInBounds_toArray, List.set_cons_succ, List.set_cons_zero]
              refine takeD (i := 4) (d := 57) (v := .slice sa en sc) (fuel := 18) rfl rfl (by kernel_rfl) (by kernel_rfl) (by kernel_rfl) (fun _ _ _ h => by cases h.1) (.inl ⟨by kernel_rfl, fun wx h => by have z0 := h.2.1.c0; have z1 := h.2.1.c1; have z2 := h.2.1.c2; have z3 := h.2.1.c3; go_simp⟩) hS0 ?_
              simp only [List.setIfInBounds_toArray, List.set_cons_succ, List.set_cons_zero]
              refine takeD (i := 5) (d := 58) (v := .int .i64 (en : Nat)) (fuel := 17) rfl rfl (by kernel_rfl) (by kernel_rfl) (by kernel_rfl) (fun _ _ _ h => by cases h.1) (.inl ⟨by kernel_rfl, fun _ _ => by go_simp⟩) hS0 ?_
              simp only [List.setIfInBounds_toArray, List.set_cons_succ, List.set_cons_zero]
              refine takeD (i := 6) (d := 59) (v := .pointer (some ⟨r, 0, none⟩)) (fuel := 16) rfl rfl (by kernel_rfl) (by kernel_rfl) (by kernel_rfl) (fun _ _ _ h => by cases h.1) (.inl ⟨by kernel_rfl, fun _ _ => by kernel_rfl⟩) hS0 ?_
              simp only [List.setIfInBounds_toArray, List.set_cons_succ, List.set_cons_zero]
              refine takeD (i := 7) (d := 60) (v := .pointer (some ⟨r, 0, none⟩)) (fuel := 15) rfl rfl (by kernel_rfl) (by kernel_rfl) (by kernel_rfl) (fun _ _ _ h => by cases h.1) (.inl ⟨by kernel_rfl, fun _ _ => by go_simp⟩) hS0 ?_
              simp only [List.setIfInBounds_toArray, List.set_cons_succ, List.set_cons_zero]
              refine takeD (i := 8) (d := 61) (v := .pointer (some ⟨r, 0, none⟩)) (fuel := 14) rfl rfl (by kernel_rfl) (by kernel_rfl) (by kernel_rfl) (fun _ _ _ h => by cases h.1) (.inl ⟨by kernel_rfl, fun _ _ => by go_simp⟩) hS0 ?_
              simp only [List.setIfInBounds_toArray, List.set_cons_succ, List.set_cons_zero]
              refine takeD (i := 9) (d := 62) (v := .slice (some ⟨g, 0, none⟩) (m + 1) (m + 1)) (fuel := 13) rfl rfl (by kernel_rfl) (by kernel_rfl) (by kernel_rfl) (fun _ _ _ h => by cases h.1) (.inl ⟨by kernel_rfl, fun wx h => by have z0 : wx.cell? ⟨r, 0, none⟩ = _ := h.2.2; go_simp⟩) hS0 ?_
              simp only [List.setIfInBounds_toArray, List.set_cons_succ, List.set_cons_zero]
              refine takeD (i := 10) (d := 63) (v := .int .i64 ((m : Int) + 1)) (fuel := 12) rfl rfl (by kernel_rfl) (by kernel_rfl) (by kernel_rfl) (fun _ _ _ h => by cases h.1) (.inl ⟨by kernel_rfl, fun _ _ => by go_simp⟩) hS0 ?_
              simp only [List.setIfInBounds_toArray, List.set_cons_succ, List.set_cons_zero]
              refine takeD (i := 11) (d := 64) (v := .int .i64 (m : Int)) (fuel := 11) rfl rfl (by kernel_rfl) (by kernel_rfl) (by kernel_rfl) (fun _ _ _ h => by cases h.1) (.inl ⟨by kernel_rfl, fun _ _ => by go_simp⟩) hS0 ?_
              simp only [List.setIfInBounds_toArray, List.set_cons_succ, List.set_cons_zero]
              refine takeD (i := 12) (d := 65) (v := .bool false) (fuel := 10) rfl rfl (by kernel_rfl) (by kernel_rfl) (by kernel_rfl) (fun _ _ _ h => by cases h.1) (.inl ⟨by kernel_rfl, fun _ _ => by go_simp⟩) hS0 ?_
              simp only [List.setIfInBounds_toArray, List.set_cons_succ, List.set_cons_zero]
              refine takeD (i := 13) (d := 66) (v := .bool false) (fuel := 9) rfl rfl (by kernel_rfl) (by kernel_rfl) (by kernel_rfl) (fun _ _ _ h => by cases h.1) (.inl ⟨by kernel_rfl, fun _ _ => by kernel_rfl⟩) hS0 ?_
              simp only [List.setIfInBounds_toArray, List.set_cons_succ, List.set_cons_zero]
              refine takeD (i := 14) (d := 67) (v := .bool false) (fuel := 8) rfl rfl (by kernel_rfl) (by kernel_rfl) (by kernel_rfl) (fun _ _ _ h => by cases h.1) (.inl ⟨by kernel_rfl, fun _ _ => by kernel_rfl⟩) hS0 ?_
              simp only [List.setIfInBounds_toArray, List.set_cons_succ, List.set_cons_zero]
              refine takeD (i := 15) (d := 68) (v := .pointer (some ⟨w2.heap.size, 3, none⟩)) (fuel := 7) rfl rfl (by kernel_rfl) (by kernel_rfl) (by kernel_rfl) (fun _ _ _ h => by cases h.1) (.inl ⟨by kernel_rfl, fun _ _ => by go_simp⟩) hS0 ?_
              simp only [List.setIfInBounds_toArray, List.set_cons_succ, List.set_cons_zero]
              refine takeD (i := 16) (d := 69) (v := .slice sa en sc) (fuel := 6) rfl rfl (by kernel_rfl) (by kernel_rfl) (by kernel_rfl) (fun _ _ _ h => by cases h.1) (.inl ⟨by kernel_rfl, fun wx h => by have z0 := h.2.1.c0; have z1 := h.2.1.c1; have z2 := h.2.1.c2; have z3 := h.2.1.c3; go_simp⟩) hS0 ?_
              simp only [List.setIfInBounds_toArray, List.set_cons_succ, List.set_cons_zero]
              refine takeD (i := 17) (d := 70) (v := .int .i64 (j : Nat)) (fuel := 5) rfl rfl (by kernel_rfl) (by kernel_rfl) (by kernel_rfl) (fun _ _ _ h => by cases h.1) (.inl ⟨by kernel_rfl, fun _ _ => by kernel_rfl⟩) hS0 ?_
              simp only [List.setIfInBounds_toArray, List.set_cons_succ, List.set_cons_zero]
              refine takeD (i := 19) (d := 72) (v := .int .i64 (k : Nat)) (fuel := 4) rfl rfl (by kernel_rfl) (by kernel_rfl) (by kernel_rfl) (fun _ _ _ h => by cases h.1) (.inl ⟨by kernel_rfl, fun _ _ => by kernel_rfl⟩) hS0 ?_
              simp only [List.setIfInBounds_toArray, List.set_cons_succ, List.set_cons_zero]
              refine takeD (i := 20) (d := 73) (v := .int .i64 ((k : Int) + 1)) (fuel := 3) rfl rfl (by kernel_rfl) (by kernel_rfl) (by kernel_rfl) (fun _ _ _ h => by cases h.1) (.inl ⟨by kernel_rfl, fun _ _ => by go_simp⟩) hS0 ?_
              simp only [List.setIfInBounds_toArray, List.set_cons_succ, List.set_cons_zero]
              refine oneC (i := 18) (d := 71) (f := 69) (args := #[.slice sa en sc, .int .i64 (j : Nat)]) (v := .int .i64 AT) (fuel := 2) rfl rfl (by kernel_rfl) (by kernel_rfl) (fun _ => by kernel_rfl) hS0 (fun wx h => HAt.out wx h) (fun wz hS118 => ?_)
              simp only [List.setIfInBounds_toArray, List.set_cons_succ, List.set_cons_zero]
              refine takeD (i := 21) (d := 74) (v := .bool false) (fuel := 1) rfl rfl (by kernel_rfl) (by kernel_rfl) (by kernel_rfl) (fun _ _ _ h => by cases h.1) (.inl ⟨by kernel_rfl, fun _ _ => by go_simp⟩) hS118 ?_
              simp only [List.setIfInBounds_toArray, List.set_cons_succ, List.set_cons_zero]
              refine takeD (i := 22) (d := 75) (v := .bool false) (fuel := 0) rfl rfl (by kernel_rfl) (by kernel_rfl) (by kernel_rfl) (fun _ _ _ h => by cases h.1) (.inl ⟨by kernel_rfl, fun _ _ => by kernel_rfl⟩) hS118 ?_
              simp only [List.setIfInBounds_toArray, List.set_cons_succ, List.set_cons_zero]
              refine wpAnyH_done (by kernel_rfl) ?_ _
              exact ⟨rfl, by kernel_rfl, hS118⟩
            · intro w9 hF
              simp only [setAll, List.setIfInBounds_toArray, List.set_cons_succ, List.set_cons_zero]
              have HB9 : Hid _ := hF.1
              have hbx := hF.2.1
              have z0 := hbx.c0
              have z1 := hbx.c1
              have z2 := hbx.c2
              have z3 := hbx.c3
              have hbb : Below wr.heap.size wr w9 := HB2.out.trans (HB9.out.mono HB2.out.size)
              obtain ⟨acc, a1, a2, a3⟩ := HI.out.ex
              have a4 := HI.out.nb
              rw [HDR.out, HLG.out] at a3 a4
              simp only at a3 a4
              have hri9 : RI w9 (.slice sa en sc) e0.s := RI.later HRI.out HB9.out
              obtain ⟨W3, HW3⟩ : ∃ W3, Hid (w9.alloc (.cells #[.int .i64 ek, .int .i64 ei, .int .i64 et, .slice sa en sc] 33) = W3) := ⟨_, rfl⟩
              have hb3 : Below w9.heap.size w9 W3 := by rw [← HW3.out]; exact (Below.refl _ _).alloc (Nat.le_refl _) _
              have hb13 : Below wr.heap.size wr W3 := hbb.trans (hb3.mono hbb.size)
              have l3 : LogR w1.heap.size W3 (fun _ => False) (.slice oa k oc) acc := a2.kept (fun b _ b2 _ => hb13.block b b2) (fun _ _ h => h) hb13.size
              have hwr : w1.heap.size ≤ wr.heap.size := HI.out.bel.size
              have hown3 : ∀ g, (Value.slice oa k oc).ownBlock = some g → g < wr.heap.size := fun g hg => by
                obtain ⟨P, _, q2, _⟩ := a2
                exact (World.ownsRow.lt q2 g hg).2
              obtain ⟨v', W4, hrun, hl4, hgr, hown, a', c', hv'⟩ := l3.push (by rw [a1]; omega) (Nat.le_trans hwr hb13.size) (fun b hb => hb.elim) e0 sa sc w9.heap.size (fun q u hq => by
                rw [add0, ← HW3.out, cell_of_row _ _ _ _ 33 (0, 0) (World.alloc_heap_new w9 _)]
                simp only [evRow] at hq
                rw [HEK.out, HEI.out, HET.out, HEN.out] at hq
                rw [← Array.getElem?_toList]
                exact hq) (by rw [HEN.out]; exact hri9.later hb3) HSL.out (fun b hb hl => by
                have h5 := HSV.out b hb
                have h6 := hb3.size
                have h7 : b.block < w9.heap.size := by
                  rw [HEN.out] at hl
                  obtain ⟨a9, c9, e9, _, _, hc9⟩ := hri9
                  simp only [Value.slice.injEq] at e9
                  obtain ⟨rfl, _, rfl⟩ := e9
                  obtain ⟨bb, off9, e8, hc8⟩ := hc9 0 (by rw [HEN.out]; exact hl)
                  rw [hb] at e8
                  cases e8
                  exact World.block_lt_of_cell? w9 _ hc8
                exact ⟨by omega, by omega, fun h => h, fun e => by have := hown3 _ e; omega⟩)
              rw [List.length_append, a1] at hv'
              have hv2 : v' = .slice a' (k + 1) c' := hv'
              subst hv2
              clear hv'
              have HN4 : Hid (LoI w1.heap.size w1 m (j : Int) L RES (k + 1) (nb + x.length + 6) (.slice a' (k + 1) c') W4) := by
                have hb4 : Below w1.heap.size w1 W3 := HI.out.bel.trans (hb13.mono hwr)
                refine ⟨⟨acc ++ [e0], by rw [List.length_append, a1]; rfl, hl4, ?_⟩, ?_, hb4.trans ⟨hgr.os, hgr.tape, hgr.output, hgr.size, fun b hb => hgr.block b (by have := hb4.size; omega) (fun e => by have := (hown b e.symm).1; omega)⟩⟩
                · rw [List.append_assoc]
                  exact a3
                · omega
              have cx4 : W4.cell? ⟨gb, off + k, none⟩ = some (.string ⟨x.toArray⟩) := by
                have h1 : W3.cell? ⟨gb, off + k, none⟩ = some (.string ⟨x.toArray⟩) := cell_later hb13 cxr
                have hgl : gb < w1.heap.size := World.block_lt_of_cell? w1 ⟨gb, off + k, none⟩ cx
                rw [World.cell?_of_block (w := W3) (hgr.block gb (by have := hb13.size; omega) (fun e => by have := (hown gb e.symm).1; omega))]
                exact h1
              rw [← HW3.out] at hrun
              have HRUN : Hid _ := hrun
              have HHB : Hid (nb + x.length + 6 ≤ 800000) := by show _ ≤ _; have := HRB.out; omega
              have hnx : nb + x.length + 6 ≤ 800000 := HHB.out
              clear hF hbx hri9 hb3 hb13 l3 hl4 hgr hown hrun a1 a2 a3 a4 hown3 hbb HI HRI HB9
              go_wp2_with (at_builtin; refine Dk.wpList_append_run rfl _ _ 41 rfl 81 rfl _ _ _ _ rfl rfl HRUN.out ?_)
              go_roundw
              case rel => exact ⟨k + 1, nb + x.length + 6, by omega, by go_num, by go_num, ⟨_, _, rfl⟩, HN4⟩
              case measure => simp [intOf]; omega
          · have ha2 : (AT != (k : Int) + 1) = true := by simpa using ha
            have HLG : Hid (logW m (j : Int) k (x :: L.drop (k + 1)) = ([], 0)) := logW_no hrd (fun hh => ha (by rw [← HAT.out, hh.2]; omega))
            clear hl ha hrd
            go_wp2_with fail
            rw [HW2.out]
            have hS0 := HS0.out
            refine region_thenF [(53, .int .i64 (er : Nat)), (54, .bool false), (55, .bool false), (56, .pointer (some ⟨w2.heap.size, 3, none⟩)), (57, .slice sa en sc), (58, .int .i64 (en : Nat)), (59, .pointer (some ⟨r, 0, none⟩)), (60, .pointer (some ⟨r, 0, none⟩)), (61, .pointer (some ⟨r, 0, none⟩)), (62, .slice (some ⟨g, 0, none⟩) (m + 1) (m + 1)), (63, .int .i64 ((m : Int) + 1)), (64, .int .i64 (m : Int)), (65, .bool false), (66, .bool false), (67, .bool false), (68, .pointer (some ⟨w2.heap.size, 3, none⟩)), (69, .slice sa en sc), (70, .int .i64 (j : Nat)), (71, .int .i64 AT), (72, .int .i64 (k : Nat)), (73, .int .i64 ((k : Int) + 1)), (74, .bool true), (75, .bool true)] (fun w' => Below W2.heap.size W2 w' ∧ Box w' w2.heap.size ek ei et (.slice sa en sc) ∧ Sl r g (m + 1) w') ?_ ?_
            · refine wp_region_held (S := fun w' => Below W2.heap.size W2 w' ∧ Box w' w2.heap.size ek ei et (.slice sa en sc) ∧ Sl r g (m + 1) w') (by kernel_rfl) ?_
              simp only [List.size_toArray, List.length_cons, List.length_nil, Nat.reduceAdd, Array.replicate_succ, Array.replicate_zero, List.push_toArray, List.nil_append, List.cons_append]
              refine takeD (i := 0) (d := 53) (v := .int .i64 (er : Nat)) (fuel := 22) rfl rfl (by kernel_rfl) (by kernel_rfl) (by kernel_rfl) (fun _ _ _ h => by cases h.1) (.inl ⟨by kernel_rfl, fun _ _ => by kernel_rfl⟩) hS0 ?_
              simp only [List.setIfInBounds_toArray, List.set_cons_succ, List.set_cons_zero]
              refine takeD (i := 1) (d := 54) (v := .bool false) (fuel := 21) rfl rfl (by kernel_rfl) (by kernel_rfl) (by kernel_rfl) (fun _ _ _ h => by cases h.1) (.inl ⟨by kernel_rfl, fun _ _ => by go_simp⟩) hS0 ?_
              simp only [List.setIfInBounds_toArray, List.set_cons_succ, List.set_cons_zero]
              refine takeD (i := 2) (d := 55) (v := .bool false) (fuel := 20) rfl rfl (by kernel_rfl) (by kernel_rfl) (by kernel_rfl) (fun _ _ _ h => by cases h.1) (.inl ⟨by kernel_rfl, fun _ _ => by kernel_rfl⟩) hS0 ?_
              simp only [List.setIfInBounds_toArray, List.set_cons_succ, List.set_cons_zero]
              refine takeD (i := 3) (d := 56) (v := .pointer (some ⟨w2.heap.size, 3, none⟩)) (fuel := 19) rfl rfl (by kernel_rfl) (by kernel_rfl) (by kernel_rfl) (fun _ _ _ h => by cases h.1) (.inl ⟨by kernel_rfl, fun _ _ => by go_simp⟩) hS0 ?_
              simp only [List.setIfInBounds_toArray, List.set_cons_succ, List.set_cons_zero]
              refine takeD (i := 4) (d := 57) (v := .slice sa en sc) (fuel := 18) rfl rfl (by kernel_rfl) (by kernel_rfl) (by kernel_rfl) (fun _ _ _ h => by cases h.1) (.inl ⟨by kernel_rfl, fun wx h => by have z0 := h.2.1.c0; have z1 := h.2.1.c1; have z2 := h.2.1.c2; have z3 := h.2.1.c3; go_simp⟩) hS0 ?_
              simp only [List.setIfInBounds_toArray, List.set_cons_succ, List.set_cons_zero]
              refine takeD (i := 5) (d := 58) (v := .int .i64 (en : Nat)) (fuel := 17) rfl rfl (by kernel_rfl) (by kernel_rfl) (by kernel_rfl) (fun _ _ _ h => by cases h.1) (.inl ⟨by kernel_rfl, fun _ _ => by go_simp⟩) hS0 ?_
              simp only [List.setIfInBounds_toArray, List.set_cons_succ, List.set_cons_zero]
              refine takeD (i := 6) (d := 59) (v := .pointer (some ⟨r, 0, none⟩)) (fuel := 16) rfl rfl (by kernel_rfl) (by kernel_rfl) (by kernel_rfl) (fun _ _ _ h => by cases h.1) (.inl ⟨by kernel_rfl, fun _ _ => by kernel_rfl⟩) hS0 ?_
              simp only [List.setIfInBounds_toArray, List.set_cons_succ, List.set_cons_zero]
              refine takeD (i := 7) (d := 60) (v := .pointer (some ⟨r, 0, none⟩)) (fuel := 15) rfl rfl (by kernel_rfl) (by kernel_rfl) (by kernel_rfl) (fun _ _ _ h => by cases h.1) (.inl ⟨by kernel_rfl, fun _ _ => by go_simp⟩) hS0 ?_
              simp only [List.setIfInBounds_toArray, List.set_cons_succ, List.set_cons_zero]
              refine takeD (i := 8) (d := 61) (v := .pointer (some ⟨r, 0, none⟩)) (fuel := 14) rfl rfl (by kernel_rfl) (by kernel_rfl) (by kernel_rfl) (fun _ _ _ h => by cases h.1) (.inl ⟨by kernel_rfl, fun _ _ => by go_simp⟩) hS0 ?_
              simp only [List.setIfInBounds_toArray, List.set_cons_succ, List.set_cons_zero]
              refine takeD (i := 9) (d := 62) (v := .slice (some ⟨g, 0, none⟩) (m + 1) (m + 1)) (fuel := 13) rfl rfl (by kernel_rfl) (by kernel_rfl) (by kernel_rfl) (fun _ _ _ h => by cases h.1) (.inl ⟨by kernel_rfl, fun wx h => by have z0 : wx.cell? ⟨r, 0, none⟩ = _ := h.2.2; go_simp⟩) hS0 ?_
              simp only [List.setIfInBounds_toArray, List.set_cons_succ, List.set_cons_zero]
              refine takeD (i := 10) (d := 63) (v := .int .i64 ((m : Int) + 1)) (fuel := 12) rfl rfl (by kernel_rfl) (by kernel_rfl) (by kernel_rfl) (fun _ _ _ h => by cases h.1) (.inl ⟨by kernel_rfl, fun _ _ => by go_simp⟩) hS0 ?_
              simp only [List.setIfInBounds_toArray, List.set_cons_succ, List.set_cons_zero]
              refine takeD (i := 11) (d := 64) (v := .int .i64 (m : Int)) (fuel := 11) rfl rfl (by kernel_rfl) (by kernel_rfl) (by kernel_rfl) (fun _ _ _ h => by cases h.1) (.inl ⟨by kernel_rfl, fun _ _ => by go_simp⟩) hS0 ?_
              simp only [List.setIfInBounds_toArray, List.set_cons_succ, List.set_cons_zero]
              refine takeD (i := 12) (d := 65) (v := .bool false) (fuel := 10) rfl rfl (by kernel_rfl) (by kernel_rfl) (by kernel_rfl) (fun _ _ _ h => by cases h.1) (.inl ⟨by kernel_rfl, fun _ _ => by go_simp⟩) hS0 ?_
              simp only [List.setIfInBounds_toArray, List.set_cons_succ, List.set_cons_zero]
              refine takeD (i := 13) (d := 66) (v := .bool false) (fuel := 9) rfl rfl (by kernel_rfl) (by kernel_rfl) (by kernel_rfl) (fun _ _ _ h => by cases h.1) (.inl ⟨by kernel_rfl, fun _ _ => by kernel_rfl⟩) hS0 ?_
              simp only [List.setIfInBounds_toArray, List.set_cons_succ, List.set_cons_zero]
              refine takeD (i := 14) (d := 67) (v := .bool false) (fuel := 8) rfl rfl (by kernel_rfl) (by kernel_rfl) (by kernel_rfl) (fun _ _ _ h => by cases h.1) (.inl ⟨by kernel_rfl, fun _ _ => by kernel_rfl⟩) hS0 ?_
              simp only [List.setIfInBounds_toArray, List.set_cons_succ, List.set_cons_zero]
              refine takeD (i := 15) (d := 68) (v := .pointer (some ⟨w2.heap.size, 3, none⟩)) (fuel := 7) rfl rfl (by kernel_rfl) (by kernel_rfl) (by kernel_rfl) (fun _ _ _ h => by cases h.1) (.inl ⟨by kernel_rfl, fun _ _ => by go_simp⟩) hS0 ?_
              simp only [List.setIfInBounds_toArray, List.set_cons_succ, List.set_cons_zero]
              refine takeD (i := 16) (d := 69) (v := .slice sa en sc) (fuel := 6) rfl rfl (by kernel_rfl) (by kernel_rfl) (by kernel_rfl) (fun _ _ _ h => by cases h.1) (.inl ⟨by kernel_rfl, fun wx h => by have z0 := h.2.1.c0; have z1 := h.2.1.c1; have z2 := h.2.1.c2; have z3 := h.2.1.c3; go_simp⟩) hS0 ?_
              simp only [List.setIfInBounds_toArray, List.set_cons_succ, List.set_cons_zero]
              refine takeD (i := 17) (d := 70) (v := .int .i64 (j : Nat)) (fuel := 5) rfl rfl (by kernel_rfl) (by kernel_rfl) (by kernel_rfl) (fun _ _ _ h => by cases h.1) (.inl ⟨by kernel_rfl, fun _ _ => by kernel_rfl⟩) hS0 ?_
              simp only [List.setIfInBounds_toArray, List.set_cons_succ, List.set_cons_zero]
              refine takeD (i := 19) (d := 72) (v := .int .i64 (k : Nat)) (fuel := 4) rfl rfl (by kernel_rfl) (by kernel_rfl) (by kernel_rfl) (fun _ _ _ h => by cases h.1) (.inl ⟨by kernel_rfl, fun _ _ => by kernel_rfl⟩) hS0 ?_
              simp only [List.setIfInBounds_toArray, List.set_cons_succ, List.set_cons_zero]
              refine takeD (i := 20) (d := 73) (v := .int .i64 ((k : Int) + 1)) (fuel := 3) rfl rfl (by kernel_rfl) (by kernel_rfl) (by kernel_rfl) (fun _ _ _ h => by cases h.1) (.inl ⟨by kernel_rfl, fun _ _ => by go_simp⟩) hS0 ?_
              simp only [List.setIfInBounds_toArray, List.set_cons_succ, List.set_cons_zero]
              refine oneC (i := 18) (d := 71) (f := 69) (args := #[.slice sa en sc, .int .i64 (j : Nat)]) (v := .int .i64 AT) (fuel := 2) rfl rfl (by kernel_rfl) (by kernel_rfl) (fun _ => by kernel_rfl) hS0 (fun wx h => HAt.out wx h) (fun wz hS118 => ?_)
              simp only [List.setIfInBounds_toArray, List.set_cons_succ, List.set_cons_zero]
              refine takeD (i := 21) (d := 74) (v := .bool true) (fuel := 1) rfl rfl (by kernel_rfl) (by kernel_rfl) (by kernel_rfl) (fun _ _ _ h => by cases h.1) (.inl ⟨by kernel_rfl, fun _ _ => by go_simp⟩) hS118 ?_
              simp only [List.setIfInBounds_toArray, List.set_cons_succ, List.set_cons_zero]
              refine takeD (i := 22) (d := 75) (v := .bool true) (fuel := 0) rfl rfl (by kernel_rfl) (by kernel_rfl) (by kernel_rfl) (fun _ _ _ h => by cases h.1) (.inl ⟨by kernel_rfl, fun _ _ => by kernel_rfl⟩) hS118 ?_
              simp only [List.setIfInBounds_toArray, List.set_cons_succ, List.set_cons_zero]
              refine wpAnyH_done (by kernel_rfl) ?_ _
              exact ⟨rfl, by kernel_rfl, hS118⟩
            · intro w9 hF
              simp only [setAll, List.setIfInBounds_toArray, List.set_cons_succ, List.set_cons_zero]
              have HB9 : Hid _ := hF.1
              clear hF
              go_wp2_with fail
              go_ret2
              have hbb : Below wr.heap.size wr w9 := HB2.out.trans (HB9.out.mono HB2.out.size)
              obtain ⟨acc, a1, a2, a3⟩ := HI.out.ex
              have a4 := HI.out.nb
              rw [HDR.out, HLG.out] at a3 a4
              simp only [List.append_nil, Nat.add_zero] at a3 a4
              rw [← a3, ← a4, a1]
              exact ⟨oa, oc, rfl, (a2.base HB1.out.size).kept (fun b _ b2 _ => hbb.block b b2) (fun _ _ h => h) hbb.size, HB1.out.trans ((HI.out.bel.trans (hbb.mono HI.out.bel.size)).mono HB1.out.size)⟩
        · have hl2 : ((en : Int) != (m : Int)) = true := by simp; omega
          have HLG : Hid (logW m (j : Int) k (x :: L.drop (k + 1)) = ([], 0)) := logW_no hrd (fun hh => hl (by rw [← HEN.out]; exact hh.1))
          clear hl hrd
          go_wp2_with fail
          rw [HW2.out]
          have hS0 := HS0.out
          refine region_thenF [(53, .int .i64 (er : Nat)), (54, .bool false), (55, .bool false), (56, .pointer (some ⟨w2.heap.size, 3, none⟩)), (57, .slice sa en sc), (58, .int .i64 (en : Nat)), (59, .pointer (some ⟨r, 0, none⟩)), (60, .pointer (some ⟨r, 0, none⟩)), (61, .pointer (some ⟨r, 0, none⟩)), (62, .slice (some ⟨g, 0, none⟩) (m + 1) (m + 1)), (63, .int .i64 ((m : Int) + 1)), (64, .int .i64 (m : Int)), (65, .bool true), (66, .bool true), (67, .bool true), (68, undef), (69, undef), (70, undef), (71, undef), (72, undef), (73, undef), (74, undef), (75, .bool true)] (fun w' => Below W2.heap.size W2 w' ∧ Box w' w2.heap.size ek ei et (.slice sa en sc) ∧ Sl r g (m + 1) w') ?_ ?_
          · refine wp_region_held (S := fun w' => Below W2.heap.size W2 w' ∧ Box w' w2.heap.size ek ei et (.slice sa en sc) ∧ Sl r g (m + 1) w') (by kernel_rfl) ?_
            simp only [List.size_toArray, List.length_cons, List.length_nil, Nat.reduceAdd, Array.replicate_succ, Array.replicate_zero, List.push_toArray, List.nil_append, List.cons_append]
            refine takeD (i := 0) (d := 53) (v := .int .i64 (er : Nat)) (fuel := 22) rfl rfl (by kernel_rfl) (by kernel_rfl) (by kernel_rfl) (fun _ _ _ h => by cases h.1) (.inl ⟨by kernel_rfl, fun _ _ => by kernel_rfl⟩) hS0 ?_
            simp only [List.setIfInBounds_toArray, List.set_cons_succ, List.set_cons_zero]
            refine takeD (i := 1) (d := 54) (v := .bool false) (fuel := 21) rfl rfl (by kernel_rfl) (by kernel_rfl) (by kernel_rfl) (fun _ _ _ h => by cases h.1) (.inl ⟨by kernel_rfl, fun _ _ => by go_simp⟩) hS0 ?_
            simp only [List.setIfInBounds_toArray, List.set_cons_succ, List.set_cons_zero]
            refine takeD (i := 2) (d := 55) (v := .bool false) (fuel := 20) rfl rfl (by kernel_rfl) (by kernel_rfl) (by kernel_rfl) (fun _ _ _ h => by cases h.1) (.inl ⟨by kernel_rfl, fun _ _ => by kernel_rfl⟩) hS0 ?_
            simp only [List.setIfInBounds_toArray, List.set_cons_succ, List.set_cons_zero]
            refine takeD (i := 3) (d := 56) (v := .pointer (some ⟨w2.heap.size, 3, none⟩)) (fuel := 19) rfl rfl (by kernel_rfl) (by kernel_rfl) (by kernel_rfl) (fun _ _ _ h => by cases h.1) (.inl ⟨by kernel_rfl, fun _ _ => by go_simp⟩) hS0 ?_
            simp only [List.setIfInBounds_toArray, List.set_cons_succ, List.set_cons_zero]
            refine takeD (i := 4) (d := 57) (v := .slice sa en sc) (fuel := 18) rfl rfl (by kernel_rfl) (by kernel_rfl) (by kernel_rfl) (fun _ _ _ h => by cases h.1) (.inl ⟨by kernel_rfl, fun wx h => by have z0 := h.2.1.c0; have z1 := h.2.1.c1; have z2 := h.2.1.c2; have z3 := h.2.1.c3; go_simp⟩) hS0 ?_
            simp only [List.setIfInBounds_toArray, List.set_cons_succ, List.set_cons_zero]
            refine takeD (i := 5) (d := 58) (v := .int .i64 (en : Nat)) (fuel := 17) rfl rfl (by kernel_rfl) (by kernel_rfl) (by kernel_rfl) (fun _ _ _ h => by cases h.1) (.inl ⟨by kernel_rfl, fun _ _ => by go_simp⟩) hS0 ?_
            simp only [List.setIfInBounds_toArray, List.set_cons_succ, List.set_cons_zero]
            refine takeD (i := 6) (d := 59) (v := .pointer (some ⟨r, 0, none⟩)) (fuel := 16) rfl rfl (by kernel_rfl) (by kernel_rfl) (by kernel_rfl) (fun _ _ _ h => by cases h.1) (.inl ⟨by kernel_rfl, fun _ _ => by kernel_rfl⟩) hS0 ?_
            simp only [List.setIfInBounds_toArray, List.set_cons_succ, List.set_cons_zero]
            refine takeD (i := 7) (d := 60) (v := .pointer (some ⟨r, 0, none⟩)) (fuel := 15) rfl rfl (by kernel_rfl) (by kernel_rfl) (by kernel_rfl) (fun _ _ _ h => by cases h.1) (.inl ⟨by kernel_rfl, fun _ _ => by go_simp⟩) hS0 ?_
            simp only [List.setIfInBounds_toArray, List.set_cons_succ, List.set_cons_zero]
            refine takeD (i := 8) (d := 61) (v := .pointer (some ⟨r, 0, none⟩)) (fuel := 14) rfl rfl (by kernel_rfl) (by kernel_rfl) (by kernel_rfl) (fun _ _ _ h => by cases h.1) (.inl ⟨by kernel_rfl, fun _ _ => by go_simp⟩) hS0 ?_
            simp only [List.setIfInBounds_toArray, List.set_cons_succ, List.set_cons_zero]
            refine takeD (i := 9) (d := 62) (v := .slice (some ⟨g, 0, none⟩) (m + 1) (m + 1)) (fuel := 13) rfl rfl (by kernel_rfl) (by kernel_rfl) (by kernel_rfl) (fun _ _ _ h => by cases h.1) (.inl ⟨by kernel_rfl, fun wx h => by have z0 : wx.cell? ⟨r, 0, none⟩ = _ := h.2.2; go_simp⟩) hS0 ?_
            simp only [List.setIfInBounds_toArray, List.set_cons_succ, List.set_cons_zero]
            refine takeD (i := 10) (d := 63) (v := .int .i64 ((m : Int) + 1)) (fuel := 12) rfl rfl (by kernel_rfl) (by kernel_rfl) (by kernel_rfl) (fun _ _ _ h => by cases h.1) (.inl ⟨by kernel_rfl, fun _ _ => by go_simp⟩) hS0 ?_
            simp only [List.setIfInBounds_toArray, List.set_cons_succ, List.set_cons_zero]
            refine takeD (i := 11) (d := 64) (v := .int .i64 (m : Int)) (fuel := 11) rfl rfl (by kernel_rfl) (by kernel_rfl) (by kernel_rfl) (fun _ _ _ h => by cases h.1) (.inl ⟨by kernel_rfl, fun _ _ => by go_simp⟩) hS0 ?_
            simp only [List.setIfInBounds_toArray, List.set_cons_succ, List.set_cons_zero]
            refine takeD (i := 12) (d := 65) (v := .bool true) (fuel := 10) rfl rfl (by kernel_rfl) (by kernel_rfl) (by kernel_rfl) (fun _ _ _ h => by cases h.1) (.inl ⟨by kernel_rfl, fun _ _ => by go_simp⟩) hS0 ?_
            simp only [List.setIfInBounds_toArray, List.set_cons_succ, List.set_cons_zero]
            refine takeD (i := 13) (d := 66) (v := .bool true) (fuel := 9) rfl rfl (by kernel_rfl) (by kernel_rfl) (by kernel_rfl) (fun _ _ _ h => by cases h.1) (.inl ⟨by kernel_rfl, fun _ _ => by kernel_rfl⟩) hS0 ?_
            simp only [List.setIfInBounds_toArray, List.set_cons_succ, List.set_cons_zero]
            refine takeD (i := 14) (d := 67) (v := .bool true) (fuel := 8) rfl rfl (by kernel_rfl) (by kernel_rfl) (by kernel_rfl) (fun _ _ _ h => by cases h.1) (.inl ⟨by kernel_rfl, fun _ _ => by kernel_rfl⟩) hS0 ?_
            simp only [List.setIfInBounds_toArray, List.set_cons_succ, List.set_cons_zero]
            refine takeD (i := 15) (d := 68) (v := undef) (fuel := 7) rfl rfl (by kernel_rfl) (by kernel_rfl) (by kernel_rfl) (fun _ _ _ h => by cases h.1) (.inr ⟨by kernel_rfl, rfl⟩) hS0 ?_
            simp only [List.setIfInBounds_toArray, List.set_cons_succ, List.set_cons_zero]
            refine takeD (i := 16) (d := 69) (v := undef) (fuel := 6) rfl rfl (by kernel_rfl) (by kernel_rfl) (by kernel_rfl) (fun _ _ _ h => by cases h.1) (.inr ⟨by kernel_rfl, rfl⟩) hS0 ?_
            simp only [List.setIfInBounds_toArray, List.set_cons_succ, List.set_cons_zero]
            refine takeD (i := 17) (d := 70) (v := undef) (fuel := 5) rfl rfl (by kernel_rfl) (by kernel_rfl) (by kernel_rfl) (fun _ _ _ h => by cases h.1) (.inr ⟨by kernel_rfl, rfl⟩) hS0 ?_
            simp only [List.setIfInBounds_toArray, List.set_cons_succ, List.set_cons_zero]
            refine takeD (i := 19) (d := 72) (v := undef) (fuel := 4) rfl rfl (by kernel_rfl) (by kernel_rfl) (by kernel_rfl) (fun _ _ _ h => by cases h.1) (.inr ⟨by kernel_rfl, rfl⟩) hS0 ?_
            simp only [List.setIfInBounds_toArray, List.set_cons_succ, List.set_cons_zero]
            refine takeD (i := 20) (d := 73) (v := undef) (fuel := 3) rfl rfl (by kernel_rfl) (by kernel_rfl) (by kernel_rfl) (fun _ _ _ h => by cases h.1) (.inr ⟨by kernel_rfl, rfl⟩) hS0 ?_
            simp only [List.setIfInBounds_toArray, List.set_cons_succ, List.set_cons_zero]
            refine wpAnyH_all (fuel := 2) (rs := [18]) (by kernel_rfl) (by decide) (List.forall_mem_singleton.2 ?_)
            refine wpOp_un (i := 18) (d := 71) rfl rfl (by kernel_rfl) ⟨hS0, ?_⟩
            simp only [List.setIfInBounds_toArray, List.set_cons_succ, List.set_cons_zero]
            refine takeD (i := 21) (d := 74) (v := undef) (fuel := 1) rfl rfl (by kernel_rfl) (by kernel_rfl) (by kernel_rfl) (fun _ _ _ h => by cases h.1) (.inr ⟨by kernel_rfl, rfl⟩) hS0 ?_
            simp only [List.setIfInBounds_toArray, List.set_cons_succ, List.set_cons_zero]
            refine takeD (i := 22) (d := 75) (v := .bool true) (fuel := 0) rfl rfl (by kernel_rfl) (by kernel_rfl) (by kernel_rfl) (fun _ _ _ h => by cases h.1) (.inl ⟨by kernel_rfl, fun _ _ => by kernel_rfl⟩) hS0 ?_
            simp only [List.setIfInBounds_toArray, List.set_cons_succ, List.set_cons_zero]
            refine wpAnyH_done (by kernel_rfl) ?_ _
            exact ⟨rfl, by kernel_rfl, hS0⟩
          · intro w9 hF
            simp only [setAll, List.setIfInBounds_toArray, List.set_cons_succ, List.set_cons_zero]
            have HB9 : Hid _ := hF.1
            clear hF
            go_wp2_with fail
            go_ret2
            have hbb : Below wr.heap.size wr w9 := HB2.out.trans (HB9.out.mono HB2.out.size)
            obtain ⟨acc, a1, a2, a3⟩ := HI.out.ex
            have a4 := HI.out.nb
            rw [HDR.out, HLG.out] at a3 a4
            simp only [List.append_nil, Nat.add_zero] at a3 a4
            rw [← a3, ← a4, a1]
            exact ⟨oa, oc, rfl, (a2.base HB1.out.size).kept (fun b _ b2 _ => hbb.block b b2) (fun _ _ h => h) hbb.size, HB1.out.trans ((HI.out.bel.trans (hbb.mono HI.out.bel.size)).mono HB1.out.size)⟩
    · have hkn : k = n := by omega
      subst hkn
      go_wp2_with fail
      go_ret2
      obtain ⟨acc, a1, a2, a3⟩ := HI.out.ex
      have a4 := HI.out.nb
      rw [← HN.out, List.drop_length, logW] at a3 a4
      simp only [List.append_nil, Nat.add_zero] at a3 a4
      rw [← a3, ← a4, a1]
      exact ⟨oa, oc, rfl, a2.base HB1.out.size, HB1.out.trans (HI.out.bel.mono HB1.out.size)⟩
end Go.Proofs.YtijkgdbabikojaaGreat

