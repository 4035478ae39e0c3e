/- The walks over merge.Merge of no branches, and of too many, and over merge.Check. -/
import Derived.Test.YtamfpmpooaejkaaNh
namespace Go.Proofs.Ytamfpmpooaejkaa
open Go.RowKit Go.Shelf
set_option maxRecDepth 1000000
set_option linter.unusedVariables false
attribute [local go_sem] Oper.semAt_some

theorem merge_out (a : Option Addr) (n c : Nat) (w : World) (hn : ¬ (1 ≤ n ∧ n ≤ 64)) : Calls Try.prog 11 #[.slice a n c] w fun e w' => e = .returned (.tuple #[.slice none 0 0, .slice none 0 0]) ∧ w' = w := by
  have HRC : Hid (Calls Try.prog 24 #[.int .i64 (n : Int)] w fun e w' => e = .returned (.bool false) ∧ w' = w) := by
    have := rightCount_any (n : Int) w
    rw [decide_eq_false (show ¬ (1 ≤ (n : Int) ∧ (n : Int) ≤ 64) by omega)] at this
    exact this
  clear hn
  refine (callsIn_wide (n := 0)).1 ?_
  refine callsIn_of_wp_marks Try.func11 rfl trivial ?_ rfl
  simp only [Try.ntmps11, List.size_toArray, List.length_cons, List.length_nil, Nat.reduceAdd, Nat.reduceSub, Array.replicate_succ, Array.replicate_zero, List.push_toArray, List.append_toArray, List.nil_append, List.cons_append]
  gi_wp2
  refine ⟨trivial, rfl, (callsIn_wide.2 HRC.out).mono ?_⟩
  rintro e w1 ⟨rfl, h⟩
  obtain rfl := h.symm
  gi_wp2
  refine ⟨_, by simp [results, Try.f11, go_sem], rfl, rfl⟩

/-- Is it a history of n branches? -/
def ptN (n : Int) (Hs : List EvP) : List (Nat × EvP) := pt stE (List.replicate n.toNat 0) Hs
def histB (n : Int) (Hs : List EvP) : Bool := decide (1 ≤ n ∧ n ≤ 64) && decide ((ptN n Hs).length = Hs.length)
def chkE (n : Int) (Hs : List EvP) : Nat := if histB n Hs then 0 else 2

/-- What Check has when k events are told. -/
structure CkS (n0 : Nat) (w0 : World) (k : Nat) (W : World) (T : Nat → Prop) : Prop where
  b : Boxed W n0 3 (.int .i64 (k : Int))
  t0 : ¬ T n0
  bel : Below n0 w0 W
  hT : ∀ b, b < n0 → ¬ T b
  le : n0 + 1 ≤ W.heap.size
theorem CkS.mv {n0 : Nat} {w0 : World} {k : Nat} {W W' : World} {T T' : Nat → Prop} (h : CkS n0 w0 k W T) (hm : Mv T W T' W') : CkS n0 w0 k W' T' := by
  have hle := h.le
  exact ⟨boxed_mv h.b hm h.t0, hm.no (by omega) h.t0, hm.below h.bel h.hT (by omega), fun b hb => hm.no (by omega) (h.hT b hb), Nat.le_trans hle hm.size⟩

set_option maxHeartbeats 8000000 in
theorem check_in (hv : Value) (Hs : List EvP) (n : Nat) (w : World) (hh : REv w hv Hs) (hL1 : 1 ≤ n) (hL : n ≤ 64) (hHs : Hs.length ≤ 1000000) :
    Calls Try.prog 19 #[hv, .int .i64 (n : Int)] w fun e w' => e = .returned (.int .i64 (chkE (n : Int) Hs : Nat)) ∧ Below w.heap.size w w' := by
  obtain ⟨ha, hc, rfl⟩ := hh.slice
  have HIT : Hid (∀ (An Ah : Nat) (T : Nat → Prop) (W : World), Below w.heap.size w W → Boxed W An 3 (.int .i64 (n : Int)) → Boxed W Ah 25 (.slice ha Hs.length hc) → (∀ b, T b → w.heap.size ≤ b ∧ b < W.heap.size) → Itr Try.prog 39 #[.pointer (some ⟨An, 0, none⟩), .pointer (some ⟨Ah, 0, none⟩)] encM (ptN (n : Int) Hs) w.heap.size T W) := fun An Ah T W h1 h2 h3 h4 => parted_itr An Ah n _ Hs w hh hL1 hL hHs T W h1 h2 h3 h4
  have HLN : Hid ((ptN (n : Int) Hs).length ≤ Hs.length) := pt_len _ _ _
  have HCK : Hid (chkE (n : Int) Hs = if (ptN (n : Int) Hs).length = Hs.length then 0 else 2) := by
    show _ = _
    unfold chkE histB
    rw [decide_eq_true (show 1 ≤ (n : Int) ∧ (n : Int) ≤ 64 by omega), Bool.true_and]
    by_cases h : (ptN (n : Int) Hs).length = Hs.length
    · rw [decide_eq_true h, if_pos h]; rfl
    · rw [decide_eq_false h, if_neg h]; rfl
  obtain ⟨xs, HX⟩ : ∃ xs, Hid (xs = ptN (n : Int) Hs) := ⟨_, rfl⟩
  rw [← HX.out] at HLN HCK HIT
  obtain ⟨E, HE⟩ : ∃ E, Hid (E = chkE (n : Int) Hs) := ⟨_, rfl⟩
  rw [← HE.out] at HCK ⊢
  obtain ⟨m, HM⟩ : ∃ m, Hid (m = Hs.length) := ⟨_, rfl⟩
  rw [← HM.out] at HLN HCK HIT hHs ⊢
  clear HX hh HE
  have HRC : Hid (∀ wx, Calls Try.prog 24 #[.int .i64 (n : Int)] wx fun e w' => e = .returned (.bool true) ∧ w' = wx) := fun wx => by
    have := rightCount_any (n : Int) wx
    rw [decide_eq_true (show 1 ≤ (n : Int) ∧ (n : Int) ≤ 64 by omega)] at this
    exact this
  refine (callsIn_wide (n := 0)).1 ?_
  refine callsIn_of_wp_marks Try.func19 rfl trivial ?_ rfl
  simp only [Try.ntmps19, List.size_toArray, List.length_cons, List.length_nil, Nat.reduceAdd, Nat.reduceSub, Array.replicate_succ, Array.replicate_zero, List.push_toArray, List.append_toArray, List.nil_append, List.cons_append]
  gi_wp2
  refine ⟨trivial, rfl, (callsIn_wide.2 (HRC.out _)).mono ?_⟩
  rintro e w1 ⟨rfl, h⟩
  obtain rfl := h.symm
  clear HRC
  gi_wp2
  refine ⟨trivial, rfl, (callsIn_wide.2 (parted_any _ _ _ _ _)).mono ?_⟩
  rintro e w2 ⟨rfl, rfl⟩
  gi_wp2
  have b0 := ((Boxed.new w 3 (.int .i64 0)).alloc (.cells #[.slice ha m hc] 25)).alloc (.cells #[.int .i64 (n : Int)] 3)
  have b1 := (Boxed.new (w.alloc (.cells #[.int .i64 0] 3)) 25 (.slice ha m hc)).alloc (.cells #[.int .i64 (n : Int)] 3)
  have b2 := Boxed.new ((w.alloc (.cells #[.int .i64 0] 3)).alloc (.cells #[.slice ha m hc] 25)) 3 (.int .i64 (n : Int))
  simp only [World.size_alloc] at b1 b2
  have hB0 : Below w.heap.size w (((w.alloc (.cells #[.int .i64 0] 3)).alloc (.cells #[.slice ha m hc] 25)).alloc (.cells #[.int .i64 (n : Int)] 3)) := (((Below.refl _ w).alloc (Nat.le_refl _) _).alloc (by simp) _).alloc (by simp; omega) _
  have hsz : (((w.alloc (.cells #[.int .i64 0] 3)).alloc (.cells #[.slice ha m hc] 25)).alloc (.cells #[.int .i64 (n : Int)] 3)).heap.size = w.heap.size + 3 := by simp
  obtain ⟨W0, hW0⟩ : ∃ W0, ((w.alloc (.cells #[.int .i64 0] 3)).alloc (.cells #[.slice ha m hc] 25)).alloc (.cells #[.int .i64 (n : Int)] 3) = W0 := ⟨_, rfl⟩
  rw [hW0] at b0 b1 b2 hB0 hsz ⊢
  clear hW0
  have HSZ : Hid (W0.heap.size = w.heap.size + 3) := hsz
  have H0 : Hid (CkS w.heap.size w 0 W0 (fun b => b = w.heap.size + 1 ∨ b = w.heap.size + 1 + 1)) := ⟨b0, by omega, hB0, fun b hb => by omega, by omega⟩
  refine range_law (P := Try.prog) (gf := 39) (lb := #[.pointer (some ⟨w.heap.size + 1 + 1, 0, none⟩), .pointer (some ⟨w.heap.size + 1, 0, none⟩)]) rfl (enters_of Try.func39 (by kernel_rfl) rfl) (enc := encM) (xs := xs) (n0 := w.heap.size) (T := fun b => b = w.heap.size + 1 ∨ b = w.heap.size + 1 + 1)
    (HIT.out _ _ _ W0 hB0 b2 b1 (fun b hb => by omega)) (fun b hb => by omega) (by omega) (fun x F W T args h => by rw [show args = _ from h]; rfl)
    (fun k W T => Hid (CkS w.heap.size w k W T)) (fun c k W T => False)
    (fun k A TA B TB h hm => h.out.mv hm) (fun c k A TA B TB h _ => h.elim)
    H0 ?round ?done (fun c k W T2 _ h => h.elim)
  case round =>
    rintro mm l' k x args F V T1 TB hxk henc _ HI hTB hup hnc hlt
    cases henc
    have hk := (List.getElem?_eq_some_iff.1 hxk).1
    have hkm := HLN.out
    clear hTB hnc b0 b1 b2 hB0 H0 HIT hxk
    gi_wp2
    refine ⟨HI, Rv.refl _ _ _, fun W2 HI2 hbz => ?_⟩
    have c0 := HI2.out.b.cell
    have f0 := HI2.out.b.frozen
    have HB9 := HI2.out.b.set (.int .i64 ((k : Int) + 1))
    have HH9 : Hid (CkS w.heap.size w (k + 1) (W2.setCell ⟨w.heap.size, 0, none⟩ (.int .i64 ((k : Int) + 1))) TB) := ⟨HB9, HI2.out.t0, HI2.out.bel.setCell (p := ⟨w.heap.size, 0, none⟩) (Nat.le_refl _) _, HI2.out.hT, by have := HI2.out.le; simpa using this⟩
    have HR9 : Hid (Rv w.heap.size TB W2 (W2.setCell ⟨w.heap.size, 0, none⟩ (.int .i64 ((k : Int) + 1)))) := Rv.setCell _ _ (Nat.le_refl _) HI2.out.t0
    clear HB9 HI HI2
    gi_wp2
    exact ⟨HH9, HR9.out⟩
  case done =>
    rintro W T2 HI hold hup hdef hts
    have h2 := HI.out
    rw [HSZ.out] at hdef hts ⊢
    have HBL : Hid (Below w.heap.size w W) := h2.bel
    have HDF : Hid _ := hdef
    have c0 := h2.b.cell
    have hxm := HLN.out
    clear h2 hdef hold hup hsz HI hts b0 b1 b2 hB0 H0 HIT HLN
    have HFIN : Hid (Below w.heap.size w (W.putObj (w.heap.size + 3) (.deferred none))) := by
      have hq := HBL.out
      exact ⟨hq.os, hq.tape, hq.output, by simpa [World.putObj] using hq.size, fun k hk2 => (World.putObj_heap_other (by omega)).trans (hq.block k hk2)⟩
    by_cases hlt : xs.length = m
    · have HE2 : Hid (E = 0) := by show _ = _; rw [HCK.out, if_pos hlt]
      rw [hlt] at c0
      clear hlt HCK hxm
      gi_wp2
      refine ⟨by simp, .inl ⟨_, _, rfl, run_takeDeferred HDF.out, ?_⟩⟩
      refine ⟨.int .i64 0, by simp [results, Try.f19, go_sem], ?_, HFIN.out⟩
      rw [HE2.out]
      rfl
    · have HE2 : Hid (E = 2) := by show _ = _; rw [HCK.out, if_neg hlt]
      have hl2 : (xs.length : Int) < (m : Int) := by omega
      clear hlt HCK hxm
      generalize xs.length = q at *
      gi_wp2
      refine ⟨by simp, .inl ⟨_, _, rfl, run_takeDeferred HDF.out, ?_⟩⟩
      refine ⟨.int .i64 2, by simp [results, Try.f19, go_sem], ?_, HFIN.out⟩
      rw [HE2.out]
      rfl

theorem check_out (a : Option Addr) (m c : Nat) (n : Int) (w : World) (hn : ¬ (1 ≤ n ∧ n ≤ 64)) : Calls Try.prog 19 #[.slice a m c, .int .i64 n] w fun e w' => e = .returned (.int .i64 2) ∧ w' = w := by
  have HRC : Hid (Calls Try.prog 24 #[.int .i64 n] w fun e w' => e = .returned (.bool false) ∧ w' = w) := by
    have := rightCount_any n w
    rw [decide_eq_false hn] at this
    exact this
  clear hn
  refine (callsIn_wide (n := 0)).1 ?_
  refine callsIn_of_wp_marks Try.func19 rfl trivial ?_ rfl
  simp only [Try.ntmps19, List.size_toArray, List.length_cons, List.length_nil, Nat.reduceAdd, Nat.reduceSub, Array.replicate_succ, Array.replicate_zero, List.push_toArray, List.append_toArray, List.nil_append, List.cons_append]
  gi_wp2
  refine ⟨trivial, rfl, (callsIn_wide.2 HRC.out).mono ?_⟩
  rintro e w1 ⟨rfl, h⟩
  obtain rfl := h.symm
  gi_wp2
  refine ⟨_, by simp [results, Try.f19, go_sem], rfl, rfl⟩

theorem check_any (hv : Value) (Hs : List EvP) (n : Int) (w : World) (hh : REv w hv Hs) (hHs : Hs.length ≤ 1000000) :
    Calls Try.prog 19 #[hv, .int .i64 n] w fun e w' => e = .returned (.int .i64 (chkE n Hs : Nat)) ∧ Below w.heap.size w w' := by
  by_cases hn : 1 ≤ n ∧ n ≤ 64
  · obtain ⟨k, rfl⟩ : ∃ k : Nat, n = (k : Int) := ⟨n.toNat, by omega⟩
    exact check_in hv Hs k w hh (by omega) (by omega) hHs
  · have hc : chkE n Hs = 2 := by unfold chkE histB; rw [decide_eq_false hn]; rfl
    obtain ⟨a, c, rfl⟩ := hh.slice
    refine Calls.mono (check_out a Hs.length c n w hn) ?_
    rintro e w1 ⟨rfl, h⟩
    obtain rfl := h.symm
    rw [hc]
    exact ⟨rfl, Below.refl _ _⟩
end Go.Proofs.Ytamfpmpooaejkaa
