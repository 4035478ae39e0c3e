/- Texts of the seat, packed: JRd. -/
import Derived.Test.YtlegmmhacnbnlaaGreatDoorP20
import Derived.Test.YtlegmmhacnbnlaaGreatDoorP21
import Derived.Deep.RegionHeldLaw
/- Check. -/
namespace Go.Proofs.YtlegmmhacnbnlaaGreatDoor.J.Tz
open Go.RowKit Go.Shelf Go.Proofs.YtlegmmhacnbnlaaGreatDoor.J
set_option maxRecDepth 1000000
set_option linter.unusedVariables false

/-- What stands while places come from behind: w's blocks, and those ahead of F, are none of the iterator's. -/
structure CoS (w : World) (v : Value) (l : List Ef) (F : Nat) (V : World) (TB : Nat → Prop) : Prop where
  bel : Below w.heap.size w V
  own : ∀ b, TB b → F ≤ b ∧ b < V.heap.size
  sz : F ≤ V.heap.size
  le : w.heap.size ≤ F
  re : RE w v l

section
variable {w V V' : World} {v : Value} {l : List Ef} {F : Nat} {TB TB' : Nat → Prop}
theorem CoS.reV (h : CoS w v l F V TB) : RE V v l := h.re.later h.bel
theorem CoS.mv (h : CoS w v l F V TB) (hm : Rl.Mv TB V TB' V') : CoS w v l F V' TB' ∧ ∀ b, b < F → V'.heap[b]? = V.heap[b]? := by
  obtain ⟨h1, h2, h3, h4, h5⟩ := h
  have hz := hm.size
  refine ⟨⟨hm.below h1 (fun b hb ht => by have := (h2 b ht).1; omega) h1.size, fun b hb => ⟨?_, hm.up (fun b hb => (h2 b hb).2) b hb⟩, by omega, h4, h5⟩, fun b hb => hm.same b (by omega) (fun ht => by have := (h2 b ht).1; omega)⟩
  by_cases hlt : b < V.heap.size
  · exact (h2 b ((hm.old b hlt).1 hb)).1
  · omega
theorem CoS.later (h : CoS w v l F V TB) (hb : Below V.heap.size V V') : CoS w v l F V' TB ∧ Rl.Rv 0 TB V V' :=
  ⟨⟨h.bel.trans (hb.mono h.bel.size), fun b ht => ⟨(h.own b ht).1, Nat.lt_of_lt_of_le (h.own b ht).2 hb.size⟩, Nat.le_trans h.sz hb.size, h.le, h.re⟩, Rl.Rv.of_below hb (Nat.zero_le _)⟩
theorem CoS.grown (h : CoS w v l F V TB) {row : Option Nat} (hg : V.grownBy V' row) (hr : ∀ g, row = some g → w.heap.size ≤ g ∧ ¬ TB g) : CoS w v l F V' TB ∧ Rl.Rv 0 TB V V' :=
  ⟨⟨⟨hg.os.trans h.bel.os, hg.tape.trans h.bel.tape, hg.output.trans h.bel.output, Nat.le_trans h.bel.size hg.size, fun k hk => (hg.block k (Nat.lt_of_lt_of_le hk h.bel.size) (fun e => by have := (hr k e.symm).1; omega)).trans (h.bel.block k hk)⟩, fun b ht => ⟨(h.own b ht).1, Nat.lt_of_lt_of_le (h.own b ht).2 hg.size⟩, Nat.le_trans h.sz hg.size, h.le, h.re⟩, Rl.Rv.grown hg (fun r e => ⟨Nat.zero_le _, (hr r e).2⟩) (Nat.zero_le _)⟩
theorem CoS.set (h : CoS w v l F V TB) {b i : Nat} (u : Value) (h1 : w.heap.size ≤ b) (h2 : b < F) : CoS w v l F (V.setCell ⟨b, i, none⟩ u) TB ∧ Rl.Rv 0 TB V (V.setCell ⟨b, i, none⟩ u) :=
  ⟨⟨⟨h.bel.os, h.bel.tape, h.bel.output, by have := h.bel.size; simpa using this, fun k hk => (Below.heap_setCell V ⟨b, i, none⟩ u k (by show k ≠ b; omega)).trans (h.bel.block k hk)⟩, fun k ht => ⟨(h.own k ht).1, by have := (h.own k ht).2; simpa using this⟩, by have := h.sz; simpa using this, h.le, h.re⟩,
    Rl.Rv.setCell V u (Nat.zero_le _) (fun ht => by have := (h.own b ht).1; omega)⟩
end

theorem set_same (A : World) (b i : Nat) (v : Value) (k : Nat) (h : k ≠ b) : (A.setCell ⟨b, i, none⟩ v).heap[k]? = A.heap[k]? := Below.heap_setCell A ⟨b, i, none⟩ v k h

open Classical in
noncomputable def chkV (l : List Ef) : Int := if checkE l then 0 else 14
theorem chk_ok {l : List Ef} (h : checkE l) : chkV l = 0 := by unfold chkV; rw [if_pos h]
theorem chk_no {l : List Ef} (h : ¬ checkE l) : chkV l = 14 := by unfold chkV; rw [if_neg h]

theorem Tryz.underlying28 : Tryz.prog.underlying 28 = some (.int .i64) := by kernel_rfl
theorem results_cell26 {fn : Func} (h : fn.results = #[.cell 2 28]) (tmps : Array Value) (w : World) (b : Nat) {x : Int} (hp : tmps.getD 2 undef = .pointer (some ⟨b, 0, none⟩)) (hb : w.cell? ⟨b, 0, none⟩ = some (.int .i64 x)) :
    (results fn tmps).run Tryz.prog w = .ok (.int .i64 x) w := by
  have hp' : tmps[2]?.getD undef = .pointer (some ⟨b, 0, none⟩) := by simpa using hp
  have q8 : (loadVar 28 ⟨b, 0, none⟩).run Tryz.prog w = .ok (.int .i64 x) w := by go_simp
  simp [results, h, hp', asAddr, q8]

/-- Between two places; where it is left. -/
def ChI (w : World) (v : Value) (l : List Ef) (k : Nat) (V : World) (TB : Nat → Prop) : Prop :=
  CoS w v l (w.heap.size + 2) V TB ∧ Boxed V w.heap.size 25 v ∧ Boxed V (w.heap.size + 1) 28 (.int .i64 0) ∧ okFrom l (l.length - k)
def ChX (w : World) (v : Value) (l : List Ef) (V : World) (TB : Nat → Prop) : Prop :=
  CoS w v l (w.heap.size + 2) V TB ∧ Boxed V (w.heap.size + 1) 28 (.int .i64 14) ∧ ¬ checkE l

attribute [local go_sem] Oper.semAt_some

set_option maxHeartbeats 16000000 in
theorem check_any (l : List Ef) (v : Value) (hl : l.length ≤ 1000000) (w : World) (hv : RE w v l) :
    Calls Tryz.prog 8 #[v] w fun e w' => e = .returned (.int .i64 (chkV l)) ∧ Below w.heap.size w w' := by
  obtain ⟨a, c, hvs, hlc⟩ := hv.slice
  subst hvs
  obtain ⟨n, hn⟩ : ∃ n, l.length = n := ⟨_, rfl⟩
  have HN : Hid (l.length = n) := hn
  obtain ⟨w1, hw1⟩ : ∃ w1, (w.alloc (.cells #[.slice a n c] 25)).alloc (.cells #[.int .i64 0] 28) = w1 := ⟨_, rfl⟩
  have HW1 : Hid ((w.alloc (.cells #[.slice a n c] 25)).alloc (.cells #[.int .i64 0] 28) = w1) := hw1
  obtain ⟨R, HR⟩ : ∃ R : Ending → World → Prop, Hid (R = fun e w' => e = .returned (.int .i64 (chkV l)) ∧ Below w.heap.size w w') := ⟨_, rfl⟩
  rw [← HR.out]
  suffices key : CallsIn Fence.wide 0 Tryz.prog 8 #[.slice a l.length c] w R from callsIn_wide.1 key
  have hb1 : Below w.heap.size w w1 := by rw [← hw1]; exact bl2 _ _ _
  have hs1 : w1.heap.size = w.heap.size + 2 := by rw [← hw1]; simp
  have q0 : Boxed w1 w.heap.size 25 (.slice a n c) := by rw [← hw1]; exact (Boxed.new w 25 _).alloc _
  have q1 : Boxed w1 (w.heap.size + 1) 28 (.int .i64 0) := by
    have := Boxed.new (w.alloc (.cells #[.slice a n c] 25)) 28 (.int .i64 0)
    rw [World.size_alloc, hw1] at this
    exact this
  obtain ⟨w2, hw2⟩ : ∃ w2, w1.alloc (.cells #[.slice a n c] 25) = w2 := ⟨_, rfl⟩
  have hb2 : Below w1.heap.size w1 w2 := by rw [← hw2]; exact bl1 _ _
  have hs2 : w2.heap.size = w.heap.size + 3 := by rw [← hw2]; simp; omega
  have q2 : Boxed w2 (w.heap.size + 2) 25 (.slice a n c) := by rw [← hw2, ← hs1]; exact Boxed.new w1 25 _
  have HMK : Hid _ := fromBehind_any a n c w1
  rw [hw2, hs1] at HMK
  have HITR : Hid _ := behind_itr l a c (w.heap.size + 2) hl (fun b => b = w.heap.size + 2) w2 (by rw [hn]; exact q2) rfl (fun b hb => by omega)
  have H0 : Hid (ChI w (.slice a n c) l 0 w2 (fun b => b = w.heap.size + 2)) := by
    refine ⟨⟨hb1.trans (hb2.mono hb1.size), fun b hb => by omega, by omega, by omega, by rw [← hn]; exact hv⟩, (hb2.block _ q0.lt).trans q0, (hb2.block _ q1.lt).trans q1, okFrom_end (by omega)⟩
  have HS2 : Hid (w2.heap.size = w.heap.size + 3) := hs2
  have y0 := q0.cell
  rw [hn] at HITR ⊢
  obtain ⟨xs, HX⟩ : ∃ xs, Hid (xs = brev n) := ⟨_, rfl⟩
  have HXL : Hid (xs.length = n) := by show _ = _; rw [HX.out]; exact brev_len n
  have HXA : Hid (∀ i x, xs[i]? = some x → i < n ∧ x = n - 1 - i) := fun i x hx => by
    rw [HX.out] at hx
    have h1 : i < n := by have := (List.getElem?_eq_some_iff.1 hx).1; rw [brev_len] at this; exact this
    rw [brev_at h1] at hx
    exact ⟨h1, (Option.some.inj hx).symm⟩
  rw [← HX.out] at HITR
  have HLN : Hid (l.length ≤ 1000000) := hl
  clear hv hb1 hs1 q0 q1 hw2 hb2 hs2 q2 hn hl HX hlc hw1
  refine callsIn_of_wp_marks Tryz.func8 rfl trivial ?_ rfl
  simp only [Tryz.ntmps8, List.size_toArray, List.length_cons, List.length_nil, Nat.reduceAdd, Nat.reduceSub, Array.replicate_succ, Array.replicate_zero, List.push_toArray, List.append_toArray, List.nil_append, List.cons_append]
  rw [← HW1.out] at y0
  gi_wp2
  rw [HW1.out]
  clear y0
  refine ⟨trivial, rfl, (callsIn_wide.2 HMK.out).mono ?_⟩
  rintro e w3 ⟨rfl, hw3⟩
  subst hw3
  clear HMK HW1
  gi_wp2
  refine Rl.range_law (P := Tryz.prog) (gf := 40) (lb := #[.pointer (some ⟨w.heap.size + 2, 0, none⟩)]) rfl (enters_of Tryz.func40 (by kernel_rfl) rfl) (enc := encN l) (xs := xs) (n0 := 0) (m0 := 0) (G := fun A => RE A (.slice a n c) l) (T := fun b => b = w.heap.size + 2)
    HITR.out (fun b hb => by have := HS2.out; omega) (Nat.zero_le _) (Nat.le_refl _) (fun x F W T args h => by rw [show args = _ from h]; rfl)
    (fun k V TB => Hid (ChI w (.slice a n c) l k V TB)) (fun c' k V TB => Hid (c' = .ret ∧ ChX w (.slice a n c) l V TB))
    (fun k V TV V' TV' h hm => by
      obtain ⟨h1, h2, h3, h4⟩ := h.out
      obtain ⟨m1, m2⟩ := h1.mv hm
      exact ⟨m1, (m2 _ (by omega)).trans h2, (m2 _ (by omega)).trans h3, h4⟩)
    (fun c k V TV V' TV' h hm => by
      obtain ⟨h0, h1, h2, h3⟩ := h.out
      obtain ⟨m1, m2⟩ := h1.mv hm
      exact ⟨h0, m1, (m2 _ (by omega)).trans h2, h3⟩)
    (fun k V TV h => h.out.1.reV) H0 ?rnd ?done ?stop
  case rnd =>
    rintro m l' k x args F9 V T1 TB hxk henc ⟨Wf, Tf, HIf, hF9, hmF⟩ HI2 hTB hup hnc hlt
    cases henc
    obtain ⟨hkn, hxe⟩ := HXA.out k x hxk
    have HXE : Hid (x = n - 1 - k ∧ k < n) := ⟨hxe, hkn⟩
    clear HIf hF9 hmF hxk hTB hnc hlt HITR H0 HS2 hup hkn hxe
    gi_wp2
    refine ⟨HI2, Rl.Rv.refl _ _ _, fun W2 hmv HI3 hbz => ?_⟩
    clear hbz HI2 hmv
    have HI4 : Hid (ChI w (.slice a n c) l k W2 TB) := HI3
    obtain ⟨h1, h2, h3, h4⟩ := HI3.out
    have y0 := h2.cell
    have y1 := h3.cell
    have f1 := h3.frozen
    have hxn : x < n := by have := HXE.out; omega
    have HOK : Hid (x + 1 = l.length - k) := by have := HXE.out; have := HN.out; show _ = _; omega
    obtain ⟨hwf, b, off, ha, z0, z1, z2, z3⟩ := h1.reV.at' (i := x) (by have := HN.out; omega)
    subst ha
    have hxi : (x : Int) < (n : Int) := by omega
    have hxm : ¬ ((x : Int) = 9223372036854775807) := by have := HLN.out; have := HN.out; omega
    rcases nxt_cases (a := x) HLN.out with ⟨hnx, hno⟩ | ⟨g, hnx, hg1, hg2, hg3, hg4⟩
    · rw [show nxtV l x = 9223372036854775807 from hnx]
      have HOK2 : Hid (okFrom l (l.length - (k + 1))) := by
        have e : l.length - (k + 1) = x := by have := HOK.out; omega
        rw [e]
        refine okFrom_step (by rw [HOK.out]; exact h4) (fun b hb hbl => ?_)
        rw [hnx] at hb
        simp [never] at hb
        have := HLN.out
        omega
      clear HI3 h1 h2 h3 h4 hnx hno hwf
      gi_wp2
      refine regionR (S := fun _ => True) (β := Unit) (fun _ => [(9, .int .i64 9223372036854775807), (10, .bool false), (11, .bool false), (12, undef), (13, undef), (14, undef), (15, undef), (16, undef), (17, undef), (18, undef), (19, undef), (20, undef), (21, undef), (22, undef), (23, .bool false)]) (fun _ w' => w' = W2.drew) (by kernel_rfl) ?_ ?_
      · have hS0 : (fun _ => True) W2.drew := trivial
        simp only [List.size_toArray, List.length_cons, List.length_nil, Nat.reduceAdd, Array.replicate_succ, Array.replicate_zero, List.push_toArray, List.nil_append, List.cons_append]
        refine takeR (i := 0) (d := 9) (v := .int .i64 9223372036854775807) (fuel := 14) (by kernel_rfl) rfl rfl (by kernel_rfl) (by kernel_rfl) (by kernel_rfl) (fun _ _ _ h => by cases h.1) (.inl ⟨by kernel_rfl, fun wx h => by go_simp⟩) hS0 ?_
        simp only [List.setIfInBounds_toArray, List.set_cons_succ, List.set_cons_zero]
        refine takeR (i := 1) (d := 10) (v := .bool false) (fuel := 13) (by kernel_rfl) rfl rfl (by kernel_rfl) (by kernel_rfl) (by kernel_rfl) (fun _ _ _ h => by cases h.1) (.inl ⟨by kernel_rfl, fun wx h => by go_simp⟩) hS0 ?_
        simp only [List.setIfInBounds_toArray, List.set_cons_succ, List.set_cons_zero]
        refine takeR (i := 2) (d := 11) (v := .bool false) (fuel := 12) (by kernel_rfl) rfl rfl (by kernel_rfl) (by kernel_rfl) (by kernel_rfl) (fun _ _ _ h => by cases h.1) (.inl ⟨by kernel_rfl, fun wx h => by go_simp⟩) hS0 ?_
        simp only [List.setIfInBounds_toArray, List.set_cons_succ, List.set_cons_zero]
        refine takeR (i := 3) (d := 12) (v := undef) (fuel := 11) (by kernel_rfl) rfl rfl (by kernel_rfl) (by kernel_rfl) (by kernel_rfl) (fun _ _ _ h => by cases h.1) (.inr ⟨by kernel_rfl, rfl⟩) hS0 ?_
        simp only [List.setIfInBounds_toArray, List.set_cons_succ, List.set_cons_zero]
        refine takeR (i := 4) (d := 13) (v := undef) (fuel := 10) (by kernel_rfl) rfl rfl (by kernel_rfl) (by kernel_rfl) (by kernel_rfl) (fun _ _ _ h => by cases h.1) (.inr ⟨by kernel_rfl, rfl⟩) hS0 ?_
        simp only [List.setIfInBounds_toArray, List.set_cons_succ, List.set_cons_zero]
        refine takeR (i := 5) (d := 14) (v := undef) (fuel := 9) (by kernel_rfl) rfl rfl (by kernel_rfl) (by kernel_rfl) (by kernel_rfl) (fun _ _ _ h => by cases h.1) (.inr ⟨by kernel_rfl, rfl⟩) hS0 ?_
        simp only [List.setIfInBounds_toArray, List.set_cons_succ, List.set_cons_zero]
        refine takeR (i := 6) (d := 15) (v := undef) (fuel := 8) (by kernel_rfl) rfl rfl (by kernel_rfl) (by kernel_rfl) (by kernel_rfl) (fun _ _ _ h => by cases h.1) (.inr ⟨by kernel_rfl, rfl⟩) hS0 ?_
        simp only [List.setIfInBounds_toArray, List.set_cons_succ, List.set_cons_zero]
        refine takeR (i := 7) (d := 16) (v := undef) (fuel := 7) (by kernel_rfl) rfl rfl (by kernel_rfl) (by kernel_rfl) (by kernel_rfl) (fun _ _ _ h => by cases h.1) (.inr ⟨by kernel_rfl, rfl⟩) hS0 ?_
        simp only [List.setIfInBounds_toArray, List.set_cons_succ, List.set_cons_zero]
        refine takeR (i := 8) (d := 17) (v := undef) (fuel := 6) (by kernel_rfl) rfl rfl (by kernel_rfl) (by kernel_rfl) (by kernel_rfl) (fun _ _ _ h => by cases h.1) (.inr ⟨by kernel_rfl, rfl⟩) hS0 ?_
        simp only [List.setIfInBounds_toArray, List.set_cons_succ, List.set_cons_zero]
        refine takeR (i := 9) (d := 18) (v := undef) (fuel := 5) (by kernel_rfl) rfl rfl (by kernel_rfl) (by kernel_rfl) (by kernel_rfl) (fun _ _ _ h => by cases h.1) (.inr ⟨by kernel_rfl, rfl⟩) hS0 ?_
        simp only [List.setIfInBounds_toArray, List.set_cons_succ, List.set_cons_zero]
        refine takeR (i := 10) (d := 19) (v := undef) (fuel := 4) (by kernel_rfl) rfl rfl (by kernel_rfl) (by kernel_rfl) (by kernel_rfl) (fun _ _ _ h => by cases h.1) (.inr ⟨by kernel_rfl, rfl⟩) hS0 ?_
        simp only [List.setIfInBounds_toArray, List.set_cons_succ, List.set_cons_zero]
        refine takeR (i := 11) (d := 20) (v := undef) (fuel := 3) (by kernel_rfl) rfl rfl (by kernel_rfl) (by kernel_rfl) (by kernel_rfl) (fun _ _ _ h => by cases h.1) (.inr ⟨by kernel_rfl, rfl⟩) hS0 ?_
        simp only [List.setIfInBounds_toArray, List.set_cons_succ, List.set_cons_zero]
        refine takeR (i := 12) (d := 21) (v := undef) (fuel := 2) (by kernel_rfl) rfl rfl (by kernel_rfl) (by kernel_rfl) (by kernel_rfl) (fun _ _ _ h => by cases h.1) (.inr ⟨by kernel_rfl, rfl⟩) hS0 ?_
        simp only [List.setIfInBounds_toArray, List.set_cons_succ, List.set_cons_zero]
        refine takeR (i := 13) (d := 22) (v := undef) (fuel := 1) (by kernel_rfl) rfl rfl (by kernel_rfl) (by kernel_rfl) (by kernel_rfl) (fun _ _ _ h => by cases h.1) (.inr ⟨by kernel_rfl, rfl⟩) hS0 ?_
        simp only [List.setIfInBounds_toArray, List.set_cons_succ, List.set_cons_zero]
        refine takeR (i := 14) (d := 23) (v := .bool false) (fuel := 0) (by kernel_rfl) rfl rfl (by kernel_rfl) (by kernel_rfl) (by kernel_rfl) (fun _ _ _ h => by cases h.1) (.inl ⟨by kernel_rfl, fun wx h => by go_simp⟩) hS0 ?_
        simp only [List.setIfInBounds_toArray, List.set_cons_succ, List.set_cons_zero]
        refine doneR (by kernel_rfl) ?_ _
        exact ⟨rfl, (), by kernel_rfl, rfl⟩
      · rintro _ w5 rfl
        simp only [setAll, List.setIfInBounds_toArray, List.set_cons_succ, List.set_cons_zero, Exit.then]
        have HI5 : Hid (ChI w (.slice (some ⟨b, off, none⟩) n c) l (k + 1) W2.drew TB) := by
          obtain ⟨h1, h2, h3, h4⟩ := HI4.out
          exact ⟨(h1.mv (Rl.Mv.drew _ _)).1, h2, h3, HOK2.out⟩
        clear y0 y1 f1 z0 z1 z2 z3
        gi_wp2
        exact ⟨HI5, Rl.Rv.drew _⟩
    · rw [hnx]
      obtain ⟨hwf2, b2, off2, ha2, g0, g1, g2, g3⟩ := h1.reV.at' (i := g) hg2
      simp only [Option.some.injEq, Addr.mk.injEq, and_true] at ha2
      obtain ⟨rfl, rfl⟩ := ha2
      have hgi : (g : Int) < (n : Int) := by have := HN.out; omega
      have hgm : ¬ ((g : Int) = 9223372036854775807) := by have := HLN.out; omega
      have HGG : Hid (g < l.length ∧ (l.getD g default).key = (l.getD x default).key ∧ nxtV l x = (g : Int)) := ⟨hg2, hg3, hnx⟩
      have HH4 : Hid (okFrom l (l.length - k)) := h4
      obtain ⟨o1, ho1⟩ : ∃ o, (l.getD g default).ok = o := ⟨_, rfl⟩
      obtain ⟨o2, ho2⟩ : ∃ o, (l.getD x default).ok = o := ⟨_, rfl⟩
      have HO1 : Hid ((l.getD g default).ok = o1) := ho1
      have HO2 : Hid ((l.getD x default).ok = o2) := ho2
      rw [ho1] at g3
      rw [ho2] at z3
      clear HI3 h1 h2 h3 h4 hnx hwf hwf2 hg1 hg2 hg3 hg4 ho1 ho2 z0 z1 z2 g0 g1 g2
      cases o1 <;> cases o2
      · gi_wp2
        refine regionR (S := fun wx => wx.cell? ⟨w.heap.size, 0, none⟩ = some (.slice (some ⟨b, off, none⟩) n c) ∧ wx.cell? ⟨b, off + g * 4 + 3, none⟩ = some (.bool false) ∧ wx.cell? ⟨b, off + x * 4 + 3, none⟩ = some (.bool false)) (β := Unit) (fun _ => [(9, .int .i64 (g : Int)), (10, .bool true), (11, .bool true), (12, .slice (some ⟨b, off, none⟩) n c), (13, .int .i64 (g : Int)), (14, .pointer (some ⟨b, off + g * 4, none⟩)), (15, .pointer (some ⟨b, off + g * 4 + 3, none⟩)), (16, .bool false), (17, .slice (some ⟨b, off, none⟩) n c), (18, .int .i64 (x : Int)), (19, .pointer (some ⟨b, off + x * 4, none⟩)), (20, .pointer (some ⟨b, off + x * 4 + 3, none⟩)), (21, .bool false), (22, .bool false), (23, .bool false)]) (fun _ w' => w' = W2.drew) (by kernel_rfl) ?_ ?_
        · have hS0 : (fun wx => wx.cell? ⟨w.heap.size, 0, none⟩ = some (.slice (some ⟨b, off, none⟩) n c) ∧ wx.cell? ⟨b, off + g * 4 + 3, none⟩ = some (.bool false) ∧ wx.cell? ⟨b, off + x * 4 + 3, none⟩ = some (.bool false)) W2.drew := ⟨y0, g3, z3⟩
          simp only [List.size_toArray, List.length_cons, List.length_nil, Nat.reduceAdd, Array.replicate_succ, Array.replicate_zero, List.push_toArray, List.nil_append, List.cons_append]
          refine takeR (i := 0) (d := 9) (v := .int .i64 (g : Int)) (fuel := 14) (by kernel_rfl) rfl rfl (by kernel_rfl) (by kernel_rfl) (by kernel_rfl) (fun _ _ _ h => by cases h.1) (.inl ⟨by kernel_rfl, fun wx h => by go_simp⟩) hS0 ?_
          simp only [List.setIfInBounds_toArray, List.set_cons_succ, List.set_cons_zero]
          refine takeR (i := 1) (d := 10) (v := .bool true) (fuel := 13) (by kernel_rfl) rfl rfl (by kernel_rfl) (by kernel_rfl) (by kernel_rfl) (fun _ _ _ h => by cases h.1) (.inl ⟨by kernel_rfl, fun wx h => by go_simp⟩) hS0 ?_
          simp only [List.setIfInBounds_toArray, List.set_cons_succ, List.set_cons_zero]
          refine takeR (i := 2) (d := 11) (v := .bool true) (fuel := 12) (by kernel_rfl) rfl rfl (by kernel_rfl) (by kernel_rfl) (by kernel_rfl) (fun _ _ _ h => by cases h.1) (.inl ⟨by kernel_rfl, fun wx h => by go_simp⟩) hS0 ?_
          simp only [List.setIfInBounds_toArray, List.set_cons_succ, List.set_cons_zero]
          refine takeR (i := 3) (d := 12) (v := .slice (some ⟨b, off, none⟩) n c) (fuel := 11) (by kernel_rfl) rfl rfl (by kernel_rfl) (by kernel_rfl) (by kernel_rfl) (fun _ _ _ h => by cases h.1) (.inl ⟨by kernel_rfl, fun wx h => by obtain ⟨y0, y1, y2⟩ := h; go_simp⟩) hS0 ?_
          simp only [List.setIfInBounds_toArray, List.set_cons_succ, List.set_cons_zero]
          refine takeR (i := 4) (d := 13) (v := .int .i64 (g : Int)) (fuel := 10) (by kernel_rfl) rfl rfl (by kernel_rfl) (by kernel_rfl) (by kernel_rfl) (fun _ _ _ h => by cases h.1) (.inl ⟨by kernel_rfl, fun wx h => by go_simp⟩) hS0 ?_
          simp only [List.setIfInBounds_toArray, List.set_cons_succ, List.set_cons_zero]
          refine takeR (i := 5) (d := 14) (v := .pointer (some ⟨b, off + g * 4, none⟩)) (fuel := 9) (by kernel_rfl) rfl rfl (by kernel_rfl) (by kernel_rfl) (by kernel_rfl) (fun _ _ _ h => by cases h.1) (.inl ⟨by kernel_rfl, fun wx h => by go_simp⟩) hS0 ?_
          simp only [List.setIfInBounds_toArray, List.set_cons_succ, List.set_cons_zero]
          refine takeR (i := 6) (d := 15) (v := .pointer (some ⟨b, off + g * 4 + 3, none⟩)) (fuel := 8) (by kernel_rfl) rfl rfl (by kernel_rfl) (by kernel_rfl) (by kernel_rfl) (fun _ _ _ h => by cases h.1) (.inl ⟨by kernel_rfl, fun wx h => by go_simp⟩) hS0 ?_
          simp only [List.setIfInBounds_toArray, List.set_cons_succ, List.set_cons_zero]
          refine takeR (i := 7) (d := 16) (v := .bool false) (fuel := 7) (by kernel_rfl) rfl rfl (by kernel_rfl) (by kernel_rfl) (by kernel_rfl) (fun _ _ _ h => by cases h.1) (.inl ⟨by kernel_rfl, fun wx h => by obtain ⟨y0, y1, y2⟩ := h; go_simp⟩) hS0 ?_
          simp only [List.setIfInBounds_toArray, List.set_cons_succ, List.set_cons_zero]
          refine takeR (i := 8) (d := 17) (v := .slice (some ⟨b, off, none⟩) n c) (fuel := 6) (by kernel_rfl) rfl rfl (by kernel_rfl) (by kernel_rfl) (by kernel_rfl) (fun _ _ _ h => by cases h.1) (.inl ⟨by kernel_rfl, fun wx h => by obtain ⟨y0, y1, y2⟩ := h; go_simp⟩) hS0 ?_
          simp only [List.setIfInBounds_toArray, List.set_cons_succ, List.set_cons_zero]
          refine takeR (i := 9) (d := 18) (v := .int .i64 (x : Int)) (fuel := 5) (by kernel_rfl) rfl rfl (by kernel_rfl) (by kernel_rfl) (by kernel_rfl) (fun _ _ _ h => by cases h.1) (.inl ⟨by kernel_rfl, fun wx h => by go_simp⟩) hS0 ?_
          simp only [List.setIfInBounds_toArray, List.set_cons_succ, List.set_cons_zero]
          refine takeR (i := 10) (d := 19) (v := .pointer (some ⟨b, off + x * 4, none⟩)) (fuel := 4) (by kernel_rfl) rfl rfl (by kernel_rfl) (by kernel_rfl) (by kernel_rfl) (fun _ _ _ h => by cases h.1) (.inl ⟨by kernel_rfl, fun wx h => by go_simp⟩) hS0 ?_
          simp only [List.setIfInBounds_toArray, List.set_cons_succ, List.set_cons_zero]
          refine takeR (i := 11) (d := 20) (v := .pointer (some ⟨b, off + x * 4 + 3, none⟩)) (fuel := 3) (by kernel_rfl) rfl rfl (by kernel_rfl) (by kernel_rfl) (by kernel_rfl) (fun _ _ _ h => by cases h.1) (.inl ⟨by kernel_rfl, fun wx h => by go_simp⟩) hS0 ?_
          simp only [List.setIfInBounds_toArray, List.set_cons_succ, List.set_cons_zero]
          refine takeR (i := 12) (d := 21) (v := .bool false) (fuel := 2) (by kernel_rfl) rfl rfl (by kernel_rfl) (by kernel_rfl) (by kernel_rfl) (fun _ _ _ h => by cases h.1) (.inl ⟨by kernel_rfl, fun wx h => by obtain ⟨y0, y1, y2⟩ := h; go_simp⟩) hS0 ?_
          simp only [List.setIfInBounds_toArray, List.set_cons_succ, List.set_cons_zero]
          refine takeR (i := 13) (d := 22) (v := .bool false) (fuel := 1) (by kernel_rfl) rfl rfl (by kernel_rfl) (by kernel_rfl) (by kernel_rfl) (fun _ _ _ h => by cases h.1) (.inl ⟨by kernel_rfl, fun wx h => by go_simp⟩) hS0 ?_
          simp only [List.setIfInBounds_toArray, List.set_cons_succ, List.set_cons_zero]
          refine takeR (i := 14) (d := 23) (v := .bool false) (fuel := 0) (by kernel_rfl) rfl rfl (by kernel_rfl) (by kernel_rfl) (by kernel_rfl) (fun _ _ _ h => by cases h.1) (.inl ⟨by kernel_rfl, fun wx h => by go_simp⟩) hS0 ?_
          simp only [List.setIfInBounds_toArray, List.set_cons_succ, List.set_cons_zero]
          refine doneR (by kernel_rfl) ?_ _
          exact ⟨rfl, (), by kernel_rfl, rfl⟩
        · rintro _ w5 rfl
          simp only [setAll, List.setIfInBounds_toArray, List.set_cons_succ, List.set_cons_zero, Exit.then]
          have HI5 : Hid (ChI w (.slice (some ⟨b, off, none⟩) n c) l (k + 1) W2.drew TB) := by
            obtain ⟨h1, h2, h3, h4⟩ := HI4.out
            refine ⟨(h1.mv (Rl.Mv.drew _ _)).1, h2, h3, ?_⟩
            have e : l.length - (k + 1) = x := by have := HOK.out; omega
            rw [e]
            refine okFrom_step (by rw [HOK.out]; exact h4) (fun b hb hbl => ?_)
            rw [HGG.out.2.2] at hb
            obtain rfl : g = b := by omega
            rw [HO1.out, HO2.out]
          clear y0 y1 f1 z3 g3
          gi_wp2
          exact ⟨HI5, Rl.Rv.drew _⟩
      · gi_wp2
        refine regionR (S := fun wx => wx.cell? ⟨w.heap.size, 0, none⟩ = some (.slice (some ⟨b, off, none⟩) n c) ∧ wx.cell? ⟨b, off + g * 4 + 3, none⟩ = some (.bool false) ∧ wx.cell? ⟨b, off + x * 4 + 3, none⟩ = some (.bool true)) (β := Unit) (fun _ => [(9, .int .i64 (g : Int)), (10, .bool true), (11, .bool true), (12, .slice (some ⟨b, off, none⟩) n c), (13, .int .i64 (g : Int)), (14, .pointer (some ⟨b, off + g * 4, none⟩)), (15, .pointer (some ⟨b, off + g * 4 + 3, none⟩)), (16, .bool false), (17, .slice (some ⟨b, off, none⟩) n c), (18, .int .i64 (x : Int)), (19, .pointer (some ⟨b, off + x * 4, none⟩)), (20, .pointer (some ⟨b, off + x * 4 + 3, none⟩)), (21, .bool true), (22, .bool true), (23, .bool true)]) (fun _ w' => w' = W2.drew) (by kernel_rfl) ?_ ?_
        · have hS0 : (fun wx => wx.cell? ⟨w.heap.size, 0, none⟩ = some (.slice (some ⟨b, off, none⟩) n c) ∧ wx.cell? ⟨b, off + g * 4 + 3, none⟩ = some (.bool false) ∧ wx.cell? ⟨b, off + x * 4 + 3, none⟩ = some (.bool true)) W2.drew := ⟨y0, g3, z3⟩
          simp only [List.size_toArray, List.length_cons, List.length_nil, Nat.reduceAdd, Array.replicate_succ, Array.replicate_zero, List.push_toArray, List.nil_append, List.cons_append]
          refine takeR (i := 0) (d := 9) (v := .int .i64 (g : Int)) (fuel := 14) (by kernel_rfl) rfl rfl (by kernel_rfl) (by kernel_rfl) (by kernel_rfl) (fun _ _ _ h => by cases h.1) (.inl ⟨by kernel_rfl, fun wx h => by go_simp⟩) hS0 ?_
          simp only [List.setIfInBounds_toArray, List.set_cons_succ, List.set_cons_zero]
          refine takeR (i := 1) (d := 10) (v := .bool true) (fuel := 13) (by kernel_rfl) rfl rfl (by kernel_rfl) (by kernel_rfl) (by kernel_rfl) (fun _ _ _ h => by cases h.1) (.inl ⟨by kernel_rfl, fun wx h => by go_simp⟩) hS0 ?_
          simp only [List.setIfInBounds_toArray, List.set_cons_succ, List.set_cons_zero]
          refine takeR (i := 2) (d := 11) (v := .bool true) (fuel := 12) (by kernel_rfl) rfl rfl (by kernel_rfl) (by kernel_rfl) (by kernel_rfl) (fun _ _ _ h => by cases h.1) (.inl ⟨by kernel_rfl, fun wx h => by go_simp⟩) hS0 ?_
          simp only [List.setIfInBounds_toArray, List.set_cons_succ, List.set_cons_zero]
          refine takeR (i := 3) (d := 12) (v := .slice (some ⟨b, off, none⟩) n c) (fuel := 11) (by kernel_rfl) rfl rfl (by kernel_rfl) (by kernel_rfl) (by kernel_rfl) (fun _ _ _ h => by cases h.1) (.inl ⟨by kernel_rfl, fun wx h => by obtain ⟨y0, y1, y2⟩ := h; go_simp⟩) hS0 ?_
          simp only [List.setIfInBounds_toArray, List.set_cons_succ, List.set_cons_zero]
          refine takeR (i := 4) (d := 13) (v := .int .i64 (g : Int)) (fuel := 10) (by kernel_rfl) rfl rfl (by kernel_rfl) (by kernel_rfl) (by kernel_rfl) (fun _ _ _ h => by cases h.1) (.inl ⟨by kernel_rfl, fun wx h => by go_simp⟩) hS0 ?_
          simp only [List.setIfInBounds_toArray, List.set_cons_succ, List.set_cons_zero]
          refine takeR (i := 5) (d := 14) (v := .pointer (some ⟨b, off + g * 4, none⟩)) (fuel := 9) (by kernel_rfl) rfl rfl (by kernel_rfl) (by kernel_rfl) (by kernel_rfl) (fun _ _ _ h => by cases h.1) (.inl ⟨by kernel_rfl, fun wx h => by go_simp⟩) hS0 ?_
          simp only [List.setIfInBounds_toArray, List.set_cons_succ, List.set_cons_zero]
          refine takeR (i := 6) (d := 15) (v := .pointer (some ⟨b, off + g * 4 + 3, none⟩)) (fuel := 8) (by kernel_rfl) rfl rfl (by kernel_rfl) (by kernel_rfl) (by kernel_rfl) (fun _ _ _ h => by cases h.1) (.inl ⟨by kernel_rfl, fun wx h => by go_simp⟩) hS0 ?_
          simp only [List.setIfInBounds_toArray, List.set_cons_succ, List.set_cons_zero]
          refine takeR (i := 7) (d := 16) (v := .bool false) (fuel := 7) (by kernel_rfl) rfl rfl (by kernel_rfl) (by kernel_rfl) (by kernel_rfl) (fun _ _ _ h => by cases h.1) (.inl ⟨by kernel_rfl, fun wx h => by obtain ⟨y0, y1, y2⟩ := h; go_simp⟩) hS0 ?_
          simp only [List.setIfInBounds_toArray, List.set_cons_succ, List.set_cons_zero]
          refine takeR (i := 8) (d := 17) (v := .slice (some ⟨b, off, none⟩) n c) (fuel := 6) (by kernel_rfl) rfl rfl (by kernel_rfl) (by kernel_rfl) (by kernel_rfl) (fun _ _ _ h => by cases h.1) (.inl ⟨by kernel_rfl, fun wx h => by obtain ⟨y0, y1, y2⟩ := h; go_simp⟩) hS0 ?_
          simp only [List.setIfInBounds_toArray, List.set_cons_succ, List.set_cons_zero]
          refine takeR (i := 9) (d := 18) (v := .int .i64 (x : Int)) (fuel := 5) (by kernel_rfl) rfl rfl (by kernel_rfl) (by kernel_rfl) (by kernel_rfl) (fun _ _ _ h => by cases h.1) (.inl ⟨by kernel_rfl, fun wx h => by go_simp⟩) hS0 ?_
          simp only [List.setIfInBounds_toArray, List.set_cons_succ, List.set_cons_zero]
          refine takeR (i := 10) (d := 19) (v := .pointer (some ⟨b, off + x * 4, none⟩)) (fuel := 4) (by kernel_rfl) rfl rfl (by kernel_rfl) (by kernel_rfl) (by kernel_rfl) (fun _ _ _ h => by cases h.1) (.inl ⟨by kernel_rfl, fun wx h => by go_simp⟩) hS0 ?_
          simp only [List.setIfInBounds_toArray, List.set_cons_succ, List.set_cons_zero]
          refine takeR (i := 11) (d := 20) (v := .pointer (some ⟨b, off + x * 4 + 3, none⟩)) (fuel := 3) (by kernel_rfl) rfl rfl (by kernel_rfl) (by kernel_rfl) (by kernel_rfl) (fun _ _ _ h => by cases h.1) (.inl ⟨by kernel_rfl, fun wx h => by go_simp⟩) hS0 ?_
          simp only [List.setIfInBounds_toArray, List.set_cons_succ, List.set_cons_zero]
          refine takeR (i := 12) (d := 21) (v := .bool true) (fuel := 2) (by kernel_rfl) rfl rfl (by kernel_rfl) (by kernel_rfl) (by kernel_rfl) (fun _ _ _ h => by cases h.1) (.inl ⟨by kernel_rfl, fun wx h => by obtain ⟨y0, y1, y2⟩ := h; go_simp⟩) hS0 ?_
          simp only [List.setIfInBounds_toArray, List.set_cons_succ, List.set_cons_zero]
          refine takeR (i := 13) (d := 22) (v := .bool true) (fuel := 1) (by kernel_rfl) rfl rfl (by kernel_rfl) (by kernel_rfl) (by kernel_rfl) (fun _ _ _ h => by cases h.1) (.inl ⟨by kernel_rfl, fun wx h => by go_simp⟩) hS0 ?_
          simp only [List.setIfInBounds_toArray, List.set_cons_succ, List.set_cons_zero]
          refine takeR (i := 14) (d := 23) (v := .bool true) (fuel := 0) (by kernel_rfl) rfl rfl (by kernel_rfl) (by kernel_rfl) (by kernel_rfl) (fun _ _ _ h => by cases h.1) (.inl ⟨by kernel_rfl, fun wx h => by go_simp⟩) hS0 ?_
          simp only [List.setIfInBounds_toArray, List.set_cons_succ, List.set_cons_zero]
          refine doneR (by kernel_rfl) ?_ _
          exact ⟨rfl, (), by kernel_rfl, rfl⟩
        · rintro _ w5 rfl
          simp only [setAll, List.setIfInBounds_toArray, List.set_cons_succ, List.set_cons_zero, Exit.then]
          have HX5 : Hid (ChX w (.slice (some ⟨b, off, none⟩) n c) l (W2.drew.setCell ⟨w.heap.size + 1, 0, none⟩ (.int .i64 14)) TB ∧ Rl.Rv 0 TB W2 (W2.drew.setCell ⟨w.heap.size + 1, 0, none⟩ (.int .i64 14))) := by
            obtain ⟨h1, h2, h3, h4⟩ := HI4.out
            obtain ⟨m1, m2⟩ := ((h1.mv (Rl.Mv.drew _ _)).1).set (i := 0) (.int .i64 14) (show w.heap.size ≤ w.heap.size + 1 by omega) (by omega)
            exact ⟨⟨m1, Boxed.set _ h3, not_check (by have := HXE.out; have := HN.out; omega) HGG.out.1 HGG.out.2.1 (by rw [HO1.out, HO2.out]; decide)⟩, (Rl.Rv.drew W2).trans m2⟩
          clear y0 z3 g3
          gi_wp2
          exact ⟨⟨rfl, HX5.out.1⟩, HX5.out.2⟩
      · gi_wp2
        refine regionR (S := fun wx => wx.cell? ⟨w.heap.size, 0, none⟩ = some (.slice (some ⟨b, off, none⟩) n c) ∧ wx.cell? ⟨b, off + g * 4 + 3, none⟩ = some (.bool true) ∧ wx.cell? ⟨b, off + x * 4 + 3, none⟩ = some (.bool false)) (β := Unit) (fun _ => [(9, .int .i64 (g : Int)), (10, .bool true), (11, .bool true), (12, .slice (some ⟨b, off, none⟩) n c), (13, .int .i64 (g : Int)), (14, .pointer (some ⟨b, off + g * 4, none⟩)), (15, .pointer (some ⟨b, off + g * 4 + 3, none⟩)), (16, .bool true), (17, .slice (some ⟨b, off, none⟩) n c), (18, .int .i64 (x : Int)), (19, .pointer (some ⟨b, off + x * 4, none⟩)), (20, .pointer (some ⟨b, off + x * 4 + 3, none⟩)), (21, .bool false), (22, .bool true), (23, .bool true)]) (fun _ w' => w' = W2.drew) (by kernel_rfl) ?_ ?_
        · have hS0 : (fun wx => wx.cell? ⟨w.heap.size, 0, none⟩ = some (.slice (some ⟨b, off, none⟩) n c) ∧ wx.cell? ⟨b, off + g * 4 + 3, none⟩ = some (.bool true) ∧ wx.cell? ⟨b, off + x * 4 + 3, none⟩ = some (.bool false)) W2.drew := ⟨y0, g3, z3⟩
          simp only [List.size_toArray, List.length_cons, List.length_nil, Nat.reduceAdd, Array.replicate_succ, Array.replicate_zero, List.push_toArray, List.nil_append, List.cons_append]
          refine takeR (i := 0) (d := 9) (v := .int .i64 (g : Int)) (fuel := 14) (by kernel_rfl) rfl rfl (by kernel_rfl) (by kernel_rfl) (by kernel_rfl) (fun _ _ _ h => by cases h.1) (.inl ⟨by kernel_rfl, fun wx h => by go_simp⟩) hS0 ?_
          simp only [List.setIfInBounds_toArray, List.set_cons_succ, List.set_cons_zero]
          refine takeR (i := 1) (d := 10) (v := .bool true) (fuel := 13) (by kernel_rfl) rfl rfl (by kernel_rfl) (by kernel_rfl) (by kernel_rfl) (fun _ _ _ h => by cases h.1) (.inl ⟨by kernel_rfl, fun wx h => by go_simp⟩) hS0 ?_
          simp only [List.setIfInBounds_toArray, List.set_cons_succ, List.set_cons_zero]
          refine takeR (i := 2) (d := 11) (v := .bool true) (fuel := 12) (by kernel_rfl) rfl rfl (by kernel_rfl) (by kernel_rfl) (by kernel_rfl) (fun _ _ _ h => by cases h.1) (.inl ⟨by kernel_rfl, fun wx h => by go_simp⟩) hS0 ?_
          simp only [List.setIfInBounds_toArray, List.set_cons_succ, List.set_cons_zero]
          refine takeR (i := 3) (d := 12) (v := .slice (some ⟨b, off, none⟩) n c) (fuel := 11) (by kernel_rfl) rfl rfl (by kernel_rfl) (by kernel_rfl) (by kernel_rfl) (fun _ _ _ h => by cases h.1) (.inl ⟨by kernel_rfl, fun wx h => by obtain ⟨y0, y1, y2⟩ := h; go_simp⟩) hS0 ?_
          simp only [List.setIfInBounds_toArray, List.set_cons_succ, List.set_cons_zero]
          refine takeR (i := 4) (d := 13) (v := .int .i64 (g : Int)) (fuel := 10) (by kernel_rfl) rfl rfl (by kernel_rfl) (by kernel_rfl) (by kernel_rfl) (fun _ _ _ h => by cases h.1) (.inl ⟨by kernel_rfl, fun wx h => by go_simp⟩) hS0 ?_
          simp only [List.setIfInBounds_toArray, List.set_cons_succ, List.set_cons_zero]
          refine takeR (i := 5) (d := 14) (v := .pointer (some ⟨b, off + g * 4, none⟩)) (fuel := 9) (by kernel_rfl) rfl rfl (by kernel_rfl) (by kernel_rfl) (by kernel_rfl) (fun _ _ _ h => by cases h.1) (.inl ⟨by kernel_rfl, fun wx h => by go_simp⟩) hS0 ?_
          simp only [List.setIfInBounds_toArray, List.set_cons_succ, List.set_cons_zero]
          refine takeR (i := 6) (d := 15) (v := .pointer (some ⟨b, off + g * 4 + 3, none⟩)) (fuel := 8) (by kernel_rfl) rfl rfl (by kernel_rfl) (by kernel_rfl) (by kernel_rfl) (fun _ _ _ h => by cases h.1) (.inl ⟨by kernel_rfl, fun wx h => by go_simp⟩) hS0 ?_
          simp only [List.setIfInBounds_toArray, List.set_cons_succ, List.set_cons_zero]
          refine takeR (i := 7) (d := 16) (v := .bool true) (fuel := 7) (by kernel_rfl) rfl rfl (by kernel_rfl) (by kernel_rfl) (by kernel_rfl) (fun _ _ _ h => by cases h.1) (.inl ⟨by kernel_rfl, fun wx h => by obtain ⟨y0, y1, y2⟩ := h; go_simp⟩) hS0 ?_
          simp only [List.setIfInBounds_toArray, List.set_cons_succ, List.set_cons_zero]
          refine takeR (i := 8) (d := 17) (v := .slice (some ⟨b, off, none⟩) n c) (fuel := 6) (by kernel_rfl) rfl rfl (by kernel_rfl) (by kernel_rfl) (by kernel_rfl) (fun _ _ _ h => by cases h.1) (.inl ⟨by kernel_rfl, fun wx h => by obtain ⟨y0, y1, y2⟩ := h; go_simp⟩) hS0 ?_
          simp only [List.setIfInBounds_toArray, List.set_cons_succ, List.set_cons_zero]
          refine takeR (i := 9) (d := 18) (v := .int .i64 (x : Int)) (fuel := 5) (by kernel_rfl) rfl rfl (by kernel_rfl) (by kernel_rfl) (by kernel_rfl) (fun _ _ _ h => by cases h.1) (.inl ⟨by kernel_rfl, fun wx h => by go_simp⟩) hS0 ?_
          simp only [List.setIfInBounds_toArray, List.set_cons_succ, List.set_cons_zero]
          refine takeR (i := 10) (d := 19) (v := .pointer (some ⟨b, off + x * 4, none⟩)) (fuel := 4) (by kernel_rfl) rfl rfl (by kernel_rfl) (by kernel_rfl) (by kernel_rfl) (fun _ _ _ h => by cases h.1) (.inl ⟨by kernel_rfl, fun wx h => by go_simp⟩) hS0 ?_
          simp only [List.setIfInBounds_toArray, List.set_cons_succ, List.set_cons_zero]
          refine takeR (i := 11) (d := 20) (v := .pointer (some ⟨b, off + x * 4 + 3, none⟩)) (fuel := 3) (by kernel_rfl) rfl rfl (by kernel_rfl) (by kernel_rfl) (by kernel_rfl) (fun _ _ _ h => by cases h.1) (.inl ⟨by kernel_rfl, fun wx h => by go_simp⟩) hS0 ?_
          simp only [List.setIfInBounds_toArray, List.set_cons_succ, List.set_cons_zero]
          refine takeR (i := 12) (d := 21) (v := .bool false) (fuel := 2) (by kernel_rfl) rfl rfl (by kernel_rfl) (by kernel_rfl) (by kernel_rfl) (fun _ _ _ h => by cases h.1) (.inl ⟨by kernel_rfl, fun wx h => by obtain ⟨y0, y1, y2⟩ := h; go_simp⟩) hS0 ?_
          simp only [List.setIfInBounds_toArray, List.set_cons_succ, List.set_cons_zero]
          refine takeR (i := 13) (d := 22) (v := .bool true) (fuel := 1) (by kernel_rfl) rfl rfl (by kernel_rfl) (by kernel_rfl) (by kernel_rfl) (fun _ _ _ h => by cases h.1) (.inl ⟨by kernel_rfl, fun wx h => by go_simp⟩) hS0 ?_
          simp only [List.setIfInBounds_toArray, List.set_cons_succ, List.set_cons_zero]
          refine takeR (i := 14) (d := 23) (v := .bool true) (fuel := 0) (by kernel_rfl) rfl rfl (by kernel_rfl) (by kernel_rfl) (by kernel_rfl) (fun _ _ _ h => by cases h.1) (.inl ⟨by kernel_rfl, fun wx h => by go_simp⟩) hS0 ?_
          simp only [List.setIfInBounds_toArray, List.set_cons_succ, List.set_cons_zero]
          refine doneR (by kernel_rfl) ?_ _
          exact ⟨rfl, (), by kernel_rfl, rfl⟩
        · rintro _ w5 rfl
          simp only [setAll, List.setIfInBounds_toArray, List.set_cons_succ, List.set_cons_zero, Exit.then]
          have HX5 : Hid (ChX w (.slice (some ⟨b, off, none⟩) n c) l (W2.drew.setCell ⟨w.heap.size + 1, 0, none⟩ (.int .i64 14)) TB ∧ Rl.Rv 0 TB W2 (W2.drew.setCell ⟨w.heap.size + 1, 0, none⟩ (.int .i64 14))) := by
            obtain ⟨h1, h2, h3, h4⟩ := HI4.out
            obtain ⟨m1, m2⟩ := ((h1.mv (Rl.Mv.drew _ _)).1).set (i := 0) (.int .i64 14) (show w.heap.size ≤ w.heap.size + 1 by omega) (by omega)
            exact ⟨⟨m1, Boxed.set _ h3, not_check (by have := HXE.out; have := HN.out; omega) HGG.out.1 HGG.out.2.1 (by rw [HO1.out, HO2.out]; decide)⟩, (Rl.Rv.drew W2).trans m2⟩
          clear y0 z3 g3
          gi_wp2
          exact ⟨⟨rfl, HX5.out.1⟩, HX5.out.2⟩
      · gi_wp2
        refine regionR (S := fun wx => wx.cell? ⟨w.heap.size, 0, none⟩ = some (.slice (some ⟨b, off, none⟩) n c) ∧ wx.cell? ⟨b, off + g * 4 + 3, none⟩ = some (.bool true) ∧ wx.cell? ⟨b, off + x * 4 + 3, none⟩ = some (.bool true)) (β := Unit) (fun _ => [(9, .int .i64 (g : Int)), (10, .bool true), (11, .bool true), (12, .slice (some ⟨b, off, none⟩) n c), (13, .int .i64 (g : Int)), (14, .pointer (some ⟨b, off + g * 4, none⟩)), (15, .pointer (some ⟨b, off + g * 4 + 3, none⟩)), (16, .bool true), (17, .slice (some ⟨b, off, none⟩) n c), (18, .int .i64 (x : Int)), (19, .pointer (some ⟨b, off + x * 4, none⟩)), (20, .pointer (some ⟨b, off + x * 4 + 3, none⟩)), (21, .bool true), (22, .bool false), (23, .bool false)]) (fun _ w' => w' = W2.drew) (by kernel_rfl) ?_ ?_
        · have hS0 : (fun wx => wx.cell? ⟨w.heap.size, 0, none⟩ = some (.slice (some ⟨b, off, none⟩) n c) ∧ wx.cell? ⟨b, off + g * 4 + 3, none⟩ = some (.bool true) ∧ wx.cell? ⟨b, off + x * 4 + 3, none⟩ = some (.bool true)) W2.drew := ⟨y0, g3, z3⟩
          simp only [List.size_toArray, List.length_cons, List.length_nil, Nat.reduceAdd, Array.replicate_succ, Array.replicate_zero, List.push_toArray, List.nil_append, List.cons_append]
          refine takeR (i := 0) (d := 9) (v := .int .i64 (g : Int)) (fuel := 14) (by kernel_rfl) rfl rfl (by kernel_rfl) (by kernel_rfl) (by kernel_rfl) (fun _ _ _ h => by cases h.1) (.inl ⟨by kernel_rfl, fun wx h => by go_simp⟩) hS0 ?_
          simp only [List.setIfInBounds_toArray, List.set_cons_succ, List.set_cons_zero]
          refine takeR (i := 1) (d := 10) (v := .bool true) (fuel := 13) (by kernel_rfl) rfl rfl (by kernel_rfl) (by kernel_rfl) (by kernel_rfl) (fun _ _ _ h => by cases h.1) (.inl ⟨by kernel_rfl, fun wx h => by go_simp⟩) hS0 ?_
          simp only [List.setIfInBounds_toArray, List.set_cons_succ, List.set_cons_zero]
          refine takeR (i := 2) (d := 11) (v := .bool true) (fuel := 12) (by kernel_rfl) rfl rfl (by kernel_rfl) (by kernel_rfl) (by kernel_rfl) (fun _ _ _ h => by cases h.1) (.inl ⟨by kernel_rfl, fun wx h => by go_simp⟩) hS0 ?_
          simp only [List.setIfInBounds_toArray, List.set_cons_succ, List.set_cons_zero]
          refine takeR (i := 3) (d := 12) (v := .slice (some ⟨b, off, none⟩) n c) (fuel := 11) (by kernel_rfl) rfl rfl (by kernel_rfl) (by kernel_rfl) (by kernel_rfl) (fun _ _ _ h => by cases h.1) (.inl ⟨by kernel_rfl, fun wx h => by obtain ⟨y0, y1, y2⟩ := h; go_simp⟩) hS0 ?_
          simp only [List.setIfInBounds_toArray, List.set_cons_succ, List.set_cons_zero]
          refine takeR (i := 4) (d := 13) (v := .int .i64 (g : Int)) (fuel := 10) (by kernel_rfl) rfl rfl (by kernel_rfl) (by kernel_rfl) (by kernel_rfl) (fun _ _ _ h => by cases h.1) (.inl ⟨by kernel_rfl, fun wx h => by go_simp⟩) hS0 ?_
          simp only [List.setIfInBounds_toArray, List.set_cons_succ, List.set_cons_zero]
          refine takeR (i := 5) (d := 14) (v := .pointer (some ⟨b, off + g * 4, none⟩)) (fuel := 9) (by kernel_rfl) rfl rfl (by kernel_rfl) (by kernel_rfl) (by kernel_rfl) (fun _ _ _ h => by cases h.1) (.inl ⟨by kernel_rfl, fun wx h => by go_simp⟩) hS0 ?_
          simp only [List.setIfInBounds_toArray, List.set_cons_succ, List.set_cons_zero]
          refine takeR (i := 6) (d := 15) (v := .pointer (some ⟨b, off + g * 4 + 3, none⟩)) (fuel := 8) (by kernel_rfl) rfl rfl (by kernel_rfl) (by kernel_rfl) (by kernel_rfl) (fun _ _ _ h => by cases h.1) (.inl ⟨by kernel_rfl, fun wx h => by go_simp⟩) hS0 ?_
          simp only [List.setIfInBounds_toArray, List.set_cons_succ, List.set_cons_zero]
          refine takeR (i := 7) (d := 16) (v := .bool true) (fuel := 7) (by kernel_rfl) rfl rfl (by kernel_rfl) (by kernel_rfl) (by kernel_rfl) (fun _ _ _ h => by cases h.1) (.inl ⟨by kernel_rfl, fun wx h => by obtain ⟨y0, y1, y2⟩ := h; go_simp⟩) hS0 ?_
          simp only [List.setIfInBounds_toArray, List.set_cons_succ, List.set_cons_zero]
          refine takeR (i := 8) (d := 17) (v := .slice (some ⟨b, off, none⟩) n c) (fuel := 6) (by kernel_rfl) rfl rfl (by kernel_rfl) (by kernel_rfl) (by kernel_rfl) (fun _ _ _ h => by cases h.1) (.inl ⟨by kernel_rfl, fun wx h => by obtain ⟨y0, y1, y2⟩ := h; go_simp⟩) hS0 ?_
          simp only [List.setIfInBounds_toArray, List.set_cons_succ, List.set_cons_zero]
          refine takeR (i := 9) (d := 18) (v := .int .i64 (x : Int)) (fuel := 5) (by kernel_rfl) rfl rfl (by kernel_rfl) (by kernel_rfl) (by kernel_rfl) (fun _ _ _ h => by cases h.1) (.inl ⟨by kernel_rfl, fun wx h => by go_simp⟩) hS0 ?_
          simp only [List.setIfInBounds_toArray, List.set_cons_succ, List.set_cons_zero]
          refine takeR (i := 10) (d := 19) (v := .pointer (some ⟨b, off + x * 4, none⟩)) (fuel := 4) (by kernel_rfl) rfl rfl (by kernel_rfl) (by kernel_rfl) (by kernel_rfl) (fun _ _ _ h => by cases h.1) (.inl ⟨by kernel_rfl, fun wx h => by go_simp⟩) hS0 ?_
          simp only [List.setIfInBounds_toArray, List.set_cons_succ, List.set_cons_zero]
          refine takeR (i := 11) (d := 20) (v := .pointer (some ⟨b, off + x * 4 + 3, none⟩)) (fuel := 3) (by kernel_rfl) rfl rfl (by kernel_rfl) (by kernel_rfl) (by kernel_rfl) (fun _ _ _ h => by cases h.1) (.inl ⟨by kernel_rfl, fun wx h => by go_simp⟩) hS0 ?_
          simp only [List.setIfInBounds_toArray, List.set_cons_succ, List.set_cons_zero]
          refine takeR (i := 12) (d := 21) (v := .bool true) (fuel := 2) (by kernel_rfl) rfl rfl (by kernel_rfl) (by kernel_rfl) (by kernel_rfl) (fun _ _ _ h => by cases h.1) (.inl ⟨by kernel_rfl, fun wx h => by obtain ⟨y0, y1, y2⟩ := h; go_simp⟩) hS0 ?_
          simp only [List.setIfInBounds_toArray, List.set_cons_succ, List.set_cons_zero]
          refine takeR (i := 13) (d := 22) (v := .bool false) (fuel := 1) (by kernel_rfl) rfl rfl (by kernel_rfl) (by kernel_rfl) (by kernel_rfl) (fun _ _ _ h => by cases h.1) (.inl ⟨by kernel_rfl, fun wx h => by go_simp⟩) hS0 ?_
          simp only [List.setIfInBounds_toArray, List.set_cons_succ, List.set_cons_zero]
          refine takeR (i := 14) (d := 23) (v := .bool false) (fuel := 0) (by kernel_rfl) rfl rfl (by kernel_rfl) (by kernel_rfl) (by kernel_rfl) (fun _ _ _ h => by cases h.1) (.inl ⟨by kernel_rfl, fun wx h => by go_simp⟩) hS0 ?_
          simp only [List.setIfInBounds_toArray, List.set_cons_succ, List.set_cons_zero]
          refine doneR (by kernel_rfl) ?_ _
          exact ⟨rfl, (), by kernel_rfl, rfl⟩
        · rintro _ w5 rfl
          simp only [setAll, List.setIfInBounds_toArray, List.set_cons_succ, List.set_cons_zero, Exit.then]
          have HI5 : Hid (ChI w (.slice (some ⟨b, off, none⟩) n c) l (k + 1) W2.drew TB) := by
            obtain ⟨h1, h2, h3, h4⟩ := HI4.out
            refine ⟨(h1.mv (Rl.Mv.drew _ _)).1, h2, h3, ?_⟩
            have e : l.length - (k + 1) = x := by have := HOK.out; omega
            rw [e]
            refine okFrom_step (by rw [HOK.out]; exact h4) (fun b hb hbl => ?_)
            rw [HGG.out.2.2] at hb
            obtain rfl : g = b := by omega
            rw [HO1.out, HO2.out]
          clear y0 y1 f1 z3 g3
          gi_wp2
          exact ⟨HI5, Rl.Rv.drew _⟩
  case done =>
    rintro V T2 h hold hup hdef hts
    obtain ⟨h1, h2, h3, h4⟩ := h.out
    have HV : Hid (V.heap[w3.heap.size]? = some (.deferred (some [])) ∧ T2 w3.heap.size) := ⟨hdef, hts⟩
    have y1 := h3.cell
    have f1 := h3.frozen
    have HOK : Hid (chkV l = 0) := chk_ok (okFrom_check HLN.out (by have e : l.length - xs.length = 0 := by rw [HXL.out, HN.out]; omega
                                                                    rw [← e]; exact h4))
    obtain ⟨m1, m2⟩ := h1.set (i := 0) (.int .i64 0) (show w.heap.size ≤ w.heap.size + 1 by omega) (by omega)
    have HM : Hid (CoS w (.slice a n c) l (w.heap.size + 2) (V.setCell ⟨w.heap.size + 1, 0, none⟩ (.int .i64 0)) T2 ∧ Boxed (V.setCell ⟨w.heap.size + 1, 0, none⟩ (.int .i64 0)) (w.heap.size + 1) 28 (.int .i64 0) ∧ w.heap.size + 2 ≤ w3.heap.size) := ⟨m1, Boxed.set _ h3, (h1.own _ hts).1⟩
    clear h h1 h2 h3 h4 hold hup hdef hts m1 m2 HITR H0
    gi_wp2
    have hd9 : (V.setCell ⟨w.heap.size + 1, 0, none⟩ (.int .i64 0)).heap[w3.heap.size]? = some (.deferred (some [])) := (set_same _ _ _ _ _ (by have := HM.out.2.2; omega)).trans HV.out.1
    show LeavesInM Fence.wide 0 Tryz.prog Tryz.f8 _ R ([w3.heap.size].map Rl.mark) .returning _
    refine Rl.leaves_marks (T := T2) (by simp) (fun A => CoS w (.slice a n c) l (w.heap.size + 2) A T2 ∧ Boxed A (w.heap.size + 1) 28 (.int .i64 0)) ?_ ?_ _ _ ⟨by simp, fun D hD => by simp at hD; subst hD; exact ⟨HV.out.2, hd9⟩⟩ ⟨HM.out.1, HM.out.2.1⟩
    · rintro A D hD ⟨k1, k2⟩
      obtain ⟨j1, j2⟩ := k1.mv (Rl.Mv.putObj A _ hD)
      exact ⟨j1, (j2 _ (by omega)).trans k2⟩
    · rintro A ⟨k1, k2⟩
      refine ⟨_, results_cell26 rfl _ _ (w.heap.size + 1) rfl k2.cell, ?_⟩
      rw [HR.out]
      exact ⟨by rw [HOK.out], k1.bel⟩
  case stop =>
    rintro c' k V T2 hk h hold hup hdef hts
    obtain ⟨rfl, h1, h2, h3⟩ := h.out
    have HV : Hid (V.heap[w3.heap.size]? = some (.deferred (some [])) ∧ T2 w3.heap.size) := ⟨hdef, hts⟩
    have HX : Hid (CoS w (.slice a n c) l (w.heap.size + 2) V T2 ∧ Boxed V (w.heap.size + 1) 28 (.int .i64 14)) := ⟨h1, h2⟩
    have HOK : Hid (chkV l = 14) := chk_no h3
    clear h h1 h2 h3 hold hup hdef hts hk HITR H0
    gi_wp2
    show LeavesInM Fence.wide 0 Tryz.prog Tryz.f8 _ R ([w3.heap.size].map Rl.mark) .returning V
    refine Rl.leaves_marks (T := T2) (by simp) (fun A => CoS w (.slice a n c) l (w.heap.size + 2) A T2 ∧ Boxed A (w.heap.size + 1) 28 (.int .i64 14)) ?_ ?_ _ V ⟨by simp, fun D hD => by simp at hD; subst hD; exact ⟨HV.out.2, HV.out.1⟩⟩ HX.out
    · rintro A D hD ⟨k1, k2⟩
      obtain ⟨j1, j2⟩ := k1.mv (Rl.Mv.putObj A _ hD)
      exact ⟨j1, (j2 _ (by omega)).trans k2⟩
    · rintro A ⟨k1, k2⟩
      refine ⟨_, results_cell26 rfl _ _ (w.heap.size + 1) rfl k2.cell, ?_⟩
      rw [HR.out]
      exact ⟨by rw [HOK.out], k1.bel⟩
end Go.Proofs.YtlegmmhacnbnlaaGreatDoor.J.Tz

