/- Events in a block; the walks over isNext, the document's next, fresh, rightCount, stands, and what makes the iterators. -/
import Derived.Test.YtamfpmpooaejkaaNa
import Derived.Test.YtamfpmpooaejkaaGh
namespace Go.Proofs.Ytamfpmpooaejkaa
open Go.RowKit
set_option maxRecDepth 1000000
set_option linter.unusedVariables false

def Box (w : World) (b : Nat) (k i t : Int) (sv : Value) : Prop := w.heap[b]? = some (.cells #[.int .i64 k, .int .i64 i, .int .i64 t, sv] 45 (0, 0))

theorem Box.new (w : World) (k i t : Int) (sv : Value) : Box (w.alloc (.cells #[.int .i64 k, .int .i64 i, .int .i64 t, sv] 45)) w.heap.size k i t sv := row_new w _ _
theorem Box.lt {w : World} {b : Nat} {k i t : Int} {sv : Value} (h : Box w b k i t sv) : b < w.heap.size := (Array.getElem?_eq_some_iff.1 h).1
theorem Box.later {w w' : World} {b : Nat} {k i t : Int} {sv : Value} (h : Box w b k i t sv) (hb : Below w.heap.size w w') : Box w' b k i t sv := (hb.block b h.lt).trans h
theorem Box.alloc {w : World} {b : Nat} {k i t : Int} {sv : Value} (h : Box w b k i t sv) (o : Obj) : Box (w.alloc o) b k i t sv := h.later ((Below.refl _ _).alloc (Nat.le_refl _) _)
theorem Box.c0 {w : World} {b : Nat} {k i t : Int} {sv : Value} (h : Box w b k i t sv) : w.cell? ⟨b, 0, none⟩ = some (.int .i64 k) := cell_row h 0
theorem Box.c1 {w : World} {b : Nat} {k i t : Int} {sv : Value} (h : Box w b k i t sv) : w.cell? ⟨b, 1, none⟩ = some (.int .i64 i) := cell_row h 1
theorem Box.c2 {w : World} {b : Nat} {k i t : Int} {sv : Value} (h : Box w b k i t sv) : w.cell? ⟨b, 2, none⟩ = some (.int .i64 t) := cell_row h 2
theorem Box.c3 {w : World} {b : Nat} {k i t : Int} {sv : Value} (h : Box w b k i t sv) : w.cell? ⟨b, 3, none⟩ = some sv := cell_row h 3
theorem Box.f (n : Nat) {w : World} {b : Nat} {k i t : Int} {sv : Value} (h : Box w b k i t sv) : w.frozen? ⟨b, n, none⟩ = false := froz_row h n
theorem Box.bz {A B : World} {b : Nat} {k i t : Int} {sv : Value} (h : Box A b k i t sv) (hb : Bz A B) : Box B b k i t sv := hb.cells b _ h rfl
theorem Box.set3 {w : World} {b : Nat} {k i t : Int} {sv : Value} (h : Box w b k i t sv) (sv' : Value) : Box (w.setCell ⟨b, 3, none⟩ sv') b k i t sv' := row_set h 3 _
theorem Box.other {w : World} {b c j : Nat} {k i t : Int} {sv u : Value} (h : Box w b k i t sv) (hn : b ≠ c) : Box (w.setCell ⟨c, j, none⟩ u) b k i t sv :=
  (Below.heap_setCell w ⟨c, j, none⟩ u b hn).trans h

/-- All four cells of a block set. -/
def set4 (w : World) (b : Nat) (a0 a1 a2 a3 : Value) : World := (((w.setCell ⟨b, 0, none⟩ a0).setCell ⟨b, 1, none⟩ a1).setCell ⟨b, 2, none⟩ a2).setCell ⟨b, 3, none⟩ a3
theorem Box.set4 {w : World} {b : Nat} {k i t : Int} {sv : Value} (h : Box w b k i t sv) (k' i' t' : Int) (sv' : Value) : Box (set4 w b (.int .i64 k') (.int .i64 i') (.int .i64 t') sv') b k' i' t' sv' :=
  row_set (row_set (row_set (row_set h 0 _) 1 _) 2 _) 3 _
theorem below_set4 {B : Nat} {w w' : World} {b : Nat} (h : Below B w w') (hb : B ≤ b) (a0 a1 a2 a3 : Value) : Below B w (Ytamfpmpooaejkaa.set4 w' b a0 a1 a2 a3) :=
  (((h.setCell (p := ⟨b, 0, none⟩) hb _).setCell (p := ⟨b, 1, none⟩) hb _).setCell (p := ⟨b, 2, none⟩) hb _).setCell (p := ⟨b, 3, none⟩) hb _
theorem heap_set4 (w : World) (b x : Nat) (a0 a1 a2 a3 : Value) (h : x ≠ b) : (Ytamfpmpooaejkaa.set4 w b a0 a1 a2 a3).heap[x]? = w.heap[x]? := by
  unfold Ytamfpmpooaejkaa.set4
  rw [Below.heap_setCell _ _ _ _ h, Below.heap_setCell _ _ _ _ h, Below.heap_setCell _ _ _ _ h, Below.heap_setCell _ _ _ _ h]

theorem OI.keep {B : Nat} {w w' : World} {g n cap : Nat} {l : List Int} (h : OI B w g n cap l) (hk : w'.heap[g]? = w.heap[g]?) : OI B w' g n cap l := by
  refine ⟨h.1, ?_⟩
  rcases h.2 with hn | ⟨g', cap', cur, e, hb, hg, rest⟩
  · exact .inl hn
  · cases e
    exact .inr ⟨g, cap, cur, rfl, hb, hk.trans hg, rest⟩

theorem rightCount_any (n : Int) (w : World) : Calls Try.prog 24 #[.int .i64 n] w fun e w' => e = .returned (.bool (decide (1 ≤ n ∧ n ≤ 64))) ∧ w' = w := by
  obtain ⟨q, HQ⟩ : ∃ q, Hid (q = decide (1 ≤ n ∧ n ≤ 64)) := ⟨_, rfl⟩
  rw [← HQ.out]
  by_cases h1 : 1 ≤ n
  · by_cases h2 : n ≤ 64
    · have HD : Hid (q = true) := HQ.out.trans (decide_eq_true ⟨h1, h2⟩)
      clear HQ
      go_enter Try.func24, Try.ntmps24
      go_wp2_with fail
      go_ret
      exact ⟨by rw [HD.out]; first | rfl | simp [h2], rfl⟩
    · have HD : Hid (q = false) := HQ.out.trans (decide_eq_false (fun h => h2 h.2))
      clear HQ
      go_enter Try.func24, Try.ntmps24
      go_wp2_with fail
      go_ret
      exact ⟨by rw [HD.out]; first | rfl | simp [h2], rfl⟩
  · have HD : Hid (q = false) := HQ.out.trans (decide_eq_false (fun h => h1 h.1))
    clear HQ
    go_enter Try.func24, Try.ntmps24
    go_wp2_with fail
    go_ret
    exact ⟨by rw [HD.out]; first | rfl | simp, rfl⟩

theorem stands_any (a : Option Addr) (n c : Nat) (i : Int) (w : World) : Calls Try.prog 31 #[.slice a n c, .int .i64 i] w fun e w' => e = .returned (.bool (decide (0 ≤ i ∧ i < (n : Int)))) ∧ w' = w := by
  obtain ⟨q, HQ⟩ : ∃ q, Hid (q = decide (0 ≤ i ∧ i < (n : Int))) := ⟨_, rfl⟩
  rw [← HQ.out]
  by_cases h1 : 0 ≤ i
  · by_cases h2 : i < (n : Int)
    · have HD : Hid (q = true) := HQ.out.trans (decide_eq_true ⟨h1, h2⟩)
      clear HQ
      go_enter Try.func31, Try.ntmps31
      go_wp2_with fail
      go_ret
      exact ⟨by rw [HD.out]; first | rfl | simp [h2], rfl⟩
    · have HD : Hid (q = false) := HQ.out.trans (decide_eq_false (fun h => h2 h.2))
      clear HQ
      go_enter Try.func31, Try.ntmps31
      go_wp2_with fail
      go_ret
      exact ⟨by rw [HD.out]; first | rfl | simp [h2], rfl⟩
  · have HD : Hid (q = false) := HQ.out.trans (decide_eq_false (fun h => h1 h.1))
    clear HQ
    go_enter Try.func31, Try.ntmps31
    go_wp2_with fail
    go_ret
    exact ⟨by rw [HD.out]; first | rfl | simp, rfl⟩

theorem merged_any (a : Option Addr) (n c : Nat) (w : World) : Calls Try.prog 25 #[.slice a n c] w fun e w' => e = .returned (.func (.func 34) #[] #[.pointer (some ⟨w.heap.size, 0, none⟩)]) ∧ w' = w.alloc (.cells #[.slice a n c] 22) := by
  go_enter Try.func25, Try.ntmps25
  go_wp2_with fail
  go_ret
  exact ⟨rfl, rfl⟩
theorem parted_any (a : Option Addr) (n c : Nat) (i : Int) (w : World) : Calls Try.prog 29 #[.slice a n c, .int .i64 i] w fun e w' => e = .returned (.func (.func 39) #[] #[.pointer (some ⟨w.heap.size + 1, 0, none⟩), .pointer (some ⟨w.heap.size, 0, none⟩)]) ∧ w' = (w.alloc (.cells #[.slice a n c] 25)).alloc (.cells #[.int .i64 i] 3) := by
  go_enter Try.func29, Try.ntmps29
  go_wp2_with fail
  go_ret
  exact ⟨rfl, rfl⟩
theorem fronts_any (a : Option Addr) (n c : Nat) (b : Option Addr) (m d : Nat) (w : World) : Calls Try.prog 35 #[.slice a n c, .slice b m d] w fun e w' => e = .returned (.func (.func 44) #[] #[.pointer (some ⟨w.heap.size, 0, none⟩), .pointer (some ⟨w.heap.size + 1, 0, none⟩)]) ∧ w' = (w.alloc (.cells #[.slice a n c] 22)).alloc (.cells #[.slice b m d] 26) := by
  go_enter Try.func35, Try.ntmps35
  go_wp2_with fail
  go_ret
  exact ⟨rfl, rfl⟩

set_option maxHeartbeats 2000000 in
theorem isNext_any (hv sv : Value) (had : List Nat) (e : Ev) (i : Nat) (w : World) (hh : RI w hv (hadZ had)) (hs : RI w sv e.s) (hi : i < had.length) (hb : had.getD i 0 ≤ 1000000) (hn : had.length ≤ 64) :
    Calls Try.prog 36 #[hv, EvV e sv, .int .i64 (i : Int)] w fun x w' => x = .returned (.bool (decide (Mg.Nx had e.s i))) ∧ Below w.heap.size w w' := by
  have HX : Hid (Below w.heap.size w (w.alloc (.cells #[.int .i64 e.k, .int .i64 e.i, .int .i64 e.t, sv] 45))) := (Below.refl _ _).alloc (Nat.le_refl _) _
  have HB : Hid (Box (w.alloc (.cells #[.int .i64 e.k, .int .i64 e.i, .int .i64 e.t, sv] 45)) w.heap.size e.k e.i e.t sv) := Box.new w _ _ _ _
  have c3 := HB.out.c3
  unfold EvV
  by_cases hl : e.s.length = had.length
  · have HC : Hid _ := next_any hv sv (hadZ had) e.s (i : Int) _ (hh.later HX.out) (hs.later HX.out) (by rw [hadZ_len]; omega) (by omega)
    rw [nx_eq had e.s i hl hi hb] at HC
    obtain ⟨ha, hc, rfl, _⟩ := hh
    obtain ⟨sa, sc, rfl, _⟩ := hs
    rw [hadZ_len] at HC
    rw [hl] at HC c3 HX ⊢
    rw [hadZ_len]
    generalize decide (Mg.Nx had e.s i) = q at *
    generalize had.length = nh at *
    generalize e.k = ek at *
    generalize e.i = ei at *
    generalize e.t = et at *
    clear HB hl hb
    go_enter Try.func36, Try.ntmps36
    go_wp2_with fail
    refine Calls.mono HC.out ?_
    rintro x w1 ⟨rfl, hb1⟩
    have HB1 : Hid (Below w.heap.size w w1) := HX.out.trans (hb1.mono (by simp))
    clear hb1
    go_wp2_with fail
    go_ret
    exact ⟨rfl, HB1.out⟩
  · rw [nx_len hl]
    have hne : ((e.s.length : Int) == (had.length : Int)) = false := by rw [beq_eq_false_iff_ne]; omega
    obtain ⟨ha, hc, rfl, _⟩ := hh
    obtain ⟨sa, sc, rfl, _⟩ := hs
    rw [hadZ_len]
    generalize e.s.length = ns at *
    generalize had.length = nh at *
    generalize e.k = ek at *
    generalize e.i = ei at *
    generalize e.t = et at *
    clear HB hl hb
    go_enter Try.func36, Try.ntmps36
    go_wp2_with fail
    go_ret
    exact ⟨rfl, HX.out⟩

set_option maxHeartbeats 2000000 in
theorem rnext2_any (hv sv : Value) (had : List Nat) (e : Ev) (i : Nat) (w : World) (hh : RI w hv (hadZ had)) (hs : RI w sv e.s) (hi : i < had.length) (hb : had.getD i 0 ≤ 1000000) (hn : had.length ≤ 64) :
    Calls Try.prog 27 #[hv, EvV e sv, .int .i64 (i : Int)] w fun x w' => x = .returned (.bool (decide (Mg.Nx had e.s i))) ∧ Below w.heap.size w w' := by
  have HX : Hid (Below w.heap.size w (w.alloc (.cells #[.int .i64 e.k, .int .i64 e.i, .int .i64 e.t, sv] 45))) := (Below.refl _ _).alloc (Nat.le_refl _) _
  have HB : Hid (Box (w.alloc (.cells #[.int .i64 e.k, .int .i64 e.i, .int .i64 e.t, sv] 45)) w.heap.size e.k e.i e.t sv) := Box.new w _ _ _ _
  have c3 := HB.out.c3
  unfold EvV
  by_cases hl : e.s.length = had.length
  · have HC : Hid _ := rnext_any hv sv (hadZ had) e.s (i : Int) _ (hh.later HX.out) (hs.later HX.out) (by rw [hadZ_len]; omega) (by omega)
    rw [nx_eq had e.s i hl hi hb] at HC
    obtain ⟨ha, hc, rfl, _⟩ := hh
    obtain ⟨sa, sc, rfl, _⟩ := hs
    rw [hadZ_len] at HC
    rw [hl] at HC c3 HX ⊢
    rw [hadZ_len]
    generalize decide (Mg.Nx had e.s i) = q at *
    generalize had.length = nh at *
    generalize e.k = ek at *
    generalize e.i = ei at *
    generalize e.t = et at *
    clear HB hl hb
    go_enter Try.func27, Try.ntmps27
    go_wp2_with fail
    refine Calls.mono HC.out ?_
    rintro x w1 ⟨rfl, hb1⟩
    have HB1 : Hid (Below w.heap.size w w1) := HX.out.trans (hb1.mono (by simp))
    clear hb1
    go_wp2_with fail
    go_ret
    exact ⟨rfl, HB1.out⟩
  · rw [nx_len hl]
    have hne : ((e.s.length : Int) == (had.length : Int)) = false := by rw [beq_eq_false_iff_ne]; omega
    obtain ⟨ha, hc, rfl, _⟩ := hh
    obtain ⟨sa, sc, rfl, _⟩ := hs
    rw [hadZ_len]
    generalize e.s.length = ns at *
    generalize had.length = nh at *
    generalize e.k = ek at *
    generalize e.i = ei at *
    generalize e.t = et at *
    clear HB hl hb
    go_enter Try.func27, Try.ntmps27
    go_wp2_with fail
    go_ret
    exact ⟨rfl, HX.out⟩

set_option maxHeartbeats 2000000 in
theorem fresh_any (e : Ev) (sv : Value) (w : World) (hs : RI w sv e.s) (h1 : 1 ≤ e.s.length) (hn : e.s.length ≤ 1000000) :
    Calls Try.prog 26 #[EvV e sv] w fun x w' => ∃ g c, x = .returned (EvV e (.slice (some ⟨g, 0, none⟩) e.s.length c)) ∧ OI w.heap.size w' g e.s.length c e.s ∧ Below w.heap.size w w' := by
  obtain ⟨w2, hw2⟩ : ∃ w2, w2 = (w.alloc (.cells #[.int .i64 e.k, .int .i64 e.i, .int .i64 e.t, sv] 45)).alloc (.cells #[.int .i64 0, .int .i64 0, .int .i64 0, .slice none 0 0] 45) := ⟨_, rfl⟩
  have HX : Hid (Below w.heap.size w w2) := by rw [hw2]; exact ((Below.refl _ _).alloc (Nat.le_refl _) _).alloc (by simp) _
  have HB : Hid (Box w2 w.heap.size e.k e.i e.t sv) := by rw [hw2]; exact (Box.new w _ _ _ _).alloc _
  have HB2 : Hid (Box w2 (w.heap.size + 1) 0 0 0 (.slice none 0 0)) := by
    rw [hw2]
    have := Box.new (w.alloc (.cells #[.int .i64 e.k, .int .i64 e.i, .int .i64 e.t, sv] 45)) 0 0 0 (.slice none 0 0)
    rw [World.size_alloc] at this
    exact this
  have HSZ : Hid (w2.heap.size = w.heap.size + 2) := by show _ = _; rw [hw2]; simp
  have HC : Hid _ := clone_any sv e.s w2 (hs.later HX.out) h1 hn
  obtain ⟨sa, sc, rfl, _⟩ := hs
  have c3 := HB.out.c3
  unfold EvV
  generalize e.k = ek at *
  generalize e.i = ei at *
  generalize e.t = et at *
  obtain ⟨n, HN⟩ : ∃ n, Hid (n = e.s.length) := ⟨_, rfl⟩
  rw [← HN.out] at HC c3 HB hw2 ⊢
  go_enter Try.func26, Try.ntmps26
  go_wp2_with fail
  rw [← hw2]
  clear hw2
  go_wp2_with fail
  refine Calls.mono HC.out ?_
  rintro x w3 ⟨g, c, rfl, ho, hb⟩
  have HO : Hid _ := ho
  have hgl := ho.lt
  have HB3 : Hid (Box w3 w.heap.size ek ei et (.slice sa n sc)) := Box.later HB.out hb
  have HC3 : Hid (Box w3 (w.heap.size + 1) 0 0 0 (.slice none 0 0)) := Box.later HB2.out hb
  have HBW : Hid (Below w.heap.size w w3) := HX.out.trans (hb.mono HX.out.size)
  have hs2 := HSZ.out
  clear ho hb HC HB HB2 c3 HX HSZ
  rw [hs2] at hgl
  have HB4 : Hid (Box (w3.setCell ⟨w.heap.size, 3, none⟩ (.slice (some ⟨g, 0, none⟩) n c)) w.heap.size ek ei et (.slice (some ⟨g, 0, none⟩) n c)) := HB3.out.set3 _
  have HC4 : Hid (Box (w3.setCell ⟨w.heap.size, 3, none⟩ (.slice (some ⟨g, 0, none⟩) n c)) (w.heap.size + 1) 0 0 0 (.slice none 0 0)) := HC3.out.other (by omega)
  have HO4 : Hid (OI w.heap.size (w3.setCell ⟨w.heap.size, 3, none⟩ (.slice (some ⟨g, 0, none⟩) n c)) g n c e.s) := by
    have h5 : OI w2.heap.size (w3.setCell ⟨w.heap.size, 3, none⟩ (.slice (some ⟨g, 0, none⟩) n c)) g n c e.s := OI.keep HO.out (Below.heap_setCell w3 ⟨w.heap.size, 3, none⟩ (.slice (some ⟨g, 0, none⟩) n c) g (by show g ≠ w.heap.size; omega))
    exact owns_low h5 (by omega)
  have HBW4 : Hid (Below w.heap.size w (w3.setCell ⟨w.heap.size, 3, none⟩ (.slice (some ⟨g, 0, none⟩) n c))) := HBW.out.setCell (p := ⟨w.heap.size, 3, none⟩) (Nat.le_refl _) _
  have f3 := HB3.out.f 3
  have d0 := HB3.out.c0
  have d1 := HB3.out.c1
  have d2 := HB3.out.c2
  have d3 := HB3.out.c3
  have f0 := HC3.out.f 0
  have f1 := HC3.out.f 1
  have f2 := HC3.out.f 2
  have f4 := HC3.out.f 3
  have g0 := HC3.out.c0
  have g1 := HC3.out.c1
  have g2 := HC3.out.c2
  have g3 := HC3.out.c3
  clear HB3 HC3 HO HBW hs2
  go_wp2_with fail
  generalize w3.setCell ⟨w.heap.size, 3, none⟩ (.slice (some ⟨g, 0, none⟩) n c) = w4 at *
  have HC4 : Hid (Box w4 (w.heap.size + 1) 0 0 0 (.slice none 0 0)) := HC4.out
  have HO4 : Hid (OI w.heap.size w4 g n c e.s) := HO4.out
  have HF : Hid (Box (Ytamfpmpooaejkaa.set4 w4 (w.heap.size + 1) (.int .i64 ek) (.int .i64 ei) (.int .i64 et) (.slice (some ⟨g, 0, none⟩) n c)) (w.heap.size + 1) ek ei et (.slice (some ⟨g, 0, none⟩) n c)) := HC4.out.set4 _ _ _ _
  refine ⟨rfl, _, results_cell_row (p := 2) (ty := 45) rfl _ _ (w.heap.size + 1) 45 #[.int .i64 ek, .int .i64 ei, .int .i64 et, .slice (some ⟨g, 0, none⟩) n c] (0, 0) _ rfl HF.out Try.underlying45 rfl (by kernel_rfl), g, c, rfl, ?_, below_set4 HBW4.out (by omega) _ _ _ _⟩
  exact OI.keep HO4.out (heap_set4 w4 (w.heap.size + 1) g _ _ _ _ (by omega))
end Go.Proofs.Ytamfpmpooaejkaa
