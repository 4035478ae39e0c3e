/- Drop. -/
import Derived.Test.YtfhmmiilenonkaaQf
namespace Go.Proofs.Ytfhmmiilenonkaa
open Go.RowKit Go.Shelf
set_option maxRecDepth 1000000
set_option linter.unusedVariables false

variable {N : Nat} {F : Nat → Prop} {w w' : World} {p n : Nat} {s : Pq.St Jb}

/-- A worker's deque, and what becomes of the pool when it is turned. -/
theorem LP.dq (h : LP N F w p n s) {v : Nat} (hv : v < n) : ∃ q T, w.cell? ⟨p, 1 + v * 2, none⟩ = some (.pointer (some ⟨q, 0, none⟩)) ∧ DQ T w q (s.row v) ∧ (∀ k, T k → N ≤ k ∧ ¬ F k) ∧ (∀ k, T k → k ≠ p) ∧
    ∀ wx w' T' L', Below w.heap.size w wx → Kp T wx w' → DQ T' w' q L' → (∀ k, T' k → T k ∨ wx.heap.size ≤ k) → LP N F w' p n ⟨s.rows.set v L', s.hold⟩ := by
  obtain ⟨⟨D, cs, h1, h2, h5⟩, h3, h4⟩ := h
  obtain ⟨q, hq, hc, hd⟩ := h1.cells hv
  refine ⟨q, D v, hc, hd, fun k hk => ⟨h5 v k hv hk, h1.nd v k hv hk⟩, fun k hk e => h1.np v hv (e ▸ hk), fun wx w' T' L' hb hk hd' hT => ⟨⟨_, cs, (h1.later hb).deq hv hq hk hd' hT (fun k hk => Nat.lt_of_lt_of_le (h4 k hk) hb.size), h2, fun u k hu hk2 => ?_⟩, ?_, fun k hk2 => ?_⟩⟩
  · by_cases e : u = v
    · simp only [if_pos e] at hk2
      rcases hT k hk2 with h9 | h9
      · exact h5 v k hv h9
      · exact Nat.le_trans h3 (Nat.le_trans hb.size h9)
    · simp only [if_neg e] at hk2
      exact h5 u k hu hk2
  · exact Nat.le_trans h3 (Nat.le_trans hb.size hk.size)
  · exact Nat.lt_of_lt_of_le (h4 k hk2) (Nat.le_trans hb.size hk.size)

/-- The first workers' jobs of a key let go. -/
def dropU (key : Ky) (s : Pq.St Jb) : Nat → Pq.St Jb
  | 0 => s
  | k + 1 => ⟨(dropU key s k).rows.set k (dropP key (s.row k)), s.hold⟩
def dropN (key : Ky) (s : Pq.St Jb) (k : Nat) : Int := ((List.range k).map fun v => ((s.row v).length : Int) - ((dropP key (s.row v)).length : Int)).sum
theorem dropN_succ (key : Ky) (s : Pq.St Jb) (k : Nat) : dropN key s (k + 1) = dropN key s k + (((s.row k).length : Int) - ((dropP key (s.row k)).length : Int)) := by
  unfold dropN
  rw [List.range_succ, List.map_append, List.sum_append]
  simp
theorem dropU_hold (key : Ky) (s : Pq.St Jb) : ∀ k, (dropU key s k).hold = s.hold
  | 0 => rfl
  | _ + 1 => rfl
theorem dropU_len (key : Ky) (s : Pq.St Jb) : ∀ k, (dropU key s k).rows.length = s.rows.length
  | 0 => rfl
  | k + 1 => by show (List.set _ _ _).length = _; rw [List.length_set, dropU_len key s k]
theorem dropU_row (key : Ky) (h : s.Ok n) : ∀ k, k ≤ n → ∀ v, (dropU key s k).row v = if v < k then dropP key (s.row v) else s.row v
  | 0, _, v => by simp [dropU]
  | k + 1, hk, v => by
    show (List.set _ _ _).getD v [] = _
    rw [Pq.getD_set _ _ _ _ _ (by rw [dropU_len, h.r]; omega)]
    by_cases e : v = k
    · subst e; rw [if_pos rfl, if_pos (by omega)]
    · rw [if_neg e]
      have := dropU_row key h k (by omega) v
      unfold Pq.St.row at this ⊢
      rw [this]
      by_cases h1 : v < k
      · rw [if_pos h1, if_pos (by omega)]
      · rw [if_neg h1, if_neg (by omega)]
/-- All jobs of a key let go. -/
def dropS (key : Ky) (s : Pq.St Jb) : Pq.St Jb := ⟨s.rows.map (dropP key), s.hold⟩
theorem dropU_all (key : Ky) (h : s.Ok n) : dropU key s n = dropS key s := by
  have h1 : (dropU key s n).rows = s.rows.map (dropP key) := by
    refine List.ext_getElem? fun i => ?_
    have h2 := dropU_row key h n (Nat.le_refl _) i
    have h3 := dropU_len key s n
    unfold Pq.St.row at h2
    rw [List.getElem?_map]
    by_cases hi : i < n
    · rw [if_pos hi] at h2
      rw [List.getD_eq_getElem?_getD, List.getD_eq_getElem?_getD, List.getElem?_eq_getElem (by rw [h3, h.r]; exact hi), List.getElem?_eq_getElem (by rw [h.r]; exact hi)] at h2
      rw [List.getElem?_eq_getElem (by rw [h3, h.r]; exact hi), List.getElem?_eq_getElem (by rw [h.r]; exact hi)]
      simpa using h2
    · rw [List.getElem?_eq_none (by rw [h3, h.r]; omega), List.getElem?_eq_none (by rw [h.r]; omega)]
      rfl
  have h2 := dropU_hold key s n
  cases h9 : dropU key s n with
  | mk a b =>
    rw [h9] at h1 h2
    simp only at h1 h2
    rw [h1, h2]
    rfl
theorem dropP_le (key : Ky) (L : List Jb) : (dropP key L).length ≤ L.length := List.length_filter_le _ _
theorem PInv.dropN (h : PInv s) (key : Ky) : ∀ k : Nat, 0 ≤ Go.Proofs.Ytfhmmiilenonkaa.dropN key s k ∧ Go.Proofs.Ytfhmmiilenonkaa.dropN key s k ≤ k * 128
  | 0 => by simp [Go.Proofs.Ytfhmmiilenonkaa.dropN]
  | k + 1 => by
    rw [dropN_succ]
    have h1 := PInv.dropN h key k
    have h2 := (h.row k).1
    have h3 := dropP_le key (s.row k)
    omega

/-- What Drop knows once k workers are gone through. -/
structure DropS (N : Nat) (F : Nat → Prop) (key : Ky) (w : World) (p n : Nat) (s : Pq.St Jb) (b0 k : Nat) (V : World) (TB : Nat → Prop) : Prop where
  lp : LP N (fun b => (F b ∨ (b = b0 ∨ b = b0 + 1)) ∨ TB b) V p n (dropU key s k)
  kp : Kp (Mv N F) w V
  own : ∀ b, TB b → w.heap.size ≤ b ∧ b < V.heap.size
  n0 : ¬ TB b0
  n1 : ¬ TB (b0 + 1)
  kb : V.heap[b0]? = some (.cells (kcs key) 34 (0, 0))
  box : Boxed V (b0 + 1) 3 (.int .i64 (dropN key s k))
theorem DropS.mv {key : Ky} {b0 k : Nat} {V V' : World} {TB TB' : Nat → Prop} (h : DropS N F key w p n s b0 k V TB) (hm : Rl.Mv TB V TB' V') : DropS N F key w p n s b0 k V' TB' := by
  obtain ⟨h1, h2, h3, h4, h5, h6, h7⟩ := h
  have hk : Kp TB V V' := ⟨hm.os, hm.tape, hm.output, hm.size, hm.same⟩
  have hz := h2.size
  refine ⟨h1.mv hm (fun b hb => (h3 b hb).2), h2.trans hk (fun b hb hlt => by have := (h3 b hb).1; omega), fun b hb => ⟨?_, hm.up (fun b hb => (h3 b hb).2) b hb⟩, hm.no (row_lt h6) h4, hm.no h7.lt h5, hk.row h6 h4, Rl.boxed_mv h7 hm h5⟩
  by_cases hlt : b < V.heap.size
  · exact (h3 b ((hm.old b hlt).1 hb)).1
  · omega
/-- The next worker's jobs are gone through. -/
theorem DropS.next {key : Ky} {b0 k : Nat} {V V4 : World} {TB : Nat → Prop} (h : DropS N F key w p n s b0 k V TB) (hN : N ≤ w.heap.size) (hF : ∀ b, F b → b < w.heap.size) (hb0 : w.heap.size ≤ b0) (hl : LP N (fun b => (F b ∨ (b = b0 ∨ b = b0 + 1)) ∨ TB b) V4 p n (dropU key s (k + 1))) (hk : Kp (Mv N (fun b => (F b ∨ (b = b0 ∨ b = b0 + 1)) ∨ TB b)) V V4) :
    DropS N F key w p n s b0 (k + 1) (V4.setCell ⟨b0 + 1, 0, none⟩ (.int .i64 (dropN key s (k + 1)))) TB ∧ Rl.Rv 0 TB V (V4.setCell ⟨b0 + 1, 0, none⟩ (.int .i64 (dropN key s (k + 1)))) := by
  obtain ⟨h1, h2, h3, h4, h5, h6, h7⟩ := h
  have hks : Kp (fun b => b = b0 + 1) V4 (V4.setCell ⟨b0 + 1, 0, none⟩ (.int .i64 (dropN key s (k + 1)))) := (Kp.refl _ V4).set _ _ rfl
  have hz := hks.size
  have h74 : Boxed V4 (b0 + 1) 3 (.int .i64 (dropN key s k)) := hk.row h7 (fun hh => hh.2 (.inl (.inr (.inr rfl))))
  have h64 := hk.row h6 (fun hh => hh.2 (.inl (.inr (.inl rfl))))
  refine ⟨⟨hl.kept hks (fun b hb _ => .inl (.inr (.inr hb))) (fun b hb => .inl hb) (fun b hb => Nat.lt_of_lt_of_le (hl.fl b hb) hz), (h2.trans (hk.mono (T' := Mv N F) (fun b hb => ⟨hb.1, fun hf => hb.2 (.inl (.inl hf))⟩)) (fun _ h _ => h)).trans hks (fun b hb hlt => by omega), fun b hb => ⟨(h3 b hb).1, Nat.lt_of_lt_of_le (h3 b hb).2 (Nat.le_trans hk.size hz)⟩, h4, h5, hks.row h64 (by omega), row_set h74 0 _⟩, ?_⟩
  refine ⟨hks.os.trans hk.os, hks.tape.trans hk.tape, hks.output.trans hk.output, Nat.le_trans hk.size hz, (fun b hb => by omega), fun b hb hlt => ?_⟩
  exact (hks.block b (Nat.lt_of_lt_of_le hlt hk.size) (fun e => h5 (e ▸ hb))).trans (hk.block b hlt (fun hh => hh.2 (.inr hb)))

attribute [local go_sem] Oper.semAt_some

set_option maxHeartbeats 8000000 in
theorem drop_w (key : Ky) (h : LP N F w p n s) (hi : PInv s) :
    Calls Try.prog 22 #[.pointer (some ⟨p, 0, none⟩), KV key] w fun e w' => e = .returned (.int .i64 (dropN key s n)) ∧ LP N F w' p n (dropS key s) ∧ Kp (Mv N F) w w' := by
  obtain ⟨ki, ku, kt⟩ := key
  unfold KV
  dsimp only
  obtain ⟨w1, hw1⟩ : ∃ w1, (w.alloc (.cells #[.int .i64 ki, .bool ku, .int .i64 kt] 34)).alloc (.cells #[.int .i64 0] 3) = w1 := ⟨_, rfl⟩
  have hb1 : Below w.heap.size w w1 := by rw [← hw1]; exact bl2 _ _ _
  have hs1 : w1.heap.size = w.heap.size + 2 := by rw [← hw1]; simp
  have q0 : w1.heap[w.heap.size]? = some (.cells (kcs ⟨ki, ku, kt⟩) 34 (0, 0)) := by rw [← hw1]; exact row_later (row_new w #[.int .i64 ki, .bool ku, .int .i64 kt] 34) (bl1 _ _)
  have q1 : Boxed w1 (w.heap.size + 1) 3 (.int .i64 0) := by
    have := Boxed.new (w.alloc (.cells #[.int .i64 ki, .bool ku, .int .i64 kt] 34)) 3 (.int .i64 0)
    rw [World.size_alloc, hw1] at this
    exact this
  obtain ⟨w2, hw2⟩ : ∃ w2, (w1.alloc (.cells #[.pointer (some ⟨p, 0, none⟩)] 25)).alloc (.cells #[.int .i64 0] 3) = w2 := ⟨_, rfl⟩
  have hb2 : Below w1.heap.size w1 w2 := by rw [← hw2]; exact bl2 _ _ _
  have hs2 : w2.heap.size = w.heap.size + 4 := by rw [← hw2]; simp; omega
  have q2 : Boxed w2 (w.heap.size + 2) 25 (.pointer (some ⟨p, 0, none⟩)) := by rw [← hw2, ← hs1]; exact (Boxed.new w1 25 _).alloc _
  have q3 : Boxed w2 (w.heap.size + 2 + 1) 3 (.int .i64 0) := by
    have := Boxed.new (w1.alloc (.cells #[.pointer (some ⟨p, 0, none⟩)] 25)) 3 (.int .i64 0)
    rw [World.size_alloc, hs1, hw2] at this
    exact this
  have hb02 : Below w.heap.size w w2 := hb1.trans (hb2.mono hb1.size)
  have HC : Hid _ := circle_any (.pointer (some ⟨p, 0, none⟩)) (.inr ⟨_, rfl⟩) 0 w1
  rw [hw2, hs1] at HC
  have HITR : Hid _ := circle_itr p n (w.heap.size + 2) (w.heap.size + 2 + 1) 0 h.n0 h.n64 (by omega) (fun b => b = w.heap.size + 2 ∨ b = w.heap.size + 2 + 1) w2 q2 q3 (.inl rfl) (.inr rfl) (fun b hb => by omega)
  have HI : Hid _ := hi
  have HOK : Hid _ := h.ok
  have HN : Hid _ := h.le
  have HFl : Hid (∀ k, F k → k < w.heap.size) := h.fl
  have H0 : Hid (DropS N F ⟨ki, ku, kt⟩ w p n s w.heap.size 0 w2 (fun b => b = w.heap.size + 2 ∨ b = w.heap.size + 2 + 1)) :=
    ⟨h.kept (X := fun _ => False) (Kp.of_below _ hb02) (fun _ h _ => h.elim) (fun k hk => hk.elim (fun hk => hk.imp id (fun h => by omega)) (fun h => .inr (by omega))) (fun k hk => hk.elim (fun hk => hk.elim (fun hk => by have := h.fl k hk; omega) (fun h => by omega)) (fun h => by omega)), Kp.of_below _ hb02, fun b hb => by omega, by omega, by omega, row_later q0 hb2, row_later q1 hb2⟩
  have HW1 : Hid ((w.alloc (.cells #[.int .i64 ki, .bool ku, .int .i64 kt] 34)).alloc (.cells #[.int .i64 0] 3) = w1) := hw1
  have HS2 : Hid _ := hs2
  have h64 := h.n64
  clear h hi hb1 hb2 hb02 q0 q1 q2 q3 hs1 hs2 hw1 hw2
  obtain ⟨R, HR⟩ : ∃ R : Ending → World → Prop, Hid (R = fun e w' => e = .returned (.int .i64 (dropN ⟨ki, ku, kt⟩ s n)) ∧ LP N F w' p n (dropS ⟨ki, ku, kt⟩ s) ∧ Kp (Mv N F) w w') := ⟨_, rfl⟩
  rw [← HR.out]
  suffices key : CallsIn Fence.wide 0 Try.prog 22 #[.pointer (some ⟨p, 0, none⟩), .agg #[.int .i64 ki, .bool ku, .int .i64 kt]] w R from callsIn_wide.1 key
  refine callsIn_of_wp_marks Try.func22 rfl trivial ?_ rfl
  simp only [Try.ntmps22, List.size_toArray, List.length_cons, List.length_nil, Nat.reduceAdd, Nat.reduceSub, Array.replicate_succ, Array.replicate_zero, List.push_toArray, List.append_toArray, List.nil_append, List.cons_append]
  gi_wp2
  rw [HW1.out]
  refine ⟨trivial, rfl, (callsIn_wide.2 HC.out).mono ?_⟩
  rintro e w3 ⟨rfl, hw3⟩
  subst hw3
  clear HC HW1
  gi_wp2
  refine Rl.range_law (P := Try.prog) (gf := 44) (lb := #[.pointer (some ⟨w.heap.size + 2, 0, none⟩), .pointer (some ⟨w.heap.size + 2 + 1, 0, none⟩)]) rfl (enters_of Try.func44 (by kernel_rfl) rfl) (enc := encW p) (xs := Pq.circ n (frm 0 n)) (n0 := 0) (m0 := 0) (G := CirG p n) (T := fun b => b = w.heap.size + 2 ∨ b = w.heap.size + 2 + 1)
    HITR.out (fun b hb => by have := HS2.out; omega) (Nat.zero_le _) (Nat.le_refl _) (fun x F W T args h => by rw [show args = _ from h]; rfl)
    (fun k V TB => Hid (DropS N F ⟨ki, ku, kt⟩ w p n s w.heap.size k V TB)) (fun c k V TB => False)
    (fun k V TV V' TV' h hm => h.out.mv hm) (fun c k V TV V' TV' h hm => h)
    (fun k V TV h => h.out.lp.num) H0 ?rnd ?done ?stop
  case rnd =>
    rintro m l' k x args F9 V T1 TB hxk henc ⟨Wf, Tf, HIf, hF9, hmF⟩ HI2 hTB hup hnc hlt
    cases henc
    obtain ⟨rfl, hkn⟩ := circ_at hxk
    clear HIf hF9 hmF hxk hTB hnc hlt HITR H0 HS2 hup
    gi_wp2
    refine ⟨HI2, Rl.Rv.refl _ _ _, fun W2 HI3 hbz => ?_⟩
    clear hbz HI2
    obtain ⟨q, T, cq, hdq, hT, hTp, hres⟩ := HI3.out.lp.dq hkn
    have hrow : (dropU ⟨ki, ku, kt⟩ s x).row x = s.row x := by rw [dropU_row _ HOK.out x (by omega), if_neg (by omega)]
    rw [hrow] at hdq
    have HCt : Hid (∀ wx, Below W2.heap.size W2 wx → Calls Try.prog 43 #[.pointer (some ⟨q, 0, none⟩), .agg #[.int .i64 ki, .bool ku, .int .i64 kt]] wx fun e w' => e = .returned (.int .i64 (((s.row x).length : Int) - ((dropP ⟨ki, ku, kt⟩ (s.row x)).length : Int))) ∧ LP N (fun b => (F b ∨ (b = w.heap.size ∨ b = w.heap.size + 1)) ∨ TB b) w' p n (dropU ⟨ki, ku, kt⟩ s (x + 1)) ∧ Kp (Mv N (fun b => (F b ∨ (b = w.heap.size ∨ b = w.heap.size + 1)) ∨ TB b)) W2 w') := fun wx hb => by
      refine Calls.mono (drop_any T wx q ⟨ki, ku, kt⟩ (s.row x) (hdq.later hb) (HI.out.le x)) ?_
      rintro e w' ⟨rfl, hd', hk'⟩
      refine ⟨rfl, ?_, (Kp.of_below _ hb).trans (hk'.mono hT) (fun _ h _ => h)⟩
      have := hres wx w' T _ hb hk' hd' (fun k hk => .inl hk)
      rw [dropU_hold] at this
      exact this
    have hd1 := HI.out.dropN ⟨ki, ku, kt⟩ x
    have hd2 : (s.row x).length ≤ 128 := (HI.out.row x).1
    have hd3 := dropP_le ⟨ki, ku, kt⟩ (s.row x)
    have HDN : Hid _ := dropN_succ ⟨ki, ku, kt⟩ s x
    have y0 := HI3.out.box.cell
    have k0 : W2.cell? ⟨w.heap.size, 0, none⟩ = some (.int .i64 ki) := (cell_row HI3.out.kb 0).trans rfl
    have k1 : W2.cell? ⟨w.heap.size, 1, none⟩ = some (.bool ku) := (cell_row HI3.out.kb 1).trans rfl
    have k2 : W2.cell? ⟨w.heap.size, 2, none⟩ = some (.int .i64 kt) := (cell_row HI3.out.kb 2).trans rfl
    obtain ⟨ad, had⟩ : ∃ u, dropN ⟨ki, ku, kt⟩ s x = u := ⟨_, rfl⟩
    obtain ⟨aw, haw⟩ : ∃ u, ((s.row x).length : Int) - ((dropP ⟨ki, ku, kt⟩ (s.row x)).length : Int) = u := ⟨_, rfl⟩
    have HB1 : Hid (Boxed W2 (w.heap.size + 1) 3 (.int .i64 ad)) := by rw [← had]; exact HI3.out.box
    rw [had] at y0 hd1 HDN
    rw [haw] at HCt HDN
    have hx64 : (x : Int) < 64 := by omega
    have hwr : Value.int .i64 (IntKind.i64.wrap (ad + aw)) = .int .i64 (ad + aw) := by rw [Go.IntWalk.i64_in _ (by omega)]
    have HWR : Hid _ := hwr
    have hmx : Try.prog.follows .mixedOrders = true := by kernel_rfl
    clear had haw hdq hT hTp hres hrow hd3 hwr
    gi_wp2
    gi_region_with_o (refine ⟨trivial, (fun hd => by cases hd), (CallsIn.inRound l' (callsIn_wide.2 (HCt.out _ (Below.refl _ W2).drew))).mono ?_⟩; rintro e w4 ⟨rfl, hl4, hk4⟩; have HL4 : Hid _ := hl4; have HK4 : Hid _ := hk4; have r4 := HK4.out.row HB1.out (fun hh => hh.2 (.inl (.inr (.inr rfl)))); have y4 : w4.cell? ⟨w.heap.size + 1, 0, none⟩ = some (.int .i64 ad) := (cell_row r4 0).trans rfl; have f4 := froz_row r4 0; clear r4 hl4 hk4)
    all_goals
      gi_wp2
      rw [HWR.out, ← HDN.out]
      obtain ⟨n1, n2⟩ := HI3.out.next HN.out HFl.out (Nat.le_refl _) HL4.out HK4.out
      exact ⟨n1, n2⟩
  case done =>
    rintro V T2 h hold hup hdef hts
    have HV : Hid (DropS N F ⟨ki, ku, kt⟩ w p n s w.heap.size n V T2 ∧ V.heap[w3.heap.size]? = some (.deferred (some [])) ∧ T2 w3.heap.size) := ⟨by have := h.out; rw [circ_len] at this; exact this, hdef, hts⟩
    have c9 := HV.out.1.box.cell
    obtain ⟨dn, hdn⟩ : ∃ u, dropN ⟨ki, ku, kt⟩ s n = u := ⟨_, rfl⟩
    rw [hdn] at c9 HR
    clear h hold hup hdef hts hdn
    gi_wp2
    show LeavesInM Fence.wide 0 Try.prog Try.f22 _ R ([w3.heap.size].map Rl.mark) .returning V
    refine Rl.leaves_marks (T := T2) (by simp) (fun A => DropS N F ⟨ki, ku, kt⟩ w p n s w.heap.size n A T2) ?_ ?_ _ V ⟨by simp, fun D hD => by simp at hD; subst hD; exact ⟨HV.out.2.2, HV.out.2.1⟩⟩ HV.out.1
    · rintro A D hD k1
      exact k1.mv (Rl.Mv.putObj A _ hD)
    · rintro A k1
      refine ⟨_, results_tmp (t := 4) rfl _ _ _, ?_⟩
      rw [HR.out]
      refine ⟨rfl, ?_, k1.kp⟩
      rw [← dropU_all _ HOK.out]
      exact k1.lp.less (fun b hb => .inl (.inl hb))
  case stop =>
    rintro c k V T2 hk h hold hup hdef hts
    exact h.elim
end Go.Proofs.Ytfhmmiilenonkaa
