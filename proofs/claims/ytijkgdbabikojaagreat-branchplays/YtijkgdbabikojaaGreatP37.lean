/- Texts of the seat, packed: Ih. -/
import Derived.Test.YtijkgdbabikojaaGreatP36
import Derived.Test.YtijkgdbabikojaaGreatP10
/- The walk over the laws' step of layer 11. -/
namespace Go.Proofs.YtijkgdbabikojaaGreat
open Go.RowKit
open Dk (DS DK Okay Small RV RR WR Wid Kp cutP appendP syncP hasB hasB_true)
set_option maxRecDepth 1000000
set_option linter.unusedVariables false

/-- The two disks between two calls. -/
structure LP (w0 : World) (p r g : Nat) (S : DS) (w : World) : Prop where
  dk : ∃ T, DK T w p S ∧ ∀ k, T k → w0.heap.size ≤ k ∧ k ≠ r ∧ k ≠ g
  rv : RV w r g S
  hr : w0.heap.size ≤ r
  hg : w0.heap.size ≤ g
  bel : Below w0.heap.size w0 w
  q : QD S

theorem LP.later {w0 : World} {p r g : Nat} {S : DS} {w w' : World} (h : LP w0 p r g S w) (hb : Below w.heap.size w w') : LP w0 p r g S w' := by
  obtain ⟨T, h1, h2⟩ := h.dk
  exact ⟨⟨T, h1.later hb, h2⟩, h.rv.later hb, h.hr, h.hg, h.bel.trans (hb.mono h.bel.size), h.q⟩

theorem LP.tw {w0 : World} {p r g : Nat} {S : DS} {w : World} (h : LP w0 p r g S w) (cs : Array Value) : TW w0 w.heap.size p r g cs S S (w.alloc (.cells cs 36)) := by
  obtain ⟨T, h1, h2⟩ := h.dk
  have hb : Below w.heap.size w (w.alloc (.cells cs 36)) := (Below.refl _ _).alloc (Nat.le_refl _) _
  have hl := h.rv.rlt
  have hv := h1.live
  exact ⟨⟨T, h1.later hb, fun k hk => ⟨(h2 k hk).1, (h2 k hk).2.1, (h2 k hk).2.2, by have := hv k hk; omega⟩⟩, h.rv.later hb, World.alloc_heap_new w _, h.hr, h.hg, by omega, by omega, h.bel.size, h.bel.trans (hb.mono h.bel.size)⟩

theorem TW.lp {w0 : World} {bx p r g : Nat} {cs : Array Value} {S : DS} {w : World} (h : TW w0 bx p r g cs S S w) (hq : QD S) : LP w0 p r g S w := by
  obtain ⟨T, h1, h2⟩ := h.dk
  exact ⟨⟨T, h1, fun k hk => ⟨(h2 k hk).1, (h2 k hk).2.1, (h2 k hk).2.2.1⟩⟩, h.rv, h.hr, h.hg, h.bel, hq⟩

theorem openK_qd (n : Nat) : ∀ (f i : Nat) (S : DS) (acc : List (List Ev)), QD S → QD (openK n f i S acc).2.2
  | 0, _, S, acc, h => h
  | f + 1, i, S, acc, h => by
    rw [openK]
    split
    · exact h.trim _ _
    · exact openK_qd n f (i + 1) _ _ (h.trim _ _)
theorem open_qd {S : DS} (h : QD S) : QD (openP 3 S).2.2 := openK_qd 3 2 0 S [] h

theorem ld_few (n : Nat) (S : DS) (i : Nat) (hs : Small 20000 20000 S) : (ldP n S i).1.length ≤ 1000000 ∧ ∀ x ∈ (ldP n S i).1, x.s.length ≤ 1000000 := by
  unfold ldP loadL
  obtain ⟨g1, q2, _⟩ := log_good (n - 1) (i : Int) 0 (Fr.allP (Dk.readP S i) ((Dk.readP S i).length + 1) 0).1
  refine ⟨?_, fun x hx => by have := okS_len (okE_stamp (Good.all g1 x hx)); omega⟩
  have h1 := all_count (Dk.readP S i) ((Dk.readP S i).length + 1) 0
  have h2 := congrArg List.length q2
  rw [List.length_map, List.length_take] at h2
  have h3 : (Dk.readP S i).length ≤ 20000 := by
    unfold Dk.readP
    split
    · exact hs.len _
    · simp
  omega

theorem openK_few (n : Nat) : ∀ (f i : Nat) (S : DS) (acc : List (List Ev)), QD S → (∀ L ∈ acc, L.length ≤ 1000000 ∧ ∀ x ∈ L, x.s.length ≤ 1000000) → acc.length + f ≤ 100 → FewR (openK n f i S acc).1
  | 0, _, S, acc, h, ha, hl => ⟨by show acc.length ≤ _; omega, ha⟩
  | f + 1, i, S, acc, h, ha, hl => by
    rw [openK]
    split
    · exact ⟨by simp, fun L hL => by cases hL⟩
    · refine openK_few n f (i + 1) _ _ (h.trim _ _) (fun L hL => ?_) (by rw [List.length_append]; simp; omega)
      rcases List.mem_append.1 hL with hL | hL
      · exact ha L hL
      · simp only [List.mem_cons, List.not_mem_nil, or_false] at hL
        subst hL
        exact ld_few n S i h.small
theorem open_few {S : DS} (h : QD S) : FewR (openP 3 S).1 := openK_few 3 2 0 S [] h (fun L hL => by cases hL) (by decide)

theorem QD.app {S : DS} (h : QD S) (i : Int) (e : Ev) : QD (appP S i e).2 := by
  obtain ⟨q1, q2, q3⟩ := app_tot h.1 i e
  exact ⟨q1, q3 h.2.1, by rw [q2]; exact h.2.2⟩
theorem QD.beg {S : DS} (h : QD S) (s : List UInt8) : QD (beginP S s).2 := by
  obtain ⟨q1, q2, q3⟩ := begin_tot h.1 s
  exact ⟨q1, q3 h.2.1, by rw [q2]; exact h.2.2⟩
theorem QD.crash {S : DS} (h : QD S) (k : List Int) : QD (Dk.crashP S k) := by
  obtain ⟨q1, q2⟩ := crash_tot h.1 k
  exact ⟨q1, h.2.1.crash k, by rw [q2]; exact h.2.2⟩
theorem QD.sync {S : DS} (h : QD S) (i : Int) : QD (syncP S i).2 := ⟨by unfold Dk.syncP; rw [Dk.write_n]; exact h.1, Dk.okay_sync h.2.1 i, by rw [tot_syn h.1]; exact h.2.2⟩
theorem QD.arm {S : DS} (h : QD S) (n : Int) (hn : n ≤ 9223372036854775807) : QD (Dk.armP S n).2 := ⟨by rw [Dk.armP_n]; exact h.1, Dk.okay_arm h.2.1 n hn, by rw [Dk.armP_tot]; exact h.2.2⟩
theorem QD.put {S : DS} (h : QD S) (i : Int) (b : List UInt8) : QD (appendP S i b).2 := ⟨by unfold Dk.appendP; rw [Dk.write_n]; exact h.1, Dk.okay_append h.2.1 i b, by rw [tot_app h.1]; exact h.2.2⟩
theorem QD.keep {S : DS} (h : QD S) (i n : Int) : QD (keepP S i n).2 := by
  unfold keepP
  split
  · exact h.trim _ _
  · exact h

/-- What a call makes of a disk. -/
def stepP (S : DS) (x : Ac) : DS :=
  if x.kind = 1 then (openP 3 S).2.2 else if x.kind = 2 then Dk.crashP S x.keep else if x.kind = 3 then (syncP S x.i).2 else if x.kind = 4 then (Dk.armP S x.n).2 else if x.kind = 5 then (appendP S x.i x.b).2 else if x.kind = 7 then (keepP S x.i x.n).2 else if x.kind = 6 then (beginP S x.b).2 else (appP S x.i x.e).2

theorem step_qd {S : DS} (h : QD S) (x : Ac) (hn : x.n ≤ 9223372036854775807) : QD (stepP S x) := by
  unfold stepP
  split
  · exact open_qd h
  split
  · exact h.crash _
  split
  · exact h.sync _
  split
  · exact h.arm _ hn
  split
  · exact h.put _ _
  split
  · exact h.keep _ _
  split
  · exact h.beg _
  · exact h.app _ _

/-- What came in lies below. -/
theorem low_ri {w : World} {a : Option Addr} {n c : Nat} {l : List Int} (h : RI w (.slice a n c) l) (hl : 0 < l.length) : ∀ b, a = some b → b.block < w.heap.size := fun b hb => by
  obtain ⟨a', c', e, _, _, hc⟩ := h
  simp only [Value.slice.injEq] at e
  obtain ⟨rfl, _, _⟩ := e
  obtain ⟨bb, off, e2, hcell⟩ := hc 0 hl
  rw [hb] at e2
  cases e2
  exact World.block_lt_of_cell? w _ hcell
theorem low_rb {w : World} {a : Option Addr} {n c : Nat} {l : List UInt8} (h : RB w (.slice a n c) l) (hl : 0 < l.length) : ∀ b, a = some b → b.block < w.heap.size := fun b hb => by
  obtain ⟨a', c', e, _, _, _, hc⟩ := h
  simp only [Value.slice.injEq] at e
  obtain ⟨rfl, _, _⟩ := e
  obtain ⟨bb, off, e2, hcell⟩ := hc 0 hl
  rw [hb] at e2
  cases e2
  exact World.block_lt_of_cell? w _ hcell

set_option maxHeartbeats 4000000 in
theorem step_sync (w0 w : World) (p r g : Nat) (S : DS) (xi xn ek ei et : Int) (sa ba ka : Option Addr) (sn sc bn bc kn kc : Nat) (xs xk : List Int) (xb : List UInt8)
    (h : LP w0 p r g S w) (hs : RI w0 (.slice sa sn sc) xs) (hb : RB w0 (.slice ba bn bc) xb) (hk : RI w0 (.slice ka kn kc) xk) (hsn : xs.length = sn) (hbn : xb.length = bn) (hkn : xk.length = kn) (hs2 : sn ≤ 200) (hb2 : bn ≤ 3000) (hk2 : kn ≤ 100) (hxn : xn ≤ 9223372036854775807) :
    Calls Tryz.prog 7 #[.pointer (some ⟨p, 0, none⟩), .pointer (some ⟨r, 0, none⟩), .agg #[.int .i64 3, .int .i64 xi, .int .i64 xn, .int .i64 ek, .int .i64 ei, .int .i64 et, .slice sa sn sc, .slice ba bn bc, .slice ka kn kc]] w fun e w' => e = .returned (.bool true) ∧ LP w0 p r g ((syncP S xi).2) w' := by
  have hq := h.q
  have hsm := hq.small
  have HTW0 : Hid _ := h.tw #[.int .i64 3, .int .i64 xi, .int .i64 xn, .int .i64 ek, .int .i64 ei, .int .i64 et, .slice sa sn sc, .slice ba bn bc, .slice ka kn kc]
  obtain ⟨bx, HBX⟩ : ∃ z, Hid (w.heap.size = z) := ⟨_, rfl⟩
  obtain ⟨w1, HW1⟩ : ∃ z, Hid (w.alloc (.cells #[.int .i64 3, .int .i64 xi, .int .i64 xn, .int .i64 ek, .int .i64 ei, .int .i64 et, .slice sa sn sc, .slice ba bn bc, .slice ka kn kc] 36) = z) := ⟨_, rfl⟩
  rw [HBX.out, HW1.out] at HTW0
  have hbox : w1.heap[bx]? = some (.cells #[.int .i64 3, .int .i64 xi, .int .i64 xn, .int .i64 ek, .int .i64 ei, .int .i64 et, .slice sa sn sc, .slice ba bn bc, .slice ka kn kc] 36 (0, 0)) := HTW0.out.box
  have z0 : w1.cell? ⟨bx, 0, none⟩ = some (.int .i64 3) := cell_row hbox 0
  have hq2 : QD (syncP S xi).2 := hq.sync xi
  have H1 : Hid (∀ wx, TW w0 bx p r g #[.int .i64 3, .int .i64 xi, .int .i64 xn, .int .i64 ek, .int .i64 ei, .int .i64 et, .slice sa sn sc, .slice ba bn bc, .slice ka kn kc] S S wx → Calls Tryz.prog 20 #[.pointer (some ⟨p, 0, none⟩), .int .i64 xi] wx fun e w' => e = .returned (.int .i64 (syncP S xi).1) ∧ TW w0 bx p r g #[.int .i64 3, .int .i64 xi, .int .i64 xn, .int .i64 ek, .int .i64 ei, .int .i64 et, .slice sa sn sc, .slice ba bn bc, .slice ka kn kc] (syncP S xi).2 S w') := fun wx ht => by
    obtain ⟨T, t1, t2⟩ := ht.dk
    refine Calls.mono (Dk.sync_any T wx p S xi t1 hq.2.1 (Dk.small_mono hsm (by omega) (by omega))) ?_
    rintro e w' hw
    exact TW.wr ht t2 hw
  have H2 : Hid (∀ wx, TW w0 bx p r g #[.int .i64 3, .int .i64 xi, .int .i64 xn, .int .i64 ek, .int .i64 ei, .int .i64 et, .slice sa sn sc, .slice ba bn bc, .slice ka kn kc] (syncP S xi).2 S wx → Calls Tryz.prog 21 #[.pointer (some ⟨r, 0, none⟩), .int .i64 xi] wx fun e w' => e = .returned (.int .i64 (syncP S xi).1) ∧ TW w0 bx p r g #[.int .i64 3, .int .i64 xi, .int .i64 xn, .int .i64 ek, .int .i64 ei, .int .i64 et, .slice sa sn sc, .slice ba bn bc, .slice ka kn kc] (syncP S xi).2 (syncP S xi).2 w') := fun wx ht => by
    refine Calls.mono (Dk.rsync_any xi ht.rv hq.2.1 (Dk.small_mono hsm (by omega) (by omega))) ?_
    rintro e w' hw
    exact ⟨hw.1, ht.rr hw.2.1 hw.2.2⟩
  have HRB : Hid (∀ wx, Below w0.heap.size w0 wx → RB wx (.slice ba bn bc) xb) := fun wx hx => hb.later hx
  generalize syncP S xi = RES at *
  have HQ2 : Hid _ := hq2
  have HBEL : Hid (Below w0.heap.size w0 w1) := HTW0.out.bel
  have HT1 : Hid _ := TW.later HTW0.out (Below.refl _ _).drew
  clear hs hb hk h hq hsm hq2 hsn hbn hkn
  go_enter Tryz.func7, Tryz.ntmps7
  go_wp2_with fail
  rw [HW1.out, HBX.out]
  have hCUR := HT1.out
  have hS0 : w1.drew.heap[bx]? = some (.cells #[.int .i64 3, .int .i64 xi, .int .i64 xn, .int .i64 ek, .int .i64 ei, .int .i64 et, .slice sa sn sc, .slice ba bn bc, .slice ka kn kc] 36 (0, 0)) ∧ Below w0.heap.size w0 w1.drew := ⟨HT1.out.box, HT1.out.bel⟩
  refine region_thenF [(46, .pointer (some ⟨p, 0, none⟩)), (47, .pointer (some ⟨bx, 1, none⟩)), (48, .int .i64 xi), (49, .int .i64 RES.1), (50, .pointer (some ⟨r, 0, none⟩)), (51, .pointer (some ⟨bx, 1, none⟩)), (52, .int .i64 xi), (53, .int .i64 RES.1), (54, .bool true), (6, .bool true)] (fun w' => TW w0 bx p r g #[.int .i64 3, .int .i64 xi, .int .i64 xn, .int .i64 ek, .int .i64 ei, .int .i64 et, .slice sa sn sc, .slice ba bn bc, .slice ka kn kc] RES.2 RES.2 w') ?_ ?_
  · refine wp_region_held (S := fun w' => w'.heap[bx]? = some (.cells #[.int .i64 3, .int .i64 xi, .int .i64 xn, .int .i64 ek, .int .i64 ei, .int .i64 et, .slice sa sn sc, .slice ba bn bc, .slice ka kn kc] 36 (0, 0)) ∧ Below w0.heap.size w0 w') (by kernel_rfl) ?_
    simp only [List.size_toArray, List.length_cons, List.length_nil, Nat.reduceAdd, Array.replicate_succ, Array.replicate_zero, List.push_toArray, List.nil_append, List.cons_append]
    refine takeD (i := 0) (d := 46) (v := .pointer (some ⟨p, 0, none⟩)) (fuel := 9) rfl rfl (by kernel_rfl) (by kernel_rfl) (by kernel_rfl) (fun _ _ _ h => by cases h.1) (.inl ⟨by kernel_rfl, fun _ _ => by kernel_rfl⟩) hS0 ?_
    simp only [List.setIfInBounds_toArray, List.set_cons_succ, List.set_cons_zero]
    refine takeD (i := 1) (d := 47) (v := .pointer (some ⟨bx, 1, none⟩)) (fuel := 8) rfl rfl (by kernel_rfl) (by kernel_rfl) (by kernel_rfl) (fun _ _ _ h => by cases h.1) (.inl ⟨by kernel_rfl, fun _ _ => by go_simp⟩) hS0 ?_
    simp only [List.setIfInBounds_toArray, List.set_cons_succ, List.set_cons_zero]
    refine takeD (i := 2) (d := 48) (v := .int .i64 xi) (fuel := 7) rfl rfl (by kernel_rfl) (by kernel_rfl) (by kernel_rfl) (fun _ _ _ h => by cases h.1) (.inl ⟨by kernel_rfl, fun wx h => by have z9 : wx.cell? ⟨bx, 1, none⟩ = some (.int .i64 xi) := cell_row h.1 1; go_simp⟩) hS0 ?_
    simp only [List.setIfInBounds_toArray, List.set_cons_succ, List.set_cons_zero]
    refine takeD (i := 4) (d := 50) (v := .pointer (some ⟨r, 0, none⟩)) (fuel := 6) rfl rfl (by kernel_rfl) (by kernel_rfl) (by kernel_rfl) (fun _ _ _ h => by cases h.1) (.inl ⟨by kernel_rfl, fun _ _ => by kernel_rfl⟩) hS0 ?_
    simp only [List.setIfInBounds_toArray, List.set_cons_succ, List.set_cons_zero]
    refine takeD (i := 5) (d := 51) (v := .pointer (some ⟨bx, 1, none⟩)) (fuel := 5) rfl rfl (by kernel_rfl) (by kernel_rfl) (by kernel_rfl) (fun _ _ _ h => by cases h.1) (.inl ⟨by kernel_rfl, fun _ _ => by go_simp⟩) hS0 ?_
    simp only [List.setIfInBounds_toArray, List.set_cons_succ, List.set_cons_zero]
    refine takeD (i := 6) (d := 52) (v := .int .i64 xi) (fuel := 4) rfl rfl (by kernel_rfl) (by kernel_rfl) (by kernel_rfl) (fun _ _ _ h => by cases h.1) (.inl ⟨by kernel_rfl, fun wx h => by have z9 : wx.cell? ⟨bx, 1, none⟩ = some (.int .i64 xi) := cell_row h.1 1; go_simp⟩) hS0 ?_
    simp only [List.setIfInBounds_toArray, List.set_cons_succ, List.set_cons_zero]
    refine oneW (R := fun w' => TW w0 bx p r g #[.int .i64 3, .int .i64 xi, .int .i64 xn, .int .i64 ek, .int .i64 ei, .int .i64 et, .slice sa sn sc, .slice ba bn bc, .slice ka kn kc] RES.2 S w') (i := 3) (d := 49) (f := 20) (args := #[.pointer (some ⟨p, 0, none⟩), .int .i64 xi]) (v := .int .i64 RES.1) (fuel := 3) rfl rfl (by kernel_rfl) (by kernel_rfl) (fun _ => by kernel_rfl) (H1.out _ hCUR) (fun w' h => ⟨h.box, h.bel⟩) (fun wz hR3 => ?_)
    simp only [List.setIfInBounds_toArray, List.set_cons_succ, List.set_cons_zero]
    refine oneW (R := fun w' => TW w0 bx p r g #[.int .i64 3, .int .i64 xi, .int .i64 xn, .int .i64 ek, .int .i64 ei, .int .i64 et, .slice sa sn sc, .slice ba bn bc, .slice ka kn kc] RES.2 RES.2 w') (i := 7) (d := 53) (f := 21) (args := #[.pointer (some ⟨r, 0, none⟩), .int .i64 xi]) (v := .int .i64 RES.1) (fuel := 2) rfl rfl (by kernel_rfl) (by kernel_rfl) (fun _ => by kernel_rfl) (H2.out _ hR3) (fun w' h => ⟨h.box, h.bel⟩) (fun wz hR7 => ?_)
    simp only [List.setIfInBounds_toArray, List.set_cons_succ, List.set_cons_zero]
    refine takeD (i := 8) (d := 54) (v := .bool true) (fuel := 1) rfl rfl (by kernel_rfl) (by kernel_rfl) (by kernel_rfl) (fun _ _ _ h => by cases h.1) (.inl ⟨by kernel_rfl, fun _ _ => by go_simp⟩) (⟨hR7.box, hR7.bel⟩) ?_
    simp only [List.setIfInBounds_toArray, List.set_cons_succ, List.set_cons_zero]
    refine takeD (i := 9) (d := 6) (v := .bool true) (fuel := 0) rfl rfl (by kernel_rfl) (by kernel_rfl) (by kernel_rfl) (fun _ _ _ h => by cases h.1) (.inl ⟨by kernel_rfl, fun _ _ => by kernel_rfl⟩) (⟨hR7.box, hR7.bel⟩) ?_
    simp only [List.setIfInBounds_toArray, List.set_cons_succ, List.set_cons_zero]
    refine wpAnyH_done (by kernel_rfl) ?_ _
    exact ⟨rfl, by kernel_rfl, hR7⟩
  · intro w9 hF
    simp only [setAll, List.setIfInBounds_toArray, List.set_cons_succ, List.set_cons_zero]
    have HF : Hid _ := TW.lp hF HQ2.out
    clear hF
    go_wp2_with fail
    go_ret
    exact ⟨rfl, HF.out⟩

set_option maxHeartbeats 4000000 in
theorem step_arm (w0 w : World) (p r g : Nat) (S : DS) (xi xn ek ei et : Int) (sa ba ka : Option Addr) (sn sc bn bc kn kc : Nat) (xs xk : List Int) (xb : List UInt8)
    (h : LP w0 p r g S w) (hs : RI w0 (.slice sa sn sc) xs) (hb : RB w0 (.slice ba bn bc) xb) (hk : RI w0 (.slice ka kn kc) xk) (hsn : xs.length = sn) (hbn : xb.length = bn) (hkn : xk.length = kn) (hs2 : sn ≤ 200) (hb2 : bn ≤ 3000) (hk2 : kn ≤ 100) (hxn : xn ≤ 9223372036854775807) :
    Calls Tryz.prog 7 #[.pointer (some ⟨p, 0, none⟩), .pointer (some ⟨r, 0, none⟩), .agg #[.int .i64 4, .int .i64 xi, .int .i64 xn, .int .i64 ek, .int .i64 ei, .int .i64 et, .slice sa sn sc, .slice ba bn bc, .slice ka kn kc]] w fun e w' => e = .returned (.bool true) ∧ LP w0 p r g ((Dk.armP S xn).2) w' := by
  have hq := h.q
  have hsm := hq.small
  have HTW0 : Hid _ := h.tw #[.int .i64 4, .int .i64 xi, .int .i64 xn, .int .i64 ek, .int .i64 ei, .int .i64 et, .slice sa sn sc, .slice ba bn bc, .slice ka kn kc]
  obtain ⟨bx, HBX⟩ : ∃ z, Hid (w.heap.size = z) := ⟨_, rfl⟩
  obtain ⟨w1, HW1⟩ : ∃ z, Hid (w.alloc (.cells #[.int .i64 4, .int .i64 xi, .int .i64 xn, .int .i64 ek, .int .i64 ei, .int .i64 et, .slice sa sn sc, .slice ba bn bc, .slice ka kn kc] 36) = z) := ⟨_, rfl⟩
  rw [HBX.out, HW1.out] at HTW0
  have hbox : w1.heap[bx]? = some (.cells #[.int .i64 4, .int .i64 xi, .int .i64 xn, .int .i64 ek, .int .i64 ei, .int .i64 et, .slice sa sn sc, .slice ba bn bc, .slice ka kn kc] 36 (0, 0)) := HTW0.out.box
  have z0 : w1.cell? ⟨bx, 0, none⟩ = some (.int .i64 4) := cell_row hbox 0
  have hq2 : QD (Dk.armP S xn).2 := hq.arm xn hxn
  have H1 : Hid (∀ wx, TW w0 bx p r g #[.int .i64 4, .int .i64 xi, .int .i64 xn, .int .i64 ek, .int .i64 ei, .int .i64 et, .slice sa sn sc, .slice ba bn bc, .slice ka kn kc] S S wx → Calls Tryz.prog 22 #[.pointer (some ⟨p, 0, none⟩), .int .i64 xn] wx fun e w' => e = .returned (.int .i64 (Dk.armP S xn).1) ∧ TW w0 bx p r g #[.int .i64 4, .int .i64 xi, .int .i64 xn, .int .i64 ek, .int .i64 ei, .int .i64 et, .slice sa sn sc, .slice ba bn bc, .slice ka kn kc] (Dk.armP S xn).2 S w') := fun wx ht => by
    obtain ⟨T, t1, t2⟩ := ht.dk
    refine Calls.mono (Dk.arm_any T wx p S xn t1 hq.2.1) ?_
    rintro e w' hw
    exact TW.wr ht t2 hw
  have H2 : Hid (∀ wx, TW w0 bx p r g #[.int .i64 4, .int .i64 xi, .int .i64 xn, .int .i64 ek, .int .i64 ei, .int .i64 et, .slice sa sn sc, .slice ba bn bc, .slice ka kn kc] (Dk.armP S xn).2 S wx → Calls Tryz.prog 23 #[.pointer (some ⟨r, 0, none⟩), .int .i64 xn] wx fun e w' => e = .returned (.int .i64 (Dk.armP S xn).1) ∧ TW w0 bx p r g #[.int .i64 4, .int .i64 xi, .int .i64 xn, .int .i64 ek, .int .i64 ei, .int .i64 et, .slice sa sn sc, .slice ba bn bc, .slice ka kn kc] (Dk.armP S xn).2 (Dk.armP S xn).2 w') := fun wx ht => by
    refine Calls.mono (Dk.rarm_any r g S xn wx ht.rv) ?_
    rintro e w' hw
    exact ⟨hw.1, ht.rr hw.2.1 hw.2.2⟩
  have HRB : Hid (∀ wx, Below w0.heap.size w0 wx → RB wx (.slice ba bn bc) xb) := fun wx hx => hb.later hx
  generalize Dk.armP S xn = RES at *
  have HQ2 : Hid _ := hq2
  have HBEL : Hid (Below w0.heap.size w0 w1) := HTW0.out.bel
  have HT1 : Hid _ := TW.later HTW0.out (Below.refl _ _).drew
  clear hs hb hk h hq hsm hq2 hsn hbn hkn
  go_enter Tryz.func7, Tryz.ntmps7
  go_wp2_with fail
  rw [HW1.out, HBX.out]
  have hCUR := HT1.out
  have hS0 : w1.drew.heap[bx]? = some (.cells #[.int .i64 4, .int .i64 xi, .int .i64 xn, .int .i64 ek, .int .i64 ei, .int .i64 et, .slice sa sn sc, .slice ba bn bc, .slice ka kn kc] 36 (0, 0)) ∧ Below w0.heap.size w0 w1.drew := ⟨HT1.out.box, HT1.out.bel⟩
  refine region_thenF [(57, .pointer (some ⟨p, 0, none⟩)), (58, .pointer (some ⟨bx, 2, none⟩)), (59, .int .i64 xn), (60, .int .i64 RES.1), (61, .pointer (some ⟨r, 0, none⟩)), (62, .pointer (some ⟨bx, 2, none⟩)), (63, .int .i64 xn), (64, .int .i64 RES.1), (65, .bool true), (6, .bool true)] (fun w' => TW w0 bx p r g #[.int .i64 4, .int .i64 xi, .int .i64 xn, .int .i64 ek, .int .i64 ei, .int .i64 et, .slice sa sn sc, .slice ba bn bc, .slice ka kn kc] RES.2 RES.2 w') ?_ ?_
  · refine wp_region_held (S := fun w' => w'.heap[bx]? = some (.cells #[.int .i64 4, .int .i64 xi, .int .i64 xn, .int .i64 ek, .int .i64 ei, .int .i64 et, .slice sa sn sc, .slice ba bn bc, .slice ka kn kc] 36 (0, 0)) ∧ Below w0.heap.size w0 w') (by kernel_rfl) ?_
    simp only [List.size_toArray, List.length_cons, List.length_nil, Nat.reduceAdd, Array.replicate_succ, Array.replicate_zero, List.push_toArray, List.nil_append, List.cons_append]
    refine takeD (i := 0) (d := 57) (v := .pointer (some ⟨p, 0, none⟩)) (fuel := 9) rfl rfl (by kernel_rfl) (by kernel_rfl) (by kernel_rfl) (fun _ _ _ h => by cases h.1) (.inl ⟨by kernel_rfl, fun _ _ => by kernel_rfl⟩) hS0 ?_
    simp only [List.setIfInBounds_toArray, List.set_cons_succ, List.set_cons_zero]
    refine takeD (i := 1) (d := 58) (v := .pointer (some ⟨bx, 2, none⟩)) (fuel := 8) rfl rfl (by kernel_rfl) (by kernel_rfl) (by kernel_rfl) (fun _ _ _ h => by cases h.1) (.inl ⟨by kernel_rfl, fun _ _ => by go_simp⟩) hS0 ?_
    simp only [List.setIfInBounds_toArray, List.set_cons_succ, List.set_cons_zero]
    refine takeD (i := 2) (d := 59) (v := .int .i64 xn) (fuel := 7) rfl rfl (by kernel_rfl) (by kernel_rfl) (by kernel_rfl) (fun _ _ _ h => by cases h.1) (.inl ⟨by kernel_rfl, fun wx h => by have z9 : wx.cell? ⟨bx, 2, none⟩ = some (.int .i64 xn) := cell_row h.1 2; go_simp⟩) hS0 ?_
    simp only [List.setIfInBounds_toArray, List.set_cons_succ, List.set_cons_zero]
    refine takeD (i := 4) (d := 61) (v := .pointer (some ⟨r, 0, none⟩)) (fuel := 6) rfl rfl (by kernel_rfl) (by kernel_rfl) (by kernel_rfl) (fun _ _ _ h => by cases h.1) (.inl ⟨by kernel_rfl, fun _ _ => by kernel_rfl⟩) hS0 ?_
    simp only [List.setIfInBounds_toArray, List.set_cons_succ, List.set_cons_zero]
    refine takeD (i := 5) (d := 62) (v := .pointer (some ⟨bx, 2, none⟩)) (fuel := 5) rfl rfl (by kernel_rfl) (by kernel_rfl) (by kernel_rfl) (fun _ _ _ h => by cases h.1) (.inl ⟨by kernel_rfl, fun _ _ => by go_simp⟩) hS0 ?_
    simp only [List.setIfInBounds_toArray, List.set_cons_succ, List.set_cons_zero]
    refine takeD (i := 6) (d := 63) (v := .int .i64 xn) (fuel := 4) rfl rfl (by kernel_rfl) (by kernel_rfl) (by kernel_rfl) (fun _ _ _ h => by cases h.1) (.inl ⟨by kernel_rfl, fun wx h => by have z9 : wx.cell? ⟨bx, 2, none⟩ = some (.int .i64 xn) := cell_row h.1 2; go_simp⟩) hS0 ?_
    simp only [List.setIfInBounds_toArray, List.set_cons_succ, List.set_cons_zero]
    refine oneW (R := fun w' => TW w0 bx p r g #[.int .i64 4, .int .i64 xi, .int .i64 xn, .int .i64 ek, .int .i64 ei, .int .i64 et, .slice sa sn sc, .slice ba bn bc, .slice ka kn kc] RES.2 S w') (i := 3) (d := 60) (f := 22) (args := #[.pointer (some ⟨p, 0, none⟩), .int .i64 xn]) (v := .int .i64 RES.1) (fuel := 3) rfl rfl (by kernel_rfl) (by kernel_rfl) (fun _ => by kernel_rfl) (H1.out _ hCUR) (fun w' h => ⟨h.box, h.bel⟩) (fun wz hR3 => ?_)
    simp only [List.setIfInBounds_toArray, List.set_cons_succ, List.set_cons_zero]
    refine oneW (R := fun w' => TW w0 bx p r g #[.int .i64 4, .int .i64 xi, .int .i64 xn, .int .i64 ek, .int .i64 ei, .int .i64 et, .slice sa sn sc, .slice ba bn bc, .slice ka kn kc] RES.2 RES.2 w') (i := 7) (d := 64) (f := 23) (args := #[.pointer (some ⟨r, 0, none⟩), .int .i64 xn]) (v := .int .i64 RES.1) (fuel := 2) rfl rfl (by kernel_rfl) (by kernel_rfl) (fun _ => by kernel_rfl) (H2.out _ hR3) (fun w' h => ⟨h.box, h.bel⟩) (fun wz hR7 => ?_)
    simp only [List.setIfInBounds_toArray, List.set_cons_succ, List.set_cons_zero]
    refine takeD (i := 8) (d := 65) (v := .bool true) (fuel := 1) rfl rfl (by kernel_rfl) (by kernel_rfl) (by kernel_rfl) (fun _ _ _ h => by cases h.1) (.inl ⟨by kernel_rfl, fun _ _ => by go_simp⟩) (⟨hR7.box, hR7.bel⟩) ?_
    simp only [List.setIfInBounds_toArray, List.set_cons_succ, List.set_cons_zero]
    refine takeD (i := 9) (d := 6) (v := .bool true) (fuel := 0) rfl rfl (by kernel_rfl) (by kernel_rfl) (by kernel_rfl) (fun _ _ _ h => by cases h.1) (.inl ⟨by kernel_rfl, fun _ _ => by kernel_rfl⟩) (⟨hR7.box, hR7.bel⟩) ?_
    simp only [List.setIfInBounds_toArray, List.set_cons_succ, List.set_cons_zero]
    refine wpAnyH_done (by kernel_rfl) ?_ _
    exact ⟨rfl, by kernel_rfl, hR7⟩
  · intro w9 hF
    simp only [setAll, List.setIfInBounds_toArray, List.set_cons_succ, List.set_cons_zero]
    have HF : Hid _ := TW.lp hF HQ2.out
    clear hF
    go_wp2_with fail
    go_ret
    exact ⟨rfl, HF.out⟩

set_option maxHeartbeats 4000000 in
theorem step_put (w0 w : World) (p r g : Nat) (S : DS) (xi xn ek ei et : Int) (sa ba ka : Option Addr) (sn sc bn bc kn kc : Nat) (xs xk : List Int) (xb : List UInt8)
    (h : LP w0 p r g S w) (hs : RI w0 (.slice sa sn sc) xs) (hb : RB w0 (.slice ba bn bc) xb) (hk : RI w0 (.slice ka kn kc) xk) (hsn : xs.length = sn) (hbn : xb.length = bn) (hkn : xk.length = kn) (hs2 : sn ≤ 200) (hb2 : bn ≤ 3000) (hk2 : kn ≤ 100) (hxn : xn ≤ 9223372036854775807) :
    Calls Tryz.prog 7 #[.pointer (some ⟨p, 0, none⟩), .pointer (some ⟨r, 0, none⟩), .agg #[.int .i64 5, .int .i64 xi, .int .i64 xn, .int .i64 ek, .int .i64 ei, .int .i64 et, .slice sa sn sc, .slice ba bn bc, .slice ka kn kc]] w fun e w' => e = .returned (.bool true) ∧ LP w0 p r g ((appendP S xi xb).2) w' := by
  have hq := h.q
  have hsm := hq.small
  have HTW0 : Hid _ := h.tw #[.int .i64 5, .int .i64 xi, .int .i64 xn, .int .i64 ek, .int .i64 ei, .int .i64 et, .slice sa sn sc, .slice ba bn bc, .slice ka kn kc]
  obtain ⟨bx, HBX⟩ : ∃ z, Hid (w.heap.size = z) := ⟨_, rfl⟩
  obtain ⟨w1, HW1⟩ : ∃ z, Hid (w.alloc (.cells #[.int .i64 5, .int .i64 xi, .int .i64 xn, .int .i64 ek, .int .i64 ei, .int .i64 et, .slice sa sn sc, .slice ba bn bc, .slice ka kn kc] 36) = z) := ⟨_, rfl⟩
  rw [HBX.out, HW1.out] at HTW0
  have hbox : w1.heap[bx]? = some (.cells #[.int .i64 5, .int .i64 xi, .int .i64 xn, .int .i64 ek, .int .i64 ei, .int .i64 et, .slice sa sn sc, .slice ba bn bc, .slice ka kn kc] 36 (0, 0)) := HTW0.out.box
  have z0 : w1.cell? ⟨bx, 0, none⟩ = some (.int .i64 5) := cell_row hbox 0
  have hq2 : QD (appendP S xi xb).2 := hq.put xi xb
  have H1 : Hid (∀ wx, TW w0 bx p r g #[.int .i64 5, .int .i64 xi, .int .i64 xn, .int .i64 ek, .int .i64 ei, .int .i64 et, .slice sa sn sc, .slice ba bn bc, .slice ka kn kc] S S wx → Calls Tryz.prog 24 #[.pointer (some ⟨p, 0, none⟩), .int .i64 xi, .slice ba bn bc] wx fun e w' => e = .returned (.int .i64 (appendP S xi xb).1) ∧ TW w0 bx p r g #[.int .i64 5, .int .i64 xi, .int .i64 xn, .int .i64 ek, .int .i64 ei, .int .i64 et, .slice sa sn sc, .slice ba bn bc, .slice ka kn kc] (appendP S xi xb).2 S w') := fun wx ht => by
    obtain ⟨T, t1, t2⟩ := ht.dk
    refine Calls.mono (Dk.append_any0 T wx p S xi (.slice ba bn bc) xb t1 hq.2.1 (Dk.small_mono hsm (by omega) (by omega)) (hb.later ht.bel) (by omega) (fun h0 a n c he ht2 => by cases he; have h9 := (t2 _ ht2).1; have h8 := low_rb hb h0 _ rfl; omega)) ?_
    rintro e w' hw
    exact TW.wr ht t2 hw
  have H2 : Hid (∀ wx, TW w0 bx p r g #[.int .i64 5, .int .i64 xi, .int .i64 xn, .int .i64 ek, .int .i64 ei, .int .i64 et, .slice sa sn sc, .slice ba bn bc, .slice ka kn kc] (appendP S xi xb).2 S wx → Calls Tryz.prog 25 #[.pointer (some ⟨r, 0, none⟩), .int .i64 xi, .string ⟨xb.toArray⟩] wx fun e w' => e = .returned (.int .i64 (appendP S xi xb).1) ∧ TW w0 bx p r g #[.int .i64 5, .int .i64 xi, .int .i64 xn, .int .i64 ek, .int .i64 ei, .int .i64 et, .slice sa sn sc, .slice ba bn bc, .slice ka kn kc] (appendP S xi xb).2 (appendP S xi xb).2 w') := fun wx ht => by
    refine Calls.mono (Dk.rappend_any xi xb ht.rv hq.2.1 (Dk.small_mono hsm (by omega) (by omega)) (by omega)) ?_
    rintro e w' hw
    exact ⟨hw.1, ht.rr hw.2.1 hw.2.2⟩
  have HRB : Hid (∀ wx, Below w0.heap.size w0 wx → RB wx (.slice ba bn bc) xb) := fun wx hx => hb.later hx
  generalize appendP S xi xb = RES at *
  have HQ2 : Hid _ := hq2
  have HBEL : Hid (Below w0.heap.size w0 w1) := HTW0.out.bel
  have HT1 : Hid _ := TW.later HTW0.out (Below.refl _ _).drew
  clear hs hb hk h hq hsm hq2 hsn hbn hkn
  go_enter Tryz.func7, Tryz.ntmps7
  go_wp2_with fail
  rw [HW1.out, HBX.out]
  have hCUR := HT1.out
  have hS0 : w1.drew.heap[bx]? = some (.cells #[.int .i64 5, .int .i64 xi, .int .i64 xn, .int .i64 ek, .int .i64 ei, .int .i64 et, .slice sa sn sc, .slice ba bn bc, .slice ka kn kc] 36 (0, 0)) ∧ Below w0.heap.size w0 w1.drew := ⟨HT1.out.box, HT1.out.bel⟩
  refine region_thenF [(68, .pointer (some ⟨p, 0, none⟩)), (69, .pointer (some ⟨bx, 1, none⟩)), (70, .int .i64 xi), (71, .pointer (some ⟨bx, 7, none⟩)), (72, .slice ba bn bc), (73, .int .i64 RES.1), (74, .pointer (some ⟨r, 0, none⟩)), (75, .pointer (some ⟨bx, 1, none⟩)), (76, .int .i64 xi), (77, .pointer (some ⟨bx, 7, none⟩)), (78, .slice ba bn bc), (79, .string ⟨xb.toArray⟩), (80, .int .i64 RES.1), (81, .bool true), (6, .bool true)] (fun w' => TW w0 bx p r g #[.int .i64 5, .int .i64 xi, .int .i64 xn, .int .i64 ek, .int .i64 ei, .int .i64 et, .slice sa sn sc, .slice ba bn bc, .slice ka kn kc] RES.2 RES.2 w') ?_ ?_
  · refine wp_region_held (S := fun w' => w'.heap[bx]? = some (.cells #[.int .i64 5, .int .i64 xi, .int .i64 xn, .int .i64 ek, .int .i64 ei, .int .i64 et, .slice sa sn sc, .slice ba bn bc, .slice ka kn kc] 36 (0, 0)) ∧ Below w0.heap.size w0 w') (by kernel_rfl) ?_
    simp only [List.size_toArray, List.length_cons, List.length_nil, Nat.reduceAdd, Array.replicate_succ, Array.replicate_zero, List.push_toArray, List.nil_append, List.cons_append]
    refine takeD (i := 0) (d := 68) (v := .pointer (some ⟨p, 0, none⟩)) (fuel := 14) rfl rfl (by kernel_rfl) (by kernel_rfl) (by kernel_rfl) (fun _ _ _ h => by cases h.1) (.inl ⟨by kernel_rfl, fun _ _ => by kernel_rfl⟩) hS0 ?_
    simp only [List.setIfInBounds_toArray, List.set_cons_succ, List.set_cons_zero]
    refine takeD (i := 1) (d := 69) (v := .pointer (some ⟨bx, 1, none⟩)) (fuel := 13) rfl rfl (by kernel_rfl) (by kernel_rfl) (by kernel_rfl) (fun _ _ _ h => by cases h.1) (.inl ⟨by kernel_rfl, fun _ _ => by go_simp⟩) hS0 ?_
    simp only [List.setIfInBounds_toArray, List.set_cons_succ, List.set_cons_zero]
    refine takeD (i := 2) (d := 70) (v := .int .i64 xi) (fuel := 12) rfl rfl (by kernel_rfl) (by kernel_rfl) (by kernel_rfl) (fun _ _ _ h => by cases h.1) (.inl ⟨by kernel_rfl, fun wx h => by have z9 : wx.cell? ⟨bx, 1, none⟩ = some (.int .i64 xi) := cell_row h.1 1; go_simp⟩) hS0 ?_
    simp only [List.setIfInBounds_toArray, List.set_cons_succ, List.set_cons_zero]
    refine takeD (i := 3) (d := 71) (v := .pointer (some ⟨bx, 7, none⟩)) (fuel := 11) rfl rfl (by kernel_rfl) (by kernel_rfl) (by kernel_rfl) (fun _ _ _ h => by cases h.1) (.inl ⟨by kernel_rfl, fun _ _ => by go_simp⟩) hS0 ?_
    simp only [List.setIfInBounds_toArray, List.set_cons_succ, List.set_cons_zero]
    refine takeD (i := 4) (d := 72) (v := .slice ba bn bc) (fuel := 10) rfl rfl (by kernel_rfl) (by kernel_rfl) (by kernel_rfl) (fun _ _ _ h => by cases h.1) (.inl ⟨by kernel_rfl, fun wx h => by have z9 : wx.cell? ⟨bx, 7, none⟩ = some (.slice ba bn bc) := cell_row h.1 7; go_simp⟩) hS0 ?_
    simp only [List.setIfInBounds_toArray, List.set_cons_succ, List.set_cons_zero]
    refine takeD (i := 6) (d := 74) (v := .pointer (some ⟨r, 0, none⟩)) (fuel := 9) rfl rfl (by kernel_rfl) (by kernel_rfl) (by kernel_rfl) (fun _ _ _ h => by cases h.1) (.inl ⟨by kernel_rfl, fun _ _ => by kernel_rfl⟩) hS0 ?_
    simp only [List.setIfInBounds_toArray, List.set_cons_succ, List.set_cons_zero]
    refine takeD (i := 7) (d := 75) (v := .pointer (some ⟨bx, 1, none⟩)) (fuel := 8) rfl rfl (by kernel_rfl) (by kernel_rfl) (by kernel_rfl) (fun _ _ _ h => by cases h.1) (.inl ⟨by kernel_rfl, fun _ _ => by go_simp⟩) hS0 ?_
    simp only [List.setIfInBounds_toArray, List.set_cons_succ, List.set_cons_zero]
    refine takeD (i := 8) (d := 76) (v := .int .i64 xi) (fuel := 7) rfl rfl (by kernel_rfl) (by kernel_rfl) (by kernel_rfl) (fun _ _ _ h => by cases h.1) (.inl ⟨by kernel_rfl, fun wx h => by have z9 : wx.cell? ⟨bx, 1, none⟩ = some (.int .i64 xi) := cell_row h.1 1; go_simp⟩) hS0 ?_
    simp only [List.setIfInBounds_toArray, List.set_cons_succ, List.set_cons_zero]
    refine takeD (i := 9) (d := 77) (v := .pointer (some ⟨bx, 7, none⟩)) (fuel := 6) rfl rfl (by kernel_rfl) (by kernel_rfl) (by kernel_rfl) (fun _ _ _ h => by cases h.1) (.inl ⟨by kernel_rfl, fun _ _ => by go_simp⟩) hS0 ?_
    simp only [List.setIfInBounds_toArray, List.set_cons_succ, List.set_cons_zero]
    refine takeD (i := 10) (d := 78) (v := .slice ba bn bc) (fuel := 5) rfl rfl (by kernel_rfl) (by kernel_rfl) (by kernel_rfl) (fun _ _ _ h => by cases h.1) (.inl ⟨by kernel_rfl, fun wx h => by have z9 : wx.cell? ⟨bx, 7, none⟩ = some (.slice ba bn bc) := cell_row h.1 7; go_simp⟩) hS0 ?_
    simp only [List.setIfInBounds_toArray, List.set_cons_succ, List.set_cons_zero]
    refine takeD (i := 11) (d := 79) (v := .string ⟨xb.toArray⟩) (fuel := 4) rfl rfl (by kernel_rfl) (by kernel_rfl) (by kernel_rfl) (fun _ _ _ h => by cases h.1) (.inl ⟨by kernel_rfl, fun wx h => by have z9 := string_of_RB (HRB.out wx h.2); go_simp⟩) hS0 ?_
    simp only [List.setIfInBounds_toArray, List.set_cons_succ, List.set_cons_zero]
    refine oneW (R := fun w' => TW w0 bx p r g #[.int .i64 5, .int .i64 xi, .int .i64 xn, .int .i64 ek, .int .i64 ei, .int .i64 et, .slice sa sn sc, .slice ba bn bc, .slice ka kn kc] RES.2 S w') (i := 5) (d := 73) (f := 24) (args := #[.pointer (some ⟨p, 0, none⟩), .int .i64 xi, .slice ba bn bc]) (v := .int .i64 RES.1) (fuel := 3) rfl rfl (by kernel_rfl) (by kernel_rfl) (fun _ => by kernel_rfl) (H1.out _ hCUR) (fun w' h => ⟨h.box, h.bel⟩) (fun wz hR5 => ?_)
    simp only [List.setIfInBounds_toArray, List.set_cons_succ, List.set_cons_zero]
    refine oneW (R := fun w' => TW w0 bx p r g #[.int .i64 5, .int .i64 xi, .int .i64 xn, .int .i64 ek, .int .i64 ei, .int .i64 et, .slice sa sn sc, .slice ba bn bc, .slice ka kn kc] RES.2 RES.2 w') (i := 12) (d := 80) (f := 25) (args := #[.pointer (some ⟨r, 0, none⟩), .int .i64 xi, .string ⟨xb.toArray⟩]) (v := .int .i64 RES.1) (fuel := 2) rfl rfl (by kernel_rfl) (by kernel_rfl) (fun _ => by kernel_rfl) (H2.out _ hR5) (fun w' h => ⟨h.box, h.bel⟩) (fun wz hR12 => ?_)
    simp only [List.setIfInBounds_toArray, List.set_cons_succ, List.set_cons_zero]
    refine takeD (i := 13) (d := 81) (v := .bool true) (fuel := 1) rfl rfl (by kernel_rfl) (by kernel_rfl) (by kernel_rfl) (fun _ _ _ h => by cases h.1) (.inl ⟨by kernel_rfl, fun _ _ => by go_simp⟩) (⟨hR12.box, hR12.bel⟩) ?_
    simp only [List.setIfInBounds_toArray, List.set_cons_succ, List.set_cons_zero]
    refine takeD (i := 14) (d := 6) (v := .bool true) (fuel := 0) rfl rfl (by kernel_rfl) (by kernel_rfl) (by kernel_rfl) (fun _ _ _ h => by cases h.1) (.inl ⟨by kernel_rfl, fun _ _ => by kernel_rfl⟩) (⟨hR12.box, hR12.bel⟩) ?_
    simp only [List.setIfInBounds_toArray, List.set_cons_succ, List.set_cons_zero]
    refine wpAnyH_done (by kernel_rfl) ?_ _
    exact ⟨rfl, by kernel_rfl, hR12⟩
  · intro w9 hF
    simp only [setAll, List.setIfInBounds_toArray, List.set_cons_succ, List.set_cons_zero]
    have HF : Hid _ := TW.lp hF HQ2.out
    clear hF
    go_wp2_with fail
    go_ret
    exact ⟨rfl, HF.out⟩

set_option maxHeartbeats 4000000 in
theorem step_keep (w0 w : World) (p r g : Nat) (S : DS) (xi xn ek ei et : Int) (sa ba ka : Option Addr) (sn sc bn bc kn kc : Nat) (xs xk : List Int) (xb : List UInt8)
    (h : LP w0 p r g S w) (hs : RI w0 (.slice sa sn sc) xs) (hb : RB w0 (.slice ba bn bc) xb) (hk : RI w0 (.slice ka kn kc) xk) (hsn : xs.length = sn) (hbn : xb.length = bn) (hkn : xk.length = kn) (hs2 : sn ≤ 200) (hb2 : bn ≤ 3000) (hk2 : kn ≤ 100) (hxn : xn ≤ 9223372036854775807) :
    Calls Tryz.prog 7 #[.pointer (some ⟨p, 0, none⟩), .pointer (some ⟨r, 0, none⟩), .agg #[.int .i64 7, .int .i64 xi, .int .i64 xn, .int .i64 ek, .int .i64 ei, .int .i64 et, .slice sa sn sc, .slice ba bn bc, .slice ka kn kc]] w fun e w' => e = .returned (.bool true) ∧ LP w0 p r g ((keepP S xi xn).2) w' := by
  have hq := h.q
  have hsm := hq.small
  have HTW0 : Hid _ := h.tw #[.int .i64 7, .int .i64 xi, .int .i64 xn, .int .i64 ek, .int .i64 ei, .int .i64 et, .slice sa sn sc, .slice ba bn bc, .slice ka kn kc]
  obtain ⟨bx, HBX⟩ : ∃ z, Hid (w.heap.size = z) := ⟨_, rfl⟩
  obtain ⟨w1, HW1⟩ : ∃ z, Hid (w.alloc (.cells #[.int .i64 7, .int .i64 xi, .int .i64 xn, .int .i64 ek, .int .i64 ei, .int .i64 et, .slice sa sn sc, .slice ba bn bc, .slice ka kn kc] 36) = z) := ⟨_, rfl⟩
  rw [HBX.out, HW1.out] at HTW0
  have hbox : w1.heap[bx]? = some (.cells #[.int .i64 7, .int .i64 xi, .int .i64 xn, .int .i64 ek, .int .i64 ei, .int .i64 et, .slice sa sn sc, .slice ba bn bc, .slice ka kn kc] 36 (0, 0)) := HTW0.out.box
  have z0 : w1.cell? ⟨bx, 0, none⟩ = some (.int .i64 7) := cell_row hbox 0
  have hq2 : QD (keepP S xi xn).2 := hq.keep xi xn
  have H1 : Hid (∀ wx, TW w0 bx p r g #[.int .i64 7, .int .i64 xi, .int .i64 xn, .int .i64 ek, .int .i64 ei, .int .i64 et, .slice sa sn sc, .slice ba bn bc, .slice ka kn kc] S S wx → Calls Tryz.prog 26 #[.pointer (some ⟨p, 0, none⟩), .int .i64 xi, .int .i64 xn] wx fun e w' => e = .returned (.int .i64 (keepP S xi xn).1) ∧ TW w0 bx p r g #[.int .i64 7, .int .i64 xi, .int .i64 xn, .int .i64 ek, .int .i64 ei, .int .i64 et, .slice sa sn sc, .slice ba bn bc, .slice ka kn kc] (keepP S xi xn).2 S w') := fun wx ht => by
    obtain ⟨T, t1, t2⟩ := ht.dk
    have hk9 := keep_any t1 hq.2.1 (Dk.small_mono hsm (by omega) (by omega)) rfl xi xn
    rw [keepW_eq] at hk9
    refine Calls.mono hk9 ?_
    rintro e w' hw
    exact TW.wr ht t2 hw
  have H2 : Hid (∀ wx, TW w0 bx p r g #[.int .i64 7, .int .i64 xi, .int .i64 xn, .int .i64 ek, .int .i64 ei, .int .i64 et, .slice sa sn sc, .slice ba bn bc, .slice ka kn kc] (keepP S xi xn).2 S wx → Calls Tryz.prog 27 #[.pointer (some ⟨r, 0, none⟩), .int .i64 xi, .int .i64 xn] wx fun e w' => e = .returned (.int .i64 (keepP S xi xn).1) ∧ TW w0 bx p r g #[.int .i64 7, .int .i64 xi, .int .i64 xn, .int .i64 ek, .int .i64 ei, .int .i64 et, .slice sa sn sc, .slice ba bn bc, .slice ka kn kc] (keepP S xi xn).2 (keepP S xi xn).2 w') := fun wx ht => by
    refine Calls.mono (rkeep_any r g S xi xn wx ht.rv hq.2.1 (Dk.small_mono hsm (by omega) (by omega))) ?_
    rintro e w' hw
    exact ⟨hw.1, ht.rr hw.2.1 hw.2.2⟩
  have HRB : Hid (∀ wx, Below w0.heap.size w0 wx → RB wx (.slice ba bn bc) xb) := fun wx hx => hb.later hx
  generalize keepP S xi xn = RES at *
  have HQ2 : Hid _ := hq2
  have HBEL : Hid (Below w0.heap.size w0 w1) := HTW0.out.bel
  have HT1 : Hid _ := TW.later HTW0.out (Below.refl _ _).drew
  clear hs hb hk h hq hsm hq2 hsn hbn hkn
  go_enter Tryz.func7, Tryz.ntmps7
  go_wp2_with fail
  rw [HW1.out, HBX.out]
  have hCUR := HT1.out
  have hS0 : w1.drew.heap[bx]? = some (.cells #[.int .i64 7, .int .i64 xi, .int .i64 xn, .int .i64 ek, .int .i64 ei, .int .i64 et, .slice sa sn sc, .slice ba bn bc, .slice ka kn kc] 36 (0, 0)) ∧ Below w0.heap.size w0 w1.drew := ⟨HT1.out.box, HT1.out.bel⟩
  refine region_thenF [(84, .pointer (some ⟨p, 0, none⟩)), (85, .pointer (some ⟨bx, 1, none⟩)), (86, .int .i64 xi), (87, .pointer (some ⟨bx, 2, none⟩)), (88, .int .i64 xn), (89, .int .i64 RES.1), (90, .pointer (some ⟨r, 0, none⟩)), (91, .pointer (some ⟨bx, 1, none⟩)), (92, .int .i64 xi), (93, .pointer (some ⟨bx, 2, none⟩)), (94, .int .i64 xn), (95, .int .i64 RES.1), (96, .bool true), (6, .bool true)] (fun w' => TW w0 bx p r g #[.int .i64 7, .int .i64 xi, .int .i64 xn, .int .i64 ek, .int .i64 ei, .int .i64 et, .slice sa sn sc, .slice ba bn bc, .slice ka kn kc] RES.2 RES.2 w') ?_ ?_
  · refine wp_region_held (S := fun w' => w'.heap[bx]? = some (.cells #[.int .i64 7, .int .i64 xi, .int .i64 xn, .int .i64 ek, .int .i64 ei, .int .i64 et, .slice sa sn sc, .slice ba bn bc, .slice ka kn kc] 36 (0, 0)) ∧ Below w0.heap.size w0 w') (by kernel_rfl) ?_
    simp only [List.size_toArray, List.length_cons, List.length_nil, Nat.reduceAdd, Array.replicate_succ, Array.replicate_zero, List.push_toArray, List.nil_append, List.cons_append]
    refine takeD (i := 0) (d := 84) (v := .pointer (some ⟨p, 0, none⟩)) (fuel := 13) rfl rfl (by kernel_rfl) (by kernel_rfl) (by kernel_rfl) (fun _ _ _ h => by cases h.1) (.inl ⟨by kernel_rfl, fun _ _ => by kernel_rfl⟩) hS0 ?_
    simp only [List.setIfInBounds_toArray, List.set_cons_succ, List.set_cons_zero]
    refine takeD (i := 1) (d := 85) (v := .pointer (some ⟨bx, 1, none⟩)) (fuel := 12) rfl rfl (by kernel_rfl) (by kernel_rfl) (by kernel_rfl) (fun _ _ _ h => by cases h.1) (.inl ⟨by kernel_rfl, fun _ _ => by go_simp⟩) hS0 ?_
    simp only [List.setIfInBounds_toArray, List.set_cons_succ, List.set_cons_zero]
    refine takeD (i := 2) (d := 86) (v := .int .i64 xi) (fuel := 11) rfl rfl (by kernel_rfl) (by kernel_rfl) (by kernel_rfl) (fun _ _ _ h => by cases h.1) (.inl ⟨by kernel_rfl, fun wx h => by have z9 : wx.cell? ⟨bx, 1, none⟩ = some (.int .i64 xi) := cell_row h.1 1; go_simp⟩) hS0 ?_
    simp only [List.setIfInBounds_toArray, List.set_cons_succ, List.set_cons_zero]
    refine takeD (i := 3) (d := 87) (v := .pointer (some ⟨bx, 2, none⟩)) (fuel := 10) rfl rfl (by kernel_rfl) (by kernel_rfl) (by kernel_rfl) (fun _ _ _ h => by cases h.1) (.inl ⟨by kernel_rfl, fun _ _ => by go_simp⟩) hS0 ?_
    simp only [List.setIfInBounds_toArray, List.set_cons_succ, List.set_cons_zero]
    refine takeD (i := 4) (d := 88) (v := .int .i64 xn) (fuel := 9) rfl rfl (by kernel_rfl) (by kernel_rfl) (by kernel_rfl) (fun _ _ _ h => by cases h.1) (.inl ⟨by kernel_rfl, fun wx h => by have z9 : wx.cell? ⟨bx, 2, none⟩ = some (.int .i64 xn) := cell_row h.1 2; go_simp⟩) hS0 ?_
    simp only [List.setIfInBounds_toArray, List.set_cons_succ, List.set_cons_zero]
    refine takeD (i := 6) (d := 90) (v := .pointer (some ⟨r, 0, none⟩)) (fuel := 8) rfl rfl (by kernel_rfl) (by kernel_rfl) (by kernel_rfl) (fun _ _ _ h => by cases h.1) (.inl ⟨by kernel_rfl, fun _ _ => by kernel_rfl⟩) hS0 ?_
    simp only [List.setIfInBounds_toArray, List.set_cons_succ, List.set_cons_zero]
    refine takeD (i := 7) (d := 91) (v := .pointer (some ⟨bx, 1, none⟩)) (fuel := 7) rfl rfl (by kernel_rfl) (by kernel_rfl) (by kernel_rfl) (fun _ _ _ h => by cases h.1) (.inl ⟨by kernel_rfl, fun _ _ => by go_simp⟩) hS0 ?_
    simp only [List.setIfInBounds_toArray, List.set_cons_succ, List.set_cons_zero]
    refine takeD (i := 8) (d := 92) (v := .int .i64 xi) (fuel := 6) rfl rfl (by kernel_rfl) (by kernel_rfl) (by kernel_rfl) (fun _ _ _ h => by cases h.1) (.inl ⟨by kernel_rfl, fun wx h => by have z9 : wx.cell? ⟨bx, 1, none⟩ = some (.int .i64 xi) := cell_row h.1 1; go_simp⟩) hS0 ?_
    simp only [List.setIfInBounds_toArray, List.set_cons_succ, List.set_cons_zero]
    refine takeD (i := 9) (d := 93) (v := .pointer (some ⟨bx, 2, none⟩)) (fuel := 5) rfl rfl (by kernel_rfl) (by kernel_rfl) (by kernel_rfl) (fun _ _ _ h => by cases h.1) (.inl ⟨by kernel_rfl, fun _ _ => by go_simp⟩) hS0 ?_
    simp only [List.setIfInBounds_toArray, List.set_cons_succ, List.set_cons_zero]
    refine takeD (i := 10) (d := 94) (v := .int .i64 xn) (fuel := 4) rfl rfl (by kernel_rfl) (by kernel_rfl) (by kernel_rfl) (fun _ _ _ h => by cases h.1) (.inl ⟨by kernel_rfl, fun wx h => by have z9 : wx.cell? ⟨bx, 2, none⟩ = some (.int .i64 xn) := cell_row h.1 2; go_simp⟩) hS0 ?_
    simp only [List.setIfInBounds_toArray, List.set_cons_succ, List.set_cons_zero]
    refine oneW (R := fun w' => TW w0 bx p r g #[.int .i64 7, .int .i64 xi, .int .i64 xn, .int .i64 ek, .int .i64 ei, .int .i64 et, .slice sa sn sc, .slice ba bn bc, .slice ka kn kc] RES.2 S w') (i := 5) (d := 89) (f := 26) (args := #[.pointer (some ⟨p, 0, none⟩), .int .i64 xi, .int .i64 xn]) (v := .int .i64 RES.1) (fuel := 3) rfl rfl (by kernel_rfl) (by kernel_rfl) (fun _ => by kernel_rfl) (H1.out _ hCUR) (fun w' h => ⟨h.box, h.bel⟩) (fun wz hR5 => ?_)
    simp only [List.setIfInBounds_toArray, List.set_cons_succ, List.set_cons_zero]
    refine oneW (R := fun w' => TW w0 bx p r g #[.int .i64 7, .int .i64 xi, .int .i64 xn, .int .i64 ek, .int .i64 ei, .int .i64 et, .slice sa sn sc, .slice ba bn bc, .slice ka kn kc] RES.2 RES.2 w') (i := 11) (d := 95) (f := 27) (args := #[.pointer (some ⟨r, 0, none⟩), .int .i64 xi, .int .i64 xn]) (v := .int .i64 RES.1) (fuel := 2) rfl rfl (by kernel_rfl) (by kernel_rfl) (fun _ => by kernel_rfl) (H2.out _ hR5) (fun w' h => ⟨h.box, h.bel⟩) (fun wz hR11 => ?_)
    simp only [List.setIfInBounds_toArray, List.set_cons_succ, List.set_cons_zero]
    refine takeD (i := 12) (d := 96) (v := .bool true) (fuel := 1) rfl rfl (by kernel_rfl) (by kernel_rfl) (by kernel_rfl) (fun _ _ _ h => by cases h.1) (.inl ⟨by kernel_rfl, fun _ _ => by go_simp⟩) (⟨hR11.box, hR11.bel⟩) ?_
    simp only [List.setIfInBounds_toArray, List.set_cons_succ, List.set_cons_zero]
    refine takeD (i := 13) (d := 6) (v := .bool true) (fuel := 0) rfl rfl (by kernel_rfl) (by kernel_rfl) (by kernel_rfl) (fun _ _ _ h => by cases h.1) (.inl ⟨by kernel_rfl, fun _ _ => by kernel_rfl⟩) (⟨hR11.box, hR11.bel⟩) ?_
    simp only [List.setIfInBounds_toArray, List.set_cons_succ, List.set_cons_zero]
    refine wpAnyH_done (by kernel_rfl) ?_ _
    exact ⟨rfl, by kernel_rfl, hR11⟩
  · intro w9 hF
    simp only [setAll, List.setIfInBounds_toArray, List.set_cons_succ, List.set_cons_zero]
    have HF : Hid _ := TW.lp hF HQ2.out
    clear hF
    go_wp2_with fail
    go_ret
    exact ⟨rfl, HF.out⟩

set_option maxHeartbeats 4000000 in
theorem step_begin (w0 w : World) (p r g : Nat) (S : DS) (xi xn ek ei et : Int) (sa ba ka : Option Addr) (sn sc bn bc kn kc : Nat) (xs xk : List Int) (xb : List UInt8)
    (h : LP w0 p r g S w) (hs : RI w0 (.slice sa sn sc) xs) (hb : RB w0 (.slice ba bn bc) xb) (hk : RI w0 (.slice ka kn kc) xk) (hsn : xs.length = sn) (hbn : xb.length = bn) (hkn : xk.length = kn) (hs2 : sn ≤ 200) (hb2 : bn ≤ 3000) (hk2 : kn ≤ 100) (hxn : xn ≤ 9223372036854775807) :
    Calls Tryz.prog 7 #[.pointer (some ⟨p, 0, none⟩), .pointer (some ⟨r, 0, none⟩), .agg #[.int .i64 6, .int .i64 xi, .int .i64 xn, .int .i64 ek, .int .i64 ei, .int .i64 et, .slice sa sn sc, .slice ba bn bc, .slice ka kn kc]] w fun e w' => e = .returned (.bool true) ∧ LP w0 p r g ((beginP S xb).2) w' := by
  have hq := h.q
  have hsm := hq.small
  have HTW0 : Hid _ := h.tw #[.int .i64 6, .int .i64 xi, .int .i64 xn, .int .i64 ek, .int .i64 ei, .int .i64 et, .slice sa sn sc, .slice ba bn bc, .slice ka kn kc]
  obtain ⟨bx, HBX⟩ : ∃ z, Hid (w.heap.size = z) := ⟨_, rfl⟩
  obtain ⟨w1, HW1⟩ : ∃ z, Hid (w.alloc (.cells #[.int .i64 6, .int .i64 xi, .int .i64 xn, .int .i64 ek, .int .i64 ei, .int .i64 et, .slice sa sn sc, .slice ba bn bc, .slice ka kn kc] 36) = z) := ⟨_, rfl⟩
  rw [HBX.out, HW1.out] at HTW0
  have hbox : w1.heap[bx]? = some (.cells #[.int .i64 6, .int .i64 xi, .int .i64 xn, .int .i64 ek, .int .i64 ei, .int .i64 et, .slice sa sn sc, .slice ba bn bc, .slice ka kn kc] 36 (0, 0)) := HTW0.out.box
  have z0 : w1.cell? ⟨bx, 0, none⟩ = some (.int .i64 6) := cell_row hbox 0
  have hq2 : QD (beginP S xb).2 := hq.beg xb
  have H1 : Hid (∀ wx, TW w0 bx p r g #[.int .i64 6, .int .i64 xi, .int .i64 xn, .int .i64 ek, .int .i64 ei, .int .i64 et, .slice sa sn sc, .slice ba bn bc, .slice ka kn kc] S S wx → Calls Tryz.prog 12 #[.pointer (some ⟨p, 0, none⟩), .string ⟨xb.toArray⟩] wx fun e w' => e = .returned (.int .i64 (beginP S xb).1) ∧ TW w0 bx p r g #[.int .i64 6, .int .i64 xi, .int .i64 xn, .int .i64 ek, .int .i64 ei, .int .i64 et, .slice sa sn sc, .slice ba bn bc, .slice ka kn kc] (beginP S xb).2 S w') := fun wx ht => by
    obtain ⟨T, t1, t2⟩ := ht.dk
    refine Calls.mono (begin_any T wx p S xb t1 hq.2.1 (Dk.small_mono hsm (by omega) (by omega)) (by have := hq.last; omega) (by omega)) ?_
    rintro e w' hw
    exact TW.wr ht t2 hw
  have H2 : Hid (∀ wx, TW w0 bx p r g #[.int .i64 6, .int .i64 xi, .int .i64 xn, .int .i64 ek, .int .i64 ei, .int .i64 et, .slice sa sn sc, .slice ba bn bc, .slice ka kn kc] (beginP S xb).2 S wx → Calls Tryz.prog 28 #[.pointer (some ⟨r, 0, none⟩), .string ⟨xb.toArray⟩] wx fun e w' => e = .returned (.int .i64 (beginP S xb).1) ∧ TW w0 bx p r g #[.int .i64 6, .int .i64 xi, .int .i64 xn, .int .i64 ek, .int .i64 ei, .int .i64 et, .slice sa sn sc, .slice ba bn bc, .slice ka kn kc] (beginP S xb).2 (beginP S xb).2 w') := fun wx ht => by
    refine Calls.mono (rbegin_any r g S xb wx ht.rv hq.2.1 (Dk.small_mono hsm (by omega) (by omega)) hq.last (by omega)) ?_
    rintro e w' hw
    exact ⟨hw.1, ht.rr hw.2.1 hw.2.2⟩
  have HRB : Hid (∀ wx, Below w0.heap.size w0 wx → RB wx (.slice ba bn bc) xb) := fun wx hx => hb.later hx
  generalize beginP S xb = RES at *
  have HQ2 : Hid _ := hq2
  have HBEL : Hid (Below w0.heap.size w0 w1) := HTW0.out.bel
  have HT1 : Hid _ := TW.later HTW0.out (Below.refl _ _).drew
  clear hs hb hk h hq hsm hq2 hsn hbn hkn
  go_enter Tryz.func7, Tryz.ntmps7
  go_wp2_with fail
  rw [HW1.out, HBX.out]
  have hCUR := HT1.out
  have hS0 : w1.drew.heap[bx]? = some (.cells #[.int .i64 6, .int .i64 xi, .int .i64 xn, .int .i64 ek, .int .i64 ei, .int .i64 et, .slice sa sn sc, .slice ba bn bc, .slice ka kn kc] 36 (0, 0)) ∧ Below w0.heap.size w0 w1.drew := ⟨HT1.out.box, HT1.out.bel⟩
  refine region_thenF [(99, .pointer (some ⟨p, 0, none⟩)), (100, .pointer (some ⟨bx, 7, none⟩)), (101, .slice ba bn bc), (102, .string ⟨xb.toArray⟩), (103, .int .i64 RES.1), (104, .pointer (some ⟨r, 0, none⟩)), (105, .pointer (some ⟨bx, 7, none⟩)), (106, .slice ba bn bc), (107, .string ⟨xb.toArray⟩), (108, .int .i64 RES.1), (109, .bool true), (6, .bool true)] (fun w' => TW w0 bx p r g #[.int .i64 6, .int .i64 xi, .int .i64 xn, .int .i64 ek, .int .i64 ei, .int .i64 et, .slice sa sn sc, .slice ba bn bc, .slice ka kn kc] RES.2 RES.2 w') ?_ ?_
  · refine wp_region_held (S := fun w' => w'.heap[bx]? = some (.cells #[.int .i64 6, .int .i64 xi, .int .i64 xn, .int .i64 ek, .int .i64 ei, .int .i64 et, .slice sa sn sc, .slice ba bn bc, .slice ka kn kc] 36 (0, 0)) ∧ Below w0.heap.size w0 w') (by kernel_rfl) ?_
    simp only [List.size_toArray, List.length_cons, List.length_nil, Nat.reduceAdd, Array.replicate_succ, Array.replicate_zero, List.push_toArray, List.nil_append, List.cons_append]
    refine takeD (i := 0) (d := 99) (v := .pointer (some ⟨p, 0, none⟩)) (fuel := 11) rfl rfl (by kernel_rfl) (by kernel_rfl) (by kernel_rfl) (fun _ _ _ h => by cases h.1) (.inl ⟨by kernel_rfl, fun _ _ => by kernel_rfl⟩) hS0 ?_
    simp only [List.setIfInBounds_toArray, List.set_cons_succ, List.set_cons_zero]
    refine takeD (i := 1) (d := 100) (v := .pointer (some ⟨bx, 7, none⟩)) (fuel := 10) rfl rfl (by kernel_rfl) (by kernel_rfl) (by kernel_rfl) (fun _ _ _ h => by cases h.1) (.inl ⟨by kernel_rfl, fun _ _ => by go_simp⟩) hS0 ?_
    simp only [List.setIfInBounds_toArray, List.set_cons_succ, List.set_cons_zero]
    refine takeD (i := 2) (d := 101) (v := .slice ba bn bc) (fuel := 9) rfl rfl (by kernel_rfl) (by kernel_rfl) (by kernel_rfl) (fun _ _ _ h => by cases h.1) (.inl ⟨by kernel_rfl, fun wx h => by have z9 : wx.cell? ⟨bx, 7, none⟩ = some (.slice ba bn bc) := cell_row h.1 7; go_simp⟩) hS0 ?_
    simp only [List.setIfInBounds_toArray, List.set_cons_succ, List.set_cons_zero]
    refine takeD (i := 3) (d := 102) (v := .string ⟨xb.toArray⟩) (fuel := 8) rfl rfl (by kernel_rfl) (by kernel_rfl) (by kernel_rfl) (fun _ _ _ h => by cases h.1) (.inl ⟨by kernel_rfl, fun wx h => by have z9 := string_of_RB (HRB.out wx h.2); go_simp⟩) hS0 ?_
    simp only [List.setIfInBounds_toArray, List.set_cons_succ, List.set_cons_zero]
    refine takeD (i := 5) (d := 104) (v := .pointer (some ⟨r, 0, none⟩)) (fuel := 7) rfl rfl (by kernel_rfl) (by kernel_rfl) (by kernel_rfl) (fun _ _ _ h => by cases h.1) (.inl ⟨by kernel_rfl, fun _ _ => by kernel_rfl⟩) hS0 ?_
    simp only [List.setIfInBounds_toArray, List.set_cons_succ, List.set_cons_zero]
    refine takeD (i := 6) (d := 105) (v := .pointer (some ⟨bx, 7, none⟩)) (fuel := 6) rfl rfl (by kernel_rfl) (by kernel_rfl) (by kernel_rfl) (fun _ _ _ h => by cases h.1) (.inl ⟨by kernel_rfl, fun _ _ => by go_simp⟩) hS0 ?_
    simp only [List.setIfInBounds_toArray, List.set_cons_succ, List.set_cons_zero]
    refine takeD (i := 7) (d := 106) (v := .slice ba bn bc) (fuel := 5) rfl rfl (by kernel_rfl) (by kernel_rfl) (by kernel_rfl) (fun _ _ _ h => by cases h.1) (.inl ⟨by kernel_rfl, fun wx h => by have z9 : wx.cell? ⟨bx, 7, none⟩ = some (.slice ba bn bc) := cell_row h.1 7; go_simp⟩) hS0 ?_
    simp only [List.setIfInBounds_toArray, List.set_cons_succ, List.set_cons_zero]
    refine takeD (i := 8) (d := 107) (v := .string ⟨xb.toArray⟩) (fuel := 4) rfl rfl (by kernel_rfl) (by kernel_rfl) (by kernel_rfl) (fun _ _ _ h => by cases h.1) (.inl ⟨by kernel_rfl, fun wx h => by have z9 := string_of_RB (HRB.out wx h.2); go_simp⟩) hS0 ?_
    simp only [List.setIfInBounds_toArray, List.set_cons_succ, List.set_cons_zero]
    refine oneW (R := fun w' => TW w0 bx p r g #[.int .i64 6, .int .i64 xi, .int .i64 xn, .int .i64 ek, .int .i64 ei, .int .i64 et, .slice sa sn sc, .slice ba bn bc, .slice ka kn kc] RES.2 S w') (i := 4) (d := 103) (f := 12) (args := #[.pointer (some ⟨p, 0, none⟩), .string ⟨xb.toArray⟩]) (v := .int .i64 RES.1) (fuel := 3) rfl rfl (by kernel_rfl) (by kernel_rfl) (fun _ => by kernel_rfl) (H1.out _ hCUR) (fun w' h => ⟨h.box, h.bel⟩) (fun wz hR4 => ?_)
    simp only [List.setIfInBounds_toArray, List.set_cons_succ, List.set_cons_zero]
    refine oneW (R := fun w' => TW w0 bx p r g #[.int .i64 6, .int .i64 xi, .int .i64 xn, .int .i64 ek, .int .i64 ei, .int .i64 et, .slice sa sn sc, .slice ba bn bc, .slice ka kn kc] RES.2 RES.2 w') (i := 9) (d := 108) (f := 28) (args := #[.pointer (some ⟨r, 0, none⟩), .string ⟨xb.toArray⟩]) (v := .int .i64 RES.1) (fuel := 2) rfl rfl (by kernel_rfl) (by kernel_rfl) (fun _ => by kernel_rfl) (H2.out _ hR4) (fun w' h => ⟨h.box, h.bel⟩) (fun wz hR9 => ?_)
    simp only [List.setIfInBounds_toArray, List.set_cons_succ, List.set_cons_zero]
    refine takeD (i := 10) (d := 109) (v := .bool true) (fuel := 1) rfl rfl (by kernel_rfl) (by kernel_rfl) (by kernel_rfl) (fun _ _ _ h => by cases h.1) (.inl ⟨by kernel_rfl, fun _ _ => by go_simp⟩) (⟨hR9.box, hR9.bel⟩) ?_
    simp only [List.setIfInBounds_toArray, List.set_cons_succ, List.set_cons_zero]
    refine takeD (i := 11) (d := 6) (v := .bool true) (fuel := 0) rfl rfl (by kernel_rfl) (by kernel_rfl) (by kernel_rfl) (fun _ _ _ h => by cases h.1) (.inl ⟨by kernel_rfl, fun _ _ => by kernel_rfl⟩) (⟨hR9.box, hR9.bel⟩) ?_
    simp only [List.setIfInBounds_toArray, List.set_cons_succ, List.set_cons_zero]
    refine wpAnyH_done (by kernel_rfl) ?_ _
    exact ⟨rfl, by kernel_rfl, hR9⟩
  · intro w9 hF
    simp only [setAll, List.setIfInBounds_toArray, List.set_cons_succ, List.set_cons_zero]
    have HF : Hid _ := TW.lp hF HQ2.out
    clear hF
    go_wp2_with fail
    go_ret
    exact ⟨rfl, HF.out⟩

set_option maxHeartbeats 4000000 in
theorem step_app (w0 w : World) (p r g : Nat) (S : DS) (xi xn ek ei et : Int) (sa ba ka : Option Addr) (sn sc bn bc kn kc : Nat) (xs xk : List Int) (xb : List UInt8)
    (h : LP w0 p r g S w) (hs : RI w0 (.slice sa sn sc) xs) (hb : RB w0 (.slice ba bn bc) xb) (hk : RI w0 (.slice ka kn kc) xk) (hsn : xs.length = sn) (hbn : xb.length = bn) (hkn : xk.length = kn) (hs2 : sn ≤ 200) (hb2 : bn ≤ 3000) (hk2 : kn ≤ 100) (hxn : xn ≤ 9223372036854775807) (kd : Int) (hkd1 : kd ≠ 1) (hkd2 : kd ≠ 2) (hkd3 : kd ≠ 3) (hkd4 : kd ≠ 4) (hkd5 : kd ≠ 5) (hkd6 : kd ≠ 6) (hkd7 : kd ≠ 7) :
    Calls Tryz.prog 7 #[.pointer (some ⟨p, 0, none⟩), .pointer (some ⟨r, 0, none⟩), .agg #[.int .i64 kd, .int .i64 xi, .int .i64 xn, .int .i64 ek, .int .i64 ei, .int .i64 et, .slice sa sn sc, .slice ba bn bc, .slice ka kn kc]] w fun e w' => e = .returned (.bool true) ∧ LP w0 p r g ((appP S xi ⟨ek, ei, et, xs⟩).2) w' := by
  have hq := h.q
  have hsm := hq.small
  have HTW0 : Hid _ := h.tw #[.int .i64 kd, .int .i64 xi, .int .i64 xn, .int .i64 ek, .int .i64 ei, .int .i64 et, .slice sa sn sc, .slice ba bn bc, .slice ka kn kc]
  obtain ⟨bx, HBX⟩ : ∃ z, Hid (w.heap.size = z) := ⟨_, rfl⟩
  obtain ⟨w1, HW1⟩ : ∃ z, Hid (w.alloc (.cells #[.int .i64 kd, .int .i64 xi, .int .i64 xn, .int .i64 ek, .int .i64 ei, .int .i64 et, .slice sa sn sc, .slice ba bn bc, .slice ka kn kc] 36) = z) := ⟨_, rfl⟩
  rw [HBX.out, HW1.out] at HTW0
  have hbox : w1.heap[bx]? = some (.cells #[.int .i64 kd, .int .i64 xi, .int .i64 xn, .int .i64 ek, .int .i64 ei, .int .i64 et, .slice sa sn sc, .slice ba bn bc, .slice ka kn kc] 36 (0, 0)) := HTW0.out.box
  have z0 : w1.cell? ⟨bx, 0, none⟩ = some (.int .i64 kd) := cell_row hbox 0
  have d1 : (kd == 1) = false := by simpa using hkd1
  have d2 : (kd == 2) = false := by simpa using hkd2
  have d3 : (kd == 3) = false := by simpa using hkd3
  have d4 : (kd == 4) = false := by simpa using hkd4
  have d5 : (kd == 5) = false := by simpa using hkd5
  have d6 : (kd == 6) = false := by simpa using hkd6
  have d7 : (kd == 7) = false := by simpa using hkd7
  have hq2 : QD (appP S xi ⟨ek, ei, et, xs⟩).2 := hq.app xi _
  have H1 : Hid (∀ wx, TW w0 bx p r g #[.int .i64 kd, .int .i64 xi, .int .i64 xn, .int .i64 ek, .int .i64 ei, .int .i64 et, .slice sa sn sc, .slice ba bn bc, .slice ka kn kc] S S wx → Calls Tryz.prog 9 #[.pointer (some ⟨p, 0, none⟩), .int .i64 xi, .agg #[.int .i64 ek, .int .i64 ei, .int .i64 et, .slice sa sn sc]] wx fun e w' => e = .returned (.int .i64 (appP S xi ⟨ek, ei, et, xs⟩).1) ∧ TW w0 bx p r g #[.int .i64 kd, .int .i64 xi, .int .i64 xn, .int .i64 ek, .int .i64 ei, .int .i64 et, .slice sa sn sc, .slice ba bn bc, .slice ka kn kc] (appP S xi ⟨ek, ei, et, xs⟩).2 S w') := fun wx ht => by
    obtain ⟨T, t1, t2⟩ := ht.dk
    subst hsn
    refine Calls.mono (append_br T wx p S xi ⟨ek, ei, et, xs⟩ sa sc t1 hq.2.1 (Dk.small_mono hsm (by omega) (by omega)) (hs.later ht.bel) (by show xs.length ≤ 1000000; omega)) ?_
    rintro e w' hw
    exact TW.wr ht t2 hw
  have H2 : Hid (∀ wx, TW w0 bx p r g #[.int .i64 kd, .int .i64 xi, .int .i64 xn, .int .i64 ek, .int .i64 ei, .int .i64 et, .slice sa sn sc, .slice ba bn bc, .slice ka kn kc] (appP S xi ⟨ek, ei, et, xs⟩).2 S wx → Calls Tryz.prog 29 #[.pointer (some ⟨r, 0, none⟩), .int .i64 xi, .agg #[.int .i64 ek, .int .i64 ei, .int .i64 et, .slice sa sn sc]] wx fun e w' => e = .returned (.int .i64 (appP S xi ⟨ek, ei, et, xs⟩).1) ∧ TW w0 bx p r g #[.int .i64 kd, .int .i64 xi, .int .i64 xn, .int .i64 ek, .int .i64 ei, .int .i64 et, .slice sa sn sc, .slice ba bn bc, .slice ka kn kc] (appP S xi ⟨ek, ei, et, xs⟩).2 (appP S xi ⟨ek, ei, et, xs⟩).2 w') := fun wx ht => by
    subst hsn
    refine Calls.mono (rappend_br r g S xi ⟨ek, ei, et, xs⟩ sa sc wx ht.rv hq.2.1 (Dk.small_mono hsm (by omega) (by omega)) (hs.later ht.bel) (by show xs.length ≤ 1000000; omega)) ?_
    rintro e w' hw
    exact ⟨hw.1, ht.rr hw.2.1 hw.2.2⟩
  have HRB : Hid (∀ wx, Below w0.heap.size w0 wx → RB wx (.slice ba bn bc) xb) := fun wx hx => hb.later hx
  generalize appP S xi ⟨ek, ei, et, xs⟩ = RES at *
  have HQ2 : Hid _ := hq2
  have HBEL : Hid (Below w0.heap.size w0 w1) := HTW0.out.bel
  have HT1 : Hid _ := TW.later HTW0.out (Below.refl _ _).drew
  clear hs hb hk h hq hsm hq2 hsn hbn hkn
  go_enter Tryz.func7, Tryz.ntmps7
  go_wp2_with fail
  rw [HW1.out, HBX.out]
  have hCUR := HT1.out
  have hS0 : w1.drew.heap[bx]? = some (.cells #[.int .i64 kd, .int .i64 xi, .int .i64 xn, .int .i64 ek, .int .i64 ei, .int .i64 et, .slice sa sn sc, .slice ba bn bc, .slice ka kn kc] 36 (0, 0)) ∧ Below w0.heap.size w0 w1.drew := ⟨HT1.out.box, HT1.out.bel⟩
  refine region_thenF [(110, .pointer (some ⟨p, 0, none⟩)), (111, .pointer (some ⟨bx, 1, none⟩)), (112, .int .i64 xi), (113, .pointer (some ⟨bx, 3, none⟩)), (114, .agg #[.int .i64 ek, .int .i64 ei, .int .i64 et, .slice sa sn sc]), (115, .int .i64 RES.1), (116, .pointer (some ⟨r, 0, none⟩)), (117, .pointer (some ⟨bx, 1, none⟩)), (118, .int .i64 xi), (119, .pointer (some ⟨bx, 3, none⟩)), (120, .agg #[.int .i64 ek, .int .i64 ei, .int .i64 et, .slice sa sn sc]), (121, .int .i64 RES.1), (122, .bool true), (6, .bool true)] (fun w' => TW w0 bx p r g #[.int .i64 kd, .int .i64 xi, .int .i64 xn, .int .i64 ek, .int .i64 ei, .int .i64 et, .slice sa sn sc, .slice ba bn bc, .slice ka kn kc] RES.2 RES.2 w') ?_ ?_
  · refine wp_region_held (S := fun w' => w'.heap[bx]? = some (.cells #[.int .i64 kd, .int .i64 xi, .int .i64 xn, .int .i64 ek, .int .i64 ei, .int .i64 et, .slice sa sn sc, .slice ba bn bc, .slice ka kn kc] 36 (0, 0)) ∧ Below w0.heap.size w0 w') (by kernel_rfl) ?_
    simp only [List.size_toArray, List.length_cons, List.length_nil, Nat.reduceAdd, Array.replicate_succ, Array.replicate_zero, List.push_toArray, List.nil_append, List.cons_append]
    refine takeD (i := 0) (d := 110) (v := .pointer (some ⟨p, 0, none⟩)) (fuel := 13) rfl rfl (by kernel_rfl) (by kernel_rfl) (by kernel_rfl) (fun _ _ _ h => by cases h.1) (.inl ⟨by kernel_rfl, fun _ _ => by kernel_rfl⟩) hS0 ?_
    simp only [List.setIfInBounds_toArray, List.set_cons_succ, List.set_cons_zero]
    refine takeD (i := 1) (d := 111) (v := .pointer (some ⟨bx, 1, none⟩)) (fuel := 12) rfl rfl (by kernel_rfl) (by kernel_rfl) (by kernel_rfl) (fun _ _ _ h => by cases h.1) (.inl ⟨by kernel_rfl, fun _ _ => by go_simp⟩) hS0 ?_
    simp only [List.setIfInBounds_toArray, List.set_cons_succ, List.set_cons_zero]
    refine takeD (i := 2) (d := 112) (v := .int .i64 xi) (fuel := 11) rfl rfl (by kernel_rfl) (by kernel_rfl) (by kernel_rfl) (fun _ _ _ h => by cases h.1) (.inl ⟨by kernel_rfl, fun wx h => by have z9 : wx.cell? ⟨bx, 1, none⟩ = some (.int .i64 xi) := cell_row h.1 1; go_simp⟩) hS0 ?_
    simp only [List.setIfInBounds_toArray, List.set_cons_succ, List.set_cons_zero]
    refine takeD (i := 3) (d := 113) (v := .pointer (some ⟨bx, 3, none⟩)) (fuel := 10) rfl rfl (by kernel_rfl) (by kernel_rfl) (by kernel_rfl) (fun _ _ _ h => by cases h.1) (.inl ⟨by kernel_rfl, fun _ _ => by go_simp⟩) hS0 ?_
    simp only [List.setIfInBounds_toArray, List.set_cons_succ, List.set_cons_zero]
    refine takeD (i := 4) (d := 114) (v := .agg #[.int .i64 ek, .int .i64 ei, .int .i64 et, .slice sa sn sc]) (fuel := 9) rfl rfl (by kernel_rfl) (by kernel_rfl) (by kernel_rfl) (fun _ _ _ h => by cases h.1) (.inl ⟨by kernel_rfl, fun wx h => by have z3 : wx.cell? ⟨bx, 3, none⟩ = some (.int .i64 ek) := cell_row h.1 3; have z4 : wx.cell? ⟨bx, 4, none⟩ = some (.int .i64 ei) := cell_row h.1 4; have z5 : wx.cell? ⟨bx, 5, none⟩ = some (.int .i64 et) := cell_row h.1 5; have z6 : wx.cell? ⟨bx, 6, none⟩ = some (.slice sa sn sc) := cell_row h.1 6; go_simp⟩) hS0 ?_
    simp only [List.setIfInBounds_toArray, List.set_cons_succ, List.set_cons_zero]
    refine takeD (i := 6) (d := 116) (v := .pointer (some ⟨r, 0, none⟩)) (fuel := 8) rfl rfl (by kernel_rfl) (by kernel_rfl) (by kernel_rfl) (fun _ _ _ h => by cases h.1) (.inl ⟨by kernel_rfl, fun _ _ => by kernel_rfl⟩) hS0 ?_
    simp only [List.setIfInBounds_toArray, List.set_cons_succ, List.set_cons_zero]
    refine takeD (i := 7) (d := 117) (v := .pointer (some ⟨bx, 1, none⟩)) (fuel := 7) rfl rfl (by kernel_rfl) (by kernel_rfl) (by kernel_rfl) (fun _ _ _ h => by cases h.1) (.inl ⟨by kernel_rfl, fun _ _ => by go_simp⟩) hS0 ?_
    simp only [List.setIfInBounds_toArray, List.set_cons_succ, List.set_cons_zero]
    refine takeD (i := 8) (d := 118) (v := .int .i64 xi) (fuel := 6) rfl rfl (by kernel_rfl) (by kernel_rfl) (by kernel_rfl) (fun _ _ _ h => by cases h.1) (.inl ⟨by kernel_rfl, fun wx h => by have z9 : wx.cell? ⟨bx, 1, none⟩ = some (.int .i64 xi) := cell_row h.1 1; go_simp⟩) hS0 ?_
    simp only [List.setIfInBounds_toArray, List.set_cons_succ, List.set_cons_zero]
    refine takeD (i := 9) (d := 119) (v := .pointer (some ⟨bx, 3, none⟩)) (fuel := 5) rfl rfl (by kernel_rfl) (by kernel_rfl) (by kernel_rfl) (fun _ _ _ h => by cases h.1) (.inl ⟨by kernel_rfl, fun _ _ => by go_simp⟩) hS0 ?_
    simp only [List.setIfInBounds_toArray, List.set_cons_succ, List.set_cons_zero]
    refine takeD (i := 10) (d := 120) (v := .agg #[.int .i64 ek, .int .i64 ei, .int .i64 et, .slice sa sn sc]) (fuel := 4) rfl rfl (by kernel_rfl) (by kernel_rfl) (by kernel_rfl) (fun _ _ _ h => by cases h.1) (.inl ⟨by kernel_rfl, fun wx h => by have z3 : wx.cell? ⟨bx, 3, none⟩ = some (.int .i64 ek) := cell_row h.1 3; have z4 : wx.cell? ⟨bx, 4, none⟩ = some (.int .i64 ei) := cell_row h.1 4; have z5 : wx.cell? ⟨bx, 5, none⟩ = some (.int .i64 et) := cell_row h.1 5; have z6 : wx.cell? ⟨bx, 6, none⟩ = some (.slice sa sn sc) := cell_row h.1 6; go_simp⟩) hS0 ?_
    simp only [List.setIfInBounds_toArray, List.set_cons_succ, List.set_cons_zero]
    refine oneW (R := fun w' => TW w0 bx p r g #[.int .i64 kd, .int .i64 xi, .int .i64 xn, .int .i64 ek, .int .i64 ei, .int .i64 et, .slice sa sn sc, .slice ba bn bc, .slice ka kn kc] RES.2 S w') (i := 5) (d := 115) (f := 9) (args := #[.pointer (some ⟨p, 0, none⟩), .int .i64 xi, .agg #[.int .i64 ek, .int .i64 ei, .int .i64 et, .slice sa sn sc]]) (v := .int .i64 RES.1) (fuel := 3) rfl rfl (by kernel_rfl) (by kernel_rfl) (fun _ => by kernel_rfl) (H1.out _ hCUR) (fun w' h => ⟨h.box, h.bel⟩) (fun wz hR5 => ?_)
    simp only [List.setIfInBounds_toArray, List.set_cons_succ, List.set_cons_zero]
    refine oneW (R := fun w' => TW w0 bx p r g #[.int .i64 kd, .int .i64 xi, .int .i64 xn, .int .i64 ek, .int .i64 ei, .int .i64 et, .slice sa sn sc, .slice ba bn bc, .slice ka kn kc] RES.2 RES.2 w') (i := 11) (d := 121) (f := 29) (args := #[.pointer (some ⟨r, 0, none⟩), .int .i64 xi, .agg #[.int .i64 ek, .int .i64 ei, .int .i64 et, .slice sa sn sc]]) (v := .int .i64 RES.1) (fuel := 2) rfl rfl (by kernel_rfl) (by kernel_rfl) (fun _ => by kernel_rfl) (H2.out _ hR5) (fun w' h => ⟨h.box, h.bel⟩) (fun wz hR11 => ?_)
    simp only [List.setIfInBounds_toArray, List.set_cons_succ, List.set_cons_zero]
    refine takeD (i := 12) (d := 122) (v := .bool true) (fuel := 1) rfl rfl (by kernel_rfl) (by kernel_rfl) (by kernel_rfl) (fun _ _ _ h => by cases h.1) (.inl ⟨by kernel_rfl, fun _ _ => by go_simp⟩) (⟨hR11.box, hR11.bel⟩) ?_
    simp only [List.setIfInBounds_toArray, List.set_cons_succ, List.set_cons_zero]
    refine takeD (i := 13) (d := 6) (v := .bool true) (fuel := 0) rfl rfl (by kernel_rfl) (by kernel_rfl) (by kernel_rfl) (fun _ _ _ h => by cases h.1) (.inl ⟨by kernel_rfl, fun _ _ => by kernel_rfl⟩) (⟨hR11.box, hR11.bel⟩) ?_
    simp only [List.setIfInBounds_toArray, List.set_cons_succ, List.set_cons_zero]
    refine wpAnyH_done (by kernel_rfl) ?_ _
    exact ⟨rfl, by kernel_rfl, hR11⟩
  · intro w9 hF
    simp only [setAll, List.setIfInBounds_toArray, List.set_cons_succ, List.set_cons_zero]
    have HF : Hid _ := TW.lp hF HQ2.out
    clear hF
    go_wp2_with fail
    go_ret
    exact ⟨rfl, HF.out⟩

set_option maxHeartbeats 4000000 in
theorem step_crash (w0 w : World) (p r g : Nat) (S : DS) (xi xn ek ei et : Int) (sa ba ka : Option Addr) (sn sc bn bc kn kc : Nat) (xs xk : List Int) (xb : List UInt8)
    (h : LP w0 p r g S w) (hs : RI w0 (.slice sa sn sc) xs) (hb : RB w0 (.slice ba bn bc) xb) (hk : RI w0 (.slice ka kn kc) xk) (hsn : xs.length = sn) (hbn : xb.length = bn) (hkn : xk.length = kn) (hs2 : sn ≤ 200) (hb2 : bn ≤ 3000) (hk2 : kn ≤ 100) (hxn : xn ≤ 9223372036854775807) :
    Calls Tryz.prog 7 #[.pointer (some ⟨p, 0, none⟩), .pointer (some ⟨r, 0, none⟩), .agg #[.int .i64 2, .int .i64 xi, .int .i64 xn, .int .i64 ek, .int .i64 ei, .int .i64 et, .slice sa sn sc, .slice ba bn bc, .slice ka kn kc]] w fun e w' => e = .returned (.bool true) ∧ LP w0 p r g (Dk.crashP S xk) w' := by
  have hq := h.q
  have hsm := hq.small
  have HTW0 : Hid _ := h.tw #[.int .i64 2, .int .i64 xi, .int .i64 xn, .int .i64 ek, .int .i64 ei, .int .i64 et, .slice sa sn sc, .slice ba bn bc, .slice ka kn kc]
  obtain ⟨bx, HBX⟩ : ∃ z, Hid (w.heap.size = z) := ⟨_, rfl⟩
  obtain ⟨w1, HW1⟩ : ∃ z, Hid (w.alloc (.cells #[.int .i64 2, .int .i64 xi, .int .i64 xn, .int .i64 ek, .int .i64 ei, .int .i64 et, .slice sa sn sc, .slice ba bn bc, .slice ka kn kc] 36) = z) := ⟨_, rfl⟩
  rw [HBX.out, HW1.out] at HTW0
  have hbox : w1.heap[bx]? = some (.cells #[.int .i64 2, .int .i64 xi, .int .i64 xn, .int .i64 ek, .int .i64 ei, .int .i64 et, .slice sa sn sc, .slice ba bn bc, .slice ka kn kc] 36 (0, 0)) := HTW0.out.box
  have z0 : w1.cell? ⟨bx, 0, none⟩ = some (.int .i64 2) := cell_row hbox 0
  have hq2 : QD (Dk.crashP S xk) := hq.crash xk
  have H1 : Hid (∀ wx, TW w0 bx p r g #[.int .i64 2, .int .i64 xi, .int .i64 xn, .int .i64 ek, .int .i64 ei, .int .i64 et, .slice sa sn sc, .slice ba bn bc, .slice ka kn kc] S S wx → Calls Tryz.prog 18 #[.pointer (some ⟨r, 0, none⟩), .slice ka kn kc] wx fun e w' => e = .returned (.tuple #[]) ∧ TW w0 bx p r g #[.int .i64 2, .int .i64 xi, .int .i64 xn, .int .i64 ek, .int .i64 ei, .int .i64 et, .slice sa sn sc, .slice ba bn bc, .slice ka kn kc] S (Dk.crashP S xk) w') := fun wx ht => by
    refine Calls.mono (Dk.rcrash_any (.slice ka kn kc) xk ht.rv hq.2.1 (Dk.small_mono hsm (by omega) (by omega)) (hk.later ht.bel) (fun h0 a n c he => by cases he; have h8 := low_ri hk h0 _ rfl; have h7 := ht.hr; have h6 := ht.hg; exact ⟨by omega, by omega⟩) (by omega)) ?_
    rintro e w' ⟨q1, q2, q3⟩
    exact ⟨q1, ht.rr q2 q3⟩
  have H2 : Hid (∀ wx, TW w0 bx p r g #[.int .i64 2, .int .i64 xi, .int .i64 xn, .int .i64 ek, .int .i64 ei, .int .i64 et, .slice sa sn sc, .slice ba bn bc, .slice ka kn kc] S (Dk.crashP S xk) wx → Calls Tryz.prog 19 #[.pointer (some ⟨p, 0, none⟩), .slice ka kn kc] wx fun e w' => e = .returned (.int .i64 0) ∧ TW w0 bx p r g #[.int .i64 2, .int .i64 xi, .int .i64 xn, .int .i64 ek, .int .i64 ei, .int .i64 et, .slice sa sn sc, .slice ba bn bc, .slice ka kn kc] (Dk.crashP S xk) (Dk.crashP S xk) w') := fun wx ht => by
    obtain ⟨T, t1, t2⟩ := ht.dk
    refine Calls.mono (Dk.crash_any T wx p S (.slice ka kn kc) xk t1 hq.2.1 (Dk.small_mono hsm (by omega) (by omega)) (hk.later ht.bel) (fun h0 a n c he ht2 => by cases he; have h8 := low_ri hk h0 _ rfl; have h9 := (t2 _ ht2).1; omega) (by omega)) ?_
    rintro e w' hw
    exact TW.wr ht t2 hw
  have HQ2 : Hid _ := hq2
  have z8 : w1.cell? ⟨bx, 8, none⟩ = some (.slice ka kn kc) := cell_row hbox 8
  clear hs hb hk h hq hsm hq2 hsn hbn hkn
  generalize Dk.crashP S xk = Z at *
  go_enter Tryz.func7, Tryz.ntmps7
  go_wp2_with fail
  rw [HW1.out, HBX.out]
  refine Calls.mono (H1.out _ HTW0.out) ?_
  rintro e w2 ⟨rfl, ht2⟩
  have HT2 : Hid _ := ht2
  have hb2' := ht2.box
  have y8 : w2.cell? ⟨bx, 8, none⟩ = some (.slice ka kn kc) := cell_row hb2' 8
  clear ht2 hb2' z0 z8 hbox
  go_wp2_with fail
  refine Calls.mono (H2.out _ HT2.out) ?_
  rintro e w3 ⟨rfl, ht3⟩
  have HT3 : Hid _ := ht3
  clear ht3
  go_wp2_with fail
  go_ret
  exact ⟨rfl, HT3.out.lp HQ2.out⟩

/-- Rows of events that lie from a place on stay where nothing from there on is turned. -/
theorem Rws.stay {g : Nat} {W W' : World} {T : Nat → Prop} {m : Nat} {R : List (List Ev)} (h : Rws g W T m R) (hk : ∀ b, g ≤ b → b < W.heap.size → W'.heap[b]? = W.heap[b]?) (hs : W.heap.size ≤ W'.heap.size) : Rws g W' T m R := by
  obtain ⟨cs, h1, h2, h3, h4⟩ := h
  refine ⟨cs, h1, (hk g (Nat.le_refl _) (Array.getElem?_eq_some_iff.1 h2).1).trans h2, h3, fun i L hL => ?_⟩
  obtain ⟨sv, s1, s2⟩ := h4 i L hL
  exact ⟨sv, s1, s2.kept (fun b b1 b2 _ => hk b (by omega) b2) (fun _ _ h => h) hs⟩

theorem RRT.stay {T : Nat → Prop} {W W' : World} {a : Option Addr} {n c N : Nat} {R : List (List Ev)} (h : RRT T W (.slice a n c) R) (ha : ∀ b, a = some b → N ≤ b.block) (hk : ∀ b, N ≤ b → b < W.heap.size → W'.heap[b]? = W.heap[b]?) (hs : W.heap.size ≤ W'.heap.size) : RRE W' (.slice a n c) R := by
  rcases h with ⟨e, rfl⟩ | ⟨g, e, h6, h⟩
  · cases e
    exact ⟨none, 0, rfl, by simp, by unfold maxLen; omega, fun i L h => by simp at h⟩
  · cases e
    have hg : N ≤ g := ha ⟨g, 0, none⟩ rfl
    exact (h.stay (fun b b1 b2 => hk b (by omega) b2) hs).rre rfl h6

set_option maxHeartbeats 4000000 in
theorem step_open (w0 w : World) (p r g : Nat) (S : DS) (xi xn ek ei et : Int) (sa ba ka : Option Addr) (sn sc bn bc kn kc : Nat) (xs xk : List Int) (xb : List UInt8)
    (h : LP w0 p r g S w) (hs : RI w0 (.slice sa sn sc) xs) (hb : RB w0 (.slice ba bn bc) xb) (hk : RI w0 (.slice ka kn kc) xk) (hsn : xs.length = sn) (hbn : xb.length = bn) (hkn : xk.length = kn) (hs2 : sn ≤ 200) (hb2 : bn ≤ 3000) (hk2 : kn ≤ 100) (hxn : xn ≤ 9223372036854775807) :
    Calls Tryz.prog 7 #[.pointer (some ⟨p, 0, none⟩), .pointer (some ⟨r, 0, none⟩), .agg #[.int .i64 1, .int .i64 xi, .int .i64 xn, .int .i64 ek, .int .i64 ei, .int .i64 et, .slice sa sn sc, .slice ba bn bc, .slice ka kn kc]] w fun e w' => e = .returned (.bool true) ∧ LP w0 p r g ((openP 3 S).2.2) w' := by
  have hq := h.q
  have hsm := hq.small
  have HTW0 : Hid _ := h.tw #[.int .i64 1, .int .i64 xi, .int .i64 xn, .int .i64 ek, .int .i64 ei, .int .i64 et, .slice sa sn sc, .slice ba bn bc, .slice ka kn kc]
  obtain ⟨bx, HBX⟩ : ∃ z, Hid (w.heap.size = z) := ⟨_, rfl⟩
  obtain ⟨w1, HW1⟩ : ∃ z, Hid (w.alloc (.cells #[.int .i64 1, .int .i64 xi, .int .i64 xn, .int .i64 ek, .int .i64 ei, .int .i64 et, .slice sa sn sc, .slice ba bn bc, .slice ka kn kc] 36) = z) := ⟨_, rfl⟩
  rw [HBX.out, HW1.out] at HTW0
  have hbox : w1.heap[bx]? = some (.cells #[.int .i64 1, .int .i64 xi, .int .i64 xn, .int .i64 ek, .int .i64 ei, .int .i64 et, .slice sa sn sc, .slice ba bn bc, .slice ka kn kc] 36 (0, 0)) := HTW0.out.box
  have z0 : w1.cell? ⟨bx, 0, none⟩ = some (.int .i64 1) := cell_row hbox 0
  have hq2 : QD (openP 3 S).2.2 := open_qd hq
  have hfw : FewR (openP 3 S).1 := open_few hq
  have hQ : ∀ S, QD S → Okay S ∧ Small 100000 10000000000 S ∧ S.n = 3 := fun S h => ⟨h.2.1, Dk.small_mono h.small (by omega) (by omega), h.1⟩
  obtain ⟨T, t1, t2⟩ := HTW0.out.dk
  have H1 : Hid _ := open_any 3 QD hQ (fun S i m _ h => h.trim _ _) T w1 p S t1 hq
  have H2 : Hid (∀ wx, RV wx r g S → Calls Tryz.prog 16 #[.pointer (some ⟨r, 0, none⟩)] wx (OdE QD wx r g (openP 3 S))) := fun wx hx => ropen_any 3 QD hQ (fun S i m _ h => h.trim _ _) r g S wx hx hq
  have HQ2 : Hid _ := hq2
  have HFW : Hid _ := hfw
  have HT2 : Hid _ := t2
  clear hs hb hk h hq hsm hq2 hsn hbn hkn t1 t2 hfw hQ
  generalize openP 3 S = RES at *
  obtain ⟨R, er, Z⟩ := RES
  simp only at H1 H2 HQ2 HFW ⊢
  go_enter Tryz.func7, Tryz.ntmps7
  go_wp2_with fail
  rw [HW1.out, HBX.out]
  refine Calls.mono H1.out ?_
  rintro e w2 ⟨a, c, rfl, hab, ⟨T', d1, d2, d3⟩, _, d4⟩
  have HTW2 : Hid _ := TW.prog HTW0.out HT2.out d1 d3 d4
  have HAB : Hid _ := hab
  have HD2 : Hid _ := d2
  have hsz2 := d4.size
  have HS2 : Hid (w1.heap.size ≤ w2.heap.size) := d4.size
  have K2 : Hid _ := H2.out w2 HTW2.out.rv
  clear hab d1 d2 d3 d4 H1 H2 z0 hbox hsz2
  simp only
  go_wp2_with fail
  refine Calls.mono K2.out ?_
  rintro e w3 ⟨a3, c3, rfl, e2, e3, _, e4⟩
  have HT3 : Hid _ := TW.rr HTW2.out e3 e4
  have HR1 : Hid (RRE w3 (.slice a R.length c) R) := RRT.stay HD2.out HAB.out (fun b b1 b2 => by
    refine e4.block b b2 (fun t => ?_)
    have hl := HTW0.out.rv.rlt
    omega) e4.size
  have K3 : Hid (Calls Tryz.prog 17 #[.slice a R.length c, .slice a3 R.length c3] w3 fun e w' => e = .returned (.bool true) ∧ Below w3.heap.size w3 w') := by
    have := sameRows_any R R _ _ w3 HR1.out e2 HFW.out HFW.out
    rw [decide_eq_true rfl] at this
    exact this
  clear e2 e3 e4 K2 HD2 HAB
  simp only
  go_wp2_with fail
  refine Calls.mono K3.out ?_
  rintro e w4 ⟨rfl, hb4⟩
  have HT4 : Hid _ := TW.later HT3.out hb4
  clear hb4 K3
  go_wp2_with fail
  go_ret
  exact ⟨rfl, HT4.out.lp HQ2.out⟩

/-- A call, whatever it is. -/
theorem step_any (w0 w : World) (p r g : Nat) (S : DS) (x : Ac) (sv bv kv : Value) (h : LP w0 p r g S w) (hs : RI w0 sv x.e.s) (hb : RB w0 bv x.b) (hk : RI w0 kv x.keep) (ho : okA x = true) (hn : x.n ≤ 9223372036854775807) :
    Calls Tryz.prog 7 #[.pointer (some ⟨p, 0, none⟩), .pointer (some ⟨r, 0, none⟩), .agg (acV x sv bv kv)] w fun e w' => e = .returned (.bool true) ∧ LP w0 p r g (stepP S x) w' := by
  obtain ⟨kd, xi, xn, ⟨ek, ei, et, xs⟩, xb, xk⟩ := x
  unfold okA at ho
  simp only [Bool.and_eq_true, decide_eq_true_eq] at ho hs hb hk hn
  obtain ⟨⟨o1, o2⟩, o3⟩ := ho
  have hs0 := hs
  have hb0 := hb
  have hk0 := hk
  obtain ⟨sa, sc, rfl, _⟩ := hs
  obtain ⟨ba, bc, rfl, _⟩ := hb
  obtain ⟨ka, kc, rfl, _⟩ := hk
  unfold acV stepP
  simp only
  by_cases k1 : kd = 1
  · subst k1
    exact step_open w0 w p r g S xi xn ek ei et sa ba ka _ sc _ bc _ kc xs xk xb h hs0 hb0 hk0 rfl rfl rfl o2 o1 o3 hn
  rw [if_neg k1]
  by_cases k2 : kd = 2
  · subst k2
    exact step_crash w0 w p r g S xi xn ek ei et sa ba ka _ sc _ bc _ kc xs xk xb h hs0 hb0 hk0 rfl rfl rfl o2 o1 o3 hn
  rw [if_neg k2]
  by_cases k3 : kd = 3
  · subst k3
    exact step_sync w0 w p r g S xi xn ek ei et sa ba ka _ sc _ bc _ kc xs xk xb h hs0 hb0 hk0 rfl rfl rfl o2 o1 o3 hn
  rw [if_neg k3]
  by_cases k4 : kd = 4
  · subst k4
    exact step_arm w0 w p r g S xi xn ek ei et sa ba ka _ sc _ bc _ kc xs xk xb h hs0 hb0 hk0 rfl rfl rfl o2 o1 o3 hn
  rw [if_neg k4]
  by_cases k5 : kd = 5
  · subst k5
    exact step_put w0 w p r g S xi xn ek ei et sa ba ka _ sc _ bc _ kc xs xk xb h hs0 hb0 hk0 rfl rfl rfl o2 o1 o3 hn
  rw [if_neg k5]
  by_cases k7 : kd = 7
  · subst k7
    exact step_keep w0 w p r g S xi xn ek ei et sa ba ka _ sc _ bc _ kc xs xk xb h hs0 hb0 hk0 rfl rfl rfl o2 o1 o3 hn
  rw [if_neg k7]
  by_cases k6 : kd = 6
  · subst k6
    exact step_begin w0 w p r g S xi xn ek ei et sa ba ka _ sc _ bc _ kc xs xk xb h hs0 hb0 hk0 rfl rfl rfl o2 o1 o3 hn
  rw [if_neg k6]
  exact step_app w0 w p r g S xi xn ek ei et sa ba ka _ sc _ bc _ kc xs xk xb h hs0 hb0 hk0 rfl rfl rfl o2 o1 o3 hn kd k1 k2 k3 k4 k5 k6 k7
end Go.Proofs.YtijkgdbabikojaaGreat

