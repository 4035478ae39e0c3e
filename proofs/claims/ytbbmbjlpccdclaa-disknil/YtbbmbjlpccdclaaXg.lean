/- The walks over the laws' step: Crash, Append. -/
import Derived.Test.YtbbmbjlpccdclaaXf
namespace Go.Proofs.Ytbbmbjlpccdclaa
open Go.RowKit
set_option linter.unusedVariables false

theorem RB.kept0 {w w' : World} {T : Nat → Prop} {v : Value} {l : List UInt8} (h : RB w v l) (hk : Kp T w w') (hv : 0 < l.length → ∀ a n c, v = .slice (some a) n c → ¬ T a.block) : RB w' v l := by
  obtain ⟨a, cap, rfl, h1, h2, h3, hc⟩ := h
  refine ⟨a, cap, rfl, h1, h2, h3, fun i hi => ?_⟩
  obtain ⟨b, off, rfl, hcell⟩ := hc i hi
  exact ⟨b, off, rfl, hk.cell hcell (show ¬ T b from hv (by omega) ⟨b, off, none⟩ _ _ rfl)⟩

set_option maxRecDepth 1000000 in
set_option maxHeartbeats 2000000 in
theorem step_crash (T : Nat → Prop) (w : World) (p r g : Nat) (S : DS) (i n : Int) (bv kv : Value) (keep : List Int) (hd : DK T w p S) (hr : RV w r g S) (ho : Okay S) (hs : Small 10000000 900000000000 S) (hnr : ¬ T r) (hng : ¬ T g) (ha : bv.oneCell' = true) (hri : RI w kv keep) (hkT : 0 < keep.length → ∀ a n c, kv = .slice (some a) n c → ¬ T a.block ∧ a.block ≠ r ∧ a.block ≠ g) (hl : keep.length ≤ 1000000) :
    Calls Try.prog 12 #[.pointer (some ⟨p, 0, none⟩), .pointer (some ⟨r, 0, none⟩), .agg #[.int .i64 4, .int .i64 i, .int .i64 n, bv, kv]] w (StepC T w p r g (crashP S keep)) := by
  have hb0 : Below w.heap.size w (w.alloc (.cells #[.int .i64 4, .int .i64 i, .int .i64 n, bv, kv] 36)) := (Below.refl _ _).alloc (Nat.le_refl _) _
  have hT := hd.live
  have hrl := hr.rlt
  have hh := box5 w (.int .i64 4) (.int .i64 i) (.int .i64 n) bv kv
  have HC1 : Hid _ := rcrash_any kv keep (hr.later hb0) ho hs (hri.later hb0) (fun h0 a n c he => (hkT h0 a n c he).2) hl
  have HC2 : Hid (∀ w2, Kp (fun k => k = r ∨ k = g) (w.alloc (.cells #[.int .i64 4, .int .i64 i, .int .i64 n, bv, kv] 36)) w2 → Calls Try.prog 17 #[.pointer (some ⟨p, 0, none⟩), kv] w2 (WR T w2 p (0, crashP S keep))) := fun w2 hk2 =>
    crash_any T w2 p S kv keep ((hd.later hb0).kept hk2 (fun k hk he => by rcases he with he | he; exact hnr (he ▸ hk); exact hng (he ▸ hk))) ho hs ((hri.later hb0).kept hk2 (fun h0 a n c he hT => by rcases hT with h1 | h1; exact (hkT h0 a n c he).2.1 h1; exact (hkT h0 a n c he).2.2 h1)) (fun h0 a n c he => (hkT h0 a n c he).1) hl
  have HCell : Hid (∀ w2, Kp (fun k => k = r ∨ k = g) (w.alloc (.cells #[.int .i64 4, .int .i64 i, .int .i64 n, bv, kv] 36)) w2 → w2.cell? ⟨w.heap.size, 4, none⟩ = some kv) := fun w2 hk2 =>
    hk2.cell (cell_of_row _ _ _ _ 36 (0, 0) hh) (fun he => by have h1 : w.heap.size = r ∨ w.heap.size = g := he; omega)
  obtain ⟨ka, kc, rfl, _, _, _⟩ := hri
  obtain ⟨S2, HS2⟩ : ∃ S2, Hid (S2 = crashP S keep) := ⟨_, rfl⟩
  rw [← HS2.out] at HC1 HC2 ⊢
  have HFin : Hid (∀ w2 w3, RV w2 r g S2 → Kp (fun k => k = r ∨ k = g) (w.alloc (.cells #[.int .i64 4, .int .i64 i, .int .i64 n, bv, .slice ka keep.length kc] 36)) w2 → DK (Wid T w2 w3) w3 p S2 → Kp T w2 w3 → StepC T w p r g S2 (.returned (.bool true)) w3) := fun w2 w3 h1 h2 h3 h4 => by
    have hz := hb0.size
    have hz2 := h2.size
    have hz4 := h4.size
    refine ⟨rfl, ?_, h1.kept h4 hnr hng, ?_⟩
    · refine h3.wide (fun k hk => ?_) (fun k hk => ?_)
      · rcases hk with hk | hk
        · exact .inl hk
        · exact .inr ⟨by omega, hk.2⟩
      · rcases hk with hk | hk
        · have := hT k hk; omega
        · exact hk.2
    · exact ((Kp.of_below _ hb0).trans (h2.mono (fun k hk => (.inr hk : T k ∨ k = r ∨ k = g))) (fun x hx _ => hx)).trans (h4.mono (fun k hk => (.inl hk : T k ∨ k = r ∨ k = g))) (fun x hx _ => hx)
  clear hd hr ho hs HS2 hT hrl hh hkT
  go_enter Try.func12, Try.ntmps12
  go_wp2_with (first
    | (go_at_call 30; refine Calls.mono HC1.out ?_; rintro e w2 ⟨rfl, hr2, hk2⟩; have c4 := HCell.out w2 hk2; have HR2 : Hid _ := hr2; have HK2 : Hid _ := hk2; clear hr2 hk2)
    | (go_at_call 17; refine Calls.mono (HC2.out _ HK2.out) ?_; rintro e w3 ⟨rfl, hd3, hk3⟩))
  go_ret
  exact HFin.out _ _ HR2.out HK2.out hd3 hk3

set_option maxRecDepth 1000000 in
set_option maxHeartbeats 4000000 in
theorem step_append (T : Nat → Prop) (w : World) (p r g : Nat) (S : DS) (kind i n : Int) (bv kv : Value) (b : List UInt8) (hd : DK T w p S) (hr : RV w r g S) (ho : Okay S) (hs : Small 10000000 900000000000 S) (hnr : ¬ T r) (hng : ¬ T g) (hk : kv.oneCell' = true) (hrb : RB w bv b) (hbT : 0 < b.length → ∀ a n c, bv = .slice (some a) n c → ¬ T a.block) (hl : b.length ≤ 3000)
    (e1 : (kind == 1) = false) (e2 : (kind == 2) = false) (e3 : (kind == 3) = false) (e4 : (kind == 4) = false) (e5 : (kind == 5) = false) (e6 : (kind == 6) = false) :
    Calls Try.prog 12 #[.pointer (some ⟨p, 0, none⟩), .pointer (some ⟨r, 0, none⟩), .agg #[.int .i64 kind, .int .i64 i, .int .i64 n, bv, kv]] w (StepC T w p r g (appendP S i b).2) := by
  have hT := hd.live
  have hrl := hr.rlt
  have hh := box5 w (.int .i64 kind) (.int .i64 i) (.int .i64 n) bv kv
  obtain ⟨w1, hw1⟩ : ∃ w1, w1 = (w.alloc (.cells #[.int .i64 kind, .int .i64 i, .int .i64 n, bv, kv] 36)).alloc (.cells #[] 5) := ⟨_, rfl⟩
  have hb1 : Below w.heap.size w w1 := by rw [hw1]; exact alloc2 _ _ _
  have hz1 : w1.heap.size = w.heap.size + 2 := by rw [hw1]; simp
  have hbox1 : w1.heap[w.heap.size]? = some (.cells #[.int .i64 kind, .int .i64 i, .int .i64 n, bv, kv] 36 (0, 0)) := by rw [hw1, Below.heap_alloc _ _ _ (by simp)]; exact hh
  have hown : w1.ownsRow 0 5 1 (.slice (some ⟨w.heap.size + 1, 0, none⟩) 0 0) ([] : List UInt8).length (bvs []) := by
    rw [hw1]
    have := World.ownsRow_made (base := 0) (e := 5) (size := 1) (w.alloc (.cells #[.int .i64 kind, .int .i64 i, .int .i64 n, bv, kv] 36)) #[] 0 (Nat.zero_le _) (Nat.zero_le _) rfl
    have e : (w.alloc (.cells #[.int .i64 kind, .int .i64 i, .int .i64 n, bv, kv] 36)).heap.size = w.heap.size + 1 := by simp
    rw [e] at this
    exact this
  obtain ⟨v8, w8, hrun, ho8, hg8, hat8⟩ := run_append_b w1 33 _ _ [] b hown (hrb.later hb1) (by simp) (by omega)
  rw [List.nil_append] at ho8
  have hv8 : ∃ g8 c8, v8 = .slice (some ⟨g8, 0, none⟩) b.length c8 ∧ w.heap.size < g8 ∧ g8 < w8.heap.size := by
    have hbk : v8.ownBlock = some (w.heap.size + 1) ∨ v8.ownBlock = some w1.heap.size := hat8
    rcases ho8.2 with ⟨rfl, h5⟩ | ⟨g8, c8, cur, rfl, hrest⟩
    · rcases hbk with h | h <;> cases h
    · refine ⟨g8, c8, rfl, ?_, (ho8.lt g8 rfl).2⟩
      rcases hbk with h | h
      · have h2 : g8 = w.heap.size + 1 := Option.some.inj h
        omega
      · have h2 : g8 = w1.heap.size := Option.some.inj h
        omega
  obtain ⟨g8, c8, rfl, hg8l, hg8u⟩ := hv8
  have hb8 : Below w.heap.size w w8 := hb1.grown hg8 (by omega) (fun k hk => by have h2 : w.heap.size + 1 = k := Option.some.inj hk; omega)
  have hk8 : Kp (fun k => k = w.heap.size + 1) w1 w8 := Kp.of_grown _ hg8 (fun k hk => by have h2 : w.heap.size + 1 = k := Option.some.inj hk; exact h2.symm)
  have hbox8 : w8.heap[w.heap.size]? = some (.cells #[.int .i64 kind, .int .i64 i, .int .i64 n, bv, kv] 36 (0, 0)) := by rw [hk8.block _ (by omega) (by omega)]; exact hbox1
  have hs2 : Small 10000000 1000000000000 S := ⟨hs.len, by have := hs.room; omega⟩
  have hG : ∀ k, w.heap.size ≤ k → ¬ T k := fun k hk h => by have := hT k h; omega
  have HC1 : Hid _ := append_any T w8 p S i _ b (hd.later hb8) ho hs2 (RB.of_owns ho8 rfl) (by omega) (fun a n c he => by cases he; exact hG g8 (by omega))
  have HBx : Hid (∀ w9 wr, Kp T w8 w9 → Kp (fun k => k = g8) w9 wr → wr.heap[w.heap.size]? = some (.cells #[.int .i64 kind, .int .i64 i, .int .i64 n, bv, kv] 36 (0, 0))) := fun w9 wr h1 h2 => by
    have := h1.size
    have := hb8.size
    rw [h2.block _ (by omega) (by omega), h1.block _ (by omega) (hG _ (Nat.le_refl _))]
    exact hbox8
  have HRow : Hid (∀ w9, Kp T w8 w9 → ∃ cs, w9.heap[g8]? = some (.cells cs 5 (0, 0)) ∧ b.length ≤ cs.size) := fun w9 h1 => by
    rcases ho8.2 with ⟨h, _⟩ | ⟨g', cap, cur, he, _, hh2, q1, _, q3, _⟩
    · cases h
    · cases he
      refine ⟨cur, ?_, by omega⟩
      rw [h1.block g8 hg8u (hG _ (by omega))]
      exact hh2
  have HC2 : Hid (∀ w9 wr, Kp T w8 w9 → Kp (fun k => k = g8) w9 wr → (convert 33 9 bv).run Try.prog wr = .ok (.string ⟨b.toArray⟩) wr ∧ Calls Try.prog 32 #[.pointer (some ⟨r, 0, none⟩), .int .i64 i, .string ⟨b.toArray⟩] wr (RR r g wr (appendP S i b))) := fun w9 wr h1 h2 => by
    have hkk : Kp T w wr := ((Kp.of_below T hb8).trans h1 (fun x hx _ => hx)).trans h2 (fun x hx hl => by omega)
    exact ⟨string_of_RB (hrb.kept0 hkk hbT), rappend_any i b (hr.kept hkk hnr hng) ho hs2 (by omega)⟩
  obtain ⟨res, HRes⟩ : ∃ res, Hid (res = appendP S i b) := ⟨_, rfl⟩
  rw [← HRes.out] at HC1 HC2 ⊢
  have HFin : Hid (∀ w9 wr w10, DK (Wid T w8 w9) w9 p res.2 → Kp T w8 w9 → Kp (fun k => k = g8) w9 wr → RV w10 r g res.2 → Kp (fun k => k = r ∨ k = g) wr w10 → StepC T w p r g res.2 (.returned (.bool true)) w10) := fun w9 wr w10 h1 h2 h3 h4 h5 => by
    have z1 := hb8.size
    have z2 := h2.size
    have z3 := h3.size
    have z4 := h5.size
    refine ⟨rfl, ?_, h4, ?_⟩
    · have q1 := h1.kept h3 (fun k hk he => by
        rcases hk with hk | hk
        · have := hT k hk; omega
        · omega)
      have q2 := q1.kept h5 (fun k hk he => by
        rcases hk with hk | hk
        · rcases he with he | he
          · exact hnr (he ▸ hk)
          · exact hng (he ▸ hk)
        · rcases he with he | he <;> omega)
      refine q2.wide (fun k hk => ?_) (fun k hk => ?_)
      · rcases hk with hk | hk
        · exact .inl hk
        · exact .inr ⟨by omega, by omega⟩
      · rcases hk with hk | hk
        · have := hT k hk; omega
        · exact hk.2
    · exact ((((Kp.of_below _ hb8).trans (h2.mono (fun k hk => (.inl hk : T k ∨ k = r ∨ k = g))) (fun x hx _ => hx)).trans h3 (fun x hx hl => by omega)).trans (h5.mono (fun k hk => (.inr hk : T k ∨ k = r ∨ k = g))) (fun x hx _ => hx))
  have c1 : w8.cell? ⟨w.heap.size, 1, none⟩ = some (.int .i64 i) := cell_of_row _ _ _ _ 36 (0, 0) hbox8
  obtain ⟨ba, bc, rfl, _, _, _, _⟩ := hrb
  have HRun : Hid _ := hrun
  subst hw1
  clear hd hr ho hs HRes hT hrl hh hbT hb1 hbox1 hown hrun ho8 hg8 hat8 hb8 hk8 hbox8 hs2 hG
  go_enter Try.func12, Try.ntmps12
  go_wp2_with (first
    | (at_builtin; refine wpList_append_run rfl _ _ 33 rfl 113 rfl _ _ _ _ rfl rfl HRun.out ?_)
    | (go_at_call 23; refine Calls.mono HC1.out ?_; rintro e w9 ⟨rfl, hd9, hk9⟩; have HD9 : Hid _ := hd9; have HK9 : Hid _ := hk9; clear hd9 hk9))
  go_loopw [10] (fun j wr => ∃ k : Nat, k ≤ b.length ∧ j = .int .i64 k ∧ Hid (Kp (fun k => k = g8) w9 wr) ∧ Hid (∃ cs, wr.heap[g8]? = some (.cells cs 5 (0, 0)) ∧ b.length ≤ cs.size)) (fun j _ => b.length - (intOf j).toNat)
  case atStart => exact ⟨0, Nat.zero_le _, rfl, Kp.refl _ _, HRow.out w9 HK9.out⟩
  case round =>
    obtain ⟨k, hk, rfl, HK, HCs⟩ := hrel
    by_cases hlt : k < b.length
    · obtain ⟨cs, q1, q2⟩ := HCs.out
      have t1 : wr.cell? ⟨g8, k, none⟩ = some cs[k] := by rw [cell_of_row _ _ _ _ 5 (0, 0) q1]; exact Array.getElem?_eq_getElem _
      have t2 : wr.frozen? ⟨g8, k, none⟩ = false := frozen_of_row _ _ _ cs 5 q1
      have HQ : Hid (∃ cs, (wr.setCell ⟨g8, k, none⟩ (.int .u8 113)).heap[g8]? = some (.cells cs 5 (0, 0)) ∧ b.length ≤ cs.size) := ⟨_, heap_setCell_same _ _ _ _ 5 _ q1, by simpa using q2⟩
      generalize cs[k] = old at *
      clear q1 q2 HCs HRow HBx HC2 HFin
      go_wp2_with fail
      go_roundw
      case rel => exact ⟨k + 1, by omega, by go_num, HK.out.set _ _ rfl, HQ⟩
      case measure => simp [intOf]; omega
    · have hbx := HBx.out w9 wr HK9.out HK.out
      have t1 : wr.cell? ⟨w.heap.size, 1, none⟩ = some (.int .i64 i) := cell_of_row _ _ _ _ 36 (0, 0) hbx
      have t3 : wr.cell? ⟨w.heap.size, 3, none⟩ = some (.slice ba b.length bc) := cell_of_row _ _ _ _ 36 (0, 0) hbx
      obtain ⟨hcv, hc2⟩ := HC2.out w9 wr HK9.out HK.out
      have HC3 : Hid _ := hc2
      clear hbx hc2 HRow HBx HC2 HCs
      go_wp2_with (first | (go_at_call 32; refine Calls.mono HC3.out ?_; rintro e w10 ⟨rfl, hr10, hk10⟩))
      go_ret
      have := HFin.out _ _ _ HD9.out HK9.out HK.out hr10 hk10
      simpa using this
end Go.Proofs.Ytbbmbjlpccdclaa
