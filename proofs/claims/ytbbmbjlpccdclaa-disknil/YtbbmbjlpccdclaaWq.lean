/- The walk over what disk.Crash hands on. -/
import Derived.Test.YtbbmbjlpccdclaaWp
namespace Go.Proofs.Ytbbmbjlpccdclaa
open Go.RowKit
set_option linter.unusedVariables false

theorem ent38 : Ent 38 := fun args w => by kernel_rfl

/-- A slice of ints that reads as a list. -/
def RI (w : World) (v : Value) (l : List Int) : Prop :=
  ∃ a cap, v = .slice a l.length cap ∧ l.length ≤ cap ∧ cap ≤ maxLen ∧ ∀ i, i < l.length → ∃ b off, a = some ⟨b, off, none⟩ ∧ w.cell? ⟨b, off + i, none⟩ = some (.int .i64 (l.getD i 0))

theorem RI.kept {w w' : World} {T : Nat → Prop} {v : Value} {l : List Int} (h : RI w v l) (hk : Kp T w w') (hv : 0 < l.length → ∀ a n c, v = .slice (some a) n c → ¬ T a.block) : RI w' v l := by
  obtain ⟨a, cap, rfl, h1, h2, hc⟩ := h
  refine ⟨a, cap, rfl, h1, h2, fun i hi => ?_⟩
  obtain ⟨b, off, rfl, hcell⟩ := hc i hi
  exact ⟨b, off, rfl, hk.cell hcell (show ¬ T b from hv (by omega) ⟨b, off, none⟩ _ _ rfl)⟩

theorem RI.later {w w' : World} {v : Value} {l : List Int} (h : RI w v l) (hb : Below w.heap.size w w') : RI w' v l := h.kept (Kp.of_below (fun _ => False) hb) (fun _ _ _ _ _ h => h)

theorem RI.nil (w : World) : RI w (.slice none 0 0) [] := ⟨none, 0, rfl, by simp, by unfold maxLen; omega, by simp⟩

/-- One file behind a crash. -/
theorem crash_turn (T : Nat → Prop) (w wr : World) (p : Nat) (S : DS) (keep : List Int) (k : Nat) (kv : Int) (hkv : kv = keep.getD k 0) (hk : k < S.n) (ho : Okay S) (hs : Small 10000000 900000000000 S) (hT : ∀ k, T k → k < w.heap.size)
    (hd : DK (Wid T w wr) wr p (crashK keep S k)) (hkp : Kp T w wr) :
    Calls Try.prog 39 #[.pointer (some ⟨p, 0, none⟩), .int .i64 k, .func (.func 40) #[] #[.pointer (some ⟨wr.heap.size, 0, none⟩)]] (wr.alloc (.cells #[.int .i64 kv] 3)) fun e w' => e = .returned (.tuple #[]) ∧ DK (Wid T w w') w' p (crashK keep S (k + 1)) ∧ Kp T w w' := by
  have hb : Below wr.heap.size wr (wr.alloc (.cells #[.int .i64 kv] 3)) := (Below.refl _ _).alloc (Nat.le_refl _) _
  have hsm := crashK_room keep ho hs k (by omega)
  have hok := ho.crashK keep k (by omega)
  have hfew := ho.few
  have hsy := hok.syn k
  have hln := hsm.len k
  have hrm := hsm.room
  have hlt : (tornP kv ((crashK keep S k).fs k)).b.length ≤ ((crashK keep S k).fs k).b.length := by
    show (List.take _ _).length ≤ _
    rw [List.length_take]
    omega
  have hmul : k * 10000000 ≤ 650000000 := by omega
  refine Calls.mono (turn_any (Wid T w wr) p (crashK keep S k) k _ (tornP kv ((crashK keep S k).fs k)) _ (hd.later hb) (by omega) ⟨40, _, rfl, ent40, fun wx v hkx hown => ?_⟩ hln (by omega) (by omega) (by omega)) ?_
  · exact crash1_any v _ _ wx hown kv hsy hln wr.heap.size (hkx.cell (cell_alloc1 _ _ _ _ rfl) (fun h => by
      rcases h with h | h
      · have h' : wr.heap.size < w.heap.size := hT _ h; have := hkp.size; omega
      · exact Nat.lt_irrefl _ h.2))
  · rintro e w' ⟨rfl, h1, h2⟩
    have hsz : w.heap.size ≤ wr.heap.size := hkp.size
    have hsz2 : wr.heap.size + 1 ≤ w'.heap.size := by have := h2.size; simpa using this
    refine ⟨rfl, ?_, ?_⟩
    · have hE : crashK keep S (k + 1) = turnP (crashK keep S k) k (tornP kv ((crashK keep S k).fs k)) := by rw [hkv]; rfl
      rw [hE]
      refine h1.wide (fun x hx => ?_) (fun x hx => ?_)
      · rcases hx with (hx | hx) | hx
        · exact .inl hx
        · exact .inr ⟨hx.1, by omega⟩
        · exact .inr ⟨by have := hx.1; simp at this; omega, hx.2⟩
      · rcases hx with hx | hx
        · have := hT x hx; omega
        · exact hx.2
    · exact hkp.trans ((Kp.of_below (Wid T w wr) hb).trans h2 (fun x hx _ => hx)) (fun x hx hl => by
        rcases hx with hx | hx
        · exact hx
        · omega)

set_option maxRecDepth 1000000 in
set_option maxHeartbeats 1000000 in
theorem crash1f_any (T : Nat → Prop) (w : World) (p b0 b1 : Nat) (S : DS) (kv : Value) (keep : List Int) (hd : DK T w p S) (ho : Okay S) (hs : Small 10000000 900000000000 S) (h0 : w.cell? ⟨b0, 0, none⟩ = some (.pointer (some ⟨p, 0, none⟩))) (h1 : w.cell? ⟨b1, 0, none⟩ = some kv) (hn0 : ¬ T b0) (hn1 : ¬ T b1) (hr : RI w kv keep) (hkT : 0 < keep.length → ∀ a n c, kv = .slice (some a) n c → ¬ T a.block) (hl : keep.length ≤ 1000000) :
    Calls Try.prog 38 #[.pointer (some ⟨b0, 0, none⟩), .pointer (some ⟨b1, 0, none⟩)] w fun e w' => e = .returned (.tuple #[]) ∧ DK (Wid T w w') w' p (crashP S keep) ∧ Kp T w w' := by
  have hT := hd.live
  have HRI : Hid (∀ wr, Kp T w wr → RI wr kv keep) := fun wr hk => hr.kept hk hkT
  have hcnt : w.cell? ⟨p, 130, none⟩ = some (.int .i64 S.n) := by obtain ⟨V, h⟩ := hd; exact h.cnt
  have HC : Hid (∀ wr k q, q = keep.getD k 0 → k < S.n → DK (Wid T w wr) wr p (crashK keep S k) → Kp T w wr → _) := fun wr k q hq hk h1 h2 => crash_turn T w wr p S keep k q hq hk ho hs hT h1 h2
  have HD0 : Hid (DK (Wid T w w) w p (crashK keep S 0)) := hd.wide (fun k h => .inl h) (fun k h => by
    rcases h with h | h
    · exact hT k h
    · omega)
  have HE : Hid (crashP S keep = { crashK keep S S.n with fuse := -1, down := false }) := rfl
  have hfew := ho.few
  have HTp : Hid (T p) := by obtain ⟨V, h⟩ := hd; exact h.own
  obtain ⟨S2, HS2⟩ : ∃ S2, Hid (S2 = crashP S keep) := ⟨_, rfl⟩
  rw [← HS2.out] at HE ⊢
  obtain ⟨a, cap, rfl, _, _, _⟩ := hr
  obtain ⟨n, HN⟩ : ∃ n, Hid (S.n = n) := ⟨_, rfl⟩
  rw [HN.out] at hcnt HC hfew HE
  have hmf : ∀ (fn : Fn) (first cap : Array Value) (w : World), (Instr.makeFunc fn first cap).run Try.prog w = .ok (.func fn first cap) w := fun _ _ _ _ => rfl
  clear hd hkT
  go_enter Try.func38, Try.ntmps38
  go_wp2_with fail
  go_loopw [8] (fun i wr => ∃ k : Nat, k ≤ n ∧ i = .int .i64 k ∧ Hid (DK (Wid T w wr) wr p (crashK keep S k)) ∧ Hid (Kp T w wr)) (fun i _ => n - (intOf i).toNat)
  case atStart => exact ⟨0, Nat.zero_le _, rfl, HD0, Kp.refl _ _⟩
  case round =>
    obtain ⟨k, hk, rfl, HD, HK⟩ := hrel
    have g0 := HK.out.cell h0 hn0
    have g1 := HK.out.cell h1 hn1
    have g0a : ∀ o, (wr.alloc o).cell? ⟨b0, 0, none⟩ = some (.pointer (some ⟨p, 0, none⟩)) := fun o => (cell_past _ _ _ _ (World.block_lt_of_cell? wr _ g0)).trans g0
    have g1a : ∀ o, (wr.alloc o).cell? ⟨b1, 0, none⟩ = some (.slice a keep.length cap) := fun o => (cell_past _ _ _ _ (World.block_lt_of_cell? wr _ g1)).trans g1
    by_cases hlt : k < n
    · have HC2 : Hid (∀ q, q = keep.getD k 0 → _) := fun q hq => HC.out wr k q hq hlt HD.out HK.out
      by_cases hkl : k < keep.length
      · obtain ⟨a', cap', he, _, _, hcc⟩ := HRI.out wr HK.out
        simp only [Value.slice.injEq] at he
        obtain ⟨rfl, _, rfl⟩ := he
        obtain ⟨b, off, rfl, hcell⟩ := hcc k hkl
        have hcella : ∀ o, (wr.alloc o).cell? ⟨b, off + k, none⟩ = some (.int .i64 (keep.getD k 0)) := fun o => (cell_past _ _ _ _ (World.block_lt_of_cell? wr _ hcell)).trans hcell
        clear hcc
        generalize hq : keep.getD k 0 = q at *
        have HC3 := HC2.out q rfl
        have HC4 : Hid _ := HC3
        clear HC3 HC2 HC hq HRI
        go_wp2_with (first | (go_at_call 39; refine Calls.mono HC4.out ?_; rintro e w2 ⟨rfl, h2, h3⟩; have H2 : Hid _ := h2; have H3 : Hid _ := h3; clear h2 h3))
        go_roundw
        case rel => exact ⟨k + 1, by omega, by go_num, H2, H3⟩
        case measure => simp [intOf]; omega
      · have HC3 := HC2.out 0 (by rw [List.getD_eq_getElem?_getD, List.getElem?_eq_none (by omega)]; rfl)
        have HC4 : Hid _ := HC3
        clear HC3 HC2 HC HRI
        go_wp2_with (first | (go_at_call 39; refine Calls.mono HC4.out ?_; rintro e w2 ⟨rfl, h2, h3⟩; have H2 : Hid _ := h2; have H3 : Hid _ := h3; clear h2 h3))
        go_roundw
        case rel => exact ⟨k + 1, by omega, by go_num, H2, H3⟩
        case measure => simp [intOf]; omega
    · have hkn : k = n := by omega
      subst hkn
      obtain ⟨V, hv⟩ := HD.out
      have HV : Hid _ := hv
      have q0 := hv.frozen
      have q1 := hv.fu
      have q2 := hv.dn
      clear hv HC HRI
      go_wp2_with fail
      go_region
      all_goals
        go_wp2_with fail
        go_end0
        have h5 := ((HV.out.setFuse (-1)).setDown false).later (Below.refl _ _).drew
        have hz : ((wr.setCell ⟨p, 132, none⟩ (.int .i64 (-1))).setCell ⟨p, 133, none⟩ (.bool false)).drew.heap.size = wr.heap.size := (size_set _ _ _).trans (size_set _ _ _)
        refine ⟨rfl, ?_, ((HK.out.set _ _ HTp.out).set _ _ HTp.out).drew⟩
        rw [HE.out]
        refine DK.wide ⟨_, h5⟩ (fun x hx => ?_) (fun x hx => ?_)
        · rcases hx with hx | hx
          · exact .inl hx
          · exact .inr ⟨hx.1, by rw [hz]; exact hx.2⟩
        · rcases hx with hx | hx
          · rw [hz]
            exact Nat.lt_of_lt_of_le (hT x hx) HK.out.size
          · exact hx.2

set_option maxRecDepth 1000000 in
set_option maxHeartbeats 1000000 in
theorem crash_any (T : Nat → Prop) (w : World) (p : Nat) (S : DS) (kv : Value) (keep : List Int) (hd : DK T w p S) (ho : Okay S) (hs : Small 10000000 900000000000 S) (hr : RI w kv keep) (hkT : 0 < keep.length → ∀ a n c, kv = .slice (some a) n c → ¬ T a.block) (hl : keep.length ≤ 1000000) :
    Calls Try.prog 17 #[.pointer (some ⟨p, 0, none⟩), kv] w (WR T w p (0, crashP S keep)) := by
  have hT := hd.live
  have hG : ∀ k, w.heap.size ≤ k → ¬ T k := fun k hk h => by have := hT k h; omega
  have hbel := alloc2 w (.cells #[.pointer (some ⟨p, 0, none⟩)] 25) (.cells #[kv] 34)
  have c0 : ((w.alloc (.cells #[.pointer (some ⟨p, 0, none⟩)] 25)).alloc (.cells #[kv] 34)).cell? ⟨w.heap.size, 0, none⟩ = some (.pointer (some ⟨p, 0, none⟩)) := by
    rw [cell_past _ _ _ _ (by simp), cell_alloc1 _ _ _ _ rfl]
  have c1 : ((w.alloc (.cells #[.pointer (some ⟨p, 0, none⟩)] 25)).alloc (.cells #[kv] 34)).cell? ⟨w.heap.size + 1, 0, none⟩ = some kv := cell_alloc1 _ _ _ _ (by simp)
  have hcnt : ((w.alloc (.cells #[.pointer (some ⟨p, 0, none⟩)] 25)).alloc (.cells #[kv] 34)).cell? ⟨p, 130, none⟩ = some (.int .i64 S.n) := by obtain ⟨V, h⟩ := hd.later hbel; exact h.cnt
  have hpos := ho.pos
  have HC : Hid (Calls Try.prog 33 #[.pointer (some ⟨p, 0, none⟩), .func (.func 38) #[] #[.pointer (some ⟨w.heap.size, 0, none⟩), .pointer (some ⟨w.heap.size + 1, 0, none⟩)], .slice none 0 0] ((w.alloc (.cells #[.pointer (some ⟨p, 0, none⟩)] 25)).alloc (.cells #[kv] 34)) (WR T w p (0, crashP S keep))) := by
    refine Calls.mono (call_any p S.n 0 _ _ [] _ (fun k w' => k = 0 ∧ WQ T ((w.alloc (.cells #[.pointer (some ⟨p, 0, none⟩)] 25)).alloc (.cells #[kv] 34)) p (0, crashP S keep) 0 w') hcnt (by omega) (RF.nil _ _)
      ⟨38, #[], #[.pointer (some ⟨w.heap.size, 0, none⟩), .pointer (some ⟨w.heap.size + 1, 0, none⟩)], rfl, ent38, Calls.mono (crash1f_any T _ p _ _ S kv keep (hd.later hbel) ho hs c0 c1 (hG _ (by omega)) (hG _ (by omega)) (hr.later hbel) hkT hl) (fun e w' h => ⟨h.1, rfl, rfl, h.2.1, h.2.2⟩)⟩) ?_
    rintro e w' ⟨k, rfl, rfl, hq⟩
    obtain ⟨h1, h2, h3⟩ := hq.back hbel hT
    exact ⟨rfl, h2, h3⟩
  obtain ⟨a, cap, rfl, _, _, _⟩ := hr
  generalize crashP S keep = res at *
  have hmf : ∀ (fn : Fn) (first cap : Array Value) (w : World), (Instr.makeFunc fn first cap).run Try.prog w = .ok (.func fn first cap) w := fun _ _ _ _ => rfl
  clear hd hkT c0 c1 hcnt hbel
  go_enter Try.func17, Try.ntmps17
  go_wp2_with (first | (go_at_call 33; refine Calls.mono HC.out ?_; rintro e w2 ⟨rfl, h1, h2⟩))
  go_ret
  exact ⟨rfl, h1, h2⟩
end Go.Proofs.Ytbbmbjlpccdclaa
