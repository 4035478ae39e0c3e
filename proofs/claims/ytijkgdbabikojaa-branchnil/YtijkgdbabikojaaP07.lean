/- Texts of the seat, packed: DWq DXc DMb DMc DWr DXi DWu. -/
import Derived.Test.YtijkgdbabikojaaP06
import Derived.Test.YtijkgdbabikojaaP04
import Derived.Test.YtijkgdbabikojaaP03
/- The walk over what disk.Crash hands on. -/
namespace Go.Proofs.Ytijkgdbabikojaa.Dk
set_option maxRecDepth 1000000
open Go.RowKit
set_option linter.unusedVariables false

theorem ent38 : Ent 31 := fun args w => by kernel_rfl

/-- A slice of ints that reads as a list. -/
def RI (w : World) (v : Value) (l : List Int) : Prop :=
  ∃ a cap, v = .slice a l.length cap ∧ l.length ≤ cap ∧ cap ≤ maxLen ∧ ∀ i, i < l.length → ∃ b off, a = some ⟨b, off, none⟩ ∧ w.cell? ⟨b, off + i, none⟩ = some (.int .i64 (l.getD i 0))

theorem RI.kept {w w' : World} {T : Nat → Prop} {v : Value} {l : List Int} (h : RI w v l) (hk : Kp T w w') (hv : 0 < l.length → ∀ a n c, v = .slice (some a) n c → ¬ T a.block) : RI w' v l := by
  obtain ⟨a, cap, rfl, h1, h2, hc⟩ := h
  refine ⟨a, cap, rfl, h1, h2, fun i hi => ?_⟩
  obtain ⟨b, off, rfl, hcell⟩ := hc i hi
  exact ⟨b, off, rfl, hk.cell hcell (show ¬ T b from hv (by omega) ⟨b, off, none⟩ _ _ rfl)⟩

theorem RI.later {w w' : World} {v : Value} {l : List Int} (h : RI w v l) (hb : Below w.heap.size w w') : RI w' v l := h.kept (Kp.of_below (fun _ => False) hb) (fun _ _ _ _ _ h => h)

theorem RI.nil (w : World) : RI w (.slice none 0 0) [] := ⟨none, 0, rfl, by simp, by unfold maxLen; omega, by simp⟩

/-- One file behind a crash. -/
theorem crash_turn (T : Nat → Prop) (w wr : World) (p : Nat) (S : DS) (keep : List Int) (k : Nat) (kv : Int) (hkv : kv = keep.getD k 0) (hk : k < S.n) (ho : Okay S) (hs : Small 10000000 900000000000 S) (hT : ∀ k, T k → k < w.heap.size)
    (hd : DK (Wid T w wr) wr p (crashK keep S k)) (hkp : Kp T w wr) :
    Calls Try.prog 32 #[.pointer (some ⟨p, 0, none⟩), .int .i64 k, .func (.func 33) #[] #[.pointer (some ⟨wr.heap.size, 0, none⟩)]] (wr.alloc (.cells #[.int .i64 kv] 3)) fun e w' => e = .returned (.tuple #[]) ∧ DK (Wid T w w') w' p (crashK keep S (k + 1)) ∧ Kp T w w' := by
  have hb : Below wr.heap.size wr (wr.alloc (.cells #[.int .i64 kv] 3)) := (Below.refl _ _).alloc (Nat.le_refl _) _
  have hsm := crashK_room keep ho hs k (by omega)
  have hok := ho.crashK keep k (by omega)
  have hfew := ho.few
  have hsy := hok.syn k
  have hln := hsm.len k
  have hrm := hsm.room
  have hlt : (tornP kv ((crashK keep S k).fs k)).b.length ≤ ((crashK keep S k).fs k).b.length := by
    show (List.take _ _).length ≤ _
    rw [List.length_take]
    omega
  have hmul : k * 10000000 ≤ 650000000 := by omega
  refine Calls.mono (turn_any (Wid T w wr) p (crashK keep S k) k _ (tornP kv ((crashK keep S k).fs k)) _ (hd.later hb) (by omega) ⟨33, _, rfl, ent40, fun wx v hkx hown => ?_⟩ hln (by omega) (by omega) (by omega)) ?_
  · exact crash1_any v _ _ wx hown kv hsy hln wr.heap.size (hkx.cell (cell_alloc1 _ _ _ _ rfl) (fun h => by
      rcases h with h | h
      · have h' : wr.heap.size < w.heap.size := hT _ h; have := hkp.size; omega
      · exact Nat.lt_irrefl _ h.2))
  · rintro e w' ⟨rfl, h1, h2⟩
    have hsz : w.heap.size ≤ wr.heap.size := hkp.size
    have hsz2 : wr.heap.size + 1 ≤ w'.heap.size := by have := h2.size; simpa using this
    refine ⟨rfl, ?_, ?_⟩
    · have hE : crashK keep S (k + 1) = turnP (crashK keep S k) k (tornP kv ((crashK keep S k).fs k)) := by rw [hkv]; rfl
      rw [hE]
      refine h1.wide (fun x hx => ?_) (fun x hx => ?_)
      · rcases hx with (hx | hx) | hx
        · exact .inl hx
        · exact .inr ⟨hx.1, by omega⟩
        · exact .inr ⟨by have := hx.1; simp at this; omega, hx.2⟩
      · rcases hx with hx | hx
        · have := hT x hx; omega
        · exact hx.2
    · exact hkp.trans ((Kp.of_below (Wid T w wr) hb).trans h2 (fun x hx _ => hx)) (fun x hx hl => by
        rcases hx with hx | hx
        · exact hx
        · omega)

set_option maxRecDepth 1000000 in
set_option maxHeartbeats 1000000 in
theorem crash1f_any (T : Nat → Prop) (w : World) (p b0 b1 : Nat) (S : DS) (kv : Value) (keep : List Int) (hd : DK T w p S) (ho : Okay S) (hs : Small 10000000 900000000000 S) (h0 : w.cell? ⟨b0, 0, none⟩ = some (.pointer (some ⟨p, 0, none⟩))) (h1 : w.cell? ⟨b1, 0, none⟩ = some kv) (hn0 : ¬ T b0) (hn1 : ¬ T b1) (hr : RI w kv keep) (hkT : 0 < keep.length → ∀ a n c, kv = .slice (some a) n c → ¬ T a.block) (hl : keep.length ≤ 1000000) :
    Calls Try.prog 31 #[.pointer (some ⟨b0, 0, none⟩), .pointer (some ⟨b1, 0, none⟩)] w fun e w' => e = .returned (.tuple #[]) ∧ DK (Wid T w w') w' p (crashP S keep) ∧ Kp T w w' := by
  have hT := hd.live
  have HRI : Hid (∀ wr, Kp T w wr → RI wr kv keep) := fun wr hk => hr.kept hk hkT
  have hcnt : w.cell? ⟨p, 130, none⟩ = some (.int .i64 S.n) := by obtain ⟨V, h⟩ := hd; exact h.cnt
  have HC : Hid (∀ wr k q, q = keep.getD k 0 → k < S.n → DK (Wid T w wr) wr p (crashK keep S k) → Kp T w wr → _) := fun wr k q hq hk h1 h2 => crash_turn T w wr p S keep k q hq hk ho hs hT h1 h2
  have HD0 : Hid (DK (Wid T w w) w p (crashK keep S 0)) := hd.wide (fun k h => .inl h) (fun k h => by
    rcases h with h | h
    · exact hT k h
    · omega)
  have HE : Hid (crashP S keep = { crashK keep S S.n with fuse := -1, down := false }) := rfl
  have hfew := ho.few
  have HTp : Hid (T p) := by obtain ⟨V, h⟩ := hd; exact h.own
  obtain ⟨S2, HS2⟩ : ∃ S2, Hid (S2 = crashP S keep) := ⟨_, rfl⟩
  rw [← HS2.out] at HE ⊢
  obtain ⟨a, cap, rfl, _, _, _⟩ := hr
  obtain ⟨n, HN⟩ : ∃ n, Hid (S.n = n) := ⟨_, rfl⟩
  rw [HN.out] at hcnt HC hfew HE
  have hmf : ∀ (fn : Fn) (first cap : Array Value) (w : World), (Instr.makeFunc fn first cap).run Try.prog w = .ok (.func fn first cap) w := fun _ _ _ _ => rfl
  clear hd hkT
  go_enter Try.func31, Try.ntmps31
  go_wp2_with fail
  go_loopw [8] (fun i wr => ∃ k : Nat, k ≤ n ∧ i = .int .i64 k ∧ Hid (DK (Wid T w wr) wr p (crashK keep S k)) ∧ Hid (Kp T w wr)) (fun i _ => n - (intOf i).toNat)
  case atStart => exact ⟨0, Nat.zero_le _, rfl, HD0, Kp.refl _ _⟩
  case round =>
    obtain ⟨k, hk, rfl, HD, HK⟩ := hrel
    have g0 := HK.out.cell h0 hn0
    have g1 := HK.out.cell h1 hn1
    have g0a : ∀ o, (wr.alloc o).cell? ⟨b0, 0, none⟩ = some (.pointer (some ⟨p, 0, none⟩)) := fun o => (cell_past _ _ _ _ (World.block_lt_of_cell? wr _ g0)).trans g0
    have g1a : ∀ o, (wr.alloc o).cell? ⟨b1, 0, none⟩ = some (.slice a keep.length cap) := fun o => (cell_past _ _ _ _ (World.block_lt_of_cell? wr _ g1)).trans g1
    by_cases hlt : k < n
    · have HC2 : Hid (∀ q, q = keep.getD k 0 → _) := fun q hq => HC.out wr k q hq hlt HD.out HK.out
      by_cases hkl : k < keep.length
      · obtain ⟨a', cap', he, _, _, hcc⟩ := HRI.out wr HK.out
        simp only [Value.slice.injEq] at he
        obtain ⟨rfl, _, rfl⟩ := he
        obtain ⟨b, off, rfl, hcell⟩ := hcc k hkl
        have hcella : ∀ o, (wr.alloc o).cell? ⟨b, off + k, none⟩ = some (.int .i64 (keep.getD k 0)) := fun o => (cell_past _ _ _ _ (World.block_lt_of_cell? wr _ hcell)).trans hcell
        clear hcc
        generalize hq : keep.getD k 0 = q at *
        have HC3 := HC2.out q rfl
        have HC4 : Hid _ := HC3
        clear HC3 HC2 HC hq HRI
        go_wp2_with (first | (go_at_call 32; refine Calls.mono HC4.out ?_; rintro e w2 ⟨rfl, h2, h3⟩; have H2 : Hid _ := h2; have H3 : Hid _ := h3; clear h2 h3))
        go_roundw
        case rel => exact ⟨k + 1, by omega, by go_num, H2, H3⟩
        case measure => simp [intOf]; omega
      · have HC3 := HC2.out 0 (by rw [List.getD_eq_getElem?_getD, List.getElem?_eq_none (by omega)]; rfl)
        have HC4 : Hid _ := HC3
        clear HC3 HC2 HC HRI
        go_wp2_with (first | (go_at_call 32; refine Calls.mono HC4.out ?_; rintro e w2 ⟨rfl, h2, h3⟩; have H2 : Hid _ := h2; have H3 : Hid _ := h3; clear h2 h3))
        go_roundw
        case rel => exact ⟨k + 1, by omega, by go_num, H2, H3⟩
        case measure => simp [intOf]; omega
    · have hkn : k = n := by omega
      subst hkn
      obtain ⟨V, hv⟩ := HD.out
      have HV : Hid _ := hv
      have q0 := hv.frozen
      have q1 := hv.fu
      have q2 := hv.dn
      clear hv HC HRI
      go_wp2_with fail
      go_region
      all_goals
        go_wp2_with fail
        go_end0
        have h5 := ((HV.out.setFuse (-1)).setDown false).later (Below.refl _ _).drew
        have hz : ((wr.setCell ⟨p, 132, none⟩ (.int .i64 (-1))).setCell ⟨p, 133, none⟩ (.bool false)).drew.heap.size = wr.heap.size := (size_set _ _ _).trans (size_set _ _ _)
        refine ⟨rfl, ?_, ((HK.out.set _ _ HTp.out).set _ _ HTp.out).drew⟩
        rw [HE.out]
        refine DK.wide ⟨_, h5⟩ (fun x hx => ?_) (fun x hx => ?_)
        · rcases hx with hx | hx
          · exact .inl hx
          · exact .inr ⟨hx.1, by rw [hz]; exact hx.2⟩
        · rcases hx with hx | hx
          · rw [hz]
            exact Nat.lt_of_lt_of_le (hT x hx) HK.out.size
          · exact hx.2

set_option maxRecDepth 1000000 in
set_option maxHeartbeats 1000000 in
theorem crash_any (T : Nat → Prop) (w : World) (p : Nat) (S : DS) (kv : Value) (keep : List Int) (hd : DK T w p S) (ho : Okay S) (hs : Small 10000000 900000000000 S) (hr : RI w kv keep) (hkT : 0 < keep.length → ∀ a n c, kv = .slice (some a) n c → ¬ T a.block) (hl : keep.length ≤ 1000000) :
    Calls Try.prog 12 #[.pointer (some ⟨p, 0, none⟩), kv] w (WR T w p (0, crashP S keep)) := by
  have hT := hd.live
  have hG : ∀ k, w.heap.size ≤ k → ¬ T k := fun k hk h => by have := hT k h; omega
  have hbel := alloc2 w (.cells #[.pointer (some ⟨p, 0, none⟩)] 24) (.cells #[kv] 35)
  have c0 : ((w.alloc (.cells #[.pointer (some ⟨p, 0, none⟩)] 24)).alloc (.cells #[kv] 35)).cell? ⟨w.heap.size, 0, none⟩ = some (.pointer (some ⟨p, 0, none⟩)) := by
    rw [cell_past _ _ _ _ (by simp), cell_alloc1 _ _ _ _ rfl]
  have c1 : ((w.alloc (.cells #[.pointer (some ⟨p, 0, none⟩)] 24)).alloc (.cells #[kv] 35)).cell? ⟨w.heap.size + 1, 0, none⟩ = some kv := cell_alloc1 _ _ _ _ (by simp)
  have hcnt : ((w.alloc (.cells #[.pointer (some ⟨p, 0, none⟩)] 24)).alloc (.cells #[kv] 35)).cell? ⟨p, 130, none⟩ = some (.int .i64 S.n) := by obtain ⟨V, h⟩ := hd.later hbel; exact h.cnt
  have hpos := ho.pos
  have HC : Hid (Calls Try.prog 27 #[.pointer (some ⟨p, 0, none⟩), .func (.func 31) #[] #[.pointer (some ⟨w.heap.size, 0, none⟩), .pointer (some ⟨w.heap.size + 1, 0, none⟩)], .slice none 0 0] ((w.alloc (.cells #[.pointer (some ⟨p, 0, none⟩)] 24)).alloc (.cells #[kv] 35)) (WR T w p (0, crashP S keep))) := by
    refine Calls.mono (call_any p S.n 0 _ _ [] _ (fun k w' => k = 0 ∧ WQ T ((w.alloc (.cells #[.pointer (some ⟨p, 0, none⟩)] 24)).alloc (.cells #[kv] 35)) p (0, crashP S keep) 0 w') hcnt (by omega) (RF.nil _ _)
      ⟨31, #[], #[.pointer (some ⟨w.heap.size, 0, none⟩), .pointer (some ⟨w.heap.size + 1, 0, none⟩)], rfl, ent38, Calls.mono (crash1f_any T _ p _ _ S kv keep (hd.later hbel) ho hs c0 c1 (hG _ (by omega)) (hG _ (by omega)) (hr.later hbel) hkT hl) (fun e w' h => ⟨h.1, rfl, rfl, h.2.1, h.2.2⟩)⟩) ?_
    rintro e w' ⟨k, rfl, rfl, hq⟩
    obtain ⟨h1, h2, h3⟩ := hq.back hbel hT
    exact ⟨rfl, h2, h3⟩
  obtain ⟨a, cap, rfl, _, _, _⟩ := hr
  generalize crashP S keep = res at *
  have hmf : ∀ (fn : Fn) (first cap : Array Value) (w : World), (Instr.makeFunc fn first cap).run Try.prog w = .ok (.func fn first cap) w := fun _ _ _ _ => rfl
  clear hd hkT c0 c1 hcnt hbel
  go_enter Try.func12, Try.ntmps12
  go_wp2_with (first | (go_at_call 27; refine Calls.mono HC.out ?_; rintro e w2 ⟨rfl, h1, h2⟩))
  go_ret
  exact ⟨rfl, h1, h2⟩
end Go.Proofs.Ytijkgdbabikojaa.Dk

/- The walks over the document's New and Crash. -/
namespace Go.Proofs.Ytijkgdbabikojaa.Dk
set_option maxRecDepth 1000000
open Go.RowKit
set_option linter.unusedVariables false

theorem Try.info163 : (Try.prog.info? 163).map (fun i => (i.zero, i.size, i.bytes)) = some (some (.agg #[.string ByteArray.empty, .int .i64 0]), 2, 24) := by kernel_rfl

theorem made_files (n : Nat) (hn : n ≤ 65) : ∃ C : Array Value, (∀ i, i < n → C[i * 2]? = some (str []) ∧ C[i * 2 + 1]? = some (.int .i64 0)) ∧ ∀ w : World, (Instr.makeSlice 103 (.int .i64 n) (.int .i64 n)).run Try.prog w = .ok (.slice (some ⟨w.heap.size, 0, none⟩) n n) (w.alloc (.cells C 163)) := by
  obtain ⟨i0, hi, hz0, hz1, hz2⟩ := info_parts Try.info163
  refine ⟨madeCells #[.string ByteArray.empty, .int .i64 0] (n * 2), fun i hi2 => ⟨?_, ?_⟩, fun w => ?_⟩
  · unfold madeCells
    rw [Array.getElem?_map, Array.getElem?_range, if_pos (by omega)]
    show some ((#[Value.string ByteArray.empty, Value.int .i64 0])[i * 2 % 2]!) = _
    rw [Nat.mul_mod_left]
    rfl
  · unfold madeCells
    rw [Array.getElem?_map, Array.getElem?_range, if_pos (by omega)]
    show some ((#[Value.string ByteArray.empty, Value.int .i64 0])[(i * 2 + 1) % 2]!) = _
    rw [show (i * 2 + 1) % 2 = 1 by omega]
    rfl
  · have := run_make (P := Try.prog) w 103 163 i0 _ Try.underlying103 hi hz0 .i64 .i64 n n (by omega) (Int.le_refl _) (by rw [hz2]; omega) (by omega)
    rw [hz1] at this
    have e : ((n : Int).toNat) = n := by omega
    rw [e] at this
    exact this

set_option maxRecDepth 1000000 in
set_option maxHeartbeats 1000000 in
theorem rnew_no (files room : Int) (w : World) (h : ¬ (1 ≤ files ∧ files ≤ 65 ∧ 0 ≤ room ∧ room ≤ 1048576)) :
    Calls Try.prog 39 #[.int .i64 files, .int .i64 room] w fun e w' => e = .returned (.tuple #[.pointer none, .int .i64 2]) ∧ w' = w := by
  by_cases h1 : files < 1
  · go_enter Try.func39, Try.ntmps39
    go_wp2
    go_ret2
    exact ⟨rfl, rfl⟩
  · by_cases h2 : 65 < files
    · go_enter Try.func39, Try.ntmps39
      go_wp2
      go_ret2
      exact ⟨rfl, rfl⟩
    · by_cases h3 : room < 0
      · go_enter Try.func39, Try.ntmps39
        go_wp2
        go_ret2
        exact ⟨rfl, rfl⟩
      · have h4 : 1048576 < room := by omega
        go_enter Try.func39, Try.ntmps39
        go_wp2
        go_ret2
        exact ⟨rfl, rfl⟩

set_option maxRecDepth 1000000 in
set_option maxHeartbeats 4000000 in
theorem rnew_yes (files room : Nat) (w : World) (h1 : 1 ≤ files) (h2 : files ≤ 65) (h3 : room ≤ 1048576) :
    Calls Try.prog 39 #[.int .i64 files, .int .i64 room] w fun e w' => e = .returned (.tuple #[.pointer (some ⟨w.heap.size + 1, 0, none⟩), .int .i64 0]) ∧ RV w' (w.heap.size + 1) w.heap.size (newP files room) ∧ Below w.heap.size w w' := by
  obtain ⟨C, hC, hmk⟩ := made_files files h2
  have HD : Hid (RV ((w.alloc (.cells C 163)).alloc (.cells #[.slice (some ⟨w.heap.size, 0, none⟩) files files, .int .i64 room, .int .i64 (-1), .bool false] 105)) (w.heap.size + 1) w.heap.size (newP files room)) := by
    have hr : ((w.alloc (.cells C 163)).alloc (.cells #[.slice (some ⟨w.heap.size, 0, none⟩) files files, .int .i64 room, .int .i64 (-1), .bool false] 105)).heap[w.heap.size + 1]? = some (.cells #[.slice (some ⟨w.heap.size, 0, none⟩) files files, .int .i64 room, .int .i64 (-1), .bool false] 105 (0, 0)) := heap_new _ _ _ (by simp)
    have hg : ((w.alloc (.cells C 163)).alloc (.cells #[.slice (some ⟨w.heap.size, 0, none⟩) files files, .int .i64 room, .int .i64 (-1), .bool false] 105)).heap[w.heap.size]? = some (.cells C 163 (0, 0)) := by
      rw [Below.heap_alloc _ _ _ (by simp)]
      exact heap_new _ _ _ rfl
    refine ⟨by omega, ⟨_, hr⟩, ⟨_, hg⟩, by rw [cell_of_row _ _ _ _ 105 (0, 0) hr]; rfl, by rw [cell_of_row _ _ _ _ 105 (0, 0) hr]; rfl, by rw [cell_of_row _ _ _ _ 105 (0, 0) hr]; rfl, by rw [cell_of_row _ _ _ _ 105 (0, 0) hr]; rfl, fun i hi => ?_⟩
    rw [cell_of_row _ _ _ _ 163 (0, 0) hg, cell_of_row _ _ _ _ 163 (0, 0) hg]
    exact hC i hi
  clear hC
  go_enter Try.func39, Try.ntmps39
  go_wp2
  go_ret2
  exact ⟨rfl, HD.out, alloc2 _ _ _⟩

theorem putF_twice (fs : Nat → Fl) (k : Nat) (f f' : Fl) : putF (putF fs k f) k f' = putF fs k f' := by
  funext j
  unfold putF
  split <;> rfl

end Go.Proofs.Ytijkgdbabikojaa.Dk

/- Plain: what each call keeps of a disk. -/
namespace Go.Proofs.Ytijkgdbabikojaa.Dk
set_option maxRecDepth 1000000
set_option linter.unusedVariables false

theorem reach_take {S : DS} {k : Nat} {n : Int} (h : reachP S k n = 0) : 0 ≤ n ∧ n ≤ (S.fs k).b.length := by
  unfold reachP at h
  split at h
  · rename_i hh
    simpa using hh
  · cases h

theorem okay_append {S : DS} (h : Okay S) (i : Int) (l : List UInt8) : Okay (appendP S i l).2 := h.write i _ _ (fun k _ _ _ => by
  show (S.fs k).s ≤ ((S.fs k).b ++ l).length
  rw [List.length_append]
  have := h.syn k
  omega)

theorem okay_sync {S : DS} (h : Okay S) (i : Int) : Okay (syncP S i).2 := h.write i _ _ (fun k _ _ _ => by
  show (S.fs k).b.length ≤ ((S.fs k).b.take _).length
  rw [List.length_take]
  omega)

theorem okay_cut {S : DS} (h : Okay S) (i n : Int) : Okay (cutP S i n).2 := h.write i _ _ (fun k hk _ hm => by
  subst hk
  have := reach_take hm
  show n.toNat ≤ ((S.fs k).b.take _).length
  rw [List.length_take]
  omega)

theorem okay_grow {S : DS} (h : Okay S) (n : Int) : Okay (growP S n).2 := by
  unfold growP
  split
  · exact h
  · exact h.setRoom _

theorem okay_arm {S : DS} (h : Okay S) (n : Int) (hn : n ≤ 9223372036854775807) : Okay (armP S n).2 := by
  unfold armP
  split
  · exact h
  · exact h.setFuse _ (by omega) (by omega)

theorem small_mono {L R L' R' : Nat} {S : DS} (h : Small L R S) (hL : L ≤ L') (hR : R ≤ R') : Small L' R' S := ⟨fun i => Nat.le_trans (h.len i) hL, Nat.le_trans h.room hR⟩

theorem small_turn {L R : Nat} {S : DS} (h : Small L R S) (k : Nat) (f : Fl) (M X : Nat) (hM : f.b.length ≤ L + M) (hX : S.room + (S.fs k).b.length - f.b.length ≤ R + X) : Small (L + M) (R + X) (turnP S k f) := by
  refine ⟨fun i => ?_, hX⟩
  show (putF S.fs k f i).b.length ≤ _
  unfold putF
  split
  · exact hM
  · have := h.len i
    omega

theorem small_write {L R : Nat} {S : DS} (h : Small L R S) (i more : Int) (how : Fl → Fl) (M X : Nat) (hM : ∀ k : Nat, i = k → more = 0 → (how (S.fs k)).b.length ≤ L + M) (hX : ∀ k : Nat, i = k → more = 0 → S.room + (S.fs k).b.length - (how (S.fs k)).b.length ≤ R + X) : Small (L + M) (R + X) (writeP S i more how).2 := by
  have h' : Small (L + M) (R + X) S := small_mono h (by omega) (by omega)
  unfold writeP
  split
  · exact h'
  · split
    · exact h'
    · rename_i h2
      obtain ⟨k, rfl, hk⟩ := hasB_true (by simpa using h2)
      split
      · exact h'
      · split
        · exact ⟨h'.len, h'.room⟩
        · rename_i h3 _
          exact small_turn (S := { S with fuse := burnF S.fuse }) ⟨h.len, h.room⟩ k _ M X (hM k rfl (by simpa using h3)) (hX k rfl (by simpa using h3))

theorem small_append {L R : Nat} {S : DS} (h : Small L R S) (i : Int) (l : List UInt8) : Small (L + l.length) R (appendP S i l).2 := by
  have := small_write h i (fitsP S l.length) (withP l) l.length 0 (fun k _ _ => by
    show ((S.fs k).b ++ l).length ≤ _
    rw [List.length_append]
    have := h.len k
    omega) (fun k _ _ => by
    show S.room + (S.fs k).b.length - ((S.fs k).b ++ l).length ≤ _
    rw [List.length_append]
    have := h.room
    omega)
  exact this

theorem small_sync {L R : Nat} {S : DS} (h : Small L R S) (i : Int) : Small L R (syncP S i).2 := by
  have := small_write h i 0 (fun f => firstP f.b.length f) 0 0 (fun k _ _ => by
    show ((S.fs k).b.take _).length ≤ _
    rw [List.length_take]
    have := h.len k
    omega) (fun k _ _ => by
    show S.room + (S.fs k).b.length - ((S.fs k).b.take _).length ≤ _
    rw [List.length_take]
    have := h.room
    omega)
  exact this

theorem small_cut {L R : Nat} {S : DS} (h : Small L R S) (i n : Int) : Small L (R + L) (cutP S i n).2 := by
  have := small_write h i (reachP S i n) (firstP n.toNat) 0 L (fun k _ _ => by
    show ((S.fs k).b.take _).length ≤ _
    rw [List.length_take]
    have := h.len k
    omega) (fun k _ _ => by
    have := h.room
    have := h.len k
    omega)
  exact this

theorem small_grow {L R : Nat} {S : DS} (h : Small L R S) (n : Int) : Small L (R + 1048576) (growP S n).2 := by
  have h1 := h.room
  by_cases hg : 0 ≤ n ∧ n ≤ 1048576 - (S.room : Int)
  · have hA : growP S n = (0, { S with room := S.room + n.toNat }) := by unfold growP growsP; rw [if_pos hg, if_neg (by simp)]
    rw [hA]
    refine ⟨h.len, ?_⟩
    show S.room + n.toNat ≤ _
    omega
  · have hA : growP S n = (2, S) := by unfold growP growsP; rw [if_neg hg, if_pos (by decide)]
    rw [hA]
    exact small_mono h (Nat.le_refl _) (by omega)

theorem small_arm {L R : Nat} {S : DS} (h : Small L R S) (n : Int) : Small L R (armP S n).2 := by
  unfold armP
  split
  · exact h
  · exact ⟨h.len, h.room⟩

theorem small_crash {L R : Nat} {S : DS} (h : Small L R S) (ho : Okay S) (keep : List Int) : Small L (R + 65 * L) (crashP S keep) := by
  have h1 := crashK_room keep ho h S.n (Nat.le_refl _)
  have h2 := ho.few
  have h3 : S.n * L ≤ 65 * L := Nat.mul_le_mul_right _ h2
  exact ⟨h1.len, Nat.le_trans h1.room (by omega)⟩
end Go.Proofs.Ytijkgdbabikojaa.Dk

/- Plain: the sum of bytes and room; crashes; a fuse that burns. -/
namespace Go.Proofs.Ytijkgdbabikojaa.Dk
set_option maxRecDepth 1000000
set_option linter.unusedVariables false

def tot3 (S : DS) : Nat := S.room + (S.fs 0).b.length + (S.fs 1).b.length + (S.fs 2).b.length

theorem tot_turn {S : DS} {k : Nat} {f : Fl} (hk : k < 3) (hf : f.b.length ≤ S.room + (S.fs k).b.length) : tot3 (turnP S k f) = tot3 S := by
  show S.room + (S.fs k).b.length - f.b.length + (putF S.fs k f 0).b.length + (putF S.fs k f 1).b.length + (putF S.fs k f 2).b.length = _
  unfold tot3
  match k, hk with
  | 0, _ => rw [putF_same, putF_other _ _ _ _ (by omega), putF_other _ _ _ _ (by omega)]; omega
  | 1, _ => rw [putF_same, putF_other _ _ _ _ (by omega), putF_other _ _ _ _ (by omega)]; omega
  | 2, _ => rw [putF_same, putF_other _ _ _ _ (by omega), putF_other _ _ _ _ (by omega)]; omega

theorem write_n (S : DS) (i more : Int) (how : Fl → Fl) : (writeP S i more how).2.n = S.n := by
  unfold writeP
  split
  · rfl
  · split
    · rfl
    · split
      · rfl
      · split <;> rfl

theorem tot_write {S : DS} (hn : S.n = 3) (i more : Int) (how : Fl → Fl) (h : ∀ k : Nat, i = k → more = 0 → (how (S.fs k)).b.length ≤ S.room + (S.fs k).b.length) : tot3 (writeP S i more how).2 = tot3 S := by
  unfold writeP
  split
  · rfl
  · split
    · rfl
    · rename_i h2
      obtain ⟨k, rfl, hk⟩ := hasB_true (by simpa using h2)
      split
      · rfl
      · split
        · rfl
        · rename_i h3 _
          exact tot_turn (S := { S with fuse := burnF S.fuse }) (by omega) (h k rfl (by simpa using h3))

theorem tot_crashK {S : DS} (hn : S.n = 3) (keep : List Int) : ∀ k, k ≤ 3 → tot3 (crashK keep S k) = tot3 S
  | 0, _ => rfl
  | k + 1, hk => by
    have ih := tot_crashK hn keep k (by omega)
    show tot3 (turnP (crashK keep S k) k _) = _
    rw [tot_turn (by omega) ?_, ih]
    show (List.take _ _).length ≤ _
    rw [List.length_take]
    omega

theorem growP_n (S : DS) (n : Int) : (growP S n).2.n = S.n := by unfold growP; split <;> rfl
theorem growP_fs (S : DS) (n : Int) : (growP S n).2.fs = S.fs := by unfold growP; split <;> rfl
theorem armP_n (S : DS) (n : Int) : (armP S n).2.n = S.n := by unfold armP; split <;> rfl
theorem armP_tot (S : DS) (n : Int) : tot3 (armP S n).2 = tot3 S := by unfold armP; split <;> rfl
theorem crashP_n (S : DS) (keep : List Int) : (crashP S keep).n = S.n := crashK_n keep S S.n

theorem crashP_fs (S : DS) (keep : List Int) (i : Nat) (hi : i < S.n) : (crashP S keep).fs i = tornP (keep.getD i 0) (S.fs i) := by
  show (crashK keep S S.n).fs i = _
  rw [crashK_fs, if_pos hi]

/-- A disk of three files, n - j of whose fuse is left, or that is down. -/
structure DD (n j : Nat) (S : DS) : Prop where
  three : S.n = 3
  up : j ≤ n → S.down = false ∧ S.fuse = (n : Int) - j
  dn : n < j → S.down = true

theorem dead_write {n j : Nat} {S : DS} (h : DD n j S) (k : Nat) (hk : k < 3) (how : Fl → Fl) : (writeP S k 0 how).1 = (if j < n then 0 else 9) ∧ DD n (j + 1) (writeP S k 0 how).2 := by
  have h3 := h.three
  have hh : hasB S k = true := by unfold hasB; simp; omega
  unfold writeP
  by_cases h1 : n < j
  · have hd := h.dn h1
    rw [if_pos hd, if_neg (by omega)]
    exact ⟨rfl, h3, fun hx => by omega, fun _ => hd⟩
  · obtain ⟨hu, hf⟩ := h.up (by omega)
    rw [if_neg (by rw [hu]; decide), if_neg (by rw [hh]; decide), if_neg (by simp)]
    by_cases h2 : j < n
    · rw [if_neg (by rw [hf]; omega), if_pos h2]
      refine ⟨rfl, h3, fun _ => ⟨hu, ?_⟩, fun hx => by omega⟩
      show burnF S.fuse = _
      unfold burnF
      rw [hf, if_pos (by omega)]
      omega
    · rw [if_pos (by rw [hf]; omega), if_neg h2]
      exact ⟨rfl, h3, fun hx => by omega, fun _ => rfl⟩

theorem dead_sync {n j : Nat} {S : DS} (h : DD n j S) (k : Nat) (hk : k < 3) : (syncP S k).1 = (if j < n then 0 else 9) ∧ DD n (j + 1) (syncP S k).2 := dead_write h k hk _

theorem dead_cut {n j : Nat} {S : DS} (h : DD n j S) (k : Nat) (hk : k < 3) : (cutP S k (S.fs k).b.length).1 = (if j < n then 0 else 9) ∧ DD n (j + 1) (cutP S k (S.fs k).b.length).2 := by
  have hr : reachP S k (S.fs k).b.length = 0 := by unfold reachP; rw [if_pos (by simp)]
  unfold cutP
  rw [hr]
  exact dead_write h k hk _

theorem dead_arm {S : DS} (h3 : S.n = 3) (hd : S.down = false) (n : Nat) : (armP S n).1 = 0 ∧ DD n 0 (armP S n).2 := by
  unfold armP
  rw [if_neg (by rw [hd]; decide)]
  exact ⟨rfl, h3, fun _ => ⟨hd, by show max (n : Int) (-1) = _; omega⟩, fun hx => by omega⟩
end Go.Proofs.Ytijkgdbabikojaa.Dk

/- The walk over disk.New. -/
namespace Go.Proofs.Ytijkgdbabikojaa.Dk
set_option maxRecDepth 1000000
open Go.RowKit
set_option linter.unusedVariables false

theorem zero_size : Try.zeroCells69.size = 134 := by kernel_rfl
theorem zero_down : Try.zeroCells69[133]? = some (.bool false) := by kernel_rfl
theorem zero_cnt : Try.zeroCells69[130]? = some (.int .i64 0) := by kernel_rfl
theorem zero_file : ∀ i, i < 65 → Try.zeroCells69[i * 2]? = some (.slice none 0 0) ∧ Try.zeroCells69[i * 2 + 1]? = some (.int .i64 0)
  | 0, _ => ⟨by kernel_rfl, by kernel_rfl⟩
  | 1, _ => ⟨by kernel_rfl, by kernel_rfl⟩
  | 2, _ => ⟨by kernel_rfl, by kernel_rfl⟩
  | 3, _ => ⟨by kernel_rfl, by kernel_rfl⟩
  | 4, _ => ⟨by kernel_rfl, by kernel_rfl⟩
  | 5, _ => ⟨by kernel_rfl, by kernel_rfl⟩
  | 6, _ => ⟨by kernel_rfl, by kernel_rfl⟩
  | 7, _ => ⟨by kernel_rfl, by kernel_rfl⟩
  | 8, _ => ⟨by kernel_rfl, by kernel_rfl⟩
  | 9, _ => ⟨by kernel_rfl, by kernel_rfl⟩
  | 10, _ => ⟨by kernel_rfl, by kernel_rfl⟩
  | 11, _ => ⟨by kernel_rfl, by kernel_rfl⟩
  | 12, _ => ⟨by kernel_rfl, by kernel_rfl⟩
  | 13, _ => ⟨by kernel_rfl, by kernel_rfl⟩
  | 14, _ => ⟨by kernel_rfl, by kernel_rfl⟩
  | 15, _ => ⟨by kernel_rfl, by kernel_rfl⟩
  | 16, _ => ⟨by kernel_rfl, by kernel_rfl⟩
  | 17, _ => ⟨by kernel_rfl, by kernel_rfl⟩
  | 18, _ => ⟨by kernel_rfl, by kernel_rfl⟩
  | 19, _ => ⟨by kernel_rfl, by kernel_rfl⟩
  | 20, _ => ⟨by kernel_rfl, by kernel_rfl⟩
  | 21, _ => ⟨by kernel_rfl, by kernel_rfl⟩
  | 22, _ => ⟨by kernel_rfl, by kernel_rfl⟩
  | 23, _ => ⟨by kernel_rfl, by kernel_rfl⟩
  | 24, _ => ⟨by kernel_rfl, by kernel_rfl⟩
  | 25, _ => ⟨by kernel_rfl, by kernel_rfl⟩
  | 26, _ => ⟨by kernel_rfl, by kernel_rfl⟩
  | 27, _ => ⟨by kernel_rfl, by kernel_rfl⟩
  | 28, _ => ⟨by kernel_rfl, by kernel_rfl⟩
  | 29, _ => ⟨by kernel_rfl, by kernel_rfl⟩
  | 30, _ => ⟨by kernel_rfl, by kernel_rfl⟩
  | 31, _ => ⟨by kernel_rfl, by kernel_rfl⟩
  | 32, _ => ⟨by kernel_rfl, by kernel_rfl⟩
  | 33, _ => ⟨by kernel_rfl, by kernel_rfl⟩
  | 34, _ => ⟨by kernel_rfl, by kernel_rfl⟩
  | 35, _ => ⟨by kernel_rfl, by kernel_rfl⟩
  | 36, _ => ⟨by kernel_rfl, by kernel_rfl⟩
  | 37, _ => ⟨by kernel_rfl, by kernel_rfl⟩
  | 38, _ => ⟨by kernel_rfl, by kernel_rfl⟩
  | 39, _ => ⟨by kernel_rfl, by kernel_rfl⟩
  | 40, _ => ⟨by kernel_rfl, by kernel_rfl⟩
  | 41, _ => ⟨by kernel_rfl, by kernel_rfl⟩
  | 42, _ => ⟨by kernel_rfl, by kernel_rfl⟩
  | 43, _ => ⟨by kernel_rfl, by kernel_rfl⟩
  | 44, _ => ⟨by kernel_rfl, by kernel_rfl⟩
  | 45, _ => ⟨by kernel_rfl, by kernel_rfl⟩
  | 46, _ => ⟨by kernel_rfl, by kernel_rfl⟩
  | 47, _ => ⟨by kernel_rfl, by kernel_rfl⟩
  | 48, _ => ⟨by kernel_rfl, by kernel_rfl⟩
  | 49, _ => ⟨by kernel_rfl, by kernel_rfl⟩
  | 50, _ => ⟨by kernel_rfl, by kernel_rfl⟩
  | 51, _ => ⟨by kernel_rfl, by kernel_rfl⟩
  | 52, _ => ⟨by kernel_rfl, by kernel_rfl⟩
  | 53, _ => ⟨by kernel_rfl, by kernel_rfl⟩
  | 54, _ => ⟨by kernel_rfl, by kernel_rfl⟩
  | 55, _ => ⟨by kernel_rfl, by kernel_rfl⟩
  | 56, _ => ⟨by kernel_rfl, by kernel_rfl⟩
  | 57, _ => ⟨by kernel_rfl, by kernel_rfl⟩
  | 58, _ => ⟨by kernel_rfl, by kernel_rfl⟩
  | 59, _ => ⟨by kernel_rfl, by kernel_rfl⟩
  | 60, _ => ⟨by kernel_rfl, by kernel_rfl⟩
  | 61, _ => ⟨by kernel_rfl, by kernel_rfl⟩
  | 62, _ => ⟨by kernel_rfl, by kernel_rfl⟩
  | 63, _ => ⟨by kernel_rfl, by kernel_rfl⟩
  | 64, _ => ⟨by kernel_rfl, by kernel_rfl⟩
  | n + 65, h => absurd h (by omega)

set_option maxRecDepth 1000000 in
set_option maxHeartbeats 1000000 in
theorem new_no (files room : Int) (w : World) (h : ¬ (1 ≤ files ∧ files ≤ 65 ∧ 0 ≤ room ∧ room ≤ 1048576)) :
    Calls Try.prog 22 #[.int .i64 files, .int .i64 room] w fun e w' => e = .returned (.tuple #[.pointer none, .int .i64 2]) ∧ w' = w := by
  by_cases h1 : files < 1
  · go_enter Try.func22, Try.ntmps22
    go_wp2
    go_ret2
    exact ⟨rfl, rfl⟩
  · by_cases h2 : 65 < files
    · go_enter Try.func22, Try.ntmps22
      go_wp2
      go_ret2
      exact ⟨rfl, rfl⟩
    · by_cases h3 : room < 0
      · go_enter Try.func22, Try.ntmps22
        go_wp2
        go_ret2
        exact ⟨rfl, rfl⟩
      · have h4 : 1048576 < room := by omega
        go_enter Try.func22, Try.ntmps22
        go_wp2
        go_ret2
        exact ⟨rfl, rfl⟩

theorem new_disk (files room : Nat) (w : World) : DK (fun k => k = w.heap.size) (w.alloc (.cells (((Try.zeroCells69.setIfInBounds 130 (.int .i64 files)).setIfInBounds 131 (.int .i64 room)).setIfInBounds 132 (.int .i64 (-1))) 69)) w.heap.size (newP files room) := by
  have hz := zero_size
  obtain ⟨cs, hcs⟩ : ∃ cs, cs = ((Try.zeroCells69.setIfInBounds 130 (.int .i64 files)).setIfInBounds 131 (.int .i64 room)).setIfInBounds 132 (.int .i64 (-1)) := ⟨_, rfl⟩
  rw [← hcs]
  have hsz : cs.size = 134 := by rw [hcs]; simp [hz]
  have hrow : (w.alloc (.cells cs 69)).heap[w.heap.size]? = some (.cells cs 69 (0, 0)) := heap_alloc_new _ _
  have hcell : ∀ o, (w.alloc (.cells cs 69)).cell? ⟨w.heap.size, o, none⟩ = cs[o]? := fun o => cell_of_row _ _ _ cs 69 (0, 0) hrow
  have hget : ∀ o, o ≠ 130 → o ≠ 131 → o ≠ 132 → cs[o]? = Try.zeroCells69[o]? := fun o h1 h2 h3 => by
    rw [hcs, Array.getElem?_setIfInBounds_ne (by omega), Array.getElem?_setIfInBounds_ne (by omega), Array.getElem?_setIfInBounds_ne (by omega)]
  refine ⟨fun _ => .slice none 0 0, ⟨cs, hrow, hsz⟩, rfl, fun k hk => by rw [hk]; simp, ?_, ?_, ?_, ?_, fun i hi => ?_, fun i g hi hg => by simp [Value.ownBlock] at hg, fun i j g hi hj _ hg => by simp [Value.ownBlock] at hg⟩
  · rw [hcell, hcs]
    simp [hz, newP]
  · rw [hcell, hcs]
    simp [hz, newP]
  · rw [hcell, hcs]
    simp [hz, newP]
  · rw [hcell, hget _ (by omega) (by omega) (by omega)]
    exact zero_down
  · obtain ⟨z1, z2⟩ := zero_file i hi
    refine ⟨?_, ?_, World.ownsRow_nil _ _ _ _⟩
    · rw [hcell, hget _ (by omega) (by omega) (by omega)]
      exact z1
    · rw [hcell, hget _ (by omega) (by omega) (by omega)]
      exact z2

set_option maxRecDepth 1000000 in
set_option maxHeartbeats 4000000 in
theorem new_yes (files room : Nat) (w : World) (h1 : 1 ≤ files) (h2 : files ≤ 65) (h3 : room ≤ 1048576) :
    Calls Try.prog 22 #[.int .i64 files, .int .i64 room] w fun e w' => e = .returned (.tuple #[.pointer (some ⟨w.heap.size, 0, none⟩), .int .i64 0]) ∧ DK (fun k => k = w.heap.size) w' w.heap.size (newP files room) ∧ Below w.heap.size w w' := by
  have HD : Hid (DK (fun k => k = w.heap.size) (w.alloc (.cells (((Try.zeroCells69.setIfInBounds 130 (.int .i64 files)).setIfInBounds 131 (.int .i64 room)).setIfInBounds 132 (.int .i64 (-1))) 69)) w.heap.size (newP files room)) := new_disk files room w
  go_enter Try.func22, Try.ntmps22
  go_wp2
  go_ret2
  exact ⟨rfl, HD.out, (Below.refl _ _).alloc (Nat.le_refl _) _⟩
end Go.Proofs.Ytijkgdbabikojaa.Dk

/- A disk of the call's own, handed on; the laws' lives: the document's examples. -/
namespace Go.Proofs.Ytijkgdbabikojaa.Dk
set_option maxRecDepth 1000000
open Go.RowKit
set_option linter.unusedVariables false

theorem RB.newf (w : World) (l : List UInt8) (cs : Array Value) (t : TypeId) (fr : Nat × Nat) (k : Nat) (hk : k = w.heap.size) (h : cs.toList = bvs l) (hl : l.length ≤ 1000000) : RB (w.alloc (.cells cs t fr)) (.slice (some ⟨k, 0, none⟩) l.length l.length) l := by
  subst hk
  refine ⟨_, _, rfl, Nat.le_refl _, by unfold maxLen; omega, (fun h => by cases h), fun i hi => ⟨_, _, rfl, ?_⟩⟩
  rw [Nat.zero_add, cell_of_row _ _ _ cs t fr (heap_alloc_new _ _), ← Array.getElem?_toList, h]
  simp [bvs, hi]

/-- A disk whose blocks are the call's own. -/
structure LD (B : Nat) (w : World) (p : Nat) (S : DS) (L R : Nat) : Prop where
  dk : ∃ T, DK T w p S ∧ ∀ k, T k → B ≤ k
  ok : Okay S
  sm : Small L R S
  hB : B ≤ w.heap.size

theorem LD.later {B : Nat} {w w' : World} {p : Nat} {S : DS} {L R : Nat} (h : LD B w p S L R) (hb : Below w.heap.size w w') : LD B w' p S L R := by
  obtain ⟨⟨T, h1, h2⟩, h3, h4, h5⟩ := h
  exact ⟨⟨T, h1.later hb, h2⟩, h3, h4, Nat.le_trans h5 hb.size⟩

theorem WR.ld {T : Nat → Prop} {B : Nat} {w w' : World} {p : Nat} {res : Int × DS} {e : Ending} {L R : Nat} (h : WR T w p res e w') (hT : ∀ k, T k → B ≤ k) (hB : B ≤ w.heap.size) (ho : Okay res.2) (hs : Small L R res.2) : e = .returned (.int .i64 res.1) ∧ LD B w' p res.2 L R ∧ Below B w w' := by
  obtain ⟨h1, h2, h3⟩ := h
  refine ⟨h1, ⟨⟨_, h2, fun k hk => ?_⟩, ho, hs, Nat.le_trans hB h3.size⟩, h3.below hB hT⟩
  rcases hk with hk | hk
  · exact hT k hk
  · exact Nat.le_trans hB hk.1

theorem d_append {B : Nat} {wp : World} {p : Nat} {S : DS} {L R : Nat} (h : LD B wp p S L R) (i : Int) (l : List UInt8) (cs : Array Value) (fr : Nat × Nat) (hcs : cs.toList = bvs l) (hl : l.length ≤ 1000000) (hL : L ≤ 10000000) (hR : R ≤ 1000000000000) :
    Calls Try.prog 49 #[.pointer (some ⟨p, 0, none⟩), .int .i64 i, .slice (some ⟨wp.heap.size, 0, none⟩) l.length l.length] (wp.alloc (.cells cs 5 fr)) fun e w' => e = .returned (.int .i64 (appendP S i l).1) ∧ LD B w' p (appendP S i l).2 (L + l.length) R ∧ Below B wp w' := by
  obtain ⟨⟨T, h1, h2⟩, h3, h4, h5⟩ := h
  have hb : Below wp.heap.size wp (wp.alloc (.cells cs 5 fr)) := (Below.refl _ _).alloc (Nat.le_refl _) _
  have hT := h1.live
  refine Calls.mono (append_any T _ p S i _ l (h1.later hb) h3 (small_mono h4 hL hR) (RB.newf wp l cs 5 fr _ rfl hcs hl) (by omega) (fun a n c he hx => by cases he; exact Nat.lt_irrefl _ (hT _ hx))) ?_
  intro e w' hw
  obtain ⟨q1, q2, q3⟩ := hw.ld h2 (Nat.le_trans h5 hb.size) (okay_append h3 i l) (small_append h4 i l)
  exact ⟨q1, q2, (hb.mono h5).trans q3⟩

theorem d_sync {B : Nat} {w : World} {p : Nat} {S : DS} {L R : Nat} (h : LD B w p S L R) (i : Int) (hL : L ≤ 10000000) (hR : R ≤ 1000000000000) :
    Calls Try.prog 24 #[.pointer (some ⟨p, 0, none⟩), .int .i64 i] w fun e w' => e = .returned (.int .i64 (syncP S i).1) ∧ LD B w' p (syncP S i).2 L R ∧ Below B w w' := by
  obtain ⟨⟨T, h1, h2⟩, h3, h4, h5⟩ := h
  refine Calls.mono (sync_any T _ p S i h1 h3 (small_mono h4 hL hR)) ?_
  intro e w' hw
  exact hw.ld h2 h5 (okay_sync h3 i) (small_sync h4 i)

theorem d_cut {B : Nat} {w : World} {p : Nat} {S : DS} {L R : Nat} (h : LD B w p S L R) (i n : Int) (hL : L ≤ 10000000) (hR : R ≤ 1000000000000) :
    Calls Try.prog 62 #[.pointer (some ⟨p, 0, none⟩), .int .i64 i, .int .i64 n] w fun e w' => e = .returned (.int .i64 (cutP S i n).1) ∧ LD B w' p (cutP S i n).2 L (R + L) ∧ Below B w w' := by
  obtain ⟨⟨T, h1, h2⟩, h3, h4, h5⟩ := h
  refine Calls.mono (cut_any T _ p S i n h1 h3 (small_mono h4 hL hR)) ?_
  intro e w' hw
  exact hw.ld h2 h5 (okay_cut h3 i n) (small_cut h4 i n)

theorem d_arm {B : Nat} {w : World} {p : Nat} {S : DS} {L R : Nat} (h : LD B w p S L R) (n : Int) (hn : n ≤ 9223372036854775807) :
    Calls Try.prog 17 #[.pointer (some ⟨p, 0, none⟩), .int .i64 n] w fun e w' => e = .returned (.int .i64 (armP S n).1) ∧ LD B w' p (armP S n).2 L R ∧ Below B w w' := by
  obtain ⟨⟨T, h1, h2⟩, h3, h4, h5⟩ := h
  refine Calls.mono (arm_any T _ p S n h1 h3) ?_
  intro e w' hw
  exact hw.ld h2 h5 (okay_arm h3 n hn) (small_arm h4 n)

theorem d_crash {B : Nat} {w : World} {p : Nat} {S : DS} {L R : Nat} (h : LD B w p S L R) (kv : Value) (keep : List Int) (hr : RI w kv keep) (hk : 0 < keep.length → ∀ a n c, kv = .slice (some a) n c → a.block < B) (hl : keep.length ≤ 1000000) (hL : L ≤ 10000000) (hR : R ≤ 900000000000) :
    Calls Try.prog 12 #[.pointer (some ⟨p, 0, none⟩), kv] w fun e w' => e = .returned (.int .i64 0) ∧ LD B w' p (crashP S keep) L (R + 65 * L) ∧ Below B w w' := by
  obtain ⟨⟨T, h1, h2⟩, h3, h4, h5⟩ := h
  refine Calls.mono (crash_any T _ p S kv keep h1 h3 (small_mono h4 hL hR) hr (fun h0 a n c he hx => by have := hk h0 a n c he; have := h2 _ hx; omega) hl) ?_
  intro e w' hw
  exact hw.ld h2 h5 (h3.crash keep) (small_crash h4 h3 keep)

theorem d_crash1 {B : Nat} {wp : World} {p : Nat} {S : DS} {L R : Nat} (h : LD B wp p S L R) (x : Int) (hL : L ≤ 10000000) (hR : R ≤ 900000000000) :
    Calls Try.prog 12 #[.pointer (some ⟨p, 0, none⟩), .slice (some ⟨wp.heap.size, 0, none⟩) 1 1] (wp.alloc (.cells #[.int .i64 x] 3)) fun e w' => e = .returned (.int .i64 0) ∧ LD B w' p (crashP S [x]) L (R + 65 * L) ∧ Below B wp w' := by
  obtain ⟨⟨T, h1, h2⟩, h3, h4, h5⟩ := h
  have hb : Below wp.heap.size wp (wp.alloc (.cells #[.int .i64 x] 3)) := (Below.refl _ _).alloc (Nat.le_refl _) _
  have hT := h1.live
  have hri : RI (wp.alloc (.cells #[.int .i64 x] 3)) (.slice (some ⟨wp.heap.size, 0, none⟩) 1 1) [x] := by
    refine ⟨_, 1, rfl, Nat.le_refl _, by unfold maxLen; omega, fun i hi => ⟨_, _, rfl, ?_⟩⟩
    have : i = 0 := by simp at hi; omega
    subst this
    exact cell_alloc1 _ _ _ _ rfl
  refine Calls.mono (crash_any T _ p S _ [x] (h1.later hb) h3 (small_mono h4 hL hR) hri (fun _ a n c he hx => by cases he; exact Nat.lt_irrefl _ (hT _ hx)) (by simp)) ?_
  intro e w' hw
  obtain ⟨q1, q2, q3⟩ := hw.ld h2 (Nat.le_trans h5 hb.size) (h3.crash [x]) (small_crash h4 h3 [x])
  exact ⟨q1, q2, (hb.mono h5).trans q3⟩

theorem d_read {B : Nat} {w : World} {p : Nat} {S : DS} {L R : Nat} (h : LD B w p S L R) (i : Int) (hL : L ≤ 10000000) (hR : R ≤ 1000000000000) :
    Calls Try.prog 11 #[.pointer (some ⟨p, 0, none⟩), .int .i64 i] w fun e w' => (∃ v, e = .returned v ∧ RBf w.heap.size w' v (readP S i)) ∧ LD B w' p S L R ∧ Below w.heap.size w w' := by
  have h0 := h
  obtain ⟨⟨T, h1, h2⟩, h3, h4, h5⟩ := h
  refine Calls.mono (read_any T _ p S i h1 h3 (small_mono h4 hL hR)) ?_
  rintro e w' ⟨q1, q2⟩
  exact ⟨q1, h0.later q2, q2⟩

theorem d_synced {B : Nat} {w : World} {p : Nat} {S : DS} {L R : Nat} (h : LD B w p S L R) (i : Int) (hL : L ≤ 10000000) (hR : R ≤ 1000000000000) :
    Calls Try.prog 15 #[.pointer (some ⟨p, 0, none⟩), .int .i64 i] w fun e w' => e = .returned (.int .i64 (syncedP S i)) ∧ LD B w' p S L R ∧ Below w.heap.size w w' := by
  have h0 := h
  obtain ⟨⟨T, h1, h2⟩, h3, h4, h5⟩ := h
  refine Calls.mono (synced_any T _ p S i h1 h3 (small_mono h4 hL hR)) ?_
  rintro e w' ⟨q1, q2⟩
  exact ⟨q1, h0.later q2, q2⟩

theorem okay_new {n room : Nat} (h1 : 1 ≤ n) (h2 : n ≤ 65) : Okay (newP n room) :=
  ⟨h1, h2, fun i => Nat.le_refl _, fun i _ => rfl, by show -1 ≤ (-1 : Int); omega, by show (-1 : Int) ≤ _; omega⟩
theorem small_new (n room : Nat) : Small 0 room (newP n room) := ⟨fun i => Nat.le_refl _, Nat.le_refl _⟩

theorem d_new (files room : Nat) (w : World) (h1 : 1 ≤ files) (h2 : files ≤ 65) (h3 : room ≤ 1048576) :
    Calls Try.prog 22 #[.int .i64 files, .int .i64 room] w fun e w' => ∃ p, e = .returned (.tuple #[.pointer (some ⟨p, 0, none⟩), .int .i64 0]) ∧ LD w.heap.size w' p (newP files room) 0 room ∧ Below w.heap.size w w' := by
  refine Calls.mono (new_yes files room w h1 h2 h3) ?_
  rintro e w' ⟨q1, q2, q3⟩
  exact ⟨_, q1, ⟨⟨_, q2, fun k hk => by rw [hk]; exact Nat.le_refl _⟩, okay_new h1 h2, small_new _ _, q3.size⟩, q3⟩

def v0 : DS := newP 2 9
def v1 : DS := (appendP v0 0 [97, 98, 99]).2
def v2 : DS := (syncP v1 0).2
def v3 : DS := (appendP v2 0 [100, 101]).2
def v4 : DS := (appendP v3 1 [120]).2
def v5 : DS := crashP v4 [1]
def v6 : DS := (armP v5 1).2
def v7 : DS := (appendP v6 1 [121]).2
def v8 : DS := (syncP v7 1).2

theorem k1 : (appendP v0 0 [97, 98, 99]).1 = 0 := by decide +kernel
theorem k2 : (syncP v1 0).1 = 0 := by decide +kernel
theorem k3 : (appendP v2 0 [100, 101]).1 = 0 := by decide +kernel
theorem k4 : (appendP v3 1 [120]).1 = 0 := by decide +kernel
theorem k5a : readP v5 0 = [97, 98, 99, 100] := by decide +kernel
theorem k5b : readP v5 1 = [] := by decide +kernel
theorem k5c : v5.room = 5 := by decide +kernel
theorem k6 : (armP v5 1).1 = 0 := by decide +kernel
theorem k7 : (appendP v6 1 [121]).1 = 0 := by decide +kernel
theorem k8 : (syncP v7 1).1 = 9 := by decide +kernel
theorem k8d : v8.down = true := by decide +kernel

end Go.Proofs.Ytijkgdbabikojaa.Dk

/- All calls of no disk, and of one that nothing made. -/
namespace Go.Proofs.Ytijkgdbabikojaa.Dk
set_option maxRecDepth 1000000
open Go.RowKit
set_option linter.unusedVariables false

/-- A pointer whose calls all answer that nothing made it. -/
def Dead (pp : Option Addr) (w : World) : Prop := ∀ wx dv sl, Below w.heap.size w wx → Calls Try.prog 27 #[.pointer pp, dv, sl] wx fun e w' => e = .returned (.int .i64 1) ∧ w' = wx

theorem dead_nil (w : World) : Dead none w := fun wx dv sl _ => call_nil dv sl wx
theorem dead_unmade (q : Nat) (w : World) (h : w.cell? ⟨q, 130, none⟩ = some (.int .i64 0)) : Dead (some ⟨q, 0, none⟩) w := fun wx dv sl hb => call_unmade q dv sl wx (cell_later hb h)
theorem Dead.later {pp : Option Addr} {w w' : World} (h : Dead pp w) (hb : Below w.heap.size w w') : Dead pp w' := fun wx dv sl hx => h wx dv sl (hb.trans (hx.mono hb.size))

set_option maxRecDepth 1000000 in
set_option maxHeartbeats 1000000 in
theorem n_files (pp : Option Addr) (w : World) (hd : Dead pp w) : Calls Try.prog 61 #[.pointer pp] w fun e w' => e = .returned (.int .i64 0) ∧ Below w.heap.size w w' := by
  have HD : Hid (Dead pp w) := hd
  clear hd
  have hmf : ∀ (fn : Fn) (first cap : Array Value) (w : World), (Instr.makeFunc fn first cap).run Try.prog w = .ok (.func fn first cap) w := fun _ _ _ _ => rfl
  go_enter Try.func61, Try.ntmps61
  go_wp2_with fail
  refine Calls.mono (HD.out _ _ _ (alloc2 _ _ _)) ?_
  rintro e w2 ⟨rfl, rfl⟩
  go_wp2_with fail
  go_ret
  exact ⟨rfl, alloc2 _ _ _⟩

end Go.Proofs.Ytijkgdbabikojaa.Dk

