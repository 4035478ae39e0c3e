/- The walks over the document's New and Crash. -/
import Derived.Test.YtbbmbjlpccdclaaXb
import Derived.Test.YtbbmbjlpccdclaaWq
namespace Go.Proofs.Ytbbmbjlpccdclaa
open Go.RowKit
set_option linter.unusedVariables false

theorem Try.info64 : (Try.prog.info? 64).map (fun i => (i.zero, i.size, i.bytes)) = some (some (.agg #[.string ByteArray.empty, .int .i64 0]), 2, 24) := by kernel_rfl

theorem made_files (n : Nat) (hn : n ≤ 65) : ∃ C : Array Value, (∀ i, i < n → C[i * 2]? = some (str []) ∧ C[i * 2 + 1]? = some (.int .i64 0)) ∧ ∀ w : World, (Instr.makeSlice 58 (.int .i64 n) (.int .i64 n)).run Try.prog w = .ok (.slice (some ⟨w.heap.size, 0, none⟩) n n) (w.alloc (.cells C 64)) := by
  obtain ⟨i0, hi, hz0, hz1, hz2⟩ := info_parts Try.info64
  refine ⟨madeCells #[.string ByteArray.empty, .int .i64 0] (n * 2), fun i hi2 => ⟨?_, ?_⟩, fun w => ?_⟩
  · unfold madeCells
    rw [Array.getElem?_map, Array.getElem?_range, if_pos (by omega)]
    show some ((#[Value.string ByteArray.empty, Value.int .i64 0])[i * 2 % 2]!) = _
    rw [Nat.mul_mod_left]
    rfl
  · unfold madeCells
    rw [Array.getElem?_map, Array.getElem?_range, if_pos (by omega)]
    show some ((#[Value.string ByteArray.empty, Value.int .i64 0])[(i * 2 + 1) % 2]!) = _
    rw [show (i * 2 + 1) % 2 = 1 by omega]
    rfl
  · have := run_make (P := Try.prog) w 58 64 i0 _ Try.underlying58 hi hz0 .i64 .i64 n n (by omega) (Int.le_refl _) (by rw [hz2]; omega) (by omega)
    rw [hz1] at this
    have e : ((n : Int).toNat) = n := by omega
    rw [e] at this
    exact this

set_option maxRecDepth 1000000 in
set_option maxHeartbeats 1000000 in
theorem rnew_no (files room : Int) (w : World) (h : ¬ (1 ≤ files ∧ files ≤ 65 ∧ 0 ≤ room ∧ room ≤ 1048576)) :
    Calls Try.prog 11 #[.int .i64 files, .int .i64 room] w fun e w' => e = .returned (.tuple #[.pointer none, .int .i64 2]) ∧ w' = w := by
  by_cases h1 : files < 1
  · go_enter Try.func11, Try.ntmps11
    go_wp2
    go_ret2
    exact ⟨rfl, rfl⟩
  · by_cases h2 : 65 < files
    · go_enter Try.func11, Try.ntmps11
      go_wp2
      go_ret2
      exact ⟨rfl, rfl⟩
    · by_cases h3 : room < 0
      · go_enter Try.func11, Try.ntmps11
        go_wp2
        go_ret2
        exact ⟨rfl, rfl⟩
      · have h4 : 1048576 < room := by omega
        go_enter Try.func11, Try.ntmps11
        go_wp2
        go_ret2
        exact ⟨rfl, rfl⟩

set_option maxRecDepth 1000000 in
set_option maxHeartbeats 4000000 in
theorem rnew_yes (files room : Nat) (w : World) (h1 : 1 ≤ files) (h2 : files ≤ 65) (h3 : room ≤ 1048576) :
    Calls Try.prog 11 #[.int .i64 files, .int .i64 room] w fun e w' => e = .returned (.tuple #[.pointer (some ⟨w.heap.size + 1, 0, none⟩), .int .i64 0]) ∧ RV w' (w.heap.size + 1) w.heap.size (newP files room) ∧ Below w.heap.size w w' := by
  obtain ⟨C, hC, hmk⟩ := made_files files h2
  have HD : Hid (RV ((w.alloc (.cells C 64)).alloc (.cells #[.slice (some ⟨w.heap.size, 0, none⟩) files files, .int .i64 room, .int .i64 (-1), .bool false] 60)) (w.heap.size + 1) w.heap.size (newP files room)) := by
    have hr : ((w.alloc (.cells C 64)).alloc (.cells #[.slice (some ⟨w.heap.size, 0, none⟩) files files, .int .i64 room, .int .i64 (-1), .bool false] 60)).heap[w.heap.size + 1]? = some (.cells #[.slice (some ⟨w.heap.size, 0, none⟩) files files, .int .i64 room, .int .i64 (-1), .bool false] 60 (0, 0)) := heap_new _ _ _ (by simp)
    have hg : ((w.alloc (.cells C 64)).alloc (.cells #[.slice (some ⟨w.heap.size, 0, none⟩) files files, .int .i64 room, .int .i64 (-1), .bool false] 60)).heap[w.heap.size]? = some (.cells C 64 (0, 0)) := by
      rw [Below.heap_alloc _ _ _ (by simp)]
      exact heap_new _ _ _ rfl
    refine ⟨by omega, ⟨_, hr⟩, ⟨_, hg⟩, by rw [cell_of_row _ _ _ _ 60 (0, 0) hr]; rfl, by rw [cell_of_row _ _ _ _ 60 (0, 0) hr]; rfl, by rw [cell_of_row _ _ _ _ 60 (0, 0) hr]; rfl, by rw [cell_of_row _ _ _ _ 60 (0, 0) hr]; rfl, fun i hi => ?_⟩
    rw [cell_of_row _ _ _ _ 64 (0, 0) hg, cell_of_row _ _ _ _ 64 (0, 0) hg]
    exact hC i hi
  clear hC
  go_enter Try.func11, Try.ntmps11
  go_wp2
  go_ret2
  exact ⟨rfl, HD.out, alloc2 _ _ _⟩

theorem putF_twice (fs : Nat → Fl) (k : Nat) (f f' : Fl) : putF (putF fs k f) k f' = putF fs k f' := by
  funext j
  unfold putF
  split <;> rfl

set_option maxRecDepth 1000000 in
set_option maxHeartbeats 4000000 in
theorem rcrash_any {r g : Nat} {S : DS} {w : World} (kv : Value) (keep : List Int) (h : RV w r g S) (ho : Okay S) (hs : Small 10000000 900000000000 S) (hr : RI w kv keep) (hkT : 0 < keep.length → ∀ a n c, kv = .slice (some a) n c → a.block ≠ r ∧ a.block ≠ g) (hl : keep.length ≤ 1000000) :
    Calls Try.prog 30 #[.pointer (some ⟨r, 0, none⟩), kv] w fun e w' => e = .returned (.tuple #[]) ∧ RV w' r g (crashP S keep) ∧ Kp (fun k => k = r ∨ k = g) w w' := by
  have HRI : Hid (∀ wr, Kp (fun k => k = r ∨ k = g) w wr → RI wr kv keep) := fun wr hk => hr.kept hk (fun h0 a n c he hT => by rcases hT with h1 | h1; exact (hkT h0 a n c he).1 h1; exact (hkT h0 a n c he).2 h1)
  have HE : Hid (crashP S keep = { crashK keep S S.n with fuse := -1, down := false }) := rfl
  have hfew := ho.few
  obtain ⟨S2, HS2⟩ : ∃ S2, Hid (S2 = crashP S keep) := ⟨_, rfl⟩
  rw [← HS2.out] at HE ⊢
  obtain ⟨a, cap, rfl, _, _, _⟩ := hr
  obtain ⟨n, HN⟩ : ∃ n, Hid (S.n = n) := ⟨_, rfl⟩
  rw [HN.out] at hfew HE
  have HR0 : Hid (RV w r g (crashK keep S 0)) := h
  have HKN : Hid (∀ k, (crashK keep S k).n = n) := fun k => (crashK_n keep S k).trans HN.out
  have HSM : Hid (∀ k, k ≤ n → Small 10000000 (900000000000 + k * 10000000) (crashK keep S k)) := fun k hk => crashK_room keep ho hs k (by rw [HN.out]; exact hk)
  have HOK : Hid (∀ k, k ≤ n → Okay (crashK keep S k)) := fun k hk => ho.crashK keep k (by rw [HN.out]; exact hk)
  clear hkT h ho hs
  go_enter Try.func30, Try.ntmps30
  go_wp2_with fail
  go_loopw [4] (fun i wr => ∃ k : Nat, k ≤ n ∧ i = .int .i64 k ∧ Hid (RV wr r g (crashK keep S k)) ∧ Hid (Kp (fun k => k = r ∨ k = g) w wr)) (fun i _ => n - (intOf i).toNat)
  case atStart => exact ⟨0, Nat.zero_le _, rfl, HR0, Kp.refl _ _⟩
  case round =>
    obtain ⟨k, hk, rfl, HR, HK⟩ := hrel
    have t0 := HR.out.sl
    rw [HKN.out] at t0
    by_cases hlt : k < n
    · have hsm := HSM.out k hk
      have hok := HOK.out k hk
      have hfl := HR.out.file k (by rw [HKN.out]; exact hlt)
      have hrm := HR.out.rm
      have hfz := HR.out.frz
      have hln := hsm.len k
      have hrr := hsm.room
      have hsy := hok.syn k
      have hbs := str_size ((crashK keep S k).fs k).b
      have HE1 : Hid (crashK keep S (k + 1) = turnP (crashK keep S k) k (tornP (keep.getD k 0) ((crashK keep S k).fs k))) := rfl
      have HQn : Hid ((crashK keep S k).n = n) := HKN.out k
      have HQN : Hid (k < (crashK keep S k).n) := by show _ < _; rw [HKN.out]; exact hlt
      generalize crashK keep S k = Q at *
      have t1 : wr.cell? ⟨g, k * 2, none⟩ = some (.string ⟨(Q.fs k).b.toArray⟩) := hfl.1
      have t2 := hfl.2
      have HT : Hid ((tornN (keep.getD k 0) (Q.fs k) : Int) = (Q.fs k).s + min (max (keep.getD k 0) 0) ((Q.fs k).b.length - (Q.fs k).s)) := by
        show _ = _
        unfold tornN
        omega
      have HTL : Hid (tornN (keep.getD k 0) (Q.fs k) ≤ (Q.fs k).b.length) := (tornN_le _ _ hsy).2
      obtain ⟨bl, HBL⟩ : ∃ bl, Hid ((Q.fs k).b.length = bl) := ⟨_, rfl⟩
      obtain ⟨s, HSS⟩ : ∃ s, Hid ((Q.fs k).s = s) := ⟨_, rfl⟩
      obtain ⟨x, HX⟩ : ∃ x, Hid (Q.room = x) := ⟨_, rfl⟩
      rw [HBL.out] at hbs hln hsy HT HTL
      rw [HSS.out] at t2 hsy HT
      rw [HX.out] at hrm hrr
      clear hfl hsm hok HSM HOK HKN HE HR0 hfz
      by_cases hkl : k < keep.length
      · obtain ⟨a', cap', he, _, _, hcc⟩ := HRI.out wr HK.out
        simp only [Value.slice.injEq] at he
        obtain ⟨rfl, _, rfl⟩ := he
        obtain ⟨b, off, rfl, hcell⟩ := hcc k hkl
        clear hcc HRI
        obtain ⟨q, HQ⟩ : ∃ q, Hid (keep.getD k 0 = q) := ⟨_, rfl⟩
        rw [HQ.out] at HT HTL HE1 hcell
        by_cases c1 : q < 0
        · go_wp2_with fail
          go_region
          go_wp2_with fail
          obtain ⟨m, HM⟩ : ∃ m, Hid (tornN q (Q.fs k) = m) := ⟨_, rfl⟩
          rw [HM.out] at HT HTL
          have hmb : m ≤ bl := HTL.out
          have hr1 := HR.out.frz.1
          have hms : (s : Int) = (m : Int) := by have := HT.out; omega
          rw [hms]
          clear hms
          have hw1 : IntKind.i64.wrap ((x : Int) + (bl : Int)) = (x : Int) + (bl : Int) := by rw [IntKind.wrap_i64]; omega
          have hw2 : IntKind.i64.wrap ((x : Int) + (bl : Int) - (m : Int)) = (x : Int) + (bl : Int) - (m : Int) := by rw [IntKind.wrap_i64]; omega
          go_region
          rw [show (x : Int) + (bl : Int) - (m : Int) = ((x + bl - m : Nat) : Int) by omega]
          have HR3 : Hid (RV ((wr.setCell ⟨r, 1, none⟩ (.int .i64 ((x + bl - m : Nat) : Int))).drew.drew) r g { Q with room := x + bl - m }) := ((HR.out.setRoom _).drew).drew
          have HK3 : Hid _ := ((HK.out.set ⟨r, 1, none⟩ (.int .i64 ((x + bl - m : Nat) : Int)) (.inl rfl)).drew).drew
          generalize (wr.setCell ⟨r, 1, none⟩ (.int .i64 ((x + bl - m : Nat) : Int))).drew.drew = w3 at *
          have p0 := HR3.out.sl
          rw [show ({ Q with room := x + bl - m } : DS).n = n from HQn.out] at p0
          have p1 : w3.cell? ⟨g, k * 2, none⟩ = some (.string ⟨(Q.fs k).b.toArray⟩) := (HR3.out.file k HQN.out).1
          have p1b := (HR3.out.file k HQN.out).2
          have p3 := HR3.out.frz.2
          clear t0 t1 t2 hrm hw1 hw2 hr1
          go_wp2_with fail
          go_region
          rw [str_take _ _ (by rw [HBL.out]; exact hmb)]
          have HR5 : Hid (RV (((w3.setCell ⟨g, k * 2, none⟩ (.string ⟨((Q.fs k).b.take m).toArray⟩)).setCell ⟨g, k * 2 + 1, none⟩ (.int .i64 m)).drew) r g (crashK keep S (k + 1))) := by
            have := ((HR3.out.setB k HQN.out ((Q.fs k).b.take m)).setS k HQN.out m).drew
            simp only [putF_same] at this
            rw [putF_twice] at this
            rw [HE1.out]
            unfold turnP tornP firstP
            simp only [HM.out, List.length_take, HX.out, HBL.out]
            rw [Nat.min_eq_left hmb]
            exact this
          have HK5 : Hid _ := ((HK3.out.set ⟨g, k * 2, none⟩ (.string ⟨((Q.fs k).b.take m).toArray⟩) (.inr rfl)).set ⟨g, k * 2 + 1, none⟩ (.int .i64 m) (.inr rfl)).drew
          generalize ((w3.setCell ⟨g, k * 2, none⟩ (.string ⟨((Q.fs k).b.take m).toArray⟩)).setCell ⟨g, k * 2 + 1, none⟩ (.int .i64 m)).drew = w5 at *
          clear p0 p1 p1b p3
          go_wp2_with fail
          go_roundw
          case rel => exact ⟨k + 1, by omega, by go_num, HR5, HK5⟩
          case measure => simp [intOf]; omega
        · by_cases c2 : q ≤ (bl : Int) - (s : Int)
          · have c3 : 0 ≤ q := by omega
            go_wp2_with fail
            go_region
            go_wp2_with fail
            obtain ⟨m, HM⟩ : ∃ m, Hid (tornN q (Q.fs k) = m) := ⟨_, rfl⟩
            rw [HM.out] at HT HTL
            have hmb : m ≤ bl := HTL.out
            have hr1 := HR.out.frz.1
            rw [show q + (s : Int) = (m : Int) by have := HT.out; omega]
            have hw1 : IntKind.i64.wrap ((x : Int) + (bl : Int)) = (x : Int) + (bl : Int) := by rw [IntKind.wrap_i64]; omega
            have hw2 : IntKind.i64.wrap ((x : Int) + (bl : Int) - (m : Int)) = (x : Int) + (bl : Int) - (m : Int) := by rw [IntKind.wrap_i64]; omega
            go_region
            rw [show (x : Int) + (bl : Int) - (m : Int) = ((x + bl - m : Nat) : Int) by omega]
            have HR3 : Hid (RV ((wr.setCell ⟨r, 1, none⟩ (.int .i64 ((x + bl - m : Nat) : Int))).drew.drew) r g { Q with room := x + bl - m }) := ((HR.out.setRoom _).drew).drew
            have HK3 : Hid _ := ((HK.out.set ⟨r, 1, none⟩ (.int .i64 ((x + bl - m : Nat) : Int)) (.inl rfl)).drew).drew
            generalize (wr.setCell ⟨r, 1, none⟩ (.int .i64 ((x + bl - m : Nat) : Int))).drew.drew = w3 at *
            have p0 := HR3.out.sl
            rw [show ({ Q with room := x + bl - m } : DS).n = n from HQn.out] at p0
            have p1 : w3.cell? ⟨g, k * 2, none⟩ = some (.string ⟨(Q.fs k).b.toArray⟩) := (HR3.out.file k HQN.out).1
            have p1b := (HR3.out.file k HQN.out).2
            have p3 := HR3.out.frz.2
            clear t0 t1 t2 hrm hw1 hw2 hr1
            go_wp2_with fail
            go_region
            rw [str_take _ _ (by rw [HBL.out]; exact hmb)]
            have HR5 : Hid (RV (((w3.setCell ⟨g, k * 2, none⟩ (.string ⟨((Q.fs k).b.take m).toArray⟩)).setCell ⟨g, k * 2 + 1, none⟩ (.int .i64 m)).drew) r g (crashK keep S (k + 1))) := by
              have := ((HR3.out.setB k HQN.out ((Q.fs k).b.take m)).setS k HQN.out m).drew
              simp only [putF_same] at this
              rw [putF_twice] at this
              rw [HE1.out]
              unfold turnP tornP firstP
              simp only [HM.out, List.length_take, HX.out, HBL.out]
              rw [Nat.min_eq_left hmb]
              exact this
            have HK5 : Hid _ := ((HK3.out.set ⟨g, k * 2, none⟩ (.string ⟨((Q.fs k).b.take m).toArray⟩) (.inr rfl)).set ⟨g, k * 2 + 1, none⟩ (.int .i64 m) (.inr rfl)).drew
            generalize ((w3.setCell ⟨g, k * 2, none⟩ (.string ⟨((Q.fs k).b.take m).toArray⟩)).setCell ⟨g, k * 2 + 1, none⟩ (.int .i64 m)).drew = w5 at *
            clear p0 p1 p1b p3
            go_wp2_with fail
            go_roundw
            case rel => exact ⟨k + 1, by omega, by go_num, HR5, HK5⟩
            case measure => simp [intOf]; omega
          · have c3 : 0 ≤ q := by omega
            have c4 : (bl : Int) - (s : Int) < q := by omega
            go_wp2_with fail
            go_region
            go_wp2_with fail
            obtain ⟨m, HM⟩ : ∃ m, Hid (tornN q (Q.fs k) = m) := ⟨_, rfl⟩
            rw [HM.out] at HT HTL
            have hmb : m ≤ bl := HTL.out
            have hr1 := HR.out.frz.1
            rw [show (bl : Int) = (m : Int) by have := HT.out; omega]
            have hw1 : IntKind.i64.wrap ((x : Int) + (bl : Int)) = (x : Int) + (bl : Int) := by rw [IntKind.wrap_i64]; omega
            have hw2 : IntKind.i64.wrap ((x : Int) + (bl : Int) - (m : Int)) = (x : Int) + (bl : Int) - (m : Int) := by rw [IntKind.wrap_i64]; omega
            go_region
            rw [show (x : Int) + (bl : Int) - (m : Int) = ((x + bl - m : Nat) : Int) by omega]
            have HR3 : Hid (RV ((wr.setCell ⟨r, 1, none⟩ (.int .i64 ((x + bl - m : Nat) : Int))).drew.drew) r g { Q with room := x + bl - m }) := ((HR.out.setRoom _).drew).drew
            have HK3 : Hid _ := ((HK.out.set ⟨r, 1, none⟩ (.int .i64 ((x + bl - m : Nat) : Int)) (.inl rfl)).drew).drew
            generalize (wr.setCell ⟨r, 1, none⟩ (.int .i64 ((x + bl - m : Nat) : Int))).drew.drew = w3 at *
            have p0 := HR3.out.sl
            rw [show ({ Q with room := x + bl - m } : DS).n = n from HQn.out] at p0
            have p1 : w3.cell? ⟨g, k * 2, none⟩ = some (.string ⟨(Q.fs k).b.toArray⟩) := (HR3.out.file k HQN.out).1
            have p1b := (HR3.out.file k HQN.out).2
            have p3 := HR3.out.frz.2
            clear t0 t1 t2 hrm hw1 hw2 hr1
            go_wp2_with fail
            go_region
            rw [str_take _ _ (by rw [HBL.out]; exact hmb)]
            have HR5 : Hid (RV (((w3.setCell ⟨g, k * 2, none⟩ (.string ⟨((Q.fs k).b.take m).toArray⟩)).setCell ⟨g, k * 2 + 1, none⟩ (.int .i64 m)).drew) r g (crashK keep S (k + 1))) := by
              have := ((HR3.out.setB k HQN.out ((Q.fs k).b.take m)).setS k HQN.out m).drew
              simp only [putF_same] at this
              rw [putF_twice] at this
              rw [HE1.out]
              unfold turnP tornP firstP
              simp only [HM.out, List.length_take, HX.out, HBL.out]
              rw [Nat.min_eq_left hmb]
              exact this
            have HK5 : Hid _ := ((HK3.out.set ⟨g, k * 2, none⟩ (.string ⟨((Q.fs k).b.take m).toArray⟩) (.inr rfl)).set ⟨g, k * 2 + 1, none⟩ (.int .i64 m) (.inr rfl)).drew
            generalize ((w3.setCell ⟨g, k * 2, none⟩ (.string ⟨((Q.fs k).b.take m).toArray⟩)).setCell ⟨g, k * 2 + 1, none⟩ (.int .i64 m)).drew = w5 at *
            clear p0 p1 p1b p3
            go_wp2_with fail
            go_roundw
            case rel => exact ⟨k + 1, by omega, by go_num, HR5, HK5⟩
            case measure => simp [intOf]; omega
      · have hq0 : keep.getD k 0 = 0 := by rw [List.getD_eq_getElem?_getD, List.getElem?_eq_none (by omega)]; rfl
        rw [hq0] at HT HTL HE1
        clear hq0
        go_wp2_with fail
        go_region
        go_wp2_with fail
        obtain ⟨m, HM⟩ : ∃ m, Hid (tornN 0 (Q.fs k) = m) := ⟨_, rfl⟩
        rw [HM.out] at HT HTL
        have hmb : m ≤ bl := HTL.out
        have hr1 := HR.out.frz.1
        have hms : (s : Int) = (m : Int) := by have := HT.out; omega
        rw [hms]
        clear hms
        have hw1 : IntKind.i64.wrap ((x : Int) + (bl : Int)) = (x : Int) + (bl : Int) := by rw [IntKind.wrap_i64]; omega
        have hw2 : IntKind.i64.wrap ((x : Int) + (bl : Int) - (m : Int)) = (x : Int) + (bl : Int) - (m : Int) := by rw [IntKind.wrap_i64]; omega
        go_region
        rw [show (x : Int) + (bl : Int) - (m : Int) = ((x + bl - m : Nat) : Int) by omega]
        have HR3 : Hid (RV ((wr.setCell ⟨r, 1, none⟩ (.int .i64 ((x + bl - m : Nat) : Int))).drew.drew) r g { Q with room := x + bl - m }) := ((HR.out.setRoom _).drew).drew
        have HK3 : Hid _ := ((HK.out.set ⟨r, 1, none⟩ (.int .i64 ((x + bl - m : Nat) : Int)) (.inl rfl)).drew).drew
        generalize (wr.setCell ⟨r, 1, none⟩ (.int .i64 ((x + bl - m : Nat) : Int))).drew.drew = w3 at *
        have p0 := HR3.out.sl
        rw [show ({ Q with room := x + bl - m } : DS).n = n from HQn.out] at p0
        have p1 : w3.cell? ⟨g, k * 2, none⟩ = some (.string ⟨(Q.fs k).b.toArray⟩) := (HR3.out.file k HQN.out).1
        have p1b := (HR3.out.file k HQN.out).2
        have p3 := HR3.out.frz.2
        clear t0 t1 t2 hrm hw1 hw2 hr1
        go_wp2_with fail
        go_region
        rw [str_take _ _ (by rw [HBL.out]; exact hmb)]
        have HR5 : Hid (RV (((w3.setCell ⟨g, k * 2, none⟩ (.string ⟨((Q.fs k).b.take m).toArray⟩)).setCell ⟨g, k * 2 + 1, none⟩ (.int .i64 m)).drew) r g (crashK keep S (k + 1))) := by
          have := ((HR3.out.setB k HQN.out ((Q.fs k).b.take m)).setS k HQN.out m).drew
          simp only [putF_same] at this
          rw [putF_twice] at this
          rw [HE1.out]
          unfold turnP tornP firstP
          simp only [HM.out, List.length_take, HX.out, HBL.out]
          rw [Nat.min_eq_left hmb]
          exact this
        have HK5 : Hid _ := ((HK3.out.set ⟨g, k * 2, none⟩ (.string ⟨((Q.fs k).b.take m).toArray⟩) (.inr rfl)).set ⟨g, k * 2 + 1, none⟩ (.int .i64 m) (.inr rfl)).drew
        generalize ((w3.setCell ⟨g, k * 2, none⟩ (.string ⟨((Q.fs k).b.take m).toArray⟩)).setCell ⟨g, k * 2 + 1, none⟩ (.int .i64 m)).drew = w5 at *
        clear p0 p1 p1b p3
        go_wp2_with fail
        go_roundw
        case rel => exact ⟨k + 1, by omega, by go_num, HR5, HK5⟩
        case measure => simp [intOf]; omega
    · have hkn : k = n := by omega
      subst hkn
      have q0 := HR.out.fu
      have q1 := HR.out.dn
      have q2 := HR.out.frz.1
      clear HRI
      go_wp2_with fail
      go_end0
      refine ⟨rfl, ?_, (HK.out.set _ _ (.inl rfl)).set _ _ (.inl rfl)⟩
      rw [HE.out]
      exact (HR.out.setFuse (-1)).setDown false
end Go.Proofs.Ytbbmbjlpccdclaa
