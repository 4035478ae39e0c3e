/- Texts of the seat, packed: DXc DMb DMc DWr. -/
import Derived.Test.YtijkgdbabikojaaGreatP06
import Derived.Test.YtijkgdbabikojaaGreatP08
import Derived.Test.YtijkgdbabikojaaGreatP04
/- The walks over the document's New and Crash. -/
namespace Go.Proofs.YtijkgdbabikojaaGreat.Dk
set_option maxRecDepth 1000000
open Go.RowKit
set_option linter.unusedVariables false

theorem Tryz.info73 : (Tryz.prog.info? 73).map (fun i => (i.zero, i.size, i.bytes)) = some (some (.agg #[.string ByteArray.empty, .int .i64 0]), 2, 24) := by kernel_rfl

theorem made_files (n : Nat) (hn : n ≤ 65) : ∃ C : Array Value, (∀ i, i < n → C[i * 2]? = some (str []) ∧ C[i * 2 + 1]? = some (.int .i64 0)) ∧ ∀ w : World, (Instr.makeSlice 74 (.int .i64 n) (.int .i64 n)).run Tryz.prog w = .ok (.slice (some ⟨w.heap.size, 0, none⟩) n n) (w.alloc (.cells C 73)) := by
  obtain ⟨i0, hi, hz0, hz1, hz2⟩ := info_parts Tryz.info73
  refine ⟨madeCells #[.string ByteArray.empty, .int .i64 0] (n * 2), fun i hi2 => ⟨?_, ?_⟩, fun w => ?_⟩
  · unfold madeCells
    rw [Array.getElem?_map, Array.getElem?_range, if_pos (by omega)]
    show some ((#[Value.string ByteArray.empty, Value.int .i64 0])[i * 2 % 2]!) = _
    rw [Nat.mul_mod_left]
    rfl
  · unfold madeCells
    rw [Array.getElem?_map, Array.getElem?_range, if_pos (by omega)]
    show some ((#[Value.string ByteArray.empty, Value.int .i64 0])[(i * 2 + 1) % 2]!) = _
    rw [show (i * 2 + 1) % 2 = 1 by omega]
    rfl
  · have := run_make (P := Tryz.prog) w 74 73 i0 _ Tryz.underlying74 hi hz0 .i64 .i64 n n (by omega) (Int.le_refl _) (by rw [hz2]; omega) (by omega)
    rw [hz1] at this
    have e : ((n : Int).toNat) = n := by omega
    rw [e] at this
    exact this

set_option maxRecDepth 1000000 in
set_option maxHeartbeats 1000000 in
theorem rnew_no (files room : Int) (w : World) (h : ¬ (1 ≤ files ∧ files ≤ 65 ∧ 0 ≤ room ∧ room ≤ 1048576)) :
    Calls Tryz.prog 14 #[.int .i64 files, .int .i64 room] w fun e w' => e = .returned (.tuple #[.pointer none, .int .i64 2]) ∧ w' = w := by
  by_cases h1 : files < 1
  · go_enter Tryz.func14, Tryz.ntmps14
    go_wp2
    go_ret2
    exact ⟨rfl, rfl⟩
  · by_cases h2 : 65 < files
    · go_enter Tryz.func14, Tryz.ntmps14
      go_wp2
      go_ret2
      exact ⟨rfl, rfl⟩
    · by_cases h3 : room < 0
      · go_enter Tryz.func14, Tryz.ntmps14
        go_wp2
        go_ret2
        exact ⟨rfl, rfl⟩
      · have h4 : 1048576 < room := by omega
        go_enter Tryz.func14, Tryz.ntmps14
        go_wp2
        go_ret2
        exact ⟨rfl, rfl⟩

set_option maxRecDepth 1000000 in
set_option maxHeartbeats 4000000 in
theorem rnew_yes (files room : Nat) (w : World) (h1 : 1 ≤ files) (h2 : files ≤ 65) (h3 : room ≤ 1048576) :
    Calls Tryz.prog 14 #[.int .i64 files, .int .i64 room] w fun e w' => e = .returned (.tuple #[.pointer (some ⟨w.heap.size + 1, 0, none⟩), .int .i64 0]) ∧ RV w' (w.heap.size + 1) w.heap.size (newP files room) ∧ Below w.heap.size w w' := by
  obtain ⟨C, hC, hmk⟩ := made_files files h2
  have HD : Hid (RV ((w.alloc (.cells C 73)).alloc (.cells #[.slice (some ⟨w.heap.size, 0, none⟩) files files, .int .i64 room, .int .i64 (-1), .bool false] 76)) (w.heap.size + 1) w.heap.size (newP files room)) := by
    have hr : ((w.alloc (.cells C 73)).alloc (.cells #[.slice (some ⟨w.heap.size, 0, none⟩) files files, .int .i64 room, .int .i64 (-1), .bool false] 76)).heap[w.heap.size + 1]? = some (.cells #[.slice (some ⟨w.heap.size, 0, none⟩) files files, .int .i64 room, .int .i64 (-1), .bool false] 76 (0, 0)) := heap_new _ _ _ (by simp)
    have hg : ((w.alloc (.cells C 73)).alloc (.cells #[.slice (some ⟨w.heap.size, 0, none⟩) files files, .int .i64 room, .int .i64 (-1), .bool false] 76)).heap[w.heap.size]? = some (.cells C 73 (0, 0)) := by
      rw [Below.heap_alloc _ _ _ (by simp)]
      exact heap_new _ _ _ rfl
    refine ⟨by omega, ⟨_, hr⟩, ⟨_, hg⟩, by rw [cell_of_row _ _ _ _ 76 (0, 0) hr]; rfl, by rw [cell_of_row _ _ _ _ 76 (0, 0) hr]; rfl, by rw [cell_of_row _ _ _ _ 76 (0, 0) hr]; rfl, by rw [cell_of_row _ _ _ _ 76 (0, 0) hr]; rfl, fun i hi => ?_⟩
    rw [cell_of_row _ _ _ _ 73 (0, 0) hg, cell_of_row _ _ _ _ 73 (0, 0) hg]
    exact hC i hi
  clear hC
  go_enter Tryz.func14, Tryz.ntmps14
  go_wp2
  go_ret2
  exact ⟨rfl, HD.out, alloc2 _ _ _⟩

theorem putF_twice (fs : Nat → Fl) (k : Nat) (f f' : Fl) : putF (putF fs k f) k f' = putF fs k f' := by
  funext j
  unfold putF
  split <;> rfl

set_option maxRecDepth 1000000 in
set_option maxHeartbeats 4000000 in
theorem rcrash_any {r g : Nat} {S : DS} {w : World} (kv : Value) (keep : List Int) (h : RV w r g S) (ho : Okay S) (hs : Small 10000000 900000000000 S) (hr : RI w kv keep) (hkT : 0 < keep.length → ∀ a n c, kv = .slice (some a) n c → a.block ≠ r ∧ a.block ≠ g) (hl : keep.length ≤ 1000000) :
    Calls Tryz.prog 18 #[.pointer (some ⟨r, 0, none⟩), kv] w fun e w' => e = .returned (.tuple #[]) ∧ RV w' r g (crashP S keep) ∧ Kp (fun k => k = r ∨ k = g) w w' := by
  have HRI : Hid (∀ wr, Kp (fun k => k = r ∨ k = g) w wr → RI wr kv keep) := fun wr hk => hr.kept hk (fun h0 a n c he hT => by rcases hT with h1 | h1; exact (hkT h0 a n c he).1 h1; exact (hkT h0 a n c he).2 h1)
  have HE : Hid (crashP S keep = { crashK keep S S.n with fuse := -1, down := false }) := rfl
  have hfew := ho.few
  obtain ⟨S2, HS2⟩ : ∃ S2, Hid (S2 = crashP S keep) := ⟨_, rfl⟩
  rw [← HS2.out] at HE ⊢
  obtain ⟨a, cap, rfl, _, _, _⟩ := hr
  obtain ⟨n, HN⟩ : ∃ n, Hid (S.n = n) := ⟨_, rfl⟩
  rw [HN.out] at hfew HE
  have HR0 : Hid (RV w r g (crashK keep S 0)) := h
  have HKN : Hid (∀ k, (crashK keep S k).n = n) := fun k => (crashK_n keep S k).trans HN.out
  have HSM : Hid (∀ k, k ≤ n → Small 10000000 (900000000000 + k * 10000000) (crashK keep S k)) := fun k hk => crashK_room keep ho hs k (by rw [HN.out]; exact hk)
  have HOK : Hid (∀ k, k ≤ n → Okay (crashK keep S k)) := fun k hk => ho.crashK keep k (by rw [HN.out]; exact hk)
  clear hkT h ho hs
  go_enter Tryz.func18, Tryz.ntmps18
  go_wp2_with fail
  go_loopw [4] (fun i wr => ∃ k : Nat, k ≤ n ∧ i = .int .i64 k ∧ Hid (RV wr r g (crashK keep S k)) ∧ Hid (Kp (fun k => k = r ∨ k = g) w wr)) (fun i _ => n - (intOf i).toNat)
  case atStart => exact ⟨0, Nat.zero_le _, rfl, HR0, Kp.refl _ _⟩
  case round =>
    obtain ⟨k, hk, rfl, HR, HK⟩ := hrel
    have t0 := HR.out.sl
    rw [HKN.out] at t0
    by_cases hlt : k < n
    · have hsm := HSM.out k hk
      have hok := HOK.out k hk
      have hfl := HR.out.file k (by rw [HKN.out]; exact hlt)
      have hrm := HR.out.rm
      have hfz := HR.out.frz
      have hln := hsm.len k
      have hrr := hsm.room
      have hsy := hok.syn k
      have hbs := str_size ((crashK keep S k).fs k).b
      have HE1 : Hid (crashK keep S (k + 1) = turnP (crashK keep S k) k (tornP (keep.getD k 0) ((crashK keep S k).fs k))) := rfl
      have HQn : Hid ((crashK keep S k).n = n) := HKN.out k
      have HQN : Hid (k < (crashK keep S k).n) := by show _ < _; rw [HKN.out]; exact hlt
      generalize crashK keep S k = Q at *
      have t1 : wr.cell? ⟨g, k * 2, none⟩ = some (.string ⟨(Q.fs k).b.toArray⟩) := hfl.1
      have t2 := hfl.2
      have HT : Hid ((tornN (keep.getD k 0) (Q.fs k) : Int) = (Q.fs k).s + min (max (keep.getD k 0) 0) ((Q.fs k).b.length - (Q.fs k).s)) := by
        show _ = _
        unfold tornN
        omega
      have HTL : Hid (tornN (keep.getD k 0) (Q.fs k) ≤ (Q.fs k).b.length) := (tornN_le _ _ hsy).2
      obtain ⟨bl, HBL⟩ : ∃ bl, Hid ((Q.fs k).b.length = bl) := ⟨_, rfl⟩
      obtain ⟨s, HSS⟩ : ∃ s, Hid ((Q.fs k).s = s) := ⟨_, rfl⟩
      obtain ⟨x, HX⟩ : ∃ x, Hid (Q.room = x) := ⟨_, rfl⟩
      rw [HBL.out] at hbs hln hsy HT HTL
      rw [HSS.out] at t2 hsy HT
      rw [HX.out] at hrm hrr
      clear hfl hsm hok HSM HOK HKN HE HR0 hfz
      by_cases hkl : k < keep.length
      · obtain ⟨a', cap', he, _, _, hcc⟩ := HRI.out wr HK.out
        simp only [Value.slice.injEq] at he
        obtain ⟨rfl, _, rfl⟩ := he
        obtain ⟨b, off, rfl, hcell⟩ := hcc k hkl
        clear hcc HRI
        obtain ⟨q, HQ⟩ : ∃ q, Hid (keep.getD k 0 = q) := ⟨_, rfl⟩
        rw [HQ.out] at HT HTL HE1 hcell
        by_cases c1 : q < 0
        · go_wp2_with fail
          go_region
          go_wp2_with fail
          obtain ⟨m, HM⟩ : ∃ m, Hid (tornN q (Q.fs k) = m) := ⟨_, rfl⟩
          rw [HM.out] at HT HTL
          have hmb : m ≤ bl := HTL.out
          have hr1 := HR.out.frz.1
          have hms : (s : Int) = (m : Int) := by have := HT.out; omega
          rw [hms]
          clear hms
          have hw1 : IntKind.i64.wrap ((x : Int) + (bl : Int)) = (x : Int) + (bl : Int) := by rw [IntKind.wrap_i64]; omega
          have hw2 : IntKind.i64.wrap ((x : Int) + (bl : Int) - (m : Int)) = (x : Int) + (bl : Int) - (m : Int) := by rw [IntKind.wrap_i64]; omega
          go_region
          rw [show (x : Int) + (bl : Int) - (m : Int) = ((x + bl - m : Nat) : Int) by omega]
          have HR3 : Hid (RV ((wr.setCell ⟨r, 1, none⟩ (.int .i64 ((x + bl - m : Nat) : Int))).drew.drew) r g { Q with room := x + bl - m }) := ((HR.out.setRoom _).drew).drew
          have HK3 : Hid _ := ((HK.out.set ⟨r, 1, none⟩ (.int .i64 ((x + bl - m : Nat) : Int)) (.inl rfl)).drew).drew
          generalize (wr.setCell ⟨r, 1, none⟩ (.int .i64 ((x + bl - m : Nat) : Int))).drew.drew = w3 at *
          have p0 := HR3.out.sl
          rw [show ({ Q with room := x + bl - m } : DS).n = n from HQn.out] at p0
          have p1 : w3.cell? ⟨g, k * 2, none⟩ = some (.string ⟨(Q.fs k).b.toArray⟩) := (HR3.out.file k HQN.out).1
          have p1b := (HR3.out.file k HQN.out).2
          have p3 := HR3.out.frz.2
          clear t0 t1 t2 hrm hw1 hw2 hr1
          go_wp2_with fail
          go_region
          rw [str_take _ _ (by rw [HBL.out]; exact hmb)]
          have HR5 : Hid (RV (((w3.setCell ⟨g, k * 2, none⟩ (.string ⟨((Q.fs k).b.take m).toArray⟩)).setCell ⟨g, k * 2 + 1, none⟩ (.int .i64 m)).drew) r g (crashK keep S (k + 1))) := by
            have := ((HR3.out.setB k HQN.out ((Q.fs k).b.take m)).setS k HQN.out m).drew
            simp only [putF_same] at this
            rw [putF_twice] at this
            rw [HE1.out]
            unfold turnP tornP firstP
            simp only [HM.out, List.length_take, HX.out, HBL.out]
            rw [Nat.min_eq_left hmb]
            exact this
          have HK5 : Hid _ := ((HK3.out.set ⟨g, k * 2, none⟩ (.string ⟨((Q.fs k).b.take m).toArray⟩) (.inr rfl)).set ⟨g, k * 2 + 1, none⟩ (.int .i64 m) (.inr rfl)).drew
          generalize ((w3.setCell ⟨g, k * 2, none⟩ (.string ⟨((Q.fs k).b.take m).toArray⟩)).setCell ⟨g, k * 2 + 1, none⟩ (.int .i64 m)).drew = w5 at *
          clear p0 p1 p1b p3
          go_wp2_with fail
          go_roundw
          case rel => exact ⟨k + 1, by omega, by go_num, HR5, HK5⟩
          case measure => simp [intOf]; omega
        · by_cases c2 : q ≤ (bl : Int) - (s : Int)
          · have c3 : 0 ≤ q := by omega
            go_wp2_with fail
            go_region
            go_wp2_with fail
            obtain ⟨m, HM⟩ : ∃ m, Hid (tornN q (Q.fs k) = m) := ⟨_, rfl⟩
            rw [HM.out] at HT HTL
            have hmb : m ≤ bl := HTL.out
            have hr1 := HR.out.frz.1
            rw [show q + (s : Int) = (m : Int) by have := HT.out; omega]
            have hw1 : IntKind.i64.wrap ((x : Int) + (bl : Int)) = (x : Int) + (bl : Int) := by rw [IntKind.wrap_i64]; omega
            have hw2 : IntKind.i64.wrap ((x : Int) + (bl : Int) - (m : Int)) = (x : Int) + (bl : Int) - (m : Int) := by rw [IntKind.wrap_i64]; omega
            go_region
            rw [show (x : Int) + (bl : Int) - (m : Int) = ((x + bl - m : Nat) : Int) by omega]
            have HR3 : Hid (RV ((wr.setCell ⟨r, 1, none⟩ (.int .i64 ((x + bl - m : Nat) : Int))).drew.drew) r g { Q with room := x + bl - m }) := ((HR.out.setRoom _).drew).drew
            have HK3 : Hid _ := ((HK.out.set ⟨r, 1, none⟩ (.int .i64 ((x + bl - m : Nat) : Int)) (.inl rfl)).drew).drew
            generalize (wr.setCell ⟨r, 1, none⟩ (.int .i64 ((x + bl - m : Nat) : Int))).drew.drew = w3 at *
            have p0 := HR3.out.sl
            rw [show ({ Q with room := x + bl - m } : DS).n = n from HQn.out] at p0
            have p1 : w3.cell? ⟨g, k * 2, none⟩ = some (.string ⟨(Q.fs k).b.toArray⟩) := (HR3.out.file k HQN.out).1
            have p1b := (HR3.out.file k HQN.out).2
            have p3 := HR3.out.frz.2
            clear t0 t1 t2 hrm hw1 hw2 hr1
            go_wp2_with fail
            go_region
            rw [str_take _ _ (by rw [HBL.out]; exact hmb)]
            have HR5 : Hid (RV (((w3.setCell ⟨g, k * 2, none⟩ (.string ⟨((Q.fs k).b.take m).toArray⟩)).setCell ⟨g, k * 2 + 1, none⟩ (.int .i64 m)).drew) r g (crashK keep S (k + 1))) := by
              have := ((HR3.out.setB k HQN.out ((Q.fs k).b.take m)).setS k HQN.out m).drew
              simp only [putF_same] at this
              rw [putF_twice] at this
              rw [HE1.out]
              unfold turnP tornP firstP
              simp only [HM.out, List.length_take, HX.out, HBL.out]
              rw [Nat.min_eq_left hmb]
              exact this
            have HK5 : Hid _ := ((HK3.out.set ⟨g, k * 2, none⟩ (.string ⟨((Q.fs k).b.take m).toArray⟩) (.inr rfl)).set ⟨g, k * 2 + 1, none⟩ (.int .i64 m) (.inr rfl)).drew
            generalize ((w3.setCell ⟨g, k * 2, none⟩ (.string ⟨((Q.fs k).b.take m).toArray⟩)).setCell ⟨g, k * 2 + 1, none⟩ (.int .i64 m)).drew = w5 at *
            clear p0 p1 p1b p3
            go_wp2_with fail
            go_roundw
            case rel => exact ⟨k + 1, by omega, by go_num, HR5, HK5⟩
            case measure => simp [intOf]; omega
          · have c3 : 0 ≤ q := by omega
            have c4 : (bl : Int) - (s : Int) < q := by omega
            go_wp2_with fail
            go_region
            go_wp2_with fail
            obtain ⟨m, HM⟩ : ∃ m, Hid (tornN q (Q.fs k) = m) := ⟨_, rfl⟩
            rw [HM.out] at HT HTL
            have hmb : m ≤ bl := HTL.out
            have hr1 := HR.out.frz.1
            rw [show (bl : Int) = (m : Int) by have := HT.out; omega]
            have hw1 : IntKind.i64.wrap ((x : Int) + (bl : Int)) = (x : Int) + (bl : Int) := by rw [IntKind.wrap_i64]; omega
            have hw2 : IntKind.i64.wrap ((x : Int) + (bl : Int) - (m : Int)) = (x : Int) + (bl : Int) - (m : Int) := by rw [IntKind.wrap_i64]; omega
            go_region
            rw [show (x : Int) + (bl : Int) - (m : Int) = ((x + bl - m : Nat) : Int) by omega]
            have HR3 : Hid (RV ((wr.setCell ⟨r, 1, none⟩ (.int .i64 ((x + bl - m : Nat) : Int))).drew.drew) r g { Q with room := x + bl - m }) := ((HR.out.setRoom _).drew).drew
            have HK3 : Hid _ := ((HK.out.set ⟨r, 1, none⟩ (.int .i64 ((x + bl - m : Nat) : Int)) (.inl rfl)).drew).drew
            generalize (wr.setCell ⟨r, 1, none⟩ (.int .i64 ((x + bl - m : Nat) : Int))).drew.drew = w3 at *
            have p0 := HR3.out.sl
            rw [show ({ Q with room := x + bl - m } : DS).n = n from HQn.out] at p0
            have p1 : w3.cell? ⟨g, k * 2, none⟩ = some (.string ⟨(Q.fs k).b.toArray⟩) := (HR3.out.file k HQN.out).1
            have p1b := (HR3.out.file k HQN.out).2
            have p3 := HR3.out.frz.2
            clear t0 t1 t2 hrm hw1 hw2 hr1
            go_wp2_with fail
            go_region
            rw [str_take _ _ (by rw [HBL.out]; exact hmb)]
            have HR5 : Hid (RV (((w3.setCell ⟨g, k * 2, none⟩ (.string ⟨((Q.fs k).b.take m).toArray⟩)).setCell ⟨g, k * 2 + 1, none⟩ (.int .i64 m)).drew) r g (crashK keep S (k + 1))) := by
              have := ((HR3.out.setB k HQN.out ((Q.fs k).b.take m)).setS k HQN.out m).drew
              simp only [putF_same] at this
              rw [putF_twice] at this
              rw [HE1.out]
              unfold turnP tornP firstP
              simp only [HM.out, List.length_take, HX.out, HBL.out]
              rw [Nat.min_eq_left hmb]
              exact this
            have HK5 : Hid _ := ((HK3.out.set ⟨g, k * 2, none⟩ (.string ⟨((Q.fs k).b.take m).toArray⟩) (.inr rfl)).set ⟨g, k * 2 + 1, none⟩ (.int .i64 m) (.inr rfl)).drew
            generalize ((w3.setCell ⟨g, k * 2, none⟩ (.string ⟨((Q.fs k).b.take m).toArray⟩)).setCell ⟨g, k * 2 + 1, none⟩ (.int .i64 m)).drew = w5 at *
            clear p0 p1 p1b p3
            go_wp2_with fail
            go_roundw
            case rel => exact ⟨k + 1, by omega, by go_num, HR5, HK5⟩
            case measure => simp [intOf]; omega
      · have hq0 : keep.getD k 0 = 0 := by rw [List.getD_eq_getElem?_getD, List.getElem?_eq_none (by omega)]; rfl
        rw [hq0] at HT HTL HE1
        clear hq0
        go_wp2_with fail
        go_region
        go_wp2_with fail
        obtain ⟨m, HM⟩ : ∃ m, Hid (tornN 0 (Q.fs k) = m) := ⟨_, rfl⟩
        rw [HM.out] at HT HTL
        have hmb : m ≤ bl := HTL.out
        have hr1 := HR.out.frz.1
        have hms : (s : Int) = (m : Int) := by have := HT.out; omega
        rw [hms]
        clear hms
        have hw1 : IntKind.i64.wrap ((x : Int) + (bl : Int)) = (x : Int) + (bl : Int) := by rw [IntKind.wrap_i64]; omega
        have hw2 : IntKind.i64.wrap ((x : Int) + (bl : Int) - (m : Int)) = (x : Int) + (bl : Int) - (m : Int) := by rw [IntKind.wrap_i64]; omega
        go_region
        rw [show (x : Int) + (bl : Int) - (m : Int) = ((x + bl - m : Nat) : Int) by omega]
        have HR3 : Hid (RV ((wr.setCell ⟨r, 1, none⟩ (.int .i64 ((x + bl - m : Nat) : Int))).drew.drew) r g { Q with room := x + bl - m }) := ((HR.out.setRoom _).drew).drew
        have HK3 : Hid _ := ((HK.out.set ⟨r, 1, none⟩ (.int .i64 ((x + bl - m : Nat) : Int)) (.inl rfl)).drew).drew
        generalize (wr.setCell ⟨r, 1, none⟩ (.int .i64 ((x + bl - m : Nat) : Int))).drew.drew = w3 at *
        have p0 := HR3.out.sl
        rw [show ({ Q with room := x + bl - m } : DS).n = n from HQn.out] at p0
        have p1 : w3.cell? ⟨g, k * 2, none⟩ = some (.string ⟨(Q.fs k).b.toArray⟩) := (HR3.out.file k HQN.out).1
        have p1b := (HR3.out.file k HQN.out).2
        have p3 := HR3.out.frz.2
        clear t0 t1 t2 hrm hw1 hw2 hr1
        go_wp2_with fail
        go_region
        rw [str_take _ _ (by rw [HBL.out]; exact hmb)]
        have HR5 : Hid (RV (((w3.setCell ⟨g, k * 2, none⟩ (.string ⟨((Q.fs k).b.take m).toArray⟩)).setCell ⟨g, k * 2 + 1, none⟩ (.int .i64 m)).drew) r g (crashK keep S (k + 1))) := by
          have := ((HR3.out.setB k HQN.out ((Q.fs k).b.take m)).setS k HQN.out m).drew
          simp only [putF_same] at this
          rw [putF_twice] at this
          rw [HE1.out]
          unfold turnP tornP firstP
          simp only [HM.out, List.length_take, HX.out, HBL.out]
          rw [Nat.min_eq_left hmb]
          exact this
        have HK5 : Hid _ := ((HK3.out.set ⟨g, k * 2, none⟩ (.string ⟨((Q.fs k).b.take m).toArray⟩) (.inr rfl)).set ⟨g, k * 2 + 1, none⟩ (.int .i64 m) (.inr rfl)).drew
        generalize ((w3.setCell ⟨g, k * 2, none⟩ (.string ⟨((Q.fs k).b.take m).toArray⟩)).setCell ⟨g, k * 2 + 1, none⟩ (.int .i64 m)).drew = w5 at *
        clear p0 p1 p1b p3
        go_wp2_with fail
        go_roundw
        case rel => exact ⟨k + 1, by omega, by go_num, HR5, HK5⟩
        case measure => simp [intOf]; omega
    · have hkn : k = n := by omega
      subst hkn
      have q0 := HR.out.fu
      have q1 := HR.out.dn
      have q2 := HR.out.frz.1
      clear HRI
      go_wp2_with fail
      go_end0
      refine ⟨rfl, ?_, (HK.out.set _ _ (.inl rfl)).set _ _ (.inl rfl)⟩
      rw [HE.out]
      exact (HR.out.setFuse (-1)).setDown false
end Go.Proofs.YtijkgdbabikojaaGreat.Dk

/- Plain: what each call keeps of a disk. -/
namespace Go.Proofs.YtijkgdbabikojaaGreat.Dk
set_option maxRecDepth 1000000
set_option linter.unusedVariables false

theorem reach_take {S : DS} {k : Nat} {n : Int} (h : reachP S k n = 0) : 0 ≤ n ∧ n ≤ (S.fs k).b.length := by
  unfold reachP at h
  split at h
  · rename_i hh
    simpa using hh
  · cases h

theorem okay_append {S : DS} (h : Okay S) (i : Int) (l : List UInt8) : Okay (appendP S i l).2 := h.write i _ _ (fun k _ _ _ => by
  show (S.fs k).s ≤ ((S.fs k).b ++ l).length
  rw [List.length_append]
  have := h.syn k
  omega)

theorem okay_sync {S : DS} (h : Okay S) (i : Int) : Okay (syncP S i).2 := h.write i _ _ (fun k _ _ _ => by
  show (S.fs k).b.length ≤ ((S.fs k).b.take _).length
  rw [List.length_take]
  omega)

theorem okay_cut {S : DS} (h : Okay S) (i n : Int) : Okay (cutP S i n).2 := h.write i _ _ (fun k hk _ hm => by
  subst hk
  have := reach_take hm
  show n.toNat ≤ ((S.fs k).b.take _).length
  rw [List.length_take]
  omega)

theorem okay_grow {S : DS} (h : Okay S) (n : Int) : Okay (growP S n).2 := by
  unfold growP
  split
  · exact h
  · exact h.setRoom _

theorem okay_arm {S : DS} (h : Okay S) (n : Int) (hn : n ≤ 9223372036854775807) : Okay (armP S n).2 := by
  unfold armP
  split
  · exact h
  · exact h.setFuse _ (by omega) (by omega)

theorem small_mono {L R L' R' : Nat} {S : DS} (h : Small L R S) (hL : L ≤ L') (hR : R ≤ R') : Small L' R' S := ⟨fun i => Nat.le_trans (h.len i) hL, Nat.le_trans h.room hR⟩

theorem small_turn {L R : Nat} {S : DS} (h : Small L R S) (k : Nat) (f : Fl) (M X : Nat) (hM : f.b.length ≤ L + M) (hX : S.room + (S.fs k).b.length - f.b.length ≤ R + X) : Small (L + M) (R + X) (turnP S k f) := by
  refine ⟨fun i => ?_, hX⟩
  show (putF S.fs k f i).b.length ≤ _
  unfold putF
  split
  · exact hM
  · have := h.len i
    omega

theorem small_write {L R : Nat} {S : DS} (h : Small L R S) (i more : Int) (how : Fl → Fl) (M X : Nat) (hM : ∀ k : Nat, i = k → more = 0 → (how (S.fs k)).b.length ≤ L + M) (hX : ∀ k : Nat, i = k → more = 0 → S.room + (S.fs k).b.length - (how (S.fs k)).b.length ≤ R + X) : Small (L + M) (R + X) (writeP S i more how).2 := by
  have h' : Small (L + M) (R + X) S := small_mono h (by omega) (by omega)
  unfold writeP
  split
  · exact h'
  · split
    · exact h'
    · rename_i h2
      obtain ⟨k, rfl, hk⟩ := hasB_true (by simpa using h2)
      split
      · exact h'
      · split
        · exact ⟨h'.len, h'.room⟩
        · rename_i h3 _
          exact small_turn (S := { S with fuse := burnF S.fuse }) ⟨h.len, h.room⟩ k _ M X (hM k rfl (by simpa using h3)) (hX k rfl (by simpa using h3))

theorem small_append {L R : Nat} {S : DS} (h : Small L R S) (i : Int) (l : List UInt8) : Small (L + l.length) R (appendP S i l).2 := by
  have := small_write h i (fitsP S l.length) (withP l) l.length 0 (fun k _ _ => by
    show ((S.fs k).b ++ l).length ≤ _
    rw [List.length_append]
    have := h.len k
    omega) (fun k _ _ => by
    show S.room + (S.fs k).b.length - ((S.fs k).b ++ l).length ≤ _
    rw [List.length_append]
    have := h.room
    omega)
  exact this

theorem small_sync {L R : Nat} {S : DS} (h : Small L R S) (i : Int) : Small L R (syncP S i).2 := by
  have := small_write h i 0 (fun f => firstP f.b.length f) 0 0 (fun k _ _ => by
    show ((S.fs k).b.take _).length ≤ _
    rw [List.length_take]
    have := h.len k
    omega) (fun k _ _ => by
    show S.room + (S.fs k).b.length - ((S.fs k).b.take _).length ≤ _
    rw [List.length_take]
    have := h.room
    omega)
  exact this

theorem small_cut {L R : Nat} {S : DS} (h : Small L R S) (i n : Int) : Small L (R + L) (cutP S i n).2 := by
  have := small_write h i (reachP S i n) (firstP n.toNat) 0 L (fun k _ _ => by
    show ((S.fs k).b.take _).length ≤ _
    rw [List.length_take]
    have := h.len k
    omega) (fun k _ _ => by
    have := h.room
    have := h.len k
    omega)
  exact this

theorem small_grow {L R : Nat} {S : DS} (h : Small L R S) (n : Int) : Small L (R + 1048576) (growP S n).2 := by
  have h1 := h.room
  by_cases hg : 0 ≤ n ∧ n ≤ 1048576 - (S.room : Int)
  · have hA : growP S n = (0, { S with room := S.room + n.toNat }) := by unfold growP growsP; rw [if_pos hg, if_neg (by simp)]
    rw [hA]
    refine ⟨h.len, ?_⟩
    show S.room + n.toNat ≤ _
    omega
  · have hA : growP S n = (2, S) := by unfold growP growsP; rw [if_neg hg, if_pos (by decide)]
    rw [hA]
    exact small_mono h (Nat.le_refl _) (by omega)

theorem small_arm {L R : Nat} {S : DS} (h : Small L R S) (n : Int) : Small L R (armP S n).2 := by
  unfold armP
  split
  · exact h
  · exact ⟨h.len, h.room⟩

theorem small_crash {L R : Nat} {S : DS} (h : Small L R S) (ho : Okay S) (keep : List Int) : Small L (R + 65 * L) (crashP S keep) := by
  have h1 := crashK_room keep ho h S.n (Nat.le_refl _)
  have h2 := ho.few
  have h3 : S.n * L ≤ 65 * L := Nat.mul_le_mul_right _ h2
  exact ⟨h1.len, Nat.le_trans h1.room (by omega)⟩
end Go.Proofs.YtijkgdbabikojaaGreat.Dk

/- Plain: the sum of bytes and room; crashes; a fuse that burns. -/
namespace Go.Proofs.YtijkgdbabikojaaGreat.Dk
set_option maxRecDepth 1000000
set_option linter.unusedVariables false

def tot3 (S : DS) : Nat := S.room + (S.fs 0).b.length + (S.fs 1).b.length + (S.fs 2).b.length

theorem tot_turn {S : DS} {k : Nat} {f : Fl} (hk : k < 3) (hf : f.b.length ≤ S.room + (S.fs k).b.length) : tot3 (turnP S k f) = tot3 S := by
  show S.room + (S.fs k).b.length - f.b.length + (putF S.fs k f 0).b.length + (putF S.fs k f 1).b.length + (putF S.fs k f 2).b.length = _
  unfold tot3
  match k, hk with
  | 0, _ => rw [putF_same, putF_other _ _ _ _ (by omega), putF_other _ _ _ _ (by omega)]; omega
  | 1, _ => rw [putF_same, putF_other _ _ _ _ (by omega), putF_other _ _ _ _ (by omega)]; omega
  | 2, _ => rw [putF_same, putF_other _ _ _ _ (by omega), putF_other _ _ _ _ (by omega)]; omega

theorem write_n (S : DS) (i more : Int) (how : Fl → Fl) : (writeP S i more how).2.n = S.n := by
  unfold writeP
  split
  · rfl
  · split
    · rfl
    · split
      · rfl
      · split <;> rfl

theorem tot_write {S : DS} (hn : S.n = 3) (i more : Int) (how : Fl → Fl) (h : ∀ k : Nat, i = k → more = 0 → (how (S.fs k)).b.length ≤ S.room + (S.fs k).b.length) : tot3 (writeP S i more how).2 = tot3 S := by
  unfold writeP
  split
  · rfl
  · split
    · rfl
    · rename_i h2
      obtain ⟨k, rfl, hk⟩ := hasB_true (by simpa using h2)
      split
      · rfl
      · split
        · rfl
        · rename_i h3 _
          exact tot_turn (S := { S with fuse := burnF S.fuse }) (by omega) (h k rfl (by simpa using h3))

theorem tot_crashK {S : DS} (hn : S.n = 3) (keep : List Int) : ∀ k, k ≤ 3 → tot3 (crashK keep S k) = tot3 S
  | 0, _ => rfl
  | k + 1, hk => by
    have ih := tot_crashK hn keep k (by omega)
    show tot3 (turnP (crashK keep S k) k _) = _
    rw [tot_turn (by omega) ?_, ih]
    show (List.take _ _).length ≤ _
    rw [List.length_take]
    omega

theorem growP_n (S : DS) (n : Int) : (growP S n).2.n = S.n := by unfold growP; split <;> rfl
theorem growP_fs (S : DS) (n : Int) : (growP S n).2.fs = S.fs := by unfold growP; split <;> rfl
theorem armP_n (S : DS) (n : Int) : (armP S n).2.n = S.n := by unfold armP; split <;> rfl
theorem armP_tot (S : DS) (n : Int) : tot3 (armP S n).2 = tot3 S := by unfold armP; split <;> rfl
theorem crashP_n (S : DS) (keep : List Int) : (crashP S keep).n = S.n := crashK_n keep S S.n

theorem crashP_fs (S : DS) (keep : List Int) (i : Nat) (hi : i < S.n) : (crashP S keep).fs i = tornP (keep.getD i 0) (S.fs i) := by
  show (crashK keep S S.n).fs i = _
  rw [crashK_fs, if_pos hi]

/-- A disk of three files, n - j of whose fuse is left, or that is down. -/
structure DD (n j : Nat) (S : DS) : Prop where
  three : S.n = 3
  up : j ≤ n → S.down = false ∧ S.fuse = (n : Int) - j
  dn : n < j → S.down = true

theorem dead_write {n j : Nat} {S : DS} (h : DD n j S) (k : Nat) (hk : k < 3) (how : Fl → Fl) : (writeP S k 0 how).1 = (if j < n then 0 else 9) ∧ DD n (j + 1) (writeP S k 0 how).2 := by
  have h3 := h.three
  have hh : hasB S k = true := by unfold hasB; simp; omega
  unfold writeP
  by_cases h1 : n < j
  · have hd := h.dn h1
    rw [if_pos hd, if_neg (by omega)]
    exact ⟨rfl, h3, fun hx => by omega, fun _ => hd⟩
  · obtain ⟨hu, hf⟩ := h.up (by omega)
    rw [if_neg (by rw [hu]; decide), if_neg (by rw [hh]; decide), if_neg (by simp)]
    by_cases h2 : j < n
    · rw [if_neg (by rw [hf]; omega), if_pos h2]
      refine ⟨rfl, h3, fun _ => ⟨hu, ?_⟩, fun hx => by omega⟩
      show burnF S.fuse = _
      unfold burnF
      rw [hf, if_pos (by omega)]
      omega
    · rw [if_pos (by rw [hf]; omega), if_neg h2]
      exact ⟨rfl, h3, fun hx => by omega, fun _ => rfl⟩

theorem dead_sync {n j : Nat} {S : DS} (h : DD n j S) (k : Nat) (hk : k < 3) : (syncP S k).1 = (if j < n then 0 else 9) ∧ DD n (j + 1) (syncP S k).2 := dead_write h k hk _

theorem dead_cut {n j : Nat} {S : DS} (h : DD n j S) (k : Nat) (hk : k < 3) : (cutP S k (S.fs k).b.length).1 = (if j < n then 0 else 9) ∧ DD n (j + 1) (cutP S k (S.fs k).b.length).2 := by
  have hr : reachP S k (S.fs k).b.length = 0 := by unfold reachP; rw [if_pos (by simp)]
  unfold cutP
  rw [hr]
  exact dead_write h k hk _

theorem dead_arm {S : DS} (h3 : S.n = 3) (hd : S.down = false) (n : Nat) : (armP S n).1 = 0 ∧ DD n 0 (armP S n).2 := by
  unfold armP
  rw [if_neg (by rw [hd]; decide)]
  exact ⟨rfl, h3, fun _ => ⟨hd, by show max (n : Int) (-1) = _; omega⟩, fun hx => by omega⟩
end Go.Proofs.YtijkgdbabikojaaGreat.Dk

/- The walk over disk.New. -/
namespace Go.Proofs.YtijkgdbabikojaaGreat.Dk
set_option maxRecDepth 1000000
open Go.RowKit
set_option linter.unusedVariables false

theorem zero_size : Tryz.zeroCells95.size = 134 := by kernel_rfl
theorem zero_down : Tryz.zeroCells95[133]? = some (.bool false) := by kernel_rfl
theorem zero_cnt : Tryz.zeroCells95[130]? = some (.int .i64 0) := by kernel_rfl
theorem zero_file : ∀ i, i < 65 → Tryz.zeroCells95[i * 2]? = some (.slice none 0 0) ∧ Tryz.zeroCells95[i * 2 + 1]? = some (.int .i64 0)
  | 0, _ => ⟨by kernel_rfl, by kernel_rfl⟩
  | 1, _ => ⟨by kernel_rfl, by kernel_rfl⟩
  | 2, _ => ⟨by kernel_rfl, by kernel_rfl⟩
  | 3, _ => ⟨by kernel_rfl, by kernel_rfl⟩
  | 4, _ => ⟨by kernel_rfl, by kernel_rfl⟩
  | 5, _ => ⟨by kernel_rfl, by kernel_rfl⟩
  | 6, _ => ⟨by kernel_rfl, by kernel_rfl⟩
  | 7, _ => ⟨by kernel_rfl, by kernel_rfl⟩
  | 8, _ => ⟨by kernel_rfl, by kernel_rfl⟩
  | 9, _ => ⟨by kernel_rfl, by kernel_rfl⟩
  | 10, _ => ⟨by kernel_rfl, by kernel_rfl⟩
  | 11, _ => ⟨by kernel_rfl, by kernel_rfl⟩
  | 12, _ => ⟨by kernel_rfl, by kernel_rfl⟩
  | 13, _ => ⟨by kernel_rfl, by kernel_rfl⟩
  | 14, _ => ⟨by kernel_rfl, by kernel_rfl⟩
  | 15, _ => ⟨by kernel_rfl, by kernel_rfl⟩
  | 16, _ => ⟨by kernel_rfl, by kernel_rfl⟩
  | 17, _ => ⟨by kernel_rfl, by kernel_rfl⟩
  | 18, _ => ⟨by kernel_rfl, by kernel_rfl⟩
  | 19, _ => ⟨by kernel_rfl, by kernel_rfl⟩
  | 20, _ => ⟨by kernel_rfl, by kernel_rfl⟩
  | 21, _ => ⟨by kernel_rfl, by kernel_rfl⟩
  | 22, _ => ⟨by kernel_rfl, by kernel_rfl⟩
  | 23, _ => ⟨by kernel_rfl, by kernel_rfl⟩
  | 24, _ => ⟨by kernel_rfl, by kernel_rfl⟩
  | 25, _ => ⟨by kernel_rfl, by kernel_rfl⟩
  | 26, _ => ⟨by kernel_rfl, by kernel_rfl⟩
  | 27, _ => ⟨by kernel_rfl, by kernel_rfl⟩
  | 28, _ => ⟨by kernel_rfl, by kernel_rfl⟩
  | 29, _ => ⟨by kernel_rfl, by kernel_rfl⟩
  | 30, _ => ⟨by kernel_rfl, by kernel_rfl⟩
  | 31, _ => ⟨by kernel_rfl, by kernel_rfl⟩
  | 32, _ => ⟨by kernel_rfl, by kernel_rfl⟩
  | 33, _ => ⟨by kernel_rfl, by kernel_rfl⟩
  | 34, _ => ⟨by kernel_rfl, by kernel_rfl⟩
  | 35, _ => ⟨by kernel_rfl, by kernel_rfl⟩
  | 36, _ => ⟨by kernel_rfl, by kernel_rfl⟩
  | 37, _ => ⟨by kernel_rfl, by kernel_rfl⟩
  | 38, _ => ⟨by kernel_rfl, by kernel_rfl⟩
  | 39, _ => ⟨by kernel_rfl, by kernel_rfl⟩
  | 40, _ => ⟨by kernel_rfl, by kernel_rfl⟩
  | 41, _ => ⟨by kernel_rfl, by kernel_rfl⟩
  | 42, _ => ⟨by kernel_rfl, by kernel_rfl⟩
  | 43, _ => ⟨by kernel_rfl, by kernel_rfl⟩
  | 44, _ => ⟨by kernel_rfl, by kernel_rfl⟩
  | 45, _ => ⟨by kernel_rfl, by kernel_rfl⟩
  | 46, _ => ⟨by kernel_rfl, by kernel_rfl⟩
  | 47, _ => ⟨by kernel_rfl, by kernel_rfl⟩
  | 48, _ => ⟨by kernel_rfl, by kernel_rfl⟩
  | 49, _ => ⟨by kernel_rfl, by kernel_rfl⟩
  | 50, _ => ⟨by kernel_rfl, by kernel_rfl⟩
  | 51, _ => ⟨by kernel_rfl, by kernel_rfl⟩
  | 52, _ => ⟨by kernel_rfl, by kernel_rfl⟩
  | 53, _ => ⟨by kernel_rfl, by kernel_rfl⟩
  | 54, _ => ⟨by kernel_rfl, by kernel_rfl⟩
  | 55, _ => ⟨by kernel_rfl, by kernel_rfl⟩
  | 56, _ => ⟨by kernel_rfl, by kernel_rfl⟩
  | 57, _ => ⟨by kernel_rfl, by kernel_rfl⟩
  | 58, _ => ⟨by kernel_rfl, by kernel_rfl⟩
  | 59, _ => ⟨by kernel_rfl, by kernel_rfl⟩
  | 60, _ => ⟨by kernel_rfl, by kernel_rfl⟩
  | 61, _ => ⟨by kernel_rfl, by kernel_rfl⟩
  | 62, _ => ⟨by kernel_rfl, by kernel_rfl⟩
  | 63, _ => ⟨by kernel_rfl, by kernel_rfl⟩
  | 64, _ => ⟨by kernel_rfl, by kernel_rfl⟩
  | n + 65, h => absurd h (by omega)

set_option maxRecDepth 1000000 in
set_option maxHeartbeats 1000000 in
theorem new_no (files room : Int) (w : World) (h : ¬ (1 ≤ files ∧ files ≤ 65 ∧ 0 ≤ room ∧ room ≤ 1048576)) :
    Calls Tryz.prog 13 #[.int .i64 files, .int .i64 room] w fun e w' => e = .returned (.tuple #[.pointer none, .int .i64 2]) ∧ w' = w := by
  by_cases h1 : files < 1
  · go_enter Tryz.func13, Tryz.ntmps13
    go_wp2
    go_ret2
    exact ⟨rfl, rfl⟩
  · by_cases h2 : 65 < files
    · go_enter Tryz.func13, Tryz.ntmps13
      go_wp2
      go_ret2
      exact ⟨rfl, rfl⟩
    · by_cases h3 : room < 0
      · go_enter Tryz.func13, Tryz.ntmps13
        go_wp2
        go_ret2
        exact ⟨rfl, rfl⟩
      · have h4 : 1048576 < room := by omega
        go_enter Tryz.func13, Tryz.ntmps13
        go_wp2
        go_ret2
        exact ⟨rfl, rfl⟩

theorem new_disk (files room : Nat) (w : World) : DK (fun k => k = w.heap.size) (w.alloc (.cells (((Tryz.zeroCells95.setIfInBounds 130 (.int .i64 files)).setIfInBounds 131 (.int .i64 room)).setIfInBounds 132 (.int .i64 (-1))) 95)) w.heap.size (newP files room) := by
  have hz := zero_size
  obtain ⟨cs, hcs⟩ : ∃ cs, cs = ((Tryz.zeroCells95.setIfInBounds 130 (.int .i64 files)).setIfInBounds 131 (.int .i64 room)).setIfInBounds 132 (.int .i64 (-1)) := ⟨_, rfl⟩
  rw [← hcs]
  have hsz : cs.size = 134 := by rw [hcs]; simp [hz]
  have hrow : (w.alloc (.cells cs 95)).heap[w.heap.size]? = some (.cells cs 95 (0, 0)) := heap_alloc_new _ _
  have hcell : ∀ o, (w.alloc (.cells cs 95)).cell? ⟨w.heap.size, o, none⟩ = cs[o]? := fun o => cell_of_row _ _ _ cs 95 (0, 0) hrow
  have hget : ∀ o, o ≠ 130 → o ≠ 131 → o ≠ 132 → cs[o]? = Tryz.zeroCells95[o]? := fun o h1 h2 h3 => by
    rw [hcs, Array.getElem?_setIfInBounds_ne (by omega), Array.getElem?_setIfInBounds_ne (by omega), Array.getElem?_setIfInBounds_ne (by omega)]
  refine ⟨fun _ => .slice none 0 0, ⟨cs, hrow, hsz⟩, rfl, fun k hk => by rw [hk]; simp, ?_, ?_, ?_, ?_, fun i hi => ?_, fun i g hi hg => by simp [Value.ownBlock] at hg, fun i j g hi hj _ hg => by simp [Value.ownBlock] at hg⟩
  · rw [hcell, hcs]
    simp [hz, newP]
  · rw [hcell, hcs]
    simp [hz, newP]
  · rw [hcell, hcs]
    simp [hz, newP]
  · rw [hcell, hget _ (by omega) (by omega) (by omega)]
    exact zero_down
  · obtain ⟨z1, z2⟩ := zero_file i hi
    refine ⟨?_, ?_, World.ownsRow_nil _ _ _ _⟩
    · rw [hcell, hget _ (by omega) (by omega) (by omega)]
      exact z1
    · rw [hcell, hget _ (by omega) (by omega) (by omega)]
      exact z2

set_option maxRecDepth 1000000 in
set_option maxHeartbeats 4000000 in
theorem new_yes (files room : Nat) (w : World) (h1 : 1 ≤ files) (h2 : files ≤ 65) (h3 : room ≤ 1048576) :
    Calls Tryz.prog 13 #[.int .i64 files, .int .i64 room] w fun e w' => e = .returned (.tuple #[.pointer (some ⟨w.heap.size, 0, none⟩), .int .i64 0]) ∧ DK (fun k => k = w.heap.size) w' w.heap.size (newP files room) ∧ Below w.heap.size w w' := by
  have HD : Hid (DK (fun k => k = w.heap.size) (w.alloc (.cells (((Tryz.zeroCells95.setIfInBounds 130 (.int .i64 files)).setIfInBounds 131 (.int .i64 room)).setIfInBounds 132 (.int .i64 (-1))) 95)) w.heap.size (newP files room)) := new_disk files room w
  go_enter Tryz.func13, Tryz.ntmps13
  go_wp2
  go_ret2
  exact ⟨rfl, HD.out, (Below.refl _ _).alloc (Nat.le_refl _) _⟩
end Go.Proofs.YtijkgdbabikojaaGreat.Dk

