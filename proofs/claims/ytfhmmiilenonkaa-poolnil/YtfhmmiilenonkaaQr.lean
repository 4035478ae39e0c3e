/- The document's Len, New. -/
import Derived.Test.YtfhmmiilenonkaaQn
import Derived.Laws.MakeOwn
namespace Go.Proofs.Ytfhmmiilenonkaa
open Go.RowKit Go.Shelf
set_option maxRecDepth 1000000
set_option linter.unusedVariables false

variable {S : Nat → Prop} {w w' : World} {r b1 b2 b3 n : Nat} {s : Pq.St Jb} {rs hs fs : Array Value}

set_option maxHeartbeats 8000000 in
theorem rlen_w (h : RV S w r b1 b2 b3 n s rs hs fs) (hi : PInv s) :
    Calls Try.prog 33 #[.pointer (some ⟨r, 0, none⟩)] w fun x w' => x = .returned (.int .i64 s.cnt) ∧ w' = w := by
  have HOK : Hid _ := h.ok
  have HI : Hid _ := hi
  have h64 := h.n64
  have c1 := h.c1
  have c3 := h.c3
  have HH : Hid _ := h
  have HC0 : Hid (cntU s 0 = 0) := rfl
  rw [← cntU_all h.ok]
  clear h hi
  go_enter Try.func33, Try.ntmps33
  go_wp2_with fail
  go_loopw [3, 4] (fun s3 s4 wr => ∃ (k : Nat), s4 = .int .i64 k ∧ s3 = .int .i64 (cntU s k : Int) ∧ k ≤ n ∧ wr = w) (fun _ s4 _ => n - (intOf s4).toNat)
  case atStart => exact ⟨0, rfl, rfl, Nat.zero_le _, rfl⟩
  case round =>
    obtain ⟨k, rfl, rfl, hk, rfl⟩ := hrel
    have hd1 := HI.out.cntU k
    by_cases hlt : k < n
    · obtain ⟨rv, L, y, hL, hL2⟩ := HH.out.row_at hlt
      have yh := HH.out.has_at hlt
      have hLl : L.length = (s.row k).length := by rw [← hL2, List.length_map]
      have hl128 := (HI.out.row k).1
      have HCN : Hid _ := cntU_succ s k
      obtain ⟨ra, rc, hrv⟩ := hL.slice
      subst hrv
      rw [hLl] at y
      obtain ⟨ac, hac⟩ : ∃ u, cntU s k = u := ⟨_, rfl⟩
      obtain ⟨al, hal⟩ : ∃ u, (s.row k).length = u := ⟨_, rfl⟩
      rw [hac] at HCN hd1 ⊢
      have hkn : (k : Int) < (n : Int) := by omega
      unfold cntW at HCN
      rw [hal] at y HCN hl128
      clear hL hL2 hLl hac hal
      cases hj : s.hd k with
      | none =>
        rw [hj] at yh HCN
        simp only [Option.isSome_none] at yh
        have HCN2 : Hid (cntU s (k + 1) = ac + al) := HCN.out
        clear HCN hj
        go_wp2_with fail
        go_roundw
        case rel => exact ⟨k + 1, by go_num, by rw [HCN2.out]; push_cast; go_num, by omega, trivial⟩
        case measure => simp [intOf]; omega
      | some j =>
        rw [hj] at yh HCN
        simp only [Option.isSome_some] at yh
        have HCN2 : Hid (cntU s (k + 1) = ac + (al + 1)) := HCN.out
        clear HCN hj
        go_wp2_with fail
        go_roundw
        case rel => exact ⟨k + 1, by go_num, by rw [HCN2.out]; push_cast; go_num, by omega, trivial⟩
        case measure => simp [intOf]; omega
    · have hkn : k = n := by omega
      subst hkn
      go_wp2_with fail
      go_ret
      exact ⟨rfl, rfl⟩

set_option maxHeartbeats 4000000 in
theorem rnew_err (n : Int) (h : n < 1 ∨ 64 < n) (w : World) :
    Calls Try.prog 10 #[.int .i64 n] w fun e w' => e = .returned (.tuple #[.pointer none, .int .i64 2]) ∧ w' = w := by
  by_cases h1 : n < 1
  · have hd0 : decide (n < 1) = true := decide_eq_true h1
    go_enter Try.func10, Try.ntmps10
    go_wp2_with fail
    refine bodyPost_ret (results_tmp2 rfl _ _ _) rfl ?_
    exact ⟨rfl, rfl⟩
  · have h2 : 64 < n := by omega
    have hd0 : decide (n < 1) = false := decide_eq_false h1
    have hd1 : decide ((64 : Int) < n) = true := decide_eq_true h2
    go_enter Try.func10, Try.ntmps10
    go_wp2_with fail
    refine bodyPost_ret (results_tmp2 rfl _ _ _) rfl ?_
    exact ⟨rfl, rfl⟩

theorem Try.info82 : (Try.prog.info? 82).map (fun i => (i.zero, i.size, i.bytes)) = some (some (.slice none 0 0), 1, 24) := by kernel_rfl
theorem Try.info4 : (Try.prog.info? 4).map (fun i => (i.zero, i.size, i.bytes)) = some (some (.bool false), 1, 1) := by kernel_rfl
theorem made_at (z : Array Value) (n i : Nat) (h : i < n) : (madeCells z n)[i]? = some (z[i % z.size]!) := by
  unfold madeCells
  rw [Array.getElem?_map, Array.getElem?_range]
  simp [h]
theorem make_rows (n : Nat) (hn : n ≤ 64) : ∃ C : Array Value, (C.size = n ∧ ∀ v, v < n → C[v]? = some (.slice none 0 0)) ∧ ∀ wx : World, (Instr.makeSlice 71 (.int .i64 (n : Int)) (.int .i64 (n : Int))).run Try.prog wx = .ok (.slice (some ⟨wx.heap.size, 0, none⟩) n n) (wx.alloc (.cells C 82)) := by
  obtain ⟨i0, hi0, hz0, hz1, hz2⟩ := info_parts Try.info82
  refine ⟨madeCells (Value.slice none 0 0).cells n, ⟨size_madeCells _ _, fun v hv => ?_⟩, fun wx => ?_⟩
  · rw [made_at _ _ _ hv]
    show some (#[Value.slice none 0 0][v % 1]!) = _
    rw [Nat.mod_one]
    rfl
  · have hmk := run_make (P := Try.prog) wx 71 82 i0 _ Try.underlying71 hi0 hz0 .i64 .i64 (n : Int) (n : Int) (by omega) (by omega) (by rw [hz2]; omega) (by omega)
    simp only [hz1, Int.toNat_natCast, Nat.mul_one] at hmk
    exact hmk
theorem make_has (n : Nat) (hn : n ≤ 64) : ∃ C : Array Value, (C.size = n ∧ ∀ v, v < n → C[v]? = some (.bool false)) ∧ ∀ wx : World, (Instr.makeSlice 72 (.int .i64 (n : Int)) (.int .i64 (n : Int))).run Try.prog wx = .ok (.slice (some ⟨wx.heap.size, 0, none⟩) n n) (wx.alloc (.cells C 4)) := by
  obtain ⟨i0, hi0, hz0, hz1, hz2⟩ := info_parts Try.info4
  refine ⟨madeCells (Value.bool false).cells n, ⟨size_madeCells _ _, fun v hv => ?_⟩, fun wx => ?_⟩
  · rw [made_at _ _ _ hv]
    show some (#[Value.bool false][v % 1]!) = _
    rw [Nat.mod_one]
    rfl
  · have hmk := run_make (P := Try.prog) wx 72 4 i0 _ Try.underlying72 hi0 hz0 .i64 .i64 (n : Int) (n : Int) (by omega) (by omega) (by rw [hz2]; omega) (by omega)
    simp only [hz1, Int.toNat_natCast, Nat.mul_one] at hmk
    exact hmk
theorem make_hold (n : Nat) (hn : n ≤ 64) : ∃ C : Array Value, (C.size = n * 6 ∧ ∀ v, v < n → ∀ j, j < 6 → C[v * 6 + j]? = (jrow (zJ, .slice none 0 0))[j]?) ∧ ∀ wx : World, (Instr.makeSlice 61 (.int .i64 (n : Int)) (.int .i64 (n : Int))).run Try.prog wx = .ok (.slice (some ⟨wx.heap.size, 0, none⟩) n n) (wx.alloc (.cells C 37)) := by
  obtain ⟨i0, hi0, hz0, hz1, hz2⟩ := info_parts Try.info37
  refine ⟨madeCells (JV ⟨0, false, 0, false, 0, []⟩ (.slice none 0 0)).cells (n * 6), ⟨size_madeCells _ _, fun v hv j hj => ?_⟩, fun wx => ?_⟩
  · rw [made_at _ _ _ (by omega)]
    have e : (v * 6 + j) % (JV ⟨0, false, 0, false, 0, []⟩ (.slice none 0 0)).cells.size = j := by
      show (v * 6 + j) % 6 = j
      omega
    rw [e]
    match j, hj with
    | 0, _ => rfl
    | 1, _ => rfl
    | 2, _ => rfl
    | 3, _ => rfl
    | 4, _ => rfl
    | 5, _ => rfl
  · have hmk := run_make (P := Try.prog) wx 61 37 i0 _ Try.underlying61 hi0 hz0 .i64 .i64 (n : Int) (n : Int) (by omega) (by omega) (by rw [hz2]; omega) (by omega)
    simp only [hz1, Int.toNat_natCast] at hmk
    exact hmk

theorem rv_new {C1 C2 C3 : Array Value} {N : Nat} (h0 : 0 < n) (h64 : n ≤ 64) (P1 : C1.size = n ∧ ∀ v, v < n → C1[v]? = some (.slice none 0 0)) (P2 : C2.size = n * 6 ∧ ∀ v, v < n → ∀ j, j < 6 → C2[v * 6 + j]? = (jrow (zJ, .slice none 0 0))[j]?) (P3 : C3.size = n ∧ ∀ v, v < n → C3[v]? = some (.bool false))
    (hr : w.heap[r]? = some (.cells #[.slice (some ⟨b1, 0, none⟩) n n, .slice (some ⟨b2, 0, none⟩) n n, .slice (some ⟨b3, 0, none⟩) n n] 74 (0, 0))) (h1 : w.heap[b1]? = some (.cells C1 82 (0, 0))) (h2 : w.heap[b2]? = some (.cells C2 37 (0, 0))) (h3 : w.heap[b3]? = some (.cells C3 4 (0, 0))) (d1 : b1 ≠ r) (d2 : b2 ≠ r) (d3 : b3 ≠ r) (d12 : b1 ≠ b2) (d13 : b1 ≠ b3) (d23 : b2 ≠ b3) (nr : N ≤ r) (n1 : N ≤ b1) (n2 : N ≤ b2) (n3 : N ≤ b3) :
    RV (fun k => k < N) w r b1 b2 b3 n (st0 n) C1 C2 C3 :=
  ⟨hr, h1, h2, h3, ⟨P1.1, fun v hv => ⟨_, [], P1.2 v hv, RJ.nil _ _, by rw [st0_row]; rfl⟩⟩, ⟨P2.1, fun v hv => ⟨(zJ, .slice none 0 0), P2.2 v hv, RS.nil _ _, by rw [st0_hd]; rfl⟩⟩, ⟨P3.1, fun v hv => by rw [st0_hd]; exact P3.2 v hv⟩, d1, d2, d3, d12, d13, d23, by omega, by omega, by omega, by omega, h0, h64, st0_ok n⟩
theorem four (w : World) (o1 o2 o3 o4 : Obj) : ((((w.alloc o1).alloc o2).alloc o3).alloc o4).drew.heap[w.heap.size]? = some o1 ∧ ((((w.alloc o1).alloc o2).alloc o3).alloc o4).drew.heap[w.heap.size + 1]? = some o2 ∧ ((((w.alloc o1).alloc o2).alloc o3).alloc o4).drew.heap[w.heap.size + 1 + 1]? = some o3 ∧ ((((w.alloc o1).alloc o2).alloc o3).alloc o4).drew.heap[w.heap.size + 1 + 1 + 1]? = some o4 ∧ Below w.heap.size w ((((w.alloc o1).alloc o2).alloc o3).alloc o4).drew := by
  refine ⟨?_, ?_, ?_, ?_, ?_⟩
  · exact row_later (row_later (row_new1 w o1 o2) (bl1 _ o3)) (bl1 _ o4).drew
  · exact row_later (row_later (row_new2 w o1 o2) (bl1 _ o3)) (bl1 _ o4).drew
  · have := row_new1 ((w.alloc o1).alloc o2) o3 o4
    simp only [World.size_alloc] at this
    exact this
  · have := row_new2 ((w.alloc o1).alloc o2) o3 o4
    simp only [World.size_alloc] at this
    exact this
  · exact ((bl3 w o1 o2 o3).alloc (by simp; omega) o4).drew

set_option maxHeartbeats 8000000 in
theorem rnew_w (n : Nat) (h0 : 0 < n) (h64 : n ≤ 64) (w : World) (N0 : Nat) (hN0 : N0 ≤ w.heap.size) :
    Calls Try.prog 10 #[.int .i64 (n : Int)] w fun e w' => ∃ r b1 b2 b3 rs hs fs, e = .returned (.tuple #[.pointer (some ⟨r, 0, none⟩), .int .i64 0]) ∧ RV (fun k => k < N0) w' r b1 b2 b3 n (st0 n) rs hs fs ∧ w.heap.size ≤ r ∧ w.heap.size ≤ b1 ∧ w.heap.size ≤ b2 ∧ w.heap.size ≤ b3 ∧ Below w.heap.size w w' := by
  have hd0 : decide ((n : Int) < 1) = false := decide_eq_false (by omega)
  have hd1 : decide ((64 : Int) < (n : Int)) = false := decide_eq_false (by omega)
  obtain ⟨C1, ⟨p1, p2⟩, m1⟩ := make_rows n h64
  obtain ⟨C2, ⟨p3, p4⟩, m2⟩ := make_hold n h64
  obtain ⟨C3, ⟨p5, p6⟩, m3⟩ := make_has n h64
  have P1 : Hid (C1.size = n ∧ ∀ v, v < n → C1[v]? = some (.slice none 0 0)) := ⟨p1, p2⟩
  have P2 : Hid (C2.size = n * 6 ∧ ∀ v, v < n → ∀ j, j < 6 → C2[v * 6 + j]? = (jrow (zJ, .slice none 0 0))[j]?) := ⟨p3, p4⟩
  have P3 : Hid (C3.size = n ∧ ∀ v, v < n → C3[v]? = some (.bool false)) := ⟨p5, p6⟩
  clear p1 p2 p3 p4 p5 p6
  go_enter Try.func10, Try.ntmps10
  go_wp2_with fail
  go_region
  all_goals
    go_wp2_with fail
    refine bodyPost_ret (results_tmp2 rfl _ _ _) rfl ?_
    obtain ⟨f1, f2, f3, f4, f5⟩ := four w _ _ _ _
    first
      | exact ⟨_, _, _, _, _, _, _, rfl, rv_new h0 h64 P1.out P2.out P3.out f4 f1 f2 f3 (by omega) (by omega) (by omega) (by omega) (by omega) (by omega) (by omega) (by omega) (by omega) (by omega), by omega, by omega, by omega, by omega, f5⟩
      | exact ⟨_, _, _, _, _, _, _, rfl, rv_new h0 h64 P1.out P2.out P3.out f4 f1 f3 f2 (by omega) (by omega) (by omega) (by omega) (by omega) (by omega) (by omega) (by omega) (by omega) (by omega), by omega, by omega, by omega, by omega, f5⟩
      | exact ⟨_, _, _, _, _, _, _, rfl, rv_new h0 h64 P1.out P2.out P3.out f4 f2 f1 f3 (by omega) (by omega) (by omega) (by omega) (by omega) (by omega) (by omega) (by omega) (by omega) (by omega), by omega, by omega, by omega, by omega, f5⟩
      | exact ⟨_, _, _, _, _, _, _, rfl, rv_new h0 h64 P1.out P2.out P3.out f4 f2 f3 f1 (by omega) (by omega) (by omega) (by omega) (by omega) (by omega) (by omega) (by omega) (by omega) (by omega), by omega, by omega, by omega, by omega, f5⟩
      | exact ⟨_, _, _, _, _, _, _, rfl, rv_new h0 h64 P1.out P2.out P3.out f4 f3 f1 f2 (by omega) (by omega) (by omega) (by omega) (by omega) (by omega) (by omega) (by omega) (by omega) (by omega), by omega, by omega, by omega, by omega, f5⟩
      | exact ⟨_, _, _, _, _, _, _, rfl, rv_new h0 h64 P1.out P2.out P3.out f4 f3 f2 f1 (by omega) (by omega) (by omega) (by omega) (by omega) (by omega) (by omega) (by omega) (by omega) (by omega), by omega, by omega, by omega, by omega, f5⟩
end Go.Proofs.Ytfhmmiilenonkaa
