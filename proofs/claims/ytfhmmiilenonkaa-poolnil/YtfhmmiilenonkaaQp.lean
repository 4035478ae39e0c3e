/- The document's Drop. -/
import Derived.Test.YtfhmmiilenonkaaQn
namespace Go.Proofs.Ytfhmmiilenonkaa
open Go.RowKit Go.Shelf
set_option maxRecDepth 1000000
set_option linter.unusedVariables false

variable {S : Nat → Prop} {w w' : World} {r b1 b2 b3 n : Nat} {s : Pq.St Jb} {rs hs fs : Array Value}

set_option maxHeartbeats 16000000 in
theorem rdrop_w (key : Ky) (h : RV S w r b1 b2 b3 n s rs hs fs) (hi : PInv s) :
    Calls Try.prog 29 #[.pointer (some ⟨r, 0, none⟩), KV key] w fun x w' => x = .returned (.int .i64 (dropN key s n)) ∧ (∃ rs', RV (fun k => S k ∨ w.heap.size ≤ k) w' r b1 b2 b3 n (dropS key s) rs' hs fs) ∧ Kp (fun k => k = b1) w w' := by
  have HOK : Hid _ := h.ok
  have HI : Hid _ := hi
  have h64 := h.n64
  have HB1 : Hid _ := bl1 w (.cells (kcs key) 34)
  have HH0 : Hid (RV (fun k => S k ∨ w.heap.size ≤ k) (w.alloc (.cells (kcs key) 34)) r b1 b2 b3 n (dropU key s 0) rs hs fs) := (h.mono (fun k _ hk => .inl hk) (fun k hk => hk)).later HB1.out
  have HK0 : Hid (Kp (fun k => k = b1) w (w.alloc (.cells (kcs key) 34))) := Kp.of_below _ HB1.out
  have HR0 : Hid _ := row_new w (kcs key) 34
  have hrl := row_lt h.blk
  have hb1l := row_lt h.q1
  have hn1 := h.d1
  have HD0 : Hid (dropN key s 0 = 0) := rfl
  clear h hi
  obtain ⟨ki, ku, kt⟩ := key
  unfold KV
  dsimp only
  unfold kcs at HK0 HH0 HR0 HB1
  dsimp only at HK0 HH0 HR0 HB1
  go_enter Try.func29, Try.ntmps29
  go_wp2_with fail
  go_loopw [5, 6] (fun s5 s6 wr => ∃ (k : Nat), s6 = .int .i64 k ∧ s5 = .int .i64 (dropN ⟨ki, ku, kt⟩ s k) ∧ k ≤ n ∧ (∃ rs', Hid (RV (fun k => S k ∨ w.heap.size ≤ k) wr r b1 b2 b3 n (dropU ⟨ki, ku, kt⟩ s k) rs' hs fs)) ∧ Hid (Kp (fun k => k = b1) w wr) ∧ Hid (wr.heap[w.heap.size]? = some (.cells #[.int .i64 ki, .bool ku, .int .i64 kt] 34 (0, 0)))) (fun _ s6 _ => n - (intOf s6).toNat)
  case atStart => exact ⟨0, rfl, by rw [HD0.out], Nat.zero_le _, ⟨_, HH0⟩, HK0, HR0⟩
  case round =>
    obtain ⟨k, rfl, rfl, hk, ⟨rs', HH⟩, HK, HR⟩ := hrel
    rename World => wr
    clear HH0 HK0 HR0 HB1 HD0
    have c1 := HH.out.c1
    have hd1 := HI.out.dropN ⟨ki, ku, kt⟩ k
    obtain ⟨ad, had⟩ : ∃ u, dropN ⟨ki, ku, kt⟩ s k = u := ⟨_, rfl⟩
    have HAD : Hid _ := had
    by_cases hlt : k < n
    · obtain ⟨rv, L, y, hL, hL2⟩ := HH.out.row_at hlt
      have hrow : (dropU ⟨ki, ku, kt⟩ s k).row k = s.row k := by rw [dropU_row _ HOK.out k (by omega), if_neg (by omega)]
      rw [hrow] at hL2
      have hLl : L.length = (s.row k).length := by rw [← hL2, List.length_map]
      have hl128 := (HI.out.row k).1
      have hle := dropP_le ⟨ki, ku, kt⟩ (s.row k)
      have hsz := HK.out.size
      have HDN : Hid _ := dropN_succ ⟨ki, ku, kt⟩ s k
      obtain ⟨aw, haw⟩ : ∃ u, ((s.row k).length : Int) - ((dropP ⟨ki, ku, kt⟩ (s.row k)).length : Int) = u := ⟨_, rfl⟩
      have HD : Hid (∀ wx, Below wr.heap.size wr wx → Calls Try.prog 48 #[rv, .agg #[.int .i64 ki, .bool ku, .int .i64 kt]] wx fun x w' => ∃ a' n' c' L', x = .returned (.tuple #[.slice a' n' c', .int .i64 aw]) ∧ RJ (fun k => S k ∨ w.heap.size ≤ k) w' (.slice a' n' c') L' ∧ L'.map Prod.fst = dropP ⟨ki, ku, kt⟩ (s.row k) ∧ Below wr.heap.size wr w') := fun wx hb => by
        refine Calls.mono (rdrop_any _ wx rv L ⟨ki, ku, kt⟩ (hL.later hb) (fun b hb2 => .inr (Nat.le_trans hsz (Nat.le_trans hb.size hb2))) (by omega)) ?_
        rw [hL2, hLl, haw]
        rintro x w' ⟨rv', L', rfl, q1, q2, q3⟩
        obtain ⟨a', c', rfl⟩ := q1.slice
        exact ⟨_, _, _, L', rfl, q1, q2, hb.trans (q3.mono hb.size)⟩
      obtain ⟨ra, rc, hrv⟩ := hL.slice
      subst hrv
      obtain ⟨rl, hrl2⟩ : ∃ m, L.length = m := ⟨_, rfl⟩
      rw [hrl2] at y HD
      have k0 : wr.cell? ⟨w.heap.size, 0, none⟩ = some (.int .i64 ki) := (cell_row HR.out 0).trans rfl
      have k1 : wr.cell? ⟨w.heap.size, 1, none⟩ = some (.bool ku) := (cell_row HR.out 1).trans rfl
      have k2 : wr.cell? ⟨w.heap.size, 2, none⟩ = some (.int .i64 kt) := (cell_row HR.out 2).trans rfl
      have hkn : (k : Int) < (n : Int) := by omega
      have HWR : Hid (Value.int .i64 (wrap64 (ad + aw)) = .int .i64 (dropN ⟨ki, ku, kt⟩ s (k + 1))) := by
        show _ = _
        rw [HDN.out, had, haw, Go.IntWalk.wrap64_in _ (by omega)]
      rw [had]
      clear hL hL2 hrow hle haw hrl2 hd1 had
      go_wp2_with fail
      go_region_with (go_at_call 48; refine Calls.mono (HD.out _ (Below.refl _ wr).drew) ?_; rintro e w2 ⟨a', n', c', L', rfl, q1, q2, q3⟩; have Q1 : Hid _ := q1; have Q2 : Hid _ := q2; have Q3 : Hid _ := q3; clear q1 q2 q3)
      all_goals
        have HH2 := HH.out.later Q3.out
        have g1 := HH2.c1
        have gf := froz_row HH2.q1
        have gy := cell_later Q3.out y
        have hq1 := row_lt HH2.q1
        simp only [Act.put, List.getElem_toArray, List.getElem_cons_succ, List.getElem_cons_zero, List.setIfInBounds_toArray, List.set_cons_succ, List.set_cons_zero]
        have HH3 : Hid _ := HH2
        clear HH2
        go_wp2_with fail
        go_roundw
        case rel =>
          have hset := RV.set1 HH3.out hlt Q1.out Q2.out
          rw [dropU_hold] at hset
          have hkk : Kp (fun k => k = b1) wr (w2.setCell ⟨b1, k, none⟩ (.slice a' n' c')) := (Kp.of_below _ Q3.out).set _ _ rfl
          exact ⟨k + 1, by go_num, HWR.out, by omega, ⟨_, hset⟩, HK.out.trans hkk (fun _ h _ => h), hkk.row HR.out (by omega)⟩
        case measure => simp [intOf]; omega
    · have hkn : k = n := by omega
      subst hkn
      rw [had]
      clear hd1 had
      go_wp2_with fail
      go_ret
      rw [HAD.out]
      exact ⟨rfl, ⟨rs', by rw [← dropU_all _ HOK.out]; exact HH.out⟩, HK.out⟩
end Go.Proofs.Ytfhmmiilenonkaa
