/- The walk over the laws' alike. -/
import Derived.Test.YtbbmbjlpccdclaaXc
import Derived.Test.YtbbmbjlpccdclaaWt
namespace Go.Proofs.Ytbbmbjlpccdclaa
open Go.RowKit
set_option linter.unusedVariables false

set_option maxRecDepth 1000000 in
set_option maxHeartbeats 4000000 in
theorem alike_any (T : Nat → Prop) (w : World) (p r g : Nat) (S : DS) (hd : DK T w p S) (hr : RV w r g S) (ho : Okay S) (hs : Small 10000000 1000000000000 S) :
    Calls Try.prog 13 #[.pointer (some ⟨p, 0, none⟩), .pointer (some ⟨r, 0, none⟩)] w fun e w' => e = .returned (.bool true) ∧ Below w.heap.size w w' := by
  have HD : Hid (∀ wx, Below w.heap.size w wx → DK T wx p S) := fun wx hb => hd.later hb
  have HV : Hid (∀ wx, Below w.heap.size w wx → RV wx r g S) := fun wx hb => hr.later hb
  have HO : Hid (Okay S) := ho
  have HS : Hid (Small 10000000 1000000000000 S) := hs
  have hfew := ho.few
  obtain ⟨n, HN⟩ : ∃ n, Hid (S.n = n) := ⟨_, rfl⟩
  rw [HN.out] at hfew
  clear hd hr ho hs
  go_enter Try.func13, Try.ntmps13
  go_wp2_with fail
  go_loopw [5] (fun i wr => ∃ (k : Nat), k ≤ n ∧ i = .int .i64 k ∧ Hid (Below w.heap.size w wr)) (fun i _ => n - (intOf i).toNat)
  case atStart => exact ⟨0, Nat.zero_le _, rfl, Below.refl _ _⟩
  case round =>
    obtain ⟨k, hk, rfl, HB⟩ := hrel
    have hv := HV.out wr HB.out
    have t0 := hv.sl
    rw [HN.out] at t0
    by_cases hlt : k < n
    · have hf := hv.file k (by rw [HN.out]; exact hlt)
      have t1 : wr.cell? ⟨g, k * 2, none⟩ = some (.string ⟨(S.fs k).b.toArray⟩) := hf.1
      have t2 := hf.2
      have hhas : hasB S k = true := by unfold hasB; rw [HN.out]; simp; omega
      have HRd : Hid (∀ wx, Below w.heap.size w wx → Calls Try.prog 15 #[.pointer (some ⟨p, 0, none⟩), .int .i64 k] wx fun e w' => (∃ v, e = .returned v ∧ RB w' v (S.fs k).b) ∧ Below wx.heap.size wx w') := fun wx hb => by
        have := read_any T wx p S k (HD.out wx hb) HO.out HS.out
        unfold readP at this
        rw [hhas, if_pos rfl] at this
        exact this
      have HSy : Hid (∀ wx, Below w.heap.size w wx → Calls Try.prog 16 #[.pointer (some ⟨p, 0, none⟩), .int .i64 k] wx fun e w' => e = .returned (.int .i64 (S.fs k).s) ∧ Below wx.heap.size wx w') := fun wx hb => by
        have := synced_any T wx p S k (HD.out wx hb) HO.out HS.out
        unfold syncedP at this
        rw [hhas, if_pos rfl] at this
        exact this
      have HK : Hid (∀ w1 w2 : World, (Below w.heap.size w w1 ∧ w1.cell? ⟨r, 0, none⟩ = some (.slice (some ⟨g, 0, none⟩) n n) ∧ w1.cell? ⟨g, k * 2, none⟩ = some (.string ⟨(S.fs k).b.toArray⟩) ∧ w1.cell? ⟨g, k * 2 + 1, none⟩ = some (.int .i64 (S.fs k).s)) → Below w1.heap.size w1 w2 → (Below w.heap.size w w2 ∧ w2.cell? ⟨r, 0, none⟩ = some (.slice (some ⟨g, 0, none⟩) n n) ∧ w2.cell? ⟨g, k * 2, none⟩ = some (.string ⟨(S.fs k).b.toArray⟩) ∧ w2.cell? ⟨g, k * 2 + 1, none⟩ = some (.int .i64 (S.fs k).s))) :=
        fun w1 w2 h hb => ⟨h.1.trans (hb.mono h.1.size), cell_later hb h.2.1, cell_later hb h.2.2.1, cell_later hb h.2.2.2⟩
      have HS0 : Hid (Below w.heap.size w wr.drew ∧ wr.drew.cell? ⟨r, 0, none⟩ = some (.slice (some ⟨g, 0, none⟩) n n) ∧ wr.drew.cell? ⟨g, k * 2, none⟩ = some (.string ⟨(S.fs k).b.toArray⟩) ∧ wr.drew.cell? ⟨g, k * 2 + 1, none⟩ = some (.int .i64 (S.fs k).s)) := ⟨HB.out.drew, t0, t1, t2⟩
      generalize (S.fs k).s = s at *
      generalize (S.fs k).b = b at *
      clear hv hf hhas
      go_wp2_with fail
      go_region_held_law (fun w' => Below w.heap.size w w' ∧ w'.cell? ⟨r, 0, none⟩ = some (.slice (some ⟨g, 0, none⟩) n n) ∧ w'.cell? ⟨g, k * 2, none⟩ = some (.string ⟨b.toArray⟩) ∧ w'.cell? ⟨g, k * 2 + 1, none⟩ = some (.int .i64 s)) (first | assumption | exact HS0.out | exact HK.out _ _ ‹_› hb5 | exact HK.out _ _ ‹_› hb4) (first
        | (go_simp; go_at_call 15; refine Calls.mono (HRd.out _ HS0.out.1) ?_; rintro e w4 ⟨⟨v, rfl, hv4⟩, hb4⟩
           have hcv := string_of_RB hv4
           have HB4 : Hid _ := (HK.out _ _ HS0.out hb4).1)
        | (go_simp; go_at_call 16; refine Calls.mono (HSy.out _ HB4.out) ?_; rintro e w5 ⟨rfl, hb5⟩))
      all_goals
        have HB5 : Hid (Below w.heap.size w w5) := HB4.out.trans (hb5.mono HB4.out.size)
        clear hb5 hb4 HK HS0
        go_wp2_with fail
        go_roundw
        case rel => exact ⟨k + 1, by omega, by go_num, HB5⟩
        case measure => simp [intOf]; omega
    · have hkn : k = n := by omega
      subst hkn
      have t1 := hv.rm
      have t3 := hv.dn
      have HF : Hid (∀ wx, Below w.heap.size w wx → Calls Try.prog 25 #[.pointer (some ⟨p, 0, none⟩)] wx fun e w' => e = .returned (.int .i64 k) ∧ Below wx.heap.size wx w') := fun wx hb => by
        obtain ⟨V, hd⟩ := HD.out wx hb
        have hpos := HO.out.pos
        have := files_any p S.n S.n wx hd.cnt (by omega) hd.cnt
        rw [HN.out] at this
        exact this
      have HRm : Hid (∀ wx, Below w.heap.size w wx → Calls Try.prog 19 #[.pointer (some ⟨p, 0, none⟩)] wx fun e w' => e = .returned (.int .i64 S.room) ∧ Below wx.heap.size wx w') := fun wx hb => by
        obtain ⟨V, hd⟩ := HD.out wx hb
        have hpos := HO.out.pos
        exact room_any p S.n S.room wx hd.cnt (by omega) hd.rm
      have HDn : Hid (∀ wx, Below w.heap.size w wx → Calls Try.prog 18 #[.pointer (some ⟨p, 0, none⟩)] wx fun e w' => e = .returned (.bool S.down) ∧ Below wx.heap.size wx w') := fun wx hb => by
        obtain ⟨V, hd⟩ := HD.out wx hb
        have hpos := HO.out.pos
        exact down_any p S.n S.down wx hd.cnt (by omega) hd.dn
      have HRd : Hid (∀ wx, Below w.heap.size w wx → Calls Try.prog 15 #[.pointer (some ⟨p, 0, none⟩), .int .i64 k] wx fun e w' => (∃ a c, e = .returned (.slice a 0 c)) ∧ Below wx.heap.size wx w') := fun wx hb => by
        have := read_any T wx p S k (HD.out wx hb) HO.out HS.out
        unfold readP hasB at this
        rw [HN.out, decide_eq_false (by omega), if_neg (by decide)] at this
        refine Calls.mono this ?_
        rintro e w' ⟨⟨v, rfl, hv⟩, hb2⟩
        obtain ⟨a, c, rfl, _⟩ := hv
        exact ⟨⟨a, c, rfl⟩, hb2⟩
      have HSy : Hid (∀ wx, Below w.heap.size w wx → Calls Try.prog 16 #[.pointer (some ⟨p, 0, none⟩), .int .i64 (-1)] wx fun e w' => e = .returned (.int .i64 0) ∧ Below wx.heap.size wx w') := fun wx hb => by
        have := synced_any T wx p S (-1) (HD.out wx hb) HO.out HS.out
        unfold syncedP hasB at this
        rw [decide_eq_false (by omega), if_neg (by decide)] at this
        exact this
      have HK : Hid (∀ w1 w2 : World, (Below w.heap.size w w1 ∧ w1.cell? ⟨r, 0, none⟩ = some (.slice (some ⟨g, 0, none⟩) k k) ∧ w1.cell? ⟨r, 1, none⟩ = some (.int .i64 S.room) ∧ w1.cell? ⟨r, 3, none⟩ = some (.bool S.down)) → Below w1.heap.size w1 w2 → (Below w.heap.size w w2 ∧ w2.cell? ⟨r, 0, none⟩ = some (.slice (some ⟨g, 0, none⟩) k k) ∧ w2.cell? ⟨r, 1, none⟩ = some (.int .i64 S.room) ∧ w2.cell? ⟨r, 3, none⟩ = some (.bool S.down))) :=
        fun w1 w2 h hb => ⟨h.1.trans (hb.mono h.1.size), cell_later hb h.2.1, cell_later hb h.2.2.1, cell_later hb h.2.2.2⟩
      have HS0 : Hid (Below w.heap.size w wr.drew ∧ wr.drew.cell? ⟨r, 0, none⟩ = some (.slice (some ⟨g, 0, none⟩) k k) ∧ wr.drew.cell? ⟨r, 1, none⟩ = some (.int .i64 S.room) ∧ wr.drew.cell? ⟨r, 3, none⟩ = some (.bool S.down)) := ⟨HB.out.drew, t0, t1, t3⟩
      generalize S.room = x at *
      generalize S.down = dn at *
      clear hv
      go_wp2_with fail
      go_region_held_law (fun w' => Below w.heap.size w w' ∧ w'.cell? ⟨r, 0, none⟩ = some (.slice (some ⟨g, 0, none⟩) k k) ∧ w'.cell? ⟨r, 1, none⟩ = some (.int .i64 x) ∧ w'.cell? ⟨r, 3, none⟩ = some (.bool dn)) (first | assumption | exact HS0.out | exact HK.out _ _ ‹_› hb8 | exact HK.out _ _ ‹_› hb7 | exact HK.out _ _ ‹_› hb6 | exact HK.out _ _ ‹_› hb5 | exact HK.out _ _ ‹_› hb4) (first
        | (go_simp; go_at_call 25; refine Calls.mono (HF.out _ HS0.out.1) ?_; rintro e w4 ⟨rfl, hb4⟩
           have HB4 : Hid _ := (HK.out _ _ HS0.out hb4).1)
        | (go_simp; go_at_call 19; refine Calls.mono (HRm.out _ HB4.out) ?_; rintro e w5 ⟨rfl, hb5⟩
           have HB5 : Hid _ := HB4.out.trans (hb5.mono HB4.out.size))
        | (go_simp; go_at_call 18; refine Calls.mono (HDn.out _ HB5.out) ?_; rintro e w6 ⟨rfl, hb6⟩
           have HB6 : Hid _ := HB5.out.trans (hb6.mono HB5.out.size))
        | (go_simp; go_at_call 15; refine Calls.mono (HRd.out _ HB6.out) ?_; rintro e w7 ⟨⟨a7, c7, rfl⟩, hb7⟩
           have HB7 : Hid _ := HB6.out.trans (hb7.mono HB6.out.size))
        | (go_simp; go_at_call 16; refine Calls.mono (HSy.out _ HB7.out) ?_; rintro e w8 ⟨rfl, hb8⟩
           have HB8 : Hid _ := HB7.out.trans (hb8.mono HB7.out.size)))
      all_goals
        go_wp2_with fail
        go_ret
        exact ⟨by simp, HB8.out⟩
end Go.Proofs.Ytbbmbjlpccdclaa
