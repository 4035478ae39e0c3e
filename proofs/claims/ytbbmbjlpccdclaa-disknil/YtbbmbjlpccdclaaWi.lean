/- The walk over disk.turn. -/
import Derived.Test.YtbbmbjlpccdclaaWh
namespace Go.Proofs.Ytbbmbjlpccdclaa
open Go.RowKit
set_option linter.unusedVariables false

set_option maxRecDepth 1000000 in
set_option maxHeartbeats 1000000 in
theorem turn_any (T : Nat → Prop) (p : Nat) (S : DS) (i : Nat) (hv : Value) (f' : Fl) (w : World) (hd : DK T w p S) (hi : i < 65) (hh : HowV hv w T (S.fs i) f') (hl : (S.fs i).b.length ≤ 10000000) (hl2 : f'.b.length ≤ 100000000) (hr : S.room ≤ 1000000000000) (hr2 : f'.b.length ≤ S.room + (S.fs i).b.length) :
    Calls Try.prog 39 #[.pointer (some ⟨p, 0, none⟩), .int .i64 i, hv] w fun e w' => e = .returned (.tuple #[]) ∧ DK (Wid T w w') w' p (turnP S i f') ∧ Kp T w w' := by
  obtain ⟨V, hd⟩ := hd
  obtain ⟨g, lb, rfl, hent, hcalls⟩ := hh
  obtain ⟨hf0, hf1, hf2⟩ := hd.file i hi
  obtain ⟨a, c, hV, _, _, _⟩ := owns_slice hf2
  have HD : Hid (DV T w.drew p S V) := hd.later (Below.refl _ _).drew
  have HC : Hid (Calls Try.prog g (#[.agg #[.slice a (S.fs i).b.length c, .int .i64 (S.fs i).s]] ++ lb) w.drew (NewF w.drew (.slice a (S.fs i).b.length c) f')) := hcalls _ _ (Kp.refl _ _).drew (by rw [← hV]; exact hf2)
  have eg : ∀ args w, (callFunc g args).run Try.prog w = .ok (.enter g args) w := hent
  have HV : Hid (V i = .slice a (S.fs i).b.length c) := hV
  have HT : Hid (∀ k, (V i).ownBlock = some k → T k) := fun k hk => (hd.mine i k hi hk).1
  have HNp : Hid (¬ (V i).ownBlock = some p) := fun he => (hd.mine i p hi he).2 rfl
  rw [hV] at hf0
  clear hd hent hcalls hf2 hV
  obtain ⟨S2, HS2⟩ : ∃ S2, Hid (S2 = turnP S i f') := ⟨_, rfl⟩
  rw [← HS2.out]
  obtain ⟨n, HN⟩ : ∃ n, Hid ((S.fs i).b.length = n) := ⟨_, rfl⟩
  obtain ⟨s, HS⟩ : ∃ s, Hid ((S.fs i).s = s) := ⟨_, rfl⟩
  rw [HN.out] at hl hr2 hf0 HC HV
  rw [HS.out] at hf1 HC
  obtain ⟨r, HR⟩ : ∃ r, Hid (S.room = r) := ⟨_, rfl⟩
  rw [HR.out] at hr hr2
  obtain ⟨n2, HN2⟩ : ∃ n2, Hid (f'.b.length = n2) := ⟨_, rfl⟩
  rw [HN2.out] at hl2 hr2
  go_enter Try.func39, Try.ntmps39
  go_wp2_with fail
  go_region_with (first | (go_at_fn g; refine Calls.mono HC.out ?_; rintro e w2 ⟨V2, rfl, h1, h2, h3⟩
                           have H1 : Hid _ := h1
                           obtain ⟨a2, c2, hV2, _, _, _⟩ := owns_slice h1
                           have H2 : Hid (Kp (fun k => (V i).ownBlock = some k) w.drew w2) := (by rw [HV.out]; exact h2)
                           have H3 : Hid (V2.ownBlock = (V i).ownBlock ∨ ∃ g, V2.ownBlock = some g ∧ w.drew.heap.size ≤ g) := (by rw [HV.out]; exact h3)
                           have HVV : Hid (V2 = .slice a2 f'.b.length c2) := hV2
                           have hpb := H2.out.block p (HD.out.live p HD.out.own) HNp.out
                           have hq0 : w2.cell? ⟨p, i * 2, none⟩ = some (.slice a n c) := (World.cell?_of_block (w := w.drew) hpb).trans hf0
                           have hq1 : w2.cell? ⟨p, i * 2 + 1, none⟩ = some (.int .i64 s) := (World.cell?_of_block (w := w.drew) hpb).trans hf1
                           have hqf : ∀ o, w2.frozen? ⟨p, o, none⟩ = false := (fun o => (World.frozen?_of_block (w := w.drew) hpb).trans (HD.out.frozen o))
                           have H4 : Hid (DV (Wid T w.drew w2) ((w2.setCell ⟨p, i * 2, none⟩ V2).setCell ⟨p, i * 2 + 1, none⟩ (.int .i64 f'.s)) p { S with fs := putF S.fs i f' } (putV V i V2)) := HD.out.put i hi V2 f' h1 H2.out H3.out
                           clear h1 h2 h3 hpb hV2
                           rw [HVV.out, HN2.out] at H4
                           rw [HVV.out, HN2.out]))
  have HK : Hid (Kp T w ((w2.setCell ⟨p, i * 2, none⟩ (.slice a2 n2 c2)).setCell ⟨p, i * 2 + 1, none⟩ (.int .i64 f'.s))) := by
    have k1 : Kp T w w2 := (Kp.refl T w).drew.trans H2.out (fun x hx _ => HT.out x hx)
    exact (k1.set _ _ HD.out.own).set _ _ HD.out.own
  have HW : Hid (w2.heap.size = ((w2.setCell ⟨p, i * 2, none⟩ (.slice a2 n2 c2)).setCell ⟨p, i * 2 + 1, none⟩ (.int .i64 f'.s)).heap.size) := by
    show _ = _
    rw [size_set, size_set]
  generalize (w2.setCell ⟨p, i * 2, none⟩ (.slice a2 n2 c2)).setCell ⟨p, i * 2 + 1, none⟩ (.int .i64 f'.s) = w3 at *
  have e0 := (H4.out.file i hi).1
  rw [putV_same] at e0
  have e1 := H4.out.rm
  rw [show ({ S with fs := putF S.fs i f' } : DS).room = r from HR.out] at e1
  have e2 := H4.out.frozen
  have HE : Hid (turnP S i f' = { S with fs := putF S.fs i f', room := r + n - n2 }) := by
    show _ = _
    unfold turnP
    rw [HR.out, HN.out, HN2.out]
  have hw1 : IntKind.i64.wrap ((n : Int) - (n2 : Int)) = (n : Int) - (n2 : Int) := by rw [IntKind.wrap_i64]; omega
  have hw2 : IntKind.i64.wrap ((r : Int) + ((n : Int) - (n2 : Int))) = (r : Int) + ((n : Int) - (n2 : Int)) := by rw [IntKind.wrap_i64]; omega
  clear hq0 hq1 hqf HC hf0 hf1
  go_wp2_with fail
  go_region
  all_goals
    go_wp2_with fail
    go_end0
    refine ⟨rfl, ?_, (HK.out.set _ _ HD.out.own).drew⟩
    rw [HS2.out, HE.out, show (r : Int) + ((n : Int) - (n2 : Int)) = ((r + n - n2 : Nat) : Int) by omega]
    have h5 := H4.out.setRoom (r + n - n2)
    have hz : (w3.setCell ⟨p, 131, none⟩ (.int .i64 ((r + n - n2 : Nat) : Int))).drew.heap.size = w2.heap.size := (size_set _ _ _).trans HW.out.symm
    refine DK.wide ⟨_, h5.later (Below.refl _ _).drew⟩ (fun k hk => ?_) (fun k hk => ?_)
    · rcases hk with hk | hk
      · exact .inl hk
      · exact .inr ⟨hk.1, by rw [hz]; exact hk.2⟩
    · rcases hk with hk | hk
      · have := HD.out.live k hk
        have := H2.out.size
        rw [hz]
        exact Nat.lt_of_lt_of_le (HD.out.live k hk) H2.out.size
      · exact hk.2
end Go.Proofs.Ytbbmbjlpccdclaa
