/- The walks over the document's Append, Sync, Cut. -/
import Derived.Test.YtbbmbjlpccdclaaXa
namespace Go.Proofs.Ytbbmbjlpccdclaa
open Go.RowKit
set_option linter.unusedVariables false

theorem str_size (l : List UInt8) : (⟨l.toArray⟩ : ByteArray).size = l.length := by show l.toArray.size = _; simp
theorem str_append (a b : List UInt8) : (⟨a.toArray⟩ : ByteArray) ++ ⟨b.toArray⟩ = ⟨(a ++ b).toArray⟩ := by
  apply ByteArray.ext
  rw [ByteArray.data_append]
  simp
theorem str_take (l : List UInt8) (n : Nat) (h : n ≤ l.length) : (⟨l.toArray⟩ : ByteArray).extract 0 n = ⟨(l.take n).toArray⟩ := by
  apply ByteArray.ext
  rw [ByteArray.data_extract]
  show l.toArray.extract 0 n = _
  simp

theorem RR.same {r g : Nat} {w : World} {S : DS} {k : Int} {w' : World} (h : RV w' r g S) (hk : Kp (fun k => k = r ∨ k = g) w w') : RR r g w (k, S) (.returned (.int .i64 k)) w' := ⟨rfl, h, hk⟩

section
variable {r g : Nat} {S : DS} {w : World}

set_option maxRecDepth 1000000 in
set_option maxHeartbeats 1000000 in
theorem rappend_any (i : Int) (l : List UInt8) (h : RV w r g S) (ho : Okay S) (hs : Small 10000000 1000000000000 S) (hl : l.length ≤ 10000000) : Calls Try.prog 32 #[.pointer (some ⟨r, 0, none⟩), .int .i64 i, str l] w (RR r g w (appendP S i l)) := by
  have h1 := h.dn
  have h2 := h.rm
  have HR : Hid (RV w r g S) := h
  have hls := str_size l
  have HH : Hid _ := rhas_any r g S i w h ho.few
  unfold str
  by_cases hdn : S.down = true
  · have hW : appendP S i l = (9, S) := by unfold appendP writeP; rw [if_pos hdn]
    rw [hW]
    rw [hdn] at h1
    clear h hW hdn HH
    go_enter Try.func32, Try.ntmps32
    go_wp2_with fail
    go_ret
    exact RR.same HR.out (Kp.refl _ _)
  have hd2 : S.down = false := by simpa using hdn
  rw [hd2] at h1
  by_cases hh : hasB S i = true
  case neg =>
    have hh2 : hasB S i = false := by simpa using hh
    have hW : appendP S i l = (2, S) := by unfold appendP writeP; rw [if_neg hdn, if_pos hh2]
    rw [hW]
    rw [hh2] at HH
    clear h hW hdn hd2 hh hh2
    go_enter Try.func32, Try.ntmps32
    go_wp2_with (first | (go_at_call 58; refine Calls.mono HH.out ?_; rintro e w2 ⟨rfl, rfl⟩))
    go_ret
    exact RR.same HR.out (Kp.refl _ _)
  rw [hh] at HH
  by_cases hm : l.length ≤ S.room
  case neg =>
    have hW : appendP S i l = (8, S) := by unfold appendP writeP fitsP; rw [if_neg hdn, if_neg (by rw [hh]; decide), if_neg hm, if_pos (by decide)]
    rw [hW]
    have hm2 : (S.room : Int) < (l.length : Int) := by omega
    generalize S.room = x at *
    clear h hW hdn hd2 hh hs
    go_enter Try.func32, Try.ntmps32
    go_wp2_with (first | (go_at_call 58; refine Calls.mono HH.out ?_; rintro e w2 ⟨rfl, rfl⟩))
    go_ret
    exact RR.same HR.out (Kp.refl _ _)
  by_cases hf : S.fuse = 0
  · have hW : appendP S i l = (9, { S with down := true }) := by unfold appendP writeP fitsP; rw [if_neg hdn, if_neg (by rw [hh]; decide), if_pos hm, if_neg (by simp), if_pos hf]
    rw [hW]
    have HB : Hid _ := rburns_off r g S w h hf
    have hm2 : ¬ (S.room : Int) < (l.length : Int) := by omega
    obtain ⟨x, HX⟩ : ∃ x, Hid (S.room = x) := ⟨_, rfl⟩
    rw [HX.out] at h2 hm2
    clear h hW hdn hd2 hh hs hm hf
    go_enter Try.func32, Try.ntmps32
    go_wp2_with (first | (go_at_call 58; refine Calls.mono HH.out ?_; rintro e w2 ⟨rfl, rfl⟩) | (go_at_call 59; refine Calls.mono HB.out ?_; rintro e w2 ⟨rfl, rfl⟩))
    go_ret
    exact RR.same (HR.out.setDown true) ((Kp.refl _ _).set _ _ (.inl rfl))
  obtain ⟨k, rfl, hkn⟩ := hasB_true hh
  have hW : appendP S k l = (0, turnP { S with fuse := burnF S.fuse } k ⟨(S.fs k).b ++ l, (S.fs k).s⟩) := by unfold appendP writeP fitsP; rw [if_neg hdn, if_neg (by rw [hh]; decide), if_pos hm, if_neg (by simp), if_neg hf]; rfl
  rw [hW]
  have HB : Hid _ := rburns_on r g S w h ho.fuse ho.fuse2 hd2 hf
  have hm2 : ¬ (S.room : Int) < (l.length : Int) := by omega
  have hsl := hs.len k
  have hrm := hs.room
  have hfew := ho.few
  obtain ⟨x, HX⟩ : ∃ x, Hid (S.room = x) := ⟨_, rfl⟩
  rw [HX.out] at h2 hm hm2 hrm
  clear h hW hdn hd2 hh hs hf ho
  go_enter Try.func32, Try.ntmps32
  go_wp2_with (first
    | (go_at_call 58; refine Calls.mono HH.out ?_; rintro e w2 ⟨rfl, rfl⟩)
    | (go_at_call 59; refine Calls.mono HB.out ?_; rintro e w2 ⟨rfl, hr2, hk2⟩
       have q0 := hr2.sl
       have q1 : w2.cell? ⟨g, k * 2, none⟩ = some (.string ⟨(S.fs k).b.toArray⟩) := (hr2.file k hkn).1
       have q2 := hr2.frz.1
       have q3 := hr2.frz.2
       have HR2 : Hid (RV w2 r g { S with fuse := burnF S.fuse }) := hr2
       have HK2 : Hid _ := hk2
       clear hr2 hk2))
  have hbs := str_size (S.fs k).b
  go_region
  have HR3 : Hid (RV ((w2.setCell ⟨g, k * 2, none⟩ (str ((S.fs k).b ++ l))).drew) r g { S with fuse := burnF S.fuse, fs := putF S.fs k ⟨(S.fs k).b ++ l, (S.fs k).s⟩ }) := (HR2.out.setB k hkn _).drew
  have HK3 : Hid _ := (HK2.out.set ⟨g, k * 2, none⟩ (str ((S.fs k).b ++ l)) (.inr rfl)).drew
  unfold str at HR3 HK3
  rw [str_append]
  generalize (w2.setCell ⟨g, k * 2, none⟩ (.string ⟨((S.fs k).b ++ l).toArray⟩)).drew = w3 at *
  have p0 : w3.cell? ⟨r, 1, none⟩ = some (.int .i64 x) := by rw [← HX.out]; exact HR3.out.rm
  have p1 := HR3.out.frz.1
  have HE : Hid (turnP { S with fuse := burnF S.fuse } k ⟨(S.fs k).b ++ l, (S.fs k).s⟩ = { S with fuse := burnF S.fuse, fs := putF S.fs k ⟨(S.fs k).b ++ l, (S.fs k).s⟩, room := x - l.length }) := by
    show _ = _
    unfold turnP
    simp only [List.length_append, HX.out]
    congr 1
    omega
  clear q0 q1 q2 q3
  go_wp2_with fail
  go_ret
  refine ⟨rfl, ?_, HK3.out.set _ _ (.inl rfl)⟩
  have := HR3.out.setRoom (x - l.length)
  rw [show ((x - l.length : Nat) : Int) = (x : Int) - (l.length : Int) by omega] at this
  show RV _ r g (turnP { S with fuse := burnF S.fuse } k ⟨(S.fs k).b ++ l, (S.fs k).s⟩)
  rw [HE.out]
  exact this

set_option maxRecDepth 1000000 in
set_option maxHeartbeats 1000000 in
theorem rsync_any (i : Int) (h : RV w r g S) (ho : Okay S) (hs : Small 10000000 1000000000000 S) : Calls Try.prog 27 #[.pointer (some ⟨r, 0, none⟩), .int .i64 i] w (RR r g w (syncP S i)) := by
  have h1 := h.dn
  have HR : Hid (RV w r g S) := h
  have HH : Hid _ := rhas_any r g S i w h ho.few
  by_cases hdn : S.down = true
  · have hW : syncP S i = (9, S) := by unfold syncP writeP; rw [if_pos hdn]
    rw [hW]
    rw [hdn] at h1
    clear h hW hdn HH
    go_enter Try.func27, Try.ntmps27
    go_wp2_with fail
    go_ret
    exact RR.same HR.out (Kp.refl _ _)
  have hd2 : S.down = false := by simpa using hdn
  rw [hd2] at h1
  by_cases hh : hasB S i = true
  case neg =>
    have hh2 : hasB S i = false := by simpa using hh
    have hW : syncP S i = (2, S) := by unfold syncP writeP; rw [if_neg hdn, if_pos hh2]
    rw [hW]
    rw [hh2] at HH
    clear h hW hdn hd2 hh hh2
    go_enter Try.func27, Try.ntmps27
    go_wp2_with (first | (go_at_call 58; refine Calls.mono HH.out ?_; rintro e w2 ⟨rfl, rfl⟩))
    go_ret
    exact RR.same HR.out (Kp.refl _ _)
  rw [hh] at HH
  by_cases hf : S.fuse = 0
  · have hW : syncP S i = (9, { S with down := true }) := by unfold syncP writeP; rw [if_neg hdn, if_neg (by rw [hh]; decide), if_neg (by simp), if_pos hf]
    rw [hW]
    have HB : Hid _ := rburns_off r g S w h hf
    clear h hW hdn hd2 hh hs hf
    go_enter Try.func27, Try.ntmps27
    go_wp2_with (first | (go_at_call 58; refine Calls.mono HH.out ?_; rintro e w2 ⟨rfl, rfl⟩) | (go_at_call 59; refine Calls.mono HB.out ?_; rintro e w2 ⟨rfl, rfl⟩))
    go_ret
    exact RR.same (HR.out.setDown true) ((Kp.refl _ _).set _ _ (.inl rfl))
  obtain ⟨k, rfl, hkn⟩ := hasB_true hh
  have hE : turnP { S with fuse := burnF S.fuse } k (firstP (S.fs k).b.length (S.fs k)) = { S with fuse := burnF S.fuse, fs := putF S.fs k ⟨(S.fs k).b, (S.fs k).b.length⟩ } := by
    unfold turnP firstP
    simp only [List.take_length]
    congr 1
    omega
  have hW : syncP S k = (0, { S with fuse := burnF S.fuse, fs := putF S.fs k ⟨(S.fs k).b, (S.fs k).b.length⟩ }) := by
    rw [← hE]
    unfold syncP writeP
    rw [if_neg hdn, if_neg (by rw [hh]; decide), if_neg (by simp), if_neg hf]
    rfl
  rw [hW]
  have HB : Hid _ := rburns_on r g S w h ho.fuse ho.fuse2 hd2 hf
  have hsl := hs.len k
  have hfew := ho.few
  have hbs := str_size (S.fs k).b
  clear h hW hE hdn hd2 hh hs hf ho
  go_enter Try.func27, Try.ntmps27
  go_wp2_with (first
    | (go_at_call 58; refine Calls.mono HH.out ?_; rintro e w2 ⟨rfl, rfl⟩)
    | (go_at_call 59; refine Calls.mono HB.out ?_; rintro e w2 ⟨rfl, hr2, hk2⟩
       have q0 := hr2.sl
       have q1 : w2.cell? ⟨g, k * 2, none⟩ = some (.string ⟨(S.fs k).b.toArray⟩) := (hr2.file k hkn).1
       have q1b := (hr2.file k hkn).2
       have q3 := hr2.frz.2
       have HR2 : Hid (RV w2 r g { S with fuse := burnF S.fuse }) := hr2
       have HK2 : Hid _ := hk2
       clear hr2 hk2))
  go_region
  all_goals
    go_wp2_with fail
    go_ret
    exact ⟨rfl, (HR2.out.setS k hkn (S.fs k).b.length).drew, (HK2.out.set _ _ (.inr rfl)).drew⟩

set_option maxRecDepth 1000000 in
set_option maxHeartbeats 1000000 in
theorem rcut_any (i n : Int) (h : RV w r g S) (ho : Okay S) (hs : Small 10000000 1000000000000 S) : Calls Try.prog 28 #[.pointer (some ⟨r, 0, none⟩), .int .i64 i, .int .i64 n] w (RR r g w (cutP S i n)) := by
  have h1 := h.dn
  have HR : Hid (RV w r g S) := h
  have HH : Hid _ := rhas_any r g S i w h ho.few
  by_cases hdn : S.down = true
  · have hW : cutP S i n = (9, S) := by unfold cutP writeP; rw [if_pos hdn]
    rw [hW]
    rw [hdn] at h1
    clear h hW hdn HH
    go_enter Try.func28, Try.ntmps28
    go_wp2_with fail
    go_ret
    exact RR.same HR.out (Kp.refl _ _)
  have hd2 : S.down = false := by simpa using hdn
  rw [hd2] at h1
  by_cases hh : hasB S i = true
  case neg =>
    have hh2 : hasB S i = false := by simpa using hh
    have hW : cutP S i n = (2, S) := by unfold cutP writeP; rw [if_neg hdn, if_pos hh2]
    rw [hW]
    rw [hh2] at HH
    clear h hW hdn hd2 hh hh2
    go_enter Try.func28, Try.ntmps28
    go_wp2_with (first | (go_at_call 58; refine Calls.mono HH.out ?_; rintro e w2 ⟨rfl, rfl⟩))
    go_ret
    exact RR.same HR.out (Kp.refl _ _)
  rw [hh] at HH
  have hh' := hh
  obtain ⟨k, rfl, hkn⟩ := hasB_true hh'
  have hsl := hs.len k
  have hfew := ho.few
  have hbs := str_size (S.fs k).b
  have t0 := h.sl
  have t1 : w.cell? ⟨g, k * 2, none⟩ = some (.string ⟨(S.fs k).b.toArray⟩) := (h.file k hkn).1
  by_cases hm : 0 ≤ n ∧ n ≤ (S.fs k).b.length
  case neg =>
    have hr : reachP S k n = 2 := by unfold reachP; rw [if_neg (by simpa using hm)]
    have hW : cutP S k n = (2, S) := by unfold cutP writeP; rw [if_neg hdn, if_neg (by rw [hh]; decide), hr, if_pos (by decide)]
    rw [hW]
    clear h hW hdn hd2 hh hs hr
    by_cases hn0 : n < 0
    · go_enter Try.func28, Try.ntmps28
      go_wp2_with (first | (go_at_call 58; refine Calls.mono HH.out ?_; rintro e w2 ⟨rfl, rfl⟩))
      go_ret
      exact RR.same HR.out (Kp.refl _ _)
    · have hn1 : ((S.fs k).b.length : Int) < n := by omega
      clear hm
      go_enter Try.func28, Try.ntmps28
      go_wp2_with (first | (go_at_call 58; refine Calls.mono HH.out ?_; rintro e w2 ⟨rfl, rfl⟩))
      go_ret
      exact RR.same HR.out (Kp.refl _ _)
  obtain ⟨m, rfl⟩ : ∃ m : Nat, n = m := ⟨n.toNat, by omega⟩
  have hm1 : m ≤ (S.fs k).b.length := by omega
  have hm2 : ¬ ((S.fs k).b.length : Int) < (m : Int) := by omega
  have hr : reachP S k m = 0 := by unfold reachP; rw [if_pos (by simpa using hm)]
  by_cases hf : S.fuse = 0
  · have hW : cutP S k m = (9, { S with down := true }) := by unfold cutP writeP; rw [if_neg hdn, if_neg (by rw [hh]; decide), hr, if_neg (by simp), if_pos hf]
    rw [hW]
    have HB : Hid _ := rburns_off r g S w h hf
    clear h hW hdn hd2 hh hs hf hm hr
    go_enter Try.func28, Try.ntmps28
    go_wp2_with (first | (go_at_call 58; refine Calls.mono HH.out ?_; rintro e w2 ⟨rfl, rfl⟩) | (go_at_call 59; refine Calls.mono HB.out ?_; rintro e w2 ⟨rfl, rfl⟩))
    go_ret
    exact RR.same (HR.out.setDown true) ((Kp.refl _ _).set _ _ (.inl rfl))
  obtain ⟨x, HX⟩ : ∃ x, Hid (S.room = x) := ⟨_, rfl⟩
  have hE : turnP { S with fuse := burnF S.fuse } k (firstP m (S.fs k)) = { S with fuse := burnF S.fuse, fs := putF S.fs k ⟨(S.fs k).b.take m, m⟩, room := x + (S.fs k).b.length - m } := by
    unfold turnP firstP
    simp only [List.length_take, HX.out]
    congr 1
    omega
  have hW : cutP S k m = (0, { S with fuse := burnF S.fuse, fs := putF S.fs k ⟨(S.fs k).b.take m, m⟩, room := x + (S.fs k).b.length - m }) := by
    rw [← hE]
    unfold cutP writeP
    rw [if_neg hdn, if_neg (by rw [hh]; decide), hr, if_neg (by simp), if_neg hf]
    rfl
  rw [hW]
  have HB : Hid _ := rburns_on r g S w h ho.fuse ho.fuse2 hd2 hf
  have hrm := hs.room
  rw [HX.out] at hrm
  clear h hW hE hdn hd2 hh hs hf ho hm hr
  go_enter Try.func28, Try.ntmps28
  go_wp2_with (first
    | (go_at_call 58; refine Calls.mono HH.out ?_; rintro e w2 ⟨rfl, rfl⟩)
    | (go_at_call 59; refine Calls.mono HB.out ?_; rintro e w2 ⟨rfl, hr2, hk2⟩
       have q0 := hr2.sl
       have q1 : w2.cell? ⟨g, k * 2, none⟩ = some (.string ⟨(S.fs k).b.toArray⟩) := (hr2.file k hkn).1
       have q2 := hr2.frz.1
       have q4 : w2.cell? ⟨r, 1, none⟩ = some (.int .i64 x) := (by rw [← HX.out]; exact hr2.rm)
       have HR2 : Hid (RV w2 r g { S with fuse := burnF S.fuse }) := hr2
       have HK2 : Hid _ := hk2
       clear hr2 hk2))
  have hw1 : IntKind.i64.wrap ((x : Int) + ((S.fs k).b.length : Int)) = (x : Int) + ((S.fs k).b.length : Int) := by rw [IntKind.wrap_i64]; omega
  have hw2 : IntKind.i64.wrap ((x : Int) + ((S.fs k).b.length : Int) - (m : Int)) = (x : Int) + ((S.fs k).b.length : Int) - (m : Int) := by rw [IntKind.wrap_i64]; omega
  go_region
  rw [show (x : Int) + ((S.fs k).b.length : Int) - (m : Int) = ((x + (S.fs k).b.length - m : Nat) : Int) by omega]
  have HR3 : Hid (RV ((w2.setCell ⟨r, 1, none⟩ (.int .i64 ((x + (S.fs k).b.length - m : Nat) : Int))).drew) r g { S with fuse := burnF S.fuse, room := x + (S.fs k).b.length - m }) := (HR2.out.setRoom _).drew
  have HK3 : Hid _ := (HK2.out.set ⟨r, 1, none⟩ (.int .i64 ((x + (S.fs k).b.length - m : Nat) : Int)) (.inl rfl)).drew
  generalize (w2.setCell ⟨r, 1, none⟩ (.int .i64 ((x + (S.fs k).b.length - m : Nat) : Int))).drew = w3 at *
  have p0 := HR3.out.sl
  have p1 : w3.cell? ⟨g, k * 2, none⟩ = some (.string ⟨(S.fs k).b.toArray⟩) := (HR3.out.file k hkn).1
  have p1b := (HR3.out.file k hkn).2
  have p3 := HR3.out.frz.2
  clear q0 q1 q2 q4 hw1 hw2
  go_wp2_with fail
  go_region
  rw [str_take _ _ hm1]
  have HR4 := (HR3.out.setB k hkn ((S.fs k).b.take m)).setS k hkn m
  have HR5 : Hid (RV (((w3.setCell ⟨g, k * 2, none⟩ (.string ⟨((S.fs k).b.take m).toArray⟩)).setCell ⟨g, k * 2 + 1, none⟩ (.int .i64 m)).drew) r g { S with fuse := burnF S.fuse, fs := putF S.fs k ⟨(S.fs k).b.take m, m⟩, room := x + (S.fs k).b.length - m }) := by
    have := HR4.drew
    simp only [putF_same] at this
    have e : putF (putF S.fs k ⟨(S.fs k).b.take m, (S.fs k).s⟩) k ⟨(S.fs k).b.take m, m⟩ = putF S.fs k ⟨(S.fs k).b.take m, m⟩ := by
      funext j
      unfold putF
      split <;> rfl
    rw [e] at this
    exact this
  have HK5 : Hid _ := ((HK3.out.set ⟨g, k * 2, none⟩ (.string ⟨((S.fs k).b.take m).toArray⟩) (.inr rfl)).set ⟨g, k * 2 + 1, none⟩ (.int .i64 m) (.inr rfl)).drew
  clear HR4
  go_wp2_with fail
  go_ret
  exact ⟨rfl, HR5.out, HK5.out⟩
end
end Go.Proofs.Ytbbmbjlpccdclaa
