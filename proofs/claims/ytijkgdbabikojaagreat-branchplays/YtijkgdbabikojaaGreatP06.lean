/- Texts of the seat, packed: DXb DWi DWj. -/
import Derived.Test.YtijkgdbabikojaaGreatP05
/- The walks over the document's Append, Sync, Cut. -/
namespace Go.Proofs.YtijkgdbabikojaaGreat.Dk
set_option maxRecDepth 1000000
open Go.RowKit
set_option linter.unusedVariables false

theorem str_size (l : List UInt8) : (⟨l.toArray⟩ : ByteArray).size = l.length := by show l.toArray.size = _; simp
theorem str_append (a b : List UInt8) : (⟨a.toArray⟩ : ByteArray) ++ ⟨b.toArray⟩ = ⟨(a ++ b).toArray⟩ := by
  apply ByteArray.ext
  rw [ByteArray.data_append]
  simp
theorem str_take (l : List UInt8) (n : Nat) (h : n ≤ l.length) : (⟨l.toArray⟩ : ByteArray).extract 0 n = ⟨(l.take n).toArray⟩ := by
  apply ByteArray.ext
  rw [ByteArray.data_extract]
  show l.toArray.extract 0 n = _
  simp

theorem RR.same {r g : Nat} {w : World} {S : DS} {k : Int} {w' : World} (h : RV w' r g S) (hk : Kp (fun k => k = r ∨ k = g) w w') : RR r g w (k, S) (.returned (.int .i64 k)) w' := ⟨rfl, h, hk⟩

section
variable {r g : Nat} {S : DS} {w : World}

set_option maxRecDepth 1000000 in
set_option maxHeartbeats 1000000 in
theorem rappend_any (i : Int) (l : List UInt8) (h : RV w r g S) (ho : Okay S) (hs : Small 10000000 1000000000000 S) (hl : l.length ≤ 10000000) : Calls Tryz.prog 25 #[.pointer (some ⟨r, 0, none⟩), .int .i64 i, str l] w (RR r g w (appendP S i l)) := by
  have h1 := h.dn
  have h2 := h.rm
  have HR : Hid (RV w r g S) := h
  have hls := str_size l
  have HH : Hid _ := rhas_any r g S i w h ho.few
  unfold str
  by_cases hdn : S.down = true
  · have hW : appendP S i l = (9, S) := by unfold appendP writeP; rw [if_pos hdn]
    rw [hW]
    rw [hdn] at h1
    clear h hW hdn HH
    go_enter Tryz.func25, Tryz.ntmps25
    go_wp2_with fail
    go_ret
    exact RR.same HR.out (Kp.refl _ _)
  have hd2 : S.down = false := by simpa using hdn
  rw [hd2] at h1
  by_cases hh : hasB S i = true
  case neg =>
    have hh2 : hasB S i = false := by simpa using hh
    have hW : appendP S i l = (2, S) := by unfold appendP writeP; rw [if_neg hdn, if_pos hh2]
    rw [hW]
    rw [hh2] at HH
    clear h hW hdn hd2 hh hh2
    go_enter Tryz.func25, Tryz.ntmps25
    go_wp2_with (first | (go_at_call 56; refine Calls.mono HH.out ?_; rintro e w2 ⟨rfl, rfl⟩))
    go_ret
    exact RR.same HR.out (Kp.refl _ _)
  rw [hh] at HH
  by_cases hm : l.length ≤ S.room
  case neg =>
    have hW : appendP S i l = (8, S) := by unfold appendP writeP fitsP; rw [if_neg hdn, if_neg (by rw [hh]; decide), if_neg hm, if_pos (by decide)]
    rw [hW]
    have hm2 : (S.room : Int) < (l.length : Int) := by omega
    generalize S.room = x at *
    clear h hW hdn hd2 hh hs
    go_enter Tryz.func25, Tryz.ntmps25
    go_wp2_with (first | (go_at_call 56; refine Calls.mono HH.out ?_; rintro e w2 ⟨rfl, rfl⟩))
    go_ret
    exact RR.same HR.out (Kp.refl _ _)
  by_cases hf : S.fuse = 0
  · have hW : appendP S i l = (9, { S with down := true }) := by unfold appendP writeP fitsP; rw [if_neg hdn, if_neg (by rw [hh]; decide), if_pos hm, if_neg (by simp), if_pos hf]
    rw [hW]
    have HB : Hid _ := rburns_off r g S w h hf
    have hm2 : ¬ (S.room : Int) < (l.length : Int) := by omega
    obtain ⟨x, HX⟩ : ∃ x, Hid (S.room = x) := ⟨_, rfl⟩
    rw [HX.out] at h2 hm2
    clear h hW hdn hd2 hh hs hm hf
    go_enter Tryz.func25, Tryz.ntmps25
    go_wp2_with (first | (go_at_call 56; refine Calls.mono HH.out ?_; rintro e w2 ⟨rfl, rfl⟩) | (go_at_call 57; refine Calls.mono HB.out ?_; rintro e w2 ⟨rfl, rfl⟩))
    go_ret
    exact RR.same (HR.out.setDown true) ((Kp.refl _ _).set _ _ (.inl rfl))
  obtain ⟨k, rfl, hkn⟩ := hasB_true hh
  have hW : appendP S k l = (0, turnP { S with fuse := burnF S.fuse } k ⟨(S.fs k).b ++ l, (S.fs k).s⟩) := by unfold appendP writeP fitsP; rw [if_neg hdn, if_neg (by rw [hh]; decide), if_pos hm, if_neg (by simp), if_neg hf]; rfl
  rw [hW]
  have HB : Hid _ := rburns_on r g S w h ho.fuse ho.fuse2 hd2 hf
  have hm2 : ¬ (S.room : Int) < (l.length : Int) := by omega
  have hsl := hs.len k
  have hrm := hs.room
  have hfew := ho.few
  obtain ⟨x, HX⟩ : ∃ x, Hid (S.room = x) := ⟨_, rfl⟩
  rw [HX.out] at h2 hm hm2 hrm
  clear h hW hdn hd2 hh hs hf ho
  go_enter Tryz.func25, Tryz.ntmps25
  go_wp2_with (first
    | (go_at_call 56; refine Calls.mono HH.out ?_; rintro e w2 ⟨rfl, rfl⟩)
    | (go_at_call 57; refine Calls.mono HB.out ?_; rintro e w2 ⟨rfl, hr2, hk2⟩
       have q0 := hr2.sl
       have q1 : w2.cell? ⟨g, k * 2, none⟩ = some (.string ⟨(S.fs k).b.toArray⟩) := (hr2.file k hkn).1
       have q2 := hr2.frz.1
       have q3 := hr2.frz.2
       have HR2 : Hid (RV w2 r g { S with fuse := burnF S.fuse }) := hr2
       have HK2 : Hid _ := hk2
       clear hr2 hk2))
  have hbs := str_size (S.fs k).b
  go_region
  have HR3 : Hid (RV ((w2.setCell ⟨g, k * 2, none⟩ (str ((S.fs k).b ++ l))).drew) r g { S with fuse := burnF S.fuse, fs := putF S.fs k ⟨(S.fs k).b ++ l, (S.fs k).s⟩ }) := (HR2.out.setB k hkn _).drew
  have HK3 : Hid _ := (HK2.out.set ⟨g, k * 2, none⟩ (str ((S.fs k).b ++ l)) (.inr rfl)).drew
  unfold str at HR3 HK3
  rw [str_append]
  generalize (w2.setCell ⟨g, k * 2, none⟩ (.string ⟨((S.fs k).b ++ l).toArray⟩)).drew = w3 at *
  have p0 : w3.cell? ⟨r, 1, none⟩ = some (.int .i64 x) := by rw [← HX.out]; exact HR3.out.rm
  have p1 := HR3.out.frz.1
  have HE : Hid (turnP { S with fuse := burnF S.fuse } k ⟨(S.fs k).b ++ l, (S.fs k).s⟩ = { S with fuse := burnF S.fuse, fs := putF S.fs k ⟨(S.fs k).b ++ l, (S.fs k).s⟩, room := x - l.length }) := by
    show _ = _
    unfold turnP
    simp only [List.length_append, HX.out]
    congr 1
    omega
  clear q0 q1 q2 q3
  go_wp2_with fail
  go_ret
  refine ⟨rfl, ?_, HK3.out.set _ _ (.inl rfl)⟩
  have := HR3.out.setRoom (x - l.length)
  rw [show ((x - l.length : Nat) : Int) = (x : Int) - (l.length : Int) by omega] at this
  show RV _ r g (turnP { S with fuse := burnF S.fuse } k ⟨(S.fs k).b ++ l, (S.fs k).s⟩)
  rw [HE.out]
  exact this

set_option maxRecDepth 1000000 in
set_option maxHeartbeats 1000000 in
theorem rsync_any (i : Int) (h : RV w r g S) (ho : Okay S) (hs : Small 10000000 1000000000000 S) : Calls Tryz.prog 21 #[.pointer (some ⟨r, 0, none⟩), .int .i64 i] w (RR r g w (syncP S i)) := by
  have h1 := h.dn
  have HR : Hid (RV w r g S) := h
  have HH : Hid _ := rhas_any r g S i w h ho.few
  by_cases hdn : S.down = true
  · have hW : syncP S i = (9, S) := by unfold syncP writeP; rw [if_pos hdn]
    rw [hW]
    rw [hdn] at h1
    clear h hW hdn HH
    go_enter Tryz.func21, Tryz.ntmps21
    go_wp2_with fail
    go_ret
    exact RR.same HR.out (Kp.refl _ _)
  have hd2 : S.down = false := by simpa using hdn
  rw [hd2] at h1
  by_cases hh : hasB S i = true
  case neg =>
    have hh2 : hasB S i = false := by simpa using hh
    have hW : syncP S i = (2, S) := by unfold syncP writeP; rw [if_neg hdn, if_pos hh2]
    rw [hW]
    rw [hh2] at HH
    clear h hW hdn hd2 hh hh2
    go_enter Tryz.func21, Tryz.ntmps21
    go_wp2_with (first | (go_at_call 56; refine Calls.mono HH.out ?_; rintro e w2 ⟨rfl, rfl⟩))
    go_ret
    exact RR.same HR.out (Kp.refl _ _)
  rw [hh] at HH
  by_cases hf : S.fuse = 0
  · have hW : syncP S i = (9, { S with down := true }) := by unfold syncP writeP; rw [if_neg hdn, if_neg (by rw [hh]; decide), if_neg (by simp), if_pos hf]
    rw [hW]
    have HB : Hid _ := rburns_off r g S w h hf
    clear h hW hdn hd2 hh hs hf
    go_enter Tryz.func21, Tryz.ntmps21
    go_wp2_with (first | (go_at_call 56; refine Calls.mono HH.out ?_; rintro e w2 ⟨rfl, rfl⟩) | (go_at_call 57; refine Calls.mono HB.out ?_; rintro e w2 ⟨rfl, rfl⟩))
    go_ret
    exact RR.same (HR.out.setDown true) ((Kp.refl _ _).set _ _ (.inl rfl))
  obtain ⟨k, rfl, hkn⟩ := hasB_true hh
  have hE : turnP { S with fuse := burnF S.fuse } k (firstP (S.fs k).b.length (S.fs k)) = { S with fuse := burnF S.fuse, fs := putF S.fs k ⟨(S.fs k).b, (S.fs k).b.length⟩ } := by
    unfold turnP firstP
    simp only [List.take_length]
    congr 1
    omega
  have hW : syncP S k = (0, { S with fuse := burnF S.fuse, fs := putF S.fs k ⟨(S.fs k).b, (S.fs k).b.length⟩ }) := by
    rw [← hE]
    unfold syncP writeP
    rw [if_neg hdn, if_neg (by rw [hh]; decide), if_neg (by simp), if_neg hf]
    rfl
  rw [hW]
  have HB : Hid _ := rburns_on r g S w h ho.fuse ho.fuse2 hd2 hf
  have hsl := hs.len k
  have hfew := ho.few
  have hbs := str_size (S.fs k).b
  clear h hW hE hdn hd2 hh hs hf ho
  go_enter Tryz.func21, Tryz.ntmps21
  go_wp2_with (first
    | (go_at_call 56; refine Calls.mono HH.out ?_; rintro e w2 ⟨rfl, rfl⟩)
    | (go_at_call 57; refine Calls.mono HB.out ?_; rintro e w2 ⟨rfl, hr2, hk2⟩
       have q0 := hr2.sl
       have q1 : w2.cell? ⟨g, k * 2, none⟩ = some (.string ⟨(S.fs k).b.toArray⟩) := (hr2.file k hkn).1
       have q1b := (hr2.file k hkn).2
       have q3 := hr2.frz.2
       have HR2 : Hid (RV w2 r g { S with fuse := burnF S.fuse }) := hr2
       have HK2 : Hid _ := hk2
       clear hr2 hk2))
  go_region
  all_goals
    go_wp2_with fail
    go_ret
    exact ⟨rfl, (HR2.out.setS k hkn (S.fs k).b.length).drew, (HK2.out.set _ _ (.inr rfl)).drew⟩

set_option maxRecDepth 1000000 in
set_option maxHeartbeats 1000000 in
theorem rcut_any (i n : Int) (h : RV w r g S) (ho : Okay S) (hs : Small 10000000 1000000000000 S) : Calls Tryz.prog 47 #[.pointer (some ⟨r, 0, none⟩), .int .i64 i, .int .i64 n] w (RR r g w (cutP S i n)) := by
  have h1 := h.dn
  have HR : Hid (RV w r g S) := h
  have HH : Hid _ := rhas_any r g S i w h ho.few
  by_cases hdn : S.down = true
  · have hW : cutP S i n = (9, S) := by unfold cutP writeP; rw [if_pos hdn]
    rw [hW]
    rw [hdn] at h1
    clear h hW hdn HH
    go_enter Tryz.func47, Tryz.ntmps47
    go_wp2_with fail
    go_ret
    exact RR.same HR.out (Kp.refl _ _)
  have hd2 : S.down = false := by simpa using hdn
  rw [hd2] at h1
  by_cases hh : hasB S i = true
  case neg =>
    have hh2 : hasB S i = false := by simpa using hh
    have hW : cutP S i n = (2, S) := by unfold cutP writeP; rw [if_neg hdn, if_pos hh2]
    rw [hW]
    rw [hh2] at HH
    clear h hW hdn hd2 hh hh2
    go_enter Tryz.func47, Tryz.ntmps47
    go_wp2_with (first | (go_at_call 56; refine Calls.mono HH.out ?_; rintro e w2 ⟨rfl, rfl⟩))
    go_ret
    exact RR.same HR.out (Kp.refl _ _)
  rw [hh] at HH
  have hh' := hh
  obtain ⟨k, rfl, hkn⟩ := hasB_true hh'
  have hsl := hs.len k
  have hfew := ho.few
  have hbs := str_size (S.fs k).b
  have t0 := h.sl
  have t1 : w.cell? ⟨g, k * 2, none⟩ = some (.string ⟨(S.fs k).b.toArray⟩) := (h.file k hkn).1
  by_cases hm : 0 ≤ n ∧ n ≤ (S.fs k).b.length
  case neg =>
    have hr : reachP S k n = 2 := by unfold reachP; rw [if_neg (by simpa using hm)]
    have hW : cutP S k n = (2, S) := by unfold cutP writeP; rw [if_neg hdn, if_neg (by rw [hh]; decide), hr, if_pos (by decide)]
    rw [hW]
    clear h hW hdn hd2 hh hs hr
    by_cases hn0 : n < 0
    · go_enter Tryz.func47, Tryz.ntmps47
      go_wp2_with (first | (go_at_call 56; refine Calls.mono HH.out ?_; rintro e w2 ⟨rfl, rfl⟩))
      go_ret
      exact RR.same HR.out (Kp.refl _ _)
    · have hn1 : ((S.fs k).b.length : Int) < n := by omega
      clear hm
      go_enter Tryz.func47, Tryz.ntmps47
      go_wp2_with (first | (go_at_call 56; refine Calls.mono HH.out ?_; rintro e w2 ⟨rfl, rfl⟩))
      go_ret
      exact RR.same HR.out (Kp.refl _ _)
  obtain ⟨m, rfl⟩ : ∃ m : Nat, n = m := ⟨n.toNat, by omega⟩
  have hm1 : m ≤ (S.fs k).b.length := by omega
  have hm2 : ¬ ((S.fs k).b.length : Int) < (m : Int) := by omega
  have hr : reachP S k m = 0 := by unfold reachP; rw [if_pos (by simpa using hm)]
  by_cases hf : S.fuse = 0
  · have hW : cutP S k m = (9, { S with down := true }) := by unfold cutP writeP; rw [if_neg hdn, if_neg (by rw [hh]; decide), hr, if_neg (by simp), if_pos hf]
    rw [hW]
    have HB : Hid _ := rburns_off r g S w h hf
    clear h hW hdn hd2 hh hs hf hm hr
    go_enter Tryz.func47, Tryz.ntmps47
    go_wp2_with (first | (go_at_call 56; refine Calls.mono HH.out ?_; rintro e w2 ⟨rfl, rfl⟩) | (go_at_call 57; refine Calls.mono HB.out ?_; rintro e w2 ⟨rfl, rfl⟩))
    go_ret
    exact RR.same (HR.out.setDown true) ((Kp.refl _ _).set _ _ (.inl rfl))
  obtain ⟨x, HX⟩ : ∃ x, Hid (S.room = x) := ⟨_, rfl⟩
  have hE : turnP { S with fuse := burnF S.fuse } k (firstP m (S.fs k)) = { S with fuse := burnF S.fuse, fs := putF S.fs k ⟨(S.fs k).b.take m, m⟩, room := x + (S.fs k).b.length - m } := by
    unfold turnP firstP
    simp only [List.length_take, HX.out]
    congr 1
    omega
  have hW : cutP S k m = (0, { S with fuse := burnF S.fuse, fs := putF S.fs k ⟨(S.fs k).b.take m, m⟩, room := x + (S.fs k).b.length - m }) := by
    rw [← hE]
    unfold cutP writeP
    rw [if_neg hdn, if_neg (by rw [hh]; decide), hr, if_neg (by simp), if_neg hf]
    rfl
  rw [hW]
  have HB : Hid _ := rburns_on r g S w h ho.fuse ho.fuse2 hd2 hf
  have hrm := hs.room
  rw [HX.out] at hrm
  clear h hW hE hdn hd2 hh hs hf ho hm hr
  go_enter Tryz.func47, Tryz.ntmps47
  go_wp2_with (first
    | (go_at_call 56; refine Calls.mono HH.out ?_; rintro e w2 ⟨rfl, rfl⟩)
    | (go_at_call 57; refine Calls.mono HB.out ?_; rintro e w2 ⟨rfl, hr2, hk2⟩
       have q0 := hr2.sl
       have q1 : w2.cell? ⟨g, k * 2, none⟩ = some (.string ⟨(S.fs k).b.toArray⟩) := (hr2.file k hkn).1
       have q2 := hr2.frz.1
       have q4 : w2.cell? ⟨r, 1, none⟩ = some (.int .i64 x) := (by rw [← HX.out]; exact hr2.rm)
       have HR2 : Hid (RV w2 r g { S with fuse := burnF S.fuse }) := hr2
       have HK2 : Hid _ := hk2
       clear hr2 hk2))
  have hw1 : IntKind.i64.wrap ((x : Int) + ((S.fs k).b.length : Int)) = (x : Int) + ((S.fs k).b.length : Int) := by rw [IntKind.wrap_i64]; omega
  have hw2 : IntKind.i64.wrap ((x : Int) + ((S.fs k).b.length : Int) - (m : Int)) = (x : Int) + ((S.fs k).b.length : Int) - (m : Int) := by rw [IntKind.wrap_i64]; omega
  go_region
  rw [show (x : Int) + ((S.fs k).b.length : Int) - (m : Int) = ((x + (S.fs k).b.length - m : Nat) : Int) by omega]
  have HR3 : Hid (RV ((w2.setCell ⟨r, 1, none⟩ (.int .i64 ((x + (S.fs k).b.length - m : Nat) : Int))).drew) r g { S with fuse := burnF S.fuse, room := x + (S.fs k).b.length - m }) := (HR2.out.setRoom _).drew
  have HK3 : Hid _ := (HK2.out.set ⟨r, 1, none⟩ (.int .i64 ((x + (S.fs k).b.length - m : Nat) : Int)) (.inl rfl)).drew
  generalize (w2.setCell ⟨r, 1, none⟩ (.int .i64 ((x + (S.fs k).b.length - m : Nat) : Int))).drew = w3 at *
  have p0 := HR3.out.sl
  have p1 : w3.cell? ⟨g, k * 2, none⟩ = some (.string ⟨(S.fs k).b.toArray⟩) := (HR3.out.file k hkn).1
  have p1b := (HR3.out.file k hkn).2
  have p3 := HR3.out.frz.2
  clear q0 q1 q2 q4 hw1 hw2
  go_wp2_with fail
  go_region
  rw [str_take _ _ hm1]
  have HR4 := (HR3.out.setB k hkn ((S.fs k).b.take m)).setS k hkn m
  have HR5 : Hid (RV (((w3.setCell ⟨g, k * 2, none⟩ (.string ⟨((S.fs k).b.take m).toArray⟩)).setCell ⟨g, k * 2 + 1, none⟩ (.int .i64 m)).drew) r g { S with fuse := burnF S.fuse, fs := putF S.fs k ⟨(S.fs k).b.take m, m⟩, room := x + (S.fs k).b.length - m }) := by
    have := HR4.drew
    simp only [putF_same] at this
    have e : putF (putF S.fs k ⟨(S.fs k).b.take m, (S.fs k).s⟩) k ⟨(S.fs k).b.take m, m⟩ = putF S.fs k ⟨(S.fs k).b.take m, m⟩ := by
      funext j
      unfold putF
      split <;> rfl
    rw [e] at this
    exact this
  have HK5 : Hid _ := ((HK3.out.set ⟨g, k * 2, none⟩ (.string ⟨((S.fs k).b.take m).toArray⟩) (.inr rfl)).set ⟨g, k * 2 + 1, none⟩ (.int .i64 m) (.inr rfl)).drew
  clear HR4
  go_wp2_with fail
  go_ret
  exact ⟨rfl, HR5.out, HK5.out⟩
end
end Go.Proofs.YtijkgdbabikojaaGreat.Dk

/- The walk over disk.turn. -/
namespace Go.Proofs.YtijkgdbabikojaaGreat.Dk
set_option maxRecDepth 1000000
open Go.RowKit
set_option linter.unusedVariables false

set_option maxRecDepth 1000000 in
set_option maxHeartbeats 1000000 in
theorem turn_any (T : Nat → Prop) (p : Nat) (S : DS) (i : Nat) (hv : Value) (f' : Fl) (w : World) (hd : DK T w p S) (hi : i < 65) (hh : HowV hv w T (S.fs i) f') (hl : (S.fs i).b.length ≤ 10000000) (hl2 : f'.b.length ≤ 100000000) (hr : S.room ≤ 1000000000000) (hr2 : f'.b.length ≤ S.room + (S.fs i).b.length) :
    Calls Tryz.prog 50 #[.pointer (some ⟨p, 0, none⟩), .int .i64 i, hv] w fun e w' => e = .returned (.tuple #[]) ∧ DK (Wid T w w') w' p (turnP S i f') ∧ Kp T w w' := by
  obtain ⟨V, hd⟩ := hd
  obtain ⟨g, lb, rfl, hent, hcalls⟩ := hh
  obtain ⟨hf0, hf1, hf2⟩ := hd.file i hi
  obtain ⟨a, c, hV, _, _, _⟩ := owns_slice hf2
  have HD : Hid (DV T w.drew p S V) := hd.later (Below.refl _ _).drew
  have HC : Hid (Calls Tryz.prog g (#[.agg #[.slice a (S.fs i).b.length c, .int .i64 (S.fs i).s]] ++ lb) w.drew (NewF w.drew (.slice a (S.fs i).b.length c) f')) := hcalls _ _ (Kp.refl _ _).drew (by rw [← hV]; exact hf2)
  have eg : ∀ args w, (callFunc g args).run Tryz.prog w = .ok (.enter g args) w := hent
  have HV : Hid (V i = .slice a (S.fs i).b.length c) := hV
  have HT : Hid (∀ k, (V i).ownBlock = some k → T k) := fun k hk => (hd.mine i k hi hk).1
  have HNp : Hid (¬ (V i).ownBlock = some p) := fun he => (hd.mine i p hi he).2 rfl
  rw [hV] at hf0
  clear hd hent hcalls hf2 hV
  obtain ⟨S2, HS2⟩ : ∃ S2, Hid (S2 = turnP S i f') := ⟨_, rfl⟩
  rw [← HS2.out]
  obtain ⟨n, HN⟩ : ∃ n, Hid ((S.fs i).b.length = n) := ⟨_, rfl⟩
  obtain ⟨s, HS⟩ : ∃ s, Hid ((S.fs i).s = s) := ⟨_, rfl⟩
  rw [HN.out] at hl hr2 hf0 HC HV
  rw [HS.out] at hf1 HC
  obtain ⟨r, HR⟩ : ∃ r, Hid (S.room = r) := ⟨_, rfl⟩
  rw [HR.out] at hr hr2
  obtain ⟨n2, HN2⟩ : ∃ n2, Hid (f'.b.length = n2) := ⟨_, rfl⟩
  rw [HN2.out] at hl2 hr2
  go_enter Tryz.func50, Tryz.ntmps50
  go_wp2_with fail
  go_region_with (first | (go_at_fn g; refine Calls.mono HC.out ?_; rintro e w2 ⟨V2, rfl, h1, h2, h3⟩
                           have H1 : Hid _ := h1
                           obtain ⟨a2, c2, hV2, _, _, _⟩ := owns_slice h1
                           have H2 : Hid (Kp (fun k => (V i).ownBlock = some k) w.drew w2) := (by rw [HV.out]; exact h2)
                           have H3 : Hid (V2.ownBlock = (V i).ownBlock ∨ ∃ g, V2.ownBlock = some g ∧ w.drew.heap.size ≤ g) := (by rw [HV.out]; exact h3)
                           have HVV : Hid (V2 = .slice a2 f'.b.length c2) := hV2
                           have hpb := H2.out.block p (HD.out.live p HD.out.own) HNp.out
                           have hq0 : w2.cell? ⟨p, i * 2, none⟩ = some (.slice a n c) := (World.cell?_of_block (w := w.drew) hpb).trans hf0
                           have hq1 : w2.cell? ⟨p, i * 2 + 1, none⟩ = some (.int .i64 s) := (World.cell?_of_block (w := w.drew) hpb).trans hf1
                           have hqf : ∀ o, w2.frozen? ⟨p, o, none⟩ = false := (fun o => (World.frozen?_of_block (w := w.drew) hpb).trans (HD.out.frozen o))
                           have H4 : Hid (DV (Wid T w.drew w2) ((w2.setCell ⟨p, i * 2, none⟩ V2).setCell ⟨p, i * 2 + 1, none⟩ (.int .i64 f'.s)) p { S with fs := putF S.fs i f' } (putV V i V2)) := HD.out.put i hi V2 f' h1 H2.out H3.out
                           clear h1 h2 h3 hpb hV2
                           rw [HVV.out, HN2.out] at H4
                           rw [HVV.out, HN2.out]))
  have HK : Hid (Kp T w ((w2.setCell ⟨p, i * 2, none⟩ (.slice a2 n2 c2)).setCell ⟨p, i * 2 + 1, none⟩ (.int .i64 f'.s))) := by
    have k1 : Kp T w w2 := (Kp.refl T w).drew.trans H2.out (fun x hx _ => HT.out x hx)
    exact (k1.set _ _ HD.out.own).set _ _ HD.out.own
  have HW : Hid (w2.heap.size = ((w2.setCell ⟨p, i * 2, none⟩ (.slice a2 n2 c2)).setCell ⟨p, i * 2 + 1, none⟩ (.int .i64 f'.s)).heap.size) := by
    show _ = _
    rw [size_set, size_set]
  generalize (w2.setCell ⟨p, i * 2, none⟩ (.slice a2 n2 c2)).setCell ⟨p, i * 2 + 1, none⟩ (.int .i64 f'.s) = w3 at *
  have e0 := (H4.out.file i hi).1
  rw [putV_same] at e0
  have e1 := H4.out.rm
  rw [show ({ S with fs := putF S.fs i f' } : DS).room = r from HR.out] at e1
  have e2 := H4.out.frozen
  have HE : Hid (turnP S i f' = { S with fs := putF S.fs i f', room := r + n - n2 }) := by
    show _ = _
    unfold turnP
    rw [HR.out, HN.out, HN2.out]
  have hw1 : IntKind.i64.wrap ((n : Int) - (n2 : Int)) = (n : Int) - (n2 : Int) := by rw [IntKind.wrap_i64]; omega
  have hw2 : IntKind.i64.wrap ((r : Int) + ((n : Int) - (n2 : Int))) = (r : Int) + ((n : Int) - (n2 : Int)) := by rw [IntKind.wrap_i64]; omega
  clear hq0 hq1 hqf HC hf0 hf1
  go_wp2_with fail
  go_region
  all_goals
    go_wp2_with fail
    go_end0
    refine ⟨rfl, ?_, (HK.out.set _ _ HD.out.own).drew⟩
    rw [HS2.out, HE.out, show (r : Int) + ((n : Int) - (n2 : Int)) = ((r + n - n2 : Nat) : Int) by omega]
    have h5 := H4.out.setRoom (r + n - n2)
    have hz : (w3.setCell ⟨p, 131, none⟩ (.int .i64 ((r + n - n2 : Nat) : Int))).drew.heap.size = w2.heap.size := (size_set _ _ _).trans HW.out.symm
    refine DK.wide ⟨_, h5.later (Below.refl _ _).drew⟩ (fun k hk => ?_) (fun k hk => ?_)
    · rcases hk with hk | hk
      · exact .inl hk
      · exact .inr ⟨hk.1, by rw [hz]; exact hk.2⟩
    · rcases hk with hk | hk
      · have := HD.out.live k hk
        have := H2.out.size
        rw [hz]
        exact Nat.lt_of_lt_of_le (HD.out.live k hk) H2.out.size
      · exact hk.2
end Go.Proofs.YtijkgdbabikojaaGreat.Dk

/- What is asked ahead of a write, and what is done then. -/
namespace Go.Proofs.YtijkgdbabikojaaGreat.Dk
set_option maxRecDepth 1000000
open Go.RowKit
set_option linter.unusedVariables false

theorem HowV.later {hv : Value} {w w' : World} {T : Nat → Prop} {f f' : Fl} (h : HowV hv w T f f') (hk : Kp T w w') : HowV hv w' T f f' := by
  obtain ⟨g, lb, h1, h2, h3⟩ := h
  exact ⟨g, lb, h1, h2, fun wx v hx => h3 wx v (hk.trans hx (fun x hx _ => hx))⟩

theorem DK.drewN {T : Nat → Prop} {w : World} {p : Nat} {S : DS} (h : DK T w p S) (q : Nat) : DK T (w.drewN q) p S := h.later (below_drewN (Below.refl _ _) q)

theorem write1_any (T : Nat → Prop) (p b4 b5 b6 : Nat) (S : DS) (i : Nat) (hv : Value) (f' : Fl) (w : World) (hd : DK T w p S) (hi : i < 65) (hh : HowV hv w T (S.fs i) f') (hs : Small 10000000 1000000000000 S) (hl2 : f'.b.length ≤ 100000000) (hr2 : f'.b.length ≤ S.room + (S.fs i).b.length)
    (h4 : w.cell? ⟨b4, 0, none⟩ = some (.pointer (some ⟨p, 0, none⟩))) (h5 : w.cell? ⟨b5, 0, none⟩ = some (.int .i64 i)) (h6 : w.cell? ⟨b6, 0, none⟩ = some hv) :
    Calls Tryz.prog 87 #[.pointer (some ⟨b4, 0, none⟩), .pointer (some ⟨b5, 0, none⟩), .pointer (some ⟨b6, 0, none⟩)] w fun e w' => e = .returned (.tuple #[]) ∧ DK (Wid T w w') w' p (turnP S i f') ∧ Kp T w w' := by
  have HC : Hid _ := turn_any T p S i hv f' w hd hi hh (hs.len i) hl2 hs.room hr2
  obtain ⟨g, lb, rfl, _⟩ := hh
  clear hd
  go_enter Tryz.func87, Tryz.ntmps87
  go_wp2_with (first | (go_at_call 50; refine Calls.mono HC.out ?_; rintro e w2 ⟨rfl, h1, h2⟩))
  go_end0
  exact ⟨rfl, h1, h2⟩

/-- The answer of a call that turns a file. -/
def WQ (T : Nat → Prop) (w : World) (p : Nat) (r : Int × DS) (k : Int) (w' : World) : Prop := k = r.1 ∧ DK (Wid T w w') w' p r.2 ∧ Kp T w w'

theorem WQ.same {T : Nat → Prop} {w wx : World} {p : Nat} {S : DS} {k : Int} (hd : DK T wx p S) (hk : Kp T w wx) (hT : ∀ k, T k → k < w.heap.size) : WQ T w p (k, S) k wx := by
  refine ⟨rfl, hd.wide (fun k h => .inl h) (fun k h => ?_), hk⟩
  rcases h with h | h
  · exact Nat.lt_of_lt_of_le (hT k h) hk.size
  · exact h.2

structure WBox (w : World) (p b4 b5 b6 bi bd : Nat) (i : Int) (hv : Value) : Prop where
  h4 : w.cell? ⟨b4, 0, none⟩ = some (.pointer (some ⟨p, 0, none⟩))
  h5 : w.cell? ⟨b5, 0, none⟩ = some (.int .i64 i)
  h6 : w.cell? ⟨b6, 0, none⟩ = some hv
  hi : w.cell? ⟨bi, 0, none⟩ = some (.int .i64 i)
  hd : w.cell? ⟨bd, 0, none⟩ = some (.pointer (some ⟨p, 0, none⟩))

theorem WBox.drewN {w : World} {p b4 b5 b6 bi bd : Nat} {i : Int} {hv : Value} (h : WBox w p b4 b5 b6 bi bd i hv) (q : Nat) : WBox (w.drewN q) p b4 b5 b6 bi bd i hv := ⟨h.h4, h.h5, h.h6, h.hi, h.hd⟩

section
variable {T : Nat → Prop} {w : World} {p b4 b5 b6 bi bd blk : Nat} {S : DS} {i more : Int} {hv : Value} {how : Fl → Fl}

/-- The fuse, and the write. -/
theorem chain_burn (hT : ∀ k, T k → k < w.heap.size) (hb : ¬ T blk) (hn4 : ¬ T b4) (hn5 : ¬ T b5) (hn6 : ¬ T b6) (ho : Okay S) (hs : Small 10000000 1000000000000 S) (hdn : S.down = false) (hhas : hasB S i = true) (hm : more = 0)
    (hh : ∀ k : Nat, i = k → k < S.n → HowV hv w T (S.fs k) (how (S.fs k)) ∧ (how (S.fs k)).b.length ≤ 100000000 ∧ (how (S.fs k)).b.length ≤ S.room + (S.fs k).b.length)
    (wx : World) (hd : DK T wx p S) (hk : Kp T w wx) (hw : WBox wx p b4 b5 b6 bi bd i hv) :
    Chain blk (.func (.func 87) #[] #[.pointer (some ⟨b4, 0, none⟩), .pointer (some ⟨b5, 0, none⟩), .pointer (some ⟨b6, 0, none⟩)]) (WQ T w p (writeP S i more how)) [.func (.func 88) #[.pointer (some ⟨p, 0, none⟩)] #[]] wx := by
  obtain ⟨k, rfl, hkn⟩ := hasB_true hhas
  obtain ⟨h1, h2, h3⟩ := hh k rfl hkn
  obtain ⟨V, hd⟩ := hd
  obtain ⟨cs, hcs, hcz⟩ := hd.blk
  have hpb : blk ≠ p := fun he => hb (by rw [he]; exact hd.own)
  have hW : writeP S (k : Int) more how = if S.fuse = 0 then (9, { S with down := true }) else (0, turnP { S with fuse := burnF S.fuse } k (how (S.fs k))) := by
    unfold writeP
    rw [if_neg (by rw [hdn]; decide), if_neg (by rw [hhas]; decide), if_neg (by simp [hm])]
    simp
  by_cases hf : S.fuse = 0
  · refine ⟨88, #[.pointer (some ⟨p, 0, none⟩)], #[], rfl, ent63, Calls.mono (burns_off p cs S.down wx hd.dn hcs hcz (by rw [hd.fu, hf])) ?_⟩
    rintro e w' ⟨rfl, rfl⟩
    refine ⟨9, rfl, Below.heap_setCell _ _ _ _ hpb, fun _ => ?_, fun h => by cases h⟩
    rw [hW, if_pos hf]
    exact WQ.same ⟨V, hd.setDown true⟩ (hk.set _ _ hd.own) hT
  · refine ⟨88, #[.pointer (some ⟨p, 0, none⟩)], #[], rfl, ent63, Calls.mono (burns_on p cs S.fuse wx ho.fuse ho.fuse2 hf hcs hcz hd.fu) ?_⟩
    rintro e w' ⟨rfl, rfl⟩
    refine ⟨0, rfl, Below.heap_setCell _ _ _ _ hpb, fun h => absurd rfl h, fun _ => ?_⟩
    have hk1 : Kp T wx (wx.setCell ⟨p, 132, none⟩ (.int .i64 (burnF S.fuse))) := (Kp.refl _ _).set _ _ hd.own
    have hk2 := hk.trans hk1 (fun x hx _ => hx)
    have hd1 : DK T (wx.setCell ⟨p, 132, none⟩ (.int .i64 (burnF S.fuse))) p { S with fuse := burnF S.fuse } := ⟨V, hd.setFuse _⟩
    have hfew := ho.few
    refine ⟨87, #[], #[.pointer (some ⟨b4, 0, none⟩), .pointer (some ⟨b5, 0, none⟩), .pointer (some ⟨b6, 0, none⟩)], rfl, ent62, Calls.mono (write1_any T p b4 b5 b6 { S with fuse := burnF S.fuse } k hv (how (S.fs k)) _ hd1 (by omega) (h1.later hk2) ⟨hs.len, hs.room⟩ h2 h3 (hk1.cell hw.h4 hn4) (hk1.cell hw.h5 hn5) (hk1.cell hw.h6 hn6)) ?_⟩
    rintro e w' ⟨rfl, g1, g2⟩
    refine ⟨rfl, ?_⟩
    rw [hW, if_neg hf]
    have hk3 := hk2.trans g2 (fun x hx _ => hx)
    refine ⟨rfl, g1.wide (fun x hx => ?_) (fun x hx => ?_), hk3⟩
    · rcases hx with hx | hx
      · exact .inl hx
      · exact .inr ⟨Nat.le_trans hk2.size hx.1, hx.2⟩
    · rcases hx with hx | hx
      · exact Nat.lt_of_lt_of_le (hT x hx) hk3.size
      · exact hx.2

/-- All that is asked ahead of a write. -/
theorem chain_write (hT : ∀ k, T k → k < w.heap.size) (hb : ¬ T blk) (hn4 : ¬ T b4) (hn5 : ¬ T b5) (hn6 : ¬ T b6) (ho : Okay S) (hs : Small 10000000 1000000000000 S) (vs : List Value)
    (hmore : (vs = [] ∧ more = 0) ∨ ∃ v, vs = [v] ∧ (hasB S i = true → ∀ wx, Kp T w wx → DK T wx p S → AskV v wx (fun e w' => e = .returned (.int .i64 more) ∧ ∃ q, w' = wx.drewN q)))
    (hh : hasB S i = true → more = 0 → ∀ k : Nat, i = k → k < S.n → HowV hv w T (S.fs k) (how (S.fs k)) ∧ (how (S.fs k)).b.length ≤ 100000000 ∧ (how (S.fs k)).b.length ≤ S.room + (S.fs k).b.length)
    (wx : World) (hd : DK T wx p S) (hk : Kp T w wx) (hw : WBox wx p b4 b5 b6 bi bd i hv) :
    Chain blk (.func (.func 87) #[] #[.pointer (some ⟨b4, 0, none⟩), .pointer (some ⟨b5, 0, none⟩), .pointer (some ⟨b6, 0, none⟩)]) (WQ T w p (writeP S i more how)) (.func (.func 59) #[.pointer (some ⟨p, 0, none⟩)] #[] :: .func (.func 98) #[] #[.pointer (some ⟨bi, 0, none⟩), .pointer (some ⟨bd, 0, none⟩)] :: (vs ++ [.func (.func 88) #[.pointer (some ⟨p, 0, none⟩)] #[]])) wx := by
  obtain ⟨V, hdv⟩ := hd
  refine ⟨59, #[.pointer (some ⟨p, 0, none⟩)], #[], rfl, ent45, Calls.mono (runs_any p S.down wx hdv.dn) ?_⟩
  rintro e w' ⟨rfl, rfl⟩
  by_cases hdn : S.down = true
  · refine ⟨9, by rw [if_pos hdn], rfl, fun _ => ?_, fun h => by cases h⟩
    have hW : writeP S i more how = (9, S) := by unfold writeP; rw [if_pos hdn]
    rw [hW]
    exact WQ.same ⟨V, hdv⟩ hk hT
  refine ⟨0, by rw [if_neg hdn], rfl, fun h => absurd rfl h, fun _ => ?_⟩
  have hdn2 : S.down = false := by simpa using hdn
  refine ⟨98, #[], #[.pointer (some ⟨bi, 0, none⟩), .pointer (some ⟨bd, 0, none⟩)], rfl, ent60, Calls.mono (has1_any p bi bd S.n i w' hw.hi hw.hd hdv.cnt) ?_⟩
  rintro e w2 ⟨rfl, q, rfl⟩
  have hdk : DK T (w'.drewN q) p S := DK.drewN ⟨V, hdv⟩ q
  have hk2 := hk.drewN q
  by_cases hhas : ¬ (0 ≤ i ∧ i < S.n)
  · refine ⟨2, by rw [if_neg hhas], rfl, fun _ => ?_, fun h => by cases h⟩
    have hW : writeP S i more how = (2, S) := by
      unfold writeP
      rw [if_neg hdn, if_pos (by unfold hasB; simpa using hhas)]
    rw [hW]
    exact WQ.same hdk hk2 hT
  have hhas : 0 ≤ i ∧ i < S.n := Classical.byContradiction hhas
  refine ⟨0, by rw [if_pos hhas], rfl, fun h => absurd rfl h, fun _ => ?_⟩
  have hhb : hasB S i = true := by unfold hasB; simpa using hhas
  rcases hmore with ⟨rfl, hm⟩ | ⟨v, rfl, hv2⟩
  · exact chain_burn hT hb hn4 hn5 hn6 ho hs hdn2 hhb hm (hh hhb hm) _ hdk hk2 (hw.drewN q)
  · obtain ⟨g, fi, lb, h1, h2, h3⟩ := hv2 hhb _ hk2 hdk
    refine ⟨g, fi, lb, h1, h2, Calls.mono h3 ?_⟩
    rintro e w3 ⟨rfl, q2, rfl⟩
    refine ⟨more, rfl, rfl, fun hm => ?_, fun hm => ?_⟩
    · have hW : writeP S i more how = (more, S) := by
        unfold writeP
        rw [if_neg hdn, if_neg (by rw [hhb]; decide), if_pos hm]
      rw [hW]
      exact WQ.same (hdk.drewN q2) (hk2.drewN q2) hT
    · exact chain_burn hT hb hn4 hn5 hn6 ho hs hdn2 hhb hm (hh hhb hm) _ (hdk.drewN q2) (hk2.drewN q2) ((hw.drewN q).drewN q2)
end
end Go.Proofs.YtijkgdbabikojaaGreat.Dk

