/- Texts of the seat, packed: Qc Gn Gr. -/
import Derived.Test.YtijkgdbabikojaaGreatP21
import Derived.Test.YtijkgdbabikojaaGreatP24
import Derived.Test.YtijkgdbabikojaaGreatP09
import Derived.Test.YtijkgdbabikojaaGreatP10
import Derived.Test.YtijkgdbabikojaaGreatP22
/- Plain: what is whole by the program's walk and by the frames; what branch's calls make of a disk. -/
namespace Go.Proofs.YtijkgdbabikojaaGreat
open Dk (DS Okay Small cutP appendP syncP hasB hasB_true Fl)
set_option linter.unusedVariables false

theorem wh_log (n : Nat) (i : Int) : ∀ (k : Nat) (fs : List (List UInt8 × Nat)), (whW n i k fs).map Prod.fst = (logW n i k (fs.map Prod.fst)).1
  | _, [] => rfl
  | k, x :: r => by
    have ih := wh_log n i (k + 1) r
    rw [whW, List.map_cons, logW]
    cases rd x.1 with
    | none => rfl
    | some y =>
      simp only
      split
      · rw [List.map_cons, ih]
      · rfl

theorem endK_cons (x : Ev × Nat) (r : List (Ev × Nat)) : endK (x :: r) (x :: r).length = if r = [] then x.2 else endK r r.length := by
  cases r with
  | nil => rfl
  | cons y r =>
    rw [if_neg (by simp)]
    show (List.getD (x :: y :: r) (r.length + 1) (Ev.none, 0)).2 = (List.getD (y :: r) r.length (Ev.none, 0)).2
    simp

theorem wh_end (B : List UInt8) (n : Nat) (i : Int) : ∀ (f p k : Nat), endK (whW n i k (frF B f p)) (whW n i k (frF B f p)).length = if whW n i k (frF B f p) = [] then 0 else p + (logW n i k ((frF B f p).map Prod.fst)).2
  | 0, p, k => by simp [frF, whW, endK]
  | f + 1, p, k => by
    by_cases hz : (Fr.takeP B p).2.2 = 0
    · have hn := Fr.takeP_next hz
      have ih := wh_end B n i f (Fr.takeP B p).2.1 (k + 1)
      have hl := wh_log n i (k + 1) (frF B f (Fr.takeP B p).2.1)
      rw [frF_yes hz, whW, List.map_cons, logW]
      simp only
      cases hrd : rd (Fr.takeP B p).1 with
      | none => simp [endK]
      | some y =>
        simp only
        split
        · have hne : ¬ ((y, (Fr.takeP B p).2.1) :: whW n i (k + 1) (frF B f (Fr.takeP B p).2.1) = []) := List.cons_ne_nil _ _
          rw [endK_cons, if_neg hne]
          by_cases hw : whW n i (k + 1) (frF B f (Fr.takeP B p).2.1) = []
          · rw [if_pos hw]
            have h0 : (logW n i (k + 1) ((frF B f (Fr.takeP B p).2.1).map Prod.fst)).1 = [] := by rw [← hl, hw]; rfl
            have h2 := (log_good n i (k + 1) ((frF B f (Fr.takeP B p).2.1).map Prod.fst)).2.2
            rw [h0] at h2
            simp [Fr.putP] at h2
            rw [h2]
            omega
          · rw [if_neg hw, ih, if_neg hw]
            omega
        · simp [endK]
    · rw [frF_no hz]
      simp [whW, endK]

/-- What Load tells is what the frames tell. -/
theorem wh_load (n : Nat) (i : Int) (B : List UInt8) (h : hasN n i = true) : evK (whE n i B) (whE n i B).length = (loadL (n - 1) i B).1 ∧ endK (whE n i B) (whE n i B).length = (loadL (n - 1) i B).2 := by
  unfold whE loadL
  rw [if_pos h]
  have h1 := wh_log (n - 1) i 0 (frL B)
  rw [frL_all] at h1
  refine ⟨?_, ?_⟩
  · unfold evK
    rw [List.take_length, h1]
  · have h2 := wh_end B (n - 1) i (B.length + 1) 0 0
    show endK (whW (n - 1) i 0 (frL B)) _ = _
    unfold frL at h1 ⊢
    rw [h2, frF_all]
    by_cases hw : whW (n - 1) i 0 (frF B (B.length + 1) 0) = []
    · rw [if_pos hw]
      have h0 : (logW (n - 1) i 0 (Fr.allP B (B.length + 1) 0).1).1 = [] := by rw [← h1, hw]; rfl
      have h3 := (log_good (n - 1) i 0 (Fr.allP B (B.length + 1) 0).1).2.2
      rw [h0] at h3
      simp [Fr.putP] at h3
      rw [h3]
    · rw [if_neg hw]
      omega

theorem whE_no {n : Nat} {i : Int} {B : List UInt8} (h : hasN n i = false) : whE n i B = [] := by unfold whE; rw [h]; rfl

/-- The sum of the bytes and the room stays. -/
theorem tot_app {S : DS} (hn : S.n = 3) (i : Int) (l : List UInt8) : Dk.tot3 (appendP S i l).2 = Dk.tot3 S := Dk.tot_write hn i _ _ (fun k _ hm => by
  show ((S.fs k).b ++ l).length ≤ _
  rw [List.length_append]
  unfold Dk.fitsP at hm
  split at hm
  · omega
  · cases hm)
theorem tot_syn {S : DS} (hn : S.n = 3) (i : Int) : Dk.tot3 (syncP S i).2 = Dk.tot3 S := Dk.tot_write hn i _ _ (fun k _ _ => by
  show ((S.fs k).b.take _).length ≤ _
  rw [List.length_take]
  omega)
theorem tot_cut {S : DS} (hn : S.n = 3) (i n : Int) : Dk.tot3 (cutP S i n).2 = Dk.tot3 S := Dk.tot_write hn i _ _ (fun k _ _ => by
  show ((S.fs k).b.take _).length ≤ _
  rw [List.length_take]
  omega)
theorem trim_n (S : DS) (i n : Int) : (trimP S i n).2.n = S.n := by unfold trimP; split; rfl; exact Dk.write_n _ _ _ _
theorem tot_trim {S : DS} (hn : S.n = 3) (i n : Int) : Dk.tot3 (trimP S i n).2 = Dk.tot3 S := by unfold trimP; split; rfl; exact tot_cut hn i n
theorem repl_tot {S : DS} (hn : S.n = 3) (i : Int) (b : List UInt8) : (replP S i b).2.n = 3 ∧ Dk.tot3 (replP S i b).2 = Dk.tot3 S ∧ (Okay S → Okay (replP S i b).2) := by
  have h1 : (trimP S i 0).2.n = 3 := by rw [trim_n, hn]
  have h2 : (appendP (trimP S i 0).2 i b).2.n = 3 := by unfold Dk.appendP; rw [Dk.write_n, h1]
  unfold replP
  split
  · exact ⟨h1, tot_trim hn i 0, fun ho => okay_trim ho i 0⟩
  · split
    · exact ⟨h2, by rw [tot_app h1, tot_trim hn], fun ho => Dk.okay_append (okay_trim ho i 0) i b⟩
    · exact ⟨by unfold Dk.syncP; rw [Dk.write_n, h2], by rw [tot_syn h2, tot_app h1, tot_trim hn], fun ho => Dk.okay_sync (Dk.okay_append (okay_trim ho i 0) i b) i⟩
theorem begin_tot {S : DS} (hn : S.n = 3) (s : List UInt8) : (beginP S s).2.n = 3 ∧ Dk.tot3 (beginP S s).2 = Dk.tot3 S ∧ (Okay S → Okay (beginP S s).2) := by
  unfold beginP
  split
  · exact ⟨hn, rfl, id⟩
  · split
    · exact ⟨hn, rfl, id⟩
    · exact repl_tot hn _ _
theorem app_tot {S : DS} (hn : S.n = 3) (i : Int) (e : Ev) : (appP S i e).2.n = 3 ∧ Dk.tot3 (appP S i e).2 = Dk.tot3 S ∧ (Okay S → Okay (appP S i e).2) := by
  unfold appP
  split
  · exact ⟨by unfold Dk.appendP; rw [Dk.write_n, hn], tot_app hn i _, fun ho => Dk.okay_append ho i _⟩
  · exact ⟨hn, rfl, id⟩
theorem crash_tot {S : DS} (hn : S.n = 3) (keep : List Int) : (Dk.crashP S keep).n = 3 ∧ Dk.tot3 (Dk.crashP S keep) = Dk.tot3 S := ⟨by rw [Dk.crashP_n, hn], by
  show Dk.tot3 (Dk.crashK keep S S.n) = _
  rw [hn]
  exact Dk.tot_crashK hn keep 3 (Nat.le_refl _)⟩

/-- A disk of three files is no greater than its sum. -/
theorem tot_small {S : DS} (hn : S.n = 3) (ho : Okay S) {R : Nat} (ht : Dk.tot3 S ≤ R) : Small R R S := by
  unfold Dk.tot3 at ht
  refine ⟨fun i => ?_, by omega⟩
  by_cases h3 : i < 3
  · have : i = 0 ∨ i = 1 ∨ i = 2 := by omega
    rcases this with rfl | rfl | rfl <;> omega
  · rw [ho.none i (by omega)]
    simp

/-- An event's bytes are few. -/
theorem enc_short {e : Ev} (h : okE e = true) : (encE e).length ≤ 19 + 6 * e.s.length := by
  obtain ⟨k1, k2, i1, i2, t1, t2, kt⟩ := okE_head h
  have hs := okE_stamp h
  have h1 := many_len (natL e.s) (okS_nats hs)
  have h2 := one_six (n := e.i.toNat) (by omega)
  have h3 := one_six (n := e.t.toNat) (by omega)
  have h4 := okS_len hs
  rw [natL_len] at h1
  have h5 := one_six (n := (natL e.s).length) (by rw [natL_len]; omega)
  unfold encE headP putsP
  simp only [List.length_append, List.length_cons, List.length_nil]
  split
  · omega
  · simp only [List.length_nil]; omega
end Go.Proofs.YtijkgdbabikojaaGreat

/- A disk of the call's own, handed on through branch's calls; the laws' begun. -/
namespace Go.Proofs.YtijkgdbabikojaaGreat
open Go.RowKit
open Dk (DS DK Okay Small WR Kp cutP appendP syncP hasB hasB_true)
set_option maxRecDepth 1000000
set_option linter.unusedVariables false

/-- A disk of three files of the call's own. -/
structure Lw (B : Nat) (w : World) (p : Nat) (S : DS) : Prop where
  dk : ∃ T, DK T w p S ∧ ∀ k, T k → B ≤ k
  ok : Okay S
  three : S.n = 3
  tot : Dk.tot3 S ≤ 20000
  hB : B ≤ w.heap.size

theorem Lw.small {B : Nat} {w : World} {p : Nat} {S : DS} (h : Lw B w p S) : Small 20000 20000 S := tot_small h.three h.ok h.tot
theorem Lw.later {B : Nat} {w w' : World} {p : Nat} {S : DS} (h : Lw B w p S) (hb : Below w.heap.size w w') : Lw B w' p S := by
  obtain ⟨T, h1, h2⟩ := h.dk
  exact ⟨⟨T, h1.later hb, h2⟩, h.ok, h.three, h.tot, Nat.le_trans h.hB hb.size⟩
theorem Lw.last {B : Nat} {w : World} {p : Nat} {S : DS} (h : Lw B w p S) : (lastB S).length ≤ 100000 := Nat.le_trans (h.small.len _) (by omega)
theorem Lw.len {B : Nat} {w : World} {p : Nat} {S : DS} (h : Lw B w p S) (i : Nat) : (S.fs i).b.length ≤ 20000 := h.small.len _

theorem WR.lw {T : Nat → Prop} {B : Nat} {w w' : World} {p : Nat} {res : Int × DS} {e : Ending} (h : WR T w p res e w') (hT : ∀ k, T k → B ≤ k) (hB : B ≤ w.heap.size) (ho : Okay res.2) (hn : res.2.n = 3) (ht : Dk.tot3 res.2 ≤ 20000) : e = .returned (.int .i64 res.1) ∧ Lw B w' p res.2 ∧ Below B w w' := by
  obtain ⟨h1, h2, h3⟩ := h
  refine ⟨h1, ⟨⟨_, h2, fun k hk => ?_⟩, ho, hn, ht, Nat.le_trans hB h3.size⟩, h3.below hB hT⟩
  rcases hk with hk | hk
  · exact hT k hk
  · exact Nat.le_trans hB hk.1

theorem l_append {B : Nat} {w : World} {p : Nat} {S : DS} (h : Lw B w p S) (i : Int) (ev : Ev) (a : Option Addr) (c : Nat) (hv : RI w (.slice a ev.s.length c) ev.s) (hn : ev.s.length ≤ 1000000) :
    Calls Tryz.prog 9 #[.pointer (some ⟨p, 0, none⟩), .int .i64 i, EvV ev (.slice a ev.s.length c)] w fun e w' => e = .returned (.int .i64 (appP S i ev).1) ∧ Lw B w' p (appP S i ev).2 ∧ Below B w w' := by
  obtain ⟨T, h1, h2⟩ := h.dk
  obtain ⟨q1, q2, q3⟩ := app_tot h.three i ev
  exact Calls.mono (append_br T w p S i ev a c h1 h.ok (Dk.small_mono h.small (by omega) (by omega)) hv hn) (fun e w' hw => WR.lw hw h2 h.hB (q3 h.ok) q1 (by rw [q2]; exact h.tot))

theorem l_begin {B : Nat} {w : World} {p : Nat} {S : DS} (h : Lw B w p S) (s : List UInt8) (hs : s.length ≤ 1000000) :
    Calls Tryz.prog 12 #[.pointer (some ⟨p, 0, none⟩), .string ⟨s.toArray⟩] w fun e w' => e = .returned (.int .i64 (beginP S s).1) ∧ Lw B w' p (beginP S s).2 ∧ Below B w w' := by
  obtain ⟨T, h1, h2⟩ := h.dk
  obtain ⟨q1, q2, q3⟩ := begin_tot h.three s
  exact Calls.mono (begin_any T w p S s h1 h.ok (Dk.small_mono h.small (by omega) (by omega)) h.last hs) (fun e w' hw => WR.lw hw h2 h.hB (q3 h.ok) q1 (by rw [q2]; exact h.tot))

theorem l_told {B : Nat} {w : World} {p : Nat} {S : DS} (h : Lw B w p S) :
    Calls Tryz.prog 11 #[.pointer (some ⟨p, 0, none⟩)] w fun e w' => e = .returned (.tuple #[tV (toldG (lastB S)), .int .i64 (tE (toldG (lastB S)))]) ∧ Lw B w' p S ∧ Below w.heap.size w w' := by
  obtain ⟨T, h1, h2⟩ := h.dk
  exact Calls.mono (told_any T w p S h1 h.ok (Dk.small_mono h.small (by omega) (by omega)) h.last) (fun e w' hw => ⟨hw.1, h.later hw.2, hw.2⟩)

theorem l_sync {B : Nat} {w : World} {p : Nat} {S : DS} (h : Lw B w p S) (i : Int) :
    Calls Tryz.prog 20 #[.pointer (some ⟨p, 0, none⟩), .int .i64 i] w fun e w' => e = .returned (.int .i64 (syncP S i).1) ∧ Lw B w' p (syncP S i).2 ∧ Below B w w' := by
  obtain ⟨T, h1, h2⟩ := h.dk
  exact Calls.mono (Dk.sync_any T w p S i h1 h.ok (Dk.small_mono h.small (by omega) (by omega))) (fun e w' hw => WR.lw hw h2 h.hB (Dk.okay_sync h.ok i) (by unfold Dk.syncP; rw [Dk.write_n, h.three]) (by rw [tot_syn h.three]; exact h.tot))

theorem l_arm {B : Nat} {w : World} {p : Nat} {S : DS} (h : Lw B w p S) (n : Int) (hn : n ≤ 9223372036854775807) :
    Calls Tryz.prog 22 #[.pointer (some ⟨p, 0, none⟩), .int .i64 n] w fun e w' => e = .returned (.int .i64 (Dk.armP S n).1) ∧ Lw B w' p (Dk.armP S n).2 ∧ Below B w w' := by
  obtain ⟨T, h1, h2⟩ := h.dk
  exact Calls.mono (Dk.arm_any T w p S n h1 h.ok) (fun e w' hw => WR.lw hw h2 h.hB (Dk.okay_arm h.ok n hn) (by rw [Dk.armP_n, h.three]) (by rw [Dk.armP_tot]; exact h.tot))

theorem l_crash {B : Nat} {w : World} {p : Nat} {S : DS} (h : Lw B w p S) (kv : Value) (keep : List Int) (hr : RI w kv keep) (hk : ∀ a n c, kv = .slice (some a) n c → ∀ T, DK T w p S → ¬ T a.block) (hl : keep.length ≤ 1000000) :
    Calls Tryz.prog 19 #[.pointer (some ⟨p, 0, none⟩), kv] w fun e w' => e = .returned (.int .i64 0) ∧ Lw B w' p (Dk.crashP S keep) ∧ Below B w w' := by
  obtain ⟨T, h1, h2⟩ := h.dk
  obtain ⟨q1, q2⟩ := crash_tot h.three keep
  exact Calls.mono (Dk.crash_any T w p S kv keep h1 h.ok (Dk.small_mono h.small (by omega) (by omega)) hr (fun _ a n c he => hk a n c he T h1) hl) (fun e w' hw => WR.lw hw h2 h.hB (h.ok.crash keep) q1 (by rw [q2]; exact h.tot))

theorem lw_dsk {B : Nat} {w : World} {p : Nat} {S : DS} (h : Lw B w p S) (i : Int) : Dsk (some ⟨p, 0, none⟩) 3 i (Dk.readP S i) w := by
  obtain ⟨T, h1, h2⟩ := h.dk
  refine ⟨?_, by omega, ?_, fun _ wx hb => ?_⟩
  · have := cnt_dk h1 h.ok
    rw [h.three] at this
    exact this
  · unfold Dk.readP
    split
    · exact Nat.le_trans (h.len _) (by omega)
    · simp
  · refine Calls.mono (Dk.read_any T wx p S i (h1.later hb) h.ok (Dk.small_mono h.small (by omega) (by omega))) ?_
    rintro e w' ⟨⟨v, q1, q2⟩, q3⟩
    exact ⟨v, q1, q2, q3⟩

theorem l_load {B : Nat} {w : World} {p : Nat} {S : DS} (h : Lw B w p S) (i : Int) :
    Calls Tryz.prog 10 #[.pointer (some ⟨p, 0, none⟩), .int .i64 i] w fun e w' => ∃ a c, e = .returned (.tuple #[.slice a (whE 3 i (Dk.readP S i)).length c, .int .i64 (endK (whE 3 i (Dk.readP S i)) (whE 3 i (Dk.readP S i)).length : Nat)]) ∧ LogR (w.heap.size + 2) w' (fun _ => False) (.slice a (whE 3 i (Dk.readP S i)).length c) (evK (whE 3 i (Dk.readP S i)) (whE 3 i (Dk.readP S i)).length) ∧ Lw B w' p S ∧ Below w.heap.size w w' :=
  Calls.mono (load_any _ 3 i _ w (lw_dsk h i)) (fun e w' ⟨a, c, q1, q2, q3⟩ => ⟨a, c, q1, q2, h.later q3, q3⟩)

theorem load_nil (i : Int) (w : World) : Calls Tryz.prog 10 #[.pointer none, .int .i64 i] w fun e w' => ∃ a c, e = .returned (.tuple #[.slice a 0 c, .int .i64 0]) ∧ Below w.heap.size w w' := by
  have hh : hasN 0 i = false := decide_eq_false (by omega)
  have h0 : whE 0 i [] = [] := whE_no hh
  refine Calls.mono (load_any none 0 i [] w ⟨cnt_nil w, by omega, by simp, fun h => by rw [hh] at h; cases h⟩) ?_
  rintro e w' ⟨a, c, q1, q2, q3⟩
  rw [h0] at q1
  exact ⟨a, c, q1, q3⟩

theorem begun_any (room : Nat) (w : World) (hr : room ≤ 20000) :
    Calls Tryz.prog 6 #[.int .i64 room] w fun e w' => ∃ p r, e = .returned (.tuple #[.pointer (some ⟨p, 0, none⟩), .pointer (some ⟨r, 0, none⟩)]) ∧ Lw w.heap.size w' p (Dk.newP 3 room) ∧ Below w.heap.size w w' := by
  have HN : Hid _ := Dk.new_yes 3 room w (by omega) (by omega) (by omega)
  have HRN : Hid (∀ wx, Calls Tryz.prog 14 #[.int .i64 3, .int .i64 room] wx fun e w' => e = .returned (.tuple #[.pointer (some ⟨wx.heap.size + 1, 0, none⟩), .int .i64 0]) ∧ Below wx.heap.size wx w') := fun wx => Calls.mono (Dk.rnew_yes 3 room wx (by omega) (by omega) (by omega)) (fun e w' h => ⟨h.1, h.2.2⟩)
  go_enter Tryz.func6, Tryz.ntmps6
  go_wp2_with fail
  refine Calls.mono HN.out ?_
  rintro e w1 ⟨rfl, hd1, hb1⟩
  have HD1 : Hid _ := hd1
  have HB1 : Hid _ := hb1
  have H1 : Hid _ := HRN.out w1
  clear hd1 hb1 HN HRN
  go_wp2_with fail
  refine Calls.mono H1.out ?_
  rintro e w2 ⟨rfl, hb2⟩
  have HB2 : Hid _ := HB1.out.trans (hb2.mono HB1.out.size)
  have HD2 : Hid _ := DK.later HD1.out hb2
  clear hb2 H1
  go_wp2_with fail
  go_ret2
  refine ⟨_, _, rfl, ⟨⟨_, HD2.out, fun k hk => by omega⟩, Dk.okay_new (by omega) (by omega), rfl, ?_, HB2.out.size⟩, HB2.out⟩
  show room + 0 + 0 + 0 ≤ 20000
  omega
end Go.Proofs.YtijkgdbabikojaaGreat

/- The walk over branch.Open. -/
namespace Go.Proofs.YtijkgdbabikojaaGreat
open Go.RowKit
open Dk (DS DK Okay Small WR Kp Wid cutP appendP syncP hasB hasB_true)
set_option maxRecDepth 1000000
set_option linter.unusedVariables false

theorem Tryz.info41 : (Tryz.prog.info? 41).map (fun i => (i.zero, i.size, i.bytes)) = some (some (.slice none 0 0), 1, 24) := by kernel_rfl

theorem made_logs (n : Nat) (hn : n ≤ 65) (w : World) : (Instr.makeSlice 51 (.int .i64 n) (.int .i64 n)).run Tryz.prog w = .ok (.slice (some ⟨w.heap.size, 0, none⟩) n n) (w.alloc (.cells (Array.replicate n (Value.slice none 0 0)) 41)) := by
  obtain ⟨i0, hi, hz0, hz1, hz2⟩ := info_parts Tryz.info41
  have := run_make (P := Tryz.prog) w 51 41 i0 _ Tryz.underlying51 hi hz0 .i64 .i64 n n (by omega) (Int.le_refl _) (by rw [hz2]; omega) (by omega)
  rw [hz1] at this
  have e : ((n : Int).toNat) = n := by omega
  rw [e, Nat.mul_one] at this
  have e2 : madeCells (Value.slice none 0 0).cells n = Array.replicate n (Value.slice none 0 0) := by
    apply Array.toList_inj.1
    rw [show (Value.slice none 0 0).cells = #[Value.slice none 0 0] from rfl, toList_madeCells_one]
    simp
  rw [e2] at this
  exact this

theorem LogR.lift {N : Nat} {W : World} {T : Nat → Prop} {v : Value} {L : List Ev} (h : LogR N W (fun _ => False) v L) (hT : ∀ b, T b → b < N) : LogR N W T v L := by
  obtain ⟨P, h1, h2, h3, h4⟩ := h
  refine ⟨P, h1, h2, fun g hg ht => ?_, fun p hp => ?_⟩
  · have := (World.ownsRow.lt h2 g hg).1
    have := hT g ht
    omega
  · obtain ⟨a, c, e, q1, q2, q3⟩ := h4 p hp
    refine ⟨a, c, e, q1, q2, fun b hb hl => ?_⟩
    obtain ⟨g1, g2, g3, g4⟩ := q3 b hb hl
    exact ⟨g1, g2, fun ht => by have := hT _ ht; omega, g4⟩

theorem LogR.base {N N' : Nat} {W : World} {T : Nat → Prop} {v : Value} {L : List Ev} (h : LogR N W T v L) (hN : N' ≤ N) : LogR N' W T v L := by
  obtain ⟨P, h1, h2, h3, h4⟩ := h
  refine ⟨P, h1, ⟨h2.1, ?_⟩, h3, fun p hp => ?_⟩
  · rcases h2.2 with hn | ⟨g, cap, cur, e, hb, rest⟩
    · exact .inl hn
    · exact .inr ⟨g, cap, cur, e, by omega, rest⟩
  · obtain ⟨a, c, e, q1, q2, q3⟩ := h4 p hp
    refine ⟨a, c, e, q1, q2, fun b hb hl => ?_⟩
    obtain ⟨g1, g2, g3, g4⟩ := q3 b hb hl
    exact ⟨by omega, g2, g3, g4⟩

/-- What Open tells of a branch. -/
def ldP (n : Nat) (S : DS) (i : Nat) : List Ev × Nat := loadL (n - 1) i (Dk.readP S i)
def openK (n : Nat) : Nat → Nat → DS → List (List Ev) → List (List Ev) × Int × DS
  | 0, _, S, acc => (acc, 0, S)
  | f + 1, i, S, acc => if (trimP S i (ldP n S i).2).1 ≠ 0 then ([], (trimP S i (ldP n S i).2).1, (trimP S i (ldP n S i).2).2) else openK n f (i + 1) (trimP S i (ldP n S i).2).2 (acc ++ [(ldP n S i).1])
def openP (n : Nat) (S : DS) : List (List Ev) × Int × DS := openK n (n - 1) 0 S []

/-- Rows of events of the call's own. -/
def Rws (g : Nat) (W : World) (T : Nat → Prop) (m : Nat) (R : List (List Ev)) : Prop :=
  ∃ cs : List Value, cs.length = m ∧ W.heap[g]? = some (.cells cs.toArray 41 (0, 0)) ∧ ¬ T g ∧ ∀ (i : Nat) L, R[i]? = some L → ∃ sv, cs[i]? = some sv ∧ LogR (g + 1) W T sv L

theorem Rws.kept {g : Nat} {W W' : World} {T T' : Nat → Prop} {m : Nat} {R : List (List Ev)} (h : Rws g W T m R) (hk : Kp T W W') (hT : ∀ b, b < W.heap.size → ¬ T b → ¬ T' b) : Rws g W' T' m R := by
  obtain ⟨cs, h1, h2, h3, h4⟩ := h
  have hg : g < W.heap.size := (Array.getElem?_eq_some_iff.1 h2).1
  refine ⟨cs, h1, (hk.block g hg h3).trans h2, hT g hg h3, fun i L hL => ?_⟩
  obtain ⟨sv, s1, s2⟩ := h4 i L hL
  exact ⟨sv, s1, s2.kept (fun b _ b2 b3 => hk.block b b2 b3) hT hk.size⟩

theorem Rws.set {g : Nat} {W : World} {T : Nat → Prop} {m : Nat} {R : List (List Ev)} (h : Rws g W T m R) {sv : Value} {L : List Ev} (hL : LogR (g + 1) W T sv L) (hm : R.length < m) : Rws g (W.setCell ⟨g, R.length, none⟩ sv) T m (R ++ [L]) := by
  obtain ⟨cs, h1, h2, h3, h4⟩ := h
  have hk : ∀ (v : Value) (l : List Ev), LogR (g + 1) W T v l → LogR (g + 1) (W.setCell ⟨g, R.length, none⟩ sv) T v l := fun v l hl => hl.kept (fun b b1 _ _ => Below.heap_setCell _ _ _ _ (show b ≠ g by omega)) (fun _ _ h => h) (by simp)
  refine ⟨cs.set R.length sv, by simpa using h1, ?_, h3, fun i L' hL' => ?_⟩
  · rw [row_set h2 R.length sv]
    simp
  · by_cases hi : i < R.length
    · rw [List.getElem?_append_left hi] at hL'
      obtain ⟨sv', s1, s2⟩ := h4 i L' hL'
      exact ⟨sv', by rw [List.getElem?_set_ne (by omega)]; exact s1, hk _ _ s2⟩
    · have hi2 : i = R.length := by
        have := (List.getElem?_eq_some_iff.1 hL').1
        simp at this
        omega
      subst hi2
      simp at hL'
      subst hL'
      exact ⟨sv, by rw [List.getElem?_set_self (by omega)], hk _ _ hL⟩

theorem Rws.rre {g : Nat} {W : World} {T : Nat → Prop} {m : Nat} {R : List (List Ev)} (h : Rws g W T m R) (hm : R.length = m) (h6 : m ≤ 65) : RRE W (.slice (some ⟨g, 0, none⟩) m m) R := by
  obtain ⟨cs, h1, h2, h3, h4⟩ := h
  refine ⟨_, m, by rw [hm], by omega, by unfold maxLen; omega, fun i L hL => ?_⟩
  obtain ⟨sv, s1, s2⟩ := h4 i L hL
  refine ⟨g, 0, sv, rfl, ?_, s2.re.1⟩
  rw [cell_row h2, Nat.zero_add, List.getElem?_toArray]
  exact s1

theorem dk_dsk {T : Nat → Prop} {w : World} {p : Nat} {S : DS} {n : Nat} (h1 : DK T w p S) (ho : Okay S) (hs : Small 100000 10000000000 S) (hn : S.n = n) (i : Int) : Dsk (some ⟨p, 0, none⟩) n i (Dk.readP S i) w := by
  subst hn
  refine ⟨cnt_dk h1 ho, ho.few, ?_, fun _ wx hb => ?_⟩
  · unfold Dk.readP
    split
    · exact hs.len _
    · simp
  · refine Calls.mono (Dk.read_any T wx p S i (h1.later hb) ho (Dk.small_mono hs (by omega) (by omega))) ?_
    rintro e w' ⟨⟨v, q1, q2⟩, q3⟩
    exact ⟨v, q1, q2, q3⟩

theorem load_dk {T : Nat → Prop} {w : World} {p : Nat} {S : DS} {n : Nat} (h1 : DK T w p S) (ho : Okay S) (hs : Small 100000 10000000000 S) (hn : S.n = n) (i : Nat) (hi : i + 1 < n) :
    Calls Tryz.prog 10 #[.pointer (some ⟨p, 0, none⟩), .int .i64 i] w fun e w' => ∃ a c, e = .returned (.tuple #[.slice a (ldP n S i).1.length c, .int .i64 ((ldP n S i).2 : Nat)]) ∧ LogR (w.heap.size + 2) w' T (.slice a (ldP n S i).1.length c) (ldP n S i).1 ∧ Below w.heap.size w w' := by
  have hh : hasN n i = true := decide_eq_true (by omega)
  obtain ⟨e1, e2⟩ := wh_load n i (Dk.readP S i) hh
  have hl := h1.live
  refine Calls.mono (load_any _ n i _ w (dk_dsk h1 ho hs hn i)) ?_
  rintro e w' ⟨a, c, q1, q2, q3⟩
  rw [e1] at q2
  have e3 : (whE n i (Dk.readP S i)).length = (ldP n S i).1.length := by
    have := congrArg List.length e1
    rw [evK_len (Nat.le_refl _)] at this
    exact this
  rw [e2, e3] at q1
  rw [e3] at q2
  exact ⟨a, c, q1, q2.lift (fun b hb => by have := hl b hb; omega), q3⟩

/-- What Open knows when k branches are open. -/
def OpS (n m : Nat) (Q : DS → Prop) (T : Nat → Prop) (w : World) (p g : Nat) (RES : List (List Ev) × Int × DS) (k : Nat) (W : World) : Prop :=
  ∃ (T' : Nat → Prop) (S' : DS) (R : List (List Ev)), DK T' W p S' ∧ Q S' ∧ Rws g W T' m R ∧ R.length = k ∧ openK n (m - k) k S' R = RES ∧ Kp T w W ∧ (∀ b, T' b → T b ∨ w.heap.size ≤ b)

/-- Rows of events that are none of a disk's blocks. -/
def RRT (T : Nat → Prop) (w : World) (v : Value) (R : List (List Ev)) : Prop :=
  (v = .slice none 0 0 ∧ R = []) ∨ ∃ g, v = .slice (some ⟨g, 0, none⟩) R.length R.length ∧ R.length ≤ 65 ∧ Rws g w T R.length R

theorem RRT.rre {T : Nat → Prop} {w : World} {v : Value} {R : List (List Ev)} (h : RRT T w v R) : RRE w v R := by
  rcases h with ⟨rfl, rfl⟩ | ⟨g, rfl, h6, h⟩
  · exact ⟨none, 0, rfl, by simp, by unfold maxLen; omega, fun i L h => by simp at h⟩
  · exact h.rre rfl h6

theorem RRT.kept {T T' : Nat → Prop} {W W' : World} {v : Value} {R : List (List Ev)} (h : RRT T W v R) (hk : Kp T W W') (hT : ∀ b, b < W.heap.size → ¬ T b → ¬ T' b) : RRT T' W' v R := by
  rcases h with h | ⟨g, e, h6, h⟩
  · exact .inl h
  · exact .inr ⟨g, e, h6, h.kept hk hT⟩

/-- What Open leaves. -/
def OpE (Q : DS → Prop) (T : Nat → Prop) (w : World) (p : Nat) (RES : List (List Ev) × Int × DS) (e : Ending) (w' : World) : Prop :=
  ∃ a c, e = .returned (.tuple #[.slice a RES.1.length c, .int .i64 RES.2.1]) ∧ (∀ b, a = some b → w.heap.size ≤ b.block) ∧ (∃ T' : Nat → Prop, DK T' w' p RES.2.2 ∧ RRT T' w' (.slice a RES.1.length c) RES.1 ∧ (∀ b, T' b → T b ∨ w.heap.size ≤ b)) ∧ Q RES.2.2 ∧ Kp T w w'

set_option maxHeartbeats 4000000 in
theorem open_any (n : Nat) (Q : DS → Prop) (hQ : ∀ S, Q S → Okay S ∧ Small 100000 10000000000 S ∧ S.n = n) (hQt : ∀ S (i : Nat) (m : Nat), i + 1 < n → Q S → Q (trimP S i m).2) (T : Nat → Prop) (w : World) (p : Nat) (S : DS) (hd : DK T w p S) (hq : Q S) :
    Calls Tryz.prog 15 #[.pointer (some ⟨p, 0, none⟩)] w (OpE Q T w p (openP n S)) := by
  obtain ⟨ho, hs, hn⟩ := hQ S hq
  have hfew := ho.few
  have hpos := ho.pos
  rw [hn] at hfew hpos
  have hT := hd.live
  have HC := cnt_dk hd ho
  rw [hn] at HC
  have HM : Hid _ := made_br _ _ w HC hfew
  have HBr : Hid (∀ wx, Below w.heap.size w wx → Calls Tryz.prog 39 #[.pointer (some ⟨p, 0, none⟩)] wx fun e w' => e = .returned (.int .i64 ((n - 1 : Nat) : Int)) ∧ Below wx.heap.size wx w') := fun wx hb => by
    have := branches_any _ _ wx (HC.later hb) hfew
    rw [show ((n : Int) - 1) = ((n - 1 : Nat) : Int) by omega] at this
    exact this
  have hd0 : decide (0 < n) = true := decide_eq_true (by omega)
  rw [hd0] at HM
  have HMk : Hid (∀ wx : World, (Instr.makeSlice 51 (.int .i64 ((n - 1 : Nat) : Int)) (.int .i64 ((n - 1 : Nat) : Int))).run Tryz.prog wx = .ok (.slice (some ⟨wx.heap.size, 0, none⟩) (n - 1) (n - 1)) (wx.alloc (.cells (Array.replicate (n - 1) (Value.slice none 0 0)) 41))) := fun wx => made_logs (n - 1) (by omega) wx
  have HQ : Hid _ := hQ
  have HQT : Hid _ := hQt
  obtain ⟨RES, HRES⟩ : ∃ RES, Hid (openP n S = RES) := ⟨_, rfl⟩
  rw [HRES.out]
  have HST : Hid (∀ wx g, Below w.heap.size w wx → g = wx.heap.size → OpS n (n - 1) Q T w p g RES 0 (wx.alloc (.cells (Array.replicate (n - 1) (Value.slice none 0 0)) 41))) := fun wx g hb hg => by
    subst hg
    have hb2 : Below w.heap.size w (wx.alloc (.cells (Array.replicate (n - 1) (Value.slice none 0 0)) 41)) := hb.alloc hb.size _
    refine ⟨T, S, [], hd.later hb2, hq, ⟨List.replicate (n - 1) (Value.slice none 0 0), by simp, by rw [List.toArray_replicate]; exact row_new _ _ _, fun h => by have := hT _ h; have := hb.size; omega, fun i L h => by simp at h⟩, rfl, HRES.out, Kp.of_below T hb2, fun b h => .inl h⟩
  clear hQ hQt hd hq ho hs HC hd0 HRES
  have hmm : n - 1 ≤ 64 := by omega
  have HNM : Hid (n - 1 + 1 = n) := by show _ = _; omega
  obtain ⟨m, HMM⟩ : ∃ m, Hid (n - 1 = m) := ⟨_, rfl⟩
  rw [HMM.out] at HBr HMk HST hmm HNM
  clear hfew hpos
  go_enter Tryz.func15, Tryz.ntmps15
  go_wp2_with fail
  refine Calls.mono HM.out ?_
  rintro e w1 ⟨rfl, hb1⟩
  have HB1 : Hid _ := hb1
  have H1 : Hid _ := HBr.out w1 hb1
  clear hb1 HM HBr
  go_wp2_with fail
  refine Calls.mono H1.out ?_
  rintro e w2 ⟨rfl, hb2⟩
  have HB2 : Hid _ := HB1.out.trans (hb2.mono HB1.out.size)
  have hmk := HMk.out w2
  have HS0 : Hid _ := HST.out w2 _ HB2.out rfl
  clear hb2 H1 HMk HST
  go_wp2_with fail
  obtain ⟨g, HG⟩ : ∃ g, Hid (w2.heap.size = g) := ⟨_, rfl⟩
  have HG2 : Hid (w.heap.size ≤ g) := by show _ ≤ _; rw [← HG.out]; exact HB2.out.size
  rw [HG.out] at HS0 ⊢
  clear hmk
  generalize w2.alloc (.cells (Array.replicate m (Value.slice none 0 0)) 41) = w3 at *
  go_loopw [17] (fun i wr => ∃ k : Nat, k ≤ m ∧ i = .int .i64 k ∧ Hid (OpS n m Q T w p g RES k wr)) (fun i _ => m - (intOf i).toNat)
  case atStart => exact ⟨0, Nat.zero_le _, rfl, HS0⟩
  case round =>
    obtain ⟨k, hk, rfl, HI⟩ := hrel
    obtain ⟨T', S', R, d1, d2, d3, d4, d5, d6, d7⟩ := HI.out
    obtain ⟨ho, hs, hn⟩ := HQ.out S' d2
    by_cases hlt : k < m
    · have HLo : Hid _ := load_dk d1 ho hs hn k (by have := HNM.out; omega)
      have HTr : Hid (∀ wx, Below wr.heap.size wr wx → Calls Tryz.prog 46 #[.pointer (some ⟨p, 0, none⟩), .int .i64 k, .int .i64 ((ldP n S' k).2 : Nat)] wx (WR T' wx p (trimP S' k (ldP n S' k).2))) := fun wx hb => trim_any T' wx p S' k _ (d1.later hb) ho (Dk.small_mono hs (by omega) (by omega))
      have HQ2 : Hid (Q (trimP S' k (ldP n S' k).2).2) := HQT.out S' k _ (by have := HNM.out; omega) d2
      have HRS : Hid (openK n (m - k) k S' R = RES) := d5
      have hmk : m - k = (m - (k + 1)) + 1 := by omega
      rw [hmk, openK] at HRS
      have HLV : Hid _ := d1.live
      have HRW : Hid _ := d3
      have HRL : Hid _ := d4
      have HKP : Hid _ := d6
      have HTT : Hid _ := d7
      clear d1 d2 d3 d4 d5 d6 d7 ho hs hn hmk HI
      generalize trimP S' k (ldP n S' k).2 = R1 at *
      generalize ldP n S' k = LP at *
      obtain ⟨L, E⟩ := LP
      simp only at HLo HTr HRS
      obtain ⟨ln, HLN⟩ : ∃ ln, Hid (L.length = ln) := ⟨_, rfl⟩
      rw [HLN.out] at HLo
      have hki : (k : Int) < (m : Int) := by omega
      go_wp2_with fail
      refine Calls.mono HLo.out ?_
      rintro e w4 ⟨la, lc, rfl, q2, q3⟩
      have HL4 : Hid _ := q2
      have HB4 : Hid _ := q3
      have H5 : Hid _ := HTr.out w4 q3
      clear q2 q3 HLo HTr
      go_wp2_with fail
      refine Calls.mono H5.out ?_
      rintro e w5 ⟨rfl, q2, q3⟩
      have HD5 : Hid _ := q2
      have HK5 : Hid _ := q3
      clear q2 q3 H5
      by_cases hz : R1.1 = 0
      · rw [if_neg (by simpa using hz)] at HRS
        rw [hz]
        have hb4 := HB4.out
        have r4 : Rws g w4 T' m R := Rws.kept HRW.out (Kp.of_below T' hb4) (fun _ _ h => h)
        have r5 : Rws g w5 (Wid T' w4 w5) m R := r4.kept HK5.out (fun b hb hn h => by rcases h with h | h; exact hn h; omega)
        have hgl : g < wr.heap.size := by obtain ⟨_, _, h2, _⟩ := HRW.out; exact (Array.getElem?_eq_some_iff.1 h2).1
        have l5 : LogR (g + 1) w5 (Wid T' w4 w5) (.slice la ln lc) L := LogR.kept (LogR.base HL4.out (by omega)) (fun b _ b2 b3 => HK5.out.block b b2 b3) (fun b hb hn h => by rcases h with h | h; exact hn h; omega) HK5.out.size
        have hgT : ¬ T g := fun h => by
          have := hT g h
          have := HG2.out
          omega
        obtain ⟨cs, c1, c2, c3, c4⟩ := r5
        have hrow : w5.heap[g]? = some (.cells cs.toArray 41 (0, 0)) := c2
        have hcell : w5.cell? ⟨g, k, none⟩ = some (cs.getD k (.slice none 0 0)) := by
          rw [cell_row c2, List.getElem?_toArray, List.getElem?_eq_getElem (by omega), List.getD_eq_getElem?_getD, List.getElem?_eq_getElem (by omega)]
          rfl
        have hfro := froz_row c2 k
        have r6 : Rws g (w5.setCell ⟨g, k, none⟩ (.slice la ln lc)) (Wid T' w4 w5) m (R ++ [L]) := by
          have := Rws.set ⟨cs, c1, c2, c3, c4⟩ l5 (by rw [HRL.out]; exact hlt)
          rw [HRL.out] at this
          exact this
        have HN : Hid (OpS n m Q T w p g RES (k + 1) (w5.setCell ⟨g, k, none⟩ (.slice la ln lc))) := by
          refine ⟨Wid T' w4 w5, R1.2, R ++ [L], ?_, HQ2.out, r6, by rw [List.length_append, HRL.out]; rfl, HRS.out, ?_, fun b hb => ?_⟩
          · exact DK.kept HD5.out (T' := fun b => b = g) ⟨rfl, rfl, rfl, by simp, fun b hb hn => Below.heap_setCell _ _ _ _ hn⟩ (fun b hb e => c3 (by rw [← e]; exact hb))
          · have h1 : Kp T w w4 := HKP.out.trans (Kp.of_below T hb4) (fun x hx _ => hx)
            have h2 : Kp T w w5 := h1.trans HK5.out (fun x hx hl => by
              rcases HTT.out x hx with h | h
              · exact h
              · omega)
            have h3 : Kp (fun b => b = g) w5 (w5.setCell ⟨g, k, none⟩ (.slice la ln lc)) := ⟨rfl, rfl, rfl, by simp, fun b hb hn => Below.heap_setCell _ _ _ _ hn⟩
            exact h2.trans h3 (fun x hx hl => by have := HG2.out; omega)
          · rcases hb with hb | hb
            · exact HTT.out b hb
            · have := HKP.out.size
              have := hb4.size
              exact .inr (by omega)
        clear r4 r6 l5 c1 c2 c3 c4 hrow hb4 HKP HTT HRW HRL HL4 HB4 HD5 HK5 HQ2 HLV HRS
        generalize cs.getD k (.slice none 0 0) = cv at *
        go_wp2_with fail
        go_roundw
        case rel => exact ⟨k + 1, by omega, by go_num, HN⟩
        case measure => simp [intOf]; omega
      · rw [if_pos (by simpa using hz)] at HRS
        have h5 : (R1.1 != 0) = true := by simpa using hz
        clear hz
        go_wp2_with fail
        go_ret2
        rw [← HRS.out]
        have hb4 := HB4.out
        refine ⟨none, 0, rfl, (fun b hb => by cases hb), ⟨Wid T' w4 w5, HD5.out, .inl ⟨rfl, rfl⟩, fun b hb => ?_⟩, HQ2.out, ?_⟩
        · rcases hb with hb | hb
          · exact HTT.out b hb
          · have := HKP.out.size
            have := hb4.size
            exact .inr (by omega)
        · have h1 : Kp T w w4 := HKP.out.trans (Kp.of_below T hb4) (fun x hx _ => hx)
          exact h1.trans HK5.out (fun x hx hl => by
              rcases HTT.out x hx with h | h
              · exact h
              · omega)
    · have hkn : k = m := by omega
      subst hkn
      have hr := d3
      rw [Nat.sub_self, openK] at d5
      subst d5
      have HD : Hid _ := d1
      have HQ3 : Hid _ := d2
      have HR3 : Hid _ := hr
      have HK3 : Hid _ := d6
      have HT3 : Hid _ := d7
      have HL3 : Hid _ := d4
      clear d1 d2 d3 d4 d6 d7 ho hs hn hr HI
      go_wp2_with fail
      go_ret2
      have := HL3.out
      subst this
      exact ⟨_, _, rfl, (fun b hb => by cases hb; exact HG2.out), ⟨T', HD.out, .inr ⟨_, rfl, by show R.length ≤ 65; omega, HR3.out⟩, HT3.out⟩, HQ3.out, HK3.out⟩
end Go.Proofs.YtijkgdbabikojaaGreat

