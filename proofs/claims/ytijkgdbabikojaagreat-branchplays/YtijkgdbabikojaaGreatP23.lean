/- Texts of the seat, packed: Gj Gk. -/
import Derived.Test.YtijkgdbabikojaaGreatP19
/- The walks over branch's trim, replace, Told, Begin. -/
namespace Go.Proofs.YtijkgdbabikojaaGreat
open Go.RowKit
open Dk (DS DK Okay Small WR Kp cutP appendP syncP hasB hasB_true)
set_option maxRecDepth 1000000
set_option linter.unusedVariables false

/-- What trim makes of a disk. -/
def trimP (S : DS) (i n : Int) : Int × DS := if ((Dk.readP S i).length : Int) = n then (0, S) else cutP S i n
/-- What replace makes of a disk. -/
def replP (S : DS) (i : Int) (b : List UInt8) : Int × DS :=
  if (trimP S i 0).1 ≠ 0 then trimP S i 0 else if (appendP (trimP S i 0).2 i b).1 ≠ 0 then appendP (trimP S i 0).2 i b else syncP (appendP (trimP S i 0).2 i b).2 i

def lastB (S : DS) : List UInt8 := (S.fs (S.n - 1)).b
/-- What Begin makes of a disk. -/
def beginP (S : DS) (s : List UInt8) : Int × DS :=
  if 65536 < s.length then (5, S) else if (toldG (lastB S)).isSome = true then (7, S) else replP S ((S.n : Int) - 1) (textP s)

theorem okay_trim {S : DS} (h : Okay S) (i n : Int) : Okay (trimP S i n).2 := by
  unfold trimP
  split
  · exact h
  · exact Dk.okay_cut h i n
theorem small_trim {L R : Nat} {S : DS} (h : Small L R S) (i n : Int) : Small L (R + L) (trimP S i n).2 := by
  unfold trimP
  split
  · exact Dk.small_mono h (Nat.le_refl _) (by omega)
  · exact Dk.small_cut h i n

theorem cnt_dk {T : Nat → Prop} {w : World} {p : Nat} {S : DS} (hd : DK T w p S) (ho : Okay S) : Cnt (some ⟨p, 0, none⟩) S.n w := by
  obtain ⟨V, hv⟩ := hd
  exact cnt_disk hv.cnt (by have := ho.pos; omega)

theorem WR.none {T : Nat → Prop} {w w' : World} {p : Nat} {S : DS} {k : Int} (hd : DK T w p S) (hb : Below w.heap.size w w') : WR T w p (k, S) (.returned (.int .i64 k)) w' := by
  refine ⟨rfl, (hd.later hb).wide (fun k h => .inl h) (fun k h => ?_), Kp.of_below T hb⟩
  rcases h with h | h
  · exact Nat.lt_of_lt_of_le (hd.live k h) hb.size
  · exact h.2

theorem WR.then {T : Nat → Prop} {w w1 : World} {p : Nat} {r : Int × DS} {e : Ending} {w2 : World} {T1 : Nat → Prop} (hk : Kp T w w1) (hT : ∀ k, T k → k < w.heap.size) (h1 : T1 = Dk.Wid T w w1) (h : WR T1 w1 p r e w2) : WR T w p r e w2 := by
  subst h1
  obtain ⟨q1, q2, q3⟩ := h
  have hs1 := hk.size
  have hs2 := q3.size
  refine ⟨q1, q2.wide (fun k hk2 => ?_) (fun k hk2 => ?_), hk.trans q3 (fun x hx hl => ?_)⟩
  · rcases hk2 with (hk2 | hk2) | hk2
    · exact .inl hk2
    · exact .inr ⟨hk2.1, by omega⟩
    · exact .inr ⟨by omega, hk2.2⟩
  · rcases hk2 with hk2 | hk2
    · have := hT k hk2; omega
    · exact hk2.2
  · rcases hx with hx | hx
    · exact hx
    · omega

theorem trim_any (T : Nat → Prop) (w : World) (p : Nat) (S : DS) (i n : Int) (hd : DK T w p S) (ho : Okay S) (hs : Small 1000000 100000000000 S) :
    Calls Tryz.prog 46 #[.pointer (some ⟨p, 0, none⟩), .int .i64 i, .int .i64 n] w (WR T w p (trimP S i n)) := by
  have hs2 : Small 10000000 1000000000000 S := Dk.small_mono hs (by omega) (by omega)
  have HR : Hid _ := Dk.read_any T w p S i hd ho hs2
  have HCut : Hid (∀ wx, Below w.heap.size w wx → Calls Tryz.prog 86 #[.pointer (some ⟨p, 0, none⟩), .int .i64 i, .int .i64 n] wx (WR T wx p (cutP S i n))) := fun wx hb => Dk.cut_any T wx p S i n (hd.later hb) ho hs2
  have HD : Hid (DK T w p S) := hd
  have HLn : Hid ((Dk.readP S i).length ≤ 1000000) := by
    show _ ≤ _
    unfold Dk.readP
    split
    · exact hs.len _
    · simp
  obtain ⟨B, HB⟩ : ∃ B, Hid (Dk.readP S i = B) := ⟨_, rfl⟩
  have HTP : Hid (trimP S i n = if (B.length : Int) = n then (0, S) else cutP S i n) := by show _ = _; unfold trimP; rw [HB.out]
  obtain ⟨RES, HRES⟩ : ∃ RES, Hid (RES = trimP S i n) := ⟨_, rfl⟩
  rw [← HRES.out]
  rw [HTP.out] at HRES
  rw [HB.out] at HR HLn
  clear hd
  go_enter Tryz.func46, Tryz.ntmps46
  go_wp2_with fail
  refine Calls.mono HR.out ?_
  rintro e w1 ⟨⟨v, rfl, hrb, _⟩, hb1⟩
  obtain ⟨a, c, rfl, _, _, _, _⟩ := hrb
  have HB1 : Hid _ := hb1
  have hl9 : B.length ≤ 1000000 := HLn.out
  clear hb1 HR
  by_cases he : (B.length : Int) = n
  · rw [if_pos he] at HRES
    have he2 : ((B.length : Int) == n) = true := by simpa using he
    clear he HTP HB
    go_wp2_with fail
    go_ret
    rw [HRES.out]
    exact WR.none HD.out HB1.out
  · rw [if_neg he] at HRES
    have he2 : ((B.length : Int) == n) = false := by simpa using he
    clear he HTP HB
    go_wp2_with fail
    refine Calls.mono (HCut.out _ HB1.out) ?_
    rintro e w2 ⟨rfl, h2, h3⟩
    have HW : Hid (WR T w1 p (cutP S i n) (.returned (.int .i64 (cutP S i n).1)) w2) := ⟨rfl, h2, h3⟩
    clear h2 h3
    go_wp2_with fail
    go_ret
    have hl := HD.out.live
    have hb := HB1.out
    obtain ⟨q1, q2, q3⟩ := HW.out
    rw [HRES.out]
    refine ⟨rfl, q2.wide (fun k hk => ?_) (fun k hk => ?_), (Kp.of_below T hb).trans q3 (fun x hx _ => hx)⟩
    · rcases hk with hk | hk
      · exact .inl hk
      · exact .inr ⟨by have := hb.size; omega, hk.2⟩
    · have := hb.size
      have := q3.size
      rcases hk with hk | hk
      · have := hl k hk; omega
      · exact hk.2

theorem replace_any (T : Nat → Prop) (w : World) (p : Nat) (S : DS) (i : Int) (xv : Value) (l : List UInt8) (hd : DK T w p S) (ho : Okay S) (hs : Small 1000000 10000000000 S) (hx : RB w xv l) (hl : l.length ≤ 1000000) (hxT : ∀ a n c, xv = .slice (some a) n c → ¬ T a.block ∧ a.block < w.heap.size) :
    Calls Tryz.prog 45 #[.pointer (some ⟨p, 0, none⟩), .int .i64 i, xv] w (WR T w p (replP S i l)) := by
  have HD : Hid (DK T w p S) := hd
  have hT := hd.live
  have HTr : Hid _ := trim_any T w p S i 0 hd ho (Dk.small_mono hs (by omega) (by omega))
  have ho1 := okay_trim ho i 0
  have hs1 : Small 1000000 10001000000 (trimP S i 0).2 := small_trim hs i 0
  have ho2 := Dk.okay_append ho1 i l
  have hs2 : Small (1000000 + l.length) 10001000000 (appendP (trimP S i 0).2 i l).2 := Dk.small_append hs1 i l
  have HX : Hid (RB w xv l) := hx
  obtain ⟨xa, xc, rfl, _, _, _, _⟩ := hx
  have HRP : Hid (replP S i l = if (trimP S i 0).1 ≠ 0 then trimP S i 0 else if (appendP (trimP S i 0).2 i l).1 ≠ 0 then appendP (trimP S i 0).2 i l else syncP (appendP (trimP S i 0).2 i l).2 i) := rfl
  obtain ⟨RES, HRES⟩ : ∃ RES, Hid (RES = replP S i l) := ⟨_, rfl⟩
  rw [← HRES.out]
  rw [HRP.out] at HRES
  clear HRP hd
  generalize trimP S i 0 = R1 at *
  generalize hR2 : appendP R1.2 i l = R2 at *
  have HR2 : Hid _ := hR2
  clear hR2
  go_enter Tryz.func45, Tryz.ntmps45
  go_wp2_with fail
  refine Calls.mono HTr.out ?_
  rintro e w1 ⟨rfl, h2, h3⟩
  have HK1 : Hid _ := h3
  have HD1 : Hid _ := h2
  have HX1 : Hid (RB w1 (.slice xa l.length xc) l) := RB.stay HX.out (fun a n c he _ hlt => h3.block _ hlt (hxT a n c he).1)
  have HAp : Hid _ := Dk.append_any _ w1 p R1.2 i _ l h2 ho1 (Dk.small_mono hs1 (by omega) (by omega)) HX1.out (by omega) (fun a n c he ht => by
    have := hxT a n c he
    rcases ht with ht | ht
    · exact this.1 ht
    · omega)
  rw [HR2.out] at HAp
  clear h2 h3 HTr
  by_cases h1 : R1.1 = 0
  · rw [if_neg (by simpa using h1)] at HRES
    rw [h1]
    go_wp2_with fail
    refine Calls.mono HAp.out ?_
    rintro e w2 ⟨rfl, h2, h3⟩
    have HK2 : Hid _ := h3
    have HD2 : Hid _ := h2
    have HSy : Hid _ := Dk.sync_any _ w2 p R2.2 i h2 ho2 (Dk.small_mono hs2 (by omega) (by omega))
    clear h2 h3 HAp
    by_cases h4 : R2.1 = 0
    · rw [if_neg (by simpa using h4)] at HRES
      rw [h4]
      go_wp2_with fail
      refine Calls.mono HSy.out ?_
      rintro e w3 ⟨rfl, h2, h3⟩
      have HW : Hid (WR _ w2 p (syncP R2.2 i) (.returned (.int .i64 (syncP R2.2 i).1)) w3) := ⟨rfl, h2, h3⟩
      clear h2 h3 HSy
      go_wp2_with fail
      go_ret
      rw [HRES.out]
      exact WR.then HK1.out hT rfl (WR.then HK2.out (Dk.DK.live HD1.out) rfl HW.out)
    · rw [if_pos (by simpa using h4)] at HRES
      have h5 : (R2.1 != 0) = true := by simpa using h4
      have HW : Hid (WR _ w1 p R2 (.returned (.int .i64 R2.1)) w2) := ⟨rfl, HD2.out, HK2.out⟩
      clear h4 HSy
      go_wp2_with fail
      go_ret
      rw [HRES.out]
      exact WR.then HK1.out hT rfl HW.out
  · rw [if_pos (by simpa using h1)] at HRES
    have h5 : (R1.1 != 0) = true := by simpa using h1
    clear h1 HAp
    go_wp2_with fail
    go_ret
    rw [HRES.out]
    exact ⟨rfl, HD1.out, HK1.out⟩
end Go.Proofs.YtijkgdbabikojaaGreat

/- The walks over branch.Told and Begin. -/
namespace Go.Proofs.YtijkgdbabikojaaGreat
open Go.RowKit
open Dk (DS DK Okay Small WR Kp cutP appendP syncP hasB hasB_true)
set_option maxRecDepth 1000000
set_option linter.unusedVariables false

theorem last_read {S : DS} (ho : Okay S) : Dk.readP S ((S.n : Int) - 1) = lastB S := by
  have := ho.pos
  unfold Dk.readP lastB
  have h1 : hasB S ((S.n : Int) - 1) = true := by unfold Dk.hasB; simp; omega
  rw [if_pos h1]
  have : ((S.n : Int) - 1).toNat = S.n - 1 := by omega
  rw [this]

def tE (o : Option (List UInt8)) : Int := if o.isSome = true then 0 else 6

theorem told_any (T : Nat → Prop) (w : World) (p : Nat) (S : DS) (hd : DK T w p S) (ho : Okay S) (hs : Small 1000000 1000000000000 S) (hl : (lastB S).length ≤ 100000) :
    Calls Tryz.prog 11 #[.pointer (some ⟨p, 0, none⟩)] w fun e w' => e = .returned (.tuple #[tV (toldG (lastB S)), .int .i64 (tE (toldG (lastB S)))]) ∧ Below w.heap.size w w' := by
  have hfew := ho.few
  have hpos := ho.pos
  have HM : Hid _ := made_br _ _ w (cnt_dk hd ho) hfew
  have HLa : Hid (∀ wx, Below w.heap.size w wx → Calls Tryz.prog 43 #[.pointer (some ⟨p, 0, none⟩)] wx fun e w' => e = .returned (.int .i64 ((S.n : Int) - 1)) ∧ Below wx.heap.size wx w') := fun wx hb => last_any _ _ wx ((cnt_dk hd ho).later hb) hfew
  have HRd : Hid (∀ wx, Below w.heap.size w wx → Calls Tryz.prog 33 #[.pointer (some ⟨p, 0, none⟩), .int .i64 ((S.n : Int) - 1)] wx fun e w' => (∃ v, e = .returned v ∧ Dk.RBf wx.heap.size w' v (lastB S)) ∧ Below wx.heap.size wx w') := fun wx hb => by
    have := Dk.read_any T wx p S ((S.n : Int) - 1) (hd.later hb) ho (Dk.small_mono hs (by omega) (by omega))
    rw [last_read ho] at this
    exact this
  have HFT : Hid (∀ (v : Value) (wx : World), RB wx v (lastB S) → Calls Tryz.prog 42 #[v] wx fun e w' => e = .returned (.tuple #[tV (toldG (lastB S)), tB (toldG (lastB S))]) ∧ Below wx.heap.size wx w') := fun v wx h => framesText_any v _ wx h hl
  have hd0 : decide (0 < S.n) = true := decide_eq_true (by omega)
  rw [hd0] at HM
  generalize hB : lastB S = B at *
  obtain ⟨o, HO⟩ : ∃ o, Hid (toldG B = o) := ⟨_, rfl⟩
  rw [HO.out] at HFT ⊢
  generalize hN : (S.n : Int) - 1 = N at *
  clear hd hB hN hd0
  go_enter Tryz.func11, Tryz.ntmps11
  go_wp2_with fail
  refine Calls.mono HM.out ?_
  rintro e w1 ⟨rfl, hb1⟩
  have HB1 : Hid _ := hb1
  have H1 : Hid _ := HLa.out w1 hb1
  clear hb1 HM
  go_wp2_with fail
  refine Calls.mono H1.out ?_
  rintro e w2 ⟨rfl, hb2⟩
  have HB2 : Hid _ := HB1.out.trans (hb2.mono HB1.out.size)
  have H2 : Hid _ := HRd.out w2 HB2.out
  clear hb2 H1
  go_wp2_with fail
  refine Calls.mono H2.out ?_
  rintro e w3 ⟨⟨v, rfl, hrb, _⟩, hb3⟩
  have HB3 : Hid _ := HB2.out.trans (hb3.mono HB2.out.size)
  have H3 : Hid _ := HFT.out v w3 hrb
  obtain ⟨a, c, rfl, _, _, _, _⟩ := hrb
  clear hb3 H2
  go_wp2_with fail
  refine Calls.mono H3.out ?_
  rintro e w4 ⟨rfl, hb4⟩
  have HB4 : Hid _ := HB3.out.trans (hb4.mono HB3.out.size)
  clear hb4 H3
  cases o with
  | none =>
    unfold tB tV
    simp only [Option.isSome_none, Option.getD_none]
    go_wp2_with fail
    go_ret2
    exact ⟨rfl, HB4.out⟩
  | some s =>
    unfold tB tV
    simp only [Option.isSome_some, Option.getD_some]
    go_wp2_with fail
    go_ret2
    exact ⟨rfl, HB4.out⟩

theorem told_nil (w : World) : Calls Tryz.prog 11 #[.pointer none] w fun e w' => e = .returned (.tuple #[.string ⟨#[]⟩, .int .i64 1]) ∧ Below w.heap.size w w' := by
  have HM : Hid _ := made_br none 0 w (cnt_nil w) (by omega)
  go_enter Tryz.func11, Tryz.ntmps11
  go_wp2_with fail
  refine Calls.mono HM.out ?_
  rintro e w1 ⟨rfl, hb1⟩
  have HB1 : Hid _ := hb1
  clear hb1 HM
  go_wp2_with fail
  go_ret2
  exact ⟨rfl, HB1.out⟩

theorem begin_nil (s : ByteArray) (w : World) : Calls Tryz.prog 12 #[.pointer none, .string s] w fun e w' => e = .returned (.int .i64 1) ∧ Below w.heap.size w w' := by
  have HM : Hid _ := made_br none 0 w (cnt_nil w) (by omega)
  go_enter Tryz.func12, Tryz.ntmps12
  go_wp2_with fail
  refine Calls.mono HM.out ?_
  rintro e w1 ⟨rfl, hb1⟩
  have HB1 : Hid _ := hb1
  clear hb1 HM
  go_wp2_with fail
  go_ret
  exact ⟨rfl, HB1.out⟩

theorem keep_nil (i n : Int) (w : World) : Calls Tryz.prog 26 #[.pointer none, .int .i64 i, .int .i64 n] w fun e w' => e = .returned (.int .i64 1) ∧ Below w.heap.size w w' := by
  have HM : Hid _ := made_br none 0 w (cnt_nil w) (by omega)
  refine (callsIn_wide (n := 0)).1 ?_
  refine callsIn_of_wp_marks Tryz.func26 rfl trivial ?_ rfl
  simp only [Tryz.ntmps26, List.size_toArray, List.length_cons, List.length_nil, Nat.reduceAdd, Nat.reduceSub, Array.replicate_succ, Array.replicate_zero, List.push_toArray, List.append_toArray, List.nil_append, List.cons_append]
  gi_wp2
  refine ⟨trivial, rfl, (callsIn_wide.2 HM.out).mono ?_⟩
  rintro e w1 ⟨rfl, hb1⟩
  have HB1 : Hid _ := hb1
  clear hb1 HM
  gi_wp2
  refine ⟨.int .i64 1, ?_, rfl, HB1.out⟩
  simp [results, Tryz.f26, go_sem]

theorem open_nil (w : World) : Calls Tryz.prog 15 #[.pointer none] w fun e w' => e = .returned (.tuple #[.slice none 0 0, .int .i64 1]) ∧ Below w.heap.size w w' := by
  have HM : Hid _ := made_br none 0 w (cnt_nil w) (by omega)
  go_enter Tryz.func15, Tryz.ntmps15
  go_wp2_with fail
  refine Calls.mono HM.out ?_
  rintro e w1 ⟨rfl, hb1⟩
  have HB1 : Hid _ := hb1
  clear hb1 HM
  go_wp2_with fail
  go_ret2
  exact ⟨rfl, HB1.out⟩

theorem append_nil (k i t : Int) (sv : Value) (j : Int) (hsv : sv.oneCell' = true) (w : World) : Calls Tryz.prog 9 #[.pointer none, .int .i64 j, .agg #[.int .i64 k, .int .i64 i, .int .i64 t, sv]] w fun e w' => e = .returned (.int .i64 1) ∧ Below w.heap.size w w' := by
  have hb0 : Below w.heap.size w (w.alloc (.cells #[.int .i64 k, .int .i64 i, .int .i64 t, sv] 33)) := (Below.refl _ _).alloc (Nat.le_refl _) _
  have HM : Hid _ := made_br none 0 (w.alloc (.cells #[.int .i64 k, .int .i64 i, .int .i64 t, sv] 33)) (cnt_nil _) (by omega)
  go_enter Tryz.func9, Tryz.ntmps9
  go_wp2_with fail
  refine Calls.mono HM.out ?_
  rintro e w1 ⟨rfl, hb1⟩
  have HB1 : Hid _ := hb0.trans (hb1.mono hb0.size)
  clear hb1 HM hb0
  go_wp2_with fail
  go_ret
  exact ⟨rfl, HB1.out⟩

theorem bytes_str (b : List UInt8) (hb : b.length ≤ 1000000) (w : World) : ∃ V w', (convert 9 34 (.string ⟨b.toArray⟩)).run Tryz.prog w = .ok V w' ∧ RB w' V b ∧ (∀ a n c, V = .slice (some a) n c → w.heap.size ≤ a.block ∧ a.block < w'.heap.size) ∧ Below w.heap.size w w' := by
  refine ⟨_, _, run_bytes_of_string w 9 34 5 ⟨b.toArray⟩ Tryz.underlying9 Tryz.underlying34 Tryz.underlying5, ?_, ?_, ?_⟩
  · refine ⟨_, _, by rw [show (⟨b.toArray⟩ : ByteArray).size = b.length by simp [ByteArray.size]], ?_, ?_, (fun h => by cases h), fun i hi => ⟨_, _, rfl, ?_⟩⟩
    · exact grownCap_ge _ _ _ _
    · exact grownCap_le_maxLen _ _ _ _ (by unfold maxLen; omega)
    · have hsz : w.drew.heap.size = w.heap.size := rfl
      rw [Nat.zero_add, ← hsz, World.cell?_alloc_mark, bytesRow_at _ _ _ (by simpa using hi)]
      simp [hi]
  · intro a n c he
    cases he
    exact ⟨Nat.le_refl _, by simp⟩
  · exact ((Below.refl _ _).drew).alloc (Nat.le_refl _) _

end Go.Proofs.YtijkgdbabikojaaGreat

