/- Texts of the seat, packed: He Gj Gk. -/
import Derived.Test.YtijkgdbabikojaaP10
import Derived.Test.YtijkgdbabikojaaP19
import Derived.ProofKit
import Derived.OpenShut
import Derived.ShutString
import Derived.Test.YtijkgdbabikojaaP16
/- Events that came in. -/
namespace Go.Proofs.Ytijkgdbabikojaa
open Go.ChangeShapes Go.WideShapes Go.ChangeAt Go.RowKit
set_option linter.unusedVariables false

instance : Inhabited Ev := ⟨Ev.none⟩

theorem own : ownKnob Try.prog.godebug = none := by kernel_rfl
theorem laidOut : laidOutB Try.prog = true := by kernel_rfl
theorem Try.cells52 : Try.prog.cellsOf 52 = 4 := by kernel_rfl
theorem Try.cells50 : Try.prog.cellsOf 50 = 1 := by kernel_rfl
theorem Try.cells35 : Try.prog.cellsOf 35 = 1 := by kernel_rfl
theorem Try.cells3 : Try.prog.cellsOf 3 = 1 := by kernel_rfl

variable {H : Type} {enc : TypeId × Value → H} {w : World} {base : Nat} {spare : Nat → Bool} {held : Bool}

set_option maxRecDepth 1000000 in
theorem open_ev {fuel : Nat} {cs : List Value} {x : DataW H × List MemPlace} (h : DataW.trod enc Try.prog w base spare held fuel 52 cs = some x) :
    ∃ (e : Ev) (sv : Value), cs = [.int .i64 e.k, .int .i64 e.i, .int .i64 e.t, sv] ∧ RI w sv e.s := by
  obtain ⟨xs, n', hn', _, hcl, hxl, hfs⟩ := DataW.trod_struct Try.underlying52 h
  rw [Try.cells52] at hcl
  have hx4 : xs.length = 4 := by simpa using hxl
  match cs, hcl with
  | [v0, v1, v2, v3], _ =>
    have g0 := hfs 0 _ rfl
    have g1 := hfs 1 _ rfl
    have g2 := hfs 2 _ rfl
    have g3 := hfs 3 _ rfl
    simp [Try.cells50] at g0
    simp [Try.cells3] at g1 g2
    simp [Try.cells35] at g3
    rw [List.getElem?_eq_getElem (by omega)] at g0 g1 g2 g3
    obtain ⟨n0, e0, _, z0⟩ := DataW.trod_int Try.underlying50 g0
    obtain ⟨n1, e1, _, z1⟩ := DataW.trod_int Try.underlying3 g1
    obtain ⟨n2, e2, _, z2⟩ := DataW.trod_int Try.underlying3 g2
    obtain ⟨sv, l, e3, hl⟩ := open_i64s g3
    simp only [List.cons.injEq, and_true] at e0 e1 e2 e3
    subst e0 e1 e2 e3
    exact ⟨⟨n0, n1, n2, l⟩, v3, rfl, hl⟩

theorem open_evs {fuel : Nat} {a : Option Addr} {len cap : Nat} {x : DataW H × List MemPlace}
    (h : DataW.trod enc Try.prog w base spare held fuel 22 [.slice a len cap] = some x) : ∃ L, RE w (.slice a len cap) L := by
  rcases Go.Deep.open_slice Try.underlying22 h with ⟨hcs, _⟩ | ⟨ad, l2, c2, m, n, D, Pl, hcs, hb, hl, hm, hmm, rfl, hx⟩
  · simp at hcs
    obtain ⟨rfl, rfl, rfl⟩ := hcs
    exact ⟨[], none, 0, rfl, Nat.le_refl _, by unfold maxLen; omega, by simp⟩
  · simp at hcs
    obtain ⟨rfl, rfl, rfl⟩ := hcs
    have hlm : len ≤ m := by rw [hmm]; split <;> omega
    have each : ∀ i, i < len → ∃ t : Ev × Value, w.cell? (ad.add (i * 4)) = some (.int .i64 t.1.k) ∧ w.cell? (ad.add (i * 4 + 1)) = some (.int .i64 t.1.i) ∧ w.cell? (ad.add (i * 4 + 2)) = some (.int .i64 t.1.t) ∧ w.cell? (ad.add (i * 4 + 3)) = some t.2 ∧ RI w t.2 t.1.s := by
      intro i hi
      obtain ⟨cs', h1, h2⟩ := hx i (by omega)
      rw [Try.cells52] at h1
      obtain ⟨_, hlen, hcell⟩ := World.cells?_some h1
      obtain ⟨y, sv, rfl, q1⟩ := open_ev h2
      have k0 := hcell 0 (by omega)
      have k1 := hcell 1 (by omega)
      have k2 := hcell 2 (by omega)
      have k3 := hcell 3 (by omega)
      rw [Go.Deep.add_add] at k0 k1 k2 k3
      exact ⟨(y, sv), by simpa using k0, by simpa using k1, by simpa using k2, by simpa using k3, q1⟩
    obtain ⟨q, hq⟩ := Go.Deep.choose_lt each
    refine ⟨(List.range len).map fun i => (q i).1, some ad, cap, by simp, by simpa using hl, hm, fun i t hi => ?_⟩
    have hil : i < len := by have := (List.getElem?_eq_some_iff.1 hi).1; simpa using this
    have ht : t = (q i).1 := by simp [hil] at hi; exact hi.symm
    subst ht
    obtain ⟨b, off, spot⟩ := ad
    have hspot : spot = none := by simpa [Addr.add] using World.cell?_spot (hq 0 (by omega)).1
    subst hspot
    obtain ⟨a0, a1, a2, a3, a4⟩ := hq i hil
    rw [add_plain] at a0 a1 a2 a3
    exact ⟨b, off, _, rfl, a0, by rw [Nat.add_assoc]; exact a1, by rw [Nat.add_assoc]; exact a2, by rw [Nat.add_assoc]; exact a3, a4⟩
end Go.Proofs.Ytijkgdbabikojaa

/- The walks over branch's trim, replace, Told, Begin. -/
namespace Go.Proofs.Ytijkgdbabikojaa
open Go.RowKit
open Dk (DS DK Okay Small WR Kp cutP appendP syncP hasB hasB_true)
set_option maxRecDepth 1000000
set_option linter.unusedVariables false

/-- What trim makes of a disk. -/
def trimP (S : DS) (i n : Int) : Int × DS := if ((Dk.readP S i).length : Int) = n then (0, S) else cutP S i n
/-- What replace makes of a disk. -/
def replP (S : DS) (i : Int) (b : List UInt8) : Int × DS :=
  if (trimP S i 0).1 ≠ 0 then trimP S i 0 else if (appendP (trimP S i 0).2 i b).1 ≠ 0 then appendP (trimP S i 0).2 i b else syncP (appendP (trimP S i 0).2 i b).2 i

def lastB (S : DS) : List UInt8 := (S.fs (S.n - 1)).b
/-- What Begin makes of a disk. -/
def beginP (S : DS) (s : List UInt8) : Int × DS :=
  if 65536 < s.length then (5, S) else if (toldG (lastB S)).isSome = true then (7, S) else replP S ((S.n : Int) - 1) (textP s)

theorem okay_trim {S : DS} (h : Okay S) (i n : Int) : Okay (trimP S i n).2 := by
  unfold trimP
  split
  · exact h
  · exact Dk.okay_cut h i n
theorem small_trim {L R : Nat} {S : DS} (h : Small L R S) (i n : Int) : Small L (R + L) (trimP S i n).2 := by
  unfold trimP
  split
  · exact Dk.small_mono h (Nat.le_refl _) (by omega)
  · exact Dk.small_cut h i n

theorem cnt_dk {T : Nat → Prop} {w : World} {p : Nat} {S : DS} (hd : DK T w p S) (ho : Okay S) : Cnt (some ⟨p, 0, none⟩) S.n w := by
  obtain ⟨V, hv⟩ := hd
  exact cnt_disk hv.cnt (by have := ho.pos; omega)

theorem WR.none {T : Nat → Prop} {w w' : World} {p : Nat} {S : DS} {k : Int} (hd : DK T w p S) (hb : Below w.heap.size w w') : WR T w p (k, S) (.returned (.int .i64 k)) w' := by
  refine ⟨rfl, (hd.later hb).wide (fun k h => .inl h) (fun k h => ?_), Kp.of_below T hb⟩
  rcases h with h | h
  · exact Nat.lt_of_lt_of_le (hd.live k h) hb.size
  · exact h.2

theorem WR.then {T : Nat → Prop} {w w1 : World} {p : Nat} {r : Int × DS} {e : Ending} {w2 : World} {T1 : Nat → Prop} (hk : Kp T w w1) (hT : ∀ k, T k → k < w.heap.size) (h1 : T1 = Dk.Wid T w w1) (h : WR T1 w1 p r e w2) : WR T w p r e w2 := by
  subst h1
  obtain ⟨q1, q2, q3⟩ := h
  have hs1 := hk.size
  have hs2 := q3.size
  refine ⟨q1, q2.wide (fun k hk2 => ?_) (fun k hk2 => ?_), hk.trans q3 (fun x hx hl => ?_)⟩
  · rcases hk2 with (hk2 | hk2) | hk2
    · exact .inl hk2
    · exact .inr ⟨hk2.1, by omega⟩
    · exact .inr ⟨by omega, hk2.2⟩
  · rcases hk2 with hk2 | hk2
    · have := hT k hk2; omega
    · exact hk2.2
  · rcases hx with hx | hx
    · exact hx
    · omega

theorem trim_any (T : Nat → Prop) (w : World) (p : Nat) (S : DS) (i n : Int) (hd : DK T w p S) (ho : Okay S) (hs : Small 1000000 100000000000 S) :
    Calls Try.prog 37 #[.pointer (some ⟨p, 0, none⟩), .int .i64 i, .int .i64 n] w (WR T w p (trimP S i n)) := by
  have hs2 : Small 10000000 1000000000000 S := Dk.small_mono hs (by omega) (by omega)
  have HR : Hid _ := Dk.read_any T w p S i hd ho hs2
  have HCut : Hid (∀ wx, Below w.heap.size w wx → Calls Try.prog 62 #[.pointer (some ⟨p, 0, none⟩), .int .i64 i, .int .i64 n] wx (WR T wx p (cutP S i n))) := fun wx hb => Dk.cut_any T wx p S i n (hd.later hb) ho hs2
  have HD : Hid (DK T w p S) := hd
  have HLn : Hid ((Dk.readP S i).length ≤ 1000000) := by
    show _ ≤ _
    unfold Dk.readP
    split
    · exact hs.len _
    · simp
  obtain ⟨B, HB⟩ : ∃ B, Hid (Dk.readP S i = B) := ⟨_, rfl⟩
  have HTP : Hid (trimP S i n = if (B.length : Int) = n then (0, S) else cutP S i n) := by show _ = _; unfold trimP; rw [HB.out]
  obtain ⟨RES, HRES⟩ : ∃ RES, Hid (RES = trimP S i n) := ⟨_, rfl⟩
  rw [← HRES.out]
  rw [HTP.out] at HRES
  rw [HB.out] at HR HLn
  clear hd
  go_enter Try.func37, Try.ntmps37
  go_wp2_with fail
  refine Calls.mono HR.out ?_
  rintro e w1 ⟨⟨v, rfl, hrb, _⟩, hb1⟩
  obtain ⟨a, c, rfl, _, _, _, _⟩ := hrb
  have HB1 : Hid _ := hb1
  have hl9 : B.length ≤ 1000000 := HLn.out
  clear hb1 HR
  by_cases he : (B.length : Int) = n
  · rw [if_pos he] at HRES
    have he2 : ((B.length : Int) == n) = true := by simpa using he
    clear he HTP HB
    go_wp2_with fail
    go_ret
    rw [HRES.out]
    exact WR.none HD.out HB1.out
  · rw [if_neg he] at HRES
    have he2 : ((B.length : Int) == n) = false := by simpa using he
    clear he HTP HB
    go_wp2_with fail
    refine Calls.mono (HCut.out _ HB1.out) ?_
    rintro e w2 ⟨rfl, h2, h3⟩
    have HW : Hid (WR T w1 p (cutP S i n) (.returned (.int .i64 (cutP S i n).1)) w2) := ⟨rfl, h2, h3⟩
    clear h2 h3
    go_wp2_with fail
    go_ret
    have hl := HD.out.live
    have hb := HB1.out
    obtain ⟨q1, q2, q3⟩ := HW.out
    rw [HRES.out]
    refine ⟨rfl, q2.wide (fun k hk => ?_) (fun k hk => ?_), (Kp.of_below T hb).trans q3 (fun x hx _ => hx)⟩
    · rcases hk with hk | hk
      · exact .inl hk
      · exact .inr ⟨by have := hb.size; omega, hk.2⟩
    · have := hb.size
      have := q3.size
      rcases hk with hk | hk
      · have := hl k hk; omega
      · exact hk.2

theorem replace_any (T : Nat → Prop) (w : World) (p : Nat) (S : DS) (i : Int) (xv : Value) (l : List UInt8) (hd : DK T w p S) (ho : Okay S) (hs : Small 1000000 10000000000 S) (hx : RB w xv l) (hl : l.length ≤ 1000000) (hxT : ∀ a n c, xv = .slice (some a) n c → ¬ T a.block ∧ a.block < w.heap.size) :
    Calls Try.prog 43 #[.pointer (some ⟨p, 0, none⟩), .int .i64 i, xv] w (WR T w p (replP S i l)) := by
  have HD : Hid (DK T w p S) := hd
  have hT := hd.live
  have HTr : Hid _ := trim_any T w p S i 0 hd ho (Dk.small_mono hs (by omega) (by omega))
  have ho1 := okay_trim ho i 0
  have hs1 : Small 1000000 10001000000 (trimP S i 0).2 := small_trim hs i 0
  have ho2 := Dk.okay_append ho1 i l
  have hs2 : Small (1000000 + l.length) 10001000000 (appendP (trimP S i 0).2 i l).2 := Dk.small_append hs1 i l
  have HX : Hid (RB w xv l) := hx
  obtain ⟨xa, xc, rfl, _, _, _, _⟩ := hx
  have HRP : Hid (replP S i l = if (trimP S i 0).1 ≠ 0 then trimP S i 0 else if (appendP (trimP S i 0).2 i l).1 ≠ 0 then appendP (trimP S i 0).2 i l else syncP (appendP (trimP S i 0).2 i l).2 i) := rfl
  obtain ⟨RES, HRES⟩ : ∃ RES, Hid (RES = replP S i l) := ⟨_, rfl⟩
  rw [← HRES.out]
  rw [HRP.out] at HRES
  clear HRP hd
  generalize trimP S i 0 = R1 at *
  generalize hR2 : appendP R1.2 i l = R2 at *
  have HR2 : Hid _ := hR2
  clear hR2
  go_enter Try.func43, Try.ntmps43
  go_wp2_with fail
  refine Calls.mono HTr.out ?_
  rintro e w1 ⟨rfl, h2, h3⟩
  have HK1 : Hid _ := h3
  have HD1 : Hid _ := h2
  have HX1 : Hid (RB w1 (.slice xa l.length xc) l) := RB.stay HX.out (fun a n c he _ hlt => h3.block _ hlt (hxT a n c he).1)
  have HAp : Hid _ := Dk.append_any _ w1 p R1.2 i _ l h2 ho1 (Dk.small_mono hs1 (by omega) (by omega)) HX1.out (by omega) (fun a n c he ht => by
    have := hxT a n c he
    rcases ht with ht | ht
    · exact this.1 ht
    · omega)
  rw [HR2.out] at HAp
  clear h2 h3 HTr
  by_cases h1 : R1.1 = 0
  · rw [if_neg (by simpa using h1)] at HRES
    rw [h1]
    go_wp2_with fail
    refine Calls.mono HAp.out ?_
    rintro e w2 ⟨rfl, h2, h3⟩
    have HK2 : Hid _ := h3
    have HD2 : Hid _ := h2
    have HSy : Hid _ := Dk.sync_any _ w2 p R2.2 i h2 ho2 (Dk.small_mono hs2 (by omega) (by omega))
    clear h2 h3 HAp
    by_cases h4 : R2.1 = 0
    · rw [if_neg (by simpa using h4)] at HRES
      rw [h4]
      go_wp2_with fail
      refine Calls.mono HSy.out ?_
      rintro e w3 ⟨rfl, h2, h3⟩
      have HW : Hid (WR _ w2 p (syncP R2.2 i) (.returned (.int .i64 (syncP R2.2 i).1)) w3) := ⟨rfl, h2, h3⟩
      clear h2 h3 HSy
      go_wp2_with fail
      go_ret
      rw [HRES.out]
      exact WR.then HK1.out hT rfl (WR.then HK2.out (Dk.DK.live HD1.out) rfl HW.out)
    · rw [if_pos (by simpa using h4)] at HRES
      have h5 : (R2.1 != 0) = true := by simpa using h4
      have HW : Hid (WR _ w1 p R2 (.returned (.int .i64 R2.1)) w2) := ⟨rfl, HD2.out, HK2.out⟩
      clear h4 HSy
      go_wp2_with fail
      go_ret
      rw [HRES.out]
      exact WR.then HK1.out hT rfl HW.out
  · rw [if_pos (by simpa using h1)] at HRES
    have h5 : (R1.1 != 0) = true := by simpa using h1
    clear h1 HAp
    go_wp2_with fail
    go_ret
    rw [HRES.out]
    exact ⟨rfl, HD1.out, HK1.out⟩
end Go.Proofs.Ytijkgdbabikojaa

/- The walks over branch.Told and Begin. -/
namespace Go.Proofs.Ytijkgdbabikojaa
open Go.RowKit
open Dk (DS DK Okay Small WR Kp cutP appendP syncP hasB hasB_true)
set_option maxRecDepth 1000000
set_option linter.unusedVariables false

theorem last_read {S : DS} (ho : Okay S) : Dk.readP S ((S.n : Int) - 1) = lastB S := by
  have := ho.pos
  unfold Dk.readP lastB
  have h1 : hasB S ((S.n : Int) - 1) = true := by unfold Dk.hasB; simp; omega
  rw [if_pos h1]
  have : ((S.n : Int) - 1).toNat = S.n - 1 := by omega
  rw [this]

def tE (o : Option (List UInt8)) : Int := if o.isSome = true then 0 else 6

theorem told_any (T : Nat → Prop) (w : World) (p : Nat) (S : DS) (hd : DK T w p S) (ho : Okay S) (hs : Small 1000000 1000000000000 S) (hl : (lastB S).length ≤ 100000) :
    Calls Try.prog 19 #[.pointer (some ⟨p, 0, none⟩)] w fun e w' => e = .returned (.tuple #[tV (toldG (lastB S)), .int .i64 (tE (toldG (lastB S)))]) ∧ Below w.heap.size w w' := by
  have hfew := ho.few
  have hpos := ho.pos
  have HM : Hid _ := made_br _ _ w (cnt_dk hd ho) hfew
  have HLa : Hid (∀ wx, Below w.heap.size w wx → Calls Try.prog 44 #[.pointer (some ⟨p, 0, none⟩)] wx fun e w' => e = .returned (.int .i64 ((S.n : Int) - 1)) ∧ Below wx.heap.size wx w') := fun wx hb => last_any _ _ wx ((cnt_dk hd ho).later hb) hfew
  have HRd : Hid (∀ wx, Below w.heap.size w wx → Calls Try.prog 11 #[.pointer (some ⟨p, 0, none⟩), .int .i64 ((S.n : Int) - 1)] wx fun e w' => (∃ v, e = .returned v ∧ Dk.RBf wx.heap.size w' v (lastB S)) ∧ Below wx.heap.size wx w') := fun wx hb => by
    have := Dk.read_any T wx p S ((S.n : Int) - 1) (hd.later hb) ho (Dk.small_mono hs (by omega) (by omega))
    rw [last_read ho] at this
    exact this
  have HFT : Hid (∀ (v : Value) (wx : World), RB wx v (lastB S) → Calls Try.prog 45 #[v] wx fun e w' => e = .returned (.tuple #[tV (toldG (lastB S)), tB (toldG (lastB S))]) ∧ Below wx.heap.size wx w') := fun v wx h => framesText_any v _ wx h hl
  have hd0 : decide (0 < S.n) = true := decide_eq_true (by omega)
  rw [hd0] at HM
  generalize hB : lastB S = B at *
  obtain ⟨o, HO⟩ : ∃ o, Hid (toldG B = o) := ⟨_, rfl⟩
  rw [HO.out] at HFT ⊢
  generalize hN : (S.n : Int) - 1 = N at *
  clear hd hB hN hd0
  go_enter Try.func19, Try.ntmps19
  go_wp2_with fail
  refine Calls.mono HM.out ?_
  rintro e w1 ⟨rfl, hb1⟩
  have HB1 : Hid _ := hb1
  have H1 : Hid _ := HLa.out w1 hb1
  clear hb1 HM
  go_wp2_with fail
  refine Calls.mono H1.out ?_
  rintro e w2 ⟨rfl, hb2⟩
  have HB2 : Hid _ := HB1.out.trans (hb2.mono HB1.out.size)
  have H2 : Hid _ := HRd.out w2 HB2.out
  clear hb2 H1
  go_wp2_with fail
  refine Calls.mono H2.out ?_
  rintro e w3 ⟨⟨v, rfl, hrb, _⟩, hb3⟩
  have HB3 : Hid _ := HB2.out.trans (hb3.mono HB2.out.size)
  have H3 : Hid _ := HFT.out v w3 hrb
  obtain ⟨a, c, rfl, _, _, _, _⟩ := hrb
  clear hb3 H2
  go_wp2_with fail
  refine Calls.mono H3.out ?_
  rintro e w4 ⟨rfl, hb4⟩
  have HB4 : Hid _ := HB3.out.trans (hb4.mono HB3.out.size)
  clear hb4 H3
  cases o with
  | none =>
    unfold tB tV
    simp only [Option.isSome_none, Option.getD_none]
    go_wp2_with fail
    go_ret2
    exact ⟨rfl, HB4.out⟩
  | some s =>
    unfold tB tV
    simp only [Option.isSome_some, Option.getD_some]
    go_wp2_with fail
    go_ret2
    exact ⟨rfl, HB4.out⟩

theorem told_nil (w : World) : Calls Try.prog 19 #[.pointer none] w fun e w' => e = .returned (.tuple #[.string ⟨#[]⟩, .int .i64 1]) ∧ Below w.heap.size w w' := by
  have HM : Hid _ := made_br none 0 w (cnt_nil w) (by omega)
  go_enter Try.func19, Try.ntmps19
  go_wp2_with fail
  refine Calls.mono HM.out ?_
  rintro e w1 ⟨rfl, hb1⟩
  have HB1 : Hid _ := hb1
  clear hb1 HM
  go_wp2_with fail
  go_ret2
  exact ⟨rfl, HB1.out⟩

theorem begin_nil (s : ByteArray) (w : World) : Calls Try.prog 18 #[.pointer none, .string s] w fun e w' => e = .returned (.int .i64 1) ∧ Below w.heap.size w w' := by
  have HM : Hid _ := made_br none 0 w (cnt_nil w) (by omega)
  go_enter Try.func18, Try.ntmps18
  go_wp2_with fail
  refine Calls.mono HM.out ?_
  rintro e w1 ⟨rfl, hb1⟩
  have HB1 : Hid _ := hb1
  clear hb1 HM
  go_wp2_with fail
  go_ret
  exact ⟨rfl, HB1.out⟩

theorem keep_nil (i n : Int) (w : World) : Calls Try.prog 20 #[.pointer none, .int .i64 i, .int .i64 n] w fun e w' => e = .returned (.int .i64 1) ∧ Below w.heap.size w w' := by
  have HM : Hid _ := made_br none 0 w (cnt_nil w) (by omega)
  refine (callsIn_wide (n := 0)).1 ?_
  refine callsIn_of_wp_marks Try.func20 rfl trivial ?_ rfl
  simp only [Try.ntmps20, List.size_toArray, List.length_cons, List.length_nil, Nat.reduceAdd, Nat.reduceSub, Array.replicate_succ, Array.replicate_zero, List.push_toArray, List.append_toArray, List.nil_append, List.cons_append]
  gi_wp2
  refine ⟨trivial, rfl, (callsIn_wide.2 HM.out).mono ?_⟩
  rintro e w1 ⟨rfl, hb1⟩
  have HB1 : Hid _ := hb1
  clear hb1 HM
  gi_wp2
  refine ⟨.int .i64 1, ?_, rfl, HB1.out⟩
  simp [results, Try.f20, go_sem]

theorem open_nil (w : World) : Calls Try.prog 13 #[.pointer none] w fun e w' => e = .returned (.tuple #[.slice none 0 0, .int .i64 1]) ∧ Below w.heap.size w w' := by
  have HM : Hid _ := made_br none 0 w (cnt_nil w) (by omega)
  go_enter Try.func13, Try.ntmps13
  go_wp2_with fail
  refine Calls.mono HM.out ?_
  rintro e w1 ⟨rfl, hb1⟩
  have HB1 : Hid _ := hb1
  clear hb1 HM
  go_wp2_with fail
  go_ret2
  exact ⟨rfl, HB1.out⟩

theorem append_nil (k i t : Int) (sv : Value) (j : Int) (hsv : sv.oneCell' = true) (w : World) : Calls Try.prog 21 #[.pointer none, .int .i64 j, .agg #[.int .i64 k, .int .i64 i, .int .i64 t, sv]] w fun e w' => e = .returned (.int .i64 1) ∧ Below w.heap.size w w' := by
  have hb0 : Below w.heap.size w (w.alloc (.cells #[.int .i64 k, .int .i64 i, .int .i64 t, sv] 52)) := (Below.refl _ _).alloc (Nat.le_refl _) _
  have HM : Hid _ := made_br none 0 (w.alloc (.cells #[.int .i64 k, .int .i64 i, .int .i64 t, sv] 52)) (cnt_nil _) (by omega)
  go_enter Try.func21, Try.ntmps21
  go_wp2_with fail
  refine Calls.mono HM.out ?_
  rintro e w1 ⟨rfl, hb1⟩
  have HB1 : Hid _ := hb0.trans (hb1.mono hb0.size)
  clear hb1 HM hb0
  go_wp2_with fail
  go_ret
  exact ⟨rfl, HB1.out⟩

theorem bytes_str (b : List UInt8) (hb : b.length ≤ 1000000) (w : World) : ∃ V w', (convert 9 30 (.string ⟨b.toArray⟩)).run Try.prog w = .ok V w' ∧ RB w' V b ∧ (∀ a n c, V = .slice (some a) n c → w.heap.size ≤ a.block ∧ a.block < w'.heap.size) ∧ Below w.heap.size w w' := by
  refine ⟨_, _, run_bytes_of_string w 9 30 5 ⟨b.toArray⟩ Try.underlying9 Try.underlying30 Try.underlying5, ?_, ?_, ?_⟩
  · refine ⟨_, _, by rw [show (⟨b.toArray⟩ : ByteArray).size = b.length by simp [ByteArray.size]], ?_, ?_, (fun h => by cases h), fun i hi => ⟨_, _, rfl, ?_⟩⟩
    · exact grownCap_ge _ _ _ _
    · exact grownCap_le_maxLen _ _ _ _ (by unfold maxLen; omega)
    · have hsz : w.drew.heap.size = w.heap.size := rfl
      rw [Nat.zero_add, ← hsz, World.cell?_alloc_mark, bytesRow_at _ _ _ (by simpa using hi)]
      simp [hi]
  · intro a n c he
    cases he
    exact ⟨Nat.le_refl _, by simp⟩
  · exact ((Below.refl _ _).drew).alloc (Nat.le_refl _) _

end Go.Proofs.Ytijkgdbabikojaa

