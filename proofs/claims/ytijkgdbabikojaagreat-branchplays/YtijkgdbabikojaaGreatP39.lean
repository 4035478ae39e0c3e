/- Texts of the seat, packed: Wl He Ij Ik. -/
import Derived.Test.YtijkgdbabikojaaGreatP13
import Derived.Deep.Strs
import Derived.ProofKit
import Derived.OpenShut
import Derived.ShutString
import Derived.ChangeOld
import Derived.Test.YtijkgdbabikojaaGreatP22
import Derived.Test.YtijkgdbabikojaaGreatP38
/- What came in: how it reads. -/
namespace Go.Proofs.YtijkgdbabikojaaGreat
set_option maxRecDepth 1000000
open Go.RowKit Go.ChangeShapes Go.WideShapes Go.ChangeAt
set_option linter.unusedVariables false

variable {H : Type} {enc : TypeId × Value → H} {w : World} {base : Nat} {spare : Nat → Bool} {held : Bool}

theorem reads_u8s {a : Addr} {len cap : Nat} {zs : List Int} (h : ∀ i, i < zs.length → w.cell? (a.add i) = some (.int .u8 (zs.getD i 0))) (hw : ∀ n ∈ zs, (Lit.int .u8 n).wf = true) (hl : len ≤ zs.length) (hc : len ≤ cap) (hm : cap ≤ maxLen) : RB w (.slice (some a) len cap) ((zs.take len).map fun z => UInt8.ofNat z.toNat) := by
  have hlen : ((zs.take len).map fun z => UInt8.ofNat z.toNat).length = len := by simp; omega
  refine ⟨some a, cap, by rw [hlen], by rw [hlen]; exact hc, hm, (fun h => by cases h), fun i hi => ?_⟩
  rw [hlen] at hi
  have hz : i < zs.length := by omega
  have hwf := hw zs[i] (List.getElem_mem hz)
  have hwf2 : 0 ≤ zs[i] ∧ zs[i] ≤ 255 := by simpa [Lit.wf, IntKind.min, IntKind.max, IntKind.signed, IntKind.bits] using hwf
  obtain ⟨b, off, rfl, hcc⟩ := ints_at h (by omega)
  refine ⟨b, off, rfl, ?_⟩
  rw [hcc i (by omega)]
  have e1 : zs.getD i 0 = zs[i] := by simp [hz]
  have e2 : ((zs.take len).map fun z => UInt8.ofNat z.toNat).getD i 0 = UInt8.ofNat zs[i].toNat := by simp [hz, hi]
  rw [e1, e2, u8_nat, Nat.mod_eq_of_lt (by omega)]
  congr 2
  omega

theorem open_u8s {fuel : Nat} {cs : List Value} {x : DataW H × List MemPlace} (h : DataW.trod enc Tryz.prog w base spare held fuel 34 cs = some x) : ∃ v l, cs = [v] ∧ RB w v l := by
  rcases open_ints Tryz.underlying34 Tryz.underlying5 (by kernel_rfl) h with ⟨hcs, _⟩ | ⟨x, l, c, zs, hcs, _, hl, hm, hz, _, hcell, hwz⟩
  · exact ⟨_, [], hcs, RB.nil w⟩
  · exact ⟨_, _, hcs, reads_u8s hcell hwz (by rw [hz]; split <;> omega) hl hm⟩

theorem open_i64s {fuel : Nat} {cs : List Value} {x : DataW H × List MemPlace} (h : DataW.trod enc Tryz.prog w base spare held fuel 31 cs = some x) : ∃ v l, cs = [v] ∧ RI w v l := by
  rcases open_ints Tryz.underlying31 Tryz.underlying3 (by kernel_rfl) h with ⟨hcs, _⟩ | ⟨x, l, c, zs, hcs, _, hl, hm, hz, _, hcell, hwz⟩
  · exact ⟨_, [], hcs, RI.nil w⟩
  · have hlz : l ≤ zs.length := by rw [hz]; split <;> omega
    have hlen : (zs.take l).length = l := by simp; omega
    refine ⟨_, zs.take l, hcs, ⟨some x, c, by rw [hlen], by rw [hlen]; exact hl, hm, fun i hi => ?_⟩⟩
    rw [hlen] at hi
    obtain ⟨b, off, rfl, hcc⟩ := ints_at hcell (by omega)
    refine ⟨b, off, rfl, ?_⟩
    rw [hcc i (by omega)]
    congr 2
    simp only [List.getD_eq_getElem?_getD, List.getElem?_take]
    rw [if_pos hi]

/-- A part of a slice of bytes. -/
theorem slice_part {w : World} {a : Option Addr} {n ca : Nat} {l : List UInt8} (h : RB w (.slice a n ca) l) (lo hi : Nat) (h1 : lo ≤ hi) (h2 : hi ≤ l.length) :
    ∃ V, RB w V ((l.take hi).drop lo) ∧ ∀ wx : World, (Instr.sliceAt 34 (.slice a n ca) (some (.int .i64 lo)) (some (.int .i64 hi)) none).run Tryz.prog wx = .ok V wx := by
  have h0 := h
  obtain ⟨a', ca', he, h3, _, _⟩ := h0
  simp only [Value.slice.injEq] at he
  obtain ⟨rfl, rfl, rfl⟩ := he
  have hs := h.sub lo hi ca h1 h2 (by omega) (Nat.le_refl _)
  refine ⟨_, hs, fun wx => ?_⟩
  rw [run_sliceAt_slice wx 34 _ _ _ _ Tryz.underlying34, run_slice_lh wx 34 a l.length ca Tryz.underlying34 .i64 .i64 lo hi (by omega) (by omega) (by omega)]
  have : (sizeOf (Tryz.prog.elem 34)).run Tryz.prog wx = .ok 1 wx := by kernel_rfl
  rw [this]
  simp
end Go.Proofs.YtijkgdbabikojaaGreat

/- Events that came in. -/
namespace Go.Proofs.YtijkgdbabikojaaGreat
open Go.ChangeShapes Go.WideShapes Go.ChangeAt Go.RowKit
set_option linter.unusedVariables false

instance : Inhabited Ev := ⟨Ev.none⟩

theorem own : ownKnob Tryz.prog.godebug = none := by kernel_rfl
theorem laidOut : laidOutB Tryz.prog = true := by kernel_rfl
theorem Tryz.cells33 : Tryz.prog.cellsOf 33 = 4 := by kernel_rfl
theorem Tryz.cells30 : Tryz.prog.cellsOf 30 = 1 := by kernel_rfl
theorem Tryz.cells31 : Tryz.prog.cellsOf 31 = 1 := by kernel_rfl
theorem Tryz.cells3 : Tryz.prog.cellsOf 3 = 1 := by kernel_rfl

variable {H : Type} {enc : TypeId × Value → H} {w : World} {base : Nat} {spare : Nat → Bool} {held : Bool}

set_option maxRecDepth 1000000 in
theorem open_ev {fuel : Nat} {cs : List Value} {x : DataW H × List MemPlace} (h : DataW.trod enc Tryz.prog w base spare held fuel 33 cs = some x) :
    ∃ (e : Ev) (sv : Value), cs = [.int .i64 e.k, .int .i64 e.i, .int .i64 e.t, sv] ∧ RI w sv e.s := by
  obtain ⟨xs, n', hn', _, hcl, hxl, hfs⟩ := DataW.trod_struct Tryz.underlying33 h
  rw [Tryz.cells33] at hcl
  have hx4 : xs.length = 4 := by simpa using hxl
  match cs, hcl with
  | [v0, v1, v2, v3], _ =>
    have g0 := hfs 0 _ rfl
    have g1 := hfs 1 _ rfl
    have g2 := hfs 2 _ rfl
    have g3 := hfs 3 _ rfl
    simp [Tryz.cells30] at g0
    simp [Tryz.cells3] at g1 g2
    simp [Tryz.cells31] at g3
    rw [List.getElem?_eq_getElem (by omega)] at g0 g1 g2 g3
    obtain ⟨n0, e0, _, z0⟩ := DataW.trod_int Tryz.underlying30 g0
    obtain ⟨n1, e1, _, z1⟩ := DataW.trod_int Tryz.underlying3 g1
    obtain ⟨n2, e2, _, z2⟩ := DataW.trod_int Tryz.underlying3 g2
    obtain ⟨sv, l, e3, hl⟩ := open_i64s g3
    simp only [List.cons.injEq, and_true] at e0 e1 e2 e3
    subst e0 e1 e2 e3
    exact ⟨⟨n0, n1, n2, l⟩, v3, rfl, hl⟩

theorem open_evs {fuel : Nat} {a : Option Addr} {len cap : Nat} {x : DataW H × List MemPlace}
    (h : DataW.trod enc Tryz.prog w base spare held fuel 41 [.slice a len cap] = some x) : ∃ L, RE w (.slice a len cap) L := by
  rcases Go.Deep.open_slice Tryz.underlying41 h with ⟨hcs, _⟩ | ⟨ad, l2, c2, m, n, D, Pl, hcs, hb, hl, hm, hmm, rfl, hx⟩
  · simp at hcs
    obtain ⟨rfl, rfl, rfl⟩ := hcs
    exact ⟨[], none, 0, rfl, Nat.le_refl _, by unfold maxLen; omega, by simp⟩
  · simp at hcs
    obtain ⟨rfl, rfl, rfl⟩ := hcs
    have hlm : len ≤ m := by rw [hmm]; split <;> omega
    have each : ∀ i, i < len → ∃ t : Ev × Value, w.cell? (ad.add (i * 4)) = some (.int .i64 t.1.k) ∧ w.cell? (ad.add (i * 4 + 1)) = some (.int .i64 t.1.i) ∧ w.cell? (ad.add (i * 4 + 2)) = some (.int .i64 t.1.t) ∧ w.cell? (ad.add (i * 4 + 3)) = some t.2 ∧ RI w t.2 t.1.s := by
      intro i hi
      obtain ⟨cs', h1, h2⟩ := hx i (by omega)
      rw [Tryz.cells33] at h1
      obtain ⟨_, hlen, hcell⟩ := World.cells?_some h1
      obtain ⟨y, sv, rfl, q1⟩ := open_ev h2
      have k0 := hcell 0 (by omega)
      have k1 := hcell 1 (by omega)
      have k2 := hcell 2 (by omega)
      have k3 := hcell 3 (by omega)
      rw [Go.Deep.add_add] at k0 k1 k2 k3
      exact ⟨(y, sv), by simpa using k0, by simpa using k1, by simpa using k2, by simpa using k3, q1⟩
    obtain ⟨q, hq⟩ := Go.Deep.choose_lt each
    refine ⟨(List.range len).map fun i => (q i).1, some ad, cap, by simp, by simpa using hl, hm, fun i t hi => ?_⟩
    have hil : i < len := by have := (List.getElem?_eq_some_iff.1 hi).1; simpa using this
    have ht : t = (q i).1 := by simp [hil] at hi; exact hi.symm
    subst ht
    obtain ⟨b, off, spot⟩ := ad
    have hspot : spot = none := by simpa [Addr.add] using World.cell?_spot (hq 0 (by omega)).1
    subst hspot
    obtain ⟨a0, a1, a2, a3, a4⟩ := hq i hil
    rw [add_plain] at a0 a1 a2 a3
    exact ⟨b, off, _, rfl, a0, by rw [Nat.add_assoc]; exact a1, by rw [Nat.add_assoc]; exact a2, by rw [Nat.add_assoc]; exact a3, a4⟩
end Go.Proofs.YtijkgdbabikojaaGreat

/- The walk over BranchPlays; calls that came in. -/
namespace Go.Proofs.YtijkgdbabikojaaGreat
open Go.RowKit
open Dk (DS DK Okay Small RV RR WR Wid Kp cutP appendP syncP hasB hasB_true)
set_option maxRecDepth 1000000
set_option linter.unusedVariables false

theorem begun_lp (room : Nat) (w : World) (hr : room ≤ 20000) :
    Calls Tryz.prog 6 #[.int .i64 room] w fun e w' => ∃ p r g, e = .returned (.tuple #[.pointer (some ⟨p, 0, none⟩), .pointer (some ⟨r, 0, none⟩)]) ∧ LP w p r g (Dk.newP 3 room) w' := by
  have HN : Hid _ := Dk.new_yes 3 room w (by omega) (by omega) (by omega)
  have HRN : Hid (∀ wx, _) := fun wx => Dk.rnew_yes 3 room wx (by omega) (by omega) (by omega)
  go_enter Tryz.func6, Tryz.ntmps6
  go_wp2_with fail
  refine Calls.mono HN.out ?_
  rintro e w1 ⟨rfl, hd1, hb1⟩
  have HD1 : Hid _ := hd1
  have HB1 : Hid _ := hb1
  have H1 : Hid _ := HRN.out w1
  clear hd1 hb1 HN HRN
  go_wp2_with fail
  refine Calls.mono H1.out ?_
  rintro e w2 ⟨rfl, hv2, hb2⟩
  have HB2 : Hid _ := HB1.out.trans (hb2.mono HB1.out.size)
  have HD2 : Hid _ := DK.later HD1.out hb2
  have HV2 : Hid _ := hv2
  have HS1 : Hid (w.heap.size ≤ w1.heap.size) := HB1.out.size
  have HLV : Hid _ := Dk.DK.live HD1.out
  clear hb2 hv2 H1
  go_wp2_with fail
  go_ret2
  have hs1 := HS1.out
  refine ⟨_, _, _, rfl, ⟨⟨_, HD2.out, fun k hk => ?_⟩, HV2.out, by omega, by omega, HB2.out, ⟨rfl, Dk.okay_new (by omega) (by omega), ?_⟩⟩⟩
  · have hl := HLV.out k hk
    exact ⟨by omega, by omega, by omega⟩
  · show room + 0 + 0 + 0 ≤ 20000
    omega

set_option maxHeartbeats 4000000 in
theorem plays_walk (L : List Ac) (v : Value) (room : Int) (w : World) (hx : RAs w v L) (hfit : ∀ x ∈ L, x.n ≤ 9223372036854775807) :
    Calls Tryz.prog 3 #[v, .int .i64 room] w fun e w' => e = .returned (.bool true) ∧ Below w.heap.size w w' := by
  have HLi : Hid (∀ wx, Calls Tryz.prog 5 #[] wx fun e w' => e = .returned (.bool true) ∧ Below wx.heap.size wx w') := lives_any
  have HFe : Hid _ := few_any v L w hx
  have HFT : Hid _ := hfit
  obtain ⟨a, ca, rfl, hcc, _, hca⟩ := hx
  have HCA : Hid _ := hca
  obtain ⟨q, HQ⟩ : ∃ q, Hid (fewP L = q) := ⟨_, rfl⟩
  rw [HQ.out] at HFe
  obtain ⟨n, HN⟩ : ∃ n, Hid (L.length = n) := ⟨_, rfl⟩
  rw [HN.out] at HFe hcc ⊢
  clear hca hfit
  by_cases hno : q = false ∨ room < 0 ∨ 20000 < room
  · have K1 : Hid _ := HLi.out w
    have hc : q = false ∨ (q = true ∧ room < 0) ∨ (q = true ∧ ¬ room < 0 ∧ 20000 < room) := by
      cases q with
      | false => exact .inl rfl
      | true =>
        by_cases h0 : room < 0
        · exact .inr (.inl ⟨rfl, h0⟩)
        · refine .inr (.inr ⟨rfl, h0, ?_⟩)
          rcases hno with h | h | h
          · cases h
          · omega
          · exact h
    clear hno
    go_enter Tryz.func3, Tryz.ntmps3
    go_wp2_with fail
    refine Calls.mono HFe.out ?_
    rintro e w1 ⟨rfl, h1⟩
    obtain rfl := h1.symm
    clear HFe
    rcases hc with rfl | ⟨rfl, c1⟩ | ⟨rfl, c1, c2⟩
    all_goals
      go_wp2_with fail
      refine Calls.mono K1.out ?_
      rintro e w2 ⟨rfl, hb2⟩
      have HB2 : Hid _ := hb2
      clear hb2 K1
      go_wp2_with fail
      go_ret
      exact ⟨rfl, HB2.out⟩
  · obtain rfl : q = true := by cases q with | false => exact absurd (.inl rfl) hno | true => rfl
    obtain ⟨rm, rfl⟩ : ∃ rm : Nat, room = (rm : Int) := ⟨room.toNat, by omega⟩
    have c1 : ¬ (rm : Int) < 0 := by omega
    have c2 : ¬ (20000 : Int) < (rm : Int) := by omega
    have K1 : Hid _ := begun_lp rm w (by omega)
    have hn : n ≤ 100 := by
      have := HQ.out
      unfold fewP at this
      rw [Bool.and_eq_true, decide_eq_true_eq] at this
      rw [← HN.out]
      exact this.1
    have HOA : Hid (∀ x ∈ L, okA x = true) := by
      have := HQ.out
      unfold fewP at this
      rw [Bool.and_eq_true, List.all_eq_true] at this
      exact this.2
    clear hno
    go_enter Tryz.func3, Tryz.ntmps3
    go_wp2_with fail
    refine Calls.mono HFe.out ?_
    rintro e w1 ⟨rfl, h1⟩
    obtain rfl := h1.symm
    clear HFe
    go_wp2_with fail
    refine Calls.mono K1.out ?_
    rintro e w2 ⟨p, r, g, rfl, hlp⟩
    have HL0 : Hid (∃ S, LP w p r g S w2) := ⟨_, hlp⟩
    clear hlp K1
    have x1 : decide ((rm : Int) < 0) = false := decide_eq_false (by omega)
    have x2 : decide ((20000 : Int) < (rm : Int)) = false := decide_eq_false (by omega)
    have x3 : decide (20000 < rm) = false := decide_eq_false (by omega)
    go_wp2_with fail
    go_loopw [7] (fun iv wr => ∃ (k : Nat), k ≤ n ∧ iv = .int .i64 k ∧ Hid (∃ S, LP w p r g S wr)) (fun iv _ => n - (intOf iv).toNat)
    case atStart => exact ⟨0, Nat.zero_le _, rfl, HL0⟩
    case round =>
      obtain ⟨k, hk, rfl, HI⟩ := hrel
      obtain ⟨S, hlp⟩ := HI.out
      have HLP : Hid _ := hlp
      by_cases hlt : k < n
      · have hki : (k : Int) < (n : Int) := by omega
        have hlt2 : k < L.length := by rw [HN.out]; exact hlt
        obtain ⟨b1, o1, sv, bv, kv, rfl, hcs, hs, hb, hkp⟩ := HCA.out k L[k] (List.getElem?_eq_getElem hlt2)
        have hmem : L[k] ∈ L := List.getElem_mem hlt2
        have K2 : Hid _ := step_any w wr p r g S L[k] sv bv kv hlp hs hb hkp (HOA.out _ hmem) (HFT.out _ hmem)
        unfold acV at K2
        have hbel := hlp.bel
        generalize L[k] = x at *
        have d0 : wr.cell? ⟨b1, o1 + k * 9, none⟩ = some (.int .i64 x.kind) := cell_later hbel (hcs 0 _ rfl)
        have d1 : wr.cell? ⟨b1, o1 + k * 9 + 1, none⟩ = some (.int .i64 x.i) := cell_later hbel (hcs 1 _ rfl)
        have d2 : wr.cell? ⟨b1, o1 + k * 9 + 2, none⟩ = some (.int .i64 x.n) := cell_later hbel (hcs 2 _ rfl)
        have d3 : wr.cell? ⟨b1, o1 + k * 9 + 3, none⟩ = some (.int .i64 x.e.k) := cell_later hbel (hcs 3 _ rfl)
        have d4 : wr.cell? ⟨b1, o1 + k * 9 + 4, none⟩ = some (.int .i64 x.e.i) := cell_later hbel (hcs 4 _ rfl)
        have d5 : wr.cell? ⟨b1, o1 + k * 9 + 5, none⟩ = some (.int .i64 x.e.t) := cell_later hbel (hcs 5 _ rfl)
        have d6 : wr.cell? ⟨b1, o1 + k * 9 + 6, none⟩ = some sv := cell_later hbel (hcs 6 _ rfl)
        have d7 : wr.cell? ⟨b1, o1 + k * 9 + 7, none⟩ = some bv := cell_later hbel (hcs 7 _ rfl)
        have d8 : wr.cell? ⟨b1, o1 + k * 9 + 8, none⟩ = some kv := cell_later hbel (hcs 8 _ rfl)
        obtain ⟨sa, sc, rfl, _, _, _⟩ := hs
        obtain ⟨ba, bc, rfl, _, _, _, _⟩ := hb
        obtain ⟨ka, kc, rfl, _, _, _⟩ := hkp
        generalize stepP S x = S2 at *
        have htm : (k : Int).tmod 5 = ((k % 5 : Nat) : Int) := rfl
        clear hcs hlp hbel hmem
        by_cases h5 : k % 5 = 4
        · have hm : ((k : Int).tmod 5 == 4) = true := by rw [htm, h5]; rfl
          have hm2 : (k : Int).tmod 5 = 4 := by rw [htm, h5]; rfl
          clear htm h5
          go_wp2_with fail
          refine Calls.mono K2.out ?_
          rintro e w3 ⟨rfl, hl3⟩
          have HL3 : Hid _ := hl3
          have K3 : Hid _ := alike_any w w3 p r g S2 hl3
          clear hl3 K2 d0 d1 d2 d3 d4 d5 d6 d7 d8
          go_wp2_with fail
          refine Calls.mono K3.out ?_
          rintro e w4 ⟨rfl, hb4⟩
          have HL4 : Hid (∃ S, LP w p r g S w4) := ⟨_, LP.later HL3.out hb4⟩
          clear hb4 K3
          go_wp2_with fail
          go_roundw
          case rel => exact ⟨k + 1, by omega, by go_num, HL4⟩
          case measure => simp [intOf]; omega
        · have hm : ((k : Int).tmod 5 == 4) = false := by rw [htm]; simp; omega
          have hm2 : ¬ (k : Int).tmod 5 = 4 := by rw [htm]; omega
          have hm3 : ((((k % 5 : Nat) : Int)) == 4) = false := by simp; omega
          have hm4 : (k % 5 == 4) = false := by simpa using h5
          have hm5 : (((k : Int) % 5) == 4) = false := by simp; omega
          clear htm h5
          go_wp2_with fail
          refine Calls.mono K2.out ?_
          rintro e w3 ⟨rfl, hl3⟩
          have HL3 : Hid (∃ S, LP w p r g S w3) := ⟨_, hl3⟩
          clear hl3 K2 d0 d1 d2 d3 d4 d5 d6 d7 d8
          go_wp2_with fail
          go_roundw
          case rel => exact ⟨k + 1, by omega, by go_num, HL3⟩
          case measure => simp [intOf]; omega
      · have hkn : k = n := by omega
        subst hkn
        have K3 : Hid _ := alike_any w wr p r g S hlp
        clear hlp
        go_wp2_with fail
        refine Calls.mono K3.out ?_
        rintro e w4 ⟨rfl, hb4⟩
        have HB4 : Hid (Below w.heap.size w w4) := HLP.out.bel.trans (hb4.mono HLP.out.bel.size)
        have K4 : Hid _ := HLi.out w4
        clear hb4 K3
        go_wp2_with fail
        refine Calls.mono K4.out ?_
        rintro e w5 ⟨rfl, hb5⟩
        have HB5 : Hid (Below w.heap.size w w5) := HB4.out.trans (hb5.mono HB4.out.size)
        clear hb5 K4
        go_wp2_with fail
        go_ret
        exact ⟨rfl, HB5.out⟩
end Go.Proofs.YtijkgdbabikojaaGreat

/- Calls that came in. -/
namespace Go.Proofs.YtijkgdbabikojaaGreat
open Go.ChangeShapes Go.WideShapes Go.ChangeAt Go.RowKit
set_option linter.unusedVariables false

theorem Tryz.cells36 : Tryz.prog.cellsOf 36 = 9 := by kernel_rfl
theorem Tryz.cells34 : Tryz.prog.cellsOf 34 = 1 := by kernel_rfl

instance : Inhabited Ac := ⟨⟨0, 0, 0, Ev.none, [], []⟩⟩

/-- Calls in memory, whose numbers fit. -/
def RAcF (w : World) (v : Value) (L : List Ac) : Prop := RAs w v L ∧ ∀ x ∈ L, x.n ≤ 9223372036854775807

variable {H : Type} {enc : TypeId × Value → H} {w : World} {base : Nat} {spare : Nat → Bool} {held : Bool}

set_option maxRecDepth 1000000 in
theorem open_act {fuel : Nat} {cs : List Value} {x : DataW H × List MemPlace} (h : DataW.trod enc Tryz.prog w base spare held fuel 36 cs = some x) :
    ∃ (y : Ac) (sv bv kv : Value), cs = (acV y sv bv kv).toList ∧ RI w sv y.e.s ∧ RB w bv y.b ∧ RI w kv y.keep ∧ y.n ≤ 9223372036854775807 := by
  obtain ⟨xs, n', hn', _, hcl, hxl, hfs⟩ := DataW.trod_struct Tryz.underlying36 h
  rw [Tryz.cells36] at hcl
  have hx6 : xs.length = 6 := by simpa using hxl
  match cs, hcl with
  | [v0, v1, v2, v3, v4, v5, v6, v7, v8], _ =>
    have g0 := hfs 0 _ rfl
    have g1 := hfs 1 _ rfl
    have g2 := hfs 2 _ rfl
    have g3 := hfs 3 _ rfl
    have g4 := hfs 4 _ rfl
    have g5 := hfs 5 _ rfl
    simp [Tryz.cells3] at g0 g1 g2
    simp [Tryz.cells33] at g3
    simp [Tryz.cells34] at g4
    simp [Tryz.cells31] at g5
    rw [List.getElem?_eq_getElem (by omega)] at g0 g1 g2 g3 g4 g5
    obtain ⟨n0, e0, _, z0⟩ := DataW.trod_int Tryz.underlying3 g0
    obtain ⟨n1, e1, _, z1⟩ := DataW.trod_int Tryz.underlying3 g1
    obtain ⟨n2, e2, _, z2⟩ := DataW.trod_int Tryz.underlying3 g2
    obtain ⟨ev, sv, e3, hs⟩ := open_ev g3
    obtain ⟨bv, b, e4, hb⟩ := open_u8s g4
    obtain ⟨kv, l, e5, hk⟩ := open_i64s g5
    simp only [List.cons.injEq, and_true] at e0 e1 e2 e3 e4 e5
    obtain ⟨e30, e31, e32, e33⟩ := e3
    subst e0 e1 e2 e30 e31 e32 e33 e4 e5
    refine ⟨⟨n0, n1, n2, ev, b, l⟩, v6, v7, v8, rfl, hs, hb, hk, ?_⟩
    have : (Lit.int .i64 n2).wf = true := by first | exact z2 | exact z2.1 | exact z2.2
    simp [Lit.wf, IntKind.min, IntKind.max, IntKind.signed, IntKind.bits] at this
    show n2 ≤ _
    omega

theorem open_acts {fuel : Nat} {a : Option Addr} {len cap : Nat} {x : DataW H × List MemPlace}
    (h : DataW.trod enc Tryz.prog w base spare held fuel 22 [.slice a len cap] = some x) : ∃ L, RAcF w (.slice a len cap) L := by
  rcases Go.Deep.open_slice Tryz.underlying22 h with ⟨hcs, _⟩ | ⟨ad, l2, c2, m, n, D, Pl, hcs, hb, hl, hm, hmm, rfl, hx⟩
  · simp at hcs
    obtain ⟨rfl, rfl, rfl⟩ := hcs
    exact ⟨[], ⟨none, 0, rfl, Nat.le_refl _, by unfold maxLen; omega, by simp⟩, fun x hx => by cases hx⟩
  · simp at hcs
    obtain ⟨rfl, rfl, rfl⟩ := hcs
    have hlm : len ≤ m := by rw [hmm]; split <;> omega
    have each : ∀ i, i < len → ∃ t : Ac × Value × Value × Value, (∀ j v, (acV t.1 t.2.1 t.2.2.1 t.2.2.2)[j]? = some v → w.cell? (ad.add (i * 9 + j)) = some v) ∧ RI w t.2.1 t.1.e.s ∧ RB w t.2.2.1 t.1.b ∧ RI w t.2.2.2 t.1.keep ∧ t.1.n ≤ 9223372036854775807 := by
      intro i hi
      obtain ⟨cs', h1, h2⟩ := hx i (by omega)
      rw [Tryz.cells36] at h1
      obtain ⟨_, hlen, hcell⟩ := World.cells?_some h1
      obtain ⟨y, sv, bv, kv, rfl, q1, q2, q3, q4⟩ := open_act h2
      refine ⟨(y, sv, bv, kv), fun j v hj => ?_, q1, q2, q3, q4⟩
      have hj9 : j < 9 := (Array.getElem?_eq_some_iff.1 hj).1
      have := hcell j (by simpa [acV] using hj9)
      rw [Go.Deep.add_add] at this
      rw [this, Array.getElem?_toList]
      exact hj
    obtain ⟨q, hq⟩ := Go.Deep.choose_lt each
    refine ⟨(List.range len).map fun i => (q i).1, ⟨some ad, cap, by simp, by simpa using hl, hm, fun i t hi => ?_⟩, fun t ht => ?_⟩
    · have hil : i < len := by have := (List.getElem?_eq_some_iff.1 hi).1; simpa using this
      have ht : t = (q i).1 := by simp [hil] at hi; exact hi.symm
      subst ht
      obtain ⟨b, off, spot⟩ := ad
      have hspot : spot = none := by simpa [Addr.add] using World.cell?_spot ((hq 0 (by omega)).1 0 _ rfl)
      subst hspot
      obtain ⟨a0, a1, a2, a3, a4⟩ := hq i hil
      refine ⟨b, off, _, _, _, rfl, fun j v hj => ?_, a1, a2, a3⟩
      have := a0 j v hj
      rw [add_plain] at this
      rw [Nat.add_assoc]
      exact this
    · obtain ⟨i, hi, rfl⟩ := List.mem_map.1 ht
      exact (hq i (List.mem_range.1 hi)).2.2.2.2

theorem plays_any (L : List Ac) (v : Value) (room : Int) (w : World) (h : RAcF w v L) : Calls Tryz.prog 3 #[v, .int .i64 room] w fun e w' => e = .returned (.bool true) ∧ Below w.heap.size w w' := plays_walk L v room w h.1 h.2
end Go.Proofs.YtijkgdbabikojaaGreat

