/- Texts of the seat, packed: Pe Ka Kq Ta Tb Tc Yp. -/
import Derived.Test.YtlegmmhacnbnlaaGreatDoorP33
import Derived.Test.YtlegmmhacnbnlaaGreatDoorP37
import Derived.Test.YtlegmmhacnbnlaaGreatDoorP47
import Derived.Test.YtlegmmhacnbnlaaGreatDoorChecked
import Derived.Test.YtlegmmhacnbnlaaGreatDoorP45
/- isUndoneEarly. -/
namespace Go.Proofs.YtlegmmhacnbnlaaGreatDoor.J.Tz
open Go.RowKit Go.Shelf Go.Proofs.YtlegmmhacnbnlaaGreatDoor.J
set_option maxRecDepth 1000000
set_option linter.unusedVariables false

/-- What is over an item; in what it stands. -/
def ovI (ov : List (List Nat)) (i : Int) : List Int := (ov.getD i.toNat []).map fun (x : Nat) => (x : Int)
def upI (its : List It) (j : Int) : List Int := (upsF its its.length j.toNat).map fun (x : Nat) => (x : Int)
theorem upsF_len (its : List It) : ∀ f i, (upsF its f i).length ≤ f
  | 0, _ => Nat.le_refl _
  | f + 1, i => by
    rw [upsF]
    split
    · simp
    · split
      · have := upsF_len its f; simp only [List.length_cons]; have := this (by assumption : It).inn.toNat; omega
      · simp

/-- Does one lean on another, or stand in what does? -/
def leanO (its : List It) (ov : List (List Nat)) (i j : Int) : Prop := j ∈ ovI ov i ∨ ∃ a ∈ upI its j, a ∈ ovI ov i

/-- Is a key's deed one that is behind? -/
def laterP (u : Sp) (O : Int → Prop) (k : Kx) (s : Sp) : Prop := k.2.1 = true ∧ s.well ≠ never ∧ u.first < s.well ∧ O k.1

/-- Between two entries. -/
structure EaS (W : World) (l : List Ef) (u : Sp) (O : Int → Prop) (n b r : Nat) (D : Kx → Prop) (wr : World) : Prop where
  kr : KR SV wr b r n (dd l 0) D
  bel : Below W.heap.size W wr
  rl : W.heap.size ≤ r
  no : ∀ k s, D k → dd l 0 k = some s → ¬ laterP u O k s
theorem EaS.step {W : World} {l : List Ef} {u : Sp} {O : Int → Prop} {n b r : Nat} {D : Kx → Prop} {wr w3 w9 : World} {k : Kx} {s : Sp} (h : EaS W l u O n b r D wr) (hf : dd l 0 k = some s) (hkr : KR SV w3 b r n (dd l 0) (fun x => D x ∨ x = k)) (hlt : w3.rangeLeft b r < wr.rangeLeft b r) (hbel : Below W.heap.size W w3) (hb : Below w3.heap.size w3 w9) (hn : ¬ laterP u O k s) :
    EaS W l u O n b r (fun x => D x ∨ x = k) w9 ∧ w9.rangeLeft b r < wr.rangeLeft b r := by
  refine ⟨⟨hkr.later hb, hbel.trans (hb.mono hbel.size), h.rl, fun k' s' hd' hs' => ?_⟩, ?_⟩
  · rcases hd' with hd' | hd'
    · exact h.no k' s' hd' hs'
    · subst hd'
      rw [hf] at hs'
      cases hs'
      exact hn
  · rw [left_block (hb.block _ hkr.km.lt) (hb.block _ hkr.lt)]
    exact hlt

set_option maxHeartbeats 16000000 in
theorem early_any (l : List Ef) (its : List It) (ov : List (List Nat)) (lo : List Nat) (hl : l.length ≤ 1000000) {w : World} {b n vb : Nat} (hkm : KM SV w b n (dd l 0)) (hv : VwAt w vb its ov) (i : Nat) (hi : i < its.length) (hlo : ov[i]? = some lo) (hll : lo.length ≤ 1000000) (hst : Stem its) (hil : its.length ≤ 70)
    (hkeys : ∀ k s, dd l 0 k = some s → ∃ m : Nat, k.1 = (m : Int) ∧ m < its.length) :
    Calls Tryz.prog 21 #[.map (some b), .pointer (some ⟨vb, 0, none⟩), .int .i64 (i : Int)] w fun e w' => ∃ q, e = .returned (.bool q) ∧ (q = true ↔ earlyP (leanO its ov) l i) ∧ Below w.heap.size w w' := by
  have HU : Hid _ := undoing_any hkm (i := (i : Int)) (wf_small (by omega) (by omega))
  have HLN : Hid (l.length ≤ 1000000) := hl
  have hov : ovI ov (i : Int) = lo.map fun (x : Nat) => (x : Int) := by
    unfold ovI
    rw [Int.toNat_natCast]
    simp [List.getD, hlo]
  have HOV : Hid (∀ wx, Below w.heap.size w wx → Calls Tryz.prog 35 #[.pointer (some ⟨vb, 0, none⟩), .int .i64 (i : Int)] wx fun e w' => Below wx.heap.size wx w' ∧ ∃ u, e = .returned u ∧ RdZ w' u (ovI ov (i : Int))) := fun wx hb => by
    rw [hov]
    exact Over_any vb i its ov lo wx (hv.later hb) hlo hll
  have HAB : Hid (∀ wx (j : Nat), Below w.heap.size w wx → j < its.length → Calls Tryz.prog 39 #[.pointer (some ⟨vb, 0, none⟩), .int .i64 (j : Int)] wx fun e w' => Below wx.heap.size wx w' ∧ ∃ u, e = .returned u ∧ RdZ w' u (upI its (j : Int)) ∧ (upI its (j : Int)).length ≤ 1000000) := fun wx j hb hj => by
    have hlen := upsF_len its its.length j
    refine (Above_any vb j its ov (upsF its its.length j) wx (hv.later hb) hj (stem_ups hst its.length j hj (by omega)) (by omega)).mono ?_
    rintro e w' ⟨h1, u, h2, h3⟩
    unfold upI
    rw [Int.toNat_natCast]
    exact ⟨h1, u, h2, h3, by rw [List.length_map]; omega⟩
  have HOL : Hid ((ovI ov (i : Int)).length ≤ 1000000) := by
    show _ ≤ _
    rw [hov, List.length_map]
    exact hll
  have HKM : Hid (KM SV w b n (dd l 0)) := hkm
  have HKY : Hid _ := hkeys
  obtain ⟨u, hu⟩ : ∃ u, spD (dd l 0 ((i : Int), true, 0)) = u := ⟨_, rfl⟩
  have HUD : Hid (unD l (i : Int) = u) := hu
  rw [hu] at HU
  obtain ⟨uf, uw, ul⟩ := u
  unfold SV at HU
  dsimp only at HU
  clear hkm hv hlo hll hst hil hkeys hov hu hl
  go_enter Tryz.func21, Tryz.ntmps21
  go_wp2_with fail
  refine Calls.mono HU.out ?_
  rintro e w1 ⟨rfl, hb1⟩
  have HB1 : Hid _ := hb1
  clear hb1 HU
  by_cases huw : uw = 9223372036854775807
  · have HF : Hid (¬ earlyP (leanO its ov) l i) := by
      show ¬ _
      unfold earlyP
      rw [HUD.out]
      exact fun h => h.1 huw
    subst huw
    go_wp2_with fail
    go_ret
    exact ⟨false, rfl, by simpa using HF.out, HB1.out.trans ((bl1 w1 _).mono HB1.out.size)⟩
  · have hub : (uw == 9223372036854775807) = false := by simpa using huw
    go_wp2_with fail
    have hb2 : Below w.heap.size w (w1.alloc (.cells #[.int .i64 uf, .int .i64 uw, .int .i64 ul] 63)) := HB1.out.trans ((bl1 w1 _).mono HB1.out.size)
    have hp1 : (w1.alloc (.cells #[.int .i64 uf, .int .i64 uw, .int .i64 ul] 63)).heap[w1.heap.size]? = some (.cells #[.int .i64 uf, .int .i64 uw, .int .i64 ul] 63 (0, 0)) := heap_alloc_new _ _
    generalize w1.alloc (.cells #[.int .i64 uf, .int .i64 uw, .int .i64 ul] 63) = w2 at *
    generalize w1.heap.size = p1 at *
    refine Calls.mono (HOV.out w2 hb2) ?_
    rintro e w3 ⟨hb3, ovv, rfl, hrd⟩
    have HW4 : Hid (Below w.heap.size w (w3.alloc (.cells #[ovv] 32)) ∧ (w3.alloc (.cells #[ovv] 32)).heap[p1]? = some (.cells #[.int .i64 uf, .int .i64 uw, .int .i64 ul] 63 (0, 0)) ∧ BoB (w3.alloc (.cells #[ovv] 32)) w3.heap.size (ovI ov (i : Int))) := by
      have hb23 : Below w2.heap.size w2 (w3.alloc (.cells #[ovv] 32)) := hb3.trans ((bl1 w3 _).mono hb3.size)
      exact ⟨hb2.trans (hb23.mono hb2.size), row_later hp1 hb23, ovv, heap_alloc_new _ _, hrd.later (bl1 _ _)⟩
    obtain ⟨oa, oc, hos, _⟩ := hrd
    clear hb2 hp1 hb3 HOV
    subst hos
    obtain ⟨w4, hw4⟩ : ∃ w4, w3.alloc (.cells #[.slice oa (ovI ov (i : Int)).length oc] 32) = w4 := ⟨_, rfl⟩
    have HE4 : Hid (w3.alloc (.cells #[.slice oa (ovI ov (i : Int)).length oc] 32) = w4) := hw4
    rw [hw4] at HW4
    obtain ⟨w5, hrg, hkr, hb5, hs5⟩ := (HKM.out.later HW4.out.1).range' Tryz.underlying54
    obtain ⟨r, hr⟩ : ∃ r, w4.heap.size = r := ⟨_, rfl⟩
    rw [hr] at hrg hkr
    have H0 : Hid (EaS w4 l ⟨uf, uw, ul⟩ (leanO its ov (i : Int)) n b r (fun _ => False) w5) := ⟨hkr, hb5, by omega, fun _ _ h => h.elim⟩
    rw [← hw4] at hrg
    generalize hp2 : w3.heap.size = p2 at *
    clear hkr hb5 hs5 hr HKM hw4
    go_wp2_with fail
    clear hrg HE4
    go_loopw [] (fun wr => ∃ D, Hid (EaS w4 l ⟨uf, uw, ul⟩ (leanO its ov (i : Int)) n b r D wr)) (fun wr => wr.rangeLeft b r)
    case atStart => exact ⟨_, H0⟩
    case round =>
      rename World => wr
      obtain ⟨D, HS⟩ := hrel
      clear H0
      rcases HS.out.kr.next 0 with ⟨hall, hnx⟩ | ⟨k, s, w6, hf, hwf, hnd, hnx, hkr6, hlt, hgr, hsz, hent⟩
      · -- all have come
        have HF : Hid (¬ earlyP (leanO its ov) l i) := by
          show ¬ _
          unfold earlyP
          rw [HUD.out]
          rintro ⟨_, k, s, q1, q2, q3, q4, q5⟩
          exact HS.out.no k s (hall k s q1) q1 ⟨q2, q3, q4, q5⟩
        have HB9 : Hid (Below w.heap.size w wr) := HW4.out.1.trans (HS.out.bel.mono HW4.out.1.size)
        go_wp2_with fail
        go_ret
        exact ⟨false, rfl, by simpa using HF.out, HB9.out⟩
      · -- one entry
        have hbel6 : Below w4.heap.size w4 w6 := HS.out.bel.grown hgr HS.out.bel.size (fun q hq => by cases hq; exact HS.out.rl)
        have HLS : Hid (∀ (w9 : World), Below w6.heap.size w6 w9 → ¬ laterP ⟨uf, uw, ul⟩ (leanO its ov (i : Int)) k s → EaS w4 l ⟨uf, uw, ul⟩ (leanO its ov (i : Int)) n b r (fun x => D x ∨ x = k) w9 ∧ w9.rangeLeft b r < wr.rangeLeft b r) := fun w9 h1 h2 => HS.out.step hf hkr6 hlt hbel6 h1 h2
        have HY : Hid (laterP ⟨uf, uw, ul⟩ (leanO its ov (i : Int)) k s → earlyP (leanO its ov) l i) := by
          show _ → _
          rintro ⟨q2, q3, q4, q5⟩
          unfold earlyP
          rw [HUD.out]
          exact ⟨huw, k, s, hf, q2, q3, q4, q5⟩
        obtain ⟨m, hm, hml⟩ := HKY.out k s hf
        have HB6 : Hid (Below w.heap.size w w6) := HW4.out.1.trans (hbel6.mono HW4.out.1.size)
        have HP : Hid (∀ w9, Below w6.heap.size w6 w9 → w9.cell? ⟨p1, 0, none⟩ = some (.int .i64 uf) ∧ BoB w9 p2 (ovI ov (i : Int))) := fun w9 hb => by
          have h9 := hbel6.trans (hb.mono hbel6.size)
          exact ⟨(cell_row (row_later HW4.out.2.1 h9) 0).trans rfl, HW4.out.2.2.later h9⟩
        obtain ⟨ki, ku, kt⟩ := k
        obtain ⟨sf, sw, sl⟩ := s
        unfold KV SV at hnx hent
        dsimp only at hnx hent hm
        subst hm
        clear hkr6 hlt hgr hsz hnd hf hwf hbel6 HS
        have HB7 : Hid (Below w6.heap.size w6 ((w6.alloc (.cells #[.int .i64 (m : Int), .bool ku, .int .i64 kt] 36)).alloc (.cells #[.int .i64 sf, .int .i64 sw, .int .i64 sl] 63))) := bl2 _ _ _
        have g0 : ((w6.alloc (.cells #[.int .i64 (m : Int), .bool ku, .int .i64 kt] 36)).alloc (.cells #[.int .i64 sf, .int .i64 sw, .int .i64 sl] 63)).cell? ⟨w6.heap.size, 0, none⟩ = some (.int .i64 (m : Int)) := (cell_row (row_later (heap_alloc_new w6 _) (bl1 _ _)) 0).trans rfl
        have g1 : ((w6.alloc (.cells #[.int .i64 (m : Int), .bool ku, .int .i64 kt] 36)).alloc (.cells #[.int .i64 sf, .int .i64 sw, .int .i64 sl] 63)).cell? ⟨w6.heap.size, 1, none⟩ = some (.bool ku) := (cell_row (row_later (heap_alloc_new w6 _) (bl1 _ _)) 1).trans rfl
        have g2 : ((w6.alloc (.cells #[.int .i64 (m : Int), .bool ku, .int .i64 kt] 36)).alloc (.cells #[.int .i64 sf, .int .i64 sw, .int .i64 sl] 63)).cell? ⟨w6.heap.size + 1, 1, none⟩ = some (.int .i64 sw) := by
          have h1 := cell_row (heap_alloc_new (w6.alloc (.cells #[.int .i64 (m : Int), .bool ku, .int .i64 kt] 36)) (.cells #[.int .i64 sf, .int .i64 sw, .int .i64 sl] 63)) 1
          rw [World.size_alloc] at h1
          exact h1.trans rfl
        have g3 : ((w6.alloc (.cells #[.int .i64 (m : Int), .bool ku, .int .i64 kt] 36)).alloc (.cells #[.int .i64 sf, .int .i64 sw, .int .i64 sl] 63)).cell? ⟨p1, 0, none⟩ = some (.int .i64 uf) := (HP.out _ HB7.out).1
        have HLE : Hid (∀ y w9, BoB w9 p2 (ovI ov (i : Int)) → Calls Tryz.prog 36 #[.int .i64 y, .pointer (some ⟨p2, 0, none⟩)] w9 fun e w' => e = .returned (.bool (decide (y ∈ ovI ov (i : Int)))) ∧ w' = w9) := fun y w9 hb => leans_any _ y p2 w9 hb HOL.out
        cases ku with
        | false =>
          obtain ⟨e1, e2⟩ := HLS.out _ HB7.out (fun h => by cases h.1)
          have E1 : Hid _ := e1
          have E2 : Hid _ := e2
          clear e1 e2
          go_wp2_with fail
          exact ⟨⟨_, E1⟩, E2.out⟩
        | true =>
          by_cases hsw : sw = 9223372036854775807
          · obtain ⟨e1, e2⟩ := HLS.out _ HB7.out (fun h => h.2.1 hsw)
            have E1 : Hid _ := e1
            have E2 : Hid _ := e2
            clear e1 e2
            subst hsw
            go_wp2_with fail
            exact ⟨⟨_, E1⟩, E2.out⟩
          · have hsb : (sw != 9223372036854775807) = true := by simpa using hsw
            by_cases hus : uf < sw
            rotate_left
            · obtain ⟨e1, e2⟩ := HLS.out _ HB7.out (fun h => hus h.2.2.1)
              have E1 : Hid _ := e1
              have E2 : Hid _ := e2
              clear e1 e2
              go_wp2_with fail
              exact ⟨⟨_, E1⟩, E2.out⟩
            · obtain ⟨q1, hq1⟩ : ∃ q, decide ((m : Int) ∈ ovI ov (i : Int)) = q := ⟨_, rfl⟩
              have HQ1 : Hid _ := hq1
              have HL1 : Hid _ := HLE.out (m : Int) _ (HP.out _ HB7.out).2
              rw [hq1] at HL1
              clear hq1
              cases q1 with
              | true =>
                have HF : Hid (earlyP (leanO its ov) l i) := HY.out ⟨rfl, hsw, hus, .inl (of_decide_eq_true HQ1.out)⟩
                go_wp2_with fail
                refine Calls.mono HL1.out ?_
                rintro e w8 ⟨rfl, rfl⟩
                clear HL1
                go_wp2_with fail
                go_ret
                exact ⟨true, rfl, by simpa using HF.out, HB6.out.trans (HB7.out.mono HB6.out.size)⟩
              | false =>
                have HA : Hid _ := HAB.out _ m (HB6.out.trans (HB7.out.mono HB6.out.size)) hml
                go_wp2_with fail
                refine Calls.mono HL1.out ?_
                rintro e w8 ⟨rfl, hw8⟩
                rw [hw8]
                clear HL1 hw8
                go_wp2_with fail
                refine Calls.mono HA.out ?_
                rintro e w9 ⟨hb9, av, rfl, hrd, hln⟩
                have HB9 : Hid (Below w6.heap.size w6 w9) := HB7.out.trans (hb9.mono HB7.out.size)
                have HC : Hid _ := containsZ_any _ _ av p2 w9 hrd (HP.out w9 HB9.out).2 HOL.out hln
                obtain ⟨aa, ac, hav, _⟩ := hrd
                subst hav
                obtain ⟨q2, hq2⟩ : ∃ q, ((upI its (m : Int)).any fun y => decide (y ∈ ovI ov (i : Int))) = q := ⟨_, rfl⟩
                have HQ2 : Hid _ := hq2
                rw [hq2] at HC
                obtain ⟨nn, hnn⟩ : ∃ nn, (upI its (m : Int)).length = nn := ⟨_, rfl⟩
                rw [hnn] at HC ⊢
                clear hq2 hnn hln hb9 HA g0 g1 g2 g3
                cases q2 with
                | true =>
                  have HF : Hid (earlyP (leanO its ov) l i) := HY.out ⟨rfl, hsw, hus, .inr (by
                    obtain ⟨x, hx, hx2⟩ := List.any_eq_true.1 HQ2.out
                    exact ⟨x, hx, of_decide_eq_true hx2⟩)⟩
                  go_wp2_with fail
                  refine Calls.mono HC.out ?_
                  rintro e w10 ⟨rfl, rfl⟩
                  clear HC
                  go_wp2_with fail
                  go_ret
                  exact ⟨true, rfl, by simpa using HF.out, HB6.out.trans (HB9.out.mono HB6.out.size)⟩
                | false =>
                  obtain ⟨e1, e2⟩ := HLS.out w9 HB9.out (by
                    rintro ⟨_, _, _, h4⟩
                    rcases h4 with h4 | ⟨x, hx, hx2⟩
                    · exact of_decide_eq_false HQ1.out h4
                    · have h5 := List.any_eq_false.1 HQ2.out x hx
                      exact h5 (decide_eq_true hx2))
                  have E1 : Hid _ := e1
                  have E2 : Hid _ := e2
                  clear e1 e2
                  go_wp2_with fail
                  refine Calls.mono HC.out ?_
                  rintro e w10 ⟨rfl, rfl⟩
                  clear HC
                  go_wp2_with fail
                  exact ⟨⟨_, E1⟩, E2.out⟩
end Go.Proofs.YtlegmmhacnbnlaaGreatDoor.J.Tz

/- The plain side of layer 13: facts, what an event does to one, what is open. It names no number of a program. -/
namespace Go.Proofs.YtlegmmhacnbnlaaGreatDoor.Fc

set_option linter.unusedVariables false

/-- A fact. -/
structure Fa where
  run : Int
  tries : Int
  slips : Int
  un : Bool
deriving DecidableEq

def Fa.z : Fa := ⟨0, 0, 0, false⟩

/-- A fact is right. -/
def okF (f : Fa) : Prop := 0 ≤ f.run ∧ f.run ≤ 3 ∧ 0 ≤ f.slips ∧ f.slips ≤ 3 ∧ (f.tries = f.slips ∨ f.tries = f.slips + 1) ∧ (f.tries = 0 ∨ f.run = 2) ∧ (f.un = true → f.tries = f.slips + 1)

instance (f : Fa) : Decidable (okF f) := by unfold okF; infer_instance

/-- What a fact is behind an event of it: the event's kind, and its try. -/
def fit (k t : Int) (f : Fa) : Option Fa :=
  if k = 1 then if f.run = 0 then some ⟨1, 0, 0, false⟩ else none
  else if k = 2 then if f.run = 1 then some ⟨2, 0, 0, false⟩ else none
  else if k = 3 then if f.run = 1 then some ⟨3, 0, 0, false⟩ else none
  else if k = 4 then if f.run = 2 ∧ f.un = false ∧ f.tries = t ∧ f.slips = t then some ⟨2, f.tries + 1, f.slips, false⟩ else none
  else if k = 5 then if f.tries = f.slips + 1 ∧ f.un = false ∧ f.slips = t then some ⟨2, f.tries, f.slips, true⟩ else none
  else if k = 6 then if f.tries = f.slips + 1 ∧ f.un = false ∧ f.slips = t ∧ t < 3 then some ⟨2, f.tries, f.slips + 1, false⟩ else none
  else none

/-- Facts are right of a plan (of which items are sub-sagas, the saga among them). -/
def okL (subs : List Bool) (l : List Fa) : Prop := l.length = subs.length ∧ ∀ i, i < l.length → okF (l.getD i Fa.z) ∧ (subs.getD i true = true → l.getD i Fa.z = Fa.z)

/-- The facts behind an event. -/
def does (subs : List Bool) (l : List Fa) (k t : Int) (i : Nat) : Option (List Fa) :=
  if 1 ≤ i ∧ i < l.length ∧ subs.getD i true = false then (fit k t (l.getD i Fa.z)).map (l.set i ·) else none

end Go.Proofs.YtlegmmhacnbnlaaGreatDoor.Fc

/- The plain side of layer 14: what holds of items and bodies, by what is known of the steps; the statuses. It names no number of a program. -/
namespace Go.Proofs.YtlegmmhacnbnlaaGreatDoor.St

open Go.Proofs.YtlegmmhacnbnlaaGreatDoor.Fc

set_option linter.unusedVariables false

/-- A plan: how many items, and of each what it is, in which body of which item it stands. -/
structure Pl where
  n : Nat
  sub : Nat → Bool
  vital : Nat → Bool
  alts : Nat → Nat
  inn : Nat → Nat
  alt : Nat → Nat

/-- What holds of an item. -/
structure IW where
  clean : Bool
  spent : Bool
  done : Bool
  touched : Bool
  at_ : Nat

def IW.z : IW := ⟨false, false, false, false, 0⟩

/-- Does an item stand in a body? -/
def kid (p : Pl) (s a i : Nat) : Bool := decide (s < i ∧ i < p.n ∧ p.inn i = s ∧ p.alt i = a)

/-- A body falls, by what holds of items. -/
def falls (p : Pl) (f : Nat → Fa) (K : Nat → IW) (s a : Nat) : Bool := (List.range p.n).any fun i => kid p s a i && (decide ((f i).run = 3) || (p.sub i && p.vital i && (K i).spent))

/-- All of it is clean. -/
def clears (p : Pl) (K : Nat → IW) (s a : Nat) : Bool := (List.range p.n).all fun i => !kid p s a i || (K i).clean

/-- It is whole. -/
def whole (p : Pl) (K : Nat → IW) (s a : Nat) : Bool := (List.range p.n).all fun i => !kid p s a i || ((K i).done || (p.sub i && !p.vital i && (K i).spent))

/-- The first body from a on that does not fall, or is not all clean; the last one, if there is none. -/
def first (q : Nat → Bool) (n : Nat) : Nat → Nat → Nat
  | 0, a => a
  | d + 1, a => if a + 1 < n ∧ q a = true then first q n d (a + 1) else a

/-- What holds of a saga, by what holds of its items. -/
def sagaW (p : Pl) (f : Nat → Fa) (K : Nat → IW) (s : Nat) : IW :=
  let at_ := first (fun a => falls p f K s a && clears p K s a) (p.alts s) (p.alts s) 0
  let spent := (List.range (p.alts s)).all fun a => falls p f K s a && clears p K s a
  { clean := (List.range (p.alts s)).all fun a => clears p K s a, spent := spent, done := !spent && whole p K s at_,
    touched := (List.range p.n).any fun i => decide (s < i ∧ p.inn i = s) && (K i).touched, at_ := at_ }

/-- .. of a step. -/
def stepW (f : Fa) : IW := ⟨decide (f.run = 0) || decide (f.run = 3) || f.un, false, decide (f.run = 2) && decide (f.tries = 0), decide (0 < f.run), 0⟩

/-- What holds of an item, with so much fuel. -/
def wk (p : Pl) (f : Nat → Fa) : Nat → Nat → IW
  | 0, _ => IW.z
  | d + 1, i => if p.sub i then sagaW p f (wk p f d) i else stepW (f i)

/-- What holds of an item. -/
def W (p : Pl) (f : Nat → Fa) (i : Nat) : IW := wk p f p.n i

/-- A body falls. -/
def F (p : Pl) (f : Nat → Fa) (s a : Nat) : Bool := falls p f (W p f) s a

/-- A saga is halted. -/
def haltK (p : Pl) (f : Nat → Fa) : Nat → Nat → Bool
  | 0, _ => false
  | d + 1, i => if i = 0 then false else F p f (p.inn i) (p.alt i) || haltK p f d (p.inn i)

def halted (p : Pl) (f : Nat → Fa) (i : Nat) : Bool := haltK p f (i + 1) i

/-- A step's status. -/
def stepS (f : Fa) : Int := if f.run = 0 then 0 else if f.run = 1 then 1 else if f.run = 3 then 3 else if f.tries = 0 then 2 else if f.un then 5 else 4

/-- A saga's. -/
def sagaS (x : IW) (h : Bool) : Int := if x.touched = false then 0 else if x.done then 2 else if x.spent then 3 else if h = false then 1 else if x.clean then 5 else 4

/-- An item's. -/
def S (p : Pl) (f : Nat → Fa) (i : Nat) : Int := if p.sub i then sagaS (W p f i) (halted p f i) else stepS (f i)

end Go.Proofs.YtlegmmhacnbnlaaGreatDoor.St

/- Plain: a saga's plan leads back to the saga: the bodies that its items tell of are the saga's. -/
namespace Go.Proofs.YtlegmmhacnbnlaaGreatDoor

open Go.RowKit Go.Shelf Go.Proofs.YtlegmmhacnbnlaaGreatDoor.Sx

/-- Bodies, and nodes, where they may stand. -/
def Kd : Bool → Tr → Prop
  | _, .e => True
  | k, .b x r => k = true ∧ Kd false x ∧ Kd true r
  | k, .n _ s r => k = false ∧ Kd true s ∧ Kd false r

theorem TAt.kd {P : Nat → Prop} {w : World} (t : Tr) : ∀ {k : Bool} {a : Option Addr} {i n : Nat}, TAt P w k t a i n → Kd k t := by
  induction t with
  | e => intro _ _ _ _ _; trivial
  | b x r ih1 ih2 =>
    rintro k a i n ⟨rfl, _, ⟨_, _, _, _, _, _, _, _, hx⟩, hr⟩
    exact ⟨rfl, ih1 hx, ih2 hr⟩
  | n l s r ih1 ih2 =>
    rintro k a i n ⟨rfl, _, ⟨_, _, _, _, _, _, _, _, _, _, _, _, _, _, _, _, _, hs⟩, hr⟩
    exact ⟨rfl, ih1 hs, ih2 hr⟩

/-- Of such nodes those of one body. -/
def pk (rec : Nat → Tr) (i alt : Nat) (ys : List Pd) : List (Lab × Tr) := ys.flatMap fun y => if y.inn = i ∧ y.alt = alt then [(y.lab, rec y.num)] else []

/-- Where nodes stand: their numbers, and in what. -/
theorem xsT_at (t : Tr) : ∀ (inn alt last : Nat), ∀ y ∈ xsT t inn alt last, last < y.num ∧ y.num ≤ last + cntA t ∧ (y.inn = inn ∨ last < y.inn) ∧ y.inn ≤ inn + last + cntA t ∧ (inn ≤ last → y.inn < y.num) := by
  induction t with
  | e => intro _ _ _ y hy; cases hy
  | b x r ih1 ih2 =>
    intro inn alt last y hy
    rw [xsT, List.mem_append] at hy
    rcases hy with hy | hy
    · obtain ⟨h1, h2, h3, h4, h5⟩ := ih1 _ _ _ y hy
      refine ⟨h1, ?_, h3, ?_, h5⟩ <;> simp only [cntA] <;> omega
    · obtain ⟨h1, h2, h3, h4, h5⟩ := ih2 _ _ _ y hy
      refine ⟨by omega, ?_, by omega, ?_, fun h => h5 (by omega)⟩ <;> simp only [cntA] <;> omega
  | n l s r ih1 ih2 =>
    intro inn alt last y hy
    rw [xsT, List.mem_cons, List.mem_append] at hy
    rcases hy with rfl | hy | hy
    · refine ⟨by show last < last + 1; omega, ?_, .inl rfl, ?_, fun h => ?_⟩
      · simp only [cntA]; omega
      · simp only []; omega
      · show inn < last + 1; omega
    · obtain ⟨h1, h2, h3, h4, h5⟩ := ih1 _ _ _ y hy
      refine ⟨by omega, ?_, by omega, ?_, fun _ => h5 (by omega)⟩
      · simp only [cntA]; omega
      · simp only [cntA]; have := h5 (by omega); omega
    · obtain ⟨h1, h2, h3, h4, h5⟩ := ih2 _ _ _ y hy
      refine ⟨by omega, ?_, by omega, ?_, fun h => h5 (by omega)⟩ <;> simp only [cntA] <;> omega

/-- A node of a body further on has another number of a body. -/
theorem xsT_alt (t : Tr) : ∀ (k : Bool) (inn alt last : Nat), Kd k t → inn ≤ last → ∀ y ∈ xsT t inn alt last, y.inn = inn → (k = false → y.alt = alt) ∧ alt ≤ y.alt := by
  induction t with
  | e => intro _ _ _ _ _ _ y hy; cases hy
  | b x r ih1 ih2 =>
    rintro k inn alt last ⟨rfl, hx, hr⟩ hl y hy hi
    rw [xsT, List.mem_append] at hy
    rcases hy with hy | hy
    · exact ⟨fun h => (by cases h), (ih1 _ _ _ _ hx hl y hy hi).2⟩
    · exact ⟨fun h => (by cases h), by have := (ih2 _ _ _ _ hr (by omega) y hy hi).2; omega⟩
  | n l s r ih1 ih2 =>
    rintro k inn alt last ⟨rfl, hs, hr⟩ hl y hy hi
    rw [xsT, List.mem_cons, List.mem_append] at hy
    rcases hy with rfl | hy | hy
    · exact ⟨fun _ => rfl, Nat.le_refl _⟩
    · have := (xsT_at s _ _ _ y hy).2.2.1
      omega
    · exact ih2 _ _ _ _ hr (by omega) y hy hi

/-- The numbers stand one behind the other. -/
theorem xsT_num (t : Tr) : ∀ (inn alt last j : Nat) (y : Pd), (xsT t inn alt last)[j]? = some y → y.num = last + 1 + j := by
  induction t with
  | e => intro _ _ _ j y h; simp [xsT] at h
  | b x r ih1 ih2 =>
    intro inn alt last j y h
    rw [xsT] at h
    by_cases hj : j < (xsT x inn alt last).length
    · rw [List.getElem?_append_left hj] at h
      exact ih1 _ _ _ _ _ h
    · rw [List.getElem?_append_right (by omega), xsT_len] at h
      rw [xsT_len] at hj
      have := ih2 _ _ _ _ _ h
      omega
  | n l s r ih1 ih2 =>
    intro inn alt last j y h
    rw [xsT] at h
    cases j with
    | zero =>
      simp only [List.getElem?_cons_zero, Option.some.injEq] at h
      subst h
      rfl
    | succ j =>
      rw [List.getElem?_cons_succ] at h
      by_cases hj : j < (xsT s (last + 1) 0 (last + 1)).length
      · rw [List.getElem?_append_left hj] at h
        have := ih1 _ _ _ _ _ h
        omega
      · rw [List.getElem?_append_right (by omega), xsT_len] at h
        rw [xsT_len] at hj
        have := ih2 _ _ _ _ _ h
        omega

/-- Items that tell of such nodes. -/
structure Tells (its : List It) (xs : List Pd) : Prop where
  len : its.length = xs.length + 1
  root : ∀ y, its[0]? = some y → y.inn = -1
  at_ : ∀ (j : Nat) (y : Pd), xs[j]? = some y → y.num = j + 1 ∧ y.inn ≤ j ∧ ∃ z, its[j + 1]? = some z ∧ z.inn = (y.inn : Int) ∧ z.alt = (y.alt : Int) ∧ z.alts = (y.am : Int) ∧ labI its z = y.lab

end Go.Proofs.YtlegmmhacnbnlaaGreatDoor

/- Plain: a saga's plan hangs as it must, tells of the saga's nodes, and leads back to the saga. -/
namespace Go.Proofs.YtlegmmhacnbnlaaGreatDoor

open Go.RowKit Go.Shelf Go.Proofs.YtlegmmhacnbnlaaGreatDoor.Sx

/-- Which name has a number. -/
theorem numFold_name : ∀ (xs : List Pd) (f : By → Option Nat) (nm : By) (c : Nat), xs.foldl numPut f nm = some c → (∃ y ∈ xs, y.num = c ∧ y.lab.name = nm) ∨ f nm = some c
  | [], f, nm, c, h => .inr h
  | z :: xs, f, nm, c, h => by
    rcases numFold_name xs (numPut f z) nm c h with ⟨y, h1, h2⟩ | h1
    · exact .inl ⟨y, List.mem_cons_of_mem _ h1, h2⟩
    · unfold numPut at h1
      split at h1
      · rename_i hn
        cases h1
        exact .inl ⟨z, List.mem_cons_self .., rfl, hn.symm⟩
      · exact .inr h1

theorem numF_name (xs : List Pd) (nm : By) (c : Nat) (h : numF xs nm = some c) : ∃ y ∈ xs, y.num = c ∧ y.lab.name = nm := by
  rcases numFold_name xs _ nm c h with h | h
  · exact h
  · cases h

/-- On what a node leans, by names: these are the names. -/
theorem leanP_names {its : List It} {num : By → Option Nat} {inn alt : Int} (g : Nat → By) (hg : ∀ nm on, num nm = some on → g on = nm) : ∀ (l : List By) (acc r : List Nat), leanP its num inn alt l acc = some r → r.map g = acc.map g ++ l
  | [], acc, r, h => by simp only [leanP, Option.some.injEq] at h; subst h; simp
  | nm :: l, acc, r, h => by
    unfold leanP at h
    cases hn : num nm with
    | none => rw [hn] at h; cases h
    | some on =>
      rw [hn] at h
      simp only at h
      cases hi : its[on]? with
      | none => rw [hi] at h; cases h
      | some x =>
        rw [hi] at h
        simp only at h
        split at h
        · have := leanP_names g hg l _ r h
          rw [this, List.map_append, List.append_assoc]
          congr 1
          simp [hg nm on hn]
        · cases h

/-- Laying leanings turns nothing else. -/
def bare7 (y : It) : It := { y with after := [] }

theorem its2_bare7 (x : By) (am : Nat) (xs : List Pd) : ∀ (k on : Nat), ((its2 x am xs k)[on]?).map bare7 = ((its1 x am xs xs.length)[on]?).map bare7
  | 0, _ => rfl
  | k + 1, on => by
    rw [its2]
    split
    · rename_i y hy
      by_cases ho : on = k + 1
      · subst ho
        rw [List.getElem?_set_self (List.getElem?_eq_some_iff.1 hy).1, ← its2_bare7 x am xs k, hy]
        rfl
      · rw [List.getElem?_set_ne (Ne.symm ho)]
        exact its2_bare7 x am xs k on
    · exact its2_bare7 x am xs k on

theorem its2_lean (x : By) (am : Nat) (xs : List Pd) : ∀ (k j : Nat) (z : It), (its2 x am xs k)[j]? = some z → (j = 0 ∨ k < j → z.after = []) ∧ (0 < j → j ≤ k → z.after = intsN ((leanK x am xs (j - 1)).getD []))
  | 0, j, z, h => by
    have h1 := its1_no x am xs xs.length z (List.mem_of_getElem? h)
    exact ⟨fun _ => h1, fun h2 h3 => by omega⟩
  | k + 1, j, z, h => by
    rw [its2] at h
    split at h
    · rename_i y hy
      by_cases ho : j = k + 1
      · subst ho
        rw [List.getElem?_set_self (List.getElem?_eq_some_iff.1 hy).1] at h
        cases h
        exact ⟨fun h2 => by omega, fun _ _ => rfl⟩
      · rw [List.getElem?_set_ne (Ne.symm ho)] at h
        obtain ⟨h1, h2⟩ := its2_lean x am xs k j z h
        exact ⟨fun h3 => h1 (by omega), fun h3 h4 => h2 h3 (by omega)⟩
    · rename_i hy
      obtain ⟨h1, h2⟩ := its2_lean x am xs k j z h
      refine ⟨fun h3 => h1 (by omega), fun h3 h4 => ?_⟩
      by_cases ho : j = k + 1
      · subst ho
        exact absurd h (by rw [hy]; simp)
      · exact h2 h3 (by omega)

theorem its2_at (x : By) (am : Nat) (xs : List Pd) (j : Nat) (y : Pd) (hy : xs[j]? = some y) : ∃ z, (its2 x am xs xs.length)[j + 1]? = some z ∧ bare7 z = y.item ∧ z.after = intsN ((leanK x am xs j).getD []) := by
  have hl := (List.getElem?_eq_some_iff.1 hy).1
  obtain ⟨z, hz⟩ : ∃ z, (its2 x am xs xs.length)[j + 1]? = some z := ⟨_, List.getElem?_eq_getElem (by rw [its2_len]; omega)⟩
  have h1 := its2_bare7 x am xs xs.length (j + 1)
  have h2 : (its1 x am xs xs.length)[j + 1]? = some y.item := by
    unfold its1
    rw [List.take_length, List.getElem?_cons_succ, List.getElem?_map, hy]
    rfl
  rw [hz, h2] at h1
  simp only [Option.map_some, Option.some.injEq] at h1
  have h3 := (its2_lean x am xs xs.length (j + 1) z hz).2 (by omega) (by omega)
  refine ⟨z, hz, ?_, h3⟩
  rw [h1]
  rfl

theorem its2_root (x : By) (am : Nat) (xs : List Pd) : (its2 x am xs xs.length)[0]? = some (rootI x am) := by
  obtain ⟨z, hz⟩ : ∃ z, (its2 x am xs xs.length)[0]? = some z := ⟨_, List.getElem?_eq_getElem (by rw [its2_len]; omega)⟩
  have h1 := its2_bare7 x am xs xs.length 0
  have h2 : (its1 x am xs xs.length)[0]? = some (rootI x am) := rfl
  have h3 := (its2_lean x am xs xs.length 0 z hz).1 (.inl rfl)
  rw [hz, h2] at h1
  simp only [Option.map_some, Option.some.injEq] at h1
  rw [hz]
  congr 1
  have e : z = { bare7 z with after := z.after } := rfl
  rw [e, h1, h3]
  rfl

/-- What the plan of a saga is made of. -/
theorem planT_parts {x : By} {t : Tr} {its : List It} (h : planT x t = some its) : fitS x t = true ∧ goodN (xsT t 0 0 0) = true ∧ (∀ j, j < (xsT t 0 0 0).length → (leanK x t.len (xsT t 0 0 0) j).isSome = true) ∧ its = its2 x t.len (xsT t 0 0 0) (xsT t 0 0 0).length := by
  unfold planT planP at h
  split at h
  · rename_i hc
    cases h
    exact ⟨hc.1, hc.2.1, hc.2.2.1, rfl⟩
  · cases h

theorem plan_tells {x : By} {t : Tr} {its : List It} (h : planT x t = some its) : Tells its (xsT t 0 0 0) := by
  obtain ⟨_, _, hK, rfl⟩ := planT_parts h
  obtain ⟨xs, hxs⟩ : ∃ xs, xs = xsT t 0 0 0 := ⟨_, rfl⟩
  rw [← hxs] at hK ⊢
  have hnum : ∀ j y, xs[j]? = some y → y.num = j + 1 := fun j y hy => by rw [hxs] at hy; have := xsT_num t _ _ _ _ _ hy; omega
  refine ⟨its2_len x t.len xs xs.length, fun y hy => by rw [its2_root] at hy; cases hy; rfl, fun j y hy => ?_⟩
  obtain ⟨z, hz, hb, ha⟩ := its2_at x t.len xs j y hy
  have hn := hnum j y hy
  have hl := (List.getElem?_eq_some_iff.1 hy).1
  have hin : y.inn < y.num := by
    have hm := List.mem_of_getElem? hy
    rw [hxs] at hm
    exact (xsT_at t _ _ _ y hm).2.2.2.2 (Nat.le_refl _)
  have hzi : z.inn = (y.inn : Int) := congrArg It.inn hb
  have hza : z.alt = (y.alt : Int) := congrArg It.alt hb
  have hzs : z.alts = (y.am : Int) := congrArg It.alts hb
  have hname : z.name = y.lab.name := congrArg It.name hb
  have hundo : z.undo = y.lab.undo := congrArg It.undo hb
  have hsub : z.sub = y.lab.sub := congrArg It.sub hb
  have hvit : z.vital = y.lab.vital := congrArg It.vital hb
  refine ⟨hn, by omega, z, hz, hzi, hza, hzs, ?_⟩
  unfold labI
  rw [hname, hundo, hsub, hvit]
  have hk := hK j hl
  obtain ⟨r, hr⟩ := Option.isSome_iff_exists.1 hk
  have haft : z.after.map (nameI (its2 x t.len xs xs.length)) = y.lab.after := by
    rw [ha, hr]
    unfold leanK at hr
    rw [hy] at hr
    have h2 := leanP_names (fun on => nameI (its2 x t.len xs xs.length) (on : Int)) (fun nm on hno => by
      obtain ⟨u, hu, hun, hunm⟩ := numF_name xs nm on hno
      obtain ⟨k, hk2⟩ := List.mem_iff_getElem?.1 hu
      have := hnum k u hk2
      obtain ⟨v, hv, hvb, _⟩ := its2_at x t.len xs k u hk2
      have hvn : v.name = u.lab.name := congrArg It.name hvb
      unfold nameI
      rw [Int.toNat_natCast, show on = k + 1 by omega, hv]
      simp only
      rw [hvn, hunm]) _ _ _ hr
    simp only [Option.getD_some, intsN, List.map_map, List.map_nil, List.nil_append] at h2 ⊢
    exact h2
  rw [haft]

end Go.Proofs.YtlegmmhacnbnlaaGreatDoor

/- Plain: of a saga's plan no item has too many bodies, or leans on too many. -/
namespace Go.Proofs.YtlegmmhacnbnlaaGreatDoor

open Go.RowKit Go.Shelf Go.Proofs.YtlegmmhacnbnlaaGreatDoor.Sx

/-- The numbers of the nodes of one body. -/
def cn (i alt : Nat) (ys : List Pd) : List Nat := (ys.filter fun y => decide (y.inn = i ∧ y.alt = alt)).map (·.num)

end Go.Proofs.YtlegmmhacnbnlaaGreatDoor

/- The library's AppendSeq and Collect, over numbers. -/
namespace Go.Proofs.YtlegmmhacnbnlaaGreatDoor

open Go.RowKit Go.Shelf Go.Proofs.YtlegmmhacnbnlaaGreatDoor.Sx

attribute [local go_sem] Oper.semAt_some

/-- What AppendSeq knows once k numbers are appended. -/
def Sq (w0 : World) (bx : Nat) (js : List Nat) (k : Nat) (A : World) (TA : Nat → Prop) : Prop :=
  Lo w0 A TA ∧ w0.heap.size ≤ bx ∧ bx < A.heap.size ∧ ¬ TA bx ∧ ∃ u, A.heap[bx]? = some (.cells #[u] 32 (0, 0)) ∧ A.ownsRow bx 3 1 u k (Dg.ivs (js.take k)) ∧ ∀ b, u.ownBlock = some b → ¬ TA b

theorem Sq.mv {w0 : World} {bx : Nat} {js : List Nat} {k : Nat} {A B : World} {TA TB : Nat → Prop} (h : Sq w0 bx js k A TA) (m : Mv TA A TB B) : Sq w0 bx js k B TB := by
  obtain ⟨h1, h2, h3, h4, u, h5, h6, h7⟩ := h
  refine ⟨h1.mv m, h2, Nat.lt_of_lt_of_le h3 m.size, fun ht => h4 ((m.old _ h3).1 ht), u, (m.same _ h3 h4).trans h5, ?_, fun b hb ht => ?_⟩
  · exact own_agree (G := fun b => u.ownBlock = some b) (fun b hb => m.same b (own_exists h6 b hb).2 (h7 b hb)) h6 (fun b hb => hb)
  · exact h7 b hb ((m.old b (own_exists h6 b hb).2).1 ht)

end Go.Proofs.YtlegmmhacnbnlaaGreatDoor

