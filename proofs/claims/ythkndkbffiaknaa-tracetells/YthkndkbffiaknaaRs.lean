/- The document's Left. -/
import Derived.Test.YthkndkbffiaknaaRr
namespace Go.Proofs.Ythkndkbffiaknaa.Tz
open Go.RowKit Go.Shelf Go.Proofs.Ythkndkbffiaknaa
set_option maxRecDepth 1000000
set_option linter.unusedVariables false

def candP (l : List Ef) (out : List Int) (x : Int) : Prop := leftP l x ∧ ∀ y ∈ out, y < x
/-- What the round within knows. -/
def LeI (l : List Ef) (out : List Int) (i : Nat) (sm : Bool) (le : Int) : Prop :=
  (sm = false ∧ ∀ q, q < i → ¬ candP l out (l.getD q default).i) ∨ (sm = true ∧ candP l out le ∧ ∀ q, q < i → candP l out (l.getD q default).i → le ≤ (l.getD q default).i)
theorem LeI.skip {l : List Ef} {out : List Int} {i : Nat} {sm : Bool} {le : Int} (h : LeI l out i sm le) (hi : i < l.length) (hn : ¬ candP l out (l.getD i default).i) : LeI l out (i + 1) sm le := by
  rcases h with ⟨h1, h2⟩ | ⟨h1, h2, h3⟩
  · refine .inl ⟨h1, fun q hq => ?_⟩
    by_cases e : q = i
    · rw [e]; exact hn
    · exact h2 q (by omega)
  · refine .inr ⟨h1, h2, fun q hq hc => ?_⟩
    by_cases e : q = i
    · rw [e] at hc; exact absurd hc hn
    · exact h3 q (by omega) hc
theorem LeI.takeIt {l : List Ef} {out : List Int} {i : Nat} {sm : Bool} {le : Int} (h : LeI l out i sm le) (hc : candP l out (l.getD i default).i) (hw : sm = false ∨ (l.getD i default).i < le) : LeI l out (i + 1) true (l.getD i default).i := by
  refine .inr ⟨rfl, hc, fun q hq hq2 => ?_⟩
  by_cases e : q = i
  · rw [e]; exact Int.le_refl _
  · rcases h with ⟨h1, h2⟩ | ⟨h1, h2, h3⟩
    · exact absurd hq2 (h2 q (by omega))
    · have h4 := h3 q (by omega) hq2
      rcases hw with hw | hw
      · rw [h1] at hw; cases hw
      · omega
theorem LeI.keepIt {l : List Ef} {out : List Int} {i : Nat} {le : Int} (h : LeI l out i true le) (hw : ¬ (l.getD i default).i < le) : LeI l out (i + 1) true le := by
  rcases h with ⟨h1, _⟩ | ⟨h1, h2, h3⟩
  · cases h1
  · refine .inr ⟨rfl, h2, fun q hq hq2 => ?_⟩
    by_cases e : q = i
    · rw [e]; omega
    · exact h3 q (by omega) hq2
theorem left_is {l : List Ef} {y : Int} (h : leftP l y) : ∃ q, q < l.length ∧ (l.getD q default).i = y := by
  obtain ⟨⟨e, he, h1, _⟩, _⟩ := h
  obtain ⟨q, hq, rfl⟩ := List.mem_iff_getElem.1 he
  exact ⟨q, hq, by rw [← h1]; simp [hq]⟩
def sliceLen : Value → Nat
  | .slice _ n _ => n
  | _ => 0
theorem last_at {out : List Int} {m : Nat} (hm : out.length = m) (h0 : 0 < m) : out.getLast? = some (out.getD (m - 1) 0) := by
  rw [List.getLast?_eq_getElem?, hm, List.getD_eq_getElem?_getD, List.getElem?_eq_getElem (by omega)]
  rfl

set_option maxHeartbeats 32000000 in
theorem rleft_any (l : List Ef) (v : Value) (hl : l.length ≤ 1000000) (w : World) (h : RE w v l) :
    Calls Try.prog 18 #[v] w fun e w' => ∃ rv out, e = .returned rv ∧ RI w' rv out ∧ out.Pairwise (· < ·) ∧ (∀ x, x ∈ out ↔ leftP l x) ∧ Below w.heap.size w w' := by
  obtain ⟨a, c, hvs, hlc⟩ := h.slice
  subst hvs
  obtain ⟨n, hn⟩ : ∃ n, l.length = n := ⟨_, rfl⟩
  have HN : Hid (l.length = n) := hn
  have HRE : Hid (∀ wx, Below w.heap.size w wx → RE wx (.slice a n c) l) := fun wx hb => by rw [← hn]; exact h.later hb
  have HLN : Hid (l.length ≤ 1000000) := hl
  rw [hn] at hl ⊢
  clear h hn hlc
  go_enter Try.func18, Try.ntmps18
  go_wp2_with fail
  go_loopw [3] (fun s3 wr => ∃ (out : List Int) (v3 : Value), s3 = v3 ∧ Hid (Below w.heap.size w wr) ∧ Hid (wr.ownsRow w.heap.size 3 1 v3 out.length (ivs out)) ∧ Hid (LeftR l out)) (fun s3 _ => n + 1 - sliceLen s3)
  case atStart => exact ⟨[], _, rfl, Below.refl _ _, ⟨rfl, .inl ⟨rfl, rfl⟩⟩, left_none l⟩
  case round =>
    obtain ⟨out, v3, hv3, HB, HRW, HLR⟩ := hrel
    replace hv3 := hv3.symm
    subst hv3
    rename World => wo
    obtain ⟨m, hm⟩ : ∃ m, out.length = m := ⟨_, rfl⟩
    have HM : Hid (out.length = m) := hm
    have hri : RI wo v3 out := RI.of_owns HRW.out rfl
    obtain ⟨ra, rc, hrs, _⟩ := id hri
    subst hrs
    rw [hm] at HRW hri ⊢
    have HRI : Hid (∀ wx, Below wo.heap.size wo wx → RI wx (.slice ra m rc) out) := fun wx hb => hri.later hb
    have hmn : (m : Int) ≤ (n : Int) := by have := HLR.out.len; have := HN.out; omega
    clear hri hm
    go_wp2_with fail
    go_loopw [4, 5, 6] (fun s4 s5 s6 wr => ∃ (i : Nat) (sm : Bool) (le : Int), s6 = .int .i64 i ∧ s5 = .bool sm ∧ s4 = .int .i64 le ∧ i ≤ n ∧ Hid (Below wo.heap.size wo wr) ∧ Hid (LeI l out i sm le)) (fun _ _ s6 _ => n - (intOf s6).toNat)
    case atStart => exact ⟨0, false, 0, rfl, rfl, rfl, Nat.zero_le _, Below.refl _ _, .inl ⟨rfl, fun q hq => by omega⟩⟩
    case round =>
      obtain ⟨i, sm, le, rfl, rfl, rfl, hi, HBi, HLI⟩ := hrel
      rename World => wr
      have HBw : Hid (Below w.heap.size w wr) := HB.out.trans (HBi.out.mono HB.out.size)
      by_cases hlt : i < n
      · have hil : i < l.length := by rw [HN.out]; exact hlt
        obtain ⟨_, b, off, ha, d0, d1, d2, d3⟩ := (HRE.out wr HBw.out).at' hil
        subst ha
        have hii : (i : Int) < (n : Int) := by omega
        obtain ⟨k, hk⟩ : ∃ k, (l.getD i default).i = k := ⟨_, rfl⟩
        have HK : Hid ((l.getD i default).i = k) := hk
        rw [hk] at d0
        obtain ⟨f1, hf1⟩ : ∃ f, firstV l k false = f := ⟨_, rfl⟩
        obtain ⟨f2, hf2⟩ : ∃ f, firstV l k true = f := ⟨_, rfl⟩
        have HFF : Hid (firstV l k false = f1 ∧ firstV l k true = f2) := ⟨hf1, hf2⟩
        have HF1 : Hid _ := first_any l _ k false HLN.out wr (HRE.out wr HBw.out)
        have HF2 : Hid (∀ wx, Below w.heap.size w wx → Calls Try.prog 28 #[.slice (some ⟨b, off, none⟩) n c, .int .i64 k, .bool true, .bool false] wx fun e w' => e = .returned (.int .i64 f2) ∧ Below wx.heap.size wx w') := fun wx hb => by rw [← hf2]; exact first_any l _ k true HLN.out wx (HRE.out wx hb)
        rw [hf1] at HF1
        clear hk hf1 hf2 d1 d2 d3
        by_cases q1 : f1 < 0
        · have NC : ¬ candP l out k := fun hc => by have := (left_first.1 hc.1).1; rw [HFF.out.1] at this; exact this q1
          have HLI2 : Hid (LeI l out (i + 1) sm le) := HLI.out.skip hil (by rw [HK.out]; exact NC)
          clear NC hil
          go_wp2_with fail
          refine Calls.mono HF1.out ?_
          rintro z w1 ⟨rfl, hb1⟩
          have HBN : Hid (Below wo.heap.size wo w1) := HBi.out.trans (hb1.mono HBi.out.size)
          clear hb1 HF1 HF2 d0 HLI
          go_wp2_with fail
          go_roundw
          case rel => exact ⟨i + 1, sm, le, by go_num, rfl, rfl, by omega, HBN, HLI2⟩
          case measure => simp [intOf]; omega
        · by_cases q2 : f2 < 0
          · have HP : Hid (leftP l k) := left_first.2 ⟨by rw [HFF.out.1]; exact q1, by rw [HFF.out.2]; exact q2⟩
            go_wp2_with fail
            refine Calls.mono HF1.out ?_
            rintro z w1 ⟨rfl, hb1⟩
            have HBN1 : Hid (Below wo.heap.size wo w1) := HBi.out.trans (hb1.mono HBi.out.size)
            clear hb1 HF1 d0
            go_wp2_with fail
            refine Calls.mono (HF2.out w1 (HB.out.trans (HBN1.out.mono HB.out.size))) ?_
            rintro z w2 ⟨rfl, hb2⟩
            have HBN : Hid (Below wo.heap.size wo w2) := HBN1.out.trans (hb2.mono HBN1.out.size)
            clear hb2 HF2 HBN1
            have CAND : ∀ (hc : candP l out k), True := fun _ => trivial
            have q3 : m = 0 ∨ 0 < m := by omega
            have HCAND : Hid (candP l out k → (sm = false ∨ k < le) → LeI l out (i + 1) true k) := fun hc hw => by have := HLI.out.takeIt (by rw [HK.out]; exact hc) (by rw [HK.out]; exact hw); rw [HK.out] at this; exact this
            have HKEEP : Hid (candP l out k → sm = true → ¬ k < le → LeI l out (i + 1) true le) := fun hc hs hw => by subst hs; exact HLI.out.keepIt (by rw [HK.out]; exact hw)
            clear CAND
            rcases q3 with q3 | q3
            · have hc : candP l out k := ⟨HP.out, fun y hy => by have := List.eq_nil_of_length_eq_zero (HM.out.trans q3); rw [this] at hy; cases hy⟩
              have hm0 : ¬ (0 : Int) < (m : Int) := by omega
              clear q3
              cases sm with
              | false =>
                have HLI2 : Hid (LeI l out (i + 1) true k) := HCAND.out hc (.inl rfl)
                clear hc HLI HCAND HKEEP
                go_wp2_with fail
                go_roundw
                case rel => exact ⟨i + 1, true, k, by go_num, rfl, rfl, by omega, HBN, HLI2⟩
                case measure => simp [intOf]; omega
              | true =>
                by_cases q4 : k < le
                · have HLI2 : Hid (LeI l out (i + 1) true k) := HCAND.out hc (.inr q4)
                  clear hc HLI HCAND HKEEP
                  go_wp2_with fail
                  go_roundw
                  case rel => exact ⟨i + 1, true, k, by go_num, rfl, rfl, by omega, HBN, HLI2⟩
                  case measure => simp [intOf]; omega
                · have HLI2 : Hid (LeI l out (i + 1) true le) := HKEEP.out hc rfl q4
                  clear hc HLI HCAND HKEEP
                  go_wp2_with fail
                  go_roundw
                  case rel => exact ⟨i + 1, true, le, by go_num, rfl, rfl, by omega, HBN, HLI2⟩
                  case measure => simp [intOf]; omega
            · obtain ⟨ra', rc', hrs, _, _, hcc⟩ := HRI.out w2 HBN.out
              simp only [Value.slice.injEq] at hrs
              obtain ⟨hra9, hm9, hrc9⟩ := hrs
              clear hm9
              subst hra9
              subst hrc9
              obtain ⟨gb, go, hga, y0⟩ := hcc (m - 1) (by have := HM.out; omega)
              subst hga
              have hz := last_at HM.out q3
              obtain ⟨z, hz9⟩ : ∃ z, out.getD (m - 1) 0 = z := ⟨_, rfl⟩
              rw [hz9] at y0 hz
              have hbl := @behind_last out HLR.out.up k z hz
              obtain ⟨m9, hm9⟩ : ∃ q, m = q + 1 := ⟨m - 1, by omega⟩
              rw [hm9, Nat.add_sub_cancel] at y0
              have hm10 : (m : Int) - 1 = (m9 : Int) := by omega
              have hm11 : (m9 : Int) < (m : Int) := by omega
              have hm12 : (0 : Int) < (m : Int) := by omega
              have HWR : Hid (wrap64 ((m : Int) - 1) = (m9 : Int)) := by show _ = _; rw [hm10, Go.IntWalk.wrap64_in _ (by omega)]
              clear hcc hz hz9 hm9
              by_cases q5 : k ≤ z
              · have NC : ¬ candP l out k := fun hc => by have := hbl.1 hc.2; omega
                have HLI2 : Hid (LeI l out (i + 1) sm le) := HLI.out.skip hil (by rw [HK.out]; exact NC)
                clear NC hbl HLI HCAND HKEEP hil
                go_wp2_with fail
                go_roundw
                case rel => exact ⟨i + 1, sm, le, by go_num, rfl, rfl, by omega, HBN, HLI2⟩
                case measure => simp [intOf]; omega
              · have hc : candP l out k := ⟨HP.out, hbl.2 (by omega)⟩
                clear hbl
                cases sm with
                | false =>
                  have HLI2 : Hid (LeI l out (i + 1) true k) := HCAND.out hc (.inl rfl)
                  clear hc HLI HCAND HKEEP
                  go_wp2_with fail
                  go_roundw
                  case rel => exact ⟨i + 1, true, k, by go_num, rfl, rfl, by omega, HBN, HLI2⟩
                  case measure => simp [intOf]; omega
                | true =>
                  by_cases q4 : k < le
                  · have HLI2 : Hid (LeI l out (i + 1) true k) := HCAND.out hc (.inr q4)
                    clear hc HLI HCAND HKEEP
                    go_wp2_with fail
                    go_roundw
                    case rel => exact ⟨i + 1, true, k, by go_num, rfl, rfl, by omega, HBN, HLI2⟩
                    case measure => simp [intOf]; omega
                  · have HLI2 : Hid (LeI l out (i + 1) true le) := HKEEP.out hc rfl q4
                    clear hc HLI HCAND HKEEP
                    go_wp2_with fail
                    go_roundw
                    case rel => exact ⟨i + 1, true, le, by go_num, rfl, rfl, by omega, HBN, HLI2⟩
                    case measure => simp [intOf]; omega
          · have NC : ¬ candP l out k := fun hc => by have := (left_first.1 hc.1).2; rw [HFF.out.2] at this; exact q2 this
            have HLI2 : Hid (LeI l out (i + 1) sm le) := HLI.out.skip hil (by rw [HK.out]; exact NC)
            clear NC hil
            go_wp2_with fail
            refine Calls.mono HF1.out ?_
            rintro z w1 ⟨rfl, hb1⟩
            have HBN1 : Hid (Below wo.heap.size wo w1) := HBi.out.trans (hb1.mono HBi.out.size)
            clear hb1 HF1 d0 HLI
            go_wp2_with fail
            refine Calls.mono (HF2.out w1 (HB.out.trans (HBN1.out.mono HB.out.size))) ?_
            rintro z w2 ⟨rfl, hb2⟩
            have HBN : Hid (Below wo.heap.size wo w2) := HBN1.out.trans (hb2.mono HBN1.out.size)
            clear hb2 HF2 HBN1
            go_wp2_with fail
            go_roundw
            case rel => exact ⟨i + 1, sm, le, by go_num, rfl, rfl, by omega, HBN, HLI2⟩
            case measure => simp [intOf]; omega
      · obtain rfl : i = n := by omega
        cases sm with
        | false =>
          have HD : Hid (∀ x, x ∈ out ↔ leftP l x) := HLR.out.done (fun y hy hgt => by
            rcases HLI.out with ⟨_, h2⟩ | ⟨h1, _⟩
            · obtain ⟨q, hq, hqy⟩ := left_is hy
              exact h2 q (by rw [← HN.out]; exact hq) (by rw [hqy]; exact ⟨hy, hgt⟩)
            · cases h1)
          clear HLI
          go_wp2_with fail
          go_ret
          exact ⟨_, _, rfl, HRI.out wr HBi.out, HLR.out.up, HD.out, HBw.out⟩
        | true =>
          have HPU : Hid (LeftR l (out ++ [le])) := by
            rcases HLI.out with ⟨h1, _⟩ | ⟨_, h2, h3⟩
            · cases h1
            · exact HLR.out.push h2.1 h2.2 (fun y hy hgt => by
                obtain ⟨q, hq, hqy⟩ := left_is hy
                rw [← hqy]
                exact h3 q (by rw [← HN.out]; exact hq) (by rw [hqy]; exact ⟨hy, hgt⟩))
          have hown : (wr.alloc (.cells #[.int .i64 le] 3)).ownsRow w.heap.size 3 1 (.slice ra m rc) m (ivs out) := owns_later (owns_later HRW.out HBi.out) (bl1 _ _)
          have hle : w.heap.size ≤ (wr.alloc (.cells #[.int .i64 le] 3)).heap.size := by have := HBw.out.size; simp; omega
          have hmk : m ≤ 1000000 := by omega
          clear HLI
          go_wp2_with (first | (at_builtin; refine append_int9 rfl _ _ rfl w.heap.size (.slice ra m rc) m out rfl hown ⟨wr.heap.size, 0, none⟩ le rfl (cell_new wr le) hmk hle ?_; intro v7 w7 hr7 hg7))
          have HB7 : Hid (Below w.heap.size w w7) := by
            have h1 := HBw.out.trans ((bl1 wr (.cells #[.int .i64 le] 3)).mono HBw.out.size)
            exact h1.grown hg7 hle (fun q hq => (hown.lt q hq).1)
          have HR7 : Hid (w7.ownsRow w.heap.size 3 1 v7 (out ++ [le]).length (ivs (out ++ [le]))) := by
            rw [List.length_append, HM.out]
            exact hr7
          have hsl : sliceLen v7 = m + 1 := by
            obtain ⟨a9, c9, e9, _⟩ := RI.of_owns (l := out ++ [le]) hr7 (by rw [List.length_append, HM.out]; rfl)
            rw [e9]
            show (out ++ [le]).length = _
            rw [List.length_append, HM.out]
            rfl
          refine ⟨⟨_, v7, rfl, HB7, HR7, HPU⟩, ?_⟩
          show i + 1 - sliceLen v7 < i + 1 - m
          rw [hsl]
          omega
end Go.Proofs.Ythkndkbffiaknaa.Tz
