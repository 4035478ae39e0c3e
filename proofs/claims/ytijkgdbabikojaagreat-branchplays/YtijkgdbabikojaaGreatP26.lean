/- Texts of the seat, packed: Ia. -/
import Derived.Test.YtijkgdbabikojaaGreatP25
import Derived.Test.YtijkgdbabikojaaGreatP03
import Derived.Test.YtijkgdbabikojaaGreatP09
/- The walks over the document's Text, Told and Begin of layer 11. -/
namespace Go.Proofs.YtijkgdbabikojaaGreat
open Go.RowKit
open Dk (DS DK Okay Small RV RR Kp cutP appendP syncP hasB hasB_true)
set_option maxRecDepth 1000000
set_option linter.unusedVariables false

theorem text_nil : textP [] = Fr.frameP [] := by simp [textP, pieces, piecesF, Fr.putP]

theorem piecesF_more : ∀ (f g : Nat) (s : List UInt8), s.length ≤ f → s.length ≤ g → piecesF f s = piecesF g s
  | 0, 0, s, _, _ => rfl
  | 0, g + 1, s, h, _ => by
    have : s = [] := List.eq_nil_of_length_eq_zero (by omega)
    subst this
    simp [piecesF]
  | f + 1, 0, s, _, h => by
    have : s = [] := List.eq_nil_of_length_eq_zero (by omega)
    subst this
    simp [piecesF]
  | f + 1, g + 1, s, h1, h2 => by
    rw [piecesF, piecesF]
    split
    · rfl
    · rename_i hne
      have hp : 0 < s.length := List.length_pos_iff.2 hne
      rw [piecesF_more f g (s.drop 1000) (by rw [List.length_drop]; omega) (by rw [List.length_drop]; omega)]

theorem text_step (s : List UInt8) (h : 0 < s.length) : textP s = Fr.frameP (s.take (min s.length 1000)) ++ textP (s.drop (min s.length 1000)) := by
  have h0 : ¬ s = [] := by intro e; subst e; simp at h
  have e1 : s.take (min s.length 1000) = s.take 1000 := by
    by_cases hl : s.length ≤ 1000
    · rw [Nat.min_eq_left hl, List.take_length, List.take_of_length_le hl]
    · rw [Nat.min_eq_right (by omega)]
  have e2 : s.drop (min s.length 1000) = s.drop 1000 := by
    by_cases hl : s.length ≤ 1000
    · rw [Nat.min_eq_left hl, List.drop_length, List.drop_of_length_le hl]
    · rw [Nat.min_eq_right (by omega)]
  rw [e1, e2]
  unfold textP pieces
  obtain ⟨n, hn⟩ : ∃ n, s.length = n + 1 := ⟨s.length - 1, by omega⟩
  rw [hn, piecesF, if_neg h0, List.cons_append, Fr.putP_cons, piecesF_more n (s.drop 1000).length _ (by rw [List.length_drop]; omega) (Nat.le_refl _)]

theorem put_len2 : ∀ L : List (List UInt8), (Fr.putP L).length = L.flatten.length + 6 * L.length
  | [] => rfl
  | b :: L => by
    rw [Fr.putP_cons, List.length_append, Fr.frameP_len, List.flatten_cons, List.length_append, List.length_cons, put_len2 L]
    omega
theorem text_short (s : List UInt8) : 1000 * (textP s).length ≤ 1006 * s.length + 12000 := by
  unfold textP
  rw [put_len2, List.flatten_append, pieces_flat]
  have := pieces_few s.length s
  have h : (pieces s).length = (piecesF s.length s).length := rfl
  simp only [List.length_append, List.flatten_cons, List.flatten_nil, List.length_nil, List.length_cons, List.nil_append]
  omega

set_option maxHeartbeats 400000 in
theorem rtext_any (s : List UInt8) (w : World) (hs : s.length ≤ 1000000) :
    Calls Tryz.prog 64 #[.string ⟨s.toArray⟩] w fun e w' => e = .returned (.string ⟨(textP s).toArray⟩) ∧ Below w.heap.size w w' := by
  have HF : Hid (∀ (l : List UInt8) (wx : World), l.length ≤ 1024 → Calls Tryz.prog 66 #[.string ⟨l.toArray⟩] wx fun e w' => e = .returned (.string ⟨(Fr.frameP l).toArray⟩) ∧ Below wx.heap.size wx w') := fun l wx h => Fr.rframe_any l wx h
  have HT : Hid (1000 * (textP s).length ≤ 1006 * s.length + 12000) := text_short s
  obtain ⟨X, HX⟩ : ∃ X, Hid (textP s = X) := ⟨_, rfl⟩
  rw [HX.out] at HT ⊢
  have HS : Hid (s.length ≤ 1000000) := hs
  go_enter Tryz.func64, Tryz.ntmps64
  go_wp2_with fail
  go_loopw [0, 3] (fun sv ov wr => ∃ (t o : List UInt8), sv = .string ⟨t.toArray⟩ ∧ ov = .string ⟨o.toArray⟩ ∧ Hid (o ++ textP t = X ∧ t.length ≤ 1000000) ∧ Hid (Below w.heap.size w wr)) (fun sv _ _ => match sv with | .string b => b.size | _ => 0)
  case atStart => exact ⟨s, [], rfl, rfl, ⟨by rw [List.nil_append]; exact HX.out, HS.out⟩, Below.refl _ _⟩
  case round =>
    obtain ⟨t, o, rfl, rfl, HI, HB⟩ := hrel
    have htl := HI.out.2
    have hsz : (⟨t.toArray⟩ : ByteArray).size = t.length := by simp [ByteArray.size]
    have hoz : (⟨o.toArray⟩ : ByteArray).size = o.length := by simp [ByteArray.size]
    have hX : o.length + (textP t).length = X.length := by rw [← HI.out.1, List.length_append]
    have hXl := HT.out
    have hsl := HS.out
    by_cases hp : 0 < t.length
    · have hpi : (0 : Int) < (t.length : Int) := by omega
      have hst := text_step t hp
      by_cases hc : t.length ≤ 1000
      · have hci : (t.length : Int) ≤ 1000 := by omega
        rw [Nat.min_eq_left (by omega), List.take_length, List.drop_length] at hst
        have H1 : Hid _ := HF.out t wr (by omega)
        have hfl : (Fr.frameP t).length = t.length + 6 := Fr.frameP_len t
        have hfz : (⟨(Fr.frameP t).toArray⟩ : ByteArray).size = t.length + 6 := by rw [← hfl]; simp [ByteArray.size]
        have hol : o.length + (t.length + 6) ≤ 10000000 := by
          rw [hst, List.length_append, hfl] at hX
          omega
        have HI2 : Hid ((o ++ Fr.frameP t) ++ textP [] = X ∧ ([] : List UInt8).length ≤ 1000000) := ⟨by rw [List.append_assoc, ← hst]; exact HI.out.1, by simp⟩
        have hcat := Fr.bcat o (Fr.frameP t)
        obtain ⟨F, HFF⟩ : ∃ F, Hid (Fr.frameP t = F) := ⟨_, rfl⟩
        rw [HFF.out] at hfz hcat HI2 H1
        have hx1 : (⟨t.toArray⟩ : ByteArray).extract 0 t.length = ⟨t.toArray⟩ := by rw [Fr.bext, List.take_length, List.drop_zero]
        have hx2 : (⟨t.toArray⟩ : ByteArray).extract t.length t.length = ⟨([] : List UInt8).toArray⟩ := by rw [Fr.bext, List.take_length, List.drop_length]
        clear hX hst hfl HFF HI hXl
        go_wp2_with fail
        try rw [hx1]
        refine Calls.mono H1.out ?_
        rintro e w2 ⟨rfl, hb2⟩
        have HB2 : Hid (Below w.heap.size w w2) := HB.out.trans (hb2.mono HB.out.size)
        clear hb2 H1 HB
        go_wp2_with fail
        go_roundw
        case rel => exact ⟨[], o ++ F, rfl, rfl, HI2, HB2⟩
        case measure => simp [ByteArray.size]; omega
      · have hci : ¬ (t.length : Int) ≤ 1000 := by omega
        have hci2 : (1000 : Int) ≤ (t.length : Int) := by omega
        rw [Nat.min_eq_right (by omega)] at hst
        have h1 : ∀ wx, _ := Fr.str_to t 1000 1000 rfl (by omega)
        have h2 : ∀ wx, _ := Fr.str_from t 1000 (by omega)
        have hAl : (t.take 1000).length = 1000 := by rw [List.length_take]; omega
        have H1 : Hid _ := HF.out (t.take 1000) wr (by omega)
        have hfl : (Fr.frameP (t.take 1000)).length = 1006 := by rw [Fr.frameP_len, hAl]
        have hfz : (⟨(Fr.frameP (t.take 1000)).toArray⟩ : ByteArray).size = 1006 := by rw [← hfl]; simp [ByteArray.size]
        have hol : o.length + 1006 ≤ 10000000 := by
          rw [hst, List.length_append, hfl] at hX
          omega
        have HI2 : Hid ((o ++ Fr.frameP (t.take 1000)) ++ textP (t.drop 1000) = X ∧ (t.drop 1000).length ≤ 1000000) := ⟨by rw [List.append_assoc, ← hst]; exact HI.out.1, by rw [List.length_drop]; omega⟩
        have HDL : Hid ((t.drop 1000).length < t.length) := by show _ < _; rw [List.length_drop]; omega
        have hcat := Fr.bcat o (Fr.frameP (t.take 1000))
        obtain ⟨F, HFF⟩ : ∃ F, Hid (Fr.frameP (t.take 1000) = F) := ⟨_, rfl⟩
        rw [HFF.out] at hfz hcat HI2 H1
        obtain ⟨A, HA⟩ : ∃ A, Hid (t.take 1000 = A) := ⟨_, rfl⟩
        obtain ⟨D, HD⟩ : ∃ D, Hid (t.drop 1000 = D) := ⟨_, rfl⟩
        rw [HA.out] at h1 H1
        rw [HD.out] at h2 HI2 HDL
        have hx1 : (⟨t.toArray⟩ : ByteArray).extract 0 1000 = ⟨A.toArray⟩ := by rw [Fr.bext, List.drop_zero, HA.out]
        have hx2 : (⟨t.toArray⟩ : ByteArray).extract 1000 t.length = ⟨D.toArray⟩ := by rw [Fr.bext, List.take_length, HD.out]
        clear hX hst hfl HFF HI hAl hXl h1 h2
        go_wp2_with fail
        try rw [hx1]
        refine Calls.mono H1.out ?_
        rintro e w2 ⟨rfl, hb2⟩
        have HB2 : Hid (Below w.heap.size w w2) := HB.out.trans (hb2.mono HB.out.size)
        clear hb2 H1 HB
        go_wp2_with fail
        go_roundw
        case rel => exact ⟨D, o ++ F, rfl, rfl, HI2, HB2⟩
        case measure => have := HDL.out; simp [ByteArray.size]; omega
    · have h0 : t = [] := List.eq_nil_of_length_eq_zero (by omega)
      subst h0
      have H1 : Hid _ := HF.out [] wr (by simp)
      rw [← text_nil] at H1
      have hfz : (⟨(textP []).toArray⟩ : ByteArray).size = 6 := by rw [text_nil]; simp [ByteArray.size, Fr.frameP_len]
      have hol : o.length + 6 ≤ 10000000 := by
        rw [text_nil, Fr.frameP_len] at hX
        simp at hX
        omega
      have hcat := Fr.bcat o (textP [])
      rw [HI.out.1] at hcat
      obtain ⟨F, HFF⟩ : ∃ F, Hid (textP [] = F) := ⟨_, rfl⟩
      rw [HFF.out] at hfz hcat H1
      clear hX HI hXl
      go_wp2_with fail
      refine Calls.mono H1.out ?_
      rintro e w2 ⟨rfl, hb2⟩
      have HB2 : Hid (Below w.heap.size w w2) := HB.out.trans (hb2.mono HB.out.size)
      clear hb2 H1 HB
      go_wp2_with fail
      go_ret
      exact ⟨rfl, HB2.out⟩

/-- The file that lies last. -/
theorem RV.last {w : World} {r g : Nat} {S : DS} (h : RV w r g S) (hp : 1 ≤ S.n) : w.cell? ⟨g, (S.n - 1) * 2, none⟩ = some (.string ⟨(lastB S).toArray⟩) := (h.file (S.n - 1) (by omega)).1

theorem all_short (l : List UInt8) : ∀ (f p : Nat), p ≤ l.length → p + (Fr.allP l f p).1.flatten.length ≤ l.length
  | 0, p, h => by simpa [Fr.allP] using h
  | f + 1, p, h => by
    by_cases hz : (Fr.takeP l p).2.2 = 0
    · have hn := Fr.takeP_next hz
      have hl := hn.2.1
      have ih := all_short l f (Fr.takeP l p).2.1 hl
      rw [Fr.allP_step hz]
      simp only [List.flatten_cons, List.length_append]
      omega
    · rw [Fr.allP_stop hz]
      simpa using h

theorem all_count (l : List UInt8) : ∀ (f p : Nat), (Fr.allP l f p).1.length ≤ f
  | 0, p => by simp [Fr.allP]
  | f + 1, p => by
    by_cases hz : (Fr.takeP l p).2.2 = 0
    · have ih := all_count l f (Fr.takeP l p).2.1
      rw [Fr.allP_step hz]
      simp only [List.length_cons]
      omega
    · rw [Fr.allP_stop hz]
      simp

theorem take_flat (L : List (List UInt8)) (k : Nat) : (L.take k).flatten.length ≤ L.flatten.length := by
  have := congrArg List.length (congrArg List.flatten (List.take_append_drop k L))
  rw [List.flatten_append, List.length_append] at this
  omega

set_option maxHeartbeats 4000000 in
theorem rtold_any (r g : Nat) (S : DS) (w : World) (h : RV w r g S) (ho : Okay S) (hl : (lastB S).length ≤ 100000) :
    Calls Tryz.prog 32 #[.pointer (some ⟨r, 0, none⟩)] w fun e w' => e = .returned (.tuple #[tV (toldP (lastB S)), .int .i64 (tE (toldP (lastB S)))]) ∧ Below w.heap.size w w' := by
  have hpos := ho.pos
  have hfew := ho.few
  have c0 := h.sl
  have c1 := RV.last h hpos
  obtain ⟨m, HM⟩ : ∃ m, Hid (S.n = m + 1) := ⟨S.n - 1, by show _ = _; omega⟩
  rw [HM.out] at c0 c1 hfew
  rw [Nat.add_sub_cancel] at c1
  clear hpos
  obtain ⟨B, HB⟩ : ∃ B, Hid (lastB S = B) := ⟨_, rfl⟩
  rw [HB.out] at c1 hl ⊢
  have H1 : Hid (∀ wx, Below w.heap.size w wx → Calls Tryz.prog 67 #[.string ⟨B.toArray⟩] wx fun e w' => Below wx.heap.size wx w' ∧ ∃ a c, e = .returned (.tuple #[.slice a (Fr.allP B (B.length + 1) 0).1.length c, .int .i64 ((Fr.allP B (B.length + 1) 0).2.1 : Nat), .int .i64 ((Fr.allP B (B.length + 1) 0).2.2 : Nat)]) ∧ Fr.RS w' (.slice a (Fr.allP B (B.length + 1) 0).1.length c) (Fr.allP B (B.length + 1) 0).1) := fun wx hb => by
    refine Calls.mono (Fr.rall_any B wx hl) ?_
    rintro e w' ⟨q1, v, q2, q3⟩
    have q4 := Fr.RS.of_owns q3 rfl
    obtain ⟨a, c, rfl, _⟩ := id q4
    exact ⟨q1, a, c, q2, q4⟩
  have HAS := all_short B (B.length + 1) 0 (Nat.zero_le _)
  have HAC := all_count B (B.length + 1) 0
  have HTP : Hid (toldP B = if (Fr.allP B (B.length + 1) 0).1.flatten.length ≤ 65536 ∧ textP (Fr.allP B (B.length + 1) 0).1.flatten = B then some (Fr.allP B (B.length + 1) 0).1.flatten else none) := rfl
  obtain ⟨RES, HRES⟩ : ∃ R, Hid (toldP B = R) := ⟨_, rfl⟩
  rw [HRES.out] at HTP ⊢
  clear HRES
  generalize Fr.allP B (B.length + 1) 0 = R at *
  obtain ⟨L, e1, e2⟩ := R
  simp only at H1 HTP HAS HAC
  rw [Nat.zero_add] at HAS
  have HLL : Hid (L.flatten.length ≤ 100000) := by show _ ≤ _; omega
  have HD0 : Hid (Below w.heap.size w w.drew) := (Below.refl _ _).drew
  have HCN : Hid (L.length ≤ 100001) := by show _ ≤ _; omega
  clear HAS HAC h ho
  go_enter Tryz.func32, Tryz.ntmps32
  go_wp2_with fail
  go_region
  have K1 : Hid _ := H1.out w.drew HD0.out
  clear H1 c0 c1 hfew
  go_wp2_with fail
  refine Calls.mono K1.out ?_
  rintro e w1 ⟨hb1, va, vc, rfl, hrs⟩
  have HB1 : Hid (Below w.heap.size w w1) := HD0.out.trans (hb1.mono HD0.out.size)
  obtain ⟨va', vc', ev, hcc, _, hcell⟩ := hrs
  simp only [Value.slice.injEq] at ev
  obtain ⟨rfl, _, rfl⟩ := ev
  have HCL : Hid _ := hcell
  obtain ⟨n, HN⟩ : ∃ n, Hid (L.length = n) := ⟨_, rfl⟩
  rw [HN.out] at hcc ⊢
  have hn : n ≤ 100001 := by rw [← HN.out]; exact HCN.out
  clear hcell hb1 K1 HD0
  go_wp2_with fail
  go_loopw [8, 9] (fun sv iv wr => ∃ (k : Nat), k ≤ n ∧ iv = .int .i64 k ∧ sv = .string ⟨((L.take k).flatten).toArray⟩ ∧ wr = w1) (fun _ iv _ => n - (intOf iv).toNat)
  case atStart => exact ⟨0, Nat.zero_le _, rfl, rfl, rfl⟩
  case round =>
    obtain ⟨k, hk, rfl, rfl, rfl⟩ := hrel
    by_cases hlt : k < n
    · have hki : (k : Int) < (n : Int) := by omega
      have hx : L[k]? = some (L.getD k []) := by
        rw [List.getElem?_eq_getElem (by rw [HN.out]; exact hlt), List.getD_eq_getElem?_getD, List.getElem?_eq_getElem (by rw [HN.out]; exact hlt)]
        rfl
      obtain ⟨gb, off, rfl, cx⟩ := HCL.out k _ hx
      have h1 : (L.take (k + 1)).flatten = (L.take k).flatten ++ L.getD k [] := by
        rw [List.take_add_one, hx]
        simp
      have HFL : Hid ((L.take (k + 1)).flatten.length ≤ 100000) := Nat.le_trans (take_flat L _) HLL.out
      obtain ⟨x, HX⟩ : ∃ x, Hid (L.getD k [] = x) := ⟨_, rfl⟩
      obtain ⟨y, HY⟩ : ∃ y, Hid ((L.take k).flatten = y) := ⟨_, rfl⟩
      rw [HX.out] at cx h1
      rw [HY.out] at h1 ⊢
      have hsum : y.length + x.length ≤ 100000 := by
        have := HFL.out
        rw [h1, List.length_append] at this
        exact this
      have hyz : (⟨y.toArray⟩ : ByteArray).size = y.length := by simp [ByteArray.size]
      have hxz : (⟨x.toArray⟩ : ByteArray).size = x.length := by simp [ByteArray.size]
      have hcat := Fr.bcat y x
      have HH1 : Hid _ := h1
      clear h1 hx HX HY HFL
      go_wp2_with fail
      go_roundw
      case rel => exact ⟨k + 1, by omega, by go_num, by rw [HH1.out], trivial⟩
      case measure => simp [intOf]; omega
    · have hkn : k = n := by omega
      subst hkn
      have e5 : (L.take k).flatten = L.flatten := by rw [← HN.out, List.take_length]
      rw [e5]
      obtain ⟨s, HS⟩ : ∃ s, Hid (L.flatten = s) := ⟨_, rfl⟩
      rw [HS.out] at HLL HTP ⊢
      have hsl := HLL.out
      have hsz : (⟨s.toArray⟩ : ByteArray).size = s.length := by simp [ByteArray.size]
      clear e5
      by_cases hbig : 65536 < s.length
      · have hbi : (65536 : Int) < (s.length : Int) := by omega
        rw [if_neg (by omega)] at HTP
        go_wp2_with fail
        go_ret2
        rw [HTP.out]
        exact ⟨rfl, HB1.out⟩
      · have hbi : ¬ (65536 : Int) < (s.length : Int) := by omega
        have K2 : Hid _ := rtext_any s wr (by omega)
        obtain ⟨X, HXX⟩ : ∃ X, Hid (textP s = X) := ⟨_, rfl⟩
        rw [HXX.out] at K2 HTP
        clear HXX
        by_cases hxb : X = B
        · subst hxb
          rw [if_pos ⟨by omega, rfl⟩] at HTP
          go_wp2_with fail
          refine Calls.mono K2.out ?_
          rintro e w2 ⟨rfl, hb2⟩
          have HB2 : Hid _ := HB1.out.trans (hb2.mono HB1.out.size)
          clear hb2 K2
          go_wp2_with fail
          go_ret2
          rw [HTP.out]
          exact ⟨rfl, HB2.out⟩
        · have hxb2 : (!X == B) = true := by simpa using hxb
          rw [if_neg (fun h => hxb h.2)] at HTP
          go_wp2_with fail
          refine Calls.mono K2.out ?_
          rintro e w2 ⟨rfl, hb2⟩
          have HB2 : Hid _ := HB1.out.trans (hb2.mono HB1.out.size)
          clear hb2 K2
          go_wp2_with fail
          go_ret2
          rw [HTP.out]
          exact ⟨rfl, HB2.out⟩

theorem RR.then {r g : Nat} {w w1 w2 : World} {res : Int × DS} {e : Ending} (h : Kp (fun k => k = r ∨ k = g) w w1) (k : RR r g w1 res e w2) : RR r g w res e w2 := ⟨k.1, k.2.1, h.trans k.2.2 (fun x hx _ => hx)⟩
theorem kp_below {r g : Nat} {w w1 : World} (h : Below w.heap.size w w1) : Kp (fun k => k = r ∨ k = g) w w1 := Kp.of_below _ h

set_option maxHeartbeats 4000000 in
theorem rbegin_any (r g : Nat) (S : DS) (s : List UInt8) (w : World) (h : RV w r g S) (ho : Okay S) (hs : Small 1000000 10000000000 S) (hl : (lastB S).length ≤ 65536) (hsl : s.length ≤ 1000000) :
    Calls Tryz.prog 28 #[.pointer (some ⟨r, 0, none⟩), .string ⟨s.toArray⟩] w (RR r g w (beginP S s)) := by
  have hpos := ho.pos
  have hfew := ho.few
  have H1 : Hid _ := rtold_any r g S w h ho (by omega)
  rw [← told_eq _ hl] at H1
  have hsz : (⟨s.toArray⟩ : ByteArray).size = s.length := by simp [ByteArray.size]
  obtain ⟨RES, HRES⟩ : ∃ R, Hid (beginP S s = R) := ⟨_, rfl⟩
  rw [HRES.out]
  unfold beginP at HRES
  have HV : Hid _ := h
  by_cases hbig : 65536 < s.length
  · have hbi : (65536 : Int) < (s.length : Int) := by omega
    rw [if_pos hbig] at HRES
    clear H1 h ho
    go_enter Tryz.func28, Tryz.ntmps28
    go_wp2_with fail
    go_ret
    rw [← HRES.out]
    exact ⟨rfl, HV.out, Kp.refl _ _⟩
  have hbi : ¬ (65536 : Int) < (s.length : Int) := by omega
  have HTX := text_short s
  have HTL : Hid ((textP s).length ≤ 100000) := by show _ ≤ _; omega
  rw [if_neg hbig] at HRES
  have HLast : Hid (∀ wx, RV wx r g S → wx.cell? ⟨r, 0, none⟩ = some (.slice (some ⟨g, 0, none⟩) S.n S.n) ∧ wx.cell? ⟨g, (S.n - 1) * 2, none⟩ = some (.string ⟨(lastB S).toArray⟩)) := fun wx hx => ⟨hx.sl, RV.last hx hpos⟩
  have hh : hasB S ((S.n : Int) - 1) = true := decide_eq_true (by omega)
  have hrd : Dk.readP S ((S.n : Int) - 1) = lastB S := by
    unfold Dk.readP lastB
    rw [if_pos hh]
    congr 2
    omega
  have HCut : Hid (∀ wx, RV wx r g S → Calls Tryz.prog 47 #[.pointer (some ⟨r, 0, none⟩), .int .i64 ((S.n - 1 : Nat) : Int), .int .i64 0] wx (RR r g wx (cutP S ((S.n : Int) - 1) 0))) := fun wx hx => by
    have := Dk.rcut_any ((S.n : Int) - 1) 0 hx ho (Dk.small_mono hs (by omega) (by omega))
    rw [show ((S.n : Int) - 1) = ((S.n - 1 : Nat) : Int) by omega] at this ⊢
    exact this
  have ho1 := okay_trim ho ((S.n : Int) - 1) 0
  have hs1 : Small 1000000 10001000000 (trimP S ((S.n : Int) - 1) 0).2 := small_trim hs ((S.n : Int) - 1) 0
  have ho2 := Dk.okay_append ho1 ((S.n : Int) - 1) (textP s)
  have hs2 : Small (1000000 + (textP s).length) 10001000000 (appendP (trimP S ((S.n : Int) - 1) 0).2 ((S.n : Int) - 1) (textP s)).2 := Dk.small_append hs1 ((S.n : Int) - 1) (textP s)
  have hT1 : trimP S ((S.n : Int) - 1) 0 = if ((lastB S).length : Int) = 0 then (0, S) else cutP S ((S.n : Int) - 1) 0 := by unfold trimP; rw [hrd]
  have HAp : Hid (∀ wx, RV wx r g (trimP S ((S.n : Int) - 1) 0).2 → Calls Tryz.prog 25 #[.pointer (some ⟨r, 0, none⟩), .int .i64 ((S.n - 1 : Nat) : Int), .string ⟨(textP s).toArray⟩] wx (RR r g wx (appendP (trimP S ((S.n : Int) - 1) 0).2 ((S.n : Int) - 1) (textP s)))) := fun wx hx => by
    have := Dk.rappend_any ((S.n : Int) - 1) (textP s) hx ho1 (Dk.small_mono hs1 (by omega) (by omega)) (by omega)
    rw [show ((S.n : Int) - 1) = ((S.n - 1 : Nat) : Int) by omega] at this ⊢
    exact this
  have HSy : Hid (∀ wx, RV wx r g (appendP (trimP S ((S.n : Int) - 1) 0).2 ((S.n : Int) - 1) (textP s)).2 → Calls Tryz.prog 21 #[.pointer (some ⟨r, 0, none⟩), .int .i64 ((S.n - 1 : Nat) : Int)] wx (RR r g wx (syncP (appendP (trimP S ((S.n : Int) - 1) 0).2 ((S.n : Int) - 1) (textP s)).2 ((S.n : Int) - 1)))) := fun wx hx => by
    have := Dk.rsync_any ((S.n : Int) - 1) hx ho2 (Dk.small_mono hs2 (by omega) (by omega))
    rw [show ((S.n : Int) - 1) = ((S.n - 1 : Nat) : Int) by omega] at this ⊢
    exact this
  have HTe : Hid (∀ wx, Calls Tryz.prog 64 #[.string ⟨s.toArray⟩] wx fun e w' => e = .returned (.string ⟨(textP s).toArray⟩) ∧ Below wx.heap.size wx w') := fun wx => rtext_any s wx hsl
  unfold replP at HRES
  clear hs1 hs2 ho1 ho2 hrd hh HTX
  obtain ⟨m, HM⟩ : ∃ m, Hid (S.n = m + 1) := ⟨S.n - 1, by show _ = _; omega⟩
  obtain ⟨I, HI⟩ : ∃ I, Hid ((S.n : Int) - 1 = I) := ⟨_, rfl⟩
  rw [HI.out] at HRES HCut HAp HSy hT1
  have hm1 : S.n - 1 = m := by rw [HM.out]; omega
  rw [hm1] at HCut HAp HSy HLast
  rw [HM.out] at HLast hfew
  generalize trimP S I 0 = R1 at *
  generalize appendP R1.2 I (textP s) = R2 at *
  generalize syncP R2.2 I = R3 at *
  generalize cutP S I 0 = RC at *
  generalize lastB S = B at *
  generalize textP s = X at *
  generalize toldG B = o at *
  clear h ho hs HM HI hm1 hpos
  have HT1 : Hid _ := hT1
  clear hT1
  go_enter Tryz.func28, Tryz.ntmps28
  go_wp2_with fail
  refine Calls.mono H1.out ?_
  rintro e w1 ⟨rfl, hb1⟩
  have HV1 : Hid _ := Dk.RV.later HV.out hb1
  have HK1 : Hid (Kp (fun k => k = r ∨ k = g) w w1) := kp_below hb1
  clear hb1 H1
  cases o with
  | some t =>
    rw [if_pos (show (some t).isSome = true from rfl)] at HRES
    unfold tV tE
    simp only [Option.isSome_some, Option.getD_some]
    go_wp2_with fail
    go_ret
    rw [← HRES.out]
    exact ⟨rfl, HV1.out, HK1.out⟩
  | none =>
    rw [if_neg (show ¬ (none : Option (List UInt8)).isSome = true by simp)] at HRES
    unfold tV tE
    simp only [Option.isSome_none, Option.getD_none]
    obtain ⟨c0, c1⟩ := HLast.out w1 HV1.out
    have hbz : (⟨B.toArray⟩ : ByteArray).size = B.length := by simp [ByteArray.size]
    by_cases hB : B = []
    · subst hB
      have e1 : R1 = (0, S) := HT1.out
      subst e1
      rw [if_neg (by simp)] at HRES
      have KT : Hid _ := HTe.out w1
      go_wp2_with fail
      refine Calls.mono KT.out ?_
      rintro e w3 ⟨rfl, hb3⟩
      have HV3 : Hid _ := Dk.RV.later HV1.out hb3
      have HK3 : Hid (Kp (fun k => k = r ∨ k = g) w w3) := HK1.out.trans (kp_below (r := r) (g := g) hb3) (fun x hx _ => hx)
      have KA : Hid _ := HAp.out w3 HV3.out
      clear hb3 KT
      go_wp2_with fail
      refine Calls.mono KA.out ?_
      rintro e w4 ⟨rfl, q2, q3⟩
      have HV4 : Hid _ := q2
      have HK4 : Hid (Kp (fun k => k = r ∨ k = g) w w4) := HK3.out.trans q3 (fun x hx _ => hx)
      have KS : Hid _ := HSy.out w4 q2
      clear q2 q3 KA
      by_cases h2 : R2.1 = 0
      · rw [if_neg (by simpa using h2)] at HRES
        rw [h2]
        go_wp2_with fail
        refine Calls.mono KS.out ?_
        rintro e w5 ⟨rfl, q2, q3⟩
        have HV5 : Hid _ := q2
        have HK5 : Hid (Kp (fun k => k = r ∨ k = g) w w5) := HK4.out.trans q3 (fun x hx _ => hx)
        clear q2 q3 KS
        go_wp2_with fail
        go_ret
        rw [← HRES.out]
        exact ⟨rfl, HV5.out, HK5.out⟩
      · rw [if_pos (by simpa using h2)] at HRES
        have h5 : (R2.1 != 0) = true := by simpa using h2
        clear h2 KS
        go_wp2_with fail
        go_ret
        rw [← HRES.out]
        exact ⟨rfl, HV4.out, HK4.out⟩
    · have e1 : R1 = RC := by rw [HT1.out, if_neg (by intro h; exact hB (List.eq_nil_of_length_eq_zero (by omega)))]
      subst e1
      have hB2 : (!B.isEmpty) = true := by simpa using hB
      have KC : Hid _ := HCut.out w1 HV1.out
      go_wp2_with fail
      refine Calls.mono KC.out ?_
      rintro e w2 ⟨rfl, q2, q3⟩
      have HV2 : Hid _ := q2
      have HK2 : Hid (Kp (fun k => k = r ∨ k = g) w w2) := HK1.out.trans q3 (fun x hx _ => hx)
      clear q2 q3 KC
      by_cases h1 : R1.1 = 0
      · rw [if_neg (by simpa using h1)] at HRES
        rw [h1]
        have KT : Hid _ := HTe.out w2
        go_wp2_with fail
        refine Calls.mono KT.out ?_
        rintro e w3 ⟨rfl, hb3⟩
        have HV3 : Hid _ := Dk.RV.later HV2.out hb3
        have HK3 : Hid (Kp (fun k => k = r ∨ k = g) w w3) := HK2.out.trans (kp_below (r := r) (g := g) hb3) (fun x hx _ => hx)
        have KA : Hid _ := HAp.out w3 HV3.out
        clear hb3 KT
        go_wp2_with fail
        refine Calls.mono KA.out ?_
        rintro e w4 ⟨rfl, q2, q3⟩
        have HV4 : Hid _ := q2
        have HK4 : Hid (Kp (fun k => k = r ∨ k = g) w w4) := HK3.out.trans q3 (fun x hx _ => hx)
        have KS : Hid _ := HSy.out w4 q2
        clear q2 q3 KA
        by_cases h2 : R2.1 = 0
        · rw [if_neg (by simpa using h2)] at HRES
          rw [h2]
          go_wp2_with fail
          refine Calls.mono KS.out ?_
          rintro e w5 ⟨rfl, q2, q3⟩
          have HV5 : Hid _ := q2
          have HK5 : Hid (Kp (fun k => k = r ∨ k = g) w w5) := HK4.out.trans q3 (fun x hx _ => hx)
          clear q2 q3 KS
          go_wp2_with fail
          go_ret
          rw [← HRES.out]
          exact ⟨rfl, HV5.out, HK5.out⟩
        · rw [if_pos (by simpa using h2)] at HRES
          have h5 : (R2.1 != 0) = true := by simpa using h2
          clear h2 KS
          go_wp2_with fail
          go_ret
          rw [← HRES.out]
          exact ⟨rfl, HV4.out, HK4.out⟩
      · rw [if_pos (by simpa using h1)] at HRES
        have h5 : (R1.1 != 0) = true := by simpa using h1
        clear h1
        go_wp2_with fail
        go_ret
        rw [← HRES.out]
        exact ⟨rfl, HV2.out, HK2.out⟩
end Go.Proofs.YtijkgdbabikojaaGreat

