/- lex.Name in plain words, and a walk over the law's 'texts'. -/
import Derived.Test.YtchdecoceokcmaaWV
import Derived.Test.YtchdecoceokcmaaMg
namespace Go.Proofs.Ytchdecoceokcmaa
open Go.RowKit
set_option linter.unusedVariables false

/-- Is a text a name? -/
noncomputable def isName (x : List UInt8) : Bool := @decide (nameP x) (Classical.propDecidable _)

theorem isName_iff (x : List UInt8) : isName x = true ↔ nameP x := by simp [isName]

theorem nameB_eq (s : ByteArray) (cs : List Int) (rest : List UInt8) (hp : Parts s.data.toList cs rest) : nameB (answer s cs rest) s.data.toList = isName s.data.toList := by
  rw [Bool.eq_iff_iff]
  have hz := size_list s
  constructor
  · intro h
    rw [isName_iff]
    unfold nameB at h
    split at h
    · rename_i t ht
      rw [decide_eq_true_eq] at h
      obtain ⟨h1, h2, h3⟩ := h
      unfold answer at ht h1
      split at ht
      · unfold lexR at ht
        cases hg : goS sc0 0 cs with
        | err p e => rw [hg] at ht; cases ht
        | ok st =>
          rw [hg] at ht
          by_cases hr : rest = []
          · simp only [hr, if_true] at ht
            rcases (tok_inv cs hp.cp st hg).2 t (by rw [ht]; simp) with ⟨_, hn⟩ | ⟨h4, _⟩
            · rw [← h3]; exact hn
            · omega
          · simp [hr] at ht
      · cases ht
    · cases h
  · intro h
    rw [isName_iff] at h
    obtain ⟨r, hr, hn⟩ := h
    have hn2 := hn
    obtain ⟨c, r', e1, e2, e3, e4, e5⟩ := hn
    obtain ⟨rfl, rfl⟩ := parts_unique cs r _ rest [] hp ⟨by rw [hr]; simp, e4, .inl rfl⟩
    have hg : goS sc0 0 cs = .ok ⟨[], some (0, encAll cs), false⟩ := name_go hn2 [] 0
    have hsz : s.size ≤ 65536 := by rw [← hz, hr]; omega
    unfold answer
    rw [if_pos hsz, lexR_ok hg]
    simp [nameB, Sc.toks, curToks, hr]

theorem name_is (s : ByteArray) (w : World) :
    Calls Try.prog 13 #[.string s] w fun e w' => e = .returned (.bool (isName s.data.toList)) ∧ Below w.heap.size w w' := by
  obtain ⟨cs, rest, hp⟩ := parts_exists s.data.toList
  have h := name_any s cs rest hp w
  rwa [nameB_eq s cs rest hp] at h

/-- Is a text one of the six marks? -/
def isMk (x : List UInt8) : Bool := x == [123] || x == [125] || x == [40] || x == [41] || x == [59] || x == [44]

/-- A slice that reads as texts. -/
def ReadsS (w : World) (v : Value) (xs : List ByteArray) : Prop :=
  ∃ a cap, v = .slice a xs.length cap ∧ ∀ i x, xs[i]? = some x → ∃ b off, a = some ⟨b, off, none⟩ ∧ w.cell? ⟨b, off + i, none⟩ = some (.string x)

theorem ReadsS.later {w wx : World} {v : Value} {xs : List ByteArray} (h : ReadsS w v xs) (hb : Below w.heap.size w wx) : ReadsS wx v xs := by
  obtain ⟨a, cap, hv, hr⟩ := h
  refine ⟨a, cap, hv, fun i x hi => ?_⟩
  obtain ⟨b, off, ha, c⟩ := hr i x hi
  exact ⟨b, off, ha, cell_later hb c⟩

noncomputable def mkTok (x : ByteArray) : Tok := if isName x.data.toList then ⟨1, x.data.toList, 0⟩ else ⟨2, x.data.toList, 0⟩

noncomputable def good (x : ByteArray) : Bool := isName x.data.toList || isMk x.data.toList

theorem ba_eta (x : ByteArray) : (⟨x.data.toList.toArray⟩ : ByteArray) = x := by
  apply ByteArray.ext
  simp

theorem isMk_cases (x : ByteArray) (h : isMk x.data.toList = true) : x = ⟨#[123]⟩ ∨ x = ⟨#[125]⟩ ∨ x = ⟨#[40]⟩ ∨ x = ⟨#[41]⟩ ∨ x = ⟨#[59]⟩ ∨ x = ⟨#[44]⟩ := by
  have go : ∀ l : List UInt8, x.data.toList = l → x = ⟨l.toArray⟩ := fun l hl => by rw [← hl, ba_eta]
  simp only [isMk, Bool.or_eq_true, beq_iff_eq] at h
  rcases h with ((((h | h) | h) | h) | h) | h
  · exact .inl (go _ h)
  · exact .inr (.inl (go _ h))
  · exact .inr (.inr (.inl (go _ h)))
  · exact .inr (.inr (.inr (.inl (go _ h))))
  · exact .inr (.inr (.inr (.inr (.inl (go _ h)))))
  · exact .inr (.inr (.inr (.inr (.inr (go _ h)))))

set_option maxRecDepth 1000000 in
set_option maxHeartbeats 4000000 in
theorem texts_any (x : Value) (xs : List ByteArray) (w : World) (hx : ReadsS w x xs) (hl : xs.length ≤ 300) :
    Calls Try.prog 19 #[x] w fun e w' => Below w.heap.size w w' ∧ (((∀ y ∈ xs, good y = true) ∧ ∃ v, e = .returned (.tuple #[v, .bool true]) ∧ w'.ownsRow w.heap.size 38 3 v (xs.map mkTok).length (tvs (xs.map mkTok))) ∨ ((∃ y ∈ xs, good y = false) ∧ e = .returned (.tuple #[.slice none 0 0, .bool false]))) := by
  obtain ⟨a, ca, rfl, hca⟩ := hx
  have hbl := Below.refl w.heap.size w
  go_enter Try.func19, Try.ntmps19
  go_wp2
  go_loopw [4, 5, 6] (fun ov iv _ wr => ∃ (k : Nat), k ≤ xs.length ∧ Hid (∀ y ∈ xs.take k, good y = true) ∧ iv = .int .i64 k ∧ wr.ownsRow w.heap.size 38 3 ov ((xs.take k).map mkTok).length (tvs ((xs.take k).map mkTok)) ∧ Below w.heap.size w wr) (fun _ iv _ _ => xs.length - (intOf iv).toNat)
  case atStart => exact ⟨0, Nat.zero_le _, (by intro y hy; simp at hy), rfl, World.ownsRow_nil _ _ _ _, hbl⟩
  case round =>
    obtain ⟨k, hk, HG, rfl, hown, hbw⟩ := hrel
    have hzw := hbw.size
    by_cases hlt : k < xs.length
    · obtain ⟨y, hy⟩ : ∃ y, xs[k]? = some y := ⟨_, List.getElem?_eq_getElem hlt⟩
      obtain ⟨b1, o1, rfl, a0⟩ := hca k y hy
      have d0 := cell_later hbw a0
      have hym : y ∈ xs := List.mem_of_getElem? hy
      have HT : Hid (xs.take (k + 1) = xs.take k ++ [y]) := by
        show _ = _
        rw [List.take_succ_eq_append_getElem hlt]
        rw [List.getElem?_eq_getElem hlt] at hy
        simp only [Option.some.injEq] at hy
        rw [hy]
      have htl : ((xs.take k).map mkTok).length ≤ 100000 := by simp; omega
      obtain ⟨l, HLD⟩ : ∃ l, Hid ((xs.take k).map mkTok = l) := ⟨_, rfl⟩
      rw [HLD.out] at hown htl
      have fin : ∀ (t : Tok) (g cap : Nat) (w3 : World), mkTok y = t → good y = true → w3.ownsRow w.heap.size 38 3 (.slice (some ⟨g, 0, none⟩) (l.length + 1) cap) (l ++ [t]).length (tvs (l ++ [t])) →
          (∀ z ∈ xs.take (k + 1), good z = true) ∧ w3.ownsRow w.heap.size 38 3 (.slice (some ⟨g, 0, none⟩) (l.length + 1) cap) ((xs.take (k + 1)).map mkTok).length (tvs ((xs.take (k + 1)).map mkTok)) := by
        intro t g cap w3 hm hgo ho3
        refine ⟨?_, ?_⟩
        · intro z hz
          rw [HT.out] at hz
          rcases List.mem_append.1 hz with hz | hz
          · exact HG.out z hz
          · simp only [List.mem_singleton] at hz
            subst hz
            exact hgo
        · rw [HT.out, List.map_append, List.map_singleton, hm, HLD.out]
          exact ho3
      have HFIN : Hid _ := fin
      clear hca a0 hy fin HLD HT HG
      by_cases hn : isName y.data.toList = true
      · have HN : Hid (isName y.data.toList = true) := hn
        have HM : Hid (mkTok y = ⟨1, y.data.toList, 0⟩) := by show _ = _; unfold mkTok; rw [if_pos hn]
        have HGo : Hid (good y = true) := by show _ = _; unfold good; rw [hn]; rfl
        clear hn
        go_wp2_with (first
          | (go_at_call 13; refine (name_is y _).mono ?_; rintro e w1 ⟨rfl, hb1⟩; rw [HN.out]; have hbw1 := hbw.trans (hb1.mono hzw); have hown1 := owns_later hown hb1; have hzw1 := hbw1.size)
          | (at_builtin; refine append_tok rfl _ _ rfl w.heap.size _ l rfl (hown1.alloc _) ⟨1, y.data.toList, 0⟩ ⟨w1.heap.size, 0, none⟩ rfl (fun j u h => cells3 w1 (.int .i64 1) (.string y) (.int .i64 0) 38 j u (by rw [← ba_eta y]; exact h)) htl (by simp; omega) ?_; intro g cap w3 ho3 hgrow3))
        have hbw3 : Below w.heap.size w w3 := hbw1.trans (Below.grown ((Below.refl _ _).alloc hzw1 _) hgrow3 (by simp; omega) (fun j hj => (hown1.lt _ hj).1))
        have hF := HFIN.out _ _ _ _ HM.out HGo.out ho3
        go_roundw
        case rel => exact ⟨k + 1, by omega, hF.1, by go_num, hF.2, hbw3⟩
        case measure => simp [intOf]; omega
      · have hn0 : isName y.data.toList = false := by simpa using hn
        have HN : Hid (isName y.data.toList = false) := hn0
        by_cases hm : isMk y.data.toList = true
        · have HM : Hid (mkTok y = ⟨2, y.data.toList, 0⟩) := by show _ = _; unfold mkTok; rw [if_neg hn]
          have HGo : Hid (good y = true) := by show _ = _; unfold good; rw [hm]; simp
          have hmc := isMk_cases y hm
          clear hn hn0 hm
          rcases hmc with rfl | rfl | rfl | rfl | rfl | rfl
          · go_wp2_with (first
              | (go_at_call 13; refine (name_is _ _).mono ?_; rintro e w1 ⟨rfl, hb1⟩; rw [HN.out]; have hbw1 := hbw.trans (hb1.mono hzw); have hown1 := owns_later hown hb1; have hzw1 := hbw1.size)
              | (at_builtin; refine append_tok rfl _ _ rfl w.heap.size _ l rfl (hown1.alloc _) ⟨2, [123], 0⟩ ⟨w1.heap.size, 0, none⟩ rfl (fun j u h => cells3 w1 (.int .i64 2) (.string ⟨#[123]⟩) (.int .i64 0) 38 j u h) htl (by simp; omega) ?_; intro g cap w3 ho3 hgrow3))
            have hbw3 : Below w.heap.size w w3 := hbw1.trans (Below.grown ((Below.refl _ _).alloc hzw1 _) hgrow3 (by simp; omega) (fun j hj => (hown1.lt _ hj).1))
            have hF := HFIN.out _ _ _ _ HM.out HGo.out ho3
            go_roundw
            case rel => exact ⟨k + 1, by omega, hF.1, by go_num, hF.2, hbw3⟩
            case measure => simp [intOf]; omega
          · go_wp2_with (first
              | (go_at_call 13; refine (name_is _ _).mono ?_; rintro e w1 ⟨rfl, hb1⟩; rw [HN.out]; have hbw1 := hbw.trans (hb1.mono hzw); have hown1 := owns_later hown hb1; have hzw1 := hbw1.size)
              | (at_builtin; refine append_tok rfl _ _ rfl w.heap.size _ l rfl (hown1.alloc _) ⟨2, [125], 0⟩ ⟨w1.heap.size, 0, none⟩ rfl (fun j u h => cells3 w1 (.int .i64 2) (.string ⟨#[125]⟩) (.int .i64 0) 38 j u h) htl (by simp; omega) ?_; intro g cap w3 ho3 hgrow3))
            have hbw3 : Below w.heap.size w w3 := hbw1.trans (Below.grown ((Below.refl _ _).alloc hzw1 _) hgrow3 (by simp; omega) (fun j hj => (hown1.lt _ hj).1))
            have hF := HFIN.out _ _ _ _ HM.out HGo.out ho3
            go_roundw
            case rel => exact ⟨k + 1, by omega, hF.1, by go_num, hF.2, hbw3⟩
            case measure => simp [intOf]; omega
          · go_wp2_with (first
              | (go_at_call 13; refine (name_is _ _).mono ?_; rintro e w1 ⟨rfl, hb1⟩; rw [HN.out]; have hbw1 := hbw.trans (hb1.mono hzw); have hown1 := owns_later hown hb1; have hzw1 := hbw1.size)
              | (at_builtin; refine append_tok rfl _ _ rfl w.heap.size _ l rfl (hown1.alloc _) ⟨2, [40], 0⟩ ⟨w1.heap.size, 0, none⟩ rfl (fun j u h => cells3 w1 (.int .i64 2) (.string ⟨#[40]⟩) (.int .i64 0) 38 j u h) htl (by simp; omega) ?_; intro g cap w3 ho3 hgrow3))
            have hbw3 : Below w.heap.size w w3 := hbw1.trans (Below.grown ((Below.refl _ _).alloc hzw1 _) hgrow3 (by simp; omega) (fun j hj => (hown1.lt _ hj).1))
            have hF := HFIN.out _ _ _ _ HM.out HGo.out ho3
            go_roundw
            case rel => exact ⟨k + 1, by omega, hF.1, by go_num, hF.2, hbw3⟩
            case measure => simp [intOf]; omega
          · go_wp2_with (first
              | (go_at_call 13; refine (name_is _ _).mono ?_; rintro e w1 ⟨rfl, hb1⟩; rw [HN.out]; have hbw1 := hbw.trans (hb1.mono hzw); have hown1 := owns_later hown hb1; have hzw1 := hbw1.size)
              | (at_builtin; refine append_tok rfl _ _ rfl w.heap.size _ l rfl (hown1.alloc _) ⟨2, [41], 0⟩ ⟨w1.heap.size, 0, none⟩ rfl (fun j u h => cells3 w1 (.int .i64 2) (.string ⟨#[41]⟩) (.int .i64 0) 38 j u h) htl (by simp; omega) ?_; intro g cap w3 ho3 hgrow3))
            have hbw3 : Below w.heap.size w w3 := hbw1.trans (Below.grown ((Below.refl _ _).alloc hzw1 _) hgrow3 (by simp; omega) (fun j hj => (hown1.lt _ hj).1))
            have hF := HFIN.out _ _ _ _ HM.out HGo.out ho3
            go_roundw
            case rel => exact ⟨k + 1, by omega, hF.1, by go_num, hF.2, hbw3⟩
            case measure => simp [intOf]; omega
          · go_wp2_with (first
              | (go_at_call 13; refine (name_is _ _).mono ?_; rintro e w1 ⟨rfl, hb1⟩; rw [HN.out]; have hbw1 := hbw.trans (hb1.mono hzw); have hown1 := owns_later hown hb1; have hzw1 := hbw1.size)
              | (at_builtin; refine append_tok rfl _ _ rfl w.heap.size _ l rfl (hown1.alloc _) ⟨2, [59], 0⟩ ⟨w1.heap.size, 0, none⟩ rfl (fun j u h => cells3 w1 (.int .i64 2) (.string ⟨#[59]⟩) (.int .i64 0) 38 j u h) htl (by simp; omega) ?_; intro g cap w3 ho3 hgrow3))
            have hbw3 : Below w.heap.size w w3 := hbw1.trans (Below.grown ((Below.refl _ _).alloc hzw1 _) hgrow3 (by simp; omega) (fun j hj => (hown1.lt _ hj).1))
            have hF := HFIN.out _ _ _ _ HM.out HGo.out ho3
            go_roundw
            case rel => exact ⟨k + 1, by omega, hF.1, by go_num, hF.2, hbw3⟩
            case measure => simp [intOf]; omega
          · go_wp2_with (first
              | (go_at_call 13; refine (name_is _ _).mono ?_; rintro e w1 ⟨rfl, hb1⟩; rw [HN.out]; have hbw1 := hbw.trans (hb1.mono hzw); have hown1 := owns_later hown hb1; have hzw1 := hbw1.size)
              | (at_builtin; refine append_tok rfl _ _ rfl w.heap.size _ l rfl (hown1.alloc _) ⟨2, [44], 0⟩ ⟨w1.heap.size, 0, none⟩ rfl (fun j u h => cells3 w1 (.int .i64 2) (.string ⟨#[44]⟩) (.int .i64 0) 38 j u h) htl (by simp; omega) ?_; intro g cap w3 ho3 hgrow3))
            have hbw3 : Below w.heap.size w w3 := hbw1.trans (Below.grown ((Below.refl _ _).alloc hzw1 _) hgrow3 (by simp; omega) (fun j hj => (hown1.lt _ hj).1))
            have hF := HFIN.out _ _ _ _ HM.out HGo.out ho3
            go_roundw
            case rel => exact ⟨k + 1, by omega, hF.1, by go_num, hF.2, hbw3⟩
            case measure => simp [intOf]; omega
        · have hmf := hm
          have HB : Hid (good y = false) := by show _ = _; unfold good; rw [hn0]; simpa using hm
          have hm0 : isMk y.data.toList = false := by simpa using hm
          simp only [isMk, Bool.or_eq_false_iff, ← Lib.toList_data] at hm0
          obtain ⟨⟨⟨⟨⟨m1, m2⟩, m3⟩, m4⟩, m5⟩, m6⟩ := hm0
          clear hn hn0 hm hmf
          go_wp2_with (go_at_call 13; refine (name_is y _).mono ?_; rintro e w1 ⟨rfl, hb1⟩; rw [HN.out]; have hbw1 := hbw.trans (hb1.mono hzw))
          go_ret2
          exact ⟨hbw1, .inr ⟨⟨y, hym, HB.out⟩, rfl⟩⟩
    · have hkk : k = xs.length := by omega
      have HK : Hid (xs.take k = xs) := by show _ = _; rw [hkk, List.take_length]
      rw [HK.out] at hown HG
      clear hca
      go_wp2
      go_ret2
      exact ⟨hbw, .inl ⟨HG.out, _, rfl, hown⟩⟩
end Go.Proofs.Ytchdecoceokcmaa
