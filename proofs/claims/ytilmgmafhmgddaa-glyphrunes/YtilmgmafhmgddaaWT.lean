/- Walks over glyph.Text: the text of code points; the error where one number is none. -/
import Derived.Test.YtilmgmafhmgddaaWP
import Derived.Test.YtilmgmafhmgddaaWA
import Derived.Laws.IdiomStrings
import Derived.Laws.BytesArg
namespace Go.Proofs.Ytilmgmafhmgddaa
open Go.RowKit

theorem string_of_owned {w : World} {B : Nat} {v : Value} {n : Nat} {l : List UInt8} (hown : w.ownsRow B 5 1 v n (bvs l)) (hn : n = l.length) :
    (convert 45 9 v).run Try.prog w = .ok (.string ⟨l.toArray⟩) w := by
  subst hn
  rcases hown.2 with ⟨rfl, h0⟩ | ⟨g, cap, cur, rfl, _⟩
  · have h1 : l = [] := List.eq_nil_of_length_eq_zero h0
    subst h1
    exact run_convert_bytes_nil w 45 5 Try.underlying45 Try.underlying5 0 0 9 Try.underlying9
  · refine run_convert_bytes_back w 45 9 5 _ cap l Try.underlying45 Try.underlying5 Try.underlying9 ?_
    intro j hj
    have h := hown.cellAt j (by omega)
    rw [show (⟨g, 0, none⟩ : Addr).add j = ⟨g, j, none⟩ by simp [Addr.add]; omega, h]
    simp [bvs, hj]

theorem reads_of_owns {w : World} {B : Nat} {v : Value} {n : Nat} {l : List Int} (hown : w.ownsRow B 3 1 v n (ivs l)) (hn : n = l.length) : Reads w v l := by
  subst hn
  rcases hown.2 with ⟨rfl, h0⟩ | ⟨g, cap, cur, rfl, _⟩
  · have h1 : l = [] := List.eq_nil_of_length_eq_zero h0
    subst h1
    exact ⟨none, 0, rfl, fun _ => rfl, by simp⟩
  · refine ⟨_, cap, rfl, (fun h => by cases h), fun i hi => ⟨g, 0, rfl, ?_⟩⟩
    have h := hown.cellAt i (by omega)
    rw [Nat.zero_add, h]
    simp [ivs, hi]

theorem Reads.later {w wx : World} {v : Value} {l : List Int} (h : Reads w v l) (hb : Below w.heap.size w wx) : Reads wx v l := by
  obtain ⟨a, cap, hv, hn, hc⟩ := h
  refine ⟨a, cap, hv, hn, fun i hi => ?_⟩
  obtain ⟨b, off, ha, hcell⟩ := hc i hi
  exact ⟨b, off, ha, cell_later hb hcell⟩

theorem wid_ne (c : Int) (h : isCp c = true) : (wid c == 0) = false := by
  have := wid_bd c h
  rw [beq_eq_false_iff_ne]
  omega

theorem wid_eq0 (c : Int) (h : isCp c = false) : (wid c == 0) = true := by
  have h2 : ¬ (0 ≤ c ∧ c ≤ 1114111 ∧ (c < 55296 ∨ 57343 < c)) := by simpa [isCp] using h
  rw [beq_iff_eq]
  unfold wid
  repeat' split
  all_goals omega

theorem take_snoc (l : List Int) (k : Nat) (h : k < l.length) : l.take (k + 1) = l.take k ++ [l.getD k 0] := by
  rw [List.take_succ_eq_append_getElem h]
  simp [h]

set_option maxRecDepth 1000000 in
set_option maxHeartbeats 1000000 in
theorem text_good (x : Value) (l : List Int) (hcp : ∀ c ∈ l, isCp c = true) (w : World) (hx : Reads w x l) (hl : l.length ≤ 100000) :
    Calls Try.prog 17 #[x] w fun e w' => e = .returned (.tuple #[.string ⟨(encAll l).toArray⟩, .int .i64 0]) ∧ Below w.heap.size w w' := by
  obtain ⟨a, ca, rfl, _, hca⟩ := hx
  go_enter Try.func17, Try.ntmps17
  go_wp2
  go_loopw [4, 6, 9] (fun bv _ i wr => ∃ (k m : Nat), k ≤ l.length ∧ i = .int .i64 k ∧ Hid (m = (encAll (l.take k)).length) ∧ m ≤ 4 * k ∧ wr.ownsRow w.heap.size 5 1 bv m (bvs (encAll (l.take k))) ∧ Below w.heap.size w wr) (fun _ _ i _ => l.length - (intOf i).toNat)
  case atStart => exact ⟨0, 0, Nat.zero_le _, rfl, rfl, Nat.le_refl _, World.ownsRow_nil _ _ _ _, Below.refl _ _⟩
  case round =>
    obtain ⟨k, m, hk, rfl, HM, hm, hown, hbw⟩ := hrel
    by_cases hlt : k < l.length
    · obtain ⟨b1, o1, rfl, hc1⟩ := hca k hlt
      have hd1 := cell_later hbw hc1
      have hcz : isCp (l.getD k 0) = true := hcp _ (by simp [hlt])
      have HT : Hid (l.take (k + 1) = l.take k ++ [l.getD k 0]) := take_snoc l k hlt
      generalize l.getD k 0 = z at *
      have hcb := (isCp_iff z).1 hcz
      obtain ⟨hcb1, hcb2, _⟩ := hcb
      have hwz := wid_ne z hcz
      have hep := enc_pos z hcz
      have hsw := hbw.size
      have HC : Hid (isCp z = true) := hcz
      clear hca hc1 hcz hcp
      go_wp2_with (first
        | (go_at_call 19; refine (gwidth_any _ _).mono ?_; rintro e w' ⟨rfl, rfl⟩)
        | (go_at_call 25; refine (app_any w.heap.size _ m _ z HC.out _ (hown.alloc _) (by omega) (by simp; omega)).mono ?_; rintro e w3 ⟨v', rfl, hown3, hb3⟩))
      have hbw3 : Below w.heap.size w w3 := (hbw.alloc hsw _).trans hb3
      go_roundw
      case rel => exact ⟨k + 1, m + (enc z).length, by omega, by go_num, by show _ = _; rw [HT.out, encAll_append, encAll_one, HM.out]; simp, by omega, by rw [HT.out, encAll_append, encAll_one, bvs_append]; exact hown3, hbw3⟩
      case measure => simp [intOf]; omega
    · have hkk : k = l.length := by omega
      have HK : Hid (l.take k = l) := by show _ = _; rw [hkk, List.take_length]
      rw [HK.out] at hown HM
      have hcv := string_of_owned hown HM.out
      clear HM hkk
      go_wp2
      go_ret2
      exact ⟨rfl, hbw⟩

set_option maxRecDepth 1000000 in
set_option maxHeartbeats 1000000 in
theorem text_bad (x : Value) (d t : List Int) (y : Int) (hcp : ∀ c ∈ d, isCp c = true) (hy : isCp y = false) (w : World) (hx : Reads w x (d ++ y :: t)) (hl : (d ++ y :: t).length ≤ 100000) :
    Calls Try.prog 17 #[x] w fun e w' => e = .returned (.tuple #[.string ByteArray.empty, .int .i64 2]) ∧ Below w.heap.size w w' := by
  obtain ⟨a, ca, rfl, _, hca⟩ := hx
  obtain ⟨l, hL⟩ : ∃ l, l = d ++ y :: t := ⟨_, rfl⟩
  have hdl : d.length < l.length := by rw [hL]; simp
  have hyl : l.getD d.length 0 = y := by rw [hL]; simp
  have hcl : ∀ k, k < d.length → isCp (l.getD k 0) = true := by
    intro k hk
    rw [hL]
    refine hcp _ ?_
    simp [List.getElem?_append_left hk, hk]
  rw [← hL] at hca hl ⊢
  clear hL hcp
  go_enter Try.func17, Try.ntmps17
  go_wp2
  go_loopw [4, 6, 9] (fun bv _ i wr => ∃ (k m : Nat), k ≤ d.length ∧ i = .int .i64 k ∧ m ≤ 4 * k ∧ (∃ xs, wr.ownsRow w.heap.size 5 1 bv m xs) ∧ Below w.heap.size w wr) (fun _ _ i _ => l.length - (intOf i).toNat)
  case atStart => exact ⟨0, 0, Nat.zero_le _, rfl, Nat.le_refl _, ⟨_, World.ownsRow_nil _ _ _ _⟩, Below.refl _ _⟩
  case round =>
    obtain ⟨k, m, hk, rfl, hm, ⟨xs, hown⟩, hbw⟩ := hrel
    have hlt : k < l.length := by omega
    obtain ⟨b1, o1, rfl, hc1⟩ := hca k hlt
    have hd1 := cell_later hbw hc1
    have hsw := hbw.size
    by_cases hkd : k < d.length
    · have hcz := hcl k hkd
      generalize l.getD k 0 = z at *
      have hcb := (isCp_iff z).1 hcz
      obtain ⟨hcb1, hcb2, _⟩ := hcb
      have hwz := wid_ne z hcz
      have hep := enc_pos z hcz
      have HC : Hid (isCp z = true) := hcz
      clear hca hc1 hcz hcl hyl
      go_wp2_with (first
        | (go_at_call 19; refine (gwidth_any _ _).mono ?_; rintro e w' ⟨rfl, rfl⟩)
        | (go_at_call 25; refine (app_any w.heap.size _ m _ z HC.out _ (hown.alloc _) (by omega) (by simp; omega)).mono ?_; rintro e w3 ⟨v', rfl, hown3, hb3⟩))
      have hbw3 : Below w.heap.size w w3 := (hbw.alloc hsw _).trans hb3
      go_roundw
      case rel => exact ⟨k + 1, m + (enc z).length, by omega, by go_num, by omega, ⟨_, hown3⟩, hbw3⟩
      case measure => simp [intOf]; omega
    · have hkk : k = d.length := by omega
      subst hkk
      rw [hyl] at hc1 hd1
      have hwz := wid_eq0 y hy
      clear hca hc1 hcl hyl hy
      go_wp2_with (go_at_call 19; refine (gwidth_any _ _).mono ?_; rintro e w' ⟨rfl, rfl⟩)
      go_ret2
      exact ⟨rfl, hbw.alloc hsw _⟩
end Go.Proofs.Ytilmgmafhmgddaa
