/- Walks over the document's Name, Word and Join. -/
import Derived.Test.YtchdecoceokcmaaXB
import Derived.Test.YtchdecoceokcmaaXD
import Derived.Test.YtchdecoceokcmaaWZ
namespace Go.Proofs.Ytchdecoceokcmaa
open Go.RowKit
set_option linter.unusedVariables false

theorem takeWhile_id (p : Int → Bool) (l : List Int) (h : ∀ x ∈ l, p x = true) : l.takeWhile p = l := by
  induction l with
  | nil => rfl
  | cons a l ih => rw [List.takeWhile_cons, h a (by simp), ih (fun x hx => h x (by simp [hx]))]; rfl

theorem name_facts {x : List UInt8} (h : nameP x) : 1 ≤ x.length ∧ x.length ≤ 24 := by
  obtain ⟨r, rfl, c, r', rfl, _, _, h4, h5⟩ := h
  have := enc_pos c (h4 c (by simp))
  simp [encAll] at h5 ⊢
  omega

/-- A text is a name just where its run is all of it and a Letter stands first. -/
theorem name_run (s : ByteArray) (cs : List Int) (rest : List UInt8) (hp : Parts s.data.toList cs rest) : nameP s.data.toList ↔ ∃ c r, cs = c :: r ∧ kl c = 1 ∧ (encAll (cs.takeWhile isNm)).length = s.size ∧ s.size ≤ 24 := by
  have hz := size_list s
  constructor
  · rintro ⟨r, hr, hn⟩
    obtain ⟨c, r', e1, e2, e3, e4, e5⟩ := hn
    obtain ⟨rfl, rfl⟩ := parts_unique cs r _ rest [] hp ⟨by rw [hr]; simp, e4, .inl rfl⟩
    refine ⟨c, r', e1, e2, ?_, by rw [← hz, hr]; exact e5⟩
    have hall : ∀ x ∈ cs, isNm x = true := by
      intro x hx
      rw [e1] at hx
      rcases List.mem_cons.1 hx with rfl | hx
      · exact (isNm_iff x).2 (.inl e2)
      · exact e3 x hx
    rw [takeWhile_id isNm cs hall, ← hz, hr]
  · rintro ⟨c, r, rfl, hk, hlen, hsz⟩
    have hall := takeWhile_all isNm (c :: r)
    have hsplit : c :: r = (c :: r).takeWhile isNm ++ (c :: r).dropWhile isNm := (List.takeWhile_append_dropWhile).symm
    have hl : s.size = (encAll ((c :: r).takeWhile isNm)).length + (encAll ((c :: r).dropWhile isNm)).length + rest.length := by
      rw [← hz, hp.eq]
      conv => lhs; rw [hsplit, encAll_append]
      simp
      omega
    have hd0 : (c :: r).dropWhile isNm = [] := by
      cases hd : (c :: r).dropWhile isNm with
      | nil => rfl
      | cons y t =>
        exfalso
        have hy : isCp y = true := hp.cp y (by rw [hsplit, hd]; simp)
        have := enc_pos y hy
        rw [hd] at hl
        simp [encAll] at hl
        omega
    have hr0 : rest = [] := List.eq_nil_of_length_eq_zero (by omega)
    rw [hd0, List.append_nil] at hsplit
    refine ⟨c :: r, by rw [hp.eq, hr0]; simp, c, r, rfl, hk, ?_, hp.cp, ?_⟩
    · intro x hx
      exact hall x (by rw [← hsplit]; simp [hx])
    · have : (encAll (c :: r)).length = s.size := by rw [← hz, hp.eq, hr0]; simp
      omega

theorem isName_false {x : List UInt8} (h : ¬ nameP x) : isName x = false := by
  cases hb : isName x with
  | false => rfl
  | true => exact absurd ((isName_iff x).1 hb) h

set_option maxRecDepth 1000000 in
set_option maxHeartbeats 1000000 in
theorem rname_any (s : ByteArray) (w : World) (hs : s.size ≤ 65536) : Calls Try.prog 14 #[.string s] w fun e w' => e = .returned (.bool (isName s.data.toList)) ∧ Below w.heap.size w w' := by
  obtain ⟨cs, rest, hp⟩ := parts_exists s.data.toList
  have hz := size_list s
  have hbl := Below.refl w.heap.size w
  have hnr := name_run s cs rest hp
  have hnf := @name_facts s.data.toList
  rw [hz] at hnf
  by_cases h0 : s.size = 0
  · have HF : Hid (isName s.data.toList = false) := isName_false (fun h => by have := hnf h; omega)
    have he : s = ⟨#[]⟩ := by
      apply ByteArray.ext
      apply Array.ext'
      exact List.eq_nil_of_length_eq_zero (by rw [hz]; exact h0)
    clear hp hz hnr hnf h0
    rw [HF.out]
    subst he
    go_enter Try.func14, Try.ntmps14
    go_wp2
    go_ret
    exact ⟨rfl, hbl⟩
  have hne : (s.toList == []) = false := by
    rw [Lib.toList_data, beq_eq_false_iff_ne]
    intro h
    rw [h] at hz
    simp at hz
    omega
  by_cases h24 : 24 < s.size
  · have HF : Hid (isName s.data.toList = false) := isName_false (fun h => by have := hnf h; omega)
    clear hp hz hnr hnf h0
    rw [HF.out]
    go_enter Try.func14, Try.ntmps14
    go_wp2
    go_ret
    exact ⟨rfl, hbl⟩
  have HRUN : Hid _ := fun wx => run_any s cs [] cs rest hp rfl hs 0 rfl wx
  have e0 : (encAll []).length = 0 := rfl
  rw [e0, Nat.zero_add] at HRUN
  by_cases hrun : (encAll (cs.takeWhile isNm)).length = s.size
  · cases cs with
    | nil => simp [encAll] at hrun; omega
    | cons c r =>
      have HP : Hid _ := fun wx => point_at s (c :: r) [] r c rest hp rfl hs 0 rfl wx
      have HK : Hid (isName s.data.toList = decide (kl c = 1)) := by
        show _ = _
        rw [Bool.eq_iff_iff, isName_iff, hnr, decide_eq_true_eq]
        constructor
        · rintro ⟨c2, r2, e, h1, _⟩
          simp only [List.cons.injEq] at e
          rw [e.1]
          exact h1
        · intro h1
          exact ⟨c, r, rfl, h1, hrun, by omega⟩
      rw [hrun] at HRUN
      clear hp hz hnr hnf hrun
      rw [HK.out]
      generalize (enc c).length = k at *
      go_enter Try.func14, Try.ntmps14
      go_wp2_with fail
      refine Calls.mono (HRUN.out _) ?_
      rintro e w1 ⟨rfl, hb1⟩
      clear HRUN
      go_wp2_with fail
      refine Calls.mono (HP.out _) ?_
      rintro e w2 ⟨rfl, hb2⟩
      have hb02 := hb1.trans (hb2.mono hb1.size)
      clear HP hb1 hb2
      go_wp2_with (go_at_call 24; refine (rclass_k _ _).mono ?_; rintro e w' ⟨rfl, hw'⟩; rw [hw'])
      go_ret
      refine ⟨ret_bool ?_, hb02⟩
      rw [Bool.eq_iff_iff]
      simp
  · have HF : Hid (isName s.data.toList = false) := isName_false (fun h => by obtain ⟨_, _, _, _, h1, _⟩ := hnr.1 h; exact hrun h1)
    have hrb : (((encAll (cs.takeWhile isNm)).length : Int) != (s.size : Int)) = true := by rw [bne_iff_ne]; omega
    clear hp hz hnr hnf hrun
    rw [HF.out]
    generalize (encAll (cs.takeWhile isNm)).length = k at *
    go_enter Try.func14, Try.ntmps14
    go_wp2_with fail
    refine Calls.mono (HRUN.out _) ?_
    rintro e w1 ⟨rfl, hb1⟩
    clear HRUN
    go_wp2
    go_ret
    exact ⟨rfl, hb1⟩

set_option maxRecDepth 1000000 in
set_option maxHeartbeats 2000000 in
theorem rword_any (s : ByteArray) (w : World) : Calls Try.prog 16 #[.string s] w fun e w' => e = .returned (.bool (isWord s.data.toList)) ∧ Below w.heap.size w w' := by
  have hbl : ∀ o, Below w.heap.size w (w.alloc o) := fun o => (Below.refl _ _).alloc (Nat.le_refl _) o
  have HBL : Hid _ := hbl
  clear hbl
  go_enter Try.func16, Try.ntmps16
  go_wp2
  refine wp_loop_rounds 9 ?_
  rw [rounds_succ]
  go_wp2
  · go_ret
    refine ⟨ret_bool ?_, HBL.out _⟩
    simp_all [isWord, Lib.toList_data]
  rw [rounds_succ]
  go_wp2
  · go_ret
    refine ⟨ret_bool ?_, HBL.out _⟩
    simp_all [isWord, Lib.toList_data]
  rw [rounds_succ]
  go_wp2
  · go_ret
    refine ⟨ret_bool ?_, HBL.out _⟩
    simp_all [isWord, Lib.toList_data]
  rw [rounds_succ]
  go_wp2
  · go_ret
    refine ⟨ret_bool ?_, HBL.out _⟩
    simp_all [isWord, Lib.toList_data]
  rw [rounds_succ]
  go_wp2
  · go_ret
    refine ⟨ret_bool ?_, HBL.out _⟩
    simp_all [isWord, Lib.toList_data]
  rw [rounds_succ]
  go_wp2
  · go_ret
    refine ⟨ret_bool ?_, HBL.out _⟩
    simp_all [isWord, Lib.toList_data]
  rw [rounds_succ]
  go_wp2
  · go_ret
    refine ⟨ret_bool ?_, HBL.out _⟩
    simp_all [isWord, Lib.toList_data]
  rw [rounds_succ]
  go_wp2
  · go_ret
    refine ⟨ret_bool ?_, HBL.out _⟩
    simp_all [isWord, Lib.toList_data]
  rw [rounds_succ]
  go_wp2
  go_ret
  refine ⟨ret_bool ?_, HBL.out _⟩
  simp_all [isWord, Lib.toList_data]
  refine ⟨⟨⟨⟨⟨⟨⟨?_, ?_⟩, ?_⟩, ?_⟩, ?_⟩, ?_⟩, ?_⟩, ?_⟩ <;> (intro h; simp_all)

set_option maxRecDepth 1000000 in
set_option maxHeartbeats 2000000 in
theorem rjoin_any (x : Value) (xs : List ByteArray) (w : World) (hx : ReadsX w x xs) (hl : xs.length ≤ 100000) (hj : (jn (bys xs)).length ≤ 140737488355328) :
    Calls Try.prog 18 #[x] w fun e w' => e = .returned (.string ⟨(jn (bys xs)).toArray⟩) ∧ w' = w := by
  obtain ⟨a, ca, rfl, _, hna, hca⟩ := hx
  go_enter Try.func18, Try.ntmps18
  go_wp2
  go_loopw [3, 4] (fun sv iv wr => ∃ (k : Nat) (sb : ByteArray), k ≤ xs.length ∧ iv = .int .i64 k ∧ sv = .string sb ∧ Hid (sb.data.toList = jn (bys (xs.take k))) ∧ wr = w) (fun _ iv _ => xs.length - (intOf iv).toNat)
  case atStart => exact ⟨0, ⟨#[]⟩, Nat.zero_le _, rfl, rfl, rfl, rfl⟩
  case round =>
    obtain ⟨k, sb, hk, rfl, rfl, HS, rfl⟩ := hrel
    have hsbz := size_list sb
    rw [HS.out] at hsbz
    by_cases hlt : k < xs.length
    · obtain ⟨y, hy⟩ : ∃ y, xs[k]? = some y := ⟨_, List.getElem?_eq_getElem hlt⟩
      obtain ⟨b1, o1, kk, pp, rfl, a0, a1, a2⟩ := hca k y hy
      have HT : Hid (xs.take (k + 1) = xs.take k ++ [y]) := by
        show _ = _
        rw [List.take_succ_eq_append_getElem hlt]
        rw [List.getElem?_eq_getElem hlt] at hy
        simp only [Option.some.injEq] at hy
        rw [hy]
      have hjt := jn_take (bys xs) (k + 1)
      have hbt : (bys xs).take (k + 1) = bys (xs.take k) ++ [y.data.toList] := by
        have e : (bys xs).take (k + 1) = bys (xs.take (k + 1)) := by simp [bys]
        rw [e, HT.out]
        simp [bys]
      rw [hbt] at hjt
      have HBT : Hid (bys (xs.take (k + 1)) = bys (xs.take k) ++ [y.data.toList]) := by show _ = _; rw [HT.out]; simp [bys]
      have hys := size_list y
      have happ : ∀ a b : ByteArray, (a ++ b).data.toList = a.data.toList ++ b.data.toList := fun a b => by simp
      by_cases hk0 : k = 0
      · subst hk0
        simp only [Nat.zero_mul, Nat.add_zero] at a0 a1 a2
        have e0 : bys (xs.take 0) = [] := rfl
        rw [e0] at hjt
        have hyz : y.size ≤ 140737488355328 := by
          simp only [List.nil_append, jn] at hjt
          omega
        have hsz : sb.size = 0 := by rw [← hsbz]; rfl
        have HF : Hid ((sb ++ y).data.toList = jn (bys (xs.take 1))) := by show _ = _; rw [happ, HS.out, HBT.out]; rfl
        clear hca hy hjt hbt hys e0 hsbz happ
        go_wp2
        go_roundw
        case rel => exact ⟨1, _, by omega, rfl, rfl, HF.out, trivial⟩
        case measure => simp [intOf]; omega
      · have hne : bys (xs.take k) ≠ [] := by
          intro h
          have h2 := congrArg List.length h
          simp only [bys, List.length_map, List.length_take, List.length_nil] at h2
          omega
        have e := congrArg List.length (jn_snoc (bys (xs.take k)) y.data.toList hne)
        rw [List.length_append, hys, List.length_append, hsbz] at e
        have hsz : sb.size + 1 + y.size ≤ 140737488355328 := by
          simp only [List.length_cons, List.length_nil] at e
          omega
        have HF : Hid ((sb ++ ⟨#[32]⟩ ++ y).data.toList = jn (bys (xs.take (k + 1)))) := by show _ = _; rw [happ, happ, HS.out, HBT.out, jn_snoc _ _ hne]
        have hk1 : 0 < k := by omega
        clear hca hy hjt hbt hys hne hk0 hsbz happ e
        go_wp2
        go_roundw
        case rel => exact ⟨k + 1, _, by omega, by go_num, rfl, HF.out, trivial⟩
        case measure => simp [intOf]; omega
    · have hkk : k = xs.length := by omega
      have HK : Hid (sb = ⟨(jn (bys xs)).toArray⟩) := by
        show _ = _
        apply ByteArray.ext
        apply Array.ext'
        rw [HS.out, hkk, List.take_length]
      clear hca hkk
      go_wp2
      go_ret
      rw [HK.out]
      exact ⟨rfl, rfl⟩
end Go.Proofs.Ytchdecoceokcmaa
