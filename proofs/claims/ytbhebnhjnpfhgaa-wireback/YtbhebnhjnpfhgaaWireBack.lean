/- WireBack: for all numbers and lists, whatever bytes stand around them: what was put is taken as it was, and without its last byte ends too early; proved in full, nothing is asked of the input. -/
import Derived.Test.YtbhebnhjnpfhgaaRows
import Derived.Test.YtbhebnhjnpfhgaaWl
import Derived.ProofKit
import Derived.OpenShut
import Derived.ShutString
import Derived.ChangeOld
namespace Go.Proofs.Ytbhebnhjnpfhgaa.wireBack
open Go.RowKit
set_option linter.unusedVariables false

theorem ints_back {l : List Int} (h : allN l = true) : intL (natL l) = l := by
  unfold intL natL
  rw [List.map_map]
  conv => rhs; rw [← List.map_id l]
  apply List.map_congr_left
  intro x hx
  have := of_decide_eq_true (List.all_eq_true.1 h x hx)
  show Int.ofNat x.toNat = x
  have : (x.toNat : Int) = x := by omega
  exact this

theorem take_back (a : List UInt8) (q : Nat) (r : List UInt8) (hq : q ≤ 1099511627776) : takeI (a ++ oneP q ++ r) (a.length : Int) = (q, a.length + (oneP q).length, 0) := by
  unfold takeI
  rw [if_pos (by rw [List.length_append, List.length_append]; omega), Int.toNat_natCast, List.append_assoc]
  exact take_put a q r hq

theorem take_cut (a : List UInt8) (q : Nat) (hq : q ≤ 1099511627776) : takeI (a ++ (oneP q).dropLast) (a.length : Int) = (0, 0, 3) := by
  unfold takeI
  rw [if_pos (by rw [List.length_append]; omega), Int.toNat_natCast]
  exact take_short a q hq

theorem list_back (a : List UInt8) (ns : List Nat) (r : List UInt8) (hl : ns.length ≤ 255) (h : ∀ n ∈ ns, n ≤ 1099511627776) : listI (a ++ putsP ns ++ r) (a.length : Int) = (ns, a.length + (putsP ns).length, 0) := by
  unfold listI
  rw [if_pos (by rw [List.length_append, List.length_append]; omega), Int.toNat_natCast, List.append_assoc]
  exact list_put a ns r hl h

theorem list_cut (a : List UInt8) (ns : List Nat) (hl : ns.length ≤ 255) (h : ∀ n ∈ ns, n ≤ 1099511627776) : listI (a ++ (putsP ns).dropLast) (a.length : Int) = ([], 0, 3) := by
  unfold listI
  rw [if_pos (by rw [List.length_append]; omega), Int.toNat_natCast]
  exact list_short a ns hl h

theorem cut_last (a s : List UInt8) (h : s ≠ []) : (a ++ s).take ((a ++ s).length - 1) = a ++ s.dropLast := by
  rw [← List.dropLast_append_of_ne_nil h, List.dropLast_eq_take]

set_option maxRecDepth 1000000 in
set_option maxHeartbeats 1000000 in
theorem walk_big (x : Value) (a : List UInt8) (n : Int) (y : Value) (l : List Int) (z : Value) (b : List UInt8) (w : World) (hx : RB w x a) (hy : RI w y l) (hz : RB w z b) (h : 2000 < a.length ∨ 2000 < b.length ∨ 300 < l.length) :
    Calls Try.prog 5 #[x, .int .i64 n, y, z] w fun e w' => e = .returned (.bool true) ∧ Below w.heap.size w w' := by
  obtain ⟨xa, xc, rfl, _⟩ := hx
  obtain ⟨ya, yc, rfl, _⟩ := hy
  obtain ⟨za, zc, rfl, _⟩ := hz
  generalize a.length = i at *
  generalize l.length = k at *
  generalize b.length = j at *
  by_cases h0 : 2000 < i
  · clear h
    go_enter Try.func5, Try.ntmps5
    go_wp2_with fail
    refine (lives_any _).mono ?_
    rintro e w1 ⟨rfl, hb1⟩
    go_wp2
    go_ret
    exact ⟨rfl, hb1⟩
  · by_cases h1 : 2000 < j
    · clear h
      go_enter Try.func5, Try.ntmps5
      go_wp2_with fail
      refine (lives_any _).mono ?_
      rintro e w1 ⟨rfl, hb1⟩
      go_wp2
      go_ret
      exact ⟨rfl, hb1⟩
    · have h2 : 300 < k := by omega
      clear h
      go_enter Try.func5, Try.ntmps5
      go_wp2_with fail
      refine (lives_any _).mono ?_
      rintro e w1 ⟨rfl, hb1⟩
      go_wp2
      go_ret
      exact ⟨rfl, hb1⟩

set_option maxRecDepth 1000000 in
set_option maxHeartbeats 4000000 in
theorem walk_small (x : Value) (a : List UInt8) (n : Int) (y : Value) (l : List Int) (z : Value) (b : List UInt8) (w : World) (hx : RB w x a) (hy : RI w y l) (hz : RB w z b) (h1 : a.length ≤ 2000) (h2 : b.length ≤ 2000) (h3 : l.length ≤ 300) :
    Calls Try.prog 5 #[x, .int .i64 n, y, z] w fun e w' => e = .returned (.bool true) ∧ Below w.heap.size w w' := by
  have HX : Hid (RB w x a) := hx
  have HY : Hid (RI w y l) := hy
  have HZ : Hid (RB w z b) := hz
  obtain ⟨xa, xc, rfl, _⟩ := hx
  obtain ⟨ya, yc, rfl, _⟩ := hy
  obtain ⟨za, zc, rfl, _⟩ := hz
  by_cases hn : 0 ≤ n ∧ n ≤ 1099511627776
  · obtain ⟨q, rfl⟩ : ∃ q : Nat, n = (q : Int) := ⟨n.toNat, by omega⟩
    have hq : q ≤ 1099511627776 := by omega
    have hi : isN (q : Int) = true := decide_eq_true hn
    have HP : Hid _ := put_any _ a (q : Int) w HX.out (by omega)
    unfold putR putE at HP
    rw [if_pos hi, if_pos hi, Int.toNat_natCast, List.length_append] at HP
    have HTB : Hid (takeI (a ++ oneP q ++ b) (a.length : Int) = (q, a.length + (oneP q).length, 0)) := take_back a q b hq
    have HTC : Hid (takeI (a ++ (oneP q).dropLast) (a.length : Int) = (0, 0, 3)) := take_cut a q hq
    have hol := one_six hq
    have hop := one_pos q
    have HCL : Hid ((a ++ oneP q).take (a.length + (oneP q).length - 1) = a ++ (oneP q).dropLast) := by
      have := cut_last a (oneP q) (one_ne q)
      rw [List.length_append] at this
      exact this
    clear hi hn
    generalize oneP q = X at *
    go_enter Try.func5, Try.ntmps5
    go_wp2_with fail
    refine Calls.mono HP.out ?_
    rintro e w1 ⟨v1, c1, rfl, hr1, hb1⟩
    have HB1 : Hid (Below w.heap.size w w1) := hb1
    have HR1 : Hid (RB w1 (.slice v1 (a.length + X.length) c1) (a ++ X)) := hr1
    have HB2 : Hid (Below w1.heap.size w1 (w1.alloc (.cells #[] 5))) := (Below.refl _ _).alloc (Nat.le_refl _) _
    have HO2 : Hid (OB w1.heap.size (w1.alloc (.cells #[] 5)) w1.heap.size 0 0 []) := OB.made w1 0 #[] (Nat.zero_le _) rfl
    clear hb1 hr1 HP
    go_wp2_with (first
      | (at_builtin; refine append_bytes rfl _ _ rfl w1.heap.size w1.heap.size 0 0 [] rfl HO2.out _ (a ++ X) rfl (HR1.out.later HB2.out) (by omega) (by rw [List.length_append]; omega) (by simp) (a.length + X.length) (a ++ X) (by rw [List.length_append]; omega) rfl ?_; intro g3 c3 w3 ho3 hg3; have HB3 : Hid (Below w1.heap.size w1 w3) := HB2.out.trans (HO2.out.below (by simp) hg3); have HO3 : Hid (OB w1.heap.size w3 g3 (a.length + X.length) c3 (a ++ X)) := ho3; clear ho3 hg3)
      | (at_builtin; refine append_bytes rfl _ _ rfl w1.heap.size g3 (a.length + X.length) c3 (a ++ X) rfl HO3.out _ b rfl ((HZ.out.later HB1.out).later HB3.out) (by omega) (by omega) HB3.out.size (a.length + X.length + b.length) (a ++ X ++ b) rfl rfl ?_; intro g4 c4 w4 ho4 hg4; have HB4 : Hid (Below w1.heap.size w1 w4) := HB3.out.trans (HO3.out.below HB3.out.size hg4); have HO4 : Hid (OB w1.heap.size w4 g4 (a.length + X.length + b.length) c4 (a ++ X ++ b)) := ho4; clear ho4 hg4))
    have HTK : Hid _ := takei_any _ (a ++ X ++ b) (a.length : Int) w4 HO4.out.rb.2 (by rw [List.length_append, List.length_append]; omega)
    rw [HTB.out] at HTK
    unfold firstV at HTK
    refine Calls.mono HTK.out ?_
    rintro e w5 ⟨rfl, rfl⟩
    obtain ⟨V0, hV, hSV⟩ := slice_to (HR1.out.later HB4.out) (a.length + X.length - 1) (by rw [List.length_append]; omega) ((a.length : Int) + (X.length : Int) - 1) (by omega)
    rw [HCL.out] at hV
    have HTD : Hid _ := takei_any V0 (a ++ X.dropLast) (a.length : Int) w5 hV (by rw [List.length_append, List.length_dropLast]; omega)
    rw [HTC.out] at HTD
    unfold firstV at HTD
    have HBz : Hid (Below w.heap.size w w5) := HB1.out.trans (HB4.out.mono HB1.out.size)
    clear HTK hV HO4 HB4 HO3 HB3 HO2 HB2
    go_wp2_with fail
    refine Calls.mono HTD.out ?_
    rintro e w7 ⟨rfl, rfl⟩
    clear HTD hSV HTB HTC HCL HR1 HB1
    go_wp2_with fail
    refine Calls.mono (puts_any _ _ a l w7 (HX.out.later HBz.out) (HY.out.later HBz.out) (by omega) (by omega)) ?_
    by_cases hok : l.length ≤ 255 ∧ allN l = true
    · have e1 : putsR a l = a ++ putsP (natL l) := by unfold putsR; rw [if_pos hok.1, if_pos hok.2]
      have e2 : putsE l = 0 := by unfold putsE; rw [if_pos hok.1, if_pos hok.2]
      have hnl : (natL l).length ≤ 255 := by rw [natL_len]; exact hok.1
      have HLB : Hid (listI (a ++ putsP (natL l) ++ b) (a.length : Int) = (natL l, a.length + (putsP (natL l)).length, 0)) := list_back a _ b hnl (allN_nat hok.2)
      have HLC : Hid (listI (a ++ (putsP (natL l)).dropLast) (a.length : Int) = ([], 0, 3)) := list_cut a _ hnl (allN_nat hok.2)
      have HIB : Hid (intL (natL l) = l) := ints_back hok.2
      have hpl := puts_len (natL l) hnl (allN_nat hok.2)
      have hpp := puts_pos (natL l)
      have HCL : Hid ((a ++ putsP (natL l)).take (a.length + (putsP (natL l)).length - 1) = a ++ (putsP (natL l)).dropLast) := by
        have := cut_last a (putsP (natL l)) (fun h => by rw [h] at hpp; simp at hpp)
        rw [List.length_append] at this
        exact this
      rw [e1, e2, List.length_append]
      clear e1 e2 hok
      generalize natL l = ns at *
      generalize putsP ns = S at *
      rintro e w6 ⟨v6, c6, rfl, hr6, hb6⟩
      have HB6 : Hid (Below w.heap.size w w6) := HBz.out.trans (hb6.mono HBz.out.size)
      have HR6 : Hid (RB w6 (.slice v6 (a.length + S.length) c6) (a ++ S)) := hr6
      have HB7 : Hid (Below w6.heap.size w6 (w6.alloc (.cells #[] 5))) := (Below.refl _ _).alloc (Nat.le_refl _) _
      have HO7 : Hid (OB w6.heap.size (w6.alloc (.cells #[] 5)) w6.heap.size 0 0 []) := OB.made w6 0 #[] (Nat.zero_le _) rfl
      clear hr6 hb6
      go_wp2_with (first
        | (at_builtin; refine append_bytes rfl _ _ rfl w6.heap.size w6.heap.size 0 0 [] rfl HO7.out _ (a ++ S) rfl (HR6.out.later HB7.out) (by omega) (by rw [List.length_append]; omega) (by simp) (a.length + S.length) (a ++ S) (by rw [List.length_append]; omega) rfl ?_; intro g8 c8 w8 ho8 hg8; have HB8 : Hid (Below w6.heap.size w6 w8) := HB7.out.trans (HO7.out.below (by simp) hg8); have HO8 : Hid (OB w6.heap.size w8 g8 (a.length + S.length) c8 (a ++ S)) := ho8; clear ho8 hg8)
        | (at_builtin; refine append_bytes rfl _ _ rfl w6.heap.size g8 (a.length + S.length) c8 (a ++ S) rfl HO8.out _ b rfl ((HZ.out.later HB6.out).later HB8.out) (by omega) (by omega) HB8.out.size (a.length + S.length + b.length) (a ++ S ++ b) rfl rfl ?_; intro g9 c9 w9 ho9 hg9; have HB9 : Hid (Below w6.heap.size w6 w9) := HB8.out.trans (HO8.out.below HB8.out.size hg9); have HO9 : Hid (OB w6.heap.size w9 g9 (a.length + S.length + b.length) c9 (a ++ S ++ b)) := ho9; clear ho9 hg9))
      have HTK : Hid _ := takes_any _ (a ++ S ++ b) (a.length : Int) w9 HO9.out.rb.2 (by rw [List.length_append, List.length_append]; omega)
      rw [HLB.out] at HTK
      refine Calls.mono HTK.out ?_
      rintro e w10 ⟨v10, c10, rfl, hr10, hb10⟩
      have HB10 : Hid (Below w6.heap.size w6 w10) := HB9.out.trans (hb10.mono HB9.out.size)
      have HBw10 : Hid (Below w.heap.size w w10) := HB6.out.trans (HB10.out.mono HB6.out.size)
      have HSM : Hid (Calls Try.prog 17 #[.slice v10 ns.length c10, .slice ya l.length yc] w10 fun e w' => e = .returned (.bool true) ∧ Below w10.heap.size w10 w') := by
        have h3 : RI w10 (.slice v10 ns.length c10) (intL ns) := hr10
        rw [HIB.out] at h3
        have := same_any l l _ _ w10 h3 (HY.out.later HBw10.out) (by omega) (by omega)
        rw [show decide (l = l) = true from decide_eq_true rfl] at this
        exact this
      clear hr10 hb10 HTK HO9 HB9 HO8 HB8 HO7 HB7
      go_wp2_with fail
      refine Calls.mono HSM.out ?_
      rintro e w11 ⟨rfl, hb11⟩
      have HB11 : Hid (Below w6.heap.size w6 w11) := HB10.out.trans (hb11.mono HB10.out.size)
      obtain ⟨V, hV, hSV⟩ := slice_to (HR6.out.later HB11.out) (a.length + S.length - 1) (by rw [List.length_append]; omega) ((a.length : Int) + (S.length : Int) - 1) (by omega)
      rw [HCL.out] at hV
      have HTC : Hid _ := takes_any V (a ++ S.dropLast) (a.length : Int) w11 hV (by rw [List.length_append, List.length_dropLast]; omega)
      rw [HLC.out] at HTC
      clear hb11 HSM hV
      go_wp2_with fail
      refine Calls.mono HTC.out ?_
      rintro e w12 ⟨v12, c12, rfl, _, hb12⟩
      have HB12 : Hid (Below w6.heap.size w6 w12) := HB11.out.trans (hb12.mono HB11.out.size)
      clear hb12 HTC hSV
      go_wp2_with fail
      refine (lives_any _).mono ?_
      rintro e w13 ⟨rfl, hb13⟩
      have HB13 : Hid (Below w6.heap.size w6 w13) := HB12.out.trans (hb13.mono HB12.out.size)
      clear hb13
      go_wp2_with fail
      go_ret
      exact ⟨rfl, HB6.out.trans (HB13.out.mono HB6.out.size)⟩
    · have e1 : putsR a l = [] := by
        unfold putsR
        by_cases hh : l.length ≤ 255
        · rw [if_pos hh, if_neg (fun h => hok ⟨hh, h⟩)]
        · rw [if_neg hh]
      have e2 : putsE l ≠ 0 ∧ putsE l ≤ 5 := by
        unfold putsE
        by_cases hh : l.length ≤ 255
        · rw [if_pos hh, if_neg (fun h => hok ⟨hh, h⟩)]; decide
        · rw [if_neg hh]; decide
      rw [e1]
      generalize putsE l = E at *
      obtain ⟨e2, e3⟩ := e2
      clear hok e1
      rintro e w6 ⟨v6, c6, rfl, _, hb6⟩
      have HB6 : Hid (Below w.heap.size w w6) := HBz.out.trans (hb6.mono HBz.out.size)
      clear hb6
      go_wp2_with fail
      refine (lives_any _).mono ?_
      rintro e w13 ⟨rfl, hb13⟩
      have HB13 : Hid (Below w.heap.size w w13) := HB6.out.trans (hb13.mono HB6.out.size)
      clear hb13
      go_wp2_with fail
      go_ret
      exact ⟨rfl, HB13.out⟩
  · have hi : isN n = false := decide_eq_false hn
    have HP : Hid _ := put_any _ a n w HX.out (by omega)
    unfold putR putE at HP
    rw [hi] at HP
    clear hi hn
    go_enter Try.func5, Try.ntmps5
    go_wp2_with fail
    refine Calls.mono HP.out ?_
    rintro e w1 ⟨v1, c1, rfl, _, hb1⟩
    have HBz : Hid (Below w.heap.size w w1) := hb1
    clear hb1 HP
    go_wp2_with fail
    refine Calls.mono (puts_any _ _ a l w1 (HX.out.later HBz.out) (HY.out.later HBz.out) (by omega) (by omega)) ?_
    by_cases hok : l.length ≤ 255 ∧ allN l = true
    · have e1 : putsR a l = a ++ putsP (natL l) := by unfold putsR; rw [if_pos hok.1, if_pos hok.2]
      have e2 : putsE l = 0 := by unfold putsE; rw [if_pos hok.1, if_pos hok.2]
      have hnl : (natL l).length ≤ 255 := by rw [natL_len]; exact hok.1
      have HLB : Hid (listI (a ++ putsP (natL l) ++ b) (a.length : Int) = (natL l, a.length + (putsP (natL l)).length, 0)) := list_back a _ b hnl (allN_nat hok.2)
      have HLC : Hid (listI (a ++ (putsP (natL l)).dropLast) (a.length : Int) = ([], 0, 3)) := list_cut a _ hnl (allN_nat hok.2)
      have HIB : Hid (intL (natL l) = l) := ints_back hok.2
      have hpl := puts_len (natL l) hnl (allN_nat hok.2)
      have hpp := puts_pos (natL l)
      have HCL : Hid ((a ++ putsP (natL l)).take (a.length + (putsP (natL l)).length - 1) = a ++ (putsP (natL l)).dropLast) := by
        have := cut_last a (putsP (natL l)) (fun h => by rw [h] at hpp; simp at hpp)
        rw [List.length_append] at this
        exact this
      rw [e1, e2, List.length_append]
      clear e1 e2 hok
      generalize natL l = ns at *
      generalize putsP ns = S at *
      rintro e w6 ⟨v6, c6, rfl, hr6, hb6⟩
      have HB6 : Hid (Below w.heap.size w w6) := HBz.out.trans (hb6.mono HBz.out.size)
      have HR6 : Hid (RB w6 (.slice v6 (a.length + S.length) c6) (a ++ S)) := hr6
      have HB7 : Hid (Below w6.heap.size w6 (w6.alloc (.cells #[] 5))) := (Below.refl _ _).alloc (Nat.le_refl _) _
      have HO7 : Hid (OB w6.heap.size (w6.alloc (.cells #[] 5)) w6.heap.size 0 0 []) := OB.made w6 0 #[] (Nat.zero_le _) rfl
      clear hr6 hb6
      go_wp2_with (first
        | (at_builtin; refine append_bytes rfl _ _ rfl w6.heap.size w6.heap.size 0 0 [] rfl HO7.out _ (a ++ S) rfl (HR6.out.later HB7.out) (by omega) (by rw [List.length_append]; omega) (by simp) (a.length + S.length) (a ++ S) (by rw [List.length_append]; omega) rfl ?_; intro g8 c8 w8 ho8 hg8; have HB8 : Hid (Below w6.heap.size w6 w8) := HB7.out.trans (HO7.out.below (by simp) hg8); have HO8 : Hid (OB w6.heap.size w8 g8 (a.length + S.length) c8 (a ++ S)) := ho8; clear ho8 hg8)
        | (at_builtin; refine append_bytes rfl _ _ rfl w6.heap.size g8 (a.length + S.length) c8 (a ++ S) rfl HO8.out _ b rfl ((HZ.out.later HB6.out).later HB8.out) (by omega) (by omega) HB8.out.size (a.length + S.length + b.length) (a ++ S ++ b) rfl rfl ?_; intro g9 c9 w9 ho9 hg9; have HB9 : Hid (Below w6.heap.size w6 w9) := HB8.out.trans (HO8.out.below HB8.out.size hg9); have HO9 : Hid (OB w6.heap.size w9 g9 (a.length + S.length + b.length) c9 (a ++ S ++ b)) := ho9; clear ho9 hg9))
      have HTK : Hid _ := takes_any _ (a ++ S ++ b) (a.length : Int) w9 HO9.out.rb.2 (by rw [List.length_append, List.length_append]; omega)
      rw [HLB.out] at HTK
      refine Calls.mono HTK.out ?_
      rintro e w10 ⟨v10, c10, rfl, hr10, hb10⟩
      have HB10 : Hid (Below w6.heap.size w6 w10) := HB9.out.trans (hb10.mono HB9.out.size)
      have HBw10 : Hid (Below w.heap.size w w10) := HB6.out.trans (HB10.out.mono HB6.out.size)
      have HSM : Hid (Calls Try.prog 17 #[.slice v10 ns.length c10, .slice ya l.length yc] w10 fun e w' => e = .returned (.bool true) ∧ Below w10.heap.size w10 w') := by
        have h3 : RI w10 (.slice v10 ns.length c10) (intL ns) := hr10
        rw [HIB.out] at h3
        have := same_any l l _ _ w10 h3 (HY.out.later HBw10.out) (by omega) (by omega)
        rw [show decide (l = l) = true from decide_eq_true rfl] at this
        exact this
      clear hr10 hb10 HTK HO9 HB9 HO8 HB8 HO7 HB7
      go_wp2_with fail
      refine Calls.mono HSM.out ?_
      rintro e w11 ⟨rfl, hb11⟩
      have HB11 : Hid (Below w6.heap.size w6 w11) := HB10.out.trans (hb11.mono HB10.out.size)
      obtain ⟨V, hV, hSV⟩ := slice_to (HR6.out.later HB11.out) (a.length + S.length - 1) (by rw [List.length_append]; omega) ((a.length : Int) + (S.length : Int) - 1) (by omega)
      rw [HCL.out] at hV
      have HTC : Hid _ := takes_any V (a ++ S.dropLast) (a.length : Int) w11 hV (by rw [List.length_append, List.length_dropLast]; omega)
      rw [HLC.out] at HTC
      clear hb11 HSM hV
      go_wp2_with fail
      refine Calls.mono HTC.out ?_
      rintro e w12 ⟨v12, c12, rfl, _, hb12⟩
      have HB12 : Hid (Below w6.heap.size w6 w12) := HB11.out.trans (hb12.mono HB11.out.size)
      clear hb12 HTC hSV
      go_wp2_with fail
      refine (lives_any _).mono ?_
      rintro e w13 ⟨rfl, hb13⟩
      have HB13 : Hid (Below w6.heap.size w6 w13) := HB12.out.trans (hb13.mono HB12.out.size)
      clear hb13
      go_wp2_with fail
      go_ret
      exact ⟨rfl, HB6.out.trans (HB13.out.mono HB6.out.size)⟩
    · have e1 : putsR a l = [] := by
        unfold putsR
        by_cases hh : l.length ≤ 255
        · rw [if_pos hh, if_neg (fun h => hok ⟨hh, h⟩)]
        · rw [if_neg hh]
      have e2 : putsE l ≠ 0 ∧ putsE l ≤ 5 := by
        unfold putsE
        by_cases hh : l.length ≤ 255
        · rw [if_pos hh, if_neg (fun h => hok ⟨hh, h⟩)]; decide
        · rw [if_neg hh]; decide
      rw [e1]
      generalize putsE l = E at *
      obtain ⟨e2, e3⟩ := e2
      clear hok e1
      rintro e w6 ⟨v6, c6, rfl, _, hb6⟩
      have HB6 : Hid (Below w.heap.size w w6) := HBz.out.trans (hb6.mono HBz.out.size)
      clear hb6
      go_wp2_with fail
      refine (lives_any _).mono ?_
      rintro e w13 ⟨rfl, hb13⟩
      have HB13 : Hid (Below w.heap.size w w13) := HB6.out.trans (hb13.mono HB6.out.size)
      clear hb13
      go_wp2_with fail
      go_ret
      exact ⟨rfl, HB13.out⟩

theorem walk (x : Value) (a : List UInt8) (n : Int) (y : Value) (l : List Int) (z : Value) (b : List UInt8) (w : World) (hx : RB w x a) (_w1 : (Lit.int .i64 n).wf = true) (hy : RI w y l) (hz : RB w z b) :
    Calls Try.prog 5 #[x, .int .i64 n, y, z] w fun e w' => e = .returned (.bool true) ∧ Below w.heap.size w w' := by
  by_cases h : 2000 < a.length ∨ 2000 < b.length ∨ 300 < l.length
  · exact walk_big x a n y l z b w hx hy hz h
  · exact walk_small x a n y l z b w hx hy hz (by omega) (by omega) (by omega)

open Go.ChangeShapes Go.WideShapes Go.ChangeAt

theorem own : ownKnob Try.prog.godebug = none := by kernel_rfl
theorem laidOut : laidOutB Try.prog = true := by kernel_rfl

set_option maxRecDepth 100000 in
theorem lifted (os : Os) (started : os.Started) (H : Type) (enc : TypeId × Value → H) :
    ReturnsInHanded {} Try.checked os 5 .any (Rows.wireBackSpec.pre6 enc Try.prog Try.f5 Rows.wireBackRow.domain false) (Rows.wireBackSpec.post enc Try.prog Try.f5 false true false false) := by
  refine returnsInHanded_of_change (C := Try.checked) own started (by kernel_rfl) Try.func5
    (ChangeSpec.witness6 (enc := enc) (C := Try.checked) false ⟨#[], #[.slice none 0 0, .int .i64 0, .slice none 0 0, .slice none 0 0], []⟩ 8 (by kernel_rfl) (by kernel_rfl) (by kernel_rfl) (by kernel_rfl)) ?_
  intro W base args ds gs before hval0 hW hcnd _
  have hval : ∀ (j : Nat) t v, Try.f5.params[j]? = some t → args[j]? = some v → Value.okWide Try.prog W .any base t v := hval0
  have hW' := hW
  obtain ⟨p, q, hA0, hV, rfl, hfz, hnd⟩ := hW
  have hA : DataW.TrodAll enc Try.prog W 0 (fun _ => true) true Try.f5.params.toList args.toList ds p := hA0
  rw [Try.params5] at hA hval
  obtain ⟨v0, vs0, d0, ds0, p0, q0, hargs, rfl, rfl, h0, r0⟩ := trodAll_cons hA
  obtain ⟨v1, vs1, d1, ds1, p1, q1, rfl, rfl, rfl, h1, r1⟩ := trodAll_cons r0
  obtain ⟨v2, vs2, d2, ds2, p2, q2, rfl, rfl, rfl, h2, r2⟩ := trodAll_cons r1
  obtain ⟨v3, vs3, d3, ds3, p3, q3, rfl, rfl, rfl, h3, r3⟩ := trodAll_cons r2
  obtain ⟨rfl, rfl, rfl⟩ := trodAll_nil r3
  obtain rfl : args = #[v0, v1, v2, v3] := by cases args; simp_all
  obtain ⟨rfl, rfl⟩ := trodVars_none hV
  obtain ⟨a1, rfl, rfl, rfl, w1⟩ := open_int Try.underlying3 (hval 1 3 v1 rfl rfl) h1
  obtain ⟨a0, len0, cap0, rfl⟩ := okWide_slice Try.underlying22 (hval 0 22 v0 rfl rfl)
  have k0 := h0
  have lt0 : ∀ x ∈ p0, x.block < W.heap.size := by obtain ⟨m, hm⟩ := k0; exact DataW.trod_lt m _ _ _ hm
  obtain ⟨z0, w0⟩ : ∃ L, RB W (.slice a0 len0 cap0) L := by
    obtain ⟨fuel, hf⟩ := h0
    obtain ⟨v, l, hv, hl⟩ := open_u8s hf
    simp [Value.cells] at hv
    subst hv
    exact ⟨l, hl⟩
  obtain ⟨a2, len2, cap2, rfl⟩ := okWide_slice Try.underlying23 (hval 2 23 v2 rfl rfl)
  have k2 := h2
  have lt2 : ∀ x ∈ p2, x.block < W.heap.size := by obtain ⟨m, hm⟩ := k2; exact DataW.trod_lt m _ _ _ hm
  obtain ⟨z2, w2⟩ : ∃ L, RI W (.slice a2 len2 cap2) L := by
    obtain ⟨fuel, hf⟩ := h2
    obtain ⟨v, l, hv, hl⟩ := open_i64s hf
    simp [Value.cells] at hv
    subst hv
    exact ⟨l, hl⟩
  obtain ⟨a3, len3, cap3, rfl⟩ := okWide_slice Try.underlying22 (hval 3 22 v3 rfl rfl)
  have k3 := h3
  have lt3 : ∀ x ∈ p3, x.block < W.heap.size := by obtain ⟨m, hm⟩ := k3; exact DataW.trod_lt m _ _ _ hm
  obtain ⟨z3, w3⟩ : ∃ L, RB W (.slice a3 len3 cap3) L := by
    obtain ⟨fuel, hf⟩ := h3
    obtain ⟨v, l, hv, hl⟩ := open_u8s hf
    simp [Value.cells] at hv
    subst hv
    exact ⟨l, hl⟩
  clear hA0 hval0
  refine (walk (.slice a0 len0 cap0) z0 a1 (.slice a2 len2 cap2) z2 (.slice a3 len3 cap3) z3 W w0 w1 w2 w3).mono fun e W' ⟨he, bel⟩ => ?_
  subst he
  exact ⟨_, rfl, _, _, _, [], _, [], hW', trodAll_mk1 (shut_bool Try.underlying4 _), (trodAll_cons_mk (Below.trod laidOut (by kernel_rfl) (of_decide_eq_true (by kernel_rfl)) k0 bel lt0) (trodAll_cons_mk (shut_int Try.underlying3 w1) (trodAll_cons_mk (Below.trod laidOut (by kernel_rfl) (of_decide_eq_true (by kernel_rfl)) k2 bel lt2) (trodAll_cons_mk (Below.trod laidOut (by kernel_rfl) (of_decide_eq_true (by kernel_rfl)) k3 bel lt3) trodAll_mk0)))), rfl, bel.frame _, fun h => by cases h⟩

theorem over : Rows.wireBackRow.holds Try.pinned (OpenSpec.ofChange Rows.wireBackSpec) :=
  OpenClaim.holds_of_wide 5 Try.f5 rfl rfl rfl rfl rfl rfl rfl ⟨rfl, rfl, rfl, rfl, rfl⟩ rfl rfl rfl rfl rfl (by kernel_rfl) Try.func5 (by kernel_rfl)
    (of_decide_eq_true (by kernel_rfl)) (by unfold Func.isWrapper; first | (rw [if_pos (by decide +kernel)]; kernel_rfl) | (rw [if_neg (by decide +kernel)]; exact ⟨rfl, rfl⟩))
    (fun os started H enc _ => lifted os started H enc)
end Go.Proofs.Ytbhebnhjnpfhgaa.wireBack
namespace Go.Proofs.Ytbhebnhjnpfhgaa

theorem wireBack_holds : Rows.WireBackSaid := wireBack.over
#print axioms wireBack_holds
end Go.Proofs.Ytbhebnhjnpfhgaa
