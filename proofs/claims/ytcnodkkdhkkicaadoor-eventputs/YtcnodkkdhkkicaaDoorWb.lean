/- The walks over wire.right, wire.room, wire.add and wire.Put. -/
import Derived.Test.YtcnodkkdhkkicaaDoorWa
namespace Go.Proofs.YtcnodkkdhkkicaaDoor
open Go.RowKit
set_option linter.unusedVariables false

/-- Is it a number? -/
def isN (n : Int) : Bool := decide (0 ≤ n ∧ n ≤ 1099511627776)

set_option maxRecDepth 1000000 in
set_option maxHeartbeats 1000000 in
theorem right_any (n : Int) (w : World) : Calls Tryd.prog 47 #[.int .i64 n] w fun e w' => e = .returned (.bool (isN n)) ∧ w' = w := by
  by_cases h0 : 0 ≤ n
  · by_cases h1 : n ≤ 1099511627776
    · have HQ : Hid (isN n = true) := decide_eq_true ⟨h0, h1⟩
      go_enter Tryd.func47, Tryd.ntmps47
      go_wp2_with fail
      go_ret
      exact ⟨by rw [HQ.out]; rfl, rfl⟩
    · have HQ : Hid (isN n = false) := decide_eq_false fun h => h1 h.2
      go_enter Tryd.func47, Tryd.ntmps47
      go_wp2_with fail
      go_ret
      exact ⟨by rw [HQ.out]; rfl, rfl⟩
  · have HQ : Hid (isN n = false) := decide_eq_false fun h => h0 h.1
    go_enter Tryd.func47, Tryd.ntmps47
    go_wp2_with fail
    go_ret
    exact ⟨by rw [HQ.out]; rfl, rfl⟩

set_option maxRecDepth 1000000 in
set_option maxHeartbeats 1000000 in
theorem is_any (n : Int) (w : World) : Calls Tryd.prog 45 #[.int .i64 n] w fun e w' => e = .returned (.bool (isN n)) ∧ w' = w := by
  by_cases h0 : 0 ≤ n
  · by_cases h1 : n ≤ 1099511627776
    · have HQ : Hid (isN n = true) := decide_eq_true ⟨h0, h1⟩
      go_enter Tryd.func45, Tryd.ntmps45
      go_wp2_with fail
      go_ret
      exact ⟨by rw [HQ.out]; rfl, rfl⟩
    · have HQ : Hid (isN n = false) := decide_eq_false fun h => h1 h.2
      go_enter Tryd.func45, Tryd.ntmps45
      go_wp2_with fail
      go_ret
      exact ⟨by rw [HQ.out]; rfl, rfl⟩
  · have HQ : Hid (isN n = false) := decide_eq_false fun h => h0 h.1
    go_enter Tryd.func45, Tryd.ntmps45
    go_wp2_with fail
    go_ret
    exact ⟨by rw [HQ.out]; rfl, rfl⟩

set_option maxRecDepth 1000000 in
set_option maxHeartbeats 1000000 in
theorem room_any (x : Value) (a : List UInt8) (c : Nat) (w : World) (hx : RB w x a) (ha : a.length ≤ 100000) (hc : c ≤ 1000) :
    Calls Tryd.prog 49 #[x, .int .i64 c] w fun e w' => ∃ g cap, e = .returned (.slice (some ⟨g, 0, none⟩) a.length cap) ∧ OB w.heap.size w' g a.length cap a ∧ Below w.heap.size w w' := by
  have HX : Hid (RB w x a) := hx
  obtain ⟨xa, xc, rfl, _, _, _, _⟩ := hx
  obtain ⟨C, hC, hmk⟩ := made_any (a.length + c * 6) (by omega) ((a.length : Int) + (c : Int) * 6) (by omega)
  have HB1 : Hid (Below w.heap.size w (w.alloc (.cells C 5))) := (Below.refl _ _).alloc (Nat.le_refl _) _
  have HO1 : Hid (OB w.heap.size (w.alloc (.cells C 5)) w.heap.size 0 (a.length + c * 6) []) := OB.made w _ C (by unfold maxLen; omega) hC
  clear hC
  go_enter Tryd.func49, Tryd.ntmps49
  go_wp2_with (first
    | (at_builtin; refine append_bytes rfl _ _ rfl w.heap.size w.heap.size 0 _ [] rfl HO1.out _ a rfl (HX.out.later HB1.out) (by omega) (by omega) (by simp) a.length a (by omega) rfl ?_; intro g2 c2 w2 ho2 hg2))
  go_ret
  exact ⟨_, _, rfl, ho2, HB1.out.trans (HO1.out.below (by simp) hg2)⟩

theorem byte_more (k : Nat) (hk : ¬ k < 128) : bvs [UInt8.ofNat (128 + k % 128)] = [.int .u8 (((k : Int) % 128 + 128))] := by
  simp only [bvs, List.map_cons, List.map_nil, u8_nat, List.cons.injEq, and_true]
  congr 1
  omega

theorem byte_last (k : Nat) (hk : k < 128) : bvs [UInt8.ofNat k] = [.int .u8 (k : Int)] := by
  simp only [bvs, List.map_cons, List.map_nil, u8_nat, List.cons.injEq, and_true]
  congr 1
  omega

set_option maxRecDepth 1000000 in
set_option maxHeartbeats 1000000 in
theorem add_any (B g0 m0 cap0 n : Nat) (bs0 : List UInt8) (w : World) (hB : B ≤ w.heap.size) (hO : OB B w g0 m0 cap0 bs0) (hm : m0 ≤ 100000) (hn : n ≤ 1099511627776) :
    Calls Tryd.prog 48 #[.slice (some ⟨g0, 0, none⟩) m0 cap0, .int .i64 n] w fun e w' => ∃ g cap, e = .returned (.slice (some ⟨g, 0, none⟩) (m0 + (oneP n).length) cap) ∧ OB B w' g (m0 + (oneP n).length) cap (bs0 ++ oneP n) ∧ Below B w w' := by
  have HO : Hid (OB B w g0 m0 cap0 bs0) := hO
  have h6 := one_six hn
  obtain ⟨M, HM⟩ : ∃ M, Hid (M = m0 + (oneP n).length) := ⟨_, rfl⟩
  have hM : M ≤ 100006 := by rw [HM.out]; omega
  have HBw : Hid (B ≤ w.heap.size) := hB
  clear hO hB h6
  rw [← HM.out]
  go_enter Tryd.func48, Tryd.ntmps48
  go_wp2_with fail
  go_loopw [0, 1] (fun av nv wr => ∃ (g m cap k : Nat) (bs : List UInt8), av = .slice (some ⟨g, 0, none⟩) m cap ∧ nv = .int .i64 k ∧ k ≤ 1099511627776 ∧ m ≤ 100006 ∧ Hid (m + (oneP k).length = M) ∧ Hid (OB B wr g m cap bs) ∧ Hid (bs ++ oneP k = bs0 ++ oneP n) ∧ Hid (Below B w wr)) (fun _ nv _ => (intOf nv).toNat)
  case atStart => exact ⟨g0, m0, cap0, n, bs0, rfl, rfl, hn, by omega, HM.out.symm, HO, rfl, Below.refl _ _⟩
  case round =>
    obtain ⟨g, m, cap, k, bs, rfl, rfl, hk, hmm, HK, HR, HE, HB⟩ := hrel
    rename World => w1
    have HS1 : Hid (B ≤ w1.heap.size) := Nat.le_trans HBw.out HB.out.size
    by_cases hlt : k < 128
    · have HY := byte_last k hlt
      have HL : Hid (m + 1 = M) := by have := HK.out; rw [one_len_lt hlt] at this; exact this
      have HE2 : Hid (bs ++ [UInt8.ofNat k] = bs0 ++ oneP n) := by have := HE.out; rw [one_lt hlt] at this; exact this
      have HY2 : Hid (bvs [UInt8.ofNat k] = [.int .u8 (k : Int)]) := HY
      clear HY HE HK
      go_wp2_with (first
        | (at_builtin; refine append_bytes rfl _ _ rfl B g m cap bs rfl (HR.out.later ((Below.refl _ _).alloc (Nat.le_refl _) _)) _ [UInt8.ofNat k] rfl (RB.new w1 [UInt8.ofNat k] _ 5 HY2.out.symm (by simp)) (by omega) (by simp) (by have := HS1.out; simp; omega) M (bs0 ++ oneP n) HL.out.symm HE2.out.symm ?_; intro g2 c2 w2 ho2 hg2))
      go_ret
      refine ⟨_, _, rfl, ho2, ?_⟩
      exact (HB.out.alloc HS1.out _).trans ((HR.out.later ((Below.refl _ _).alloc (Nat.le_refl _) _)).below (by have := HS1.out; simp; omega) hg2)
    · have HY := byte_more k hlt
      have HY2 : Hid (bvs [UInt8.ofNat (128 + k % 128)] = [.int .u8 ((k : Int) % 128 + 128)]) := HY
      have HL : Hid (m + 1 + (oneP (k / 128)).length = M) := by have := HK.out; rw [one_len_ge hlt] at this; show _ = _; omega
      have HE2 : Hid (bs ++ [UInt8.ofNat (128 + k % 128)] ++ oneP (k / 128) = bs0 ++ oneP n) := by have := HE.out; rw [one_ge hlt] at this; show _ = _; rw [← this, List.append_assoc]; rfl
      have HL2 : Hid (m + 1 ≤ 100006) := by have := HL.out; show _ ≤ _; omega
      clear HY HE HK
      go_wp2_with (first
        | (at_builtin; refine append_bytes rfl _ _ rfl B g m cap bs rfl (HR.out.later ((Below.refl _ _).alloc (Nat.le_refl _) _)) _ [UInt8.ofNat (128 + k % 128)] rfl (RB.new w1 [UInt8.ofNat (128 + k % 128)] _ 5 HY2.out.symm (by simp)) (by omega) (by simp) (by have := HS1.out; simp; omega) (m + 1) (bs ++ [UInt8.ofNat (128 + k % 128)]) rfl rfl ?_; intro g2 c2 w2 ho2 hg2))
      go_roundw
      case rel =>
        refine ⟨g2, m + 1, c2, k / 128, _, rfl, by go_num, by omega, HL2.out, HL, ho2, HE2, ?_⟩
        exact (HB.out.alloc HS1.out _).trans ((HR.out.later ((Below.refl _ _).alloc (Nat.le_refl _) _)).below (by have := HS1.out; simp; omega) hg2)
      case measure => simp [intOf]; omega

/-- What Put answers. -/
def putR (a : List UInt8) (n : Int) : List UInt8 := if isN n then a ++ oneP n.toNat else []
def putE (n : Int) : Nat := if isN n then 0 else 2

set_option maxRecDepth 1000000 in
set_option maxHeartbeats 1000000 in
theorem put_any (x : Value) (a : List UInt8) (n : Int) (w : World) (hx : RB w x a) (ha : a.length ≤ 90000) :
    Calls Tryd.prog 36 #[x, .int .i64 n] w fun e w' => ∃ v c, e = .returned (.tuple #[.slice v (putR a n).length c, .int .i64 (putE n : Nat)]) ∧ RB w' (.slice v (putR a n).length c) (putR a n) ∧ Below w.heap.size w w' := by
  have HI := fun wx => right_any n wx
  unfold putR putE
  by_cases h : isN n = true
  · rw [if_pos h, if_pos h]
    rw [h] at HI
    have hr : 0 ≤ n ∧ n ≤ 1099511627776 := of_decide_eq_true h
    obtain ⟨q, rfl⟩ : ∃ q : Nat, n = (q : Int) := ⟨n.toNat, by omega⟩
    rw [Int.toNat_natCast]
    have hq : q ≤ 1099511627776 := by omega
    have HR : Hid _ := room_any x a 1 w hx (by omega) (by omega)
    have HI2 : Hid (∀ wx, Calls Tryd.prog 47 #[.int .i64 (q : Int)] wx fun e w' => e = .returned (.bool true) ∧ w' = wx) := HI
    obtain ⟨xa, xc, rfl, _, _, _, _⟩ := hx
    clear HI h hr
    go_enter Tryd.func36, Tryd.ntmps36
    go_wp2_with fail
    refine Calls.mono (HI2.out _) ?_
    rintro e w1 ⟨rfl, rfl⟩
    go_wp2_with fail
    refine Calls.mono HR.out ?_
    rintro e w2 ⟨g2, c2, rfl, ho2, hb2⟩
    have HA : Hid _ := add_any w1.heap.size g2 a.length c2 q a w2 hb2.size ho2 (by omega) hq
    have HB2 : Hid (Below w1.heap.size w1 w2) := hb2
    clear ho2 hb2 HR
    go_wp2_with fail
    refine Calls.mono HA.out ?_
    rintro e w3 ⟨g3, c3, rfl, ho3, hb3⟩
    have HO3 : Hid (OB w1.heap.size w3 g3 (a.length + (oneP q).length) c3 (a ++ oneP q)) := ho3
    have HB3 : Hid _ := hb3
    clear ho3 hb3 HA
    go_wp2_with fail
    go_ret2
    rw [List.length_append]
    exact ⟨_, _, rfl, HO3.out.rb.2, HB2.out.trans HB3.out⟩
  · rw [if_neg h, if_neg h]
    have h2 : isN n = false := by simpa using h
    rw [h2] at HI
    have HI2 : Hid (∀ wx, Calls Tryd.prog 47 #[.int .i64 n] wx fun e w' => e = .returned (.bool false) ∧ w' = wx) := HI
    clear HI h h2
    obtain ⟨xa, xc, rfl, _, _, _, _⟩ := hx
    go_enter Tryd.func36, Tryd.ntmps36
    go_wp2_with fail
    refine Calls.mono (HI2.out _) ?_
    rintro e w1 ⟨rfl, rfl⟩
    go_wp2_with fail
    go_ret2
    exact ⟨none, 0, rfl, RB.nil _, Below.refl _ _⟩
end Go.Proofs.YtcnodkkdhkkicaaDoor
