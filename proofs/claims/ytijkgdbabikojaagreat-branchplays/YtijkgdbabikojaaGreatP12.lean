/- Texts of the seat, packed: Wb Wc Wd We. -/
import Derived.Test.YtijkgdbabikojaaGreatP11
import Derived.WalkMore
/- The walks over wire.right, wire.room, wire.add and wire.Put. -/
namespace Go.Proofs.YtijkgdbabikojaaGreat
set_option maxRecDepth 1000000
open Go.RowKit
set_option linter.unusedVariables false

/-- Is it a number? -/
def isN (n : Int) : Bool := decide (0 ≤ n ∧ n ≤ 1099511627776)

set_option maxRecDepth 1000000 in
set_option maxHeartbeats 1000000 in
theorem right_any (n : Int) (w : World) : Calls Tryz.prog 117 #[.int .i64 n] w fun e w' => e = .returned (.bool (isN n)) ∧ w' = w := by
  by_cases h0 : 0 ≤ n
  · by_cases h1 : n ≤ 1099511627776
    · have HQ : Hid (isN n = true) := decide_eq_true ⟨h0, h1⟩
      go_enter Tryz.func117, Tryz.ntmps117
      go_wp2_with fail
      go_ret
      exact ⟨by rw [HQ.out]; rfl, rfl⟩
    · have HQ : Hid (isN n = false) := decide_eq_false fun h => h1 h.2
      go_enter Tryz.func117, Tryz.ntmps117
      go_wp2_with fail
      go_ret
      exact ⟨by rw [HQ.out]; rfl, rfl⟩
  · have HQ : Hid (isN n = false) := decide_eq_false fun h => h0 h.1
    go_enter Tryz.func117, Tryz.ntmps117
    go_wp2_with fail
    go_ret
    exact ⟨by rw [HQ.out]; rfl, rfl⟩

set_option maxRecDepth 1000000 in
set_option maxHeartbeats 1000000 in
theorem is_any (n : Int) (w : World) : Calls Tryz.prog 115 #[.int .i64 n] w fun e w' => e = .returned (.bool (isN n)) ∧ w' = w := by
  by_cases h0 : 0 ≤ n
  · by_cases h1 : n ≤ 1099511627776
    · have HQ : Hid (isN n = true) := decide_eq_true ⟨h0, h1⟩
      go_enter Tryz.func115, Tryz.ntmps115
      go_wp2_with fail
      go_ret
      exact ⟨by rw [HQ.out]; rfl, rfl⟩
    · have HQ : Hid (isN n = false) := decide_eq_false fun h => h1 h.2
      go_enter Tryz.func115, Tryz.ntmps115
      go_wp2_with fail
      go_ret
      exact ⟨by rw [HQ.out]; rfl, rfl⟩
  · have HQ : Hid (isN n = false) := decide_eq_false fun h => h0 h.1
    go_enter Tryz.func115, Tryz.ntmps115
    go_wp2_with fail
    go_ret
    exact ⟨by rw [HQ.out]; rfl, rfl⟩

set_option maxRecDepth 1000000 in
set_option maxHeartbeats 1000000 in
theorem room_any (x : Value) (a : List UInt8) (c : Nat) (w : World) (hx : RB w x a) (ha : a.length ≤ 100000) (hc : c ≤ 1000) :
    Calls Tryz.prog 119 #[x, .int .i64 c] w fun e w' => ∃ g cap, e = .returned (.slice (some ⟨g, 0, none⟩) a.length cap) ∧ OB w.heap.size w' g a.length cap a ∧ Below w.heap.size w w' := by
  have HX : Hid (RB w x a) := hx
  obtain ⟨xa, xc, rfl, _, _, _, _⟩ := hx
  obtain ⟨C, hC, hmk⟩ := made_any (a.length + c * 6) (by omega) ((a.length : Int) + (c : Int) * 6) (by omega)
  have HB1 : Hid (Below w.heap.size w (w.alloc (.cells C 5))) := (Below.refl _ _).alloc (Nat.le_refl _) _
  have HO1 : Hid (OB w.heap.size (w.alloc (.cells C 5)) w.heap.size 0 (a.length + c * 6) []) := OB.made w _ C (by unfold maxLen; omega) hC
  clear hC
  go_enter Tryz.func119, Tryz.ntmps119
  go_wp2_with (first
    | (at_builtin; refine append_bytes rfl _ _ rfl w.heap.size w.heap.size 0 _ [] rfl HO1.out _ a rfl (HX.out.later HB1.out) (by omega) (by omega) (by simp) a.length a (by omega) rfl ?_; intro g2 c2 w2 ho2 hg2))
  go_ret
  exact ⟨_, _, rfl, ho2, HB1.out.trans (HO1.out.below (by simp) hg2)⟩

theorem byte_more (k : Nat) (hk : ¬ k < 128) : bvs [UInt8.ofNat (128 + k % 128)] = [.int .u8 (((k : Int) % 128 + 128))] := by
  simp only [bvs, List.map_cons, List.map_nil, u8_nat, List.cons.injEq, and_true]
  congr 1
  omega

theorem byte_last (k : Nat) (hk : k < 128) : bvs [UInt8.ofNat k] = [.int .u8 (k : Int)] := by
  simp only [bvs, List.map_cons, List.map_nil, u8_nat, List.cons.injEq, and_true]
  congr 1
  omega

set_option maxRecDepth 1000000 in
set_option maxHeartbeats 1000000 in
theorem add_any (B g0 m0 cap0 n : Nat) (bs0 : List UInt8) (w : World) (hB : B ≤ w.heap.size) (hO : OB B w g0 m0 cap0 bs0) (hm : m0 ≤ 100000) (hn : n ≤ 1099511627776) :
    Calls Tryz.prog 118 #[.slice (some ⟨g0, 0, none⟩) m0 cap0, .int .i64 n] w fun e w' => ∃ g cap, e = .returned (.slice (some ⟨g, 0, none⟩) (m0 + (oneP n).length) cap) ∧ OB B w' g (m0 + (oneP n).length) cap (bs0 ++ oneP n) ∧ Below B w w' := by
  have HO : Hid (OB B w g0 m0 cap0 bs0) := hO
  have h6 := one_six hn
  obtain ⟨M, HM⟩ : ∃ M, Hid (M = m0 + (oneP n).length) := ⟨_, rfl⟩
  have hM : M ≤ 100006 := by rw [HM.out]; omega
  have HBw : Hid (B ≤ w.heap.size) := hB
  clear hO hB h6
  rw [← HM.out]
  go_enter Tryz.func118, Tryz.ntmps118
  go_wp2_with fail
  go_loopw [0, 1] (fun av nv wr => ∃ (g m cap k : Nat) (bs : List UInt8), av = .slice (some ⟨g, 0, none⟩) m cap ∧ nv = .int .i64 k ∧ k ≤ 1099511627776 ∧ m ≤ 100006 ∧ Hid (m + (oneP k).length = M) ∧ Hid (OB B wr g m cap bs) ∧ Hid (bs ++ oneP k = bs0 ++ oneP n) ∧ Hid (Below B w wr)) (fun _ nv _ => (intOf nv).toNat)
  case atStart => exact ⟨g0, m0, cap0, n, bs0, rfl, rfl, hn, by omega, HM.out.symm, HO, rfl, Below.refl _ _⟩
  case round =>
    obtain ⟨g, m, cap, k, bs, rfl, rfl, hk, hmm, HK, HR, HE, HB⟩ := hrel
    rename World => w1
    have HS1 : Hid (B ≤ w1.heap.size) := Nat.le_trans HBw.out HB.out.size
    by_cases hlt : k < 128
    · have HY := byte_last k hlt
      have HL : Hid (m + 1 = M) := by have := HK.out; rw [one_len_lt hlt] at this; exact this
      have HE2 : Hid (bs ++ [UInt8.ofNat k] = bs0 ++ oneP n) := by have := HE.out; rw [one_lt hlt] at this; exact this
      have HY2 : Hid (bvs [UInt8.ofNat k] = [.int .u8 (k : Int)]) := HY
      clear HY HE HK
      go_wp2_with (first
        | (at_builtin; refine append_bytes rfl _ _ rfl B g m cap bs rfl (HR.out.later ((Below.refl _ _).alloc (Nat.le_refl _) _)) _ [UInt8.ofNat k] rfl (RB.new w1 [UInt8.ofNat k] _ 5 HY2.out.symm (by simp)) (by omega) (by simp) (by have := HS1.out; simp; omega) M (bs0 ++ oneP n) HL.out.symm HE2.out.symm ?_; intro g2 c2 w2 ho2 hg2))
      go_ret
      refine ⟨_, _, rfl, ho2, ?_⟩
      exact (HB.out.alloc HS1.out _).trans ((HR.out.later ((Below.refl _ _).alloc (Nat.le_refl _) _)).below (by have := HS1.out; simp; omega) hg2)
    · have HY := byte_more k hlt
      have HY2 : Hid (bvs [UInt8.ofNat (128 + k % 128)] = [.int .u8 ((k : Int) % 128 + 128)]) := HY
      have HL : Hid (m + 1 + (oneP (k / 128)).length = M) := by have := HK.out; rw [one_len_ge hlt] at this; show _ = _; omega
      have HE2 : Hid (bs ++ [UInt8.ofNat (128 + k % 128)] ++ oneP (k / 128) = bs0 ++ oneP n) := by have := HE.out; rw [one_ge hlt] at this; show _ = _; rw [← this, List.append_assoc]; rfl
      have HL2 : Hid (m + 1 ≤ 100006) := by have := HL.out; show _ ≤ _; omega
      clear HY HE HK
      go_wp2_with (first
        | (at_builtin; refine append_bytes rfl _ _ rfl B g m cap bs rfl (HR.out.later ((Below.refl _ _).alloc (Nat.le_refl _) _)) _ [UInt8.ofNat (128 + k % 128)] rfl (RB.new w1 [UInt8.ofNat (128 + k % 128)] _ 5 HY2.out.symm (by simp)) (by omega) (by simp) (by have := HS1.out; simp; omega) (m + 1) (bs ++ [UInt8.ofNat (128 + k % 128)]) rfl rfl ?_; intro g2 c2 w2 ho2 hg2))
      go_roundw
      case rel =>
        refine ⟨g2, m + 1, c2, k / 128, _, rfl, by go_num, by omega, HL2.out, HL, ho2, HE2, ?_⟩
        exact (HB.out.alloc HS1.out _).trans ((HR.out.later ((Below.refl _ _).alloc (Nat.le_refl _) _)).below (by have := HS1.out; simp; omega) hg2)
      case measure => simp [intOf]; omega

/-- What Put answers. -/
def putR (a : List UInt8) (n : Int) : List UInt8 := if isN n then a ++ oneP n.toNat else []
def putE (n : Int) : Nat := if isN n then 0 else 2

set_option maxRecDepth 1000000 in
set_option maxHeartbeats 1000000 in
theorem put_any (x : Value) (a : List UInt8) (n : Int) (w : World) (hx : RB w x a) (ha : a.length ≤ 90000) :
    Calls Tryz.prog 103 #[x, .int .i64 n] w fun e w' => ∃ v c, e = .returned (.tuple #[.slice v (putR a n).length c, .int .i64 (putE n : Nat)]) ∧ RB w' (.slice v (putR a n).length c) (putR a n) ∧ Below w.heap.size w w' := by
  have HI := fun wx => right_any n wx
  unfold putR putE
  by_cases h : isN n = true
  · rw [if_pos h, if_pos h]
    rw [h] at HI
    have hr : 0 ≤ n ∧ n ≤ 1099511627776 := of_decide_eq_true h
    obtain ⟨q, rfl⟩ : ∃ q : Nat, n = (q : Int) := ⟨n.toNat, by omega⟩
    rw [Int.toNat_natCast]
    have hq : q ≤ 1099511627776 := by omega
    have HR : Hid _ := room_any x a 1 w hx (by omega) (by omega)
    have HI2 : Hid (∀ wx, Calls Tryz.prog 117 #[.int .i64 (q : Int)] wx fun e w' => e = .returned (.bool true) ∧ w' = wx) := HI
    obtain ⟨xa, xc, rfl, _, _, _, _⟩ := hx
    clear HI h hr
    go_enter Tryz.func103, Tryz.ntmps103
    go_wp2_with fail
    refine Calls.mono (HI2.out _) ?_
    rintro e w1 ⟨rfl, rfl⟩
    go_wp2_with fail
    refine Calls.mono HR.out ?_
    rintro e w2 ⟨g2, c2, rfl, ho2, hb2⟩
    have HA : Hid _ := add_any w1.heap.size g2 a.length c2 q a w2 hb2.size ho2 (by omega) hq
    have HB2 : Hid (Below w1.heap.size w1 w2) := hb2
    clear ho2 hb2 HR
    go_wp2_with fail
    refine Calls.mono HA.out ?_
    rintro e w3 ⟨g3, c3, rfl, ho3, hb3⟩
    have HO3 : Hid (OB w1.heap.size w3 g3 (a.length + (oneP q).length) c3 (a ++ oneP q)) := ho3
    have HB3 : Hid _ := hb3
    clear ho3 hb3 HA
    go_wp2_with fail
    go_ret2
    rw [List.length_append]
    exact ⟨_, _, rfl, HO3.out.rb.2, HB2.out.trans HB3.out⟩
  · rw [if_neg h, if_neg h]
    have h2 : isN n = false := by simpa using h
    rw [h2] at HI
    have HI2 : Hid (∀ wx, Calls Tryz.prog 117 #[.int .i64 n] wx fun e w' => e = .returned (.bool false) ∧ w' = wx) := HI
    clear HI h h2
    obtain ⟨xa, xc, rfl, _, _, _, _⟩ := hx
    go_enter Tryz.func103, Tryz.ntmps103
    go_wp2_with fail
    refine Calls.mono (HI2.out _) ?_
    rintro e w1 ⟨rfl, rfl⟩
    go_wp2_with fail
    go_ret2
    exact ⟨none, 0, rfl, RB.nil _, Below.refl _ _⟩
end Go.Proofs.YtijkgdbabikojaaGreat

/- The walk over wire.first: the number at the front of bytes. -/
namespace Go.Proofs.YtijkgdbabikojaaGreat
set_option maxRecDepth 1000000
open Go.RowKit
set_option linter.unusedVariables false

theorem longs_step : ∀ (l : List UInt8) (k : Nat), k ≤ longs l → k < l.length → 128 ≤ (l.getD k 0).toNat → k + 1 ≤ longs l
  | [], k, _, h, _ => by simp at h
  | c :: l, 0, _, _, h => by
    have h1 : 128 ≤ c.toNat := h
    rw [longs, if_pos h1]; omega
  | c :: l, k + 1, hk, hl, h => by
    by_cases h1 : 128 ≤ c.toNat
    · rw [longs, if_pos h1] at hk ⊢
      rw [List.getD_cons_succ] at h
      have := longs_step l k (by omega) (by simpa using hl) h
      omega
    · rw [longs, if_neg h1] at hk; omega

theorem longs_stop : ∀ (l : List UInt8) (k : Nat), k ≤ longs l → k < l.length → (l.getD k 0).toNat < 128 → longs l = k
  | [], k, _, h, _ => by simp at h
  | c :: l, 0, _, _, h => by
    have h1 : ¬ 128 ≤ c.toNat := by have : c.toNat < 128 := h; omega
    rw [longs, if_neg h1]
  | c :: l, k + 1, hk, hl, h => by
    by_cases h1 : 128 ≤ c.toNat
    · rw [longs, if_pos h1] at hk ⊢
      rw [List.getD_cons_succ] at h
      have := longs_stop l k (by omega) (by simpa using hl) h
      omega
    · rw [longs, if_neg h1] at hk; omega

theorem val_take : ∀ (l : List UInt8) (k : Nat), k < l.length → val (l.take (k + 1)) = val (l.take k) + (l.getD k 0).toNat % 128 * 128 ^ k
  | [], k, h => by simp at h
  | c :: l, 0, _ => by
    show c.toNat % 128 + 128 * val (l.take 0) = 0 + c.toNat % 128 * 128 ^ 0
    rw [List.take_zero]
    show c.toNat % 128 + 128 * 0 = _
    omega
  | c :: l, k + 1, h => by
    have ih := val_take l k (by simpa using h)
    rw [List.getD_cons_succ, List.take_succ_cons, List.take_succ_cons]
    show c.toNat % 128 + 128 * val (l.take (k + 1)) = c.toNat % 128 + 128 * val (l.take k) + _
    rw [ih, Nat.pow_succ, ← Nat.mul_assoc, Nat.mul_add]
    omega

theorem val_lt : ∀ (l : List UInt8), val l < 128 ^ l.length
  | [] => by simp [val]
  | c :: l => by
    have := val_lt l
    rw [List.length_cons, Nat.pow_succ]
    show c.toNat % 128 + 128 * val l < _
    omega

/-- Six bytes at most: what the loop knows. -/
def Fi (l : List UInt8) (k q : Nat) : Prop := k ≤ longs l ∧ q = val (l.take k) ∧ q < 128 ^ k

theorem Fi.zero (l : List UInt8) : Fi l 0 0 := ⟨Nat.zero_le _, by simp [val], by simp⟩

theorem Fi.next {l : List UInt8} {k q c : Nat} (h : Fi l k q) (hk : k < l.length) (hc : c = (l.getD k 0).toNat) (h8 : 128 ≤ c) : Fi l (k + 1) (q + (c - 128) * 128 ^ k) := by
  obtain ⟨h1, h2, h3⟩ := h
  have hb := b_lt (l.getD k 0)
  subst hc
  have e : (l.getD k 0).toNat % 128 = (l.getD k 0).toNat - 128 := by omega
  have hv := val_take l k hk
  rw [e, ← h2] at hv
  refine ⟨longs_step l k h1 hk h8, hv.symm, ?_⟩
  rw [← hv]
  have := val_lt (l.take (k + 1))
  rw [List.length_take, Nat.min_eq_left (by omega)] at this
  exact this

theorem Fi.six {l : List UInt8} {q : Nat} (h : Fi l 6 q) : numP l = (0, 0, 4) := by
  unfold numP
  rw [if_pos h.1]

theorem Fi.short {l : List UInt8} {k q : Nat} (h : Fi l k q) (hk : k < 6) (hl : k = l.length) : numP l = (0, 0, 3) := by
  have := longs_le l
  have h1 := h.1
  unfold numP
  rw [if_neg (by omega), if_pos (by omega)]

theorem Fi.last {l : List UInt8} {k q c : Nat} (h : Fi l k q) (h6 : k < 6) (hk : k < l.length) (hc : c = (l.getD k 0).toNat) (h8 : c < 128) :
    q + c * 128 ^ k < 128 ^ (k + 1) ∧ numP l = if (c = 0 ∧ 0 < k) ∨ 1099511627776 < q + c * 128 ^ k then (0, 0, 4) else (q + c * 128 ^ k, k + 1, 0) := by
  obtain ⟨h1, h2, h3⟩ := h
  subst hc
  have hL := longs_stop l k h1 hk h8
  have hv := val_take l k hk
  rw [Nat.mod_eq_of_lt h8, ← h2] at hv
  refine ⟨?_, ?_⟩
  · rw [← hv]
    have := val_lt (l.take (k + 1))
    rw [List.length_take, Nat.min_eq_left (by omega)] at this
    exact this
  · unfold numP
    rw [hL, if_neg (by omega), if_neg (by omega), hv]

/-- What first answers. -/
def firstV (r : Nat × Nat × Nat) : Value := .tuple #[.int .i64 (r.1 : Nat), .int .i64 (r.2.1 : Nat), .int .i64 (r.2.2 : Nat)]

theorem right_yes (n : Int) (h : 0 ≤ n ∧ n ≤ 1099511627776) (w : World) : Calls Tryz.prog 117 #[.int .i64 n] w fun e w' => e = .returned (.bool true) ∧ w' = w := by
  have := right_any n w
  rw [show isN n = true from decide_eq_true h] at this
  exact this

theorem right_no (n : Int) (h : ¬ (0 ≤ n ∧ n ≤ 1099511627776)) (w : World) : Calls Tryz.prog 117 #[.int .i64 n] w fun e w' => e = .returned (.bool false) ∧ w' = w := by
  have := right_any n w
  rw [show isN n = false from decide_eq_false h] at this
  exact this

theorem ret_tri {a b c a' b' c' : Int} (h1 : a = a') (h2 : b = b') (h3 : c = c') : Ending.returned (.tuple #[.int .i64 a, .int .i64 b, .int .i64 c]) = .returned (.tuple #[.int .i64 a', .int .i64 b', .int .i64 c']) := by rw [h1, h2, h3]

set_option maxRecDepth 1000000 in
set_option maxHeartbeats 2000000 in
theorem first_any (x : Value) (l : List UInt8) (w : World) (hx : RB w x l) (hl : l.length ≤ 100000) :
    Calls Tryz.prog 127 #[x] w fun e w' => e = .returned (firstV (numP l)) ∧ w' = w := by
  obtain ⟨a, ca, rfl, _, _, _, hca⟩ := hx
  have HC : Hid _ := hca
  clear hca
  obtain ⟨R, HR⟩ : ∃ R, Hid (R = numP l) := ⟨_, rfl⟩
  rw [← HR.out]
  go_enter Tryz.func127, Tryz.ntmps127
  go_wp2_with fail
  go_step3
  go_wp2_with fail
  go_step3
  go_wp2_with fail
  go_loopw [5, 6] (fun nv iv wr => ∃ (k q : Nat), k ≤ 6 ∧ k ≤ l.length ∧ iv = .int .i64 k ∧ nv = .int .i64 q ∧ Hid (Fi l k q) ∧ wr = w) (fun _ iv _ => 6 - (intOf iv).toNat)
  case atStart => exact ⟨0, 0, by omega, Nat.zero_le _, rfl, rfl, Fi.zero l, rfl⟩
  case round =>
    obtain ⟨k, q, hk6, hkl, rfl, rfl, HF, rfl⟩ := hrel
    by_cases h6 : k = 6
    · subst h6
      have HQ : Hid (R = (0, 0, 4)) := by show _ = _; rw [HR.out]; exact HF.out.six
      clear HR HF
      go_wp2_with fail
      simp only [Exit.noGoto]
      go_ret3
      rw [HQ.out]
      exact ⟨rfl, rfl⟩
    · by_cases hlt : k < l.length
      · obtain ⟨b1, o1, rfl, hc1⟩ := HC.out k hlt
        have hbl := b_lt (l.getD k 0)
        obtain ⟨c, HCC⟩ : ∃ c, Hid (c = (l.getD k 0).toNat) := ⟨_, rfl⟩
        rw [← HCC.out] at hc1 hbl
        have hq3 := HF.out.2.2
        by_cases h8 : c < 128
        · obtain ⟨hlim, hnum⟩ := HF.out.last (by omega) hlt HCC.out h8
          rw [← HR.out] at hnum
          clear HR HF HC
          by_cases h0 : c = 0 ∧ 0 < k
          · have HQ : Hid (R = (0, 0, 4)) := by show _ = _; rw [hnum, if_pos (.inl h0)]
            obtain ⟨hc0, hk0⟩ := h0
            clear hnum hlim HCC
            subst hc0
            have hk5 : k = 1 ∨ k = 2 ∨ k = 3 ∨ k = 4 ∨ k = 5 := by omega
            rcases hk5 with rfl | rfl | rfl | rfl | rfl
            all_goals
              go_wp2_with fail
              simp only [Exit.noGoto]
              go_ret3
              rw [HQ.out]
              exact ⟨rfl, rfl⟩
          · by_cases hbig : 1099511627776 < q + c * 128 ^ k
            · have HQ : Hid (R = (0, 0, 4)) := by show _ = _; rw [hnum, if_pos (.inr hbig)]
              clear hnum HCC
              have hk5 : k = 0 ∨ k = 1 ∨ k = 2 ∨ k = 3 ∨ k = 4 ∨ k = 5 := by omega
              rcases hk5 with rfl | rfl | rfl | rfl | rfl | rfl
              · omega
              · omega
              · omega
              · omega
              · omega
              · have hcn : ¬ c = 0 := by omega
                clear h0
                go_wp2_with fail
                refine Calls.mono (right_no _ (by omega) _) ?_
                rintro e w1 ⟨rfl, rfl⟩
                go_wp2_with fail
                simp only [Exit.noGoto]
                go_ret3
                rw [HQ.out]
                exact ⟨rfl, rfl⟩
            · have HQ : Hid (R = (q + c * 128 ^ k, k + 1, 0)) := by show _ = _; rw [hnum, if_neg (fun h => h.elim h0 hbig)]
              clear hnum HCC
              have hk5 : k = 0 ∨ k = 1 ∨ k = 2 ∨ k = 3 ∨ k = 4 ∨ k = 5 := by omega
              rcases hk5 with rfl | rfl | rfl | rfl | rfl | rfl
              · rw [Nat.add_zero] at hc1
                have hq0 : q = 0 := by omega
                subst hq0
                by_cases hcn : c = 0
                · subst hcn
                  go_wp2_with fail
                  refine Calls.mono (right_yes _ (by omega) _) ?_
                  rintro e w1 ⟨rfl, rfl⟩
                  go_wp2_with fail
                  simp only [Exit.noGoto]
                  go_ret3
                  rw [HQ.out]
                  exact ⟨ret_tri (by omega) rfl rfl, rfl⟩
                · go_wp2_with fail
                  refine Calls.mono (right_yes _ (by omega) _) ?_
                  rintro e w1 ⟨rfl, rfl⟩
                  go_wp2_with fail
                  simp only [Exit.noGoto]
                  go_ret3
                  rw [HQ.out]
                  exact ⟨ret_tri (by omega) rfl rfl, rfl⟩
              all_goals
                have hcn : ¬ c = 0 := by omega
                clear h0
                go_wp2_with fail
                refine Calls.mono (right_yes _ (by omega) _) ?_
                rintro e w1 ⟨rfl, rfl⟩
                go_wp2_with fail
                simp only [Exit.noGoto]
                go_ret3
                rw [HQ.out]
                exact ⟨ret_tri (by omega) rfl rfl, rfl⟩
        · have HF2 : Hid (Fi l (k + 1) (q + (c - 128) * 128 ^ k)) := HF.out.next hlt HCC.out (by omega)
          clear HF HC HCC HR
          have hk5 : k = 0 ∨ k = 1 ∨ k = 2 ∨ k = 3 ∨ k = 4 ∨ k = 5 := by omega
          rcases hk5 with rfl | rfl | rfl | rfl | rfl | rfl
          · rw [Nat.add_zero] at hc1
            have hq0 : q = 0 := by omega
            subst hq0
            go_wp2_with fail
            go_roundw
            case rel => exact ⟨1, _, by omega, by omega, by go_num, by congr 1; omega, HF2, trivial⟩
            case measure => simp [intOf]
          all_goals
            go_wp2_with fail
            go_roundw
            case rel => exact ⟨_, _, by omega, by omega, by go_num, by congr 1; omega, HF2, trivial⟩
            case measure => simp [intOf]
      · have HQ : Hid (R = (0, 0, 3)) := by show _ = _; rw [HR.out]; exact HF.out.short (by omega) (by omega)
        have hkk : k = l.length := by omega
        clear HR HF
        subst hkk
        go_wp2_with fail
        simp only [Exit.noGoto]
        go_ret3
        rw [HQ.out]
        exact ⟨rfl, rfl⟩
end Go.Proofs.YtijkgdbabikojaaGreat

/- The walk over wire.Take. -/
namespace Go.Proofs.YtijkgdbabikojaaGreat
set_option maxRecDepth 1000000
open Go.RowKit
set_option linter.unusedVariables false

theorem num_small {l : List UInt8} : (numP l).1 ≤ 1099511627776 ∧ (numP l).2.1 ≤ 6 ∧ (numP l).2.2 ≤ 4 := by
  by_cases h : (numP l).2.2 = 0
  · obtain ⟨h1, _, _, h2, _⟩ := num_ok h
    exact ⟨h1, h2, by omega⟩
  · obtain ⟨h1, h2, h3⟩ := num_err h
    rw [h1, h2]
    exact ⟨by omega, by omega, by omega⟩

/-- What Take answers, at any place. -/
def takeI (l : List UInt8) (p : Int) : Nat × Nat × Nat := if 0 ≤ p ∧ p ≤ (l.length : Int) then takeP l p.toNat else (0, 0, 2)

set_option maxRecDepth 1000000 in
set_option maxHeartbeats 1000000 in
theorem take_any (x : Value) (l : List UInt8) (p : Nat) (w : World) (hx : RB w x l) (hp : p ≤ l.length) (hl : l.length ≤ 100000) :
    Calls Tryz.prog 123 #[x, .int .i64 p] w fun e w' => e = .returned (firstV (takeP l p)) ∧ w' = w := by
  obtain ⟨a, ca, rfl, hr⟩ := hx
  obtain ⟨V, hV, hS⟩ := slice_from ⟨a, ca, rfl, hr⟩ p hp
  have HM : Hid _ := first_any V _ w hV (by rw [List.length_drop]; omega)
  obtain ⟨h1, h2, h3⟩ := num_small (l := l.drop p)
  have h4 : (numP (l.drop p)).2.2 ≠ 0 → (numP (l.drop p)).1 = 0 := fun h => (num_err h).1
  unfold takeP
  unfold firstV at HM
  generalize (numP (l.drop p)).1 = n at *
  generalize (numP (l.drop p)).2.1 = sz at *
  generalize (numP (l.drop p)).2.2 = er at *
  clear hr hV
  by_cases he : er = 0
  · subst he
    rw [if_pos rfl]
    clear h4
    go_enter Tryz.func123, Tryz.ntmps123
    go_wp2_with fail
    refine Calls.mono HM.out ?_
    rintro e w2 ⟨rfl, rfl⟩
    go_wp2_with fail
    go_ret3
    exact ⟨ret_tri rfl (by show _ = ((p + sz : Nat) : Int); omega) rfl, rfl⟩
  · rw [if_neg he, h4 he]
    clear h4
    go_enter Tryz.func123, Tryz.ntmps123
    go_wp2_with fail
    refine Calls.mono HM.out ?_
    rintro e w2 ⟨rfl, rfl⟩
    go_wp2_with fail
    go_ret3
    exact ⟨rfl, rfl⟩

set_option maxRecDepth 1000000 in
set_option maxHeartbeats 1000000 in
theorem take_out (x : Value) (l : List UInt8) (p : Int) (w : World) (hx : RB w x l) (hp : ¬ (0 ≤ p ∧ p ≤ (l.length : Int))) (hl : l.length ≤ 100000) :
    Calls Tryz.prog 123 #[x, .int .i64 p] w fun e w' => e = .returned (firstV (0, 0, 2)) ∧ w' = w := by
  obtain ⟨a, ca, rfl, _, _, _, _⟩ := hx
  by_cases h0 : p < 0
  · go_enter Tryz.func123, Tryz.ntmps123
    go_wp2_with fail
    go_ret3
    exact ⟨rfl, rfl⟩
  · have h1 : (l.length : Int) < p := by omega
    go_enter Tryz.func123, Tryz.ntmps123
    go_wp2_with fail
    go_ret3
    exact ⟨rfl, rfl⟩

theorem takei_any (x : Value) (l : List UInt8) (p : Int) (w : World) (hx : RB w x l) (hl : l.length ≤ 100000) :
    Calls Tryz.prog 123 #[x, .int .i64 p] w fun e w' => e = .returned (firstV (takeI l p)) ∧ w' = w := by
  unfold takeI
  by_cases h : 0 ≤ p ∧ p ≤ (l.length : Int)
  · rw [if_pos h]
    obtain ⟨q, rfl⟩ : ∃ q : Nat, p = (q : Int) := ⟨p.toNat, by omega⟩
    rw [Int.toNat_natCast]
    exact take_any x l q w hx (by omega) hl
  · rw [if_neg h]
    exact take_out x l p w hx h hl
end Go.Proofs.YtijkgdbabikojaaGreat

/- Whole numbers in memory; the walks over wire.Puts and wire.Takes. -/
namespace Go.Proofs.YtijkgdbabikojaaGreat
set_option maxRecDepth 1000000
open Go.RowKit
set_option linter.unusedVariables false

theorem Tryz.info3 : (Tryz.prog.info? 3).map (fun i => (i.zero, i.size, i.bytes)) = some (some (.int .i64 0), 1, 8) := by kernel_rfl

/-- A slice of ints that reads as a list. -/
def RI (w : World) (v : Value) (l : List Int) : Prop :=
  ∃ a cap, v = .slice a l.length cap ∧ l.length ≤ cap ∧ cap ≤ maxLen ∧ ∀ i, i < l.length → ∃ b off, a = some ⟨b, off, none⟩ ∧ w.cell? ⟨b, off + i, none⟩ = some (.int .i64 (l.getD i 0))

theorem RI.later {w w' : World} {v : Value} {l : List Int} (h : RI w v l) (hb : Below w.heap.size w w') : RI w' v l := by
  obtain ⟨a, cap, rfl, h1, h2, hc⟩ := h
  refine ⟨a, cap, rfl, h1, h2, fun i hi => ?_⟩
  obtain ⟨b, off, rfl, hcell⟩ := hc i hi
  exact ⟨b, off, rfl, cell_later hb hcell⟩

theorem RI.nil (w : World) : RI w (.slice none 0 0) [] := ⟨none, 0, rfl, by simp, by unfold maxLen; omega, by simp⟩

def ivs (l : List Int) : List Value := l.map fun x => .int .i64 x

theorem cell_row {w : World} {b : Nat} {cs : Array Value} {t : TypeId} (h : w.heap[b]? = some (.cells cs t (0, 0))) (i : Nat) : w.cell? ⟨b, i, none⟩ = cs[i]? := by
  simp [World.cell?, h]
theorem froz_row {w : World} {b : Nat} {cs : Array Value} {t : TypeId} (h : w.heap[b]? = some (.cells cs t (0, 0))) (i : Nat) : w.frozen? ⟨b, i, none⟩ = false := by
  simp [World.frozen?, h]

theorem row_set {w : World} {b : Nat} {cs : Array Value} {t : TypeId} (h : w.heap[b]? = some (.cells cs t (0, 0))) (i : Nat) (v : Value) : (w.setCell ⟨b, i, none⟩ v).heap[b]? = some (.cells (cs.setIfInBounds i v) t (0, 0)) := by
  obtain ⟨hlt, hk'⟩ := Array.getElem?_eq_some_iff.1 h
  simp only [World.setCell]
  rw [Array.getElem?_eq_getElem (by rw [Array.size_modify]; exact hlt), Array.getElem_modify_self, hk']
  rfl

theorem row_new (w : World) (cs : Array Value) (t : TypeId) : (w.alloc (.cells cs t)).heap[w.heap.size]? = some (.cells cs t (0, 0)) := by
  show (w.heap.push _)[w.heap.size]? = _
  simp

theorem made_zero (m : Nat) : madeCells #[Value.int .i64 0] m = (ivs (List.replicate m 0)).toArray := by
  apply Array.toList_inj.1
  rw [toList_madeCells_one]
  simp [ivs]

/-- Ints of the call's own, in a block. -/
def RowI (w : World) (b : Nat) (L : List Int) : Prop := w.heap[b]? = some (.cells (ivs L).toArray 3 (0, 0))

theorem RowI.get {w : World} {b : Nat} {L : List Int} (h : RowI w b L) (t : Nat) (ht : t < L.length) : w.cell? ⟨b, t, none⟩ = some (.int .i64 (L.getD t 0)) ∧ w.frozen? ⟨b, t, none⟩ = false := by
  have hg : L[t]? = some (L.getD t 0) := by rw [List.getD_eq_getElem?_getD, List.getElem?_eq_getElem ht]; rfl
  refine ⟨?_, froz_row h t⟩
  rw [cell_row h t, List.getElem?_toArray, ivs, List.getElem?_map, hg]
  rfl

theorem RowI.set {w : World} {b : Nat} {L : List Int} (h : RowI w b L) (t : Nat) (x : Int) : RowI (w.setCell ⟨b, t, none⟩ (.int .i64 x)) b (L.set t x) := by
  have := row_set h t (.int .i64 x)
  rw [show (ivs L).toArray.setIfInBounds t (.int .i64 x) = (ivs (L.set t x)).toArray by simp [ivs, List.map_set]] at this
  exact this

theorem RowI.below {w w' : World} {b : Nat} {L : List Int} (h : RowI w b L) (hb : Below w.heap.size w w') : RowI w' b L := (hb.block b (Array.getElem?_eq_some_iff.1 h).1).trans h

theorem RowI.ri {w : World} {b : Nat} {L : List Int} (h : RowI w b L) (hl : L.length ≤ 1000000) : RI w (.slice (some ⟨b, 0, none⟩) L.length L.length) L := by
  refine ⟨_, _, rfl, Nat.le_refl _, by unfold maxLen; omega, fun i hi => ⟨b, 0, rfl, ?_⟩⟩
  rw [Nat.zero_add]
  exact (h.get i hi).1

/-- All are numbers. -/
def allN (l : List Int) : Bool := l.all isN
def natL (l : List Int) : List Nat := l.map Int.toNat

/-- What Puts answers. -/
def putsR (a : List UInt8) (l : List Int) : List UInt8 := if l.length ≤ 255 then (if allN l then a ++ putsP (natL l) else []) else []
def putsE (l : List Int) : Nat := if l.length ≤ 255 then (if allN l then 0 else 2) else 5

theorem allN_nat {l : List Int} (h : allN l = true) : ∀ n ∈ natL l, n ≤ 1099511627776 := by
  intro n hn
  obtain ⟨x, hx, rfl⟩ := List.mem_map.1 hn
  have := List.all_eq_true.1 h x hx
  have := of_decide_eq_true this
  omega

theorem natL_len (l : List Int) : (natL l).length = l.length := by simp [natL]

theorem many_take {l : List Int} {k : Nat} (hk : k < l.length) : manyP (natL (l.take (k + 1))) = manyP (natL (l.take k)) ++ oneP (l.getD k 0).toNat := by
  rw [List.take_succ_eq_append_getElem hk]
  have : natL (l.take k ++ [l[k]]) = natL (l.take k) ++ [l[k].toNat] := by unfold natL; rw [List.map_append]; rfl
  rw [this, many_snoc]
  simp [hk]

theorem many_small {l : List Int} (h : allN l = true) (k : Nat) (hl : l.length ≤ 255) : (manyP (natL (l.take k))).length ≤ 1530 := by
  have h1 := many_len (natL (l.take k)) (fun n hn => allN_nat h n (by
    obtain ⟨x, hx, rfl⟩ := List.mem_map.1 hn
    exact List.mem_map.2 ⟨x, List.mem_of_mem_take hx, rfl⟩))
  rw [natL_len, List.length_take] at h1
  omega

set_option maxRecDepth 1000000 in
set_option maxHeartbeats 1000000 in
theorem puts_any (x y : Value) (a : List UInt8) (l : List Int) (w : World) (hx : RB w x a) (hy : RI w y l) (ha : a.length ≤ 90000) (hl : l.length ≤ 1000000) :
    Calls Tryz.prog 104 #[x, y] w fun e w' => ∃ v c, e = .returned (.tuple #[.slice v (putsR a l).length c, .int .i64 (putsE l : Nat)]) ∧ RB w' (.slice v (putsR a l).length c) (putsR a l) ∧ Below w.heap.size w w' := by
  have HX : Hid (RB w x a) := hx
  have HY : Hid (RI w y l) := hy
  obtain ⟨xa, xc, rfl, _, _, _, _⟩ := hx
  obtain ⟨ya, yc, rfl, _, _, hyc⟩ := hy
  have HYC : Hid _ := hyc
  clear hyc
  obtain ⟨R, HR⟩ : ∃ R, Hid (R = putsR a l) := ⟨_, rfl⟩
  obtain ⟨E, HE⟩ : ∃ E, Hid (E = putsE l) := ⟨_, rfl⟩
  rw [← HR.out, ← HE.out]
  by_cases h255 : l.length ≤ 255
  · go_enter Tryz.func104, Tryz.ntmps104
    go_wp2_with fail
    go_loopw [16] (fun iv wr => ∃ (k : Nat), k ≤ l.length ∧ iv = .int .i64 k ∧ Hid (∀ i, i < k → isN (l.getD i 0) = true) ∧ wr = w) (fun iv _ => l.length - (intOf iv).toNat)
    case atStart => exact ⟨0, Nat.zero_le _, rfl, fun i hi => by omega, rfl⟩
    case round =>
      obtain ⟨k, hk, rfl, HA, rfl⟩ := hrel
      by_cases hlt : k < l.length
      · obtain ⟨b1, o1, rfl, hc1⟩ := HYC.out k hlt
        obtain ⟨z, HZ⟩ : ∃ z, Hid (z = l.getD k 0) := ⟨_, rfl⟩
        rw [← HZ.out] at hc1
        by_cases hn : 0 ≤ z ∧ z ≤ 1099511627776
        · have HA2 : Hid (∀ i, i < k + 1 → isN (l.getD i 0) = true) := by
            show ∀ i, i < k + 1 → _
            intro i hi
            by_cases hik : i = k
            · subst hik; rw [← HZ.out]; exact decide_eq_true hn
            · exact HA.out i (by omega)
          go_wp2_with fail
          refine Calls.mono (right_yes _ hn _) ?_
          rintro e w1 ⟨rfl, rfl⟩
          go_wp2_with fail
          go_roundw
          case rel => exact ⟨k + 1, by omega, by go_num, HA2, trivial⟩
          case measure => simp [intOf]; omega
        · have hall : allN l = false := by
            unfold allN
            rw [List.all_eq_false]
            refine ⟨l[k], List.getElem_mem hlt, ?_⟩
            have e : z = l[k] := by rw [HZ.out]; simp [hlt]
            rw [← e, show isN z = false from decide_eq_false hn]
            decide
          have HR2 : Hid (R = []) := by show _ = _; rw [HR.out]; unfold putsR; rw [if_pos h255, if_neg (by rw [hall]; decide)]
          have HE2 : Hid (E = 2) := by show _ = _; rw [HE.out]; unfold putsE; rw [if_pos h255, if_neg (by rw [hall]; decide)]
          clear HR HE hall
          go_wp2_with fail
          refine Calls.mono (right_no _ hn _) ?_
          rintro e w1 ⟨rfl, rfl⟩
          go_wp2_with fail
          go_ret2
          rw [HR2.out, HE2.out]
          exact ⟨none, 0, rfl, RB.nil _, Below.refl _ _⟩
      · have hkk : k = l.length := by omega
        have hall : allN l = true := by
          unfold allN
          rw [List.all_eq_true]
          intro z hz
          obtain ⟨i, hi, rfl⟩ := List.mem_iff_getElem.1 hz
          have := HA.out i (by omega)
          simpa [hi] using this
        have HR2 : Hid (R = a ++ putsP (natL l)) := by show _ = _; rw [HR.out]; unfold putsR; rw [if_pos h255, if_pos hall]
        have HE2 : Hid (E = 0) := by show _ = _; rw [HE.out]; unfold putsE; rw [if_pos h255, if_pos hall]
        have HS : Hid (∀ k, (manyP (natL (l.take k))).length ≤ 1530) := fun k => many_small hall k h255
        have HIN : Hid (∀ i, i < l.length → 0 ≤ l.getD i 0 ∧ l.getD i 0 ≤ 1099511627776) := by
          show ∀ i, i < l.length → _
          intro i hi
          exact of_decide_eq_true (HA.out i (by omega))
        have HRM : Hid _ := room_any _ a (1 + l.length) wr HX.out (by omega) (by omega)
        have hcast : ((1 + l.length : Nat) : Int) = 1 + (l.length : Int) := by omega
        rw [hcast] at HRM
        clear HR HE hall HA hkk hcast
        go_wp2_with fail
        refine Calls.mono HRM.out ?_
        rintro e w2 ⟨g2, c2, rfl, ho2, hb2⟩
        have HAD : Hid _ := add_any wr.heap.size g2 a.length c2 l.length a w2 hb2.size ho2 (by omega) (by omega)
        have HB2 : Hid (Below wr.heap.size wr w2) := hb2
        clear ho2 hb2 HRM
        go_wp2_with fail
        refine Calls.mono HAD.out ?_
        rintro e w3 ⟨g3, c3, rfl, ho3, hb3⟩
        have HO3 : Hid (OB wr.heap.size w3 g3 (a.length + (oneP l.length).length) c3 (a ++ oneP l.length)) := ho3
        have HB3 : Hid (Below wr.heap.size wr w3) := HB2.out.trans hb3
        have hone := one_six (n := l.length) (by omega)
        clear ho3 hb3 HAD HB2
        go_wp2_with fail
        go_loopw [8, 34] (fun av iv wx => ∃ (g m cap k : Nat), k ≤ l.length ∧ m ≤ 100000 ∧ iv = .int .i64 k ∧ av = .slice (some ⟨g, 0, none⟩) m cap ∧ Hid (OB wr.heap.size wx g m cap (a ++ oneP l.length ++ manyP (natL (l.take k)))) ∧ Hid (Below wr.heap.size wr wx)) (fun _ iv _ => l.length - (intOf iv).toNat)
        case atStart => exact ⟨g3, _, c3, 0, Nat.zero_le _, by omega, rfl, rfl, by show OB _ _ _ _ _ _; simpa [natL, manyP] using HO3.out, HB3⟩
        case round =>
          obtain ⟨g, m, cap, k, hk, hm, rfl, rfl, HO, HB⟩ := hrel
          rename World => wx
          by_cases hlt : k < l.length
          · obtain ⟨b1, o1, rfl, hc1⟩ := HYC.out k hlt
            have hc2 := cell_later HB.out hc1
            have hin := HIN.out k hlt
            have HMT : Hid (manyP (natL (l.take (k + 1))) = manyP (natL (l.take k)) ++ oneP (l.getD k 0).toNat) := many_take hlt
            have hs2 := HS.out (k + 1)
            have hln := HO.out.rb.1
            obtain ⟨z, hz⟩ : ∃ z : Nat, l.getD k 0 = (z : Int) := ⟨(l.getD k 0).toNat, by omega⟩
            rw [hz] at hc2 hin HMT
            rw [Int.toNat_natCast] at HMT
            have hsz : (oneP z).length + m ≤ 100000 := by
              have h1 := HMT.out
              rw [h1] at hs2
              rw [List.length_append] at hs2
              rw [List.length_append, List.length_append] at hln
              omega
            have HAD : Hid _ := add_any wr.heap.size g m cap z _ wx HB.out.size HO.out hm (by omega)
            clear hc1 hs2 hln hz
            go_wp2_with fail
            refine Calls.mono HAD.out ?_
            rintro e w4 ⟨g4, c4, rfl, ho4, hb4⟩
            have HO4 : Hid (OB wr.heap.size w4 g4 (m + (oneP z).length) c4 (a ++ oneP l.length ++ manyP (natL (l.take (k + 1))))) := by
              show OB _ _ _ _ _ _
              rw [HMT.out, ← List.append_assoc]
              exact ho4
            have HB4 : Hid (Below wr.heap.size wr w4) := HB.out.trans hb4
            clear ho4 hb4 HAD
            go_wp2_with fail
            go_roundw
            case rel => exact ⟨g4, _, c4, k + 1, by omega, by omega, by go_num, rfl, HO4, HB4⟩
            case measure => simp [intOf]; omega
          · have hkk : k = l.length := by omega
            have HO4 : Hid (OB wr.heap.size wx g m cap R) := by
              have := HO.out
              rw [hkk, List.take_length, List.append_assoc] at this
              show OB _ _ _ _ _ _
              rw [HR2.out]
              unfold putsP
              rw [natL_len]
              exact this
            clear hkk
            go_wp2_with fail
            go_ret2
            rw [HE2.out, ← HO4.out.rb.1]
            exact ⟨_, _, rfl, HO4.out.rb.2, HB.out⟩
  · have HR2 : Hid (R = []) := by show _ = _; rw [HR.out]; unfold putsR; rw [if_neg h255]
    have HE2 : Hid (E = 5) := by show _ = _; rw [HE.out]; unfold putsE; rw [if_neg h255]
    clear HR HE
    go_enter Tryz.func104, Tryz.ntmps104
    go_wp2_with fail
    go_ret2
    rw [HR2.out, HE2.out]
    exact ⟨none, 0, rfl, RB.nil _, Below.refl _ _⟩
end Go.Proofs.YtijkgdbabikojaaGreat

