/- The walks over frame.Put of a body that is too long, frame.measure and frame.open. -/
import Derived.Test.YtnekaflanaleeaaWc
import Derived.Deep.RegionHeld
namespace Go.Proofs.Ytnekaflanaleeaa
open Go.RowKit

set_option maxRecDepth 1000000 in
set_option maxHeartbeats 1000000 in
theorem put_big (x y : Value) (b : List UInt8) (w : World) (hy : RB w y b) (hb : 1024 < b.length) (hb2 : b.length ≤ 100000) :
    Calls Try.prog 9 #[x, y] w fun e w' => e = .returned (.tuple #[.slice none 0 0, .int .i64 5]) ∧ w' = w := by
  obtain ⟨ya, yc, rfl, _, _, _, _⟩ := hy
  go_enter Try.func9, Try.ntmps9
  go_wp2_with fail
  go_ret2
  exact ⟨rfl, rfl⟩

theorem or_num (x y : Nat) (hx : x < 256) (hy : y < 256) : bits .or .i64 ((x : Int) * 256) (y : Int) = ((256 * x + y : Nat) : Int) := by
  have e : (256 * x) ||| y = 256 * x + y := by
    have := Nat.two_pow_add_eq_or_of_lt (i := 8) (b := y) (by omega) x
    rw [show (2 : Nat) ^ 8 = 256 by decide] at this
    exact this.symm
  have h1 : (BitVec.ofInt 64 ((x : Int) * 256)) = BitVec.ofNat 64 (256 * x) := by
    rw [show (x : Int) * 256 = ((256 * x : Nat) : Int) by omega, BitVec.ofInt_natCast]
  have h2 : (BitVec.ofInt 64 (y : Int)) = BitVec.ofNat 64 y := BitVec.ofInt_natCast _ _
  show IntKind.i64.wrap ((BitVec.ofInt 64 ((x : Int) * 256) ||| BitVec.ofInt 64 (y : Int)).toNat : Int) = _
  rw [h1, h2, BitVec.toNat_or, BitVec.toNat_ofNat, BitVec.toNat_ofNat, Nat.mod_eq_of_lt (by omega), Nat.mod_eq_of_lt (by omega), e, IntKind.wrap_i64]
  omega

theorem ret_two {a b : Int} {v : Value} (h : a = b) : Ending.returned (.tuple #[.int .i64 a, v]) = .returned (.tuple #[.int .i64 b, v]) := by rw [h]

set_option maxRecDepth 1000000 in
set_option maxHeartbeats 1000000 in
theorem measure_any (x : Value) (l : List UInt8) (w : World) (hx : RB w x l) (hl : l.length ≤ 100000) :
    Calls Try.prog 23 #[x] w fun e w' => e = .returned (.tuple #[.int .i64 ((measureP l).1 : Nat), .int .i64 ((measureP l).2 : Nat)]) ∧ Below w.heap.size w w' := by
  obtain ⟨a, ca, rfl, _, _, _, hca⟩ := hx
  by_cases h0 : l.length = 0
  · have HM : Hid (measureP l = (0, 16)) := by show _ = _; unfold measureP; rw [if_pos h0]
    rw [HM.out]
    go_enter Try.func23, Try.ntmps23
    go_wp2_with fail
    go_ret2
    exact ⟨rfl, Below.refl _ _⟩
  · by_cases h1 : l.length < 2
    · have HM : Hid (measureP l = (0, 3)) := by show _ = _; unfold measureP; rw [if_neg h0, if_pos h1]
      rw [HM.out]
      go_enter Try.func23, Try.ntmps23
      go_wp2_with fail
      go_ret2
      exact ⟨rfl, Below.refl _ _⟩
    · obtain ⟨b0, o0, rfl, hc0⟩ := hca 0 (by omega)
      obtain ⟨b1, o1, he, hc1⟩ := hca 1 (by omega)
      cases he
      have hn : num2 l = 256 * (l.getD 0 0).toNat + (l.getD 1 0).toNat := rfl
      have hy0 := byte_lt (l.getD 0 0)
      have hy1 := byte_lt (l.getD 1 0)
      have hd0 : ∀ m, (w.drewN m).cell? ⟨b0, o0, none⟩ = some (.int .u8 ((l.getD 0 0).toNat : Nat)) := fun _ => hc0
      have hd1 : ∀ m, (w.drewN m).cell? ⟨b0, o0 + 1, none⟩ = some (.int .u8 ((l.getD 1 0).toNat : Nat)) := fun _ => hc1
      have hlen : 2 ≤ l.length := by omega
      have HM : Hid (measureP l = if 1024 < num2 l then (0, 5) else if l.length < num2 l + 6 then (0, 3) else (num2 l + 6, 0)) := by show _ = _; unfold measureP; rw [if_neg h0, if_neg h1]
      rw [hn] at HM
      clear hn hca hc0 hc1 h0 h1
      generalize (l.getD 0 0).toNat = y0 at *
      generalize (l.getD 1 0).toNat = y1 at *
      have hor := or_num y0 y1 hy0 hy1
      obtain ⟨q, hq⟩ : ∃ q : Nat, q = 256 * y0 + y1 := ⟨_, rfl⟩
      rw [← hq] at hor HM
      have hq2 : q < 65536 := by omega
      clear hq
      by_cases h2 : 1024 < q
      · rw [HM.out, if_pos h2]
        go_enter Try.func23, Try.ntmps23
        go_wp2_with fail
        go_quiet (fail)
        go_wp2_with fail
        go_ret2
        exact ⟨rfl, below_drewN (Below.refl _ _) _⟩
      · rw [HM.out, if_neg h2]
        by_cases h3 : l.length < q + 6
        · rw [if_pos h3]
          go_enter Try.func23, Try.ntmps23
          go_wp2_with fail
          go_quiet (fail)
          go_wp2_with fail
          go_ret2
          exact ⟨rfl, below_drewN (Below.refl _ _) _⟩
        · rw [if_neg h3]
          go_enter Try.func23, Try.ntmps23
          go_wp2_with fail
          go_quiet (fail)
          go_wp2_with fail
          go_ret2
          exact ⟨ret_two (by omega), below_drewN (Below.refl _ _) _⟩

theorem le4_bytes (q t0 t1 t2 t3 : Nat) (l : List UInt8) (hl : l.length = 4) (h0 : (l.getD 0 0).toNat = t0) (h1 : (l.getD 1 0).toNat = t1) (h2 : (l.getD 2 0).toNat = t2) (h3 : (l.getD 3 0).toNat = t3) :
    (le4 q == l) = decide ((q : Int) % 256 = (t0 : Int) ∧ (q : Int) / 256 % 256 = (t1 : Int) ∧ (q : Int) / 65536 % 256 = (t2 : Int) ∧ (q : Int) / 16777216 % 256 = (t3 : Int)) := by
  match l, hl with
  | [c0, c1, c2, c3], _ =>
    simp only [List.getD_cons_zero, List.getD_cons_succ] at h0 h1 h2 h3
    subst h0 h1 h2 h3
    rw [Bool.eq_iff_iff, beq_iff_eq, decide_eq_true_eq]
    simp only [le4, List.cons.injEq, and_true, ← UInt8.toNat_inj, u8_nat]
    omega

set_option maxRecDepth 1000000 in
set_option maxHeartbeats 2000000 in
theorem open_any (x : Value) (l : List UInt8) (k : Nat) (w : World) (hx : RB w x l) (hk : l.length = k + 4) (h2 : 2 ≤ k) (hl : k ≤ 100000) :
    Calls Try.prog 24 #[x] w fun e w' => Below w.heap.size w w' ∧ ((openP l = true ∧ ∃ v, e = .returned (.tuple #[v, .bool true]) ∧ RB w v ((l.take k).drop 2)) ∨ (openP l = false ∧ e = .returned (.tuple #[.slice none 0 0, .bool false]))) := by
  have HX : Hid (RB w x l) := hx
  obtain ⟨a, ca, rfl, hcap, hcm, _, hca⟩ := hx
  obtain ⟨b, off, rfl, hc0⟩ := hca k (by omega)
  obtain ⟨b1, o1, he, hc1⟩ := hca (k + 1) (by omega)
  cases he
  obtain ⟨b1, o1, he, hc2⟩ := hca (k + 2) (by omega)
  cases he
  obtain ⟨b1, o1, he, hc3⟩ := hca (k + 3) (by omega)
  cases he
  clear hca
  have HP : Hid (openP l = (le4 (sumP (l.take k)) == l.drop k)) := by show _ = _; unfold openP; rw [hk, show k + 4 - 4 = k by omega]
  have hd : ∀ i, (l.drop k).getD i 0 = l.getD (k + i) 0 := fun i => by simp [List.getD_eq_getElem?_getD]
  have HQ : Hid (openP l = decide ((sumP (l.take k) : Int) % 256 = ((l.getD k 0).toNat : Int) ∧ (sumP (l.take k) : Int) / 256 % 256 = ((l.getD (k + 1) 0).toNat : Int) ∧ (sumP (l.take k) : Int) / 65536 % 256 = ((l.getD (k + 2) 0).toNat : Int) ∧ (sumP (l.take k) : Int) / 16777216 % 256 = ((l.getD (k + 3) 0).toNat : Int))) := by
    show _ = _
    rw [HP.out]
    exact le4_bytes _ _ _ _ _ (l.drop k) (by rw [List.length_drop]; omega) (by rw [hd]; rfl) (by rw [hd]) (by rw [hd]) (by rw [hd])
  have hn0 : ¬ ca = 0 := by omega
  have hnk : ¬ ca = k := by omega
  have HSL : Hid (∀ wx, Below w.heap.size w wx → Calls Try.prog 20 #[.slice (some ⟨b, off, none⟩) k ca] wx fun e w' => e = .returned (sealV (sumP (l.take k))) ∧ Below wx.heap.size wx w') := by
    intro wx hb
    have h := HX.out.sub 0 k ca (by omega) (by omega) (by omega) (Nat.le_refl _)
    unfold sliced at h
    rw [if_neg hn0, Option.map_some, Go.WideShapes.add_plain, List.drop_zero, Nat.sub_zero, Nat.sub_zero] at h
    have h := h.later hb
    simp only [Nat.zero_mul, Nat.add_zero] at h
    exact seal_any _ _ wx h (by rw [List.length_take]; omega)
  have HBody : Hid (RB w (sliced (some ⟨b, off, none⟩) 2 k k 1) ((l.take k).drop 2)) := HX.out.sub 2 k k (by omega) (by omega) (Nat.le_refl _) (by omega)
  have HBY2 : Hid (k = 2 → RB w (.slice (some ⟨b, off, none⟩) 0 0) ((l.take k).drop 2)) := by
    intro hk2
    have := HBody.out
    unfold sliced at this
    rw [if_pos hk2, hk2] at this
    rw [hk2]
    exact this
  have HBY3 : Hid (¬ k = 2 → RB w (.slice (some ⟨b, off + 2, none⟩) (k - 2) (k - 2)) ((l.take k).drop 2)) := by
    intro hk2
    have := HBody.out
    unfold sliced at this
    rw [if_neg hk2, Option.map_some, Go.WideShapes.add_plain] at this
    exact this
  clear HBody
  have hE := fun wx => arr_eq wx ((sumP (l.take k) : Int) % 256) ((sumP (l.take k) : Int) / 256 % 256) ((sumP (l.take k) : Int) / 65536 % 256) ((sumP (l.take k) : Int) / 16777216 % 256) ((l.getD k 0).toNat : Nat) ((l.getD (k + 1) 0).toNat : Nat) ((l.getD (k + 2) 0).toNat : Nat) ((l.getD (k + 3) 0).toNat : Nat)
  rw [← HQ.out] at hE
  rw [hk]
  have hck : k + 4 ≤ ca := by omega
  clear HP hd HQ hk hcap
  unfold sealV at HSL
  generalize sumP (l.take k) = q at *
  generalize (l.getD k 0).toNat = t0 at *
  generalize (l.getD (k + 1) 0).toNat = t1 at *
  generalize (l.getD (k + 2) 0).toNat = t2 at *
  generalize (l.getD (k + 3) 0).toNat = t3 at *
  generalize (l.take k).drop 2 = body at *
  generalize openP l = ok at *
  have hA : ∀ wx : World, (Instr.arrayAt 51 (.slice (some ⟨b, off + k, none⟩) 4 (ca - k))).run Try.prog wx = .ok (.pointer (some ⟨b, off + k, none⟩)) wx := by
    intro wx
    simp [Instr.arrayAt, run_underlying Try.underlying51]
  have HK : Hid (∀ w1 w2 : World, (Below w.heap.size w w1 ∧ w1.cell? ⟨b, off + k, none⟩ = some (.int .u8 (t0 : Int)) ∧ w1.cell? ⟨b, off + k + 1, none⟩ = some (.int .u8 (t1 : Int)) ∧ w1.cell? ⟨b, off + k + 2, none⟩ = some (.int .u8 (t2 : Int)) ∧ w1.cell? ⟨b, off + k + 3, none⟩ = some (.int .u8 (t3 : Int))) → Below w1.heap.size w1 w2 →
      (Below w.heap.size w w2 ∧ w2.cell? ⟨b, off + k, none⟩ = some (.int .u8 (t0 : Int)) ∧ w2.cell? ⟨b, off + k + 1, none⟩ = some (.int .u8 (t1 : Int)) ∧ w2.cell? ⟨b, off + k + 2, none⟩ = some (.int .u8 (t2 : Int)) ∧ w2.cell? ⟨b, off + k + 3, none⟩ = some (.int .u8 (t3 : Int)))) := by
    show ∀ w1 w2, _
    rintro w1 w2 ⟨h1, h2, h3, h4, h5⟩ hb
    exact ⟨h1.trans (hb.mono h1.size), cell_later hb h2, cell_later hb h3, cell_later hb h4, cell_later hb h5⟩
  have HS0 : Hid (Below w.heap.size w w.drew ∧ w.drew.cell? ⟨b, off + k, none⟩ = some (.int .u8 (t0 : Int)) ∧ w.drew.cell? ⟨b, off + k + 1, none⟩ = some (.int .u8 (t1 : Int)) ∧ w.drew.cell? ⟨b, off + k + 2, none⟩ = some (.int .u8 (t2 : Int)) ∧ w.drew.cell? ⟨b, off + k + 3, none⟩ = some (.int .u8 (t3 : Int))) := ⟨(Below.refl _ _).drew, hc0, hc1, hc2, hc3⟩
  clear hc0 hc1 hc2 hc3 HX
  go_enter Try.func24, Try.ntmps24
  go_wp2_with fail
  go_region_held (fun w' => Below w.heap.size w w' ∧ w'.cell? ⟨b, off + k, none⟩ = some (.int .u8 (t0 : Int)) ∧ w'.cell? ⟨b, off + k + 1, none⟩ = some (.int .u8 (t1 : Int)) ∧ w'.cell? ⟨b, off + k + 2, none⟩ = some (.int .u8 (t2 : Int)) ∧ w'.cell? ⟨b, off + k + 3, none⟩ = some (.int .u8 (t3 : Int)))
    (first | exact HS0.out | exact HK.out _ _ ‹_› hb4) (first | (go_at_call 20; refine Calls.mono (HSL.out _ HS0.out.1) ?_; rintro e w4 ⟨rfl, hb4⟩))
  all_goals
    have HB4 : Hid (Below w.heap.size w w4) := (HK.out _ _ HS0.out hb4).1
    clear hb4 HK HS0 HSL hE hA
    cases ok with
    | false =>
      go_wp2_with fail
      go_ret2
      exact ⟨HB4.out, rfl⟩
    | true =>
      by_cases hk2 : k = 2
      · have HR := HBY2.out hk2
        have HR2 : Hid (RB w (.slice (some ⟨b, off, none⟩) 0 0) body) := HR
        clear HR HBY2 HBY3
        subst hk2
        go_wp2_with fail
        go_ret2
        exact ⟨HB4.out, _, rfl, HR2.out⟩
      · have HR := HBY3.out hk2
        have HR2 : Hid (RB w (.slice (some ⟨b, off + 2, none⟩) (k - 2) (k - 2)) body) := HR
        clear HR HBY2 HBY3
        go_wp2_with fail
        go_ret2
        exact ⟨HB4.out, _, rfl, HR2.out⟩
end Go.Proofs.Ytnekaflanaleeaa
