/- Texts of the seat, packed: FWc FWd FWe FMc FMd FMe FWf. -/
import Derived.Test.YtijkgdbabikojaaGreatP01
import Derived.Laws.MakeOwn
import Derived.Deep.RegionHeld
/- The walk over frame.Put: the bytes handed in, and the frame behind them, in memory of the call's own. -/
namespace Go.Proofs.YtijkgdbabikojaaGreat.Fr
set_option maxRecDepth 1000000
open Go.RowKit

theorem cells2 (w : World) (a b : Value) (t : TypeId) : ∀ j u, [a, b][j]? = some u → (w.alloc (.cells #[a, b] t)).cell? ⟨w.heap.size, 0 + j, none⟩ = some u := by
  intro j u hj
  match j, hj with
  | 0, hj => simp at hj; subst hj; simp
  | 1, hj => simp at hj; subst hj; simp
  | j + 2, hj => simp at hj

/-- Bytes that lie in a block made anew. -/
theorem RB.new (w : World) (l : List UInt8) (cs : Array Value) (t : TypeId) (h : cs.toList = bvs l) (hl : l.length ≤ 1000000) : RB (w.alloc (.cells cs t)) (.slice (some ⟨w.heap.size, 0, none⟩) l.length l.length) l := by
  refine ⟨_, _, rfl, Nat.le_refl _, by unfold maxLen; omega, (fun h => by cases h), fun i hi => ⟨_, _, rfl, ?_⟩⟩
  rw [Nat.zero_add, cell_of_row _ _ _ cs t (0, 0) (heap_alloc_new _ _), ← Array.getElem?_toList, h]
  simp [bvs, hi]

theorem made_any (M : Nat) (hM : M ≤ 1000000) (e : Int) (he : e = M) : ∃ C : Array Value, C.size = M ∧ ∀ w : World, (Instr.makeSlice 34 (.int .i64 0) (.int .i64 e)).run Tryz.prog w = .ok (.slice (some ⟨w.heap.size, 0, none⟩) 0 M) (w.alloc (.cells C 5)) := by
  subst he
  obtain ⟨i0, hi, hz0, hz1, hz2⟩ := info_parts Tryz.info5
  refine ⟨madeCells (Value.int .u8 0).cells (M * i0.size), by rw [size_madeCells, hz1, Nat.mul_one], fun w => ?_⟩
  have := run_make (P := Tryz.prog) w 34 5 i0 (.int .u8 0) Tryz.underlying34 hi hz0 .i64 .i64 0 M (Int.le_refl _) (by omega) (by rw [hz2]; omega) (by omega)
  simpa using this

theorem hd_bytes (n : Nat) : bvs (hd2 n) = [.int .u8 ((n / 256 % 256 : Nat) : Int), .int .u8 ((n % 256 : Nat) : Int)] := by
  simp [bvs, hd2]

theorem OB.cap {B : Nat} {w : World} {g n cap : Nat} {bs : List UInt8} (h : OB B w g n cap bs) : n ≤ cap ∧ cap ≤ maxLen := by
  obtain ⟨a', cap', he, g1, g2, _⟩ := h.rb.2
  simp only [Value.slice.injEq] at he
  obtain ⟨rfl, e1, rfl⟩ := he
  exact ⟨by omega, g2⟩

theorem OB.sub {B : Nat} {w : World} {g n cap : Nat} {bs : List UInt8} (h : OB B w g n cap bs) (lo : Nat) (h1 : lo ≤ n) (h2 : ¬ cap = lo) : RB w (.slice (some ⟨g, lo, none⟩) (n - lo) (cap - lo)) (bs.drop lo) := by
  have hr := h.rb
  have := hr.2.sub lo n cap h1 (by omega) h.cap.1 (Nat.le_refl _)
  unfold sliced at this
  rw [if_neg h2, Option.map_some, Go.WideShapes.add_plain, Nat.mul_one, Nat.zero_add, hr.1, List.take_length] at this
  rw [hr.1]
  exact this

set_option maxRecDepth 1000000 in
set_option maxHeartbeats 1000000 in
theorem put_any (x y : Value) (a b : List UInt8) (w : World) (hx : RB w x a) (hy : RB w y b) (ha : a.length ≤ 100000) (hb : b.length ≤ 1024) :
    Calls Tryz.prog 40 #[x, y] w fun e w' => ∃ g cap, e = .returned (.tuple #[.slice (some ⟨g, 0, none⟩) (a.length + (b.length + 6)) cap, .int .i64 0]) ∧ OB w.heap.size w' g (a.length + (b.length + 6)) cap (a ++ frameP b) ∧ Below w.heap.size w w' := by
  have HX : Hid (RB w x a) := hx
  have HY : Hid (RB w y b) := hy
  obtain ⟨xa, xc, rfl, _, _, _, _⟩ := hx
  obtain ⟨ya, yc, rfl, _, _, _, _⟩ := hy
  obtain ⟨C, hC, hmk⟩ := made_any (a.length + 2 + b.length + 4) (by omega) ((a.length : Int) + 2 + (b.length : Int) + 4) (by omega)
  have HB1 : Hid (Below w.heap.size w (w.alloc (.cells C 5))) := (Below.refl _ _).alloc (Nat.le_refl _) _
  have HO1 : Hid (OB w.heap.size (w.alloc (.cells C 5)) w.heap.size 0 (a.length + 2 + b.length + 4) []) := OB.made w _ C (by unfold maxLen; omega) hC
  have HH : Hid (bvs (hd2 b.length) = [.int .u8 ((b.length : Int) / 256), .int .u8 ((b.length : Int) % 256)]) := by
    show _ = _
    rw [hd_bytes]
    congr 2
    rw [Nat.mod_eq_of_lt (by omega)]
    rfl
  have HSL : Hid (∀ wx v, RB wx v (hd2 b.length ++ b) → Calls Tryz.prog 80 #[v] wx fun e w' => e = .returned (sealV (sumP (hd2 b.length ++ b))) ∧ Below wx.heap.size wx w') := fun wx v h => seal_any v _ wx h (by rw [List.length_append, hd2_len]; omega)
  have HLE : Hid (bvs (le4 (sumP (hd2 b.length ++ b))) = [.int .u8 ((sumP (hd2 b.length ++ b) % 256 : Nat) : Int), .int .u8 ((sumP (hd2 b.length ++ b) / 256 % 256 : Nat) : Int), .int .u8 ((sumP (hd2 b.length ++ b) / 65536 % 256 : Nat) : Int), .int .u8 ((sumP (hd2 b.length ++ b) / 16777216 % 256 : Nat) : Int)]) := by
    show _ = _
    simp [bvs, le4]
  have HF : Hid (frameP b = hd2 b.length ++ b ++ le4 (sumP (hd2 b.length ++ b))) := rfl
  generalize sumP (hd2 b.length ++ b) = q at HSL HLE HF
  unfold sealV at HSL
  clear hC
  go_enter Tryz.func40, Tryz.ntmps40
  go_wp2_with (first
    | (at_builtin; refine append_bytes rfl _ _ rfl w.heap.size w.heap.size 0 _ [] rfl HO1.out _ a rfl (HX.out.later HB1.out) (by omega) (by omega) (by simp) a.length a (by omega) rfl ?_; intro g2 c2 w2 ho2 hg2; have HB2 : Hid (Below w.heap.size w w2) := HB1.out.trans (HO1.out.below (by simp) hg2); have HO2 : Hid (OB w.heap.size w2 g2 a.length c2 a) := ho2; clear ho2 hg2)
    | (at_builtin; refine append_bytes rfl _ _ rfl w.heap.size g2 a.length c2 a rfl (HO2.out.later ((Below.refl _ _).alloc (Nat.le_refl _) _)) _ (hd2 b.length) rfl (RB.new w2 (hd2 b.length) _ 5 HH.out.symm (by rw [hd2_len]; omega)) (by omega) (by rw [hd2_len]; omega) (by have := HB2.out.size; simp; omega) (a.length + 2) (a ++ hd2 b.length) rfl rfl ?_; intro g3 c3 w3 ho3 hg3; have HB3 : Hid (Below w.heap.size w w3) := (HB2.out.alloc HB2.out.size _).trans ((HO2.out.later ((Below.refl _ _).alloc (Nat.le_refl _) _)).below (by have := HB2.out.size; simp; omega) hg3); have HO3 : Hid (OB w.heap.size w3 g3 (a.length + 2) c3 (a ++ hd2 b.length)) := ho3; clear ho3 hg3)
    | (at_builtin; refine append_bytes rfl _ _ rfl w.heap.size g3 (a.length + 2) c3 (a ++ hd2 b.length) rfl HO3.out _ b rfl (HY.out.later HB3.out) (by omega) (by omega) HB3.out.size (a.length + 2 + b.length) (a ++ hd2 b.length ++ b) rfl rfl ?_; intro g4 c4 w4 ho4 hg4; have HB4 : Hid (Below w.heap.size w w4) := HB3.out.trans (HO3.out.below HB3.out.size hg4); have HO4 : Hid (OB w.heap.size w4 g4 (a.length + 2 + b.length) c4 (a ++ hd2 b.length ++ b)) := ho4; have hc4 : ¬ c4 = a.length := (by have := HO4.out.cap.1; omega); have HRS : Hid (RB w4 (.slice (some ⟨g4, a.length, none⟩) (a.length + 2 + b.length - a.length) (c4 - a.length)) (hd2 b.length ++ b)) := (by have := HO4.out.sub a.length (by omega) hc4; rw [List.append_assoc, List.drop_left] at this; exact this); clear ho4 hg4)
    | (at_builtin; refine append_bytes rfl _ _ rfl w.heap.size g4 (a.length + 2 + b.length) c4 (a ++ hd2 b.length ++ b) rfl ((HO4.out.later HB5.out).later ((Below.refl _ _).alloc (Nat.le_refl _) _)) _ (le4 q) rfl (RB.new w5 (le4 q) _ 121 HLE.out.symm (by rw [le4_len]; omega)) (by omega) (by rw [le4_len]; omega) (by have := HB5.out.size; have := HB4.out.size; simp; omega) (a.length + (b.length + 6)) (a ++ hd2 b.length ++ b ++ le4 q) (by rw [le4_len]; omega) rfl ?_; intro g6 c6 w6 ho6 hg6)
    | (go_at_call 80; refine Calls.mono (HSL.out _ _ HRS.out) ?_; rintro e w5 ⟨rfl, hb5⟩; have HB5 : Hid (Below w4.heap.size w4 w5) := hb5; clear hb5))
  go_ret2
  have hb6 : Below w.heap.size w w6 := by
    have h1 := HB4.out.trans (HB5.out.mono HB4.out.size)
    exact (h1.alloc h1.size _).trans (((HO4.out.later HB5.out).later ((Below.refl _ _).alloc (Nat.le_refl _) _)).below (by have := h1.size; simp; omega) hg6)
  refine ⟨_, _, rfl, ?_, hb6⟩
  rw [HF.out, ← List.append_assoc, ← List.append_assoc]
  exact ho6
end Go.Proofs.YtijkgdbabikojaaGreat.Fr

/- The walks over frame.Put of a body that is too long, frame.measure and frame.open. -/
namespace Go.Proofs.YtijkgdbabikojaaGreat.Fr
set_option maxRecDepth 1000000
open Go.RowKit

set_option maxRecDepth 1000000 in
set_option maxHeartbeats 1000000 in
theorem put_big (x y : Value) (b : List UInt8) (w : World) (hy : RB w y b) (hb : 1024 < b.length) (hb2 : b.length ≤ 100000) :
    Calls Tryz.prog 40 #[x, y] w fun e w' => e = .returned (.tuple #[.slice none 0 0, .int .i64 5]) ∧ w' = w := by
  obtain ⟨ya, yc, rfl, _, _, _, _⟩ := hy
  go_enter Tryz.func40, Tryz.ntmps40
  go_wp2_with fail
  go_ret2
  exact ⟨rfl, rfl⟩

theorem or_num (x y : Nat) (hx : x < 256) (hy : y < 256) : bits .or .i64 ((x : Int) * 256) (y : Int) = ((256 * x + y : Nat) : Int) := by
  have e : (256 * x) ||| y = 256 * x + y := by
    have := Nat.two_pow_add_eq_or_of_lt (i := 8) (b := y) (by omega) x
    rw [show (2 : Nat) ^ 8 = 256 by decide] at this
    exact this.symm
  have h1 : (BitVec.ofInt 64 ((x : Int) * 256)) = BitVec.ofNat 64 (256 * x) := by
    rw [show (x : Int) * 256 = ((256 * x : Nat) : Int) by omega, BitVec.ofInt_natCast]
  have h2 : (BitVec.ofInt 64 (y : Int)) = BitVec.ofNat 64 y := BitVec.ofInt_natCast _ _
  show IntKind.i64.wrap ((BitVec.ofInt 64 ((x : Int) * 256) ||| BitVec.ofInt 64 (y : Int)).toNat : Int) = _
  rw [h1, h2, BitVec.toNat_or, BitVec.toNat_ofNat, BitVec.toNat_ofNat, Nat.mod_eq_of_lt (by omega), Nat.mod_eq_of_lt (by omega), e, IntKind.wrap_i64]
  omega

theorem ret_two {a b : Int} {v : Value} (h : a = b) : Ending.returned (.tuple #[.int .i64 a, v]) = .returned (.tuple #[.int .i64 b, v]) := by rw [h]

set_option maxRecDepth 1000000 in
set_option maxHeartbeats 1000000 in
theorem measure_any (x : Value) (l : List UInt8) (w : World) (hx : RB w x l) (hl : l.length ≤ 100000) :
    Calls Tryz.prog 121 #[x] w fun e w' => e = .returned (.tuple #[.int .i64 ((measureP l).1 : Nat), .int .i64 ((measureP l).2 : Nat)]) ∧ Below w.heap.size w w' := by
  obtain ⟨a, ca, rfl, _, _, _, hca⟩ := hx
  by_cases h0 : l.length = 0
  · have HM : Hid (measureP l = (0, 16)) := by show _ = _; unfold measureP; rw [if_pos h0]
    rw [HM.out]
    go_enter Tryz.func121, Tryz.ntmps121
    go_wp2_with fail
    go_ret2
    exact ⟨rfl, Below.refl _ _⟩
  · by_cases h1 : l.length < 2
    · have HM : Hid (measureP l = (0, 3)) := by show _ = _; unfold measureP; rw [if_neg h0, if_pos h1]
      rw [HM.out]
      go_enter Tryz.func121, Tryz.ntmps121
      go_wp2_with fail
      go_ret2
      exact ⟨rfl, Below.refl _ _⟩
    · obtain ⟨b0, o0, rfl, hc0⟩ := hca 0 (by omega)
      obtain ⟨b1, o1, he, hc1⟩ := hca 1 (by omega)
      cases he
      have hn : num2 l = 256 * (l.getD 0 0).toNat + (l.getD 1 0).toNat := rfl
      have hy0 := byte_lt (l.getD 0 0)
      have hy1 := byte_lt (l.getD 1 0)
      have hd0 : ∀ m, (w.drewN m).cell? ⟨b0, o0, none⟩ = some (.int .u8 ((l.getD 0 0).toNat : Nat)) := fun _ => hc0
      have hd1 : ∀ m, (w.drewN m).cell? ⟨b0, o0 + 1, none⟩ = some (.int .u8 ((l.getD 1 0).toNat : Nat)) := fun _ => hc1
      have hlen : 2 ≤ l.length := by omega
      have HM : Hid (measureP l = if 1024 < num2 l then (0, 5) else if l.length < num2 l + 6 then (0, 3) else (num2 l + 6, 0)) := by show _ = _; unfold measureP; rw [if_neg h0, if_neg h1]
      rw [hn] at HM
      clear hn hca hc0 hc1 h0 h1
      generalize (l.getD 0 0).toNat = y0 at *
      generalize (l.getD 1 0).toNat = y1 at *
      have hor := or_num y0 y1 hy0 hy1
      obtain ⟨q, hq⟩ : ∃ q : Nat, q = 256 * y0 + y1 := ⟨_, rfl⟩
      rw [← hq] at hor HM
      have hq2 : q < 65536 := by omega
      clear hq
      by_cases h2 : 1024 < q
      · rw [HM.out, if_pos h2]
        go_enter Tryz.func121, Tryz.ntmps121
        go_wp2_with fail
        go_quiet (fail)
        go_wp2_with fail
        go_ret2
        exact ⟨rfl, below_drewN (Below.refl _ _) _⟩
      · rw [HM.out, if_neg h2]
        by_cases h3 : l.length < q + 6
        · rw [if_pos h3]
          go_enter Tryz.func121, Tryz.ntmps121
          go_wp2_with fail
          go_quiet (fail)
          go_wp2_with fail
          go_ret2
          exact ⟨rfl, below_drewN (Below.refl _ _) _⟩
        · rw [if_neg h3]
          go_enter Tryz.func121, Tryz.ntmps121
          go_wp2_with fail
          go_quiet (fail)
          go_wp2_with fail
          go_ret2
          exact ⟨ret_two (by omega), below_drewN (Below.refl _ _) _⟩

theorem le4_bytes (q t0 t1 t2 t3 : Nat) (l : List UInt8) (hl : l.length = 4) (h0 : (l.getD 0 0).toNat = t0) (h1 : (l.getD 1 0).toNat = t1) (h2 : (l.getD 2 0).toNat = t2) (h3 : (l.getD 3 0).toNat = t3) :
    (le4 q == l) = decide ((q : Int) % 256 = (t0 : Int) ∧ (q : Int) / 256 % 256 = (t1 : Int) ∧ (q : Int) / 65536 % 256 = (t2 : Int) ∧ (q : Int) / 16777216 % 256 = (t3 : Int)) := by
  match l, hl with
  | [c0, c1, c2, c3], _ =>
    simp only [List.getD_cons_zero, List.getD_cons_succ] at h0 h1 h2 h3
    subst h0 h1 h2 h3
    rw [Bool.eq_iff_iff, beq_iff_eq, decide_eq_true_eq]
    simp only [le4, List.cons.injEq, and_true, ← UInt8.toNat_inj, u8_nat]
    omega

set_option maxRecDepth 1000000 in
set_option maxHeartbeats 2000000 in
theorem open_any (x : Value) (l : List UInt8) (k : Nat) (w : World) (hx : RB w x l) (hk : l.length = k + 4) (h2 : 2 ≤ k) (hl : k ≤ 100000) :
    Calls Tryz.prog 122 #[x] w fun e w' => Below w.heap.size w w' ∧ ((openP l = true ∧ ∃ v, e = .returned (.tuple #[v, .bool true]) ∧ RB w v ((l.take k).drop 2)) ∨ (openP l = false ∧ e = .returned (.tuple #[.slice none 0 0, .bool false]))) := by
  have HX : Hid (RB w x l) := hx
  obtain ⟨a, ca, rfl, hcap, hcm, _, hca⟩ := hx
  obtain ⟨b, off, rfl, hc0⟩ := hca k (by omega)
  obtain ⟨b1, o1, he, hc1⟩ := hca (k + 1) (by omega)
  cases he
  obtain ⟨b1, o1, he, hc2⟩ := hca (k + 2) (by omega)
  cases he
  obtain ⟨b1, o1, he, hc3⟩ := hca (k + 3) (by omega)
  cases he
  clear hca
  have HP : Hid (openP l = (le4 (sumP (l.take k)) == l.drop k)) := by show _ = _; unfold openP; rw [hk, show k + 4 - 4 = k by omega]
  have hd : ∀ i, (l.drop k).getD i 0 = l.getD (k + i) 0 := fun i => by simp [List.getD_eq_getElem?_getD]
  have HQ : Hid (openP l = decide ((sumP (l.take k) : Int) % 256 = ((l.getD k 0).toNat : Int) ∧ (sumP (l.take k) : Int) / 256 % 256 = ((l.getD (k + 1) 0).toNat : Int) ∧ (sumP (l.take k) : Int) / 65536 % 256 = ((l.getD (k + 2) 0).toNat : Int) ∧ (sumP (l.take k) : Int) / 16777216 % 256 = ((l.getD (k + 3) 0).toNat : Int))) := by
    show _ = _
    rw [HP.out]
    exact le4_bytes _ _ _ _ _ (l.drop k) (by rw [List.length_drop]; omega) (by rw [hd]; rfl) (by rw [hd]) (by rw [hd]) (by rw [hd])
  have hn0 : ¬ ca = 0 := by omega
  have hnk : ¬ ca = k := by omega
  have HSL : Hid (∀ wx, Below w.heap.size w wx → Calls Tryz.prog 80 #[.slice (some ⟨b, off, none⟩) k ca] wx fun e w' => e = .returned (sealV (sumP (l.take k))) ∧ Below wx.heap.size wx w') := by
    intro wx hb
    have h := HX.out.sub 0 k ca (by omega) (by omega) (by omega) (Nat.le_refl _)
    unfold sliced at h
    rw [if_neg hn0, Option.map_some, Go.WideShapes.add_plain, List.drop_zero, Nat.sub_zero, Nat.sub_zero] at h
    have h := h.later hb
    simp only [Nat.zero_mul, Nat.add_zero] at h
    exact seal_any _ _ wx h (by rw [List.length_take]; omega)
  have HBody : Hid (RB w (sliced (some ⟨b, off, none⟩) 2 k k 1) ((l.take k).drop 2)) := HX.out.sub 2 k k (by omega) (by omega) (Nat.le_refl _) (by omega)
  have HBY2 : Hid (k = 2 → RB w (.slice (some ⟨b, off, none⟩) 0 0) ((l.take k).drop 2)) := by
    intro hk2
    have := HBody.out
    unfold sliced at this
    rw [if_pos hk2, hk2] at this
    rw [hk2]
    exact this
  have HBY3 : Hid (¬ k = 2 → RB w (.slice (some ⟨b, off + 2, none⟩) (k - 2) (k - 2)) ((l.take k).drop 2)) := by
    intro hk2
    have := HBody.out
    unfold sliced at this
    rw [if_neg hk2, Option.map_some, Go.WideShapes.add_plain] at this
    exact this
  clear HBody
  have hE := fun wx => arr_eq wx ((sumP (l.take k) : Int) % 256) ((sumP (l.take k) : Int) / 256 % 256) ((sumP (l.take k) : Int) / 65536 % 256) ((sumP (l.take k) : Int) / 16777216 % 256) ((l.getD k 0).toNat : Nat) ((l.getD (k + 1) 0).toNat : Nat) ((l.getD (k + 2) 0).toNat : Nat) ((l.getD (k + 3) 0).toNat : Nat)
  rw [← HQ.out] at hE
  rw [hk]
  have hck : k + 4 ≤ ca := by omega
  clear HP hd HQ hk hcap
  unfold sealV at HSL
  generalize sumP (l.take k) = q at *
  generalize (l.getD k 0).toNat = t0 at *
  generalize (l.getD (k + 1) 0).toNat = t1 at *
  generalize (l.getD (k + 2) 0).toNat = t2 at *
  generalize (l.getD (k + 3) 0).toNat = t3 at *
  generalize (l.take k).drop 2 = body at *
  generalize openP l = ok at *
  have hA : ∀ wx : World, (Instr.arrayAt 121 (.slice (some ⟨b, off + k, none⟩) 4 (ca - k))).run Tryz.prog wx = .ok (.pointer (some ⟨b, off + k, none⟩)) wx := by
    intro wx
    simp [Instr.arrayAt, run_underlying Tryz.underlying121]
  have HK : Hid (∀ w1 w2 : World, (Below w.heap.size w w1 ∧ w1.cell? ⟨b, off + k, none⟩ = some (.int .u8 (t0 : Int)) ∧ w1.cell? ⟨b, off + k + 1, none⟩ = some (.int .u8 (t1 : Int)) ∧ w1.cell? ⟨b, off + k + 2, none⟩ = some (.int .u8 (t2 : Int)) ∧ w1.cell? ⟨b, off + k + 3, none⟩ = some (.int .u8 (t3 : Int))) → Below w1.heap.size w1 w2 →
      (Below w.heap.size w w2 ∧ w2.cell? ⟨b, off + k, none⟩ = some (.int .u8 (t0 : Int)) ∧ w2.cell? ⟨b, off + k + 1, none⟩ = some (.int .u8 (t1 : Int)) ∧ w2.cell? ⟨b, off + k + 2, none⟩ = some (.int .u8 (t2 : Int)) ∧ w2.cell? ⟨b, off + k + 3, none⟩ = some (.int .u8 (t3 : Int)))) := by
    show ∀ w1 w2, _
    rintro w1 w2 ⟨h1, h2, h3, h4, h5⟩ hb
    exact ⟨h1.trans (hb.mono h1.size), cell_later hb h2, cell_later hb h3, cell_later hb h4, cell_later hb h5⟩
  have HS0 : Hid (Below w.heap.size w w.drew ∧ w.drew.cell? ⟨b, off + k, none⟩ = some (.int .u8 (t0 : Int)) ∧ w.drew.cell? ⟨b, off + k + 1, none⟩ = some (.int .u8 (t1 : Int)) ∧ w.drew.cell? ⟨b, off + k + 2, none⟩ = some (.int .u8 (t2 : Int)) ∧ w.drew.cell? ⟨b, off + k + 3, none⟩ = some (.int .u8 (t3 : Int))) := ⟨(Below.refl _ _).drew, hc0, hc1, hc2, hc3⟩
  clear hc0 hc1 hc2 hc3 HX
  go_enter Tryz.func122, Tryz.ntmps122
  go_wp2_with fail
  go_region_held (fun w' => Below w.heap.size w w' ∧ w'.cell? ⟨b, off + k, none⟩ = some (.int .u8 (t0 : Int)) ∧ w'.cell? ⟨b, off + k + 1, none⟩ = some (.int .u8 (t1 : Int)) ∧ w'.cell? ⟨b, off + k + 2, none⟩ = some (.int .u8 (t2 : Int)) ∧ w'.cell? ⟨b, off + k + 3, none⟩ = some (.int .u8 (t3 : Int)))
    (first | exact HS0.out | exact HK.out _ _ ‹_› hb4) (first | (go_at_call 80; refine Calls.mono (HSL.out _ HS0.out.1) ?_; rintro e w4 ⟨rfl, hb4⟩))
  all_goals
    have HB4 : Hid (Below w.heap.size w w4) := (HK.out _ _ HS0.out hb4).1
    clear hb4 HK HS0 HSL hE hA
    cases ok with
    | false =>
      go_wp2_with fail
      go_ret2
      exact ⟨HB4.out, rfl⟩
    | true =>
      by_cases hk2 : k = 2
      · have HR := HBY2.out hk2
        have HR2 : Hid (RB w (.slice (some ⟨b, off, none⟩) 0 0) body) := HR
        clear HR HBY2 HBY3
        subst hk2
        go_wp2_with fail
        go_ret2
        exact ⟨HB4.out, _, rfl, HR2.out⟩
      · have HR := HBY3.out hk2
        have HR2 : Hid (RB w (.slice (some ⟨b, off + 2, none⟩) (k - 2) (k - 2)) body) := HR
        clear HR HBY2 HBY3
        go_wp2_with fail
        go_ret2
        exact ⟨HB4.out, _, rfl, HR2.out⟩
end Go.Proofs.YtijkgdbabikojaaGreat.Fr

/- The walk over frame.Take. -/
namespace Go.Proofs.YtijkgdbabikojaaGreat.Fr
set_option maxRecDepth 1000000
set_option linter.unusedVariables false
open Go.RowKit

theorem slice_from {w : World} {a : Option Addr} {n ca : Nat} {l : List UInt8} (h : RB w (.slice a n ca) l) (p : Nat) (hp : p ≤ l.length) :
    ∃ V, RB w V (l.drop p) ∧ ∀ wx : World, (Instr.sliceAt 34 (.slice a n ca) (some (.int .i64 p)) none none).run Tryz.prog wx = .ok V wx := by
  have h0 := h
  obtain ⟨a', ca', he, h1, _, _⟩ := h0
  simp only [Value.slice.injEq] at he
  obtain ⟨rfl, rfl, rfl⟩ := he
  have hs := h.sub p l.length ca hp (Nat.le_refl _) h1 (Nat.le_refl _)
  rw [List.take_length] at hs
  refine ⟨_, hs, fun wx => ?_⟩
  rw [run_sliceAt_slice wx 34 _ _ _ _ Tryz.underlying34, run_slice_l wx 34 a l.length ca Tryz.underlying34 .i64 p (by omega) (by omega)]
  have : (sizeOf (Tryz.prog.elem 34)).run Tryz.prog wx = .ok 1 wx := by kernel_rfl
  rw [this]
  simp

theorem slice_mid {w : World} {a : Option Addr} {n ca : Nat} {l : List UInt8} (h : RB w (.slice a n ca) l) (lo hi : Nat) (h1 : lo ≤ hi) (h2 : hi ≤ l.length) (e : Int) (he : e = hi) :
    ∃ V, RB w V ((l.take hi).drop lo) ∧ ∀ wx : World, (Instr.sliceAt 34 (.slice a n ca) (some (.int .i64 lo)) (some (.int .i64 e)) (some (.int .i64 e))).run Tryz.prog wx = .ok V wx := by
  subst he
  have h0 := h
  obtain ⟨a', ca', he, h3, _, _⟩ := h0
  simp only [Value.slice.injEq] at he
  obtain ⟨rfl, rfl, rfl⟩ := he
  have hs := h.sub lo hi hi h1 h2 (Nat.le_refl _) (by omega)
  refine ⟨_, hs, fun wx => ?_⟩
  rw [run_sliceAt_slice wx 34 _ _ _ _ Tryz.underlying34, run_slice_lhm wx 34 a l.length ca Tryz.underlying34 .i64 .i64 .i64 lo hi hi (by omega) (by omega) (by omega) (by omega)]
  have : (sizeOf (Tryz.prog.elem 34)).run Tryz.prog wx = .ok 1 wx := by kernel_rfl
  rw [this]
  simp

theorem slice_to {w : World} {a : Option Addr} {n ca : Nat} {l : List UInt8} (h : RB w (.slice a n ca) l) (hi : Nat) (h2 : hi ≤ l.length) (e : Int) (he : e = hi) :
    ∃ V, RB w V (l.take hi) ∧ ∀ wx : World, (Instr.sliceAt 34 (.slice a n ca) none (some (.int .i64 e)) none).run Tryz.prog wx = .ok V wx := by
  subst he
  have h0 := h
  obtain ⟨a', ca', he, h3, _, _⟩ := h0
  simp only [Value.slice.injEq] at he
  obtain ⟨rfl, rfl, rfl⟩ := he
  have hs := h.sub 0 hi ca (by omega) h2 (by omega) (Nat.le_refl _)
  rw [List.drop_zero] at hs
  refine ⟨_, hs, fun wx => ?_⟩
  rw [run_sliceAt_slice wx 34 _ _ _ _ Tryz.underlying34, run_slice_h wx 34 a l.length ca Tryz.underlying34 .i64 hi (by omega) (by omega)]
  have : (sizeOf (Tryz.prog.elem 34)).run Tryz.prog wx = .ok 1 wx := by kernel_rfl
  rw [this]
  simp

theorem owns_low {w : World} {B B' : Nat} {e : TypeId} {size : Nat} {v : Value} {n : Nat} {xs : List Value} (h : w.ownsRow B e size v n xs) (hB : B' ≤ B) : w.ownsRow B' e size v n xs := by
  obtain ⟨h1, h2⟩ := h
  refine ⟨h1, ?_⟩
  rcases h2 with h2 | ⟨g, cap, cur, a, b, c⟩
  · exact .inl h2
  · exact .inr ⟨g, cap, cur, a, by omega, c⟩

set_option maxRecDepth 1000000 in
set_option maxHeartbeats 1000000 in
theorem take_out (x : Value) (l : List UInt8) (p : Int) (w : World) (hx : RB w x l) (hp : p < 0 ∨ (l.length : Int) < p) (hl : l.length ≤ 100000) :
    Calls Tryz.prog 107 #[x, .int .i64 p] w fun e w' => e = .returned (.tuple #[.slice none 0 0, .int .i64 0, .int .i64 2]) ∧ w' = w := by
  obtain ⟨a, ca, rfl, _, _, _, _⟩ := hx
  by_cases h0 : p < 0
  · go_enter Tryz.func107, Tryz.ntmps107
    go_wp2_with fail
    go_ret3
    exact ⟨rfl, rfl⟩
  · have h1 : (l.length : Int) < p := by omega
    go_enter Tryz.func107, Tryz.ntmps107
    go_wp2_with fail
    go_ret3
    exact ⟨rfl, rfl⟩

set_option maxRecDepth 1000000 in
set_option maxHeartbeats 1000000 in
theorem take_err (x : Value) (l : List UInt8) (p : Nat) (w : World) (hx : RB w x l) (hp : p ≤ l.length) (hl : l.length ≤ 100000) (he : ¬ (measureP (l.drop p)).2 = 0) :
    Calls Tryz.prog 107 #[x, .int .i64 p] w fun e w' => Below w.heap.size w w' ∧ e = .returned (.tuple #[.slice none 0 0, .int .i64 0, .int .i64 ((measureP (l.drop p)).2 : Nat)]) := by
  obtain ⟨a, ca, rfl, hr⟩ := hx
  obtain ⟨V, hV, hS⟩ := slice_from ⟨a, ca, rfl, hr⟩ p hp
  have HM : Hid (Calls Tryz.prog 121 #[V] w fun e w' => e = .returned (.tuple #[.int .i64 ((measureP (l.drop p)).1 : Nat), .int .i64 ((measureP (l.drop p)).2 : Nat)]) ∧ Below w.heap.size w w') := measure_any V _ w hV (by rw [List.length_drop]; omega)
  generalize (measureP (l.drop p)).1 = sz at *
  generalize (measureP (l.drop p)).2 = er at *
  clear hr hV
  go_enter Tryz.func107, Tryz.ntmps107
  go_wp2_with (first | (go_at_call 121; refine Calls.mono HM.out ?_; rintro e w2 ⟨rfl, hb2⟩))
  go_ret3
  exact ⟨hb2, rfl⟩

theorem measure_ok {l : List UInt8} (h : (measureP l).2 = 0) : 6 ≤ (measureP l).1 ∧ (measureP l).1 ≤ l.length ∧ (measureP l).1 ≤ 1030 := by
  unfold measureP at h ⊢
  by_cases g0 : l.length = 0
  · rw [if_pos g0] at h; simp at h
  · rw [if_neg g0] at h ⊢
    by_cases g1 : l.length < 2
    · rw [if_pos g1] at h; simp at h
    · rw [if_neg g1] at h ⊢
      by_cases g2 : 1024 < num2 l
      · rw [if_pos g2] at h; simp at h
      · rw [if_neg g2] at h ⊢
        by_cases g3 : l.length < num2 l + 6
        · rw [if_pos g3] at h; simp at h
        · rw [if_neg g3]; simp only []; omega

set_option maxRecDepth 1000000 in
set_option maxHeartbeats 1000000 in
theorem take_full (x : Value) (l : List UInt8) (p : Nat) (w : World) (hx : RB w x l) (hp : p ≤ l.length) (hl : l.length ≤ 100000) (he : (measureP (l.drop p)).2 = 0) :
    Calls Tryz.prog 107 #[x, .int .i64 p] w fun e w' => Below w.heap.size w w' ∧
      ((openP ((l.drop p).take (measureP (l.drop p)).1) = true ∧ ∃ v, e = .returned (.tuple #[v, .int .i64 ((p + (measureP (l.drop p)).1 : Nat) : Int), .int .i64 0]) ∧ w'.ownsRow w.heap.size 5 1 v (((l.drop p).drop 2).take ((measureP (l.drop p)).1 - 6)).length (bvs (((l.drop p).drop 2).take ((measureP (l.drop p)).1 - 6)))) ∨
       (openP ((l.drop p).take (measureP (l.drop p)).1) = false ∧ e = .returned (.tuple #[.slice none 0 0, .int .i64 0, .int .i64 12]))) := by
  obtain ⟨a, ca, rfl, hr⟩ := hx
  have hRB : RB w (.slice a l.length ca) l := ⟨a, ca, rfl, hr⟩
  obtain ⟨V, hV, hS⟩ := slice_from hRB p hp
  have HM : Hid (Calls Tryz.prog 121 #[V] w fun e w' => e = .returned (.tuple #[.int .i64 ((measureP (l.drop p)).1 : Nat), .int .i64 ((measureP (l.drop p)).2 : Nat)]) ∧ Below w.heap.size w w') := measure_any V _ w hV (by rw [List.length_drop]; omega)
  rw [he] at HM
  obtain ⟨m1, m2, m3⟩ := measure_ok he
  rw [List.length_drop] at m2
  have hmid := slice_mid hRB p (p + (measureP (l.drop p)).1) (by omega) (by omega) ((p : Int) + ((measureP (l.drop p)).1 : Int)) (by omega)
  have hbody : (((l.drop p).take (measureP (l.drop p)).1).take ((measureP (l.drop p)).1 - 4)).drop 2 = ((l.drop p).drop 2).take ((measureP (l.drop p)).1 - 6) := by
    rw [List.take_take, Nat.min_eq_left (by omega), List.drop_take]
    rw [show (measureP (l.drop p)).1 - 4 - 2 = (measureP (l.drop p)).1 - 6 by omega]
  have hfl : ((l.drop p).take (measureP (l.drop p)).1).length = (measureP (l.drop p)).1 - 4 + 4 := by rw [List.length_take, List.length_drop]; omega
  have hbl : (((l.drop p).drop 2).take ((measureP (l.drop p)).1 - 6)).length ≤ 1024 := by rw [List.length_take]; omega
  have hft : (l.take (p + (measureP (l.drop p)).1)).drop p = (l.drop p).take (measureP (l.drop p)).1 := by rw [List.drop_take, show p + (measureP (l.drop p)).1 - p = (measureP (l.drop p)).1 by omega]
  rw [hft] at hmid
  obtain ⟨V2, hV2, hS2⟩ := hmid
  have HO : Hid (∀ wx, Below w.heap.size w wx → Calls Tryz.prog 122 #[V2] wx fun e w' => Below wx.heap.size wx w' ∧ ((openP ((l.drop p).take (measureP (l.drop p)).1) = true ∧ ∃ v, e = .returned (.tuple #[v, .bool true]) ∧ RB wx v (((l.drop p).drop 2).take ((measureP (l.drop p)).1 - 6))) ∨ (openP ((l.drop p).take (measureP (l.drop p)).1) = false ∧ e = .returned (.tuple #[.slice none 0 0, .bool false])))) := by
    intro wx hb
    have := open_any V2 _ _ wx (hV2.later hb) hfl (by omega) (by omega)
    rw [hbody] at this
    exact this
  clear hft hbody hfl hV hV2 hRB hr he
  generalize ((l.drop p).drop 2).take ((measureP (l.drop p)).1 - 6) = body at *
  generalize openP ((l.drop p).take (measureP (l.drop p)).1) = ok at *
  generalize (measureP (l.drop p)).1 = sz at *
  cases ok with
  | false =>
    have HO2 : Hid (∀ wx, Below w.heap.size w wx → Calls Tryz.prog 122 #[V2] wx fun e w' => e = .returned (.tuple #[.slice none 0 0, .bool false]) ∧ Below wx.heap.size wx w') := by
      intro wx hb
      refine Calls.mono (HO.out wx hb) ?_
      rintro e w' ⟨h1, h2⟩
      rcases h2 with ⟨h3, _⟩ | ⟨_, h3⟩
      · cases h3
      · exact ⟨h3, h1⟩
    clear HO
    go_enter Tryz.func107, Tryz.ntmps107
    go_wp2_with (first
      | (go_at_call 121; refine Calls.mono HM.out ?_; rintro e w2 ⟨rfl, hb2⟩; have HB2 : Hid (Below w.heap.size w w2) := hb2; clear hb2)
      | (go_at_call 122; refine Calls.mono (HO2.out w2 HB2.out) ?_; rintro e w3 ⟨rfl, hb3⟩; have HB3 : Hid (Below w2.heap.size w2 w3) := hb3; clear hb3))
    go_ret3
    exact ⟨HB2.out.trans (HB3.out.mono HB2.out.size), .inr ⟨by trivial, rfl⟩⟩
  | true =>
    have HO2 : Hid (∀ wx, Below w.heap.size w wx → Calls Tryz.prog 122 #[V2] wx fun e w' => ∃ v, e = .returned (.tuple #[v, .bool true]) ∧ RB wx v body ∧ Below wx.heap.size wx w') := by
      intro wx hb
      refine Calls.mono (HO.out wx hb) ?_
      rintro e w' ⟨h1, h2⟩
      rcases h2 with ⟨_, v, h3, h4⟩ | ⟨h3, _⟩
      · exact ⟨v, h3, h4, h1⟩
      · cases h3
    clear HO
    go_enter Tryz.func107, Tryz.ntmps107
    go_wp2_with (first
      | (go_at_call 121; refine Calls.mono HM.out ?_; rintro e w2 ⟨rfl, hb2⟩; have HB2 : Hid (Below w.heap.size w w2) := hb2; clear hb2)
      | (go_at_call 122; refine Calls.mono (HO2.out w2 HB2.out) ?_; rintro e w3 ⟨v, rfl, hv, hb3⟩; have HB3 : Hid (Below w2.heap.size w2 w3) := hb3; have HV3 : Hid (RB w2 v body) := hv; clear hb3 hv)
      | (go_at_call 72; refine Calls.mono (clone_any v body w3 (HV3.out.later HB3.out) (by omega)) ?_; rintro e w4 ⟨v4, rfl, ho4, hb4⟩; have HB4 : Hid (Below w3.heap.size w3 w4) := hb4; have HO4 : Hid (w4.ownsRow w3.heap.size 5 1 v4 body.length (bvs body)) := ho4; clear hb4 ho4))
    go_ret3
    have hb3 := HB2.out.trans (HB3.out.mono HB2.out.size)
    exact ⟨hb3.trans (HB4.out.mono hb3.size), .inl ⟨by trivial, _, rfl, owns_low HO4.out hb3.size⟩⟩

/-- Take, at any place that is there. -/
theorem take_any (x : Value) (l : List UInt8) (p : Nat) (w : World) (hx : RB w x l) (hp : p ≤ l.length) (hl : l.length ≤ 100000) :
    Calls Tryz.prog 107 #[x, .int .i64 p] w fun e w' => Below w.heap.size w w' ∧ ∃ v, e = .returned (.tuple #[v, .int .i64 ((takeP l p).2.1 : Nat), .int .i64 ((takeP l p).2.2 : Nat)]) ∧ w'.ownsRow w.heap.size 5 1 v (takeP l p).1.length (bvs (takeP l p).1) := by
  by_cases he : (measureP (l.drop p)).2 = 0
  · refine Calls.mono (take_full x l p w hx hp hl he) ?_
    rintro e w' ⟨h1, h2⟩
    refine ⟨h1, ?_⟩
    unfold takeP
    rw [if_pos he]
    rcases h2 with ⟨h3, v, h4, h5⟩ | ⟨h3, h4⟩
    · rw [if_pos h3]
      exact ⟨v, h4, h5⟩
    · rw [if_neg (by rw [h3]; decide)]
      exact ⟨_, h4, World.ownsRow_nil _ _ _ _⟩
  · refine Calls.mono (take_err x l p w hx hp hl he) ?_
    rintro e w' ⟨h1, h2⟩
    refine ⟨h1, ?_⟩
    unfold takeP
    rw [if_neg he]
    exact ⟨_, h2, World.ownsRow_nil _ _ _ _⟩
end Go.Proofs.YtijkgdbabikojaaGreat.Fr

/- Plain facts: a frame held against its body's frame is opened or not as its sum says. -/
namespace Go.Proofs.YtijkgdbabikojaaGreat.Fr
set_option maxRecDepth 1000000

theorem ofNat_byte (c : UInt8) (n : Nat) (h : n % 256 = c.toNat) : UInt8.ofNat n = c := by
  apply UInt8.toNat_inj.1
  rw [u8_nat, h]

theorem hd2_of (d : List UInt8) (hd : 2 ≤ d.length) : hd2 (num2 d) = d.take 2 := by
  match d, hd with
  | c0 :: c1 :: t, _ =>
    have h0 := byte_lt c0
    have h1 := byte_lt c1
    simp only [num2, List.getD_cons_zero, List.getD_cons_succ, hd2, List.take_succ_cons, List.take_zero]
    rw [ofNat_byte c0 _ (by omega), ofNat_byte c1 _ (by omega)]

theorem frame_is (d : List UInt8) (n : Nat) (hn : num2 d = n) (hd : n + 6 ≤ d.length) : (frameP ((d.take (n + 2)).drop 2) == d.take (n + 6)) = openP (d.take (n + 6)) := by
  have hsl : ((d.take (n + 2)).drop 2).length = n := by rw [List.length_drop, List.length_take]; omega
  have hhd : hd2 n ++ (d.take (n + 2)).drop 2 = d.take (n + 2) := by
    rw [← hn, hd2_of d (by omega), hn]
    have := List.take_append_drop 2 (d.take (n + 2))
    rw [List.take_take, Nat.min_eq_left (by omega)] at this
    exact this
  have hfl : (d.take (n + 6)).length = n + 6 := by rw [List.length_take]; omega
  unfold openP frameP
  rw [hsl, hhd, hfl, show n + 6 - 4 = n + 2 by omega, List.take_take, Nat.min_eq_left (by omega)]
  have e : d.take (n + 6) = d.take (n + 2) ++ (d.take (n + 6)).drop (n + 2) := by
    have := List.take_append_drop (n + 2) (d.take (n + 6))
    rw [List.take_take, Nat.min_eq_left (by omega)] at this
    exact this.symm
  rw [Bool.eq_iff_iff, beq_iff_eq, beq_iff_eq]
  constructor
  · intro h
    rw [e] at h
    rw [List.append_cancel_left_eq] at h
    exact h
  · intro h
    rw [e, List.append_cancel_left_eq]
    exact h
end Go.Proofs.YtijkgdbabikojaaGreat.Fr

/- Plain facts: frames that were put are taken, all of them; cut off anywhere just the whole ones are. -/
namespace Go.Proofs.YtijkgdbabikojaaGreat.Fr
set_option maxRecDepth 1000000

/-- Frames one behind the other. -/
def putP (L : List (List UInt8)) : List UInt8 := L.flatMap frameP

theorem putP_cons (b : List UInt8) (L : List (List UInt8)) : putP (b :: L) = frameP b ++ putP L := by simp [putP]

theorem all_from (l : List UInt8) : ∀ (L : List (List UInt8)) (pre t : List UInt8) (f : Nat) (er : Nat), (∀ b ∈ L, b.length ≤ 1024) → l = pre ++ (putP L ++ t) → L.length < f → (∀ p, p = pre.length + (putP L).length → (takeP l p).2.2 = er) → er ≠ 0 →
    allP l f pre.length = (L, pre.length + (putP L).length, er)
  | [], pre, t, f, er, _, hl, hf, he, h0 => by
    obtain ⟨f, rfl⟩ : ∃ g, f = g + 1 := ⟨f - 1, by simp at hf; omega⟩
    have h1 := he pre.length (by simp [putP])
    rw [allP, if_neg (by rw [h1]; exact h0), h1]
    simp [putP]
  | b :: L, pre, t, f, er, hs, hl, hf, he, h0 => by
    obtain ⟨f, rfl⟩ : ∃ g, f = g + 1 := ⟨f - 1, by simp at hf; omega⟩
    have hb := hs b (List.mem_cons_self ..)
    have ht : takeP l pre.length = (b, pre.length + (b.length + 6), 0) := by
      rw [hl, putP_cons, List.append_assoc]
      exact takeP_frame pre b _ hb
    have ih := all_from l L (pre ++ frameP b) t f er (fun c hc => hs c (List.mem_cons_of_mem _ hc)) (by rw [hl, putP_cons]; simp) (by simp at hf; omega) (by
      intro p hp
      refine he p ?_
      rw [hp, putP_cons]
      simp
      omega) h0
    rw [List.length_append, frameP_len] at ih
    rw [allP, ht, if_pos rfl]
    simp only
    rw [ih, putP_cons, List.length_append, frameP_len]
    simp
    omega

/-- Frames that were put are taken as they were put, and the end is found. -/
theorem all_put (L : List (List UInt8)) (hs : ∀ b ∈ L, b.length ≤ 1024) : allP (putP L) ((putP L).length + 1) 0 = (L, (putP L).length, 16) := by
  have hlen : ∀ (L : List (List UInt8)), L.length ≤ (putP L).length := by
    intro L
    induction L with
    | nil => simp
    | cons b L ih => rw [putP_cons, List.length_append, frameP_len, List.length_cons]; omega
  have := all_from (putP L) L [] [] ((putP L).length + 1) 16 hs (by simp) (by have := hlen L; omega) (by
    intro p hp
    rw [takeP_end _ _ (by rw [hp]; simp)]) (by decide)
  simpa using this
end Go.Proofs.YtijkgdbabikojaaGreat.Fr

/- Plain facts: cut off anywhere just the frames that are whole are told. -/
namespace Go.Proofs.YtijkgdbabikojaaGreat.Fr
set_option maxRecDepth 1000000

theorem putP_append (A B : List (List UInt8)) : putP (A ++ B) = putP A ++ putP B := by simp [putP]

theorem count_le : ∀ (L : List (List UInt8)), L.length ≤ (putP L).length
  | [] => by simp
  | b :: L => by
    have := count_le L
    rw [putP_cons, List.length_append, frameP_len, List.length_cons]
    omega

theorem num2_take (d : List UInt8) (n : Nat) (h : 2 ≤ n) : num2 (d.take n) = num2 d := by
  unfold num2
  simp only [List.getD_eq_getElem?_getD, List.getElem?_take]
  rw [if_pos (by omega), if_pos (by omega)]

theorem short_frame (b rest : List UInt8) (m : Nat) (hb : b.length ≤ 1024) (h0 : 0 < m) (hm : m < b.length + 6) : (measureP ((frameP b ++ rest).take m)).2 = 3 := by
  have hl : ((frameP b ++ rest).take m).length = m := by rw [List.length_take, List.length_append, frameP_len]; omega
  unfold measureP
  rw [hl, if_neg (by omega)]
  by_cases h2 : m < 2
  · rw [if_pos h2]
  · rw [if_neg h2, num2_take _ _ (by omega)]
    have hn : num2 (frameP b ++ rest) = b.length := by
      unfold frameP
      rw [List.append_assoc, List.append_assoc]
      exact num2_hd _ hb _
    rw [hn, if_neg (by omega), if_pos (by omega)]

theorem torn (L : List (List UInt8)) (hs : ∀ b ∈ L, b.length ≤ 1024) (n k : Nat) (_hk : k ≤ L.length) (h1 : (putP (L.take k)).length ≤ n) (hn : n ≤ (putP L).length)
    (h2 : ∀ b, L[k]? = some b → n < (putP (L.take k)).length + b.length + 6) :
    allP ((putP L).take n) (n + 1) 0 = (L.take k, (putP (L.take k)).length, if (putP (L.take k)).length = n then 16 else 3) := by
  have hsplit : putP L = putP (L.take k) ++ putP (L.drop k) := by rw [← putP_append, List.take_append_drop]
  have htake : (putP L).take n = putP (L.take k) ++ (putP (L.drop k)).take (n - (putP (L.take k)).length) := by
    rw [hsplit, List.take_append]
    rw [List.take_of_length_le h1]
  have hcnt := count_le (L.take k)
  have := all_from ((putP L).take n) (L.take k) [] ((putP (L.drop k)).take (n - (putP (L.take k)).length)) (n + 1) (if (putP (L.take k)).length = n then 16 else 3)
    (fun b hb => hs b (List.mem_of_mem_take hb)) (by rw [htake]; simp) (by omega) (by
      intro p hp
      have hp2 : p = (putP (L.take k)).length := by simpa using hp
      subst hp2
      have hd : ((putP L).take n).drop (putP (L.take k)).length = (putP (L.drop k)).take (n - (putP (L.take k)).length) := by rw [htake, List.drop_left]
      by_cases he : (putP (L.take k)).length = n
      · rw [if_pos he, takeP_end _ _ (by rw [List.length_take]; omega)]
      · rw [if_neg he]
        have hklt : k < L.length := by
          rcases Nat.lt_or_ge k L.length with h | h
          · exact h
          · rw [List.take_of_length_le h] at he h1
            omega
        have h3 := h2 L[k] (List.getElem?_eq_getElem hklt)
        have hdk : L.drop k = L[k] :: L.drop (k + 1) := List.drop_eq_getElem_cons hklt
        have hm : (measureP (((putP L).take n).drop (putP (L.take k)).length)).2 = 3 := by
          rw [hd, hdk, putP_cons]
          exact short_frame _ _ _ (hs _ (List.getElem_mem hklt)) (by omega) (by omega)
        unfold takeP
        rw [if_neg (by rw [hm]; decide), hm]) (by split <;> decide)
  simpa using this
end Go.Proofs.YtijkgdbabikojaaGreat.Fr

/- The walk over frame.All. -/
namespace Go.Proofs.YtijkgdbabikojaaGreat.Fr
set_option maxRecDepth 1000000
open Go.RowKit
set_option linter.unusedVariables false

theorem Tryz.info34 : (Tryz.prog.info? 34).map (fun i => (i.zero, i.size, i.bytes)) = some (some (.slice none 0 0), 1, 24) := by kernel_rfl

/-- Bodies of the call's own. -/
def RBB (B : Nat) (w : World) (v : Value) (L : List (List UInt8)) : Prop :=
  ∃ xs : List Value, w.ownsRow B 34 1 v L.length xs ∧ ∀ (i : Nat) (b : List UInt8), L[i]? = some b → ∃ x, xs[i]? = some x ∧ w.ownsRow B 5 1 x b.length (bvs b)

theorem owns_later {w w' : World} {B : Nat} {e : TypeId} {size : Nat} {v : Value} {n : Nat} {xs : List Value} (h : w.ownsRow B e size v n xs) (hb : Below w.heap.size w w') : w'.ownsRow B e size v n xs := by
  refine ⟨h.1, ?_⟩
  rcases h.2 with hn | ⟨g', cap', cur, e1, e2, e3, rest⟩
  · exact .inl hn
  · refine .inr ⟨g', cap', cur, e1, e2, ?_, rest⟩
    rw [hb.block g' (Array.getElem?_eq_some_iff.1 e3).1]
    exact e3

theorem RBB.later {w w' : World} {B : Nat} {v : Value} {L : List (List UInt8)} (h : RBB B w v L) (hb : Below w.heap.size w w') : RBB B w' v L := by
  obtain ⟨xs, h1, h2⟩ := h
  refine ⟨xs, owns_later h1 hb, fun i b hi => ?_⟩
  obtain ⟨x, h3, h4⟩ := h2 i b hi
  exact ⟨x, h3, owns_later h4 hb⟩

theorem RBB.low {w : World} {B B' : Nat} {v : Value} {L : List (List UInt8)} (h : RBB B w v L) (hB : B' ≤ B) : RBB B' w v L := by
  obtain ⟨xs, h1, h2⟩ := h
  refine ⟨xs, owns_low h1 hB, fun i b hi => ?_⟩
  obtain ⟨x, h3, h4⟩ := h2 i b hi
  exact ⟨x, h3, owns_low h4 hB⟩

/-- A row of bytes is no row of slices. -/
theorem owns_apart {w : World} {B B' : Nat} {v x : Value} {n m : Nat} {xs ys : List Value} (h : w.ownsRow B 34 1 v n xs) (h' : w.ownsRow B' 5 1 x m ys) : x.ownBlock = none ∨ x.ownBlock ≠ v.ownBlock := by
  rcases h'.2 with ⟨rfl, _⟩ | ⟨g', cap', cur', rfl, _, e1, _⟩
  · exact .inl rfl
  · rcases h.2 with ⟨rfl, _⟩ | ⟨g, cap, cur, rfl, _, e2, _⟩
    · exact .inr (by simp [Value.ownBlock])
    · right
      intro he
      simp only [Value.ownBlock, Option.some.injEq] at he
      subst he
      rw [e1] at e2
      simp at e2

theorem owns_one {w : World} {B : Nat} {e : TypeId} {v : Value} {n : Nat} {xs : List Value} (h : w.ownsRow B e 1 v n xs) : v.oneCell' = true := by
  rcases h.2 with ⟨rfl, _⟩ | ⟨g, cap, cur, rfl, _⟩ <;> rfl

theorem owns_slice {w : World} {B : Nat} {e : TypeId} {v : Value} {n : Nat} {xs : List Value} (h : w.ownsRow B e 1 v n xs) : ∃ a c, v = .slice a n c := by
  rcases h.2 with ⟨rfl, rfl⟩ | ⟨g, cap, cur, rfl, _⟩
  · exact ⟨_, _, rfl⟩
  · exact ⟨_, _, rfl⟩

theorem RBB.nil (B : Nat) (w : World) : RBB B w (.slice none 0 0) [] := ⟨[], World.ownsRow_nil _ _ _ _, fun i b (h : ([] : List (List UInt8))[i]? = some b) => by simp at h⟩

theorem allP_step {l : List UInt8} {f p : Nat} (h : (takeP l p).2.2 = 0) : allP l (f + 1) p = ((takeP l p).1 :: (allP l f (takeP l p).2.1).1, (allP l f (takeP l p).2.1).2) := by
  rw [allP, if_pos h]
theorem allP_stop {l : List UInt8} {f p : Nat} (h : ¬ (takeP l p).2.2 = 0) : allP l (f + 1) p = ([], p, (takeP l p).2.2) := by
  rw [allP, if_neg h]

end Go.Proofs.YtijkgdbabikojaaGreat.Fr

