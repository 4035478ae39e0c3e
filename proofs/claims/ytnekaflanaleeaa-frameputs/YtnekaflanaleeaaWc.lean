/- The walk over frame.Put: the bytes handed in, and the frame behind them, in memory of the call's own. -/
import Derived.Test.YtnekaflanaleeaaWb
import Derived.Laws.MakeOwn
namespace Go.Proofs.Ytnekaflanaleeaa
open Go.RowKit

theorem cells2 (w : World) (a b : Value) (t : TypeId) : ∀ j u, [a, b][j]? = some u → (w.alloc (.cells #[a, b] t)).cell? ⟨w.heap.size, 0 + j, none⟩ = some u := by
  intro j u hj
  match j, hj with
  | 0, hj => simp at hj; subst hj; simp
  | 1, hj => simp at hj; subst hj; simp
  | j + 2, hj => simp at hj

/-- Bytes that lie in a block made anew. -/
theorem RB.new (w : World) (l : List UInt8) (cs : Array Value) (t : TypeId) (h : cs.toList = bvs l) (hl : l.length ≤ 1000000) : RB (w.alloc (.cells cs t)) (.slice (some ⟨w.heap.size, 0, none⟩) l.length l.length) l := by
  refine ⟨_, _, rfl, Nat.le_refl _, by unfold maxLen; omega, (fun h => by cases h), fun i hi => ⟨_, _, rfl, ?_⟩⟩
  rw [Nat.zero_add, cell_of_row _ _ _ cs t (0, 0) (heap_alloc_new _ _), ← Array.getElem?_toList, h]
  simp [bvs, hi]

theorem made_any (M : Nat) (hM : M ≤ 1000000) (e : Int) (he : e = M) : ∃ C : Array Value, C.size = M ∧ ∀ w : World, (Instr.makeSlice 22 (.int .i64 0) (.int .i64 e)).run Try.prog w = .ok (.slice (some ⟨w.heap.size, 0, none⟩) 0 M) (w.alloc (.cells C 5)) := by
  subst he
  obtain ⟨i0, hi, hz0, hz1, hz2⟩ := info_parts Try.info5
  refine ⟨madeCells (Value.int .u8 0).cells (M * i0.size), by rw [size_madeCells, hz1, Nat.mul_one], fun w => ?_⟩
  have := run_make (P := Try.prog) w 22 5 i0 (.int .u8 0) Try.underlying22 hi hz0 .i64 .i64 0 M (Int.le_refl _) (by omega) (by rw [hz2]; omega) (by omega)
  simpa using this

theorem hd_bytes (n : Nat) : bvs (hd2 n) = [.int .u8 ((n / 256 % 256 : Nat) : Int), .int .u8 ((n % 256 : Nat) : Int)] := by
  simp [bvs, hd2]

theorem OB.cap {B : Nat} {w : World} {g n cap : Nat} {bs : List UInt8} (h : OB B w g n cap bs) : n ≤ cap ∧ cap ≤ maxLen := by
  obtain ⟨a', cap', he, g1, g2, _⟩ := h.rb.2
  simp only [Value.slice.injEq] at he
  obtain ⟨rfl, e1, rfl⟩ := he
  exact ⟨by omega, g2⟩

theorem OB.sub {B : Nat} {w : World} {g n cap : Nat} {bs : List UInt8} (h : OB B w g n cap bs) (lo : Nat) (h1 : lo ≤ n) (h2 : ¬ cap = lo) : RB w (.slice (some ⟨g, lo, none⟩) (n - lo) (cap - lo)) (bs.drop lo) := by
  have hr := h.rb
  have := hr.2.sub lo n cap h1 (by omega) h.cap.1 (Nat.le_refl _)
  unfold sliced at this
  rw [if_neg h2, Option.map_some, Go.WideShapes.add_plain, Nat.mul_one, Nat.zero_add, hr.1, List.take_length] at this
  rw [hr.1]
  exact this

set_option maxRecDepth 1000000 in
set_option maxHeartbeats 1000000 in
theorem put_any (x y : Value) (a b : List UInt8) (w : World) (hx : RB w x a) (hy : RB w y b) (ha : a.length ≤ 100000) (hb : b.length ≤ 1024) :
    Calls Try.prog 9 #[x, y] w fun e w' => ∃ g cap, e = .returned (.tuple #[.slice (some ⟨g, 0, none⟩) (a.length + (b.length + 6)) cap, .int .i64 0]) ∧ OB w.heap.size w' g (a.length + (b.length + 6)) cap (a ++ frameP b) ∧ Below w.heap.size w w' := by
  have HX : Hid (RB w x a) := hx
  have HY : Hid (RB w y b) := hy
  obtain ⟨xa, xc, rfl, _, _, _, _⟩ := hx
  obtain ⟨ya, yc, rfl, _, _, _, _⟩ := hy
  obtain ⟨C, hC, hmk⟩ := made_any (a.length + 2 + b.length + 4) (by omega) ((a.length : Int) + 2 + (b.length : Int) + 4) (by omega)
  have HB1 : Hid (Below w.heap.size w (w.alloc (.cells C 5))) := (Below.refl _ _).alloc (Nat.le_refl _) _
  have HO1 : Hid (OB w.heap.size (w.alloc (.cells C 5)) w.heap.size 0 (a.length + 2 + b.length + 4) []) := OB.made w _ C (by unfold maxLen; omega) hC
  have HH : Hid (bvs (hd2 b.length) = [.int .u8 ((b.length : Int) / 256), .int .u8 ((b.length : Int) % 256)]) := by
    show _ = _
    rw [hd_bytes]
    congr 2
    rw [Nat.mod_eq_of_lt (by omega)]
    rfl
  have HSL : Hid (∀ wx v, RB wx v (hd2 b.length ++ b) → Calls Try.prog 20 #[v] wx fun e w' => e = .returned (sealV (sumP (hd2 b.length ++ b))) ∧ Below wx.heap.size wx w') := fun wx v h => seal_any v _ wx h (by rw [List.length_append, hd2_len]; omega)
  have HLE : Hid (bvs (le4 (sumP (hd2 b.length ++ b))) = [.int .u8 ((sumP (hd2 b.length ++ b) % 256 : Nat) : Int), .int .u8 ((sumP (hd2 b.length ++ b) / 256 % 256 : Nat) : Int), .int .u8 ((sumP (hd2 b.length ++ b) / 65536 % 256 : Nat) : Int), .int .u8 ((sumP (hd2 b.length ++ b) / 16777216 % 256 : Nat) : Int)]) := by
    show _ = _
    simp [bvs, le4]
  have HF : Hid (frameP b = hd2 b.length ++ b ++ le4 (sumP (hd2 b.length ++ b))) := rfl
  generalize sumP (hd2 b.length ++ b) = q at HSL HLE HF
  unfold sealV at HSL
  clear hC
  go_enter Try.func9, Try.ntmps9
  go_wp2_with (first
    | (at_builtin; refine append_bytes rfl _ _ rfl w.heap.size w.heap.size 0 _ [] rfl HO1.out _ a rfl (HX.out.later HB1.out) (by omega) (by omega) (by simp) a.length a (by omega) rfl ?_; intro g2 c2 w2 ho2 hg2; have HB2 : Hid (Below w.heap.size w w2) := HB1.out.trans (HO1.out.below (by simp) hg2); have HO2 : Hid (OB w.heap.size w2 g2 a.length c2 a) := ho2; clear ho2 hg2)
    | (at_builtin; refine append_bytes rfl _ _ rfl w.heap.size g2 a.length c2 a rfl (HO2.out.later ((Below.refl _ _).alloc (Nat.le_refl _) _)) _ (hd2 b.length) rfl (RB.new w2 (hd2 b.length) _ 5 HH.out.symm (by rw [hd2_len]; omega)) (by omega) (by rw [hd2_len]; omega) (by have := HB2.out.size; simp; omega) (a.length + 2) (a ++ hd2 b.length) rfl rfl ?_; intro g3 c3 w3 ho3 hg3; have HB3 : Hid (Below w.heap.size w w3) := (HB2.out.alloc HB2.out.size _).trans ((HO2.out.later ((Below.refl _ _).alloc (Nat.le_refl _) _)).below (by have := HB2.out.size; simp; omega) hg3); have HO3 : Hid (OB w.heap.size w3 g3 (a.length + 2) c3 (a ++ hd2 b.length)) := ho3; clear ho3 hg3)
    | (at_builtin; refine append_bytes rfl _ _ rfl w.heap.size g3 (a.length + 2) c3 (a ++ hd2 b.length) rfl HO3.out _ b rfl (HY.out.later HB3.out) (by omega) (by omega) HB3.out.size (a.length + 2 + b.length) (a ++ hd2 b.length ++ b) rfl rfl ?_; intro g4 c4 w4 ho4 hg4; have HB4 : Hid (Below w.heap.size w w4) := HB3.out.trans (HO3.out.below HB3.out.size hg4); have HO4 : Hid (OB w.heap.size w4 g4 (a.length + 2 + b.length) c4 (a ++ hd2 b.length ++ b)) := ho4; have hc4 : ¬ c4 = a.length := (by have := HO4.out.cap.1; omega); have HRS : Hid (RB w4 (.slice (some ⟨g4, a.length, none⟩) (a.length + 2 + b.length - a.length) (c4 - a.length)) (hd2 b.length ++ b)) := (by have := HO4.out.sub a.length (by omega) hc4; rw [List.append_assoc, List.drop_left] at this; exact this); clear ho4 hg4)
    | (at_builtin; refine append_bytes rfl _ _ rfl w.heap.size g4 (a.length + 2 + b.length) c4 (a ++ hd2 b.length ++ b) rfl ((HO4.out.later HB5.out).later ((Below.refl _ _).alloc (Nat.le_refl _) _)) _ (le4 q) rfl (RB.new w5 (le4 q) _ 51 HLE.out.symm (by rw [le4_len]; omega)) (by omega) (by rw [le4_len]; omega) (by have := HB5.out.size; have := HB4.out.size; simp; omega) (a.length + (b.length + 6)) (a ++ hd2 b.length ++ b ++ le4 q) (by rw [le4_len]; omega) rfl ?_; intro g6 c6 w6 ho6 hg6)
    | (go_at_call 20; refine Calls.mono (HSL.out _ _ HRS.out) ?_; rintro e w5 ⟨rfl, hb5⟩; have HB5 : Hid (Below w4.heap.size w4 w5) := hb5; clear hb5))
  go_ret2
  have hb6 : Below w.heap.size w w6 := by
    have h1 := HB4.out.trans (HB5.out.mono HB4.out.size)
    exact (h1.alloc h1.size _).trans (((HO4.out.later HB5.out).later ((Below.refl _ _).alloc (Nat.le_refl _) _)).below (by have := h1.size; simp; omega) hg6)
  refine ⟨_, _, rfl, ?_, hb6⟩
  rw [HF.out, ← List.append_assoc, ← List.append_assoc]
  exact ho6
end Go.Proofs.Ytnekaflanaleeaa
