/- The program's order. -/
import Derived.Test.YtdbohfpkhidfiaaDoorRRQb
namespace Go.Proofs.YtdbohfpkhidfiaaDoorRR
open Go.RowKit

/-- Those that may come next. -/
def nextS (W : List Nat) (there : Nat) : Nat := dif (freeTo W there W.length) there

/-- So many more are put behind those that are there; none: there is a circle. -/
def ordGo (W : List Nat) : Nat → Nat → List Nat → Option (List Nat)
  | 0, _, acc => some acc
  | k + 1, there, acc => if nextS W there = 0 then none else ordGo W k (there ||| 2 ^ low (nextS W there)) (acc ++ [low (nextS W there)])

def ordW (W : List Nat) : Option (List Nat) := ordGo W W.length 0 []

/-- How order ends. -/
def OrdC (W : List Nat) (w : World) (e : Ending) (w' : World) : Prop := Below w.heap.size w w' ∧
  ((∃ l v, ordW W = some l ∧ e = .returned v ∧ w'.ownsRow w.heap.size 3 1 v l.length (ivs l) ∧ l.length = W.length) ∨ (ordW W = none ∧ e = .panicked [{ v := .iface 26 (.int .i64 13), recovered := false }]))

theorem Tryd.cells3 : Tryd.prog.cellsOf 3 = 1 := by kernel_rfl

set_option maxRecDepth 1000000 in
set_option maxHeartbeats 1000000 in
theorem order_any (W : List Nat) (v : Value) (w : World) (hW : RdU w v W) (hn : W.length ≤ 64) (hT : Tab w) :
    Calls Tryd.prog 28 #[v] w fun e w' => OrdC W w e w' := by
  obtain ⟨i0, hi0, hz0, hz1, hz2⟩ := info_parts Tryd.info3
  have HW : Hid (RdU w v W) := hW
  obtain ⟨a, cap, rfl, hc, hl, hr⟩ := hW
  have HT : Hid (Tab w) := hT
  obtain ⟨n, HN⟩ : ∃ n, Hid (W.length = n) := ⟨_, rfl⟩
  rw [HN.out] at hn hc HW ⊢
  have hmk := run_make (P := Tryd.prog) w 25 3 i0 _ Tryd.underlying25 hi0 hz0 .i64 .i64 0 (n : Int) (by omega) (by omega) (by rw [hz2]; omega) (by omega)
  rw [hz1] at hmk
  simp only [Int.toNat_zero, Int.toNat_natCast] at hmk
  have HO0 : Hid ((w.alloc (.cells (madeCells #[Value.int .i64 0] n) 3)).ownsRow w.heap.size 3 1 (.slice (some ⟨w.heap.size, 0, none⟩) 0 n) ([] : List Nat).length (ivs [])) := World.ownsRow_made w _ n (Nat.le_refl _) (by unfold maxLen; omega) (by rw [size_madeCells, Nat.mul_one])
  have HB0 : Hid (Below w.heap.size w (w.alloc (.cells (madeCells #[Value.int .i64 0] n) 3))) := (Below.refl _ _).alloc (Nat.le_refl _) _
  have HE0 : Hid (ordW W = ordGo W n 0 []) := by show _ = _; unfold ordW; rw [HN.out]
  clear hr hl hT
  go_enter Tryd.func28, Tryd.ntmps28
  go_wp2_with fail
  go_loopw [3, 4, 5, 6, 12] (fun tv ov _ _ iv wr => ∃ (k there : Nat) (acc : List Nat), k ≤ n ∧ there < 18446744073709551616 ∧ iv = .int .i64 k ∧ tv = .int .u64 (there : Int) ∧ Hid (wr.ownsRow w.heap.size 3 1 ov acc.length (ivs acc)) ∧ Hid (acc.length = k) ∧ Hid (ordW W = ordGo W (n - k) there acc) ∧ Hid (Below w.heap.size w wr)) (fun _ _ _ _ iv _ => n - (intOf iv).toNat)
  case atStart => exact ⟨0, 0, [], Nat.zero_le _, by omega, rfl, rfl, HO0, rfl, HE0, HB0⟩
  case round =>
    obtain ⟨k, there, acc, hk, hth, rfl, rfl, HO, HL, HE, HB⟩ := hrel
    rename World => w1
    rename_i ov _ _
    clear HO0 HE0 HB0 hmk
    by_cases hlt : k < n
    · have hki : (k : Int) < (n : Int) := by omega
      have M1 : Hid _ := free_any W (.slice a n cap) there w1 (HW.out.later HB.out) (by rw [HN.out]; exact hn) hth
      have hfr := freeTo_lt W there n hn
      have e1 := bits_andNot_u64_nat (freeTo W there n) there hfr hth
      have hnx : nextS W there = dif (freeTo W there n) there := by unfold nextS; rw [HN.out]
      have hnl : dif (freeTo W there n) there < 18446744073709551616 := dif_lt hfr
      have HES : Hid (ordW W = if nextS W there = 0 then none else ordGo W (n - (k + 1)) (there ||| 2 ^ low (nextS W there)) (acc ++ [low (nextS W there)])) := by
        show _ = _
        rw [HE.out, show n - k = (n - (k + 1)) + 1 by omega]
        rfl
      rw [hnx] at HES
      rw [HN.out] at M1
      clear HE hnx
      generalize dif (freeTo W there n) there = nx at *
      generalize freeTo W there n = fr at *
      by_cases h0 : nx = 0
      · subst h0
        have HE2 : Hid (ordW W = none) := by have := HES.out; rwa [if_pos rfl] at this
        go_wp2_with fail
        refine Calls.mono M1.out ?_
        rintro e w2 ⟨rfl, rfl⟩
        go_wp2_with fail
        exact ⟨rfl, HB.out, .inr ⟨HE2.out, rfl⟩⟩
      · have HE2 : Hid (ordW W = ordGo W (n - (k + 1)) (there ||| 2 ^ low nx) (acc ++ [low nx])) := by have := HES.out; rwa [if_neg h0] at this
        have h0b : (((nx : Nat) : Int) == 0) = false := by simp; omega
        have hlow := (low_bit h0 hnl).2.2
        have M2 : Hid _ := tz_any nx h0 hnl w1 (HT.out.later HB.out)
        have M3 : Hid (∀ wx, Calls Tryd.prog 25 #[.int .i64 ((low nx : Nat) : Int)] wx fun e w' => e = .returned (.int .u64 ((2 ^ low nx : Nat) : Int)) ∧ w' = wx) := fun wx => only_any (low nx) hlow wx
        have h2 := two_lt hlow
        have e2 := bits_or_u64_nat there (2 ^ low nx) hth h2
        have hor := or_lt hth h2
        have hal : acc.length ≤ 64 := by have := HL.out; omega
        have ho := HO.out
        have hz := HB.out.size
        clear HES HO
        generalize low nx = lo at *
        generalize 2 ^ lo = pw at *
        go_wp2_with fail
        refine Calls.mono M1.out ?_
        rintro e w2 ⟨rfl, rfl⟩
        go_wp2_with fail
        refine Calls.mono M2.out ?_
        rintro e w3 ⟨rfl, rfl⟩
        go_wp2_with (at_builtin; refine wpList_append_own_at _ rfl _ _ 25 rfl w.heap.size 3 i0 _ 1 8 Tryd.underlying25 hi0 hz0 hz1 hz2 rfl (by decide) _ acc.length (ivs acc) rfl (ho.alloc _) ⟨w3.heap.size, 0, none⟩ 1 1 [.int .i64 (lo : Int)] rfl rfl (new_cells w3 [.int .i64 (lo : Int)] 3) (by simp [Value.oneCell']) (by unfold maxLen; omega) (by omega) (by simp; omega) ?_; intro v5 w5 ho5 hg5 _ hat5; obtain ⟨g5, cap5, rfl⟩ := ownsRow_succ' ho5)
        have HB5 : Hid (Below w.heap.size w w5) := Below.grown (HB.out.alloc hz _) hg5 (by simp; omega) (fun j hj => (ho.lt _ hj).1)
        have HO5 : Hid (w5.ownsRow w.heap.size 3 1 (.slice (some ⟨g5, 0, none⟩) (acc.length + 1) cap5) (acc ++ [lo]).length (ivs (acc ++ [lo]))) := by
          show World.ownsRow _ _ _ _ _ _ _
          rw [ivs_snoc]
          simpa using ho5
        have HL5 : Hid ((acc ++ [lo]).length = k + 1) := by show _ = _; simp; exact HL.out
        clear ho hg5 hat5 ho5 HB HL
        refine Calls.mono (M3.out _) ?_
        rintro e w6 ⟨rfl, rfl⟩
        go_wp2_with fail
        go_roundw
        case rel => exact ⟨k + 1, there ||| pw, acc ++ [lo], by omega, hor, by go_num, rfl, HO5, HL5, HE2, HB5⟩
        case measure => simp [intOf]; omega
    · have hkn : k = n := by omega
      subst hkn
      have HE2 : Hid (ordW W = some acc) := by have := HE.out; rwa [Nat.sub_self] at this
      go_wp2_with fail
      go_ret
      exact ⟨HB.out, .inl ⟨acc, _, HE2.out, rfl, HO.out, by rw [HL.out, HN.out]⟩⟩
end Go.Proofs.YtdbohfpkhidfiaaDoorRR
