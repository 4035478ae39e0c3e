/- The walks over bytes.TrimRight of a 0, and slices.Clone. -/
import Derived.Test.YtfemfekhpfkafaaDoorOc
import Derived.Lib.SliceRun
namespace Go.Proofs.YtfemfekhpfkafaaDoor.Or
open Go.RowKit Go.Proofs.YtfemfekhpfkafaaDoor
set_option maxRecDepth 1000000
set_option linter.unusedVariables false

/-- Bytes as numbers. -/
def fL (l : List UInt8) : Nat → Nat := fun i => (l.getD i 0).toNat

theorem RB.pre {w : World} {a : Option Addr} {n cap : Nat} {l : List UInt8} (h : RB w (.slice a n cap) l) (k : Nat) (hk : k ≤ n) : RB w (.slice a k cap) (l.take k) := by
  obtain ⟨a', c', he, h1, h2, h3, hc⟩ := h
  simp only [Value.slice.injEq] at he
  obtain ⟨rfl, rfl, rfl⟩ := he
  have hl : (l.take k).length = k := by simp; omega
  refine ⟨a, cap, by rw [hl], by omega, h2, h3, fun i hi => ?_⟩
  rw [hl] at hi
  obtain ⟨b, off, rfl, hcell⟩ := hc i (by omega)
  refine ⟨b, off, rfl, ?_⟩
  rw [hcell]
  simp [hi]

theorem cut_one (ad : Addr) (k n cap : Nat) (hk : k ≤ cap) (wx : World) : (Instr.sliceAt 22 (.slice (some ad) n cap) none (some (.int .i64 (k : Int))) none).run Tryd.prog wx = .ok (.slice (some ad) k cap) wx := by
  rw [run_sliceAt_slice wx 22 _ _ _ _ Tryd.underlying22, run_slice_h wx 22 (some ad) n cap Tryd.underlying22 .i64 k (by omega) (by omega)]
  have : (sizeOf (Tryd.prog.elem 22)).run Tryd.prog wx = .ok 1 wx := by kernel_rfl
  rw [this]
  obtain ⟨b, off, o⟩ := ad
  cases o <;> simp [sliced, Addr.add, Result.andThen]

theorem trimB_any (ad : Addr) (n cap : Nat) (l : List UInt8) (w : World) (hr : RB w (.slice (some ad) n cap) l) (hn : n ≤ 1000000) :
    Calls Tryd.prog 24 #[.slice (some ad) n cap, .int .u8 0] w fun e w' => e = .returned (.slice (some ad) (tl (fL l) n) cap) ∧ w' = w := by
  have hr2 := hr
  obtain ⟨a', c', he, h1, h2, h3, hc⟩ := hr
  simp only [Value.slice.injEq] at he
  obtain ⟨rfl, rfl, rfl⟩ := he
  have HC : Hid _ := hc
  obtain ⟨n, HN⟩ : ∃ n, Hid (l.length = n) := ⟨_, rfl⟩
  rw [HN.out] at hn h1 ⊢
  clear hr2 hc h3
  go_enter Tryd.func24, Tryd.ntmps24
  go_wp2_with fail
  go_loopw [0] (fun iv wr => ∃ (k : Nat), k ≤ n ∧ iv = .slice (some ad) k cap ∧ Hid (tl (fL l) n = tl (fL l) k) ∧ wr = w) (fun iv _ => match iv with | .slice _ k _ => k | _ => 0)
  case atStart => exact ⟨n, Nat.le_refl _, rfl, rfl, rfl⟩
  case round =>
    obtain ⟨k, hk, rfl, HX, rfl⟩ := hrel
    by_cases hpos : 0 < k
    · obtain ⟨j, rfl⟩ : ∃ j, k = j + 1 := ⟨k - 1, by omega⟩
      obtain ⟨b, off, he, c0⟩ := HC.out j (by rw [HN.out]; omega)
      cases he
      obtain ⟨y, HY⟩ : ∃ y, Hid (y = fL l j) := ⟨_, rfl⟩
      have c1 : wr.cell? ⟨b, off + j, none⟩ = some (.int .u8 (y : Nat)) := by rw [HY.out]; exact c0
      have hw1 : ((j + 1 : Nat) : Int) - 1 = (j : Int) := by omega
      have hcut := fun wx => cut_one ⟨b, off, none⟩ j (j + 1) cap (by omega) wx
      clear c0
      by_cases hy : y = 0
      · have HE : Hid (tl (fL l) (j + 1) = tl (fL l) j) := by
          show tl _ (j + 1) = _
          conv => lhs; unfold tl
          rw [if_pos (by rw [← HY.out]; exact hy)]
        subst hy
        clear HY
        go_wp2_with fail
        exact ⟨⟨j, by omega, rfl, HX.out.trans HE.out, trivial⟩, Nat.lt_succ_self _⟩
      · have HE : Hid (tl (fL l) (j + 1) = j + 1) := by
          show tl _ (j + 1) = _
          conv => lhs; unfold tl
          rw [if_neg (by rw [← HY.out]; exact hy)]
        have hb : ((y : Int) == 0) = false := by simp; omega
        clear HY
        go_wp2_with fail
        go_ret
        exact ⟨by rw [HX.out, HE.out]; rfl, rfl⟩
    · obtain rfl : k = 0 := by omega
      go_wp2_with fail
      go_ret
      exact ⟨by rw [HX.out]; rfl, rfl⟩

theorem trim_any (ad : Addr) (n cap : Nat) (l : List UInt8) (w : World) (hr : RB w (.slice (some ad) n cap) l) (hn : n ≤ 1000000) :
    Calls Tryd.prog 22 #[.slice (some ad) n cap, .string ⟨#[0]⟩] w fun e w' => e = .returned (.slice (some ad) (tl (fL l) n) cap) ∧ w' = w := by
  have HT : Hid _ := trimB_any ad n cap l w hr hn
  have hi := fun wx => str_at [0] 0 0 rfl (by decide) wx
  have hi2 : ∀ wx, (Instr.index 9 (.string ⟨#[0]⟩) (.int .i64 0)).run Tryd.prog wx = .ok (.int .u8 0) wx := fun wx => hi wx
  clear hi hr
  by_cases h0 : n = 0
  · subst h0
    clear HT
    go_enter Tryd.func22, Tryd.ntmps22
    go_wp2_with fail
    go_ret
    exact ⟨rfl, rfl⟩
  · have hb : ((n : Int) == 0) = false := by simp; omega
    go_enter Tryd.func22, Tryd.ntmps22
    go_wp2_with fail
    refine Calls.mono HT.out ?_
    rintro e w2 ⟨rfl, rfl⟩
    go_wp2_with fail
    go_ret
    exact ⟨rfl, rfl⟩

theorem clone_any (ad : Addr) (n cap : Nat) (l : List UInt8) (w : World) (hr : RB w (.slice (some ad) n cap) l) (hn : n ≤ 1000000) :
    Calls Tryd.prog 21 #[.slice (some ad) n cap] w fun e w' => ∃ g c, e = .returned (.slice (some ⟨g, 0, none⟩) n c) ∧ OB w.heap.size w' g n c l ∧ Below w.heap.size w w' := by
  have HV : Hid (RB w (.slice (some ad) n cap) l) := hr
  obtain ⟨a', c', he, h1, h2, h3, hc⟩ := hr
  simp only [Value.slice.injEq] at he
  obtain ⟨rfl, rfl, rfl⟩ := he
  clear hc
  have hE : ∀ w, (binOp .eql 22 (.slice (some ad) l.length cap) (.slice none 0 0)).run Tryd.prog w = .ok (.bool false) w := fun w => Lib.run_eql_slice_nil w 22 5 (some ad) l.length cap 0 0 Tryd.underlying22
  have HB1 : Hid (Below w.heap.size w (w.alloc (.cells #[] 5))) := (Below.refl _ _).alloc (Nat.le_refl _) _
  have HO1 : Hid (OB w.heap.size (w.alloc (.cells #[] 5)) w.heap.size 0 0 []) := OB.made w 0 #[] (by unfold maxLen; omega) rfl
  go_enter Tryd.func21, Tryd.ntmps21
  go_wp2_with (first
    | (at_builtin; refine append_bytes rfl _ _ rfl w.heap.size w.heap.size 0 0 [] rfl HO1.out _ l rfl (HV.out.later HB1.out) (by omega) (by omega) (by simp) l.length l (by omega) rfl ?_; intro g2 c2 w2 ho2 hg2; have HO2 : Hid _ := ho2; have HB2 : Hid _ := HB1.out.trans (HO1.out.below (by simp) hg2); clear ho2 hg2))
  go_ret
  exact ⟨_, _, rfl, HO2.out, HB2.out⟩
end Go.Proofs.YtfemfekhpfkafaaDoor.Or
