/- Texts of the seat, packed: Pg Yw Yx Ua. -/
import Derived.Test.YtlegmmhacnbnlaaGreatDoorP49
import Derived.Test.YtlegmmhacnbnlaaGreatDoorP08
import Derived.Deep.RegionHeldLaw
import Derived.Test.YtlegmmhacnbnlaaGreatDoorRows
import Derived.Deep.SlicePairs
import Derived.Deep.Strs
import Derived.LaidHandle
import Derived.LaidLaws
import Derived.LaidMore
import Derived.OpenShut
import Derived.ProofKit
import Derived.ShutString
import Derived.Stop.Joined
/- TraceParts' walk. -/
namespace Go.Proofs.YtlegmmhacnbnlaaGreatDoor.J.Tz
open Go.RowKit Go.Shelf Go.Proofs.YtlegmmhacnbnlaaGreatDoor.J
set_option maxRecDepth 1000000
set_option linter.unusedVariables false

/-- The first effects of a row. -/
theorem take_effs {a : Option Addr} {n c : Nat} {l : List Ef} {W : World} (h : RE W (.slice a n c) l) {k : Nat} (hk : k ≤ n) :
    ∃ a', (∀ wx, (Instr.sliceAt 25 (.slice a n c) none (some (.int .i64 (k : Int))) none).run Tryz.prog wx = .ok (.slice a' k c) wx) ∧ ∀ wx, RE wx (.slice a n c) l → RE wx (.slice a' k c) (l.take k) := by
  have hnc : n ≤ c := by obtain ⟨a', c', e, h1, _⟩ := h; simp only [Value.slice.injEq] at e; obtain ⟨_, rfl, rfl⟩ := e; exact h1
  refine ⟨if c = 0 then a else a.map (·.add 0), fun wx => ?_, fun wx hw => ?_⟩
  · rw [run_sliceAt_slice wx 25 _ _ _ _ Tryz.underlying25, run_slice_h wx 25 a n c Tryz.underlying25 .i64 (k : Int) (by omega) (by omega)]
    have : (sizeOf (Tryz.prog.elem 25)).run Tryz.prog wx = .ok 4 wx := by kernel_rfl
    rw [this]
    show Result.ok (sliced a 0 ((k : Int)).toNat c 4) wx = _
    unfold sliced
    rw [Int.toNat_natCast]
    simp
  · obtain ⟨a', cap', e, h1, h2, hc⟩ := hw.take k (by obtain ⟨a', c', e, _⟩ := hw; simp only [Value.slice.injEq] at e; omega)
    simp only [Value.slice.injEq] at e
    obtain ⟨rfl, e2, rfl⟩ := e
    refine ⟨_, c, by rw [← e2], h1, h2, fun i p hp => ?_⟩
    obtain ⟨q1, b, off, q2, q3⟩ := hc i p hp
    refine ⟨q1, b, off, ?_, q3⟩
    subst q2
    split
    · rfl
    · simp [add_at]

set_option maxHeartbeats 16000000 in
theorem parts_walk (pa : Option Addr) (pn pc : Nat) (its : List It) (a : Option Addr) (n c : Nat) (l : List Ef) (z : Int) (W : World) (hT : Dg.Tab W) (hIt : RdIt W (.slice pa pn pc) its) (hmx : its.length ≤ maxLen) (hnm : ∀ y ∈ its, y.name.length ≤ maxLen ∧ y.undo.length ≤ maxLen ∧ y.after.length ≤ maxLen) (h : RE W (.slice a n c) l) :
    Calls Tryz.prog 3 #[.agg #[.slice pa pn pc], .slice a n c, .int .i64 z] W fun e w' => e = .returned (.bool true) ∧ Below W.heap.size W w' := by
  have hn : n = l.length := by obtain ⟨a', c', e, _⟩ := h; exact (Value.slice.inj e).2.1
  have HN : Hid (l.length = n) := hn.symm
  have HL : Hid (∀ wx, Calls Tryz.prog 5 #[] wx fun e w' => e = .returned (.bool true) ∧ Below wx.heap.size wx w') := lives_any
  have HSM : Hid (∀ wx, Below W.heap.size W wx → Calls Tryz.prog 4 #[.agg #[.slice pa pn pc]] wx fun e w' => e = .returned (.bool (Fc.smallI its)) ∧ Below wx.heap.size wx w') := fun wx hb => Fc.small_any its _ wx (hIt.later hb) hmx hnm
  have r1 := heap_alloc_new W (.cells #[.slice pa pn pc] 24)
  have hb1 : Below W.heap.size W (W.alloc (.cells #[.slice pa pn pc] 24)) := bl1 _ _
  have g0 := (cell_row r1 0).trans rfl
  have HRE : Hid (∀ wx, Below W.heap.size W wx → RE wx (.slice a n c) l) := fun wx hb => h.later hb
  have HTK : Hid (∀ k, k ≤ n → ∃ a', (∀ wx, (Instr.sliceAt 25 (.slice a n c) none (some (.int .i64 (k : Int))) none).run Tryz.prog wx = .ok (.slice a' k c) wx) ∧ ∀ wx, RE wx (.slice a n c) l → RE wx (.slice a' k c) (l.take k)) := fun k hk => take_effs h hk
  have HOD : Hid (FairI its → its.length ≤ 70 → n ≤ 100 → ∀ wx (v : Value) (k : Nat), Below W.heap.size W wx → RE wx v (l.take k) → Calls Tryz.prog 6 #[.agg #[.slice pa pn pc], v] wx fun e w' => (∃ q : Int, e = .returned (.int .i64 q) ∧ (q = 0 ↔ ordC its (l.take k))) ∧ Below wx.heap.size wx w') := fun hF hil hn100 wx v k hb hv => order_any its _ (l.take k) v wx (hIt.later hb) hF (hT.later hb) hv (by rw [List.length_take]; omega) hil
  obtain ⟨sm, hsm⟩ : ∃ q, Fc.smallI its = q := ⟨_, rfl⟩
  have HSQ : Hid _ := hsm
  rw [hsm] at HSM
  clear hT hIt hmx hnm h hn hsm
  go_enter Tryz.func3, Tryz.ntmps3
  go_wp2_with fail
  obtain ⟨w1, hw1⟩ : ∃ w1, W.alloc (.cells #[.slice pa pn pc] 24) = w1 := ⟨_, rfl⟩
  rw [hw1] at r1 hb1 ⊢
  clear g0
  refine Calls.mono (HSM.out w1 hb1) ?_
  rintro e w2 ⟨rfl, hb2⟩
  have HB2 : Hid (Below W.heap.size W w2) := hb1.trans (hb2.mono hb1.size)
  have HR2 : Hid (∀ wx, Below w2.heap.size w2 wx → wx.cell? ⟨W.heap.size, 0, none⟩ = some (.slice pa pn pc)) := fun wx hb => (cell_row (row_later (row_later r1 hb2) hb) 0).trans rfl
  have g2 := HR2.out w2 (Below.refl _ _)
  clear hb1 r1 hb2 HSM hw1
  cases sm with
  | false =>
    go_wp2_with fail
    refine Calls.mono (HL.out _) ?_
    rintro e w3 ⟨rfl, hb3⟩
    have HB3 : Hid (Below W.heap.size W w3) := HB2.out.trans (hb3.mono HB2.out.size)
    clear hb3
    go_wp2_with fail
    go_ret
    exact ⟨rfl, HB3.out⟩
  | true =>
    have HFI : Hid _ := Fc.small_fair HSQ.out
    by_cases hbig : (100 : Int) < (n : Int)
    · go_wp2_with fail
      refine Calls.mono (HL.out _) ?_
      rintro e w3 ⟨rfl, hb3⟩
      have HB3 : Hid (Below W.heap.size W w3) := HB2.out.trans (hb3.mono HB2.out.size)
      clear hb3
      go_wp2_with fail
      go_ret
      exact ⟨rfl, HB3.out⟩
    · have HO1 : Hid _ := HOD.out HFI.out.1 HFI.out.2 (by omega) w2 (.slice a n c) n HB2.out (by rw [List.take_of_length_le (by rw [HN.out]; exact Nat.le_refl _)]; exact HRE.out w2 HB2.out)
      rw [List.take_of_length_le (by rw [HN.out]; exact Nat.le_refl _)] at HO1
      go_wp2_with fail
      refine Calls.mono HO1.out ?_
      rintro e w3 ⟨⟨q, rfl, hq⟩, hb3⟩
      have HB3 : Hid (Below W.heap.size W w3) := HB2.out.trans (hb3.mono HB2.out.size)
      have HR3 : Hid (∀ wx, Below w3.heap.size w3 wx → wx.cell? ⟨W.heap.size, 0, none⟩ = some (.slice pa pn pc)) := fun wx hb => HR2.out wx (hb3.trans (hb.mono hb3.size))
      have HQ : Hid _ := hq
      clear hb3 HO1 hq g2
      by_cases hq0 : q = 0
      · have HOC : Hid (ordC its l) := HQ.out.1 hq0
        subst hq0
        obtain ⟨k, hk, hkn⟩ : ∃ k : Nat, wrap64 ((IntKind.u64.wrap z).tmod ((n : Int) + 1)) = (k : Int) ∧ k ≤ n := by
          have h0 : 0 ≤ IntKind.u64.wrap z := by rw [IntKind.wrap_u64]; omega
          have h1 : (IntKind.u64.wrap z).tmod ((n : Int) + 1) = (IntKind.u64.wrap z) % ((n : Int) + 1) := Int.tmod_eq_emod_of_nonneg h0
          have h2 : 0 ≤ (IntKind.u64.wrap z) % ((n : Int) + 1) := Int.emod_nonneg _ (by omega)
          have h3 : (IntKind.u64.wrap z) % ((n : Int) + 1) < (n : Int) + 1 := Int.emod_lt_of_pos _ (by omega)
          refine ⟨((IntKind.u64.wrap z) % ((n : Int) + 1)).toNat, ?_, by omega⟩
          rw [h1, Go.IntWalk.wrap64_in _ (by omega)]
          omega
        have hn1 : ¬ (n : Int) + 1 = 0 := by omega
        go_wp2_with fail
        rw [hk]
        obtain ⟨a', hsl, hre⟩ := HTK.out k hkn
        have HO2 : Hid (∀ wx, Below w3.heap.size w3 wx → Calls Tryz.prog 6 #[.agg #[.slice pa pn pc], .slice a' k c] wx fun e w' => e = .returned (.int .i64 0) ∧ Below w3.heap.size w3 w') := fun wx hb => by
          have hbw := HB3.out.trans (hb.mono HB3.out.size)
          refine (HOD.out HFI.out.1 HFI.out.2 (by omega) wx (.slice a' k c) k hbw (hre wx (HRE.out wx hbw))).mono ?_
          rintro e w' ⟨⟨q, rfl, hq⟩, hb9⟩
          have h0 : q = 0 := hq.2 (ordC_take (by rw [HN.out]; omega) HOC.out k)
          subst h0
          exact ⟨rfl, hb.trans (hb9.mono hb.size)⟩
        refine region_thenF [(30, .agg #[.slice pa pn pc]), (31, .slice a n c), (32, .int .i64 (k : Int)), (33, .slice a' k c), (34, .int .i64 0), (35, .bool true), (36, .bool true), (37, .bool true), (38, .bool true), (6, .bool true)] (fun w' => Below w3.heap.size w3 w') ?_ ?_
        · refine wp_region_held (S := fun wx => Below w3.heap.size w3 wx) (by kernel_rfl) ?_
          have hS0 : Below w3.heap.size w3 w3.drew := (Below.refl _ w3).drew
          simp only [List.size_toArray, List.length_cons, List.length_nil, Nat.reduceAdd, Array.replicate_succ, Array.replicate_zero, List.push_toArray, List.nil_append, List.cons_append]
          refine tV 0 30 (.agg #[.slice pa pn pc]) 9 rfl hS0 ?_ (fun wx hx => by have d0 := HR3.out wx hx; go_simp)
          refine tG 1 31 (.slice a n c) 8 rfl hS0 ?_
          refine tG 2 32 (.int .i64 (k : Int)) 7 rfl hS0 ?_
          refine tV 3 33 (.slice a' k c) 6 rfl hS0 ?_ (fun wx hx => by simp [execOp, Act.eval, hsl wx, Result.andThen])
          refine oneC (i := 4) (d := 34) (f := 6) (args := #[.agg #[.slice pa pn pc], .slice a' k c]) (v := .int .i64 0) rfl rfl (by kernel_rfl) (by kernel_rfl) (fun wx => by kernel_rfl) hS0 (fun wx hx => HO2.out wx hx) ?_
          intro wy hy0
          simp only [List.setIfInBounds_toArray, List.set_cons_succ, List.set_cons_zero]
          refine tG 5 35 (.bool true) 4 rfl hy0 ?_
          refine tG 6 36 (.bool true) 3 rfl hy0 ?_
          refine oneC (i := 7) (d := 37) (f := 5) (args := #[]) (v := .bool true) rfl rfl (by kernel_rfl) (by kernel_rfl) (fun wx => by kernel_rfl) hy0 (fun wx hx => (HL.out wx).mono fun e w' he => ⟨he.1, hx.trans (he.2.mono hx.size)⟩) ?_
          intro wz hz0
          simp only [List.setIfInBounds_toArray, List.set_cons_succ, List.set_cons_zero]
          refine tG 8 38 (.bool true) 1 rfl hz0 ?_
          refine tG 9 6 (.bool true) 0 rfl hz0 ?_
          refine wpAnyH_done (by kernel_rfl) ?_ _
          exact ⟨rfl, by kernel_rfl, hz0⟩
        intro w9 h9
        have H9 : Hid _ := HB3.out.trans (h9.mono HB3.out.size)
        simp only [setAll, List.setIfInBounds_toArray, List.set_cons_succ, List.set_cons_zero]
        clear h9 hsl hre
        go_wp2_with fail
        go_ret
        exact ⟨rfl, H9.out⟩
      · have hqb : (q != 0) = true := by simpa using hq0
        go_wp2_with fail
        refine Calls.mono (HL.out _) ?_
        rintro e w4 ⟨rfl, hb4⟩
        have HB4 : Hid (Below W.heap.size W w4) := HB3.out.trans (hb4.mono HB3.out.size)
        clear hb4
        go_wp2_with fail
        go_ret
        exact ⟨rfl, HB4.out⟩
end Go.Proofs.YtlegmmhacnbnlaaGreatDoor.J.Tz

/- What the laws' lives wants: the example in memory, and what is told of it. -/
namespace Go.Proofs.YtlegmmhacnbnlaaGreatDoor

open Go.RowKit Go.Shelf Go.Proofs.YtlegmmhacnbnlaaGreatDoor.Sx

set_option linter.unusedVariables false

theorem RdI.new (w : World) (l : List Nat) (vs : Array Value) (h : vs.toList = Dg.ivs l) : Dg.RdI (w.alloc (.cells vs 3)) (.slice (some ⟨w.heap.size, 0, none⟩) l.length l.length) l := by
  refine ⟨_, _, rfl, Nat.le_refl _, fun i x hi => ⟨_, _, rfl, ?_⟩⟩
  rw [Dg.cell_row (Dg.row_new w vs 3), Nat.zero_add, ← Array.getElem?_toList, h, Dg.ivs, List.getElem?_map, hi]
  rfl

end Go.Proofs.YtlegmmhacnbnlaaGreatDoor

/- The walk over the laws' lives. -/
namespace Go.Proofs.YtlegmmhacnbnlaaGreatDoor

open Go.RowKit Go.Shelf Go.Proofs.YtlegmmhacnbnlaaGreatDoor.Sx

set_option linter.unusedVariables false

theorem four (w : World) (o0 o1 o2 o3 : Obj) :
    let W := (((w.alloc o0).alloc o1).alloc o2).alloc o3
    W.heap[w.heap.size]? = some o0 ∧ W.heap[w.heap.size + 1]? = some o1 ∧ W.heap[w.heap.size + 1 + 1]? = some o2 ∧ W.heap[w.heap.size + 1 + 1 + 1]? = some o3 ∧ Below w.heap.size w W := by
  refine ⟨?_, ?_, ?_, ?_, ?_⟩
  · exact old1 (old1 (old1 (new1 w o0 _ rfl) _) _) _
  · exact old1 (old1 (new1 _ o1 _ (by simp)) _) _
  · exact old1 (new1 _ o2 _ (by simp)) _
  · exact new1 _ o3 _ (by simp)
  · exact (((((Below.refl _ w).alloc (Nat.le_refl _) _).alloc (by simp) _).alloc (by simp; omega) _).alloc (by simp; omega) _)

end Go.Proofs.YtlegmmhacnbnlaaGreatDoor

/- The laid table; plans that came in. -/
namespace Go.Proofs.YtlegmmhacnbnlaaGreatDoor

open Go.ChangeShapes Go.WideShapes Go.ChangeAt Go.RowKit Go.Shelf Go.Proofs.YtlegmmhacnbnlaaGreatDoor.Sx

theorem own : ownKnob Tryz.prog.godebug = none := by kernel_rfl

theorem gTab : Tryz.prog.globalNamed "math/bits.deBruijn64tab" = some 0 := by kernel_rfl

theorem tTab : (Tryz.prog.globals[0]?).map (·.type) = some 139 := by kernel_rfl

theorem uTab : Tryz.prog.underlying 139 = some (.array 64 5) := by kernel_rfl

theorem u5 : Tryz.prog.underlying 5 = some (.int .u8) := by kernel_rfl

theorem c5 : Tryz.prog.cellsOf 5 = 1 := by kernel_rfl

theorem c3 : Tryz.prog.cellsOf 3 = 1 := by kernel_rfl

theorem door_met (os : Os) (args : Array Value) : laidMetH Tryz.prog [("math/bits.deBruijn64tab", Rows.laid_math_bits_deBruijn64tab)] ((World.doorLaid Tryz.prog 400 os).forCall (fun _ _ => 0) ⟨#[], args, []⟩).memory :=
  laidMetH_of_parts3 (fuel := 8) (laidMet_of_run' 8 (by kernel_rfl) (by kernel_rfl)) (by kernel_rfl) (by kernel_rfl)

theorem tab_form : (Rows.laid_math_bits_deBruijn64tab : DataW Unit) = .agg (Lib.deBruijn64tab.map fun (n : Nat) => .lit (.int .u8 (n : Int))) := rfl

theorem tab_of_laid {W : World} (h : laidMetH Tryz.prog [("math/bits.deBruijn64tab", Rows.laid_math_bits_deBruijn64tab)] W) : Dg.Tab W := by
  rw [MakeChecks.laidMetH_plain _ _ _ (by kernel_rfl)] at h
  obtain ⟨ps, ⟨g0, t0, cs0, f0, p0, q0, hg0, ht0, hv0, hd0, _, _⟩, _, _⟩ := h
  obtain rfl := Option.some.inj (gTab.symm.trans hg0)
  obtain rfl := Option.some.inj (tTab.symm.trans ht0)
  obtain ⟨xs, m1, rfl, hx1, hlen, hn, hel⟩ := DataW.trod_array uTab hd0
  rw [tab_form] at hx1
  simp only [Prod.mk.injEq, DataW.agg.injEq] at hx1
  have htl : Lib.deBruijn64tab.length = 64 := rfl
  intro j hj
  rw [htl] at hj
  obtain ⟨x, hx⟩ : ∃ x, xs[j]? = some x := ⟨_, List.getElem?_eq_getElem (by omega)⟩
  have h1 := hel j hj
  rw [hx, c5] at h1
  obtain ⟨k, e1, e2, _⟩ := DataW.trod_int u5 h1
  have h2 := congrArg (fun l => l[j]?) hx1.1
  simp only [List.getElem?_map, hx, Option.map_some] at h2
  have h3 : Lib.deBruijn64tab[j]? = some (Lib.deBruijn64tab.getD j 0) := by rw [List.getD_eq_getElem?_getD, List.getElem?_eq_getElem (by omega)]; rfl
  rw [h3, e2] at h2
  simp only [Option.map_some, Option.some.injEq, DataW.lit.injEq, Lit.int.injEq, true_and] at h2
  rw [World.var?_cell hg0 hv0 j, ← Array.getElem?_toList, h2]
  have h4 := congrArg (fun l => l[0]?) e1
  simp only [Nat.mul_one] at h4
  rw [List.getElem?_take_of_lt (by omega), List.getElem?_drop] at h4
  simpa using h4

theorem c43 : Tryz.prog.cellsOf 34 = 8 := by kernel_rfl

theorem c27 : Tryz.prog.cellsOf 24 = 1 := by kernel_rfl

theorem c25 : Tryz.prog.cellsOf 22 = 1 := by kernel_rfl

theorem c41 : Tryz.prog.cellsOf 32 = 1 := by kernel_rfl

variable {H : Type} {enc : TypeId × Value → H} {w : World} {base : Nat} {spare : Nat → Bool} {held : Bool}

theorem open_ns {fuel : Nat} {cs : List Value} {x : DataW H × List MemPlace} (h : DataW.trod enc Tryz.prog w base spare held fuel 32 cs = some x) : ∃ a n c l, cs = [.slice a n c] ∧ RdZ w (.slice a n c) l ∧ l.length ≤ maxLen := by
  rcases open_ints Tryz.underlying32 Tryz.underlying3 (by kernel_rfl) h with ⟨hcs, _⟩ | ⟨x, l, c, zs, hcs, _, hl, hm, hz, _, hcell, hwz⟩
  · exact ⟨none, 0, 0, [], hcs, ⟨none, 0, rfl, Nat.le_refl _, fun i x hx => by simp at hx⟩, by simp⟩
  · have hlz : l ≤ zs.length := by rw [hz]; split <;> omega
    have hlen : (zs.take l).length = l := by simp; omega
    refine ⟨some x, l, c, zs.take l, hcs, ⟨some x, c, by rw [hlen], by rw [hlen]; exact hl, fun i y hi => ?_⟩, by rw [hlen]; omega⟩
    have hil : i < l := by have := (List.getElem?_eq_some_iff.1 hi).1; omega
    obtain ⟨b, off, rfl, hcc⟩ := ints_at hcell (by omega)
    refine ⟨b, off, rfl, ?_⟩
    rw [hcc i (by omega), List.getD_eq_getElem?_getD]
    rw [List.getElem?_take, if_pos hil] at hi
    rw [hi]
    rfl

set_option maxRecDepth 1000000 in
theorem open_item {fuel : Nat} {cs : List Value} {x : DataW H × List MemPlace} (h : DataW.trod enc Tryz.prog w base spare held fuel 34 cs = some x) :
    ∃ (y : It) (a : Option Addr) (n c : Nat), cs = [.string ⟨y.name.toArray⟩, .string ⟨y.undo.toArray⟩, .bool y.sub, .bool y.vital, .int .i64 y.alts, .int .i64 y.inn, .int .i64 y.alt, .slice a n c] ∧ RdZ w (.slice a n c) y.after ∧ y.name.length ≤ maxLen ∧ y.undo.length ≤ maxLen ∧ y.after.length ≤ maxLen := by
  obtain ⟨xs, n', hn', _, hcl, hxl, hfs⟩ := DataW.trod_struct Tryz.underlying34 h
  rw [c43] at hcl
  have hx8 : xs.length = 8 := by simpa using hxl
  match cs, hcl with
  | [v0, v1, v2, v3, v4, v5, v6, v7], _ =>
    have g0 := hfs 0 _ rfl
    have g1 := hfs 1 _ rfl
    have g2 := hfs 2 _ rfl
    have g3 := hfs 3 _ rfl
    have g4 := hfs 4 _ rfl
    have g5 := hfs 5 _ rfl
    have g6 := hfs 6 _ rfl
    have g7 := hfs 7 _ rfl
    simp [Tryz.cells9', Tryz.cells4, c3, c41] at g0 g1 g2 g3 g4 g5 g6 g7
    rw [List.getElem?_eq_getElem (by omega)] at g0 g1 g2 g3 g4 g5 g6 g7
    obtain ⟨s0, e0, _, z0⟩ := DataW.trod_string Tryz.underlying9 g0
    obtain ⟨s1, e1, _, z1⟩ := DataW.trod_string Tryz.underlying9 g1
    obtain ⟨b2, e2, _⟩ := DataW.trod_bool Tryz.underlying4 g2
    obtain ⟨b3, e3, _⟩ := DataW.trod_bool Tryz.underlying4 g3
    obtain ⟨n4, e4, _, z4⟩ := DataW.trod_int Tryz.underlying3 g4
    obtain ⟨n5, e5, _, z5⟩ := DataW.trod_int Tryz.underlying3 g5
    obtain ⟨n6, e6, _, z6⟩ := DataW.trod_int Tryz.underlying3 g6
    obtain ⟨a7, m7, c7, l7, e7, h7, z7⟩ := open_ns g7
    simp only [List.cons.injEq, and_true] at e0 e1 e2 e3 e4 e5 e6 e7
    subst e0 e1 e2 e3 e4 e5 e6 e7
    refine ⟨⟨s0.data.toList, s1.data.toList, b2, b3, n4, n5, n6, l7⟩, a7, m7, c7, by rw [ba_list, ba_list], h7, ?_, ?_, z7⟩
    · show s0.data.toList.length ≤ maxLen; rw [Array.length_toList]; exact z0
    · show s1.data.toList.length ≤ maxLen; rw [Array.length_toList]; exact z1

instance : Inhabited (It × Option Addr × Nat × Nat) := ⟨(⟨[], [], false, false, 0, 0, 0, []⟩, none, 0, 0)⟩

set_option maxRecDepth 1000000 in
theorem open_items {fuel : Nat} {cs : List Value} {x : DataW H × List MemPlace} (h : DataW.trod enc Tryz.prog w base spare held fuel 22 cs = some x) :
    ∃ a n c its, cs = [.slice a n c] ∧ RdIt w (.slice a n c) its ∧ its.length ≤ maxLen ∧ ∀ y ∈ its, y.name.length ≤ maxLen ∧ y.undo.length ≤ maxLen ∧ y.after.length ≤ maxLen := by
  rcases Go.Deep.open_slice Tryz.underlying22 h with ⟨hcs, _⟩ | ⟨ad, len, cap, m, n, D, Pl, hcs, hb, hl, hm, hmm, rfl, hx⟩
  · exact ⟨none, 0, 0, [], hcs, ⟨none, 0, rfl, Nat.le_refl _, fun i x hx => by simp at hx⟩, by simp, fun y hy => by cases hy⟩
  · have hlm : len ≤ m := by rw [hmm]; split <;> omega
    have each : ∀ i, i < len → ∃ t : It × Option Addr × Nat × Nat, (∀ q, q < 8 → w.cell? (ad.add (i * 8 + q)) = ([.string ⟨t.1.name.toArray⟩, .string ⟨t.1.undo.toArray⟩, .bool t.1.sub, .bool t.1.vital, .int .i64 t.1.alts, .int .i64 t.1.inn, .int .i64 t.1.alt, .slice t.2.1 t.2.2.1 t.2.2.2] : List Value)[q]?) ∧ RdZ w (.slice t.2.1 t.2.2.1 t.2.2.2) t.1.after ∧ t.1.name.length ≤ maxLen ∧ t.1.undo.length ≤ maxLen ∧ t.1.after.length ≤ maxLen := by
      intro i hi
      obtain ⟨cs', h1, h2⟩ := hx i (by omega)
      rw [c43] at h1
      obtain ⟨_, hlen, hcell⟩ := World.cells?_some h1
      obtain ⟨y, a, n, c, rfl, q1, q2, q3, q4⟩ := open_item h2
      refine ⟨(y, a, n, c), fun q hq => ?_, q1, q2, q3, q4⟩
      have := hcell q (by omega)
      rwa [Go.Deep.add_add] at this
    obtain ⟨q, hq⟩ := Go.Deep.choose_lt each
    refine ⟨some ad, len, cap, (List.range len).map fun i => (q i).1, hcs, ⟨some ad, cap, by simp, by simpa using hl, fun i t hi => ?_⟩, by simp; omega, fun t ht => ?_⟩
    · have hil : i < len := by have := (List.getElem?_eq_some_iff.1 hi).1; simpa using this
      have ht : t = (q i).1 := by simp [hil] at hi; exact hi.symm
      subst ht
      obtain ⟨b, off, spot⟩ := ad
      have hspot : spot = none := by
        have := (hq 0 (by omega)).1 0 (by omega)
        simpa [Addr.add] using World.cell?_spot this
      subst hspot
      obtain ⟨k, r, _⟩ := hq i hil
      have k2 : ∀ j, j < 8 → w.cell? ⟨b, off + i * 8 + j, none⟩ = ([.string ⟨(q i).1.name.toArray⟩, .string ⟨(q i).1.undo.toArray⟩, .bool (q i).1.sub, .bool (q i).1.vital, .int .i64 (q i).1.alts, .int .i64 (q i).1.inn, .int .i64 (q i).1.alt, .slice (q i).2.1 (q i).2.2.1 (q i).2.2.2] : List Value)[j]? := fun j hj => by
        have := k j hj
        rwa [add_plain, ← Nat.add_assoc] at this
      exact ⟨b, off, _, _, _, rfl, k2 0 (by omega), k2 1 (by omega), k2 2 (by omega), k2 3 (by omega), k2 4 (by omega), k2 5 (by omega), k2 6 (by omega), k2 7 (by omega), r⟩
    · obtain ⟨i, hi, rfl⟩ := List.mem_map.1 ht
      exact (hq i (by simpa using hi)).2.2

set_option maxRecDepth 1000000 in
theorem open_plan {fuel : Nat} {cs : List Value} {x : DataW H × List MemPlace} (h : DataW.trod enc Tryz.prog w base spare held fuel 24 cs = some x) :
    ∃ a n c its, cs = [.slice a n c] ∧ RdIt w (.slice a n c) its ∧ its.length ≤ maxLen ∧ ∀ y ∈ its, y.name.length ≤ maxLen ∧ y.undo.length ≤ maxLen ∧ y.after.length ≤ maxLen := by
  obtain ⟨xs, n', _, _, hcl, hxl, hfs⟩ := DataW.trod_struct Tryz.underlying24 h
  rw [c27] at hcl
  have hx1 : xs.length = 1 := by simpa using hxl
  match cs, hcl with
  | [v0], _ =>
    have g0 := hfs 0 _ rfl
    simp [c25] at g0
    rw [List.getElem?_eq_getElem (by omega)] at g0
    exact open_items g0

end Go.Proofs.YtlegmmhacnbnlaaGreatDoor

