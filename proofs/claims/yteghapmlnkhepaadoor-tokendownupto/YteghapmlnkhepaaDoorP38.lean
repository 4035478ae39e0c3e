/- Texts of the seat, packed: Cj Cl Yx Ua. -/
import Derived.Test.YteghapmlnkhepaaDoorP37
import Derived.Test.YteghapmlnkhepaaDoorP12
import Derived.Test.YteghapmlnkhepaaDoorP35
import Derived.Test.YteghapmlnkhepaaDoorP07
import Derived.Test.YteghapmlnkhepaaDoorRows
import Derived.Deep.SlicePairs
import Derived.Deep.Strs
import Derived.LaidHandle
import Derived.LaidLaws
import Derived.LaidMore
import Derived.OpenShut
import Derived.ProofKit
import Derived.ShutString
import Derived.Stop.Joined
/- The laws' lives. -/
namespace Go.Proofs.YteghapmlnkhepaaDoor.Tk
open Go.RowKit Go.Shelf Go.Proofs.YteghapmlnkhepaaDoor.St Go.Proofs.YteghapmlnkhepaaDoor.Sx
set_option maxRecDepth 1000000
set_option linter.unusedVariables false

variable {n0 : Nat} {w w' : World} {tb : Nat} {sv : Value} {bs : List Nat} {its : List It} {p : Pl} {L : List (Nat × Nat)} {C : Nat → Bool} {S : Nat → Prop}

theorem toks_few (hI : Itm its p) : (toks p).length ≤ 1000 := (std_of hI).few

theorem Of_tok (h : TT n0 w tb sv bs its p (toks p) C S) (hI : Itm its p) (i : Int) :
    Calls Tryd.prog 13 #[.pointer (some ⟨tb, 0, none⟩), .int .i64 i] w fun e w' => e = .returned (.int .i64 (ofV p i : Int)) ∧ Below w.heap.size w w' := by
  have M := Of_any h (toks_few hI) hI.len i
  rw [toks_eq, of_find hI p.n 0 (Nat.le_refl _) (fun _ => rfl) i (.inr rfl)] at M
  exact M
theorem In_tok (h : TT n0 w tb sv bs its p (toks p) C S) (hI : Itm its p) (s a : Int) :
    Calls Tryd.prog 12 #[.pointer (some ⟨tb, 0, none⟩), .int .i64 s, .int .i64 a] w fun e w' => e = .returned (.int .i64 (inV p s a : Int)) ∧ Below w.heap.size w w' := by
  have M := In_any h (toks_few hI) s a
  rw [in_find] at M
  exact M
/-- What is kept of a world by a call that turns tokens alone. -/
theorem TT.kpb (h : TT n0 w tb sv bs its p L C S) (hk : Kp (fun b => b ∈ bs) w w') : Below n0 w w' :=
  hk.below (Nat.le_of_lt (Nat.lt_of_le_of_lt h.ge (row_lt h.box))) (fun k hm => h.geb k hm)

/-- What lives knows. -/
structure LvS (w : World) (n0 tb : Nat) (sv : Value) (bs : List Nat) (C : Nat → Bool) (S : Nat → Prop) (W : World) : Prop where
  t : TT n0 W tb sv bs iTh (plOf iTh) (toks (plOf iTh)) C S
  b : Below w.heap.size w W
theorem LvS.later {n0 tb : Nat} {sv : Value} {bs : List Nat} {C : Nat → Bool} {S : Nat → Prop} {W W' : World} (h : LvS w n0 tb sv bs C S W) (hb : Below W.heap.size W W') : LvS w n0 tb sv bs C S W' :=
  ⟨h.t.later hb, h.b.trans (hb.mono h.b.size)⟩

set_option maxHeartbeats 8000000 in
theorem lives_any (w : World) (hT : Dg.Tab w) : Calls Tryd.prog 7 #[] w fun e w' => e = .returned (.bool true) ∧ Below w.heap.size w w' := by
  have HT : Hid (Dg.Tab w) := hT
  have HI : Hid (Itm iTh (plOf iTh)) := itm_of saga_th
  have HM : Hid _ := three_any w hT
  clear hT
  go_enter Tryd.func7, Tryd.ntmps7
  go_wp2_with fail
  refine Calls.mono HM.out ?_
  rintro e w1 ⟨hb1, v, rfl, hv⟩
  have HB1 : Hid _ := hb1
  have HN : Hid _ := New_any iTh v w1 hv fairI_th (Dg.Tab.later HT.out hb1)
  clear HM hb1 hv HT
  go_wp2_with fail
  refine Calls.mono HN.out ?_
  rintro e w2 hN
  unfold NewC at hN
  rw [saga_th] at hN
  obtain ⟨hb2, n0, tb, sv, bs, S, rfl, hn0, hTT, _⟩ := hN
  have HL2 : Hid (LvS w n0 tb sv bs (fun _ => false) S w2) := ⟨hTT, HB1.out.trans (hb2.mono HB1.out.size)⟩
  have HN0 : Hid (w.heap.size ≤ n0) := Nat.le_trans HB1.out.size hn0
  have HO4 : Hid (Calls Tryd.prog 13 #[.pointer (some ⟨tb, 0, none⟩), .int .i64 4] w2 fun e w' => e = .returned (.int .i64 3) ∧ Below w2.heap.size w2 w') := by
    have M := Of_tok hTT HI.out 4
    rw [of_th4] at M
    exact M
  clear HN HB1 hb2 hn0 hTT
  go_wp2_with fail
  refine Calls.mono HO4.out ?_
  rintro e w3 ⟨rfl, hb3⟩
  have HL3 : Hid _ := HL2.out.later hb3
  have HO1 : Hid (Calls Tryd.prog 13 #[.pointer (some ⟨tb, 0, none⟩), .int .i64 1] w3 fun e w' => e = .returned (.int .i64 1) ∧ Below w3.heap.size w3 w') := by
    have M := Of_tok HL3.out.t HI.out 1
    rw [of_th1] at M
    exact M
  clear HO4 HL2 hb3
  go_wp2_with fail
  refine Calls.mono HO1.out ?_
  rintro e w4 ⟨rfl, hb4⟩
  have HL4 : Hid _ := HL3.out.later hb4
  have HI1 : Hid (Calls Tryd.prog 12 #[.pointer (some ⟨tb, 0, none⟩), .int .i64 0, .int .i64 1] w4 fun e w' => e = .returned (.int .i64 2) ∧ Below w4.heap.size w4 w') := by
    have M := In_tok HL4.out.t HI.out 0 1
    rw [in_th] at M
    exact M
  clear HO1 HL3 hb4
  go_wp2_with fail
  refine Calls.mono HI1.out ?_
  rintro e w5 ⟨rfl, hb5⟩
  have HL5 : Hid _ := HL4.out.later hb5
  have HC : Hid (Calls Tryd.prog 9 #[.pointer (some ⟨tb, 0, none⟩), .int .i64 2] w5 fun e w' => e = .returned (.int .i64 2) ∧ LvS w n0 tb sv bs (put (fun _ => false) 2) S w') := by
    have M := Cancel_any HL5.out.t (std_of HI.out) 2
    rw [put_th, live_th0, live_th1] at M
    refine Calls.mono M ?_
    rintro e w' ⟨he, ht, hk⟩
    exact ⟨he, ht, HL5.out.b.trans ((HL5.out.t.kpb hk).mono HN0.out)⟩
  clear HI1 HL4 hb5
  go_wp2_with fail
  refine Calls.mono HC.out ?_
  rintro e w6 ⟨rfl, hl6⟩
  have HL6 : Hid _ := hl6
  have HV : Hid (Calls Tryd.prog 10 #[.pointer (some ⟨tb, 0, none⟩)] w6 fun e w' => Below w6.heap.size w6 w' ∧ ∃ a c, e = .returned (.slice a 1 c) ∧ Dg.RdI w' (.slice a 1 c) [1]) := by
    have M := Live_rd HL6.out.t (std_of HI.out)
    rw [live_th1] at M
    refine Calls.mono M ?_
    rintro e w' ⟨hb, v, rfl, hr, _⟩
    obtain ⟨a, c, rfl, h⟩ := id hr
    exact ⟨hb, a, c, rfl, hr⟩
  clear HC HL5 hl6
  go_wp2_with fail
  refine Calls.mono HV.out ?_
  rintro e w7 ⟨hb7, a, c, rfl, hr7⟩
  have hbA := bl1 w7 (.cells #[.int .i64 1] 3)
  have HL8 : Hid _ := (HL6.out.later hb7).later hbA
  have HS : Hid (Calls Tryd.prog 15 #[.slice a 1 c, .slice (some ⟨w7.heap.size, 0, none⟩) 1 1] (w7.alloc (.cells #[.int .i64 1] 3)) fun e w' => e = .returned (.bool true) ∧ Below (w7.alloc (.cells #[.int .i64 1] 3)).heap.size (w7.alloc (.cells #[.int .i64 1] 3)) w') := by
    have M := Dg.sameI_any [1] [1] (.slice a 1 c) (.slice (some ⟨w7.heap.size, 0, none⟩) 1 1) (w7.alloc (.cells #[.int .i64 1] 3)) (hr7.later hbA) (RdI.new w7 [1] #[.int .i64 1] rfl) (by decide) (by decide)
    exact M
  clear HV HL6 hb7 hr7 hbA
  go_wp2_with fail
  refine Calls.mono HS.out ?_
  rintro e w9 ⟨rfl, hb9⟩
  have HL9 : Hid _ := HL8.out.later hb9
  have HF3 : Hid (Calls Tryd.prog 11 #[.pointer (some ⟨tb, 0, none⟩), .int .i64 3] w9 fun e w' => e = .returned (.bool true) ∧ w' = w9) := by
    have M := Off_any HL9.out.t (std_of HI.out) 3
    rw [off_th3] at M
    exact M
  have HF1 : Hid (Calls Tryd.prog 11 #[.pointer (some ⟨tb, 0, none⟩), .int .i64 1] w9 fun e w' => e = .returned (.bool false) ∧ w' = w9) := by
    have M := Off_any HL9.out.t (std_of HI.out) 1
    rw [off_th1] at M
    exact M
  clear HS HL8 hb9
  go_wp2_with fail
  refine Calls.mono HF3.out ?_
  rintro e wa ⟨rfl, rfl⟩
  clear HF3
  go_wp2_with fail
  refine Calls.mono HF1.out ?_
  rintro e wa ⟨rfl, rfl⟩
  clear HF1
  go_wp2_with fail
  go_ret
  exact ⟨rfl, HL9.out.b⟩
end Go.Proofs.YteghapmlnkhepaaDoor.Tk

/- TokenNil's walk. -/
namespace Go.Proofs.YteghapmlnkhepaaDoor.Tk
open Go.RowKit Go.Shelf Go.Proofs.YteghapmlnkhepaaDoor.St Go.Proofs.YteghapmlnkhepaaDoor.Sx
set_option maxRecDepth 1000000
set_option linter.unusedVariables false

/-- A tree that nothing made. -/
theorem tt_none (w : World) : TT w.heap.size (w.alloc (.cells #[.slice none 0 0] 47)) w.heap.size (.slice none 0 0) [] iTh (plOf iTh) [] (fun _ => false) (fun _ => False) :=
  ⟨Dg.row_new w _ 47, World.ownsRow_nil _ _ _ _, rfl, fun i x b h => by simp at h, fun i j b h => by simp at h, fun k h => h.elim, Nat.le_refl _, fun b h => by simp at h⟩
theorem std_none : Std (plOf iTh) [] := ⟨(itm_of saga_th).ok, by simp, fun i x h => by simp at h, fun i x h => by simp at h⟩

/-- What a tree without tokens answers. -/
structure NoT (t : Value) (w : World) : Prop where
  of : ∀ k, Calls Tryd.prog 13 #[t, .int .i64 k] w fun e w' => e = .returned (.int .i64 0) ∧ Below w.heap.size w w'
  inn : ∀ s a, Calls Tryd.prog 12 #[t, .int .i64 s, .int .i64 a] w fun e w' => e = .returned (.int .i64 0) ∧ Below w.heap.size w w'
  cancel : ∀ k, Calls Tryd.prog 9 #[t, .int .i64 k] w fun e w' => e = .returned (.int .i64 0) ∧ Below w.heap.size w w'
  off : ∀ k, Calls Tryd.prog 11 #[t, .int .i64 k] w fun e w' => e = .returned (.bool true) ∧ Below w.heap.size w w'
  live : Calls Tryd.prog 10 #[t] w fun e w' => (∃ a c, e = .returned (.slice a 0 c)) ∧ Below w.heap.size w w'

theorem not_nil (w : World) : NoT (.pointer none) w where
  of := fun k => Of_nil k w
  inn := fun s a => In_nil s a w
  cancel := fun k => Calls.mono (Cancel_nil k w) (by rintro e w' ⟨rfl, rfl⟩; exact ⟨rfl, Below.refl _ _⟩)
  off := fun k => Calls.mono (Off_nil k w) (by rintro e w' ⟨rfl, rfl⟩; exact ⟨rfl, Below.refl _ _⟩)
  live := Calls.mono (Live_nil w) (by rintro e w' ⟨rfl, rfl⟩; exact ⟨⟨_, _, rfl⟩, Below.refl _ _⟩)

theorem putZ_none (C : Nat → Bool) (k : Int) : putZ 0 C k = C := by
  unfold putZ
  rw [if_neg (by omega)]

theorem not_tt {n0 tb : Nat} {S : Nat → Prop} {w : World} (h : TT n0 w tb (.slice none 0 0) [] iTh (plOf iTh) [] (fun _ => false) S) : NoT (.pointer (some ⟨tb, 0, none⟩)) w where
  of := fun k => Of_any h (by simp) (by decide) k
  inn := fun s a => In_any h (by simp) s a
  cancel := fun k => Calls.mono (Cancel_any h std_none k) (by
    rintro e w' ⟨he, ht, hk⟩
    refine ⟨he, hk.below (Nat.le_refl _) (fun b hb => by simp at hb)⟩)
  off := fun k => Calls.mono (Off_any h std_none k) (by
    rintro e w' ⟨he, rfl⟩
    refine ⟨he.trans ?_, Below.refl _ _⟩
    unfold offZ
    rw [if_neg (by simp; omega)])
  live := Calls.mono (Live_any h std_none) (by
    rintro e w' ⟨hb, v, he, ho⟩
    obtain ⟨a, c, rfl⟩ := own_slice ho
    exact ⟨⟨a, c, he⟩, hb⟩)

set_option maxHeartbeats 4000000 in
theorem nil_walk (k : Int) (made : Bool) (w : World) (hT : Dg.Tab w) :
    Calls Tryd.prog 5 #[.int .i64 k, .bool made] w fun e w' => e = .returned (.bool true) ∧ Below w.heap.size w w' := by
  have HT : Hid (Dg.Tab w) := hT
  clear hT
  obtain ⟨tv, w1, HNT, HB1, HW⟩ : ∃ tv w1, Hid (∀ wx, Below w1.heap.size w1 wx → NoT tv wx) ∧ Hid (Below w.heap.size w w1) ∧ Hid (tv = (if made then .pointer (some ⟨w.heap.size, 0, none⟩) else .pointer none) ∧ w1 = (if made then w.alloc (.cells #[.slice none 0 0] 47) else w)) := by
    cases made with
    | false => exact ⟨_, _, fun wx _ => not_nil wx, Below.refl _ _, rfl, rfl⟩
    | true => exact ⟨_, _, fun wx hb => not_tt (TT.later (tt_none w) hb), bl1 _ _, rfl, rfl⟩
  have key : ∀ wx, Below w1.heap.size w1 wx → Hid (Below w.heap.size w wx) := fun wx hb => HB1.out.trans (hb.mono HB1.out.size)
  have step : ∀ wx wy, Below w1.heap.size w1 wx → Below wx.heap.size wx wy → Below w1.heap.size w1 wy := fun wx wy h k => h.trans (k.mono h.size)
  have HST : Hid _ := step
  have HKY : Hid _ := key
  clear step key
  cases made with
  | false =>
    obtain ⟨htv, hw1⟩ := HW.out
    have htv2 : tv = .pointer none := htv
    have hw2 : w1 = w := hw1
    subst htv2 hw2
    clear HW htv hw1 HB1
    have HO : Hid _ := (HNT.out w1 (Below.refl _ _)).of k
    go_enter Tryd.func5, Tryd.ntmps5
    go_wp2_with fail
    refine Calls.mono HO.out ?_
    rintro e w2 ⟨rfl, hb⟩
    have HB2 : Hid _ := hb
    have HI : Hid _ := (HNT.out w2 HB2.out).inn k 0
    clear HO hb
    go_wp2_with fail
    refine Calls.mono HI.out ?_
    rintro e w3 ⟨rfl, hb⟩
    have HB3 : Hid _ := HST.out _ _ HB2.out hb
    have HC : Hid _ := (HNT.out w3 HB3.out).cancel k
    clear HI hb HB2
    go_wp2_with fail
    refine Calls.mono HC.out ?_
    rintro e w4 ⟨rfl, hb⟩
    have HB4 : Hid _ := HST.out _ _ HB3.out hb
    have HF : Hid _ := (HNT.out w4 HB4.out).off k
    clear HC hb HB3
    go_wp2_with fail
    refine Calls.mono HF.out ?_
    rintro e w5 ⟨rfl, hb⟩
    have HB5 : Hid _ := HST.out _ _ HB4.out hb
    have HL : Hid _ := (HNT.out w5 HB5.out).live
    clear HF hb HB4
    go_wp2_with fail
    refine Calls.mono HL.out ?_
    rintro e w6 ⟨⟨a, c, rfl⟩, hb⟩
    have HB6 : Hid _ := HST.out _ _ HB5.out hb
    have HLV : Hid _ := lives_any w6 (Dg.Tab.later HT.out (HKY.out _ HB6.out).out)
    clear HL hb HB5
    go_wp2_with fail
    refine Calls.mono HLV.out ?_
    rintro e w7 ⟨rfl, hb⟩
    have HB7 : Hid _ := HST.out _ _ HB6.out hb
    clear HLV hb HB6
    go_wp2_with fail
    go_ret
    exact ⟨rfl, (HKY.out _ HB7.out).out⟩
  | true =>
    obtain ⟨htv, hw1⟩ := HW.out
    have htv2 : tv = .pointer (some ⟨w.heap.size, 0, none⟩) := htv
    have HW1 : Hid (w1 = w.alloc (.cells #[.slice none 0 0] 47)) := hw1
    subst htv2
    clear HW htv hw1 HB1
    have HO : Hid _ := (HNT.out w1 (Below.refl _ _)).of k
    rw [HW1.out] at HO
    go_enter Tryd.func5, Tryd.ntmps5
    go_wp2_with fail
    refine Calls.mono HO.out ?_
    rintro e w2 ⟨rfl, hb⟩
    rw [← HW1.out] at hb
    have HB2 : Hid _ := hb
    have HI : Hid _ := (HNT.out w2 HB2.out).inn k 0
    clear HO hb
    go_wp2_with fail
    refine Calls.mono HI.out ?_
    rintro e w3 ⟨rfl, hb⟩
    have HB3 : Hid _ := HST.out _ _ HB2.out hb
    have HC : Hid _ := (HNT.out w3 HB3.out).cancel k
    clear HI hb HB2
    go_wp2_with fail
    refine Calls.mono HC.out ?_
    rintro e w4 ⟨rfl, hb⟩
    have HB4 : Hid _ := HST.out _ _ HB3.out hb
    have HF : Hid _ := (HNT.out w4 HB4.out).off k
    clear HC hb HB3
    go_wp2_with fail
    refine Calls.mono HF.out ?_
    rintro e w5 ⟨rfl, hb⟩
    have HB5 : Hid _ := HST.out _ _ HB4.out hb
    have HL : Hid _ := (HNT.out w5 HB5.out).live
    clear HF hb HB4
    go_wp2_with fail
    refine Calls.mono HL.out ?_
    rintro e w6 ⟨⟨a, c, rfl⟩, hb⟩
    have HB6 : Hid _ := HST.out _ _ HB5.out hb
    have HLV : Hid _ := lives_any w6 (Dg.Tab.later HT.out (HKY.out _ HB6.out).out)
    clear HL hb HB5
    go_wp2_with fail
    refine Calls.mono HLV.out ?_
    rintro e w7 ⟨rfl, hb⟩
    have HB7 : Hid _ := HST.out _ _ HB6.out hb
    clear HLV hb HB6
    go_wp2_with fail
    go_ret
    exact ⟨rfl, (HKY.out _ HB7.out).out⟩
end Go.Proofs.YteghapmlnkhepaaDoor.Tk

/- The walk over the laws' lives. -/
namespace Go.Proofs.YteghapmlnkhepaaDoor

open Go.RowKit Go.Shelf Go.Proofs.YteghapmlnkhepaaDoor.Sx

set_option linter.unusedVariables false

theorem four (w : World) (o0 o1 o2 o3 : Obj) :
    let W := (((w.alloc o0).alloc o1).alloc o2).alloc o3
    W.heap[w.heap.size]? = some o0 ∧ W.heap[w.heap.size + 1]? = some o1 ∧ W.heap[w.heap.size + 1 + 1]? = some o2 ∧ W.heap[w.heap.size + 1 + 1 + 1]? = some o3 ∧ Below w.heap.size w W := by
  refine ⟨?_, ?_, ?_, ?_, ?_⟩
  · exact old1 (old1 (old1 (new1 w o0 _ rfl) _) _) _
  · exact old1 (old1 (new1 _ o1 _ (by simp)) _) _
  · exact old1 (new1 _ o2 _ (by simp)) _
  · exact new1 _ o3 _ (by simp)
  · exact (((((Below.refl _ w).alloc (Nat.le_refl _) _).alloc (by simp) _).alloc (by simp; omega) _).alloc (by simp; omega) _)

end Go.Proofs.YteghapmlnkhepaaDoor

/- The laid table; plans that came in. -/
namespace Go.Proofs.YteghapmlnkhepaaDoor

open Go.ChangeShapes Go.WideShapes Go.ChangeAt Go.RowKit Go.Shelf Go.Proofs.YteghapmlnkhepaaDoor.Sx

theorem own : ownKnob Tryd.prog.godebug = none := by kernel_rfl

theorem gTab : Tryd.prog.globalNamed "math/bits.deBruijn64tab" = some 0 := by kernel_rfl

theorem tTab : (Tryd.prog.globals[0]?).map (·.type) = some 140 := by kernel_rfl

theorem uTab : Tryd.prog.underlying 140 = some (.array 64 5) := by kernel_rfl

theorem u5 : Tryd.prog.underlying 5 = some (.int .u8) := by kernel_rfl

theorem c5 : Tryd.prog.cellsOf 5 = 1 := by kernel_rfl

theorem c3 : Tryd.prog.cellsOf 3 = 1 := by kernel_rfl

theorem door_met (os : Os) (args : Array Value) : laidMetH Tryd.prog [("math/bits.deBruijn64tab", Rows.laid_math_bits_deBruijn64tab)] ((World.doorLaid Tryd.prog 400 os).forCall (fun _ _ => 0) ⟨#[], args, []⟩).memory :=
  laidMetH_of_parts3 (fuel := 8) (laidMet_of_run' 8 (by kernel_rfl) (by kernel_rfl)) (by kernel_rfl) (by kernel_rfl)

theorem tab_form : (Rows.laid_math_bits_deBruijn64tab : DataW Unit) = .agg (Lib.deBruijn64tab.map fun (n : Nat) => .lit (.int .u8 (n : Int))) := rfl

theorem tab_of_laid {W : World} (h : laidMetH Tryd.prog [("math/bits.deBruijn64tab", Rows.laid_math_bits_deBruijn64tab)] W) : Dg.Tab W := by
  rw [MakeChecks.laidMetH_plain _ _ _ (by kernel_rfl)] at h
  obtain ⟨ps, ⟨g0, t0, cs0, f0, p0, q0, hg0, ht0, hv0, hd0, _, _⟩, _, _⟩ := h
  obtain rfl := Option.some.inj (gTab.symm.trans hg0)
  obtain rfl := Option.some.inj (tTab.symm.trans ht0)
  obtain ⟨xs, m1, rfl, hx1, hlen, hn, hel⟩ := DataW.trod_array uTab hd0
  rw [tab_form] at hx1
  simp only [Prod.mk.injEq, DataW.agg.injEq] at hx1
  have htl : Lib.deBruijn64tab.length = 64 := rfl
  intro j hj
  rw [htl] at hj
  obtain ⟨x, hx⟩ : ∃ x, xs[j]? = some x := ⟨_, List.getElem?_eq_getElem (by omega)⟩
  have h1 := hel j hj
  rw [hx, c5] at h1
  obtain ⟨k, e1, e2, _⟩ := DataW.trod_int u5 h1
  have h2 := congrArg (fun l => l[j]?) hx1.1
  simp only [List.getElem?_map, hx, Option.map_some] at h2
  have h3 : Lib.deBruijn64tab[j]? = some (Lib.deBruijn64tab.getD j 0) := by rw [List.getD_eq_getElem?_getD, List.getElem?_eq_getElem (by omega)]; rfl
  rw [h3, e2] at h2
  simp only [Option.map_some, Option.some.injEq, DataW.lit.injEq, Lit.int.injEq, true_and] at h2
  rw [World.var?_cell hg0 hv0 j, ← Array.getElem?_toList, h2]
  have h4 := congrArg (fun l => l[0]?) e1
  simp only [Nat.mul_one] at h4
  rw [List.getElem?_take_of_lt (by omega), List.getElem?_drop] at h4
  simpa using h4

variable {H : Type} {enc : TypeId × Value → H} {w : World} {base : Nat} {spare : Nat → Bool} {held : Bool}

instance : Inhabited (It × Option Addr × Nat × Nat) := ⟨(⟨[], [], false, false, 0, 0, 0, []⟩, none, 0, 0)⟩

end Go.Proofs.YteghapmlnkhepaaDoor

