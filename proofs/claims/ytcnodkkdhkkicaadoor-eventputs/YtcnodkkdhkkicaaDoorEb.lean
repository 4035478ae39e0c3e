/- The walks over putHead and Bytes. -/
import Derived.Test.YtcnodkkdhkkicaaDoorEa
namespace Go.Proofs.YtcnodkkdhkkicaaDoor
open Go.RowKit
set_option linter.unusedVariables false

/-- An event's cells in a block of the call's own. -/
def Box (w : World) (b : Nat) (k i t : Int) (sv : Value) : Prop := w.heap[b]? = some (.cells #[.int .i64 k, .int .i64 i, .int .i64 t, sv] 25 (0, 0))

theorem Box.new (w : World) (k i t : Int) (sv : Value) : Box (w.alloc (.cells #[.int .i64 k, .int .i64 i, .int .i64 t, sv] 25)) w.heap.size k i t sv := by
  show (w.heap.push _)[w.heap.size]? = _
  simp
theorem Box.lt {w : World} {b : Nat} {k i t : Int} {sv : Value} (h : Box w b k i t sv) : b < w.heap.size := (Array.getElem?_eq_some_iff.1 h).1
theorem Box.later {w w' : World} {b : Nat} {k i t : Int} {sv : Value} (h : Box w b k i t sv) (hb : Below w.heap.size w w') : Box w' b k i t sv := (hb.block b h.lt).trans h
theorem Box.alloc {w : World} {b : Nat} {k i t : Int} {sv : Value} (h : Box w b k i t sv) (o : Obj) : Box (w.alloc o) b k i t sv := h.later ((Below.refl _ _).alloc (Nat.le_refl _) _)
theorem Box.c0 {w : World} {b : Nat} {k i t : Int} {sv : Value} (h : Box w b k i t sv) : w.cell? ⟨b, 0, none⟩ = some (.int .i64 k) := cell_row h 0
theorem Box.c1 {w : World} {b : Nat} {k i t : Int} {sv : Value} (h : Box w b k i t sv) : w.cell? ⟨b, 1, none⟩ = some (.int .i64 i) := cell_row h 1
theorem Box.c2 {w : World} {b : Nat} {k i t : Int} {sv : Value} (h : Box w b k i t sv) : w.cell? ⟨b, 2, none⟩ = some (.int .i64 t) := cell_row h 2
theorem Box.c3 {w : World} {b : Nat} {k i t : Int} {sv : Value} (h : Box w b k i t sv) : w.cell? ⟨b, 3, none⟩ = some sv := cell_row h 3
theorem Box.f (n : Nat) {w : World} {b : Nat} {k i t : Int} {sv : Value} (h : Box w b k i t sv) : w.frozen? ⟨b, n, none⟩ = false := froz_row h n

theorem put_yes (x : Value) (a : List UInt8) (n : Int) (w : World) (hx : RB w x a) (ha : a.length ≤ 90000) (h0 : 0 ≤ n) (h1 : n ≤ 1099511627776) (L : List UInt8) (hL : L = a ++ oneP n.toNat) :
    Calls Tryd.prog 36 #[x, .int .i64 n] w fun e w' => ∃ v c, e = .returned (.tuple #[.slice v L.length c, .int .i64 0]) ∧ RB w' (.slice v L.length c) L ∧ Below w.heap.size w w' := by
  subst hL
  have h := put_any x a n w hx ha
  unfold putR putE at h
  have hn : isN n = true := decide_eq_true ⟨h0, h1⟩
  rw [if_pos hn, if_pos hn] at h
  exact h

theorem one_slot (w : World) (o : Obj) (n : Nat) (x : UInt8) (c : Int) (hc : Value.int .u8 c = .int .u8 (x.toNat : Nat)) : RB ((w.alloc o).alloc (.cells #[.int .u8 c] 5)) (.slice (some ⟨w.heap.size + 1, 0, none⟩) 1 1) [x] := by
  have h := RB.new (w.alloc o) [x] #[.int .u8 c] 5 (by rw [hc]; rfl) (by simp)
  have e : (w.alloc o).heap.size = w.heap.size + 1 := by simp
  rw [e] at h
  exact h

set_option maxRecDepth 1000000 in
set_option maxHeartbeats 4000000 in
theorem putHead_1 (i t : Int) (sv : Value) (w : World) (h1 : 0 ≤ i ∧ i ≤ 1099511627776) (h2 : 0 ≤ t ∧ t ≤ 1099511627776) (A : List UInt8) (hA : A = [1] ++ oneP i.toNat) :
    Calls Tryd.prog 21 #[.agg #[.int .i64 1, .int .i64 i, .int .i64 t, sv]] w fun x w' => ∃ v c, x = .returned (.tuple #[.slice v A.length c, .int .i64 0]) ∧ RB w' (.slice v A.length c) A ∧ Below w.heap.size w w' := by
  have H1 : Hid _ := h1
  have H2 : Hid _ := h2
  have HA : Hid _ := hA
  clear h1 h2 hA
  have HX : Hid (Below w.heap.size w ((w.alloc (.cells #[.int .i64 1, .int .i64 i, .int .i64 t, sv] 25)).alloc (.cells #[.int .u8 1] 5))) := ((Below.refl _ _).alloc (Nat.le_refl _) _).alloc (by simp) _
  have HBX : Hid (Box ((w.alloc (.cells #[.int .i64 1, .int .i64 i, .int .i64 t, sv] 25)).alloc (.cells #[.int .u8 1] 5)) w.heap.size 1 i t sv) := (Box.new w 1 i t sv).alloc _
  have HR0 : Hid _ := one_slot w (.cells #[.int .i64 1, .int .i64 i, .int .i64 t, sv] 25) 0 1 1 rfl
  have HS : Hid (∀ w : World, Calls Tryd.prog 26 #[.int .i64 1] w fun e w' => e = .returned (.iface 74 (.agg #[.string ⟨(wordP 1).toArray⟩])) ∧ w' = w) := fun w => sortOf_any 1 w
  have q1 := as_74_70 (.agg #[.string ⟨(wordP 1).toArray⟩])
  generalize wordP 1 = W at *
  go_enter Tryd.func21, Tryd.ntmps21
  go_wp2_with fail
  refine Calls.mono (put_yes _ [1] i _ HR0.out (by simp) H1.out.1 H1.out.2 A HA.out) ?_
  rintro e w1 ⟨v1, c1, rfl, hr1, hb1⟩
  have HR1 : Hid _ := hr1
  have HBX1 : Hid (Box w1 w.heap.size 1 i t sv) := HBX.out.later hb1
  have HB1 : Hid (Below w.heap.size w w1) := HX.out.trans (hb1.mono (by simp <;> omega))
  have d0 := HBX1.out.c0
  have d2 : ∀ o, (w1.alloc o).cell? ⟨w.heap.size, 2, none⟩ = some (.int .i64 t) := fun o => (HBX1.out.alloc o).c2
  clear hr1 hb1 HBX HX HR0
  go_wp2_with fail
  refine Calls.mono (HS.out _) ?_
  rintro e w2 ⟨rfl, h2⟩
  obtain rfl := h2.symm
  clear h2 HS
  go_wp2_with fail
  go_ret2
  refine ⟨_, _, rfl, RB.later HR1.out ((Below.refl _ _).alloc (Nat.le_refl _) _), HB1.out.alloc HB1.out.size _⟩


set_option maxRecDepth 1000000 in
set_option maxHeartbeats 4000000 in
theorem putHead_2 (i t : Int) (sv : Value) (w : World) (h1 : 0 ≤ i ∧ i ≤ 1099511627776) (h2 : 0 ≤ t ∧ t ≤ 1099511627776) (A : List UInt8) (hA : A = [2] ++ oneP i.toNat) :
    Calls Tryd.prog 21 #[.agg #[.int .i64 2, .int .i64 i, .int .i64 t, sv]] w fun x w' => ∃ v c, x = .returned (.tuple #[.slice v A.length c, .int .i64 0]) ∧ RB w' (.slice v A.length c) A ∧ Below w.heap.size w w' := by
  have H1 : Hid _ := h1
  have H2 : Hid _ := h2
  have HA : Hid _ := hA
  clear h1 h2 hA
  have HX : Hid (Below w.heap.size w ((w.alloc (.cells #[.int .i64 2, .int .i64 i, .int .i64 t, sv] 25)).alloc (.cells #[.int .u8 2] 5))) := ((Below.refl _ _).alloc (Nat.le_refl _) _).alloc (by simp) _
  have HBX : Hid (Box ((w.alloc (.cells #[.int .i64 2, .int .i64 i, .int .i64 t, sv] 25)).alloc (.cells #[.int .u8 2] 5)) w.heap.size 2 i t sv) := (Box.new w 2 i t sv).alloc _
  have HR0 : Hid _ := one_slot w (.cells #[.int .i64 2, .int .i64 i, .int .i64 t, sv] 25) 0 2 2 rfl
  have HS : Hid (∀ w : World, Calls Tryd.prog 26 #[.int .i64 2] w fun e w' => e = .returned (.iface 74 (.agg #[.string ⟨(wordP 2).toArray⟩])) ∧ w' = w) := fun w => sortOf_any 2 w
  have q1 := as_74_70 (.agg #[.string ⟨(wordP 2).toArray⟩])
  generalize wordP 2 = W at *
  go_enter Tryd.func21, Tryd.ntmps21
  go_wp2_with fail
  refine Calls.mono (put_yes _ [2] i _ HR0.out (by simp) H1.out.1 H1.out.2 A HA.out) ?_
  rintro e w1 ⟨v1, c1, rfl, hr1, hb1⟩
  have HR1 : Hid _ := hr1
  have HBX1 : Hid (Box w1 w.heap.size 2 i t sv) := HBX.out.later hb1
  have HB1 : Hid (Below w.heap.size w w1) := HX.out.trans (hb1.mono (by simp <;> omega))
  have d0 := HBX1.out.c0
  have d2 : ∀ o, (w1.alloc o).cell? ⟨w.heap.size, 2, none⟩ = some (.int .i64 t) := fun o => (HBX1.out.alloc o).c2
  clear hr1 hb1 HBX HX HR0
  go_wp2_with fail
  refine Calls.mono (HS.out _) ?_
  rintro e w2 ⟨rfl, h2⟩
  obtain rfl := h2.symm
  clear h2 HS
  go_wp2_with fail
  go_ret2
  refine ⟨_, _, rfl, RB.later HR1.out ((Below.refl _ _).alloc (Nat.le_refl _) _), HB1.out.alloc HB1.out.size _⟩


set_option maxRecDepth 1000000 in
set_option maxHeartbeats 4000000 in
theorem putHead_3 (i t : Int) (sv : Value) (w : World) (h1 : 0 ≤ i ∧ i ≤ 1099511627776) (h2 : 0 ≤ t ∧ t ≤ 1099511627776) (A : List UInt8) (hA : A = [3] ++ oneP i.toNat) :
    Calls Tryd.prog 21 #[.agg #[.int .i64 3, .int .i64 i, .int .i64 t, sv]] w fun x w' => ∃ v c, x = .returned (.tuple #[.slice v A.length c, .int .i64 0]) ∧ RB w' (.slice v A.length c) A ∧ Below w.heap.size w w' := by
  have H1 : Hid _ := h1
  have H2 : Hid _ := h2
  have HA : Hid _ := hA
  clear h1 h2 hA
  have HX : Hid (Below w.heap.size w ((w.alloc (.cells #[.int .i64 3, .int .i64 i, .int .i64 t, sv] 25)).alloc (.cells #[.int .u8 3] 5))) := ((Below.refl _ _).alloc (Nat.le_refl _) _).alloc (by simp) _
  have HBX : Hid (Box ((w.alloc (.cells #[.int .i64 3, .int .i64 i, .int .i64 t, sv] 25)).alloc (.cells #[.int .u8 3] 5)) w.heap.size 3 i t sv) := (Box.new w 3 i t sv).alloc _
  have HR0 : Hid _ := one_slot w (.cells #[.int .i64 3, .int .i64 i, .int .i64 t, sv] 25) 0 3 3 rfl
  have HS : Hid (∀ w : World, Calls Tryd.prog 26 #[.int .i64 3] w fun e w' => e = .returned (.iface 74 (.agg #[.string ⟨(wordP 3).toArray⟩])) ∧ w' = w) := fun w => sortOf_any 3 w
  have q1 := as_74_70 (.agg #[.string ⟨(wordP 3).toArray⟩])
  generalize wordP 3 = W at *
  go_enter Tryd.func21, Tryd.ntmps21
  go_wp2_with fail
  refine Calls.mono (put_yes _ [3] i _ HR0.out (by simp) H1.out.1 H1.out.2 A HA.out) ?_
  rintro e w1 ⟨v1, c1, rfl, hr1, hb1⟩
  have HR1 : Hid _ := hr1
  have HBX1 : Hid (Box w1 w.heap.size 3 i t sv) := HBX.out.later hb1
  have HB1 : Hid (Below w.heap.size w w1) := HX.out.trans (hb1.mono (by simp <;> omega))
  have d0 := HBX1.out.c0
  have d2 : ∀ o, (w1.alloc o).cell? ⟨w.heap.size, 2, none⟩ = some (.int .i64 t) := fun o => (HBX1.out.alloc o).c2
  clear hr1 hb1 HBX HX HR0
  go_wp2_with fail
  refine Calls.mono (HS.out _) ?_
  rintro e w2 ⟨rfl, h2⟩
  obtain rfl := h2.symm
  clear h2 HS
  go_wp2_with fail
  go_ret2
  refine ⟨_, _, rfl, RB.later HR1.out ((Below.refl _ _).alloc (Nat.le_refl _) _), HB1.out.alloc HB1.out.size _⟩


set_option maxRecDepth 1000000 in
set_option maxHeartbeats 4000000 in
theorem putHead_4 (i t : Int) (sv : Value) (w : World) (h1 : 0 ≤ i ∧ i ≤ 1099511627776) (h2 : 0 ≤ t ∧ t ≤ 1099511627776) (A : List UInt8) (hA : A = [4] ++ oneP i.toNat) (D : List UInt8) (hD : D = A ++ oneP t.toNat) (hl : A.length ≤ 90000) :
    Calls Tryd.prog 21 #[.agg #[.int .i64 4, .int .i64 i, .int .i64 t, sv]] w fun x w' => ∃ v c, x = .returned (.tuple #[.slice v D.length c, .int .i64 0]) ∧ RB w' (.slice v D.length c) D ∧ Below w.heap.size w w' := by
  have H1 : Hid _ := h1
  have H2 : Hid _ := h2
  have HA : Hid _ := hA
  have HD : Hid _ := hD
  have HL : Hid _ := hl
  clear hD hl
  clear h1 h2 hA
  have HX : Hid (Below w.heap.size w ((w.alloc (.cells #[.int .i64 4, .int .i64 i, .int .i64 t, sv] 25)).alloc (.cells #[.int .u8 4] 5))) := ((Below.refl _ _).alloc (Nat.le_refl _) _).alloc (by simp) _
  have HBX : Hid (Box ((w.alloc (.cells #[.int .i64 4, .int .i64 i, .int .i64 t, sv] 25)).alloc (.cells #[.int .u8 4] 5)) w.heap.size 4 i t sv) := (Box.new w 4 i t sv).alloc _
  have HR0 : Hid _ := one_slot w (.cells #[.int .i64 4, .int .i64 i, .int .i64 t, sv] 25) 0 4 4 rfl
  have HS : Hid (∀ w : World, Calls Tryd.prog 26 #[.int .i64 4] w fun e w' => e = .returned (.iface 70 (.agg #[.string ⟨(wordP 4).toArray⟩])) ∧ w' = w) := fun w => sortOf_any 4 w
  have q1 := as_same 70 (.agg #[.string ⟨(wordP 4).toArray⟩]) (.inl rfl)
  generalize wordP 4 = W at *
  go_enter Tryd.func21, Tryd.ntmps21
  go_wp2_with fail
  refine Calls.mono (put_yes _ [4] i _ HR0.out (by simp) H1.out.1 H1.out.2 A HA.out) ?_
  rintro e w1 ⟨v1, c1, rfl, hr1, hb1⟩
  have HR1 : Hid _ := hr1
  have HBX1 : Hid (Box w1 w.heap.size 4 i t sv) := HBX.out.later hb1
  have HB1 : Hid (Below w.heap.size w w1) := HX.out.trans (hb1.mono (by simp <;> omega))
  have d0 := HBX1.out.c0
  have d2 : ∀ o, (w1.alloc o).cell? ⟨w.heap.size, 2, none⟩ = some (.int .i64 t) := fun o => (HBX1.out.alloc o).c2
  clear hr1 hb1 HBX HX HR0
  go_wp2_with fail
  refine Calls.mono (HS.out _) ?_
  rintro e w2 ⟨rfl, h2⟩
  obtain rfl := h2.symm
  clear h2 HS
  go_wp2_with fail
  refine Calls.mono (put_yes _ A t _ (RB.later HR1.out ((Below.refl _ _).alloc (Nat.le_refl _) _)) (by have := HL.out; omega) H2.out.1 H2.out.2 D HD.out) ?_
  rintro e w3 ⟨v3, c3, rfl, hr3, hb3⟩
  have HR3 : Hid _ := hr3
  have HB3 : Hid (Below w.heap.size w w3) := (HB1.out.alloc HB1.out.size _).trans (hb3.mono (by have := HB1.out.size; simp; omega))
  clear hr3 hb3
  go_wp2_with fail
  go_ret2
  exact ⟨_, _, rfl, HR3.out, HB3.out⟩


set_option maxRecDepth 1000000 in
set_option maxHeartbeats 4000000 in
theorem putHead_5 (i t : Int) (sv : Value) (w : World) (h1 : 0 ≤ i ∧ i ≤ 1099511627776) (h2 : 0 ≤ t ∧ t ≤ 1099511627776) (A : List UInt8) (hA : A = [5] ++ oneP i.toNat) (D : List UInt8) (hD : D = A ++ oneP t.toNat) (hl : A.length ≤ 90000) :
    Calls Tryd.prog 21 #[.agg #[.int .i64 5, .int .i64 i, .int .i64 t, sv]] w fun x w' => ∃ v c, x = .returned (.tuple #[.slice v D.length c, .int .i64 0]) ∧ RB w' (.slice v D.length c) D ∧ Below w.heap.size w w' := by
  have H1 : Hid _ := h1
  have H2 : Hid _ := h2
  have HA : Hid _ := hA
  have HD : Hid _ := hD
  have HL : Hid _ := hl
  clear hD hl
  clear h1 h2 hA
  have HX : Hid (Below w.heap.size w ((w.alloc (.cells #[.int .i64 5, .int .i64 i, .int .i64 t, sv] 25)).alloc (.cells #[.int .u8 5] 5))) := ((Below.refl _ _).alloc (Nat.le_refl _) _).alloc (by simp) _
  have HBX : Hid (Box ((w.alloc (.cells #[.int .i64 5, .int .i64 i, .int .i64 t, sv] 25)).alloc (.cells #[.int .u8 5] 5)) w.heap.size 5 i t sv) := (Box.new w 5 i t sv).alloc _
  have HR0 : Hid _ := one_slot w (.cells #[.int .i64 5, .int .i64 i, .int .i64 t, sv] 25) 0 5 5 rfl
  have HS : Hid (∀ w : World, Calls Tryd.prog 26 #[.int .i64 5] w fun e w' => e = .returned (.iface 70 (.agg #[.string ⟨(wordP 5).toArray⟩])) ∧ w' = w) := fun w => sortOf_any 5 w
  have q1 := as_same 70 (.agg #[.string ⟨(wordP 5).toArray⟩]) (.inl rfl)
  generalize wordP 5 = W at *
  go_enter Tryd.func21, Tryd.ntmps21
  go_wp2_with fail
  refine Calls.mono (put_yes _ [5] i _ HR0.out (by simp) H1.out.1 H1.out.2 A HA.out) ?_
  rintro e w1 ⟨v1, c1, rfl, hr1, hb1⟩
  have HR1 : Hid _ := hr1
  have HBX1 : Hid (Box w1 w.heap.size 5 i t sv) := HBX.out.later hb1
  have HB1 : Hid (Below w.heap.size w w1) := HX.out.trans (hb1.mono (by simp <;> omega))
  have d0 := HBX1.out.c0
  have d2 : ∀ o, (w1.alloc o).cell? ⟨w.heap.size, 2, none⟩ = some (.int .i64 t) := fun o => (HBX1.out.alloc o).c2
  clear hr1 hb1 HBX HX HR0
  go_wp2_with fail
  refine Calls.mono (HS.out _) ?_
  rintro e w2 ⟨rfl, h2⟩
  obtain rfl := h2.symm
  clear h2 HS
  go_wp2_with fail
  refine Calls.mono (put_yes _ A t _ (RB.later HR1.out ((Below.refl _ _).alloc (Nat.le_refl _) _)) (by have := HL.out; omega) H2.out.1 H2.out.2 D HD.out) ?_
  rintro e w3 ⟨v3, c3, rfl, hr3, hb3⟩
  have HR3 : Hid _ := hr3
  have HB3 : Hid (Below w.heap.size w w3) := (HB1.out.alloc HB1.out.size _).trans (hb3.mono (by have := HB1.out.size; simp; omega))
  clear hr3 hb3
  go_wp2_with fail
  go_ret2
  exact ⟨_, _, rfl, HR3.out, HB3.out⟩


set_option maxRecDepth 1000000 in
set_option maxHeartbeats 4000000 in
theorem putHead_6 (i t : Int) (sv : Value) (w : World) (h1 : 0 ≤ i ∧ i ≤ 1099511627776) (h2 : 0 ≤ t ∧ t ≤ 1099511627776) (A : List UInt8) (hA : A = [6] ++ oneP i.toNat) (D : List UInt8) (hD : D = A ++ oneP t.toNat) (hl : A.length ≤ 90000) :
    Calls Tryd.prog 21 #[.agg #[.int .i64 6, .int .i64 i, .int .i64 t, sv]] w fun x w' => ∃ v c, x = .returned (.tuple #[.slice v D.length c, .int .i64 0]) ∧ RB w' (.slice v D.length c) D ∧ Below w.heap.size w w' := by
  have H1 : Hid _ := h1
  have H2 : Hid _ := h2
  have HA : Hid _ := hA
  have HD : Hid _ := hD
  have HL : Hid _ := hl
  clear hD hl
  clear h1 h2 hA
  have HX : Hid (Below w.heap.size w ((w.alloc (.cells #[.int .i64 6, .int .i64 i, .int .i64 t, sv] 25)).alloc (.cells #[.int .u8 6] 5))) := ((Below.refl _ _).alloc (Nat.le_refl _) _).alloc (by simp) _
  have HBX : Hid (Box ((w.alloc (.cells #[.int .i64 6, .int .i64 i, .int .i64 t, sv] 25)).alloc (.cells #[.int .u8 6] 5)) w.heap.size 6 i t sv) := (Box.new w 6 i t sv).alloc _
  have HR0 : Hid _ := one_slot w (.cells #[.int .i64 6, .int .i64 i, .int .i64 t, sv] 25) 0 6 6 rfl
  have HS : Hid (∀ w : World, Calls Tryd.prog 26 #[.int .i64 6] w fun e w' => e = .returned (.iface 70 (.agg #[.string ⟨(wordP 6).toArray⟩])) ∧ w' = w) := fun w => sortOf_any 6 w
  have q1 := as_same 70 (.agg #[.string ⟨(wordP 6).toArray⟩]) (.inl rfl)
  generalize wordP 6 = W at *
  go_enter Tryd.func21, Tryd.ntmps21
  go_wp2_with fail
  refine Calls.mono (put_yes _ [6] i _ HR0.out (by simp) H1.out.1 H1.out.2 A HA.out) ?_
  rintro e w1 ⟨v1, c1, rfl, hr1, hb1⟩
  have HR1 : Hid _ := hr1
  have HBX1 : Hid (Box w1 w.heap.size 6 i t sv) := HBX.out.later hb1
  have HB1 : Hid (Below w.heap.size w w1) := HX.out.trans (hb1.mono (by simp <;> omega))
  have d0 := HBX1.out.c0
  have d2 : ∀ o, (w1.alloc o).cell? ⟨w.heap.size, 2, none⟩ = some (.int .i64 t) := fun o => (HBX1.out.alloc o).c2
  clear hr1 hb1 HBX HX HR0
  go_wp2_with fail
  refine Calls.mono (HS.out _) ?_
  rintro e w2 ⟨rfl, h2⟩
  obtain rfl := h2.symm
  clear h2 HS
  go_wp2_with fail
  refine Calls.mono (put_yes _ A t _ (RB.later HR1.out ((Below.refl _ _).alloc (Nat.le_refl _) _)) (by have := HL.out; omega) H2.out.1 H2.out.2 D HD.out) ?_
  rintro e w3 ⟨v3, c3, rfl, hr3, hb3⟩
  have HR3 : Hid _ := hr3
  have HB3 : Hid (Below w.heap.size w w3) := (HB1.out.alloc HB1.out.size _).trans (hb3.mono (by have := HB1.out.size; simp; omega))
  clear hr3 hb3
  go_wp2_with fail
  go_ret2
  exact ⟨_, _, rfl, HR3.out, HB3.out⟩


theorem putHead_any (e : Ev) (sv : Value) (w : World) (h : okH e.k e.i e.t = true) :
    Calls Tryd.prog 21 #[EvV e sv] w fun x w' => ∃ v c, x = .returned (.tuple #[.slice v (headP e).length c, .int .i64 0]) ∧ RB w' (.slice v (headP e).length c) (headP e) ∧ Below w.heap.size w w' := by
  obtain ⟨k1, k2, i1, i2, t1, t2, kt⟩ : 1 ≤ e.k ∧ e.k ≤ 6 ∧ 1 ≤ e.i ∧ e.i ≤ 63 ∧ 0 ≤ e.t ∧ e.t ≤ 3 ∧ (3 < e.k ∨ e.t = 0) := of_decide_eq_true h
  clear h
  obtain ⟨k, i, t, s⟩ := e
  unfold EvV headP
  dsimp only at *
  have hk : k = 1 ∨ k = 2 ∨ k = 3 ∨ k = 4 ∨ k = 5 ∨ k = 6 := by omega
  have a1 : 0 ≤ i ∧ i ≤ 1099511627776 := ⟨by omega, by omega⟩
  have a2 : 0 ≤ t ∧ t ≤ 1099511627776 := ⟨by omega, by omega⟩
  have a3 := one_six (n := i.toNat) (by omega)
  rcases hk with rfl | rfl | rfl | rfl | rfl | rfl
  · rw [if_neg (by decide), List.append_nil]
    exact putHead_1 i t sv w a1 a2 _ rfl
  · rw [if_neg (by decide), List.append_nil]
    exact putHead_2 i t sv w a1 a2 _ rfl
  · rw [if_neg (by decide), List.append_nil]
    exact putHead_3 i t sv w a1 a2 _ rfl
  · rw [if_pos (by decide)]
    exact putHead_4 i t sv w a1 a2 _ rfl _ rfl (by simp; omega)
  · rw [if_pos (by decide)]
    exact putHead_5 i t sv w a1 a2 _ rfl _ rfl (by simp; omega)
  · rw [if_pos (by decide)]
    exact putHead_6 i t sv w a1 a2 _ rfl _ rfl (by simp; omega)

theorem bytes_yes (x y : Value) (a : List UInt8) (l : List Int) (w : World) (hx : RB w x a) (hy : RI w y l) (ha : a.length ≤ 90000) (hl : l.length ≤ 1000000) (ho : okS l = true) (L : List UInt8) (hL : L = a ++ putsP (natL l)) :
    Calls Tryd.prog 22 #[x, y] w fun e w' => ∃ v c, e = .returned (.tuple #[.slice v L.length c, .int .i64 0]) ∧ RB w' (.slice v L.length c) L ∧ Below w.heap.size w w' := by
  subst hL
  have h := bytes_any x y a l w hx hy ha hl
  unfold bytR chkE at h
  rw [if_pos ho, if_pos ho] at h
  exact h

theorem head_small {e : Ev} (h : okE e = true) : (headP e).length ≤ 90000 := by
  have := enc_len h
  unfold encE at this
  rw [List.length_append] at this
  omega

set_option maxRecDepth 1000000 in
set_option maxHeartbeats 4000000 in
theorem bytes_ev (e : Ev) (sv : Value) (w : World) (hv : RI w sv e.s) (hn : e.s.length ≤ 1000000) :
    Calls Tryd.prog 8 #[EvV e sv] w fun x w' => ∃ v c, x = .returned (.tuple #[.slice v (bytE e).length c, .int .i64 (evE e : Nat)]) ∧ RB w' (.slice v (bytE e).length c) (bytE e) ∧ Below w.heap.size w w' := by
  have HX : Hid (Below w.heap.size w (w.alloc (.cells #[.int .i64 e.k, .int .i64 e.i, .int .i64 e.t, sv] 25))) := (Below.refl _ _).alloc (Nat.le_refl _) _
  have HC : Hid (∀ wx : World, Below w.heap.size w wx → Calls Tryd.prog 10 #[.agg #[.int .i64 e.k, .int .i64 e.i, .int .i64 e.t, sv]] wx fun x w' => x = .returned (.int .i64 (evE e : Nat)) ∧ Below wx.heap.size wx w') := fun wx hb => check_ev e sv wx (hv.later hb) hn
  have HBX : Hid (Box (w.alloc (.cells #[.int .i64 e.k, .int .i64 e.i, .int .i64 e.t, sv] 25)) w.heap.size e.k e.i e.t sv) := Box.new w e.k e.i e.t sv
  by_cases ho : okE e = true
  · have HH : Hid (∀ wx : World, Calls Tryd.prog 21 #[.agg #[.int .i64 e.k, .int .i64 e.i, .int .i64 e.t, sv]] wx fun x w' => ∃ v c, x = .returned (.tuple #[.slice v (headP e).length c, .int .i64 0]) ∧ RB w' (.slice v (headP e).length c) (headP e) ∧ Below wx.heap.size wx w') := fun wx => putHead_any e sv wx (by unfold okE at ho; rw [Bool.and_eq_true] at ho; exact ho.1)
    have HY : Hid (∀ (wx : World) (x : Value), Below w.heap.size w wx → RB wx x (headP e) → Calls Tryd.prog 22 #[x, sv] wx fun x w' => ∃ v c, x = .returned (.tuple #[.slice v (bytE e).length c, .int .i64 0]) ∧ RB w' (.slice v (bytE e).length c) (bytE e) ∧ Below wx.heap.size wx w') := fun wx x hb hx => bytes_yes x sv (headP e) e.s wx hx (hv.later hb) (head_small ho) hn (okE_stamp ho) _ (by unfold bytE; rw [if_pos ho]; rfl)
    have hE : evE e = 0 := by unfold evE; rw [if_pos ho]
    replace HC : Hid (∀ wx : World, Below w.heap.size w wx → Calls Tryd.prog 10 #[.agg #[.int .i64 e.k, .int .i64 e.i, .int .i64 e.t, sv]] wx fun x w' => x = .returned (.int .i64 0) ∧ Below wx.heap.size wx w') := by
      show ∀ wx, _
      have := HC.out
      rw [hE] at this
      exact this
    rw [hE]
    obtain ⟨sa, sc, rfl, _, _, hrr⟩ := hv
    clear hrr hE ho hn
    unfold EvV
    generalize bytE e = D at *
    generalize headP e = A at *
    generalize e.k = k at *
    generalize e.i = i at *
    generalize e.t = t at *
    generalize e.s.length = n at *
    go_enter Tryd.func8, Tryd.ntmps8
    go_wp2_with fail
    refine Calls.mono (HC.out _ HX.out) ?_
    rintro e w1 ⟨rfl, hb1⟩
    have HBX1 : Hid (Box w1 w.heap.size k i t (.slice sa n sc)) := HBX.out.later hb1
    have HB1 : Hid (Below w.heap.size w w1) := HX.out.trans (hb1.mono (by simp <;> omega))
    have d0 := HBX1.out.c0
    have d1 := HBX1.out.c1
    have d2 := HBX1.out.c2
    have d3 := HBX1.out.c3
    clear hb1 HBX HX
    go_wp2_with fail
    refine Calls.mono (HH.out _) ?_
    rintro e w2 ⟨v2, c2, rfl, hr2, hb2⟩
    have HR2 : Hid _ := hr2
    have HBX2 : Hid (Box w2 w.heap.size k i t (.slice sa n sc)) := HBX1.out.later hb2
    have HB2 : Hid (Below w.heap.size w w2) := HB1.out.trans (hb2.mono HB1.out.size)
    clear d0 d1 d2 d3
    have d3 := HBX2.out.c3
    clear hb2 hr2 HBX1 HB1 HH
    go_wp2_with fail
    refine Calls.mono (HY.out _ _ HB2.out HR2.out) ?_
    rintro e w3 ⟨v3, c3, rfl, hr3, hb3⟩
    have HR3 : Hid _ := hr3
    have HB3 : Hid (Below w.heap.size w w3) := HB2.out.trans (hb3.mono HB2.out.size)
    clear hr3 hb3
    go_wp2_with fail
    go_ret2
    exact ⟨_, _, rfl, HR3.out, HB3.out⟩
  · have hE : evE e = 2 := by unfold evE; rw [if_neg ho]
    have hB : bytE e = [] := by unfold bytE; rw [if_neg ho]
    replace HC : Hid (∀ wx : World, Below w.heap.size w wx → Calls Tryd.prog 10 #[.agg #[.int .i64 e.k, .int .i64 e.i, .int .i64 e.t, sv]] wx fun x w' => x = .returned (.int .i64 2) ∧ Below wx.heap.size wx w') := by
      show ∀ wx, _
      have := HC.out
      rw [hE] at this
      exact this
    rw [hE, hB]
    obtain ⟨sa, sc, rfl, _, _, hrr⟩ := hv
    clear hrr hE hB ho hn
    unfold EvV
    go_enter Tryd.func8, Tryd.ntmps8
    go_wp2_with fail
    refine Calls.mono (HC.out _ HX.out) ?_
    rintro e w1 ⟨rfl, hb1⟩
    have HB1 : Hid (Below w.heap.size w w1) := HX.out.trans (hb1.mono (by simp <;> omega))
    clear hb1 HX
    go_wp2_with fail
    go_ret2
    exact ⟨none, 0, rfl, RB.nil _, HB1.out⟩
end Go.Proofs.YtcnodkkdhkkicaaDoor
