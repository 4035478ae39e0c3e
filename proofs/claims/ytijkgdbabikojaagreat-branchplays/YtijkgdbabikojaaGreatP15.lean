/- Texts of the seat, packed: Eb Ec Ei El. -/
import Derived.Test.YtijkgdbabikojaaGreatP14
import Derived.Laws.ResultCell
import Derived.Laws.Rows
/- The walks over putHead and Bytes. -/
namespace Go.Proofs.YtijkgdbabikojaaGreat
set_option maxRecDepth 1000000
open Go.RowKit
set_option linter.unusedVariables false

/-- An event's cells in a block of the call's own. -/
def Box (w : World) (b : Nat) (k i t : Int) (sv : Value) : Prop := w.heap[b]? = some (.cells #[.int .i64 k, .int .i64 i, .int .i64 t, sv] 33 (0, 0))

theorem Box.new (w : World) (k i t : Int) (sv : Value) : Box (w.alloc (.cells #[.int .i64 k, .int .i64 i, .int .i64 t, sv] 33)) w.heap.size k i t sv := by
  show (w.heap.push _)[w.heap.size]? = _
  simp
theorem Box.lt {w : World} {b : Nat} {k i t : Int} {sv : Value} (h : Box w b k i t sv) : b < w.heap.size := (Array.getElem?_eq_some_iff.1 h).1
theorem Box.later {w w' : World} {b : Nat} {k i t : Int} {sv : Value} (h : Box w b k i t sv) (hb : Below w.heap.size w w') : Box w' b k i t sv := (hb.block b h.lt).trans h
theorem Box.alloc {w : World} {b : Nat} {k i t : Int} {sv : Value} (h : Box w b k i t sv) (o : Obj) : Box (w.alloc o) b k i t sv := h.later ((Below.refl _ _).alloc (Nat.le_refl _) _)
theorem Box.c0 {w : World} {b : Nat} {k i t : Int} {sv : Value} (h : Box w b k i t sv) : w.cell? ⟨b, 0, none⟩ = some (.int .i64 k) := cell_row h 0
theorem Box.c1 {w : World} {b : Nat} {k i t : Int} {sv : Value} (h : Box w b k i t sv) : w.cell? ⟨b, 1, none⟩ = some (.int .i64 i) := cell_row h 1
theorem Box.c2 {w : World} {b : Nat} {k i t : Int} {sv : Value} (h : Box w b k i t sv) : w.cell? ⟨b, 2, none⟩ = some (.int .i64 t) := cell_row h 2
theorem Box.c3 {w : World} {b : Nat} {k i t : Int} {sv : Value} (h : Box w b k i t sv) : w.cell? ⟨b, 3, none⟩ = some sv := cell_row h 3
theorem Box.f (n : Nat) {w : World} {b : Nat} {k i t : Int} {sv : Value} (h : Box w b k i t sv) : w.frozen? ⟨b, n, none⟩ = false := froz_row h n

theorem put_yes (x : Value) (a : List UInt8) (n : Int) (w : World) (hx : RB w x a) (ha : a.length ≤ 90000) (h0 : 0 ≤ n) (h1 : n ≤ 1099511627776) (L : List UInt8) (hL : L = a ++ oneP n.toNat) :
    Calls Tryz.prog 103 #[x, .int .i64 n] w fun e w' => ∃ v c, e = .returned (.tuple #[.slice v L.length c, .int .i64 0]) ∧ RB w' (.slice v L.length c) L ∧ Below w.heap.size w w' := by
  subst hL
  have h := put_any x a n w hx ha
  unfold putR putE at h
  have hn : isN n = true := decide_eq_true ⟨h0, h1⟩
  rw [if_pos hn, if_pos hn] at h
  exact h

theorem one_slot (w : World) (o : Obj) (n : Nat) (x : UInt8) (c : Int) (hc : Value.int .u8 c = .int .u8 (x.toNat : Nat)) : RB ((w.alloc o).alloc (.cells #[.int .u8 c] 5)) (.slice (some ⟨w.heap.size + 1, 0, none⟩) 1 1) [x] := by
  have h := RB.new (w.alloc o) [x] #[.int .u8 c] 5 (by rw [hc]; rfl) (by simp)
  have e : (w.alloc o).heap.size = w.heap.size + 1 := by simp
  rw [e] at h
  exact h

set_option maxRecDepth 1000000 in
set_option maxHeartbeats 4000000 in
theorem putHead_1 (i t : Int) (sv : Value) (w : World) (h1 : 0 ≤ i ∧ i ≤ 1099511627776) (h2 : 0 ≤ t ∧ t ≤ 1099511627776) (A : List UInt8) (hA : A = [1] ++ oneP i.toNat) :
    Calls Tryz.prog 78 #[.agg #[.int .i64 1, .int .i64 i, .int .i64 t, sv]] w fun x w' => ∃ v c, x = .returned (.tuple #[.slice v A.length c, .int .i64 0]) ∧ RB w' (.slice v A.length c) A ∧ Below w.heap.size w w' := by
  have H1 : Hid _ := h1
  have H2 : Hid _ := h2
  have HA : Hid _ := hA
  clear h1 h2 hA
  have HX : Hid (Below w.heap.size w ((w.alloc (.cells #[.int .i64 1, .int .i64 i, .int .i64 t, sv] 33)).alloc (.cells #[.int .u8 1] 5))) := ((Below.refl _ _).alloc (Nat.le_refl _) _).alloc (by simp) _
  have HBX : Hid (Box ((w.alloc (.cells #[.int .i64 1, .int .i64 i, .int .i64 t, sv] 33)).alloc (.cells #[.int .u8 1] 5)) w.heap.size 1 i t sv) := (Box.new w 1 i t sv).alloc _
  have HR0 : Hid _ := one_slot w (.cells #[.int .i64 1, .int .i64 i, .int .i64 t, sv] 33) 0 1 1 rfl
  have HS : Hid (∀ w : World, Calls Tryz.prog 101 #[.int .i64 1] w fun e w' => e = .returned (.iface 166 (.agg #[.string ⟨(wordP 1).toArray⟩])) ∧ w' = w) := fun w => sortOf_any 1 w
  have q1 := as_74_70 (.agg #[.string ⟨(wordP 1).toArray⟩])
  generalize wordP 1 = W at *
  go_enter Tryz.func78, Tryz.ntmps78
  go_wp2_with fail
  refine Calls.mono (put_yes _ [1] i _ HR0.out (by simp) H1.out.1 H1.out.2 A HA.out) ?_
  rintro e w1 ⟨v1, c1, rfl, hr1, hb1⟩
  have HR1 : Hid _ := hr1
  have HBX1 : Hid (Box w1 w.heap.size 1 i t sv) := HBX.out.later hb1
  have HB1 : Hid (Below w.heap.size w w1) := HX.out.trans (hb1.mono (by simp <;> omega))
  have d0 := HBX1.out.c0
  have d2 : ∀ o, (w1.alloc o).cell? ⟨w.heap.size, 2, none⟩ = some (.int .i64 t) := fun o => (HBX1.out.alloc o).c2
  clear hr1 hb1 HBX HX HR0
  go_wp2_with fail
  refine Calls.mono (HS.out _) ?_
  rintro e w2 ⟨rfl, h2⟩
  obtain rfl := h2.symm
  clear h2 HS
  go_wp2_with fail
  go_ret2
  refine ⟨_, _, rfl, RB.later HR1.out ((Below.refl _ _).alloc (Nat.le_refl _) _), HB1.out.alloc HB1.out.size _⟩


set_option maxRecDepth 1000000 in
set_option maxHeartbeats 4000000 in
theorem putHead_2 (i t : Int) (sv : Value) (w : World) (h1 : 0 ≤ i ∧ i ≤ 1099511627776) (h2 : 0 ≤ t ∧ t ≤ 1099511627776) (A : List UInt8) (hA : A = [2] ++ oneP i.toNat) :
    Calls Tryz.prog 78 #[.agg #[.int .i64 2, .int .i64 i, .int .i64 t, sv]] w fun x w' => ∃ v c, x = .returned (.tuple #[.slice v A.length c, .int .i64 0]) ∧ RB w' (.slice v A.length c) A ∧ Below w.heap.size w w' := by
  have H1 : Hid _ := h1
  have H2 : Hid _ := h2
  have HA : Hid _ := hA
  clear h1 h2 hA
  have HX : Hid (Below w.heap.size w ((w.alloc (.cells #[.int .i64 2, .int .i64 i, .int .i64 t, sv] 33)).alloc (.cells #[.int .u8 2] 5))) := ((Below.refl _ _).alloc (Nat.le_refl _) _).alloc (by simp) _
  have HBX : Hid (Box ((w.alloc (.cells #[.int .i64 2, .int .i64 i, .int .i64 t, sv] 33)).alloc (.cells #[.int .u8 2] 5)) w.heap.size 2 i t sv) := (Box.new w 2 i t sv).alloc _
  have HR0 : Hid _ := one_slot w (.cells #[.int .i64 2, .int .i64 i, .int .i64 t, sv] 33) 0 2 2 rfl
  have HS : Hid (∀ w : World, Calls Tryz.prog 101 #[.int .i64 2] w fun e w' => e = .returned (.iface 166 (.agg #[.string ⟨(wordP 2).toArray⟩])) ∧ w' = w) := fun w => sortOf_any 2 w
  have q1 := as_74_70 (.agg #[.string ⟨(wordP 2).toArray⟩])
  generalize wordP 2 = W at *
  go_enter Tryz.func78, Tryz.ntmps78
  go_wp2_with fail
  refine Calls.mono (put_yes _ [2] i _ HR0.out (by simp) H1.out.1 H1.out.2 A HA.out) ?_
  rintro e w1 ⟨v1, c1, rfl, hr1, hb1⟩
  have HR1 : Hid _ := hr1
  have HBX1 : Hid (Box w1 w.heap.size 2 i t sv) := HBX.out.later hb1
  have HB1 : Hid (Below w.heap.size w w1) := HX.out.trans (hb1.mono (by simp <;> omega))
  have d0 := HBX1.out.c0
  have d2 : ∀ o, (w1.alloc o).cell? ⟨w.heap.size, 2, none⟩ = some (.int .i64 t) := fun o => (HBX1.out.alloc o).c2
  clear hr1 hb1 HBX HX HR0
  go_wp2_with fail
  refine Calls.mono (HS.out _) ?_
  rintro e w2 ⟨rfl, h2⟩
  obtain rfl := h2.symm
  clear h2 HS
  go_wp2_with fail
  go_ret2
  refine ⟨_, _, rfl, RB.later HR1.out ((Below.refl _ _).alloc (Nat.le_refl _) _), HB1.out.alloc HB1.out.size _⟩


set_option maxRecDepth 1000000 in
set_option maxHeartbeats 4000000 in
theorem putHead_3 (i t : Int) (sv : Value) (w : World) (h1 : 0 ≤ i ∧ i ≤ 1099511627776) (h2 : 0 ≤ t ∧ t ≤ 1099511627776) (A : List UInt8) (hA : A = [3] ++ oneP i.toNat) :
    Calls Tryz.prog 78 #[.agg #[.int .i64 3, .int .i64 i, .int .i64 t, sv]] w fun x w' => ∃ v c, x = .returned (.tuple #[.slice v A.length c, .int .i64 0]) ∧ RB w' (.slice v A.length c) A ∧ Below w.heap.size w w' := by
  have H1 : Hid _ := h1
  have H2 : Hid _ := h2
  have HA : Hid _ := hA
  clear h1 h2 hA
  have HX : Hid (Below w.heap.size w ((w.alloc (.cells #[.int .i64 3, .int .i64 i, .int .i64 t, sv] 33)).alloc (.cells #[.int .u8 3] 5))) := ((Below.refl _ _).alloc (Nat.le_refl _) _).alloc (by simp) _
  have HBX : Hid (Box ((w.alloc (.cells #[.int .i64 3, .int .i64 i, .int .i64 t, sv] 33)).alloc (.cells #[.int .u8 3] 5)) w.heap.size 3 i t sv) := (Box.new w 3 i t sv).alloc _
  have HR0 : Hid _ := one_slot w (.cells #[.int .i64 3, .int .i64 i, .int .i64 t, sv] 33) 0 3 3 rfl
  have HS : Hid (∀ w : World, Calls Tryz.prog 101 #[.int .i64 3] w fun e w' => e = .returned (.iface 166 (.agg #[.string ⟨(wordP 3).toArray⟩])) ∧ w' = w) := fun w => sortOf_any 3 w
  have q1 := as_74_70 (.agg #[.string ⟨(wordP 3).toArray⟩])
  generalize wordP 3 = W at *
  go_enter Tryz.func78, Tryz.ntmps78
  go_wp2_with fail
  refine Calls.mono (put_yes _ [3] i _ HR0.out (by simp) H1.out.1 H1.out.2 A HA.out) ?_
  rintro e w1 ⟨v1, c1, rfl, hr1, hb1⟩
  have HR1 : Hid _ := hr1
  have HBX1 : Hid (Box w1 w.heap.size 3 i t sv) := HBX.out.later hb1
  have HB1 : Hid (Below w.heap.size w w1) := HX.out.trans (hb1.mono (by simp <;> omega))
  have d0 := HBX1.out.c0
  have d2 : ∀ o, (w1.alloc o).cell? ⟨w.heap.size, 2, none⟩ = some (.int .i64 t) := fun o => (HBX1.out.alloc o).c2
  clear hr1 hb1 HBX HX HR0
  go_wp2_with fail
  refine Calls.mono (HS.out _) ?_
  rintro e w2 ⟨rfl, h2⟩
  obtain rfl := h2.symm
  clear h2 HS
  go_wp2_with fail
  go_ret2
  refine ⟨_, _, rfl, RB.later HR1.out ((Below.refl _ _).alloc (Nat.le_refl _) _), HB1.out.alloc HB1.out.size _⟩


set_option maxRecDepth 1000000 in
set_option maxHeartbeats 4000000 in
theorem putHead_4 (i t : Int) (sv : Value) (w : World) (h1 : 0 ≤ i ∧ i ≤ 1099511627776) (h2 : 0 ≤ t ∧ t ≤ 1099511627776) (A : List UInt8) (hA : A = [4] ++ oneP i.toNat) (D : List UInt8) (hD : D = A ++ oneP t.toNat) (hl : A.length ≤ 90000) :
    Calls Tryz.prog 78 #[.agg #[.int .i64 4, .int .i64 i, .int .i64 t, sv]] w fun x w' => ∃ v c, x = .returned (.tuple #[.slice v D.length c, .int .i64 0]) ∧ RB w' (.slice v D.length c) D ∧ Below w.heap.size w w' := by
  have H1 : Hid _ := h1
  have H2 : Hid _ := h2
  have HA : Hid _ := hA
  have HD : Hid _ := hD
  have HL : Hid _ := hl
  clear hD hl
  clear h1 h2 hA
  have HX : Hid (Below w.heap.size w ((w.alloc (.cells #[.int .i64 4, .int .i64 i, .int .i64 t, sv] 33)).alloc (.cells #[.int .u8 4] 5))) := ((Below.refl _ _).alloc (Nat.le_refl _) _).alloc (by simp) _
  have HBX : Hid (Box ((w.alloc (.cells #[.int .i64 4, .int .i64 i, .int .i64 t, sv] 33)).alloc (.cells #[.int .u8 4] 5)) w.heap.size 4 i t sv) := (Box.new w 4 i t sv).alloc _
  have HR0 : Hid _ := one_slot w (.cells #[.int .i64 4, .int .i64 i, .int .i64 t, sv] 33) 0 4 4 rfl
  have HS : Hid (∀ w : World, Calls Tryz.prog 101 #[.int .i64 4] w fun e w' => e = .returned (.iface 152 (.agg #[.string ⟨(wordP 4).toArray⟩])) ∧ w' = w) := fun w => sortOf_any 4 w
  have q1 := as_same 152 (.agg #[.string ⟨(wordP 4).toArray⟩]) (.inl rfl)
  generalize wordP 4 = W at *
  go_enter Tryz.func78, Tryz.ntmps78
  go_wp2_with fail
  refine Calls.mono (put_yes _ [4] i _ HR0.out (by simp) H1.out.1 H1.out.2 A HA.out) ?_
  rintro e w1 ⟨v1, c1, rfl, hr1, hb1⟩
  have HR1 : Hid _ := hr1
  have HBX1 : Hid (Box w1 w.heap.size 4 i t sv) := HBX.out.later hb1
  have HB1 : Hid (Below w.heap.size w w1) := HX.out.trans (hb1.mono (by simp <;> omega))
  have d0 := HBX1.out.c0
  have d2 : ∀ o, (w1.alloc o).cell? ⟨w.heap.size, 2, none⟩ = some (.int .i64 t) := fun o => (HBX1.out.alloc o).c2
  clear hr1 hb1 HBX HX HR0
  go_wp2_with fail
  refine Calls.mono (HS.out _) ?_
  rintro e w2 ⟨rfl, h2⟩
  obtain rfl := h2.symm
  clear h2 HS
  go_wp2_with fail
  refine Calls.mono (put_yes _ A t _ (RB.later HR1.out ((Below.refl _ _).alloc (Nat.le_refl _) _)) (by have := HL.out; omega) H2.out.1 H2.out.2 D HD.out) ?_
  rintro e w3 ⟨v3, c3, rfl, hr3, hb3⟩
  have HR3 : Hid _ := hr3
  have HB3 : Hid (Below w.heap.size w w3) := (HB1.out.alloc HB1.out.size _).trans (hb3.mono (by have := HB1.out.size; simp; omega))
  clear hr3 hb3
  go_wp2_with fail
  go_ret2
  exact ⟨_, _, rfl, HR3.out, HB3.out⟩


set_option maxRecDepth 1000000 in
set_option maxHeartbeats 4000000 in
theorem putHead_5 (i t : Int) (sv : Value) (w : World) (h1 : 0 ≤ i ∧ i ≤ 1099511627776) (h2 : 0 ≤ t ∧ t ≤ 1099511627776) (A : List UInt8) (hA : A = [5] ++ oneP i.toNat) (D : List UInt8) (hD : D = A ++ oneP t.toNat) (hl : A.length ≤ 90000) :
    Calls Tryz.prog 78 #[.agg #[.int .i64 5, .int .i64 i, .int .i64 t, sv]] w fun x w' => ∃ v c, x = .returned (.tuple #[.slice v D.length c, .int .i64 0]) ∧ RB w' (.slice v D.length c) D ∧ Below w.heap.size w w' := by
  have H1 : Hid _ := h1
  have H2 : Hid _ := h2
  have HA : Hid _ := hA
  have HD : Hid _ := hD
  have HL : Hid _ := hl
  clear hD hl
  clear h1 h2 hA
  have HX : Hid (Below w.heap.size w ((w.alloc (.cells #[.int .i64 5, .int .i64 i, .int .i64 t, sv] 33)).alloc (.cells #[.int .u8 5] 5))) := ((Below.refl _ _).alloc (Nat.le_refl _) _).alloc (by simp) _
  have HBX : Hid (Box ((w.alloc (.cells #[.int .i64 5, .int .i64 i, .int .i64 t, sv] 33)).alloc (.cells #[.int .u8 5] 5)) w.heap.size 5 i t sv) := (Box.new w 5 i t sv).alloc _
  have HR0 : Hid _ := one_slot w (.cells #[.int .i64 5, .int .i64 i, .int .i64 t, sv] 33) 0 5 5 rfl
  have HS : Hid (∀ w : World, Calls Tryz.prog 101 #[.int .i64 5] w fun e w' => e = .returned (.iface 152 (.agg #[.string ⟨(wordP 5).toArray⟩])) ∧ w' = w) := fun w => sortOf_any 5 w
  have q1 := as_same 152 (.agg #[.string ⟨(wordP 5).toArray⟩]) (.inl rfl)
  generalize wordP 5 = W at *
  go_enter Tryz.func78, Tryz.ntmps78
  go_wp2_with fail
  refine Calls.mono (put_yes _ [5] i _ HR0.out (by simp) H1.out.1 H1.out.2 A HA.out) ?_
  rintro e w1 ⟨v1, c1, rfl, hr1, hb1⟩
  have HR1 : Hid _ := hr1
  have HBX1 : Hid (Box w1 w.heap.size 5 i t sv) := HBX.out.later hb1
  have HB1 : Hid (Below w.heap.size w w1) := HX.out.trans (hb1.mono (by simp <;> omega))
  have d0 := HBX1.out.c0
  have d2 : ∀ o, (w1.alloc o).cell? ⟨w.heap.size, 2, none⟩ = some (.int .i64 t) := fun o => (HBX1.out.alloc o).c2
  clear hr1 hb1 HBX HX HR0
  go_wp2_with fail
  refine Calls.mono (HS.out _) ?_
  rintro e w2 ⟨rfl, h2⟩
  obtain rfl := h2.symm
  clear h2 HS
  go_wp2_with fail
  refine Calls.mono (put_yes _ A t _ (RB.later HR1.out ((Below.refl _ _).alloc (Nat.le_refl _) _)) (by have := HL.out; omega) H2.out.1 H2.out.2 D HD.out) ?_
  rintro e w3 ⟨v3, c3, rfl, hr3, hb3⟩
  have HR3 : Hid _ := hr3
  have HB3 : Hid (Below w.heap.size w w3) := (HB1.out.alloc HB1.out.size _).trans (hb3.mono (by have := HB1.out.size; simp; omega))
  clear hr3 hb3
  go_wp2_with fail
  go_ret2
  exact ⟨_, _, rfl, HR3.out, HB3.out⟩


set_option maxRecDepth 1000000 in
set_option maxHeartbeats 4000000 in
theorem putHead_6 (i t : Int) (sv : Value) (w : World) (h1 : 0 ≤ i ∧ i ≤ 1099511627776) (h2 : 0 ≤ t ∧ t ≤ 1099511627776) (A : List UInt8) (hA : A = [6] ++ oneP i.toNat) (D : List UInt8) (hD : D = A ++ oneP t.toNat) (hl : A.length ≤ 90000) :
    Calls Tryz.prog 78 #[.agg #[.int .i64 6, .int .i64 i, .int .i64 t, sv]] w fun x w' => ∃ v c, x = .returned (.tuple #[.slice v D.length c, .int .i64 0]) ∧ RB w' (.slice v D.length c) D ∧ Below w.heap.size w w' := by
  have H1 : Hid _ := h1
  have H2 : Hid _ := h2
  have HA : Hid _ := hA
  have HD : Hid _ := hD
  have HL : Hid _ := hl
  clear hD hl
  clear h1 h2 hA
  have HX : Hid (Below w.heap.size w ((w.alloc (.cells #[.int .i64 6, .int .i64 i, .int .i64 t, sv] 33)).alloc (.cells #[.int .u8 6] 5))) := ((Below.refl _ _).alloc (Nat.le_refl _) _).alloc (by simp) _
  have HBX : Hid (Box ((w.alloc (.cells #[.int .i64 6, .int .i64 i, .int .i64 t, sv] 33)).alloc (.cells #[.int .u8 6] 5)) w.heap.size 6 i t sv) := (Box.new w 6 i t sv).alloc _
  have HR0 : Hid _ := one_slot w (.cells #[.int .i64 6, .int .i64 i, .int .i64 t, sv] 33) 0 6 6 rfl
  have HS : Hid (∀ w : World, Calls Tryz.prog 101 #[.int .i64 6] w fun e w' => e = .returned (.iface 152 (.agg #[.string ⟨(wordP 6).toArray⟩])) ∧ w' = w) := fun w => sortOf_any 6 w
  have q1 := as_same 152 (.agg #[.string ⟨(wordP 6).toArray⟩]) (.inl rfl)
  generalize wordP 6 = W at *
  go_enter Tryz.func78, Tryz.ntmps78
  go_wp2_with fail
  refine Calls.mono (put_yes _ [6] i _ HR0.out (by simp) H1.out.1 H1.out.2 A HA.out) ?_
  rintro e w1 ⟨v1, c1, rfl, hr1, hb1⟩
  have HR1 : Hid _ := hr1
  have HBX1 : Hid (Box w1 w.heap.size 6 i t sv) := HBX.out.later hb1
  have HB1 : Hid (Below w.heap.size w w1) := HX.out.trans (hb1.mono (by simp <;> omega))
  have d0 := HBX1.out.c0
  have d2 : ∀ o, (w1.alloc o).cell? ⟨w.heap.size, 2, none⟩ = some (.int .i64 t) := fun o => (HBX1.out.alloc o).c2
  clear hr1 hb1 HBX HX HR0
  go_wp2_with fail
  refine Calls.mono (HS.out _) ?_
  rintro e w2 ⟨rfl, h2⟩
  obtain rfl := h2.symm
  clear h2 HS
  go_wp2_with fail
  refine Calls.mono (put_yes _ A t _ (RB.later HR1.out ((Below.refl _ _).alloc (Nat.le_refl _) _)) (by have := HL.out; omega) H2.out.1 H2.out.2 D HD.out) ?_
  rintro e w3 ⟨v3, c3, rfl, hr3, hb3⟩
  have HR3 : Hid _ := hr3
  have HB3 : Hid (Below w.heap.size w w3) := (HB1.out.alloc HB1.out.size _).trans (hb3.mono (by have := HB1.out.size; simp; omega))
  clear hr3 hb3
  go_wp2_with fail
  go_ret2
  exact ⟨_, _, rfl, HR3.out, HB3.out⟩


theorem putHead_any (e : Ev) (sv : Value) (w : World) (h : okH e.k e.i e.t = true) :
    Calls Tryz.prog 78 #[EvV e sv] w fun x w' => ∃ v c, x = .returned (.tuple #[.slice v (headP e).length c, .int .i64 0]) ∧ RB w' (.slice v (headP e).length c) (headP e) ∧ Below w.heap.size w w' := by
  obtain ⟨k1, k2, i1, i2, t1, t2, kt⟩ : 1 ≤ e.k ∧ e.k ≤ 6 ∧ 1 ≤ e.i ∧ e.i ≤ 63 ∧ 0 ≤ e.t ∧ e.t ≤ 3 ∧ (3 < e.k ∨ e.t = 0) := of_decide_eq_true h
  clear h
  obtain ⟨k, i, t, s⟩ := e
  unfold EvV headP
  dsimp only at *
  have hk : k = 1 ∨ k = 2 ∨ k = 3 ∨ k = 4 ∨ k = 5 ∨ k = 6 := by omega
  have a1 : 0 ≤ i ∧ i ≤ 1099511627776 := ⟨by omega, by omega⟩
  have a2 : 0 ≤ t ∧ t ≤ 1099511627776 := ⟨by omega, by omega⟩
  have a3 := one_six (n := i.toNat) (by omega)
  rcases hk with rfl | rfl | rfl | rfl | rfl | rfl
  · rw [if_neg (by decide), List.append_nil]
    exact putHead_1 i t sv w a1 a2 _ rfl
  · rw [if_neg (by decide), List.append_nil]
    exact putHead_2 i t sv w a1 a2 _ rfl
  · rw [if_neg (by decide), List.append_nil]
    exact putHead_3 i t sv w a1 a2 _ rfl
  · rw [if_pos (by decide)]
    exact putHead_4 i t sv w a1 a2 _ rfl _ rfl (by simp; omega)
  · rw [if_pos (by decide)]
    exact putHead_5 i t sv w a1 a2 _ rfl _ rfl (by simp; omega)
  · rw [if_pos (by decide)]
    exact putHead_6 i t sv w a1 a2 _ rfl _ rfl (by simp; omega)

theorem bytes_yes (x y : Value) (a : List UInt8) (l : List Int) (w : World) (hx : RB w x a) (hy : RI w y l) (ha : a.length ≤ 90000) (hl : l.length ≤ 1000000) (ho : okS l = true) (L : List UInt8) (hL : L = a ++ putsP (natL l)) :
    Calls Tryz.prog 79 #[x, y] w fun e w' => ∃ v c, e = .returned (.tuple #[.slice v L.length c, .int .i64 0]) ∧ RB w' (.slice v L.length c) L ∧ Below w.heap.size w w' := by
  subst hL
  have h := bytes_any x y a l w hx hy ha hl
  unfold bytR chkE at h
  rw [if_pos ho, if_pos ho] at h
  exact h

theorem head_small {e : Ev} (h : okE e = true) : (headP e).length ≤ 90000 := by
  have := enc_len h
  unfold encE at this
  rw [List.length_append] at this
  omega

set_option maxRecDepth 1000000 in
set_option maxHeartbeats 4000000 in
theorem bytes_ev (e : Ev) (sv : Value) (w : World) (hv : RI w sv e.s) (hn : e.s.length ≤ 1000000) :
    Calls Tryz.prog 37 #[EvV e sv] w fun x w' => ∃ v c, x = .returned (.tuple #[.slice v (bytE e).length c, .int .i64 (evE e : Nat)]) ∧ RB w' (.slice v (bytE e).length c) (bytE e) ∧ Below w.heap.size w w' := by
  have HX : Hid (Below w.heap.size w (w.alloc (.cells #[.int .i64 e.k, .int .i64 e.i, .int .i64 e.t, sv] 33))) := (Below.refl _ _).alloc (Nat.le_refl _) _
  have HC : Hid (∀ wx : World, Below w.heap.size w wx → Calls Tryz.prog 77 #[.agg #[.int .i64 e.k, .int .i64 e.i, .int .i64 e.t, sv]] wx fun x w' => x = .returned (.int .i64 (evE e : Nat)) ∧ Below wx.heap.size wx w') := fun wx hb => check_ev e sv wx (hv.later hb) hn
  have HBX : Hid (Box (w.alloc (.cells #[.int .i64 e.k, .int .i64 e.i, .int .i64 e.t, sv] 33)) w.heap.size e.k e.i e.t sv) := Box.new w e.k e.i e.t sv
  by_cases ho : okE e = true
  · have HH : Hid (∀ wx : World, Calls Tryz.prog 78 #[.agg #[.int .i64 e.k, .int .i64 e.i, .int .i64 e.t, sv]] wx fun x w' => ∃ v c, x = .returned (.tuple #[.slice v (headP e).length c, .int .i64 0]) ∧ RB w' (.slice v (headP e).length c) (headP e) ∧ Below wx.heap.size wx w') := fun wx => putHead_any e sv wx (by unfold okE at ho; rw [Bool.and_eq_true] at ho; exact ho.1)
    have HY : Hid (∀ (wx : World) (x : Value), Below w.heap.size w wx → RB wx x (headP e) → Calls Tryz.prog 79 #[x, sv] wx fun x w' => ∃ v c, x = .returned (.tuple #[.slice v (bytE e).length c, .int .i64 0]) ∧ RB w' (.slice v (bytE e).length c) (bytE e) ∧ Below wx.heap.size wx w') := fun wx x hb hx => bytes_yes x sv (headP e) e.s wx hx (hv.later hb) (head_small ho) hn (okE_stamp ho) _ (by unfold bytE; rw [if_pos ho]; rfl)
    have hE : evE e = 0 := by unfold evE; rw [if_pos ho]
    replace HC : Hid (∀ wx : World, Below w.heap.size w wx → Calls Tryz.prog 77 #[.agg #[.int .i64 e.k, .int .i64 e.i, .int .i64 e.t, sv]] wx fun x w' => x = .returned (.int .i64 0) ∧ Below wx.heap.size wx w') := by
      show ∀ wx, _
      have := HC.out
      rw [hE] at this
      exact this
    rw [hE]
    obtain ⟨sa, sc, rfl, _, _, hrr⟩ := hv
    clear hrr hE ho hn
    unfold EvV
    generalize bytE e = D at *
    generalize headP e = A at *
    generalize e.k = k at *
    generalize e.i = i at *
    generalize e.t = t at *
    generalize e.s.length = n at *
    go_enter Tryz.func37, Tryz.ntmps37
    go_wp2_with fail
    refine Calls.mono (HC.out _ HX.out) ?_
    rintro e w1 ⟨rfl, hb1⟩
    have HBX1 : Hid (Box w1 w.heap.size k i t (.slice sa n sc)) := HBX.out.later hb1
    have HB1 : Hid (Below w.heap.size w w1) := HX.out.trans (hb1.mono (by simp <;> omega))
    have d0 := HBX1.out.c0
    have d1 := HBX1.out.c1
    have d2 := HBX1.out.c2
    have d3 := HBX1.out.c3
    clear hb1 HBX HX
    go_wp2_with fail
    refine Calls.mono (HH.out _) ?_
    rintro e w2 ⟨v2, c2, rfl, hr2, hb2⟩
    have HR2 : Hid _ := hr2
    have HBX2 : Hid (Box w2 w.heap.size k i t (.slice sa n sc)) := HBX1.out.later hb2
    have HB2 : Hid (Below w.heap.size w w2) := HB1.out.trans (hb2.mono HB1.out.size)
    clear d0 d1 d2 d3
    have d3 := HBX2.out.c3
    clear hb2 hr2 HBX1 HB1 HH
    go_wp2_with fail
    refine Calls.mono (HY.out _ _ HB2.out HR2.out) ?_
    rintro e w3 ⟨v3, c3, rfl, hr3, hb3⟩
    have HR3 : Hid _ := hr3
    have HB3 : Hid (Below w.heap.size w w3) := HB2.out.trans (hb3.mono HB2.out.size)
    clear hr3 hb3
    go_wp2_with fail
    go_ret2
    exact ⟨_, _, rfl, HR3.out, HB3.out⟩
  · have hE : evE e = 2 := by unfold evE; rw [if_neg ho]
    have hB : bytE e = [] := by unfold bytE; rw [if_neg ho]
    replace HC : Hid (∀ wx : World, Below w.heap.size w wx → Calls Tryz.prog 77 #[.agg #[.int .i64 e.k, .int .i64 e.i, .int .i64 e.t, sv]] wx fun x w' => x = .returned (.int .i64 2) ∧ Below wx.heap.size wx w') := by
      show ∀ wx, _
      have := HC.out
      rw [hE] at this
      exact this
    rw [hE, hB]
    obtain ⟨sa, sc, rfl, _, _, hrr⟩ := hv
    clear hrr hE hB ho hn
    unfold EvV
    go_enter Tryz.func37, Tryz.ntmps37
    go_wp2_with fail
    refine Calls.mono (HC.out _ HX.out) ?_
    rintro e w1 ⟨rfl, hb1⟩
    have HB1 : Hid (Below w.heap.size w w1) := HX.out.trans (hb1.mono (by simp <;> omega))
    clear hb1 HX
    go_wp2_with fail
    go_ret2
    exact ⟨none, 0, rfl, RB.nil _, HB1.out⟩
end Go.Proofs.YtijkgdbabikojaaGreat

/- The walk over takeHead. -/
namespace Go.Proofs.YtijkgdbabikojaaGreat
set_option maxRecDepth 1000000
open Go.RowKit
set_option linter.unusedVariables false

/-- Has an event of this kind a try? -/
def tri (k : Int) : Bool := decide (4 ≤ k ∧ k ≤ 6)

theorem sort_tri {k : Int} (h : tri k = true) : ∃ W, sortV k = .iface 152 (.agg #[.string W]) := by
  have h1 : 4 ≤ k ∧ k ≤ 6 := of_decide_eq_true h
  exact ⟨_, by unfold sortV; rw [if_neg (by omega), if_pos h1]⟩
theorem sort_not {k : Int} (h : tri k = false) : ∀ w : World, (Instr.typeAssert (sortV k) 148 152 true).run Tryz.prog w = .ok (.tuple #[.agg #[.string ⟨#[]⟩], .bool false]) w := by
  have h1 : ¬ (4 ≤ k ∧ k ≤ 6) := of_decide_eq_false h
  unfold sortV
  by_cases h2 : 1 ≤ k ∧ k ≤ 3
  · rw [if_pos h2]; exact as_74_70 _
  · rw [if_neg h2, if_neg h1]; exact as_76_70 _

theorem results_ev2 {fn : Func} {p u : Tmp} (h : fn.results = #[.cell p 33, .tmp u]) (tmps : Array Value) (w : World) {g : Nat} {k i t : Int} {sv : Value}
    (hp : tmps.getD p undef = .pointer (some ⟨g, 0, none⟩)) (hg : Box w g k i t sv) :
    (results fn tmps).run Tryz.prog w = .ok (.tuple #[.agg #[.int .i64 k, .int .i64 i, .int .i64 t, sv], tmps.getD u undef]) w := by
  have hp' : tmps[p]?.getD undef = .pointer (some ⟨g, 0, none⟩) := by simpa using hp
  simp [results, h, hp', asAddr, run_loadVar_row (P := Tryz.prog) w g 33 33 _ (0, 0) _ hg Tryz.underlying33 rfl (by kernel_rfl)]

theorem results_ev3 {fn : Func} {p u v : Tmp} (h : fn.results = #[.cell p 33, .tmp u, .tmp v]) (tmps : Array Value) (w : World) {g : Nat} {k i t : Int} {sv : Value}
    (hp : tmps.getD p undef = .pointer (some ⟨g, 0, none⟩)) (hg : Box w g k i t sv) :
    (results fn tmps).run Tryz.prog w = .ok (.tuple #[.agg #[.int .i64 k, .int .i64 i, .int .i64 t, sv], tmps.getD u undef, tmps.getD v undef]) w := by
  have hp' : tmps[p]?.getD undef = .pointer (some ⟨g, 0, none⟩) := by simpa using hp
  simp [results, h, hp', asAddr, run_loadVar_row (P := Tryz.prog) w g 33 33 _ (0, 0) _ hg Tryz.underlying33 rfl (by kernel_rfl)]

theorem headF_cons (q : Bool) {b : List UInt8} (h : ¬ b = []) : headF q b = if q = true ∧ (takeP b 1).2.2 = 0 then ((b.getD 0 0).toNat, (takeP b 1).1, (takeP b (takeP b 1).2.1).1, (takeP b (takeP b 1).2.1).2.1, (takeP b (takeP b 1).2.1).2.2)
    else ((b.getD 0 0).toNat, (takeP b 1).1, 0, (takeP b 1).2.1, (takeP b 1).2.2) := by
  unfold headF
  rw [if_neg h]

theorem take_first (l : List UInt8) (p : Nat) (x : Value) (w : World) (hx : RB w x l) (hp : p ≤ l.length) (hl : l.length ≤ 100000) (n q E : Nat) (h : takeP l p = (n, q, E)) :
    Calls Tryz.prog 123 #[x, .int .i64 (p : Nat)] w fun e w' => e = .returned (.tuple #[.int .i64 (n : Nat), .int .i64 (q : Nat), .int .i64 (E : Nat)]) ∧ w' = w := by
  have h0 := take_any x l p w hx hp hl
  rw [h] at h0
  exact h0

theorem lt_of_cell {w : World} {a : Addr} {v : Value} (h : w.cell? a = some v) : a.block < w.heap.size := by
  unfold World.cell? at h
  cases ho : w.heap[a.block]? with
  | none => simp [ho] at h
  | some o => exact (Array.getElem?_eq_some_iff.1 ho).1

def headV (h : Nat × Nat × Nat × Nat × Nat) : Value := .tuple #[.agg #[.int .i64 (h.1 : Nat), .int .i64 (h.2.1 : Nat), .int .i64 (h.2.2.1 : Nat), .slice none 0 0], .int .i64 (h.2.2.2.1 : Nat), .int .i64 (h.2.2.2.2 : Nat)]

set_option maxRecDepth 1000000 in
set_option maxHeartbeats 4000000 in
theorem takeHead_any (x : Value) (b : List UInt8) (w : World) (hx : RB w x b) (hb : b.length ≤ 100000) :
    Calls Tryz.prog 108 #[x] w fun e w' => e = .returned (headV (headF (tri ((b.getD 0 0).toNat : Nat)) b)) ∧ Below w.heap.size w w' := by
  by_cases h0 : b = []
  · subst h0
    obtain ⟨xa, xc, rfl, _, _, _, _⟩ := hx
    go_enter Tryz.func108, Tryz.ntmps108
    go_wp2_with fail
    exact bodyPost_ret_by (results_ev3 rfl _ _ rfl (Box.new w 0 0 0 (.slice none 0 0))) rfl ⟨rfl, (Below.refl _ _).alloc (Nat.le_refl _) _⟩
  · have HT1 : Hid (∀ (n q E : Nat), takeP b 1 = (n, q, E) → ∀ wx : World, Below w.heap.size w wx → Calls Tryz.prog 123 #[x, .int .i64 1] wx fun e w' => e = .returned (.tuple #[.int .i64 (n : Nat), .int .i64 (q : Nat), .int .i64 (E : Nat)]) ∧ w' = wx) := by
      show ∀ n q E, _
      intro n q E h wx hbx
      exact take_first b 1 x wx (hx.later hbx) (by cases b with | nil => exact absurd rfl h0 | cons c l => simp) hb n q E h
    have hpos : 0 < b.length := by cases b with | nil => exact absurd rfl h0 | cons c l => simp
    have hbx := hx
    obtain ⟨xa, xc, rfl, _, _, _, hcells⟩ := hbx
    obtain ⟨b1, o1, rfl, hc1⟩ := hcells 0 hpos
    rw [headF_cons _ h0]
    have hc256 := UInt8.toNat_lt (b.getD 0 0)
    generalize (b.getD 0 0).toNat = c at *
    obtain ⟨n, q, E, hr1⟩ : ∃ n q E, takeP b 1 = (n, q, E) := ⟨_, _, _, rfl⟩
    rw [hr1]
    replace HT1 : Hid _ := HT1.out n q E hr1
    have HTK : Hid _ := hr1
    have HX : Hid _ := hx
    clear hcells hr1
    have d1 : ∀ o, (w.alloc o).cell? ⟨b1, o1, none⟩ = some (.int .u8 (c : Nat)) := fun o => (((Below.refl w.heap.size w).alloc (Nat.le_refl _) o).cell (p := ⟨b1, o1, none⟩) (by exact lt_of_cell hc1)).trans hc1
    have HB0 : Hid (∀ o, Below w.heap.size w (w.alloc o)) := fun o => (Below.refl _ _).alloc (Nat.le_refl _) o
    have hwr : wrap64 ((c : Nat) : Int) = (c : Nat) := by unfold wrap64; omega
    clear hc1 hx hc256
    have HQ : Hid (E = 0 → q ≤ b.length) := fun hE => by
      have := take_ok (l := b) (p := 1) (by omega) (by rw [HTK.out, hE])
      rw [HTK.out] at this
      exact this.2.2.1
    by_cases hE : E = 0
    · subst hE
      cases ht : tri (c : Nat)
      · have HS : Hid _ := sortOf_any (c : Nat)
        have q1 := sort_not ht
        generalize sortV (c : Nat) = sk at *
        rw [if_neg (by simp)]
        clear ht
        go_enter Tryz.func108, Tryz.ntmps108
        go_wp2_with fail
        refine Calls.mono (HT1.out _ (HB0.out _)) ?_
        rintro e w1 ⟨rfl, h2⟩
        obtain rfl := h2
        go_wp2_with fail
        refine Calls.mono (HS.out _) ?_
        rintro e w1 ⟨rfl, h2⟩
        obtain rfl := h2
        go_wp2_with fail
        exact bodyPost_ret_by (results_ev3 rfl _ _ rfl (((Box.new w (c : Nat) (n : Nat) 0 (.slice none 0 0)).alloc _).alloc _)) rfl ⟨rfl, ((HB0.out _).alloc (by simp) _).alloc (by simp; omega) _⟩
      · have HS : Hid _ := sortOf_any (c : Nat)
        obtain ⟨W, hW⟩ := sort_tri ht
        rw [hW] at HS
        have q1 := as_same 152 (.agg #[.string W]) (.inl rfl)
        rw [if_pos ⟨rfl, rfl⟩]
        obtain ⟨n2, q2, E2, hr2⟩ : ∃ n2 q2 E2, takeP b q = (n2, q2, E2) := ⟨_, _, _, rfl⟩
        dsimp only
        rw [hr2]
        have HT2 : Hid (∀ wx : World, Below w.heap.size w wx → Calls Tryz.prog 123 #[.slice (some ⟨b1, o1, none⟩) b.length xc, .int .i64 (q : Nat)] wx fun e w' => e = .returned (.tuple #[.int .i64 (n2 : Nat), .int .i64 (q2 : Nat), .int .i64 (E2 : Nat)]) ∧ w' = wx) := fun wx hbx => take_first b q _ wx (RB.later HX.out hbx) (HQ.out rfl) hb n2 q2 E2 hr2
        clear ht hW hr2 HTK HQ
        go_enter Tryz.func108, Tryz.ntmps108
        go_wp2_with fail
        refine Calls.mono (HT1.out _ (HB0.out _)) ?_
        rintro e w1 ⟨rfl, h2⟩
        obtain rfl := h2
        go_wp2_with fail
        refine Calls.mono (HS.out _) ?_
        rintro e w1 ⟨rfl, h2⟩
        obtain rfl := h2
        go_wp2_with fail
        refine Calls.mono (HT2.out _ (((HB0.out _).alloc (by simp) _).alloc (by simp; omega) _)) ?_
        rintro e w1 ⟨rfl, h2⟩
        obtain rfl := h2
        go_wp2_with fail
        exact bodyPost_ret_by (results_ev3 rfl _ _ rfl (((Box.new w (c : Nat) (n : Nat) (n2 : Nat) (.slice none 0 0)).alloc _).alloc _)) rfl ⟨rfl, ((HB0.out _).alloc (by simp) _).alloc (by simp; omega) _⟩
    · have hE1 : (((E : Nat) : Int) == 0) = false := by simpa using hE
      rw [if_neg (fun hh => hE hh.2)]
      cases ht : tri (c : Nat)
      · have HS : Hid _ := sortOf_any (c : Nat)
        have q1 := sort_not ht
        generalize sortV (c : Nat) = sk at *
        clear ht
        go_enter Tryz.func108, Tryz.ntmps108
        go_wp2_with fail
        refine Calls.mono (HT1.out _ (HB0.out _)) ?_
        rintro e w1 ⟨rfl, h2⟩
        obtain rfl := h2
        go_wp2_with fail
        refine Calls.mono (HS.out _) ?_
        rintro e w1 ⟨rfl, h2⟩
        obtain rfl := h2
        go_wp2_with fail
        exact bodyPost_ret_by (results_ev3 rfl _ _ rfl (((Box.new w (c : Nat) (n : Nat) 0 (.slice none 0 0)).alloc _).alloc _)) rfl ⟨rfl, ((HB0.out _).alloc (by simp) _).alloc (by simp; omega) _⟩
      · have HS : Hid _ := sortOf_any (c : Nat)
        obtain ⟨W, hW⟩ := sort_tri ht
        rw [hW] at HS
        have q1 := as_same 152 (.agg #[.string W]) (.inl rfl)
        clear ht hW
        go_enter Tryz.func108, Tryz.ntmps108
        go_wp2_with fail
        refine Calls.mono (HT1.out _ (HB0.out _)) ?_
        rintro e w1 ⟨rfl, h2⟩
        obtain rfl := h2
        go_wp2_with fail
        refine Calls.mono (HS.out _) ?_
        rintro e w1 ⟨rfl, h2⟩
        obtain rfl := h2
        go_wp2_with fail
        exact bodyPost_ret_by (results_ev3 rfl _ _ rfl (((Box.new w (c : Nat) (n : Nat) 0 (.slice none 0 0)).alloc _).alloc _)) rfl ⟨rfl, ((HB0.out _).alloc (by simp) _).alloc (by simp; omega) _⟩
end Go.Proofs.YtijkgdbabikojaaGreat

/- The walks over Key, Opens, and the document's Key, Opens, Same, Right, Check. -/
namespace Go.Proofs.YtijkgdbabikojaaGreat
set_option maxRecDepth 1000000
open Go.RowKit
set_option linter.unusedVariables false

def keyV (e : Ev) : Value := .agg #[.int .i64 e.i, .bool (decide (3 < e.k)), .int .i64 e.t]

def opens (k : Int) : Bool := decide (k = 1 ∨ k = 4)

set_option maxRecDepth 1000000 in
set_option maxHeartbeats 4000000 in
theorem rright_ev (e : Ev) (sv : Value) (w : World) (hv : RI w sv e.s) (hn : e.s.length ≤ 1000000) :
    Calls Tryz.prog 65 #[EvV e sv] w fun x w' => x = .returned (.bool (okE e)) ∧ Below w.heap.size w w' := by
  have HX : Hid (Below w.heap.size w (w.alloc (.cells #[.int .i64 e.k, .int .i64 e.i, .int .i64 e.t, sv] 33))) := (Below.refl _ _).alloc (Nat.le_refl _) _
  have HR : Hid _ := rright_any sv e.s (w.alloc (.cells #[.int .i64 e.k, .int .i64 e.i, .int .i64 e.t, sv] 33)) (hv.later HX.out) hn
  have HO : Hid (okE e = (okH e.k e.i e.t && okS e.s)) := rfl
  rw [HO.out]
  unfold EvV okH
  clear HO
  obtain ⟨sa, sc, rfl, _, _, hrr⟩ := hv
  clear hrr hn
  generalize okS e.s = o at *
  generalize e.k = k at *
  generalize e.i = i at *
  generalize e.t = t at *
  generalize e.s.length = n at *
  by_cases h : 1 ≤ k ∧ k ≤ 6 ∧ 1 ≤ i ∧ i ≤ 63 ∧ 0 ≤ t ∧ t ≤ 3
  · obtain ⟨h1, h2, h3, h4, h5, h6⟩ := h
    by_cases h7 : 3 < k
    · have HE : Hid (decide (1 ≤ k ∧ k ≤ 6 ∧ 1 ≤ i ∧ i ≤ 63 ∧ 0 ≤ t ∧ t ≤ 3 ∧ (3 < k ∨ t = 0)) = true) := decide_eq_true ⟨h1, h2, h3, h4, h5, h6, .inl h7⟩
      rw [HE.out, Bool.true_and]
      go_enter Tryz.func65, Tryz.ntmps65
      go_wp2_with fail
      refine Calls.mono HR.out ?_
      rintro e w1 ⟨rfl, h2⟩
      obtain rfl := h2
      go_wp2_with fail
      go_ret
      exact ⟨rfl, HX.out⟩
    · by_cases h8 : t = 0
      · subst h8
        have HE : Hid (decide (1 ≤ k ∧ k ≤ 6 ∧ 1 ≤ i ∧ i ≤ 63 ∧ (0 : Int) ≤ 0 ∧ (0 : Int) ≤ 3 ∧ (3 < k ∨ (0 : Int) = 0)) = true) := decide_eq_true ⟨h1, h2, h3, h4, h5, h6, .inr rfl⟩
        rw [HE.out, Bool.true_and]
        go_enter Tryz.func65, Tryz.ntmps65
        go_wp2_with fail
        refine Calls.mono HR.out ?_
        rintro e w1 ⟨rfl, h2⟩
        obtain rfl := h2
        go_wp2_with fail
        go_ret
        exact ⟨rfl, HX.out⟩
      · have g8 : (t == 0) = false := by simpa using h8
        have HE : Hid (decide (1 ≤ k ∧ k ≤ 6 ∧ 1 ≤ i ∧ i ≤ 63 ∧ 0 ≤ t ∧ t ≤ 3 ∧ (3 < k ∨ t = 0)) = false) := decide_eq_false (by omega)
        rw [HE.out, Bool.false_and]
        clear HE HR h8
        go_enter Tryz.func65, Tryz.ntmps65
        go_wp2_with fail
        go_ret
        exact ⟨rfl, HX.out⟩
  · have HE : Hid (decide (1 ≤ k ∧ k ≤ 6 ∧ 1 ≤ i ∧ i ≤ 63 ∧ 0 ≤ t ∧ t ≤ 3 ∧ (3 < k ∨ t = 0)) = false) := decide_eq_false (by omega)
    rw [HE.out, Bool.false_and]
    clear HE HR
    by_cases h1 : k < 1
    · go_enter Tryz.func65, Tryz.ntmps65
      go_wp2_with fail
      go_ret
      exact ⟨rfl, HX.out⟩
    · by_cases h2 : 6 < k
      · go_enter Tryz.func65, Tryz.ntmps65
        go_wp2_with fail
        go_ret
        exact ⟨rfl, HX.out⟩
      · by_cases h3 : i < 1
        · go_enter Tryz.func65, Tryz.ntmps65
          go_wp2_with fail
          go_ret
          exact ⟨rfl, HX.out⟩
        · by_cases h4 : 63 < i
          · go_enter Tryz.func65, Tryz.ntmps65
            go_wp2_with fail
            go_ret
            exact ⟨rfl, HX.out⟩
          · by_cases h5 : t < 0
            · go_enter Tryz.func65, Tryz.ntmps65
              go_wp2_with fail
              go_ret
              exact ⟨rfl, HX.out⟩
            · have h6 : 3 < t := by omega
              clear h
              go_enter Tryz.func65, Tryz.ntmps65
              go_wp2_with fail
              go_ret
              exact ⟨rfl, HX.out⟩

theorem evE_bool (e : Ev) : (evE e : Nat) = if okE e then 0 else 2 := rfl

end Go.Proofs.YtijkgdbabikojaaGreat

/- The walks over the document's Same and Digits. -/
namespace Go.Proofs.YtijkgdbabikojaaGreat
set_option maxRecDepth 1000000
open Go.RowKit
set_option linter.unusedVariables false

theorem ev_ext {a b : Ev} (h1 : a.k = b.k) (h2 : a.i = b.i) (h3 : a.t = b.t) (h4 : a.s = b.s) : a = b := by
  cases a; cases b
  simp only at h1 h2 h3 h4
  subst h1 h2 h3 h4
  rfl

def sameB (a b : Ev) : Bool := decide (a.k = b.k) && decide (a.i = b.i) && decide (a.t = b.t) && decide (a.s = b.s)

theorem sameB_iff {a b : Ev} : sameB a b = true ↔ a = b := by
  unfold sameB
  simp only [Bool.and_eq_true, decide_eq_true_eq]
  constructor
  · rintro ⟨⟨⟨h1, h2⟩, h3⟩, h4⟩
    exact ev_ext h1 h2 h3 h4
  · rintro rfl
    exact ⟨⟨⟨rfl, rfl⟩, rfl⟩, rfl⟩

theorem beq_dec (a b : Int) : (a == b) = decide (a = b) := by by_cases h : a = b <;> simp [h]

set_option maxRecDepth 1000000 in
set_option maxHeartbeats 4000000 in
theorem same_ev (a b : Ev) (va vb : Value) (w : World) (ha : RI w va a.s) (hb : RI w vb b.s) (na : a.s.length ≤ 1000000) (nb : b.s.length ≤ 1000000) :
    Calls Tryz.prog 70 #[EvV a va, EvV b vb] w fun x w' => x = .returned (.bool (sameB a b)) ∧ Below w.heap.size w w' := by
  have HX : Hid (Below w.heap.size w ((w.alloc (.cells #[.int .i64 a.k, .int .i64 a.i, .int .i64 a.t, va] 33)).alloc (.cells #[.int .i64 b.k, .int .i64 b.i, .int .i64 b.t, vb] 33))) := ((Below.refl _ _).alloc (Nat.le_refl _) _).alloc (by simp) _
  have HC : Hid _ := same_any a.s b.s va vb ((w.alloc (.cells #[.int .i64 a.k, .int .i64 a.i, .int .i64 a.t, va] 33)).alloc (.cells #[.int .i64 b.k, .int .i64 b.i, .int .i64 b.t, vb] 33)) (ha.later HX.out) (hb.later HX.out) na nb
  obtain ⟨sa, sc, rfl, _, _, hrr⟩ := ha
  obtain ⟨sb, sd, rfl, _, _, hrr'⟩ := hb
  clear hrr hrr'
  unfold EvV sameB
  generalize decide (a.s = b.s) = o at *
  generalize a.s.length = n1 at *
  generalize b.s.length = n2 at *
  generalize a.k = k1 at *
  generalize a.i = i1 at *
  generalize a.t = t1 at *
  generalize b.k = k2 at *
  generalize b.i = i2 at *
  generalize b.t = t2 at *
  by_cases hk : k1 = k2
  · have gk : (k1 == k2) = true := by simpa using hk
    rw [decide_eq_true hk, Bool.true_and]
    by_cases hi : i1 = i2
    · have gi : (i1 == i2) = true := by simpa using hi
      rw [decide_eq_true hi, Bool.true_and]
      by_cases ht : t1 = t2
      · have gt : (t1 == t2) = true := by simpa using ht
        rw [decide_eq_true ht, Bool.true_and]
        clear hk hi ht
        go_enter Tryz.func70, Tryz.ntmps70
        go_wp2_with fail
        refine Calls.mono HC.out ?_
        rintro e w1 ⟨rfl, hb1⟩
        have HB1 : Hid (Below w.heap.size w w1) := HX.out.trans (hb1.mono (by simp; omega))
        clear hb1
        go_wp2_with fail
        go_ret
        exact ⟨rfl, HB1.out⟩
      · have gt : (t1 == t2) = false := by simpa using ht
        rw [decide_eq_false ht, Bool.false_and]
        clear hk hi ht HC
        go_enter Tryz.func70, Tryz.ntmps70
        go_wp2_with fail
        go_ret
        exact ⟨rfl, HX.out⟩
    · have gi : (i1 == i2) = false := by simpa using hi
      rw [decide_eq_false hi, Bool.false_and, Bool.false_and]
      clear hk hi HC
      go_enter Tryz.func70, Tryz.ntmps70
      go_wp2_with fail
      go_ret
      exact ⟨rfl, HX.out⟩
  · have gk : (k1 == k2) = false := by simpa using hk
    rw [decide_eq_false hk, Bool.false_and, Bool.false_and, Bool.false_and]
    clear hk HC
    go_enter Tryz.func70, Tryz.ntmps70
    go_wp2_with fail
    go_ret
    exact ⟨rfl, HX.out⟩

end Go.Proofs.YtijkgdbabikojaaGreat

