/- Texts of the seat, packed: Ej. -/
import Derived.Test.YtijkgdbabikojaaGreatP15
import Derived.Test.YtijkgdbabikojaaGreatP29
import Derived.Deep.RegionHeldLaw
/- The walks over the document's put and Bytes. -/
namespace Go.Proofs.YtijkgdbabikojaaGreat
set_option maxRecDepth 1000000
open Go.RowKit
set_option linter.unusedVariables false

/-- What is known of a world in which an event's cells lie in a block of the call's own. -/
def Hld (w : World) (k i t : Int) (sv : Value) (w' : World) : Prop :=
  Below w.heap.size w w' ∧ Box w' w.heap.size k i t sv ∧ w'.cell? ⟨w.heap.size, 0, none⟩ = some (.int .i64 k) ∧ w'.cell? ⟨w.heap.size, 1, none⟩ = some (.int .i64 i)

theorem Hld.mk' {w w' : World} {k i t : Int} {sv : Value} (h : Below w.heap.size w w') (hb : Box w' w.heap.size k i t sv) : Hld w k i t sv w' := ⟨h, hb, hb.c0, hb.c1⟩
theorem Hld.later {w w' w2 : World} {k i t : Int} {sv : Value} (h : Hld w k i t sv w') (hb : Below w'.heap.size w' w2) : Hld w k i t sv w2 := Hld.mk' (h.1.trans (hb.mono h.1.size)) (h.2.1.later hb)

theorem one_str (n : Int) (h0 : 0 ≤ n) (h1 : n ≤ 1099511627776) (D : List UInt8) (hD : D = oneP n.toNat) (w : World) :
    Calls Tryz.prog 113 #[.int .i64 n] w fun e w' => e = .returned (.string ⟨D.toArray⟩) ∧ Below w.heap.size w w' := by
  subst hD
  have := one_any n.toNat (by omega) w
  rw [show ((n.toNat : Nat) : Int) = n by omega] at this
  exact this

theorem rbytes_yes (a : List UInt8) (y : Value) (l : List Int) (w : World) (hy : RI w y l) (ha : a.length ≤ 90000) (hl : l.length ≤ 1000000) (ho : okS l = true) (L : List UInt8) (hL : L = a ++ putsP (natL l)) :
    Calls Tryz.prog 114 #[.string ⟨a.toArray⟩, y] w fun e w' => e = .returned (.tuple #[.string ⟨L.toArray⟩, .int .i64 0]) ∧ Below w.heap.size w w' := by
  subst hL
  have h := rbytes_any a y l w hy ha hl
  unfold bytR chkE at h
  rw [if_pos ho, if_pos ho] at h
  exact h

set_option maxRecDepth 1000000 in
set_option maxHeartbeats 4000000 in
theorem rput_ev (e : Ev) (sv : Value) (w : World) (hv : RI w sv e.s) (hn : e.s.length ≤ 1000000) (ho : okE e = true) :
    Calls Tryz.prog 91 #[EvV e sv] w fun x w' => x = .returned (.string ⟨(encE e).toArray⟩) ∧ Below w.heap.size w w' := by
  obtain ⟨k1, k2, i1, i2, t1, t2, kt⟩ := okE_head ho
  have hst := okE_stamp ho
  have hhl := head_small ho
  have HB : Hid (∀ wx (a : List UInt8), Below w.heap.size w wx → a = headP e → Calls Tryz.prog 114 #[.string ⟨a.toArray⟩, sv] wx fun x w' => x = .returned (.tuple #[.string ⟨(encE e).toArray⟩, .int .i64 0]) ∧ Below wx.heap.size wx w') := by
    show ∀ wx a, _
    rintro wx a hb rfl
    exact rbytes_yes _ sv e.s wx (hv.later hb) hhl hn hst _ rfl
  have H1 : Hid _ := one_str e.i (by omega) (by omega) _ rfl
  have H2 : Hid _ := one_str e.t (by omega) (by omega) _ rfl
  have l1 := one_six (n := e.i.toNat) (by omega)
  have l2 := one_six (n := e.t.toNat) (by omega)
  have HH : Hid (headP e = [UInt8.ofNat e.k.toNat] ++ oneP e.i.toNat ++ (if 3 < e.k then oneP e.t.toNat else [])) := rfl
  have HS0 : Hid (Hld w e.k e.i e.t sv (w.alloc (.cells #[.int .i64 e.k, .int .i64 e.i, .int .i64 e.t, sv] 33)).drew) := Hld.mk' (((Below.refl _ _).alloc (Nat.le_refl _) _).drew) (Box.new w e.k e.i e.t sv)
  have HY : Hid (bvs [UInt8.ofNat e.k.toNat] = [.int .u8 e.k]) := by
    show _ = _
    simp only [bvs, List.map_cons, List.map_nil, u8_nat, List.cons.injEq, and_true]
    congr 1
    omega
  have HON : Hid _ := one_slot w (.cells #[.int .i64 e.k, .int .i64 e.i, .int .i64 e.t, sv] 33) 0 (UInt8.ofNat e.k.toNat) e.k (by have := HY.out; simp only [bvs, List.map_cons, List.map_nil, List.cons.injEq, and_true] at this; exact this.symm)
  have hm3 : IntKind.u8.wrap e.k = e.k := by simp [IntKind.wrap, IntKind.signed, IntKind.bits]; omega
  have hcat : (⟨[UInt8.ofNat e.k.toNat].toArray⟩ : ByteArray) ++ ⟨(oneP e.i.toNat).toArray⟩ = ⟨([UInt8.ofNat e.k.toNat] ++ oneP e.i.toNat).toArray⟩ := bcat _ _
  obtain ⟨sa, sc, rfl, _, _, hrr⟩ := hv
  clear hrr hn ho hst hhl t1 t2 kt
  unfold EvV
  generalize encE e = T at *
  generalize headP e = H at *
  generalize oneP e.i.toNat = D1 at *
  generalize oneP e.t.toNat = D2 at *
  generalize e.k = k at *
  generalize e.i = i at *
  generalize e.t = t at *
  generalize e.s.length = n at *
  have hcv := fun wx => str_new wx (UInt8.ofNat k.toNat) k HY.out
  have hcvd := fun wx => str_newd wx (UInt8.ofNat k.toNat) k HY.out
  have hcv1 := string_of_RB (RB.later HON.out ((Below.refl _ _).drew))
  generalize UInt8.ofNat k.toNat = c at *
  have hcat2 : (⟨(c :: D1).toArray⟩ : ByteArray) ++ ⟨D2.toArray⟩ = ⟨(c :: D1 ++ D2).toArray⟩ := bcat _ _
  go_enter Tryz.func91, Tryz.ntmps91
  go_wp2_with fail
  go_region_held_law (fun w' => Below w.heap.size w w' ∧ Box w' w.heap.size k i t (.slice sa n sc) ∧ w'.cell? ⟨w.heap.size, 0, none⟩ = some (.int .i64 k) ∧ w'.cell? ⟨w.heap.size, 1, none⟩ = some (.int .i64 i)) (first | assumption | exact HS0.out | exact HS0.out.later hb2 | exact Hld.later ‹_› ((Below.refl _ _).alloc (Nat.le_refl _) _) | exact Hld.later ‹_› hb2) (first
    | (go_simp; go_at_call 113; refine Calls.mono (H1.out _) ?_; rintro e w2 ⟨rfl, hb2⟩; try (have hcv2 := string_of_RB (RB.later (RB.later HON.out ((Below.refl _ _).drew)) hb2)))
    )
  all_goals
    have HG2 : Hid (Hld w k i t (.slice sa n sc) w2) := by show Below _ _ _ ∧ Box _ _ _ _ _ _ ∧ _ = _ ∧ _ = _; first | assumption | exact HS0.out.later hb2 | exact (HS0.out.later (((Below.refl _ _).alloc (Nat.le_refl _) _).drew)).later hb2
    clear hcv hcvd hcv1 HON HS0 hb2 H1 hcat
    try clear hcv2
    have g0 := HG2.out.2.1.c0
    have g2 := HG2.out.2.1.c2
    have g3 := HG2.out.2.1.c3
    have q0 : ∀ o, (w2.alloc o).cell? ⟨w.heap.size, 0, none⟩ = some (.int .i64 k) := fun o => (HG2.out.2.1.alloc o).c0
    have q2 : ∀ o, (w2.alloc o).cell? ⟨w.heap.size, 2, none⟩ = some (.int .i64 t) := fun o => (HG2.out.2.1.alloc o).c2
    have q3 : ∀ o, (w2.alloc o).cell? ⟨w.heap.size, 3, none⟩ = some (.slice sa n sc) := fun o => (HG2.out.2.1.alloc o).c3
    by_cases h3 : 3 < k
    · rw [if_pos h3] at HH
      go_wp2_with fail
      refine Calls.mono (H2.out _) ?_
      rintro e w5 ⟨rfl, hb5⟩
      have HG5 : Hid (Hld w k i t (.slice sa n sc) w5) := by first | exact HG2.out.later hb5 | exact (HG2.out.later ((Below.refl _ _).alloc (Nat.le_refl _) _)).later hb5
      clear hb5 g0 g2 g3 q0 q2 q3
      have g3 := HG5.out.2.1.c3
      go_wp2_with fail
      refine Calls.mono (HB.out _ _ HG5.out.1 (by rw [HH.out]; simp)) ?_
      rintro e w6 ⟨rfl, hb6⟩
      have HB6 : Hid (Below w.heap.size w w6) := HG5.out.1.trans (hb6.mono HG5.out.1.size)
      clear hb6 g3
      go_wp2_with fail
      go_ret
      exact ⟨rfl, HB6.out⟩
    · rw [if_neg h3, List.append_nil] at HH
      go_wp2_with fail
      refine Calls.mono (HB.out _ _ (by first | exact HG2.out.1 | exact (HG2.out.later ((Below.refl _ _).alloc (Nat.le_refl _) _)).1) (by rw [HH.out]; simp)) ?_
      rintro e w6 ⟨rfl, hb6⟩
      have HB6 : Hid (Below w.heap.size w w6) := by first | exact HG2.out.1.trans (hb6.mono HG2.out.1.size) | exact (HG2.out.later ((Below.refl _ _).alloc (Nat.le_refl _) _)).1.trans (hb6.mono (HG2.out.later ((Below.refl _ _).alloc (Nat.le_refl _) _)).1.size)
      clear hb6 g0 g2 g3 q0 q2 q3
      go_wp2_with fail
      go_ret
      exact ⟨rfl, HB6.out⟩

theorem bytE_yes {e : Ev} (h : okE e = true) : bytE e = encE e := by unfold bytE; rw [if_pos h]
theorem bytE_no {e : Ev} (h : okE e = false) : bytE e = [] := by unfold bytE; rw [h]; rfl

set_option maxRecDepth 1000000 in
set_option maxHeartbeats 4000000 in
theorem rbytes_ev (e : Ev) (sv : Value) (w : World) (hv : RI w sv e.s) (hn : e.s.length ≤ 1000000) :
    Calls Tryz.prog 63 #[EvV e sv] w fun x w' => x = .returned (.tuple #[.string ⟨(bytE e).toArray⟩, .int .i64 (evE e : Nat)]) ∧ Below w.heap.size w w' := by
  have HX : Hid (Below w.heap.size w (w.alloc (.cells #[.int .i64 e.k, .int .i64 e.i, .int .i64 e.t, sv] 33))) := (Below.refl _ _).alloc (Nat.le_refl _) _
  have HC : Hid (Calls Tryz.prog 65 #[.agg #[.int .i64 e.k, .int .i64 e.i, .int .i64 e.t, sv]] (w.alloc (.cells #[.int .i64 e.k, .int .i64 e.i, .int .i64 e.t, sv] 33)) fun x w' => x = .returned (.bool (okE e)) ∧ Below (w.alloc (.cells #[.int .i64 e.k, .int .i64 e.i, .int .i64 e.t, sv] 33)).heap.size (w.alloc (.cells #[.int .i64 e.k, .int .i64 e.i, .int .i64 e.t, sv] 33)) w') := rright_ev e sv _ (hv.later HX.out) hn
  have HBX : Hid (Box (w.alloc (.cells #[.int .i64 e.k, .int .i64 e.i, .int .i64 e.t, sv] 33)) w.heap.size e.k e.i e.t sv) := Box.new w e.k e.i e.t sv
  rw [evE_bool]
  cases ho : okE e
  · rw [ho] at HC
    rw [bytE_no ho]
    obtain ⟨sa, sc, rfl, _, _, hrr⟩ := hv
    clear hrr hn ho
    unfold EvV
    go_enter Tryz.func63, Tryz.ntmps63
    go_wp2_with fail
    refine Calls.mono HC.out ?_
    rintro e w1 ⟨rfl, hb1⟩
    have HB1 : Hid (Below w.heap.size w w1) := HX.out.trans (hb1.mono (by simp))
    clear hb1 HX HC
    go_wp2_with fail
    go_ret2
    exact ⟨rfl, HB1.out⟩
  · have HP : Hid (∀ wx : World, Below w.heap.size w wx → Calls Tryz.prog 91 #[.agg #[.int .i64 e.k, .int .i64 e.i, .int .i64 e.t, sv]] wx fun x w' => x = .returned (.string ⟨(bytE e).toArray⟩) ∧ Below wx.heap.size wx w') := fun wx hb => by
      rw [bytE_yes ho]
      exact rput_ev e sv wx (hv.later hb) hn ho
    rw [ho] at HC
    obtain ⟨sa, sc, rfl, _, _, hrr⟩ := hv
    clear hrr hn ho
    unfold EvV
    generalize bytE e = D at *
    generalize e.k = k at *
    generalize e.i = i at *
    generalize e.t = t at *
    generalize e.s.length = n at *
    go_enter Tryz.func63, Tryz.ntmps63
    go_wp2_with fail
    refine Calls.mono HC.out ?_
    rintro e w1 ⟨rfl, hb1⟩
    have HB1 : Hid (Below w.heap.size w w1) := HX.out.trans (hb1.mono (by simp))
    have HBX1 : Hid (Box w1 w.heap.size k i t (.slice sa n sc)) := HBX.out.later hb1
    have d0 := HBX1.out.c0
    have d1 := HBX1.out.c1
    have d2 := HBX1.out.c2
    have d3 := HBX1.out.c3
    clear hb1 HX HC HBX
    go_wp2_with fail
    refine Calls.mono (HP.out _ HB1.out) ?_
    rintro e w2 ⟨rfl, hb2⟩
    have HB2 : Hid (Below w.heap.size w w2) := HB1.out.trans (hb2.mono HB1.out.size)
    clear hb2 d0 d1 d2 d3
    go_wp2_with fail
    go_ret2
    exact ⟨rfl, HB2.out⟩
end Go.Proofs.YtijkgdbabikojaaGreat

