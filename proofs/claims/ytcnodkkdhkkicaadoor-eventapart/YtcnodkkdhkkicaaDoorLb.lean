/- The walk over EventReads. -/
import Derived.Test.YtcnodkkdhkkicaaDoorLa
import Derived.Test.YtcnodkkdhkkicaaDoorEk
namespace Go.Proofs.YtcnodkkdhkkicaaDoor
open Go.RowKit
set_option linter.unusedVariables false

theorem evO_small (b : List UInt8) : (evO (rd b)).s.length ≤ 1000000 := by
  cases h : rd b with
  | none => simp [evO, Ev.none]
  | some e =>
    have := okS_len (okE_stamp (rd_some h).1)
    show e.s.length ≤ 1000000
    omega

/-- The program's Read and the document's, of the same bytes. -/
theorem read_rd (x : Value) (b : List UInt8) (w : World) (hx : RB w x b) (hb : b.length ≤ 100000) (o : Option Ev) (ho : rd b = o) :
    Calls Tryd.prog 18 #[x] w fun e w' => ReadC o w e w' := by
  subst ho
  exact read_ev x b w hx hb

theorem rread_rd (b : List UInt8) (w : World) (hb : b.length ≤ 100000) (o : Option Ev) (ho : rd b = o) :
    Calls Tryd.prog 19 #[.string ⟨b.toArray⟩] w fun e w' => ReadC o w e w' := by
  subst ho
  rw [← rd_doc]
  exact rread_ev b w hb

set_option maxRecDepth 1000000 in
set_option maxHeartbeats 4000000 in
theorem reads_walk (b : List UInt8) (a : Option Addr) (len cap : Nat) (w : World) (htab : Tab w.heap.size w) (hb : RB w (.slice a len cap) b) :
    Calls Tryd.prog 4 #[.slice a len cap] w fun x w' => x = .returned (.bool true) ∧ Below w.heap.size w w' := by
  obtain rfl : len = b.length := by obtain ⟨_, _, he, _⟩ := hb; simp only [Value.slice.injEq] at he; exact he.2.1
  have HL : Hid (∀ wx, Below w.heap.size w wx → Calls Tryd.prog 7 #[] wx fun x w' => x = .returned (.bool true) ∧ Below wx.heap.size wx w') := fun wx h => lives_any wx ((htab.later h).up h.size)
  have HX : Hid (RB w (.slice a b.length cap) b) := hb
  by_cases hlen : 5000 < b.length
  · clear hb htab HX
    go_enter Tryd.func4, Tryd.ntmps4
    go_wp2_with fail
    refine Calls.mono (HL.out _ (Below.refl _ _)) ?_
    rintro e w1 ⟨rfl, hb1⟩
    have HB1 : Hid (Below w.heap.size w w1) := hb1
    clear hb1
    go_wp2_with fail
    go_ret
    exact ⟨rfl, HB1.out⟩
  · have HO3 : Hid (OB w.heap.size (w.alloc (.cells #[] 5)) w.heap.size 0 0 []) := OB.made w 0 #[] (by unfold maxLen; omega) rfl
    have HB3 : Hid (Below w.heap.size w (w.alloc (.cells #[] 5))) := (Below.refl _ _).alloc (Nat.le_refl _) _
    obtain ⟨o, ho⟩ : ∃ o, o = rd b := ⟨_, rfl⟩
    have HP : Hid (∀ wx x, RB wx x b → Calls Tryd.prog 18 #[x] wx fun e w' => ∃ sv, e = .returned (.tuple #[.agg #[.int .i64 (evO o).k, .int .i64 (evO o).i, .int .i64 (evO o).t, sv], .int .i64 (errO o : Nat)]) ∧ RI w' sv (evO o).s ∧ Below wx.heap.size wx w') := fun wx x hx => read_rd x b wx hx (by omega) o ho.symm
    have HQ : Hid (∀ wx, Calls Tryd.prog 19 #[.string ⟨b.toArray⟩] wx fun e w' => ∃ sv, e = .returned (.tuple #[.agg #[.int .i64 (evO o).k, .int .i64 (evO o).i, .int .i64 (evO o).t, sv], .int .i64 (errO o : Nat)]) ∧ RI w' sv (evO o).s ∧ Below wx.heap.size wx w') := fun wx => rread_rd b wx (by omega) o ho.symm
    have HS : Hid (∀ wx va vb, RI wx va (evO o).s → RI wx vb (evO o).s → Calls Tryd.prog 20 #[.agg #[.int .i64 (evO o).k, .int .i64 (evO o).i, .int .i64 (evO o).t, va], .agg #[.int .i64 (evO o).k, .int .i64 (evO o).i, .int .i64 (evO o).t, vb]] wx fun x w' => x = .returned (.bool true) ∧ Below wx.heap.size wx w') := by
      show ∀ wx va vb, _
      intro wx va vb h1 h2
      have hsm : (evO o).s.length ≤ 1000000 := by rw [ho]; exact evO_small b
      have := same_ev (evO o) (evO o) va vb wx h1 h2 hsm hsm
      rw [sameB_iff.2 rfl] at this
      exact this
    clear hb htab ho
    generalize (evO o).s = s at *
    generalize (evO o).k = k at *
    generalize (evO o).i = i at *
    generalize (evO o).t = t at *
    generalize errO o = E at *
    go_enter Tryd.func4, Tryd.ntmps4
    go_wp2_with (first
      | (at_builtin; refine append_bytes rfl _ _ rfl w.heap.size w.heap.size 0 0 [] rfl HO3.out _ b rfl (RB.later HX.out HB3.out) (by omega) (by omega) (by simp) b.length b (by omega) rfl ?_; intro g4 c4 w4 ho4 hg4; have HB4 : Hid (Below w.heap.size w w4) := HB3.out.trans (HO3.out.below (by simp) hg4); have HO4 : Hid (RB w4 (.slice (some ⟨g4, 0, none⟩) b.length c4) b) := ho4.rb.2; clear ho4 hg4))
    refine Calls.mono (HP.out _ _ HO4.out) ?_
    rintro e w5 ⟨sv5, rfl, hr5, hb5⟩
    have HB5 : Hid (Below w.heap.size w (w5.alloc (.cells #[.int .i64 k, .int .i64 i, .int .i64 t, sv5] 25))) := (HB4.out.trans (hb5.mono HB4.out.size)).alloc (HB4.out.trans (hb5.mono HB4.out.size)).size _
    have HR5 : Hid (RI (w5.alloc (.cells #[.int .i64 k, .int .i64 i, .int .i64 t, sv5] 25)) sv5 s) := RI.later hr5 ((Below.refl _ _).alloc (Nat.le_refl _) _)
    have HX5 : Hid (Box (w5.alloc (.cells #[.int .i64 k, .int .i64 i, .int .i64 t, sv5] 25)) w5.heap.size k i t sv5) := Box.new w5 k i t sv5
    have hcv := string_of_RB (RB.later HX.out HB5.out)
    obtain ⟨a5, c5, rfl, _, _, _⟩ := hr5
    clear hb5 HB4 HO4 HO3 HB3 HP
    go_wp2_with fail
    refine Calls.mono (HQ.out _) ?_
    rintro e w6 ⟨sv6, rfl, hr6, hb6⟩
    have HB6 : Hid (Below w.heap.size w (w6.alloc (.cells #[.int .i64 k, .int .i64 i, .int .i64 t, sv6] 25))) := (HB5.out.trans (hb6.mono HB5.out.size)).alloc (HB5.out.trans (hb6.mono HB5.out.size)).size _
    have HR6 : Hid (RI (w6.alloc (.cells #[.int .i64 k, .int .i64 i, .int .i64 t, sv6] 25)) (.slice a5 s.length c5) s) := RI.later (RI.later HR5.out hb6) ((Below.refl _ _).alloc (Nat.le_refl _) _)
    have HQ6 : Hid (RI (w6.alloc (.cells #[.int .i64 k, .int .i64 i, .int .i64 t, sv6] 25)) sv6 s) := RI.later hr6 ((Below.refl _ _).alloc (Nat.le_refl _) _)
    have HX6 : Hid (Box (w6.alloc (.cells #[.int .i64 k, .int .i64 i, .int .i64 t, sv6] 25)) w5.heap.size k i t (.slice a5 s.length c5)) := (HX5.out.later hb6).alloc _
    obtain ⟨a6, c6, rfl, _, _, _⟩ := hr6
    clear hb6 HB5 HR5 HX5 hcv HQ
    have d0 := HX6.out.c0
    have d1 := HX6.out.c1
    have d2 := HX6.out.c2
    have d3 := HX6.out.c3
    go_wp2_with fail
    refine Calls.mono (HS.out _ _ _ HR6.out HQ6.out) ?_
    rintro e w7 ⟨rfl, hb7⟩
    have HB7 : Hid (Below w.heap.size w w7) := HB6.out.trans (hb7.mono HB6.out.size)
    clear hb7 HB6 HR6 HQ6 HX6 d0 d1 d2 d3
    go_wp2_with fail
    refine Calls.mono (HL.out _ HB7.out) ?_
    rintro e w8 ⟨rfl, hb8⟩
    have HB8 : Hid (Below w.heap.size w w8) := HB7.out.trans (hb8.mono HB7.out.size)
    clear hb8 HB7
    go_wp2_with fail
    go_ret
    exact ⟨rfl, HB8.out⟩
end Go.Proofs.YtcnodkkdhkkicaaDoor
