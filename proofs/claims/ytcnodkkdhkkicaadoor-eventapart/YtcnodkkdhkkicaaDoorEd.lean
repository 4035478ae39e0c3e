/- The walk over Read. -/
import Derived.Test.YtcnodkkdhkkicaaDoorEc
namespace Go.Proofs.YtcnodkkdhkkicaaDoor
open Go.RowKit
set_option linter.unusedVariables false

/-- All four cells of a block set. -/
def set4 (w : World) (b : Nat) (a0 a1 a2 a3 : Value) : World := (((w.setCell ⟨b, 0, none⟩ a0).setCell ⟨b, 1, none⟩ a1).setCell ⟨b, 2, none⟩ a2).setCell ⟨b, 3, none⟩ a3

theorem Box.set4 {w : World} {b : Nat} {k i t : Int} {sv : Value} (h : Box w b k i t sv) (k' i' t' : Int) (sv' : Value) : Box (set4 w b (.int .i64 k') (.int .i64 i') (.int .i64 t') sv') b k' i' t' sv' :=
  row_set (row_set (row_set (row_set h 0 _) 1 _) 2 _) 3 _

theorem Box.set3 {w : World} {b : Nat} {k i t : Int} {sv : Value} (h : Box w b k i t sv) (sv' : Value) : Box (w.setCell ⟨b, 3, none⟩ sv') b k i t sv' := row_set h 3 _

theorem Box.other {w : World} {b c j : Nat} {k i t : Int} {sv u : Value} (h : Box w b k i t sv) (hn : b ≠ c) : Box (w.setCell ⟨c, j, none⟩ u) b k i t sv :=
  (Below.heap_setCell w ⟨c, j, none⟩ u b hn).trans h

theorem below_set4 {B : Nat} {w w' : World} {b : Nat} (h : Below B w w') (hb : B ≤ b) (a0 a1 a2 a3 : Value) : Below B w (set4 w' b a0 a1 a2 a3) :=
  (((h.setCell (p := ⟨b, 0, none⟩) hb _).setCell (p := ⟨b, 1, none⟩) hb _).setCell (p := ⟨b, 2, none⟩) hb _).setCell (p := ⟨b, 3, none⟩) hb _

/-- A list whose block is another one. -/
theorem RI.kept {w w' : World} {a : Option Addr} {n c : Nat} {l : List Int} (h : RI w (.slice a n c) l) (hk : ∀ x, a = some x → w'.heap[x.block]? = w.heap[x.block]?) : RI w' (.slice a n c) l := by
  obtain ⟨a', c', he, h1, h2, hc⟩ := h
  simp only [Value.slice.injEq] at he
  obtain ⟨rfl, rfl, rfl⟩ := he
  refine ⟨_, _, rfl, h1, h2, fun i hi => ?_⟩
  obtain ⟨b, off, rfl, hcc⟩ := hc i hi
  exact ⟨b, off, rfl, (World.cell?_of_block (w := w) (a := ⟨b, off + i, none⟩) (hk ⟨b, off, none⟩ rfl)).trans hcc⟩

theorem heap_set4 (w : World) (b x : Nat) (a0 a1 a2 a3 : Value) (h : x ≠ b) : (set4 w b a0 a1 a2 a3).heap[x]? = w.heap[x]? := by
  unfold Proofs.YtcnodkkdhkkicaaDoor.set4
  rw [Below.heap_setCell _ _ _ _ h, Below.heap_setCell _ _ _ _ h, Below.heap_setCell _ _ _ _ h, Below.heap_setCell _ _ _ _ h]

def evO (o : Option Ev) : Ev := o.getD Ev.none
def errO (o : Option Ev) : Nat := if o.isSome then 0 else 4

/-- What Read and the document's Read answer. -/
def ReadC (o : Option Ev) (w : World) (x : Ending) (w' : World) : Prop :=
  ∃ sv, x = .returned (.tuple #[EvV (evO o) sv, .int .i64 (errO o : Nat)]) ∧ RI w' sv (evO o).s ∧ Below w.heap.size w w'

/-- What is known when an answer is given. -/
structure Stand (w : World) (R : Nat) (w' : World) : Prop where
  box : Box w' R 0 0 0 (.slice none 0 0)
  bel : Below w.heap.size w w'
  le : w.heap.size ≤ R

theorem Stand.later {w w' w2 : World} {R : Nat} (h : Stand w R w') (hb : Below w'.heap.size w' w2) : Stand w R w2 := ⟨h.box.later hb, h.bel.trans (hb.mono h.bel.size), h.le⟩
theorem Stand.other {w w' : World} {R c j : Nat} {u : Value} (h : Stand w R w') (hn : R ≠ c) (hc : w.heap.size ≤ c) : Stand w R (w'.setCell ⟨c, j, none⟩ u) := ⟨h.box.other hn, h.bel.setCell (p := ⟨c, j, none⟩) hc _, h.le⟩

theorem read_none {w w' : World} {R : Nat} (h : Stand w R w') (o : Option Ev) (ho : o = none) :
    Box (set4 w' R (.int .i64 0) (.int .i64 0) (.int .i64 0) (.slice none 0 0)) R 0 0 0 (.slice none 0 0) ∧ ReadC o w (.returned (.tuple #[.agg #[.int .i64 0, .int .i64 0, .int .i64 0, .slice none 0 0], .int .i64 4])) (set4 w' R (.int .i64 0) (.int .i64 0) (.int .i64 0) (.slice none 0 0)) := by
  subst ho
  exact ⟨h.box.set4 0 0 0 _, _, rfl, RI.nil _, below_set4 h.bel h.le _ _ _ _⟩

theorem list_any (x : Value) (b : List UInt8) (p : Nat) (w : World) (hx : RB w x b) (hb : b.length ≤ 100000) (ns : List Nat) (q E : Nat) (h : readP b (p : Nat) = (ns, q, E)) :
    Calls Tryd.prog 32 #[x, .int .i64 (p : Nat)] w fun e w' => ∃ v c, e = .returned (.tuple #[.slice v ns.length c, .int .i64 (q : Nat), .int .i64 (E : Nat)]) ∧ RI w' (.slice v ns.length c) (intL ns) ∧ (∀ a, v = some a → w.heap.size ≤ a.block) ∧ Below w.heap.size w w' := by
  have h0 := read_any x b (p : Nat) w hx hb
  rw [h] at h0
  exact h0

set_option maxRecDepth 1000000 in
set_option maxHeartbeats 4000000 in
theorem read_ev (x : Value) (b : List UInt8) (w : World) (hx : RB w x b) (hb : b.length ≤ 100000) :
    Calls Tryd.prog 18 #[x] w fun e w' => ReadC (readF (tri ((b.getD 0 0).toNat : Nat)) b) w e w' := by
  have HH : Hid (∀ wx, Below w.heap.size w wx → Calls Tryd.prog 31 #[x] wx fun e w' => e = .returned (headV (headF (tri ((b.getD 0 0).toNat : Nat)) b)) ∧ Below wx.heap.size wx w') := fun wx hbx => takeHead_any x b wx (hx.later hbx) hb
  generalize tri ((b.getD 0 0).toNat : Nat) = q at *
  obtain ⟨k, i, t, at_, E, hh⟩ : ∃ k i t p E, headF q b = (k, i, t, p, E) := ⟨_, _, _, _, _, rfl⟩
  obtain ⟨ns, en, F, hl⟩ : ∃ ns en F, readP b (at_ : Nat) = (ns, en, F) := ⟨_, _, _, rfl⟩
  have HL : Hid (∀ wx, Below w.heap.size w wx → Calls Tryd.prog 32 #[x, .int .i64 (at_ : Nat)] wx fun e w' => ∃ v c, e = .returned (.tuple #[.slice v ns.length c, .int .i64 (en : Nat), .int .i64 (F : Nat)]) ∧ RI w' (.slice v ns.length c) (intL ns) ∧ (∀ a, v = some a → wx.heap.size ≤ a.block) ∧ Below wx.heap.size wx w') := fun wx hbx => list_any x b at_ wx (hx.later hbx) hb ns en F hl
  have HCK : Hid (∀ (wx : World) (sv : Value), RI wx sv (intL ns) → Calls Tryd.prog 10 #[.agg #[.int .i64 (k : Nat), .int .i64 (i : Nat), .int .i64 (t : Nat), sv]] wx fun x w' => x = .returned (.int .i64 (evE ⟨(k : Nat), (i : Nat), (t : Nat), intL ns⟩ : Nat)) ∧ Below wx.heap.size wx w') := fun wx sv hs => check_ev ⟨(k : Nat), (i : Nat), (t : Nat), intL ns⟩ sv wx hs (by
    rw [intL_len]
    have h1 := list_small b (at_ : Nat)
    unfold readP at hl
    split at hl
    · split at hl
      · rw [hl] at h1; exact h1
      · cases hl; simp
    · cases hl; simp)
  have HF : Hid (readF q b = if E = 0 then (if F = 0 then (if en = b.length ∧ okE ⟨(k : Nat), (i : Nat), (t : Nat), intL ns⟩ = true then some ⟨(k : Nat), (i : Nat), (t : Nat), intL ns⟩ else none) else none) else none) := by
    show _ = _
    unfold readF evF
    rw [hh]
    dsimp only
    rw [hl]
  rw [hh] at HH
  unfold headV at HH
  dsimp only at HH
  rw [HF.out]
  have HS0 : Hid (Stand w w.heap.size (w.alloc (.cells #[.int .i64 0, .int .i64 0, .int .i64 0, .slice none 0 0] 25))) := ⟨Box.new w 0 0 0 _, (Below.refl _ _).alloc (Nat.le_refl _) _, Nat.le_refl _⟩
  clear hh hl HF
  obtain ⟨xa, xc, rfl, _, _, _, hrr⟩ := hx
  clear hrr
  by_cases hE : E = 0
  · subst hE
    rw [if_pos rfl]
    by_cases hF : F = 0
    · subst hF
      rw [if_pos rfl]
      by_cases hen : en = b.length
      · have hn1 : (((en : Nat) : Int) != ((b.length : Nat) : Int)) = false := by rw [hen]; simp
        by_cases ho : okE ⟨(k : Nat), (i : Nat), (t : Nat), intL ns⟩ = true
        · rw [if_pos ⟨hen, ho⟩]
          have hev : evE ⟨(k : Nat), (i : Nat), (t : Nat), intL ns⟩ = 0 := by unfold evE; rw [if_pos ho]
          rw [hev] at HCK
          clear hen ho hev
          go_enter Tryd.func18, Tryd.ntmps18
          go_wp2_with fail
          refine Calls.mono (HH.out _ HS0.out.bel) ?_
          rintro e w1 ⟨rfl, hb1⟩
          have HS1 : Hid (Stand w w.heap.size w1) := HS0.out.later hb1
          have HS2 : Hid (Stand w w.heap.size (w1.alloc (.cells #[.int .i64 (k : Nat), .int .i64 (i : Nat), .int .i64 (t : Nat), .slice none 0 0] 25))) := HS1.out.later ((Below.refl _ _).alloc (Nat.le_refl _) _)
          have HB2 : Hid (Box (w1.alloc (.cells #[.int .i64 (k : Nat), .int .i64 (i : Nat), .int .i64 (t : Nat), .slice none 0 0] 25)) w1.heap.size (k : Nat) (i : Nat) (t : Nat) (.slice none 0 0)) := Box.new w1 _ _ _ _
          have HZ1 : Hid (w.heap.size < w1.heap.size) := HS1.out.box.lt
          clear hb1 HS0 HH
          go_wp2_with fail
          refine Calls.mono (HL.out _ HS2.out.bel) ?_
          rintro e w3 ⟨v3, c3, rfl, hr3, hp3, hb3⟩
          have HS3 : Hid (Stand w w.heap.size w3) := HS2.out.later hb3
          have HB3 : Hid (Box w3 w1.heap.size (k : Nat) (i : Nat) (t : Nat) (.slice none 0 0)) := HB2.out.later hb3
          have HP3 : Hid (∀ a, v3 = some a → w1.heap.size < a.block) := fun a ha => by have := hp3 a ha; simp at this; omega
          have HS4 : Hid (Stand w w.heap.size (w3.setCell ⟨w1.heap.size, 3, none⟩ (.slice v3 ns.length c3))) := HS3.out.other (by have := HZ1.out; omega) (by have := HZ1.out; omega)
          have HB4 : Hid (Box (w3.setCell ⟨w1.heap.size, 3, none⟩ (.slice v3 ns.length c3)) w1.heap.size (k : Nat) (i : Nat) (t : Nat) (.slice v3 ns.length c3)) := HB3.out.set3 _
          have HR4 : Hid (RI (w3.setCell ⟨w1.heap.size, 3, none⟩ (.slice v3 ns.length c3)) (.slice v3 ns.length c3) (intL ns)) := RI.kept hr3 (fun x hx => Below.heap_setCell _ _ _ _ (by have := HP3.out x hx; simp; omega))
          have g3 := HB3.out.c3
          have gf := HB3.out.f 3
          clear hr3 hp3 hb3 HS1 HS2 HB2 HL
          have c0 := HS4.out.box.c0
          have c1 := HS4.out.box.c1
          have c2 := HS4.out.box.c2
          have cc3 := HS4.out.box.c3
          have f0 := HS4.out.box.f 0
          have f1 := HS4.out.box.f 1
          have f2 := HS4.out.box.f 2
          have f3 := HS4.out.box.f 3
          have hsz := HS4.out.box.lt
          have j0 := HB4.out.c0
          have j1 := HB4.out.c1
          have j2 := HB4.out.c2
          have j3 := HB4.out.c3
          go_wp2_with fail
          refine Calls.mono (HCK.out _ _ HR4.out) ?_
          rintro e w5 ⟨rfl, hb5⟩
          have HS5 : Hid (Stand w w.heap.size w5) := HS4.out.later hb5
          have HB5 : Hid (Box w5 w1.heap.size (k : Nat) (i : Nat) (t : Nat) (.slice v3 ns.length c3)) := HB4.out.later hb5
          have HR5 : Hid (RI w5 (.slice v3 ns.length c3) (intL ns)) := RI.later HR4.out hb5
          clear hb5 c0 c1 c2 cc3 f0 f1 f2 f3 hsz j0 j1 j2 j3 HS4 HB4 HR4 g3 gf HB3 HS3
          have c0 := HS5.out.box.c0
          have c1 := HS5.out.box.c1
          have c2 := HS5.out.box.c2
          have cc3 := HS5.out.box.c3
          have f0 := HS5.out.box.f 0
          have f1 := HS5.out.box.f 1
          have f2 := HS5.out.box.f 2
          have f3 := HS5.out.box.f 3
          have hsz := HS5.out.box.lt
          have j0 := HB5.out.c0
          have j1 := HB5.out.c1
          have j2 := HB5.out.c2
          have j3 := HB5.out.c3
          go_wp2_with fail
          exact bodyPost_ret_by (results_ev2 rfl _ _ rfl (HS5.out.box.set4 (k : Nat) (i : Nat) (t : Nat) (.slice v3 ns.length c3))) rfl ⟨_, rfl, RI.kept HR5.out (fun x hx => heap_set4 _ _ _ _ _ _ _ (by have := HP3.out x hx; have := HZ1.out; omega)), below_set4 HS5.out.bel HS5.out.le _ _ _ _⟩
        · rw [if_neg (fun hh => ho hh.2)]
          have hev : evE ⟨(k : Nat), (i : Nat), (t : Nat), intL ns⟩ = 2 := by unfold evE; rw [if_neg ho]
          rw [hev] at HCK
          clear hen ho hev
          go_enter Tryd.func18, Tryd.ntmps18
          go_wp2_with fail
          refine Calls.mono (HH.out _ HS0.out.bel) ?_
          rintro e w1 ⟨rfl, hb1⟩
          have HS1 : Hid (Stand w w.heap.size w1) := HS0.out.later hb1
          have HS2 : Hid (Stand w w.heap.size (w1.alloc (.cells #[.int .i64 (k : Nat), .int .i64 (i : Nat), .int .i64 (t : Nat), .slice none 0 0] 25))) := HS1.out.later ((Below.refl _ _).alloc (Nat.le_refl _) _)
          have HB2 : Hid (Box (w1.alloc (.cells #[.int .i64 (k : Nat), .int .i64 (i : Nat), .int .i64 (t : Nat), .slice none 0 0] 25)) w1.heap.size (k : Nat) (i : Nat) (t : Nat) (.slice none 0 0)) := Box.new w1 _ _ _ _
          have HZ1 : Hid (w.heap.size < w1.heap.size) := HS1.out.box.lt
          clear hb1 HS0 HH
          go_wp2_with fail
          refine Calls.mono (HL.out _ HS2.out.bel) ?_
          rintro e w3 ⟨v3, c3, rfl, hr3, hp3, hb3⟩
          have HS3 : Hid (Stand w w.heap.size w3) := HS2.out.later hb3
          have HB3 : Hid (Box w3 w1.heap.size (k : Nat) (i : Nat) (t : Nat) (.slice none 0 0)) := HB2.out.later hb3
          have HP3 : Hid (∀ a, v3 = some a → w1.heap.size < a.block) := fun a ha => by have := hp3 a ha; simp at this; omega
          have HS4 : Hid (Stand w w.heap.size (w3.setCell ⟨w1.heap.size, 3, none⟩ (.slice v3 ns.length c3))) := HS3.out.other (by have := HZ1.out; omega) (by have := HZ1.out; omega)
          have HB4 : Hid (Box (w3.setCell ⟨w1.heap.size, 3, none⟩ (.slice v3 ns.length c3)) w1.heap.size (k : Nat) (i : Nat) (t : Nat) (.slice v3 ns.length c3)) := HB3.out.set3 _
          have HR4 : Hid (RI (w3.setCell ⟨w1.heap.size, 3, none⟩ (.slice v3 ns.length c3)) (.slice v3 ns.length c3) (intL ns)) := RI.kept hr3 (fun x hx => Below.heap_setCell _ _ _ _ (by have := HP3.out x hx; simp; omega))
          have g3 := HB3.out.c3
          have gf := HB3.out.f 3
          clear hr3 hp3 hb3 HS1 HS2 HB2 HL
          have c0 := HS4.out.box.c0
          have c1 := HS4.out.box.c1
          have c2 := HS4.out.box.c2
          have cc3 := HS4.out.box.c3
          have f0 := HS4.out.box.f 0
          have f1 := HS4.out.box.f 1
          have f2 := HS4.out.box.f 2
          have f3 := HS4.out.box.f 3
          have hsz := HS4.out.box.lt
          have j0 := HB4.out.c0
          have j1 := HB4.out.c1
          have j2 := HB4.out.c2
          have j3 := HB4.out.c3
          go_wp2_with fail
          refine Calls.mono (HCK.out _ _ HR4.out) ?_
          rintro e w5 ⟨rfl, hb5⟩
          have HS5 : Hid (Stand w w.heap.size w5) := HS4.out.later hb5
          clear hb5 c0 c1 c2 cc3 f0 f1 f2 f3 hsz j0 j1 j2 j3 HS4 HB4 HR4 g3 gf HB3 HS3
          have c0 := HS5.out.box.c0
          have c1 := HS5.out.box.c1
          have c2 := HS5.out.box.c2
          have cc3 := HS5.out.box.c3
          have f0 := HS5.out.box.f 0
          have f1 := HS5.out.box.f 1
          have f2 := HS5.out.box.f 2
          have f3 := HS5.out.box.f 3
          have hsz := HS5.out.box.lt
          go_wp2_with fail
          exact bodyPost_ret_by (results_ev2 rfl _ _ rfl (HS5.out.box.set4 0 0 0 (.slice none 0 0))) rfl ⟨_, rfl, RI.nil _, below_set4 HS5.out.bel HS5.out.le _ _ _ _⟩
      · rw [if_neg (fun hh => hen hh.1)]
        have hn1 : (((en : Nat) : Int) != ((b.length : Nat) : Int)) = true := by simp; omega
        clear HCK hen
        go_enter Tryd.func18, Tryd.ntmps18
        go_wp2_with fail
        refine Calls.mono (HH.out _ HS0.out.bel) ?_
        rintro e w1 ⟨rfl, hb1⟩
        have HS1 : Hid (Stand w w.heap.size w1) := HS0.out.later hb1
        have HS2 : Hid (Stand w w.heap.size (w1.alloc (.cells #[.int .i64 (k : Nat), .int .i64 (i : Nat), .int .i64 (t : Nat), .slice none 0 0] 25))) := HS1.out.later ((Below.refl _ _).alloc (Nat.le_refl _) _)
        have HB2 : Hid (Box (w1.alloc (.cells #[.int .i64 (k : Nat), .int .i64 (i : Nat), .int .i64 (t : Nat), .slice none 0 0] 25)) w1.heap.size (k : Nat) (i : Nat) (t : Nat) (.slice none 0 0)) := Box.new w1 _ _ _ _
        have HZ1 : Hid (w.heap.size < w1.heap.size) := HS1.out.box.lt
        clear hb1 HS0 HH
        go_wp2_with fail
        refine Calls.mono (HL.out _ HS2.out.bel) ?_
        rintro e w3 ⟨v3, c3, rfl, hr3, hp3, hb3⟩
        have HS3 : Hid (Stand w w.heap.size w3) := HS2.out.later hb3
        have HB3 : Hid (Box w3 w1.heap.size (k : Nat) (i : Nat) (t : Nat) (.slice none 0 0)) := HB2.out.later hb3
        have HP3 : Hid (∀ a, v3 = some a → w1.heap.size < a.block) := fun a ha => by have := hp3 a ha; simp at this; omega
        have HS4 : Hid (Stand w w.heap.size (w3.setCell ⟨w1.heap.size, 3, none⟩ (.slice v3 ns.length c3))) := HS3.out.other (by have := HZ1.out; omega) (by have := HZ1.out; omega)
        have HB4 : Hid (Box (w3.setCell ⟨w1.heap.size, 3, none⟩ (.slice v3 ns.length c3)) w1.heap.size (k : Nat) (i : Nat) (t : Nat) (.slice v3 ns.length c3)) := HB3.out.set3 _
        have HR4 : Hid (RI (w3.setCell ⟨w1.heap.size, 3, none⟩ (.slice v3 ns.length c3)) (.slice v3 ns.length c3) (intL ns)) := RI.kept hr3 (fun x hx => Below.heap_setCell _ _ _ _ (by have := HP3.out x hx; simp; omega))
        have g3 := HB3.out.c3
        have gf := HB3.out.f 3
        clear hr3 hp3 hb3 HS1 HS2 HB2 HL
        have c0 := HS4.out.box.c0
        have c1 := HS4.out.box.c1
        have c2 := HS4.out.box.c2
        have cc3 := HS4.out.box.c3
        have f0 := HS4.out.box.f 0
        have f1 := HS4.out.box.f 1
        have f2 := HS4.out.box.f 2
        have f3 := HS4.out.box.f 3
        have hsz := HS4.out.box.lt
        go_wp2_with fail
        exact bodyPost_ret_by (results_ev2 rfl _ _ rfl (HS4.out.box.set4 0 0 0 (.slice none 0 0))) rfl ⟨_, rfl, RI.nil _, below_set4 HS4.out.bel HS4.out.le _ _ _ _⟩
    · rw [if_neg hF]
      have hF1 : (((F : Nat) : Int) == 0) = false := by simpa using hF
      have hF2 : (((F : Nat) : Int) != 0) = true := by simpa using hF
      clear HCK
      go_enter Tryd.func18, Tryd.ntmps18
      go_wp2_with fail
      refine Calls.mono (HH.out _ HS0.out.bel) ?_
      rintro e w1 ⟨rfl, hb1⟩
      have HS1 : Hid (Stand w w.heap.size w1) := HS0.out.later hb1
      have HS2 : Hid (Stand w w.heap.size (w1.alloc (.cells #[.int .i64 (k : Nat), .int .i64 (i : Nat), .int .i64 (t : Nat), .slice none 0 0] 25))) := HS1.out.later ((Below.refl _ _).alloc (Nat.le_refl _) _)
      have HB2 : Hid (Box (w1.alloc (.cells #[.int .i64 (k : Nat), .int .i64 (i : Nat), .int .i64 (t : Nat), .slice none 0 0] 25)) w1.heap.size (k : Nat) (i : Nat) (t : Nat) (.slice none 0 0)) := Box.new w1 _ _ _ _
      have HZ1 : Hid (w.heap.size < w1.heap.size) := HS1.out.box.lt
      clear hb1 HS0 HH
      go_wp2_with fail
      refine Calls.mono (HL.out _ HS2.out.bel) ?_
      rintro e w3 ⟨v3, c3, rfl, hr3, hp3, hb3⟩
      have HS3 : Hid (Stand w w.heap.size w3) := HS2.out.later hb3
      have HB3 : Hid (Box w3 w1.heap.size (k : Nat) (i : Nat) (t : Nat) (.slice none 0 0)) := HB2.out.later hb3
      have HP3 : Hid (∀ a, v3 = some a → w1.heap.size < a.block) := fun a ha => by have := hp3 a ha; simp at this; omega
      have HS4 : Hid (Stand w w.heap.size (w3.setCell ⟨w1.heap.size, 3, none⟩ (.slice v3 ns.length c3))) := HS3.out.other (by have := HZ1.out; omega) (by have := HZ1.out; omega)
      have HB4 : Hid (Box (w3.setCell ⟨w1.heap.size, 3, none⟩ (.slice v3 ns.length c3)) w1.heap.size (k : Nat) (i : Nat) (t : Nat) (.slice v3 ns.length c3)) := HB3.out.set3 _
      have HR4 : Hid (RI (w3.setCell ⟨w1.heap.size, 3, none⟩ (.slice v3 ns.length c3)) (.slice v3 ns.length c3) (intL ns)) := RI.kept hr3 (fun x hx => Below.heap_setCell _ _ _ _ (by have := HP3.out x hx; simp; omega))
      have g3 := HB3.out.c3
      have gf := HB3.out.f 3
      clear hr3 hp3 hb3 HS1 HS2 HB2 HL
      have c0 := HS4.out.box.c0
      have c1 := HS4.out.box.c1
      have c2 := HS4.out.box.c2
      have cc3 := HS4.out.box.c3
      have f0 := HS4.out.box.f 0
      have f1 := HS4.out.box.f 1
      have f2 := HS4.out.box.f 2
      have f3 := HS4.out.box.f 3
      have hsz := HS4.out.box.lt
      go_wp2_with fail
      exact bodyPost_ret_by (results_ev2 rfl _ _ rfl (HS4.out.box.set4 0 0 0 (.slice none 0 0))) rfl ⟨_, rfl, RI.nil _, below_set4 HS4.out.bel HS4.out.le _ _ _ _⟩
  · rw [if_neg hE]
    have hE1 : (((E : Nat) : Int) == 0) = false := by simpa using hE
    have hE2 : (((E : Nat) : Int) != 0) = true := by simpa using hE
    clear HL HCK
    go_enter Tryd.func18, Tryd.ntmps18
    go_wp2_with fail
    refine Calls.mono (HH.out _ HS0.out.bel) ?_
    rintro e w1 ⟨rfl, hb1⟩
    have HS1 : Hid (Stand w w.heap.size w1) := HS0.out.later hb1
    have c0 := HS1.out.box.c0
    have c1 := HS1.out.box.c1
    have c2 := HS1.out.box.c2
    have cc3 := HS1.out.box.c3
    have f0 := HS1.out.box.f 0
    have f1 := HS1.out.box.f 1
    have f2 := HS1.out.box.f 2
    have f3 := HS1.out.box.f 3
    have hsz := HS1.out.box.lt
    clear hb1 HS0
    go_wp2_with fail
    exact bodyPost_ret_by (results_ev2 rfl _ _ rfl ((HS1.out.box.set4 0 0 0 (.slice none 0 0)).alloc _)) rfl ⟨_, rfl, RI.nil _, (below_set4 HS1.out.bel HS1.out.le _ _ _ _).alloc (below_set4 HS1.out.bel HS1.out.le _ _ _ _).size _⟩
end Go.Proofs.YtcnodkkdhkkicaaDoor
