/- Texts of the seat, packed: Ek. -/
import Derived.Test.YtijkgdbabikojaaGreatP16
import Derived.Test.YtijkgdbabikojaaGreatP30
/- The walk over the document's Read. -/
namespace Go.Proofs.YtijkgdbabikojaaGreat
set_option maxRecDepth 1000000
open Go.RowKit
set_option linter.unusedVariables false

theorem rtake_first (l : List UInt8) (p : Nat) (hp : p ≤ l.length) (hl : l.length ≤ 100000) (n q E : Nat) (h : takeP l p = (n, q, E)) (w : World) :
    Calls Tryz.prog 95 #[.string ⟨l.toArray⟩, .int .i64 (p : Nat)] w fun e w' => e = .returned (.tuple #[.int .i64 (n : Nat), .int .i64 (q : Nat), .int .i64 (E : Nat)]) ∧ Below w.heap.size w w' := by
  have h0 := rtake_any l p w hp hl
  rw [h] at h0
  exact h0

theorem rlist_any (b : List UInt8) (p : Nat) (w : World) (hb : b.length ≤ 100000) (ns : List Nat) (q E : Nat) (h : readP b (p : Nat) = (ns, q, E)) :
    Calls Tryz.prog 96 #[.string ⟨b.toArray⟩, .int .i64 (p : Nat)] w fun e w' => ∃ v c, e = .returned (.tuple #[.slice v ns.length c, .int .i64 (q : Nat), .int .i64 (E : Nat)]) ∧ RI w' (.slice v ns.length c) (intL ns) ∧ (∀ a, v = some a → w.heap.size ≤ a.block) ∧ Below w.heap.size w w' := by
  have h0 := rread_any b (p : Nat) w hb
  rw [h] at h0
  exact h0

theorem read_small (b : List UInt8) (p : Nat) (ns : List Nat) (en F : Nat) (hl : readP b (p : Nat) = (ns, en, F)) : (intL ns).length ≤ 1000000 := by
  rw [intL_len]
  have h1 := list_small b (p : Nat)
  unfold readP at hl
  split at hl
  · split at hl
    · rw [hl] at h1; exact h1
    · cases hl; simp
  · cases hl; simp

theorem str_first (b : List UInt8) (h : 0 < b.length) : ∀ wx : World, (Instr.index 9 (.string ⟨b.toArray⟩) (.int .i64 0)).run Tryz.prog wx = .ok (.int .u8 ((b.getD 0 0).toNat : Nat)) wx := by
  exact fun wx => str_at b 0 0 rfl h wx

set_option maxRecDepth 1000000 in
set_option maxHeartbeats 8000000 in
theorem rread_ev (b : List UInt8) (w : World) (hb : b.length ≤ 100000) :
    Calls Tryz.prog 68 #[.string ⟨b.toArray⟩] w fun e w' => ReadC (readF (decide (3 < (((b.getD 0 0).toNat : Nat) : Int))) b) w e w' := by
  have hsz : (⟨b.toArray⟩ : ByteArray).size = b.length := by simp [ByteArray.size]
  by_cases h0 : b = []
  · subst h0
    have HF : Hid (readF (decide (3 < ((([] : List UInt8).getD 0 0).toNat : Int))) [] = none) := rfl
    have HS0 : Hid (Stand w w.heap.size (w.alloc (.cells #[.int .i64 0, .int .i64 0, .int .i64 0, .slice none 0 0] 33))) := ⟨Box.new w 0 0 0 _, (Below.refl _ _).alloc (Nat.le_refl _) _, Nat.le_refl _⟩
    rw [show (((([] : List UInt8).getD 0 0).toNat : Nat) : Int) = ((([] : List UInt8).getD 0 0).toNat : Int) from rfl, HF.out]
    clear HF
    go_enter Tryz.func68, Tryz.ntmps68
    go_wp2_with fail
    exact bodyPost_ret_by (results_ev2 rfl _ _ rfl HS0.out.box) rfl ⟨_, rfl, RI.nil _, (fun _ _ _ h => by cases h), HS0.out.bel⟩
  · have hpos : 0 < b.length := by cases b with | nil => exact absurd rfl h0 | cons c l => simp
    have hix := str_first b hpos
    have hc256 := UInt8.toNat_lt (b.getD 0 0)
    obtain ⟨c, hc⟩ : ∃ c, c = (b.getD 0 0).toNat := ⟨_, rfl⟩
    have HCC : Hid _ := headF_cons (decide (3 < ((c : Nat) : Int))) h0
    rw [← hc] at hix hc256 HCC ⊢
    have hwr : wrap64 ((c : Nat) : Int) = (c : Nat) := by unfold wrap64; omega
    obtain ⟨n, q, E, hr1⟩ : ∃ n q E, takeP b 1 = (n, q, E) := ⟨_, _, _, rfl⟩
    have HT1 : Hid _ := rtake_first b 1 (by omega) hb n q E hr1
    rw [hr1] at HCC
    dsimp only at HCC
    have HQ : Hid (E = 0 → q ≤ b.length) := fun hE => by
      have := take_ok (l := b) (p := 1) (by omega) (by rw [hr1, hE])
      rw [hr1] at this
      exact this.2.2.1
    have HS0 : Hid (Stand w w.heap.size ((w.alloc (.cells #[.int .i64 0, .int .i64 0, .int .i64 0, .slice none 0 0] 33)).alloc (.cells #[.int .i64 (c : Nat), .int .i64 0, .int .i64 0, .slice none 0 0] 33))) := Stand.later ⟨Box.new w 0 0 0 _, (Below.refl _ _).alloc (Nat.le_refl _) _, Nat.le_refl _⟩ ((Below.refl _ _).alloc (Nat.le_refl _) _)
    have HB0 : Hid (Box ((w.alloc (.cells #[.int .i64 0, .int .i64 0, .int .i64 0, .slice none 0 0] 33)).alloc (.cells #[.int .i64 (c : Nat), .int .i64 0, .int .i64 0, .slice none 0 0] 33)) (w.heap.size + 1) (c : Nat) 0 0 (.slice none 0 0)) := heap_alloc2_new w _ _
    clear hc256 hr1 h0 hc
    by_cases hE : E = 0
    · subst hE
      by_cases h3 : 3 < ((c : Nat) : Int)
      · obtain ⟨n2, q2, E2, hr2⟩ : ∃ n2 q2 E2, takeP b q = (n2, q2, E2) := ⟨_, _, _, rfl⟩
        have HT2 : Hid _ := rtake_first b q (HQ.out rfl) hb n2 q2 E2 hr2
        have hh : headF (decide (3 < ((c : Nat) : Int))) b = (c, n, n2, q2, E2) := by
          rw [HCC.out, if_pos ⟨decide_eq_true h3, rfl⟩, hr2]
        clear HCC hr2 HQ
        by_cases hE2 : E2 = 0
        · subst hE2
          obtain ⟨ns, en, F, hl⟩ : ∃ ns en F, readP b (q2 : Nat) = (ns, en, F) := ⟨_, _, _, rfl⟩
          have HL : Hid (∀ wx, Below w.heap.size w wx → Calls Tryz.prog 96 #[.string ⟨b.toArray⟩, .int .i64 (q2 : Nat)] wx fun e w' => ∃ v c, e = .returned (.tuple #[.slice v ns.length c, .int .i64 (en : Nat), .int .i64 (F : Nat)]) ∧ RI w' (.slice v ns.length c) (intL ns) ∧ (∀ a, v = some a → wx.heap.size ≤ a.block) ∧ Below wx.heap.size wx w') := fun wx hbx => rlist_any b q2 wx hb ns en F hl
          have HNS : Hid ((intL ns).length ≤ 1000000) := read_small b q2 ns en F hl
          have HCK : Hid (∀ (wx : World) (sv : Value), RI wx sv (intL ns) → Calls Tryz.prog 65 #[.agg #[.int .i64 (c : Nat), .int .i64 (n : Nat), .int .i64 (n2 : Nat), sv]] wx fun x w' => x = .returned (.bool (okE ⟨(c : Nat), (n : Nat), (n2 : Nat), intL ns⟩)) ∧ Below wx.heap.size wx w') := fun wx sv hs => rright_ev ⟨(c : Nat), (n : Nat), (n2 : Nat), intL ns⟩ sv wx hs HNS.out
          have HF : Hid (readF (decide (3 < ((c : Nat) : Int))) b = if F = 0 then (if en = b.length ∧ okE ⟨(c : Nat), (n : Nat), (n2 : Nat), intL ns⟩ = true then some ⟨(c : Nat), (n : Nat), (n2 : Nat), intL ns⟩ else none) else none) := by
            show _ = _
            unfold readF evF
            rw [hh]
            dsimp only
            rw [hl, if_pos rfl]
            try rfl
          have HPT : Hid (F = 0 → en = b.length → okE ⟨(c : Nat), (n : Nat), (n2 : Nat), intL ns⟩ = true → ∀ (wx : World) (sv : Value), RI wx sv (intL ns) → Calls Tryz.prog 91 #[.agg #[.int .i64 (c : Nat), .int .i64 (n : Nat), .int .i64 (n2 : Nat), sv]] wx fun x w' => x = .returned (.string ⟨b.toArray⟩) ∧ Below wx.heap.size wx w') := by
            show _ → _
            intro hF hen ho wx sv hs
            have h1 := HF.out
            rw [if_pos hF, if_pos ⟨hen, ho⟩] at h1
            have h2 := (readF_some (e := ⟨(c : Nat), (n : Nat), (n2 : Nat), intL ns⟩) (fun _ => rfl) h1).2
            have h3 := rput_ev ⟨(c : Nat), (n : Nat), (n2 : Nat), intL ns⟩ sv wx hs HNS.out ho
            rw [h2] at h3
            exact h3
          rw [HF.out]
          clear hh hl HNS
          by_cases hF : F = 0
          · subst hF
            rw [if_pos rfl]
            by_cases hen : en = b.length
            · have hn1 : (((en : Nat) : Int) != ((b.length : Nat) : Int)) = false := by rw [hen]; simp
              cases ho : okE ⟨(c : Nat), (n : Nat), (n2 : Nat), intL ns⟩
              · rw [if_neg (fun hh => by simp at hh)]
                rw [ho] at HCK
                clear hen ho HPT HF
                go_enter Tryz.func68, Tryz.ntmps68
                go_wp2_with fail
                refine Calls.mono (HT1.out _) ?_
                rintro e w1 ⟨rfl, hb1⟩
                have HS1 : Hid (Stand w w.heap.size w1) := HS0.out.later hb1
                have HB1 : Hid (Box w1 (w.heap.size + 1) (c : Nat) 0 0 (.slice none 0 0)) := HB0.out.later hb1
                have e1 := HB1.out.c1
                have ef1 := HB1.out.f 1
                have HS2 : Hid (Stand w w.heap.size (w1.setCell ⟨w.heap.size + 1, 1, none⟩ (.int .i64 (n : Nat)))) := HS1.out.other (by omega) (by omega)
                have HB2 : Hid (Box (w1.setCell ⟨w.heap.size + 1, 1, none⟩ (.int .i64 (n : Nat))) (w.heap.size + 1) (c : Nat) (n : Nat) 0 (.slice none 0 0)) := row_set HB1.out 1 _
                clear hb1 HS0 HB0 HT1
                have e0 := HB2.out.c0
                go_wp2_with fail
                refine Calls.mono (HT2.out _) ?_
                rintro e w3 ⟨rfl, hb3⟩
                have HS3 : Hid (Stand w w.heap.size w3) := HS2.out.later hb3
                have HB3 : Hid (Box w3 (w.heap.size + 1) (c : Nat) (n : Nat) 0 (.slice none 0 0)) := HB2.out.later hb3
                have e2 := HB3.out.c2
                have ef2 := HB3.out.f 2
                have HS4 : Hid (Stand w w.heap.size (w3.setCell ⟨w.heap.size + 1, 2, none⟩ (.int .i64 (n2 : Nat)))) := HS3.out.other (by omega) (by omega)
                have HB4 : Hid (Box (w3.setCell ⟨w.heap.size + 1, 2, none⟩ (.int .i64 (n2 : Nat))) (w.heap.size + 1) (c : Nat) (n : Nat) (n2 : Nat) (.slice none 0 0)) := row_set HB3.out 2 _
                clear hb3 HT2
                go_wp2_with fail
                refine Calls.mono (HL.out _ HS4.out.bel) ?_
                rintro e w5 ⟨v5, c5, rfl, hr5, hp5, hb5⟩
                have HS5 : Hid (Stand w w.heap.size w5) := HS4.out.later hb5
                have HB5 : Hid (Box w5 (w.heap.size + 1) (c : Nat) (n : Nat) (n2 : Nat) (.slice none 0 0)) := HB4.out.later hb5
                have HP5 : Hid (∀ a, v5 = some a → w.heap.size + 1 < a.block) := fun a ha => Nat.lt_of_lt_of_le HB4.out.lt (hp5 a ha)
                have HS6 : Hid (Stand w w.heap.size (w5.setCell ⟨w.heap.size + 1, 3, none⟩ (.slice v5 ns.length c5))) := HS5.out.other (by omega) (by omega)
                have HB6 : Hid (Box (w5.setCell ⟨w.heap.size + 1, 3, none⟩ (.slice v5 ns.length c5)) (w.heap.size + 1) (c : Nat) (n : Nat) (n2 : Nat) (.slice v5 ns.length c5)) := HB5.out.set3 _
                have HR6 : Hid (RI (w5.setCell ⟨w.heap.size + 1, 3, none⟩ (.slice v5 ns.length c5)) (.slice v5 ns.length c5) (intL ns)) := RI.kept hr5 (fun x hx => Below.heap_setCell _ _ _ _ (by have := HP5.out x hx; simp; omega))
                have e3 := HB5.out.c3
                have ef3 := HB5.out.f 3
                clear hr5 hp5 hb5 HL
                have j0 := HB6.out.c0
                have j1 := HB6.out.c1
                have j2 := HB6.out.c2
                have j3 := HB6.out.c3
                go_wp2_with fail
                refine Calls.mono (HCK.out _ _ HR6.out) ?_
                rintro e w7 ⟨rfl, hb7⟩
                have HS7 : Hid (Stand w w.heap.size w7) := HS6.out.later hb7
                clear hb7 j0 j1 j2 j3 e3 ef3
                have c0 := HS7.out.box.c0
                have c1 := HS7.out.box.c1
                have c2 := HS7.out.box.c2
                have cc3 := HS7.out.box.c3
                have f0 := HS7.out.box.f 0
                have f1 := HS7.out.box.f 1
                have f2 := HS7.out.box.f 2
                have f3 := HS7.out.box.f 3
                go_wp2_with fail
                exact bodyPost_ret_by (results_ev2 rfl _ _ rfl (HS7.out.box.set4 0 0 0 (.slice none 0 0))) rfl ⟨_, rfl, RI.nil _, (fun _ _ _ h => by cases h), below_set4 HS7.out.bel HS7.out.le _ _ _ _⟩
              · rw [if_pos ⟨hen, rfl⟩]
                replace HPT : Hid _ := HPT.out rfl hen ho
                rw [ho] at HCK
                clear hen ho HF
                go_enter Tryz.func68, Tryz.ntmps68
                go_wp2_with fail
                refine Calls.mono (HT1.out _) ?_
                rintro e w1 ⟨rfl, hb1⟩
                have HS1 : Hid (Stand w w.heap.size w1) := HS0.out.later hb1
                have HB1 : Hid (Box w1 (w.heap.size + 1) (c : Nat) 0 0 (.slice none 0 0)) := HB0.out.later hb1
                have e1 := HB1.out.c1
                have ef1 := HB1.out.f 1
                have HS2 : Hid (Stand w w.heap.size (w1.setCell ⟨w.heap.size + 1, 1, none⟩ (.int .i64 (n : Nat)))) := HS1.out.other (by omega) (by omega)
                have HB2 : Hid (Box (w1.setCell ⟨w.heap.size + 1, 1, none⟩ (.int .i64 (n : Nat))) (w.heap.size + 1) (c : Nat) (n : Nat) 0 (.slice none 0 0)) := row_set HB1.out 1 _
                clear hb1 HS0 HB0 HT1
                have e0 := HB2.out.c0
                go_wp2_with fail
                refine Calls.mono (HT2.out _) ?_
                rintro e w3 ⟨rfl, hb3⟩
                have HS3 : Hid (Stand w w.heap.size w3) := HS2.out.later hb3
                have HB3 : Hid (Box w3 (w.heap.size + 1) (c : Nat) (n : Nat) 0 (.slice none 0 0)) := HB2.out.later hb3
                have e2 := HB3.out.c2
                have ef2 := HB3.out.f 2
                have HS4 : Hid (Stand w w.heap.size (w3.setCell ⟨w.heap.size + 1, 2, none⟩ (.int .i64 (n2 : Nat)))) := HS3.out.other (by omega) (by omega)
                have HB4 : Hid (Box (w3.setCell ⟨w.heap.size + 1, 2, none⟩ (.int .i64 (n2 : Nat))) (w.heap.size + 1) (c : Nat) (n : Nat) (n2 : Nat) (.slice none 0 0)) := row_set HB3.out 2 _
                clear hb3 HT2
                go_wp2_with fail
                refine Calls.mono (HL.out _ HS4.out.bel) ?_
                rintro e w5 ⟨v5, c5, rfl, hr5, hp5, hb5⟩
                have HS5 : Hid (Stand w w.heap.size w5) := HS4.out.later hb5
                have HB5 : Hid (Box w5 (w.heap.size + 1) (c : Nat) (n : Nat) (n2 : Nat) (.slice none 0 0)) := HB4.out.later hb5
                have HP5 : Hid (∀ a, v5 = some a → w.heap.size + 1 < a.block) := fun a ha => Nat.lt_of_lt_of_le HB4.out.lt (hp5 a ha)
                have HS6 : Hid (Stand w w.heap.size (w5.setCell ⟨w.heap.size + 1, 3, none⟩ (.slice v5 ns.length c5))) := HS5.out.other (by omega) (by omega)
                have HB6 : Hid (Box (w5.setCell ⟨w.heap.size + 1, 3, none⟩ (.slice v5 ns.length c5)) (w.heap.size + 1) (c : Nat) (n : Nat) (n2 : Nat) (.slice v5 ns.length c5)) := HB5.out.set3 _
                have HR6 : Hid (RI (w5.setCell ⟨w.heap.size + 1, 3, none⟩ (.slice v5 ns.length c5)) (.slice v5 ns.length c5) (intL ns)) := RI.kept hr5 (fun x hx => Below.heap_setCell _ _ _ _ (by have := HP5.out x hx; simp; omega))
                have e3 := HB5.out.c3
                have ef3 := HB5.out.f 3
                clear hr5 hp5 hb5 HL
                have j0 := HB6.out.c0
                have j1 := HB6.out.c1
                have j2 := HB6.out.c2
                have j3 := HB6.out.c3
                go_wp2_with fail
                refine Calls.mono (HCK.out _ _ HR6.out) ?_
                rintro e w7 ⟨rfl, hb7⟩
                have HS7 : Hid (Stand w w.heap.size w7) := HS6.out.later hb7
                have HB7 : Hid (Box w7 (w.heap.size + 1) (c : Nat) (n : Nat) (n2 : Nat) (.slice v5 ns.length c5)) := HB6.out.later hb7
                have HR7 : Hid (RI w7 (.slice v5 ns.length c5) (intL ns)) := RI.later HR6.out hb7
                clear hb7 j0 j1 j2 j3 e3 ef3
                have j0 := HB7.out.c0
                have j1 := HB7.out.c1
                have j2 := HB7.out.c2
                have j3 := HB7.out.c3
                go_wp2_with fail
                refine Calls.mono (HPT.out _ _ HR7.out) ?_
                rintro e w8 ⟨rfl, hb8⟩
                have HS8 : Hid (Stand w w.heap.size w8) := HS7.out.later hb8
                have HB8 : Hid (Box w8 (w.heap.size + 1) (c : Nat) (n : Nat) (n2 : Nat) (.slice v5 ns.length c5)) := HB7.out.later hb8
                have HR8 : Hid (RI w8 (.slice v5 ns.length c5) (intL ns)) := RI.later HR7.out hb8
                clear hb8 j0 j1 j2 j3
                have j0 := HB8.out.c0
                have j1 := HB8.out.c1
                have j2 := HB8.out.c2
                have j3 := HB8.out.c3
                have c0 := HS8.out.box.c0
                have c1 := HS8.out.box.c1
                have c2 := HS8.out.box.c2
                have cc3 := HS8.out.box.c3
                have f0 := HS8.out.box.f 0
                have f1 := HS8.out.box.f 1
                have f2 := HS8.out.box.f 2
                have f3 := HS8.out.box.f 3
                go_wp2_with fail
                exact bodyPost_ret_by (results_ev2 rfl _ _ rfl (HS8.out.box.set4 (c : Nat) (n : Nat) (n2 : Nat) (.slice v5 ns.length c5))) rfl ⟨_, rfl, RI.kept HR8.out (fun x hx => heap_set4 _ _ _ _ _ _ _ (by have := HP5.out x hx; omega)), (fun x n c hx => by cases hx; have h1 := HP5.out _ rfl; omega), below_set4 HS8.out.bel HS8.out.le _ _ _ _⟩
            · rw [if_neg (fun hh => hen hh.1)]
              have hn1 : (((en : Nat) : Int) != ((b.length : Nat) : Int)) = true := by simp; omega
              clear HCK hen HPT HF
              go_enter Tryz.func68, Tryz.ntmps68
              go_wp2_with fail
              refine Calls.mono (HT1.out _) ?_
              rintro e w1 ⟨rfl, hb1⟩
              have HS1 : Hid (Stand w w.heap.size w1) := HS0.out.later hb1
              have HB1 : Hid (Box w1 (w.heap.size + 1) (c : Nat) 0 0 (.slice none 0 0)) := HB0.out.later hb1
              have e1 := HB1.out.c1
              have ef1 := HB1.out.f 1
              have HS2 : Hid (Stand w w.heap.size (w1.setCell ⟨w.heap.size + 1, 1, none⟩ (.int .i64 (n : Nat)))) := HS1.out.other (by omega) (by omega)
              have HB2 : Hid (Box (w1.setCell ⟨w.heap.size + 1, 1, none⟩ (.int .i64 (n : Nat))) (w.heap.size + 1) (c : Nat) (n : Nat) 0 (.slice none 0 0)) := row_set HB1.out 1 _
              clear hb1 HS0 HB0 HT1
              have e0 := HB2.out.c0
              go_wp2_with fail
              refine Calls.mono (HT2.out _) ?_
              rintro e w3 ⟨rfl, hb3⟩
              have HS3 : Hid (Stand w w.heap.size w3) := HS2.out.later hb3
              have HB3 : Hid (Box w3 (w.heap.size + 1) (c : Nat) (n : Nat) 0 (.slice none 0 0)) := HB2.out.later hb3
              have e2 := HB3.out.c2
              have ef2 := HB3.out.f 2
              have HS4 : Hid (Stand w w.heap.size (w3.setCell ⟨w.heap.size + 1, 2, none⟩ (.int .i64 (n2 : Nat)))) := HS3.out.other (by omega) (by omega)
              have HB4 : Hid (Box (w3.setCell ⟨w.heap.size + 1, 2, none⟩ (.int .i64 (n2 : Nat))) (w.heap.size + 1) (c : Nat) (n : Nat) (n2 : Nat) (.slice none 0 0)) := row_set HB3.out 2 _
              clear hb3 HT2
              go_wp2_with fail
              refine Calls.mono (HL.out _ HS4.out.bel) ?_
              rintro e w5 ⟨v5, c5, rfl, hr5, hp5, hb5⟩
              have HS5 : Hid (Stand w w.heap.size w5) := HS4.out.later hb5
              have HB5 : Hid (Box w5 (w.heap.size + 1) (c : Nat) (n : Nat) (n2 : Nat) (.slice none 0 0)) := HB4.out.later hb5
              have HP5 : Hid (∀ a, v5 = some a → w.heap.size + 1 < a.block) := fun a ha => Nat.lt_of_lt_of_le HB4.out.lt (hp5 a ha)
              have HS6 : Hid (Stand w w.heap.size (w5.setCell ⟨w.heap.size + 1, 3, none⟩ (.slice v5 ns.length c5))) := HS5.out.other (by omega) (by omega)
              have HB6 : Hid (Box (w5.setCell ⟨w.heap.size + 1, 3, none⟩ (.slice v5 ns.length c5)) (w.heap.size + 1) (c : Nat) (n : Nat) (n2 : Nat) (.slice v5 ns.length c5)) := HB5.out.set3 _
              have HR6 : Hid (RI (w5.setCell ⟨w.heap.size + 1, 3, none⟩ (.slice v5 ns.length c5)) (.slice v5 ns.length c5) (intL ns)) := RI.kept hr5 (fun x hx => Below.heap_setCell _ _ _ _ (by have := HP5.out x hx; simp; omega))
              have e3 := HB5.out.c3
              have ef3 := HB5.out.f 3
              clear hr5 hp5 hb5 HL
              have c0 := HS6.out.box.c0
              have c1 := HS6.out.box.c1
              have c2 := HS6.out.box.c2
              have cc3 := HS6.out.box.c3
              have f0 := HS6.out.box.f 0
              have f1 := HS6.out.box.f 1
              have f2 := HS6.out.box.f 2
              have f3 := HS6.out.box.f 3
              go_wp2_with fail
              exact bodyPost_ret_by (results_ev2 rfl _ _ rfl (HS6.out.box.set4 0 0 0 (.slice none 0 0))) rfl ⟨_, rfl, RI.nil _, (fun _ _ _ h => by cases h), below_set4 HS6.out.bel HS6.out.le _ _ _ _⟩
          · rw [if_neg hF]
            have hF1 : (((F : Nat) : Int) == 0) = false := by simpa using hF
            have hF2 : (((F : Nat) : Int) != 0) = true := by simpa using hF
            clear HCK HPT HF
            go_enter Tryz.func68, Tryz.ntmps68
            go_wp2_with fail
            refine Calls.mono (HT1.out _) ?_
            rintro e w1 ⟨rfl, hb1⟩
            have HS1 : Hid (Stand w w.heap.size w1) := HS0.out.later hb1
            have HB1 : Hid (Box w1 (w.heap.size + 1) (c : Nat) 0 0 (.slice none 0 0)) := HB0.out.later hb1
            have e1 := HB1.out.c1
            have ef1 := HB1.out.f 1
            have HS2 : Hid (Stand w w.heap.size (w1.setCell ⟨w.heap.size + 1, 1, none⟩ (.int .i64 (n : Nat)))) := HS1.out.other (by omega) (by omega)
            have HB2 : Hid (Box (w1.setCell ⟨w.heap.size + 1, 1, none⟩ (.int .i64 (n : Nat))) (w.heap.size + 1) (c : Nat) (n : Nat) 0 (.slice none 0 0)) := row_set HB1.out 1 _
            clear hb1 HS0 HB0 HT1
            have e0 := HB2.out.c0
            go_wp2_with fail
            refine Calls.mono (HT2.out _) ?_
            rintro e w3 ⟨rfl, hb3⟩
            have HS3 : Hid (Stand w w.heap.size w3) := HS2.out.later hb3
            have HB3 : Hid (Box w3 (w.heap.size + 1) (c : Nat) (n : Nat) 0 (.slice none 0 0)) := HB2.out.later hb3
            have e2 := HB3.out.c2
            have ef2 := HB3.out.f 2
            have HS4 : Hid (Stand w w.heap.size (w3.setCell ⟨w.heap.size + 1, 2, none⟩ (.int .i64 (n2 : Nat)))) := HS3.out.other (by omega) (by omega)
            have HB4 : Hid (Box (w3.setCell ⟨w.heap.size + 1, 2, none⟩ (.int .i64 (n2 : Nat))) (w.heap.size + 1) (c : Nat) (n : Nat) (n2 : Nat) (.slice none 0 0)) := row_set HB3.out 2 _
            clear hb3 HT2
            go_wp2_with fail
            refine Calls.mono (HL.out _ HS4.out.bel) ?_
            rintro e w5 ⟨v5, c5, rfl, hr5, hp5, hb5⟩
            have HS5 : Hid (Stand w w.heap.size w5) := HS4.out.later hb5
            have HB5 : Hid (Box w5 (w.heap.size + 1) (c : Nat) (n : Nat) (n2 : Nat) (.slice none 0 0)) := HB4.out.later hb5
            have HP5 : Hid (∀ a, v5 = some a → w.heap.size + 1 < a.block) := fun a ha => Nat.lt_of_lt_of_le HB4.out.lt (hp5 a ha)
            have HS6 : Hid (Stand w w.heap.size (w5.setCell ⟨w.heap.size + 1, 3, none⟩ (.slice v5 ns.length c5))) := HS5.out.other (by omega) (by omega)
            have HB6 : Hid (Box (w5.setCell ⟨w.heap.size + 1, 3, none⟩ (.slice v5 ns.length c5)) (w.heap.size + 1) (c : Nat) (n : Nat) (n2 : Nat) (.slice v5 ns.length c5)) := HB5.out.set3 _
            have HR6 : Hid (RI (w5.setCell ⟨w.heap.size + 1, 3, none⟩ (.slice v5 ns.length c5)) (.slice v5 ns.length c5) (intL ns)) := RI.kept hr5 (fun x hx => Below.heap_setCell _ _ _ _ (by have := HP5.out x hx; simp; omega))
            have e3 := HB5.out.c3
            have ef3 := HB5.out.f 3
            clear hr5 hp5 hb5 HL
            have c0 := HS6.out.box.c0
            have c1 := HS6.out.box.c1
            have c2 := HS6.out.box.c2
            have cc3 := HS6.out.box.c3
            have f0 := HS6.out.box.f 0
            have f1 := HS6.out.box.f 1
            have f2 := HS6.out.box.f 2
            have f3 := HS6.out.box.f 3
            go_wp2_with fail
            exact bodyPost_ret_by (results_ev2 rfl _ _ rfl (HS6.out.box.set4 0 0 0 (.slice none 0 0))) rfl ⟨_, rfl, RI.nil _, (fun _ _ _ h => by cases h), below_set4 HS6.out.bel HS6.out.le _ _ _ _⟩
        · have HF : Hid (readF (decide (3 < ((c : Nat) : Int))) b = none) := by show _ = _; unfold readF; rw [hh]; dsimp only; rw [if_neg hE2]
          rw [HF.out]
          have hE3 : (((E2 : Nat) : Int) == 0) = false := by simpa using hE2
          have hE4 : (((E2 : Nat) : Int) != 0) = true := by simpa using hE2
          clear HF hh
          go_enter Tryz.func68, Tryz.ntmps68
          go_wp2_with fail
          refine Calls.mono (HT1.out _) ?_
          rintro e w1 ⟨rfl, hb1⟩
          have HS1 : Hid (Stand w w.heap.size w1) := HS0.out.later hb1
          have HB1 : Hid (Box w1 (w.heap.size + 1) (c : Nat) 0 0 (.slice none 0 0)) := HB0.out.later hb1
          have e1 := HB1.out.c1
          have ef1 := HB1.out.f 1
          have HS2 : Hid (Stand w w.heap.size (w1.setCell ⟨w.heap.size + 1, 1, none⟩ (.int .i64 (n : Nat)))) := HS1.out.other (by omega) (by omega)
          have HB2 : Hid (Box (w1.setCell ⟨w.heap.size + 1, 1, none⟩ (.int .i64 (n : Nat))) (w.heap.size + 1) (c : Nat) (n : Nat) 0 (.slice none 0 0)) := row_set HB1.out 1 _
          clear hb1 HS0 HB0 HT1
          have e0 := HB2.out.c0
          go_wp2_with fail
          refine Calls.mono (HT2.out _) ?_
          rintro e w3 ⟨rfl, hb3⟩
          have HS3 : Hid (Stand w w.heap.size w3) := HS2.out.later hb3
          have HB3 : Hid (Box w3 (w.heap.size + 1) (c : Nat) (n : Nat) 0 (.slice none 0 0)) := HB2.out.later hb3
          have e2 := HB3.out.c2
          have ef2 := HB3.out.f 2
          have HS4 : Hid (Stand w w.heap.size (w3.setCell ⟨w.heap.size + 1, 2, none⟩ (.int .i64 (n2 : Nat)))) := HS3.out.other (by omega) (by omega)
          have HB4 : Hid (Box (w3.setCell ⟨w.heap.size + 1, 2, none⟩ (.int .i64 (n2 : Nat))) (w.heap.size + 1) (c : Nat) (n : Nat) (n2 : Nat) (.slice none 0 0)) := row_set HB3.out 2 _
          clear hb3 HT2
          have c0 := HS4.out.box.c0
          have c1 := HS4.out.box.c1
          have c2 := HS4.out.box.c2
          have cc3 := HS4.out.box.c3
          have f0 := HS4.out.box.f 0
          have f1 := HS4.out.box.f 1
          have f2 := HS4.out.box.f 2
          have f3 := HS4.out.box.f 3
          go_wp2_with fail
          exact bodyPost_ret_by (results_ev2 rfl _ _ rfl (HS4.out.box.set4 0 0 0 (.slice none 0 0))) rfl ⟨_, rfl, RI.nil _, (fun _ _ _ h => by cases h), below_set4 HS4.out.bel HS4.out.le _ _ _ _⟩
      · have hh : headF (decide (3 < ((c : Nat) : Int))) b = (c, n, 0, q, 0) := by
          rw [HCC.out, if_neg (fun hx => h3 (of_decide_eq_true hx.1))]
        have h3d : decide (3 < ((c : Nat) : Int)) = false := decide_eq_false h3
        clear HCC HQ
        obtain ⟨ns, en, F, hl⟩ : ∃ ns en F, readP b (q : Nat) = (ns, en, F) := ⟨_, _, _, rfl⟩
        have HL : Hid (∀ wx, Below w.heap.size w wx → Calls Tryz.prog 96 #[.string ⟨b.toArray⟩, .int .i64 (q : Nat)] wx fun e w' => ∃ v c, e = .returned (.tuple #[.slice v ns.length c, .int .i64 (en : Nat), .int .i64 (F : Nat)]) ∧ RI w' (.slice v ns.length c) (intL ns) ∧ (∀ a, v = some a → wx.heap.size ≤ a.block) ∧ Below wx.heap.size wx w') := fun wx hbx => rlist_any b q wx hb ns en F hl
        have HNS : Hid ((intL ns).length ≤ 1000000) := read_small b q ns en F hl
        have HCK : Hid (∀ (wx : World) (sv : Value), RI wx sv (intL ns) → Calls Tryz.prog 65 #[.agg #[.int .i64 (c : Nat), .int .i64 (n : Nat), .int .i64 0, sv]] wx fun x w' => x = .returned (.bool (okE ⟨(c : Nat), (n : Nat), 0, intL ns⟩)) ∧ Below wx.heap.size wx w') := fun wx sv hs => rright_ev ⟨(c : Nat), (n : Nat), 0, intL ns⟩ sv wx hs HNS.out
        have HF : Hid (readF (decide (3 < ((c : Nat) : Int))) b = if F = 0 then (if en = b.length ∧ okE ⟨(c : Nat), (n : Nat), 0, intL ns⟩ = true then some ⟨(c : Nat), (n : Nat), 0, intL ns⟩ else none) else none) := by
          show _ = _
          unfold readF evF
          rw [hh]
          dsimp only
          rw [hl, if_pos rfl]
          try rfl
        have HPT : Hid (F = 0 → en = b.length → okE ⟨(c : Nat), (n : Nat), 0, intL ns⟩ = true → ∀ (wx : World) (sv : Value), RI wx sv (intL ns) → Calls Tryz.prog 91 #[.agg #[.int .i64 (c : Nat), .int .i64 (n : Nat), .int .i64 0, sv]] wx fun x w' => x = .returned (.string ⟨b.toArray⟩) ∧ Below wx.heap.size wx w') := by
          show _ → _
          intro hF hen ho wx sv hs
          have h1 := HF.out
          rw [if_pos hF, if_pos ⟨hen, ho⟩] at h1
          have h2 := (readF_some (e := ⟨(c : Nat), (n : Nat), 0, intL ns⟩) (fun _ => rfl) h1).2
          have h3 := rput_ev ⟨(c : Nat), (n : Nat), 0, intL ns⟩ sv wx hs HNS.out ho
          rw [h2] at h3
          exact h3
        rw [HF.out]
        clear hh hl HNS
        by_cases hF : F = 0
        · subst hF
          rw [if_pos rfl]
          by_cases hen : en = b.length
          · have hn1 : (((en : Nat) : Int) != ((b.length : Nat) : Int)) = false := by rw [hen]; simp
            cases ho : okE ⟨(c : Nat), (n : Nat), 0, intL ns⟩
            · rw [if_neg (fun hh => by simp at hh)]
              rw [ho] at HCK
              clear hen ho HPT HF
              go_enter Tryz.func68, Tryz.ntmps68
              go_wp2_with fail
              refine Calls.mono (HT1.out _) ?_
              rintro e w1 ⟨rfl, hb1⟩
              have HS1 : Hid (Stand w w.heap.size w1) := HS0.out.later hb1
              have HB1 : Hid (Box w1 (w.heap.size + 1) (c : Nat) 0 0 (.slice none 0 0)) := HB0.out.later hb1
              have e1 := HB1.out.c1
              have ef1 := HB1.out.f 1
              have HS2 : Hid (Stand w w.heap.size (w1.setCell ⟨w.heap.size + 1, 1, none⟩ (.int .i64 (n : Nat)))) := HS1.out.other (by omega) (by omega)
              have HB2 : Hid (Box (w1.setCell ⟨w.heap.size + 1, 1, none⟩ (.int .i64 (n : Nat))) (w.heap.size + 1) (c : Nat) (n : Nat) 0 (.slice none 0 0)) := row_set HB1.out 1 _
              clear hb1 HS0 HB0 HT1
              have e0 := HB2.out.c0
              go_wp2_with fail
              refine Calls.mono (HL.out _ HS2.out.bel) ?_
              rintro e w5 ⟨v5, c5, rfl, hr5, hp5, hb5⟩
              have HS5 : Hid (Stand w w.heap.size w5) := HS2.out.later hb5
              have HB5 : Hid (Box w5 (w.heap.size + 1) (c : Nat) (n : Nat) 0 (.slice none 0 0)) := HB2.out.later hb5
              have HP5 : Hid (∀ a, v5 = some a → w.heap.size + 1 < a.block) := fun a ha => Nat.lt_of_lt_of_le HB2.out.lt (hp5 a ha)
              have HS6 : Hid (Stand w w.heap.size (w5.setCell ⟨w.heap.size + 1, 3, none⟩ (.slice v5 ns.length c5))) := HS5.out.other (by omega) (by omega)
              have HB6 : Hid (Box (w5.setCell ⟨w.heap.size + 1, 3, none⟩ (.slice v5 ns.length c5)) (w.heap.size + 1) (c : Nat) (n : Nat) 0 (.slice v5 ns.length c5)) := HB5.out.set3 _
              have HR6 : Hid (RI (w5.setCell ⟨w.heap.size + 1, 3, none⟩ (.slice v5 ns.length c5)) (.slice v5 ns.length c5) (intL ns)) := RI.kept hr5 (fun x hx => Below.heap_setCell _ _ _ _ (by have := HP5.out x hx; simp; omega))
              have e3 := HB5.out.c3
              have ef3 := HB5.out.f 3
              clear hr5 hp5 hb5 HL
              have j0 := HB6.out.c0
              have j1 := HB6.out.c1
              have j2 := HB6.out.c2
              have j3 := HB6.out.c3
              go_wp2_with fail
              refine Calls.mono (HCK.out _ _ HR6.out) ?_
              rintro e w7 ⟨rfl, hb7⟩
              have HS7 : Hid (Stand w w.heap.size w7) := HS6.out.later hb7
              clear hb7 j0 j1 j2 j3 e3 ef3
              have c0 := HS7.out.box.c0
              have c1 := HS7.out.box.c1
              have c2 := HS7.out.box.c2
              have cc3 := HS7.out.box.c3
              have f0 := HS7.out.box.f 0
              have f1 := HS7.out.box.f 1
              have f2 := HS7.out.box.f 2
              have f3 := HS7.out.box.f 3
              go_wp2_with fail
              exact bodyPost_ret_by (results_ev2 rfl _ _ rfl (HS7.out.box.set4 0 0 0 (.slice none 0 0))) rfl ⟨_, rfl, RI.nil _, (fun _ _ _ h => by cases h), below_set4 HS7.out.bel HS7.out.le _ _ _ _⟩
            · rw [if_pos ⟨hen, rfl⟩]
              replace HPT : Hid _ := HPT.out rfl hen ho
              rw [ho] at HCK
              clear hen ho HF
              go_enter Tryz.func68, Tryz.ntmps68
              go_wp2_with fail
              refine Calls.mono (HT1.out _) ?_
              rintro e w1 ⟨rfl, hb1⟩
              have HS1 : Hid (Stand w w.heap.size w1) := HS0.out.later hb1
              have HB1 : Hid (Box w1 (w.heap.size + 1) (c : Nat) 0 0 (.slice none 0 0)) := HB0.out.later hb1
              have e1 := HB1.out.c1
              have ef1 := HB1.out.f 1
              have HS2 : Hid (Stand w w.heap.size (w1.setCell ⟨w.heap.size + 1, 1, none⟩ (.int .i64 (n : Nat)))) := HS1.out.other (by omega) (by omega)
              have HB2 : Hid (Box (w1.setCell ⟨w.heap.size + 1, 1, none⟩ (.int .i64 (n : Nat))) (w.heap.size + 1) (c : Nat) (n : Nat) 0 (.slice none 0 0)) := row_set HB1.out 1 _
              clear hb1 HS0 HB0 HT1
              have e0 := HB2.out.c0
              go_wp2_with fail
              refine Calls.mono (HL.out _ HS2.out.bel) ?_
              rintro e w5 ⟨v5, c5, rfl, hr5, hp5, hb5⟩
              have HS5 : Hid (Stand w w.heap.size w5) := HS2.out.later hb5
              have HB5 : Hid (Box w5 (w.heap.size + 1) (c : Nat) (n : Nat) 0 (.slice none 0 0)) := HB2.out.later hb5
              have HP5 : Hid (∀ a, v5 = some a → w.heap.size + 1 < a.block) := fun a ha => Nat.lt_of_lt_of_le HB2.out.lt (hp5 a ha)
              have HS6 : Hid (Stand w w.heap.size (w5.setCell ⟨w.heap.size + 1, 3, none⟩ (.slice v5 ns.length c5))) := HS5.out.other (by omega) (by omega)
              have HB6 : Hid (Box (w5.setCell ⟨w.heap.size + 1, 3, none⟩ (.slice v5 ns.length c5)) (w.heap.size + 1) (c : Nat) (n : Nat) 0 (.slice v5 ns.length c5)) := HB5.out.set3 _
              have HR6 : Hid (RI (w5.setCell ⟨w.heap.size + 1, 3, none⟩ (.slice v5 ns.length c5)) (.slice v5 ns.length c5) (intL ns)) := RI.kept hr5 (fun x hx => Below.heap_setCell _ _ _ _ (by have := HP5.out x hx; simp; omega))
              have e3 := HB5.out.c3
              have ef3 := HB5.out.f 3
              clear hr5 hp5 hb5 HL
              have j0 := HB6.out.c0
              have j1 := HB6.out.c1
              have j2 := HB6.out.c2
              have j3 := HB6.out.c3
              go_wp2_with fail
              refine Calls.mono (HCK.out _ _ HR6.out) ?_
              rintro e w7 ⟨rfl, hb7⟩
              have HS7 : Hid (Stand w w.heap.size w7) := HS6.out.later hb7
              have HB7 : Hid (Box w7 (w.heap.size + 1) (c : Nat) (n : Nat) 0 (.slice v5 ns.length c5)) := HB6.out.later hb7
              have HR7 : Hid (RI w7 (.slice v5 ns.length c5) (intL ns)) := RI.later HR6.out hb7
              clear hb7 j0 j1 j2 j3 e3 ef3
              have j0 := HB7.out.c0
              have j1 := HB7.out.c1
              have j2 := HB7.out.c2
              have j3 := HB7.out.c3
              go_wp2_with fail
              refine Calls.mono (HPT.out _ _ HR7.out) ?_
              rintro e w8 ⟨rfl, hb8⟩
              have HS8 : Hid (Stand w w.heap.size w8) := HS7.out.later hb8
              have HB8 : Hid (Box w8 (w.heap.size + 1) (c : Nat) (n : Nat) 0 (.slice v5 ns.length c5)) := HB7.out.later hb8
              have HR8 : Hid (RI w8 (.slice v5 ns.length c5) (intL ns)) := RI.later HR7.out hb8
              clear hb8 j0 j1 j2 j3
              have j0 := HB8.out.c0
              have j1 := HB8.out.c1
              have j2 := HB8.out.c2
              have j3 := HB8.out.c3
              have c0 := HS8.out.box.c0
              have c1 := HS8.out.box.c1
              have c2 := HS8.out.box.c2
              have cc3 := HS8.out.box.c3
              have f0 := HS8.out.box.f 0
              have f1 := HS8.out.box.f 1
              have f2 := HS8.out.box.f 2
              have f3 := HS8.out.box.f 3
              go_wp2_with fail
              exact bodyPost_ret_by (results_ev2 rfl _ _ rfl (HS8.out.box.set4 (c : Nat) (n : Nat) 0 (.slice v5 ns.length c5))) rfl ⟨_, rfl, RI.kept HR8.out (fun x hx => heap_set4 _ _ _ _ _ _ _ (by have := HP5.out x hx; omega)), (fun x n c hx => by cases hx; have h1 := HP5.out _ rfl; omega), below_set4 HS8.out.bel HS8.out.le _ _ _ _⟩
          · rw [if_neg (fun hh => hen hh.1)]
            have hn1 : (((en : Nat) : Int) != ((b.length : Nat) : Int)) = true := by simp; omega
            clear HCK hen HPT HF
            go_enter Tryz.func68, Tryz.ntmps68
            go_wp2_with fail
            refine Calls.mono (HT1.out _) ?_
            rintro e w1 ⟨rfl, hb1⟩
            have HS1 : Hid (Stand w w.heap.size w1) := HS0.out.later hb1
            have HB1 : Hid (Box w1 (w.heap.size + 1) (c : Nat) 0 0 (.slice none 0 0)) := HB0.out.later hb1
            have e1 := HB1.out.c1
            have ef1 := HB1.out.f 1
            have HS2 : Hid (Stand w w.heap.size (w1.setCell ⟨w.heap.size + 1, 1, none⟩ (.int .i64 (n : Nat)))) := HS1.out.other (by omega) (by omega)
            have HB2 : Hid (Box (w1.setCell ⟨w.heap.size + 1, 1, none⟩ (.int .i64 (n : Nat))) (w.heap.size + 1) (c : Nat) (n : Nat) 0 (.slice none 0 0)) := row_set HB1.out 1 _
            clear hb1 HS0 HB0 HT1
            have e0 := HB2.out.c0
            go_wp2_with fail
            refine Calls.mono (HL.out _ HS2.out.bel) ?_
            rintro e w5 ⟨v5, c5, rfl, hr5, hp5, hb5⟩
            have HS5 : Hid (Stand w w.heap.size w5) := HS2.out.later hb5
            have HB5 : Hid (Box w5 (w.heap.size + 1) (c : Nat) (n : Nat) 0 (.slice none 0 0)) := HB2.out.later hb5
            have HP5 : Hid (∀ a, v5 = some a → w.heap.size + 1 < a.block) := fun a ha => Nat.lt_of_lt_of_le HB2.out.lt (hp5 a ha)
            have HS6 : Hid (Stand w w.heap.size (w5.setCell ⟨w.heap.size + 1, 3, none⟩ (.slice v5 ns.length c5))) := HS5.out.other (by omega) (by omega)
            have HB6 : Hid (Box (w5.setCell ⟨w.heap.size + 1, 3, none⟩ (.slice v5 ns.length c5)) (w.heap.size + 1) (c : Nat) (n : Nat) 0 (.slice v5 ns.length c5)) := HB5.out.set3 _
            have HR6 : Hid (RI (w5.setCell ⟨w.heap.size + 1, 3, none⟩ (.slice v5 ns.length c5)) (.slice v5 ns.length c5) (intL ns)) := RI.kept hr5 (fun x hx => Below.heap_setCell _ _ _ _ (by have := HP5.out x hx; simp; omega))
            have e3 := HB5.out.c3
            have ef3 := HB5.out.f 3
            clear hr5 hp5 hb5 HL
            have c0 := HS6.out.box.c0
            have c1 := HS6.out.box.c1
            have c2 := HS6.out.box.c2
            have cc3 := HS6.out.box.c3
            have f0 := HS6.out.box.f 0
            have f1 := HS6.out.box.f 1
            have f2 := HS6.out.box.f 2
            have f3 := HS6.out.box.f 3
            go_wp2_with fail
            exact bodyPost_ret_by (results_ev2 rfl _ _ rfl (HS6.out.box.set4 0 0 0 (.slice none 0 0))) rfl ⟨_, rfl, RI.nil _, (fun _ _ _ h => by cases h), below_set4 HS6.out.bel HS6.out.le _ _ _ _⟩
        · rw [if_neg hF]
          have hF1 : (((F : Nat) : Int) == 0) = false := by simpa using hF
          have hF2 : (((F : Nat) : Int) != 0) = true := by simpa using hF
          clear HCK HPT HF
          go_enter Tryz.func68, Tryz.ntmps68
          go_wp2_with fail
          refine Calls.mono (HT1.out _) ?_
          rintro e w1 ⟨rfl, hb1⟩
          have HS1 : Hid (Stand w w.heap.size w1) := HS0.out.later hb1
          have HB1 : Hid (Box w1 (w.heap.size + 1) (c : Nat) 0 0 (.slice none 0 0)) := HB0.out.later hb1
          have e1 := HB1.out.c1
          have ef1 := HB1.out.f 1
          have HS2 : Hid (Stand w w.heap.size (w1.setCell ⟨w.heap.size + 1, 1, none⟩ (.int .i64 (n : Nat)))) := HS1.out.other (by omega) (by omega)
          have HB2 : Hid (Box (w1.setCell ⟨w.heap.size + 1, 1, none⟩ (.int .i64 (n : Nat))) (w.heap.size + 1) (c : Nat) (n : Nat) 0 (.slice none 0 0)) := row_set HB1.out 1 _
          clear hb1 HS0 HB0 HT1
          have e0 := HB2.out.c0
          go_wp2_with fail
          refine Calls.mono (HL.out _ HS2.out.bel) ?_
          rintro e w5 ⟨v5, c5, rfl, hr5, hp5, hb5⟩
          have HS5 : Hid (Stand w w.heap.size w5) := HS2.out.later hb5
          have HB5 : Hid (Box w5 (w.heap.size + 1) (c : Nat) (n : Nat) 0 (.slice none 0 0)) := HB2.out.later hb5
          have HP5 : Hid (∀ a, v5 = some a → w.heap.size + 1 < a.block) := fun a ha => Nat.lt_of_lt_of_le HB2.out.lt (hp5 a ha)
          have HS6 : Hid (Stand w w.heap.size (w5.setCell ⟨w.heap.size + 1, 3, none⟩ (.slice v5 ns.length c5))) := HS5.out.other (by omega) (by omega)
          have HB6 : Hid (Box (w5.setCell ⟨w.heap.size + 1, 3, none⟩ (.slice v5 ns.length c5)) (w.heap.size + 1) (c : Nat) (n : Nat) 0 (.slice v5 ns.length c5)) := HB5.out.set3 _
          have HR6 : Hid (RI (w5.setCell ⟨w.heap.size + 1, 3, none⟩ (.slice v5 ns.length c5)) (.slice v5 ns.length c5) (intL ns)) := RI.kept hr5 (fun x hx => Below.heap_setCell _ _ _ _ (by have := HP5.out x hx; simp; omega))
          have e3 := HB5.out.c3
          have ef3 := HB5.out.f 3
          clear hr5 hp5 hb5 HL
          have c0 := HS6.out.box.c0
          have c1 := HS6.out.box.c1
          have c2 := HS6.out.box.c2
          have cc3 := HS6.out.box.c3
          have f0 := HS6.out.box.f 0
          have f1 := HS6.out.box.f 1
          have f2 := HS6.out.box.f 2
          have f3 := HS6.out.box.f 3
          go_wp2_with fail
          exact bodyPost_ret_by (results_ev2 rfl _ _ rfl (HS6.out.box.set4 0 0 0 (.slice none 0 0))) rfl ⟨_, rfl, RI.nil _, (fun _ _ _ h => by cases h), below_set4 HS6.out.bel HS6.out.le _ _ _ _⟩
    · have hh : headF (decide (3 < ((c : Nat) : Int))) b = (c, n, 0, q, E) := by
        rw [HCC.out, if_neg (fun hx => hE hx.2)]
      have HF : Hid (readF (decide (3 < ((c : Nat) : Int))) b = none) := by show _ = _; unfold readF; rw [hh]; dsimp only; rw [if_neg hE]
      rw [HF.out]
      have hE3 : (((E : Nat) : Int) == 0) = false := by simpa using hE
      have hE4 : (((E : Nat) : Int) != 0) = true := by simpa using hE
      clear HF hh HCC HQ
      go_enter Tryz.func68, Tryz.ntmps68
      go_wp2_with fail
      refine Calls.mono (HT1.out _) ?_
      rintro e w1 ⟨rfl, hb1⟩
      have HS1 : Hid (Stand w w.heap.size w1) := HS0.out.later hb1
      have HB1 : Hid (Box w1 (w.heap.size + 1) (c : Nat) 0 0 (.slice none 0 0)) := HB0.out.later hb1
      have e1 := HB1.out.c1
      have ef1 := HB1.out.f 1
      have HS2 : Hid (Stand w w.heap.size (w1.setCell ⟨w.heap.size + 1, 1, none⟩ (.int .i64 (n : Nat)))) := HS1.out.other (by omega) (by omega)
      have HB2 : Hid (Box (w1.setCell ⟨w.heap.size + 1, 1, none⟩ (.int .i64 (n : Nat))) (w.heap.size + 1) (c : Nat) (n : Nat) 0 (.slice none 0 0)) := row_set HB1.out 1 _
      clear hb1 HS0 HB0 HT1
      have e0 := HB2.out.c0
      have c0 := HS2.out.box.c0
      have c1 := HS2.out.box.c1
      have c2 := HS2.out.box.c2
      have cc3 := HS2.out.box.c3
      have f0 := HS2.out.box.f 0
      have f1 := HS2.out.box.f 1
      have f2 := HS2.out.box.f 2
      have f3 := HS2.out.box.f 3
      go_wp2_with fail
      exact bodyPost_ret_by (results_ev2 rfl _ _ rfl (HS2.out.box.set4 0 0 0 (.slice none 0 0))) rfl ⟨_, rfl, RI.nil _, (fun _ _ _ h => by cases h), below_set4 HS2.out.bel HS2.out.le _ _ _ _⟩
end Go.Proofs.YtijkgdbabikojaaGreat

