/- Walks over strings.HasPrefix (at the bytes of the number fffd) and glyph.Bad: the place of the first byte at which no code point stands. -/
import Derived.Test.YtchdecoceokcmaaRows
import Derived.Test.YtchdecoceokcmaaMb
import Derived.WalkKit
import Derived.WalkSpells
import Derived.WalkLawsBesides
namespace Go.Proofs.Ytchdecoceokcmaa
open Go.RowKit

theorem ret_b {a b : Bool} (h : a = b) : Ending.returned (.bool a) = .returned (.bool b) := by rw [h]
theorem ret_i {k : IntKind} {a b : Int} (h : a = b) : Ending.returned (.int k a) = .returned (.int k b) := by rw [h]

set_option maxHeartbeats 400000 in
theorem prefix_any (t : ByteArray) (w : World) (hs : t.size ≤ 100000) :
    Calls Try.prog 30 #[.string t, .string ⟨#[239, 191, 189]⟩] w fun e w' => e = .returned (.bool (hp t)) ∧ w' = w := by
  by_cases h : 3 ≤ t.size
  · go_enter Try.func30, Try.ntmps30
    go_wp2
    go_ret
    refine ⟨ret_b ?_, rfl⟩
    rw [Lib.extract_toList]
    unfold hp
    rw [Bool.eq_iff_iff]
    simp
  · have hz := size_list t
    go_enter Try.func30, Try.ntmps30
    go_wp2
    go_ret
    refine ⟨ret_b ?_, rfl⟩
    unfold hp
    symm
    rw [decide_eq_false_iff_not]
    intro e
    have := congrArg List.length e
    simp at this
    omega

/-- The place of the first bad byte; -1 if there is none. -/
def badV (cs : List Int) (rest : List UInt8) : Int := if rest = [] then -1 else ((encAll cs).length : Int)

set_option maxRecDepth 1000000 in
set_option maxHeartbeats 1000000 in
theorem bad_any (s : ByteArray) (cs : List Int) (rest : List UInt8) (hp0 : Parts s.data.toList cs rest) (w : World) (hs : s.size ≤ 100000) :
    Calls Try.prog 21 #[.string s] w fun e w' => e = .returned (.int .i64 (badV cs rest)) ∧ Below w.heap.size w w' := by
  have hz := size_list s
  have hbl : ∀ n, Below w.heap.size w (w.iter s n) := fun n => (Below.refl _ _).alloc (Nat.le_refl _) _
  go_enter Try.func21, Try.ntmps21
  go_wp2
  go_loopw [3, 4] (fun _ _ wr => ∃ (d todo : List Int), Hid (cs = d ++ todo) ∧ wr = w.iter s (encAll d).length) (fun _ _ wr => s.size - wr.iterPos w.heap.size)
  case atStart => exact ⟨[], cs, rfl, rfl⟩
  case round =>
    obtain ⟨d, todo, HC, rfl⟩ := hrel
    have hip : ∀ n, (w.iter s n).iterPos w.heap.size = n := fun n => by simp
    cases todo with
    | cons c todo =>
      have hS : s.data.toList = encAll (d ++ c :: todo) ++ rest := by rw [← HC.out]; exact hp0.eq
      have hc : isCp c = true := hp0.cp c (by rw [HC.out]; simp)
      have hd := decode_at s d todo c rest hS hc
      have hyes : c = 65533 → hp (s.extract (encAll d).length s.size) = true := by rintro rfl; exact hp_yes s d todo rest hS
      have hk := enc_pos c hc
      have hlen : (encAll (d ++ [c])).length = (encAll d).length + (enc c).length := by rw [encAll_append, encAll_one]; simp
      have hsz : (encAll d).length + (enc c).length ≤ s.size := by
        rw [← hz, hS, encAll_append]
        simp [encAll]
      have hcn := cp_toNat c hc
      have HR : Hid (cs = (d ++ [c]) ++ todo) := by show _ = _; rw [HC.out]; simp
      have HL : Hid ((encAll (d ++ [c])).length = (encAll d).length + (enc c).length) := hlen
      generalize hp1 : (encAll d).length = pos at *
      generalize hk1 : (enc c).length = k at *
      have hnx : ∀ ty, (Instr.next (.pointer (some ⟨w.heap.size, 0, none⟩)) true ty).run Try.prog (w.iter s pos) = .ok (.tuple #[.bool true, .int .i64 pos, .int .i32 c]) (w.iter s (pos + k)) := by
        intro ty
        have h := run_next_any (P := Try.prog) w s pos ty (by omega)
        rw [hd] at h
        simp only [hcn] at h
        exact h
      have hx : (s.extract pos s.size).size ≤ 100000 := by simp; omega
      have hlt : pos < s.size := by omega
      clear hS hc hd hlen hcn HC hp1 hk1 hp0 hz
      by_cases hb : c = 65533
      · have h1 := hyes hb
        have h2 : (c == 65533) = true := by simp [hb]
        clear hb hyes
        go_wp2_with (go_at_call 30; refine (prefix_any _ _ hx).mono ?_; rintro e w' ⟨rfl, rfl⟩)
        go_roundw
        case rel => exact ⟨d ++ [c], todo, HR, by rw [HL.out]⟩
        case measure => simp; omega
      · have h2 : (c == 65533) = false := by simp [hb]
        clear hb hyes
        go_wp2_with (go_at_call 30; refine (prefix_any _ _ hx).mono ?_; rintro e w' ⟨rfl, rfl⟩)
        go_roundw
        case rel => exact ⟨d ++ [c], todo, HR, by rw [HL.out]⟩
        case measure => simp; omega
    | nil =>
      have hC : cs = d := by simpa using HC.out
      subst hC
      by_cases hr : rest = []
      · have hsz : ¬ (encAll cs).length < s.size := by
          rw [← hz, hp0.eq, hr]
          simp
        have HB : Hid (badV cs rest = -1) := by show _ = _; simp [badV, hr]
        generalize (encAll cs).length = pos at *
        have hnx : ∀ ty, (Instr.next (.pointer (some ⟨w.heap.size, 0, none⟩)) true ty).run Try.prog (w.iter s pos) = _ := fun ty => run_next_end w s pos ty hsz
        clear hr hp0 hz
        go_wp2
        go_ret
        exact ⟨ret_i HB.out.symm, hbl _⟩
      · have hn : NoCp rest := hp0.stop.resolve_left hr
        have hd := decode_stop s cs rest hp0.eq hn hr
        have hno := hp_no s cs rest hp0.eq hn
        have hlt : (encAll cs).length < s.size := by
          rw [← hz, hp0.eq]
          have := List.length_pos_iff.2 hr
          simp
          omega
        have HB : Hid (badV cs rest = ((encAll cs).length : Int)) := by show _ = _; simp [badV, hr]
        generalize (encAll cs).length = pos at *
        have hnx : ∀ ty, (Instr.next (.pointer (some ⟨w.heap.size, 0, none⟩)) true ty).run Try.prog (w.iter s pos) = .ok (.tuple #[.bool true, .int .i64 pos, .int .i32 65533]) (w.iter s (pos + 1)) := by
          intro ty
          have h := run_next_any (P := Try.prog) w s pos ty hlt
          rw [hd] at h
          exact h
        have hx : (s.extract pos s.size).size ≤ 100000 := by simp; omega
        clear hr hp0 hz hd hn
        go_wp2_with (go_at_call 30; refine (prefix_any _ _ hx).mono ?_; rintro e w' ⟨rfl, rfl⟩)
        go_ret
        exact ⟨ret_i HB.out.symm, hbl _⟩
end Go.Proofs.Ytchdecoceokcmaa
