/- A walk over strings.ContainsRune at the six marks: does a code point stand among them? -/
import Derived.Test.YtchdecoceokcmaaWI
import Derived.Laws.Runes
import Derived.LoopN
namespace Go.Proofs.Ytchdecoceokcmaa
open Go.RowKit

theorem encode_cp (c : Int) (h : isCp c = true) : Utf8.encode c = ⟨(enc c).toArray⟩ := by
  have hv := valid_of c h
  unfold Utf8.encode enc encN
  simp only [hv, if_true]
  generalize c.toNat = n
  clear hv h
  by_cases h1 : n < 128
  · simp only [h1, if_true]
  by_cases h2 : n < 2048
  · simp only [h1, h2, if_true, if_false]
  by_cases h3 : n < 65536
  · simp only [h1, h2, h3, if_true, if_false]
  · simp only [h1, h2, h3, if_false]

theorem no_mark (c : Int) (h : 128 ≤ c) : isMark c = false := by
  unfold isMark
  rw [decide_eq_false_iff_not]
  omega

theorem parts_marks : Parts (⟨#[123, 125, 40, 41, 59, 44]⟩ : ByteArray).data.toList [123, 125, 40, 41, 59, 44] [] :=
  ⟨by decide +kernel, by decide +kernel, .inl rfl⟩

set_option maxRecDepth 1000000 in
set_option maxHeartbeats 1000000 in
theorem irune_bad (w : World) :
    Calls Try.prog 41 #[.string ⟨#[123, 125, 40, 41, 59, 44]⟩, .int .i32 65533] w fun e w' => e = .returned (.int .i64 (-1)) ∧ Below w.heap.size w w' := by
  obtain ⟨s, hs⟩ : ∃ s : ByteArray, s = ⟨#[123, 125, 40, 41, 59, 44]⟩ := ⟨_, rfl⟩
  rw [← hs]
  have hp0 : Parts s.data.toList [123, 125, 40, 41, 59, 44] [] := by rw [hs]; exact parts_marks
  have hsz6 : s.size = 6 := by rw [hs]; rfl
  have hlt : ∀ c ∈ ([123, 125, 40, 41, 59, 44] : List Int), (c == 65533) = false := by decide
  generalize ([123, 125, 40, 41, 59, 44] : List Int) = cs at *
  clear hs
  have hz := size_list s
  have hbl : ∀ n, Below w.heap.size w (w.iter s n) := fun n => (Below.refl _ _).alloc (Nat.le_refl _) _
  go_enter Try.func41, Try.ntmps41
  go_wp2
  go_loopw [5, 6] (fun _ _ wr => ∃ (d todo : List Int), Hid (cs = d ++ todo) ∧ wr = w.iter s (encAll d).length) (fun _ _ wr => s.size - wr.iterPos w.heap.size)
  case atStart => exact ⟨[], cs, rfl, rfl⟩
  case round =>
    obtain ⟨d, todo, HC, rfl⟩ := hrel
    have hip : ∀ n, (w.iter s n).iterPos w.heap.size = n := fun n => by simp
    cases todo with
    | cons c todo =>
      have hS : s.data.toList = encAll (d ++ c :: todo) ++ [] := by rw [← HC.out]; exact hp0.eq
      have hc : isCp c = true := hp0.cp c (by rw [HC.out]; simp)
      have h2 : (c == 65533) = false := hlt c (by rw [HC.out]; simp)
      have hd := decode_at s d todo c [] hS hc
      have hk := enc_pos c hc
      have hlen : (encAll (d ++ [c])).length = (encAll d).length + (enc c).length := by rw [encAll_append, encAll_one]; simp
      have hsz : (encAll d).length + (enc c).length ≤ s.size := by
        rw [← hz, hS, encAll_append]
        simp [encAll]
      have hcn := cp_toNat c hc
      have HR : Hid (cs = (d ++ [c]) ++ todo) := by show _ = _; rw [HC.out]; simp
      have HL : Hid ((encAll (d ++ [c])).length = (encAll d).length + (enc c).length) := hlen
      generalize hp1 : (encAll d).length = pos at *
      generalize hk1 : (enc c).length = k at *
      have hnx : ∀ ty, (Instr.next (.pointer (some ⟨w.heap.size, 0, none⟩)) true ty).run Try.prog (w.iter s pos) = .ok (.tuple #[.bool true, .int .i64 pos, .int .i32 c]) (w.iter s (pos + k)) := by
        intro ty
        have h := run_next_any (P := Try.prog) w s pos ty (by omega)
        rw [hd] at h
        simp only [hcn] at h
        exact h
      clear hS hc hd hlen hcn HC hp1 hk1 hp0 hz hlt
      go_wp2
      go_roundw
      case rel => exact ⟨d ++ [c], todo, HR, by rw [HL.out]⟩
      case measure => simp; omega
    | nil =>
      have hC : cs = d := by simpa using HC.out
      subst hC
      have hsz : ¬ (encAll cs).length < s.size := by
        rw [← hz, hp0.eq]
        simp
      generalize (encAll cs).length = pos at *
      have hnx : ∀ ty, (Instr.next (.pointer (some ⟨w.heap.size, 0, none⟩)) true ty).run Try.prog (w.iter s pos) = _ := fun ty => run_next_end w s pos ty hsz
      clear hp0 hz hlt
      go_wp2
      go_ret
      exact ⟨rfl, hbl _⟩

end Go.Proofs.Ytchdecoceokcmaa
