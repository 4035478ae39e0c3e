/- A walk over glyph.Cut: the first code points of a text, and the rest. -/
import Derived.Test.YtilmgmafhmgddaaWS
namespace Go.Proofs.Ytilmgmafhmgddaa
open Go.RowKit

/-- Where a text is cut: behind as many code points as are asked for, or all that are right. -/
def cutV (cs : List Int) (n : Int) : Nat := (encAll (cs.take n.toNat)).length

theorem cutV_le (cs : List Int) (n : Int) : cutV cs n ≤ (encAll cs).length := by
  unfold cutV
  have h : encAll cs = encAll (cs.take n.toNat) ++ encAll (cs.drop n.toNat) := by rw [← encAll_append, List.take_append_drop]
  rw [h]
  simp


set_option maxRecDepth 1000000 in
set_option maxHeartbeats 1000000 in
theorem cut_whole (s : ByteArray) (cs : List Int) (rest : List UInt8) (hp0 : Parts s.data.toList cs rest) (hr : rest = []) (n : Int) (w : World) (hs : s.size ≤ 100000) (hn1 : -9223372036854775808 ≤ n) (hn2 : n ≤ 9223372036854775807) :
    Calls Try.prog 12 #[.string s, .int .i64 n] w fun e w' => e = .returned (.tuple #[.string (s.extract 0 (cutV cs n)), .string (s.extract (cutV cs n) s.size)]) ∧ Below w.heap.size w w' := by
  have hz := size_list s
  have hb : badV cs rest < 0 := by simp [badV, hr]
  have hE : (encAll cs).length = s.size := by rw [← hz, hp0.eq, hr]; simp
  go_enter Try.func12, Try.ntmps12
  go_wp2_with (go_at_call 15; refine (bad_any s cs rest hp0 _ hs).mono ?_; rintro e w1 ⟨rfl, hb1⟩)
  have hsz1 := hb1.size
  have hbl : ∀ p, Below w.heap.size w (w1.iter s p) := fun p => hb1.alloc (by omega) _
  have ht : s.data.toList = encAll cs ++ [] := by
    rw [hp0.eq, hr]
  go_loopw [1, 7] (fun nv _ wr => ∃ (d todo : List Int), Hid (cs = d ++ todo) ∧ wr = w1.iter s (encAll d).length ∧ nv = .int .i64 (n - d.length) ∧ d.length ≤ n.toNat) (fun _ _ wr => s.size - wr.iterPos w1.heap.size)
  case atStart => exact ⟨[], cs, rfl, rfl, by simp, by simp⟩
  case round =>
    obtain ⟨d, todo, HC, rfl, rfl, hdn⟩ := hrel
    have hsd : (encAll d).length ≤ s.size := by
      rw [← hz, hp0.eq, HC.out, encAll_append]
      simp
    cases todo with
    | cons c todo =>
      have hS : s.data.toList = encAll (d ++ c :: todo) ++ [] := by rw [← HC.out]; exact ht
      have hc : isCp c = true := hp0.cp c (by rw [HC.out]; simp)
      have hd := decode_at s d todo c [] hS hc
      have hk := enc_pos c hc
      have hlen : (encAll (d ++ [c])).length = (encAll d).length + (enc c).length := by rw [encAll_append, encAll_one]; simp
      have hsz : (encAll d).length + (enc c).length ≤ s.size := by
        rw [← size_list s, hS, encAll_append]
        simp [encAll]
      have hcn := cp_toNat c hc
      have HR : Hid (cs = (d ++ [c]) ++ todo) := by show _ = _; rw [HC.out]; simp
      have HL : Hid ((encAll (d ++ [c])).length = (encAll d).length + (enc c).length) := hlen
      have HV : Hid (n - d.length ≤ 0 → cutV cs n = (encAll d).length) := by
        intro h
        have e : n.toNat = d.length := by omega
        unfold cutV
        rw [HC.out, e, List.take_left]
      generalize hp1 : (encAll d).length = pos at *
      generalize hk1 : (enc c).length = k at *
      have hnx : ∀ ty, (Instr.next (.pointer (some ⟨w1.heap.size, 0, none⟩)) true ty).run Try.prog (w1.iter s pos) = .ok (.tuple #[.bool true, .int .i64 pos, .int .i32 c]) (w1.iter s (pos + k)) := by
        intro ty
        have h := run_next_any (P := Try.prog) w1 s pos ty (by omega)
        rw [hd] at h
        simp only [hcn] at h
        exact h
      clear hS hc hd hlen hcn HC hp1 hk1 hp0 hz ht hE hr
      by_cases hq : n - d.length ≤ 0
      · have HE : Hid (cutV cs n = pos) := HV.out hq
        clear HV
        go_wp2
        go_quiet (fail)
        go_wp2
        go_ret2
        rw [HE.out]
        exact ⟨rfl, below_drewN (hbl _) _⟩
      · clear HV
        go_wp2
        go_roundw
        case rel => exact ⟨d ++ [c], todo, HR, by rw [HL.out], by simp; omega, by simp; omega⟩
        case measure => simp; omega
    | nil =>
      have hC : cs = d := by simpa using HC.out
      subst hC
      have hsz : ¬ (encAll cs).length < s.size := by
        rw [← size_list s, ht]
        simp
      have HE : Hid (cutV cs n = s.size) := by
        show _ = _
        unfold cutV
        rw [List.take_of_length_le hdn]
        exact hE
      generalize (encAll cs).length = pos at *
      have hnx : ∀ ty, (Instr.next (.pointer (some ⟨w1.heap.size, 0, none⟩)) true ty).run Try.prog (w1.iter s pos) = _ := fun ty => run_next_end w1 s pos ty hsz
      clear hp0 hz HC ht hE hr
      go_wp2
      go_quiet (fail)
      go_wp2
      go_ret2
      rw [HE.out]
      have e1 : s.extract 0 s.size = s := by simp
      have e2 : s.extract s.size s.size = ByteArray.empty := by simp
      rw [e1, e2]
      exact ⟨rfl, below_drewN (hbl _) _⟩

set_option maxRecDepth 1000000 in
set_option maxHeartbeats 1000000 in
theorem cut_part (s : ByteArray) (cs : List Int) (rest : List UInt8) (hp0 : Parts s.data.toList cs rest) (hr : rest ≠ []) (n : Int) (w : World) (hs : s.size ≤ 100000) (hn1 : -9223372036854775808 ≤ n) (hn2 : n ≤ 9223372036854775807) :
    Calls Try.prog 12 #[.string s, .int .i64 n] w fun e w' => e = .returned (.tuple #[.string (s.extract 0 (cutV cs n)), .string (s.extract (cutV cs n) s.size)]) ∧ Below w.heap.size w w' := by
  have hz := size_list s
  obtain ⟨E, hE⟩ : ∃ E : Nat, (encAll cs).length = E := ⟨_, rfl⟩
  have hb : Hid (badV cs rest = (E : Int)) := by show _ = _; simp [badV, hr, hE]
  have hEs : E ≤ s.size := by rw [← hz, hp0.eq, ← hE]; simp
  have HEE : Hid ((encAll cs).length = E) := hE
  clear hE
  go_enter Try.func12, Try.ntmps12
  go_wp2_with (go_at_call 15; refine (bad_any s cs rest hp0 _ hs).mono ?_; rintro e w1 ⟨rfl, hb1⟩; rw [hb.out])
  have hsz1 := hb1.size
  have hbl : ∀ p, Below w.heap.size w (w1.iter (s.extract 0 E) p) := fun p => hb1.alloc (by omega) _
  have ht : (s.extract 0 E).data.toList = encAll cs ++ [] := by
    rw [Lib.extract_data]
    rw [hp0.eq, ← HEE.out]
    simp
  have htz : (s.extract 0 E).size = E := by simp; try omega
  generalize s.extract 0 E = t at *
  go_loopw [1, 7] (fun nv _ wr => ∃ (d todo : List Int), Hid (cs = d ++ todo) ∧ wr = w1.iter t (encAll d).length ∧ nv = .int .i64 (n - d.length) ∧ d.length ≤ n.toNat) (fun _ _ wr => t.size - wr.iterPos w1.heap.size)
  case atStart => exact ⟨[], cs, rfl, rfl, by simp, by simp⟩
  case round =>
    obtain ⟨d, todo, HC, rfl, rfl, hdn⟩ := hrel
    have hsd : (encAll d).length ≤ s.size := by
      rw [← hz, hp0.eq, HC.out, encAll_append]
      simp
    cases todo with
    | cons c todo =>
      have hS : t.data.toList = encAll (d ++ c :: todo) ++ [] := by rw [← HC.out]; exact ht
      have hc : isCp c = true := hp0.cp c (by rw [HC.out]; simp)
      have hd := decode_at t d todo c [] hS hc
      have hk := enc_pos c hc
      have hlen : (encAll (d ++ [c])).length = (encAll d).length + (enc c).length := by rw [encAll_append, encAll_one]; simp
      have hsz : (encAll d).length + (enc c).length ≤ t.size := by
        rw [← size_list t, hS, encAll_append]
        simp [encAll]
      have hcn := cp_toNat c hc
      have HR : Hid (cs = (d ++ [c]) ++ todo) := by show _ = _; rw [HC.out]; simp
      have HL : Hid ((encAll (d ++ [c])).length = (encAll d).length + (enc c).length) := hlen
      have HV : Hid (n - d.length ≤ 0 → cutV cs n = (encAll d).length) := by
        intro h
        have e : n.toNat = d.length := by omega
        unfold cutV
        rw [HC.out, e, List.take_left]
      generalize hp1 : (encAll d).length = pos at *
      generalize hk1 : (enc c).length = k at *
      have hnx : ∀ ty, (Instr.next (.pointer (some ⟨w1.heap.size, 0, none⟩)) true ty).run Try.prog (w1.iter t pos) = .ok (.tuple #[.bool true, .int .i64 pos, .int .i32 c]) (w1.iter t (pos + k)) := by
        intro ty
        have h := run_next_any (P := Try.prog) w1 t pos ty (by omega)
        rw [hd] at h
        simp only [hcn] at h
        exact h
      clear hS hc hd hlen hcn HC hp1 hk1 hp0 hz ht hr
      by_cases hq : n - d.length ≤ 0
      · have HE : Hid (cutV cs n = pos) := HV.out hq
        clear HV
        go_wp2
        go_quiet (fail)
        go_wp2
        go_ret2
        rw [HE.out]
        exact ⟨rfl, below_drewN (hbl _) _⟩
      · clear HV
        go_wp2
        go_roundw
        case rel => exact ⟨d ++ [c], todo, HR, by rw [HL.out], by simp; omega, by simp; omega⟩
        case measure => simp; omega
    | nil =>
      have hC : cs = d := by simpa using HC.out
      subst hC
      have hsz : ¬ (encAll cs).length < t.size := by
        rw [← size_list t, ht]
        simp
      have HE : Hid (cutV cs n = E) := by
        show _ = _
        unfold cutV
        rw [List.take_of_length_le hdn]
        exact HEE.out
      generalize (encAll cs).length = pos at *
      have hnx : ∀ ty, (Instr.next (.pointer (some ⟨w1.heap.size, 0, none⟩)) true ty).run Try.prog (w1.iter t pos) = _ := fun ty => run_next_end w1 t pos ty hsz
      clear hp0 hz HC ht hr
      go_wp2
      go_quiet (fail)
      go_wp2
      go_ret2
      rw [HE.out]
      exact ⟨rfl, below_drewN (hbl _) _⟩

theorem cut_any (s : ByteArray) (cs : List Int) (rest : List UInt8) (hp0 : Parts s.data.toList cs rest) (n : Int) (w : World) (hs : s.size ≤ 100000) (hn1 : -9223372036854775808 ≤ n) (hn2 : n ≤ 9223372036854775807) :
    Calls Try.prog 12 #[.string s, .int .i64 n] w fun e w' => e = .returned (.tuple #[.string (s.extract 0 (cutV cs n)), .string (s.extract (cutV cs n) s.size)]) ∧ Below w.heap.size w w' := by
  by_cases hr : rest = []
  · exact cut_whole s cs rest hp0 hr n w hs hn1 hn2
  · exact cut_part s cs rest hp0 hr n w hs hn1 hn2
end Go.Proofs.Ytilmgmafhmgddaa
