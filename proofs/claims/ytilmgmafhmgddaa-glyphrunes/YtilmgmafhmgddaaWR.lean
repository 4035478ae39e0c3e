/- A walk over glyph.Runes: a right text's code points, in a slice of the call's own; a wrong text's error. -/
import Derived.Test.YtilmgmafhmgddaaWB
import Derived.Lib.OthersKept
namespace Go.Proofs.Ytilmgmafhmgddaa
open Go.RowKit

theorem Try.info3 : (Try.prog.info? 3).map (fun i => (i.zero, i.size, i.bytes)) = some (some (.int .i64 0), 1, 8) := by kernel_rfl

/-- Numbers as they lie in memory. -/
def ivs (l : List Int) : List Value := l.map fun c => Value.int .i64 c

theorem ivs_len (l : List Int) : (ivs l).length = l.length := by simp [ivs]
theorem ivs_snoc (l : List Int) (c : Int) : ivs (l ++ [c]) = ivs l ++ [.int .i64 c] := by simp [ivs]

theorem owns_iterAt {w : World} {base : Nat} {e : TypeId} {size : Nat} {v : Value} {n : Nat} {xs : List Value} (h : w.ownsRow base e size v n xs) {k : Nat} (hk : k < base) (s : ByteArray) (p : Nat) : (w.iterAt k s p).ownsRow base e size v n xs := by
  obtain ⟨h1, h2⟩ := h
  refine ⟨h1, ?_⟩
  rcases h2 with h2 | ⟨g, cap, cur, a, b, c, d⟩
  · exact .inl h2
  · exact .inr ⟨g, cap, cur, a, b, by rw [Lib.iterAt_other _ _ _ _ _ (by omega)]; exact c, d⟩

theorem iter_pos_of {w : World} {k : Nat} {s : ByteArray} {p : Nat} (h : w.heap[k]? = some (.stringIter s p)) : w.iterPos k = p := by simp [World.iterPos, h]

theorem owns_low {w : World} {B B' : Nat} {e : TypeId} {size : Nat} {v : Value} {n : Nat} {xs : List Value} (h : w.ownsRow B e size v n xs) (hB : B' ≤ B) : w.ownsRow B' e size v n xs := by
  obtain ⟨h1, h2⟩ := h
  refine ⟨h1, ?_⟩
  rcases h2 with h2 | ⟨g, cap, cur, a, b, c⟩
  · exact .inl h2
  · exact .inr ⟨g, cap, cur, a, by omega, c⟩

set_option maxRecDepth 1000000 in
set_option maxHeartbeats 1000000 in
theorem runes_bad (s : ByteArray) (cs : List Int) (rest : List UInt8) (hp0 : Parts s.data.toList cs rest) (hr : rest ≠ []) (w : World) (hs : s.size ≤ 100000) :
    Calls Try.prog 10 #[.string s] w fun e w' => e = .returned (.tuple #[.slice none 0 0, .int .i64 4]) ∧ Below w.heap.size w w' := by
  have hb : 0 ≤ badV cs rest := by simp [badV, hr]
  go_enter Try.func10, Try.ntmps10
  go_wp2_with (go_at_call 15; refine (bad_any s cs rest hp0 _ hs).mono ?_; rintro e w1 ⟨rfl, hb1⟩)
  go_ret2
  exact ⟨rfl, hb1⟩

set_option maxRecDepth 1000000 in
set_option maxHeartbeats 1000000 in
theorem runes_good (s : ByteArray) (cs : List Int) (hp0 : Parts s.data.toList cs []) (w : World) (hs : s.size ≤ 100000) :
    Calls Try.prog 10 #[.string s] w fun e w' => ∃ v, e = .returned (.tuple #[v, .int .i64 0]) ∧ w'.ownsRow w.heap.size 3 1 v cs.length (ivs cs) ∧ Below w.heap.size w w' := by
  obtain ⟨i0, hi, hz0, hz1, hz2⟩ := info_parts Try.info3
  have hz := size_list s
  have hb : badV cs [] < 0 := by simp [badV]
  go_enter Try.func10, Try.ntmps10
  go_wp2_with (go_at_call 15; refine (bad_any s cs [] hp0 _ hs).mono ?_; rintro e w1 ⟨rfl, hb1⟩)
  have hsz1 := hb1.size
  go_loopw [4, 6] (fun v _ wr => ∃ (d todo : List Int), Hid (cs = d ++ todo) ∧ wr.heap[w1.heap.size]? = some (.stringIter s (encAll d).length) ∧ wr.ownsRow (w1.heap.size + 1) 3 1 v d.length (ivs d) ∧ Below w.heap.size w wr) (fun _ _ wr => s.size - wr.iterPos w1.heap.size)
  case atStart => exact ⟨[], cs, rfl, World.iter_heap w1 s 0, World.ownsRow_nil _ _ _ _, hb1.alloc (by omega) _⟩
  case round =>
    obtain ⟨d, todo, HC, hit, hown, hbw⟩ := hrel
    have hpos0 := iter_pos_of hit
    cases todo with
    | cons c todo =>
      have hS : s.data.toList = encAll (d ++ c :: todo) ++ [] := by rw [← HC.out]; exact hp0.eq
      have hc : isCp c = true := hp0.cp c (by rw [HC.out]; simp)
      have hcd : ∀ x ∈ d, isCp x = true := fun x hx => hp0.cp x (by rw [HC.out]; simp [hx])
      have hd := decode_at s d todo c [] hS hc
      have hk := enc_pos c hc
      have hge := (encAll_len_ge d hcd).1
      have hlen : (encAll (d ++ [c])).length = (encAll d).length + (enc c).length := by rw [encAll_append, encAll_one]; simp
      have hsz : (encAll d).length + (enc c).length ≤ s.size := by
        rw [← hz, hS, encAll_append]
        simp [encAll]
      have hcn := cp_toNat c hc
      have hcb := (isCp_iff c).1 hc
      have HR : Hid (cs = (d ++ [c]) ++ todo) := by show _ = _; rw [HC.out]; simp
      have HL : Hid ((encAll (d ++ [c])).length = (encAll d).length + (enc c).length) := hlen
      generalize hp1 : (encAll d).length = pos at *
      generalize hk1 : (enc c).length = k at *
      obtain ⟨hcb1, hcb2, _⟩ := hcb
      have hnx : ∀ ty, (Instr.next (.pointer (some ⟨w1.heap.size, 0, none⟩)) true ty).run Try.prog wr = .ok (.tuple #[.bool true, .int .i64 pos, .int .i32 c]) (wr.iterAt w1.heap.size s (pos + k)) := by
        intro ty
        have h := Lib.run_next_any_at (P := Try.prog) wr w1.heap.size s pos ty hit (by omega)
        rw [hd] at h
        simp only [hcn] at h
        exact h
      have hit2 := Lib.iterAt_heap wr w1.heap.size s pos (pos + k) hit
      have hbw2 := Lib.below_iterAt hbw (k := w1.heap.size) (by omega) s (pos + k)
      have hown2 := owns_iterAt hown (k := w1.heap.size) (by omega) s (pos + k)
      obtain ⟨W1, hW1⟩ : ∃ W1, W1 = wr.iterAt w1.heap.size s (pos + k) := ⟨_, rfl⟩
      rw [← hW1] at hnx hit2 hbw2 hown2
      have hBlt := lt_of_block hit2
      clear hW1 hit hown hbw hS hc hcd hd hlen hcn HC hp1 hk1 hp0 hz
      go_wp2_with (at_builtin; refine wpList_append_own _ rfl _ _ 23 rfl (w1.heap.size + 1) 3 i0 (.int .i64 0) 1 8 Try.underlying23 hi hz0 hz1 hz2 rfl (by decide) _ _ _ rfl (hown2.alloc _) ⟨W1.heap.size, 0, none⟩ 1 1 [.int .i64 c] rfl rfl (cell_one_new _ _ _) (fun x hx => by simp at hx; subst hx; rfl) (by unfold maxLen; omega) (by omega) (by simp; omega) ?_; intro v' w3 hown' hgrow3 hnil3)
      have hit3 : w3.heap[w1.heap.size]? = some (.stringIter s (pos + k)) := by
        rw [hgrow3.block w1.heap.size (by simp; omega) (fun h => by have := (hown2.lt _ h.symm).1; omega), Below.heap_alloc _ _ _ hBlt]; exact hit2
      have hbw3 : Below w.heap.size w w3 := Below.grown (hbw2.alloc (by omega) _) hgrow3 (by simp; omega) (fun j hj => by have := (hown2.lt _ hj).1; omega)
      go_roundw
      case rel => exact ⟨d ++ [c], todo, HR, by rw [HL.out]; exact hit3, by rw [ivs_snoc]; simpa using hown', hbw3⟩
      case measure => rw [iter_pos_of hit3, hpos0]; omega
    | nil =>
      have hC : cs = d := by simpa using HC.out
      subst hC
      have hsz : ¬ (encAll cs).length < s.size := by
        rw [← hz, hp0.eq]
        simp
      generalize (encAll cs).length = pos at *
      have hnx : ∀ ty, (Instr.next (.pointer (some ⟨w1.heap.size, 0, none⟩)) true ty).run Try.prog wr = _ := fun ty => Lib.run_next_end_at wr w1.heap.size s pos ty hit hsz
      clear hp0 hz HC
      go_wp2
      go_ret2
      exact ⟨_, rfl, owns_low hown (by omega), hbw⟩
end Go.Proofs.Ytilmgmafhmgddaa
