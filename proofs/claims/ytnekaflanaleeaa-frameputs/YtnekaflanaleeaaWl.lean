/- The walks over the laws' small, put and lives. -/
import Derived.Test.YtnekaflanaleeaaWk
import Derived.Test.YtnekaflanaleeaaMd
namespace Go.Proofs.Ytnekaflanaleeaa
open Go.RowKit
set_option linter.unusedVariables false

/-- Few texts, none too long. -/
def smallP (L : List (List UInt8)) : Bool := decide (L.length ≤ 20) && L.all fun b => decide (b.length ≤ 1024)

theorem ret_b {a b : Bool} (h : a = b) : Ending.returned (.bool a) = .returned (.bool b) := by rw [h]

set_option maxRecDepth 1000000 in
set_option maxHeartbeats 1000000 in
theorem small_any (x : Value) (L : List (List UInt8)) (w : World) (hx : RS w x L) :
    Calls Try.prog 18 #[x] w fun e w' => e = .returned (.bool (smallP L)) ∧ w' = w := by
  obtain ⟨a, ca, rfl, _, _, hca⟩ := hx
  by_cases h20 : L.length ≤ 20
  · obtain ⟨R, HR⟩ : ∃ R, Hid (R = smallP L) := ⟨_, rfl⟩
    rw [← HR.out]
    go_enter Try.func18, Try.ntmps18
    go_wp2
    go_loopw [3] (fun i wr => ∃ (k : Nat), k ≤ L.length ∧ i = .int .i64 k ∧ Hid (∀ b ∈ L.take k, b.length ≤ 1024) ∧ wr = w) (fun i _ => L.length - (intOf i).toNat)
    case atStart => exact ⟨0, Nat.zero_le _, rfl, by show ∀ b ∈ L.take 0, _; simp, rfl⟩
    case round =>
      obtain ⟨k, hk, rfl, HA, rfl⟩ := hrel
      by_cases hlt : k < L.length
      · obtain ⟨b1, o1, rfl, hc1⟩ := hca k L[k] (List.getElem?_eq_getElem hlt)
        by_cases hb : L[k].length ≤ 1024
        · have HA2 : Hid (∀ b ∈ L.take (k + 1), b.length ≤ 1024) := by
            show ∀ b ∈ L.take (k + 1), _
            intro b hm
            rw [List.take_succ_eq_append_getElem hlt, List.mem_append] at hm
            rcases hm with hm | hm
            · exact HA.out b hm
            · simp at hm
              subst hm
              exact hb
          generalize L[k] = bb at *
          clear hca
          go_wp2
          go_roundw
          case rel => exact ⟨k + 1, by omega, by go_num, HA2, by trivial⟩
          case measure => simp [intOf]; omega
        · have HF : Hid (R = false) := by
            show _ = _
            rw [HR.out]
            unfold smallP
            rw [Bool.and_eq_false_iff]
            right
            rw [List.all_eq_false]
            exact ⟨L[k], List.getElem_mem hlt, by simpa using hb⟩
          generalize L[k] = bb at *
          clear hca
          have hb2 : 1024 < bb.length := by omega
          go_wp2
          go_ret
          rw [HF.out]
          exact ⟨rfl, rfl⟩
      · have hkk : k = L.length := by omega
        have HF : Hid (R = true) := by
          show _ = _
          rw [HR.out]
          unfold smallP
          rw [Bool.and_eq_true]
          refine ⟨by simpa using h20, ?_⟩
          rw [List.all_eq_true]
          intro b hm
          have := HA.out b (by rw [hkk, List.take_length]; exact hm)
          simpa using this
        clear hkk
        go_wp2
        go_ret
        rw [HF.out]
        exact ⟨rfl, rfl⟩
  · have hF : smallP L = false := by unfold smallP; rw [Bool.and_eq_false_iff]; left; simpa using h20
    rw [hF]
    clear hF
    go_enter Try.func18, Try.ntmps18
    go_wp2
    go_ret
    exact ⟨rfl, rfl⟩

theorem bytes_of (b : List UInt8) (hb : b.length ≤ 1000000) (w : World) : ∃ V w', (convert 9 22 (.string ⟨b.toArray⟩)).run Try.prog w = .ok V w' ∧ RB w' V b ∧ Below w.heap.size w w' := by
  refine ⟨_, _, run_bytes_of_string w 9 22 5 ⟨b.toArray⟩ Try.underlying9 Try.underlying22 Try.underlying5, ?_, ?_⟩
  · refine ⟨_, _, by rw [bsize], ?_, ?_, (fun h => by cases h), fun i hi => ⟨_, _, rfl, ?_⟩⟩
    · exact grownCap_ge _ _ _ _
    · exact grownCap_le_maxLen _ _ _ _ (by unfold maxLen; omega)
    · have hsz : w.drew.heap.size = w.heap.size := rfl
      rw [Nat.zero_add, ← hsz, World.cell?_alloc_mark, bytesRow_at _ _ _ (by simpa using hi)]
      simp [hi]
  · exact ((Below.refl _ _).drew).alloc (Nat.le_refl _) _

theorem putP_len : ∀ (L : List (List UInt8)), (∀ b ∈ L, b.length ≤ 1024) → (putP L).length ≤ 1030 * L.length
  | [], _ => by simp [putP]
  | b :: L, h => by
    have h1 := putP_len L (fun c hc => h c (List.mem_cons_of_mem _ hc))
    have h2 := h b (List.mem_cons_self ..)
    have h3 : putP (b :: L) = frameP b ++ putP L := by simp [putP]
    rw [h3, List.length_append, frameP_len, List.length_cons]
    omega

set_option maxRecDepth 1000000 in
set_option maxHeartbeats 1000000 in
theorem putl_any (x : Value) (L : List (List UInt8)) (w : World) (hx : RS w x L) (h20 : L.length ≤ 20) (hs : ∀ b ∈ L, b.length ≤ 1024) :
    Calls Try.prog 19 #[x] w fun e w' => ∃ v, e = .returned (.tuple #[v, .bool true]) ∧ RB w' v (putP L) ∧ Below w.heap.size w w' := by
  obtain ⟨a, ca, rfl, _, _, hca⟩ := hx
  have HS : Hid (∀ b ∈ L, b.length ≤ 1024) := hs
  clear hs
  go_enter Try.func19, Try.ntmps19
  go_wp2
  go_loopw [4, 5] (fun bv i wr => ∃ (k : Nat), k ≤ L.length ∧ i = .int .i64 k ∧ Hid (RB wr bv (putP (L.take k))) ∧ Hid (Below w.heap.size w wr)) (fun _ i _ => L.length - (intOf i).toNat)
  case atStart => exact ⟨0, Nat.zero_le _, rfl, RB.nil w, Below.refl _ _⟩
  case round =>
    obtain ⟨k, hk, rfl, HA, HB⟩ := hrel
    by_cases hlt : k < L.length
    · obtain ⟨b1, o1, rfl, hc1⟩ := hca k L[k] (List.getElem?_eq_getElem hlt)
      have hc2 := cell_later HB.out hc1
      have hbl := HS.out L[k] (List.getElem_mem hlt)
      have hpl := putP_len (L.take k) (fun b hb => HS.out b (List.mem_of_mem_take hb))
      have HP : Hid (putP (L.take (k + 1)) = putP (L.take k) ++ frameP L[k]) := by
        show _ = _
        rw [List.take_succ_eq_append_getElem hlt]
        unfold putP
        rw [List.flatMap_append]
        simp
      rw [List.length_take] at hpl
      obtain ⟨V, w2, hcv, hV, hb2⟩ := bytes_of L[k] (by omega) wr
      have HC : Hid (∀ bv, RB wr bv (putP (L.take k)) → Calls Try.prog 9 #[bv, V] w2 fun e w' => ∃ g cap, e = .returned (.tuple #[.slice (some ⟨g, 0, none⟩) ((putP (L.take k)).length + (L[k].length + 6)) cap, .int .i64 0]) ∧ OB w2.heap.size w' g ((putP (L.take k)).length + (L[k].length + 6)) cap (putP (L.take k) ++ frameP L[k]) ∧ Below w2.heap.size w2 w') := fun bv hbv => put_any bv V _ _ w2 (hbv.later hb2) hV (by omega) hbl
      have HB2 : Hid (Below w.heap.size w w2) := HB.out.trans (hb2.mono HB.out.size)
      clear hca hc1 hV hb2 hpl
      generalize L[k] = bb at *
      go_wp2_with (first
        | (go_at_call 9; refine Calls.mono (HC.out _ HA.out) ?_; rintro e w3 ⟨g, cap, rfl, ho3, hb3⟩; have HO3 := ho3.rb.2; have HO4 : Hid (RB w3 (.slice (some ⟨g, 0, none⟩) ((putP (L.take k)).length + (bb.length + 6)) cap) (putP (L.take k) ++ frameP bb)) := HO3; have HB3 : Hid (Below w2.heap.size w2 w3) := hb3; clear ho3 hb3 HO3))
      go_roundw
      case rel => exact ⟨k + 1, by omega, by go_num, by show RB _ _ _; rw [HP.out]; exact HO4.out, HB2.out.trans (HB3.out.mono HB2.out.size)⟩
      case measure => simp [intOf]; omega
    · have hkk : k = L.length := by omega
      have HA2 : Hid (RB wr u4 (putP L)) := by have := HA.out; rw [hkk, List.take_length] at this; exact this
      clear hkk HA
      go_wp2
      go_ret2
      exact ⟨_, rfl, HA2.out, HB.out⟩
end Go.Proofs.Ytnekaflanaleeaa
