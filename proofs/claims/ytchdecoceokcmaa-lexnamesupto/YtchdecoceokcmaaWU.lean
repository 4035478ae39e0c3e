/- Walks over the document's Same and SameTexts: slices that read as tokens. -/
import Derived.Test.YtchdecoceokcmaaWM
namespace Go.Proofs.Ytchdecoceokcmaa
open Go.RowKit
set_option linter.unusedVariables false

/-- A slice that reads as tokens. -/
def ReadsT (w : World) (v : Value) (l : List Tok) : Prop :=
  ∃ a cap, v = .slice a l.length cap ∧ (a = none → cap = 0) ∧ l.length ≤ cap ∧ ∀ i t, l[i]? = some t → ∃ b off, a = some ⟨b, off, none⟩ ∧ w.cell? ⟨b, off + i * 3, none⟩ = some (.int .i64 t.kind) ∧ w.cell? ⟨b, off + i * 3 + 1, none⟩ = some (.string ⟨t.text.toArray⟩) ∧ w.cell? ⟨b, off + i * 3 + 2, none⟩ = some (.int .i64 (t.at_ : Int))

theorem readsT_of_owns {w : World} {B : Nat} {v : Value} {l : List Tok} (h : w.ownsRow B 38 3 v l.length (tvs l)) : ReadsT w v l := by
  rcases h.2 with ⟨rfl, h0⟩ | ⟨g, cap, cur, rfl, hb, hg, hnc, hcm, _⟩
  · have h1 : l = [] := List.eq_nil_of_length_eq_zero h0
    subst h1
    exact ⟨none, 0, rfl, fun _ => rfl, Nat.le_refl _, by simp⟩
  · refine ⟨_, cap, rfl, (fun h => by cases h), hnc, fun i t hi => ⟨g, 0, rfl, ?_, ?_, ?_⟩⟩
    all_goals have hil : i < l.length := (List.getElem?_eq_some_iff.1 hi).1
    · rw [Nat.zero_add, h.cellAt _ (by omega)]
      exact tvs_at l i 0 t hi (by omega)
    · rw [Nat.zero_add, h.cellAt _ (by omega)]
      exact tvs_at l i 1 t hi (by omega)
    · rw [Nat.zero_add, h.cellAt _ (by omega)]
      exact tvs_at l i 2 t hi (by omega)

theorem ReadsT.later {w wx : World} {v : Value} {l : List Tok} (h : ReadsT w v l) (hb : Below w.heap.size w wx) : ReadsT wx v l := by
  obtain ⟨a, cap, hv, hn, hc, hr⟩ := h
  refine ⟨a, cap, hv, hn, hc, fun i t hi => ?_⟩
  obtain ⟨b, off, ha, c0, c1, c2⟩ := hr i t hi
  exact ⟨b, off, ha, cell_later hb c0, cell_later hb c1, cell_later hb c2⟩

set_option maxRecDepth 1000000 in
set_option maxHeartbeats 1000000 in
theorem same_tok (x y : Value) (l : List Tok) (w : World) (hx : ReadsT w x l) (hy : ReadsT w y l) (hl : l.length ≤ 100000) :
    Calls Try.prog 12 #[x, y] w fun e w' => e = .returned (.bool true) ∧ ∃ n, w' = w.drewN n := by
  obtain ⟨a, ca, rfl, _, hna, hca⟩ := hx
  obtain ⟨b, cb, rfl, _, hnb, hcb⟩ := hy
  go_enter Try.func12, Try.ntmps12
  go_wp2
  go_loopw [5] (fun i wr => ∃ (k n : Nat), k ≤ l.length ∧ i = .int .i64 k ∧ wr = w.drewN n) (fun i _ => l.length - (intOf i).toNat)
  case atStart => exact ⟨0, 0, Nat.zero_le _, rfl, rfl⟩
  case round =>
    obtain ⟨k, n, hk, rfl, rfl⟩ := hrel
    by_cases hlt : k < l.length
    · obtain ⟨t, ht⟩ : ∃ t, l[k]? = some t := ⟨_, List.getElem?_eq_getElem hlt⟩
      obtain ⟨b1, o1, rfl, a0, a1, a2⟩ := hca k t ht
      obtain ⟨b2, o2, rfl, d0, d1, d2⟩ := hcb k t ht
      generalize (t.at_ : Int) = z at *
      generalize t.kind = y at *
      generalize (⟨t.text.toArray⟩ : ByteArray) = u at *
      have a0' : ∀ m, (w.drewN m).cell? ⟨b1, o1 + k * 3, none⟩ = some (.int .i64 y) := fun _ => a0
      have a1' : ∀ m, (w.drewN m).cell? ⟨b1, o1 + k * 3 + 1, none⟩ = some (.string u) := fun _ => a1
      have a2' : ∀ m, (w.drewN m).cell? ⟨b1, o1 + k * 3 + 2, none⟩ = some (.int .i64 z) := fun _ => a2
      have d0' : ∀ m, (w.drewN m).cell? ⟨b2, o2 + k * 3, none⟩ = some (.int .i64 y) := fun _ => d0
      have d1' : ∀ m, (w.drewN m).cell? ⟨b2, o2 + k * 3 + 1, none⟩ = some (.string u) := fun _ => d1
      have d2' : ∀ m, (w.drewN m).cell? ⟨b2, o2 + k * 3 + 2, none⟩ = some (.int .i64 z) := fun _ => d2
      clear hca hcb ht
      go_wp2
      go_quiet (fail)
      go_wp2
      go_roundw
      case rel => exact ⟨k + 1, _, by omega, by go_num, rfl⟩
      case measure => simp [intOf]; omega
    · go_wp2
      go_ret
      exact ⟨rfl, n, rfl⟩

set_option maxRecDepth 1000000 in
set_option maxHeartbeats 1000000 in
theorem same_txt (x y : Value) (l m : List Tok) (w : World) (hx : ReadsT w x l) (hy : ReadsT w y m) (hl : l.length ≤ 100000) (hlm : l.length = m.length) (hs : ∀ (i : Nat) (t u : Tok), l[i]? = some t → m[i]? = some u → t.kind = u.kind ∧ t.text = u.text) :
    Calls Try.prog 20 #[x, y] w fun e w' => e = .returned (.bool true) ∧ ∃ n, w' = w.drewN n := by
  obtain ⟨a, ca, rfl, _, hna, hca⟩ := hx
  obtain ⟨b, cb, rfl, _, hnb, hcb⟩ := hy
  rw [← hlm] at hnb ⊢
  have HLM : Hid (l.length = m.length) := hlm
  clear hlm
  go_enter Try.func20, Try.ntmps20
  go_wp2
  go_loopw [5] (fun i wr => ∃ (k n : Nat), k ≤ l.length ∧ i = .int .i64 k ∧ wr = w.drewN n) (fun i _ => l.length - (intOf i).toNat)
  case atStart => exact ⟨0, 0, Nat.zero_le _, rfl, rfl⟩
  case round =>
    obtain ⟨k, n, hk, rfl, rfl⟩ := hrel
    by_cases hlt : k < l.length
    · obtain ⟨t, ht⟩ : ∃ t, l[k]? = some t := ⟨_, List.getElem?_eq_getElem hlt⟩
      obtain ⟨t2, ht2⟩ : ∃ t, m[k]? = some t := ⟨_, List.getElem?_eq_getElem (by rw [← HLM.out]; exact hlt)⟩
      obtain ⟨b1, o1, rfl, a0, a1, a2⟩ := hca k t ht
      obtain ⟨b2, o2, rfl, d0, d1, d2⟩ := hcb k t2 ht2
      obtain ⟨e1, e2⟩ := hs k t t2 ht ht2
      rw [← e1] at d0
      rw [← e2] at d1
      generalize t.kind = y at *
      generalize (⟨t.text.toArray⟩ : ByteArray) = u at *
      have a0' : ∀ m, (w.drewN m).cell? ⟨b1, o1 + k * 3, none⟩ = some (.int .i64 y) := fun _ => a0
      have a1' : ∀ m, (w.drewN m).cell? ⟨b1, o1 + k * 3 + 1, none⟩ = some (.string u) := fun _ => a1
      have d0' : ∀ m, (w.drewN m).cell? ⟨b2, o2 + k * 3, none⟩ = some (.int .i64 y) := fun _ => d0
      have d1' : ∀ m, (w.drewN m).cell? ⟨b2, o2 + k * 3 + 1, none⟩ = some (.string u) := fun _ => d1
      clear hca hcb ht ht2 e1 e2 hs a2 d2
      go_wp2
      go_quiet (fail)
      go_wp2
      go_roundw
      case rel => exact ⟨k + 1, _, by omega, by go_num, rfl⟩
      case measure => simp [intOf]; omega
    · clear hs hca hcb
      go_wp2
      go_ret
      exact ⟨rfl, n, rfl⟩
end Go.Proofs.Ytchdecoceokcmaa
