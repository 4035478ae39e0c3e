/- Walks over strings.Builder, continued: WriteByte, WriteString, String. -/
import Derived.Test.YtchdecoceokcmaaWX
namespace Go.Proofs.Ytchdecoceokcmaa
open Go.RowKit
set_option linter.unusedVariables false

/-- Bytes are put behind a builder's bytes, and the slice is stored. -/
theorem b_push {W W0 w3 : World} {b B : Nat} {p v v' : Value} {l m : List UInt8} (h : BAt W b B p v l) (hW0 : Below W.heap.size W W0) (ho : w3.ownsRow B 5 1 v' (l.length + m.length) (bvs l ++ bvs m)) (hg : W0.grownBy w3 v.ownBlock) (hn : v' = .slice none 0 0 ↔ v = .slice none 0 0 ∧ m.length = 0) :
    (∃ ao n cap, v' = .slice ao n cap) ∧ w3.heap[b]? = some (.cells #[p, v] 56 (0, 0)) ∧ BAt (w3.setCell ⟨b, 1, none⟩ v') b B p v' (l ++ m) ∧ KB b B W (w3.setCell ⟨b, 1, none⟩ v') ∧ Kt b W (w3.setCell ⟨b, 1, none⟩ v') := by
  obtain ⟨h1, h2, h3, h4, h5⟩ := h
  have hz := hW0.size
  have hzg := hg.size
  have hb3 : w3.heap[b]? = some (.cells #[p, v] 56 (0, 0)) := by
    rw [hg.block b (by omega) (fun e => by have := (h2.lt _ e.symm).1; omega), hW0.block b (by omega)]
    exact h1
  have ho2 : w3.ownsRow B 5 1 v' (l ++ m).length (bvs (l ++ m)) := by rw [bvs_append]; simpa using ho
  have hk3 : KB b B W w3 := KB.of_below (Below.grown (hW0.mono h4) hg (by omega) (fun j hj => (h2.lt _ hj).1))
  refine ⟨?_, hb3, ⟨heap_setCell_same w3 b 1 _ 56 _ hb3, ownsRow_setCell_below ho2 h3 _, h3, by simp; omega, ?_⟩, hk3.trans (KB.setCell b B w3 1 _), Kt.trans ?_ (Kt.setCell b w3 1 _)⟩
  · rcases ho.2 with ⟨rfl, _⟩ | ⟨g, cap, cur, rfl, _⟩
    · exact ⟨_, _, _, rfl⟩
    · exact ⟨_, _, _, rfl⟩
  · intro hlm
    obtain ⟨e1, e2⟩ := List.append_eq_nil_iff.1 hlm
    exact hn.2 ⟨h5 e1, by rw [e2]; rfl⟩
  · intro k c t fz hk ht hb
    have hkl := (Array.getElem?_eq_some_iff.1 hk).1
    rw [hg.block k (by omega) ?_, hW0.block k hkl]
    · exact hk
    · intro e
      rcases h2.2 with ⟨rfl, _⟩ | ⟨g, cap, cur, rfl, _, hgg, _⟩
      · cases e
      · simp only [Value.ownBlock, Option.some.injEq] at e
        subst e
        rw [hk] at hgg
        simp only [Option.some.injEq, Obj.cells.injEq] at hgg
        exact ht hgg.2.1

theorem cell_one (w : World) (x : Value) (t : TypeId) : ∀ j u, [x][j]? = some u → (w.alloc (.cells #[x] t)).cell? ((⟨w.heap.size, 0, none⟩ : Addr).add j) = some u := by
  intro j u hj
  match j, hj with
  | 0, hj => simp at hj; subst hj; simp [Addr.add]
  | j + 1, hj => simp at hj

set_option maxRecDepth 1000000 in
set_option maxHeartbeats 1000000 in
theorem wbyte (b B : Nat) (l : List UInt8) (w : World) (h : IsB w b B l) (hl : l.length + 1 ≤ 140737488355328) :
    Calls Try.prog 27 #[.pointer (some ⟨b, 0, none⟩), .int .u8 32] w fun e w' => e = .returned .nilIface ∧ IsB w' b B (l ++ [32]) ∧ KB b B w w' ∧ Kt b w w' := by
  obtain ⟨i0, hi, hz0, hz1, hz2⟩ := info_parts Try.info5
  go_enter Try.func27, Try.ntmps27
  go_wp2_with fail
  refine (cc_any b B l _ h).mono ?_
  rintro e w1 ⟨rfl, ⟨v, h1⟩, k1, kt1⟩
  have c0 := cell_blk h1.blk 0
  have c1 := cell_blk h1.blk 1
  simp at c0 c1
  have hle := h1.le
  have hown := h1.own
  have H1 : Hid _ := h1
  clear h h1
  go_wp2_with (at_builtin; refine wpList_append_own _ rfl _ _ 40 rfl B 5 i0 (.int .u8 0) 1 1 Try.underlying40 hi hz0 hz1 hz2 rfl (by decide) _ _ _ rfl (hown.alloc _) ⟨w1.heap.size, 0, none⟩ 1 1 [.int .u8 32] rfl rfl (cell_one _ _ _) (fun u hu => by simp at hu; subst hu; rfl) (by unfold maxLen; omega) (by omega) (by simp; omega) ?_; intro v' w3 hown' hgrow3 hnil3; obtain ⟨⟨ao, n, cap, rfl⟩, hb3, hB3, hK3, hT3⟩ := b_push (m := [32]) H1.out ((Below.refl _ _).alloc (Nat.le_refl _) _) hown' hgrow3 hnil3; have e0 := cell_blk hb3 0; have e1 := cell_blk hb3 1; simp at e0 e1; have hfb : ∀ j, w3.frozen? ⟨b, j, none⟩ = false := fun j => frozen_of_row w3 b j _ 56 hb3)
  go_ret
  exact ⟨rfl, ⟨_, .inr hB3⟩, k1.trans hK3, kt1.trans hT3⟩

theorem strCells_eq (s : ByteArray) : Lib.strCells s = bvs s.data.toList := rfl

set_option maxRecDepth 1000000 in
set_option maxHeartbeats 1000000 in
theorem wstring (b B : Nat) (l : List UInt8) (s : ByteArray) (w : World) (h : IsB w b B l) (hl : l.length + s.size ≤ 140737488355328) :
    Calls Try.prog 28 #[.pointer (some ⟨b, 0, none⟩), .string s] w fun e w' => e = .returned (.tuple #[.int .i64 s.size, .nilIface]) ∧ IsB w' b B (l ++ s.data.toList) ∧ KB b B w w' ∧ Kt b w w' := by
  obtain ⟨i0, hi, hz0, hz1, hz2⟩ := info_parts Try.info5
  have hss := size_list s
  go_enter Try.func28, Try.ntmps28
  go_wp2_with fail
  refine (cc_any b B l _ h).mono ?_
  rintro e w1 ⟨rfl, ⟨v, h1⟩, k1, kt1⟩
  have c0 := cell_blk h1.blk 0
  have c1 := cell_blk h1.blk 1
  simp at c0 c1
  have hle := h1.le
  have hown := h1.own
  have H1 : Hid _ := h1
  have HSS : Hid _ := hss
  clear h h1 hss
  go_wp2_with (at_builtin; refine Lib.wpList_append_own_string _ rfl _ _ 40 9 rfl B 5 i0 Try.underlying40 Try.underlying9 hi hz0 hz1 hz2 _ _ _ rfl hown s rfl ?_ ?_ ?_ ?_; (unfold maxLen; omega); omega; omega; intro v' w3 hown' hgrow3 hnil3; rw [strCells_eq, ← HSS.out] at hown'; rw [← HSS.out] at hnil3; obtain ⟨⟨ao, n, cap, rfl⟩, hb3, hB3, hK3, hT3⟩ := b_push (m := s.data.toList) H1.out (Below.refl _ _) hown' hgrow3 hnil3; have e0 := cell_blk hb3 0; have e1 := cell_blk hb3 1; simp at e0 e1; have hfb : ∀ j, w3.frozen? ⟨b, j, none⟩ = false := fun j => frozen_of_row w3 b j _ 56 hb3)
  go_ret2
  exact ⟨rfl, ⟨_, .inr hB3⟩, k1.trans hK3, kt1.trans hT3⟩

theorem Try.cells5 : Try.prog.cellsOf 5 = 1 := by kernel_rfl

set_option maxRecDepth 1000000 in
set_option maxHeartbeats 1000000 in
theorem bstring (b B : Nat) (l : List UInt8) (w : World) (h : IsB w b B l) :
    Calls Try.prog 29 #[.pointer (some ⟨b, 0, none⟩)] w fun e w' => e = .returned (.string ⟨l.toArray⟩) ∧ KB b B w w' := by
  obtain ⟨p, v, h⟩ : ∃ p v, BAt w b B p v l := by
    obtain ⟨v, h | h⟩ := h
    · exact ⟨_, v, h⟩
    · exact ⟨_, v, h⟩
  obtain ⟨h1, h2, h3, h4, h5⟩ := h
  have hk0 := KB.refl b B w
  by_cases h0 : l = []
  · have hv := h5 h0
    subst hv
    subst h0
    have c1 := cell_blk h1 1
    simp at c1
    have hSD : ∀ w, (Builtin.unsafeSliceData_ #[40] 74 #[.slice none 0 0]).run Try.prog w = .ok (.pointer none) w := fun w => Lib.run_unsafeSliceData_nil w _ _ _ _
    have hUS : ∀ w, (Builtin.unsafeString_ #[74, 3] 9 #[.pointer none, .int .i64 0]).run Try.prog w = .ok (.string .empty) w := fun w => Lib.run_unsafeString_none w 74 3 9 none
    clear h1 h2 h5
    go_enter Try.func29, Try.ntmps29
    go_wp2
    go_region
    all_goals (go_wp2; go_ret; exact ⟨rfl, hk0.drewN 1⟩)
  · have hl0 : l.length ≠ 0 := by simpa using h0
    obtain ⟨g, cap, cur, rfl, hbg, hg, hnc, hcm, hcs, htake⟩ : ∃ g cap cur, v = .slice (some ⟨g, 0, none⟩) l.length cap ∧ B ≤ g ∧ w.heap[g]? = some (.cells cur 5 (0, 0)) ∧ l.length ≤ cap ∧ cap ≤ maxLen ∧ cur.size = cap * 1 ∧ cur.toList.take (l.length * 1) = bvs l := by
      rcases h2.2 with ⟨_, hz⟩ | ⟨g, cap, cur, hv, r⟩
      · exact absurd hz hl0
      · exact ⟨g, cap, cur, hv, r⟩
    have c1 := cell_blk h1 1
    simp at c1
    have hSD : ∀ w, (Builtin.unsafeSliceData_ #[40] 74 #[.slice (some ⟨g, 0, none⟩) l.length cap]).run Try.prog w = .ok (.pointer (some ⟨g, 0, none⟩)) w := fun w => Lib.run_unsafeSliceData_row w _ _ _ _ _ (by omega)
    have hUS : (Builtin.unsafeString_ #[74, 3] 9 #[.pointer (some ⟨g, 0, none⟩), .int .i64 l.length]).run Try.prog w.drew = .ok (.string ⟨l.toArray⟩) (w.drew.freeze ⟨g, 0, none⟩ l.length) := by
      refine Lib.run_unsafeString_row w.drew 74 3 9 5 Try.underlying74 Try.cells5 g cur.size ?_ l h0 (by omega) (by unfold maxLen at hcm; omega) ?_
      · have hg' : w.drew.heap[g]? = some (.cells cur 5 (0, 0)) := hg
        simp [World.shape?, hg']
      · intro j x hx
        exact h2.cells (g := g) rfl j (.int .u8 x.toNat) (by simp [bvs, hx])
    have HK : Hid (KB b B w (w.drew.freeze ⟨g, 0, none⟩ l.length)) := KB.of_below (Lib.below_freeze (Below.drew (Below.refl B w)) (p := ⟨g, 0, none⟩) hbg _)
    clear h1 h2 h5 hg htake
    go_enter Try.func29, Try.ntmps29
    go_wp2
    go_region
    all_goals (go_wp2; go_ret; exact ⟨rfl, HK.out⟩)
end Go.Proofs.Ytchdecoceokcmaa
