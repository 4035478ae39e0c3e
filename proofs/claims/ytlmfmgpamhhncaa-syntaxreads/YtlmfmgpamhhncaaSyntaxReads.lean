/- For every text the law SyntaxReads answers true: the program reads the saga, or tells the error at the place, that the document says. No condition. -/
import Derived.Test.YtlmfmgpamhhncaaRows
import Derived.Test.YtlmfmgpamhhncaaPN
import Derived.Test.YtlmfmgpamhhncaaPH
import Derived.ProofKit
import Derived.OpenShut
import Derived.ShutString
import Derived.ChangeOld
import Derived.Deep.Strs
namespace Go.Proofs.Ytlmfmgpamhhncaa.syntaxReads
open Go.ChangeShapes Go.WideShapes Go.ChangeAt Go.RowKit
open Go.ChangeMaps (open_string shut_string)
set_option linter.unusedVariables false

theorem own : ownKnob Try.prog.godebug = none := by kernel_rfl
theorem laidOut : laidOutB Try.prog = true := by kernel_rfl

set_option maxRecDepth 1000000 in
set_option maxHeartbeats 1000000 in
theorem walk_big (s : ByteArray) (w : World) (h : 5000 < s.size) :
    Calls Try.prog 3 #[.string s] w fun e w' => e = .returned (.bool true) ∧ Below w.heap.size w w' := by
  go_enter Try.func3, Try.ntmps3
  go_wp2_with fail
  refine (lives_any _).mono ?_
  rintro e w1 ⟨rfl, hb1⟩
  go_wp2
  go_ret
  exact ⟨rfl, hb1⟩

set_option maxRecDepth 1000000 in
set_option maxHeartbeats 2000000 in
theorem walk_small (s : ByteArray) (cs : List Int) (rest : List UInt8) (hp0 : Parts s.data.toList cs rest) (w : World) (hs : s.size ≤ 5000) :
    Calls Try.prog 3 #[.string s] w fun e w' => e = .returned (.bool true) ∧ Below w.heap.size w w' := by
  have hbig : ¬ 5000 < s.size := by omega
  have hans : answer s cs rest = lexR cs rest := by unfold answer; rw [if_pos (by omega)]
  have HA : Hid _ := syn_read s cs rest hp0 w
  have HR : Hid (∀ wx, Calls Try.prog 10 #[.string s] wx fun e w' => ReadC s.size (rAns s.size (lexR cs rest)) wx e w') := fun wx => ref_read s cs rest hp0 wx (by omega)
  have HO : Hid _ := once_ans s cs rest hp0 hs
  rw [hans] at HA HO
  clear hp0 hans
  cases hA : rAns s.size (lexR cs rest) with
  | bad p er =>
    rw [hA] at HA HR
    clear HO hA
    go_enter Try.func3, Try.ntmps3
    go_wp2_with fail
    refine Calls.mono HA.out ?_
    rintro e w1 ⟨hb1, rfl⟩
    have M2 : Hid (∀ wx, Calls Try.prog 11 #[.agg #[.string ⟨#[]⟩, .slice none 0 0], .agg #[.string ⟨#[]⟩, .slice none 0 0]] wx fun e w' => e = .returned (.bool true) ∧ Below wx.heap.size wx w') := fun wx => same_saga [] .e (fun _ => True) (fun _ => True) wx none none 0 0 rfl rfl (by decide) trivial
    have hA1 : Below w.heap.size w (w1.alloc (.cells #[.string ⟨#[]⟩, .slice none 0 0] 25)) := hb1.alloc hb1.size _
    have n1 := row_new w1 #[.string ⟨#[]⟩, .slice none 0 0] 25
    have HH : Hid _ := hA1
    have M1 : Hid _ := HR.out (w1.alloc (.cells #[.string ⟨#[]⟩, .slice none 0 0] 25))
    have hz1 : (w1.alloc (.cells #[.string ⟨#[]⟩, .slice none 0 0] 25)).heap.size = w1.heap.size + 1 := by simp
    clear hb1 hA1 HA HR
    go_wp2_with fail
    refine Calls.mono M1.out ?_
    rintro e w2 ⟨hb2, rfl⟩
    have n2 := (hb2.block w1.heap.size (by omega)).trans n1
    have n3 := row_alloc n2 (.cells #[.string ⟨#[]⟩, .slice none 0 0] 25)
    have m3 := row_new w2 #[.string ⟨#[]⟩, .slice none 0 0] 25
    have HH2 : Hid (Below w.heap.size w (w2.alloc (.cells #[.string ⟨#[]⟩, .slice none 0 0] 25))) := (HH.out.trans (hb2.mono HH.out.size)).alloc (HH.out.trans (hb2.mono HH.out.size)).size _
    have d0 := (cell_row n3 0).trans rfl
    have d1 := (cell_row n3 1).trans rfl
    clear hb2 HH n1 n2 M1 hz1
    go_wp2_with fail
    refine Calls.mono (M2.out _) ?_
    rintro e w3 ⟨rfl, hb3⟩
    have HH3 : Hid _ := HH2.out.trans (hb3.mono HH2.out.size)
    clear hb3 HH2
    go_wp2_with fail
    refine (lives_any _).mono ?_
    rintro e w4 ⟨rfl, hb4⟩
    go_wp2_with fail
    go_ret
    exact ⟨rfl, HH3.out.trans (hb4.mono HH3.out.size)⟩
  | good x t =>
    obtain ⟨cs2, a1, a2, a3, a4, a5, a6, a7, a8⟩ := HO.out x t hA
    rw [hA] at HA HR
    have hZ : t.sz ≤ 1000000000 ∧ t.afs := a7.sz
    clear a1 a2 a3 a4 a5 a6 a7 a8 hA HO
    go_enter Try.func3, Try.ntmps3
    go_wp2_with fail
    refine Calls.mono HA.out ?_
    rintro e w1 ⟨hb1, v1, rfl, p1, c1, rfl, ht1⟩
    have hA1 : Below w.heap.size w (w1.alloc (.cells #[.string ⟨x.toArray⟩, .slice p1 t.len c1] 25)) := hb1.alloc hb1.size _
    have n1 := row_new w1 #[.string ⟨x.toArray⟩, .slice p1 t.len c1] 25
    have HH : Hid _ := hA1
    have M1 : Hid _ := HR.out (w1.alloc (.cells #[.string ⟨x.toArray⟩, .slice p1 t.len c1] 25))
    have hz1 : (w1.alloc (.cells #[.string ⟨x.toArray⟩, .slice p1 t.len c1] 25)).heap.size = w1.heap.size + 1 := by simp
    have ht1' := ht1.below ((Below.refl _ w1).alloc (Nat.le_refl _) (.cells #[.string ⟨x.toArray⟩, .slice p1 t.len c1] 25))
    clear hb1 hA1 HA HR ht1
    go_wp2_with fail
    refine Calls.mono M1.out ?_
    rintro e w2 ⟨hb2, v2, rfl, p2, c2, rfl, ht2⟩
    have n2 := (hb2.block w1.heap.size (by omega)).trans n1
    have n3 := row_alloc n2 (.cells #[.string ⟨x.toArray⟩, .slice p2 t.len c2] 25)
    have m3 := row_new w2 #[.string ⟨x.toArray⟩, .slice p2 t.len c2] 25
    have HH2 : Hid (Below w.heap.size w (w2.alloc (.cells #[.string ⟨x.toArray⟩, .slice p2 t.len c2] 25))) := (HH.out.trans (hb2.mono HH.out.size)).alloc (HH.out.trans (hb2.mono HH.out.size)).size _
    have hA2 : Below w2.heap.size w2 (w2.alloc (.cells #[.string ⟨x.toArray⟩, .slice p2 t.len c2] 25)) := (Below.refl _ _).alloc (Nat.le_refl _) _
    have M2 : Hid _ := same_saga x t _ _ _ p1 p2 c1 c2 ((ht1'.below hb2).below hA2) (ht2.below hA2) hZ.1 hZ.2
    have d0 := (cell_row n3 0).trans rfl
    have d1 := (cell_row n3 1).trans rfl
    clear hb2 HH n1 n2 M1 hz1 ht1' ht2 hA2
    go_wp2_with fail
    refine Calls.mono M2.out ?_
    rintro e w3 ⟨rfl, hb3⟩
    have HH3 : Hid _ := HH2.out.trans (hb3.mono HH2.out.size)
    clear hb3 HH2
    go_wp2_with fail
    refine (lives_any _).mono ?_
    rintro e w4 ⟨rfl, hb4⟩
    go_wp2_with fail
    go_ret
    exact ⟨rfl, HH3.out.trans (hb4.mono HH3.out.size)⟩

theorem walk (a0 : ByteArray) (w : World) (w0 : a0.size ≤ maxLen) :
    Calls Try.prog 3 #[.string a0] w fun e w' => e = .returned (.bool true) ∧ Below w.heap.size w w' := by
  by_cases hb : 5000 < a0.size
  · exact walk_big a0 w hb
  · obtain ⟨cs, rest, hp⟩ := parts_exists a0.data.toList
    exact walk_small a0 cs rest hp w (by omega)

set_option maxRecDepth 100000 in
theorem lifted (os : Os) (started : os.Started) (H : Type) (enc : TypeId × Value → H) :
    ReturnsInHanded {} Try.checked os 3 .any (Rows.syntaxReadsSpec.pre6 enc Try.prog Try.f3 Rows.syntaxReadsRow.domain false) (Rows.syntaxReadsSpec.post enc Try.prog Try.f3 false true false false) := by
  refine returnsInHanded_of_change (C := Try.checked) own started (by kernel_rfl) Try.func3
    (ChangeSpec.witness6 (enc := enc) (C := Try.checked) false ⟨#[], #[.string ByteArray.empty], []⟩ 8 (by kernel_rfl) (by kernel_rfl) (by kernel_rfl) (by kernel_rfl)) ?_
  intro W base args ds gs before hval0 hW hcnd _
  have hval : ∀ (j : Nat) t v, Try.f3.params[j]? = some t → args[j]? = some v → Value.okWide Try.prog W .any base t v := hval0
  have hW' := hW
  obtain ⟨p, q, hA0, hV, rfl, hfz, hnd⟩ := hW
  have hA : DataW.TrodAll enc Try.prog W 0 (fun _ => true) true Try.f3.params.toList args.toList ds p := hA0
  rw [Try.params3] at hA hval
  obtain ⟨v0, vs0, d0, ds0, p0, q0, hargs, rfl, rfl, h0, r0⟩ := trodAll_cons hA
  obtain ⟨rfl, rfl, rfl⟩ := trodAll_nil r0
  obtain rfl : args = #[v0] := by cases args; simp_all
  obtain ⟨rfl, rfl⟩ := trodVars_none hV
  obtain ⟨a0, rfl, rfl, rfl, w0⟩ := open_string Try.underlying9 (hval 0 9 v0 rfl rfl) h0
  clear hA0 hval0
  simp only [List.append_nil] at hW'
  refine (walk a0 W w0).mono fun e W' ⟨he, bel⟩ => ?_
  subst he
  exact ⟨_, rfl, _, _, _, [], [], [], hW', trodAll_mk1 (shut_bool Try.underlying4 _), (trodAll_cons_mk (shut_string Try.underlying9 w0) trodAll_mk0), rfl, bel.frame _, fun h => by cases h⟩

theorem over : Rows.syntaxReadsRow.holds Try.pinned (OpenSpec.ofChange Rows.syntaxReadsSpec) :=
  OpenClaim.holds_of_wide 3 Try.f3 rfl rfl rfl rfl rfl rfl rfl ⟨rfl, rfl, rfl, rfl, rfl⟩ rfl rfl rfl rfl rfl (by kernel_rfl) Try.func3 (by kernel_rfl)
    (of_decide_eq_true (by kernel_rfl)) (by unfold Func.isWrapper; first | (rw [if_pos (by decide +kernel)]; kernel_rfl) | (rw [if_neg (by decide +kernel)]; exact ⟨rfl, rfl⟩))
    (fun os started H enc _ => lifted os started H enc)
end Go.Proofs.Ytlmfmgpamhhncaa.syntaxReads
namespace Go.Proofs.Ytlmfmgpamhhncaa

theorem syntaxReads_holds : Rows.SyntaxReadsSaid := syntaxReads.over
#print axioms syntaxReads_holds
end Go.Proofs.Ytlmfmgpamhhncaa
