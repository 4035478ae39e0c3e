/- Any numbers are the text that the document says, or none's: for every slice of ints, with no condition. -/
import Derived.Test.YtilmgmafhmgddaaRows
import Derived.Test.YtilmgmafhmgddaaWL
import Derived.Test.YtilmgmafhmgddaaWX
import Derived.Test.YtilmgmafhmgddaaWY
import Derived.ProofKit
import Derived.OpenShut
import Derived.ShutString
import Derived.ChangeOld
namespace Go.Proofs.Ytilmgmafhmgddaa.glyphTexts
open Go.ChangeShapes Go.WideShapes Go.ChangeAt Go.RowKit
open Go.ChangeMaps (open_string shut_string)
set_option linter.unusedVariables false

theorem own : ownKnob Try.prog.godebug = none := by kernel_rfl
theorem laidOut : laidOutB Try.prog = true := by kernel_rfl

/-- A slice of integers that came in: nil, or a row of cells. -/
def IsRow (k : IntKind) (w : World) (a : Option Addr) (len cap : Nat) (zs : List Int) : Prop :=
  (a = none ∧ len = 0 ∧ cap = 0 ∧ zs = []) ∨
  ∃ x, a = some x ∧ len ≤ cap ∧ cap ≤ maxLen ∧ zs.length = cap ∧ (∀ i, i < zs.length → w.cell? (x.add i) = some (.int k (zs.getD i 0))) ∧ ∀ n ∈ zs, (Lit.int k n).wf = true

theorem isRow_reads {w : World} {a : Option Addr} {len cap : Nat} {zs : List Int} (h : IsRow .i64 w a len cap zs) : (zs.take len).length = len ∧ Reads w (.slice a len cap) (zs.take len) := by
  rcases h with ⟨rfl, rfl, rfl, rfl⟩ | ⟨x, rfl, h1, h2, h3, h4, _⟩
  · exact ⟨rfl, none, 0, rfl, fun _ => rfl, by simp⟩
  · have hl : (zs.take len).length = len := by simp; omega
    refine ⟨hl, some x, cap, by rw [hl], (fun h => by cases h), fun i hi => ?_⟩
    obtain ⟨b, off, rfl, hc⟩ := ints_at h4 (by omega)
    refine ⟨b, off, rfl, ?_⟩
    rw [hc i (by omega)]
    have hi2 : i < len := by omega
    simp [hi2]

theorem reads_app {w : World} {B : Nat} {v : Value} {l : List Int} (h : w.ownsRow B 3 1 v (0 + l.length) ([] ++ ivs l)) : Reads w v l :=
  reads_of_owns (by simpa using h) (Nat.zero_add _)

set_option maxRecDepth 1000000 in
set_option maxHeartbeats 1000000 in
theorem walk (a0 : Option Addr) (len0 cap0 : Nat) (z0 : List Int) (w : World) (w0 : IsRow .i64 w a0 len0 cap0 z0) :
    Calls Try.prog 4 #[.slice a0 len0 cap0] w fun e w' => e = .returned (.bool true) ∧ Below w.heap.size w w' := by
  obtain ⟨hlen, hrd⟩ := isRow_reads w0
  clear w0
  generalize z0.take len0 = l at *
  by_cases hbig : 2000 < len0
  · clear hrd hlen
    go_enter Try.func4, Try.ntmps4
    go_wp2_with fail
    refine (lives_any _).mono ?_
    rintro e w1 ⟨rfl, hb1⟩
    go_wp2
    go_ret
    exact ⟨rfl, hb1⟩
  have hle : l.length ≤ 100000 := by omega
  clear hlen
  rcases split_cp l with hcp | ⟨d, y, t, rfl, hcp, hy⟩
  · have HCP : Hid (∀ c ∈ l, isCp c = true) := hcp
    clear hcp
    go_enter Try.func4, Try.ntmps4
    go_wp2_with (at_builtin; refine append_reads rfl _ _ rfl w.heap.size (.slice (some ⟨w.heap.size, 0, none⟩) 0 0) 0 [] rfl (World.ownsRow_made _ #[] 0 (Nat.le_refl _) (by decide) rfl) (.slice a0 len0 cap0) l rfl (hrd.later ((Below.refl _ _).alloc (Nat.le_refl _) _)) (by decide) hle (by simp) ?_; intro v1 w1 hown hgr)
    have hb1 : Below w.heap.size w w1 := by
      refine Below.grown ((Below.refl _ _).alloc (Nat.le_refl _) _) hgr (by simp) ?_
      intro j hj
      simp [Value.ownBlock] at hj
      omega
    have hrd1 := reads_app hown
    clear hown hgr
    have hz1 := hb1.size
    refine (text_good v1 l HCP.out _ hrd1 hle).mono ?_
    rintro e w2 ⟨rfl, hb2⟩
    have hb02 : Below w.heap.size w w2 := hb1.trans (hb2.mono hz1)
    have hz2 := hb02.size
    clear hb1 hb2 hrd1
    go_wp2_with fail
    refine (rtext_good _ l HCP.out _ (hrd.later hb02) hle).mono ?_
    rintro e w3 ⟨rfl, hb3⟩
    have hb03 : Below w.heap.size w w3 := hb02.trans (hb3.mono hz2)
    have hz3 := hb03.size
    clear hb02 hb3 hrd
    go_wp2_with fail
    refine (lives_any _).mono ?_
    rintro e w4 ⟨rfl, hb4⟩
    go_wp2
    go_ret
    exact ⟨rfl, hb03.trans (hb4.mono hz3)⟩
  · have HCP : Hid (∀ c ∈ d, isCp c = true) := hcp
    have HY : Hid (isCp y = false) := hy
    clear hcp hy
    go_enter Try.func4, Try.ntmps4
    go_wp2_with (at_builtin; refine append_reads rfl _ _ rfl w.heap.size (.slice (some ⟨w.heap.size, 0, none⟩) 0 0) 0 [] rfl (World.ownsRow_made _ #[] 0 (Nat.le_refl _) (by decide) rfl) (.slice a0 len0 cap0) (d ++ y :: t) rfl (hrd.later ((Below.refl _ _).alloc (Nat.le_refl _) _)) (by decide) hle (by simp) ?_; intro v1 w1 hown hgr)
    have hb1 : Below w.heap.size w w1 := by
      refine Below.grown ((Below.refl _ _).alloc (Nat.le_refl _) _) hgr (by simp) ?_
      intro j hj
      simp [Value.ownBlock] at hj
      omega
    have hrd1 := reads_app hown
    clear hown hgr
    have hz1 := hb1.size
    refine (text_bad v1 d t y HCP.out HY.out _ hrd1 hle).mono ?_
    rintro e w2 ⟨rfl, hb2⟩
    have hb02 : Below w.heap.size w w2 := hb1.trans (hb2.mono hz1)
    have hz2 := hb02.size
    clear hb1 hb2 hrd1
    go_wp2_with fail
    refine (rtext_bad _ d t y HCP.out HY.out _ (hrd.later hb02) hle).mono ?_
    rintro e w3 ⟨rfl, hb3⟩
    have hb03 : Below w.heap.size w w3 := hb02.trans (hb3.mono hz2)
    have hz3 := hb03.size
    clear hb02 hb3 hrd
    go_wp2_with fail
    refine (lives_any _).mono ?_
    rintro e w4 ⟨rfl, hb4⟩
    go_wp2
    go_ret
    exact ⟨rfl, hb03.trans (hb4.mono hz3)⟩

set_option maxRecDepth 100000 in
theorem lifted (os : Os) (started : os.Started) (H : Type) (enc : TypeId × Value → H) :
    ReturnsInHanded {} Try.checked os 4 .any (Rows.glyphTextsSpec.pre6 enc Try.prog Try.f4 Rows.glyphTextsRow.domain false) (Rows.glyphTextsSpec.post enc Try.prog Try.f4 false true false false) := by
  refine returnsInHanded_of_change (C := Try.checked) own started (by kernel_rfl) Try.func4
    (ChangeSpec.witness6 (enc := enc) (C := Try.checked) false ⟨#[], #[.slice none 0 0], []⟩ 8 (by kernel_rfl) (by kernel_rfl) (by kernel_rfl) (by kernel_rfl)) ?_
  intro W base args ds gs before hval0 hW hcnd _
  have hval : ∀ (j : Nat) t v, Try.f4.params[j]? = some t → args[j]? = some v → Value.okWide Try.prog W .any base t v := hval0
  have hW' := hW
  obtain ⟨p, q, hA0, hV, rfl, hfz, hnd⟩ := hW
  have hA : DataW.TrodAll enc Try.prog W 0 (fun _ => true) true Try.f4.params.toList args.toList ds p := hA0
  rw [Try.params4] at hA hval
  obtain ⟨v0, vs0, d0, ds0, p0, q0, hargs, rfl, rfl, h0, r0⟩ := trodAll_cons hA
  obtain ⟨rfl, rfl, rfl⟩ := trodAll_nil r0
  obtain rfl : args = #[v0] := by cases args; simp_all
  obtain ⟨rfl, rfl⟩ := trodVars_none hV
  obtain ⟨a0, len0, cap0, rfl⟩ := okWide_slice Try.underlying23 (hval 0 23 v0 rfl rfl)
  have k0 := h0
  have lt0 : ∀ x ∈ p0, x.block < W.heap.size := by obtain ⟨m, hm⟩ := k0; exact DataW.trod_lt m _ _ _ hm
  obtain ⟨z0, w0⟩ : ∃ zs, IsRow .i64 W a0 len0 cap0 zs := by
    obtain ⟨fuel, hf⟩ := h0
    rcases open_ints Try.underlying23 Try.underlying3 (by kernel_rfl) hf with ⟨hcs, _⟩ | ⟨x, l, c, zs, hcs, _, hl, hm, hz, _, hcell, hwz⟩
    · simp [Value.cells] at hcs
      obtain ⟨rfl, rfl, rfl⟩ := hcs
      exact ⟨[], .inl ⟨rfl, rfl, rfl, rfl⟩⟩
    · simp [Value.cells] at hcs
      obtain ⟨rfl, rfl, rfl⟩ := hcs
      exact ⟨zs, .inr ⟨_, rfl, hl, hm, by simpa using hz, hcell, hwz⟩⟩
  clear hA0 hval0
  refine (walk a0 len0 cap0 z0 W w0).mono fun e W' ⟨he, bel⟩ => ?_
  subst he
  exact ⟨_, rfl, _, _, _, [], _, [], hW', trodAll_mk1 (shut_bool Try.underlying4 _), (trodAll_cons_mk (Below.trod laidOut (by kernel_rfl) (of_decide_eq_true (by kernel_rfl)) k0 bel lt0) trodAll_mk0), rfl, bel.frame _, fun h => by cases h⟩

theorem over : Rows.glyphTextsRow.holds Try.pinned (OpenSpec.ofChange Rows.glyphTextsSpec) :=
  OpenClaim.holds_of_wide 4 Try.f4 rfl rfl rfl rfl rfl rfl rfl ⟨rfl, rfl, rfl, rfl, rfl⟩ rfl rfl rfl rfl rfl (by kernel_rfl) Try.func4 (by kernel_rfl)
    (of_decide_eq_true (by kernel_rfl)) (by unfold Func.isWrapper; first | (rw [if_pos (by decide +kernel)]; kernel_rfl) | (rw [if_neg (by decide +kernel)]; exact ⟨rfl, rfl⟩))
    (fun os started H enc _ => lifted os started H enc)
end Go.Proofs.Ytilmgmafhmgddaa.glyphTexts
namespace Go.Proofs.Ytilmgmafhmgddaa

theorem glyphTexts_holds : Rows.GlyphTextsSaid := glyphTexts.over
#print axioms glyphTexts_holds
end Go.Proofs.Ytilmgmafhmgddaa
