/- A law for the walk: tokens that came in, appended onto an empty slice of the call's own, where the operation stands behind a guard. -/
import Derived.Test.YtchdecoceokcmaaWZ
import Derived.Laws.AppendOwnNone
namespace Go.Proofs.Ytchdecoceokcmaa
open Go.RowKit
set_option linter.unusedVariables false

/-- A token as it came in, as it lies in memory. -/
def cv (t : Int × ByteArray × Int) : List Value := [.int .i64 t.1, .string t.2.1, .int .i64 t.2.2]

def cvs : List (Int × ByteArray × Int) → List Value
  | [] => []
  | t :: l => cv t ++ cvs l

theorem cvs_len (a : List (Int × ByteArray × Int)) : (cvs a).length = a.length * 3 := by
  induction a with
  | nil => rfl
  | cons t a ih => simp [cvs, cv, ih]; omega

theorem cvs_at (a : List (Int × ByteArray × Int)) (i j : Nat) (t : Int × ByteArray × Int) (h : a[i]? = some t) (hj : j < 3) : (cvs a)[i * 3 + j]? = (cv t)[j]? := by
  induction a generalizing i with
  | nil => simp at h
  | cons x a ih =>
    cases i with
    | zero =>
      simp at h
      subst h
      simp only [cvs, Nat.zero_mul, Nat.zero_add]
      rw [List.getElem?_append_left (by simp [cv]; omega)]
    | succ i =>
      simp at h
      simp only [cvs]
      rw [List.getElem?_append_right (by simp [cv]; omega)]
      have e : (i + 1) * 3 + j - (cv x).length = i * 3 + j := by simp [cv]; omega
      rw [e]
      exact ih i h

theorem cvs_one (a : List (Int × ByteArray × Int)) : ∀ u ∈ cvs a, u.oneCell' = true := by
  induction a with
  | nil => intro u hu; cases hu
  | cons t a ih =>
    intro u hu
    simp only [cvs] at hu
    rcases List.mem_append.1 hu with hu | hu
    · simp [cv] at hu
      rcases hu with rfl | rfl | rfl <;> rfl
    · exact ih u hu

/-- A slice of tokens that came in. -/
def ReadsL (w : World) (v : Value) (l : List (Int × ByteArray × Int)) : Prop :=
  ∃ a cap, v = .slice a l.length cap ∧ (a = none → cap = 0) ∧ l.length ≤ cap ∧ ∀ i t, l[i]? = some t → ∃ b off, a = some ⟨b, off, none⟩ ∧ w.cell? ⟨b, off + i * 3, none⟩ = some (.int .i64 t.1) ∧ w.cell? ⟨b, off + i * 3 + 1, none⟩ = some (.string t.2.1) ∧ w.cell? ⟨b, off + i * 3 + 2, none⟩ = some (.int .i64 t.2.2)

theorem ReadsL.later {w wx : World} {v : Value} {l : List (Int × ByteArray × Int)} (h : ReadsL w v l) (hb : Below w.heap.size w wx) : ReadsL wx v l := by
  obtain ⟨a, cap, hv, hn, hc, hr⟩ := h
  refine ⟨a, cap, hv, hn, hc, fun i t hi => ?_⟩
  obtain ⟨b, off, ha, c0, c1, c2⟩ := hr i t hi
  exact ⟨b, off, ha, cell_later hb c0, cell_later hb c1, cell_later hb c2⟩

def mids (l : List (Int × ByteArray × Int)) : List ByteArray := l.map fun t => t.2.1

theorem ReadsL.texts {w : World} {v : Value} {l : List (Int × ByteArray × Int)} (h : ReadsL w v l) : ReadsX w v (mids l) := by
  obtain ⟨a, cap, hv, hn, hc, hr⟩ := h
  refine ⟨a, cap, by simpa [mids] using hv, hn, by simpa [mids] using hc, fun i x hi => ?_⟩
  simp only [mids, List.getElem?_map, Option.map_eq_some_iff] at hi
  obtain ⟨t, ht, rfl⟩ := hi
  obtain ⟨b, off, ha, c0, c1, c2⟩ := hr i t ht
  exact ⟨b, off, _, _, ha, c0, c1, c2⟩

theorem readsL_of_owns {w : World} {B : Nat} {v : Value} {l : List (Int × ByteArray × Int)} (h : w.ownsRow B 38 3 v l.length (cvs l)) : ReadsL w v l := by
  rcases h.2 with ⟨rfl, h0⟩ | ⟨g, cap, cur, rfl, hb, hg, hnc, hcm, _⟩
  · have h1 : l = [] := List.eq_nil_of_length_eq_zero h0
    subst h1
    exact ⟨none, 0, rfl, fun _ => rfl, Nat.le_refl _, by simp⟩
  · refine ⟨_, cap, rfl, (fun h => by cases h), hnc, fun i t hi => ⟨g, 0, rfl, ?_, ?_, ?_⟩⟩
    all_goals have hil : i < l.length := (List.getElem?_eq_some_iff.1 hi).1
    · rw [Nat.zero_add, h.cellAt _ (by omega)]
      exact cvs_at l i 0 t hi (by omega)
    · rw [Nat.zero_add, h.cellAt _ (by omega)]
      exact cvs_at l i 1 t hi (by omega)
    · rw [Nat.zero_add, h.cellAt _ (by omega)]
      exact cvs_at l i 2 t hi (by omega)

theorem wanted_plain {P : Program} {ops : Array Oper} {Q : Exit → Act → World → Prop} {a : Act} {w : World} {rest : List Oper} {o : Oper} (hw : Region.wanted o (yielded ops a.tmps) = true)
    (h : ∀ K : Act → World → Prop, (∀ a w, wpList P ops Q rest a w → K a w) → o.wp P a w K Q) : wpList P ops Q (o :: rest) a w :=
  wpList_step fun K hK => by rw [if_pos hw]; exact h K hK

/-- 'append(own, l...)', the call's own slice empty, l tokens that came in, behind a guard that says yes. -/
theorem append_copy {W : World} {ops : Array Oper} {rest : List Oper} {o : Oper} {a : Act} {Q : Exit → Act → World → Prop} (hw : Region.wanted o (yielded ops a.tmps) = true) (s x : Operand)
    (ho : o.op = .call { callee := .builtin .append, args := #[s, x], argTypes := #[23, 23] }) (B : Nat) (v : Value) (hs : a.eval s = v) (hown : W.ownsRow B 38 3 v 0 []) (l : List (Int × ByteArray × Int)) (xv : Value) (hx : a.eval x = xv) (hr : ReadsL W xv l)
    (hl : l.length ≤ 100000) (hB : B ≤ W.heap.size)
    (h : ∀ v' w', ReadsL w' v' l → Below B W w' → wpList Try.prog ops Q rest (a.put o.dst v') w') : wpList Try.prog ops Q (o :: rest) a W := by
  obtain ⟨i0, hi, hz0, hz1, hz2⟩ := info_parts Try.info38
  have hr2 := hr
  obtain ⟨ad, cap, rfl, hnone, hcap, hc⟩ := hr
  cases ad with
  | none =>
    have h0 := hnone rfl
    subst h0
    have hl0 : l = [] := List.eq_nil_of_length_eq_zero (by omega)
    subst hl0
    refine wanted_plain hw fun K hK => ?_
    have hrun := run_append_owned_none (P := Try.prog) (w := W) B 23 o.type 38 i0 3 Try.underlying23 hi v 0 [] hown
    have hx' : a.eval x = .slice none 0 0 := hx
    unfold Oper.wp
    simp [execOp, ho, resolve, invoke, builtin, hs, hx', hrun, Result.andThen]
    exact hK _ _ (h v W (readsL_of_owns (B := B) (by simpa [cvs] using hown)) (Below.refl _ _))
  | some ad =>
    have hcells : ∀ j u, (cvs l)[j]? = some u → W.cell? (ad.add j) = some u := by
      intro j u hj
      have hjl : j < l.length * 3 := by
        have := (List.getElem?_eq_some_iff.1 hj).1
        rwa [cvs_len] at this
      obtain ⟨t, ht⟩ : ∃ t, l[j / 3]? = some t := ⟨_, List.getElem?_eq_getElem (by omega)⟩
      obtain ⟨b, off, hb, c0, c1, c2⟩ := hc (j / 3) t ht
      simp only [Option.some.injEq] at hb
      subst hb
      have e : (⟨b, off, none⟩ : Addr).add j = ⟨b, off + j, none⟩ := Go.WideShapes.add_plain b off j
      rw [e]
      have hm : j % 3 = 0 ∨ j % 3 = 1 ∨ j % 3 = 2 := by omega
      have hj2 : (cvs l)[j / 3 * 3 + j % 3]? = some u := by rw [show j / 3 * 3 + j % 3 = j by omega]; exact hj
      rw [cvs_at l (j / 3) (j % 3) t ht (by omega)] at hj2
      rcases hm with hm | hm | hm
      · rw [hm] at hj2
        simp [cv] at hj2
        rw [← hj2, ← c0]
        congr 2
        omega
      · rw [hm] at hj2
        simp [cv] at hj2
        rw [← hj2, ← c1]
        congr 2
        omega
      · rw [hm] at hj2
        simp [cv] at hj2
        rw [← hj2, ← c2]
        congr 2
        omega
    refine wanted_plain hw fun K hK => ?_
    refine wp_append_own (P := Try.prog) W s x 23 ho B 38 i0 _ 3 32 Try.underlying23 hi hz0 hz1 hz2 rfl (by decide) v 0 [] hs hown ad l.length cap (cvs l) hx (cvs_len l) hcells (cvs_one l) (by unfold maxLen; omega) (by omega) hB ?_
    intro v' w' hown' hg _
    refine hK _ _ (h v' w' (readsL_of_owns (B := B) (by simpa using hown')) ?_)
    exact Below.grown (Below.refl _ _) hg hB (fun k hk => (hown.lt k hk).1)
end Go.Proofs.Ytchdecoceokcmaa
