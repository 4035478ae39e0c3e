/- A law for the walk: 'append' of a slice that reads as a list onto a slice of the call's own. -/
import Derived.Test.YtilmgmafhmgddaaWT
import Derived.Laws.AppendOwnNone
namespace Go.Proofs.Ytilmgmafhmgddaa
open Go.RowKit

theorem reads_cells {w : World} {x : Addr} {cap : Nat} {l : List Int} (h : Reads w (.slice (some x) l.length cap) l) : ∀ j u, (ivs l)[j]? = some u → w.cell? (x.add j) = some u := by
  obtain ⟨a, ca, he, _, hc⟩ := h
  simp only [Value.slice.injEq] at he
  obtain ⟨rfl, _, rfl⟩ := he
  intro j u hj
  have hj2 : j < l.length := by
    have := (List.getElem?_eq_some_iff.1 hj).1
    simpa [ivs] using this
  obtain ⟨b, off, hb, hcell⟩ := hc j hj2
  simp only [Option.some.injEq] at hb
  subst hb
  have e : (⟨b, off, none⟩ : Addr).add j = ⟨b, off + j, none⟩ := Go.WideShapes.add_plain b off j
  rw [e, hcell]
  simp [ivs, hj2] at hj
  rw [← hj]
  simp [hj2]

theorem append_reads {w : World} {ops : Array Oper} {rest : List Oper} {o : Oper} {a : Act} {Q : Exit → Act → World → Prop} (hgd : o.guard = none) (s x : Operand)
    (ho : o.op = .call { callee := .builtin .append, args := #[s, x], argTypes := #[23, 23] }) (base : Nat)
    (v : Value) (n : Nat) (xs : List Value) (hs : a.eval s = v) (hown : w.ownsRow base 3 1 v n xs) (xv : Value) (l : List Int) (hx : a.eval x = xv) (hr : Reads w xv l)
    (hn : n ≤ 100000) (hl : l.length ≤ 100000) (hbase : base ≤ w.heap.size)
    (h : ∀ v' w', w'.ownsRow base 3 1 v' (n + l.length) (xs ++ ivs l) → w.grownBy w' v.ownBlock → wpList Try.prog ops Q rest (a.put o.dst v') w') : wpList Try.prog ops Q (o :: rest) a w := by
  obtain ⟨i0, hi, hz0, hz1, hz2⟩ := info_parts Try.info3
  have hr2 := hr
  obtain ⟨ad, cap, rfl, hnone, hc⟩ := hr
  cases ad with
  | none =>
    have h0 := hnone rfl
    subst h0
    have hl0 : l = [] := by
      cases l with
      | nil => rfl
      | cons y l =>
        obtain ⟨b, off, hb, _⟩ := hc 0 (by simp)
        cases hb
    subst hl0
    refine wpList_append_own_none hgd s x 23 ho base 3 i0 1 Try.underlying23 hi v n xs hs hown hx ?_
    refine h v w ?_ ⟨rfl, rfl, rfl, Nat.le_refl _, fun _ _ _ => rfl⟩
    simpa [ivs] using hown
  | some ad =>
    refine wpList_append_own _ hgd s x 23 ho base 3 i0 (.int .i64 0) 1 8 Try.underlying23 hi hz0 hz1 hz2 rfl (by decide) v n xs hs hown ad l.length cap (ivs l) hx (by rw [ivs_len]; omega) (reads_cells hr2) ?_ (by unfold maxLen; omega) (by omega) hbase ?_
    · intro u hu
      simp [ivs] at hu
      obtain ⟨c, _, rfl⟩ := hu
      rfl
    · intro v' w' h1 h2 _
      exact h v' w' h1 h2
end Go.Proofs.Ytilmgmafhmgddaa
