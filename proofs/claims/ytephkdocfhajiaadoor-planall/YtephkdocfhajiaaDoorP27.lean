/- Texts of the seat, packed: Zx Zy. -/
import Derived.Test.YtephkdocfhajiaaDoorP26
import Derived.Test.YtephkdocfhajiaaDoorP15
/- Plain: the items once their leanings are laid. -/
namespace Go.Proofs.YtephkdocfhajiaaDoor
open Go.RowKit Go.Shelf Go.Proofs.YtephkdocfhajiaaDoor.Sx

/-- On which items the node at k leans. -/
def leanK (x : By) (am : Nat) (xs : List Pd) (k : Nat) : Option (List Nat) := match xs[k]? with
  | some y => leanP (its1 x am xs xs.length) (numF xs) y.inn y.alt y.lab.after []
  | none => none

def intsN (l : List Nat) : List Int := l.map fun (n : Nat) => (n : Int)

/-- The items once k nodes have their leanings. -/
def its2 (x : By) (am : Nat) (xs : List Pd) : Nat → List It
  | 0 => its1 x am xs xs.length
  | k + 1 => match (its2 x am xs k)[k + 1]? with
    | some y => (its2 x am xs k).set (k + 1) { y with after := intsN ((leanK x am xs k).getD []) }
    | none => its2 x am xs k

theorem its1_len (x : By) (am : Nat) (xs : List Pd) : (its1 x am xs xs.length).length = xs.length + 1 := by simp [its1]

theorem its2_len (x : By) (am : Nat) (xs : List Pd) : ∀ k, (its2 x am xs k).length = xs.length + 1
  | 0 => its1_len x am xs
  | k + 1 => by
    rw [its2]
    split
    · rw [List.length_set]; exact its2_len x am xs k
    · exact its2_len x am xs k

/-- Laying leanings turns no place. -/
theorem its2_spot (x : By) (am : Nat) (xs : List Pd) : ∀ (k on : Nat), ((its2 x am xs k)[on]?).map (fun y => (y.inn, y.alt)) = ((its1 x am xs xs.length)[on]?).map (fun y => (y.inn, y.alt))
  | 0, _ => rfl
  | k + 1, on => by
    rw [its2]
    split
    · rename_i y hy
      by_cases ho : on = k + 1
      · subst ho
        rw [List.getElem?_set_self (List.getElem?_eq_some_iff.1 hy).1, ← its2_spot x am xs k, hy]
        rfl
      · rw [List.getElem?_set_ne (Ne.symm ho)]
        exact its2_spot x am xs k on
    · exact its2_spot x am xs k on

theorem leanP_congr {its its' : List It} {num : By → Option Nat} {inn alt : Int} (h : ∀ on : Nat, (its[on]?).map (fun y => (y.inn, y.alt)) = (its'[on]?).map (fun y => (y.inn, y.alt))) : ∀ (l : List By) (acc : List Nat), leanP its num inn alt l acc = leanP its' num inn alt l acc
  | [], _ => rfl
  | nm :: r, acc => by
    unfold leanP
    cases num nm with
    | none => rfl
    | some on =>
      have ho := h on
      simp only
      cases h1 : its[on]? with
      | none =>
        rw [h1] at ho
        cases h2 : its'[on]? with
        | none => rfl
        | some z => rw [h2] at ho; cases ho
      | some y =>
        rw [h1] at ho
        cases h2 : its'[on]? with
        | none => rw [h2] at ho; cases ho
        | some z =>
          rw [h2] at ho
          simp only [Option.map_some, Option.some.injEq, Prod.mk.injEq] at ho
          simp only [ho.1, ho.2]
          split
          · exact leanP_congr h r _
          · rfl

theorem lean_two (x : By) (am : Nat) (xs : List Pd) (k : Nat) {y : Pd} (hy : xs[k]? = some y) : leanP (its2 x am xs k) (numF xs) y.inn y.alt y.lab.after [] = leanK x am xs k := by
  unfold leanK
  rw [hy]
  exact leanP_congr (its2_spot x am xs k) _ _

theorem numFold_some : ∀ (xs : List Pd) (f : By → Option Nat) (nm : By) (c : Nat), xs.foldl numPut f nm = some c → (∃ y ∈ xs, y.num = c) ∨ f nm = some c
  | [], f, nm, c, h => .inr h
  | z :: xs, f, nm, c, h => by
    rcases numFold_some xs (numPut f z) nm c h with ⟨y, h1, h2⟩ | h1
    · exact .inl ⟨y, List.mem_cons_of_mem _ h1, h2⟩
    · unfold numPut at h1
      split at h1
      · cases h1
        exact .inl ⟨z, List.mem_cons_self .., rfl⟩
      · exact .inr h1

/-- A number that a name has is that of a node. -/
theorem numF_some (xs : List Pd) (nm : By) (c : Nat) (h : numF xs nm = some c) : ∃ y ∈ xs, y.num = c := by
  rcases numFold_some xs _ nm c h with h | h
  · exact h
  · cases h

theorem RdG.of_own {A : World} {base : Nat} {v : Value} {r : List Nat} (G : Nat → Prop) (h : A.ownsRow base 3 1 v r.length (Dg.ivs r)) : RdG (fun b => G b ∨ v.ownBlock = some b) A v (intsN r) := by
  have hl : (intsN r).length = r.length := by simp [intsN]
  rcases h.2 with ⟨rfl, h0⟩ | ⟨g, cap, cur, rfl, hb, hg, hc, _⟩
  · have : r = [] := List.length_eq_zero_iff.1 h0
    subst this
    exact ⟨none, 0, rfl, Nat.le_refl _, fun i x hi => by simp [intsN] at hi⟩
  · refine ⟨_, cap, by rw [hl], by rw [hl]; exact hc, fun i x hi => ⟨g, 0, .inr rfl, rfl, ?_⟩⟩
    have hil : i < r.length := by have := (List.getElem?_eq_some_iff.1 hi).1; omega
    rw [Nat.zero_add, h.cellAt i (by omega)]
    simp only [intsN, List.getElem?_map, Option.map_eq_some_iff] at hi
    obtain ⟨q, hq, rfl⟩ := hi
    simp [Dg.ivs, hq]

/-- What planOf knows in its second loop, once k nodes have their leanings; D0 is the mark that the first loop left. -/
def Pl2 (w : World) (x : By) (am : Nat) (sc : Array Value) (xs : List Pd) (g0 D0 k : Nat) (A : World) (TA : Nat → Prop) : Prop :=
  Lo w A TA ∧ (∀ j, j < k → (leanK x am xs j).isSome = true) ∧ (w.heap.size ≤ D0 ∧ D0 < A.heap.size ∧ ¬ TA D0 ∧ A.heap[D0]? = some (.deferred (some []))) ∧
    ∃ (G : Nat → Prop) (g cap : Nat) (aft : List Value), Apart w.heap.size G TA A ∧ ¬ G D0 ∧ G (w.heap.size + 1) ∧ A.heap[w.heap.size + 1]? = some (.cells #[.slice none 0 0] 27 (0, 0)) ∧ (∀ v ∈ aft, ∀ z : Int, v ≠ .int .i64 z) ∧
    PSt G w.heap.size A w.heap.size (g0 + 1) (g0 + 3) (g0 + 2) xs.length sc (.slice (some ⟨g, 0, none⟩) (xs.length + 1) cap) (its2 x am xs k) aft (numF xs)

theorem Pl2.mv {w : World} {x : By} {am : Nat} {sc : Array Value} {xs : List Pd} {g0 D0 k : Nat} {A B : World} {TA TB : Nat → Prop} (h : Pl2 w x am sc xs g0 D0 k A TA) (m : Mv TA A TB B) : Pl2 w x am sc xs g0 D0 k B TB := by
  obtain ⟨h1, h2, ⟨d1, d2, d3, d4⟩, G, g, cap, aft, h3, hd, h4, h5, h6, h7⟩ := h
  exact ⟨h1.mv m, h2, ⟨d1, Nat.lt_of_lt_of_le d2 m.size, fun ht => d3 ((m.old _ d2).1 ht), (m.same _ d2 d3).trans d4⟩, G, g, cap, aft, h3.mv m, hd, h4, (h3.agree m _ h4).trans h5, h6, h7.mv h3 m⟩

/-- May the items be ordered? -/
noncomputable def ordOk (its : List It) : Bool := match Dg.weaveP (its.length : Int) (arcP its) with
  | .ok _ _ => true
  | .bad _ => false

open Classical in
/-- The plan of a saga, or none. -/
noncomputable def planP (x : By) (t : Tr) (am : Nat) (xs : List Pd) : Option (List It) :=
  if fitS x t = true ∧ goodN xs = true ∧ (∀ j, j < xs.length → (leanK x am xs j).isSome = true) ∧ ordOk (its2 x am xs xs.length) = true then some (its2 x am xs xs.length) else none
end Go.Proofs.YtephkdocfhajiaaDoor

/- Plain: how many arcs a plan has. -/
namespace Go.Proofs.YtephkdocfhajiaaDoor
open Go.RowKit Go.Shelf Go.Proofs.YtephkdocfhajiaaDoor.Sx

theorem len_zero {t : Tr} (h : t.len = 0) : t = .e := by cases t <;> simp_all [Tr.len]

/-- All nodes are gone through where all are right. -/
theorem cnt_flat (t : Tr) : ∀ d, okL (fltn d t) = true → cntA t = (fltn d t).length := by
  induction t with
  | e => intro d _; rfl
  | b x r ih1 ih2 =>
    intro d h
    simp only [fltn, okL, List.all_append, Bool.and_eq_true] at h
    simp only [fltn, cntA, List.length_append]
    rw [ih1 d h.1, ih2 d h.2]
  | n l t r ih1 ih2 =>
    intro d h
    simp only [fltn, okL, List.all_append, List.all_cons, Bool.and_eq_true] at h
    obtain ⟨h1, h2, h3⟩ := h
    simp only [fltn, cntA, List.length_append, List.length_cons]
    rw [ih2 d h3]
    cases hs : l.sub with
    | true =>
      rw [hs] at h2
      simp only [if_true] at h2 ⊢
      rw [ih1 (d + 1) h2]
      omega
    | false =>
      simp only [nodeOk, hs] at h1
      have : t.len = 0 := by simp at h1; exact h1.2.2
      rw [len_zero this]
      simp [cntA]
      omega

theorem fit_cnt {x : By} {t : Tr} (h : fitS x t = true) : cntA t < 64 := by
  simp only [fitS, Bool.and_eq_true, decide_eq_true_eq] at h
  obtain ⟨h1, _, h2, _⟩ := h
  have h3 : rightS x t = true := by
    unfold codeS at h1
    split at h1
    · assumption
    · cases h1
  simp only [rightS, Bool.and_eq_true] at h3
  rw [cnt_flat t 1 h3.2]
  exact h2

theorem leanP_some {its : List It} {num : By → Option Nat} {inn alt : Int} : ∀ (l : List By) (acc r : List Nat), leanP its num inn alt l acc = some r → acc.Nodup → (∀ c ∈ acc, c < its.length) → r.Nodup ∧ ∀ c ∈ r, c < its.length
  | [], acc, r, h, h1, h2 => by
    cases h
    exact ⟨h1, h2⟩
  | nm :: l, acc, r, h, h1, h2 => by
    unfold leanP at h
    cases hn : num nm with
    | none => rw [hn] at h; cases h
    | some on =>
      rw [hn] at h
      simp only at h
      cases ho : its[on]? with
      | none => rw [ho] at h; cases h
      | some y =>
        rw [ho] at h
        simp only at h
        split at h
        · rename_i hc
          refine leanP_some l _ r h ?_ ?_
          · rw [List.nodup_append]
            refine ⟨h1, by simp, ?_⟩
            intro a ha b hb
            rw [List.mem_singleton] at hb
            rintro rfl
            exact hc.2.2 (hb ▸ ha)
          · intro c hc2
            rcases List.mem_append.1 hc2 with h9 | h9
            · exact h2 c h9
            · rw [List.mem_singleton] at h9
              rw [h9]
              exact (List.getElem?_eq_some_iff.1 ho).1
        · cases h

theorem leanP_len {its : List It} {num : By → Option Nat} {inn alt : Int} {l : List By} {r : List Nat} (h : leanP its num inn alt l [] = some r) : r.length ≤ its.length ∧ ∀ c ∈ r, c < its.length := by
  obtain ⟨h1, h2⟩ := leanP_some l [] r h List.nodup_nil (fun _ h => by cases h)
  refine ⟨?_, h2⟩
  have := Dg.pigeon r (List.range its.length) h1 (fun x hx => List.mem_range.2 (h2 x hx))
  simpa using this

theorem leanK_len (x : By) (am : Nat) (xs : List Pd) (k : Nat) : (((leanK x am xs k).getD []).length ≤ xs.length + 1) ∧ ∀ c ∈ (leanK x am xs k).getD [], c < xs.length + 1 := by
  cases h : leanK x am xs k with
  | none => simp
  | some r =>
    unfold leanK at h
    split at h
    · have := leanP_len h
      rw [its1_len] at this
      exact this
    · cases h

theorem its1_no (x : By) (am : Nat) (xs : List Pd) (k : Nat) : ∀ y ∈ its1 x am xs k, y.after = [] := by
  intro y hy
  unfold its1 at hy
  rcases List.mem_cons.1 hy with rfl | h
  · rfl
  · obtain ⟨p, _, rfl⟩ := List.mem_map.1 h
    rfl

theorem its2_after (x : By) (am : Nat) (xs : List Pd) : ∀ k, ∀ y ∈ its2 x am xs k, y.after.length ≤ xs.length + 1 ∧ ∀ on ∈ y.after, 0 ≤ on ∧ on < (xs.length : Int) + 1
  | 0 => by
    intro y hy
    rw [its1_no x am xs _ y hy]
    simp
  | k + 1 => by
    intro y hy
    rw [its2] at hy
    split at hy
    · rename_i z hz
      rcases List.mem_or_eq_of_mem_set hy with h9 | h9
      · exact its2_after x am xs k y h9
      · rw [h9]
        obtain ⟨l1, l2⟩ := leanK_len x am xs k
        refine ⟨by simpa [intsN] using l1, fun on hon => ?_⟩
        simp only [intsN, List.mem_map] at hon
        obtain ⟨c, hc, rfl⟩ := hon
        have := l2 c hc
        omega
    · exact its2_after x am xs k y hy

theorem sum_le (B : Nat) : ∀ l : List It, (∀ y ∈ l, y.after.length ≤ B) → (l.map fun x => x.after.length).sum ≤ l.length * B
  | [], _ => by simp
  | y :: l, h => by
    have h1 := sum_le B l (fun z hz => h z (List.mem_cons_of_mem _ hz))
    have h2 := h y (List.mem_cons_self ..)
    simp only [List.map_cons, List.sum_cons, List.length_cons, Nat.succ_mul]
    omega

theorem arcN_le (x : By) (am : Nat) (xs : List Pd) (k : Nat) (h : xs.length < 64) : arcN (its2 x am xs k) ≤ 1000000 := by
  have h1 := sum_le 64 (its2 x am xs k) (fun y hy => by have := (its2_after x am xs k y hy).1; omega)
  rw [its2_len] at h1
  unfold arcN
  omega

theorem arcTo_mem (its : List It) : ∀ i p, p ∈ arcTo its i → p.2 < (i : Int) ∧ 0 ≤ p.2 ∧ ∃ y ∈ its, p.1 ∈ y.after
  | 0, p, h => by cases h
  | i + 1, p, h => by
    rw [arcTo] at h
    rcases List.mem_append.1 h with h9 | h9
    · obtain ⟨h1, h2, h3⟩ := arcTo_mem its i p h9
      exact ⟨by omega, h2, h3⟩
    · split at h9
      · rename_i y hy
        obtain ⟨on, ho, rfl⟩ := List.mem_map.1 h9
        exact ⟨by show (i : Int) < _; omega, by show 0 ≤ (i : Int); omega, y, List.mem_of_getElem? hy, ho⟩
      · cases h9

theorem arcP_small (x : By) (am : Nat) (xs : List Pd) (k : Nat) (h : xs.length < 64) : Dg.Small (arcP (its2 x am xs k)) := by
  intro p hp
  obtain ⟨h1, h2, y, hy, hm⟩ := arcTo_mem _ _ p hp
  have h3 := (its2_after x am xs k y hy).2 _ hm
  rw [its2_len] at h1
  omega
end Go.Proofs.YtephkdocfhajiaaDoor

