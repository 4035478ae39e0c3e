/- Texts of the seat, packed: Zw. -/
import Derived.Test.YtephkdocfhajiaaDoorP26
/- Plain facts: the bodies that items tell of, and how many parts they have. -/
namespace Go.Proofs.YtephkdocfhajiaaDoor
open Go.Proofs.YtephkdocfhajiaaDoor.Sx

/-- Nodes side by side. -/
def nodesL : List (Lab × Tr) → Tr
  | [] => .e
  | (l, t) :: r => .n l t (nodesL r)

/-- Bodies side by side. -/
def bodiesL : List Tr → Tr
  | [] => .e
  | x :: r => .b x (bodiesL r)

/-- The name of an item. -/
def nameI (its : List It) (on : Int) : By := match its[on.toNat]? with
  | some y => y.name
  | none => []

/-- What an item says of itself as a node. -/
def labI (its : List It) (x : It) : Lab := ⟨x.name, x.undo, x.after.map (nameI its), x.sub, x.vital⟩

/-- How many bodies an item has. -/
def altsI (its : List It) (i : Nat) : Nat := match its[i]? with
  | some x => x.alts.toNat
  | none => 0

/-- The nodes of one body among the first k items. -/
def kidsT (its : List It) (rec : Nat → Tr) (i alt : Nat) : Nat → List (Lab × Tr)
  | 0 => []
  | k + 1 => kidsT its rec i alt k ++ match its[k]? with
    | some x => if x.inn = (i : Int) ∧ x.alt = (alt : Int) then [(labI its x, rec k)] else []
    | none => []

/-- An item's bodies (fuel). -/
def bodT (its : List It) : Nat → Nat → Tr
  | 0, _ => .e
  | f + 1, i => bodiesL ((List.range (altsI its i)).map fun alt => nodesL (kidsT its (bodT its f) i alt its.length))

/-- Each item stands in one ahead of it. -/
def Hang (its : List It) : Prop := ∀ (i : Nat) (x : It), its[i]? = some x → x.inn < (i : Int)

theorem kidsT_congr {its : List It} {r s : Nat → Tr} {i alt : Nat} (h : ∀ k x, its[k]? = some x → x.inn = (i : Int) → r k = s k) : ∀ k, kidsT its r i alt k = kidsT its s i alt k
  | 0 => rfl
  | k + 1 => by
    rw [kidsT, kidsT, kidsT_congr h k]
    congr 1
    cases hx : its[k]? with
    | none => rfl
    | some x =>
      simp only
      split
      · rename_i hc
        rw [h k x hx hc.1]
      · rfl

/-- More fuel tells no more. -/
theorem bodT_fuel {its : List It} (hH : Hang its) : ∀ (f g i : Nat), its.length < i + f → its.length < i + g → bodT its f i = bodT its g i
  | 0, 0, _, _, _ => rfl
  | 0, g + 1, i, h1, _ => by
    have : altsI its i = 0 := by unfold altsI; rw [List.getElem?_eq_none (by omega)]
    simp [bodT, this, bodiesL]
  | f + 1, 0, i, _, h2 => by
    have : altsI its i = 0 := by unfold altsI; rw [List.getElem?_eq_none (by omega)]
    simp [bodT, this, bodiesL]
  | f + 1, g + 1, i, h1, h2 => by
    unfold bodT
    congr 1
    apply List.map_congr_left
    intro alt _
    congr 1
    apply kidsT_congr
    intro k x hx hi
    have := hH k x hx
    exact bodT_fuel hH f g k (by omega) (by omega)

/-- A sum. -/
def sm (v : Nat → Nat) : Nat → Nat
  | 0 => 0
  | k + 1 => sm v k + v k

theorem sm_le {u v : Nat → Nat} (h : ∀ j, u j ≤ v j) : ∀ n, sm u n ≤ sm v n
  | 0 => Nat.le_refl _
  | n + 1 => by have := sm_le h n; have := h n; simp only [sm]; omega

theorem sm_add (u v : Nat → Nat) : ∀ n, sm (fun j => u j + v j) n = sm u n + sm v n
  | 0 => rfl
  | n + 1 => by simp only [sm, sm_add u v n]; omega

theorem sm_zero : ∀ n, sm (fun _ => 0) n = 0
  | 0 => rfl
  | n + 1 => by simp only [sm, sm_zero n]

theorem sm_swap (f : Nat → Nat → Nat) (m : Nat) : ∀ n, sm (fun a => sm (fun j => f a j) m) n = sm (fun j => sm (fun a => f a j) n) m
  | 0 => by simp only [sm]; rw [sm_zero]
  | n + 1 => by simp only [sm, sm_swap f m n]; rw [← sm_add]

theorem sm_one (c : Nat → Prop) [DecidablePred c] (v : Nat) (h : ∀ a b, c a → c b → a = b) : ∀ n, sm (fun a => if c a then v else 0) n ≤ v
  | 0 => Nat.zero_le _
  | n + 1 => by
    simp only [sm]
    by_cases hc : c n
    · have : ∀ k, k ≤ n → sm (fun a => if c a then v else 0) k = 0 := by
        intro k
        induction k with
        | zero => intro _; rfl
        | succ k ih =>
          intro hk
          simp only [sm, ih (by omega)]
          rw [if_neg (fun hk' => by have := h _ _ hk' hc; omega)]
      rw [this n (Nat.le_refl _), if_pos hc]
      omega
    · rw [if_neg hc]
      have := sm_one c v h n
      omega

theorem sz_nodesL : ∀ (l : List (Lab × Tr)), szA (nodesL l) = (l.map fun p => 1 + szA p.2).sum
  | [] => rfl
  | (l, t) :: r => by simp [nodesL, szA, sz_nodesL r]

theorem sz_bodies (f : Nat → Tr) : ∀ (l : List Nat), szA (bodiesL (l.map f)) = (l.map fun a => 1 + szA (f a)).sum
  | [] => rfl
  | x :: r => by simp [bodiesL, szA, sz_bodies f r]

theorem range_sum (v : Nat → Nat) : ∀ n, ((List.range n).map v).sum = sm v n
  | 0 => rfl
  | n + 1 => by rw [List.range_succ, List.map_append, List.sum_append, range_sum v n]; simp [sm]

/-- Does the item k stand in that body? -/
def stands (its : List It) (i alt k : Nat) : Prop := ∃ x, its[k]? = some x ∧ x.inn = (i : Int) ∧ x.alt = (alt : Int)
/-- Does the item k stand in that item? -/
def standsIn (its : List It) (i k : Nat) : Prop := ∃ x, its[k]? = some x ∧ x.inn = (i : Int)

open Classical in
theorem sz_kids (its : List It) (rec : Nat → Tr) (i alt : Nat) : ∀ k, szA (nodesL (kidsT its rec i alt k)) = sm (fun j => if stands its i alt j then 1 + szA (rec j) else 0) k
  | 0 => rfl
  | k + 1 => by
    rw [sz_nodesL, kidsT, List.map_append, List.sum_append, ← sz_nodesL, sz_kids its rec i alt k]
    simp only [sm]
    congr 1
    cases hx : its[k]? with
    | none => rw [if_neg (by rintro ⟨x, h1, _⟩; rw [hx] at h1; cases h1)]; rfl
    | some x =>
      simp only
      by_cases hc : x.inn = (i : Int) ∧ x.alt = (alt : Int)
      · rw [if_pos hc, if_pos ⟨x, hx, hc⟩]
        simp
      · rw [if_neg hc, if_neg (by rintro ⟨y, h1, h2⟩; rw [hx] at h1; cases h1; exact hc h2)]
        rfl

open Classical in
theorem sz_bod (its : List It) (f i : Nat) : szA (bodT its (f + 1) i) ≤ altsI its i + sm (fun j => if standsIn its i j then 1 + szA (bodT its f j) else 0) its.length := by
  rw [bodT, sz_bodies, range_sum]
  have h1 : ∀ a, 1 + szA (nodesL (kidsT its (bodT its f) i a its.length)) = 1 + sm (fun j => if stands its i a j then 1 + szA (bodT its f j) else 0) its.length := fun a => by rw [sz_kids]
  have h2 : sm (fun a => 1 + szA (nodesL (kidsT its (bodT its f) i a its.length))) (altsI its i) = sm (fun a => 1) (altsI its i) + sm (fun a => sm (fun j => if stands its i a j then 1 + szA (bodT its f j) else 0) its.length) (altsI its i) := by
    rw [← sm_add]
    congr 1
    funext a
    exact h1 a
  rw [h2, sm_swap]
  have h3 : ∀ n, sm (fun _ => 1) n = n := by
    intro n
    induction n with
    | zero => rfl
    | succ n ih => simp only [sm, ih]
  rw [h3]
  refine Nat.add_le_add_left (sm_le (fun j => ?_) _) _
  by_cases hs : standsIn its i j
  · rw [if_pos hs]
    refine sm_one (fun a => stands its i a j) _ ?_ _
    rintro a b ⟨x, h1, _, h2⟩ ⟨y, h3, _, h4⟩
    rw [h1] at h3
    cases h3
    rw [h2] at h4
    omega
  · rw [if_neg hs]
    have : (fun a => if stands its i a j then 1 + szA (bodT its f j) else 0) = fun _ => 0 := by
      funext a
      rw [if_neg]
      rintro ⟨x, h1, h2, _⟩
      exact hs ⟨x, h1, h2⟩
    rw [this, sm_zero]
    exact Nat.le_refl _

theorem sm_congr {u v : Nat → Nat} : ∀ n, (∀ j, j < n → u j = v j) → sm u n = sm v n
  | 0, _ => rfl
  | n + 1, h => by simp only [sm]; rw [sm_congr n (fun j hj => h j (by omega)), h n (by omega)]

open Classical in
/-- All items from the k-th on that stand in one ahead of it, with all that stands in them. -/
noncomputable def tot (its : List It) (F k : Nat) : Nat := sm (fun j => if k ≤ j ∧ ∃ x, its[j]? = some x ∧ x.inn < (k : Int) then 1 + szA (bodT its F j) else 0) its.length

theorem sm_pick (u : Nat → Nat) (k : Nat) : ∀ n, k < n → sm u n = u k + sm (fun j => if j = k then 0 else u j) n
  | 0, h => by omega
  | n + 1, h => by
    simp only [sm]
    by_cases hk : k = n
    · subst hk
      have : sm (fun j => if j = k then 0 else u j) k = sm u k := sm_congr k (fun j hj => by rw [if_neg (by omega)])
      rw [this, if_pos rfl]
      omega
    · rw [sm_pick u k n (by omega), if_neg (fun e => hk e.symm)]
      omega

open Classical in
theorem tot_step {its : List It} (hH : Hang its) (ha : ∀ i, altsI its i ≤ 4) (k : Nat) (hk : k < its.length) : tot its (its.length + 1) k ≤ 5 + tot its (its.length + 1) (k + 1) := by
  obtain ⟨x, hx⟩ : ∃ x, its[k]? = some x := ⟨_, List.getElem?_eq_getElem hk⟩
  have hxk := hH k x hx
  unfold tot
  rw [sm_pick _ k _ hk, if_pos ⟨Nat.le_refl _, x, hx, hxk⟩]
  have h1 := sz_bod its its.length k
  have hfu : (fun j => if standsIn its k j then 1 + szA (bodT its its.length j) else 0) = fun j => if standsIn its k j then 1 + szA (bodT its (its.length + 1) j) else 0 := by
    funext j
    by_cases hs : standsIn its k j
    · rw [if_pos hs, if_pos hs]
      obtain ⟨y, hy, hi⟩ := hs
      have := hH j y hy
      rw [bodT_fuel hH its.length (its.length + 1) j (by omega) (by omega)]
    · rw [if_neg hs, if_neg hs]
  rw [hfu] at h1
  have h2 := ha k
  have h3 : sm (fun j => if j = k then 0 else if k ≤ j ∧ ∃ x, its[j]? = some x ∧ x.inn < (k : Int) then 1 + szA (bodT its (its.length + 1) j) else 0) its.length + sm (fun j => if standsIn its k j then 1 + szA (bodT its (its.length + 1) j) else 0) its.length ≤ sm (fun j => if k + 1 ≤ j ∧ ∃ x, its[j]? = some x ∧ x.inn < ((k + 1 : Nat) : Int) then 1 + szA (bodT its (its.length + 1) j) else 0) its.length := by
    rw [← sm_add]
    refine sm_le (fun j => ?_) _
    by_cases hj : j = k
    · subst hj
      rw [if_pos rfl, if_neg (by rintro ⟨y, h5, h6⟩; have := hH j y h5; omega)]
      exact Nat.zero_le _
    · rw [if_neg hj]
      by_cases hs : standsIn its k j
      · obtain ⟨y, hy, hi⟩ := hs
        have h5 := hH j y hy
        rw [if_neg (by rintro ⟨_, z, h7, h8⟩; rw [hy] at h7; cases h7; omega), if_pos ⟨y, hy, hi⟩, if_pos ⟨by omega, y, hy, by omega⟩]
        omega
      · rw [if_neg hs]
        by_cases hc : k ≤ j ∧ ∃ x, its[j]? = some x ∧ x.inn < (k : Int)
        · obtain ⟨h6, y, h7, h8⟩ := hc
          rw [if_pos ⟨h6, y, h7, h8⟩, if_pos ⟨by omega, y, h7, by omega⟩]
          exact Nat.le_refl _
        · rw [if_neg hc]
          exact Nat.zero_le _
  omega

theorem tot_le {its : List It} (hH : Hang its) (ha : ∀ i, altsI its i ≤ 4) : ∀ d k, k + d = its.length → tot its (its.length + 1) k ≤ 5 * d
  | 0, k, h => by
    have : tot its (its.length + 1) k = 0 := by
      unfold tot
      refine Eq.trans (sm_congr (v := fun _ => 0) _ (fun j hj => ?_)) (sm_zero _)
      rw [if_neg]
      rintro ⟨h1, _⟩
      omega
    omega
  | d + 1, k, h => by
    have h1 := tot_step hH ha k (by omega)
    have h2 := tot_le hH ha d (k + 1) (by omega)
    omega

/-- All that stands in an item is no more than five parts an item. -/
theorem bod_size {its : List It} (hH : Hang its) (ha : ∀ i, altsI its i ≤ 4) (i : Nat) (hi : i < its.length) : szA (bodT its (its.length + 1) i) ≤ 5 * its.length + 5 := by
  have h1 := tot_le hH ha (its.length - i) i (by omega)
  obtain ⟨x, hx⟩ : ∃ x, its[i]? = some x := ⟨_, List.getElem?_eq_getElem hi⟩
  have hxi := hH i x hx
  have h2 : 1 + szA (bodT its (its.length + 1) i) ≤ tot its (its.length + 1) i := by
    unfold tot
    rw [sm_pick _ i _ hi, if_pos ⟨Nat.le_refl _, x, hx, hxi⟩]
    omega
  omega
end Go.Proofs.YtephkdocfhajiaaDoor

