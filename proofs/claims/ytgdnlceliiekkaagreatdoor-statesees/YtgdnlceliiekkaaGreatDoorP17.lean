/- Texts of the seat, packed: Lj Li Lk. -/
import Derived.Test.YtgdnlceliiekkaaGreatDoorP16
import Derived.Great.FillDense
import Derived.Laws.Tables
import Derived.Test.YtgdnlceliiekkaaGreatDoorP15
import Derived.Deep.MidRow
/- A board in memory. -/
namespace Go.Proofs.YtgdnlceliiekkaaGreatDoor.Sa
open Go.RowKit Go.Shelf Go.Proofs.YtgdnlceliiekkaaGreatDoor.Fc Go.Proofs.YtgdnlceliiekkaaGreatDoor.St
set_option maxRecDepth 1000000
set_option linter.unusedVariables false

/-- A part goes in. -/
theorem fill_part {place : Nat → Option (Nat × Nat)} {c : Array Value} {i off : Nat} {v : Value} {rest : List (Nat × Value)} (hp : place i = some (off, v.cells.size)) (hc : off + v.cells.size ≤ c.size) :
    ∃ c' : Array Value, Instr.fill place c ((i, v) :: rest) = Instr.fill place c' rest ∧ c'.size = c.size ∧ ∀ k, c'[k]? = if off ≤ k ∧ k < off + v.cells.size then v.cells[k - off]? else c[k]? := by
  rw [Instr.fill.eq_2, hp]
  simp only [ne_eq, not_true_eq_false, decide_false, Bool.false_or, decide_eq_true_eq]
  rw [if_neg (by omega)]
  refine ⟨_, rfl, ?_⟩
  rw [← Array.foldl_toList, Array.toList_zipIdx]
  obtain ⟨h1, h2⟩ := Great.foldl_set off v.cells.toList 0 c
  refine ⟨h1, fun k => ?_⟩
  have h3 := h2 k
  simp only [Nat.add_zero, Array.length_toList, Array.getElem?_toList] at h3
  rw [show (List.foldl _ c (v.cells.toList.zipIdx 0))[k]? = _ from h3]
  by_cases h : off ≤ k ∧ k < off + v.cells.size
  · rw [if_pos ⟨h.1, h.2, by omega⟩, if_pos h]
  · rw [if_neg (fun h9 => h ⟨h9.1, h9.2.1⟩), if_neg h]

/-- A board's cells. -/
def brdV (n : Int) (S A : Nat → Int) (M : Nat → Nat → Bool) (C : Nat → Bool) (j : Nat) : Value :=
  if j = 0 then .int .i64 n else if j < 65 then .int .i64 (S (j - 1)) else if j < 129 then .int .i64 (A (j - 65)) else if j < 385 then .bool (M ((j - 129) / 4) ((j - 129) % 4)) else .bool (C (j - 385))
def brdL (n : Int) (S A : Nat → Int) (M : Nat → Nat → Bool) (C : Nat → Bool) : List Value := (List.range 449).map (brdV n S A M C)

theorem brdL_len (n : Int) (S A : Nat → Int) (M : Nat → Nat → Bool) (C : Nat → Bool) : (brdL n S A M C).length = 449 := by unfold brdL; rw [List.length_map, List.length_range]
theorem brdL_get {n : Int} {S A : Nat → Int} {M : Nat → Nat → Bool} {C : Nat → Bool} {j : Nat} (hj : j < 449) : (brdL n S A M C)[j]? = some (brdV n S A M C j) := by
  unfold brdL
  rw [List.getElem?_map, List.getElem?_range hj]
  rfl

def putN (S : Nat → Int) (i : Nat) (x : Int) : Nat → Int := fun k => if k = i then x else S k

theorem brdL_setA {n : Int} {S A : Nat → Int} {M : Nat → Nat → Bool} {C : Nat → Bool} {i : Nat} (x : Int) (hi : i < 64) : (brdL n S A M C).set (65 + i) (.int .i64 x) = brdL n S (putN A i x) M C := by
  refine List.ext_getElem? fun j => ?_
  rw [List.getElem?_set]
  by_cases hj : j < 449
  · rw [brdL_get hj, brdL_get hj, brdL_len]
    by_cases h : 65 + i = j
    · subst h
      rw [if_pos rfl, if_pos (by omega)]
      unfold brdV putN
      rw [if_neg (by omega), if_neg (by omega), if_pos (by omega), if_pos (by omega)]
    · rw [if_neg h]
      unfold brdV putN
      congr 1
      split
      · rfl
      · split
        · rfl
        · split
          · rw [if_neg (by omega)]
          · rfl
  · rw [List.getElem?_eq_none (by rw [brdL_len]; omega), List.getElem?_eq_none (by rw [brdL_len]; omega), if_neg (by omega)]

theorem brdL_setS {n : Int} {S A : Nat → Int} {M : Nat → Nat → Bool} {C : Nat → Bool} {i : Nat} (x : Int) (hi : i < 64) : (brdL n S A M C).set (1 + i) (.int .i64 x) = brdL n (putN S i x) A M C := by
  refine List.ext_getElem? fun j => ?_
  rw [List.getElem?_set]
  by_cases hj : j < 449
  · rw [brdL_get hj, brdL_get hj, brdL_len]
    by_cases h : 1 + i = j
    · subst h
      rw [if_pos rfl, if_pos (by omega)]
      unfold brdV putN
      rw [if_neg (by omega), if_pos (by omega), if_pos (by omega)]
    · rw [if_neg h]
      unfold brdV putN
      congr 1
      split
      · rfl
      · split
        · rw [if_neg (by omega)]
        · rfl
  · rw [List.getElem?_eq_none (by rw [brdL_len]; omega), List.getElem?_eq_none (by rw [brdL_len]; omega), if_neg (by omega)]

/-- 64 marks as a value. -/
def mrkL (C : Nat → Bool) : List Value := (List.range 64).map fun i => .bool (C i)

def place55 : Nat → Option (Nat × Nat) := fun i => (#[(0, 1), (1, 64), (65, 64), (129, 256), (385, 64)] : Array (Nat × Nat))[i]?

theorem zero55 : Tryz.zeroCells55 = (brdL 0 (fun _ => 0) (fun _ => 0) (fun _ _ => false) (fun _ => false)).toArray := by kernel_rfl

theorem built55_fill (parts : List (Nat × Value)) : Tryz.prog.built 55 parts = Instr.fill place55 Tryz.zeroCells55 parts := by kernel_rfl

theorem built55 (n : Int) (M : Nat → Nat → Bool) (C : Nat → Bool) : Tryz.prog.built 55 [(0, .int .i64 n), (4, .agg (mrkL C).toArray), (3, .agg (bodL M).toArray)] = some (brdL n (fun _ => 0) (fun _ => 0) M C).toArray := by
  have hm : (mrkL C).length = 64 := by unfold mrkL; rw [List.length_map, List.length_range]
  have h2 : (Value.agg (mrkL C).toArray).cells.size = 64 := by show (mrkL C).toArray.size = 64; rw [List.size_toArray, hm]
  have h3 : (Value.agg (bodL M).toArray).cells.size = 256 := by show (bodL M).toArray.size = 256; rw [List.size_toArray, bodL_len]
  have h1 : (Value.int .i64 n).cells.size = 1 := rfl
  rw [built55_fill, zero55]
  obtain ⟨z, hz⟩ : ∃ z, z = brdL 0 (fun _ => 0) (fun _ => 0) (fun _ _ => false) (fun _ => false) := ⟨_, rfl⟩
  have hzl : z.toArray.size = 449 := by rw [List.size_toArray, hz, brdL_len]
  rw [← hz]
  obtain ⟨c1, e1, s1, g1⟩ := fill_part (place := place55) (c := z.toArray) (i := 0) (off := 0) (v := .int .i64 n) (rest := [(4, .agg (mrkL C).toArray), (3, .agg (bodL M).toArray)]) (by rw [h1]; rfl) (by rw [h1, hzl]; decide)
  obtain ⟨c2, e2, s2, g2⟩ := fill_part (place := place55) (c := c1) (i := 4) (off := 385) (v := .agg (mrkL C).toArray) (rest := [(3, .agg (bodL M).toArray)]) (by rw [h2]; rfl) (by rw [h2, s1, hzl]; decide)
  obtain ⟨c3, e3, s3, g3⟩ := fill_part (place := place55) (c := c2) (i := 3) (off := 129) (v := .agg (bodL M).toArray) (rest := []) (by rw [h3]; rfl) (by rw [h3, s2, s1, hzl]; decide)
  rw [e1, e2, e3, Instr.fill.eq_1]
  refine congrArg some (Array.ext_getElem? fun k => ?_)
  rw [g3, g2, g1, h1, h2, h3, hz]
  show (if 129 ≤ k ∧ k < 129 + 256 then (bodL M).toArray[k - 129]? else if 385 ≤ k ∧ k < 385 + 64 then (mrkL C).toArray[k - 385]? else if 0 ≤ k ∧ k < 0 + 1 then (#[Value.int .i64 n] : Array Value)[k - 0]? else _) = _
  simp only [List.getElem?_toArray]
  by_cases hk : k < 449
  · rw [brdL_get hk, brdL_get hk]
    unfold brdV
    by_cases k1 : 129 ≤ k ∧ k < 129 + 256
    · rw [if_pos k1, if_neg (by omega), if_neg (by omega), if_neg (by omega), if_pos (by omega)]
      unfold bodL
      rw [List.getElem?_map, List.getElem?_range (by omega)]
      rfl
    · rw [if_neg k1]
      by_cases k2 : 385 ≤ k ∧ k < 385 + 64
      · rw [if_pos k2, if_neg (by omega), if_neg (by omega), if_neg (by omega), if_neg (by omega)]
        unfold mrkL
        rw [List.getElem?_map, List.getElem?_range (by omega)]
        rfl
      · rw [if_neg k2]
        by_cases k3 : k = 0
        · subst k3
          rfl
        · rw [if_neg (by omega), if_neg k3, if_neg k3]
          by_cases k4 : k < 65
          · rw [if_pos k4, if_pos k4]
          · rw [if_neg k4, if_neg k4, if_pos (by omega), if_pos (by omega)]
  · rw [if_neg (by omega), if_neg (by omega), if_neg (by omega), List.getElem?_eq_none (by rw [brdL_len]; omega), List.getElem?_eq_none (by rw [brdL_len]; omega)]

theorem built95 (v lv : Value) (hv : v.cells = #[v]) (hl : lv.cells = #[lv]) : Tryz.prog.built 95 [(0, v), (1, lv)] = some (stL v lv fun _ _ => false).toArray := by
  have hz : ∀ parts, Tryz.prog.built 95 parts = Instr.fill (fun i => (#[(0, 1), (1, 1), (2, 64), (66, 64), (130, 64), (194, 64)] : Array (Nat × Nat))[i]?) (stL (.slice none 0 0) (.slice none 0 0) fun _ _ => false).toArray parts := fun parts => by kernel_rfl
  rw [hz]
  have hlen : (stL (.slice none 0 0) (.slice none 0 0) fun _ _ => false).toArray.size = 258 := by rw [List.size_toArray]; simp [stL]
  have h1 : v.cells.size = 1 := by rw [hv]; rfl
  have h2 : lv.cells.size = 1 := by rw [hl]; rfl
  obtain ⟨c1, e1, s1, g1⟩ := fill_part (place := fun i => (#[(0, 1), (1, 1), (2, 64), (66, 64), (130, 64), (194, 64)] : Array (Nat × Nat))[i]?) (c := (stL (.slice none 0 0) (.slice none 0 0) fun _ _ => false).toArray) (i := 0) (off := 0) (v := v) (rest := [(1, lv)]) (by rw [h1]; rfl) (by rw [h1, hlen]; decide)
  obtain ⟨c2, e2, s2, g2⟩ := fill_part (place := fun i => (#[(0, 1), (1, 1), (2, 64), (66, 64), (130, 64), (194, 64)] : Array (Nat × Nat))[i]?) (c := c1) (i := 1) (off := 1) (v := lv) (rest := []) (by rw [h2]; rfl) (by rw [h2, s1, hlen]; decide)
  rw [e1, e2, Instr.fill.eq_1]
  refine congrArg some (Array.ext_getElem? fun k => ?_)
  rw [g2, g1, h1, h2, hv, hl, List.getElem?_toArray, List.getElem?_toArray]
  match k with
  | 0 => rfl
  | 1 => rfl
  | k + 2 =>
    rw [if_neg (by omega), if_neg (by omega)]
    rfl
end Go.Proofs.YtgdnlceliiekkaaGreatDoor.Sa

/- The marks that the program puts down are what holds of the items. -/
namespace Go.Proofs.YtgdnlceliiekkaaGreatDoor.Sa
open Go.Proofs.YtgdnlceliiekkaaGreatDoor.Fc Go.Proofs.YtgdnlceliiekkaaGreatDoor.St
set_option linter.unusedVariables false

theorem clears_allK {p : Pl} {K : Nat → IW} {q : Nat → Bool} {s a : Nat} (h : ∀ j, s < j → j < p.n → q j = (K j).clean) : allK p s a q = clears p K s a := by
  unfold allK clears
  rw [Bool.eq_iff_iff, List.all_eq_true, List.all_eq_true]
  refine forall_congr' fun i => forall_congr' fun hi => ?_
  rw [List.mem_range] at hi
  by_cases hk : kid p s a i = true
  · rw [hk, h i (of_decide_eq_true hk).1 hi]
  · rw [show kid p s a i = false by simpa using hk]
    rfl

theorem falls_allK {p : Pl} {f : Nat → Fa} {K : Nat → IW} {m : Nat → Nat → Bool} {s a : Nat} (hv : ∀ j, j < p.n → p.sub j = false → p.vital j = false) (h : ∀ j, s < j → j < p.n → m 2 j = (K j).spent) : (!allK p s a (okH p f m)) = falls p f K s a := by
  cases hF : falls p f K s a with
  | true =>
    unfold falls at hF
    obtain ⟨i, hi, hx⟩ := List.any_eq_true.1 hF
    rw [List.mem_range] at hi
    rw [Bool.and_eq_true] at hx
    have hk := of_decide_eq_true hx.1
    rw [allK_no hx.1 ?_]
    · rfl
    · unfold okH
      rw [h i hk.1 hi]
      have := hx.2
      rw [Bool.or_eq_true] at this
      rcases this with h1 | h1
      · rw [h1]; rfl
      · rw [Bool.and_eq_true, Bool.and_eq_true] at h1
        rw [h1.1.2, h1.2]
        simp
  | false =>
    unfold falls at hF
    rw [allK_yes fun i h1 h2 hk => ?_]
    · rfl
    · have := List.any_eq_false.1 hF i (List.mem_range.2 h2)
      rw [hk, Bool.true_and] at this
      unfold okH
      rw [h i h1 h2]
      have h9 : (decide ((f i).run = 3) || p.sub i && p.vital i && (K i).spent) = false := by simpa using this
      rw [Bool.or_eq_false_iff] at h9
      rw [h9.1]
      cases hsub : p.sub i with
      | true =>
        have := h9.2
        rw [hsub, Bool.true_and] at this
        rw [this]
        rfl
      | false =>
        rw [hv i h2 hsub]
        rfl

theorem whole_allK {p : Pl} {K : Nat → IW} {m : Nat → Nat → Bool} {s a : Nat} (hs : ∀ j, j < p.n → p.sub j = false → (K j).spent = false) (h2 : ∀ j, s < j → j < p.n → m 2 j = (K j).spent) (h3 : ∀ j, s < j → j < p.n → m 3 j = (K j).done) : allK p s a (okD p m) = whole p K s a := by
  unfold allK whole
  rw [Bool.eq_iff_iff, List.all_eq_true, List.all_eq_true]
  refine forall_congr' fun i => forall_congr' fun hi => ?_
  rw [List.mem_range] at hi
  by_cases hk : kid p s a i = true
  · have hd := of_decide_eq_true hk
    unfold okD
    rw [hk, h2 i hd.1 hi, h3 i hd.1 hi]
    cases hsub : p.sub i with
    | true => simp
    | false => simp [hs i hi hsub]
  · rw [show kid p s a i = false by simpa using hk]
    rfl

theorem touched_allB {p : Pl} (hp : p.Ok) {K : Nat → IW} {m : Nat → Nat → Bool} {s : Nat} (h : ∀ j, s < j → j < p.n → m 0 j = (K j).touched) :
    (!allB (p.alts s) fun a => allK p s a fun i => !m 0 i) = ((List.range p.n).any fun i => decide (s < i ∧ p.inn i = s) && (K i).touched) := by
  cases hF : ((List.range p.n).any fun i => decide (s < i ∧ p.inn i = s) && (K i).touched) with
  | true =>
    obtain ⟨i, hi, hx⟩ := List.any_eq_true.1 hF
    rw [List.mem_range] at hi
    rw [Bool.and_eq_true] at hx
    have hk := of_decide_eq_true hx.1
    have h3 := (hp.inn i (by omega) hi).2.2
    rw [hk.2] at h3
    have hkid : kid p s (p.alt i) i = true := decide_eq_true ⟨hk.1, hi, hk.2, rfl⟩
    rw [allB_no h3 (allK_no hkid (by rw [h i hk.1 hi, hx.2]; rfl))]
    rfl
  | false =>
    rw [allB_yes fun a ha => allK_yes fun i h1 h2 hk => ?_]
    · rfl
    · have := List.any_eq_false.1 hF i (List.mem_range.2 h2)
      have hd := of_decide_eq_true hk
      rw [decide_eq_true ⟨hd.1, hd.2.2.1⟩, Bool.true_and] at this
      rw [h i h1 h2]
      simpa using this

theorem step_spent {p : Pl} {f : Nat → Fa} {j : Nat} (hj : j < p.n) (hs : p.sub j = false) : (W p f j).spent = false := by
  rw [W_eq hj, hs]
  rfl

/-- What is put down of sagas. -/
theorem saga_touched {p : Pl} (hp : p.Ok) {f : Nat → Fa} {m : Nat → Nat → Bool} {s : Nat} (hs : s < p.n) (hsub : p.sub s = true) (h : ∀ j, s < j → j < p.n → m 0 j = (W p f j).touched) : (!allB (p.alts s) fun a => allK p s a fun i => !m 0 i) = (W p f s).touched := by
  rw [W_eq hs, if_pos hsub]
  exact touched_allB hp h
theorem saga_clean {p : Pl} {f : Nat → Fa} {m : Nat → Nat → Bool} {s : Nat} (hs : s < p.n) (hsub : p.sub s = true) (h : ∀ j, s < j → j < p.n → m 1 j = (W p f j).clean) : (allB (p.alts s) fun a => allK p s a (m 1)) = (W p f s).clean := by
  rw [W_eq hs, if_pos hsub]
  show (List.range (p.alts s)).all _ = (List.range (p.alts s)).all _
  congr 1
  funext a
  exact clears_allK h
theorem ovr_eq {p : Pl} {f : Nat → Fa} (hv : ∀ j, j < p.n → p.sub j = false → p.vital j = false) {m : Nat → Nat → Bool} {s : Nat} (h1 : ∀ j, s < j → j < p.n → m 1 j = (W p f j).clean) (h2 : ∀ j, s < j → j < p.n → m 2 j = (W p f j).spent) : (ovr p f m s) = fun a => falls p f (W p f) s a && clears p (W p f) s a := by
  funext a
  unfold ovr
  rw [clears_allK h1, falls_allK hv h2, Bool.and_comm]
theorem saga_spent {p : Pl} {f : Nat → Fa} (hv : ∀ j, j < p.n → p.sub j = false → p.vital j = false) {m : Nat → Nat → Bool} {s : Nat} (hs : s < p.n) (hsub : p.sub s = true) (h1 : ∀ j, s < j → j < p.n → m 1 j = (W p f j).clean) (h2 : ∀ j, s < j → j < p.n → m 2 j = (W p f j).spent) : (allB (p.alts s) fun a => allK p s a (m 1) && !allK p s a (okH p f m)) = (W p f s).spent := by
  rw [W_eq hs, if_pos hsub]
  have := ovr_eq hv h1 h2
  show (List.range (p.alts s)).all (ovr p f m s) = _
  rw [this]
  rfl
theorem saga_at {p : Pl} {f : Nat → Fa} (hv : ∀ j, j < p.n → p.sub j = false → p.vital j = false) {m : Nat → Nat → Bool} {s : Nat} (hs : s < p.n) (hsub : p.sub s = true) (h1 : ∀ j, s < j → j < p.n → m 1 j = (W p f j).clean) (h2 : ∀ j, s < j → j < p.n → m 2 j = (W p f j).spent) : first (ovr p f m s) (p.alts s) (p.alts s) 0 = (W p f s).at_ := by
  rw [W_eq hs, if_pos hsub, ovr_eq hv h1 h2]
  rfl
theorem saga_done {p : Pl} {f : Nat → Fa} (hv : ∀ j, j < p.n → p.sub j = false → p.vital j = false) {m : Nat → Nat → Bool} {s : Nat} (hs : s < p.n) (hsub : p.sub s = true) (h1 : ∀ j, s < j → j < p.n → m 1 j = (W p f j).clean) (h2 : ∀ j, s ≤ j → j < p.n → m 2 j = (W p f j).spent) (h3 : ∀ j, s < j → j < p.n → m 3 j = (W p f j).done) :
    (!m 2 s && allK p s (first (ovr p f m s) (p.alts s) (p.alts s) 0) (okD p m)) = (W p f s).done := by
  rw [saga_at hv hs hsub h1 fun j q1 q2 => h2 j (by omega) q2, h2 s (Nat.le_refl _) hs, whole_allK (fun j hj => step_spent hj) (fun j q1 q2 => h2 j (by omega) q2) h3]
  rw [W_eq hs, if_pos hsub]
  rfl
end Go.Proofs.YtgdnlceliiekkaaGreatDoor.Sa

/- The four marks; what boardOf knows. -/
namespace Go.Proofs.YtgdnlceliiekkaaGreatDoor.Sa
open Go.RowKit Go.Shelf Go.Proofs.YtgdnlceliiekkaaGreatDoor.Fc Go.Proofs.YtgdnlceliiekkaaGreatDoor.St
set_option maxRecDepth 1000000
set_option linter.unusedVariables false

variable {p : Pl} {f : Nat → Fa} {xb xo icap fb fo lcap : Nat} {b : Nat} {m : Nat → Nat → Bool} {w wx : World} {n : Nat}

theorem mark0_any (hB : Bs p f xb xo icap fb fo lcap w) (hn : p.n = n) (hS : Sd w b (.slice (some ⟨xb, xo, none⟩) n icap) (.slice (some ⟨fb, fo, none⟩) n lcap) m wx) :
    Calls Tryz.prog 36 #[.pointer (some ⟨b, 0, none⟩), .pointer (some ⟨b, 2, none⟩), .func (Fn.func 37) #[] #[], .func (Fn.func 38) #[.pointer (some ⟨b, 0, none⟩)] #[]] wx fun e w' => e = .returned (.tuple #[]) ∧ ∃ m', Sd w b (.slice (some ⟨xb, xo, none⟩) n icap) (.slice (some ⟨fb, fo, none⟩) n lcap) m' w' ∧ Agr n 0 (fun i => (W p f i).touched) 0 m m' := by
  refine mark_any hB hn hS 0 2 (by omega) rfl 38 37 (fun i => (W p f i).touched) (fun _ _ => by kernel_rfl) (fun _ _ => by kernel_rfl) (fun wy m' i hS' hA hi hsub => ?_) (fun wy i hi hsub => ?_)
  · have hv : ∀ j, j < p.n → p.sub j = false → p.vital j = false := fun j hj hs => (hB.step j hj hs).2
    have h9 := saga_touched hB.ok (f := f) (m := m') (s := i) (by omega) hsub (fun j h1 h2 => hA.from_ j (by omega) (by omega))
    have h8 := sagaTouched_any hB hn hS' hi
    rw [h9] at h8
    exact h8
  · have he : (W p f i).touched = (stepW (f i)).touched := by rw [W_eq (by omega), hsub]; rfl
    rw [he]
    exact hasBegun_any (f i) wy

theorem mark1_any (hB : Bs p f xb xo icap fb fo lcap w) (hn : p.n = n) (hS : Sd w b (.slice (some ⟨xb, xo, none⟩) n icap) (.slice (some ⟨fb, fo, none⟩) n lcap) m wx) :
    Calls Tryz.prog 36 #[.pointer (some ⟨b, 0, none⟩), .pointer (some ⟨b, 66, none⟩), .func (Fn.func 39) #[] #[], .func (Fn.func 40) #[.pointer (some ⟨b, 0, none⟩)] #[]] wx fun e w' => e = .returned (.tuple #[]) ∧ ∃ m', Sd w b (.slice (some ⟨xb, xo, none⟩) n icap) (.slice (some ⟨fb, fo, none⟩) n lcap) m' w' ∧ Agr n 1 (fun i => (W p f i).clean) 0 m m' := by
  refine mark_any hB hn hS 1 66 (by omega) rfl 40 39 (fun i => (W p f i).clean) (fun _ _ => by kernel_rfl) (fun _ _ => by kernel_rfl) (fun wy m' i hS' hA hi hsub => ?_) (fun wy i hi hsub => ?_)
  · have hv : ∀ j, j < p.n → p.sub j = false → p.vital j = false := fun j hj hs => (hB.step j hj hs).2
    have h9 := saga_clean (f := f) (m := m') (s := i) (by omega) hsub (fun j h1 h2 => hA.from_ j (by omega) (by omega))
    have h8 := sagaClean_any hB hn hS' hi
    rw [h9] at h8
    exact h8
  · have he : (W p f i).clean = (stepW (f i)).clean := by rw [W_eq (by omega), hsub]; rfl
    rw [he]
    exact stepClean_any (f i) wy

theorem mark2_any (hB : Bs p f xb xo icap fb fo lcap w) (hn : p.n = n) (hS : Sd w b (.slice (some ⟨xb, xo, none⟩) n icap) (.slice (some ⟨fb, fo, none⟩) n lcap) m wx) (h1 : ∀ i, i < n → m 1 i = (W p f i).clean) :
    Calls Tryz.prog 36 #[.pointer (some ⟨b, 0, none⟩), .pointer (some ⟨b, 130, none⟩), .func (Fn.func 41) #[] #[], .func (Fn.func 42) #[.pointer (some ⟨b, 0, none⟩)] #[]] wx fun e w' => e = .returned (.tuple #[]) ∧ ∃ m', Sd w b (.slice (some ⟨xb, xo, none⟩) n icap) (.slice (some ⟨fb, fo, none⟩) n lcap) m' w' ∧ Agr n 2 (fun i => (W p f i).spent) 0 m m' := by
  refine mark_any hB hn hS 2 130 (by omega) rfl 42 41 (fun i => (W p f i).spent) (fun _ _ => by kernel_rfl) (fun _ _ => by kernel_rfl) (fun wy m' i hS' hA hi hsub => ?_) (fun wy i hi hsub => ?_)
  · have hv : ∀ j, j < p.n → p.sub j = false → p.vital j = false := fun j hj hs => (hB.step j hj hs).2
    have h9 := saga_spent hv (f := f) (m := m') (s := i) (by omega) hsub (fun j q1 q2 => (hA.rest 1 j (by decide)).trans (h1 j (by omega))) (fun j q1 q2 => hA.from_ j (by omega) (by omega))
    have h8 := sagaSpent_any hB hn hS' hi
    rw [h9] at h8
    exact h8
  · have he : (W p f i).spent = (stepW (f i)).spent := by rw [W_eq (by omega), hsub]; rfl
    rw [he]
    exact never_any (f i) wy

theorem mark3_any (hB : Bs p f xb xo icap fb fo lcap w) (hn : p.n = n) (hS : Sd w b (.slice (some ⟨xb, xo, none⟩) n icap) (.slice (some ⟨fb, fo, none⟩) n lcap) m wx) (h1 : ∀ i, i < n → m 1 i = (W p f i).clean) (h2 : ∀ i, i < n → m 2 i = (W p f i).spent) :
    Calls Tryz.prog 36 #[.pointer (some ⟨b, 0, none⟩), .pointer (some ⟨b, 194, none⟩), .func (Fn.func 43) #[] #[], .func (Fn.func 44) #[.pointer (some ⟨b, 0, none⟩)] #[]] wx fun e w' => e = .returned (.tuple #[]) ∧ ∃ m', Sd w b (.slice (some ⟨xb, xo, none⟩) n icap) (.slice (some ⟨fb, fo, none⟩) n lcap) m' w' ∧ Agr n 3 (fun i => (W p f i).done) 0 m m' := by
  refine mark_any hB hn hS 3 194 (by omega) rfl 44 43 (fun i => (W p f i).done) (fun _ _ => by kernel_rfl) (fun _ _ => by kernel_rfl) (fun wy m' i hS' hA hi hsub => ?_) (fun wy i hi hsub => ?_)
  · have hv : ∀ j, j < p.n → p.sub j = false → p.vital j = false := fun j hj hs => (hB.step j hj hs).2
    have h9 := saga_done hv (f := f) (m := m') (s := i) (by omega) hsub (fun j q1 q2 => (hA.rest 1 j (by decide)).trans (h1 j (by omega))) (fun j q1 q2 => (hA.rest 2 j (by decide)).trans (h2 j (by omega))) (fun j q1 q2 => hA.from_ j (by omega) (by omega))
    have h8 := sagaDone_any hB hn hS' hi (hB.ok.alts i (by omega) hsub)
    rw [h9] at h8
    exact h8
  · have he : (W p f i).done = (stepW (f i)).done := by rw [W_eq (by omega), hsub]; rfl
    rw [he]
    exact stepDone_any (f i) wy

/-- The marks are what holds. -/
structure Mok (p : Pl) (f : Nat → Fa) (n : Nat) (m : Nat → Nat → Bool) : Prop where
  m0 : ∀ i, i < n → m 0 i = (W p f i).touched
  m1 : ∀ i, i < n → m 1 i = (W p f i).clean
  m2 : ∀ i, i < n → m 2 i = (W p f i).spent
  m3 : ∀ i, i < n → m 3 i = (W p f i).done

/-- Whether a body falls, or its saga is halted. -/
def Mf (p : Pl) (f : Nat → Fa) (s a : Nat) : Bool := decide (s < p.n ∧ a < p.alts s) && (halted p f s || F p f s a)
/-- The place of an item's body. -/
def atP (p : Pl) (f : Nat → Fa) (i : Nat) : Int := if p.sub i then ((W p f i).at_ : Int) else -1

theorem fallingM_any (hB : Bs p f xb xo icap fb fo lcap w) (hn : p.n = n) (hS : Sd w b (.slice (some ⟨xb, xo, none⟩) n icap) (.slice (some ⟨fb, fo, none⟩) n lcap) m wx) (hm : Mok p f n m) :
    Calls Tryz.prog 45 #[.pointer (some ⟨b, 0, none⟩)] wx fun e w' => e = .returned (.agg (bodL (Mf p f)).toArray) ∧ Below wx.heap.size wx w' := by
  have hv : ∀ j, j < p.n → p.sub j = false → p.vital j = false := fun j hj hs => (hB.step j hj hs).2
  have hF : ∀ s a, (!allK p s a (okH p f m)) = F p f s a := fun s a => falls_allK hv fun j _ h2 => hm.m2 j (by omega)
  have h := falling_any hB hn hS (halted p f) (halted_root p f) (fun s h1 h2 => by rw [hF, halted_eq hB.ok f h1 (by omega), Bool.or_comm])
  have he : tgt p f m (halted p f) = Mf p f := by
    funext s a
    unfold tgt Mf
    rw [hF]
  rw [he] at h
  exact h

theorem bodyM_any (hB : Bs p f xb xo icap fb fo lcap w) (hn : p.n = n) (hS : Sd w b (.slice (some ⟨xb, xo, none⟩) n icap) (.slice (some ⟨fb, fo, none⟩) n lcap) m wx) (hm : Mok p f n m) {s : Nat} (hs : s < n) (hsub : p.sub s = true) :
    Calls Tryz.prog 47 #[.pointer (some ⟨b, 0, none⟩), .int .i64 (s : Int)] wx fun e w' => e = .returned (.int .i64 (atP p f s)) ∧ Below wx.heap.size wx w' := by
  have hv : ∀ j, j < p.n → p.sub j = false → p.vital j = false := fun j hj hs => (hB.step j hj hs).2
  have h := body_any hB hn hS hs (hB.ok.alts s (by omega) hsub)
  have he : ((first (ovr p f m s) (p.alts s) (p.alts s) 0 : Nat) : Int) = atP p f s := by
    unfold atP
    rw [if_pos hsub, saga_at hv (by omega) hsub (fun j _ h2 => hm.m1 j (by omega)) (fun j _ h2 => hm.m2 j (by omega))]
  rw [he] at h
  exact h

theorem sagaStatusM_any (hle : n ≤ 64) {v lv : Value} (hS : Sd w b v lv m wx) (hm : Mok p f n m) {s : Nat} (hs : s < n) (hsub : p.sub s = true) :
    Calls Tryz.prog 48 #[.pointer (some ⟨b, 0, none⟩), .int .i64 (s : Int), .bool (halted p f s)] wx fun e w' => e = .returned (.int .i64 (St.S p f s)) ∧ Below wx.heap.size wx w' := by
  have h := sagaStatus_any hS (s := s) (by omega) (halted p f s)
  have he : sagaS (iwM m s) (halted p f s) = St.S p f s := by
    unfold St.S
    rw [if_pos hsub]
    unfold sagaS iwM
    rw [hm.m0 s hs, hm.m1 s hs, hm.m2 s hs, hm.m3 s hs]
  rw [he] at h
  exact h

theorem halt_at {p : Pl} (hp : p.Ok) {f : Nat → Fa} {s : Nat} (h1 : 1 ≤ s) (h2 : s < p.n) : Mf p f (p.inn s) (p.alt s) = halted p f s := by
  have h3 := hp.inn s h1 h2
  unfold Mf
  rw [decide_eq_true ⟨by omega, h3.2.2⟩, Bool.true_and, halted_eq hp f h1 h2, Bool.or_comm]

/-- What boardOf knows between two rounds. -/
structure Bl (w : World) (b d : Nat) (v lv : Value) (m : Nat → Nat → Bool) (n : Int) (S A : Nat → Int) (M : Nat → Nat → Bool) (C : Nat → Bool) (W : World) : Prop where
  sd : Sd w b v lv m W
  low : w.heap.size ≤ d
  ne : b ≠ d
  bd : W.heap[d]? = some (.cells (brdL n S A M C).toArray 55 (0, 0))

theorem Bl.later {w : World} {b d : Nat} {v lv : Value} {m : Nat → Nat → Bool} {n : Int} {S A : Nat → Int} {M : Nat → Nat → Bool} {C : Nat → Bool} {W W' : World} (h : Bl w b d v lv m n S A M C W) (hb : Below W.heap.size W W') : Bl w b d v lv m n S A M C W' :=
  ⟨h.sd.later hb, h.low, h.ne, (hb.block _ (Array.getElem?_eq_some_iff.1 h.bd).1).trans h.bd⟩

theorem Bl.putA {w : World} {b d : Nat} {v lv : Value} {m : Nat → Nat → Bool} {n : Int} {S A : Nat → Int} {M : Nat → Nat → Bool} {C : Nat → Bool} {W : World} (h : Bl w b d v lv m n S A M C W) {i : Nat} (x : Int) (hi : i < 64) : Bl w b d v lv m n S (putN A i x) M C (W.setCell ⟨d, 65 + i, none⟩ (.int .i64 x)) := by
  refine ⟨⟨h.sd.bel.setCell h.low _, h.sd.low, Dg.row_other h.sd.sb _ h.ne⟩, h.low, h.ne, ?_⟩
  rw [Dg.row_set h.bd, List.setIfInBounds_toArray, brdL_setA x hi]

theorem Bl.putS {w : World} {b d : Nat} {v lv : Value} {m : Nat → Nat → Bool} {n : Int} {S A : Nat → Int} {M : Nat → Nat → Bool} {C : Nat → Bool} {W : World} (h : Bl w b d v lv m n S A M C W) {i : Nat} (x : Int) (hi : i < 64) : Bl w b d v lv m n (putN S i x) A M C (W.setCell ⟨d, 1 + i, none⟩ (.int .i64 x)) := by
  refine ⟨⟨h.sd.bel.setCell h.low _, h.sd.low, Dg.row_other h.sd.sb _ h.ne⟩, h.low, h.ne, ?_⟩
  rw [Dg.row_set h.bd, List.setIfInBounds_toArray, brdL_setS x hi]

theorem brd_cellA {W : World} {d : Nat} {n : Int} {S A : Nat → Int} {M : Nat → Nat → Bool} {C : Nat → Bool} (h : W.heap[d]? = some (.cells (brdL n S A M C).toArray 55 (0, 0))) {i : Nat} (hi : i < 64) : W.cell? ⟨d, 65 + i, none⟩ = some (.int .i64 (A i)) := by
  rw [Dg.cell_row h, List.getElem?_toArray, brdL_get (by omega)]
  unfold brdV
  rw [if_neg (by omega), if_neg (by omega), if_pos (by omega), show 65 + i - 65 = i by omega]
theorem brd_cellS {W : World} {d : Nat} {n : Int} {S A : Nat → Int} {M : Nat → Nat → Bool} {C : Nat → Bool} (h : W.heap[d]? = some (.cells (brdL n S A M C).toArray 55 (0, 0))) {i : Nat} (hi : i < 64) : W.cell? ⟨d, 1 + i, none⟩ = some (.int .i64 (S i)) := by
  rw [Dg.cell_row h, List.getElem?_toArray, brdL_get (by omega)]
  unfold brdV
  rw [if_neg (by omega), if_pos (by omega), show 1 + i - 1 = i by omega]
theorem brd_cellM {W : World} {d : Nat} {n : Int} {S A : Nat → Int} {M : Nat → Nat → Bool} {C : Nat → Bool} (h : W.heap[d]? = some (.cells (brdL n S A M C).toArray 55 (0, 0))) {s a : Nat} (hs : s < 64) (ha : a < 4) : W.cell? ⟨d, 129 + s * 4 + a, none⟩ = some (.bool (M s a)) := by
  rw [Dg.cell_row h, List.getElem?_toArray, brdL_get (by omega)]
  unfold brdV
  rw [if_neg (by omega), if_neg (by omega), if_neg (by omega), if_pos (by omega), show (129 + s * 4 + a - 129) / 4 = s by omega, show (129 + s * 4 + a - 129) % 4 = a by omega]
theorem brd_cellC {W : World} {d : Nat} {n : Int} {S A : Nat → Int} {M : Nat → Nat → Bool} {C : Nat → Bool} (h : W.heap[d]? = some (.cells (brdL n S A M C).toArray 55 (0, 0))) {i : Nat} (hi : i < 64) : W.cell? ⟨d, 385 + i, none⟩ = some (.bool (C i)) := by
  rw [Dg.cell_row h, List.getElem?_toArray, brdL_get (by omega)]
  unfold brdV
  rw [if_neg (by omega), if_neg (by omega), if_neg (by omega), if_neg (by omega), show 385 + i - 385 = i by omega]
theorem brd_cell0 {W : World} {d : Nat} {n : Int} {S A : Nat → Int} {M : Nat → Nat → Bool} {C : Nat → Bool} (h : W.heap[d]? = some (.cells (brdL n S A M C).toArray 55 (0, 0))) : W.cell? ⟨d, 0, none⟩ = some (.int .i64 n) := by
  rw [Dg.cell_row h, List.getElem?_toArray, brdL_get (by omega)]
  rfl

/-- And with this round's item. -/
structure Bx (w : World) (b d x : Nat) (v lv : Value) (m : Nat → Nat → Bool) (n : Int) (S A : Nat → Int) (M : Nat → Nat → Bool) (C : Nat → Bool) (X : Array Value) (W : World) : Prop where
  bl : Bl w b d v lv m n S A M C W
  nx : x ≠ d
  row : W.heap[x]? = some (.cells X 37 (0, 0))

theorem Bx.later {w : World} {b d x : Nat} {v lv : Value} {m : Nat → Nat → Bool} {n : Int} {S A : Nat → Int} {M : Nat → Nat → Bool} {C : Nat → Bool} {X : Array Value} {W W' : World} (h : Bx w b d x v lv m n S A M C X W) (hb : Below W.heap.size W W') : Bx w b d x v lv m n S A M C X W' :=
  ⟨h.bl.later hb, h.nx, (hb.block _ (Array.getElem?_eq_some_iff.1 h.row).1).trans h.row⟩
theorem Bx.putA {w : World} {b d x : Nat} {v lv : Value} {m : Nat → Nat → Bool} {n : Int} {S A : Nat → Int} {M : Nat → Nat → Bool} {C : Nat → Bool} {X : Array Value} {W : World} (h : Bx w b d x v lv m n S A M C X W) {i : Nat} (y : Int) (hi : i < 64) : Bx w b d x v lv m n S (putN A i y) M C X (W.setCell ⟨d, 65 + i, none⟩ (.int .i64 y)) :=
  ⟨h.bl.putA y hi, h.nx, Dg.row_other h.row _ h.nx⟩
theorem Bx.putS {w : World} {b d x : Nat} {v lv : Value} {m : Nat → Nat → Bool} {n : Int} {S A : Nat → Int} {M : Nat → Nat → Bool} {C : Nat → Bool} {X : Array Value} {W : World} (h : Bx w b d x v lv m n S A M C X W) {i : Nat} (y : Int) (hi : i < 64) : Bx w b d x v lv m n (putN S i y) A M C X (W.setCell ⟨d, 1 + i, none⟩ (.int .i64 y)) :=
  ⟨h.bl.putS y hi, h.nx, Dg.row_other h.row _ h.nx⟩

/-- How far boardOf is. -/
structure Upk (p : Pl) (f : Nat → Fa) (k : Nat) (S A : Nat → Int) : Prop where
  s : ∀ i, i < k → S i = St.S p f i
  a : ∀ i, i < k → A i = atP p f i

theorem Upk.next {p : Pl} {f : Nat → Fa} {k : Nat} {S A : Nat → Int} (h : Upk p f k S A) {x y : Int} (hx : x = St.S p f k) (hy : y = atP p f k) : Upk p f (k + 1) (putN S k x) (putN A k y) := by
  subst hx hy
  refine ⟨fun i hi => ?_, fun i hi => ?_⟩
  · unfold putN
    by_cases hk : i = k
    · subst hk; rw [if_pos rfl]
    · rw [if_neg hk]; exact h.s i (by omega)
  · unfold putN
    by_cases hk : i = k
    · subst hk; rw [if_pos rfl]
    · rw [if_neg hk]; exact h.a i (by omega)

theorem size53 : (Tryz.prog.info? 53).map (·.size) = some 64 := by kernel_rfl

/-- The marks of a kind, as a value. -/
theorem load53 {W : World} {v lv : Value} (h : Sd w b v lv m W) {o : Oper} {a : Act} {x : Operand} (ho : o.op = .load 53 x) (hx : a.eval x = .pointer (some ⟨b, 66, none⟩)) : (execOp a.eval o).run Tryz.prog W = .ok (.value (.agg (mrkL (m 1)).toArray)) W := by
  have hc : W.rangeAt b 66 (mrkL (m 1)) := fun j u hu => by
    unfold mrkL at hu
    rw [List.getElem?_map] at hu
    by_cases hj : j < 64
    · rw [List.getElem?_range hj] at hu
      cases hu
      exact h.m1 hj
    · rw [List.getElem?_eq_none (by simp; omega)] at hu
      cases hu
  have hl : (mrkL (m 1)).length = 64 := by unfold mrkL; rw [List.length_map, List.length_range]
  unfold execOp
  simp only [ho, hx, Instr.loadAt, Instr.sureAddr, Sem.run_bind, Sem.run_pure, Result.andThen_ok, run_loadVar_mid W b 66 53 (mrkL (m 1)) _ hc Tryz.underlying53 rfl (by rw [size53, hl])]

theorem build55_run {W : World} {o : Oper} {a : Act} {x y z : Operand} {k : Int} {M : Nat → Nat → Bool} {C : Nat → Bool} (ho : o.op = .build 55 #[(0, x), (4, y), (3, z)]) (hx : a.eval x = .int .i64 k) (hy : a.eval y = .agg (mrkL C).toArray) (hz : a.eval z = .agg (bodL M).toArray) :
    (execOp a.eval o).run Tryz.prog W = .ok (.value (.agg (brdL k (fun _ => 0) (fun _ => 0) M C).toArray)) W := by
  have h := run_build (P := Tryz.prog) W 55 #[(0, .int .i64 k), (4, .agg (mrkL C).toArray), (3, .agg (bodL M).toArray)] _ (built55 k M C)
  unfold execOp
  have he : ((#[(0, x), (4, y), (3, z)] : Array (Nat × Operand)).map fun (q : Nat × Operand) => (q.1, a.eval q.2)) = #[(0, .int .i64 k), (4, .agg (mrkL C).toArray), (3, .agg (bodL M).toArray)] := by
    simp [hx, hy, hz]
  simp only [ho]
  rw [he, Sem.run_bind, h]
  rfl

theorem box55_run {W : World} {o : Oper} {a : Act} {x : Operand} {C : Array Value} (ho : o.op = .box 55 x) (hx : a.eval x = .agg C) :
    (execOp a.eval o).run Tryz.prog W = .ok (.value (.pointer (some ⟨W.heap.size, 0, none⟩))) (W.alloc (.cells C 55)) := by
  unfold execOp
  simp only [ho, hx, Sem.run_bind, Instr.box, newVar, newRow, run_newObj_alloc, Sem.run_pure, Result.andThen_ok]
  rfl

theorem zero95 (v lv : Value) : (Tryz.zeroCells95.setIfInBounds 0 v).setIfInBounds 1 lv = (stL v lv fun _ _ => false).toArray := by
  have h : Tryz.zeroCells95 = (stL (.slice none 0 0) (.slice none 0 0) fun _ _ => false).toArray := by kernel_rfl
  rw [h]
  rfl
end Go.Proofs.YtgdnlceliiekkaaGreatDoor.Sa

