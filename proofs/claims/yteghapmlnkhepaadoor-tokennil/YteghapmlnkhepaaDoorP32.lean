/- Texts of the seat, packed: Kyt Yr Ca Cb. -/
import Derived.Test.YteghapmlnkhepaaDoorP31
import Derived.Test.YteghapmlnkhepaaDoorP21
/- The plain side of layer 17: tokens of bodies, what is off. It names no number of a program. -/
namespace Go.Proofs.YteghapmlnkhepaaDoor.Tk
open Go.Proofs.YteghapmlnkhepaaDoor.St
set_option linter.unusedVariables false

/-- How many bodies stand ahead of an item's. -/
def base (p : Pl) : Nat → Nat
  | 0 => 0
  | s + 1 => base p s + p.alts s
/-- The token of a body. -/
def tk (p : Pl) (s a : Nat) : Nat := base p s + a + 1

theorem base_mono (p : Pl) : ∀ {s t : Nat}, s ≤ t → base p s ≤ base p t
  | s, 0, h => by
    obtain rfl : s = 0 := by omega
    exact Nat.le_refl _
  | s, t + 1, h => by
    by_cases e : s = t + 1
    · subst e; exact Nat.le_refl _
    · have := base_mono p (show s ≤ t by omega)
      show base p s ≤ base p t + p.alts t
      omega

theorem tk_inj {p : Pl} {s t a b : Nat} (ha : a < p.alts s) (hb : b < p.alts t) (h : tk p s a = tk p t b) : s = t ∧ a = b := by
  unfold tk at h
  have key : ∀ {s t a b : Nat}, a < p.alts s → s < t → base p s + a + 1 < base p t + b + 1 := fun {s t a b} ha hst => by
    have h1 := base_mono p (show s + 1 ≤ t from hst)
    have h2 : base p (s + 1) = base p s + p.alts s := rfl
    omega
  rcases Nat.lt_trichotomy s t with h1 | h1 | h1
  · have := key (b := b) ha h1; omega
  · subst h1; exact ⟨rfl, by omega⟩
  · have := key (b := a) hb h1; omega

theorem tk_range {p : Pl} {s a n : Nat} (hs : s < n) (ha : a < p.alts s) : 1 ≤ tk p s a ∧ tk p s a ≤ base p n := by
  have h1 := base_mono p (show s + 1 ≤ n from hs)
  have h2 : base p (s + 1) = base p s + p.alts s := rfl
  unfold tk
  omega

theorem tk_sur {p : Pl} : ∀ {n x : Nat}, 1 ≤ x → x ≤ base p n → ∃ s a, s < n ∧ a < p.alts s ∧ tk p s a = x
  | 0, x, h1, h2 => by have : base p 0 = 0 := rfl; omega
  | n + 1, x, h1, h2 => by
    have h3 : base p (n + 1) = base p n + p.alts n := rfl
    by_cases h : x ≤ base p n
    · obtain ⟨s, a, q1, q2, q3⟩ := tk_sur h1 h
      exact ⟨s, a, by omega, q2, q3⟩
    · exact ⟨n, x - base p n - 1, by omega, by omega, by unfold tk; omega⟩

/-- A body's token is off, with so much fuel. -/
def offK (p : Pl) (C : Nat → Bool) : Nat → Nat → Nat → Bool
  | 0, _, _ => false
  | d + 1, s, a => C (tk p s a) || (decide (1 ≤ s) && offK p C d (p.inn s) (p.alt s))

theorem offK_same {p : Pl} (hp : p.Ok) (C : Nat → Bool) : ∀ (d d' s a : Nat), s < p.n → s < d → s < d' → offK p C d s a = offK p C d' s a
  | 0, d', s, a, _, h, _ => by omega
  | d + 1, 0, s, a, _, _, h => by omega
  | d + 1, d' + 1, s, a, hs, h1, h2 => by
    rw [offK, offK]
    by_cases h0 : 1 ≤ s
    · have := (hp.inn s h0 hs).1
      rw [offK_same hp C d d' (p.inn s) (p.alt s) (by omega) (by omega) (by omega)]
    · rw [decide_eq_false h0]
      rfl

/-- A body's token is off, where those are called off. -/
def off (p : Pl) (C : Nat → Bool) (s a : Nat) : Bool := offK p C (s + 1) s a

theorem off_eq {p : Pl} (hp : p.Ok) (C : Nat → Bool) {s : Nat} (hs : s < p.n) (a : Nat) : off p C s a = (C (tk p s a) || (decide (1 ≤ s) && off p C (p.inn s) (p.alt s))) := by
  unfold off
  rw [offK]
  by_cases h0 : 1 ≤ s
  · have := (hp.inn s h0 hs).1
    rw [offK_same hp C s (p.inn s + 1) (p.inn s) (p.alt s) (by omega) (by omega) (by omega)]
  · rw [decide_eq_false h0]
    rfl

/-- One more is called off. -/
def put (C : Nat → Bool) (k : Nat) : Nat → Bool := fun x => C x || x == k

/-- Does a token stand in another one, or is it that? -/
def inK (p : Pl) (k s a : Nat) : Bool := off p (fun x => x == k) s a

theorem off_put {p : Pl} (hp : p.Ok) (C : Nat → Bool) (k : Nat) : ∀ (s a : Nat), s < p.n → off p (put C k) s a = (off p C s a || inK p k s a) := by
  intro s
  induction s using Nat.strongRecOn with
  | _ s ih =>
    intro a hs
    unfold inK
    rw [off_eq hp _ hs, off_eq hp C hs, off_eq hp (fun x => x == k) hs]
    by_cases h0 : 1 ≤ s
    · have h1 := (hp.inn s h0 hs).1
      rw [ih (p.inn s) h1 (p.alt s) (by omega)]
      unfold inK put
      generalize C (tk p s a) = c1
      generalize (tk p s a == k) = c2
      generalize off p C (p.inn s) (p.alt s) = c3
      generalize off p (fun x => x == k) (p.inn s) (p.alt s) = c4
      generalize decide (1 ≤ s) = c5
      revert c1 c2 c3 c4 c5
      decide
    · rw [decide_eq_false h0]
      unfold put
      simp

theorem off_congr {p : Pl} (hp : p.Ok) {C D : Nat → Bool} (h : ∀ x, 1 ≤ x → x ≤ base p p.n → C x = D x) : ∀ (s a : Nat), s < p.n → a < p.alts s → off p C s a = off p D s a := by
  intro s
  induction s using Nat.strongRecOn with
  | _ s ih =>
    intro a hs ha
    obtain ⟨q1, q2⟩ := tk_range hs ha
    rw [off_eq hp C hs, off_eq hp D hs, h _ q1 q2]
    by_cases h0 : 1 ≤ s
    · obtain ⟨h1, h2, h3⟩ := hp.inn s h0 hs
      rw [ih (p.inn s) h1 (p.alt s) (by omega) h3]
    · rw [decide_eq_false h0]
      rfl

/-- All bodies, by their tokens rising. -/
def toks (p : Pl) : List (Nat × Nat) := (List.range p.n).flatMap fun s => (List.range (p.alts s)).map fun a => (s, a)

theorem mem_toks {p : Pl} {s a : Nat} : (s, a) ∈ toks p ↔ s < p.n ∧ a < p.alts s := by
  unfold toks
  rw [List.mem_flatMap]
  constructor
  · rintro ⟨t, ht, h⟩
    obtain ⟨b, hb, e⟩ := List.mem_map.1 h
    cases e
    exact ⟨List.mem_range.1 ht, List.mem_range.1 hb⟩
  · rintro ⟨h1, h2⟩
    exact ⟨s, List.mem_range.2 h1, List.mem_map.2 ⟨a, List.mem_range.2 h2, rfl⟩⟩

/-- The tokens that are not off. -/
def live (p : Pl) (C : Nat → Bool) : List Nat := ((toks p).filter fun x => !off p C x.1 x.2).map fun x => tk p x.1 x.2

theorem live_iff {p : Pl} {C : Nat → Bool} {s a : Nat} (hs : s < p.n) (ha : a < p.alts s) : tk p s a ∈ live p C ↔ off p C s a = false := by
  unfold live
  rw [List.mem_map]
  constructor
  · rintro ⟨⟨t, b⟩, hm, he⟩
    obtain ⟨h1, h2⟩ := List.mem_filter.1 hm
    obtain ⟨h3, h4⟩ := mem_toks.1 h1
    obtain ⟨rfl, rfl⟩ := tk_inj h4 ha he
    simpa using h2
  · intro h
    exact ⟨(s, a), List.mem_filter.2 ⟨mem_toks.2 ⟨hs, ha⟩, by simp [h]⟩, rfl⟩

/-- TokenDown: called off, a token takes all within, and no other one. -/
theorem token_down {p : Pl} (hp : p.Ok) (C : Nat → Bool) (k : Nat) {s a : Nat} (hs : s < p.n) (ha : a < p.alts s) : tk p s a ∈ live p (put C k) ↔ tk p s a ∈ live p C ∧ inK p k s a = false := by
  rw [live_iff hs ha, live_iff hs ha, off_put hp C k s a hs, Bool.or_eq_false_iff]

theorem inK_eq {p : Pl} (hp : p.Ok) (k : Nat) {s : Nat} (hs : s < p.n) (a : Nat) : inK p k s a = ((tk p s a == k) || (decide (1 ≤ s) && inK p k (p.inn s) (p.alt s))) := off_eq hp _ hs a

theorem off_self {p : Pl} (hp : p.Ok) (C : Nat → Bool) {s a : Nat} (hs : s < p.n) : off p (put C (tk p s a)) s a = true := by
  rw [off_eq hp _ hs]
  simp [put]

/-- How many more are off then. -/
theorem token_count {p : Pl} (hp : p.Ok) (C : Nat → Bool) (k : Nat) : (live p C).length = (live p (put C k)).length + ((toks p).filter fun x => !off p C x.1 x.2 && off p (put C k) x.1 x.2).length := by
  unfold live
  rw [List.length_map, List.length_map]
  have key : ∀ l : List (Nat × Nat), (∀ x ∈ l, x.1 < p.n) → (l.filter fun x => !off p C x.1 x.2).length = (l.filter fun x => !off p (put C k) x.1 x.2).length + (l.filter fun x => !off p C x.1 x.2 && off p (put C k) x.1 x.2).length := fun l => by
    induction l with
    | nil => intro _; rfl
    | cons x l ih =>
      intro hl
      have ih := ih fun y hy => hl y (by simp [hy])
      have hx := off_put hp C k x.1 x.2 (hl x (by simp))
      simp only [List.filter_cons]
      cases hP : off p C x.1 x.2 with
      | true =>
        rw [hP, Bool.true_or] at hx
        simp [hx, ih]
      | false =>
        cases hQ : off p (put C k) x.1 x.2 with
        | true => simp [ih]; omega
        | false => simp [ih]; omega
  exact key _ fun x hx => (mem_toks.1 (show (x.1, x.2) ∈ toks p from hx)).1

/-- TokenOnce: the same are off, in whatever order; called off again none more. -/
theorem token_once {p : Pl} (hp : p.Ok) {C D : Nat → Bool} (h : ∀ x, 1 ≤ x → x ≤ base p p.n → C x = D x) : live p C = live p D := by
  unfold live
  congr 1
  refine List.filter_congr fun x hx => ?_
  obtain ⟨h1, h2⟩ := mem_toks.1 (show (x.1, x.2) ∈ toks p from hx)
  rw [off_congr hp h x.1 x.2 h1 h2]

theorem put_put (C : Nat → Bool) (k : Nat) : put (put C k) k = put C k := by
  funext x
  unfold put
  rw [Bool.or_assoc, Bool.or_self]
end Go.Proofs.YteghapmlnkhepaaDoor.Tk

/- The program's Collect and Kids. -/
namespace Go.Proofs.YteghapmlnkhepaaDoor

open Go.RowKit Go.Shelf Go.Proofs.YteghapmlnkhepaaDoor.Sx

theorem Kids_no (a : Option Addr) (i alt : Int) (w : World) (h : Calls Tryd.prog 41 #[.pointer a, .int .i64 i] w fun e w' => e = .returned (.bool false) ∧ w' = w) : Calls Tryd.prog 22 #[.pointer a, .int .i64 i, .int .i64 alt] w fun e w' => e = .returned (.slice none 0 0) ∧ w' = w := by
  have H : Hid _ := h
  clear h
  go_enter Tryd.func22, Tryd.ntmps22
  go_wp2_with fail
  refine Calls.mono H.out ?_
  rintro e w1 ⟨rfl, rfl⟩
  go_wp2_with fail
  go_ret
  exact ⟨rfl, rfl⟩

theorem RdZ_nil (w : World) : RdZ w (.slice none 0 0) [] := ⟨none, 0, rfl, Nat.le_refl _, fun i x hi => by simp at hi⟩

theorem kidsF_len (inn alt : Int) : ∀ (l : List It) (i : Nat), (kidsF inn alt i l).length ≤ l.length
  | [], _ => Nat.le_refl _
  | x :: r, i => by
    have := kidsF_len inn alt r (i + 1)
    rw [kidsF]
    split <;> simp only [List.length_cons] <;> omega

/-- The items that stand in a spot, or none where there is no such item. -/
def kidsL (its : List It) (inn alt : Int) : List Nat := if 0 ≤ inn ∧ inn < (its.length : Int) then kidsF inn alt 0 its else []

theorem collect_seq (w0 : World) (b : Nat) (its : List It) (ov : List (List Nat)) (inn alt : Int) (h : VwAt w0 b its ov) (hn : its.length ≤ 100000) :
    Calls Tryd.prog 55 #[.slice none 0 0, .func (Fn.func 56) #[] #[.pointer (some ⟨w0.heap.size, 0, none⟩), .pointer (some ⟨w0.heap.size + 1, 0, none⟩)]] ((w0.alloc (.cells #[.pointer (some ⟨b, 0, none⟩)] 52)).alloc (.cells #[.int .i64 inn, .int .i64 alt] 73)) fun e w' => Below w0.heap.size w0 w' ∧ ∃ u, e = .returned u ∧ RdZ w' u ((kidsF inn alt 0 its).map fun (x : Nat) => (x : Int)) ∧ ∀ g, u.ownBlock = some g → w0.heap.size ≤ g ∧ g < w'.heap.size := by
  obtain ⟨sv, ovv, h0, h1, h2, h3, h4⟩ := h
  have hl := kidsF_len inn alt its 0
  have q0 := Dg.row_new w0 #[.pointer (some ⟨b, 0, none⟩)] 52
  have q1 := Dg.row_alloc q0 (.cells #[.int .i64 inn, .int .i64 alt] 73)
  have q2 := Dg.row_new (w0.alloc (.cells #[.pointer (some ⟨b, 0, none⟩)] 52)) #[.int .i64 inn, .int .i64 alt] 73
  rw [World.size_alloc] at q2
  have hbel : Below w0.heap.size w0 ((w0.alloc (.cells #[.pointer (some ⟨b, 0, none⟩)] 52)).alloc (.cells #[.int .i64 inn, .int .i64 alt] 73)) := ((Below.refl _ w0).alloc (Nat.le_refl _) _).alloc (by simp) _
  have hsz : ((w0.alloc (.cells #[.pointer (some ⟨b, 0, none⟩)] 52)).alloc (.cells #[.int .i64 inn, .int .i64 alt] 73)).heap.size = w0.heap.size + 2 := by simp
  generalize (w0.alloc (.cells #[.pointer (some ⟨b, 0, none⟩)] 52)).alloc (.cells #[.int .i64 inn, .int .i64 alt] 73) = w at *
  have hLo : Lo w0 w (fun k => k = w0.heap.size ∨ k = w0.heap.size + 1) := ⟨hbel, fun k hk => by omega, fun k hk => by omega⟩
  have hb2 : Below w0.heap.size w0 (w.alloc (.cells #[.slice none 0 0] 25)) := hbel.alloc hbel.size _
  have hit := within_itr w0 b its sv inn alt (w.alloc (.cells #[.slice none 0 0] 25)) w0.heap.size (w0.heap.size + 1) (fun k => k = w0.heap.size ∨ k = w0.heap.size + 1) _ rfl h0 h2 (by omega) (fun k hk => hb2.block k hk) hb2.size (Dg.row_alloc q1 _) (Dg.row_alloc q2 _) (.inl rfl) (.inr rfl) (fun k hk => by rw [World.size_alloc]; omega)
  refine Calls.mono (callsIn_wide.1 (AppendSeq_in w0 w _ _ _ (by omega) hLo hit)) ?_
  rintro e w' ⟨hb, u, rfl, ho⟩
  exact ⟨hb, u, rfl, RdZ.of_own ho, fun g hg => by have := own_exists ho g hg; omega⟩

set_option maxRecDepth 1000000 in
theorem Collect_any (w0 : World) (b : Nat) (its : List It) (ov : List (List Nat)) (inn alt : Int) (h : VwAt w0 b its ov) (hn : its.length ≤ 100000) :
    Calls Tryd.prog 42 #[.func (Fn.func 56) #[] #[.pointer (some ⟨w0.heap.size, 0, none⟩), .pointer (some ⟨w0.heap.size + 1, 0, none⟩)]] ((w0.alloc (.cells #[.pointer (some ⟨b, 0, none⟩)] 52)).alloc (.cells #[.int .i64 inn, .int .i64 alt] 73)) fun e w' => Below w0.heap.size w0 w' ∧ ∃ u, e = .returned u ∧ RdZ w' u ((kidsF inn alt 0 its).map fun (x : Nat) => (x : Int)) ∧ ∀ g, u.ownBlock = some g → w0.heap.size ≤ g ∧ g < w'.heap.size := by
  have H : Hid _ := collect_seq w0 b its ov inn alt h hn
  clear h
  go_enter Tryd.func42, Tryd.ntmps42
  go_wp2_with fail
  refine Calls.mono H.out ?_
  rintro e w1 ⟨hb, u, rfl, hu, hg⟩
  go_wp2_with fail
  go_ret
  exact ⟨hb, _, rfl, hu, hg⟩

set_option maxRecDepth 1000000 in
/-- Kids, of any numbers. -/
theorem Kids_all (b : Nat) (inn alt : Int) (its : List It) (ov : List (List Nat)) (w : World) (h : VwAt w b its ov) (hn : its.length ≤ 100000) :
    Calls Tryd.prog 22 #[.pointer (some ⟨b, 0, none⟩), .int .i64 inn, .int .i64 alt] w fun e w' => Below w.heap.size w w' ∧ ∃ u, e = .returned u ∧ RdZ w' u ((kidsL its inn alt).map fun (x : Nat) => (x : Int)) ∧ ∀ g, u.ownBlock = some g → w.heap.size ≤ g ∧ g < w'.heap.size := by
  have h8 := h.has inn
  by_cases hi : 0 ≤ inn ∧ inn < (its.length : Int)
  · rw [decide_eq_true hi] at h8
    have H1 : Hid _ := h8
    have H2 : Hid _ := Collect_any w b its ov inn alt h hn
    unfold kidsL
    rw [if_pos hi]
    clear h8 h
    go_enter Tryd.func22, Tryd.ntmps22
    go_wp2_with fail
    refine Calls.mono H1.out ?_
    rintro e w1 ⟨rfl, rfl⟩
    go_wp2_with fail
    refine Calls.mono (within_maker b inn alt w1) ?_
    rintro e w2 ⟨rfl, rfl⟩
    go_wp2_with fail
    refine Calls.mono H2.out ?_
    rintro e w3 ⟨hb, u, rfl, hu, hg⟩
    go_wp2_with fail
    go_ret
    exact ⟨hb, _, rfl, hu, hg⟩
  · rw [decide_eq_false hi] at h8
    refine Calls.mono (Kids_no _ inn alt w h8) ?_
    rintro e w' ⟨rfl, rfl⟩
    unfold kidsL
    rw [if_neg hi]
    exact ⟨Below.refl _ _, _, rfl, RdZ_nil _, fun g hg => by cases hg⟩

end Go.Proofs.YteghapmlnkhepaaDoor

/- The plain side of token: tokens in their order, and which token has an item. It names no number of a program. -/
namespace Go.Proofs.YteghapmlnkhepaaDoor.Tk
open Go.Proofs.YteghapmlnkhepaaDoor.St Go.Proofs.YteghapmlnkhepaaDoor.Sx
set_option linter.unusedVariables false

/-- The tokens ahead of that of the saga s's body a. -/
def tkL (p : Pl) (s a : Nat) : List (Nat × Nat) := ((List.range s).flatMap fun t => (List.range (p.alts t)).map fun b => (t, b)) ++ (List.range a).map fun b => (s, b)

theorem tkL_zero (p : Pl) : tkL p 0 0 = [] := rfl
theorem tkL_succ (p : Pl) (s a : Nat) : tkL p s (a + 1) = tkL p s a ++ [(s, a)] := by
  unfold tkL
  rw [List.range_succ, List.map_append, List.append_assoc]
  rfl
theorem tkL_next (p : Pl) (s : Nat) : tkL p (s + 1) 0 = tkL p s (p.alts s) := by
  unfold tkL
  rw [List.range_succ, List.flatMap_append]
  simp
theorem toks_eq (p : Pl) : toks p = tkL p p.n 0 := by
  unfold toks tkL
  simp
theorem tkL_len (p : Pl) : ∀ (s a : Nat), (tkL p s a).length = base p s + a := by
  intro s
  induction s with
  | zero =>
    intro a
    induction a with
    | zero => rfl
    | succ a ih => rw [tkL_succ, List.length_append, ih]; rfl
  | succ s ihs =>
    intro a
    induction a with
    | zero => rw [tkL_next, ihs]; rfl
    | succ a ih => rw [tkL_succ, List.length_append, ih]; rfl
theorem tkL_at (p : Pl) : ∀ (s a i : Nat) (x : Nat × Nat), (tkL p s a)[i]? = some x → tk p x.1 x.2 = i + 1 ∧ (x.1 < s ∧ x.2 < p.alts x.1 ∨ x.1 = s ∧ x.2 < a) := by
  have step : ∀ (s a : Nat), (∀ (i : Nat) (x : Nat × Nat), (tkL p s a)[i]? = some x → tk p x.1 x.2 = i + 1 ∧ (x.1 < s ∧ x.2 < p.alts x.1 ∨ x.1 = s ∧ x.2 < a)) → ∀ (i : Nat) (x : Nat × Nat), (tkL p s (a + 1))[i]? = some x → tk p x.1 x.2 = i + 1 ∧ (x.1 < s ∧ x.2 < p.alts x.1 ∨ x.1 = s ∧ x.2 < a + 1) := by
    intro s a ih i x h
    rw [tkL_succ] at h
    have hlen := tkL_len p s a
    by_cases hi : i < (tkL p s a).length
    · rw [List.getElem?_append_left hi] at h
      obtain ⟨h1, h2⟩ := ih i x h
      exact ⟨h1, by omega⟩
    · rw [List.getElem?_append_right (by omega)] at h
      have hi0 : i - (tkL p s a).length = 0 := by
        have := (List.getElem?_eq_some_iff.1 h).1
        simp at this
        omega
      rw [hi0] at h
      have hx : x = (s, a) := by simpa using h.symm
      subst hx
      exact ⟨by show base p s + a + 1 = i + 1; omega, .inr ⟨rfl, by show a < a + 1; omega⟩⟩
  intro s
  induction s with
  | zero =>
    intro a
    induction a with
    | zero => intro i x h; rw [tkL_zero] at h; simp at h
    | succ a ih => exact step 0 a ih
  | succ s ihs =>
    intro a
    induction a with
    | zero =>
      intro i x h
      rw [tkL_next] at h
      obtain ⟨h1, h2⟩ := ihs _ i x h
      refine ⟨h1, .inl ?_⟩
      rcases h2 with h2 | ⟨h2, h3⟩
      · omega
      · rw [h2]; exact ⟨by omega, h3⟩
    | succ a ih => exact step (s + 1) a ih
theorem mem_tkL {p : Pl} {s a t b : Nat} : (t, b) ∈ tkL p s a ↔ t < s ∧ b < p.alts t ∨ t = s ∧ b < a := by
  unfold tkL
  rw [List.mem_append, List.mem_flatMap, List.mem_map]
  constructor
  · rintro (⟨y, h1, h2⟩ | ⟨y, h1, h2⟩)
    · obtain ⟨z, h3, h4⟩ := List.mem_map.1 h2
      cases h4
      exact .inl ⟨List.mem_range.1 h1, List.mem_range.1 h3⟩
    · cases h2
      exact .inr ⟨rfl, List.mem_range.1 h1⟩
  · rintro (⟨h1, h2⟩ | ⟨rfl, h2⟩)
    · exact .inl ⟨t, List.mem_range.2 h1, List.mem_map.2 ⟨b, List.mem_range.2 h2, rfl⟩⟩
    · exact .inr ⟨b, List.mem_range.2 h2, rfl⟩
theorem tkL_of {p : Pl} {s a t b : Nat} (h : t < s ∧ b < p.alts t ∨ t = s ∧ b < a) : (tkL p s a)[tk p t b - 1]? = some (t, b) := by
  obtain ⟨i, hi⟩ := List.getElem?_of_mem (mem_tkL.2 h)
  have h1 := (tkL_at p s a i _ hi).1
  have h2 : tk p t b - 1 = i := by show tk p t b - 1 = i; rw [show tk p t b = i + 1 from h1]; omega
  rw [h2]
  exact hi

/-- What items of a right plan are, by the numbers. -/
structure Itm (its : List It) (p : Pl) : Prop where
  n : p.n = its.length
  ok : p.Ok
  alts : ∀ (i : Nat) (x : It), its[i]? = some x → x.alts = (p.alts i : Int)
  few : ∀ i, p.alts i ≤ 4
  root : ∀ x : It, its[0]? = some x → x.inn = -1 ∧ x.alt = 0
  inn : ∀ (i : Nat) (x : It), its[i]? = some x → 1 ≤ i → x.inn = (p.inn i : Int) ∧ x.alt = (p.alt i : Int)
  len : its.length ≤ 64

theorem itm_of {its : List It} {q : By × Tr} (h : sagaP its = some q) : Itm its (plOf its) := by
  obtain ⟨⟨r, r0, r1, r2, r3, r4, r5⟩, hi⟩ := plan_items h
  have h64 := (right_facts h).1
  have ha : ∀ (i : Nat) (x : It), its[i]? = some x → 0 ≤ x.alts ∧ x.alts ≤ 4 := by
    intro i x hx
    by_cases h0 : 1 ≤ i
    · obtain ⟨_, h9⟩ := hi i x hx h0
      split at h9
      · omega
      · omega
    · obtain rfl : i = 0 := by omega
      rw [r0] at hx
      cases hx
      omega
  refine ⟨rfl, plan_ok h, fun i x hx => ?_, fun i => ?_, fun x hx => ?_, fun i x hx h0 => ?_, h64⟩
  · have := ha i x hx
    show x.alts = (((its.getD i It.z).alts.toNat : Nat) : Int)
    rw [getD_it hx]
    omega
  · show (its.getD i It.z).alts.toNat ≤ 4
    cases hx : its[i]? with
    | none => rw [List.getD_eq_getElem?_getD, hx]; decide
    | some x => rw [getD_it hx]; have := ha i x hx; omega
  · rw [r0] at hx
    cases hx
    exact ⟨r2, r3⟩
  · obtain ⟨⟨j, a, y, e1, e2, _⟩, _⟩ := hi i x hx h0
    constructor
    · show x.inn = (((its.getD i It.z).inn.toNat : Nat) : Int)
      rw [getD_it hx]
      omega
    · show x.alt = (((its.getD i It.z).alt.toNat : Nat) : Int)
      rw [getD_it hx]
      omega

theorem kidsF_mem (inn alt : Int) : ∀ (l : List It) (i j : Nat), j ∈ kidsF inn alt i l ↔ i ≤ j ∧ ∃ x, l[j - i]? = some x ∧ x.inn = inn ∧ x.alt = alt
  | [], i, j => by simp [kidsF]
  | x :: r, i, j => by
    have ih := kidsF_mem inn alt r (i + 1) j
    have key : (j ∈ kidsF inn alt i (x :: r)) ↔ (j = i ∧ x.inn = inn ∧ x.alt = alt) ∨ j ∈ kidsF inn alt (i + 1) r := by
      rw [kidsF]
      split
      · rename_i hc
        rw [List.mem_cons]
        simp [hc]
      · rename_i hc
        constructor
        · exact .inr
        · rintro (⟨_, h⟩ | h)
          · exact absurd h hc
          · exact h
    rw [key, ih]
    constructor
    · rintro (⟨rfl, h1, h2⟩ | ⟨h1, y, h2, h3⟩)
      · exact ⟨Nat.le_refl _, x, by simp, h1, h2⟩
      · refine ⟨by omega, y, ?_, h3⟩
        rw [show j - i = (j - (i + 1)) + 1 by omega]
        simpa using h2
    · rintro ⟨h1, y, h2, h3⟩
      by_cases hji : j = i
      · subst hji
        simp at h2
        subst h2
        exact .inl ⟨rfl, h3⟩
      · refine .inr ⟨by omega, y, ?_, h3⟩
        rw [show j - i = (j - (i + 1)) + 1 by omega] at h2
        simpa using h2

/-- The items of a body, as they lie. -/
def kidV (its : List It) (x : Nat × Nat) : List Int := (kidsL its (x.1 : Int) (x.2 : Int)).map fun (y : Nat) => (y : Int)

theorem kidV_len (its : List It) (x : Nat × Nat) : (kidV its x).length ≤ its.length := by
  unfold kidV kidsL
  rw [List.length_map]
  split
  · exact kidsF_len _ _ _ _
  · exact Nat.zero_le _

/-- Does an item stand in a body? -/
theorem kidV_mem {its : List It} {p : Pl} (hI : Itm its p) {x : Nat × Nat} (hx : x.1 < p.n) (j : Int) : j ∈ kidV its x ↔ 1 ≤ j ∧ j < (p.n : Int) ∧ p.inn j.toNat = x.1 ∧ p.alt j.toNat = x.2 := by
  have hn := hI.n
  unfold kidV kidsL
  rw [if_pos ⟨by omega, by omega⟩, List.mem_map]
  constructor
  · rintro ⟨y, hy, rfl⟩
    obtain ⟨_, z, h1, h2, h3⟩ := (kidsF_mem _ _ _ _ _).1 hy
    rw [Nat.sub_zero] at h1
    have hyl := (List.getElem?_eq_some_iff.1 h1).1
    have h0 : 1 ≤ y := by
      apply Classical.byContradiction
      intro h0
      obtain rfl : y = 0 := by omega
      have := (hI.root z h1).1
      omega
    obtain ⟨e1, e2⟩ := hI.inn y z h1 h0
    rw [Int.toNat_natCast]
    exact ⟨by omega, by omega, by omega, by omega⟩
  · rintro ⟨h1, h2, h3, h4⟩
    obtain ⟨y, rfl⟩ : ∃ y : Nat, j = (y : Int) := ⟨j.toNat, by omega⟩
    rw [Int.toNat_natCast] at h3 h4
    obtain ⟨z, hz⟩ : ∃ z, its[y]? = some z := ⟨_, List.getElem?_eq_getElem (by omega)⟩
    obtain ⟨e1, e2⟩ := hI.inn y z hz (by omega)
    exact ⟨y, (kidsF_mem _ _ _ _ _).2 ⟨Nat.zero_le _, z, by simpa using hz, by omega, by omega⟩, rfl⟩

/-- The number of the first one of a list, none's being 0. -/
def fidx {α : Type} (q : α → Bool) (l : List α) : Nat := match l.findIdx? q with
  | none => 0
  | some i => i + 1

theorem fidx_at {α : Type} {q : α → Bool} {l : List α} {i : Nat} {x : α} (hx : l[i]? = some x) (hq : q x = true) (hl : ∀ (j : Nat) (y : α), j < i → l[j]? = some y → q y = false) : fidx q l = i + 1 := by
  unfold fidx
  have : l.findIdx? q = some i := by
    rw [List.findIdx?_eq_some_iff_getElem]
    obtain ⟨h1, h2⟩ := List.getElem?_eq_some_iff.1 hx
    refine ⟨h1, by rw [h2]; exact hq, fun j hj => ?_⟩
    have := hl j _ hj (List.getElem?_eq_getElem (by omega))
    simp [this]
  rw [this]
theorem fidx_no {α : Type} {q : α → Bool} {l : List α} (hl : ∀ (j : Nat) (y : α), l[j]? = some y → q y = false) : fidx q l = 0 := by
  unfold fidx
  have : l.findIdx? q = none := by
    rw [List.findIdx?_eq_none_iff]
    intro y hy
    obtain ⟨j, hj⟩ := List.getElem?_of_mem hy
    exact hl j y hj
  rw [this]

/-- The program's In: the token of a body. -/
def inV (p : Pl) (s a : Int) : Nat := if 0 ≤ s ∧ s < (p.n : Int) ∧ 0 ≤ a ∧ a < (p.alts s.toNat : Int) then tk p s.toNat a.toNat else 0
/-- The program's Of: that of the body in which an item stands. -/
def ofV (p : Pl) (i : Int) : Nat := if 1 ≤ i ∧ i < (p.n : Int) then tk p (p.inn i.toNat) (p.alt i.toNat) else 0

theorem in_find (p : Pl) (s a : Int) : fidx (fun x : Nat × Nat => decide ((x.1 : Int) = s) && decide ((x.2 : Int) = a)) (toks p) = inV p s a := by
  unfold inV
  rw [toks_eq]
  split
  · rename_i h
    have h1 : (s.toNat : Int) = s := by omega
    have h2 : (a.toNat : Int) = a := by omega
    have h3 := tkL_of (p := p) (s := p.n) (a := 0) (t := s.toNat) (b := a.toNat) (.inl ⟨by omega, by omega⟩)
    have h4 : 1 ≤ tk p s.toNat a.toNat := by unfold tk; omega
    rw [fidx_at h3 (by simp [h1, h2]) fun j y hj hy => ?_]
    · omega
    · obtain ⟨e1, e2⟩ := tkL_at p p.n 0 j y hy
      rw [Bool.and_eq_false_iff]
      apply Classical.byContradiction
      intro hc
      simp only [not_or, Bool.not_eq_false, decide_eq_true_eq] at hc
      have : y.1 = s.toNat ∧ y.2 = a.toNat := by omega
      rw [this.1, this.2] at e1
      omega
  · rename_i h
    refine fidx_no fun j y hy => ?_
    obtain ⟨e1, e2⟩ := tkL_at p p.n 0 j y hy
    rw [Bool.and_eq_false_iff]
    apply Classical.byContradiction
    intro hc
    simp only [not_or, Bool.not_eq_false, decide_eq_true_eq] at hc
    obtain ⟨c1, c2⟩ := hc
    refine h ⟨by omega, by omega, by omega, ?_⟩
    have : s.toNat = y.1 := by omega
    rw [this]
    omega

/-- Of, among the tokens ahead of an item's own ones, or all. -/
theorem of_find {its : List It} {p : Pl} (hI : Itm its p) (s a : Nat) (hs : s ≤ p.n) (hsa : s = p.n → a = 0) (i : Int) (hi : i ≤ (s : Int) ∨ s = p.n) : fidx (fun x : Nat × Nat => decide (i ∈ kidV its x)) (tkL p s a) = ofV p i := by
  have hin : ∀ x ∈ tkL p s a, x.1 < p.n := fun x hx => by
    have := mem_tkL.1 (show (x.1, x.2) ∈ tkL p s a from hx)
    omega
  unfold ofV
  split
  · rename_i h
    have hn : i.toNat < p.n := by omega
    obtain ⟨q1, q2, q3⟩ := hI.ok.inn i.toNat (by omega) hn
    have h3 := tkL_of (p := p) (s := s) (a := a) (t := p.inn i.toNat) (b := p.alt i.toNat) (.inl ⟨by omega, q3⟩)
    have h4 : 1 ≤ tk p (p.inn i.toNat) (p.alt i.toNat) := by unfold tk; omega
    rw [fidx_at h3 (decide_eq_true ((kidV_mem hI (by show p.inn i.toNat < p.n; omega) i).2 ⟨h.1, h.2, rfl, rfl⟩)) fun j y hj hy => ?_]
    · omega
    · refine decide_eq_false fun hm => ?_
      obtain ⟨_, _, c1, c2⟩ := (kidV_mem hI (hin y (List.mem_of_getElem? hy)) i).1 hm
      obtain ⟨e1, _⟩ := tkL_at p s a j y hy
      rw [← c1, ← c2] at e1
      omega
  · rename_i h
    refine fidx_no fun j y hy => decide_eq_false fun hm => ?_
    obtain ⟨c1, c2, _, _⟩ := (kidV_mem hI (hin y (List.mem_of_getElem? hy)) i).1 hm
    exact h ⟨c1, c2⟩

/-- One more is called off, where there is such a token. -/
def putZ (n : Nat) (C : Nat → Bool) (k : Int) : Nat → Bool := if 1 ≤ k ∧ k ≤ (n : Int) then put C k.toNat else C
end Go.Proofs.YteghapmlnkhepaaDoor.Tk

/- The program's tree of tokens in memory; what is kept of a world. -/
namespace Go.Proofs.YteghapmlnkhepaaDoor.Tk
open Go.RowKit Go.Shelf Go.Proofs.YteghapmlnkhepaaDoor.St Go.Proofs.YteghapmlnkhepaaDoor.Sx
set_option linter.unusedVariables false

/-- What is kept of a world: all but blocks of T, and what is new. -/
structure Kp (T : Nat → Prop) (w w' : World) : Prop where
  os : w'.os = w.os
  tape : w'.tape = w.tape
  output : w'.output = w.output
  size : w.heap.size ≤ w'.heap.size
  block : ∀ k, k < w.heap.size → ¬ T k → w'.heap[k]? = w.heap[k]?

theorem Kp.refl (T : Nat → Prop) (w : World) : Kp T w w := ⟨rfl, rfl, rfl, Nat.le_refl _, fun _ _ _ => rfl⟩
theorem Kp.trans {T : Nat → Prop} {a b c : World} (h : Kp T a b) (k : Kp T b c) : Kp T a c :=
  ⟨k.os.trans h.os, k.tape.trans h.tape, k.output.trans h.output, Nat.le_trans h.size k.size, fun i hi hn => (k.block i (Nat.lt_of_lt_of_le hi h.size) hn).trans (h.block i hi hn)⟩
theorem Kp.of_below {w w' : World} (T : Nat → Prop) (h : Below w.heap.size w w') : Kp T w w' := ⟨h.os, h.tape, h.output, h.size, fun k hk _ => h.block k hk⟩
theorem Kp.below {T : Nat → Prop} {w w' : World} (h : Kp T w w') {B : Nat} (hB : B ≤ w.heap.size) (hT : ∀ k, T k → B ≤ k) : Below B w w' :=
  ⟨h.os, h.tape, h.output, h.size, fun k hk => h.block k (by omega) (fun ht => by have := hT k ht; omega)⟩
theorem Kp.mono {T T' : Nat → Prop} {w w' : World} (h : Kp T w w') (hT : ∀ k, T k → T' k) : Kp T' w w' := ⟨h.os, h.tape, h.output, h.size, fun k hk hn => h.block k hk (fun ht => hn (hT k ht))⟩
theorem Kp.of_grown {w w' : World} {row : Option Nat} (T : Nat → Prop) (h : w.grownBy w' row) (hT : ∀ k, row = some k → T k) : Kp T w w' :=
  ⟨h.os, h.tape, h.output, h.size, fun k hk hn => h.block k hk (fun e => hn (hT k e.symm))⟩
theorem Kp.set {T : Nat → Prop} {a w : World} (h : Kp T a w) (p : Addr) (u : Value) (hp : T p.block) : Kp T a (w.setCell p u) :=
  h.trans ⟨rfl, rfl, rfl, by simp [World.setCell], fun k hk hn => Below.heap_setCell _ _ _ _ (fun e => hn (by rw [e]; exact hp))⟩
theorem Kp.later {T : Nat → Prop} {a b c : World} (h : Kp T a b) (k : Below b.heap.size b c) : Kp T a c := h.trans (Kp.of_below _ k)
theorem Kp.cell {T : Nat → Prop} {w w' : World} (h : Kp T w w') {a : Addr} {v : Value} (hc : w.cell? a = some v) (hn : ¬ T a.block) : w'.cell? a = some v := by
  rw [World.cell?_of_block (w := w) (h.block a.block (World.block_lt_of_cell? w a hc) hn)]
  exact hc
theorem Kp.row {T : Nat → Prop} {w w' : World} (h : Kp T w w') {b : Nat} {o : Obj} (hc : w.heap[b]? = some o) (hn : ¬ T b) : w'.heap[b]? = some o :=
  (h.block b (Array.getElem?_eq_some_iff.1 hc).1 hn).trans hc
theorem row_lt {w : World} {b : Nat} {o : Obj} (h : w.heap[b]? = some o) : b < w.heap.size := (Array.getElem?_eq_some_iff.1 h).1
theorem Kp.own {T : Nat → Prop} {A B : World} (h : Kp T A B) {base e size n : Nat} {v : Value} {xs : List Value} (ho : A.ownsRow base e size v n xs) (hg : ∀ b, v.ownBlock = some b → ¬ T b) : B.ownsRow base e size v n xs := by
  refine ⟨ho.1, ?_⟩
  rcases ho.2 with h0 | ⟨g, cap, cur, rfl, hb, hh, h1⟩
  · exact .inl h0
  · exact .inr ⟨g, cap, cur, rfl, hb, h.row hh (hg g rfl), h1⟩

theorem RdZ.kept {T : Nat → Prop} {w w' : World} {v : Value} {l : List Int} (h : RdZ w v l) (hk : Kp T w w') (hv : ∀ g, v.ownBlock = some g → ¬ T g) : RdZ w' v l := by
  obtain ⟨a, cap, rfl, h1, hc⟩ := h
  refine ⟨a, cap, rfl, h1, fun i x hi => ?_⟩
  obtain ⟨b, off, rfl, hcell⟩ := hc i x hi
  exact ⟨b, off, rfl, hk.cell hcell (show ¬ T b from hv b rfl)⟩
theorem RdI.kept {T : Nat → Prop} {w w' : World} {v : Value} {l : List Nat} (h : Dg.RdI w v l) (hk : Kp T w w') (hv : ∀ g, v.ownBlock = some g → ¬ T g) : Dg.RdI w' v l := by
  obtain ⟨a, cap, rfl, h1, hc⟩ := h
  refine ⟨a, cap, rfl, h1, fun i x hi => ?_⟩
  obtain ⟨b, off, rfl, hcell⟩ := hc i x hi
  exact ⟨b, off, rfl, hk.cell hcell (show ¬ T b from hv b rfl)⟩

/-- Whole numbers in a block of S. -/
def RZ (S : Nat → Prop) (w : World) (v : Value) (l : List Int) : Prop := RdZ w v l ∧ ∀ g, v.ownBlock = some g → S g

/-- A token's cells. -/
def tokC (x : Nat × Nat) (v wi : Value) (c : Bool) : Array Value := #[.int .i64 (x.1 : Int), .int .i64 (x.2 : Int), v, wi, .bool c]
/-- The row of the tokens. -/
def ptrs (bs : List Nat) : List Value := bs.map fun b => .pointer (some ⟨b, 0, none⟩)
/-- The token in which a saga's tokens stand. -/
def wiV (p : Pl) (bs : List Nat) (s : Nat) : Value := if s = 0 then .pointer none else .pointer (some ⟨bs.getD (tk p (p.inn s) (p.alt s) - 1) 0, 0, none⟩)

/-- The tree in memory: tb: its block; sv: its row; bs: the tokens' blocks; L: whose they are; C: which were called off; S: the blocks of what stands in them. -/
structure TT (n0 : Nat) (w : World) (tb : Nat) (sv : Value) (bs : List Nat) (its : List It) (p : Pl) (L : List (Nat × Nat)) (C : Nat → Bool) (S : Nat → Prop) : Prop where
  box : w.heap[tb]? = some (.cells #[sv] 47 (0, 0))
  own : w.ownsRow n0 55 1 sv L.length (ptrs bs)
  len : bs.length = L.length
  tok : ∀ (i : Nat) (x : Nat × Nat) (b : Nat), L[i]? = some x → bs[i]? = some b → ∃ v, w.heap[b]? = some (.cells (tokC x v (wiV p bs x.1) (C (i + 1))) 61 (0, 0)) ∧ RZ S w v (kidV its x)
  inj : ∀ (i j b : Nat), bs[i]? = some b → bs[j]? = some b → i = j
  sep : ∀ k, S k → k < w.heap.size ∧ k ∉ bs ∧ k ≠ tb ∧ sv.ownBlock ≠ some k
  ge : n0 ≤ tb
  geb : ∀ b ∈ bs, n0 ≤ b

variable {n0 : Nat} {w w' : World} {tb : Nat} {sv : Value} {bs : List Nat} {its : List It} {p : Pl} {L : List (Nat × Nat)} {C : Nat → Bool} {S : Nat → Prop}

theorem TT.blk (h : TT n0 w tb sv bs its p L C S) {i b : Nat} (hb : bs[i]? = some b) : ∃ x, L[i]? = some x := by
  have := (List.getElem?_eq_some_iff.1 hb).1
  exact ⟨_, List.getElem?_eq_getElem (by rw [← h.len]; exact this)⟩
theorem TT.tokb (h : TT n0 w tb sv bs its p L C S) {b : Nat} (hb : b ∈ bs) : ∃ cs : Array Value, w.heap[b]? = some (.cells cs 61 (0, 0)) := by
  obtain ⟨i, hi⟩ := List.getElem?_of_mem hb
  obtain ⟨x, hx⟩ := h.blk hi
  obtain ⟨v, h1, _⟩ := h.tok i x b hx hi
  exact ⟨_, h1⟩
theorem TT.ntb (h : TT n0 w tb sv bs its p L C S) : tb ∉ bs := fun hm => by
  obtain ⟨cs, h1⟩ := h.tokb hm
  rw [h.box] at h1
  injection h1 with h1
  injection h1 with _ h2 _
  exact absurd h2 (by decide)
theorem TT.nrow (h : TT n0 w tb sv bs its p L C S) {b : Nat} (hb : b ∈ bs) : some b ≠ sv.ownBlock := by
  obtain ⟨cs, h1⟩ := h.tokb hb
  exact own_other h.own h1 (by decide)
theorem TT.lt (h : TT n0 w tb sv bs its p L C S) {b : Nat} (hb : b ∈ bs) : b < w.heap.size := by
  obtain ⟨cs, h1⟩ := h.tokb hb
  exact row_lt h1

theorem TT.kept (h : TT n0 w tb sv bs its p L C S) {T : Nat → Prop} (hk : Kp T w w') (h1 : ¬ T tb) (h2 : ∀ b ∈ bs, ¬ T b) (h3 : ∀ g, sv.ownBlock = some g → ¬ T g) (h4 : ∀ k, S k → ¬ T k) : TT n0 w' tb sv bs its p L C S := by
  refine ⟨hk.row h.box h1, hk.own h.own h3, h.len, fun i x b hx hb => ?_, h.inj, fun k hs => ?_, h.ge, h.geb⟩
  · obtain ⟨v, q1, q2, q3⟩ := h.tok i x b hx hb
    exact ⟨v, hk.row q1 (h2 b (List.mem_of_getElem? hb)), RdZ.kept q2 hk (fun g hg => h4 g (q3 g hg)), q3⟩
  · obtain ⟨q1, q2⟩ := h.sep k hs
    exact ⟨Nat.lt_of_lt_of_le q1 hk.size, q2⟩
theorem TT.later (h : TT n0 w tb sv bs its p L C S) (hb : Below w.heap.size w w') : TT n0 w' tb sv bs its p L C S :=
  h.kept (Kp.of_below (fun _ => False) hb) (fun h => h) (fun _ _ h => h) (fun _ _ h => h) (fun _ _ h => h)

/-- A token is called off. -/
theorem TT.call (h : TT n0 w tb sv bs its p L C S) {i b : Nat} (hb : bs[i]? = some b) : TT n0 (w.setCell ⟨b, 4, none⟩ (.bool true)) tb sv bs its p L (put C (i + 1)) S ∧ Kp (fun k => k ∈ bs) w (w.setCell ⟨b, 4, none⟩ (.bool true)) := by
  have hbm := List.mem_of_getElem? hb
  have hk : Kp (fun k => k = b) w (w.setCell ⟨b, 4, none⟩ (.bool true)) := (Kp.refl _ w).set ⟨b, 4, none⟩ (.bool true) rfl
  refine ⟨⟨hk.row h.box (fun e => h.ntb (e ▸ hbm)), hk.own h.own (fun g hg e => h.nrow hbm (by rw [← e]; exact hg.symm)), h.len, fun j x c hx hc => ?_, h.inj, fun k hs => ?_, h.ge, h.geb⟩, hk.mono (fun k e => e ▸ hbm)⟩
  · obtain ⟨v, q1, q2, q3⟩ := h.tok j x c hx hc
    have q4 : RZ S (w.setCell ⟨b, 4, none⟩ (.bool true)) v (kidV its x) := ⟨RdZ.kept q2 hk (fun g hg e => (h.sep g (q3 g hg)).2.1 (e ▸ hbm)), q3⟩
    refine ⟨v, ?_, q4⟩
    by_cases hcb : c = b
    · subst hcb
      have hji := h.inj j i c hc hb
      subst hji
      have e : put C (j + 1) (j + 1) = true := by simp [put]
      rw [e, Dg.row_set q1 4 _]
      rfl
    · have e : put C (i + 1) (j + 1) = C (j + 1) := by
        have hji : j ≠ i := fun hji => hcb (by rw [hji, hb] at hc; exact (Option.some.inj hc).symm)
        unfold put
        have : (j + 1 == i + 1) = false := by simpa using hji
        rw [this, Bool.or_false]
      rw [e]
      exact Dg.row_other q1 _ hcb
  · obtain ⟨q1, q2⟩ := h.sep k hs
    exact ⟨by simpa [World.setCell] using q1, q2⟩

theorem TT.sl (h : TT n0 w tb sv bs its p L C S) : ∃ a c, sv = .slice a L.length c := own_slice h.own
theorem TT.c0 (h : TT n0 w tb sv bs its p L C S) : w.cell? ⟨tb, 0, none⟩ = some sv := (Dg.cell_row h.box 0).trans rfl
/-- The i-th token's place in the row. -/
theorem TT.at' (h : TT n0 w tb sv bs its p L C S) {a : Option Addr} {m c : Nat} (hv : sv = .slice a m c) {i b : Nat} (hb : bs[i]? = some b) : ∃ g, a = some ⟨g, 0, none⟩ ∧ w.cell? ⟨g, i, none⟩ = some (.pointer (some ⟨b, 0, none⟩)) ∧ m ≤ c := by
  subst hv
  have hl := (List.getElem?_eq_some_iff.1 hb).1
  have hll := h.len
  rcases h.own.2 with ⟨_, h0⟩ | ⟨g, cap, cur, e, _, _, hc, _⟩
  · omega
  · simp only [Value.slice.injEq] at e
    obtain ⟨rfl, rfl, rfl⟩ := e
    refine ⟨g, rfl, ?_, hc⟩
    rw [h.own.cellAt i (by omega)]
    unfold ptrs
    rw [List.getElem?_map, hb]
    rfl
/-- A token's cells. -/
theorem TT.cells (h : TT n0 w tb sv bs its p L C S) {i : Nat} {x : Nat × Nat} {b : Nat} (hx : L[i]? = some x) (hb : bs[i]? = some b) : ∃ v, w.cell? ⟨b, 0, none⟩ = some (.int .i64 (x.1 : Int)) ∧ w.cell? ⟨b, 1, none⟩ = some (.int .i64 (x.2 : Int)) ∧ w.cell? ⟨b, 2, none⟩ = some v ∧ w.cell? ⟨b, 3, none⟩ = some (wiV p bs x.1) ∧ w.cell? ⟨b, 4, none⟩ = some (.bool (C (i + 1))) ∧ RdZ w v (kidV its x) := by
  obtain ⟨v, q1, q2, q3⟩ := h.tok i x b hx hb
  exact ⟨v, (Dg.cell_row q1 0).trans rfl, (Dg.cell_row q1 1).trans rfl, (Dg.cell_row q1 2).trans rfl, (Dg.cell_row q1 3).trans rfl, (Dg.cell_row q1 4).trans rfl, q2⟩
end Go.Proofs.YteghapmlnkhepaaDoor.Tk

