/- Texts of the seat, packed: SRd SRe SRf SMa. -/
import Derived.Test.YtlegmmhacnbnlaaGreatDoorP02
import GoSem.Core.Utf8
/- Count, Depth: how many nodes a saga has, how deep it is. -/
namespace Go.Proofs.YtlegmmhacnbnlaaGreatDoor.Sx

open Go.RowKit Go.Shelf

attribute [local go_sem] Oper.semAt_some

set_option maxRecDepth 1000000 in
theorem nodes_in (F : Fence) (n : Nat) (h39 : F.fn 105) (hro : F.round = none) (x y : Value) (w : World) :
    CallsIn F n Tryz.prog 105 #[.agg #[x, y]] w fun e w' => e = .returned (.func (.func 109) #[] #[.pointer (some ⟨w.heap.size, 0, none⟩)]) ∧ w' = w.alloc (.cells #[x, y] 94) := by
  refine callsIn_of_wp Tryz.func105 rfl h39 ?_ hro
  simp only [Tryz.ntmps105, List.size_toArray, List.length_cons, List.length_nil, Nat.reduceAdd, Nat.reduceSub, Array.replicate_succ, Array.replicate_zero, List.push_toArray, List.append_toArray, List.nil_append, List.cons_append]
  gi_wp2
  go_ret
  exact ⟨rfl, rfl⟩

/-- Bounds of a tree. -/
structure Bnd (t : Tr) : Prop where
  dep : t.dep ≤ 100000000
  tw : tw t ≤ 200000
  sz : t.sz ≤ 1000000000 ∧ t.afs
  cn : (fltn 1 t).length ≤ 1000000000

set_option maxRecDepth 1000000 in
set_option maxHeartbeats 4000000 in
theorem count_any (w : World) (x : ByteArray) (t : Tr) (av : Option Addr) (am ac : Nat) (ht : TAt (· < w.heap.size) w true t av 0 am) (hb : Bnd t) :
    Calls Tryz.prog 100 #[.agg #[.string x, .slice av am ac]] w fun e w' => e = .returned (.int .i64 ((fltn 1 t).length : Int)) ∧ Below w.heap.size w w' := by
  refine (callsIn_wide (n := 5)).1 ?_
  refine callsIn_of_wp_marks Tryz.func100 rfl trivial ?_ rfl
  simp only [Tryz.ntmps100, List.size_toArray, List.length_cons, List.length_nil, Nat.reduceAdd, Nat.reduceSub, Array.replicate_succ, Array.replicate_zero, List.push_toArray, List.append_toArray, List.nil_append, List.cons_append]
  gi_wp2_with (refine ⟨trivial, ?_⟩; gi_at_call 105; refine (nodes_in Fence.wide _ trivial rfl _ _ _).mono ?_; rintro e w' ⟨rfl, rfl⟩)
  obtain ⟨Wl, hWl⟩ : ∃ Wl, ((w.alloc (.cells #[.string x, .slice av am ac] 94)).alloc (.cells #[.int .i64 0] 3)).alloc (.cells #[.string x, .slice av am ac] 94) = Wl := ⟨_, rfl⟩
  rw [hWl]
  have hz : Wl.heap.size = w.heap.size + 3 := by rw [← hWl]; simp
  have hcb : Wl.heap[w.heap.size + 1]? = some (.cells #[.int .i64 0] 3 (0, 0)) := by
    rw [← hWl]
    refine row_alloc ?_ _
    have := row_new (w.alloc (.cells #[.string x, .slice av am ac] 94)) #[.int .i64 0] 3
    rwa [World.size_alloc] at this
  have hgb : Wl.heap[w.heap.size + 2]? = some (.cells #[.string x, .slice av am ac] 94 (0, 0)) := by
    rw [← hWl]
    have := row_new ((w.alloc (.cells #[.string x, .slice av am ac] 94)).alloc (.cells #[.int .i64 0] 3)) #[.string x, .slice av am ac] 94
    simpa using this
  have hbl : Below w.heap.size w Wl := by
    rw [← hWl]
    exact (((Below.refl _ w).alloc (Nat.le_refl _) _).alloc (by simp) _).alloc (by simp; omega) _
  clear hWl
  have hseq := nodes1_in Fence.wide 4 trivial rfl (by omega) rfl w.heap.size (1 + t.dep) (w.heap.size + 2) w Wl t av am ac (fun k hk => hbl.block k hk) (by omega) ((cell_row hgb 1).trans rfl) ht (Nat.le_refl _) (by have := hb.dep; omega) hb.tw hb.sz
  refine range_mine (n := 5) rfl (by omega) (gf := 109) (lb := #[.pointer (some ⟨w.heap.size + 2, 0, none⟩)]) rfl trivial (enters_of Tryz.func109 (by kernel_rfl) rfl) hseq (by omega) (fun _ => rfl)
    (fun pre W => W.heap[w.heap.size + 1]? = some (.cells #[.int .i64 (pre.length : Int)] 3 (0, 0)) ∧ Below w.heap.size w W) (fun _ _ => False)
    (fun s A B hs hB => ⟨(hB.block _ (by omega)).trans hs.1, hs.2.trans (hB.mono (by omega))⟩) (fun _ _ _ h _ => h) ⟨hcb, hbl⟩ ?round ?done ?stop
  case round =>
    rintro l pre y W hV hN ⟨hc, hB⟩ hlt
    obtain ⟨yd, yl, ya, ysv, ysm, ysc, yav, yam, yac⟩ := y
    simp only [Nd.enc]
    simp [-Array.foldl_toList]
    gi_wp2
    refine ⟨⟨hc, hB⟩, Kr.refl _ _ _, ?_⟩
    intro W2 hc2 hB2 hk2
    have c0 := (cell_row hc2 0).trans rfl
    have f0 := froz_row hc2 0
    have hn := hb.cn
    have hln : pre.length < 1000000000 := by omega
    gi_wp2
    refine ⟨Kr.setCell _ _ (by omega) (by omega), ?_, ?_⟩
    · have := row_set hc2 0 (.int .i64 ((pre.length : Int) + 1))
      simpa using this
    · exact hB2.setCell (p := ⟨w.heap.size + 1, 0, none⟩) (by show w.heap.size ≤ w.heap.size + 1; omega) _
  case done =>
    rintro xs W hS ⟨hc, hB⟩ hK
    have c0 := (cell_row hc 0).trans rfl
    have hl : (xs.length : Int) = ((fltn 1 t).length : Int) := by have := hS.length_eq; simp at this; omega
    gi_wp2
    refine ⟨by simp, .inl ⟨_, _, rfl, run_takeDeferred hK, ?_⟩⟩
    refine ⟨_, results_tmp rfl _ _ _, ?_, ?_⟩
    · rw [← hl]; rfl
    · exact hB.trans (below_putObj _ _ _ (by omega) (Array.getElem?_eq_some_iff.1 hK).1)
  case stop => rintro pre W _ h _; exact h.elim

end Go.Proofs.YtlegmmhacnbnlaaGreatDoor.Sx

/- Depth and big: how deep a saga is, and whether it is too big. -/
namespace Go.Proofs.YtlegmmhacnbnlaaGreatDoor.Sx

open Go.RowKit Go.Shelf

attribute [local go_sem] Oper.semAt_some

/-- The greatest depth within which a sub-saga stands. -/
def mx : List (Nat × Lab × Tr) → Nat
  | [] => 0
  | (d, l, _) :: r => max (if l.sub then d + 1 else 0) (mx r)

theorem mx_append (a b : List (Nat × Lab × Tr)) : mx (a ++ b) = max (mx a) (mx b) := by
  induction a with
  | nil => simp [mx]
  | cons x a ih => obtain ⟨d, l, t⟩ := x; simp [mx, ih, Nat.max_assoc]

theorem mx_perm {a b : List (Nat × Lab × Tr)} (h : a.Perm b) : mx a = mx b := by
  induction h with
  | nil => rfl
  | cons x _ ih => obtain ⟨d, l, t⟩ := x; simp [mx, ih]
  | swap x y l =>
    obtain ⟨d, l1, t⟩ := x
    obtain ⟨d', l2, t'⟩ := y
    simp only [mx]
    omega
  | trans _ _ h1 h2 => rw [h1, h2]

theorem mx_flat (t : Tr) : ∀ d, (t.dep = 0 → mx (fltn d t) = 0) ∧ (t.dep ≠ 0 → mx (fltn d t) = d + t.dep) := by
  induction t with
  | e => intro d; simp [fltn, mx, Tr.dep]
  | b x r ih1 ih2 =>
    intro d
    have e1 := ih1 d
    have e2 := ih2 d
    have hd : (Tr.b x r).dep = max x.dep r.dep := rfl
    have hm : mx (fltn d (.b x r)) = max (mx (fltn d x)) (mx (fltn d r)) := mx_append _ _
    rw [hd, hm]
    omega
  | n l x r ih1 ih2 =>
    intro d
    have e1 := ih1 (d + 1)
    have e2 := ih2 d
    by_cases hs : l.sub = true
    · have hd : (Tr.n l x r).dep = max (x.dep + 1) r.dep := by simp [Tr.dep, hs]
      have hm : mx (fltn d (.n l x r)) = max (d + 1) (max (mx (fltn (d + 1) x)) (mx (fltn d r))) := by simp [fltn, mx, mx_append, hs]
      rw [hd, hm]
      omega
    · have hd : (Tr.n l x r).dep = r.dep := by simp [Tr.dep, hs]
      have hm : mx (fltn d (.n l x r)) = mx (fltn d r) := by simp [fltn, mx, hs]
      rw [hd, hm]
      exact e2

/-- Is a node deeper than it may? -/
def over (x : Nat × Lab × Tr) : Bool := x.2.1.sub && x.1 == 70

set_option maxRecDepth 1000000 in
set_option maxHeartbeats 4000000 in
theorem depth_any (w : World) (x : ByteArray) (t : Tr) (av : Option Addr) (am ac : Nat) (ht : TAt (· < w.heap.size) w true t av 0 am) (hb : Bnd t) :
    Calls Tryz.prog 99 #[.agg #[.string x, .slice av am ac]] w fun e w' => e = .returned (.int .i64 ((1 + t.dep : Nat) : Int)) ∧ Below w.heap.size w w' := by
  refine (callsIn_wide (n := 5)).1 ?_
  refine callsIn_of_wp_marks Tryz.func99 rfl trivial ?_ rfl
  simp only [Tryz.ntmps99, List.size_toArray, List.length_cons, List.length_nil, Nat.reduceAdd, Nat.reduceSub, Array.replicate_succ, Array.replicate_zero, List.push_toArray, List.append_toArray, List.nil_append, List.cons_append]
  gi_wp2_with (refine ⟨trivial, ?_⟩; gi_at_call 105; refine (nodes_in Fence.wide _ trivial rfl _ _ _).mono ?_; rintro e w' ⟨rfl, rfl⟩)
  obtain ⟨Wl, hWl⟩ : ∃ Wl, ((w.alloc (.cells #[.string x, .slice av am ac] 94)).alloc (.cells #[.int .i64 1] 3)).alloc (.cells #[.string x, .slice av am ac] 94) = Wl := ⟨_, rfl⟩
  rw [hWl]
  have hz : Wl.heap.size = w.heap.size + 3 := by rw [← hWl]; simp
  have hcb : Wl.heap[w.heap.size + 1]? = some (.cells #[.int .i64 1] 3 (0, 0)) := by
    rw [← hWl]
    refine row_alloc ?_ _
    have := row_new (w.alloc (.cells #[.string x, .slice av am ac] 94)) #[.int .i64 1] 3
    rwa [World.size_alloc] at this
  have hgb : Wl.heap[w.heap.size + 2]? = some (.cells #[.string x, .slice av am ac] 94 (0, 0)) := by
    rw [← hWl]
    have := row_new ((w.alloc (.cells #[.string x, .slice av am ac] 94)).alloc (.cells #[.int .i64 1] 3)) #[.string x, .slice av am ac] 94
    simpa using this
  have hbl : Below w.heap.size w Wl := by
    rw [← hWl]
    exact (((Below.refl _ w).alloc (Nat.le_refl _) _).alloc (by simp) _).alloc (by simp; omega) _
  clear hWl
  have hseq := nodes1_in Fence.wide 4 trivial rfl (by omega) rfl w.heap.size (1 + t.dep) (w.heap.size + 2) w Wl t av am ac (fun k hk => hbl.block k hk) (by omega) ((cell_row hgb 1).trans rfl) ht (Nat.le_refl _) (by have := hb.dep; omega) hb.tw hb.sz
  refine range_mine (n := 5) rfl (by omega) (gf := 109) (lb := #[.pointer (some ⟨w.heap.size + 2, 0, none⟩)]) rfl trivial (enters_of Tryz.func109 (by kernel_rfl) rfl) hseq (by omega) (fun _ => rfl)
    (fun pre W => W.heap[w.heap.size + 1]? = some (.cells #[.int .i64 ((max 1 (mx (pre.map Nd.key)) : Nat) : Int)] 3 (0, 0)) ∧ Below w.heap.size w W) (fun _ _ => False)
    (fun s A B hs hB => ⟨(hB.block _ (by omega)).trans hs.1, hs.2.trans (hB.mono (by omega))⟩) (fun _ _ _ h _ => h) ⟨hcb, hbl⟩ ?round ?done ?stop
  case round =>
    rintro l pre y W hV hN ⟨hc, hB⟩ hlt
    obtain ⟨yd, yl, ya, ysv, ysm, ysc, yav, yam, yac⟩ := y
    have hyd : yd ≤ 1 + t.dep := hV.2.2.1
    have hdb := hb.dep
    simp only [Nd.enc]
    simp [-Array.foldl_toList]
    gi_wp2
    have hz0 := hB.size
    refine ⟨⟨row_alloc hc _, hB.alloc hz0 _⟩, Kr.of_below ((Below.refl _ _).alloc (Nat.le_refl _) _) (by omega), ?_⟩
    intro W2 hc2 hB2 hk2
    have c0 := (cell_row hc2 0).trans rfl
    have f0 := froz_row hc2 0
    have hn2 := (hk2.high W.heap.size (by omega) (by simp)).trans (row_new W #[.string ⟨yl.name.toArray⟩, .string ⟨yl.undo.toArray⟩, .slice ysv ysm ysc, .bool yl.sub, .bool yl.vital, .slice yav yam yac] 148)
    have s3 := (cell_row hn2 3).trans rfl
    have hmx : mx ((pre ++ [(⟨yd, yl, ya, ysv, ysm, ysc, yav, yam, yac⟩ : Nd)]).map Nd.key) = max (mx (pre.map Nd.key)) (if yl.sub then yd + 1 else 0) := by
      simp [mx_append, mx, Nd.key]
    obtain ⟨M, hM⟩ : ∃ M, max 1 (mx (pre.map Nd.key)) = M := ⟨_, rfl⟩
    rw [hM] at hc2 c0
    cases hs : yl.sub with
    | false =>
      rw [hs] at s3 hmx
      gi_wp2
      have he : max 1 (mx ((pre ++ [(⟨yd, yl, ya, ysv, ysm, ysc, yav, yam, yac⟩ : Nd)]).map Nd.key)) = M := by
        rw [hmx]
        simp only [Bool.false_eq_true, if_false]
        omega
      refine ⟨Kr.refl _ _ _, ?_, hB2⟩
      show W2.heap[w.heap.size + 1]? = some (.cells #[.int .i64 ((max 1 (mx ((pre ++ [(⟨yd, yl, ya, ysv, ysm, ysc, yav, yam, yac⟩ : Nd)]).map Nd.key)) : Nat) : Int)] 3 (0, 0))
      rw [he]
      exact hc2
    | true =>
      rw [hs] at s3 hmx
      have he : max 1 (mx ((pre ++ [(⟨yd, yl, ya, ysv, ysm, ysc, yav, yam, yac⟩ : Nd)]).map Nd.key)) = max M (yd + 1) := by
        rw [hmx]
        simp only [if_true]
        omega
      have fin : ∀ (q : Nat) (aa : Act), q = max M (yd + 1) → myPost w.heap.size Wl.heap.size (fun pre W => W.heap[w.heap.size + 1]? = some (.cells #[.int .i64 ((max 1 (mx (pre.map Nd.key)) : Nat) : Int)] 3 (0, 0)) ∧ Below w.heap.size w W) (fun _ _ => False)
          (pre ++ [(⟨yd, yl, ya, ysv, ysm, ysc, yav, yam, yac⟩ : Nd)]) W2 .normal aa (W2.setCell ⟨w.heap.size + 1, 0, none⟩ (.int .i64 (q : Int))) := fun q _ hq => by
        refine ⟨Kr.setCell _ _ (by omega) (by omega), ?_, hB2.setCell (p := ⟨w.heap.size + 1, 0, none⟩) (by show w.heap.size ≤ w.heap.size + 1; omega) _⟩
        show (W2.setCell ⟨w.heap.size + 1, 0, none⟩ (.int .i64 (q : Int))).heap[w.heap.size + 1]? = some (.cells #[.int .i64 ((max 1 (mx ((pre ++ [(⟨yd, yl, ya, ysv, ysm, ysc, yav, yam, yac⟩ : Nd)]).map Nd.key)) : Nat) : Int)] 3 (0, 0))
        rw [he, ← hq]
        exact row_set hc2 0 _
      rw [hz] at fin
      gi_wp2
      all_goals first | exact fin M _ (by omega) | exact fin (yd + 1) _ (by omega)
  case done =>
    rintro xs W hS ⟨hc, hB⟩ hK
    have c0 := (cell_row hc 0).trans rfl
    have hl : max 1 (mx (xs.map Nd.key)) = 1 + t.dep := by
      rw [mx_perm hS]
      have := mx_flat t 1
      omega
    rw [hl] at c0
    gi_wp2
    refine ⟨by simp, .inl ⟨_, _, rfl, run_takeDeferred hK, ?_⟩⟩
    refine ⟨_, results_tmp rfl _ _ _, rfl, ?_⟩
    exact hB.trans (below_putObj _ _ _ (by omega) (Array.getElem?_eq_some_iff.1 hK).1)
  case stop => rintro pre W _ h _; exact h.elim

end Go.Proofs.YtlegmmhacnbnlaaGreatDoor.Sx

/- big: whether a saga is too big. -/
namespace Go.Proofs.YtlegmmhacnbnlaaGreatDoor.Sx

open Go.RowKit Go.Shelf

attribute [local go_sem] Oper.semAt_some

/-- Is it too big? -/
def bigL (l : List (Nat × Lab × Tr)) : Bool := decide (1000 < l.length) || l.any over

theorem bigL_perm {a b : List (Nat × Lab × Tr)} (h : a.Perm b) : bigL a = bigL b := by
  unfold bigL
  rw [h.length_eq, h.any_eq]

theorem bigL_true {a b : List (Nat × Lab × Tr)} (h : bigL a = true) : bigL (a ++ b) = true := by
  simp only [bigL, Bool.or_eq_true, decide_eq_true_eq, List.any_append, List.length_append] at *
  rcases h with h | h
  · exact .inl (by omega)
  · exact .inr (.inl h)

set_option maxRecDepth 1000000 in
set_option maxHeartbeats 4000000 in
theorem big_any (w : World) (x : ByteArray) (t : Tr) (av : Option Addr) (am ac : Nat) (ht : TAt (· < w.heap.size) w true t av 0 am) (hb : Bnd t) :
    Calls Tryz.prog 104 #[.agg #[.string x, .slice av am ac]] w fun e w' => e = .returned (.bool (bigL (fltn 1 t))) ∧ Below w.heap.size w w' := by
  refine (callsIn_wide (n := 5)).1 ?_
  refine callsIn_of_wp_marks Tryz.func104 rfl trivial ?_ rfl
  simp only [Tryz.ntmps104, List.size_toArray, List.length_cons, List.length_nil, Nat.reduceAdd, Nat.reduceSub, Array.replicate_succ, Array.replicate_zero, List.push_toArray, List.append_toArray, List.nil_append, List.cons_append]
  gi_wp2_with (refine ⟨trivial, ?_⟩; gi_at_call 105; refine (nodes_in Fence.wide _ trivial rfl _ _ _).mono ?_; rintro e w' ⟨rfl, rfl⟩)
  obtain ⟨Wl, hWl⟩ : ∃ Wl, (((w.alloc (.cells #[.string x, .slice av am ac] 94)).alloc (.cells #[.bool false] 4)).alloc (.cells #[.int .i64 0] 3)).alloc (.cells #[.string x, .slice av am ac] 94) = Wl := ⟨_, rfl⟩
  rw [hWl]
  have hz : Wl.heap.size = w.heap.size + 4 := by rw [← hWl]; simp
  have hrb : Wl.heap[w.heap.size + 1]? = some (.cells #[.bool false] 4 (0, 0)) := by
    rw [← hWl]
    refine row_alloc (row_alloc ?_ _) _
    have := row_new (w.alloc (.cells #[.string x, .slice av am ac] 94)) #[.bool false] 4
    rwa [World.size_alloc] at this
  have hcb : Wl.heap[w.heap.size + 2]? = some (.cells #[.int .i64 0] 3 (0, 0)) := by
    rw [← hWl]
    refine row_alloc ?_ _
    have := row_new ((w.alloc (.cells #[.string x, .slice av am ac] 94)).alloc (.cells #[.bool false] 4)) #[.int .i64 0] 3
    simpa using this
  have hgb : Wl.heap[w.heap.size + 3]? = some (.cells #[.string x, .slice av am ac] 94 (0, 0)) := by
    rw [← hWl]
    have := row_new (((w.alloc (.cells #[.string x, .slice av am ac] 94)).alloc (.cells #[.bool false] 4)).alloc (.cells #[.int .i64 0] 3)) #[.string x, .slice av am ac] 94
    simpa using this
  have hbl : Below w.heap.size w Wl := by
    rw [← hWl]
    exact ((((Below.refl _ w).alloc (Nat.le_refl _) _).alloc (by simp) _).alloc (by simp; omega) _).alloc (by simp; omega) _
  clear hWl
  have hseq := nodes1_in Fence.wide 4 trivial rfl (by omega) rfl w.heap.size (1 + t.dep) (w.heap.size + 3) w Wl t av am ac (fun k hk => hbl.block k hk) (by omega) ((cell_row hgb 1).trans rfl) ht (Nat.le_refl _) (by have := hb.dep; omega) hb.tw hb.sz
  refine range_mine (n := 5) rfl (by omega) (gf := 109) (lb := #[.pointer (some ⟨w.heap.size + 3, 0, none⟩)]) rfl trivial (enters_of Tryz.func109 (by kernel_rfl) rfl) hseq (by omega) (fun _ => rfl)
    (fun pre W => W.heap[w.heap.size + 2]? = some (.cells #[.int .i64 (pre.length : Int)] 3 (0, 0)) ∧ W.heap[w.heap.size + 1]? = some (.cells #[.bool false] 4 (0, 0)) ∧ bigL (pre.map Nd.key) = false ∧ Below w.heap.size w W)
    (fun pre W => W.heap[w.heap.size + 1]? = some (.cells #[.bool true] 4 (0, 0)) ∧ bigL (pre.map Nd.key) = true ∧ Below w.heap.size w W)
    (fun s A B hs hB => ⟨(hB.block _ (by omega)).trans hs.1, (hB.block _ (by omega)).trans hs.2.1, hs.2.2.1, hs.2.2.2.trans (hB.mono (by omega))⟩)
    (fun s A B hs hB => ⟨(hB.block _ (by omega)).trans hs.1, hs.2.1, hs.2.2.trans (hB.mono (by omega))⟩) ⟨hcb, hrb, rfl, hbl⟩ ?round ?done ?stop
  case round =>
    rintro l pre y W hV hN ⟨hc, hr, hL, hB⟩ hlt
    obtain ⟨yd, yl, ya, ysv, ysm, ysc, yav, yam, yac⟩ := y
    have hyd : yd ≤ 1 + t.dep := hV.2.2.1
    have hdb := hb.dep
    have hz0 := hB.size
    have hn := hb.cn
    have hln : pre.length < 1000000000 := by omega
    simp only [Nd.enc]
    simp only [Array.zip]
    gi_wp2
    refine ⟨⟨row_alloc hc _, row_alloc hr _, hL, hB.alloc hz0 _⟩, Kr.of_below ((Below.refl _ _).alloc (Nat.le_refl _) _) (by omega), ?_⟩
    rintro W2 ⟨hc2, hr2, hL2, hB2⟩ hk2
    have hc2' : W2.heap[w.heap.size + 1 + 1]? = some (.cells #[.int .i64 (pre.length : Int)] 3 (0, 0)) := hc2
    have c0 := (cell_row hc2' 0).trans rfl
    have f0 := froz_row hc2' 0
    have hn2 := (hk2.high W.heap.size (by omega) (by simp)).trans (row_new W #[.string ⟨yl.name.toArray⟩, .string ⟨yl.undo.toArray⟩, .slice ysv ysm ysc, .bool yl.sub, .bool yl.vital, .slice yav yam yac] 148)
    have s3 : ∀ v, (W2.setCell ⟨w.heap.size + 1 + 1, 0, none⟩ v).cell? ⟨W.heap.size, 3, none⟩ = some (.bool yl.sub) := fun v => (cell_row (row_other hn2 v (by omega)) 3).trans rfl
    have r0 : ∀ v, (W2.setCell ⟨w.heap.size + 1 + 1, 0, none⟩ v).cell? ⟨w.heap.size + 1, 0, none⟩ = some (.bool false) := fun v => (cell_row (row_other hr2 v (by omega)) 0).trans rfl
    have rf : ∀ v, (W2.setCell ⟨w.heap.size + 1 + 1, 0, none⟩ v).frozen? ⟨w.heap.size + 1, 0, none⟩ = false := fun v => froz_row (row_other hr2 v (by omega)) 0
    have hany : (pre.map Nd.key).any over = false := by
      simp only [bigL, Bool.or_eq_false_iff] at hL
      exact hL.2
    have hbq : bigL ((pre ++ [(⟨yd, yl, ya, ysv, ysm, ysc, yav, yam, yac⟩ : Nd)]).map Nd.key) = (decide (1000 < pre.length + 1) || (yl.sub && yd == 70)) := by
      simp [bigL, hany, over, Nd.key]
    have kk1 : ∀ v, Kr w.heap.size Wl.heap.size W2 (W2.setCell ⟨w.heap.size + 1 + 1, 0, none⟩ v) := fun v => Kr.setCell _ _ (by omega) (by omega)
    have bb1 : ∀ v, Below w.heap.size w (W2.setCell ⟨w.heap.size + 1 + 1, 0, none⟩ v) := fun v => hB2.setCell (p := ⟨w.heap.size + 1 + 1, 0, none⟩) (by show w.heap.size ≤ w.heap.size + 1 + 1; omega) _
    have finN : ∀ aa : Act, (decide (1000 < pre.length + 1) || (yl.sub && yd == 70)) = false → myPost w.heap.size Wl.heap.size
        (fun pre W => W.heap[w.heap.size + 2]? = some (.cells #[.int .i64 (pre.length : Int)] 3 (0, 0)) ∧ W.heap[w.heap.size + 1]? = some (.cells #[.bool false] 4 (0, 0)) ∧ bigL (pre.map Nd.key) = false ∧ Below w.heap.size w W)
        (fun pre W => W.heap[w.heap.size + 1]? = some (.cells #[.bool true] 4 (0, 0)) ∧ bigL (pre.map Nd.key) = true ∧ Below w.heap.size w W)
        (pre ++ [(⟨yd, yl, ya, ysv, ysm, ysc, yav, yam, yac⟩ : Nd)]) W2 .normal aa (W2.setCell ⟨w.heap.size + 1 + 1, 0, none⟩ (.int .i64 ((pre.length : Int) + 1))) := fun _ hq => by
      refine ⟨kk1 _, ?_, row_other hr2 _ (by omega), by rw [hbq]; exact hq, bb1 _⟩
      have := row_set hc2' 0 (.int .i64 ((pre.length : Int) + 1))
      simpa using this
    have finR : ∀ aa : Act, (decide (1000 < pre.length + 1) || (yl.sub && yd == 70)) = true → myPost w.heap.size Wl.heap.size
        (fun pre W => W.heap[w.heap.size + 2]? = some (.cells #[.int .i64 (pre.length : Int)] 3 (0, 0)) ∧ W.heap[w.heap.size + 1]? = some (.cells #[.bool false] 4 (0, 0)) ∧ bigL (pre.map Nd.key) = false ∧ Below w.heap.size w W)
        (fun pre W => W.heap[w.heap.size + 1]? = some (.cells #[.bool true] 4 (0, 0)) ∧ bigL (pre.map Nd.key) = true ∧ Below w.heap.size w W)
        (pre ++ [(⟨yd, yl, ya, ysv, ysm, ysc, yav, yam, yac⟩ : Nd)]) W2 .ret aa ((W2.setCell ⟨w.heap.size + 1 + 1, 0, none⟩ (.int .i64 ((pre.length : Int) + 1))).setCell ⟨w.heap.size + 1, 0, none⟩ (.bool true)) := fun _ hq => by
      exact ⟨(kk1 _).trans (Kr.setCell _ _ (by omega) (by omega)), row_set (row_other hr2 _ (by omega)) 0 _, by rw [hbq]; exact hq, (bb1 _).setCell (p := ⟨w.heap.size + 1, 0, none⟩) (by show w.heap.size ≤ w.heap.size + 1; omega) _⟩
    clear hbq hany hL hL2 hc2 hc2' hn2 hr hc
    by_cases h1 : 1000 < pre.length + 1
    · have h1' : (1000 : Int) < (pre.length : Int) + 1 := by omega
      gi_wp2
      exact finR _ (by simp [h1])
    · have h1' : decide ((1000 : Int) < (pre.length : Int) + 1) = false := by simp; omega
      have h1d : decide (1000 < pre.length + 1) = false := by simp; omega
      cases hs : yl.sub with
      | false =>
        rw [hs] at s3 finN
        gi_wp2
        exact finN _ (by simp [h1d])
      | true =>
        rw [hs] at s3 finN finR
        by_cases h7 : yd = 70
        · subst h7
          gi_wp2
          exact finR _ (by simp)
        · have h7' : ((yd : Int) == 70) = false := by simp; omega
          gi_wp2
          exact finN _ (by simp [h1d, h7])
  case done =>
    rintro xs W hS ⟨hc, hr, hL, hB⟩ hK
    have r0 := (cell_row hr 0).trans rfl
    have rf := froz_row hr 0
    have hbig : bigL (fltn 1 t) = false := by rw [← bigL_perm hS]; exact hL
    gi_wp2
    have hKs : (W.setCell ⟨w.heap.size + 1, 0, none⟩ (.bool false)).heap[Wl.heap.size]? = some (.deferred (some [])) := (Below.heap_setCell W ⟨w.heap.size + 1, 0, none⟩ _ _ (by show Wl.heap.size ≠ w.heap.size + 1; omega)).trans hK
    have hBs : Below w.heap.size w (W.setCell ⟨w.heap.size + 1, 0, none⟩ (.bool false)) := hB.setCell (p := ⟨w.heap.size + 1, 0, none⟩) (by show w.heap.size ≤ w.heap.size + 1; omega) _
    have hr' : ((W.setCell ⟨w.heap.size + 1, 0, none⟩ (.bool false)).putObj Wl.heap.size (.deferred none)).heap[w.heap.size + 1]? = some (.cells #[.bool false] 4 (0, 0)) := (World.putObj_heap_other (by omega)).trans (row_set hr 0 _)
    have r0' : ((W.setCell ⟨w.heap.size + 1, 0, none⟩ (.bool false)).putObj Wl.heap.size (.deferred none)).cell? ⟨w.heap.size + 1, 0, none⟩ = some (.bool false) := (cell_row hr' 0).trans rfl
    refine ⟨by simp, .inl ⟨_, _, rfl, run_takeDeferred hKs, ?_⟩⟩
    exact ⟨.bool false, by simp [results, Tryz.results104, go_sem, r0'], by rw [hbig], (hBs).trans (below_putObj _ _ _ (by omega) (Array.getElem?_eq_some_iff.1 hKs).1)⟩
  case stop =>
    rintro pre W ⟨rest, hP⟩ ⟨hr, hL, hB⟩ hK
    have r0 := (cell_row hr 0).trans rfl
    have hbig : bigL (fltn 1 t) = true := by rw [← bigL_perm hP]; exact bigL_true hL
    gi_wp2
    have hr' : (W.putObj Wl.heap.size (.deferred none)).heap[w.heap.size + 1]? = some (.cells #[.bool true] 4 (0, 0)) := (World.putObj_heap_other (by omega)).trans hr
    have r0' : (W.putObj Wl.heap.size (.deferred none)).cell? ⟨w.heap.size + 1, 0, none⟩ = some (.bool true) := (cell_row hr' 0).trans rfl
    refine ⟨by simp, .inl ⟨_, _, rfl, run_takeDeferred hK, ?_⟩⟩
    exact ⟨.bool true, by simp [results, Tryz.results104, go_sem, r0'], by rw [hbig], (hB).trans (below_putObj _ _ _ (by omega) (Array.getElem?_eq_some_iff.1 hK).1)⟩

end Go.Proofs.YtlegmmhacnbnlaaGreatDoor.Sx

/- Plain facts about code points and their bytes: nothing of the program is named here. -/
namespace Go.Proofs.YtlegmmhacnbnlaaGreatDoor.Sx

/-- Is a number a code point? -/
def isCp (r : Int) : Bool := decide (0 ≤ r ∧ r ≤ 1114111 ∧ (r < 55296 ∨ 57343 < r))

/-- The width of a number as a code point; 0 of what is none. -/
def wid (r : Int) : Int := if r < 0 then 0 else if r < 128 then 1 else if r < 2048 then 2 else if r < 55296 then 3 else if r < 57344 then 0 else if r < 65536 then 3 else if r < 1114112 then 4 else 0

/-- A number's bytes, by how great it is. -/
def encN (n : Nat) : List UInt8 :=
  if n < 128 then [UInt8.ofNat n]
  else if n < 2048 then [UInt8.ofNat (192 + n / 64), UInt8.ofNat (128 + n % 64)]
  else if n < 65536 then [UInt8.ofNat (224 + n / 4096), UInt8.ofNat (128 + n / 64 % 64), UInt8.ofNat (128 + n % 64)]
  else [UInt8.ofNat (240 + n / 262144), UInt8.ofNat (128 + n / 4096 % 64), UInt8.ofNat (128 + n / 64 % 64), UInt8.ofNat (128 + n % 64)]

/-- A code point's bytes. -/
def enc (r : Int) : List UInt8 := encN r.toNat

def encAll : List Int → List UInt8
  | [] => []
  | c :: cs => enc c ++ encAll cs

/-- At the beginning of these bytes stands no code point. -/
def NoCp (l : List UInt8) : Prop := ∀ c, isCp c = true → ¬ (enc c <+: l)

/-- A text's code points, and what is left from the first bad byte on. -/
structure Parts (l : List UInt8) (cs : List Int) (rest : List UInt8) : Prop where
  eq : l = encAll cs ++ rest
  cp : ∀ c ∈ cs, isCp c = true
  stop : rest = [] ∨ NoCp rest

theorem isCp_iff (r : Int) : isCp r = true ↔ (0 ≤ r ∧ r ≤ 1114111 ∧ (r < 55296 ∨ 57343 < r)) := by simp [isCp]

theorem ofNat_toNat (n : Nat) (h : n < 256) : (UInt8.ofNat n).toNat = n := by
  simp [Nat.mod_eq_of_lt h]

theorem valid_of (r : Int) (h : isCp r = true) : Utf8.valid r = true := by
  rw [isCp_iff] at h
  simp [Utf8.valid]
  omega

theorem enc_nat (n : Nat) : enc n = encN n := by
  rw [enc, Int.toNat_natCast]

theorem enc1 (n : Nat) (h : n < 128) : enc n = [UInt8.ofNat n] := by
  rw [enc_nat, encN, if_pos h]

theorem enc2 (n : Nat) (h0 : 128 ≤ n) (h : n < 2048) : enc n = [UInt8.ofNat (192 + n / 64), UInt8.ofNat (128 + n % 64)] := by
  rw [enc_nat, encN, if_neg (by omega), if_pos h]

theorem enc3 (n : Nat) (h0 : 2048 ≤ n) (h : n < 65536) : enc n = [UInt8.ofNat (224 + n / 4096), UInt8.ofNat (128 + n / 64 % 64), UInt8.ofNat (128 + n % 64)] := by
  rw [enc_nat, encN, if_neg (by omega), if_neg (by omega), if_pos h]

theorem enc4 (n : Nat) (h0 : 65536 ≤ n) : enc n = [UInt8.ofNat (240 + n / 262144), UInt8.ofNat (128 + n / 4096 % 64), UInt8.ofNat (128 + n / 64 % 64), UInt8.ofNat (128 + n % 64)] := by
  rw [enc_nat, encN, if_neg (by omega), if_neg (by omega), if_neg (by omega)]

/-- A code point is of one of four kinds. -/
theorem cp_cases (r : Int) (h : isCp r = true) : ∃ n : Nat, r = n ∧ (n < 128 ∨ (128 ≤ n ∧ n < 2048) ∨ (2048 ≤ n ∧ n < 65536 ∧ (n < 55296 ∨ 57343 < n)) ∨ (65536 ≤ n ∧ n < 1114112)) := by
  rw [isCp_iff] at h
  exact ⟨r.toNat, by omega, by omega⟩

theorem get_drop (s : ByteArray) (pos k : Nat) : s.get! (pos + k) = (s.data.toList.drop pos)[k]?.getD 0 := by
  rw [List.getElem?_drop]
  show s.data[pos + k]! = _
  by_cases h : pos + k < s.data.size
  · rw [getElem!_pos s.data (pos + k) h]
    rw [Array.getElem?_toList, Array.getElem?_eq_getElem h]
    rfl
  · rw [getElem!_neg s.data (pos + k) h]
    rw [Array.getElem?_toList, Array.getElem?_eq_none (by omega)]
    rfl

theorem in_drop (s : ByteArray) (pos k : Nat) : decide (pos + k < s.size) = decide (k < (s.data.toList.drop pos).length) := by
  rw [decide_eq_decide, List.length_drop]
  show pos + k < s.data.size ↔ _
  simp
  omega

theorem decode_cp (s : ByteArray) (pos : Nat) (c : Int) (t : List UInt8) (hl : s.data.toList.drop pos = enc c ++ t) (h : isCp c = true) : Utf8.decode s pos = (c.toNat, (enc c).length) := by
  unfold Utf8.decode Utf8.runeError
  simp only [get_drop, in_drop, hl]
  clear hl
  obtain ⟨n, rfl, hn⟩ := cp_cases c h
  rcases hn with hn | ⟨h1, h2⟩ | ⟨h1, h2, h3⟩ | ⟨h1, h2⟩
  · rw [enc1 n hn]
    have e0 := ofNat_toNat n (by omega)
    simp only [List.cons_append, List.nil_append, List.getElem?_cons_zero, Option.getD_some, e0]
    rw [if_pos hn]
    simp
  · rw [enc2 n h1 h2]
    have e0 := ofNat_toNat (192 + n / 64) (by omega)
    have e1 := ofNat_toNat (128 + n % 64) (by omega)
    simp only [List.cons_append, List.nil_append, List.getElem?_cons_zero, List.getElem?_cons_succ, Option.getD_some, e0, e1]
    rw [if_neg (by omega), if_pos (by simp; omega), if_pos (by omega)]
    simp
    omega
  · rw [enc3 n h1 h2]
    have e0 := ofNat_toNat (224 + n / 4096) (by omega)
    have e1 := ofNat_toNat (128 + n / 64 % 64) (by omega)
    have e2 := ofNat_toNat (128 + n % 64) (by omega)
    simp only [List.cons_append, List.nil_append, List.getElem?_cons_zero, List.getElem?_cons_succ, Option.getD_some, e0, e1, e2]
    have ec : (224 + n / 4096) % 16 * 4096 + (128 + n / 64 % 64) % 64 * 64 + (128 + n % 64) % 64 = n := by omega
    rw [ec]
    rw [if_neg (by omega), if_neg (by simp; omega), if_pos (by simp; omega), if_pos (by simp [valid_of _ h]; omega)]
    simp
  · rw [enc4 n h1]
    have e0 := ofNat_toNat (240 + n / 262144) (by omega)
    have e1 := ofNat_toNat (128 + n / 4096 % 64) (by omega)
    have e2 := ofNat_toNat (128 + n / 64 % 64) (by omega)
    have e3 := ofNat_toNat (128 + n % 64) (by omega)
    simp only [List.cons_append, List.nil_append, List.getElem?_cons_zero, List.getElem?_cons_succ, Option.getD_some, e0, e1, e2, e3]
    have ec : (240 + n / 262144) % 8 * 262144 + (128 + n / 4096 % 64) % 64 * 4096 + (128 + n / 64 % 64) % 64 * 64 + (128 + n % 64) % 64 = n := by omega
    rw [ec]
    rw [if_neg (by omega), if_neg (by simp; omega), if_neg (by simp; omega), if_pos (by simp; omega), if_pos (by simp [valid_of _ h]; omega)]
    simp

theorem cp_of_valid (n : Nat) (h : Utf8.valid n = true) : isCp n = true := by
  rw [isCp_iff]
  simp [Utf8.valid] at h
  omega

theorem byte_eq (a : UInt8) (n : Nat) (h : a.toNat = n) : UInt8.ofNat n = a := by
  apply UInt8.toNat_inj.1
  have := a.toNat_lt
  rw [ofNat_toNat n (by omega), h]

theorem pre_two (a b : UInt8) (t : List UInt8) (h1 : a.toNat / 32 = 6) (h2 : b.toNat / 64 = 2) (h3 : 128 ≤ a.toNat % 32 * 64 + b.toNat % 64) :
    ∃ c, isCp c = true ∧ enc c <+: a :: b :: t := by
  have ha := a.toNat_lt
  have hb := b.toNat_lt
  refine ⟨((a.toNat % 32 * 64 + b.toNat % 64 : Nat) : Int), by rw [isCp_iff]; omega, ?_⟩
  rw [enc2 _ (by omega) (by omega), byte_eq a _ (by omega), byte_eq b _ (by omega)]
  exact ⟨t, rfl⟩

theorem pre_three (a b c : UInt8) (t : List UInt8) (h1 : a.toNat / 16 = 14) (h2 : b.toNat / 64 = 2) (h4 : c.toNat / 64 = 2) (h3 : 2048 ≤ a.toNat % 16 * 4096 + b.toNat % 64 * 64 + c.toNat % 64)
    (hv : Utf8.valid ((a.toNat % 16 * 4096 + b.toNat % 64 * 64 + c.toNat % 64 : Nat) : Int) = true) : ∃ r, isCp r = true ∧ enc r <+: a :: b :: c :: t := by
  have ha := a.toNat_lt
  have hb := b.toNat_lt
  have hc := c.toNat_lt
  refine ⟨((a.toNat % 16 * 4096 + b.toNat % 64 * 64 + c.toNat % 64 : Nat) : Int), cp_of_valid _ hv, ?_⟩
  rw [enc3 _ (by omega) (by omega), byte_eq a _ (by omega), byte_eq b _ (by omega), byte_eq c _ (by omega)]
  exact ⟨t, rfl⟩

theorem pre_four (a b c d : UInt8) (t : List UInt8) (h1 : a.toNat / 8 = 30) (h2 : b.toNat / 64 = 2) (h4 : c.toNat / 64 = 2) (h5 : d.toNat / 64 = 2) (h3 : 65536 ≤ a.toNat % 8 * 262144 + b.toNat % 64 * 4096 + c.toNat % 64 * 64 + d.toNat % 64)
    (hv : Utf8.valid ((a.toNat % 8 * 262144 + b.toNat % 64 * 4096 + c.toNat % 64 * 64 + d.toNat % 64 : Nat) : Int) = true) : ∃ r, isCp r = true ∧ enc r <+: a :: b :: c :: d :: t := by
  have ha := a.toNat_lt
  have hb := b.toNat_lt
  have hc := c.toNat_lt
  have hd := d.toNat_lt
  refine ⟨((a.toNat % 8 * 262144 + b.toNat % 64 * 4096 + c.toNat % 64 * 64 + d.toNat % 64 : Nat) : Int), cp_of_valid _ hv, ?_⟩
  rw [enc4 _ (by omega), byte_eq a _ (by omega), byte_eq b _ (by omega), byte_eq c _ (by omega), byte_eq d _ (by omega)]
  exact ⟨t, rfl⟩

/-- Where a range tells another thing than the bad byte's answer, a code point stands. -/
theorem decode_good (s : ByteArray) (pos : Nat) (a : UInt8) (t : List UInt8) (hl : s.data.toList.drop pos = a :: t) (q : Nat) (h : Utf8.decode s pos ≠ (q, 1) ∨ a.toNat < 128) (hq : q = 65533) : ∃ c, isCp c = true ∧ enc c <+: a :: t := by
  by_cases h0 : a.toNat < 128
  · refine ⟨(a.toNat : Int), by rw [isCp_iff]; omega, ?_⟩
    rw [enc1 _ h0, byte_eq a _ rfl]
    exact ⟨t, rfl⟩
  have hd : Utf8.decode s pos ≠ (q, 1) := by
    rcases h with h | h
    · exact h
    · exact absurd h h0
  rw [hq] at hd
  revert hd
  unfold Utf8.decode Utf8.runeError
  simp only [get_drop, in_drop, hl]
  clear hl
  simp only [List.getElem?_cons_zero, Option.getD_some]
  generalize (65533, 1) = z
  rw [if_neg h0]
  split
  · rename_i h1
    split
    · rename_i h2
      intro _
      cases t with
      | nil => simp at h1
      | cons b t =>
        simp only [List.getElem?_cons_succ, List.getElem?_cons_zero, Option.getD_some] at h1 h2
        simp at h1
        exact pre_two a b t h1.1 h1.2 h2
    · intro hx; exact absurd rfl hx
  split
  · rename_i h1 h2
    clear h1
    split
    · rename_i h3
      intro _
      cases t with
      | nil => simp at h2
      | cons b t =>
        cases t with
        | nil => simp at h2
        | cons c t =>
          simp only [List.getElem?_cons_succ, List.getElem?_cons_zero, Option.getD_some] at h2 h3
          simp at h2
          simp only [Bool.and_eq_true, decide_eq_true_eq] at h3
          exact pre_three a b c t h2.1.1 h2.1.2 h2.2 h3.1 h3.2
    · intro hx; exact absurd rfl hx
  split
  · rename_i h1 h2 h3
    clear h1 h2
    split
    · rename_i h4
      intro _
      cases t with
      | nil => simp at h3
      | cons b t =>
        cases t with
        | nil => simp at h3
        | cons c t =>
          cases t with
          | nil => simp at h3
          | cons d t =>
            simp only [List.getElem?_cons_succ, List.getElem?_cons_zero, Option.getD_some] at h3 h4
            simp at h3
            simp only [Bool.and_eq_true, decide_eq_true_eq] at h4
            exact pre_four a b c d t h3.1.1.1 h3.1.1.2 h3.1.2 h3.2 h4.1 h4.2
    · intro hx; exact absurd rfl hx
  · intro hx; exact absurd rfl hx

theorem decode_none (s : ByteArray) (pos : Nat) (l : List UInt8) (hl : s.data.toList.drop pos = l) (h : NoCp l) (hne : l ≠ []) : Utf8.decode s pos = (65533, 1) := by
  cases l with
  | nil => exact absurd rfl hne
  | cons a t =>
    by_cases hd : Utf8.decode s pos = (65533, 1)
    · exact hd
    · obtain ⟨c, hc, hp⟩ := decode_good s pos a t hl 65533 (.inl hd) rfl
      exact absurd hp (h c hc)

end Go.Proofs.YtlegmmhacnbnlaaGreatDoor.Sx

