/- Texts of the seat, packed: Yr Ys Yt Yu. -/
import Derived.Test.YtephkdocfhajiaaDoorP39
import Derived.Laws.Rows
/- The program's Collect and Kids. -/
namespace Go.Proofs.YtephkdocfhajiaaDoor
open Go.RowKit Go.Shelf Go.Proofs.YtephkdocfhajiaaDoor.Sx

theorem kidsF_len (inn alt : Int) : ∀ (l : List It) (i : Nat), (kidsF inn alt i l).length ≤ l.length
  | [], _ => Nat.le_refl _
  | x :: r, i => by
    have := kidsF_len inn alt r (i + 1)
    rw [kidsF]
    split <;> simp only [List.length_cons] <;> omega

/-- The items that stand in a spot, or none where there is no such item. -/
def kidsL (its : List It) (inn alt : Int) : List Nat := if 0 ≤ inn ∧ inn < (its.length : Int) then kidsF inn alt 0 its else []

theorem collect_seq (w0 : World) (b : Nat) (its : List It) (ov : List (List Nat)) (inn alt : Int) (h : VwAt w0 b its ov) (hn : its.length ≤ 100000) :
    Calls Tryd.prog 72 #[.slice none 0 0, .func (Fn.func 73) #[] #[.pointer (some ⟨w0.heap.size, 0, none⟩), .pointer (some ⟨w0.heap.size + 1, 0, none⟩)]] ((w0.alloc (.cells #[.pointer (some ⟨b, 0, none⟩)] 55)).alloc (.cells #[.int .i64 inn, .int .i64 alt] 97)) fun e w' => Below w0.heap.size w0 w' ∧ ∃ u, e = .returned u ∧ RdZ w' u ((kidsF inn alt 0 its).map fun (x : Nat) => (x : Int)) := by
  obtain ⟨sv, ovv, h0, h1, h2, h3, h4⟩ := h
  have hl := kidsF_len inn alt its 0
  have q0 := Dg.row_new w0 #[.pointer (some ⟨b, 0, none⟩)] 55
  have q1 := Dg.row_alloc q0 (.cells #[.int .i64 inn, .int .i64 alt] 97)
  have q2 := Dg.row_new (w0.alloc (.cells #[.pointer (some ⟨b, 0, none⟩)] 55)) #[.int .i64 inn, .int .i64 alt] 97
  rw [World.size_alloc] at q2
  have hbel : Below w0.heap.size w0 ((w0.alloc (.cells #[.pointer (some ⟨b, 0, none⟩)] 55)).alloc (.cells #[.int .i64 inn, .int .i64 alt] 97)) := ((Below.refl _ w0).alloc (Nat.le_refl _) _).alloc (by simp) _
  have hsz : ((w0.alloc (.cells #[.pointer (some ⟨b, 0, none⟩)] 55)).alloc (.cells #[.int .i64 inn, .int .i64 alt] 97)).heap.size = w0.heap.size + 2 := by simp
  generalize (w0.alloc (.cells #[.pointer (some ⟨b, 0, none⟩)] 55)).alloc (.cells #[.int .i64 inn, .int .i64 alt] 97) = w at *
  have hLo : Lo w0 w (fun k => k = w0.heap.size ∨ k = w0.heap.size + 1) := ⟨hbel, fun k hk => by omega, fun k hk => by omega⟩
  have hb2 : Below w0.heap.size w0 (w.alloc (.cells #[.slice none 0 0] 41)) := hbel.alloc hbel.size _
  have hit := within_itr w0 b its sv inn alt (w.alloc (.cells #[.slice none 0 0] 41)) w0.heap.size (w0.heap.size + 1) (fun k => k = w0.heap.size ∨ k = w0.heap.size + 1) _ rfl h0 h2 (by omega) (fun k hk => hb2.block k hk) hb2.size (Dg.row_alloc q1 _) (Dg.row_alloc q2 _) (.inl rfl) (.inr rfl) (fun k hk => by rw [World.size_alloc]; omega)
  refine Calls.mono (callsIn_wide.1 (AppendSeq_in w0 w _ _ _ (by omega) hLo hit)) ?_
  rintro e w' ⟨hb, u, rfl, ho⟩
  exact ⟨hb, u, rfl, RdZ.of_own ho⟩

set_option maxRecDepth 1000000 in
theorem Collect_any (w0 : World) (b : Nat) (its : List It) (ov : List (List Nat)) (inn alt : Int) (h : VwAt w0 b its ov) (hn : its.length ≤ 100000) :
    Calls Tryd.prog 45 #[.func (Fn.func 73) #[] #[.pointer (some ⟨w0.heap.size, 0, none⟩), .pointer (some ⟨w0.heap.size + 1, 0, none⟩)]] ((w0.alloc (.cells #[.pointer (some ⟨b, 0, none⟩)] 55)).alloc (.cells #[.int .i64 inn, .int .i64 alt] 97)) fun e w' => Below w0.heap.size w0 w' ∧ ∃ u, e = .returned u ∧ RdZ w' u ((kidsF inn alt 0 its).map fun (x : Nat) => (x : Int)) := by
  have H : Hid _ := collect_seq w0 b its ov inn alt h hn
  clear h
  go_enter Tryd.func45, Tryd.ntmps45
  go_wp2_with fail
  refine Calls.mono H.out ?_
  rintro e w1 ⟨hb, u, rfl, hu⟩
  go_wp2_with fail
  go_ret
  exact ⟨hb, _, rfl, hu⟩

set_option maxRecDepth 1000000 in
/-- Kids, of any numbers. -/
theorem Kids_all (b : Nat) (inn alt : Int) (its : List It) (ov : List (List Nat)) (w : World) (h : VwAt w b its ov) (hn : its.length ≤ 100000) :
    Calls Tryd.prog 23 #[.pointer (some ⟨b, 0, none⟩), .int .i64 inn, .int .i64 alt] w fun e w' => Below w.heap.size w w' ∧ ∃ u, e = .returned u ∧ RdZ w' u ((kidsL its inn alt).map fun (x : Nat) => (x : Int)) := by
  have h8 := h.has inn
  by_cases hi : 0 ≤ inn ∧ inn < (its.length : Int)
  · rw [decide_eq_true hi] at h8
    have H1 : Hid _ := h8
    have H2 : Hid _ := Collect_any w b its ov inn alt h hn
    unfold kidsL
    rw [if_pos hi]
    clear h8 h
    go_enter Tryd.func23, Tryd.ntmps23
    go_wp2_with fail
    refine Calls.mono H1.out ?_
    rintro e w1 ⟨rfl, rfl⟩
    go_wp2_with fail
    refine Calls.mono (within_maker b inn alt w1) ?_
    rintro e w2 ⟨rfl, rfl⟩
    go_wp2_with fail
    refine Calls.mono H2.out ?_
    rintro e w3 ⟨hb, u, rfl, hu⟩
    go_wp2_with fail
    go_ret
    exact ⟨hb, _, rfl, hu⟩
  · rw [decide_eq_false hi] at h8
    refine Calls.mono (Kids_no _ inn alt w h8) ?_
    rintro e w' ⟨rfl, rfl⟩
    unfold kidsL
    rw [if_neg hi]
    exact ⟨Below.refl _ _, _, rfl, RdZ_nil _⟩

/-- What Kids tells of a plan. -/
noncomputable def kidsI (its : List It) (inn alt : Int) : List Nat := if (sagaP its).isSome then kidsL its inn alt else []

set_option maxRecDepth 1000000 in
theorem KidsP_any (its : List It) (v : Value) (inn alt : Int) (w : World) (hIt : RdIt w v its) (hF : FairI its) (hT : Dg.Tab w) :
    Calls Tryd.prog 17 #[.agg #[v], .int .i64 inn, .int .i64 alt] w fun e w' => Below w.heap.size w w' ∧ ∃ u, e = .returned u ∧ RdZ w' u ((kidsI its inn alt).map fun (x : Nat) => (x : Int)) := by
  have hb1 : Below w.heap.size w (w.alloc (.cells #[v] 27)) := (Below.refl _ w).alloc (Nat.le_refl _) _
  have r1 := Dg.row_new w #[v] 27
  have M : Hid _ := See_any its v _ (hIt.later hb1) hF (hT.later hb1)
  obtain ⟨ia, icap, rfl, _⟩ := hIt
  have g0 := (Dg.cell_row r1 0).trans rfl
  go_enter Tryd.func17, Tryd.ntmps17
  go_wp2_with fail
  generalize w.alloc (.cells #[.slice ia its.length icap] 27) = w1 at *
  refine Calls.mono M.out ?_
  rintro e w2 ⟨hb2, he⟩
  clear M g0
  have HBW : Hid _ := hb1.trans (hb2.mono hb1.size)
  cases hP : sagaP its with
  | none =>
    rw [hP] at he
    obtain rfl : e = .returned (.tuple #[.pointer none, .int .i64 2]) := he
    have HP : Hid (kidsI its inn alt = []) := by show _ = _; unfold kidsI; rw [hP]; rfl
    clear hP
    go_wp2_with fail
    refine Calls.mono (Kids_no none inn alt w2 (has_nil inn w2)) ?_
    rintro e w3 ⟨rfl, rfl⟩
    go_wp2_with fail
    go_ret
    rw [HP.out]
    exact ⟨HBW.out, _, rfl, RdZ_nil _⟩
  | some p =>
    rw [hP] at he
    obtain ⟨b, W, o, rfl, hz, hW, hV⟩ := he
    have HP : Hid (kidsI its inn alt = kidsL its inn alt) := by show _ = _; unfold kidsI; rw [hP]; rfl
    have MO : Hid _ := Kids_all b inn alt its (Dg.reachL W o) w2 hV (by have := (right_facts hP).1; omega)
    clear hP hW hV
    go_wp2_with fail
    refine Calls.mono MO.out ?_
    rintro e w3 ⟨hb3, u, rfl, hu⟩
    go_wp2_with fail
    go_ret
    rw [HP.out]
    exact ⟨HBW.out.trans (hb3.mono HBW.out.size), _, rfl, hu⟩
end Go.Proofs.YtephkdocfhajiaaDoor

/- The laws' example: its plan, its saga, and what is told of it. -/
namespace Go.Proofs.YtephkdocfhajiaaDoor
open Go.RowKit Go.Shelf Go.Proofs.YtephkdocfhajiaaDoor.Sx

theorem name1 (c : UInt8) (n : Int) (h1 : enc n = [c]) (h2 : kl n = 1) (h3 : isCp n = true) : nameP [c] :=
  ⟨[n], by simp [encAll, h1], n, [], rfl, h2, by simp, by simp [h3], by simp [encAll, h1]⟩

theorem nm_t : nmP [116] = true := by
  rw [nmP, (isName_iff _).2 (name1 116 116 (by decide +kernel) (by decide +kernel) (by decide +kernel))]; rfl
theorem nm_a : nmP [97] = true := by
  rw [nmP, (isName_iff _).2 (name1 97 97 (by decide +kernel) (by decide +kernel) (by decide +kernel))]; rfl
theorem nm_b : nmP [98] = true := by
  rw [nmP, (isName_iff _).2 (name1 98 98 (by decide +kernel) (by decide +kernel) (by decide +kernel))]; rfl
theorem nm_c : nmP [99] = true := by
  rw [nmP, (isName_iff _).2 (name1 99 99 (by decide +kernel) (by decide +kernel) (by decide +kernel))]; rfl
theorem nm_d : nmP [100] = true := by
  rw [nmP, (isName_iff _).2 (name1 100 100 (by decide +kernel) (by decide +kernel) (by decide +kernel))]; rfl
theorem nm_e : nmP [101] = true := by
  rw [nmP, (isName_iff _).2 (name1 101 101 (by decide +kernel) (by decide +kernel) (by decide +kernel))]; rfl

/-- The example's bodies. -/
def tEx : Tr := .b (.n ⟨[97], [98], [], false, false⟩ .e (.n ⟨[99], [], [[97]], true, false⟩ (.b (.n ⟨[100], [101], [], false, false⟩ .e .e) .e) .e)) .e
/-- Its items. -/
def iEx : List It := [⟨[116], [], true, true, 1, -1, 0, []⟩, ⟨[97], [98], false, false, 0, 0, 0, []⟩, ⟨[99], [], true, false, 1, 0, 0, [1]⟩, ⟨[100], [101], false, false, 0, 2, 0, []⟩]
/-- One node that has no undo. -/
def tNo : Tr := .b (.n ⟨[97], [], [], false, false⟩ .e .e) .e

theorem right_ex : rightS [116] tEx = true := by
  unfold rightS okL
  rw [nm_t]
  have hb : bigL (fltn 1 tEx) = false := by decide +kernel
  rw [hb]
  simp [tEx, fltn, nodeOk, nm_a, nm_b, nm_c, nm_d, nm_e, Tr.len]

theorem fit_ex : fitS [116] tEx = true := by
  unfold fitS codeS
  rw [right_ex]
  decide +kernel

theorem plan_ex : planT [116] tEx = some iEx := by
  unfold planT planP
  rw [if_pos ⟨fit_ex, by decide +kernel, by decide +kernel, by kernel_rfl⟩]
  kernel_rfl

theorem saga_ex : sagaP iEx = some ([116], tEx) := by
  have h1 : nameI iEx 0 = [116] := by kernel_rfl
  have h2 : bodS iEx = tEx := by kernel_rfl
  unfold sagaP
  rw [h1, h2, if_pos ⟨by decide +kernel, plan_ex⟩]

theorem plan_no : planT [116] tNo = none := by
  unfold planT planP
  rw [if_neg]
  rintro ⟨_, h, _⟩
  revert h
  decide +kernel

theorem kids_ex : kidsI iEx 2 0 = [3] := by unfold kidsI; rw [saga_ex]; decide +kernel
theorem above_ex : aboveI iEx 3 = [2, 0] := by unfold aboveI; rw [saga_ex]; decide +kernel
theorem over_ex : overI iEx 1 = [2] := by unfold overI; rw [saga_ex]; show overL (ovT iEx) 1 = [2]; kernel_rfl
end Go.Proofs.YtephkdocfhajiaaDoor

/- The laws' example, in memory. -/
namespace Go.Proofs.YtephkdocfhajiaaDoor
open Go.RowKit Go.Shelf Go.Proofs.YtephkdocfhajiaaDoor.Sx

def nodeV (nm un : List UInt8) (af : Value) (sub : Bool) (al : Value) : List Value := [.string ⟨nm.toArray⟩, .string ⟨un.toArray⟩, af, .bool sub, .bool false, al]

/-- The example's bodies, in the blocks that hold them. -/
theorem ex_tree (W : World) (b2 b3 b4 b6 b7 : Nat)
    (r2 : W.heap[b2]? = some (.cells #[.string ⟨#[97]⟩] 9 (0, 0)))
    (r3 : W.heap[b3]? = some (.cells #[.string ⟨#[100]⟩, .string ⟨#[101]⟩, .slice none 0 0, .bool false, .bool false, .slice none 0 0] 68 (0, 0)))
    (r4 : W.heap[b4]? = some (.cells #[.slice (some ⟨b3, 0, none⟩) 1 1] 71 (0, 0)))
    (r6 : W.heap[b6]? = some (.cells #[.string ⟨#[97]⟩, .string ⟨#[98]⟩, .slice none 0 0, .bool false, .bool false, .slice none 0 0, .string ⟨#[99]⟩, .string ⟨#[]⟩, .slice (some ⟨b2, 0, none⟩) 1 1, .bool true, .bool false, .slice (some ⟨b4, 0, none⟩) 1 1] 68 (0, 0)))
    (r7 : W.heap[b7]? = some (.cells #[.slice (some ⟨b6, 0, none⟩) 2 2] 71 (0, 0))) :
    TAt (· < W.heap.size) W true tEx (some ⟨b7, 0, none⟩) 0 1 := by
  have l2 := (Array.getElem?_eq_some_iff.1 r2).1
  have l3 := (Array.getElem?_eq_some_iff.1 r3).1
  have l4 := (Array.getElem?_eq_some_iff.1 r4).1
  have l6 := (Array.getElem?_eq_some_iff.1 r6).1
  have l7 := (Array.getElem?_eq_some_iff.1 r7).1
  have nl : SAt (· < W.heap.size) W [] none 0 := ⟨rfl, fun i x hx => by simp at hx⟩
  refine ⟨rfl, by omega, ⟨b7, 0, _, 2, 2, rfl, l7, (Dg.cell_row r7 0).trans rfl, ⟨rfl, by omega, ⟨b6, 0, none, 0, 0, none, 0, 0, rfl, l6, (Dg.cell_row r6 0).trans rfl, (Dg.cell_row r6 1).trans rfl, (Dg.cell_row r6 2).trans rfl, (Dg.cell_row r6 3).trans rfl, (Dg.cell_row r6 4).trans rfl, (Dg.cell_row r6 5).trans rfl, nl, rfl⟩, rfl, by omega,
    ⟨b6, 0, some ⟨b2, 0, none⟩, 1, 1, some ⟨b4, 0, none⟩, 1, 1, rfl, l6, (Dg.cell_row r6 6).trans rfl, (Dg.cell_row r6 7).trans rfl, (Dg.cell_row r6 8).trans rfl, (Dg.cell_row r6 9).trans rfl, (Dg.cell_row r6 10).trans rfl, (Dg.cell_row r6 11).trans rfl, ⟨rfl, ?_⟩, rfl, by omega, ⟨b4, 0, _, 1, 1, rfl, l4, (Dg.cell_row r4 0).trans rfl, ⟨rfl, by omega, ⟨b3, 0, none, 0, 0, none, 0, 0, rfl, l3, (Dg.cell_row r3 0).trans rfl, (Dg.cell_row r3 1).trans rfl, (Dg.cell_row r3 2).trans rfl, (Dg.cell_row r3 3).trans rfl, (Dg.cell_row r3 4).trans rfl, (Dg.cell_row r3 5).trans rfl, nl, rfl⟩, rfl⟩⟩, rfl⟩, rfl⟩⟩, rfl⟩
  intro i x hx
  match i, hx with
  | 0, hx =>
    simp at hx
    subst hx
    exact ⟨b2, 0, rfl, l2, (Dg.cell_row r2 0).trans rfl⟩
  | i + 1, hx => simp at hx

theorem old1 {W : World} {k : Nat} {x : Obj} (h : W.heap[k]? = some x) (o : Obj) : (W.alloc o).heap[k]? = some x := (Below.heap_alloc _ _ _ (Array.getElem?_eq_some_iff.1 h).1).trans h
theorem new1 (W : World) (o : Obj) (k : Nat) (h : k = W.heap.size) : (W.alloc o).heap[k]? = some o := by subst h; exact World.alloc_heap_new W o

theorem eight (w : World) (o0 o1 o2 o3 o4 o5 o6 o7 : Obj) :
    let W := (((((((w.alloc o0).alloc o1).alloc o2).alloc o3).alloc o4).alloc o5).alloc o6).alloc o7
    W.heap[w.heap.size]? = some o0 ∧ W.heap[w.heap.size + 1 + 1]? = some o2 ∧ W.heap[w.heap.size + 1 + 1 + 1]? = some o3 ∧ W.heap[w.heap.size + 1 + 1 + 1 + 1]? = some o4 ∧ W.heap[w.heap.size + 1 + 1 + 1 + 1 + 1 + 1]? = some o6 ∧ W.heap[w.heap.size + 1 + 1 + 1 + 1 + 1 + 1 + 1]? = some o7 ∧ Below w.heap.size w W := by
  refine ⟨?_, ?_, ?_, ?_, ?_, ?_, ?_⟩
  · exact old1 (old1 (old1 (old1 (old1 (old1 (old1 (new1 w o0 _ rfl) _) _) _) _) _) _) _
  · exact old1 (old1 (old1 (old1 (old1 (new1 _ o2 _ (by simp)) _) _) _) _) _
  · exact old1 (old1 (old1 (old1 (new1 _ o3 _ (by simp)) _) _) _) _
  · exact old1 (old1 (old1 (new1 _ o4 _ (by simp)) _) _) _
  · exact old1 (new1 _ o6 _ (by simp)) _
  · exact new1 _ o7 _ (by simp)
  · exact (((((((((Below.refl _ w).alloc (Nat.le_refl _) _).alloc (by simp) _).alloc (by simp; omega) _).alloc (by simp; omega) _).alloc (by simp; omega) _).alloc (by simp; omega) _).alloc (by simp; omega) _).alloc (by simp; omega) _)

set_option maxRecDepth 1000000 in
set_option maxHeartbeats 1000000 in
theorem example_any (w : World) : Calls Tryd.prog 28 #[] w fun e w' => Below w.heap.size w w' ∧ ∃ a, e = .returned (.agg #[.string ⟨#[116]⟩, .slice a 1 1]) ∧ TAt (· < w'.heap.size) w' true tEx a 0 1 := by
  go_enter Tryd.func28, Tryd.ntmps28
  go_wp2_with fail
  obtain ⟨q0, q2, q3, q4, q6, q7, hb⟩ := eight w _ _ _ _ _ _ _ _
  refine ⟨rfl, _, results_cell_row (p := 0) (ty := 24) rfl _ _ w.heap.size 24 #[_, _] (0, 0) _ rfl q0 Tryd.underlying24 rfl (by kernel_rfl), hb, _, rfl, ?_⟩
  exact ex_tree _ _ _ _ _ _ q2 q3 q4 q6 q7
end Go.Proofs.YtephkdocfhajiaaDoor

/- The laws' small. -/
namespace Go.Proofs.YtephkdocfhajiaaDoor
open Go.RowKit Go.Shelf Go.Proofs.YtephkdocfhajiaaDoor.Sx

def okIt (x : It) : Bool := decide (x.name.length ≤ 200) && (decide (x.undo.length ≤ 200) && decide (x.after.length ≤ 100))
/-- Is a plan small? -/
def smallI (its : List It) : Bool := (its.take 70).all okIt && decide (its.length ≤ 70)

theorem small_no {its : List It} {i : Nat} {x : It} (hx : its[i]? = some x) (hi : i < 70) (h : okIt x = false) : smallI its = false := by
  unfold smallI
  have : (its.take 70).all okIt = false := by
    rw [List.all_eq_false]
    exact ⟨x, List.mem_of_getElem? (i := i) (by rw [List.getElem?_take, if_pos hi]; exact hx), by rw [h]; simp⟩
  rw [this]
  rfl

set_option maxRecDepth 1000000 in
set_option maxHeartbeats 1000000 in
theorem small_any (its : List It) (v : Value) (w : World) (hIt : RdIt w v its) (hmx : its.length ≤ maxLen) (hnm : ∀ x ∈ its, x.name.length ≤ maxLen ∧ x.undo.length ≤ maxLen ∧ x.after.length ≤ maxLen) :
    Calls Tryd.prog 8 #[.agg #[v]] w fun e w' => e = .returned (.bool (smallI its)) ∧ Below w.heap.size w w' := by
  obtain ⟨ia, icap, rfl, hic, hir⟩ := hIt
  have HIR : Hid _ := hir
  have HNM : Hid _ := hnm
  obtain ⟨il, HIL⟩ : ∃ il, Hid (its.length = il) := ⟨_, rfl⟩
  rw [HIL.out] at hic hmx ⊢
  unfold maxLen at hmx
  clear hir hnm
  have hb1 : Below w.heap.size w (w.alloc (.cells #[.slice ia il icap] 27)) := (Below.refl _ w).alloc (Nat.le_refl _) _
  have r1 := Dg.row_new w #[.slice ia il icap] 27
  have hg0 := (Dg.cell_row r1 0).trans rfl
  go_enter Tryd.func8, Tryd.ntmps8
  go_wp2_with fail
  generalize w.alloc (.cells #[.slice ia il icap] 27) = w0 at *
  have HB0 : Hid _ := hb1
  clear hb1 r1
  go_loopw [3] (fun iv wr => ∃ (i : Nat), i ≤ il ∧ i ≤ 70 ∧ iv = .int .i64 i ∧ Hid (∀ x ∈ its.take i, okIt x = true) ∧ Hid (Below w0.heap.size w0 wr)) (fun iv _ => il - (intOf iv).toNat)
  case atStart => exact ⟨0, Nat.zero_le _, by omega, rfl, by show ∀ x ∈ its.take 0, _; simp, Below.refl _ _⟩
  case round =>
    obtain ⟨i, hi, hi70, rfl, HF, HB⟩ := hrel
    rename World => w1
    have g0 := Dg.cell_later HB.out hg0
    by_cases hlt : i < il ∧ i < 70
    rotate_left
    · have HT : Hid (smallI its = decide (il ≤ 70)) := by
        show _ = _
        unfold smallI
        have : (its.take 70).all okIt = true := by
          rw [List.all_eq_true]
          intro x hx
          refine HF.out x ?_
          by_cases h7 : i = 70
          · rw [h7]; exact hx
          · have : i = il := by omega
            rw [List.take_of_length_le (by rw [HIL.out, this]; exact Nat.le_refl _)]
            exact List.mem_of_mem_take hx
        rw [this, HIL.out]
        rfl
      by_cases h7 : il ≤ 70
      · have hie : i = il := by omega
        subst hie
        have HT2 : Hid (smallI its = true) := HT.out.trans (decide_eq_true h7)
        go_wp2_with fail
        go_ret
        exact ⟨by rw [HT2.out]; show Ending.returned (.bool (decide ((i : Int) ≤ 70))) = _; rw [decide_eq_true (by omega)], HB0.out.trans (HB.out.mono HB0.out.size)⟩
      · have hie : i = 70 := by omega
        subst hie
        have hii : (70 : Int) < (il : Int) := by omega
        have HT2 : Hid (smallI its = false) := HT.out.trans (decide_eq_false h7)
        go_wp2_with fail
        go_ret
        exact ⟨by rw [HT2.out]; show Ending.returned (.bool (decide ((il : Int) ≤ 70))) = _; rw [decide_eq_false (by omega)], HB0.out.trans (HB.out.mono HB0.out.size)⟩
    obtain ⟨hlt, hlt7⟩ := hlt
    obtain ⟨y, hy⟩ : ∃ y, its[i]? = some y := ⟨_, List.getElem?_eq_getElem (by rw [HIL.out]; exact hlt)⟩
    obtain ⟨m0, m1, m2⟩ := HNM.out y (List.mem_of_getElem? hy)
    unfold maxLen at m0 m1 m2
    obtain ⟨b1, off1, yav, yam, yac, rfl, k0, k1, k2, k3, k4, k5, k6, k7, hz⟩ := HIR.out i y hy
    have hBT : Below w.heap.size w w1 := HB0.out.trans (HB.out.mono HB0.out.size)
    have j0 := Dg.cell_later hBT k0
    have j1 := Dg.cell_later hBT k1
    have j2 := Dg.cell_later hBT k2
    have j3 := Dg.cell_later hBT k3
    have j4 := Dg.cell_later hBT k4
    have j5 := Dg.cell_later hBT k5
    have j6 := Dg.cell_later hBT k6
    have j7 := Dg.cell_later hBT k7
    obtain ⟨za, zcap, hze, hzc, hzr⟩ := hz
    cases hze
    have hii : (i : Int) < (il : Int) := by omega
    have hi7 : (i : Int) < 70 := by omega
    have HTk : Hid (its.take (i + 1) = its.take i ++ [y]) := by show _ = _; rw [List.take_add_one, hy]; rfl
    have HNo : Hid (okIt y = false → smallI its = false) := fun h => small_no hy hlt7 h
    have s0 : (⟨y.name.toArray⟩ : ByteArray).size = y.name.length := by simp [ByteArray.size]
    have s1 : (⟨y.undo.toArray⟩ : ByteArray).size = y.undo.length := by simp [ByteArray.size]
    have HBT : Hid _ := hBT
    clear k0 k1 k2 k3 k4 k5 k6 k7 hzr hy hBT
    by_cases hok : okIt y = true
    · have HF2 : Hid (∀ x ∈ its.take (i + 1), okIt x = true) := by
        show ∀ x ∈ its.take (i + 1), _
        rw [HTk.out]
        intro x hx
        rcases List.mem_append.1 hx with h | h
        · exact HF.out x h
        · simp at h; subst h; exact hok
      simp only [okIt, Bool.and_eq_true, decide_eq_true_eq] at hok
      obtain ⟨o0, o1, o2⟩ := hok
      generalize (⟨y.name.toArray⟩ : ByteArray) = N at *
      generalize (⟨y.undo.toArray⟩ : ByteArray) = U at *
      generalize y.name.length = n0 at *
      generalize y.undo.length = n1 at *
      generalize y.after.length = n2 at *
      go_wp2_with fail
      go_roundw
      case rel => exact ⟨i + 1, by omega, by omega, by go_num, HF2, HB.out.alloc HB.out.size _⟩
      case measure => simp [intOf]; omega
    · have HX : Hid (smallI its = false) := HNo.out (by simpa using hok)
      have hk2 : ¬ (y.name.length ≤ 200 ∧ y.undo.length ≤ 200 ∧ y.after.length ≤ 100) := fun h => hok (by simp [okIt, h.1, h.2.1, h.2.2])
      clear hok HNo HTk
      generalize (⟨y.name.toArray⟩ : ByteArray) = N at *
      generalize (⟨y.undo.toArray⟩ : ByteArray) = U at *
      generalize y.name.length = n0 at *
      generalize y.undo.length = n1 at *
      generalize y.after.length = n2 at *
      by_cases o0 : n0 ≤ 200
      · by_cases o1 : n1 ≤ 200
        · have o2 : ¬ n2 ≤ 100 := fun h => hk2 ⟨o0, o1, h⟩
          clear hk2
          go_wp2_with fail
          go_ret
          exact ⟨by rw [HX.out]; rfl, HBT.out.alloc HBT.out.size _⟩
        · clear hk2
          go_wp2_with fail
          go_ret
          exact ⟨by rw [HX.out]; rfl, HBT.out.alloc HBT.out.size _⟩
      · clear hk2
        go_wp2_with fail
        go_ret
        exact ⟨by rw [HX.out]; rfl, HBT.out.alloc HBT.out.size _⟩
end Go.Proofs.YtephkdocfhajiaaDoor

