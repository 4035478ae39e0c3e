/- Texts of the seat, packed: Ym Yn Yo Yp Yq Yr Ys. -/
import Derived.Test.YtpgdafmenbeffaaDoorP28
/- The program's Kids, Above and Over, where there is no such item; Above and Over of a plan. -/
namespace Go.Proofs.YtpgdafmenbeffaaDoor
open Go.RowKit Go.Shelf Go.Proofs.YtpgdafmenbeffaaDoor.Sx

set_option maxRecDepth 1000000 in
/-- Of no view there is no item. -/
theorem has_nil (i : Int) (w : World) : Calls Tryd.prog 40 #[.pointer none, .int .i64 i] w fun e w' => e = .returned (.bool false) ∧ w' = w := by
  go_enter Tryd.func40, Tryd.ntmps40
  go_wp2_with fail
  go_ret
  exact ⟨rfl, rfl⟩

set_option maxRecDepth 1000000 in
theorem Over_no (a : Option Addr) (i : Int) (w : World) (h : Calls Tryd.prog 40 #[.pointer a, .int .i64 i] w fun e w' => e = .returned (.bool false) ∧ w' = w) : Calls Tryd.prog 22 #[.pointer a, .int .i64 i] w fun e w' => e = .returned (.slice none 0 0) ∧ w' = w := by
  have H : Hid _ := h
  clear h
  go_enter Tryd.func22, Tryd.ntmps22
  go_wp2_with fail
  refine Calls.mono H.out ?_
  rintro e w1 ⟨rfl, rfl⟩
  go_wp2_with fail
  go_ret
  exact ⟨rfl, rfl⟩

set_option maxRecDepth 1000000 in
theorem Above_no (a : Option Addr) (i : Int) (w : World) (h : Calls Tryd.prog 40 #[.pointer a, .int .i64 i] w fun e w' => e = .returned (.bool false) ∧ w' = w) : Calls Tryd.prog 28 #[.pointer a, .int .i64 i] w fun e w' => e = .returned (.slice none 0 0) ∧ w' = w := by
  have H : Hid _ := h
  clear h
  go_enter Tryd.func28, Tryd.ntmps28
  go_wp2_with fail
  refine Calls.mono H.out ?_
  rintro e w1 ⟨rfl, rfl⟩
  go_wp2_with fail
  go_ret
  exact ⟨rfl, rfl⟩

set_option maxRecDepth 1000000 in
theorem Kids_no (a : Option Addr) (i alt : Int) (w : World) (h : Calls Tryd.prog 40 #[.pointer a, .int .i64 i] w fun e w' => e = .returned (.bool false) ∧ w' = w) : Calls Tryd.prog 27 #[.pointer a, .int .i64 i, .int .i64 alt] w fun e w' => e = .returned (.slice none 0 0) ∧ w' = w := by
  have H : Hid _ := h
  clear h
  go_enter Tryd.func27, Tryd.ntmps27
  go_wp2_with fail
  refine Calls.mono H.out ?_
  rintro e w1 ⟨rfl, rfl⟩
  go_wp2_with fail
  go_ret
  exact ⟨rfl, rfl⟩

/-- What leans on an item, or nothing. -/
def overL (ov : List (List Nat)) (i : Int) : List Nat := if 0 ≤ i ∧ i < (ov.length : Int) then ov.getD i.toNat [] else []

theorem RdZ_nil (w : World) : RdZ w (.slice none 0 0) [] := ⟨none, 0, rfl, Nat.le_refl _, fun i x hi => by simp at hi⟩

/-- Over, of any number. -/
theorem Over_all (b : Nat) (i : Int) (its : List It) (ov : List (List Nat)) (w : World) (h : VwAt w b its ov) (hn : ∀ l ∈ ov, l.length ≤ 1000000) :
    Calls Tryd.prog 22 #[.pointer (some ⟨b, 0, none⟩), .int .i64 i] w fun e w' => Below w.heap.size w w' ∧ ∃ u, e = .returned u ∧ RdZ w' u ((overL ov i).map fun (x : Nat) => (x : Int)) := by
  have hlen : ov.length = its.length := by obtain ⟨_, _, _, _, _, _, h9⟩ := h; exact h9
  by_cases hi : 0 ≤ i ∧ i < (ov.length : Int)
  · obtain ⟨n, rfl⟩ : ∃ n : Nat, i = (n : Int) := ⟨i.toNat, by omega⟩
    obtain ⟨l, hl⟩ : ∃ l, ov[n]? = some l := ⟨_, List.getElem?_eq_getElem (by omega)⟩
    have h9 := Over_any b n its ov l w h hl (hn l (List.mem_of_getElem? hl))
    unfold overL
    rw [if_pos hi, Int.toNat_natCast, List.getD_eq_getElem?_getD, hl]
    exact h9
  · have h8 := h.has i
    rw [decide_eq_false (by rw [← hlen]; exact hi)] at h8
    refine Calls.mono (Over_no _ i w h8) ?_
    rintro e w' ⟨rfl, rfl⟩
    unfold overL
    rw [if_neg hi]
    exact ⟨Below.refl _ _, _, rfl, RdZ_nil _⟩
end Go.Proofs.YtpgdafmenbeffaaDoor

/- The program's Over of a plan. -/
namespace Go.Proofs.YtpgdafmenbeffaaDoor
open Go.RowKit Go.Shelf Go.Proofs.YtpgdafmenbeffaaDoor.Sx

/-- Of each item of a plan the items that lean on it. -/
noncomputable def ovT (its : List It) : List (List Nat) := match Dg.weaveP (its.length : Int) (Dg.swapA (arcP its)) with
  | .ok W o => Dg.reachL W o
  | .bad _ => []

/-- What Over tells of a plan. -/
noncomputable def overI (its : List It) (i : Int) : List Nat := if (sagaP its).isSome then overL (ovT its) i else []

theorem bits_short (x : Nat) : (Dg.bitsOf x).length ≤ 1000000 := by
  have := List.length_filter_le (fun i => x.testBit i) (List.range 64)
  simp only [List.length_range] at this
  unfold Dg.bitsOf
  omega

set_option maxRecDepth 1000000 in
theorem OverP_any (its : List It) (v : Value) (i : Int) (w : World) (hIt : RdIt w v its) (hF : FairI its) (hT : Dg.Tab w) :
    Calls Tryd.prog 8 #[.agg #[v], .int .i64 i] w fun e w' => Below w.heap.size w w' ∧ ∃ u, e = .returned u ∧ RdZ w' u ((overI its i).map fun (x : Nat) => (x : Int)) := by
  have hb1 : Below w.heap.size w (w.alloc (.cells #[v] 29)) := (Below.refl _ w).alloc (Nat.le_refl _) _
  have r1 := Dg.row_new w #[v] 29
  have M : Hid _ := See_any its v _ (hIt.later hb1) hF (hT.later hb1)
  obtain ⟨ia, icap, rfl, _⟩ := hIt
  have g0 := (Dg.cell_row r1 0).trans rfl
  go_enter Tryd.func8, Tryd.ntmps8
  go_wp2_with fail
  generalize w.alloc (.cells #[.slice ia its.length icap] 29) = w1 at *
  refine Calls.mono M.out ?_
  rintro e w2 ⟨hb2, he⟩
  clear M g0
  have HBW : Hid _ := hb1.trans (hb2.mono hb1.size)
  cases hP : sagaP its with
  | none =>
    rw [hP] at he
    obtain rfl : e = .returned (.tuple #[.pointer none, .int .i64 2]) := he
    have HP : Hid (overI its i = []) := by show _ = _; unfold overI; rw [hP]; rfl
    clear hP
    go_wp2_with fail
    refine Calls.mono (Over_no none i w2 (has_nil i w2)) ?_
    rintro e w3 ⟨rfl, rfl⟩
    go_wp2_with fail
    go_ret
    rw [HP.out]
    exact ⟨HBW.out, _, rfl, RdZ_nil _⟩
  | some p =>
    rw [hP] at he
    obtain ⟨b, W, o, rfl, hz, hW, hV⟩ := he
    have HP : Hid (overI its i = overL (Dg.reachL W o) i) := by show _ = _; unfold overI ovT; rw [hP, hW]; rfl
    have MO : Hid _ := Over_all b i its (Dg.reachL W o) w2 hV (fun l hl => by
      unfold Dg.reachL at hl
      obtain ⟨x, _, rfl⟩ := List.mem_map.1 hl
      exact bits_short x)
    clear hP hW hV
    go_wp2_with fail
    refine Calls.mono MO.out ?_
    rintro e w3 ⟨hb3, u, rfl, hu⟩
    go_wp2_with fail
    go_ret
    rw [HP.out]
    exact ⟨HBW.out.trans (hb3.mono HBW.out.size), _, rfl, hu⟩
end Go.Proofs.YtpgdafmenbeffaaDoor

/- The program's Above of a plan. -/
namespace Go.Proofs.YtpgdafmenbeffaaDoor
open Go.RowKit Go.Shelf Go.Proofs.YtpgdafmenbeffaaDoor.Sx

/-- In what an item stands, one after another (fuel). -/
def upsF (its : List It) : Nat → Nat → List Nat
  | 0, _ => []
  | f + 1, i => if i = 0 then [] else match its[i]? with
    | some x => x.inn.toNat :: upsF its f x.inn.toNat
    | none => []

/-- Each item but the first stands in one ahead of it. -/
def Stem (its : List It) : Prop := ∀ (i : Nat) (x : It), its[i]? = some x → 0 < i → 0 ≤ x.inn ∧ x.inn < (i : Int)

theorem ups_len (its : List It) : ∀ f i, (upsF its f i).length ≤ f
  | 0, _ => Nat.le_refl _
  | f + 1, i => by
    rw [upsF]
    split
    · simp
    · split
      · have := ups_len its f; simp only [List.length_cons]; have := this (by assumption : It).inn.toNat; omega
      · simp

theorem its2_inn (x : By) (am : Nat) (xs : List Pd) : ∀ (k i : Nat) (y : It), (its2 x am xs k)[i]? = some y → 0 < i → 0 ≤ y.inn := by
  intro k i y hy hi
  have h1 := its2_spot x am xs k i
  rw [hy] at h1
  cases h2 : (its1 x am xs xs.length)[i]? with
  | none => rw [h2] at h1; cases h1
  | some z =>
    rw [h2] at h1
    simp only [Option.map_some, Option.some.injEq, Prod.mk.injEq] at h1
    rw [h1.1]
    unfold its1 at h2
    cases i with
    | zero => omega
    | succ i =>
      simp only [List.getElem?_cons_succ, List.getElem?_map, Option.map_eq_some_iff] at h2
      obtain ⟨p, _, rfl⟩ := h2
      simp [Pd.item]

theorem right_stem {its : List It} {p : By × Tr} (h : sagaP its = some p) : Stem its := by
  unfold sagaP at h
  split at h
  · rename_i hc
    obtain ⟨_, _, hat⟩ := hangs_at hc.1
    have hp := hc.2
    unfold planT planP at hp
    split at hp
    · have he := Option.some.inj hp
      intro i x hx hi
      refine ⟨?_, (hat i x hx).1⟩
      rw [← he] at hx
      exact its2_inn _ _ _ _ i x hx hi
    · cases hp
  · cases h

theorem stem_ups {its : List It} (h : Stem its) : ∀ f i, i < its.length → i ≤ f → Ups its i (upsF its f i)
  | 0, i, _, h2 => by
    obtain rfl : i = 0 := by omega
    exact Ups.nil
  | f + 1, i, h1, h2 => by
    rw [upsF]
    by_cases h0 : i = 0
    · subst h0
      rw [if_pos rfl]
      exact Ups.nil
    · rw [if_neg h0]
      obtain ⟨x, hx⟩ : ∃ x, its[i]? = some x := ⟨_, List.getElem?_eq_getElem h1⟩
      rw [hx]
      simp only
      obtain ⟨h3, h4⟩ := h i x hx (by omega)
      exact Ups.cons (by omega) hx (by omega) (stem_ups h f x.inn.toNat (by omega) (by omega))

/-- What Above tells of a view, of any number. -/
def aboveL (its : List It) (i : Int) : List Nat := if 0 ≤ i ∧ i < (its.length : Int) then upsF its its.length i.toNat else []

/-- What Above tells of a plan. -/
noncomputable def aboveI (its : List It) (i : Int) : List Nat := if (sagaP its).isSome then aboveL its i else []

/-- Above, of any number. -/
theorem Above_all (b : Nat) (i : Int) (its : List It) (ov : List (List Nat)) (w : World) (h : VwAt w b its ov) (hS : Stem its) (hn : its.length ≤ 100000) :
    Calls Tryd.prog 28 #[.pointer (some ⟨b, 0, none⟩), .int .i64 i] w fun e w' => Below w.heap.size w w' ∧ ∃ u, e = .returned u ∧ RdZ w' u ((aboveL its i).map fun (x : Nat) => (x : Int)) := by
  by_cases hi : 0 ≤ i ∧ i < (its.length : Int)
  · obtain ⟨n, rfl⟩ : ∃ n : Nat, i = (n : Int) := ⟨i.toNat, by omega⟩
    have hl := ups_len its its.length n
    have h9 := Above_any b n its ov (upsF its its.length n) w h (by omega) (stem_ups hS its.length n (by omega) (by omega)) (by omega)
    unfold aboveL
    rw [if_pos hi, Int.toNat_natCast]
    exact h9
  · have h8 := h.has i
    rw [decide_eq_false hi] at h8
    refine Calls.mono (Above_no _ i w h8) ?_
    rintro e w' ⟨rfl, rfl⟩
    unfold aboveL
    rw [if_neg hi]
    exact ⟨Below.refl _ _, _, rfl, RdZ_nil _⟩

set_option maxRecDepth 1000000 in
theorem AboveP_any (its : List It) (v : Value) (i : Int) (w : World) (hIt : RdIt w v its) (hF : FairI its) (hT : Dg.Tab w) :
    Calls Tryd.prog 15 #[.agg #[v], .int .i64 i] w fun e w' => Below w.heap.size w w' ∧ ∃ u, e = .returned u ∧ RdZ w' u ((aboveI its i).map fun (x : Nat) => (x : Int)) := by
  have hb1 : Below w.heap.size w (w.alloc (.cells #[v] 29)) := (Below.refl _ w).alloc (Nat.le_refl _) _
  have r1 := Dg.row_new w #[v] 29
  have M : Hid _ := See_any its v _ (hIt.later hb1) hF (hT.later hb1)
  obtain ⟨ia, icap, rfl, _⟩ := hIt
  have g0 := (Dg.cell_row r1 0).trans rfl
  go_enter Tryd.func15, Tryd.ntmps15
  go_wp2_with fail
  generalize w.alloc (.cells #[.slice ia its.length icap] 29) = w1 at *
  refine Calls.mono M.out ?_
  rintro e w2 ⟨hb2, he⟩
  clear M g0
  have HBW : Hid _ := hb1.trans (hb2.mono hb1.size)
  cases hP : sagaP its with
  | none =>
    rw [hP] at he
    obtain rfl : e = .returned (.tuple #[.pointer none, .int .i64 2]) := he
    have HP : Hid (aboveI its i = []) := by show _ = _; unfold aboveI; rw [hP]; rfl
    clear hP
    go_wp2_with fail
    refine Calls.mono (Above_no none i w2 (has_nil i w2)) ?_
    rintro e w3 ⟨rfl, rfl⟩
    go_wp2_with fail
    go_ret
    rw [HP.out]
    exact ⟨HBW.out, _, rfl, RdZ_nil _⟩
  | some p =>
    rw [hP] at he
    obtain ⟨b, W, o, rfl, hz, hW, hV⟩ := he
    have HP : Hid (aboveI its i = aboveL its i) := by show _ = _; unfold aboveI; rw [hP]; rfl
    have MO : Hid _ := Above_all b i its (Dg.reachL W o) w2 hV (right_stem hP) (by have := (right_facts hP).1; omega)
    clear hP hW hV
    go_wp2_with fail
    refine Calls.mono MO.out ?_
    rintro e w3 ⟨hb3, u, rfl, hu⟩
    go_wp2_with fail
    go_ret
    rw [HP.out]
    exact ⟨HBW.out.trans (hb3.mono HBW.out.size), _, rfl, hu⟩
end Go.Proofs.YtpgdafmenbeffaaDoor

/- The library's AppendSeq and Collect, over numbers. -/
namespace Go.Proofs.YtpgdafmenbeffaaDoor
open Go.RowKit Go.Shelf Go.Proofs.YtpgdafmenbeffaaDoor.Sx
attribute [local go_sem] Oper.semAt_some

theorem inf3 : (Tryd.prog.info? 3).map (fun i => (i.zero, i.size, i.bytes)) = some (some (.int .i64 0), 1, 8) := by kernel_rfl

theorem one_tmps (tm : Array Value) (p : Tmp) (v : Value) : (#[p].zip #[v]).foldl (fun t (p, v) => t.setIfInBounds p v) tm = tm.setIfInBounds p v := by
  simp

/-- What AppendSeq knows once k numbers are appended. -/
def Sq (w0 : World) (bx : Nat) (js : List Nat) (k : Nat) (A : World) (TA : Nat → Prop) : Prop :=
  Lo w0 A TA ∧ w0.heap.size ≤ bx ∧ bx < A.heap.size ∧ ¬ TA bx ∧ ∃ u, A.heap[bx]? = some (.cells #[u] 40 (0, 0)) ∧ A.ownsRow bx 3 1 u k (Dg.ivs (js.take k)) ∧ ∀ b, u.ownBlock = some b → ¬ TA b

theorem Sq.mv {w0 : World} {bx : Nat} {js : List Nat} {k : Nat} {A B : World} {TA TB : Nat → Prop} (h : Sq w0 bx js k A TA) (m : Mv TA A TB B) : Sq w0 bx js k B TB := by
  obtain ⟨h1, h2, h3, h4, u, h5, h6, h7⟩ := h
  refine ⟨h1.mv m, h2, Nat.lt_of_lt_of_le h3 m.size, fun ht => h4 ((m.old _ h3).1 ht), u, (m.same _ h3 h4).trans h5, ?_, fun b hb ht => ?_⟩
  · exact own_agree (G := fun b => u.ownBlock = some b) (fun b hb => m.same b (own_exists h6 b hb).2 (h7 b hb)) h6 (fun b hb => hb)
  · exact h7 b hb ((m.old b (own_exists h6 b hb).2).1 ht)

set_option maxRecDepth 1000000 in
set_option maxHeartbeats 2000000 in
theorem AppendSeq_in (w0 w : World) (lb : Array Value) (js : List Nat) (T : Nat → Prop) (hlen : js.length ≤ 100000) (hLo : Lo w0 w T)
    (hseq : Itr Tryd.prog 62 lb (fun (j : Nat) => #[.int .i64 (j : Int)]) js w0.heap.size T (w.alloc (.cells #[.slice none 0 0] 40))) :
    CallsIn Fence.wide 0 Tryd.prog 61 #[.slice none 0 0, .func (Fn.func 62) #[] lb] w fun e w' => Below w0.heap.size w0 w' ∧ ∃ u, e = .returned u ∧ w'.ownsRow w.heap.size 3 1 u js.length (Dg.ivs js) := by
  refine callsE Tryd.func61 rfl ?_
  simp only [Tryd.ntmps61, List.size_toArray, List.length_cons, List.length_nil, Nat.reduceAdd, Nat.reduceSub, Array.replicate_succ, Array.replicate_zero, List.push_toArray, List.append_toArray, List.nil_append, List.cons_append]
  have rn := Dg.row_new w #[.slice none 0 0] 40
  have hz : (w.alloc (.cells #[.slice none 0 0] 40)).heap.size = w.heap.size + 1 := by simp
  have hP0 : Sq w0 w.heap.size js 0 (w.alloc (.cells #[.slice none 0 0] 40)) T := by
    have hL := hLo.mv (Mv.alloc_other T w (.cells #[.slice none 0 0] 40))
    exact ⟨hL, hLo.bel.size, by omega, fun ht => by have := hLo.lt _ ht; omega, _, rn, World.ownsRow_nil _ _ _ _, fun b hb => by cases hb⟩
  refine wpE_seq_wp fun K hK => ?_
  go_wp2_with fail
  generalize w.alloc (.cells #[.slice none 0 0] 40) = w1 at *
  have hu1 : ∀ b, T b → b < w1.heap.size := fun b hb => by have := hLo.lt b hb; omega
  refine wpE_seq ?_
  refine wpE_seq_wp fun K hK => ?_
  go_wp2_with fail
  refine wpE_block ?_
  refine range_law Tryd.func61 (gf := 62) (lb := lb) rfl (enters_of Tryd.func62 (by kernel_rfl) rfl) hseq hu1 (by have := hLo.bel.size; omega) (fun _ => rfl)
    (Sq w0 w.heap.size js) (fun _ _ _ => False) (fun k A TA B TB h m => h.mv m) (fun ch A TA d o h hd => h.elim) hP0 ?_ ?_ ?_
  · intro l3 k3 x3 WA TB hx3 hL tb1 tb2 hltA
    refine wpE_inRound (n := 5) ?_
    rw [one_tmps]
    simp only [List.setIfInBounds_toArray, List.set_cons_succ, List.set_cons_zero]
    gi_wp2
    refine ⟨hL, Rv.refl _ _ _, fun WB hLB _ => ?_⟩
    obtain ⟨hLo1, h2, h3, h4, u, h5, h6, h7⟩ := hLB
    obtain ⟨ua, uc, rfl⟩ := own_slice h6
    have hkl := (List.getElem?_eq_some_iff.1 hx3).1
    have c0 := (Dg.cell_row h5 0).trans rfl
    obtain ⟨i0, hi0, hz0, hz1, hz2⟩ := info_parts inf3
    have ho5 : (WB.alloc (.cells #[.int .i64 (x3 : Int)] 3)).ownsRow w.heap.size 3 1 (.slice ua k3 uc) k3 (Dg.ivs (js.take k3)) := own_below h6 ((Below.refl _ _).alloc (Nat.le_refl _) _)
    have h5b := Dg.row_alloc h5 (.cells #[.int .i64 (x3 : Int)] 3)
    have hnb := own_other ho5 h5b (by decide)
    refine wpE_block ?_
    refine wpE_inRound (n := 5) ?_
    gi_wp2_with (refine wpListIn_append_own_at _ rfl _ _ 40 rfl w.heap.size 3 i0 _ 1 8 Tryd.underlying40 hi0 hz0 hz1 hz2 rfl (by decide) _ k3 (Dg.ivs (js.take k3)) rfl ho5 ⟨WB.heap.size, 0, none⟩ 1 1 [.int .i64 (x3 : Int)] rfl rfl (cell_one_new WB (.int .i64 (x3 : Int)) 3) (by simp [Value.oneCell']) (by unfold maxLen; omega) (by omega) (by simp; omega) ?_; intro v7 w7 ho7 hg7 _ hat7; obtain ⟨va, vc, rfl⟩ := own_slice ho7; have h57 := (hg7.block _ (Array.getElem?_eq_some_iff.1 h5b).1 hnb).trans h5b; have z7 := (Dg.cell_row h57 0).trans rfl; have f7 := Dg.froz_row h57 0)
    have hz0' : w0.heap.size ≤ WB.heap.size := hLo1.bel.size
    have hzA : (WB.alloc (.cells #[.int .i64 (x3 : Int)] 3)).heap.size = WB.heap.size + 1 := by simp
    have hR : Rv w0.heap.size TB WB (w7.setCell ⟨w.heap.size, 0, none⟩ (.slice va (k3 + 1) vc)) :=
      ((Rv.alloc WB _ hz0').trans (Rv.grown hg7 (by omega) (fun b hb => ⟨by have := (own_exists ho5 b hb).1; omega, h7 b hb⟩))).trans (Rv.setCell w7 _ h2 h4)
    have hsz7 : (w7.setCell ⟨w.heap.size, 0, none⟩ (.slice va (k3 + 1) vc)).heap.size = w7.heap.size := by simp
    have hg7s := hg7.size
    refine ⟨⟨hLo1.rv hR, h2, by omega, h4, _, Dg.row_set h57 0 _, ?_, ?_⟩, hR⟩
    · have h9 : w7.ownsRow w.heap.size 3 1 (.slice va (k3 + 1) vc) (k3 + 1) (Dg.ivs (js.take (k3 + 1))) := by
        rw [List.take_add_one, hx3]
        simpa [Dg.ivs] using ho7
      exact own_agree (G := fun b => b ≠ w.heap.size) (fun b hb => Below.heap_setCell _ _ _ _ hb) h9 (fun b hb e => own_other ho7 h57 (by decide) (e ▸ hb.symm))
    · intro b hb ht
      rcases hat7 with h9 | h9
      · exact h7 b (h9.symm.trans hb) ht
      · rw [h9] at hb
        have h8 := hLo1.lt b ht
        have := Option.some.inj hb
        omega
  · intro W6 T2 hL hold ht2 hD
    show wpE Tryd.prog none 61 _ _ _ _
    dsimp only
    obtain ⟨hLo1, h2, h3, h4, u, h5, h6, h7⟩ := hL
    obtain ⟨ua, uc, rfl⟩ := own_slice h6
    have c0 := (Dg.cell_row h5 0).trans rfl
    rw [List.take_length] at h6
    refine wpE_seq_wp fun K hK => ?_
    go_wp2_with fail
    refine wpE_of_wp (wp_ret ?_)
    show LeavesInM Fence.wide 0 Tryd.prog Tryd.f61 _ _ ([w1.heap.size].map mark) .returning W6
    refine leaves_marks (T := T2) (by simp) (fun A => Lo w0 A T2 ∧ A.ownsRow w.heap.size 3 1 (.slice ua js.length uc) js.length (Dg.ivs js)) (fun A D hD' h => ⟨h.1.put hD' _, own_agree (G := fun b => (Value.slice ua js.length uc).ownBlock = some b) (fun b hb => World.putObj_heap_other (fun e => h7 b hb (by rw [e]; exact hD'))) h.2 (fun b hb => hb)⟩) (fun A h => ?_) _ W6 (Marks.cons (Marks.nil _ _) ht2 hD (by simp)) ⟨hLo1, h6⟩
    exact ⟨_, results_tmp (t := 4) rfl _ _ _, h.1.bel, _, rfl, h.2⟩
  · rintro ch W6 T2 h
    exact h.elim
end Go.Proofs.YtpgdafmenbeffaaDoor

/- The program's within: the items that stand in a spot, one after another. -/
namespace Go.Proofs.YtpgdafmenbeffaaDoor
open Go.RowKit Go.Shelf Go.Proofs.YtpgdafmenbeffaaDoor.Sx
attribute [local go_sem] Oper.semAt_some

/-- The numbers of the items that stand in a spot, from the i-th on. -/
def kidsF (inn alt : Int) : Nat → List It → List Nat
  | _, [] => []
  | i, x :: r => if x.inn = inn ∧ x.alt = alt then i :: kidsF inn alt (i + 1) r else kidsF inn alt (i + 1) r

set_option maxRecDepth 1000000 in
theorem within_maker (b : Nat) (i alt : Int) (w : World) : Calls Tryd.prog 49 #[.pointer (some ⟨b, 0, none⟩), .agg #[.int .i64 i, .int .i64 alt]] w fun e w' => e = .returned (.func (.func 62) #[] #[.pointer (some ⟨w.heap.size, 0, none⟩), .pointer (some ⟨w.heap.size + 1, 0, none⟩)]) ∧ w' = (w.alloc (.cells #[.pointer (some ⟨b, 0, none⟩)] 57)).alloc (.cells #[.int .i64 i, .int .i64 alt] 71) := by
  go_enter Tryd.func49, Tryd.ntmps49
  go_wp2_with fail
  go_ret
  exact ⟨rfl, rfl⟩

/-- What is known between two items. -/
structure KSt (w0 : World) (bv bs b : Nat) (inn alt : Int) (J : Nat → World → (Nat → Prop) → Prop) (W0 : World) (T0 : Nat → Prop) (k : Nat) (T : Nat → Prop) (Wr : World) : Prop where
  j : J k Wr T
  low : ∀ b, b < w0.heap.size → Wr.heap[b]? = w0.heap[b]?
  le : w0.heap.size ≤ Wr.heap.size
  own : ∀ b, T b → w0.heap.size ≤ b ∧ b < Wr.heap.size
  hbv : Wr.heap[bv]? = some (.cells #[.pointer (some ⟨b, 0, none⟩)] 57 (0, 0))
  hbs : Wr.heap[bs]? = some (.cells #[.int .i64 inn, .int .i64 alt] 71 (0, 0))
  tv : T bv
  ts : T bs
  old : ∀ b, b < W0.heap.size → (T b ↔ T0 b)
  sz : W0.heap.size ≤ Wr.heap.size

section
variable {w0 : World} {bv bs b : Nat} {inn alt : Int} {J : Nat → World → (Nat → Prop) → Prop} {W0 : World} {T0 : Nat → Prop} {k : Nat} {T : Nat → Prop} {Wr : World}

theorem KSt.alloc (h : KSt w0 bv bs b inn alt J W0 T0 k T Wr) (hJ : ∀ k A TA B TB, J k A TA → Mv TA A TB B → J k B TB) (o : Obj) : KSt w0 bv bs b inn alt J W0 T0 k (fun b => T b ∨ b = Wr.heap.size) (Wr.alloc o) := by
  have al : ∀ {b x}, Wr.heap[b]? = some x → (Wr.alloc o).heap[b]? = some x := fun hx => (Below.heap_alloc _ _ _ (Array.getElem?_eq_some_iff.1 hx).1).trans hx
  refine ⟨hJ _ _ _ _ _ h.j (Mv.alloc _ _ _), fun b hb => (Below.heap_alloc _ _ _ (by have := h.le; omega)).trans (h.low b hb), by have := h.le; simp; omega, fun b hb => ?_, al h.hbv, al h.hbs, .inl h.tv, .inl h.ts, fun b hb => ?_, by have := h.sz; simp; omega⟩
  · rcases hb with hb | rfl
    · have := h.own b hb; simp; omega
    · have := h.le; simp; omega
  · have := h.sz
    exact ⟨fun hx => (h.old b hb).1 (hx.resolve_right (by omega)), fun hx => .inl ((h.old b hb).2 hx)⟩

theorem KSt.round (h : KSt w0 bv bs b inn alt J W0 T0 k T Wr) {W' : World} {k' : Nat} (hj : J k' W' T) (hr : Rv w0.heap.size T Wr W') : KSt w0 bv bs b inn alt J W0 T0 k' T W' := by
  have kp : ∀ {b x}, T b → Wr.heap[b]? = some x → W'.heap[b]? = some x := fun hb hx => (hr.keep _ hb (Array.getElem?_eq_some_iff.1 hx).1).trans hx
  exact ⟨hj, fun b hb => (hr.low b hb).trans (h.low b hb), Nat.le_trans h.le hr.size, fun b hb => ⟨(h.own b hb).1, Nat.lt_of_lt_of_le (h.own b hb).2 hr.size⟩, kp h.tv h.hbv, kp h.ts h.hbs, h.tv, h.ts, h.old, Nat.le_trans h.sz hr.size⟩

theorem KSt.cell (h : KSt w0 bv bs b inn alt J W0 T0 k T Wr) {c i : Nat} {v : Value} (hc : w0.cell? ⟨c, i, none⟩ = some v) : Wr.cell? ⟨c, i, none⟩ = some v := by
  have hb : c < w0.heap.size := World.block_lt_of_cell? w0 ⟨c, i, none⟩ hc
  exact (World.cell?_of_block (a := ⟨c, i, none⟩) (h.low c hb)).trans hc
end

def Inv73 (w0 : World) (bv bs b : Nat) (inn alt : Int) (J : Nat → World → (Nat → Prop) → Prop) (W : World) (T0 : Nat → Prop) (js : List Nat) (its : List It) (l n : Nat) (a : Option Addr) (cap : Nat) (mm : Nat) (act : Act) (Wr : World) : Prop :=
  ∃ (i k : Nat) (T : Nat → Prop) (u3 u4 u5 u6 u7 u8 u12 u13 u14 u15 u16 u17 u18 u19 u20 u21 u22 u23 u24 u25 : Value), mm = n - i ∧ i ≤ n ∧ act = { tmps := #[.func (.yield l) #[] #[], .pointer (some ⟨bv, 0, none⟩), .pointer (some ⟨bs, 0, none⟩), u3, u4, u5, u6, u7, u8, .slice a n cap, .int .i64 (n : Int), .int .i64 (i : Int), u12, u13, u14, u15, u16, u17, u18, u19, u20, u21, u22, u23, u24, u25], defers := [] } ∧
    KSt w0 bv bs b inn alt J W T0 k T Wr ∧ js.drop k = kidsF inn alt i (its.drop i) ∧ k + (kidsF inn alt i (its.drop i)).length = js.length

set_option maxRecDepth 1000000 in
set_option maxHeartbeats 4000000 in
theorem within_itr (w0 : World) (b : Nat) (its : List It) (sv : Value) (inn alt : Int) (w : World) (bv bs : Nat) (T : Nat → Prop) (js : List Nat) (hjs : js = kidsF inn alt 0 its)
    (h0 : w0.cell? ⟨b, 0, none⟩ = some sv) (hsp : RdSp w0 sv its) (hn : its.length ≤ 1000000)
    (hlow : ∀ b, b < w0.heap.size → w.heap[b]? = w0.heap[b]?) (hle : w0.heap.size ≤ w.heap.size)
    (hbv : w.heap[bv]? = some (.cells #[.pointer (some ⟨b, 0, none⟩)] 57 (0, 0))) (hbs : w.heap[bs]? = some (.cells #[.int .i64 inn, .int .i64 alt] 71 (0, 0))) (tv : T bv) (ts : T bs) (hown : ∀ b, T b → w0.heap.size ≤ b ∧ b < w.heap.size) :
    Itr Tryd.prog 62 #[.pointer (some ⟨bv, 0, none⟩), .pointer (some ⟨bs, 0, none⟩)] (fun (j : Nat) => #[.int .i64 (j : Int)]) js w0.heap.size T w := by
  intro l J Jp W hW hJ hJp hY hJ0
  have hzW := hW.size
  obtain ⟨a, cap, rfl, hcap, hr⟩ := hsp
  have HR0 : Hid _ := hr
  obtain ⟨n, HN⟩ : ∃ n, Hid (its.length = n) := ⟨_, rfl⟩
  rw [HN.out] at h0 hcap hn
  have HK : KSt w0 bv bs b inn alt J W T 0 T W := by
    refine ⟨hJ0, fun c hc => (hW.block c (by omega)).trans (hlow c hc), by omega, fun c hc => by have := hown c hc; omega, (hW.block _ (Array.getElem?_eq_some_iff.1 hbv).1).trans hbv, (hW.block _ (Array.getElem?_eq_some_iff.1 hbs).1).trans hbs, tv, ts, fun _ _ => Iff.rfl, Nat.le_refl _⟩
  have c0 := (Dg.cell_row HK.hbv 0).trans rfl
  have c1 := HK.cell h0
  clear hr hbv hbs
  obtain ⟨R, HR⟩ : ∃ R : Ending → World → Prop, Hid (R = fun e W2 => (∃ v T2, e = .returned v ∧ J js.length W2 T2 ∧ (∀ b, b < W.heap.size → (T2 b ↔ T b))) ∨ (∃ ch T2, e = .panicked ch ∧ Jp ch W2 T2 ∧ (∀ b, b < W.heap.size → (T2 b ↔ T b)))) := ⟨_, rfl⟩
  rw [← HR.out]
  refine callsE Tryd.func62 rfl ?_
  simp only [Tryd.ntmps62, List.size_toArray, List.length_cons, List.length_nil, Nat.reduceAdd, Nat.reduceSub, Array.replicate_succ, Array.replicate_zero, List.push_toArray, List.append_toArray, List.nil_append, List.cons_append]
  refine wpE_seq_wp fun K hK => ?_
  go_wp2_with fail
  clear c0 c1
  refine wpE_block ?_
  refine wpE_loop (Inv73 w0 bv bs b inn alt J W T js its l n a cap) n ?atStart ?round
  case atStart =>
    exact ⟨0, 0, T, _, _, _, _, _, _, _, _, _, _, _, _, _, _, _, _, _, _, _, _, rfl, Nat.zero_le _, rfl, HK, by rw [List.drop_zero, List.drop_zero]; exact hjs, by rw [List.drop_zero, ← hjs, Nat.zero_add]⟩
  case round =>
    rintro m act Wr ⟨i, k, T1, u3, u4, u5, u6, u7, u8, u12, u13, u14, u15, u16, u17, u18, u19, u20, u21, u22, u23, u24, u25, rfl, hi, rfl, H, hd, hl⟩
    clear HK
    by_cases hlt : i < n
    · obtain ⟨x, hx⟩ : ∃ x, its[i]? = some x := ⟨_, List.getElem?_eq_getElem (by rw [HN.out]; exact hlt)⟩
      have hdr : its.drop i = x :: its.drop (i + 1) := by
        obtain ⟨hxl, rfl⟩ := List.getElem?_eq_some_iff.1 hx
        exact List.drop_eq_getElem_cons hxl
      obtain ⟨b2, off, rfl, e0, e1⟩ := HR0.out i x hx
      have d0 := H.cell e0
      have d1 := H.cell e1
      have hii : (i : Int) < (n : Int) := by omega
      refine wpE_seq_wp fun K hK => ?_
      go_wp2_with fail
      refine wpE_seq (wpE_cond (t := true) rfl (wpE_of_wp ?_))
      go_wp2_with fail
      refine wpE_seq (wpE_block ?_)
      refine wpE_seq_wp fun K hK => ?_
      go_wp2_with fail
      have H3 := H.alloc hJ (.cells #[.int .i64 x.inn, .int .i64 x.alt] 71)
      have nb3 := Dg.row_new Wr #[.int .i64 x.inn, .int .i64 x.alt] 71
      clear d0 d1
      generalize Wr.alloc (.cells #[.int .i64 x.inn, .int .i64 x.alt] 71) = W3 at *
      have g0 := (Dg.cell_row nb3 0).trans rfl
      have g1 := (Dg.cell_row nb3 1).trans rfl
      have s0 := (Dg.cell_row H3.hbs 0).trans rfl
      have s1 := (Dg.cell_row H3.hbs 1).trans rfl
      have hmm : n - (i + 1) < n - i := by omega
      by_cases heq : x.inn = inn ∧ x.alt = alt
      · have hkf : kidsF inn alt i (x :: its.drop (i + 1)) = i :: kidsF inn alt (i + 1) (its.drop (i + 1)) := by
          show (if _ then _ else _) = _
          rw [if_pos heq]
        rw [hdr, hkf] at hd hl
        have hxk : js[k]? = some i := by
          have h9 : (js.drop k)[0]? = some i := by rw [hd]; rfl
          simpa using h9
        have HD1 : Hid (js.drop (k + 1) = kidsF inn alt (i + 1) (its.drop (i + 1))) := by
          show _ = _
          rw [← List.drop_drop, hd]
          rfl
        have HL1 : Hid (k + 1 + (kidsF inn alt (i + 1) (its.drop (i + 1))).length = js.length) := by
          show _ = _
          rw [← hl, List.length_cons]
          omega
        rw [heq.1] at g0
        rw [heq.2] at g1
        obtain ⟨fnn, tms, asg, bdy, hy, hR⟩ := hY k i W3 _ hxk H3.j 4
        clear hd hl hdr hkf hx hxk heq
        refine wpE_seq (wpE_wide (n := 5) ?_)
        gi_wp2
        refine hR.mono ?_
        rintro e W5 (⟨rfl, hj5, hr5⟩ | ⟨ch, rfl, hjp, hkd⟩)
        · clear hy hR g0 g1 s0 s1
          gi_wp2
          refine wpE_cond (t := false) rfl (wpE_of_wp ?_)
          go_wp2_with fail
          refine wpE_of_wp ?_
          go_wp2_with fail
          refine ⟨n - (i + 1), hmm, ?_⟩
          rw [show (i : Int) + 1 = ((i + 1 : Nat) : Int) from rfl]
          exact ⟨i + 1, k + 1, _, _, _, _, _, _, _, _, _, _, _, _, _, _, _, _, _, _, _, _, _, rfl, by omega, rfl, H3.round hj5 hr5, HD1.out, HL1.out⟩
        · clear hy hR g0 g1 s0 s1
          show R (.panicked ch) W5
          rw [HR.out]
          exact .inr ⟨ch, _, rfl, hjp, H3.old⟩
      · have hkf : kidsF inn alt i (x :: its.drop (i + 1)) = kidsF inn alt (i + 1) (its.drop (i + 1)) := by
          show (if _ then _ else _) = _
          rw [if_neg heq]
        rw [hdr, hkf] at hd hl
        have HD1 : Hid _ := hd
        have HL1 : Hid _ := hl
        clear hd hl hdr hkf hx
        refine wpE_seq_wp fun K hK => ?_
        go_wp2_with fail
        all_goals
          refine wpE_cond (t := false) rfl (wpE_of_wp ?_)
          go_wp2_with fail
          refine wpE_of_wp ?_
          go_wp2_with fail
          refine ⟨n - (i + 1), hmm, ?_⟩
          rw [show (i : Int) + 1 = ((i + 1 : Nat) : Int) from rfl]
          exact ⟨i + 1, k, _, _, _, _, _, _, _, _, _, _, _, _, _, _, _, _, _, _, _, _, _, rfl, by omega, rfl, H3, HD1.out, HL1.out⟩
    · obtain rfl : i = n := by omega
      have hnl : its.drop i = [] := List.drop_eq_nil_of_le (by rw [HN.out]; exact Nat.le_refl _)
      rw [hnl] at hd hl
      have hkl : k = js.length := by
        simp only [kidsF, List.length_nil] at hl
        omega
      have HKL : Hid _ := hkl
      clear hd hl hnl hkl
      refine wpE_of_wp ?_
      go_wp2_with fail
      refine ⟨_, results_none rfl _ _, ?_⟩
      rw [HR.out]
      have h9 := H.j
      rw [HKL.out] at h9
      exact .inl ⟨_, T1, rfl, h9, H.old⟩
end Go.Proofs.YtpgdafmenbeffaaDoor

/- The program's Collect and Kids. -/
namespace Go.Proofs.YtpgdafmenbeffaaDoor
open Go.RowKit Go.Shelf Go.Proofs.YtpgdafmenbeffaaDoor.Sx

theorem kidsF_len (inn alt : Int) : ∀ (l : List It) (i : Nat), (kidsF inn alt i l).length ≤ l.length
  | [], _ => Nat.le_refl _
  | x :: r, i => by
    have := kidsF_len inn alt r (i + 1)
    rw [kidsF]
    split <;> simp only [List.length_cons] <;> omega

/-- The items that stand in a spot, or none where there is no such item. -/
def kidsL (its : List It) (inn alt : Int) : List Nat := if 0 ≤ inn ∧ inn < (its.length : Int) then kidsF inn alt 0 its else []

theorem collect_seq (w0 : World) (b : Nat) (its : List It) (ov : List (List Nat)) (inn alt : Int) (h : VwAt w0 b its ov) (hn : its.length ≤ 100000) :
    Calls Tryd.prog 61 #[.slice none 0 0, .func (Fn.func 62) #[] #[.pointer (some ⟨w0.heap.size, 0, none⟩), .pointer (some ⟨w0.heap.size + 1, 0, none⟩)]] ((w0.alloc (.cells #[.pointer (some ⟨b, 0, none⟩)] 57)).alloc (.cells #[.int .i64 inn, .int .i64 alt] 71)) fun e w' => Below w0.heap.size w0 w' ∧ ∃ u, e = .returned u ∧ RdZ w' u ((kidsF inn alt 0 its).map fun (x : Nat) => (x : Int)) := by
  obtain ⟨sv, ovv, h0, h1, h2, h3, h4⟩ := h
  have hl := kidsF_len inn alt its 0
  have q0 := Dg.row_new w0 #[.pointer (some ⟨b, 0, none⟩)] 57
  have q1 := Dg.row_alloc q0 (.cells #[.int .i64 inn, .int .i64 alt] 71)
  have q2 := Dg.row_new (w0.alloc (.cells #[.pointer (some ⟨b, 0, none⟩)] 57)) #[.int .i64 inn, .int .i64 alt] 71
  rw [World.size_alloc] at q2
  have hbel : Below w0.heap.size w0 ((w0.alloc (.cells #[.pointer (some ⟨b, 0, none⟩)] 57)).alloc (.cells #[.int .i64 inn, .int .i64 alt] 71)) := ((Below.refl _ w0).alloc (Nat.le_refl _) _).alloc (by simp) _
  have hsz : ((w0.alloc (.cells #[.pointer (some ⟨b, 0, none⟩)] 57)).alloc (.cells #[.int .i64 inn, .int .i64 alt] 71)).heap.size = w0.heap.size + 2 := by simp
  generalize (w0.alloc (.cells #[.pointer (some ⟨b, 0, none⟩)] 57)).alloc (.cells #[.int .i64 inn, .int .i64 alt] 71) = w at *
  have hLo : Lo w0 w (fun k => k = w0.heap.size ∨ k = w0.heap.size + 1) := ⟨hbel, fun k hk => by omega, fun k hk => by omega⟩
  have hb2 : Below w0.heap.size w0 (w.alloc (.cells #[.slice none 0 0] 40)) := hbel.alloc hbel.size _
  have hit := within_itr w0 b its sv inn alt (w.alloc (.cells #[.slice none 0 0] 40)) w0.heap.size (w0.heap.size + 1) (fun k => k = w0.heap.size ∨ k = w0.heap.size + 1) _ rfl h0 h2 (by omega) (fun k hk => hb2.block k hk) hb2.size (Dg.row_alloc q1 _) (Dg.row_alloc q2 _) (.inl rfl) (.inr rfl) (fun k hk => by rw [World.size_alloc]; omega)
  refine Calls.mono (callsIn_wide.1 (AppendSeq_in w0 w _ _ _ (by omega) hLo hit)) ?_
  rintro e w' ⟨hb, u, rfl, ho⟩
  exact ⟨hb, u, rfl, RdZ.of_own ho⟩

set_option maxRecDepth 1000000 in
theorem Collect_any (w0 : World) (b : Nat) (its : List It) (ov : List (List Nat)) (inn alt : Int) (h : VwAt w0 b its ov) (hn : its.length ≤ 100000) :
    Calls Tryd.prog 48 #[.func (Fn.func 62) #[] #[.pointer (some ⟨w0.heap.size, 0, none⟩), .pointer (some ⟨w0.heap.size + 1, 0, none⟩)]] ((w0.alloc (.cells #[.pointer (some ⟨b, 0, none⟩)] 57)).alloc (.cells #[.int .i64 inn, .int .i64 alt] 71)) fun e w' => Below w0.heap.size w0 w' ∧ ∃ u, e = .returned u ∧ RdZ w' u ((kidsF inn alt 0 its).map fun (x : Nat) => (x : Int)) := by
  have H : Hid _ := collect_seq w0 b its ov inn alt h hn
  clear h
  go_enter Tryd.func48, Tryd.ntmps48
  go_wp2_with fail
  refine Calls.mono H.out ?_
  rintro e w1 ⟨hb, u, rfl, hu⟩
  go_wp2_with fail
  go_ret
  exact ⟨hb, _, rfl, hu⟩

set_option maxRecDepth 1000000 in
/-- Kids, of any numbers. -/
theorem Kids_all (b : Nat) (inn alt : Int) (its : List It) (ov : List (List Nat)) (w : World) (h : VwAt w b its ov) (hn : its.length ≤ 100000) :
    Calls Tryd.prog 27 #[.pointer (some ⟨b, 0, none⟩), .int .i64 inn, .int .i64 alt] w fun e w' => Below w.heap.size w w' ∧ ∃ u, e = .returned u ∧ RdZ w' u ((kidsL its inn alt).map fun (x : Nat) => (x : Int)) := by
  have h8 := h.has inn
  by_cases hi : 0 ≤ inn ∧ inn < (its.length : Int)
  · rw [decide_eq_true hi] at h8
    have H1 : Hid _ := h8
    have H2 : Hid _ := Collect_any w b its ov inn alt h hn
    unfold kidsL
    rw [if_pos hi]
    clear h8 h
    go_enter Tryd.func27, Tryd.ntmps27
    go_wp2_with fail
    refine Calls.mono H1.out ?_
    rintro e w1 ⟨rfl, rfl⟩
    go_wp2_with fail
    refine Calls.mono (within_maker b inn alt w1) ?_
    rintro e w2 ⟨rfl, rfl⟩
    go_wp2_with fail
    refine Calls.mono H2.out ?_
    rintro e w3 ⟨hb, u, rfl, hu⟩
    go_wp2_with fail
    go_ret
    exact ⟨hb, _, rfl, hu⟩
  · rw [decide_eq_false hi] at h8
    refine Calls.mono (Kids_no _ inn alt w h8) ?_
    rintro e w' ⟨rfl, rfl⟩
    unfold kidsL
    rw [if_neg hi]
    exact ⟨Below.refl _ _, _, rfl, RdZ_nil _⟩

/-- What Kids tells of a plan. -/
noncomputable def kidsI (its : List It) (inn alt : Int) : List Nat := if (sagaP its).isSome then kidsL its inn alt else []

set_option maxRecDepth 1000000 in
theorem KidsP_any (its : List It) (v : Value) (inn alt : Int) (w : World) (hIt : RdIt w v its) (hF : FairI its) (hT : Dg.Tab w) :
    Calls Tryd.prog 14 #[.agg #[v], .int .i64 inn, .int .i64 alt] w fun e w' => Below w.heap.size w w' ∧ ∃ u, e = .returned u ∧ RdZ w' u ((kidsI its inn alt).map fun (x : Nat) => (x : Int)) := by
  have hb1 : Below w.heap.size w (w.alloc (.cells #[v] 29)) := (Below.refl _ w).alloc (Nat.le_refl _) _
  have r1 := Dg.row_new w #[v] 29
  have M : Hid _ := See_any its v _ (hIt.later hb1) hF (hT.later hb1)
  obtain ⟨ia, icap, rfl, _⟩ := hIt
  have g0 := (Dg.cell_row r1 0).trans rfl
  go_enter Tryd.func14, Tryd.ntmps14
  go_wp2_with fail
  generalize w.alloc (.cells #[.slice ia its.length icap] 29) = w1 at *
  refine Calls.mono M.out ?_
  rintro e w2 ⟨hb2, he⟩
  clear M g0
  have HBW : Hid _ := hb1.trans (hb2.mono hb1.size)
  cases hP : sagaP its with
  | none =>
    rw [hP] at he
    obtain rfl : e = .returned (.tuple #[.pointer none, .int .i64 2]) := he
    have HP : Hid (kidsI its inn alt = []) := by show _ = _; unfold kidsI; rw [hP]; rfl
    clear hP
    go_wp2_with fail
    refine Calls.mono (Kids_no none inn alt w2 (has_nil inn w2)) ?_
    rintro e w3 ⟨rfl, rfl⟩
    go_wp2_with fail
    go_ret
    rw [HP.out]
    exact ⟨HBW.out, _, rfl, RdZ_nil _⟩
  | some p =>
    rw [hP] at he
    obtain ⟨b, W, o, rfl, hz, hW, hV⟩ := he
    have HP : Hid (kidsI its inn alt = kidsL its inn alt) := by show _ = _; unfold kidsI; rw [hP]; rfl
    have MO : Hid _ := Kids_all b inn alt its (Dg.reachL W o) w2 hV (by have := (right_facts hP).1; omega)
    clear hP hW hV
    go_wp2_with fail
    refine Calls.mono MO.out ?_
    rintro e w3 ⟨hb3, u, rfl, hu⟩
    go_wp2_with fail
    go_ret
    rw [HP.out]
    exact ⟨HBW.out.trans (hb3.mono HBW.out.size), _, rfl, hu⟩
end Go.Proofs.YtpgdafmenbeffaaDoor

/- The laws' example: its plan, its saga, and what is told of it. -/
namespace Go.Proofs.YtpgdafmenbeffaaDoor
open Go.RowKit Go.Shelf Go.Proofs.YtpgdafmenbeffaaDoor.Sx

theorem name1 (c : UInt8) (n : Int) (h1 : enc n = [c]) (h2 : kl n = 1) (h3 : isCp n = true) : nameP [c] :=
  ⟨[n], by simp [encAll, h1], n, [], rfl, h2, by simp, by simp [h3], by simp [encAll, h1]⟩

theorem nm_t : nmP [116] = true := by
  rw [nmP, (isName_iff _).2 (name1 116 116 (by decide +kernel) (by decide +kernel) (by decide +kernel))]; rfl
theorem nm_a : nmP [97] = true := by
  rw [nmP, (isName_iff _).2 (name1 97 97 (by decide +kernel) (by decide +kernel) (by decide +kernel))]; rfl
theorem nm_b : nmP [98] = true := by
  rw [nmP, (isName_iff _).2 (name1 98 98 (by decide +kernel) (by decide +kernel) (by decide +kernel))]; rfl
theorem nm_c : nmP [99] = true := by
  rw [nmP, (isName_iff _).2 (name1 99 99 (by decide +kernel) (by decide +kernel) (by decide +kernel))]; rfl
theorem nm_d : nmP [100] = true := by
  rw [nmP, (isName_iff _).2 (name1 100 100 (by decide +kernel) (by decide +kernel) (by decide +kernel))]; rfl
theorem nm_e : nmP [101] = true := by
  rw [nmP, (isName_iff _).2 (name1 101 101 (by decide +kernel) (by decide +kernel) (by decide +kernel))]; rfl

/-- The example's bodies. -/
def tEx : Tr := .b (.n ⟨[97], [98], [], false, false⟩ .e (.n ⟨[99], [], [[97]], true, false⟩ (.b (.n ⟨[100], [101], [], false, false⟩ .e .e) .e) .e)) .e
/-- Its items. -/
def iEx : List It := [⟨[116], [], true, true, 1, -1, 0, []⟩, ⟨[97], [98], false, false, 0, 0, 0, []⟩, ⟨[99], [], true, false, 1, 0, 0, [1]⟩, ⟨[100], [101], false, false, 0, 2, 0, []⟩]
/-- One node that has no undo. -/
def tNo : Tr := .b (.n ⟨[97], [], [], false, false⟩ .e .e) .e

theorem right_ex : rightS [116] tEx = true := by
  unfold rightS okL
  rw [nm_t]
  have hb : bigL (fltn 1 tEx) = false := by decide +kernel
  rw [hb]
  simp [tEx, fltn, nodeOk, nm_a, nm_b, nm_c, nm_d, nm_e, Tr.len]

theorem fit_ex : fitS [116] tEx = true := by
  unfold fitS codeS
  rw [right_ex]
  decide +kernel

theorem plan_ex : planT [116] tEx = some iEx := by
  unfold planT planP
  rw [if_pos ⟨fit_ex, by decide +kernel, by decide +kernel, by kernel_rfl⟩]
  kernel_rfl

theorem saga_ex : sagaP iEx = some ([116], tEx) := by
  have h1 : nameI iEx 0 = [116] := by kernel_rfl
  have h2 : bodS iEx = tEx := by kernel_rfl
  unfold sagaP
  rw [h1, h2, if_pos ⟨by decide +kernel, plan_ex⟩]

theorem plan_no : planT [116] tNo = none := by
  unfold planT planP
  rw [if_neg]
  rintro ⟨_, h, _⟩
  revert h
  decide +kernel

theorem kids_ex : kidsI iEx 2 0 = [3] := by unfold kidsI; rw [saga_ex]; decide +kernel
theorem above_ex : aboveI iEx 3 = [2, 0] := by unfold aboveI; rw [saga_ex]; decide +kernel
theorem over_ex : overI iEx 1 = [2] := by unfold overI; rw [saga_ex]; show overL (ovT iEx) 1 = [2]; kernel_rfl
end Go.Proofs.YtpgdafmenbeffaaDoor

