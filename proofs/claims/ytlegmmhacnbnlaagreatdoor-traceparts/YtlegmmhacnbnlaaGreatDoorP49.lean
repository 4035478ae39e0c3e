/- Texts of the seat, packed: Yq Tf Tg Kr Pf Yt Kk. -/
import Derived.Test.YtlegmmhacnbnlaaGreatDoorP48
import Derived.Test.YtlegmmhacnbnlaaGreatDoorP13
import Derived.Test.YtlegmmhacnbnlaaGreatDoorP46
import Derived.Test.YtlegmmhacnbnlaaGreatDoorP47
import Derived.Laws.Rows
/- The program's within: the items that stand in a spot, one after another. -/
namespace Go.Proofs.YtlegmmhacnbnlaaGreatDoor

open Go.RowKit Go.Shelf Go.Proofs.YtlegmmhacnbnlaaGreatDoor.Sx

attribute [local go_sem] Oper.semAt_some

/-- What is known between two items. -/
structure KSt (w0 : World) (bv bs b : Nat) (inn alt : Int) (J : Nat → World → (Nat → Prop) → Prop) (W0 : World) (T0 : Nat → Prop) (k : Nat) (T : Nat → Prop) (Wr : World) : Prop where
  j : J k Wr T
  low : ∀ b, b < w0.heap.size → Wr.heap[b]? = w0.heap[b]?
  le : w0.heap.size ≤ Wr.heap.size
  own : ∀ b, T b → w0.heap.size ≤ b ∧ b < Wr.heap.size
  hbv : Wr.heap[bv]? = some (.cells #[.pointer (some ⟨b, 0, none⟩)] 47 (0, 0))
  hbs : Wr.heap[bs]? = some (.cells #[.int .i64 inn, .int .i64 alt] 72 (0, 0))
  tv : T bv
  ts : T bs
  old : ∀ b, b < W0.heap.size → (T b ↔ T0 b)
  sz : W0.heap.size ≤ Wr.heap.size

section

variable {w0 : World} {bv bs b : Nat} {inn alt : Int} {J : Nat → World → (Nat → Prop) → Prop} {W0 : World} {T0 : Nat → Prop} {k : Nat} {T : Nat → Prop} {Wr : World}

theorem KSt.alloc (h : KSt w0 bv bs b inn alt J W0 T0 k T Wr) (hJ : ∀ k A TA B TB, J k A TA → Mv TA A TB B → J k B TB) (o : Obj) : KSt w0 bv bs b inn alt J W0 T0 k (fun b => T b ∨ b = Wr.heap.size) (Wr.alloc o) := by
  have al : ∀ {b x}, Wr.heap[b]? = some x → (Wr.alloc o).heap[b]? = some x := fun hx => (Below.heap_alloc _ _ _ (Array.getElem?_eq_some_iff.1 hx).1).trans hx
  refine ⟨hJ _ _ _ _ _ h.j (Mv.alloc _ _ _), fun b hb => (Below.heap_alloc _ _ _ (by have := h.le; omega)).trans (h.low b hb), by have := h.le; simp; omega, fun b hb => ?_, al h.hbv, al h.hbs, .inl h.tv, .inl h.ts, fun b hb => ?_, by have := h.sz; simp; omega⟩
  · rcases hb with hb | rfl
    · have := h.own b hb; simp; omega
    · have := h.le; simp; omega
  · have := h.sz
    exact ⟨fun hx => (h.old b hb).1 (hx.resolve_right (by omega)), fun hx => .inl ((h.old b hb).2 hx)⟩

theorem KSt.round (h : KSt w0 bv bs b inn alt J W0 T0 k T Wr) {W' : World} {k' : Nat} (hj : J k' W' T) (hr : Rv w0.heap.size T Wr W') : KSt w0 bv bs b inn alt J W0 T0 k' T W' := by
  have kp : ∀ {b x}, T b → Wr.heap[b]? = some x → W'.heap[b]? = some x := fun hb hx => (hr.keep _ hb (Array.getElem?_eq_some_iff.1 hx).1).trans hx
  exact ⟨hj, fun b hb => (hr.low b hb).trans (h.low b hb), Nat.le_trans h.le hr.size, fun b hb => ⟨(h.own b hb).1, Nat.lt_of_lt_of_le (h.own b hb).2 hr.size⟩, kp h.tv h.hbv, kp h.ts h.hbs, h.tv, h.ts, h.old, Nat.le_trans h.sz hr.size⟩

theorem KSt.cell (h : KSt w0 bv bs b inn alt J W0 T0 k T Wr) {c i : Nat} {v : Value} (hc : w0.cell? ⟨c, i, none⟩ = some v) : Wr.cell? ⟨c, i, none⟩ = some v := by
  have hb : c < w0.heap.size := World.block_lt_of_cell? w0 ⟨c, i, none⟩ hc
  exact (World.cell?_of_block (a := ⟨c, i, none⟩) (h.low c hb)).trans hc

end

end Go.Proofs.YtlegmmhacnbnlaaGreatDoor

/- Plain: what is told of the plan of a saga: its bodies, what stands above, how many. -/
namespace Go.Proofs.YtlegmmhacnbnlaaGreatDoor

open Go.RowKit Go.Shelf Go.Proofs.YtlegmmhacnbnlaaGreatDoor.Sx

theorem fits_all (t : Tr) : ∀ (inn alt last : Nat), fitN t = true → ∀ y ∈ xsT t inn alt last, fits y.alts = true ∧ y.am = y.alts.len := by
  induction t with
  | e => intro _ _ _ _ y hy; cases hy
  | b x r ih1 ih2 =>
    intro inn alt last hN y hy
    simp only [fitN, Bool.and_eq_true] at hN
    rw [xsT, List.mem_append] at hy
    rcases hy with hy | hy
    · exact ih1 _ _ _ hN.1 y hy
    · exact ih2 _ _ _ hN.2 y hy
  | n l s r ih1 ih2 =>
    intro inn alt last hN y hy
    simp only [fitN, Bool.and_eq_true] at hN
    rw [xsT, List.mem_cons, List.mem_append] at hy
    rcases hy with rfl | hy | hy
    · exact ⟨hN.1, rfl⟩
    · exact ih1 _ _ _ hN.2.1 y hy
    · exact ih2 _ _ _ hN.2.2 y hy

/-- In which body of what a node stands. -/
theorem alt_top (t : Tr) : ∀ (k : Bool) (inn alt last : Nat), Kd k t → inn ≤ last → ∀ y ∈ xsT t inn alt last, y.inn = inn → k = true → y.alt < alt + t.len := by
  induction t with
  | e => intro _ _ _ _ _ _ y hy; cases hy
  | b x r ih1 ih2 =>
    rintro k inn alt last ⟨_, hx, hr⟩ hl y hy hi hk
    have hlen : (Tr.b x r).len = r.len + 1 := rfl
    rw [xsT, List.mem_append] at hy
    rcases hy with hy | hy
    · have := (xsT_alt x false inn alt last hx hl y hy hi).1 rfl
      omega
    · have := ih2 true inn (alt + 1) (last + cntA x) hr (by omega) y hy hi rfl
      omega
  | n l s r _ _ => rintro k inn alt last ⟨hk, _⟩ _ y _ _ hk2; rw [hk] at hk2; cases hk2

theorem alt_lt (t : Tr) : ∀ (k : Bool) (inn alt last : Nat), Kd k t → inn ≤ last → ∀ y ∈ xsT t inn alt last, y.inn = inn ∨ ∃ p ∈ xsT t inn alt last, p.num = y.inn ∧ y.alt < p.am := by
  induction t with
  | e => intro _ _ _ _ _ _ y hy; cases hy
  | b x r ih1 ih2 =>
    rintro k inn alt last ⟨_, hx, hr⟩ hl y hy
    rw [xsT, List.mem_append] at hy
    rcases hy with hy | hy
    · rcases ih1 false inn alt last hx hl y hy with h | ⟨p, h1, h2⟩
      · exact .inl h
      · exact .inr ⟨p, by rw [xsT]; exact List.mem_append_left _ h1, h2⟩
    · rcases ih2 true inn (alt + 1) (last + cntA x) hr (by omega) y hy with h | ⟨p, h1, h2⟩
      · exact .inl h
      · exact .inr ⟨p, by rw [xsT]; exact List.mem_append_right _ h1, h2⟩
  | n l s r ih1 ih2 =>
    rintro k inn alt last ⟨_, hs, hr⟩ hl y hy
    rw [xsT, List.mem_cons, List.mem_append] at hy
    rcases hy with rfl | hy | hy
    · exact .inl rfl
    · rcases ih1 true (last + 1) 0 (last + 1) hs (Nat.le_refl _) y hy with h | ⟨p, h1, h2⟩
      · have := alt_top s true (last + 1) 0 (last + 1) hs (Nat.le_refl _) y hy h rfl
        refine .inr ⟨_, by rw [xsT]; exact List.mem_cons_self .., h.symm, ?_⟩
        show y.alt < s.len
        omega
      · exact .inr ⟨p, by rw [xsT]; exact List.mem_cons_of_mem _ (List.mem_append_left _ h1), h2⟩
    · rcases ih2 false inn alt (last + 1 + cntA s) hr (by omega) y hy with h | ⟨p, h1, h2⟩
      · exact .inl h
      · exact .inr ⟨p, by rw [xsT]; exact List.mem_cons_of_mem _ (List.mem_append_right _ h1), h2⟩

end Go.Proofs.YtlegmmhacnbnlaaGreatDoor

/- Plain: what PlanAll asks of the plan of a saga. -/
namespace Go.Proofs.YtlegmmhacnbnlaaGreatDoor

open Go.RowKit Go.Shelf Go.Proofs.YtlegmmhacnbnlaaGreatDoor.Sx

/-- Where each item but the first one stands. -/
theorem item_in {x : By} {t : Tr} {its : List It} (h : planT x t = some its) (hk : Kd true t) {j : Nat} {z : It} (hz : its[j]? = some z) (hj : 0 < j) : ∃ (i alt : Nat) (p : It), z.inn = (i : Int) ∧ z.alt = (alt : Int) ∧ i < j ∧ its[i]? = some p ∧ (alt : Int) < p.alts := by
  have htell := plan_tells h
  obtain ⟨k, rfl⟩ : ∃ k, j = k + 1 := ⟨j - 1, by omega⟩
  have hjl : k < (xsT t 0 0 0).length := by
    have := (List.getElem?_eq_some_iff.1 hz).1
    rw [htell.len] at this
    omega
  obtain ⟨y, hy⟩ : ∃ y, (xsT t 0 0 0)[k]? = some y := ⟨_, List.getElem?_eq_getElem hjl⟩
  obtain ⟨_, hle, z', hz', hi, ha, _, _⟩ := htell.at_ k y hy
  rw [hz] at hz'
  cases hz'
  have hm := List.mem_of_getElem? hy
  by_cases h0 : y.inn = 0
  · have h1 := alt_top t true 0 0 0 hk (Nat.le_refl _) y hm h0 rfl
    obtain ⟨_, _, _, he⟩ := planT_parts h
    refine ⟨0, y.alt, rootI x t.len, by rw [hi, h0], ha, by omega, by rw [he, its2_root], ?_⟩
    show (y.alt : Int) < (t.len : Int)
    omega
  · rcases alt_lt t true 0 0 0 hk (Nat.le_refl _) y hm with h1 | ⟨p, hp, hpn, hpa⟩
    · exact absurd h1 h0
    · obtain ⟨q, hq⟩ := List.mem_iff_getElem?.1 hp
      obtain ⟨hqn, _, u, hu, _, _, hus, _⟩ := htell.at_ q p hq
      refine ⟨y.inn, y.alt, u, hi, ha, by omega, ?_, by omega⟩
      rw [← hpn, hqn]
      exact hu

end Go.Proofs.YtlegmmhacnbnlaaGreatDoor

/- A right plan as the plain side of layer 14 has it. -/
namespace Go.Proofs.YtlegmmhacnbnlaaGreatDoor.St

open Go.Proofs.YtlegmmhacnbnlaaGreatDoor.Sx

set_option linter.unusedVariables false

/-- Nodes, and bodies, of lists are of their kind. -/
theorem kd_nodes : ∀ (l : List (Lab × Tr)), (∀ x ∈ l, Kd true x.2) → Kd false (nodesL l)
  | [], _ => trivial
  | x :: l, h => ⟨rfl, h x (by simp), kd_nodes l fun y hy => h y (by simp [hy])⟩

theorem kd_bodies : ∀ (l : List Tr), (∀ x ∈ l, Kd false x) → Kd true (bodiesL l)
  | [], _ => trivial
  | x :: l, h => ⟨rfl, h x (by simp), kd_bodies l fun y hy => h y (by simp [hy])⟩

theorem kd_kids {its : List It} {rec : Nat → Tr} (hr : ∀ k, Kd true (rec k)) (i alt : Nat) : ∀ k, ∀ x ∈ kidsT its rec i alt k, Kd true x.2
  | 0, x, hx => by cases hx
  | k + 1, x, hx => by
    unfold kidsT at hx
    rcases List.mem_append.1 hx with hx | hx
    · exact kd_kids hr i alt k x hx
    · split at hx
      · split at hx
        · simp at hx
          subst hx
          exact hr k
        · cases hx
      · cases hx

theorem kd_bodT (its : List It) : ∀ (f i : Nat), Kd true (bodT its f i)
  | 0, _ => trivial
  | f + 1, i => by
    unfold bodT
    refine kd_bodies _ fun x hx => ?_
    obtain ⟨a, _, rfl⟩ := List.mem_map.1 hx
    exact kd_nodes _ (kd_kids (kd_bodT its f) i a _)

/-- Each node of right bodies is right. -/
theorem xs_ok (t : Tr) : ∀ (k : Bool) (inn alt last d : Nat), Kd k t → Sx.okL (fltn d t) = true → ∀ y ∈ xsT t inn alt last, nodeOk y.lab y.am = true := by
  induction t with
  | e => intro k inn alt last d _ _ y hy; cases hy
  | b x r ih1 ih2 =>
    intro k inn alt last d hk ho y hy
    obtain ⟨_, k1, k2⟩ := hk
    unfold Sx.okL fltn at ho
    rw [List.all_append, Bool.and_eq_true] at ho
    rcases List.mem_append.1 hy with hy | hy
    · exact ih1 _ _ _ _ d k1 ho.1 y hy
    · exact ih2 _ _ _ _ d k2 ho.2 y hy
  | n l s r ih1 ih2 =>
    intro k inn alt last d hk ho y hy
    obtain ⟨_, k1, k2⟩ := hk
    unfold Sx.okL fltn at ho
    rw [List.all_cons, List.all_append, Bool.and_eq_true, Bool.and_eq_true] at ho
    obtain ⟨o1, o2, o3⟩ := ho
    rcases List.mem_cons.1 hy with rfl | hy
    · exact o1
    · rcases List.mem_append.1 hy with hy | hy
      · cases hsub : l.sub with
        | true =>
          rw [hsub] at o2
          exact ih1 _ _ _ _ (d + 1) k1 o2 y hy
        | false =>
          have hs : s = .e := by
            unfold nodeOk at o1
            simp only [hsub] at o1
            cases s with
            | e => rfl
            | b x r => simp [Tr.len] at o1
            | n l t r => simp [Tr.len] at o1
          subst hs
          cases hy
      · exact ih2 _ _ _ _ d k2 o3 y hy

def It.z : It := ⟨[], [], false, false, 0, 0, 0, []⟩

/-- What each item of a right plan is. -/
theorem plan_items {its : List It} {q : By × Tr} (h : sagaP its = some q) :
    (∃ x, its[0]? = some x ∧ x.sub = true ∧ x.inn = -1 ∧ x.alt = 0 ∧ 1 ≤ x.alts ∧ x.alts ≤ 4) ∧
    ∀ (i : Nat) (x : It), its[i]? = some x → 1 ≤ i → (∃ (j a : Nat) (y : It), x.inn = (j : Int) ∧ x.alt = (a : Int) ∧ j < i ∧ its[j]? = some y ∧ (a : Int) < y.alts ∧ y.sub = true) ∧ (if x.sub then 1 ≤ x.alts ∧ x.alts ≤ 4 else x.alts = 0 ∧ x.vital = false) := by
  unfold sagaP at h
  split at h
  rotate_left
  · cases h
  rename_i hc
  obtain ⟨_, hp⟩ := hc
  have hk : Kd true (bodS its) := kd_bodT its _ 0
  obtain ⟨p1, p2, p3, p4⟩ := planT_parts hp
  have hfs := p1
  unfold fitS at hfs
  simp only [Bool.and_eq_true, decide_eq_true_eq] at hfs
  obtain ⟨f1, _, _, f4, f5⟩ := hfs
  have hr : rightS (nameI its 0) (bodS its) = true := by
    apply Classical.byContradiction
    intro h9
    unfold codeS at f1
    rw [if_neg h9] at f1
    cases f1
  unfold rightS at hr
  simp only [Bool.and_eq_true, decide_eq_true_eq] at hr
  obtain ⟨⟨⟨_, hpos⟩, _⟩, hok⟩ := hr
  have h4 : (bodS its).len ≤ 4 := by
    unfold fits at f4
    simp only [Bool.and_eq_true, decide_eq_true_eq] at f4
    exact f4.1
  have htell := plan_tells hp
  have hroot : its[0]? = some (rootI (nameI its 0) (bodS its).len) := by
    have h9 := its2_root (nameI its 0) (bodS its).len (xsT (bodS its) 0 0 0)
    rw [← p4] at h9
    exact h9
  have step : ∀ (i : Nat) (x : It), its[i]? = some x → 1 ≤ i → (if x.sub then 1 ≤ x.alts ∧ x.alts ≤ 4 else x.alts = 0 ∧ x.vital = false) := by
    intro i x hx hi
    obtain ⟨k, rfl⟩ : ∃ k, i = k + 1 := ⟨i - 1, by omega⟩
    have hkl : k < (xsT (bodS its) 0 0 0).length := by
      have := (List.getElem?_eq_some_iff.1 hx).1
      rw [htell.len] at this
      omega
    obtain ⟨y, hy⟩ : ∃ y, (xsT (bodS its) 0 0 0)[k]? = some y := ⟨_, List.getElem?_eq_getElem hkl⟩
    obtain ⟨_, _, z, hz, _, _, ha, hlab⟩ := htell.at_ k y hy
    rw [hx] at hz
    cases hz
    have hm := List.mem_of_getElem? hy
    have hn := xs_ok (bodS its) true 0 0 0 1 hk hok y hm
    obtain ⟨hf, he⟩ := fits_all (bodS its) 0 0 0 f5 y hm
    have hl4 : y.am ≤ 4 := by
      unfold fits at hf
      simp only [Bool.and_eq_true, decide_eq_true_eq] at hf
      rw [he]
      exact hf.1
    have hs : x.sub = y.lab.sub := by rw [← hlab]; rfl
    have hv : x.vital = y.lab.vital := by rw [← hlab]; rfl
    unfold nodeOk at hn
    rw [Bool.and_eq_true] at hn
    rw [hs, hv, ha]
    have hn2 := hn.2
    cases hsub : y.lab.sub with
    | true =>
      rw [hsub] at hn2
      simp at hn2
      rw [if_pos rfl]
      omega
    | false =>
      rw [hsub] at hn2
      simp at hn2
      rw [if_neg (by decide)]
      exact ⟨by omega, hn2.1.2⟩
  refine ⟨⟨_, hroot, rfl, rfl, rfl, by show (1 : Int) ≤ ((bodS its).len : Int); omega, by show (((bodS its).len : Nat) : Int) ≤ 4; omega⟩, fun i x hx hi => ⟨?_, step i x hx hi⟩⟩
  obtain ⟨j, a, y, e1, e2, e3, e4, e5⟩ := item_in hp hk hx (by omega)
  refine ⟨j, a, y, e1, e2, e3, e4, e5, ?_⟩
  by_cases hj : j = 0
  · subst hj
    rw [hroot] at e4
    cases e4
    rfl
  · have h9 := step j y e4 (by omega)
    cases hs : y.sub with
    | true => rfl
    | false =>
      rw [hs, if_neg (by decide)] at h9
      omega

end Go.Proofs.YtlegmmhacnbnlaaGreatDoor.St

/- Order. -/
namespace Go.Proofs.YtlegmmhacnbnlaaGreatDoor.J.Tz
open Go.RowKit Go.Shelf Go.Proofs.YtlegmmhacnbnlaaGreatDoor.J
set_option maxRecDepth 1000000
set_option linter.unusedVariables false

theorem stem_of {its : List It} {q : Sx.By × Sx.Tr} (hq : sagaP its = some q) : Stem its := by
  intro i x hx h0
  obtain ⟨_, hi⟩ := St.plan_items hq
  obtain ⟨⟨j, a, y, e1, e2, e3, _⟩, _⟩ := hi i x hx h0
  omega

/-- Was a trace undone in order, of a plan that is right? -/
def ordC (its : List It) (l : List Ef) : Prop := (∃ q, sagaP its = some q) ∧ ∃ W o, Dg.weaveP (its.length : Int) (Dg.swapA (arcP its)) = .ok W o ∧ inOrd (stepP its) its.length (leanO its (Dg.reachL W o)) l
theorem ordC_take {its : List It} {l : List Ef} (hl : l.length ≤ 1000000) (h : ordC its l) (m : Nat) : ordC its (l.take m) := by
  obtain ⟨h1, W, o, h2, h3⟩ := h
  exact ⟨h1, W, o, h2, inOrd_take hl h3 m⟩
theorem ordC_iff {its : List It} {l : List Ef} {q : Sx.By × Sx.Tr} {W o : List Nat} (hq : sagaP its = some q) (hW : Dg.weaveP (its.length : Int) (Dg.swapA (arcP its)) = .ok W o) : ordC its l ↔ inOrd (stepP its) its.length (leanO its (Dg.reachL W o)) l := by
  refine ⟨fun h => ?_, fun h => ⟨⟨q, hq⟩, W, o, hW, h⟩⟩
  obtain ⟨_, W', o', h2, h3⟩ := h
  rw [hW] at h2
  cases h2
  exact h3

theorem dd_mem {l : List Ef} {k : Kx} {s : Sp} (h : dd l 0 k = some s) : ∃ e ∈ l, e.i = k.1 := by
  unfold dd at h
  rw [List.drop_zero] at h
  obtain ⟨_, ⟨f, m, x, y, q1, q2, q3, _⟩, _⟩ := ddL_some h
  exact ⟨x, List.mem_of_getElem? q2, q3⟩

set_option maxHeartbeats 16000000 in
theorem order_any (its : List It) (pv : Value) (l : List Ef) (lv : Value) (w : World) (hIt : RdIt w pv its) (hF : FairI its) (hT : Dg.Tab w) (hv : RE w lv l) (hl : l.length ≤ 1000000) (hil : its.length ≤ 70) :
    Calls Tryz.prog 6 #[.agg #[pv], lv] w fun e w' => (∃ q : Int, e = .returned (.int .i64 q) ∧ (q = 0 ↔ ordC its l)) ∧ Below w.heap.size w w' := by
  have hb1 : Below w.heap.size w (w.alloc (.cells #[pv] 24)) := bl1 _ _
  have r1 := heap_alloc_new w (.cells #[pv] 24)
  have HS : Hid (∀ wx, Below w.heap.size w wx → Calls Tryz.prog 15 #[.agg #[pv]] wx fun e w' => SeeC its wx e w') := fun wx hb => See_any its pv wx (hIt.later hb) hF (hT.later hb)
  have HV : Hid (∀ wx, Below w.heap.size w wx → RE wx lv l) := fun wx hb => hv.later hb
  have HI : Hid (∀ wx, Below w.heap.size w wx → RdIt wx pv its) := fun wx hb => hIt.later hb
  have HLN : Hid (l.length ≤ 1000000) := hl
  have HIL : Hid (its.length ≤ 70) := hil
  have g0 := (cell_row r1 0).trans rfl
  obtain ⟨ia, icap, hpv, _⟩ := hIt
  obtain ⟨la, lc, hlv, _⟩ := hv.slice
  subst hpv
  subst hlv
  clear hF hT hv hl hil
  go_enter Tryz.func6, Tryz.ntmps6
  go_wp2_with fail
  clear g0
  obtain ⟨w1, hw1⟩ : ∃ w1, w.alloc (.cells #[.slice ia its.length icap] 24) = w1 := ⟨_, rfl⟩
  rw [hw1] at r1 hb1 ⊢
  have HR1 : Hid _ := r1
  have HB1 : Hid _ := hb1
  clear hb1 r1
  refine Calls.mono (HS.out w1 HB1.out) ?_
  rintro e w2 ⟨hb2, he⟩
  have HB2 : Hid (Below w.heap.size w w2) := HB1.out.trans (hb2.mono HB1.out.size)
  cases hq : sagaP its with
  | none =>
    rw [hq] at he
    dsimp only at he
    subst he
    have HQ : Hid (¬ ordC its l) := fun h => by obtain ⟨⟨q, h1⟩, _⟩ := h; rw [hq] at h1; cases h1
    clear hq hb2 HS
    go_wp2_with fail
    go_ret
    exact ⟨⟨2, rfl, by simpa using HQ.out⟩, HB2.out⟩
  | some q =>
    rw [hq] at he
    dsimp only at he
    obtain ⟨vb, W, o, rfl, _, hW, hV⟩ := he
    have HC : Hid _ := ordC_iff (l := l) hq hW
    have HST : Hid (Stem its) := stem_of hq
    have HPB : Hid (PlB w2 w.heap.size its) := by
      have h1 : w2.heap[w.heap.size]? = some (.cells #[.slice ia its.length icap] 24 (0, 0)) := row_later HR1.out hb2
      exact ⟨_, h1, HI.out w2 HB2.out⟩
    have HSY : Hid _ := strays_any its l _ w.heap.size w2 (HV.out w2 HB2.out) HPB.out (by have := HIL.out; omega) HLN.out
    have HVW : Hid (VwAt w2 vb its (Dg.reachL W o)) := hV
    have h0 : w2.cell? ⟨w.heap.size, 0, none⟩ = some (.slice ia its.length icap) := (cell_row (row_later HR1.out hb2) 0).trans rfl
    obtain ⟨sy, hsy⟩ : ∃ sy, (l.any fun e => !stepP its e.i) = sy := ⟨_, rfl⟩
    have HSQ : Hid _ := hsy
    rw [hsy] at HSY
    obtain ⟨n, hn⟩ : ∃ n, its.length = n := ⟨_, rfl⟩
    have HN : Hid (its.length = n) := hn
    obtain ⟨ll, hll⟩ : ∃ n, l.length = n := ⟨_, rfl⟩
    have HLL : Hid (l.length = ll) := hll
    rw [hll] at HSY ⊢
    rw [hn] at h0 ⊢
    clear hq hW hV hb2 HS hsy hn hll HR1
    cases sy with
    | true =>
      have HQ : Hid (¬ ordC its l) := by
        show ¬ _
        rw [HC.out]
        intro h
        obtain ⟨e, he, hx⟩ := List.any_eq_true.1 HSQ.out
        rw [h.1 e he] at hx
        cases hx
      go_wp2_with fail
      refine Calls.mono HSY.out ?_
      rintro e w3 ⟨rfl, hb3⟩
      have HB3 : Hid (Below w.heap.size w w3) := HB2.out.trans (hb3.mono HB2.out.size)
      clear HSY hb3
      go_wp2_with fail
      go_ret
      exact ⟨⟨14, rfl, by simpa using HQ.out⟩, HB3.out⟩
    | false =>
      have HALL : Hid (∀ e ∈ l, stepP its e.i = true) := fun e he => by
        have := List.any_eq_false.1 HSQ.out e he
        simpa using this
      go_wp2_with fail
      refine Calls.mono HSY.out ?_
      rintro e w3 ⟨rfl, hb3⟩
      have HB3 : Hid (Below w.heap.size w w3 ∧ Below w2.heap.size w2 w3) := ⟨HB2.out.trans (hb3.mono HB2.out.size), hb3⟩
      have h0 := cell_later hb3 h0
      have HDD : Hid _ := deeds_any l _ HLN.out w3 (HV.out w3 HB3.out.1)
      rw [HLL.out] at HDD
      clear HSY hb3
      go_wp2_with fail
      refine Calls.mono HDD.out ?_
      rintro e w4 ⟨rfl, hkm, hb4⟩
      have h0 := cell_later hb4 h0
      have HB4 : Hid (Below w.heap.size w w4 ∧ Below w2.heap.size w2 w4) := ⟨HB3.out.1.trans (hb4.mono HB3.out.1.size), HB3.out.2.trans (hb4.mono HB3.out.2.size)⟩
      generalize hb : w3.heap.size = b at *
      have HKM : Hid (KM SV w4 b ll (dd l 0)) := hkm
      have HKY : Hid (∀ k s, dd l 0 k = some s → ∃ m : Nat, k.1 = (m : Int) ∧ m < its.length) := fun k s hd => by
        obtain ⟨e, he, hk⟩ := dd_mem hd
        obtain ⟨m, x, h1, h2, _⟩ := stepP_lt (HALL.out e he)
        exact ⟨m, by rw [← hk, h1], (List.getElem?_eq_some_iff.1 h2).1⟩
      have HOL : Hid ((Dg.reachL W o).length = its.length) := by obtain ⟨_, _, _, _, _, _, h9⟩ := HVW.out; exact h9
      have HOB : Hid (∀ x ∈ Dg.reachL W o, x.length ≤ 1000000) := fun x hx => by
        unfold Dg.reachL at hx
        obtain ⟨y, _, rfl⟩ := List.mem_map.1 hx
        have := Dg.bitsOf_len y
        omega
      have HAM : Hid (∀ wx (i : Nat), Below w4.heap.size w4 wx → i < n → Calls Tryz.prog 20 #[.map (some b), .int .i64 (i : Int)] wx fun e w' => (∃ q, e = .returned (.bool q) ∧ (q = true ↔ amissP l i)) ∧ Below wx.heap.size wx w') := fun wx i hb hi => by
        refine (amiss_any (HKM.out.later hb) (i := (i : Int)) (wf_small (by omega) (by have := HIL.out; have := HN.out; omega)) (u := unD l i) (s := stD l i) rfl rfl).mono ?_
        rintro e w' ⟨h1, h2⟩
        exact ⟨⟨_, h1, by rw [decide_eq_true_iff]; exact (amiss_iff rfl rfl).symm⟩, h2⟩
      have HEA : Hid (∀ wx (i : Nat), Below w4.heap.size w4 wx → i < n → Calls Tryz.prog 21 #[.map (some b), .pointer (some ⟨vb, 0, none⟩), .int .i64 (i : Int)] wx fun e w' => (∃ q, e = .returned (.bool q) ∧ (q = true ↔ earlyP (leanO its (Dg.reachL W o)) l i)) ∧ Below wx.heap.size wx w') := fun wx i hb hi => by
        obtain ⟨lo, hlo⟩ : ∃ lo, (Dg.reachL W o)[i]? = some lo := ⟨_, List.getElem?_eq_getElem (by rw [HOL.out, HN.out]; exact hi)⟩
        refine (early_any l its (Dg.reachL W o) lo HLN.out (HKM.out.later hb) (HVW.out.later (HB4.out.2.trans (hb.mono HB4.out.2.size))) i (by rw [HN.out]; exact hi) hlo (HOB.out lo (List.mem_of_getElem? hlo)) HST.out HIL.out HKY.out).mono ?_
        rintro e w' ⟨q, h1, h2, h3⟩
        exact ⟨⟨q, h1, h2⟩, h3⟩
      have HNL : Hid (n ≤ 70) := by rw [← HN.out]; exact HIL.out
      clear hb4 hkm HDD HKM HPB hb HST HVW HSQ
      go_wp2_with fail
      go_loopw [27] (fun s27 wr => ∃ (j : Nat), s27 = .int .i64 j ∧ j ≤ n ∧ Hid (Below w4.heap.size w4 wr) ∧ Hid (∀ i : Nat, i < j → ¬ amissP l i ∧ ¬ earlyP (leanO its (Dg.reachL W o)) l i)) (fun s27 _ => n - (intOf s27).toNat)
      case atStart => exact ⟨0, rfl, Nat.zero_le _, Below.refl _ _, fun i hi => by omega⟩
      case round =>
        obtain ⟨j, rfl, hj, HB, HX⟩ := hrel
        rename World => wr
        have hn70 := HNL.out
        by_cases hlt : j < n
        · have hji : (j : Int) < (n : Int) := by omega
          have HA : Hid _ := HAM.out wr j HB.out hlt
          go_wp2_with fail
          refine Calls.mono HA.out ?_
          rintro e w5 ⟨⟨q1, rfl, hq1⟩, hb5⟩
          have HQ1 : Hid _ := hq1
          have HB5 : Hid (Below w4.heap.size w4 w5) := HB.out.trans (hb5.mono HB.out.size)
          clear hq1 hb5 HA
          cases q1 with
          | true =>
            have HQ : Hid (¬ ordC its l) := by
              show ¬ _
              rw [HC.out]
              intro h
              exact (h.2 j (by rw [HN.out]; exact hlt)).1 (HQ1.out.1 rfl)
            go_wp2_with fail
            go_ret
            exact ⟨⟨14, rfl, by simpa using HQ.out⟩, HB4.out.1.trans (HB5.out.mono HB4.out.1.size)⟩
          | false =>
            have HA : Hid _ := HEA.out w5 j HB5.out hlt
            go_wp2_with fail
            refine Calls.mono HA.out ?_
            rintro e w6 ⟨⟨q2, rfl, hq2⟩, hb6⟩
            have HQ2 : Hid _ := hq2
            have HB6 : Hid (Below w4.heap.size w4 w6) := HB5.out.trans (hb6.mono HB5.out.size)
            clear hq2 hb6 HA
            cases q2 with
            | true =>
              have HQ : Hid (¬ ordC its l) := by
                show ¬ _
                rw [HC.out]
                intro h
                exact (h.2 j (by rw [HN.out]; exact hlt)).2 (HQ2.out.1 rfl)
              go_wp2_with fail
              go_ret
              exact ⟨⟨14, rfl, by simpa using HQ.out⟩, HB4.out.1.trans (HB6.out.mono HB4.out.1.size)⟩
            | false =>
              have HX2 : Hid (∀ i : Nat, i < j + 1 → ¬ amissP l i ∧ ¬ earlyP (leanO its (Dg.reachL W o)) l i) := by
                intro i hi
                by_cases e9 : i = j
                · subst e9
                  exact ⟨fun h => Bool.noConfusion (HQ1.out.2 h), fun h => Bool.noConfusion (HQ2.out.2 h)⟩
                · exact HX.out i (by omega)
              clear HX
              go_wp2_with fail
              go_roundw
              case rel => exact ⟨j + 1, by go_num, by omega, HB6, HX2⟩
              case measure => simp [intOf]; omega
        · have HQ : Hid (ordC its l) := by
            show ordC _ _
            rw [HC.out]
            exact ⟨HALL.out, fun i hi => HX.out i (by rw [HN.out] at hi; omega)⟩
          clear HX
          go_wp2_with fail
          go_ret
          exact ⟨⟨0, rfl, by simpa using HQ.out⟩, HB4.out.1.trans (HB.out.mono HB4.out.1.size)⟩
end Go.Proofs.YtlegmmhacnbnlaaGreatDoor.J.Tz

/- The laws' example, in memory. -/
namespace Go.Proofs.YtlegmmhacnbnlaaGreatDoor

open Go.RowKit Go.Shelf Go.Proofs.YtlegmmhacnbnlaaGreatDoor.Sx

theorem old1 {W : World} {k : Nat} {x : Obj} (h : W.heap[k]? = some x) (o : Obj) : (W.alloc o).heap[k]? = some x := (Below.heap_alloc _ _ _ (Array.getElem?_eq_some_iff.1 h).1).trans h

theorem new1 (W : World) (o : Obj) (k : Nat) (h : k = W.heap.size) : (W.alloc o).heap[k]? = some o := by subst h; exact World.alloc_heap_new W o

end Go.Proofs.YtlegmmhacnbnlaaGreatDoor

/- The laws' small, ev and one; the document's comparing of facts and keys. -/
namespace Go.Proofs.YtlegmmhacnbnlaaGreatDoor.Fc

open Go.RowKit Go.Shelf Go.Proofs.YtlegmmhacnbnlaaGreatDoor.Sx

set_option maxRecDepth 1000000

set_option linter.unusedVariables false

def okIt (x : It) : Bool := decide (x.name.length ≤ 200) && (decide (x.undo.length ≤ 200) && decide (x.after.length ≤ 100))

/-- Is a plan small? -/
def smallI (its : List It) : Bool := (its.take 70).all okIt && decide (its.length ≤ 70)

theorem small_no {its : List It} {i : Nat} {x : It} (hx : its[i]? = some x) (hi : i < 70) (h : okIt x = false) : smallI its = false := by
  unfold smallI
  have : (its.take 70).all okIt = false := by
    rw [List.all_eq_false]
    exact ⟨x, List.mem_of_getElem? (i := i) (by rw [List.getElem?_take, if_pos hi]; exact hx), by rw [h]; simp⟩
  rw [this]
  rfl

set_option maxRecDepth 1000000 in
set_option maxHeartbeats 1000000 in
theorem small_any (its : List It) (v : Value) (w : World) (hIt : RdIt w v its) (hmx : its.length ≤ maxLen) (hnm : ∀ x ∈ its, x.name.length ≤ maxLen ∧ x.undo.length ≤ maxLen ∧ x.after.length ≤ maxLen) :
    Calls Tryz.prog 4 #[.agg #[v]] w fun e w' => e = .returned (.bool (smallI its)) ∧ Below w.heap.size w w' := by
  obtain ⟨ia, icap, rfl, hic, hir⟩ := hIt
  have HIR : Hid _ := hir
  have HNM : Hid _ := hnm
  obtain ⟨il, HIL⟩ : ∃ il, Hid (its.length = il) := ⟨_, rfl⟩
  rw [HIL.out] at hic hmx ⊢
  unfold maxLen at hmx
  clear hir hnm
  have hb1 : Below w.heap.size w (w.alloc (.cells #[.slice ia il icap] 24)) := (Below.refl _ w).alloc (Nat.le_refl _) _
  have r1 := Dg.row_new w #[.slice ia il icap] 24
  have hg0 := (Dg.cell_row r1 0).trans rfl
  go_enter Tryz.func4, Tryz.ntmps4
  go_wp2_with fail
  generalize w.alloc (.cells #[.slice ia il icap] 24) = w0 at *
  have HB0 : Hid _ := hb1
  clear hb1 r1
  go_loopw [3] (fun iv wr => ∃ (i : Nat), i ≤ il ∧ i ≤ 70 ∧ iv = .int .i64 i ∧ Hid (∀ x ∈ its.take i, okIt x = true) ∧ Hid (Below w0.heap.size w0 wr)) (fun iv _ => il - (intOf iv).toNat)
  case atStart => exact ⟨0, Nat.zero_le _, by omega, rfl, by show ∀ x ∈ its.take 0, _; simp, Below.refl _ _⟩
  case round =>
    obtain ⟨i, hi, hi70, rfl, HF, HB⟩ := hrel
    rename World => w1
    have g0 := Dg.cell_later HB.out hg0
    by_cases hlt : i < il ∧ i < 70
    rotate_left
    · have HT : Hid (smallI its = decide (il ≤ 70)) := by
        show _ = _
        unfold smallI
        have : (its.take 70).all okIt = true := by
          rw [List.all_eq_true]
          intro x hx
          refine HF.out x ?_
          by_cases h7 : i = 70
          · rw [h7]; exact hx
          · have : i = il := by omega
            rw [List.take_of_length_le (by rw [HIL.out, this]; exact Nat.le_refl _)]
            exact List.mem_of_mem_take hx
        rw [this, HIL.out]
        rfl
      by_cases h7 : il ≤ 70
      · have hie : i = il := by omega
        subst hie
        have HT2 : Hid (smallI its = true) := HT.out.trans (decide_eq_true h7)
        go_wp2_with fail
        go_ret
        exact ⟨by rw [HT2.out]; show Ending.returned (.bool (decide ((i : Int) ≤ 70))) = _; rw [decide_eq_true (by omega)], HB0.out.trans (HB.out.mono HB0.out.size)⟩
      · have hie : i = 70 := by omega
        subst hie
        have hii : (70 : Int) < (il : Int) := by omega
        have HT2 : Hid (smallI its = false) := HT.out.trans (decide_eq_false h7)
        go_wp2_with fail
        go_ret
        exact ⟨by rw [HT2.out]; show Ending.returned (.bool (decide ((il : Int) ≤ 70))) = _; rw [decide_eq_false (by omega)], HB0.out.trans (HB.out.mono HB0.out.size)⟩
    obtain ⟨hlt, hlt7⟩ := hlt
    obtain ⟨y, hy⟩ : ∃ y, its[i]? = some y := ⟨_, List.getElem?_eq_getElem (by rw [HIL.out]; exact hlt)⟩
    obtain ⟨m0, m1, m2⟩ := HNM.out y (List.mem_of_getElem? hy)
    unfold maxLen at m0 m1 m2
    obtain ⟨b1, off1, yav, yam, yac, rfl, k0, k1, k2, k3, k4, k5, k6, k7, hz⟩ := HIR.out i y hy
    have hBT : Below w.heap.size w w1 := HB0.out.trans (HB.out.mono HB0.out.size)
    have j0 := Dg.cell_later hBT k0
    have j1 := Dg.cell_later hBT k1
    have j2 := Dg.cell_later hBT k2
    have j3 := Dg.cell_later hBT k3
    have j4 := Dg.cell_later hBT k4
    have j5 := Dg.cell_later hBT k5
    have j6 := Dg.cell_later hBT k6
    have j7 := Dg.cell_later hBT k7
    obtain ⟨za, zcap, hze, hzc, hzr⟩ := hz
    cases hze
    have hii : (i : Int) < (il : Int) := by omega
    have hi7 : (i : Int) < 70 := by omega
    have HTk : Hid (its.take (i + 1) = its.take i ++ [y]) := by show _ = _; rw [List.take_add_one, hy]; rfl
    have HNo : Hid (okIt y = false → smallI its = false) := fun h => small_no hy hlt7 h
    have s0 : (⟨y.name.toArray⟩ : ByteArray).size = y.name.length := by simp [ByteArray.size]
    have s1 : (⟨y.undo.toArray⟩ : ByteArray).size = y.undo.length := by simp [ByteArray.size]
    have HBT : Hid _ := hBT
    clear k0 k1 k2 k3 k4 k5 k6 k7 hzr hy hBT
    by_cases hok : okIt y = true
    · have HF2 : Hid (∀ x ∈ its.take (i + 1), okIt x = true) := by
        show ∀ x ∈ its.take (i + 1), _
        rw [HTk.out]
        intro x hx
        rcases List.mem_append.1 hx with h | h
        · exact HF.out x h
        · simp at h; subst h; exact hok
      simp only [okIt, Bool.and_eq_true, decide_eq_true_eq] at hok
      obtain ⟨o0, o1, o2⟩ := hok
      generalize (⟨y.name.toArray⟩ : ByteArray) = N at *
      generalize (⟨y.undo.toArray⟩ : ByteArray) = U at *
      generalize y.name.length = n0 at *
      generalize y.undo.length = n1 at *
      generalize y.after.length = n2 at *
      go_wp2_with fail
      go_roundw
      case rel => exact ⟨i + 1, by omega, by omega, by go_num, HF2, HB.out.alloc HB.out.size _⟩
      case measure => simp [intOf]; omega
    · have HX : Hid (smallI its = false) := HNo.out (by simpa using hok)
      have hk2 : ¬ (y.name.length ≤ 200 ∧ y.undo.length ≤ 200 ∧ y.after.length ≤ 100) := fun h => hok (by simp [okIt, h.1, h.2.1, h.2.2])
      clear hok HNo HTk
      generalize (⟨y.name.toArray⟩ : ByteArray) = N at *
      generalize (⟨y.undo.toArray⟩ : ByteArray) = U at *
      generalize y.name.length = n0 at *
      generalize y.undo.length = n1 at *
      generalize y.after.length = n2 at *
      by_cases o0 : n0 ≤ 200
      · by_cases o1 : n1 ≤ 200
        · have o2 : ¬ n2 ≤ 100 := fun h => hk2 ⟨o0, o1, h⟩
          clear hk2
          go_wp2_with fail
          go_ret
          exact ⟨by rw [HX.out]; rfl, HBT.out.alloc HBT.out.size _⟩
        · clear hk2
          go_wp2_with fail
          go_ret
          exact ⟨by rw [HX.out]; rfl, HBT.out.alloc HBT.out.size _⟩
      · clear hk2
        go_wp2_with fail
        go_ret
        exact ⟨by rw [HX.out]; rfl, HBT.out.alloc HBT.out.size _⟩

theorem small_fair {its : List It} (h : smallI its = true) : FairI its ∧ its.length ≤ 70 := by
  unfold smallI at h
  rw [Bool.and_eq_true, decide_eq_true_eq] at h
  obtain ⟨h1, h2⟩ := h
  rw [List.take_of_length_le h2, List.all_eq_true] at h1
  have h3 : ∀ x ∈ its, x.name.length ≤ 200 ∧ x.undo.length ≤ 200 ∧ x.after.length ≤ 100 := by
    intro x hx
    have := h1 x hx
    simp only [okIt, Bool.and_eq_true, decide_eq_true_eq] at this
    exact this
  exact ⟨⟨fun x hx => by have := h3 x hx; omega, fun x hx => by have := h3 x hx; omega⟩, h2⟩

theorem three (w : World) (o0 o1 o2 : Obj) :
    let W := ((w.alloc o0).alloc o1).alloc o2
    W.heap[w.heap.size]? = some o0 ∧ W.heap[w.heap.size + 1]? = some o1 ∧ W.heap[w.heap.size + 1 + 1]? = some o2 ∧ Below w.heap.size w W := by
  refine ⟨?_, ?_, ?_, ?_⟩
  · exact old1 (old1 (new1 w o0 _ rfl) _) _
  · exact old1 (new1 _ o1 _ (by simp)) _
  · exact new1 _ o2 _ (by simp)
  · exact (((Below.refl _ w).alloc (Nat.le_refl _) _).alloc (by simp) _).alloc (by simp; omega) _

end Go.Proofs.YtlegmmhacnbnlaaGreatDoor.Fc

