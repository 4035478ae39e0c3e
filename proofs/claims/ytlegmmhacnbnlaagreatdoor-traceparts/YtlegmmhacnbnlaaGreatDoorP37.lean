/- Texts of the seat, packed: Zq Zr Zs Zt. -/
import Derived.Test.YtlegmmhacnbnlaaGreatDoorP36
/- slices.EqualFunc of items, by the program's same. -/
namespace Go.Proofs.YtlegmmhacnbnlaaGreatDoor

open Go.RowKit Go.Shelf Go.Proofs.YtlegmmhacnbnlaaGreatDoor.Sx

set_option linter.unusedSimpArgs false

set_option maxRecDepth 1000000 in
set_option maxHeartbeats 2000000 in
theorem EqualFunc_any (l m : List It) (v u : Value) (w : World) (hl : RdIt w v l) (hm : RdIt w u m) (hn : l.length ≤ 100000) (hn' : m.length ≤ 100000) (hla : ∀ x ∈ l, x.after.length ≤ 1000000) (hma : ∀ x ∈ m, x.after.length ≤ 1000000) :
    Calls Tryz.prog 83 #[v, u, .func (.func 84) #[] #[]] w fun e w' => e = .returned (.bool (decide (l = m))) ∧ Below w.heap.size w w' := by
  obtain ⟨a, cap, rfl, hc, hr⟩ := hl
  obtain ⟨a', cap', rfl, hc', hr'⟩ := hm
  have HR : Hid _ := hr
  have HR' : Hid _ := hr'
  have HLA : Hid _ := hla
  have HMA : Hid _ := hma
  obtain ⟨n, HN⟩ : ∃ n, Hid (l.length = n) := ⟨_, rfl⟩
  obtain ⟨n', HN'⟩ : ∃ n, Hid (m.length = n) := ⟨_, rfl⟩
  rw [HN.out] at hn hc ⊢
  rw [HN'.out] at hn' hc' ⊢
  clear hr hr' hla hma
  by_cases hnn : n = n'
  · subst hnn
    go_enter Tryz.func83, Tryz.ntmps83
    go_wp2_with fail
    go_loopw [17] (fun iv wr => ∃ (k : Nat), k ≤ n ∧ iv = .int .i64 k ∧ Hid (l.take k = m.take k) ∧ Hid (Below w.heap.size w wr)) (fun iv _ => n - (intOf iv).toNat)
    case atStart => exact ⟨0, Nat.zero_le _, rfl, by show l.take 0 = m.take 0; simp, Below.refl _ _⟩
    case round =>
      obtain ⟨k, hk, rfl, HX, HB⟩ := hrel
      rename World => w1
      by_cases hlt : k < n
      · obtain ⟨x, hx⟩ : ∃ x, l[k]? = some x := ⟨_, List.getElem?_eq_getElem (by rw [HN.out]; exact hlt)⟩
        obtain ⟨y, hy⟩ : ∃ y, m[k]? = some y := ⟨_, List.getElem?_eq_getElem (by rw [HN'.out]; exact hlt)⟩
        obtain ⟨b, off, xv, xm, xc, rfl, c0, c1, c2, c3, c4, c5, c6, c7, hzx⟩ := HR.out k x hx
        obtain ⟨b', off', yv, ym, yc, rfl, e0, e1, e2, e3, e4, e5, e6, e7, hzy⟩ := HR'.out k y hy
        have hB1 : Below w.heap.size w (w1.alloc (.cells #[.string ⟨x.name.toArray⟩, .string ⟨x.undo.toArray⟩, .bool x.sub, .bool x.vital, .int .i64 x.alts, .int .i64 x.inn, .int .i64 x.alt, .slice xv xm xc] 34)) := HB.out.alloc HB.out.size _
        have hB2 : Below w.heap.size w ((w1.alloc (.cells #[.string ⟨x.name.toArray⟩, .string ⟨x.undo.toArray⟩, .bool x.sub, .bool x.vital, .int .i64 x.alts, .int .i64 x.inn, .int .i64 x.alt, .slice xv xm xc] 34)).alloc (.cells #[.string ⟨y.name.toArray⟩, .string ⟨y.undo.toArray⟩, .bool y.sub, .bool y.vital, .int .i64 y.alts, .int .i64 y.inn, .int .i64 y.alt, .slice yv ym yc] 34)) := hB1.alloc hB1.size _
        have j0 := Dg.cell_later HB.out c0
        have g0 := Dg.cell_later hB1 e0
        have j1 := Dg.cell_later HB.out c1
        have g1 := Dg.cell_later hB1 e1
        have j2 := Dg.cell_later HB.out c2
        have g2 := Dg.cell_later hB1 e2
        have j3 := Dg.cell_later HB.out c3
        have g3 := Dg.cell_later hB1 e3
        have j4 := Dg.cell_later HB.out c4
        have g4 := Dg.cell_later hB1 e4
        have j5 := Dg.cell_later HB.out c5
        have g5 := Dg.cell_later hB1 e5
        have j6 := Dg.cell_later HB.out c6
        have g6 := Dg.cell_later hB1 e6
        have j7 := Dg.cell_later HB.out c7
        have g7 := Dg.cell_later hB1 e7
        have HZX : Hid (RdZ ((w1.alloc (.cells #[.string ⟨x.name.toArray⟩, .string ⟨x.undo.toArray⟩, .bool x.sub, .bool x.vital, .int .i64 x.alts, .int .i64 x.inn, .int .i64 x.alt, .slice xv xm xc] 34)).alloc (.cells #[.string ⟨y.name.toArray⟩, .string ⟨y.undo.toArray⟩, .bool y.sub, .bool y.vital, .int .i64 y.alts, .int .i64 y.inn, .int .i64 y.alt, .slice yv ym yc] 34)) (.slice xv xm xc) x.after) := hzx.later hB2
        have HZY : Hid (RdZ ((w1.alloc (.cells #[.string ⟨x.name.toArray⟩, .string ⟨x.undo.toArray⟩, .bool x.sub, .bool x.vital, .int .i64 x.alts, .int .i64 x.inn, .int .i64 x.alt, .slice xv xm xc] 34)).alloc (.cells #[.string ⟨y.name.toArray⟩, .string ⟨y.undo.toArray⟩, .bool y.sub, .bool y.vital, .int .i64 y.alts, .int .i64 y.inn, .int .i64 y.alt, .slice yv ym yc] 34)) (.slice yv ym yc) y.after) := hzy.later hB2
        have HXl : Hid (x.after.length ≤ 1000000) := HLA.out x (List.mem_of_getElem? hx)
        have HYl : Hid (y.after.length ≤ 1000000) := HMA.out y (List.mem_of_getElem? hy)
        have HXn : Hid (x = y → l.take (k + 1) = m.take (k + 1)) := by show _ → _; intro h9; rw [List.take_add_one, List.take_add_one, hx, hy, HX.out, h9]
        have HNo : Hid (x ≠ y → decide (l = m) = false) := by
          show _ → _
          intro h9
          refine decide_eq_false fun e => h9 ?_
          rw [e, hy] at hx
          exact (Option.some.inj hx).symm
        have HB2 : Hid (Below w.heap.size w ((w1.alloc (.cells #[.string ⟨x.name.toArray⟩, .string ⟨x.undo.toArray⟩, .bool x.sub, .bool x.vital, .int .i64 x.alts, .int .i64 x.inn, .int .i64 x.alt, .slice xv xm xc] 34)).alloc (.cells #[.string ⟨y.name.toArray⟩, .string ⟨y.undo.toArray⟩, .bool y.sub, .bool y.vital, .int .i64 y.alts, .int .i64 y.inn, .int .i64 y.alt, .slice yv ym yc] 34))) := hB2
        have nA := Dg.row_alloc (Dg.row_new w1 #[.string ⟨x.name.toArray⟩, .string ⟨x.undo.toArray⟩, .bool x.sub, .bool x.vital, .int .i64 x.alts, .int .i64 x.inn, .int .i64 x.alt, .slice xv xm xc] 34) (.cells #[.string ⟨y.name.toArray⟩, .string ⟨y.undo.toArray⟩, .bool y.sub, .bool y.vital, .int .i64 y.alts, .int .i64 y.inn, .int .i64 y.alt, .slice yv ym yc] 34)
        have nB := Dg.row_new (w1.alloc (.cells #[.string ⟨x.name.toArray⟩, .string ⟨x.undo.toArray⟩, .bool x.sub, .bool x.vital, .int .i64 x.alts, .int .i64 x.inn, .int .i64 x.alt, .slice xv xm xc] 34)) #[.string ⟨y.name.toArray⟩, .string ⟨y.undo.toArray⟩, .bool y.sub, .bool y.vital, .int .i64 y.alts, .int .i64 y.inn, .int .i64 y.alt, .slice yv ym yc] 34
        rw [World.size_alloc] at nB
        have hki : (k : Int) < (n : Int) := by omega
        clear hx hy c0 c1 c2 c3 c4 c5 c6 c7 e0 e1 e2 e3 e4 e5 e6 e7 hzx hzy hB1 hB2
        have p0 := (Dg.cell_row nA 0).trans rfl
        have q0 := (Dg.cell_row nB 0).trans rfl
        have p1 := (Dg.cell_row nA 1).trans rfl
        have q1 := (Dg.cell_row nB 1).trans rfl
        have p2 := (Dg.cell_row nA 2).trans rfl
        have q2 := (Dg.cell_row nB 2).trans rfl
        have p3 := (Dg.cell_row nA 3).trans rfl
        have q3 := (Dg.cell_row nB 3).trans rfl
        have p4 := (Dg.cell_row nA 4).trans rfl
        have q4 := (Dg.cell_row nB 4).trans rfl
        have p5 := (Dg.cell_row nA 5).trans rfl
        have q5 := (Dg.cell_row nB 5).trans rfl
        have p6 := (Dg.cell_row nA 6).trans rfl
        have q6 := (Dg.cell_row nB 6).trans rfl
        have p7 := (Dg.cell_row nA 7).trans rfl
        have q7 := (Dg.cell_row nB 7).trans rfl
        have M : Hid _ := same_any x y xv yv xm xc ym yc ((w1.alloc (.cells #[.string ⟨x.name.toArray⟩, .string ⟨x.undo.toArray⟩, .bool x.sub, .bool x.vital, .int .i64 x.alts, .int .i64 x.inn, .int .i64 x.alt, .slice xv xm xc] 34)).alloc (.cells #[.string ⟨y.name.toArray⟩, .string ⟨y.undo.toArray⟩, .bool y.sub, .bool y.vital, .int .i64 y.alts, .int .i64 y.inn, .int .i64 y.alt, .slice yv ym yc] 34)) HZX.out HZY.out HXl.out HYl.out
        clear nA nB
        go_wp2_with fail
        refine Calls.mono M.out ?_
        rintro e w3 ⟨rfl, hb3⟩
        have HB3 : Hid (Below w.heap.size w w3) := HB2.out.trans (hb3.mono HB2.out.size)
        clear hb3 M HB2 HZX HZY j0 j1 j2 j3 j4 j5 j6 j7 g0 g1 g2 g3 g4 g5 g6 g7 p0 p1 p2 p3 p4 p5 p6 p7 q0 q1 q2 q3 q4 q5 q6 q7
        by_cases hxy : x = y
        · have HXn2 : Hid (l.take (k + 1) = m.take (k + 1)) := HXn.out hxy
          have hd : decide (x = y) = true := decide_eq_true hxy
          rw [hd]
          clear HXn HNo hxy hd
          go_wp2_with fail
          go_roundw
          case rel => exact ⟨k + 1, by omega, by go_num, HXn2, HB3⟩
          case measure => simp [intOf]; omega
        · have HNo2 : Hid (decide (l = m) = false) := HNo.out hxy
          have hd : decide (x = y) = false := decide_eq_false hxy
          rw [hd]
          clear HXn HNo hxy hd
          go_wp2_with fail
          go_ret
          exact ⟨by rw [HNo2.out]; rfl, HB3.out⟩
      · have hkn : k = n := by omega
        subst hkn
        have HYes : Hid (decide (l = m) = true) := by
          show _ = _
          have h9 := HX.out
          rw [List.take_of_length_le (by rw [HN.out]; exact Nat.le_refl _), List.take_of_length_le (by rw [HN'.out]; exact Nat.le_refl _)] at h9
          exact decide_eq_true h9
        go_wp2_with fail
        go_ret
        exact ⟨by rw [HYes.out]; rfl, HB.out⟩
  · have HNo : Hid (decide (l = m) = false) := by
      show _ = _
      refine decide_eq_false fun e => hnn ?_
      rw [← HN.out, ← HN'.out, e]
    have hb : ((n : Int) == (n' : Int)) = false := by simp; omega
    have hb' : ((n : Int) != (n' : Int)) = true := by simp; omega
    go_enter Tryz.func83, Tryz.ntmps83
    go_wp2_with fail
    go_ret
    exact ⟨by rw [HNo.out]; rfl, Below.refl _ _⟩

end Go.Proofs.YtlegmmhacnbnlaaGreatDoor

/- The view: has, and slices.Clone of whole numbers. -/
namespace Go.Proofs.YtlegmmhacnbnlaaGreatDoor

open Go.RowKit Go.Shelf Go.Proofs.YtlegmmhacnbnlaaGreatDoor.Sx

set_option linter.unusedSimpArgs false

/-- Whole numbers, as values. -/
def ivs (l : List Int) : List Value := l.map fun x => .int .i64 x

theorem RdZ.of_row {w : World} {base n : Nat} {v : Value} {l : List Int} (h : w.ownsRow base 3 1 v n (ivs l)) (hn : n = l.length) : RdZ w v l := by
  subst hn
  rcases h.2 with ⟨rfl, h0⟩ | ⟨g, cap, cur, rfl, hb, hg, hcap, _, hsz, ht⟩
  · have : l = [] := List.length_eq_zero_iff.1 h0
    subst this
    exact ⟨none, 0, rfl, Nat.le_refl _, fun i x hx => by simp at hx⟩
  · refine ⟨_, cap, rfl, hcap, fun i x hx => ⟨g, 0, rfl, ?_⟩⟩
    have hi : i < l.length := (List.getElem?_eq_some_iff.1 hx).1
    rw [Dg.cell_row hg (0 + i), Nat.zero_add, ← Array.getElem?_toList]
    have h1 : (cur.toList.take (l.length * 1))[i]? = (ivs l)[i]? := by rw [ht]
    rw [List.getElem?_take_of_lt (by omega)] at h1
    rw [h1]
    simp [ivs, hx]

set_option maxRecDepth 1000000 in
set_option maxHeartbeats 1000000 in
theorem has_any (b n cap : Nat) (a : Option Addr) (i : Int) (w : World) (hv : w.cell? ⟨b, 0, none⟩ = some (.slice a n cap)) :
    Calls Tryz.prog 49 #[.pointer (some ⟨b, 0, none⟩), .int .i64 i] w fun e w' => e = .returned (.bool (decide (0 ≤ i ∧ i < (n : Int)))) ∧ w' = w := by
  obtain ⟨G, HG⟩ : ∃ G, Hid (decide (0 ≤ i ∧ i < (n : Int)) = G) := ⟨_, rfl⟩
  rw [HG.out]
  by_cases h0 : 0 ≤ i
  · by_cases h1 : i < (n : Int)
    · have HQ : Hid (G = true) := by show _ = _; rw [← HG.out]; exact decide_eq_true ⟨h0, h1⟩
      clear HG
      go_enter Tryz.func49, Tryz.ntmps49
      go_wp2_with fail
      go_ret
      exact ⟨by rw [HQ.out]; rfl, rfl⟩
    · have HQ : Hid (G = false) := by show _ = _; rw [← HG.out]; exact decide_eq_false fun h => h1 h.2
      clear HG
      go_enter Tryz.func49, Tryz.ntmps49
      go_wp2_with fail
      go_ret
      exact ⟨by rw [HQ.out]; rfl, rfl⟩
  · have HQ : Hid (G = false) := by show _ = _; rw [← HG.out]; exact decide_eq_false fun h => h0 h.1
    clear HG
    go_enter Tryz.func49, Tryz.ntmps49
    go_wp2_with fail
    go_ret
    exact ⟨by rw [HQ.out]; rfl, rfl⟩

set_option maxRecDepth 1000000 in
set_option maxHeartbeats 1000000 in
theorem Clone_any (v : Value) (l : List Int) (w : World) (hl : RdZ w v l) (hn : l.length ≤ 1000000) :
    Calls Tryz.prog 50 #[v] w fun e w' => Below w.heap.size w w' ∧ ∃ u, e = .returned u ∧ RdZ w' u l := by
  obtain ⟨a, cap, rfl, hc, hr⟩ := hl
  obtain ⟨i0, hi0, hz0, hz1, hz2⟩ := info_parts Dg.Tryz.info3
  cases a with
  | none =>
    have hl0 : l = [] := by
      cases l with
      | nil => rfl
      | cons x l =>
        obtain ⟨b, off, h9, _⟩ := hr 0 x rfl
        cases h9
    subst hl0
    have HF : Hid (RdZ w (.slice none 0 0) []) := ⟨none, 0, rfl, Nat.le_refl _, fun i x hx => by simp at hx⟩
    clear hr
    have hE : ∀ w, (binOp .eql 32 (.slice none 0 cap) (.slice none 0 0)).run Tryz.prog w = .ok (.bool true) w := fun w => Lib.run_eql_slice_nil w 32 3 none 0 cap 0 0 Tryz.underlying32
    go_enter Tryz.func50, Tryz.ntmps50
    go_wp2_with fail
    go_ret
    exact ⟨Below.refl _ _, _, rfl, HF.out⟩
  | some ad =>
    have HNews : Hid (∀ j u, (ivs l)[j]? = some u → (w.alloc (.cells #[] 3)).cell? (ad.add j) = some u) := by
      show ∀ j u, _
      intro j u hu
      simp only [ivs, List.getElem?_map, Option.map_eq_some_iff] at hu
      obtain ⟨x, hx, rfl⟩ := hu
      obtain ⟨b, off, h9, h8⟩ := hr j x hx
      cases h9
      have h7 : (⟨b, off, none⟩ : Addr).add j = ⟨b, off + j, none⟩ := by unfold Addr.add; split <;> simp_all
      rw [h7]
      exact Dg.cell_later ((Below.refl _ _).alloc (Nat.le_refl _) _) h8
    have HOwn : Hid ((w.alloc (.cells #[] 3)).ownsRow w.heap.size 3 1 (.slice (some ⟨w.heap.size, 0, none⟩) 0 0) 0 []) :=
      ⟨rfl, .inr ⟨w.heap.size, 0, #[], rfl, Nat.le_refl _, Dg.row_new _ _ _, Nat.le_refl _, Nat.zero_le _, rfl, rfl⟩⟩
    obtain ⟨n, HN⟩ : ∃ n, Hid (l.length = n) := ⟨_, rfl⟩
    have HLn : Hid ((ivs l).length = n * 1) := by show _ = _; rw [ivs, List.length_map, HN.out, Nat.mul_one]
    have HOne : Hid (∀ u ∈ ivs l, u.oneCell' = true) := by
      show ∀ u ∈ ivs l, _
      intro u hu
      obtain ⟨x, _, rfl⟩ := List.mem_map.1 hu
      rfl
    rw [HN.out] at hn hc ⊢
    clear hr
    have hE : ∀ w, (binOp .eql 32 (.slice (some ad) n cap) (.slice none 0 0)).run Tryz.prog w = .ok (.bool false) w := fun w => Lib.run_eql_slice_nil w 32 3 (some ad) n cap 0 0 Tryz.underlying32
    go_enter Tryz.func50, Tryz.ntmps50
    go_wp2_with (at_builtin; refine wpList_append_own_at _ rfl _ _ 32 rfl w.heap.size 3 i0 _ 1 8 Tryz.underlying32 hi0 hz0 hz1 hz2 rfl (by decide) _ 0 [] rfl HOwn.out ad n cap (ivs l) rfl HLn.out HNews.out HOne.out (by unfold maxLen; omega) (by omega) (by simp) ?_; intro v7 w7 ho7 hg7 _ hat7)
    have HB7 : Hid (Below w.heap.size w w7) := Below.grown ((Below.refl _ _).alloc (Nat.le_refl _) _) hg7 (by simp) (fun k hk => (HOwn.out.lt _ hk).1)
    have HF : Hid (RdZ w7 v7 l) := RdZ.of_row ho7 (by rw [HN.out, Nat.zero_add])
    clear ho7 hg7 hat7
    go_wp2_with fail
    go_ret
    exact ⟨HB7.out, _, rfl, HF.out⟩

end Go.Proofs.YtlegmmhacnbnlaaGreatDoor

/- The view in memory; Over and Above. -/
namespace Go.Proofs.YtlegmmhacnbnlaaGreatDoor

open Go.RowKit Go.Shelf Go.Proofs.YtlegmmhacnbnlaaGreatDoor.Sx

set_option linter.unusedSimpArgs false

/-- A slice that holds the spots of items. -/
def RdSp (w : World) (v : Value) (its : List It) : Prop := ∃ a cap, v = .slice a its.length cap ∧ its.length ≤ cap ∧ ∀ (i : Nat) (x : It), its[i]? = some x → ∃ b off, a = some ⟨b, off, none⟩ ∧
  w.cell? ⟨b, off + i * 2, none⟩ = some (.int .i64 x.inn) ∧ w.cell? ⟨b, off + i * 2 + 1, none⟩ = some (.int .i64 x.alt)

/-- A view: of each item its spot, and the items that lean on it. -/
def VwAt (w : World) (b : Nat) (its : List It) (ov : List (List Nat)) : Prop := ∃ sv ovv, w.cell? ⟨b, 0, none⟩ = some sv ∧ w.cell? ⟨b, 1, none⟩ = some ovv ∧ RdSp w sv its ∧ Dg.RdL w ovv ov ∧ ov.length = its.length

theorem RdSp.later {w w' : World} {v : Value} {its : List It} (h : RdSp w v its) (hb : Below w.heap.size w w') : RdSp w' v its := by
  obtain ⟨a, cap, hv, hc, hr⟩ := h
  refine ⟨a, cap, hv, hc, fun i x hx => ?_⟩
  obtain ⟨b, off, ha, h0, h1⟩ := hr i x hx
  exact ⟨b, off, ha, Dg.cell_later hb h0, Dg.cell_later hb h1⟩

theorem VwAt.later {w w' : World} {b : Nat} {its : List It} {ov : List (List Nat)} (h : VwAt w b its ov) (hb : Below w.heap.size w w') : VwAt w' b its ov := by
  obtain ⟨sv, ovv, h0, h1, h2, h3, h4⟩ := h
  exact ⟨sv, ovv, Dg.cell_later hb h0, Dg.cell_later hb h1, h2.later hb, h3.later hb, h4⟩

theorem VwAt.has {w : World} {b : Nat} {its : List It} {ov : List (List Nat)} (h : VwAt w b its ov) (i : Int) :
    Calls Tryz.prog 49 #[.pointer (some ⟨b, 0, none⟩), .int .i64 i] w fun e w' => e = .returned (.bool (decide (0 ≤ i ∧ i < (its.length : Int)))) ∧ w' = w := by
  obtain ⟨sv, ovv, h0, h1, ⟨a, cap, rfl, hc, hr⟩, h3, h4⟩ := h
  exact has_any b its.length cap a i w h0

/-- What an item stands in, one after another. -/
inductive Ups (its : List It) : Nat → List Nat → Prop
  | nil : Ups its 0 []
  | cons {i j : Nat} {x : It} {l : List Nat} (hlt : j < i) (hx : its[i]? = some x) (hj : x.inn = (j : Int)) (h : Ups its j l) : Ups its i (j :: l)

theorem RdZ.of_rdI {w : World} {v : Value} {l : List Nat} (h : Dg.RdI w v l) : RdZ w v (l.map fun (x : Nat) => (x : Int)) := by
  obtain ⟨a, cap, rfl, hc, hr⟩ := h
  refine ⟨a, cap, by simp, by simpa using hc, fun i x hi => ?_⟩
  rw [List.getElem?_map, Option.map_eq_some_iff] at hi
  obtain ⟨y, hy, rfl⟩ := hi
  exact hr i y hy

set_option maxRecDepth 1000000 in
set_option maxHeartbeats 1000000 in
theorem Over_any (b i : Nat) (its : List It) (ov : List (List Nat)) (l : List Nat) (w : World) (h : VwAt w b its ov) (hi : ov[i]? = some l) (hn : l.length ≤ 1000000) :
    Calls Tryz.prog 35 #[.pointer (some ⟨b, 0, none⟩), .int .i64 i] w fun e w' => Below w.heap.size w w' ∧ ∃ u, e = .returned u ∧ RdZ w' u (l.map fun (x : Nat) => (x : Int)) := by
  have H1 : Hid _ := h.has (i : Int)
  obtain ⟨sv, ovv, h0, h1, _, ⟨a, cap, rfl, hc, hr⟩, h4⟩ := h
  have hil : i < ov.length := (List.getElem?_eq_some_iff.1 hi).1
  obtain ⟨c, off, u, rfl, hu, hz⟩ := hr i l hi
  have hd : decide (0 ≤ (i : Int) ∧ (i : Int) < (its.length : Int)) = true := decide_eq_true ⟨by omega, by omega⟩
  rw [hd] at H1
  have H2 : Hid _ := Clone_any u (l.map fun (x : Nat) => (x : Int)) w (RdZ.of_rdI hz) (by simpa using hn)
  obtain ⟨n, HN⟩ : ∃ n, Hid (ov.length = n) := ⟨_, rfl⟩
  rw [HN.out] at h1 hil hc
  clear hr hi hz hd h4
  go_enter Tryz.func35, Tryz.ntmps35
  go_wp2_with fail
  refine Calls.mono H1.out ?_
  rintro e w1 ⟨rfl, rfl⟩
  go_wp2_with fail
  refine Calls.mono H2.out ?_
  rintro e w2 ⟨hb, u2, rfl, hz2⟩
  have HB : Hid _ := hb
  have HZ : Hid _ := hz2
  clear hb hz2 H1 H2
  go_wp2_with fail
  go_ret
  exact ⟨HB.out, _, rfl, HZ.out⟩

theorem Ups.drop {its : List It} {i : Nat} {L : List Nat} (h : Ups its i L) : ∀ k c, (i :: L)[k]? = some c → Ups its c (L.drop k) := by
  induction h with
  | nil => intro k c hc; cases k with
    | zero => cases hc; exact Ups.nil
    | succ k => simp at hc
  | cons hi hx hj h ih =>
    intro k c hc
    cases k with
    | zero => cases hc; exact Ups.cons hi hx hj h
    | succ k => exact ih k c hc

set_option maxRecDepth 1000000 in
set_option maxHeartbeats 1000000 in
theorem Above_any (b i : Nat) (its : List It) (ov : List (List Nat)) (L : List Nat) (w : World) (h : VwAt w b its ov) (hi : i < its.length) (hU : Ups its i L) (hn : L.length ≤ 100000) :
    Calls Tryz.prog 39 #[.pointer (some ⟨b, 0, none⟩), .int .i64 i] w fun e w' => Below w.heap.size w w' ∧ ∃ u, e = .returned u ∧ RdZ w' u (L.map fun (x : Nat) => (x : Int)) := by
  have H1 : Hid _ := h.has (i : Int)
  obtain ⟨i0, hi0, hz0, hz1, hz2⟩ := info_parts Dg.Tryz.info3
  obtain ⟨sv, ovv, h0, h1, ⟨a, cap, rfl, hc, hr⟩, _, h4⟩ := h
  have hd : decide (0 ≤ (i : Int) ∧ (i : Int) < (its.length : Int)) = true := decide_eq_true ⟨by omega, by omega⟩
  rw [hd] at H1
  have HR : Hid _ := hr
  have HU : Hid (∀ k c, (i :: L)[k]? = some c → Ups its c (L.drop k)) := hU.drop
  obtain ⟨n, HN⟩ : ∃ n, Hid (its.length = n) := ⟨_, rfl⟩
  obtain ⟨m, HM⟩ : ∃ n, Hid (L.length = n) := ⟨_, rfl⟩
  rw [HN.out] at h0 hi hc
  rw [HM.out] at hn
  have HO0 : Hid (w.ownsRow w.heap.size 3 1 (.slice none 0 0) 0 (Dg.ivs (L.take 0))) := World.ownsRow_nil _ _ _ _
  clear hr hd h4 h1 hU
  go_enter Tryz.func39, Tryz.ntmps39
  go_wp2_with fail
  refine Calls.mono H1.out ?_
  rintro e w1 ⟨rfl, rfl⟩
  clear H1
  go_wp2_with fail
  go_loopw [1, 5] (fun iv lv wr => ∃ (k c : Nat), k ≤ m ∧ iv = .int .i64 c ∧ (i :: L)[k]? = some c ∧ Hid (wr.ownsRow w1.heap.size 3 1 lv k (Dg.ivs (L.take k))) ∧ Hid (Below w1.heap.size w1 wr)) (fun iv _ _ => (intOf iv).toNat)
  case atStart => exact ⟨0, i, Nat.zero_le _, rfl, rfl, HO0, Below.refl _ _⟩
  case round =>
    obtain ⟨k, c, hk, rfl, hkc, HO, HB⟩ := hrel
    have hu := HU.out k c hkc
    have hcur : ∃ D, L.drop k = D := ⟨_, rfl⟩
    obtain ⟨D, hD⟩ := hcur
    rw [hD] at hu
    cases hu with
    | nil =>
      have hkm : k = m := by
        have h9 := congrArg List.length hD
        rw [List.length_drop, HM.out] at h9
        simp at h9
        omega
      subst hkm
      have HF : Hid (RdZ wr u5 (L.map fun (x : Nat) => (x : Int))) := by
        have h9 := HO.out
        rw [List.take_of_length_le (by rw [HM.out]; exact Nat.le_refl _), ← HM.out] at h9
        exact RdZ.of_own h9
      clear hkc hD
      go_wp2_with fail
      go_ret
      exact ⟨HB.out, _, rfl, HF.out⟩
    | @cons _ j x l hlt hx hj h =>
      have hLk : L[k]? = some j := by
        have h9 : (L.drop k)[0]? = some j := by rw [hD]; rfl
        rw [List.getElem?_drop, Nat.add_zero] at h9
        exact h9
      have hkm : k < m := by rw [← HM.out]; exact (List.getElem?_eq_some_iff.1 hLk).1
      have HK1 : Hid ((i :: L)[k + 1]? = some j) := hLk
      have HT : Hid (Dg.ivs (L.take (k + 1)) = Dg.ivs (L.take k) ++ [.int .i64 (j : Int)]) := by
        show _ = _
        rw [List.take_add_one, hLk]
        simp [Dg.ivs]
      have hcl : c < n := by rw [← HN.out]; exact (List.getElem?_eq_some_iff.1 hx).1
      obtain ⟨b2, off, rfl, c0, c1⟩ := HR.out c x hx
      rw [hj] at c0
      have d0 := Dg.cell_later HB.out c0
      have d1 := Dg.cell_later HB.out h0
      have ho := HO.out
      have hz3 := HB.out.size
      have hci : (c : Int) < (n : Int) := by omega
      have hc0 : (0 : Int) < (c : Int) := by omega
      obtain ⟨A, HA⟩ : ∃ A, Hid (Dg.ivs (L.take k) = A) := ⟨_, rfl⟩
      rw [HA.out] at ho
      clear hkc hD h hx hj c0 c1 hLk
      go_wp2_with (at_builtin; refine wpList_append_own_at _ rfl _ _ 32 rfl w1.heap.size 3 i0 _ 1 8 Tryz.underlying32 hi0 hz0 hz1 hz2 rfl (by decide) _ k A rfl (ho.alloc _) ⟨wr.heap.size, 0, none⟩ 1 1 [.int .i64 (j : Int)] rfl rfl (Dg.new_cells wr [.int .i64 (j : Int)] 3) (by simp [Value.oneCell']) (by unfold maxLen; omega) (by omega) (by simp; omega) ?_; intro v7 w7 ho7 hg7 _ hat7; obtain ⟨g7, cap7, rfl⟩ := Dg.ownsRow_succ' ho7)
      have HB7 : Hid (Below w1.heap.size w1 w7) := Below.grown (HB.out.alloc hz3 _) hg7 (by simp; omega) (fun k hk => (ho.lt _ hk).1)
      have HO7 : Hid (w7.ownsRow w1.heap.size 3 1 (.slice (some ⟨g7, 0, none⟩) (k + 1) cap7) (k + 1) (Dg.ivs (L.take (k + 1)))) := by
        show World.ownsRow _ _ _ _ _ _ _
        rw [HT.out, HA.out]
        exact ho7
      clear ho hg7 hat7 ho7 HB HO
      go_wp2_with fail
      go_roundw
      case rel => exact ⟨k + 1, j, by omega, rfl, HK1.out, HO7, HB7⟩
      case measure => simp [intOf]; omega

end Go.Proofs.YtlegmmhacnbnlaaGreatDoor

/- What the program's planOf knows between two steps: the items' own row, the numbers of the names, the two boxes. -/
namespace Go.Proofs.YtlegmmhacnbnlaaGreatDoor

open Go.RowKit Go.Shelf Go.Proofs.YtlegmmhacnbnlaaGreatDoor.Sx

/-- One more name with its number. -/
def numPut (num : By → Option Nat) (x : Pd) : By → Option Nat := fun y => if y = x.lab.name then some x.num else num y

/-- The numbers of the names of such nodes. -/
def numF (xs : List Pd) : By → Option Nat := xs.foldl numPut fun _ => none

theorem numF_snoc (xs : List Pd) (x : Pd) : numF (xs ++ [x]) = numPut (numF xs) x := by
  simp [numF, List.foldl_append]

/-- May the node at j be numbered: has none ahead of it its name, and has it its undo? -/
def goodAt (xs : List Pd) (j : Nat) : Bool := match xs[j]? with
  | none => true
  | some x => (numF (xs.take j) x.lab.name).isNone && hasUndo x.lab

def goodN (xs : List Pd) : Bool := (List.range xs.length).all (goodAt xs)

theorem goodN_true {xs : List Pd} (h : ∀ j, j < xs.length → goodAt xs j = true) : goodN xs = true := by
  unfold goodN
  rw [List.all_eq_true]
  intro j hj
  exact h j (List.mem_range.1 hj)

theorem goodN_false {xs : List Pd} {j : Nat} (hj : j < xs.length) (h : goodAt xs j = false) : goodN xs = false := by
  unfold goodN
  rw [List.all_eq_false]
  exact ⟨j, List.mem_range.2 hj, by rw [h]; simp⟩

/-- The saga itself as an item. -/
def rootI (x : By) (am : Nat) : It := ⟨x, [], true, true, (am : Int), -1, 0, []⟩

/-- The items once k nodes are numbered. -/
def its1 (x : By) (am : Nat) (xs : List Pd) (k : Nat) : List It := rootI x am :: (xs.take k).map Pd.item

theorem its1_succ {x : By} {am : Nat} {xs : List Pd} {k : Nat} {y : Pd} (hy : xs[k]? = some y) : its1 x am xs (k + 1) = its1 x am xs k ++ [y.item] := by
  unfold its1
  rw [List.take_add_one, hy]
  simp

/-- The cells of items, with the values of their After. -/
def flatV : List It → List Value → List Value
  | x :: r, u :: s => [.string ⟨x.name.toArray⟩, .string ⟨x.undo.toArray⟩, .bool x.sub, .bool x.vital, .int .i64 x.alts, .int .i64 x.inn, .int .i64 x.alt, u] ++ flatV r s
  | _, _ => []

theorem flatV_append : ∀ (its : List It) (aft : List Value) (its' : List It) (aft' : List Value), aft.length = its.length → flatV (its ++ its') (aft ++ aft') = flatV its aft ++ flatV its' aft'
  | [], [], _, _, _ => by simp [flatV]
  | [], u :: s, _, _, h => by simp at h
  | x :: r, [], _, _, h => by simp at h
  | x :: r, u :: s, its', aft', h => by
    have := flatV_append r s its' aft' (by simpa using h)
    simp only [List.cons_append, flatV, this, List.append_assoc]

theorem flatV_at : ∀ (its : List It) (aft : List Value) (i : Nat) (x : It) (u : Value), its[i]? = some x → aft[i]? = some u →
    (flatV its aft).drop (i * 8) = [.string ⟨x.name.toArray⟩, .string ⟨x.undo.toArray⟩, .bool x.sub, .bool x.vital, .int .i64 x.alts, .int .i64 x.inn, .int .i64 x.alt, u] ++ flatV (its.drop (i + 1)) (aft.drop (i + 1))
  | [], _, i, x, u, h, _ => by simp at h
  | y :: r, [], i, x, u, _, h => by simp at h
  | y :: r, v :: s, 0, x, u, h, h' => by
    simp at h h'
    subst h h'
    simp [flatV]
  | y :: r, v :: s, i + 1, x, u, h, h' => by
    have := flatV_at r s i x u (by simpa using h) (by simpa using h')
    rw [show (i + 1) * 8 = 8 + i * 8 by omega, ← List.drop_drop]
    simpa [flatV] using this

/-- Two worlds agree on such blocks. -/
def Agree (G : Nat → Prop) (A B : World) : Prop := ∀ b, G b → B.heap[b]? = A.heap[b]?

theorem own_agree {G : Nat → Prop} {A B : World} (h : Agree G A B) {base e size n : Nat} {v : Value} {xs : List Value} (ho : A.ownsRow base e size v n xs) (hg : ∀ b, v.ownBlock = some b → G b) : B.ownsRow base e size v n xs := by
  refine ⟨ho.1, ?_⟩
  rcases ho.2 with h0 | ⟨g, cap, cur, rfl, hb, hh, h1⟩
  · exact .inl h0
  · exact .inr ⟨g, cap, cur, rfl, hb, (h g (hg g rfl)).trans hh, h1⟩

theorem num_agree {G : Nat → Prop} {A B : World} (h : Agree G A B) {mb n : Nat} {num : By → Option Nat} (hm : NumM A mb n num) (hg : G mb) : NumM B mb n num := by
  obtain ⟨D, h1, ⟨es, clock, h2, h3⟩, h4⟩ := hm
  exact ⟨D, h1, ⟨es, clock, (h mb hg).trans h2, h3⟩, h4⟩

/-- Whole numbers in blocks of G. -/
def RdG (G : Nat → Prop) (w : World) (v : Value) (l : List Int) : Prop := ∃ a cap, v = .slice a l.length cap ∧ l.length ≤ cap ∧ ∀ (i : Nat) (x : Int), l[i]? = some x → ∃ b off, G b ∧ a = some ⟨b, off, none⟩ ∧ w.cell? ⟨b, off + i, none⟩ = some (.int .i64 x)

theorem RdG.rd {G : Nat → Prop} {w : World} {v : Value} {l : List Int} (h : RdG G w v l) : RdZ w v l := by
  obtain ⟨a, cap, hv, hc, hr⟩ := h
  refine ⟨a, cap, hv, hc, fun i x hi => ?_⟩
  obtain ⟨b, off, _, h1, h2⟩ := hr i x hi
  exact ⟨b, off, h1, h2⟩

theorem RdG.agree {G G' : Nat → Prop} {A B : World} {v : Value} {l : List Int} (h : RdG G A v l) (ha : Agree G A B) (hg : ∀ b, G b → G' b) : RdG G' B v l := by
  obtain ⟨a, cap, hv, hc, hr⟩ := h
  refine ⟨a, cap, hv, hc, fun i x hi => ?_⟩
  obtain ⟨b, off, h0, h1, h2⟩ := hr i x hi
  exact ⟨b, off, hg b h0, h1, (World.cell?_of_block (a := ⟨b, off + i, none⟩) (ha b h0)).trans h2⟩

theorem RdG.nil (G : Nat → Prop) (w : World) : RdG G w (.slice none 0 0) [] := ⟨none, 0, rfl, Nat.le_refl _, fun i x hi => by simp at hi⟩

/-- What planOf holds: the saga's box, the box of the items with their row, the box of the numbers with their map; G are its blocks. -/
structure PSt (G : Nat → Prop) (base : Nat) (A : World) (bs bi bm mb n : Nat) (sc : Array Value) (iv : Value) (its : List It) (aft : List Value) (num : By → Option Nat) : Prop where
  hbs : A.heap[bs]? = some (.cells sc 94 (0, 0))
  hbi : A.heap[bi]? = some (.cells #[iv] 22 (0, 0))
  hbm : A.heap[bm]? = some (.cells #[.map (some mb)] 154 (0, 0))
  gs : G bs
  gi : G bi
  gm : G bm
  gb : G mb
  ne : bs ≠ bi ∧ bm ≠ bi ∧ mb ≠ bi ∧ mb ≠ bs ∧ mb ≠ bm
  own : A.ownsRow base 34 8 iv its.length (flatV its aft)
  gv : ∀ b, iv.ownBlock = some b → G b ∧ b ≠ bi ∧ b ≠ bs ∧ b ≠ bm ∧ b ≠ mb
  len : aft.length = its.length
  rd : ∀ (i : Nat) (x : It) (u : Value), its[i]? = some x → aft[i]? = some u → RdG G A u x.after
  nums : NumM A mb n num

theorem PSt.agree {G : Nat → Prop} {base : Nat} {A B : World} {bs bi bm mb n : Nat} {sc : Array Value} {iv : Value} {its : List It} {aft : List Value} {num : By → Option Nat} (h : PSt G base A bs bi bm mb n sc iv its aft num) (ha : Agree G A B) :
    PSt G base B bs bi bm mb n sc iv its aft num :=
  ⟨(ha _ h.gs).trans h.hbs, (ha _ h.gi).trans h.hbi, (ha _ h.gm).trans h.hbm, h.gs, h.gi, h.gm, h.gb, h.ne, own_agree ha h.own (fun b hb => (h.gv b hb).1), h.gv, h.len, fun i x u hx hu => (h.rd i x u hx hu).agree ha (fun _ => id), num_agree ha h.nums h.gb⟩

/-- The blocks of planOf and those of the iterator lie apart. -/
def Apart (base : Nat) (G T : Nat → Prop) (A : World) : Prop := ∀ b, G b → base ≤ b ∧ b < A.heap.size ∧ ¬ T b

theorem Apart.mv {base : Nat} {G T T' : Nat → Prop} {A B : World} (h : Apart base G T A) (m : Mv T A T' B) : Apart base G T' B := fun b hb =>
  ⟨(h b hb).1, Nat.lt_of_lt_of_le (h b hb).2.1 m.size, fun ht => (h b hb).2.2 ((m.old b (h b hb).2.1).1 ht)⟩

theorem Apart.agree {base : Nat} {G T T' : Nat → Prop} {A B : World} (h : Apart base G T A) (m : Mv T A T' B) : Agree G A B := fun b hb => m.same b (h b hb).2.1 (h b hb).2.2

theorem PSt.mv {G T T' : Nat → Prop} {base : Nat} {A B : World} {bs bi bm mb n : Nat} {sc : Array Value} {iv : Value} {its : List It} {aft : List Value} {num : By → Option Nat} (h : PSt G base A bs bi bm mb n sc iv its aft num) {b0 : Nat} (ha : Apart b0 G T A) (m : Mv T A T' B) :
    PSt G base B bs bi bm mb n sc iv its aft num := h.agree (ha.agree m)

/-- What planOf holds of the items, as a slice that can be read. -/
theorem PSt.items {G : Nat → Prop} {base : Nat} {A : World} {bs bi bm mb n : Nat} {sc : Array Value} {iv : Value} {its : List It} {aft : List Value} {num : By → Option Nat} (h : PSt G base A bs bi bm mb n sc iv its aft num) : RdIt A iv its := by
  have hl := h.len
  have hrd := h.rd
  rcases h.own.2 with ⟨rfl, h0⟩ | ⟨g, cap, cur, rfl, hb, hg, hcap, _, hsz, ht⟩
  · have : its = [] := List.length_eq_zero_iff.1 h0
    subst this
    exact ⟨none, 0, rfl, Nat.le_refl _, fun i x hx => by simp at hx⟩
  · refine ⟨_, cap, rfl, hcap, fun i x hx => ?_⟩
    have hi : i < its.length := (List.getElem?_eq_some_iff.1 hx).1
    obtain ⟨u, hu⟩ : ∃ u, aft[i]? = some u := ⟨_, List.getElem?_eq_getElem (by omega)⟩
    have hz := hrd i x u hx hu
    have hat : ∀ j v, j < 8 → ([.string ⟨x.name.toArray⟩, .string ⟨x.undo.toArray⟩, .bool x.sub, .bool x.vital, .int .i64 x.alts, .int .i64 x.inn, .int .i64 x.alt, u] : List Value)[j]? = some v → A.cell? ⟨g, 0 + i * 8 + j, none⟩ = some v := by
      intro j v hj hv
      rw [Dg.cell_row hg, ← Array.getElem?_toList]
      have h1 : (cur.toList.take (its.length * 8))[0 + i * 8 + j]? = (flatV its aft)[0 + i * 8 + j]? := by rw [ht]
      rw [List.getElem?_take_of_lt (by omega)] at h1
      rw [h1]
      have h2 : ((flatV its aft).drop (i * 8))[j]? = some v := by
        rw [flatV_at its aft i x u hx hu, List.getElem?_append_left (by simpa using hj)]
        exact hv
      rw [List.getElem?_drop] at h2
      rw [← h2]
      congr 1
      omega
    obtain ⟨av, am, ac, hue⟩ : ∃ av am ac, u = .slice av am ac := by
      obtain ⟨a, c, hv, _⟩ := hz
      exact ⟨_, _, _, hv⟩
    subst hue
    exact ⟨g, 0, av, am, ac, rfl, hat 0 _ (by omega) rfl, hat 1 _ (by omega) rfl, hat 2 _ (by omega) rfl, hat 3 _ (by omega) rfl, hat 4 _ (by omega) rfl, hat 5 _ (by omega) rfl, hat 6 _ (by omega) rfl, hat 7 _ (by omega) rfl, hz.rd⟩

end Go.Proofs.YtlegmmhacnbnlaaGreatDoor

