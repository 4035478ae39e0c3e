/- The walk over List. -/
import Derived.Test.YtfhmmiilenonkaaRi
namespace Go.Proofs.Ytfhmmiilenonkaa

open Go.RowKit

set_option maxRecDepth 1000000

set_option linter.unusedVariables false

/-- What is known of a list that is told: its row, its stamps, all of the call's own, apart. -/
structure LiW (N : Nat) (w : World) (lv : Value) (A : List JbP) : Prop where
  row : OwR w lv A
  lo : ∀ g, lv.ownBlock = some g → N ≤ g
  st : ∀ x ∈ A, OwI N w x.2 x.1.s ∧ ∀ g, x.2.ownBlock = some g → lv.ownBlock ≠ some g

theorem LiW.later {N : Nat} {w w' : World} {lv : Value} {A : List JbP} (h : LiW N w lv A) (hb : Below w.heap.size w w') : LiW N w' lv A := ⟨h.row.later hb, h.lo, fun x hx => ⟨(h.st x hx).1.later hb, (h.st x hx).2⟩⟩

theorem LiW.kept {N : Nat} {T : Nat → Prop} {w w' : World} {lv : Value} {A : List JbP} (h : LiW N w lv A) (hk : Kp T w w') (hT : ∀ b, N ≤ b → ¬ T b) : LiW N w' lv A :=
  ⟨h.row.kept hk (fun g hg => hT g (h.lo g hg)), h.lo, fun x hx => ⟨owns_kept hk (h.st x hx).1 (fun g hg => hT g (World.ownsRow.lt (h.st x hx).1 g hg).1), (h.st x hx).2⟩⟩

/-- One job more. -/
theorem LiW.push {N : Nat} {wr w2 w3 : World} {bl : Nat} {lv sv : Value} {A : List JbP} {e : Jb} {a : Option Addr} {c : Nat} (h : LiW N wr lv A) (hN : N ≤ wr.heap.size) (hbl : bl < N) (hb : Below wr.heap.size wr w2) (hs : OwI wr.heap.size w2 sv e.s)
    (ho : OwR w3 (.slice a (A.length + 1) c) (A ++ [(e, sv)])) (hg : (w2.alloc (.cells (jrow (e, sv)).toArray 37)).grownBy w3 lv.ownBlock) (hat : (Value.slice a (A.length + 1) c).ownBlock = lv.ownBlock ∨ (Value.slice a (A.length + 1) c).ownBlock = some (w2.alloc (.cells (jrow (e, sv)).toArray 37)).heap.size) :
    LiW N (w3.setCell ⟨bl, 0, none⟩ (.slice a (A.length + 1) c)) (.slice a (A.length + 1) c) (A ++ [(e, sv)]) ∧ Kp (fun k => k = bl ∨ lv.ownBlock = some k) wr (w3.setCell ⟨bl, 0, none⟩ (.slice a (A.length + 1) c)) := by
  have hb3 : Below wr.heap.size wr (w2.alloc (.cells (jrow (e, sv)).toArray 37)) := hb.alloc hb.size _
  have hsz := hb.size
  have k3 : Kp (fun k => lv.ownBlock = some k) (w2.alloc (.cells (jrow (e, sv)).toArray 37)) w3 := Kp.of_grown _ hg (fun k hk => hk)
  have k4 : Kp (fun k => k = bl) w3 (w3.setCell ⟨bl, 0, none⟩ (.slice a (A.length + 1) c)) := (Kp.refl _ _).set _ _ rfl
  have hap : ∀ g, (Value.slice a (A.length + 1) c).ownBlock = some g → lv.ownBlock = some g ∨ w2.heap.size < g := fun g hg9 => by
    rcases hat with hat | hat
    · exact .inl (hat ▸ hg9)
    · rw [hat] at hg9
      simp at hg9
      exact .inr (by omega)
  refine ⟨⟨ho.kept k4 (fun g hg9 e9 => ?_), fun g hg9 => ?_, fun x hx => ?_⟩, ((Kp.of_below _ hb3).trans k3 (fun k hk _ => .inr hk)).trans k4 (fun k hk _ => .inl hk)⟩
  · rcases hap g hg9 with h9 | h9
    · have := h.lo g h9; omega
    · omega
  · rcases hap g hg9 with h9 | h9
    · exact h.lo g h9
    · omega
  · rcases List.mem_append.1 hx with hx | hx
    · obtain ⟨h1, h2⟩ := h.st x hx
      refine ⟨owns_kept k4 (owns_kept k3 (h1.later hb3) (fun g hg9 => h2 g hg9)) (fun g hg9 e9 => by have := (World.ownsRow.lt h1 g hg9).1; omega), fun g hg9 h9 => ?_⟩
      rcases hap g h9 with h8 | h8
      · exact h2 g hg9 h8
      · have := (World.ownsRow.lt h1 g hg9).2; omega
    · simp at hx
      subst hx
      have hlt : ∀ g, sv.ownBlock = some g → wr.heap.size ≤ g ∧ g < w2.heap.size := World.ownsRow.lt hs
      have hll : ∀ g, lv.ownBlock = some g → g < wr.heap.size := h.row.lt
      refine ⟨World.ownsRow.mono_base (owns_kept k4 (owns_kept k3 (hs.later (bl1 w2 _)) (fun g hg9 h9 => ?_)) (fun g hg9 e9 => ?_)) hN, fun g hg9 h9 => ?_⟩
      · have := hll g h9; have := hlt g hg9; omega
      · have := hlt g hg9; omega
      · have h1 := hlt g hg9
        rcases hap g h9 with h8 | h8
        · have := hll g h8; omega
        · omega

theorem region_thenGQ {P : Program} {id : Nat} {ops : Array Oper} {dr : Bool} {Q : Exit → Act → World → Prop} {a : Act} {w : World} {β : Type} (L : β → List (Nat × Value)) (F : β → World → Prop)
    (h : (Code.region id ops dr).wp P (fun e a' w' => e = .normal ∧ ∃ z, a' = { tmps := setAll a.tmps (L z), defers := a.defers } ∧ F z w') a w)
    (h2 : ∀ z w', F z w' → Q .normal { tmps := setAll a.tmps (L z), defers := a.defers } w') : (Code.region id ops dr).wp P Q a w := by
  refine wp_mono h ?_
  rintro e a' w' ⟨rfl, z, rfl, hF⟩
  exact h2 z w' hF

set_option maxHeartbeats 8000000 in
theorem list1_any (T : Nat → Prop) (w w0 : World) (p bd bl : Nat) (v : Value) (M : List JbP) (h : DV T w p v M) (hb : Below w.heap.size w w0) (hbd : w0.heap[bd]? = some (.cells #[.pointer (some ⟨p, 0, none⟩)] 53 (0, 0))) (hbl : w0.heap[bl]? = some (.cells #[.slice none 0 0] 61 (0, 0)))
    (hld : w.heap.size ≤ bd) (hll : w.heap.size ≤ bl) (hne : bd ≠ bl) (hM : M.length ≤ 1000000) (hfs : FewS M) :
    Calls Try.prog 59 #[.pointer (some ⟨bd, 0, none⟩), .pointer (some ⟨bl, 0, none⟩)] w0 fun x w' => ∃ q : Int, x = .returned (.int .i64 q) ∧ ∃ lv A, w'.heap[bl]? = some (.cells #[lv] 61 (0, 0)) ∧ LiW w0.heap.size w' lv A ∧ A.map Prod.fst = M.map Prod.fst ∧ Below w.heap.size w w' := by
  have hpl := h.live p h.own
  have hsz := hb.size
  have hbll := row_lt hbl
  have hbdl := row_lt hbd
  have cd : w0.cell? ⟨bd, 0, none⟩ = some (.pointer (some ⟨p, 0, none⟩)) := (cell_row hbd 0).trans rfl
  have c10 : w0.cell? ⟨p, 1, none⟩ = some v := (cell_row (row_later h.blk hb) 1).trans rfl
  obtain ⟨ra, rc, rfl, hrc1, hrc2⟩ := h.row.slice
  obtain ⟨n, HN⟩ : ∃ n, Hid (M.length = n) := ⟨_, rfl⟩
  have HR : Hid (OwR w0 (.slice ra n rc) M) := by have h9 := h.row.later hb; rw [HN.out] at h9; exact h9
  have HST : Hid (∀ x ∈ M, RI w0 x.2 x.1.s) := fun x hx => ((h.st x hx).later hb).1
  have HFS : Hid _ := hfs
  have HB : Hid _ := hb
  have HBL : Hid _ := hbl
  rw [HN.out] at c10 hM hrc1
  have HSZ : Hid (w.heap.size ≤ w0.heap.size) := hsz
  have HNG : Hid (∀ g, (Value.slice ra n rc).ownBlock = some g → ¬ g = bl) := fun g hg e => by have := h.live g (h.mine g (by rw [HN.out]; exact hg)).1; omega
  have HNS : Hid (∀ x ∈ M, 0 < x.1.s.length → ∀ a n c, x.2 = .slice (some a) n c → ¬ a.block = bl) := fun x hx h0 a n c he e => by have := h.live _ ((h.st x hx).2 h0 a n c he).1; omega
  have HL0 : Hid (bl < w0.heap.size ∧ w.heap.size ≤ bl) := ⟨hbll, hll⟩
  clear h hb hbd hbl hfs hpl hsz hbll hbdl hld hll hne
  go_enter Try.func59, Try.ntmps59
  go_wp2_with fail
  clear cd c10
  go_loopw [10, 4] (fun s10 s4 wr => ∃ (j : Nat) (lv : Value) (A : List JbP), s10 = .int .i64 j ∧ j ≤ n ∧ Hid (Kp (fun k => k = bl) w0 wr) ∧ Hid (wr.heap[bl]? = some (.cells #[lv] 61 (0, 0))) ∧ Hid (LiW w0.heap.size wr lv A) ∧ Hid (A.map Prod.fst = (M.take j).map Prod.fst)) (fun s10 _ _ => n - (intOf s10).toNat)
  case atStart => exact ⟨0, .slice none 0 0, [], rfl, Nat.zero_le _, Kp.refl _ _, HBL.out, ⟨.inl ⟨rfl, rfl⟩, fun g hg => (by cases hg), fun x hx => (by cases hx)⟩, by show _ = (M.take 0).map _; simp⟩
  case round =>
    obtain ⟨j, lv, A, rfl, hj, HK, HBX, HLI, HA0⟩ := hrel
    rename World => wr
    by_cases hlt : j < n
    · obtain ⟨y, hy⟩ : ∃ y, M[j]? = some y := ⟨_, List.getElem?_eq_getElem (by rw [HN.out]; exact hlt)⟩
      obtain ⟨g, o, cap, he⟩ := HR.out.at' hy
      have he1 := (Value.slice.inj he).1
      clear he
      subst he1
      have hs : RI wr y.2 y.1.s := (HST.out y (List.mem_of_getElem? hy)).kept HK.out (HNS.out y (List.mem_of_getElem? hy))
      have hes := HFS.out y (List.mem_of_getElem? hy)
      obtain ⟨d0, d1, d2, d3, d4, d5⟩ := (HR.out.jc hy).kept HK.out (HNG.out g rfl)
      obtain ⟨la, lc, hlv, hlc1, hlc2⟩ := HLI.out.row.slice
      obtain ⟨sa, sc, hsv, _⟩ := id hs
      obtain ⟨⟨ei, eu, et, eb, ek, es⟩, ev⟩ := y
      dsimp only at *
      subst hlv hsv
      have hji : (j : Int) < (n : Int) := by omega
      obtain ⟨ln, hln⟩ : ∃ n, A.length = n := ⟨_, rfl⟩
      obtain ⟨sl, hsl⟩ : ∃ n, es.length = n := ⟨_, rfl⟩
      have hAl : ln = j := by
        have := congrArg List.length HA0.out
        rw [List.length_map, List.length_map, List.length_take, HN.out, hln] at this
        omega
      have HLI2 : Hid (LiW w0.heap.size wr (.slice la ln lc) A) := by have h9 := HLI.out; rw [hln] at h9; exact h9
      have HBX2 : Hid (wr.heap[bl]? = some (.cells #[.slice la ln lc] 61 (0, 0))) := by have h9 := HBX.out; rw [hln] at h9; exact h9
      have HS9 : Hid (RI wr (.slice sa es.length sc) es) := hs
      have HA1 : Hid (A.map Prod.fst ++ [⟨ei, eu, et, eb, ek, es⟩] = (M.take (j + 1)).map Prod.fst) := by
        show _ = _
        rw [List.take_add_one, hy, List.map_append, HA0.out]
        rfl
      rw [hsl] at d5
      clear HLI HBX hs hy hln HA0 hlc1
      have hbs := HK.out.size
      go_wp2_with fail
      have hb1 : Below wr.heap.size wr (wr.alloc (.cells #[.int .i64 ei, .bool eu, .int .i64 et, .bool eb, .int .i64 ek, .slice sa sl sc] 37)) := bl1 _ _
      have hrow := row_new wr #[.int .i64 ei, .bool eu, .int .i64 et, .bool eb, .int .i64 ek, .slice sa sl sc] 37
      have hws : (wr.alloc (.cells #[.int .i64 ei, .bool eu, .int .i64 et, .bool eb, .int .i64 ek, .slice sa sl sc] 37)).heap.size = wr.heap.size + 1 := by simp
      generalize wr.alloc (.cells #[.int .i64 ei, .bool eu, .int .i64 et, .bool eb, .int .i64 ek, .slice sa sl sc] 37) = w1 at *
      have hlvb : ∀ g, (Value.slice la ln lc).ownBlock = some g → g < wr.heap.size ∧ w0.heap.size ≤ g := fun g hg => ⟨HLI2.out.row.lt g hg, HLI2.out.lo g hg⟩
      have hbx1 := row_later HBX2.out hb1
      have c1 : w1.cell? ⟨bl, 0, none⟩ = some (.slice la ln lc) := (cell_row hbx1 0).trans rfl
      have hbljb : ¬ wr.heap.size = bl := by have := HL0.out.1; omega
      have HS : Hid (∀ W, Below w1.heap.size w1 W → W.cell? ⟨wr.heap.size, 0, none⟩ = some (.int .i64 ei) ∧ W.cell? ⟨wr.heap.size, 1, none⟩ = some (.bool eu) ∧ W.cell? ⟨wr.heap.size, 2, none⟩ = some (.int .i64 et) ∧ W.cell? ⟨wr.heap.size, 3, none⟩ = some (.bool eb) ∧ W.cell? ⟨wr.heap.size, 4, none⟩ = some (.int .i64 ek) ∧ W.cell? ⟨wr.heap.size, 5, none⟩ = some (.slice sa sl sc)) := fun W hW => ⟨cell_later hW ((cell_row hrow 0).trans rfl), cell_later hW ((cell_row hrow 1).trans rfl), cell_later hW ((cell_row hrow 2).trans rfl), cell_later hW ((cell_row hrow 3).trans rfl), cell_later hW ((cell_row hrow 4).trans rfl), cell_later hW ((cell_row hrow 5).trans rfl)⟩
      have HA : Hid (∀ wx, Below w1.heap.size w1 wx → Calls Try.prog 58 #[.agg #[.int .i64 ei, .bool eu, .int .i64 et, .bool eb, .int .i64 ek, .slice sa sl sc]] wx fun x w' => ∃ v', x = .returned (.agg #[.int .i64 ei, .bool eu, .int .i64 et, .bool eb, .int .i64 ek, v']) ∧ OwI wr.heap.size w' v' es ∧ Below w1.heap.size w1 w') := fun wx hbx => by
        have hb9 := hb1.trans (hbx.mono hb1.size)
        have h9 := HS9.out.later hb9
        rw [hsl] at h9
        refine Calls.mono (apart_any ⟨ei, eu, et, eb, ek, es⟩ (.slice sa sl sc) wx h9 hes) ?_
        rintro x w' ⟨v', q1, q2, q3⟩
        exact ⟨v', q1, World.ownsRow.mono_base q2 hb9.size, hbx.trans (q3.mono hbx.size)⟩
      have HAP : Hid (∀ va vc w2, Below w1.heap.size w1 w2 → OwI wr.heap.size w2 (.slice va es.length vc) es → ∃ na nc w3, (Builtin.append_ #[61, 61] 61 #[.slice la ln lc, .slice (some ⟨w2.heap.size, 0, none⟩) 1 1]).run Try.prog (w2.alloc (.cells #[.int .i64 ei, .bool eu, .int .i64 et, .bool eb, .int .i64 ek, .slice va es.length vc] 37)) = .ok (.slice na (ln + 1) nc) w3 ∧ OwR w3 (.slice na (ln + 1) nc) (A ++ [(⟨ei, eu, et, eb, ek, es⟩, .slice va es.length vc)]) ∧ (w2.alloc (.cells #[.int .i64 ei, .bool eu, .int .i64 et, .bool eb, .int .i64 ek, .slice va es.length vc] 37)).grownBy w3 (Value.slice la ln lc).ownBlock ∧ ((Value.slice na (ln + 1) nc).ownBlock = (Value.slice la ln lc).ownBlock ∨ (Value.slice na (ln + 1) nc).ownBlock = some (w2.alloc (.cells #[.int .i64 ei, .bool eu, .int .i64 et, .bool eb, .int .i64 ek, .slice va es.length vc] 37)).heap.size)) := fun va vc w2 hb2 _ => by
        have hb2' := hb1.trans (hb2.mono hb1.size)
        have hAl2 : A.length = ln := by
          have := HLI2.out.row.slice
          obtain ⟨_, _, e9, _⟩ := this
          exact (Value.slice.inj e9).2.1.symm
        have := run_append_j 61 61 Try.underlying61 ((HLI2.out.row.later hb2').later (bl1 w2 (.cells #[.int .i64 ei, .bool eu, .int .i64 et, .bool eb, .int .i64 ek, .slice va es.length vc] 37))) (⟨ei, eu, et, eb, ek, es⟩, .slice va es.length vc) rfl (nb := w2.heap.size) (row_new w2 _ 37) (fun e9 => by have := (HLI2.out.row.later hb2').lt _ e9; omega) (by omega)
        rw [hAl2] at this
        exact this
      have HT : Hid (∀ {w2 w3 : World} {o : Obj}, (w2.alloc o).grownBy w3 (Value.slice la ln lc).ownBlock → Below w1.heap.size w1 (w2.alloc o) → (w3.cell? ⟨wr.heap.size, 0, none⟩ = some (.int .i64 ei) ∧ w3.cell? ⟨wr.heap.size, 1, none⟩ = some (.bool eu) ∧ w3.cell? ⟨wr.heap.size, 2, none⟩ = some (.int .i64 et) ∧ w3.cell? ⟨wr.heap.size, 3, none⟩ = some (.bool eb) ∧ w3.cell? ⟨wr.heap.size, 4, none⟩ = some (.int .i64 ek) ∧ w3.cell? ⟨wr.heap.size, 5, none⟩ = some (.slice sa sl sc)) ∧ w3.cell? ⟨bl, 0, none⟩ = some (.slice la ln lc) ∧ w3.frozen? ⟨bl, 0, none⟩ = false) := by
        show ∀ {w2 w3 : World} {o : Obj}, _
        intro w2 w3 o hg hb3
        have hS := HS.out _ hb3
        have n1 : some wr.heap.size ≠ (Value.slice la ln lc).ownBlock := fun e9 => by have := (hlvb _ e9.symm).1; omega
        have n2 : some bl ≠ (Value.slice la ln lc).ownBlock := fun e9 => by have := (hlvb bl e9.symm).2; have := HL0.out.1; omega
        have hr := row_later hbx1 hb3
        have hr3 : w3.heap[bl]? = some (.cells #[.slice la ln lc] 61 (0, 0)) := (hg.block bl (row_lt hr) n2).trans hr
        exact ⟨⟨hg.cell hS.1 n1, hg.cell hS.2.1 n1, hg.cell hS.2.2.1 n1, hg.cell hS.2.2.2.1 n1, hg.cell hS.2.2.2.2.1 n1, hg.cell hS.2.2.2.2.2 n1⟩, (cell_row hr3 0).trans rfl, froz_row hr3 0⟩
      have HS2 : Hid (∀ {W : World} {u : Value}, (W.cell? ⟨wr.heap.size, 0, none⟩ = some (.int .i64 ei) ∧ W.cell? ⟨wr.heap.size, 1, none⟩ = some (.bool eu) ∧ W.cell? ⟨wr.heap.size, 2, none⟩ = some (.int .i64 et) ∧ W.cell? ⟨wr.heap.size, 3, none⟩ = some (.bool eb) ∧ W.cell? ⟨wr.heap.size, 4, none⟩ = some (.int .i64 ek) ∧ W.cell? ⟨wr.heap.size, 5, none⟩ = some (.slice sa sl sc)) → ((W.setCell ⟨bl, 0, none⟩ u).cell? ⟨wr.heap.size, 0, none⟩ = some (.int .i64 ei) ∧ (W.setCell ⟨bl, 0, none⟩ u).cell? ⟨wr.heap.size, 1, none⟩ = some (.bool eu) ∧ (W.setCell ⟨bl, 0, none⟩ u).cell? ⟨wr.heap.size, 2, none⟩ = some (.int .i64 et) ∧ (W.setCell ⟨bl, 0, none⟩ u).cell? ⟨wr.heap.size, 3, none⟩ = some (.bool eb) ∧ (W.setCell ⟨bl, 0, none⟩ u).cell? ⟨wr.heap.size, 4, none⟩ = some (.int .i64 ek) ∧ (W.setCell ⟨bl, 0, none⟩ u).cell? ⟨wr.heap.size, 5, none⟩ = some (.slice sa sl sc))) := by
        show ∀ {W : World} {u : Value}, _
        intro W u hS
        have k : Kp (fun k => k = bl) W (W.setCell ⟨bl, 0, none⟩ u) := (Kp.refl _ _).set _ _ rfl
        exact ⟨k.cell hS.1 hbljb, k.cell hS.2.1 hbljb, k.cell hS.2.2.1 hbljb, k.cell hS.2.2.2.1 hbljb, k.cell hS.2.2.2.2.1 hbljb, k.cell hS.2.2.2.2.2 hbljb⟩
      have HE : Hid (∀ {va vc w2 na nc w3}, Below w1.heap.size w1 w2 → OwI wr.heap.size w2 (.slice va es.length vc) es → OwR w3 (.slice na (ln + 1) nc) (A ++ [(⟨ei, eu, et, eb, ek, es⟩, .slice va es.length vc)]) → (w2.alloc (.cells #[.int .i64 ei, .bool eu, .int .i64 et, .bool eb, .int .i64 ek, .slice va es.length vc] 37)).grownBy w3 (Value.slice la ln lc).ownBlock → ((Value.slice na (ln + 1) nc).ownBlock = (Value.slice la ln lc).ownBlock ∨ (Value.slice na (ln + 1) nc).ownBlock = some (w2.alloc (.cells #[.int .i64 ei, .bool eu, .int .i64 et, .bool eb, .int .i64 ek, .slice va es.length vc] 37)).heap.size) →
          ∃ sv, LiW w0.heap.size (w3.setCell ⟨bl, 0, none⟩ (.slice na (ln + 1) nc)) (.slice na (ln + 1) nc) (A ++ [(⟨ei, eu, et, eb, ek, es⟩, sv)]) ∧ (w3.setCell ⟨bl, 0, none⟩ (.slice na (ln + 1) nc)).heap[bl]? = some (.cells #[.slice na (ln + 1) nc] 61 (0, 0)) ∧ Kp (fun k => k = bl) w0 (w3.setCell ⟨bl, 0, none⟩ (.slice na (ln + 1) nc))) := by
        show ∀ {va vc w2 na nc w3}, _
        intro va vc w2 na nc w3 hb2 hs2 ho3 hg3 hat3
        have hb9 := hb1.trans (hb2.mono hb1.size)
        have hAl2 : A.length = ln := by
          have := HLI2.out.row.slice
          obtain ⟨_, _, e9, _⟩ := this
          exact (Value.slice.inj e9).2.1.symm
        subst hAl2
        have h9 := HLI2.out.push (e := ⟨ei, eu, et, eb, ek, es⟩) (bl := bl) hbs HL0.out.1 hb9 hs2 ho3 hg3 hat3
        have hr := row_later hbx1 (hb2.alloc hb2.size (.cells #[.int .i64 ei, .bool eu, .int .i64 et, .bool eb, .int .i64 ek, .slice va es.length vc] 37))
        have n2 : some bl ≠ (Value.slice la A.length lc).ownBlock := fun e9 => by have := (hlvb bl e9.symm).2; have := HL0.out.1; omega
        have hr3 : w3.heap[bl]? = some (.cells #[.slice la A.length lc] 61 (0, 0)) := (hg3.block bl (row_lt hr) n2).trans hr
        exact ⟨_, h9.1, row_set hr3 0 _, HK.out.trans h9.2 (fun k hk hk2 => by rcases hk with hk | hk; exact hk; have := (hlvb k hk).2; omega)⟩
      have hS0 := HS.out w1.drew (Below.refl _ _).drew
      have hb0 : Below w1.heap.size w1 w1.drew := (Below.refl _ _).drew
      clear hsl hAl hrow hbx1 hws hlvb HK HBX2 HS9 d0 d1 d2 d3 d4 d5 hb1 hes
      refine region_thenGQ (β := Value × Value × Option Addr × Nat) (fun z => [(14, .slice la ln lc), (15, .agg #[.int .i64 ei, .bool eu, .int .i64 et, .bool eb, .int .i64 ek, .slice sa sl sc]), (16, z.1), (17, z.2.1), (18, .slice z.2.2.1 (ln + 1) z.2.2.2)]) (fun z W => ∃ sv, LiW w0.heap.size W (.slice z.2.2.1 (ln + 1) z.2.2.2) (A ++ [(⟨ei, eu, et, eb, ek, es⟩, sv)]) ∧ W.heap[bl]? = some (.cells #[.slice z.2.2.1 (ln + 1) z.2.2.2] 61 (0, 0)) ∧ Kp (fun k => k = bl) w0 W) ?_ ?_
      · refine wp_region_held (S := fun W => W.cell? ⟨wr.heap.size, 0, none⟩ = some (.int .i64 ei) ∧ W.cell? ⟨wr.heap.size, 1, none⟩ = some (.bool eu) ∧ W.cell? ⟨wr.heap.size, 2, none⟩ = some (.int .i64 et) ∧ W.cell? ⟨wr.heap.size, 3, none⟩ = some (.bool eb) ∧ W.cell? ⟨wr.heap.size, 4, none⟩ = some (.int .i64 ek) ∧ W.cell? ⟨wr.heap.size, 5, none⟩ = some (.slice sa sl sc)) (by kernel_rfl) ?_
        simp only [List.size_toArray, List.length_cons, List.length_nil, Nat.reduceAdd, Array.replicate_succ, Array.replicate_zero, List.push_toArray, List.nil_append, List.cons_append]
        refine takeD (i := 1) (d := 15) (v := .agg #[.int .i64 ei, .bool eu, .int .i64 et, .bool eb, .int .i64 ek, .slice sa sl sc]) (fuel := 5) rfl rfl (by kernel_rfl) (by kernel_rfl) (by kernel_rfl) (fun _ _ _ h => by cases h.1) (.inl ⟨by kernel_rfl, fun wx h => by obtain ⟨y0, y1, y2, y3, y4, y5⟩ := h; go_simp⟩) hS0 ?_
        simp only [List.setIfInBounds_toArray, List.set_cons_succ, List.set_cons_zero]
        refine wpAnyH_all (fuel := 4) (rs := [0, 2]) (by kernel_rfl) (by decide) ?_
        refine List.forall_mem_cons.2 ⟨?_, List.forall_mem_singleton.2 ?_⟩
        · refine wpOp_value (i := 0) (d := 14) (v := .slice la ln lc) rfl rfl (by kernel_rfl) (by have y0 := cell_later hb0 c1; go_simp) ⟨HS.out _ hb0, ?_⟩
          simp only [List.setIfInBounds_toArray, List.set_cons_succ, List.set_cons_zero]
          refine wpAnyH_all (fuel := 3) (rs := [2]) (by kernel_rfl) (by decide) ?_
          refine List.forall_mem_singleton.2 ?_
          refine wpOp_calls (i := 2) (d := 16) (f := 58) (args := #[.agg #[.int .i64 ei, .bool eu, .int .i64 et, .bool eb, .int .i64 ek, .slice sa sl sc]]) rfl rfl (by kernel_rfl) (by kernel_rfl) _ (HA.out _ hb0) ?_ (fun _ _ h => by obtain ⟨_, h1, _⟩ := h; cases h1) (fun _ h => by obtain ⟨_, h1, _⟩ := h; cases h1)
          rintro _ w2 ⟨v2, h1, ho2, hb2⟩
          cases h1
          refine ⟨HS.out _ hb2, ?_⟩
          simp only [List.setIfInBounds_toArray, List.set_cons_succ, List.set_cons_zero]
          refine wpAnyH_all (fuel := 2) (rs := [3]) (by kernel_rfl) (by decide) ?_
          refine List.forall_mem_singleton.2 ?_
          obtain ⟨va, vc, rfl⟩ := ho2.slice
          refine wpOp_value (i := 3) (d := 17) (v := .slice (some ⟨w2.heap.size, 0, none⟩) 1 1) (w' := w2.alloc (.cells #[.int .i64 ei, .bool eu, .int .i64 et, .bool eb, .int .i64 ek, .slice va es.length vc] 37)) rfl rfl (by kernel_rfl) (by go_simp) ⟨HS.out _ (hb2.alloc hb2.size _), ?_⟩
          simp only [List.setIfInBounds_toArray, List.set_cons_succ, List.set_cons_zero]
          have hb3 : Below w1.heap.size w1 (w2.alloc (.cells #[.int .i64 ei, .bool eu, .int .i64 et, .bool eb, .int .i64 ek, .slice va es.length vc] 37)) := hb2.alloc hb2.size _
          obtain ⟨na, nc, w3, hrun, ho3, hg3, hat3⟩ := HAP.out va vc w2 hb2 ho2
          obtain ⟨q0, q1, q2⟩ := HT.out hg3 hb3
          refine wpAnyH_all (fuel := 1) (rs := [4]) (by kernel_rfl) (by decide) ?_
          refine List.forall_mem_singleton.2 ?_
          refine wpOp_value (i := 4) (d := 18) (v := .slice na (ln + 1) nc) (w' := w3) rfl rfl (by kernel_rfl) (exec_append rfl rfl rfl hrun) ⟨q0, ?_⟩
          simp only [List.setIfInBounds_toArray, List.set_cons_succ, List.set_cons_zero]
          refine wpAnyH_all (fuel := 0) (rs := [5]) (by kernel_rfl) (by decide) ?_
          refine List.forall_mem_singleton.2 ?_
          refine wpOp_skip (i := 5) rfl rfl (by kernel_rfl) (w' := w3.setCell ⟨bl, 0, none⟩ (.slice na (ln + 1) nc)) (by go_simp) ⟨HS2.out q0, ?_⟩
          simp only [List.setIfInBounds_toArray, List.set_cons_succ, List.set_cons_zero]
          refine wpAnyH_done (by kernel_rfl) ?_ _
          exact ⟨rfl, (.agg #[.int .i64 ei, .bool eu, .int .i64 et, .bool eb, .int .i64 ek, .slice va es.length vc], .slice (some ⟨w2.heap.size, 0, none⟩) 1 1, na, nc), by kernel_rfl, HE.out hb2 ho2 ho3 hg3 hat3⟩
        · refine wpOp_calls (i := 2) (d := 16) (f := 58) (args := #[.agg #[.int .i64 ei, .bool eu, .int .i64 et, .bool eb, .int .i64 ek, .slice sa sl sc]]) rfl rfl (by kernel_rfl) (by kernel_rfl) _ (HA.out _ hb0) ?_ (fun _ _ h => by obtain ⟨_, h1, _⟩ := h; cases h1) (fun _ h => by obtain ⟨_, h1, _⟩ := h; cases h1)
          rintro _ w2 ⟨v2, h1, ho2, hb2⟩
          cases h1
          refine ⟨HS.out _ hb2, ?_⟩
          simp only [List.setIfInBounds_toArray, List.set_cons_succ, List.set_cons_zero]
          refine wpAnyH_all (fuel := 3) (rs := [0, 3]) (by kernel_rfl) (by decide) ?_
          refine List.forall_mem_cons.2 ⟨?_, List.forall_mem_singleton.2 ?_⟩
          · refine wpOp_value (i := 0) (d := 14) (v := .slice la ln lc) rfl rfl (by kernel_rfl) (by have y0 := cell_later hb2 c1; go_simp) ⟨HS.out _ hb2, ?_⟩
            simp only [List.setIfInBounds_toArray, List.set_cons_succ, List.set_cons_zero]
            refine wpAnyH_all (fuel := 2) (rs := [3]) (by kernel_rfl) (by decide) ?_
            refine List.forall_mem_singleton.2 ?_
            obtain ⟨va, vc, rfl⟩ := ho2.slice
            refine wpOp_value (i := 3) (d := 17) (v := .slice (some ⟨w2.heap.size, 0, none⟩) 1 1) (w' := w2.alloc (.cells #[.int .i64 ei, .bool eu, .int .i64 et, .bool eb, .int .i64 ek, .slice va es.length vc] 37)) rfl rfl (by kernel_rfl) (by go_simp) ⟨HS.out _ (hb2.alloc hb2.size _), ?_⟩
            simp only [List.setIfInBounds_toArray, List.set_cons_succ, List.set_cons_zero]
            have hb3 : Below w1.heap.size w1 (w2.alloc (.cells #[.int .i64 ei, .bool eu, .int .i64 et, .bool eb, .int .i64 ek, .slice va es.length vc] 37)) := hb2.alloc hb2.size _
            obtain ⟨na, nc, w3, hrun, ho3, hg3, hat3⟩ := HAP.out va vc w2 hb2 ho2
            obtain ⟨q0, q1, q2⟩ := HT.out hg3 hb3
            refine wpAnyH_all (fuel := 1) (rs := [4]) (by kernel_rfl) (by decide) ?_
            refine List.forall_mem_singleton.2 ?_
            refine wpOp_value (i := 4) (d := 18) (v := .slice na (ln + 1) nc) (w' := w3) rfl rfl (by kernel_rfl) (exec_append rfl rfl rfl hrun) ⟨q0, ?_⟩
            simp only [List.setIfInBounds_toArray, List.set_cons_succ, List.set_cons_zero]
            refine wpAnyH_all (fuel := 0) (rs := [5]) (by kernel_rfl) (by decide) ?_
            refine List.forall_mem_singleton.2 ?_
            refine wpOp_skip (i := 5) rfl rfl (by kernel_rfl) (w' := w3.setCell ⟨bl, 0, none⟩ (.slice na (ln + 1) nc)) (by go_simp) ⟨HS2.out q0, ?_⟩
            simp only [List.setIfInBounds_toArray, List.set_cons_succ, List.set_cons_zero]
            refine wpAnyH_done (by kernel_rfl) ?_ _
            exact ⟨rfl, (.agg #[.int .i64 ei, .bool eu, .int .i64 et, .bool eb, .int .i64 ek, .slice va es.length vc], .slice (some ⟨w2.heap.size, 0, none⟩) 1 1, na, nc), by kernel_rfl, HE.out hb2 ho2 ho3 hg3 hat3⟩
          · obtain ⟨va, vc, rfl⟩ := ho2.slice
            refine wpOp_value (i := 3) (d := 17) (v := .slice (some ⟨w2.heap.size, 0, none⟩) 1 1) (w' := w2.alloc (.cells #[.int .i64 ei, .bool eu, .int .i64 et, .bool eb, .int .i64 ek, .slice va es.length vc] 37)) rfl rfl (by kernel_rfl) (by go_simp) ⟨HS.out _ (hb2.alloc hb2.size _), ?_⟩
            simp only [List.setIfInBounds_toArray, List.set_cons_succ, List.set_cons_zero]
            have hb3 : Below w1.heap.size w1 (w2.alloc (.cells #[.int .i64 ei, .bool eu, .int .i64 et, .bool eb, .int .i64 ek, .slice va es.length vc] 37)) := hb2.alloc hb2.size _
            refine wpAnyH_all (fuel := 2) (rs := [0]) (by kernel_rfl) (by decide) ?_
            refine List.forall_mem_singleton.2 ?_
            refine wpOp_value (i := 0) (d := 14) (v := .slice la ln lc) rfl rfl (by kernel_rfl) (by have y0 := cell_later hb3 c1; go_simp) ⟨HS.out _ hb3, ?_⟩
            simp only [List.setIfInBounds_toArray, List.set_cons_succ, List.set_cons_zero]
            obtain ⟨na, nc, w3, hrun, ho3, hg3, hat3⟩ := HAP.out va vc w2 hb2 ho2
            obtain ⟨q0, q1, q2⟩ := HT.out hg3 hb3
            refine wpAnyH_all (fuel := 1) (rs := [4]) (by kernel_rfl) (by decide) ?_
            refine List.forall_mem_singleton.2 ?_
            refine wpOp_value (i := 4) (d := 18) (v := .slice na (ln + 1) nc) (w' := w3) rfl rfl (by kernel_rfl) (exec_append rfl rfl rfl hrun) ⟨q0, ?_⟩
            simp only [List.setIfInBounds_toArray, List.set_cons_succ, List.set_cons_zero]
            refine wpAnyH_all (fuel := 0) (rs := [5]) (by kernel_rfl) (by decide) ?_
            refine List.forall_mem_singleton.2 ?_
            refine wpOp_skip (i := 5) rfl rfl (by kernel_rfl) (w' := w3.setCell ⟨bl, 0, none⟩ (.slice na (ln + 1) nc)) (by go_simp) ⟨HS2.out q0, ?_⟩
            simp only [List.setIfInBounds_toArray, List.set_cons_succ, List.set_cons_zero]
            refine wpAnyH_done (by kernel_rfl) ?_ _
            exact ⟨rfl, (.agg #[.int .i64 ei, .bool eu, .int .i64 et, .bool eb, .int .i64 ek, .slice va es.length vc], .slice (some ⟨w2.heap.size, 0, none⟩) 1 1, na, nc), by kernel_rfl, HE.out hb2 ho2 ho3 hg3 hat3⟩
      · rintro ⟨z1, z2, za, zc⟩ w9 ⟨sv, hF1, hF2, hF3⟩
        have HF1 : Hid _ := hF1
        have HF2 : Hid _ := hF2
        have HF3 : Hid _ := hF3
        clear hF1 hF2 hF3 HE HS2 HT HAP HS HA c1 hb0 hS0
        simp only [setAll, List.setIfInBounds_toArray, List.set_cons_succ, List.set_cons_zero, Exit.inBlock, Exit.then]
        go_wp2_with fail
        go_roundw
        case rel => exact ⟨j + 1, .slice za (ln + 1) zc, A ++ [(⟨ei, eu, et, eb, ek, es⟩, sv)], by go_num, by omega, HF3, HF2, HF1, by show _ = _; rw [List.map_append]; exact HA1.out⟩
        case measure => simp [intOf]; omega
    · have hjn : j = n := by omega
      subst hjn
      have HE : Hid (A.map Prod.fst = M.map Prod.fst) := by
        have h9 := HA0.out
        have e9 : M.take j = M := List.take_of_length_le (by rw [HN.out]; exact Nat.le_refl _)
        rw [e9] at h9
        exact h9
      go_wp2_with fail
      go_ret
      exact ⟨0, rfl, lv, A, HBX.out, HLI.out, HE.out, HB.out.trans (HK.out.below HSZ.out (fun k hk => by rw [hk]; exact HL0.out.2))⟩

set_option maxHeartbeats 2000000 in
theorem list_any (T : Nat → Prop) (w : World) (p : Nat) (L : List Jb) (h : DQ T w p L) (hl : L.length ≤ 1000000) (hfs : ∀ x ∈ L, x.s.length ≤ 1000000) :
    Calls Try.prog 42 #[.pointer (some ⟨p, 0, none⟩)] w fun e w' => ∃ lv A, e = .returned lv ∧ LiW w.heap.size w' lv A ∧ A.map Prod.fst = L ∧ Below w.heap.size w w' := by
  obtain ⟨v, M, hv, rfl⟩ := h
  rw [List.length_map] at hl
  have hfs2 : FewS M := fun x hx => hfs x.1 (List.mem_map_of_mem hx)
  have hmf : ∀ (fn : Fn) (first cap : Array Value) (w : World), (Instr.makeFunc fn first cap).run Try.prog w = .ok (.func fn first cap) w := fun _ _ _ _ => rfl
  have HB2 : Hid _ := bl2 w (.cells #[.pointer (some ⟨p, 0, none⟩)] 53) (.cells #[.slice none 0 0] 61)
  have R0 : Hid ((((w.alloc (.cells #[.pointer (some ⟨p, 0, none⟩)] 53)).alloc (.cells #[.slice none 0 0] 61))).heap[w.heap.size]? = _) := row_new1 w _ _
  have R1 : Hid ((((w.alloc (.cells #[.pointer (some ⟨p, 0, none⟩)] 53)).alloc (.cells #[.slice none 0 0] 61))).heap[w.heap.size + 1]? = _) := row_new2 w _ _
  have hmade := DQ.made (DQ.later ⟨v, M, hv, rfl⟩ HB2.out : DQ T _ p (M.map Prod.fst))
  have HC : Hid _ := call_any p 59 #[] #[.pointer (some ⟨w.heap.size, 0, none⟩), .pointer (some ⟨w.heap.size + 1, 0, none⟩)] _ _ hmade ent59 (list1_any T w _ p w.heap.size (w.heap.size + 1) v M hv HB2.out R0.out R1.out (Nat.le_refl _) (by omega) (by omega) hl hfs2)
  have HSz : Hid (w.heap.size ≤ ((w.alloc (.cells #[.pointer (some ⟨p, 0, none⟩)] 53)).alloc (.cells #[.slice none 0 0] 61)).heap.size) := HB2.out.size
  clear hv hmade hfs hfs2
  go_enter Try.func42, Try.ntmps42
  go_wp2_with fail
  refine Calls.mono HC.out ?_
  rintro e w2 ⟨q, rfl, lv, A, hr, h1, h2, h3⟩
  obtain ⟨la, lc, hlv, _⟩ := h1.row.slice
  subst hlv
  have c2 : w2.cell? ⟨w.heap.size + 1, 0, none⟩ = some (.slice la A.length lc) := (cell_row hr 0).trans rfl
  have H1 : Hid _ := h1
  have H2 : Hid _ := h2
  have H3 : Hid _ := h3
  clear h1 h2 h3 hr HC R0 R1 HB2
  go_wp2_with fail
  go_ret
  have h1 := H1.out
  exact ⟨_, A, rfl, ⟨h1.row, fun g hg => Nat.le_trans HSz.out (h1.lo g hg), fun x hx => ⟨World.ownsRow.mono_base (h1.st x hx).1 HSz.out, (h1.st x hx).2⟩⟩, H2.out, H3.out⟩

theorem LiW.rj {N : Nat} {w : World} {lv : Value} {A : List JbP} (h : LiW N w lv A) : RJ (fun k => N ≤ k) w lv A := by
  rcases id h.row with ⟨rfl, rfl⟩ | ⟨g, o, cap, cur, rfl, h1, h2, h3, h4, h5⟩
  · exact RJ.nil _ _
  · refine ⟨_, cap, rfl, h1, h2, fun i p hp => ⟨g, o, rfl, h.lo g rfl, h.row.jc hp, ?_⟩⟩
    have := (h.st p (List.mem_of_getElem? hp)).1.rs
    exact this.mono (fun k _ hk => hk.1)

end Go.Proofs.Ytfhmmiilenonkaa
