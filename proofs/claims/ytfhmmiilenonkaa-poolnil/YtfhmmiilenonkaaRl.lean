/- The walk over the document's Drop. -/
import Derived.Test.YtfhmmiilenonkaaRk
import Derived.Lib.AppendZeros
namespace Go.Proofs.Ytfhmmiilenonkaa

open Go.RowKit

set_option maxRecDepth 1000000

set_option linter.unusedVariables false

theorem neq_key (i : Int) (u : Bool) (t : Int) (i' : Int) (u' : Bool) (t' : Int) (w : World) : (Go.binOp .neq 34 (.agg #[.int .i64 i, .bool u, .int .i64 t]) (.agg #[.int .i64 i', .bool u', .int .i64 t'])).run Try.prog w = .ok (.bool (!decide ((⟨i, u, t⟩ : Ky) = ⟨i', u', t'⟩))) w := by
  go_simp
  repeat' split
  all_goals simp_all

theorem neq_exec {i : Int} {u : Bool} {t : Int} {i' : Int} {u' : Bool} {t' : Int} {o : Oper} {x y : Operand} {a : Act} {w : World} {q : Bool} {ty : TypeId} (ho : o.op = .binOp .neq 34 x y ty) (hx : a.eval x = .agg #[.int .i64 i, .bool u, .int .i64 t]) (hy : a.eval y = .agg #[.int .i64 i', .bool u', .int .i64 t']) (hq : (!decide ((⟨i, u, t⟩ : Ky) = ⟨i', u', t'⟩)) = q) :
    (execOp a.eval o).run Try.prog w = .ok (.value (.bool q)) w := by
  unfold execOp
  subst hq
  have hg : (eqGuard BinOp.neq 34 x y (.agg #[.int .i64 i, .bool u, .int .i64 t]) (.agg #[.int .i64 i', .bool u', .int .i64 t'])).run Try.prog w = .ok () w := by
    have hk : Try.prog.eqGuardType Try.prog.depth 34 = false := by kernel_rfl
    unfold eqGuard
    simp [hk]
  simp only [ho, hx, hy, Sem.run_bind, neq_key, hg, Result.andThen_ok]
  rfl

theorem RJ.of_owr {S : Nat → Prop} {w : World} {v : Value} {A : List JbP} (h : OwR w v A) (hlo : ∀ g, v.ownBlock = some g → S g) (hs : ∀ x ∈ A, RS S w x.2 x.1.s) : RJ S w v A := by
  rcases id h with ⟨rfl, rfl⟩ | ⟨g, o, cap, cur, rfl, h1, h2, h3, h4, h5⟩
  · exact RJ.nil _ _
  · exact ⟨_, cap, rfl, h1, h2, fun i p hp => ⟨g, o, rfl, hlo g rfl, h.jc hp, hs p (List.mem_of_getElem? hp)⟩⟩

theorem RJ.getv {S : Nat → Prop} {w : World} {v : Value} {A : List JbP} (h : RJ S w v A) : ∀ x ∈ A, RS S w x.2 x.1.s := by
  obtain ⟨a, cap, rfl, h1, h2, hc⟩ := h
  intro x hx
  obtain ⟨i, hi⟩ := List.getElem?_of_mem hx
  obtain ⟨b, off, _, _, _, h9⟩ := hc i x hi
  exact h9

set_option maxHeartbeats 8000000 in
theorem rdrop_any (S : Nat → Prop) (w : World) (rv : Value) (L : List JbP) (k : Ky) (h : RJ S w rv L) (hS : ∀ b, w.heap.size ≤ b → S b) (hl : L.length ≤ 1000000) :
    Calls Try.prog 48 #[rv, KV k] w fun e w' => ∃ rv' L', e = .returned (.tuple #[rv', .int .i64 ((L.length : Int) - ((dropP k (L.map Prod.fst)).length : Int))]) ∧ RJ S w' rv' L' ∧ L'.map Prod.fst = dropP k (L.map Prod.fst) ∧ Below w.heap.size w w' := by
  rw [← map_drop, List.length_map]
  have HH : Hid (RJ S w rv L) := h
  obtain ⟨ra, cap, rfl, hc1, hc2, hr⟩ := h
  have HR : Hid _ := hr
  have HS : Hid _ := hS
  obtain ⟨n, HN⟩ : ∃ n, Hid (L.length = n) := ⟨_, rfl⟩
  have HFL : Hid ((L.filter (fun x => !isK k x.1)).length ≤ L.length) := List.length_filter_le _ _
  rw [HN.out] at hl hc1 HFL ⊢
  obtain ⟨ki, ku, kt⟩ := k
  have hb1 : Below w.heap.size w (w.alloc (.cells #[.int .i64 ki, .bool ku, .int .i64 kt] 34)) := bl1 _ _
  have hrow := row_new w #[.int .i64 ki, .bool ku, .int .i64 kt] 34
  obtain ⟨kb, hkb⟩ : ∃ kb, kb = w.heap.size := ⟨_, rfl⟩
  have HKB : Hid _ := hkb
  unfold KV
  dsimp only
  clear hr hS
  go_enter Try.func48, Try.ntmps48
  go_wp2_with fail
  rw [← hkb] at hrow
  rw [← hkb]
  generalize w.alloc (.cells #[.int .i64 ki, .bool ku, .int .i64 kt] 34) = w1 at *
  have HB1 : Hid _ := hb1
  have HROW : Hid _ := hrow
  clear hb1 hrow hkb
  go_loopw [7, 6] (fun s7 s6 wr => ∃ (j : Nat) (oa : Option Addr) (on oc : Nat), s7 = .int .i64 j ∧ s6 = .slice oa on oc ∧ j ≤ n ∧ Hid (Below w1.heap.size w1 wr) ∧ Hid (OwR wr (.slice oa on oc) ((L.take j).filter (fun x => !isK ⟨ki, ku, kt⟩ x.1))) ∧ Hid (∀ g, (Value.slice oa on oc).ownBlock = some g → w1.heap.size ≤ g)) (fun s7 _ _ => n - (intOf s7).toNat)
  case atStart => exact ⟨0, none, 0, 0, rfl, rfl, Nat.zero_le _, Below.refl _ _, by show OwR _ _ _; simp; exact .inl ⟨rfl, rfl⟩, fun g hg => (by cases hg)⟩
  case round =>
    obtain ⟨j, oa, on, oc, rfl, rfl, hj, HB, HO, HG⟩ := hrel
    rename World => wr
    by_cases hlt : j < n
    · obtain ⟨y, hy⟩ : ∃ y, L[j]? = some y := ⟨_, List.getElem?_eq_getElem (by rw [HN.out]; exact hlt)⟩
      obtain ⟨b, off, rfl, hSb, hJ, hRS⟩ := HR.out j y hy
      have hBw : Below w.heap.size w wr := HB1.out.trans (HB.out.mono HB1.out.size)
      obtain ⟨d0, d1, d2, d3, d4, d5⟩ := hJ.later hBw
      have hkr := row_later HROW.out HB.out
      have k0 : wr.cell? ⟨kb, 0, none⟩ = some (.int .i64 ki) := (cell_row hkr 0).trans rfl
      have k1 : wr.cell? ⟨kb, 1, none⟩ = some (.bool ku) := (cell_row hkr 1).trans rfl
      have k2 : wr.cell? ⟨kb, 2, none⟩ = some (.int .i64 kt) := (cell_row hkr 2).trans rfl
      have HY : Hid _ := hy
      obtain ⟨⟨ei, eu, et, eb, ek, es⟩, ev⟩ := y
      obtain ⟨⟨sa, sc, hev, _⟩, _⟩ := hRS
      dsimp only at *
      subst hev
      obtain ⟨sl, hsl⟩ : ∃ n, es.length = n := ⟨_, rfl⟩
      have HSL : Hid _ := hsl
      rw [hsl] at d5
      obtain ⟨q, hq⟩ : ∃ q, (!decide ((⟨ei, eu, et⟩ : Ky) = ⟨ki, ku, kt⟩)) = q := ⟨_, rfl⟩
      have HQ : Hid _ := hq
      have HQ2 : Hid ((!isK ⟨ki, ku, kt⟩ ⟨ei, eu, et, eb, ek, es⟩) = q) := hq
      have hji : (j : Int) < (n : Int) := by omega
      have hS0 : wr.drew.cell? ⟨b, off + j * 6, none⟩ = some (.int .i64 ei) ∧ wr.drew.cell? ⟨b, off + j * 6 + 1, none⟩ = some (.bool eu) ∧ wr.drew.cell? ⟨b, off + j * 6 + 2, none⟩ = some (.int .i64 et) ∧ wr.drew.cell? ⟨kb, 0, none⟩ = some (.int .i64 ki) ∧ wr.drew.cell? ⟨kb, 1, none⟩ = some (.bool ku) ∧ wr.drew.cell? ⟨kb, 2, none⟩ = some (.int .i64 kt) := ⟨d0, d1, d2, k0, k1, k2⟩
      clear hy hsl hq hJ hkr hBw
      go_wp2_with fail
      refine region_thenGQ (β := Unit) (fun _ => [(14, .slice (some ⟨b, off, none⟩) n cap), (15, .int .i64 j), (16, .pointer (some ⟨b, off + j * 6, none⟩)), (17, .pointer (some ⟨b, off + j * 6, none⟩)), (18, .agg #[.int .i64 ei, .bool eu, .int .i64 et]), (19, .agg #[.int .i64 ki, .bool ku, .int .i64 kt]), (20, .bool q)]) (fun _ W => W = wr.drew) ?_ ?_
      · refine wp_region_held (S := fun W => W.cell? ⟨b, off + j * 6, none⟩ = some (.int .i64 ei) ∧ W.cell? ⟨b, off + j * 6 + 1, none⟩ = some (.bool eu) ∧ W.cell? ⟨b, off + j * 6 + 2, none⟩ = some (.int .i64 et) ∧ W.cell? ⟨kb, 0, none⟩ = some (.int .i64 ki) ∧ W.cell? ⟨kb, 1, none⟩ = some (.bool ku) ∧ W.cell? ⟨kb, 2, none⟩ = some (.int .i64 kt)) (by kernel_rfl) ?_
        simp only [List.size_toArray, List.length_cons, List.length_nil, Nat.reduceAdd, Array.replicate_succ, Array.replicate_zero, List.push_toArray, List.nil_append, List.cons_append]
        refine takeD (i := 0) (d := 14) (v := .slice (some ⟨b, off, none⟩) n cap) (fuel := 6) rfl rfl (by kernel_rfl) (by kernel_rfl) (by kernel_rfl) (fun _ _ _ h => by cases h.1) (.inl ⟨by kernel_rfl, fun _ _ => by kernel_rfl⟩) hS0 ?_
        simp only [List.setIfInBounds_toArray, List.set_cons_succ, List.set_cons_zero]
        refine takeD (i := 1) (d := 15) (v := .int .i64 j) (fuel := 5) rfl rfl (by kernel_rfl) (by kernel_rfl) (by kernel_rfl) (fun _ _ _ h => by cases h.1) (.inl ⟨by kernel_rfl, fun _ _ => by kernel_rfl⟩) hS0 ?_
        simp only [List.setIfInBounds_toArray, List.set_cons_succ, List.set_cons_zero]
        refine takeD (i := 2) (d := 16) (v := .pointer (some ⟨b, off + j * 6, none⟩)) (fuel := 4) rfl rfl (by kernel_rfl) (by kernel_rfl) (by kernel_rfl) (fun _ _ _ h => by cases h.1) (.inl ⟨by kernel_rfl, fun _ _ => by go_simp⟩) hS0 ?_
        simp only [List.setIfInBounds_toArray, List.set_cons_succ, List.set_cons_zero]
        refine takeD (i := 3) (d := 17) (v := .pointer (some ⟨b, off + j * 6, none⟩)) (fuel := 3) rfl rfl (by kernel_rfl) (by kernel_rfl) (by kernel_rfl) (fun _ _ _ h => by cases h.1) (.inl ⟨by kernel_rfl, fun _ _ => by go_simp⟩) hS0 ?_
        simp only [List.setIfInBounds_toArray, List.set_cons_succ, List.set_cons_zero]
        refine takeD (i := 4) (d := 18) (v := .agg #[.int .i64 ei, .bool eu, .int .i64 et]) (fuel := 2) rfl rfl (by kernel_rfl) (by kernel_rfl) (by kernel_rfl) (fun _ _ _ h => by cases h.1) (.inl ⟨by kernel_rfl, fun wx h => by obtain ⟨y0, y1, y2, y3, y4, y5⟩ := h; go_simp⟩) hS0 ?_
        simp only [List.setIfInBounds_toArray, List.set_cons_succ, List.set_cons_zero]
        refine takeD (i := 5) (d := 19) (v := .agg #[.int .i64 ki, .bool ku, .int .i64 kt]) (fuel := 1) rfl rfl (by kernel_rfl) (by kernel_rfl) (by kernel_rfl) (fun _ _ _ h => by cases h.1) (.inl ⟨by kernel_rfl, fun wx h => by obtain ⟨y0, y1, y2, y3, y4, y5⟩ := h; go_simp⟩) hS0 ?_
        simp only [List.setIfInBounds_toArray, List.set_cons_succ, List.set_cons_zero]
        refine takeD (i := 6) (d := 20) (v := .bool q) (fuel := 0) rfl rfl (by kernel_rfl) (by kernel_rfl) (by kernel_rfl) (fun _ _ _ h => by cases h.1) (.inl ⟨by kernel_rfl, fun _ _ => neq_exec rfl rfl rfl HQ.out⟩) hS0 ?_
        simp only [List.setIfInBounds_toArray, List.set_cons_succ, List.set_cons_zero]
        refine wpAnyH_done (by kernel_rfl) ?_ _
        exact ⟨rfl, (), by kernel_rfl, rfl⟩
      · rintro _ w9 rfl
        simp only [setAll, List.setIfInBounds_toArray, List.set_cons_succ, List.set_cons_zero, Exit.then]
        have hB9 : Below wr.heap.size wr wr.drew := (Below.refl _ _).drew
        cases q with
        | false =>
          have HO2 : Hid (OwR wr.drew (.slice oa on oc) ((L.take (j + 1)).filter (fun x => !isK ⟨ki, ku, kt⟩ x.1))) := by
            show OwR _ _ _
            rw [List.take_add_one, HY.out, List.filter_append]
            simp only [Option.toList_some, List.filter_cons, HQ2.out, List.filter_nil]
            simpa using HO.out.later hB9
          have HB2 : Hid (Below w1.heap.size w1 wr.drew) := HB.out.drew
          clear hS0 d0 d1 d2 d3 d4 d5 k0 k1 k2 HO HB
          go_wp2_with fail
          go_roundw
          case rel => exact ⟨j + 1, oa, on, oc, by go_num, rfl, by omega, HB2, HO2, HG⟩
          case measure => simp [intOf]; omega
        | true =>
          have e0 := cell_later hB9 d0
          have e1 := cell_later hB9 d1
          have e2 := cell_later hB9 d2
          have e3 := cell_later hB9 d3
          have e4 := cell_later hB9 d4
          have e5 := cell_later hB9 d5
          have HO8 := HO.out.later hB9
          have HB8 : Below w1.heap.size w1 wr.drew := HB.out.drew
          clear hS0 d0 d1 d2 d3 d4 d5 k0 k1 k2 HO HB hB9
          generalize wr.drew = w8 at *
          have hon : ((L.take j).filter (fun x => !isK ⟨ki, ku, kt⟩ x.1)).length = on := by
            obtain ⟨_, _, e9, _⟩ := HO8.slice
            exact (Value.slice.inj e9).2.1.symm
          have hon2 : on ≤ 1000000 := by
            have h1 := List.length_filter_le (fun x => !isK ⟨ki, ku, kt⟩ x.1) (L.take j)
            have h2 : (L.take j).length ≤ L.length := List.length_take_le' _ _
            have h3 := HN.out
            omega
          have hap := run_append_j 82 82 Try.underlying82 (HO8.later (bl1 w8 (.cells #[.int .i64 ei, .bool eu, .int .i64 et, .bool eb, .int .i64 ek, .slice sa sl sc] 37))) (⟨ei, eu, et, eb, ek, es⟩, .slice sa sl sc) rfl (nb := w8.heap.size) (row_new w8 _ 37) (fun e9 => by have := HO8.lt _ e9; omega) (by omega)
          rw [hon] at hap
          obtain ⟨na, nc, w3, hrun, ho3, hg3, hat3⟩ := hap
          have HO3 : Hid (OwR w3 (.slice na (on + 1) nc) ((L.take (j + 1)).filter (fun x => !isK ⟨ki, ku, kt⟩ x.1))) := by
            show OwR _ _ _
            rw [List.take_add_one, HY.out, List.filter_append]
            simp only [Option.toList_some, List.filter_cons, HQ2.out, List.filter_nil, HSL.out]
            simpa using ho3
          have HB3 : Hid (Below w1.heap.size w1 w3) := by
            have h1 : Below w1.heap.size w1 (w8.alloc (.cells #[.int .i64 ei, .bool eu, .int .i64 et, .bool eb, .int .i64 ek, .slice sa sl sc] 37)) := HB8.alloc HB8.size _
            exact Below.grown h1 hg3 h1.size (fun g hg => HG.out g hg)
          have HG3 : Hid (∀ g, (Value.slice na (on + 1) nc).ownBlock = some g → w1.heap.size ≤ g) := by
            show ∀ g, _
            intro g hg
            rcases hat3 with h9 | h9
            · exact HG.out g (by rw [← h9]; exact hg)
            · rw [h9] at hg
              have := HB8.size
              simp at hg
              omega
          clear ho3 hg3 hat3 hon hon2 HO8 HB8
          go_wp2_with (at_builtin; refine Lib.wpList_append_run _ rfl _ _ _ _ rfl _ _ rfl rfl _ _ hrun ?_)
          go_roundw
          case rel => exact ⟨j + 1, na, on + 1, nc, by go_num, rfl, by omega, HB3, HO3, HG3⟩
          case measure => simp [intOf]; omega
    · have hjn : j = n := by omega
      subst hjn
      have HE : Hid (L.take j = L) := List.take_of_length_le (by rw [HN.out]; exact Nat.le_refl _)
      rw [HE.out] at HO
      have HON : Hid ((L.filter (fun x => !isK ⟨ki, ku, kt⟩ x.1)).length = on) := by
        obtain ⟨_, _, e9, _⟩ := HO.out.slice
        exact (Value.slice.inj e9).2.1.symm
      rw [HON.out] at HFL
      have hfl : on ≤ j := HFL.out
      go_wp2_with fail
      go_ret2
      have hBw : Below w.heap.size w wr := HB1.out.trans (HB.out.mono HB1.out.size)
      rw [HON.out]
      refine ⟨_, L.filter (fun x => !isK ⟨ki, ku, kt⟩ x.1), rfl, RJ.of_owr HO.out (fun g hg => HS.out g (Nat.le_trans HB1.out.size (HG.out g hg))) (fun x hx => ((HH.out.getv) x (List.mem_filter.1 hx).1).later hBw), rfl, hBw⟩

end Go.Proofs.Ytfhmmiilenonkaa
