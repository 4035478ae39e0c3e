/- The walk over PoolNil. -/
import Derived.Test.YtfhmmiilenonkaaQl
import Derived.Test.YtfhmmiilenonkaaVh
namespace Go.Proofs.Ytfhmmiilenonkaa
open Go.RowKit Go.Shelf
set_option maxRecDepth 1000000
set_option linter.unusedVariables false

variable {N : Nat} {F : Nat → Prop} {w w' : World} {p r n : Nat} {s : Pq.St Jb}

/-- All that is told of no pool. -/
structure NoC (w : World) (pv : Value) (v : Int) (e : Jb) (sv : Value) : Prop where
  take : Calls Try.prog 15 #[pv, .int .i64 v, .int .i64 0] w fun e w' => e = .returned (.tuple #[.agg #[.int .i64 0, .bool false, .int .i64 0, .bool false, .int .i64 0, .slice none 0 0], .int .i64 0, .int .i64 1]) ∧ Below w.heap.size w w'
  held : Calls Try.prog 16 #[pv, .int .i64 v] w fun e w' => e = .returned (.tuple #[.agg #[.int .i64 0, .bool false, .int .i64 0, .bool false, .int .i64 0, .slice none 0 0], .int .i64 1]) ∧ Below w.heap.size w w'
  push : Calls Try.prog 19 #[pv, .int .i64 v, JV e sv] w fun e w' => e = .returned (.int .i64 1) ∧ Below w.heap.size w w'
  put : Calls Try.prog 20 #[pv, .int .i64 v, JV e sv] w fun e w' => e = .returned (.int .i64 1) ∧ Below w.heap.size w w'
  done : Calls Try.prog 18 #[pv, .int .i64 v] w fun e w' => e = .returned (.int .i64 1) ∧ w' = w
  list : Calls Try.prog 21 #[pv, .int .i64 v] w fun e w' => e = .returned (.slice none 0 0) ∧ w' = w
  drop : Calls Try.prog 22 #[pv, .agg #[.int .i64 e.i, .bool e.u, .int .i64 e.t]] w fun e w' => e = .returned (.int .i64 0) ∧ Below w.heap.size w w'
  len : Calls Try.prog 14 #[pv] w fun e w' => e = .returned (.int .i64 0) ∧ Below w.heap.size w w'
theorem NoP.calls {pv : Value} (h : NoP w pv) (v : Int) (e : Jb) {sv : Value} (hsv : ∃ a n c, sv = .slice a n c) : NoC w pv v e sv := by
  have he := WErr.no v h
  exact ⟨take_err 0 he, held_err (by decide) he.p he.holder, push_err hsv he, put_err hsv (by decide) he.p he.holder, done_err (by decide) he.p he.holder, list_err he, drop_no' _ _ _ h, len_no h⟩

theorem same_zero (a b : Value) (w : World) (ha : a = .slice none 0 0) (hb : b = .slice none 0 0) : Calls Try.prog 17 #[.agg #[.int .i64 0, .bool false, .int .i64 0, .bool false, .int .i64 0, a], .agg #[.int .i64 0, .bool false, .int .i64 0, .bool false, .int .i64 0, b]] w fun e w' => e = .returned (.bool true) ∧ Below w.heap.size w w' := by
  subst ha hb
  exact same_job zJ zJ (.slice none 0 0) (.slice none 0 0) w (RI.nil _) (RI.nil _) (by simp [zJ]) (by simp [zJ])

set_option maxHeartbeats 16000000 in
theorem nil_walk (v : Int) (e : Jb) (sv : Value) (md : Bool) (w : World) (hs : RI w sv e.s) :
    Calls Try.prog 6 #[.int .i64 v, JV e sv, .bool md] w fun x w' => x = .returned (.bool true) ∧ Below w.heap.size w w' := by
  have HLv : Hid (∀ wx, Calls Try.prog 8 #[] wx fun e w' => e = .returned (.bool true) ∧ Below wx.heap.size wx w') := fun wx => lives_any wx
  have hsv : ∃ a c, sv = .slice a e.s.length c := by obtain ⟨a, c, q, _⟩ := hs; exact ⟨_, _, q⟩
  have HC : Hid (∀ wx pv, NoP wx pv → NoC wx pv v e sv) := fun wx pv h => h.calls v e (by obtain ⟨a, c, q⟩ := hsv; exact ⟨_, _, _, q⟩)
  have HZ : Hid (∀ wx, Calls Try.prog 17 #[.agg #[.int .i64 0, .bool false, .int .i64 0, .bool false, .int .i64 0, .slice none 0 0], .agg #[.int .i64 0, .bool false, .int .i64 0, .bool false, .int .i64 0, .slice none 0 0]] wx fun e w' => e = .returned (.bool true) ∧ Below wx.heap.size wx w') := fun wx => same_zero _ _ wx rfl rfl
  obtain ⟨sa, sc, rfl⟩ := hsv
  have HN : Hid (∀ wx, Calls Try.prog 9 #[.int .i64 2] wx fun e w' => ∃ p, e = .returned (.tuple #[.pointer (some ⟨p, 0, none⟩), .int .i64 0]) ∧ LP wx.heap.size (fun _ => False) w' p 2 (st0 2) ∧ Below wx.heap.size wx w') := fun wx => new_w 2 (by omega) (by omega) wx
  obtain ⟨ei, eu, et, eb, ek, es⟩ := e
  dsimp only at *
  obtain ⟨sl, hsl⟩ : ∃ m, es.length = m := ⟨_, rfl⟩
  unfold JV
  dsimp only
  rw [hsl] at HC ⊢
  clear hs hsl
  by_cases hl : sl ≤ 100
  · have hl2 : (sl : Int) ≤ 100 := by omega
    have hdd : decide ((100 : Int) < (sl : Int)) = false := decide_eq_false (by omega)
    cases md with
    | false =>
      obtain ⟨w2, hw2⟩ : ∃ w2, w.alloc (.cells #[.int .i64 ei, .bool eu, .int .i64 et, .bool eb, .int .i64 ek, .slice sa sl sc] 37) = w2 := ⟨_, rfl⟩
      have R2 : Hid (w2.heap[w.heap.size]? = some (.cells #[.int .i64 ei, .bool eu, .int .i64 et, .bool eb, .int .i64 ek, .slice sa sl sc] 37 (0, 0))) := by rw [← hw2]; exact row_new w _ 37
      have HB2 : Hid (Below w.heap.size w w2) := by rw [← hw2]; exact bl1 _ _
      have HW2 : Hid _ := hw2
      have HNP : Hid (NoP w2 (.pointer none)) := .inl rfl
      clear hw2
      go_enter Try.func6, Try.ntmps6
      go_wp2_with fail
      rw [HW2.out]
      have HJ : Hid (∀ wx, Below w2.heap.size w2 wx → wx.cell? ⟨w.heap.size, 0, none⟩ = some (.int .i64 ei) ∧ wx.cell? ⟨w.heap.size, 1, none⟩ = some (.bool eu) ∧ wx.cell? ⟨w.heap.size, 2, none⟩ = some (.int .i64 et) ∧ wx.cell? ⟨w.heap.size, 3, none⟩ = some (.bool eb) ∧ wx.cell? ⟨w.heap.size, 4, none⟩ = some (.int .i64 ek) ∧ wx.cell? ⟨w.heap.size, 5, none⟩ = some (.slice sa sl sc)) := fun wx hb => by
        have rr := row_later R2.out hb
        exact ⟨(cell_row rr 0).trans rfl, (cell_row rr 1).trans rfl, (cell_row rr 2).trans rfl, (cell_row rr 3).trans rfl, (cell_row rr 4).trans rfl, (cell_row rr 5).trans rfl⟩
      have HC2 : Hid (∀ wx, Below w2.heap.size w2 wx → NoC wx (.pointer none) v ⟨ei, eu, et, eb, ek, es⟩ (.slice sa sl sc)) := fun wx hb => HC.out wx _ (HNP.out.later hb)
      have hlt2 : w.heap.size < w2.heap.size := row_lt R2.out
      refine Calls.mono (HC2.out w2 (Below.refl _ _)).take ?_
      rintro x w3 ⟨rfl, hb3⟩
      have HB3 : Hid (Below w2.heap.size w2 w3) := hb3
      obtain ⟨w4, hw4⟩ : ∃ w4, w3.alloc (.cells #[.int .i64 0, .bool false, .int .i64 0, .bool false, .int .i64 0, .slice none 0 0] 37) = w4 := ⟨_, rfl⟩
      have HW4 : Hid _ := hw4
      have HB4 : Hid (Below w2.heap.size w2 w4) := by rw [← hw4]; exact hb3.alloc hb3.size _
      have HZ4 : Hid (∀ wx, Below w4.heap.size w4 wx → wx.cell? ⟨w3.heap.size, 0, none⟩ = some (.int .i64 0) ∧ wx.cell? ⟨w3.heap.size, 1, none⟩ = some (.bool false) ∧ wx.cell? ⟨w3.heap.size, 2, none⟩ = some (.int .i64 0) ∧ wx.cell? ⟨w3.heap.size, 3, none⟩ = some (.bool false) ∧ wx.cell? ⟨w3.heap.size, 4, none⟩ = some (.int .i64 0) ∧ wx.cell? ⟨w3.heap.size, 5, none⟩ = some (.slice none 0 0)) := fun wx hb => by
        have rr := row_later (by rw [← hw4]; exact row_new w3 #[.int .i64 0, .bool false, .int .i64 0, .bool false, .int .i64 0, .slice none 0 0] 37) hb
        exact ⟨(cell_row rr 0).trans rfl, (cell_row rr 1).trans rfl, (cell_row rr 2).trans rfl, (cell_row rr 3).trans rfl, (cell_row rr 4).trans rfl, (cell_row rr 5).trans rfl⟩
      have hs34 : w3.heap.size < w4.heap.size := by rw [← hw4]; simp
      clear hb3 hw4
      go_wp2_with fail
      rw [HW4.out]
      refine Calls.mono (HC2.out w4 HB4.out).held ?_
      rintro x w5 ⟨rfl, hb5⟩
      have HB5 : Hid (Below w4.heap.size w4 w5) := hb5
      obtain ⟨w6, hw6⟩ : ∃ w6, w5.alloc (.cells #[.int .i64 0, .bool false, .int .i64 0, .bool false, .int .i64 0, .slice none 0 0] 37) = w6 := ⟨_, rfl⟩
      have HW6 : Hid _ := hw6
      have HB46 : Hid (Below w4.heap.size w4 w6) := by rw [← hw6]; exact hb5.alloc hb5.size _
      have HB6 : Hid (Below w2.heap.size w2 w6) := HB4.out.trans (HB46.out.mono HB4.out.size)
      have HZ6 : Hid (∀ wx, Below w6.heap.size w6 wx → wx.cell? ⟨w5.heap.size, 0, none⟩ = some (.int .i64 0) ∧ wx.cell? ⟨w5.heap.size, 1, none⟩ = some (.bool false) ∧ wx.cell? ⟨w5.heap.size, 2, none⟩ = some (.int .i64 0) ∧ wx.cell? ⟨w5.heap.size, 3, none⟩ = some (.bool false) ∧ wx.cell? ⟨w5.heap.size, 4, none⟩ = some (.int .i64 0) ∧ wx.cell? ⟨w5.heap.size, 5, none⟩ = some (.slice none 0 0)) := fun wx hb => by
        have rr := row_later (by rw [← hw6]; exact row_new w5 #[.int .i64 0, .bool false, .int .i64 0, .bool false, .int .i64 0, .slice none 0 0] 37) hb
        exact ⟨(cell_row rr 0).trans rfl, (cell_row rr 1).trans rfl, (cell_row rr 2).trans rfl, (cell_row rr 3).trans rfl, (cell_row rr 4).trans rfl, (cell_row rr 5).trans rfl⟩
      have hs56 : w5.heap.size < w6.heap.size := by rw [← hw6]; simp
      have hj5 := HJ.out w5 (HB4.out.trans (hb5.mono HB4.out.size))
      obtain ⟨c0, c1, c2, c3, c4, c5⟩ := hj5
      have hl5 : w.heap.size < w5.heap.size := by have := HB4.out.size; have := hb5.size; omega
      clear hb5 hw6
      have HP6 : Hid _ := (HC2.out w6 HB6.out).push
      unfold JV at HP6
      dsimp only at HP6
      go_wp2_with fail
      rw [HW6.out]
      refine Calls.mono HP6.out ?_
      rintro x w7 ⟨rfl, hb7⟩
      have HB67 : Hid (Below w6.heap.size w6 w7) := hb7
      have HB7 : Hid (Below w2.heap.size w2 w7) := HB6.out.trans (hb7.mono HB6.out.size)
      obtain ⟨d0, d1, d2, d3, d4, d5⟩ := HZ4.out w7 (HB46.out.trans (hb7.mono HB46.out.size))
      clear hb7 HP6 c0 c1 c2 c3 c4 c5
      go_wp2_with fail
      refine Calls.mono (HZ.out w7) ?_
      rintro x w8 ⟨rfl, hb8⟩
      have HB68 : Hid (Below w6.heap.size w6 w8) := HB67.out.trans (hb8.mono HB67.out.size)
      have HB8 : Hid (Below w2.heap.size w2 w8) := HB7.out.trans (hb8.mono HB7.out.size)
      obtain ⟨c0, c1, c2, c3, c4, c5⟩ := HJ.out w8 HB8.out
      clear hb8 d0 d1 d2 d3 d4 d5
      have HP8 : Hid _ := (HC2.out w8 HB8.out).put
      unfold JV at HP8
      dsimp only at HP8
      go_wp2_with fail
      refine Calls.mono HP8.out ?_
      rintro x w9 ⟨rfl, hb9⟩
      have HB69 : Hid (Below w6.heap.size w6 w9) := HB68.out.trans (hb9.mono HB68.out.size)
      have HB9 : Hid (Below w2.heap.size w2 w9) := HB8.out.trans (hb9.mono HB8.out.size)
      obtain ⟨d0, d1, d2, d3, d4, d5⟩ := HZ6.out w9 HB69.out
      clear hb9 HP8 c0 c1 c2 c3 c4 c5
      go_wp2_with fail
      refine Calls.mono (HC2.out w9 HB9.out).done ?_
      rintro x wx ⟨rfl, hwx⟩
      rw [hwx]
      clear hwx
      go_wp2_with fail
      refine Calls.mono (HZ.out w9) ?_
      rintro x wa ⟨rfl, hba⟩
      have HBa : Hid (Below w2.heap.size w2 wa) := HB9.out.trans (hba.mono HB9.out.size)
      obtain ⟨c0, c1, c2, c3, c4, c5⟩ := HJ.out wa HBa.out
      clear hba d0 d1 d2 d3 d4 d5
      go_wp2_with fail
      refine Calls.mono (HC2.out wa HBa.out).list ?_
      rintro x wx ⟨rfl, hwx⟩
      rw [hwx]
      clear hwx
      have HPa : Hid _ := (HC2.out wa HBa.out).drop
      dsimp only at HPa
      go_wp2_with fail
      refine Calls.mono HPa.out ?_
      rintro x wb ⟨rfl, hbb⟩
      have HBb : Hid (Below w2.heap.size w2 wb) := HBa.out.trans (hbb.mono HBa.out.size)
      clear hbb HPa c0 c1 c2 c3 c4 c5
      go_wp2_with fail
      refine Calls.mono (HC2.out wb HBb.out).len ?_
      rintro x wc ⟨rfl, hbc⟩
      have HBc : Hid (Below w2.heap.size w2 wc) := HBb.out.trans (hbc.mono HBb.out.size)
      clear hbc
      go_wp2_with fail
      refine Calls.mono (HN.out wc) ?_
      rintro x wd ⟨q, rfl, hd, hbd⟩
      have HLd : Hid _ := hd
      have HBd : Hid (Below w2.heap.size w2 wd) := HBc.out.trans (hbd.mono HBc.out.size)
      have HE2 : Hid (∀ wx, Below wd.heap.size wd wx → WErr wx (.pointer (some ⟨q, 0, none⟩)) 2 2) := fun wx hb => WErr.out (HLd.out.later hb) (.inr (by decide))
      have HE5 : Hid (∀ wx, Below wd.heap.size wd wx → WErr wx (.pointer (some ⟨q, 0, none⟩)) 5 2) := fun wx hb => WErr.out (HLd.out.later hb) (.inr (by decide))
      have HEm : Hid (∀ wx, Below wd.heap.size wd wx → WErr wx (.pointer (some ⟨q, 0, none⟩)) (-1) 2) := fun wx hb => WErr.out (HLd.out.later hb) (.inl (by decide))
      clear hd hbd
      have HTd : Hid _ := take_err 0 (HE2.out wd (Below.refl _ _))
      unfold JV zJ at HTd
      dsimp only at HTd
      go_wp2_with fail
      refine Calls.mono HTd.out ?_
      rintro x we ⟨rfl, hbe⟩
      have HBe : Hid (Below wd.heap.size wd we) := hbe
      obtain ⟨wf, hwf⟩ : ∃ wf, we.alloc (.cells #[.int .i64 0, .bool false, .int .i64 0, .bool false, .int .i64 0, .slice none 0 0] 37) = wf := ⟨_, rfl⟩
      have HWf : Hid _ := hwf
      have HBf : Hid (Below wd.heap.size wd wf) := by rw [← hwf]; exact hbe.alloc hbe.size _
      have HB2f : Hid (Below w2.heap.size w2 wf) := HBd.out.trans (HBf.out.mono HBd.out.size)
      obtain ⟨c0, c1, c2, c3, c4, c5⟩ := HJ.out we (HBd.out.trans (hbe.mono HBd.out.size))
      have hle : w.heap.size < we.heap.size := by have := HBd.out.size; have := hbe.size; omega
      clear hbe hwf HTd
      have HPf : Hid _ := push_err (e := ⟨ei, eu, et, eb, ek, es⟩) (sv := .slice sa sl sc) ⟨_, _, _, rfl⟩ (HEm.out wf HBf.out)
      unfold JV at HPf
      dsimp only at HPf
      go_wp2_with fail
      rw [HWf.out]
      refine Calls.mono HPf.out ?_
      rintro x wg ⟨rfl, hbg⟩
      have HBg : Hid (Below wd.heap.size wd wg) := HBf.out.trans (hbg.mono HBf.out.size)
      have HB2g : Hid (Below w2.heap.size w2 wg) := HBd.out.trans (HBg.out.mono HBd.out.size)
      clear hbg HPf c0 c1 c2 c3 c4 c5
      obtain ⟨c0, c1, c2, c3, c4, c5⟩ := HJ.out wg HB2g.out
      have he2 := HE2.out wg HBg.out
      have HPg : Hid _ := put_err (e := ⟨ei, eu, et, eb, ek, es⟩) (sv := .slice sa sl sc) ⟨_, _, _, rfl⟩ he2.k0 he2.p he2.holder
      unfold JV at HPg
      dsimp only at HPg
      clear he2
      go_wp2_with fail
      refine Calls.mono HPg.out ?_
      rintro x wh ⟨rfl, hbh⟩
      have HBh : Hid (Below wd.heap.size wd wh) := HBg.out.trans (hbh.mono HBg.out.size)
      have he5 := HE5.out wh HBh.out
      have HPh : Hid _ := done_err he5.k0 he5.p he5.holder
      clear hbh HPg c0 c1 c2 c3 c4 c5 he5
      go_wp2_with fail
      refine Calls.mono HPh.out ?_
      rintro x wx ⟨rfl, hwx⟩
      rw [hwx]
      clear hwx HPh
      go_wp2_with fail
      refine Calls.mono (HLv.out wh) ?_
      rintro x wi ⟨rfl, hbi⟩
      have HBi : Hid (Below wd.heap.size wd wi) := HBh.out.trans (hbi.mono HBh.out.size)
      have HB2i : Hid (Below w2.heap.size w2 wi) := HBd.out.trans (HBi.out.mono HBd.out.size)
      clear hbi
      go_wp2_with fail
      go_ret
      exact ⟨rfl, HB2.out.trans (HB2i.out.mono HB2.out.size)⟩
    | true =>
      obtain ⟨w2, hw2⟩ : ∃ w2, (w.alloc (.cells #[.int .i64 ei, .bool eu, .int .i64 et, .bool eb, .int .i64 ek, .slice sa sl sc] 37)).alloc (.cells Try.zeroCells59 59) = w2 := ⟨_, rfl⟩
      have R2 : Hid (w2.heap[w.heap.size]? = some (.cells #[.int .i64 ei, .bool eu, .int .i64 et, .bool eb, .int .i64 ek, .slice sa sl sc] 37 (0, 0))) := by rw [← hw2]; exact row_later (row_new w _ 37) (bl1 _ _)
      have HB2 : Hid (Below w.heap.size w w2) := by rw [← hw2]; exact bl2 _ _ _
      have HW2 : Hid _ := hw2
      have HNP : Hid (NoP w2 (.pointer (some ⟨w.heap.size + 1, 0, none⟩))) := by
        refine .inr ⟨w.heap.size + 1, rfl, ?_⟩
        rw [← hw2]
        have := row_new (w.alloc (.cells #[.int .i64 ei, .bool eu, .int .i64 et, .bool eb, .int .i64 ek, .slice sa sl sc] 37)) Try.zeroCells59 59
        rw [World.size_alloc] at this
        refine (cell_row this 0).trans ?_
        rw [zc59]
        rfl
      clear hw2
      go_enter Try.func6, Try.ntmps6
      go_wp2_with fail
      rw [HW2.out]
      have HJ : Hid (∀ wx, Below w2.heap.size w2 wx → wx.cell? ⟨w.heap.size, 0, none⟩ = some (.int .i64 ei) ∧ wx.cell? ⟨w.heap.size, 1, none⟩ = some (.bool eu) ∧ wx.cell? ⟨w.heap.size, 2, none⟩ = some (.int .i64 et) ∧ wx.cell? ⟨w.heap.size, 3, none⟩ = some (.bool eb) ∧ wx.cell? ⟨w.heap.size, 4, none⟩ = some (.int .i64 ek) ∧ wx.cell? ⟨w.heap.size, 5, none⟩ = some (.slice sa sl sc)) := fun wx hb => by
        have rr := row_later R2.out hb
        exact ⟨(cell_row rr 0).trans rfl, (cell_row rr 1).trans rfl, (cell_row rr 2).trans rfl, (cell_row rr 3).trans rfl, (cell_row rr 4).trans rfl, (cell_row rr 5).trans rfl⟩
      have HC2 : Hid (∀ wx, Below w2.heap.size w2 wx → NoC wx (.pointer (some ⟨w.heap.size + 1, 0, none⟩)) v ⟨ei, eu, et, eb, ek, es⟩ (.slice sa sl sc)) := fun wx hb => HC.out wx _ (HNP.out.later hb)
      have hlt2 : w.heap.size < w2.heap.size := row_lt R2.out
      refine Calls.mono (HC2.out w2 (Below.refl _ _)).take ?_
      rintro x w3 ⟨rfl, hb3⟩
      have HB3 : Hid (Below w2.heap.size w2 w3) := hb3
      obtain ⟨w4, hw4⟩ : ∃ w4, w3.alloc (.cells #[.int .i64 0, .bool false, .int .i64 0, .bool false, .int .i64 0, .slice none 0 0] 37) = w4 := ⟨_, rfl⟩
      have HW4 : Hid _ := hw4
      have HB4 : Hid (Below w2.heap.size w2 w4) := by rw [← hw4]; exact hb3.alloc hb3.size _
      have HZ4 : Hid (∀ wx, Below w4.heap.size w4 wx → wx.cell? ⟨w3.heap.size, 0, none⟩ = some (.int .i64 0) ∧ wx.cell? ⟨w3.heap.size, 1, none⟩ = some (.bool false) ∧ wx.cell? ⟨w3.heap.size, 2, none⟩ = some (.int .i64 0) ∧ wx.cell? ⟨w3.heap.size, 3, none⟩ = some (.bool false) ∧ wx.cell? ⟨w3.heap.size, 4, none⟩ = some (.int .i64 0) ∧ wx.cell? ⟨w3.heap.size, 5, none⟩ = some (.slice none 0 0)) := fun wx hb => by
        have rr := row_later (by rw [← hw4]; exact row_new w3 #[.int .i64 0, .bool false, .int .i64 0, .bool false, .int .i64 0, .slice none 0 0] 37) hb
        exact ⟨(cell_row rr 0).trans rfl, (cell_row rr 1).trans rfl, (cell_row rr 2).trans rfl, (cell_row rr 3).trans rfl, (cell_row rr 4).trans rfl, (cell_row rr 5).trans rfl⟩
      have hs34 : w3.heap.size < w4.heap.size := by rw [← hw4]; simp
      clear hb3 hw4
      go_wp2_with fail
      rw [HW4.out]
      refine Calls.mono (HC2.out w4 HB4.out).held ?_
      rintro x w5 ⟨rfl, hb5⟩
      have HB5 : Hid (Below w4.heap.size w4 w5) := hb5
      obtain ⟨w6, hw6⟩ : ∃ w6, w5.alloc (.cells #[.int .i64 0, .bool false, .int .i64 0, .bool false, .int .i64 0, .slice none 0 0] 37) = w6 := ⟨_, rfl⟩
      have HW6 : Hid _ := hw6
      have HB46 : Hid (Below w4.heap.size w4 w6) := by rw [← hw6]; exact hb5.alloc hb5.size _
      have HB6 : Hid (Below w2.heap.size w2 w6) := HB4.out.trans (HB46.out.mono HB4.out.size)
      have HZ6 : Hid (∀ wx, Below w6.heap.size w6 wx → wx.cell? ⟨w5.heap.size, 0, none⟩ = some (.int .i64 0) ∧ wx.cell? ⟨w5.heap.size, 1, none⟩ = some (.bool false) ∧ wx.cell? ⟨w5.heap.size, 2, none⟩ = some (.int .i64 0) ∧ wx.cell? ⟨w5.heap.size, 3, none⟩ = some (.bool false) ∧ wx.cell? ⟨w5.heap.size, 4, none⟩ = some (.int .i64 0) ∧ wx.cell? ⟨w5.heap.size, 5, none⟩ = some (.slice none 0 0)) := fun wx hb => by
        have rr := row_later (by rw [← hw6]; exact row_new w5 #[.int .i64 0, .bool false, .int .i64 0, .bool false, .int .i64 0, .slice none 0 0] 37) hb
        exact ⟨(cell_row rr 0).trans rfl, (cell_row rr 1).trans rfl, (cell_row rr 2).trans rfl, (cell_row rr 3).trans rfl, (cell_row rr 4).trans rfl, (cell_row rr 5).trans rfl⟩
      have hs56 : w5.heap.size < w6.heap.size := by rw [← hw6]; simp
      have hj5 := HJ.out w5 (HB4.out.trans (hb5.mono HB4.out.size))
      obtain ⟨c0, c1, c2, c3, c4, c5⟩ := hj5
      have hl5 : w.heap.size < w5.heap.size := by have := HB4.out.size; have := hb5.size; omega
      clear hb5 hw6
      have HP6 : Hid _ := (HC2.out w6 HB6.out).push
      unfold JV at HP6
      dsimp only at HP6
      go_wp2_with fail
      rw [HW6.out]
      refine Calls.mono HP6.out ?_
      rintro x w7 ⟨rfl, hb7⟩
      have HB67 : Hid (Below w6.heap.size w6 w7) := hb7
      have HB7 : Hid (Below w2.heap.size w2 w7) := HB6.out.trans (hb7.mono HB6.out.size)
      obtain ⟨d0, d1, d2, d3, d4, d5⟩ := HZ4.out w7 (HB46.out.trans (hb7.mono HB46.out.size))
      clear hb7 HP6 c0 c1 c2 c3 c4 c5
      go_wp2_with fail
      refine Calls.mono (HZ.out w7) ?_
      rintro x w8 ⟨rfl, hb8⟩
      have HB68 : Hid (Below w6.heap.size w6 w8) := HB67.out.trans (hb8.mono HB67.out.size)
      have HB8 : Hid (Below w2.heap.size w2 w8) := HB7.out.trans (hb8.mono HB7.out.size)
      obtain ⟨c0, c1, c2, c3, c4, c5⟩ := HJ.out w8 HB8.out
      clear hb8 d0 d1 d2 d3 d4 d5
      have HP8 : Hid _ := (HC2.out w8 HB8.out).put
      unfold JV at HP8
      dsimp only at HP8
      go_wp2_with fail
      refine Calls.mono HP8.out ?_
      rintro x w9 ⟨rfl, hb9⟩
      have HB69 : Hid (Below w6.heap.size w6 w9) := HB68.out.trans (hb9.mono HB68.out.size)
      have HB9 : Hid (Below w2.heap.size w2 w9) := HB8.out.trans (hb9.mono HB8.out.size)
      obtain ⟨d0, d1, d2, d3, d4, d5⟩ := HZ6.out w9 HB69.out
      clear hb9 HP8 c0 c1 c2 c3 c4 c5
      go_wp2_with fail
      refine Calls.mono (HC2.out w9 HB9.out).done ?_
      rintro x wx ⟨rfl, hwx⟩
      rw [hwx]
      clear hwx
      go_wp2_with fail
      refine Calls.mono (HZ.out w9) ?_
      rintro x wa ⟨rfl, hba⟩
      have HBa : Hid (Below w2.heap.size w2 wa) := HB9.out.trans (hba.mono HB9.out.size)
      obtain ⟨c0, c1, c2, c3, c4, c5⟩ := HJ.out wa HBa.out
      clear hba d0 d1 d2 d3 d4 d5
      go_wp2_with fail
      refine Calls.mono (HC2.out wa HBa.out).list ?_
      rintro x wx ⟨rfl, hwx⟩
      rw [hwx]
      clear hwx
      have HPa : Hid _ := (HC2.out wa HBa.out).drop
      dsimp only at HPa
      go_wp2_with fail
      refine Calls.mono HPa.out ?_
      rintro x wb ⟨rfl, hbb⟩
      have HBb : Hid (Below w2.heap.size w2 wb) := HBa.out.trans (hbb.mono HBa.out.size)
      clear hbb HPa c0 c1 c2 c3 c4 c5
      go_wp2_with fail
      refine Calls.mono (HC2.out wb HBb.out).len ?_
      rintro x wc ⟨rfl, hbc⟩
      have HBc : Hid (Below w2.heap.size w2 wc) := HBb.out.trans (hbc.mono HBb.out.size)
      clear hbc
      go_wp2_with fail
      refine Calls.mono (HN.out wc) ?_
      rintro x wd ⟨q, rfl, hd, hbd⟩
      have HLd : Hid _ := hd
      have HBd : Hid (Below w2.heap.size w2 wd) := HBc.out.trans (hbd.mono HBc.out.size)
      have HE2 : Hid (∀ wx, Below wd.heap.size wd wx → WErr wx (.pointer (some ⟨q, 0, none⟩)) 2 2) := fun wx hb => WErr.out (HLd.out.later hb) (.inr (by decide))
      have HE5 : Hid (∀ wx, Below wd.heap.size wd wx → WErr wx (.pointer (some ⟨q, 0, none⟩)) 5 2) := fun wx hb => WErr.out (HLd.out.later hb) (.inr (by decide))
      have HEm : Hid (∀ wx, Below wd.heap.size wd wx → WErr wx (.pointer (some ⟨q, 0, none⟩)) (-1) 2) := fun wx hb => WErr.out (HLd.out.later hb) (.inl (by decide))
      clear hd hbd
      have HTd : Hid _ := take_err 0 (HE2.out wd (Below.refl _ _))
      unfold JV zJ at HTd
      dsimp only at HTd
      go_wp2_with fail
      refine Calls.mono HTd.out ?_
      rintro x we ⟨rfl, hbe⟩
      have HBe : Hid (Below wd.heap.size wd we) := hbe
      obtain ⟨wf, hwf⟩ : ∃ wf, we.alloc (.cells #[.int .i64 0, .bool false, .int .i64 0, .bool false, .int .i64 0, .slice none 0 0] 37) = wf := ⟨_, rfl⟩
      have HWf : Hid _ := hwf
      have HBf : Hid (Below wd.heap.size wd wf) := by rw [← hwf]; exact hbe.alloc hbe.size _
      have HB2f : Hid (Below w2.heap.size w2 wf) := HBd.out.trans (HBf.out.mono HBd.out.size)
      obtain ⟨c0, c1, c2, c3, c4, c5⟩ := HJ.out we (HBd.out.trans (hbe.mono HBd.out.size))
      have hle : w.heap.size < we.heap.size := by have := HBd.out.size; have := hbe.size; omega
      clear hbe hwf HTd
      have HPf : Hid _ := push_err (e := ⟨ei, eu, et, eb, ek, es⟩) (sv := .slice sa sl sc) ⟨_, _, _, rfl⟩ (HEm.out wf HBf.out)
      unfold JV at HPf
      dsimp only at HPf
      go_wp2_with fail
      rw [HWf.out]
      refine Calls.mono HPf.out ?_
      rintro x wg ⟨rfl, hbg⟩
      have HBg : Hid (Below wd.heap.size wd wg) := HBf.out.trans (hbg.mono HBf.out.size)
      have HB2g : Hid (Below w2.heap.size w2 wg) := HBd.out.trans (HBg.out.mono HBd.out.size)
      clear hbg HPf c0 c1 c2 c3 c4 c5
      obtain ⟨c0, c1, c2, c3, c4, c5⟩ := HJ.out wg HB2g.out
      have he2 := HE2.out wg HBg.out
      have HPg : Hid _ := put_err (e := ⟨ei, eu, et, eb, ek, es⟩) (sv := .slice sa sl sc) ⟨_, _, _, rfl⟩ he2.k0 he2.p he2.holder
      unfold JV at HPg
      dsimp only at HPg
      clear he2
      go_wp2_with fail
      refine Calls.mono HPg.out ?_
      rintro x wh ⟨rfl, hbh⟩
      have HBh : Hid (Below wd.heap.size wd wh) := HBg.out.trans (hbh.mono HBg.out.size)
      have he5 := HE5.out wh HBh.out
      have HPh : Hid _ := done_err he5.k0 he5.p he5.holder
      clear hbh HPg c0 c1 c2 c3 c4 c5 he5
      go_wp2_with fail
      refine Calls.mono HPh.out ?_
      rintro x wx ⟨rfl, hwx⟩
      rw [hwx]
      clear hwx HPh
      go_wp2_with fail
      refine Calls.mono (HLv.out wh) ?_
      rintro x wi ⟨rfl, hbi⟩
      have HBi : Hid (Below wd.heap.size wd wi) := HBh.out.trans (hbi.mono HBh.out.size)
      have HB2i : Hid (Below w2.heap.size w2 wi) := HBd.out.trans (HBi.out.mono HBd.out.size)
      clear hbi
      go_wp2_with fail
      go_ret
      exact ⟨rfl, HB2.out.trans (HB2i.out.mono HB2.out.size)⟩
  · have hl2 : (100 : Int) < (sl : Int) := by omega
    have hdd : decide ((100 : Int) < (sl : Int)) = true := decide_eq_true hl2
    go_enter Try.func6, Try.ntmps6
    go_wp2_with fail
    refine Calls.mono (HLv.out _) ?_
    rintro x w2 ⟨rfl, hb2⟩
    have HB2 : Hid (Below w.heap.size w w2) := (bl1 w _).trans (hb2.mono (bl1 w _).size)
    clear hb2
    go_wp2_with fail
    go_ret
    exact ⟨rfl, HB2.out⟩
end Go.Proofs.Ytfhmmiilenonkaa
