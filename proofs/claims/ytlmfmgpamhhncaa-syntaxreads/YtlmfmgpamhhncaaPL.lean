/- Texts of the seat, packed: Uh. -/
import Derived.Test.YtlmfmgpamhhncaaPK
import Derived.Deep.CutRange
/- The document's reader: a node, walked. -/
namespace Go.Proofs.Ytlmfmgpamhhncaa
open Go.RowKit

/-- What was got, or where it can't follow. -/
def Bdy {α : Type} (g : Got α) (t : α) (j : Nat) (bad : Bool) : Prop := if bad then g = .no j else g = .ok t j

/-- The contract of the document's bodies. -/
def BoF (L : List By) (rb cap : Nat) (a : Option Addr) (f : Nat) : Prop := ∀ (w : World) (i : Nat) (bad : Bool), RF w rb a cap L i bad → L.length ≤ i + f →
  Calls Try.prog 31 #[.pointer (some ⟨rb, 0, none⟩)] w fun e w' => Ke rb w w' ∧ ∃ t v j bad', e = .returned v ∧ BsR (fun b => w.heap.size ≤ b) w' true t v ∧ RF w' rb a cap L j bad' ∧ i ≤ j ∧ Bdy (if bad then .no i else brace L (rd nmP L f true) i) t j bad'

/-- The contract of the document's node. -/
def NodeF (L : List By) (rb cap : Nat) (a : Option Addr) (f : Nat) : Prop := ∀ (w : World) (i : Nat), RF w rb a cap L i false → L.length ≤ i + f →
  Calls Try.prog 60 #[.pointer (some ⟨rb, 0, none⟩)] w fun e w' => Ke rb w w' ∧ ∃ l t v j bad', e = .returned v ∧ NodeV (fun b => w.heap.size ≤ b) w' l t v ∧ RF w' rb a cap L j bad' ∧ i ≤ j ∧ Bdy (rNode nmP L (brace L (rd nmP L f true)) i) (l, t) j bad'

theorem may_ok (w : World) (rb cap i : Nat) (a : Option Addr) (L : List By) (s : By) (h : RF w rb a cap L i false) :
    Calls Try.prog 57 #[.pointer (some ⟨rb, 0, none⟩), .string ⟨s.toArray⟩] w fun e w' => e = .returned (.bool (isT L i s)) ∧ Ke rb w w' ∧ RF w' rb a cap L (if isT L i s then i + 1 else i) false := by
  have := may_rf w rb cap i a L false s h
  simpa using this

theorem must_ok (w : World) (rb cap i : Nat) (a : Option Addr) (L : List By) (s : By) (h : RF w rb a cap L i false) :
    Calls Try.prog 29 #[.pointer (some ⟨rb, 0, none⟩), .string ⟨s.toArray⟩] w fun e w' => e = .returned (.tuple #[]) ∧ Ke rb w w' ∧ RF w' rb a cap L (if isT L i s then i + 1 else i) (!isT L i s) := by
  have := must_rf w rb cap i a L false s h
  simpa using this

set_option maxRecDepth 1000000 in
set_option maxHeartbeats 4000000 in
theorem node_rf (L : List By) (rb cap : Nat) (a : Option Addr) (f : Nat) (hx : ∀ x ∈ L, x.length ≤ 65536) (HB0 : BoF L rb cap a f) : NodeF L rb cap a f := by
  intro w i h hfu
  have HX : Hid (∀ x ∈ L, x.length ≤ 65536) := hx
  have HB : Hid (BoF L rb cap a f) := HB0
  have hrlt := h.rlt
  have hfew := h.few
  have hle := h.le
  obtain ⟨G, HG⟩ : ∃ G, Hid (G = rNode nmP L (brace L (rd nmP L f true)) i) := ⟨_, rfl⟩
  rw [← HG.out]
  obtain ⟨alts, HAl⟩ : ∃ alts, Hid (alts = brace L (rd nmP L f true)) := ⟨_, rfl⟩
  have HGk := HG
  rw [← HAl.out] at HGk
  have HG2 : Hid (G = _) := HGk.out.trans (rNode_k L alts i)
  have hB0 : Below w.heap.size w ((w.alloc (.cells #[.string ⟨#[]⟩, .string ⟨#[]⟩, .slice none 0 0, .bool false, .bool false, .slice none 0 0] 80)).alloc (.cells #[.string ⟨#[]⟩, .string ⟨#[]⟩, .slice none 0 0, .bool false, .bool false, .slice none 0 0] 80)) := ((Below.refl _ w).alloc (Nat.le_refl _) _).alloc (by simp) _
  have N0 : NdS w ((w.alloc (.cells #[.string ⟨#[]⟩, .string ⟨#[]⟩, .slice none 0 0, .bool false, .bool false, .slice none 0 0] 80)).alloc (.cells #[.string ⟨#[]⟩, .string ⟨#[]⟩, .slice none 0 0, .bool false, .bool false, .slice none 0 0] 80)) rb cap a L i false [] [] [] (.slice none 0 0) false false := by
    refine ⟨h.keep hB0, Ke.of_below hB0, row_alloc (row_new w _ 80) _, ?_, World.ownsRow_nil _ _ _ _, Nat.zero_le _, by simp, hrlt, h.tlt⟩
    have := row_new (w.alloc (.cells #[.string ⟨#[]⟩, .string ⟨#[]⟩, .slice none 0 0, .bool false, .bool false, .slice none 0 0] 80)) #[.string ⟨#[]⟩, .string ⟨#[]⟩, .slice none 0 0, .bool false, .bool false, .slice none 0 0] 80
    rwa [World.size_alloc] at this
  have M1 : Hid _ := may_ok _ rb cap i a L wVital N0.rf
  have HN0 : Hid _ := N0
  have HTl : Hid (Tlt a L w.heap.size) := h.tlt
  obtain ⟨i9, hi9, hz0, hz1, hz2⟩ := info_parts Try.info9
  clear h hx HB0 hB0 N0 HGk
  go_enter Try.func60, Try.ntmps60
  go_wp2_with fail
  refine Calls.mono M1.out ?_
  rintro e w1 ⟨rfl, k1', r1⟩
  have N1 := HN0.out.go k1' r1 (by split <;> omega)
  clear M1 HN0 k1' r1
  generalize hvt : isT L i wVital = vt at *
  have HVt : Hid (isT L i wVital = vt) := hvt
  clear hvt
  have c4 := (cell_row N1.nd 4).trans rfl
  have f4 := froz_row N1.nd 4
  have N2 := N1.set 4 (.bool vt) [] [] false vt rfl
  have HN2 : Hid (NdS w (w1.setCell ⟨w.heap.size + 1, 4, none⟩ (.bool vt)) rb cap a L (if vt then i + 1 else i) false [] [] [] (.slice none 0 0) false vt) := N2
  clear N1 N2
  go_upto_region 3 with fail
  clear c4 f4
  generalize w1.setCell ⟨w.heap.size + 1, 4, none⟩ (.bool vt) = w2 at *
  -- Sub
  go_cut [] from 4 (fun wx => ∃ (sub : Bool) (i1 : Nat), Hid (NdS w wx rb cap a L i1 false [] [] [] (.slice none 0 0) sub vt) ∧ Hid (sub = (vt || isT L i wLoose)) ∧ Hid (i1 = if sub then i + 1 else i))
  case first =>
    have c4 := (cell_row HN2.out.nd 4).trans rfl
    cases vt with
    | true =>
      have c3 := (cell_row HN2.out.nd 3).trans rfl
      have f3 := froz_row HN2.out.nd 3
      have HN3 : Hid _ := HN2.out.set 3 (.bool true) [] [] true true rfl
      go_wp2_with fail
      go_meet
      exact ⟨true, i + 1, HN3, rfl, rfl⟩
    | false =>
      have M2 : Hid _ := may_ok w2 rb cap i a L wLoose HN2.out.rf
      go_wp2_with fail
      refine Calls.mono M2.out ?_
      rintro e w3 ⟨rfl, k3', r3⟩
      have N3 := HN2.out.go k3' r3 (by simp; split <;> omega)
      have c3 := (cell_row N3.nd 3).trans rfl
      have f3 := froz_row N3.nd 3
      have HN4 : Hid _ := N3.set 3 (.bool (isT L i wLoose)) [] [] (isT L i wLoose) false rfl
      clear N3 k3' r3 M2 HN2
      go_wp2_with fail
      go_meet
      exact ⟨isT L i wLoose, _, HN4, by show _ = _; simp, rfl⟩
  case rest =>
  obtain ⟨sub, i1, HN3, HSub, HI1⟩ := hcut
  clear HN2
  have c3 := (cell_row HN3.out.nd 3).trans rfl
  have hi1 : i ≤ i1 := by have := HI1.out; split at this <;> omega
  go_upto_if 15 with fail
  clear c3
  -- the first words
  go_cut [] from 4 (fun wx => ∃ (i2 : Nat) (bad : Bool), i ≤ i2 ∧ Hid (NdS w wx rb cap a L i2 bad [] [] [] (.slice none 0 0) sub vt) ∧ Hid (Stt G (kd1 L alts sub vt) i2 bad))
  case first =>
    cases sub with
    | true =>
      have hi1' : i1 = i + 1 := HI1.out
      subst hi1'
      have M2 : Hid _ := must_ok wc rb cap (i + 1) a L wSub HN3.out.rf
      have hst : isT L i wStep = false := by
        have h1 : (vt || isT L i wLoose) = true := HSub.out.symm
        have h2 := HVt.out
        cases vt with
        | true => simp only [isT, beq_iff_eq] at h2; simp only [isT, h2]; decide
        | false => simp only [Bool.false_or, isT, beq_iff_eq] at h1; simp only [isT, h1]; decide
      have hG : G = if isT L (i + 1) wSub then kd1 L alts true vt (i + 2) else .no (i + 1) := by
        have := HG2.out
        rw [hst, ← HSub.out] at this
        simpa using this
      have HGs : Hid _ := hG
      clear hG hst
      go_wp2_with fail
      refine Calls.mono M2.out ?_
      rintro e w3 ⟨rfl, k3', r3⟩
      have HN4 : Hid _ := HN3.out.go k3' r3 (by split <;> omega)
      clear M2 k3' r3 HN3
      go_wp2_with fail
      go_meet
      refine ⟨_, _, ?_, HN4, ?_⟩
      · split <;> omega
      · show Stt G _ _ _
        have := HGs.out
        cases hs : isT L (i + 1) wSub with
        | true => rw [hs] at this; exact this
        | false => rw [hs] at this; exact this
    | false =>
      have hi1' : i1 = i := HI1.out
      subst hi1'
      have M2 : Hid _ := must_ok wc rb cap i1 a L wStep HN3.out.rf
      have hG : G = if isT L i1 wStep then kd1 L alts false vt (i1 + 1) else .no i1 := by
        have hv : (vt || isT L i1 wLoose) = false := HSub.out.symm
        have h3 : vt = false := by cases vt <;> simp_all
        have := HG2.out
        rw [hv] at this
        rw [h3]
        simpa using this
      have HGs : Hid _ := hG
      clear hG
      go_wp2_with fail
      refine Calls.mono M2.out ?_
      rintro e w3 ⟨rfl, k3', r3⟩
      have HN4 : Hid _ := HN3.out.go k3' r3 (by split <;> omega)
      clear M2 k3' r3 HN3
      go_wp2_with fail
      go_meet
      refine ⟨_, _, ?_, HN4, ?_⟩
      · split <;> omega
      · show Stt G _ _ _
        have := HGs.out
        cases hs : isT L i1 wStep with
        | true => rw [hs] at this; exact this
        | false => rw [hs] at this; exact this
  case rest =>
  obtain ⟨i2, bad2, hi2, HN4, HS4⟩ := hcut
  clear HN3 HSub HI1 HG2 HVt hi1 i1
  rename World => w4
  -- the name
  have M3 : Hid _ := name_rf w4 rb cap i2 a L bad2 HN4.out.rf HX.out
  have hat := nmF_at L i2 bad2 HN4.out.rf.le
  have HS5 : Hid _ := stt_name HS4.out
  go_wp2_with fail
  refine Calls.mono M3.out ?_
  rintro e w5 ⟨rfl, k5', r5⟩
  generalize (nmF L i2 bad2).1 = x at *
  generalize (nmF L i2 bad2).2.1 = i3 at *
  generalize (nmF L i2 bad2).2.2 = bad3 at *
  have N5 := HN4.out.go k5' r5 hat.1
  have c0 := (cell_row N5.nd 0).trans rfl
  have f0 := froz_row N5.nd 0
  have HN6 : Hid (NdS w (w5.setCell ⟨w.heap.size + 1, 0, none⟩ (.string ⟨x.toArray⟩)) rb cap a L i3 bad3 x [] [] (.slice none 0 0) sub vt) := N5.set 0 (.string ⟨x.toArray⟩) x [] sub vt rfl
  have hi3 : i ≤ i3 := by have := hat.1; omega
  clear N5 k5' r5 M3 HN4 HS4 hat
  go_upto_region 8 with fail
  clear c0 f0
  generalize w5.setCell ⟨w.heap.size + 1, 0, none⟩ (.string ⟨x.toArray⟩) = w6 at *
  -- is it undone?
  go_cut [29] from 4 (fun s29 wx => ∃ (q : Bool) (i4 : Nat), s29 = .bool q ∧ i ≤ i4 ∧ Hid (NdS w wx rb cap a L i4 bad3 x [] [] (.slice none 0 0) sub vt) ∧ Hid (q = (!sub && (!bad3 && isT L i3 wUndo))) ∧ Hid (i4 = if q then i3 + 1 else i3))
  case first =>
    have c3 := (cell_row HN6.out.nd 3).trans rfl
    cases sub with
    | true =>
      go_wp2_with fail
      go_meet
      exact ⟨false, i3, rfl, hi3, HN6, rfl, rfl⟩
    | false =>
      have M4 : Hid _ := may_rf w6 rb cap i3 a L bad3 wUndo HN6.out.rf
      go_wp2_with fail
      refine Calls.mono M4.out ?_
      rintro e w7 ⟨rfl, k7', r7⟩
      have HN7 : Hid _ := HN6.out.go k7' r7 (by split <;> omega)
      generalize (!bad3 && isT L i3 wUndo) = q at *
      clear M4 k7' r7 HN6
      go_wp2_with fail
      go_meet
      exact ⟨q, _, rfl, by split <;> omega, HN7, rfl, rfl⟩
  case rest =>
  obtain ⟨q, i4, rfl, hi4, HN7, HQ, HI4⟩ := hcut
  clear HN6
  rename World => w7
  -- by what
  go_upto_if 29 with fail
  go_cut [] from 4 (fun wx => ∃ (u : By) (i5 : Nat) (bad : Bool), i ≤ i5 ∧ Hid (NdS w wx rb cap a L i5 bad x u [] (.slice none 0 0) sub vt) ∧ Hid (Stt G (kd3 L alts sub vt x u) i5 bad))
  case first =>
    cases q with
    | true =>
      have hi4' : i4 = i3 + 1 := HI4.out
      subst hi4'
      have M4 : Hid _ := name_rf w7 rb cap (i3 + 1) a L bad3 HN7.out.rf HX.out
      have hat := nmF_at L (i3 + 1) bad3 HN7.out.rf.le
      have HS6 : Hid _ := stt_undo HS5.out HQ.out.symm
      go_wp2_with fail
      refine Calls.mono M4.out ?_
      rintro e w8 ⟨rfl, k8', r8⟩
      generalize (nmF L (i3 + 1) bad3).1 = u at *
      generalize (nmF L (i3 + 1) bad3).2.1 = i5 at *
      generalize (nmF L (i3 + 1) bad3).2.2 = bad5 at *
      have N8 := HN7.out.go k8' r8 hat.1
      have c1 := (cell_row N8.nd 1).trans rfl
      have f1 := froz_row N8.nd 1
      have HN9 : Hid _ := N8.set 1 (.string ⟨u.toArray⟩) x u sub vt rfl
      have hi5 : i ≤ i5 := by have := hat.1; omega
      clear N8 k8' r8 M4 hat HN7
      go_wp2_with fail
      go_meet
      exact ⟨u, i5, bad5, hi5, HN9, HS6⟩
    | false =>
      have hi4' : i4 = i3 := HI4.out
      subst hi4'
      have HS6 : Hid _ := stt_nundo HS5.out HQ.out.symm
      go_wp2_with fail
      go_meet
      exact ⟨[], i4, bad3, hi4, HN7, HS6⟩
  case rest =>
  obtain ⟨u, i5, bad5, hi5, HN9, HS6⟩ := hcut
  clear HN7 HQ HI4 HS5 hi4 hi3 hi2 i4 i2 bad2
  rename World => w9
  -- the leanings
  have M5 : Hid _ := may_rf w9 rb cap i5 a L bad5 wAfter HN9.out.rf
  go_wp2_with fail
  refine Calls.mono M5.out ?_
  rintro e w10 ⟨rfl, k10, r10⟩
  have HN10 : Hid _ := HN9.out.go k10 r10 (by split <;> omega)
  generalize hq : (!bad5 && isT L i5 wAfter) = q2 at *
  have HQ2 : Hid _ := hq
  clear M5 k10 r10 HN9 hq
  go_upto_if 34 with fail
  go_cut [] from 4 (fun wx => ∃ (af : List By) (afv : Value) (i6 : Nat) (bad : Bool), i ≤ i6 ∧ Hid (NdS w wx rb cap a L i6 bad x u af afv sub vt) ∧ Hid (Stt G (kd4 L alts sub vt x u af) i6 bad))
  case first =>
    cases q2 with
    | false =>
      have HS7 : Hid _ := stt_nlean HS6.out HQ2.out
      go_wp2_with fail
      go_meet
      exact ⟨[], .slice none 0 0, i5, bad5, hi5, HN10, HS7⟩
    | true =>
      have hb5 : bad5 = false := by have := HQ2.out; simp at this; exact this.1
      have hlt5 : i5 < L.length := isT_lt L (by have := HQ2.out; simp at this; exact this.2)
      have HS8 : Hid _ := stt_lean HS6.out HQ2.out
      -- the first one
      go_upto_region 11 with fail
      go_cut [] from 4 (fun wx => ∃ (af : List By) (afv : Value) (i6 : Nat) (bad : Bool), i ≤ i6 ∧ Hid (NdS w wx rb cap a L i6 bad x u af afv sub vt) ∧ Hid (Stt G (kd5 L alts sub vt x u af (L.length + 1)) i6 bad))
      case first =>
        have hat := nmF_at L (i5 + 1) bad5 (by omega)
        have HNm : Hid _ := name_rf w10.drew rb cap (i5 + 1) a L bad5 HN10.out.rf.drew HX.out
        have hsz := HN10.out.sz
        obtain ⟨af, haf⟩ : ∃ af : List By, Hid (af = []) := ⟨_, rfl⟩
        obtain ⟨afv, hafv⟩ : ∃ afv : Value, Hid (afv = .slice none 0 0) := ⟨_, rfl⟩
        rw [← haf.out, ← hafv.out] at HN10
        have HAf : Hid (af.length = 0) := by rw [haf.out]; rfl
        have haf5 : af.length ≤ 5 := by have := HAf.out; omega
        have HSy : Hid (Stt G (kd5 L alts sub vt x u (af ++ [(nmF L (i5 + 1) bad5).1]) (L.length + 1)) (nmF L (i5 + 1) bad5).2.1 (nmF L (i5 + 1) bad5).2.2) := by rw [haf.out]; exact HS8
        clear haf hafv HS8
        generalize (nmF L (i5 + 1) bad5).1 = y at *
        generalize (nmF L (i5 + 1) bad5).2.1 = i7 at *
        generalize (nmF L (i5 + 1) bad5).2.2 = bad7 at *
        have c0 := (cell_row HN10.out.nd 2).trans rfl
        go_region_law (first
          | (refine step_append_own rfl (.tmp 36) (.tmp 39) 78 rfl (w.heap.size + 2) 9 i9 _ 1 16 Try.underlying78 hi9 hz0 hz1 hz2 rfl (by decide) afv af.length (svs af) rfl (ho4.alloc _) ⟨w14.heap.size, 0, none⟩ 1 1 [.string ⟨y.toArray⟩] rfl rfl (new_cells w14 [.string ⟨y.toArray⟩] 9) (by simp [Value.oneCell']) (by unfold maxLen; omega) (by omega) (by simp; omega) ?_
             intro v5 w5 ho5 hg5 hat5
             have nb5 : w5.heap[w.heap.size + 1]? = some (.cells #[.string ⟨x.toArray⟩, .string ⟨u.toArray⟩, afv, .bool sub, .bool vt, .slice none 0 0] 80 (0, 0)) := (hg5.block _ (by simp; omega) (fun he => by have := (ho4.lt _ he.symm).1; omega)).trans (row_alloc nb4 _)
             have c5 := (cell_row nb5 2).trans rfl
             have f5 := froz_row nb5 2
             obtain ⟨g5, cap5, rfl⟩ := ownsRow_succ' ho5)
          | (go_simp
             go_at_call 30
             refine Calls.mono HNm.out ?_
             rintro e w14 ⟨rfl, k4, r4⟩
             have k4' := k4.undrew
             have hz4 := k4'.size
             have nb4 := row_ke HN10.out.nd k4' (by omega)
             have c4 := (cell_row nb4 2).trans rfl
             have ho4 := own_ke HN10.out.own k4' (by omega)
             have ca4 : ∀ o, (w14.alloc o).cell? ⟨w.heap.size + 1, 2, none⟩ = some afv := fun o => (cell_row (row_alloc nb4 o) 2).trans rfl
             dsimp only))
        all_goals
          have HN12 : Hid _ := HN10.out.push k4' r4 hat.1 (by have := HAf.out; have := hat.1; omega) hg5 ho5
          have hi7 : i ≤ i7 := by have := hat.1; omega
          clear HN10 HNm
          go_wp2_with fail
          go_meet
          exact ⟨_, _, i7, bad7, hi7, HN12, HSy⟩
      case rest =>
      obtain ⟨af, afv, i7, bad7, hi7, HN12, HS9⟩ := hcut
      clear HN10 HS8 HS6 HQ2 hb5 hlt5
      rename World => w12
      go_wp2_with fail
      go_loopw [] (fun wr => ∃ (af : List By) (afv : Value) (i7 : Nat) (bad7 : Bool) (f' : Nat), i ≤ i7 ∧ L.length < i7 + f' ∧ Hid (NdS w wr rb cap a L i7 bad7 x u af afv sub vt) ∧ Hid (Stt G (kd5 L alts sub vt x u af f') i7 bad7)) (fun wr => L.length + 1 - nx wr rb)
      case atStart => exact ⟨af, afv, i7, bad7, L.length + 1, hi7, by omega, HN12, HS9⟩
      case round =>
        clear HN12 HS9 hi7 af afv i7 bad7
        obtain ⟨af, afv, i7, bad7, f', hi7, hff, HN12, HS9⟩ := hrel
        rename World => w13
        have hle7 := HN12.out.rf.le
        obtain ⟨f'', rfl⟩ : ∃ f'', f' = f'' + 1 := ⟨f' - 1, by omega⟩
        have M6 : Hid _ := may_rf w13 rb cap i7 a L bad7 mAnd HN12.out.rf
        have hnx : nx w13 rb = i7 := nxF HN12.out.rf
        go_wp2_with fail
        refine Calls.mono M6.out ?_
        rintro e w15 ⟨rfl, k15, r15⟩
        have HN13 : Hid _ := HN12.out.go k15 r15 (by split <;> omega)
        generalize hq : (!bad7 && isT L i7 mAnd) = q3 at *
        have HQ3 : Hid _ := hq
        have hf7 := HN12.out.few
        clear M6 k15 r15 HN12 hq
        cases q3 with
        | false =>
          have HS10 : Hid _ := stt_nmore HS9.out HQ3.out
          go_wp2_with fail
          go_meet
          exact ⟨af, afv, i7, bad7, hi7, HN13, HS10⟩
        | true =>
          have hlt7 : i7 < L.length := isT_lt L (by have := HQ3.out; simp at this; exact this.2)
          have HSy : Hid _ := stt_more HS9.out HQ3.out
          have hat := nmF_at L (i7 + 1) bad7 (by omega)
          have HNm : Hid _ := name_rf w15.drew rb cap (i7 + 1) a L bad7 HN13.out.rf.drew HX.out
          have hsz := HN13.out.sz
          generalize (nmF L (i7 + 1) bad7).1 = y at *
          generalize (nmF L (i7 + 1) bad7).2.1 = i8 at *
          generalize (nmF L (i7 + 1) bad7).2.2 = bad8 at *
          have c0 := (cell_row HN13.out.nd 2).trans rfl
          clear HQ3 HS9
          go_wp2_with fail
          go_region_law (first
            | (refine step_append_own rfl (.tmp 45) (.tmp 48) 78 rfl (w.heap.size + 2) 9 i9 _ 1 16 Try.underlying78 hi9 hz0 hz1 hz2 rfl (by decide) afv af.length (svs af) rfl (ho4.alloc _) ⟨w14.heap.size, 0, none⟩ 1 1 [.string ⟨y.toArray⟩] rfl rfl (new_cells w14 [.string ⟨y.toArray⟩] 9) (by simp [Value.oneCell']) (by unfold maxLen; omega) (by omega) (by simp; omega) ?_
               intro v5 w5 ho5 hg5 hat5
               have nb5 : w5.heap[w.heap.size + 1]? = some (.cells #[.string ⟨x.toArray⟩, .string ⟨u.toArray⟩, afv, .bool sub, .bool vt, .slice none 0 0] 80 (0, 0)) := (hg5.block _ (by simp; omega) (fun he => by have := (ho4.lt _ he.symm).1; omega)).trans (row_alloc nb4 _)
               have c5 := (cell_row nb5 2).trans rfl
               have f5 := froz_row nb5 2
               obtain ⟨g5, cap5, rfl⟩ := ownsRow_succ' ho5)
            | (go_simp
               go_at_call 30
               refine Calls.mono HNm.out ?_
               rintro e w14 ⟨rfl, k4, r4⟩
               have k4' := k4.undrew
               have hz4 := k4'.size
               have nb4 := row_ke HN13.out.nd k4' (by omega)
               have c4 := (cell_row nb4 2).trans rfl
               have ho4 := own_ke HN13.out.own k4' (by omega)
               have ca4 : ∀ o, (w14.alloc o).cell? ⟨w.heap.size + 1, 2, none⟩ = some afv := fun o => (cell_row (row_alloc nb4 o) 2).trans rfl
               dsimp only))
          all_goals
            have HN14 : Hid _ := HN13.out.push k4' r4 hat.1 (by omega) hg5 ho5
            have hi8 : i ≤ i8 := by have := hat.1; omega
            have hn8 : nx (w5.setCell ⟨w.heap.size + 1, 2, none⟩ (.slice (some ⟨g5, 0, none⟩) (af.length + 1) cap5)) rb = i8 := nxF HN14.out.rf
            have h78 := hat.1
            clear HN13 HNm
            go_wp2_with fail
            go_roundw
            case rel => exact ⟨_, _, i8, bad8, f'', hi8, by omega, HN14, HSy⟩
            case measure =>
              rw [hn8, hnx]
              omega
  case rest =>
  obtain ⟨af, afv, i6, bad6, hi6, HN11, HS7⟩ := hcut
  clear HN10 HQ2 HS6 hi5 i5 bad5
  rename World => w11
  have c3 := (cell_row HN11.out.nd 3).trans rfl
  go_upto_if 52 with fail
  clear c3
  go_cut [] from 4 (fun wx => ∃ (altv : Value) (t : Tr) (j : Nat) (bad : Bool), i ≤ j ∧ Hid (RF wx rb a cap L j bad) ∧ Hid (Ke rb w wx) ∧ Hid (wx.heap[w.heap.size]? = some (.cells #[.string ⟨#[]⟩, .string ⟨#[]⟩, .slice none 0 0, .bool false, .bool false, .slice none 0 0] 80 (0, 0))) ∧
      Hid (wx.heap[w.heap.size + 1]? = some (.cells #[.string ⟨x.toArray⟩, .string ⟨u.toArray⟩, afv, .bool sub, .bool vt, altv] 80 (0, 0))) ∧ Hid (NodeV (fun b => w.heap.size + 2 ≤ b) wx ⟨x, u, af, sub, vt⟩ t (.agg #[.string ⟨x.toArray⟩, .string ⟨u.toArray⟩, afv, .bool sub, .bool vt, altv])) ∧ Hid (Bdy G (⟨x, u, af, sub, vt⟩, t) j bad))
  case first =>
    have HS0 : Hid _ := SAt.of_own HN11.out.own
    cases sub with
    | true =>
      have M6 : Hid _ := HB.out w11 i6 bad6 HN11.out.rf (by omega)
      go_wp2_with fail
      refine Calls.mono M6.out ?_
      rintro e w12 ⟨k12, t, v, j, bad', rfl, ⟨ta, tc, rfl, ht⟩, r12, hj, hbd⟩
      have hz := k12.size
      have hsz := HN11.out.sz
      have N12 := HN11.out.go k12 r12 hj
      have c5 := (cell_row N12.nd 5).trans rfl
      have f5 := froz_row N12.nd 5
      have hnd : (w12.setCell ⟨w.heap.size + 1, 5, none⟩ (.slice ta t.len tc)).heap[w.heap.size + 1]? = some (.cells #[.string ⟨x.toArray⟩, .string ⟨u.toArray⟩, afv, .bool true, .bool vt, .slice ta t.len tc] 80 (0, 0)) := row_set N12.nd 5 _
      have HND : Hid _ := hnd
      have HR12 : Hid (RF (w12.setCell ⟨w.heap.size + 1, 5, none⟩ (.slice ta t.len tc)) rb a cap L j bad') := N12.rf.setFar N12.tl _ (by omega) (by omega)
      have HK12 : Hid (Ke rb w (w12.setCell ⟨w.heap.size + 1, 5, none⟩ (.slice ta t.len tc))) := N12.ke.setFar _ (by omega)
      have HRes : Hid _ := row_other (c := w.heap.size + 1) (i := 5) N12.res (.slice ta t.len tc) (by omega)
      obtain ⟨sa, sc, rfl, hs⟩ := HS0.out
      have hs12 : SAt (fun b => w.heap.size + 2 ≤ b) (w12.setCell ⟨w.heap.size + 1, 5, none⟩ (.slice ta t.len tc)) af sa af.length := (hs.keep (Q := fun b => w.heap.size + 2 ≤ b) (Keeps.of_ke k12 (by omega)) (fun _ h _ => h)).keep (Keeps.setCell _ _ (by omega)) (fun _ h _ => h)
      have ht12 : TAt (fun b => w.heap.size + 2 ≤ b) (w12.setCell ⟨w.heap.size + 1, 5, none⟩ (.slice ta t.len tc)) true t ta 0 t.len := ht.keep (Keeps.setCell _ _ (by omega)) (fun _ h _ => by omega) _ _ _ _ _
      have HV : Hid (NodeV (fun b => w.heap.size + 2 ≤ b) (w12.setCell ⟨w.heap.size + 1, 5, none⟩ (.slice ta t.len tc)) ⟨x, u, af, true, vt⟩ t (.agg #[.string ⟨x.toArray⟩, .string ⟨u.toArray⟩, .slice sa af.length sc, .bool true, .bool vt, .slice ta t.len tc])) := ⟨sa, _, sc, ta, _, tc, rfl, hs12, ht12⟩
      have HBd : Hid (Bdy G (⟨x, u, af, true, vt⟩, t) j bad') := by
        show Bdy G _ j bad'
        have h7 := HS7.out
        cases bad6 with
        | true =>
          have hg := h7.no
          simp only [if_true] at hbd
          cases bad' with
          | true => have : Got.no i6 = Got.no (α := Tr) j := hbd; cases this; exact hg
          | false => have : Got.no i6 = Got.ok t j := hbd; cases this
        | false =>
          have hg := h7.ok
          simp only [Bool.false_eq_true, if_false] at hbd
          unfold kd4 at hg
          rw [if_pos rfl, HAl.out] at hg
          cases bad' with
          | true => have hb' : brace L (rd nmP L f true) i6 = .no j := hbd; rw [hb'] at hg; exact hg
          | false => have hb' : brace L (rd nmP L f true) i6 = .ok t j := hbd; rw [hb'] at hg; exact hg
      have hij : i ≤ j := by omega
      clear N12 hnd hs ht hs12 ht12 hbd k12 r12 M6 HN11 HS0 HS7
      go_wp2_with fail
      go_meet
      exact ⟨_, t, j, bad', hij, HR12, HK12, HRes, HND, HV, HBd⟩
    | false =>
      have M6 : Hid _ := must_rf w11 rb cap i6 a L bad6 mEnd HN11.out.rf
      go_wp2_with fail
      refine Calls.mono M6.out ?_
      rintro e w12 ⟨rfl, k12, r12⟩
      have hz := k12.size
      have hsz := HN11.out.sz
      have N12 := HN11.out.go k12 r12 (by split <;> omega)
      have HND : Hid _ := N12.nd
      have HR12 : Hid _ := N12.rf
      have HK12 : Hid _ := N12.ke
      have HRes : Hid _ := N12.res
      obtain ⟨sa, sc, rfl, hs⟩ := HS0.out
      have hs12 : SAt (fun b => w.heap.size + 2 ≤ b) w12 af sa af.length := hs.keep (Keeps.of_ke k12 (by omega)) (fun _ h _ => h)
      have HV : Hid (NodeV (fun b => w.heap.size + 2 ≤ b) w12 ⟨x, u, af, false, vt⟩ .e (.agg #[.string ⟨x.toArray⟩, .string ⟨u.toArray⟩, .slice sa af.length sc, .bool false, .bool vt, .slice none 0 0])) := ⟨sa, _, sc, none, _, 0, rfl, hs12, rfl⟩
      have HBd : Hid (Bdy G (⟨x, u, af, false, vt⟩, .e) (if (!bad6 && isT L i6 mEnd) then i6 + 1 else i6) (!(!bad6 && isT L i6 mEnd))) := by
        show Bdy G _ _ _
        have h7 := HS7.out
        cases bad6 with
        | true => exact h7.no
        | false =>
          have hg := h7.ok
          unfold kd4 at hg
          simp only [Bool.false_eq_true, if_false] at hg
          cases hm : isT L i6 mEnd with
          | true => rw [hm] at hg; exact hg
          | false => rw [hm] at hg; exact hg
      clear N12 hs hs12 k12 r12 M6 HN11 HS0 HS7
      go_wp2_with fail
      go_meet
      exact ⟨_, .e, _, _, by split <;> omega, HR12, HK12, HRes, HND, HV, HBd⟩
  case rest =>
  obtain ⟨altv, t, j, bad', hij, HR, HK, HRes, HND, HV, HBd⟩ := hcut
  clear HN11 HS7 hi6 i6 bad6
  rename World => w12
  have hne : w.heap.size ≠ w.heap.size + 1 := by omega
  have d0 := (cell_row HND.out 0).trans rfl
  have d1 := (cell_row HND.out 1).trans rfl
  have d2 := (cell_row HND.out 2).trans rfl
  have d3 := (cell_row HND.out 3).trans rfl
  have d4 := (cell_row HND.out 4).trans rfl
  have d5 := (cell_row HND.out 5).trans rfl
  have e0 := (cell_row HRes.out 0).trans rfl
  have e1 := (cell_row HRes.out 1).trans rfl
  have e2 := (cell_row HRes.out 2).trans rfl
  have e3 := (cell_row HRes.out 3).trans rfl
  have e4 := (cell_row HRes.out 4).trans rfl
  have e5 := (cell_row HRes.out 5).trans rfl
  have ef := froz_row HRes.out
  obtain ⟨sa, sm, sc, ta, tm, tc, hv, hs, ht⟩ := HV.out
  simp only [Value.agg.injEq, Array.mk.injEq, List.cons.injEq, true_and, and_true] at hv
  obtain ⟨rfl, rfl⟩ := hv
  go_wp2_with fail
  refine ret6 (p := 2) rfl w.heap.size _ _ _ _ _ _ rfl rfl (put6_row HRes.out _ _ _ _ _ _) ?_
  have hNV : NodeV (fun b => w.heap.size ≤ b) (put6 w12 w.heap.size (.string ⟨x.toArray⟩) (.string ⟨u.toArray⟩) (.slice sa sm sc) (.bool sub) (.bool vt) (.slice ta tm tc)) ⟨x, u, af, sub, vt⟩ t (.agg #[.string ⟨x.toArray⟩, .string ⟨u.toArray⟩, .slice sa sm sc, .bool sub, .bool vt, .slice ta tm tc]) := ⟨sa, sm, sc, ta, tm, tc, rfl, hs.keep (put6_keeps _ _ _ _ _ _ _ (by omega)) (fun b h _ => by omega), ht.keep (put6_keeps _ _ _ _ _ _ _ (by omega)) (fun b h _ => by omega) _ _ _ _ _⟩
  have hRF := put6_rf (b := w.heap.size) HR.out HTl.out (.string ⟨x.toArray⟩) (.string ⟨u.toArray⟩) (.slice sa sm sc) (.bool sub) (.bool vt) (.slice ta tm tc) (Nat.le_refl _) (by omega)
  refine ⟨put6_ke HK.out _ _ _ _ _ _ (Nat.le_refl _), ?_⟩
  cases bad' with
  | true => exact ⟨_, t, _, rfl, hNV, j, .inr ⟨hRF, hij, HBd.out⟩⟩
  | false => exact ⟨_, t, _, rfl, hNV, j, .inl ⟨hRF, hij, HBd.out⟩⟩
end Go.Proofs.Ytlmfmgpamhhncaa

