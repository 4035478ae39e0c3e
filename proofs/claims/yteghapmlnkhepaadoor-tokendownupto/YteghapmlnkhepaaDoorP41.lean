/- Texts of the seat, packed: Cn. -/
import Derived.Test.YteghapmlnkhepaaDoorP40
/- TokenDown's walk. -/
namespace Go.Proofs.YteghapmlnkhepaaDoor.Tk
open Go.RowKit Go.Shelf Go.Proofs.YteghapmlnkhepaaDoor.St Go.Proofs.YteghapmlnkhepaaDoor.Sx
set_option maxRecDepth 1000000
set_option linter.unusedVariables false

theorem rdit_at {W : World} {xb xo n ic : Nat} {its : List It} (h : RdIt W (.slice (some ⟨xb, xo, none⟩) n ic) its) {i : Nat} {x : It} (hx : its[i]? = some x) : W.cell? ⟨xb, xo + i * 8 + 4, none⟩ = some (.int .i64 x.alts) ∧ W.cell? ⟨xb, xo + i * 8 + 5, none⟩ = some (.int .i64 x.inn) ∧ n ≤ ic := by
  obtain ⟨a, c, e, hc, hr⟩ := h
  obtain ⟨b, off, av, am, ac, ha, c0, c1, c2, c3, c4, c5, c6, c7, _⟩ := hr i x hx
  subst ha
  simp only [Value.slice.injEq, Option.some.injEq, Addr.mk.injEq, and_true] at e
  obtain ⟨⟨rfl, rfl⟩, rfl, rfl⟩ := e
  exact ⟨c4, c5, hc⟩

theorem rdit_some {W : World} {ia : Option Addr} {n ic : Nat} {its : List It} (h : RdIt W (.slice ia n ic) its) {i : Nat} {x : It} (hx : its[i]? = some x) : ∃ xb xo, ia = some ⟨xb, xo, none⟩ := by
  obtain ⟨a, c, e, hc, hr⟩ := h
  obtain ⟨b, off, av, am, ac, ha, _⟩ := hr i x hx
  simp only [Value.slice.injEq] at e
  exact ⟨b, off, e.1.trans ha⟩

/-- What TokenDown knows. -/
structure DnS (w3 : World) (its : List It) (p : Pl) (C : Nat → Bool) (n0 tb : Nat) (sv : Value) (bs : List Nat) (S : Nat → Prop) (W : World) : Prop where
  t : TT n0 W tb sv bs its p (toks p) C S
  b : Below w3.heap.size w3 W
  n : w3.heap.size ≤ n0

theorem DnS.later {w3 : World} {its : List It} {p : Pl} {C : Nat → Bool} {n0 tb : Nat} {sv : Value} {bs : List Nat} {S : Nat → Prop} {W W' : World} (h : DnS w3 its p C n0 tb sv bs S W) (hb : Below W.heap.size W W') : DnS w3 its p C n0 tb sv bs S W' :=
  ⟨h.t.later hb, h.b.trans (hb.mono h.b.size), h.n⟩

theorem DnS.cancel {w3 : World} {its : List It} {p : Pl} {C : Nat → Bool} {n0 tb : Nat} {sv : Value} {bs : List Nat} {S : Nat → Prop} {W : World} (h : DnS w3 its p C n0 tb sv bs S W) (hI : Itm its p) (k : Int) :
    Calls Tryd.prog 9 #[.pointer (some ⟨tb, 0, none⟩), .int .i64 k] W fun e W' => e = .returned (.int .i64 ((liveL p C (toks p)).length - (liveL p (putZ (toks p).length C k) (toks p)).length)) ∧ DnS w3 its p (putZ (toks p).length C k) n0 tb sv bs S W' ∧ Kp (fun b => b ∈ bs) W W' := by
  refine Calls.mono (Cancel_any h.t (std_of hI) k) ?_
  rintro e W' ⟨he, ht, hk⟩
  exact ⟨he, ⟨ht, h.b.trans ((h.t.kpb hk).mono h.n), h.n⟩, hk⟩

set_option maxHeartbeats 16000000 in
theorem down_walk (x : By) (t : Tr) (a : Option Addr) (ac : Nat) (lv : Value) (l : List Int) (k : Int) (w : World) (hT : Dg.Tab w) (hk : Kd true t) (hM : ∀ wx, Below w.heap.size w wx → Calls Tryd.prog 6 #[.agg #[.string ⟨x.toArray⟩, .slice a t.len ac]] wx fun e w' => MakeC x t wx e w') (hFI : ∀ its, planT x t = some its → FairI its) (hL : RdZ w lv l) (hlm : l.length ≤ maxLen) :
    Calls Tryd.prog 3 #[.agg #[.string ⟨x.toArray⟩, .slice a t.len ac], lv, .int .i64 k] w fun e w' => e = .returned (.bool true) ∧ Below w.heap.size w w' := by
  have hb1 := bl1 w (.cells #[.string ⟨x.toArray⟩, .slice a t.len ac] 24)
  have HB1 : Hid _ := hb1
  have HMK : Hid _ := hM _ hb1
  have HTB : Hid (∀ wx, Below w.heap.size w wx → Dg.Tab wx) := fun wx hb => hT.later hb
  have HPK : Hid (∀ wx, Below w.heap.size w wx → RdZ wx lv l) := fun wx hb => hL.later hb
  have HFX : Hid _ := hFI
  have HKD : Hid _ := hk
  have c0 := (Dg.cell_row (Dg.row_new w #[.string ⟨x.toArray⟩, .slice a t.len ac] 24) 0).trans rfl
  have c1 := (Dg.cell_row (Dg.row_new w #[.string ⟨x.toArray⟩, .slice a t.len ac] 24) 1).trans rfl
  obtain ⟨la, lc, rfl, hlc, _⟩ := hL
  obtain ⟨nL, HNL⟩ : ∃ nL, Hid (l.length = nL) := ⟨_, rfl⟩
  obtain ⟨tl, HTL⟩ : ∃ tl, Hid (t.len = tl) := ⟨_, rfl⟩
  unfold maxLen at hlm
  rw [HNL.out] at hlc HPK hlm ⊢
  rw [HTL.out] at HMK HB1 c0 c1 ⊢
  clear hT hk hM hFI hb1
  go_enter Tryd.func3, Tryd.ntmps3
  go_wp2_with fail
  refine Calls.mono HMK.out ?_
  rintro e w2 ⟨hb2, he⟩
  have HB2 : Hid (Below w.heap.size w w2) := HB1.out.trans (hb2.mono HB1.out.size)
  clear HMK hb2 c0 c1 HB1
  cases hP : planT x t with
  | none =>
    rw [hP] at he
    obtain rfl : e = .returned (.tuple #[.agg #[.slice none 0 0], .int .i64 11]) := he
    have HB3 : Hid (Below w.heap.size w (w2.alloc (.cells #[.slice none 0 0] 28))) := HB2.out.alloc HB2.out.size _
    clear hP
    go_wp2_with fail
    refine Calls.mono (lives_any _ (HTB.out _ HB3.out)) ?_
    rintro e w4 ⟨rfl, hb4⟩
    have HB4 : Hid _ := HB3.out.trans (hb4.mono HB3.out.size)
    clear hb4
    go_wp2_with fail
    first
      | (go_ret; exact ⟨rfl, HB4.out⟩)
      | exact ⟨rfl, HB4.out⟩
  | some its =>
    rw [hP] at he
    obtain ⟨v, rfl, hst⟩ := he
    have HSG : Hid (sagaP its = some (x, t)) := saga_of_plan hP HKD.out
    have HI : Hid (Itm its (plOf its)) := itm_of HSG.out
    have HFI : Hid (FairI its) := HFX.out its hP
    obtain ⟨ia, ic, rfl, _⟩ := hst.rd
    obtain ⟨n, HN⟩ : ∃ n, Hid (its.length = n) := ⟨_, rfl⟩
    have HRD : Hid (RdIt w2 (.slice ia n ic) its) := by have := hst.rd; rwa [HN.out] at this
    obtain ⟨xb, xo, rfl⟩ : ∃ xb xo, ia = some ⟨xb, xo, none⟩ := by
      obtain ⟨y, hy⟩ : ∃ y, its[0]? = some y := ⟨_, List.getElem?_eq_getElem (by have := HI.out.ok.pos; have := HI.out.n; omega)⟩
      exact rdit_some HRD.out hy
    rw [HN.out]
    have HB3 : Hid (Below w.heap.size w (w2.alloc (.cells #[.slice (some ⟨xb, xo, none⟩) n ic] 28))) := HB2.out.alloc HB2.out.size _
    have r3 := Dg.row_new w2 #[.slice (some ⟨xb, xo, none⟩) n ic] 28
    have HR3 : Hid _ := r3
    have g0 := (Dg.cell_row r3 0).trans rfl
    have HRD3 : Hid _ := RdIt.later HRD.out (bl1 w2 (.cells #[.slice (some ⟨xb, xo, none⟩) n ic] 28))
    clear hP hst HFX HKD r3 HRD
    by_cases hl : (50 : Int) < (nL : Int)
    · go_wp2_with fail
      refine Calls.mono (lives_any _ (HTB.out _ HB3.out)) ?_
      rintro e w4 ⟨rfl, hb4⟩
      have HB4 : Hid _ := HB3.out.trans (hb4.mono HB3.out.size)
      clear hb4
      go_wp2_with fail
      first
        | (go_ret; exact ⟨rfl, HB4.out⟩)
        | exact ⟨rfl, HB4.out⟩
    · have HN1 : Hid _ := New_any its (.slice (some ⟨xb, xo, none⟩) n ic) _ HRD3.out HFI.out (HTB.out _ HB3.out)
      go_wp2_with fail
      generalize w2.alloc (.cells #[.slice (some ⟨xb, xo, none⟩) n ic] 28) = w3 at *
      obtain ⟨pb, hpb⟩ : ∃ pb, w2.heap.size = pb := ⟨_, rfl⟩
      rw [hpb] at HR3 g0 ⊢
      clear hpb HB2
      refine Calls.mono HN1.out ?_
      rintro e w4 hN
      unfold NewC at hN
      rw [HSG.out] at hN
      obtain ⟨hb4, n0, tb, sv, bs, S, rfl, hn0, hTA, hSA⟩ := hN
      have HDN0 : Hid (DnS w3 its (plOf its) (fun _ => false) n0 tb sv bs S w4) := ⟨hTA, hb4, hn0⟩
      obtain ⟨p, HPL⟩ : ∃ p, Hid (plOf its = p) := ⟨_, rfl⟩
      rw [HPL.out] at HDN0 HI
      have HW : Hid (∀ wx, Below w3.heap.size w3 wx → Below w.heap.size w wx) := fun wx hb => HB3.out.trans (hb.mono HB3.out.size)
      obtain ⟨N, HNN⟩ : ∃ N, Hid ((toks p).length = N) := ⟨_, rfl⟩
      clear HN1 hb4 hn0 hTA hSA g0 HSG HFI HPL
      go_wp2_with fail
      go_loopw [11] (fun iv wr => ∃ (i : Nat), i ≤ nL ∧ iv = .int .i64 i ∧ Hid (DnS w3 its p (cz N (fun _ => false) (l.take i)) n0 tb sv bs S wr)) (fun iv _ => nL - (intOf iv).toNat)
      case atStart => exact ⟨0, Nat.zero_le _, by go_num, HDN0.out⟩
      case round =>
        obtain ⟨i, hi, rfl, HB⟩ := hrel
        rename World => w6
        clear HDN0
        by_cases hlt : i < nL
        rotate_left
        · have hni : ¬ (i : Int) < (nL : Int) := by omega
          obtain ⟨C, HC⟩ : ∃ C, Hid (cz N (fun _ => false) (l.take i) = C) := ⟨_, rfl⟩
          rw [HC.out] at HB
          have HBE : Hid (DnS w3 its p C n0 tb sv bs S w6) := HB.out
          obtain ⟨D, HD⟩ : ∃ D, Hid (putZ (toks p).length C k = D) := ⟨_, rfl⟩
          obtain ⟨G, HG⟩ : ∃ G, Hid (liveL p C (toks p) = G) := ⟨_, rfl⟩
          obtain ⟨G2, HG2⟩ : ∃ G2, Hid (liveL p D (toks p) = G2) := ⟨_, rfl⟩
          obtain ⟨g1, HGL⟩ : ∃ g1, Hid (G.length = g1) := ⟨_, rfl⟩
          obtain ⟨g2, HGL2⟩ : ∃ g2, Hid (G2.length = g2) := ⟨_, rfl⟩
          have hG : g1 ≤ 1000 := by rw [← HGL.out, ← HG.out]; exact liveL_few HI.out C
          have hG2 : g2 ≤ 1000 := by rw [← HGL2.out, ← HG2.out]; exact liveL_few HI.out D
          have HL1 : Hid _ := Live_rd HBE.out.t (std_of HI.out)
          rw [HG.out] at HL1
          clear HB HC
          go_wp2_with fail
          refine Calls.mono HL1.out ?_
          rintro e w7 ⟨hb7, u1, rfl, hr1, hu1⟩
          have HBE7 : Hid _ := HBE.out.later hb7
          have HR1 : Hid (Dg.RdI w7 u1 G) := hr1
          have HU1 : Hid (∀ g, u1.ownBlock = some g → ¬ g ∈ bs) := fun g hg hm => by
            have := hu1 g hg
            have := HBE.out.t.lt hm
            omega
          have HCA : Hid _ := HBE7.out.cancel HI.out k
          rw [HD.out, HG.out, HG2.out, HGL.out, HGL2.out] at HCA
          clear HL1 hb7 hr1 hu1 HBE
          go_wp2_with fail
          refine Calls.mono HCA.out ?_
          rintro e w8 ⟨rfl, hb8, hk8⟩
          have HB8 : Hid _ := hb8
          have HR1b : Hid _ := RdI.kept HR1.out hk8 HU1.out
          have HL2 : Hid _ := Live_rd HB8.out.t (std_of HI.out)
          rw [HG2.out] at HL2
          clear HCA hb8 hk8 HBE7 HR1 HU1
          go_wp2_with fail
          refine Calls.mono HL2.out ?_
          rintro e w9 ⟨hb9, u2, rfl, hr2, _⟩
          have HB9 : Hid _ := HB8.out.later hb9
          have HRA : Hid (Dg.RdI w9 u1 G) := Dg.RdI.later HR1b.out hb9
          have HRB : Hid (Dg.RdI w9 u2 G2) := hr2
          obtain ⟨ua1, uc1, rfl, _⟩ := id HRA.out
          obtain ⟨ua2, uc2, rfl, _⟩ := id HRB.out
          rw [HGL.out] at HRA
          rw [HGL2.out] at HRB
          rw [HGL.out, HGL2.out]
          have HOF : Hid (Calls Tryd.prog 11 #[.pointer (some ⟨tb, 0, none⟩), .int .i64 k] w9 fun e w' => e = .returned (.bool true) ∧ w' = w9) := by
            have M := Off_any HB9.out.t (std_of HI.out) k
            rw [← HD.out, offZ_self HI.out C k] at M
            exact M
          have hne : (((g1 : Int) - (g2 : Int)) != ((g1 : Int) - (g2 : Int))) = false := by simp
          clear HL2 hb9 hr2 HB8 HR1b
          go_wp2_with fail
          refine Calls.mono HOF.out ?_
          rintro e w10 ⟨rfl, rfl⟩
          clear HOF hne
          have HPN : Hid (p.n = n) := HI.out.n.trans HN.out
          have hn64 : n ≤ 64 := by rw [← HN.out]; exact HI.out.len
          have HRZ : Hid (w10.heap[pb]? = some (.cells #[.slice (some ⟨xb, xo, none⟩) n ic] 28 (0, 0))) := row_later HR3.out HB9.out.b
          have HRI : Hid (RdIt w10 (.slice (some ⟨xb, xo, none⟩) n ic) its) := RdIt.later HRD3.out HB9.out.b
          have z0 := (Dg.cell_row HRZ.out 0).trans rfl
          have HCB : Hid (∀ wx, Below w10.heap.size w10 wx → wx.cell? ⟨pb, 0, none⟩ = some (.slice (some ⟨xb, xo, none⟩) n ic)) := fun wx h => Dg.cell_later h z0
          have HIC : Hid (∀ (i : Nat) wx, i < n → Below w10.heap.size w10 wx → wx.cell? ⟨xb, xo + i * 8 + 4, none⟩ = some (.int .i64 (p.alts i : Int)) ∧ (1 ≤ i → wx.cell? ⟨xb, xo + i * 8 + 5, none⟩ = some (.int .i64 (p.inn i : Int)))) := fun i wx hin hb => by
            obtain ⟨y, hy⟩ : ∃ y, its[i]? = some y := ⟨_, List.getElem?_eq_getElem (by rw [HN.out]; exact hin)⟩
            obtain ⟨q1, q2, _⟩ := rdit_at HRI.out hy
            rw [HI.out.alts i y hy] at q1
            refine ⟨Dg.cell_later hb q1, fun h1 => ?_⟩
            rw [(HI.out.inn i y hy h1).1] at q2
            exact Dg.cell_later hb q2
          have hcap : n ≤ ic := by
            obtain ⟨y, hy⟩ : ∃ y, its[0]? = some y := ⟨_, List.getElem?_eq_getElem (by have := HI.out.ok.pos; have := HI.out.n; omega)⟩
            exact (rdit_at HRI.out hy).2.2
          clear z0 HR3 HRD3 HRZ
          go_wp2_with fail
          go_loopw [15] (fun iv wr => ∃ (s : Nat), s ≤ n ∧ iv = .int .i64 s ∧ Hid (Below w10.heap.size w10 wr)) (fun iv _ => n - (intOf iv).toNat)
          case atStart => exact ⟨0, Nat.zero_le _, by go_num, Below.refl _ _⟩
          case round =>
            obtain ⟨s, hs, rfl, HS⟩ := hrel
            rename World => wr
            have y0 := HCB.out wr HS.out
            by_cases hst : s < n
            rotate_left
            · have hsn : ¬ (s : Int) < (n : Int) := by omega
              have hBE : Hid (Below w.heap.size w wr) := HW.out _ (HB9.out.later HS.out).b
              have HLV : Hid _ := lives_any wr (HTB.out _ hBE.out)
              go_wp2_with fail
              refine Calls.mono HLV.out ?_
              rintro e wf ⟨rfl, hbf⟩
              have HBF : Hid _ := hBE.out.trans (hbf.mono hBE.out.size)
              clear HLV hbf hBE
              go_wp2_with fail
              first
                | (go_ret; exact ⟨rfl, HBF.out⟩)
                | exact ⟨rfl, HBF.out⟩
            · have hsn : (s : Int) < (n : Int) := by omega
              have hs64 : (s : Int) < 64 := by omega
              obtain ⟨al, HAL⟩ : ∃ al, Hid (p.alts s = al) := ⟨_, rfl⟩
              have hal : al ≤ 4 := by rw [← HAL.out]; exact HI.out.few s
              go_wp2_with fail
              clear y0
              go_loopw [16] (fun jv wj => ∃ (j : Nat), j ≤ al ∧ jv = .int .i64 j ∧ Hid (Below w10.heap.size w10 wj)) (fun jv _ => al - (intOf jv).toNat)
              case atStart => exact ⟨0, Nat.zero_le _, by go_num, HS.out⟩
              case round =>
                obtain ⟨j, hj, rfl, HJ⟩ := hrel
                rename World => wj
                clear HS
                have y0 := HCB.out wj HJ.out
                have y4 := (HIC.out s wj hst HJ.out).1
                rw [HAL.out] at y4
                by_cases hjt : j < al
                rotate_left
                · have hja : ¬ (j : Int) < (al : Int) := by omega
                  go_wp2_with fail
                  go_roundw
                  case rel => exact ⟨s + 1, by omega, by go_num, HJ⟩
                  case measure => simp [intOf] <;> omega
                · have hja : (j : Int) < (al : Int) := by omega
                  have hj4 : (j : Int) < 4 := by omega
                  have hsp : s < p.n := by rw [HPN.out]; exact hst
                  have hjp : j < p.alts s := by rw [HAL.out]; exact hjt
                  obtain ⟨xx, HXX⟩ : ∃ xx, Hid (tk p s j = xx) := ⟨_, rfl⟩
                  have HIN : Hid _ := In_tok (HB9.out.later HJ.out).t HI.out (s : Int) (j : Int)
                  rw [inV_eq HI.out hsp hjp, HXX.out] at HIN
                  have HDE : Hid _ := down_eq HI.out.ok C k hsp hjp
                  rw [HD.out, HG.out, HG2.out, HXX.out] at HDE
                  have HZ0 : Hid (inZ p k s j = (((xx : Int) == k) || (decide (1 ≤ s) && inZ p k (p.inn s) (p.alt s)))) := by
                    show inZ p k s j = _
                    rw [inZ_eq HI.out.ok k hsp j, HXX.out]
                    congr 1
                  obtain ⟨Z, HZ⟩ : ∃ Z, Hid (inZ p k s j = Z) := ⟨_, rfl⟩
                  rw [HZ.out] at HDE HZ0
                  clear hsp hjp HXX HZ
                  go_wp2_with fail
                  refine Calls.mono HIN.out ?_
                  rintro e wk ⟨rfl, hbk⟩
                  have HK : Hid (Below w10.heap.size w10 wk) := HJ.out.trans (hbk.mono HJ.out.size)
                  clear hbk HIN y0 y4 HJ
                  go_wp2_with fail
                  go_loopw [18, 19] (fun qv iv wl => ∃ (q : Bool) (i : Nat), i < n ∧ qv = .bool q ∧ iv = .int .i64 i ∧ Hid (Z = (q || (decide (1 ≤ i) && inZ p k (p.inn i) (p.alt i)))) ∧ Hid (Below w10.heap.size w10 wl)) (fun _ iv _ => (intOf iv).toNat)
                  case atStart => exact ⟨_, s, hst, rfl, by go_num, HZ0.out, HK.out⟩
                  case round =>
                    obtain ⟨q, i, hi, rfl, rfl, HZi, HLL⟩ := hrel
                    rename World => wl
                    clear HZ0 HK
                    by_cases h0 : 1 ≤ i
                    rotate_left
                    · obtain rfl : i = 0 := by omega
                      have HQ : Hid (Z = q) := HZi.out.trans (by simp)
                      rw [HQ.out] at HDE
                      have HM1 : Hid _ := Dg.In_any G2 (.slice ua2 g2 uc2) xx wl (Dg.RdI.later HRB.out HLL.out) (by rw [HGL2.out]; omega)
                      have HM2 : Hid _ := Dg.In_any G (.slice ua1 g1 uc1) xx wl (Dg.RdI.later HRA.out HLL.out) (by rw [HGL.out]; omega)
                      obtain ⟨m2, HMM⟩ : ∃ m2, Hid (decide (xx ∈ G) = m2) := ⟨_, rfl⟩
                      rw [HDE.out, HMM.out] at HM1
                      rw [HMM.out] at HM2
                      clear HZi HQ HDE HMM
                      go_wp2_with fail
                      refine Calls.mono HM1.out ?_
                      rintro e wm ⟨rfl, rfl⟩
                      clear HM1
                      go_wp2_with fail
                      refine Calls.mono HM2.out ?_
                      rintro e wm2 ⟨rfl, rfl⟩
                      clear HM2
                      cases m2 <;> cases q <;>
                      · go_wp2_with fail
                        go_roundw
                        case rel => exact ⟨j + 1, by omega, by go_num, HLL⟩
                        case measure => simp [intOf] <;> omega
                    · have hi0 : (0 : Int) < (i : Int) := by omega
                      have hin : (i : Int) < (n : Int) := by omega
                      have y0 := HCB.out wl HLL.out
                      have y5 := (HIC.out i wl hi HLL.out).2 h0
                      have hip : i < p.n := by rw [HPN.out]; exact hi
                      obtain ⟨q1, q2, q3⟩ := HI.out.ok.inn i h0 hip
                      have HZn : Hid _ := inZ_eq HI.out.ok k (show p.inn i < p.n by omega) (p.alt i)
                      have HOFV : Hid _ := Of_tok (HB9.out.later HLL.out).t HI.out (i : Int)
                      rw [ofV_eq HI.out h0 hip] at HOFV
                      obtain ⟨yy, HYY⟩ : ∃ yy, Hid (tk p (p.inn i) (p.alt i) = yy) := ⟨_, rfl⟩
                      rw [HYY.out] at HOFV HZn
                      obtain ⟨ii, HII⟩ : ∃ ii, Hid (p.inn i = ii) := ⟨_, rfl⟩
                      have hii : ii < i := by rw [← HII.out]; exact q1
                      rw [HII.out] at y5
                      cases q with
                      | true =>
                        have HT2 : Hid (Z = (true || (decide (1 ≤ ii) && inZ p k (p.inn ii) (p.alt ii)))) := HZi.out.trans (by simp)
                        clear HZi HZn HOFV q1 q2 q3 hip
                        go_wp2_with fail
                        go_roundw
                        case rel => exact ⟨true, ii, by omega, rfl, by go_num, HT2, HLL⟩
                        case measure => simp [intOf] <;> omega
                      | false =>
                        have HT2 : Hid (Z = (((yy : Int) == k) || (decide (1 ≤ ii) && inZ p k (p.inn ii) (p.alt ii)))) := by
                          show Z = _
                          rw [HZi.out, Bool.false_or, decide_eq_true h0, Bool.true_and, HZn.out, HII.out]
                          congr 1
                        clear HZi HZn q1 q2 q3 hip
                        go_wp2_with fail
                        refine Calls.mono HOFV.out ?_
                        rintro e wm ⟨rfl, hbm⟩
                        have HLM : Hid (Below w10.heap.size w10 wm) := HLL.out.trans (hbm.mono HLL.out.size)
                        have z0 := Dg.cell_later hbm y0
                        have z5 := Dg.cell_later hbm y5
                        clear hbm HOFV y0 y5
                        go_wp2_with fail
                        go_roundw
                        case rel => exact ⟨_, ii, by omega, rfl, by go_num, HT2, HLM⟩
                        case measure => simp [intOf] <;> omega
        · have hii : (i : Int) < (nL : Int) := by omega
          have hil : i < l.length := by have := HNL.out; omega
          obtain ⟨y1, hy1⟩ : ∃ y, l[i]? = some y := ⟨_, List.getElem?_eq_getElem hil⟩
          have HT1 : Hid _ := take_snoc hy1
          obtain ⟨a9, c9, e9, _, hr9⟩ := HPK.out w6 (HW.out _ HB.out.b)
          have e91 := (Value.slice.inj e9).1
          obtain ⟨lb, lo, ha9, k1⟩ := hr9 i y1 hy1
          obtain rfl := e91.trans ha9
          clear e9 e91 ha9 hr9
          have HCA : Hid _ := HB.out.cancel HI.out y1
          rw [HNN.out, ← cz_snoc, ← HT1.out] at HCA
          clear hy1
          go_wp2_with fail
          refine Calls.mono HCA.out ?_
          rintro e w7 ⟨rfl, hb7, _⟩
          have HB7 : Hid _ := hb7
          clear HCA hb7 HB k1
          go_wp2_with fail
          go_roundw
          case rel => exact ⟨i + 1, by omega, by go_num, HB7⟩
          case measure => simp [intOf] <;> omega
end Go.Proofs.YteghapmlnkhepaaDoor.Tk

