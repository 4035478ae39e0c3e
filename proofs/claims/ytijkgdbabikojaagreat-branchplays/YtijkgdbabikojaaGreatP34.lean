/- Texts of the seat, packed: Id Ie. -/
import Derived.Test.YtijkgdbabikojaaGreatP33
/- The walks over the document's Keep and Open of layer 11. -/
namespace Go.Proofs.YtijkgdbabikojaaGreat
open Go.RowKit
open Dk (DS DK Okay Small RV RR Kp cutP appendP syncP hasB hasB_true)
set_option maxRecDepth 1000000
set_option linter.unusedVariables false

/-- Where the first n events of a branch's log end. -/
def endL (L : List Ev) (n : Nat) : Nat := (Fr.putP ((L.take n).map encE)).length
/-- What Keep makes of a disk. -/
def keepP (S : DS) (i n : Int) : Int × DS := if hasN S.n i = true ∧ 0 ≤ n ∧ n ≤ ((rldP S i).1.length : Int) then trimP S i (endL (rldP S i).1 n.toNat) else (2, S)

theorem rld_good (S : DS) (i : Int) : Good (S.n - 1) i 0 (rldP S i).1 := by
  unfold rldP
  split
  · exact (log_good (S.n - 1) i 0 _).1
  · trivial

theorem Good.all {n : Nat} {i : Int} : ∀ {k : Nat} {es : List Ev}, Good n i k es → ∀ e ∈ es, okE e = true
  | _, [], _, e, h => by cases h
  | _, x :: r, h, e, he => by
    rcases List.mem_cons.1 he with rfl | he
    · exact h.1
    · exact Good.all h.2.2.2 e he

theorem endL_succ {L : List Ev} {k : Nat} {x : Ev} (h : L[k]? = some x) : endL L (k + 1) = endL L k + (encE x).length + 6 := by
  unfold endL
  rw [List.take_add_one, h]
  simp only [Option.toList_some, List.map_append, List.map_cons, List.map_nil, Fr.putP_append, List.length_append, Fr.putP_cons, Fr.frameP_len]
  simp [Fr.putP]
  omega

theorem rld_short {S : DS} {i : Int} (hs : Small 100000 10000000000 S) : (rldP S i).1.length ≤ 100001 := by
  unfold rldP
  split
  · obtain ⟨_, q2, _⟩ := log_good (S.n - 1) i 0 (Fr.allP (Dk.readP S i) ((Dk.readP S i).length + 1) 0).1
    have h1 := all_count (Dk.readP S i) ((Dk.readP S i).length + 1) 0
    have h2 := congrArg List.length q2
    rw [List.length_map, List.length_take] at h2
    have h3 : (Dk.readP S i).length ≤ 100000 := by
      unfold Dk.readP
      split
      · exact hs.len _
      · simp
    unfold loadL
    omega
  · simp

theorem endL_le {L : List Ev} (hok : ∀ e ∈ L, okE e = true) : ∀ k, k ≤ L.length → endL L k ≤ 1030 * k
  | 0, _ => by simp [endL, Fr.putP]
  | k + 1, h => by
    have hx := getD_ev (L := L) (k := k) (by omega)
    have ih := endL_le hok k (by omega)
    have h1 := enc_frame (hok _ (List.mem_of_getElem? hx))
    rw [endL_succ hx]
    omega

set_option maxHeartbeats 8000000 in
theorem rkeep_any (r g : Nat) (S : DS) (i n : Int) (w : World) (h : RV w r g S) (ho : Okay S) (hs : Small 100000 10000000000 S) :
    Calls Tryz.prog 27 #[.pointer (some ⟨r, 0, none⟩), .int .i64 i, .int .i64 n] w (RR r g w (keepP S i n)) := by
  have hpos := ho.pos
  have hfew := ho.few
  obtain ⟨m, HM⟩ : ∃ m, Hid (S.n = m + 1) := ⟨S.n - 1, by show _ = _; omega⟩
  rw [HM.out] at hfew
  have H1 : Hid _ := rload_any r g S i w h ho hs
  have hok := Good.all (rld_good S i)
  have hLs := rld_short (i := i) hs
  have hel := endL_le hok
  have HOK : Hid _ := hok
  have HEL : Hid _ := hel
  have HV : Hid _ := h
  have HSl : Hid (∀ W, RV W r g S → Sl r g (m + 1) W) := fun W hW => by have := hW.sl; rw [HM.out] at this; exact this
  have HCut : Hid (∀ (wx : World) (q : Int), RV wx r g S → Calls Tryz.prog 47 #[.pointer (some ⟨r, 0, none⟩), .int .i64 i, .int .i64 q] wx (RR r g wx (cutP S i q))) := fun wx q hx => Dk.rcut_any i q hx ho (Dk.small_mono hs (by omega) (by omega))
  obtain ⟨RES, HRES⟩ : ∃ R, Hid (keepP S i n = R) := ⟨_, rfl⟩
  rw [HRES.out]
  unfold keepP at HRES
  have hlen := hs.len
  obtain ⟨LL, HLL⟩ : ∃ R, Hid (rldP S i = R) := ⟨_, rfl⟩
  rw [HLL.out] at HRES H1 hLs HOK HEL
  clear hok hel HLL
  obtain ⟨L, E⟩ := LL
  simp only at HRES H1 hLs HOK HEL
  obtain ⟨ln, HLN⟩ : ∃ ln, Hid (L.length = ln) := ⟨_, rfl⟩
  rw [HLN.out] at H1 hLs HRES HEL
  unfold hasN at HRES
  rw [HM.out] at HRES
  by_cases hno : i < 0 ∨ (m : Int) ≤ i ∨ n < 0 ∨ (ln : Int) < n
  · rw [if_neg (by rw [decide_eq_true_eq]; omega)] at HRES
    have hc : i < 0 ∨ (¬ i < 0 ∧ (m : Int) ≤ i) ∨ (¬ i < 0 ∧ ¬ (m : Int) ≤ i ∧ n < 0) ∨ (¬ i < 0 ∧ ¬ (m : Int) ≤ i ∧ ¬ n < 0 ∧ (ln : Int) < n) := by omega
    clear hno h ho hs hpos HCut
    go_enter Tryz.func27, Tryz.ntmps27
    go_wp2_with fail
    refine Calls.mono H1.out ?_
    rintro e w1 ⟨a, c, rfl, hlog, hb1⟩
    have HV1 : Hid _ := Dk.RV.later HV.out hb1
    have HK1 : Hid (Kp (fun k => k = r ∨ k = g) w w1) := kp_below hb1
    have hsl := HSl.out w1 HV1.out
    unfold Sl at hsl
    clear hlog hb1 H1
    rcases hc with c1 | ⟨c1, c2⟩ | ⟨c1, c2, c3⟩ | ⟨c1, c2, c3, c4⟩
    all_goals
      go_wp2_with fail
      go_ret
      rw [← HRES.out]
      exact ⟨rfl, HV1.out, HK1.out⟩
  · rw [if_pos (by rw [decide_eq_true_eq]; omega)] at HRES
    obtain ⟨j, rfl⟩ : ∃ j : Nat, i = (j : Int) := ⟨i.toNat, by omega⟩
    obtain ⟨q, rfl⟩ : ∃ q : Nat, n = (q : Int) := ⟨n.toNat, by omega⟩
    rw [Int.toNat_natCast] at HRES
    have c1 : ¬ (j : Int) < 0 := by omega
    have c2 : ¬ (m : Int) ≤ (j : Int) := by omega
    have c3 : ¬ (q : Int) < 0 := by omega
    have c4 : ¬ (ln : Int) < (q : Int) := by omega
    have hjm : j < m := by omega
    have hql : q ≤ ln := by omega
    have x1 : decide ((j : Int) < 0) = false := decide_eq_false (by omega)
    have x2 : decide (m ≤ j) = false := decide_eq_false (by omega)
    have x3 : decide ((q : Int) < 0) = false := decide_eq_false (by omega)
    have x4 : decide (ln < q) = false := decide_eq_false (by omega)
    have x5 : decide ((m : Int) ≤ (j : Int)) = false := decide_eq_false (by omega)
    have x6 : decide ((ln : Int) < (q : Int)) = false := decide_eq_false (by omega)
    have hrd : Dk.readP S (j : Int) = (S.fs j).b := by
      unfold Dk.readP
      rw [if_pos (show hasB S (j : Int) = true from decide_eq_true (by rw [HM.out]; omega))]
      rfl
    have HFile : Hid (∀ W, RV W r g S → W.cell? ⟨g, j * 2, none⟩ = some (.string ⟨(S.fs j).b.toArray⟩)) := fun W hW => (hW.file j (by rw [HM.out]; omega)).1
    unfold trimP at HRES
    rw [hrd] at HRES
    have hbl := hlen j
    generalize (S.fs j).b = B at *
    clear hno h ho hs hpos hrd hlen
    go_enter Tryz.func27, Tryz.ntmps27
    go_wp2_with fail
    refine Calls.mono H1.out ?_
    rintro e w1 ⟨a, c, rfl, hlog, hb1⟩
    have HV1 : Hid _ := Dk.RV.later HV.out hb1
    have HK1 : Hid (Kp (fun k => k = r ∨ k = g) w w1) := kp_below hb1
    have hsl := HSl.out w1 HV1.out
    unfold Sl at hsl
    have hre := (LogR.re hlog).1
    obtain ⟨a', ca, ev, hcc, _, hcell⟩ := hre
    rw [HLN.out] at ev hcc
    simp only [Value.slice.injEq] at ev
    obtain ⟨rfl, _, rfl⟩ := ev
    have HCL : Hid _ := hcell
    clear hlog hb1 H1 hcell
    go_wp2_with fail
    go_loopw [9, 10] (fun av kv wr => ∃ k : Nat, k ≤ q ∧ kv = .int .i64 k ∧ av = .int .i64 (endL L k : Nat) ∧ Hid (Below w1.heap.size w1 wr)) (fun _ kv _ => q - (intOf kv).toNat)
    case atStart => exact ⟨0, Nat.zero_le _, rfl, rfl, Below.refl _ _⟩
    case round =>
      obtain ⟨k, hk, rfl, rfl, HB⟩ := hrel
      by_cases hlt : k < q
      · have hki : (k : Int) < (q : Int) := by omega
        have hkl : (k : Int) < (ln : Int) := by omega
        have hx := getD_ev (L := L) (k := k) (by rw [HLN.out]; omega)
        obtain ⟨x, HX⟩ : ∃ x, Hid (L.getD k Ev.none = x) := ⟨_, rfl⟩
        rw [HX.out] at hx
        obtain ⟨b, off, sv, rfl, d0, d1, d2, d3, d4⟩ := HCL.out k x hx
        have hxok := HOK.out x (List.mem_of_getElem? hx)
        have hes := endL_succ hx
        have hen := enc_frame hxok
        have hek := HEL.out k (by omega)
        have hsl2 : x.s.length ≤ 1000000 := by have := okS_len (okE_stamp hxok); omega
        have K1 : Hid (Calls Tryz.prog 63 #[.agg #[.int .i64 x.k, .int .i64 x.i, .int .i64 x.t, sv]] wr fun y w' => y = .returned (.tuple #[.string ⟨(encE x).toArray⟩, .int .i64 0]) ∧ Below wr.heap.size wr w') := by
          have := rbytes_ev x sv wr (d4.later HB.out) hsl2
          rw [bytE_yes hxok, show (evE x : Nat) = 0 by unfold evE; rw [hxok]; rfl] at this
          exact this
        have f0 := cell_later HB.out d0
        have f1 := cell_later HB.out d1
        have f2 := cell_later HB.out d2
        have f3 := cell_later HB.out d3
        have hez : (⟨(encE x).toArray⟩ : ByteArray).size = (encE x).length := by simp [ByteArray.size]
        have HES : Hid (endL L (k + 1) = endL L k + (encE x).length + 6) := hes
        obtain ⟨sa, sc, rfl, _, _, _⟩ := d4
        generalize encE x = X at *
        generalize endL L k = ek at *
        clear hes d0 d1 d2 d3 hx
        go_wp2_with fail
        refine Calls.mono K1.out ?_
        rintro e w2 ⟨rfl, hb2⟩
        have HB2 : Hid (Below w1.heap.size w1 w2) := HB.out.trans (hb2.mono HB.out.size)
        clear hb2 K1
        go_wp2_with fail
        go_roundw
        case rel => exact ⟨k + 1, by omega, by go_num, by rw [HES.out]; go_num, HB2⟩
        case measure => simp [intOf]; omega
      · have hkq : k = q := by omega
        subst hkq
        have HVr : Hid _ := Dk.RV.later HV1.out HB.out
        have HKr : Hid (Kp (fun k => k = r ∨ k = g) w wr) := HK1.out.trans (kp_below (r := r) (g := g) HB.out) (fun x hx _ => hx)
        have g0 := HSl.out wr HVr.out
        unfold Sl at g0
        have g1 := HFile.out wr HVr.out
        have hbz : (⟨B.toArray⟩ : ByteArray).size = B.length := by simp [ByteArray.size]
        have hek := HEL.out k (by omega)
        generalize endL L k = ek at *
        by_cases he : B.length = ek
        · rw [if_pos (by rw [he])] at HRES
          have he2 : ((ek : Int) == (B.length : Int)) = true := by simp [he]
          clear he
          go_wp2_with fail
          go_ret
          rw [← HRES.out]
          exact ⟨rfl, HVr.out, HKr.out⟩
        · rw [if_neg (by intro h; exact he (Int.ofNat.inj h))] at HRES
          have he2 : ((ek : Int) == (B.length : Int)) = false := by simp; omega
          have K2 : Hid _ := HCut.out wr (ek : Int) HVr.out
          rw [HRES.out] at K2
          clear he
          go_wp2_with fail
          refine Calls.mono K2.out ?_
          rintro e w3 ⟨rfl, q2, q3⟩
          have HV3 : Hid _ := q2
          have HK3 : Hid (Kp (fun k => k = r ∨ k = g) w w3) := HKr.out.trans q3 (fun x hx _ => hx)
          clear q2 q3 K2
          go_wp2_with fail
          go_ret
          exact ⟨rfl, HV3.out, HK3.out⟩
end Go.Proofs.YtijkgdbabikojaaGreat

/- The walk over the document's Open of layer 11. -/
namespace Go.Proofs.YtijkgdbabikojaaGreat
open Go.RowKit
open Dk (DS DK Okay Small RV RR Kp cutP appendP syncP hasB hasB_true)
set_option maxRecDepth 1000000
set_option linter.unusedVariables false

theorem put_short (l : List UInt8) : ∀ (f p : Nat), p ≤ l.length → p + (Fr.putP (Fr.allP l f p).1).length ≤ l.length
  | 0, p, h => by simpa [Fr.allP, Fr.putP] using h
  | f + 1, p, h => by
    by_cases hz : (Fr.takeP l p).2.2 = 0
    · have hn := Fr.takeP_next hz
      have ih := put_short l f (Fr.takeP l p).2.1 hn.2.1
      rw [Fr.allP_step hz]
      simp only [Fr.putP_cons, List.length_append, Fr.frameP_len]
      omega
    · rw [Fr.allP_stop hz]
      simpa [Fr.putP] using h

theorem load_le (n : Nat) (i : Int) (B : List UInt8) : (loadL n i B).2 ≤ B.length := by
  unfold loadL
  obtain ⟨_, q2, q3⟩ := log_good n i 0 (Fr.allP B (B.length + 1) 0).1
  have h1 := put_short B (B.length + 1) 0 (Nat.zero_le _)
  have h2 := put_mono (Fr.allP B (B.length + 1) 0).1 (j := (logW n i 0 (Fr.allP B (B.length + 1) 0).1).1.length) (k := (Fr.allP B (B.length + 1) 0).1.length) (by
    have := congrArg List.length q2
    rw [List.length_map, List.length_take] at this
    omega)
  rw [List.take_length, ← q2] at h2
  omega

/-- Rows of events in a row of one's own. -/
def RwD (B0 : Nat) (W : World) (v : Value) (R : List (List Ev)) : Prop :=
  ∃ cs : List Value, W.ownsRow B0 41 1 v R.length cs ∧ ∀ (i : Nat) L, R[i]? = some L → ∃ sv, cs[i]? = some sv ∧ LogR B0 W (fun b => v.ownBlock = some b) sv L

theorem RwD.nil (B0 : Nat) (W : World) : RwD B0 W (.slice none 0 0) [] := ⟨[], World.ownsRow_nil _ _ _ _, fun i L h => by simp at h⟩

theorem RwD.slice {B0 : Nat} {W : World} {v : Value} {R : List (List Ev)} (h : RwD B0 W v R) : ∃ a c, v = .slice a R.length c := by
  obtain ⟨cs, h2, _⟩ := h
  rcases h2.2 with ⟨e, e2⟩ | ⟨g, cap, cur, e, _⟩
  · exact ⟨none, 0, by rw [e, e2]⟩
  · exact ⟨_, _, e⟩

/-- What touches no block from B0 on but new ones leaves them. -/
theorem RwD.kept {B0 : Nat} {W W' : World} {v : Value} {R : List (List Ev)} (h : RwD B0 W v R) (hk : ∀ b, B0 ≤ b → b < W.heap.size → W'.heap[b]? = W.heap[b]?) (hs : W.heap.size ≤ W'.heap.size) : RwD B0 W' v R := by
  obtain ⟨cs, h2, h3⟩ := h
  refine ⟨cs, ⟨h2.1, ?_⟩, fun i L hL => ?_⟩
  · rcases h2.2 with hn | ⟨g, cap, cur, rfl, hb, hg, rest⟩
    · exact .inl hn
    · refine .inr ⟨g, cap, cur, rfl, hb, ?_, rest⟩
      rw [hk g hb (Array.getElem?_eq_some_iff.1 hg).1]
      exact hg
  · obtain ⟨sv, s1, s2⟩ := h3 i L hL
    exact ⟨sv, s1, s2.kept (fun b b1 b2 _ => hk b b1 b2) (fun _ _ h => h) hs⟩

theorem RwD.rre {B0 : Nat} {W : World} {v : Value} {R : List (List Ev)} (h : RwD B0 W v R) : RRE W v R := by
  obtain ⟨cs, h2, h3⟩ := h
  have hl := h2
  rcases h2.2 with ⟨rfl, h0⟩ | ⟨g, cap, cur, rfl, _, _, q1, q2, _⟩
  · have h1 : R = [] := List.eq_nil_of_length_eq_zero h0
    subst h1
    exact ⟨none, 0, rfl, by simp, by unfold maxLen; omega, fun i L h => by simp at h⟩
  · refine ⟨_, cap, rfl, q1, q2, fun i L hL => ?_⟩
    obtain ⟨sv, s1, s2⟩ := h3 i L hL
    refine ⟨g, 0, sv, rfl, ?_, s2.re.1⟩
    have hi := (List.getElem?_eq_some_iff.1 hL).1
    have := hl.cellAt i (by omega)
    rw [Nat.zero_add, this]
    exact s1

/-- A row more behind them. -/
theorem RwD.push {B0 : Nat} {W : World} {v : Value} {R : List (List Ev)} (h : RwD B0 W v R) (hL : R.length ≤ 1000000) (hN : B0 ≤ W.heap.size) (L : List Ev) (sv : Value) (g : Nat)
    (hg : W.cell? (Addr.add ⟨g, 0, none⟩ 0) = some sv) (hsv : ∃ a n c, sv = .slice a n c) (hlog : LogR B0 W (fun b => v.ownBlock = some b) sv L) :
    ∃ v' W', (Builtin.append_ #[51, 51] 51 #[v, .slice (some ⟨g, 0, none⟩) 1 1]).run Tryz.prog W = .ok v' W' ∧ RwD B0 W' v' (R ++ [L]) ∧ W.grownBy W' v.ownBlock ∧ (∀ r, v.ownBlock = some r → B0 ≤ r) ∧ ∃ a' c', v' = .slice a' (R ++ [L]).length c' := by
  obtain ⟨cs, h2, h3⟩ := h
  obtain ⟨i0, hi, hz0, hz1, hz2⟩ := info_parts Tryz.info41
  obtain ⟨v', W', r1, r2, r3, r4, r5⟩ := run_append_own_at (P := Tryz.prog) W B0 51 51 41 i0 (.slice none 0 0) 1 24 Tryz.underlying51 hi hz0 hz1 hz2 rfl (by decide) v R.length cs h2 ⟨g, 0, none⟩ 1 1 [sv] rfl (fun j u hj => by
    match j, hj with
    | 0, hj => simp at hj; subst hj; exact hg
    | j + 1, hj => simp at hj) (by intro u hu; simp at hu; subst hu; obtain ⟨a, n, c, rfl⟩ := hsv; rfl) (by unfold maxLen; omega) (by omega) hN
  have hown : ∀ r, v.ownBlock = some r → B0 ≤ r := fun r hr => (World.ownsRow.lt h2 r hr).1
  have key : ∀ u (l : List Ev), LogR B0 W (fun b => v.ownBlock = some b) u l → LogR B0 W' (fun b => v'.ownBlock = some b) u l := fun u l hl => by
    refine hl.kept (fun b b1 b2 b3 => r3.block b b2 (fun e => b3 e.symm)) (fun b b2 b3 hb => ?_) r3.size
    rcases r5 with r5 | r5
    · exact b3 (r5 ▸ hb)
    · rw [r5] at hb
      have : W.heap.size = b := Option.some.inj hb
      omega
  refine ⟨v', W', r1, ⟨cs ++ [sv], by rw [List.length_append]; exact r2, fun i l hl => ?_⟩, r3, hown, ?_⟩
  · by_cases hi : i < R.length
    · rw [List.getElem?_append_left hi] at hl
      obtain ⟨u, s1, s2⟩ := h3 i l hl
      have hcl : cs.length = R.length := by have := h2.1; omega
      exact ⟨u, by rw [List.getElem?_append_left (by omega)]; exact s1, key _ _ s2⟩
    · have hi2 : i = R.length := by
        have := (List.getElem?_eq_some_iff.1 hl).1
        simp at this
        omega
      subst hi2
      simp at hl
      subst hl
      have hcl : cs.length = R.length := by have := h2.1; omega
      exact ⟨sv, by rw [← hcl]; simp, key _ _ hlog⟩
  · rw [List.length_append]
    rcases r2.2 with ⟨e1, e2⟩ | ⟨g', cap, cur, e1, _⟩
    · simp at e2
    · exact ⟨_, _, e1⟩

/-- What Open knows when k branches are open. -/
def OdS (n : Nat) (Q : DS → Prop) (w : World) (r g : Nat) (RES : List (List Ev) × Int × DS) (k : Nat) (v : Value) (W : World) : Prop :=
  ∃ (S' : DS) (R : List (List Ev)), RV W r g S' ∧ Q S' ∧ RwD w.heap.size W v R ∧ R.length = k ∧ openK n (n - 1 - k) k S' R = RES ∧ Kp (fun k => k = r ∨ k = g) w W

def OdE (Q : DS → Prop) (w : World) (r g : Nat) (RES : List (List Ev) × Int × DS) (e : Ending) (w' : World) : Prop :=
  ∃ a c, e = .returned (.tuple #[.slice a RES.1.length c, .int .i64 RES.2.1]) ∧ RRE w' (.slice a RES.1.length c) RES.1 ∧ RV w' r g RES.2.2 ∧ Q RES.2.2 ∧ Kp (fun k => k = r ∨ k = g) w w'

set_option maxHeartbeats 8000000 in
theorem ropen_any (n : Nat) (Q : DS → Prop) (hQ : ∀ S, Q S → Okay S ∧ Small 100000 10000000000 S ∧ S.n = n) (hQt : ∀ S (i : Nat) (m : Nat), i + 1 < n → Q S → Q (trimP S i m).2) (r g : Nat) (S : DS) (w : World) (h : RV w r g S) (hq : Q S) :
    Calls Tryz.prog 16 #[.pointer (some ⟨r, 0, none⟩)] w (OdE Q w r g (openP n S)) := by
  obtain ⟨ho, hs, hn⟩ := hQ S hq
  have hfew := ho.few
  have hpos := ho.pos
  rw [hn] at hfew hpos
  obtain ⟨m, HM⟩ : ∃ m, Hid (n = m + 1) := ⟨n - 1, by show _ = _; omega⟩
  have HQ : Hid _ := hQ
  have HQT : Hid _ := hQt
  have HRL : Hid (r < w.heap.size ∧ g < w.heap.size) := h.rlt
  obtain ⟨RES, HRES⟩ : ∃ R, Hid (openP n S = R) := ⟨_, rfl⟩
  rw [HRES.out]
  have HI0 : Hid (OdS n Q w r g RES 0 (.slice none 0 0) w) := ⟨S, [], h, hq, RwD.nil _ _, rfl, HRES.out, Kp.refl _ _⟩
  rw [HM.out] at hfew
  clear hQ hQt h hq ho hs hn hpos HRES
  go_enter Tryz.func16, Tryz.ntmps16
  go_wp2_with fail
  go_loopw [4, 5] (fun ov iv wr => ∃ k : Nat, k ≤ m ∧ iv = .int .i64 k ∧ (∃ oa oc, ov = .slice oa k oc) ∧ Hid (OdS n Q w r g RES k ov wr)) (fun _ iv _ => m - (intOf iv).toNat)
  case atStart => exact ⟨0, Nat.zero_le _, rfl, ⟨none, 0, rfl⟩, HI0⟩
  case round =>
    obtain ⟨k, hk, rfl, ⟨oa, oc, rfl⟩, HI⟩ := hrel
    obtain ⟨S', R, d1, d2, d3, d4, d5, d6⟩ := HI.out
    obtain ⟨ho, hs, hn⟩ := HQ.out S' d2
    have hsl := d1.sl
    rw [hn, HM.out] at hsl
    by_cases hlt : k < m
    · have hki : (k : Int) < (m : Int) := by omega
      have hh : hasN S'.n (k : Int) = true := decide_eq_true (by rw [hn, HM.out]; omega)
      have hld : rldP S' (k : Int) = ldP n S' k := by unfold rldP ldP; rw [if_pos hh, hn]
      have HLo : Hid _ := rload_any r g S' k wr d1 ho hs
      rw [hld] at HLo
      have hrd : Dk.readP S' (k : Int) = (S'.fs k).b := by
        unfold Dk.readP
        rw [if_pos (show hasB S' (k : Int) = true from decide_eq_true (by rw [hn, HM.out]; omega))]
        rfl
      have HLE : Hid ((ldP n S' k).2 ≤ (S'.fs k).b.length) := by
        show _ ≤ _
        rw [← hrd]
        exact load_le _ _ _
      have HTE : Hid (trimP S' k (ldP n S' k).2 = if ((S'.fs k).b.length : Int) = ((ldP n S' k).2 : Nat) then (0, S') else cutP S' k (ldP n S' k).2) := by show _ = _; unfold trimP; rw [hrd]
      have HFile : Hid (∀ W, RV W r g S' → Sl r g (m + 1) W ∧ W.cell? ⟨g, k * 2, none⟩ = some (.string ⟨(S'.fs k).b.toArray⟩)) := fun W hW => ⟨by have := hW.sl; rw [hn, HM.out] at this; exact this, (hW.file k (by rw [hn, HM.out]; omega)).1⟩
      have HCut : Hid (∀ (wx : World), RV wx r g S' → Calls Tryz.prog 47 #[.pointer (some ⟨r, 0, none⟩), .int .i64 (k : Nat), .int .i64 ((ldP n S' k).2 : Nat)] wx (RR r g wx (cutP S' k (ldP n S' k).2))) := fun wx hx => Dk.rcut_any _ _ hx ho (Dk.small_mono hs (by omega) (by omega))
      have HQ2 : Hid (Q (trimP S' k (ldP n S' k).2).2) := HQT.out S' k _ (by rw [HM.out]; omega) d2
      have HRS : Hid (openK n (n - 1 - k) k S' R = RES) := d5
      have hmk : n - 1 - k = (n - 1 - (k + 1)) + 1 := by rw [HM.out]; omega
      rw [hmk, openK] at HRS
      have hbl := hs.len k
      have HD1 : Hid _ := d1
      have HD2 : Hid _ := d2
      have HD3 : Hid _ := d3
      have HD4 : Hid _ := d4
      have HD6 : Hid _ := d6
      generalize trimP S' k (ldP n S' k).2 = R1 at *
      generalize cutP S' k (ldP n S' k).2 = RC at *
      generalize ldP n S' k = LP at *
      obtain ⟨L, E⟩ := LP
      simp only at HLo HTE HCut HRS HLE
      generalize (S'.fs k).b = B at *
      obtain ⟨ln, HLN⟩ : ∃ ln, Hid (L.length = ln) := ⟨_, rfl⟩
      rw [HLN.out] at HLo
      clear d1 d2 d3 d4 d5 d6 ho hs hn hh hld hrd hmk HI
      go_wp2_with fail
      refine Calls.mono HLo.out ?_
      rintro e w1 ⟨la, lc, rfl, hlog, hb1⟩
      have HL1 : Hid _ := hlog
      have HB1 : Hid _ := hb1
      have HV1 : Hid _ := Dk.RV.later HD1.out hb1
      obtain ⟨g0, g1⟩ := HFile.out w1 HV1.out
      unfold Sl at g0
      have hbz : (⟨B.toArray⟩ : ByteArray).size = B.length := by simp [ByteArray.size]
      have HKw : Hid (Kp (fun k => k = r ∨ k = g) w w1) := HD6.out.trans (kp_below (r := r) (g := g) hb1) (fun x hx _ => hx)
      have HO3 : Hid (∀ gg, (Value.slice oa k oc).ownBlock = some gg → gg < wr.heap.size) := fun gg hgg => by
        obtain ⟨cs, q2, _⟩ := HD3.out
        exact (World.ownsRow.lt q2 gg hgg).2
      clear hlog hb1 HLo
      have step : ∀ (W : World), RV W r g R1.2 → Kp (fun k => k = r ∨ k = g) w1 W → ∃ v' W', (Builtin.append_ #[51, 51] 51 #[.slice oa k oc, .slice (some ⟨W.heap.size, 0, none⟩) 1 1]).run Tryz.prog (W.alloc (.cells #[.slice la ln lc] 41)) = .ok v' W' ∧ (∃ a' c', v' = .slice a' (k + 1) c') ∧ ((openK n (n - 1 - (k + 1)) (k + 1) R1.2 (R ++ [L]) = RES) → OdS n Q w r g RES (k + 1) v' W') := fun W hV hK => by
        have hb : Below W.heap.size W (W.alloc (.cells #[.slice la ln lc] 41)) := (Below.refl _ _).alloc (Nat.le_refl _) _
        have hsz := hK.size
        have hsz1 := HB1.out.size
        have hsw := HD6.out.size
        have hrl := HRL.out
        have k1 : ∀ b, w.heap.size ≤ b → b < wr.heap.size → (W.alloc (.cells #[.slice la ln lc] 41)).heap[b]? = wr.heap[b]? := fun b b1 b2 => by
          rw [hb.block b (by omega), hK.block b (by omega) (by omega), HB1.out.block b b2]
        have hrw := RwD.kept HD3.out k1 (by have := hb.size; omega)
        have hl2 : LogR w.heap.size (W.alloc (.cells #[.slice la ln lc] 41)) (fun b => (Value.slice oa k oc).ownBlock = some b) (.slice la ln lc) L := by
          have l1 : LogR wr.heap.size (W.alloc (.cells #[.slice la ln lc] 41)) (fun _ => False) (.slice la ln lc) L := LogR.kept HL1.out (fun b b1 b2 _ => by rw [hb.block b (by omega), hK.block b b2 (by omega)]) (fun _ _ h => h) (by have := hb.size; omega)
          exact (l1.lift (fun b hb2 => HO3.out b hb2)).base (by omega)
        obtain ⟨v', W', p1, p2, p3, p4, a', c', p5⟩ := hrw.push (by rw [HD4.out]; omega) (by have := hb.size; omega) L (.slice la ln lc) W.heap.size (by rw [add0, cell_of_row _ _ _ _ 41 (0, 0) (World.alloc_heap_new W _)]; rfl) ⟨_, _, _, rfl⟩ hl2
        rw [List.length_append, HD4.out] at p5
        refine ⟨v', W', p1, ⟨a', c', p5⟩, fun hop => ⟨R1.2, R ++ [L], ?_, HQ2.out, p2, by rw [List.length_append, HD4.out]; rfl, hop, ?_⟩⟩
        · refine Dk.RV.kept (hV.later hb) (T := fun b => some b = (Value.slice oa k oc).ownBlock) ⟨p3.os, p3.tape, p3.output, p3.size, fun b hb hn => p3.block b hb hn⟩ (fun e => ?_) (fun e => ?_)
          · have := p4 r e.symm; omega
          · have := p4 g e.symm; omega
        · have q1 : Kp (fun k => k = r ∨ k = g) w (W.alloc (.cells #[.slice la ln lc] 41)) := (HKw.out.trans hK (fun x hx _ => hx)).trans (kp_below (r := r) (g := g) hb) (fun x hx _ => hx)
          exact q1.trans (T' := fun b => some b = (Value.slice oa k oc).ownBlock) ⟨p3.os, p3.tape, p3.output, p3.size, fun b hb hn => p3.block b hb hn⟩ (fun x hx hl => by have := p4 x hx.symm; omega)
      have HST : Hid _ := step
      clear step HL1 HD3
      by_cases he : B.length = E
      · have e1 : R1 = (0, S') := by rw [HTE.out, if_pos (by rw [he])]
        subst e1
        rw [if_neg (by simp)] at HRS
        have he2 : decide ((E : Int) < (B.length : Int)) = false := decide_eq_false (by omega)
        have he3 : ¬ (E : Int) < (B.length : Int) := by omega
        obtain ⟨v', W', p1, ⟨a', c', rfl⟩, p6⟩ := HST.out w1 HV1.out (Kp.refl _ _)
        have HN : Hid _ := p6 HRS.out
        have HRUN : Hid _ := p1
        clear p1 p6 HST he HTE
        go_wp2_with (at_builtin; refine Dk.wpList_append_run rfl _ _ 51 rfl 46 rfl _ _ _ _ rfl rfl HRUN.out ?_)
        go_roundw
        case rel => exact ⟨k + 1, by omega, by go_num, ⟨_, _, rfl⟩, HN⟩
        case measure => simp [intOf]; omega
      · have e1 : R1 = RC := by rw [HTE.out, if_neg (by intro h; exact he (Int.ofNat.inj h))]
        subst e1
        have he2 : (E : Int) < (B.length : Int) := by have := HLE.out; omega
        have K2 : Hid _ := HCut.out w1 HV1.out
        clear he HTE
        go_wp2_with fail
        refine Calls.mono K2.out ?_
        rintro e w2 ⟨rfl, q2, q3⟩
        have HV2 : Hid _ := q2
        have HK2 : Hid _ := q3
        clear q2 q3 K2
        by_cases hz : R1.1 = 0
        · rw [if_neg (by simpa using hz)] at HRS
          rw [hz]
          obtain ⟨v', W', p1, ⟨a', c', rfl⟩, p6⟩ := HST.out w2 HV2.out HK2.out
          have HN : Hid _ := p6 HRS.out
          have HRUN : Hid _ := p1
          clear p1 p6 HST
          go_wp2_with (at_builtin; refine Dk.wpList_append_run rfl _ _ 51 rfl 46 rfl _ _ _ _ rfl rfl HRUN.out ?_)
          go_roundw
          case rel => exact ⟨k + 1, by omega, by go_num, ⟨_, _, rfl⟩, HN⟩
          case measure => simp [intOf]; omega
        · rw [if_pos (by simpa using hz)] at HRS
          have h5 : (R1.1 != 0) = true := by simpa using hz
          clear hz
          go_wp2_with fail
          go_ret2
          rw [← HRS.out]
          exact ⟨none, 0, rfl, ⟨none, 0, rfl, by simp, by unfold maxLen; omega, fun i L h => by simp at h⟩, HV2.out, HQ2.out, HKw.out.trans HK2.out (fun x hx _ => hx)⟩
    · have hkn : k = m := by omega
      subst hkn
      have e0 : n - 1 - k = 0 := by rw [HM.out]; omega
      rw [e0, openK] at d5
      subst d5
      have HD1 : Hid _ := d1
      have HD2 : Hid _ := d2
      have HD3 : Hid _ := d3.rre
      have HD4 : Hid _ := d4
      have HD6 : Hid _ := d6
      clear d1 d2 d3 d4 d6 ho hs hn HI e0
      go_wp2_with fail
      go_ret2
      have := HD4.out
      subst this
      exact ⟨_, _, rfl, HD3.out, HD1.out, HD2.out, HD6.out⟩
end Go.Proofs.YtijkgdbabikojaaGreat

