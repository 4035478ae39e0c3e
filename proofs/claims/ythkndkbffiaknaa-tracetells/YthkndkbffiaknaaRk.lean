/- Left. -/
import Derived.Test.YthkndkbffiaknaaRj
import Derived.Test.YthkndkbffiaknaaSh
import Derived.Maps.RangeWalk
namespace Go.Proofs.Ythkndkbffiaknaa.Tz
open Go.RowKit Go.Shelf Go.Proofs.Ythkndkbffiaknaa
set_option maxRecDepth 1000000
set_option linter.unusedVariables false

theorem KM.range' {α : Type} {ev : α → Value} {w : World} {b n : Nat} {f : Kx → Option α} {t e : TypeId} (h : KM ev w b n f) (ht : Try.prog.underlying t = some (.map 24 e)) : ∃ w2, (Instr.range t (.map (some b))).run Try.prog w = .ok (.pointer (some ⟨w.heap.size, 0, none⟩)) w2 ∧ KR ev w2 b w.heap.size n f (fun _ => False) ∧ Below w.heap.size w w2 ∧ w2.heap.size = w.heap.size + 1 := by
  obtain ⟨h1, h2⟩ := h.range ht
  exact ⟨_, h1, h2, bl1 _ _, by simp⟩

/-- A row of ints and a map, or what goes through it, are two blocks. -/
theorem row_ne_block {w : World} {base : Nat} {v : Value} {n b : Nat} {xs : List Value} (h : w.ownsRow base 3 1 v n xs) {o : Obj} (hb : w.heap[b]? = some o) (hn : o.isCells = false) : some b ≠ v.ownBlock := by
  rcases h.2 with ⟨rfl, _⟩ | ⟨g, cap, cur, rfl, _, hg, _⟩
  · simp [Value.ownBlock]
  · intro e1
    have : b = g := by simpa [Value.ownBlock] using e1
    subst this
    rw [hb] at hg
    cases hg
    cases hn
theorem KR.grown {α : Type} {ev : α → Value} {w w' : World} {b r n m base : Nat} {f : Kx → Option α} {D : Kx → Prop} (h : KR ev w b r n f D) {v : Value} {xs : List Value} (hrow : w.ownsRow base 3 1 v m xs) (hg : w.grownBy w' v.ownBlock) : KR ev w' b r n f D ∧ w'.rangeLeft b r = w.rangeLeft b r := by
  obtain ⟨es, clock, since, seen, c0, h1, h2, h3, h4, h5, h6, h7⟩ := id h
  have e1 := hg.block b h.km.lt (row_ne_block hrow h1 rfl)
  have e2 := hg.block r h.lt (row_ne_block hrow h6 rfl)
  exact ⟨h.of_block e1 e2, left_block e1 e2⟩

theorem append_int9 {w : World} {ops : Array Oper} {rest : List Oper} {o : Oper} {a : Act} {Q : Exit → Act → World → Prop} (hgd : o.guard = none) (s x : Operand)
    (ho : o.op = .call { callee := .builtin .append, args := #[s, x], argTypes := #[33, 33] }) (base : Nat) (v : Value) (n : Nat) (l : List Int)
    (hs : a.eval s = v) (hown : w.ownsRow base 3 1 v n (ivs l)) (ad : Addr) (z : Int) (hx : a.eval x = .slice (some ad) 1 1) (hc : w.cell? ad = some (.int .i64 z))
    (hn : n ≤ 1000000) (hbase : base ≤ w.heap.size)
    (h : ∀ v' w', w'.ownsRow base 3 1 v' (n + 1) (ivs (l ++ [z])) → w.grownBy w' v.ownBlock → wpList Try.prog ops Q rest (a.put o.dst v') w') : wpList Try.prog ops Q (o :: rest) a w := by
  obtain ⟨i0, hi, hz0, hz1, hz2⟩ := info_parts Try.info3
  have hsp : ad.add 0 = ad := by cases ad; rfl
  refine wpList_append_own _ hgd s x 33 ho base 3 i0 (.int .i64 0) 1 8 Try.underlying33 hi hz0 hz1 hz2 rfl (by decide) v n (ivs l) hs hown ad 1 1 (ivs [z]) hx rfl ?_ ?_ (by unfold maxLen; omega) (by omega) hbase ?_
  · intro j u hj
    match j, hj with
    | 0, hj =>
      simp [ivs] at hj
      subst hj
      rw [hsp]
      exact hc
    | j + 1, hj => simp [ivs] at hj
  · intro u hu
    simp [ivs] at hu
    subst hu
    rfl
  · intro v' w' h1 h2 h3
    refine h v' w' ?_ h2
    have e : ivs (l ++ [z]) = ivs l ++ ivs [z] := by simp [ivs]
    rw [e]
    exact h1

/-- Between two entries. -/
structure LeS (w : World) (l : List Ef) (n b r : Nat) (D : Kx → Prop) (out : List Int) (v : Value) (wr : World) : Prop where
  kr : KR SV wr b r n (dd l 0) D
  row : wr.ownsRow w.heap.size 3 1 v out.length (ivs out)
  lf : LfI l D out
  bel : Below w.heap.size w wr
  rl : w.heap.size ≤ r
theorem LeS.later {w : World} {l : List Ef} {n b r : Nat} {D : Kx → Prop} {out : List Int} {v : Value} {wr wr' : World} (h : LeS w l n b r D out v wr) (hb : Below wr.heap.size wr wr') : LeS w l n b r D out v wr' ∧ wr'.rangeLeft b r = wr.rangeLeft b r :=
  ⟨⟨h.kr.later hb, owns_later h.row hb, h.lf, h.bel.trans (hb.mono h.bel.size), h.rl⟩, left_block (hb.block _ h.kr.km.lt) (hb.block _ h.kr.lt)⟩

set_option maxHeartbeats 16000000 in
theorem left_any (l : List Ef) (v : Value) (hl : l.length ≤ 1000000) (w : World) (hv : RE w v l) :
    Calls Try.prog 17 #[v] w fun e w' => ∃ rv out, e = .returned rv ∧ RI w' rv out ∧ out.Pairwise (· < ·) ∧ (∀ x, x ∈ out ↔ leftP l x) ∧ Below w.heap.size w w' := by
  obtain ⟨a, c, hvs, hlc⟩ := hv.slice
  subst hvs
  have HC : Hid _ := deeds_any l _ hl w hv
  obtain ⟨n, hn⟩ : ∃ n, l.length = n := ⟨_, rfl⟩
  have HN : Hid (l.length = n) := hn
  have HLN : Hid (l.length ≤ 1000000) := hl
  rw [hn] at HC ⊢
  clear hv hn hl hlc
  go_enter Try.func17, Try.ntmps17
  go_wp2_with fail
  refine Calls.mono HC.out ?_
  rintro e w1 ⟨rfl, hkm, hb1⟩
  obtain ⟨w2, hrg, hkr, hb2, hs2⟩ := hkm.range' Try.underlying50
  obtain ⟨r, hr⟩ : ∃ r, w1.heap.size = r := ⟨_, rfl⟩
  rw [hr] at hrg hkr
  have H0 : Hid (LeS w l n w.heap.size r (fun _ => False) [] (.slice none 0 0) w2) := ⟨hkr, ⟨rfl, .inl ⟨rfl, rfl⟩⟩, lf_start l, hb1.trans (hb2.mono hb1.size), by rw [← hr]; exact hb1.size⟩
  clear HC hkm hb1 hb2 hs2 hkr
  go_wp2_with fail
  clear hrg hr
  go_loopw [3] (fun v wr => ∃ D out vv, v = vv ∧ Hid (LeS w l n w.heap.size r D out vv wr)) (fun _ wr => wr.rangeLeft w.heap.size r)
  case atStart => exact ⟨_, _, _, rfl, H0⟩
  case round =>
    rename World => wr
    obtain ⟨D, out, v, hv, HS⟩ := hrel
    replace hv := hv.symm
    subst hv
    clear H0
    rcases HS.out.kr.next 0 with ⟨hall, hnx⟩ | ⟨k, s, w3, hf, hwf, hnd, hnx, hkr3, hlt, hgr, hsz, hent⟩
    · -- all have come
      obtain ⟨hso, hmem⟩ := HS.out.lf.sorted HLN.out hall
      have HSO : Hid _ := hso
      have HMM : Hid _ := hmem
      have hlen : out.length ≤ 1000000 := Nat.le_trans HS.out.lf.len HLN.out
      rcases id HS.out.row.2 with ⟨h0, hn0⟩ | ⟨g, cap, cur, h0, _⟩
      · subst h0
        have HST : Hid _ := sort_none wr
        have ho : out = [] := List.eq_nil_of_length_eq_zero hn0
        clear hso hmem
        go_wp2_with fail
        refine Calls.mono HST.out ?_
        rintro e w4 ⟨rfl, rfl⟩
        clear HST
        go_wp2_with fail
        go_ret
        exact ⟨.slice none 0 0, _, rfl, (show RI w4 (.slice none 0 0) (out.mergeSort fun x y => decide (x ≤ y)) by rw [ho, List.mergeSort_nil]; exact RI.nil _), HSO.out, HMM.out, HS.out.bel⟩
      · subst h0
        have HST : Hid _ := sort_any HS.out.row rfl hlen
        obtain ⟨m, hm⟩ : ∃ m, out.length = m := ⟨_, rfl⟩
        rw [hm] at HST ⊢
        have HGB : Hid (w.heap.size ≤ g) := (HS.out.row.lt g rfl).1
        clear hso hmem
        go_wp2_with fail
        refine Calls.mono HST.out ?_
        rintro e w4 ⟨rfl, hr4, hg4⟩
        have HR4 : Hid _ := hr4
        have HB4 : Hid (Below w.heap.size w w4) := HS.out.bel.grown hg4 HS.out.bel.size (fun k hk => by cases hk; exact HGB.out)
        clear HST hr4 hg4
        go_wp2_with fail
        go_ret
        exact ⟨_, _, rfl, RI.of_owns HR4.out (by rw [List.length_mergeSort]; exact hm.symm), HSO.out, HMM.out, HB4.out⟩
    · -- one entry
      have hk0 : k.2.2 = 0 := dd_try hf
      have hrow3 : w3.ownsRow w.heap.size 3 1 v out.length (ivs out) := by
        obtain ⟨_, _, _, _, _, _, _, _, _, _, h6, _⟩ := HS.out.kr
        refine HS.out.row.kept hgr (.inr (fun e => row_ne_block HS.out.row h6 rfl e.symm))
      have hbel3 : Below w.heap.size w w3 := HS.out.bel.grown hgr HS.out.bel.size (fun q hq => by cases hq; exact HS.out.rl)
      have HW3 : Hid (KR SV w3 w.heap.size r n (dd l 0) (fun x => D x ∨ x = k) ∧ w3.ownsRow w.heap.size 3 1 v out.length (ivs out) ∧ Below w.heap.size w w3) := ⟨hkr3, hrow3, hbel3⟩
      have HLT : Hid (w3.rangeLeft w.heap.size r < wr.rangeLeft w.heap.size r) := hlt
      have HND : Hid (¬ D k ∧ dd l 0 k = some s ∧ k.2.2 = 0) := ⟨hnd, hf, hk0⟩
      have HUN : Hid (Calls Try.prog 26 #[.map (some w.heap.size), .int .i64 k.1] ((w3.alloc (.cells #[.int .i64 k.1, .bool k.2.1, .int .i64 k.2.2] 24)).alloc (.cells #[.int .i64 s.first, .int .i64 s.well, .int .i64 s.last] 53)) fun e w' => e = .returned (SV (spD (dd l 0 (k.1, true, 0)))) ∧ Below ((w3.alloc (.cells #[.int .i64 k.1, .bool k.2.1, .int .i64 k.2.2] 24)).alloc (.cells #[.int .i64 s.first, .int .i64 s.well, .int .i64 s.last] 53)).heap.size ((w3.alloc (.cells #[.int .i64 k.1, .bool k.2.1, .int .i64 k.2.2] 24)).alloc (.cells #[.int .i64 s.first, .int .i64 s.well, .int .i64 s.last] 53)) w') := undoing_any ((hkr3.km).later (bl2 _ _ _)) hwf.1
      have HLS : Hid (∀ (D2 : Kx → Prop) (w9 : World), LfI l D2 out → D2 = (fun x => D x ∨ x = k) → Below w3.heap.size w3 w9 → LeS w l n w.heap.size r D2 out v w9 ∧ w9.rangeLeft w.heap.size r < wr.rangeLeft w.heap.size r) := fun D2 w9 h1 h2 h3 => by
        subst h2
        refine ⟨⟨hkr3.later h3, owns_later hrow3 h3, h1, hbel3.trans (h3.mono hbel3.size), HS.out.rl⟩, ?_⟩
        rw [left_block (h3.block _ hkr3.km.lt) (h3.block _ hkr3.lt)]
        exact hlt
      unfold KV SV at hnx hent
      obtain ⟨ki, ku, kt⟩ := k
      dsimp only at *
      clear hkr3 hrow3 hbel3 hlt hgr hsz hnd hf hwf
      have c0 : ((w3.alloc (.cells #[.int .i64 ki, .bool ku, .int .i64 kt] 24)).alloc (.cells #[.int .i64 s.first, .int .i64 s.well, .int .i64 s.last] 53)).cell? ⟨w3.heap.size, 0, none⟩ = some (.int .i64 ki) := (cell_row (row_later (heap_alloc_new w3 _) (bl1 _ _)) 0).trans rfl
      have c1 : ((w3.alloc (.cells #[.int .i64 ki, .bool ku, .int .i64 kt] 24)).alloc (.cells #[.int .i64 s.first, .int .i64 s.well, .int .i64 s.last] 53)).cell? ⟨w3.heap.size, 1, none⟩ = some (.bool ku) := (cell_row (row_later (heap_alloc_new w3 _) (bl1 _ _)) 1).trans rfl
      cases ku with
      | true =>
        have HF : Hid (LfI l (fun x => D x ∨ x = (ki, true, kt)) out) := HS.out.lf.skip (.inl rfl)
        obtain ⟨g1, g2⟩ := HLS.out _ ((w3.alloc (.cells #[.int .i64 ki, .bool true, .int .i64 kt] 24)).alloc (.cells #[.int .i64 s.first, .int .i64 s.well, .int .i64 s.last] 53)) HF.out rfl (bl2 _ _ _)
        have G1 : Hid _ := g1
        have G2 : Hid _ := g2
        clear g1 g2 hk0
        go_wp2_with fail
        go_roundw
        case rel => exact ⟨_, _, _, rfl, G1⟩
        case measure => exact G2.out
      | false =>
        have hkt : kt = 0 := hk0
        subst hkt
        obtain ⟨sf, sw, sl⟩ := s
        dsimp only at *
        have HSW : Hid ((spD (dd l 0 (ki, false, 0))).well = sw) := by show _ = _; rw [HND.out.2.1]; rfl
        by_cases hw : sw = 9223372036854775807
        · have HF : Hid (LfI l (fun x => D x ∨ x = (ki, false, 0)) out) := HS.out.lf.skip (.inr fun hp => ((left_deeds HLN.out ki).1 hp).1 (by rw [HSW.out]; exact hw))
          obtain ⟨g1, g2⟩ := HLS.out _ ((w3.alloc (.cells #[.int .i64 ki, .bool false, .int .i64 0] 24)).alloc (.cells #[.int .i64 sf, .int .i64 sw, .int .i64 sl] 53)) HF.out rfl (bl2 _ _ _)
          have G1 : Hid _ := g1
          have G2 : Hid _ := g2
          clear g1 g2 hk0
          subst hw
          go_wp2_with fail
          go_roundw
          case rel => exact ⟨_, _, _, rfl, G1⟩
          case measure => exact G2.out
        · obtain ⟨u, hu⟩ : ∃ u, spD (dd l 0 (ki, true, 0)) = u := ⟨_, rfl⟩
          have HU : Hid (spD (dd l 0 (ki, true, 0)) = u) := hu
          rw [hu] at HUN
          unfold SV at HUN
          obtain ⟨uf, uw, ul⟩ := u
          dsimp only at *
          clear hk0 hu
          have hfld : ∀ wx, (Instr.field 53 (.agg #[.int .i64 uf, .int .i64 uw, .int .i64 ul]) 1).run Try.prog wx = .ok (.int .i64 uw) wx := fun wx => by kernel_rfl
          have hwb : (sw != 9223372036854775807) = true := by simpa using hw
          by_cases huw : uw = 9223372036854775807
          · subst huw
            have HP : Hid (leftP l ki) := (left_deeds HLN.out ki).2 ⟨by rw [HSW.out]; exact hw, by rw [HU.out]; rfl⟩
            have HF : Hid (LfI l (fun x => D x ∨ x = (ki, false, 0)) (out ++ [ki])) := HS.out.lf.add HND.out.1 rfl rfl HP.out
            go_wp2_with fail
            refine Calls.mono HUN.out ?_
            rintro e w6 ⟨rfl, hb6⟩
            have hb36 : Below w3.heap.size w3 w6 := (bl2 w3 _ _).trans (hb6.mono (by simp; omega))
            have HB36 : Hid _ := hb36
            have d0 : w6.cell? ⟨w3.heap.size, 0, none⟩ = some (.int .i64 ki) := cell_later hb6 c0
            have hown : (w6.alloc (.cells #[.int .i64 ki] 3)).ownsRow w.heap.size 3 1 v out.length (ivs out) := owns_later (owns_later HW3.out.2.1 hb36) (bl1 _ _)
            have hlen : out.length ≤ 1000000 := Nat.le_trans HS.out.lf.len HLN.out
            have hle : w.heap.size ≤ (w6.alloc (.cells #[.int .i64 ki] 3)).heap.size := by have := HW3.out.2.2.size; have := hb36.size; simp; omega
            clear hb6 hb36 c0 c1 HUN
            go_wp2_with (first | (at_builtin; refine append_int9 rfl _ _ rfl w.heap.size v out.length out rfl hown ⟨w6.heap.size, 0, none⟩ ki rfl (cell_new w6 ki) hlen hle ?_; intro v7 w7 hr7 hg7))
            have hb8 : Below w3.heap.size w3 (w6.alloc (.cells #[.int .i64 ki] 3)) := HB36.out.trans ((bl1 w6 _).mono HB36.out.size)
            have hkr8 : KR SV (w6.alloc (.cells #[.int .i64 ki] 3)) w.heap.size r n (dd l 0) (fun x => D x ∨ x = (ki, false, 0)) := HW3.out.1.later hb8
            obtain ⟨hk7, hl7⟩ := hkr8.grown hown hg7
            refine ⟨⟨_, out ++ [ki], v7, rfl, ⟨hk7, ?_, HF.out, ?_, HS.out.rl⟩⟩, ?_⟩
            · rw [List.length_append]
              exact hr7
            · exact (HW3.out.2.2.trans (hb8.mono HW3.out.2.2.size)).grown hg7 hle (fun q hq => (hown.lt q hq).1)
            · rw [hl7, left_block (hb8.block _ HW3.out.1.km.lt) (hb8.block _ HW3.out.1.lt)]
              exact HLT.out
          · have HF : Hid (LfI l (fun x => D x ∨ x = (ki, false, 0)) out) := HS.out.lf.skip (.inr fun hp => huw (by have := ((left_deeds HLN.out ki).1 hp).2; rw [HU.out] at this; exact this))
            have hub : (uw == 9223372036854775807) = false := by simpa using huw
            go_wp2_with fail
            refine Calls.mono HUN.out ?_
            rintro e w6 ⟨rfl, hb6⟩
            obtain ⟨g1, g2⟩ := HLS.out _ w6 HF.out rfl ((bl2 w3 _ _).trans (hb6.mono (by simp; omega)))
            have G1 : Hid _ := g1
            have G2 : Hid _ := g2
            clear g1 g2 hb6 c0 c1 HUN
            go_wp2_with fail
            go_roundw
            case rel => exact ⟨_, _, _, rfl, G1⟩
            case measure => exact G2.out
end Go.Proofs.Ythkndkbffiaknaa.Tz
