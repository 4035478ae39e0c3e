/- Texts of the seat, packed: Wj Sh. -/
import Derived.Test.YtijkgdbabikojaaGreatP28
import Derived.Test.YtijkgdbabikojaaGreatP13
/- The walk over the document's Takes. -/
namespace Go.Proofs.YtijkgdbabikojaaGreat
set_option maxRecDepth 1000000
open Go.RowKit
set_option linter.unusedVariables false

set_option maxRecDepth 1000000 in
set_option maxHeartbeats 1000000 in
theorem rtake_out (l : List UInt8) (p : Int) (w : World) (hp : ¬ (0 ≤ p ∧ p ≤ (l.length : Int))) (hl : l.length ≤ 100000) :
    Calls Tryz.prog 95 #[.string ⟨l.toArray⟩, .int .i64 p] w fun e w' => e = .returned (firstV (0, 0, 2)) ∧ w' = w := by
  have hsz := bsize l
  by_cases h0 : p < 0
  · go_enter Tryz.func95, Tryz.ntmps95
    go_wp2_with fail
    go_ret3
    exact ⟨rfl, rfl⟩
  · have h1 : (l.length : Int) < p := by omega
    go_enter Tryz.func95, Tryz.ntmps95
    go_wp2_with fail
    go_ret3
    exact ⟨rfl, rfl⟩

theorem rtakei_any (l : List UInt8) (p : Int) (w : World) (hl : l.length ≤ 100000) :
    Calls Tryz.prog 95 #[.string ⟨l.toArray⟩, .int .i64 p] w fun e w' => e = .returned (firstV (takeI l p)) ∧ Below w.heap.size w w' := by
  unfold takeI
  by_cases h : 0 ≤ p ∧ p ≤ (l.length : Int)
  · rw [if_pos h]
    obtain ⟨q, rfl⟩ : ∃ q : Nat, p = (q : Int) := ⟨p.toNat, by omega⟩
    rw [Int.toNat_natCast]
    exact rtake_any l q w (by omega) hl
  · rw [if_neg h]
    refine Calls.mono (rtake_out l p w h hl) ?_
    rintro e w' ⟨rfl, rfl⟩
    exact ⟨rfl, Below.refl _ _⟩

theorem append_int {w : World} {ops : Array Oper} {rest : List Oper} {o : Oper} {a : Act} {Q : Exit → Act → World → Prop} (hgd : o.guard = none) (s x : Operand)
    (ho : o.op = .call { callee := .builtin .append, args := #[s, x], argTypes := #[31, 31] }) (base : Nat) (v : Value) (n : Nat) (l : List Int)
    (hs : a.eval s = v) (hown : w.ownsRow base 3 1 v n (ivs l)) (ad : Addr) (z : Int) (hx : a.eval x = .slice (some ad) 1 1) (hc : w.cell? ad = some (.int .i64 z))
    (hn : n ≤ 1000000) (hbase : base ≤ w.heap.size)
    (h : ∀ v' w', w'.ownsRow base 3 1 v' (n + 1) (ivs (l ++ [z])) → Below base w w' → wpList Tryz.prog ops Q rest (a.put o.dst v') w') : wpList Tryz.prog ops Q (o :: rest) a w := by
  obtain ⟨i0, hi, hz0, hz1, hz2⟩ := info_parts Tryz.info3
  have hsp : ad.add 0 = ad := by cases ad; rfl
  refine wpList_append_own _ hgd s x 31 ho base 3 i0 (.int .i64 0) 1 8 Tryz.underlying31 hi hz0 hz1 hz2 rfl (by decide) v n (ivs l) hs hown ad 1 1 (ivs [z]) hx rfl ?_ ?_ (by unfold maxLen; omega) (by omega) hbase ?_
  · intro j u hj
    match j, hj with
    | 0, hj =>
      simp [ivs] at hj
      subst hj
      rw [hsp]
      exact hc
    | j + 1, hj => simp [ivs] at hj
  · intro u hu
    simp [ivs] at hu
    subst hu
    rfl
  · intro v' w' h1 h2 h3
    refine h v' w' ?_ (Below.grown (Below.refl _ _) h2 hbase (fun k hk => (hown.lt k hk).1))
    have e : ivs (l ++ [z]) = ivs l ++ ivs [z] := by simp [ivs]
    rw [e]
    exact h1

theorem cell_new (w : World) (z : Int) : (w.alloc (.cells #[.int .i64 z] 3)).cell? ⟨w.heap.size, 0, none⟩ = some (.int .i64 z) := by
  rw [cell_row (row_new w _ 3)]
  rfl

theorem intL_snoc (xs : List Nat) (v : Nat) : intL (xs ++ [v]) = intL xs ++ [(v : Int)] := by
  unfold intL
  rw [List.map_append]
  rfl

set_option maxRecDepth 1000000 in
set_option maxHeartbeats 1000000 in
theorem rtakes_any (l : List UInt8) (p : Int) (w : World) (hl : l.length ≤ 100000) :
    Calls Tryz.prog 116 #[.string ⟨l.toArray⟩, .int .i64 p] w fun e w' => ListC (listI l p) w.heap.size w e w' := by
  have HT : Hid _ := rtakei_any l p w hl
  obtain ⟨R, HR⟩ : ∃ R, Hid (R = listI l p) := ⟨_, rfl⟩
  rw [← HR.out]
  by_cases hp : 0 ≤ p ∧ p ≤ (l.length : Int)
  · obtain ⟨q, rfl⟩ : ∃ q : Nat, p = (q : Int) := ⟨p.toNat, by omega⟩
    have HR1 : Hid (R = listP l q) := by show _ = _; rw [HR.out]; unfold listI; rw [if_pos hp, Int.toNat_natCast]
    have e1 : takeI l (q : Int) = takeP l q := by unfold takeI; rw [if_pos hp, Int.toNat_natCast]
    rw [e1] at HT
    have hq : q ≤ l.length := by omega
    clear HR hp e1
    by_cases he : (takeP l q).2.2 = 0
    · obtain ⟨a1, a2, a3, _⟩ := take_ok hq he
      by_cases hbig : 255 < (takeP l q).1
      · have HR2 : Hid (R = ([], 0, 5)) := by show _ = _; rw [HR1.out]; unfold listP; rw [if_pos he, if_pos hbig]
        unfold firstV at HT
        rw [he] at HT
        clear HR1 he
        generalize (takeP l q).1 = n at *
        generalize (takeP l q).2.1 = sz at *
        go_enter Tryz.func116, Tryz.ntmps116
        go_wp2_with fail
        refine Calls.mono HT.out ?_
        rintro e w1 ⟨rfl, hb1⟩
        go_wp2_with fail
        go_ret3
        rw [HR2.out]
        exact ⟨none, 0, rfl, RI.nil _, (fun _ h => by cases h), hb1⟩
      · have HR2 : Hid (R = glue [] (takesP l (takeP l q).1 (takeP l q).2.1)) := by show _ = _; rw [HR1.out, glue_nil]; unfold listP; rw [if_pos he, if_neg hbig]
        unfold firstV at HT
        rw [he] at HT
        clear HR1 he
        generalize (takeP l q).1 = n at *
        generalize (takeP l q).2.1 = sz at *
        go_enter Tryz.func116, Tryz.ntmps116
        go_wp2_with fail
        refine Calls.mono HT.out ?_
        rintro e w1 ⟨rfl, hb1⟩
        have HB1 : Hid (Below w.heap.size w w1) := hb1
        have HO1 : Hid (w1.ownsRow w.heap.size 3 1 (.slice none 0 0) 0 (ivs (intL []))) := World.ownsRow_nil _ _ _ _
        clear HT hb1
        go_wp2_with fail
        go_loopw [1, 9, 10] (fun av ov iv wr => ∃ (k m : Nat) (xs : List Nat) (oa : Option Addr) (oc : Nat), k ≤ n ∧ m ≤ l.length ∧ iv = .int .i64 k ∧ av = .int .i64 m ∧ ov = .slice oa k oc ∧ Hid (xs.length = k) ∧ Hid (wr.ownsRow w.heap.size 3 1 (.slice oa k oc) k (ivs (intL xs))) ∧ Hid (R = glue xs (takesP l (n - k) m)) ∧ Hid (Below w.heap.size w wr)) (fun _ _ iv _ => n - (intOf iv).toNat)
        case atStart => exact ⟨0, sz, [], none, 0, Nat.zero_le _, by omega, rfl, rfl, rfl, rfl, HO1, HR2, HB1⟩
        case round =>
          obtain ⟨k, m, xs, oa, oc, hk, hm, rfl, rfl, rfl, HXL, HOw, HRR, HB⟩ := hrel
          rename World => wr
          clear HO1 HB1 HR2
          by_cases hlt : k < n
          · have HT : Hid _ := rtake_any l m wr hm (by omega)
            unfold firstV at HT
            have hnk : n - k = (n - (k + 1)) + 1 := by omega
            by_cases he : (takeP l m).2.2 = 0
            · obtain ⟨b1, b2, b3, _⟩ := take_ok hm he
              have HRR2 : Hid (R = glue (xs ++ [(takeP l m).1]) (takesP l (n - (k + 1)) (takeP l m).2.1)) := by show _ = _; rw [HRR.out, hnk, glue_step _ _ _ _ he]
              rw [he] at HT
              clear he HRR
              generalize (takeP l m).1 = v at *
              generalize (takeP l m).2.1 = m2 at *
              have HXL2 : Hid ((xs ++ [v]).length = k + 1) := by show _ = _; rw [List.length_append, HXL.out]; rfl
              clear hnk
              go_wp2_with fail
              refine Calls.mono HT.out ?_
              rintro e w3 ⟨rfl, hb3⟩
              have HB3 : Hid (Below w.heap.size w w3) := HB.out.trans (hb3.mono HB.out.size)
              have HO3 : Hid (w3.ownsRow w.heap.size 3 1 (.slice oa k oc) k (ivs (intL xs))) := owns_later HOw.out hb3
              have HS3 : Hid (w.heap.size ≤ w3.heap.size) := HB3.out.size
              clear hb3 HT
              go_wp2_with (first
                | (at_builtin; refine append_int rfl _ _ rfl w.heap.size _ k (intL xs) rfl (owns_later HO3.out ((Below.refl _ _).alloc (Nat.le_refl _) _)) _ (v : Int) rfl (cell_new w3 (v : Int)) (by omega) (by have := HS3.out; simp; omega) ?_; intro v4 w4 ho4 hb4; obtain ⟨a4, c4, rfl⟩ := owns_len ho4; have HO4 : Hid (w4.ownsRow w.heap.size 3 1 (.slice a4 (k + 1) c4) (k + 1) (ivs (intL xs ++ [(v : Int)]))) := ho4; have HB4 : Hid (Below w.heap.size w w4) := ((HB3.out.alloc HS3.out _).trans hb4); clear ho4 hb4))
              go_roundw
              case rel => exact ⟨k + 1, m2, xs ++ [v], a4, c4, by omega, by omega, by go_num, rfl, rfl, HXL2, by show World.ownsRow _ _ _ _ _ _ _; rw [intL_snoc]; exact HO4.out, HRR2, HB4⟩
              case measure => simp [intOf]; omega
            · have HRR2 : Hid (R = ([], 0, (takeP l m).2.2)) := by show _ = _; rw [HRR.out, hnk, glue_err _ _ _ _ he]
              obtain ⟨b1, b2, b3⟩ := take_err he
              rw [b1, b2] at HT
              clear b1 b2 HRR hnk
              generalize (takeP l m).2.2 = er at *
              go_wp2_with fail
              refine Calls.mono HT.out ?_
              rintro e w3 ⟨rfl, hb3⟩
              have HB3 : Hid (Below w.heap.size w w3) := HB.out.trans (hb3.mono HB.out.size)
              clear hb3
              go_wp2_with fail
              go_ret3
              rw [HRR2.out]
              exact ⟨none, 0, rfl, RI.nil _, (fun _ h => by cases h), HB3.out⟩
          · have hkn : k = n := by omega
            have HRR2 : Hid (R = (xs, m, 0)) := by show _ = _; rw [HRR.out, hkn, Nat.sub_self, glue_end]
            have HXN : Hid (xs.length = k) := HXL.out
            have HRI : Hid (RI wr (.slice oa k oc) (intL xs)) := RI.of_owns HOw.out (by rw [intL_len, HXN.out])
            have HLT : Hid (∀ a, oa = some a → w.heap.size ≤ a.block) := fun a h => (World.ownsRow.lt HOw.out a.block (by subst h; rfl)).1
            clear HRR HOw hkn
            go_wp2_with fail
            go_ret3
            rw [HRR2.out]
            refine ⟨oa, oc, ?_, ?_, HLT.out, HB.out⟩
            · rw [show ((xs, m, 0) : List Nat × Nat × Nat).1.length = k from HXN.out]
              rfl
            · rw [show ((xs, m, 0) : List Nat × Nat × Nat).1.length = k from HXN.out]
              exact HRI.out
    · have HR2 : Hid (R = ([], 0, (takeP l q).2.2)) := by show _ = _; rw [HR1.out]; unfold listP; rw [if_neg he]
      unfold firstV at HT
      clear HR1
      generalize (takeP l q).1 = n at *
      generalize (takeP l q).2.1 = sz at *
      generalize (takeP l q).2.2 = er at *
      go_enter Tryz.func116, Tryz.ntmps116
      go_wp2_with fail
      refine Calls.mono HT.out ?_
      rintro e w1 ⟨rfl, hb1⟩
      go_wp2_with fail
      go_ret3
      rw [HR2.out]
      exact ⟨none, 0, rfl, RI.nil _, (fun _ h => by cases h), hb1⟩
  · have HR2 : Hid (R = ([], 0, 2)) := by show _ = _; rw [HR.out]; unfold listI; rw [if_neg hp]
    have e1 : takeI l p = (0, 0, 2) := by unfold takeI; rw [if_neg hp]
    rw [e1] at HT
    unfold firstV at HT
    clear HR e1
    go_enter Tryz.func116, Tryz.ntmps116
    go_wp2_with fail
    refine Calls.mono HT.out ?_
    rintro e w1 ⟨rfl, hb1⟩
    go_wp2_with fail
    go_ret3
    rw [HR2.out]
    exact ⟨none, 0, rfl, RI.nil _, (fun _ h => by cases h), hb1⟩
end Go.Proofs.YtijkgdbabikojaaGreat

/- The walks over the document's Bytes and Read of stamps. -/
namespace Go.Proofs.YtijkgdbabikojaaGreat
set_option maxRecDepth 1000000
open Go.RowKit
set_option linter.unusedVariables false

set_option maxRecDepth 1000000 in
set_option maxHeartbeats 1000000 in
theorem rbytes_any (a : List UInt8) (y : Value) (l : List Int) (w : World) (hy : RI w y l) (ha : a.length ≤ 90000) (hl : l.length ≤ 1000000) :
    Calls Tryz.prog 114 #[.string ⟨a.toArray⟩, y] w fun e w' => e = .returned (.tuple #[.string ⟨(bytR a l).toArray⟩, .int .i64 (chkE l : Nat)]) ∧ Below w.heap.size w w' := by
  have HC : Hid _ := rright_any y l w hy hl
  have HP : Hid _ := rputs_any a y l w hy ha hl
  obtain ⟨ya, yc, rfl, _, _, _⟩ := hy
  unfold bytR chkE at *
  by_cases h : okS l = true
  · rw [(puts_ok (a := a) h).1, (puts_ok (a := a) h).2] at HP
    rw [h] at HC
    rw [if_pos h, if_pos h]
    clear h
    generalize a ++ putsP (natL l) = S at *
    go_enter Tryz.func114, Tryz.ntmps114
    go_wp2_with fail
    refine Calls.mono HC.out ?_
    rintro e w1 ⟨rfl, rfl⟩
    go_wp2_with fail
    refine Calls.mono HP.out ?_
    rintro e w2 ⟨rfl, hb⟩
    have HB : Hid _ := hb
    clear hb
    go_wp2_with fail
    go_ret2
    exact ⟨rfl, HB.out⟩
  · have h2 : okS l = false := by simpa using h
    rw [h2] at HC
    rw [if_neg h, if_neg h]
    clear h h2 HP
    go_enter Tryz.func114, Tryz.ntmps114
    go_wp2_with fail
    refine Calls.mono HC.out ?_
    rintro e w1 ⟨rfl, rfl⟩
    go_wp2_with fail
    go_ret2
    exact ⟨rfl, Below.refl _ _⟩

set_option maxRecDepth 1000000 in
set_option maxHeartbeats 1000000 in
theorem rread_any (b : List UInt8) (p : Int) (w : World) (hb : b.length ≤ 100000) :
    Calls Tryz.prog 96 #[.string ⟨b.toArray⟩, .int .i64 p] w fun e w' => ListC (readP b p) w.heap.size w e w' := by
  have HT : Hid _ := rtakes_any b p w hb
  have hsm := list_small b p
  unfold readP
  generalize listI b p = r at *
  obtain ⟨ns, m, E⟩ := r
  unfold ListC at HT
  dsimp only at *
  by_cases he : E = 0
  · subst he
    rw [if_pos rfl]
    by_cases hok : okS (intL ns) = true
    · rw [if_pos hok]
      have HCK : Hid (∀ (wx : World) (v : Value), RI wx v (intL ns) → Calls Tryz.prog 92 #[v] wx fun e w' => e = .returned (.bool true) ∧ w' = wx) := by
        show ∀ wx v, _
        intro wx v hv
        have := rright_any v (intL ns) wx hv (by rw [intL_len]; exact hsm)
        rw [hok] at this
        exact this
      clear hok hsm
      go_enter Tryz.func96, Tryz.ntmps96
      go_wp2_with fail
      refine Calls.mono HT.out ?_
      rintro e w1 ⟨v, c, rfl, hr, hp1, hb1⟩
      have HP1 : Hid _ := hp1
      clear hp1
      have HR : Hid (RI w1 (.slice v ns.length c) (intL ns)) := hr
      have HB : Hid _ := hb1
      clear hr hb1
      go_wp2_with fail
      refine Calls.mono (HCK.out _ _ HR.out) ?_
      rintro e w2 ⟨rfl, rfl⟩
      go_wp2_with fail
      go_ret3
      exact ⟨_, _, rfl, HR.out, HP1.out, HB.out⟩
    · rw [if_neg hok]
      have hok2 : okS (intL ns) = false := by simpa using hok
      have HCK : Hid (∀ (wx : World) (v : Value), RI wx v (intL ns) → Calls Tryz.prog 92 #[v] wx fun e w' => e = .returned (.bool false) ∧ w' = wx) := by
        show ∀ wx v, _
        intro wx v hv
        have := rright_any v (intL ns) wx hv (by rw [intL_len]; exact hsm)
        rw [hok2] at this
        exact this
      clear hok hok2 hsm
      go_enter Tryz.func96, Tryz.ntmps96
      go_wp2_with fail
      refine Calls.mono HT.out ?_
      rintro e w1 ⟨v, c, rfl, hr, hp1, hb1⟩
      have HP1 : Hid _ := hp1
      clear hp1
      have HR : Hid (RI w1 (.slice v ns.length c) (intL ns)) := hr
      have HB : Hid _ := hb1
      clear hr hb1
      go_wp2_with fail
      refine Calls.mono (HCK.out _ _ HR.out) ?_
      rintro e w2 ⟨rfl, rfl⟩
      go_wp2_with fail
      go_ret3
      exact ⟨none, 0, rfl, RI.nil _, (fun _ h => by cases h), HB.out⟩
  · rw [if_neg he]
    clear hsm
    go_enter Tryz.func96, Tryz.ntmps96
    go_wp2_with fail
    refine Calls.mono HT.out ?_
    rintro e w1 ⟨v, c, rfl, _, _, hb1⟩
    have HB : Hid _ := hb1
    clear hb1
    go_wp2_with fail
    go_ret3
    exact ⟨none, 0, rfl, RI.nil _, (fun _ h => by cases h), HB.out⟩
end Go.Proofs.YtijkgdbabikojaaGreat

