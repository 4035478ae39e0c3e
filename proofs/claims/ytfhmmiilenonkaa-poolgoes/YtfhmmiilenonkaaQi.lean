/- What a worker does next: next, Take. -/
import Derived.Test.YtfhmmiilenonkaaQh
namespace Go.Proofs.Ytfhmmiilenonkaa
open Go.RowKit Go.Shelf
set_option maxRecDepth 1000000
set_option linter.unusedVariables false

variable {N : Nat} {F : Nat → Prop} {w w' : World} {p n : Nat} {s : Pq.St Jb}

theorem pop_wq (h : LP N F w p n s) {v : Nat} (hv : v < n) (hl : (s.row v).length ≤ 1000000) : ∃ q, w.cell? ⟨p, 1 + v * 2, none⟩ = some (.pointer (some ⟨q, 0, none⟩)) ∧ ∀ wx, Below w.heap.size w wx → Calls Try.prog 52 #[.pointer (some ⟨q, 0, none⟩)] wx fun e w' =>
    ∃ sv, e = .returned (.tuple #[JV (takeP true (s.row v)).1.1 sv, .int .i64 (takeP true (s.row v)).1.2]) ∧ RS (fun k => k ≠ p ∧ ¬ F k) w' sv (takeP true (s.row v)).1.1.s ∧ LP N F w' p n ⟨s.rows.set v (takeP true (s.row v)).2, s.hold⟩ ∧ Kp (Mv N F) wx w' := by
  obtain ⟨q, T, cq, hdq, hT, hTp, hres⟩ := h.dq hv
  refine ⟨q, cq, fun wx hb => Calls.mono (pop_any T wx q (s.row v) (hdq.later hb) hl) ?_⟩
  rintro e w' ⟨sv, rfl, q1, q2, q3⟩
  exact ⟨sv, rfl, q1.mono (fun k _ hk => ⟨hTp k hk, (hT k hk).2⟩), hres wx w' T _ hb q3 q2 (fun k hk => .inl hk), q3.mono hT⟩

/-- What a worker does next, from where it is. -/
def nextP (s : Pq.St Jb) (v : Nat) (l : List Nat) : Option (Jb × Nat × Pq.St Jb) :=
  match s.hd v with
  | some j => some (j, v, ⟨s.rows, s.hold.set v none⟩)
  | none => match (s.row v).getLast? with
    | some j => some (j, v, ⟨s.rows.set v (s.row v).dropLast, s.hold⟩)
    | none => match firstP false s l with
      | some r => some r
      | none => firstP true s l

/-- What next tells. -/
def NxC (N : Nat) (F : Nat → Prop) (w : World) (p n : Nat) (s : Pq.St Jb) (o : Option (Jb × Nat × Pq.St Jb)) (e : Ending) (w' : World) : Prop :=
  Kp (Mv N F) w w' ∧ match o with
  | some (j, v, s') => ∃ sv, e = .returned (.tuple #[JV j sv, .int .i64 v, .int .i64 0]) ∧ RS (fun k => k ≠ p ∧ ¬ F k) w' sv j.s ∧ LP N F w' p n s'
  | none => e = .returned (.tuple #[JV zJ (.slice none 0 0), .int .i64 0, .int .i64 6]) ∧ LP N F w' p n s

theorem results_j4 {fn : Func} {p q u : Tmp} (h : fn.results = #[.cell p 37, .tmp q, .tmp u]) (tmps : Array Value) (w : World) {g : Nat} {e : Jb} {v : Value}
    (hp : tmps.getD p undef = .pointer (some ⟨g, 0, none⟩)) (hg : w.heap[g]? = some (.cells (jrow (e, v)).toArray 37 (0, 0))) :
    (results fn tmps).run Try.prog w = .ok (.tuple #[JV e v, tmps.getD q undef, tmps.getD u undef]) w := by
  have hp' : tmps[p]?.getD undef = .pointer (some ⟨g, 0, none⟩) := by simpa using hp
  simp [results, h, hp', asAddr, run_loadVar_row (P := Try.prog) w g 37 37 _ (0, 0) _ hg Try.underlying37 rfl (by kernel_rfl)]
  rfl

/-- Guarded: the box of what is told. -/
def G1 (F : Nat → Prop) (w : World) : Nat → Prop := fun k => F k ∨ (w.heap.size ≤ k ∧ k < w.heap.size + 1)

theorem nx_end {V : World} {s' : Pq.St Jb} {X : Nat → Prop} (hV : LP N (G1 F w) V p n s') (hF : ∀ k, F k → k < w.heap.size) (hN : N ≤ w.heap.size) {cs : Array Value} (hr : V.heap[w.heap.size]? = some (.cells cs 37 (0, 0))) (hz : cs.size = 6) (hk : Kp X w V) (hp : p < w.heap.size) {j : Jb} {sv : Value} (hs : RS (fun k => k ≠ p ∧ ¬ G1 F w k) V sv j.s) :
    (set6 V w.heap.size 0 (j, sv)).heap[w.heap.size]? = some (.cells (jrow (j, sv)).toArray 37 (0, 0)) ∧ RS (fun k => k ≠ p ∧ ¬ F k) (set6 V w.heap.size 0 (j, sv)) sv j.s ∧ LP N F (set6 V w.heap.size 0 (j, sv)) p n s' ∧ Kp X w (set6 V w.heap.size 0 (j, sv)) := by
  have k9 : Kp (fun k => k = w.heap.size) V (set6 V w.heap.size 0 (j, sv)) := set6_kept _ _ _ _ _ rfl
  refine ⟨set6_whole hr hz (j, sv), (hs.kept k9 (fun k hk e => hk.2 (.inr (by omega)))).mono (fun k _ hk => ⟨hk.1, fun hf => hk.2 (.inl hf)⟩), (hV.kept k9 (fun k e _ => .inr (by omega)) (fun k hk => .inl hk) (fun k hk => Nat.lt_of_lt_of_le (hV.fl k hk) k9.size)).less (fun k hk => .inl hk), hk.trans k9 (fun k e hlt => by omega)⟩

set_option maxHeartbeats 8000000 in
theorem next_w {v : Nat} (pick : Int) (h : LP N F w p n s) (hi : PInv s) (hv : v < n) (hpk : -9223372036854775808 ≤ pick ∧ pick ≤ 9223372036854775807) :
    Calls Try.prog 36 #[.pointer (some ⟨p, 0, none⟩), .int .i64 (v : Int), .int .i64 pick] w fun e w' => NxC N F w p n s (nextP s v (Pq.circ n (frm pick n))) e w' ∧ ((s.hd v).isSome = true → Kp (fun k => k = p) w w') := by
  have hb1 := bl1 w (.cells #[.int .i64 0, .bool false, .int .i64 0, .bool false, .int .i64 0, .slice none 0 0] 37)
  have HL1 : Hid (LP N (G1 F w) (w.alloc (.cells #[.int .i64 0, .bool false, .int .i64 0, .bool false, .int .i64 0, .slice none 0 0] 37)) p n s) := by
    have := h.guard hb1
    rw [World.size_alloc] at this
    exact this
  have R1 : Hid _ := row_new w #[.int .i64 0, .bool false, .int .i64 0, .bool false, .int .i64 0, .slice none 0 0] 37
  have HB1 : Hid _ := hb1
  have HI : Hid _ := hi
  have HN : Hid _ := h.le
  have HF : Hid (∀ k, F k → k < w.heap.size) := h.fl
  have hp := h.lt
  have h64 := h.n64
  have hv64 : (v : Int) < 64 := by omega
  have hnw : p ≠ w.heap.size := by omega
  have MvF : ∀ {a b : World}, Kp (Mv N (G1 F w)) a b → Kp (Mv N F) a b := fun hk => hk.mono (fun k hk => ⟨hk.1, fun hf => hk.2 (.inl hf)⟩)
  have nM : ¬ Mv N (G1 F w) w.heap.size := fun hh => hh.2 (.inr (by omega))
  obtain ⟨l, hl⟩ : ∃ l, Pq.circ n (frm pick n) = l := ⟨_, rfl⟩
  have HLl : Hid (Pq.circ n (frm pick n) = l) := hl
  rw [hl]
  cases hj : s.hd v with
  | some j =>
    have HC : Hid _ := give_some HL1.out hv hj
    have hnx : nextP s v l = some (j, v, ⟨s.rows, s.hold.set v none⟩) := by unfold nextP; rw [hj]
    rw [hnx]
    have hNp : N ≤ p ∧ ¬ F p := by obtain ⟨⟨D, cs, h1, h2, h5⟩, h3, h4⟩ := h; exact ⟨h2, h1.nf⟩
    have MvP : Hid (∀ k, k = p → Mv N F k) := fun k hk => by rw [hk]; exact hNp
    clear h hi hb1 hl hj hnx
    go_enter Try.func36, Try.ntmps36
    go_wp2_with fail
    refine Calls.mono HC.out ?_
    rintro e w2 ⟨sv, rfl, q1, q2, q3⟩
    have r2 := q3.row R1.out (fun e => hnw e.symm)
    obtain ⟨d0, d1, d2, d3, d4, d5⟩ := JC.of_row (e := zJ) (v := .slice none 0 0) r2
    have f2 := froz_row r2
    have hlt := row_lt r2
    obtain ⟨sa, sc, hsv, _⟩ := q1.1
    subst hsv
    have Q1 : Hid (RS (fun k => k ≠ p ∧ ¬ G1 F w k) w2 (.slice sa j.s.length sc) j.s) := q1
    have Q2 : Hid _ := q2
    have Q3 : Hid (Kp (fun k => k = p) w w2) := (Kp.of_below _ HB1.out).trans q3 (fun k hk _ => hk)
    have RR : Hid _ := r2
    simp only [Nat.zero_add] at d0 d1 d2 d3 d4 d5
    clear q1 q2 q3 r2 HC R1
    obtain ⟨ji, ju, jt, jb, jk, js⟩ := j
    obtain ⟨ml, hml⟩ : ∃ m, js.length = m := ⟨_, rfl⟩
    have HML : Hid _ := hml
    unfold JV zJ at *
    dsimp only at *
    rw [hml]
    clear hml
    go_wp2_with fail
    obtain rfl := HML.out
    obtain ⟨m1, m2, m3, m4⟩ := nx_end (j := ⟨ji, ju, jt, jb, jk, js⟩) Q2.out HF.out HN.out RR.out rfl Q3.out hp Q1.out
    have hb5 := bl1 (set6 w2 w.heap.size 0 (⟨ji, ju, jt, jb, jk, js⟩, .slice sa js.length sc)) (.cells #[.int .i64 ji, .bool ju, .int .i64 jt, .bool jb, .int .i64 jk, .slice sa js.length sc] 37)
    refine bodyPost_ret (results_j4 rfl _ _ (e := ⟨ji, ju, jt, jb, jk, js⟩) (v := .slice sa js.length sc) rfl (row_later m1 hb5)) rfl ?_
    exact ⟨⟨(m4.later hb5).mono MvP.out, _, rfl, m2.later hb5, m3.later hb5⟩, fun _ => m4.later hb5⟩
  | none =>
    have HC : Hid _ := give_none HL1.out hv hj
    have HJ : Hid (s.hd v = none) := hj
    have HOK : Hid _ := h.ok
    clear h hi hb1 hl hj
    go_enter Try.func36, Try.ntmps36
    go_wp2_with fail
    refine Calls.mono HC.out ?_
    rintro e w2 ⟨rfl, hb2⟩
    have HL2 : Hid _ := HL1.out.later hb2
    have HB2 : Hid (Below w.heap.size w w2) := HB1.out.trans (hb2.mono HB1.out.size)
    have R2 : Hid _ := row_later R1.out hb2
    obtain ⟨q, cq, hpop⟩ := pop_wq HL2.out hv (HI.out.le v)
    have HC2 : Hid _ := hpop _ (bl1 w2 (.cells #[.int .i64 0, .bool false, .int .i64 0, .bool false, .int .i64 0, .slice none 0 0] 37))
    have hp2 : p < w2.heap.size := HL2.out.lt
    unfold JV zJ
    dsimp only
    clear hb2 HC hpop R1
    go_wp2_with fail
    refine Calls.mono HC2.out ?_
    rintro e w4 ⟨sv, rfl, q1, q2, q3⟩
    have HK4 : Hid (Kp (Mv N (G1 F w)) w2 w4) := (Kp.of_below _ (bl1 w2 (.cells #[.int .i64 0, .bool false, .int .i64 0, .bool false, .int .i64 0, .slice none 0 0] 37))).trans q3 (fun _ h _ => h)
    have HKw : Hid (Kp (Mv N (G1 F w)) w w4) := (Kp.of_below _ HB2.out).trans HK4.out (fun _ h _ => h)
    have RR : Hid _ := HK4.out.row R2.out nM
    by_cases hrow : s.row v = []
    · have e1 : takeP true (s.row v) = ((zJ, 6), []) := by rw [hrow]; rfl
      rw [e1] at q1 q2 ⊢
      have e2 : s.rows.set v [] = s.rows := by have := set_row_self HOK.out hv; rw [hrow] at this; exact this
      have HL4 : Hid (LP N (G1 F w) w4 p n s) := by
        have := q2
        simp only [e2] at this
        exact this
      have HNX : Hid (nextP s v l = match firstP false s l with | some r => some r | none => firstP true s l) := by
        show _ = _
        unfold nextP
        rw [HJ.out, hrow]
        rfl
      obtain ⟨sa, sc, hsv, _⟩ := q1.1
      subst hsv
      have HC5 : Hid (∀ wx, Below w4.heap.size w4 wx → _) := fun wx hb => first_w false pick (HL4.out.later hb) HI.out hpk
      rw [HLl.out] at HC5
      unfold JV zJ
      dsimp only
      clear q1 q2 q3 HC2 cq e1 e2 hrow
      go_wp2_with fail
      refine Calls.mono (HC5.out _ (bl1 w4 _)) ?_
      rintro e w6 ⟨k6, ho⟩
      have HK6 : Hid (Kp (Mv N (G1 F w)) w w6) := (HKw.out.later (bl1 w4 _)).trans k6 (fun _ h _ => h)
      have R6 : Hid _ := k6.row (row_later RR.out (bl1 w4 _)) nM
      cases hf : firstP false s l with
      | some r =>
        obtain ⟨j, u, s'⟩ := r
        rw [hf] at ho HNX
        obtain ⟨sv, rfl, q1, q2⟩ := ho
        obtain ⟨d0, d1, d2, d3, d4, d5⟩ := JC.of_row (e := zJ) (v := .slice none 0 0) R6.out
        have f2 := froz_row R6.out
        have hlt := row_lt R6.out
        obtain ⟨sa, sc, hsv, _⟩ := q1.1
        subst hsv
        have Q1 : Hid (RS (fun k => k ≠ p ∧ ¬ G1 F w k) w6 (.slice sa j.s.length sc) j.s) := q1
        have Q2 : Hid _ := q2
        simp only [Nat.zero_add] at d0 d1 d2 d3 d4 d5
        clear q1 q2 k6 HC5 hf RR
        obtain ⟨ji, ju, jt, jb, jk, js⟩ := j
        obtain ⟨ml, hml⟩ : ∃ m, js.length = m := ⟨_, rfl⟩
        have HML : Hid _ := hml
        unfold JV zJ at *
        dsimp only at *
        rw [hml]
        clear hml
        go_wp2_with fail
        obtain rfl := HML.out
        obtain ⟨m1, m2, m3, m4⟩ := nx_end (j := ⟨ji, ju, jt, jb, jk, js⟩) Q2.out HF.out HN.out R6.out rfl HK6.out hp Q1.out
        have hb5 := bl1 (set6 w6 w.heap.size 0 (⟨ji, ju, jt, jb, jk, js⟩, .slice sa js.length sc)) (.cells #[.int .i64 ji, .bool ju, .int .i64 jt, .bool jb, .int .i64 jk, .slice sa js.length sc] 37)
        refine bodyPost_ret (results_j4 rfl _ _ (e := ⟨ji, ju, jt, jb, jk, js⟩) (v := .slice sa js.length sc) rfl (row_later m1 hb5)) rfl ?_
        rw [HNX.out]
        exact ⟨⟨MvF (m4.later hb5), _, rfl, m2.later hb5, m3.later hb5⟩, fun h => by cases h⟩
      | none =>
        rw [hf] at ho HNX
        obtain ⟨rfl, q2⟩ := ho
        have HL6 : Hid (LP N (G1 F w) w6 p n s) := q2
        have HC7 : Hid (∀ wx, Below w6.heap.size w6 wx → _) := fun wx hb => first_w true pick (HL6.out.later hb) HI.out hpk
        rw [HLl.out] at HC7
        unfold JV zJ
        dsimp only
        clear q2 HC5 hf RR k6
        go_wp2_with fail
        refine Calls.mono (HC7.out _ (bl1 w6 _)) ?_
        rintro e w8 ⟨k8, ho⟩
        have HK8 : Hid (Kp (Mv N (G1 F w)) w w8) := (HK6.out.later (bl1 w6 _)).trans k8 (fun _ h _ => h)
        have R8 : Hid _ := k8.row (row_later R6.out (bl1 w6 _)) nM
        cases hf : firstP true s l with
        | some r =>
          obtain ⟨j, u, s'⟩ := r
          rw [hf] at ho HNX
          obtain ⟨sv, rfl, q1, q2⟩ := ho
          obtain ⟨d0, d1, d2, d3, d4, d5⟩ := JC.of_row (e := zJ) (v := .slice none 0 0) R8.out
          have f2 := froz_row R8.out
          have hlt := row_lt R8.out
          obtain ⟨sa, sc, hsv, _⟩ := q1.1
          subst hsv
          have Q1 : Hid (RS (fun k => k ≠ p ∧ ¬ G1 F w k) w8 (.slice sa j.s.length sc) j.s) := q1
          have Q2 : Hid _ := q2
          simp only [Nat.zero_add] at d0 d1 d2 d3 d4 d5
          clear q1 q2 k8 HC7 hf R6
          obtain ⟨ji, ju, jt, jb, jk, js⟩ := j
          obtain ⟨ml, hml⟩ : ∃ m, js.length = m := ⟨_, rfl⟩
          have HML : Hid _ := hml
          unfold JV zJ at *
          dsimp only at *
          rw [hml]
          clear hml
          go_wp2_with fail
          obtain rfl := HML.out
          obtain ⟨m1, m2, m3, m4⟩ := nx_end (j := ⟨ji, ju, jt, jb, jk, js⟩) Q2.out HF.out HN.out R8.out rfl HK8.out hp Q1.out
          refine bodyPost_ret (results_j4 rfl _ _ (e := ⟨ji, ju, jt, jb, jk, js⟩) (v := .slice sa js.length sc) rfl m1) rfl ?_
          rw [HNX.out]
          exact ⟨⟨MvF m4, _, rfl, m2, m3⟩, fun h => by cases h⟩
        | none =>
          rw [hf] at ho HNX
          obtain ⟨rfl, q2⟩ := ho
          obtain ⟨d0, d1, d2, d3, d4, d5⟩ := JC.of_row (e := zJ) (v := .slice none 0 0) R8.out
          have f2 := froz_row R8.out
          have hlt := row_lt R8.out
          have Q2 : Hid (LP N (G1 F w) w8 p n s) := q2
          simp only [Nat.zero_add] at d0 d1 d2 d3 d4 d5
          clear q2 k8 HC7 hf R6
          unfold JV zJ at *
          dsimp only at *
          go_wp2_with fail
          obtain ⟨m1, m2, m3, m4⟩ := nx_end (j := zJ) Q2.out HF.out HN.out R8.out rfl HK8.out hp (RS.nil _ _)
          refine bodyPost_ret (results_j4 rfl _ _ (e := zJ) (v := .slice none 0 0) rfl m1) rfl ?_
          rw [HNX.out]
          exact ⟨⟨MvF m4, rfl, m3⟩, fun h => by cases h⟩
    · obtain ⟨j, hjl⟩ : ∃ j, (s.row v).getLast? = some j := ⟨_, List.getLast?_eq_some_getLast hrow⟩
      have e1 : takeP true (s.row v) = ((j, 0), (s.row v).dropLast) := by
        unfold takeP
        rw [if_neg hrow, if_pos rfl, List.getLastD_eq_getLast?, hjl]
        rfl
      have HNX : Hid (nextP s v l = some (j, v, ⟨s.rows.set v (s.row v).dropLast, s.hold⟩)) := by
        show _ = _
        unfold nextP
        rw [HJ.out, hjl]
      rw [e1] at q1 q2 ⊢
      obtain ⟨d0, d1, d2, d3, d4, d5⟩ := JC.of_row (e := zJ) (v := .slice none 0 0) RR.out
      have f2 := froz_row RR.out
      have hlt := row_lt RR.out
      obtain ⟨sa, sc, hsv, _⟩ := q1.1
      subst hsv
      have Q1 : Hid (RS (fun k => k ≠ p ∧ ¬ G1 F w k) w4 (.slice sa j.s.length sc) j.s) := q1
      have Q2 : Hid _ := q2
      simp only [Nat.zero_add] at d0 d1 d2 d3 d4 d5
      clear q1 q2 q3 HC2 cq e1 hjl hrow
      obtain ⟨ji, ju, jt, jb, jk, js⟩ := j
      obtain ⟨ml, hml⟩ : ∃ m, js.length = m := ⟨_, rfl⟩
      have HML : Hid _ := hml
      unfold JV zJ at *
      dsimp only at *
      rw [hml]
      clear hml
      go_wp2_with fail
      obtain rfl := HML.out
      obtain ⟨m1, m2, m3, m4⟩ := nx_end (j := ⟨ji, ju, jt, jb, jk, js⟩) Q2.out HF.out HN.out RR.out rfl HKw.out hp Q1.out
      have hb5 := bl1 (set6 w4 w.heap.size 0 (⟨ji, ju, jt, jb, jk, js⟩, .slice sa js.length sc)) (.cells #[.int .i64 ji, .bool ju, .int .i64 jt, .bool jb, .int .i64 jk, .slice sa js.length sc] 37)
      refine bodyPost_ret (results_j4 rfl _ _ (e := ⟨ji, ju, jt, jb, jk, js⟩) (v := .slice sa js.length sc) rfl (row_later m1 hb5)) rfl ?_
      rw [HNX.out]
      exact ⟨⟨MvF (m4.later hb5), _, rfl, m2.later hb5, m3.later hb5⟩, fun h => by cases h⟩
end Go.Proofs.Ytfhmmiilenonkaa
