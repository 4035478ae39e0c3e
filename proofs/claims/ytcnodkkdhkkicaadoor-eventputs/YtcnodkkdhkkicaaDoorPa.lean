/- Plain facts on events: which are right, their bytes, what is read of bytes. -/
import Derived.Test.YtcnodkkdhkkicaaDoorSg
namespace Go.Proofs.YtcnodkkdhkkicaaDoor
set_option linter.unusedVariables false

/-- An event. -/
structure Ev where
  k : Int
  i : Int
  t : Int
  s : List Int

/-- No event. -/
def Ev.none : Ev := ⟨0, 0, 0, []⟩

/-- Is it right, but for its stamp? -/
def okH (k i t : Int) : Bool := decide (1 ≤ k ∧ k ≤ 6 ∧ 1 ≤ i ∧ i ≤ 63 ∧ 0 ≤ t ∧ t ≤ 3 ∧ (3 < k ∨ t = 0))
def okE (e : Ev) : Bool := okH e.k e.i e.t && okS e.s
def evE (e : Ev) : Nat := if okE e then 0 else 2

theorem okE_head {e : Ev} (h : okE e = true) : 1 ≤ e.k ∧ e.k ≤ 6 ∧ 1 ≤ e.i ∧ e.i ≤ 63 ∧ 0 ≤ e.t ∧ e.t ≤ 3 ∧ (3 < e.k ∨ e.t = 0) := by
  unfold okE at h
  rw [Bool.and_eq_true] at h
  exact of_decide_eq_true h.1
theorem okE_stamp {e : Ev} (h : okE e = true) : okS e.s = true := by
  unfold okE at h
  rw [Bool.and_eq_true] at h
  exact h.2
theorem okE_mk {e : Ev} (h : 1 ≤ e.k ∧ e.k ≤ 6 ∧ 1 ≤ e.i ∧ e.i ≤ 63 ∧ 0 ≤ e.t ∧ e.t ≤ 3 ∧ (3 < e.k ∨ e.t = 0)) (hs : okS e.s = true) : okE e = true := by
  unfold okE okH
  rw [hs, Bool.and_true]
  exact decide_eq_true h

/-- The bytes ahead of the stamp. -/
def headP (e : Ev) : List UInt8 := [UInt8.ofNat e.k.toNat] ++ oneP e.i.toNat ++ (if 3 < e.k then oneP e.t.toNat else [])
/-- An event's bytes. -/
def encE (e : Ev) : List UInt8 := headP e ++ putsP (natL e.s)
/-- What Bytes answers. -/
def bytE (e : Ev) : List UInt8 := if okE e then encE e else []

theorem okS_nats {l : List Int} (h : okS l = true) : ∀ n ∈ natL l, n ≤ 1099511627776 := allN_nat (okS_all h)
theorem okS_int {l : List Int} (h : okS l = true) : intL (natL l) = l := by
  have ha := okS_all h
  unfold allN at ha
  rw [List.all_eq_true] at ha
  unfold intL natL
  rw [List.map_map]
  conv => rhs; rw [← List.map_id l]
  apply List.map_congr_left
  intro x hx
  have := of_decide_eq_true (ha x hx)
  show Int.ofNat x.toNat = x
  rw [Int.ofNat_eq_natCast]
  omega
theorem nat_int (l : List Nat) : natL (intL l) = l := by
  unfold intL natL
  rw [List.map_map]
  conv => rhs; rw [← List.map_id l]
  apply List.map_congr_left
  intro x hx
  simp

/-- What is put in a row is read one way alone. -/
theorem enc_prefix {e f : Ev} {r q : List UInt8} (he : okE e = true) (hf : okE f = true) (h : encE e ++ r = encE f ++ q) : e = f := by
  obtain ⟨k1, k2, i1, i2, t1, t2, kt⟩ := okE_head he
  obtain ⟨k3, k4, i3, i4, t3, t4, kt2⟩ := okE_head hf
  have se := okE_stamp he
  have sf := okE_stamp hf
  unfold encE headP at h
  simp only [List.append_assoc, List.cons_append, List.nil_append, List.cons.injEq] at h
  obtain ⟨hk, h⟩ := h
  have hk2 : e.k = f.k := by
    have := congrArg UInt8.toNat hk
    rw [u8_nat, u8_nat] at this
    omega
  have a1 := num_put e.i.toNat ((if 3 < e.k then oneP e.t.toNat else []) ++ (putsP (natL e.s) ++ r)) (by omega)
  have a2 := num_put f.i.toNat ((if 3 < f.k then oneP f.t.toNat else []) ++ (putsP (natL f.s) ++ q)) (by omega)
  rw [h, a2, Prod.mk.injEq] at a1
  have hi : e.i = f.i := by have := a1.1; omega
  rw [hi] at h
  have h := List.append_cancel_left h
  have ht : e.t = f.t ∧ putsP (natL e.s) ++ r = putsP (natL f.s) ++ q := by
    by_cases h3 : 3 < e.k
    · rw [if_pos h3, if_pos (by omega)] at h
      have b1 := num_put e.t.toNat (putsP (natL e.s) ++ r) (by omega)
      have b2 := num_put f.t.toNat (putsP (natL f.s) ++ q) (by omega)
      rw [h, b2, Prod.mk.injEq] at b1
      have ht : e.t = f.t := by have := b1.1; omega
      rw [ht] at h
      exact ⟨ht, List.append_cancel_left h⟩
    · rw [if_neg h3, if_neg (by omega)] at h
      exact ⟨by omega, h⟩
  obtain ⟨ht, h⟩ := ht
  have c1 := list_put [] (natL e.s) r (by rw [natL_len]; have := okS_len se; omega) (okS_nats se)
  have c2 := list_put [] (natL f.s) q (by rw [natL_len]; have := okS_len sf; omega) (okS_nats sf)
  rw [h, c2, Prod.mk.injEq] at c1
  have hs : e.s = f.s := by rw [← okS_int se, ← okS_int sf, c1.1]
  cases e; cases f
  simp only at hk2 hi ht hs
  subst hk2 hi ht hs
  rfl

theorem enc_inj {e f : Ev} (he : okE e = true) (hf : okE f = true) (h : encE e = encE f) : e = f := enc_prefix (r := []) (q := []) he hf (by rw [h])

theorem enc_pos (e : Ev) : 0 < (encE e).length := by
  unfold encE headP
  simp only [List.length_append, List.length_cons]
  omega

theorem enc_len {e : Ev} (h : okE e = true) : (encE e).length ≤ 2000 := by
  obtain ⟨k1, k2, i1, i2, t1, t2, kt⟩ := okE_head h
  have hs := okE_stamp h
  have h1 := puts_len (natL e.s) (by rw [natL_len]; have := okS_len hs; omega) (okS_nats hs)
  have h2 := one_six (n := e.i.toNat) (by omega)
  have h3 := one_six (n := e.t.toNat) (by omega)
  unfold encE headP
  simp only [List.length_append, List.length_cons, List.length_nil]
  split
  · omega
  · simp only [List.length_nil]; omega

/-- What stands ahead of a stamp: kind, item, try, the place behind, the error; q: is there a try? -/
def headF (q : Bool) (b : List UInt8) : Nat × Nat × Nat × Nat × Nat :=
  if b = [] then (0, 0, 0, 0, 3)
  else if q = true ∧ (takeP b 1).2.2 = 0 then ((b.getD 0 0).toNat, (takeP b 1).1, (takeP b (takeP b 1).2.1).1, (takeP b (takeP b 1).2.1).2.1, (takeP b (takeP b 1).2.1).2.2)
  else ((b.getD 0 0).toNat, (takeP b 1).1, 0, (takeP b 1).2.1, (takeP b 1).2.2)

def evF (b : List UInt8) (h : Nat × Nat × Nat × Nat × Nat) : Ev := ⟨h.1, h.2.1, h.2.2.1, intL (readP b (h.2.2.2.1 : Nat)).1⟩

/-- What is read. -/
def readF (q : Bool) (b : List UInt8) : Option Ev :=
  if (headF q b).2.2.2.2 = 0 then
    (if (readP b ((headF q b).2.2.2.1 : Nat)).2.2 = 0 then
      (if (readP b ((headF q b).2.2.2.1 : Nat)).2.1 = b.length ∧ okE (evF b (headF q b)) = true then some (evF b (headF q b)) else none)
    else none)
  else none

theorem readP_nat {b : List UInt8} {p : Nat} (hp : p ≤ b.length) (h : (readP b (p : Nat)).2.2 = 0) : (listP b p).2.2 = 0 ∧ readP b (p : Nat) = listP b p := by
  have e : listI b (p : Nat) = listP b p := by
    unfold listI
    rw [if_pos ⟨by omega, by omega⟩, Int.toNat_natCast]
  unfold readP at h ⊢
  rw [e] at h ⊢
  by_cases h1 : (listP b p).2.2 = 0
  · rw [if_pos h1] at h ⊢
    by_cases h2 : okS (intL (listP b p).1) = true
    · rw [if_pos h2]
      exact ⟨h1, rfl⟩
    · rw [if_neg h2] at h
      simp at h
  · rw [if_neg h1] at h
    exact absurd h h1

/-- What is read is right, and has just these bytes. -/
theorem readF_some {q : Bool} {b : List UInt8} {e : Ev} (hq : okE e = true → q = decide (3 < e.k)) (h : readF q b = some e) : okE e = true ∧ encE e = b := by
  unfold readF at h
  by_cases h1 : (headF q b).2.2.2.2 = 0
  · rw [if_pos h1] at h
    by_cases h2 : (readP b ((headF q b).2.2.2.1 : Nat)).2.2 = 0
    · rw [if_pos h2] at h
      by_cases h3 : (readP b ((headF q b).2.2.2.1 : Nat)).2.1 = b.length ∧ okE (evF b (headF q b)) = true
      · rw [if_pos h3] at h
        obtain ⟨h3, h4⟩ := h3
        have he : evF b (headF q b) = e := Option.some.inj h
        subst he
        refine ⟨h4, ?_⟩
        have hq2 := hq h4
        clear hq h
        have hb : b ≠ [] := by
          intro hb
          subst hb
          simp [headF] at h1
        obtain ⟨c, l, rfl⟩ : ∃ c l, b = c :: l := by
          cases b with
          | nil => exact absurd rfl hb
          | cons c l => exact ⟨c, l, rfl⟩
        generalize hB : c :: l = b at *
        have hc0 : b.getD 0 0 = c := by rw [← hB]; rfl
        have hlen : 1 ≤ b.length := by rw [← hB]; simp
        have hd1 : b = [c] ++ b.drop 1 := by rw [← hB]; rfl
        obtain ⟨k1, k2, i1, i2, t1, t2, kt⟩ := okE_head h4
        unfold headF at h1 h2 h3 h4 hq2 k1 k2 i1 i2 t1 t2 kt ⊢
        rw [if_neg hb] at h1 h2 h3 h4 hq2 k1 k2 i1 i2 t1 t2 kt ⊢
        by_cases h5 : q = true ∧ (takeP b 1).2.2 = 0
        · rw [if_pos h5] at h1 h2 h3 h4 hq2 k1 k2 i1 i2 t1 t2 kt ⊢
          obtain ⟨rfl, h5⟩ := h5
          obtain ⟨a1, a2, a3, a4⟩ := take_ok hlen h5
          obtain ⟨b1, b2, b3, b4⟩ := take_ok a3 h1
          simp only at h2 h3 h4 hq2 k1 k2 i1 i2 t1 t2 kt
          obtain ⟨l1, l2⟩ := readP_nat b3 h2
          obtain ⟨c1, c2, c3, c4, c5⟩ := list_ok b3 l1
          unfold encE headP evF
          simp only
          have hk3 : 3 < (((b.getD 0 0).toNat : Nat) : Int) := of_decide_eq_true hq2.symm
          rw [if_pos hk3, l2, nat_int]
          rw [l2] at h3
          rw [h3, List.take_of_length_le (Nat.le_refl _)] at c5
          rw [Int.toNat_natCast, Int.toNat_natCast, Int.toNat_natCast, a4, b4, c5, hc0, UInt8.ofNat_toNat]
          generalize (takeP b (takeP b 1).2.1).2.1 = y at *
          generalize (takeP b 1).2.1 = x at *
          conv => rhs; rw [hd1]
          rw [List.append_assoc, List.append_assoc]
          congr 1
          rw [List.drop_take, List.drop_take]
          conv => rhs; rw [← List.take_append_drop (x - 1) (b.drop 1), List.drop_drop, show 1 + (x - 1) = x by omega]
          congr 1
          conv => rhs; rw [← List.take_append_drop (y - x) (b.drop x), List.drop_drop, show x + (y - x) = y by omega]
        · rw [if_neg h5] at h1 h2 h3 h4 hq2 k1 k2 i1 i2 t1 t2 kt ⊢
          simp only at h1 h2 h3 h4 hq2 k1 k2 i1 i2 t1 t2 kt
          have hqf : q = false := by
            cases q
            · rfl
            · exact absurd ⟨rfl, h1⟩ h5
          subst hqf
          obtain ⟨a1, a2, a3, a4⟩ := take_ok hlen h1
          obtain ⟨l1, l2⟩ := readP_nat a3 h2
          obtain ⟨c1, c2, c3, c4, c5⟩ := list_ok a3 l1
          unfold encE headP evF
          simp only
          have hk3 : ¬ 3 < (((b.getD 0 0).toNat : Nat) : Int) := of_decide_eq_false hq2.symm
          rw [if_neg hk3, l2, nat_int]
          rw [l2] at h3
          rw [h3, List.take_of_length_le (Nat.le_refl _)] at c5
          rw [Int.toNat_natCast, Int.toNat_natCast, a4, c5, hc0, UInt8.ofNat_toNat]
          generalize (takeP b 1).2.1 = x at *
          conv => rhs; rw [hd1]
          rw [List.append_nil, List.append_assoc]
          congr 1
          rw [List.drop_take]
          conv => rhs; rw [← List.take_append_drop (x - 1) (b.drop 1), List.drop_drop, show 1 + (x - 1) = x by omega]
      · rw [if_neg h3] at h
        cases h
    · rw [if_neg h2] at h
      cases h
  · rw [if_neg h1] at h
    cases h

/-- A right event's bytes are read as it. -/
theorem readF_enc {q : Bool} {e : Ev} (hq : q = decide (3 < e.k)) (h : okE e = true) : readF q (encE e) = some e := by
  obtain ⟨k1, k2, i1, i2, t1, t2, kt⟩ := okE_head h
  have hs := okE_stamp h
  have hne : encE e ≠ [] := fun hb => by have := enc_pos e; rw [hb] at this; simp at this
  have hk : (UInt8.ofNat e.k.toNat).toNat = e.k.toNat := by rw [u8_nat]; omega
  have hl : (natL e.s).length ≤ 255 := by rw [natL_len]; have := okS_len hs; omega
  have hrd : ∀ (a : List UInt8), readP (a ++ putsP (natL e.s)) (a.length : Nat) = (natL e.s, a.length + (putsP (natL e.s)).length, 0) := by
    intro a
    have h0 := list_put a (natL e.s) [] hl (okS_nats hs)
    rw [List.append_nil] at h0
    have h1 : listI (a ++ putsP (natL e.s)) (a.length : Nat) = (natL e.s, a.length + (putsP (natL e.s)).length, 0) := by
      unfold listI
      rw [if_pos ⟨by omega, by rw [List.length_append]; omega⟩, Int.toNat_natCast, h0]
    unfold readP
    rw [h1]
    simp only [if_true]
    rw [okS_int hs, if_pos hs]
  by_cases h3 : 3 < e.k
  · have hE : encE e = [UInt8.ofNat e.k.toNat] ++ (oneP e.i.toNat ++ (oneP e.t.toNat ++ putsP (natL e.s))) := by
      unfold encE headP
      rw [if_pos h3]
      simp only [List.append_assoc]
    have a1 := take_put [UInt8.ofNat e.k.toNat] e.i.toNat (oneP e.t.toNat ++ putsP (natL e.s)) (by omega)
    have a2 := take_put ([UInt8.ofNat e.k.toNat] ++ oneP e.i.toNat) e.t.toNat (putsP (natL e.s)) (by omega)
    have a3 := hrd ([UInt8.ofNat e.k.toNat] ++ oneP e.i.toNat ++ oneP e.t.toNat)
    rw [show [UInt8.ofNat e.k.toNat] ++ oneP e.i.toNat ++ (oneP e.t.toNat ++ putsP (natL e.s)) = encE e by rw [hE]; simp only [List.append_assoc]] at a2
    rw [show [UInt8.ofNat e.k.toNat] ++ oneP e.i.toNat ++ oneP e.t.toNat ++ putsP (natL e.s) = encE e by rw [hE]; simp only [List.append_assoc]] at a3
    rw [← hE] at a1
    rw [List.length_append] at a2
    have hH : headF q (encE e) = (e.k.toNat, e.i.toNat, e.t.toNat, ([UInt8.ofNat e.k.toNat] ++ oneP e.i.toNat ++ oneP e.t.toNat).length, 0) := by
      unfold headF
      rw [if_neg hne]
      have b1 : takeP (encE e) 1 = _ := a1
      have hq2 : q = true := by rw [hq]; exact decide_eq_true h3
      rw [b1, if_pos ⟨hq2, rfl⟩]
      dsimp only
      rw [a2, hE]
      simp [hk]
      omega
    have hev : evF (encE e) (headF q (encE e)) = e := by
      unfold evF
      rw [hH]
      simp only
      rw [a3]
      simp only
      rw [okS_int hs]
      cases e
      simp only at *
      congr 1 <;> omega
    unfold readF
    rw [hev, hH]
    simp only [if_true]
    rw [a3]
    simp only [if_true]
    rw [if_pos]
    refine ⟨?_, h⟩
    rw [hE]
    simp only [List.length_append, List.length_cons, List.length_nil]
    omega
  · have hE : encE e = [UInt8.ofNat e.k.toNat] ++ (oneP e.i.toNat ++ putsP (natL e.s)) := by
      unfold encE headP
      rw [if_neg h3]
      simp only [List.append_assoc, List.append_nil]
    have a1 := take_put [UInt8.ofNat e.k.toNat] e.i.toNat (putsP (natL e.s)) (by omega)
    have a3 := hrd ([UInt8.ofNat e.k.toNat] ++ oneP e.i.toNat)
    rw [List.append_assoc] at a3
    rw [← hE] at a1 a3
    have hH : headF q (encE e) = (e.k.toNat, e.i.toNat, 0, ([UInt8.ofNat e.k.toNat] ++ oneP e.i.toNat).length, 0) := by
      unfold headF
      rw [if_neg hne]
      have b1 : takeP (encE e) 1 = _ := a1
      have hq2 : ¬ q = true := by rw [hq]; simp only [decide_eq_true_eq]; exact h3
      rw [b1]
      rw [if_neg (fun hh => hq2 hh.1)]
      dsimp only
      rw [hE]
      simp [hk]
      omega
    have hev : evF (encE e) (headF q (encE e)) = e := by
      unfold evF
      rw [hH]
      simp only
      rw [a3]
      simp only
      rw [okS_int hs]
      cases e
      simp only at *
      congr 1 <;> omega
    unfold readF
    rw [hev, hH]
    simp only [if_true]
    rw [a3]
    simp only [if_true]
    rw [if_pos]
    refine ⟨?_, h⟩
    rw [hE]
    simp only [List.length_append, List.length_cons, List.length_nil]
    omega
end Go.Proofs.YtcnodkkdhkkicaaDoor
