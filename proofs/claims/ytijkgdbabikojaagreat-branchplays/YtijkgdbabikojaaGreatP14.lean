/- Texts of the seat, packed: Pa Pc Ea. -/
import Derived.Test.YtijkgdbabikojaaGreatP13
import Derived.Lib.ItoaNum
import Derived.Test.YtijkgdbabikojaaGreatChecked
import Derived.BigQuiet
import Derived.Deep.QuietTactic
/- Plain facts on events: which are right, their bytes, what is read of bytes. -/
namespace Go.Proofs.YtijkgdbabikojaaGreat
set_option maxRecDepth 1000000
set_option linter.unusedVariables false

/-- An event. -/
structure Ev where
  k : Int
  i : Int
  t : Int
  s : List Int

/-- No event. -/
def Ev.none : Ev := ⟨0, 0, 0, []⟩

/-- Is it right, but for its stamp? -/
def okH (k i t : Int) : Bool := decide (1 ≤ k ∧ k ≤ 6 ∧ 1 ≤ i ∧ i ≤ 63 ∧ 0 ≤ t ∧ t ≤ 3 ∧ (3 < k ∨ t = 0))
def okE (e : Ev) : Bool := okH e.k e.i e.t && okS e.s
def evE (e : Ev) : Nat := if okE e then 0 else 2

theorem okE_head {e : Ev} (h : okE e = true) : 1 ≤ e.k ∧ e.k ≤ 6 ∧ 1 ≤ e.i ∧ e.i ≤ 63 ∧ 0 ≤ e.t ∧ e.t ≤ 3 ∧ (3 < e.k ∨ e.t = 0) := by
  unfold okE at h
  rw [Bool.and_eq_true] at h
  exact of_decide_eq_true h.1
theorem okE_stamp {e : Ev} (h : okE e = true) : okS e.s = true := by
  unfold okE at h
  rw [Bool.and_eq_true] at h
  exact h.2
theorem okE_mk {e : Ev} (h : 1 ≤ e.k ∧ e.k ≤ 6 ∧ 1 ≤ e.i ∧ e.i ≤ 63 ∧ 0 ≤ e.t ∧ e.t ≤ 3 ∧ (3 < e.k ∨ e.t = 0)) (hs : okS e.s = true) : okE e = true := by
  unfold okE okH
  rw [hs, Bool.and_true]
  exact decide_eq_true h

/-- The bytes ahead of the stamp. -/
def headP (e : Ev) : List UInt8 := [UInt8.ofNat e.k.toNat] ++ oneP e.i.toNat ++ (if 3 < e.k then oneP e.t.toNat else [])
/-- An event's bytes. -/
def encE (e : Ev) : List UInt8 := headP e ++ putsP (natL e.s)
/-- What Bytes answers. -/
def bytE (e : Ev) : List UInt8 := if okE e then encE e else []

theorem okS_nats {l : List Int} (h : okS l = true) : ∀ n ∈ natL l, n ≤ 1099511627776 := allN_nat (okS_all h)
theorem okS_int {l : List Int} (h : okS l = true) : intL (natL l) = l := by
  have ha := okS_all h
  unfold allN at ha
  rw [List.all_eq_true] at ha
  unfold intL natL
  rw [List.map_map]
  conv => rhs; rw [← List.map_id l]
  apply List.map_congr_left
  intro x hx
  have := of_decide_eq_true (ha x hx)
  show Int.ofNat x.toNat = x
  rw [Int.ofNat_eq_natCast]
  omega
theorem nat_int (l : List Nat) : natL (intL l) = l := by
  unfold intL natL
  rw [List.map_map]
  conv => rhs; rw [← List.map_id l]
  apply List.map_congr_left
  intro x hx
  simp

/-- What is put in a row is read one way alone. -/
theorem enc_prefix {e f : Ev} {r q : List UInt8} (he : okE e = true) (hf : okE f = true) (h : encE e ++ r = encE f ++ q) : e = f := by
  obtain ⟨k1, k2, i1, i2, t1, t2, kt⟩ := okE_head he
  obtain ⟨k3, k4, i3, i4, t3, t4, kt2⟩ := okE_head hf
  have se := okE_stamp he
  have sf := okE_stamp hf
  unfold encE headP at h
  simp only [List.append_assoc, List.cons_append, List.nil_append, List.cons.injEq] at h
  obtain ⟨hk, h⟩ := h
  have hk2 : e.k = f.k := by
    have := congrArg UInt8.toNat hk
    rw [u8_nat, u8_nat] at this
    omega
  have a1 := num_put e.i.toNat ((if 3 < e.k then oneP e.t.toNat else []) ++ (putsP (natL e.s) ++ r)) (by omega)
  have a2 := num_put f.i.toNat ((if 3 < f.k then oneP f.t.toNat else []) ++ (putsP (natL f.s) ++ q)) (by omega)
  rw [h, a2, Prod.mk.injEq] at a1
  have hi : e.i = f.i := by have := a1.1; omega
  rw [hi] at h
  have h := List.append_cancel_left h
  have ht : e.t = f.t ∧ putsP (natL e.s) ++ r = putsP (natL f.s) ++ q := by
    by_cases h3 : 3 < e.k
    · rw [if_pos h3, if_pos (by omega)] at h
      have b1 := num_put e.t.toNat (putsP (natL e.s) ++ r) (by omega)
      have b2 := num_put f.t.toNat (putsP (natL f.s) ++ q) (by omega)
      rw [h, b2, Prod.mk.injEq] at b1
      have ht : e.t = f.t := by have := b1.1; omega
      rw [ht] at h
      exact ⟨ht, List.append_cancel_left h⟩
    · rw [if_neg h3, if_neg (by omega)] at h
      exact ⟨by omega, h⟩
  obtain ⟨ht, h⟩ := ht
  have c1 := list_put [] (natL e.s) r (by rw [natL_len]; have := okS_len se; omega) (okS_nats se)
  have c2 := list_put [] (natL f.s) q (by rw [natL_len]; have := okS_len sf; omega) (okS_nats sf)
  rw [h, c2, Prod.mk.injEq] at c1
  have hs : e.s = f.s := by rw [← okS_int se, ← okS_int sf, c1.1]
  cases e; cases f
  simp only at hk2 hi ht hs
  subst hk2 hi ht hs
  rfl

theorem enc_inj {e f : Ev} (he : okE e = true) (hf : okE f = true) (h : encE e = encE f) : e = f := enc_prefix (r := []) (q := []) he hf (by rw [h])

theorem enc_pos (e : Ev) : 0 < (encE e).length := by
  unfold encE headP
  simp only [List.length_append, List.length_cons]
  omega

theorem enc_len {e : Ev} (h : okE e = true) : (encE e).length ≤ 2000 := by
  obtain ⟨k1, k2, i1, i2, t1, t2, kt⟩ := okE_head h
  have hs := okE_stamp h
  have h1 := puts_len (natL e.s) (by rw [natL_len]; have := okS_len hs; omega) (okS_nats hs)
  have h2 := one_six (n := e.i.toNat) (by omega)
  have h3 := one_six (n := e.t.toNat) (by omega)
  unfold encE headP
  simp only [List.length_append, List.length_cons, List.length_nil]
  split
  · omega
  · simp only [List.length_nil]; omega

/-- What stands ahead of a stamp: kind, item, try, the place behind, the error; q: is there a try? -/
def headF (q : Bool) (b : List UInt8) : Nat × Nat × Nat × Nat × Nat :=
  if b = [] then (0, 0, 0, 0, 3)
  else if q = true ∧ (takeP b 1).2.2 = 0 then ((b.getD 0 0).toNat, (takeP b 1).1, (takeP b (takeP b 1).2.1).1, (takeP b (takeP b 1).2.1).2.1, (takeP b (takeP b 1).2.1).2.2)
  else ((b.getD 0 0).toNat, (takeP b 1).1, 0, (takeP b 1).2.1, (takeP b 1).2.2)

def evF (b : List UInt8) (h : Nat × Nat × Nat × Nat × Nat) : Ev := ⟨h.1, h.2.1, h.2.2.1, intL (readP b (h.2.2.2.1 : Nat)).1⟩

/-- What is read. -/
def readF (q : Bool) (b : List UInt8) : Option Ev :=
  if (headF q b).2.2.2.2 = 0 then
    (if (readP b ((headF q b).2.2.2.1 : Nat)).2.2 = 0 then
      (if (readP b ((headF q b).2.2.2.1 : Nat)).2.1 = b.length ∧ okE (evF b (headF q b)) = true then some (evF b (headF q b)) else none)
    else none)
  else none

theorem readP_nat {b : List UInt8} {p : Nat} (hp : p ≤ b.length) (h : (readP b (p : Nat)).2.2 = 0) : (listP b p).2.2 = 0 ∧ readP b (p : Nat) = listP b p := by
  have e : listI b (p : Nat) = listP b p := by
    unfold listI
    rw [if_pos ⟨by omega, by omega⟩, Int.toNat_natCast]
  unfold readP at h ⊢
  rw [e] at h ⊢
  by_cases h1 : (listP b p).2.2 = 0
  · rw [if_pos h1] at h ⊢
    by_cases h2 : okS (intL (listP b p).1) = true
    · rw [if_pos h2]
      exact ⟨h1, rfl⟩
    · rw [if_neg h2] at h
      simp at h
  · rw [if_neg h1] at h
    exact absurd h h1

/-- What is read is right, and has just these bytes. -/
theorem readF_some {q : Bool} {b : List UInt8} {e : Ev} (hq : okE e = true → q = decide (3 < e.k)) (h : readF q b = some e) : okE e = true ∧ encE e = b := by
  unfold readF at h
  by_cases h1 : (headF q b).2.2.2.2 = 0
  · rw [if_pos h1] at h
    by_cases h2 : (readP b ((headF q b).2.2.2.1 : Nat)).2.2 = 0
    · rw [if_pos h2] at h
      by_cases h3 : (readP b ((headF q b).2.2.2.1 : Nat)).2.1 = b.length ∧ okE (evF b (headF q b)) = true
      · rw [if_pos h3] at h
        obtain ⟨h3, h4⟩ := h3
        have he : evF b (headF q b) = e := Option.some.inj h
        subst he
        refine ⟨h4, ?_⟩
        have hq2 := hq h4
        clear hq h
        have hb : b ≠ [] := by
          intro hb
          subst hb
          simp [headF] at h1
        obtain ⟨c, l, rfl⟩ : ∃ c l, b = c :: l := by
          cases b with
          | nil => exact absurd rfl hb
          | cons c l => exact ⟨c, l, rfl⟩
        generalize hB : c :: l = b at *
        have hc0 : b.getD 0 0 = c := by rw [← hB]; rfl
        have hlen : 1 ≤ b.length := by rw [← hB]; simp
        have hd1 : b = [c] ++ b.drop 1 := by rw [← hB]; rfl
        obtain ⟨k1, k2, i1, i2, t1, t2, kt⟩ := okE_head h4
        unfold headF at h1 h2 h3 h4 hq2 k1 k2 i1 i2 t1 t2 kt ⊢
        rw [if_neg hb] at h1 h2 h3 h4 hq2 k1 k2 i1 i2 t1 t2 kt ⊢
        by_cases h5 : q = true ∧ (takeP b 1).2.2 = 0
        · rw [if_pos h5] at h1 h2 h3 h4 hq2 k1 k2 i1 i2 t1 t2 kt ⊢
          obtain ⟨rfl, h5⟩ := h5
          obtain ⟨a1, a2, a3, a4⟩ := take_ok hlen h5
          obtain ⟨b1, b2, b3, b4⟩ := take_ok a3 h1
          simp only at h2 h3 h4 hq2 k1 k2 i1 i2 t1 t2 kt
          obtain ⟨l1, l2⟩ := readP_nat b3 h2
          obtain ⟨c1, c2, c3, c4, c5⟩ := list_ok b3 l1
          unfold encE headP evF
          simp only
          have hk3 : 3 < (((b.getD 0 0).toNat : Nat) : Int) := of_decide_eq_true hq2.symm
          rw [if_pos hk3, l2, nat_int]
          rw [l2] at h3
          rw [h3, List.take_of_length_le (Nat.le_refl _)] at c5
          rw [Int.toNat_natCast, Int.toNat_natCast, Int.toNat_natCast, a4, b4, c5, hc0, UInt8.ofNat_toNat]
          generalize (takeP b (takeP b 1).2.1).2.1 = y at *
          generalize (takeP b 1).2.1 = x at *
          conv => rhs; rw [hd1]
          rw [List.append_assoc, List.append_assoc]
          congr 1
          rw [List.drop_take, List.drop_take]
          conv => rhs; rw [← List.take_append_drop (x - 1) (b.drop 1), List.drop_drop, show 1 + (x - 1) = x by omega]
          congr 1
          conv => rhs; rw [← List.take_append_drop (y - x) (b.drop x), List.drop_drop, show x + (y - x) = y by omega]
        · rw [if_neg h5] at h1 h2 h3 h4 hq2 k1 k2 i1 i2 t1 t2 kt ⊢
          simp only at h1 h2 h3 h4 hq2 k1 k2 i1 i2 t1 t2 kt
          have hqf : q = false := by
            cases q
            · rfl
            · exact absurd ⟨rfl, h1⟩ h5
          subst hqf
          obtain ⟨a1, a2, a3, a4⟩ := take_ok hlen h1
          obtain ⟨l1, l2⟩ := readP_nat a3 h2
          obtain ⟨c1, c2, c3, c4, c5⟩ := list_ok a3 l1
          unfold encE headP evF
          simp only
          have hk3 : ¬ 3 < (((b.getD 0 0).toNat : Nat) : Int) := of_decide_eq_false hq2.symm
          rw [if_neg hk3, l2, nat_int]
          rw [l2] at h3
          rw [h3, List.take_of_length_le (Nat.le_refl _)] at c5
          rw [Int.toNat_natCast, Int.toNat_natCast, a4, c5, hc0, UInt8.ofNat_toNat]
          generalize (takeP b 1).2.1 = x at *
          conv => rhs; rw [hd1]
          rw [List.append_nil, List.append_assoc]
          congr 1
          rw [List.drop_take]
          conv => rhs; rw [← List.take_append_drop (x - 1) (b.drop 1), List.drop_drop, show 1 + (x - 1) = x by omega]
      · rw [if_neg h3] at h
        cases h
    · rw [if_neg h2] at h
      cases h
  · rw [if_neg h1] at h
    cases h

/-- A right event's bytes are read as it. -/
theorem readF_enc {q : Bool} {e : Ev} (hq : q = decide (3 < e.k)) (h : okE e = true) : readF q (encE e) = some e := by
  obtain ⟨k1, k2, i1, i2, t1, t2, kt⟩ := okE_head h
  have hs := okE_stamp h
  have hne : encE e ≠ [] := fun hb => by have := enc_pos e; rw [hb] at this; simp at this
  have hk : (UInt8.ofNat e.k.toNat).toNat = e.k.toNat := by rw [u8_nat]; omega
  have hl : (natL e.s).length ≤ 255 := by rw [natL_len]; have := okS_len hs; omega
  have hrd : ∀ (a : List UInt8), readP (a ++ putsP (natL e.s)) (a.length : Nat) = (natL e.s, a.length + (putsP (natL e.s)).length, 0) := by
    intro a
    have h0 := list_put a (natL e.s) [] hl (okS_nats hs)
    rw [List.append_nil] at h0
    have h1 : listI (a ++ putsP (natL e.s)) (a.length : Nat) = (natL e.s, a.length + (putsP (natL e.s)).length, 0) := by
      unfold listI
      rw [if_pos ⟨by omega, by rw [List.length_append]; omega⟩, Int.toNat_natCast, h0]
    unfold readP
    rw [h1]
    simp only [if_true]
    rw [okS_int hs, if_pos hs]
  by_cases h3 : 3 < e.k
  · have hE : encE e = [UInt8.ofNat e.k.toNat] ++ (oneP e.i.toNat ++ (oneP e.t.toNat ++ putsP (natL e.s))) := by
      unfold encE headP
      rw [if_pos h3]
      simp only [List.append_assoc]
    have a1 := take_put [UInt8.ofNat e.k.toNat] e.i.toNat (oneP e.t.toNat ++ putsP (natL e.s)) (by omega)
    have a2 := take_put ([UInt8.ofNat e.k.toNat] ++ oneP e.i.toNat) e.t.toNat (putsP (natL e.s)) (by omega)
    have a3 := hrd ([UInt8.ofNat e.k.toNat] ++ oneP e.i.toNat ++ oneP e.t.toNat)
    rw [show [UInt8.ofNat e.k.toNat] ++ oneP e.i.toNat ++ (oneP e.t.toNat ++ putsP (natL e.s)) = encE e by rw [hE]; simp only [List.append_assoc]] at a2
    rw [show [UInt8.ofNat e.k.toNat] ++ oneP e.i.toNat ++ oneP e.t.toNat ++ putsP (natL e.s) = encE e by rw [hE]; simp only [List.append_assoc]] at a3
    rw [← hE] at a1
    rw [List.length_append] at a2
    have hH : headF q (encE e) = (e.k.toNat, e.i.toNat, e.t.toNat, ([UInt8.ofNat e.k.toNat] ++ oneP e.i.toNat ++ oneP e.t.toNat).length, 0) := by
      unfold headF
      rw [if_neg hne]
      have b1 : takeP (encE e) 1 = _ := a1
      have hq2 : q = true := by rw [hq]; exact decide_eq_true h3
      rw [b1, if_pos ⟨hq2, rfl⟩]
      dsimp only
      rw [a2, hE]
      simp [hk]
      omega
    have hev : evF (encE e) (headF q (encE e)) = e := by
      unfold evF
      rw [hH]
      simp only
      rw [a3]
      simp only
      rw [okS_int hs]
      cases e
      simp only at *
      congr 1 <;> omega
    unfold readF
    rw [hev, hH]
    simp only [if_true]
    rw [a3]
    simp only [if_true]
    rw [if_pos]
    refine ⟨?_, h⟩
    rw [hE]
    simp only [List.length_append, List.length_cons, List.length_nil]
    omega
  · have hE : encE e = [UInt8.ofNat e.k.toNat] ++ (oneP e.i.toNat ++ putsP (natL e.s)) := by
      unfold encE headP
      rw [if_neg h3]
      simp only [List.append_assoc, List.append_nil]
    have a1 := take_put [UInt8.ofNat e.k.toNat] e.i.toNat (putsP (natL e.s)) (by omega)
    have a3 := hrd ([UInt8.ofNat e.k.toNat] ++ oneP e.i.toNat)
    rw [List.append_assoc] at a3
    rw [← hE] at a1 a3
    have hH : headF q (encE e) = (e.k.toNat, e.i.toNat, 0, ([UInt8.ofNat e.k.toNat] ++ oneP e.i.toNat).length, 0) := by
      unfold headF
      rw [if_neg hne]
      have b1 : takeP (encE e) 1 = _ := a1
      have hq2 : ¬ q = true := by rw [hq]; simp only [decide_eq_true_eq]; exact h3
      rw [b1]
      rw [if_neg (fun hh => hq2 hh.1)]
      dsimp only
      rw [hE]
      simp [hk]
      omega
    have hev : evF (encE e) (headF q (encE e)) = e := by
      unfold evF
      rw [hH]
      simp only
      rw [a3]
      simp only
      rw [okS_int hs]
      cases e
      simp only at *
      congr 1 <;> omega
    unfold readF
    rw [hev, hH]
    simp only [if_true]
    rw [a3]
    simp only [if_true]
    rw [if_pos]
    refine ⟨?_, h⟩
    rw [hE]
    simp only [List.length_append, List.length_cons, List.length_nil]
    omega
end Go.Proofs.YtijkgdbabikojaaGreat

/- Plain facts on events' texts: unlike right events have unlike texts. -/
namespace Go.Proofs.YtijkgdbabikojaaGreat
set_option maxRecDepth 1000000
set_option linter.unusedVariables false

/-- A number's decimal digits. -/
def dgs (n : Nat) : List UInt8 := Lib.decDigits n

theorem dgs_lt {n : Nat} (h : n < 10) : dgs n = [UInt8.ofNat (48 + n)] := by unfold dgs; rw [Lib.decDigits, dif_pos h]
theorem dgs_ge {n : Nat} (h : ¬ n < 10) : dgs n = dgs (n / 10) ++ dgs (n % 10) := by
  rw [dgs_lt (show n % 10 < 10 by omega)]
  unfold dgs
  conv => lhs; rw [Lib.decDigits]
  rw [dif_neg h]

theorem dgs_mem : ∀ (n : Nat) (c : UInt8), c ∈ dgs n → 48 ≤ c.toNat ∧ c.toNat ≤ 57 := by
  intro n
  induction n using Nat.strongRecOn with
  | _ n ih =>
    intro c hc
    by_cases h : n < 10
    · rw [dgs_lt h] at hc
      simp only [List.mem_cons, List.not_mem_nil, or_false] at hc
      subst hc
      rw [u8_nat]
      omega
    · rw [dgs_ge h] at hc
      rcases List.mem_append.1 hc with hc | hc
      · exact ih (n / 10) (by omega) c hc
      · exact ih (n % 10) (by omega) c hc

theorem dgs_pos : ∀ (n : Nat), 0 < (dgs n).length := by
  intro n
  by_cases h : n < 10
  · rw [dgs_lt h]; simp
  · rw [dgs_ge h, List.length_append, dgs_lt (show n % 10 < 10 by omega)]; simp

theorem dgs_len : ∀ (k n : Nat), n < 10 ^ (k + 1) → (dgs n).length ≤ k + 1
  | 0, n, h => by rw [dgs_lt (by simpa using h)]; simp
  | k + 1, n, h => by
    by_cases h1 : n < 10
    · rw [dgs_lt h1]; simp
    · have h2 : n / 10 < 10 ^ (k + 1) := by
        rw [Nat.div_lt_iff_lt_mul (by decide), ← Nat.pow_succ]
        exact h
      have := dgs_len k (n / 10) h2
      rw [dgs_ge h1, List.length_append, dgs_lt (show n % 10 < 10 by omega)]
      simp
      omega

theorem dgs_small {n : Nat} (h : n ≤ 1099511627776) : (dgs n).length ≤ 13 := dgs_len 12 n (by omega)

/-- What digits are worth. -/
def worth (l : List UInt8) : Nat := l.foldl (fun a c => 10 * a + (c.toNat - 48)) 0

theorem worth_dgs (n : Nat) : worth (dgs n) = n := by
  induction n using Nat.strongRecOn with
  | _ n ih =>
    by_cases h : n < 10
    · rw [dgs_lt h]
      show 10 * 0 + ((UInt8.ofNat (48 + n)).toNat - 48) = n
      rw [u8_nat]
      omega
    · have h1 := ih (n / 10) (by omega)
      rw [dgs_ge h, dgs_lt (show n % 10 < 10 by omega)]
      unfold worth at h1 ⊢
      rw [List.foldl_append, h1]
      show 10 * (n / 10) + ((UInt8.ofNat (48 + n % 10)).toNat - 48) = n
      rw [u8_nat]
      omega

theorem dgs_inj {n m : Nat} (h : dgs n = dgs m) : n = m := by rw [← worth_dgs n, ← worth_dgs m, h]

theorem split_at (x : UInt8) : ∀ (a b p q : List UInt8), x ∉ a → x ∉ b → a ++ x :: p = b ++ x :: q → a = b ∧ p = q
  | [], [], p, q, _, _, h => by
    simp only [List.nil_append, List.cons.injEq, true_and] at h
    exact ⟨rfl, h⟩
  | [], c :: b, p, q, _, hb, h => by
    simp only [List.nil_append, List.cons_append, List.cons.injEq] at h
    exact absurd (List.mem_cons.2 (.inl h.1)) hb
  | c :: a, [], p, q, ha, _, h => by
    simp only [List.nil_append, List.cons_append, List.cons.injEq] at h
    exact absurd (List.mem_cons.2 (.inl h.1.symm)) ha
  | c :: a, d :: b, p, q, ha, hb, h => by
    simp only [List.cons_append, List.cons.injEq] at h
    obtain ⟨h1, h2⟩ := split_at x a b p q (fun hh => ha (List.mem_cons_of_mem _ hh)) (fun hh => hb (List.mem_cons_of_mem _ hh)) h.2
    exact ⟨by rw [h.1, h1], h2⟩

theorem split_end {x : UInt8} {a b R S : List UInt8} (ha : x ∉ a) (hb : x ∉ b) (hR : R = [] ∨ ∃ r, R = x :: r) (hS : S = [] ∨ ∃ r, S = x :: r) (h : a ++ R = b ++ S) : a = b ∧ R = S := by
  rcases hR with rfl | ⟨r, rfl⟩
  · rcases hS with rfl | ⟨s, rfl⟩
    · simp only [List.append_nil] at h
      exact ⟨h, rfl⟩
    · rw [List.append_nil] at h
      exact absurd (by rw [h]; simp) ha
  · rcases hS with rfl | ⟨s, rfl⟩
    · rw [List.append_nil] at h
      exact absurd (by rw [← h]; simp) hb
    · obtain ⟨h1, h2⟩ := split_at x a b r s ha hb h
      exact ⟨h1, by rw [h2]⟩

theorem dgs_no {n : Nat} {c : UInt8} (h : c.toNat < 48) : c ∉ dgs n := fun hc => by
  have := (dgs_mem n c hc).1
  omega

/-- A kind's word. -/
def wordP (k : Int) : List UInt8 :=
  if k = 1 then [115, 116, 97, 114, 116] else if k = 2 then [111, 107] else if k = 3 then [102, 97, 105, 108]
  else if k = 4 then [117, 110, 100, 111] else if k = 5 then [117, 110, 100, 111, 110, 101] else if k = 6 then [115, 108, 105, 112] else []

def numT (k i t : Int) : List UInt8 := dgs i.toNat ++ (if 3 < k then 46 :: dgs t.toNat else [])
def headT (k i t : Int) : List UInt8 := wordP k ++ 32 :: numT k i t
def stampT (s : List Int) : List UInt8 := s.flatMap fun n => 32 :: dgs n.toNat
/-- A right event's text. -/
def texE (e : Ev) : List UInt8 := headT e.k e.i e.t ++ stampT e.s
/-- What Text answers. -/
def textE (e : Ev) : List UInt8 := if okE e then texE e else []

theorem stampT_nil : stampT [] = [] := rfl
theorem stampT_cons (n : Int) (s : List Int) : stampT (n :: s) = 32 :: (dgs n.toNat ++ stampT s) := by simp [stampT]
theorem stampT_snoc (n : Int) (s : List Int) : stampT (s ++ [n]) = stampT s ++ 32 :: dgs n.toNat := by simp [stampT]
theorem stampT_or (s : List Int) : stampT s = [] ∨ ∃ r, stampT s = 32 :: r := by
  cases s with
  | nil => exact .inl rfl
  | cons n s => exact .inr ⟨_, stampT_cons n s⟩

theorem stampT_inj : ∀ (s r : List Int), stampT s = stampT r → natL s = natL r
  | [], [], _ => rfl
  | [], n :: r, h => by rw [stampT_cons] at h; cases h
  | n :: s, [], h => by rw [stampT_cons] at h; cases h
  | n :: s, m :: r, h => by
    rw [stampT_cons, stampT_cons, List.cons.injEq] at h
    obtain ⟨h1, h2⟩ := split_end (dgs_no (by decide)) (dgs_no (by decide)) (stampT_or s) (stampT_or r) h.2
    have := stampT_inj s r h2
    unfold natL at this ⊢
    rw [List.map_cons, List.map_cons, dgs_inj h1, this]

theorem word_no (k : Int) : (32 : UInt8) ∉ wordP k := by
  unfold wordP
  repeat' split
  all_goals decide

theorem word_inj {k m : Int} (h1 : 1 ≤ k) (h2 : k ≤ 6) (h3 : 1 ≤ m) (h4 : m ≤ 6) (h : wordP k = wordP m) : k = m := by
  have hk : k = 1 ∨ k = 2 ∨ k = 3 ∨ k = 4 ∨ k = 5 ∨ k = 6 := by omega
  have hm : m = 1 ∨ m = 2 ∨ m = 3 ∨ m = 4 ∨ m = 5 ∨ m = 6 := by omega
  rcases hk with rfl | rfl | rfl | rfl | rfl | rfl <;> rcases hm with rfl | rfl | rfl | rfl | rfl | rfl <;> first | rfl | (exact absurd h (by decide))

theorem num_no (k i t : Int) : (32 : UInt8) ∉ numT k i t := by
  unfold numT
  intro h
  rcases List.mem_append.1 h with h | h
  · exact dgs_no (by decide) h
  · split at h
    · rcases List.mem_cons.1 h with h | h
      · exact absurd h (by decide)
      · exact dgs_no (by decide) h
    · cases h

/-- Unlike right events have unlike texts. -/
theorem tex_inj {e f : Ev} (he : okE e = true) (hf : okE f = true) (h : texE e = texE f) : e = f := by
  obtain ⟨k1, k2, i1, i2, t1, t2, kt⟩ := okE_head he
  obtain ⟨k3, k4, i3, i4, t3, t4, kt2⟩ := okE_head hf
  have se := okE_stamp he
  have sf := okE_stamp hf
  unfold texE headT at h
  rw [List.append_assoc, List.append_assoc, List.cons_append, List.cons_append] at h
  obtain ⟨hw, h⟩ := split_at 32 _ _ _ _ (word_no _) (word_no _) h
  have hk := word_inj k1 k2 k3 k4 hw
  obtain ⟨hn, hs⟩ := split_end (num_no _ _ _) (num_no _ _ _) (stampT_or e.s) (stampT_or f.s) h
  have hs2 : e.s = f.s := by rw [← okS_int se, ← okS_int sf, stampT_inj _ _ hs]
  have hit : e.i = f.i ∧ e.t = f.t := by
    unfold numT at hn
    by_cases h3 : 3 < e.k
    · rw [if_pos h3, if_pos (by omega)] at hn
      obtain ⟨a1, a2⟩ := split_at 46 _ _ _ _ (dgs_no (by decide)) (dgs_no (by decide)) hn
      have b1 := dgs_inj a1
      have b2 := dgs_inj a2
      exact ⟨by omega, by omega⟩
    · rw [if_neg h3, if_neg (by omega), List.append_nil, List.append_nil] at hn
      have b1 := dgs_inj hn
      exact ⟨by omega, by omega⟩
  obtain ⟨hi, ht⟩ := hit
  cases e; cases f
  simp only at hk hi ht hs2
  subst hk hi ht hs2
  rfl

theorem word_len (k : Int) : (wordP k).length ≤ 6 := by
  unfold wordP
  repeat' split
  all_goals decide

theorem head_len {k i t : Int} (h1 : i ≤ 63) (h2 : t ≤ 3) : (headT k i t).length ≤ 50 := by
  have a := word_len k
  have b := dgs_small (n := i.toNat) (by omega)
  have c := dgs_small (n := t.toNat) (by omega)
  unfold headT numT
  simp only [List.length_append, List.length_cons]
  split
  · simp only [List.length_cons]; omega
  · simp only [List.length_nil]; omega

theorem stampT_len : ∀ (s : List Int), (∀ n ∈ s, n ≤ 1099511627776) → (stampT s).length ≤ 14 * s.length
  | [], _ => by simp [stampT]
  | n :: s, h => by
    have h1 := stampT_len s (fun m hm => h m (List.mem_cons_of_mem _ hm))
    have h2 := dgs_small (n := n.toNat) (by have := h n (List.mem_cons_self ..); omega)
    rw [stampT_cons, List.length_cons, List.length_append, List.length_cons]
    omega
end Go.Proofs.YtijkgdbabikojaaGreat

/- The walks over sortOf, tryFits. -/
namespace Go.Proofs.YtijkgdbabikojaaGreat
set_option maxRecDepth 1000000
open Go.RowKit
set_option linter.unusedVariables false

theorem bl_drawn {B : Nat} {w w' : World} (h : Below B w w') (n : Nat) : Below B w (w'.drewN n) := ⟨h.os, h.tape, h.output, h.size, h.block⟩
theorem bl_drawn1 {B : Nat} {w w' : World} (h : Below B w w') : Below B w w'.drew := ⟨h.os, h.tape, h.output, h.size, h.block⟩

/-- An event's sort. -/
def sortV (k : Int) : Value :=
  if 1 ≤ k ∧ k ≤ 3 then .iface 166 (.agg #[.string ⟨(wordP k).toArray⟩]) else if 4 ≤ k ∧ k ≤ 6 then .iface 152 (.agg #[.string ⟨(wordP k).toArray⟩]) else .iface 168 (.agg #[])

theorem sort_cases (k : Int) : k = 1 ∨ k = 2 ∨ k = 3 ∨ k = 4 ∨ k = 5 ∨ k = 6 ∨ (¬ k = 1 ∧ ¬ k = 2 ∧ ¬ k = 3 ∧ ¬ k = 4 ∧ ¬ k = 5 ∧ ¬ k = 6) := by omega

theorem sort_none {k : Int} (h : ¬ (1 ≤ k ∧ k ≤ 6)) : sortV k = .iface 168 (.agg #[]) := by
  unfold sortV
  rw [if_neg (by omega), if_neg (by omega)]

set_option maxRecDepth 1000000 in
set_option maxHeartbeats 1000000 in
theorem sortOf_any (k : Int) (w : World) : Calls Tryz.prog 101 #[.int .i64 k] w fun e w' => e = .returned (sortV k) ∧ w' = w := by
  rcases sort_cases k with rfl | rfl | rfl | rfl | rfl | rfl | h
  all_goals first
    | (go_enter Tryz.func101, Tryz.ntmps101
       go_wp2_with fail
       go_ret
       exact ⟨rfl, rfl⟩)
    | (have hs : Hid _ := sort_none (k := k) (by omega)
       obtain ⟨h1, h2, h3, h4, h5, h6⟩ := h
       have g1 : (k == 1) = false := by simpa using h1
       have g2 : (k == 2) = false := by simpa using h2
       have g3 : (k == 3) = false := by simpa using h3
       have g4 : (k == 4) = false := by simpa using h4
       have g5 : (k == 5) = false := by simpa using h5
       have g6 : (k == 6) = false := by simpa using h6
       go_enter Tryz.func101, Tryz.ntmps101
       go_wp2_with fail
       go_ret
       rw [hs.out]
       exact ⟨rfl, rfl⟩)

theorem as_same (t : TypeId) (v : Value) (ht : t = 152 ∨ t = 166) : ∀ w : World, (Instr.typeAssert (.iface t v) 148 t true).run Tryz.prog w = .ok (.tuple #[v, .bool true]) w := by
  rcases ht with rfl | rfl
  · intro w; kernel_rfl
  · intro w; kernel_rfl
theorem as_70_74 (v : Value) : ∀ w : World, (Instr.typeAssert (.iface 152 v) 148 166 true).run Tryz.prog w = .ok (.tuple #[.agg #[.string ⟨#[]⟩], .bool false]) w := by
  intro w; kernel_rfl
theorem as_74_70 (v : Value) : ∀ w : World, (Instr.typeAssert (.iface 166 v) 148 152 true).run Tryz.prog w = .ok (.tuple #[.agg #[.string ⟨#[]⟩], .bool false]) w := by
  intro w; kernel_rfl
theorem as_76_74 (v : Value) : ∀ w : World, (Instr.typeAssert (.iface 168 v) 148 166 true).run Tryz.prog w = .ok (.tuple #[.agg #[.string ⟨#[]⟩], .bool false]) w := by
  intro w; kernel_rfl
theorem as_76_70 (v : Value) : ∀ w : World, (Instr.typeAssert (.iface 168 v) 148 152 true).run Tryz.prog w = .ok (.tuple #[.agg #[.string ⟨#[]⟩], .bool false]) w := by
  intro w; kernel_rfl

/-- May an event of a kind have such a try? -/
def fits (k t : Int) : Bool := decide ((1 ≤ k ∧ k ≤ 3 ∧ t = 0) ∨ (4 ≤ k ∧ k ≤ 6 ∧ 0 ≤ t ∧ t ≤ 3))

set_option maxRecDepth 1000000 in
set_option maxHeartbeats 1000000 in
theorem tryFits_any (k t : Int) (w : World) : Calls Tryz.prog 100 #[sortV k, .int .i64 t] w fun e w' => e = .returned (.bool (fits k t)) ∧ w' = w := by
  unfold sortV
  by_cases h1 : 1 ≤ k ∧ k ≤ 3
  · rw [if_pos h1]
    have hf : Hid (fits k t = decide (t = 0)) := by
      show _ = _
      unfold fits
      exact decide_eq_decide.2 (by omega)
    have q1 := as_same 166 (.agg #[.string ⟨(wordP k).toArray⟩]) (.inr rfl)
    go_enter Tryz.func100, Tryz.ntmps100
    go_wp2_with fail
    go_ret
    exact ⟨by rw [hf.out]; by_cases h : t = 0 <;> simp [h], rfl⟩
  · rw [if_neg h1]
    by_cases h2 : 4 ≤ k ∧ k ≤ 6
    · rw [if_pos h2]
      have hf : Hid (fits k t = decide (0 ≤ t ∧ t ≤ 3)) := by
        show _ = _
        unfold fits
        exact decide_eq_decide.2 (by omega)
      clear h1 h2
      have q1 := as_same 152 (.agg #[.string ⟨(wordP k).toArray⟩]) (.inl rfl)
      have q2 := as_70_74 (.agg #[.string ⟨(wordP k).toArray⟩])
      by_cases h0 : 0 ≤ t
      · go_enter Tryz.func100, Tryz.ntmps100
        go_wp2_with fail
        go_ret
        exact ⟨by rw [hf.out]; simp [h0], rfl⟩
      · go_enter Tryz.func100, Tryz.ntmps100
        go_wp2_with fail
        go_ret
        exact ⟨by rw [hf.out]; simp; omega, rfl⟩
    · rw [if_neg h2]
      have hf : Hid (fits k t = false) := by
        show _ = _
        unfold fits
        exact decide_eq_false (by omega)
      clear h1 h2
      have q1 := as_76_70 (.agg #[])
      have q2 := as_76_74 (.agg #[])
      go_enter Tryz.func100, Tryz.ntmps100
      go_wp2_with fail
      go_ret
      exact ⟨by rw [hf.out]; rfl, rfl⟩

/-- An event in memory. -/
def EvV (e : Ev) (sv : Value) : Value := .agg #[.int .i64 e.k, .int .i64 e.i, .int .i64 e.t, sv]

theorem fits_ok {k i t : Int} : okH k i t = (decide (1 ≤ i ∧ i < 64) && fits k t) := by
  unfold okH fits
  rw [← Bool.decide_and]
  exact decide_eq_decide.2 (by omega)

set_option maxRecDepth 1000000 in
set_option maxHeartbeats 2000000 in
theorem check_ev (e : Ev) (sv : Value) (w : World) (hv : RI w sv e.s) (hn : e.s.length ≤ 1000000) :
    Calls Tryz.prog 77 #[EvV e sv] w fun x w' => x = .returned (.int .i64 (evE e : Nat)) ∧ Below w.heap.size w w' := by
  obtain ⟨k, i, t, s⟩ := e
  unfold EvV
  dsimp only at *
  have HC : Hid (∀ c : Int, ((chkE s : Nat) : Int) = c → ∀ wx : World, Below w.heap.size w wx → Calls Tryz.prog 102 #[sv] wx fun e w' => e = .returned (.int .i64 c) ∧ w' = wx) := by
    show ∀ c, _
    rintro c rfl wx hb
    exact check_any sv s wx (hv.later hb) hn
  obtain ⟨sa, sc, rfl, _, _, hrr⟩ := hv
  clear hrr
  have HB : Hid (Below w.heap.size w (w.alloc (.cells #[.int .i64 k, .int .i64 i, .int .i64 t, .slice sa s.length sc] 33))) := (Below.refl _ _).alloc (Nat.le_refl _) _
  have HS : Hid _ := sortOf_any k
  by_cases h1 : 1 ≤ i ∧ i < 64
  · by_cases h2 : fits k t = true
    · have HT : Hid _ := tryFits_any k t
      rw [h2] at HT
      obtain ⟨h11, h12⟩ := h1
      by_cases h3 : okS s = true
      · have HE : Hid (evE ⟨k, i, t, s⟩ = 0) := by
          show _ = _
          unfold evE okE
          dsimp only
          rw [fits_ok, h2, h3, decide_eq_true ⟨h11, h12⟩]
          rfl
        replace HC : Hid _ := HC.out 0 (by unfold chkE; rw [if_pos h3]; rfl)
        clear h2 h3 hn
        generalize sortV k = sk at *
        go_enter Tryz.func77, Tryz.ntmps77
        go_wp2_with fail
        go_quiet (first
          | (go_at_call 101; refine Calls.quiet_of_same (HS.out _))
          | (go_at_call 100; refine Calls.quiet_of_same (HT.out _))
          | (go_at_call 102; refine Calls.quiet_of_same (HC.out _ (by first | exact HB.out | exact bl_drawn1 HB.out | exact bl_drawn HB.out _))))
        go_wp2_with fail
        go_ret
        refine ⟨by rw [HE.out]; rfl, by first | exact HB.out | exact bl_drawn1 HB.out | exact bl_drawn HB.out _⟩
      · have HE : Hid (evE ⟨k, i, t, s⟩ = 2) := by
          show _ = _
          unfold evE okE
          dsimp only
          rw [show okS s = false by simpa using h3, Bool.and_false]
          rfl
        replace HC : Hid _ := HC.out 2 (by unfold chkE; rw [if_neg h3]; rfl)
        clear h2 h3 hn
        generalize sortV k = sk at *
        go_enter Tryz.func77, Tryz.ntmps77
        go_wp2_with fail
        go_quiet (first
          | (go_at_call 101; refine Calls.quiet_of_same (HS.out _))
          | (go_at_call 100; refine Calls.quiet_of_same (HT.out _))
          | (go_at_call 102; refine Calls.quiet_of_same (HC.out _ (by first | exact HB.out | exact bl_drawn1 HB.out | exact bl_drawn HB.out _))))
        go_wp2_with fail
        go_ret
        refine ⟨by rw [HE.out]; rfl, by first | exact HB.out | exact bl_drawn1 HB.out | exact bl_drawn HB.out _⟩
    · have h2f : fits k t = false := by simpa using h2
      have HT : Hid _ := tryFits_any k t
      rw [h2f] at HT
      obtain ⟨h11, h12⟩ := h1
      have HE : Hid (evE ⟨k, i, t, s⟩ = 2) := by
        show _ = _
        unfold evE okE
        dsimp only
        rw [fits_ok, h2f, Bool.and_false, Bool.false_and]
        rfl
      clear h2 h2f hn
      generalize sortV k = sk at *
      go_enter Tryz.func77, Tryz.ntmps77
      go_wp2_with fail
      go_quiet (first
        | (go_at_call 101; refine Calls.quiet_of_same (HS.out _))
        | (go_at_call 100; refine Calls.quiet_of_same (HT.out _))
        | (go_at_call 102; refine Calls.quiet_of_same (HC.out _ (by first | exact HB.out | exact bl_drawn1 HB.out | exact bl_drawn HB.out _))))
      go_wp2_with fail
      go_ret
      refine ⟨by rw [HE.out]; rfl, by first | exact HB.out | exact bl_drawn1 HB.out | exact bl_drawn HB.out _⟩
  · have HE : Hid (evE ⟨k, i, t, s⟩ = 2) := by
      show _ = _
      unfold evE okE
      dsimp only
      rw [fits_ok, decide_eq_false h1, Bool.false_and, Bool.false_and]
      rfl
    have HT : Hid _ := tryFits_any k t
    clear hn
    by_cases h0 : 1 ≤ i
    · have h5 : decide (i < 64) = false := decide_eq_false (by omega)
      clear h1
      go_enter Tryz.func77, Tryz.ntmps77
      go_wp2_with fail
      go_quiet (first
        | (go_at_call 101; refine Calls.quiet_of_same (HS.out _))
        | (go_at_call 100; refine Calls.quiet_of_same (HT.out _))
        | (go_at_call 102; refine Calls.quiet_of_same (HC.out _ (by first | exact HB.out | exact bl_drawn1 HB.out | exact bl_drawn HB.out _))))
      go_wp2_with fail
      go_ret
      refine ⟨by rw [HE.out]; rfl, by first | exact HB.out | exact bl_drawn1 HB.out | exact bl_drawn HB.out _⟩
    · clear h1
      go_enter Tryz.func77, Tryz.ntmps77
      go_wp2_with fail
      go_quiet (first
        | (go_at_call 101; refine Calls.quiet_of_same (HS.out _))
        | (go_at_call 100; refine Calls.quiet_of_same (HT.out _))
        | (go_at_call 102; refine Calls.quiet_of_same (HC.out _ (by first | exact HB.out | exact bl_drawn1 HB.out | exact bl_drawn HB.out _))))
      go_wp2_with fail
      go_ret
      refine ⟨by rw [HE.out]; rfl, by first | exact HB.out | exact bl_drawn1 HB.out | exact bl_drawn HB.out _⟩
end Go.Proofs.YtijkgdbabikojaaGreat

