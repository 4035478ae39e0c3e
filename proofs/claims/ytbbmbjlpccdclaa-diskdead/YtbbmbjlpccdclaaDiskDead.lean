/- With a fuse of so many calls just as many are done; then nothing is, until a crash. -/
import Derived.Test.YtbbmbjlpccdclaaRows
import Derived.Test.YtbbmbjlpccdclaaXl
import Derived.Test.YtbbmbjlpccdclaaXm
import Derived.Test.YtbbmbjlpccdclaaXn
import Derived.Test.YtbbmbjlpccdclaaMc
import Derived.ProofKit
import Derived.OpenShut
import Derived.ShutString
import Derived.ChangeOld
namespace Go.Proofs.Ytbbmbjlpccdclaa.diskDead
open Go.RowKit
set_option linter.unusedVariables false

theorem n_step (S : DS) (x : Ac) : (stepP S x).n = S.n := by
  unfold stepP
  split
  · exact write_n _ _ _ _
  · split
    · exact write_n _ _ _ _
    · split
      · exact armP_n _ _
      · split
        · exact crashP_n _ _
        · split
          · exact growP_n _ _
          · split
            · rfl
            · exact write_n _ _ _ _

theorem n_play (S : DS) : ∀ (L : List Ac), (playP S L).n = S.n := by
  intro L
  induction L generalizing S with
  | nil => rfl
  | cons x L ih =>
    show (playP (stepP S x) L).n = _
    rw [ih, n_step]

theorem read_len {S : DS} (h : S.n = 3) (i : Nat) (hi : i < 3) : readP S i = (S.fs i).b := by
  unfold readP hasB
  rw [decide_eq_true (by omega), if_pos rfl]
  rfl

theorem q_read {B : Nat} {w : World} {p : Nat} {S : DS} {L R : Nat} (h : LD B w p S L R) (h3 : S.n = 3) (i : Nat) (hi : i < 3) (hL : L ≤ 10000000) (hR : R ≤ 1000000000000) : Calls Try.prog 15 #[.pointer (some ⟨p, 0, none⟩), .int .i64 i] w fun e w' => (∃ a c, e = .returned (.slice a (S.fs i).b.length c)) ∧ LD B w' p S L R ∧ Below w.heap.size w w' := by
  have := d_read h i hL hR
  rw [read_len h3 i hi] at this
  refine Calls.mono this ?_
  rintro e w' ⟨⟨v, rfl, a, c, rfl, _⟩, q2, q3⟩
  exact ⟨⟨a, c, rfl⟩, q2, q3⟩

theorem LD.mono {B : Nat} {w : World} {p : Nat} {S : DS} {L R R' : Nat} (h : LD B w p S L R) (hR : R ≤ R') : LD B w p S L R' := ⟨h.dk, h.ok, small_mono h.sm (Nat.le_refl _) hR, h.hB⟩

theorem app_down {S : DS} (h : S.down = true) (l : List UInt8) : appendP S 0 l = (9, S) := by unfold appendP writeP; rw [if_pos h]
theorem arm_down {S : DS} (h : S.down = true) (n : Int) : armP S n = (9, S) := by unfold armP; rw [if_pos h]
theorem sync_up {S : DS} (h3 : S.n = 3) (h : S.down = false) (hf : S.fuse = -1) : (syncP S 0).1 = 0 := by
  have hh : hasB S 0 = true := by unfold hasB; simp; omega
  unfold syncP writeP
  rw [if_neg (by rw [h]; decide), if_neg (by rw [hh]; decide), if_neg (by simp), if_neg (by rw [hf]; decide)]

set_option maxRecDepth 1000000 in
set_option maxHeartbeats 2000000 in
theorem early (a : Option Addr) (n c : Nat) (L : List Ac) (nn : Int) (sa : Option Addr) (sn sc : Nat) (w : World) (q : Bool) (hf : Hid (Calls Try.prog 8 #[.slice a n c] w fun e w' => e = .returned (.bool q) ∧ w' = w)) (hsn : sn ≤ maxLen) (h : q = false ∨ nn < 0 ∨ 20 < nn ∨ 100 < sn) :
    Calls Try.prog 6 #[.slice a n c, .int .i64 nn, .slice sa sn sc] w fun e w' => e = .returned (.bool true) ∧ Below w.heap.size w w' := by
  have HL : Hid _ := lives_any w
  unfold maxLen at hsn
  cases q with
  | false =>
    clear h
    go_enter Try.func6, Try.ntmps6
    go_wp2_with fail
    refine Calls.mono hf.out ?_
    rintro e w1 ⟨rfl, rfl⟩
    go_wp2_with fail
    refine Calls.mono HL.out ?_
    rintro e w2 ⟨rfl, hb⟩
    go_wp2_with fail
    go_ret
    exact ⟨rfl, hb⟩
  | true =>
    by_cases h1 : nn < 0
    · clear h
      go_enter Try.func6, Try.ntmps6
      go_wp2_with fail
      refine Calls.mono hf.out ?_
      rintro e w1 ⟨rfl, rfl⟩
      go_wp2_with fail
      refine Calls.mono HL.out ?_
      rintro e w2 ⟨rfl, hb⟩
      go_wp2_with fail
      go_ret
      exact ⟨rfl, hb⟩
    · by_cases h2 : 20 < nn
      · clear h
        go_enter Try.func6, Try.ntmps6
        go_wp2_with fail
        refine Calls.mono hf.out ?_
        rintro e w1 ⟨rfl, rfl⟩
        go_wp2_with fail
        refine Calls.mono HL.out ?_
        rintro e w2 ⟨rfl, hb⟩
        go_wp2_with fail
        go_ret
        exact ⟨rfl, hb⟩
      · have h3 : (100 : Int) < (sn : Int) := by
          rcases h with h | h | h | h
          · cases h
          · exact absurd h h1
          · exact absurd h h2
          · omega
        clear h
        go_enter Try.func6, Try.ntmps6
        go_wp2_with fail
        refine Calls.mono hf.out ?_
        rintro e w1 ⟨rfl, rfl⟩
        go_wp2_with fail
        refine Calls.mono HL.out ?_
        rintro e w2 ⟨rfl, hb⟩
        go_wp2_with fail
        go_ret
        exact ⟨rfl, hb⟩

set_option maxRecDepth 1000000 in
set_option maxHeartbeats 4000000 in
theorem walk (a : Option Addr) (n c : Nat) (L : List Ac) (nn : Int) (sv : Value) (sl : List UInt8) (w : World) (hx : RAs w (.slice a n c) L) (hn : FitN L) (_w1 : (Lit.int .i64 nn).wf = true) (hs : RB w sv sl) :
    Calls Try.prog 6 #[.slice a n c, .int .i64 nn, sv] w fun e w' => e = .returned (.bool true) ∧ Below w.heap.size w w' := by
  have HF : Hid _ := few_any _ L w hx
  obtain ⟨q, HQ⟩ : ∃ q, Hid (fewP L = q) := ⟨_, rfl⟩
  rw [HQ.out] at HF
  by_cases hbad : q = false ∨ nn < 0 ∨ 20 < nn ∨ 100 < sl.length
  · obtain ⟨sa, sc, rfl, h1, h2, _, _⟩ := hs
    exact early a n c L nn sa sl.length sc w q HF (by omega) hbad
  have hq : q = true := by
    cases q with
    | true => rfl
    | false => exact absurd (.inl rfl) hbad
  subst hq
  obtain ⟨m, rfl⟩ : ∃ m : Nat, nn = m := ⟨nn.toNat, by omega⟩
  have hm : m ≤ 20 := by omega
  have hsl : sl.length ≤ 100 := by omega
  clear hbad
  have HBg : Hid _ := begun_any a n c L w hx HQ.out hn
  obtain ⟨hl, _⟩ := few_len HQ.out
  have HSv : Hid (∀ wx, Below w.heap.size w wx → RB wx sv sl) := fun wx hb => hs.later hb
  have HLow : Hid (0 < sl.length → ∀ a n c, sv = .slice (some a) n c → a.block < w.heap.size) := fun h0 a n c he => by
    have h1 := hs.low
    obtain ⟨a', c', he', _⟩ := hs
    rw [he] at he'
    cases he'
    exact h1 a _ c h0 he
  obtain ⟨S0, HS0⟩ : ∃ S, Hid (playP (newP 3 4000) L = S) := ⟨_, rfl⟩
  have hS0 : S0.n = 3 := by rw [← HS0.out]; exact n_play _ _
  rw [HS0.out] at HBg
  have hLb : Lk L.length ≤ 600000 := by unfold Lk; omega
  have hRb : Rk L.length ≤ 10050000000 := by unfold Rk; omega
  generalize Lk L.length = LL at *
  generalize Rk L.length = RR at *
  obtain ⟨sa, sc, hsv, _, _, _, _⟩ := hs
  subst hsv
  obtain ⟨a', cap, he, _, _, _⟩ := hx
  cases he
  clear hn HQ HS0
  have hS1 : (crashP S0 []).n = 3 := by rw [crashP_n]; exact hS0
  have hS1d : (crashP S0 []).down = false := rfl
  obtain ⟨S1, HS1⟩ : ∃ S, Hid (crashP S0 [] = S) := ⟨_, rfl⟩
  rw [HS1.out] at hS1 hS1d
  obtain ⟨ha1, ha2⟩ := dead_arm hS1 hS1d m
  obtain ⟨S2, HS2⟩ : ∃ S, Hid ((armP S1 m).2 = S) := ⟨_, rfl⟩
  rw [HS2.out] at ha2
  have HDD : Hid (DD m 0 S2) := ha2
  have HCr : Hid (∀ p wx, LD w.heap.size wx p S0 LL RR → Calls Try.prog 17 #[.pointer (some ⟨p, 0, none⟩), .slice none 0 0] wx fun e w' => e = .returned (.int .i64 0) ∧ LD w.heap.size w' p S1 LL (RR + 65 * LL) ∧ Below w.heap.size wx w') := fun p wx h => by
    have := d_crash h (.slice none 0 0) [] (RI.nil _) (fun _ a n c he => by cases he) (by simp) (by omega) (by omega)
    rw [HS1.out] at this
    exact this
  have HAr : Hid (∀ p wx, LD w.heap.size wx p S1 LL (RR + 65 * LL) → Calls Try.prog 20 #[.pointer (some ⟨p, 0, none⟩), .int .i64 m] wx fun e w' => e = .returned (.int .i64 0) ∧ LD w.heap.size w' p S2 LL (RR + 65 * LL) ∧ Below w.heap.size wx w') := fun p wx h => by
    have := d_arm h (m : Int) (by omega)
    rw [ha1, HS2.out] at this
    exact this
  clear ha1 ha2 hS1 hS1d HS1 HS2 hS0
  have hm1 : ¬ (20 : Int) < (m : Int) := by omega
  have hsl1 : ¬ (100 : Int) < (sl.length : Int) := by omega
  go_enter Try.func6, Try.ntmps6
  go_wp2_with fail
  refine Calls.mono HF.out ?_
  rintro e w0 ⟨rfl, rfl⟩
  go_wp2_with fail
  refine Calls.mono HBg.out ?_
  rintro e w1 ⟨p, rfl, hd1, hb1⟩
  have HC1 : Hid _ := HCr.out p w1 hd1
  clear hd1 HBg HF HCr
  go_wp2_with fail
  refine Calls.mono HC1.out ?_
  rintro e w2 ⟨rfl, hd2, hb2⟩
  have HC2 : Hid _ := HAr.out p w2 hd2
  have hb2' := hb1.trans hb2
  clear hd2 HC1 HAr hb1 hb2
  go_wp2_with fail
  refine Calls.mono HC2.out ?_
  rintro e w3 ⟨rfl, hd3, hb3⟩
  have HD3 : Hid _ := hd3
  have HB3 : Hid _ := hb2'.trans hb3
  clear hd3 hb3 hb2' HC2
  go_wp2_with fail
  go_loopw [8, 9] (fun dv iv wr => ∃ (j : Nat) (S : DS), j ≤ 25 ∧ iv = .int .i64 j ∧ dv = .int .i64 (min j m : Nat) ∧ Hid (DD m j S) ∧ Hid (LD w0.heap.size wr p S LL (RR + 65 * LL + j * LL)) ∧ Hid (Below w0.heap.size w0 wr)) (fun _ iv _ => 25 - (intOf iv).toNat)
  case atStart => exact ⟨0, S2, by omega, rfl, by rw [Nat.zero_min]; rfl, HDD, by show LD _ _ _ _ _ _; rw [Nat.zero_mul, Nat.add_zero]; exact HD3.out, HB3⟩
  case round =>
    obtain ⟨j, S, hj, rfl, rfl, HD, HL, HB⟩ := hrel
    have hjL : j * LL ≤ 15000000 := Nat.le_trans (Nat.mul_le_mul hj hLb) (by omega)
    have hmin : min j m ≤ 20 := by omega
    by_cases hlt : j < 25
    · by_cases hodd : j % 2 = 1
      · have ho1 : (j : Int) % 2 = 1 := by omega
        have ho2 : ((j : Int).tmod 2 == 1) = true := by rw [Int.tmod_eq_emod_of_nonneg (by omega), ho1]; rfl
        by_cases hjm : j < m
        · have hmm : min j m = j := by omega
          have hres : (if j < m then (0 : Int) else 9) = 0 := by rw [if_pos hjm]
          have hd := dead_cut HD.out (j % 3) (by omega)
          rw [hres] at hd
          have HRd : Hid _ := q_read HL.out (HD.out.three) (j % 3) (by omega) (by omega) (by omega)
          have HCt : Hid (∀ wx, LD w0.heap.size wx p S LL (RR + 65 * LL + j * LL) → _) := fun wx h => d_cut h ((j % 3 : Nat) : Int) ((S.fs (j % 3)).b.length : Nat) (by omega) (by omega)
          rw [hd.1] at HCt
          have HD2 : Hid _ := hd.2
          rw [show ((j % 3 : Nat) : Int) = (j : Int) % 3 by omega] at HRd HCt HD2
          have hlen : (S.fs (j % 3)).b.length ≤ 600000 := Nat.le_trans (HL.out.sm.len _) hLb
          generalize (S.fs (j % 3)).b.length = bl at *
          generalize (cutP S ((j : Int) % 3) (bl : Int)).2 = S' at *
          clear hd hres HL HD
          go_wp2_with fail
          refine Calls.mono HRd.out ?_
          rintro e w4 ⟨⟨a4, c4, rfl⟩, hd4, hb4⟩
          have HC4 : Hid _ := HCt.out w4 hd4
          have HB4 : Hid _ := HB.out.trans (hb4.mono HB.out.size)
          clear hd4 hb4 HRd HCt
          go_wp2_with fail
          refine Calls.mono HC4.out ?_
          rintro e w5 ⟨rfl, hd5, hb5⟩
          have HD5 : Hid (LD w0.heap.size w5 p S' LL (RR + 65 * LL + (j + 1) * LL)) := by show LD _ _ _ _ _ _; rw [Nat.add_mul, Nat.one_mul, ← Nat.add_assoc]; exact hd5
          have HB5 : Hid _ := HB4.out.trans hb5
          clear hd5 hb5 HC4
          go_wp2_with fail
          go_roundw
          case rel => exact ⟨j + 1, S', by omega, by go_num, by rw [show min (j + 1) m = min j m + 1 by omega]; go_num, HD2, HD5, HB5⟩
          case measure => simp [intOf]; omega
        · have hmm : min j m = m := by omega
          have hres : (if j < m then (0 : Int) else 9) = 9 := by rw [if_neg hjm]
          have hd := dead_cut HD.out (j % 3) (by omega)
          rw [hres] at hd
          have HRd : Hid _ := q_read HL.out (HD.out.three) (j % 3) (by omega) (by omega) (by omega)
          have HCt : Hid (∀ wx, LD w0.heap.size wx p S LL (RR + 65 * LL + j * LL) → _) := fun wx h => d_cut h ((j % 3 : Nat) : Int) ((S.fs (j % 3)).b.length : Nat) (by omega) (by omega)
          rw [hd.1] at HCt
          have HD2 : Hid _ := hd.2
          rw [show ((j % 3 : Nat) : Int) = (j : Int) % 3 by omega] at HRd HCt HD2
          have hlen : (S.fs (j % 3)).b.length ≤ 600000 := Nat.le_trans (HL.out.sm.len _) hLb
          generalize (S.fs (j % 3)).b.length = bl at *
          generalize (cutP S ((j : Int) % 3) (bl : Int)).2 = S' at *
          clear hd hres HL HD
          go_wp2_with fail
          refine Calls.mono HRd.out ?_
          rintro e w4 ⟨⟨a4, c4, rfl⟩, hd4, hb4⟩
          have HC4 : Hid _ := HCt.out w4 hd4
          have HB4 : Hid _ := HB.out.trans (hb4.mono HB.out.size)
          clear hd4 hb4 HRd HCt
          go_wp2_with fail
          refine Calls.mono HC4.out ?_
          rintro e w5 ⟨rfl, hd5, hb5⟩
          have HD5 : Hid (LD w0.heap.size w5 p S' LL (RR + 65 * LL + (j + 1) * LL)) := by show LD _ _ _ _ _ _; rw [Nat.add_mul, Nat.one_mul, ← Nat.add_assoc]; exact hd5
          have HB5 : Hid _ := HB4.out.trans hb5
          clear hd5 hb5 HC4
          go_wp2_with fail
          go_roundw
          case rel => exact ⟨j + 1, S', by omega, by go_num, by rw [show min (j + 1) m = m by omega], HD2, HD5, HB5⟩
          case measure => simp [intOf]; omega
      · have ho1 : ¬ (j : Int) % 2 = 1 := by omega
        have ho2 : ((j : Int).tmod 2 == 1) = false := by rw [Int.tmod_eq_emod_of_nonneg (by omega)]; simpa using ho1
        by_cases hjm : j < m
        · have hmm : min j m = j := by omega
          have hres : (if j < m then (0 : Int) else 9) = 0 := by rw [if_pos hjm]
          have hd := dead_sync HD.out (j % 3) (by omega)
          rw [hres] at hd
          have HCt : Hid _ := d_sync HL.out ((j % 3 : Nat) : Int) (by omega) (by omega)
          rw [hd.1] at HCt
          have HD2 : Hid _ := hd.2
          rw [show ((j % 3 : Nat) : Int) = (j : Int) % 3 by omega] at HCt HD2
          generalize (syncP S ((j : Int) % 3)).2 = S' at *
          clear hd hres HL HD
          go_wp2_with fail
          refine Calls.mono HCt.out ?_
          rintro e w5 ⟨rfl, hd5, hb5⟩
          have HD5 : Hid (LD w0.heap.size w5 p S' LL (RR + 65 * LL + (j + 1) * LL)) := LD.mono hd5 (by rw [Nat.add_mul]; omega)
          have HB5 : Hid _ := HB.out.trans hb5
          clear hd5 hb5 HCt
          go_wp2_with fail
          go_roundw
          case rel => exact ⟨j + 1, S', by omega, by go_num, by rw [show min (j + 1) m = min j m + 1 by omega]; go_num, HD2, HD5, HB5⟩
          case measure => simp [intOf]; omega
        · have hmm : min j m = m := by omega
          have hres : (if j < m then (0 : Int) else 9) = 9 := by rw [if_neg hjm]
          have hd := dead_sync HD.out (j % 3) (by omega)
          rw [hres] at hd
          have HCt : Hid _ := d_sync HL.out ((j % 3 : Nat) : Int) (by omega) (by omega)
          rw [hd.1] at HCt
          have HD2 : Hid _ := hd.2
          rw [show ((j % 3 : Nat) : Int) = (j : Int) % 3 by omega] at HCt HD2
          generalize (syncP S ((j : Int) % 3)).2 = S' at *
          clear hd hres HL HD
          go_wp2_with fail
          refine Calls.mono HCt.out ?_
          rintro e w5 ⟨rfl, hd5, hb5⟩
          have HD5 : Hid (LD w0.heap.size w5 p S' LL (RR + 65 * LL + (j + 1) * LL)) := LD.mono hd5 (by rw [Nat.add_mul]; omega)
          have HB5 : Hid _ := HB.out.trans hb5
          clear hd5 hb5 HCt
          go_wp2_with fail
          go_roundw
          case rel => exact ⟨j + 1, S', by omega, by go_num, by rw [show min (j + 1) m = m by omega], HD2, HD5, HB5⟩
          case measure => simp [intOf]; omega
    · have hj25 : j = 25 := by omega
      subst hj25
      have hdn : S.down = true := HD.out.dn (by omega)
      have h3 := HD.out.three
      have hmm : min 25 m = m := by omega
      rw [hmm]
      have HR1 : Hid (∀ wx, LD w0.heap.size wx p S LL (RR + 65 * LL + 25 * LL) → _) := fun wx h => q_read h h3 0 (by omega) (by omega) (by omega)
      have HDn : Hid (∀ wx, LD w0.heap.size wx p S LL (RR + 65 * LL + 25 * LL) → _) := fun wx h => d_down h
      rw [hdn] at HDn
      have HAp : Hid (∀ wx, Below w0.heap.size w0 wx → LD w0.heap.size wx p S LL (RR + 65 * LL + 25 * LL) → Calls Try.prog 23 #[.pointer (some ⟨p, 0, none⟩), .int .i64 0, .slice sa sl.length sc] wx fun e w' => e = .returned (.int .i64 9) ∧ LD w0.heap.size w' p S LL (RR + 65 * LL + 25 * LL) ∧ Below w0.heap.size wx w') := fun wx hb h => by
        have := d_append0 h 0 _ sl (HSv.out wx hb) HLow.out (by omega) (by omega) (by omega)
        rw [app_down hdn] at this
        refine Calls.mono this ?_
        rintro e w' ⟨q1, q2, q3⟩
        exact ⟨q1, ⟨q2.dk, q2.ok, h.sm, q2.hB⟩, q3⟩
      have HAr : Hid (∀ wx, LD w0.heap.size wx p S LL (RR + 65 * LL + 25 * LL) → Calls Try.prog 20 #[.pointer (some ⟨p, 0, none⟩), .int .i64 3] wx fun e w' => e = .returned (.int .i64 9) ∧ LD w0.heap.size w' p S LL (RR + 65 * LL + 25 * LL) ∧ Below w0.heap.size wx w') := fun wx h => by
        have := d_arm h 3 (by omega)
        rw [arm_down hdn] at this
        exact this
      obtain ⟨S3, HS3⟩ : ∃ S', Hid (crashP S [] = S') := ⟨_, rfl⟩
      have HCr : Hid (∀ wx, LD w0.heap.size wx p S LL (RR + 65 * LL + 25 * LL) → Calls Try.prog 17 #[.pointer (some ⟨p, 0, none⟩), .slice none 0 0] wx fun e w' => e = .returned (.int .i64 0) ∧ LD w0.heap.size w' p S3 LL (RR + 65 * LL + 25 * LL + 65 * LL) ∧ Below w0.heap.size wx w') := fun wx h => by
        have := d_crash h (.slice none 0 0) [] (RI.nil _) (fun _ a n c he => by cases he) (by simp) (by omega) (by omega)
        rw [HS3.out] at this
        exact this
      have h33 : S3.n = 3 := by rw [← HS3.out, crashP_n]; exact h3
      have h3d : S3.down = false := by rw [← HS3.out]; rfl
      have h3f : S3.fuse = -1 := by rw [← HS3.out]; rfl
      have HDn3 : Hid (∀ wx, LD w0.heap.size wx p S3 LL (RR + 65 * LL + 25 * LL + 65 * LL) → Calls Try.prog 18 #[.pointer (some ⟨p, 0, none⟩)] wx fun e w' => e = .returned (.bool false) ∧ LD w0.heap.size w' p S3 LL (RR + 65 * LL + 25 * LL + 65 * LL) ∧ Below wx.heap.size wx w') := fun wx h => by
        have := d_down h
        rw [h3d] at this
        exact this
      have HSy3 : Hid (∀ wx, LD w0.heap.size wx p S3 LL (RR + 65 * LL + 25 * LL + 65 * LL) → Calls Try.prog 22 #[.pointer (some ⟨p, 0, none⟩), .int .i64 0] wx fun e w' => e = .returned (.int .i64 0) ∧ LD w0.heap.size w' p (syncP S3 0).2 LL (RR + 65 * LL + 25 * LL + 65 * LL) ∧ Below w0.heap.size wx w') := fun wx h => by
        have := d_sync h 0 (by omega) (by omega)
        rw [sync_up h33 h3d h3f] at this
        exact this
      have hlen : (S.fs 0).b.length ≤ 600000 := Nat.le_trans (HL.out.sm.len _) hLb
      generalize (S.fs 0).b.length = bl at *
      have HQ1 : Hid _ := HR1.out wr HL.out
      clear hdn h3 hmm h33 h3d h3f HS3 HD hmin hj
      go_wp2_with fail
      refine Calls.mono HQ1.out ?_
      rintro e w4 ⟨⟨a4, c4, rfl⟩, hd4, hb4⟩
      have HB4 : Hid _ := HB.out.trans (hb4.mono HB.out.size)
      have HQ2 : Hid _ := HDn.out w4 hd4
      clear hd4 hb4 HQ1 HDn
      go_wp2_with fail
      refine Calls.mono HQ2.out ?_
      rintro e w5 ⟨rfl, hd5, hb5⟩
      have HB5 : Hid _ := HB4.out.trans (hb5.mono HB4.out.size)
      have HQ3 : Hid _ := HAp.out w5 HB5.out hd5
      clear hd5 hb5 HQ2 HAp
      go_wp2_with fail
      refine Calls.mono HQ3.out ?_
      rintro e w6 ⟨rfl, hd6, hb6⟩
      have HB6 : Hid _ := HB5.out.trans hb6
      have HQ4 : Hid _ := HAr.out w6 hd6
      clear hd6 hb6 HQ3 HAr
      go_wp2_with fail
      refine Calls.mono HQ4.out ?_
      rintro e w7 ⟨rfl, hd7, hb7⟩
      have HB7 : Hid _ := HB6.out.trans hb7
      have HQ5 : Hid _ := HR1.out w7 hd7
      clear hd7 hb7 HQ4 HR1
      go_wp2_with fail
      refine Calls.mono HQ5.out ?_
      rintro e w8 ⟨⟨a8, c8, rfl⟩, hd8, hb8⟩
      have HB8 : Hid _ := HB7.out.trans (hb8.mono HB7.out.size)
      have HQ6 : Hid _ := HCr.out w8 hd8
      clear hd8 hb8 HQ5 HCr
      go_wp2_with fail
      refine Calls.mono HQ6.out ?_
      rintro e w9 ⟨rfl, hd9, hb9⟩
      have HB9 : Hid _ := HB8.out.trans hb9
      have HQ7 : Hid _ := HDn3.out w9 hd9
      clear hd9 hb9 HQ6 HDn3
      go_wp2_with fail
      refine Calls.mono HQ7.out ?_
      rintro e w10 ⟨rfl, hd10, hb10⟩
      have HB10 : Hid _ := HB9.out.trans (hb10.mono HB9.out.size)
      have HQ8 : Hid _ := HSy3.out w10 hd10
      clear hd10 hb10 HQ7 HSy3
      go_wp2_with fail
      refine Calls.mono HQ8.out ?_
      rintro e w11 ⟨rfl, _, hb11⟩
      have HB11 : Hid _ := HB10.out.trans hb11
      have HLv : Hid _ := lives_any w11
      clear hb11 HQ8
      go_wp2_with fail
      refine Calls.mono HLv.out ?_
      rintro e w12 ⟨rfl, hb12⟩
      go_wp2_with fail
      go_ret
      exact ⟨rfl, HB11.out.trans (hb12.mono HB11.out.size)⟩

open Go.ChangeShapes Go.WideShapes Go.ChangeAt

theorem own : ownKnob Try.prog.godebug = none := by kernel_rfl
theorem laidOut : laidOutB Try.prog = true := by kernel_rfl

set_option maxRecDepth 100000 in
theorem lifted (os : Os) (started : os.Started) (H : Type) (enc : TypeId × Value → H) :
    ReturnsInHanded {} Try.checked os 6 .any (Rows.diskDeadSpec.pre6 enc Try.prog Try.f6 Rows.diskDeadRow.domain false) (Rows.diskDeadSpec.post enc Try.prog Try.f6 false true false false) := by
  refine returnsInHanded_of_change (C := Try.checked) own started (by kernel_rfl) Try.func6
    (ChangeSpec.witness6 (enc := enc) (C := Try.checked) false ⟨#[], #[.slice none 0 0, .int .i64 0, .slice none 0 0], []⟩ 8 (by kernel_rfl) (by kernel_rfl) (by kernel_rfl) (by kernel_rfl)) ?_
  intro W base args ds gs before hval0 hW hcnd _
  have hval : ∀ (j : Nat) t v, Try.f6.params[j]? = some t → args[j]? = some v → Value.okWide Try.prog W .any base t v := hval0
  have hW' := hW
  obtain ⟨p, q, hA0, hV, rfl, hfz, hnd⟩ := hW
  have hA : DataW.TrodAll enc Try.prog W 0 (fun _ => true) true Try.f6.params.toList args.toList ds p := hA0
  rw [Try.params6] at hA hval
  obtain ⟨v0, vs0, d0, ds0, p0, q0, hargs, rfl, rfl, h0, r0⟩ := trodAll_cons hA
  obtain ⟨v1, vs1, d1, ds1, p1, q1, rfl, rfl, rfl, h1, r1⟩ := trodAll_cons r0
  obtain ⟨v2, vs2, d2, ds2, p2, q2, rfl, rfl, rfl, h2, r2⟩ := trodAll_cons r1
  obtain ⟨rfl, rfl, rfl⟩ := trodAll_nil r2
  obtain rfl : args = #[v0, v1, v2] := by cases args; simp_all
  obtain ⟨rfl, rfl⟩ := trodVars_none hV
  obtain ⟨a1, rfl, rfl, rfl, w1⟩ := open_int Try.underlying3 (hval 1 3 v1 rfl rfl) h1
  obtain ⟨a0, len0, cap0, rfl⟩ := okWide_slice Try.underlying22 (hval 0 22 v0 rfl rfl)
  have k0 := h0
  have lt0 : ∀ x ∈ p0, x.block < W.heap.size := by obtain ⟨m, hm⟩ := k0; exact DataW.trod_lt m _ _ _ hm
  obtain ⟨z0, w0, u0⟩ : ∃ L, RAs W (.slice a0 len0 cap0) L ∧ FitN L := by
    obtain ⟨fuel, hf⟩ := h0
    exact open_acts hf
  obtain ⟨a2, len2, cap2, rfl⟩ := okWide_slice Try.underlying33 (hval 2 33 v2 rfl rfl)
  have k2 := h2
  have lt2 : ∀ x ∈ p2, x.block < W.heap.size := by obtain ⟨m, hm⟩ := k2; exact DataW.trod_lt m _ _ _ hm
  obtain ⟨z2, w2⟩ : ∃ L, RB W (.slice a2 len2 cap2) L := by
    obtain ⟨fuel, hf⟩ := h2
    obtain ⟨v, l, hv, hl⟩ := open_u8s hf
    simp [Value.cells] at hv
    subst hv
    exact ⟨l, hl⟩
  clear hA0 hval0
  refine (walk a0 len0 cap0 z0 a1 (.slice a2 len2 cap2) z2 W w0 u0 w1 w2).mono fun e W' ⟨he, bel⟩ => ?_
  subst he
  exact ⟨_, rfl, _, _, _, [], _, [], hW', trodAll_mk1 (shut_bool Try.underlying4 _), (trodAll_cons_mk (Below.trod laidOut (by kernel_rfl) (of_decide_eq_true (by kernel_rfl)) k0 bel lt0) (trodAll_cons_mk (shut_int Try.underlying3 w1) (trodAll_cons_mk (Below.trod laidOut (by kernel_rfl) (of_decide_eq_true (by kernel_rfl)) k2 bel lt2) trodAll_mk0))), rfl, bel.frame _, fun h => by cases h⟩

theorem over : Rows.diskDeadRow.holds Try.pinned (OpenSpec.ofChange Rows.diskDeadSpec) :=
  OpenClaim.holds_of_wide 6 Try.f6 rfl rfl rfl rfl rfl rfl rfl ⟨rfl, rfl, rfl, rfl, rfl⟩ rfl rfl rfl rfl rfl (by kernel_rfl) Try.func6 (by kernel_rfl)
    (of_decide_eq_true (by kernel_rfl)) (by unfold Func.isWrapper; first | (rw [if_pos (by decide +kernel)]; kernel_rfl) | (rw [if_neg (by decide +kernel)]; exact ⟨rfl, rfl⟩))
    (fun os started H enc _ => lifted os started H enc)
end Go.Proofs.Ytbbmbjlpccdclaa.diskDead
namespace Go.Proofs.Ytbbmbjlpccdclaa

theorem diskDead_holds : Rows.DiskDeadSaid := diskDead.over
#print axioms diskDead_holds
end Go.Proofs.Ytbbmbjlpccdclaa
