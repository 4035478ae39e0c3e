/- Texts of the seat, packed: SYb. -/
import Derived.Test.YtephkdocfhajiaaDoorP44
import Derived.Deep.CutRange
/- The law's own look at a saga: has it few parts, and short texts? -/
namespace Go.Proofs.YtephkdocfhajiaaDoor.Sx

open Go.RowKit

/-- How many parts. -/
def Tr.pc : Tr → Nat
  | .e => 0
  | .b x r => 1 + x.pc + r.pc
  | .n l t r => 1 + l.after.length + t.pc + r.pc

/-- All texts are short. -/
def Tr.short : Tr → Prop
  | .e => True
  | .b x r => x.short ∧ r.short
  | .n l t r => (l.name.length ≤ 200 ∧ l.undo.length ≤ 200 ∧ ∀ y ∈ l.after, y.length ≤ 200) ∧ t.short ∧ r.short

def FewOK (t : Tr) : Prop := ∀ (P : Nat → Prop) (w : World) (a : Option Addr) (ca : Nat) (left : Int), TAt P w true t a 0 t.len → t.len ≤ maxLen → t.bnd → 0 < left → left ≤ 2000 →
  Calls Tryd.prog 27 #[.slice a t.len ca, .int .i64 left] w fun e w' => ∃ r : Int, e = .returned (.int .i64 r) ∧ Below w.heap.size w w' ∧ -9223372036854775808 ≤ r ∧ r ≤ 2000 ∧ (r ≤ 0 ∨ (r + t.pc = left ∧ t.short))

theorem mx_lim : maxLen = 9223372036854775807 := by simp [maxLen]

set_option maxRecDepth 1000000 in
set_option maxHeartbeats 4000000 in
theorem few_step (t : Tr) (IH : ∀ tn, tn.sz < t.sz → FewOK tn) : FewOK t := by
  intro P w a ca left ha hTm hbn hl0 hl1
  obtain ⟨T, HT⟩ : ∃ T, Hid (t.len = T) := ⟨_, rfl⟩
  rw [HT.out] at ha hTm ⊢
  rw [mx_lim] at hTm
  have HIH : Hid (∀ tn, tn.sz < t.sz → FewOK tn) := IH
  obtain ⟨D, HD⟩ : ∃ D, Hid (t.pc = D) := ⟨_, rfl⟩
  obtain ⟨S, HSt⟩ : ∃ S, Hid (t.short = S) := ⟨_, rfl⟩
  rw [HD.out, HSt.out]
  have HA0 : Hid (TAt P w true t a 0 T) := ha
  have HF0 : Hid (t.sz ≤ t.sz ∧ t.bnd) := ⟨Nat.le_refl _, hbn⟩
  have HL0 : Hid (Below w.heap.size w w) := Below.refl _ _
  have HM0 : Hid (left ≤ 0 ∨ (left + D = left + t.pc ∧ (t.short → S))) := .inr ⟨by rw [HD.out], by rw [HSt.out]; exact id⟩
  clear ha IH hbn
  go_enter Tryd.func27, Tryd.ntmps27
  go_wp2_with fail
  go_loopw [1, 5, 6, 7, 8] (fun lv iv _ _ _ wr => ∃ (i : Nat) (l : Int) (rest : Tr), i ≤ T ∧ -9223372036854775808 ≤ l ∧ l ≤ 2000 ∧ iv = .int .i64 i ∧ lv = .int .i64 l ∧ Hid (TAt P w true rest a i T) ∧ Hid (rest.sz ≤ t.sz ∧ rest.bnd) ∧ Hid (l ≤ 0 ∨ (l + D = left + rest.pc ∧ (rest.short → S))) ∧ Hid (Below w.heap.size w wr)) (fun _ iv _ _ _ _ => T - (intOf iv).toNat)
  case atStart => exact ⟨0, left, t, Nat.zero_le _, by omega, hl1, rfl, rfl, HA0, HF0, HM0, HL0⟩
  case round =>
    obtain ⟨i, l0, rest, hi, hlo, hhi, rfl, rfl, HA, HF, HM, HL⟩ := hrel
    rename World => w1
    clear HA0 HF0 HL0 HM0
    cases rest with
    | n _ _ _ => have := HA.out.1; simp at this
    | e =>
      have hie : i = T := HA.out
      subst hie
      have HE : Hid (l0 ≤ 0 ∨ (l0 + D = left ∧ S)) := by
        rcases HM.out with h | ⟨h1, h2⟩
        · exact .inl h
        · exact .inr ⟨by simpa [Tr.pc] using h1, h2 trivial⟩
      go_wp2_with fail
      go_ret
      exact ⟨l0, rfl, HL.out, hlo, hhi, HE.out⟩
    | b x r =>
      obtain ⟨_, hlt, ⟨b1, o1, v1, m1, c1, rfl, hp1, hc1, hx1⟩, hr1⟩ := HA.out
      obtain rfl : m1 = x.len := by have := hx1.len; omega
      have hf := HF.out
      simp only [Tr.sz, Tr.bnd] at hf
      obtain ⟨hf1, hxm, hxb, hrb⟩ := hf
      rw [mx_lim] at hxm
      have hss : x.sz < t.sz ∧ r.sz ≤ t.sz ∧ x.bnd ∧ r.bnd := ⟨by omega, by omega, hxb, hrb⟩
      obtain ⟨M, HMx⟩ : ∃ M, Hid (x.len = M) := ⟨_, rfl⟩
      rw [HMx.out] at hc1 hx1 hxm
      have hli : (i : Int) < (T : Int) := by omega
      have HX1 : Hid (TAt P w false x v1 0 M) := hx1
      have HR1 : Hid (TAt P w true r (some ⟨b1, o1, none⟩) (i + 1) T) := hr1
      have HS : Hid (x.sz < t.sz ∧ r.sz ≤ t.sz ∧ x.bnd ∧ r.bnd) := hss
      have HC1 : Hid (w.cell? ⟨b1, o1 + i, none⟩ = some (.slice v1 M c1)) := hc1
      clear hx1 hr1 hss HA HF hc1 hf1 hxb hrb
      by_cases hl : l0 ≤ 0
      · have hln : ¬ (0 : Int) < l0 := by omega
        go_wp2_with fail
        go_ret
        exact ⟨l0, rfl, HL.out, hlo, hhi, .inl hl⟩
      · have hlp : (0 : Int) < l0 := by omega
        have HM2 : Hid (l0 - 1 ≤ 0 ∨ (l0 - 1 + D = left + (x.pc + r.pc : Nat) ∧ (x.short → r.short → S))) := by
          rcases HM.out with h | ⟨h1, h2⟩
          · exact absurd h hl
          · refine .inr ⟨?_, fun h3 h4 => h2 ⟨h3, h4⟩⟩
            simp only [Tr.pc] at h1
            omega
        clear HM
        go_wp2_with fail
        go_loopw [1, 6, 7, 8] (fun lv kv _ _ wr => ∃ (k : Nat) (l : Int) (rest : Tr), k ≤ M ∧ -9223372036854775808 ≤ l ∧ l ≤ 2000 ∧ kv = .int .i64 k ∧ lv = .int .i64 l ∧ Hid (TAt P w false rest v1 k M) ∧ Hid (rest.sz ≤ x.sz ∧ rest.bnd) ∧ Hid (l ≤ 0 ∨ (l + D = left + (rest.pc + r.pc : Nat) ∧ (rest.short → r.short → S))) ∧ Hid (Below w.heap.size w wr)) (fun _ kv _ _ _ => M - (intOf kv).toNat)
        case atStart => exact ⟨0, l0 - 1, x, Nat.zero_le _, by omega, by omega, rfl, rfl, HX1, ⟨Nat.le_refl _, HS.out.2.2.1⟩, HM2, HL⟩
        case round =>
          clear HM2 HX1 HL hlo hhi hl hlp
          obtain ⟨k, l1, rest, hk, hlo, hhi, rfl, rfl, HA, HF, HM, HL⟩ := hrel
          rename World => w3
          have d1 := cell_later HL.out HC1.out
          cases rest with
          | b _ _ => have := HA.out.1; simp at this
          | e =>
            have hke : k = M := HA.out
            subst hke
            have HMr : Hid (l1 ≤ 0 ∨ (l1 + D = left + (r.pc : Nat) ∧ (r.short → S))) := by
              rcases HM.out with h | ⟨h1, h2⟩
              · exact .inl h
              · exact .inr ⟨by simpa [Tr.pc] using h1, h2 trivial⟩
            go_wp2_with fail
            go_roundw
            case rel => exact ⟨i + 1, l1, r, by omega, hlo, hhi, by go_num, rfl, HR1, ⟨HS.out.2.1, HS.out.2.2.2⟩, HMr, HL⟩
            case measure => simp [intOf]; omega
          | n lb tn r2 =>
            obtain ⟨_, hlt2, ⟨b3, o3, sv3, sm3, sc3, av3, am3, ac3, rfl, hp3, e30, e31, e32, e33, e34, e35, hs3, ht3⟩, hr3⟩ := HA.out
            obtain rfl : am3 = tn.len := by have := ht3.len; omega
            obtain rfl : sm3 = lb.after.length := hs3.1
            have hf := HF.out
            simp only [Tr.sz, Tr.bnd, mx_lim] at hf
            obtain ⟨hf1, q1, q2, q3, q4, q5, q6, q7⟩ := hf
            have hkl : (k : Int) < (M : Int) := by omega
            by_cases hl : l1 ≤ 0
            · have hln : ¬ (0 : Int) < l1 := by omega
              have HMr : Hid (l1 ≤ 0 ∨ (l1 + D = left + (r.pc : Nat) ∧ (r.short → S))) := .inl hl
              clear hr3 hs3 ht3 HA HF HM e30 e31 e32 e33 e34 e35
              go_wp2_with fail
              go_roundw
              case rel => exact ⟨i + 1, l1, r, by omega, hlo, hhi, by go_num, rfl, HR1, ⟨HS.out.2.1, HS.out.2.2.2⟩, HMr, HL⟩
              case measure => simp [intOf]; omega
            · have hlp : (0 : Int) < l1 := by omega
              have hSx := HS.out.1
              have HI : Hid (FewOK tn) := HIH.out tn (by omega)
              have HRa : Hid (TAt P w false r2 (some ⟨b3, o3, none⟩) (k + 1) M) := hr3
              have HTa : Hid (TAt P w true tn av3 0 tn.len) := ht3
              have HSa : Hid (SAt P w lb.after sv3 lb.after.length) := hs3
              have HFr : Hid (r2.sz ≤ x.sz ∧ r2.bnd) := ⟨by omega, q7⟩
              have HTb : Hid (tn.bnd ∧ tn.len ≤ maxLen) := ⟨q6, by rw [mx_lim]; exact q5⟩
              have g30 := cell_later HL.out e30
              have g31 := cell_later HL.out e31
              have g32 := cell_later HL.out e32
              have g33 := cell_later HL.out e33
              have g34 := cell_later HL.out e34
              have g35 := cell_later HL.out e35
              have bW : Below w3.heap.size w3 (w3.alloc (.cells #[.string ⟨lb.name.toArray⟩, .string ⟨lb.undo.toArray⟩, .slice sv3 lb.after.length sc3, .bool lb.sub, .bool lb.vital, .slice av3 tn.len ac3] 68)) := (Below.refl _ w3).alloc (Nat.le_refl _) _
              have HBW : Hid (Below w.heap.size w (w3.alloc (.cells #[.string ⟨lb.name.toArray⟩, .string ⟨lb.undo.toArray⟩, .slice sv3 lb.after.length sc3, .bool lb.sub, .bool lb.vital, .slice av3 tn.len ac3] 68))) := HL.out.trans (bW.mono HL.out.size)
              have HNb : Hid _ := row_new w3 #[.string ⟨lb.name.toArray⟩, .string ⟨lb.undo.toArray⟩, .slice sv3 lb.after.length sc3, .bool lb.sub, .bool lb.vital, .slice av3 tn.len ac3] 68
              have hsz1 : (⟨lb.name.toArray⟩ : ByteArray).size = lb.name.length := by show lb.name.toArray.size = _; simp
              have hsz2 : (⟨lb.undo.toArray⟩ : ByteArray).size = lb.undo.length := by show lb.undo.toArray.size = _; simp
              have HM3 : Hid (l1 + D = left + ((1 + lb.after.length + tn.pc + r2.pc) + r.pc : Nat) ∧ (((lb.name.length ≤ 200 ∧ lb.undo.length ≤ 200 ∧ ∀ y ∈ lb.after, y.length ≤ 200) ∧ tn.short ∧ r2.short) → r.short → S)) := by
                rcases HM.out with h | h
                · exact absurd h hl
                · exact h
              clear hr3 hs3 ht3 HA HF HM e30 e31 e32 e33 e34 e35 bW HL hf1 q4 q6 q7
              by_cases hn1 : 200 < lb.name.length
              · have hn1i : (200 : Int) < ((⟨lb.name.toArray⟩ : ByteArray).size : Int) := by rw [hsz1]; omega
                go_wp2_with fail
                go_ret
                exact ⟨0, rfl, HBW.out, by omega, by omega, .inl (by omega)⟩
              · have hn1i : ¬ (200 : Int) < ((⟨lb.name.toArray⟩ : ByteArray).size : Int) := by rw [hsz1]; omega
                have hn1d : decide ((200 : Int) < ((⟨lb.name.toArray⟩ : ByteArray).size : Int)) = false := by simpa using hn1i
                by_cases hn2 : 200 < lb.undo.length
                · have hn2i : (200 : Int) < ((⟨lb.undo.toArray⟩ : ByteArray).size : Int) := by rw [hsz2]; omega
                  go_wp2_with fail
                  go_ret
                  exact ⟨0, rfl, HBW.out, by omega, by omega, .inl (by omega)⟩
                · have hn2i : ¬ (200 : Int) < ((⟨lb.undo.toArray⟩ : ByteArray).size : Int) := by rw [hsz2]; omega
                  have hn2d : decide ((200 : Int) < ((⟨lb.undo.toArray⟩ : ByteArray).size : Int)) = false := by simpa using hn2i
                  obtain ⟨Lf, hLf⟩ : ∃ Lf : Int, Lf = l1 - 1 - (lb.after.length : Int) := ⟨_, rfl⟩
                  have HLf : Hid (Lf = l1 - 1 - (lb.after.length : Int)) := hLf
                  have hLfb : -9223372036854775808 ≤ Lf ∧ Lf ≤ 2000 := by omega
                  go_upto_region 12 with fail
                  rw [← hLf]
                  clear hLf g30 g31 g32 g33 g34 g35 d1
                  generalize w3.alloc (.cells #[.string ⟨lb.name.toArray⟩, .string ⟨lb.undo.toArray⟩, .slice sv3 lb.after.length sc3, .bool lb.sub, .bool lb.vital, .slice av3 tn.len ac3] 68) = w4 at *
                  have n2 := (cell_row HNb.out 2).trans rfl
                  have n5 := (cell_row HNb.out 5).trans rfl
                  go_wp2_with fail
                  go_loopw [8] (fun jv wr => ∃ (j : Nat), j ≤ lb.after.length ∧ jv = .int .i64 j ∧ wr = w4 ∧ Hid (∀ y ∈ lb.after.take j, y.length ≤ 200)) (fun jv _ => lb.after.length - (intOf jv).toNat)
                  case atStart => exact ⟨0, Nat.zero_le _, rfl, rfl, by show ∀ y ∈ lb.after.take 0, _; simp⟩
                  case round =>
                    obtain ⟨j, hj, rfl, rfl, HJ⟩ := hrel
                    by_cases hLp : Lf ≤ 0
                    · have hLn : ¬ (0 : Int) < Lf := by omega
                      have hLd : decide ((0 : Int) < Lf) = false := by simpa using hLn
                      by_cases hjl : j < lb.after.length
                      · have hji : (j : Int) < (lb.after.length : Int) := by omega
                        go_wp2_with fail
                        go_roundw
                        case rel => exact ⟨k + 1, Lf, r2, by omega, hLfb.1, hLfb.2, by go_num, rfl, HRa, HFr, .inl hLp, HBW⟩
                        case measure => simp [intOf]; omega
                      · have hji : ¬ (j : Int) < (lb.after.length : Int) := by omega
                        have hjd : decide ((j : Int) < (lb.after.length : Int)) = false := by simpa using hji
                        go_wp2_with fail
                        go_roundw
                        case rel => exact ⟨k + 1, Lf, r2, by omega, hLfb.1, hLfb.2, by go_num, rfl, HRa, HFr, .inl hLp, HBW⟩
                        case measure => simp [intOf]; omega
                    · have hLq : (0 : Int) < Lf := by omega
                      by_cases hjl : j < lb.after.length
                      · have hji : (j : Int) < (lb.after.length : Int) := by omega
                        obtain ⟨y, hy⟩ : ∃ y, lb.after[j]? = some y := ⟨_, List.getElem?_eq_getElem hjl⟩
                        obtain ⟨b5, o5, rfl, _, c5⟩ := HSa.out.2 j y hy
                        have c5' := cell_later HBW.out c5
                        have hsz5 : (⟨y.toArray⟩ : ByteArray).size = y.length := by show y.toArray.size = _; simp
                        by_cases hy2 : 200 < y.length
                        · have hyi : (200 : Int) < ((⟨y.toArray⟩ : ByteArray).size : Int) := by rw [hsz5]; omega
                          clear hy
                          go_wp2_with fail
                          go_ret
                          exact ⟨0, rfl, HBW.out, by omega, by omega, .inl (by omega)⟩
                        · have hyi : ¬ (200 : Int) < ((⟨y.toArray⟩ : ByteArray).size : Int) := by rw [hsz5]; omega
                          have hyd : decide ((200 : Int) < ((⟨y.toArray⟩ : ByteArray).size : Int)) = false := by simpa using hyi
                          have HJ2 : Hid (∀ z ∈ lb.after.take (j + 1), z.length ≤ 200) := by
                            show ∀ z ∈ lb.after.take (j + 1), _
                            intro z hz
                            rw [List.take_add_one, hy] at hz
                            simp at hz
                            rcases hz with hz | rfl
                            · exact HJ.out z hz
                            · omega
                          clear hy HJ
                          go_wp2_with fail
                          go_roundw
                          case rel => exact ⟨j + 1, by omega, by go_num, trivial, HJ2⟩
                          case measure => simp [intOf]; omega
                      · have hji : ¬ (j : Int) < (lb.after.length : Int) := by omega
                        have hjd : decide ((j : Int) < (lb.after.length : Int)) = false := by simpa using hji
                        have hall : ∀ y ∈ lb.after, y.length ≤ 200 := by
                          intro y hy
                          refine HJ.out y ?_
                          rw [List.take_of_length_le (by omega)]
                          exact hy
                        have HALL : Hid _ := hall
                        have M6 : Hid _ := HI.out P wr av3 ac3 Lf (HTa.out.below HBW.out) HTb.out.2 HTb.out.1 hLq hLfb.2
                        clear hall HJ
                        go_wp2_with fail
                        refine Calls.mono M6.out ?_
                        rintro e w6 ⟨r', rfl, hb6, hr1, hr2, hr3⟩
                        have HL6 : Hid (Below w.heap.size w w6) := HBW.out.trans (hb6.mono HBW.out.size)
                        have HM6 : Hid (r' ≤ 0 ∨ (r' + D = left + (r2.pc + r.pc : Nat) ∧ (r2.short → r.short → S))) := by
                          rcases hr3 with h | ⟨h1, h2⟩
                          · exact .inl h
                          · obtain ⟨h3, h4⟩ := HM3.out
                            have h5 := HLf.out
                            exact .inr ⟨by omega, fun h6 h7 => h4 ⟨⟨by omega, by omega, HALL.out⟩, h2, h6⟩ h7⟩
                        clear hb6 M6 HBW hr3
                        go_wp2_with fail
                        go_roundw
                        case rel => exact ⟨k + 1, r', r2, by omega, hr1, hr2, by go_num, rfl, HRa, HFr, HM6, HL6⟩
                        case measure => simp [intOf]; omega

theorem few_all : ∀ (n : Nat) (t : Tr), t.sz ≤ n → FewOK t := by
  intro n
  induction n with
  | zero => intro t ht; exact few_step t (fun tn h => by omega)
  | succ n ih => intro t ht; exact few_step t (fun tn h => ih tn (by omega))

/-- How 'few' ends. -/
def FewC (x : By) (t : Tr) (w : World) (e : Ending) (w' : World) : Prop := ∃ q, e = .returned (.bool q) ∧ Below w.heap.size w w' ∧ (q = true → x.length ≤ 200 ∧ t.pc ≤ 1000 ∧ t.short)

set_option maxRecDepth 1000000 in
/-- What 'few' tells. -/
theorem few_any (x : By) (t : Tr) (P : Nat → Prop) (w : World) (a : Option Addr) (ca : Nat) (ha : TAt P w true t a 0 t.len) (hm : t.len ≤ maxLen) (hb : t.bnd) (hx : x.length ≤ maxLen) :
    Calls Tryd.prog 7 #[.agg #[.string ⟨x.toArray⟩, .slice a t.len ca]] w fun e w' => FewC x t w e w' := by
  rw [mx_lim] at hx
  have bW : Below w.heap.size w (w.alloc (.cells #[.string ⟨x.toArray⟩, .slice a t.len ca] 24)) := (Below.refl _ w).alloc (Nat.le_refl _) _
  have M1 : Hid _ := few_all t.sz t (Nat.le_refl _) P _ a ca 1000 (ha.below bW) hm hb (by omega) (by omega)
  have HBW : Hid _ := bW
  have hsz : (⟨x.toArray⟩ : ByteArray).size = x.length := by show x.toArray.size = _; simp
  clear ha bW hb
  by_cases h2 : x.length ≤ 200
  · have h2i : ((⟨x.toArray⟩ : ByteArray).size : Int) ≤ 200 := by rw [hsz]; omega
    go_enter Tryd.func7, Tryd.ntmps7
    go_wp2_with fail
    refine Calls.mono M1.out ?_
    rintro e w5 ⟨r, rfl, hb5, h3, h4, h5⟩
    have HQ : Hid (decide ((0 : Int) < r) = true → x.length ≤ 200 ∧ t.pc ≤ 1000 ∧ t.short) := by
      show _ → _
      intro h
      have h6 : (0 : Int) < r := by simpa using h
      rcases h5 with h7 | ⟨h7, h8⟩
      · omega
      · exact ⟨h2, by omega, h8⟩
    clear h5
    go_wp2_with fail
    go_ret
    exact ⟨_, rfl, HBW.out.trans (hb5.mono HBW.out.size), HQ.out⟩
  · have h2i : ¬ ((⟨x.toArray⟩ : ByteArray).size : Int) ≤ 200 := by rw [hsz]; omega
    have h2d : decide (((⟨x.toArray⟩ : ByteArray).size : Int) ≤ 200) = false := by simpa using h2i
    go_enter Tryd.func7, Tryd.ntmps7
    go_wp2_with fail
    go_ret
    exact ⟨false, rfl, HBW.out, fun h => by cases h⟩

end Go.Proofs.YtephkdocfhajiaaDoor.Sx

