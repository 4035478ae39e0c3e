/- Texts of the seat, packed: Ue Ub Uc. -/
import Derived.Test.YtlmfmgpamhhncaaPG
import Derived.Test.YtlmfmgpamhhncaaPC
/- The document's Depth and Count. -/
namespace Go.Proofs.Ytlmfmgpamhhncaa
open Go.RowKit

theorem dep_le_sz (t : Tr) : t.dep ≤ t.sz := by
  induction t with
  | e => exact Nat.le_refl _
  | b x r ih1 ih2 => simp only [Tr.dep, Tr.sz]; omega
  | n l x r ih1 ih2 =>
    simp only [Tr.dep, Tr.sz]
    split <;> omega

theorem cnt_le_sz (t : Tr) : t.cnt ≤ t.sz := by
  induction t with
  | e => exact Nat.le_refl _
  | b x r ih1 ih2 => simp only [Tr.cnt, Tr.sz]; omega
  | n l x r ih1 ih2 => simp only [Tr.cnt, Tr.sz]; omega

theorem mx_val (d n : Nat) : Value.int .i64 (if (d : Int) < (n : Int) + 1 then (n : Int) + 1 else (d : Int)) = Value.int .i64 ((max d (n + 1) : Nat) : Int) := by
  by_cases h : d < n + 1
  · rw [if_pos (by omega), Nat.max_eq_right (by omega)]; push_cast; rfl
  · rw [if_neg (by omega), Nat.max_eq_left (by omega)]

def DepOK (t : Tr) : Prop := ∀ (P : Nat → Prop) (w : World) (a : Option Addr) (ca : Nat), TAt P w true t a 0 t.len → t.sz ≤ 1000000000 →
  Calls Try.prog 41 #[.slice a t.len ca] w fun e w' => e = .returned (.int .i64 ((t.dep + 1 : Nat) : Int)) ∧ Below w.heap.size w w'

def CntOK (t : Tr) : Prop := ∀ (P : Nat → Prop) (w : World) (a : Option Addr) (ca : Nat), TAt P w true t a 0 t.len → t.sz ≤ 1000000000 →
  Calls Try.prog 42 #[.slice a t.len ca] w fun e w' => e = .returned (.int .i64 (t.cnt : Int)) ∧ Below w.heap.size w w'

set_option maxRecDepth 1000000 in
set_option maxHeartbeats 4000000 in
theorem dep_step (t : Tr) (IH : ∀ tn, tn.sz < t.sz → DepOK tn) : DepOK t := by
  intro P w a ca ha hsz
  have hlen := t.len_sz
  have hdep := dep_le_sz t
  obtain ⟨T, HT⟩ : ∃ T, Hid (t.len = T) := ⟨_, rfl⟩
  rw [HT.out] at ha ⊢
  have hT : T ≤ 1000000000 := by have := HT.out; omega
  have HIH : Hid (∀ tn, tn.sz < t.sz → DepOK tn) := IH
  obtain ⟨D, HD⟩ : ∃ D, Hid (t.dep = D) := ⟨_, rfl⟩
  rw [HD.out]
  have hDb : D ≤ 1000000000 := by have := HD.out; omega
  have HA0 : Hid (TAt P w true t a 0 T) := ha
  have HF0 : Hid (t.sz ≤ t.sz) := Nat.le_refl _
  have HL0 : Hid (Below w.heap.size w w) := Below.refl _ _
  have HM0 : Hid (max 0 t.dep = D) := by show max 0 t.dep = D; rw [HD.out]; omega
  clear ha hlen hdep IH
  go_enter Try.func41, Try.ntmps41
  go_wp2_with fail
  go_loopw [3, 4, 5, 6] (fun mv iv _ _ wr => ∃ (i d : Nat) (rest : Tr), i ≤ T ∧ d ≤ D ∧ iv = .int .i64 i ∧ mv = .int .i64 (d : Int) ∧ Hid (TAt P w true rest a i T) ∧ Hid (rest.sz ≤ t.sz) ∧ Hid (max d rest.dep = D) ∧ Hid (Below w.heap.size w wr)) (fun _ iv _ _ _ => T - (intOf iv).toNat)
  case atStart => exact ⟨0, 0, t, Nat.zero_le _, Nat.zero_le _, rfl, rfl, HA0, HF0, HM0, HL0⟩
  case round =>
    obtain ⟨i, d, rest, hi, hd, rfl, rfl, HA, HF, HM, HL⟩ := hrel
    rename World => w1
    clear HA0 HF0 HL0 HM0
    cases rest with
    | n _ _ _ => have := HA.out.1; simp at this
    | e =>
      have hie : i = T := HA.out
      subst hie
      have hdD : d = D := by have := HM.out; simp only [Tr.dep] at this; omega
      subst hdD
      go_wp2_with fail
      go_ret
      exact ⟨by push_cast; rfl, HL.out⟩
    | b x r =>
      obtain ⟨_, hlt, ⟨b1, o1, v1, m1, c1, rfl, hp1, hc1, hx1⟩, hr1⟩ := HA.out
      obtain rfl : m1 = x.len := by have := hx1.len; omega
      have hxl := x.len_sz
      have hss : x.sz < t.sz ∧ r.sz ≤ t.sz := by have := HF.out; simp only [Tr.sz] at this; omega
      obtain ⟨M, HMx⟩ : ∃ M, Hid (x.len = M) := ⟨_, rfl⟩
      rw [HMx.out] at hc1 hx1 hxl
      have hli : (i : Int) < (T : Int) := by omega
      have HX1 : Hid (TAt P w false x v1 0 M) := hx1
      have HR1 : Hid (TAt P w true r (some ⟨b1, o1, none⟩) (i + 1) T) := hr1
      have HS : Hid (x.sz < t.sz ∧ r.sz ≤ t.sz) := hss
      have hM : M ≤ 1000000000 := by omega
      have HC1 : Hid (w.cell? ⟨b1, o1 + i, none⟩ = some (.slice v1 M c1)) := hc1
      have HM2 : Hid (max d (max x.dep r.dep) = D) := HM.out
      clear hx1 hr1 hss hxl HA HF hc1 HM
      go_wp2_with fail
      go_loopw [3, 5, 6] (fun mv kv _ wr => ∃ (k d : Nat) (rest : Tr), k ≤ M ∧ d ≤ D ∧ kv = .int .i64 k ∧ mv = .int .i64 (d : Int) ∧ Hid (TAt P w false rest v1 k M) ∧ Hid (rest.sz ≤ x.sz) ∧ Hid (max d (max rest.dep r.dep) = D) ∧ Hid (Below w.heap.size w wr)) (fun _ kv _ _ => M - (intOf kv).toNat)
      case atStart => exact ⟨0, d, x, Nat.zero_le _, hd, rfl, rfl, HX1, Nat.le_refl _, HM2, HL⟩
      case round =>
        clear hd HM2 HX1 HL
        obtain ⟨k, d, rest, hk, hd, rfl, rfl, HA, HF, HM, HL⟩ := hrel
        rename World => w3
        have d1 := cell_later HL.out HC1.out
        cases rest with
        | b _ _ => have := HA.out.1; simp at this
        | e =>
          have hke : k = M := HA.out
          subst hke
          have HMr : Hid (max d r.dep = D) := by have := HM.out; simp only [Tr.dep] at this; show max d r.dep = D; omega
          go_wp2_with fail
          go_roundw
          case rel => exact ⟨i + 1, d, r, by omega, hd, by go_num, rfl, HR1, HS.out.2, HMr, HL⟩
          case measure => simp [intOf]; omega
        | n l tn r2 =>
          obtain ⟨_, hlt2, ⟨b3, o3, sv3, sm3, sc3, av3, am3, ac3, rfl, hp3, e30, e31, e32, e33, e34, e35, hs3, ht3⟩, hr3⟩ := HA.out
          obtain rfl : am3 = tn.len := by have := ht3.len; omega
          have hf := HF.out
          simp only [Tr.sz] at hf
          have hSx := HS.out.1
          have HI : Hid (DepOK tn) := HIH.out tn (by omega)
          have HRa : Hid (TAt P w false r2 (some ⟨b3, o3, none⟩) (k + 1) M) := hr3
          have HTa : Hid (TAt P w true tn av3 0 tn.len) := ht3
          have HFr : Hid (r2.sz ≤ x.sz) := by show r2.sz ≤ x.sz; omega
          have htn : tn.sz ≤ 1000000000 := by omega
          have htd := dep_le_sz tn
          have g30 := cell_later HL.out e30
          have g31 := cell_later HL.out e31
          have g32 := cell_later HL.out e32
          have g33 := cell_later HL.out e33
          have g34 := cell_later HL.out e34
          have g35 := cell_later HL.out e35
          have hkl : (k : Int) < (M : Int) := by omega
          have bW : Below w3.heap.size w3 (w3.alloc (.cells #[.string ⟨l.name.toArray⟩, .string ⟨l.undo.toArray⟩, .slice sv3 sm3 sc3, .bool l.sub, .bool l.vital, .slice av3 tn.len ac3] 80)) := (Below.refl _ w3).alloc (Nat.le_refl _) _
          have HBW : Hid (Below w.heap.size w (w3.alloc (.cells #[.string ⟨l.name.toArray⟩, .string ⟨l.undo.toArray⟩, .slice sv3 sm3 sc3, .bool l.sub, .bool l.vital, .slice av3 tn.len ac3] 80))) := HL.out.trans (bW.mono HL.out.size)
          have M2 : Hid _ := HI.out P _ av3 ac3 (HTa.out.below HBW.out) htn
          cases hsub : l.sub with
          | false =>
            have HMr : Hid (max d (max r2.dep r.dep) = D) := by have := HM.out; simp only [Tr.dep, hsub, Bool.false_eq_true, if_false] at this; show max d _ = D; omega
            rw [hsub] at g33 HBW
            clear hr3 hs3 ht3 HA HF HI e30 e31 e32 e33 e34 e35 bW M2 HL HM hf htd
            go_wp2_with fail
            go_roundw
            case rel => exact ⟨k + 1, d, r2, by omega, hd, by go_num, rfl, HRa, HFr, HMr, HBW⟩
            case measure => simp [intOf]; omega
          | true =>
            have hMr : max (max d (tn.dep + 1)) (max r2.dep r.dep) = D := by have := HM.out; simp only [Tr.dep, hsub, if_true] at this; omega
            have HMr : Hid (max (max d (tn.dep + 1)) (max r2.dep r.dep) = D) := hMr
            have hd2 : max d (tn.dep + 1) ≤ D := by omega
            rw [hsub] at g33 HBW M2
            clear hr3 hs3 ht3 HA HF HI e30 e31 e32 e33 e34 e35 bW HL HM hf hMr
            go_wp2_with fail
            refine Calls.mono M2.out ?_
            rintro e w6 ⟨rfl, hb6⟩
            have HL6 : Hid (Below w.heap.size w w6) := HBW.out.trans (hb6.mono HBW.out.size)
            clear hb6 M2 HBW g30 g31 g32 g33 g34 g35 d1
            go_wp2_with fail
            go_roundw
            case rel => exact ⟨k + 1, max d (tn.dep + 1), r2, by omega, hd2, by go_num, mx_val d tn.dep, HRa, HFr, HMr, HL6⟩
            case measure => simp [intOf]; omega

theorem dep_all : ∀ (n : Nat) (t : Tr), t.sz ≤ n → DepOK t := by
  intro n
  induction n with
  | zero => intro t ht; exact dep_step t (fun tn h => by omega)
  | succ n ih => intro t ht; exact dep_step t (fun tn h => ih tn (by omega))

set_option maxRecDepth 1000000 in
set_option maxHeartbeats 4000000 in
theorem cnt_step (t : Tr) (IH : ∀ tn, tn.sz < t.sz → CntOK tn) : CntOK t := by
  intro P w a ca ha hsz
  have hlen := t.len_sz
  have hdep := cnt_le_sz t
  obtain ⟨T, HT⟩ : ∃ T, Hid (t.len = T) := ⟨_, rfl⟩
  rw [HT.out] at ha ⊢
  have hT : T ≤ 1000000000 := by have := HT.out; omega
  have HIH : Hid (∀ tn, tn.sz < t.sz → CntOK tn) := IH
  obtain ⟨D, HD⟩ : ∃ D, Hid (t.cnt = D) := ⟨_, rfl⟩
  rw [HD.out]
  have hDb : D ≤ 1000000000 := by have := HD.out; omega
  have HA0 : Hid (TAt P w true t a 0 T) := ha
  have HF0 : Hid (t.sz ≤ t.sz) := Nat.le_refl _
  have HL0 : Hid (Below w.heap.size w w) := Below.refl _ _
  have HM0 : Hid (0 + t.cnt = D) := by show 0 + t.cnt = D; rw [HD.out]; omega
  clear ha hlen hdep IH
  go_enter Try.func42, Try.ntmps42
  go_wp2_with fail
  go_loopw [3, 4, 5] (fun mv iv _ wr => ∃ (i d : Nat) (rest : Tr), i ≤ T ∧ d ≤ D ∧ iv = .int .i64 i ∧ mv = .int .i64 (d : Int) ∧ Hid (TAt P w true rest a i T) ∧ Hid (rest.sz ≤ t.sz) ∧ Hid (d + rest.cnt = D) ∧ Hid (Below w.heap.size w wr)) (fun _ iv _ _ => T - (intOf iv).toNat)
  case atStart => exact ⟨0, 0, t, Nat.zero_le _, Nat.zero_le _, rfl, rfl, HA0, HF0, HM0, HL0⟩
  case round =>
    obtain ⟨i, d, rest, hi, hd, rfl, rfl, HA, HF, HM, HL⟩ := hrel
    rename World => w1
    clear HA0 HF0 HL0 HM0
    cases rest with
    | n _ _ _ => have := HA.out.1; simp at this
    | e =>
      have hie : i = T := HA.out
      subst hie
      have hdD : d = D := by have := HM.out; simp only [Tr.cnt] at this; omega
      subst hdD
      go_wp2_with fail
      go_ret
      exact ⟨rfl, HL.out⟩
    | b x r =>
      obtain ⟨_, hlt, ⟨b1, o1, v1, m1, c1, rfl, hp1, hc1, hx1⟩, hr1⟩ := HA.out
      obtain rfl : m1 = x.len := by have := hx1.len; omega
      have hxl := x.len_sz
      have hss : x.sz < t.sz ∧ r.sz ≤ t.sz := by have := HF.out; simp only [Tr.sz] at this; omega
      obtain ⟨M, HMx⟩ : ∃ M, Hid (x.len = M) := ⟨_, rfl⟩
      rw [HMx.out] at hc1 hx1 hxl
      have hli : (i : Int) < (T : Int) := by omega
      have HX1 : Hid (TAt P w false x v1 0 M) := hx1
      have HR1 : Hid (TAt P w true r (some ⟨b1, o1, none⟩) (i + 1) T) := hr1
      have HS : Hid (x.sz < t.sz ∧ r.sz ≤ t.sz) := hss
      have hM : M ≤ 1000000000 := by omega
      have HC1 : Hid (w.cell? ⟨b1, o1 + i, none⟩ = some (.slice v1 M c1)) := hc1
      have HM2 : Hid (d + (x.cnt + r.cnt) = D) := HM.out
      clear hx1 hr1 hss hxl HA HF hc1 HM
      go_wp2_with fail
      go_loopw [3, 5] (fun mv kv wr => ∃ (k d : Nat) (rest : Tr), k ≤ M ∧ d ≤ D ∧ kv = .int .i64 k ∧ mv = .int .i64 (d : Int) ∧ Hid (TAt P w false rest v1 k M) ∧ Hid (rest.sz ≤ x.sz) ∧ Hid (d + (rest.cnt + r.cnt) = D) ∧ Hid (Below w.heap.size w wr)) (fun _ kv _ => M - (intOf kv).toNat)
      case atStart => exact ⟨0, d, x, Nat.zero_le _, hd, rfl, rfl, HX1, Nat.le_refl _, HM2, HL⟩
      case round =>
        clear hd HM2 HX1 HL
        obtain ⟨k, d, rest, hk, hd, rfl, rfl, HA, HF, HM, HL⟩ := hrel
        rename World => w3
        have d1 := cell_later HL.out HC1.out
        cases rest with
        | b _ _ => have := HA.out.1; simp at this
        | e =>
          have hke : k = M := HA.out
          subst hke
          have HMr : Hid (d + r.cnt = D) := by have := HM.out; simp only [Tr.cnt] at this; show d + r.cnt = D; omega
          go_wp2_with fail
          go_roundw
          case rel => exact ⟨i + 1, d, r, by omega, hd, by go_num, rfl, HR1, HS.out.2, HMr, HL⟩
          case measure => simp [intOf]; omega
        | n l tn r2 =>
          obtain ⟨_, hlt2, ⟨b3, o3, sv3, sm3, sc3, av3, am3, ac3, rfl, hp3, e30, e31, e32, e33, e34, e35, hs3, ht3⟩, hr3⟩ := HA.out
          obtain rfl : am3 = tn.len := by have := ht3.len; omega
          have hf := HF.out
          simp only [Tr.sz] at hf
          have hSx := HS.out.1
          have HI : Hid (CntOK tn) := HIH.out tn (by omega)
          have HRa : Hid (TAt P w false r2 (some ⟨b3, o3, none⟩) (k + 1) M) := hr3
          have HTa : Hid (TAt P w true tn av3 0 tn.len) := ht3
          have HFr : Hid (r2.sz ≤ x.sz) := by show r2.sz ≤ x.sz; omega
          have htn : tn.sz ≤ 1000000000 := by omega
          have htd := cnt_le_sz tn
          have g35 := cell_later HL.out e35
          have hkl : (k : Int) < (M : Int) := by omega
          have M2 : Hid _ := HI.out P _ av3 ac3 (HTa.out.below HL.out) htn
          have hMr : d + 1 + tn.cnt + (r2.cnt + r.cnt) = D := by have := HM.out; simp only [Tr.cnt] at this; omega
          have HMr : Hid (d + 1 + tn.cnt + (r2.cnt + r.cnt) = D) := hMr
          have hd2 : d + 1 + tn.cnt ≤ D := by omega
          clear hr3 hs3 ht3 HA HF HI e30 e31 e32 e33 e34 e35 HM hf hMr
          go_wp2_with fail
          refine Calls.mono M2.out ?_
          rintro e w6 ⟨rfl, hb6⟩
          have HL6 : Hid (Below w.heap.size w w6) := HL.out.trans (hb6.mono HL.out.size)
          clear hb6 M2 HL g35 d1
          go_wp2_with fail
          go_roundw
          case rel => exact ⟨k + 1, d + 1 + tn.cnt, r2, by omega, hd2, by go_num, by push_cast; rfl, HRa, HFr, HMr, HL6⟩
          case measure => simp [intOf]; omega

theorem cnt_all : ∀ (n : Nat) (t : Tr), t.sz ≤ n → CntOK t := by
  intro n
  induction n with
  | zero => intro t ht; exact cnt_step t (fun tn h => by omega)
  | succ n ih => intro t ht; exact cnt_step t (fun tn h => ih tn (by omega))

set_option maxRecDepth 1000000 in
theorem rdepth_any (x : By) (t : Tr) (P : Nat → Prop) (w : World) (a : Option Addr) (ca : Nat) (ha : TAt P w true t a 0 t.len) (hsz : t.sz ≤ 1000000000) :
    Calls Try.prog 18 #[.agg #[.string ⟨x.toArray⟩, .slice a t.len ca]] w fun e w' => e = .returned (.int .i64 ((t.dep + 1 : Nat) : Int)) ∧ Below w.heap.size w w' := by
  have bW : Below w.heap.size w (w.alloc (.cells #[.string ⟨x.toArray⟩, .slice a t.len ca] 25)) := (Below.refl _ w).alloc (Nat.le_refl _) _
  have M1 : Hid _ := dep_all t.sz t (Nat.le_refl _) P _ a ca (ha.below bW) hsz
  have HBW : Hid _ := bW
  clear ha bW
  go_enter Try.func18, Try.ntmps18
  go_wp2_with fail
  refine Calls.mono M1.out ?_
  rintro e w5 ⟨rfl, hb5⟩
  go_wp2_with fail
  go_ret
  exact ⟨rfl, HBW.out.trans (hb5.mono HBW.out.size)⟩

set_option maxRecDepth 1000000 in
theorem rcount_any (x : By) (t : Tr) (P : Nat → Prop) (w : World) (a : Option Addr) (ca : Nat) (ha : TAt P w true t a 0 t.len) (hsz : t.sz ≤ 1000000000) :
    Calls Try.prog 20 #[.agg #[.string ⟨x.toArray⟩, .slice a t.len ca]] w fun e w' => e = .returned (.int .i64 (t.cnt : Int)) ∧ Below w.heap.size w w' := by
  have bW : Below w.heap.size w (w.alloc (.cells #[.string ⟨x.toArray⟩, .slice a t.len ca] 25)) := (Below.refl _ w).alloc (Nat.le_refl _) _
  have M1 : Hid _ := cnt_all t.sz t (Nat.le_refl _) P _ a ca (ha.below bW) hsz
  have HBW : Hid _ := bW
  clear ha bW
  go_enter Try.func20, Try.ntmps20
  go_wp2_with fail
  refine Calls.mono M1.out ?_
  rintro e w5 ⟨rfl, hb5⟩
  go_wp2_with fail
  go_ret
  exact ⟨rfl, HBW.out.trans (hb5.mono HBW.out.size)⟩
end Go.Proofs.Ytlmfmgpamhhncaa

/- The document's reader: is, may, must. -/
namespace Go.Proofs.Ytlmfmgpamhhncaa
open Go.RowKit

/-- The document's reader's block and its tokens' texts; the i-th is next; bad: it can't follow. -/
structure RF (w : World) (rb : Nat) (a : Option Addr) (cap : Nat) (L : List By) (i : Nat) (bad : Bool) : Prop where
  blk : w.heap[rb]? = some (.cells #[.slice a L.length cap, .int .i64 (i : Int), .bool bad] 64 (0, 0))
  tok : ∀ j x, L[j]? = some x → ∃ b off, a = some ⟨b, off, none⟩ ∧ b ≠ rb ∧ w.cell? ⟨b, off + j * 3 + 1, none⟩ = some (.string ⟨x.toArray⟩)
  few : L.length ≤ 100000
  le : i ≤ L.length

theorem RF.keep {w w' : World} {rb cap i : Nat} {a : Option Addr} {L : List By} {bad : Bool} (h : RF w rb a cap L i bad) (hb : Below w.heap.size w w') : RF w' rb a cap L i bad :=
  ⟨(hb.block rb (Array.getElem?_eq_some_iff.1 h.blk).1).trans h.blk, fun j x hj => by obtain ⟨b, off, h1, h2, h3⟩ := h.tok j x hj; exact ⟨b, off, h1, h2, cell_later hb h3⟩, h.few, h.le⟩

theorem RF.set {w : World} {rb cap i : Nat} {a : Option Addr} {L : List By} {bad : Bool} (h : RF w rb a cap L i bad) (k : Nat) (v : Value) (i' : Nat) (bad' : Bool) (hi : i' ≤ L.length)
    (hc : (#[.slice a L.length cap, .int .i64 (i : Int), .bool bad] : Array Value).setIfInBounds k v = #[.slice a L.length cap, .int .i64 (i' : Int), .bool bad']) : RF (w.setCell ⟨rb, k, none⟩ v) rb a cap L i' bad' := by
  refine ⟨by rw [row_set h.blk k v, hc], fun j x hj => ?_, h.few, hi⟩
  obtain ⟨b, off, h1, h2, h3⟩ := h.tok j x hj
  exact ⟨b, off, h1, h2, (World.cell?_of_block (a := ⟨b, off + j * 3 + 1, none⟩) (Below.heap_setCell w ⟨rb, k, none⟩ v b h2)).trans h3⟩

set_option maxRecDepth 1000000 in
set_option maxHeartbeats 2000000 in
theorem is_rf (w : World) (rb cap i : Nat) (a : Option Addr) (L : List By) (bad : Bool) (s : By) (h : RF w rb a cap L i bad) :
    Calls Try.prog 59 #[.pointer (some ⟨rb, 0, none⟩), .string ⟨s.toArray⟩] w fun e w' => e = .returned (.bool (!bad && isT L i s)) ∧ Below w.heap.size w w' := by
  have c0 := (cell_row h.blk 0).trans rfl
  have c1 := (cell_row h.blk 1).trans rfl
  have c2 := (cell_row h.blk 2).trans rfl
  have hbl : ∀ n, Below w.heap.size w (w.drewN n) := fun n => ⟨rfl, rfl, rfl, Nat.le_refl _, fun _ _ => rfl⟩
  have HB : Hid _ := hbl
  clear hbl
  cases bad with
  | true =>
    go_enter Try.func59, Try.ntmps59
    go_wp2_with fail
    go_quiet (fail)
    go_wp2_with fail
    go_ret
    exact ⟨rfl, HB.out _⟩
  | false =>
    by_cases hi : i < L.length
    · obtain ⟨x, hx⟩ : ∃ x, L[i]? = some x := ⟨_, List.getElem?_eq_getElem hi⟩
      obtain ⟨b, off, rfl, hne, d1⟩ := h.tok i x hx
      have hli : (i : Int) < (L.length : Int) := by omega
      have HT : Hid (isT L i s = (x == s)) := by show _ = _; simp [isT, hx]
      clear h hx
      go_enter Try.func59, Try.ntmps59
      go_wp2_with fail
      go_quiet (fail)
      go_wp2_with fail
      go_ret
      exact ⟨by rw [HT.out]; rfl, HB.out _⟩
    · have hli : decide ((i : Int) < (L.length : Int)) = false := by simp; omega
      have HT : Hid (isT L i s = false) := by
        show _ = _
        simp [isT, List.getElem?_eq_none (Nat.le_of_not_lt hi)]
      clear h
      go_enter Try.func59, Try.ntmps59
      go_wp2_with fail
      go_quiet (fail)
      go_wp2_with fail
      go_ret
      exact ⟨by rw [HT.out]; rfl, HB.out _⟩
end Go.Proofs.Ytlmfmgpamhhncaa

/- The document's reader: may, must, name. -/
namespace Go.Proofs.Ytlmfmgpamhhncaa
open Go.RowKit

set_option maxRecDepth 1000000 in
set_option maxHeartbeats 1000000 in
theorem may_rf (w : World) (rb cap i : Nat) (a : Option Addr) (L : List By) (bad : Bool) (s : By) (h : RF w rb a cap L i bad) :
    Calls Try.prog 57 #[.pointer (some ⟨rb, 0, none⟩), .string ⟨s.toArray⟩] w fun e w' => e = .returned (.bool (!bad && isT L i s)) ∧ Ke rb w w' ∧ RF w' rb a cap L (if (!bad && isT L i s) then i + 1 else i) bad := by
  have M1 : Hid _ := is_rf w rb cap i a L bad s h
  have hfew := h.few
  have hle := h.le
  have HH : Hid _ := h
  cases hq : (!bad && isT L i s) with
  | false =>
    rw [hq] at M1
    go_enter Try.func57, Try.ntmps57
    go_wp2_with fail
    refine Calls.mono M1.out ?_
    rintro e w1 ⟨rfl, hb1⟩
    go_wp2_with fail
    go_ret
    exact ⟨rfl, Ke.of_below hb1, HH.out.keep hb1⟩
  | true =>
    rw [hq] at M1
    have hlt : i < L.length := isT_lt L (by simp at hq; exact hq.2)
    go_enter Try.func57, Try.ntmps57
    go_wp2_with fail
    refine Calls.mono M1.out ?_
    rintro e w1 ⟨rfl, hb1⟩
    have HR : Hid _ := HH.out.keep hb1
    have c1 := (cell_row HR.out.blk 1).trans rfl
    have f1 := froz_row HR.out.blk 1
    go_wp2_with fail
    go_ret
    exact ⟨rfl, (Ke.of_below hb1).trans (Ke.setCell rb _ 1 _), HR.out.set 1 _ (i + 1) bad (by omega) rfl⟩

set_option maxRecDepth 1000000 in
set_option maxHeartbeats 1000000 in
theorem must_rf (w : World) (rb cap i : Nat) (a : Option Addr) (L : List By) (bad : Bool) (s : By) (h : RF w rb a cap L i bad) :
    Calls Try.prog 29 #[.pointer (some ⟨rb, 0, none⟩), .string ⟨s.toArray⟩] w fun e w' => e = .returned (.tuple #[]) ∧ Ke rb w w' ∧ RF w' rb a cap L (if (!bad && isT L i s) then i + 1 else i) (!(!bad && isT L i s)) := by
  have M1 : Hid _ := may_rf w rb cap i a L bad s h
  have hbq : (!bad && isT L i s) = true → bad = false := by intro hh; simp at hh; exact hh.1
  cases hq : (!bad && isT L i s) with
  | false =>
    rw [hq] at M1
    go_enter Try.func29, Try.ntmps29
    go_wp2_with fail
    refine Calls.mono M1.out ?_
    rintro e w1 ⟨rfl, hk1, h1⟩
    have c2 := (cell_row h1.blk 2).trans rfl
    have f2 := froz_row h1.blk 2
    go_wp2_with fail
    go_end0
    exact ⟨rfl, hk1.trans (Ke.setCell rb _ 2 _), h1.set 2 _ i true h1.le rfl⟩
  | true =>
    have hb0 := hbq hq
    rw [hq] at M1
    subst hb0
    go_enter Try.func29, Try.ntmps29
    go_wp2_with fail
    refine Calls.mono M1.out ?_
    rintro e w1 ⟨rfl, hk1, h1⟩
    have c2 := (cell_row h1.blk 2).trans rfl
    have f2 := froz_row h1.blk 2
    go_wp2_with fail
    go_end0
    exact ⟨rfl, hk1.trans (Ke.setCell rb _ 2 _), h1.set 2 _ (i + 1) false h1.le rfl⟩

set_option maxRecDepth 1000000 in
set_option maxHeartbeats 1000000 in
theorem rnm_any (x : By) (w : World) (hs : x.length ≤ 65536) : Calls Try.prog 58 #[.string ⟨x.toArray⟩] w fun e w' => e = .returned (.bool (nmP x)) ∧ Below w.heap.size w w' := by
  have M1 : Hid (Calls Try.prog 80 #[.string ⟨x.toArray⟩] w fun e w' => e = .returned (.bool (isName x)) ∧ Below w.heap.size w w') := rname_any ⟨x.toArray⟩ w (by show x.toArray.size ≤ 65536; simpa using hs)
  go_enter Try.func58, Try.ntmps58
  go_wp2_with fail
  refine Calls.mono M1.out ?_
  rintro e w1 ⟨rfl, hb1⟩
  cases hn : isName x with
  | false =>
    have HQ : Hid (nmP x = false) := by show _ = _; simp [nmP, hn]
    go_wp2_with fail
    go_ret
    exact ⟨by rw [HQ.out]; rfl, hb1⟩
  | true =>
    have HQ : Hid (nmP x = !isWord x) := by show _ = _; simp [nmP, hn]
    have M2 : Hid (Calls Try.prog 81 #[.string ⟨x.toArray⟩] w1 fun e w' => e = .returned (.bool (isWord x)) ∧ Below w1.heap.size w1 w') := rword_any ⟨x.toArray⟩ w1
    go_wp2_with fail
    refine Calls.mono M2.out ?_
    rintro e w2 ⟨rfl, hb2⟩
    go_wp2_with fail
    go_ret
    exact ⟨by rw [HQ.out]; rfl, hb1.trans (hb2.mono hb1.size)⟩
end Go.Proofs.Ytlmfmgpamhhncaa

