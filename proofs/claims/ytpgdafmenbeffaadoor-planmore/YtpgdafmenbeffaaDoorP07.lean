/- Texts of the seat, packed: SUd. -/
import Derived.Test.YtpgdafmenbeffaaDoorP06
/- The document's Same at sagas that are the same. -/
namespace Go.Proofs.YtpgdafmenbeffaaDoor.Sx

open Go.RowKit

def SameOK (t : Tr) : Prop := ∀ (P Q : Nat → Prop) (w : World) (a b : Option Addr) (ca cb : Nat), TAt P w true t a 0 t.len → TAt Q w true t b 0 t.len → t.sz ≤ 1000000000 → t.afs →
  Calls Tryd.prog 26 #[.slice a t.len ca, .slice b t.len cb] w fun e w' => e = .returned (.bool true) ∧ Below w.heap.size w w'

theorem TAt.below {P : Nat → Prop} {w w' : World} {t : Tr} {k : Bool} {a : Option Addr} {i n : Nat} (h : TAt P w k t a i n) (hb : Below w.heap.size w w') : TAt P w' k t a i n := h.keep (fun b _ hl => hb.block b hl) (fun _ h _ => h) _ _ _ _ _

theorem SAt.below {P : Nat → Prop} {w w' : World} {xs : List By} {a : Option Addr} {n : Nat} (h : SAt P w xs a n) (hb : Below w.heap.size w w') : SAt P w' xs a n := h.keep (fun b _ hl => hb.block b hl) (fun _ h _ => h)

theorem bl_drawn {B : Nat} {w w' : World} (h : Below B w w') (n : Nat) : Below B w (w'.drewN n) := ⟨h.os, h.tape, h.output, h.size, h.block⟩

theorem bl_drawn1 {B : Nat} {w w' : World} (h : Below B w w') : Below B w w'.drew := ⟨h.os, h.tape, h.output, h.size, h.block⟩

set_option maxRecDepth 1000000 in
set_option maxHeartbeats 4000000 in
theorem same_step (t : Tr) (IH : ∀ tn, tn.sz < t.sz → SameOK tn) : SameOK t := by
  intro P Q w a b ca cb ha hb hsz haf
  have hlen := t.len_sz
  obtain ⟨T, HT⟩ : ∃ T, Hid (t.len = T) := ⟨_, rfl⟩
  rw [HT.out] at ha hb ⊢
  have hT : T ≤ 1000000000 := by have := HT.out; omega
  have HIH : Hid (∀ tn, tn.sz < t.sz → SameOK tn) := IH
  clear IH
  have HA0 : Hid (TAt P w true t a 0 T) := ha
  have HB0 : Hid (TAt Q w true t b 0 T) := hb
  have HF0 : Hid (t.sz ≤ t.sz ∧ t.afs) := ⟨Nat.le_refl _, haf⟩
  have HL0 : Hid (Below w.heap.size w w) := Below.refl _ _
  clear ha hb haf hlen
  go_enter Tryd.func26, Tryd.ntmps26
  go_wp2_with fail
  go_loopw [5, 6, 7, 8] (fun iv _ _ _ wr => ∃ (i : Nat) (rest : Tr), i ≤ T ∧ iv = .int .i64 i ∧ Hid (TAt P w true rest a i T) ∧ Hid (TAt Q w true rest b i T) ∧ Hid (rest.sz ≤ t.sz ∧ rest.afs) ∧ Hid (Below w.heap.size w wr)) (fun iv _ _ _ _ => T - (intOf iv).toNat)
  case atStart => exact ⟨0, t, Nat.zero_le _, rfl, HA0, HB0, HF0, HL0⟩
  case round =>
    obtain ⟨i, rest, hi, rfl, HA, HB, HF, HL⟩ := hrel
    rename World => w1
    clear HA0 HB0 HF0 HL0
    cases rest with
    | n _ _ _ => have := HA.out.1; simp at this
    | e =>
      have hie : i = T := HA.out
      subst hie
      go_wp2_with fail
      go_ret
      exact ⟨rfl, HL.out⟩
    | b x r =>
      obtain ⟨_, hlt, ⟨b1, o1, v1, m1, c1, rfl, hp1, hc1, hx1⟩, hr1⟩ := HA.out
      obtain ⟨_, _, ⟨b2, o2, v2, m2, c2, rfl, hp2, hc2, hx2⟩, hr2⟩ := HB.out
      obtain rfl : m1 = x.len := by have := hx1.len; omega
      obtain rfl : m2 = x.len := by have := hx2.len; omega
      have hxl := x.len_sz
      have hss : x.sz < t.sz ∧ r.sz ≤ t.sz ∧ x.afs ∧ r.afs := by have := HF.out; simp only [Tr.sz, Tr.afs] at this; exact ⟨by omega, by omega, this.2.1, this.2.2⟩
      obtain ⟨M, HM⟩ : ∃ M, Hid (x.len = M) := ⟨_, rfl⟩
      rw [HM.out] at hc1 hc2 hx1 hx2 hxl
      have d1 := cell_later HL.out hc1
      have d2 := cell_later HL.out hc2
      have hli : (i : Int) < (T : Int) := by omega
      have HX1 : Hid (TAt P w false x v1 0 M) := hx1
      have HX2 : Hid (TAt Q w false x v2 0 M) := hx2
      have HR1 : Hid _ := hr1
      have HR2 : Hid _ := hr2
      have HS : Hid _ := hss
      have hM : M ≤ 1000000000 := by omega
      have HC1 : Hid _ := hc1
      have HC2 : Hid _ := hc2
      clear hx1 hx2 hr1 hr2 hss hxl HA HB HF hc1 hc2
      have q1 : ∀ m, (w1.drewN m).cell? ⟨b1, o1 + i, none⟩ = some (.slice v1 M c1) := fun _ => d1
      have q2 : ∀ m, (w1.drewN m).cell? ⟨b2, o2 + i, none⟩ = some (.slice v2 M c2) := fun _ => d2
      go_wp2_with fail
      go_quiet (fail)
      generalize hw2 : World.drewN w1 _ = w2 at *
      have HL2 : Hid (Below w.heap.size w w2) := by rw [← hw2]; exact bl_drawn HL.out _
      clear q1 q2 d1 d2 hw2 HL
      go_wp2_with fail
      go_loopw [6, 7, 8] (fun kv _ _ wr => ∃ (k : Nat) (rest : Tr), k ≤ M ∧ kv = .int .i64 k ∧ Hid (TAt P w false rest v1 k M) ∧ Hid (TAt Q w false rest v2 k M) ∧ Hid (rest.sz ≤ x.sz ∧ rest.afs) ∧ Hid (Below w.heap.size w wr)) (fun kv _ _ _ => M - (intOf kv).toNat)
      case atStart => exact ⟨0, x, Nat.zero_le _, rfl, HX1, HX2, ⟨Nat.le_refl _, HS.out.2.2.1⟩, HL2⟩
      case round =>
        obtain ⟨k, rest, hk, rfl, HA, HB, HF, HL⟩ := hrel
        rename World => w3
        clear HX1 HX2 HL2
        have d1 := cell_later HL.out HC1.out
        have d2 := cell_later HL.out HC2.out
        cases rest with
        | b _ _ => have := HA.out.1; simp at this
        | e =>
          have hke : k = M := HA.out
          subst hke
          go_wp2_with fail
          go_roundw
          case rel => exact ⟨i + 1, r, by omega, by go_num, HR1, HR2, ⟨HS.out.2.1, HS.out.2.2.2⟩, HL⟩
          case measure => simp [intOf]; omega
        | n l tn r2 =>
          obtain ⟨_, hlt2, ⟨b3, o3, sv3, sm3, sc3, av3, am3, ac3, rfl, hp3, e30, e31, e32, e33, e34, e35, hs3, ht3⟩, hr3⟩ := HA.out
          obtain ⟨_, _, ⟨b4, o4, sv4, sm4, sc4, av4, am4, ac4, rfl, hp4, e40, e41, e42, e43, e44, e45, hs4, ht4⟩, hr4⟩ := HB.out
          obtain rfl : sm3 = l.after.length := hs3.1
          obtain rfl : sm4 = l.after.length := hs4.1
          obtain rfl : am3 = tn.len := by have := ht3.len; omega
          obtain rfl : am4 = tn.len := by have := ht4.len; omega
          have hf := HF.out
          simp only [Tr.sz, Tr.afs] at hf
          obtain ⟨hf1, hf2, hf3, hf4⟩ := hf
          have hSx := HS.out.1
          have HI := HIH.out tn (by omega)
          have HRa : Hid _ := hr3
          have HRb : Hid _ := hr4
          have HSa : Hid (SAt P w l.after sv3 l.after.length) := hs3
          have HSb : Hid (SAt Q w l.after sv4 l.after.length) := hs4
          have HTa : Hid _ := ht3
          have HTb : Hid _ := ht4
          have HFr : Hid (r2.sz ≤ x.sz ∧ r2.afs) := ⟨by omega, hf4⟩
          have htn : tn.sz ≤ 1000000000 := by omega
          have HI' : Hid (SameOK tn) := HI
          have g30 := cell_later HL.out e30
          have g31 := cell_later HL.out e31
          have g32 := cell_later HL.out e32
          have g33 := cell_later HL.out e33
          have g34 := cell_later HL.out e34
          have g35 := cell_later HL.out e35
          have g40 := cell_later HL.out e40
          have g41 := cell_later HL.out e41
          have g42 := cell_later HL.out e42
          have g43 := cell_later HL.out e43
          have g44 := cell_later HL.out e44
          have g45 := cell_later HL.out e45
          have hkl : (k : Int) < (M : Int) := by omega
          have l1 : b1 < w3.heap.size := lt_of_cell? d1
          have l2 : b2 < w3.heap.size := lt_of_cell? d2
          have l3 : b3 < w3.heap.size := lt_of_cell? g30
          have l4 : b4 < w3.heap.size := lt_of_cell? g40
          have n1 : b1 ≠ w3.heap.size := by omega
          have n2 : b2 ≠ w3.heap.size := by omega
          have n3 : b3 ≠ w3.heap.size := by omega
          have n4 : b4 ≠ w3.heap.size := by omega
          clear hr3 hr4 hs3 hs4 ht3 ht4 HA HB HF HI hf1 e30 e31 e32 e33 e34 e35 e40 e41 e42 e43 e44 e45
          go_wp2_with fail
          go_region
          · have r1 := row_alloc (row_new w3 #[.string ⟨l.name.toArray⟩, .string ⟨l.undo.toArray⟩, .slice sv3 l.after.length sc3, .bool l.sub, .bool l.vital, .slice av3 tn.len ac3] 38) (.cells #[.string ⟨l.name.toArray⟩, .string ⟨l.undo.toArray⟩, .slice sv4 l.after.length sc4, .bool l.sub, .bool l.vital, .slice av4 tn.len ac4] 38)
            have r2' : ((w3.alloc (.cells #[.string ⟨l.name.toArray⟩, .string ⟨l.undo.toArray⟩, .slice sv3 l.after.length sc3, .bool l.sub, .bool l.vital, .slice av3 tn.len ac3] 38)).alloc (.cells #[.string ⟨l.name.toArray⟩, .string ⟨l.undo.toArray⟩, .slice sv4 l.after.length sc4, .bool l.sub, .bool l.vital, .slice av4 tn.len ac4] 38)).heap[w3.heap.size + 1]? = some (.cells #[.string ⟨l.name.toArray⟩, .string ⟨l.undo.toArray⟩, .slice sv4 l.after.length sc4, .bool l.sub, .bool l.vital, .slice av4 tn.len ac4] 38 (0, 0)) := by
              have := row_new (w3.alloc (.cells #[.string ⟨l.name.toArray⟩, .string ⟨l.undo.toArray⟩, .slice sv3 l.after.length sc3, .bool l.sub, .bool l.vital, .slice av3 tn.len ac3] 38)) #[.string ⟨l.name.toArray⟩, .string ⟨l.undo.toArray⟩, .slice sv4 l.after.length sc4, .bool l.sub, .bool l.vital, .slice av4 tn.len ac4] 38
              rwa [World.size_alloc] at this
            have bW : Below w3.heap.size w3 (((w3.alloc (.cells #[.string ⟨l.name.toArray⟩, .string ⟨l.undo.toArray⟩, .slice sv3 l.after.length sc3, .bool l.sub, .bool l.vital, .slice av3 tn.len ac3] 38)).alloc (.cells #[.string ⟨l.name.toArray⟩, .string ⟨l.undo.toArray⟩, .slice sv4 l.after.length sc4, .bool l.sub, .bool l.vital, .slice av4 tn.len ac4] 38)).drew) := bl_drawn1 (((Below.refl _ w3).alloc (Nat.le_refl _) _).alloc (by simp) _)
            have q1 : (((w3.alloc (.cells #[.string ⟨l.name.toArray⟩, .string ⟨l.undo.toArray⟩, .slice sv3 l.after.length sc3, .bool l.sub, .bool l.vital, .slice av3 tn.len ac3] 38)).alloc (.cells #[.string ⟨l.name.toArray⟩, .string ⟨l.undo.toArray⟩, .slice sv4 l.after.length sc4, .bool l.sub, .bool l.vital, .slice av4 tn.len ac4] 38)).drew).heap[w3.heap.size]? = _ := r1
            have q2 : (((w3.alloc (.cells #[.string ⟨l.name.toArray⟩, .string ⟨l.undo.toArray⟩, .slice sv3 l.after.length sc3, .bool l.sub, .bool l.vital, .slice av3 tn.len ac3] 38)).alloc (.cells #[.string ⟨l.name.toArray⟩, .string ⟨l.undo.toArray⟩, .slice sv4 l.after.length sc4, .bool l.sub, .bool l.vital, .slice av4 tn.len ac4] 38)).drew).heap[w3.heap.size + 1]? = _ := r2'
            generalize ((w3.alloc (.cells #[.string ⟨l.name.toArray⟩, .string ⟨l.undo.toArray⟩, .slice sv3 l.after.length sc3, .bool l.sub, .bool l.vital, .slice av3 tn.len ac3] 38)).alloc (.cells #[.string ⟨l.name.toArray⟩, .string ⟨l.undo.toArray⟩, .slice sv4 l.after.length sc4, .bool l.sub, .bool l.vital, .slice av4 tn.len ac4] 38)).drew = W at *
            have HBW : Hid (Below w.heap.size w W) := HL.out.trans (bW.mono HL.out.size)
            have M1 : Hid _ := texts_same P Q l.after sv3 sv4 sc3 sc4 W (HSa.out.below HBW.out) (HSb.out.below HBW.out) hf2
            have M2 : Hid (∀ nq, Calls Tryd.prog 26 #[.slice av3 tn.len ac3, .slice av4 tn.len ac4] (W.drewN nq) fun e w' => e = .returned (.bool true) ∧ Below (W.drewN nq).heap.size (W.drewN nq) w') := fun nq => HI'.out P Q (W.drewN nq) av3 av4 ac3 ac4 (HTa.out.below (bl_drawn HBW.out nq)) (HTb.out.below (bl_drawn HBW.out nq)) htn hf3
            have x0 := (cell_row q1 0).trans rfl
            have x1 := (cell_row q1 1).trans rfl
            have x2 := (cell_row q1 2).trans rfl
            have x3 := (cell_row q1 3).trans rfl
            have x4 := (cell_row q1 4).trans rfl
            have x5 := (cell_row q1 5).trans rfl
            have y0 := (cell_row q2 0).trans rfl
            have y1 := (cell_row q2 1).trans rfl
            have y2 := (cell_row q2 2).trans rfl
            have y3 := (cell_row q2 3).trans rfl
            have y4 := (cell_row q2 4).trans rfl
            have y5 := (cell_row q2 5).trans rfl
            have x5' : ∀ m, (W.drewN m).cell? ⟨w3.heap.size, 5, none⟩ = some (.slice av3 tn.len ac3) := fun _ => x5
            have y5' : ∀ m, (W.drewN m).cell? ⟨w3.heap.size + 1, 5, none⟩ = some (.slice av4 tn.len ac4) := fun _ => y5
            clear HL d1 d2 g30 g31 g32 g33 g34 g35 g40 g41 g42 g43 g44 g45 r1 r2' bW q1 q2 hf2 hf3 htn HIH
            go_wp2_with fail
            refine Calls.mono M1.out ?_
            rintro e w5 ⟨rfl, nq, rfl⟩
            go_wp2_with fail
            refine Calls.mono (M2.out nq) ?_
            rintro e w6 ⟨rfl, hb6⟩
            have HL6 : Hid (Below w.heap.size w w6) := (bl_drawn HBW.out nq).trans (hb6.mono HBW.out.size)
            go_wp2_with fail
            go_roundw
            case rel => exact ⟨k + 1, r2, by omega, by go_num, HRa, HRb, HFr, HL6⟩
            case measure => simp [intOf]; omega
          · have r1 := row_alloc (row_new w3 #[.string ⟨l.name.toArray⟩, .string ⟨l.undo.toArray⟩, .slice sv4 l.after.length sc4, .bool l.sub, .bool l.vital, .slice av4 tn.len ac4] 38) (.cells #[.string ⟨l.name.toArray⟩, .string ⟨l.undo.toArray⟩, .slice sv3 l.after.length sc3, .bool l.sub, .bool l.vital, .slice av3 tn.len ac3] 38)
            have r2' : ((w3.alloc (.cells #[.string ⟨l.name.toArray⟩, .string ⟨l.undo.toArray⟩, .slice sv4 l.after.length sc4, .bool l.sub, .bool l.vital, .slice av4 tn.len ac4] 38)).alloc (.cells #[.string ⟨l.name.toArray⟩, .string ⟨l.undo.toArray⟩, .slice sv3 l.after.length sc3, .bool l.sub, .bool l.vital, .slice av3 tn.len ac3] 38)).heap[w3.heap.size + 1]? = some (.cells #[.string ⟨l.name.toArray⟩, .string ⟨l.undo.toArray⟩, .slice sv3 l.after.length sc3, .bool l.sub, .bool l.vital, .slice av3 tn.len ac3] 38 (0, 0)) := by
              have := row_new (w3.alloc (.cells #[.string ⟨l.name.toArray⟩, .string ⟨l.undo.toArray⟩, .slice sv4 l.after.length sc4, .bool l.sub, .bool l.vital, .slice av4 tn.len ac4] 38)) #[.string ⟨l.name.toArray⟩, .string ⟨l.undo.toArray⟩, .slice sv3 l.after.length sc3, .bool l.sub, .bool l.vital, .slice av3 tn.len ac3] 38
              rwa [World.size_alloc] at this
            have bW : Below w3.heap.size w3 (((w3.alloc (.cells #[.string ⟨l.name.toArray⟩, .string ⟨l.undo.toArray⟩, .slice sv4 l.after.length sc4, .bool l.sub, .bool l.vital, .slice av4 tn.len ac4] 38)).alloc (.cells #[.string ⟨l.name.toArray⟩, .string ⟨l.undo.toArray⟩, .slice sv3 l.after.length sc3, .bool l.sub, .bool l.vital, .slice av3 tn.len ac3] 38)).drew) := bl_drawn1 (((Below.refl _ w3).alloc (Nat.le_refl _) _).alloc (by simp) _)
            have q1 : (((w3.alloc (.cells #[.string ⟨l.name.toArray⟩, .string ⟨l.undo.toArray⟩, .slice sv4 l.after.length sc4, .bool l.sub, .bool l.vital, .slice av4 tn.len ac4] 38)).alloc (.cells #[.string ⟨l.name.toArray⟩, .string ⟨l.undo.toArray⟩, .slice sv3 l.after.length sc3, .bool l.sub, .bool l.vital, .slice av3 tn.len ac3] 38)).drew).heap[w3.heap.size]? = _ := r1
            have q2 : (((w3.alloc (.cells #[.string ⟨l.name.toArray⟩, .string ⟨l.undo.toArray⟩, .slice sv4 l.after.length sc4, .bool l.sub, .bool l.vital, .slice av4 tn.len ac4] 38)).alloc (.cells #[.string ⟨l.name.toArray⟩, .string ⟨l.undo.toArray⟩, .slice sv3 l.after.length sc3, .bool l.sub, .bool l.vital, .slice av3 tn.len ac3] 38)).drew).heap[w3.heap.size + 1]? = _ := r2'
            generalize ((w3.alloc (.cells #[.string ⟨l.name.toArray⟩, .string ⟨l.undo.toArray⟩, .slice sv4 l.after.length sc4, .bool l.sub, .bool l.vital, .slice av4 tn.len ac4] 38)).alloc (.cells #[.string ⟨l.name.toArray⟩, .string ⟨l.undo.toArray⟩, .slice sv3 l.after.length sc3, .bool l.sub, .bool l.vital, .slice av3 tn.len ac3] 38)).drew = W at *
            have HBW : Hid (Below w.heap.size w W) := HL.out.trans (bW.mono HL.out.size)
            have M1 : Hid _ := texts_same P Q l.after sv3 sv4 sc3 sc4 W (HSa.out.below HBW.out) (HSb.out.below HBW.out) hf2
            have M2 : Hid (∀ nq, Calls Tryd.prog 26 #[.slice av3 tn.len ac3, .slice av4 tn.len ac4] (W.drewN nq) fun e w' => e = .returned (.bool true) ∧ Below (W.drewN nq).heap.size (W.drewN nq) w') := fun nq => HI'.out P Q (W.drewN nq) av3 av4 ac3 ac4 (HTa.out.below (bl_drawn HBW.out nq)) (HTb.out.below (bl_drawn HBW.out nq)) htn hf3
            have x0 := (cell_row q2 0).trans rfl
            have x1 := (cell_row q2 1).trans rfl
            have x2 := (cell_row q2 2).trans rfl
            have x3 := (cell_row q2 3).trans rfl
            have x4 := (cell_row q2 4).trans rfl
            have x5 := (cell_row q2 5).trans rfl
            have y0 := (cell_row q1 0).trans rfl
            have y1 := (cell_row q1 1).trans rfl
            have y2 := (cell_row q1 2).trans rfl
            have y3 := (cell_row q1 3).trans rfl
            have y4 := (cell_row q1 4).trans rfl
            have y5 := (cell_row q1 5).trans rfl
            have x5' : ∀ m, (W.drewN m).cell? ⟨w3.heap.size + 1, 5, none⟩ = some (.slice av3 tn.len ac3) := fun _ => x5
            have y5' : ∀ m, (W.drewN m).cell? ⟨w3.heap.size, 5, none⟩ = some (.slice av4 tn.len ac4) := fun _ => y5
            clear HL d1 d2 g30 g31 g32 g33 g34 g35 g40 g41 g42 g43 g44 g45 r1 r2' bW q1 q2 hf2 hf3 htn HIH
            go_wp2_with fail
            refine Calls.mono M1.out ?_
            rintro e w5 ⟨rfl, nq, rfl⟩
            go_wp2_with fail
            refine Calls.mono (M2.out nq) ?_
            rintro e w6 ⟨rfl, hb6⟩
            have HL6 : Hid (Below w.heap.size w w6) := (bl_drawn HBW.out nq).trans (hb6.mono HBW.out.size)
            go_wp2_with fail
            go_roundw
            case rel => exact ⟨k + 1, r2, by omega, by go_num, HRa, HRb, HFr, HL6⟩
            case measure => simp [intOf]; omega

theorem same_all : ∀ (n : Nat) (t : Tr), t.sz ≤ n → SameOK t := by
  intro n
  induction n with
  | zero => intro t ht; exact same_step t (fun tn h => by omega)
  | succ n ih => intro t ht; exact same_step t (fun tn h => ih tn (by omega))

set_option maxRecDepth 1000000 in
set_option maxHeartbeats 1000000 in
theorem same_saga (x : By) (t : Tr) (P Q : Nat → Prop) (w : World) (a b : Option Addr) (ca cb : Nat) (ha : TAt P w true t a 0 t.len) (hb : TAt Q w true t b 0 t.len) (hsz : t.sz ≤ 1000000000) (haf : t.afs) :
    Calls Tryd.prog 12 #[.agg #[.string ⟨x.toArray⟩, .slice a t.len ca], .agg #[.string ⟨x.toArray⟩, .slice b t.len cb]] w fun e w' => e = .returned (.bool true) ∧ Below w.heap.size w w' := by
  have r1 := row_alloc (row_new w #[.string ⟨x.toArray⟩, .slice a t.len ca] 24) (.cells #[.string ⟨x.toArray⟩, .slice b t.len cb] 24)
  have bW : Below w.heap.size w ((w.alloc (.cells #[.string ⟨x.toArray⟩, .slice a t.len ca] 24)).alloc (.cells #[.string ⟨x.toArray⟩, .slice b t.len cb] 24)) := ((Below.refl _ w).alloc (Nat.le_refl _) _).alloc (by simp) _
  have M1 : Hid _ := same_all t.sz t (Nat.le_refl _) P Q _ a b ca cb (ha.below bW) (hb.below bW) hsz haf
  have HBW : Hid _ := bW
  clear ha hb r1 bW
  go_enter Tryd.func12, Tryd.ntmps12
  go_wp2_with fail
  refine Calls.mono M1.out ?_
  rintro e w5 ⟨rfl, hb5⟩
  go_wp2_with fail
  go_ret
  exact ⟨rfl, HBW.out.trans (hb5.mono HBW.out.size)⟩

end Go.Proofs.YtpgdafmenbeffaaDoor.Sx

