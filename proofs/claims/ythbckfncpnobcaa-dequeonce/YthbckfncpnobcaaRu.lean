/- The walk over DequeOnce. -/
import Derived.Test.YthbckfncpnobcaaRt
namespace Go.Proofs.Ythbckfncpnobcaa
open Go.RowKit
set_option maxRecDepth 1000000
set_option linter.unusedVariables false

theorem byte_lt' (b : UInt8) : b.toNat < 256 := b.toNat_lt
/-- So many jobs from one on. -/
def jF (h c : Nat) : List Jb := (List.range' h c).map (fun k : Nat => jI (k : Int))
theorem jF_len (h c : Nat) : (jF h c).length = c := by simp [jF]
theorem jF_snoc (h c : Nat) : jF h (c + 1) = jF h c ++ [jI ((h + c : Nat) : Int)] := by simp [jF, List.range'_concat]
theorem jF_cons (h c : Nat) : jF h (c + 1) = jI (h : Int) :: jF (h + 1) c := by simp [jF, List.range'_succ]
theorem jF_push (c : Nat) (hc : c < 128) : pushP (jF 0 c) (jI (c : Int)) = (0, jF 0 (c + 1)) := by
  unfold pushP
  rw [jF_len, if_neg (by omega), jF_snoc, Nat.zero_add]
theorem jF_full : pushP (jF 0 128) (jI 0) = (8, jF 0 128) := by
  unfold pushP
  rw [jF_len, if_pos rfl]
theorem jF_pop (h c : Nat) : takeP true (jF h (c + 1)) = ((jI ((h + c : Nat) : Int), 0), jF h c) := by
  unfold takeP
  rw [if_neg (fun e => by have := congrArg List.length e; rw [jF_len] at this; simp at this), if_pos rfl, jF_snoc]
  simp
theorem jF_steal (h c : Nat) : takeP false (jF h (c + 1)) = ((jI (h : Int), 0), jF (h + 1) c) := by
  unfold takeP
  rw [if_neg (fun e => by have := congrArg List.length e; rw [jF_len] at this; simp at this), if_neg (by decide), jF_cons]
  rfl

theorem l_none {N : Nat} {F : Nat → Prop} {w : World} {p : Nat} {h : Nat} (pop : Bool) (hd : LD N F w p (jF h 0)) :
    Calls Try.prog (if pop = true then 17 else 16) #[.pointer (some ⟨p, 0, none⟩)] w fun x w' => (∃ a n c, x = .returned (.tuple #[.agg #[.int .i64 0, .bool false, .int .i64 0, .bool false, .int .i64 0, .slice a n c], .int .i64 6])) ∧ LD N F w' p (jF h 0) ∧ Kp (Mv N F) w w' := by
  have := l_take hd pop (by rw [jF_len]; omega)
  have e : takeP pop (jF h 0) = ((zJ, 6), jF h 0) := by cases pop <;> rfl
  rw [e] at this
  refine Calls.mono this ?_
  rintro x w' ⟨sv, rfl, q1, q2, q3⟩
  obtain ⟨a, c, rfl, _⟩ := q1
  exact ⟨⟨a, _, c, rfl⟩, q2, q3⟩

/-- A deque that the law has, and what is kept ahead of it. -/
structure On (N : Nat) (w wr : World) (p : Nat) (L : List Jb) : Prop where
  d : LD N (fun _ => False) wr p L
  b : Below N w wr
theorem On.later {N : Nat} {w wr w' : World} {p : Nat} {L : List Jb} (h : On N w wr p L) (hb : Below wr.heap.size wr w') : On N w w' p L := ⟨h.d.later hb, h.b.trans (hb.mono h.d.le)⟩
theorem On.next {N : Nat} {w wr w' : World} {p : Nat} {L L' : List Jb} (h : On N w wr p L) (hd : LD N (fun _ => False) w' p L') (hk : Kp (Mv N (fun _ => False)) wr w') : On N w w' p L' := ⟨hd, h.b.trans (Mv.below hk h.d.le)⟩

set_option maxHeartbeats 8000000 in
theorem once_walk (n : Int) (a : Option Addr) (tn tc : Nat) (l : List UInt8) (w : World) (hn : (Lit.int .i64 n).wf = true) (hx : RB w (.slice a tn tc) l) :
    Calls Try.prog 4 #[.int .i64 n, .slice a tn tc] w fun e w' => e = .returned (.bool true) ∧ Below w.heap.size w w' := by
  have HN : Hid _ := l_new w
  obtain ⟨a', cap, he, hc, hm, hnone, hr⟩ := id hx
  have HRR : Hid (∀ i, i < l.length → ∃ b off, a = some ⟨b, off, none⟩ ∧ w.cell? ⟨b, off + i, none⟩ = some (.int .u8 ((l.getD i 0).toNat : Nat))) := by
    have e1 := (Value.slice.inj he).1
    subst e1
    exact hr
  have HLN : Hid (l.length = tn) := (Value.slice.inj he).2.1.symm
  have hc2 := (Value.slice.inj he).2.2
  have hnc : tn ≤ tc := by have := HLN.out; omega
  have hcm : tc ≤ maxLen := by omega
  have hmx : maxLen = 9223372036854775807 := rfl
  have HJ : Hid (∀ (i : Int) (wx : World), Calls Try.prog 15 #[.int .i64 i] wx fun e w' => e = .returned (.agg #[.int .i64 i, .bool false, .int .i64 0, .bool false, .int .i64 0, .slice none 0 0]) ∧ Below wx.heap.size wx w') := fun i wx => job_any i wx
  obtain ⟨N, hN⟩ : ∃ N, N = w.heap.size := ⟨_, rfl⟩
  have HNN : Hid (N = w.heap.size) := hN
  rw [← hN] at HN ⊢
  clear he hc hm hr hN hc2 hx hnone
  by_cases hv : 0 ≤ n ∧ n ≤ 128
  · obtain ⟨m, rfl⟩ : ∃ m : Nat, n = m := ⟨n.toNat, by omega⟩
    have hm128 : m ≤ 128 := by omega
    go_enter Try.func4, Try.ntmps4
    go_wp2_with fail
    refine Calls.mono HN.out ?_
    rintro e w1 ⟨p, rfl, hd1, hb1⟩
    have HO1 : Hid (On N w w1 p (jF 0 0)) := ⟨hd1, hb1⟩
    clear hd1 hb1 HN
    go_wp2_with fail
    go_loopw [6] (fun s6 wr => ∃ i : Nat, s6 = .int .i64 i ∧ i ≤ m ∧ Hid (On N w wr p (jF 0 i))) (fun s6 _ => m - (intOf s6).toNat)
    case atStart => exact ⟨0, rfl, Nat.zero_le _, HO1⟩
    case round =>
      obtain ⟨i, rfl, hi, HO⟩ := hrel
      rename World => wr
      by_cases hlt : i < m
      · have hji : (i : Int) < (m : Int) := by omega
        go_wp2_with fail
        refine Calls.mono (HJ.out (i : Int) wr) ?_
        rintro e w2 ⟨rfl, hb2⟩
        have HO2 : Hid _ := HO.out.later hb2
        have HP : Hid _ := l_job (i : Int) HO2.out.d (by rw [jF_len]; omega) (jF_push i (by omega))
        clear hb2 HO
        go_wp2_with fail
        refine Calls.mono HP.out ?_
        rintro e w3 ⟨rfl, hd3, hk3⟩
        have HO3 : Hid _ := HO2.out.next hd3 hk3
        clear hd3 hk3 HP HO2
        go_wp2_with fail
        go_roundw
        case rel => exact ⟨i + 1, by go_num, by omega, HO3⟩
        case measure => simp [intOf]; omega
      · have him : i = m := by omega
        subst him
        have HLp : Hid (∀ wx, On N w wx p (jF 0 i) → i = 128 → Calls Try.prog 14 #[.pointer (some ⟨p, 0, none⟩), .agg #[.int .i64 0, .bool false, .int .i64 0, .bool false, .int .i64 0, .slice none 0 0]] wx fun x w' => x = .returned (.int .i64 8) ∧ LD N (fun _ => False) w' p (jF 0 i) ∧ Kp (Mv N (fun _ => False)) wx w') := fun wx h h9 => by
          subst h9
          exact l_job 0 h.d (by rw [jF_len]; omega) jF_full
        have REST : ∀ wr, On N w wr p (jF 0 i) → Hid (On N w wr p (jF 0 i)) := fun _ h => h
        by_cases h128 : i = 128
        · have h1 : (i : Int) = 128 := by omega
          have h2 : ((i : Int) == 128) = true := by simpa using h1
          go_wp2_with fail
          refine Calls.mono (HJ.out 0 wr) ?_
          rintro e w2 ⟨rfl, hb2⟩
          have HO2 : Hid _ := HO.out.later hb2
          have HP : Hid _ := HLp.out w2 HO2.out h128
          clear hb2 HO HLp
          go_wp2_with fail
          refine Calls.mono HP.out ?_
          rintro e w3 ⟨rfl, hd3, hk3⟩
          have HO3 : Hid (On N w w3 p (jF 0 i)) := HO2.out.next hd3 hk3
          clear hd3 hk3 HP HO2
          go_wp2_with fail
          go_loopw [9, 7, 8] (fun s9 s7 s8 wq => ∃ (k h : Nat), s9 = .int .i64 k ∧ k ≤ i ∧ h ≤ k ∧ s8 = .int .i64 h ∧ s7 = .int .i64 ((h : Int) + (i : Int) - (k : Int) - 1) ∧ Hid (On N w wq p (jF h (i - k)))) (fun s9 _ _ _ => i - (intOf s9).toNat)
          case atStart => exact ⟨0, 0, rfl, Nat.zero_le _, Nat.le_refl _, rfl, by go_num, HO3⟩
          case round =>
            obtain ⟨k, h, rfl, hk, hhk, rfl, rfl, HO⟩ := hrel
            rename World => wq
            by_cases hki : k < i
            · have hkI : (k : Int) < (i : Int) := by omega
              obtain ⟨c0, hc0⟩ : ∃ c0, i - k = c0 + 1 := ⟨i - k - 1, by omega⟩
              have HC0 : Hid (i - (k + 1) = c0) := by show _ = _; omega
              have HS : Hid (Calls Try.prog 16 #[.pointer (some ⟨p, 0, none⟩)] wq fun x w' => (∃ a n c, x = .returned (.tuple #[.agg #[.int .i64 (h : Int), .bool false, .int .i64 0, .bool false, .int .i64 0, .slice a n c], .int .i64 0])) ∧ LD N (fun _ => False) w' p (jF (h + 1) c0) ∧ Kp (Mv N (fun _ => False)) wq w') :=
                l_one false HO.out.d (by rw [jF_len]; omega) (by rw [hc0]; exact jF_steal h c0)
              have HT : Hid (Calls Try.prog 17 #[.pointer (some ⟨p, 0, none⟩)] wq fun x w' => (∃ a n c, x = .returned (.tuple #[.agg #[.int .i64 ((h : Int) + (i : Int) - (k : Int) - 1), .bool false, .int .i64 0, .bool false, .int .i64 0, .slice a n c], .int .i64 0])) ∧ LD N (fun _ => False) w' p (jF h c0) ∧ Kp (Mv N (fun _ => False)) wq w') := by
                have h9 := l_one true HO.out.d (by rw [jF_len]; omega) (by rw [hc0]; exact jF_pop h c0)
                rw [show ((h + c0 : Nat) : Int) = (h : Int) + (i : Int) - (k : Int) - 1 by omega] at h9
                exact h9
              have HOq : Hid _ := HO.out
              have hz : ∃ z : Int, z = (h : Int) + (i : Int) - (k : Int) - 1 := ⟨_, rfl⟩
              obtain ⟨z, hz⟩ := hz
              have HZ : Hid (z = (h : Int) + (i : Int) - (k : Int) - 1) := hz
              rw [← hz] at HT
              simp only [← hz]
              have hzb : -1 ≤ z ∧ z ≤ 1000 := by omega
              clear hc0 HO hz
              by_cases htk : k < tn
              · obtain ⟨b, off, rfl, d⟩ := HRR.out k (by rw [HLN.out]; exact htk)
                have hkt : (k : Int) < (tn : Int) := by omega
                have d' := cell_later (HNN.out ▸ HOq.out.b) d
                have hu := byte_lt' (l.getD k 0)
                generalize (l.getD k 0).toNat = u at *
                clear d
                by_cases hodd : u % 2 = 1
                · have o1 : (u : Int) % 2 = 1 := by omega
                  have o2 : ((u : Int).tmod 2 == 1) = true := by rw [Int.tmod_eq_emod_of_nonneg (by omega), o1]; rfl
                  go_wp2_with fail
                  refine Calls.mono HS.out ?_
                  rintro e w4 ⟨⟨sa, sn, sc, rfl⟩, hd4, hk4⟩
                  have HO4 : Hid (On N w (w4.alloc (.cells #[.int .i64 (h : Int), .bool false, .int .i64 0, .bool false, .int .i64 0, .slice sa sn sc] 35)) p (jF (h + 1) c0)) := (HOq.out.next hd4 hk4).later (bl1 w4 _)
                  clear hd4 hk4 HS HT HOq
                  go_wp2_with fail
                  go_roundw
                  case rel => exact ⟨k + 1, (h + 1), by go_num, by omega, by omega, by go_num, by rw [HZ.out]; go_num, by rw [HC0.out]; exact HO4⟩
                  case measure => simp [intOf]; omega
                · have o1 : ¬ (u : Int) % 2 = 1 := by omega
                  have o2 : ((u : Int).tmod 2 == 1) = false := by rw [Int.tmod_eq_emod_of_nonneg (by omega)]; simpa using o1
                  go_wp2_with fail
                  refine Calls.mono HT.out ?_
                  rintro e w4 ⟨⟨sa, sn, sc, rfl⟩, hd4, hk4⟩
                  have HO4 : Hid (On N w (w4.alloc (.cells #[.int .i64 z, .bool false, .int .i64 0, .bool false, .int .i64 0, .slice sa sn sc] 35)) p (jF h c0)) := (HOq.out.next hd4 hk4).later (bl1 w4 _)
                  clear hd4 hk4 HS HT HOq
                  go_wp2_with fail
                  go_roundw
                  case rel => exact ⟨k + 1, h, by go_num, by omega, by omega, rfl, by rw [HZ.out]; go_num, by rw [HC0.out]; exact HO4⟩
                  case measure => simp [intOf]; omega
              · have hkt : ¬ (k : Int) < (tn : Int) := by omega
                go_wp2_with fail
                refine Calls.mono HT.out ?_
                rintro e w4 ⟨⟨sa, sn, sc, rfl⟩, hd4, hk4⟩
                have HO4 : Hid (On N w (w4.alloc (.cells #[.int .i64 z, .bool false, .int .i64 0, .bool false, .int .i64 0, .slice sa sn sc] 35)) p (jF h c0)) := (HOq.out.next hd4 hk4).later (bl1 w4 _)
                clear hd4 hk4 HS HT HOq
                go_wp2_with fail
                go_roundw
                case rel => exact ⟨k + 1, h, by go_num, by omega, by omega, rfl, by rw [HZ.out]; go_num, by rw [HC0.out]; exact HO4⟩
                case measure => simp [intOf]; omega
            · have hki2 : k = i := by omega
              subst hki2
              have HO0 : Hid (On N w wq p (jF h 0)) := by
                have h9 := HO.out
                rw [Nat.sub_self] at h9
                exact h9
              have HE1 : Hid _ := l_none true HO0.out.d
              clear HO
              go_wp2_with fail
              refine Calls.mono HE1.out ?_
              rintro e w5 ⟨⟨sa, sn, sc, rfl⟩, hd5, hk5⟩
              have HO5 : Hid _ := (HO0.out.next hd5 hk5).later (bl1 w5 (.cells #[.int .i64 0, .bool false, .int .i64 0, .bool false, .int .i64 0, .slice sa sn sc] 35))
              have HE2 : Hid _ := l_none false HO5.out.d
              clear hd5 hk5 HE1 HO0
              go_wp2_with fail
              refine Calls.mono HE2.out ?_
              rintro e w6 ⟨⟨ta, tn6, tc6, rfl⟩, hd6, hk6⟩
              have HO6 : Hid _ := (HO5.out.next hd6 hk6).later (bl1 w6 (.cells #[.int .i64 0, .bool false, .int .i64 0, .bool false, .int .i64 0, .slice ta tn6 tc6] 35))
              have HE3 : Hid _ := l_len HO6.out.d (by rw [jF_len]; omega)
              rw [jF_len] at HE3
              clear hd6 hk6 HE2 HO5
              go_wp2_with fail
              refine Calls.mono HE3.out ?_
              rintro e w7 ⟨rfl, hd7, hb7⟩
              have HO7 : Hid _ := HO6.out.later hb7
              have HE4 : Hid _ := lives_any w7
              clear hd7 hb7 HE3 HO6
              go_wp2_with fail
              refine Calls.mono HE4.out ?_
              rintro e w8 ⟨rfl, hb8⟩
              have HB8 : Hid (Below N w w8) := HO7.out.b.trans (hb8.mono HO7.out.d.le)
              clear hb8 HE4 HO7
              go_wp2_with fail
              go_ret
              exact ⟨rfl, HB8.out⟩
        · have h1 : ¬ (i : Int) = 128 := by omega
          have h2 : ((i : Int) == 128) = false := by simpa using h1
          have HO3 : Hid (On N w wr p (jF 0 i)) := HO.out
          clear HO HLp
          go_wp2_with fail
          go_loopw [9, 7, 8] (fun s9 s7 s8 wq => ∃ (k h : Nat), s9 = .int .i64 k ∧ k ≤ i ∧ h ≤ k ∧ s8 = .int .i64 h ∧ s7 = .int .i64 ((h : Int) + (i : Int) - (k : Int) - 1) ∧ Hid (On N w wq p (jF h (i - k)))) (fun s9 _ _ _ => i - (intOf s9).toNat)
          case atStart => exact ⟨0, 0, rfl, Nat.zero_le _, Nat.le_refl _, rfl, by go_num, HO3⟩
          case round =>
            obtain ⟨k, h, rfl, hk, hhk, rfl, rfl, HO⟩ := hrel
            rename World => wq
            by_cases hki : k < i
            · have hkI : (k : Int) < (i : Int) := by omega
              obtain ⟨c0, hc0⟩ : ∃ c0, i - k = c0 + 1 := ⟨i - k - 1, by omega⟩
              have HC0 : Hid (i - (k + 1) = c0) := by show _ = _; omega
              have HS : Hid (Calls Try.prog 16 #[.pointer (some ⟨p, 0, none⟩)] wq fun x w' => (∃ a n c, x = .returned (.tuple #[.agg #[.int .i64 (h : Int), .bool false, .int .i64 0, .bool false, .int .i64 0, .slice a n c], .int .i64 0])) ∧ LD N (fun _ => False) w' p (jF (h + 1) c0) ∧ Kp (Mv N (fun _ => False)) wq w') :=
                l_one false HO.out.d (by rw [jF_len]; omega) (by rw [hc0]; exact jF_steal h c0)
              have HT : Hid (Calls Try.prog 17 #[.pointer (some ⟨p, 0, none⟩)] wq fun x w' => (∃ a n c, x = .returned (.tuple #[.agg #[.int .i64 ((h : Int) + (i : Int) - (k : Int) - 1), .bool false, .int .i64 0, .bool false, .int .i64 0, .slice a n c], .int .i64 0])) ∧ LD N (fun _ => False) w' p (jF h c0) ∧ Kp (Mv N (fun _ => False)) wq w') := by
                have h9 := l_one true HO.out.d (by rw [jF_len]; omega) (by rw [hc0]; exact jF_pop h c0)
                rw [show ((h + c0 : Nat) : Int) = (h : Int) + (i : Int) - (k : Int) - 1 by omega] at h9
                exact h9
              have HOq : Hid _ := HO.out
              have hz : ∃ z : Int, z = (h : Int) + (i : Int) - (k : Int) - 1 := ⟨_, rfl⟩
              obtain ⟨z, hz⟩ := hz
              have HZ : Hid (z = (h : Int) + (i : Int) - (k : Int) - 1) := hz
              rw [← hz] at HT
              simp only [← hz]
              have hzb : -1 ≤ z ∧ z ≤ 1000 := by omega
              clear hc0 HO hz
              by_cases htk : k < tn
              · obtain ⟨b, off, rfl, d⟩ := HRR.out k (by rw [HLN.out]; exact htk)
                have hkt : (k : Int) < (tn : Int) := by omega
                have d' := cell_later (HNN.out ▸ HOq.out.b) d
                have hu := byte_lt' (l.getD k 0)
                generalize (l.getD k 0).toNat = u at *
                clear d
                by_cases hodd : u % 2 = 1
                · have o1 : (u : Int) % 2 = 1 := by omega
                  have o2 : ((u : Int).tmod 2 == 1) = true := by rw [Int.tmod_eq_emod_of_nonneg (by omega), o1]; rfl
                  go_wp2_with fail
                  refine Calls.mono HS.out ?_
                  rintro e w4 ⟨⟨sa, sn, sc, rfl⟩, hd4, hk4⟩
                  have HO4 : Hid (On N w (w4.alloc (.cells #[.int .i64 (h : Int), .bool false, .int .i64 0, .bool false, .int .i64 0, .slice sa sn sc] 35)) p (jF (h + 1) c0)) := (HOq.out.next hd4 hk4).later (bl1 w4 _)
                  clear hd4 hk4 HS HT HOq
                  go_wp2_with fail
                  go_roundw
                  case rel => exact ⟨k + 1, (h + 1), by go_num, by omega, by omega, by go_num, by rw [HZ.out]; go_num, by rw [HC0.out]; exact HO4⟩
                  case measure => simp [intOf]; omega
                · have o1 : ¬ (u : Int) % 2 = 1 := by omega
                  have o2 : ((u : Int).tmod 2 == 1) = false := by rw [Int.tmod_eq_emod_of_nonneg (by omega)]; simpa using o1
                  go_wp2_with fail
                  refine Calls.mono HT.out ?_
                  rintro e w4 ⟨⟨sa, sn, sc, rfl⟩, hd4, hk4⟩
                  have HO4 : Hid (On N w (w4.alloc (.cells #[.int .i64 z, .bool false, .int .i64 0, .bool false, .int .i64 0, .slice sa sn sc] 35)) p (jF h c0)) := (HOq.out.next hd4 hk4).later (bl1 w4 _)
                  clear hd4 hk4 HS HT HOq
                  go_wp2_with fail
                  go_roundw
                  case rel => exact ⟨k + 1, h, by go_num, by omega, by omega, rfl, by rw [HZ.out]; go_num, by rw [HC0.out]; exact HO4⟩
                  case measure => simp [intOf]; omega
              · have hkt : ¬ (k : Int) < (tn : Int) := by omega
                go_wp2_with fail
                refine Calls.mono HT.out ?_
                rintro e w4 ⟨⟨sa, sn, sc, rfl⟩, hd4, hk4⟩
                have HO4 : Hid (On N w (w4.alloc (.cells #[.int .i64 z, .bool false, .int .i64 0, .bool false, .int .i64 0, .slice sa sn sc] 35)) p (jF h c0)) := (HOq.out.next hd4 hk4).later (bl1 w4 _)
                clear hd4 hk4 HS HT HOq
                go_wp2_with fail
                go_roundw
                case rel => exact ⟨k + 1, h, by go_num, by omega, by omega, rfl, by rw [HZ.out]; go_num, by rw [HC0.out]; exact HO4⟩
                case measure => simp [intOf]; omega
            · have hki2 : k = i := by omega
              subst hki2
              have HO0 : Hid (On N w wq p (jF h 0)) := by
                have h9 := HO.out
                rw [Nat.sub_self] at h9
                exact h9
              have HE1 : Hid _ := l_none true HO0.out.d
              clear HO
              go_wp2_with fail
              refine Calls.mono HE1.out ?_
              rintro e w5 ⟨⟨sa, sn, sc, rfl⟩, hd5, hk5⟩
              have HO5 : Hid _ := (HO0.out.next hd5 hk5).later (bl1 w5 (.cells #[.int .i64 0, .bool false, .int .i64 0, .bool false, .int .i64 0, .slice sa sn sc] 35))
              have HE2 : Hid _ := l_none false HO5.out.d
              clear hd5 hk5 HE1 HO0
              go_wp2_with fail
              refine Calls.mono HE2.out ?_
              rintro e w6 ⟨⟨ta, tn6, tc6, rfl⟩, hd6, hk6⟩
              have HO6 : Hid _ := (HO5.out.next hd6 hk6).later (bl1 w6 (.cells #[.int .i64 0, .bool false, .int .i64 0, .bool false, .int .i64 0, .slice ta tn6 tc6] 35))
              have HE3 : Hid _ := l_len HO6.out.d (by rw [jF_len]; omega)
              rw [jF_len] at HE3
              clear hd6 hk6 HE2 HO5
              go_wp2_with fail
              refine Calls.mono HE3.out ?_
              rintro e w7 ⟨rfl, hd7, hb7⟩
              have HO7 : Hid _ := HO6.out.later hb7
              have HE4 : Hid _ := lives_any w7
              clear hd7 hb7 HE3 HO6
              go_wp2_with fail
              refine Calls.mono HE4.out ?_
              rintro e w8 ⟨rfl, hb8⟩
              have HB8 : Hid (Below N w w8) := HO7.out.b.trans (hb8.mono HO7.out.d.le)
              clear hb8 HE4 HO7
              go_wp2_with fail
              go_ret
              exact ⟨rfl, HB8.out⟩
  · have HLv : Hid (∀ wx, Calls Try.prog 9 #[] wx fun e w' => e = .returned (.bool true) ∧ Below wx.heap.size wx w') := fun wx => lives_any wx
    by_cases hneg : n < 0
    · go_enter Try.func4, Try.ntmps4
      go_wp2_with fail
      refine Calls.mono HN.out ?_
      rintro e w1 ⟨p, rfl, hd1, hb1⟩
      have HB1 : Hid (Below N w w1) := hb1
      have HS1 : Hid (N ≤ w1.heap.size) := hd1.le
      clear hd1 hb1 HN
      go_wp2_with fail
      refine Calls.mono (HLv.out w1) ?_
      rintro e w2 ⟨rfl, hb2⟩
      have HB2 : Hid (Below N w w2) := HB1.out.trans (hb2.mono HS1.out)
      clear hb2
      go_wp2_with fail
      go_ret
      exact ⟨rfl, HB2.out⟩
    · have hg : (128 : Int) < n := by omega
      go_enter Try.func4, Try.ntmps4
      go_wp2_with fail
      refine Calls.mono HN.out ?_
      rintro e w1 ⟨p, rfl, hd1, hb1⟩
      have HB1 : Hid (Below N w w1) := hb1
      have HS1 : Hid (N ≤ w1.heap.size) := hd1.le
      clear hd1 hb1 HN
      go_wp2_with fail
      refine Calls.mono (HLv.out w1) ?_
      rintro e w2 ⟨rfl, hb2⟩
      have HB2 : Hid (Below N w w2) := HB1.out.trans (hb2.mono HS1.out)
      clear hb2
      go_wp2_with fail
      go_ret
      exact ⟨rfl, HB2.out⟩
end Go.Proofs.Ythbckfncpnobcaa
