/- A walk over the scan's 'take', continued: marks, names, and what can't be. -/
import Derived.Test.YtchdecoceokcmaaWQ
namespace Go.Proofs.Ytchdecoceokcmaa
open Go.RowKit
set_option linter.unusedVariables false

set_option maxRecDepth 1000000 in
set_option maxHeartbeats 2000000 in
theorem take_other (b B : Nat) (s : ByteArray) (v : Value) (st : Sc) (at_ : Nat) (c K : Int) (hc : isCp c = true) (hlo : 0 ≤ c) (hhi : c ≤ 1114111) (h35 : (c == 35) = false) (hk : kl c = K) (k1 : (K == 1) = false) (k2 : (K == 2) = false) (k3 : (K == 3) = false) (hm : isMark c = false) (w : World) (h : ScanAt w b B s v st) (hr : st.remark = false) :
    Calls Try.prog 22 #[.pointer (some ⟨b, 0, none⟩), .int .i64 at_, .int .i32 c] w fun e w' => Took b B s w (.err at_ 10) e w' := by
  obtain ⟨c0, c1, c2, c3, hf⟩ := h.cells
  rw [hr] at c3
  have HK : Hid (kl c = K) := hk
  have HM : Hid (isMark c = false) := hm
  have HC : Hid (isCp c = true) := hc
  clear hk hm hc
  go_enter Try.func22, Try.ntmps22
  go_wp2_with (first
    | (go_at_call 31; refine (gclass_b c K HK.out _).mono ?_; rintro e w1 ⟨rfl, hb1⟩)
    | (go_at_call 32; refine (has_mark c HC.out _).mono ?_; rintro e w2 ⟨rfl, hb2⟩; rw [HM.out]))
  obtain ⟨h1, k1⟩ := h.later hb1
  obtain ⟨h2, k2⟩ := h1.later hb2
  go_ret2
  exact ⟨rfl, k1.trans k2⟩

set_option maxRecDepth 1000000 in
set_option maxHeartbeats 2000000 in
theorem take_digit (b B : Nat) (s : ByteArray) (v : Value) (st : Sc) (at_ : Nat) (c : Int) (hc : isCp c = true) (hlo : 0 ≤ c) (hhi : c ≤ 1114111) (h35 : (c == 35) = false) (hk : kl c = 2) (hm : isMark c = false) (w : World) (h : ScanAt w b B s v st) (hr : st.remark = false) (hn : st.cur = none) :
    Calls Try.prog 22 #[.pointer (some ⟨b, 0, none⟩), .int .i64 at_, .int .i32 c] w fun e w' => Took b B s w (.err at_ 10) e w' := by
  obtain ⟨c0, c1, c2, c3, hf⟩ := h.cells
  rw [hr] at c3
  have HK : Hid (kl c = 2) := hk
  have HM : Hid (isMark c = false) := hm
  have HC : Hid (isCp c = true) := hc
  have HN : Hid (st.cur.isSome = false) := by show _ = _; rw [hn]; rfl
  clear hk hm hc hn
  go_enter Try.func22, Try.ntmps22
  go_wp2_with (first
    | (go_at_call 31; refine (gclass_b c 2 HK.out _).mono ?_; rintro e w1 ⟨rfl, hb1⟩)
    | (go_at_call 32; refine (has_mark c HC.out _).mono ?_; rintro e w2 ⟨rfl, hb2⟩; rw [HM.out]; obtain ⟨h1, k1⟩ := h.later hb1; obtain ⟨h2, k2⟩ := h1.later hb2; obtain ⟨d0, d1, d2, d3, hg⟩ := h2.cells; rw [HN.out] at d2))
  go_ret2
  exact ⟨rfl, k1.trans k2⟩

set_option maxRecDepth 1000000 in
set_option maxHeartbeats 2000000 in
theorem take_letter (b B : Nat) (s : ByteArray) (v : Value) (st : Sc) (at_ : Nat) (c : Int) (o : Out) (hc : isCp c = true) (hlo : 0 ≤ c) (hhi : c ≤ 1114111) (h35 : (c == 35) = false) (hk : kl c = 1) (hm : isMark c = false) (w : World) (h : ScanAt w b B s v st) (hr : st.remark = false)
    (hs : at_ + (enc c).length ≤ 100000)
    (hl : ∀ w2, ScanAt w2 b B s v st → Calls Try.prog 33 #[.pointer (some ⟨b, 0, none⟩), .int .i64 at_, .int .i64 ((at_ + (enc c).length : Nat) : Int)] w2 fun e w' => Took b B s w2 o e w') :
    Calls Try.prog 22 #[.pointer (some ⟨b, 0, none⟩), .int .i64 at_, .int .i32 c] w fun e w' => Took b B s w o e w' := by
  obtain ⟨c0, c1, c2, c3, hf⟩ := h.cells
  rw [hr] at c3
  have HK : Hid (kl c = 1) := hk
  have HM : Hid (isMark c = false) := hm
  have HC : Hid (isCp c = true) := hc
  have HW : Hid (wid c = ((enc c).length : Int)) := (enc_len c hc).symm
  have HL : Hid _ := hl
  clear hk hm hc hl
  generalize (enc c).length = k at *
  go_enter Try.func22, Try.ntmps22
  go_wp2_with (first
    | (go_at_call 31; refine (gclass_b c 1 HK.out _).mono ?_; rintro e w1 ⟨rfl, hb1⟩)
    | (go_at_call 32; refine (has_mark c HC.out _).mono ?_; rintro e w2 ⟨rfl, hb2⟩; rw [HM.out])
    )
  refine (gwidth_any _ _).mono ?_
  rintro e w3 ⟨rfl, hw3⟩
  have hb3 : Below w2.heap.size w2 w3 := by rw [hw3]; exact (Below.refl _ _).alloc (Nat.le_refl _) _
  clear hw3
  rw [HW.out]
  obtain ⟨h1, k1⟩ := h.later hb1
  obtain ⟨h2, k2⟩ := h1.later hb2
  obtain ⟨h3, k3⟩ := h2.later hb3
  go_wp2_with fail
  refine (HL.out _ h3).mono ?_
  rintro e w4 hT
  cases o with
  | ok st' =>
    obtain ⟨rfl, hv, hk⟩ := hT
    have HV : Hid _ := hv
    clear hv
    go_wp2
    go_ret2
    exact ⟨rfl, HV.out, ((k1.trans k2).trans k3).trans hk⟩
  | err p x =>
    obtain ⟨rfl, hk⟩ := hT
    go_wp2
    go_ret2
    exact ⟨rfl, ((k1.trans k2).trans k3).trans hk⟩

set_option maxRecDepth 1000000 in
set_option maxHeartbeats 2000000 in
theorem take_more (b B : Nat) (s : ByteArray) (v : Value) (st : Sc) (at_ : Nat) (c : Int) (o : Out) (hc : isCp c = true) (hlo : 0 ≤ c) (hhi : c ≤ 1114111) (h35 : (c == 35) = false) (hk : kl c = 2) (hm : isMark c = false) (w : World) (h : ScanAt w b B s v st) (hr : st.remark = false) (hn : st.cur.isSome = true)
    (hs : at_ + (enc c).length ≤ 100000)
    (hl : ∀ w2, ScanAt w2 b B s v st → Calls Try.prog 33 #[.pointer (some ⟨b, 0, none⟩), .int .i64 at_, .int .i64 ((at_ + (enc c).length : Nat) : Int)] w2 fun e w' => Took b B s w2 o e w') :
    Calls Try.prog 22 #[.pointer (some ⟨b, 0, none⟩), .int .i64 at_, .int .i32 c] w fun e w' => Took b B s w o e w' := by
  obtain ⟨c0, c1, c2, c3, hf⟩ := h.cells
  rw [hr] at c3
  have HK : Hid (kl c = 2) := hk
  have HM : Hid (isMark c = false) := hm
  have HC : Hid (isCp c = true) := hc
  have HW : Hid (wid c = ((enc c).length : Int)) := (enc_len c hc).symm
  have HL : Hid _ := hl
  have HN : Hid (st.cur.isSome = true) := hn
  clear hk hm hc hl hn
  generalize (enc c).length = k at *
  go_enter Try.func22, Try.ntmps22
  go_wp2_with (first
    | (go_at_call 31; refine (gclass_b c 2 HK.out _).mono ?_; rintro e w1 ⟨rfl, hb1⟩)
    | (go_at_call 32; refine (has_mark c HC.out _).mono ?_; rintro e w2 ⟨rfl, hb2⟩; rw [HM.out]; obtain ⟨h1, k1⟩ := h.later hb1; obtain ⟨h2, k2⟩ := h1.later hb2; obtain ⟨d0, d1, d2, d3, hg⟩ := h2.cells; rw [HN.out] at d2)
    )
  refine (gwidth_any _ _).mono ?_
  rintro e w3 ⟨rfl, hw3⟩
  have hb3 : Below w2.heap.size w2 w3 := by rw [hw3]; exact (Below.refl _ _).alloc (Nat.le_refl _) _
  clear hw3
  rw [HW.out]
  obtain ⟨h3, k3⟩ := h2.later hb3
  go_wp2_with fail
  refine (HL.out _ h3).mono ?_
  rintro e w4 hT
  cases o with
  | ok st' =>
    obtain ⟨rfl, hv, hk⟩ := hT
    have HV : Hid _ := hv
    clear hv
    go_wp2
    go_ret2
    exact ⟨rfl, HV.out, ((k1.trans k2).trans k3).trans hk⟩
  | err p x =>
    obtain ⟨rfl, hk⟩ := hT
    go_wp2
    go_ret2
    exact ⟨rfl, ((k1.trans k2).trans k3).trans hk⟩
end Go.Proofs.Ytchdecoceokcmaa
