/- A walk over the scan's 'take', the end: marks; and all its ways together. -/
import Derived.Test.YtchdecoceokcmaaWR
namespace Go.Proofs.Ytchdecoceokcmaa
open Go.RowKit
set_option linter.unusedVariables false

set_option maxRecDepth 1000000 in
set_option maxHeartbeats 2000000 in
theorem take_mark (b B : Nat) (s : ByteArray) (v : Value) (st : Sc) (at_ : Nat) (c : Int) (hc : isCp c = true) (hlo : 0 ≤ c) (hhi : c ≤ 1114111) (h35 : (c == 35) = false) (hk : kl c = 4) (hm : isMark c = true) (w : World) (h : ScanAt w b B s v st) (hr : st.remark = false) (hs : at_ ≤ 100000) (hdl : st.toks.length ≤ 100000) :
    Calls Try.prog 22 #[.pointer (some ⟨b, 0, none⟩), .int .i64 at_, .int .i32 c] w fun e w' => Took b B s w (.ok ⟨st.toks ++ [⟨2, enc c, at_⟩], none, false⟩) e w' := by
  obtain ⟨c0, c1, c2, c3, hf⟩ := h.cells
  rw [hr] at c3
  have HK : Hid (kl c = 4) := hk
  have HM : Hid (isMark c = true) := hm
  have HC : Hid (isCp c = true) := hc
  have hcv : ∀ w, (convert 21 9 (.int .i32 c)).run Try.prog w = .ok (.string ⟨(enc c).toArray⟩) w := by
    intro w
    rw [run_convert_int_string w 21 9 .i32 c (by kernel_rfl) Try.underlying9, encode_cp _ hc]
  clear hk hm hc
  have hlt := h.lt
  generalize enc c = x at *
  go_enter Try.func22, Try.ntmps22
  go_wp2_with (first
    | (go_at_call 31; refine (gclass_b c 4 HK.out _).mono ?_; rintro e w1 ⟨rfl, hb1⟩)
    | (go_at_call 32; refine (has_mark c HC.out _).mono ?_; rintro e w2 ⟨rfl, hb2⟩; rw [HM.out]; obtain ⟨h1, k1⟩ := h.later hb1; obtain ⟨h2, k2⟩ := h1.later hb2; obtain ⟨d0, d1, d2, d3, hg⟩ := h2.cells; rw [hr] at d3)
    | (at_builtin; refine append_tok rfl _ _ rfl B _ st.toks rfl ((ownsRow_setCell_below h2.own hlt (.bool false)).alloc _) ⟨2, x, at_⟩ ⟨w2.heap.size, 0, none⟩ rfl (cells_set w2 _ _ _ _ _) hdl (by have := h2.le; simp; omega) ?_; intro g cap w3 ho3 hgrow3; obtain ⟨hb3, hk3, hb4, ho4⟩ := scan_push (t := ⟨2, x, at_⟩) h2.stop.blk (ownsRow_setCell_below h2.own hlt (.bool false)) hlt (by have := h2.le; simpa using this) ho3 hgrow3; have e0 := cell_blk hb3 0; have e1 := cell_blk hb3 1; have e2 := cell_blk hb3 2; simp at e0 e1 e2; have hfb : ∀ j, w3.frozen? ⟨b, j, none⟩ = false := fun j => frozen_of_row w3 b j _ 46 hb3))
  have hz3 := hk3.size
  have hle2 := h2.le
  go_ret2
  refine ⟨rfl, ⟨.slice (some ⟨g, 0, none⟩) (st.toks.length + 1) cap, ⟨?_, ?_, hlt, ?_⟩⟩, ((k1.trans k2).trans (KB.setCell b B w2 2 (.bool false))).trans (hk3.trans (KB.setCell b B w3 1 _))⟩
  · have := hb4 (.slice (some ⟨g, 0, none⟩) (st.toks.length + 1) cap)
    rw [hr] at this
    exact this
  · have := ho4 (.slice (some ⟨g, 0, none⟩) (st.toks.length + 1) cap)
    have e : Sc.toks ⟨st.toks ++ [⟨2, x, at_⟩], none, false⟩ = st.toks ++ [⟨2, x, at_⟩] := by simp [Sc.toks, curToks]
    rw [e]
    exact this
  · simp at hz3 ⊢
    omega

theorem take_any (b B : Nat) (s : ByteArray) (v : Value) (st : Sc) (at_ : Nat) (c : Int) (hc : isCp c = true) (w : World) (h : ScanAt w b B s v st) (hs : s.size ≤ 100000) (hat : at_ + (enc c).length ≤ s.size) (hdl : st.toks.length ≤ 100000)
    (hx0 : s.extract at_ (at_ + (enc c).length) = ⟨(enc c).toArray⟩) (hx : ∀ p t, st.cur = some (p, t) → p ≤ at_ ∧ s.extract p (at_ + (enc c).length) = ⟨(t ++ enc c).toArray⟩) :
    Calls Try.prog 22 #[.pointer (some ⟨b, 0, none⟩), .int .i64 at_, .int .i32 c] w fun e w' => Took b B s w (stepS st at_ c) e w' := by
  obtain ⟨hlo, hhi, _⟩ := (isCp_iff c).1 hc
  have hep := enc_pos c hc
  have hbeq : ∀ k : Int, c ≠ k → (c == k) = false := fun k hk => by rw [beq_eq_false_iff_ne]; exact hk
  have hdone : st.done.length ≤ 100000 := by
    have : st.toks.length = st.done.length + (curToks st.cur).length := by simp [Sc.toks]
    omega
  have hlet : st.remark = false → ∀ w2, ScanAt w2 b B s v st → Calls Try.prog 33 #[.pointer (some ⟨b, 0, none⟩), .int .i64 at_, .int .i64 ((at_ + (enc c).length : Nat) : Int)] w2 fun e w' => Took b B s w2 (letterS st at_ c) e w' := by
    intro hr w2 h2
    obtain ⟨done, cur, rem⟩ := st
    simp only at hr hx hdone
    subst hr
    cases cur with
    | none => exact letter_new b B s v done (enc c) at_ (enc c).length w2 h2 hs hat hep.2 hdone hx0
    | some q =>
      obtain ⟨p, t⟩ := q
      obtain ⟨hp, hxx⟩ := hx p t rfl
      unfold letterS
      simp only
      by_cases hbig : p + 24 < at_ + (enc c).length
      · rw [if_pos hbig]
        exact letter_big b B s v done p t at_ (enc c).length w2 h2 (by omega) (by omega) hbig hdone
      · rw [if_neg hbig]
        exact letter_more b B s v done p t (t ++ enc c) at_ (enc c).length w2 h2 (by omega) hs hat hbig hdone hxx
  unfold stepS
  split
  · rename_i hr
    exact take_remark b B s v st at_ c w h hr
  rename_i hr
  have hr : st.remark = false := by simpa using hr
  split
  · rename_i h35
    exact take_open b B s v st at_ c h35 w h hr
  rename_i h35
  split
  · rename_i h3
    exact take_blank b B s v st at_ c hlo hhi (hbeq 35 h35) h3 w h hr
  rename_i h3
  split
  · rename_i hm
    exact take_mark b B s v st at_ c hc hlo hhi (hbeq 35 h35) (kl_mark c hm).1 hm w h hr (by omega) hdl
  rename_i hm
  have hm : isMark c = false := by simpa using hm
  split
  · rename_i h2
    split
    · rename_i hn
      exact take_digit b B s v st at_ c hc hlo hhi (hbeq 35 h35) h2 hm w h hr hn
    · rename_i q hn
      exact take_more b B s v st at_ c _ hc hlo hhi (hbeq 35 h35) h2 hm w h hr (by rw [hn]; rfl) (by omega) (hlet hr)
  rename_i h2
  split
  · rename_i h1
    exact take_letter b B s v st at_ c _ hc hlo hhi (hbeq 35 h35) h1 hm w h hr (by omega) (hlet hr)
  · rename_i h1
    exact take_other b B s v st at_ c (kl c) hc hlo hhi (hbeq 35 h35) rfl (by rw [beq_eq_false_iff_ne]; exact h1) (by rw [beq_eq_false_iff_ne]; exact h2) (by rw [beq_eq_false_iff_ne]; exact h3) hm w h hr
end Go.Proofs.Ytchdecoceokcmaa
