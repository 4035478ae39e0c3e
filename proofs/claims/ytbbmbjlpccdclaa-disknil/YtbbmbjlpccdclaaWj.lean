/- What is asked ahead of a write, and what is done then. -/
import Derived.Test.YtbbmbjlpccdclaaWi
namespace Go.Proofs.Ytbbmbjlpccdclaa
open Go.RowKit
set_option linter.unusedVariables false

theorem HowV.later {hv : Value} {w w' : World} {T : Nat → Prop} {f f' : Fl} (h : HowV hv w T f f') (hk : Kp T w w') : HowV hv w' T f f' := by
  obtain ⟨g, lb, h1, h2, h3⟩ := h
  exact ⟨g, lb, h1, h2, fun wx v hx => h3 wx v (hk.trans hx (fun x hx _ => hx))⟩

theorem DK.drewN {T : Nat → Prop} {w : World} {p : Nat} {S : DS} (h : DK T w p S) (q : Nat) : DK T (w.drewN q) p S := h.later (below_drewN (Below.refl _ _) q)

theorem write1_any (T : Nat → Prop) (p b4 b5 b6 : Nat) (S : DS) (i : Nat) (hv : Value) (f' : Fl) (w : World) (hd : DK T w p S) (hi : i < 65) (hh : HowV hv w T (S.fs i) f') (hs : Small 10000000 1000000000000 S) (hl2 : f'.b.length ≤ 100000000) (hr2 : f'.b.length ≤ S.room + (S.fs i).b.length)
    (h4 : w.cell? ⟨b4, 0, none⟩ = some (.pointer (some ⟨p, 0, none⟩))) (h5 : w.cell? ⟨b5, 0, none⟩ = some (.int .i64 i)) (h6 : w.cell? ⟨b6, 0, none⟩ = some hv) :
    Calls Try.prog 62 #[.pointer (some ⟨b4, 0, none⟩), .pointer (some ⟨b5, 0, none⟩), .pointer (some ⟨b6, 0, none⟩)] w fun e w' => e = .returned (.tuple #[]) ∧ DK (Wid T w w') w' p (turnP S i f') ∧ Kp T w w' := by
  have HC : Hid _ := turn_any T p S i hv f' w hd hi hh (hs.len i) hl2 hs.room hr2
  obtain ⟨g, lb, rfl, _⟩ := hh
  clear hd
  go_enter Try.func62, Try.ntmps62
  go_wp2_with (first | (go_at_call 39; refine Calls.mono HC.out ?_; rintro e w2 ⟨rfl, h1, h2⟩))
  go_end0
  exact ⟨rfl, h1, h2⟩

/-- The answer of a call that turns a file. -/
def WQ (T : Nat → Prop) (w : World) (p : Nat) (r : Int × DS) (k : Int) (w' : World) : Prop := k = r.1 ∧ DK (Wid T w w') w' p r.2 ∧ Kp T w w'

theorem WQ.same {T : Nat → Prop} {w wx : World} {p : Nat} {S : DS} {k : Int} (hd : DK T wx p S) (hk : Kp T w wx) (hT : ∀ k, T k → k < w.heap.size) : WQ T w p (k, S) k wx := by
  refine ⟨rfl, hd.wide (fun k h => .inl h) (fun k h => ?_), hk⟩
  rcases h with h | h
  · exact Nat.lt_of_lt_of_le (hT k h) hk.size
  · exact h.2

structure WBox (w : World) (p b4 b5 b6 bi bd : Nat) (i : Int) (hv : Value) : Prop where
  h4 : w.cell? ⟨b4, 0, none⟩ = some (.pointer (some ⟨p, 0, none⟩))
  h5 : w.cell? ⟨b5, 0, none⟩ = some (.int .i64 i)
  h6 : w.cell? ⟨b6, 0, none⟩ = some hv
  hi : w.cell? ⟨bi, 0, none⟩ = some (.int .i64 i)
  hd : w.cell? ⟨bd, 0, none⟩ = some (.pointer (some ⟨p, 0, none⟩))

theorem WBox.drewN {w : World} {p b4 b5 b6 bi bd : Nat} {i : Int} {hv : Value} (h : WBox w p b4 b5 b6 bi bd i hv) (q : Nat) : WBox (w.drewN q) p b4 b5 b6 bi bd i hv := ⟨h.h4, h.h5, h.h6, h.hi, h.hd⟩

section
variable {T : Nat → Prop} {w : World} {p b4 b5 b6 bi bd blk : Nat} {S : DS} {i more : Int} {hv : Value} {how : Fl → Fl}

/-- The fuse, and the write. -/
theorem chain_burn (hT : ∀ k, T k → k < w.heap.size) (hb : ¬ T blk) (hn4 : ¬ T b4) (hn5 : ¬ T b5) (hn6 : ¬ T b6) (ho : Okay S) (hs : Small 10000000 1000000000000 S) (hdn : S.down = false) (hhas : hasB S i = true) (hm : more = 0)
    (hh : ∀ k : Nat, i = k → k < S.n → HowV hv w T (S.fs k) (how (S.fs k)) ∧ (how (S.fs k)).b.length ≤ 100000000 ∧ (how (S.fs k)).b.length ≤ S.room + (S.fs k).b.length)
    (wx : World) (hd : DK T wx p S) (hk : Kp T w wx) (hw : WBox wx p b4 b5 b6 bi bd i hv) :
    Chain blk (.func (.func 62) #[] #[.pointer (some ⟨b4, 0, none⟩), .pointer (some ⟨b5, 0, none⟩), .pointer (some ⟨b6, 0, none⟩)]) (WQ T w p (writeP S i more how)) [.func (.func 63) #[.pointer (some ⟨p, 0, none⟩)] #[]] wx := by
  obtain ⟨k, rfl, hkn⟩ := hasB_true hhas
  obtain ⟨h1, h2, h3⟩ := hh k rfl hkn
  obtain ⟨V, hd⟩ := hd
  obtain ⟨cs, hcs, hcz⟩ := hd.blk
  have hpb : blk ≠ p := fun he => hb (by rw [he]; exact hd.own)
  have hW : writeP S (k : Int) more how = if S.fuse = 0 then (9, { S with down := true }) else (0, turnP { S with fuse := burnF S.fuse } k (how (S.fs k))) := by
    unfold writeP
    rw [if_neg (by rw [hdn]; decide), if_neg (by rw [hhas]; decide), if_neg (by simp [hm])]
    simp
  by_cases hf : S.fuse = 0
  · refine ⟨63, #[.pointer (some ⟨p, 0, none⟩)], #[], rfl, ent63, Calls.mono (burns_off p cs S.down wx hd.dn hcs hcz (by rw [hd.fu, hf])) ?_⟩
    rintro e w' ⟨rfl, rfl⟩
    refine ⟨9, rfl, Below.heap_setCell _ _ _ _ hpb, fun _ => ?_, fun h => by cases h⟩
    rw [hW, if_pos hf]
    exact WQ.same ⟨V, hd.setDown true⟩ (hk.set _ _ hd.own) hT
  · refine ⟨63, #[.pointer (some ⟨p, 0, none⟩)], #[], rfl, ent63, Calls.mono (burns_on p cs S.fuse wx ho.fuse ho.fuse2 hf hcs hcz hd.fu) ?_⟩
    rintro e w' ⟨rfl, rfl⟩
    refine ⟨0, rfl, Below.heap_setCell _ _ _ _ hpb, fun h => absurd rfl h, fun _ => ?_⟩
    have hk1 : Kp T wx (wx.setCell ⟨p, 132, none⟩ (.int .i64 (burnF S.fuse))) := (Kp.refl _ _).set _ _ hd.own
    have hk2 := hk.trans hk1 (fun x hx _ => hx)
    have hd1 : DK T (wx.setCell ⟨p, 132, none⟩ (.int .i64 (burnF S.fuse))) p { S with fuse := burnF S.fuse } := ⟨V, hd.setFuse _⟩
    have hfew := ho.few
    refine ⟨62, #[], #[.pointer (some ⟨b4, 0, none⟩), .pointer (some ⟨b5, 0, none⟩), .pointer (some ⟨b6, 0, none⟩)], rfl, ent62, Calls.mono (write1_any T p b4 b5 b6 { S with fuse := burnF S.fuse } k hv (how (S.fs k)) _ hd1 (by omega) (h1.later hk2) ⟨hs.len, hs.room⟩ h2 h3 (hk1.cell hw.h4 hn4) (hk1.cell hw.h5 hn5) (hk1.cell hw.h6 hn6)) ?_⟩
    rintro e w' ⟨rfl, g1, g2⟩
    refine ⟨rfl, ?_⟩
    rw [hW, if_neg hf]
    have hk3 := hk2.trans g2 (fun x hx _ => hx)
    refine ⟨rfl, g1.wide (fun x hx => ?_) (fun x hx => ?_), hk3⟩
    · rcases hx with hx | hx
      · exact .inl hx
      · exact .inr ⟨Nat.le_trans hk2.size hx.1, hx.2⟩
    · rcases hx with hx | hx
      · exact Nat.lt_of_lt_of_le (hT x hx) hk3.size
      · exact hx.2

/-- All that is asked ahead of a write. -/
theorem chain_write (hT : ∀ k, T k → k < w.heap.size) (hb : ¬ T blk) (hn4 : ¬ T b4) (hn5 : ¬ T b5) (hn6 : ¬ T b6) (ho : Okay S) (hs : Small 10000000 1000000000000 S) (vs : List Value)
    (hmore : (vs = [] ∧ more = 0) ∨ ∃ v, vs = [v] ∧ (hasB S i = true → ∀ wx, Kp T w wx → DK T wx p S → AskV v wx (fun e w' => e = .returned (.int .i64 more) ∧ ∃ q, w' = wx.drewN q)))
    (hh : hasB S i = true → more = 0 → ∀ k : Nat, i = k → k < S.n → HowV hv w T (S.fs k) (how (S.fs k)) ∧ (how (S.fs k)).b.length ≤ 100000000 ∧ (how (S.fs k)).b.length ≤ S.room + (S.fs k).b.length)
    (wx : World) (hd : DK T wx p S) (hk : Kp T w wx) (hw : WBox wx p b4 b5 b6 bi bd i hv) :
    Chain blk (.func (.func 62) #[] #[.pointer (some ⟨b4, 0, none⟩), .pointer (some ⟨b5, 0, none⟩), .pointer (some ⟨b6, 0, none⟩)]) (WQ T w p (writeP S i more how)) (.func (.func 45) #[.pointer (some ⟨p, 0, none⟩)] #[] :: .func (.func 60) #[] #[.pointer (some ⟨bi, 0, none⟩), .pointer (some ⟨bd, 0, none⟩)] :: (vs ++ [.func (.func 63) #[.pointer (some ⟨p, 0, none⟩)] #[]])) wx := by
  obtain ⟨V, hdv⟩ := hd
  refine ⟨45, #[.pointer (some ⟨p, 0, none⟩)], #[], rfl, ent45, Calls.mono (runs_any p S.down wx hdv.dn) ?_⟩
  rintro e w' ⟨rfl, rfl⟩
  by_cases hdn : S.down = true
  · refine ⟨9, by rw [if_pos hdn], rfl, fun _ => ?_, fun h => by cases h⟩
    have hW : writeP S i more how = (9, S) := by unfold writeP; rw [if_pos hdn]
    rw [hW]
    exact WQ.same ⟨V, hdv⟩ hk hT
  refine ⟨0, by rw [if_neg hdn], rfl, fun h => absurd rfl h, fun _ => ?_⟩
  have hdn2 : S.down = false := by simpa using hdn
  refine ⟨60, #[], #[.pointer (some ⟨bi, 0, none⟩), .pointer (some ⟨bd, 0, none⟩)], rfl, ent60, Calls.mono (has1_any p bi bd S.n i w' hw.hi hw.hd hdv.cnt) ?_⟩
  rintro e w2 ⟨rfl, q, rfl⟩
  have hdk : DK T (w'.drewN q) p S := DK.drewN ⟨V, hdv⟩ q
  have hk2 := hk.drewN q
  by_cases hhas : ¬ (0 ≤ i ∧ i < S.n)
  · refine ⟨2, by rw [if_neg hhas], rfl, fun _ => ?_, fun h => by cases h⟩
    have hW : writeP S i more how = (2, S) := by
      unfold writeP
      rw [if_neg hdn, if_pos (by unfold hasB; simpa using hhas)]
    rw [hW]
    exact WQ.same hdk hk2 hT
  have hhas : 0 ≤ i ∧ i < S.n := Classical.byContradiction hhas
  refine ⟨0, by rw [if_pos hhas], rfl, fun h => absurd rfl h, fun _ => ?_⟩
  have hhb : hasB S i = true := by unfold hasB; simpa using hhas
  rcases hmore with ⟨rfl, hm⟩ | ⟨v, rfl, hv2⟩
  · exact chain_burn hT hb hn4 hn5 hn6 ho hs hdn2 hhb hm (hh hhb hm) _ hdk hk2 (hw.drewN q)
  · obtain ⟨g, fi, lb, h1, h2, h3⟩ := hv2 hhb _ hk2 hdk
    refine ⟨g, fi, lb, h1, h2, Calls.mono h3 ?_⟩
    rintro e w3 ⟨rfl, q2, rfl⟩
    refine ⟨more, rfl, rfl, fun hm => ?_, fun hm => ?_⟩
    · have hW : writeP S i more how = (more, S) := by
        unfold writeP
        rw [if_neg hdn, if_neg (by rw [hhb]; decide), if_pos hm]
      rw [hW]
      exact WQ.same (hdk.drewN q2) (hk2.drewN q2) hT
    · exact chain_burn hT hb hn4 hn5 hn6 ho hs hdn2 hhb hm (hh hhb hm) _ (hdk.drewN q2) (hk2.drewN q2) ((hw.drewN q).drewN q2)
end
end Go.Proofs.Ytbbmbjlpccdclaa
