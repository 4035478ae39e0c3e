/- Texts of the seat, packed: DWj DWk DWl. -/
import Derived.Test.YtijkgdbabikojaaP04
import Derived.Deep.RegionHeldLaw
/- What is asked ahead of a write, and what is done then. -/
namespace Go.Proofs.Ytijkgdbabikojaa.Dk
set_option maxRecDepth 1000000
open Go.RowKit
set_option linter.unusedVariables false

theorem HowV.later {hv : Value} {w w' : World} {T : Nat → Prop} {f f' : Fl} (h : HowV hv w T f f') (hk : Kp T w w') : HowV hv w' T f f' := by
  obtain ⟨g, lb, h1, h2, h3⟩ := h
  exact ⟨g, lb, h1, h2, fun wx v hx => h3 wx v (hk.trans hx (fun x hx _ => hx))⟩

theorem DK.drewN {T : Nat → Prop} {w : World} {p : Nat} {S : DS} (h : DK T w p S) (q : Nat) : DK T (w.drewN q) p S := h.later (below_drewN (Below.refl _ _) q)

theorem write1_any (T : Nat → Prop) (p b4 b5 b6 : Nat) (S : DS) (i : Nat) (hv : Value) (f' : Fl) (w : World) (hd : DK T w p S) (hi : i < 65) (hh : HowV hv w T (S.fs i) f') (hs : Small 10000000 1000000000000 S) (hl2 : f'.b.length ≤ 100000000) (hr2 : f'.b.length ≤ S.room + (S.fs i).b.length)
    (h4 : w.cell? ⟨b4, 0, none⟩ = some (.pointer (some ⟨p, 0, none⟩))) (h5 : w.cell? ⟨b5, 0, none⟩ = some (.int .i64 i)) (h6 : w.cell? ⟨b6, 0, none⟩ = some hv) :
    Calls Try.prog 72 #[.pointer (some ⟨b4, 0, none⟩), .pointer (some ⟨b5, 0, none⟩), .pointer (some ⟨b6, 0, none⟩)] w fun e w' => e = .returned (.tuple #[]) ∧ DK (Wid T w w') w' p (turnP S i f') ∧ Kp T w w' := by
  have HC : Hid _ := turn_any T p S i hv f' w hd hi hh (hs.len i) hl2 hs.room hr2
  obtain ⟨g, lb, rfl, _⟩ := hh
  clear hd
  go_enter Try.func72, Try.ntmps72
  go_wp2_with (first | (go_at_call 32; refine Calls.mono HC.out ?_; rintro e w2 ⟨rfl, h1, h2⟩))
  go_end0
  exact ⟨rfl, h1, h2⟩

/-- The answer of a call that turns a file. -/
def WQ (T : Nat → Prop) (w : World) (p : Nat) (r : Int × DS) (k : Int) (w' : World) : Prop := k = r.1 ∧ DK (Wid T w w') w' p r.2 ∧ Kp T w w'

theorem WQ.same {T : Nat → Prop} {w wx : World} {p : Nat} {S : DS} {k : Int} (hd : DK T wx p S) (hk : Kp T w wx) (hT : ∀ k, T k → k < w.heap.size) : WQ T w p (k, S) k wx := by
  refine ⟨rfl, hd.wide (fun k h => .inl h) (fun k h => ?_), hk⟩
  rcases h with h | h
  · exact Nat.lt_of_lt_of_le (hT k h) hk.size
  · exact h.2

structure WBox (w : World) (p b4 b5 b6 bi bd : Nat) (i : Int) (hv : Value) : Prop where
  h4 : w.cell? ⟨b4, 0, none⟩ = some (.pointer (some ⟨p, 0, none⟩))
  h5 : w.cell? ⟨b5, 0, none⟩ = some (.int .i64 i)
  h6 : w.cell? ⟨b6, 0, none⟩ = some hv
  hi : w.cell? ⟨bi, 0, none⟩ = some (.int .i64 i)
  hd : w.cell? ⟨bd, 0, none⟩ = some (.pointer (some ⟨p, 0, none⟩))

theorem WBox.drewN {w : World} {p b4 b5 b6 bi bd : Nat} {i : Int} {hv : Value} (h : WBox w p b4 b5 b6 bi bd i hv) (q : Nat) : WBox (w.drewN q) p b4 b5 b6 bi bd i hv := ⟨h.h4, h.h5, h.h6, h.hi, h.hd⟩

section
variable {T : Nat → Prop} {w : World} {p b4 b5 b6 bi bd blk : Nat} {S : DS} {i more : Int} {hv : Value} {how : Fl → Fl}

/-- The fuse, and the write. -/
theorem chain_burn (hT : ∀ k, T k → k < w.heap.size) (hb : ¬ T blk) (hn4 : ¬ T b4) (hn5 : ¬ T b5) (hn6 : ¬ T b6) (ho : Okay S) (hs : Small 10000000 1000000000000 S) (hdn : S.down = false) (hhas : hasB S i = true) (hm : more = 0)
    (hh : ∀ k : Nat, i = k → k < S.n → HowV hv w T (S.fs k) (how (S.fs k)) ∧ (how (S.fs k)).b.length ≤ 100000000 ∧ (how (S.fs k)).b.length ≤ S.room + (S.fs k).b.length)
    (wx : World) (hd : DK T wx p S) (hk : Kp T w wx) (hw : WBox wx p b4 b5 b6 bi bd i hv) :
    Chain blk (.func (.func 72) #[] #[.pointer (some ⟨b4, 0, none⟩), .pointer (some ⟨b5, 0, none⟩), .pointer (some ⟨b6, 0, none⟩)]) (WQ T w p (writeP S i more how)) [.func (.func 73) #[.pointer (some ⟨p, 0, none⟩)] #[]] wx := by
  obtain ⟨k, rfl, hkn⟩ := hasB_true hhas
  obtain ⟨h1, h2, h3⟩ := hh k rfl hkn
  obtain ⟨V, hd⟩ := hd
  obtain ⟨cs, hcs, hcz⟩ := hd.blk
  have hpb : blk ≠ p := fun he => hb (by rw [he]; exact hd.own)
  have hW : writeP S (k : Int) more how = if S.fuse = 0 then (9, { S with down := true }) else (0, turnP { S with fuse := burnF S.fuse } k (how (S.fs k))) := by
    unfold writeP
    rw [if_neg (by rw [hdn]; decide), if_neg (by rw [hhas]; decide), if_neg (by simp [hm])]
    simp
  by_cases hf : S.fuse = 0
  · refine ⟨73, #[.pointer (some ⟨p, 0, none⟩)], #[], rfl, ent63, Calls.mono (burns_off p cs S.down wx hd.dn hcs hcz (by rw [hd.fu, hf])) ?_⟩
    rintro e w' ⟨rfl, rfl⟩
    refine ⟨9, rfl, Below.heap_setCell _ _ _ _ hpb, fun _ => ?_, fun h => by cases h⟩
    rw [hW, if_pos hf]
    exact WQ.same ⟨V, hd.setDown true⟩ (hk.set _ _ hd.own) hT
  · refine ⟨73, #[.pointer (some ⟨p, 0, none⟩)], #[], rfl, ent63, Calls.mono (burns_on p cs S.fuse wx ho.fuse ho.fuse2 hf hcs hcz hd.fu) ?_⟩
    rintro e w' ⟨rfl, rfl⟩
    refine ⟨0, rfl, Below.heap_setCell _ _ _ _ hpb, fun h => absurd rfl h, fun _ => ?_⟩
    have hk1 : Kp T wx (wx.setCell ⟨p, 132, none⟩ (.int .i64 (burnF S.fuse))) := (Kp.refl _ _).set _ _ hd.own
    have hk2 := hk.trans hk1 (fun x hx _ => hx)
    have hd1 : DK T (wx.setCell ⟨p, 132, none⟩ (.int .i64 (burnF S.fuse))) p { S with fuse := burnF S.fuse } := ⟨V, hd.setFuse _⟩
    have hfew := ho.few
    refine ⟨72, #[], #[.pointer (some ⟨b4, 0, none⟩), .pointer (some ⟨b5, 0, none⟩), .pointer (some ⟨b6, 0, none⟩)], rfl, ent62, Calls.mono (write1_any T p b4 b5 b6 { S with fuse := burnF S.fuse } k hv (how (S.fs k)) _ hd1 (by omega) (h1.later hk2) ⟨hs.len, hs.room⟩ h2 h3 (hk1.cell hw.h4 hn4) (hk1.cell hw.h5 hn5) (hk1.cell hw.h6 hn6)) ?_⟩
    rintro e w' ⟨rfl, g1, g2⟩
    refine ⟨rfl, ?_⟩
    rw [hW, if_neg hf]
    have hk3 := hk2.trans g2 (fun x hx _ => hx)
    refine ⟨rfl, g1.wide (fun x hx => ?_) (fun x hx => ?_), hk3⟩
    · rcases hx with hx | hx
      · exact .inl hx
      · exact .inr ⟨Nat.le_trans hk2.size hx.1, hx.2⟩
    · rcases hx with hx | hx
      · exact Nat.lt_of_lt_of_le (hT x hx) hk3.size
      · exact hx.2

/-- All that is asked ahead of a write. -/
theorem chain_write (hT : ∀ k, T k → k < w.heap.size) (hb : ¬ T blk) (hn4 : ¬ T b4) (hn5 : ¬ T b5) (hn6 : ¬ T b6) (ho : Okay S) (hs : Small 10000000 1000000000000 S) (vs : List Value)
    (hmore : (vs = [] ∧ more = 0) ∨ ∃ v, vs = [v] ∧ (hasB S i = true → ∀ wx, Kp T w wx → DK T wx p S → AskV v wx (fun e w' => e = .returned (.int .i64 more) ∧ ∃ q, w' = wx.drewN q)))
    (hh : hasB S i = true → more = 0 → ∀ k : Nat, i = k → k < S.n → HowV hv w T (S.fs k) (how (S.fs k)) ∧ (how (S.fs k)).b.length ≤ 100000000 ∧ (how (S.fs k)).b.length ≤ S.room + (S.fs k).b.length)
    (wx : World) (hd : DK T wx p S) (hk : Kp T w wx) (hw : WBox wx p b4 b5 b6 bi bd i hv) :
    Chain blk (.func (.func 72) #[] #[.pointer (some ⟨b4, 0, none⟩), .pointer (some ⟨b5, 0, none⟩), .pointer (some ⟨b6, 0, none⟩)]) (WQ T w p (writeP S i more how)) (.func (.func 41) #[.pointer (some ⟨p, 0, none⟩)] #[] :: .func (.func 59) #[] #[.pointer (some ⟨bi, 0, none⟩), .pointer (some ⟨bd, 0, none⟩)] :: (vs ++ [.func (.func 73) #[.pointer (some ⟨p, 0, none⟩)] #[]])) wx := by
  obtain ⟨V, hdv⟩ := hd
  refine ⟨41, #[.pointer (some ⟨p, 0, none⟩)], #[], rfl, ent45, Calls.mono (runs_any p S.down wx hdv.dn) ?_⟩
  rintro e w' ⟨rfl, rfl⟩
  by_cases hdn : S.down = true
  · refine ⟨9, by rw [if_pos hdn], rfl, fun _ => ?_, fun h => by cases h⟩
    have hW : writeP S i more how = (9, S) := by unfold writeP; rw [if_pos hdn]
    rw [hW]
    exact WQ.same ⟨V, hdv⟩ hk hT
  refine ⟨0, by rw [if_neg hdn], rfl, fun h => absurd rfl h, fun _ => ?_⟩
  have hdn2 : S.down = false := by simpa using hdn
  refine ⟨59, #[], #[.pointer (some ⟨bi, 0, none⟩), .pointer (some ⟨bd, 0, none⟩)], rfl, ent60, Calls.mono (has1_any p bi bd S.n i w' hw.hi hw.hd hdv.cnt) ?_⟩
  rintro e w2 ⟨rfl, q, rfl⟩
  have hdk : DK T (w'.drewN q) p S := DK.drewN ⟨V, hdv⟩ q
  have hk2 := hk.drewN q
  by_cases hhas : ¬ (0 ≤ i ∧ i < S.n)
  · refine ⟨2, by rw [if_neg hhas], rfl, fun _ => ?_, fun h => by cases h⟩
    have hW : writeP S i more how = (2, S) := by
      unfold writeP
      rw [if_neg hdn, if_pos (by unfold hasB; simpa using hhas)]
    rw [hW]
    exact WQ.same hdk hk2 hT
  have hhas : 0 ≤ i ∧ i < S.n := Classical.byContradiction hhas
  refine ⟨0, by rw [if_pos hhas], rfl, fun h => absurd rfl h, fun _ => ?_⟩
  have hhb : hasB S i = true := by unfold hasB; simpa using hhas
  rcases hmore with ⟨rfl, hm⟩ | ⟨v, rfl, hv2⟩
  · exact chain_burn hT hb hn4 hn5 hn6 ho hs hdn2 hhb hm (hh hhb hm) _ hdk hk2 (hw.drewN q)
  · obtain ⟨g, fi, lb, h1, h2, h3⟩ := hv2 hhb _ hk2 hdk
    refine ⟨g, fi, lb, h1, h2, Calls.mono h3 ?_⟩
    rintro e w3 ⟨rfl, q2, rfl⟩
    refine ⟨more, rfl, rfl, fun hm => ?_, fun hm => ?_⟩
    · have hW : writeP S i more how = (more, S) := by
        unfold writeP
        rw [if_neg hdn, if_neg (by rw [hhb]; decide), if_pos hm]
      rw [hW]
      exact WQ.same (hdk.drewN q2) (hk2.drewN q2) hT
    · exact chain_burn hT hb hn4 hn5 hn6 ho hs hdn2 hhb hm (hh hhb hm) _ (hdk.drewN q2) (hk2.drewN q2) ((hw.drewN q).drewN q2)
end
end Go.Proofs.Ytijkgdbabikojaa.Dk

/- The walk over disk.write. -/
namespace Go.Proofs.Ytijkgdbabikojaa.Dk
set_option maxRecDepth 1000000
open Go.RowKit
set_option linter.unusedVariables false

theorem Try.info71 : (Try.prog.info? 71).map (fun i => (i.zero, i.size, i.bytes)) = some (some .nilFunc, 1, 8) := by kernel_rfl

/-- Function values that are handed on: none, or one. -/
def SF (w : World) (xv : Value) (l : List Value) : Prop := (xv = .slice none 0 0 ∧ l = []) ∨ ∃ (b : Nat) (v : Value), xv = .slice (some ⟨b, 0, none⟩) 1 1 ∧ l = [v] ∧ w.cell? ⟨b, 0, none⟩ = some v ∧ v.oneCell' = true

theorem SF.later {w wx : World} {xv : Value} {l : List Value} (h : SF w xv l) (hb : Below w.heap.size w wx) : SF wx xv l := by
  rcases h with h | ⟨b, v, h1, h2, h3, h4⟩
  · exact .inl h
  · exact .inr ⟨b, v, h1, h2, cell_later hb h3, h4⟩

theorem SF.len {w : World} {xv : Value} {l : List Value} (h : SF w xv l) : l.length ≤ 1 := by
  rcases h with ⟨_, rfl⟩ | ⟨b, v, _, rfl, _⟩ <;> simp

theorem run_append_f (w : World) (ty : TypeId) (g n cap : Nat) (xs l : List Value) (xv : Value) (hown : w.ownsRow 0 71 1 (.slice (some ⟨g, 0, none⟩) n cap) n xs) (hr : SF w xv l) (hn : n ≤ 10) :
    ∃ g' cap' w', (Builtin.append_ #[99, 99] ty #[.slice (some ⟨g, 0, none⟩) n cap, xv]).run Try.prog w = .ok (.slice (some ⟨g', 0, none⟩) (n + l.length) cap') w' ∧ w'.ownsRow 0 71 1 (.slice (some ⟨g', 0, none⟩) (n + l.length) cap') (n + l.length) (xs ++ l) ∧ w.grownBy w' (some g) ∧ (g' = g ∨ g' = w.heap.size) := by
  obtain ⟨i0, hi, hz0, hz1, hz2⟩ := info_parts Try.info71
  rcases hr with ⟨rfl, rfl⟩ | ⟨b, v, rfl, rfl, hc, h1⟩
  · rw [List.append_nil]
    exact ⟨g, cap, w, run_append_owned_none (P := Try.prog) (w := w) 0 99 ty 71 i0 1 Try.underlying99 hi _ n xs hown, hown, ⟨rfl, rfl, rfl, Nat.le_refl _, fun _ _ _ => rfl⟩, .inl rfl⟩
  · obtain ⟨v', w', r1, r2, r3, r4, r5⟩ := run_append_own_at (P := Try.prog) w 0 99 ty 71 i0 .nilFunc 1 8 Try.underlying99 hi hz0 hz1 hz2 rfl (by decide) _ n xs hown ⟨b, 0, none⟩ 1 1 [v] rfl (fun j u hj => by
        match j, hj with
        | 0, hj => simp at hj; subst hj; exact hc
        | j + 1, hj => simp at hj) (fun u hu => by simp at hu; subst hu; exact h1) (by unfold maxLen; omega) (by omega) (Nat.zero_le _)
    rcases r2.2 with ⟨rfl, h5⟩ | ⟨g', cap', cur, rfl, hrest⟩
    · omega
    · refine ⟨g', cap', w', r1, r2, r3, ?_⟩
      simpa [Value.ownBlock] using r5

/-- 'append' of function values, as one step of a region that draws its order. -/
theorem step_append_f {ops : Array Oper} {o : Oper} {a : Act} {w : World} {K : Act → World → Prop} {Q : Exit → Act → World → Prop} {E : Prop}
    (hg : o.guard = none) (s x : Operand) (hop : o.op = Op.call { callee := Callee.builtin Builtin.append, args := #[s, x], argTypes := #[99, 99] }) (d : Tmp) (hdst : o.dst = some d)
    (g n cap : Nat) (xs l : List Value) (xv : Value) (hs : a.eval s = .slice (some ⟨g, 0, none⟩) n cap) (hx : a.eval x = xv) (hown : w.ownsRow 0 71 1 (.slice (some ⟨g, 0, none⟩) n cap) n xs) (hr : SF w xv l) (hn : n ≤ 10)
    (hK : ∀ g' cap' w', w'.ownsRow 0 71 1 (.slice (some ⟨g', 0, none⟩) (n + l.length) cap') (n + l.length) (xs ++ l) → w.grownBy w' (some g) → (g' = g ∨ g' = w.heap.size) → K (a.put (some d) (.slice (some ⟨g', 0, none⟩) (n + l.length) cap')) w') :
    if Region.wanted o (yielded ops a.tmps) = true then Oper.wp Try.prog o a w K Q else E := by
  obtain ⟨g', cap', w', h1, h2, h3, h4⟩ := run_append_f w o.type g n cap xs l xv hown hr hn
  exact step_append_run hg s x 99 hop d hdst _ _ _ _ hs hx h1 (hK g' cap' w' h2 h3 h4)

theorem owns_new (W : World) (cs : Array Value) (k n : Nat) (hk : k = W.heap.size) (hn : cs.size = n) (h10 : n ≤ 10) : (W.alloc (.cells cs 71)).drew.ownsRow 0 71 1 (.slice (some ⟨k, 0, none⟩) n n) n cs.toList := by
  subst hk hn
  refine ⟨by simp, .inr ⟨W.heap.size, cs.size, cs, rfl, Nat.zero_le _, heap_alloc_new _ _, Nat.le_refl _, by unfold maxLen; omega, by simp, by rw [Nat.mul_one, ← Array.length_toList, List.take_length]⟩⟩

def W3 (w : World) (p : Nat) (i : Int) (hv : Value) (f45 f60 : Value) : World :=
  ((((((w.alloc (.cells #[.pointer (some ⟨p, 0, none⟩)] 24)).alloc (.cells #[.int .i64 i] 3)).alloc (.cells #[hv] 75)).alloc (.cells #[.pointer (some ⟨p, 0, none⟩)] 24)).alloc (.cells #[.int .i64 i] 3)).alloc (.cells #[f45, f60] 71)).drew

theorem W3_below (w : World) (p : Nat) (i : Int) (hv f45 f60 : Value) : Below w.heap.size w (W3 w p i hv f45 f60) :=
  (((((((Below.refl _ _).alloc (Nat.le_refl _) _).alloc (by simp) _).alloc (by simp; omega) _).alloc (by simp; omega) _).alloc (by simp; omega) _).alloc (by simp; omega) _).drew

theorem cell_alloc1 (w : World) (v : Value) (t : TypeId) (k : Nat) (hk : k = w.heap.size) : (w.alloc (.cells #[v] t)).cell? ⟨k, 0, none⟩ = some v := by
  subst hk
  rw [cell_of_row _ _ _ #[v] t (0, 0) (heap_alloc_new _ _)]
  rfl

theorem cell_past (w : World) (o : Obj) (k j : Nat) (hk : k < w.heap.size) : (w.alloc o).cell? ⟨k, j, none⟩ = w.cell? ⟨k, j, none⟩ := World.cell?_of_block (w := w) (Below.heap_alloc _ _ _ hk)

theorem W3_size (w : World) (p : Nat) (i : Int) (hv f45 f60 : Value) : (W3 w p i hv f45 f60).heap.size = w.heap.size + 6 := by
  show (World.alloc _ _).heap.size = _
  simp

theorem W3_box (w : World) (p : Nat) (i : Int) (hv f45 f60 : Value) : WBox (W3 w p i hv f45 f60) p w.heap.size (w.heap.size + 1) (w.heap.size + 2) (w.heap.size + 4) (w.heap.size + 3) i hv := by
  refine ⟨?_, ?_, ?_, ?_, ?_⟩
  · show (World.alloc _ _).cell? _ = _
    rw [cell_past _ _ _ _ (by simp <;> omega), cell_past _ _ _ _ (by simp <;> omega), cell_past _ _ _ _ (by simp <;> omega), cell_past _ _ _ _ (by simp <;> omega), cell_past _ _ _ _ (by simp), cell_alloc1 _ _ _ _ (by simp)]
  · show (World.alloc _ _).cell? _ = _
    rw [cell_past _ _ _ _ (by simp <;> omega), cell_past _ _ _ _ (by simp <;> omega), cell_past _ _ _ _ (by simp <;> omega), cell_past _ _ _ _ (by simp), cell_alloc1 _ _ _ _ (by simp)]
  · show (World.alloc _ _).cell? _ = _
    rw [cell_past _ _ _ _ (by simp <;> omega), cell_past _ _ _ _ (by simp <;> omega), cell_past _ _ _ _ (by simp), cell_alloc1 _ _ _ _ (by simp)]
  · show (World.alloc _ _).cell? _ = _
    rw [cell_past _ _ _ _ (by simp), cell_alloc1 _ _ _ _ (by simp)]
  · show (World.alloc _ _).cell? _ = _
    rw [cell_past _ _ _ _ (by simp <;> omega), cell_past _ _ _ _ (by simp), cell_alloc1 _ _ _ _ (by simp)]

theorem WBox.grown {w w' : World} {N p : Nat} {i : Int} {hv : Value} (h : WBox w p N (N + 1) (N + 2) (N + 4) (N + 3) i hv) (g : Nat) (hg : w.grownBy w' (some g)) (hN : N + 5 ≤ g) : WBox w' p N (N + 1) (N + 2) (N + 4) (N + 3) i hv :=
  ⟨hg.cell h.h4 (by show some N ≠ _; simp; omega), hg.cell h.h5 (by show some (N + 1) ≠ _; simp; omega), hg.cell h.h6 (by show some (N + 2) ≠ _; simp; omega), hg.cell h.hi (by show some (N + 4) ≠ _; simp; omega), hg.cell h.hd (by show some (N + 3) ≠ _; simp; omega)⟩

theorem WBox.later {w w' : World} {p b4 b5 b6 bi bd : Nat} {i : Int} {hv : Value} (h : WBox w p b4 b5 b6 bi bd i hv) (hb : Below w.heap.size w w') : WBox w' p b4 b5 b6 bi bd i hv :=
  ⟨cell_later hb h.h4, cell_later hb h.h5, cell_later hb h.h6, cell_later hb h.hi, cell_later hb h.hd⟩

theorem RF.of_owns {w : World} {g n cap : Nat} {vs : List Value} (h : w.ownsRow 0 71 1 (.slice (some ⟨g, 0, none⟩) n cap) n vs) (hn : n ≤ 10) : RF w g (.slice (some ⟨g, 0, none⟩) n cap) vs := by
  have hl : vs.length = n := by have := h.1; omega
  refine ⟨_, cap, by rw [hl], by omega, fun i u hi => ⟨0, rfl, ?_⟩⟩
  have hi2 : i < vs.length := (List.getElem?_eq_some_iff.1 hi).1
  have := h.cells (g := g) rfl i u hi
  rw [Go.WideShapes.add_plain] at this
  exact this

theorem write_end {T : Nat → Prop} {w w4 w6 : World} {p : Nat} {S : DS} {i : Int} {hv f45 f60 f63 dv : Value} {vs : List Value} {res : Int × DS} {g4 c6 g6 : Nat} (hT : ∀ k, T k → k < w.heap.size) (hd : DK T w p S) (ho : Okay S) (hlv : vs.length ≤ 1)
    (h4 : (W3 w p i hv f45 f60).grownBy w4 (some (w.heap.size + 5))) (hg4 : g4 = w.heap.size + 5 ∨ g4 = w.heap.size + 6) (o : Obj) (h6 : (w4.alloc o).drew.grownBy w6 (some g4)) (hg6 : g6 = g4 ∨ g6 = (w4.alloc o).drew.heap.size)
    (ho6 : w6.ownsRow 0 71 1 (.slice (some ⟨g6, 0, none⟩) (2 + vs.length + 1) c6) (2 + vs.length + 1) (([f45, f60] ++ vs) ++ [f63]))
    (hch : ∀ wx blk, Below w.heap.size w wx → ¬ T blk → WBox wx p w.heap.size (w.heap.size + 1) (w.heap.size + 2) (w.heap.size + 4) (w.heap.size + 3) i hv → Chain blk dv (WQ T wx p res) (f45 :: f60 :: (vs ++ [f63])) wx) :
    Calls Try.prog 27 #[.pointer (some ⟨p, 0, none⟩), dv, .slice (some ⟨g6, 0, none⟩) (2 + vs.length + 1) c6] w6 fun e w' => ∃ k : Int, e = .returned (.int .i64 k) ∧ WQ T w6 p res k w' ∧ Below w.heap.size w w6 := by
  have hz3 := W3_size w p i hv f45 f60
  have hb4 : Below w.heap.size w w4 := (W3_below w p i hv f45 f60).grown h4 (by omega) (fun k hk => by cases hk; omega)
  have hz4 := h4.size
  have hz4' : (w4.alloc o).drew.heap.size = w4.heap.size + 1 := by show (w4.alloc o).heap.size = _; simp
  have hb6 : Below w.heap.size w w6 := ((hb4.alloc hb4.size o).drew).grown h6 (by omega) (fun k hk => by cases hk; omega)
  have hbx := ((W3_box w p i hv f45 f60).grown _ h4 (Nat.le_refl _))
  have hbx6 := (hbx.later (((Below.refl _ _).alloc (Nat.le_refl _) o).drew)).grown _ h6 (by omega)
  have hd6 := hd.later hb6
  have hnb : ¬ T g6 := fun h => by have := hT _ h; omega
  obtain ⟨V, hv6⟩ := hd6
  have hpos := ho.pos
  refine Calls.mono (call_any p S.n g6 dv _ _ w6 _ hv6.cnt (by omega) (RF.of_owns ho6 (by omega)) (hch w6 g6 hb6 hnb hbx6)) ?_
  rintro e w' ⟨k, h1, h2⟩
  exact ⟨k, h1, h2, hb6⟩

theorem WQ.back {T : Nat → Prop} {w w6 w' : World} {p : Nat} {r : Int × DS} {k : Int} (h : WQ T w6 p r k w') (hb : Below w.heap.size w w6) (hT : ∀ k, T k → k < w.heap.size) : WQ T w p r k w' := by
  obtain ⟨h1, h2, h3⟩ := h
  have hk := (Kp.of_below T hb).trans h3 (fun x hx _ => hx)
  refine ⟨h1, h2.wide (fun x hx => ?_) (fun x hx => ?_), hk⟩
  · rcases hx with hx | hx
    · exact .inl hx
    · exact .inr ⟨Nat.le_trans hb.size hx.1, hx.2⟩
  · rcases hx with hx | hx
    · exact Nat.lt_of_lt_of_le (hT x hx) hk.size
    · exact hx.2

set_option maxRecDepth 1000000 in
set_option maxHeartbeats 1000000 in
theorem write_any (T : Nat → Prop) (w : World) (p : Nat) (S : DS) (i more : Int) (hv sl : Value) (how : Fl → Fl) (vs : List Value) (hd : DK T w p S) (ho : Okay S) (hs : Small 10000000 1000000000000 S) (hsl : SF w sl vs)
    (hmore : (vs = [] ∧ more = 0) ∨ ∃ v, vs = [v] ∧ (hasB S i = true → ∀ wx, Kp T w wx → DK T wx p S → AskV v wx (fun e w' => e = .returned (.int .i64 more) ∧ ∃ q, w' = wx.drewN q)))
    (hh : hasB S i = true → more = 0 → ∀ k : Nat, i = k → k < S.n → HowV hv w T (S.fs k) (how (S.fs k)) ∧ (how (S.fs k)).b.length ≤ 100000000 ∧ (how (S.fs k)).b.length ≤ S.room + (S.fs k).b.length) (hhv : ∃ g lb, hv = .func (.func g) #[] lb) :
    Calls Try.prog 51 #[.pointer (some ⟨p, 0, none⟩), .int .i64 i, hv, sl] w fun e w' => ∃ k : Int, e = .returned (.int .i64 k) ∧ WQ T w p (writeP S i more how) k w' := by
  obtain ⟨g0, lb0, rfl⟩ := hhv
  have hT : ∀ k, T k → k < w.heap.size := by obtain ⟨V, h⟩ := hd; exact h.live
  have HD : Hid (DK T w p S) := hd
  have HSL : Hid (SF w sl vs) := hsl
  obtain ⟨sa, sn, sc, hsv⟩ : ∃ a n c, sl = .slice a n c := by
    rcases hsl with ⟨h, _⟩ | ⟨b, v, h, _⟩
    · exact ⟨_, _, _, h⟩
    · exact ⟨_, _, _, h⟩
  have HCH : Hid (∀ wx blk, Below w.heap.size w wx → ¬ T blk → WBox wx p w.heap.size (w.heap.size + 1) (w.heap.size + 2) (w.heap.size + 4) (w.heap.size + 3) i (.func (.func g0) #[] lb0) → _) := fun wx blk hbel hb h3 => chain_write (w := wx) (how := how) (more := more) (blk := blk) (fun k hk => Nat.lt_of_lt_of_le (hT k hk) hbel.size) hb (fun h => by have := hT _ h; omega) (fun h => by have := hT _ h; omega) (fun h => by have := hT _ h; omega) ho hs vs
    (hmore.imp id (fun ⟨v, e1, e2⟩ => ⟨v, e1, fun q1 wy q2 q3 => e2 q1 wy ((Kp.of_below T hbel).trans q2 (fun x hx _ => hx)) q3⟩)) (fun q1 q2 k q3 q4 => ⟨(hh q1 q2 k q3 q4).1.later (Kp.of_below T hbel), (hh q1 q2 k q3 q4).2⟩) wx (hd.later hbel) (Kp.refl _ _) h3
  have hlv := hsl.len
  generalize writeP S i more how = res at *
  subst hsv
  clear hd hsl hh hmore
  have hmf : ∀ (fn : Fn) (first cap : Array Value) (w : World), (Instr.makeFunc fn first cap).run Try.prog w = .ok (.func fn first cap) w := fun _ _ _ _ => rfl
  have HK : Hid (∀ w1 w2 : World, (w1.cell? ⟨w.heap.size, 0, none⟩ = some (.pointer (some ⟨p, 0, none⟩)) ∧ w1.cell? ⟨w.heap.size + 1, 0, none⟩ = some (.int .i64 i)) → Below w1.heap.size w1 w2 → (w2.cell? ⟨w.heap.size, 0, none⟩ = some (.pointer (some ⟨p, 0, none⟩)) ∧ w2.cell? ⟨w.heap.size + 1, 0, none⟩ = some (.int .i64 i))) := fun w1 w2 h hb => ⟨cell_later hb h.1, cell_later hb h.2⟩
  have HS0 : Hid ((((w.alloc (.cells #[.pointer (some ⟨p, 0, none⟩)] 24)).alloc (.cells #[.int .i64 i] 3)).alloc (.cells #[.func (.func g0) #[] lb0] 75)).drew.cell? ⟨w.heap.size, 0, none⟩ = some (.pointer (some ⟨p, 0, none⟩)) ∧ (((w.alloc (.cells #[.pointer (some ⟨p, 0, none⟩)] 24)).alloc (.cells #[.int .i64 i] 3)).alloc (.cells #[.func (.func g0) #[] lb0] 75)).drew.cell? ⟨w.heap.size + 1, 0, none⟩ = some (.int .i64 i)) := by
    refine ⟨?_, ?_⟩
    · show (World.alloc _ _).cell? _ = _
      rw [cell_past _ _ _ _ (by simp <;> omega), cell_past _ _ _ _ (by simp), cell_alloc1 _ _ _ _ (by simp)]
    · show (World.alloc _ _).cell? _ = _
      rw [cell_past _ _ _ _ (by simp), cell_alloc1 _ _ _ _ (by simp)]
  go_enter Try.func51, Try.ntmps51
  go_wp2_with fail
  go_region_held_law (fun w' => w'.cell? ⟨w.heap.size, 0, none⟩ = some (.pointer (some ⟨p, 0, none⟩)) ∧ w'.cell? ⟨w.heap.size + 1, 0, none⟩ = some (.int .i64 i)) (first | assumption | exact HS0.out | exact ⟨HBx.out.h4, HBx.out.h5⟩ | exact HK.out _ _ ‹_› (alloc2 _ _ _) | exact HK.out _ _ ‹_› ((Below.refl _ _).alloc (Nat.le_refl _) _)) (first
    | (refine step_append_f rfl (.tmp 15) (.tmp 16) rfl 17 rfl (w.heap.size + 1 + 1 + 1 + 1 + 1) 2 2 [.func (.func 41) #[.pointer (some ⟨p, 0, none⟩)] #[], .func (.func 59) #[] #[.pointer (some ⟨w.heap.size + 1 + 1 + 1 + 1, 0, none⟩), .pointer (some ⟨w.heap.size + 1 + 1 + 1, 0, none⟩)]] vs (.slice sa sn sc) rfl rfl ?_ ?_ (by omega) ?_
       exact owns_new _ #[_, _] _ 2 (by simp) rfl (by omega)
       exact HSL.out.later (W3_below w p i _ _ _)
       intro g4 c4 w4 ho4 hg4 hat4
       have hW4 : (W3 w p i (.func (.func g0) #[] lb0) (.func (.func 41) #[.pointer (some ⟨p, 0, none⟩)] #[]) (.func (.func 59) #[] #[.pointer (some ⟨w.heap.size + 1 + 1 + 1 + 1, 0, none⟩), .pointer (some ⟨w.heap.size + 1 + 1 + 1, 0, none⟩)])).grownBy w4 (some (w.heap.size + 5)) := hg4
       have hat4 : g4 = w.heap.size + 5 ∨ g4 = w.heap.size + 6 := (by rcases hat4 with h | h; exact .inl h; exact .inr (h.trans (W3_size w p i _ _ _)))
       have HW4 : Hid _ := hW4
       have HO4 : Hid _ := ho4
       have HA4 : Hid _ := hat4
       have HBx : Hid _ := (W3_box w p i (.func (.func g0) #[] lb0) (.func (.func 41) #[.pointer (some ⟨p, 0, none⟩)] #[]) (.func (.func 59) #[] #[.pointer (some ⟨w.heap.size + 1 + 1 + 1 + 1, 0, none⟩), .pointer (some ⟨w.heap.size + 1 + 1 + 1, 0, none⟩)])).grown _ hW4 (Nat.le_refl _)
       clear hg4 hat4 ho4 hW4)
    | (go_simp; go_at_call 30; refine Calls.mono (has_any _ _ _) ?_; rintro e w2 ⟨rfl, rfl⟩))
  all_goals
    have hc4 := HBx.out.h4
    go_wp2_with fail
    go_region_held_law (fun w' => w'.cell? ⟨w.heap.size, 0, none⟩ = some (.pointer (some ⟨p, 0, none⟩))) (first | assumption | exact hc4 | exact hc6 | exact cell_later ((Below.refl _ _).alloc (Nat.le_refl _) _) ‹_› | exact hq7.2.2.cell hc6 (fun h => Nat.lt_irrefl _ (hT _ h))) (first
      | (refine step_append_f rfl (.tmp 20) (.tmp 23) rfl 24 rfl g4 (2 + vs.length) c4 ([.func (.func 41) #[.pointer (some ⟨p, 0, none⟩)] #[], .func (.func 59) #[] #[.pointer (some ⟨w.heap.size + 1 + 1 + 1 + 1, 0, none⟩), .pointer (some ⟨w.heap.size + 1 + 1 + 1, 0, none⟩)]] ++ vs) [.func (.func 73) #[.pointer (some ⟨p, 0, none⟩)] #[]] (.slice (some ⟨w4.heap.size, 0, none⟩) 1 1) rfl rfl ?_ ?_ (by omega) ?_
         exact owns_later HO4.out (((Below.refl _ _).alloc (Nat.le_refl _) _).drew)
         exact .inr ⟨w4.heap.size, _, rfl, rfl, cell_alloc1 _ _ _ _ rfl, rfl⟩
         intro g6 c6 w6 ho6 hg6 hat6
         have HX : Hid _ := write_end (res := res) (dv := .func (.func 72) #[] #[.pointer (some ⟨w.heap.size, 0, none⟩), .pointer (some ⟨w.heap.size + 1, 0, none⟩), .pointer (some ⟨w.heap.size + 1 + 1, 0, none⟩)]) hT HD.out ho hlv HW4.out HA4.out _ hg6 hat6 ho6 HCH.out
         have hc6 : w6.cell? ⟨w.heap.size, 0, none⟩ = some (.pointer (some ⟨p, 0, none⟩)) := (hg6.cell (cell_later (((Below.refl _ _).alloc (Nat.le_refl _) _).drew) hc4) (by have := HA4.out; show some w.heap.size ≠ _; simp; omega))
         clear ho6 hg6 hat6)
      | (go_simp; go_at_call 27; refine Calls.mono HX.out ?_; rintro e w7 ⟨k7, rfl, hq7, hb6⟩))
    all_goals
      go_wp2_with fail
      go_ret
      exact ⟨k7, rfl, hq7.back hb6 hT⟩
end Go.Proofs.Ytijkgdbabikojaa.Dk

/- The walks over disk.Append, Sync, Cut. -/
namespace Go.Proofs.Ytijkgdbabikojaa.Dk
set_option maxRecDepth 1000000
open Go.RowKit
set_option linter.unusedVariables false

/-- A call's answer, and what it made of the disk. -/
def WR (T : Nat → Prop) (w : World) (p : Nat) (r : Int × DS) (e : Ending) (w' : World) : Prop := e = .returned (.int .i64 r.1) ∧ DK (Wid T w w') w' p r.2 ∧ Kp T w w'

theorem DK.live {T : Nat → Prop} {w : World} {p : Nat} {S : DS} (h : DK T w p S) : ∀ k, T k → k < w.heap.size := by obtain ⟨V, h⟩ := h; exact h.live

theorem alloc3 (w : World) (o o' o'' : Obj) : Below w.heap.size w (((w.alloc o).alloc o').alloc o'') := (alloc2 w o o').alloc (by simp; omega) _
theorem alloc4 (w : World) (o o' o'' o3 : Obj) : Below w.heap.size w ((((w.alloc o).alloc o').alloc o'').alloc o3) := (alloc3 w o o' o'').alloc (by simp; omega) _
theorem alloc5 (w : World) (o o' o'' o3 o4 : Obj) : Below w.heap.size w (((((w.alloc o).alloc o').alloc o'').alloc o3).alloc o4) := (alloc4 w o o' o'' o3).alloc (by simp; omega) _

theorem append_call (T : Nat → Prop) (w : World) (p : Nat) (S : DS) (i : Int) (xv : Value) (l : List UInt8) (hd : DK T w p S) (ho : Okay S) (hs : Small 10000000 1000000000000 S) (hx : RB w xv l) (hl : l.length ≤ 10000000) (hxT : ∀ a n c, xv = .slice (some a) n c → ¬ T a.block) :
    Calls Try.prog 51 #[.pointer (some ⟨p, 0, none⟩), .int .i64 i, .func (.func 68) #[] #[.pointer (some ⟨w.heap.size, 0, none⟩)], .slice (some ⟨w.heap.size + 1 + 1 + 1, 0, none⟩) 1 1]
      ((((w.alloc (.cells #[xv] 30)).alloc (.cells #[.pointer (some ⟨p, 0, none⟩)] 24)).alloc (.cells #[.int .i64 l.length] 3)).alloc (.cells #[.func (.func 88) #[] #[.pointer (some ⟨w.heap.size + 1 + 1, 0, none⟩), .pointer (some ⟨w.heap.size + 1, 0, none⟩)]] 71))
      (fun e w' => WR T w p (appendP S i l) e w') := by
  have hbel := alloc4 w (.cells #[xv] 30) (.cells #[.pointer (some ⟨p, 0, none⟩)] 24) (.cells #[.int .i64 l.length] 3) (.cells #[.func (.func 88) #[] #[.pointer (some ⟨w.heap.size + 1 + 1, 0, none⟩), .pointer (some ⟨w.heap.size + 1, 0, none⟩)]] 71)
  have hT := hd.live
  have hG : ∀ k, w.heap.size ≤ k → ¬ T k := fun k hk h => by have := hT k h; omega
  have c0 : ((((w.alloc (.cells #[xv] 30)).alloc (.cells #[.pointer (some ⟨p, 0, none⟩)] 24)).alloc (.cells #[.int .i64 l.length] 3)).alloc (.cells #[.func (.func 88) #[] #[.pointer (some ⟨w.heap.size + 1 + 1, 0, none⟩), .pointer (some ⟨w.heap.size + 1, 0, none⟩)]] 71)).cell? ⟨w.heap.size, 0, none⟩ = some xv := by
    rw [cell_past _ _ _ _ (by simp <;> omega), cell_past _ _ _ _ (by simp <;> omega), cell_past _ _ _ _ (by simp), cell_alloc1 _ _ _ _ (by simp)]
  have c1 : ((((w.alloc (.cells #[xv] 30)).alloc (.cells #[.pointer (some ⟨p, 0, none⟩)] 24)).alloc (.cells #[.int .i64 l.length] 3)).alloc (.cells #[.func (.func 88) #[] #[.pointer (some ⟨w.heap.size + 1 + 1, 0, none⟩), .pointer (some ⟨w.heap.size + 1, 0, none⟩)]] 71)).cell? ⟨w.heap.size + 1, 0, none⟩ = some (.pointer (some ⟨p, 0, none⟩)) := by
    rw [cell_past _ _ _ _ (by simp <;> omega), cell_past _ _ _ _ (by simp), cell_alloc1 _ _ _ _ (by simp)]
  have c2 : ((((w.alloc (.cells #[xv] 30)).alloc (.cells #[.pointer (some ⟨p, 0, none⟩)] 24)).alloc (.cells #[.int .i64 l.length] 3)).alloc (.cells #[.func (.func 88) #[] #[.pointer (some ⟨w.heap.size + 1 + 1, 0, none⟩), .pointer (some ⟨w.heap.size + 1, 0, none⟩)]] 71)).cell? ⟨w.heap.size + 1 + 1, 0, none⟩ = some (.int .i64 l.length) := by
    rw [cell_past _ _ _ _ (by simp), cell_alloc1 _ _ _ _ (by simp)]
  refine Calls.mono (write_any T _ p S i (fitsP S l.length) _ _ (withP l) [_] (hd.later hbel) ho hs (.inr ⟨_, _, rfl, rfl, cell_alloc1 _ _ _ _ (by simp), rfl⟩) (.inr ⟨_, rfl, fun _ wx hk hdk => ?_⟩) (fun _ hm k _ hkn => ⟨⟨68, _, rfl, ent51, fun wx v hk hown => ?_⟩, ?_, ?_⟩) ⟨_, _, rfl⟩) ?_
  · obtain ⟨V, hdk⟩ := hdk
    exact ⟨88, #[], #[.pointer (some ⟨w.heap.size + 1 + 1, 0, none⟩), .pointer (some ⟨w.heap.size + 1, 0, none⟩)], rfl, ent65, fits1_any p (w.heap.size + 1 + 1) (w.heap.size + 1) S.room l.length wx (hk.cell c2 (hG (w.heap.size + 1 + 1) (by omega))) (hk.cell c1 (hG (w.heap.size + 1) (by omega))) hdk.rm⟩
  · have hx2 : RB wx xv l := (hx.later hbel).kept hk hxT
    exact append1_any v _ _ wx hown xv l w.heap.size (hk.cell c0 (hG w.heap.size (by omega))) hx2 (hs.len k) hl
  · have := hs.len k
    show ((S.fs k).b ++ l).length ≤ _
    rw [List.length_append]
    omega
  · show ((S.fs k).b ++ l).length ≤ _
    unfold fitsP at hm
    rw [List.length_append]
    split at hm
    · omega
    · cases hm
  · rintro e w' ⟨k, rfl, hq⟩
    obtain ⟨h1, h2, h3⟩ := hq.back hbel hT
    exact ⟨by rw [h1]; rfl, h2, h3⟩

set_option maxRecDepth 1000000 in
set_option maxHeartbeats 1000000 in
theorem append_any (T : Nat → Prop) (w : World) (p : Nat) (S : DS) (i : Int) (xv : Value) (l : List UInt8) (hd : DK T w p S) (ho : Okay S) (hs : Small 10000000 1000000000000 S) (hx : RB w xv l) (hl : l.length ≤ 10000000) (hxT : ∀ a n c, xv = .slice (some a) n c → ¬ T a.block) :
    Calls Try.prog 49 #[.pointer (some ⟨p, 0, none⟩), .int .i64 i, xv] w (WR T w p (appendP S i l)) := by
  have HC : Hid _ := append_call T w p S i xv l hd ho hs hx hl hxT
  obtain ⟨xa, xc, rfl, _, _, _, _⟩ := hx
  have hmf : ∀ (fn : Fn) (first cap : Array Value) (w : World), (Instr.makeFunc fn first cap).run Try.prog w = .ok (.func fn first cap) w := fun _ _ _ _ => rfl
  generalize appendP S i l = res at *
  clear hxT hd
  go_enter Try.func49, Try.ntmps49
  go_wp2_with (first
    | (go_at_call 70; refine Calls.mono (fits_any _ _ _) ?_; rintro e w2 ⟨rfl, rfl⟩)
    | (go_at_call 51; refine Calls.mono HC.out ?_; rintro e w2 ⟨rfl, h1, h2⟩))
  go_ret
  exact ⟨rfl, h1, h2⟩

set_option maxRecDepth 1000000 in
set_option maxHeartbeats 1000000 in
theorem sync_any (T : Nat → Prop) (w : World) (p : Nat) (S : DS) (i : Int) (hd : DK T w p S) (ho : Okay S) (hs : Small 10000000 1000000000000 S) :
    Calls Try.prog 24 #[.pointer (some ⟨p, 0, none⟩), .int .i64 i] w (WR T w p (syncP S i)) := by
  have HC : Hid (Calls Try.prog 51 #[.pointer (some ⟨p, 0, none⟩), .int .i64 i, .func (.func 52) #[] #[], .slice none 0 0] w (WR T w p (syncP S i))) := by
    refine Calls.mono (write_any T w p S i 0 _ _ (fun f => firstP f.b.length f) [] hd ho hs (.inl ⟨rfl, rfl⟩) (.inl ⟨rfl, rfl⟩) (fun _ hm k _ hkn => ⟨⟨52, _, rfl, ent50, fun wx v hk hown => ?_⟩, ?_, ?_⟩) ⟨_, _, rfl⟩) ?_
    · exact sync1_any v _ _ wx hown (hs.len k)
    · have := hs.len k
      show ((S.fs k).b.take _).length ≤ _
      rw [List.length_take]
      omega
    · show ((S.fs k).b.take _).length ≤ _
      rw [List.length_take]
      omega
    · rintro e w' ⟨k, rfl, h1, h2, h3⟩
      exact ⟨by rw [h1]; rfl, h2, h3⟩
  generalize syncP S i = res at *
  clear hd
  go_enter Try.func24, Try.ntmps24
  go_wp2_with (first | (go_at_call 51; refine Calls.mono HC.out ?_; rintro e w2 ⟨rfl, h1, h2⟩))
  go_ret
  exact ⟨rfl, h1, h2⟩

theorem cut_call (T : Nat → Prop) (w : World) (p : Nat) (S : DS) (i n : Int) (hd : DK T w p S) (ho : Okay S) (hs : Small 10000000 1000000000000 S) :
    Calls Try.prog 51 #[.pointer (some ⟨p, 0, none⟩), .int .i64 i, .func (.func 79) #[] #[.pointer (some ⟨w.heap.size, 0, none⟩)], .slice (some ⟨w.heap.size + 1 + 1 + 1 + 1, 0, none⟩) 1 1]
      (((((w.alloc (.cells #[.int .i64 n] 3)).alloc (.cells #[.pointer (some ⟨p, 0, none⟩)] 24)).alloc (.cells #[.int .i64 i] 3)).alloc (.cells #[.int .i64 n] 3)).alloc (.cells #[.func (.func 94) #[] #[.pointer (some ⟨w.heap.size + 1 + 1 + 1, 0, none⟩), .pointer (some ⟨w.heap.size + 1, 0, none⟩), .pointer (some ⟨w.heap.size + 1 + 1, 0, none⟩)]] 71))
      (fun e w' => WR T w p (cutP S i n) e w') := by
  have hbel := alloc5 w (.cells #[.int .i64 n] 3) (.cells #[.pointer (some ⟨p, 0, none⟩)] 24) (.cells #[.int .i64 i] 3) (.cells #[.int .i64 n] 3) (.cells #[.func (.func 94) #[] #[.pointer (some ⟨w.heap.size + 1 + 1 + 1, 0, none⟩), .pointer (some ⟨w.heap.size + 1, 0, none⟩), .pointer (some ⟨w.heap.size + 1 + 1, 0, none⟩)]] 71)
  have hT := hd.live
  have hG : ∀ k, w.heap.size ≤ k → ¬ T k := fun k hk h => by have := hT k h; omega
  obtain ⟨f64, hf64⟩ : ∃ f, f = Value.func (.func 94) #[] #[.pointer (some ⟨w.heap.size + 1 + 1 + 1, 0, none⟩), .pointer (some ⟨w.heap.size + 1, 0, none⟩), .pointer (some ⟨w.heap.size + 1 + 1, 0, none⟩)] := ⟨_, rfl⟩
  rw [← hf64] at hbel ⊢
  have c0 : (((((w.alloc (.cells #[.int .i64 n] 3)).alloc (.cells #[.pointer (some ⟨p, 0, none⟩)] 24)).alloc (.cells #[.int .i64 i] 3)).alloc (.cells #[.int .i64 n] 3)).alloc (.cells #[f64] 71)).cell? ⟨w.heap.size, 0, none⟩ = some (.int .i64 n) := by
    rw [cell_past _ _ _ _ (by simp <;> omega), cell_past _ _ _ _ (by simp <;> omega), cell_past _ _ _ _ (by simp <;> omega), cell_past _ _ _ _ (by simp), cell_alloc1 _ _ _ _ (by simp)]
  have c1 : (((((w.alloc (.cells #[.int .i64 n] 3)).alloc (.cells #[.pointer (some ⟨p, 0, none⟩)] 24)).alloc (.cells #[.int .i64 i] 3)).alloc (.cells #[.int .i64 n] 3)).alloc (.cells #[f64] 71)).cell? ⟨w.heap.size + 1, 0, none⟩ = some (.pointer (some ⟨p, 0, none⟩)) := by
    rw [cell_past _ _ _ _ (by simp <;> omega), cell_past _ _ _ _ (by simp <;> omega), cell_past _ _ _ _ (by simp), cell_alloc1 _ _ _ _ (by simp)]
  have c2 : (((((w.alloc (.cells #[.int .i64 n] 3)).alloc (.cells #[.pointer (some ⟨p, 0, none⟩)] 24)).alloc (.cells #[.int .i64 i] 3)).alloc (.cells #[.int .i64 n] 3)).alloc (.cells #[f64] 71)).cell? ⟨w.heap.size + 1 + 1, 0, none⟩ = some (.int .i64 i) := by
    rw [cell_past _ _ _ _ (by simp <;> omega), cell_past _ _ _ _ (by simp), cell_alloc1 _ _ _ _ (by simp)]
  have c3 : (((((w.alloc (.cells #[.int .i64 n] 3)).alloc (.cells #[.pointer (some ⟨p, 0, none⟩)] 24)).alloc (.cells #[.int .i64 i] 3)).alloc (.cells #[.int .i64 n] 3)).alloc (.cells #[f64] 71)).cell? ⟨w.heap.size + 1 + 1 + 1, 0, none⟩ = some (.int .i64 n) := by
    rw [cell_past _ _ _ _ (by simp), cell_alloc1 _ _ _ _ (by simp)]
  refine Calls.mono (write_any T _ p S i (reachP S i n) _ _ (firstP n.toNat) [f64] (hd.later hbel) ho hs (.inr ⟨_, _, rfl, rfl, cell_alloc1 _ _ _ _ (by simp), by rw [hf64]; rfl⟩) (.inr ⟨_, rfl, fun hh wx hk hdk => ?_⟩) (fun _ hm k hik hkn => ⟨⟨79, _, rfl, ent47, fun wx v hk hown => ?_⟩, ?_, ?_⟩) ⟨_, _, rfl⟩) ?_
  · obtain ⟨V, hdk⟩ := hdk
    obtain ⟨k, rfl, hkn⟩ := hasB_true hh
    have hfew := ho.few
    have hf := hdk.file k (by omega)
    obtain ⟨a, c, hV, _, _, _⟩ := owns_slice hf.2.2
    rw [hV] at hf
    refine ⟨94, #[], #[.pointer (some ⟨w.heap.size + 1 + 1 + 1, 0, none⟩), .pointer (some ⟨w.heap.size + 1, 0, none⟩), .pointer (some ⟨w.heap.size + 1 + 1, 0, none⟩)], hf64, ent64, ?_⟩
    exact reaches1_any p (w.heap.size + 1 + 1 + 1) (w.heap.size + 1) (w.heap.size + 1 + 1) k (S.fs k).b.length a c n wx (by omega) (hs.len k) (hk.cell c3 (hG (w.heap.size + 1 + 1 + 1) (by omega))) (hk.cell c2 (hG (w.heap.size + 1 + 1) (by omega))) (hk.cell c1 (hG (w.heap.size + 1) (by omega))) hf.1
  · subst hik
    unfold reachP at hm
    split at hm
    · rename_i hr
      obtain ⟨m, rfl⟩ : ∃ m : Nat, n = m := ⟨n.toNat, by omega⟩
      exact cut1_any v _ _ wx hown m (by have := hr.2; simp only [Int.toNat_natCast] at this; omega) w.heap.size (hk.cell c0 (hG w.heap.size (by omega)))
    · cases hm
  · have := hs.len k
    show ((S.fs k).b.take _).length ≤ _
    rw [List.length_take]
    omega
  · show ((S.fs k).b.take _).length ≤ _
    rw [List.length_take]
    omega
  · rintro e w' ⟨k, rfl, hq⟩
    obtain ⟨h1, h2, h3⟩ := hq.back hbel hT
    exact ⟨by rw [h1]; rfl, h2, h3⟩

set_option maxRecDepth 1000000 in
set_option maxHeartbeats 1000000 in
theorem cut_any (T : Nat → Prop) (w : World) (p : Nat) (S : DS) (i n : Int) (hd : DK T w p S) (ho : Okay S) (hs : Small 10000000 1000000000000 S) :
    Calls Try.prog 62 #[.pointer (some ⟨p, 0, none⟩), .int .i64 i, .int .i64 n] w (WR T w p (cutP S i n)) := by
  have HC : Hid _ := cut_call T w p S i n hd ho hs
  have hmf : ∀ (fn : Fn) (first cap : Array Value) (w : World), (Instr.makeFunc fn first cap).run Try.prog w = .ok (.func fn first cap) w := fun _ _ _ _ => rfl
  generalize cutP S i n = res at *
  clear hd
  go_enter Try.func62, Try.ntmps62
  go_wp2_with (first
    | (go_at_call 80; refine Calls.mono (reaches_any _ _ _ _) ?_; rintro e w2 ⟨rfl, rfl⟩)
    | (go_at_call 51; refine Calls.mono HC.out ?_; rintro e w2 ⟨rfl, h1, h2⟩))
  go_ret
  exact ⟨rfl, h1, h2⟩
end Go.Proofs.Ytijkgdbabikojaa.Dk

