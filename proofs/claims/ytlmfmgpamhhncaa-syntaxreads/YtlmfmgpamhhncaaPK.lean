/- Texts of the seat, packed: Uf Ug. -/
import Derived.Test.YtlmfmgpamhhncaaPJ
import Derived.Deep.RegionHeld
/- The document's reader: name. -/
namespace Go.Proofs.Ytlmfmgpamhhncaa
open Go.RowKit

theorem RF.rlt {w : World} {rb cap i : Nat} {a : Option Addr} {L : List By} {bad : Bool} (h : RF w rb a cap L i bad) : rb < w.heap.size := (Array.getElem?_eq_some_iff.1 h.blk).1

/-- What the document's name tells: the text, where it stands then, and whether it can't follow. -/
noncomputable def nmF (L : List By) (i : Nat) (bad : Bool) : By × Nat × Bool := if bad then ([], i, true) else match rName nmP L i with
  | .ok x j => (x, j, false)
  | .no j => ([], j, true)

theorem nmF_bad (L : List By) (i : Nat) : nmF L i true = ([], i, true) := rfl
theorem nmF_no {L : List By} {i j : Nat} (h : rName nmP L i = .no j) : nmF L i false = ([], j, true) := by simp [nmF, h]
theorem nmF_ok {L : List By} {i j : Nat} {x : By} (h : rName nmP L i = .ok x j) : nmF L i false = (x, j, false) := by simp [nmF, h]

set_option maxRecDepth 1000000 in
set_option maxHeartbeats 2000000 in
theorem name_rf (w : World) (rb cap i : Nat) (a : Option Addr) (L : List By) (bad : Bool) (h : RF w rb a cap L i bad) (hx : ∀ x ∈ L, x.length ≤ 65536) :
    Calls Try.prog 30 #[.pointer (some ⟨rb, 0, none⟩)] w fun e w' => e = .returned (.string ⟨(nmF L i bad).1.toArray⟩) ∧ Ke rb w w' ∧ RF w' rb a cap L (nmF L i bad).2.1 (nmF L i bad).2.2 := by
  have c0 := (cell_row h.blk 0).trans rfl
  have c1 := (cell_row h.blk 1).trans rfl
  have c2 := (cell_row h.blk 2).trans rfl
  have hfew := h.few
  have hle := h.le
  have HH : Hid (RF w rb a cap L i bad) := h
  cases bad with
  | true =>
    rw [nmF_bad]
    clear h
    go_enter Try.func30, Try.ntmps30
    go_wp2_with fail
    go_quiet (fail)
    generalize hw2 : World.drewN w _ = w2 at *
    have hb2 : Below w.heap.size w w2 := by rw [← hw2]; exact bl_drawn (Below.refl _ _) _
    have HR : Hid (RF w2 rb a cap L i true) := HH.out.keep hb2
    have HK : Hid (Ke rb w w2) := Ke.of_below hb2
    have d2 := (cell_row HR.out.blk 2).trans rfl
    have f2 := froz_row HR.out.blk 2
    clear hw2 hb2 HH c0 c1 c2
    go_wp2_with fail
    go_ret
    exact ⟨rfl, HK.out.trans (Ke.setCell rb _ 2 _), HR.out.set 2 _ i true HR.out.le rfl⟩
  | false =>
    by_cases hi : i < L.length
    · obtain ⟨x, hxi⟩ : ∃ x, L[i]? = some x := ⟨_, List.getElem?_eq_getElem hi⟩
      obtain ⟨b, off, rfl, hne, d1⟩ := h.tok i x hxi
      have hli : (i : Int) < (L.length : Int) := by omega
      have hni : ((i : Int) == (L.length : Int)) = false := by simp; omega
      have HN : Hid (∀ wx, Calls Try.prog 58 #[.string ⟨x.toArray⟩] wx fun e w' => e = .returned (.bool (nmP x)) ∧ Below wx.heap.size wx w') := fun wx => rnm_any x wx (hx x (List.mem_of_getElem? hxi))
      have HE : Hid (rName nmP L i = if nmP x then .ok x (i + 1) else .no i) := by show _ = _; simp [rName, hxi]
      have HK : Hid (∀ w1 w2, (Below w.heap.size w w1 ∧ w1.cell? ⟨rb, 0, none⟩ = some (.slice (some ⟨b, off, none⟩) L.length cap) ∧ w1.cell? ⟨rb, 1, none⟩ = some (.int .i64 (i : Int)) ∧ w1.cell? ⟨rb, 2, none⟩ = some (.bool false) ∧ w1.cell? ⟨b, off + i * 3 + 1, none⟩ = some (.string ⟨x.toArray⟩)) → Below w1.heap.size w1 w2 →
          (Below w.heap.size w w2 ∧ w2.cell? ⟨rb, 0, none⟩ = some (.slice (some ⟨b, off, none⟩) L.length cap) ∧ w2.cell? ⟨rb, 1, none⟩ = some (.int .i64 (i : Int)) ∧ w2.cell? ⟨rb, 2, none⟩ = some (.bool false) ∧ w2.cell? ⟨b, off + i * 3 + 1, none⟩ = some (.string ⟨x.toArray⟩))) := by
        show ∀ w1 w2, _
        rintro w1 w2 ⟨h1, h2, h3, h4, h5⟩ hb
        exact ⟨h1.trans (hb.mono h1.size), cell_later hb h2, cell_later hb h3, cell_later hb h4, cell_later hb h5⟩
      have HS0 : Hid (Below w.heap.size w w.drew ∧ w.drew.cell? ⟨rb, 0, none⟩ = some (.slice (some ⟨b, off, none⟩) L.length cap) ∧ w.drew.cell? ⟨rb, 1, none⟩ = some (.int .i64 (i : Int)) ∧ w.drew.cell? ⟨rb, 2, none⟩ = some (.bool false) ∧ w.drew.cell? ⟨b, off + i * 3 + 1, none⟩ = some (.string ⟨x.toArray⟩)) := ⟨bl_drawn1 (Below.refl _ _), c0, c1, c2, d1⟩
      clear h hx
      cases hn : nmP x with
      | false =>
        rw [hn] at HN HE
        rw [nmF_no HE.out]
        go_enter Try.func30, Try.ntmps30
        go_wp2_with fail
        go_region_held (fun w' => Below w.heap.size w w' ∧ w'.cell? ⟨rb, 0, none⟩ = some (.slice (some ⟨b, off, none⟩) L.length cap) ∧ w'.cell? ⟨rb, 1, none⟩ = some (.int .i64 (i : Int)) ∧ w'.cell? ⟨rb, 2, none⟩ = some (.bool false) ∧ w'.cell? ⟨b, off + i * 3 + 1, none⟩ = some (.string ⟨x.toArray⟩))
          (first | exact HS0.out | exact HK.out _ _ ‹_› hb4) (first | (go_at_call 58; refine Calls.mono (HN.out _) ?_; rintro e w4 ⟨rfl, hb4⟩))
        have hB4 := (HK.out _ _ HS0.out hb4).1
        have HR : Hid (RF w4 rb (some ⟨b, off, none⟩) cap L i false) := HH.out.keep hB4
        have HKe : Hid (Ke rb w w4) := Ke.of_below hB4
        have e2 := (cell_row HR.out.blk 2).trans rfl
        have f2 := froz_row HR.out.blk 2
        clear hB4 hb4 HK HS0 HH c0 c1 c2 d1
        go_wp2_with fail
        go_ret
        exact ⟨rfl, HKe.out.trans (Ke.setCell rb _ 2 _), HR.out.set 2 _ i true HR.out.le rfl⟩
      | true =>
        rw [hn] at HN HE
        rw [nmF_ok HE.out]
        go_enter Try.func30, Try.ntmps30
        go_wp2_with fail
        go_region_held (fun w' => Below w.heap.size w w' ∧ w'.cell? ⟨rb, 0, none⟩ = some (.slice (some ⟨b, off, none⟩) L.length cap) ∧ w'.cell? ⟨rb, 1, none⟩ = some (.int .i64 (i : Int)) ∧ w'.cell? ⟨rb, 2, none⟩ = some (.bool false) ∧ w'.cell? ⟨b, off + i * 3 + 1, none⟩ = some (.string ⟨x.toArray⟩))
          (first | exact HS0.out | exact HK.out _ _ ‹_› hb4) (first | (go_at_call 58; refine Calls.mono (HN.out _) ?_; rintro e w4 ⟨rfl, hb4⟩))
        have hB4 := (HK.out _ _ HS0.out hb4).1
        have HR : Hid (RF w4 rb (some ⟨b, off, none⟩) cap L i false) := HH.out.keep hB4
        have HR2 : Hid (RF (w4.setCell ⟨rb, 1, none⟩ (.int .i64 ((i + 1 : Nat) : Int))) rb (some ⟨b, off, none⟩) cap L (i + 1) false) := HR.out.set 1 _ (i + 1) false (by omega) rfl
        have HKe : Hid (Ke rb w (w4.setCell ⟨rb, 1, none⟩ (.int .i64 ((i + 1 : Nat) : Int)))) := (Ke.of_below hB4).trans (Ke.setCell rb _ 1 _)
        have e1 := (cell_row HR.out.blk 1).trans rfl
        have f1 := froz_row HR.out.blk 1
        have g0 := (cell_row HR2.out.blk 0).trans rfl
        have g1 := (cell_row HR2.out.blk 1).trans rfl
        obtain ⟨b', off', hbo, _, gd⟩ := HR2.out.tok i x hxi
        cases hbo
        have hcast : ((i + 1 : Nat) : Int) = (i : Int) + 1 := by push_cast; rfl
        rw [hcast] at HR2 HKe g0 g1 gd
        clear hB4 hb4 HK HS0 HH c0 c1 c2 d1 hxi HR
        go_wp2_with fail
        generalize w4.setCell ⟨rb, 1, none⟩ (.int .i64 ((i : Int) + 1)) = w5 at *
        go_quiet (fail)
        generalize hw2 : World.drewN w5 _ = w6 at *
        have hb6 : Below w5.heap.size w5 w6 := by rw [← hw2]; exact bl_drawn (Below.refl _ _) _
        have HR6 : Hid _ := HR2.out.keep hb6
        have HK6 : Hid _ := HKe.out.trans (Ke.of_below hb6)
        clear hw2
        go_wp2_with fail
        go_ret
        exact ⟨rfl, HK6.out, HR6.out⟩
    · have hle' : i = L.length := by omega
      have hni : ((i : Int) == (L.length : Int)) = true := by simp; omega
      have HE : Hid (rName nmP L i = .no i) := by show _ = _; simp [rName, List.getElem?_eq_none (Nat.le_of_not_lt hi)]
      rw [nmF_no HE.out]
      have HI : Hid (i = L.length) := hle'
      clear h hx hle' hi
      go_enter Try.func30, Try.ntmps30
      go_wp2_with fail
      go_quiet (fail)
      generalize hw2 : World.drewN w _ = w2 at *
      have hb2 : Below w.heap.size w w2 := by rw [← hw2]; exact bl_drawn (Below.refl _ _) _
      have HR : Hid (RF w2 rb a cap L i false) := HH.out.keep hb2
      have HK : Hid (Ke rb w w2) := Ke.of_below hb2
      have d2 := (cell_row HR.out.blk 2).trans rfl
      have f2 := froz_row HR.out.blk 2
      clear hw2 hb2 HH c0 c1 c2
      go_wp2_with fail
      go_ret
      exact ⟨rfl, HK.out.trans (Ke.setCell rb _ 2 _), HR.out.set 2 _ i true HR.out.le rfl⟩
end Go.Proofs.Ytlmfmgpamhhncaa

/- The document's reader: a node, stage by stage: plain words, and what is kept in memory on the way. -/
namespace Go.Proofs.Ytlmfmgpamhhncaa
open Go.RowKit

section
variable (L : List By) (alts : Nat → Got Tr)

/-- Behind the leanings. -/
def kd4 (sub vital : Bool) (x u : By) (af : List By) (i : Nat) : Got (Lab × Tr) := if sub then (match alts i with
    | .no m => .no m
    | .ok t m => .ok (⟨x, u, af, true, vital⟩, t) m)
  else if isT L i mEnd then .ok (⟨x, u, af, false, vital⟩, .e) (i + 1) else .no i

/-- Behind what undoes it. -/
noncomputable def kd3 (sub vital : Bool) (x u : By) (i : Nat) : Got (Lab × Tr) := match rLean nmP L i with
  | .no k => .no k
  | .ok af k => kd4 L alts sub vital x u af k

/-- Behind the name. -/
noncomputable def kd2 (sub vital : Bool) (x : By) (i : Nat) : Got (Lab × Tr) := if sub then kd3 L alts sub vital x [] i else match rUndo nmP L i with
  | .no k => .no k
  | .ok u k => kd3 L alts sub vital x u k

/-- Behind the first words. -/
noncomputable def kd1 (sub vital : Bool) (i : Nat) : Got (Lab × Tr) := match rName nmP L i with
  | .no k => .no k
  | .ok x k => kd2 L alts sub vital x k

theorem rNode_k (i : Nat) : rNode nmP L alts i = if isT L i wStep then kd1 L alts false false (i + 1) else if isT L i wVital || isT L i wLoose then (if isT L (i + 1) wSub then kd1 L alts true (isT L i wVital) (i + 2) else .no (i + 1)) else .no i := by
  unfold rNode
  split
  · unfold rStep kd1
    cases rName nmP L (i + 1) with
    | no j => rfl
    | ok x j =>
      simp only [kd2, Bool.false_eq_true, if_false]
      cases rUndo nmP L j with
      | no k => rfl
      | ok u k =>
        simp only [kd3]
        cases rLean nmP L k with
        | no m => rfl
        | ok af m =>
          simp only [kd4, Bool.false_eq_true, if_false]
          cases isT L m mEnd <;> rfl
  · split
    · split
      · unfold rSub kd1
        cases rName nmP L (i + 2) with
        | no j => rfl
        | ok x j =>
          simp only [kd2, if_true, kd3]
          cases rLean nmP L j with
          | no m => rfl
          | ok af m =>
            simp only [kd4, if_true]
            cases alts m <;> rfl
      · rfl
    · rfl

end

/-- How far the document's reader has come: it can't follow, or goes on so. -/
def Stt {α : Type} (G : Got α) (k : Nat → Got α) (i : Nat) (bad : Bool) : Prop := if bad then G = .no i else G = k i

theorem Stt.ok {α : Type} {G : Got α} {k : Nat → Got α} {i : Nat} (h : Stt G k i false) : G = k i := h
theorem Stt.no {α : Type} {G : Got α} {k : Nat → Got α} {i : Nat} (h : Stt G k i true) : G = .no i := h

/-- The name was asked for. -/
theorem stt_name {L : List By} {alts : Nat → Got Tr} {G : Got (Lab × Tr)} {sub vital : Bool} {i : Nat} {bad : Bool} (h : Stt G (kd1 L alts sub vital) i bad) : Stt G (kd2 L alts sub vital (nmF L i bad).1) (nmF L i bad).2.1 (nmF L i bad).2.2 := by
  cases bad with
  | true => exact h
  | false =>
    have hg := h.ok
    unfold kd1 at hg
    cases hn : rName nmP L i with
    | no j => rw [hn] at hg; rw [nmF_no hn]; exact hg
    | ok x j => rw [hn] at hg; rw [nmF_ok hn]; exact hg

/-- Nothing undoes it. -/
theorem stt_nundo {L : List By} {alts : Nat → Got Tr} {G : Got (Lab × Tr)} {sub vital : Bool} {x : By} {i : Nat} {bad : Bool} (h : Stt G (kd2 L alts sub vital x) i bad) (hq : (!sub && (!bad && isT L i wUndo)) = false) : Stt G (kd3 L alts sub vital x []) i bad := by
  cases bad with
  | true => exact h
  | false =>
    have hg := h.ok
    unfold kd2 at hg
    cases sub with
    | true => exact hg
    | false =>
      simp at hq
      simp only [Bool.false_eq_true, if_false, rUndo, hq] at hg
      exact hg

/-- It is undone by what is named next. -/
theorem stt_undo {L : List By} {alts : Nat → Got Tr} {G : Got (Lab × Tr)} {sub vital : Bool} {x : By} {i : Nat} {bad : Bool} (h : Stt G (kd2 L alts sub vital x) i bad) (hq : (!sub && (!bad && isT L i wUndo)) = true) :
    Stt G (kd3 L alts sub vital x (nmF L (i + 1) bad).1) (nmF L (i + 1) bad).2.1 (nmF L (i + 1) bad).2.2 := by
  simp at hq
  obtain ⟨rfl, rfl, hu⟩ := hq
  have hg := h.ok
  unfold kd2 at hg
  simp only [Bool.false_eq_true, if_false, rUndo, hu, if_true] at hg
  cases hn : rName nmP L (i + 1) with
  | no j => rw [hn] at hg; rw [nmF_no hn]; exact hg
  | ok y j => rw [hn] at hg; rw [nmF_ok hn]; exact hg

/-- It leans on none. -/
theorem stt_nlean {L : List By} {alts : Nat → Got Tr} {G : Got (Lab × Tr)} {sub vital : Bool} {x u : By} {i : Nat} {bad : Bool} (h : Stt G (kd3 L alts sub vital x u) i bad) (hq : (!bad && isT L i wAfter) = false) : Stt G (kd4 L alts sub vital x u []) i bad := by
  cases bad with
  | true => exact h
  | false =>
    have hg := h.ok
    simp at hq
    simp only [kd3, rLean, hq, Bool.false_eq_true, if_false] at hg
    exact hg

/-- As often as one likes ',' and a name, behind these. -/
noncomputable def kd5 (L : List By) (alts : Nat → Got Tr) (sub vital : Bool) (x u : By) (af : List By) (f i : Nat) : Got (Lab × Tr) := match rMore nmP L f i with
  | .no k => .no k
  | .ok l k => kd4 L alts sub vital x u (af ++ l) k

theorem stt_lean {L : List By} {alts : Nat → Got Tr} {G : Got (Lab × Tr)} {sub vital : Bool} {x u : By} {i : Nat} {bad : Bool} (h : Stt G (kd3 L alts sub vital x u) i bad) (hq : (!bad && isT L i wAfter) = true) :
    Stt G (kd5 L alts sub vital x u [(nmF L (i + 1) bad).1] (L.length + 1)) (nmF L (i + 1) bad).2.1 (nmF L (i + 1) bad).2.2 := by
  simp at hq
  obtain ⟨rfl, ha⟩ := hq
  have hg := h.ok
  simp only [kd3, rLean, ha, if_true] at hg
  cases hn : rName nmP L (i + 1) with
  | no j => rw [hn] at hg; rw [nmF_no hn]; exact hg
  | ok y j =>
    rw [hn] at hg
    rw [nmF_ok hn]
    show G = kd5 _ _ _ _ _ _ _ _ _
    dsimp only at hg
    unfold kd5
    cases hm : rMore nmP L (L.length + 1) j with
    | no k => rw [hm] at hg; exact hg
    | ok l k => rw [hm] at hg; exact hg

theorem stt_more {L : List By} {alts : Nat → Got Tr} {G : Got (Lab × Tr)} {sub vital : Bool} {x u : By} {af : List By} {f i : Nat} {bad : Bool} (h : Stt G (kd5 L alts sub vital x u af (f + 1)) i bad) (hq : (!bad && isT L i mAnd) = true) :
    Stt G (kd5 L alts sub vital x u (af ++ [(nmF L (i + 1) bad).1]) f) (nmF L (i + 1) bad).2.1 (nmF L (i + 1) bad).2.2 := by
  simp at hq
  obtain ⟨rfl, ha⟩ := hq
  have hg := h.ok
  simp only [kd5, rMore, ha, if_true] at hg
  cases hn : rName nmP L (i + 1) with
  | no j => rw [hn] at hg; rw [nmF_no hn]; exact hg
  | ok y j =>
    rw [hn] at hg
    rw [nmF_ok hn]
    show G = kd5 _ _ _ _ _ _ _ _ _
    dsimp only at hg
    unfold kd5
    cases hm : rMore nmP L f j with
    | no k => rw [hm] at hg; exact hg
    | ok l k => rw [hm] at hg; simpa using hg

theorem stt_nmore {L : List By} {alts : Nat → Got Tr} {G : Got (Lab × Tr)} {sub vital : Bool} {x u : By} {af : List By} {f i : Nat} {bad : Bool} (h : Stt G (kd5 L alts sub vital x u af (f + 1)) i bad) (hq : (!bad && isT L i mAnd) = false) : Stt G (kd4 L alts sub vital x u af) i bad := by
  cases bad with
  | true => exact h
  | false =>
    have hg := h.ok
    simp at hq
    simp only [kd5, rMore, hq, Bool.false_eq_true, if_false, List.append_nil] at hg
    exact hg

theorem nmF_at (L : List By) (i : Nat) (bad : Bool) (hi : i ≤ L.length) : i ≤ (nmF L i bad).2.1 ∧ (nmF L i bad).2.1 ≤ L.length ∧ ((nmF L i bad).2.2 = false → i + 1 ≤ (nmF L i bad).2.1) := by
  cases bad with
  | true => exact ⟨Nat.le_refl _, hi, fun h => by cases h⟩
  | false =>
    have hf := rName_fit nmP L i hi
    cases hn : rName nmP L i with
    | no j => rw [nmF_no hn]; rw [hn] at hf; exact ⟨hf.1, hf.2, fun h => by cases h⟩
    | ok x j => rw [nmF_ok hn]; rw [hn] at hf; exact ⟨by have := hf.1; dsimp only; omega, hf.2, fun _ => hf.1⟩

/-! ### In memory -/

/-- The tokens' block lies below. -/
def Tlt (a : Option Addr) (L : List By) (n : Nat) : Prop := ∀ b off, a = some ⟨b, off, none⟩ → L ≠ [] → b < n

theorem RF.tlt {w : World} {rb cap i : Nat} {a : Option Addr} {L : List By} {bad : Bool} (h : RF w rb a cap L i bad) : Tlt a L w.heap.size := by
  intro b off ha hL
  cases hl : L with
  | nil => exact absurd hl hL
  | cons x r =>
    obtain ⟨b', off', h1, _, h3⟩ := h.tok 0 x (by rw [hl]; rfl)
    rw [ha] at h1
    cases h1
    exact lt_of_cell? h3

theorem RF.setFar {w : World} {rb cap i n : Nat} {a : Option Addr} {L : List By} {bad : Bool} (h : RF w rb a cap L i bad) (ht : Tlt a L n) {c j : Nat} (v : Value) (hc : n ≤ c) (hr : rb ≠ c) : RF (w.setCell ⟨c, j, none⟩ v) rb a cap L i bad := by
  refine ⟨row_other h.blk v hr, fun q x hq => ?_, h.few, h.le⟩
  obtain ⟨b, off, h1, h2, h3⟩ := h.tok q x hq
  have hlt := ht b off h1 (by rintro rfl; simp at hq)
  exact ⟨b, off, h1, h2, (World.cell?_of_block (a := ⟨b, off + q * 3 + 1, none⟩) (Below.heap_setCell w ⟨c, j, none⟩ v b (by show b ≠ c; omega))).trans h3⟩

theorem RF.push {w4 w5 : World} {rb cap i n : Nat} {a : Option Addr} {L : List By} {bad : Bool} {o : Obj} {row : Option Nat} (h : RF w4 rb a cap L i bad) (ht : Tlt a L n) (hn : rb < n) (hg : (w4.alloc o).grownBy w5 row) (hrow : ∀ j, row = some j → n ≤ j) : RF w5 rb a cap L i bad := by
  have hr : ∀ b, b < w4.heap.size → b < n → w5.heap[b]? = w4.heap[b]? := fun b hb hbn => by
    rw [hg.block b (by simp; omega) (fun e => by have := hrow b e.symm; omega), Below.heap_alloc _ _ _ hb]
  refine ⟨(hr rb h.rlt hn).trans h.blk, fun q x hq => ?_, h.few, h.le⟩
  obtain ⟨b, off, h1, h2, h3⟩ := h.tok q x hq
  have hlt := ht b off h1 (by rintro rfl; simp at hq)
  exact ⟨b, off, h1, h2, (World.cell?_of_block (a := ⟨b, off + q * 3 + 1, none⟩) (hr b (lt_of_cell? h3) hlt)).trans h3⟩

theorem RF.drew {w : World} {rb cap i : Nat} {a : Option Addr} {L : List By} {bad : Bool} (h : RF w rb a cap L i bad) : RF w.drew rb a cap L i bad := ⟨h.blk, h.tok, h.few, h.le⟩

theorem nxF {w : World} {rb cap i : Nat} {a : Option Addr} {L : List By} {bad : Bool} (h : RF w rb a cap L i bad) : nx w rb = i := by
  unfold nx
  rw [(cell_row h.blk 1).trans rfl]
  simp

/-- A node that is being read: the reader's block, the node's, the result's, the leanings' row. -/
structure NdS (w wc : World) (rb cap : Nat) (a : Option Addr) (L : List By) (i : Nat) (bad : Bool) (x u : By) (af : List By) (afv : Value) (sub vital : Bool) : Prop where
  rf : RF wc rb a cap L i bad
  ke : Ke rb w wc
  res : wc.heap[w.heap.size]? = some (.cells #[.string ⟨#[]⟩, .string ⟨#[]⟩, .slice none 0 0, .bool false, .bool false, .slice none 0 0] 80 (0, 0))
  nd : wc.heap[w.heap.size + 1]? = some (.cells #[.string ⟨x.toArray⟩, .string ⟨u.toArray⟩, afv, .bool sub, .bool vital, .slice none 0 0] 80 (0, 0))
  own : wc.ownsRow (w.heap.size + 2) 9 1 afv af.length (svs af)
  few : af.length ≤ i
  sz : w.heap.size + 2 ≤ wc.heap.size
  rb : rb < w.heap.size
  tl : Tlt a L w.heap.size

theorem NdS.go {w wc wd : World} {rb cap : Nat} {a : Option Addr} {L : List By} {i i' : Nat} {bad bad' : Bool} {x u : By} {af : List By} {afv : Value} {sub vital : Bool} (h : NdS w wc rb cap a L i bad x u af afv sub vital) (k : Ke rb wc wd) (r : RF wd rb a cap L i' bad') (hi : i ≤ i') : NdS w wd rb cap a L i' bad' x u af afv sub vital := by
  have h1 := h.rb
  have h2 := h.sz
  have h3 := h.few
  have h4 := k.size
  exact ⟨r, h.ke.trans k, row_ke h.res k (by omega), row_ke h.nd k (by omega), own_ke h.own k (by omega), by omega, by omega, h1, h.tl⟩

/-- A field of the node is written (not the leanings). -/
theorem NdS.set {w wc : World} {rb cap : Nat} {a : Option Addr} {L : List By} {i : Nat} {bad : Bool} {x u : By} {af : List By} {afv : Value} {sub vital : Bool} (h : NdS w wc rb cap a L i bad x u af afv sub vital) (j : Nat) (v : Value) (x' u' : By) (sub' vital' : Bool)
    (hc : (#[.string ⟨x.toArray⟩, .string ⟨u.toArray⟩, afv, .bool sub, .bool vital, .slice none 0 0] : Array Value).setIfInBounds j v = #[.string ⟨x'.toArray⟩, .string ⟨u'.toArray⟩, afv, .bool sub', .bool vital', .slice none 0 0]) :
    NdS w (wc.setCell ⟨w.heap.size + 1, j, none⟩ v) rb cap a L i bad x' u' af afv sub' vital' := by
  have h1 := h.rb
  refine ⟨h.rf.setFar h.tl v (by omega) (by omega), h.ke.setFar v (by omega), row_other h.res v (by omega), by rw [row_set h.nd j v, hc], ownsRow_setCell_below h.own (by show w.heap.size + 1 < _; omega) v, h.few, by simpa using h.sz, h1, h.tl⟩

/-- One more leaning is put behind. -/
theorem NdS.push {w wc w4 w5 : World} {rb cap : Nat} {a : Option Addr} {L : List By} {i i' : Nat} {bad bad' : Bool} {x u y : By} {af : List By} {afv v5 : Value} {sub vital : Bool} {o : Obj} (h : NdS w wc rb cap a L i bad x u af afv sub vital) (k : Ke rb wc w4) (r : RF w4 rb a cap L i' bad') (hi : i ≤ i') (hf : af.length + 1 ≤ i')
    (hg : (w4.alloc o).grownBy w5 afv.ownBlock) (ho : w5.ownsRow (w.heap.size + 2) 9 1 v5 (af.length + 1) (svs af ++ [.string ⟨y.toArray⟩])) :
    NdS w (w5.setCell ⟨w.heap.size + 1, 2, none⟩ v5) rb cap a L i' bad' x u (af ++ [y]) v5 sub vital := by
  have n4 := h.go k r hi
  have h1 := h.rb
  have h2 := n4.sz
  have hrow : ∀ j, afv.ownBlock = some j → w.heap.size + 2 ≤ j := fun j hj => (n4.own.lt _ hj).1
  have hz5 : w4.heap.size ≤ w5.heap.size := by have := hg.size; simp at this; omega
  have hb : ∀ b, b < w4.heap.size → b < w.heap.size + 2 → w5.heap[b]? = w4.heap[b]? := fun b hb hbn => by
    rw [hg.block b (by simp; omega) (fun e => by have := hrow b e.symm; omega), Below.heap_alloc _ _ _ hb]
  refine ⟨(n4.rf.push h.tl h1 hg (fun j hj => by have := hrow j hj; omega)).setFar h.tl v5 (by omega) (by omega), (n4.ke.push hg (fun j hj => by have := hrow j hj; omega)).setFar v5 (by omega), row_other ((hb _ (by omega) (by omega)).trans n4.res) v5 (by omega), ?_, ?_, by simpa using hf, by simp; omega, h1, h.tl⟩
  · exact row_set ((hb _ (by omega) (by omega)).trans n4.nd) 2 v5
  · have := ownsRow_setCell_below (a := ⟨w.heap.size + 1, 2, none⟩) ho (by show w.heap.size + 1 < _; omega) v5
    simpa [svs] using this

theorem put6_rf {w : World} {rb cap i n b : Nat} {a : Option Addr} {L : List By} {bad : Bool} (h : RF w rb a cap L i bad) (ht : Tlt a L n) (v0 v1 v2 v3 v4 v5 : Value) (h1 : n ≤ b) (h2 : rb ≠ b) : RF (put6 w b v0 v1 v2 v3 v4 v5) rb a cap L i bad :=
  (((((h.setFar ht v0 h1 h2).setFar ht v1 h1 h2).setFar ht v2 h1 h2).setFar ht v3 h1 h2).setFar ht v4 h1 h2).setFar ht v5 h1 h2
end Go.Proofs.Ytlmfmgpamhhncaa

