/- Texts of the seat, packed: Ui Uj. -/
import Derived.Test.YtlmfmgpamhhncaaPK
import Derived.Test.YtlmfmgpamhhncaaPL
/- The document's reader: bodies. -/
namespace Go.Proofs.Ytlmfmgpamhhncaa
open Go.RowKit

/-- Bodies that are being read. -/
structure BoS (w wc : World) (rb cap : Nat) (a : Option Addr) (L : List By) (i : Nat) (bad : Bool) (acc : Tr) (v : Value) (vals : List (List Value)) : Prop where
  rf : RF wc rb a cap L i bad
  ke : Ke rb w wc
  own : wc.ownsRow w.heap.size 112 1 v vals.length vals.flatten
  vrd : VRd (Aside w.heap.size v) wc true acc vals
  rb : rb < w.heap.size
  tl : Tlt a L w.heap.size
  few : bad = false → acc.len ≤ i
  few1 : acc.len ≤ i + 1

theorem BoS.go {w wc wd : World} {rb cap : Nat} {a : Option Addr} {L : List By} {i i' : Nat} {bad bad' : Bool} {acc : Tr} {v : Value} {vals : List (List Value)} (h : BoS w wc rb cap a L i bad acc v vals) (k : Ke rb wc wd) (r : RF wd rb a cap L i' bad') (hi : i ≤ i') (hbb : bad' = false → bad = false) : BoS w wd rb cap a L i' bad' acc v vals := by
  have h1 := h.rb
  exact ⟨r, h.ke.trans k, own_ke h.own k (by omega), h.vrd.keep (Keeps.of_ke k (fun hh => by have := hh.1; omega)) (fun _ h _ => h) _ _ _, h1, h.tl, fun hb => by have := h.few (hbb hb); omega, by have := h.few1; omega⟩

/-- A body that is being read: its own block, its nodes' row. -/
structure NoS (w wc : World) (rb cap : Nat) (a : Option Addr) (L : List By) (i : Nat) (bad : Bool) (bb : Nat) (acc : Tr) (v : Value) (vals : List (List Value)) : Prop where
  rf : RF wc rb a cap L i bad
  ke : Ke rb w wc
  blk : wc.heap[bb]? = some (.cells #[v] 112 (0, 0))
  own : wc.ownsRow (bb + 1) 80 6 v vals.length vals.flatten
  vrd : VRd (Aside (bb + 1) v) wc false acc vals
  rb : rb < w.heap.size
  hbb : w.heap.size ≤ bb
  sz : bb + 1 ≤ wc.heap.size
  tl : Tlt a L w.heap.size
  few : bad = false → acc.len + 1 ≤ i
  few1 : acc.len ≤ i

theorem NoS.go {w wc wd : World} {rb cap bb : Nat} {a : Option Addr} {L : List By} {i i' : Nat} {bad bad' : Bool} {acc : Tr} {v : Value} {vals : List (List Value)} (h : NoS w wc rb cap a L i bad bb acc v vals) (k : Ke rb wc wd) (r : RF wd rb a cap L i' bad') (hi : i ≤ i') (hbb : bad' = false → bad = false) : NoS w wd rb cap a L i' bad' bb acc v vals := by
  have h1 := h.rb
  have h2 := h.hbb
  exact ⟨r, h.ke.trans k, row_ke h.blk k (by omega), own_ke h.own k (by omega), h.vrd.keep (Keeps.of_ke k (fun hh => by have := hh.1; omega)) (fun _ h _ => h) _ _ _, h1, h2, by have := k.size; have := h.sz; omega, h.tl, fun hb => by have := h.few (hbb hb); omega, by have := h.few1; omega⟩

/-- A node more is put behind. -/
theorem NoS.push {w wc w4 w5 : World} {rb cap bb : Nat} {a : Option Addr} {L : List By} {i i' : Nat} {bad bad' : Bool} {acc : Tr} {v v5 : Value} {vals : List (List Value)} {o : Obj} {l : Lab} {t : Tr} {sv av : Option Addr} {sm sc am ac : Nat} (h : NoS w wc rb cap a L i bad bb acc v vals) (k : Ke rb wc w4) (r : RF w4 rb a cap L i' bad') (hi : i ≤ i') (hb0 : bad = false) (hok : bad' = false → i + 1 ≤ i')
    (hs : SAt (fun b => wc.heap.size ≤ b) w4 l.after sv sm) (ht : TAt (fun b => wc.heap.size ≤ b) w4 true t av 0 am)
    (hg : (w4.alloc o).grownBy w5 v.ownBlock) (ho : w5.ownsRow (bb + 1) 80 6 v5 (vals.length + 1) (vals.flatten ++ [.string ⟨l.name.toArray⟩, .string ⟨l.undo.toArray⟩, .slice sv sm sc, .bool l.sub, .bool l.vital, .slice av am ac])) (hat : v5.ownBlock = v.ownBlock ∨ v5.ownBlock = some (w4.alloc o).heap.size) :
    NoS w (w5.setCell ⟨bb, 0, none⟩ v5) rb cap a L i' bad' bb (acc.app (.n l t .e)) v5 (vals ++ [[.string ⟨l.name.toArray⟩, .string ⟨l.undo.toArray⟩, .slice sv sm sc, .bool l.sub, .bool l.vital, .slice av am ac]]) := by
  have h1 := h.rb
  have h2 := h.hbb
  have h3 := h.sz
  have h4 := k.size
  have n4 := h.go k r hi (fun _ => hb0)
  have hrow : ∀ j, v.ownBlock = some j → bb + 1 ≤ j := fun j hj => (n4.own.lt _ hj).1
  have hz5 : w4.heap.size ≤ w5.heap.size := by have := hg.size; simp at this; omega
  have hb : ∀ b, b < w4.heap.size → b < bb + 1 → w5.heap[b]? = w4.heap[b]? := fun b hb hbn => by
    rw [hg.block b (by simp; omega) (fun e => by have := hrow b e.symm; omega), Below.heap_alloc _ _ _ hb]
  have hvp := vrd_push (v5 := v5) h.vrd h.own k (by omega) (show VRd (fun b => wc.heap.size ≤ b) w4 false (.n l t .e) [[.string ⟨l.name.toArray⟩, .string ⟨l.undo.toArray⟩, .slice sv sm sc, .bool l.sub, .bool l.vital, .slice av am ac]] from ⟨rfl, sv, sm, sc, av, am, ac, [], rfl, hs, ht, rfl⟩) (by omega) hg hat
  refine ⟨(n4.rf.push h.tl h1 hg (fun j hj => by have := hrow j hj; omega)).setFar h.tl v5 (by omega) (by omega), (n4.ke.push hg (fun j hj => by have := hrow j hj; omega)).setFar v5 (by omega), row_set ((hb _ (by omega) (by omega)).trans n4.blk) 0 v5, ?_, ?_, h1, h2, by simp; omega, h.tl, ?_, ?_⟩
  · have := ownsRow_setCell_below (a := ⟨bb, 0, none⟩) ho (by show bb < _; omega) v5
    simpa using this
  · exact hvp.keep (Keeps.setCell _ _ (fun hh => by have := hh.1; omega)) (fun _ h _ => h) _ _ _
  · intro hb
    rw [Tr.len_app]
    have := h.few hb0
    have := hok hb
    simp [Tr.len]
    omega
  · rw [Tr.len_app]
    have := h.few hb0
    simp [Tr.len]
    omega

/-- A body more is put behind. -/
theorem BoS.push {w wc w4 w5 : World} {rb cap : Nat} {a : Option Addr} {L : List By} {i i' : Nat} {bad bad' : Bool} {acc nodes : Tr} {v v5 : Value} {vals : List (List Value)} {o : Obj} {na : Option Addr} {nc : Nat} (h : BoS w wc rb cap a L i bad acc v vals) (k : Ke rb wc w4) (r : RF w4 rb a cap L i' bad') (hi : i ≤ i') (hb0 : bad = false) (hok : bad' = false → i + 1 ≤ i')
    (ht : TAt (fun b => wc.heap.size ≤ b) w4 false nodes na 0 nodes.len)
    (hg : (w4.alloc o).grownBy w5 v.ownBlock) (ho : w5.ownsRow w.heap.size 112 1 v5 (vals.length + 1) (vals.flatten ++ [.slice na nodes.len nc])) (hat : v5.ownBlock = v.ownBlock ∨ v5.ownBlock = some (w4.alloc o).heap.size) :
    BoS w w5 rb cap a L i' bad' (acc.app (.b nodes .e)) v5 (vals ++ [[.slice na nodes.len nc]]) := by
  have h1 := h.rb
  have h4 := k.size
  have hz := h.ke.size
  have n4 := h.go k r hi (fun _ => hb0)
  have hrow : ∀ j, v.ownBlock = some j → w.heap.size ≤ j := fun j hj => (n4.own.lt _ hj).1
  have hvp := vrd_push (v5 := v5) h.vrd h.own k h1 (show VRd (fun b => wc.heap.size ≤ b) w4 true (.b nodes .e) [[.slice na nodes.len nc]] from ⟨rfl, na, _, nc, [], rfl, ht, rfl⟩) (by omega) hg hat
  refine ⟨n4.rf.push h.tl h1 hg hrow, n4.ke.push hg hrow, by simpa using ho, hvp, h1, h.tl, ?_, ?_⟩
  · intro hb
    rw [Tr.len_app]
    have := h.few hb0
    have := hok hb
    simp [Tr.len]
    omega
  · rw [Tr.len_app]
    have := h.few hb0
    simp [Tr.len]
    omega

/-! ### Plain words -/

def bindG (g : Got Tr) (C : Tr → Nat → Got Tr) : Got Tr := match g with
  | .no j => .no j
  | .ok x j => C x j

/-- Behind a body. -/
noncomputable def Cc (L : List By) (f : Nat) (acc x : Tr) (j : Nat) : Got Tr := if isT L j wOr then (match rd nmP L f true (j + 1) with
    | .no k => .no k
    | .ok r k => .ok (acc.app (.b x r)) k)
  else if isT L j mShut then .ok (acc.app (.b x .e)) (j + 1) else .no j

theorem rd_true (L : List By) (f q : Nat) (acc : Tr) : (rd nmP L (f + 1) true q).map (acc.app ·) = if isT L q mIn then bindG (rd nmP L f false (q + 1)) (Cc L f acc) else .no q := by
  rw [rd]
  split
  · unfold bindG Cc
    cases rd nmP L f false (q + 1) with
    | no j => rfl
    | ok x j =>
      dsimp only
      split
      · cases rd nmP L f true (j + 1) <;> rfl
      · split <;> rfl
  · rfl

/-- How far the bodies have come, ahead of a body (more) or behind the last one. -/
def PO (G : Got Tr) (L : List By) (acc : Tr) (q : Nat) (bad more : Bool) (f : Nat) : Prop := if more then bad = false ∧ G = (rd nmP L f true q).map (acc.app ·) else (if bad then G = .no q else G = if isT L q mShut then .ok acc (q + 1) else .no q)

/-- How far a body has come. -/
def PI (G : Got Tr) (L : List By) (C : Tr → Nat → Got Tr) (acc : Tr) (q : Nat) (bad : Bool) (f : Nat) : Prop := if bad then G = .no q else G = bindG ((rd nmP L f false q).map (acc.app ·)) C

theorem po_start {L : List By} {G : Got Tr} {f i : Nat} {bad : Bool} (h : G = if bad then .no i else brace L (rd nmP L f true) i) : PO G L .e (if (!bad && isT L i mOpen) then i + 1 else i) (!(!bad && isT L i mOpen)) (!bad && isT L i mOpen) f := by
  cases bad with
  | true => exact h
  | false =>
    have h' : G = brace L (rd nmP L f true) i := h
    unfold brace at h'
    cases hm : isT L i mOpen with
    | true =>
      rw [hm] at h'
      refine ⟨rfl, ?_⟩
      rw [h']
      show rd nmP L f true (i + 1) = (rd nmP L f true (i + 1)).map (Tr.e.app ·)
      cases rd nmP L f true (i + 1) <;> rfl
    | false => rw [hm] at h'; exact h'

theorem po_in {L : List By} {G : Got Tr} {acc : Tr} {q f : Nat} {bad : Bool} (h : PO G L acc q bad true (f + 1)) : PI G L (Cc L f acc) .e (if isT L q mIn then q + 1 else q) (!isT L q mIn) f := by
  have hg := h.2
  rw [rd_true] at hg
  cases hm : isT L q mIn with
  | true =>
    rw [hm] at hg
    show G = bindG ((rd nmP L f false (q + 1)).map (Tr.e.app ·)) _
    rw [hg]
    show bindG (rd nmP L f false (q + 1)) _ = _
    cases rd nmP L f false (q + 1) <;> rfl
  | false => rw [hm] at hg; exact hg

theorem pi_out {L : List By} {G : Got Tr} {C : Tr → Nat → Got Tr} {acc : Tr} {q f : Nat} (h : PI G L C acc q false (f + 1)) (hm : isT L q mOut = true) : G = C acc (q + 1) := by
  have hg : G = bindG ((rd nmP L (f + 1) false q).map (acc.app ·)) C := h
  rw [rd_out hm] at hg
  rw [hg]
  show C (acc.app .e) (q + 1) = _
  rw [Tr.app_e]

theorem pi_node {L : List By} {G : Got Tr} {C : Tr → Nat → Got Tr} {acc : Tr} {q f : Nat} {l : Lab} {t : Tr} {j : Nat} {bad : Bool} (h : PI G L C acc q false (f + 1)) (hm : isT L q mOut = false) (hb : if bad then rNode nmP L (brace L (rd nmP L f true)) q = .no j else rNode nmP L (brace L (rd nmP L f true)) q = .ok (l, t) j) :
    PI G L C (acc.app (.n l t .e)) j bad f := by
  have hg : G = bindG ((rd nmP L (f + 1) false q).map (acc.app ·)) C := h
  cases bad with
  | true =>
    have hb' : rNode nmP L (brace L (rd nmP L f true)) q = .no j := hb
    rw [rd_halt hm hb'] at hg
    exact hg
  | false =>
    have hb' : rNode nmP L (brace L (rd nmP L f true)) q = .ok (l, t) j := hb
    rw [rd_more hm hb', Got.map_map] at hg
    show G = bindG _ C
    rw [hg]
    congr 2
    funext z
    rw [Tr.app_assoc]
    rfl

/-- Behind a body: the next one, or the end. -/
theorem po_next {L : List By} {G : Got Tr} {acc x : Tr} {q f : Nat} {bad : Bool} (h : if bad then G = .no q else G = Cc L f acc x q) : PO G L (acc.app (.b x .e)) (if (!bad && isT L q wOr) then q + 1 else q) bad (!bad && isT L q wOr) f := by
  cases bad with
  | true => exact h
  | false =>
    have hg : G = Cc L f acc x q := h
    unfold Cc at hg
    cases hm : isT L q wOr with
    | true =>
      rw [hm] at hg
      refine ⟨rfl, ?_⟩
      rw [hg]
      show (match rd nmP L f true (q + 1) with
        | .no k => Got.no k
        | .ok r k => .ok (acc.app (.b x r)) k) = (rd nmP L f true (q + 1)).map ((acc.app (.b x .e)).app ·)
      cases rd nmP L f true (q + 1) with
      | no k => rfl
      | ok r k =>
        show Got.ok (acc.app (.b x r)) k = Got.ok ((acc.app (.b x .e)).app r) k
        rw [Tr.app_assoc]
        rfl
    | false =>
      rw [hm] at hg
      exact hg

def mo : Value → Nat
  | .bool true => 1
  | _ => 0

/-- Can it follow? By the reader's block. -/
def bd (w : World) (rb : Nat) : Nat := match w.cell? ⟨rb, 2, none⟩ with
  | some (.bool true) => 0
  | _ => 1

theorem bdF {w : World} {rb cap i : Nat} {a : Option Addr} {L : List By} {bad : Bool} (h : RF w rb a cap L i bad) : bd w rb = if bad then 0 else 1 := by
  unfold bd
  rw [(cell_row h.blk 2).trans rfl]
  cases bad <;> rfl
end Go.Proofs.Ytlmfmgpamhhncaa

/- The document's reader: bodies, walked. -/
namespace Go.Proofs.Ytlmfmgpamhhncaa
open Go.RowKit

theorem NoS.slice {w wc : World} {rb cap bb : Nat} {a : Option Addr} {L : List By} {i : Nat} {bad : Bool} {acc : Tr} {v : Value} {vals : List (List Value)} (h : NoS w wc rb cap a L i bad bb acc v vals) : ∃ na nc, v = .slice na acc.len nc ∧ TAt (fun b => w.heap.size ≤ b) wc false acc na 0 acc.len := by
  have h2 := h.hbb
  have hv : VRd (fun b => w.heap.size ≤ b) wc false acc vals := h.vrd.keep (fun _ _ _ => rfl) (fun b hb _ => by have := hb.1; omega) _ _ _
  exact hv.own (show wc.ownsRow (bb + 1) 80 (wide false) v vals.length vals.flatten from h.own) (fun g hg => by have := (h.own.lt _ hg).1; omega)

theorem BoS.slice {w wc : World} {rb cap : Nat} {a : Option Addr} {L : List By} {i : Nat} {bad : Bool} {acc : Tr} {v : Value} {vals : List (List Value)} (h : BoS w wc rb cap a L i bad acc v vals) : ∃ na nc, v = .slice na acc.len nc ∧ TAt (fun b => w.heap.size ≤ b) wc true acc na 0 acc.len := by
  have hv : VRd (fun b => w.heap.size ≤ b) wc true acc vals := h.vrd.keep (fun _ _ _ => rfl) (fun b hb _ => hb.1) _ _ _
  exact hv.own (show wc.ownsRow w.heap.size 112 (wide true) v vals.length vals.flatten from h.own) (fun g hg => (h.own.lt _ hg).1)

set_option maxRecDepth 1000000 in
set_option maxHeartbeats 4000000 in
theorem bodies_rf (L : List By) (rb cap : Nat) (a : Option Addr) (f : Nat) (HN0 : ∀ f', f' < f → NodeF L rb cap a f') : BoF L rb cap a f := by
  intro w i bad h hfu
  have hrlt := h.rlt
  have hfew := h.few
  have hle := h.le
  have HNd : Hid (∀ f', f' < f → NodeF L rb cap a f') := HN0
  obtain ⟨G, HG⟩ : ∃ G, Hid (G = if bad then .no i else brace L (rd nmP L f true) i) := ⟨_, rfl⟩
  rw [← HG.out]
  have HP0 : Hid _ := po_start HG.out
  obtain ⟨i0, hi0, hz0, hz1, hz2⟩ := info_parts Try.info80
  obtain ⟨j0, hj0, hy0, hy1, hy2⟩ := info_parts Try.info112
  have M1 : Hid _ := must_rf w rb cap i a L bad mOpen h
  have HTl : Hid (Tlt a L w.heap.size) := h.tlt
  clear h HN0 HG
  go_enter Try.func31, Try.ntmps31
  go_wp2_with fail
  refine Calls.mono M1.out ?_
  rintro e w1 ⟨rfl, k1, r1⟩
  have HB1 : Hid (BoS w w1 rb cap a L _ _ .e (.slice none 0 0) []) := ⟨r1, k1, World.ownsRow_nil _ _ _ _, rfl, hrlt, HTl.out, fun _ => Nat.zero_le _, Nat.zero_le _⟩
  generalize (!bad && isT L i mOpen) = q1 at *
  have c2 := (cell_row r1.blk 2).trans rfl
  clear M1 r1 k1
  go_wp2_with fail
  clear c2
  go_loopw [3, 4, 5] (fun ov mv _ wr => ∃ (acc : Tr) (vals : List (List Value)) (q : Nat) (bad more : Bool) (f' : Nat), mv = .bool more ∧ i ≤ q ∧ (more = true → L.length < q + f') ∧ f' ≤ f ∧ Hid (BoS w wr rb cap a L q bad acc ov vals) ∧ Hid (PO G L acc q bad more f')) (fun _ mv _ wr => 2 * (L.length + 1 - nx wr rb) + mo mv)
  case atStart => exact ⟨.e, [], _, _, q1, f, by simp, by split <;> omega, fun hq => by rw [if_pos hq]; omega, Nat.le_refl _, HB1, HP0⟩
  case round =>
    clear HB1 HP0
    obtain ⟨acc, vals, q, bad1, more, f', rfl, hiq, hqf, hff, HB, HP⟩ := hrel
    rename World => w2
    rename_i ov _ _
    have hq := HB.out.rf.le
    have hnx : nx w2 rb = q := nxF HB.out.rf
    cases more with
    | false =>
      have M2 : Hid _ := must_rf w2 rb cap q a L bad1 mShut HB.out.rf
      go_wp2_with fail
      refine Calls.mono M2.out ?_
      rintro e w3 ⟨rfl, k3, r3⟩
      have HB3 : Hid _ := HB.out.go k3 r3 (by split <;> omega) (fun hh => by cases bad1 <;> simp_all)
      obtain ⟨na, nc, hov, hta⟩ := HB3.out.slice
      have hbdy : Bdy G acc (if (!bad1 && isT L q mShut) then q + 1 else q) (!(!bad1 && isT L q mShut)) := by
        have hp := HP.out
        cases bad1 with
        | true => exact hp
        | false =>
          have hp' : G = if isT L q mShut then .ok acc (q + 1) else .no q := hp
          cases hs : isT L q mShut with
          | true => rw [hs] at hp'; exact hp'
          | false => rw [hs] at hp'; exact hp'
      have hiq' : i ≤ (if (!bad1 && isT L q mShut) then q + 1 else q) := by split <;> omega
      clear M2 k3 HB HP
      subst hov
      go_wp2_with fail
      go_ret
      refine ⟨HB3.out.ke, ?_⟩
      generalize (!bad1 && isT L q mShut) = qs at *
      cases qs with
      | true => first
        | exact ⟨acc, _, rfl, ⟨na, nc, rfl, hta⟩, _, .inl ⟨r3, hiq', hbdy⟩⟩
        | exact ⟨acc, _, _, _, rfl, ⟨na, nc, rfl, hta⟩, r3, hiq', hbdy⟩
      | false => first
        | exact ⟨acc, _, rfl, ⟨na, nc, rfl, hta⟩, _, .inr ⟨r3, hiq', hbdy⟩⟩
        | exact ⟨acc, _, _, _, rfl, ⟨na, nc, rfl, hta⟩, r3, hiq', hbdy⟩
    | true =>
      have hbad : bad1 = false := HP.out.1
      subst hbad
      obtain ⟨f'', rfl⟩ : ∃ f'', f' = f'' + 1 := ⟨f' - 1, by have := hqf rfl; omega⟩
      have hqf' := hqf rfl
      have hA : Below w2.heap.size w2 (w2.alloc (.cells #[.slice none 0 0] 112)) := (Below.refl _ _).alloc (Nat.le_refl _) _
      have M2 : Hid _ := must_ok _ rb cap q a L mIn (HB.out.rf.keep hA)
      have HPI : Hid _ := po_in HP.out
      have hz1' : (w2.alloc (.cells #[.slice none 0 0] 112)).heap.size = w2.heap.size + 1 := by simp
      have hzw := HB.out.ke.size
      go_wp2_with fail
      refine Calls.mono M2.out ?_
      rintro e w3 ⟨rfl, k3, r3⟩
      have hz3 := k3.size
      have hf0 : (!isT L q mIn) = false → Tr.e.len + 1 ≤ (if isT L q mIn then q + 1 else q) := by
        intro hh
        have h1 : isT L q mIn = true := by simpa using hh
        rw [if_pos h1]
        exact Nat.succ_le_succ (Nat.zero_le _)
      have HN3 : Hid (NoS w2 w3 rb cap a L _ _ w2.heap.size .e (.slice none 0 0) []) := ⟨r3, (Ke.of_below hA).trans k3, row_ke (row_new w2 #[.slice none 0 0] 112) k3 (by omega), World.ownsRow_nil _ _ _ _, rfl, by omega, Nat.le_refl _, by omega, fun b off h1 h2 => by have := HB.out.tl b off h1 h2; omega, hf0, Nat.zero_le _⟩
      generalize hqm : isT L q mIn = qm at *
      clear M2 k3 r3 hA hz1' hz3 HP hqf hf0
      have HF0 : (!qm) = false → q + 1 ≤ (if qm = true then q + 1 else q) ∧ L.length < (if qm = true then q + 1 else q) + f'' := by
        intro hb
        have : qm = true := by simpa using hb
        subst this
        simp
        omega
      go_wp2_with fail
      go_loopw [] (fun wr => ∃ (nacc : Tr) (nvals : List (List Value)) (nv : Value) (p : Nat) (bad : Bool) (f3 : Nat), q ≤ p ∧ (bad = false → q + 1 ≤ p ∧ L.length < p + f3) ∧ f3 ≤ f'' ∧ Hid (NoS w2 wr rb cap a L p bad w2.heap.size nacc nv nvals) ∧ Hid (PI G L (Cc L f'' acc) nacc p bad f3)) (fun wr => 2 * (L.length + 1 - nx wr rb) + bd wr rb)
      case atStart => exact ⟨.e, [], _, _, _, f'', by split <;> omega, HF0, Nat.le_refl _, HN3, HPI⟩
      case round =>
        clear HN3 HPI hqm HF0
        obtain ⟨nacc, nvals, nv, p, bad3, f3, hqp, hpf, hf3, HN, HI⟩ := hrel
        rename World => w4
        have hple := HN.out.rf.le
        have hnx4 : nx w4 rb = p := nxF HN.out.rf
        have hbd4 := bdF HN.out.rf
        have c2 := (cell_row HN.out.rf.blk 2).trans rfl
        cases bad3 with
        | true =>
          have M5 : Hid _ := must_rf w4 rb cap p a L true mOut HN.out.rf
          go_wp2_with fail
          refine Calls.mono M5.out ?_
          rintro e w5 ⟨rfl, k5, r5⟩
          have HN5 : Hid (NoS w2 w5 rb cap a L p true w2.heap.size nacc nv nvals) := HN.out.go k5 r5 (Nat.le_refl _) (fun hh => by cases hh)
          have HC5 : Hid (G = .no p) := HI.out
          clear M5 k5 r5 HN HI c2 hpf
          obtain ⟨na, nc, hnv, htn⟩ := HN5.out.slice
          subst hnv
          have cb := (cell_row HN5.out.blk 0).trans rfl
          have hBx := HB.out.go HN5.out.ke HN5.out.rf (show q ≤ p by omega) (fun _ => rfl)
          have hox := hBx.own
          have hzx := hBx.ke.size
          have hal : vals.length ≤ 100000 := by have := HB.out.vrd.len; have := HB.out.few rfl; omega
          clear hBx
          go_wp2_with (at_builtin; refine wpList_append_own_at _ rfl _ _ 23 rfl w.heap.size 112 j0 _ 1 24 Try.underlying23 hj0 hy0 hy1 hy2 rfl (by decide) _ vals.length vals.flatten rfl (hox.alloc _) ⟨w5.heap.size, 0, none⟩ 1 1 [.slice na nacc.len nc] rfl rfl (new_cells w5 [.slice na nacc.len nc] 112) (by simp [Value.oneCell']) (by unfold maxLen; omega) (by omega) (by simp; omega) ?_; intro v7 w7 ho7 hg7 _ hat7; obtain ⟨g7, cap7, rfl⟩ := ownsRow_succ' ho7)
          have HB7 : Hid _ := HB.out.push HN5.out.ke HN5.out.rf (show q ≤ p by omega) rfl (fun hh => by cases hh) htn hg7 ho7 hat7
          have M7 : Hid _ := may_rf w7 rb cap p a L true wOr HB7.out.rf
          have HPn : Hid (PO G L (acc.app (.b nacc .e)) (if (!true && isT L p wOr) then p + 1 else p) true (!true && isT L p wOr) f'') := po_next (L := L) (G := G) (acc := acc) (x := nacc) (q := p) (f := f'') (bad := true) HC5.out
          clear HN5 HC5 ho7 hg7 hat7 hox htn cb
          refine Calls.mono M7.out ?_
          rintro e w8 ⟨rfl, k8, r8⟩
          have HB8 : Hid _ := HB7.out.go k8 r8 (by split <;> omega) (fun hh => hh)
          have hnx8 := nxF HB8.out.rf
          clear M7 HB7 k8 r8
          generalize (!true && isT L p wOr) = qo at *
          go_wp2_with fail
          go_roundw
          case rel => exact ⟨_, _, _, true, qo, f'', rfl, by split <;> omega, fun hh => by rw [if_pos hh]; omega, by omega, HB8, HPn⟩
          case measure =>
            rw [hnx8, hnx]
            cases qo <;> simp [mo] <;> omega
        | false =>
          obtain ⟨hqp1, hpl⟩ := hpf rfl
          obtain ⟨f4, rfl⟩ : ∃ f4, f3 = f4 + 1 := ⟨f3 - 1, by omega⟩
          have M4 : Hid _ := is_rf w4 rb cap p a L false mOut HN.out.rf
          go_wp2_with fail
          refine Calls.mono M4.out ?_
          rintro e w5 ⟨rfl, hb5⟩
          have HN5 : Hid _ := HN.out.go (Ke.of_below hb5) (HN.out.rf.keep hb5) (Nat.le_refl _) (fun hh => hh)
          have hnx5 : nx w5 rb = p := nxF HN5.out.rf
          cases hm : isT L p mOut with
          | true =>
            have M5 : Hid _ := must_ok w5 rb cap p a L mOut HN5.out.rf
            rw [hm] at M5
            have HC6 : Hid (G = Cc L f'' acc nacc (p + 1)) := pi_out HI.out hm
            clear M4 HN HI c2
            go_wp2_with fail
            refine Calls.mono M5.out ?_
            rintro e w6 ⟨rfl, k6, r6⟩
            have HN6 : Hid (NoS w2 w6 rb cap a L (p + 1) false w2.heap.size nacc nv nvals) := HN5.out.go k6 r6 (by omega) (fun _ => rfl)
            clear M5 k6 r6 HN5
            obtain ⟨na, nc, hnv, htn⟩ := HN6.out.slice
            subst hnv
            have cb := (cell_row HN6.out.blk 0).trans rfl
            have hBx := HB.out.go HN6.out.ke HN6.out.rf (show q ≤ (p + 1) by omega) (fun _ => rfl)
            have hox := hBx.own
            have hzx := hBx.ke.size
            have hal : vals.length ≤ 100000 := by have := HB.out.vrd.len; have := HB.out.few rfl; omega
            clear hBx
            go_wp2_with (at_builtin; refine wpList_append_own_at _ rfl _ _ 23 rfl w.heap.size 112 j0 _ 1 24 Try.underlying23 hj0 hy0 hy1 hy2 rfl (by decide) _ vals.length vals.flatten rfl (hox.alloc _) ⟨w6.heap.size, 0, none⟩ 1 1 [.slice na nacc.len nc] rfl rfl (new_cells w6 [.slice na nacc.len nc] 112) (by simp [Value.oneCell']) (by unfold maxLen; omega) (by omega) (by simp; omega) ?_; intro v7 w7 ho7 hg7 _ hat7; obtain ⟨g7, cap7, rfl⟩ := ownsRow_succ' ho7)
            have HB7 : Hid _ := HB.out.push HN6.out.ke HN6.out.rf (show q ≤ (p + 1) by omega) rfl (fun _ => by omega) htn hg7 ho7 hat7
            have M7 : Hid _ := may_rf w7 rb cap (p + 1) a L false wOr HB7.out.rf
            have HPn : Hid (PO G L (acc.app (.b nacc .e)) (if (!false && isT L (p + 1) wOr) then (p + 1) + 1 else (p + 1)) false (!false && isT L (p + 1) wOr) f'') := po_next (L := L) (G := G) (acc := acc) (x := nacc) (q := p + 1) (f := f'') (bad := false) HC6.out
            clear HN6 HC6 ho7 hg7 hat7 hox htn cb
            refine Calls.mono M7.out ?_
            rintro e w8 ⟨rfl, k8, r8⟩
            have HB8 : Hid _ := HB7.out.go k8 r8 (by split <;> omega) (fun hh => hh)
            have hnx8 := nxF HB8.out.rf
            clear M7 HB7 k8 r8
            generalize (!false && isT L (p + 1) wOr) = qo at *
            go_wp2_with fail
            go_roundw
            case rel => exact ⟨_, _, _, false, qo, f'', rfl, by split <;> omega, fun hh => by rw [if_pos hh]; omega, by omega, HB8, HPn⟩
            case measure =>
              rw [hnx8, hnx]
              cases qo <;> simp [mo] <;> omega
          | false =>
            have HNo : Hid _ := HNd.out f4 (by omega) w5.drew p HN5.out.rf.drew (by omega)
            have c0 := (cell_row HN5.out.blk 0).trans rfl
            have hvl : nvals.length ≤ 100000 := by have := HN5.out.vrd.len; have := HN5.out.few1; omega
            have hz5 := HN5.out.sz
            clear M4 HN c2
            go_wp2_with fail
            go_region_law (first
              | (refine step_append_own rfl (.tmp 29) (.tmp 32) 110 rfl (w2.heap.size + 1) 80 i0 _ 6 88 Try.underlying110 hi0 hz0 hz1 hz2 rfl (by decide) nv nvals.length nvals.flatten rfl (ho4.alloc _) ⟨w14.heap.size, 0, none⟩ 1 1 [.string ⟨l4.name.toArray⟩, .string ⟨l4.undo.toArray⟩, .slice sv sm sc, .bool l4.sub, .bool l4.vital, .slice av am ac] rfl rfl (new_cells w14 [.string ⟨l4.name.toArray⟩, .string ⟨l4.undo.toArray⟩, .slice sv sm sc, .bool l4.sub, .bool l4.vital, .slice av am ac] 80) (by simp [Value.oneCell']) (by unfold maxLen; omega) (by omega) (by simp; omega) ?_
                 intro v6 w6 ho6 hg6 hat6
                 have nb6 : w6.heap[w2.heap.size]? = some (.cells #[nv] 112 (0, 0)) := (hg6.block _ (by simp; omega) (fun he => by have := (ho4.lt _ he.symm).1; omega)).trans (row_alloc nb4 _)
                 have c6 := (cell_row nb6 0).trans rfl
                 have f6 := froz_row nb6 0
                 obtain ⟨g6, cap6, rfl⟩ := ownsRow_succ' ho6)
              | (go_simp
                 go_at_call 60
                 refine Calls.mono HNo.out ?_
                 rintro e w14 ⟨k4, l4, t4, v4, j4, bad4, rfl, ⟨sv, sm, sc, av, am, ac, rfl, hs4, ht4⟩, r4, hpj, hbd⟩
                 have k4' := k4.undrew
                 have hz4 := k4'.size
                 have nb4 := row_ke HN5.out.blk k4' (by have := HN5.out.rb; omega)
                 have c4 := (cell_row nb4 0).trans rfl
                 have ho4 := own_ke HN5.out.own k4' (by have := HN5.out.rb; omega)
                 have ca4 : ∀ o, (w14.alloc o).cell? ⟨w2.heap.size, 0, none⟩ = some nv := fun o => (cell_row (row_alloc nb4 o) 0).trans rfl
                 dsimp only))
            all_goals
              have hfit := rNode_fit nmP L (brace L (rd nmP L f4 true)) (fun k hk => (brace_fit L _ (rd_fit nmP L f4 true) k hk).zero) p hple
              have hok4 : bad4 = false → p + 1 ≤ j4 := fun hb => by
                subst hb
                have hb' : rNode nmP L (brace L (rd nmP L f4 true)) p = .ok (l4, t4) j4 := hbd
                rw [hb'] at hfit
                exact hfit.1
              have HN14 : Hid _ := HN5.out.push k4' r4 hpj rfl hok4 hs4 ht4 hg6 ho6 hat6
              have HI14 : Hid _ := pi_node HI.out hm hbd
              have hnx6 := nxF HN14.out.rf
              have hbd6 := bdF HN14.out.rf
              clear HN5 HNo hbd hfit HI
              go_wp2_with fail
              go_roundw
              case rel => exact ⟨_, _, _, j4, bad4, f4, by omega, fun hb => by have := hok4 hb; omega, by omega, HN14, HI14⟩
              case measure =>
                rw [hnx6, hbd6, hnx4, hbd4]
                cases bad4 with
                | true => simp; omega
                | false => have := hok4 rfl; simp; omega

/-- The document's reader, whole. -/
theorem docs_all (L : List By) (rb cap : Nat) (a : Option Addr) (hx : ∀ x ∈ L, x.length ≤ 65536) : ∀ f, BoF L rb cap a f := by
  intro f
  induction f using Nat.strongRecOn with
  | ind f ih => exact bodies_rf L rb cap a f (fun f' hf => node_rf L rb cap a f' hx (ih f' hf))
end Go.Proofs.Ytlmfmgpamhhncaa

