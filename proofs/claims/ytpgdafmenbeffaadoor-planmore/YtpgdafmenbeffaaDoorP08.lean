/- Texts of the seat, packed: SYa SYb DPa. -/
import Derived.Test.YtpgdafmenbeffaaDoorP07
import Derived.Deep.SlicePairs
import Derived.Deep.Strs
import Derived.OpenShut
import Derived.Deep.CutRange
import Derived.Laws.Bits64b
import Derived.Lib.TrailingZeros
/- A saga that came in is a finite tree. -/
namespace Go.Proofs.YtpgdafmenbeffaaDoor.Sx

open Go.RowKit Go.ChangeShapes Go.WideShapes

theorem Tryd.cells38 : Tryd.prog.cellsOf 38 = 6 := by kernel_rfl

theorem Tryd.cells35 : Tryd.prog.cellsOf 35 = 1 := by kernel_rfl

theorem Tryd.cells24 : Tryd.prog.cellsOf 24 = 2 := by kernel_rfl

theorem Tryd.cells22 : Tryd.prog.cellsOf 22 = 1 := by kernel_rfl

theorem Tryd.cells33 : Tryd.prog.cellsOf 33 = 1 := by kernel_rfl

theorem Tryd.cells36 : Tryd.prog.cellsOf 36 = 1 := by kernel_rfl

theorem Tryd.cells9' : Tryd.prog.cellsOf 9 = 1 := by kernel_rfl

theorem Tryd.cells4 : Tryd.prog.cellsOf 4 = 1 := by kernel_rfl

/-- All lists and texts are as long as one may be, at most. -/
def Tr.bnd : Tr → Prop
  | .e => True
  | .b x r => x.len ≤ maxLen ∧ x.bnd ∧ r.bnd
  | .n l t r => l.name.length ≤ maxLen ∧ l.undo.length ≤ maxLen ∧ l.after.length ≤ maxLen ∧ (∀ y ∈ l.after, y.length ≤ maxLen) ∧ t.len ≤ maxLen ∧ t.bnd ∧ r.bnd

theorem ba_list (s : ByteArray) : (⟨s.data.toList.toArray⟩ : ByteArray) = s := by cases s; simp

variable {H : Type} {enc : TypeId × Value → H} {w : World} {base : Nat} {spare : Nat → Bool} {held : Bool}

theorem open_texts {fuel : Nat} {cs : List Value} {x : DataW H × List MemPlace} (h : DataW.trod enc Tryd.prog w base spare held fuel 36 cs = some x) :
    ∃ a n c xs, cs = [.slice a n c] ∧ SAt (· < w.heap.size) w xs a n ∧ n ≤ maxLen ∧ ∀ y ∈ xs, y.length ≤ maxLen := by
  rcases Go.Deep.open_strs Tryd.underlying36 Tryd.underlying9 (by kernel_rfl) h with ⟨hcs, _⟩ | ⟨ad, l, c, m, Sx, hcs, _, hl, hm, hmm, _, hcell⟩
  · exact ⟨none, 0, 0, [], hcs, ⟨rfl, by simp⟩, by unfold maxLen; omega, by simp⟩
  · have hlm : l ≤ m := by rw [hmm]; split <;> omega
    refine ⟨some ad, l, c, (List.range l).map fun i => (Sx i).data.toList, hcs, ⟨by simp, fun i y hi => ?_⟩, by omega, fun y hy => ?_⟩
    · have hil : i < l := by have := (List.getElem?_eq_some_iff.1 hi).1; simpa using this
      have hy : y = (Sx i).data.toList := by simp [hil] at hi; exact hi.symm
      subst hy
      obtain ⟨b, off, spot⟩ := ad
      have hspot : spot = none := by simpa [Addr.add] using World.cell?_spot (hcell 0 (by omega)).1
      subst hspot
      have hc := (hcell i (by omega)).1
      rw [add_plain] at hc
      exact ⟨b, off, rfl, lt_of_cell? hc, by rw [ba_list]; exact hc⟩
    · obtain ⟨i, hi, rfl⟩ := List.mem_map.1 hy
      have := (hcell i (by have := List.mem_range.1 hi; omega)).2
      show (Sx i).data.toList.length ≤ maxLen
      rw [Array.length_toList]
      exact this

/-- What a body's cell says. -/
def BdAt (w : World) (b off i : Nat) : Prop := ∃ v m c x, w.cell? ⟨b, off + i, none⟩ = some (.slice v m c) ∧ TAt (· < w.heap.size) w false x v 0 m ∧ m ≤ maxLen ∧ x.bnd

def NdAt (w : World) (b off i : Nat) : Prop := ∃ (l : Lab) (t : Tr) (sv : Option Addr) (sm sc : Nat) (av : Option Addr) (am ac : Nat), w.cell? ⟨b, off + i * 6, none⟩ = some (.string ⟨l.name.toArray⟩) ∧ w.cell? ⟨b, off + i * 6 + 1, none⟩ = some (.string ⟨l.undo.toArray⟩) ∧
  w.cell? ⟨b, off + i * 6 + 2, none⟩ = some (.slice sv sm sc) ∧ w.cell? ⟨b, off + i * 6 + 3, none⟩ = some (.bool l.sub) ∧ w.cell? ⟨b, off + i * 6 + 4, none⟩ = some (.bool l.vital) ∧ w.cell? ⟨b, off + i * 6 + 5, none⟩ = some (.slice av am ac) ∧
  SAt (· < w.heap.size) w l.after sv sm ∧ TAt (· < w.heap.size) w true t av 0 am ∧ l.name.length ≤ maxLen ∧ l.undo.length ≤ maxLen ∧ sm ≤ maxLen ∧ (∀ y ∈ l.after, y.length ≤ maxLen) ∧ am ≤ maxLen ∧ t.bnd

theorem build_b (b off n : Nat) : ∀ k i, i + k = n → (∀ j, i ≤ j → j < n → BdAt w b off j) → ∃ t, TAt (· < w.heap.size) w true t (some ⟨b, off, none⟩) i n ∧ t.bnd := by
  intro k
  induction k with
  | zero => intro i hi _; exact ⟨.e, by show i = n; omega, trivial⟩
  | succ k ih =>
    intro i hi h
    obtain ⟨r, hr, hrb⟩ := ih (i + 1) (by omega) (fun j h1 h2 => h j (by omega) h2)
    obtain ⟨v, m, c, x, h1, h2, h3, h4⟩ := h i (Nat.le_refl _) (by omega)
    exact ⟨.b x r, ⟨rfl, by omega, ⟨b, off, v, m, c, rfl, lt_of_cell? h1, h1, h2⟩, hr⟩, by have := h2.len; show x.len ≤ maxLen; omega, h4, hrb⟩

theorem build_n (b off n : Nat) : ∀ k i, i + k = n → (∀ j, i ≤ j → j < n → NdAt w b off j) → ∃ t, TAt (· < w.heap.size) w false t (some ⟨b, off, none⟩) i n ∧ t.bnd := by
  intro k
  induction k with
  | zero => intro i hi _; exact ⟨.e, by show i = n; omega, trivial⟩
  | succ k ih =>
    intro i hi h
    obtain ⟨r, hr, hrb⟩ := ih (i + 1) (by omega) (fun j h1 h2 => h j (by omega) h2)
    obtain ⟨l, t, sv, sm, sc, av, am, ac, c0, c1, c2, c3, c4, c5, h1, h2, b1, b2, b3, b4, b5, b6⟩ := h i (Nat.le_refl _) (by omega)
    exact ⟨.n l t r, ⟨rfl, by omega, ⟨b, off, sv, sm, sc, av, am, ac, rfl, lt_of_cell? c0, c0, c1, c2, c3, c4, c5, h1, h2⟩, hr⟩, b1, b2, by have := h1.1; omega, b4, by have := h2.len; omega, b6, hrb⟩

set_option maxRecDepth 1000000 in
theorem open_tree : ∀ (fuel : Nat), (∀ cs (x : DataW H × List MemPlace), DataW.trod enc Tryd.prog w base spare held fuel 22 cs = some x → ∃ a n c t, cs = [.slice a n c] ∧ TAt (· < w.heap.size) w true t a 0 n ∧ n ≤ maxLen ∧ t.bnd) ∧
    (∀ cs (x : DataW H × List MemPlace), DataW.trod enc Tryd.prog w base spare held fuel 33 cs = some x → ∃ a n c t, cs = [.slice a n c] ∧ TAt (· < w.heap.size) w false t a 0 n ∧ n ≤ maxLen ∧ t.bnd) := by
  intro fuel
  induction fuel using Nat.strongRecOn with
  | ind fuel ih =>
  refine ⟨fun cs x h => ?_, fun cs x h => ?_⟩
  · rcases DataW.trod_slice Tryd.underlying22 h with ⟨rfl, _⟩ | ⟨ad, len, cap, elems, rest, n, hf, rfl, _, _, hl, hm, hel, hx, _, _⟩
    · exact ⟨none, 0, 0, .e, rfl, rfl, by unfold maxLen; omega, trivial⟩
    · by_cases h0 : len = 0
      · subst h0
        exact ⟨_, _, _, .e, rfl, rfl, by omega, trivial⟩
      obtain ⟨b, off, spot⟩ := ad
      have cellOf : ∀ i, i < len → ∃ v, w.cell? ((⟨b, off, spot⟩ : Addr).add (i * 1)) = some v ∧ ∃ y : DataW H × List MemPlace, DataW.trod enc Tryd.prog w base spare held n 35 [v] = some y := by
        intro i hi
        have h1 := hx i hi
        rw [Tryd.cells35, List.getElem?_eq_getElem (by omega), Option.bind_eq_some_iff] at h1
        obtain ⟨cs', h2, h3⟩ := h1
        obtain ⟨_, hlen, hcell⟩ := World.cells?_some h2
        match cs', hlen with
        | [v], _ =>
          have := hcell 0 (by omega)
          rw [Go.Deep.add_add] at this
          exact ⟨v, by simpa using this, _, h3⟩
      have hspot : spot = none := by
        obtain ⟨v, hv, _⟩ := cellOf 0 (by omega)
        simpa [Addr.add] using World.cell?_spot hv
      subst hspot
      have hall : ∀ j, 0 ≤ j → j < len → BdAt w b off j := by
        intro j _ hj
        obtain ⟨v, hv, y, hy⟩ := cellOf j hj
        obtain ⟨xs, n', hn', _, _, hxl, hfs⟩ := DataW.trod_struct Tryd.underlying35 hy
        have g := hfs 0 _ rfl
        simp [Tryd.cells33] at g
        rw [List.getElem?_eq_getElem (by simp at hxl; omega)] at g
        obtain ⟨a2, n2, c2, t2, e2, ht2, hn2, hb2⟩ := (ih n' (by omega)).2 _ _ g
        simp at e2
        subst e2
        rw [add_plain, Nat.mul_one] at hv
        exact ⟨a2, n2, c2, t2, hv, ht2, hn2, hb2⟩
      obtain ⟨t, ht, hb⟩ := build_b b off len len 0 (by omega) hall
      exact ⟨_, _, _, t, rfl, ht, by omega, hb⟩
  · rcases DataW.trod_slice Tryd.underlying33 h with ⟨rfl, _⟩ | ⟨ad, len, cap, elems, rest, n, hf, rfl, _, _, hl, hm, hel, hx, _, _⟩
    · exact ⟨none, 0, 0, .e, rfl, rfl, by unfold maxLen; omega, trivial⟩
    · by_cases h0 : len = 0
      · subst h0
        exact ⟨_, _, _, .e, rfl, rfl, by omega, trivial⟩
      obtain ⟨b, off, spot⟩ := ad
      have cellOf : ∀ i, i < len → ∃ v0 v1 v2 v3 v4 v5, (∀ j, j < 6 → w.cell? ((⟨b, off, spot⟩ : Addr).add (i * 6 + j)) = ([v0, v1, v2, v3, v4, v5] : List Value)[j]?) ∧ ∃ y : DataW H × List MemPlace, DataW.trod enc Tryd.prog w base spare held n 38 [v0, v1, v2, v3, v4, v5] = some y := by
        intro i hi
        have h1 := hx i hi
        rw [Tryd.cells38, List.getElem?_eq_getElem (by omega), Option.bind_eq_some_iff] at h1
        obtain ⟨cs', h2, h3⟩ := h1
        obtain ⟨_, hlen, hcell⟩ := World.cells?_some h2
        match cs', hlen with
        | [v0, v1, v2, v3, v4, v5], _ =>
          refine ⟨v0, v1, v2, v3, v4, v5, fun j hj => ?_, _, h3⟩
          have := hcell j hj
          rwa [Go.Deep.add_add] at this
      have hspot : spot = none := by
        obtain ⟨v0, v1, v2, v3, v4, v5, hv, _⟩ := cellOf 0 (by omega)
        have := hv 0 (by omega)
        simpa [Addr.add] using World.cell?_spot this
      subst hspot
      have hall : ∀ j, 0 ≤ j → j < len → NdAt w b off j := by
        intro j _ hj
        obtain ⟨v0, v1, v2, v3, v4, v5, hv, y, hy⟩ := cellOf j hj
        obtain ⟨xs, n', hn', _, _, hxl, hfs⟩ := DataW.trod_struct Tryd.underlying38 hy
        have hx6 : xs.length = 6 := by simpa using hxl
        have g0 := hfs 0 _ rfl
        have g1 := hfs 1 _ rfl
        have g2 := hfs 2 _ rfl
        have g3 := hfs 3 _ rfl
        have g4 := hfs 4 _ rfl
        have g5 := hfs 5 _ rfl
        simp [Tryd.cells9'] at g0 g1
        simp [Tryd.cells36] at g2
        simp [Tryd.cells4] at g3 g4
        simp [Tryd.cells22] at g5
        rw [List.getElem?_eq_getElem (by omega)] at g0 g1 g2 g3 g4 g5
        obtain ⟨s0, e0, _, z0⟩ := DataW.trod_string Tryd.underlying9 g0
        obtain ⟨s1, e1, _, z1⟩ := DataW.trod_string Tryd.underlying9 g1
        obtain ⟨a2, n2, c2, xs2, e2, hs2, z2, z2'⟩ := open_texts g2
        obtain ⟨b3, e3, _⟩ := DataW.trod_bool Tryd.underlying4 g3
        obtain ⟨b4, e4, _⟩ := DataW.trod_bool Tryd.underlying4 g4
        obtain ⟨a5, n5, c5, t5, e5, ht5, z5, hb5⟩ := (ih n' (by omega)).1 _ _ g5
        simp only [List.cons.injEq, and_true] at e0 e1 e2 e3 e4 e5
        subst e0 e1 e2 e3 e4 e5
        have k : ∀ q, q < 6 → w.cell? ⟨b, off + j * 6 + q, none⟩ = ([.string s0, .string s1, .slice a2 n2 c2, .bool b3, .bool b4, .slice a5 n5 c5] : List Value)[q]? := fun q hq => by
          have := hv q hq
          rwa [add_plain, ← Nat.add_assoc] at this
        refine ⟨⟨s0.data.toList, s1.data.toList, xs2, b3, b4⟩, t5, a2, n2, c2, a5, n5, c5, ?_, ?_, k 2 (by omega), k 3 (by omega), k 4 (by omega), k 5 (by omega), hs2, ht5, ?_, ?_, z2, z2', z5, hb5⟩
        · rw [ba_list]; exact k 0 (by omega)
        · rw [ba_list]; exact k 1 (by omega)
        · show s0.data.toList.length ≤ maxLen; rw [Array.length_toList]; exact z0
        · show s1.data.toList.length ≤ maxLen; rw [Array.length_toList]; exact z1
      obtain ⟨t, ht, hb⟩ := build_n b off len len 0 (by omega) hall
      exact ⟨_, _, _, t, rfl, ht, by omega, hb⟩

set_option maxRecDepth 1000000 in
/-- A saga that came in. -/
theorem open_saga {fuel : Nat} {cs : List Value} {x : DataW H × List MemPlace} (h : DataW.trod enc Tryd.prog w base spare held fuel 24 cs = some x) :
    ∃ (nm : By) (a : Option Addr) (n c : Nat) (t : Tr), cs = [.string ⟨nm.toArray⟩, .slice a n c] ∧ TAt (· < w.heap.size) w true t a 0 n ∧ n ≤ maxLen ∧ t.bnd ∧ nm.length ≤ maxLen := by
  obtain ⟨xs, n', _, _, hcl, hxl, hfs⟩ := DataW.trod_struct Tryd.underlying24 h
  rw [Tryd.cells24] at hcl
  have hx2 : xs.length = 2 := by simpa using hxl
  match cs, hcl with
  | [v0, v1], _ =>
    have g0 := hfs 0 _ rfl
    have g1 := hfs 1 _ rfl
    simp [Tryd.cells9'] at g0
    simp [Tryd.cells22] at g1
    rw [List.getElem?_eq_getElem (by omega)] at g0 g1
    obtain ⟨s0, e0, _, z0⟩ := DataW.trod_string Tryd.underlying9 g0
    obtain ⟨a, n, c, t, e1, ht, hn, hb⟩ := (open_tree n').1 _ _ g1
    simp only [List.cons.injEq, and_true] at e0 e1
    subst e0 e1
    exact ⟨s0.data.toList, a, n, c, t, by rw [ba_list], ht, hn, hb, by rw [Array.length_toList]; exact z0⟩

end Go.Proofs.YtpgdafmenbeffaaDoor.Sx

/- The law's own look at a saga: has it few parts, and short texts? -/
namespace Go.Proofs.YtpgdafmenbeffaaDoor.Sx

open Go.RowKit

/-- How many parts. -/
def Tr.pc : Tr → Nat
  | .e => 0
  | .b x r => 1 + x.pc + r.pc
  | .n l t r => 1 + l.after.length + t.pc + r.pc

/-- All texts are short. -/
def Tr.short : Tr → Prop
  | .e => True
  | .b x r => x.short ∧ r.short
  | .n l t r => (l.name.length ≤ 200 ∧ l.undo.length ≤ 200 ∧ ∀ y ∈ l.after, y.length ≤ 200) ∧ t.short ∧ r.short

def FewOK (t : Tr) : Prop := ∀ (P : Nat → Prop) (w : World) (a : Option Addr) (ca : Nat) (left : Int), TAt P w true t a 0 t.len → t.len ≤ maxLen → t.bnd → 0 < left → left ≤ 2000 →
  Calls Tryd.prog 9 #[.slice a t.len ca, .int .i64 left] w fun e w' => ∃ r : Int, e = .returned (.int .i64 r) ∧ Below w.heap.size w w' ∧ -9223372036854775808 ≤ r ∧ r ≤ 2000 ∧ (r ≤ 0 ∨ (r + t.pc = left ∧ t.short))

theorem mx_lim : maxLen = 9223372036854775807 := by simp [maxLen]

set_option maxRecDepth 1000000 in
set_option maxHeartbeats 4000000 in
theorem few_step (t : Tr) (IH : ∀ tn, tn.sz < t.sz → FewOK tn) : FewOK t := by
  intro P w a ca left ha hTm hbn hl0 hl1
  obtain ⟨T, HT⟩ : ∃ T, Hid (t.len = T) := ⟨_, rfl⟩
  rw [HT.out] at ha hTm ⊢
  rw [mx_lim] at hTm
  have HIH : Hid (∀ tn, tn.sz < t.sz → FewOK tn) := IH
  obtain ⟨D, HD⟩ : ∃ D, Hid (t.pc = D) := ⟨_, rfl⟩
  obtain ⟨S, HSt⟩ : ∃ S, Hid (t.short = S) := ⟨_, rfl⟩
  rw [HD.out, HSt.out]
  have HA0 : Hid (TAt P w true t a 0 T) := ha
  have HF0 : Hid (t.sz ≤ t.sz ∧ t.bnd) := ⟨Nat.le_refl _, hbn⟩
  have HL0 : Hid (Below w.heap.size w w) := Below.refl _ _
  have HM0 : Hid (left ≤ 0 ∨ (left + D = left + t.pc ∧ (t.short → S))) := .inr ⟨by rw [HD.out], by rw [HSt.out]; exact id⟩
  clear ha IH hbn
  go_enter Tryd.func9, Tryd.ntmps9
  go_wp2_with fail
  go_loopw [1, 5, 6, 7, 8] (fun lv iv _ _ _ wr => ∃ (i : Nat) (l : Int) (rest : Tr), i ≤ T ∧ -9223372036854775808 ≤ l ∧ l ≤ 2000 ∧ iv = .int .i64 i ∧ lv = .int .i64 l ∧ Hid (TAt P w true rest a i T) ∧ Hid (rest.sz ≤ t.sz ∧ rest.bnd) ∧ Hid (l ≤ 0 ∨ (l + D = left + rest.pc ∧ (rest.short → S))) ∧ Hid (Below w.heap.size w wr)) (fun _ iv _ _ _ _ => T - (intOf iv).toNat)
  case atStart => exact ⟨0, left, t, Nat.zero_le _, by omega, hl1, rfl, rfl, HA0, HF0, HM0, HL0⟩
  case round =>
    obtain ⟨i, l0, rest, hi, hlo, hhi, rfl, rfl, HA, HF, HM, HL⟩ := hrel
    rename World => w1
    clear HA0 HF0 HL0 HM0
    cases rest with
    | n _ _ _ => have := HA.out.1; simp at this
    | e =>
      have hie : i = T := HA.out
      subst hie
      have HE : Hid (l0 ≤ 0 ∨ (l0 + D = left ∧ S)) := by
        rcases HM.out with h | ⟨h1, h2⟩
        · exact .inl h
        · exact .inr ⟨by simpa [Tr.pc] using h1, h2 trivial⟩
      go_wp2_with fail
      go_ret
      exact ⟨l0, rfl, HL.out, hlo, hhi, HE.out⟩
    | b x r =>
      obtain ⟨_, hlt, ⟨b1, o1, v1, m1, c1, rfl, hp1, hc1, hx1⟩, hr1⟩ := HA.out
      obtain rfl : m1 = x.len := by have := hx1.len; omega
      have hf := HF.out
      simp only [Tr.sz, Tr.bnd] at hf
      obtain ⟨hf1, hxm, hxb, hrb⟩ := hf
      rw [mx_lim] at hxm
      have hss : x.sz < t.sz ∧ r.sz ≤ t.sz ∧ x.bnd ∧ r.bnd := ⟨by omega, by omega, hxb, hrb⟩
      obtain ⟨M, HMx⟩ : ∃ M, Hid (x.len = M) := ⟨_, rfl⟩
      rw [HMx.out] at hc1 hx1 hxm
      have hli : (i : Int) < (T : Int) := by omega
      have HX1 : Hid (TAt P w false x v1 0 M) := hx1
      have HR1 : Hid (TAt P w true r (some ⟨b1, o1, none⟩) (i + 1) T) := hr1
      have HS : Hid (x.sz < t.sz ∧ r.sz ≤ t.sz ∧ x.bnd ∧ r.bnd) := hss
      have HC1 : Hid (w.cell? ⟨b1, o1 + i, none⟩ = some (.slice v1 M c1)) := hc1
      clear hx1 hr1 hss HA HF hc1 hf1 hxb hrb
      by_cases hl : l0 ≤ 0
      · have hln : ¬ (0 : Int) < l0 := by omega
        go_wp2_with fail
        go_ret
        exact ⟨l0, rfl, HL.out, hlo, hhi, .inl hl⟩
      · have hlp : (0 : Int) < l0 := by omega
        have HM2 : Hid (l0 - 1 ≤ 0 ∨ (l0 - 1 + D = left + (x.pc + r.pc : Nat) ∧ (x.short → r.short → S))) := by
          rcases HM.out with h | ⟨h1, h2⟩
          · exact absurd h hl
          · refine .inr ⟨?_, fun h3 h4 => h2 ⟨h3, h4⟩⟩
            simp only [Tr.pc] at h1
            omega
        clear HM
        go_wp2_with fail
        go_loopw [1, 6, 7, 8] (fun lv kv _ _ wr => ∃ (k : Nat) (l : Int) (rest : Tr), k ≤ M ∧ -9223372036854775808 ≤ l ∧ l ≤ 2000 ∧ kv = .int .i64 k ∧ lv = .int .i64 l ∧ Hid (TAt P w false rest v1 k M) ∧ Hid (rest.sz ≤ x.sz ∧ rest.bnd) ∧ Hid (l ≤ 0 ∨ (l + D = left + (rest.pc + r.pc : Nat) ∧ (rest.short → r.short → S))) ∧ Hid (Below w.heap.size w wr)) (fun _ kv _ _ _ => M - (intOf kv).toNat)
        case atStart => exact ⟨0, l0 - 1, x, Nat.zero_le _, by omega, by omega, rfl, rfl, HX1, ⟨Nat.le_refl _, HS.out.2.2.1⟩, HM2, HL⟩
        case round =>
          clear HM2 HX1 HL hlo hhi hl hlp
          obtain ⟨k, l1, rest, hk, hlo, hhi, rfl, rfl, HA, HF, HM, HL⟩ := hrel
          rename World => w3
          have d1 := cell_later HL.out HC1.out
          cases rest with
          | b _ _ => have := HA.out.1; simp at this
          | e =>
            have hke : k = M := HA.out
            subst hke
            have HMr : Hid (l1 ≤ 0 ∨ (l1 + D = left + (r.pc : Nat) ∧ (r.short → S))) := by
              rcases HM.out with h | ⟨h1, h2⟩
              · exact .inl h
              · exact .inr ⟨by simpa [Tr.pc] using h1, h2 trivial⟩
            go_wp2_with fail
            go_roundw
            case rel => exact ⟨i + 1, l1, r, by omega, hlo, hhi, by go_num, rfl, HR1, ⟨HS.out.2.1, HS.out.2.2.2⟩, HMr, HL⟩
            case measure => simp [intOf]; omega
          | n lb tn r2 =>
            obtain ⟨_, hlt2, ⟨b3, o3, sv3, sm3, sc3, av3, am3, ac3, rfl, hp3, e30, e31, e32, e33, e34, e35, hs3, ht3⟩, hr3⟩ := HA.out
            obtain rfl : am3 = tn.len := by have := ht3.len; omega
            obtain rfl : sm3 = lb.after.length := hs3.1
            have hf := HF.out
            simp only [Tr.sz, Tr.bnd, mx_lim] at hf
            obtain ⟨hf1, q1, q2, q3, q4, q5, q6, q7⟩ := hf
            have hkl : (k : Int) < (M : Int) := by omega
            by_cases hl : l1 ≤ 0
            · have hln : ¬ (0 : Int) < l1 := by omega
              have HMr : Hid (l1 ≤ 0 ∨ (l1 + D = left + (r.pc : Nat) ∧ (r.short → S))) := .inl hl
              clear hr3 hs3 ht3 HA HF HM e30 e31 e32 e33 e34 e35
              go_wp2_with fail
              go_roundw
              case rel => exact ⟨i + 1, l1, r, by omega, hlo, hhi, by go_num, rfl, HR1, ⟨HS.out.2.1, HS.out.2.2.2⟩, HMr, HL⟩
              case measure => simp [intOf]; omega
            · have hlp : (0 : Int) < l1 := by omega
              have hSx := HS.out.1
              have HI : Hid (FewOK tn) := HIH.out tn (by omega)
              have HRa : Hid (TAt P w false r2 (some ⟨b3, o3, none⟩) (k + 1) M) := hr3
              have HTa : Hid (TAt P w true tn av3 0 tn.len) := ht3
              have HSa : Hid (SAt P w lb.after sv3 lb.after.length) := hs3
              have HFr : Hid (r2.sz ≤ x.sz ∧ r2.bnd) := ⟨by omega, q7⟩
              have HTb : Hid (tn.bnd ∧ tn.len ≤ maxLen) := ⟨q6, by rw [mx_lim]; exact q5⟩
              have g30 := cell_later HL.out e30
              have g31 := cell_later HL.out e31
              have g32 := cell_later HL.out e32
              have g33 := cell_later HL.out e33
              have g34 := cell_later HL.out e34
              have g35 := cell_later HL.out e35
              have bW : Below w3.heap.size w3 (w3.alloc (.cells #[.string ⟨lb.name.toArray⟩, .string ⟨lb.undo.toArray⟩, .slice sv3 lb.after.length sc3, .bool lb.sub, .bool lb.vital, .slice av3 tn.len ac3] 38)) := (Below.refl _ w3).alloc (Nat.le_refl _) _
              have HBW : Hid (Below w.heap.size w (w3.alloc (.cells #[.string ⟨lb.name.toArray⟩, .string ⟨lb.undo.toArray⟩, .slice sv3 lb.after.length sc3, .bool lb.sub, .bool lb.vital, .slice av3 tn.len ac3] 38))) := HL.out.trans (bW.mono HL.out.size)
              have HNb : Hid _ := row_new w3 #[.string ⟨lb.name.toArray⟩, .string ⟨lb.undo.toArray⟩, .slice sv3 lb.after.length sc3, .bool lb.sub, .bool lb.vital, .slice av3 tn.len ac3] 38
              have hsz1 : (⟨lb.name.toArray⟩ : ByteArray).size = lb.name.length := by show lb.name.toArray.size = _; simp
              have hsz2 : (⟨lb.undo.toArray⟩ : ByteArray).size = lb.undo.length := by show lb.undo.toArray.size = _; simp
              have HM3 : Hid (l1 + D = left + ((1 + lb.after.length + tn.pc + r2.pc) + r.pc : Nat) ∧ (((lb.name.length ≤ 200 ∧ lb.undo.length ≤ 200 ∧ ∀ y ∈ lb.after, y.length ≤ 200) ∧ tn.short ∧ r2.short) → r.short → S)) := by
                rcases HM.out with h | h
                · exact absurd h hl
                · exact h
              clear hr3 hs3 ht3 HA HF HM e30 e31 e32 e33 e34 e35 bW HL hf1 q4 q6 q7
              by_cases hn1 : 200 < lb.name.length
              · have hn1i : (200 : Int) < ((⟨lb.name.toArray⟩ : ByteArray).size : Int) := by rw [hsz1]; omega
                go_wp2_with fail
                go_ret
                exact ⟨0, rfl, HBW.out, by omega, by omega, .inl (by omega)⟩
              · have hn1i : ¬ (200 : Int) < ((⟨lb.name.toArray⟩ : ByteArray).size : Int) := by rw [hsz1]; omega
                have hn1d : decide ((200 : Int) < ((⟨lb.name.toArray⟩ : ByteArray).size : Int)) = false := by simpa using hn1i
                by_cases hn2 : 200 < lb.undo.length
                · have hn2i : (200 : Int) < ((⟨lb.undo.toArray⟩ : ByteArray).size : Int) := by rw [hsz2]; omega
                  go_wp2_with fail
                  go_ret
                  exact ⟨0, rfl, HBW.out, by omega, by omega, .inl (by omega)⟩
                · have hn2i : ¬ (200 : Int) < ((⟨lb.undo.toArray⟩ : ByteArray).size : Int) := by rw [hsz2]; omega
                  have hn2d : decide ((200 : Int) < ((⟨lb.undo.toArray⟩ : ByteArray).size : Int)) = false := by simpa using hn2i
                  obtain ⟨Lf, hLf⟩ : ∃ Lf : Int, Lf = l1 - 1 - (lb.after.length : Int) := ⟨_, rfl⟩
                  have HLf : Hid (Lf = l1 - 1 - (lb.after.length : Int)) := hLf
                  have hLfb : -9223372036854775808 ≤ Lf ∧ Lf ≤ 2000 := by omega
                  go_upto_region 12 with fail
                  rw [← hLf]
                  clear hLf g30 g31 g32 g33 g34 g35 d1
                  generalize w3.alloc (.cells #[.string ⟨lb.name.toArray⟩, .string ⟨lb.undo.toArray⟩, .slice sv3 lb.after.length sc3, .bool lb.sub, .bool lb.vital, .slice av3 tn.len ac3] 38) = w4 at *
                  have n2 := (cell_row HNb.out 2).trans rfl
                  have n5 := (cell_row HNb.out 5).trans rfl
                  go_wp2_with fail
                  go_loopw [8] (fun jv wr => ∃ (j : Nat), j ≤ lb.after.length ∧ jv = .int .i64 j ∧ wr = w4 ∧ Hid (∀ y ∈ lb.after.take j, y.length ≤ 200)) (fun jv _ => lb.after.length - (intOf jv).toNat)
                  case atStart => exact ⟨0, Nat.zero_le _, rfl, rfl, by show ∀ y ∈ lb.after.take 0, _; simp⟩
                  case round =>
                    obtain ⟨j, hj, rfl, rfl, HJ⟩ := hrel
                    by_cases hLp : Lf ≤ 0
                    · have hLn : ¬ (0 : Int) < Lf := by omega
                      have hLd : decide ((0 : Int) < Lf) = false := by simpa using hLn
                      by_cases hjl : j < lb.after.length
                      · have hji : (j : Int) < (lb.after.length : Int) := by omega
                        go_wp2_with fail
                        go_roundw
                        case rel => exact ⟨k + 1, Lf, r2, by omega, hLfb.1, hLfb.2, by go_num, rfl, HRa, HFr, .inl hLp, HBW⟩
                        case measure => simp [intOf]; omega
                      · have hji : ¬ (j : Int) < (lb.after.length : Int) := by omega
                        have hjd : decide ((j : Int) < (lb.after.length : Int)) = false := by simpa using hji
                        go_wp2_with fail
                        go_roundw
                        case rel => exact ⟨k + 1, Lf, r2, by omega, hLfb.1, hLfb.2, by go_num, rfl, HRa, HFr, .inl hLp, HBW⟩
                        case measure => simp [intOf]; omega
                    · have hLq : (0 : Int) < Lf := by omega
                      by_cases hjl : j < lb.after.length
                      · have hji : (j : Int) < (lb.after.length : Int) := by omega
                        obtain ⟨y, hy⟩ : ∃ y, lb.after[j]? = some y := ⟨_, List.getElem?_eq_getElem hjl⟩
                        obtain ⟨b5, o5, rfl, _, c5⟩ := HSa.out.2 j y hy
                        have c5' := cell_later HBW.out c5
                        have hsz5 : (⟨y.toArray⟩ : ByteArray).size = y.length := by show y.toArray.size = _; simp
                        by_cases hy2 : 200 < y.length
                        · have hyi : (200 : Int) < ((⟨y.toArray⟩ : ByteArray).size : Int) := by rw [hsz5]; omega
                          clear hy
                          go_wp2_with fail
                          go_ret
                          exact ⟨0, rfl, HBW.out, by omega, by omega, .inl (by omega)⟩
                        · have hyi : ¬ (200 : Int) < ((⟨y.toArray⟩ : ByteArray).size : Int) := by rw [hsz5]; omega
                          have hyd : decide ((200 : Int) < ((⟨y.toArray⟩ : ByteArray).size : Int)) = false := by simpa using hyi
                          have HJ2 : Hid (∀ z ∈ lb.after.take (j + 1), z.length ≤ 200) := by
                            show ∀ z ∈ lb.after.take (j + 1), _
                            intro z hz
                            rw [List.take_add_one, hy] at hz
                            simp at hz
                            rcases hz with hz | rfl
                            · exact HJ.out z hz
                            · omega
                          clear hy HJ
                          go_wp2_with fail
                          go_roundw
                          case rel => exact ⟨j + 1, by omega, by go_num, trivial, HJ2⟩
                          case measure => simp [intOf]; omega
                      · have hji : ¬ (j : Int) < (lb.after.length : Int) := by omega
                        have hjd : decide ((j : Int) < (lb.after.length : Int)) = false := by simpa using hji
                        have hall : ∀ y ∈ lb.after, y.length ≤ 200 := by
                          intro y hy
                          refine HJ.out y ?_
                          rw [List.take_of_length_le (by omega)]
                          exact hy
                        have HALL : Hid _ := hall
                        have M6 : Hid _ := HI.out P wr av3 ac3 Lf (HTa.out.below HBW.out) HTb.out.2 HTb.out.1 hLq hLfb.2
                        clear hall HJ
                        go_wp2_with fail
                        refine Calls.mono M6.out ?_
                        rintro e w6 ⟨r', rfl, hb6, hr1, hr2, hr3⟩
                        have HL6 : Hid (Below w.heap.size w w6) := HBW.out.trans (hb6.mono HBW.out.size)
                        have HM6 : Hid (r' ≤ 0 ∨ (r' + D = left + (r2.pc + r.pc : Nat) ∧ (r2.short → r.short → S))) := by
                          rcases hr3 with h | ⟨h1, h2⟩
                          · exact .inl h
                          · obtain ⟨h3, h4⟩ := HM3.out
                            have h5 := HLf.out
                            exact .inr ⟨by omega, fun h6 h7 => h4 ⟨⟨by omega, by omega, HALL.out⟩, h2, h6⟩ h7⟩
                        clear hb6 M6 HBW hr3
                        go_wp2_with fail
                        go_roundw
                        case rel => exact ⟨k + 1, r', r2, by omega, hr1, hr2, by go_num, rfl, HRa, HFr, HM6, HL6⟩
                        case measure => simp [intOf]; omega

theorem few_all : ∀ (n : Nat) (t : Tr), t.sz ≤ n → FewOK t := by
  intro n
  induction n with
  | zero => intro t ht; exact few_step t (fun tn h => by omega)
  | succ n ih => intro t ht; exact few_step t (fun tn h => ih tn (by omega))

/-- How 'few' ends. -/
def FewC (x : By) (t : Tr) (w : World) (e : Ending) (w' : World) : Prop := ∃ q, e = .returned (.bool q) ∧ Below w.heap.size w w' ∧ (q = true → x.length ≤ 200 ∧ t.pc ≤ 1000 ∧ t.short)

set_option maxRecDepth 1000000 in
/-- What 'few' tells. -/
theorem few_any (x : By) (t : Tr) (P : Nat → Prop) (w : World) (a : Option Addr) (ca : Nat) (ha : TAt P w true t a 0 t.len) (hm : t.len ≤ maxLen) (hb : t.bnd) (hx : x.length ≤ maxLen) :
    Calls Tryd.prog 4 #[.agg #[.string ⟨x.toArray⟩, .slice a t.len ca]] w fun e w' => FewC x t w e w' := by
  rw [mx_lim] at hx
  have bW : Below w.heap.size w (w.alloc (.cells #[.string ⟨x.toArray⟩, .slice a t.len ca] 24)) := (Below.refl _ w).alloc (Nat.le_refl _) _
  have M1 : Hid _ := few_all t.sz t (Nat.le_refl _) P _ a ca 1000 (ha.below bW) hm hb (by omega) (by omega)
  have HBW : Hid _ := bW
  have hsz : (⟨x.toArray⟩ : ByteArray).size = x.length := by show x.toArray.size = _; simp
  clear ha bW hb
  by_cases h2 : x.length ≤ 200
  · have h2i : ((⟨x.toArray⟩ : ByteArray).size : Int) ≤ 200 := by rw [hsz]; omega
    go_enter Tryd.func4, Tryd.ntmps4
    go_wp2_with fail
    refine Calls.mono M1.out ?_
    rintro e w5 ⟨r, rfl, hb5, h3, h4, h5⟩
    have HQ : Hid (decide ((0 : Int) < r) = true → x.length ≤ 200 ∧ t.pc ≤ 1000 ∧ t.short) := by
      show _ → _
      intro h
      have h6 : (0 : Int) < r := by simpa using h
      rcases h5 with h7 | ⟨h7, h8⟩
      · omega
      · exact ⟨h2, by omega, h8⟩
    clear h5
    go_wp2_with fail
    go_ret
    exact ⟨_, rfl, HBW.out.trans (hb5.mono HBW.out.size), HQ.out⟩
  · have h2i : ¬ ((⟨x.toArray⟩ : ByteArray).size : Int) ≤ 200 := by rw [hsz]; omega
    have h2d : decide (((⟨x.toArray⟩ : ByteArray).size : Int) ≤ 200) = false := by simpa using h2i
    go_enter Tryd.func4, Tryd.ntmps4
    go_wp2_with fail
    go_ret
    exact ⟨false, rfl, HBW.out, fun h => by cases h⟩

end Go.Proofs.YtpgdafmenbeffaaDoor.Sx

/- Sets of nodes as bits of one number (plain words; no program is named). -/
namespace Go.Proofs.YtpgdafmenbeffaaDoor.Dg

/-- Those of a that are not in b. -/
def dif (a b : Nat) : Nat := a ^^^ (a &&& b)

theorem dif_bit (a b i : Nat) : (dif a b).testBit i = (a.testBit i && !b.testBit i) := by
  simp only [dif, Nat.testBit_xor, Nat.testBit_and]
  cases a.testBit i <;> cases b.testBit i <;> rfl

theorem eq_zero {a : Nat} (h : ∀ i, a.testBit i = false) : a = 0 := Nat.eq_of_testBit_eq (fun i => by rw [h i, Nat.zero_testBit])

theorem dif_zero {a b : Nat} : dif a b = 0 ↔ ∀ i, a.testBit i = true → b.testBit i = true := by
  constructor
  · intro h i ha
    have := dif_bit a b i
    rw [h, Nat.zero_testBit, ha] at this
    cases hb : b.testBit i with
    | true => rfl
    | false => rw [hb] at this; cases this
  · intro h
    refine eq_zero fun i => ?_
    rw [dif_bit]
    cases ha : a.testBit i with
    | false => rfl
    | true => rw [h i ha]; rfl

theorem bit_lt {a i : Nat} (ha : a < 18446744073709551616) (h : a.testBit i = true) : i < 64 := by
  rcases Nat.lt_or_ge i 64 with h1 | h1
  · exact h1
  · have h3 : 2 ^ 64 ≤ 2 ^ i := Nat.pow_le_pow_right (by decide) h1
    have : a.testBit i = false := Nat.testBit_lt_two_pow (by omega)
    rw [this] at h
    cases h

theorem dif_lt {a b : Nat} (ha : a < 18446744073709551616) : dif a b < 18446744073709551616 := by
  have : dif a b < 2 ^ 64 := by
    refine Nat.lt_pow_two_of_testBit _ fun i hi => ?_
    rw [dif_bit]
    have h3 : 2 ^ 64 ≤ 2 ^ i := Nat.pow_le_pow_right (by decide) hi
    rw [Nat.testBit_lt_two_pow (show a < 2 ^ i by omega)]
    rfl
  omega

theorem bits_andNot_u64_nat (a b : Nat) (ha : a < 18446744073709551616) (hb : b < 18446744073709551616) :
    bits .andNot .u64 (a : Int) (b : Int) = ((dif a b : Nat) : Int) := by
  have h1 : (BitVec.ofInt 64 (a : Int)).toNat = a := by
    rw [BitVec.ofInt_natCast, BitVec.toNat_ofNat]; exact Nat.mod_eq_of_lt (by omega)
  have h2 : (BitVec.ofInt 64 (b : Int)).toNat = b := by
    rw [BitVec.ofInt_natCast, BitVec.toNat_ofNat]; exact Nat.mod_eq_of_lt (by omega)
  have h3 : a &&& (2 ^ 64 - 1 - b) = dif a b := by
    apply Nat.eq_of_testBit_eq
    intro i
    rw [Nat.testBit_and, dif_bit, show 2 ^ 64 - 1 - b = 2 ^ 64 - (b + 1) by omega, Nat.testBit_two_pow_sub_succ (by omega)]
    cases hi : a.testBit i with
    | false => rfl
    | true => simp [bit_lt ha hi]
  have h4 := dif_lt (b := b) ha
  show IntKind.u64.wrap ((BitVec.ofInt 64 (a : Int) &&& ~~~ BitVec.ofInt 64 (b : Int)).toNat : Int) = _
  rw [BitVec.toNat_and, BitVec.toNat_not, h1, h2, h3, IntKind.wrap_u64]
  omega

/-- The least one. -/
def low (x : Nat) : Nat := Lib.ctz 64 x

theorem low_form {x : Nat} (h0 : x ≠ 0) (hx : x < 18446744073709551616) : ∃ m, x = 2 ^ low x * (2 * m + 1) ∧ low x < 64 := by
  unfold low Lib.ctz
  rw [if_neg h0]
  exact Lib.ctzFrom_spec 64 x (by omega) (by omega)

theorem low_bit {x : Nat} (h0 : x ≠ 0) (hx : x < 18446744073709551616) : x.testBit (low x) = true ∧ (∀ i, i < low x → x.testBit i = false) ∧ low x < 64 := by
  obtain ⟨m, hm, hk⟩ := low_form h0 hx
  generalize low x = k at *
  refine ⟨?_, fun i hi => ?_, hk⟩
  · rw [hm, Nat.mul_comm, Nat.testBit_mul_two_pow]
    simp
  · rw [hm, Nat.mul_comm, Nat.testBit_mul_two_pow]
    simp
    omega

/-- Without the least one. -/
theorem drop_low {x : Nat} (h0 : x ≠ 0) (hx : x < 18446744073709551616) (i : Nat) : (x &&& (x - 1)).testBit i = (x.testBit i && decide (i ≠ low x)) := by
  obtain ⟨h1, h2, h3⟩ := low_bit h0 hx
  obtain ⟨m, hm, _⟩ := low_form h0 hx
  rw [Nat.testBit_and]
  generalize low x = k at *
  rcases Nat.lt_trichotomy i k with hi | hi | hi
  · rw [h2 i hi]; rfl
  · subst hi
    have hp : 0 < 2 ^ i := Nat.two_pow_pos i
    have e : x - 1 = 2 * m * 2 ^ i + (2 ^ i - 1) := by rw [hm, Nat.mul_add, Nat.mul_comm (2 ^ i) (2 * m)]; omega
    have : (x - 1).testBit i = false := by
      rw [Nat.testBit_eq_decide_div_mod_eq, e]
      have : (2 * m * 2 ^ i + (2 ^ i - 1)) / 2 ^ i = 2 * m := by
        rw [Nat.mul_comm, Nat.mul_add_div hp, Nat.div_eq_of_lt (by omega), Nat.add_zero]
      rw [this]
      simp
    rw [this]
    simp
  · have hp : 0 < 2 ^ (k + 1) := Nat.two_pow_pos _
    have e1 : x / 2 ^ (k + 1) = m := by
      rw [hm, show 2 ^ k * (2 * m + 1) = 2 ^ (k + 1) * m + 2 ^ k by rw [Nat.pow_succ, Nat.mul_add, Nat.mul_assoc]; omega, Nat.mul_add_div hp, Nat.div_eq_of_lt (by rw [Nat.pow_succ]; have := Nat.two_pow_pos k; omega), Nat.add_zero]
    have e2 : (x - 1) / 2 ^ (k + 1) = m := by
      have hk : 0 < 2 ^ k := Nat.two_pow_pos k
      rw [hm, show 2 ^ k * (2 * m + 1) - 1 = 2 ^ (k + 1) * m + (2 ^ k - 1) by rw [Nat.pow_succ, Nat.mul_add, Nat.mul_assoc]; omega, Nat.mul_add_div hp, Nat.div_eq_of_lt (by rw [Nat.pow_succ]; omega), Nat.add_zero]
    have e3 : (x - 1).testBit i = x.testBit i := by
      obtain ⟨j, rfl⟩ : ∃ j, i = (k + 1) + j := ⟨i - (k + 1), by omega⟩
      rw [Nat.testBit_eq_decide_div_mod_eq, Nat.testBit_eq_decide_div_mod_eq, Nat.pow_add, ← Nat.div_div_eq_div_mul, ← Nat.div_div_eq_div_mul, e1, e2]
    rw [e3]
    have : decide (i ≠ k) = true := by simp; omega
    rw [this]
    cases x.testBit i <;> rfl

/-- The nodes of a set, rising. -/
def bitsOf (s : Nat) : List Nat := (List.range 64).filter fun i => s.testBit i

theorem mem_bitsOf {s i : Nat} (hs : s < 18446744073709551616) : i ∈ bitsOf s ↔ s.testBit i = true := by
  unfold bitsOf
  rw [List.mem_filter, List.mem_range]
  exact ⟨fun h => h.2, fun h => ⟨bit_lt hs h, h⟩⟩

theorem bitsOf_zero : bitsOf 0 = [] := by simp [bitsOf]

theorem bitsOf_len (s : Nat) : (bitsOf s).length ≤ 64 := by
  have := List.length_filter_le (fun i => s.testBit i) (List.range 64)
  simpa [bitsOf] using this

theorem range_at (k : Nat) (h : k < 64) : List.range 64 = List.range k ++ (k :: List.range' (k + 1) (63 - k)) := by
  rw [List.range_eq_range', List.range_eq_range']
  have h1 : List.range' 0 64 = List.range' 0 k ++ List.range' (0 + k) (64 - k) := by
    rw [List.range'_append_1]
    congr 1
    omega
  rw [h1, Nat.zero_add, show 64 - k = (63 - k) + 1 by omega, List.range'_succ]

theorem bitsOf_step {s : Nat} (h0 : s ≠ 0) (hs : s < 18446744073709551616) : bitsOf s = low s :: bitsOf (s &&& (s - 1)) := by
  obtain ⟨h1, h2, h3⟩ := low_bit h0 hs
  have hd := drop_low h0 hs
  unfold bitsOf
  generalize low s = k at *
  rw [range_at k h3, List.filter_append, List.filter_append, List.filter_cons, List.filter_cons]
  have e1 : (List.range k).filter (fun i => s.testBit i) = [] := by
    rw [List.filter_eq_nil_iff]
    intro i hi
    rw [h2 i (List.mem_range.1 hi)]
    decide
  have e2 : (List.range k).filter (fun i => (s &&& (s - 1)).testBit i) = [] := by
    rw [List.filter_eq_nil_iff]
    intro i hi
    rw [hd, h2 i (List.mem_range.1 hi)]
    simp
  have e3 : (List.range' (k + 1) (63 - k)).filter (fun i => (s &&& (s - 1)).testBit i) = (List.range' (k + 1) (63 - k)).filter (fun i => s.testBit i) := by
    apply List.filter_congr
    intro i hi
    rw [List.mem_range'_1] at hi
    rw [hd]
    have : decide (i ≠ k) = true := by simp; omega
    rw [this, Bool.and_true]
  have e4 : (s &&& (s - 1)).testBit k = false := by rw [hd]; simp
  rw [e1, e2, e3, h1, e4]
  simp

theorem sub_lt64 {s : Nat} (hs : s < 18446744073709551616) : s &&& (s - 1) < 18446744073709551616 := by
  have : s &&& (s - 1) < 2 ^ 64 := Nat.and_lt_two_pow _ (by omega)
  omega

theorem or_bit (a k i : Nat) : (a ||| 2 ^ k).testBit i = (a.testBit i || decide (i = k)) := by
  rw [Nat.testBit_or, Nat.testBit_two_pow]
  congr 1
  exact decide_eq_decide.2 ⟨fun h => h.symm, fun h => h.symm⟩

theorem or_lt {a b : Nat} (ha : a < 18446744073709551616) (hb : b < 18446744073709551616) : a ||| b < 18446744073709551616 := by
  have : a ||| b < 2 ^ 64 := Nat.or_lt_two_pow (by omega) (by omega)
  omega

theorem two_lt {k : Nat} (h : k < 64) : 2 ^ k < 18446744073709551616 := by
  have : 2 ^ k < 2 ^ 64 := Nat.pow_lt_pow_right (by decide) h
  omega

/-- Of the first k nodes those that lean on none but those. -/
def freeTo (W : List Nat) (those : Nat) : Nat → Nat
  | 0 => 0
  | k + 1 => if dif (W.getD k 0) those = 0 then freeTo W those k ||| 2 ^ k else freeTo W those k

theorem freeTo_bit (W : List Nat) (those : Nat) : ∀ k i, (freeTo W those k).testBit i = (decide (i < k) && decide (dif (W.getD i 0) those = 0)) := by
  intro k
  induction k with
  | zero => intro i; simp [freeTo]
  | succ k ih =>
    intro i
    unfold freeTo
    split
    · rename_i h
      rw [or_bit, ih]
      by_cases hi : i = k
      · subst hi
        rw [decide_eq_true h]
        simp
      · have : decide (i < k + 1) = decide (i < k) := by simp; omega
        rw [this]
        simp [hi]
    · rename_i h
      rw [ih]
      by_cases hi : i = k
      · subst hi
        rw [decide_eq_false h]
        simp
      · have : decide (i < k + 1) = decide (i < k) := by simp; omega
        rw [this]

theorem freeTo_lt (W : List Nat) (those : Nat) (k : Nat) (hk : k ≤ 64) : freeTo W those k < 18446744073709551616 := by
  have : freeTo W those k < 2 ^ 64 := by
    refine Nat.lt_pow_two_of_testBit _ fun i hi => ?_
    rw [freeTo_bit]
    have : decide (i < k) = false := by simp; omega
    rw [this]
    rfl
  omega
end Go.Proofs.YtpgdafmenbeffaaDoor.Dg

