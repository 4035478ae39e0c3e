/- Texts of the seat, packed: Tk Tl. -/
import Derived.Test.YtlmfmgpamhhncaaPE
/- The examples of the chapter. -/
namespace Go.Proofs.Ytlmfmgpamhhncaa
open Go.RowKit

section
variable {nm nm' : By → Bool} {L : List By} (h : ∀ t ∈ L, nm t = nm' t)
include h

theorem rName_congr (i : Nat) : rName nm L i = rName nm' L i := by
  unfold rName
  cases hl : L[i]? with
  | none => rfl
  | some t => simp only; rw [h t (List.mem_of_getElem? hl)]

theorem rMore_congr (f : Nat) : ∀ i, rMore nm L f i = rMore nm' L f i := by
  induction f with
  | zero => intro i; rfl
  | succ f ih =>
    intro i
    rw [rMore, rMore, rName_congr h]
    simp only [ih]

theorem rLean_congr (i : Nat) : rLean nm L i = rLean nm' L i := by
  unfold rLean
  rw [rName_congr h]
  simp only [rMore_congr h]

theorem rUndo_congr (i : Nat) : rUndo nm L i = rUndo nm' L i := by
  unfold rUndo
  rw [rName_congr h]

theorem rStep_congr (i : Nat) : rStep nm L i = rStep nm' L i := by
  unfold rStep
  rw [rName_congr h]
  simp only [rUndo_congr h, rLean_congr h]

theorem rNode_congr (g g' : Nat → Got Tr) (hg : ∀ i, g i = g' i) (i : Nat) : rNode nm L g i = rNode nm' L g' i := by
  unfold rNode rSub
  rw [rStep_congr h, rName_congr h]
  simp only [rLean_congr h, hg]

theorem rd_congr (f : Nat) : ∀ k i, rd nm L f k i = rd nm' L f k i := by
  induction f with
  | zero => intro k i; cases k <;> rfl
  | succ f ih =>
    intro k i
    cases k with
    | true => rw [rd, rd]; simp only [ih]
    | false =>
      rw [rd, rd, rNode_congr h (brace L (rd nm L f true)) (brace L (rd nm' L f true)) (fun i => by unfold brace; rw [ih])]
      simp only [ih]

theorem rSaga_congr (F : Nat) : rSaga nm L F = rSaga nm' L F := by
  unfold rSaga brace
  rw [rName_congr h]
  simp only [rd_congr h]
end

def lx : By → Bool := fun x => x == [116] || x == [97] || x == [98] || x == [99] || x == [100]

theorem name1 (c : UInt8) (n : Int) (h1 : enc n = [c]) (h2 : kl n = 1) (h3 : isCp n = true) : nameP [c] :=
  ⟨[n], by simp [encAll, h1], n, [], rfl, h2, by simp, by simp [h3], by simp [encAll, h1]⟩

theorem nm_t : nmP [116] = true := by
  rw [nmP, (isName_iff _).2 (name1 116 116 (by decide +kernel) (by decide +kernel) (by decide +kernel))]; rfl
theorem nm_a : nmP [97] = true := by
  rw [nmP, (isName_iff _).2 (name1 97 97 (by decide +kernel) (by decide +kernel) (by decide +kernel))]; rfl
theorem nm_b : nmP [98] = true := by
  rw [nmP, (isName_iff _).2 (name1 98 98 (by decide +kernel) (by decide +kernel) (by decide +kernel))]; rfl
theorem nm_c : nmP [99] = true := by
  rw [nmP, (isName_iff _).2 (name1 99 99 (by decide +kernel) (by decide +kernel) (by decide +kernel))]; rfl
theorem nm_d : nmP [100] = true := by
  rw [nmP, (isName_iff _).2 (name1 100 100 (by decide +kernel) (by decide +kernel) (by decide +kernel))]; rfl

theorem nm_w (s : By) (h : isWord s = true) : nmP s = false := by simp [nmP, h]
theorem nm_m (s : By) (h : isM s) : nmP s = false := by simp [nmP, isName_false (mark_noname s h)]

def t1 : Tr := .b (.n ⟨[97], [98], [], false, false⟩ .e (.n ⟨[99], [], [[97]], true, false⟩ (.b .e (.b (.n ⟨[100], [], [], false, false⟩ .e .e) .e)) .e)) .e

def cs1 : List Int := [115, 97, 103, 97, 32, 116, 32, 123, 32, 40, 32, 115, 116, 101, 112, 32, 97, 32, 117, 110, 100, 111, 32, 98, 32, 59, 32, 108, 111, 111, 115, 101, 32, 115, 117, 98, 32, 99, 32, 97, 102, 116, 101, 114, 32, 97, 32, 123, 32, 40, 32, 41, 32, 111, 114, 32, 40, 32, 115, 116, 101, 112, 32, 100, 32, 59, 32, 41, 32, 125, 32, 41, 32, 125]
def cs2 : List Int := [115, 97, 103, 97, 32, 116, 32, 123, 32, 125]
def k1 : List Tok := [⟨1, [115, 97, 103, 97], 0⟩, ⟨1, [116], 5⟩, ⟨2, [123], 7⟩, ⟨2, [40], 9⟩, ⟨1, [115, 116, 101, 112], 11⟩, ⟨1, [97], 16⟩, ⟨1, [117, 110, 100, 111], 18⟩, ⟨1, [98], 23⟩, ⟨2, [59], 25⟩, ⟨1, [108, 111, 111, 115, 101], 27⟩, ⟨1, [115, 117, 98], 33⟩, ⟨1, [99], 37⟩, ⟨1, [97, 102, 116, 101, 114], 39⟩, ⟨1, [97], 45⟩, ⟨2, [123], 47⟩, ⟨2, [40], 49⟩, ⟨2, [41], 51⟩, ⟨1, [111, 114], 53⟩, ⟨2, [40], 56⟩, ⟨1, [115, 116, 101, 112], 58⟩, ⟨1, [100], 63⟩, ⟨2, [59], 65⟩, ⟨2, [41], 67⟩, ⟨2, [125], 69⟩, ⟨2, [41], 71⟩, ⟨2, [125], 73⟩]
def k2 : List Tok := [⟨1, [115, 97, 103, 97], 0⟩, ⟨1, [116], 5⟩, ⟨2, [123], 7⟩, ⟨2, [125], 9⟩]

theorem lxk1 : lexR cs1 [] = ⟨k1, 74, 0⟩ := by kernel_rfl
theorem lxk2 : lexR cs2 [] = ⟨k2, 10, 0⟩ := by kernel_rfl

theorem agree (t : By) (h : t = [116] ∨ t = [97] ∨ t = [98] ∨ t = [99] ∨ t = [100] ∨ isWord t = true ∨ isM t) : nmP t = lx t := by
  rcases h with rfl | rfl | rfl | rfl | rfl | h | h
  · exact nm_t
  · exact nm_a
  · exact nm_b
  · exact nm_c
  · exact nm_d
  · rw [nm_w t h]
    have := (word_iff t).1 h
    simp only [isW, List.mem_cons, List.not_mem_nil, or_false] at this
    rcases this with rfl | rfl | rfl | rfl | rfl | rfl | rfl | rfl <;> decide
  · rw [nm_m t h]
    simp only [isM, List.mem_cons, List.not_mem_nil, or_false] at h
    rcases h with rfl | rfl | rfl | rfl | rfl | rfl <;> decide

instance (t : By) : Decidable (isM t) := by unfold isM; infer_instance

theorem sg1 : rSaga nmP (k1.map (·.text)) (k1.map (·.text)).length = .ok ([116], t1) 26 := by
  rw [rSaga_congr (nm' := lx) (fun t ht => agree t ((by decide +kernel : ∀ t ∈ k1.map (·.text), t = [116] ∨ t = [97] ∨ t = [98] ∨ t = [99] ∨ t = [100] ∨ isWord t = true ∨ isM t) t ht))]
  kernel_rfl
theorem sg2 : rSaga nmP (k2.map (·.text)) (k2.map (·.text)).length = .no 3 := by
  rw [rSaga_congr (nm' := lx) (fun t ht => agree t ((by decide +kernel : ∀ t ∈ k2.map (·.text), t = [116] ∨ t = [97] ∨ t = [98] ∨ t = [99] ∨ t = [100] ∨ isWord t = true ∨ isM t) t ht))]
  kernel_rfl

theorem an1 : rAns 74 ⟨k1, 74, 0⟩ = .good [116] t1 := by
  unfold rAns
  rw [if_neg (by simp)]
  simp only [sg1]
  rw [if_neg (by decide)]
theorem an2 : rAns 10 ⟨k2, 10, 0⟩ = .bad 9 10 := by
  unfold rAns
  rw [if_neg (by simp)]
  simp only [sg2]
  rfl
theorem rt1 : rightS [116] t1 = true := by
  have h1 : bigL (fltn 1 t1) = false := by decide
  have h2 : okL (fltn 1 t1) = true := by simp [okL, fltn, t1, nodeOk, nm_a, nm_b, nm_c, nm_d, Tr.len]
  have h3 : 0 < t1.len := by decide
  simp [rightS, nm_t, h1, h2, h3]
theorem tx1 : textS [116] t1 = [115, 97, 103, 97, 32, 116, 32, 123, 32, 40, 32, 115, 116, 101, 112, 32, 97, 32, 117, 110, 100, 111, 32, 98, 32, 59, 32, 108, 111, 111, 115, 101, 32, 115, 117, 98, 32, 99, 32, 97, 102, 116, 101, 114, 32, 97, 32, 123, 32, 40, 32, 41, 32, 111, 114, 32, 40, 32, 115, 116, 101, 112, 32, 100, 32, 59, 32, 41, 32, 125, 32, 41, 32, 125] := by kernel_rfl
end Go.Proofs.Ytlmfmgpamhhncaa

/- The law's examples: lives. -/
namespace Go.Proofs.Ytlmfmgpamhhncaa
open Go.RowKit

def exA : ByteArray := ⟨#[115, 97, 103, 97, 32, 116, 32, 123, 32, 40, 32, 115, 116, 101, 112, 32, 97, 32, 117, 110, 100, 111, 32, 98, 32, 59, 32, 108, 111, 111, 115, 101, 32, 115, 117, 98, 32, 99, 32, 97, 102, 116, 101, 114, 32, 97, 32, 123, 32, 40, 32, 41, 32, 111, 114, 32, 40, 32, 115, 116, 101, 112, 32, 100, 32, 59, 32, 41, 32, 125, 32, 41, 32, 125]⟩
def exB : ByteArray := ⟨#[115, 97, 103, 97, 32, 116, 32, 123, 32, 125]⟩

theorem pa1 : Parts exA.data.toList cs1 [] := ⟨by decide +kernel, by decide +kernel, .inl rfl⟩
theorem pa2 : Parts exB.data.toList cs2 [] := ⟨by decide +kernel, by decide +kernel, .inl rfl⟩

theorem rd1 (w : World) : Calls Try.prog 9 #[.string exA] w fun e w' => Below w.heap.size w w' ∧ ∃ v, e = .returned (.tuple #[.agg #[.string ⟨#[116]⟩, v], .int .i64 74, .int .i64 0]) ∧ BsR (fun b => w.heap.size ≤ b) w' true t1 v := by
  refine (syn_read exA cs1 [] pa1 w).mono ?_
  rintro e w' ⟨h1, h2⟩
  have ha : answer exA cs1 [] = ⟨k1, 74, 0⟩ := by unfold answer; rw [if_pos (by decide), lxk1]
  rw [ha, show exA.size = 74 by decide, an1] at h2
  exact ⟨h1, h2⟩
theorem rd2 (w : World) : Calls Try.prog 9 #[.string exB] w fun e w' => Below w.heap.size w w' ∧ e = .returned (.tuple #[.agg #[.string ⟨#[]⟩, .slice none 0 0], .int .i64 9, .int .i64 10]) := by
  refine (syn_read exB cs2 [] pa2 w).mono ?_
  rintro e w' ⟨h1, h2⟩
  have ha : answer exB cs2 [] = ⟨k2, 10, 0⟩ := by unfold answer; rw [if_pos (by decide), lxk2]
  rw [ha, show exB.size = 10 by decide, an2] at h2
  exact ⟨h1, h2⟩

theorem bn1 : Bnd t1 := ⟨by decide, by decide, ⟨by decide, by simp [t1, Tr.afs]⟩, by decide⟩

theorem pr1 (w : World) (a : Option Addr) (c : Nat) (ht : TAt (· < w.heap.size) w true t1 a 0 t1.len) : Calls Try.prog 13 #[.agg #[.string ⟨#[116]⟩, .slice a t1.len c]] w fun e w' => e = .returned (.tuple #[.string exA, .int .i64 0]) ∧ Below w.heap.size w w' := by
  refine (print_any w [116] t1 a t1.len c ht bn1 (by decide) (by rw [tx1]; decide)).mono ?_
  rintro e w' ⟨rfl, h⟩
  refine ⟨?_, h⟩
  rw [rt1, tx1]
  simp [codeS, rt1]
  rfl

set_option maxRecDepth 1000000 in
set_option maxHeartbeats 2000000 in
theorem lives_any (w : World) : Calls Try.prog 8 #[] w fun e w' => e = .returned (.bool true) ∧ Below w.heap.size w w' := by
  go_enter Try.func8, Try.ntmps8
  go_wp2_with fail
  refine (rd1 _).mono ?_
  rintro e w1 ⟨hb1, v, rfl, a, c, rfl, ht1⟩
  have hz1 := hb1.size
  have n1 := row_new w1 #[.string ⟨#[116]⟩, .slice a t1.len c] 25
  have hB1 : Below w.heap.size w (w1.alloc (.cells #[.string ⟨#[116]⟩, .slice a t1.len c] 25)) := hb1.alloc hz1 _
  have ht2 : TAt (fun b => b < w1.heap.size) (w1.alloc (.cells #[.string ⟨#[116]⟩, .slice a t1.len c] 25)) true t1 a 0 t1.len := ht1.keep (fun b _ hl => Below.heap_alloc _ _ _ hl) (fun _ _ hl => hl) _ _ _ _ _
  go_wp2_with fail
  refine (rd2 _).mono ?_
  rintro e w2 ⟨hb2, rfl⟩
  have hz2 := hb2.size
  simp at hz2
  have n2 := (hb2.block _ (by simp)).trans n1
  have hB2 := hB1.trans (hb2.mono (by simp; omega))
  have ht3 : TAt (fun b => b < w1.heap.size) w2 true t1 a 0 t1.len := ht2.keep (fun b hb _ => hb2.block b (by simp; omega)) (fun _ h _ => h) _ _ _ _ _
  have hA3 : Below w2.heap.size w2 (w2.alloc (.cells #[.string ⟨#[]⟩, .slice none 0 0] 25)) := (Below.refl _ _).alloc (Nat.le_refl _) _
  have n3 := row_alloc n2 (.cells #[.string ⟨#[]⟩, .slice none 0 0] 25)
  have hB3 := hB2.trans (hA3.mono hB2.size)
  have ht4 : TAt (fun b => b < w1.heap.size) (w2.alloc (.cells #[.string ⟨#[]⟩, .slice none 0 0] 25)) true t1 a 0 t1.len := ht3.keep (fun b hb _ => hA3.block b (by omega)) (fun _ h _ => h) _ _ _ _ _
  have g0 := (cell_row n3 0).trans rfl
  have g1 := (cell_row n3 1).trans rfl
  have M3 : Hid _ := pr1 (w2.alloc (.cells #[.string ⟨#[]⟩, .slice none 0 0] 25)) a c (ht4.keep (fun _ _ _ => rfl) (fun b hb _ => by simp; omega) _ _ _ _ _)
  clear hb1 hb2 hB1 hB2 n1 n2 ht1 ht2 ht3
  go_wp2_with fail
  refine Calls.mono M3.out ?_
  clear M3
  have hz3 : (w2.alloc (.cells #[.string ⟨#[]⟩, .slice none 0 0] 25)).heap.size = w2.heap.size + 1 := by simp
  generalize w2.alloc (.cells #[.string ⟨#[]⟩, .slice none 0 0] 25) = W3 at *
  rintro e w4 ⟨rfl, hb4⟩
  have n4 := (hb4.block _ (by omega)).trans n3
  have hB4 := hB3.trans (hb4.mono hB3.size)
  have ht5 : TAt (fun b => b < w1.heap.size) w4 true t1 a 0 t1.len := ht4.keep (fun b hb _ => hb4.block b (by omega)) (fun _ h _ => h) _ _ _ _ _
  have hz4 := hb4.size
  have q0 := (cell_row n4 0).trans rfl
  have q1 := (cell_row n4 1).trans rfl
  have M4 : Hid _ := depth_any w4 ⟨#[116]⟩ t1 a t1.len c (ht5.keep (fun _ _ _ => rfl) (fun b hb _ => by omega) _ _ _ _ _) bn1
  rw [show (1 + t1.dep : Nat) = 2 by decide] at M4
  clear g0 g1 n3 hb4 hB3 ht4 hA3
  have hex : (exA.toList == [115, 97, 103, 97, 32, 116, 32, 123, 32, 40, 32, 115, 116, 101, 112, 32, 97, 32, 117, 110, 100, 111, 32, 98, 32, 59, 32, 108, 111, 111, 115, 101, 32, 115, 117, 98, 32, 99, 32, 97, 102, 116, 101, 114, 32, 97, 32, 123, 32, 40, 32, 41, 32, 111, 114, 32, 40, 32, 115, 116, 101, 112, 32, 100, 32, 59, 32, 41, 32, 125, 32, 41, 32, 125]) = true := by rw [Lib.toList_data]; decide +kernel
  go_wp2_with fail
  refine Calls.mono M4.out ?_
  clear M4
  rintro e w5 ⟨rfl, hb5⟩
  have n5 := (hb5.block _ (by omega)).trans n4
  have hB5 := hB4.trans (hb5.mono hB4.size)
  have ht6 : TAt (fun b => b < w1.heap.size) w5 true t1 a 0 t1.len := ht5.keep (fun b hb _ => hb5.block b (by omega)) (fun _ h _ => h) _ _ _ _ _
  have hz5 := hb5.size
  have p0 := (cell_row n5 0).trans rfl
  have p1 := (cell_row n5 1).trans rfl
  have M5 : Hid _ := count_any w5 ⟨#[116]⟩ t1 a t1.len c (ht6.keep (fun _ _ _ => rfl) (fun b hb _ => by omega) _ _ _ _ _) bn1
  rw [show (fltn 1 t1).length = 3 by decide] at M5
  clear q0 q1 n4 hb5 hB4 ht5
  go_wp2_with fail
  refine Calls.mono M5.out ?_
  rintro e w6 ⟨rfl, hb6⟩
  go_wp2_with fail
  go_ret
  exact ⟨rfl, hB5.trans (hb6.mono hB5.size)⟩
end Go.Proofs.Ytlmfmgpamhhncaa

