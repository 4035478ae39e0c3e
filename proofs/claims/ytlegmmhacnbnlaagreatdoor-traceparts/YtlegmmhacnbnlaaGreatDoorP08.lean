/- Texts of the seat, packed: STe SUd SYa. -/
import Derived.Test.YtlegmmhacnbnlaaGreatDoorP07
import Derived.Test.YtlegmmhacnbnlaaGreatDoorP03
import Derived.Deep.SlicePairs
import Derived.Deep.Strs
import Derived.OpenShut
/- Check: whether a saga is right. -/
namespace Go.Proofs.YtlegmmhacnbnlaaGreatDoor.Sx

open Go.RowKit Go.Shelf

attribute [local go_sem] Oper.semAt_some

/-- May all nodes be? -/
noncomputable def okL (l : List (Nat × Lab × Tr)) : Bool := l.all fun x => nodeOk x.2.1 x.2.2.len

theorem okL_perm {a b : List (Nat × Lab × Tr)} (h : a.Perm b) : okL a = okL b := h.all_eq

/-- Is a saga right? -/
noncomputable def rightS (x : By) (t : Tr) : Bool := nmP x && decide (0 < t.len) && !bigL (fltn 1 t) && okL (fltn 1 t)

/-- What Check answers. -/
noncomputable def codeS (x : By) (t : Tr) : Int := if rightS x t then 0 else 2

theorem retE {fn : Func} {p : Tmp} (h : fn.results = #[.cell p 28]) {a : Act} {w : World} (b : Nat) (v0 : Value) (hp : a.tmps.getD p undef = .pointer (some ⟨b, 0, none⟩)) (hb : w.cell? ⟨b, 0, none⟩ = some v0) : (results fn a.tmps).run Tryz.prog w = .ok v0 w := by
  have hp' : a.tmps[p]?.getD undef = .pointer (some ⟨b, 0, none⟩) := by simpa using hp
  simp [results, h, hp', go_sem, hb]

set_option maxRecDepth 1000000 in
set_option maxHeartbeats 4000000 in
theorem check_any (w : World) (x : By) (t : Tr) (av : Option Addr) (am ac : Nat) (ht : TAt (· < w.heap.size) w true t av 0 am) (hb : Bnd t) :
    Calls Tryz.prog 98 #[.agg #[.string ⟨x.toArray⟩, .slice av am ac]] w fun e w' => e = .returned (.int .i64 (codeS x t)) ∧ Below w.heap.size w w' := by
  obtain rfl : am = t.len := by have := ht.len; omega
  have n0 := row_alloc (row_new w #[.string ⟨x.toArray⟩, .slice av t.len ac] 94) (.cells #[.int .i64 0] 28)
  have r0 : ((w.alloc (.cells #[.string ⟨x.toArray⟩, .slice av t.len ac] 94)).alloc (.cells #[.int .i64 0] 28)).heap[w.heap.size + 1]? = some (.cells #[.int .i64 0] 28 (0, 0)) := by
    have := row_new (w.alloc (.cells #[.string ⟨x.toArray⟩, .slice av t.len ac] 94)) #[.int .i64 0] 28
    rwa [World.size_alloc] at this
  have hB0 : Below w.heap.size w ((w.alloc (.cells #[.string ⟨x.toArray⟩, .slice av t.len ac] 94)).alloc (.cells #[.int .i64 0] 28)) := ((Below.refl _ w).alloc (Nat.le_refl _) _).alloc (by simp) _
  have M1 : Hid _ := isName_by x ((w.alloc (.cells #[.string ⟨x.toArray⟩, .slice av t.len ac] 94)).alloc (.cells #[.int .i64 0] 28))
  refine (callsIn_wide (n := 5)).1 ?_
  refine callsIn_of_wp_marks Tryz.func98 rfl trivial ?_ rfl
  simp only [Tryz.ntmps98, List.size_toArray, List.length_cons, List.length_nil, Nat.reduceAdd, Nat.reduceSub, Array.replicate_succ, Array.replicate_zero, List.push_toArray, List.append_toArray, List.nil_append, List.cons_append]
  gi_wp2_with fail
  refine ⟨trivial, ?_⟩
  refine (callsIn_wide.2 M1.out).mono ?_
  clear M1
  rintro e w1 ⟨rfl, hb1⟩
  have n1 := (hb1.block _ (by simp; omega)).trans n0
  have r1 := (hb1.block _ (by simp)).trans r0
  have hB1 := hB0.trans (hb1.mono (by simp; omega))
  have hz1 := hb1.size
  simp at hz1
  clear hb1 n0 r0 hB0
  have c0 := (cell_row n1 0).trans rfl
  have c1 := (cell_row n1 1).trans rfl
  have q0 := (cell_row r1 0).trans rfl
  have qf := froz_row r1 0
  have hB2 : Below w.heap.size w (w1.setCell ⟨w.heap.size + 1, 0, none⟩ (.int .i64 2)) := hB1.setCell (p := ⟨w.heap.size + 1, 0, none⟩) (by show w.heap.size ≤ w.heap.size + 1; omega) _
  cases hn : nmP x with
  | false =>
    have HQ : Hid (codeS x t = 2) := by show _ = _; simp [codeS, rightS, hn]
    gi_wp2
    refine ⟨trivial, ?_⟩
    gi_wp2
    exact ⟨.int .i64 2, retE (p := 2) rfl (w.heap.size + 1) _ rfl ((cell_row (row_set r1 0 _) 0).trans rfl), by rw [HQ.out], hB2⟩
  | true =>
    by_cases hl : t.len = 0
    · have HQ : Hid (codeS x t = 2) := by show _ = _; simp [codeS, rightS, hl]
      gi_wp2
      refine ⟨trivial, ?_⟩
      gi_wp2
      exact ⟨.int .i64 2, retE (p := 2) rfl (w.heap.size + 1) _ rfl ((cell_row (row_set r1 0 _) 0).trans rfl), by rw [HQ.out], hB2⟩
    · have hl' : ((t.len : Int) == 0) = false := by simp; omega
      have ht1 : TAt (· < w1.heap.size) w1 true t av 0 t.len := ht.keep (fun b hb _ => hB1.block b hb) (fun b hb _ => by omega) _ _ _ _ _
      have M2 : Hid _ := big_any w1 ⟨x.toArray⟩ t av t.len ac ht1 hb
      gi_wp2_with fail
      refine ⟨trivial, ?_⟩
      refine (callsIn_wide.2 M2.out).mono ?_
      clear M2 ht1
      rintro e w2 ⟨rfl, hb2⟩
      have n2 := (hb2.block _ (by omega)).trans n1
      have r2 := (hb2.block _ (by omega)).trans r1
      have hB3 := hB1.trans (hb2.mono (by omega))
      have hz2 := hb2.size
      have d0 := (cell_row n2 0).trans rfl
      have d1 := (cell_row n2 1).trans rfl
      have e0 := (cell_row r2 0).trans rfl
      have ef := froz_row r2 0
      have hB4 : Below w.heap.size w (w2.setCell ⟨w.heap.size + 1, 0, none⟩ (.int .i64 2)) := hB3.setCell (p := ⟨w.heap.size + 1, 0, none⟩) (by show w.heap.size ≤ w.heap.size + 1; omega) _
      clear c0 c1 q0 qf n1 r1 hB2 hb2
      cases hbg : bigL (fltn 1 t) with
      | true =>
        have HQ : Hid (codeS x t = 2) := by show _ = _; simp [codeS, rightS, hbg]
        gi_wp2
        exact ⟨.int .i64 2, retE (p := 2) rfl (w.heap.size + 1) _ rfl ((cell_row (row_set r2 0 _) 0).trans rfl), by rw [HQ.out], hB4⟩
      | false =>
        gi_wp2_with (refine ⟨trivial, ?_⟩; gi_at_call 105; refine (nodes_in Fence.wide _ trivial rfl _ _ _).mono ?_; rintro e w' ⟨rfl, rfl⟩)
        obtain ⟨Wl, hWl⟩ : ∃ Wl, w2.alloc (.cells #[.string ⟨x.toArray⟩, .slice av t.len ac] 94) = Wl := ⟨_, rfl⟩
        rw [hWl]
        have hz : Wl.heap.size = w2.heap.size + 1 := by rw [← hWl]; simp
        have hrb : Wl.heap[w.heap.size + 1]? = some (.cells #[.int .i64 0] 28 (0, 0)) := by rw [← hWl]; exact row_alloc r2 _
        have hgb : Wl.heap[w2.heap.size]? = some (.cells #[.string ⟨x.toArray⟩, .slice av t.len ac] 94 (0, 0)) := by rw [← hWl]; exact row_new w2 _ 94
        have hbl : Below w.heap.size w Wl := by rw [← hWl]; exact hB3.alloc (by omega) _
        clear hWl
        have hseq := nodes1_in Fence.wide 4 trivial rfl (by omega) rfl w.heap.size (1 + t.dep) w2.heap.size w Wl t av t.len ac (fun k hk => hbl.block k hk) (by omega) ((cell_row hgb 1).trans rfl) ht (Nat.le_refl _) (by have := hb.dep; omega) hb.tw hb.sz
        refine range_mine (n := 5) rfl (by omega) (gf := 109) (lb := #[.pointer (some ⟨w2.heap.size, 0, none⟩)]) rfl trivial (enters_of Tryz.func109 (by kernel_rfl) rfl) hseq (by omega) (fun _ => rfl)
          (fun pre W => W.heap[w.heap.size + 1]? = some (.cells #[.int .i64 0] 28 (0, 0)) ∧ okL (pre.map Nd.key) = true ∧ Below w.heap.size w W)
          (fun pre W => W.heap[w.heap.size + 1]? = some (.cells #[.int .i64 2] 28 (0, 0)) ∧ okL (pre.map Nd.key) = false ∧ Below w.heap.size w W)
          (fun s A B hs hB => ⟨(hB.block _ (by omega)).trans hs.1, hs.2.1, hs.2.2.trans (hB.mono (by omega))⟩)
          (fun s A B hs hB => ⟨(hB.block _ (by omega)).trans hs.1, hs.2.1, hs.2.2.trans (hB.mono (by omega))⟩) ⟨hrb, rfl, hbl⟩ ?round ?done ?stop
        case round =>
          rintro l pre y W hV hN ⟨hr, hL, hB⟩ hlt
          obtain ⟨yd, yl, ya, ysv, ysm, ysc, yav, yam, yac⟩ := y
          have hz0 := hB.size
          simp only [Nd.enc]
          simp only [Array.zip]
          gi_wp2
          refine ⟨⟨row_alloc hr _, hL, hB.alloc hz0 _⟩, Kr.of_below ((Below.refl _ _).alloc (Nat.le_refl _) _) (by omega), ?_⟩
          rintro W2 ⟨hr2, hL2, hB2'⟩ hk2
          have hn2 := (hk2.high W.heap.size (by omega) (by simp)).trans (row_new W #[.string ⟨yl.name.toArray⟩, .string ⟨yl.undo.toArray⟩, .slice ysv ysm ysc, .bool yl.sub, .bool yl.vital, .slice yav yam yac] 148)
          have s0 := (cell_row hn2 0).trans rfl
          have s1 := (cell_row hn2 1).trans rfl
          have s2 := (cell_row hn2 2).trans rfl
          have s3 := (cell_row hn2 3).trans rfl
          have s4 := (cell_row hn2 4).trans rfl
          have s5 := (cell_row hn2 5).trans rfl
          have hsa : SAt (· < w.heap.size) W2 yl.after ysv ysm := SAt.keep (P := (· < w.heap.size)) hV.1 (fun b hb _ => hB2'.block b hb) (fun _ h _ => h)
          have hsm : ysm ≤ 1000000000 := by have := hV.1.1; have := hV.2.2.2; simp only at *; omega
          obtain rfl : yam = ya.len := by have := hV.2.1.len; simp at this; omega
          have M3 : Hid _ := isRight_any _ yl ysv ysm ysc yav ya.len yac W2 hsa hsm
          have HOK : Hid (okL ((pre ++ [(⟨yd, yl, ya, ysv, ysm, ysc, yav, ya.len, yac⟩ : Nd)]).map Nd.key) = nodeOk yl ya.len) := by
            show _ = _
            unfold okL at hL ⊢
            rw [List.map_append, List.all_append, hL]
            simp [Nd.key]
          gi_wp2_with fail
          refine ⟨trivial, ?_⟩
          refine (CallsIn.inRound l (callsIn_wide.2 M3.out)).mono ?_
          clear M3
          rintro e w5 ⟨rfl, hb5⟩
          have hz2 := hB2'.size
          have r5 := (hb5.block _ (Array.getElem?_eq_some_iff.1 hr2).1).trans hr2
          have k5 : Kr w.heap.size Wl.heap.size W2 w5 := Kr.of_below hb5 hz2
          have b5 := hB2'.trans (hb5.mono hz2)
          have r3 := (cell_row r5 0).trans rfl
          have rf3 := froz_row r5 0
          cases hno : nodeOk yl ya.len with
          | true =>
            gi_wp2
            exact ⟨k5, r5, by rw [HOK.out]; exact hno, b5⟩
          | false =>
            gi_wp2
            exact ⟨k5.trans (Kr.setCell _ _ (by omega) (by omega)), row_set r5 0 _, by rw [HOK.out]; exact hno, b5.setCell (p := ⟨w.heap.size + 1, 0, none⟩) (by show w.heap.size ≤ w.heap.size + 1; omega) _⟩
        case done =>
          rintro xs W hS ⟨hr, hL, hB⟩ hK
          have r3 := (cell_row hr 0).trans rfl
          have rf3 := froz_row hr 0
          have HQ : Hid (codeS x t = 0) := by
            show _ = _
            have : okL (fltn 1 t) = true := by rw [← okL_perm hS]; exact hL
            simp [codeS, rightS, hn, hbg, this]
            omega
          have hKs : (W.setCell ⟨w.heap.size + 1, 0, none⟩ (.int .i64 0)).heap[Wl.heap.size]? = some (.deferred (some [])) := (Below.heap_setCell W ⟨w.heap.size + 1, 0, none⟩ _ _ (by show Wl.heap.size ≠ w.heap.size + 1; omega)).trans hK
          have hBs : Below w.heap.size w (W.setCell ⟨w.heap.size + 1, 0, none⟩ (.int .i64 0)) := hB.setCell (p := ⟨w.heap.size + 1, 0, none⟩) (by show w.heap.size ≤ w.heap.size + 1; omega) _
          gi_wp2
          have hr' : ((W.setCell ⟨w.heap.size + 1, 0, none⟩ (.int .i64 0)).putObj Wl.heap.size (.deferred none)).heap[w.heap.size + 1]? = some (.cells #[.int .i64 0] 28 (0, 0)) := (World.putObj_heap_other (by omega)).trans (row_set hr 0 _)
          refine ⟨by simp, .inl ⟨_, _, rfl, run_takeDeferred hKs, ?_⟩⟩
          exact ⟨.int .i64 0, retE (p := 2) rfl (w.heap.size + 1) _ rfl ((cell_row hr' 0).trans rfl), by rw [HQ.out], hBs.trans (below_putObj _ _ _ (by omega) (Array.getElem?_eq_some_iff.1 hKs).1)⟩
        case stop =>
          rintro pre W ⟨rest, hP⟩ ⟨hr, hL, hB⟩ hK
          have HQ : Hid (codeS x t = 2) := by
            show _ = _
            have : okL (fltn 1 t) = false := by
              rw [← okL_perm hP]
              unfold okL at hL ⊢
              rw [List.all_append, hL]; rfl
            simp [codeS, rightS, this]
          gi_wp2
          have hr' : (W.putObj Wl.heap.size (.deferred none)).heap[w.heap.size + 1]? = some (.cells #[.int .i64 2] 28 (0, 0)) := (World.putObj_heap_other (by omega)).trans hr
          refine ⟨by simp, .inl ⟨_, _, rfl, run_takeDeferred hK, ?_⟩⟩
          exact ⟨.int .i64 2, retE (p := 2) rfl (w.heap.size + 1) _ rfl ((cell_row hr' 0).trans rfl), by rw [HQ.out], hB.trans (below_putObj _ _ _ (by omega) (Array.getElem?_eq_some_iff.1 hK).1)⟩

end Go.Proofs.YtlegmmhacnbnlaaGreatDoor.Sx

/- The document's Same at sagas that are the same. -/
namespace Go.Proofs.YtlegmmhacnbnlaaGreatDoor.Sx

open Go.RowKit

theorem TAt.below {P : Nat → Prop} {w w' : World} {t : Tr} {k : Bool} {a : Option Addr} {i n : Nat} (h : TAt P w k t a i n) (hb : Below w.heap.size w w') : TAt P w' k t a i n := h.keep (fun b _ hl => hb.block b hl) (fun _ h _ => h) _ _ _ _ _

theorem SAt.below {P : Nat → Prop} {w w' : World} {xs : List By} {a : Option Addr} {n : Nat} (h : SAt P w xs a n) (hb : Below w.heap.size w w') : SAt P w' xs a n := h.keep (fun b _ hl => hb.block b hl) (fun _ h _ => h)

theorem bl_drawn1 {B : Nat} {w w' : World} (h : Below B w w') : Below B w w'.drew := ⟨h.os, h.tape, h.output, h.size, h.block⟩

end Go.Proofs.YtlegmmhacnbnlaaGreatDoor.Sx

/- A saga that came in is a finite tree. -/
namespace Go.Proofs.YtlegmmhacnbnlaaGreatDoor.Sx

open Go.RowKit Go.ChangeShapes Go.WideShapes

theorem Tryz.cells9' : Tryz.prog.cellsOf 9 = 1 := by kernel_rfl

theorem Tryz.cells4 : Tryz.prog.cellsOf 4 = 1 := by kernel_rfl

/-- All lists and texts are as long as one may be, at most. -/
def Tr.bnd : Tr → Prop
  | .e => True
  | .b x r => x.len ≤ maxLen ∧ x.bnd ∧ r.bnd
  | .n l t r => l.name.length ≤ maxLen ∧ l.undo.length ≤ maxLen ∧ l.after.length ≤ maxLen ∧ (∀ y ∈ l.after, y.length ≤ maxLen) ∧ t.len ≤ maxLen ∧ t.bnd ∧ r.bnd

theorem ba_list (s : ByteArray) : (⟨s.data.toList.toArray⟩ : ByteArray) = s := by cases s; simp

variable {H : Type} {enc : TypeId × Value → H} {w : World} {base : Nat} {spare : Nat → Bool} {held : Bool}

end Go.Proofs.YtlegmmhacnbnlaaGreatDoor.Sx

