/- Texts of the seat, packed: SWI SWJ SWK SWM SWN. -/
import Derived.Test.YtlegmmhacnbnlaaGreatDoorP04
import Derived.Lib.Bytealg
import Derived.Laws.Runes
import Derived.LoopN
import Derived.WalkMore
import Derived.Laws.OwnMore
import Derived.Deep.RegionWith
/- A walk over strings.IndexByte, and over strings.ContainsRune at the six marks. -/
namespace Go.Proofs.YtlegmmhacnbnlaaGreatDoor.Sx

open Go.RowKit

set_option maxRecDepth 1000000 in
set_option maxHeartbeats 1000000 in
theorem ibyte51 (s : ByteArray) (c : Int) (w : World) :
    Calls Tryz.prog 126 #[.string s, .int .u8 c] w fun e w' => e = .returned (.int .i64 (Lib.indexByte s.data.toList c.toNat.toUInt8)) ∧ w' = w := by
  go_enter Tryz.func126, Tryz.ntmps126
  go_wp2
  rw [run_callFunc_extern Tryz.func127 (by kernel_rfl) (by kernel_rfl) (by kernel_rfl) (e := Extern.BytealgIndexByte.indexByte) (by kernel_rfl), Lib.run_indexByteString]
  simp only [Result.andThen]
  rw [Oper.upon_value]
  go_wp2
  go_ret
  exact ⟨rfl, rfl⟩

set_option maxRecDepth 1000000 in
set_option maxHeartbeats 1000000 in
theorem ibyte (s : ByteArray) (c : Int) (w : World) :
    Calls Tryz.prog 122 #[.string s, .int .u8 c] w fun e w' => e = .returned (.int .i64 (Lib.indexByte s.data.toList c.toNat.toUInt8)) ∧ w' = w := by
  go_enter Tryz.func122, Tryz.ntmps122
  go_wp2_with (go_at_call 126; refine (ibyte51 _ _ _).mono ?_; rintro e w' ⟨rfl, rfl⟩)
  go_ret
  exact ⟨rfl, rfl⟩

/-- The six marks. -/
theorem ib_marks (c : Int) (h0 : 0 ≤ c) (h1 : c < 256) : decide (0 ≤ Lib.indexByte [123, 125, 40, 41, 59, 44] c.toNat.toUInt8) = isMark c := by
  have h : ∀ n : Fin 256, decide (0 ≤ Lib.indexByte [123, 125, 40, 41, 59, 44] n.val.toUInt8) = isMark (n.val : Int) := by decide +kernel
  have := h ⟨c.toNat, by omega⟩
  simp only at this
  rw [this]
  congr 1
  omega

set_option maxRecDepth 1000000 in
set_option maxHeartbeats 1000000 in
theorem irune_ascii (c : Int) (h0 : 0 ≤ c) (h1 : c < 128) (w : World) :
    Calls Tryz.prog 120 #[.string ⟨#[123, 125, 40, 41, 59, 44]⟩, .int .i32 c] w fun e w' => ∃ k : Int, e = .returned (.int .i64 k) ∧ decide (0 ≤ k) = isMark c ∧ Below w.heap.size w w' := by
  have HM : Hid _ := ib_marks c h0 (by omega)
  go_enter Tryz.func120, Tryz.ntmps120
  go_wp2_with (go_at_call 122; refine (ibyte _ _ _).mono ?_; rintro e w' ⟨rfl, rfl⟩)
  go_ret
  exact ⟨_, rfl, HM.out, Below.refl _ _⟩

end Go.Proofs.YtlegmmhacnbnlaaGreatDoor.Sx

/- A walk over strings.ContainsRune at the six marks: does a code point stand among them? -/
namespace Go.Proofs.YtlegmmhacnbnlaaGreatDoor.Sx

open Go.RowKit

theorem encode_cp (c : Int) (h : isCp c = true) : Utf8.encode c = ⟨(enc c).toArray⟩ := by
  have hv := valid_of c h
  unfold Utf8.encode enc encN
  simp only [hv, if_true]
  generalize c.toNat = n
  clear hv h
  by_cases h1 : n < 128
  · simp only [h1, if_true]
  by_cases h2 : n < 2048
  · simp only [h1, h2, if_true, if_false]
  by_cases h3 : n < 65536
  · simp only [h1, h2, h3, if_true, if_false]
  · simp only [h1, h2, h3, if_false]

theorem no_mark (c : Int) (h : 128 ≤ c) : isMark c = false := by
  unfold isMark
  rw [decide_eq_false_iff_not]
  omega

theorem parts_marks : Parts (⟨#[123, 125, 40, 41, 59, 44]⟩ : ByteArray).data.toList [123, 125, 40, 41, 59, 44] [] :=
  ⟨by decide +kernel, by decide +kernel, .inl rfl⟩

set_option maxRecDepth 1000000 in
set_option maxHeartbeats 1000000 in
theorem irune_bad (w : World) :
    Calls Tryz.prog 120 #[.string ⟨#[123, 125, 40, 41, 59, 44]⟩, .int .i32 65533] w fun e w' => e = .returned (.int .i64 (-1)) ∧ Below w.heap.size w w' := by
  obtain ⟨s, hs⟩ : ∃ s : ByteArray, s = ⟨#[123, 125, 40, 41, 59, 44]⟩ := ⟨_, rfl⟩
  rw [← hs]
  have hp0 : Parts s.data.toList [123, 125, 40, 41, 59, 44] [] := by rw [hs]; exact parts_marks
  have hsz6 : s.size = 6 := by rw [hs]; rfl
  have hlt : ∀ c ∈ ([123, 125, 40, 41, 59, 44] : List Int), (c == 65533) = false := by decide
  generalize ([123, 125, 40, 41, 59, 44] : List Int) = cs at *
  clear hs
  have hz := size_list s
  have hbl : ∀ n, Below w.heap.size w (w.iter s n) := fun n => (Below.refl _ _).alloc (Nat.le_refl _) _
  go_enter Tryz.func120, Tryz.ntmps120
  go_wp2
  go_loopw [5, 6] (fun _ _ wr => ∃ (d todo : List Int), Hid (cs = d ++ todo) ∧ wr = w.iter s (encAll d).length) (fun _ _ wr => s.size - wr.iterPos w.heap.size)
  case atStart => exact ⟨[], cs, rfl, rfl⟩
  case round =>
    obtain ⟨d, todo, HC, rfl⟩ := hrel
    have hip : ∀ n, (w.iter s n).iterPos w.heap.size = n := fun n => by simp
    cases todo with
    | cons c todo =>
      have hS : s.data.toList = encAll (d ++ c :: todo) ++ [] := by rw [← HC.out]; exact hp0.eq
      have hc : isCp c = true := hp0.cp c (by rw [HC.out]; simp)
      have h2 : (c == 65533) = false := hlt c (by rw [HC.out]; simp)
      have hd := decode_at s d todo c [] hS hc
      have hk := enc_pos c hc
      have hlen : (encAll (d ++ [c])).length = (encAll d).length + (enc c).length := by rw [encAll_append, encAll_one]; simp
      have hsz : (encAll d).length + (enc c).length ≤ s.size := by
        rw [← hz, hS, encAll_append]
        simp [encAll]
      have hcn := cp_toNat c hc
      have HR : Hid (cs = (d ++ [c]) ++ todo) := by show _ = _; rw [HC.out]; simp
      have HL : Hid ((encAll (d ++ [c])).length = (encAll d).length + (enc c).length) := hlen
      generalize hp1 : (encAll d).length = pos at *
      generalize hk1 : (enc c).length = k at *
      have hnx : ∀ ty, (Instr.next (.pointer (some ⟨w.heap.size, 0, none⟩)) true ty).run Tryz.prog (w.iter s pos) = .ok (.tuple #[.bool true, .int .i64 pos, .int .i32 c]) (w.iter s (pos + k)) := by
        intro ty
        have h := run_next_any (P := Tryz.prog) w s pos ty (by omega)
        rw [hd] at h
        simp only [hcn] at h
        exact h
      clear hS hc hd hlen hcn HC hp1 hk1 hp0 hz hlt
      go_wp2
      go_roundw
      case rel => exact ⟨d ++ [c], todo, HR, by rw [HL.out]⟩
      case measure => simp; omega
    | nil =>
      have hC : cs = d := by simpa using HC.out
      subst hC
      have hsz : ¬ (encAll cs).length < s.size := by
        rw [← hz, hp0.eq]
        simp
      generalize (encAll cs).length = pos at *
      have hnx : ∀ ty, (Instr.next (.pointer (some ⟨w.heap.size, 0, none⟩)) true ty).run Tryz.prog (w.iter s pos) = _ := fun ty => run_next_end w s pos ty hsz
      clear hp0 hz hlt
      go_wp2
      go_ret
      exact ⟨rfl, hbl _⟩

end Go.Proofs.YtlegmmhacnbnlaaGreatDoor.Sx

/- A walk over strings.ContainsRune at the six marks: a code point beyond ASCII is none of them. -/
namespace Go.Proofs.YtlegmmhacnbnlaaGreatDoor.Sx

open Go.RowKit

set_option maxRecDepth 1000000 in
set_option maxHeartbeats 1000000 in
theorem vrune (c : Int) (hc : isCp c = true) (w : World) : Calls Tryz.prog 123 #[.int .i32 c] w fun e w' => e = .returned (.bool true) ∧ w' = w := by
  rw [isCp_iff] at hc
  obtain ⟨h1, h2, h3⟩ := hc
  go_enter Tryz.func123, Tryz.ntmps123
  go_wp2
  all_goals go_ret
  all_goals first | exact ⟨rfl, rfl⟩ | (exfalso; omega)

theorem ib_none (l : List UInt8) (b : UInt8) (h : ∀ x ∈ l, x ≠ b) : Lib.indexByte l b = -1 := by
  induction l with
  | nil => rfl
  | cons x l ih =>
    unfold Lib.indexByte
    have h1 : (x == b) = false := by rw [beq_eq_false_iff_ne]; exact h x (by simp)
    rw [h1, ih (fun y hy => h y (by simp [hy]))]
    rfl

theorem ib_sub (k : Nat) (b : Nat) (h0 : 128 ≤ b) (h1 : b < 256) : Lib.indexByte ((⟨#[123, 125, 40, 41, 59, 44]⟩ : ByteArray).extract k 6).data.toList ((b : Int).toNat.toUInt8) = -1 := by
  apply ib_none
  intro x hx
  have hx2 : x ∈ ([123, 125, 40, 41, 59, 44] : List UInt8) := by
    rw [Lib.extract_data] at hx
    exact List.mem_of_mem_drop (List.mem_of_mem_take hx)
  have hl : ∀ y ∈ ([123, 125, 40, 41, 59, 44] : List UInt8), y.toNat < 128 := by decide
  have h2 := hl x hx2
  rintro rfl
  rw [Int.toNat_natCast] at h2
  have e : b.toUInt8.toNat = b := ofNat_toNat b h1
  omega

set_option maxRecDepth 1000000 in
set_option maxHeartbeats 1000000 in
theorem irune_2 (c : Int) (rs : ByteArray) (hc : isCp c = true) (h128 : 128 ≤ c) (hne : (c == 65533) = false) (hrs : rs.size = 2) (hb : 128 ≤ bt rs 1) (w : World)
    (hcv : ∀ w, (convert 21 9 (.int .i32 c)).run Tryz.prog w = .ok (.string rs) w) :
    Calls Tryz.prog 120 #[.string ⟨#[123, 125, 40, 41, 59, 44]⟩, .int .i32 c] w fun e w' => e = .returned (.int .i64 (-1)) ∧ Below w.heap.size w w' := by
  obtain ⟨s, hs⟩ : ∃ s : ByteArray, s = ⟨#[123, 125, 40, 41, 59, 44]⟩ := ⟨_, rfl⟩
  have HC : Hid (isCp c = true) := hc
  have hb2 := bt_lt rs 1
  have HIB : Hid (∀ wx, Calls Tryz.prog 122 #[.string (s.extract 2 6), .int .u8 (bt rs 1 : Int)] wx fun e w' => e = .returned (.int .i64 (-1)) ∧ w' = wx) := by
    intro wx
    have h := ibyte (s.extract 2 6) (bt rs 1 : Int) wx
    rw [hs, ib_sub 2 (bt rs 1) hb hb2, ← hs] at h
    exact h
  have hs6 : s.size = 6 := by rw [hs]; rfl
  have hsb : bt s 1 < 128 := by rw [hs]; decide
  rw [← hs]
  clear hs hc
  have l1 : 1 < s.size := by omega
  have l2 : 1 < rs.size := by omega
  have e1 := bt_at s 1 l1
  have e2 := bt_at rs 1 l2
  have hd : ((bt s 1 : Int) != (bt rs 1 : Int)) = true := by rw [bne_iff_ne]; omega
  have hw0 : Below w.heap.size w w := Below.refl _ _
  have hwr : IntKind.i64.wrap 2 = 2 := by decide
  go_enter Tryz.func120, Tryz.ntmps120
  go_wp2_with (go_at_call 123; refine (vrune _ HC.out _).mono ?_; rintro e w' ⟨rfl, rfl⟩)
  go_step3
  go_wp2
  refine wp_loop_rounds 1 ?_
  rw [rounds_succ]
  go_wp2
  go_step3
  go_wp2
  go_quiet (fail)
  have hw1 := below_drewN hw0 nq
  generalize World.drewN _ nq = w1 at *
  go_wp2
  go_quiet ((go_at_call 122; exact Calls.quiet_of_same (HIB.out _)))
  go_wp2
  simp only [Exit.noGoto, Exit.inBlock, Exit.then]
  go_ret
  exact ⟨rfl, below_drewN hw1 _⟩

set_option maxRecDepth 1000000 in
set_option maxHeartbeats 1000000 in
theorem irune_3 (c : Int) (rs : ByteArray) (hc : isCp c = true) (h128 : 128 ≤ c) (hne : (c == 65533) = false) (hrs : rs.size = 3) (hb : 128 ≤ bt rs 2) (w : World)
    (hcv : ∀ w, (convert 21 9 (.int .i32 c)).run Tryz.prog w = .ok (.string rs) w) :
    Calls Tryz.prog 120 #[.string ⟨#[123, 125, 40, 41, 59, 44]⟩, .int .i32 c] w fun e w' => e = .returned (.int .i64 (-1)) ∧ Below w.heap.size w w' := by
  obtain ⟨s, hs⟩ : ∃ s : ByteArray, s = ⟨#[123, 125, 40, 41, 59, 44]⟩ := ⟨_, rfl⟩
  have HC : Hid (isCp c = true) := hc
  have hb2 := bt_lt rs 2
  have HIB : Hid (∀ wx, Calls Tryz.prog 122 #[.string (s.extract 3 6), .int .u8 (bt rs 2 : Int)] wx fun e w' => e = .returned (.int .i64 (-1)) ∧ w' = wx) := by
    intro wx
    have h := ibyte (s.extract 3 6) (bt rs 2 : Int) wx
    rw [hs, ib_sub 3 (bt rs 2) hb hb2, ← hs] at h
    exact h
  have hs6 : s.size = 6 := by rw [hs]; rfl
  have hsb : bt s 2 < 128 := by rw [hs]; decide
  rw [← hs]
  clear hs hc
  have l1 : 2 < s.size := by omega
  have l2 : 2 < rs.size := by omega
  have e1 := bt_at s 2 l1
  have e2 := bt_at rs 2 l2
  have hd : ((bt s 2 : Int) != (bt rs 2 : Int)) = true := by rw [bne_iff_ne]; omega
  have hw0 : Below w.heap.size w w := Below.refl _ _
  have hwr : IntKind.i64.wrap 3 = 3 := by decide
  go_enter Tryz.func120, Tryz.ntmps120
  go_wp2_with (go_at_call 123; refine (vrune _ HC.out _).mono ?_; rintro e w' ⟨rfl, rfl⟩)
  go_step3
  go_wp2
  refine wp_loop_rounds 1 ?_
  rw [rounds_succ]
  go_wp2
  go_step3
  go_wp2
  go_quiet (fail)
  have hw1 := below_drewN hw0 nq
  generalize World.drewN _ nq = w1 at *
  go_wp2
  go_quiet ((go_at_call 122; exact Calls.quiet_of_same (HIB.out _)))
  go_wp2
  simp only [Exit.noGoto, Exit.inBlock, Exit.then]
  go_ret
  exact ⟨rfl, below_drewN hw1 _⟩

set_option maxRecDepth 1000000 in
set_option maxHeartbeats 1000000 in
theorem irune_4 (c : Int) (rs : ByteArray) (hc : isCp c = true) (h128 : 128 ≤ c) (hne : (c == 65533) = false) (hrs : rs.size = 4) (hb : 128 ≤ bt rs 3) (w : World)
    (hcv : ∀ w, (convert 21 9 (.int .i32 c)).run Tryz.prog w = .ok (.string rs) w) :
    Calls Tryz.prog 120 #[.string ⟨#[123, 125, 40, 41, 59, 44]⟩, .int .i32 c] w fun e w' => e = .returned (.int .i64 (-1)) ∧ Below w.heap.size w w' := by
  obtain ⟨s, hs⟩ : ∃ s : ByteArray, s = ⟨#[123, 125, 40, 41, 59, 44]⟩ := ⟨_, rfl⟩
  have HC : Hid (isCp c = true) := hc
  have hb2 := bt_lt rs 3
  have HIB : Hid (∀ wx, Calls Tryz.prog 122 #[.string (s.extract 4 6), .int .u8 (bt rs 3 : Int)] wx fun e w' => e = .returned (.int .i64 (-1)) ∧ w' = wx) := by
    intro wx
    have h := ibyte (s.extract 4 6) (bt rs 3 : Int) wx
    rw [hs, ib_sub 4 (bt rs 3) hb hb2, ← hs] at h
    exact h
  have hs6 : s.size = 6 := by rw [hs]; rfl
  have hsb : bt s 3 < 128 := by rw [hs]; decide
  rw [← hs]
  clear hs hc
  have l1 : 3 < s.size := by omega
  have l2 : 3 < rs.size := by omega
  have e1 := bt_at s 3 l1
  have e2 := bt_at rs 3 l2
  have hd : ((bt s 3 : Int) != (bt rs 3 : Int)) = true := by rw [bne_iff_ne]; omega
  have hw0 : Below w.heap.size w w := Below.refl _ _
  have hwr : IntKind.i64.wrap 4 = 4 := by decide
  go_enter Tryz.func120, Tryz.ntmps120
  go_wp2_with (go_at_call 123; refine (vrune _ HC.out _).mono ?_; rintro e w' ⟨rfl, rfl⟩)
  go_step3
  go_wp2
  refine wp_loop_rounds 1 ?_
  rw [rounds_succ]
  go_wp2
  go_step3
  go_wp2
  go_quiet (fail)
  have hw1 := below_drewN hw0 nq
  generalize World.drewN _ nq = w1 at *
  go_wp2
  go_quiet ((go_at_call 122; exact Calls.quiet_of_same (HIB.out _)))
  go_wp2
  simp only [Exit.noGoto, Exit.inBlock, Exit.then]
  go_ret
  exact ⟨rfl, below_drewN hw1 _⟩

theorem irune_any (c : Int) (hc : isCp c = true) (w : World) :
    Calls Tryz.prog 120 #[.string ⟨#[123, 125, 40, 41, 59, 44]⟩, .int .i32 c] w fun e w' => ∃ k : Int, e = .returned (.int .i64 k) ∧ decide (0 ≤ k) = isMark c ∧ Below w.heap.size w w' := by
  have hci := (isCp_iff c).1 hc
  by_cases h : c < 128
  · exact irune_ascii c hci.1 h w
  have hm : decide ((0 : Int) ≤ -1) = isMark c := by rw [no_mark c (by omega)]; rfl
  by_cases hb : c = 65533
  · subst hb
    refine (irune_bad w).mono ?_
    rintro e w' ⟨rfl, h2⟩
    exact ⟨_, rfl, hm, h2⟩
  have hne : (c == 65533) = false := by rw [beq_eq_false_iff_ne]; exact hb
  have hcv : ∀ w, (convert 21 9 (.int .i32 c)).run Tryz.prog w = .ok (.string ⟨(enc c).toArray⟩) w := by
    intro w
    rw [run_convert_int_string w 21 9 .i32 c (by kernel_rfl) Tryz.underlying9, encode_cp _ hc]
  obtain ⟨n, rfl, hn⟩ := cp_cases c hc
  rcases hn with hn | ⟨h1, h2⟩ | ⟨h1, h2, h3⟩ | ⟨h1, h2⟩
  · omega
  · refine (irune_2 n _ hc (by omega) hne ?_ ?_ w hcv).mono ?_
    · rw [enc2 n h1 h2]; rfl
    · rw [enc2 n h1 h2]
      show 128 ≤ (UInt8.ofNat (128 + n % 64)).toNat
      rw [ofNat_toNat _ (by omega)]
      omega
    · rintro e w' ⟨rfl, h2⟩
      exact ⟨_, rfl, hm, h2⟩
  · refine (irune_3 n _ hc (by omega) hne ?_ ?_ w hcv).mono ?_
    · rw [enc3 n h1 h2]; rfl
    · rw [enc3 n h1 h2]
      show 128 ≤ (UInt8.ofNat (128 + n % 64)).toNat
      rw [ofNat_toNat _ (by omega)]
      omega
    · rintro e w' ⟨rfl, h2⟩
      exact ⟨_, rfl, hm, h2⟩
  · refine (irune_4 n _ hc (by omega) hne ?_ ?_ w hcv).mono ?_
    · rw [enc4 n h1]; rfl
    · rw [enc4 n h1]
      show 128 ≤ (UInt8.ofNat (128 + n % 64)).toNat
      rw [ofNat_toNat _ (by omega)]
      omega
    · rintro e w' ⟨rfl, h2⟩
      exact ⟨_, rfl, hm, h2⟩

set_option maxRecDepth 1000000 in
set_option maxHeartbeats 1000000 in
theorem has_mark (c : Int) (hc : isCp c = true) (w : World) :
    Calls Tryz.prog 115 #[.string ⟨#[123, 125, 40, 41, 59, 44]⟩, .int .i32 c] w fun e w' => e = .returned (.bool (isMark c)) ∧ Below w.heap.size w w' := by
  go_enter Tryz.func115, Tryz.ntmps115
  go_wp2_with fail
  refine (irune_any c hc _).mono ?_
  rintro e w' ⟨k, rfl, hm, hb⟩
  have HM : Hid _ := hm
  clear hm
  go_wp2
  go_ret
  exact ⟨ret_bool HM.out, hb⟩

end Go.Proofs.YtlegmmhacnbnlaaGreatDoor.Sx

/- Words about tokens in memory: a slice of tokens that the call has made, the scan's own block, and what is left as it was. -/
namespace Go.Proofs.YtlegmmhacnbnlaaGreatDoor.Sx

open Go.RowKit

/-- A token as it lies in memory. -/
def tv (t : Tok) : List Value := [.int .i64 t.kind, .string ⟨t.text.toArray⟩, .int .i64 (t.at_ : Int)]

/-- Tokens as they lie in memory. -/
def tvs : List Tok → List Value
  | [] => []
  | t :: l => tv t ++ tvs l

theorem tvs_append (a b : List Tok) : tvs (a ++ b) = tvs a ++ tvs b := by
  induction a with
  | nil => rfl
  | cons t a ih => simp [tvs, ih]

theorem tvs_len (a : List Tok) : (tvs a).length = a.length * 3 := by
  induction a with
  | nil => rfl
  | cons t a ih => simp [tvs, tv, ih]; omega

theorem tvs_one (t : Tok) : tvs [t] = tv t := by simp [tvs]

theorem tvs_at (a : List Tok) (i j : Nat) (t : Tok) (h : a[i]? = some t) (hj : j < 3) : (tvs a)[i * 3 + j]? = (tv t)[j]? := by
  induction a generalizing i with
  | nil => simp at h
  | cons x a ih =>
    cases i with
    | zero =>
      simp at h
      subst h
      simp only [tvs, Nat.zero_mul, Nat.zero_add]
      rw [List.getElem?_append_left (by simp [tv]; omega)]
    | succ i =>
      simp at h
      simp only [tvs]
      rw [List.getElem?_append_right (by simp [tv]; omega)]
      have e : (i + 1) * 3 + j - (tv x).length = i * 3 + j := by simp [tv]; omega
      rw [e]
      exact ih i h

theorem tv_one_cell (t : Tok) : ∀ u ∈ tv t, u.oneCell' = true := by
  intro u hu
  simp [tv] at hu
  rcases hu with rfl | rfl | rfl <;> rfl

/-- All below a block is as it was, but for one block. -/
structure KB (b B : Nat) (w w' : World) : Prop where
  os : w'.os = w.os
  tape : w'.tape = w.tape
  output : w'.output = w.output
  size : w.heap.size ≤ w'.heap.size
  block : ∀ k, k < B → k ≠ b → w'.heap[k]? = w.heap[k]?

theorem KB.refl (b B : Nat) (w : World) : KB b B w w := ⟨rfl, rfl, rfl, Nat.le_refl _, fun _ _ _ => rfl⟩

theorem KB.trans {b B : Nat} {x y z : World} (h : KB b B x y) (k : KB b B y z) : KB b B x z :=
  ⟨k.os.trans h.os, k.tape.trans h.tape, k.output.trans h.output, Nat.le_trans h.size k.size, fun i hi hn => (k.block i hi hn).trans (h.block i hi hn)⟩

theorem KB.of_below {b B : Nat} {x y : World} (h : Below B x y) : KB b B x y := ⟨h.os, h.tape, h.output, h.size, fun i hi _ => h.block i hi⟩

theorem KB.setCell (b B : Nat) (w : World) (i : Nat) (v : Value) : KB b B w (w.setCell ⟨b, i, none⟩ v) :=
  ⟨rfl, rfl, rfl, by simp, fun k _ hn => heap_setCell_other w ⟨b, i, none⟩ k v hn⟩

theorem KB.setFar {b B : Nat} (w : World) (g i : Nat) (v : Value) (hg : B ≤ g) : KB b B w (w.setCell ⟨g, i, none⟩ v) :=
  ⟨rfl, rfl, rfl, by simp, fun k hk _ => heap_setCell_other w ⟨g, i, none⟩ k v (by show k ≠ g; omega)⟩

theorem KB.drewN {b B : Nat} {x y : World} (h : KB b B x y) (n : Nat) : KB b B x (y.drewN n) := ⟨h.os, h.tape, h.output, h.size, h.block⟩

theorem KB.below {b B B0 : Nat} {x y : World} (h : KB b B x y) (h1 : B0 ≤ b) (h2 : B0 ≤ B) : Below B0 x y :=
  ⟨h.os, h.tape, h.output, h.size, fun k hk => h.block k (by omega) (by omega)⟩

/-- The scan's block and its tokens. -/
structure ScanAt (w : World) (b B : Nat) (s : ByteArray) (v : Value) (st : Sc) : Prop where
  blk : w.heap[b]? = some (.cells #[.string s, v, .bool st.cur.isSome, .bool st.remark] 186 (0, 0))
  own : w.ownsRow B 183 3 v st.toks.length (tvs st.toks)
  lt : b < B
  le : B ≤ w.heap.size

theorem cell_blk {w : World} {b : Nat} {cs : Array Value} {t : TypeId} (h : w.heap[b]? = some (.cells cs t (0, 0))) (i : Nat) : w.cell? ⟨b, i, none⟩ = cs[i]? := cell_of_row w b i cs t (0, 0) h

/-- The last token of a slice that the call has made. -/
theorem last_tok {w : World} {B : Nat} {v : Value} {l : List Tok} {t : Tok} (h : w.ownsRow B 183 3 v (l ++ [t]).length (tvs (l ++ [t]))) :
    ∃ g cap, v = .slice (some ⟨g, 0, none⟩) (l.length + 1) cap ∧ B ≤ g ∧ g < w.heap.size ∧ l.length < cap ∧ cap ≤ maxLen ∧
      w.cell? ⟨g, l.length * 3, none⟩ = some (.int .i64 t.kind) ∧ w.cell? ⟨g, l.length * 3 + 1, none⟩ = some (.string ⟨t.text.toArray⟩) ∧ w.cell? ⟨g, l.length * 3 + 2, none⟩ = some (.int .i64 (t.at_ : Int)) ∧
      (∀ j, w.frozen? ⟨g, j, none⟩ = false) := by
  have hl : (l ++ [t]).length = l.length + 1 := by simp
  rw [hl] at h
  have hlast : (l ++ [t])[l.length]? = some t := by simp
  rcases h.2 with ⟨_, h0⟩ | ⟨g, cap, cur, rfl, hb, hg, hnc, hcm, _⟩
  · omega
  · refine ⟨g, cap, rfl, hb, (Array.getElem?_eq_some_iff.1 hg).1, by omega, hcm, ?_, ?_, ?_, fun j => h.frozenAt j⟩
    · rw [h.cellAt _ (by omega)]
      exact tvs_at _ l.length 0 t hlast (by omega)
    · rw [h.cellAt _ (by omega)]
      exact tvs_at _ l.length 1 t hlast (by omega)
    · rw [h.cellAt _ (by omega)]
      exact tvs_at _ l.length 2 t hlast (by omega)

theorem last_at {w : World} {B g cap : Nat} {l : List Tok} {t : Tok} (h : w.ownsRow B 183 3 (.slice (some ⟨g, 0, none⟩) (l.length + 1) cap) (l ++ [t]).length (tvs (l ++ [t]))) :
    B ≤ g ∧ g < w.heap.size ∧ l.length < cap ∧ cap ≤ maxLen ∧
      w.cell? ⟨g, l.length * 3, none⟩ = some (.int .i64 t.kind) ∧ w.cell? ⟨g, l.length * 3 + 1, none⟩ = some (.string ⟨t.text.toArray⟩) ∧ w.cell? ⟨g, l.length * 3 + 2, none⟩ = some (.int .i64 (t.at_ : Int)) ∧
      (∀ j, w.frozen? ⟨g, j, none⟩ = false) := by
  obtain ⟨g', cap', e, r⟩ := last_tok h
  simp only [Value.slice.injEq, Option.some.injEq, Addr.mk.injEq, and_true, true_and] at e
  obtain ⟨rfl, rfl⟩ := e
  exact r

theorem tvs_set_text (l : List Tok) (t : Tok) (x : List UInt8) : (tvs (l ++ [t])).set (l.length * 3 + 1) (.string ⟨x.toArray⟩) = tvs (l ++ [⟨t.kind, x, t.at_⟩]) := by
  rw [tvs_append, tvs_append, tvs_one, tvs_one]
  rw [List.set_append_right _ _ (by rw [tvs_len]; omega), tvs_len]
  rw [show l.length * 3 + 1 - l.length * 3 = 1 by omega]
  rfl

theorem set_text {w : World} {B g cap : Nat} {l : List Tok} {t : Tok} (x : List UInt8) (h : w.ownsRow B 183 3 (.slice (some ⟨g, 0, none⟩) (l.length + 1) cap) (l ++ [t]).length (tvs (l ++ [t]))) :
    (w.setCell ⟨g, l.length * 3 + 1, none⟩ (.string ⟨x.toArray⟩)).ownsRow B 183 3 (.slice (some ⟨g, 0, none⟩) (l.length + 1) cap) (l ++ [(⟨t.kind, x, t.at_⟩ : Tok)]).length (tvs (l ++ [⟨t.kind, x, t.at_⟩])) := by
  have hl : (l ++ [t]).length = l.length + 1 := by simp
  rw [hl] at h
  have h2 := (h.stored (l.length * 3 + 1) (.string ⟨x.toArray⟩)).1
  rw [tvs_set_text] at h2
  simpa using h2

/-- A token is put behind the scan's tokens, and the slice is stored. -/
theorem scan_push {W w3 : World} {b B : Nat} {o : Obj} {v v' : Value} {s : ByteArray} {done : List Tok} {t : Tok} {x2 x3 : Value} (hblk : W.heap[b]? = some (.cells #[.string s, v, x2, x3] 186 (0, 0)))
    (hown : W.ownsRow B 183 3 v done.length (tvs done)) (hlt : b < B) (hle : B ≤ W.heap.size) (ho : w3.ownsRow B 183 3 v' (done ++ [t]).length (tvs (done ++ [t]))) (hg : (W.alloc o).grownBy w3 v.ownBlock) :
    w3.heap[b]? = some (.cells #[.string s, v, x2, x3] 186 (0, 0)) ∧ KB b B W w3 ∧
      (∀ u, (w3.setCell ⟨b, 1, none⟩ u).heap[b]? = some (.cells #[.string s, u, x2, x3] 186 (0, 0))) ∧ (∀ u, (w3.setCell ⟨b, 1, none⟩ u).ownsRow B 183 3 v' (done ++ [t]).length (tvs (done ++ [t]))) := by
  have hb3 : w3.heap[b]? = some (.cells #[.string s, v, x2, x3] 186 (0, 0)) := by
    rw [hg.block b (by simp; omega) (fun h => by have := (hown.lt _ h.symm).1; omega), Below.heap_alloc _ _ _ (by omega)]
    exact hblk
  refine ⟨hb3, ?_, fun u => heap_setCell_same w3 b 1 _ 186 u hb3, fun u => ownsRow_setCell_below ho hlt u⟩
  exact KB.of_below (Below.grown ((Below.refl _ _).alloc hle _) hg (by simp; omega) (fun j hj => (hown.lt _ hj).1))

theorem Tryz.info183 : (Tryz.prog.info? 183).map (fun i => (i.zero, i.size, i.bytes)) = some (some (.agg #[.int .i64 0, .string ⟨#[]⟩, .int .i64 0]), 3, 32) := by kernel_rfl

/-- A law for the walk: 'append' of one token onto a slice of tokens of the call's own. -/
theorem append_tok {W : World} {ops : Array Oper} {rest : List Oper} {o : Oper} {a : Act} {Q : Exit → Act → World → Prop} (hgd : o.guard = none) (s x : Operand)
    (ho : o.op = .call { callee := .builtin .append, args := #[s, x], argTypes := #[178, 178] }) (B : Nat) (v : Value) (l : List Tok) (hs : a.eval s = v) (hown : W.ownsRow B 183 3 v l.length (tvs l))
    (t : Tok) (A : Addr) (hx : a.eval x = .slice (some A) 1 1) (hcells : ∀ j u, (tv t)[j]? = some u → W.cell? (A.add j) = some u) (hl : l.length ≤ 100000) (hB : B ≤ W.heap.size)
    (h : ∀ g cap w', w'.ownsRow B 183 3 (.slice (some ⟨g, 0, none⟩) (l.length + 1) cap) (l ++ [t]).length (tvs (l ++ [t])) → W.grownBy w' v.ownBlock → wpList Tryz.prog ops Q rest (a.put o.dst (.slice (some ⟨g, 0, none⟩) (l.length + 1) cap)) w') : wpList Tryz.prog ops Q (o :: rest) a W := by
  obtain ⟨i0, hi, hz0, hz1, hz2⟩ := info_parts Tryz.info183
  refine wpList_append_own _ hgd s x 178 ho B 183 i0 _ 3 32 Tryz.underlying178 hi hz0 hz1 hz2 rfl (by decide) v l.length (tvs l) hs hown A 1 1 (tv t) hx rfl hcells (tv_one_cell t) (by unfold maxLen; omega) (by omega) hB ?_
  intro v' w' hown' hg _
  have ho' : w'.ownsRow B 183 3 v' (l ++ [t]).length (tvs (l ++ [t])) := by rw [tvs_append, tvs_one]; simpa using hown'
  obtain ⟨g, cap, rfl, _⟩ := last_tok ho'
  exact h g cap w' ho' hg

theorem cells_set (w : World) (p : Addr) (q x y z : Value) : ∀ j u, [x, y, z][j]? = some u → ((w.setCell p q).alloc (.cells #[x, y, z] 183)).cell? ((⟨w.heap.size, 0, none⟩ : Addr).add j) = some u := by
  intro j u hj
  have h := cells3 (w.setCell p q) x y z 183 j u hj
  rwa [World.size_setCell] at h

end Go.Proofs.YtlegmmhacnbnlaaGreatDoor.Sx

/- A walk over the scan's 'letter'. -/
namespace Go.Proofs.YtlegmmhacnbnlaaGreatDoor.Sx

open Go.RowKit

set_option linter.unusedVariables false

set_option maxRecDepth 1000000 in
set_option maxHeartbeats 1000000 in
theorem letter_big (b B : Nat) (s : ByteArray) (v : Value) (done : List Tok) (p : Nat) (t : List UInt8) (at_ k : Nat) (w : World) (h : ScanAt w b B s v ⟨done, some (p, t), false⟩) (hpa : p ≤ 100000) (hat : at_ + k ≤ 100000) (hbig : p + 24 < at_ + k) (hdl : done.length ≤ 100000) :
    Calls Tryz.prog 116 #[.pointer (some ⟨b, 0, none⟩), .int .i64 at_, .int .i64 ((at_ + k : Nat) : Int)] w fun e w' => e = .returned (.tuple #[.int .i64 p, .int .i64 5]) ∧ KB b B w w' := by
  obtain ⟨hblk, hown, hlt, hle⟩ := h
  have hkb := KB.refl b B w
  obtain ⟨g, cap, rfl, hBg, hgz, hcap, hcm, c0, c1, c2, hf⟩ := last_tok (l := done) (t := ⟨1, t, p⟩) hown
  have d0 := cell_blk hblk 0
  have d1 := cell_blk hblk 1
  have d2 := cell_blk hblk 2
  simp at d0 d1 d2
  generalize done.length = n at *
  generalize at_ + k = q at *
  go_enter Tryz.func116, Tryz.ntmps116
  go_wp2
  go_quiet (fail)
  go_wp2
  go_ret2
  exact ⟨rfl, hkb.drewN _⟩

theorem scan_text {w : World} {b B g cap : Nat} {s : ByteArray} {done : List Tok} {p : Nat} {t : List UInt8} (x : List UInt8) (m : Nat)
    (h : ScanAt w b B s (.slice (some ⟨g, 0, none⟩) (done.length + 1) cap) ⟨done, some (p, t), false⟩) (hg : B ≤ g) :
    ScanAt ((w.drewN m).setCell ⟨g, done.length * 3 + 1, none⟩ (.string ⟨x.toArray⟩)) b B s (.slice (some ⟨g, 0, none⟩) (done.length + 1) cap) ⟨done, some (p, x), false⟩ ∧
      KB b B w ((w.drewN m).setCell ⟨g, done.length * 3 + 1, none⟩ (.string ⟨x.toArray⟩)) := by
  obtain ⟨hblk, hown, hlt, hle⟩ := h
  have hown2 : (w.drewN m).ownsRow B 183 3 (.slice (some ⟨g, 0, none⟩) (done.length + 1) cap) (done ++ [(⟨1, t, p⟩ : Tok)]).length (tvs (done ++ [⟨1, t, p⟩])) := hown
  refine ⟨⟨?_, ?_, hlt, by simpa using hle⟩, ?_⟩
  · rw [heap_setCell_other _ _ _ _ (by show b ≠ g; omega)]
    exact hblk
  · exact set_text x hown2
  · exact ((KB.refl b B w).drewN m).trans (KB.setFar _ g _ _ hg)

set_option maxRecDepth 1000000 in
set_option maxHeartbeats 2000000 in
theorem letter_more (b B : Nat) (s : ByteArray) (v : Value) (done : List Tok) (p : Nat) (t x : List UInt8) (at_ k : Nat) (w : World) (h : ScanAt w b B s v ⟨done, some (p, t), false⟩) (hpa : p ≤ at_ + k) (hs : s.size ≤ 100000) (hat : at_ + k ≤ s.size) (hbig : ¬ p + 24 < at_ + k) (hdl : done.length ≤ 100000) (hx : s.extract p (at_ + k) = ⟨x.toArray⟩) :
    Calls Tryz.prog 116 #[.pointer (some ⟨b, 0, none⟩), .int .i64 at_, .int .i64 ((at_ + k : Nat) : Int)] w fun e w' => e = .returned (.tuple #[.int .i64 0, .int .i64 0]) ∧ (∃ v', ScanAt w' b B s v' ⟨done, some (p, x), false⟩) ∧ KB b B w w' := by
  have h0 := h
  obtain ⟨hblk, hown, hlt, hle⟩ := h
  obtain ⟨g, cap, rfl, hBg, hgz, hcap, hcm, c0, c1, c2, hf⟩ := last_tok (l := done) (t := ⟨1, t, p⟩) hown
  have HF : Hid _ := fun m => scan_text x m h0 hBg
  have HX : Hid (s.extract p (at_ + k) = ⟨x.toArray⟩) := hx
  have d0 := cell_blk hblk 0
  have d1 := cell_blk hblk 1
  have d2 := cell_blk hblk 2
  simp at d0 d1 d2
  have hne : b ≠ g := by omega
  clear hblk hown hx h0
  generalize done.length = n at *
  generalize hq : at_ + k = q at *
  clear hq
  go_enter Tryz.func116, Tryz.ntmps116
  go_wp2
  go_quiet (fail)
  go_wp2
  go_region
  go_wp2
  go_ret2
  rw [HX.out]
  exact ⟨rfl, ⟨_, (HF.out _).1⟩, (HF.out _).2⟩

set_option maxRecDepth 1000000 in
set_option maxHeartbeats 2000000 in
theorem letter_new (b B : Nat) (s : ByteArray) (v : Value) (done : List Tok) (x : List UInt8) (at_ k : Nat) (w : World) (h : ScanAt w b B s v ⟨done, none, false⟩) (hs : s.size ≤ 100000) (hat : at_ + k ≤ s.size) (hk : k ≤ 4) (hdl : done.length ≤ 100000) (hx : s.extract at_ (at_ + k) = ⟨x.toArray⟩) :
    Calls Tryz.prog 116 #[.pointer (some ⟨b, 0, none⟩), .int .i64 at_, .int .i64 ((at_ + k : Nat) : Int)] w fun e w' => e = .returned (.tuple #[.int .i64 0, .int .i64 0]) ∧ (∃ v', ScanAt w' b B s v' ⟨done, some (at_, x), false⟩) ∧ KB b B w w' := by
  have h0 := h
  obtain ⟨hblk, hown, hlt, hle⟩ := h
  have hown : w.ownsRow B 183 3 v done.length (tvs done) := by simpa [Sc.toks, curToks] using hown
  have d0 := cell_blk hblk 0
  have d1 := cell_blk hblk 1
  have d2 := cell_blk hblk 2
  simp at d0 d1 d2
  have hf : ∀ j, w.frozen? ⟨b, j, none⟩ = false := fun j => frozen_of_row w b j _ 186 hblk
  have hblk1 : (w.setCell ⟨b, 2, none⟩ (.bool true)).heap[b]? = some (.cells #[.string s, v, .bool true, .bool false] 186 (0, 0)) := heap_setCell_same w b 2 _ 186 _ hblk
  have hown1 : (w.setCell ⟨b, 2, none⟩ (.bool true)).ownsRow B 183 3 v done.length (tvs done) := ownsRow_setCell_below hown hlt _
  have hkb1 : KB b B w (w.setCell ⟨b, 2, none⟩ (.bool true)) := KB.setCell b B w 2 _
  have hcells : ∀ x y z, ∀ j u, [x, y, z][j]? = some u → ((w.setCell ⟨b, 2, none⟩ (.bool true)).alloc (.cells #[x, y, z] 183)).cell? ((⟨w.heap.size, 0, none⟩ : Addr).add j) = some u := by
    intro x y z j u hj
    have h := cells3 (w.setCell ⟨b, 2, none⟩ (.bool true)) x y z 183 j u hj
    rwa [World.size_setCell] at h
  have HC : Hid _ := hcells
  have HB1 : Hid (_ = _) := hblk1
  clear hcells hblk1
  go_enter Tryz.func116, Tryz.ntmps116
  go_wp2_with (at_builtin; refine append_tok rfl _ _ rfl B _ done rfl (hown1.alloc _) ⟨1, [], at_⟩ ⟨w.heap.size, 0, none⟩ rfl (HC.out _ _ _) hdl (by simp; omega) ?_; intro g cap w3 ho3 hgrow3; obtain ⟨hb3, hk3, hb4, ho4⟩ := scan_push (t := ⟨1, [], at_⟩) HB1.out hown1 hlt (by simpa using hle) ho3 hgrow3; obtain ⟨hBg, hgz, hcap, hcm, c0, c1, c2, hf3⟩ := last_at ho3; have e0 := cell_blk hb3 0; have e1 := cell_blk hb3 1; have e2 := cell_blk hb3 2; simp at e0 e1 e2; have hfb : ∀ j, w3.frozen? ⟨b, j, none⟩ = false := fun j => frozen_of_row w3 b j _ 186 hb3; have hne : b ≠ g := by omega)
  have hsz3 : B ≤ w3.heap.size := by omega
  have H4 : ScanAt (w3.setCell ⟨b, 1, none⟩ (.slice (some ⟨g, 0, none⟩) (done.length + 1) cap)) b B s (.slice (some ⟨g, 0, none⟩) (done.length + 1) cap) ⟨done, some (at_, []), false⟩ := ⟨hb4 _, ho4 _, hlt, by simpa using hsz3⟩
  have K4 : KB b B w (w3.setCell ⟨b, 1, none⟩ (.slice (some ⟨g, 0, none⟩) (done.length + 1) cap)) := hkb1.trans (hk3.trans (KB.setCell b B w3 1 _))
  have HF : Hid _ := fun m => scan_text x m H4 hBg
  have HX : Hid (s.extract at_ (at_ + k) = ⟨x.toArray⟩) := hx
  clear hb4 ho4 ho3 hgrow3 hk3 hb3 HB1 hown1 hkb1 HC hblk hown d0 d1 d2 hf hx e0 e1 e2 c0 c1 c2 hf3 hfb h0
  have K4 : Hid _ := K4
  generalize w3.setCell ⟨b, 1, none⟩ (.slice (some ⟨g, 0, none⟩) (done.length + 1) cap) = W4 at *
  obtain ⟨hblk, hown, _, hle4⟩ := H4
  obtain ⟨_, hgz4, _, _, c0, c1, c2, hf⟩ := last_at (l := done) (t := ⟨1, [], at_⟩) hown
  have d0 := cell_blk hblk 0
  have d1 := cell_blk hblk 1
  have d2 := cell_blk hblk 2
  simp at d0 d1 d2
  simp only at c0 c1 c2
  clear hblk hown
  generalize done.length = n at *
  go_quiet (fail)
  go_wp2
  go_region
  go_wp2
  go_ret2
  rw [HX.out]
  exact ⟨rfl, ⟨_, (HF.out _).1⟩, K4.out.trans (HF.out _).2⟩

end Go.Proofs.YtlegmmhacnbnlaaGreatDoor.Sx

