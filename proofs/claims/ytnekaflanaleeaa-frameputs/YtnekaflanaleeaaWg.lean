/- The walks over the document's Frame, Put and Take. -/
import Derived.Test.YtnekaflanaleeaaWf
namespace Go.Proofs.Ytnekaflanaleeaa
open Go.RowKit
set_option linter.unusedVariables false

theorem bcat (a b : List UInt8) : (⟨a.toArray⟩ : ByteArray) ++ ⟨b.toArray⟩ = ⟨(a ++ b).toArray⟩ := by
  apply ByteArray.ext
  rw [ByteArray.data_append]
  simp

theorem bsize (a : List UInt8) : (⟨a.toArray⟩ : ByteArray).size = a.length := by simp [ByteArray.size]

set_option maxRecDepth 1000000 in
set_option maxHeartbeats 1000000 in
theorem rframe_any (l : List UInt8) (w : World) (hl : l.length ≤ 1024) :
    Calls Try.prog 21 #[.string ⟨l.toArray⟩] w fun e w' => e = .returned (.string ⟨(frameP l).toArray⟩) ∧ Below w.heap.size w w' := by
  have HH : Hid (bvs (hd2 l.length) = [.int .u8 ((l.length : Int) / 256), .int .u8 ((l.length : Int) % 256)]) := by
    show _ = _
    rw [hd_bytes]
    congr 2
    rw [Nat.mod_eq_of_lt (by omega)]
    rfl
  have hc1 : (convert 22 9 (.slice (some ⟨w.heap.size, 0, none⟩) 2 2)).run Try.prog (w.alloc (.cells #[.int .u8 ((l.length : Int) / 256), .int .u8 ((l.length : Int) % 256)] 5)) = .ok (.string ⟨(hd2 l.length).toArray⟩) (w.alloc (.cells #[.int .u8 ((l.length : Int) / 256), .int .u8 ((l.length : Int) % 256)] 5)) :=
    string_of_RB (RB.new w (hd2 l.length) #[.int .u8 ((l.length : Int) / 256), .int .u8 ((l.length : Int) % 256)] 5 HH.out.symm (by rw [hd2_len]; omega))
  have hsz := bsize l
  have hcat : (⟨(hd2 l.length).toArray⟩ : ByteArray) ++ ⟨l.toArray⟩ = ⟨(hd2 l.length ++ l).toArray⟩ := bcat _ _
  have HSM : Hid (∀ wx, Calls Try.prog 12 #[.string ⟨(hd2 l.length ++ l).toArray⟩] wx fun e w' => e = .returned (.int .u32 (sumP (hd2 l.length ++ l) : Nat)) ∧ w' = wx) := fun wx => rsum_any _ _ rfl wx (by rw [List.length_append, hd2_len]; omega)
  have hq := sumP_lt (hd2 l.length ++ l)
  have HF : Hid (frameP l = hd2 l.length ++ l ++ le4 (sumP (hd2 l.length ++ l))) := rfl
  generalize sumP (hd2 l.length ++ l) = q at *
  obtain ⟨w1, HW1⟩ : ∃ w1, Hid (w1 = w.alloc (.cells #[.int .u8 ((l.length : Int) / 256), .int .u8 ((l.length : Int) % 256)] 5)) := ⟨_, rfl⟩
  have HLE : Hid (bvs (le4 q) = [.int .u8 ((q : Int) % 256), .int .u8 ((q : Int) / 256 % 256), .int .u8 ((q : Int) / 65536 % 256), .int .u8 ((q : Int) / 16777216)]) := by
    have e3 : (q : Int) / 16777216 = ((q / 16777216 % 256 : Nat) : Int) := by omega
    show _ = _
    rw [e3]
    simp [bvs, le4]
  have hc2 := string_of_RB (RB.new (w.alloc (.cells #[.int .u8 ((l.length : Int) / 256), .int .u8 ((l.length : Int) % 256)] 5)) (le4 q) #[.int .u8 ((q : Int) % 256), .int .u8 ((q : Int) / 256 % 256), .int .u8 ((q : Int) / 65536 % 256), .int .u8 ((q : Int) / 16777216)] 5 HLE.out.symm (by rw [le4_len]; omega))
  rw [World.size_alloc, le4_len] at hc2
  have hcat2 : (⟨(hd2 l.length ++ l).toArray⟩ : ByteArray) ++ ⟨(le4 q).toArray⟩ = ⟨(hd2 l.length ++ l ++ le4 q).toArray⟩ := bcat _ _
  have h2 := hd2_len l.length
  have h4 := le4_len q
  go_enter Try.func21, Try.ntmps21
  go_wp2_with (first
    | (go_at_call 12; refine Calls.mono (HSM.out _) ?_; rintro e w2 ⟨rfl, rfl⟩))
  go_ret
  rw [HF.out]
  exact ⟨rfl, ((Below.refl _ _).alloc (Nat.le_refl _) _).alloc (by simp) _⟩

set_option maxRecDepth 1000000 in
set_option maxHeartbeats 1000000 in
theorem rput_any (a b : List UInt8) (w : World) (ha : a.length ≤ 100000) (hb : b.length ≤ 1024) :
    Calls Try.prog 10 #[.string ⟨a.toArray⟩, .string ⟨b.toArray⟩] w fun e w' => e = .returned (.tuple #[.string ⟨(a ++ frameP b).toArray⟩, .int .i64 0]) ∧ Below w.heap.size w w' := by
  have HFR : Hid (∀ wx, Calls Try.prog 21 #[.string ⟨b.toArray⟩] wx fun e w' => e = .returned (.string ⟨(frameP b).toArray⟩) ∧ Below wx.heap.size wx w') := fun wx => rframe_any b wx hb
  have hcat : (⟨a.toArray⟩ : ByteArray) ++ ⟨(frameP b).toArray⟩ = ⟨(a ++ frameP b).toArray⟩ := bcat _ _
  have h1 := frameP_len b
  generalize frameP b = fr at *
  go_enter Try.func10, Try.ntmps10
  go_wp2_with (first
    | (go_at_call 21; refine Calls.mono (HFR.out _) ?_; rintro e w2 ⟨rfl, hb2⟩))
  go_ret2
  exact ⟨rfl, hb2⟩

set_option maxRecDepth 1000000 in
set_option maxHeartbeats 1000000 in
theorem rput_big (a b : List UInt8) (w : World) (hb : 1024 < b.length) (hb2 : b.length ≤ 100000) :
    Calls Try.prog 10 #[.string ⟨a.toArray⟩, .string ⟨b.toArray⟩] w fun e w' => e = .returned (.tuple #[.string ⟨#[]⟩, .int .i64 5]) ∧ w' = w := by
  go_enter Try.func10, Try.ntmps10
  go_wp2_with fail
  go_ret2
  exact ⟨rfl, rfl⟩
end Go.Proofs.Ytnekaflanaleeaa
