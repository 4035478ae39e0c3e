/- The walks over the document's One, Put and Puts. -/
import Derived.Test.YtfemfekhpfkafaaDoorWe
import Derived.Deep.RegionHeldLaw
namespace Go.Proofs.YtfemfekhpfkafaaDoor

open Go.RowKit

set_option linter.unusedVariables false

theorem str_new (w : World) (c : UInt8) (x : Int) (h : bvs [c] = [.int .u8 x]) : (convert 22 9 (.slice (some ⟨w.heap.size, 0, none⟩) 1 1)).run Tryd.prog (w.alloc (.cells #[.int .u8 x] 5)) = .ok (.string ⟨[c].toArray⟩) (w.alloc (.cells #[.int .u8 x] 5)) :=
  string_of_RB (RB.new w [c] #[.int .u8 x] 5 h.symm (by simp))

theorem str_late (w w2 : World) (c : UInt8) (x : Int) (h : bvs [c] = [.int .u8 x]) (hb : Below (w.alloc (.cells #[.int .u8 x] 5)).heap.size (w.alloc (.cells #[.int .u8 x] 5)) w2) : (convert 22 9 (.slice (some ⟨w.heap.size, 0, none⟩) 1 1)).run Tryd.prog w2 = .ok (.string ⟨[c].toArray⟩) w2 :=
  string_of_RB ((RB.new w [c] #[.int .u8 x] 5 h.symm (by simp)).later hb)

theorem str_newd (w : World) (c : UInt8) (x : Int) (h : bvs [c] = [.int .u8 x]) : (convert 22 9 (.slice (some ⟨w.heap.size, 0, none⟩) 1 1)).run Tryd.prog (w.alloc (.cells #[.int .u8 x] 5)).drew = .ok (.string ⟨[c].toArray⟩) (w.alloc (.cells #[.int .u8 x] 5)).drew :=
  string_of_RB ((RB.new w [c] #[.int .u8 x] 5 h.symm (by simp)).later ((Below.refl _ _).drew))

theorem str_lated (w w2 : World) (c : UInt8) (x : Int) (h : bvs [c] = [.int .u8 x]) (hb : Below (w.alloc (.cells #[.int .u8 x] 5)).drew.heap.size (w.alloc (.cells #[.int .u8 x] 5)).drew w2) : (convert 22 9 (.slice (some ⟨w.heap.size, 0, none⟩) 1 1)).run Tryd.prog w2 = .ok (.string ⟨[c].toArray⟩) w2 :=
  string_of_RB (((RB.new w [c] #[.int .u8 x] 5 h.symm (by simp)).later ((Below.refl _ _).drew)).later hb)

end Go.Proofs.YtfemfekhpfkafaaDoor
