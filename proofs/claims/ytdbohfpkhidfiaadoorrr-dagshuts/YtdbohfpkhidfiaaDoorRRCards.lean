/-
  DERIVED. GIVEN WITH THE SEED: THE CARDS: each row of YtdbohfpkhidfiaaDoorRRRows.lean that lists a variable, with what it lists TIED to the program's text (the seventh form; the later family's looks); each row that meets fmt, with fmt's text TOLD by the authors' own Lean function (tested against real Go, not proved from fmt's source: count such statements apart). THE CARD IS WHAT COUNTS. Prove the row's statement (the work); the ties are given (YtdbohfpkhidfiaaDoorRRTie.lean); close each card by the builder's one call (the guide's Derived/Test/ToyasCard.lean, 'card_holds'). Laid BY PROGRAM, IN A SANDBOX (cutbox-door.mjs). By AI agents, Wed Nov 11 2026. No macro, syntax, notation, axiom, sorry.
-/
import Derived.Test.YtdbohfpkhidfiaaDoorRRRows
import GoSem.ClaimSeven
namespace Go.Proofs.YtdbohfpkhidfiaaDoorRR
namespace Rows

/-- THE TIED CARD OF 'argosylaw04.DagFollows'. -/
def dagFollowsCard : Claim7 := { stood := { row := dagFollowsRow, standIns := [], harness := (true, "735e2d33f6a404f10849b73b9594214acb0197636ca6d1312c8fba6ba097ec6d"), looks := true }, kinds := [], alts := [], laidByText := true, laidKinds := [.data], laidTests := true, laidLooks := .later }
def DagFollowsCardSaid : Prop := Claim7.holds Tryd.pinned (.plain (OpenSpec.ofChange dagFollowsSpec)) dagFollowsCard

/-- THE TIED CARD OF 'argosylaw04.DagShuts'. -/
def dagShutsCard : Claim7 := { stood := { row := dagShutsRow, standIns := [], harness := (true, "735e2d33f6a404f10849b73b9594214acb0197636ca6d1312c8fba6ba097ec6d"), looks := true }, kinds := [], alts := [], laidByText := true, laidKinds := [.data], laidTests := true, laidLooks := .later }
def DagShutsCardSaid : Prop := Claim7.holds Tryd.pinned (.plain (OpenSpec.ofChange dagShutsSpec)) dagShutsCard

/-- THE TIED CARD OF 'argosylaw04.DagTurns'. -/
def dagTurnsCard : Claim7 := { stood := { row := dagTurnsRow, standIns := [], harness := (true, "735e2d33f6a404f10849b73b9594214acb0197636ca6d1312c8fba6ba097ec6d"), looks := true }, kinds := [], alts := [], laidByText := true, laidKinds := [.data], laidTests := true, laidLooks := .later }
def DagTurnsCardSaid : Prop := Claim7.holds Tryd.pinned (.plain (OpenSpec.ofChange dagTurnsSpec)) dagTurnsCard

/-- THE TIED CARD OF 'argosylaw04.DagWalks'. -/
def dagWalksCard : Claim7 := { stood := { row := dagWalksRow, standIns := [], harness := (true, "735e2d33f6a404f10849b73b9594214acb0197636ca6d1312c8fba6ba097ec6d"), looks := true }, kinds := [], alts := [], laidByText := true, laidKinds := [.data], laidTests := true, laidLooks := .later }
def DagWalksCardSaid : Prop := Claim7.holds Tryd.pinned (.plain (OpenSpec.ofChange dagWalksSpec)) dagWalksCard

/-- THE SECOND FORM's CARD OF 'argosylaw04.DagFollows'. -/
def dagFollowsUptoCard : Claim7 := { stood := { row := dagFollowsUptoRow, standIns := [], harness := (true, "735e2d33f6a404f10849b73b9594214acb0197636ca6d1312c8fba6ba097ec6d"), looks := true }, kinds := [], alts := [], laidByText := true, laidKinds := [.data], laidTests := true, laidLooks := .later }
def DagFollowsUptoCardSaid : Prop := Claim7.holds Tryd.pinned (.plain (OpenSpec.upto dagFollowsSpec)) dagFollowsUptoCard

/-- THE SECOND FORM's CARD OF 'argosylaw04.DagShuts'. -/
def dagShutsUptoCard : Claim7 := { stood := { row := dagShutsUptoRow, standIns := [], harness := (true, "735e2d33f6a404f10849b73b9594214acb0197636ca6d1312c8fba6ba097ec6d"), looks := true }, kinds := [], alts := [], laidByText := true, laidKinds := [.data], laidTests := true, laidLooks := .later }
def DagShutsUptoCardSaid : Prop := Claim7.holds Tryd.pinned (.plain (OpenSpec.upto dagShutsSpec)) dagShutsUptoCard

/-- THE SECOND FORM's CARD OF 'argosylaw04.DagTurns'. -/
def dagTurnsUptoCard : Claim7 := { stood := { row := dagTurnsUptoRow, standIns := [], harness := (true, "735e2d33f6a404f10849b73b9594214acb0197636ca6d1312c8fba6ba097ec6d"), looks := true }, kinds := [], alts := [], laidByText := true, laidKinds := [.data], laidTests := true, laidLooks := .later }
def DagTurnsUptoCardSaid : Prop := Claim7.holds Tryd.pinned (.plain (OpenSpec.upto dagTurnsSpec)) dagTurnsUptoCard

/-- THE SECOND FORM's CARD OF 'argosylaw04.DagWalks'. -/
def dagWalksUptoCard : Claim7 := { stood := { row := dagWalksUptoRow, standIns := [], harness := (true, "735e2d33f6a404f10849b73b9594214acb0197636ca6d1312c8fba6ba097ec6d"), looks := true }, kinds := [], alts := [], laidByText := true, laidKinds := [.data], laidTests := true, laidLooks := .later }
def DagWalksUptoCardSaid : Prop := Claim7.holds Tryd.pinned (.plain (OpenSpec.upto dagWalksSpec)) dagWalksUptoCard
end Rows
end Go.Proofs.YtdbohfpkhidfiaaDoorRR
