/-
  DERIVED. GIVEN WITH THE SEED: THE CARDS: each row of YtgdnlceliiekkaaGreatDoorRows.lean that lists a variable, with what it lists TIED to the program's text (the seventh form; the later family's looks); each row that meets fmt, with fmt's text TOLD by the authors' own Lean function (tested against real Go, not proved from fmt's source: count such statements apart). THE CARD IS WHAT COUNTS. Prove the row's statement (the work); the ties are given (YtgdnlceliiekkaaGreatDoorTie.lean); close each card by the builder's one call (the guide's Derived/Test/ToyasCard.lean, 'card_holds'). Laid BY PROGRAM, IN A SANDBOX (cutbox-door.mjs). By AI agents, Wed Nov 11 2026. No macro, syntax, notation, axiom, sorry.
-/
import Derived.Test.YtgdnlceliiekkaaGreatDoorRows
import GoSem.ClaimSeven
namespace Go.Proofs.YtgdnlceliiekkaaGreatDoor
namespace Rows

/-- THE TIED CARD OF 'argosylaw14.StateOne'. -/
def stateOneCard : Claim7 := { stood := { row := stateOneRow, standIns := [], harness := (true, "eb6593d3c01251600d1688109ab035feb67bf92dc324314d00648e32e31a713f"), looks := true }, kinds := [], alts := [], laidByText := true, laidKinds := [.data], laidTests := true, laidLooks := .later }
def StateOneCardSaid : Prop := Claim7.holds Tryz.pinned (.plain (OpenSpec.ofChange stateOneSpec)) stateOneCard

/-- THE TIED CARD OF 'argosylaw14.StateFalls'. -/
def stateFallsCard : Claim7 := { stood := { row := stateFallsRow, standIns := [], harness := (true, "eb6593d3c01251600d1688109ab035feb67bf92dc324314d00648e32e31a713f"), looks := true }, kinds := [], alts := [], laidByText := true, laidKinds := [.data], laidTests := true, laidLooks := .later }
def StateFallsCardSaid : Prop := Claim7.holds Tryz.pinned (.plain (OpenSpec.ofChange stateFallsSpec)) stateFallsCard

/-- THE TIED CARD OF 'argosylaw14.StateSees'. -/
def stateSeesCard : Claim7 := { stood := { row := stateSeesRow, standIns := [], harness := (true, "eb6593d3c01251600d1688109ab035feb67bf92dc324314d00648e32e31a713f"), looks := true }, kinds := [], alts := [], laidByText := true, laidKinds := [.data], laidTests := true, laidLooks := .later }
def StateSeesCardSaid : Prop := Claim7.holds Tryz.pinned (.plain (OpenSpec.ofChange stateSeesSpec)) stateSeesCard

/-- THE TIED CARD OF 'argosylaw14.StateIdle'. -/
def stateIdleCard : Claim7 := { stood := { row := stateIdleRow, standIns := [], harness := (true, "eb6593d3c01251600d1688109ab035feb67bf92dc324314d00648e32e31a713f"), looks := true }, kinds := [], alts := [], laidByText := true, laidKinds := [.data], laidTests := true, laidLooks := .later }
def StateIdleCardSaid : Prop := Claim7.holds Tryz.pinned (.plain (OpenSpec.ofChange stateIdleSpec)) stateIdleCard

/-- THE SECOND FORM's CARD OF 'argosylaw14.StateOne'. -/
def stateOneUptoCard : Claim7 := { stood := { row := stateOneUptoRow, standIns := [], harness := (true, "eb6593d3c01251600d1688109ab035feb67bf92dc324314d00648e32e31a713f"), looks := true }, kinds := [], alts := [], laidByText := true, laidKinds := [.data], laidTests := true, laidLooks := .later }
def StateOneUptoCardSaid : Prop := Claim7.holds Tryz.pinned (.plain (OpenSpec.upto stateOneSpec)) stateOneUptoCard

/-- THE SECOND FORM's CARD OF 'argosylaw14.StateFalls'. -/
def stateFallsUptoCard : Claim7 := { stood := { row := stateFallsUptoRow, standIns := [], harness := (true, "eb6593d3c01251600d1688109ab035feb67bf92dc324314d00648e32e31a713f"), looks := true }, kinds := [], alts := [], laidByText := true, laidKinds := [.data], laidTests := true, laidLooks := .later }
def StateFallsUptoCardSaid : Prop := Claim7.holds Tryz.pinned (.plain (OpenSpec.upto stateFallsSpec)) stateFallsUptoCard

/-- THE SECOND FORM's CARD OF 'argosylaw14.StateSees'. -/
def stateSeesUptoCard : Claim7 := { stood := { row := stateSeesUptoRow, standIns := [], harness := (true, "eb6593d3c01251600d1688109ab035feb67bf92dc324314d00648e32e31a713f"), looks := true }, kinds := [], alts := [], laidByText := true, laidKinds := [.data], laidTests := true, laidLooks := .later }
def StateSeesUptoCardSaid : Prop := Claim7.holds Tryz.pinned (.plain (OpenSpec.upto stateSeesSpec)) stateSeesUptoCard

/-- THE SECOND FORM's CARD OF 'argosylaw14.StateIdle'. -/
def stateIdleUptoCard : Claim7 := { stood := { row := stateIdleUptoRow, standIns := [], harness := (true, "eb6593d3c01251600d1688109ab035feb67bf92dc324314d00648e32e31a713f"), looks := true }, kinds := [], alts := [], laidByText := true, laidKinds := [.data], laidTests := true, laidLooks := .later }
def StateIdleUptoCardSaid : Prop := Claim7.holds Tryz.pinned (.plain (OpenSpec.upto stateIdleSpec)) stateIdleUptoCard
end Rows
end Go.Proofs.YtgdnlceliiekkaaGreatDoor
