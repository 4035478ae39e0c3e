/-
  DERIVED. GIVEN WITH THE SEED: THE CARDS: each row of YtephkdocfhajiaaDoorRows.lean that lists a variable, with what it lists TIED to the program's text (the seventh form; the later family's looks); each row that meets fmt, with fmt's text TOLD by the authors' own Lean function (tested against real Go, not proved from fmt's source: count such statements apart). THE CARD IS WHAT COUNTS. Prove the row's statement (the work); the ties are given (YtephkdocfhajiaaDoorTie.lean); close each card by the builder's one call (the guide's Derived/Test/ToyasCard.lean, 'card_holds'). Laid BY PROGRAM, IN A SANDBOX (cutbox-door.mjs). By AI agents, Wed Nov 11 2026. No macro, syntax, notation, axiom, sorry.
-/
import Derived.Test.YtephkdocfhajiaaDoorRows
import GoSem.ClaimSeven
namespace Go.Proofs.YtephkdocfhajiaaDoor
namespace Rows

/-- THE TIED CARD OF 'argosylaw05.PlanBack'. -/
def planBackCard : Claim7 := { stood := { row := planBackRow, standIns := [], harness := (true, "d4213dd6e30a02e854bc94798eaeed5ee8fc28322b4b744e310f25411156afa8"), looks := true }, kinds := [], alts := [], laidByText := true, laidKinds := [.data], laidTests := true, laidLooks := .later }
def PlanBackCardSaid : Prop := Claim7.holds Tryd.pinned (.plain (OpenSpec.ofChange planBackSpec)) planBackCard

/-- THE TIED CARD OF 'argosylaw05.PlanAll'. -/
def planAllCard : Claim7 := { stood := { row := planAllRow, standIns := [], harness := (true, "d4213dd6e30a02e854bc94798eaeed5ee8fc28322b4b744e310f25411156afa8"), looks := true }, kinds := [], alts := [], laidByText := true, laidKinds := [.data], laidTests := true, laidLooks := .later }
def PlanAllCardSaid : Prop := Claim7.holds Tryd.pinned (.plain (OpenSpec.ofChange planAllSpec)) planAllCard

/-- THE TIED CARD OF 'argosylaw05.PlanLeans'. -/
def planLeansCard : Claim7 := { stood := { row := planLeansRow, standIns := [], harness := (true, "d4213dd6e30a02e854bc94798eaeed5ee8fc28322b4b744e310f25411156afa8"), looks := true }, kinds := [], alts := [], laidByText := true, laidKinds := [.data], laidTests := true, laidLooks := .later }
def PlanLeansCardSaid : Prop := Claim7.holds Tryd.pinned (.plain (OpenSpec.ofChange planLeansSpec)) planLeansCard

/-- THE TIED CARD OF 'argosylaw05.PlanSees'. -/
def planSeesCard : Claim7 := { stood := { row := planSeesRow, standIns := [], harness := (true, "d4213dd6e30a02e854bc94798eaeed5ee8fc28322b4b744e310f25411156afa8"), looks := true }, kinds := [], alts := [], laidByText := true, laidKinds := [.data], laidTests := true, laidLooks := .later }
def PlanSeesCardSaid : Prop := Claim7.holds Tryd.pinned (.plain (OpenSpec.ofChange planSeesSpec)) planSeesCard

/-- THE SECOND FORM's CARD OF 'argosylaw05.PlanBack'. -/
def planBackUptoCard : Claim7 := { stood := { row := planBackUptoRow, standIns := [], harness := (true, "d4213dd6e30a02e854bc94798eaeed5ee8fc28322b4b744e310f25411156afa8"), looks := true }, kinds := [], alts := [], laidByText := true, laidKinds := [.data], laidTests := true, laidLooks := .later }
def PlanBackUptoCardSaid : Prop := Claim7.holds Tryd.pinned (.plain (OpenSpec.upto planBackSpec)) planBackUptoCard

/-- THE SECOND FORM's CARD OF 'argosylaw05.PlanAll'. -/
def planAllUptoCard : Claim7 := { stood := { row := planAllUptoRow, standIns := [], harness := (true, "d4213dd6e30a02e854bc94798eaeed5ee8fc28322b4b744e310f25411156afa8"), looks := true }, kinds := [], alts := [], laidByText := true, laidKinds := [.data], laidTests := true, laidLooks := .later }
def PlanAllUptoCardSaid : Prop := Claim7.holds Tryd.pinned (.plain (OpenSpec.upto planAllSpec)) planAllUptoCard

/-- THE SECOND FORM's CARD OF 'argosylaw05.PlanLeans'. -/
def planLeansUptoCard : Claim7 := { stood := { row := planLeansUptoRow, standIns := [], harness := (true, "d4213dd6e30a02e854bc94798eaeed5ee8fc28322b4b744e310f25411156afa8"), looks := true }, kinds := [], alts := [], laidByText := true, laidKinds := [.data], laidTests := true, laidLooks := .later }
def PlanLeansUptoCardSaid : Prop := Claim7.holds Tryd.pinned (.plain (OpenSpec.upto planLeansSpec)) planLeansUptoCard

/-- THE SECOND FORM's CARD OF 'argosylaw05.PlanSees'. -/
def planSeesUptoCard : Claim7 := { stood := { row := planSeesUptoRow, standIns := [], harness := (true, "d4213dd6e30a02e854bc94798eaeed5ee8fc28322b4b744e310f25411156afa8"), looks := true }, kinds := [], alts := [], laidByText := true, laidKinds := [.data], laidTests := true, laidLooks := .later }
def PlanSeesUptoCardSaid : Prop := Claim7.holds Tryd.pinned (.plain (OpenSpec.upto planSeesSpec)) planSeesUptoCard
end Rows
end Go.Proofs.YtephkdocfhajiaaDoor
