/-
  DERIVED. GIVEN WITH THE SEED: THE CARDS: each row of YtieoppabellafaaGreatDoorRows.lean that lists a variable, with what it lists TIED to the program's text (the seventh form; the later family's looks); each row that meets fmt, with fmt's text TOLD by the authors' own Lean function (tested against real Go, not proved from fmt's source: count such statements apart). THE CARD IS WHAT COUNTS. Prove the row's statement (the work); the ties are given (YtieoppabellafaaGreatDoorTie.lean); close each card by the builder's one call (the guide's Derived/Test/ToyasCard.lean, 'card_holds'). Laid BY PROGRAM, IN A SANDBOX (cutbox-door.mjs). By AI agents, Wed Nov 11 2026. No macro, syntax, notation, axiom, sorry.
-/
import Derived.Test.YtieoppabellafaaGreatDoorRows
import GoSem.ClaimSeven
namespace Go.Proofs.YtieoppabellafaaGreatDoor
namespace Rows

/-- THE TIED CARD OF 'argosylaw15.TaskGoes'. -/
def taskGoesCard : Claim7 := { stood := { row := taskGoesRow, standIns := [], harness := (true, "615d143e1bfad6358dcc3e2eb7f0285aa6ed3f0ed4b1b6b808de31f6c32429ed"), looks := true }, kinds := [], alts := [], laidByText := true, laidKinds := [.data], laidTests := true, laidLooks := .later }
def TaskGoesCardSaid : Prop := Claim7.holds Tryz.pinned (.plain (OpenSpec.ofChange taskGoesSpec)) taskGoesCard

/-- THE TIED CARD OF 'argosylaw15.TaskOrder'. -/
def taskOrderCard : Claim7 := { stood := { row := taskOrderRow, standIns := [], harness := (true, "615d143e1bfad6358dcc3e2eb7f0285aa6ed3f0ed4b1b6b808de31f6c32429ed"), looks := true }, kinds := [], alts := [], laidByText := true, laidKinds := [.data], laidTests := true, laidLooks := .later }
def TaskOrderCardSaid : Prop := Claim7.holds Tryz.pinned (.plain (OpenSpec.ofChange taskOrderSpec)) taskOrderCard

/-- THE TIED CARD OF 'argosylaw15.TaskApart'. -/
def taskApartCard : Claim7 := { stood := { row := taskApartRow, standIns := [], harness := (true, "615d143e1bfad6358dcc3e2eb7f0285aa6ed3f0ed4b1b6b808de31f6c32429ed"), looks := true }, kinds := [], alts := [], laidByText := true, laidKinds := [.data], laidTests := true, laidLooks := .later }
def TaskApartCardSaid : Prop := Claim7.holds Tryz.pinned (.plain (OpenSpec.ofChange taskApartSpec)) taskApartCard

/-- THE SECOND FORM's CARD OF 'argosylaw15.TaskGoes'. -/
def taskGoesUptoCard : Claim7 := { stood := { row := taskGoesUptoRow, standIns := [], harness := (true, "615d143e1bfad6358dcc3e2eb7f0285aa6ed3f0ed4b1b6b808de31f6c32429ed"), looks := true }, kinds := [], alts := [], laidByText := true, laidKinds := [.data], laidTests := true, laidLooks := .later }
def TaskGoesUptoCardSaid : Prop := Claim7.holds Tryz.pinned (.plain (OpenSpec.upto taskGoesSpec)) taskGoesUptoCard

/-- THE SECOND FORM's CARD OF 'argosylaw15.TaskOrder'. -/
def taskOrderUptoCard : Claim7 := { stood := { row := taskOrderUptoRow, standIns := [], harness := (true, "615d143e1bfad6358dcc3e2eb7f0285aa6ed3f0ed4b1b6b808de31f6c32429ed"), looks := true }, kinds := [], alts := [], laidByText := true, laidKinds := [.data], laidTests := true, laidLooks := .later }
def TaskOrderUptoCardSaid : Prop := Claim7.holds Tryz.pinned (.plain (OpenSpec.upto taskOrderSpec)) taskOrderUptoCard

/-- THE SECOND FORM's CARD OF 'argosylaw15.TaskApart'. -/
def taskApartUptoCard : Claim7 := { stood := { row := taskApartUptoRow, standIns := [], harness := (true, "615d143e1bfad6358dcc3e2eb7f0285aa6ed3f0ed4b1b6b808de31f6c32429ed"), looks := true }, kinds := [], alts := [], laidByText := true, laidKinds := [.data], laidTests := true, laidLooks := .later }
def TaskApartUptoCardSaid : Prop := Claim7.holds Tryz.pinned (.plain (OpenSpec.upto taskApartSpec)) taskApartUptoCard
end Rows
end Go.Proofs.YtieoppabellafaaGreatDoor
