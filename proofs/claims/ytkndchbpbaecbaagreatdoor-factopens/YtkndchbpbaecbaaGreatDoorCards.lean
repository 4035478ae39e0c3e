/-
  DERIVED. GIVEN WITH THE SEED: THE CARDS: each row of YtkndchbpbaecbaaGreatDoorRows.lean that lists a variable, with what it lists TIED to the program's text (the seventh form; the later family's looks); each row that meets fmt, with fmt's text TOLD by the authors' own Lean function (tested against real Go, not proved from fmt's source: count such statements apart). THE CARD IS WHAT COUNTS. Prove the row's statement (the work); the ties are given (YtkndchbpbaecbaaGreatDoorTie.lean); close each card by the builder's one call (the guide's Derived/Test/ToyasCard.lean, 'card_holds'). Laid BY PROGRAM, IN A SANDBOX (cutbox-door.mjs). By AI agents, Wed Nov 11 2026. No macro, syntax, notation, axiom, sorry.
-/
import Derived.Test.YtkndchbpbaecbaaGreatDoorRows
import GoSem.ClaimSeven
namespace Go.Proofs.YtkndchbpbaecbaaGreatDoor
namespace Rows

/-- THE TIED CARD OF 'argosylaw13.FactRight'. -/
def factRightCard : Claim7 := { stood := { row := factRightRow, standIns := [], harness := (true, "179cad5f64aa6243324f7cd6776d57b2cc844db8c1561050da586d1b098869db"), looks := true }, kinds := [], alts := [], laidByText := true, laidKinds := [.data], laidTests := true, laidLooks := .later }
def FactRightCardSaid : Prop := Claim7.holds Tryz.pinned (.plain (OpenSpec.ofChange factRightSpec)) factRightCard

/-- THE TIED CARD OF 'argosylaw13.FactBeside'. -/
def factBesideCard : Claim7 := { stood := { row := factBesideRow, standIns := [], harness := (true, "179cad5f64aa6243324f7cd6776d57b2cc844db8c1561050da586d1b098869db"), looks := true }, kinds := [], alts := [], laidByText := true, laidKinds := [.data], laidTests := true, laidLooks := .later }
def FactBesideCardSaid : Prop := Claim7.holds Tryz.pinned (.plain (OpenSpec.ofChange factBesideSpec)) factBesideCard

/-- THE TIED CARD OF 'argosylaw13.FactOpens'. -/
def factOpensCard : Claim7 := { stood := { row := factOpensRow, standIns := [], harness := (true, "179cad5f64aa6243324f7cd6776d57b2cc844db8c1561050da586d1b098869db"), looks := true }, kinds := [], alts := [], laidByText := true, laidKinds := [.data], laidTests := true, laidLooks := .later }
def FactOpensCardSaid : Prop := Claim7.holds Tryz.pinned (.plain (OpenSpec.ofChange factOpensSpec)) factOpensCard

/-- THE SECOND FORM's CARD OF 'argosylaw13.FactRight'. -/
def factRightUptoCard : Claim7 := { stood := { row := factRightUptoRow, standIns := [], harness := (true, "179cad5f64aa6243324f7cd6776d57b2cc844db8c1561050da586d1b098869db"), looks := true }, kinds := [], alts := [], laidByText := true, laidKinds := [.data], laidTests := true, laidLooks := .later }
def FactRightUptoCardSaid : Prop := Claim7.holds Tryz.pinned (.plain (OpenSpec.upto factRightSpec)) factRightUptoCard

/-- THE SECOND FORM's CARD OF 'argosylaw13.FactBeside'. -/
def factBesideUptoCard : Claim7 := { stood := { row := factBesideUptoRow, standIns := [], harness := (true, "179cad5f64aa6243324f7cd6776d57b2cc844db8c1561050da586d1b098869db"), looks := true }, kinds := [], alts := [], laidByText := true, laidKinds := [.data], laidTests := true, laidLooks := .later }
def FactBesideUptoCardSaid : Prop := Claim7.holds Tryz.pinned (.plain (OpenSpec.upto factBesideSpec)) factBesideUptoCard

/-- THE SECOND FORM's CARD OF 'argosylaw13.FactOpens'. -/
def factOpensUptoCard : Claim7 := { stood := { row := factOpensUptoRow, standIns := [], harness := (true, "179cad5f64aa6243324f7cd6776d57b2cc844db8c1561050da586d1b098869db"), looks := true }, kinds := [], alts := [], laidByText := true, laidKinds := [.data], laidTests := true, laidLooks := .later }
def FactOpensUptoCardSaid : Prop := Claim7.holds Tryz.pinned (.plain (OpenSpec.upto factOpensSpec)) factOpensUptoCard
end Rows
end Go.Proofs.YtkndchbpbaecbaaGreatDoor
