/-
  DERIVED. GIVEN WITH THE SEED: THE CARDS: each row of YteghapmlnkhepaaDoorRows.lean that lists a variable, with what it lists TIED to the program's text (the seventh form; the later family's looks); each row that meets fmt, with fmt's text TOLD by the authors' own Lean function (tested against real Go, not proved from fmt's source: count such statements apart). THE CARD IS WHAT COUNTS. Prove the row's statement (the work); the ties are given (YteghapmlnkhepaaDoorTie.lean); close each card by the builder's one call (the guide's Derived/Test/ToyasCard.lean, 'card_holds'). Laid BY PROGRAM, IN A SANDBOX (cutbox-door.mjs). By AI agents, Wed Nov 11 2026. No macro, syntax, notation, axiom, sorry.
-/
import Derived.Test.YteghapmlnkhepaaDoorRows
import GoSem.ClaimSeven
namespace Go.Proofs.YteghapmlnkhepaaDoor
namespace Rows

/-- THE TIED CARD OF 'argosylaw17.TokenDown'. -/
def tokenDownCard : Claim7 := { stood := { row := tokenDownRow, standIns := [], harness := (true, "18f7a9e2f481be841cb86a93650183339007965bbfacd80bf191a3c06fd363f0"), looks := true }, kinds := [], alts := [], laidByText := true, laidKinds := [.data], laidTests := true, laidLooks := .later }
def TokenDownCardSaid : Prop := Claim7.holds Tryd.pinned (.plain (OpenSpec.ofChange tokenDownSpec)) tokenDownCard

/-- THE TIED CARD OF 'argosylaw17.TokenOnce'. -/
def tokenOnceCard : Claim7 := { stood := { row := tokenOnceRow, standIns := [], harness := (true, "18f7a9e2f481be841cb86a93650183339007965bbfacd80bf191a3c06fd363f0"), looks := true }, kinds := [], alts := [], laidByText := true, laidKinds := [.data], laidTests := true, laidLooks := .later }
def TokenOnceCardSaid : Prop := Claim7.holds Tryd.pinned (.plain (OpenSpec.ofChange tokenOnceSpec)) tokenOnceCard

/-- THE TIED CARD OF 'argosylaw17.TokenNil'. -/
def tokenNilCard : Claim7 := { stood := { row := tokenNilRow, standIns := [], harness := (true, "18f7a9e2f481be841cb86a93650183339007965bbfacd80bf191a3c06fd363f0"), looks := true }, kinds := [], alts := [], laidByText := true, laidKinds := [.data], laidTests := true, laidLooks := .later }
def TokenNilCardSaid : Prop := Claim7.holds Tryd.pinned (.plain (OpenSpec.ofChange tokenNilSpec)) tokenNilCard

/-- THE SECOND FORM's CARD OF 'argosylaw17.TokenDown'. -/
def tokenDownUptoCard : Claim7 := { stood := { row := tokenDownUptoRow, standIns := [], harness := (true, "18f7a9e2f481be841cb86a93650183339007965bbfacd80bf191a3c06fd363f0"), looks := true }, kinds := [], alts := [], laidByText := true, laidKinds := [.data], laidTests := true, laidLooks := .later }
def TokenDownUptoCardSaid : Prop := Claim7.holds Tryd.pinned (.plain (OpenSpec.upto tokenDownSpec)) tokenDownUptoCard

/-- THE SECOND FORM's CARD OF 'argosylaw17.TokenOnce'. -/
def tokenOnceUptoCard : Claim7 := { stood := { row := tokenOnceUptoRow, standIns := [], harness := (true, "18f7a9e2f481be841cb86a93650183339007965bbfacd80bf191a3c06fd363f0"), looks := true }, kinds := [], alts := [], laidByText := true, laidKinds := [.data], laidTests := true, laidLooks := .later }
def TokenOnceUptoCardSaid : Prop := Claim7.holds Tryd.pinned (.plain (OpenSpec.upto tokenOnceSpec)) tokenOnceUptoCard

/-- THE SECOND FORM's CARD OF 'argosylaw17.TokenNil'. -/
def tokenNilUptoCard : Claim7 := { stood := { row := tokenNilUptoRow, standIns := [], harness := (true, "18f7a9e2f481be841cb86a93650183339007965bbfacd80bf191a3c06fd363f0"), looks := true }, kinds := [], alts := [], laidByText := true, laidKinds := [.data], laidTests := true, laidLooks := .later }
def TokenNilUptoCardSaid : Prop := Claim7.holds Tryd.pinned (.plain (OpenSpec.upto tokenNilSpec)) tokenNilUptoCard
end Rows
end Go.Proofs.YteghapmlnkhepaaDoor
