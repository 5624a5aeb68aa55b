/-
  DERIVED. GIVEN WITH THE SEED: THE CARDS: each row of YtfhljddakhigdaaGreatDoorRows.lean that lists a variable, with what it lists TIED to the program's text (the seventh form; the later family's looks); each row that meets fmt, with fmt's text TOLD by the authors' own Lean function (tested against real Go, not proved from fmt's source: count such statements apart). THE CARD IS WHAT COUNTS. Prove the row's statement (the work); the ties are given (YtfhljddakhigdaaGreatDoorTie.lean); close each card by the builder's one call (the guide's Derived/Test/ToyasCard.lean, 'card_holds'). Laid BY PROGRAM, IN A SANDBOX (cutbox-door.mjs). By AI agents, Wed Nov 11 2026. No macro, syntax, notation, axiom, sorry.
-/
import Derived.Test.YtfhljddakhigdaaGreatDoorRows
import GoSem.ClaimSeven
namespace Go.Proofs.YtfhljddakhigdaaGreatDoor
namespace Rows

/-- THE TIED CARD OF 'calamuslaw23.OperShifts'. -/
def operShiftsCard : Claim7 := { stood := { row := operShiftsRow, standIns := [], harness := (true, "397c41469d3cf3f2cf08616ddbf5759b9257143a78f841a13da4ae0e1498a5c0"), looks := false }, kinds := [], alts := [], laidByText := true, laidKinds := [.data, .pinned], laidTests := true, laidLooks := .later }
def OperShiftsCardSaid : Prop := Claim7.holds Tryz.pinned (.plain (OpenSpec.ofChange operShiftsSpec)) operShiftsCard

/-- THE SECOND FORM's CARD OF 'calamuslaw23.OperShifts'. -/
def operShiftsUptoCard : Claim7 := { stood := { row := operShiftsUptoRow, standIns := [], harness := (true, "397c41469d3cf3f2cf08616ddbf5759b9257143a78f841a13da4ae0e1498a5c0"), looks := false }, kinds := [], alts := [], laidByText := true, laidKinds := [.data, .pinned], laidTests := true, laidLooks := .later }
def OperShiftsUptoCardSaid : Prop := Claim7.holds Tryz.pinned (.plain (OpenSpec.upto operShiftsSpec)) operShiftsUptoCard
end Rows
end Go.Proofs.YtfhljddakhigdaaGreatDoor
