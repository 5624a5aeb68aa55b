/-
  DERIVED. GIVEN WITH THE SEED: THE CARDS: each row of YtfhljddakhigdaaDoorRows.lean that lists a variable, with what it lists TIED to the program's text (the seventh form; the later family's looks); each row that meets fmt, with fmt's text TOLD by the authors' own Lean function (tested against real Go, not proved from fmt's source: count such statements apart). THE CARD IS WHAT COUNTS. Prove the row's statement (the work); the ties are given (YtfhljddakhigdaaDoorTie.lean); close each card by the builder's one call (the guide's Derived/Test/ToyasCard.lean, 'card_holds'). Laid BY PROGRAM, IN A SANDBOX (cutbox-door.mjs). By AI agents, Wed Nov 11 2026. No macro, syntax, notation, axiom, sorry.
-/
import Derived.Test.YtfhljddakhigdaaDoorRows
import GoSem.ClaimSeven
namespace Go.Proofs.YtfhljddakhigdaaDoor
namespace Rows

/-- THE TIED CARD OF 'calamuslaw23.OperTakes'. -/
def operTakesCard : Claim7 := { stood := { row := operTakesRow, standIns := [], harness := (true, "f8791012b7f5e092b05f7f6ffee8257246bbd44f9888a209cbb5a22977a0e00d"), looks := false }, kinds := [], alts := [], laidByText := true, laidKinds := [.data, .pinned], laidTests := true, laidLooks := .later }
def OperTakesCardSaid : Prop := Claim7.holds Tryd.pinned (.plain (OpenSpec.ofChange operTakesSpec)) operTakesCard

/-- THE TIED CARD OF 'calamuslaw23.OperJoins'. -/
def operJoinsCard : Claim7 := { stood := { row := operJoinsRow, standIns := [], harness := (true, "f8791012b7f5e092b05f7f6ffee8257246bbd44f9888a209cbb5a22977a0e00d"), looks := false }, kinds := [], alts := [], laidByText := true, laidKinds := [.data, .pinned], laidTests := true, laidLooks := .later }
def OperJoinsCardSaid : Prop := Claim7.holds Tryd.pinned (.plain (OpenSpec.ofChange operJoinsSpec)) operJoinsCard

/-- THE TIED CARD OF 'calamuslaw23.OperPlaces'. -/
def operPlacesCard : Claim7 := { stood := { row := operPlacesRow, standIns := [], harness := (true, "f8791012b7f5e092b05f7f6ffee8257246bbd44f9888a209cbb5a22977a0e00d"), looks := false }, kinds := [], alts := [], laidByText := true, laidKinds := [.data, .pinned], laidTests := true, laidLooks := .later }
def OperPlacesCardSaid : Prop := Claim7.holds Tryd.pinned (.plain (OpenSpec.ofChange operPlacesSpec)) operPlacesCard

/-- THE TIED CARD OF 'calamuslaw23.OperBack'. -/
def operBackCard : Claim7 := { stood := { row := operBackRow, standIns := [], harness := (true, "f8791012b7f5e092b05f7f6ffee8257246bbd44f9888a209cbb5a22977a0e00d"), looks := false }, kinds := [], alts := [], laidByText := true, laidKinds := [.data, .pinned], laidTests := true, laidLooks := .later }
def OperBackCardSaid : Prop := Claim7.holds Tryd.pinned (.plain (OpenSpec.ofChange operBackSpec)) operBackCard

/-- THE SECOND FORM's CARD OF 'calamuslaw23.OperTakes'. -/
def operTakesUptoCard : Claim7 := { stood := { row := operTakesUptoRow, standIns := [], harness := (true, "f8791012b7f5e092b05f7f6ffee8257246bbd44f9888a209cbb5a22977a0e00d"), looks := false }, kinds := [], alts := [], laidByText := true, laidKinds := [.data, .pinned], laidTests := true, laidLooks := .later }
def OperTakesUptoCardSaid : Prop := Claim7.holds Tryd.pinned (.plain (OpenSpec.upto operTakesSpec)) operTakesUptoCard

/-- THE SECOND FORM's CARD OF 'calamuslaw23.OperJoins'. -/
def operJoinsUptoCard : Claim7 := { stood := { row := operJoinsUptoRow, standIns := [], harness := (true, "f8791012b7f5e092b05f7f6ffee8257246bbd44f9888a209cbb5a22977a0e00d"), looks := false }, kinds := [], alts := [], laidByText := true, laidKinds := [.data, .pinned], laidTests := true, laidLooks := .later }
def OperJoinsUptoCardSaid : Prop := Claim7.holds Tryd.pinned (.plain (OpenSpec.upto operJoinsSpec)) operJoinsUptoCard

/-- THE SECOND FORM's CARD OF 'calamuslaw23.OperPlaces'. -/
def operPlacesUptoCard : Claim7 := { stood := { row := operPlacesUptoRow, standIns := [], harness := (true, "f8791012b7f5e092b05f7f6ffee8257246bbd44f9888a209cbb5a22977a0e00d"), looks := false }, kinds := [], alts := [], laidByText := true, laidKinds := [.data, .pinned], laidTests := true, laidLooks := .later }
def OperPlacesUptoCardSaid : Prop := Claim7.holds Tryd.pinned (.plain (OpenSpec.upto operPlacesSpec)) operPlacesUptoCard

/-- THE SECOND FORM's CARD OF 'calamuslaw23.OperBack'. -/
def operBackUptoCard : Claim7 := { stood := { row := operBackUptoRow, standIns := [], harness := (true, "f8791012b7f5e092b05f7f6ffee8257246bbd44f9888a209cbb5a22977a0e00d"), looks := false }, kinds := [], alts := [], laidByText := true, laidKinds := [.data, .pinned], laidTests := true, laidLooks := .later }
def OperBackUptoCardSaid : Prop := Claim7.holds Tryd.pinned (.plain (OpenSpec.upto operBackSpec)) operBackUptoCard
end Rows
end Go.Proofs.YtfhljddakhigdaaDoor
