/-
  DERIVED. GIVEN WITH THE SEED: THE CARDS: each row of YtgjppkkifclanaaDoorRows.lean that lists a variable, with what it lists TIED to the program's text (the seventh form; the later family's looks); each row that meets fmt, with fmt's text TOLD by the authors' own Lean function (tested against real Go, not proved from fmt's source: count such statements apart). THE CARD IS WHAT COUNTS. Prove the row's statement (the work); the ties are given (YtgjppkkifclanaaDoorTie.lean); close each card by the builder's one call (the guide's Derived/Test/ToyasCard.lean, 'card_holds'). Laid BY PROGRAM, IN A SANDBOX (cutbox-door.mjs). By AI agents, Wed Nov 11 2026. No macro, syntax, notation, axiom, sorry.
-/
import Derived.Test.YtgjppkkifclanaaDoorRows
import GoSem.ClaimSeven
namespace Go.Proofs.YtgjppkkifclanaaDoor
namespace Rows

/-- THE TIED CARD OF 'calamuslaw07.IndexSteps'. -/
def indexStepsCard : Claim7 := { stood := { row := indexStepsRow, standIns := [], harness := (true, "c2a3dd9c8a3c46c044889b2a29b6471e4cc0de310f816c441b53ed9269e83101"), looks := false }, kinds := [], alts := [], laidByText := true, laidKinds := [.data, .pinned], laidTests := true, laidLooks := .later }
def IndexStepsCardSaid : Prop := Claim7.holds Tryd.pinned (.plain (OpenSpec.ofChange indexStepsSpec)) indexStepsCard

/-- THE TIED CARD OF 'calamuslaw07.IndexOf'. -/
def indexOfCard : Claim7 := { stood := { row := indexOfRow, standIns := [], harness := (true, "c2a3dd9c8a3c46c044889b2a29b6471e4cc0de310f816c441b53ed9269e83101"), looks := false }, kinds := [], alts := [], laidByText := true, laidKinds := [.data, .pinned], laidTests := true, laidLooks := .later }
def IndexOfCardSaid : Prop := Claim7.holds Tryd.pinned (.plain (OpenSpec.ofChange indexOfSpec)) indexOfCard

/-- THE TIED CARD OF 'calamuslaw07.IndexAnew'. -/
def indexAnewCard : Claim7 := { stood := { row := indexAnewRow, standIns := [], harness := (true, "c2a3dd9c8a3c46c044889b2a29b6471e4cc0de310f816c441b53ed9269e83101"), looks := false }, kinds := [], alts := [], laidByText := true, laidKinds := [.data, .pinned], laidTests := true, laidLooks := .later }
def IndexAnewCardSaid : Prop := Claim7.holds Tryd.pinned (.plain (OpenSpec.ofChange indexAnewSpec)) indexAnewCard

/-- THE TIED CARD OF 'calamuslaw07.IndexNobody'. -/
def indexNobodyCard : Claim7 := { stood := { row := indexNobodyRow, standIns := [], harness := (true, "c2a3dd9c8a3c46c044889b2a29b6471e4cc0de310f816c441b53ed9269e83101"), looks := false }, kinds := [], alts := [], laidByText := true, laidKinds := [.data, .pinned], laidTests := true, laidLooks := .later }
def IndexNobodyCardSaid : Prop := Claim7.holds Tryd.pinned (.plain (OpenSpec.ofChange indexNobodySpec)) indexNobodyCard

/-- THE SECOND FORM's CARD OF 'calamuslaw07.IndexSteps'. -/
def indexStepsUptoCard : Claim7 := { stood := { row := indexStepsUptoRow, standIns := [], harness := (true, "c2a3dd9c8a3c46c044889b2a29b6471e4cc0de310f816c441b53ed9269e83101"), looks := false }, kinds := [], alts := [], laidByText := true, laidKinds := [.data, .pinned], laidTests := true, laidLooks := .later }
def IndexStepsUptoCardSaid : Prop := Claim7.holds Tryd.pinned (.plain (OpenSpec.upto indexStepsSpec)) indexStepsUptoCard

/-- THE SECOND FORM's CARD OF 'calamuslaw07.IndexOf'. -/
def indexOfUptoCard : Claim7 := { stood := { row := indexOfUptoRow, standIns := [], harness := (true, "c2a3dd9c8a3c46c044889b2a29b6471e4cc0de310f816c441b53ed9269e83101"), looks := false }, kinds := [], alts := [], laidByText := true, laidKinds := [.data, .pinned], laidTests := true, laidLooks := .later }
def IndexOfUptoCardSaid : Prop := Claim7.holds Tryd.pinned (.plain (OpenSpec.upto indexOfSpec)) indexOfUptoCard

/-- THE SECOND FORM's CARD OF 'calamuslaw07.IndexAnew'. -/
def indexAnewUptoCard : Claim7 := { stood := { row := indexAnewUptoRow, standIns := [], harness := (true, "c2a3dd9c8a3c46c044889b2a29b6471e4cc0de310f816c441b53ed9269e83101"), looks := false }, kinds := [], alts := [], laidByText := true, laidKinds := [.data, .pinned], laidTests := true, laidLooks := .later }
def IndexAnewUptoCardSaid : Prop := Claim7.holds Tryd.pinned (.plain (OpenSpec.upto indexAnewSpec)) indexAnewUptoCard

/-- THE SECOND FORM's CARD OF 'calamuslaw07.IndexNobody'. -/
def indexNobodyUptoCard : Claim7 := { stood := { row := indexNobodyUptoRow, standIns := [], harness := (true, "c2a3dd9c8a3c46c044889b2a29b6471e4cc0de310f816c441b53ed9269e83101"), looks := false }, kinds := [], alts := [], laidByText := true, laidKinds := [.data, .pinned], laidTests := true, laidLooks := .later }
def IndexNobodyUptoCardSaid : Prop := Claim7.holds Tryd.pinned (.plain (OpenSpec.upto indexNobodySpec)) indexNobodyUptoCard
end Rows
end Go.Proofs.YtgjppkkifclanaaDoor
