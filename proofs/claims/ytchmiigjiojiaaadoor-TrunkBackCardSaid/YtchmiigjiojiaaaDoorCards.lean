/-
  DERIVED. GIVEN WITH THE SEED: THE CARDS: each row of YtchmiigjiojiaaaDoorRows.lean that lists a variable, with what it lists TIED to the program's text (the seventh form; the later family's looks); each row that meets fmt, with fmt's text TOLD by the authors' own Lean function (tested against real Go, not proved from fmt's source: count such statements apart). THE CARD IS WHAT COUNTS. Prove the row's statement (the work); the ties are given (YtchmiigjiojiaaaDoorTie.lean); close each card by the builder's one call (the guide's Derived/Test/ToyasCard.lean, 'card_holds'). Laid BY PROGRAM, IN A SANDBOX (cutbox-door.mjs). By AI agents, Wed Nov 11 2026. No macro, syntax, notation, axiom, sorry.
-/
import Derived.Test.YtchmiigjiojiaaaDoorRows
import GoSem.ClaimSeven
namespace Go.Proofs.YtchmiigjiojiaaaDoor
namespace Rows

/-- THE TIED CARD OF 'calamuslaw12.TrunkWrites'. -/
def trunkWritesCard : Claim7 := { stood := { row := trunkWritesRow, standIns := [], harness := (true, "bcb50dfa73b4f0356235c76332ea6864806376dbbcf1853ad7e81ae5f065beb3"), looks := false }, kinds := [], alts := [], laidByText := true, laidKinds := [.data, .data, .data], laidTests := true, laidLooks := .later }
def TrunkWritesCardSaid : Prop := Claim7.holds Tryd.pinned (.plain (OpenSpec.ofChange trunkWritesSpec)) trunkWritesCard

/-- THE TIED CARD OF 'calamuslaw12.TrunkBack'. -/
def trunkBackCard : Claim7 := { stood := { row := trunkBackRow, standIns := [], harness := (true, "bcb50dfa73b4f0356235c76332ea6864806376dbbcf1853ad7e81ae5f065beb3"), looks := false }, kinds := [], alts := [], laidByText := true, laidKinds := [.data, .data, .data], laidTests := true, laidLooks := .later }
def TrunkBackCardSaid : Prop := Claim7.holds Tryd.pinned (.plain (OpenSpec.ofChange trunkBackSpec)) trunkBackCard

/-- THE SECOND FORM's CARD OF 'calamuslaw12.TrunkWrites'. -/
def trunkWritesUptoCard : Claim7 := { stood := { row := trunkWritesUptoRow, standIns := [], harness := (true, "bcb50dfa73b4f0356235c76332ea6864806376dbbcf1853ad7e81ae5f065beb3"), looks := false }, kinds := [], alts := [], laidByText := true, laidKinds := [.data, .data, .data], laidTests := true, laidLooks := .later }
def TrunkWritesUptoCardSaid : Prop := Claim7.holds Tryd.pinned (.plain (OpenSpec.upto trunkWritesSpec)) trunkWritesUptoCard

/-- THE SECOND FORM's CARD OF 'calamuslaw12.TrunkBack'. -/
def trunkBackUptoCard : Claim7 := { stood := { row := trunkBackUptoRow, standIns := [], harness := (true, "bcb50dfa73b4f0356235c76332ea6864806376dbbcf1853ad7e81ae5f065beb3"), looks := false }, kinds := [], alts := [], laidByText := true, laidKinds := [.data, .data, .data], laidTests := true, laidLooks := .later }
def TrunkBackUptoCardSaid : Prop := Claim7.holds Tryd.pinned (.plain (OpenSpec.upto trunkBackSpec)) trunkBackUptoCard
end Rows
end Go.Proofs.YtchmiigjiojiaaaDoor
