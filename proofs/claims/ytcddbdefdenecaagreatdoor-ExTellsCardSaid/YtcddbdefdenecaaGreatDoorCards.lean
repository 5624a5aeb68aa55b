/-
  DERIVED. GIVEN WITH THE SEED: THE CARDS: each row of YtcddbdefdenecaaGreatDoorRows.lean that lists a variable, with what it lists TIED to the program's text (the seventh form; the later family's looks); each row that meets fmt, with fmt's text TOLD by the authors' own Lean function (tested against real Go, not proved from fmt's source: count such statements apart). THE CARD IS WHAT COUNTS. Prove the row's statement (the work); the ties are given (YtcddbdefdenecaaGreatDoorTie.lean); close each card by the builder's one call (the guide's Derived/Test/ToyasCard.lean, 'card_holds'). Laid BY PROGRAM, IN A SANDBOX (cutbox-door.mjs). By AI agents, Wed Nov 11 2026. No macro, syntax, notation, axiom, sorry.
-/
import Derived.Test.YtcddbdefdenecaaGreatDoorRows
import GoSem.ClaimSeven
namespace Go.Proofs.YtcddbdefdenecaaGreatDoor
namespace Rows

/-- THE TIED CARD OF 'calamuslaw27.ExParses'. -/
def exParsesCard : Claim7 := { stood := { row := exParsesRow, standIns := [], harness := (true, "b5417b82f668cc63f39a7df26f43957d663cf846d3d2825e0bba26d83711088d"), looks := true }, kinds := [], alts := [], laidByText := true, laidKinds := [.data, .data, .data, .data, .sentinel, .sentinel, .pinned], laidTests := true, laidLooks := .later }
def ExParsesCardSaid : Prop := Claim7.holds Tryz.pinned (.plain (OpenSpec.ofChange exParsesSpec)) exParsesCard

/-- THE TIED CARD OF 'calamuslaw27.ExTells'. -/
def exTellsCard : Claim7 := { stood := { row := exTellsRow, standIns := [], harness := (true, "b5417b82f668cc63f39a7df26f43957d663cf846d3d2825e0bba26d83711088d"), looks := true }, kinds := [], alts := [], laidByText := true, laidKinds := [.data, .data, .data, .data, .sentinel, .sentinel, .pinned], laidTests := true, laidLooks := .later }
def ExTellsCardSaid : Prop := Claim7.holds Tryz.pinned (.plain (OpenSpec.ofChange exTellsSpec)) exTellsCard

/-- THE SECOND FORM's CARD OF 'calamuslaw27.ExParses'. -/
def exParsesUptoCard : Claim7 := { stood := { row := exParsesUptoRow, standIns := [], harness := (true, "b5417b82f668cc63f39a7df26f43957d663cf846d3d2825e0bba26d83711088d"), looks := true }, kinds := [], alts := [], laidByText := true, laidKinds := [.data, .data, .data, .data, .sentinel, .sentinel, .pinned], laidTests := true, laidLooks := .later }
def ExParsesUptoCardSaid : Prop := Claim7.holds Tryz.pinned (.plain (OpenSpec.upto exParsesSpec)) exParsesUptoCard

/-- THE SECOND FORM's CARD OF 'calamuslaw27.ExTells'. -/
def exTellsUptoCard : Claim7 := { stood := { row := exTellsUptoRow, standIns := [], harness := (true, "b5417b82f668cc63f39a7df26f43957d663cf846d3d2825e0bba26d83711088d"), looks := true }, kinds := [], alts := [], laidByText := true, laidKinds := [.data, .data, .data, .data, .sentinel, .sentinel, .pinned], laidTests := true, laidLooks := .later }
def ExTellsUptoCardSaid : Prop := Claim7.holds Tryz.pinned (.plain (OpenSpec.upto exTellsSpec)) exTellsUptoCard
end Rows
end Go.Proofs.YtcddbdefdenecaaGreatDoor
