/-
  DERIVED. GIVEN WITH THE SEED: THE CARDS: each row of YtdclopfhffjkfaaDoorRows.lean that lists a variable, with what it lists TIED to the program's text (the seventh form; the later family's looks); each row that meets fmt, with fmt's text TOLD by the authors' own Lean function (tested against real Go, not proved from fmt's source: count such statements apart). THE CARD IS WHAT COUNTS. Prove the row's statement (the work); the ties are given (YtdclopfhffjkfaaDoorTie.lean); close each card by the builder's one call (the guide's Derived/Test/ToyasCard.lean, 'card_holds'). Laid BY PROGRAM, IN A SANDBOX (cutbox-door.mjs). By AI agents, Wed Nov 11 2026. No macro, syntax, notation, axiom, sorry.
-/
import Derived.Test.YtdclopfhffjkfaaDoorRows
import GoSem.ClaimSeven
namespace Go.Proofs.YtdclopfhffjkfaaDoor
namespace Rows

/-- THE TIED CARD OF 'calamuslaw25.EntryTypes'. -/
def entryTypesCard : Claim7 := { stood := { row := entryTypesRow, standIns := [], harness := (true, "0b78b466f80a89071a1e15a6b4384890d3bbc7322dbfad45938d41be5a39fd08"), looks := false }, kinds := [], alts := [], laidByText := true, laidKinds := [.data, .pinned], laidTests := true, laidLooks := .later }
def EntryTypesCardSaid : Prop := Claim7.holds Tryd.pinned (.plain (OpenSpec.ofChange entryTypesSpec)) entryTypesCard

/-- THE TIED CARD OF 'calamuslaw25.EntryCuts'. -/
def entryCutsCard : Claim7 := { stood := { row := entryCutsRow, standIns := [], harness := (true, "0b78b466f80a89071a1e15a6b4384890d3bbc7322dbfad45938d41be5a39fd08"), looks := false }, kinds := [], alts := [], laidByText := true, laidKinds := [.data, .pinned], laidTests := true, laidLooks := .later }
def EntryCutsCardSaid : Prop := Claim7.holds Tryd.pinned (.plain (OpenSpec.ofChange entryCutsSpec)) entryCutsCard

/-- THE TIED CARD OF 'calamuslaw25.EntryUndone'. -/
def entryUndoneCard : Claim7 := { stood := { row := entryUndoneRow, standIns := [], harness := (true, "0b78b466f80a89071a1e15a6b4384890d3bbc7322dbfad45938d41be5a39fd08"), looks := false }, kinds := [], alts := [], laidByText := true, laidKinds := [.data, .pinned], laidTests := true, laidLooks := .later }
def EntryUndoneCardSaid : Prop := Claim7.holds Tryd.pinned (.plain (OpenSpec.ofChange entryUndoneSpec)) entryUndoneCard

/-- THE TIED CARD OF 'calamuslaw25.EntryKeeps'. -/
def entryKeepsCard : Claim7 := { stood := { row := entryKeepsRow, standIns := [], harness := (true, "0b78b466f80a89071a1e15a6b4384890d3bbc7322dbfad45938d41be5a39fd08"), looks := false }, kinds := [], alts := [], laidByText := true, laidKinds := [.data, .pinned], laidTests := true, laidLooks := .later }
def EntryKeepsCardSaid : Prop := Claim7.holds Tryd.pinned (.plain (OpenSpec.ofChange entryKeepsSpec)) entryKeepsCard

/-- THE SECOND FORM's CARD OF 'calamuslaw25.EntryTypes'. -/
def entryTypesUptoCard : Claim7 := { stood := { row := entryTypesUptoRow, standIns := [], harness := (true, "0b78b466f80a89071a1e15a6b4384890d3bbc7322dbfad45938d41be5a39fd08"), looks := false }, kinds := [], alts := [], laidByText := true, laidKinds := [.data, .pinned], laidTests := true, laidLooks := .later }
def EntryTypesUptoCardSaid : Prop := Claim7.holds Tryd.pinned (.plain (OpenSpec.upto entryTypesSpec)) entryTypesUptoCard

/-- THE SECOND FORM's CARD OF 'calamuslaw25.EntryCuts'. -/
def entryCutsUptoCard : Claim7 := { stood := { row := entryCutsUptoRow, standIns := [], harness := (true, "0b78b466f80a89071a1e15a6b4384890d3bbc7322dbfad45938d41be5a39fd08"), looks := false }, kinds := [], alts := [], laidByText := true, laidKinds := [.data, .pinned], laidTests := true, laidLooks := .later }
def EntryCutsUptoCardSaid : Prop := Claim7.holds Tryd.pinned (.plain (OpenSpec.upto entryCutsSpec)) entryCutsUptoCard

/-- THE SECOND FORM's CARD OF 'calamuslaw25.EntryUndone'. -/
def entryUndoneUptoCard : Claim7 := { stood := { row := entryUndoneUptoRow, standIns := [], harness := (true, "0b78b466f80a89071a1e15a6b4384890d3bbc7322dbfad45938d41be5a39fd08"), looks := false }, kinds := [], alts := [], laidByText := true, laidKinds := [.data, .pinned], laidTests := true, laidLooks := .later }
def EntryUndoneUptoCardSaid : Prop := Claim7.holds Tryd.pinned (.plain (OpenSpec.upto entryUndoneSpec)) entryUndoneUptoCard

/-- THE SECOND FORM's CARD OF 'calamuslaw25.EntryKeeps'. -/
def entryKeepsUptoCard : Claim7 := { stood := { row := entryKeepsUptoRow, standIns := [], harness := (true, "0b78b466f80a89071a1e15a6b4384890d3bbc7322dbfad45938d41be5a39fd08"), looks := false }, kinds := [], alts := [], laidByText := true, laidKinds := [.data, .pinned], laidTests := true, laidLooks := .later }
def EntryKeepsUptoCardSaid : Prop := Claim7.holds Tryd.pinned (.plain (OpenSpec.upto entryKeepsSpec)) entryKeepsUptoCard
end Rows
end Go.Proofs.YtdclopfhffjkfaaDoor
