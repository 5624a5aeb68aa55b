/-
  DERIVED. GIVEN WITH THE SEED: THE CARDS: each row of YtlfhfpjffdaomaaDoorRows.lean that lists a variable, with what it lists TIED to the program's text (the seventh form; the later family's looks); each row that meets fmt, with fmt's text TOLD by the authors' own Lean function (tested against real Go, not proved from fmt's source: count such statements apart). THE CARD IS WHAT COUNTS. Prove the row's statement (the work); the ties are given (YtlfhfpjffdaomaaDoorTie.lean); close each card by the builder's one call (the guide's Derived/Test/ToyasCard.lean, 'card_holds'). Laid BY PROGRAM, IN A SANDBOX (cutbox-door.mjs). By AI agents, Wed Nov 11 2026. No macro, syntax, notation, axiom, sorry.
-/
import Derived.Test.YtlfhfpjffdaomaaDoorRows
import GoSem.ClaimSeven
namespace Go.Proofs.YtlfhfpjffdaomaaDoor
namespace Rows

/-- THE TIED CARD OF 'calamuslaw28.SubSwaps'. -/
def subSwapsCard : Claim7 := { stood := { row := subSwapsRow, standIns := [], harness := (true, "c27334f39326cc8a43fd250c160c4eaaa86ef9c314cd529eb3d53c73d113e5bb"), looks := false }, kinds := [], alts := [], laidByText := true, laidKinds := [.data, .pinned], laidTests := true, laidLooks := .later }
def SubSwapsCardSaid : Prop := Claim7.holds Tryd.pinned (.plain (OpenSpec.ofChange subSwapsSpec)) subSwapsCard

/-- THE TIED CARD OF 'calamuslaw28.SubCounts'. -/
def subCountsCard : Claim7 := { stood := { row := subCountsRow, standIns := [], harness := (true, "c27334f39326cc8a43fd250c160c4eaaa86ef9c314cd529eb3d53c73d113e5bb"), looks := false }, kinds := [], alts := [], laidByText := true, laidKinds := [.data, .pinned], laidTests := true, laidLooks := .later }
def SubCountsCardSaid : Prop := Claim7.holds Tryd.pinned (.plain (OpenSpec.ofChange subCountsSpec)) subCountsCard

/-- THE TIED CARD OF 'calamuslaw28.SubLines'. -/
def subLinesCard : Claim7 := { stood := { row := subLinesRow, standIns := [], harness := (true, "c27334f39326cc8a43fd250c160c4eaaa86ef9c314cd529eb3d53c73d113e5bb"), looks := false }, kinds := [], alts := [], laidByText := true, laidKinds := [.data, .pinned], laidTests := true, laidLooks := .later }
def SubLinesCardSaid : Prop := Claim7.holds Tryd.pinned (.plain (OpenSpec.ofChange subLinesSpec)) subLinesCard

/-- THE TIED CARD OF 'calamuslaw28.SubBack'. -/
def subBackCard : Claim7 := { stood := { row := subBackRow, standIns := [], harness := (true, "c27334f39326cc8a43fd250c160c4eaaa86ef9c314cd529eb3d53c73d113e5bb"), looks := false }, kinds := [], alts := [], laidByText := true, laidKinds := [.data, .pinned], laidTests := true, laidLooks := .later }
def SubBackCardSaid : Prop := Claim7.holds Tryd.pinned (.plain (OpenSpec.ofChange subBackSpec)) subBackCard

/-- THE SECOND FORM's CARD OF 'calamuslaw28.SubSwaps'. -/
def subSwapsUptoCard : Claim7 := { stood := { row := subSwapsUptoRow, standIns := [], harness := (true, "c27334f39326cc8a43fd250c160c4eaaa86ef9c314cd529eb3d53c73d113e5bb"), looks := false }, kinds := [], alts := [], laidByText := true, laidKinds := [.data, .pinned], laidTests := true, laidLooks := .later }
def SubSwapsUptoCardSaid : Prop := Claim7.holds Tryd.pinned (.plain (OpenSpec.upto subSwapsSpec)) subSwapsUptoCard

/-- THE SECOND FORM's CARD OF 'calamuslaw28.SubCounts'. -/
def subCountsUptoCard : Claim7 := { stood := { row := subCountsUptoRow, standIns := [], harness := (true, "c27334f39326cc8a43fd250c160c4eaaa86ef9c314cd529eb3d53c73d113e5bb"), looks := false }, kinds := [], alts := [], laidByText := true, laidKinds := [.data, .pinned], laidTests := true, laidLooks := .later }
def SubCountsUptoCardSaid : Prop := Claim7.holds Tryd.pinned (.plain (OpenSpec.upto subCountsSpec)) subCountsUptoCard

/-- THE SECOND FORM's CARD OF 'calamuslaw28.SubLines'. -/
def subLinesUptoCard : Claim7 := { stood := { row := subLinesUptoRow, standIns := [], harness := (true, "c27334f39326cc8a43fd250c160c4eaaa86ef9c314cd529eb3d53c73d113e5bb"), looks := false }, kinds := [], alts := [], laidByText := true, laidKinds := [.data, .pinned], laidTests := true, laidLooks := .later }
def SubLinesUptoCardSaid : Prop := Claim7.holds Tryd.pinned (.plain (OpenSpec.upto subLinesSpec)) subLinesUptoCard

/-- THE SECOND FORM's CARD OF 'calamuslaw28.SubBack'. -/
def subBackUptoCard : Claim7 := { stood := { row := subBackUptoRow, standIns := [], harness := (true, "c27334f39326cc8a43fd250c160c4eaaa86ef9c314cd529eb3d53c73d113e5bb"), looks := false }, kinds := [], alts := [], laidByText := true, laidKinds := [.data, .pinned], laidTests := true, laidLooks := .later }
def SubBackUptoCardSaid : Prop := Claim7.holds Tryd.pinned (.plain (OpenSpec.upto subBackSpec)) subBackUptoCard
end Rows
end Go.Proofs.YtlfhfpjffdaomaaDoor
