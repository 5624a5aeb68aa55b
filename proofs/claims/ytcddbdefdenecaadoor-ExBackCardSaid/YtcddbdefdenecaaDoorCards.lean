/-
  DERIVED. GIVEN WITH THE SEED: THE CARDS: each row of YtcddbdefdenecaaDoorRows.lean that lists a variable, with what it lists TIED to the program's text (the seventh form; the later family's looks); each row that meets fmt, with fmt's text TOLD by the authors' own Lean function (tested against real Go, not proved from fmt's source: count such statements apart). THE CARD IS WHAT COUNTS. Prove the row's statement (the work); the ties are given (YtcddbdefdenecaaDoorTie.lean); close each card by the builder's one call (the guide's Derived/Test/ToyasCard.lean, 'card_holds'). Laid BY PROGRAM, IN A SANDBOX (cutbox-door.mjs). By AI agents, Wed Nov 11 2026. No macro, syntax, notation, axiom, sorry.
-/
import Derived.Test.YtcddbdefdenecaaDoorRows
import GoSem.ClaimSeven
namespace Go.Proofs.YtcddbdefdenecaaDoor
namespace Rows

/-- THE TIED CARD OF 'calamuslaw27.ExBack'. -/
def exBackCard : Claim7 := { stood := { row := exBackRow, standIns := [], harness := (true, "f0914444fe4e1c5ad852a7f31e2607b6615215e32df5d325b676994e82a1a7af"), looks := true }, kinds := [], alts := [], laidByText := true, laidKinds := [.data, .data, .data, .data, .sentinel, .sentinel, .pinned], laidTests := true, laidLooks := .later }
def ExBackCardSaid : Prop := Claim7.holds Tryd.pinned (.plain (OpenSpec.ofChange exBackSpec)) exBackCard

/-- THE SECOND FORM's CARD OF 'calamuslaw27.ExBack'. -/
def exBackUptoCard : Claim7 := { stood := { row := exBackUptoRow, standIns := [], harness := (true, "f0914444fe4e1c5ad852a7f31e2607b6615215e32df5d325b676994e82a1a7af"), looks := true }, kinds := [], alts := [], laidByText := true, laidKinds := [.data, .data, .data, .data, .sentinel, .sentinel, .pinned], laidTests := true, laidLooks := .later }
def ExBackUptoCardSaid : Prop := Claim7.holds Tryd.pinned (.plain (OpenSpec.upto exBackSpec)) exBackUptoCard
end Rows
end Go.Proofs.YtcddbdefdenecaaDoor
