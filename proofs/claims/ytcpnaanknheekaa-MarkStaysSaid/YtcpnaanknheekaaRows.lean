/-
  No cell of these rows narrows 'for every input' (looked for: loops, veiled, ifaces, maps, wideKeys, modest, calm, conditions, laid).
  DERIVED. THE GIVEN ROWS OF THIS SEAT. 4 by the template 'for every input the law returns true; each argument reads behind the call as it read before'; 0 by the template 'total and deterministic' (their statements: YtcpnaanknheekaaTotals.lean).
  GIVEN WITH THE SEED: the statements are not yours to turn. If you find one false, say at which input.
  Laid BY PROGRAM, IN A SANDBOX (cutbox-rows.mjs): the forced cells as the released guide's own fill.sh prints them over the translation 5f80b9457b374018… (all of the seat's roots in one cut). By AI agents, Wed Nov 11 2026. No macro, syntax, notation, axiom, sorry.
-/
import Derived.Test.YtcpnaanknheekaaChecked
import GoSem.Claim
import GoSem.ClaimJoined
import GoSem.ClaimMapViews
import Derived.JoinedTies
import Derived.KernelRfl
namespace Go.Proofs.Ytcpnaanknheekaa
/- THE CELL 'sum', in the pinned program and in every row, IS THE sha256 OF THE DUMP (.gsa) THAT YtcpnaanknheekaaProg.lean LOADS. Nothing in Lean hashes anything: it is a label: what it is worth is what the hold of that sum in a sandbox is worth. -/
noncomputable def Try.pinned : Pinned := { name := "ytcpnaanknheekaa", sum := "5f80b9457b3740187c9e300be00ddebd8a244d9f997c5c86de3e6b0dcba26fbb", checked := Try.checked }
namespace Rows
def none {H : Type} : Left H := { results := [], args := [] }

/-- 'calamuslaw10.MarkSets': WHATEVER THE INPUT: true; the input reads as it did. -/
def markSetsSpec : ChangeSpec := { name := "markSets", fn := fun _ => fun
  | [d1, d2, d3] => { results := [.lit (.bool true)], args := [d1, d2, d3] }
  | _ => none }
def markSetsRow : OpenClaim := { program := "ytcpnaanknheekaa", sum := "5f80b9457b3740187c9e300be00ddebd8a244d9f997c5c86de3e6b0dcba26fbb", func := "calamus/calamuslaw10.MarkSets", spec := "markSets", unfollowed := true, recurses := true, apart := false }
def MarkSetsSaid : Prop := markSetsRow.holds Try.pinned (OpenSpec.ofChange markSetsSpec)

/-- ITS FALSE NEIGHBOUR: 'it returns false'. Refute it at one input. -/
def markSetsWrong : ChangeSpec := { name := "markSets", fn := fun _ => fun
  | [d1, d2, d3] => { results := [.lit (.bool false)], args := [d1, d2, d3] }
  | _ => none }
def MarkSetsWrongFalsely : Prop := markSetsRow.holds Try.pinned (OpenSpec.ofChange markSetsWrong)

/-- 'calamuslaw10.MarkMoves': WHATEVER THE INPUT: true; the input reads as it did. -/
def markMovesSpec : ChangeSpec := { name := "markMoves", fn := fun _ => fun
  | [d1, d2] => { results := [.lit (.bool true)], args := [d1, d2] }
  | _ => none }
def markMovesRow : OpenClaim := { program := "ytcpnaanknheekaa", sum := "5f80b9457b3740187c9e300be00ddebd8a244d9f997c5c86de3e6b0dcba26fbb", func := "calamus/calamuslaw10.MarkMoves", spec := "markMoves", unfollowed := true, recurses := true, apart := false }
def MarkMovesSaid : Prop := markMovesRow.holds Try.pinned (OpenSpec.ofChange markMovesSpec)

/-- ITS FALSE NEIGHBOUR: 'it returns false'. Refute it at one input. -/
def markMovesWrong : ChangeSpec := { name := "markMoves", fn := fun _ => fun
  | [d1, d2] => { results := [.lit (.bool false)], args := [d1, d2] }
  | _ => none }
def MarkMovesWrongFalsely : Prop := markMovesRow.holds Try.pinned (OpenSpec.ofChange markMovesWrong)

/-- 'calamuslaw10.MarkLeads': WHATEVER THE INPUT: true; the input reads as it did. -/
def markLeadsSpec : ChangeSpec := { name := "markLeads", fn := fun _ => fun
  | [d1, d2, d3, d4] => { results := [.lit (.bool true)], args := [d1, d2, d3, d4] }
  | _ => none }
def markLeadsRow : OpenClaim := { program := "ytcpnaanknheekaa", sum := "5f80b9457b3740187c9e300be00ddebd8a244d9f997c5c86de3e6b0dcba26fbb", func := "calamus/calamuslaw10.MarkLeads", spec := "markLeads", unfollowed := true, recurses := true, apart := false }
def MarkLeadsSaid : Prop := markLeadsRow.holds Try.pinned (OpenSpec.ofChange markLeadsSpec)

/-- ITS FALSE NEIGHBOUR: 'it returns false'. Refute it at one input. -/
def markLeadsWrong : ChangeSpec := { name := "markLeads", fn := fun _ => fun
  | [d1, d2, d3, d4] => { results := [.lit (.bool false)], args := [d1, d2, d3, d4] }
  | _ => none }
def MarkLeadsWrongFalsely : Prop := markLeadsRow.holds Try.pinned (OpenSpec.ofChange markLeadsWrong)

/-- 'calamuslaw10.MarkStays': WHATEVER THE INPUT: true; the input reads as it did. -/
def markStaysSpec : ChangeSpec := { name := "markStays", fn := fun _ => fun
  | [d1, d2] => { results := [.lit (.bool true)], args := [d1, d2] }
  | _ => none }
def markStaysRow : OpenClaim := { program := "ytcpnaanknheekaa", sum := "5f80b9457b3740187c9e300be00ddebd8a244d9f997c5c86de3e6b0dcba26fbb", func := "calamus/calamuslaw10.MarkStays", spec := "markStays", unfollowed := true, recurses := true, apart := false }
def MarkStaysSaid : Prop := markStaysRow.holds Try.pinned (OpenSpec.ofChange markStaysSpec)

/-- ITS FALSE NEIGHBOUR: 'it returns false'. Refute it at one input. -/
def markStaysWrong : ChangeSpec := { name := "markStays", fn := fun _ => fun
  | [d1, d2] => { results := [.lit (.bool false)], args := [d1, d2] }
  | _ => none }
def MarkStaysWrongFalsely : Prop := markStaysRow.holds Try.pinned (OpenSpec.ofChange markStaysWrong)

/- THE SECOND FORM. 'bulk': how many values and letters a reading holds, each counted each time it is reached (what is shared counts as often as it is met; a slice's spare places count too). A statement '..UptoSaid' is the law's where the arguments, and the package variables that the reading takes, are together of bulk at most 1048576: NARROWER than '..Said'. Prove '..Said' where nothing that the law and all that it calls make is longer than what came in: it says more and counts as full. Else prove '..UptoSaid'. A law counts once. -/
mutual
def uptoBulk {H : Type} : DataW H → Nat
  | .lit (.string bytes) => bytes.length + 1
  | .lit _ => 1
  | .nil => 1
  | .ptr d => uptoBulk d + 1
  | .slice elems spare => uptoBulkAll elems + uptoBulkAll spare + 1
  | .agg parts => uptoBulkAll parts + 1
  | .iface _ d => uptoBulk d + 1
  | .map entries => uptoBulkEntries entries + 1
  | .held _ => 1
def uptoBulkAll {H : Type} : List (DataW H) → Nat
  | [] => 0
  | d :: r => uptoBulk d + uptoBulkAll r
def uptoBulkEntries {H : Type} : List (Lit × DataW H) → Nat
  | [] => 0
  | x :: r => uptoBulkEntry x + uptoBulkEntries r
def uptoBulkEntry {H : Type} : Lit × DataW H → Nat
  | (.string bytes, d) => bytes.length + uptoBulk d + 1
  | (_, d) => uptoBulk d + 1
 end
def uptoSmall : (H : Type) → List (DataW H) → Bool := fun _ ds => decide (uptoBulkAll ds ≤ 1048576)
def OpenSpec.upto (s : _root_.Go.ChangeSpec) : _root_.Go.OpenSpec := { _root_.Go.OpenSpec.ofChange s with cond := some uptoSmall }

/-- 'calamuslaw10.MarkSets', WHERE WHAT IT READS IS OF BULK AT MOST 1048576: true; the input reads as it did. -/
def markSetsUptoRow : OpenClaim := { program := "ytcpnaanknheekaa", sum := "5f80b9457b3740187c9e300be00ddebd8a244d9f997c5c86de3e6b0dcba26fbb", func := "calamus/calamuslaw10.MarkSets", spec := "markSets", unfollowed := true, recurses := true, apart := false, narrowed := true }
def MarkSetsUptoSaid : Prop := markSetsUptoRow.holds Try.pinned (OpenSpec.upto markSetsSpec)

/-- 'calamuslaw10.MarkMoves', WHERE WHAT IT READS IS OF BULK AT MOST 1048576: true; the input reads as it did. -/
def markMovesUptoRow : OpenClaim := { program := "ytcpnaanknheekaa", sum := "5f80b9457b3740187c9e300be00ddebd8a244d9f997c5c86de3e6b0dcba26fbb", func := "calamus/calamuslaw10.MarkMoves", spec := "markMoves", unfollowed := true, recurses := true, apart := false, narrowed := true }
def MarkMovesUptoSaid : Prop := markMovesUptoRow.holds Try.pinned (OpenSpec.upto markMovesSpec)

/-- 'calamuslaw10.MarkLeads', WHERE WHAT IT READS IS OF BULK AT MOST 1048576: true; the input reads as it did. -/
def markLeadsUptoRow : OpenClaim := { program := "ytcpnaanknheekaa", sum := "5f80b9457b3740187c9e300be00ddebd8a244d9f997c5c86de3e6b0dcba26fbb", func := "calamus/calamuslaw10.MarkLeads", spec := "markLeads", unfollowed := true, recurses := true, apart := false, narrowed := true }
def MarkLeadsUptoSaid : Prop := markLeadsUptoRow.holds Try.pinned (OpenSpec.upto markLeadsSpec)

/-- 'calamuslaw10.MarkStays', WHERE WHAT IT READS IS OF BULK AT MOST 1048576: true; the input reads as it did. -/
def markStaysUptoRow : OpenClaim := { program := "ytcpnaanknheekaa", sum := "5f80b9457b3740187c9e300be00ddebd8a244d9f997c5c86de3e6b0dcba26fbb", func := "calamus/calamuslaw10.MarkStays", spec := "markStays", unfollowed := true, recurses := true, apart := false, narrowed := true }
def MarkStaysUptoSaid : Prop := markStaysUptoRow.holds Try.pinned (OpenSpec.upto markStaysSpec)

end Rows
end Go.Proofs.Ytcpnaanknheekaa
