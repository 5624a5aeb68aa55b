/-
  No cell of these rows narrows 'for every input' (looked for: loops, veiled, ifaces, maps, wideKeys, modest, calm, conditions, laid).
  DERIVED. THE GIVEN ROWS OF THIS SEAT. 3 by the template 'for every input the law returns true; each argument reads behind the call as it read before'; 0 by the template 'total and deterministic' (their statements: YtohdijhpoddbbaaTotals.lean).
  GIVEN WITH THE SEED: the statements are not yours to turn. If you find one false, say at which input.
  Laid BY PROGRAM, IN A SANDBOX (cutbox-rows.mjs): the forced cells as the released guide's own fill.sh prints them over the translation 98b8cb4442ff0e8e… (all of the seat's roots in one cut). By AI agents, Wed Nov 11 2026. No macro, syntax, notation, axiom, sorry.
-/
import Derived.Test.YtohdijhpoddbbaaChecked
import GoSem.Claim
import GoSem.ClaimJoined
import GoSem.ClaimMapViews
import Derived.JoinedTies
import Derived.KernelRfl
namespace Go.Proofs.Ytohdijhpoddbbaa
/- THE CELL 'sum', in the pinned program and in every row, IS THE sha256 OF THE DUMP (.gsa) THAT YtohdijhpoddbbaaProg.lean LOADS. Nothing in Lean hashes anything: it is a label: what it is worth is what the hold of that sum in a sandbox is worth. -/
noncomputable def Try.pinned : Pinned := { name := "ytohdijhpoddbbaa", sum := "98b8cb4442ff0e8e7b3d2a09558c733ca712d06033cf6e54d4584da68de675f5", checked := Try.checked }
namespace Rows
def none {H : Type} : Left H := { results := [], args := [] }

/-- 'calamuslaw19.ThingOf': WHATEVER THE INPUT: true; the input reads as it did. -/
def thingOfSpec : ChangeSpec := { name := "thingOf", fn := fun _ => fun
  | [d1, d2, d3, d4] => { results := [.lit (.bool true)], args := [d1, d2, d3, d4] }
  | _ => none }
def thingOfRow : OpenClaim := { program := "ytohdijhpoddbbaa", sum := "98b8cb4442ff0e8e7b3d2a09558c733ca712d06033cf6e54d4584da68de675f5", func := "calamus/calamuslaw19.ThingOf", spec := "thingOf", inPlace := ["internal/bytealg.IndexByteString"], unfollowed := true, recurses := true, apart := false }
def ThingOfSaid : Prop := thingOfRow.holds Try.pinned (OpenSpec.ofChange thingOfSpec)

/-- ITS FALSE NEIGHBOUR: 'it returns false'. Refute it at one input. -/
def thingOfWrong : ChangeSpec := { name := "thingOf", fn := fun _ => fun
  | [d1, d2, d3, d4] => { results := [.lit (.bool false)], args := [d1, d2, d3, d4] }
  | _ => none }
def ThingOfWrongFalsely : Prop := thingOfRow.holds Try.pinned (OpenSpec.ofChange thingOfWrong)

/-- 'calamuslaw19.ThingAll': WHATEVER THE INPUT: true; the input reads as it did. -/
def thingAllSpec : ChangeSpec := { name := "thingAll", fn := fun _ => fun
  | [d1, d2, d3] => { results := [.lit (.bool true)], args := [d1, d2, d3] }
  | _ => none }
def thingAllRow : OpenClaim := { program := "ytohdijhpoddbbaa", sum := "98b8cb4442ff0e8e7b3d2a09558c733ca712d06033cf6e54d4584da68de675f5", func := "calamus/calamuslaw19.ThingAll", spec := "thingAll", inPlace := ["internal/bytealg.IndexByteString"], unfollowed := true, recurses := true, apart := false }
def ThingAllSaid : Prop := thingAllRow.holds Try.pinned (OpenSpec.ofChange thingAllSpec)

/-- ITS FALSE NEIGHBOUR: 'it returns false'. Refute it at one input. -/
def thingAllWrong : ChangeSpec := { name := "thingAll", fn := fun _ => fun
  | [d1, d2, d3] => { results := [.lit (.bool false)], args := [d1, d2, d3] }
  | _ => none }
def ThingAllWrongFalsely : Prop := thingAllRow.holds Try.pinned (OpenSpec.ofChange thingAllWrong)

/-- 'calamuslaw19.ThingWithin': WHATEVER THE INPUT: true; the input reads as it did. -/
def thingWithinSpec : ChangeSpec := { name := "thingWithin", fn := fun _ => fun
  | [d1, d2, d3] => { results := [.lit (.bool true)], args := [d1, d2, d3] }
  | _ => none }
def thingWithinRow : OpenClaim := { program := "ytohdijhpoddbbaa", sum := "98b8cb4442ff0e8e7b3d2a09558c733ca712d06033cf6e54d4584da68de675f5", func := "calamus/calamuslaw19.ThingWithin", spec := "thingWithin", inPlace := ["internal/bytealg.IndexByteString"], unfollowed := true, recurses := true, apart := false }
def ThingWithinSaid : Prop := thingWithinRow.holds Try.pinned (OpenSpec.ofChange thingWithinSpec)

/-- ITS FALSE NEIGHBOUR: 'it returns false'. Refute it at one input. -/
def thingWithinWrong : ChangeSpec := { name := "thingWithin", fn := fun _ => fun
  | [d1, d2, d3] => { results := [.lit (.bool false)], args := [d1, d2, d3] }
  | _ => none }
def ThingWithinWrongFalsely : Prop := thingWithinRow.holds Try.pinned (OpenSpec.ofChange thingWithinWrong)

/- THE SECOND FORM. 'bulk': how many values and letters a reading holds, each counted each time it is reached (what is shared counts as often as it is met; a slice's spare places count too). A statement '..UptoSaid' is the law's where the arguments, and the package variables that the reading takes, are together of bulk at most 1048576: NARROWER than '..Said'. Prove '..Said' where nothing that the law and all that it calls make is longer than what came in: it says more and counts as full. Else prove '..UptoSaid'. A law counts once. -/
mutual
def uptoBulk {H : Type} : DataW H → Nat
  | .lit (.string bytes) => bytes.length + 1
  | .lit _ => 1
  | .nil => 1
  | .ptr d => uptoBulk d + 1
  | .slice elems spare => uptoBulkAll elems + uptoBulkAll spare + 1
  | .agg parts => uptoBulkAll parts + 1
  | .iface _ d => uptoBulk d + 1
  | .map entries => uptoBulkEntries entries + 1
  | .held _ => 1
def uptoBulkAll {H : Type} : List (DataW H) → Nat
  | [] => 0
  | d :: r => uptoBulk d + uptoBulkAll r
def uptoBulkEntries {H : Type} : List (Lit × DataW H) → Nat
  | [] => 0
  | x :: r => uptoBulkEntry x + uptoBulkEntries r
def uptoBulkEntry {H : Type} : Lit × DataW H → Nat
  | (.string bytes, d) => bytes.length + uptoBulk d + 1
  | (_, d) => uptoBulk d + 1
 end
def uptoSmall : (H : Type) → List (DataW H) → Bool := fun _ ds => decide (uptoBulkAll ds ≤ 1048576)
def OpenSpec.upto (s : _root_.Go.ChangeSpec) : _root_.Go.OpenSpec := { _root_.Go.OpenSpec.ofChange s with cond := some uptoSmall }

/-- 'calamuslaw19.ThingOf', WHERE WHAT IT READS IS OF BULK AT MOST 1048576: true; the input reads as it did. -/
def thingOfUptoRow : OpenClaim := { program := "ytohdijhpoddbbaa", sum := "98b8cb4442ff0e8e7b3d2a09558c733ca712d06033cf6e54d4584da68de675f5", func := "calamus/calamuslaw19.ThingOf", spec := "thingOf", inPlace := ["internal/bytealg.IndexByteString"], unfollowed := true, recurses := true, apart := false, narrowed := true }
def ThingOfUptoSaid : Prop := thingOfUptoRow.holds Try.pinned (OpenSpec.upto thingOfSpec)

/-- 'calamuslaw19.ThingAll', WHERE WHAT IT READS IS OF BULK AT MOST 1048576: true; the input reads as it did. -/
def thingAllUptoRow : OpenClaim := { program := "ytohdijhpoddbbaa", sum := "98b8cb4442ff0e8e7b3d2a09558c733ca712d06033cf6e54d4584da68de675f5", func := "calamus/calamuslaw19.ThingAll", spec := "thingAll", inPlace := ["internal/bytealg.IndexByteString"], unfollowed := true, recurses := true, apart := false, narrowed := true }
def ThingAllUptoSaid : Prop := thingAllUptoRow.holds Try.pinned (OpenSpec.upto thingAllSpec)

/-- 'calamuslaw19.ThingWithin', WHERE WHAT IT READS IS OF BULK AT MOST 1048576: true; the input reads as it did. -/
def thingWithinUptoRow : OpenClaim := { program := "ytohdijhpoddbbaa", sum := "98b8cb4442ff0e8e7b3d2a09558c733ca712d06033cf6e54d4584da68de675f5", func := "calamus/calamuslaw19.ThingWithin", spec := "thingWithin", inPlace := ["internal/bytealg.IndexByteString"], unfollowed := true, recurses := true, apart := false, narrowed := true }
def ThingWithinUptoSaid : Prop := thingWithinUptoRow.holds Try.pinned (OpenSpec.upto thingWithinSpec)

end Rows
end Go.Proofs.Ytohdijhpoddbbaa
