/-
  No cell of these rows narrows 'for every input' (looked for: loops, veiled, ifaces, maps, wideKeys, modest, calm, conditions, laid).
  DERIVED. THE GIVEN ROWS OF THIS SEAT. 5 by the template 'for every input the law returns true; each argument reads behind the call as it read before'; 0 by the template 'total and deterministic' (their statements: YtaldnhokclofnaaTotals.lean).
  GIVEN WITH THE SEED: the statements are not yours to turn. If you find one false, say at which input.
  Laid BY PROGRAM, IN A SANDBOX (cutbox-rows.mjs): the forced cells as the released guide's own fill.sh prints them over the translation eddcebe7e6507634… (all of the seat's roots in one cut). By AI agents, Wed Nov 11 2026. No macro, syntax, notation, axiom, sorry.
-/
import Derived.Test.YtaldnhokclofnaaChecked
import GoSem.Claim
import GoSem.ClaimJoined
import GoSem.ClaimMapViews
import Derived.JoinedTies
import Derived.KernelRfl
namespace Go.Proofs.Ytaldnhokclofnaa
/- THE CELL 'sum', in the pinned program and in every row, IS THE sha256 OF THE DUMP (.gsa) THAT YtaldnhokclofnaaProg.lean LOADS. Nothing in Lean hashes anything: it is a label: what it is worth is what the hold of that sum in a sandbox is worth. -/
noncomputable def Try.pinned : Pinned := { name := "ytaldnhokclofnaa", sum := "eddcebe7e65076340ef66a28f6f2ba9eaf3618cda54743bb9c1bbda43f9098b8", checked := Try.checked }
namespace Rows
def none {H : Type} : Left H := { results := [], args := [] }

/-- 'calamuslaw04.LineParts': WHATEVER THE INPUT: true; the input reads as it did. -/
def linePartsSpec : ChangeSpec := { name := "lineParts", fn := fun _ => fun
  | [d1, d2, d3] => { results := [.lit (.bool true)], args := [d1, d2, d3] }
  | _ => none }
def linePartsRow : OpenClaim := { program := "ytaldnhokclofnaa", sum := "eddcebe7e65076340ef66a28f6f2ba9eaf3618cda54743bb9c1bbda43f9098b8", func := "calamus/calamuslaw04.LineParts", spec := "lineParts", inPlace := ["internal/bytealg.IndexByteString"], unfollowed := true, recurses := true, apart := false }
def LinePartsSaid : Prop := linePartsRow.holds Try.pinned (OpenSpec.ofChange linePartsSpec)

/-- ITS FALSE NEIGHBOUR: 'it returns false'. Refute it at one input. -/
def linePartsWrong : ChangeSpec := { name := "lineParts", fn := fun _ => fun
  | [d1, d2, d3] => { results := [.lit (.bool false)], args := [d1, d2, d3] }
  | _ => none }
def LinePartsWrongFalsely : Prop := linePartsRow.holds Try.pinned (OpenSpec.ofChange linePartsWrong)

/-- 'calamuslaw04.LineColumns': WHATEVER THE INPUT: true; the input reads as it did. -/
def lineColumnsSpec : ChangeSpec := { name := "lineColumns", fn := fun _ => fun
  | [d1, d2, d3, d4] => { results := [.lit (.bool true)], args := [d1, d2, d3, d4] }
  | _ => none }
def lineColumnsRow : OpenClaim := { program := "ytaldnhokclofnaa", sum := "eddcebe7e65076340ef66a28f6f2ba9eaf3618cda54743bb9c1bbda43f9098b8", func := "calamus/calamuslaw04.LineColumns", spec := "lineColumns", inPlace := ["internal/bytealg.IndexByteString"], unfollowed := true, recurses := true, apart := false }
def LineColumnsSaid : Prop := lineColumnsRow.holds Try.pinned (OpenSpec.ofChange lineColumnsSpec)

/-- ITS FALSE NEIGHBOUR: 'it returns false'. Refute it at one input. -/
def lineColumnsWrong : ChangeSpec := { name := "lineColumns", fn := fun _ => fun
  | [d1, d2, d3, d4] => { results := [.lit (.bool false)], args := [d1, d2, d3, d4] }
  | _ => none }
def LineColumnsWrongFalsely : Prop := lineColumnsRow.holds Try.pinned (OpenSpec.ofChange lineColumnsWrong)

/-- 'calamuslaw04.LineNormal': WHATEVER THE INPUT: true; the input reads as it did. -/
def lineNormalSpec : ChangeSpec := { name := "lineNormal", fn := fun _ => fun
  | [d1, d2, d3] => { results := [.lit (.bool true)], args := [d1, d2, d3] }
  | _ => none }
def lineNormalRow : OpenClaim := { program := "ytaldnhokclofnaa", sum := "eddcebe7e65076340ef66a28f6f2ba9eaf3618cda54743bb9c1bbda43f9098b8", func := "calamus/calamuslaw04.LineNormal", spec := "lineNormal", inPlace := ["internal/bytealg.IndexByteString"], unfollowed := true, recurses := true, apart := false }
def LineNormalSaid : Prop := lineNormalRow.holds Try.pinned (OpenSpec.ofChange lineNormalSpec)

/-- ITS FALSE NEIGHBOUR: 'it returns false'. Refute it at one input. -/
def lineNormalWrong : ChangeSpec := { name := "lineNormal", fn := fun _ => fun
  | [d1, d2, d3] => { results := [.lit (.bool false)], args := [d1, d2, d3] }
  | _ => none }
def LineNormalWrongFalsely : Prop := lineNormalRow.holds Try.pinned (OpenSpec.ofChange lineNormalWrong)

/-- 'calamuslaw04.LineWhole': WHATEVER THE INPUT: true; the input reads as it did. -/
def lineWholeSpec : ChangeSpec := { name := "lineWhole", fn := fun _ => fun
  | [d1, d2] => { results := [.lit (.bool true)], args := [d1, d2] }
  | _ => none }
def lineWholeRow : OpenClaim := { program := "ytaldnhokclofnaa", sum := "eddcebe7e65076340ef66a28f6f2ba9eaf3618cda54743bb9c1bbda43f9098b8", func := "calamus/calamuslaw04.LineWhole", spec := "lineWhole", inPlace := ["internal/bytealg.IndexByteString"], unfollowed := true, recurses := true, apart := false }
def LineWholeSaid : Prop := lineWholeRow.holds Try.pinned (OpenSpec.ofChange lineWholeSpec)

/-- ITS FALSE NEIGHBOUR: 'it returns false'. Refute it at one input. -/
def lineWholeWrong : ChangeSpec := { name := "lineWhole", fn := fun _ => fun
  | [d1, d2] => { results := [.lit (.bool false)], args := [d1, d2] }
  | _ => none }
def LineWholeWrongFalsely : Prop := lineWholeRow.holds Try.pinned (OpenSpec.ofChange lineWholeWrong)

/-- 'calamuslaw04.LineLeads': WHATEVER THE INPUT: true; the input reads as it did. -/
def lineLeadsSpec : ChangeSpec := { name := "lineLeads", fn := fun _ => fun
  | [d1, d2] => { results := [.lit (.bool true)], args := [d1, d2] }
  | _ => none }
def lineLeadsRow : OpenClaim := { program := "ytaldnhokclofnaa", sum := "eddcebe7e65076340ef66a28f6f2ba9eaf3618cda54743bb9c1bbda43f9098b8", func := "calamus/calamuslaw04.LineLeads", spec := "lineLeads", inPlace := ["internal/bytealg.IndexByteString"], unfollowed := true, recurses := true, apart := false }
def LineLeadsSaid : Prop := lineLeadsRow.holds Try.pinned (OpenSpec.ofChange lineLeadsSpec)

/-- ITS FALSE NEIGHBOUR: 'it returns false'. Refute it at one input. -/
def lineLeadsWrong : ChangeSpec := { name := "lineLeads", fn := fun _ => fun
  | [d1, d2] => { results := [.lit (.bool false)], args := [d1, d2] }
  | _ => none }
def LineLeadsWrongFalsely : Prop := lineLeadsRow.holds Try.pinned (OpenSpec.ofChange lineLeadsWrong)

/- THE SECOND FORM. 'bulk': how many values and letters a reading holds, each counted each time it is reached (what is shared counts as often as it is met; a slice's spare places count too). A statement '..UptoSaid' is the law's where the arguments, and the package variables that the reading takes, are together of bulk at most 1048576: NARROWER than '..Said'. Prove '..Said' where nothing that the law and all that it calls make is longer than what came in: it says more and counts as full. Else prove '..UptoSaid'. A law counts once. -/
mutual
def uptoBulk {H : Type} : DataW H → Nat
  | .lit (.string bytes) => bytes.length + 1
  | .lit _ => 1
  | .nil => 1
  | .ptr d => uptoBulk d + 1
  | .slice elems spare => uptoBulkAll elems + uptoBulkAll spare + 1
  | .agg parts => uptoBulkAll parts + 1
  | .iface _ d => uptoBulk d + 1
  | .map entries => uptoBulkEntries entries + 1
  | .held _ => 1
def uptoBulkAll {H : Type} : List (DataW H) → Nat
  | [] => 0
  | d :: r => uptoBulk d + uptoBulkAll r
def uptoBulkEntries {H : Type} : List (Lit × DataW H) → Nat
  | [] => 0
  | x :: r => uptoBulkEntry x + uptoBulkEntries r
def uptoBulkEntry {H : Type} : Lit × DataW H → Nat
  | (.string bytes, d) => bytes.length + uptoBulk d + 1
  | (_, d) => uptoBulk d + 1
 end
def uptoSmall : (H : Type) → List (DataW H) → Bool := fun _ ds => decide (uptoBulkAll ds ≤ 1048576)
def OpenSpec.upto (s : _root_.Go.ChangeSpec) : _root_.Go.OpenSpec := { _root_.Go.OpenSpec.ofChange s with cond := some uptoSmall }

/-- 'calamuslaw04.LineParts', WHERE WHAT IT READS IS OF BULK AT MOST 1048576: true; the input reads as it did. -/
def linePartsUptoRow : OpenClaim := { program := "ytaldnhokclofnaa", sum := "eddcebe7e65076340ef66a28f6f2ba9eaf3618cda54743bb9c1bbda43f9098b8", func := "calamus/calamuslaw04.LineParts", spec := "lineParts", inPlace := ["internal/bytealg.IndexByteString"], unfollowed := true, recurses := true, apart := false, narrowed := true }
def LinePartsUptoSaid : Prop := linePartsUptoRow.holds Try.pinned (OpenSpec.upto linePartsSpec)

/-- 'calamuslaw04.LineColumns', WHERE WHAT IT READS IS OF BULK AT MOST 1048576: true; the input reads as it did. -/
def lineColumnsUptoRow : OpenClaim := { program := "ytaldnhokclofnaa", sum := "eddcebe7e65076340ef66a28f6f2ba9eaf3618cda54743bb9c1bbda43f9098b8", func := "calamus/calamuslaw04.LineColumns", spec := "lineColumns", inPlace := ["internal/bytealg.IndexByteString"], unfollowed := true, recurses := true, apart := false, narrowed := true }
def LineColumnsUptoSaid : Prop := lineColumnsUptoRow.holds Try.pinned (OpenSpec.upto lineColumnsSpec)

/-- 'calamuslaw04.LineNormal', WHERE WHAT IT READS IS OF BULK AT MOST 1048576: true; the input reads as it did. -/
def lineNormalUptoRow : OpenClaim := { program := "ytaldnhokclofnaa", sum := "eddcebe7e65076340ef66a28f6f2ba9eaf3618cda54743bb9c1bbda43f9098b8", func := "calamus/calamuslaw04.LineNormal", spec := "lineNormal", inPlace := ["internal/bytealg.IndexByteString"], unfollowed := true, recurses := true, apart := false, narrowed := true }
def LineNormalUptoSaid : Prop := lineNormalUptoRow.holds Try.pinned (OpenSpec.upto lineNormalSpec)

/-- 'calamuslaw04.LineWhole', WHERE WHAT IT READS IS OF BULK AT MOST 1048576: true; the input reads as it did. -/
def lineWholeUptoRow : OpenClaim := { program := "ytaldnhokclofnaa", sum := "eddcebe7e65076340ef66a28f6f2ba9eaf3618cda54743bb9c1bbda43f9098b8", func := "calamus/calamuslaw04.LineWhole", spec := "lineWhole", inPlace := ["internal/bytealg.IndexByteString"], unfollowed := true, recurses := true, apart := false, narrowed := true }
def LineWholeUptoSaid : Prop := lineWholeUptoRow.holds Try.pinned (OpenSpec.upto lineWholeSpec)

/-- 'calamuslaw04.LineLeads', WHERE WHAT IT READS IS OF BULK AT MOST 1048576: true; the input reads as it did. -/
def lineLeadsUptoRow : OpenClaim := { program := "ytaldnhokclofnaa", sum := "eddcebe7e65076340ef66a28f6f2ba9eaf3618cda54743bb9c1bbda43f9098b8", func := "calamus/calamuslaw04.LineLeads", spec := "lineLeads", inPlace := ["internal/bytealg.IndexByteString"], unfollowed := true, recurses := true, apart := false, narrowed := true }
def LineLeadsUptoSaid : Prop := lineLeadsUptoRow.holds Try.pinned (OpenSpec.upto lineLeadsSpec)

end Rows
end Go.Proofs.Ytaldnhokclofnaa
