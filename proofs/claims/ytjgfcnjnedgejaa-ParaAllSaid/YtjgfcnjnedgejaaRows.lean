/-
  No cell of these rows narrows 'for every input' (looked for: loops, veiled, ifaces, maps, wideKeys, modest, calm, conditions, laid).
  DERIVED. THE GIVEN ROWS OF THIS SEAT. 4 by the template 'for every input the law returns true; each argument reads behind the call as it read before'; 0 by the template 'total and deterministic' (their statements: YtjgfcnjnedgejaaTotals.lean).
  GIVEN WITH THE SEED: the statements are not yours to turn. If you find one false, say at which input.
  Laid BY PROGRAM, IN A SANDBOX (cutbox-rows.mjs): the forced cells as the released guide's own fill.sh prints them over the translation 97d89dfc80c3014a… (all of the seat's roots in one cut). By AI agents, Wed Nov 11 2026. No macro, syntax, notation, axiom, sorry.
-/
import Derived.Test.YtjgfcnjnedgejaaChecked
import GoSem.Claim
import GoSem.ClaimJoined
import GoSem.ClaimMapViews
import Derived.JoinedTies
import Derived.KernelRfl
namespace Go.Proofs.Ytjgfcnjnedgejaa
/- THE CELL 'sum', in the pinned program and in every row, IS THE sha256 OF THE DUMP (.gsa) THAT YtjgfcnjnedgejaaProg.lean LOADS. Nothing in Lean hashes anything: it is a label: what it is worth is what the hold of that sum in a sandbox is worth. -/
noncomputable def Try.pinned : Pinned := { name := "ytjgfcnjnedgejaa", sum := "97d89dfc80c3014a61b5b59e5f4cc7a4a53dc998495449d796119aa7b51857a6", checked := Try.checked }
namespace Rows
def none {H : Type} : Left H := { results := [], args := [] }

/-- 'calamuslaw18.ParaGoes': WHATEVER THE INPUT: true; the input reads as it did. -/
def paraGoesSpec : ChangeSpec := { name := "paraGoes", fn := fun _ => fun
  | [d1, d2, d3, d4] => { results := [.lit (.bool true)], args := [d1, d2, d3, d4] }
  | _ => none }
def paraGoesRow : OpenClaim := { program := "ytjgfcnjnedgejaa", sum := "97d89dfc80c3014a61b5b59e5f4cc7a4a53dc998495449d796119aa7b51857a6", func := "calamus/calamuslaw18.ParaGoes", spec := "paraGoes", inPlace := ["internal/bytealg.IndexByteString"], unfollowed := true, recurses := true, apart := false }
def ParaGoesSaid : Prop := paraGoesRow.holds Try.pinned (OpenSpec.ofChange paraGoesSpec)

/-- ITS FALSE NEIGHBOUR: 'it returns false'. Refute it at one input. -/
def paraGoesWrong : ChangeSpec := { name := "paraGoes", fn := fun _ => fun
  | [d1, d2, d3, d4] => { results := [.lit (.bool false)], args := [d1, d2, d3, d4] }
  | _ => none }
def ParaGoesWrongFalsely : Prop := paraGoesRow.holds Try.pinned (OpenSpec.ofChange paraGoesWrong)

/-- 'calamuslaw18.ParaBlocks': WHATEVER THE INPUT: true; the input reads as it did. -/
def paraBlocksSpec : ChangeSpec := { name := "paraBlocks", fn := fun _ => fun
  | [d1, d2] => { results := [.lit (.bool true)], args := [d1, d2] }
  | _ => none }
def paraBlocksRow : OpenClaim := { program := "ytjgfcnjnedgejaa", sum := "97d89dfc80c3014a61b5b59e5f4cc7a4a53dc998495449d796119aa7b51857a6", func := "calamus/calamuslaw18.ParaBlocks", spec := "paraBlocks", inPlace := ["internal/bytealg.IndexByteString"], unfollowed := true, recurses := true, apart := false }
def ParaBlocksSaid : Prop := paraBlocksRow.holds Try.pinned (OpenSpec.ofChange paraBlocksSpec)

/-- ITS FALSE NEIGHBOUR: 'it returns false'. Refute it at one input. -/
def paraBlocksWrong : ChangeSpec := { name := "paraBlocks", fn := fun _ => fun
  | [d1, d2] => { results := [.lit (.bool false)], args := [d1, d2] }
  | _ => none }
def ParaBlocksWrongFalsely : Prop := paraBlocksRow.holds Try.pinned (OpenSpec.ofChange paraBlocksWrong)

/-- 'calamuslaw18.ParaTimes': WHATEVER THE INPUT: true; the input reads as it did. -/
def paraTimesSpec : ChangeSpec := { name := "paraTimes", fn := fun _ => fun
  | [d1, d2, d3, d4] => { results := [.lit (.bool true)], args := [d1, d2, d3, d4] }
  | _ => none }
def paraTimesRow : OpenClaim := { program := "ytjgfcnjnedgejaa", sum := "97d89dfc80c3014a61b5b59e5f4cc7a4a53dc998495449d796119aa7b51857a6", func := "calamus/calamuslaw18.ParaTimes", spec := "paraTimes", inPlace := ["internal/bytealg.IndexByteString"], unfollowed := true, recurses := true, apart := false }
def ParaTimesSaid : Prop := paraTimesRow.holds Try.pinned (OpenSpec.ofChange paraTimesSpec)

/-- ITS FALSE NEIGHBOUR: 'it returns false'. Refute it at one input. -/
def paraTimesWrong : ChangeSpec := { name := "paraTimes", fn := fun _ => fun
  | [d1, d2, d3, d4] => { results := [.lit (.bool false)], args := [d1, d2, d3, d4] }
  | _ => none }
def ParaTimesWrongFalsely : Prop := paraTimesRow.holds Try.pinned (OpenSpec.ofChange paraTimesWrong)

/-- 'calamuslaw18.ParaAll': WHATEVER THE INPUT: true; the input reads as it did. -/
def paraAllSpec : ChangeSpec := { name := "paraAll", fn := fun _ => fun
  | [d] => { results := [.lit (.bool true)], args := [d] }
  | _ => none }
def paraAllRow : OpenClaim := { program := "ytjgfcnjnedgejaa", sum := "97d89dfc80c3014a61b5b59e5f4cc7a4a53dc998495449d796119aa7b51857a6", func := "calamus/calamuslaw18.ParaAll", spec := "paraAll", inPlace := ["internal/bytealg.IndexByteString"], unfollowed := true, recurses := true, apart := false }
def ParaAllSaid : Prop := paraAllRow.holds Try.pinned (OpenSpec.ofChange paraAllSpec)

/-- ITS FALSE NEIGHBOUR: 'it returns false'. Refute it at one input. -/
def paraAllWrong : ChangeSpec := { name := "paraAll", fn := fun _ => fun
  | [d] => { results := [.lit (.bool false)], args := [d] }
  | _ => none }
def ParaAllWrongFalsely : Prop := paraAllRow.holds Try.pinned (OpenSpec.ofChange paraAllWrong)

/- THE SECOND FORM. 'bulk': how many values and letters a reading holds, each counted each time it is reached (what is shared counts as often as it is met; a slice's spare places count too). A statement '..UptoSaid' is the law's where the arguments, and the package variables that the reading takes, are together of bulk at most 1048576: NARROWER than '..Said'. Prove '..Said' where nothing that the law and all that it calls make is longer than what came in: it says more and counts as full. Else prove '..UptoSaid'. A law counts once. -/
mutual
def uptoBulk {H : Type} : DataW H → Nat
  | .lit (.string bytes) => bytes.length + 1
  | .lit _ => 1
  | .nil => 1
  | .ptr d => uptoBulk d + 1
  | .slice elems spare => uptoBulkAll elems + uptoBulkAll spare + 1
  | .agg parts => uptoBulkAll parts + 1
  | .iface _ d => uptoBulk d + 1
  | .map entries => uptoBulkEntries entries + 1
  | .held _ => 1
def uptoBulkAll {H : Type} : List (DataW H) → Nat
  | [] => 0
  | d :: r => uptoBulk d + uptoBulkAll r
def uptoBulkEntries {H : Type} : List (Lit × DataW H) → Nat
  | [] => 0
  | x :: r => uptoBulkEntry x + uptoBulkEntries r
def uptoBulkEntry {H : Type} : Lit × DataW H → Nat
  | (.string bytes, d) => bytes.length + uptoBulk d + 1
  | (_, d) => uptoBulk d + 1
 end
def uptoSmall : (H : Type) → List (DataW H) → Bool := fun _ ds => decide (uptoBulkAll ds ≤ 1048576)
def OpenSpec.upto (s : _root_.Go.ChangeSpec) : _root_.Go.OpenSpec := { _root_.Go.OpenSpec.ofChange s with cond := some uptoSmall }

/-- 'calamuslaw18.ParaGoes', WHERE WHAT IT READS IS OF BULK AT MOST 1048576: true; the input reads as it did. -/
def paraGoesUptoRow : OpenClaim := { program := "ytjgfcnjnedgejaa", sum := "97d89dfc80c3014a61b5b59e5f4cc7a4a53dc998495449d796119aa7b51857a6", func := "calamus/calamuslaw18.ParaGoes", spec := "paraGoes", inPlace := ["internal/bytealg.IndexByteString"], unfollowed := true, recurses := true, apart := false, narrowed := true }
def ParaGoesUptoSaid : Prop := paraGoesUptoRow.holds Try.pinned (OpenSpec.upto paraGoesSpec)

/-- 'calamuslaw18.ParaBlocks', WHERE WHAT IT READS IS OF BULK AT MOST 1048576: true; the input reads as it did. -/
def paraBlocksUptoRow : OpenClaim := { program := "ytjgfcnjnedgejaa", sum := "97d89dfc80c3014a61b5b59e5f4cc7a4a53dc998495449d796119aa7b51857a6", func := "calamus/calamuslaw18.ParaBlocks", spec := "paraBlocks", inPlace := ["internal/bytealg.IndexByteString"], unfollowed := true, recurses := true, apart := false, narrowed := true }
def ParaBlocksUptoSaid : Prop := paraBlocksUptoRow.holds Try.pinned (OpenSpec.upto paraBlocksSpec)

/-- 'calamuslaw18.ParaTimes', WHERE WHAT IT READS IS OF BULK AT MOST 1048576: true; the input reads as it did. -/
def paraTimesUptoRow : OpenClaim := { program := "ytjgfcnjnedgejaa", sum := "97d89dfc80c3014a61b5b59e5f4cc7a4a53dc998495449d796119aa7b51857a6", func := "calamus/calamuslaw18.ParaTimes", spec := "paraTimes", inPlace := ["internal/bytealg.IndexByteString"], unfollowed := true, recurses := true, apart := false, narrowed := true }
def ParaTimesUptoSaid : Prop := paraTimesUptoRow.holds Try.pinned (OpenSpec.upto paraTimesSpec)

/-- 'calamuslaw18.ParaAll', WHERE WHAT IT READS IS OF BULK AT MOST 1048576: true; the input reads as it did. -/
def paraAllUptoRow : OpenClaim := { program := "ytjgfcnjnedgejaa", sum := "97d89dfc80c3014a61b5b59e5f4cc7a4a53dc998495449d796119aa7b51857a6", func := "calamus/calamuslaw18.ParaAll", spec := "paraAll", inPlace := ["internal/bytealg.IndexByteString"], unfollowed := true, recurses := true, apart := false, narrowed := true }
def ParaAllUptoSaid : Prop := paraAllUptoRow.holds Try.pinned (OpenSpec.upto paraAllSpec)

end Rows
end Go.Proofs.Ytjgfcnjnedgejaa
