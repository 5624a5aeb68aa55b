/-
  No cell of these rows narrows 'for every input' (looked for: loops, veiled, ifaces, maps, wideKeys, modest, calm, conditions, laid).
  DERIVED. THE GIVEN ROWS OF THIS SEAT. 4 by the template 'for every input the law returns true; each argument reads behind the call as it read before'; 0 by the template 'total and deterministic' (their statements: YtambboomabeioaaTotals.lean).
  GIVEN WITH THE SEED: the statements are not yours to turn. If you find one false, say at which input.
  Laid BY PROGRAM, IN A SANDBOX (cutbox-rows.mjs): the forced cells as the released guide's own fill.sh prints them over the translation 6b53b81e254617fb… (all of the seat's roots in one cut). By AI agents, Wed Nov 11 2026. No macro, syntax, notation, axiom, sorry.
-/
import Derived.Test.YtambboomabeioaaChecked
import GoSem.Claim
import GoSem.ClaimJoined
import GoSem.ClaimMapViews
import Derived.JoinedTies
import Derived.KernelRfl
namespace Go.Proofs.Ytambboomabeioaa
/- THE CELL 'sum', in the pinned program and in every row, IS THE sha256 OF THE DUMP (.gsa) THAT YtambboomabeioaaProg.lean LOADS. Nothing in Lean hashes anything: it is a label: what it is worth is what the hold of that sum in a sandbox is worth. -/
noncomputable def Try.pinned : Pinned := { name := "ytambboomabeioaa", sum := "6b53b81e254617fb9023a455cc171eec96cdfc9b25688decbd81ab2213b0c05d", checked := Try.checked }
namespace Rows
def none {H : Type} : Left H := { results := [], args := [] }

/-- 'calamuslaw24.PastePuts': WHATEVER THE INPUT: true; the input reads as it did. -/
def pastePutsSpec : ChangeSpec := { name := "pastePuts", fn := fun _ => fun
  | [d1, d2, d3, d4, d5] => { results := [.lit (.bool true)], args := [d1, d2, d3, d4, d5] }
  | _ => none }
def pastePutsRow : OpenClaim := { program := "ytambboomabeioaa", sum := "6b53b81e254617fb9023a455cc171eec96cdfc9b25688decbd81ab2213b0c05d", func := "calamus/calamuslaw24.PastePuts", spec := "pastePuts", inPlace := ["internal/bytealg.IndexByteString", "internal/abi.NoEscape", "internal/bytealg.MakeNoZero", "internal/bytealg.IndexString"], unfollowed := true, recurses := true, named := ["internal/bytealg.MaxLen"], apart := false }
def PastePutsSaid : Prop := pastePutsRow.holds Try.pinned (OpenSpec.ofChange pastePutsSpec)

/-- ITS FALSE NEIGHBOUR: 'it returns false'. Refute it at one input. -/
def pastePutsWrong : ChangeSpec := { name := "pastePuts", fn := fun _ => fun
  | [d1, d2, d3, d4, d5] => { results := [.lit (.bool false)], args := [d1, d2, d3, d4, d5] }
  | _ => none }
def PastePutsWrongFalsely : Prop := pastePutsRow.holds Try.pinned (OpenSpec.ofChange pastePutsWrong)

/-- 'calamuslaw24.PasteOver': WHATEVER THE INPUT: true; the input reads as it did. -/
def pasteOverSpec : ChangeSpec := { name := "pasteOver", fn := fun _ => fun
  | [d1, d2, d3, d4] => { results := [.lit (.bool true)], args := [d1, d2, d3, d4] }
  | _ => none }
def pasteOverRow : OpenClaim := { program := "ytambboomabeioaa", sum := "6b53b81e254617fb9023a455cc171eec96cdfc9b25688decbd81ab2213b0c05d", func := "calamus/calamuslaw24.PasteOver", spec := "pasteOver", inPlace := ["internal/bytealg.IndexByteString", "internal/abi.NoEscape", "internal/bytealg.MakeNoZero", "internal/bytealg.IndexString"], unfollowed := true, recurses := true, named := ["internal/bytealg.MaxLen"], apart := false }
def PasteOverSaid : Prop := pasteOverRow.holds Try.pinned (OpenSpec.ofChange pasteOverSpec)

/-- ITS FALSE NEIGHBOUR: 'it returns false'. Refute it at one input. -/
def pasteOverWrong : ChangeSpec := { name := "pasteOver", fn := fun _ => fun
  | [d1, d2, d3, d4] => { results := [.lit (.bool false)], args := [d1, d2, d3, d4] }
  | _ => none }
def PasteOverWrongFalsely : Prop := pasteOverRow.holds Try.pinned (OpenSpec.ofChange pasteOverWrong)

/-- 'calamuslaw24.PasteLess': WHATEVER THE INPUT: true; the input reads as it did. -/
def pasteLessSpec : ChangeSpec := { name := "pasteLess", fn := fun _ => fun
  | [d1, d2, d3, d4, d5] => { results := [.lit (.bool true)], args := [d1, d2, d3, d4, d5] }
  | _ => none }
def pasteLessRow : OpenClaim := { program := "ytambboomabeioaa", sum := "6b53b81e254617fb9023a455cc171eec96cdfc9b25688decbd81ab2213b0c05d", func := "calamus/calamuslaw24.PasteLess", spec := "pasteLess", inPlace := ["internal/bytealg.IndexByteString", "internal/abi.NoEscape", "internal/bytealg.MakeNoZero", "internal/bytealg.IndexString"], unfollowed := true, recurses := true, named := ["internal/bytealg.MaxLen"], apart := false }
def PasteLessSaid : Prop := pasteLessRow.holds Try.pinned (OpenSpec.ofChange pasteLessSpec)

/-- ITS FALSE NEIGHBOUR: 'it returns false'. Refute it at one input. -/
def pasteLessWrong : ChangeSpec := { name := "pasteLess", fn := fun _ => fun
  | [d1, d2, d3, d4, d5] => { results := [.lit (.bool false)], args := [d1, d2, d3, d4, d5] }
  | _ => none }
def PasteLessWrongFalsely : Prop := pasteLessRow.holds Try.pinned (OpenSpec.ofChange pasteLessWrong)

/-- 'calamuslaw24.PasteTwice': WHATEVER THE INPUT: true; the input reads as it did. -/
def pasteTwiceSpec : ChangeSpec := { name := "pasteTwice", fn := fun _ => fun
  | [d1, d2, d3, d4] => { results := [.lit (.bool true)], args := [d1, d2, d3, d4] }
  | _ => none }
def pasteTwiceRow : OpenClaim := { program := "ytambboomabeioaa", sum := "6b53b81e254617fb9023a455cc171eec96cdfc9b25688decbd81ab2213b0c05d", func := "calamus/calamuslaw24.PasteTwice", spec := "pasteTwice", inPlace := ["internal/bytealg.IndexByteString", "internal/abi.NoEscape", "internal/bytealg.MakeNoZero", "internal/bytealg.IndexString"], unfollowed := true, recurses := true, named := ["internal/bytealg.MaxLen"], apart := false }
def PasteTwiceSaid : Prop := pasteTwiceRow.holds Try.pinned (OpenSpec.ofChange pasteTwiceSpec)

/-- ITS FALSE NEIGHBOUR: 'it returns false'. Refute it at one input. -/
def pasteTwiceWrong : ChangeSpec := { name := "pasteTwice", fn := fun _ => fun
  | [d1, d2, d3, d4] => { results := [.lit (.bool false)], args := [d1, d2, d3, d4] }
  | _ => none }
def PasteTwiceWrongFalsely : Prop := pasteTwiceRow.holds Try.pinned (OpenSpec.ofChange pasteTwiceWrong)

/- THE SECOND FORM. 'bulk': how many values and letters a reading holds, each counted each time it is reached (what is shared counts as often as it is met; a slice's spare places count too). A statement '..UptoSaid' is the law's where the arguments, and the package variables that the reading takes, are together of bulk at most 1048576: NARROWER than '..Said'. Prove '..Said' where nothing that the law and all that it calls make is longer than what came in: it says more and counts as full. Else prove '..UptoSaid'. A law counts once. -/
mutual
def uptoBulk {H : Type} : DataW H → Nat
  | .lit (.string bytes) => bytes.length + 1
  | .lit _ => 1
  | .nil => 1
  | .ptr d => uptoBulk d + 1
  | .slice elems spare => uptoBulkAll elems + uptoBulkAll spare + 1
  | .agg parts => uptoBulkAll parts + 1
  | .iface _ d => uptoBulk d + 1
  | .map entries => uptoBulkEntries entries + 1
  | .held _ => 1
def uptoBulkAll {H : Type} : List (DataW H) → Nat
  | [] => 0
  | d :: r => uptoBulk d + uptoBulkAll r
def uptoBulkEntries {H : Type} : List (Lit × DataW H) → Nat
  | [] => 0
  | x :: r => uptoBulkEntry x + uptoBulkEntries r
def uptoBulkEntry {H : Type} : Lit × DataW H → Nat
  | (.string bytes, d) => bytes.length + uptoBulk d + 1
  | (_, d) => uptoBulk d + 1
 end
def uptoSmall : (H : Type) → List (DataW H) → Bool := fun _ ds => decide (uptoBulkAll ds ≤ 1048576)
def OpenSpec.upto (s : _root_.Go.ChangeSpec) : _root_.Go.OpenSpec := { _root_.Go.OpenSpec.ofChange s with cond := some uptoSmall }

/-- 'calamuslaw24.PastePuts', WHERE WHAT IT READS IS OF BULK AT MOST 1048576: true; the input reads as it did. -/
def pastePutsUptoRow : OpenClaim := { program := "ytambboomabeioaa", sum := "6b53b81e254617fb9023a455cc171eec96cdfc9b25688decbd81ab2213b0c05d", func := "calamus/calamuslaw24.PastePuts", spec := "pastePuts", inPlace := ["internal/bytealg.IndexByteString", "internal/abi.NoEscape", "internal/bytealg.MakeNoZero", "internal/bytealg.IndexString"], unfollowed := true, recurses := true, named := ["internal/bytealg.MaxLen"], apart := false, narrowed := true }
def PastePutsUptoSaid : Prop := pastePutsUptoRow.holds Try.pinned (OpenSpec.upto pastePutsSpec)

/-- 'calamuslaw24.PasteOver', WHERE WHAT IT READS IS OF BULK AT MOST 1048576: true; the input reads as it did. -/
def pasteOverUptoRow : OpenClaim := { program := "ytambboomabeioaa", sum := "6b53b81e254617fb9023a455cc171eec96cdfc9b25688decbd81ab2213b0c05d", func := "calamus/calamuslaw24.PasteOver", spec := "pasteOver", inPlace := ["internal/bytealg.IndexByteString", "internal/abi.NoEscape", "internal/bytealg.MakeNoZero", "internal/bytealg.IndexString"], unfollowed := true, recurses := true, named := ["internal/bytealg.MaxLen"], apart := false, narrowed := true }
def PasteOverUptoSaid : Prop := pasteOverUptoRow.holds Try.pinned (OpenSpec.upto pasteOverSpec)

/-- 'calamuslaw24.PasteLess', WHERE WHAT IT READS IS OF BULK AT MOST 1048576: true; the input reads as it did. -/
def pasteLessUptoRow : OpenClaim := { program := "ytambboomabeioaa", sum := "6b53b81e254617fb9023a455cc171eec96cdfc9b25688decbd81ab2213b0c05d", func := "calamus/calamuslaw24.PasteLess", spec := "pasteLess", inPlace := ["internal/bytealg.IndexByteString", "internal/abi.NoEscape", "internal/bytealg.MakeNoZero", "internal/bytealg.IndexString"], unfollowed := true, recurses := true, named := ["internal/bytealg.MaxLen"], apart := false, narrowed := true }
def PasteLessUptoSaid : Prop := pasteLessUptoRow.holds Try.pinned (OpenSpec.upto pasteLessSpec)

/-- 'calamuslaw24.PasteTwice', WHERE WHAT IT READS IS OF BULK AT MOST 1048576: true; the input reads as it did. -/
def pasteTwiceUptoRow : OpenClaim := { program := "ytambboomabeioaa", sum := "6b53b81e254617fb9023a455cc171eec96cdfc9b25688decbd81ab2213b0c05d", func := "calamus/calamuslaw24.PasteTwice", spec := "pasteTwice", inPlace := ["internal/bytealg.IndexByteString", "internal/abi.NoEscape", "internal/bytealg.MakeNoZero", "internal/bytealg.IndexString"], unfollowed := true, recurses := true, named := ["internal/bytealg.MaxLen"], apart := false, narrowed := true }
def PasteTwiceUptoSaid : Prop := pasteTwiceUptoRow.holds Try.pinned (OpenSpec.upto pasteTwiceSpec)

end Rows
end Go.Proofs.Ytambboomabeioaa
