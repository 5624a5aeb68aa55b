/-
  No cell of these rows narrows 'for every input' (looked for: loops, veiled, ifaces, maps, wideKeys, modest, calm, conditions, laid).
  DERIVED. THE GIVEN ROWS OF THIS SEAT. 4 by the template 'for every input the law returns true; each argument reads behind the call as it read before'; 0 by the template 'total and deterministic' (their statements: YtgfafhbkmpgbjaaTotals.lean).
  GIVEN WITH THE SEED: the statements are not yours to turn. If you find one false, say at which input.
  Laid BY PROGRAM, IN A SANDBOX (cutbox-rows.mjs): the forced cells as the released guide's own fill.sh prints them over the translation 5a895c3acd459b84… (all of the seat's roots in one cut). By AI agents, Wed Nov 11 2026. No macro, syntax, notation, axiom, sorry.
-/
import Derived.Test.YtgfafhbkmpgbjaaChecked
import GoSem.Claim
import GoSem.ClaimJoined
import GoSem.ClaimMapViews
import Derived.JoinedTies
import Derived.KernelRfl
namespace Go.Proofs.Ytgfafhbkmpgbjaa
/- THE CELL 'sum', in the pinned program and in every row, IS THE sha256 OF THE DUMP (.gsa) THAT YtgfafhbkmpgbjaaProg.lean LOADS. Nothing in Lean hashes anything: it is a label: what it is worth is what the hold of that sum in a sandbox is worth. -/
noncomputable def Try.pinned : Pinned := { name := "ytgfafhbkmpgbjaa", sum := "5a895c3acd459b84d7844bfc56e92797eacf3b18e8d025f0b7ef48493db923b9", checked := Try.checked }
namespace Rows
def none {H : Type} : Left H := { results := [], args := [] }

/-- 'calamuslaw05.ClassRunes': WHATEVER THE INPUT: true; the input reads as it did. -/
def classRunesSpec : ChangeSpec := { name := "classRunes", fn := fun _ => fun
  | [d1, d2] => { results := [.lit (.bool true)], args := [d1, d2] }
  | _ => none }
def classRunesRow : OpenClaim := { program := "ytgfafhbkmpgbjaa", sum := "5a895c3acd459b84d7844bfc56e92797eacf3b18e8d025f0b7ef48493db923b9", func := "calamus/calamuslaw05.ClassRunes", spec := "classRunes", unfollowed := true, recurses := true, apart := false }
def ClassRunesSaid : Prop := classRunesRow.holds Try.pinned (OpenSpec.ofChange classRunesSpec)

/-- ITS FALSE NEIGHBOUR: 'it returns false'. Refute it at one input. -/
def classRunesWrong : ChangeSpec := { name := "classRunes", fn := fun _ => fun
  | [d1, d2] => { results := [.lit (.bool false)], args := [d1, d2] }
  | _ => none }
def ClassRunesWrongFalsely : Prop := classRunesRow.holds Try.pinned (OpenSpec.ofChange classRunesWrong)

/-- 'calamuslaw05.ClassLetters': WHATEVER THE INPUT: true; the input reads as it did. -/
def classLettersSpec : ChangeSpec := { name := "classLetters", fn := fun _ => fun
  | [d] => { results := [.lit (.bool true)], args := [d] }
  | _ => none }
def classLettersRow : OpenClaim := { program := "ytgfafhbkmpgbjaa", sum := "5a895c3acd459b84d7844bfc56e92797eacf3b18e8d025f0b7ef48493db923b9", func := "calamus/calamuslaw05.ClassLetters", spec := "classLetters", unfollowed := true, recurses := true, apart := false }
def ClassLettersSaid : Prop := classLettersRow.holds Try.pinned (OpenSpec.ofChange classLettersSpec)

/-- ITS FALSE NEIGHBOUR: 'it returns false'. Refute it at one input. -/
def classLettersWrong : ChangeSpec := { name := "classLetters", fn := fun _ => fun
  | [d] => { results := [.lit (.bool false)], args := [d] }
  | _ => none }
def ClassLettersWrongFalsely : Prop := classLettersRow.holds Try.pinned (OpenSpec.ofChange classLettersWrong)

/-- 'calamuslaw05.ClassWhole': WHATEVER THE INPUT: true; the input reads as it did. -/
def classWholeSpec : ChangeSpec := { name := "classWhole", fn := fun _ => fun
  | [d1, d2, d3] => { results := [.lit (.bool true)], args := [d1, d2, d3] }
  | _ => none }
def classWholeRow : OpenClaim := { program := "ytgfafhbkmpgbjaa", sum := "5a895c3acd459b84d7844bfc56e92797eacf3b18e8d025f0b7ef48493db923b9", func := "calamus/calamuslaw05.ClassWhole", spec := "classWhole", inPlace := ["internal/bytealg.IndexByteString"], unfollowed := true, recurses := true, apart := false }
def ClassWholeSaid : Prop := classWholeRow.holds Try.pinned (OpenSpec.ofChange classWholeSpec)

/-- ITS FALSE NEIGHBOUR: 'it returns false'. Refute it at one input. -/
def classWholeWrong : ChangeSpec := { name := "classWhole", fn := fun _ => fun
  | [d1, d2, d3] => { results := [.lit (.bool false)], args := [d1, d2, d3] }
  | _ => none }
def ClassWholeWrongFalsely : Prop := classWholeRow.holds Try.pinned (OpenSpec.ofChange classWholeWrong)

/-- 'calamuslaw05.ClassFlips': WHATEVER THE INPUT: true; the input reads as it did. -/
def classFlipsSpec : ChangeSpec := { name := "classFlips", fn := fun _ => fun
  | [d] => { results := [.lit (.bool true)], args := [d] }
  | _ => none }
def classFlipsRow : OpenClaim := { program := "ytgfafhbkmpgbjaa", sum := "5a895c3acd459b84d7844bfc56e92797eacf3b18e8d025f0b7ef48493db923b9", func := "calamus/calamuslaw05.ClassFlips", spec := "classFlips", unfollowed := true, recurses := true, apart := false }
def ClassFlipsSaid : Prop := classFlipsRow.holds Try.pinned (OpenSpec.ofChange classFlipsSpec)

/-- ITS FALSE NEIGHBOUR: 'it returns false'. Refute it at one input. -/
def classFlipsWrong : ChangeSpec := { name := "classFlips", fn := fun _ => fun
  | [d] => { results := [.lit (.bool false)], args := [d] }
  | _ => none }
def ClassFlipsWrongFalsely : Prop := classFlipsRow.holds Try.pinned (OpenSpec.ofChange classFlipsWrong)

/- THE SECOND FORM. 'bulk': how many values and letters a reading holds, each counted each time it is reached (what is shared counts as often as it is met; a slice's spare places count too). A statement '..UptoSaid' is the law's where the arguments, and the package variables that the reading takes, are together of bulk at most 1048576: NARROWER than '..Said'. Prove '..Said' where nothing that the law and all that it calls make is longer than what came in: it says more and counts as full. Else prove '..UptoSaid'. A law counts once. -/
mutual
def uptoBulk {H : Type} : DataW H → Nat
  | .lit (.string bytes) => bytes.length + 1
  | .lit _ => 1
  | .nil => 1
  | .ptr d => uptoBulk d + 1
  | .slice elems spare => uptoBulkAll elems + uptoBulkAll spare + 1
  | .agg parts => uptoBulkAll parts + 1
  | .iface _ d => uptoBulk d + 1
  | .map entries => uptoBulkEntries entries + 1
  | .held _ => 1
def uptoBulkAll {H : Type} : List (DataW H) → Nat
  | [] => 0
  | d :: r => uptoBulk d + uptoBulkAll r
def uptoBulkEntries {H : Type} : List (Lit × DataW H) → Nat
  | [] => 0
  | x :: r => uptoBulkEntry x + uptoBulkEntries r
def uptoBulkEntry {H : Type} : Lit × DataW H → Nat
  | (.string bytes, d) => bytes.length + uptoBulk d + 1
  | (_, d) => uptoBulk d + 1
 end
def uptoSmall : (H : Type) → List (DataW H) → Bool := fun _ ds => decide (uptoBulkAll ds ≤ 1048576)
def OpenSpec.upto (s : _root_.Go.ChangeSpec) : _root_.Go.OpenSpec := { _root_.Go.OpenSpec.ofChange s with cond := some uptoSmall }

/-- 'calamuslaw05.ClassRunes', WHERE WHAT IT READS IS OF BULK AT MOST 1048576: true; the input reads as it did. -/
def classRunesUptoRow : OpenClaim := { program := "ytgfafhbkmpgbjaa", sum := "5a895c3acd459b84d7844bfc56e92797eacf3b18e8d025f0b7ef48493db923b9", func := "calamus/calamuslaw05.ClassRunes", spec := "classRunes", unfollowed := true, recurses := true, apart := false, narrowed := true }
def ClassRunesUptoSaid : Prop := classRunesUptoRow.holds Try.pinned (OpenSpec.upto classRunesSpec)

/-- 'calamuslaw05.ClassLetters', WHERE WHAT IT READS IS OF BULK AT MOST 1048576: true; the input reads as it did. -/
def classLettersUptoRow : OpenClaim := { program := "ytgfafhbkmpgbjaa", sum := "5a895c3acd459b84d7844bfc56e92797eacf3b18e8d025f0b7ef48493db923b9", func := "calamus/calamuslaw05.ClassLetters", spec := "classLetters", unfollowed := true, recurses := true, apart := false, narrowed := true }
def ClassLettersUptoSaid : Prop := classLettersUptoRow.holds Try.pinned (OpenSpec.upto classLettersSpec)

/-- 'calamuslaw05.ClassWhole', WHERE WHAT IT READS IS OF BULK AT MOST 1048576: true; the input reads as it did. -/
def classWholeUptoRow : OpenClaim := { program := "ytgfafhbkmpgbjaa", sum := "5a895c3acd459b84d7844bfc56e92797eacf3b18e8d025f0b7ef48493db923b9", func := "calamus/calamuslaw05.ClassWhole", spec := "classWhole", inPlace := ["internal/bytealg.IndexByteString"], unfollowed := true, recurses := true, apart := false, narrowed := true }
def ClassWholeUptoSaid : Prop := classWholeUptoRow.holds Try.pinned (OpenSpec.upto classWholeSpec)

/-- 'calamuslaw05.ClassFlips', WHERE WHAT IT READS IS OF BULK AT MOST 1048576: true; the input reads as it did. -/
def classFlipsUptoRow : OpenClaim := { program := "ytgfafhbkmpgbjaa", sum := "5a895c3acd459b84d7844bfc56e92797eacf3b18e8d025f0b7ef48493db923b9", func := "calamus/calamuslaw05.ClassFlips", spec := "classFlips", unfollowed := true, recurses := true, apart := false, narrowed := true }
def ClassFlipsUptoSaid : Prop := classFlipsUptoRow.holds Try.pinned (OpenSpec.upto classFlipsSpec)

end Rows
end Go.Proofs.Ytgfafhbkmpgbjaa
