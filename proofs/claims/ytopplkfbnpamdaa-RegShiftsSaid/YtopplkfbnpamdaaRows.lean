/-
  No cell of these rows narrows 'for every input' (looked for: loops, veiled, ifaces, maps, wideKeys, modest, calm, conditions, laid).
  DERIVED. THE GIVEN ROWS OF THIS SEAT. 4 by the template 'for every input the law returns true; each argument reads behind the call as it read before'; 0 by the template 'total and deterministic' (their statements: YtopplkfbnpamdaaTotals.lean).
  GIVEN WITH THE SEED: the statements are not yours to turn. If you find one false, say at which input.
  Laid BY PROGRAM, IN A SANDBOX (cutbox-rows.mjs): the forced cells as the released guide's own fill.sh prints them over the translation 001605f4c70c161a… (all of the seat's roots in one cut). By AI agents, Wed Nov 11 2026. No macro, syntax, notation, axiom, sorry.
-/
import Derived.Test.YtopplkfbnpamdaaChecked
import GoSem.Claim
import GoSem.ClaimJoined
import GoSem.ClaimMapViews
import Derived.JoinedTies
import Derived.KernelRfl
namespace Go.Proofs.Ytopplkfbnpamdaa
/- THE CELL 'sum', in the pinned program and in every row, IS THE sha256 OF THE DUMP (.gsa) THAT YtopplkfbnpamdaaProg.lean LOADS. Nothing in Lean hashes anything: it is a label: what it is worth is what the hold of that sum in a sandbox is worth. -/
noncomputable def Try.pinned : Pinned := { name := "ytopplkfbnpamdaa", sum := "001605f4c70c161a8ae9638bd4eae2db410a3396e0fa9c151a7fa2761440ecca", checked := Try.checked }
namespace Rows
def none {H : Type} : Left H := { results := [], args := [] }

/-- 'calamuslaw21.RegKeeps': WHATEVER THE INPUT: true; the input reads as it did. -/
def regKeepsSpec : ChangeSpec := { name := "regKeeps", fn := fun _ => fun
  | [d1, d2, d3, d4] => { results := [.lit (.bool true)], args := [d1, d2, d3, d4] }
  | _ => none }
def regKeepsRow : OpenClaim := { program := "ytopplkfbnpamdaa", sum := "001605f4c70c161a8ae9638bd4eae2db410a3396e0fa9c151a7fa2761440ecca", func := "calamus/calamuslaw21.RegKeeps", spec := "regKeeps", inPlace := ["slices.overlaps[calamus/api.Reg]", "internal/bytealg.IndexByteString", "internal/bytealg.IndexString"], unfollowed := true, recurses := true, named := ["internal/bytealg.MaxLen"], apart := false }
def RegKeepsSaid : Prop := regKeepsRow.holds Try.pinned (OpenSpec.ofChange regKeepsSpec)

/-- ITS FALSE NEIGHBOUR: 'it returns false'. Refute it at one input. -/
def regKeepsWrong : ChangeSpec := { name := "regKeeps", fn := fun _ => fun
  | [d1, d2, d3, d4] => { results := [.lit (.bool false)], args := [d1, d2, d3, d4] }
  | _ => none }
def RegKeepsWrongFalsely : Prop := regKeepsRow.holds Try.pinned (OpenSpec.ofChange regKeepsWrong)

/-- 'calamuslaw21.RegGets': WHATEVER THE INPUT: true; the input reads as it did. -/
def regGetsSpec : ChangeSpec := { name := "regGets", fn := fun _ => fun
  | [d1, d2] => { results := [.lit (.bool true)], args := [d1, d2] }
  | _ => none }
def regGetsRow : OpenClaim := { program := "ytopplkfbnpamdaa", sum := "001605f4c70c161a8ae9638bd4eae2db410a3396e0fa9c151a7fa2761440ecca", func := "calamus/calamuslaw21.RegGets", spec := "regGets", inPlace := ["slices.overlaps[calamus/api.Reg]"], unfollowed := true, recurses := true, apart := false }
def RegGetsSaid : Prop := regGetsRow.holds Try.pinned (OpenSpec.ofChange regGetsSpec)

/-- ITS FALSE NEIGHBOUR: 'it returns false'. Refute it at one input. -/
def regGetsWrong : ChangeSpec := { name := "regGets", fn := fun _ => fun
  | [d1, d2] => { results := [.lit (.bool false)], args := [d1, d2] }
  | _ => none }
def RegGetsWrongFalsely : Prop := regGetsRow.holds Try.pinned (OpenSpec.ofChange regGetsWrong)

/-- 'calamuslaw21.RegHolds': WHATEVER THE INPUT: true; the input reads as it did. -/
def regHoldsSpec : ChangeSpec := { name := "regHolds", fn := fun _ => fun
  | [d1, d2, d3, d4, d5] => { results := [.lit (.bool true)], args := [d1, d2, d3, d4, d5] }
  | _ => none }
def regHoldsRow : OpenClaim := { program := "ytopplkfbnpamdaa", sum := "001605f4c70c161a8ae9638bd4eae2db410a3396e0fa9c151a7fa2761440ecca", func := "calamus/calamuslaw21.RegHolds", spec := "regHolds", inPlace := ["slices.overlaps[calamus/api.Reg]"], unfollowed := true, recurses := true, apart := false }
def RegHoldsSaid : Prop := regHoldsRow.holds Try.pinned (OpenSpec.ofChange regHoldsSpec)

/-- ITS FALSE NEIGHBOUR: 'it returns false'. Refute it at one input. -/
def regHoldsWrong : ChangeSpec := { name := "regHolds", fn := fun _ => fun
  | [d1, d2, d3, d4, d5] => { results := [.lit (.bool false)], args := [d1, d2, d3, d4, d5] }
  | _ => none }
def RegHoldsWrongFalsely : Prop := regHoldsRow.holds Try.pinned (OpenSpec.ofChange regHoldsWrong)

/-- 'calamuslaw21.RegShifts': WHATEVER THE INPUT: true; the input reads as it did. -/
def regShiftsSpec : ChangeSpec := { name := "regShifts", fn := fun _ => fun
  | [d1, d2] => { results := [.lit (.bool true)], args := [d1, d2] }
  | _ => none }
def regShiftsRow : OpenClaim := { program := "ytopplkfbnpamdaa", sum := "001605f4c70c161a8ae9638bd4eae2db410a3396e0fa9c151a7fa2761440ecca", func := "calamus/calamuslaw21.RegShifts", spec := "regShifts", inPlace := ["slices.overlaps[calamus/api.Reg]", "internal/bytealg.IndexByteString", "internal/bytealg.IndexString"], unfollowed := true, recurses := true, named := ["internal/bytealg.MaxLen"], apart := false }
def RegShiftsSaid : Prop := regShiftsRow.holds Try.pinned (OpenSpec.ofChange regShiftsSpec)

/-- ITS FALSE NEIGHBOUR: 'it returns false'. Refute it at one input. -/
def regShiftsWrong : ChangeSpec := { name := "regShifts", fn := fun _ => fun
  | [d1, d2] => { results := [.lit (.bool false)], args := [d1, d2] }
  | _ => none }
def RegShiftsWrongFalsely : Prop := regShiftsRow.holds Try.pinned (OpenSpec.ofChange regShiftsWrong)

/- THE SECOND FORM. 'bulk': how many values and letters a reading holds, each counted each time it is reached (what is shared counts as often as it is met; a slice's spare places count too). A statement '..UptoSaid' is the law's where the arguments, and the package variables that the reading takes, are together of bulk at most 1048576: NARROWER than '..Said'. Prove '..Said' where nothing that the law and all that it calls make is longer than what came in: it says more and counts as full. Else prove '..UptoSaid'. A law counts once. -/
mutual
def uptoBulk {H : Type} : DataW H → Nat
  | .lit (.string bytes) => bytes.length + 1
  | .lit _ => 1
  | .nil => 1
  | .ptr d => uptoBulk d + 1
  | .slice elems spare => uptoBulkAll elems + uptoBulkAll spare + 1
  | .agg parts => uptoBulkAll parts + 1
  | .iface _ d => uptoBulk d + 1
  | .map entries => uptoBulkEntries entries + 1
  | .held _ => 1
def uptoBulkAll {H : Type} : List (DataW H) → Nat
  | [] => 0
  | d :: r => uptoBulk d + uptoBulkAll r
def uptoBulkEntries {H : Type} : List (Lit × DataW H) → Nat
  | [] => 0
  | x :: r => uptoBulkEntry x + uptoBulkEntries r
def uptoBulkEntry {H : Type} : Lit × DataW H → Nat
  | (.string bytes, d) => bytes.length + uptoBulk d + 1
  | (_, d) => uptoBulk d + 1
 end
def uptoSmall : (H : Type) → List (DataW H) → Bool := fun _ ds => decide (uptoBulkAll ds ≤ 1048576)
def OpenSpec.upto (s : _root_.Go.ChangeSpec) : _root_.Go.OpenSpec := { _root_.Go.OpenSpec.ofChange s with cond := some uptoSmall }

/-- 'calamuslaw21.RegKeeps', WHERE WHAT IT READS IS OF BULK AT MOST 1048576: true; the input reads as it did. -/
def regKeepsUptoRow : OpenClaim := { program := "ytopplkfbnpamdaa", sum := "001605f4c70c161a8ae9638bd4eae2db410a3396e0fa9c151a7fa2761440ecca", func := "calamus/calamuslaw21.RegKeeps", spec := "regKeeps", inPlace := ["slices.overlaps[calamus/api.Reg]", "internal/bytealg.IndexByteString", "internal/bytealg.IndexString"], unfollowed := true, recurses := true, named := ["internal/bytealg.MaxLen"], apart := false, narrowed := true }
def RegKeepsUptoSaid : Prop := regKeepsUptoRow.holds Try.pinned (OpenSpec.upto regKeepsSpec)

/-- 'calamuslaw21.RegGets', WHERE WHAT IT READS IS OF BULK AT MOST 1048576: true; the input reads as it did. -/
def regGetsUptoRow : OpenClaim := { program := "ytopplkfbnpamdaa", sum := "001605f4c70c161a8ae9638bd4eae2db410a3396e0fa9c151a7fa2761440ecca", func := "calamus/calamuslaw21.RegGets", spec := "regGets", inPlace := ["slices.overlaps[calamus/api.Reg]"], unfollowed := true, recurses := true, apart := false, narrowed := true }
def RegGetsUptoSaid : Prop := regGetsUptoRow.holds Try.pinned (OpenSpec.upto regGetsSpec)

/-- 'calamuslaw21.RegHolds', WHERE WHAT IT READS IS OF BULK AT MOST 1048576: true; the input reads as it did. -/
def regHoldsUptoRow : OpenClaim := { program := "ytopplkfbnpamdaa", sum := "001605f4c70c161a8ae9638bd4eae2db410a3396e0fa9c151a7fa2761440ecca", func := "calamus/calamuslaw21.RegHolds", spec := "regHolds", inPlace := ["slices.overlaps[calamus/api.Reg]"], unfollowed := true, recurses := true, apart := false, narrowed := true }
def RegHoldsUptoSaid : Prop := regHoldsUptoRow.holds Try.pinned (OpenSpec.upto regHoldsSpec)

/-- 'calamuslaw21.RegShifts', WHERE WHAT IT READS IS OF BULK AT MOST 1048576: true; the input reads as it did. -/
def regShiftsUptoRow : OpenClaim := { program := "ytopplkfbnpamdaa", sum := "001605f4c70c161a8ae9638bd4eae2db410a3396e0fa9c151a7fa2761440ecca", func := "calamus/calamuslaw21.RegShifts", spec := "regShifts", inPlace := ["slices.overlaps[calamus/api.Reg]", "internal/bytealg.IndexByteString", "internal/bytealg.IndexString"], unfollowed := true, recurses := true, named := ["internal/bytealg.MaxLen"], apart := false, narrowed := true }
def RegShiftsUptoSaid : Prop := regShiftsUptoRow.holds Try.pinned (OpenSpec.upto regShiftsSpec)

end Rows
end Go.Proofs.Ytopplkfbnpamdaa
