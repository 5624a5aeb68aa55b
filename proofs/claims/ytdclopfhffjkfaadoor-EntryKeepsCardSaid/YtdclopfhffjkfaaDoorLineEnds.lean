/-
  Package line: where line k begins and ends.
-/
import Derived.Test.YtdclopfhffjkfaaDoorLineCount
namespace Go.Proofs.YtdclopfhffjkfaaDoor
open Go.RowKit Go.Shelf
attribute [local go_sem] Oper.semAt_some
theorem putObj_boxed {W : World} {B D : Nat} {t : TypeId} {v : Value} {o o' : Obj} (h : Boxed W B t v) (hD : W.heap[D]? = some o) (ho : o.isCells = false) : Boxed (W.putObj D o') B t v :=
  boxed_abide h (grownBy_putObj' W D o') (fun r e => by cases e; exact ⟨o, hD, ho⟩)
theorem Line.line_not {s : List UInt8} {k : Int} (h : ∀ j : Nat, j < (L s).length → (j : Int) ≠ k) : line s k = none := by
  by_cases h0 : k < 0
  · exact line_low h0
  · refine line_past ?_
    by_cases h1 : k < ((L s).length : Int)
    · exact absurd (show ((k.toNat : Nat) : Int) = k by omega) (h k.toNat (by omega))
    · omega
theorem Line.line_pre {s : List UInt8} {k : Int} {pre : List (Nat × Nat)} {x : Nat × Nat} (h : pre ++ [x] <+: L s) (hk : (pre.length : Int) = k) : line s k = some x := by
  obtain ⟨r, hr⟩ := h
  subst hk
  rw [line_nat, ← hr]
  simp
end Go.Proofs.YtdclopfhffjkfaaDoor
