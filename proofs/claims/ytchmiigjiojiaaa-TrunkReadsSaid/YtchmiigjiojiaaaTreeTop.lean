/-
  Trees the same, and a new tree: the program's answers.
-/
import Derived.Test.YtchmiigjiojiaaaTreeSame
namespace Go.Proofs.Ytchmiigjiojiaaa
open Go.RowKit
open Tre
namespace Tre
def root : Nd := ⟨-1, -1, 0, 0, 0, { data := #[] }, { data := #[] }⟩
end Tre
/-- One node, as a block holds it. -/
theorem nds_one {w : World} {g : Nat} {t : TypeId} {x : Nd} (h : Blk w g t x.vals) : Nds w (some ⟨g, 0, none⟩) [x] := fun _ => by
  refine ⟨g, 0, rfl, h.lt, fun j k hj => ?_⟩
  match j, hj with
  | 0, hj =>
    simp only [List.getElem?_cons_zero, Option.some.injEq] at hj
    subst hj
    exact ⟨h.cell 0, h.cell 1, h.cell 2, h.cell 3, h.cell 4, h.cell 5, h.cell 6⟩
end Go.Proofs.Ytchmiigjiojiaaa
