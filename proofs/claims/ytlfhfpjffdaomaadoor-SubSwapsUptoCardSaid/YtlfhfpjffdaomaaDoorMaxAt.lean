/-
  What the library's strings.Index reads of the world: how long a text it looks for at once.
-/
import Derived.Test.YtlfhfpjffdaomaaDoorBase
namespace Go.Proofs.YtlfhfpjffdaomaaDoor
open Go.RowKit
/-- The library's variable that says how long a text it looks for at once holds some number. -/
def MaxAt (w : World) : Prop := ∃ m, w.cell? ⟨0, 0, none⟩ = some (.int .i64 m)
theorem MaxAt.lt {w : World} (h : MaxAt w) : 0 < w.heap.size := by
  obtain ⟨m, h⟩ := h
  rcases Nat.lt_or_ge 0 w.heap.size with hlt | hge
  · exact hlt
  · simp only [World.cell?] at h
    rw [Array.getElem?_eq_none hge] at h
    cases h
theorem MaxAt.below {w w' : World} (h : MaxAt w) (hb : Below w.heap.size w w') : MaxAt w' := by
  obtain ⟨m, hm⟩ := h
  exact ⟨m, (hb.cell (p := ⟨0, 0, none⟩) (MaxAt.lt ⟨m, hm⟩)).trans hm⟩
end Go.Proofs.YtlfhfpjffdaomaaDoor
