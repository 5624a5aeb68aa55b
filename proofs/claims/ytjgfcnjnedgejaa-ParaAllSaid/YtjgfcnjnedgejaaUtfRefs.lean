/-
  The document's answers about any bytes, by their places: next, prev, rune, count, offset, cut.
-/
import Derived.Test.YtjgfcnjnedgejaaUtfRef
namespace Go.Proofs.Ytjgfcnjnedgejaa
open Go.RowKit
open Utf
theorem add_succ (a : Addr) (i : Nat) : a.add (i + 1) = { block := a.block, off := a.off + (i + 1) } := rfl
theorem place_get {s : List UInt8} {k : Nat} {x : Int} (h : (places s)[k]? = some x) : 0 ≤ x ∧ x ≤ s.length := by
  cases hd : dec s with
  | none => rw [places_none hd] at h; simp at h
  | some rs =>
    have hk : k < (places s).length := (List.getElem?_eq_some_iff.1 h).1
    rw [places_length hd] at hk
    rw [places_get hd (by omega)] at h
    injection h with h
    have := off_in hd k
    omega
end Go.Proofs.Ytjgfcnjnedgejaa
