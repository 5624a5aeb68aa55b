/-
  What package utf tells of the places of bytes.
-/
import Derived.Test.YtcddbdefdenecaaGreatDoorUtfValid
import Derived.Test.YtcddbdefdenecaaGreatDoorClone
namespace Go.Proofs.YtcddbdefdenecaaGreatDoor
open Go.RowKit
namespace Utf
theorem place_out {s : List UInt8} {x : Int} (h : x < 0 ∨ (s.length : Int) < x) : place s x = false := by
  cases hd : dec s with
  | none => exact place_bad hd x
  | some rs =>
    refine place_no hd fun i _ he => ?_
    have := off_in hd i
    omega
theorem place_valid {s : List UInt8} {x : Nat} (hx : x ≤ s.length) : place s x = (valid s && apart s x) := by
  cases hd : dec s with
  | none => rw [place_bad hd, valid_bad hd]; rfl
  | some rs => rw [valid_ok hd, apart_place hd hx]; rfl
theorem valid_of {s : List UInt8} (h : valid s = true) : ∃ rs, dec s = some rs := by
  cases hd : dec s with
  | none => rw [valid_bad hd] at h; cases h
  | some rs => exact ⟨rs, rfl⟩
theorem place_of {s : List UInt8} {x : Int} (h : place s x = true) : ∃ rs i, dec s = some rs ∧ i ≤ rs.length ∧ x = (off rs i : Int) := by
  cases hd : dec s with
  | none => rw [place_bad hd] at h; cases h
  | some rs =>
    obtain ⟨i, hi, he⟩ := (place_iff hd).1 h
    exact ⟨rs, i, rfl, hi, he.symm⟩
theorem next_not {s : List UInt8} {x : Int} (h : x = s.length ∨ place s x = false) : next s x = -1 := by
  rcases h with rfl | h
  · cases hd : dec s with
    | none => exact next_bad hd _
    | some rs => exact next_end hd
  · exact next_no h
theorem prev_not {s : List UInt8} {x : Int} (h : x = 0 ∨ place s x = false) : prev s x = -1 := by
  rcases h with rfl | h
  · cases hd : dec s with
    | none => exact prev_bad hd _
    | some rs => exact prev_zero hd
  · exact prev_no h
end Utf
end Go.Proofs.YtcddbdefdenecaaGreatDoor
