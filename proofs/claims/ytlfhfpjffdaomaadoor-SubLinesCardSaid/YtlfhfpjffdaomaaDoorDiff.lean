/-
  What package change tells of the beginnings and ends of two texts, and what makes one of the other.
-/
import Derived.Test.YtlfhfpjffdaomaaDoorChange
import Derived.Test.YtlfhfpjffdaomaaDoorUtfCounts
namespace Go.Proofs.YtlfhfpjffdaomaaDoor
open Go.RowKit
open Utf Chg
theorem byte_eq {a b : ByteArray} {i j : Nat} (hi : i < a.size) (hj : j < b.size) : ((a[i].toNat : Int) == (b[j].toNat : Int)) = (a[i] == b[j]) := by
  apply Bool.eq_iff_iff.2
  simp only [beq_iff_eq]
  constructor
  · intro h
    exact UInt8.toNat_inj.1 (by omega)
  · intro h
    rw [h]
end Go.Proofs.YtlfhfpjffdaomaaDoor
