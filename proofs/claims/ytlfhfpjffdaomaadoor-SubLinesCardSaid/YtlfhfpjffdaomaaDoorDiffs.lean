/-
  What makes one text of another one, as package change tells it.
-/
import Derived.Test.YtlfhfpjffdaomaaDoorDiff
import Derived.Test.YtlfhfpjffdaomaaDoorInts
import Derived.Deep.RegionHeld3
namespace Go.Proofs.YtlfhfpjffdaomaaDoor
open Go.RowKit
open Utf Chg
theorem tl_data (s : ByteArray) : s.toList = s.data.toList := bs_tl s.data.toList
theorem extract_from (s : ByteArray) (i : Nat) : s.extract i s.size = bs (s.data.toList.drop i) := by
  rw [Lib.extract_eq, List.take_of_length_le (by rw [List.length_drop, data_len]; exact Nat.le_refl _)]
  rfl
theorem extract_to (s : ByteArray) (k : Nat) : s.extract 0 k = bs (s.data.toList.take k) := by
  rw [Lib.extract_eq, List.drop_zero, Nat.sub_zero]
  rfl
theorem gb_low {w w' : World} {r : Nat} (h : w.grownBy w' (some r)) (hr : w.heap.size ≤ r) : Below w.heap.size w w' :=
  ⟨h.os, h.tape, h.output, h.size, fun i hi => h.block i hi (fun e => by injection e with e; omega)⟩
theorem dec_drop {s : List UInt8} {rs : List (List UInt8)} (h : dec s = some rs) (i : Nat) : dec (s.drop (off rs i)) = some (rs.drop i) := by
  obtain ⟨h1, rfl⟩ := dec_some h
  rw [off_drop]
  exact dec_of fun r hr => h1 r (List.mem_of_mem_drop hr)
end Go.Proofs.YtlfhfpjffdaomaaDoor
