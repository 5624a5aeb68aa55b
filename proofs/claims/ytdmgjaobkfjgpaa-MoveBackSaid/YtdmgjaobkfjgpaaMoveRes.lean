/-
  The answer of a motion, and small things.
-/
import Derived.Test.YtdmgjaobkfjgpaaMoveFrom
namespace Go.Proofs.Ytdmgjaobkfjgpaa
open Go.RowKit
theorem wrap_id {x : Int} (h1 : -9223372036854775808 ≤ x) (h2 : x ≤ 9223372036854775807) : IntKind.i64.wrap x = x := by rw [IntKind.wrap_i64]; omega
/-- The answer that leads to v. -/
def Move.res (v : Int) : Value := if v < 0 then .tuple #[.int .i64 0, .bool false] else .tuple #[.int .i64 v, .bool true]
theorem Move.res_no {v : Int} (h : v < 0) : Move.res v = .tuple #[.int .i64 0, .bool false] := if_pos h
theorem Move.res_at {v : Int} (h : 0 ≤ v) : Move.res v = .tuple #[.int .i64 v, .bool true] := if_neg (by omega)
theorem Move.tl_data (s : ByteArray) : s.toList = s.data.toList := by have := bs_tl s.data.toList; rwa [bs_data] at this
end Go.Proofs.Ytdmgjaobkfjgpaa
