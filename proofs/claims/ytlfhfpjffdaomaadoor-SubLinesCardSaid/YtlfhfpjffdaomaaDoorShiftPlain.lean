/-
  Where a place goes by one change, without a program.
-/
import Derived.Test.YtlfhfpjffdaomaaDoorBase
namespace Go.Proofs.YtlfhfpjffdaomaaDoor
namespace Chg
/-- Where a place goes by one change. -/
def shift (p i : Int) (o n : Nat) : Int := if p < i then p else if p < i + o then i else p + ((n : Int) - o)
end Chg
end Go.Proofs.YtlfhfpjffdaomaaDoor
