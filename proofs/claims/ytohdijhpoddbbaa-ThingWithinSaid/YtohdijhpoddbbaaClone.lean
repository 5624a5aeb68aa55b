/-
  A text that is copied is the same text.
-/
import Derived.Test.YtohdijhpoddbbaaBase
import Derived.Test.YtohdijhpoddbbaaShelf
namespace Go.Proofs.Ytohdijhpoddbbaa
open Go.RowKit
end Go.Proofs.Ytohdijhpoddbbaa
