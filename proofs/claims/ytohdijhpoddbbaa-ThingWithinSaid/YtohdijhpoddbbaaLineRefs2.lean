/-
  The document's answers about lines: columns, places of columns, normal places, first signs.
-/
import Derived.Test.YtohdijhpoddbbaaLineRefs
namespace Go.Proofs.Ytohdijhpoddbbaa
open Go.RowKit
end Go.Proofs.Ytohdijhpoddbbaa
