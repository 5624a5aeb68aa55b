/-
  The document's answers about lines: columns, places of columns, normal places, first signs.
-/
import Derived.Test.YtnelhhijihmpbaaLineRefs
namespace Go.Proofs.Ytnelhhijihmpbaa
open Go.RowKit
end Go.Proofs.Ytnelhhijihmpbaa
