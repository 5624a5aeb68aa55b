/-
  The document's answers about lines: columns, places of columns, normal places, first signs.
-/
import Derived.Test.YtjgfcnjnedgejaaLineRefs
namespace Go.Proofs.Ytjgfcnjnedgejaa
open Go.RowKit
end Go.Proofs.Ytjgfcnjnedgejaa
