/-
  The document's answers about lines: columns, places of columns, normal places, first signs.
-/
import Derived.Test.YtkhihmkpmlokiaaLineRefs
namespace Go.Proofs.Ytkhihmkpmlokiaa
open Go.RowKit
end Go.Proofs.Ytkhihmkpmlokiaa
