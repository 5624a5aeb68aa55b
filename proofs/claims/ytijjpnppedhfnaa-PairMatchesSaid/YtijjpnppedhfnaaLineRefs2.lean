/-
  The document's answers about lines: columns, places of columns, normal places, first signs.
-/
import Derived.Test.YtijjpnppedhfnaaLineRefs
namespace Go.Proofs.Ytijjpnppedhfnaa
open Go.RowKit
end Go.Proofs.Ytijjpnppedhfnaa
