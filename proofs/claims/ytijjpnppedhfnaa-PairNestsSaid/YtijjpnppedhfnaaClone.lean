/-
  A text that is copied is the same text.
-/
import Derived.Test.YtijjpnppedhfnaaBase
import Derived.Test.YtijjpnppedhfnaaShelf
namespace Go.Proofs.Ytijjpnppedhfnaa
open Go.RowKit
end Go.Proofs.Ytijjpnppedhfnaa
