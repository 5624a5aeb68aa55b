/-
  A text that is copied is the same text.
-/
import Derived.Test.YtpepdpcddcbfoaaBase
import Derived.Test.YtpepdpcddcbfoaaShelf
namespace Go.Proofs.Ytpepdpcddcbfoaa
open Go.RowKit
end Go.Proofs.Ytpepdpcddcbfoaa
