/-
  A text that is copied is the same text.
-/
import Derived.Test.YtjgfcnjnedgejaaBase
import Derived.Test.YtjgfcnjnedgejaaShelf
namespace Go.Proofs.Ytjgfcnjnedgejaa
open Go.RowKit
end Go.Proofs.Ytjgfcnjnedgejaa
