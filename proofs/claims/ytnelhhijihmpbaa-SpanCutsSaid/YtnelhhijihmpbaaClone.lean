/-
  A text that is copied is the same text.
-/
import Derived.Test.YtnelhhijihmpbaaBase
import Derived.Test.YtnelhhijihmpbaaShelf
namespace Go.Proofs.Ytnelhhijihmpbaa
open Go.RowKit
end Go.Proofs.Ytnelhhijihmpbaa
