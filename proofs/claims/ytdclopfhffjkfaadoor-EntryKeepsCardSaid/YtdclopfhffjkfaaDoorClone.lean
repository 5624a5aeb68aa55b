/-
  A text that is copied is the same text.
-/
import Derived.Test.YtdclopfhffjkfaaDoorBase
import Derived.Test.YtdclopfhffjkfaaDoorShelf
namespace Go.Proofs.YtdclopfhffjkfaaDoor
open Go.RowKit
end Go.Proofs.YtdclopfhffjkfaaDoor
