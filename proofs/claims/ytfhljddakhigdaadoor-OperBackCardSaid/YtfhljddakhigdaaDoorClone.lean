/-
  A text that is copied is the same text.
-/
import Derived.Test.YtfhljddakhigdaaDoorBase
import Derived.Test.YtfhljddakhigdaaDoorShelf
namespace Go.Proofs.YtfhljddakhigdaaDoor
open Go.RowKit
end Go.Proofs.YtfhljddakhigdaaDoor
