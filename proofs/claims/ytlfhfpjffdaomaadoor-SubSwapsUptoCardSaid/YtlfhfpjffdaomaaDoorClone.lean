/-
  A text that is copied is the same text.
-/
import Derived.Test.YtlfhfpjffdaomaaDoorBase
import Derived.Test.YtlfhfpjffdaomaaDoorShelf
namespace Go.Proofs.YtlfhfpjffdaomaaDoor
open Go.RowKit
end Go.Proofs.YtlfhfpjffdaomaaDoor
