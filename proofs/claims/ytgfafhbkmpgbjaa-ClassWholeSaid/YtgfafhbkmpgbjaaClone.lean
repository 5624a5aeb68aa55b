/-
  A text that is copied is the same text.
-/
import Derived.Test.YtgfafhbkmpgbjaaBase
import Derived.Test.YtgfafhbkmpgbjaaShelf
namespace Go.Proofs.Ytgfafhbkmpgbjaa
open Go.RowKit
end Go.Proofs.Ytgfafhbkmpgbjaa
