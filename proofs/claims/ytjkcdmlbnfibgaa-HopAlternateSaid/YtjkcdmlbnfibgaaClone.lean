/-
  A text that is copied is the same text.
-/
import Derived.Test.YtjkcdmlbnfibgaaBase
import Derived.Test.YtjkcdmlbnfibgaaShelf
namespace Go.Proofs.Ytjkcdmlbnfibgaa
open Go.RowKit
end Go.Proofs.Ytjkcdmlbnfibgaa
