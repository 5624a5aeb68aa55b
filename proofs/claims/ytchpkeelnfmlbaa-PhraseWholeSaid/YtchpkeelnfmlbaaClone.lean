/-
  A text that is copied is the same text.
-/
import Derived.Test.YtchpkeelnfmlbaaBase
import Derived.Test.YtchpkeelnfmlbaaShelf
namespace Go.Proofs.Ytchpkeelnfmlbaa
open Go.RowKit
end Go.Proofs.Ytchpkeelnfmlbaa
