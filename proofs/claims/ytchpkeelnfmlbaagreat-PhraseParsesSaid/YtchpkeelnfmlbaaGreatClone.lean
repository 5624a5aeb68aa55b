/-
  A text that is copied is the same text.
-/
import Derived.Test.YtchpkeelnfmlbaaGreatBase
import Derived.Test.YtchpkeelnfmlbaaGreatShelf
namespace Go.Proofs.YtchpkeelnfmlbaaGreat
open Go.RowKit
end Go.Proofs.YtchpkeelnfmlbaaGreat
