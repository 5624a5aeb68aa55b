/-
  A text that is copied is the same text.
-/
import Derived.Test.YtaldnhokclofnaaBase
import Derived.Test.YtaldnhokclofnaaShelf
namespace Go.Proofs.Ytaldnhokclofnaa
open Go.RowKit
end Go.Proofs.Ytaldnhokclofnaa
