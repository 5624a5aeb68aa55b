/-
  A text that is copied is the same text.
-/
import Derived.Test.YtdmgjaobkfjgpaaBase
import Derived.Test.YtdmgjaobkfjgpaaShelf
namespace Go.Proofs.Ytdmgjaobkfjgpaa
open Go.RowKit
end Go.Proofs.Ytdmgjaobkfjgpaa
