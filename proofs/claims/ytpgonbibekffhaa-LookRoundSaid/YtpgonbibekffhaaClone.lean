/-
  A text that is copied is the same text.
-/
import Derived.Test.YtpgonbibekffhaaBase
import Derived.Test.YtpgonbibekffhaaShelf
namespace Go.Proofs.Ytpgonbibekffhaa
open Go.RowKit
end Go.Proofs.Ytpgonbibekffhaa
