/-
  A text that is copied is the same text.
-/
import Derived.Test.YtfhljddakhigdaaGreatDoorBase
import Derived.Test.YtfhljddakhigdaaGreatDoorShelf
namespace Go.Proofs.YtfhljddakhigdaaGreatDoor
open Go.RowKit
end Go.Proofs.YtfhljddakhigdaaGreatDoor
