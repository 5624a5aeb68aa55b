/-
  A text that is copied is the same text.
-/
import Derived.Test.YtambboomabeioaaBase
import Derived.Test.YtambboomabeioaaShelf
namespace Go.Proofs.Ytambboomabeioaa
open Go.RowKit
theorem str_clone (s : ByteArray) (w : World) (hs : s.size ≤ 281474976710656) :
    Calls Try.prog 49 #[.string s] w fun e w' => e = .returned (.string s) ∧ Below w.heap.size w w' := by
  go_enter Try.func49, Try.ntmps49
  go_wp2_with (go_at_call 80; refine (Try.stringslite_Clone _ _ hs).mono ?_; rintro e w1 ⟨rfl, hb⟩)
  go_ret
  exact ⟨rfl, hb⟩
end Go.Proofs.Ytambboomabeioaa
