/-
  A text that is copied is the same text.
-/
import Derived.Test.YtjhdgbdnbfieiaaBase
import Derived.Test.YtjhdgbdnbfieiaaShelf
namespace Go.Proofs.Ytjhdgbdnbfieiaa
open Go.RowKit
theorem str_clone (s : ByteArray) (w : World) (hs : s.size ≤ 281474976710656) :
    Calls Try.prog 23 #[.string s] w fun e w' => e = .returned (.string s) ∧ Below w.heap.size w w' := by
  go_enter Try.func23, Try.ntmps23
  go_wp2_with (go_at_call 26; refine (Try.stringslite_Clone _ _ hs).mono ?_; rintro e w1 ⟨rfl, hb⟩)
  go_ret
  exact ⟨rfl, hb⟩
end Go.Proofs.Ytjhdgbdnbfieiaa
