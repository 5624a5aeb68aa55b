/-
  A text that is copied is the same text.
-/
import Derived.Test.YtopplkfbnpamdaaBase
import Derived.Test.YtopplkfbnpamdaaShelf
namespace Go.Proofs.Ytopplkfbnpamdaa
open Go.RowKit
theorem str_clone (s : ByteArray) (w : World) (hs : s.size ≤ 281474976710656) :
    Calls Try.prog 24 #[.string s] w fun e w' => e = .returned (.string s) ∧ Below w.heap.size w w' := by
  go_enter Try.func24, Try.ntmps24
  go_wp2_with (go_at_call 40; refine (Try.stringslite_Clone _ _ hs).mono ?_; rintro e w1 ⟨rfl, hb⟩)
  go_ret
  exact ⟨rfl, hb⟩
end Go.Proofs.Ytopplkfbnpamdaa
