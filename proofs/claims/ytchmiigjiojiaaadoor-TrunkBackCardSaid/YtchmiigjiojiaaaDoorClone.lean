/-
  A text that is copied is the same text.
-/
import Derived.Test.YtchmiigjiojiaaaDoorBase
import Derived.Test.YtchmiigjiojiaaaDoorShelf
namespace Go.Proofs.YtchmiigjiojiaaaDoor
open Go.RowKit
theorem str_clone (s : ByteArray) (w : World) (hs : s.size ≤ 281474976710656) :
    Calls Tryd.prog 62 #[.string s] w fun e w' => e = .returned (.string s) ∧ Below w.heap.size w w' := by
  go_enter Tryd.func62, Tryd.ntmps62
  go_wp2_with (go_at_call 66; refine (Tryd.stringslite_Clone _ _ hs).mono ?_; rintro e w1 ⟨rfl, hb⟩)
  go_ret
  exact ⟨rfl, hb⟩
end Go.Proofs.YtchmiigjiojiaaaDoor
