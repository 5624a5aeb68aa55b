/-
  A text that is copied is the same text.
-/
import Derived.Test.YtchmiigjiojiaaaBase
import Derived.Test.YtchmiigjiojiaaaShelf
namespace Go.Proofs.Ytchmiigjiojiaaa
open Go.RowKit
theorem str_clone (s : ByteArray) (w : World) (hs : s.size ≤ 281474976710656) :
    Calls Try.prog 50 #[.string s] w fun e w' => e = .returned (.string s) ∧ Below w.heap.size w w' := by
  go_enter Try.func50, Try.ntmps50
  go_wp2_with (go_at_call 54; refine (Try.stringslite_Clone _ _ hs).mono ?_; rintro e w1 ⟨rfl, hb⟩)
  go_ret
  exact ⟨rfl, hb⟩
end Go.Proofs.Ytchmiigjiojiaaa
