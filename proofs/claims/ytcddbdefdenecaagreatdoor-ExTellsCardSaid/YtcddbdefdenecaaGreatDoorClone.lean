/-
  A text that is copied is the same text.
-/
import Derived.Test.YtcddbdefdenecaaGreatDoorBase
import Derived.Test.YtcddbdefdenecaaGreatDoorShelf
namespace Go.Proofs.YtcddbdefdenecaaGreatDoor
open Go.RowKit
theorem str_clone (s : ByteArray) (w : World) (hs : s.size ≤ 281474976710656) :
    Calls Tryz.prog 30 #[.string s] w fun e w' => e = .returned (.string s) ∧ Below w.heap.size w w' := by
  go_enter Tryz.func30, Tryz.ntmps30
  go_wp2_with (go_at_call 51; refine (Tryz.stringslite_Clone _ _ hs).mono ?_; rintro e w1 ⟨rfl, hb⟩)
  go_ret
  exact ⟨rfl, hb⟩
end Go.Proofs.YtcddbdefdenecaaGreatDoor
