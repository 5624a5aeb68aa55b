/-
  A text that is copied is the same text.
-/
import Derived.Test.YtcddbdefdenecaaDoorBase
import Derived.Test.YtcddbdefdenecaaDoorShelf
namespace Go.Proofs.YtcddbdefdenecaaDoor
open Go.RowKit
theorem str_clone (s : ByteArray) (w : World) (hs : s.size ≤ 281474976710656) :
    Calls Tryd.prog 14 #[.string s] w fun e w' => e = .returned (.string s) ∧ Below w.heap.size w w' := by
  go_enter Tryd.func14, Tryd.ntmps14
  go_wp2_with (go_at_call 26; refine (Tryd.stringslite_Clone _ _ hs).mono ?_; rintro e w1 ⟨rfl, hb⟩)
  go_ret
  exact ⟨rfl, hb⟩
end Go.Proofs.YtcddbdefdenecaaDoor
