/-
  The bytes of any text of at most 2147483647 bytes, as the program and the document write them.
-/
import Derived.Test.YtchmiigjiojiaaaNum
namespace Go.Proofs.Ytchmiigjiojiaaa
open Go.RowKit
set_option maxHeartbeats 400000 in
theorem code_text (s : ByteArray) (w : World) (hs : s.size ≤ 2147483647) :
    Calls Try.prog 45 #[.string s] w fun e w' => e = .returned (.string (bs (numB s.size ++ s.data.toList))) ∧ Below w.heap.size w w' := by
  have g1 : (bs (numB (s.size : Int))).toList.isEmpty = false := numB_empty (by omega) (by omega)
  have g2 : ¬ 9223372036854775807 < (bs (numB (s.size : Int))).size + s.size := by have := numB_size (s.size : Int); omega
  go_enter Try.func45, Try.ntmps45
  go_wp2_with (go_at_call 40; refine (code_num _ _).mono ?_; rintro e w1 ⟨rfl, hb⟩)
  go_ret
  exact ⟨by rw [text_sum]; rfl, hb⟩
end Go.Proofs.Ytchmiigjiojiaaa
