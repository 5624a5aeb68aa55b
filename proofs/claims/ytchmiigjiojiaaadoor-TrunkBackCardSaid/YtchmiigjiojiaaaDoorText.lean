/-
  The bytes of any text of at most 2147483647 bytes, as the program and the document write them.
-/
import Derived.Test.YtchmiigjiojiaaaDoorNum
namespace Go.Proofs.YtchmiigjiojiaaaDoor
open Go.RowKit
set_option maxHeartbeats 400000 in
theorem code_text (s : ByteArray) (w : World) (hs : s.size ≤ 2147483647) :
    Calls Tryd.prog 54 #[.string s] w fun e w' => e = .returned (.string (bs (numB s.size ++ s.data.toList))) ∧ Below w.heap.size w w' := by
  have g1 : (bs (numB (s.size : Int))).toList.isEmpty = false := numB_empty (by omega) (by omega)
  have g2 : ¬ 9223372036854775807 < (bs (numB (s.size : Int))).size + s.size := by have := numB_size (s.size : Int); omega
  go_enter Tryd.func54, Tryd.ntmps54
  go_wp2_with (go_at_call 19; refine (code_num _ _).mono ?_; rintro e w1 ⟨rfl, hb⟩)
  go_ret
  exact ⟨by rw [text_sum]; rfl, hb⟩
set_option maxHeartbeats 400000 in
theorem ref_text (s : ByteArray) (w : World) (hs : s.size ≤ 2147483647) :
    Calls Tryd.prog 24 #[.string s] w fun e w' => e = .returned (.string (bs (numB s.size ++ s.data.toList))) ∧ Below w.heap.size w w' := by
  have g2 : ¬ 9223372036854775807 < (bs (numB (s.size : Int))).size + s.size := by have := numB_size (s.size : Int); omega
  go_enter Tryd.func24, Tryd.ntmps24
  go_wp2_with (go_at_call 23; refine (ref_num _ _).mono ?_; rintro e w1 ⟨rfl, hb⟩)
  go_ret
  exact ⟨by rw [text_sum]; rfl, hb⟩
end Go.Proofs.YtchmiigjiojiaaaDoor
