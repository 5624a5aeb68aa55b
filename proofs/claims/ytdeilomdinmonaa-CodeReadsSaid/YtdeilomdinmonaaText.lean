/-
  The bytes of any text of at most 2147483647 bytes, as the program and the document write them.
-/
import Derived.Test.YtdeilomdinmonaaNum
namespace Go.Proofs.Ytdeilomdinmonaa
open Go.RowKit
theorem data_len (s : ByteArray) : s.data.toList.length = s.size := by rw [Array.length_toList]; rfl
theorem text_sum (a : List UInt8) (s : ByteArray) : bs a ++ s = bs (a ++ s.data.toList) := by rw [← bs_append]; rfl
set_option maxHeartbeats 400000 in
theorem code_text (s : ByteArray) (w : World) (hs : s.size ≤ 2147483647) :
    Calls Try.prog 9 #[.string s] w fun e w' => e = .returned (.string (bs (numB s.size ++ s.data.toList))) ∧ Below w.heap.size w w' := by
  have g1 : (bs (numB (s.size : Int))).toList.isEmpty = false := numB_empty (by omega) (by omega)
  have g2 : ¬ 9223372036854775807 < (bs (numB (s.size : Int))).size + s.size := by have := numB_size (s.size : Int); omega
  go_enter Try.func9, Try.ntmps9
  go_wp2_with (go_at_call 7; refine (code_num _ _).mono ?_; rintro e w1 ⟨rfl, hb⟩)
  go_ret
  exact ⟨by rw [text_sum]; rfl, hb⟩
set_option maxHeartbeats 400000 in
theorem ref_text (s : ByteArray) (w : World) (hs : s.size ≤ 2147483647) :
    Calls Try.prog 10 #[.string s] w fun e w' => e = .returned (.string (bs (numB s.size ++ s.data.toList))) ∧ Below w.heap.size w w' := by
  have g2 : ¬ 9223372036854775807 < (bs (numB (s.size : Int))).size + s.size := by have := numB_size (s.size : Int); omega
  go_enter Try.func10, Try.ntmps10
  go_wp2_with (go_at_call 8; refine (ref_num _ _).mono ?_; rintro e w1 ⟨rfl, hb⟩)
  go_ret
  exact ⟨by rw [text_sum]; rfl, hb⟩
end Go.Proofs.Ytdeilomdinmonaa
