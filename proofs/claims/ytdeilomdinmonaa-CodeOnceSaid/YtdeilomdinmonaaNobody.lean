/-
  Nobody reads nothing: a reader that is none, and one that NewReader did not give.
-/
import Derived.Test.YtdeilomdinmonaaRdNums
namespace Go.Proofs.Ytdeilomdinmonaa
open Go.RowKit
set_option maxHeartbeats 400000 in
theorem nil_num (w : World) : Calls Try.prog 15 #[.pointer none] w fun e w' => e = .returned (.int .i64 0) ∧ w = w' := by
  go_enter Try.func15, Try.ntmps15
  go_wp2
  go_ret
  exact ⟨rfl, rfl⟩
set_option maxHeartbeats 400000 in
theorem nil_left (w : World) : Calls Try.prog 22 #[.pointer none] w fun e w' => e = .returned (.int .i64 0) ∧ w = w' := by
  go_enter Try.func22, Try.ntmps22
  go_wp2
  go_ret
  exact ⟨rfl, rfl⟩
set_option maxHeartbeats 400000 in
theorem nil_err (w : World) : Calls Try.prog 23 #[.pointer none] w fun e w' => e = .returned (.int .i64 2) ∧ w = w' := by
  go_enter Try.func23, Try.ntmps23
  go_wp2
  go_ret
  exact ⟨rfl, rfl⟩
set_option maxHeartbeats 400000 in
theorem nil_len (most : Int) (w : World) : Calls Try.prog 31 #[.pointer none, .int .i64 most] w fun e w' => e = .returned (.tuple #[.int .i64 0, .bool false]) ∧ w = w' := by
  go_enter Try.func31, Try.ntmps31
  go_wp2_with (first | (go_at_call 15; refine (nil_num _).mono ?_; rintro x w1 ⟨rfl, rfl⟩) | (go_at_call 23; refine (nil_err _).mono ?_; rintro x w2 ⟨rfl, rfl⟩))
  go_ret2
  exact ⟨rfl, rfl⟩
set_option maxHeartbeats 400000 in
theorem nil_text (most : Int) (w : World) : Calls Try.prog 17 #[.pointer none, .int .i64 most] w fun e w' => e = .returned (.string ⟨#[]⟩) ∧ w = w' := by
  go_enter Try.func17, Try.ntmps17
  go_wp2_with (go_at_call 31; refine (nil_len _ _).mono ?_; rintro x w1 ⟨rfl, rfl⟩)
  go_ret
  exact ⟨rfl, rfl⟩
set_option maxHeartbeats 400000 in
theorem nil_nums (most : Int) (w : World) : Calls Try.prog 20 #[.pointer none, .int .i64 most] w fun e w' => e = .returned (.slice none 0 0) ∧ w = w' := by
  go_enter Try.func20, Try.ntmps20
  go_wp2_with (go_at_call 31; refine (nil_len _ _).mono ?_; rintro x w1 ⟨rfl, rfl⟩)
  go_ret
  exact ⟨rfl, rfl⟩
set_option maxHeartbeats 400000 in
theorem zero_left {p : Nat} {w : World} (h : Blk w p 46 #[.pointer none, .nilFunc, .int .i64 0, .int .i64 0]) :
    Calls Try.prog 22 #[.pointer (some ⟨p, 0, none⟩)] w fun e w' => e = .returned (.int .i64 0) ∧ Rd p [] 0 w' ∧ w.grownBy w' (some p) := by
  have hs := zero_settle h
  go_enter Try.func22, Try.ntmps22
  go_wp2_with (go_at_call 27; refine hs.mono ?_; rintro e w1 ⟨rfl, ⟨c1, c2, s, h1⟩, hg⟩; have k2 := h1.self.cell 2; simp at k2)
  go_ret
  exact ⟨rfl, ⟨c1, c2, s, h1⟩, hg⟩
end Go.Proofs.Ytdeilomdinmonaa
