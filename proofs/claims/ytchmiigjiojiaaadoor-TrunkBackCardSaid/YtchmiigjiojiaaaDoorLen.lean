/-
  What the reader of the program answers when it is asked for a length, for all bytes and all bounds.
-/
import Derived.Test.YtchmiigjiojiaaaDoorRead
namespace Go.Proofs.YtchmiigjiojiaaaDoor
open Go.RowKit
theorem rd_num_at {p : Nat} {l : List UInt8} {err n e : Int} {r : List UInt8} {w : World} (h : Rd p l err w) (hq : rdNum l err = (n, r, e)) :
    Calls Tryd.prog 28 #[.pointer (some ⟨p, 0, none⟩)] w fun x w' => x = .returned (.int .i64 n) ∧ Rd p r e w' ∧ w.grownBy w' (some p) := by
  have := rd_num h
  rw [hq] at this
  exact this
set_option maxHeartbeats 400000 in
theorem rd_len_bad {p : Nat} {l : List UInt8} {err n e most : Int} {r : List UInt8} {w : World} (h : Rd p l err w) (hq : rdNum l err = (n, r, e)) (he : e ≠ 0) :
    Calls Tryd.prog 61 #[.pointer (some ⟨p, 0, none⟩), .int .i64 most] w fun x w' => x = .returned (.tuple #[.int .i64 0, .bool false]) ∧ Rd p r e w' ∧ w.grownBy w' (some p) := by
  have hN := rd_num_at h hq
  have g1 : (e != 0) = true := by simp [he]
  clear hq h
  go_enter Tryd.func61, Tryd.ntmps61
  go_wp2_with (first | (go_at_call 28; refine hN.mono ?_; rintro x w1 ⟨rfl, hr, hg⟩) | (go_at_call 30; refine (rd_err hr).mono ?_; rintro x w2 ⟨rfl, rfl⟩))
  go_ret2
  exact ⟨rfl, hr, hg⟩
set_option maxHeartbeats 400000 in
theorem rd_len_over {p : Nat} {l : List UInt8} {err n most : Int} {r : List UInt8} {w : World} (h : Rd p l err w) (hq : rdNum l err = (n, r, 0)) (hm : most < n) :
    Calls Tryd.prog 61 #[.pointer (some ⟨p, 0, none⟩), .int .i64 most] w fun x w' => x = .returned (.tuple #[.int .i64 0, .bool false]) ∧ Rd p [] 6 w' ∧ w.grownBy w' (some p) := by
  have hN := rd_num_at h hq
  clear hq h
  go_enter Tryd.func61, Tryd.ntmps61
  go_wp2_with (first | (go_at_call 28; refine hN.mono ?_; rintro x w1 ⟨rfl, hr, hg⟩) | (go_at_call 30; refine (rd_err hr).mono ?_; rintro x w2 ⟨rfl, rfl⟩) | (go_at_call 49; refine (rd_fail hr 6).mono ?_; rintro e w3 ⟨rfl, hr3, hg3⟩))
  go_ret2
  exact ⟨rfl, hr3, gb_trans hg hg3⟩
set_option maxHeartbeats 400000 in
theorem rd_len_ok {p : Nat} {l : List UInt8} {err n most : Int} {r : List UInt8} {w : World} (h : Rd p l err w) (hq : rdNum l err = (n, r, 0)) (hm : n ≤ most) :
    Calls Tryd.prog 61 #[.pointer (some ⟨p, 0, none⟩), .int .i64 most] w fun x w' => x = .returned (.tuple #[.int .i64 n, .bool true]) ∧ Rd p r 0 w' ∧ w.grownBy w' (some p) := by
  have hN := rd_num_at h hq
  clear hq h
  go_enter Tryd.func61, Tryd.ntmps61
  go_wp2_with (first | (go_at_call 28; refine hN.mono ?_; rintro x w1 ⟨rfl, hr, hg⟩) | (go_at_call 30; refine (rd_err hr).mono ?_; rintro x w2 ⟨rfl, rfl⟩))
  go_ret2
  exact ⟨rfl, hr, hg⟩
end Go.Proofs.YtchmiigjiojiaaaDoor
