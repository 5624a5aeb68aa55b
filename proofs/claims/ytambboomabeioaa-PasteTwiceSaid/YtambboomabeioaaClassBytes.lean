/-
  Package class, byte by byte: small, capital, letter, plain, great.
-/
import Derived.WalkKit
import Derived.Lib.Hide
import Derived.Test.YtambboomabeioaaClass
namespace Go.Proofs.Ytambboomabeioaa
open Go.RowKit
attribute [local go_sem] Oper.semAt_some
theorem class_small (b : Nat) (w : World) :
    Calls Try.prog 88 #[.int .u8 b] w fun e w' => e = .returned (.bool (Class.small b)) ∧ w = w' := by
  by_cases h1 : 97 ≤ b
  · have H : Hid (Class.small b = decide (b ≤ 122)) := by show _ = _; simp [Class.small, h1]
    by_cases h2 : b ≤ 122
    · go_enter Try.func88, Try.ntmps88
      go_wp2
      go_ret
      exact ⟨by rw [H.out]; simp [h2]; try omega, rfl⟩
    · go_enter Try.func88, Try.ntmps88
      go_wp2
      go_ret
      exact ⟨by rw [H.out]; simp [h2]; try omega, rfl⟩
  · have H : Hid (Class.small b = false) := by show _ = _; simp [Class.small, h1]
    go_enter Try.func88, Try.ntmps88
    go_wp2
    go_ret
    exact ⟨by rw [H.out]; rfl, rfl⟩
theorem class_capital (b : Nat) (w : World) :
    Calls Try.prog 89 #[.int .u8 b] w fun e w' => e = .returned (.bool (Class.capital b)) ∧ w = w' := by
  by_cases h1 : 65 ≤ b
  · have H : Hid (Class.capital b = decide (b ≤ 90)) := by show _ = _; simp [Class.capital, h1]
    by_cases h2 : b ≤ 90
    · go_enter Try.func89, Try.ntmps89
      go_wp2
      go_ret
      exact ⟨by rw [H.out]; simp [h2]; try omega, rfl⟩
    · go_enter Try.func89, Try.ntmps89
      go_wp2
      go_ret
      exact ⟨by rw [H.out]; simp [h2]; try omega, rfl⟩
  · have H : Hid (Class.capital b = false) := by show _ = _; simp [Class.capital, h1]
    go_enter Try.func89, Try.ntmps89
    go_wp2
    go_ret
    exact ⟨by rw [H.out]; rfl, rfl⟩
theorem class_letter (b : Nat) (w : World) :
    Calls Try.prog 73 #[.int .u8 b] w fun e w' => e = .returned (.bool (Class.letter b)) ∧ w = w' := by
  have c1 := Lib.hid (class_small b)
  have c2 := Lib.hid (class_capital b)
  have H : Hid (Class.letter b = (Class.small b || Class.capital b)) := by show _ = _; rfl
  generalize Class.small b = x at *
  generalize Class.capital b = y at *
  cases x <;> cases y
  all_goals
    go_enter Try.func73, Try.ntmps73
    go_wp2_with (first | (go_at_call 88; refine (c1.out _).mono ?_; rintro e w1 ⟨rfl, rfl⟩) | (go_at_call 89; refine (c2.out _).mono ?_; rintro e w1 ⟨rfl, rfl⟩))
    go_ret
    exact ⟨by rw [H.out]; rfl, rfl⟩
end Go.Proofs.Ytambboomabeioaa
