/-
  Package class, byte by byte: small, capital, letter, plain, great.
-/
import Derived.WalkKit
import Derived.Lib.Hide
import Derived.Test.YtdclopfhffjkfaaDoorClass
namespace Go.Proofs.YtdclopfhffjkfaaDoor
open Go.RowKit
attribute [local go_sem] Oper.semAt_some
theorem class_small (b : Nat) (w : World) :
    Calls Tryd.prog 91 #[.int .u8 b] w fun e w' => e = .returned (.bool (Class.small b)) ∧ w = w' := by
  by_cases h1 : 97 ≤ b
  · have H : Hid (Class.small b = decide (b ≤ 122)) := by show _ = _; simp [Class.small, h1]
    by_cases h2 : b ≤ 122
    · go_enter Tryd.func91, Tryd.ntmps91
      go_wp2
      go_ret
      exact ⟨by rw [H.out]; simp [h2]; try omega, rfl⟩
    · go_enter Tryd.func91, Tryd.ntmps91
      go_wp2
      go_ret
      exact ⟨by rw [H.out]; simp [h2]; try omega, rfl⟩
  · have H : Hid (Class.small b = false) := by show _ = _; simp [Class.small, h1]
    go_enter Tryd.func91, Tryd.ntmps91
    go_wp2
    go_ret
    exact ⟨by rw [H.out]; rfl, rfl⟩
theorem class_capital (b : Nat) (w : World) :
    Calls Tryd.prog 92 #[.int .u8 b] w fun e w' => e = .returned (.bool (Class.capital b)) ∧ w = w' := by
  by_cases h1 : 65 ≤ b
  · have H : Hid (Class.capital b = decide (b ≤ 90)) := by show _ = _; simp [Class.capital, h1]
    by_cases h2 : b ≤ 90
    · go_enter Tryd.func92, Tryd.ntmps92
      go_wp2
      go_ret
      exact ⟨by rw [H.out]; simp [h2]; try omega, rfl⟩
    · go_enter Tryd.func92, Tryd.ntmps92
      go_wp2
      go_ret
      exact ⟨by rw [H.out]; simp [h2]; try omega, rfl⟩
  · have H : Hid (Class.capital b = false) := by show _ = _; simp [Class.capital, h1]
    go_enter Tryd.func92, Tryd.ntmps92
    go_wp2
    go_ret
    exact ⟨by rw [H.out]; rfl, rfl⟩
theorem class_letter (b : Nat) (w : World) :
    Calls Tryd.prog 88 #[.int .u8 b] w fun e w' => e = .returned (.bool (Class.letter b)) ∧ w = w' := by
  have c1 := Lib.hid (class_small b)
  have c2 := Lib.hid (class_capital b)
  have H : Hid (Class.letter b = (Class.small b || Class.capital b)) := by show _ = _; rfl
  generalize Class.small b = x at *
  generalize Class.capital b = y at *
  cases x <;> cases y
  all_goals
    go_enter Tryd.func88, Tryd.ntmps88
    go_wp2_with (first | (go_at_call 91; refine (c1.out _).mono ?_; rintro e w1 ⟨rfl, rfl⟩) | (go_at_call 92; refine (c2.out _).mono ?_; rintro e w1 ⟨rfl, rfl⟩))
    go_ret
    exact ⟨by rw [H.out]; rfl, rfl⟩
theorem class_plain (b : Nat) (w : World) :
    Calls Tryd.prog 77 #[.int .u8 b] w fun e w' => e = .returned (.int .i64 (Class.plain b : Nat)) ∧ w = w' := by
  by_cases h1 : b = 10
  · subst h1
    go_enter Tryd.func77, Tryd.ntmps77
    go_wp2
    go_ret
    exact ⟨rfl, rfl⟩
  by_cases h2 : b = 32
  · subst h2
    go_enter Tryd.func77, Tryd.ntmps77
    go_wp2
    go_ret
    exact ⟨rfl, rfl⟩
  by_cases h3 : b = 9
  · subst h3
    go_enter Tryd.func77, Tryd.ntmps77
    go_wp2
    go_ret
    exact ⟨rfl, rfl⟩
  have g1 : ((b : Int) == 10) = false := by simp; omega
  have g2 : ((b : Int) == 32) = false := by simp; omega
  have g3 : ((b : Int) == 9) = false := by simp; omega
  have c1 := Lib.hid (class_letter b)
  by_cases h4 : Class.letter b = true
  · have H : Hid (Class.plain b = 2) := by show _ = _; unfold Class.plain; rw [if_neg h1, if_neg (by omega), if_pos (Or.inl h4)]
    rw [h4] at c1
    clear h1 h2 h3 h4
    go_enter Tryd.func77, Tryd.ntmps77
    go_wp2_with (go_at_call 88; refine (c1.out _).mono ?_; rintro e w1 ⟨rfl, rfl⟩)
    go_ret
    exact ⟨by rw [H.out]; rfl, rfl⟩
  have h4' : Class.letter b = false := by simpa using h4
  rw [h4'] at c1
  have H : Hid (Class.plain b = if (48 ≤ b ∧ b ≤ 57) ∨ b = 95 ∨ 127 < b then 2 else 3) := by show _ = _; unfold Class.plain; rw [if_neg h1, if_neg (by omega)]; simp [h4']
  clear h1 h2 h3 h4 h4'
  by_cases h5 : 48 ≤ b ∧ b ≤ 57
  · have H2 : Hid (Class.plain b = 2) := by show _ = _; rw [H.out, if_pos (Or.inl h5)]
    obtain ⟨h6, h7⟩ := h5
    go_enter Tryd.func77, Tryd.ntmps77
    go_wp2_with (go_at_call 88; refine (c1.out _).mono ?_; rintro e w1 ⟨rfl, rfl⟩)
    go_ret
    exact ⟨by rw [H2.out]; rfl, rfl⟩
  by_cases h6 : b = 95
  · subst h6
    go_enter Tryd.func77, Tryd.ntmps77
    go_wp2_with (go_at_call 88; refine (c1.out _).mono ?_; rintro e w1 ⟨rfl, rfl⟩)
    go_ret
    exact ⟨rfl, rfl⟩
  have g4 : ((b : Int) == 95) = false := by simp; omega
  by_cases h7 : 127 < b
  · have H2 : Hid (Class.plain b = 2) := by show _ = _; rw [H.out, if_pos (by omega)]
    have h8 : ¬ b ≤ 57 := by omega
    have h9 : 48 ≤ b := by omega
    clear h5 h6
    go_enter Tryd.func77, Tryd.ntmps77
    go_wp2_with (go_at_call 88; refine (c1.out _).mono ?_; rintro e w1 ⟨rfl, rfl⟩)
    go_ret
    exact ⟨by rw [H2.out]; rfl, rfl⟩
  have H2 : Hid (Class.plain b = 3) := by show _ = _; rw [H.out, if_neg (by omega)]
  by_cases h8 : 48 ≤ b
  · have h9 : ¬ b ≤ 57 := by omega
    clear h5 h6
    go_enter Tryd.func77, Tryd.ntmps77
    go_wp2_with (go_at_call 88; refine (c1.out _).mono ?_; rintro e w1 ⟨rfl, rfl⟩)
    go_ret
    exact ⟨by rw [H2.out]; rfl, rfl⟩
  · clear h5 h6
    go_enter Tryd.func77, Tryd.ntmps77
    go_wp2_with (go_at_call 88; refine (c1.out _).mono ?_; rintro e w1 ⟨rfl, rfl⟩)
    go_ret
    exact ⟨by rw [H2.out]; rfl, rfl⟩
end Go.Proofs.YtdclopfhffjkfaaDoor
