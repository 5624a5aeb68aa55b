/-
  Names of registers, as package reg and the document tell them.
-/
import Derived.Test.YtchpkeelnfmlbaaReg
namespace Go.Proofs.Ytchpkeelnfmlbaa
open Go.RowKit
open Reg
theorem reg_adds (n : Int) (w : World) : Calls Try.prog 34 #[.int .i64 n] w fun e w' => e = .returned (.bool (decide (65 ≤ n ∧ n ≤ 90))) ∧ w = w' := by
  by_cases h : 65 ≤ n
  · have d : decide (65 ≤ n) = true := decide_eq_true h
    have H : Hid (decide (65 ≤ n ∧ n ≤ 90) = decide (n ≤ 90)) := by show _ = _; simp [h]
    go_enter Try.func34, Try.ntmps34
    go_wp2
    go_ret
    exact ⟨by rw [H.out]; rfl, rfl⟩
  · have d : decide (65 ≤ n) = false := decide_eq_false h
    rw [show decide (65 ≤ n ∧ n ≤ 90) = false from decide_eq_false fun e => h e.1]
    go_enter Try.func34, Try.ntmps34
    go_wp2
    go_ret
    exact ⟨rfl, rfl⟩
theorem reg_Name_zero (n : Int) (h : n = 0) (w : World) : Calls Try.prog 29 #[.int .i64 n] w fun e w' => e = .returned (.int .i64 (34)) ∧ w = w' := by
  subst h
  go_enter Try.func29, Try.ntmps29
  go_wp2
  go_ret
  exact ⟨rfl, rfl⟩
theorem reg_Name_big (n : Int) (h : 65 ≤ n ∧ n ≤ 90) (w : World) : Calls Try.prog 29 #[.int .i64 n] w fun e w' => e = .returned (.int .i64 (n + 32)) ∧ w = w' := by
  have C := Lib.hid (reg_adds n)
  rw [show decide (65 ≤ n ∧ n ≤ 90) = true from decide_eq_true h] at C
  have b0 : (n == 0) = false := by simp; omega
  have b1 : (n == 34) = false := by simp; omega
  have b2 : (n == 45) = false := by simp; omega
  have z : IntKind.i64.wrap (n - 65) = n - 65 := by rw [IntKind.wrap_i64]; omega
  have z2 : IntKind.i64.wrap (n - 65 + 97) = n - 65 + 97 := by rw [IntKind.wrap_i64]; omega
  rw [show n + 32 = n - 65 + 97 by omega]
  go_enter Try.func29, Try.ntmps29
  go_wp2_with (go_at_call 34; refine (C.out _).mono ?_; rintro e w1 ⟨rfl, rfl⟩)
  go_ret
  exact ⟨rfl, rfl⟩
theorem reg_Name_a (n : Int) (h : n = 34) (w : World) : Calls Try.prog 29 #[.int .i64 n] w fun e w' => e = .returned (.int .i64 (n)) ∧ w = w' := by
  subst h
  have C := Lib.hid (reg_adds 34)
  go_enter Try.func29, Try.ntmps29
  go_wp2_with (go_at_call 34; refine (C.out _).mono ?_; rintro e w1 ⟨rfl, rfl⟩)
  go_ret
  exact ⟨rfl, rfl⟩
theorem reg_Name_b (n : Int) (h : n = 45) (w : World) : Calls Try.prog 29 #[.int .i64 n] w fun e w' => e = .returned (.int .i64 (n)) ∧ w = w' := by
  subst h
  have C := Lib.hid (reg_adds 45)
  go_enter Try.func29, Try.ntmps29
  go_wp2_with (go_at_call 34; refine (C.out _).mono ?_; rintro e w1 ⟨rfl, rfl⟩)
  go_ret
  exact ⟨rfl, rfl⟩
theorem reg_Name_d (n : Int) (h : 48 ≤ n ∧ n ≤ 57) (w : World) : Calls Try.prog 29 #[.int .i64 n] w fun e w' => e = .returned (.int .i64 (n)) ∧ w = w' := by
  have C := Lib.hid (reg_adds n)
  rw [show decide (65 ≤ n ∧ n ≤ 90) = false from decide_eq_false (by omega)] at C
  have b0 : (n == 0) = false := by simp; omega
  have b1 : (n == 34) = false := by simp; omega
  have b2 : (n == 45) = false := by simp; omega
  have d0 : decide (65 ≤ n) = false := decide_eq_false (by omega)
  have d1 : decide (48 ≤ n) = true := decide_eq_true (by omega)
  have d2 : decide (n ≤ 57) = true := decide_eq_true (by omega)
  clear h
  go_enter Try.func29, Try.ntmps29
  go_wp2_with (go_at_call 34; refine (C.out _).mono ?_; rintro e w1 ⟨rfl, rfl⟩)
  go_ret
  exact ⟨rfl, rfl⟩
theorem reg_Name_l (n : Int) (h : 97 ≤ n ∧ n ≤ 122) (w : World) : Calls Try.prog 29 #[.int .i64 n] w fun e w' => e = .returned (.int .i64 (n)) ∧ w = w' := by
  have C := Lib.hid (reg_adds n)
  rw [show decide (65 ≤ n ∧ n ≤ 90) = false from decide_eq_false (by omega)] at C
  have b0 : (n == 0) = false := by simp; omega
  have b1 : (n == 34) = false := by simp; omega
  have b2 : (n == 45) = false := by simp; omega
  have d0 : decide (65 ≤ n) = true := decide_eq_true (by omega)
  have d1 : decide (n ≤ 90) = false := decide_eq_false (by omega)
  have d2 : decide (48 ≤ n) = true := decide_eq_true (by omega)
  have d3 : decide (n ≤ 57) = false := decide_eq_false (by omega)
  have d4 : decide (97 ≤ n) = true := decide_eq_true (by omega)
  have d5 : decide (n ≤ 122) = true := decide_eq_true (by omega)
  clear h
  go_enter Try.func29, Try.ntmps29
  go_wp2_with (go_at_call 34; refine (C.out _).mono ?_; rintro e w1 ⟨rfl, rfl⟩)
  go_ret
  exact ⟨rfl, rfl⟩
theorem reg_Name_x1 (n : Int) (h : n < 48 ∧ n ≠ 0 ∧ n ≠ 34 ∧ n ≠ 45) (w : World) : Calls Try.prog 29 #[.int .i64 n] w fun e w' => e = .returned (.int .i64 (0)) ∧ w = w' := by
  have C := Lib.hid (reg_adds n)
  rw [show decide (65 ≤ n ∧ n ≤ 90) = false from decide_eq_false (by omega)] at C
  have b0 : (n == 0) = false := by simp; omega
  have b1 : (n == 34) = false := by simp; omega
  have b2 : (n == 45) = false := by simp; omega
  have d0 : decide (65 ≤ n) = false := decide_eq_false (by omega)
  have d1 : decide (48 ≤ n) = false := decide_eq_false (by omega)
  have d2 : decide (97 ≤ n) = false := decide_eq_false (by omega)
  clear h
  go_enter Try.func29, Try.ntmps29
  go_wp2_with (go_at_call 34; refine (C.out _).mono ?_; rintro e w1 ⟨rfl, rfl⟩)
  go_ret
  exact ⟨rfl, rfl⟩
theorem reg_Name_x2 (n : Int) (h : 57 < n ∧ n < 65) (w : World) : Calls Try.prog 29 #[.int .i64 n] w fun e w' => e = .returned (.int .i64 (0)) ∧ w = w' := by
  have C := Lib.hid (reg_adds n)
  rw [show decide (65 ≤ n ∧ n ≤ 90) = false from decide_eq_false (by omega)] at C
  have b0 : (n == 0) = false := by simp; omega
  have b1 : (n == 34) = false := by simp; omega
  have b2 : (n == 45) = false := by simp; omega
  have d0 : decide (65 ≤ n) = false := decide_eq_false (by omega)
  have d1 : decide (48 ≤ n) = true := decide_eq_true (by omega)
  have d2 : decide (n ≤ 57) = false := decide_eq_false (by omega)
  have d3 : decide (97 ≤ n) = false := decide_eq_false (by omega)
  clear h
  go_enter Try.func29, Try.ntmps29
  go_wp2_with (go_at_call 34; refine (C.out _).mono ?_; rintro e w1 ⟨rfl, rfl⟩)
  go_ret
  exact ⟨rfl, rfl⟩
theorem reg_Name_x3 (n : Int) (h : 90 < n ∧ n < 97) (w : World) : Calls Try.prog 29 #[.int .i64 n] w fun e w' => e = .returned (.int .i64 (0)) ∧ w = w' := by
  have C := Lib.hid (reg_adds n)
  rw [show decide (65 ≤ n ∧ n ≤ 90) = false from decide_eq_false (by omega)] at C
  have b0 : (n == 0) = false := by simp; omega
  have b1 : (n == 34) = false := by simp; omega
  have b2 : (n == 45) = false := by simp; omega
  have d0 : decide (65 ≤ n) = true := decide_eq_true (by omega)
  have d1 : decide (n ≤ 90) = false := decide_eq_false (by omega)
  have d2 : decide (48 ≤ n) = true := decide_eq_true (by omega)
  have d3 : decide (n ≤ 57) = false := decide_eq_false (by omega)
  have d4 : decide (97 ≤ n) = false := decide_eq_false (by omega)
  clear h
  go_enter Try.func29, Try.ntmps29
  go_wp2_with (go_at_call 34; refine (C.out _).mono ?_; rintro e w1 ⟨rfl, rfl⟩)
  go_ret
  exact ⟨rfl, rfl⟩
theorem reg_Name_x4 (n : Int) (h : 122 < n) (w : World) : Calls Try.prog 29 #[.int .i64 n] w fun e w' => e = .returned (.int .i64 (0)) ∧ w = w' := by
  have C := Lib.hid (reg_adds n)
  rw [show decide (65 ≤ n ∧ n ≤ 90) = false from decide_eq_false (by omega)] at C
  have b0 : (n == 0) = false := by simp; omega
  have b1 : (n == 34) = false := by simp; omega
  have b2 : (n == 45) = false := by simp; omega
  have d0 : decide (65 ≤ n) = true := decide_eq_true (by omega)
  have d1 : decide (n ≤ 90) = false := decide_eq_false (by omega)
  have d2 : decide (48 ≤ n) = true := decide_eq_true (by omega)
  have d3 : decide (n ≤ 57) = false := decide_eq_false (by omega)
  have d4 : decide (97 ≤ n) = true := decide_eq_true (by omega)
  have d5 : decide (n ≤ 122) = false := decide_eq_false (by omega)
  clear h
  go_enter Try.func29, Try.ntmps29
  go_wp2_with (go_at_call 34; refine (C.out _).mono ?_; rintro e w1 ⟨rfl, rfl⟩)
  go_ret
  exact ⟨rfl, rfl⟩
theorem reg_Name (n : Int) (w : World) : Calls Try.prog 29 #[.int .i64 n] w fun e w' => e = .returned (.int .i64 (nameN n)) ∧ w = w' := by
  unfold nameN
  by_cases h0 : n = 0
  · rw [if_pos h0]; exact reg_Name_zero n h0 w
  rw [if_neg h0]
  by_cases h1 : 65 ≤ n ∧ n ≤ 90
  · rw [if_pos h1]; exact reg_Name_big n h1 w
  rw [if_neg h1]
  by_cases h2 : IsName n
  · rw [if_pos h2]
    unfold IsName at h2
    rcases h2 with h2 | h2 | h2 | h2
    · exact reg_Name_a n h2 w
    · exact reg_Name_b n h2 w
    · exact reg_Name_d n h2 w
    · exact reg_Name_l n h2 w
  · rw [if_neg h2]
    unfold IsName at h2
    by_cases c1 : n < 48
    · exact reg_Name_x1 n (by omega) w
    · by_cases c2 : n < 65
      · exact reg_Name_x2 n (by omega) w
      · by_cases c3 : n < 97
        · exact reg_Name_x3 n (by omega) w
        · exact reg_Name_x4 n (by omega) w
/-- The document's row of all names, as a text. -/
def namesT : ByteArray := ⟨#[34, 45, 48, 49, 50, 51, 52, 53, 54, 55, 56, 57, 97, 98, 99, 100, 101, 102, 103, 104, 105, 106, 107, 108, 109, 110, 111, 112, 113, 114, 115, 116, 117, 118, 119, 120, 121, 122]⟩
theorem names_size : namesT.size = 38 := rfl
theorem names_get : ∀ j, (h : j < 38) → ((namesT.data[j]'h).toNat : Int) = nm j := by decide
end Go.Proofs.Ytchpkeelnfmlbaa
