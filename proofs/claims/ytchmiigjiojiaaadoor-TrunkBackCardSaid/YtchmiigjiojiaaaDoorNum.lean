/-
  The bytes of any number, as the program and the document write them: one function says both, for every number.
-/
import Derived.Test.YtchmiigjiojiaaaDoorBase
namespace Go.Proofs.YtchmiigjiojiaaaDoor
open Go.RowKit
set_option maxHeartbeats 400000 in
theorem code_num (n : Int) (w : World) :
    Calls Tryd.prog 19 #[.int .i64 n] w fun e w' => e = .returned (.string (bs (numB n))) ∧ Below w.heap.size w w' := by
  by_cases h0 : n < 0
  · have H := Lib.hid (numB_low h0)
    have g1 : decide (n < 0) = true := by simp; omega
    go_enter Tryd.func19, Tryd.ntmps19
    go_wp2
    all_goals go_ret
    exact ⟨by rw [H.out]; rfl, Below.refl _ _⟩
  by_cases h1 : 2147483647 < n
  · have H := Lib.hid (numB_high h1)
    have g1 : decide (n < 0) = false := by simp; omega
    go_enter Tryd.func19, Tryd.ntmps19
    go_wp2
    all_goals go_ret
    exact ⟨by rw [H.out]; rfl, Below.refl _ _⟩
  · have H := Lib.hid (numB_ok (n := n) (by omega) (by omega))
    have hcv := fun x0 x1 x2 x3 => run_bytes4 (P := Tryd.prog) w 67 9 5 x0 x1 x2 x3 Tryd.underlying67 Tryd.underlying5 Tryd.underlying9
    have g1 : decide (n < 0) = false := by simp; omega
    have g2 : n ≤ 2147483647 := by omega
    have g3 : 0 ≤ n := by omega
    go_enter Tryd.func19, Tryd.ntmps19
    go_wp2
    all_goals go_ret
    exact ⟨by rw [H.out]; rfl, (Below.refl _ _).alloc (Nat.le_refl _) _⟩
set_option maxHeartbeats 400000 in
theorem ref_num (n : Int) (w : World) :
    Calls Tryd.prog 23 #[.int .i64 n] w fun e w' => e = .returned (.string (bs (numB n))) ∧ Below w.heap.size w w' := by
  by_cases h0 : n < 0
  · have H := Lib.hid (numB_low h0)
    have g1 : decide (n < 0) = true := by simp; omega
    go_enter Tryd.func23, Tryd.ntmps23
    go_wp2
    all_goals go_ret
    exact ⟨by rw [H.out]; rfl, Below.refl _ _⟩
  by_cases h1 : 2147483647 < n
  · have H := Lib.hid (numB_high h1)
    have g1 : decide (n < 0) = false := by simp; omega
    go_enter Tryd.func23, Tryd.ntmps23
    go_wp2
    all_goals go_ret
    exact ⟨by rw [H.out]; rfl, Below.refl _ _⟩
  · have H := Lib.hid (numB_ok (n := n) (by omega) (by omega))
    have hcv := fun x0 x1 x2 x3 => run_bytes4 (P := Tryd.prog) w 67 9 5 x0 x1 x2 x3 Tryd.underlying67 Tryd.underlying5 Tryd.underlying9
    have g1 : decide (n < 0) = false := by simp; omega
    have g2 : n ≤ 2147483647 := by omega
    have g3 : 0 ≤ n := by omega
    go_enter Tryd.func23, Tryd.ntmps23
    go_wp2
    all_goals go_ret
    exact ⟨by rw [H.out]; rfl, (Below.refl _ _).alloc (Nat.le_refl _) _⟩
end Go.Proofs.YtchmiigjiojiaaaDoor
