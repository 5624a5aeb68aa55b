/-
  strings.Contains of a line feed.
-/
import Derived.Test.YtambboomabeioaaBase
import Derived.Test.YtambboomabeioaaShelf
namespace Go.Proofs.Ytambboomabeioaa
open Go.RowKit
theorem Reg.index_has (l : List UInt8) (c : UInt8) : decide (0 ≤ Lib.indexByte l c) = decide (c ∈ l) := by
  induction l with
  | nil => rfl
  | cons b r ih =>
    have hge := Lib.indexByte_ge r c
    unfold Lib.indexByte
    by_cases hb : b = c
    · subst hb; simp
    · have : (b == c) = false := by simpa using hb
      rw [this]
      simp only [Bool.false_eq_true, if_false]
      have hc : decide (c ∈ b :: r) = decide (c ∈ r) := by
        rw [decide_eq_decide, List.mem_cons]
        exact ⟨fun h => h.resolve_left (fun e => hb e.symm), .inr⟩
      rw [hc, ← ih]
      by_cases hi : Lib.indexByte r c = -1
      · rw [hi]; rfl
      · have : (Lib.indexByte r c == -1) = false := by simpa using hi
        rw [this]
        simp only [Bool.false_eq_true, if_false]
        rw [decide_eq_decide]
        omega
theorem str_feed (s : ByteArray) (w : World) : Calls Try.prog 58 #[.string s, .string ⟨#[10]⟩] w fun e w' => e = .returned (.bool (decide ((10 : UInt8) ∈ s.data.toList))) ∧ w = w' := by
  have C := Lib.hid (Try.strings_Index_one s 10)
  have H : Hid (decide (0 ≤ Lib.indexByte s.data.toList 10) = decide ((10 : UInt8) ∈ s.data.toList)) := Reg.index_has _ _
  generalize Lib.indexByte s.data.toList 10 = z at *
  go_enter Try.func58, Try.ntmps58
  go_wp2_with (go_at_call 84; refine (C.out _).mono ?_; rintro e w1 ⟨rfl, rfl⟩)
  go_ret
  exact ⟨by rw [← H.out]; rfl, rfl⟩
end Go.Proofs.Ytambboomabeioaa
