/-
  What package line tells: starts, ends, lines of offsets, columns, places of columns, normal places, first signs.
-/
import Derived.Test.YtchpkeelnfmlbaaGreatLineAround
import Derived.Test.YtchpkeelnfmlbaaGreatLineMore
import Derived.Test.YtchpkeelnfmlbaaGreatUtfCounts
namespace Go.Proofs.YtchpkeelnfmlbaaGreat
open Go.RowKit
theorem ext_seg (s : ByteArray) (a b : Nat) : s.extract a b = bs (Line.seg s.data.toList a b) := by
  rw [Lib.extract_eq, Line.seg, List.drop_take]; rfl
theorem line_Start (s : ByteArray) (k : Int) (hs : s.size ≤ 1000000000000) (w : World) :
    Calls Tryz.prog 80 #[.string s, .int .i64 k] w fun e w' => e = .returned (.int .i64 (Line.start s.data.toList k)) ∧ Below w.heap.size w w' := by
  have c := Lib.hid (fun w => line_ends s k hs w)
  generalize Line.start s.data.toList k = a at *
  generalize Line.stop s.data.toList k = b at *
  go_enter Tryz.func80, Tryz.ntmps80
  go_wp2_with (go_at_call 92; refine (c.out _).mono ?_; rintro e w1 ⟨rfl, hb⟩)
  go_ret
  exact ⟨rfl, hb⟩
theorem line_End (s : ByteArray) (k : Int) (hs : s.size ≤ 1000000000000) (w : World) :
    Calls Tryz.prog 81 #[.string s, .int .i64 k] w fun e w' => e = .returned (.int .i64 (Line.stop s.data.toList k)) ∧ Below w.heap.size w w' := by
  have c := Lib.hid (fun w => line_ends s k hs w)
  generalize Line.start s.data.toList k = a at *
  generalize Line.stop s.data.toList k = b at *
  go_enter Tryz.func81, Tryz.ntmps81
  go_wp2_with (go_at_call 92; refine (c.out _).mono ?_; rintro e w1 ⟨rfl, hb⟩)
  go_ret
  exact ⟨rfl, hb⟩
theorem line_Of (s : ByteArray) (p : Int) (hs : s.size ≤ 1000000000000) (w : World) :
    Calls Tryz.prog 79 #[.string s, .int .i64 p] w fun e w' => e = .returned (.int .i64 (Line.of_ s.data.toList p)) ∧ Below w.heap.size w w' := by
  have c := Lib.hid (fun w => line_around s p hs w)
  dsimp only [Line.aroundT] at c
  generalize Line.start s.data.toList (Line.of_ s.data.toList p) = a at *
  generalize Line.stop s.data.toList (Line.of_ s.data.toList p) = b at *
  generalize Line.of_ s.data.toList p = k at *
  go_enter Tryz.func79, Tryz.ntmps79
  go_wp2_with (go_at_call 91; refine (c.out _).mono ?_; rintro e w1 ⟨rfl, hb⟩)
  go_ret
  exact ⟨rfl, hb⟩
/-- The line of a place. -/
theorem Line.place_line {s : List UInt8} {p : Int} (h : Utf.place s p = true) : ∃ (n k : Nat) (x : Nat × Nat), p = n ∧ (L s)[k]? = some x ∧ x.1 ≤ n ∧ n ≤ x.2 ∧ x.2 ≤ s.length ∧ of_ s p = k ∧ start s (of_ s p) = x.1 ∧ stop s (of_ s p) = x.2 := by
  obtain ⟨n, rfl, hn⟩ := place_nat h
  obtain ⟨k, x, _, hk, h1, h2⟩ := idx_find (place_ok h) hn
  have hl : line s ((k : Nat) : Int) = some x := by rw [line_nat, hk]
  exact ⟨n, k, x, rfl, hk, h1, h2, (L_each hk).2, of_at hk h1 h2, by rw [of_at hk h1 h2, start_some hl], by rw [of_at hk h1 h2, stop_some hl]⟩
end Go.Proofs.YtchpkeelnfmlbaaGreat
