/-
  What package line tells: starts, ends, lines of offsets, columns, places of columns, normal places, first signs.
-/
import Derived.Test.YtlfhfpjffdaomaaDoorLineAround
import Derived.Test.YtlfhfpjffdaomaaDoorLineMore
import Derived.Test.YtlfhfpjffdaomaaDoorUtfCounts
namespace Go.Proofs.YtlfhfpjffdaomaaDoor
open Go.RowKit
theorem ext_seg (s : ByteArray) (a b : Nat) : s.extract a b = bs (Line.seg s.data.toList a b) := by
  rw [Lib.extract_eq, Line.seg, List.drop_take]; rfl
theorem line_Start (s : ByteArray) (k : Int) (hs : s.size ≤ 1000000000000) (w : World) :
    Calls Tryd.prog 16 #[.string s, .int .i64 k] w fun e w' => e = .returned (.int .i64 (Line.start s.data.toList k)) ∧ Below w.heap.size w w' := by
  have c := Lib.hid (fun w => line_ends s k hs w)
  generalize Line.start s.data.toList k = a at *
  generalize Line.stop s.data.toList k = b at *
  go_enter Tryd.func16, Tryd.ntmps16
  go_wp2_with (go_at_call 36; refine (c.out _).mono ?_; rintro e w1 ⟨rfl, hb⟩)
  go_ret
  exact ⟨rfl, hb⟩
theorem line_End (s : ByteArray) (k : Int) (hs : s.size ≤ 1000000000000) (w : World) :
    Calls Tryd.prog 17 #[.string s, .int .i64 k] w fun e w' => e = .returned (.int .i64 (Line.stop s.data.toList k)) ∧ Below w.heap.size w w' := by
  have c := Lib.hid (fun w => line_ends s k hs w)
  generalize Line.start s.data.toList k = a at *
  generalize Line.stop s.data.toList k = b at *
  go_enter Tryd.func17, Tryd.ntmps17
  go_wp2_with (go_at_call 36; refine (c.out _).mono ?_; rintro e w1 ⟨rfl, hb⟩)
  go_ret
  exact ⟨rfl, hb⟩
theorem line_Of (s : ByteArray) (p : Int) (hs : s.size ≤ 1000000000000) (w : World) :
    Calls Tryd.prog 18 #[.string s, .int .i64 p] w fun e w' => e = .returned (.int .i64 (Line.of_ s.data.toList p)) ∧ Below w.heap.size w w' := by
  have c := Lib.hid (fun w => line_around s p hs w)
  dsimp only [Line.aroundT] at c
  generalize Line.start s.data.toList (Line.of_ s.data.toList p) = a at *
  generalize Line.stop s.data.toList (Line.of_ s.data.toList p) = b at *
  generalize Line.of_ s.data.toList p = k at *
  go_enter Tryd.func18, Tryd.ntmps18
  go_wp2_with (go_at_call 35; refine (c.out _).mono ?_; rintro e w1 ⟨rfl, hb⟩)
  go_ret
  exact ⟨rfl, hb⟩
/-- The line of a place. -/
theorem Line.place_line {s : List UInt8} {p : Int} (h : Utf.place s p = true) : ∃ (n k : Nat) (x : Nat × Nat), p = n ∧ (L s)[k]? = some x ∧ x.1 ≤ n ∧ n ≤ x.2 ∧ x.2 ≤ s.length ∧ of_ s p = k ∧ start s (of_ s p) = x.1 ∧ stop s (of_ s p) = x.2 := by
  obtain ⟨n, rfl, hn⟩ := place_nat h
  obtain ⟨k, x, _, hk, h1, h2⟩ := idx_find (place_ok h) hn
  have hl : line s ((k : Nat) : Int) = some x := by rw [line_nat, hk]
  exact ⟨n, k, x, rfl, hk, h1, h2, (L_each hk).2, of_at hk h1 h2, by rw [of_at hk h1 h2, start_some hl], by rw [of_at hk h1 h2, stop_some hl]⟩
set_option maxRecDepth 100000 in
theorem line_Normal (s : ByteArray) (p : Int) (hs : s.size ≤ 1000000000000) (w : World) :
    Calls Tryd.prog 15 #[.string s, .int .i64 p] w fun e w' => e = .returned (.bool (Line.normal s.data.toList p)) ∧ Below w.heap.size w w' := by
  have hl := data_len s
  have c1 := Lib.hid (fun w => utf_Place s p (by omega) w)
  have c := Lib.hid (fun w => line_around s p hs w)
  dsimp only [Line.aroundT] at c
  cases hp : Utf.place s.data.toList p with
  | false =>
    rw [hp] at c1
    have H : Hid (Line.normal s.data.toList p = false) := Line.normal_bad hp
    clear hp
    go_enter Tryd.func15, Tryd.ntmps15
    go_wp2_with (go_at_call 34; refine (c1.out _).mono ?_; rintro e w1 ⟨rfl, rfl⟩)
    go_ret
    exact ⟨by rw [H.out]; rfl, Below.refl _ _⟩
  | true =>
    rw [hp] at c1
    obtain ⟨n, k, x, rfl, hk, h1, h2, h3, e1, e2, e3⟩ := Line.place_line hp
    have H := Line.normal_in hk hp h1 h2
    rw [e2, e3, e1] at c
    clear hp hk e1 e2 e3 hl
    by_cases hlt : n < x.2
    · have K : Hid (Line.normal s.data.toList n = true) := by show _ = _; rw [H]; simp [hlt]
      clear H
      go_enter Tryd.func15, Tryd.ntmps15
      go_wp2_with (first | (go_at_call 34; refine (c1.out _).mono ?_; rintro e w1 ⟨rfl, rfl⟩) | (go_at_call 35; refine (c.out _).mono ?_; rintro e w1 ⟨rfl, hb⟩))
      go_ret
      exact ⟨by rw [K.out]; rfl, hb⟩
    · have K : Hid (Line.normal s.data.toList n = ((x.1 : Int) == (x.2 : Int))) := by
        show _ = _; rw [H]
        rw [decide_eq_false hlt, Bool.false_or]
        apply Bool.eq_iff_iff.2
        simp; omega
      clear H
      have hge : ¬ ((n : Int) < (x.2 : Int)) := by omega
      go_enter Tryd.func15, Tryd.ntmps15
      go_wp2_with (first | (go_at_call 34; refine (c1.out _).mono ?_; rintro e w1 ⟨rfl, rfl⟩) | (go_at_call 35; refine (c.out _).mono ?_; rintro e w1 ⟨rfl, hb⟩))
      go_ret
      exact ⟨by rw [K.out]; rfl, hb⟩
end Go.Proofs.YtlfhfpjffdaomaaDoor
