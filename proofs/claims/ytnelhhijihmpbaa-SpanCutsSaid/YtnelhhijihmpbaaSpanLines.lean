/-
  Package span: a range's lines.
-/
import Derived.Test.YtnelhhijihmpbaaSpanRight
import Derived.Deep.RegionHeld3
namespace Go.Proofs.Ytnelhhijihmpbaa
open Go.RowKit
open Span (starts ends)
/-- A range's lines. -/
def Span.lines (s : List UInt8) (a b : Int) (l : Bool) : Int × Int :=
  if Span.right s a b l = true then (Line.of_ s a, if (!l && (decide (a < b) && starts s b.toNat)) = true then Line.of_ s b - 1 else Line.of_ s b) else (-1, -1)
theorem Span.right_to {s : List UInt8} {a b : Int} {l : Bool} (h : Span.right s a b l = true) : a ≤ b ∧ Utf.place s a = true ∧ Utf.place s b = true := by
  rw [Span.right, Bool.and_eq_true, Bool.and_eq_true, Bool.and_eq_true] at h
  exact ⟨of_decide_eq_true h.1, h.2.1, h.2.2.1⟩
theorem Span.of_small {s : List UInt8} {p : Int} (h : Utf.place s p = true) : 0 ≤ Line.of_ s p ∧ Line.of_ s p ≤ s.length := by
  obtain ⟨n, k, x, rfl, hx, _, _, _, hk, _, _⟩ := Line.place_line h
  have h1 := (List.getElem?_eq_some_iff.1 hx).1
  have h2 := Line.L_length s
  omega
set_option maxHeartbeats 1000000 in
set_option maxRecDepth 100000 in
theorem span_Lines_no (s : ByteArray) (a b : Int) (l : Bool) (hs : s.size ≤ 1000000000000) (h : Span.right s.data.toList a b l = false) (w : World) :
    Calls Try.prog 13 #[.string s, .agg #[.int .i64 a, .int .i64 b, .bool l]] w fun e w' => e = .returned (.tuple #[.int .i64 (-1), .int .i64 (-1)]) ∧ Below w.heap.size w w' := by
  have K := RBox.new w a b l
  obtain ⟨q0, q1, q2, f0, f1, f2⟩ := K.cells
  have R1 := Lib.hid (fun w => span_Right s a b l hs w)
  rw [h] at R1
  clear hs h
  go_enter Try.func13, Try.ntmps13
  go_wp2_with (go_at_call 11; (with_reducible refine (R1.out _).mono ?_); rintro e u ⟨rfl, hb⟩; replace K := K.on hb; clear hb; clear q0 q1 q2 f0 f1 f2; obtain ⟨q0, q1, q2, f0, f1, f2⟩ := K.cells)
  go_ret2
  exact ⟨rfl, K.below⟩
set_option maxHeartbeats 1000000 in
set_option maxRecDepth 100000 in
theorem span_Lines_whole (s : ByteArray) (a b : Int) (hs : s.size ≤ 1000000000000) (h : Span.right s.data.toList a b true = true) (w : World) :
    Calls Try.prog 13 #[.string s, .agg #[.int .i64 a, .int .i64 b, .bool true]] w fun e w' => e = .returned (.tuple #[.int .i64 (Line.of_ s.data.toList a), .int .i64 (Line.of_ s.data.toList b)]) ∧ Below w.heap.size w w' := by
  have K := RBox.new w a b true
  obtain ⟨q0, q1, q2, f0, f1, f2⟩ := K.cells
  have R1 := Lib.hid (fun w => span_Right s a b true hs w)
  rw [h] at R1
  have A1 := Lib.hid (fun w => line_Of s a hs w)
  have A2 := Lib.hid (fun w => line_Of s b hs w)
  generalize Line.of_ s.data.toList a = x at *
  generalize Line.of_ s.data.toList b = y at *
  clear hs h
  go_enter Try.func13, Try.ntmps13
  go_wp2_with (first | (go_at_call 11; (with_reducible refine (R1.out _).mono ?_); rintro e u ⟨rfl, hb⟩; replace K := K.on hb; clear hb; clear q0 q1 q2 f0 f1 f2; obtain ⟨q0, q1, q2, f0, f1, f2⟩ := K.cells) | fail)
  go_region_held3 (fun u => u.cell? ⟨w.heap.size, 0, none⟩ = some (.int .i64 a) ∧ u.cell? ⟨w.heap.size, 1, none⟩ = some (.int .i64 b)) (first | (with_reducible exact ⟨by assumption, by assumption⟩) | go_keep)
    (first
      | (go_at_call 19; (with_reducible refine (A1.out _).mono ?_); rintro e u ⟨rfl, hb⟩; (first | replace K := K.on hb | replace K := K.ond hb); clear hb; clear q0 q1 q2 f0 f1 f2; obtain ⟨q0, q1, q2, f0, f1, f2⟩ := K.cells)
      | (go_at_call 19; (with_reducible refine (A2.out _).mono ?_); rintro e u ⟨rfl, hb⟩; (first | replace K := K.on hb | replace K := K.ond hb); clear hb; clear q0 q1 q2 f0 f1 f2; obtain ⟨q0, q1, q2, f0, f1, f2⟩ := K.cells))
  all_goals go_wp2
  all_goals go_ret2
  all_goals exact ⟨rfl, K.below⟩
set_option maxHeartbeats 1000000 in
set_option maxRecDepth 100000 in
theorem span_Lines_none (s : ByteArray) (a b : Int) (hs : s.size ≤ 1000000000000) (h : Span.right s.data.toList a b false = true) (h0 : ¬ a < b) (w : World) :
    Calls Try.prog 13 #[.string s, .agg #[.int .i64 a, .int .i64 b, .bool false]] w fun e w' => e = .returned (.tuple #[.int .i64 (Line.of_ s.data.toList a), .int .i64 (Line.of_ s.data.toList b)]) ∧ Below w.heap.size w w' := by
  have K := RBox.new w a b false
  obtain ⟨q0, q1, q2, f0, f1, f2⟩ := K.cells
  have R1 := Lib.hid (fun w => span_Right s a b false hs w)
  rw [h] at R1
  have g0 : decide (a < b) = false := decide_eq_false h0
  have A1 := Lib.hid (fun w => line_Of s a hs w)
  have A2 := Lib.hid (fun w => line_Of s b hs w)
  generalize Line.of_ s.data.toList a = x at *
  generalize Line.of_ s.data.toList b = y at *
  clear hs h h0
  go_enter Try.func13, Try.ntmps13
  go_wp2_with (first | (go_at_call 11; (with_reducible refine (R1.out _).mono ?_); rintro e u ⟨rfl, hb⟩; replace K := K.on hb; clear hb; clear q0 q1 q2 f0 f1 f2; obtain ⟨q0, q1, q2, f0, f1, f2⟩ := K.cells) | fail)
  go_region_held3 (fun u => u.cell? ⟨w.heap.size, 0, none⟩ = some (.int .i64 a) ∧ u.cell? ⟨w.heap.size, 1, none⟩ = some (.int .i64 b)) (first | (with_reducible exact ⟨by assumption, by assumption⟩) | go_keep)
    (first
      | (go_at_call 19; (with_reducible refine (A1.out _).mono ?_); rintro e u ⟨rfl, hb⟩; (first | replace K := K.on hb | replace K := K.ond hb); clear hb; clear q0 q1 q2 f0 f1 f2; obtain ⟨q0, q1, q2, f0, f1, f2⟩ := K.cells)
      | (go_at_call 19; (with_reducible refine (A2.out _).mono ?_); rintro e u ⟨rfl, hb⟩; (first | replace K := K.on hb | replace K := K.ond hb); clear hb; clear q0 q1 q2 f0 f1 f2; obtain ⟨q0, q1, q2, f0, f1, f2⟩ := K.cells))
  all_goals go_wp2
  all_goals go_ret2
  all_goals exact ⟨rfl, K.below⟩
set_option maxHeartbeats 1000000 in
set_option maxRecDepth 100000 in
theorem span_Lines_in (s : ByteArray) (a b : Int) (hs : s.size ≤ 1000000000000) (h : Span.right s.data.toList a b false = true) (h0 : a < b) (h1 : starts s.data.toList b.toNat = false) (w : World) :
    Calls Try.prog 13 #[.string s, .agg #[.int .i64 a, .int .i64 b, .bool false]] w fun e w' => e = .returned (.tuple #[.int .i64 (Line.of_ s.data.toList a), .int .i64 (Line.of_ s.data.toList b)]) ∧ Below w.heap.size w w' := by
  have K := RBox.new w a b false
  obtain ⟨q0, q1, q2, f0, f1, f2⟩ := K.cells
  have R1 := Lib.hid (fun w => span_Right s a b false hs w)
  rw [h] at R1
  have g0 : decide (a < b) = true := decide_eq_true h0
  have hp := (Span.right_to h).2.2
  obtain ⟨m, hq, hm⟩ := Line.place_nat hp
  rw [data_len] at hm
  have S0 := fun w => span_starts s hm (by omega) w
  rw [← hq, show starts s.data.toList m = starts s.data.toList b.toNat by rw [hq]; rfl, h1] at S0
  have S1 := Lib.hid S0
  have A1 := Lib.hid (fun w => line_Of s a hs w)
  have A2 := Lib.hid (fun w => line_Of s b hs w)
  generalize Line.of_ s.data.toList a = x at *
  generalize Line.of_ s.data.toList b = y at *
  clear hs h h1 hp hq hm S0
  go_enter Try.func13, Try.ntmps13
  go_wp2_with (first | (go_at_call 11; (with_reducible refine (R1.out _).mono ?_); rintro e u ⟨rfl, hb⟩; replace K := K.on hb; clear hb; clear q0 q1 q2 f0 f1 f2; obtain ⟨q0, q1, q2, f0, f1, f2⟩ := K.cells) | fail)
  go_region_held3 (fun u => u.cell? ⟨w.heap.size, 0, none⟩ = some (.int .i64 a) ∧ u.cell? ⟨w.heap.size, 1, none⟩ = some (.int .i64 b)) (first | (with_reducible exact ⟨by assumption, by assumption⟩) | go_keep)
    (first
      | (go_at_call 19; (with_reducible refine (A1.out _).mono ?_); rintro e u ⟨rfl, hb⟩; (first | replace K := K.on hb | replace K := K.ond hb); clear hb; clear q0 q1 q2 f0 f1 f2; obtain ⟨q0, q1, q2, f0, f1, f2⟩ := K.cells)
      | (go_at_call 19; (with_reducible refine (A2.out _).mono ?_); rintro e u ⟨rfl, hb⟩; (first | replace K := K.on hb | replace K := K.ond hb); clear hb; clear q0 q1 q2 f0 f1 f2; obtain ⟨q0, q1, q2, f0, f1, f2⟩ := K.cells))
  all_goals go_wp2_with (go_at_call 27; (with_reducible refine (S1.out _).mono ?_); rintro e u ⟨rfl, rfl⟩)
  all_goals go_ret2
  all_goals exact ⟨rfl, K.below⟩
set_option maxHeartbeats 1000000 in
set_option maxRecDepth 100000 in
theorem span_Lines_edge (s : ByteArray) (a b : Int) (hs : s.size ≤ 1000000000000) (h : Span.right s.data.toList a b false = true) (h0 : a < b) (h1 : starts s.data.toList b.toNat = true) (w : World) :
    Calls Try.prog 13 #[.string s, .agg #[.int .i64 a, .int .i64 b, .bool false]] w fun e w' => e = .returned (.tuple #[.int .i64 (Line.of_ s.data.toList a), .int .i64 (Line.of_ s.data.toList b - 1)]) ∧ Below w.heap.size w w' := by
  have K := RBox.new w a b false
  obtain ⟨q0, q1, q2, f0, f1, f2⟩ := K.cells
  have R1 := Lib.hid (fun w => span_Right s a b false hs w)
  rw [h] at R1
  have g0 : decide (a < b) = true := decide_eq_true h0
  have hp := (Span.right_to h).2.2
  obtain ⟨m, hq, hm⟩ := Line.place_nat hp
  rw [data_len] at hm
  have S0 := fun w => span_starts s hm (by omega) w
  rw [← hq, show starts s.data.toList m = starts s.data.toList b.toNat by rw [hq]; rfl, h1] at S0
  have S1 := Lib.hid S0
  have A1 := Lib.hid (fun w => line_Of s a hs w)
  have A2 := Lib.hid (fun w => line_Of s b hs w)
  have hy := Span.of_small hp
  rw [data_len] at hy
  have g5 : IntKind.i64.wrap (Line.of_ s.data.toList b - 1) = Line.of_ s.data.toList b - 1 := by rw [IntKind.wrap_i64]; omega
  have g6 : wrap64 (Line.of_ s.data.toList b - 1) = Line.of_ s.data.toList b - 1 := by unfold wrap64; omega
  generalize Line.of_ s.data.toList a = x at *
  generalize Line.of_ s.data.toList b = y at *
  clear hs h h1 hp hq hm S0 hy
  go_enter Try.func13, Try.ntmps13
  go_wp2_with (first | (go_at_call 11; (with_reducible refine (R1.out _).mono ?_); rintro e u ⟨rfl, hb⟩; replace K := K.on hb; clear hb; clear q0 q1 q2 f0 f1 f2; obtain ⟨q0, q1, q2, f0, f1, f2⟩ := K.cells) | fail)
  go_region_held3 (fun u => u.cell? ⟨w.heap.size, 0, none⟩ = some (.int .i64 a) ∧ u.cell? ⟨w.heap.size, 1, none⟩ = some (.int .i64 b)) (first | (with_reducible exact ⟨by assumption, by assumption⟩) | go_keep)
    (first
      | (go_at_call 19; (with_reducible refine (A1.out _).mono ?_); rintro e u ⟨rfl, hb⟩; (first | replace K := K.on hb | replace K := K.ond hb); clear hb; clear q0 q1 q2 f0 f1 f2; obtain ⟨q0, q1, q2, f0, f1, f2⟩ := K.cells)
      | (go_at_call 19; (with_reducible refine (A2.out _).mono ?_); rintro e u ⟨rfl, hb⟩; (first | replace K := K.on hb | replace K := K.ond hb); clear hb; clear q0 q1 q2 f0 f1 f2; obtain ⟨q0, q1, q2, f0, f1, f2⟩ := K.cells))
  all_goals go_wp2_with (go_at_call 27; (with_reducible refine (S1.out _).mono ?_); rintro e u ⟨rfl, rfl⟩)
  all_goals go_ret2
  all_goals exact ⟨rfl, K.below⟩
theorem span_Lines (s : ByteArray) (a b : Int) (l : Bool) (hs : s.size ≤ 1000000000000) (w : World) :
    Calls Try.prog 13 #[.string s, .agg #[.int .i64 a, .int .i64 b, .bool l]] w fun e w' => e = .returned (.tuple #[.int .i64 (Span.lines s.data.toList a b l).1, .int .i64 (Span.lines s.data.toList a b l).2]) ∧ Below w.heap.size w w' := by
  unfold Span.lines
  cases h : Span.right s.data.toList a b l with
  | false => rw [if_neg (by decide)]; exact span_Lines_no s a b l hs h w
  | true =>
    rw [if_pos rfl]
    cases l with
    | true => rw [if_neg (by simp)]; exact span_Lines_whole s a b hs h w
    | false =>
      by_cases h0 : a < b
      · cases h1 : starts s.data.toList b.toNat with
        | false => rw [if_neg (by simp)]; exact span_Lines_in s a b hs h h0 h1 w
        | true => rw [if_pos (by simp [h0])]; exact span_Lines_edge s a b hs h h0 h1 w
      · rw [if_neg (by simp [h0])]; exact span_Lines_none s a b hs h h0 w
end Go.Proofs.Ytnelhhijihmpbaa
