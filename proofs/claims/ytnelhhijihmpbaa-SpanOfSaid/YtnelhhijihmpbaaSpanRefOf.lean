/-
  What a motion of a kind goes over, by the document.
-/
import Derived.Test.YtnelhhijihmpbaaSpanRight
import Derived.Test.YtnelhhijihmpbaaLineRefs2
namespace Go.Proofs.Ytnelhhijihmpbaa
open Go.RowKit
open Span (rng res top)
set_option maxHeartbeats 1000000 in
set_option maxRecDepth 100000 in
theorem ref22_Of_p (s : ByteArray) (p q kind : Int) (hs : s.size ≤ 1000000000000) (h1 : Utf.place s.data.toList p = false) (w : World) :
    Calls Try.prog 8 #[.string s, .int .i64 p, .int .i64 q, .int .i64 kind] w fun e w' => e = .returned (.tuple #[.agg #[.int .i64 0, .int .i64 0, .bool false], .bool false]) ∧ Below w.heap.size w w' := by
  have K := RBox.new w 0 0 false
  obtain ⟨q0, q1, q2, f0, f1, f2⟩ := K.cells
  have P1 := Lib.hid (fun w => ref_Place s p (by omega) w)
  have P2 := Lib.hid (fun w => ref_Place s q (by omega) w)
  rw [h1] at P1
  clear hs h1 P2
  go_enter Try.func8, Try.ntmps8
  go_wp2_with (first
    | (go_at_call 21; (with_reducible refine (P1.out _).mono ?_); rintro e u ⟨rfl, hb⟩; replace K := K.on hb; clear q0 q1 q2 f0 f1 f2 hb; obtain ⟨q0, q1, q2, f0, f1, f2⟩ := K.cells))
  exact ret_three1 rfl rfl (three_row K.blk) rfl Try.underlying24 rfl ⟨rfl, below_three K.below (Nat.le_refl _)⟩
set_option maxHeartbeats 1000000 in
set_option maxRecDepth 100000 in
theorem ref22_Of_q (s : ByteArray) (p q kind : Int) (hs : s.size ≤ 1000000000000) (h1 : Utf.place s.data.toList p = true) (h2 : Utf.place s.data.toList q = false) (w : World) :
    Calls Try.prog 8 #[.string s, .int .i64 p, .int .i64 q, .int .i64 kind] w fun e w' => e = .returned (.tuple #[.agg #[.int .i64 0, .int .i64 0, .bool false], .bool false]) ∧ Below w.heap.size w w' := by
  have K := RBox.new w 0 0 false
  obtain ⟨q0, q1, q2, f0, f1, f2⟩ := K.cells
  have P1 := Lib.hid (fun w => ref_Place s p (by omega) w)
  have P2 := Lib.hid (fun w => ref_Place s q (by omega) w)
  rw [h1] at P1
  rw [h2] at P2
  clear hs h1 h2
  go_enter Try.func8, Try.ntmps8
  go_wp2_with (first
    | (go_at_call 21; (with_reducible refine (P1.out _).mono ?_); rintro e u ⟨rfl, hb⟩; replace K := K.on hb; clear q0 q1 q2 f0 f1 f2 hb; obtain ⟨q0, q1, q2, f0, f1, f2⟩ := K.cells)
    | (go_at_call 21; (with_reducible refine (P2.out _).mono ?_); rintro e u ⟨rfl, hb⟩; replace K := K.on hb; clear q0 q1 q2 f0 f1 f2 hb; obtain ⟨q0, q1, q2, f0, f1, f2⟩ := K.cells))
  exact ret_three1 rfl rfl (three_row K.blk) rfl Try.underlying24 rfl ⟨rfl, below_three K.below (Nat.le_refl _)⟩
set_option maxHeartbeats 1000000 in
set_option maxRecDepth 100000 in
theorem ref22_Of_low (s : ByteArray) (p q kind : Int) (hs : s.size ≤ 1000000000000) (h1 : Utf.place s.data.toList p = true) (h2 : Utf.place s.data.toList q = true) (k1 : kind < 1) (w : World) :
    Calls Try.prog 8 #[.string s, .int .i64 p, .int .i64 q, .int .i64 kind] w fun e w' => e = .returned (.tuple #[.agg #[.int .i64 0, .int .i64 0, .bool false], .bool false]) ∧ Below w.heap.size w w' := by
  have K := RBox.new w 0 0 false
  obtain ⟨q0, q1, q2, f0, f1, f2⟩ := K.cells
  have P1 := Lib.hid (fun w => ref_Place s p (by omega) w)
  have P2 := Lib.hid (fun w => ref_Place s q (by omega) w)
  rw [h1] at P1
  rw [h2] at P2
  have g1 : decide (kind < 1) = true := decide_eq_true k1
  clear hs h1 h2 k1
  go_enter Try.func8, Try.ntmps8
  go_wp2_with (first
    | (go_at_call 21; (with_reducible refine (P1.out _).mono ?_); rintro e u ⟨rfl, hb⟩; replace K := K.on hb; clear q0 q1 q2 f0 f1 f2 hb; obtain ⟨q0, q1, q2, f0, f1, f2⟩ := K.cells)
    | (go_at_call 21; (with_reducible refine (P2.out _).mono ?_); rintro e u ⟨rfl, hb⟩; replace K := K.on hb; clear q0 q1 q2 f0 f1 f2 hb; obtain ⟨q0, q1, q2, f0, f1, f2⟩ := K.cells))
  exact ret_three1 rfl rfl (three_row K.blk) rfl Try.underlying24 rfl ⟨rfl, below_three K.below (Nat.le_refl _)⟩
set_option maxHeartbeats 1000000 in
set_option maxRecDepth 100000 in
theorem ref22_Of_high (s : ByteArray) (p q kind : Int) (hs : s.size ≤ 1000000000000) (h1 : Utf.place s.data.toList p = true) (h2 : Utf.place s.data.toList q = true) (k1 : 3 < kind) (w : World) :
    Calls Try.prog 8 #[.string s, .int .i64 p, .int .i64 q, .int .i64 kind] w fun e w' => e = .returned (.tuple #[.agg #[.int .i64 0, .int .i64 0, .bool false], .bool false]) ∧ Below w.heap.size w w' := by
  have K := RBox.new w 0 0 false
  obtain ⟨q0, q1, q2, f0, f1, f2⟩ := K.cells
  have P1 := Lib.hid (fun w => ref_Place s p (by omega) w)
  have P2 := Lib.hid (fun w => ref_Place s q (by omega) w)
  rw [h1] at P1
  rw [h2] at P2
  have g1 : decide (kind < 1) = false := decide_eq_false (by omega)
  have g2 : decide (3 < kind) = true := decide_eq_true k1
  clear hs h1 h2 k1
  go_enter Try.func8, Try.ntmps8
  go_wp2_with (first
    | (go_at_call 21; (with_reducible refine (P1.out _).mono ?_); rintro e u ⟨rfl, hb⟩; replace K := K.on hb; clear q0 q1 q2 f0 f1 f2 hb; obtain ⟨q0, q1, q2, f0, f1, f2⟩ := K.cells)
    | (go_at_call 21; (with_reducible refine (P2.out _).mono ?_); rintro e u ⟨rfl, hb⟩; replace K := K.on hb; clear q0 q1 q2 f0 f1 f2 hb; obtain ⟨q0, q1, q2, f0, f1, f2⟩ := K.cells))
  exact ret_three1 rfl rfl (three_row K.blk) rfl Try.underlying24 rfl ⟨rfl, below_three K.below (Nat.le_refl _)⟩
set_option maxHeartbeats 1000000 in
set_option maxRecDepth 100000 in
theorem ref22_Of_short (s : ByteArray) (a b : Int) (hs : s.size ≤ 1000000000000) (h0 : a ≤ b) (h1 : Utf.place s.data.toList a = true) (h2 : Utf.place s.data.toList b = true) (w : World) :
    Calls Try.prog 8 #[.string s, .int .i64 a, .int .i64 b, .int .i64 1] w fun e w' => e = .returned (.tuple #[.agg #[.int .i64 a, .int .i64 b, .bool false], .bool true]) ∧ Below w.heap.size w w' := by
  have K := RBox.new w 0 0 false
  obtain ⟨q0, q1, q2, f0, f1, f2⟩ := K.cells
  have P1 := Lib.hid (fun w => ref_Place s a (by omega) w)
  have P2 := Lib.hid (fun w => ref_Place s b (by omega) w)
  rw [h1] at P1
  rw [h2] at P2
  have g0 : decide (b < a) = false := decide_eq_false (by omega)
  clear hs h0 h1 h2
  go_enter Try.func8, Try.ntmps8
  go_wp2_with (first
    | (go_at_call 21; (with_reducible refine (P1.out _).mono ?_); rintro e u ⟨rfl, hb⟩; replace K := K.on hb; clear q0 q1 q2 f0 f1 f2 hb; obtain ⟨q0, q1, q2, f0, f1, f2⟩ := K.cells)
    | (go_at_call 21; (with_reducible refine (P2.out _).mono ?_); rintro e u ⟨rfl, hb⟩; replace K := K.on hb; clear q0 q1 q2 f0 f1 f2 hb; obtain ⟨q0, q1, q2, f0, f1, f2⟩ := K.cells))
  exact ret_three1 rfl rfl (three_row K.blk) rfl Try.underlying24 rfl ⟨rfl, below_three K.below (Nat.le_refl _)⟩
set_option maxHeartbeats 1000000 in
set_option maxRecDepth 100000 in
theorem ref22_Of_edge (s : ByteArray) (a b : Int) (hs : s.size ≤ 1000000000000) (h0 : a ≤ b) (h1 : Utf.place s.data.toList a = true) (h2 : Utf.place s.data.toList b = true) (hE : ¬ b < Line.stop s.data.toList (Line.of_ s.data.toList b)) (w : World) :
    Calls Try.prog 8 #[.string s, .int .i64 a, .int .i64 b, .int .i64 2] w fun e w' => e = .returned (.tuple #[.agg #[.int .i64 a, .int .i64 b, .bool false], .bool true]) ∧ Below w.heap.size w w' := by
  have K := RBox.new w 0 0 false
  obtain ⟨q0, q1, q2, f0, f1, f2⟩ := K.cells
  have P1 := Lib.hid (fun w => ref_Place s a (by omega) w)
  have P2 := Lib.hid (fun w => ref_Place s b (by omega) w)
  rw [h1] at P1
  rw [h2] at P2
  have g0 : decide (b < a) = false := decide_eq_false (by omega)
  have A3 := Lib.hid (fun w => ref4_Of s b hs w)
  have A4 := Lib.hid (fun w => ref4_End s (Line.of_ s.data.toList b) hs w)
  have g3 : decide (b < Line.stop s.data.toList (Line.of_ s.data.toList b)) = false := decide_eq_false hE
  generalize Line.stop s.data.toList (Line.of_ s.data.toList b) = y at *
  generalize Line.of_ s.data.toList b = j at *
  clear hs h0 h1 h2 hE
  go_enter Try.func8, Try.ntmps8
  go_wp2_with (first
    | (go_at_call 21; (with_reducible refine (P1.out _).mono ?_); rintro e u ⟨rfl, hb⟩; replace K := K.on hb; clear q0 q1 q2 f0 f1 f2 hb; obtain ⟨q0, q1, q2, f0, f1, f2⟩ := K.cells)
    | (go_at_call 21; (with_reducible refine (P2.out _).mono ?_); rintro e u ⟨rfl, hb⟩; replace K := K.on hb; clear q0 q1 q2 f0 f1 f2 hb; obtain ⟨q0, q1, q2, f0, f1, f2⟩ := K.cells)
    | (go_at_call 23; (with_reducible refine (A3.out _).mono ?_); rintro e u ⟨rfl, hb⟩; replace K := K.on hb; clear q0 q1 q2 f0 f1 f2 hb; obtain ⟨q0, q1, q2, f0, f1, f2⟩ := K.cells)
    | (go_at_call 24; (with_reducible refine (A4.out _).mono ?_); rintro e u ⟨rfl, hb⟩; replace K := K.on hb; clear q0 q1 q2 f0 f1 f2 hb; obtain ⟨q0, q1, q2, f0, f1, f2⟩ := K.cells))
  exact ret_three1 rfl rfl (three_row K.blk) rfl Try.underlying24 rfl ⟨rfl, below_three K.below (Nat.le_refl _)⟩
set_option maxHeartbeats 1000000 in
set_option maxRecDepth 100000 in
theorem ref22_Of_rune (s : ByteArray) (a b : Int) (hs : s.size ≤ 1000000000000) (h0 : a ≤ b) (h1 : Utf.place s.data.toList a = true) (h2 : Utf.place s.data.toList b = true) (hE : b < Line.stop s.data.toList (Line.of_ s.data.toList b)) (w : World) :
    Calls Try.prog 8 #[.string s, .int .i64 a, .int .i64 b, .int .i64 2] w fun e w' => e = .returned (.tuple #[.agg #[.int .i64 a, .int .i64 (Utf.next s.data.toList b), .bool false], .bool true]) ∧ Below w.heap.size w w' := by
  have K := RBox.new w 0 0 false
  obtain ⟨q0, q1, q2, f0, f1, f2⟩ := K.cells
  have P1 := Lib.hid (fun w => ref_Place s a (by omega) w)
  have P2 := Lib.hid (fun w => ref_Place s b (by omega) w)
  rw [h1] at P1
  rw [h2] at P2
  have g0 : decide (b < a) = false := decide_eq_false (by omega)
  have A3 := Lib.hid (fun w => ref4_Of s b hs w)
  have A4 := Lib.hid (fun w => ref4_End s (Line.of_ s.data.toList b) hs w)
  have g3 : decide (b < Line.stop s.data.toList (Line.of_ s.data.toList b)) = true := decide_eq_true hE
  have N1 := Lib.hid (fun w => ref_Next s b (by omega) w)
  generalize Line.stop s.data.toList (Line.of_ s.data.toList b) = y at *
  generalize Line.of_ s.data.toList b = j at *
  generalize Utf.next s.data.toList b = z at *
  clear hs h0 h1 h2 hE
  go_enter Try.func8, Try.ntmps8
  go_wp2_with (first
    | (go_at_call 21; (with_reducible refine (P1.out _).mono ?_); rintro e u ⟨rfl, hb⟩; replace K := K.on hb; clear q0 q1 q2 f0 f1 f2 hb; obtain ⟨q0, q1, q2, f0, f1, f2⟩ := K.cells)
    | (go_at_call 21; (with_reducible refine (P2.out _).mono ?_); rintro e u ⟨rfl, hb⟩; replace K := K.on hb; clear q0 q1 q2 f0 f1 f2 hb; obtain ⟨q0, q1, q2, f0, f1, f2⟩ := K.cells)
    | (go_at_call 23; (with_reducible refine (A3.out _).mono ?_); rintro e u ⟨rfl, hb⟩; replace K := K.on hb; clear q0 q1 q2 f0 f1 f2 hb; obtain ⟨q0, q1, q2, f0, f1, f2⟩ := K.cells)
    | (go_at_call 24; (with_reducible refine (A4.out _).mono ?_); rintro e u ⟨rfl, hb⟩; replace K := K.on hb; clear q0 q1 q2 f0 f1 f2 hb; obtain ⟨q0, q1, q2, f0, f1, f2⟩ := K.cells)
    | (go_at_call 25; (with_reducible refine (N1.out _).mono ?_); rintro e u ⟨rfl, hb⟩; replace K := K.on hb; clear q0 q1 q2 f0 f1 f2 hb; obtain ⟨q0, q1, q2, f0, f1, f2⟩ := K.cells))
  exact ret_three1 rfl rfl (three_row K.blk) rfl Try.underlying24 rfl ⟨rfl, below_three K.below (Nat.le_refl _)⟩
set_option maxHeartbeats 1000000 in
set_option maxRecDepth 100000 in
theorem ref22_Of_whole (s : ByteArray) (a b : Int) (hs : s.size ≤ 1000000000000) (h0 : a ≤ b) (h1 : Utf.place s.data.toList a = true) (h2 : Utf.place s.data.toList b = true) (w : World) :
    Calls Try.prog 8 #[.string s, .int .i64 a, .int .i64 b, .int .i64 3] w fun e w' => e = .returned (.tuple #[.agg #[.int .i64 (Line.start s.data.toList (Line.of_ s.data.toList a)), .int .i64 (Line.stop s.data.toList (Line.of_ s.data.toList b)), .bool true], .bool true]) ∧ Below w.heap.size w w' := by
  have K := RBox.new w 0 0 false
  obtain ⟨q0, q1, q2, f0, f1, f2⟩ := K.cells
  have P1 := Lib.hid (fun w => ref_Place s a (by omega) w)
  have P2 := Lib.hid (fun w => ref_Place s b (by omega) w)
  rw [h1] at P1
  rw [h2] at P2
  have g0 : decide (b < a) = false := decide_eq_false (by omega)
  have A1 := Lib.hid (fun w => ref4_Of s a hs w)
  have A2 := Lib.hid (fun w => ref4_Start s (Line.of_ s.data.toList a) hs w)
  have A3 := Lib.hid (fun w => ref4_Of s b hs w)
  have A4 := Lib.hid (fun w => ref4_End s (Line.of_ s.data.toList b) hs w)
  generalize Line.start s.data.toList (Line.of_ s.data.toList a) = x at *
  generalize Line.stop s.data.toList (Line.of_ s.data.toList b) = y at *
  generalize Line.of_ s.data.toList a = i at *
  generalize Line.of_ s.data.toList b = j at *
  clear hs h0 h1 h2
  go_enter Try.func8, Try.ntmps8
  go_wp2_with (first
    | (go_at_call 21; (with_reducible refine (P1.out _).mono ?_); rintro e u ⟨rfl, hb⟩; replace K := K.on hb; clear q0 q1 q2 f0 f1 f2 hb; obtain ⟨q0, q1, q2, f0, f1, f2⟩ := K.cells)
    | (go_at_call 21; (with_reducible refine (P2.out _).mono ?_); rintro e u ⟨rfl, hb⟩; replace K := K.on hb; clear q0 q1 q2 f0 f1 f2 hb; obtain ⟨q0, q1, q2, f0, f1, f2⟩ := K.cells)
    | (go_at_call 23; (with_reducible refine (A1.out _).mono ?_); rintro e u ⟨rfl, hb⟩; replace K := K.on hb; clear q0 q1 q2 f0 f1 f2 hb; obtain ⟨q0, q1, q2, f0, f1, f2⟩ := K.cells)
    | (go_at_call 22; (with_reducible refine (A2.out _).mono ?_); rintro e u ⟨rfl, hb⟩; replace K := K.on hb; clear q0 q1 q2 f0 f1 f2 hb; obtain ⟨q0, q1, q2, f0, f1, f2⟩ := K.cells)
    | (go_at_call 23; (with_reducible refine (A3.out _).mono ?_); rintro e u ⟨rfl, hb⟩; replace K := K.on hb; clear q0 q1 q2 f0 f1 f2 hb; obtain ⟨q0, q1, q2, f0, f1, f2⟩ := K.cells)
    | (go_at_call 24; (with_reducible refine (A4.out _).mono ?_); rintro e u ⟨rfl, hb⟩; replace K := K.on hb; clear q0 q1 q2 f0 f1 f2 hb; obtain ⟨q0, q1, q2, f0, f1, f2⟩ := K.cells))
  exact ret_three1 rfl rfl (three_row K.blk) rfl Try.underlying24 rfl ⟨rfl, below_three K.below (Nat.le_refl _)⟩
set_option maxHeartbeats 1000000 in
set_option maxRecDepth 100000 in
theorem ref22_Of_short_turned (s : ByteArray) (a b : Int) (hs : s.size ≤ 1000000000000) (h0 : a < b) (h1 : Utf.place s.data.toList a = true) (h2 : Utf.place s.data.toList b = true) (w : World) :
    Calls Try.prog 8 #[.string s, .int .i64 b, .int .i64 a, .int .i64 1] w fun e w' => e = .returned (.tuple #[.agg #[.int .i64 a, .int .i64 b, .bool false], .bool true]) ∧ Below w.heap.size w w' := by
  have K := RBox.new w 0 0 false
  obtain ⟨q0, q1, q2, f0, f1, f2⟩ := K.cells
  have P1 := Lib.hid (fun w => ref_Place s a (by omega) w)
  have P2 := Lib.hid (fun w => ref_Place s b (by omega) w)
  rw [h1] at P1
  rw [h2] at P2
  have g0 : decide (a < b) = true := decide_eq_true (by omega)
  clear hs h0 h1 h2
  go_enter Try.func8, Try.ntmps8
  go_wp2_with (first
    | (go_at_call 21; (with_reducible refine (P1.out _).mono ?_); rintro e u ⟨rfl, hb⟩; replace K := K.on hb; clear q0 q1 q2 f0 f1 f2 hb; obtain ⟨q0, q1, q2, f0, f1, f2⟩ := K.cells)
    | (go_at_call 21; (with_reducible refine (P2.out _).mono ?_); rintro e u ⟨rfl, hb⟩; replace K := K.on hb; clear q0 q1 q2 f0 f1 f2 hb; obtain ⟨q0, q1, q2, f0, f1, f2⟩ := K.cells))
  exact ret_three1 rfl rfl (three_row K.blk) rfl Try.underlying24 rfl ⟨rfl, below_three K.below (Nat.le_refl _)⟩
set_option maxHeartbeats 1000000 in
set_option maxRecDepth 100000 in
theorem ref22_Of_edge_turned (s : ByteArray) (a b : Int) (hs : s.size ≤ 1000000000000) (h0 : a < b) (h1 : Utf.place s.data.toList a = true) (h2 : Utf.place s.data.toList b = true) (hE : ¬ b < Line.stop s.data.toList (Line.of_ s.data.toList b)) (w : World) :
    Calls Try.prog 8 #[.string s, .int .i64 b, .int .i64 a, .int .i64 2] w fun e w' => e = .returned (.tuple #[.agg #[.int .i64 a, .int .i64 b, .bool false], .bool true]) ∧ Below w.heap.size w w' := by
  have K := RBox.new w 0 0 false
  obtain ⟨q0, q1, q2, f0, f1, f2⟩ := K.cells
  have P1 := Lib.hid (fun w => ref_Place s a (by omega) w)
  have P2 := Lib.hid (fun w => ref_Place s b (by omega) w)
  rw [h1] at P1
  rw [h2] at P2
  have g0 : decide (a < b) = true := decide_eq_true (by omega)
  have A3 := Lib.hid (fun w => ref4_Of s b hs w)
  have A4 := Lib.hid (fun w => ref4_End s (Line.of_ s.data.toList b) hs w)
  have g3 : decide (b < Line.stop s.data.toList (Line.of_ s.data.toList b)) = false := decide_eq_false hE
  generalize Line.stop s.data.toList (Line.of_ s.data.toList b) = y at *
  generalize Line.of_ s.data.toList b = j at *
  clear hs h0 h1 h2 hE
  go_enter Try.func8, Try.ntmps8
  go_wp2_with (first
    | (go_at_call 21; (with_reducible refine (P1.out _).mono ?_); rintro e u ⟨rfl, hb⟩; replace K := K.on hb; clear q0 q1 q2 f0 f1 f2 hb; obtain ⟨q0, q1, q2, f0, f1, f2⟩ := K.cells)
    | (go_at_call 21; (with_reducible refine (P2.out _).mono ?_); rintro e u ⟨rfl, hb⟩; replace K := K.on hb; clear q0 q1 q2 f0 f1 f2 hb; obtain ⟨q0, q1, q2, f0, f1, f2⟩ := K.cells)
    | (go_at_call 23; (with_reducible refine (A3.out _).mono ?_); rintro e u ⟨rfl, hb⟩; replace K := K.on hb; clear q0 q1 q2 f0 f1 f2 hb; obtain ⟨q0, q1, q2, f0, f1, f2⟩ := K.cells)
    | (go_at_call 24; (with_reducible refine (A4.out _).mono ?_); rintro e u ⟨rfl, hb⟩; replace K := K.on hb; clear q0 q1 q2 f0 f1 f2 hb; obtain ⟨q0, q1, q2, f0, f1, f2⟩ := K.cells))
  exact ret_three1 rfl rfl (three_row K.blk) rfl Try.underlying24 rfl ⟨rfl, below_three K.below (Nat.le_refl _)⟩
set_option maxHeartbeats 1000000 in
set_option maxRecDepth 100000 in
theorem ref22_Of_rune_turned (s : ByteArray) (a b : Int) (hs : s.size ≤ 1000000000000) (h0 : a < b) (h1 : Utf.place s.data.toList a = true) (h2 : Utf.place s.data.toList b = true) (hE : b < Line.stop s.data.toList (Line.of_ s.data.toList b)) (w : World) :
    Calls Try.prog 8 #[.string s, .int .i64 b, .int .i64 a, .int .i64 2] w fun e w' => e = .returned (.tuple #[.agg #[.int .i64 a, .int .i64 (Utf.next s.data.toList b), .bool false], .bool true]) ∧ Below w.heap.size w w' := by
  have K := RBox.new w 0 0 false
  obtain ⟨q0, q1, q2, f0, f1, f2⟩ := K.cells
  have P1 := Lib.hid (fun w => ref_Place s a (by omega) w)
  have P2 := Lib.hid (fun w => ref_Place s b (by omega) w)
  rw [h1] at P1
  rw [h2] at P2
  have g0 : decide (a < b) = true := decide_eq_true (by omega)
  have A3 := Lib.hid (fun w => ref4_Of s b hs w)
  have A4 := Lib.hid (fun w => ref4_End s (Line.of_ s.data.toList b) hs w)
  have g3 : decide (b < Line.stop s.data.toList (Line.of_ s.data.toList b)) = true := decide_eq_true hE
  have N1 := Lib.hid (fun w => ref_Next s b (by omega) w)
  generalize Line.stop s.data.toList (Line.of_ s.data.toList b) = y at *
  generalize Line.of_ s.data.toList b = j at *
  generalize Utf.next s.data.toList b = z at *
  clear hs h0 h1 h2 hE
  go_enter Try.func8, Try.ntmps8
  go_wp2_with (first
    | (go_at_call 21; (with_reducible refine (P1.out _).mono ?_); rintro e u ⟨rfl, hb⟩; replace K := K.on hb; clear q0 q1 q2 f0 f1 f2 hb; obtain ⟨q0, q1, q2, f0, f1, f2⟩ := K.cells)
    | (go_at_call 21; (with_reducible refine (P2.out _).mono ?_); rintro e u ⟨rfl, hb⟩; replace K := K.on hb; clear q0 q1 q2 f0 f1 f2 hb; obtain ⟨q0, q1, q2, f0, f1, f2⟩ := K.cells)
    | (go_at_call 23; (with_reducible refine (A3.out _).mono ?_); rintro e u ⟨rfl, hb⟩; replace K := K.on hb; clear q0 q1 q2 f0 f1 f2 hb; obtain ⟨q0, q1, q2, f0, f1, f2⟩ := K.cells)
    | (go_at_call 24; (with_reducible refine (A4.out _).mono ?_); rintro e u ⟨rfl, hb⟩; replace K := K.on hb; clear q0 q1 q2 f0 f1 f2 hb; obtain ⟨q0, q1, q2, f0, f1, f2⟩ := K.cells)
    | (go_at_call 25; (with_reducible refine (N1.out _).mono ?_); rintro e u ⟨rfl, hb⟩; replace K := K.on hb; clear q0 q1 q2 f0 f1 f2 hb; obtain ⟨q0, q1, q2, f0, f1, f2⟩ := K.cells))
  exact ret_three1 rfl rfl (three_row K.blk) rfl Try.underlying24 rfl ⟨rfl, below_three K.below (Nat.le_refl _)⟩
set_option maxHeartbeats 1000000 in
set_option maxRecDepth 100000 in
theorem ref22_Of_whole_turned (s : ByteArray) (a b : Int) (hs : s.size ≤ 1000000000000) (h0 : a < b) (h1 : Utf.place s.data.toList a = true) (h2 : Utf.place s.data.toList b = true) (w : World) :
    Calls Try.prog 8 #[.string s, .int .i64 b, .int .i64 a, .int .i64 3] w fun e w' => e = .returned (.tuple #[.agg #[.int .i64 (Line.start s.data.toList (Line.of_ s.data.toList a)), .int .i64 (Line.stop s.data.toList (Line.of_ s.data.toList b)), .bool true], .bool true]) ∧ Below w.heap.size w w' := by
  have K := RBox.new w 0 0 false
  obtain ⟨q0, q1, q2, f0, f1, f2⟩ := K.cells
  have P1 := Lib.hid (fun w => ref_Place s a (by omega) w)
  have P2 := Lib.hid (fun w => ref_Place s b (by omega) w)
  rw [h1] at P1
  rw [h2] at P2
  have g0 : decide (a < b) = true := decide_eq_true (by omega)
  have A1 := Lib.hid (fun w => ref4_Of s a hs w)
  have A2 := Lib.hid (fun w => ref4_Start s (Line.of_ s.data.toList a) hs w)
  have A3 := Lib.hid (fun w => ref4_Of s b hs w)
  have A4 := Lib.hid (fun w => ref4_End s (Line.of_ s.data.toList b) hs w)
  generalize Line.start s.data.toList (Line.of_ s.data.toList a) = x at *
  generalize Line.stop s.data.toList (Line.of_ s.data.toList b) = y at *
  generalize Line.of_ s.data.toList a = i at *
  generalize Line.of_ s.data.toList b = j at *
  clear hs h0 h1 h2
  go_enter Try.func8, Try.ntmps8
  go_wp2_with (first
    | (go_at_call 21; (with_reducible refine (P1.out _).mono ?_); rintro e u ⟨rfl, hb⟩; replace K := K.on hb; clear q0 q1 q2 f0 f1 f2 hb; obtain ⟨q0, q1, q2, f0, f1, f2⟩ := K.cells)
    | (go_at_call 21; (with_reducible refine (P2.out _).mono ?_); rintro e u ⟨rfl, hb⟩; replace K := K.on hb; clear q0 q1 q2 f0 f1 f2 hb; obtain ⟨q0, q1, q2, f0, f1, f2⟩ := K.cells)
    | (go_at_call 23; (with_reducible refine (A1.out _).mono ?_); rintro e u ⟨rfl, hb⟩; replace K := K.on hb; clear q0 q1 q2 f0 f1 f2 hb; obtain ⟨q0, q1, q2, f0, f1, f2⟩ := K.cells)
    | (go_at_call 22; (with_reducible refine (A2.out _).mono ?_); rintro e u ⟨rfl, hb⟩; replace K := K.on hb; clear q0 q1 q2 f0 f1 f2 hb; obtain ⟨q0, q1, q2, f0, f1, f2⟩ := K.cells)
    | (go_at_call 23; (with_reducible refine (A3.out _).mono ?_); rintro e u ⟨rfl, hb⟩; replace K := K.on hb; clear q0 q1 q2 f0 f1 f2 hb; obtain ⟨q0, q1, q2, f0, f1, f2⟩ := K.cells)
    | (go_at_call 24; (with_reducible refine (A4.out _).mono ?_); rintro e u ⟨rfl, hb⟩; replace K := K.on hb; clear q0 q1 q2 f0 f1 f2 hb; obtain ⟨q0, q1, q2, f0, f1, f2⟩ := K.cells))
  exact ret_three1 rfl rfl (three_row K.blk) rfl Try.underlying24 rfl ⟨rfl, below_three K.below (Nat.le_refl _)⟩
theorem ref22_Of (s : ByteArray) (p q kind : Int) (hs : s.size ≤ 1000000000000) (w : World) :
    Calls Try.prog 8 #[.string s, .int .i64 p, .int .i64 q, .int .i64 kind] w fun e w' => e = .returned (res (rng s.data.toList p q kind)) ∧ Below w.heap.size w w' := by
  cases h1 : Utf.place s.data.toList p with
  | false => rw [Span.rng_bad (by rw [h1]; rfl)]; exact ref22_Of_p s p q kind hs h1 w
  | true =>
    cases h2 : Utf.place s.data.toList q with
    | false => rw [Span.rng_bad (by rw [h1, h2]; rfl)]; exact ref22_Of_q s p q kind hs h1 h2 w
    | true =>
      by_cases k1 : kind = 1
      · subst k1
        rw [Span.rng_short h1 h2]
        rcases Int.lt_or_le q p with h | h
        · rw [Int.min_eq_right (by omega), Int.max_eq_left (by omega)]; exact ref22_Of_short_turned s q p hs h h2 h1 w
        · rw [Int.min_eq_left h, Int.max_eq_right h]; exact ref22_Of_short s p q hs h h1 h2 w
      by_cases k2 : kind = 2
      · subst k2
        rw [Span.rng_long h1 h2]
        rcases Int.lt_or_le q p with h | h
        · rw [Int.min_eq_right (by omega), Int.max_eq_left (by omega), top]
          split
          case isTrue hE => exact ref22_Of_rune_turned s q p hs h h2 h1 hE w
          case isFalse hE => exact ref22_Of_edge_turned s q p hs h h2 h1 hE w
        · rw [Int.min_eq_left h, Int.max_eq_right h, top]
          split
          case isTrue hE => exact ref22_Of_rune s p q hs h h1 h2 hE w
          case isFalse hE => exact ref22_Of_edge s p q hs h h1 h2 hE w
      by_cases k3 : kind = 3
      · subst k3
        rw [Span.rng_whole h1 h2]
        rcases Int.lt_or_le q p with h | h
        · rw [Int.min_eq_right (by omega), Int.max_eq_left (by omega)]; exact ref22_Of_whole_turned s q p hs h h2 h1 w
        · rw [Int.min_eq_left h, Int.max_eq_right h]; exact ref22_Of_whole s p q hs h h1 h2 w
      · rw [Span.rng_kind k1 k2 k3]
        rcases Int.lt_or_le kind 1 with h | h
        · exact ref22_Of_low s p q kind hs h1 h2 h w
        · exact ref22_Of_high s p q kind hs h1 h2 (by omega) w
end Go.Proofs.Ytnelhhijihmpbaa
