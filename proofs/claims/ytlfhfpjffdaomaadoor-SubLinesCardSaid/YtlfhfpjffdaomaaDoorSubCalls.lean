/-
  Package sub: Range, plain, pattern, Count.
-/
import Derived.Test.YtlfhfpjffdaomaaDoorSubWays
import Derived.Test.YtlfhfpjffdaomaaDoorLineCount
import Derived.Test.YtlfhfpjffdaomaaDoorLineCalls
import Derived.Test.YtlfhfpjffdaomaaDoorSpanRight
import Derived.Test.YtlfhfpjffdaomaaDoorMaxAt
import Derived.Test.YtlfhfpjffdaomaaDoorShelf
namespace Go.Proofs.YtlfhfpjffdaomaaDoor
open Go.RowKit
open Gl
namespace Sb
theorem plain_count (s : List UInt8) : (Line.L s).length = 1 ↔ plain s := by
  unfold plain
  cases hv : Utf.valid s with
  | false => rw [Line.L_bad hv]; simp
  | true =>
    rw [L_len hv, Ix.parts_length]
    rw [Nat.add_eq_right, List.count_eq_zero]
    simp
theorem range_none {s : List UInt8} {a b : Int} (h : ¬ there s a b) : range s a b = (0, 0, false) := if_neg h
theorem range_some {s : List UInt8} {a b : Int} (h : there s a b) : range s a b = (Line.start s a, Line.stop s b, true) := if_pos h
/-- Where lines there are begin and end. -/
theorem there_at {s : List UInt8} {a b : Int} (h : there s a b) : ∃ (i j : Nat) (x y : Nat × Nat), a = i ∧ b = j ∧ i ≤ j ∧ (Line.L s)[i]? = some x ∧ (Line.L s)[j]? = some y ∧ Line.start s a = x.1 ∧ Line.stop s b = y.2 := by
  obtain ⟨h1, h2, h3⟩ := h
  obtain ⟨i, rfl⟩ : ∃ i : Nat, a = i := ⟨a.toNat, by omega⟩
  obtain ⟨j, rfl⟩ : ∃ j : Nat, b = j := ⟨b.toNat, by omega⟩
  have hi : i < (Line.L s).length := by omega
  have hj : j < (Line.L s).length := by omega
  exact ⟨i, j, _, _, rfl, rfl, by omega, List.getElem?_eq_getElem hi, List.getElem?_eq_getElem hj, Line.start_some (by rw [Line.line_nat]; exact List.getElem?_eq_getElem hi), Line.stop_some (by rw [Line.line_nat]; exact List.getElem?_eq_getElem hj)⟩
/-- The program's way: where the first begins, where the last ends, and their order. -/
theorem there_way (s : List UInt8) (a b : Int) : there s a b ↔ ¬ Line.start s a < 0 ∧ ¬ Line.stop s b < 0 ∧ ¬ b < a := by
  constructor
  · intro h
    obtain ⟨i, j, x, y, rfl, rfl, hij, _, _, e1, e2⟩ := there_at h
    rw [e1, e2]
    omega
  · rintro ⟨h1, h2, h3⟩
    have k1 : 0 ≤ a := by
      rcases Int.lt_or_le a 0 with h | h
      · rw [Line.start_none (Line.line_low h)] at h1; omega
      · exact h
    have k2 : b < (Line.L s).length := by
      rcases Int.lt_or_le b (Line.L s).length with h | h
      · exact h
      · rw [Line.stop_none (Line.line_past h)] at h2; omega
    exact ⟨k1, by omega, k2⟩
/-- What stands in lines that are there: the bytes from their beginning to their end. -/
theorem there_glue {s : List UInt8} {i j : Nat} {x y : Nat × Nat} (hij : i ≤ j) (hx : (Line.L s)[i]? = some x) (hy : (Line.L s)[j]? = some y) :
    Line.seg s x.1 y.2 = glue (mids i j (Ix.parts s)) ∧ x.1 + (glue (mids i j (Ix.parts s))).length = y.2 ∧ y.2 ≤ s.length ∧ mids i j (Ix.parts s) ≠ [] ∧
    s.take x.1 = fore ((Ix.parts s).take i) ∧ s.drop y.2 = aft ((Ix.parts s).drop (j + 1)) ∧ s.drop x.1 = glue (mids i j (Ix.parts s)) ++ aft ((Ix.parts s).drop (j + 1)) := by
  obtain ⟨A, B, C, h1, h2, h3, h4, h5, h6, h7⟩ := three hij hx hy
  have eA : (Ix.parts s).take i = A := by rw [h1, ← h3, List.take_left]
  have eB : mids i j (Ix.parts s) = B := by rw [mids, h1, ← h3, List.drop_left, h3, ← h4, List.take_left]
  have eC : (Ix.parts s).drop (j + 1) = C := by
    rw [h1, ← List.append_assoc, List.drop_left' (by rw [List.length_append]; omega)]
  have hl := congrArg List.length h5
  simp only [List.length_append] at hl
  have h5' : s = (fore A ++ glue B) ++ aft C := by rw [List.append_assoc]; exact h5
  have hyl : y.2 = (fore A ++ glue B).length := by rw [List.length_append]; exact h7
  rw [eA, eB, eC]
  refine ⟨?_, by omega, by omega, h2, take_of h5 h6, drop_of h5' hyl, drop_of h5 h6⟩
  rw [Line.seg, take_of h5' hyl, List.drop_left' h6.symm]
theorem count_way {s p : List UInt8} {i j : Nat} {x y : Nat × Nat} (hij : i ≤ j) (hx : (Line.L s)[i]? = some x) (hy : (Line.L s)[j]? = some y) (h0 : p ≠ []) (hp : plain p) : (count s (i : Int) (j : Int) p : Nat) = Lib.count (Line.seg s x.1 y.2) p := by
  obtain ⟨e1, e2, e3, _⟩ := there_glue hij hx hy
  have hj := (List.getElem?_eq_some_iff.1 hy).1
  rw [count, if_pos ⟨⟨by omega, by omega, by omega⟩, h0, hp⟩, Int.toNat_natCast, Int.toNat_natCast, e1, count_glue h0 hp.2 (m := s.length) (by omega)]
end Sb
/-- A range as a function answers it beside whether it is there. -/
def Sb.rangeV (r : Int × Int × Bool) : Value := .tuple #[.agg #[.int .i64 r.1, .int .i64 r.2.1, .bool r.2.2], .bool r.2.2]
set_option maxHeartbeats 1000000 in
set_option maxRecDepth 100000 in
theorem sub_Range_ok (s : ByteArray) (a b : Int) (hs : s.size ≤ 1000000000000) (h1 : ¬ Line.start s.data.toList a < 0) (h2 : ¬ Line.stop s.data.toList b < 0) (h3 : ¬ b < a) (w : World) :
    Calls Tryd.prog 10 #[.string s, .int .i64 a, .int .i64 b] w fun e w' => e = .returned (Sb.rangeV (Sb.range s.data.toList a b)) ∧ Below w.heap.size w w' := by
  have A1 := Lib.hid (fun w => line_Start s a hs w)
  have B1 := Lib.hid (fun w => line_End s b hs w)
  have K := RBox.new w 0 0 false
  obtain ⟨q0, q1, q2, f0, f1, f2⟩ := K.cells
  have H := Lib.hid (Sb.range_some ((Sb.there_way s.data.toList a b).2 ⟨h1, h2, h3⟩))
  generalize Line.start s.data.toList a = x at *
  generalize Line.stop s.data.toList b = y at *
  have d1 : decide (x < 0) = false := decide_eq_false h1
  have d2 : decide (y < 0) = false := decide_eq_false h2
  have d3 : decide (b < a) = false := decide_eq_false h3
  clear hs
  go_enter Tryd.func10, Tryd.ntmps10
  go_wp2_with (first
    | (go_at_call 16; (with_reducible refine (A1.out _).mono ?_); rintro e u ⟨rfl, hb⟩; replace K := K.on hb; clear hb q0 q1 q2 f0 f1 f2; obtain ⟨q0, q1, q2, f0, f1, f2⟩ := K.cells)
    | (go_at_call 17; (with_reducible refine (B1.out _).mono ?_); rintro e u ⟨rfl, hb⟩; replace K := K.on hb; clear hb q0 q1 q2 f0 f1 f2; obtain ⟨q0, q1, q2, f0, f1, f2⟩ := K.cells))
  exact ret_three1 rfl rfl (three_row K.blk) rfl Tryd.underlying32 rfl ⟨by rw [H.out]; rfl, below_three K.below (Nat.le_refl _)⟩
set_option maxHeartbeats 1000000 in
set_option maxRecDepth 100000 in
theorem sub_Range_a (s : ByteArray) (a b : Int) (hs : s.size ≤ 1000000000000) (h1 : Line.start s.data.toList a < 0) (w : World) :
    Calls Tryd.prog 10 #[.string s, .int .i64 a, .int .i64 b] w fun e w' => e = .returned (Sb.rangeV (Sb.range s.data.toList a b)) ∧ Below w.heap.size w w' := by
  have A1 := Lib.hid (fun w => line_Start s a hs w)
  have B1 := Lib.hid (fun w => line_End s b hs w)
  have K := RBox.new w 0 0 false
  obtain ⟨q0, q1, q2, f0, f1, f2⟩ := K.cells
  have H := Lib.hid (Sb.range_none fun h => ((Sb.there_way s.data.toList a b).1 h).1 h1)
  generalize Line.start s.data.toList a = x at *
  generalize Line.stop s.data.toList b = y at *
  have d1 : decide (x < 0) = true := decide_eq_true h1
  clear hs
  go_enter Tryd.func10, Tryd.ntmps10
  go_wp2_with (first
    | (go_at_call 16; (with_reducible refine (A1.out _).mono ?_); rintro e u ⟨rfl, hb⟩; replace K := K.on hb; clear hb q0 q1 q2 f0 f1 f2; obtain ⟨q0, q1, q2, f0, f1, f2⟩ := K.cells)
    | (go_at_call 17; (with_reducible refine (B1.out _).mono ?_); rintro e u ⟨rfl, hb⟩; replace K := K.on hb; clear hb q0 q1 q2 f0 f1 f2; obtain ⟨q0, q1, q2, f0, f1, f2⟩ := K.cells))
  exact ret_three1 rfl rfl (three_row K.blk) rfl Tryd.underlying32 rfl ⟨by rw [H.out]; rfl, below_three K.below (Nat.le_refl _)⟩
set_option maxHeartbeats 1000000 in
set_option maxRecDepth 100000 in
theorem sub_Range_b (s : ByteArray) (a b : Int) (hs : s.size ≤ 1000000000000) (h1 : ¬ Line.start s.data.toList a < 0) (h2 : Line.stop s.data.toList b < 0) (w : World) :
    Calls Tryd.prog 10 #[.string s, .int .i64 a, .int .i64 b] w fun e w' => e = .returned (Sb.rangeV (Sb.range s.data.toList a b)) ∧ Below w.heap.size w w' := by
  have A1 := Lib.hid (fun w => line_Start s a hs w)
  have B1 := Lib.hid (fun w => line_End s b hs w)
  have K := RBox.new w 0 0 false
  obtain ⟨q0, q1, q2, f0, f1, f2⟩ := K.cells
  have H := Lib.hid (Sb.range_none fun h => ((Sb.there_way s.data.toList a b).1 h).2.1 h2)
  generalize Line.start s.data.toList a = x at *
  generalize Line.stop s.data.toList b = y at *
  have d1 : decide (x < 0) = false := decide_eq_false h1
  have d2 : decide (y < 0) = true := decide_eq_true h2
  clear hs
  go_enter Tryd.func10, Tryd.ntmps10
  go_wp2_with (first
    | (go_at_call 16; (with_reducible refine (A1.out _).mono ?_); rintro e u ⟨rfl, hb⟩; replace K := K.on hb; clear hb q0 q1 q2 f0 f1 f2; obtain ⟨q0, q1, q2, f0, f1, f2⟩ := K.cells)
    | (go_at_call 17; (with_reducible refine (B1.out _).mono ?_); rintro e u ⟨rfl, hb⟩; replace K := K.on hb; clear hb q0 q1 q2 f0 f1 f2; obtain ⟨q0, q1, q2, f0, f1, f2⟩ := K.cells))
  exact ret_three1 rfl rfl (three_row K.blk) rfl Tryd.underlying32 rfl ⟨by rw [H.out]; rfl, below_three K.below (Nat.le_refl _)⟩
set_option maxHeartbeats 1000000 in
set_option maxRecDepth 100000 in
theorem sub_Range_c (s : ByteArray) (a b : Int) (hs : s.size ≤ 1000000000000) (h1 : ¬ Line.start s.data.toList a < 0) (h2 : ¬ Line.stop s.data.toList b < 0) (h3 : b < a) (w : World) :
    Calls Tryd.prog 10 #[.string s, .int .i64 a, .int .i64 b] w fun e w' => e = .returned (Sb.rangeV (Sb.range s.data.toList a b)) ∧ Below w.heap.size w w' := by
  have A1 := Lib.hid (fun w => line_Start s a hs w)
  have B1 := Lib.hid (fun w => line_End s b hs w)
  have K := RBox.new w 0 0 false
  obtain ⟨q0, q1, q2, f0, f1, f2⟩ := K.cells
  have H := Lib.hid (Sb.range_none fun h => ((Sb.there_way s.data.toList a b).1 h).2.2 h3)
  generalize Line.start s.data.toList a = x at *
  generalize Line.stop s.data.toList b = y at *
  have d1 : decide (x < 0) = false := decide_eq_false h1
  have d2 : decide (y < 0) = false := decide_eq_false h2
  have d3 : decide (b < a) = true := decide_eq_true h3
  clear hs
  go_enter Tryd.func10, Tryd.ntmps10
  go_wp2_with (first
    | (go_at_call 16; (with_reducible refine (A1.out _).mono ?_); rintro e u ⟨rfl, hb⟩; replace K := K.on hb; clear hb q0 q1 q2 f0 f1 f2; obtain ⟨q0, q1, q2, f0, f1, f2⟩ := K.cells)
    | (go_at_call 17; (with_reducible refine (B1.out _).mono ?_); rintro e u ⟨rfl, hb⟩; replace K := K.on hb; clear hb q0 q1 q2 f0 f1 f2; obtain ⟨q0, q1, q2, f0, f1, f2⟩ := K.cells))
  exact ret_three1 rfl rfl (three_row K.blk) rfl Tryd.underlying32 rfl ⟨by rw [H.out]; rfl, below_three K.below (Nat.le_refl _)⟩
theorem sub_Range (s : ByteArray) (a b : Int) (hs : s.size ≤ 1000000000000) (w : World) :
    Calls Tryd.prog 10 #[.string s, .int .i64 a, .int .i64 b] w fun e w' => e = .returned (Sb.rangeV (Sb.range s.data.toList a b)) ∧ Below w.heap.size w w' := by
  by_cases h1 : Line.start s.data.toList a < 0
  · exact sub_Range_a s a b hs h1 w
  · by_cases h2 : Line.stop s.data.toList b < 0
    · exact sub_Range_b s a b hs h1 h2 w
    · by_cases h3 : b < a
      · exact sub_Range_c s a b hs h1 h2 h3 w
      · exact sub_Range_ok s a b hs h1 h2 h3 w
theorem sub_plain (p : ByteArray) (hp : p.size ≤ 281474976710656) (w : World) :
    Calls Tryd.prog 20 #[.string p] w fun e w' => e = .returned (.bool (decide (Sb.plain p.data.toList))) ∧ Below w.heap.size w w' := by
  have C := Lib.hid (fun w => line_Count_wide p hp w)
  have g : ((((Line.L p.data.toList).length : Nat) : Int) == 1) = decide (Sb.plain p.data.toList) := by
    rw [Bool.eq_iff_iff, beq_iff_eq, decide_eq_true_eq, ← Sb.plain_count]
    omega
  generalize (Line.L p.data.toList).length = n at *
  generalize decide (Sb.plain p.data.toList) = z at *
  go_enter Tryd.func20, Tryd.ntmps20
  go_wp2_with (go_at_call 14; (with_reducible refine (C.out _).mono ?_); rintro e u ⟨rfl, hb⟩)
  go_ret
  exact ⟨rfl, hb⟩
theorem sub_pattern (p : ByteArray) (hp : p.size ≤ 281474976710656) (w : World) :
    Calls Tryd.prog 19 #[.string p] w fun e w' => e = .returned (.bool (decide (p.data.toList ≠ [] ∧ Sb.plain p.data.toList))) ∧ Below w.heap.size w w' := by
  have C := Lib.hid (fun w => sub_plain p hp w)
  by_cases h0 : p.data.toList = []
  · have H : Hid (decide (p.data.toList ≠ [] ∧ Sb.plain p.data.toList) = false) := decide_eq_false (fun h => h.1 h0)
    have g0 : p.toList.isEmpty = true := by rw [Lib.toList_data, h0]; rfl
    clear h0 C
    go_enter Tryd.func19, Tryd.ntmps19
    go_wp2
    go_ret
    exact ⟨by rw [H.out]; rfl, Below.refl _ _⟩
  · have H : Hid (decide (p.data.toList ≠ [] ∧ Sb.plain p.data.toList) = decide (Sb.plain p.data.toList)) := by
      show _ = _
      rw [decide_eq_decide]
      exact ⟨fun h => h.2, fun h => ⟨h0, h⟩⟩
    have g0 : p.toList.isEmpty = false := by
      rw [Lib.toList_data]
      cases hl : p.data.toList with
      | nil => exact absurd hl h0
      | cons _ _ => rfl
    generalize decide (Sb.plain p.data.toList) = z at *
    clear h0
    go_enter Tryd.func19, Tryd.ntmps19
    go_wp2_with (go_at_call 20; (with_reducible refine (C.out _).mono ?_); rintro e u ⟨rfl, hb⟩)
    go_ret
    exact ⟨by rw [H.out]; rfl, hb⟩
theorem str_count {w : World} (hm : MaxAt w) (s p : ByteArray) (hs : s.size < 4294967281) (h1 : 1 ≤ p.size) :
    Calls Tryd.prog 32 #[.string s, .string p] w fun e w' => e = .returned (.int .i64 (Lib.count s.data.toList p.data.toList : Nat)) ∧ w' = w := by
  obtain ⟨m, hm⟩ := hm
  exact Any.strings_Count_any { Tryd.lays138 with } s p m w hs hm h1
set_option maxHeartbeats 1000000 in
set_option maxRecDepth 100000 in
theorem sub_Count_no (s : ByteArray) (a b : Int) (p : ByteArray) (hs : s.size ≤ 1000000000000) (h : ¬ Sb.there s.data.toList a b) (w : World) :
    Calls Tryd.prog 12 #[.string s, .int .i64 a, .int .i64 b, .string p] w fun e w' => e = .returned (.int .i64 (Sb.count s.data.toList a b p.data.toList : Nat)) ∧ Below w.heap.size w w' := by
  have R := Lib.hid (fun w => sub_Range s a b hs w)
  rw [Sb.range_none h, Sb.rangeV] at R
  have H : Hid (Sb.count s.data.toList a b p.data.toList = 0) := by show _ = _; rw [Sb.count, if_neg (fun hh => h hh.1)]
  clear h
  go_enter Tryd.func12, Tryd.ntmps12
  go_wp2_with (go_at_call 10; (with_reducible refine (R.out _).mono ?_); rintro e u ⟨rfl, hb⟩)
  go_ret
  exact ⟨by rw [H.out]; rfl, hb.alloc hb.size _⟩
set_option maxHeartbeats 1000000 in
set_option maxRecDepth 100000 in
theorem sub_Count_pat (s : ByteArray) (a b : Int) (p : ByteArray) (hs : s.size ≤ 1000000000000) (hp : p.size ≤ 281474976710656) (h : Sb.there s.data.toList a b) (h2 : ¬ (p.data.toList ≠ [] ∧ Sb.plain p.data.toList)) (w : World) :
    Calls Tryd.prog 12 #[.string s, .int .i64 a, .int .i64 b, .string p] w fun e w' => e = .returned (.int .i64 (Sb.count s.data.toList a b p.data.toList : Nat)) ∧ Below w.heap.size w w' := by
  have R := Lib.hid (fun w => sub_Range s a b hs w)
  have P := Lib.hid (fun w => sub_pattern p hp w)
  rw [Sb.range_some h, Sb.rangeV] at R
  rw [decide_eq_false h2] at P
  have H : Hid (Sb.count s.data.toList a b p.data.toList = 0) := by show _ = _; rw [Sb.count, if_neg (fun hh => h2 hh.2)]
  clear h h2
  generalize Line.start s.data.toList a = x at *
  generalize Line.stop s.data.toList b = y at *
  go_enter Tryd.func12, Tryd.ntmps12
  go_wp2_with (first
    | (go_at_call 10; (with_reducible refine (R.out _).mono ?_); rintro e u ⟨rfl, hb⟩; have hX := hb.alloc hb.size (.cells #[.int .i64 x, .int .i64 y, .bool true] 32))
    | (go_at_call 19; (with_reducible refine (P.out _).mono ?_); rintro e u2 ⟨rfl, hb2⟩; replace hX := hX.trans (hb2.mono hX.size)))
  go_ret
  exact ⟨by rw [H.out]; rfl, hX⟩
set_option maxHeartbeats 1000000 in
set_option maxRecDepth 100000 in
theorem sub_Count_ok (s : ByteArray) (a b : Int) (p : ByteArray) (hs : s.size < 4294967281) (hp : p.size ≤ 281474976710656) (h : Sb.there s.data.toList a b) (h2 : p.data.toList ≠ [] ∧ Sb.plain p.data.toList) {w : World} (hm : MaxAt w) :
    Calls Tryd.prog 12 #[.string s, .int .i64 a, .int .i64 b, .string p] w fun e w' => e = .returned (.int .i64 (Sb.count s.data.toList a b p.data.toList : Nat)) ∧ Below w.heap.size w w' := by
  have R := Lib.hid (fun w => sub_Range s a b (by omega) w)
  have P := Lib.hid (fun w => sub_pattern p hp w)
  rw [Sb.range_some h, Sb.rangeV] at R
  rw [decide_eq_true h2] at P
  obtain ⟨i, j, x, y, rfl, rfl, hij, hx, hy, e1, e2⟩ := Sb.there_at h
  rw [e1, e2] at R
  have H := Lib.hid (Sb.count_way hij hx hy h2.1 h2.2)
  obtain ⟨g1, g2, g3, _⟩ := Sb.there_glue hij hx hy
  rw [data_len] at g3
  have hp1 : 1 ≤ p.size := by
    rcases Nat.eq_zero_or_pos p.size with h0 | h0
    · exact absurd (List.length_eq_zero_iff.1 (by rw [data_len]; exact h0)) h2.1
    · exact h0
  have es : (s.extract x.1 y.2).data.toList = Line.seg s.data.toList x.1 y.2 := by rw [ext_seg]; rfl
  have hsz : (s.extract x.1 y.2).size ≤ s.size := by rw [ByteArray.size_extract]; omega
  have C : Hid (∀ u, MaxAt u → Calls Tryd.prog 32 #[.string (s.extract x.1 y.2), .string p] u fun e w' => e = .returned (.int .i64 (Lib.count (Line.seg s.data.toList x.1 y.2) p.data.toList : Nat)) ∧ w' = u) := fun u hu => by
    have := str_count hu (s.extract x.1 y.2) p (by omega) hp1
    rwa [es] at this
  have i1 : (x.1 : Int) ≤ (y.2 : Int) := by omega
  have i2 : (y.2 : Int) ≤ (s.size : Int) := by omega
  clear h h2 hx hy e1 e2 g1 g2 hij hp1 es hsz
  generalize Lib.count (Line.seg s.data.toList x.1 y.2) p.data.toList = n at *
  generalize x.1 = x at *
  generalize y.2 = y at *
  have CC : Hid (∀ (u v : World), Below (u.alloc (.cells #[.int .i64 x, .int .i64 y, .bool true] 32)).heap.size (u.alloc (.cells #[.int .i64 x, .int .i64 y, .bool true] 32)) v → v.cell? ⟨u.heap.size, 0, none⟩ = some (.int .i64 x) ∧ v.cell? ⟨u.heap.size, 1, none⟩ = some (.int .i64 y)) := fun u v hv => by
    have b0 := (Blk.new u 32 #[.int .i64 x, .int .i64 y, .bool true]).below hv (by simp)
    exact ⟨b0.cell 0, b0.cell 1⟩
  go_enter Tryd.func12, Tryd.ntmps12
  go_wp2_with (first
    | (go_at_call 10; (with_reducible refine (R.out _).mono ?_); rintro e u ⟨rfl, hb⟩; have hX := hb.alloc hb.size (.cells #[.int .i64 x, .int .i64 y, .bool true] 32); replace hm := hm.below hX)
    | (go_at_call 19; (with_reducible refine (P.out _).mono ?_); rintro e u2 ⟨rfl, hb2⟩; obtain ⟨c0, c1⟩ := CC.out _ _ hb2; replace hX := hX.trans (hb2.mono hX.size); replace hm := hm.below hb2)
    | (go_at_call 32; (with_reducible refine (C.out _ hm).mono ?_); rintro e u3 ⟨rfl, rfl⟩))
  go_ret
  exact ⟨by rw [H.out]; rfl, hX⟩
theorem sub_Count (s : ByteArray) (a b : Int) (p : ByteArray) (hs : s.size < 4294967281) (hp : p.size ≤ 281474976710656) {w : World} (hm : MaxAt w) :
    Calls Tryd.prog 12 #[.string s, .int .i64 a, .int .i64 b, .string p] w fun e w' => e = .returned (.int .i64 (Sb.count s.data.toList a b p.data.toList : Nat)) ∧ Below w.heap.size w w' := by
  by_cases h : Sb.there s.data.toList a b
  · by_cases h2 : p.data.toList ≠ [] ∧ Sb.plain p.data.toList
    · exact sub_Count_ok s a b p hs hp h h2 hm
    · exact sub_Count_pat s a b p (by omega) hp h h2 w
  · exact sub_Count_no s a b p (by omega) h w
end Go.Proofs.YtlfhfpjffdaomaaDoor
