/-
  Package span: what is taken out with a range.
-/
import Derived.Test.YtnelhhijihmpbaaSpanRight
namespace Go.Proofs.Ytnelhhijihmpbaa
open Go.RowKit
/-- What is taken out with a range. -/
def Span.cut (s : List UInt8) (a b : Int) (l : Bool) : Int × Int × Bool :=
  if Span.right s a b l = true then (if l = true then (if b < s.length then (a, b + 1, l) else if 0 < a then (a - 1, b, l) else (a, b, l)) else (a, b, l)) else (0, 0, false)
/-- A range's box, and the answer's. -/
structure CBox (w u : World) (a b : Int) (l : Bool) : Prop extends RBox w u a b l where
  res : Blk u (w.heap.size + 1) 24 #[.int .i64 0, .int .i64 0, .bool false]
theorem CBox.new (w : World) (a b : Int) (l : Bool) : CBox w ((w.alloc (.cells #[.int .i64 a, .int .i64 b, .bool l] 24)).alloc (.cells #[.int .i64 0, .int .i64 0, .bool false] 24)) a b l := by
  refine ⟨(RBox.new w a b l).alloc _, ?_⟩
  have := Blk.new (w.alloc (.cells #[.int .i64 a, .int .i64 b, .bool l] 24)) 24 #[.int .i64 0, .int .i64 0, .bool false]
  rwa [World.size_alloc] at this
theorem CBox.on {w u v : World} {a b : Int} {l : Bool} (h : CBox w u a b l) (hb : Below u.heap.size u v) : CBox w v a b l := ⟨h.toRBox.on hb, h.res.below hb h.res.lt⟩
/-- One cell of the range, turned. -/
theorem CBox.one {w u : World} {a b : Int} {l : Bool} (h : CBox w u a b l) (c : Int) : CBox w (u.setCell ⟨w.heap.size, 1, none⟩ (.int .i64 c)) a c l :=
  ⟨⟨h.below.setCell (p := ⟨w.heap.size, 1, none⟩) (Nat.le_refl _) _, h.blk.set_ 1 _⟩, h.res.far (p := ⟨w.heap.size, 1, none⟩) (by show w.heap.size + 1 ≠ w.heap.size; omega) _⟩
theorem CBox.zero {w u : World} {a b : Int} {l : Bool} (h : CBox w u a b l) (c : Int) : CBox w (u.setCell ⟨w.heap.size, 0, none⟩ (.int .i64 c)) c b l :=
  ⟨⟨h.below.setCell (p := ⟨w.heap.size, 0, none⟩) (Nat.le_refl _) _, h.blk.set_ 0 _⟩, h.res.far (p := ⟨w.heap.size, 0, none⟩) (by show w.heap.size + 1 ≠ w.heap.size; omega) _⟩
set_option maxHeartbeats 1000000 in
set_option maxRecDepth 100000 in
theorem span_Cut_no (s : ByteArray) (a b : Int) (l : Bool) (hs : s.size ≤ 1000000000000) (h : Span.right s.data.toList a b l = false) (w : World) :
    Calls Try.prog 12 #[.string s, .agg #[.int .i64 a, .int .i64 b, .bool l]] w fun e w' => e = .returned (.agg #[.int .i64 0, .int .i64 0, .bool false]) ∧ Below w.heap.size w w' := by
  have K := CBox.new w a b l
  obtain ⟨q0, q1, q2, f0, f1, f2⟩ := K.cells
  obtain ⟨r0, r1, r2, e0, e1, e2⟩ := row_three K.res
  have R1 := Lib.hid (fun w => span_Right s a b l hs w)
  rw [h] at R1
  clear hs h
  go_enter Try.func12, Try.ntmps12
  go_wp2_with (go_at_call 11; (with_reducible refine (R1.out _).mono ?_); rintro e u ⟨rfl, hb⟩; replace K := K.on hb; clear hb q0 q1 q2 f0 f1 f2 r0 r1 r2 e0 e1 e2; obtain ⟨q0, q1, q2, f0, f1, f2⟩ := K.cells; obtain ⟨r0, r1, r2, e0, e1, e2⟩ := row_three K.res)
  exact ret_three rfl rfl (three_row K.res) rfl Try.underlying24 rfl ⟨rfl, below_three K.below (by omega)⟩
set_option maxHeartbeats 1000000 in
set_option maxRecDepth 100000 in
theorem span_Cut_text (s : ByteArray) (a b : Int) (hs : s.size ≤ 1000000000000) (h : Span.right s.data.toList a b false = true) (w : World) :
    Calls Try.prog 12 #[.string s, .agg #[.int .i64 a, .int .i64 b, .bool false]] w fun e w' => e = .returned (.agg #[.int .i64 a, .int .i64 b, .bool false]) ∧ Below w.heap.size w w' := by
  have K := CBox.new w a b false
  obtain ⟨q0, q1, q2, f0, f1, f2⟩ := K.cells
  obtain ⟨r0, r1, r2, e0, e1, e2⟩ := row_three K.res
  have R1 := Lib.hid (fun w => span_Right s a b false hs w)
  rw [h] at R1
  clear hs h
  go_enter Try.func12, Try.ntmps12
  go_wp2_with (go_at_call 11; (with_reducible refine (R1.out _).mono ?_); rintro e u ⟨rfl, hb⟩; replace K := K.on hb; clear hb q0 q1 q2 f0 f1 f2 r0 r1 r2 e0 e1 e2; obtain ⟨q0, q1, q2, f0, f1, f2⟩ := K.cells; obtain ⟨r0, r1, r2, e0, e1, e2⟩ := row_three K.res)
  exact ret_three rfl rfl (three_row K.res) rfl Try.underlying24 rfl ⟨rfl, below_three K.below (by omega)⟩
set_option maxHeartbeats 1000000 in
set_option maxRecDepth 100000 in
theorem span_Cut_behind (s : ByteArray) (a b : Int) (hs : s.size ≤ 1000000000000) (h : Span.right s.data.toList a b true = true) (h0 : b < (s.size : Int)) (hb0 : 0 ≤ b) (w : World) :
    Calls Try.prog 12 #[.string s, .agg #[.int .i64 a, .int .i64 b, .bool true]] w fun e w' => e = .returned (.agg #[.int .i64 a, .int .i64 (b + 1), .bool true]) ∧ Below w.heap.size w w' := by
  have K := CBox.new w a b true
  obtain ⟨q0, q1, q2, f0, f1, f2⟩ := K.cells
  obtain ⟨r0, r1, r2, e0, e1, e2⟩ := row_three K.res
  have R1 := Lib.hid (fun w => span_Right s a b true hs w)
  rw [h] at R1
  have g0 : decide (b < (s.size : Int)) = true := decide_eq_true h0
  have g1 : IntKind.i64.wrap (b + 1) = b + 1 := by rw [IntKind.wrap_i64]; omega
  have g2 : wrap64 (b + 1) = b + 1 := by unfold wrap64; omega
  clear hs h h0 hb0
  go_enter Try.func12, Try.ntmps12
  go_wp2_with (go_at_call 11; (with_reducible refine (R1.out _).mono ?_); rintro e u ⟨rfl, hb⟩; replace K := K.on hb; clear hb q0 q1 q2 f0 f1 f2 r0 r1 r2 e0 e1 e2; obtain ⟨q0, q1, q2, f0, f1, f2⟩ := K.cells; obtain ⟨r0, r1, r2, e0, e1, e2⟩ := row_three K.res)
  exact ret_three rfl rfl (three_row (K.one (b + 1)).res) rfl Try.underlying24 rfl ⟨rfl, below_three (K.one (b + 1)).below (by omega)⟩
set_option maxHeartbeats 1000000 in
set_option maxRecDepth 100000 in
theorem span_Cut_ahead (s : ByteArray) (a b : Int) (hs : s.size ≤ 1000000000000) (h : Span.right s.data.toList a b true = true) (h0 : ¬ b < (s.size : Int)) (h1 : 0 < a) (h2 : a ≤ (s.size : Int)) (w : World) :
    Calls Try.prog 12 #[.string s, .agg #[.int .i64 a, .int .i64 b, .bool true]] w fun e w' => e = .returned (.agg #[.int .i64 (a - 1), .int .i64 b, .bool true]) ∧ Below w.heap.size w w' := by
  have K := CBox.new w a b true
  obtain ⟨q0, q1, q2, f0, f1, f2⟩ := K.cells
  obtain ⟨r0, r1, r2, e0, e1, e2⟩ := row_three K.res
  have R1 := Lib.hid (fun w => span_Right s a b true hs w)
  rw [h] at R1
  have g0 : decide (b < (s.size : Int)) = false := decide_eq_false h0
  have g3 : decide (0 < a) = true := decide_eq_true h1
  have g1 : IntKind.i64.wrap (a - 1) = a - 1 := by rw [IntKind.wrap_i64]; omega
  have g2 : wrap64 (a - 1) = a - 1 := by unfold wrap64; omega
  clear hs h h0 h1 h2
  go_enter Try.func12, Try.ntmps12
  go_wp2_with (go_at_call 11; (with_reducible refine (R1.out _).mono ?_); rintro e u ⟨rfl, hb⟩; replace K := K.on hb; clear hb q0 q1 q2 f0 f1 f2 r0 r1 r2 e0 e1 e2; obtain ⟨q0, q1, q2, f0, f1, f2⟩ := K.cells; obtain ⟨r0, r1, r2, e0, e1, e2⟩ := row_three K.res)
  exact ret_three rfl rfl (three_row (K.zero (a - 1)).res) rfl Try.underlying24 rfl ⟨rfl, below_three (K.zero (a - 1)).below (by omega)⟩
set_option maxHeartbeats 1000000 in
set_option maxRecDepth 100000 in
theorem span_Cut_all (s : ByteArray) (a b : Int) (hs : s.size ≤ 1000000000000) (h : Span.right s.data.toList a b true = true) (h0 : ¬ b < (s.size : Int)) (h1 : ¬ 0 < a) (w : World) :
    Calls Try.prog 12 #[.string s, .agg #[.int .i64 a, .int .i64 b, .bool true]] w fun e w' => e = .returned (.agg #[.int .i64 a, .int .i64 b, .bool true]) ∧ Below w.heap.size w w' := by
  have K := CBox.new w a b true
  obtain ⟨q0, q1, q2, f0, f1, f2⟩ := K.cells
  obtain ⟨r0, r1, r2, e0, e1, e2⟩ := row_three K.res
  have R1 := Lib.hid (fun w => span_Right s a b true hs w)
  rw [h] at R1
  have g0 : decide (b < (s.size : Int)) = false := decide_eq_false h0
  have g3 : decide (0 < a) = false := decide_eq_false h1
  clear hs h h0 h1
  go_enter Try.func12, Try.ntmps12
  go_wp2_with (go_at_call 11; (with_reducible refine (R1.out _).mono ?_); rintro e u ⟨rfl, hb⟩; replace K := K.on hb; clear hb q0 q1 q2 f0 f1 f2 r0 r1 r2 e0 e1 e2; obtain ⟨q0, q1, q2, f0, f1, f2⟩ := K.cells; obtain ⟨r0, r1, r2, e0, e1, e2⟩ := row_three K.res)
  exact ret_three rfl rfl (three_row K.res) rfl Try.underlying24 rfl ⟨rfl, below_three K.below (by omega)⟩
theorem Span.right_in {s : List UInt8} {a b : Int} {l : Bool} (h : Span.right s a b l = true) : 0 ≤ a ∧ a ≤ b ∧ b ≤ s.length := by
  rw [Span.right, Bool.and_eq_true, Bool.and_eq_true, Bool.and_eq_true] at h
  obtain ⟨n, rfl, hn⟩ := Line.place_nat h.2.1
  obtain ⟨m, rfl, hm⟩ := Line.place_nat h.2.2.1
  have := of_decide_eq_true h.1
  omega
theorem span_Cut (s : ByteArray) (a b : Int) (l : Bool) (hs : s.size ≤ 1000000000000) (w : World) :
    Calls Try.prog 12 #[.string s, .agg #[.int .i64 a, .int .i64 b, .bool l]] w fun e w' => e = .returned (.agg #[.int .i64 (Span.cut s.data.toList a b l).1, .int .i64 (Span.cut s.data.toList a b l).2.1, .bool (Span.cut s.data.toList a b l).2.2]) ∧ Below w.heap.size w w' := by
  unfold Span.cut
  cases h : Span.right s.data.toList a b l with
  | false => rw [if_neg (by decide)]; exact span_Cut_no s a b l hs h w
  | true =>
    have hi := Span.right_in h
    rw [if_pos rfl]
    cases l with
    | false => rw [if_neg (by decide)]; exact span_Cut_text s a b hs h w
    | true =>
      rw [if_pos rfl]
      rw [data_len] at hi ⊢
      by_cases h0 : b < (s.size : Int)
      · rw [if_pos h0]; exact span_Cut_behind s a b hs h h0 (by omega) w
      · rw [if_neg h0]
        by_cases h1 : 0 < a
        · rw [if_pos h1]; exact span_Cut_ahead s a b hs h h0 h1 (by omega) w
        · rw [if_neg h1]; exact span_Cut_all s a b hs h h0 h1 w
end Go.Proofs.Ytnelhhijihmpbaa
