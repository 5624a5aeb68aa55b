/-
  Package span: what a motion of a kind goes over.
-/
import Derived.Test.YtnelhhijihmpbaaSpanRight
namespace Go.Proofs.Ytnelhhijihmpbaa
open Go.RowKit
open Span (starts ends rng res top)
namespace Span
theorem top_ends {s : List UInt8} {q : Int} (h : Utf.place s q = true) : top s q = if ends s q.toNat = true then q else Utf.next s q := by
  obtain ⟨n, k, x, rfl, hx, h1, h2, _, _, _, hst⟩ := Line.place_line h
  rw [top, hst, Int.toNat_natCast, ends_at hx h1 h2]
  rcases Nat.lt_or_ge n x.2 with h3 | h3
  · rw [if_pos (by omega), if_neg (by simp; omega)]
  · rw [if_neg (by omega), if_pos (by simp; omega)]
end Span
set_option maxHeartbeats 1000000 in
set_option maxRecDepth 100000 in
theorem span_Of_p (s : ByteArray) (p q kind : Int) (hs : s.size ≤ 1000000000000) (h1 : Utf.place s.data.toList p = false) (w : World) :
    Calls Try.prog 7 #[.string s, .int .i64 p, .int .i64 q, .int .i64 kind] w fun e w' => e = .returned (.tuple #[.agg #[.int .i64 0, .int .i64 0, .bool false], .bool false]) ∧ Below w.heap.size w w' := by
  have P1 := Lib.hid (fun w => utf_Place s p (by omega) w)
  have P2 := Lib.hid (fun w => utf_Place s q (by omega) w)
  rw [h1] at P1
  clear hs h1 P2
  go_enter Try.func7, Try.ntmps7
  go_wp2_with (first
    | (go_at_call 15; (with_reducible refine (P1.out _).mono ?_); rintro e u ⟨rfl, rfl⟩))
  exact ret_three1 rfl rfl (Blk.new _ _ _) rfl Try.underlying24 rfl ⟨rfl, (Below.refl w.heap.size w).alloc (Nat.le_refl _) _⟩
set_option maxHeartbeats 1000000 in
set_option maxRecDepth 100000 in
theorem span_Of_q (s : ByteArray) (p q kind : Int) (hs : s.size ≤ 1000000000000) (h1 : Utf.place s.data.toList p = true) (h2 : Utf.place s.data.toList q = false) (w : World) :
    Calls Try.prog 7 #[.string s, .int .i64 p, .int .i64 q, .int .i64 kind] w fun e w' => e = .returned (.tuple #[.agg #[.int .i64 0, .int .i64 0, .bool false], .bool false]) ∧ Below w.heap.size w w' := by
  have P1 := Lib.hid (fun w => utf_Place s p (by omega) w)
  have P2 := Lib.hid (fun w => utf_Place s q (by omega) w)
  rw [h1] at P1
  rw [h2] at P2
  clear hs h1 h2
  go_enter Try.func7, Try.ntmps7
  go_wp2_with (first
    | (go_at_call 15; (with_reducible refine (P1.out _).mono ?_); rintro e u ⟨rfl, rfl⟩)
    | (go_at_call 15; (with_reducible refine (P2.out _).mono ?_); rintro e u ⟨rfl, rfl⟩))
  exact ret_three1 rfl rfl (Blk.new _ _ _) rfl Try.underlying24 rfl ⟨rfl, (Below.refl w.heap.size w).alloc (Nat.le_refl _) _⟩
set_option maxHeartbeats 1000000 in
set_option maxRecDepth 100000 in
theorem span_Of_kind (s : ByteArray) (p q kind : Int) (hs : s.size ≤ 1000000000000) (h1 : Utf.place s.data.toList p = true) (h2 : Utf.place s.data.toList q = true) (k1 : kind ≠ 1) (k2 : kind ≠ 2) (k3 : kind ≠ 3) (w : World) :
    Calls Try.prog 7 #[.string s, .int .i64 p, .int .i64 q, .int .i64 kind] w fun e w' => e = .returned (.tuple #[.agg #[.int .i64 0, .int .i64 0, .bool false], .bool false]) ∧ Below w.heap.size w w' := by
  have P1 := Lib.hid (fun w => utf_Place s p (by omega) w)
  have P2 := Lib.hid (fun w => utf_Place s q (by omega) w)
  rw [h1] at P1
  rw [h2] at P2
  have g1 : (kind == 1) = false := by simpa using k1
  have g2 : (kind == 2) = false := by simpa using k2
  have g3 : (kind == 3) = false := by simpa using k3
  clear hs h1 h2 k1 k2 k3
  go_enter Try.func7, Try.ntmps7
  go_wp2_with (first
    | (go_at_call 15; (with_reducible refine (P1.out _).mono ?_); rintro e u ⟨rfl, rfl⟩)
    | (go_at_call 15; (with_reducible refine (P2.out _).mono ?_); rintro e u ⟨rfl, rfl⟩))
  exact ret_three1 rfl rfl (Blk.new _ _ _) rfl Try.underlying24 rfl ⟨rfl, (Below.refl w.heap.size w).alloc (Nat.le_refl _) _⟩
set_option maxHeartbeats 1000000 in
set_option maxRecDepth 100000 in
theorem span_Of_short (s : ByteArray) (p q : Int) (hs : s.size ≤ 1000000000000) (h1 : Utf.place s.data.toList p = true) (h2 : Utf.place s.data.toList q = true) (w : World) :
    Calls Try.prog 7 #[.string s, .int .i64 p, .int .i64 q, .int .i64 1] w fun e w' => e = .returned (.tuple #[.agg #[.int .i64 (min p q), .int .i64 (max p q), .bool false], .bool true]) ∧ Below w.heap.size w w' := by
  have P1 := Lib.hid (fun w => utf_Place s p (by omega) w)
  have P2 := Lib.hid (fun w => utf_Place s q (by omega) w)
  rw [h1] at P1
  rw [h2] at P2
  clear hs h1 h2
  go_enter Try.func7, Try.ntmps7
  go_wp2_with (first
    | (go_at_call 15; (with_reducible refine (P1.out _).mono ?_); rintro e u ⟨rfl, rfl⟩)
    | (go_at_call 15; (with_reducible refine (P2.out _).mono ?_); rintro e u ⟨rfl, rfl⟩))
  exact ret_three1 rfl rfl (Blk.new _ _ _) rfl Try.underlying24 rfl ⟨rfl, (Below.refl w.heap.size w).alloc (Nat.le_refl _) _⟩
set_option maxHeartbeats 1000000 in
set_option maxRecDepth 100000 in
theorem span_Of_edge (s : ByteArray) (p q : Int) (hs : s.size ≤ 1000000000000) (h1 : Utf.place s.data.toList p = true) (h2 : Utf.place s.data.toList q = true) (hE : ends s.data.toList (max p q).toNat = true) (w : World) :
    Calls Try.prog 7 #[.string s, .int .i64 p, .int .i64 q, .int .i64 2] w fun e w' => e = .returned (.tuple #[.agg #[.int .i64 (min p q), .int .i64 (max p q), .bool false], .bool true]) ∧ Below w.heap.size w w' := by
  have P1 := Lib.hid (fun w => utf_Place s p (by omega) w)
  have P2 := Lib.hid (fun w => utf_Place s q (by omega) w)
  rw [h1] at P1
  rw [h2] at P2
  have hm := Span.place_max h1 h2
  obtain ⟨m, hq, hmx⟩ := Line.place_nat hm
  rw [data_len] at hmx
  have E0 := fun w => span_ends s hmx w
  rw [← hq, show ends s.data.toList m = ends s.data.toList (max p q).toNat by rw [hq]; rfl, hE] at E0
  have E1 := Lib.hid E0
  clear hs h1 h2 hE hm hq hmx E0
  go_enter Try.func7, Try.ntmps7
  go_wp2_with (first
    | (go_at_call 15; (with_reducible refine (P1.out _).mono ?_); rintro e u ⟨rfl, rfl⟩)
    | (go_at_call 15; (with_reducible refine (P2.out _).mono ?_); rintro e u ⟨rfl, rfl⟩)
    | (go_at_call 16; (with_reducible refine (E1.out _).mono ?_); rintro e u ⟨rfl, rfl⟩))
  exact ret_three1 rfl rfl (Blk.new _ _ _) rfl Try.underlying24 rfl ⟨rfl, (Below.refl w.heap.size w).alloc (Nat.le_refl _) _⟩
set_option maxHeartbeats 1000000 in
set_option maxRecDepth 100000 in
theorem span_Of_rune (s : ByteArray) (p q : Int) (hs : s.size ≤ 1000000000000) (h1 : Utf.place s.data.toList p = true) (h2 : Utf.place s.data.toList q = true) (hE : ends s.data.toList (max p q).toNat = false) (w : World) :
    Calls Try.prog 7 #[.string s, .int .i64 p, .int .i64 q, .int .i64 2] w fun e w' => e = .returned (.tuple #[.agg #[.int .i64 (min p q), .int .i64 (Utf.next s.data.toList (max p q)), .bool false], .bool true]) ∧ Below w.heap.size w w' := by
  have P1 := Lib.hid (fun w => utf_Place s p (by omega) w)
  have P2 := Lib.hid (fun w => utf_Place s q (by omega) w)
  rw [h1] at P1
  rw [h2] at P2
  have hm := Span.place_max h1 h2
  obtain ⟨m, hq, hmx⟩ := Line.place_nat hm
  rw [data_len] at hmx
  have E0 := fun w => span_ends s hmx w
  rw [← hq, show ends s.data.toList m = ends s.data.toList (max p q).toNat by rw [hq]; rfl, hE] at E0
  have E1 := Lib.hid E0
  have N1 := Lib.hid (fun w => utf_Next s (max p q) (by omega) w)
  generalize Utf.next s.data.toList (max p q) = z at *
  clear hs h1 h2 hE hm hq hmx E0
  go_enter Try.func7, Try.ntmps7
  go_wp2_with (first
    | (go_at_call 15; (with_reducible refine (P1.out _).mono ?_); rintro e u ⟨rfl, rfl⟩)
    | (go_at_call 15; (with_reducible refine (P2.out _).mono ?_); rintro e u ⟨rfl, rfl⟩)
    | (go_at_call 16; (with_reducible refine (E1.out _).mono ?_); rintro e u ⟨rfl, rfl⟩)
    | (go_at_call 17; (with_reducible refine (N1.out _).mono ?_); rintro e u ⟨rfl, rfl⟩))
  exact ret_three1 rfl rfl (Blk.new _ _ _) rfl Try.underlying24 rfl ⟨rfl, (Below.refl w.heap.size w).alloc (Nat.le_refl _) _⟩
set_option maxHeartbeats 1000000 in
set_option maxRecDepth 100000 in
theorem span_Of_whole (s : ByteArray) (p q : Int) (hs : s.size ≤ 1000000000000) (h1 : Utf.place s.data.toList p = true) (h2 : Utf.place s.data.toList q = true) (w : World) :
    Calls Try.prog 7 #[.string s, .int .i64 p, .int .i64 q, .int .i64 3] w fun e w' => e = .returned (.tuple #[.agg #[.int .i64 (Line.start s.data.toList (Line.of_ s.data.toList (min p q))), .int .i64 (Line.stop s.data.toList (Line.of_ s.data.toList (max p q))), .bool true], .bool true]) ∧ Below w.heap.size w w' := by
  have P1 := Lib.hid (fun w => utf_Place s p (by omega) w)
  have P2 := Lib.hid (fun w => utf_Place s q (by omega) w)
  rw [h1] at P1
  rw [h2] at P2
  have K := RBox.new w 0 0 false
  obtain ⟨q0, q1, q2, f0, f1, f2⟩ := K.cells
  have A1 := Lib.hid (fun w => line_Of s (min p q) hs w)
  have A2 := Lib.hid (fun w => line_Start s (Line.of_ s.data.toList (min p q)) hs w)
  have A3 := Lib.hid (fun w => line_Of s (max p q) hs w)
  have A4 := Lib.hid (fun w => line_End s (Line.of_ s.data.toList (max p q)) hs w)
  generalize Line.start s.data.toList (Line.of_ s.data.toList (min p q)) = x at *
  generalize Line.stop s.data.toList (Line.of_ s.data.toList (max p q)) = y at *
  generalize Line.of_ s.data.toList (min p q) = i at *
  generalize Line.of_ s.data.toList (max p q) = j at *
  clear hs h1 h2
  go_enter Try.func7, Try.ntmps7
  go_wp2_with (first
    | (go_at_call 15; (with_reducible refine (P1.out _).mono ?_); rintro e u ⟨rfl, rfl⟩)
    | (go_at_call 15; (with_reducible refine (P2.out _).mono ?_); rintro e u ⟨rfl, rfl⟩)
    | (go_at_call 19; (with_reducible refine (A1.out _).mono ?_); rintro e u ⟨rfl, hb⟩; replace K := K.on hb; clear q0 q1 q2 f0 f1 f2 hb; obtain ⟨q0, q1, q2, f0, f1, f2⟩ := K.cells)
    | (go_at_call 18; (with_reducible refine (A2.out _).mono ?_); rintro e u ⟨rfl, hb⟩; replace K := K.on hb; clear q0 q1 q2 f0 f1 f2 hb; obtain ⟨q0, q1, q2, f0, f1, f2⟩ := K.cells)
    | (go_at_call 19; (with_reducible refine (A3.out _).mono ?_); rintro e u ⟨rfl, hb⟩; replace K := K.on hb; clear q0 q1 q2 f0 f1 f2 hb; obtain ⟨q0, q1, q2, f0, f1, f2⟩ := K.cells)
    | (go_at_call 20; (with_reducible refine (A4.out _).mono ?_); rintro e u ⟨rfl, hb⟩; replace K := K.on hb; clear q0 q1 q2 f0 f1 f2 hb; obtain ⟨q0, q1, q2, f0, f1, f2⟩ := K.cells))
  exact ret_three1 rfl rfl (three_row K.blk) rfl Try.underlying24 rfl ⟨rfl, below_three K.below (Nat.le_refl _)⟩
theorem span_Of (s : ByteArray) (p q kind : Int) (hs : s.size ≤ 1000000000000) (w : World) :
    Calls Try.prog 7 #[.string s, .int .i64 p, .int .i64 q, .int .i64 kind] w fun e w' => e = .returned (res (rng s.data.toList p q kind)) ∧ Below w.heap.size w w' := by
  cases h1 : Utf.place s.data.toList p with
  | false => rw [Span.rng_bad (by rw [h1]; rfl)]; exact span_Of_p s p q kind hs h1 w
  | true =>
    cases h2 : Utf.place s.data.toList q with
    | false => rw [Span.rng_bad (by rw [h1, h2]; rfl)]; exact span_Of_q s p q kind hs h1 h2 w
    | true =>
      by_cases k1 : kind = 1
      · subst k1; rw [Span.rng_short h1 h2]; exact span_Of_short s p q hs h1 h2 w
      by_cases k2 : kind = 2
      · subst k2
        rw [Span.rng_long h1 h2, Span.top_ends (Span.place_max h1 h2)]
        cases hE : ends s.data.toList (max p q).toNat with
        | true => rw [if_pos rfl]; exact span_Of_edge s p q hs h1 h2 hE w
        | false => rw [if_neg (by decide)]; exact span_Of_rune s p q hs h1 h2 hE w
      by_cases k3 : kind = 3
      · subst k3; rw [Span.rng_whole h1 h2]; exact span_Of_whole s p q hs h1 h2 w
      · rw [Span.rng_kind k1 k2 k3]; exact span_Of_kind s p q kind hs h1 h2 k1 k2 k3 w
end Go.Proofs.Ytnelhhijihmpbaa
