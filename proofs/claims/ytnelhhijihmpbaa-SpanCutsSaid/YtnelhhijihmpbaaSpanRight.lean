/-
  Package span: where lines begin and end; whether a range may be.
-/
import Derived.Test.YtnelhhijihmpbaaSpan
import Derived.Test.YtnelhhijihmpbaaRet3
namespace Go.Proofs.Ytnelhhijihmpbaa
open Go.RowKit
open Span (starts ends)
namespace Span
/-- May a range be? -/
def right (s : List UInt8) (a b : Int) (l : Bool) : Bool := decide (a ≤ b) && (Utf.place s a && (Utf.place s b && (!l || (starts s a.toNat && ends s b.toNat))))
theorem right_lies {s : List UInt8} {p q kind a b : Int} {l : Bool} (h : Lies s p q kind a b l) : right s a b l = true := by
  have h1 := h.ap
  have h2 := h.qb
  rw [right, decide_eq_true (by omega), h.pa, h.pb]
  cases l with
  | false => rfl
  | true => rw [h.al rfl, h.bl rfl]; rfl
theorem feed_test (b : UInt8) : ((b.toNat : Int) == 10) = decide (b = 10) := by
  rw [Bool.eq_iff_iff, beq_iff_eq, decide_eq_true_iff]
  refine ⟨fun h => UInt8.toNat_inj.1 ?_, fun h => by rw [h]; rfl⟩
  rw [show (10 : UInt8).toNat = 10 from rfl]
  omega
end Span
theorem span_starts (s : ByteArray) {x : Nat} (hx : x ≤ s.size) (hs : s.size ≤ 9223372036854775807) (w : World) :
    Calls Try.prog 27 #[.string s, .int .i64 x] w fun e w' => e = .returned (.bool (starts s.data.toList x)) ∧ w = w' := by
  cases x with
  | zero =>
    go_enter Try.func27, Try.ntmps27
    go_wp2
    go_ret
    exact ⟨rfl, rfl⟩
  | succ x =>
    have H : Hid (starts s.data.toList (x + 1) = decide (s[x]'(by omega) = 10)) := by
      show _ = _
      rw [starts, Nat.add_sub_cancel, byte_get s (by omega), decide_eq_false (by omega)]
      simp
    have g0 := Span.feed_test (s[x]'(by omega))
    have g1 : (((x + 1 : Nat) : Int) == 0) = false := by rw [beq_eq_false_iff_ne]; omega
    have g2 : ((x : Int) + 1 == 0) = false := by rw [beq_eq_false_iff_ne]; omega
    have g3 : wrap64 (x : Int) = (x : Int) := by unfold wrap64; omega
    generalize decide (s[x]'(by omega) = 10) = z at *
    go_enter Try.func27, Try.ntmps27
    go_wp2
    go_ret
    exact ⟨by rw [H.out]; rfl, rfl⟩
theorem span_ends (s : ByteArray) {x : Nat} (hx : x ≤ s.size) (w : World) :
    Calls Try.prog 16 #[.string s, .int .i64 x] w fun e w' => e = .returned (.bool (ends s.data.toList x)) ∧ w = w' := by
  rcases Nat.lt_or_ge x s.size with h | h
  · have H : Hid (ends s.data.toList x = decide (s[x] = 10)) := by
      show _ = _
      rw [ends, byte_get s h, data_len, decide_eq_false (by omega)]
      simp
    have g0 := Span.feed_test s[x]
    have g1 : ((x : Int) == (s.size : Int)) = false := by simp; omega
    generalize decide (s[x] = 10) = z at *
    go_enter Try.func16, Try.ntmps16
    go_wp2
    go_ret
    exact ⟨by rw [H.out]; rfl, rfl⟩
  · have H : Hid (ends s.data.toList x = true) := by
      show _ = _
      rw [ends, data_len, decide_eq_true (by omega)]; rfl
    have g1 : ((x : Int) == (s.size : Int)) = true := by simp; omega
    go_enter Try.func16, Try.ntmps16
    go_wp2
    go_ret
    exact ⟨by rw [H.out]; rfl, rfl⟩
/-- The box of a range. -/
structure RBox (w u : World) (a b : Int) (l : Bool) : Prop where
  below : Below w.heap.size w u
  blk : Blk u w.heap.size 24 #[.int .i64 a, .int .i64 b, .bool l]
theorem RBox.drew {w u : World} {a b : Int} {l : Bool} (h : RBox w u a b l) : RBox w u.drew a b l := ⟨h.below.trans ((below_gb (gb_drew u none)).mono h.below.size), h.blk⟩
theorem RBox.on {w u v : World} {a b : Int} {l : Bool} (h : RBox w u a b l) (hb : Below u.heap.size u v) : RBox w v a b l := ⟨h.below.trans (hb.mono h.below.size), h.blk.below hb h.blk.lt⟩
theorem RBox.ond {w u v : World} {a b : Int} {l : Bool} (h : RBox w u a b l) (hb : Below u.drew.heap.size u.drew v) : RBox w v a b l := h.drew.on hb
theorem RBox.cells {w u : World} {a b : Int} {l : Bool} (h : RBox w u a b l) : u.cell? ⟨w.heap.size, 0, none⟩ = some (.int .i64 a) ∧ u.cell? ⟨w.heap.size, 1, none⟩ = some (.int .i64 b) ∧ u.cell? ⟨w.heap.size, 2, none⟩ = some (.bool l) ∧ u.frozen? ⟨w.heap.size, 0, none⟩ = false ∧ u.frozen? ⟨w.heap.size, 1, none⟩ = false ∧ u.frozen? ⟨w.heap.size, 2, none⟩ = false := row_three h.blk
theorem RBox.new (w : World) (a b : Int) (l : Bool) : RBox w (w.alloc (.cells #[.int .i64 a, .int .i64 b, .bool l] 24)) a b l := ⟨(Below.refl _ w).alloc (Nat.le_refl _) _, Blk.new _ _ _⟩
theorem RBox.alloc {w u : World} {a b : Int} {l : Bool} (h : RBox w u a b l) (o : Obj) : RBox w (u.alloc o) a b l := ⟨h.below.alloc h.below.size o, h.blk.alloc o⟩
set_option maxHeartbeats 1000000 in
set_option maxRecDepth 100000 in
theorem span_Right_low (s : ByteArray) (a b : Int) (l : Bool) (hs : s.size ≤ 1000000000000) (h0 : b < a) (w : World) :
    Calls Try.prog 11 #[.string s, .agg #[.int .i64 a, .int .i64 b, .bool l]] w fun e w' => e = .returned (.bool false) ∧ Below w.heap.size w w' := by
  have hX : Below w.heap.size w (w.alloc (.cells #[.int .i64 a, .int .i64 b, .bool l] 24)) := (Below.refl _ w).alloc (Nat.le_refl _) _
  have P1 := Lib.hid (fun w => utf_Place s a (by omega) w)
  have P2 := Lib.hid (fun w => utf_Place s b (by omega) w)
  have g0 : decide (b < a) = true := decide_eq_true h0
  clear hs h0 P1 P2
  go_enter Try.func11, Try.ntmps11
  go_wp2_with fail
  go_ret
  exact ⟨rfl, hX⟩
set_option maxHeartbeats 1000000 in
set_option maxRecDepth 100000 in
theorem span_Right_from (s : ByteArray) (a b : Int) (l : Bool) (hs : s.size ≤ 1000000000000) (h0 : a ≤ b) (h1 : Utf.place s.data.toList a = false) (w : World) :
    Calls Try.prog 11 #[.string s, .agg #[.int .i64 a, .int .i64 b, .bool l]] w fun e w' => e = .returned (.bool false) ∧ Below w.heap.size w w' := by
  have hX : Below w.heap.size w (w.alloc (.cells #[.int .i64 a, .int .i64 b, .bool l] 24)) := (Below.refl _ w).alloc (Nat.le_refl _) _
  have P1 := Lib.hid (fun w => utf_Place s a (by omega) w)
  have P2 := Lib.hid (fun w => utf_Place s b (by omega) w)
  have g0 : decide (b < a) = false := decide_eq_false (by omega)
  rw [h1] at P1
  clear hs h0 h1 P2
  go_enter Try.func11, Try.ntmps11
  go_wp2_with (first
    | (go_at_call 15; (with_reducible refine (P1.out _).mono ?_); rintro e w1 ⟨rfl, rfl⟩))
  go_ret
  exact ⟨rfl, hX⟩
set_option maxHeartbeats 1000000 in
set_option maxRecDepth 100000 in
theorem span_Right_to (s : ByteArray) (a b : Int) (l : Bool) (hs : s.size ≤ 1000000000000) (h0 : a ≤ b) (h1 : Utf.place s.data.toList a = true) (h2 : Utf.place s.data.toList b = false) (w : World) :
    Calls Try.prog 11 #[.string s, .agg #[.int .i64 a, .int .i64 b, .bool l]] w fun e w' => e = .returned (.bool false) ∧ Below w.heap.size w w' := by
  have hX : Below w.heap.size w (w.alloc (.cells #[.int .i64 a, .int .i64 b, .bool l] 24)) := (Below.refl _ w).alloc (Nat.le_refl _) _
  have P1 := Lib.hid (fun w => utf_Place s a (by omega) w)
  have P2 := Lib.hid (fun w => utf_Place s b (by omega) w)
  have g0 : decide (b < a) = false := decide_eq_false (by omega)
  rw [h1] at P1
  rw [h2] at P2
  clear hs h0 h1 h2
  go_enter Try.func11, Try.ntmps11
  go_wp2_with (first
    | (go_at_call 15; (with_reducible refine (P1.out _).mono ?_); rintro e w1 ⟨rfl, rfl⟩)
    | (go_at_call 15; (with_reducible refine (P2.out _).mono ?_); rintro e w1 ⟨rfl, rfl⟩))
  go_ret
  exact ⟨rfl, hX⟩
set_option maxHeartbeats 1000000 in
set_option maxRecDepth 100000 in
theorem span_Right_text (s : ByteArray) (a b : Int) (l : Bool) (hs : s.size ≤ 1000000000000) (h0 : a ≤ b) (h1 : Utf.place s.data.toList a = true) (h2 : Utf.place s.data.toList b = true) (h3 : l = false) (w : World) :
    Calls Try.prog 11 #[.string s, .agg #[.int .i64 a, .int .i64 b, .bool l]] w fun e w' => e = .returned (.bool true) ∧ Below w.heap.size w w' := by
  have hX : Below w.heap.size w (w.alloc (.cells #[.int .i64 a, .int .i64 b, .bool l] 24)) := (Below.refl _ w).alloc (Nat.le_refl _) _
  have P1 := Lib.hid (fun w => utf_Place s a (by omega) w)
  have P2 := Lib.hid (fun w => utf_Place s b (by omega) w)
  have g0 : decide (b < a) = false := decide_eq_false (by omega)
  rw [h1] at P1
  rw [h2] at P2
  subst h3
  clear hs h0 h1 h2
  go_enter Try.func11, Try.ntmps11
  go_wp2_with (first
    | (go_at_call 15; (with_reducible refine (P1.out _).mono ?_); rintro e w1 ⟨rfl, rfl⟩)
    | (go_at_call 15; (with_reducible refine (P2.out _).mono ?_); rintro e w1 ⟨rfl, rfl⟩))
  go_ret
  exact ⟨rfl, hX⟩
set_option maxHeartbeats 1000000 in
set_option maxRecDepth 100000 in
theorem span_Right_first (s : ByteArray) (a b : Int) (l : Bool) (hs : s.size ≤ 1000000000000) (h0 : a ≤ b) (h1 : Utf.place s.data.toList a = true) (h2 : Utf.place s.data.toList b = true) (h3 : l = true) (h4 : starts s.data.toList a.toNat = false) (w : World) :
    Calls Try.prog 11 #[.string s, .agg #[.int .i64 a, .int .i64 b, .bool l]] w fun e w' => e = .returned (.bool false) ∧ Below w.heap.size w w' := by
  have hX : Below w.heap.size w (w.alloc (.cells #[.int .i64 a, .int .i64 b, .bool l] 24)) := (Below.refl _ w).alloc (Nat.le_refl _) _
  have P1 := Lib.hid (fun w => utf_Place s a (by omega) w)
  have P2 := Lib.hid (fun w => utf_Place s b (by omega) w)
  have g0 : decide (b < a) = false := decide_eq_false (by omega)
  rw [h1] at P1
  rw [h2] at P2
  subst h3
  obtain ⟨x, rfl, hx⟩ := Line.place_nat h1
  obtain ⟨y, rfl, hy⟩ := Line.place_nat h2
  rw [data_len] at hx hy
  rw [Int.toNat_natCast] at h4
  have S1 := Lib.hid (fun w => span_starts s hx (by omega) w)
  rw [h4] at S1
  have g9 : decide (y < x) = false := decide_eq_false (by omega)
  clear hs h0 h1 h2 h4 hx hy
  go_enter Try.func11, Try.ntmps11
  go_wp2_with (first
    | (go_at_call 15; (with_reducible refine (P1.out _).mono ?_); rintro e w1 ⟨rfl, rfl⟩)
    | (go_at_call 15; (with_reducible refine (P2.out _).mono ?_); rintro e w1 ⟨rfl, rfl⟩)
    | (go_at_call 27; (with_reducible refine (S1.out _).mono ?_); rintro e w1 ⟨rfl, rfl⟩))
  go_ret
  exact ⟨rfl, hX⟩
set_option maxHeartbeats 1000000 in
set_option maxRecDepth 100000 in
theorem span_Right_lines (s : ByteArray) (a b : Int) (l : Bool) (hs : s.size ≤ 1000000000000) (h0 : a ≤ b) (h1 : Utf.place s.data.toList a = true) (h2 : Utf.place s.data.toList b = true) (h3 : l = true) (h4 : starts s.data.toList a.toNat = true) (w : World) :
    Calls Try.prog 11 #[.string s, .agg #[.int .i64 a, .int .i64 b, .bool l]] w fun e w' => e = .returned (.bool (ends s.data.toList b.toNat)) ∧ Below w.heap.size w w' := by
  have hX : Below w.heap.size w (w.alloc (.cells #[.int .i64 a, .int .i64 b, .bool l] 24)) := (Below.refl _ w).alloc (Nat.le_refl _) _
  have P1 := Lib.hid (fun w => utf_Place s a (by omega) w)
  have P2 := Lib.hid (fun w => utf_Place s b (by omega) w)
  have g0 : decide (b < a) = false := decide_eq_false (by omega)
  rw [h1] at P1
  rw [h2] at P2
  subst h3
  obtain ⟨x, rfl, hx⟩ := Line.place_nat h1
  obtain ⟨y, rfl, hy⟩ := Line.place_nat h2
  rw [data_len] at hx hy
  rw [Int.toNat_natCast] at h4
  have S1 := Lib.hid (fun w => span_starts s hx (by omega) w)
  rw [h4] at S1
  have g9 : decide (y < x) = false := decide_eq_false (by omega)
  have E1 := Lib.hid (fun w => span_ends s hy w)
  rw [Int.toNat_natCast]
  generalize ends s.data.toList y = z at *
  clear hs h0 h1 h2 h4 hx hy
  go_enter Try.func11, Try.ntmps11
  go_wp2_with (first
    | (go_at_call 15; (with_reducible refine (P1.out _).mono ?_); rintro e w1 ⟨rfl, rfl⟩)
    | (go_at_call 15; (with_reducible refine (P2.out _).mono ?_); rintro e w1 ⟨rfl, rfl⟩)
    | (go_at_call 27; (with_reducible refine (S1.out _).mono ?_); rintro e w1 ⟨rfl, rfl⟩)
    | (go_at_call 16; (with_reducible refine (E1.out _).mono ?_); rintro e w1 ⟨rfl, rfl⟩))
  go_ret
  exact ⟨rfl, hX⟩
theorem span_Right (s : ByteArray) (a b : Int) (l : Bool) (hs : s.size ≤ 1000000000000) (w : World) :
    Calls Try.prog 11 #[.string s, .agg #[.int .i64 a, .int .i64 b, .bool l]] w fun e w' => e = .returned (.bool (Span.right s.data.toList a b l)) ∧ Below w.heap.size w w' := by
  rw [Span.right]
  rcases Int.lt_or_le b a with h0 | h0
  · rw [decide_eq_false (by omega)]; exact span_Right_low s a b l hs h0 w
  rw [decide_eq_true h0]
  cases h1 : Utf.place s.data.toList a with
  | false => exact span_Right_from s a b l hs h0 h1 w
  | true =>
    cases h2 : Utf.place s.data.toList b with
    | false => exact span_Right_to s a b l hs h0 h1 h2 w
    | true =>
      cases l with
      | false => exact span_Right_text s a b false hs h0 h1 h2 rfl w
      | true =>
        cases h4 : starts s.data.toList a.toNat with
        | false => exact span_Right_first s a b true hs h0 h1 h2 rfl h4 w
        | true => exact span_Right_lines s a b true hs h0 h1 h2 rfl h4 w
end Go.Proofs.Ytnelhhijihmpbaa
