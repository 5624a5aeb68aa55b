/-
  Package ex's sign and span, and the text of a line: what it might be is put together, and parsed.
-/
import Derived.Test.YtcddbdefdenecaaGreatDoorExParse
import Derived.Test.YtcddbdefdenecaaGreatDoorExSame
import Derived.Test.YtcddbdefdenecaaGreatDoorDigits
import Derived.Deep.RegionHeld3
import Derived.Deep.Cut
namespace Go.Proofs.YtcddbdefdenecaaGreatDoor
open Go.RowKit Go.Shelf
open Ex (Ln)
theorem Ex.sgn_size {a : Int} (h : I64 a) : (bs (Ex.sgn a)).size ≤ 21 := by
  unfold Ex.sgn
  split
  · rw [bs_size]; simp
  split
  · rw [bs_size]; simp
  split
  · rw [bs_size]; simp
  · exact itoa_size a h
theorem Ex.span_size {a b : Int} (ha : I64 a) (hb : I64 b) : (bs (Ex.spanP a b)).size ≤ 43 := by
  unfold Ex.spanP
  have h1 := Ex.sgn_size ha
  have h2 := Ex.sgn_size hb
  rw [bs_size] at h1 h2
  split
  · rw [bs_size]; simp
  split
  · rw [bs_size]; omega
  · rw [bs_size, List.length_append, List.length_cons]; omega
set_option maxHeartbeats 1000000 in
set_option maxRecDepth 100000 in
theorem ex_sign (a : Int) (h : I64 a) {B : Nat} {w : World} (hp : Pow B w) :
    Calls Tryz.prog 50 #[.int .i64 a] w fun e w' => e = .returned (.string (bs (Ex.sgn a))) ∧ Below w.heap.size w w' := by
  unfold Ex.sgn
  by_cases h0 : a = 0
  · subst h0
    go_enter Tryz.func50, Tryz.ntmps50
    go_wp2
    go_ret
    exact ⟨rfl, Below.refl _ _⟩
  by_cases h1 : a = -1
  · subst h1
    go_enter Tryz.func50, Tryz.ntmps50
    go_wp2
    go_ret
    exact ⟨rfl, Below.refl _ _⟩
  by_cases h2 : a = -2
  · subst h2
    go_enter Tryz.func50, Tryz.ntmps50
    go_wp2
    go_ret
    exact ⟨rfl, Below.refl _ _⟩
  rw [if_neg h0, if_neg h1, if_neg h2]
  have C := Lib.hid (itoa_any a h hp)
  have g0 : (a == 0) = false := by rw [beq_eq_false_iff_ne]; exact h0
  have g1 : (a == -1) = false := by rw [beq_eq_false_iff_ne]; exact h1
  have g2 : (a == -2) = false := by rw [beq_eq_false_iff_ne]; exact h2
  generalize bs (Lib.itoa a) = t at *
  clear h0 h1 h2 h
  go_enter Tryz.func50, Tryz.ntmps50
  go_wp2_with (go_at_call 72; refine C.out.mono ?_; rintro e w1 ⟨rfl, hb⟩)
  go_ret
  exact ⟨rfl, hb⟩
set_option maxHeartbeats 1000000 in
set_option maxRecDepth 100000 in
theorem ex_span_all (w : World) :
    Calls Tryz.prog 29 #[.int .i64 1, .int .i64 (-2)] w fun e w' => e = .returned (.string ⟨#[37]⟩) ∧ Below w.heap.size w w' := by
  go_enter Tryz.func29, Tryz.ntmps29
  go_wp2
  go_ret
  exact ⟨rfl, Below.refl _ _⟩
set_option maxHeartbeats 1000000 in
set_option maxRecDepth 100000 in
theorem ex_span_one_n {a : Int} (ha : I64 a) (h1 : a ≠ 1) {B : Nat} {w : World} (hp : Pow B w) (hB : B ≤ w.heap.size) :
    Calls Tryz.prog 29 #[.int .i64 a, .int .i64 0] w fun e w' => e = .returned (.string (bs (Ex.sgn a))) ∧ Below w.heap.size w w' := by
  have C1 := Lib.hid (fun (u : World) (h : Below w.heap.size w u) => ex_sign a ha (hp.on (h.mono hB)))
  have g1 : (a == 1) = false := by rw [beq_eq_false_iff_ne]; exact h1
  clear h1 ha
  generalize bs (Ex.sgn a) = t at *
  go_enter Tryz.func29, Tryz.ntmps29
  go_wp2_with (first
    | (go_at_call 50; (with_reducible refine (C1.out _ (Below.refl _ _)).mono ?_); rintro e w1 ⟨rfl, hb1⟩))
  go_ret
  exact ⟨rfl, hb1⟩
set_option maxHeartbeats 1000000 in
set_option maxRecDepth 100000 in
theorem ex_span_one_1  {B : Nat} {w : World} (hp : Pow B w) (hB : B ≤ w.heap.size) :
    Calls Tryz.prog 29 #[.int .i64 1, .int .i64 0] w fun e w' => e = .returned (.string (bs (Ex.sgn 1))) ∧ Below w.heap.size w w' := by
  have C1 := Lib.hid (fun (u : World) (h : Below w.heap.size w u) => ex_sign 1 (by unfold I64; decide) (hp.on (h.mono hB)))
  generalize bs (Ex.sgn 1) = t at *
  go_enter Tryz.func29, Tryz.ntmps29
  go_wp2_with (first
    | (go_at_call 50; (with_reducible refine (C1.out _ (Below.refl _ _)).mono ?_); rintro e w1 ⟨rfl, hb1⟩))
  go_ret
  exact ⟨rfl, hb1⟩
set_option maxHeartbeats 1000000 in
set_option maxRecDepth 100000 in
theorem ex_span_two_n {a b : Int} (ha : I64 a) (hb : I64 b) (h1 : a ≠ 1) (h0 : b ≠ 0) {B : Nat} {w : World} (hp : Pow B w) (hB : B ≤ w.heap.size) :
    Calls Tryz.prog 29 #[.int .i64 a, .int .i64 b] w fun e w' => e = .returned (.string (bs (Ex.sgn a ++ 44 :: Ex.sgn b))) ∧ Below w.heap.size w w' := by
  have C1 := Lib.hid (fun (u : World) (h : Below w.heap.size w u) => ex_sign a ha (hp.on (h.mono hB)))
  have C2 := Lib.hid (fun (u : World) (h : Below w.heap.size w u) => ex_sign b hb (hp.on (h.mono hB)))
  have z1 := Ex.sgn_size ha
  have z2 := Ex.sgn_size hb
  have H : Hid (bs (Ex.sgn a ++ 44 :: Ex.sgn b) = (bs (Ex.sgn a) ++ ⟨#[44]⟩) ++ bs (Ex.sgn b)) := by
    show _ = _
    rw [show (⟨#[44]⟩ : ByteArray) = bs [44] from rfl, bs_append, bs_append, List.append_assoc]; rfl
  have g0 : (b == 0) = false := by rw [beq_eq_false_iff_ne]; exact h0
  have g1 : (a == 1) = false := by rw [beq_eq_false_iff_ne]; exact h1
  generalize bs (Ex.sgn a ++ 44 :: Ex.sgn b) = R at *
  generalize bs (Ex.sgn a) = t at *
  generalize bs (Ex.sgn b) = q at *
  have k1 : ¬ 9223372036854775807 < t.size + 1 := by omega
  have k2 : ¬ 9223372036854775807 < t.size + 1 + q.size := by omega
  clear h1 h0 ha hb z1 z2
  go_enter Tryz.func29, Tryz.ntmps29
  go_wp2_with (first
    | (go_at_call 50; (with_reducible refine (C1.out _ (Below.refl _ _)).mono ?_); rintro e w1 ⟨rfl, hb1⟩)
    | (go_at_call 50; (with_reducible refine (C2.out _ hb1).mono ?_); rintro e w2 ⟨rfl, hb2⟩))
  go_ret
  exact ⟨by rw [H.out]; rfl, hb1.trans (hb2.mono hb1.size)⟩
set_option maxHeartbeats 1000000 in
set_option maxRecDepth 100000 in
theorem ex_span_two_1 {b : Int} (hb : I64 b) (h2 : b ≠ -2) (h0 : b ≠ 0) {B : Nat} {w : World} (hp : Pow B w) (hB : B ≤ w.heap.size) :
    Calls Tryz.prog 29 #[.int .i64 1, .int .i64 b] w fun e w' => e = .returned (.string (bs (Ex.sgn 1 ++ 44 :: Ex.sgn b))) ∧ Below w.heap.size w w' := by
  have C1 := Lib.hid (fun (u : World) (h : Below w.heap.size w u) => ex_sign 1 (by unfold I64; decide) (hp.on (h.mono hB)))
  have C2 := Lib.hid (fun (u : World) (h : Below w.heap.size w u) => ex_sign b hb (hp.on (h.mono hB)))
  have z1 := Ex.sgn_size (a := 1) (by unfold I64; decide)
  have z2 := Ex.sgn_size hb
  have H : Hid (bs (Ex.sgn 1 ++ 44 :: Ex.sgn b) = (bs (Ex.sgn 1) ++ ⟨#[44]⟩) ++ bs (Ex.sgn b)) := by
    show _ = _
    rw [show (⟨#[44]⟩ : ByteArray) = bs [44] from rfl, bs_append, bs_append, List.append_assoc]; rfl
  have g0 : (b == 0) = false := by rw [beq_eq_false_iff_ne]; exact h0
  have g1 : (b == -2) = false := by rw [beq_eq_false_iff_ne]; exact h2
  generalize bs (Ex.sgn 1 ++ 44 :: Ex.sgn b) = R at *
  generalize bs (Ex.sgn 1) = t at *
  generalize bs (Ex.sgn b) = q at *
  have k1 : ¬ 9223372036854775807 < t.size + 1 := by omega
  have k2 : ¬ 9223372036854775807 < t.size + 1 + q.size := by omega
  clear h2 h0 hb z1 z2
  go_enter Tryz.func29, Tryz.ntmps29
  go_wp2_with (first
    | (go_at_call 50; (with_reducible refine (C1.out _ (Below.refl _ _)).mono ?_); rintro e w1 ⟨rfl, hb1⟩)
    | (go_at_call 50; (with_reducible refine (C2.out _ hb1).mono ?_); rintro e w2 ⟨rfl, hb2⟩))
  go_ret
  exact ⟨by rw [H.out]; rfl, hb1.trans (hb2.mono hb1.size)⟩
theorem ex_span (a b : Int) (ha : I64 a) (hb : I64 b) {B : Nat} {w : World} (hp : Pow B w) (hB : B ≤ w.heap.size) :
    Calls Tryz.prog 29 #[.int .i64 a, .int .i64 b] w fun e w' => e = .returned (.string (bs (Ex.spanP a b))) ∧ Below w.heap.size w w' := by
  unfold Ex.spanP
  by_cases h1 : a = 1 ∧ b = -2
  · rw [if_pos h1]; obtain ⟨rfl, rfl⟩ := h1; exact ex_span_all w
  rw [if_neg h1]
  by_cases h0 : b = 0
  · rw [if_pos h0]
    subst h0
    by_cases ha1 : a = 1
    · subst ha1; exact ex_span_one_1 hp hB
    · exact ex_span_one_n ha ha1 hp hB
  · rw [if_neg h0]
    by_cases ha1 : a = 1
    · subst ha1; exact ex_span_two_1 hb (fun e => h1 ⟨rfl, e⟩) h0 hp hB
    · exact ex_span_two_n ha hb ha1 h0 hp hB
end Go.Proofs.YtcddbdefdenecaaGreatDoor
