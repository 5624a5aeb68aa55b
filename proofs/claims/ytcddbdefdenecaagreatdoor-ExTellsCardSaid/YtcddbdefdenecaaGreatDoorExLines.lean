/-
  Package ex's right, place and Lines: which lines are meant.
-/
import Derived.Test.YtcddbdefdenecaaGreatDoorExBox
namespace Go.Proofs.YtcddbdefdenecaaGreatDoor
open Go.RowKit
open Ex (Ln)
theorem ex_right_low {a : Int} (h : ¬ -2 ≤ a) (w : World) : Calls Tryz.prog 32 #[.int .i64 a] w fun e w' => e = .returned (.bool false) ∧ w = w' := by
  have g : decide ((-2 : Int) ≤ a) = false := decide_eq_false h
  go_enter Tryz.func32, Tryz.ntmps32
  go_wp2
  go_ret
  exact ⟨rfl, rfl⟩
theorem ex_right_up {a : Int} (h : -2 ≤ a) (w : World) : Calls Tryz.prog 32 #[.int .i64 a] w fun e w' => e = .returned (.bool (decide (a ≤ 999999))) ∧ w = w' := by
  have g : decide ((-2 : Int) ≤ a) = true := decide_eq_true h
  go_enter Tryz.func32, Tryz.ntmps32
  go_wp2
  go_ret
  exact ⟨rfl, rfl⟩
theorem ex_right_no {a : Int} (h : a < -2 ∨ 999999 < a) (w : World) : Calls Tryz.prog 32 #[.int .i64 a] w fun e w' => e = .returned (.bool false) ∧ w = w' := by
  by_cases h1 : -2 ≤ a
  · have := ex_right_up h1 w
    rw [decide_eq_false (by omega)] at this
    exact this
  · exact ex_right_low h1 w
theorem ex_right_yes {a : Int} (h : Ex.Adr a) (w : World) : Calls Tryz.prog 32 #[.int .i64 a] w fun e w' => e = .returned (.bool true) ∧ w = w' := by
  have := ex_right_up h.1 w
  rw [decide_eq_true h.2] at this
  exact this
theorem ex_place {a here count : Int} (h : Ex.Adr a) (h1 : 1 ≤ count) (h2 : count ≤ 9223372036854775807) (w : World) : Calls Tryz.prog 33 #[.int .i64 a, .int .i64 here, .int .i64 count] w fun e w' => e = .returned (.int .i64 (Ex.lineOf a here here count)) ∧ w = w' := by
  unfold Ex.lineOf Ex.Adr at *
  by_cases h0 : a = 0
  · subst h0
    go_enter Tryz.func33, Tryz.ntmps33
    go_wp2
    go_ret
    exact ⟨rfl, rfl⟩
  by_cases h3 : a = -1
  · subst h3
    go_enter Tryz.func33, Tryz.ntmps33
    go_wp2
    go_ret
    exact ⟨rfl, rfl⟩
  by_cases h4 : a = -2
  · subst h4
    have hw : IntKind.i64.wrap (count - 1) = count - 1 := by rw [IntKind.wrap_i64]; omega
    go_enter Tryz.func33, Tryz.ntmps33
    go_wp2
    go_ret
    exact ⟨rfl, rfl⟩
  rw [if_neg h3, if_neg h4, if_neg h0]
  have hw : IntKind.i64.wrap (a - 1) = a - 1 := by rw [IntKind.wrap_i64]; omega
  have g0 : (a == 0) = false := by rw [beq_eq_false_iff_ne]; exact h0
  have g1 : (a == -1) = false := by rw [beq_eq_false_iff_ne]; exact h3
  have g2 : (a == -2) = false := by rw [beq_eq_false_iff_ne]; exact h4
  clear h h0 h3 h4 h1 h2
  go_enter Tryz.func33, Tryz.ntmps33
  go_wp2
  go_ret
  exact ⟨rfl, rfl⟩
set_option maxHeartbeats 1000000 in
set_option maxRecDepth 100000 in
theorem ex_Lines_low (l : Ln) (here count : Int) (h : here < 0) (w : World) :
    Calls Tryz.prog 12 #[.agg #[.int .i64 l.frm, .int .i64 l.to, .string (bs l.name), .string (bs l.arg), .string (bs l.pat), .string (bs l.rep), .bool l.all], .int .i64 here, .int .i64 count] w fun e w' => e = .returned (.tuple #[.int .i64 0, .int .i64 0, .int .i64 1]) ∧ Below w.heap.size w w' := by
  have g0 : decide (here < 0) = true := decide_eq_true (by omega)
  have W0 := (Below.refl w.heap.size w).alloc (Nat.le_refl _) (.cells #[.int .i64 l.frm, .int .i64 l.to, .string (bs l.name), .string (bs l.arg), .string (bs l.pat), .string (bs l.rep), .bool l.all] 24)
  obtain ⟨c0, c1, c2, c3, c4, c5, c6⟩ := Ex.cells7 (Blk.new w 24 #[.int .i64 l.frm, .int .i64 l.to, .string (bs l.name), .string (bs l.arg), .string (bs l.pat), .string (bs l.rep), .bool l.all])
  clear c2 c3 c4 c5 c6
  go_enter Tryz.func12, Tryz.ntmps12
  go_wp2
  go_ret3
  exact ⟨rfl, W0⟩
set_option maxHeartbeats 1000000 in
set_option maxRecDepth 100000 in
theorem ex_Lines_high (l : Ln) (here count : Int) (h : ¬ here < 0) (h1 : count ≤ here) (w : World) :
    Calls Tryz.prog 12 #[.agg #[.int .i64 l.frm, .int .i64 l.to, .string (bs l.name), .string (bs l.arg), .string (bs l.pat), .string (bs l.rep), .bool l.all], .int .i64 here, .int .i64 count] w fun e w' => e = .returned (.tuple #[.int .i64 0, .int .i64 0, .int .i64 1]) ∧ Below w.heap.size w w' := by
  have g0 : decide (here < 0) = false := decide_eq_false (by omega)
  have g1 : decide (count ≤ here) = true := decide_eq_true (by omega)
  have W0 := (Below.refl w.heap.size w).alloc (Nat.le_refl _) (.cells #[.int .i64 l.frm, .int .i64 l.to, .string (bs l.name), .string (bs l.arg), .string (bs l.pat), .string (bs l.rep), .bool l.all] 24)
  obtain ⟨c0, c1, c2, c3, c4, c5, c6⟩ := Ex.cells7 (Blk.new w 24 #[.int .i64 l.frm, .int .i64 l.to, .string (bs l.name), .string (bs l.arg), .string (bs l.pat), .string (bs l.rep), .bool l.all])
  clear c2 c3 c4 c5 c6 h h1
  go_enter Tryz.func12, Tryz.ntmps12
  go_wp2
  go_ret3
  exact ⟨rfl, W0⟩
set_option maxHeartbeats 1000000 in
set_option maxRecDepth 100000 in
theorem ex_Lines_from (l : Ln) (here count : Int) (h : ¬ here < 0) (h1 : ¬ count ≤ here) (ha : l.frm < -2 ∨ 999999 < l.frm) (w : World) :
    Calls Tryz.prog 12 #[.agg #[.int .i64 l.frm, .int .i64 l.to, .string (bs l.name), .string (bs l.arg), .string (bs l.pat), .string (bs l.rep), .bool l.all], .int .i64 here, .int .i64 count] w fun e w' => e = .returned (.tuple #[.int .i64 0, .int .i64 0, .int .i64 1]) ∧ Below w.heap.size w w' := by
  have g0 : decide (here < 0) = false := decide_eq_false (by omega)
  have g1 : decide (count ≤ here) = false := decide_eq_false (by omega)
  have R1 := Lib.hid (fun w => ex_right_no ha w)
  have W0 := (Below.refl w.heap.size w).alloc (Nat.le_refl _) (.cells #[.int .i64 l.frm, .int .i64 l.to, .string (bs l.name), .string (bs l.arg), .string (bs l.pat), .string (bs l.rep), .bool l.all] 24)
  obtain ⟨c0, c1, c2, c3, c4, c5, c6⟩ := Ex.cells7 (Blk.new w 24 #[.int .i64 l.frm, .int .i64 l.to, .string (bs l.name), .string (bs l.arg), .string (bs l.pat), .string (bs l.rep), .bool l.all])
  clear c2 c3 c4 c5 c6 h h1 ha
  go_enter Tryz.func12, Tryz.ntmps12
  go_wp2_with (first
    | (go_at_call 32; (with_reducible refine (R1.out _).mono ?_); rintro e u ⟨rfl, rfl⟩))
  go_ret3
  exact ⟨rfl, W0⟩
set_option maxHeartbeats 1000000 in
set_option maxRecDepth 100000 in
theorem ex_Lines_to (l : Ln) (here count : Int) (h : ¬ here < 0) (h1 : ¬ count ≤ here) (ha : Ex.Adr l.frm) (hb : l.to < -2 ∨ 999999 < l.to) (w : World) :
    Calls Tryz.prog 12 #[.agg #[.int .i64 l.frm, .int .i64 l.to, .string (bs l.name), .string (bs l.arg), .string (bs l.pat), .string (bs l.rep), .bool l.all], .int .i64 here, .int .i64 count] w fun e w' => e = .returned (.tuple #[.int .i64 0, .int .i64 0, .int .i64 1]) ∧ Below w.heap.size w w' := by
  have g0 : decide (here < 0) = false := decide_eq_false (by omega)
  have g1 : decide (count ≤ here) = false := decide_eq_false (by omega)
  have R1 := Lib.hid (fun w => ex_right_yes ha w)
  have R2 := Lib.hid (fun w => ex_right_no hb w)
  have W0 := (Below.refl w.heap.size w).alloc (Nat.le_refl _) (.cells #[.int .i64 l.frm, .int .i64 l.to, .string (bs l.name), .string (bs l.arg), .string (bs l.pat), .string (bs l.rep), .bool l.all] 24)
  obtain ⟨c0, c1, c2, c3, c4, c5, c6⟩ := Ex.cells7 (Blk.new w 24 #[.int .i64 l.frm, .int .i64 l.to, .string (bs l.name), .string (bs l.arg), .string (bs l.pat), .string (bs l.rep), .bool l.all])
  clear c2 c3 c4 c5 c6 h h1 ha hb
  go_enter Tryz.func12, Tryz.ntmps12
  go_wp2_with (first
    | (go_at_call 32; (with_reducible refine (R1.out _).mono ?_); rintro e u ⟨rfl, rfl⟩)
    | (go_at_call 32; (with_reducible refine (R2.out _).mono ?_); rintro e u ⟨rfl, rfl⟩))
  go_ret3
  exact ⟨rfl, W0⟩
set_option maxHeartbeats 1000000 in
set_option maxRecDepth 100000 in
theorem ex_Lines_none (l : Ln) (here count : Int) (h : ¬ here < 0) (h1 : ¬ count ≤ here) (ha : Ex.Adr l.frm) (hb : Ex.Adr l.to) (h3 : l.frm = 0) (h4 : l.to ≠ 0) (w : World) :
    Calls Tryz.prog 12 #[.agg #[.int .i64 l.frm, .int .i64 l.to, .string (bs l.name), .string (bs l.arg), .string (bs l.pat), .string (bs l.rep), .bool l.all], .int .i64 here, .int .i64 count] w fun e w' => e = .returned (.tuple #[.int .i64 0, .int .i64 0, .int .i64 1]) ∧ Below w.heap.size w w' := by
  have g0 : decide (here < 0) = false := decide_eq_false (by omega)
  have g1 : decide (count ≤ here) = false := decide_eq_false (by omega)
  have R1 := Lib.hid (fun w => ex_right_yes ha w)
  have R2 := Lib.hid (fun w => ex_right_yes hb w)
  have f0 : (l.frm == 0) = true := by rw [beq_iff_eq]; exact h3
  have t0 : (l.to != 0) = true := by rw [bne_iff_ne]; exact h4
  have W0 := (Below.refl w.heap.size w).alloc (Nat.le_refl _) (.cells #[.int .i64 l.frm, .int .i64 l.to, .string (bs l.name), .string (bs l.arg), .string (bs l.pat), .string (bs l.rep), .bool l.all] 24)
  obtain ⟨c0, c1, c2, c3, c4, c5, c6⟩ := Ex.cells7 (Blk.new w 24 #[.int .i64 l.frm, .int .i64 l.to, .string (bs l.name), .string (bs l.arg), .string (bs l.pat), .string (bs l.rep), .bool l.all])
  clear c2 c3 c4 c5 c6 h h1 ha hb h3 h4
  go_enter Tryz.func12, Tryz.ntmps12
  go_wp2_with (first
    | (go_at_call 32; (with_reducible refine (R1.out _).mono ?_); rintro e u ⟨rfl, rfl⟩)
    | (go_at_call 32; (with_reducible refine (R2.out _).mono ?_); rintro e u ⟨rfl, rfl⟩))
  go_ret3
  exact ⟨rfl, W0⟩
set_option maxHeartbeats 1000000 in
set_option maxRecDepth 100000 in
theorem ex_Lines_high_z (l : Ln) (here count : Int) (h : ¬ here < 0) (h1 : ¬ count ≤ here) (hc : count ≤ 9223372036854775807) (ha : Ex.Adr l.frm) (hb : Ex.Adr l.to) (h3 : l.frm = 0) (h4 : l.to = 0) (hk : count ≤ Ex.lineOf l.frm here here count) (w : World) :
    Calls Tryz.prog 12 #[.agg #[.int .i64 l.frm, .int .i64 l.to, .string (bs l.name), .string (bs l.arg), .string (bs l.pat), .string (bs l.rep), .bool l.all], .int .i64 here, .int .i64 count] w fun e w' => e = .returned (.tuple #[.int .i64 0, .int .i64 0, .int .i64 6]) ∧ Below w.heap.size w w' := by
  have g0 : decide (here < 0) = false := decide_eq_false (by omega)
  have g1 : decide (count ≤ here) = false := decide_eq_false (by omega)
  have R1 := Lib.hid (fun w => ex_right_yes ha w)
  have R2 := Lib.hid (fun w => ex_right_yes hb w)
  have P1 := Lib.hid (fun w => ex_place (here := here) ha (by omega : 1 ≤ count) hc w)
  have f0 : (l.frm == 0) = true := by rw [beq_iff_eq]; exact h3
  have t0 : (l.to != 0) = false := by simp [h4]
  generalize Ex.lineOf l.frm here here count = x at *
  have g2 : decide (x < x) = false := decide_eq_false (by omega)
  have g3 : decide (count ≤ x) = true := decide_eq_true (by omega)
  have W0 := (Below.refl w.heap.size w).alloc (Nat.le_refl _) (.cells #[.int .i64 l.frm, .int .i64 l.to, .string (bs l.name), .string (bs l.arg), .string (bs l.pat), .string (bs l.rep), .bool l.all] 24)
  obtain ⟨c0, c1, c2, c3, c4, c5, c6⟩ := Ex.cells7 (Blk.new w 24 #[.int .i64 l.frm, .int .i64 l.to, .string (bs l.name), .string (bs l.arg), .string (bs l.pat), .string (bs l.rep), .bool l.all])
  clear c2 c3 c4 c5 c6 h h1 hc ha hb h3 h4 hk
  go_enter Tryz.func12, Tryz.ntmps12
  go_wp2_with (first
    | (go_at_call 32; (with_reducible refine (R1.out _).mono ?_); rintro e u ⟨rfl, rfl⟩)
    | (go_at_call 32; (with_reducible refine (R2.out _).mono ?_); rintro e u ⟨rfl, rfl⟩)
    | (go_at_call 33; (with_reducible refine (P1.out _).mono ?_); rintro e u ⟨rfl, rfl⟩))
  go_ret3
  exact ⟨rfl, W0⟩
set_option maxHeartbeats 1000000 in
set_option maxRecDepth 100000 in
theorem ex_Lines_ok_z (l : Ln) (here count : Int) (h : ¬ here < 0) (h1 : ¬ count ≤ here) (hc : count ≤ 9223372036854775807) (ha : Ex.Adr l.frm) (hb : Ex.Adr l.to) (h3 : l.frm = 0) (h4 : l.to = 0) (hk : ¬ count ≤ Ex.lineOf l.frm here here count) (w : World) :
    Calls Tryz.prog 12 #[.agg #[.int .i64 l.frm, .int .i64 l.to, .string (bs l.name), .string (bs l.arg), .string (bs l.pat), .string (bs l.rep), .bool l.all], .int .i64 here, .int .i64 count] w fun e w' => e = .returned (.tuple #[.int .i64 (Ex.lineOf l.frm here here count), .int .i64 (Ex.lineOf l.frm here here count), .int .i64 0]) ∧ Below w.heap.size w w' := by
  have g0 : decide (here < 0) = false := decide_eq_false (by omega)
  have g1 : decide (count ≤ here) = false := decide_eq_false (by omega)
  have R1 := Lib.hid (fun w => ex_right_yes ha w)
  have R2 := Lib.hid (fun w => ex_right_yes hb w)
  have P1 := Lib.hid (fun w => ex_place (here := here) ha (by omega : 1 ≤ count) hc w)
  have f0 : (l.frm == 0) = true := by rw [beq_iff_eq]; exact h3
  have t0 : (l.to != 0) = false := by simp [h4]
  generalize Ex.lineOf l.frm here here count = x at *
  have g2 : decide (x < x) = false := decide_eq_false (by omega)
  have g3 : decide (count ≤ x) = false := decide_eq_false (by omega)
  have W0 := (Below.refl w.heap.size w).alloc (Nat.le_refl _) (.cells #[.int .i64 l.frm, .int .i64 l.to, .string (bs l.name), .string (bs l.arg), .string (bs l.pat), .string (bs l.rep), .bool l.all] 24)
  obtain ⟨c0, c1, c2, c3, c4, c5, c6⟩ := Ex.cells7 (Blk.new w 24 #[.int .i64 l.frm, .int .i64 l.to, .string (bs l.name), .string (bs l.arg), .string (bs l.pat), .string (bs l.rep), .bool l.all])
  clear c2 c3 c4 c5 c6 h h1 hc ha hb h3 h4 hk
  go_enter Tryz.func12, Tryz.ntmps12
  go_wp2_with (first
    | (go_at_call 32; (with_reducible refine (R1.out _).mono ?_); rintro e u ⟨rfl, rfl⟩)
    | (go_at_call 32; (with_reducible refine (R2.out _).mono ?_); rintro e u ⟨rfl, rfl⟩)
    | (go_at_call 33; (with_reducible refine (P1.out _).mono ?_); rintro e u ⟨rfl, rfl⟩))
  go_ret3
  exact ⟨rfl, W0⟩
set_option maxHeartbeats 1000000 in
set_option maxRecDepth 100000 in
theorem ex_Lines_high_o (l : Ln) (here count : Int) (h : ¬ here < 0) (h1 : ¬ count ≤ here) (hc : count ≤ 9223372036854775807) (ha : Ex.Adr l.frm) (hb : Ex.Adr l.to) (h3 : l.frm ≠ 0) (h4 : l.to = 0) (hk : count ≤ Ex.lineOf l.frm here here count) (w : World) :
    Calls Tryz.prog 12 #[.agg #[.int .i64 l.frm, .int .i64 l.to, .string (bs l.name), .string (bs l.arg), .string (bs l.pat), .string (bs l.rep), .bool l.all], .int .i64 here, .int .i64 count] w fun e w' => e = .returned (.tuple #[.int .i64 0, .int .i64 0, .int .i64 6]) ∧ Below w.heap.size w w' := by
  have g0 : decide (here < 0) = false := decide_eq_false (by omega)
  have g1 : decide (count ≤ here) = false := decide_eq_false (by omega)
  have R1 := Lib.hid (fun w => ex_right_yes ha w)
  have R2 := Lib.hid (fun w => ex_right_yes hb w)
  have P1 := Lib.hid (fun w => ex_place (here := here) ha (by omega : 1 ≤ count) hc w)
  have f0 : (l.frm == 0) = false := by rw [beq_eq_false_iff_ne]; exact h3
  have t0 : (l.to != 0) = false := by simp [h4]
  generalize Ex.lineOf l.frm here here count = x at *
  have g2 : decide (x < x) = false := decide_eq_false (by omega)
  have g3 : decide (count ≤ x) = true := decide_eq_true (by omega)
  have W0 := (Below.refl w.heap.size w).alloc (Nat.le_refl _) (.cells #[.int .i64 l.frm, .int .i64 l.to, .string (bs l.name), .string (bs l.arg), .string (bs l.pat), .string (bs l.rep), .bool l.all] 24)
  obtain ⟨c0, c1, c2, c3, c4, c5, c6⟩ := Ex.cells7 (Blk.new w 24 #[.int .i64 l.frm, .int .i64 l.to, .string (bs l.name), .string (bs l.arg), .string (bs l.pat), .string (bs l.rep), .bool l.all])
  clear c2 c3 c4 c5 c6 h h1 hc ha hb h3 h4 hk
  go_enter Tryz.func12, Tryz.ntmps12
  go_wp2_with (first
    | (go_at_call 32; (with_reducible refine (R1.out _).mono ?_); rintro e u ⟨rfl, rfl⟩)
    | (go_at_call 32; (with_reducible refine (R2.out _).mono ?_); rintro e u ⟨rfl, rfl⟩)
    | (go_at_call 33; (with_reducible refine (P1.out _).mono ?_); rintro e u ⟨rfl, rfl⟩))
  go_ret3
  exact ⟨rfl, W0⟩
set_option maxHeartbeats 1000000 in
set_option maxRecDepth 100000 in
theorem ex_Lines_ok_o (l : Ln) (here count : Int) (h : ¬ here < 0) (h1 : ¬ count ≤ here) (hc : count ≤ 9223372036854775807) (ha : Ex.Adr l.frm) (hb : Ex.Adr l.to) (h3 : l.frm ≠ 0) (h4 : l.to = 0) (hk : ¬ count ≤ Ex.lineOf l.frm here here count) (w : World) :
    Calls Tryz.prog 12 #[.agg #[.int .i64 l.frm, .int .i64 l.to, .string (bs l.name), .string (bs l.arg), .string (bs l.pat), .string (bs l.rep), .bool l.all], .int .i64 here, .int .i64 count] w fun e w' => e = .returned (.tuple #[.int .i64 (Ex.lineOf l.frm here here count), .int .i64 (Ex.lineOf l.frm here here count), .int .i64 0]) ∧ Below w.heap.size w w' := by
  have g0 : decide (here < 0) = false := decide_eq_false (by omega)
  have g1 : decide (count ≤ here) = false := decide_eq_false (by omega)
  have R1 := Lib.hid (fun w => ex_right_yes ha w)
  have R2 := Lib.hid (fun w => ex_right_yes hb w)
  have P1 := Lib.hid (fun w => ex_place (here := here) ha (by omega : 1 ≤ count) hc w)
  have f0 : (l.frm == 0) = false := by rw [beq_eq_false_iff_ne]; exact h3
  have t0 : (l.to != 0) = false := by simp [h4]
  generalize Ex.lineOf l.frm here here count = x at *
  have g2 : decide (x < x) = false := decide_eq_false (by omega)
  have g3 : decide (count ≤ x) = false := decide_eq_false (by omega)
  have W0 := (Below.refl w.heap.size w).alloc (Nat.le_refl _) (.cells #[.int .i64 l.frm, .int .i64 l.to, .string (bs l.name), .string (bs l.arg), .string (bs l.pat), .string (bs l.rep), .bool l.all] 24)
  obtain ⟨c0, c1, c2, c3, c4, c5, c6⟩ := Ex.cells7 (Blk.new w 24 #[.int .i64 l.frm, .int .i64 l.to, .string (bs l.name), .string (bs l.arg), .string (bs l.pat), .string (bs l.rep), .bool l.all])
  clear c2 c3 c4 c5 c6 h h1 hc ha hb h3 h4 hk
  go_enter Tryz.func12, Tryz.ntmps12
  go_wp2_with (first
    | (go_at_call 32; (with_reducible refine (R1.out _).mono ?_); rintro e u ⟨rfl, rfl⟩)
    | (go_at_call 32; (with_reducible refine (R2.out _).mono ?_); rintro e u ⟨rfl, rfl⟩)
    | (go_at_call 33; (with_reducible refine (P1.out _).mono ?_); rintro e u ⟨rfl, rfl⟩))
  go_ret3
  exact ⟨rfl, W0⟩
set_option maxHeartbeats 1000000 in
set_option maxRecDepth 100000 in
theorem ex_Lines_behind_t (l : Ln) (here count : Int) (h : ¬ here < 0) (h1 : ¬ count ≤ here) (hc : count ≤ 9223372036854775807) (ha : Ex.Adr l.frm) (hb : Ex.Adr l.to) (h3 : l.frm ≠ 0) (h4 : l.to ≠ 0) (hg : Ex.lineOf l.to here here count < Ex.lineOf l.frm here here count) (w : World) :
    Calls Tryz.prog 12 #[.agg #[.int .i64 l.frm, .int .i64 l.to, .string (bs l.name), .string (bs l.arg), .string (bs l.pat), .string (bs l.rep), .bool l.all], .int .i64 here, .int .i64 count] w fun e w' => e = .returned (.tuple #[.int .i64 0, .int .i64 0, .int .i64 6]) ∧ Below w.heap.size w w' := by
  have g0 : decide (here < 0) = false := decide_eq_false (by omega)
  have g1 : decide (count ≤ here) = false := decide_eq_false (by omega)
  have R1 := Lib.hid (fun w => ex_right_yes ha w)
  have R2 := Lib.hid (fun w => ex_right_yes hb w)
  have P1 := Lib.hid (fun w => ex_place (here := here) ha (by omega : 1 ≤ count) hc w)
  have P2 := Lib.hid (fun w => ex_place (here := here) hb (by omega : 1 ≤ count) hc w)
  have f0 : (l.frm == 0) = false := by rw [beq_eq_false_iff_ne]; exact h3
  have t0 : (l.to != 0) = true := by rw [bne_iff_ne]; exact h4
  generalize Ex.lineOf l.frm here here count = x at *
  generalize Ex.lineOf l.to here here count = y at *
  have g2 : decide (y < x) = true := decide_eq_true (by omega)
  have W0 := (Below.refl w.heap.size w).alloc (Nat.le_refl _) (.cells #[.int .i64 l.frm, .int .i64 l.to, .string (bs l.name), .string (bs l.arg), .string (bs l.pat), .string (bs l.rep), .bool l.all] 24)
  obtain ⟨c0, c1, c2, c3, c4, c5, c6⟩ := Ex.cells7 (Blk.new w 24 #[.int .i64 l.frm, .int .i64 l.to, .string (bs l.name), .string (bs l.arg), .string (bs l.pat), .string (bs l.rep), .bool l.all])
  clear c2 c3 c4 c5 c6 h h1 hc ha hb h3 h4 hg
  go_enter Tryz.func12, Tryz.ntmps12
  go_wp2_with (first
    | (go_at_call 32; (with_reducible refine (R1.out _).mono ?_); rintro e u ⟨rfl, rfl⟩)
    | (go_at_call 32; (with_reducible refine (R2.out _).mono ?_); rintro e u ⟨rfl, rfl⟩)
    | (go_at_call 33; (with_reducible refine (P1.out _).mono ?_); rintro e u ⟨rfl, rfl⟩)
    | (go_at_call 33; (with_reducible refine (P2.out _).mono ?_); rintro e u ⟨rfl, rfl⟩))
  go_ret3
  exact ⟨rfl, W0⟩
set_option maxHeartbeats 1000000 in
set_option maxRecDepth 100000 in
theorem ex_Lines_high_t (l : Ln) (here count : Int) (h : ¬ here < 0) (h1 : ¬ count ≤ here) (hc : count ≤ 9223372036854775807) (ha : Ex.Adr l.frm) (hb : Ex.Adr l.to) (h3 : l.frm ≠ 0) (h4 : l.to ≠ 0) (hg : ¬ Ex.lineOf l.to here here count < Ex.lineOf l.frm here here count) (hk : count ≤ Ex.lineOf l.to here here count) (w : World) :
    Calls Tryz.prog 12 #[.agg #[.int .i64 l.frm, .int .i64 l.to, .string (bs l.name), .string (bs l.arg), .string (bs l.pat), .string (bs l.rep), .bool l.all], .int .i64 here, .int .i64 count] w fun e w' => e = .returned (.tuple #[.int .i64 0, .int .i64 0, .int .i64 6]) ∧ Below w.heap.size w w' := by
  have g0 : decide (here < 0) = false := decide_eq_false (by omega)
  have g1 : decide (count ≤ here) = false := decide_eq_false (by omega)
  have R1 := Lib.hid (fun w => ex_right_yes ha w)
  have R2 := Lib.hid (fun w => ex_right_yes hb w)
  have P1 := Lib.hid (fun w => ex_place (here := here) ha (by omega : 1 ≤ count) hc w)
  have P2 := Lib.hid (fun w => ex_place (here := here) hb (by omega : 1 ≤ count) hc w)
  have f0 : (l.frm == 0) = false := by rw [beq_eq_false_iff_ne]; exact h3
  have t0 : (l.to != 0) = true := by rw [bne_iff_ne]; exact h4
  generalize Ex.lineOf l.frm here here count = x at *
  generalize Ex.lineOf l.to here here count = y at *
  have g2 : decide (y < x) = false := decide_eq_false (by omega)
  have g3 : decide (count ≤ y) = true := decide_eq_true (by omega)
  have W0 := (Below.refl w.heap.size w).alloc (Nat.le_refl _) (.cells #[.int .i64 l.frm, .int .i64 l.to, .string (bs l.name), .string (bs l.arg), .string (bs l.pat), .string (bs l.rep), .bool l.all] 24)
  obtain ⟨c0, c1, c2, c3, c4, c5, c6⟩ := Ex.cells7 (Blk.new w 24 #[.int .i64 l.frm, .int .i64 l.to, .string (bs l.name), .string (bs l.arg), .string (bs l.pat), .string (bs l.rep), .bool l.all])
  clear c2 c3 c4 c5 c6 h h1 hc ha hb h3 h4 hk hg
  go_enter Tryz.func12, Tryz.ntmps12
  go_wp2_with (first
    | (go_at_call 32; (with_reducible refine (R1.out _).mono ?_); rintro e u ⟨rfl, rfl⟩)
    | (go_at_call 32; (with_reducible refine (R2.out _).mono ?_); rintro e u ⟨rfl, rfl⟩)
    | (go_at_call 33; (with_reducible refine (P1.out _).mono ?_); rintro e u ⟨rfl, rfl⟩)
    | (go_at_call 33; (with_reducible refine (P2.out _).mono ?_); rintro e u ⟨rfl, rfl⟩))
  go_ret3
  exact ⟨rfl, W0⟩
set_option maxHeartbeats 1000000 in
set_option maxRecDepth 100000 in
theorem ex_Lines_ok_t (l : Ln) (here count : Int) (h : ¬ here < 0) (h1 : ¬ count ≤ here) (hc : count ≤ 9223372036854775807) (ha : Ex.Adr l.frm) (hb : Ex.Adr l.to) (h3 : l.frm ≠ 0) (h4 : l.to ≠ 0) (hg : ¬ Ex.lineOf l.to here here count < Ex.lineOf l.frm here here count) (hk : ¬ count ≤ Ex.lineOf l.to here here count) (w : World) :
    Calls Tryz.prog 12 #[.agg #[.int .i64 l.frm, .int .i64 l.to, .string (bs l.name), .string (bs l.arg), .string (bs l.pat), .string (bs l.rep), .bool l.all], .int .i64 here, .int .i64 count] w fun e w' => e = .returned (.tuple #[.int .i64 (Ex.lineOf l.frm here here count), .int .i64 (Ex.lineOf l.to here here count), .int .i64 0]) ∧ Below w.heap.size w w' := by
  have g0 : decide (here < 0) = false := decide_eq_false (by omega)
  have g1 : decide (count ≤ here) = false := decide_eq_false (by omega)
  have R1 := Lib.hid (fun w => ex_right_yes ha w)
  have R2 := Lib.hid (fun w => ex_right_yes hb w)
  have P1 := Lib.hid (fun w => ex_place (here := here) ha (by omega : 1 ≤ count) hc w)
  have P2 := Lib.hid (fun w => ex_place (here := here) hb (by omega : 1 ≤ count) hc w)
  have f0 : (l.frm == 0) = false := by rw [beq_eq_false_iff_ne]; exact h3
  have t0 : (l.to != 0) = true := by rw [bne_iff_ne]; exact h4
  generalize Ex.lineOf l.frm here here count = x at *
  generalize Ex.lineOf l.to here here count = y at *
  have g2 : decide (y < x) = false := decide_eq_false (by omega)
  have g3 : decide (count ≤ y) = false := decide_eq_false (by omega)
  have W0 := (Below.refl w.heap.size w).alloc (Nat.le_refl _) (.cells #[.int .i64 l.frm, .int .i64 l.to, .string (bs l.name), .string (bs l.arg), .string (bs l.pat), .string (bs l.rep), .bool l.all] 24)
  obtain ⟨c0, c1, c2, c3, c4, c5, c6⟩ := Ex.cells7 (Blk.new w 24 #[.int .i64 l.frm, .int .i64 l.to, .string (bs l.name), .string (bs l.arg), .string (bs l.pat), .string (bs l.rep), .bool l.all])
  clear c2 c3 c4 c5 c6 h h1 hc ha hb h3 h4 hk hg
  go_enter Tryz.func12, Tryz.ntmps12
  go_wp2_with (first
    | (go_at_call 32; (with_reducible refine (R1.out _).mono ?_); rintro e u ⟨rfl, rfl⟩)
    | (go_at_call 32; (with_reducible refine (R2.out _).mono ?_); rintro e u ⟨rfl, rfl⟩)
    | (go_at_call 33; (with_reducible refine (P1.out _).mono ?_); rintro e u ⟨rfl, rfl⟩)
    | (go_at_call 33; (with_reducible refine (P2.out _).mono ?_); rintro e u ⟨rfl, rfl⟩))
  go_ret3
  exact ⟨rfl, W0⟩
/-- Which lines are meant. -/
theorem ex_Lines (l : Ln) (here count : Int) (hc : count ≤ 9223372036854775807) {x y er : Int} (hx : Ex.lines l.frm l.to here count = (x, y, er)) (w : World) :
    Calls Tryz.prog 12 #[.agg #[.int .i64 l.frm, .int .i64 l.to, .string (bs l.name), .string (bs l.arg), .string (bs l.pat), .string (bs l.rep), .bool l.all], .int .i64 here, .int .i64 count] w fun e w' => e = .returned (.tuple #[.int .i64 x, .int .i64 y, .int .i64 er]) ∧ Below w.heap.size w w' := by
  unfold Ex.lines at hx
  by_cases h : here < 0
  · rw [if_pos (.inl h)] at hx; injection hx with e1 hx; injection hx with e2 e3; subst e1 e2 e3; exact ex_Lines_low l here count h w
  by_cases h1 : count ≤ here
  · rw [if_pos (.inr (.inl h1))] at hx; injection hx with e1 hx; injection hx with e2 e3; subst e1 e2 e3; exact ex_Lines_high l here count h h1 w
  by_cases ha : l.frm < -2 ∨ 999999 < l.frm
  · rw [if_pos (by omega)] at hx; injection hx with e1 hx; injection hx with e2 e3; subst e1 e2 e3; exact ex_Lines_from l here count h h1 ha w
  have ha' : Ex.Adr l.frm := by unfold Ex.Adr; omega
  by_cases hb : l.to < -2 ∨ 999999 < l.to
  · rw [if_pos (by omega)] at hx; injection hx with e1 hx; injection hx with e2 e3; subst e1 e2 e3; exact ex_Lines_to l here count h h1 ha' hb w
  have hb' : Ex.Adr l.to := by unfold Ex.Adr; omega
  by_cases h3 : l.frm = 0 ∧ l.to ≠ 0
  · rw [if_pos (by omega)] at hx; injection hx with e1 hx; injection hx with e2 e3; subst e1 e2 e3; exact ex_Lines_none l here count h h1 ha' hb' h3.1 h3.2 w
  rw [if_neg (by omega)] at hx
  by_cases h4 : l.to = 0
  · have hl : Ex.lineOf l.to (Ex.lineOf l.frm here here count) here count = Ex.lineOf l.frm here here count := by rw [h4]; rfl
    rw [hl] at hx
    by_cases hk : count ≤ Ex.lineOf l.frm here here count
    · rw [if_pos (.inl hk)] at hx; injection hx with e1 hx; injection hx with e2 e3; subst e1 e2 e3
      by_cases h0 : l.frm = 0
      · exact ex_Lines_high_z l here count h h1 hc ha' hb' h0 h4 hk w
      · exact ex_Lines_high_o l here count h h1 hc ha' hb' h0 h4 hk w
    · rw [if_neg (by omega)] at hx; injection hx with e1 hx; injection hx with e2 e3; subst e1 e2 e3
      by_cases h0 : l.frm = 0
      · exact ex_Lines_ok_z l here count h h1 hc ha' hb' h0 h4 hk w
      · exact ex_Lines_ok_o l here count h h1 hc ha' hb' h0 h4 hk w
  · have h0 : l.frm ≠ 0 := fun e => h3 ⟨e, h4⟩
    have hl : Ex.lineOf l.to (Ex.lineOf l.frm here here count) here count = Ex.lineOf l.to here here count := by unfold Ex.lineOf; rw [if_neg h4, if_neg h4]
    rw [hl] at hx
    by_cases hg : Ex.lineOf l.to here here count < Ex.lineOf l.frm here here count
    · rw [if_pos (.inr (.inr hg))] at hx; injection hx with e1 hx; injection hx with e2 e3; subst e1 e2 e3
      exact ex_Lines_behind_t l here count h h1 hc ha' hb' h0 h4 hg w
    by_cases hk : count ≤ Ex.lineOf l.to here here count
    · rw [if_pos (.inr (.inl hk))] at hx; injection hx with e1 hx; injection hx with e2 e3; subst e1 e2 e3
      exact ex_Lines_high_t l here count h h1 hc ha' hb' h0 h4 hg hk w
    · rw [if_neg (by omega)] at hx; injection hx with e1 hx; injection hx with e2 e3; subst e1 e2 e3
      exact ex_Lines_ok_t l here count h h1 hc ha' hb' h0 h4 hg hk w
end Go.Proofs.YtcddbdefdenecaaGreatDoor
