/-
  Package oper: letters and Case.
-/
import Derived.Test.YtfhljddakhigdaaDoorJ2
import Derived.Test.YtfhljddakhigdaaDoorClassTurn
import Derived.Deep.RegionHeld3
import Derived.Test.YtfhljddakhigdaaDoorJR
namespace Go.Proofs.YtfhljddakhigdaaDoor
open Go.RowKit
namespace Opr
open Utf (valid)
theorem letters_in {how : Int} {f : Nat → Bool} (h : letters how = some f) : (how = 85 ∧ f = Class.small) ∨ (how = 117 ∧ f = Class.capital) ∨ (how = 126 ∧ f = Class.letter) := by
  unfold letters at h
  split at h
  · injection h with h; exact .inl ⟨by assumption, h.symm⟩
  · split at h
    · injection h with h; exact .inr (.inl ⟨by assumption, h.symm⟩)
    · split at h
      · injection h with h; exact .inr (.inr ⟨by assumption, h.symm⟩)
      · cases h
theorem letters_no {how : Int} (h : letters how = none) : how ≠ 85 ∧ how ≠ 117 ∧ how ≠ 126 := by
  unfold letters at h
  split at h
  · cases h
  · split at h
    · cases h
    · split at h
      · cases h
      · exact ⟨by assumption, by assumption, by assumption⟩
theorem caseT_seg {s : List UInt8} {p q : Nat} (f : Nat → Bool) : caseT s p q f = put s p q (Class.turn f (Line.seg s p q)) := rfl
theorem caseT_length {s : List UInt8} {p q : Nat} (f : Nat → Bool) (h : p ≤ q) (hq : q ≤ s.length) : (caseT s p q f).length = s.length := by
  rw [caseT_seg, put, List.length_append, List.length_append, Class.turn_length, Line.seg, List.length_drop, List.length_take, List.length_take, List.length_drop, Int.toNat_natCast, Int.toNat_natCast]; omega
end Opr
theorem oper_letters_Up (w : World) : Calls Tryd.prog 47 #[.int .i64 85] w fun e w' => e = .returned (.func (.func 75) #[] #[]) ∧ w = w' := by
  go_enter Tryd.func47, Tryd.ntmps47
  go_wp2
  go_ret
  exact ⟨rfl, rfl⟩
theorem oper_letters_Low (w : World) : Calls Tryd.prog 47 #[.int .i64 117] w fun e w' => e = .returned (.func (.func 76) #[] #[]) ∧ w = w' := by
  go_enter Tryd.func47, Tryd.ntmps47
  go_wp2
  go_ret
  exact ⟨rfl, rfl⟩
theorem oper_letters_Flip (w : World) : Calls Tryd.prog 47 #[.int .i64 126] w fun e w' => e = .returned (.func (.func 77) #[] #[]) ∧ w = w' := by
  go_enter Tryd.func47, Tryd.ntmps47
  go_wp2
  go_ret
  exact ⟨rfl, rfl⟩
theorem func_nil (w : World) : (binOp .eql 61 .nilFunc .nilFunc).run Tryd.prog w = .ok (.bool true) w := by kernel_rfl
theorem func_not (n : Nat) (w : World) : (binOp .eql 61 (.func (.func n) #[] #[]) .nilFunc).run Tryd.prog w = .ok (.bool false) w := by kernel_rfl
theorem oper_letters_no (how : Int) (h : Opr.letters how = none) (w : World) : Calls Tryd.prog 47 #[.int .i64 how] w fun e w' => e = .returned .nilFunc ∧ w = w' := by
  obtain ⟨h1, h2, h3⟩ := Opr.letters_no h
  have g1 : (how == 85) = false := by simpa using h1
  have g2 : (how == 117) = false := by simpa using h2
  have g3 : (how == 126) = false := by simpa using h3
  go_enter Tryd.func47, Tryd.ntmps47
  go_wp2
  go_ret
  exact ⟨rfl, rfl⟩
set_option maxHeartbeats 2000000 in
set_option maxRecDepth 100000 in
theorem oper_Case_no (s : ByteArray) (a b : Int) (l : Bool) (how : Int) (h : Opr.letters how = none) (w : World) :
    Calls Tryd.prog 15 #[.string s, .agg #[.int .i64 a, .int .i64 b, .bool l], .int .i64 how] w fun e w' => e = .returned (.tuple #[.string ⟨#[]⟩, .int .i64 0, .int .i64 1]) ∧ Below w.heap.size w w' := by
  have K := RBox.new w a b l
  obtain ⟨q0, q1, q2, f0, f1, f2⟩ := K.cells
  have N1 := Lib.hid (oper_letters_no how h)
  have n0 := func_nil
  clear h
  go_enter Tryd.func15, Tryd.ntmps15
  go_wp2_with (go_at_call 47; (with_reducible refine (N1.out _).mono ?_); rintro e u ⟨rfl, rfl⟩)
  go_ret3
  exact ⟨rfl, K.below⟩
set_option maxHeartbeats 2000000 in
set_option maxRecDepth 100000 in
theorem oper_Case_err_Up (s : ByteArray) (a b : Int) (l : Bool) (hs : s.size ≤ 1000000000000) (er : Int) (h : Opr.fault s.data.toList a b l = er) (h0 : er ≠ 0) (w : World) :
    Calls Tryd.prog 15 #[.string s, .agg #[.int .i64 a, .int .i64 b, .bool l], .int .i64 85] w fun e w' => e = .returned (.tuple #[.string ⟨#[]⟩, .int .i64 0, .int .i64 er]) ∧ Below w.heap.size w w' := by
  have K := RBox.new w a b l
  obtain ⟨q0, q1, q2, f0, f1, f2⟩ := K.cells
  have F0 := fun w => oper_fault s a b l hs w
  rw [h] at F0
  have F1 := Lib.hid F0
  clear F0
  have g0 : (er != 0) = true := by simpa using h0
  have n0 := func_not 75
  clear h h0 hs
  go_enter Tryd.func15, Tryd.ntmps15
  go_wp2_with (first
    | (go_at_call 47; (with_reducible refine (oper_letters_Up _).mono ?_); rintro e u ⟨rfl, rfl⟩)
    | (go_at_call 25; (with_reducible refine (F1.out _).mono ?_); rintro e u ⟨rfl, hb⟩; (first | replace K := K.on hb | replace K := K.ond hb); clear hb; clear q0 q1 q2 f0 f1 f2; obtain ⟨q0, q1, q2, f0, f1, f2⟩ := K.cells))
  go_ret3
  exact ⟨rfl, K.below⟩
set_option maxHeartbeats 2000000 in
set_option maxRecDepth 100000 in
theorem oper_Case_ok_Up (s : ByteArray) (a b : Int) (l : Bool) (hs : s.size ≤ 1000000000000) (h : Opr.fault s.data.toList a b l = 0) (w : World) :
    Calls Tryd.prog 15 #[.string s, .agg #[.int .i64 a, .int .i64 b, .bool l], .int .i64 85] w fun e w' => e = .returned (.tuple #[.string (bs (Opr.caseT s.data.toList a b Class.small)), .int .i64 (Line.clamp (Opr.caseT s.data.toList a b Class.small) a), .int .i64 0]) ∧ Below w.heap.size w w' := by
  obtain ⟨hr, hne⟩ := Opr.fault_zero h
  obtain ⟨h0, h1, h2⟩ := Span.right_in hr
  rw [data_len] at h2
  obtain ⟨p, rfl⟩ : ∃ p : Nat, a = p := ⟨a.toNat, by omega⟩
  obtain ⟨q, rfl⟩ : ∃ q : Nat, b = q := ⟨b.toNat, by omega⟩
  have hpq : p ≤ q := by omega
  have hq : q ≤ s.size := by omega
  have K := RBox.new w p q l
  obtain ⟨q0, q1, q2, f0, f1, f2⟩ := K.cells
  have F0 := fun w => oper_fault s p q l hs w
  rw [h] at F0
  have F1 := Lib.hid F0
  have e0 := ext_seg s p q
  have hsl : (Line.seg s.data.toList p q).length ≤ s.size := by rw [Line.seg, List.length_drop, List.length_take, data_len]; omega
  have T0 := fun w => class_Up (bs (Line.seg s.data.toList p q)) (by rw [bs_size]; omega) w
  rw [bs_toList] at T0
  have T1 := Lib.hid T0
  have P0 := fun w => oper_put s p q l (bs (Class.turn Class.small (Line.seg s.data.toList p q))) (by omega) hq hs (by rw [bs_size, Class.turn_length]; omega) w
  rw [bs_toList, ← Opr.caseT_seg] at P0
  have P1 := Lib.hid P0
  have hcl := Opr.caseT_length (s := s.data.toList) Class.small hpq (by rw [data_len]; exact hq)
  have A0 := fun w => line_Clamp (bs (Opr.caseT s.data.toList p q Class.small)) p (by rw [bs_size, hcl, data_len]; exact hs) w
  rw [bs_toList] at A0
  have A1 := Lib.hid A0
  generalize Opr.caseT s.data.toList p q Class.small = X at *
  generalize Line.clamp X p = z at *
  generalize bs (Class.turn Class.small (Line.seg s.data.toList p q)) = Y at *
  generalize bs (Line.seg s.data.toList p q) = Z at *
  have n0 := func_not 75
  have c1 : (p : Int) ≤ (q : Int) := by omega
  have c2 : (q : Int) ≤ (s.size : Int) := by omega
  clear F0 T0 P0 A0 hcl hsl h hr hne hs
  go_enter Tryd.func15, Tryd.ntmps15
  go_wp2_with (first
    | (go_at_call 47; (with_reducible refine (oper_letters_Up _).mono ?_); rintro e u ⟨rfl, rfl⟩)
    | (go_at_call 25; (with_reducible refine (F1.out _).mono ?_); rintro e u ⟨rfl, hb⟩; (first | replace K := K.on hb | replace K := K.ond hb); clear hb; clear q0 q1 q2 f0 f1 f2; obtain ⟨q0, q1, q2, f0, f1, f2⟩ := K.cells))
  go_region_held3 (fun u => u.cell? ⟨w.heap.size, 0, none⟩ = some (.int .i64 p) ∧ u.cell? ⟨w.heap.size, 1, none⟩ = some (.int .i64 q) ∧ u.cell? ⟨w.heap.size, 2, none⟩ = some (.bool l)) (first | exact ⟨by assumption, by assumption, by assumption⟩ | go_keep)
    (first
      | (go_at_call 75; (with_reducible refine (T1.out _).mono ?_); rintro e u ⟨rfl, hb⟩; (first | replace K := K.on hb | replace K := K.ond hb); clear hb; clear q0 q1 q2 f0 f1 f2; obtain ⟨q0, q1, q2, f0, f1, f2⟩ := K.cells)
      | (go_at_call 26; (with_reducible refine (P1.out _).mono ?_); rintro e u ⟨rfl, hb⟩; (first | replace K := K.on hb | replace K := K.ond hb); clear hb; clear q0 q1 q2 f0 f1 f2; obtain ⟨q0, q1, q2, f0, f1, f2⟩ := K.cells))
  all_goals (go_wp2_with (first
    | (go_at_call 28; (with_reducible refine (A1.out _).mono ?_); rintro e u ⟨rfl, hb⟩; (first | replace K := K.on hb | replace K := K.ond hb); clear hb; clear q0 q1 q2 f0 f1 f2; obtain ⟨q0, q1, q2, f0, f1, f2⟩ := K.cells)))
  all_goals go_ret3
  all_goals exact ⟨rfl, K.below⟩
set_option maxHeartbeats 2000000 in
set_option maxRecDepth 100000 in
theorem oper_Case_err_Low (s : ByteArray) (a b : Int) (l : Bool) (hs : s.size ≤ 1000000000000) (er : Int) (h : Opr.fault s.data.toList a b l = er) (h0 : er ≠ 0) (w : World) :
    Calls Tryd.prog 15 #[.string s, .agg #[.int .i64 a, .int .i64 b, .bool l], .int .i64 117] w fun e w' => e = .returned (.tuple #[.string ⟨#[]⟩, .int .i64 0, .int .i64 er]) ∧ Below w.heap.size w w' := by
  have K := RBox.new w a b l
  obtain ⟨q0, q1, q2, f0, f1, f2⟩ := K.cells
  have F0 := fun w => oper_fault s a b l hs w
  rw [h] at F0
  have F1 := Lib.hid F0
  clear F0
  have g0 : (er != 0) = true := by simpa using h0
  have n0 := func_not 76
  clear h h0 hs
  go_enter Tryd.func15, Tryd.ntmps15
  go_wp2_with (first
    | (go_at_call 47; (with_reducible refine (oper_letters_Low _).mono ?_); rintro e u ⟨rfl, rfl⟩)
    | (go_at_call 25; (with_reducible refine (F1.out _).mono ?_); rintro e u ⟨rfl, hb⟩; (first | replace K := K.on hb | replace K := K.ond hb); clear hb; clear q0 q1 q2 f0 f1 f2; obtain ⟨q0, q1, q2, f0, f1, f2⟩ := K.cells))
  go_ret3
  exact ⟨rfl, K.below⟩
set_option maxHeartbeats 2000000 in
set_option maxRecDepth 100000 in
theorem oper_Case_ok_Low (s : ByteArray) (a b : Int) (l : Bool) (hs : s.size ≤ 1000000000000) (h : Opr.fault s.data.toList a b l = 0) (w : World) :
    Calls Tryd.prog 15 #[.string s, .agg #[.int .i64 a, .int .i64 b, .bool l], .int .i64 117] w fun e w' => e = .returned (.tuple #[.string (bs (Opr.caseT s.data.toList a b Class.capital)), .int .i64 (Line.clamp (Opr.caseT s.data.toList a b Class.capital) a), .int .i64 0]) ∧ Below w.heap.size w w' := by
  obtain ⟨hr, hne⟩ := Opr.fault_zero h
  obtain ⟨h0, h1, h2⟩ := Span.right_in hr
  rw [data_len] at h2
  obtain ⟨p, rfl⟩ : ∃ p : Nat, a = p := ⟨a.toNat, by omega⟩
  obtain ⟨q, rfl⟩ : ∃ q : Nat, b = q := ⟨b.toNat, by omega⟩
  have hpq : p ≤ q := by omega
  have hq : q ≤ s.size := by omega
  have K := RBox.new w p q l
  obtain ⟨q0, q1, q2, f0, f1, f2⟩ := K.cells
  have F0 := fun w => oper_fault s p q l hs w
  rw [h] at F0
  have F1 := Lib.hid F0
  have e0 := ext_seg s p q
  have hsl : (Line.seg s.data.toList p q).length ≤ s.size := by rw [Line.seg, List.length_drop, List.length_take, data_len]; omega
  have T0 := fun w => class_Low (bs (Line.seg s.data.toList p q)) (by rw [bs_size]; omega) w
  rw [bs_toList] at T0
  have T1 := Lib.hid T0
  have P0 := fun w => oper_put s p q l (bs (Class.turn Class.capital (Line.seg s.data.toList p q))) (by omega) hq hs (by rw [bs_size, Class.turn_length]; omega) w
  rw [bs_toList, ← Opr.caseT_seg] at P0
  have P1 := Lib.hid P0
  have hcl := Opr.caseT_length (s := s.data.toList) Class.capital hpq (by rw [data_len]; exact hq)
  have A0 := fun w => line_Clamp (bs (Opr.caseT s.data.toList p q Class.capital)) p (by rw [bs_size, hcl, data_len]; exact hs) w
  rw [bs_toList] at A0
  have A1 := Lib.hid A0
  generalize Opr.caseT s.data.toList p q Class.capital = X at *
  generalize Line.clamp X p = z at *
  generalize bs (Class.turn Class.capital (Line.seg s.data.toList p q)) = Y at *
  generalize bs (Line.seg s.data.toList p q) = Z at *
  have n0 := func_not 76
  have c1 : (p : Int) ≤ (q : Int) := by omega
  have c2 : (q : Int) ≤ (s.size : Int) := by omega
  clear F0 T0 P0 A0 hcl hsl h hr hne hs
  go_enter Tryd.func15, Tryd.ntmps15
  go_wp2_with (first
    | (go_at_call 47; (with_reducible refine (oper_letters_Low _).mono ?_); rintro e u ⟨rfl, rfl⟩)
    | (go_at_call 25; (with_reducible refine (F1.out _).mono ?_); rintro e u ⟨rfl, hb⟩; (first | replace K := K.on hb | replace K := K.ond hb); clear hb; clear q0 q1 q2 f0 f1 f2; obtain ⟨q0, q1, q2, f0, f1, f2⟩ := K.cells))
  go_region_held3 (fun u => u.cell? ⟨w.heap.size, 0, none⟩ = some (.int .i64 p) ∧ u.cell? ⟨w.heap.size, 1, none⟩ = some (.int .i64 q) ∧ u.cell? ⟨w.heap.size, 2, none⟩ = some (.bool l)) (first | exact ⟨by assumption, by assumption, by assumption⟩ | go_keep)
    (first
      | (go_at_call 76; (with_reducible refine (T1.out _).mono ?_); rintro e u ⟨rfl, hb⟩; (first | replace K := K.on hb | replace K := K.ond hb); clear hb; clear q0 q1 q2 f0 f1 f2; obtain ⟨q0, q1, q2, f0, f1, f2⟩ := K.cells)
      | (go_at_call 26; (with_reducible refine (P1.out _).mono ?_); rintro e u ⟨rfl, hb⟩; (first | replace K := K.on hb | replace K := K.ond hb); clear hb; clear q0 q1 q2 f0 f1 f2; obtain ⟨q0, q1, q2, f0, f1, f2⟩ := K.cells))
  all_goals (go_wp2_with (first
    | (go_at_call 28; (with_reducible refine (A1.out _).mono ?_); rintro e u ⟨rfl, hb⟩; (first | replace K := K.on hb | replace K := K.ond hb); clear hb; clear q0 q1 q2 f0 f1 f2; obtain ⟨q0, q1, q2, f0, f1, f2⟩ := K.cells)))
  all_goals go_ret3
  all_goals exact ⟨rfl, K.below⟩
set_option maxHeartbeats 2000000 in
set_option maxRecDepth 100000 in
theorem oper_Case_err_Flip (s : ByteArray) (a b : Int) (l : Bool) (hs : s.size ≤ 1000000000000) (er : Int) (h : Opr.fault s.data.toList a b l = er) (h0 : er ≠ 0) (w : World) :
    Calls Tryd.prog 15 #[.string s, .agg #[.int .i64 a, .int .i64 b, .bool l], .int .i64 126] w fun e w' => e = .returned (.tuple #[.string ⟨#[]⟩, .int .i64 0, .int .i64 er]) ∧ Below w.heap.size w w' := by
  have K := RBox.new w a b l
  obtain ⟨q0, q1, q2, f0, f1, f2⟩ := K.cells
  have F0 := fun w => oper_fault s a b l hs w
  rw [h] at F0
  have F1 := Lib.hid F0
  clear F0
  have g0 : (er != 0) = true := by simpa using h0
  have n0 := func_not 77
  clear h h0 hs
  go_enter Tryd.func15, Tryd.ntmps15
  go_wp2_with (first
    | (go_at_call 47; (with_reducible refine (oper_letters_Flip _).mono ?_); rintro e u ⟨rfl, rfl⟩)
    | (go_at_call 25; (with_reducible refine (F1.out _).mono ?_); rintro e u ⟨rfl, hb⟩; (first | replace K := K.on hb | replace K := K.ond hb); clear hb; clear q0 q1 q2 f0 f1 f2; obtain ⟨q0, q1, q2, f0, f1, f2⟩ := K.cells))
  go_ret3
  exact ⟨rfl, K.below⟩
set_option maxHeartbeats 2000000 in
set_option maxRecDepth 100000 in
theorem oper_Case_ok_Flip (s : ByteArray) (a b : Int) (l : Bool) (hs : s.size ≤ 1000000000000) (h : Opr.fault s.data.toList a b l = 0) (w : World) :
    Calls Tryd.prog 15 #[.string s, .agg #[.int .i64 a, .int .i64 b, .bool l], .int .i64 126] w fun e w' => e = .returned (.tuple #[.string (bs (Opr.caseT s.data.toList a b Class.letter)), .int .i64 (Line.clamp (Opr.caseT s.data.toList a b Class.letter) a), .int .i64 0]) ∧ Below w.heap.size w w' := by
  obtain ⟨hr, hne⟩ := Opr.fault_zero h
  obtain ⟨h0, h1, h2⟩ := Span.right_in hr
  rw [data_len] at h2
  obtain ⟨p, rfl⟩ : ∃ p : Nat, a = p := ⟨a.toNat, by omega⟩
  obtain ⟨q, rfl⟩ : ∃ q : Nat, b = q := ⟨b.toNat, by omega⟩
  have hpq : p ≤ q := by omega
  have hq : q ≤ s.size := by omega
  have K := RBox.new w p q l
  obtain ⟨q0, q1, q2, f0, f1, f2⟩ := K.cells
  have F0 := fun w => oper_fault s p q l hs w
  rw [h] at F0
  have F1 := Lib.hid F0
  have e0 := ext_seg s p q
  have hsl : (Line.seg s.data.toList p q).length ≤ s.size := by rw [Line.seg, List.length_drop, List.length_take, data_len]; omega
  have T0 := fun w => class_Flip (bs (Line.seg s.data.toList p q)) (by rw [bs_size]; omega) w
  rw [bs_toList] at T0
  have T1 := Lib.hid T0
  have P0 := fun w => oper_put s p q l (bs (Class.turn Class.letter (Line.seg s.data.toList p q))) (by omega) hq hs (by rw [bs_size, Class.turn_length]; omega) w
  rw [bs_toList, ← Opr.caseT_seg] at P0
  have P1 := Lib.hid P0
  have hcl := Opr.caseT_length (s := s.data.toList) Class.letter hpq (by rw [data_len]; exact hq)
  have A0 := fun w => line_Clamp (bs (Opr.caseT s.data.toList p q Class.letter)) p (by rw [bs_size, hcl, data_len]; exact hs) w
  rw [bs_toList] at A0
  have A1 := Lib.hid A0
  generalize Opr.caseT s.data.toList p q Class.letter = X at *
  generalize Line.clamp X p = z at *
  generalize bs (Class.turn Class.letter (Line.seg s.data.toList p q)) = Y at *
  generalize bs (Line.seg s.data.toList p q) = Z at *
  have n0 := func_not 77
  have c1 : (p : Int) ≤ (q : Int) := by omega
  have c2 : (q : Int) ≤ (s.size : Int) := by omega
  clear F0 T0 P0 A0 hcl hsl h hr hne hs
  go_enter Tryd.func15, Tryd.ntmps15
  go_wp2_with (first
    | (go_at_call 47; (with_reducible refine (oper_letters_Flip _).mono ?_); rintro e u ⟨rfl, rfl⟩)
    | (go_at_call 25; (with_reducible refine (F1.out _).mono ?_); rintro e u ⟨rfl, hb⟩; (first | replace K := K.on hb | replace K := K.ond hb); clear hb; clear q0 q1 q2 f0 f1 f2; obtain ⟨q0, q1, q2, f0, f1, f2⟩ := K.cells))
  go_region_held3 (fun u => u.cell? ⟨w.heap.size, 0, none⟩ = some (.int .i64 p) ∧ u.cell? ⟨w.heap.size, 1, none⟩ = some (.int .i64 q) ∧ u.cell? ⟨w.heap.size, 2, none⟩ = some (.bool l)) (first | exact ⟨by assumption, by assumption, by assumption⟩ | go_keep)
    (first
      | (go_at_call 77; (with_reducible refine (T1.out _).mono ?_); rintro e u ⟨rfl, hb⟩; (first | replace K := K.on hb | replace K := K.ond hb); clear hb; clear q0 q1 q2 f0 f1 f2; obtain ⟨q0, q1, q2, f0, f1, f2⟩ := K.cells)
      | (go_at_call 26; (with_reducible refine (P1.out _).mono ?_); rintro e u ⟨rfl, hb⟩; (first | replace K := K.on hb | replace K := K.ond hb); clear hb; clear q0 q1 q2 f0 f1 f2; obtain ⟨q0, q1, q2, f0, f1, f2⟩ := K.cells))
  all_goals (go_wp2_with (first
    | (go_at_call 28; (with_reducible refine (A1.out _).mono ?_); rintro e u ⟨rfl, hb⟩; (first | replace K := K.on hb | replace K := K.ond hb); clear hb; clear q0 q1 q2 f0 f1 f2; obtain ⟨q0, q1, q2, f0, f1, f2⟩ := K.cells)))
  all_goals go_ret3
  all_goals exact ⟨rfl, K.below⟩
theorem oper_Case (s : ByteArray) (a b : Int) (l : Bool) (how : Int) (hs : s.size ≤ 1000000000000) (w : World) :
    Calls Tryd.prog 15 #[.string s, .agg #[.int .i64 a, .int .i64 b, .bool l], .int .i64 how] w fun e w' => e = .returned (Opr.val (Opr.case_ s.data.toList a b l how)) ∧ Below w.heap.size w w' := by
  rw [Opr.case_]
  cases hl : Opr.letters how with
  | none => rw [Opr.val_no]; exact oper_Case_no s a b l how hl w
  | some f =>
    show Calls _ _ _ _ fun e w' => e = .returned (Opr.val (if Opr.fault s.data.toList a b l = 0 then _ else _)) ∧ _
    by_cases h : Opr.fault s.data.toList a b l = 0
    · rw [if_pos h, Opr.val_mk]
      rcases Opr.letters_in hl with ⟨rfl, rfl⟩ | ⟨rfl, rfl⟩ | ⟨rfl, rfl⟩
      · exact oper_Case_ok_Up s a b l hs h w
      · exact oper_Case_ok_Low s a b l hs h w
      · exact oper_Case_ok_Flip s a b l hs h w
    · rw [if_neg h, Opr.val_no]
      rcases Opr.letters_in hl with ⟨rfl, rfl⟩ | ⟨rfl, rfl⟩ | ⟨rfl, rfl⟩
      · exact oper_Case_err_Up s a b l hs _ rfl h w
      · exact oper_Case_err_Low s a b l hs _ rfl h w
      · exact oper_Case_err_Flip s a b l hs _ rfl h w
end Go.Proofs.YtfhljddakhigdaaDoor
/-
  What operators tell, without a program: texts that are left stay valid, places are places of them.
-/
namespace Go.Proofs.YtfhljddakhigdaaDoor
namespace Opr
open Utf (valid place dec off one)
open Line (L L_whole L_valid seg clamp normal clip)
open Gl
/-- What may be told. -/
def Good (x : List UInt8) (p e : Int) (nm : Bool) : Prop := (e ≠ 0 → x = [] ∧ p = 0) ∧ (e = 0 → place x p = true ∧ (nm = true → normal x p = true))
theorem good_no {e : Int} (nm : Bool) (h : e ≠ 0) : Good [] 0 e nm := ⟨fun _ => ⟨rfl, rfl⟩, fun h2 => absurd h2 h⟩
theorem place_normal {x : List UInt8} {p : Int} (h : normal x p = true) : place x p = true := by
  cases hp : place x p with
  | true => rfl
  | false => rw [Line.normal_bad hp] at h; cases h
theorem good_normal {x : List UInt8} {p : Int} (h : normal x p = true) : Good x p 0 true := ⟨fun h => absurd rfl h, fun _ => ⟨place_normal h, fun _ => h⟩⟩
theorem clamp_good {x : List UInt8} (hv : valid x = true) (p : Int) : Good x (clamp x p) 0 true := by
  obtain ⟨k, y, hy, h1, h2⟩ := (L_whole hv).find (p := clip x p) (Line.clip_le x p)
  obtain ⟨c, hc, _, hn, _⟩ := Line.clamp_ok hy h1 h2
  rw [hc]; exact good_normal hn
theorem first_good {x : List UInt8} {k : Nat} (h : k < (L x).length) : Good x (Line.first x (k : Nat)) 0 true := by
  obtain ⟨c, hc, hn, _, _⟩ := Line.first_ok (List.getElem?_eq_getElem h)
  rw [hc]; exact good_normal hn
theorem take_good (s : List UInt8) (a b : Int) (l : Bool) : Good (take s a b l).1 (take s a b l).2.1 (take s a b l).2.2 true := by
  rw [take]
  split
  · rename_i h
    obtain ⟨hr, _⟩ := fault_zero h
    have hv := rest_valid hr
    cases l with
    | false => exact clamp_good hv a
    | true =>
      show Good (rest s a b true) (Line.first (rest s a b true) (min (Line.of_ s a) (((L (rest s a b true)).length : Int) - 1))) 0 true
      have hc := L_some hv
      obtain ⟨_, ha, _⟩ := Span.right_to hr
      obtain ⟨h0, _⟩ := Span.of_small ha
      obtain ⟨k, hk⟩ : ∃ k : Nat, min (Line.of_ s a) (((L (rest s a b true)).length : Int) - 1) = (k : Int) := ⟨(min (Line.of_ s a) (((L (rest s a b true)).length : Int) - 1)).toNat, by omega⟩
      rw [hk]
      exact first_good (by omega)
  · exact good_no _ (by assumption)
theorem put_place {s : List UInt8} {p q : Nat} (hp : place s (p : Int) = true) (hq : place s (q : Int) = true) (hl : p ≤ s.length) {t : List UInt8} (ht : valid t = true) : place (put s p q t) (p : Int) = true := by
  have := place_mid (place_two hp).1 (b := t ++ s.drop q) (by rw [valid_all _ ht]; exact (place_two hq).2)
  rw [List.length_take, Nat.min_eq_left hl] at this
  exact this
theorem clear_good (s : List UInt8) (a b : Int) (l : Bool) : Good (clear s a b l).1 (clear s a b l).2.1 (clear s a b l).2.2 false := by
  rw [clear]
  split
  · rename_i hr
    obtain ⟨h0, h1, h2⟩ := Span.right_in hr
    obtain ⟨hab, ha, hb⟩ := Span.right_to hr
    obtain ⟨p, rfl⟩ : ∃ p : Nat, a = p := ⟨a.toNat, by omega⟩
    obtain ⟨q, rfl⟩ : ∃ q : Nat, b = q := ⟨b.toNat, by omega⟩
    exact ⟨fun h => absurd rfl h, fun _ => ⟨put_place ha hb (by omega) valid_nil, fun h => by cases h⟩⟩
  · exact good_no _ (by decide)
theorem clear_error (s : List UInt8) (a b : Int) (l : Bool) : ((clear s a b l).2.2 == 0) = Span.right s a b l := by
  rw [clear]
  cases Span.right s a b l <;> rfl
/-- The lines of a text with lines shifted. -/
theorem shift_lines {s : List UInt8} {j k : Nat} (hv : valid s = true) (hjk : j ≤ k) (hk : k < (L s).length) (lf : Bool) : Ix.parts (shiftT s j k lf) = shiftR (Ix.parts s) j k lf ∧ (L (shiftT s j k lf)).length = (L s).length ∧ valid (shiftT s j k lf) = true := by
  have hok := shift_ok (j := j) (k := k) hv lf
  have hn : shiftR (Ix.parts s) j k lf ≠ [] := by
    rw [L_len hv] at hk
    intro e
    have := congrArg List.length e
    rw [shiftR, List.length_append, List.length_append, List.length_map, List.length_take, List.length_take, List.length_drop, List.length_drop, List.length_nil] at this
    omega
  have hp : Ix.parts (shiftT s j k lf) = shiftR (Ix.parts s) j k lf := parts_glue hn fun x hx => (hok x hx).2
  have hvt : valid (shiftT s j k lf) = true := valid_glue fun x hx => (hok x hx).1
  refine ⟨hp, ?_, hvt⟩
  rw [L_len hvt, hp, L_len hv] at *
  rw [shiftR, List.length_append, List.length_append, List.length_map, List.length_take, List.length_take, List.length_drop, List.length_drop]
  omega
theorem shift_good (s : List UInt8) (a b : Int) (l lf : Bool) : Good (shift s a b l lf).1 (shift s a b l lf).2.1 (shift s a b l lf).2.2 true := by
  rw [shift]
  split
  · rename_i hr
    obtain ⟨j, k, x, y, hl, hjk, hx, hy⟩ := lines_in hr
    have hk := (List.getElem?_eq_some_iff.1 hy).1
    obtain ⟨_, hc, _⟩ := shift_lines (L_valid hx) hjk hk lf
    rw [hl]
    show Good (shiftT s j k lf) (Line.first (shiftT s j k lf) (j : Nat)) 0 true
    exact first_good (by omega)
  · exact good_no _ (by decide)
theorem flip_low (f : Nat → Bool) (hf : f = Class.small ∨ f = Class.capital ∨ f = Class.letter) (b : UInt8) : (b.toNat < 128 → (Class.flip f b).toNat < 128) ∧ (128 ≤ b.toNat → Class.flip f b = b) := by
  rcases hf with rfl | rfl | rfl
  · exact Class.flip_all (fun b => (b.toNat < 128 → (Class.flip Class.small b).toNat < 128) ∧ (128 ≤ b.toNat → Class.flip Class.small b = b)) (by decide +kernel) b
  · exact Class.flip_all (fun b => (b.toNat < 128 → (Class.flip Class.capital b).toNat < 128) ∧ (128 ≤ b.toNat → Class.flip Class.capital b = b)) (by decide +kernel) b
  · exact Class.flip_all (fun b => (b.toNat < 128 → (Class.flip Class.letter b).toNat < 128) ∧ (128 ≤ b.toNat → Class.flip Class.letter b = b)) (by decide +kernel) b
theorem heads_low {b : UInt8} (h : Utf.heads b.toNat = false) : 128 ≤ b.toNat := Class.flip_all (fun b => Utf.heads b.toNat = false → 128 ≤ b.toNat) (by decide +kernel) b h
theorem len_low {b : UInt8} (h : b.toNat < 128) : Utf.len b.toNat = 1 := Class.flip_all (fun b => b.toNat < 128 → Utf.len b.toNat = 1) (by decide +kernel) b h
theorem turn_one {f : Nat → Bool} (hf : f = Class.small ∨ f = Class.capital ∨ f = Class.letter) {r : List UInt8} (h : one r = true) : one (Class.turn f r) = true := by
  obtain ⟨a, t, rfl, _, hl, ht⟩ := Utf.one_shape h
  rcases Nat.lt_or_ge a.toNat 128 with ha | ha
  · rw [len_low ha] at hl
    cases t with
    | cons _ _ => rw [List.length_cons, List.length_cons] at hl; omega
    | nil => exact one_ascii ((flip_low f hf a).1 ha)
  · have : Class.turn f (a :: t) = a :: t := by
      rw [Class.turn, List.map_cons, (flip_low f hf a).2 ha]
      congr 1
      conv => rhs; rw [← List.map_id t]
      exact List.map_congr_left fun b hb => (flip_low f hf b).2 (heads_low (ht b hb))
    rw [this]; exact h
theorem turn_valid {f : Nat → Bool} (hf : f = Class.small ∨ f = Class.capital ∨ f = Class.letter) {x : List UInt8} (h : valid x = true) : valid (Class.turn f x) = true := by
  obtain ⟨rs, hd⟩ := Utf.valid_of h
  obtain ⟨h1, h2⟩ := Utf.dec_some hd
  have e : Class.turn f x = (rs.map (Class.turn f)).flatten := by
    rw [h2, Class.turn, List.map_flatten]
    rfl
  rw [e, valid, Utf.dec_of fun r hr => ?_]
  · rfl
  · obtain ⟨z, hz, rfl⟩ := List.mem_map.1 hr
    exact turn_one hf (h1 z hz)
theorem seg_valid {s : List UInt8} {p q : Nat} (hp : place s (p : Int) = true) (hq : place s (q : Int) = true) (h : p ≤ q) : valid (seg s p q) = true := by
  obtain ⟨rs, i, hd, hi, he⟩ := Utf.place_of hp
  obtain ⟨rs', j, hd', hj, he'⟩ := Utf.place_of hq
  rw [hd] at hd'
  injection hd' with hd'
  subst hd'
  obtain ⟨h1, h2⟩ := Utf.dec_some hd
  obtain rfl : off rs i = p := by omega
  obtain rfl : off rs j = q := by omega
  have hij : i ≤ j := by
    rcases Nat.lt_or_ge j i with h3 | h3
    · have := Utf.off_lt h1 h3 hi; omega
    · exact h3
  have ho : off (rs.take j) i = off rs i := by rw [off, off, List.take_take, Nat.min_eq_left hij]
  rw [seg, h2, Utf.off_take, ← ho, Utf.off_drop, valid, Utf.dec_of fun r hr => h1 r (List.mem_of_mem_take (List.mem_of_mem_drop hr))]
  rfl
theorem caseT_valid {s : List UInt8} {p q : Nat} (hp : place s (p : Int) = true) (hq : place s (q : Int) = true) (h : p ≤ q) {f : Nat → Bool} (hf : f = Class.small ∨ f = Class.capital ∨ f = Class.letter) : valid (caseT s p q f) = true := by
  rw [caseT_seg]
  exact put_valid hp hq (turn_valid hf (seg_valid hp hq h))
theorem case_good (s : List UInt8) (a b : Int) (l : Bool) (how : Int) : Good (case_ s a b l how).1 (case_ s a b l how).2.1 (case_ s a b l how).2.2 true := by
  rw [case_]
  cases hl : letters how with
  | none => exact good_no (e := 1) _ (by decide)
  | some f =>
    show Good (if fault s a b l = 0 then (caseT s a b f, clamp (caseT s a b f) a, (0 : Int)) else no (fault s a b l)).1 (if fault s a b l = 0 then (caseT s a b f, clamp (caseT s a b f) a, (0 : Int)) else no (fault s a b l)).2.1 (if fault s a b l = 0 then (caseT s a b f, clamp (caseT s a b f) a, (0 : Int)) else no (fault s a b l)).2.2 true
    by_cases h : fault s a b l = 0
    · rw [if_pos h]
      obtain ⟨hr, _⟩ := fault_zero h
      obtain ⟨h0, h1, h2⟩ := Span.right_in hr
      obtain ⟨hab, ha, hb⟩ := Span.right_to hr
      obtain ⟨p, rfl⟩ : ∃ p : Nat, a = p := ⟨a.toNat, by omega⟩
      obtain ⟨q, rfl⟩ : ∃ q : Nat, b = q := ⟨b.toNat, by omega⟩
      refine clamp_good (caseT_valid ha hb (by omega) ?_) _
      rcases letters_in hl with ⟨_, h⟩ | ⟨_, h⟩ | ⟨_, h⟩
      · exact .inl h
      · exact .inr (.inl h)
      · exact .inr (.inr h)
    · rw [if_neg h]
      exact good_no _ h
/-- The lines of a text with lines joined. -/
theorem join_left {s : List UInt8} {k m : Nat} (hv : valid s = true) (hm : 1 ≤ m) (hk : k + m ≤ (L s).length) : valid (joinT s k m) = true ∧ (L (joinT s k m)).length + m = (L s).length + 1 := by
  rw [L_len hv] at hk
  have hok := joinR_ok hv (k := k) (m := m) (by omega)
  have hvt : valid (joinT s k m) = true := valid_glue fun x hx => (hok x hx).1
  refine ⟨hvt, ?_⟩
  have hp : Ix.parts (joinT s k m) = joinR (Ix.parts s) k m := parts_glue (by rw [joinR]; simp) fun x hx => (hok x hx).2
  rw [L_len hvt, hp, L_len hv]
  exact joinR_len hm hk
theorem join_good (s : List UInt8) (k n : Int) : Good (join s k n).1 (join s k n).2.1 (join s k n).2.2 true := by
  rw [join]
  split
  · exact good_no _ (by decide)
  · rename_i h
    split
    · exact good_no _ (by decide)
    · rename_i h1
      obtain ⟨j, rfl⟩ : ∃ j : Nat, k = j := ⟨k.toNat, by omega⟩
      obtain ⟨m, hme, hm2, hkm, _⟩ := many_at (k := j) (n := n) (show j + 1 < (L s).length by omega)
      rw [Int.toNat_natCast, hme]
      have hx : (L s)[j]? = some (L s)[j] := List.getElem?_eq_getElem (by omega)
      exact clamp_good (join_left (L_valid hx) (by omega) hkm).1 _
/-- How long what is told may be. -/
theorem take_small (s : List UInt8) (a b : Int) (l : Bool) : (take s a b l).1.length ≤ s.length := by
  rw [take]
  split
  · rename_i h
    obtain ⟨p, q, hc, hpq, hq, _⟩ := cut_place (fault_zero h).1
    show (rest s a b l).length ≤ _
    rw [rest_of hc]
    exact put_less hpq hq
  · exact Nat.zero_le _
theorem clear_small (s : List UInt8) (a b : Int) (l : Bool) : (clear s a b l).1.length ≤ s.length := by
  rw [clear]
  split
  · rename_i hr
    obtain ⟨h0, h1, h2⟩ := Span.right_in hr
    obtain ⟨p, rfl⟩ : ∃ p : Nat, a = p := ⟨a.toNat, by omega⟩
    obtain ⟨q, rfl⟩ : ∃ q : Nat, b = q := ⟨b.toNat, by omega⟩
    exact put_less (by omega) (by omega)
  · exact Nat.zero_le _
theorem sh_length (lf : Bool) (x : List UInt8) : (sh lf x).length ≤ x.length + 1 := by
  have := new_length lf x
  rw [sh, List.length_append, List.length_drop]; omega
theorem fore_sh (lf : Bool) (R : List (List UInt8)) : (fore (R.map (sh lf))).length ≤ (fore R).length + R.length := by
  induction R with
  | nil => exact Nat.le_refl _
  | cons x r ih =>
    have := sh_length lf x
    rw [List.map_cons, fore_cons, fore_cons, List.length_append, List.length_append, List.length_cons, List.length_cons, List.length_cons]
    omega
theorem shiftT_small {s : List UInt8} {j k : Nat} (hjk : j ≤ k) (lf : Bool) : (shiftT s j k lf).length ≤ 2 * s.length + 2 := by
  have h1 := fore_glue (parts_ne s)
  have h2 := glue_length (R := Ix.parts s)
  rw [glue_parts] at h1 h2
  have h3 : Ix.parts s = (Ix.parts s).take j ++ (((Ix.parts s).drop j).take (k + 1 - j) ++ (Ix.parts s).drop (k + 1)) := by
    conv => lhs; rw [← List.take_append_drop j (Ix.parts s), ← List.take_append_drop (k + 1 - j) ((Ix.parts s).drop j), List.drop_drop, show j + (k + 1 - j) = k + 1 by omega]
  have h4 := congrArg (fun R => (fore R).length) h3
  have h5 := congrArg List.length h3
  simp only [fore_append, List.length_append] at h4 h5
  have h6 := fore_sh lf (((Ix.parts s).drop j).take (k + 1 - j))
  rcases (Decidable.em (shiftR (Ix.parts s) j k lf = [])) with h | h
  · rw [shiftT, h]; exact Nat.zero_le _
  · have h7 := fore_glue h
    rw [shiftR, fore_append, fore_append, List.length_append, List.length_append] at h7
    rw [shiftT, shiftR]
    omega
theorem shift_small (s : List UInt8) (a b : Int) (l lf : Bool) : (shift s a b l lf).1.length ≤ 2 * s.length + 2 := by
  rw [shift]
  split
  · rename_i hr
    obtain ⟨j, k, x, y, hl, hjk, hx, hy⟩ := lines_in hr
    rw [hl]
    exact shiftT_small hjk lf
  · exact Nat.zero_le _
theorem case_small (s : List UInt8) (a b : Int) (l : Bool) (how : Int) : (case_ s a b l how).1.length ≤ s.length := by
  rw [case_]
  cases hl : letters how with
  | none => exact Nat.zero_le _
  | some f =>
    show (if fault s a b l = 0 then (caseT s a b f, clamp (caseT s a b f) a, (0 : Int)) else no (fault s a b l)).1.length ≤ _
    by_cases h : fault s a b l = 0
    · rw [if_pos h]
      obtain ⟨h0, h1, h2⟩ := Span.right_in (fault_zero h).1
      obtain ⟨p, rfl⟩ : ∃ p : Nat, a = p := ⟨a.toNat, by omega⟩
      obtain ⟨q, rfl⟩ : ∃ q : Nat, b = q := ⟨b.toNat, by omega⟩
      show (caseT s p q f).length ≤ _
      rw [caseT_length f (by omega) (by omega)]
      exact Nat.le_refl _
    · rw [if_neg h]; exact Nat.zero_le _
theorem joinT_le {s : List UInt8} {k m : Nat} (hm : 1 ≤ m) (hk : k + m ≤ (Ix.parts s).length) : (joinT s k m).length ≤ s.length := by
  have h1 := fore_glue (parts_ne s)
  rw [glue_parts] at h1
  have h7 := fore_glue (R := joinR (Ix.parts s) k m) (by rw [joinR]; simp)
  rw [joinR, fore_append, fore_cons, List.length_append, List.length_append, List.length_cons] at h7
  have h8 := joined_length ((Ix.parts s).getD k []) (((Ix.parts s).drop (k + 1)).take (m - 1))
  have h3 : Ix.parts s = (Ix.parts s).take k ++ ((Ix.parts s).getD k [] :: (((Ix.parts s).drop (k + 1)).take (m - 1) ++ (Ix.parts s).drop (k + m))) := by
    conv => lhs; rw [← List.take_append_drop k (Ix.parts s), List.drop_eq_getElem_cons (show k < (Ix.parts s).length by omega), ← List.take_append_drop (m - 1) ((Ix.parts s).drop (k + 1)), List.drop_drop, show k + 1 + (m - 1) = k + m by omega]
    rw [show (Ix.parts s).getD k [] = (Ix.parts s)[k] by simp [List.getD_eq_getElem?_getD, show k < (Ix.parts s).length by omega]]
  have h4 := congrArg (fun R => (fore R).length) h3
  simp only [fore_append, fore_cons, List.length_append, List.length_cons] at h4
  show (glue (joinR (Ix.parts s) k m)).length ≤ _
  rw [joinR]
  omega
theorem join_small (s : List UInt8) (k n : Int) : (join s k n).1.length ≤ s.length := by
  rw [join]
  split
  · exact Nat.zero_le _
  · rename_i h
    split
    · exact Nat.zero_le _
    · rename_i h1
      obtain ⟨j, rfl⟩ : ∃ j : Nat, k = j := ⟨k.toNat, by omega⟩
      obtain ⟨m, hme, hm2, hkm, _⟩ := many_at (k := j) (n := n) (show j + 1 < (L s).length by omega)
      rw [Int.toNat_natCast, hme]
      have hx : (L s)[j]? = some (L s)[j] := List.getElem?_eq_getElem (by omega)
      rw [L_len (L_valid hx)] at hkm
      exact joinT_le (by omega) hkm
end Opr
end Go.Proofs.YtfhljddakhigdaaDoor
