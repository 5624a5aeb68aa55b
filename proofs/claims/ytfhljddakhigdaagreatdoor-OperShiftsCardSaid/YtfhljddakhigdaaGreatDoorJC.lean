/-
  Package oper: letters and Case.
-/
import Derived.Test.YtfhljddakhigdaaGreatDoorJ2
import Derived.Test.YtfhljddakhigdaaGreatDoorClassTurn
import Derived.Deep.RegionHeld3
import Derived.Test.YtfhljddakhigdaaGreatDoorJR
import Derived.Test.YtfhljddakhigdaaGreatDoorClassSwap
import Derived.Test.YtfhljddakhigdaaGreatDoorLineRefs2
import Derived.RegionTactic
namespace Go.Proofs.YtfhljddakhigdaaGreatDoor
open Go.RowKit
namespace Opr
open Utf (valid)
theorem letters_in {how : Int} {f : Nat → Bool} (h : letters how = some f) : (how = 85 ∧ f = Class.small) ∨ (how = 117 ∧ f = Class.capital) ∨ (how = 126 ∧ f = Class.letter) := by
  unfold letters at h
  split at h
  · injection h with h; exact .inl ⟨by assumption, h.symm⟩
  · split at h
    · injection h with h; exact .inr (.inl ⟨by assumption, h.symm⟩)
    · split at h
      · injection h with h; exact .inr (.inr ⟨by assumption, h.symm⟩)
      · cases h
theorem letters_no {how : Int} (h : letters how = none) : how ≠ 85 ∧ how ≠ 117 ∧ how ≠ 126 := by
  unfold letters at h
  split at h
  · cases h
  · split at h
    · cases h
    · split at h
      · cases h
      · exact ⟨by assumption, by assumption, by assumption⟩
theorem caseT_seg {s : List UInt8} {p q : Nat} (f : Nat → Bool) : caseT s p q f = put s p q (Class.turn f (Line.seg s p q)) := rfl
theorem caseT_length {s : List UInt8} {p q : Nat} (f : Nat → Bool) (h : p ≤ q) (hq : q ≤ s.length) : (caseT s p q f).length = s.length := by
  rw [caseT_seg, put, List.length_append, List.length_append, Class.turn_length, Line.seg, List.length_drop, List.length_take, List.length_take, List.length_drop, Int.toNat_natCast, Int.toNat_natCast]; omega
end Opr
theorem oper_letters_Up (w : World) : Calls Tryz.prog 19 #[.int .i64 85] w fun e w' => e = .returned (.func (.func 48) #[] #[]) ∧ w = w' := by
  go_enter Tryz.func19, Tryz.ntmps19
  go_wp2
  go_ret
  exact ⟨rfl, rfl⟩
theorem oper_letters_Low (w : World) : Calls Tryz.prog 19 #[.int .i64 117] w fun e w' => e = .returned (.func (.func 49) #[] #[]) ∧ w = w' := by
  go_enter Tryz.func19, Tryz.ntmps19
  go_wp2
  go_ret
  exact ⟨rfl, rfl⟩
theorem oper_letters_Flip (w : World) : Calls Tryz.prog 19 #[.int .i64 126] w fun e w' => e = .returned (.func (.func 50) #[] #[]) ∧ w = w' := by
  go_enter Tryz.func19, Tryz.ntmps19
  go_wp2
  go_ret
  exact ⟨rfl, rfl⟩
theorem func_nil (w : World) : (binOp .eql 45 .nilFunc .nilFunc).run Tryz.prog w = .ok (.bool true) w := by kernel_rfl
theorem func_not (n : Nat) (w : World) : (binOp .eql 45 (.func (.func n) #[] #[]) .nilFunc).run Tryz.prog w = .ok (.bool false) w := by kernel_rfl
theorem oper_letters_no (how : Int) (h : Opr.letters how = none) (w : World) : Calls Tryz.prog 19 #[.int .i64 how] w fun e w' => e = .returned .nilFunc ∧ w = w' := by
  obtain ⟨h1, h2, h3⟩ := Opr.letters_no h
  have g1 : (how == 85) = false := by simpa using h1
  have g2 : (how == 117) = false := by simpa using h2
  have g3 : (how == 126) = false := by simpa using h3
  go_enter Tryz.func19, Tryz.ntmps19
  go_wp2
  go_ret
  exact ⟨rfl, rfl⟩
set_option maxHeartbeats 2000000 in
set_option maxRecDepth 100000 in
theorem oper_Case_no (s : ByteArray) (a b : Int) (l : Bool) (how : Int) (h : Opr.letters how = none) (w : World) :
    Calls Tryz.prog 7 #[.string s, .agg #[.int .i64 a, .int .i64 b, .bool l], .int .i64 how] w fun e w' => e = .returned (.tuple #[.string ⟨#[]⟩, .int .i64 0, .int .i64 1]) ∧ Below w.heap.size w w' := by
  have K := RBox.new w a b l
  obtain ⟨q0, q1, q2, f0, f1, f2⟩ := K.cells
  have N1 := Lib.hid (oper_letters_no how h)
  have n0 := func_nil
  clear h
  go_enter Tryz.func7, Tryz.ntmps7
  go_wp2_with (go_at_call 19; (with_reducible refine (N1.out _).mono ?_); rintro e u ⟨rfl, rfl⟩)
  go_ret3
  exact ⟨rfl, K.below⟩
set_option maxHeartbeats 2000000 in
set_option maxRecDepth 100000 in
theorem oper_Case_err_Up (s : ByteArray) (a b : Int) (l : Bool) (hs : s.size ≤ 1000000000000) (er : Int) (h : Opr.fault s.data.toList a b l = er) (h0 : er ≠ 0) (w : World) :
    Calls Tryz.prog 7 #[.string s, .agg #[.int .i64 a, .int .i64 b, .bool l], .int .i64 85] w fun e w' => e = .returned (.tuple #[.string ⟨#[]⟩, .int .i64 0, .int .i64 er]) ∧ Below w.heap.size w w' := by
  have K := RBox.new w a b l
  obtain ⟨q0, q1, q2, f0, f1, f2⟩ := K.cells
  have F0 := fun w => oper_fault s a b l hs w
  rw [h] at F0
  have F1 := Lib.hid F0
  clear F0
  have g0 : (er != 0) = true := by simpa using h0
  have n0 := func_not 48
  clear h h0 hs
  go_enter Tryz.func7, Tryz.ntmps7
  go_wp2_with (first
    | (go_at_call 19; (with_reducible refine (oper_letters_Up _).mono ?_); rintro e u ⟨rfl, rfl⟩)
    | (go_at_call 20; (with_reducible refine (F1.out _).mono ?_); rintro e u ⟨rfl, hb⟩; (first | replace K := K.on hb | replace K := K.ond hb); clear hb; clear q0 q1 q2 f0 f1 f2; obtain ⟨q0, q1, q2, f0, f1, f2⟩ := K.cells))
  go_ret3
  exact ⟨rfl, K.below⟩
set_option maxHeartbeats 2000000 in
set_option maxRecDepth 100000 in
theorem oper_Case_ok_Up (s : ByteArray) (a b : Int) (l : Bool) (hs : s.size ≤ 1000000000000) (h : Opr.fault s.data.toList a b l = 0) (w : World) :
    Calls Tryz.prog 7 #[.string s, .agg #[.int .i64 a, .int .i64 b, .bool l], .int .i64 85] w fun e w' => e = .returned (.tuple #[.string (bs (Opr.caseT s.data.toList a b Class.small)), .int .i64 (Line.clamp (Opr.caseT s.data.toList a b Class.small) a), .int .i64 0]) ∧ Below w.heap.size w w' := by
  obtain ⟨hr, hne⟩ := Opr.fault_zero h
  obtain ⟨h0, h1, h2⟩ := Span.right_in hr
  rw [data_len] at h2
  obtain ⟨p, rfl⟩ : ∃ p : Nat, a = p := ⟨a.toNat, by omega⟩
  obtain ⟨q, rfl⟩ : ∃ q : Nat, b = q := ⟨b.toNat, by omega⟩
  have hpq : p ≤ q := by omega
  have hq : q ≤ s.size := by omega
  have K := RBox.new w p q l
  obtain ⟨q0, q1, q2, f0, f1, f2⟩ := K.cells
  have F0 := fun w => oper_fault s p q l hs w
  rw [h] at F0
  have F1 := Lib.hid F0
  have e0 := ext_seg s p q
  have hsl : (Line.seg s.data.toList p q).length ≤ s.size := by rw [Line.seg, List.length_drop, List.length_take, data_len]; omega
  have T0 := fun w => class_Up (bs (Line.seg s.data.toList p q)) (by rw [bs_size]; omega) w
  rw [bs_toList] at T0
  have T1 := Lib.hid T0
  have P0 := fun w => oper_put s p q l (bs (Class.turn Class.small (Line.seg s.data.toList p q))) (by omega) hq hs (by rw [bs_size, Class.turn_length]; omega) w
  rw [bs_toList, ← Opr.caseT_seg] at P0
  have P1 := Lib.hid P0
  have hcl := Opr.caseT_length (s := s.data.toList) Class.small hpq (by rw [data_len]; exact hq)
  have A0 := fun w => line_Clamp (bs (Opr.caseT s.data.toList p q Class.small)) p (by rw [bs_size, hcl, data_len]; exact hs) w
  rw [bs_toList] at A0
  have A1 := Lib.hid A0
  generalize Opr.caseT s.data.toList p q Class.small = X at *
  generalize Line.clamp X p = z at *
  generalize bs (Class.turn Class.small (Line.seg s.data.toList p q)) = Y at *
  generalize bs (Line.seg s.data.toList p q) = Z at *
  have n0 := func_not 48
  have c1 : (p : Int) ≤ (q : Int) := by omega
  have c2 : (q : Int) ≤ (s.size : Int) := by omega
  clear F0 T0 P0 A0 hcl hsl h hr hne hs
  go_enter Tryz.func7, Tryz.ntmps7
  go_wp2_with (first
    | (go_at_call 19; (with_reducible refine (oper_letters_Up _).mono ?_); rintro e u ⟨rfl, rfl⟩)
    | (go_at_call 20; (with_reducible refine (F1.out _).mono ?_); rintro e u ⟨rfl, hb⟩; (first | replace K := K.on hb | replace K := K.ond hb); clear hb; clear q0 q1 q2 f0 f1 f2; obtain ⟨q0, q1, q2, f0, f1, f2⟩ := K.cells))
  go_region_held3 (fun u => u.cell? ⟨w.heap.size, 0, none⟩ = some (.int .i64 p) ∧ u.cell? ⟨w.heap.size, 1, none⟩ = some (.int .i64 q) ∧ u.cell? ⟨w.heap.size, 2, none⟩ = some (.bool l)) (first | exact ⟨by assumption, by assumption, by assumption⟩ | go_keep)
    (first
      | (go_at_call 48; (with_reducible refine (T1.out _).mono ?_); rintro e u ⟨rfl, hb⟩; (first | replace K := K.on hb | replace K := K.ond hb); clear hb; clear q0 q1 q2 f0 f1 f2; obtain ⟨q0, q1, q2, f0, f1, f2⟩ := K.cells)
      | (go_at_call 21; (with_reducible refine (P1.out _).mono ?_); rintro e u ⟨rfl, hb⟩; (first | replace K := K.on hb | replace K := K.ond hb); clear hb; clear q0 q1 q2 f0 f1 f2; obtain ⟨q0, q1, q2, f0, f1, f2⟩ := K.cells))
  all_goals (go_wp2_with (first
    | (go_at_call 22; (with_reducible refine (A1.out _).mono ?_); rintro e u ⟨rfl, hb⟩; (first | replace K := K.on hb | replace K := K.ond hb); clear hb; clear q0 q1 q2 f0 f1 f2; obtain ⟨q0, q1, q2, f0, f1, f2⟩ := K.cells)))
  all_goals go_ret3
  all_goals exact ⟨rfl, K.below⟩
set_option maxHeartbeats 2000000 in
set_option maxRecDepth 100000 in
theorem oper_Case_err_Low (s : ByteArray) (a b : Int) (l : Bool) (hs : s.size ≤ 1000000000000) (er : Int) (h : Opr.fault s.data.toList a b l = er) (h0 : er ≠ 0) (w : World) :
    Calls Tryz.prog 7 #[.string s, .agg #[.int .i64 a, .int .i64 b, .bool l], .int .i64 117] w fun e w' => e = .returned (.tuple #[.string ⟨#[]⟩, .int .i64 0, .int .i64 er]) ∧ Below w.heap.size w w' := by
  have K := RBox.new w a b l
  obtain ⟨q0, q1, q2, f0, f1, f2⟩ := K.cells
  have F0 := fun w => oper_fault s a b l hs w
  rw [h] at F0
  have F1 := Lib.hid F0
  clear F0
  have g0 : (er != 0) = true := by simpa using h0
  have n0 := func_not 49
  clear h h0 hs
  go_enter Tryz.func7, Tryz.ntmps7
  go_wp2_with (first
    | (go_at_call 19; (with_reducible refine (oper_letters_Low _).mono ?_); rintro e u ⟨rfl, rfl⟩)
    | (go_at_call 20; (with_reducible refine (F1.out _).mono ?_); rintro e u ⟨rfl, hb⟩; (first | replace K := K.on hb | replace K := K.ond hb); clear hb; clear q0 q1 q2 f0 f1 f2; obtain ⟨q0, q1, q2, f0, f1, f2⟩ := K.cells))
  go_ret3
  exact ⟨rfl, K.below⟩
set_option maxHeartbeats 2000000 in
set_option maxRecDepth 100000 in
theorem oper_Case_ok_Low (s : ByteArray) (a b : Int) (l : Bool) (hs : s.size ≤ 1000000000000) (h : Opr.fault s.data.toList a b l = 0) (w : World) :
    Calls Tryz.prog 7 #[.string s, .agg #[.int .i64 a, .int .i64 b, .bool l], .int .i64 117] w fun e w' => e = .returned (.tuple #[.string (bs (Opr.caseT s.data.toList a b Class.capital)), .int .i64 (Line.clamp (Opr.caseT s.data.toList a b Class.capital) a), .int .i64 0]) ∧ Below w.heap.size w w' := by
  obtain ⟨hr, hne⟩ := Opr.fault_zero h
  obtain ⟨h0, h1, h2⟩ := Span.right_in hr
  rw [data_len] at h2
  obtain ⟨p, rfl⟩ : ∃ p : Nat, a = p := ⟨a.toNat, by omega⟩
  obtain ⟨q, rfl⟩ : ∃ q : Nat, b = q := ⟨b.toNat, by omega⟩
  have hpq : p ≤ q := by omega
  have hq : q ≤ s.size := by omega
  have K := RBox.new w p q l
  obtain ⟨q0, q1, q2, f0, f1, f2⟩ := K.cells
  have F0 := fun w => oper_fault s p q l hs w
  rw [h] at F0
  have F1 := Lib.hid F0
  have e0 := ext_seg s p q
  have hsl : (Line.seg s.data.toList p q).length ≤ s.size := by rw [Line.seg, List.length_drop, List.length_take, data_len]; omega
  have T0 := fun w => class_Low (bs (Line.seg s.data.toList p q)) (by rw [bs_size]; omega) w
  rw [bs_toList] at T0
  have T1 := Lib.hid T0
  have P0 := fun w => oper_put s p q l (bs (Class.turn Class.capital (Line.seg s.data.toList p q))) (by omega) hq hs (by rw [bs_size, Class.turn_length]; omega) w
  rw [bs_toList, ← Opr.caseT_seg] at P0
  have P1 := Lib.hid P0
  have hcl := Opr.caseT_length (s := s.data.toList) Class.capital hpq (by rw [data_len]; exact hq)
  have A0 := fun w => line_Clamp (bs (Opr.caseT s.data.toList p q Class.capital)) p (by rw [bs_size, hcl, data_len]; exact hs) w
  rw [bs_toList] at A0
  have A1 := Lib.hid A0
  generalize Opr.caseT s.data.toList p q Class.capital = X at *
  generalize Line.clamp X p = z at *
  generalize bs (Class.turn Class.capital (Line.seg s.data.toList p q)) = Y at *
  generalize bs (Line.seg s.data.toList p q) = Z at *
  have n0 := func_not 49
  have c1 : (p : Int) ≤ (q : Int) := by omega
  have c2 : (q : Int) ≤ (s.size : Int) := by omega
  clear F0 T0 P0 A0 hcl hsl h hr hne hs
  go_enter Tryz.func7, Tryz.ntmps7
  go_wp2_with (first
    | (go_at_call 19; (with_reducible refine (oper_letters_Low _).mono ?_); rintro e u ⟨rfl, rfl⟩)
    | (go_at_call 20; (with_reducible refine (F1.out _).mono ?_); rintro e u ⟨rfl, hb⟩; (first | replace K := K.on hb | replace K := K.ond hb); clear hb; clear q0 q1 q2 f0 f1 f2; obtain ⟨q0, q1, q2, f0, f1, f2⟩ := K.cells))
  go_region_held3 (fun u => u.cell? ⟨w.heap.size, 0, none⟩ = some (.int .i64 p) ∧ u.cell? ⟨w.heap.size, 1, none⟩ = some (.int .i64 q) ∧ u.cell? ⟨w.heap.size, 2, none⟩ = some (.bool l)) (first | exact ⟨by assumption, by assumption, by assumption⟩ | go_keep)
    (first
      | (go_at_call 49; (with_reducible refine (T1.out _).mono ?_); rintro e u ⟨rfl, hb⟩; (first | replace K := K.on hb | replace K := K.ond hb); clear hb; clear q0 q1 q2 f0 f1 f2; obtain ⟨q0, q1, q2, f0, f1, f2⟩ := K.cells)
      | (go_at_call 21; (with_reducible refine (P1.out _).mono ?_); rintro e u ⟨rfl, hb⟩; (first | replace K := K.on hb | replace K := K.ond hb); clear hb; clear q0 q1 q2 f0 f1 f2; obtain ⟨q0, q1, q2, f0, f1, f2⟩ := K.cells))
  all_goals (go_wp2_with (first
    | (go_at_call 22; (with_reducible refine (A1.out _).mono ?_); rintro e u ⟨rfl, hb⟩; (first | replace K := K.on hb | replace K := K.ond hb); clear hb; clear q0 q1 q2 f0 f1 f2; obtain ⟨q0, q1, q2, f0, f1, f2⟩ := K.cells)))
  all_goals go_ret3
  all_goals exact ⟨rfl, K.below⟩
set_option maxHeartbeats 2000000 in
set_option maxRecDepth 100000 in
theorem oper_Case_err_Flip (s : ByteArray) (a b : Int) (l : Bool) (hs : s.size ≤ 1000000000000) (er : Int) (h : Opr.fault s.data.toList a b l = er) (h0 : er ≠ 0) (w : World) :
    Calls Tryz.prog 7 #[.string s, .agg #[.int .i64 a, .int .i64 b, .bool l], .int .i64 126] w fun e w' => e = .returned (.tuple #[.string ⟨#[]⟩, .int .i64 0, .int .i64 er]) ∧ Below w.heap.size w w' := by
  have K := RBox.new w a b l
  obtain ⟨q0, q1, q2, f0, f1, f2⟩ := K.cells
  have F0 := fun w => oper_fault s a b l hs w
  rw [h] at F0
  have F1 := Lib.hid F0
  clear F0
  have g0 : (er != 0) = true := by simpa using h0
  have n0 := func_not 50
  clear h h0 hs
  go_enter Tryz.func7, Tryz.ntmps7
  go_wp2_with (first
    | (go_at_call 19; (with_reducible refine (oper_letters_Flip _).mono ?_); rintro e u ⟨rfl, rfl⟩)
    | (go_at_call 20; (with_reducible refine (F1.out _).mono ?_); rintro e u ⟨rfl, hb⟩; (first | replace K := K.on hb | replace K := K.ond hb); clear hb; clear q0 q1 q2 f0 f1 f2; obtain ⟨q0, q1, q2, f0, f1, f2⟩ := K.cells))
  go_ret3
  exact ⟨rfl, K.below⟩
set_option maxHeartbeats 2000000 in
set_option maxRecDepth 100000 in
theorem oper_Case_ok_Flip (s : ByteArray) (a b : Int) (l : Bool) (hs : s.size ≤ 1000000000000) (h : Opr.fault s.data.toList a b l = 0) (w : World) :
    Calls Tryz.prog 7 #[.string s, .agg #[.int .i64 a, .int .i64 b, .bool l], .int .i64 126] w fun e w' => e = .returned (.tuple #[.string (bs (Opr.caseT s.data.toList a b Class.letter)), .int .i64 (Line.clamp (Opr.caseT s.data.toList a b Class.letter) a), .int .i64 0]) ∧ Below w.heap.size w w' := by
  obtain ⟨hr, hne⟩ := Opr.fault_zero h
  obtain ⟨h0, h1, h2⟩ := Span.right_in hr
  rw [data_len] at h2
  obtain ⟨p, rfl⟩ : ∃ p : Nat, a = p := ⟨a.toNat, by omega⟩
  obtain ⟨q, rfl⟩ : ∃ q : Nat, b = q := ⟨b.toNat, by omega⟩
  have hpq : p ≤ q := by omega
  have hq : q ≤ s.size := by omega
  have K := RBox.new w p q l
  obtain ⟨q0, q1, q2, f0, f1, f2⟩ := K.cells
  have F0 := fun w => oper_fault s p q l hs w
  rw [h] at F0
  have F1 := Lib.hid F0
  have e0 := ext_seg s p q
  have hsl : (Line.seg s.data.toList p q).length ≤ s.size := by rw [Line.seg, List.length_drop, List.length_take, data_len]; omega
  have T0 := fun w => class_Flip (bs (Line.seg s.data.toList p q)) (by rw [bs_size]; omega) w
  rw [bs_toList] at T0
  have T1 := Lib.hid T0
  have P0 := fun w => oper_put s p q l (bs (Class.turn Class.letter (Line.seg s.data.toList p q))) (by omega) hq hs (by rw [bs_size, Class.turn_length]; omega) w
  rw [bs_toList, ← Opr.caseT_seg] at P0
  have P1 := Lib.hid P0
  have hcl := Opr.caseT_length (s := s.data.toList) Class.letter hpq (by rw [data_len]; exact hq)
  have A0 := fun w => line_Clamp (bs (Opr.caseT s.data.toList p q Class.letter)) p (by rw [bs_size, hcl, data_len]; exact hs) w
  rw [bs_toList] at A0
  have A1 := Lib.hid A0
  generalize Opr.caseT s.data.toList p q Class.letter = X at *
  generalize Line.clamp X p = z at *
  generalize bs (Class.turn Class.letter (Line.seg s.data.toList p q)) = Y at *
  generalize bs (Line.seg s.data.toList p q) = Z at *
  have n0 := func_not 50
  have c1 : (p : Int) ≤ (q : Int) := by omega
  have c2 : (q : Int) ≤ (s.size : Int) := by omega
  clear F0 T0 P0 A0 hcl hsl h hr hne hs
  go_enter Tryz.func7, Tryz.ntmps7
  go_wp2_with (first
    | (go_at_call 19; (with_reducible refine (oper_letters_Flip _).mono ?_); rintro e u ⟨rfl, rfl⟩)
    | (go_at_call 20; (with_reducible refine (F1.out _).mono ?_); rintro e u ⟨rfl, hb⟩; (first | replace K := K.on hb | replace K := K.ond hb); clear hb; clear q0 q1 q2 f0 f1 f2; obtain ⟨q0, q1, q2, f0, f1, f2⟩ := K.cells))
  go_region_held3 (fun u => u.cell? ⟨w.heap.size, 0, none⟩ = some (.int .i64 p) ∧ u.cell? ⟨w.heap.size, 1, none⟩ = some (.int .i64 q) ∧ u.cell? ⟨w.heap.size, 2, none⟩ = some (.bool l)) (first | exact ⟨by assumption, by assumption, by assumption⟩ | go_keep)
    (first
      | (go_at_call 50; (with_reducible refine (T1.out _).mono ?_); rintro e u ⟨rfl, hb⟩; (first | replace K := K.on hb | replace K := K.ond hb); clear hb; clear q0 q1 q2 f0 f1 f2; obtain ⟨q0, q1, q2, f0, f1, f2⟩ := K.cells)
      | (go_at_call 21; (with_reducible refine (P1.out _).mono ?_); rintro e u ⟨rfl, hb⟩; (first | replace K := K.on hb | replace K := K.ond hb); clear hb; clear q0 q1 q2 f0 f1 f2; obtain ⟨q0, q1, q2, f0, f1, f2⟩ := K.cells))
  all_goals (go_wp2_with (first
    | (go_at_call 22; (with_reducible refine (A1.out _).mono ?_); rintro e u ⟨rfl, hb⟩; (first | replace K := K.on hb | replace K := K.ond hb); clear hb; clear q0 q1 q2 f0 f1 f2; obtain ⟨q0, q1, q2, f0, f1, f2⟩ := K.cells)))
  all_goals go_ret3
  all_goals exact ⟨rfl, K.below⟩
theorem oper_Case (s : ByteArray) (a b : Int) (l : Bool) (how : Int) (hs : s.size ≤ 1000000000000) (w : World) :
    Calls Tryz.prog 7 #[.string s, .agg #[.int .i64 a, .int .i64 b, .bool l], .int .i64 how] w fun e w' => e = .returned (Opr.val (Opr.case_ s.data.toList a b l how)) ∧ Below w.heap.size w w' := by
  rw [Opr.case_]
  cases hl : Opr.letters how with
  | none => rw [Opr.val_no]; exact oper_Case_no s a b l how hl w
  | some f =>
    show Calls _ _ _ _ fun e w' => e = .returned (Opr.val (if Opr.fault s.data.toList a b l = 0 then _ else _)) ∧ _
    by_cases h : Opr.fault s.data.toList a b l = 0
    · rw [if_pos h, Opr.val_mk]
      rcases Opr.letters_in hl with ⟨rfl, rfl⟩ | ⟨rfl, rfl⟩ | ⟨rfl, rfl⟩
      · exact oper_Case_ok_Up s a b l hs h w
      · exact oper_Case_ok_Low s a b l hs h w
      · exact oper_Case_ok_Flip s a b l hs h w
    · rw [if_neg h, Opr.val_no]
      rcases Opr.letters_in hl with ⟨rfl, rfl⟩ | ⟨rfl, rfl⟩ | ⟨rfl, rfl⟩
      · exact oper_Case_err_Up s a b l hs _ rfl h w
      · exact oper_Case_err_Low s a b l hs _ rfl h w
      · exact oper_Case_err_Flip s a b l hs _ rfl h w
end Go.Proofs.YtfhljddakhigdaaGreatDoor
/-
  Other letters by the document.
-/
namespace Go.Proofs.YtfhljddakhigdaaGreatDoor
open Go.RowKit
set_option maxHeartbeats 2000000 in
set_option maxRecDepth 100000 in
theorem ref23_Case_arg (s : ByteArray) (a b : Int) (l : Bool) (how : Int) (hs : s.size ≤ 1000000000000) (h : Span.right s.data.toList a b l = false) (w : World) :
    Calls Tryz.prog 8 #[.string s, .agg #[.int .i64 a, .int .i64 b, .bool l], .int .i64 how] w fun e w' => e = .returned (.tuple #[.string ⟨#[]⟩, .int .i64 0, .int .i64 1]) ∧ Below w.heap.size w w' := by
  have K := RBox.new w a b l
  obtain ⟨q0, q1, q2, f0, f1, f2⟩ := K.cells
  have R1 := Lib.hid (fun w => ref22_Right s a b l hs w)
  rw [h] at R1
  clear h hs
  go_enter Tryz.func8, Tryz.ntmps8
  go_wp2_with (first
    | (go_at_call 23; (with_reducible refine (R1.out _).mono ?_); rintro e u ⟨rfl, hb⟩; (first | replace K := K.on hb | replace K := K.ond hb); clear hb; clear q0 q1 q2 f0 f1 f2; obtain ⟨q0, q1, q2, f0, f1, f2⟩ := K.cells))
  go_ret3
  exact ⟨rfl, K.below⟩
set_option maxHeartbeats 2000000 in
set_option maxRecDepth 100000 in
theorem ref23_Case_no (s : ByteArray) (a b : Int) (l : Bool) (how : Int) (hs : s.size ≤ 1000000000000) (h : Span.right s.data.toList a b l = true) (hl : Opr.letters how = none) (w : World) :
    Calls Tryz.prog 8 #[.string s, .agg #[.int .i64 a, .int .i64 b, .bool l], .int .i64 how] w fun e w' => e = .returned (.tuple #[.string ⟨#[]⟩, .int .i64 0, .int .i64 1]) ∧ Below w.heap.size w w' := by
  have K := RBox.new w a b l
  obtain ⟨q0, q1, q2, f0, f1, f2⟩ := K.cells
  have R1 := Lib.hid (fun w => ref22_Right s a b l hs w)
  rw [h] at R1
  obtain ⟨n1, n2, n3⟩ := Opr.letters_no hl
  have g1 : (how != 85) = true := by simpa using n1
  have g2 : (how != 117) = true := by simpa using n2
  have g3 : (how != 126) = true := by simpa using n3
  clear h hs hl
  go_enter Tryz.func8, Tryz.ntmps8
  go_wp2_with (first
    | (go_at_call 23; (with_reducible refine (R1.out _).mono ?_); rintro e u ⟨rfl, hb⟩; (first | replace K := K.on hb | replace K := K.ond hb); clear hb; clear q0 q1 q2 f0 f1 f2; obtain ⟨q0, q1, q2, f0, f1, f2⟩ := K.cells))
  go_ret3
  exact ⟨rfl, K.below⟩
set_option maxHeartbeats 2000000 in
set_option maxRecDepth 100000 in
theorem ref23_Case_move_Up (s : ByteArray) (a b : Int) (hs : s.size ≤ 1000000000000) (h : Span.right s.data.toList a b false = true) (h0 : a = b) (w : World) :
    Calls Tryz.prog 8 #[.string s, .agg #[.int .i64 a, .int .i64 b, .bool false], .int .i64 85] w fun e w' => e = .returned (.tuple #[.string ⟨#[]⟩, .int .i64 0, .int .i64 10]) ∧ Below w.heap.size w w' := by
  have K := RBox.new w a b false
  obtain ⟨q0, q1, q2, f0, f1, f2⟩ := K.cells
  have R1 := Lib.hid (fun w => ref22_Right s a b false hs w)
  rw [h] at R1
  have g0 : (a == b) = true := by simpa using h0
  clear h h0 hs
  go_enter Tryz.func8, Tryz.ntmps8
  go_wp2_with (first
    | (go_at_call 23; (with_reducible refine (R1.out _).mono ?_); rintro e u ⟨rfl, hb⟩; (first | replace K := K.on hb | replace K := K.ond hb); clear hb; clear q0 q1 q2 f0 f1 f2; obtain ⟨q0, q1, q2, f0, f1, f2⟩ := K.cells))
  go_ret3
  exact ⟨rfl, K.below⟩
set_option maxHeartbeats 2000000 in
set_option maxRecDepth 100000 in
theorem ref23_Case_Up_lines (s : ByteArray) (a b : Int) (hs : s.size ≤ 1000000000000) (h : Span.right s.data.toList a b true = true)  (w : World) :
    Calls Tryz.prog 8 #[.string s, .agg #[.int .i64 a, .int .i64 b, .bool true], .int .i64 85] w fun e w' => e = .returned (.tuple #[.string (bs (Opr.caseT s.data.toList a b Class.small)), .int .i64 (Line.clamp (Opr.caseT s.data.toList a b Class.small) a), .int .i64 0]) ∧ Below w.heap.size w w' := by
  obtain ⟨h1, h2, h3⟩ := Span.right_in h
  rw [data_len] at h3
  obtain ⟨p, rfl⟩ : ∃ p : Nat, a = p := ⟨a.toNat, by omega⟩
  obtain ⟨q, rfl⟩ : ∃ q : Nat, b = q := ⟨b.toNat, by omega⟩
  have hpq : p ≤ q := by omega
  have hq : q ≤ s.size := by omega
  have K := RBox.new w p q true
  obtain ⟨q0, q1, q2, f0, f1, f2⟩ := K.cells
  have R1 := Lib.hid (fun w => ref22_Right s p q true hs w)
  rw [h] at R1
  have e0 := ext_seg s p q
  have hsl : (Line.seg s.data.toList p q).length ≤ s.size := by rw [Line.seg, List.length_drop, List.length_take, data_len]; omega
  have T0 := fun w => ref5_Up (bs (Line.seg s.data.toList p q)) (by rw [bs_size]; omega) w
  rw [bs_toList] at T0
  have T1 := Lib.hid T0
  have hcl := Opr.caseT_length (s := s.data.toList) Class.small hpq (by rw [data_len]; exact hq)
  have A0 := fun w => ref4_Clamp (bs (Opr.caseT s.data.toList p q Class.small)) p (by rw [bs_size, hcl, data_len]; exact hs) w
  rw [bs_toList] at A0
  have A1 := Lib.hid A0
  have e1 := extract_to s p
  have e2 := extract_from s q
  have hts : (Class.turn Class.small (Line.seg s.data.toList p q)).length ≤ s.size := by rw [Class.turn_length]; exact hsl
  have e3 : bs (s.data.toList.take p) ++ bs (Class.turn Class.small (Line.seg s.data.toList p q)) = bs (s.data.toList.take p ++ Class.turn Class.small (Line.seg s.data.toList p q)) := bs_append _ _
  have e4 : bs (s.data.toList.take p ++ Class.turn Class.small (Line.seg s.data.toList p q)) ++ bs (s.data.toList.drop q) = bs (Opr.caseT s.data.toList p q Class.small) := by rw [bs_append, Opr.caseT_seg, Opr.put, Int.toNat_natCast, Int.toNat_natCast, List.append_assoc]
  have hz1 : (bs (s.data.toList.take p)).size ≤ s.size := by rw [bs_size, List.length_take]; omega
  have hz2 : (bs (s.data.toList.drop q)).size ≤ s.size := by rw [bs_size, List.length_drop, data_len]; omega
  have hz3 : (bs (Class.turn Class.small (Line.seg s.data.toList p q))).size ≤ s.size := by rw [bs_size]; exact hts
  have hz4 : (bs (s.data.toList.take p ++ Class.turn Class.small (Line.seg s.data.toList p q))).size ≤ s.size + s.size := by rw [bs_size, List.length_append, List.length_take]; omega
  generalize Opr.caseT s.data.toList p q Class.small = X at *
  generalize Line.clamp X p = z at *
  generalize bs (s.data.toList.take p ++ Class.turn Class.small (Line.seg s.data.toList p q)) = G at *
  generalize bs (Class.turn Class.small (Line.seg s.data.toList p q)) = Y at *
  generalize bs (Line.seg s.data.toList p q) = Z at *
  generalize bs (s.data.toList.take p) = Y1 at *
  generalize bs (s.data.toList.drop q) = Y2 at *
  have c1 : (p : Int) ≤ (q : Int) := by omega
  have c2 : (q : Int) ≤ (s.size : Int) := by omega
  have c4 : (p : Int) ≤ (s.size : Int) := by omega
  have c3 : ¬ 9223372036854775807 < Y1.size + Y.size := by omega
  have c5 : ¬ 9223372036854775807 < G.size + Y2.size := by omega
  clear T0 A0 hcl hsl hts h hs
  go_enter Tryz.func8, Tryz.ntmps8
  go_wp2_with (first
    | (go_at_call 23; (with_reducible refine (R1.out _).mono ?_); rintro e u ⟨rfl, hb⟩; (first | replace K := K.on hb | replace K := K.ond hb); clear hb; clear q0 q1 q2 f0 f1 f2; obtain ⟨q0, q1, q2, f0, f1, f2⟩ := K.cells)
    | (go_at_call 24; (with_reducible refine (T1.out _).mono ?_); rintro e u ⟨rfl, rfl⟩))
  go_region
  all_goals replace K := K.drew
  all_goals (clear q0 q1 q2 f0 f1 f2; obtain ⟨q0, q1, q2, f0, f1, f2⟩ := K.cells)
  all_goals (go_wp2_with (first
    | (go_at_call 27; (with_reducible refine (A1.out _).mono ?_); rintro e u ⟨rfl, hb⟩; (first | replace K := K.on hb | replace K := K.ond hb); clear hb; clear q0 q1 q2 f0 f1 f2; obtain ⟨q0, q1, q2, f0, f1, f2⟩ := K.cells)))
  all_goals go_ret3
  all_goals exact ⟨rfl, K.below⟩
set_option maxHeartbeats 2000000 in
set_option maxRecDepth 100000 in
theorem ref23_Case_Up_text (s : ByteArray) (a b : Int) (hs : s.size ≤ 1000000000000) (h : Span.right s.data.toList a b false = true) (h0 : a ≠ b) (w : World) :
    Calls Tryz.prog 8 #[.string s, .agg #[.int .i64 a, .int .i64 b, .bool false], .int .i64 85] w fun e w' => e = .returned (.tuple #[.string (bs (Opr.caseT s.data.toList a b Class.small)), .int .i64 (Line.clamp (Opr.caseT s.data.toList a b Class.small) a), .int .i64 0]) ∧ Below w.heap.size w w' := by
  obtain ⟨h1, h2, h3⟩ := Span.right_in h
  rw [data_len] at h3
  obtain ⟨p, rfl⟩ : ∃ p : Nat, a = p := ⟨a.toNat, by omega⟩
  obtain ⟨q, rfl⟩ : ∃ q : Nat, b = q := ⟨b.toNat, by omega⟩
  have hpq : p ≤ q := by omega
  have hq : q ≤ s.size := by omega
  have K := RBox.new w p q false
  obtain ⟨q0, q1, q2, f0, f1, f2⟩ := K.cells
  have R1 := Lib.hid (fun w => ref22_Right s p q false hs w)
  rw [h] at R1
  have g0 : ((p : Int) == (q : Int)) = false := by rw [beq_eq_false_iff_ne]; exact h0
  have e0 := ext_seg s p q
  have hsl : (Line.seg s.data.toList p q).length ≤ s.size := by rw [Line.seg, List.length_drop, List.length_take, data_len]; omega
  have T0 := fun w => ref5_Up (bs (Line.seg s.data.toList p q)) (by rw [bs_size]; omega) w
  rw [bs_toList] at T0
  have T1 := Lib.hid T0
  have hcl := Opr.caseT_length (s := s.data.toList) Class.small hpq (by rw [data_len]; exact hq)
  have A0 := fun w => ref4_Clamp (bs (Opr.caseT s.data.toList p q Class.small)) p (by rw [bs_size, hcl, data_len]; exact hs) w
  rw [bs_toList] at A0
  have A1 := Lib.hid A0
  have e1 := extract_to s p
  have e2 := extract_from s q
  have hts : (Class.turn Class.small (Line.seg s.data.toList p q)).length ≤ s.size := by rw [Class.turn_length]; exact hsl
  have e3 : bs (s.data.toList.take p) ++ bs (Class.turn Class.small (Line.seg s.data.toList p q)) = bs (s.data.toList.take p ++ Class.turn Class.small (Line.seg s.data.toList p q)) := bs_append _ _
  have e4 : bs (s.data.toList.take p ++ Class.turn Class.small (Line.seg s.data.toList p q)) ++ bs (s.data.toList.drop q) = bs (Opr.caseT s.data.toList p q Class.small) := by rw [bs_append, Opr.caseT_seg, Opr.put, Int.toNat_natCast, Int.toNat_natCast, List.append_assoc]
  have hz1 : (bs (s.data.toList.take p)).size ≤ s.size := by rw [bs_size, List.length_take]; omega
  have hz2 : (bs (s.data.toList.drop q)).size ≤ s.size := by rw [bs_size, List.length_drop, data_len]; omega
  have hz3 : (bs (Class.turn Class.small (Line.seg s.data.toList p q))).size ≤ s.size := by rw [bs_size]; exact hts
  have hz4 : (bs (s.data.toList.take p ++ Class.turn Class.small (Line.seg s.data.toList p q))).size ≤ s.size + s.size := by rw [bs_size, List.length_append, List.length_take]; omega
  generalize Opr.caseT s.data.toList p q Class.small = X at *
  generalize Line.clamp X p = z at *
  generalize bs (s.data.toList.take p ++ Class.turn Class.small (Line.seg s.data.toList p q)) = G at *
  generalize bs (Class.turn Class.small (Line.seg s.data.toList p q)) = Y at *
  generalize bs (Line.seg s.data.toList p q) = Z at *
  generalize bs (s.data.toList.take p) = Y1 at *
  generalize bs (s.data.toList.drop q) = Y2 at *
  have c1 : (p : Int) ≤ (q : Int) := by omega
  have c2 : (q : Int) ≤ (s.size : Int) := by omega
  have c4 : (p : Int) ≤ (s.size : Int) := by omega
  have c3 : ¬ 9223372036854775807 < Y1.size + Y.size := by omega
  have c5 : ¬ 9223372036854775807 < G.size + Y2.size := by omega
  clear T0 A0 hcl hsl hts h hs
  go_enter Tryz.func8, Tryz.ntmps8
  go_wp2_with (first
    | (go_at_call 23; (with_reducible refine (R1.out _).mono ?_); rintro e u ⟨rfl, hb⟩; (first | replace K := K.on hb | replace K := K.ond hb); clear hb; clear q0 q1 q2 f0 f1 f2; obtain ⟨q0, q1, q2, f0, f1, f2⟩ := K.cells)
    | (go_at_call 24; (with_reducible refine (T1.out _).mono ?_); rintro e u ⟨rfl, rfl⟩))
  go_region
  all_goals replace K := K.drew
  all_goals (clear q0 q1 q2 f0 f1 f2; obtain ⟨q0, q1, q2, f0, f1, f2⟩ := K.cells)
  all_goals (go_wp2_with (first
    | (go_at_call 27; (with_reducible refine (A1.out _).mono ?_); rintro e u ⟨rfl, hb⟩; (first | replace K := K.on hb | replace K := K.ond hb); clear hb; clear q0 q1 q2 f0 f1 f2; obtain ⟨q0, q1, q2, f0, f1, f2⟩ := K.cells)))
  all_goals go_ret3
  all_goals exact ⟨rfl, K.below⟩
set_option maxHeartbeats 2000000 in
set_option maxRecDepth 100000 in
theorem ref23_Case_move_Low (s : ByteArray) (a b : Int) (hs : s.size ≤ 1000000000000) (h : Span.right s.data.toList a b false = true) (h0 : a = b) (w : World) :
    Calls Tryz.prog 8 #[.string s, .agg #[.int .i64 a, .int .i64 b, .bool false], .int .i64 117] w fun e w' => e = .returned (.tuple #[.string ⟨#[]⟩, .int .i64 0, .int .i64 10]) ∧ Below w.heap.size w w' := by
  have K := RBox.new w a b false
  obtain ⟨q0, q1, q2, f0, f1, f2⟩ := K.cells
  have R1 := Lib.hid (fun w => ref22_Right s a b false hs w)
  rw [h] at R1
  have g0 : (a == b) = true := by simpa using h0
  clear h h0 hs
  go_enter Tryz.func8, Tryz.ntmps8
  go_wp2_with (first
    | (go_at_call 23; (with_reducible refine (R1.out _).mono ?_); rintro e u ⟨rfl, hb⟩; (first | replace K := K.on hb | replace K := K.ond hb); clear hb; clear q0 q1 q2 f0 f1 f2; obtain ⟨q0, q1, q2, f0, f1, f2⟩ := K.cells))
  go_ret3
  exact ⟨rfl, K.below⟩
set_option maxHeartbeats 2000000 in
set_option maxRecDepth 100000 in
theorem ref23_Case_Low_lines (s : ByteArray) (a b : Int) (hs : s.size ≤ 1000000000000) (h : Span.right s.data.toList a b true = true)  (w : World) :
    Calls Tryz.prog 8 #[.string s, .agg #[.int .i64 a, .int .i64 b, .bool true], .int .i64 117] w fun e w' => e = .returned (.tuple #[.string (bs (Opr.caseT s.data.toList a b Class.capital)), .int .i64 (Line.clamp (Opr.caseT s.data.toList a b Class.capital) a), .int .i64 0]) ∧ Below w.heap.size w w' := by
  obtain ⟨h1, h2, h3⟩ := Span.right_in h
  rw [data_len] at h3
  obtain ⟨p, rfl⟩ : ∃ p : Nat, a = p := ⟨a.toNat, by omega⟩
  obtain ⟨q, rfl⟩ : ∃ q : Nat, b = q := ⟨b.toNat, by omega⟩
  have hpq : p ≤ q := by omega
  have hq : q ≤ s.size := by omega
  have K := RBox.new w p q true
  obtain ⟨q0, q1, q2, f0, f1, f2⟩ := K.cells
  have R1 := Lib.hid (fun w => ref22_Right s p q true hs w)
  rw [h] at R1
  have e0 := ext_seg s p q
  have hsl : (Line.seg s.data.toList p q).length ≤ s.size := by rw [Line.seg, List.length_drop, List.length_take, data_len]; omega
  have T0 := fun w => ref5_Low (bs (Line.seg s.data.toList p q)) (by rw [bs_size]; omega) w
  rw [bs_toList] at T0
  have T1 := Lib.hid T0
  have hcl := Opr.caseT_length (s := s.data.toList) Class.capital hpq (by rw [data_len]; exact hq)
  have A0 := fun w => ref4_Clamp (bs (Opr.caseT s.data.toList p q Class.capital)) p (by rw [bs_size, hcl, data_len]; exact hs) w
  rw [bs_toList] at A0
  have A1 := Lib.hid A0
  have e1 := extract_to s p
  have e2 := extract_from s q
  have hts : (Class.turn Class.capital (Line.seg s.data.toList p q)).length ≤ s.size := by rw [Class.turn_length]; exact hsl
  have e3 : bs (s.data.toList.take p) ++ bs (Class.turn Class.capital (Line.seg s.data.toList p q)) = bs (s.data.toList.take p ++ Class.turn Class.capital (Line.seg s.data.toList p q)) := bs_append _ _
  have e4 : bs (s.data.toList.take p ++ Class.turn Class.capital (Line.seg s.data.toList p q)) ++ bs (s.data.toList.drop q) = bs (Opr.caseT s.data.toList p q Class.capital) := by rw [bs_append, Opr.caseT_seg, Opr.put, Int.toNat_natCast, Int.toNat_natCast, List.append_assoc]
  have hz1 : (bs (s.data.toList.take p)).size ≤ s.size := by rw [bs_size, List.length_take]; omega
  have hz2 : (bs (s.data.toList.drop q)).size ≤ s.size := by rw [bs_size, List.length_drop, data_len]; omega
  have hz3 : (bs (Class.turn Class.capital (Line.seg s.data.toList p q))).size ≤ s.size := by rw [bs_size]; exact hts
  have hz4 : (bs (s.data.toList.take p ++ Class.turn Class.capital (Line.seg s.data.toList p q))).size ≤ s.size + s.size := by rw [bs_size, List.length_append, List.length_take]; omega
  generalize Opr.caseT s.data.toList p q Class.capital = X at *
  generalize Line.clamp X p = z at *
  generalize bs (s.data.toList.take p ++ Class.turn Class.capital (Line.seg s.data.toList p q)) = G at *
  generalize bs (Class.turn Class.capital (Line.seg s.data.toList p q)) = Y at *
  generalize bs (Line.seg s.data.toList p q) = Z at *
  generalize bs (s.data.toList.take p) = Y1 at *
  generalize bs (s.data.toList.drop q) = Y2 at *
  have c1 : (p : Int) ≤ (q : Int) := by omega
  have c2 : (q : Int) ≤ (s.size : Int) := by omega
  have c4 : (p : Int) ≤ (s.size : Int) := by omega
  have c3 : ¬ 9223372036854775807 < Y1.size + Y.size := by omega
  have c5 : ¬ 9223372036854775807 < G.size + Y2.size := by omega
  clear T0 A0 hcl hsl hts h hs
  go_enter Tryz.func8, Tryz.ntmps8
  go_wp2_with (first
    | (go_at_call 23; (with_reducible refine (R1.out _).mono ?_); rintro e u ⟨rfl, hb⟩; (first | replace K := K.on hb | replace K := K.ond hb); clear hb; clear q0 q1 q2 f0 f1 f2; obtain ⟨q0, q1, q2, f0, f1, f2⟩ := K.cells)
    | (go_at_call 25; (with_reducible refine (T1.out _).mono ?_); rintro e u ⟨rfl, rfl⟩))
  go_region
  all_goals replace K := K.drew
  all_goals (clear q0 q1 q2 f0 f1 f2; obtain ⟨q0, q1, q2, f0, f1, f2⟩ := K.cells)
  all_goals (go_wp2_with (first
    | (go_at_call 27; (with_reducible refine (A1.out _).mono ?_); rintro e u ⟨rfl, hb⟩; (first | replace K := K.on hb | replace K := K.ond hb); clear hb; clear q0 q1 q2 f0 f1 f2; obtain ⟨q0, q1, q2, f0, f1, f2⟩ := K.cells)))
  all_goals go_ret3
  all_goals exact ⟨rfl, K.below⟩
set_option maxHeartbeats 2000000 in
set_option maxRecDepth 100000 in
theorem ref23_Case_Low_text (s : ByteArray) (a b : Int) (hs : s.size ≤ 1000000000000) (h : Span.right s.data.toList a b false = true) (h0 : a ≠ b) (w : World) :
    Calls Tryz.prog 8 #[.string s, .agg #[.int .i64 a, .int .i64 b, .bool false], .int .i64 117] w fun e w' => e = .returned (.tuple #[.string (bs (Opr.caseT s.data.toList a b Class.capital)), .int .i64 (Line.clamp (Opr.caseT s.data.toList a b Class.capital) a), .int .i64 0]) ∧ Below w.heap.size w w' := by
  obtain ⟨h1, h2, h3⟩ := Span.right_in h
  rw [data_len] at h3
  obtain ⟨p, rfl⟩ : ∃ p : Nat, a = p := ⟨a.toNat, by omega⟩
  obtain ⟨q, rfl⟩ : ∃ q : Nat, b = q := ⟨b.toNat, by omega⟩
  have hpq : p ≤ q := by omega
  have hq : q ≤ s.size := by omega
  have K := RBox.new w p q false
  obtain ⟨q0, q1, q2, f0, f1, f2⟩ := K.cells
  have R1 := Lib.hid (fun w => ref22_Right s p q false hs w)
  rw [h] at R1
  have g0 : ((p : Int) == (q : Int)) = false := by rw [beq_eq_false_iff_ne]; exact h0
  have e0 := ext_seg s p q
  have hsl : (Line.seg s.data.toList p q).length ≤ s.size := by rw [Line.seg, List.length_drop, List.length_take, data_len]; omega
  have T0 := fun w => ref5_Low (bs (Line.seg s.data.toList p q)) (by rw [bs_size]; omega) w
  rw [bs_toList] at T0
  have T1 := Lib.hid T0
  have hcl := Opr.caseT_length (s := s.data.toList) Class.capital hpq (by rw [data_len]; exact hq)
  have A0 := fun w => ref4_Clamp (bs (Opr.caseT s.data.toList p q Class.capital)) p (by rw [bs_size, hcl, data_len]; exact hs) w
  rw [bs_toList] at A0
  have A1 := Lib.hid A0
  have e1 := extract_to s p
  have e2 := extract_from s q
  have hts : (Class.turn Class.capital (Line.seg s.data.toList p q)).length ≤ s.size := by rw [Class.turn_length]; exact hsl
  have e3 : bs (s.data.toList.take p) ++ bs (Class.turn Class.capital (Line.seg s.data.toList p q)) = bs (s.data.toList.take p ++ Class.turn Class.capital (Line.seg s.data.toList p q)) := bs_append _ _
  have e4 : bs (s.data.toList.take p ++ Class.turn Class.capital (Line.seg s.data.toList p q)) ++ bs (s.data.toList.drop q) = bs (Opr.caseT s.data.toList p q Class.capital) := by rw [bs_append, Opr.caseT_seg, Opr.put, Int.toNat_natCast, Int.toNat_natCast, List.append_assoc]
  have hz1 : (bs (s.data.toList.take p)).size ≤ s.size := by rw [bs_size, List.length_take]; omega
  have hz2 : (bs (s.data.toList.drop q)).size ≤ s.size := by rw [bs_size, List.length_drop, data_len]; omega
  have hz3 : (bs (Class.turn Class.capital (Line.seg s.data.toList p q))).size ≤ s.size := by rw [bs_size]; exact hts
  have hz4 : (bs (s.data.toList.take p ++ Class.turn Class.capital (Line.seg s.data.toList p q))).size ≤ s.size + s.size := by rw [bs_size, List.length_append, List.length_take]; omega
  generalize Opr.caseT s.data.toList p q Class.capital = X at *
  generalize Line.clamp X p = z at *
  generalize bs (s.data.toList.take p ++ Class.turn Class.capital (Line.seg s.data.toList p q)) = G at *
  generalize bs (Class.turn Class.capital (Line.seg s.data.toList p q)) = Y at *
  generalize bs (Line.seg s.data.toList p q) = Z at *
  generalize bs (s.data.toList.take p) = Y1 at *
  generalize bs (s.data.toList.drop q) = Y2 at *
  have c1 : (p : Int) ≤ (q : Int) := by omega
  have c2 : (q : Int) ≤ (s.size : Int) := by omega
  have c4 : (p : Int) ≤ (s.size : Int) := by omega
  have c3 : ¬ 9223372036854775807 < Y1.size + Y.size := by omega
  have c5 : ¬ 9223372036854775807 < G.size + Y2.size := by omega
  clear T0 A0 hcl hsl hts h hs
  go_enter Tryz.func8, Tryz.ntmps8
  go_wp2_with (first
    | (go_at_call 23; (with_reducible refine (R1.out _).mono ?_); rintro e u ⟨rfl, hb⟩; (first | replace K := K.on hb | replace K := K.ond hb); clear hb; clear q0 q1 q2 f0 f1 f2; obtain ⟨q0, q1, q2, f0, f1, f2⟩ := K.cells)
    | (go_at_call 25; (with_reducible refine (T1.out _).mono ?_); rintro e u ⟨rfl, rfl⟩))
  go_region
  all_goals replace K := K.drew
  all_goals (clear q0 q1 q2 f0 f1 f2; obtain ⟨q0, q1, q2, f0, f1, f2⟩ := K.cells)
  all_goals (go_wp2_with (first
    | (go_at_call 27; (with_reducible refine (A1.out _).mono ?_); rintro e u ⟨rfl, hb⟩; (first | replace K := K.on hb | replace K := K.ond hb); clear hb; clear q0 q1 q2 f0 f1 f2; obtain ⟨q0, q1, q2, f0, f1, f2⟩ := K.cells)))
  all_goals go_ret3
  all_goals exact ⟨rfl, K.below⟩
set_option maxHeartbeats 2000000 in
set_option maxRecDepth 100000 in
theorem ref23_Case_move_Flip (s : ByteArray) (a b : Int) (hs : s.size ≤ 1000000000000) (h : Span.right s.data.toList a b false = true) (h0 : a = b) (w : World) :
    Calls Tryz.prog 8 #[.string s, .agg #[.int .i64 a, .int .i64 b, .bool false], .int .i64 126] w fun e w' => e = .returned (.tuple #[.string ⟨#[]⟩, .int .i64 0, .int .i64 10]) ∧ Below w.heap.size w w' := by
  have K := RBox.new w a b false
  obtain ⟨q0, q1, q2, f0, f1, f2⟩ := K.cells
  have R1 := Lib.hid (fun w => ref22_Right s a b false hs w)
  rw [h] at R1
  have g0 : (a == b) = true := by simpa using h0
  clear h h0 hs
  go_enter Tryz.func8, Tryz.ntmps8
  go_wp2_with (first
    | (go_at_call 23; (with_reducible refine (R1.out _).mono ?_); rintro e u ⟨rfl, hb⟩; (first | replace K := K.on hb | replace K := K.ond hb); clear hb; clear q0 q1 q2 f0 f1 f2; obtain ⟨q0, q1, q2, f0, f1, f2⟩ := K.cells))
  go_ret3
  exact ⟨rfl, K.below⟩
set_option maxHeartbeats 2000000 in
set_option maxRecDepth 100000 in
theorem ref23_Case_Flip_lines (s : ByteArray) (a b : Int) (hs : s.size ≤ 1000000000000) (h : Span.right s.data.toList a b true = true)  (w : World) :
    Calls Tryz.prog 8 #[.string s, .agg #[.int .i64 a, .int .i64 b, .bool true], .int .i64 126] w fun e w' => e = .returned (.tuple #[.string (bs (Opr.caseT s.data.toList a b Class.letter)), .int .i64 (Line.clamp (Opr.caseT s.data.toList a b Class.letter) a), .int .i64 0]) ∧ Below w.heap.size w w' := by
  obtain ⟨h1, h2, h3⟩ := Span.right_in h
  rw [data_len] at h3
  obtain ⟨p, rfl⟩ : ∃ p : Nat, a = p := ⟨a.toNat, by omega⟩
  obtain ⟨q, rfl⟩ : ∃ q : Nat, b = q := ⟨b.toNat, by omega⟩
  have hpq : p ≤ q := by omega
  have hq : q ≤ s.size := by omega
  have K := RBox.new w p q true
  obtain ⟨q0, q1, q2, f0, f1, f2⟩ := K.cells
  have R1 := Lib.hid (fun w => ref22_Right s p q true hs w)
  rw [h] at R1
  have e0 := ext_seg s p q
  have hsl : (Line.seg s.data.toList p q).length ≤ s.size := by rw [Line.seg, List.length_drop, List.length_take, data_len]; omega
  have T0 := fun w => ref5_Flip (bs (Line.seg s.data.toList p q)) (by rw [bs_size]; omega) w
  rw [bs_toList] at T0
  have T1 := Lib.hid T0
  have hcl := Opr.caseT_length (s := s.data.toList) Class.letter hpq (by rw [data_len]; exact hq)
  have A0 := fun w => ref4_Clamp (bs (Opr.caseT s.data.toList p q Class.letter)) p (by rw [bs_size, hcl, data_len]; exact hs) w
  rw [bs_toList] at A0
  have A1 := Lib.hid A0
  have e1 := extract_to s p
  have e2 := extract_from s q
  have hts : (Class.turn Class.letter (Line.seg s.data.toList p q)).length ≤ s.size := by rw [Class.turn_length]; exact hsl
  have e3 : bs (s.data.toList.take p) ++ bs (Class.turn Class.letter (Line.seg s.data.toList p q)) = bs (s.data.toList.take p ++ Class.turn Class.letter (Line.seg s.data.toList p q)) := bs_append _ _
  have e4 : bs (s.data.toList.take p ++ Class.turn Class.letter (Line.seg s.data.toList p q)) ++ bs (s.data.toList.drop q) = bs (Opr.caseT s.data.toList p q Class.letter) := by rw [bs_append, Opr.caseT_seg, Opr.put, Int.toNat_natCast, Int.toNat_natCast, List.append_assoc]
  have hz1 : (bs (s.data.toList.take p)).size ≤ s.size := by rw [bs_size, List.length_take]; omega
  have hz2 : (bs (s.data.toList.drop q)).size ≤ s.size := by rw [bs_size, List.length_drop, data_len]; omega
  have hz3 : (bs (Class.turn Class.letter (Line.seg s.data.toList p q))).size ≤ s.size := by rw [bs_size]; exact hts
  have hz4 : (bs (s.data.toList.take p ++ Class.turn Class.letter (Line.seg s.data.toList p q))).size ≤ s.size + s.size := by rw [bs_size, List.length_append, List.length_take]; omega
  generalize Opr.caseT s.data.toList p q Class.letter = X at *
  generalize Line.clamp X p = z at *
  generalize bs (s.data.toList.take p ++ Class.turn Class.letter (Line.seg s.data.toList p q)) = G at *
  generalize bs (Class.turn Class.letter (Line.seg s.data.toList p q)) = Y at *
  generalize bs (Line.seg s.data.toList p q) = Z at *
  generalize bs (s.data.toList.take p) = Y1 at *
  generalize bs (s.data.toList.drop q) = Y2 at *
  have c1 : (p : Int) ≤ (q : Int) := by omega
  have c2 : (q : Int) ≤ (s.size : Int) := by omega
  have c4 : (p : Int) ≤ (s.size : Int) := by omega
  have c3 : ¬ 9223372036854775807 < Y1.size + Y.size := by omega
  have c5 : ¬ 9223372036854775807 < G.size + Y2.size := by omega
  clear T0 A0 hcl hsl hts h hs
  go_enter Tryz.func8, Tryz.ntmps8
  go_wp2_with (first
    | (go_at_call 23; (with_reducible refine (R1.out _).mono ?_); rintro e u ⟨rfl, hb⟩; (first | replace K := K.on hb | replace K := K.ond hb); clear hb; clear q0 q1 q2 f0 f1 f2; obtain ⟨q0, q1, q2, f0, f1, f2⟩ := K.cells)
    | (go_at_call 26; (with_reducible refine (T1.out _).mono ?_); rintro e u ⟨rfl, rfl⟩))
  go_region
  all_goals replace K := K.drew
  all_goals (clear q0 q1 q2 f0 f1 f2; obtain ⟨q0, q1, q2, f0, f1, f2⟩ := K.cells)
  all_goals (go_wp2_with (first
    | (go_at_call 27; (with_reducible refine (A1.out _).mono ?_); rintro e u ⟨rfl, hb⟩; (first | replace K := K.on hb | replace K := K.ond hb); clear hb; clear q0 q1 q2 f0 f1 f2; obtain ⟨q0, q1, q2, f0, f1, f2⟩ := K.cells)))
  all_goals go_ret3
  all_goals exact ⟨rfl, K.below⟩
set_option maxHeartbeats 2000000 in
set_option maxRecDepth 100000 in
theorem ref23_Case_Flip_text (s : ByteArray) (a b : Int) (hs : s.size ≤ 1000000000000) (h : Span.right s.data.toList a b false = true) (h0 : a ≠ b) (w : World) :
    Calls Tryz.prog 8 #[.string s, .agg #[.int .i64 a, .int .i64 b, .bool false], .int .i64 126] w fun e w' => e = .returned (.tuple #[.string (bs (Opr.caseT s.data.toList a b Class.letter)), .int .i64 (Line.clamp (Opr.caseT s.data.toList a b Class.letter) a), .int .i64 0]) ∧ Below w.heap.size w w' := by
  obtain ⟨h1, h2, h3⟩ := Span.right_in h
  rw [data_len] at h3
  obtain ⟨p, rfl⟩ : ∃ p : Nat, a = p := ⟨a.toNat, by omega⟩
  obtain ⟨q, rfl⟩ : ∃ q : Nat, b = q := ⟨b.toNat, by omega⟩
  have hpq : p ≤ q := by omega
  have hq : q ≤ s.size := by omega
  have K := RBox.new w p q false
  obtain ⟨q0, q1, q2, f0, f1, f2⟩ := K.cells
  have R1 := Lib.hid (fun w => ref22_Right s p q false hs w)
  rw [h] at R1
  have g0 : ((p : Int) == (q : Int)) = false := by rw [beq_eq_false_iff_ne]; exact h0
  have e0 := ext_seg s p q
  have hsl : (Line.seg s.data.toList p q).length ≤ s.size := by rw [Line.seg, List.length_drop, List.length_take, data_len]; omega
  have T0 := fun w => ref5_Flip (bs (Line.seg s.data.toList p q)) (by rw [bs_size]; omega) w
  rw [bs_toList] at T0
  have T1 := Lib.hid T0
  have hcl := Opr.caseT_length (s := s.data.toList) Class.letter hpq (by rw [data_len]; exact hq)
  have A0 := fun w => ref4_Clamp (bs (Opr.caseT s.data.toList p q Class.letter)) p (by rw [bs_size, hcl, data_len]; exact hs) w
  rw [bs_toList] at A0
  have A1 := Lib.hid A0
  have e1 := extract_to s p
  have e2 := extract_from s q
  have hts : (Class.turn Class.letter (Line.seg s.data.toList p q)).length ≤ s.size := by rw [Class.turn_length]; exact hsl
  have e3 : bs (s.data.toList.take p) ++ bs (Class.turn Class.letter (Line.seg s.data.toList p q)) = bs (s.data.toList.take p ++ Class.turn Class.letter (Line.seg s.data.toList p q)) := bs_append _ _
  have e4 : bs (s.data.toList.take p ++ Class.turn Class.letter (Line.seg s.data.toList p q)) ++ bs (s.data.toList.drop q) = bs (Opr.caseT s.data.toList p q Class.letter) := by rw [bs_append, Opr.caseT_seg, Opr.put, Int.toNat_natCast, Int.toNat_natCast, List.append_assoc]
  have hz1 : (bs (s.data.toList.take p)).size ≤ s.size := by rw [bs_size, List.length_take]; omega
  have hz2 : (bs (s.data.toList.drop q)).size ≤ s.size := by rw [bs_size, List.length_drop, data_len]; omega
  have hz3 : (bs (Class.turn Class.letter (Line.seg s.data.toList p q))).size ≤ s.size := by rw [bs_size]; exact hts
  have hz4 : (bs (s.data.toList.take p ++ Class.turn Class.letter (Line.seg s.data.toList p q))).size ≤ s.size + s.size := by rw [bs_size, List.length_append, List.length_take]; omega
  generalize Opr.caseT s.data.toList p q Class.letter = X at *
  generalize Line.clamp X p = z at *
  generalize bs (s.data.toList.take p ++ Class.turn Class.letter (Line.seg s.data.toList p q)) = G at *
  generalize bs (Class.turn Class.letter (Line.seg s.data.toList p q)) = Y at *
  generalize bs (Line.seg s.data.toList p q) = Z at *
  generalize bs (s.data.toList.take p) = Y1 at *
  generalize bs (s.data.toList.drop q) = Y2 at *
  have c1 : (p : Int) ≤ (q : Int) := by omega
  have c2 : (q : Int) ≤ (s.size : Int) := by omega
  have c4 : (p : Int) ≤ (s.size : Int) := by omega
  have c3 : ¬ 9223372036854775807 < Y1.size + Y.size := by omega
  have c5 : ¬ 9223372036854775807 < G.size + Y2.size := by omega
  clear T0 A0 hcl hsl hts h hs
  go_enter Tryz.func8, Tryz.ntmps8
  go_wp2_with (first
    | (go_at_call 23; (with_reducible refine (R1.out _).mono ?_); rintro e u ⟨rfl, hb⟩; (first | replace K := K.on hb | replace K := K.ond hb); clear hb; clear q0 q1 q2 f0 f1 f2; obtain ⟨q0, q1, q2, f0, f1, f2⟩ := K.cells)
    | (go_at_call 26; (with_reducible refine (T1.out _).mono ?_); rintro e u ⟨rfl, rfl⟩))
  go_region
  all_goals replace K := K.drew
  all_goals (clear q0 q1 q2 f0 f1 f2; obtain ⟨q0, q1, q2, f0, f1, f2⟩ := K.cells)
  all_goals (go_wp2_with (first
    | (go_at_call 27; (with_reducible refine (A1.out _).mono ?_); rintro e u ⟨rfl, hb⟩; (first | replace K := K.on hb | replace K := K.ond hb); clear hb; clear q0 q1 q2 f0 f1 f2; obtain ⟨q0, q1, q2, f0, f1, f2⟩ := K.cells)))
  all_goals go_ret3
  all_goals exact ⟨rfl, K.below⟩
theorem ref23_Case (s : ByteArray) (a b : Int) (l : Bool) (how : Int) (hs : s.size ≤ 1000000000000) (w : World) :
    Calls Tryz.prog 8 #[.string s, .agg #[.int .i64 a, .int .i64 b, .bool l], .int .i64 how] w fun e w' => e = .returned (Opr.val (Opr.case_ s.data.toList a b l how)) ∧ Below w.heap.size w w' := by
  cases h : Span.right s.data.toList a b l with
  | false =>
    have e : Opr.case_ s.data.toList a b l how = Opr.no 1 := by
      rw [Opr.case_]
      cases Opr.letters how with
      | none => rfl
      | some f => show (if Opr.fault s.data.toList a b l = 0 then _ else Opr.no (Opr.fault s.data.toList a b l)) = _; rw [Opr.fault_arg h, if_neg (by decide)]
    rw [e, Opr.val_no]
    exact ref23_Case_arg s a b l how hs h w
  | true =>
    rw [Opr.case_]
    cases hl : Opr.letters how with
    | none => rw [Opr.val_no]; exact ref23_Case_no s a b l how hs h hl w
    | some f =>
      show Calls _ _ _ _ fun e w' => e = .returned (Opr.val (if Opr.fault s.data.toList a b l = 0 then _ else Opr.no (Opr.fault s.data.toList a b l))) ∧ _
      cases l with
      | true =>
        rw [Opr.fault_ok h (by simp), if_pos rfl, Opr.val_mk]
        rcases Opr.letters_in hl with ⟨rfl, rfl⟩ | ⟨rfl, rfl⟩ | ⟨rfl, rfl⟩
        · exact ref23_Case_Up_lines s a b hs h w
        · exact ref23_Case_Low_lines s a b hs h w
        · exact ref23_Case_Flip_lines s a b hs h w
      | false =>
        by_cases h0 : a = b
        · have h2 := h
          rw [← h0] at h2
          rw [show Opr.fault s.data.toList a b false = 10 by rw [← h0]; exact Opr.fault_move h2, if_neg (by decide), Opr.val_no]
          rcases Opr.letters_in hl with ⟨rfl, rfl⟩ | ⟨rfl, rfl⟩ | ⟨rfl, rfl⟩
          · exact ref23_Case_move_Up s a b hs h h0 w
          · exact ref23_Case_move_Low s a b hs h h0 w
          · exact ref23_Case_move_Flip s a b hs h h0 w
        · rw [Opr.fault_ok h (fun e => h0 e.2), if_pos rfl, Opr.val_mk]
          rcases Opr.letters_in hl with ⟨rfl, rfl⟩ | ⟨rfl, rfl⟩ | ⟨rfl, rfl⟩
          · exact ref23_Case_Up_text s a b hs h h0 w
          · exact ref23_Case_Low_text s a b hs h h0 w
          · exact ref23_Case_Flip_text s a b hs h h0 w
end Go.Proofs.YtfhljddakhigdaaGreatDoor
