/-
  The reader's tables: which words are motions and operators, what a word does without a motion, and what it does with what is marked.
-/
import Derived.Test.YtchpkeelnfmlbaaPhraseWant
namespace Go.Proofs.Ytchpkeelnfmlbaa
open Go.RowKit
open Phr (Cmd Ans Rdr EndsAs wet)
namespace Phr
theorem yes {x l : List UInt8} (h : ((bs x).toList == l) = true) : x = l := by rw [bs_test] at h; exact of_decide_eq_true h
theorem no {x l : List UInt8} (h : ((bs x).toList == l) = false) : x ≠ l := by rw [bs_test] at h; exact of_decide_eq_false h
theorem mot_some {x : List UInt8} : (mot x).isSome = true ↔ x ∈ finds ∨ x ∈ marks ∨ x ∈ bare := by
  unfold mot
  by_cases h1 : x ∈ finds
  · simp [h1]
  · by_cases h2 : x ∈ marks
    · simp [h1, h2]
    · by_cases h3 : x ∈ bare <;> simp [h1, h2, h3]
theorem mot_kind {x : List UInt8} : (mot x).isSome = true ↔ x = [59] ∨ x = [44] ∨ Span.kind x ≠ 0 := by
  constructor
  · intro h
    have h2 := mot_some.1 h
    simp only [finds, marks, bare, List.mem_cons, List.not_mem_nil, or_false] at h2
    rcases h2 with (rfl | rfl | rfl | rfl) | (rfl | rfl) | h2 <;> try decide
    rcases h2 with rfl | rfl | rfl | rfl | rfl | rfl | rfl | rfl | rfl | rfl | rfl | rfl | rfl | rfl | rfl | rfl | rfl | rfl | rfl | rfl | rfl | rfl | rfl <;> decide
  · rintro (rfl | rfl | h)
    · decide
    · decide
    · by_cases h1 : x ∈ Span.short
      · simp only [Span.short, List.mem_cons, List.not_mem_nil, or_false] at h1
        rcases h1 with rfl | rfl | rfl | rfl | rfl | rfl | rfl | rfl | rfl | rfl | rfl | rfl | rfl | rfl | rfl | rfl | rfl <;> decide
      by_cases h2 : x ∈ Span.long
      · simp only [Span.long, List.mem_cons, List.not_mem_nil, or_false] at h2
        rcases h2 with rfl | rfl | rfl | rfl | rfl <;> decide
      by_cases h3 : x ∈ Span.whole
      · simp only [Span.whole, List.mem_cons, List.not_mem_nil, or_false] at h3
        rcases h3 with rfl | rfl | rfl | rfl | rfl <;> decide
      exact absurd (Span.kind_none h1 h2 h3) h
end Phr
set_option maxHeartbeats 1000000 in
set_option maxRecDepth 100000 in
theorem phr_Motion_0 (x : List UInt8) (q0 : ((bs x).toList == [59]) = true) (w : World) :
    Calls Try.prog 15 #[.string (bs x)] w fun e w' => e = .returned (.bool true) ∧ w = w' := by
  go_enter Try.func15, Try.ntmps15
  go_wp2
  go_ret
  exact ⟨rfl, rfl⟩
set_option maxHeartbeats 1000000 in
set_option maxRecDepth 100000 in
theorem phr_Motion_1 (x : List UInt8) (q0 : ((bs x).toList == [59]) = false) (q1 : ((bs x).toList == [44]) = true) (w : World) :
    Calls Try.prog 15 #[.string (bs x)] w fun e w' => e = .returned (.bool true) ∧ w = w' := by
  go_enter Try.func15, Try.ntmps15
  go_wp2
  go_ret
  exact ⟨rfl, rfl⟩
set_option maxHeartbeats 1000000 in
set_option maxRecDepth 100000 in
theorem phr_Motion_2 (x : List UInt8) (q0 : ((bs x).toList == [59]) = false) (q1 : ((bs x).toList == [44]) = false) (w : World) :
    Calls Try.prog 15 #[.string (bs x)] w fun e w' => e = .returned (.bool !decide (Span.kind x = 0)) ∧ w = w' := by
  have K := Lib.hid (fun w => span_Kind (bs x) w)
  rw [bs_toList] at K
  have H : Hid ((((Span.kind x : Nat) : Int) != 0) = (!decide (Span.kind x = 0))) := Lib.hid (by rw [Bool.eq_iff_iff]; simp)
  go_enter Try.func15, Try.ntmps15
  go_wp2_with ((go_at_call 30; refine (K.out _).mono ?_; rintro e w1 ⟨rfl, rfl⟩))
  go_ret
  exact ⟨by rw [← H.out]; rfl, rfl⟩
theorem phr_Motion (x : List UInt8) (w : World) :
    Calls Try.prog 15 #[.string (bs x)] w fun e w' => e = .returned (.bool (Phr.mot x).isSome) ∧ w = w' := by
  rcases Bool.eq_false_or_eq_true ((bs x).toList == [59]) with q0 | q0
  · rw [show (Phr.mot x).isSome = true by rw [Phr.yes q0]; decide]; exact phr_Motion_0 x q0 w
  rcases Bool.eq_false_or_eq_true ((bs x).toList == [44]) with q1 | q1
  · rw [show (Phr.mot x).isSome = true by rw [Phr.yes q1]; decide]; exact phr_Motion_1 x q0 q1 w
  have e : (Phr.mot x).isSome = !decide (Span.kind x = 0) := by
    rw [Bool.eq_iff_iff, Phr.mot_kind]
    simp [Phr.no q0, Phr.no q1]
  rw [e]
  exact phr_Motion_2 x q0 q1 w
set_option maxHeartbeats 1000000 in
set_option maxRecDepth 100000 in
theorem phr_operator_0 (x : List UInt8) (q0 : ((bs x).toList == [100]) = true) (w : World) :
    Calls Try.prog 18 #[.string (bs x)] w fun e w' => e = .returned (.bool true) ∧ w = w' := by
  go_enter Try.func18, Try.ntmps18
  go_wp2
  go_ret
  exact ⟨rfl, rfl⟩
set_option maxHeartbeats 1000000 in
set_option maxRecDepth 100000 in
theorem phr_operator_1 (x : List UInt8) (q0 : ((bs x).toList == [100]) = false) (q1 : ((bs x).toList == [99]) = true) (w : World) :
    Calls Try.prog 18 #[.string (bs x)] w fun e w' => e = .returned (.bool true) ∧ w = w' := by
  go_enter Try.func18, Try.ntmps18
  go_wp2
  go_ret
  exact ⟨rfl, rfl⟩
set_option maxHeartbeats 1000000 in
set_option maxRecDepth 100000 in
theorem phr_operator_2 (x : List UInt8) (q0 : ((bs x).toList == [100]) = false) (q1 : ((bs x).toList == [99]) = false) (q2 : ((bs x).toList == [121]) = true) (w : World) :
    Calls Try.prog 18 #[.string (bs x)] w fun e w' => e = .returned (.bool true) ∧ w = w' := by
  go_enter Try.func18, Try.ntmps18
  go_wp2
  go_ret
  exact ⟨rfl, rfl⟩
set_option maxHeartbeats 1000000 in
set_option maxRecDepth 100000 in
theorem phr_operator_3 (x : List UInt8) (q0 : ((bs x).toList == [100]) = false) (q1 : ((bs x).toList == [99]) = false) (q2 : ((bs x).toList == [121]) = false) (q3 : ((bs x).toList == [62]) = true) (w : World) :
    Calls Try.prog 18 #[.string (bs x)] w fun e w' => e = .returned (.bool true) ∧ w = w' := by
  go_enter Try.func18, Try.ntmps18
  go_wp2
  go_ret
  exact ⟨rfl, rfl⟩
set_option maxHeartbeats 1000000 in
set_option maxRecDepth 100000 in
theorem phr_operator_4 (x : List UInt8) (q0 : ((bs x).toList == [100]) = false) (q1 : ((bs x).toList == [99]) = false) (q2 : ((bs x).toList == [121]) = false) (q3 : ((bs x).toList == [62]) = false) (q4 : ((bs x).toList == [60]) = true) (w : World) :
    Calls Try.prog 18 #[.string (bs x)] w fun e w' => e = .returned (.bool true) ∧ w = w' := by
  go_enter Try.func18, Try.ntmps18
  go_wp2
  go_ret
  exact ⟨rfl, rfl⟩
set_option maxHeartbeats 1000000 in
set_option maxRecDepth 100000 in
theorem phr_operator_5 (x : List UInt8) (q0 : ((bs x).toList == [100]) = false) (q1 : ((bs x).toList == [99]) = false) (q2 : ((bs x).toList == [121]) = false) (q3 : ((bs x).toList == [62]) = false) (q4 : ((bs x).toList == [60]) = false) (q5 : ((bs x).toList == [103, 117]) = true) (w : World) :
    Calls Try.prog 18 #[.string (bs x)] w fun e w' => e = .returned (.bool true) ∧ w = w' := by
  go_enter Try.func18, Try.ntmps18
  go_wp2
  go_ret
  exact ⟨rfl, rfl⟩
set_option maxHeartbeats 1000000 in
set_option maxRecDepth 100000 in
theorem phr_operator_6 (x : List UInt8) (q0 : ((bs x).toList == [100]) = false) (q1 : ((bs x).toList == [99]) = false) (q2 : ((bs x).toList == [121]) = false) (q3 : ((bs x).toList == [62]) = false) (q4 : ((bs x).toList == [60]) = false) (q5 : ((bs x).toList == [103, 117]) = false) (q6 : ((bs x).toList == [103, 85]) = true) (w : World) :
    Calls Try.prog 18 #[.string (bs x)] w fun e w' => e = .returned (.bool true) ∧ w = w' := by
  go_enter Try.func18, Try.ntmps18
  go_wp2
  go_ret
  exact ⟨rfl, rfl⟩
set_option maxHeartbeats 1000000 in
set_option maxRecDepth 100000 in
theorem phr_operator_7 (x : List UInt8) (q0 : ((bs x).toList == [100]) = false) (q1 : ((bs x).toList == [99]) = false) (q2 : ((bs x).toList == [121]) = false) (q3 : ((bs x).toList == [62]) = false) (q4 : ((bs x).toList == [60]) = false) (q5 : ((bs x).toList == [103, 117]) = false) (q6 : ((bs x).toList == [103, 85]) = false) (q7 : ((bs x).toList == [103, 126]) = true) (w : World) :
    Calls Try.prog 18 #[.string (bs x)] w fun e w' => e = .returned (.bool true) ∧ w = w' := by
  go_enter Try.func18, Try.ntmps18
  go_wp2
  go_ret
  exact ⟨rfl, rfl⟩
set_option maxHeartbeats 1000000 in
set_option maxRecDepth 100000 in
theorem phr_operator_8 (x : List UInt8) (q0 : ((bs x).toList == [100]) = false) (q1 : ((bs x).toList == [99]) = false) (q2 : ((bs x).toList == [121]) = false) (q3 : ((bs x).toList == [62]) = false) (q4 : ((bs x).toList == [60]) = false) (q5 : ((bs x).toList == [103, 117]) = false) (q6 : ((bs x).toList == [103, 85]) = false) (q7 : ((bs x).toList == [103, 126]) = false) (w : World) :
    Calls Try.prog 18 #[.string (bs x)] w fun e w' => e = .returned (.bool false) ∧ w = w' := by
  go_enter Try.func18, Try.ntmps18
  go_wp2
  go_ret
  exact ⟨rfl, rfl⟩
theorem phr_operator (x : List UInt8) (w : World) :
    Calls Try.prog 18 #[.string (bs x)] w fun e w' => e = .returned (.bool (decide (x ∈ Phr.opers))) ∧ w = w' := by
  rcases Bool.eq_false_or_eq_true ((bs x).toList == [100]) with q0 | q0
  · rw [show decide (x ∈ Phr.opers) = true by rw [Phr.yes q0]; decide]; exact phr_operator_0 x q0 w
  rcases Bool.eq_false_or_eq_true ((bs x).toList == [99]) with q1 | q1
  · rw [show decide (x ∈ Phr.opers) = true by rw [Phr.yes q1]; decide]; exact phr_operator_1 x q0 q1 w
  rcases Bool.eq_false_or_eq_true ((bs x).toList == [121]) with q2 | q2
  · rw [show decide (x ∈ Phr.opers) = true by rw [Phr.yes q2]; decide]; exact phr_operator_2 x q0 q1 q2 w
  rcases Bool.eq_false_or_eq_true ((bs x).toList == [62]) with q3 | q3
  · rw [show decide (x ∈ Phr.opers) = true by rw [Phr.yes q3]; decide]; exact phr_operator_3 x q0 q1 q2 q3 w
  rcases Bool.eq_false_or_eq_true ((bs x).toList == [60]) with q4 | q4
  · rw [show decide (x ∈ Phr.opers) = true by rw [Phr.yes q4]; decide]; exact phr_operator_4 x q0 q1 q2 q3 q4 w
  rcases Bool.eq_false_or_eq_true ((bs x).toList == [103, 117]) with q5 | q5
  · rw [show decide (x ∈ Phr.opers) = true by rw [Phr.yes q5]; decide]; exact phr_operator_5 x q0 q1 q2 q3 q4 q5 w
  rcases Bool.eq_false_or_eq_true ((bs x).toList == [103, 85]) with q6 | q6
  · rw [show decide (x ∈ Phr.opers) = true by rw [Phr.yes q6]; decide]; exact phr_operator_6 x q0 q1 q2 q3 q4 q5 q6 w
  rcases Bool.eq_false_or_eq_true ((bs x).toList == [103, 126]) with q7 | q7
  · rw [show decide (x ∈ Phr.opers) = true by rw [Phr.yes q7]; decide]; exact phr_operator_7 x q0 q1 q2 q3 q4 q5 q6 q7 w
  rw [show decide (x ∈ Phr.opers) = false by simp [Phr.opers, Phr.no q0, Phr.no q1, Phr.no q2, Phr.no q3, Phr.no q4, Phr.no q5, Phr.no q6, Phr.no q7]]
  exact phr_operator_8 x q0 q1 q2 q3 q4 q5 q6 q7 w
set_option maxHeartbeats 1000000 in
set_option maxRecDepth 100000 in
theorem phr_plain_0 {g : Nat} {w : World} {r n : Int} {ks : List (List UInt8)} {dry : Bool} {x : List UInt8} (h : Rdr g w ⟨r, n, [], [], []⟩ ks dry) (q0 : ((bs x).toList == [120]) = true) :
    Calls Try.prog 20 #[.pointer (some ⟨g, 0, none⟩), .string (bs x)] w (EndsAs g w (wet dry (Phr.last ⟨r, n, [100], [108], []⟩ ks))) := by
  have c2a := h.cell2
  have f2a := h.frozen 2
  simp only at c2a
  have Sa : Hid (Rdr g (w.setCell ⟨g, 2, none⟩ (.string ⟨#[100]⟩)) ⟨r, n, [100], [], []⟩ ks dry) := Lib.hid (h.set_ (fun v => rfl))
  have c3b := Sa.out.cell3
  have f3b := Sa.out.frozen 3
  simp only at c3b
  have Sb : Hid (Rdr g ((w.setCell ⟨g, 2, none⟩ (.string ⟨#[100]⟩)).setCell ⟨g, 3, none⟩ (.string ⟨#[108]⟩)) ⟨r, n, [100], [108], []⟩ ks dry) := Lib.hid (Sa.out.set_ (fun v => rfl))
  clear h
  go_enter Try.func20, Try.ntmps20
  go_wp2
  go_ret
  exact ⟨gb_trans (gb_set w g 2 (.string ⟨#[100]⟩)) (gb_set _ g 3 (.string ⟨#[108]⟩)), _, _, _, _, rfl, Sb.out, Phr.out_last _ _ _⟩
set_option maxHeartbeats 1000000 in
set_option maxRecDepth 100000 in
theorem phr_plain_1 {g : Nat} {w : World} {r n : Int} {ks : List (List UInt8)} {dry : Bool} {x : List UInt8} (h : Rdr g w ⟨r, n, [], [], []⟩ ks dry) (q0 : ((bs x).toList == [120]) = false) (q1 : ((bs x).toList == [88]) = true) :
    Calls Try.prog 20 #[.pointer (some ⟨g, 0, none⟩), .string (bs x)] w (EndsAs g w (wet dry (Phr.last ⟨r, n, [100], [104], []⟩ ks))) := by
  have c2a := h.cell2
  have f2a := h.frozen 2
  simp only at c2a
  have Sa : Hid (Rdr g (w.setCell ⟨g, 2, none⟩ (.string ⟨#[100]⟩)) ⟨r, n, [100], [], []⟩ ks dry) := Lib.hid (h.set_ (fun v => rfl))
  have c3b := Sa.out.cell3
  have f3b := Sa.out.frozen 3
  simp only at c3b
  have Sb : Hid (Rdr g ((w.setCell ⟨g, 2, none⟩ (.string ⟨#[100]⟩)).setCell ⟨g, 3, none⟩ (.string ⟨#[104]⟩)) ⟨r, n, [100], [104], []⟩ ks dry) := Lib.hid (Sa.out.set_ (fun v => rfl))
  clear h
  go_enter Try.func20, Try.ntmps20
  go_wp2
  go_ret
  exact ⟨gb_trans (gb_set w g 2 (.string ⟨#[100]⟩)) (gb_set _ g 3 (.string ⟨#[104]⟩)), _, _, _, _, rfl, Sb.out, Phr.out_last _ _ _⟩
set_option maxHeartbeats 1000000 in
set_option maxRecDepth 100000 in
theorem phr_plain_2 {g : Nat} {w : World} {r n : Int} {ks : List (List UInt8)} {dry : Bool} {x : List UInt8} (h : Rdr g w ⟨r, n, [], [], []⟩ ks dry) (q0 : ((bs x).toList == [120]) = false) (q1 : ((bs x).toList == [88]) = false) (q2 : ((bs x).toList == [68]) = true) :
    Calls Try.prog 20 #[.pointer (some ⟨g, 0, none⟩), .string (bs x)] w (EndsAs g w (wet dry (Phr.last ⟨r, n, [100], [36], []⟩ ks))) := by
  have c2a := h.cell2
  have f2a := h.frozen 2
  simp only at c2a
  have Sa : Hid (Rdr g (w.setCell ⟨g, 2, none⟩ (.string ⟨#[100]⟩)) ⟨r, n, [100], [], []⟩ ks dry) := Lib.hid (h.set_ (fun v => rfl))
  have c3b := Sa.out.cell3
  have f3b := Sa.out.frozen 3
  simp only at c3b
  have Sb : Hid (Rdr g ((w.setCell ⟨g, 2, none⟩ (.string ⟨#[100]⟩)).setCell ⟨g, 3, none⟩ (.string ⟨#[36]⟩)) ⟨r, n, [100], [36], []⟩ ks dry) := Lib.hid (Sa.out.set_ (fun v => rfl))
  clear h
  go_enter Try.func20, Try.ntmps20
  go_wp2
  go_ret
  exact ⟨gb_trans (gb_set w g 2 (.string ⟨#[100]⟩)) (gb_set _ g 3 (.string ⟨#[36]⟩)), _, _, _, _, rfl, Sb.out, Phr.out_last _ _ _⟩
set_option maxHeartbeats 1000000 in
set_option maxRecDepth 100000 in
theorem phr_plain_3 {g : Nat} {w : World} {r n : Int} {ks : List (List UInt8)} {dry : Bool} {x : List UInt8} (h : Rdr g w ⟨r, n, [], [], []⟩ ks dry) (q0 : ((bs x).toList == [120]) = false) (q1 : ((bs x).toList == [88]) = false) (q2 : ((bs x).toList == [68]) = false) (q3 : ((bs x).toList == [67]) = true) :
    Calls Try.prog 20 #[.pointer (some ⟨g, 0, none⟩), .string (bs x)] w (EndsAs g w (wet dry (Phr.last ⟨r, n, [99], [36], []⟩ ks))) := by
  have c2a := h.cell2
  have f2a := h.frozen 2
  simp only at c2a
  have Sa : Hid (Rdr g (w.setCell ⟨g, 2, none⟩ (.string ⟨#[99]⟩)) ⟨r, n, [99], [], []⟩ ks dry) := Lib.hid (h.set_ (fun v => rfl))
  have c3b := Sa.out.cell3
  have f3b := Sa.out.frozen 3
  simp only at c3b
  have Sb : Hid (Rdr g ((w.setCell ⟨g, 2, none⟩ (.string ⟨#[99]⟩)).setCell ⟨g, 3, none⟩ (.string ⟨#[36]⟩)) ⟨r, n, [99], [36], []⟩ ks dry) := Lib.hid (Sa.out.set_ (fun v => rfl))
  clear h
  go_enter Try.func20, Try.ntmps20
  go_wp2
  go_ret
  exact ⟨gb_trans (gb_set w g 2 (.string ⟨#[99]⟩)) (gb_set _ g 3 (.string ⟨#[36]⟩)), _, _, _, _, rfl, Sb.out, Phr.out_last _ _ _⟩
set_option maxHeartbeats 1000000 in
set_option maxRecDepth 100000 in
theorem phr_plain_4 {g : Nat} {w : World} {r n : Int} {ks : List (List UInt8)} {dry : Bool} {x : List UInt8} (h : Rdr g w ⟨r, n, [], [], []⟩ ks dry) (q0 : ((bs x).toList == [120]) = false) (q1 : ((bs x).toList == [88]) = false) (q2 : ((bs x).toList == [68]) = false) (q3 : ((bs x).toList == [67]) = false) (q4 : ((bs x).toList == [115]) = true) :
    Calls Try.prog 20 #[.pointer (some ⟨g, 0, none⟩), .string (bs x)] w (EndsAs g w (wet dry (Phr.last ⟨r, n, [99], [108], []⟩ ks))) := by
  have c2a := h.cell2
  have f2a := h.frozen 2
  simp only at c2a
  have Sa : Hid (Rdr g (w.setCell ⟨g, 2, none⟩ (.string ⟨#[99]⟩)) ⟨r, n, [99], [], []⟩ ks dry) := Lib.hid (h.set_ (fun v => rfl))
  have c3b := Sa.out.cell3
  have f3b := Sa.out.frozen 3
  simp only at c3b
  have Sb : Hid (Rdr g ((w.setCell ⟨g, 2, none⟩ (.string ⟨#[99]⟩)).setCell ⟨g, 3, none⟩ (.string ⟨#[108]⟩)) ⟨r, n, [99], [108], []⟩ ks dry) := Lib.hid (Sa.out.set_ (fun v => rfl))
  clear h
  go_enter Try.func20, Try.ntmps20
  go_wp2
  go_ret
  exact ⟨gb_trans (gb_set w g 2 (.string ⟨#[99]⟩)) (gb_set _ g 3 (.string ⟨#[108]⟩)), _, _, _, _, rfl, Sb.out, Phr.out_last _ _ _⟩
set_option maxHeartbeats 1000000 in
set_option maxRecDepth 100000 in
theorem phr_plain_5 {g : Nat} {w : World} {r n : Int} {ks : List (List UInt8)} {dry : Bool} {x : List UInt8} (h : Rdr g w ⟨r, n, [], [], []⟩ ks dry) (q0 : ((bs x).toList == [120]) = false) (q1 : ((bs x).toList == [88]) = false) (q2 : ((bs x).toList == [68]) = false) (q3 : ((bs x).toList == [67]) = false) (q4 : ((bs x).toList == [115]) = false) (q5 : ((bs x).toList == [83]) = true) :
    Calls Try.prog 20 #[.pointer (some ⟨g, 0, none⟩), .string (bs x)] w (EndsAs g w (wet dry (Phr.last ⟨r, n, [99], [108, 105, 110, 101], []⟩ ks))) := by
  have c2a := h.cell2
  have f2a := h.frozen 2
  simp only at c2a
  have Sa : Hid (Rdr g (w.setCell ⟨g, 2, none⟩ (.string ⟨#[99]⟩)) ⟨r, n, [99], [], []⟩ ks dry) := Lib.hid (h.set_ (fun v => rfl))
  have c3b := Sa.out.cell3
  have f3b := Sa.out.frozen 3
  simp only at c3b
  have Sb : Hid (Rdr g ((w.setCell ⟨g, 2, none⟩ (.string ⟨#[99]⟩)).setCell ⟨g, 3, none⟩ (.string ⟨#[108, 105, 110, 101]⟩)) ⟨r, n, [99], [108, 105, 110, 101], []⟩ ks dry) := Lib.hid (Sa.out.set_ (fun v => rfl))
  clear h
  go_enter Try.func20, Try.ntmps20
  go_wp2
  go_ret
  exact ⟨gb_trans (gb_set w g 2 (.string ⟨#[99]⟩)) (gb_set _ g 3 (.string ⟨#[108, 105, 110, 101]⟩)), _, _, _, _, rfl, Sb.out, Phr.out_last _ _ _⟩
set_option maxHeartbeats 1000000 in
set_option maxRecDepth 100000 in
theorem phr_plain_6 {g : Nat} {w : World} {r n : Int} {ks : List (List UInt8)} {dry : Bool} {x : List UInt8} (h : Rdr g w ⟨r, n, [], [], []⟩ ks dry) (q0 : ((bs x).toList == [120]) = false) (q1 : ((bs x).toList == [88]) = false) (q2 : ((bs x).toList == [68]) = false) (q3 : ((bs x).toList == [67]) = false) (q4 : ((bs x).toList == [115]) = false) (q5 : ((bs x).toList == [83]) = false) (q6 : ((bs x).toList == [89]) = true) :
    Calls Try.prog 20 #[.pointer (some ⟨g, 0, none⟩), .string (bs x)] w (EndsAs g w (wet dry (Phr.last ⟨r, n, [121], [108, 105, 110, 101], []⟩ ks))) := by
  have c2a := h.cell2
  have f2a := h.frozen 2
  simp only at c2a
  have Sa : Hid (Rdr g (w.setCell ⟨g, 2, none⟩ (.string ⟨#[121]⟩)) ⟨r, n, [121], [], []⟩ ks dry) := Lib.hid (h.set_ (fun v => rfl))
  have c3b := Sa.out.cell3
  have f3b := Sa.out.frozen 3
  simp only at c3b
  have Sb : Hid (Rdr g ((w.setCell ⟨g, 2, none⟩ (.string ⟨#[121]⟩)).setCell ⟨g, 3, none⟩ (.string ⟨#[108, 105, 110, 101]⟩)) ⟨r, n, [121], [108, 105, 110, 101], []⟩ ks dry) := Lib.hid (Sa.out.set_ (fun v => rfl))
  clear h
  go_enter Try.func20, Try.ntmps20
  go_wp2
  go_ret
  exact ⟨gb_trans (gb_set w g 2 (.string ⟨#[121]⟩)) (gb_set _ g 3 (.string ⟨#[108, 105, 110, 101]⟩)), _, _, _, _, rfl, Sb.out, Phr.out_last _ _ _⟩
set_option maxHeartbeats 1000000 in
set_option maxRecDepth 100000 in
theorem phr_plain_7 {g : Nat} {w : World} {r n : Int} {ks : List (List UInt8)} {dry : Bool} {x : List UInt8} (h : Rdr g w ⟨r, n, [], [], []⟩ ks dry) (q0 : ((bs x).toList == [120]) = false) (q1 : ((bs x).toList == [88]) = false) (q2 : ((bs x).toList == [68]) = false) (q3 : ((bs x).toList == [67]) = false) (q4 : ((bs x).toList == [115]) = false) (q5 : ((bs x).toList == [83]) = false) (q6 : ((bs x).toList == [89]) = false) (q7 : ((bs x).toList == [114]) = true) :
    Calls Try.prog 20 #[.pointer (some ⟨g, 0, none⟩), .string (bs x)] w (EndsAs g w (wet dry (Phr.behind ⟨r, n, [], x, []⟩ 2 ks))) := by
  have c3a := h.cell3
  have f3a := h.frozen 3
  simp only at c3a
  have Sa : Hid (Rdr g (w.setCell ⟨g, 3, none⟩ (.string (bs x))) ⟨r, n, [], x, []⟩ ks dry) := Lib.hid (h.set_ (fun v => rfl))
  have C := Lib.hid (phr_sign Sa.out)
  clear h
  go_enter Try.func20, Try.ntmps20
  go_wp2_with ((go_at_call 31; refine C.out.mono ?_; rintro e w1 ⟨g1, read, d1, c1, l1, rfl, h1, e1⟩))
  go_ret
  exact ⟨gb_trans (gb_set w g 3 (.string (bs x))) g1, _, _, _, _, rfl, h1, e1⟩
set_option maxHeartbeats 1000000 in
set_option maxRecDepth 100000 in
theorem phr_plain_8 {g : Nat} {w : World} {r n : Int} {ks : List (List UInt8)} {dry : Bool} {x : List UInt8} (h : Rdr g w ⟨r, n, [], [], []⟩ ks dry) (q0 : ((bs x).toList == [120]) = false) (q1 : ((bs x).toList == [88]) = false) (q2 : ((bs x).toList == [68]) = false) (q3 : ((bs x).toList == [67]) = false) (q4 : ((bs x).toList == [115]) = false) (q5 : ((bs x).toList == [83]) = false) (q6 : ((bs x).toList == [89]) = false) (q7 : ((bs x).toList == [114]) = false) (q8 : ((bs x).toList == [109]) = true) :
    Calls Try.prog 20 #[.pointer (some ⟨g, 0, none⟩), .string (bs x)] w (EndsAs g w (wet dry (Phr.behind ⟨r, n, [], x, []⟩ 3 ks))) := by
  have c3a := h.cell3
  have f3a := h.frozen 3
  simp only at c3a
  have Sa : Hid (Rdr g (w.setCell ⟨g, 3, none⟩ (.string (bs x))) ⟨r, n, [], x, []⟩ ks dry) := Lib.hid (h.set_ (fun v => rfl))
  have C := Lib.hid (phr_letter Sa.out)
  clear h
  go_enter Try.func20, Try.ntmps20
  go_wp2_with ((go_at_call 32; refine C.out.mono ?_; rintro e w1 ⟨g1, read, d1, c1, l1, rfl, h1, e1⟩))
  go_ret
  exact ⟨gb_trans (gb_set w g 3 (.string (bs x))) g1, _, _, _, _, rfl, h1, e1⟩
set_option maxHeartbeats 1000000 in
set_option maxRecDepth 100000 in
theorem phr_plain_9 {g : Nat} {w : World} {r n : Int} {ks : List (List UInt8)} {dry : Bool} {x : List UInt8} (h : Rdr g w ⟨r, n, [], [], []⟩ ks dry) (q0 : ((bs x).toList == [120]) = false) (q1 : ((bs x).toList == [88]) = false) (q2 : ((bs x).toList == [68]) = false) (q3 : ((bs x).toList == [67]) = false) (q4 : ((bs x).toList == [115]) = false) (q5 : ((bs x).toList == [83]) = false) (q6 : ((bs x).toList == [89]) = false) (q7 : ((bs x).toList == [114]) = false) (q8 : ((bs x).toList == [109]) = false) (q9 : ((bs x).toList == [112]) = true) :
    Calls Try.prog 20 #[.pointer (some ⟨g, 0, none⟩), .string (bs x)] w (EndsAs g w (wet dry (Phr.last ⟨r, n, [], x, []⟩ ks))) := by
  have c3a := h.cell3
  have f3a := h.frozen 3
  simp only at c3a
  have Sa : Hid (Rdr g (w.setCell ⟨g, 3, none⟩ (.string (bs x))) ⟨r, n, [], x, []⟩ ks dry) := Lib.hid (h.set_ (fun v => rfl))
  clear h
  go_enter Try.func20, Try.ntmps20
  go_wp2
  go_ret
  exact ⟨gb_set w g 3 (.string (bs x)), _, _, _, _, rfl, Sa.out, Phr.out_last _ _ _⟩
set_option maxHeartbeats 1000000 in
set_option maxRecDepth 100000 in
theorem phr_plain_10 {g : Nat} {w : World} {r n : Int} {ks : List (List UInt8)} {dry : Bool} {x : List UInt8} (h : Rdr g w ⟨r, n, [], [], []⟩ ks dry) (q0 : ((bs x).toList == [120]) = false) (q1 : ((bs x).toList == [88]) = false) (q2 : ((bs x).toList == [68]) = false) (q3 : ((bs x).toList == [67]) = false) (q4 : ((bs x).toList == [115]) = false) (q5 : ((bs x).toList == [83]) = false) (q6 : ((bs x).toList == [89]) = false) (q7 : ((bs x).toList == [114]) = false) (q8 : ((bs x).toList == [109]) = false) (q9 : ((bs x).toList == [112]) = false) (q10 : ((bs x).toList == [80]) = true) :
    Calls Try.prog 20 #[.pointer (some ⟨g, 0, none⟩), .string (bs x)] w (EndsAs g w (wet dry (Phr.last ⟨r, n, [], x, []⟩ ks))) := by
  have c3a := h.cell3
  have f3a := h.frozen 3
  simp only at c3a
  have Sa : Hid (Rdr g (w.setCell ⟨g, 3, none⟩ (.string (bs x))) ⟨r, n, [], x, []⟩ ks dry) := Lib.hid (h.set_ (fun v => rfl))
  clear h
  go_enter Try.func20, Try.ntmps20
  go_wp2
  go_ret
  exact ⟨gb_set w g 3 (.string (bs x)), _, _, _, _, rfl, Sa.out, Phr.out_last _ _ _⟩
set_option maxHeartbeats 1000000 in
set_option maxRecDepth 100000 in
theorem phr_plain_11 {g : Nat} {w : World} {r n : Int} {ks : List (List UInt8)} {dry : Bool} {x : List UInt8} (h : Rdr g w ⟨r, n, [], [], []⟩ ks dry) (q0 : ((bs x).toList == [120]) = false) (q1 : ((bs x).toList == [88]) = false) (q2 : ((bs x).toList == [68]) = false) (q3 : ((bs x).toList == [67]) = false) (q4 : ((bs x).toList == [115]) = false) (q5 : ((bs x).toList == [83]) = false) (q6 : ((bs x).toList == [89]) = false) (q7 : ((bs x).toList == [114]) = false) (q8 : ((bs x).toList == [109]) = false) (q9 : ((bs x).toList == [112]) = false) (q10 : ((bs x).toList == [80]) = false) (q11 : ((bs x).toList == [74]) = true) :
    Calls Try.prog 20 #[.pointer (some ⟨g, 0, none⟩), .string (bs x)] w (EndsAs g w (wet dry (Phr.last ⟨r, n, [], x, []⟩ ks))) := by
  have c3a := h.cell3
  have f3a := h.frozen 3
  simp only at c3a
  have Sa : Hid (Rdr g (w.setCell ⟨g, 3, none⟩ (.string (bs x))) ⟨r, n, [], x, []⟩ ks dry) := Lib.hid (h.set_ (fun v => rfl))
  clear h
  go_enter Try.func20, Try.ntmps20
  go_wp2
  go_ret
  exact ⟨gb_set w g 3 (.string (bs x)), _, _, _, _, rfl, Sa.out, Phr.out_last _ _ _⟩
set_option maxHeartbeats 1000000 in
set_option maxRecDepth 100000 in
theorem phr_plain_12 {g : Nat} {w : World} {r n : Int} {ks : List (List UInt8)} {dry : Bool} {x : List UInt8} (h : Rdr g w ⟨r, n, [], [], []⟩ ks dry) (q0 : ((bs x).toList == [120]) = false) (q1 : ((bs x).toList == [88]) = false) (q2 : ((bs x).toList == [68]) = false) (q3 : ((bs x).toList == [67]) = false) (q4 : ((bs x).toList == [115]) = false) (q5 : ((bs x).toList == [83]) = false) (q6 : ((bs x).toList == [89]) = false) (q7 : ((bs x).toList == [114]) = false) (q8 : ((bs x).toList == [109]) = false) (q9 : ((bs x).toList == [112]) = false) (q10 : ((bs x).toList == [80]) = false) (q11 : ((bs x).toList == [74]) = false) (q12 : ((bs x).toList == [126]) = true) :
    Calls Try.prog 20 #[.pointer (some ⟨g, 0, none⟩), .string (bs x)] w (EndsAs g w (wet dry (Phr.last ⟨r, n, [], x, []⟩ ks))) := by
  have c3a := h.cell3
  have f3a := h.frozen 3
  simp only at c3a
  have Sa : Hid (Rdr g (w.setCell ⟨g, 3, none⟩ (.string (bs x))) ⟨r, n, [], x, []⟩ ks dry) := Lib.hid (h.set_ (fun v => rfl))
  clear h
  go_enter Try.func20, Try.ntmps20
  go_wp2
  go_ret
  exact ⟨gb_set w g 3 (.string (bs x)), _, _, _, _, rfl, Sa.out, Phr.out_last _ _ _⟩
set_option maxHeartbeats 1000000 in
set_option maxRecDepth 100000 in
theorem phr_plain_13 {g : Nat} {w : World} {r n : Int} {ks : List (List UInt8)} {dry : Bool} {x : List UInt8} (h : Rdr g w ⟨r, n, [], [], []⟩ ks dry) (q0 : ((bs x).toList == [120]) = false) (q1 : ((bs x).toList == [88]) = false) (q2 : ((bs x).toList == [68]) = false) (q3 : ((bs x).toList == [67]) = false) (q4 : ((bs x).toList == [115]) = false) (q5 : ((bs x).toList == [83]) = false) (q6 : ((bs x).toList == [89]) = false) (q7 : ((bs x).toList == [114]) = false) (q8 : ((bs x).toList == [109]) = false) (q9 : ((bs x).toList == [112]) = false) (q10 : ((bs x).toList == [80]) = false) (q11 : ((bs x).toList == [74]) = false) (q12 : ((bs x).toList == [126]) = false) (q13 : ((bs x).toList == [117]) = true) :
    Calls Try.prog 20 #[.pointer (some ⟨g, 0, none⟩), .string (bs x)] w (EndsAs g w (wet dry (Phr.last ⟨r, n, [], x, []⟩ ks))) := by
  have c3a := h.cell3
  have f3a := h.frozen 3
  simp only at c3a
  have Sa : Hid (Rdr g (w.setCell ⟨g, 3, none⟩ (.string (bs x))) ⟨r, n, [], x, []⟩ ks dry) := Lib.hid (h.set_ (fun v => rfl))
  clear h
  go_enter Try.func20, Try.ntmps20
  go_wp2
  go_ret
  exact ⟨gb_set w g 3 (.string (bs x)), _, _, _, _, rfl, Sa.out, Phr.out_last _ _ _⟩
set_option maxHeartbeats 1000000 in
set_option maxRecDepth 100000 in
theorem phr_plain_14 {g : Nat} {w : World} {r n : Int} {ks : List (List UInt8)} {dry : Bool} {x : List UInt8} (h : Rdr g w ⟨r, n, [], [], []⟩ ks dry) (q0 : ((bs x).toList == [120]) = false) (q1 : ((bs x).toList == [88]) = false) (q2 : ((bs x).toList == [68]) = false) (q3 : ((bs x).toList == [67]) = false) (q4 : ((bs x).toList == [115]) = false) (q5 : ((bs x).toList == [83]) = false) (q6 : ((bs x).toList == [89]) = false) (q7 : ((bs x).toList == [114]) = false) (q8 : ((bs x).toList == [109]) = false) (q9 : ((bs x).toList == [112]) = false) (q10 : ((bs x).toList == [80]) = false) (q11 : ((bs x).toList == [74]) = false) (q12 : ((bs x).toList == [126]) = false) (q13 : ((bs x).toList == [117]) = false) (q14 : ((bs x).toList == [46]) = true) :
    Calls Try.prog 20 #[.pointer (some ⟨g, 0, none⟩), .string (bs x)] w (EndsAs g w (wet dry (Phr.last ⟨r, n, [], x, []⟩ ks))) := by
  have c3a := h.cell3
  have f3a := h.frozen 3
  simp only at c3a
  have Sa : Hid (Rdr g (w.setCell ⟨g, 3, none⟩ (.string (bs x))) ⟨r, n, [], x, []⟩ ks dry) := Lib.hid (h.set_ (fun v => rfl))
  clear h
  go_enter Try.func20, Try.ntmps20
  go_wp2
  go_ret
  exact ⟨gb_set w g 3 (.string (bs x)), _, _, _, _, rfl, Sa.out, Phr.out_last _ _ _⟩
set_option maxHeartbeats 1000000 in
set_option maxRecDepth 100000 in
theorem phr_plain_15 {g : Nat} {w : World} {r n : Int} {ks : List (List UInt8)} {dry : Bool} {x : List UInt8} (h : Rdr g w ⟨r, n, [], [], []⟩ ks dry) (q0 : ((bs x).toList == [120]) = false) (q1 : ((bs x).toList == [88]) = false) (q2 : ((bs x).toList == [68]) = false) (q3 : ((bs x).toList == [67]) = false) (q4 : ((bs x).toList == [115]) = false) (q5 : ((bs x).toList == [83]) = false) (q6 : ((bs x).toList == [89]) = false) (q7 : ((bs x).toList == [114]) = false) (q8 : ((bs x).toList == [109]) = false) (q9 : ((bs x).toList == [112]) = false) (q10 : ((bs x).toList == [80]) = false) (q11 : ((bs x).toList == [74]) = false) (q12 : ((bs x).toList == [126]) = false) (q13 : ((bs x).toList == [117]) = false) (q14 : ((bs x).toList == [46]) = false) (q15 : ((bs x).toList == [105]) = true) :
    Calls Try.prog 20 #[.pointer (some ⟨g, 0, none⟩), .string (bs x)] w (EndsAs g w (wet dry (Phr.last ⟨r, n, [], x, []⟩ ks))) := by
  have c3a := h.cell3
  have f3a := h.frozen 3
  simp only at c3a
  have Sa : Hid (Rdr g (w.setCell ⟨g, 3, none⟩ (.string (bs x))) ⟨r, n, [], x, []⟩ ks dry) := Lib.hid (h.set_ (fun v => rfl))
  clear h
  go_enter Try.func20, Try.ntmps20
  go_wp2
  go_ret
  exact ⟨gb_set w g 3 (.string (bs x)), _, _, _, _, rfl, Sa.out, Phr.out_last _ _ _⟩
set_option maxHeartbeats 1000000 in
set_option maxRecDepth 100000 in
theorem phr_plain_16 {g : Nat} {w : World} {r n : Int} {ks : List (List UInt8)} {dry : Bool} {x : List UInt8} (h : Rdr g w ⟨r, n, [], [], []⟩ ks dry) (q0 : ((bs x).toList == [120]) = false) (q1 : ((bs x).toList == [88]) = false) (q2 : ((bs x).toList == [68]) = false) (q3 : ((bs x).toList == [67]) = false) (q4 : ((bs x).toList == [115]) = false) (q5 : ((bs x).toList == [83]) = false) (q6 : ((bs x).toList == [89]) = false) (q7 : ((bs x).toList == [114]) = false) (q8 : ((bs x).toList == [109]) = false) (q9 : ((bs x).toList == [112]) = false) (q10 : ((bs x).toList == [80]) = false) (q11 : ((bs x).toList == [74]) = false) (q12 : ((bs x).toList == [126]) = false) (q13 : ((bs x).toList == [117]) = false) (q14 : ((bs x).toList == [46]) = false) (q15 : ((bs x).toList == [105]) = false) (q16 : ((bs x).toList == [97]) = true) :
    Calls Try.prog 20 #[.pointer (some ⟨g, 0, none⟩), .string (bs x)] w (EndsAs g w (wet dry (Phr.last ⟨r, n, [], x, []⟩ ks))) := by
  have c3a := h.cell3
  have f3a := h.frozen 3
  simp only at c3a
  have Sa : Hid (Rdr g (w.setCell ⟨g, 3, none⟩ (.string (bs x))) ⟨r, n, [], x, []⟩ ks dry) := Lib.hid (h.set_ (fun v => rfl))
  clear h
  go_enter Try.func20, Try.ntmps20
  go_wp2
  go_ret
  exact ⟨gb_set w g 3 (.string (bs x)), _, _, _, _, rfl, Sa.out, Phr.out_last _ _ _⟩
set_option maxHeartbeats 1000000 in
set_option maxRecDepth 100000 in
theorem phr_plain_17 {g : Nat} {w : World} {r n : Int} {ks : List (List UInt8)} {dry : Bool} {x : List UInt8} (h : Rdr g w ⟨r, n, [], [], []⟩ ks dry) (q0 : ((bs x).toList == [120]) = false) (q1 : ((bs x).toList == [88]) = false) (q2 : ((bs x).toList == [68]) = false) (q3 : ((bs x).toList == [67]) = false) (q4 : ((bs x).toList == [115]) = false) (q5 : ((bs x).toList == [83]) = false) (q6 : ((bs x).toList == [89]) = false) (q7 : ((bs x).toList == [114]) = false) (q8 : ((bs x).toList == [109]) = false) (q9 : ((bs x).toList == [112]) = false) (q10 : ((bs x).toList == [80]) = false) (q11 : ((bs x).toList == [74]) = false) (q12 : ((bs x).toList == [126]) = false) (q13 : ((bs x).toList == [117]) = false) (q14 : ((bs x).toList == [46]) = false) (q15 : ((bs x).toList == [105]) = false) (q16 : ((bs x).toList == [97]) = false) (q17 : ((bs x).toList == [73]) = true) :
    Calls Try.prog 20 #[.pointer (some ⟨g, 0, none⟩), .string (bs x)] w (EndsAs g w (wet dry (Phr.last ⟨r, n, [], x, []⟩ ks))) := by
  have c3a := h.cell3
  have f3a := h.frozen 3
  simp only at c3a
  have Sa : Hid (Rdr g (w.setCell ⟨g, 3, none⟩ (.string (bs x))) ⟨r, n, [], x, []⟩ ks dry) := Lib.hid (h.set_ (fun v => rfl))
  clear h
  go_enter Try.func20, Try.ntmps20
  go_wp2
  go_ret
  exact ⟨gb_set w g 3 (.string (bs x)), _, _, _, _, rfl, Sa.out, Phr.out_last _ _ _⟩
set_option maxHeartbeats 1000000 in
set_option maxRecDepth 100000 in
theorem phr_plain_18 {g : Nat} {w : World} {r n : Int} {ks : List (List UInt8)} {dry : Bool} {x : List UInt8} (h : Rdr g w ⟨r, n, [], [], []⟩ ks dry) (q0 : ((bs x).toList == [120]) = false) (q1 : ((bs x).toList == [88]) = false) (q2 : ((bs x).toList == [68]) = false) (q3 : ((bs x).toList == [67]) = false) (q4 : ((bs x).toList == [115]) = false) (q5 : ((bs x).toList == [83]) = false) (q6 : ((bs x).toList == [89]) = false) (q7 : ((bs x).toList == [114]) = false) (q8 : ((bs x).toList == [109]) = false) (q9 : ((bs x).toList == [112]) = false) (q10 : ((bs x).toList == [80]) = false) (q11 : ((bs x).toList == [74]) = false) (q12 : ((bs x).toList == [126]) = false) (q13 : ((bs x).toList == [117]) = false) (q14 : ((bs x).toList == [46]) = false) (q15 : ((bs x).toList == [105]) = false) (q16 : ((bs x).toList == [97]) = false) (q17 : ((bs x).toList == [73]) = false) (q18 : ((bs x).toList == [65]) = true) :
    Calls Try.prog 20 #[.pointer (some ⟨g, 0, none⟩), .string (bs x)] w (EndsAs g w (wet dry (Phr.last ⟨r, n, [], x, []⟩ ks))) := by
  have c3a := h.cell3
  have f3a := h.frozen 3
  simp only at c3a
  have Sa : Hid (Rdr g (w.setCell ⟨g, 3, none⟩ (.string (bs x))) ⟨r, n, [], x, []⟩ ks dry) := Lib.hid (h.set_ (fun v => rfl))
  clear h
  go_enter Try.func20, Try.ntmps20
  go_wp2
  go_ret
  exact ⟨gb_set w g 3 (.string (bs x)), _, _, _, _, rfl, Sa.out, Phr.out_last _ _ _⟩
set_option maxHeartbeats 1000000 in
set_option maxRecDepth 100000 in
theorem phr_plain_19 {g : Nat} {w : World} {r n : Int} {ks : List (List UInt8)} {dry : Bool} {x : List UInt8} (h : Rdr g w ⟨r, n, [], [], []⟩ ks dry) (q0 : ((bs x).toList == [120]) = false) (q1 : ((bs x).toList == [88]) = false) (q2 : ((bs x).toList == [68]) = false) (q3 : ((bs x).toList == [67]) = false) (q4 : ((bs x).toList == [115]) = false) (q5 : ((bs x).toList == [83]) = false) (q6 : ((bs x).toList == [89]) = false) (q7 : ((bs x).toList == [114]) = false) (q8 : ((bs x).toList == [109]) = false) (q9 : ((bs x).toList == [112]) = false) (q10 : ((bs x).toList == [80]) = false) (q11 : ((bs x).toList == [74]) = false) (q12 : ((bs x).toList == [126]) = false) (q13 : ((bs x).toList == [117]) = false) (q14 : ((bs x).toList == [46]) = false) (q15 : ((bs x).toList == [105]) = false) (q16 : ((bs x).toList == [97]) = false) (q17 : ((bs x).toList == [73]) = false) (q18 : ((bs x).toList == [65]) = false) (q19 : ((bs x).toList == [111]) = true) :
    Calls Try.prog 20 #[.pointer (some ⟨g, 0, none⟩), .string (bs x)] w (EndsAs g w (wet dry (Phr.last ⟨r, n, [], x, []⟩ ks))) := by
  have c3a := h.cell3
  have f3a := h.frozen 3
  simp only at c3a
  have Sa : Hid (Rdr g (w.setCell ⟨g, 3, none⟩ (.string (bs x))) ⟨r, n, [], x, []⟩ ks dry) := Lib.hid (h.set_ (fun v => rfl))
  clear h
  go_enter Try.func20, Try.ntmps20
  go_wp2
  go_ret
  exact ⟨gb_set w g 3 (.string (bs x)), _, _, _, _, rfl, Sa.out, Phr.out_last _ _ _⟩
set_option maxHeartbeats 1000000 in
set_option maxRecDepth 100000 in
theorem phr_plain_20 {g : Nat} {w : World} {r n : Int} {ks : List (List UInt8)} {dry : Bool} {x : List UInt8} (h : Rdr g w ⟨r, n, [], [], []⟩ ks dry) (q0 : ((bs x).toList == [120]) = false) (q1 : ((bs x).toList == [88]) = false) (q2 : ((bs x).toList == [68]) = false) (q3 : ((bs x).toList == [67]) = false) (q4 : ((bs x).toList == [115]) = false) (q5 : ((bs x).toList == [83]) = false) (q6 : ((bs x).toList == [89]) = false) (q7 : ((bs x).toList == [114]) = false) (q8 : ((bs x).toList == [109]) = false) (q9 : ((bs x).toList == [112]) = false) (q10 : ((bs x).toList == [80]) = false) (q11 : ((bs x).toList == [74]) = false) (q12 : ((bs x).toList == [126]) = false) (q13 : ((bs x).toList == [117]) = false) (q14 : ((bs x).toList == [46]) = false) (q15 : ((bs x).toList == [105]) = false) (q16 : ((bs x).toList == [97]) = false) (q17 : ((bs x).toList == [73]) = false) (q18 : ((bs x).toList == [65]) = false) (q19 : ((bs x).toList == [111]) = false) (q20 : ((bs x).toList == [79]) = true) :
    Calls Try.prog 20 #[.pointer (some ⟨g, 0, none⟩), .string (bs x)] w (EndsAs g w (wet dry (Phr.last ⟨r, n, [], x, []⟩ ks))) := by
  have c3a := h.cell3
  have f3a := h.frozen 3
  simp only at c3a
  have Sa : Hid (Rdr g (w.setCell ⟨g, 3, none⟩ (.string (bs x))) ⟨r, n, [], x, []⟩ ks dry) := Lib.hid (h.set_ (fun v => rfl))
  clear h
  go_enter Try.func20, Try.ntmps20
  go_wp2
  go_ret
  exact ⟨gb_set w g 3 (.string (bs x)), _, _, _, _, rfl, Sa.out, Phr.out_last _ _ _⟩
set_option maxHeartbeats 1000000 in
set_option maxRecDepth 100000 in
theorem phr_plain_21 {g : Nat} {w : World} {r n : Int} {ks : List (List UInt8)} {dry : Bool} {x : List UInt8} (h : Rdr g w ⟨r, n, [], [], []⟩ ks dry) (q0 : ((bs x).toList == [120]) = false) (q1 : ((bs x).toList == [88]) = false) (q2 : ((bs x).toList == [68]) = false) (q3 : ((bs x).toList == [67]) = false) (q4 : ((bs x).toList == [115]) = false) (q5 : ((bs x).toList == [83]) = false) (q6 : ((bs x).toList == [89]) = false) (q7 : ((bs x).toList == [114]) = false) (q8 : ((bs x).toList == [109]) = false) (q9 : ((bs x).toList == [112]) = false) (q10 : ((bs x).toList == [80]) = false) (q11 : ((bs x).toList == [74]) = false) (q12 : ((bs x).toList == [126]) = false) (q13 : ((bs x).toList == [117]) = false) (q14 : ((bs x).toList == [46]) = false) (q15 : ((bs x).toList == [105]) = false) (q16 : ((bs x).toList == [97]) = false) (q17 : ((bs x).toList == [73]) = false) (q18 : ((bs x).toList == [65]) = false) (q19 : ((bs x).toList == [111]) = false) (q20 : ((bs x).toList == [79]) = false) (q21 : ((bs x).toList == [118]) = true) :
    Calls Try.prog 20 #[.pointer (some ⟨g, 0, none⟩), .string (bs x)] w (EndsAs g w (wet dry (Phr.last ⟨r, n, [], x, []⟩ ks))) := by
  have c3a := h.cell3
  have f3a := h.frozen 3
  simp only at c3a
  have Sa : Hid (Rdr g (w.setCell ⟨g, 3, none⟩ (.string (bs x))) ⟨r, n, [], x, []⟩ ks dry) := Lib.hid (h.set_ (fun v => rfl))
  clear h
  go_enter Try.func20, Try.ntmps20
  go_wp2
  go_ret
  exact ⟨gb_set w g 3 (.string (bs x)), _, _, _, _, rfl, Sa.out, Phr.out_last _ _ _⟩
set_option maxHeartbeats 1000000 in
set_option maxRecDepth 100000 in
theorem phr_plain_22 {g : Nat} {w : World} {r n : Int} {ks : List (List UInt8)} {dry : Bool} {x : List UInt8} (h : Rdr g w ⟨r, n, [], [], []⟩ ks dry) (q0 : ((bs x).toList == [120]) = false) (q1 : ((bs x).toList == [88]) = false) (q2 : ((bs x).toList == [68]) = false) (q3 : ((bs x).toList == [67]) = false) (q4 : ((bs x).toList == [115]) = false) (q5 : ((bs x).toList == [83]) = false) (q6 : ((bs x).toList == [89]) = false) (q7 : ((bs x).toList == [114]) = false) (q8 : ((bs x).toList == [109]) = false) (q9 : ((bs x).toList == [112]) = false) (q10 : ((bs x).toList == [80]) = false) (q11 : ((bs x).toList == [74]) = false) (q12 : ((bs x).toList == [126]) = false) (q13 : ((bs x).toList == [117]) = false) (q14 : ((bs x).toList == [46]) = false) (q15 : ((bs x).toList == [105]) = false) (q16 : ((bs x).toList == [97]) = false) (q17 : ((bs x).toList == [73]) = false) (q18 : ((bs x).toList == [65]) = false) (q19 : ((bs x).toList == [111]) = false) (q20 : ((bs x).toList == [79]) = false) (q21 : ((bs x).toList == [118]) = false) (q22 : ((bs x).toList == [86]) = true) :
    Calls Try.prog 20 #[.pointer (some ⟨g, 0, none⟩), .string (bs x)] w (EndsAs g w (wet dry (Phr.last ⟨r, n, [], x, []⟩ ks))) := by
  have c3a := h.cell3
  have f3a := h.frozen 3
  simp only at c3a
  have Sa : Hid (Rdr g (w.setCell ⟨g, 3, none⟩ (.string (bs x))) ⟨r, n, [], x, []⟩ ks dry) := Lib.hid (h.set_ (fun v => rfl))
  clear h
  go_enter Try.func20, Try.ntmps20
  go_wp2
  go_ret
  exact ⟨gb_set w g 3 (.string (bs x)), _, _, _, _, rfl, Sa.out, Phr.out_last _ _ _⟩
set_option maxHeartbeats 1000000 in
set_option maxRecDepth 100000 in
theorem phr_plain_23 {g : Nat} {w : World} {r n : Int} {ks : List (List UInt8)} {dry : Bool} {x : List UInt8} (h : Rdr g w ⟨r, n, [], [], []⟩ ks dry) (q0 : ((bs x).toList == [120]) = false) (q1 : ((bs x).toList == [88]) = false) (q2 : ((bs x).toList == [68]) = false) (q3 : ((bs x).toList == [67]) = false) (q4 : ((bs x).toList == [115]) = false) (q5 : ((bs x).toList == [83]) = false) (q6 : ((bs x).toList == [89]) = false) (q7 : ((bs x).toList == [114]) = false) (q8 : ((bs x).toList == [109]) = false) (q9 : ((bs x).toList == [112]) = false) (q10 : ((bs x).toList == [80]) = false) (q11 : ((bs x).toList == [74]) = false) (q12 : ((bs x).toList == [126]) = false) (q13 : ((bs x).toList == [117]) = false) (q14 : ((bs x).toList == [46]) = false) (q15 : ((bs x).toList == [105]) = false) (q16 : ((bs x).toList == [97]) = false) (q17 : ((bs x).toList == [73]) = false) (q18 : ((bs x).toList == [65]) = false) (q19 : ((bs x).toList == [111]) = false) (q20 : ((bs x).toList == [79]) = false) (q21 : ((bs x).toList == [118]) = false) (q22 : ((bs x).toList == [86]) = false) (q23 : ((bs x).toList == [58]) = true) :
    Calls Try.prog 20 #[.pointer (some ⟨g, 0, none⟩), .string (bs x)] w (EndsAs g w (wet dry (Phr.last ⟨r, n, [], x, []⟩ ks))) := by
  have c3a := h.cell3
  have f3a := h.frozen 3
  simp only at c3a
  have Sa : Hid (Rdr g (w.setCell ⟨g, 3, none⟩ (.string (bs x))) ⟨r, n, [], x, []⟩ ks dry) := Lib.hid (h.set_ (fun v => rfl))
  clear h
  go_enter Try.func20, Try.ntmps20
  go_wp2
  go_ret
  exact ⟨gb_set w g 3 (.string (bs x)), _, _, _, _, rfl, Sa.out, Phr.out_last _ _ _⟩
set_option maxHeartbeats 1000000 in
set_option maxRecDepth 100000 in
theorem phr_plain_24 {g : Nat} {w : World} {r n : Int} {ks : List (List UInt8)} {dry : Bool} {x : List UInt8} (h : Rdr g w ⟨r, n, [], [], []⟩ ks dry) (q0 : ((bs x).toList == [120]) = false) (q1 : ((bs x).toList == [88]) = false) (q2 : ((bs x).toList == [68]) = false) (q3 : ((bs x).toList == [67]) = false) (q4 : ((bs x).toList == [115]) = false) (q5 : ((bs x).toList == [83]) = false) (q6 : ((bs x).toList == [89]) = false) (q7 : ((bs x).toList == [114]) = false) (q8 : ((bs x).toList == [109]) = false) (q9 : ((bs x).toList == [112]) = false) (q10 : ((bs x).toList == [80]) = false) (q11 : ((bs x).toList == [74]) = false) (q12 : ((bs x).toList == [126]) = false) (q13 : ((bs x).toList == [117]) = false) (q14 : ((bs x).toList == [46]) = false) (q15 : ((bs x).toList == [105]) = false) (q16 : ((bs x).toList == [97]) = false) (q17 : ((bs x).toList == [73]) = false) (q18 : ((bs x).toList == [65]) = false) (q19 : ((bs x).toList == [111]) = false) (q20 : ((bs x).toList == [79]) = false) (q21 : ((bs x).toList == [118]) = false) (q22 : ((bs x).toList == [86]) = false) (q23 : ((bs x).toList == [58]) = false) (q24 : ((bs x).toList == [47]) = true) :
    Calls Try.prog 20 #[.pointer (some ⟨g, 0, none⟩), .string (bs x)] w (EndsAs g w (wet dry (Phr.last ⟨r, n, [], x, []⟩ ks))) := by
  have c3a := h.cell3
  have f3a := h.frozen 3
  simp only at c3a
  have Sa : Hid (Rdr g (w.setCell ⟨g, 3, none⟩ (.string (bs x))) ⟨r, n, [], x, []⟩ ks dry) := Lib.hid (h.set_ (fun v => rfl))
  clear h
  go_enter Try.func20, Try.ntmps20
  go_wp2
  go_ret
  exact ⟨gb_set w g 3 (.string (bs x)), _, _, _, _, rfl, Sa.out, Phr.out_last _ _ _⟩
set_option maxHeartbeats 1000000 in
set_option maxRecDepth 100000 in
theorem phr_plain_25 {g : Nat} {w : World} {r n : Int} {ks : List (List UInt8)} {dry : Bool} {x : List UInt8} (h : Rdr g w ⟨r, n, [], [], []⟩ ks dry) (q0 : ((bs x).toList == [120]) = false) (q1 : ((bs x).toList == [88]) = false) (q2 : ((bs x).toList == [68]) = false) (q3 : ((bs x).toList == [67]) = false) (q4 : ((bs x).toList == [115]) = false) (q5 : ((bs x).toList == [83]) = false) (q6 : ((bs x).toList == [89]) = false) (q7 : ((bs x).toList == [114]) = false) (q8 : ((bs x).toList == [109]) = false) (q9 : ((bs x).toList == [112]) = false) (q10 : ((bs x).toList == [80]) = false) (q11 : ((bs x).toList == [74]) = false) (q12 : ((bs x).toList == [126]) = false) (q13 : ((bs x).toList == [117]) = false) (q14 : ((bs x).toList == [46]) = false) (q15 : ((bs x).toList == [105]) = false) (q16 : ((bs x).toList == [97]) = false) (q17 : ((bs x).toList == [73]) = false) (q18 : ((bs x).toList == [65]) = false) (q19 : ((bs x).toList == [111]) = false) (q20 : ((bs x).toList == [79]) = false) (q21 : ((bs x).toList == [118]) = false) (q22 : ((bs x).toList == [86]) = false) (q23 : ((bs x).toList == [58]) = false) (q24 : ((bs x).toList == [47]) = false) (q25 : ((bs x).toList == [63]) = true) :
    Calls Try.prog 20 #[.pointer (some ⟨g, 0, none⟩), .string (bs x)] w (EndsAs g w (wet dry (Phr.last ⟨r, n, [], x, []⟩ ks))) := by
  have c3a := h.cell3
  have f3a := h.frozen 3
  simp only at c3a
  have Sa : Hid (Rdr g (w.setCell ⟨g, 3, none⟩ (.string (bs x))) ⟨r, n, [], x, []⟩ ks dry) := Lib.hid (h.set_ (fun v => rfl))
  clear h
  go_enter Try.func20, Try.ntmps20
  go_wp2
  go_ret
  exact ⟨gb_set w g 3 (.string (bs x)), _, _, _, _, rfl, Sa.out, Phr.out_last _ _ _⟩
set_option maxHeartbeats 1000000 in
set_option maxRecDepth 100000 in
theorem phr_plain_26 {g : Nat} {w : World} {r n : Int} {ks : List (List UInt8)} {dry : Bool} {x : List UInt8} (h : Rdr g w ⟨r, n, [], [], []⟩ ks dry) (q0 : ((bs x).toList == [120]) = false) (q1 : ((bs x).toList == [88]) = false) (q2 : ((bs x).toList == [68]) = false) (q3 : ((bs x).toList == [67]) = false) (q4 : ((bs x).toList == [115]) = false) (q5 : ((bs x).toList == [83]) = false) (q6 : ((bs x).toList == [89]) = false) (q7 : ((bs x).toList == [114]) = false) (q8 : ((bs x).toList == [109]) = false) (q9 : ((bs x).toList == [112]) = false) (q10 : ((bs x).toList == [80]) = false) (q11 : ((bs x).toList == [74]) = false) (q12 : ((bs x).toList == [126]) = false) (q13 : ((bs x).toList == [117]) = false) (q14 : ((bs x).toList == [46]) = false) (q15 : ((bs x).toList == [105]) = false) (q16 : ((bs x).toList == [97]) = false) (q17 : ((bs x).toList == [73]) = false) (q18 : ((bs x).toList == [65]) = false) (q19 : ((bs x).toList == [111]) = false) (q20 : ((bs x).toList == [79]) = false) (q21 : ((bs x).toList == [118]) = false) (q22 : ((bs x).toList == [86]) = false) (q23 : ((bs x).toList == [58]) = false) (q24 : ((bs x).toList == [47]) = false) (q25 : ((bs x).toList == [63]) = false) (q26 : ((bs x).toList == [18]) = true) :
    Calls Try.prog 20 #[.pointer (some ⟨g, 0, none⟩), .string (bs x)] w (EndsAs g w (wet dry (Phr.last ⟨r, n, [], x, []⟩ ks))) := by
  have c3a := h.cell3
  have f3a := h.frozen 3
  simp only at c3a
  have Sa : Hid (Rdr g (w.setCell ⟨g, 3, none⟩ (.string (bs x))) ⟨r, n, [], x, []⟩ ks dry) := Lib.hid (h.set_ (fun v => rfl))
  clear h
  go_enter Try.func20, Try.ntmps20
  go_wp2
  go_ret
  exact ⟨gb_set w g 3 (.string (bs x)), _, _, _, _, rfl, Sa.out, Phr.out_last _ _ _⟩
set_option maxHeartbeats 1000000 in
set_option maxRecDepth 100000 in
theorem phr_plain_27 {g : Nat} {w : World} {r n : Int} {ks : List (List UInt8)} {dry : Bool} {x : List UInt8} (h : Rdr g w ⟨r, n, [], [], []⟩ ks dry) (q0 : ((bs x).toList == [120]) = false) (q1 : ((bs x).toList == [88]) = false) (q2 : ((bs x).toList == [68]) = false) (q3 : ((bs x).toList == [67]) = false) (q4 : ((bs x).toList == [115]) = false) (q5 : ((bs x).toList == [83]) = false) (q6 : ((bs x).toList == [89]) = false) (q7 : ((bs x).toList == [114]) = false) (q8 : ((bs x).toList == [109]) = false) (q9 : ((bs x).toList == [112]) = false) (q10 : ((bs x).toList == [80]) = false) (q11 : ((bs x).toList == [74]) = false) (q12 : ((bs x).toList == [126]) = false) (q13 : ((bs x).toList == [117]) = false) (q14 : ((bs x).toList == [46]) = false) (q15 : ((bs x).toList == [105]) = false) (q16 : ((bs x).toList == [97]) = false) (q17 : ((bs x).toList == [73]) = false) (q18 : ((bs x).toList == [65]) = false) (q19 : ((bs x).toList == [111]) = false) (q20 : ((bs x).toList == [79]) = false) (q21 : ((bs x).toList == [118]) = false) (q22 : ((bs x).toList == [86]) = false) (q23 : ((bs x).toList == [58]) = false) (q24 : ((bs x).toList == [47]) = false) (q25 : ((bs x).toList == [63]) = false) (q26 : ((bs x).toList == [18]) = false) (q27 : ((bs x).toList == [103, 45]) = true) :
    Calls Try.prog 20 #[.pointer (some ⟨g, 0, none⟩), .string (bs x)] w (EndsAs g w (wet dry (Phr.last ⟨r, n, [], x, []⟩ ks))) := by
  have c3a := h.cell3
  have f3a := h.frozen 3
  simp only at c3a
  have Sa : Hid (Rdr g (w.setCell ⟨g, 3, none⟩ (.string (bs x))) ⟨r, n, [], x, []⟩ ks dry) := Lib.hid (h.set_ (fun v => rfl))
  clear h
  go_enter Try.func20, Try.ntmps20
  go_wp2
  go_ret
  exact ⟨gb_set w g 3 (.string (bs x)), _, _, _, _, rfl, Sa.out, Phr.out_last _ _ _⟩
set_option maxHeartbeats 1000000 in
set_option maxRecDepth 100000 in
theorem phr_plain_28 {g : Nat} {w : World} {r n : Int} {ks : List (List UInt8)} {dry : Bool} {x : List UInt8} (h : Rdr g w ⟨r, n, [], [], []⟩ ks dry) (q0 : ((bs x).toList == [120]) = false) (q1 : ((bs x).toList == [88]) = false) (q2 : ((bs x).toList == [68]) = false) (q3 : ((bs x).toList == [67]) = false) (q4 : ((bs x).toList == [115]) = false) (q5 : ((bs x).toList == [83]) = false) (q6 : ((bs x).toList == [89]) = false) (q7 : ((bs x).toList == [114]) = false) (q8 : ((bs x).toList == [109]) = false) (q9 : ((bs x).toList == [112]) = false) (q10 : ((bs x).toList == [80]) = false) (q11 : ((bs x).toList == [74]) = false) (q12 : ((bs x).toList == [126]) = false) (q13 : ((bs x).toList == [117]) = false) (q14 : ((bs x).toList == [46]) = false) (q15 : ((bs x).toList == [105]) = false) (q16 : ((bs x).toList == [97]) = false) (q17 : ((bs x).toList == [73]) = false) (q18 : ((bs x).toList == [65]) = false) (q19 : ((bs x).toList == [111]) = false) (q20 : ((bs x).toList == [79]) = false) (q21 : ((bs x).toList == [118]) = false) (q22 : ((bs x).toList == [86]) = false) (q23 : ((bs x).toList == [58]) = false) (q24 : ((bs x).toList == [47]) = false) (q25 : ((bs x).toList == [63]) = false) (q26 : ((bs x).toList == [18]) = false) (q27 : ((bs x).toList == [103, 45]) = false) (q28 : ((bs x).toList == [103, 43]) = true) :
    Calls Try.prog 20 #[.pointer (some ⟨g, 0, none⟩), .string (bs x)] w (EndsAs g w (wet dry (Phr.last ⟨r, n, [], x, []⟩ ks))) := by
  have c3a := h.cell3
  have f3a := h.frozen 3
  simp only at c3a
  have Sa : Hid (Rdr g (w.setCell ⟨g, 3, none⟩ (.string (bs x))) ⟨r, n, [], x, []⟩ ks dry) := Lib.hid (h.set_ (fun v => rfl))
  clear h
  go_enter Try.func20, Try.ntmps20
  go_wp2
  go_ret
  exact ⟨gb_set w g 3 (.string (bs x)), _, _, _, _, rfl, Sa.out, Phr.out_last _ _ _⟩
set_option maxHeartbeats 1000000 in
set_option maxRecDepth 100000 in
theorem phr_plain_29 {g : Nat} {w : World} {r n : Int} {ks : List (List UInt8)} {dry : Bool} {x : List UInt8} (h : Rdr g w ⟨r, n, [], [], []⟩ ks dry) (q0 : ((bs x).toList == [120]) = false) (q1 : ((bs x).toList == [88]) = false) (q2 : ((bs x).toList == [68]) = false) (q3 : ((bs x).toList == [67]) = false) (q4 : ((bs x).toList == [115]) = false) (q5 : ((bs x).toList == [83]) = false) (q6 : ((bs x).toList == [89]) = false) (q7 : ((bs x).toList == [114]) = false) (q8 : ((bs x).toList == [109]) = false) (q9 : ((bs x).toList == [112]) = false) (q10 : ((bs x).toList == [80]) = false) (q11 : ((bs x).toList == [74]) = false) (q12 : ((bs x).toList == [126]) = false) (q13 : ((bs x).toList == [117]) = false) (q14 : ((bs x).toList == [46]) = false) (q15 : ((bs x).toList == [105]) = false) (q16 : ((bs x).toList == [97]) = false) (q17 : ((bs x).toList == [73]) = false) (q18 : ((bs x).toList == [65]) = false) (q19 : ((bs x).toList == [111]) = false) (q20 : ((bs x).toList == [79]) = false) (q21 : ((bs x).toList == [118]) = false) (q22 : ((bs x).toList == [86]) = false) (q23 : ((bs x).toList == [58]) = false) (q24 : ((bs x).toList == [47]) = false) (q25 : ((bs x).toList == [63]) = false) (q26 : ((bs x).toList == [18]) = false) (q27 : ((bs x).toList == [103, 45]) = false) (q28 : ((bs x).toList == [103, 43]) = false) :
    Calls Try.prog 20 #[.pointer (some ⟨g, 0, none⟩), .string (bs x)] w (EndsAs g w (wet dry (Phr.bad))) := by
  have S := Lib.hid h
  clear h
  go_enter Try.func20, Try.ntmps20
  go_wp2
  go_ret
  exact ⟨gb_drewN w 0 _, _, _, _, _, rfl, S.out, Phr.out_bad _ _ _⟩
theorem phr_plain {g : Nat} {w : World} {r n : Int} {ks : List (List UInt8)} {dry : Bool} {x : List UInt8} (h : Rdr g w ⟨r, n, [], [], []⟩ ks dry) (hx : x ∉ Phr.opers) :
    Calls Try.prog 20 #[.pointer (some ⟨g, 0, none⟩), .string (bs x)] w (EndsAs g w (wet dry (Phr.does ⟨r, n, [], [], []⟩ (Phr.plain x) ks))) := by
  rcases Bool.eq_false_or_eq_true ((bs x).toList == [120]) with q0 | q0
  · obtain rfl := Phr.yes q0; exact phr_plain_0 h q0
  rcases Bool.eq_false_or_eq_true ((bs x).toList == [88]) with q1 | q1
  · obtain rfl := Phr.yes q1; exact phr_plain_1 h q0 q1
  rcases Bool.eq_false_or_eq_true ((bs x).toList == [68]) with q2 | q2
  · obtain rfl := Phr.yes q2; exact phr_plain_2 h q0 q1 q2
  rcases Bool.eq_false_or_eq_true ((bs x).toList == [67]) with q3 | q3
  · obtain rfl := Phr.yes q3; exact phr_plain_3 h q0 q1 q2 q3
  rcases Bool.eq_false_or_eq_true ((bs x).toList == [115]) with q4 | q4
  · obtain rfl := Phr.yes q4; exact phr_plain_4 h q0 q1 q2 q3 q4
  rcases Bool.eq_false_or_eq_true ((bs x).toList == [83]) with q5 | q5
  · obtain rfl := Phr.yes q5; exact phr_plain_5 h q0 q1 q2 q3 q4 q5
  rcases Bool.eq_false_or_eq_true ((bs x).toList == [89]) with q6 | q6
  · obtain rfl := Phr.yes q6; exact phr_plain_6 h q0 q1 q2 q3 q4 q5 q6
  rcases Bool.eq_false_or_eq_true ((bs x).toList == [114]) with q7 | q7
  · obtain rfl := Phr.yes q7; exact phr_plain_7 h q0 q1 q2 q3 q4 q5 q6 q7
  rcases Bool.eq_false_or_eq_true ((bs x).toList == [109]) with q8 | q8
  · obtain rfl := Phr.yes q8; exact phr_plain_8 h q0 q1 q2 q3 q4 q5 q6 q7 q8
  rcases Bool.eq_false_or_eq_true ((bs x).toList == [112]) with q9 | q9
  · obtain rfl := Phr.yes q9; exact phr_plain_9 h q0 q1 q2 q3 q4 q5 q6 q7 q8 q9
  rcases Bool.eq_false_or_eq_true ((bs x).toList == [80]) with q10 | q10
  · obtain rfl := Phr.yes q10; exact phr_plain_10 h q0 q1 q2 q3 q4 q5 q6 q7 q8 q9 q10
  rcases Bool.eq_false_or_eq_true ((bs x).toList == [74]) with q11 | q11
  · obtain rfl := Phr.yes q11; exact phr_plain_11 h q0 q1 q2 q3 q4 q5 q6 q7 q8 q9 q10 q11
  rcases Bool.eq_false_or_eq_true ((bs x).toList == [126]) with q12 | q12
  · obtain rfl := Phr.yes q12; exact phr_plain_12 h q0 q1 q2 q3 q4 q5 q6 q7 q8 q9 q10 q11 q12
  rcases Bool.eq_false_or_eq_true ((bs x).toList == [117]) with q13 | q13
  · obtain rfl := Phr.yes q13; exact phr_plain_13 h q0 q1 q2 q3 q4 q5 q6 q7 q8 q9 q10 q11 q12 q13
  rcases Bool.eq_false_or_eq_true ((bs x).toList == [46]) with q14 | q14
  · obtain rfl := Phr.yes q14; exact phr_plain_14 h q0 q1 q2 q3 q4 q5 q6 q7 q8 q9 q10 q11 q12 q13 q14
  rcases Bool.eq_false_or_eq_true ((bs x).toList == [105]) with q15 | q15
  · obtain rfl := Phr.yes q15; exact phr_plain_15 h q0 q1 q2 q3 q4 q5 q6 q7 q8 q9 q10 q11 q12 q13 q14 q15
  rcases Bool.eq_false_or_eq_true ((bs x).toList == [97]) with q16 | q16
  · obtain rfl := Phr.yes q16; exact phr_plain_16 h q0 q1 q2 q3 q4 q5 q6 q7 q8 q9 q10 q11 q12 q13 q14 q15 q16
  rcases Bool.eq_false_or_eq_true ((bs x).toList == [73]) with q17 | q17
  · obtain rfl := Phr.yes q17; exact phr_plain_17 h q0 q1 q2 q3 q4 q5 q6 q7 q8 q9 q10 q11 q12 q13 q14 q15 q16 q17
  rcases Bool.eq_false_or_eq_true ((bs x).toList == [65]) with q18 | q18
  · obtain rfl := Phr.yes q18; exact phr_plain_18 h q0 q1 q2 q3 q4 q5 q6 q7 q8 q9 q10 q11 q12 q13 q14 q15 q16 q17 q18
  rcases Bool.eq_false_or_eq_true ((bs x).toList == [111]) with q19 | q19
  · obtain rfl := Phr.yes q19; exact phr_plain_19 h q0 q1 q2 q3 q4 q5 q6 q7 q8 q9 q10 q11 q12 q13 q14 q15 q16 q17 q18 q19
  rcases Bool.eq_false_or_eq_true ((bs x).toList == [79]) with q20 | q20
  · obtain rfl := Phr.yes q20; exact phr_plain_20 h q0 q1 q2 q3 q4 q5 q6 q7 q8 q9 q10 q11 q12 q13 q14 q15 q16 q17 q18 q19 q20
  rcases Bool.eq_false_or_eq_true ((bs x).toList == [118]) with q21 | q21
  · obtain rfl := Phr.yes q21; exact phr_plain_21 h q0 q1 q2 q3 q4 q5 q6 q7 q8 q9 q10 q11 q12 q13 q14 q15 q16 q17 q18 q19 q20 q21
  rcases Bool.eq_false_or_eq_true ((bs x).toList == [86]) with q22 | q22
  · obtain rfl := Phr.yes q22; exact phr_plain_22 h q0 q1 q2 q3 q4 q5 q6 q7 q8 q9 q10 q11 q12 q13 q14 q15 q16 q17 q18 q19 q20 q21 q22
  rcases Bool.eq_false_or_eq_true ((bs x).toList == [58]) with q23 | q23
  · obtain rfl := Phr.yes q23; exact phr_plain_23 h q0 q1 q2 q3 q4 q5 q6 q7 q8 q9 q10 q11 q12 q13 q14 q15 q16 q17 q18 q19 q20 q21 q22 q23
  rcases Bool.eq_false_or_eq_true ((bs x).toList == [47]) with q24 | q24
  · obtain rfl := Phr.yes q24; exact phr_plain_24 h q0 q1 q2 q3 q4 q5 q6 q7 q8 q9 q10 q11 q12 q13 q14 q15 q16 q17 q18 q19 q20 q21 q22 q23 q24
  rcases Bool.eq_false_or_eq_true ((bs x).toList == [63]) with q25 | q25
  · obtain rfl := Phr.yes q25; exact phr_plain_25 h q0 q1 q2 q3 q4 q5 q6 q7 q8 q9 q10 q11 q12 q13 q14 q15 q16 q17 q18 q19 q20 q21 q22 q23 q24 q25
  rcases Bool.eq_false_or_eq_true ((bs x).toList == [18]) with q26 | q26
  · obtain rfl := Phr.yes q26; exact phr_plain_26 h q0 q1 q2 q3 q4 q5 q6 q7 q8 q9 q10 q11 q12 q13 q14 q15 q16 q17 q18 q19 q20 q21 q22 q23 q24 q25 q26
  rcases Bool.eq_false_or_eq_true ((bs x).toList == [103, 45]) with q27 | q27
  · obtain rfl := Phr.yes q27; exact phr_plain_27 h q0 q1 q2 q3 q4 q5 q6 q7 q8 q9 q10 q11 q12 q13 q14 q15 q16 q17 q18 q19 q20 q21 q22 q23 q24 q25 q26 q27
  rcases Bool.eq_false_or_eq_true ((bs x).toList == [103, 43]) with q28 | q28
  · obtain rfl := Phr.yes q28; exact phr_plain_28 h q0 q1 q2 q3 q4 q5 q6 q7 q8 q9 q10 q11 q12 q13 q14 q15 q16 q17 q18 q19 q20 q21 q22 q23 q24 q25 q26 q27 q28
  rw [show Phr.plain x = .not by simp [Phr.plain, Phr.alone, hx, Phr.no q0, Phr.no q1, Phr.no q2, Phr.no q3, Phr.no q4, Phr.no q5, Phr.no q6, Phr.no q7, Phr.no q8, Phr.no q9, Phr.no q10, Phr.no q11, Phr.no q12, Phr.no q13, Phr.no q14, Phr.no q15, Phr.no q16, Phr.no q17, Phr.no q18, Phr.no q19, Phr.no q20, Phr.no q21, Phr.no q22, Phr.no q23, Phr.no q24, Phr.no q25, Phr.no q26, Phr.no q27, Phr.no q28]]
  exact phr_plain_29 h q0 q1 q2 q3 q4 q5 q6 q7 q8 q9 q10 q11 q12 q13 q14 q15 q16 q17 q18 q19 q20 q21 q22 q23 q24 q25 q26 q27 q28
set_option maxHeartbeats 1000000 in
set_option maxRecDepth 100000 in
theorem phr_area_0 {g : Nat} {w : World} {r n : Int} {ks : List (List UInt8)} {dry : Bool} {x : List UInt8} (h : Rdr g w ⟨r, n, [], [], []⟩ ks dry) (q0 : ((bs x).toList == [100]) = true) :
    Calls Try.prog 17 #[.pointer (some ⟨g, 0, none⟩), .string (bs x)] w (EndsAs g w (wet dry (Phr.last ⟨r, n, [100], [], []⟩ ks))) := by
  have c2a := h.cell2
  have f2a := h.frozen 2
  simp only at c2a
  have Sa : Hid (Rdr g (w.setCell ⟨g, 2, none⟩ (.string ⟨#[100]⟩)) ⟨r, n, [100], [], []⟩ ks dry) := Lib.hid (h.set_ (fun v => rfl))
  clear h
  go_enter Try.func17, Try.ntmps17
  go_wp2
  go_ret
  exact ⟨gb_set w g 2 (.string (bs [100])), _, _, _, _, rfl, Sa.out, Phr.out_last _ _ _⟩
set_option maxHeartbeats 1000000 in
set_option maxRecDepth 100000 in
theorem phr_area_1 {g : Nat} {w : World} {r n : Int} {ks : List (List UInt8)} {dry : Bool} {x : List UInt8} (h : Rdr g w ⟨r, n, [], [], []⟩ ks dry) (q0 : ((bs x).toList == [100]) = false) (q1 : ((bs x).toList == [120]) = true) :
    Calls Try.prog 17 #[.pointer (some ⟨g, 0, none⟩), .string (bs x)] w (EndsAs g w (wet dry (Phr.last ⟨r, n, [100], [], []⟩ ks))) := by
  have c2a := h.cell2
  have f2a := h.frozen 2
  simp only at c2a
  have Sa : Hid (Rdr g (w.setCell ⟨g, 2, none⟩ (.string ⟨#[100]⟩)) ⟨r, n, [100], [], []⟩ ks dry) := Lib.hid (h.set_ (fun v => rfl))
  clear h
  go_enter Try.func17, Try.ntmps17
  go_wp2
  go_ret
  exact ⟨gb_set w g 2 (.string (bs [100])), _, _, _, _, rfl, Sa.out, Phr.out_last _ _ _⟩
set_option maxHeartbeats 1000000 in
set_option maxRecDepth 100000 in
theorem phr_area_2 {g : Nat} {w : World} {r n : Int} {ks : List (List UInt8)} {dry : Bool} {x : List UInt8} (h : Rdr g w ⟨r, n, [], [], []⟩ ks dry) (q0 : ((bs x).toList == [100]) = false) (q1 : ((bs x).toList == [120]) = false) (q2 : ((bs x).toList == [99]) = true) :
    Calls Try.prog 17 #[.pointer (some ⟨g, 0, none⟩), .string (bs x)] w (EndsAs g w (wet dry (Phr.last ⟨r, n, [99], [], []⟩ ks))) := by
  have c2a := h.cell2
  have f2a := h.frozen 2
  simp only at c2a
  have Sa : Hid (Rdr g (w.setCell ⟨g, 2, none⟩ (.string ⟨#[99]⟩)) ⟨r, n, [99], [], []⟩ ks dry) := Lib.hid (h.set_ (fun v => rfl))
  clear h
  go_enter Try.func17, Try.ntmps17
  go_wp2
  go_ret
  exact ⟨gb_set w g 2 (.string (bs [99])), _, _, _, _, rfl, Sa.out, Phr.out_last _ _ _⟩
set_option maxHeartbeats 1000000 in
set_option maxRecDepth 100000 in
theorem phr_area_3 {g : Nat} {w : World} {r n : Int} {ks : List (List UInt8)} {dry : Bool} {x : List UInt8} (h : Rdr g w ⟨r, n, [], [], []⟩ ks dry) (q0 : ((bs x).toList == [100]) = false) (q1 : ((bs x).toList == [120]) = false) (q2 : ((bs x).toList == [99]) = false) (q3 : ((bs x).toList == [115]) = true) :
    Calls Try.prog 17 #[.pointer (some ⟨g, 0, none⟩), .string (bs x)] w (EndsAs g w (wet dry (Phr.last ⟨r, n, [99], [], []⟩ ks))) := by
  have c2a := h.cell2
  have f2a := h.frozen 2
  simp only at c2a
  have Sa : Hid (Rdr g (w.setCell ⟨g, 2, none⟩ (.string ⟨#[99]⟩)) ⟨r, n, [99], [], []⟩ ks dry) := Lib.hid (h.set_ (fun v => rfl))
  clear h
  go_enter Try.func17, Try.ntmps17
  go_wp2
  go_ret
  exact ⟨gb_set w g 2 (.string (bs [99])), _, _, _, _, rfl, Sa.out, Phr.out_last _ _ _⟩
set_option maxHeartbeats 1000000 in
set_option maxRecDepth 100000 in
theorem phr_area_4 {g : Nat} {w : World} {r n : Int} {ks : List (List UInt8)} {dry : Bool} {x : List UInt8} (h : Rdr g w ⟨r, n, [], [], []⟩ ks dry) (q0 : ((bs x).toList == [100]) = false) (q1 : ((bs x).toList == [120]) = false) (q2 : ((bs x).toList == [99]) = false) (q3 : ((bs x).toList == [115]) = false) (q4 : ((bs x).toList == [126]) = true) :
    Calls Try.prog 17 #[.pointer (some ⟨g, 0, none⟩), .string (bs x)] w (EndsAs g w (wet dry (Phr.last ⟨r, n, 103 :: x, [], []⟩ ks))) := by
  have c2a := h.cell2
  have f2a := h.frozen 2
  simp only at c2a
  have Sa : Hid (Rdr g (w.setCell ⟨g, 2, none⟩ (.string (bs (103 :: x)))) ⟨r, n, 103 :: x, [], []⟩ ks dry) := Lib.hid (h.set_ (fun v => rfl))
  have H : Hid (bs (103 :: x) = bs [103] ++ bs x) := Lib.hid (by rw [bs_append]; rfl)
  have hxs : (bs x).size = 1 := by rw [Phr.yes q4]; rfl
  have h103 : (⟨#[103]⟩ : ByteArray).size = 1 := rfl
  rw [H.out] at Sa
  clear h
  go_enter Try.func17, Try.ntmps17
  go_wp2
  go_ret
  exact ⟨gb_set w g 2 (.string (bs [103] ++ bs x)), _, _, _, _, rfl, Sa.out, Phr.out_last _ _ _⟩
set_option maxHeartbeats 1000000 in
set_option maxRecDepth 100000 in
theorem phr_area_5 {g : Nat} {w : World} {r n : Int} {ks : List (List UInt8)} {dry : Bool} {x : List UInt8} (h : Rdr g w ⟨r, n, [], [], []⟩ ks dry) (q0 : ((bs x).toList == [100]) = false) (q1 : ((bs x).toList == [120]) = false) (q2 : ((bs x).toList == [99]) = false) (q3 : ((bs x).toList == [115]) = false) (q4 : ((bs x).toList == [126]) = false) (q5 : ((bs x).toList == [117]) = true) :
    Calls Try.prog 17 #[.pointer (some ⟨g, 0, none⟩), .string (bs x)] w (EndsAs g w (wet dry (Phr.last ⟨r, n, 103 :: x, [], []⟩ ks))) := by
  have c2a := h.cell2
  have f2a := h.frozen 2
  simp only at c2a
  have Sa : Hid (Rdr g (w.setCell ⟨g, 2, none⟩ (.string (bs (103 :: x)))) ⟨r, n, 103 :: x, [], []⟩ ks dry) := Lib.hid (h.set_ (fun v => rfl))
  have H : Hid (bs (103 :: x) = bs [103] ++ bs x) := Lib.hid (by rw [bs_append]; rfl)
  have hxs : (bs x).size = 1 := by rw [Phr.yes q5]; rfl
  have h103 : (⟨#[103]⟩ : ByteArray).size = 1 := rfl
  rw [H.out] at Sa
  clear h
  go_enter Try.func17, Try.ntmps17
  go_wp2
  go_ret
  exact ⟨gb_set w g 2 (.string (bs [103] ++ bs x)), _, _, _, _, rfl, Sa.out, Phr.out_last _ _ _⟩
set_option maxHeartbeats 1000000 in
set_option maxRecDepth 100000 in
theorem phr_area_6 {g : Nat} {w : World} {r n : Int} {ks : List (List UInt8)} {dry : Bool} {x : List UInt8} (h : Rdr g w ⟨r, n, [], [], []⟩ ks dry) (q0 : ((bs x).toList == [100]) = false) (q1 : ((bs x).toList == [120]) = false) (q2 : ((bs x).toList == [99]) = false) (q3 : ((bs x).toList == [115]) = false) (q4 : ((bs x).toList == [126]) = false) (q5 : ((bs x).toList == [117]) = false) (q6 : ((bs x).toList == [85]) = true) :
    Calls Try.prog 17 #[.pointer (some ⟨g, 0, none⟩), .string (bs x)] w (EndsAs g w (wet dry (Phr.last ⟨r, n, 103 :: x, [], []⟩ ks))) := by
  have c2a := h.cell2
  have f2a := h.frozen 2
  simp only at c2a
  have Sa : Hid (Rdr g (w.setCell ⟨g, 2, none⟩ (.string (bs (103 :: x)))) ⟨r, n, 103 :: x, [], []⟩ ks dry) := Lib.hid (h.set_ (fun v => rfl))
  have H : Hid (bs (103 :: x) = bs [103] ++ bs x) := Lib.hid (by rw [bs_append]; rfl)
  have hxs : (bs x).size = 1 := by rw [Phr.yes q6]; rfl
  have h103 : (⟨#[103]⟩ : ByteArray).size = 1 := rfl
  rw [H.out] at Sa
  clear h
  go_enter Try.func17, Try.ntmps17
  go_wp2
  go_ret
  exact ⟨gb_set w g 2 (.string (bs [103] ++ bs x)), _, _, _, _, rfl, Sa.out, Phr.out_last _ _ _⟩
set_option maxHeartbeats 1000000 in
set_option maxRecDepth 100000 in
theorem phr_area_7 {g : Nat} {w : World} {r n : Int} {ks : List (List UInt8)} {dry : Bool} {x : List UInt8} (h : Rdr g w ⟨r, n, [], [], []⟩ ks dry) (q0 : ((bs x).toList == [100]) = false) (q1 : ((bs x).toList == [120]) = false) (q2 : ((bs x).toList == [99]) = false) (q3 : ((bs x).toList == [115]) = false) (q4 : ((bs x).toList == [126]) = false) (q5 : ((bs x).toList == [117]) = false) (q6 : ((bs x).toList == [85]) = false) (q7 : ((bs x).toList == [74]) = true) :
    Calls Try.prog 17 #[.pointer (some ⟨g, 0, none⟩), .string (bs x)] w (EndsAs g w (wet dry (Phr.last ⟨r, n, [], x, []⟩ ks))) := by
  have c3a := h.cell3
  have f3a := h.frozen 3
  simp only at c3a
  have Sa : Hid (Rdr g (w.setCell ⟨g, 3, none⟩ (.string (bs x))) ⟨r, n, [], x, []⟩ ks dry) := Lib.hid (h.set_ (fun v => rfl))
  clear h
  go_enter Try.func17, Try.ntmps17
  go_wp2
  go_ret
  exact ⟨gb_set w g 3 (.string (bs x)), _, _, _, _, rfl, Sa.out, Phr.out_last _ _ _⟩
set_option maxHeartbeats 1000000 in
set_option maxRecDepth 100000 in
theorem phr_area_8 {g : Nat} {w : World} {r n : Int} {ks : List (List UInt8)} {dry : Bool} {x : List UInt8} (h : Rdr g w ⟨r, n, [], [], []⟩ ks dry) (q0 : ((bs x).toList == [100]) = false) (q1 : ((bs x).toList == [120]) = false) (q2 : ((bs x).toList == [99]) = false) (q3 : ((bs x).toList == [115]) = false) (q4 : ((bs x).toList == [126]) = false) (q5 : ((bs x).toList == [117]) = false) (q6 : ((bs x).toList == [85]) = false) (q7 : ((bs x).toList == [74]) = false) (q8 : ((bs x).toList == [111]) = true) :
    Calls Try.prog 17 #[.pointer (some ⟨g, 0, none⟩), .string (bs x)] w (EndsAs g w (wet dry (Phr.last ⟨r, n, [], x, []⟩ ks))) := by
  have c3a := h.cell3
  have f3a := h.frozen 3
  simp only at c3a
  have Sa : Hid (Rdr g (w.setCell ⟨g, 3, none⟩ (.string (bs x))) ⟨r, n, [], x, []⟩ ks dry) := Lib.hid (h.set_ (fun v => rfl))
  clear h
  go_enter Try.func17, Try.ntmps17
  go_wp2
  go_ret
  exact ⟨gb_set w g 3 (.string (bs x)), _, _, _, _, rfl, Sa.out, Phr.out_last _ _ _⟩
set_option maxHeartbeats 1000000 in
set_option maxRecDepth 100000 in
theorem phr_area_9 {g : Nat} {w : World} {r n : Int} {ks : List (List UInt8)} {dry : Bool} {x : List UInt8} (h : Rdr g w ⟨r, n, [], [], []⟩ ks dry) (q0 : ((bs x).toList == [100]) = false) (q1 : ((bs x).toList == [120]) = false) (q2 : ((bs x).toList == [99]) = false) (q3 : ((bs x).toList == [115]) = false) (q4 : ((bs x).toList == [126]) = false) (q5 : ((bs x).toList == [117]) = false) (q6 : ((bs x).toList == [85]) = false) (q7 : ((bs x).toList == [74]) = false) (q8 : ((bs x).toList == [111]) = false) (q9 : ((bs x).toList == [118]) = true) :
    Calls Try.prog 17 #[.pointer (some ⟨g, 0, none⟩), .string (bs x)] w (EndsAs g w (wet dry (Phr.last ⟨r, n, [], x, []⟩ ks))) := by
  have c3a := h.cell3
  have f3a := h.frozen 3
  simp only at c3a
  have Sa : Hid (Rdr g (w.setCell ⟨g, 3, none⟩ (.string (bs x))) ⟨r, n, [], x, []⟩ ks dry) := Lib.hid (h.set_ (fun v => rfl))
  clear h
  go_enter Try.func17, Try.ntmps17
  go_wp2
  go_ret
  exact ⟨gb_set w g 3 (.string (bs x)), _, _, _, _, rfl, Sa.out, Phr.out_last _ _ _⟩
set_option maxHeartbeats 1000000 in
set_option maxRecDepth 100000 in
theorem phr_area_10 {g : Nat} {w : World} {r n : Int} {ks : List (List UInt8)} {dry : Bool} {x : List UInt8} (h : Rdr g w ⟨r, n, [], [], []⟩ ks dry) (q0 : ((bs x).toList == [100]) = false) (q1 : ((bs x).toList == [120]) = false) (q2 : ((bs x).toList == [99]) = false) (q3 : ((bs x).toList == [115]) = false) (q4 : ((bs x).toList == [126]) = false) (q5 : ((bs x).toList == [117]) = false) (q6 : ((bs x).toList == [85]) = false) (q7 : ((bs x).toList == [74]) = false) (q8 : ((bs x).toList == [111]) = false) (q9 : ((bs x).toList == [118]) = false) (q10 : ((bs x).toList == [86]) = true) :
    Calls Try.prog 17 #[.pointer (some ⟨g, 0, none⟩), .string (bs x)] w (EndsAs g w (wet dry (Phr.last ⟨r, n, [], x, []⟩ ks))) := by
  have c3a := h.cell3
  have f3a := h.frozen 3
  simp only at c3a
  have Sa : Hid (Rdr g (w.setCell ⟨g, 3, none⟩ (.string (bs x))) ⟨r, n, [], x, []⟩ ks dry) := Lib.hid (h.set_ (fun v => rfl))
  clear h
  go_enter Try.func17, Try.ntmps17
  go_wp2
  go_ret
  exact ⟨gb_set w g 3 (.string (bs x)), _, _, _, _, rfl, Sa.out, Phr.out_last _ _ _⟩
set_option maxHeartbeats 1000000 in
set_option maxRecDepth 100000 in
theorem phr_area_11 {g : Nat} {w : World} {r n : Int} {ks : List (List UInt8)} {dry : Bool} {x : List UInt8} (h : Rdr g w ⟨r, n, [], [], []⟩ ks dry) (q0 : ((bs x).toList == [100]) = false) (q1 : ((bs x).toList == [120]) = false) (q2 : ((bs x).toList == [99]) = false) (q3 : ((bs x).toList == [115]) = false) (q4 : ((bs x).toList == [126]) = false) (q5 : ((bs x).toList == [117]) = false) (q6 : ((bs x).toList == [85]) = false) (q7 : ((bs x).toList == [74]) = false) (q8 : ((bs x).toList == [111]) = false) (q9 : ((bs x).toList == [118]) = false) (q10 : ((bs x).toList == [86]) = false) (q11 : ((bs x).toList == [105]) = true) :
    Calls Try.prog 17 #[.pointer (some ⟨g, 0, none⟩), .string (bs x)] w (EndsAs g w (wet dry (Phr.goes ⟨r, n, [], x, []⟩ 1 ks))) := by
  have C := Lib.hid (phr_part x h)
  clear h
  go_enter Try.func17, Try.ntmps17
  go_wp2_with ((go_at_call 33; refine C.out.mono ?_; rintro e w1 ⟨g1, read, d1, c1, l1, rfl, h1, e1⟩))
  go_ret
  exact ⟨g1, _, _, _, _, rfl, h1, e1⟩
set_option maxHeartbeats 1000000 in
set_option maxRecDepth 100000 in
theorem phr_area_12 {g : Nat} {w : World} {r n : Int} {ks : List (List UInt8)} {dry : Bool} {x : List UInt8} (h : Rdr g w ⟨r, n, [], [], []⟩ ks dry) (q0 : ((bs x).toList == [100]) = false) (q1 : ((bs x).toList == [120]) = false) (q2 : ((bs x).toList == [99]) = false) (q3 : ((bs x).toList == [115]) = false) (q4 : ((bs x).toList == [126]) = false) (q5 : ((bs x).toList == [117]) = false) (q6 : ((bs x).toList == [85]) = false) (q7 : ((bs x).toList == [74]) = false) (q8 : ((bs x).toList == [111]) = false) (q9 : ((bs x).toList == [118]) = false) (q10 : ((bs x).toList == [86]) = false) (q11 : ((bs x).toList == [105]) = false) (q12 : ((bs x).toList == [97]) = true) :
    Calls Try.prog 17 #[.pointer (some ⟨g, 0, none⟩), .string (bs x)] w (EndsAs g w (wet dry (Phr.goes ⟨r, n, [], x, []⟩ 1 ks))) := by
  have C := Lib.hid (phr_part x h)
  clear h
  go_enter Try.func17, Try.ntmps17
  go_wp2_with ((go_at_call 33; refine C.out.mono ?_; rintro e w1 ⟨g1, read, d1, c1, l1, rfl, h1, e1⟩))
  go_ret
  exact ⟨g1, _, _, _, _, rfl, h1, e1⟩
set_option maxHeartbeats 1000000 in
set_option maxRecDepth 100000 in
theorem phr_area_op {g : Nat} {w : World} {r n : Int} {ks : List (List UInt8)} {dry : Bool} {x : List UInt8} (h : Rdr g w ⟨r, n, [], [], []⟩ ks dry) (hx : x ∈ Phr.opers) (q0 : ((bs x).toList == [100]) = false) (q1 : ((bs x).toList == [120]) = false) (q2 : ((bs x).toList == [99]) = false) (q3 : ((bs x).toList == [115]) = false) (q4 : ((bs x).toList == [126]) = false) (q5 : ((bs x).toList == [117]) = false) (q6 : ((bs x).toList == [85]) = false) (q7 : ((bs x).toList == [74]) = false) (q8 : ((bs x).toList == [111]) = false) (q9 : ((bs x).toList == [118]) = false) (q10 : ((bs x).toList == [86]) = false) (q11 : ((bs x).toList == [105]) = false) (q12 : ((bs x).toList == [97]) = false) :
    Calls Try.prog 17 #[.pointer (some ⟨g, 0, none⟩), .string (bs x)] w (EndsAs g w (wet dry (Phr.last ⟨r, n, x, [], []⟩ ks))) := by
  have c2a := h.cell2
  have f2a := h.frozen 2
  simp only at c2a
  have Sa : Hid (Rdr g (w.setCell ⟨g, 2, none⟩ (.string (bs x))) ⟨r, n, x, [], []⟩ ks dry) := Lib.hid (h.set_ (fun v => rfl))
  have O := Lib.hid (fun w => phr_operator x w)
  rw [show decide (x ∈ Phr.opers) = true from decide_eq_true hx] at O
  clear h
  go_enter Try.func17, Try.ntmps17
  go_wp2_with ((go_at_call 18; refine (O.out _).mono ?_; rintro e w1 ⟨rfl, rfl⟩))
  go_ret
  exact ⟨gb_set w g 2 (.string (bs x)), _, _, _, _, rfl, Sa.out, Phr.out_last _ _ _⟩
set_option maxHeartbeats 1000000 in
set_option maxRecDepth 100000 in
theorem phr_area_not {g : Nat} {w : World} {r n : Int} {ks : List (List UInt8)} {dry : Bool} {x : List UInt8} (h : Rdr g w ⟨r, n, [], [], []⟩ ks dry) (hx : x ∉ Phr.opers) (q0 : ((bs x).toList == [100]) = false) (q1 : ((bs x).toList == [120]) = false) (q2 : ((bs x).toList == [99]) = false) (q3 : ((bs x).toList == [115]) = false) (q4 : ((bs x).toList == [126]) = false) (q5 : ((bs x).toList == [117]) = false) (q6 : ((bs x).toList == [85]) = false) (q7 : ((bs x).toList == [74]) = false) (q8 : ((bs x).toList == [111]) = false) (q9 : ((bs x).toList == [118]) = false) (q10 : ((bs x).toList == [86]) = false) (q11 : ((bs x).toList == [105]) = false) (q12 : ((bs x).toList == [97]) = false) :
    Calls Try.prog 17 #[.pointer (some ⟨g, 0, none⟩), .string (bs x)] w (EndsAs g w (wet dry (Phr.bad))) := by
  have c2a := h.cell2
  have f2a := h.frozen 2
  simp only at c2a
  have Sa : Hid (Rdr g (w.setCell ⟨g, 2, none⟩ (.string (bs x))) ⟨r, n, x, [], []⟩ ks dry) := Lib.hid (h.set_ (fun v => rfl))
  have O := Lib.hid (fun w => phr_operator x w)
  rw [show decide (x ∈ Phr.opers) = false from decide_eq_false hx] at O
  clear h
  go_enter Try.func17, Try.ntmps17
  go_wp2_with ((go_at_call 18; refine (O.out _).mono ?_; rintro e w1 ⟨rfl, rfl⟩))
  go_ret
  exact ⟨gb_set w g 2 (.string (bs x)), _, _, _, _, rfl, Sa.out, Phr.out_bad _ _ _⟩
theorem phr_area {g : Nat} {w : World} {r n : Int} {ks : List (List UInt8)} {dry : Bool} {x : List UInt8} (h : Rdr g w ⟨r, n, [], [], []⟩ ks dry) :
    Calls Try.prog 17 #[.pointer (some ⟨g, 0, none⟩), .string (bs x)] w (EndsAs g w (wet dry (Phr.does ⟨r, n, [], [], []⟩ (Phr.area x) ks))) := by
  rcases Bool.eq_false_or_eq_true ((bs x).toList == [100]) with q0 | q0
  · obtain rfl := Phr.yes q0; exact phr_area_0 h q0
  rcases Bool.eq_false_or_eq_true ((bs x).toList == [120]) with q1 | q1
  · obtain rfl := Phr.yes q1; exact phr_area_1 h q0 q1
  rcases Bool.eq_false_or_eq_true ((bs x).toList == [99]) with q2 | q2
  · obtain rfl := Phr.yes q2; exact phr_area_2 h q0 q1 q2
  rcases Bool.eq_false_or_eq_true ((bs x).toList == [115]) with q3 | q3
  · obtain rfl := Phr.yes q3; exact phr_area_3 h q0 q1 q2 q3
  rcases Bool.eq_false_or_eq_true ((bs x).toList == [126]) with q4 | q4
  · obtain rfl := Phr.yes q4; exact phr_area_4 h q0 q1 q2 q3 q4
  rcases Bool.eq_false_or_eq_true ((bs x).toList == [117]) with q5 | q5
  · obtain rfl := Phr.yes q5; exact phr_area_5 h q0 q1 q2 q3 q4 q5
  rcases Bool.eq_false_or_eq_true ((bs x).toList == [85]) with q6 | q6
  · obtain rfl := Phr.yes q6; exact phr_area_6 h q0 q1 q2 q3 q4 q5 q6
  rcases Bool.eq_false_or_eq_true ((bs x).toList == [74]) with q7 | q7
  · obtain rfl := Phr.yes q7; exact phr_area_7 h q0 q1 q2 q3 q4 q5 q6 q7
  rcases Bool.eq_false_or_eq_true ((bs x).toList == [111]) with q8 | q8
  · obtain rfl := Phr.yes q8; exact phr_area_8 h q0 q1 q2 q3 q4 q5 q6 q7 q8
  rcases Bool.eq_false_or_eq_true ((bs x).toList == [118]) with q9 | q9
  · obtain rfl := Phr.yes q9; exact phr_area_9 h q0 q1 q2 q3 q4 q5 q6 q7 q8 q9
  rcases Bool.eq_false_or_eq_true ((bs x).toList == [86]) with q10 | q10
  · obtain rfl := Phr.yes q10; exact phr_area_10 h q0 q1 q2 q3 q4 q5 q6 q7 q8 q9 q10
  rcases Bool.eq_false_or_eq_true ((bs x).toList == [105]) with q11 | q11
  · obtain rfl := Phr.yes q11; exact phr_area_11 h q0 q1 q2 q3 q4 q5 q6 q7 q8 q9 q10 q11
  rcases Bool.eq_false_or_eq_true ((bs x).toList == [97]) with q12 | q12
  · obtain rfl := Phr.yes q12; exact phr_area_12 h q0 q1 q2 q3 q4 q5 q6 q7 q8 q9 q10 q11 q12
  by_cases hx : x ∈ Phr.opers
  · rw [show Phr.area x = .does x [] 0 by simp [Phr.area, hx, Phr.no q0, Phr.no q1, Phr.no q2, Phr.no q3, Phr.no q4, Phr.no q5, Phr.no q6, Phr.no q7, Phr.no q8, Phr.no q9, Phr.no q10, Phr.no q11, Phr.no q12]]
    exact phr_area_op h hx q0 q1 q2 q3 q4 q5 q6 q7 q8 q9 q10 q11 q12
  · rw [show Phr.area x = .not by simp [Phr.area, hx, Phr.no q0, Phr.no q1, Phr.no q2, Phr.no q3, Phr.no q4, Phr.no q5, Phr.no q6, Phr.no q7, Phr.no q8, Phr.no q9, Phr.no q10, Phr.no q11, Phr.no q12]]
    exact phr_area_not h hx q0 q1 q2 q3 q4 q5 q6 q7 q8 q9 q10 q11 q12
end Go.Proofs.Ytchpkeelnfmlbaa
