/-
  'calamuslaw22.SpanCuts' answers true for every text and two places: without what Cut tells of whole lines there are as many lines less as there are, but one at least.
-/
import Derived.Test.YtnelhhijihmpbaaSpanLives
import Derived.Test.YtnelhhijihmpbaaSpanLines
import Derived.Test.YtnelhhijihmpbaaSpanCut
import Derived.Test.YtnelhhijihmpbaaLineCount
import Derived.Test.YtnelhhijihmpbaaFrame
namespace Go.Proofs.Ytnelhhijihmpbaa
open Go.RowKit
open Span (res rng cutA cutB)
namespace Span
theorem cut_lines {s : List UInt8} {a b : Nat} (h : right s a b true = true) : cut s a b true = ((cutA s a b : Int), (cutB s b : Int), true) := by
  rw [cut, if_pos h, if_pos rfl, cutA, cutB]
  rcases Nat.lt_or_ge b s.length with h1 | h1
  · rw [if_pos (show (b : Int) < s.length by omega), if_pos h1, if_pos h1]; rfl
  · have h3 : ¬ b < s.length := by omega
    rw [if_neg (show ¬ (b : Int) < s.length by omega), if_neg h3, if_neg h3]
    rcases Nat.eq_zero_or_pos a with h2 | h2
    · subst h2; rfl
    · rw [if_pos (show (0 : Int) < (a : Int) by omega), show ((a - 1 : Nat) : Int) = (a : Int) - 1 by omega]
theorem lines_whole {s : List UInt8} {j k : Nat} {x y : Nat × Nat} (h : right s x.1 y.2 true = true) (hx : (Line.L s)[j]? = some x) (hy : (Line.L s)[k]? = some y) : lines s x.1 y.2 true = ((j : Int), (k : Int)) := by
  rw [lines, if_pos h, if_neg (by simp), Line.of_at hx (Nat.le_refl _) (Line.L_each hx).1, Line.of_at hy (Line.L_each hy).1 (Nat.le_refl _)]
theorem left_text {s : ByteArray} {a b : Nat} : (s.extract 0 a ++ s.extract b s.size).data.toList = s.data.toList.take a ++ s.data.toList.drop b := by
  rw [ext_seg, ext_seg, bs_append, bs_toList, Line.seg, Line.seg, List.drop_zero, ← data_len, List.take_length]
end Span
set_option maxHeartbeats 2000000 in
set_option maxRecDepth 100000 in
theorem spanCuts_none (s : ByteArray) (p q : Int) (hs : s.size ≤ 500) (h1 : rng s.data.toList p q 3 = none) (w : World) :
    Calls Try.prog 5 #[.string s, .int .i64 p, .int .i64 q] w fun e w' => e = .returned (.bool true) ∧ Below w.heap.size w w' := by
  have LV := Lib.hid span_lives
  have g0 : decide ((500 : Int) < (s.size : Int)) = false := decide_eq_false (by omega)
  have c0 := fun w => span_Of s p q 3 (by omega) w
  rw [h1, Span.res_none] at c0
  have C0 := Lib.hid c0
  have hX := Below.refl w.heap.size w
  clear c0 h1 hs
  go_enter Try.func5, Try.ntmps5
  go_wp2_with (first
    | (go_at_call 7; (with_reducible refine (C0.out _).mono ?_); rintro e w1 ⟨rfl, hbn⟩; replace hX := hX.trans (hbn.mono hX.size); replace hX := hX.alloc hX.size (.cells #[.int .i64 0, .int .i64 0, .bool false] 24); clear hbn)
    | (go_at_call 6; (with_reducible refine (LV.out _).mono ?_); rintro e w9 ⟨rfl, hbn⟩; replace hX := hX.trans (hbn.mono hX.size); clear hbn))
  go_ret
  exact ⟨rfl, hX⟩
set_option maxHeartbeats 2000000 in
set_option maxRecDepth 100000 in
theorem spanCuts_some (s : ByteArray) (p q : Int) {j k : Nat} {x y : Nat × Nat} (hs : s.size ≤ 500) (hjk : j ≤ k) (hx : (Line.L s.data.toList)[j]? = some x) (hy : (Line.L s.data.toList)[k]? = some y) (h1 : rng s.data.toList p q 3 = some ((x.1 : Int), (y.2 : Int), true)) (w : World) :
    Calls Try.prog 5 #[.string s, .int .i64 p, .int .i64 q] w fun e w' => e = .returned (.bool true) ∧ Below w.heap.size w w' := by
  have LV := Lib.hid span_lives
  have g0 : decide ((500 : Int) < (s.size : Int)) = false := decide_eq_false (by omega)
  have hr := Span.right_lies (Span.rng_lies h1)
  obtain ⟨q1, q2, q3⟩ := Span.cut_left hjk hx hy
  rw [data_len] at q2
  have hkl := (List.getElem?_eq_some_iff.1 hy).1
  have hlen := Line.L_length s.data.toList
  rw [data_len] at hlen
  have c0 := fun w => span_Of s p q 3 (by omega) w
  rw [h1, Span.res_some] at c0
  have c1 := fun w => span_Cut s x.1 y.2 true (by omega) w
  rw [Span.cut_lines hr] at c1
  have c2 := fun w => span_Lines s x.1 y.2 true (by omega) w
  rw [Span.lines_whole hr hx hy] at c2
  dsimp only at c1 c2
  generalize cutA s.data.toList x.1 y.2 = A at *
  generalize cutB s.data.toList y.2 = B at *
  have hz1 : (s.extract 0 A).size ≤ 1000 := by rw [ByteArray.size_extract]; omega
  have hz2 : (s.extract B s.size).size ≤ 1000 := by rw [ByteArray.size_extract]; omega
  have c3 := fun w => line_Count (s.extract 0 A ++ s.extract B s.size) (by rw [ByteArray.size_append]; omega) w
  rw [Span.left_text] at c3
  have c4 := fun w => line_Count s (by omega) w
  generalize (Line.L s.data.toList).length = NN at *
  generalize (Line.L (s.data.toList.take A ++ s.data.toList.drop B)).length = MM at *
  have C0 := Lib.hid c0
  have C1 := Lib.hid c1
  have C2 := Lib.hid c2
  have C3 := Lib.hid c3
  have C4 := Lib.hid c4
  have f1 : (A : Int) ≤ B := by omega
  have f2 : (B : Int) ≤ s.size := by omega
  have f3 : (A : Int) ≤ s.size := by omega
  have e1 : IntKind.i64.wrap ((k : Int) - (j : Int)) = (k : Int) - (j : Int) := by rw [IntKind.wrap_i64]; omega
  have e2 : IntKind.i64.wrap ((k : Int) - (j : Int) + 1) = (k : Int) - (j : Int) + 1 := by rw [IntKind.wrap_i64]; omega
  have e3 : IntKind.i64.wrap ((NN : Int) - ((k : Int) - (j : Int) + 1)) = (NN : Int) - ((k : Int) - (j : Int) + 1) := by rw [IntKind.wrap_i64]; omega
  have g1 : decide ((A : Int) < 0) = false := decide_eq_false (by omega)
  have g2 : decide ((B : Int) < (A : Int)) = false := decide_eq_false (by omega)
  have g2n : decide (B < A) = false := decide_eq_false (by omega)
  have g3 : decide ((s.size : Int) < (B : Int)) = false := decide_eq_false (by omega)
  have g3n : decide (s.size < B) = false := decide_eq_false (by omega)
  have g4 : decide ((j : Int) < 0) = false := decide_eq_false (by omega)
  have g5 : decide ((k : Int) < (j : Int)) = false := decide_eq_false (by omega)
  have g5n : decide (k < j) = false := decide_eq_false (by omega)
  have g6 : ((MM : Int) == max 1 ((NN : Int) - ((k : Int) - (j : Int) + 1))) = true := by rw [beq_iff_eq]; exact q3
  clear c0 c1 c2 c3 c4 h1 hr hx hy hjk hkl hlen q3
  have hX := Below.refl w.heap.size w
  go_enter Try.func5, Try.ntmps5
  go_wp2_with fail
  with_reducible refine (C0.out _).mono ?_
  rintro e w1 ⟨rfl, hb1⟩
  have A1 := Blk.new w1 24 #[.int .i64 (x.1 : Int), .int .i64 (y.2 : Int), .bool true]
  replace hX := (hX.trans (hb1.mono hX.size)).alloc (hX.trans (hb1.mono hX.size)).size (.cells #[.int .i64 (x.1 : Int), .int .i64 (y.2 : Int), .bool true] 24)
  obtain ⟨a0, a1, a2, _, _, _⟩ := row_three A1
  clear hb1
  go_wp2_with fail
  with_reducible refine (C1.out _).mono ?_
  rintro e w2 ⟨rfl, hb2⟩
  have B2 := Blk.new w2 24 #[.int .i64 (A : Int), .int .i64 (B : Int), .bool true]
  have A2 := (A1.below hb2 A1.lt).alloc (.cells #[.int .i64 (A : Int), .int .i64 (B : Int), .bool true] 24)
  replace hX := (hX.trans (hb2.mono hX.size)).alloc (hX.trans (hb2.mono hX.size)).size (.cells #[.int .i64 (A : Int), .int .i64 (B : Int), .bool true] 24)
  clear a0 a1 a2 A1 hb2
  obtain ⟨a0, a1, a2, _, _, _⟩ := row_three A2
  go_wp2_with fail
  with_reducible refine (C2.out _).mono ?_
  rintro e w3 ⟨rfl, hb3⟩
  have B3 := B2.below hb3 B2.lt
  replace hX := hX.trans (hb3.mono hX.size)
  clear a0 a1 a2 A2 B2 hb3
  obtain ⟨b0, b1, b2, _, _, _⟩ := row_three B3
  go_wp2_with fail
  go_region
  all_goals replace hX := hX.trans ((below_gb (gb_drew w3 none)).mono hX.size)
  all_goals (go_wp2_with (first
    | (go_at_call 14; (with_reducible refine (C3.out _).mono ?_); rintro e w4 ⟨rfl, hbn⟩; replace hX := hX.trans (hbn.mono hX.size); clear hbn)
    | (go_at_call 14; (with_reducible refine (C4.out _).mono ?_); rintro e w5 ⟨rfl, hbn⟩; replace hX := hX.trans (hbn.mono hX.size); clear hbn)
    | (go_at_call 6; (with_reducible refine (LV.out _).mono ?_); rintro e w9 ⟨rfl, hbn⟩; replace hX := hX.trans (hbn.mono hX.size); clear hbn)))
  all_goals go_ret
  all_goals exact ⟨rfl, hX⟩
theorem spanCuts_walk (s : ByteArray) (p q : Int) (w : World) :
    Calls Try.prog 5 #[.string s, .int .i64 p, .int .i64 q] w fun e w' => e = .returned (.bool true) ∧ Below w.heap.size w w' := by
  have LV := Lib.hid span_lives
  by_cases h0 : 500 < s.size
  · have g0 : decide ((500 : Int) < (s.size : Int)) = true := decide_eq_true (by omega)
    go_enter Try.func5, Try.ntmps5
    go_wp2_with fail
    refine (LV.out _).mono ?_
    rintro e w1 ⟨rfl, hb⟩
    go_wp2
    go_ret
    exact ⟨rfl, hb⟩
  have g0 : decide ((500 : Int) < (s.size : Int)) = false := decide_eq_false (by omega)
  cases h : (Utf.place s.data.toList p && Utf.place s.data.toList q) with
  | false => exact spanCuts_none s p q (by omega) (Span.rng_bad h) w
  | true =>
    obtain ⟨hp, hq⟩ := Bool.and_eq_true_iff.1 h
    obtain ⟨j, k, x, y, hjk, hx, hy, h1⟩ := Span.rng_lines hp hq
    exact spanCuts_some s p q (by omega) hjk hx hy h1 w
section
open Go.ChangeShapes Go.WideShapes Go.ChangeAt
open Go.ChangeMaps (open_string)
set_option maxRecDepth 100000 in
theorem spanCuts_lifted (os : Os) (started : os.Started) (H : Type) (enc : TypeId × Value → H) :
    ReturnsInHanded {} Try.checked os 5 .any (Rows.spanCutsSpec.pre6 enc Try.prog Try.f5 Rows.spanCutsRow.domain false) (Rows.spanCutsSpec.post enc Try.prog Try.f5 false true false false) := by
  refine returnsInHanded_of_change_sized (C := Try.checked) own_knob started (by kernel_rfl) Try.func5
    (ChangeSpec.witness6 (enc := enc) (C := Try.checked) false ⟨#[], #[.string .empty, .int .i64 0, .int .i64 0], []⟩ 8 (by kernel_rfl) (by kernel_rfl) (by kernel_rfl) (by kernel_rfl)) ?_
  intro W base args ds gs before hval0 hW _ hsz0 _
  have hsz : (DataW.weightsEach Try.prog (Try.f5.params.toList ++ Rows.spanCutsSpec.plain.varTypes Try.prog) (ds ++ gs)).all (· ≤ reachBytes) = true := hsz0
  clear hsz0
  have hval : ∀ (j : Nat) t v, Try.f5.params[j]? = some t → args[j]? = some v → Value.okWide Try.prog W .any base t v := hval0
  have hW' := hW
  obtain ⟨p, q, hA0, hV, rfl, hfz, hnd⟩ := hW
  have hA : DataW.TrodAll enc Try.prog W 0 (fun _ => true) true Try.f5.params.toList args.toList ds p := hA0
  rw [Try.params5] at hA hval hsz
  obtain ⟨v0, vs0, d0, ds0, p0, q0, hargs, rfl, rfl, h0, r0⟩ := trodAll_cons hA
  obtain ⟨v1, vs1, d1, ds1, p1, q1, rfl, rfl, rfl, h1, r1⟩ := trodAll_cons r0
  obtain ⟨v2, vs2, d2, ds2, p2, q2, rfl, rfl, rfl, h2, r2⟩ := trodAll_cons r1
  obtain ⟨rfl, rfl, rfl⟩ := trodAll_nil r2
  obtain rfl : args = #[v0, v1, v2] := by cases args; simp_all
  obtain ⟨rfl, rfl⟩ := trodVars_none hV
  obtain ⟨s0, rfl, rfl, rfl, hmax0⟩ := open_string Try.underlying9 (hval 0 9 v0 rfl rfl) h0
  have hs0 : s0.size ≤ 140737488351232 := by rw [← data_len]; exact sized_string hsz (j := 0) (t := 9) rfl rfl
  obtain ⟨n1, rfl, rfl, rfl, wn1⟩ := open_int Try.underlying3 (hval 1 3 v1 rfl rfl) h1
  obtain ⟨n2, rfl, rfl, rfl, wn2⟩ := open_int Try.underlying3 (hval 2 3 v2 rfl rfl) h2
  refine (spanCuts_walk s0 n1 n2 _).mono fun e W' ⟨he, hb⟩ => ?_
  subst he
  exact ⟨_, rfl, law_post rfl rfl (by rw [Try.params5]; decide +kernel) ⟨rfl, rfl, rfl⟩ hW' hb⟩
theorem spanCuts_holds : Rows.SpanCutsSaid :=
  OpenClaim.holds_of_wide 5 Try.f5 rfl rfl rfl rfl rfl rfl rfl ⟨rfl, rfl, rfl, rfl, rfl⟩ rfl rfl rfl rfl rfl (by kernel_rfl) Try.func5 (by kernel_rfl)
    (of_decide_eq_true (by kernel_rfl)) (by unfold Func.isWrapper; first | (rw [if_pos (by decide +kernel)]; kernel_rfl) | (rw [if_neg (by decide +kernel)]; exact ⟨rfl, rfl⟩))
    (fun os started H enc _ => spanCuts_lifted os started H enc)
end
end Go.Proofs.Ytnelhhijihmpbaa
