/-
  'calamuslaw22.SpanMade' answers true for every text, two places and kind: what Of tells may be, and does not mind which place is first; both places lie in it.
-/
import Derived.Test.YtnelhhijihmpbaaSpanLives
import Derived.Test.YtnelhhijihmpbaaFrame
namespace Go.Proofs.Ytnelhhijihmpbaa
open Go.RowKit
open Span (res rng)
set_option maxHeartbeats 2000000 in
set_option maxRecDepth 100000 in
theorem spanMade_none (s : ByteArray) (p q kd : Int) (hs : s.size ≤ 500) (h1 : rng s.data.toList p q kd = none) (w : World) :
    Calls Try.prog 4 #[.string s, .int .i64 p, .int .i64 q, .int .i64 kd] w fun e w' => e = .returned (.bool true) ∧ Below w.heap.size w w' := by
  have LV := Lib.hid span_lives
  have g0 : decide ((500 : Int) < (s.size : Int)) = false := decide_eq_false (by omega)
  have c0 := fun w => span_Of s p q kd (by omega) w
  have c1 := fun w => span_Of s q p kd (by omega) w
  rw [Span.rng_comm s.data.toList q p kd] at c1
  rw [h1, Span.res_none] at c0 c1
  have C0 := Lib.hid c0
  have C1 := Lib.hid c1
  have NS := @neq_same
  clear c0 c1 h1 hs
  go_enter Try.func4, Try.ntmps4
  go_wp2_with fail
  with_reducible refine (C0.out _).mono ?_
  rintro e w1 ⟨rfl, hb1⟩
  have A1 := Blk.new w1 24 #[.int .i64 0, .int .i64 0, .bool false]
  have X1 := hb1.alloc hb1.size (.cells #[.int .i64 0, .int .i64 0, .bool false] 24)
  clear hb1
  go_wp2_with fail
  with_reducible refine (C1.out _).mono ?_
  rintro e w2 ⟨rfl, hb2⟩
  have A2 := (A1.below hb2 A1.lt).alloc (.cells #[.int .i64 0, .int .i64 0, .bool false] 24)
  have B2 := Blk.new w2 24 #[.int .i64 0, .int .i64 0, .bool false]
  have hX := (X1.trans (hb2.mono X1.size)).alloc (X1.trans (hb2.mono X1.size)).size (.cells #[.int .i64 0, .int .i64 0, .bool false] 24)
  obtain ⟨a0, a1, a2, _, _, _⟩ := row_three A2
  obtain ⟨b0, b1, b2, _, _, _⟩ := row_three B2
  clear A1 X1 hb2 A2 B2
  go_wp2_with (go_at_call 6; (with_reducible refine (LV.out _).mono ?_); rintro e w9 ⟨rfl, hbn⟩; replace hX := hX.trans (hbn.mono hX.size); clear hbn)
  go_ret
  exact ⟨rfl, hX⟩
set_option maxHeartbeats 2000000 in
set_option maxRecDepth 100000 in
theorem spanMade_some (s : ByteArray) (p q kd : Int) {a b : Int} {l : Bool} (hs : s.size ≤ 500) (h1 : rng s.data.toList p q kd = some (a, b, l)) (w : World) :
    Calls Try.prog 4 #[.string s, .int .i64 p, .int .i64 q, .int .i64 kd] w fun e w' => e = .returned (.bool true) ∧ Below w.heap.size w w' := by
  have LV := Lib.hid span_lives
  have g0 : decide ((500 : Int) < (s.size : Int)) = false := decide_eq_false (by omega)
  have c0 := fun w => span_Of s p q kd (by omega) w
  have c1 := fun w => span_Of s q p kd (by omega) w
  rw [Span.rng_comm s.data.toList q p kd] at c1
  rw [h1, Span.res_some] at c0 c1
  have hl := Span.rng_lies h1
  have r0 := fun w => span_Right s a b l (by omega) w
  rw [Span.right_lies hl] at r0
  have R0 := Lib.hid r0
  have C0 := Lib.hid c0
  have C1 := Lib.hid c1
  have NS := @neq_same
  have g1 : decide (a ≤ min p q) = true := decide_eq_true hl.ap
  have g2 : decide (max p q ≤ b) = true := decide_eq_true hl.qb
  have g3 : (l == (kd == 3)) = true := by rw [hl.ll]; simp
  clear c0 c1 r0 h1 hs hl
  go_enter Try.func4, Try.ntmps4
  go_wp2_with fail
  with_reducible refine (C0.out _).mono ?_
  rintro e w1 ⟨rfl, hb1⟩
  have A1 := Blk.new w1 24 #[.int .i64 a, .int .i64 b, .bool l]
  have X1 := hb1.alloc hb1.size (.cells #[.int .i64 a, .int .i64 b, .bool l] 24)
  clear hb1
  go_wp2_with fail
  with_reducible refine (C1.out _).mono ?_
  rintro e w2 ⟨rfl, hb2⟩
  have A2 := (A1.below hb2 A1.lt).alloc (.cells #[.int .i64 a, .int .i64 b, .bool l] 24)
  have B2 := Blk.new w2 24 #[.int .i64 a, .int .i64 b, .bool l]
  have hX := (X1.trans (hb2.mono X1.size)).alloc (X1.trans (hb2.mono X1.size)).size (.cells #[.int .i64 a, .int .i64 b, .bool l] 24)
  obtain ⟨a0, a1, a2, _, _, _⟩ := row_three A2
  obtain ⟨b0, b1, b2, _, _, _⟩ := row_three B2
  clear A1 X1 hb2 B2
  go_wp2_with (first
    | (go_at_call 11; (with_reducible refine (R0.out _).mono ?_); rintro e w8 ⟨rfl, hbn⟩; replace hX := hX.trans (hbn.mono hX.size); replace A2 := A2.below hbn A2.lt; clear a0 a1 a2 b0 b1 b2 hbn; obtain ⟨a0, a1, a2, _, _, _⟩ := row_three A2)
    | (go_at_call 6; (with_reducible refine (LV.out _).mono ?_); rintro e w9 ⟨rfl, hbn⟩; replace hX := hX.trans (hbn.mono hX.size); clear hbn))
  go_ret
  exact ⟨rfl, hX⟩
theorem spanMade_walk (s : ByteArray) (p q kd : Int) (w : World) :
    Calls Try.prog 4 #[.string s, .int .i64 p, .int .i64 q, .int .i64 kd] w fun e w' => e = .returned (.bool true) ∧ Below w.heap.size w w' := by
  have LV := Lib.hid span_lives
  by_cases h0 : 500 < s.size
  · have g0 : decide ((500 : Int) < (s.size : Int)) = true := decide_eq_true (by omega)
    go_enter Try.func4, Try.ntmps4
    go_wp2_with fail
    refine (LV.out _).mono ?_
    rintro e w1 ⟨rfl, hb⟩
    go_wp2
    go_ret
    exact ⟨rfl, hb⟩
  have g0 : decide ((500 : Int) < (s.size : Int)) = false := decide_eq_false (by omega)
  cases h1 : rng s.data.toList p q kd with
  | none => exact spanMade_none s p q kd (by omega) h1 w
  | some x => exact spanMade_some s p q kd (by omega) h1 w
section
open Go.ChangeShapes Go.WideShapes Go.ChangeAt
open Go.ChangeMaps (open_string)
set_option maxRecDepth 100000 in
theorem spanMade_lifted (os : Os) (started : os.Started) (H : Type) (enc : TypeId × Value → H) :
    ReturnsInHanded {} Try.checked os 4 .any (Rows.spanMadeSpec.pre6 enc Try.prog Try.f4 Rows.spanMadeRow.domain false) (Rows.spanMadeSpec.post enc Try.prog Try.f4 false true false false) := by
  refine returnsInHanded_of_change_sized (C := Try.checked) own_knob started (by kernel_rfl) Try.func4
    (ChangeSpec.witness6 (enc := enc) (C := Try.checked) false ⟨#[], #[.string .empty, .int .i64 0, .int .i64 0, .int .i64 0], []⟩ 8 (by kernel_rfl) (by kernel_rfl) (by kernel_rfl) (by kernel_rfl)) ?_
  intro W base args ds gs before hval0 hW _ hsz0 _
  have hsz : (DataW.weightsEach Try.prog (Try.f4.params.toList ++ Rows.spanMadeSpec.plain.varTypes Try.prog) (ds ++ gs)).all (· ≤ reachBytes) = true := hsz0
  clear hsz0
  have hval : ∀ (j : Nat) t v, Try.f4.params[j]? = some t → args[j]? = some v → Value.okWide Try.prog W .any base t v := hval0
  have hW' := hW
  obtain ⟨p, q, hA0, hV, rfl, hfz, hnd⟩ := hW
  have hA : DataW.TrodAll enc Try.prog W 0 (fun _ => true) true Try.f4.params.toList args.toList ds p := hA0
  rw [Try.params4] at hA hval hsz
  obtain ⟨v0, vs0, d0, ds0, p0, q0, hargs, rfl, rfl, h0, r0⟩ := trodAll_cons hA
  obtain ⟨v1, vs1, d1, ds1, p1, q1, rfl, rfl, rfl, h1, r1⟩ := trodAll_cons r0
  obtain ⟨v2, vs2, d2, ds2, p2, q2, rfl, rfl, rfl, h2, r2⟩ := trodAll_cons r1
  obtain ⟨v3, vs3, d3, ds3, p3, q3, rfl, rfl, rfl, h3, r3⟩ := trodAll_cons r2
  obtain ⟨rfl, rfl, rfl⟩ := trodAll_nil r3
  obtain rfl : args = #[v0, v1, v2, v3] := by cases args; simp_all
  obtain ⟨rfl, rfl⟩ := trodVars_none hV
  obtain ⟨s0, rfl, rfl, rfl, hmax0⟩ := open_string Try.underlying9 (hval 0 9 v0 rfl rfl) h0
  have hs0 : s0.size ≤ 140737488351232 := by rw [← data_len]; exact sized_string hsz (j := 0) (t := 9) rfl rfl
  obtain ⟨n1, rfl, rfl, rfl, wn1⟩ := open_int Try.underlying3 (hval 1 3 v1 rfl rfl) h1
  obtain ⟨n2, rfl, rfl, rfl, wn2⟩ := open_int Try.underlying3 (hval 2 3 v2 rfl rfl) h2
  obtain ⟨n3, rfl, rfl, rfl, wn3⟩ := open_int Try.underlying3 (hval 3 3 v3 rfl rfl) h3
  refine (spanMade_walk s0 n1 n2 n3 _).mono fun e W' ⟨he, hb⟩ => ?_
  subst he
  exact ⟨_, rfl, law_post rfl rfl (by rw [Try.params4]; decide +kernel) ⟨rfl, rfl, rfl⟩ hW' hb⟩
theorem spanMade_holds : Rows.SpanMadeSaid :=
  OpenClaim.holds_of_wide 4 Try.f4 rfl rfl rfl rfl rfl rfl rfl ⟨rfl, rfl, rfl, rfl, rfl⟩ rfl rfl rfl rfl rfl (by kernel_rfl) Try.func4 (by kernel_rfl)
    (of_decide_eq_true (by kernel_rfl)) (by unfold Func.isWrapper; first | (rw [if_pos (by decide +kernel)]; kernel_rfl) | (rw [if_neg (by decide +kernel)]; exact ⟨rfl, rfl⟩))
    (fun os started H enc _ => spanMade_lifted os started H enc)
end
end Go.Proofs.Ytnelhhijihmpbaa
