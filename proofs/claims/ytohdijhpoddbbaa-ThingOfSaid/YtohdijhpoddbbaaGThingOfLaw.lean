/-
  'calamuslaw19.ThingOf' answers true for every text, place, 'all' and kind: the thing of any kind is what the document tells.
-/
import Derived.Test.YtohdijhpoddbbaaJT
import Derived.Test.YtohdijhpoddbbaaJR
import Derived.Test.YtohdijhpoddbbaaFrame
namespace Go.Proofs.Ytohdijhpoddbbaa
open Go.RowKit
open Thing (res thg num)
set_option maxHeartbeats 2000000 in
set_option maxRecDepth 100000 in
theorem thingOf_walk (s : ByteArray) (p : Int) (all : Bool) (key : ByteArray) (hk : key.size ≤ 140737488351232) (w : World) :
    Calls Try.prog 3 #[.string s, .int .i64 p, .bool all, .string key] w fun e w' => e = .returned (.bool true) ∧ Below w.heap.size w w' := by
  have LV := Lib.hid thing_lives
  by_cases h0 : 300 < s.size
  · have g0 : decide ((300 : Int) < (s.size : Int)) = true := decide_eq_true (by omega)
    go_enter Try.func3, Try.ntmps3
    go_wp2_with fail
    refine (LV.out _).mono ?_
    rintro e w1 ⟨rfl, hb⟩
    go_wp2
    go_ret
    exact ⟨rfl, hb⟩
  have g0 : decide ((300 : Int) < (s.size : Int)) = false := decide_eq_false (by omega)
  have c0 := fun w => thing_Of s p all key (by omega) (by omega) w
  have c1 := fun w => ref19_Of s p all key (by omega) w
  have C2 := Lib.hid (fun w => thing_Has key (by omega) w)
  have C3 := Lib.hid (fun w => ref19_Has key w)
  obtain ⟨a, b, c, d, hr⟩ := Thing.res_form (thg s.data.toList p all key.data.toList)
  rw [hr] at c0 c1
  have C0 := Lib.hid c0
  have C1 := Lib.hid c1
  generalize (num key.data.toList).isSome = m at *
  have t2 : (d == d) = true := by simp
  have t3 : (m == m) = true := by simp
  have ES := @eql_same
  clear c0 c1 hr h0 hk
  go_enter Try.func3, Try.ntmps3
  go_wp2_with fail
  refine (C0.out _).mono ?_
  rintro e w1 ⟨rfl, hb1⟩
  have A1 := Blk.new w1 24 #[.int .i64 a, .int .i64 b, .bool c]
  have X1 := hb1.alloc hb1.size (.cells #[.int .i64 a, .int .i64 b, .bool c] 24)
  clear hb1
  go_wp2_with fail
  refine (C1.out _).mono ?_
  rintro e w2 ⟨rfl, hb2⟩
  have A2 := (A1.below hb2 A1.lt).alloc (.cells #[.int .i64 a, .int .i64 b, .bool c] 24)
  have B2 := Blk.new w2 24 #[.int .i64 a, .int .i64 b, .bool c]
  have X2 := (X1.trans (hb2.mono X1.size)).alloc (X1.trans (hb2.mono X1.size)).size (.cells #[.int .i64 a, .int .i64 b, .bool c] 24)
  obtain ⟨a0, a1, a2, _, _, _⟩ := row_three A2
  obtain ⟨b0, b1, b2, _, _, _⟩ := row_three B2
  clear A1 X1 hb2 A2 B2
  go_wp2_with fail
  refine (C2.out _).mono ?_
  rintro e w3 ⟨rfl, hb3⟩
  have X3 := X2.trans (hb3.mono X2.size)
  clear hb3
  go_wp2_with fail
  refine (C3.out _).mono ?_
  rintro e w4 ⟨rfl, hb4⟩
  have X4 := X3.trans (hb4.mono X3.size)
  clear hb4
  go_wp2_with fail
  refine (LV.out _).mono ?_
  rintro e w5 ⟨rfl, hb5⟩
  have X5 := X4.trans (hb5.mono X4.size)
  go_wp2
  go_ret
  exact ⟨rfl, X5⟩
section
open Go.ChangeShapes Go.WideShapes Go.ChangeAt
open Go.ChangeMaps (open_string)
set_option maxRecDepth 100000 in
theorem thingOf_lifted (os : Os) (started : os.Started) (H : Type) (enc : TypeId × Value → H) :
    ReturnsInHanded {} Try.checked os 3 .any (Rows.thingOfSpec.pre6 enc Try.prog Try.f3 Rows.thingOfRow.domain false) (Rows.thingOfSpec.post enc Try.prog Try.f3 false true false false) := by
  refine returnsInHanded_of_change_sized (C := Try.checked) own_knob started (by kernel_rfl) Try.func3
    (ChangeSpec.witness6 (enc := enc) (C := Try.checked) false ⟨#[], #[.string .empty, .int .i64 0, .bool false, .string .empty], []⟩ 8 (by kernel_rfl) (by kernel_rfl) (by kernel_rfl) (by kernel_rfl)) ?_
  intro W base args ds gs before hval0 hW _ hsz0 _
  have hsz : (DataW.weightsEach Try.prog (Try.f3.params.toList ++ Rows.thingOfSpec.plain.varTypes Try.prog) (ds ++ gs)).all (· ≤ reachBytes) = true := hsz0
  clear hsz0
  have hval : ∀ (j : Nat) t v, Try.f3.params[j]? = some t → args[j]? = some v → Value.okWide Try.prog W .any base t v := hval0
  have hW' := hW
  obtain ⟨p, q, hA0, hV, rfl, hfz, hnd⟩ := hW
  have hA : DataW.TrodAll enc Try.prog W 0 (fun _ => true) true Try.f3.params.toList args.toList ds p := hA0
  rw [Try.params3] at hA hval hsz
  obtain ⟨v0, vs0, d0, ds0, p0, q0, hargs, rfl, rfl, h0, r0⟩ := trodAll_cons hA
  obtain ⟨v1, vs1, d1, ds1, p1, q1, rfl, rfl, rfl, h1, r1⟩ := trodAll_cons r0
  obtain ⟨v2, vs2, d2, ds2, p2, q2, rfl, rfl, rfl, h2, r2⟩ := trodAll_cons r1
  obtain ⟨v3, vs3, d3, ds3, p3, q3, rfl, rfl, rfl, h3, r3⟩ := trodAll_cons r2
  obtain ⟨rfl, rfl, rfl⟩ := trodAll_nil r3
  obtain rfl : args = #[v0, v1, v2, v3] := by cases args; simp_all
  obtain ⟨rfl, rfl⟩ := trodVars_none hV
  obtain ⟨s0, rfl, rfl, rfl, hmax0⟩ := open_string Try.underlying9 (hval 0 9 v0 rfl rfl) h0
  have hs0 : s0.size ≤ 140737488351232 := by rw [← data_len]; exact sized_string hsz (j := 0) (t := 9) rfl rfl
  obtain ⟨n1, rfl, rfl, rfl, wn1⟩ := open_int Try.underlying3 (hval 1 3 v1 rfl rfl) h1
  obtain ⟨b2, rfl, rfl, rfl⟩ := open_bool Try.underlying4 (hval 2 4 v2 rfl rfl) h2
  obtain ⟨s3, rfl, rfl, rfl, hmax3⟩ := open_string Try.underlying9 (hval 3 9 v3 rfl rfl) h3
  have hs3 : s3.size ≤ 140737488351232 := by rw [← data_len]; exact sized_string hsz (j := 3) (t := 9) rfl rfl
  refine (thingOf_walk s0 n1 b2 s3 (by omega) _).mono fun e W' ⟨he, hb⟩ => ?_
  subst he
  exact ⟨_, rfl, law_post rfl rfl (by rw [Try.params3]; decide +kernel) ⟨rfl, rfl, rfl⟩ hW' hb⟩
theorem thingOf_holds : Rows.ThingOfSaid :=
  OpenClaim.holds_of_wide 3 Try.f3 rfl rfl rfl rfl rfl rfl rfl ⟨rfl, rfl, rfl, rfl, rfl⟩ rfl rfl rfl rfl rfl (by kernel_rfl) Try.func3 (by kernel_rfl)
    (of_decide_eq_true (by kernel_rfl)) (by unfold Func.isWrapper; first | (rw [if_pos (by decide +kernel)]; kernel_rfl) | (rw [if_neg (by decide +kernel)]; exact ⟨rfl, rfl⟩))
    (fun os started H enc _ => thingOf_lifted os started H enc)
end
end Go.Proofs.Ytohdijhpoddbbaa
