/-
  'calamuslaw18.ParaGoes' answers true for every text, place, key and count: where any motion by paragraphs leads is what the document tells.
-/
import Derived.Test.YtjgfcnjnedgejaaParaLives
namespace Go.Proofs.Ytjgfcnjnedgejaa
open Go.RowKit
theorem Para.res_form (v : Int) : ∃ (q : Int) (b : Bool), Para.res v = .tuple #[.int .i64 q, .bool b] := by
  unfold Para.res
  split
  · exact ⟨_, _, rfl⟩
  · exact ⟨_, _, rfl⟩
set_option maxHeartbeats 2000000 in
set_option maxRecDepth 100000 in
theorem paraGoes_walk (s : ByteArray) (p : Int) (key : ByteArray) (n : Int) (w : World) :
    Calls Try.prog 3 #[.string s, .int .i64 p, .string key, .int .i64 n] w fun e w' => e = .returned (.bool true) ∧ Below w.heap.size w w' := by
  have LV := Lib.hid para_lives
  have hX := Below.refl w.heap.size w
  by_cases h0 : 200 < s.size
  · have g0 : decide ((200 : Int) < (s.size : Int)) = true := decide_eq_true (by omega)
    go_enter Try.func3, Try.ntmps3
    go_wp2_with (first
      | (go_at_call 7; (with_reducible refine (LV.out _).mono ?_); rintro e w8 ⟨rfl, hb⟩; replace hX := para_run hX hb; clear hb))
    go_ret
    exact ⟨rfl, hX⟩
  have g0 : decide ((200 : Int) < (s.size : Int)) = false := decide_eq_false (by omega)
  by_cases h1 : 200 < n
  · have g1 : decide ((200 : Int) < n) = true := decide_eq_true h1
    go_enter Try.func3, Try.ntmps3
    go_wp2_with (first
      | (go_at_call 7; (with_reducible refine (LV.out _).mono ?_); rintro e w8 ⟨rfl, hb⟩; replace hX := para_run hX hb; clear hb))
    go_ret
    exact ⟨rfl, hX⟩
  have g1 : decide ((200 : Int) < n) = false := decide_eq_false h1
  have c0 := fun w => para_Go s p key n (by omega) (by omega) w
  have c1 := fun w => ref18_Go s p key n (by omega) (by omega) w
  obtain ⟨q, b, hr⟩ := Para.res_form (Para.goV s.data.toList p key.data.toList n)
  rw [hr] at c0 c1
  have C0 := Lib.hid c0
  have C1 := Lib.hid c1
  have t1 : (q == q) = true := by simp
  have t2 : (b == b) = true := by simp
  clear c0 c1 hr h0 h1
  go_enter Try.func3, Try.ntmps3
  go_wp2_with (first
    | (go_at_call 8; (with_reducible refine (C0.out _).mono ?_); rintro e w1 ⟨rfl, hb⟩; replace hX := para_run hX hb; clear hb)
    | (go_at_call 9; (with_reducible refine (C1.out _).mono ?_); rintro e w2 ⟨rfl, hb⟩; replace hX := para_run hX hb; clear hb)
    | (go_at_call 7; (with_reducible refine (LV.out _).mono ?_); rintro e w8 ⟨rfl, hb⟩; replace hX := para_run hX hb; clear hb))
  go_ret
  exact ⟨rfl, hX⟩
section
open Go.ChangeShapes Go.WideShapes Go.ChangeAt
open Go.ChangeMaps (open_string)
set_option maxRecDepth 100000 in
theorem paraGoes_lifted (os : Os) (started : os.Started) (H : Type) (enc : TypeId × Value → H) :
    ReturnsInHanded {} Try.checked os 3 .any (Rows.paraGoesSpec.pre6 enc Try.prog Try.f3 Rows.paraGoesRow.domain false) (Rows.paraGoesSpec.post enc Try.prog Try.f3 false true false false) := by
  refine returnsInHanded_of_change_sized (C := Try.checked) own_knob started (by kernel_rfl) Try.func3
    (ChangeSpec.witness6 (enc := enc) (C := Try.checked) false ⟨#[], #[.string .empty, .int .i64 0, .string .empty, .int .i64 0], []⟩ 8 (by kernel_rfl) (by kernel_rfl) (by kernel_rfl) (by kernel_rfl)) ?_
  intro W base args ds gs before hval0 hW _ hsz0 _
  have hsz : (DataW.weightsEach Try.prog (Try.f3.params.toList ++ Rows.paraGoesSpec.plain.varTypes Try.prog) (ds ++ gs)).all (· ≤ reachBytes) = true := hsz0
  clear hsz0
  have hval : ∀ (j : Nat) t v, Try.f3.params[j]? = some t → args[j]? = some v → Value.okWide Try.prog W .any base t v := hval0
  have hW' := hW
  obtain ⟨p, q, hA0, hV, rfl, hfz, hnd⟩ := hW
  have hA : DataW.TrodAll enc Try.prog W 0 (fun _ => true) true Try.f3.params.toList args.toList ds p := hA0
  rw [Try.params3] at hA hval hsz
  obtain ⟨v0, vs0, d0, ds0, p0, q0, hargs, rfl, rfl, h0, r0⟩ := trodAll_cons hA
  obtain ⟨v1, vs1, d1, ds1, p1, q1, rfl, rfl, rfl, h1, r1⟩ := trodAll_cons r0
  obtain ⟨v2, vs2, d2, ds2, p2, q2, rfl, rfl, rfl, h2, r2⟩ := trodAll_cons r1
  obtain ⟨v3, vs3, d3, ds3, p3, q3, rfl, rfl, rfl, h3, r3⟩ := trodAll_cons r2
  obtain ⟨rfl, rfl, rfl⟩ := trodAll_nil r3
  obtain rfl : args = #[v0, v1, v2, v3] := by cases args; simp_all
  obtain ⟨rfl, rfl⟩ := trodVars_none hV
  obtain ⟨s0, rfl, rfl, rfl, hmax0⟩ := open_string Try.underlying9 (hval 0 9 v0 rfl rfl) h0
  have hs0 : s0.size ≤ 140737488351232 := by rw [← data_len]; exact sized_string hsz (j := 0) (t := 9) rfl rfl
  obtain ⟨n1, rfl, rfl, rfl, wn1⟩ := open_int Try.underlying3 (hval 1 3 v1 rfl rfl) h1
  obtain ⟨s2, rfl, rfl, rfl, hmax2⟩ := open_string Try.underlying9 (hval 2 9 v2 rfl rfl) h2
  have hs2 : s2.size ≤ 140737488351232 := by rw [← data_len]; exact sized_string hsz (j := 2) (t := 9) rfl rfl
  obtain ⟨n3, rfl, rfl, rfl, wn3⟩ := open_int Try.underlying3 (hval 3 3 v3 rfl rfl) h3
  refine (paraGoes_walk s0 n1 s2 n3 _).mono fun e W' ⟨he, hb⟩ => ?_
  subst he
  exact ⟨_, rfl, law_post rfl rfl (by rw [Try.params3]; decide +kernel) ⟨rfl, rfl, rfl⟩ hW' hb⟩
theorem paraGoes_holds : Rows.ParaGoesSaid :=
  OpenClaim.holds_of_wide 3 Try.f3 rfl rfl rfl rfl rfl rfl rfl ⟨rfl, rfl, rfl, rfl, rfl⟩ rfl rfl rfl rfl rfl (by kernel_rfl) Try.func3 (by kernel_rfl)
    (of_decide_eq_true (by kernel_rfl)) (by unfold Func.isWrapper; first | (rw [if_pos (by decide +kernel)]; kernel_rfl) | (rw [if_neg (by decide +kernel)]; exact ⟨rfl, rfl⟩))
    (fun os started H enc _ => paraGoes_lifted os started H enc)
end
end Go.Proofs.Ytjgfcnjnedgejaa
