/-
  'calamuslaw15.HopGoes' answers true for every text, place, key and count: where any motion by words leads is what the document tells.
-/
import Derived.Test.YtjkcdmlbnfibgaaHopLives
import Derived.Test.YtjkcdmlbnfibgaaHopRefGoAll
namespace Go.Proofs.Ytjkcdmlbnfibgaa
open Go.RowKit
set_option maxHeartbeats 1000000 in
set_option maxRecDepth 100000 in
theorem hopGoes_walk (s : ByteArray) (p : Int) (key : ByteArray) (n : Int) (hn : n ≤ 9223372036854775807) (w : World) :
    Calls Try.prog 4 #[.string s, .int .i64 p, .string key, .int .i64 n] w fun e w' => e = .returned (.bool true) ∧ Below w.heap.size w w' := by
  by_cases h3 : 150 < s.size
  · go_enter Try.func4, Try.ntmps4
    go_wp2_with fail
    refine (hop_lives _).mono ?_
    rintro e w1 ⟨rfl, hb⟩
    go_wp2
    go_ret
    exact ⟨rfl, hb⟩
  have g0 : decide ((150 : Int) < (s.size : Int)) = false := by simp; omega
  by_cases h4 : 200 < n
  · have g1 : decide ((200 : Int) < n) = true := by simp [h4]
    clear h3
    go_enter Try.func4, Try.ntmps4
    go_wp2_with fail
    refine (hop_lives _).mono ?_
    rintro e w1 ⟨rfl, hb⟩
    go_wp2
    go_ret
    exact ⟨rfl, hb⟩
  have g1 : decide ((200 : Int) < n) = false := by simp; omega
  have A := fun w => hop_Go s p key n (by omega) hn w
  have B := fun w => ref15_Go s p key n (by omega) hn w
  have C := Lib.hid (fun w => hop_Has key w)
  have D := Lib.hid (fun w => ref15_Has key w)
  generalize Hop.goV s.data.toList p key.data.toList n = v at *
  generalize (Hop.mot key.data.toList).isSome = b at *
  clear hn h3 h4
  by_cases hv : v < 0
  · simp only [Hop.res_no hv] at A B
    have A := Lib.hid A
    have B := Lib.hid B
    clear hv
    go_enter Try.func4, Try.ntmps4
    go_wp2_with fail
    refine (A.out _).mono ?_
    rintro e w0 ⟨rfl, hb0⟩
    go_wp2_with fail
    refine (B.out _).mono ?_
    rintro e w1 ⟨rfl, hb1⟩
    have k1 := hop_below hb0 hb1
    clear hb0 hb1
    go_wp2_with fail
    refine (C.out _).mono ?_
    rintro e w2 ⟨rfl, rfl⟩
    go_wp2_with fail
    refine (D.out _).mono ?_
    rintro e w3 ⟨rfl, rfl⟩
    go_wp2_with fail
    refine (hop_lives _).mono ?_
    rintro e z9 ⟨rfl, hz9⟩
    have n9 := hop_below k1 hz9
    go_wp2
    go_ret
    exact ⟨rfl, n9⟩
  · simp only [Hop.res_at (Int.not_lt.1 hv)] at A B
    have A := Lib.hid A
    have B := Lib.hid B
    clear hv
    go_enter Try.func4, Try.ntmps4
    go_wp2_with fail
    refine (A.out _).mono ?_
    rintro e w0 ⟨rfl, hb0⟩
    go_wp2_with fail
    refine (B.out _).mono ?_
    rintro e w1 ⟨rfl, hb1⟩
    have k1 := hop_below hb0 hb1
    clear hb0 hb1
    go_wp2_with fail
    refine (C.out _).mono ?_
    rintro e w2 ⟨rfl, rfl⟩
    go_wp2_with fail
    refine (D.out _).mono ?_
    rintro e w3 ⟨rfl, rfl⟩
    go_wp2_with fail
    refine (hop_lives _).mono ?_
    rintro e z9 ⟨rfl, hz9⟩
    have n9 := hop_below k1 hz9
    go_wp2
    go_ret
    exact ⟨rfl, n9⟩
section
open Go.ChangeShapes Go.WideShapes Go.ChangeAt
open Go.ChangeMaps (open_string)
set_option maxRecDepth 100000 in
theorem hopGoes_lifted (os : Os) (started : os.Started) (H : Type) (enc : TypeId × Value → H) :
    ReturnsInHanded {} Try.checked os 4 .any (Rows.hopGoesSpec.pre6 enc Try.prog Try.f4 Rows.hopGoesRow.domain false) (Rows.hopGoesSpec.post enc Try.prog Try.f4 false true false false) := by
  refine returnsInHanded_of_change_sized (C := Try.checked) own_knob started (by kernel_rfl) Try.func4
    (ChangeSpec.witness6 (enc := enc) (C := Try.checked) false ⟨#[], #[.string .empty, .int .i64 0, .string .empty, .int .i64 0], []⟩ 8 (by kernel_rfl) (by kernel_rfl) (by kernel_rfl) (by kernel_rfl)) ?_
  intro W base args ds gs before hval0 hW _ hsz0 _
  have hsz : (DataW.weightsEach Try.prog (Try.f4.params.toList ++ Rows.hopGoesSpec.plain.varTypes Try.prog) (ds ++ gs)).all (· ≤ reachBytes) = true := hsz0
  clear hsz0
  have hval : ∀ (j : Nat) t v, Try.f4.params[j]? = some t → args[j]? = some v → Value.okWide Try.prog W .any base t v := hval0
  have hW' := hW
  obtain ⟨p, q, hA0, hV, rfl, hfz, hnd⟩ := hW
  have hA : DataW.TrodAll enc Try.prog W 0 (fun _ => true) true Try.f4.params.toList args.toList ds p := hA0
  rw [Try.params4] at hA hval hsz
  obtain ⟨v0, vs0, d0, ds0, p0, q0, hargs, rfl, rfl, h0, r0⟩ := trodAll_cons hA
  obtain ⟨v1, vs1, d1, ds1, p1, q1, rfl, rfl, rfl, h1, r1⟩ := trodAll_cons r0
  obtain ⟨v2, vs2, d2, ds2, p2, q2, rfl, rfl, rfl, h2, r2⟩ := trodAll_cons r1
  obtain ⟨v3, vs3, d3, ds3, p3, q3, rfl, rfl, rfl, h3, r3⟩ := trodAll_cons r2
  obtain ⟨rfl, rfl, rfl⟩ := trodAll_nil r3
  obtain rfl : args = #[v0, v1, v2, v3] := by cases args; simp_all
  obtain ⟨rfl, rfl⟩ := trodVars_none hV
  obtain ⟨s0, rfl, rfl, rfl, hmax0⟩ := open_string Try.underlying9 (hval 0 9 v0 rfl rfl) h0
  have hs0 : s0.size ≤ 140737488351232 := by rw [← data_len]; exact sized_string hsz (j := 0) (t := 9) rfl rfl
  obtain ⟨n1, rfl, rfl, rfl, wn1⟩ := open_int Try.underlying3 (hval 1 3 v1 rfl rfl) h1
  obtain ⟨s2, rfl, rfl, rfl, hmax2⟩ := open_string Try.underlying9 (hval 2 9 v2 rfl rfl) h2
  have hs2 : s2.size ≤ 140737488351232 := by rw [← data_len]; exact sized_string hsz (j := 2) (t := 9) rfl rfl
  obtain ⟨n3, rfl, rfl, rfl, wn3⟩ := open_int Try.underlying3 (hval 3 3 v3 rfl rfl) h3
  refine (hopGoes_walk s0 n1 s2 n3 (hop_int_le wn3) _).mono fun e W' ⟨he, hb⟩ => ?_
  subst he
  exact ⟨_, rfl, law_post rfl rfl (by rw [Try.params4]; decide +kernel) ⟨rfl, rfl, rfl⟩ hW' hb⟩
theorem hopGoes_holds : Rows.HopGoesSaid :=
  OpenClaim.holds_of_wide 4 Try.f4 rfl rfl rfl rfl rfl rfl rfl ⟨rfl, rfl, rfl, rfl, rfl⟩ rfl rfl rfl rfl rfl (by kernel_rfl) Try.func4 (by kernel_rfl)
    (of_decide_eq_true (by kernel_rfl)) (by unfold Func.isWrapper; first | (rw [if_pos (by decide +kernel)]; kernel_rfl) | (rw [if_neg (by decide +kernel)]; exact ⟨rfl, rfl⟩))
    (fun os started H enc _ => hopGoes_lifted os started H enc)
end
end Go.Proofs.Ytjkcdmlbnfibgaa
