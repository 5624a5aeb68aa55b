/-
  'calamuslaw04.LineNormal' answers true for every text and all numbers: which places are normal, which one anything is cut to, and where a line's first sign is, is what the document tells.
-/
import Derived.Test.YtaldnhokclofnaaLineLives
import Derived.Test.YtaldnhokclofnaaLineRefs2
import Derived.Test.YtaldnhokclofnaaFrame
namespace Go.Proofs.Ytaldnhokclofnaa
open Go.RowKit
set_option maxHeartbeats 1000000 in
set_option maxRecDepth 100000 in
theorem lineNormal_walk (s : ByteArray) (p k : Int) {w : World} (hs : s.size ≤ 140737488351232) :
    Calls Try.prog 5 #[.string s, .int .i64 p, .int .i64 k] w fun e w' => e = .returned (.bool true) ∧ Below w.heap.size w w' := by
  rcases Nat.lt_or_ge 1000 s.size with h | h
  · go_enter Try.func5, Try.ntmps5
    go_wp2_with fail
    refine (line_lives _).mono ?_
    rintro e w1 ⟨rfl, hb⟩
    go_wp2
    go_ret
    exact ⟨rfl, hb⟩
  · have a0 := Lib.hid (fun w => line_Normal s p (by omega) w)
    have b0 := Lib.hid (fun w => ref4_Normal s p (by omega) w)
    have a1 := Lib.hid (fun w => line_Clamp s p (by omega) w)
    have b1 := Lib.hid (fun w => ref4_Clamp s p (by omega) w)
    have a2 := Lib.hid (fun w => line_First s k (by omega) w)
    have b2 := Lib.hid (fun w => ref4_First s k (by omega) w)
    generalize Line.normal s.data.toList p = v0 at *
    generalize Line.clamp s.data.toList p = v1 at *
    generalize Line.first s.data.toList k = v2 at *
    clear hs
    go_enter Try.func5, Try.ntmps5
    go_wp2_with fail
    refine (a0.out _).mono ?_
    rintro e w0 ⟨rfl, hb0⟩
    go_wp2_with fail
    refine (b0.out _).mono ?_
    rintro e w1 ⟨rfl, hb1⟩
    go_wp2_with fail
    refine (a1.out _).mono ?_
    rintro e w2 ⟨rfl, hb2⟩
    go_wp2_with fail
    refine (b1.out _).mono ?_
    rintro e w3 ⟨rfl, hb3⟩
    go_wp2_with fail
    refine (a2.out _).mono ?_
    rintro e w4 ⟨rfl, hb4⟩
    go_wp2_with fail
    refine (b2.out _).mono ?_
    rintro e w5 ⟨rfl, hb5⟩
    go_wp2_with fail
    refine (line_lives _).mono ?_
    rintro e w6 ⟨rfl, hb6⟩
    have k1 := hb0.trans (hb1.mono hb0.size)
    have k2 := k1.trans (hb2.mono k1.size)
    have k3 := k2.trans (hb3.mono k2.size)
    have k4 := k3.trans (hb4.mono k3.size)
    have k5 := k4.trans (hb5.mono k4.size)
    have k6 := k5.trans (hb6.mono k5.size)
    clear hb0 hb1 hb2 hb3 hb4 hb5 hb6 k1 k2 k3 k4 k5
    go_wp2
    go_ret
    exact ⟨rfl, k6⟩
section
open Go.ChangeShapes Go.WideShapes Go.ChangeAt
open Go.ChangeMaps (open_string)
set_option maxRecDepth 100000 in
theorem lineNormal_lifted (os : Os) (started : os.Started) (H : Type) (enc : TypeId × Value → H) :
    ReturnsInHanded {} Try.checked os 5 .any (Rows.lineNormalSpec.pre6 enc Try.prog Try.f5 Rows.lineNormalRow.domain false) (Rows.lineNormalSpec.post enc Try.prog Try.f5 false true false false) := by
  refine returnsInHanded_of_change_sized (C := Try.checked) own_knob started (by kernel_rfl) Try.func5
    (ChangeSpec.witness6 (enc := enc) (C := Try.checked) false ⟨#[], #[.string .empty, .int .i64 0, .int .i64 0], []⟩ 8 (by kernel_rfl) (by kernel_rfl) (by kernel_rfl) (by kernel_rfl)) ?_
  intro W base args ds gs before hval0 hW _ hsz0 _
  have hsz : (DataW.weightsEach Try.prog (Try.f5.params.toList ++ Rows.lineNormalSpec.plain.varTypes Try.prog) (ds ++ gs)).all (· ≤ reachBytes) = true := hsz0
  clear hsz0
  have hval : ∀ (j : Nat) t v, Try.f5.params[j]? = some t → args[j]? = some v → Value.okWide Try.prog W .any base t v := hval0
  have hW' := hW
  obtain ⟨p, q, hA0, hV, rfl, hfz, hnd⟩ := hW
  have hA : DataW.TrodAll enc Try.prog W 0 (fun _ => true) true Try.f5.params.toList args.toList ds p := hA0
  rw [Try.params5] at hA hval hsz
  obtain ⟨v0, vs0, d0, ds0, p0, q0, hargs, rfl, rfl, h0, r0⟩ := trodAll_cons hA
  obtain ⟨v1, vs1, d1, ds1, p1, q1, rfl, rfl, rfl, h1, r1⟩ := trodAll_cons r0
  obtain ⟨v2, vs2, d2, ds2, p2, q2, rfl, rfl, rfl, h2, r2⟩ := trodAll_cons r1
  obtain ⟨rfl, rfl, rfl⟩ := trodAll_nil r2
  obtain rfl : args = #[v0, v1, v2] := by cases args; simp_all
  obtain ⟨rfl, rfl⟩ := trodVars_none hV
  obtain ⟨s0, rfl, rfl, rfl, hmax0⟩ := open_string Try.underlying9 (hval 0 9 v0 rfl rfl) h0
  have hs0 : s0.size ≤ 140737488351232 := by rw [← data_len]; exact sized_string hsz (j := 0) (t := 9) rfl rfl
  obtain ⟨n1, rfl, rfl, rfl, wn1⟩ := open_int Try.underlying3 (hval 1 3 v1 rfl rfl) h1
  obtain ⟨n2, rfl, rfl, rfl, wn2⟩ := open_int Try.underlying3 (hval 2 3 v2 rfl rfl) h2
  refine (lineNormal_walk s0 n1 n2 hs0).mono fun e W' ⟨he, hb⟩ => ?_
  subst he
  exact ⟨_, rfl, law_post rfl rfl (by rw [Try.params5]; decide +kernel) ⟨rfl, rfl, rfl⟩ hW' hb⟩
theorem lineNormal_holds : Rows.LineNormalSaid :=
  OpenClaim.holds_of_wide 5 Try.f5 rfl rfl rfl rfl rfl rfl rfl ⟨rfl, rfl, rfl, rfl, rfl⟩ rfl rfl rfl rfl rfl (by kernel_rfl) Try.func5 (by kernel_rfl)
    (of_decide_eq_true (by kernel_rfl)) (by unfold Func.isWrapper; first | (rw [if_pos (by decide +kernel)]; kernel_rfl) | (rw [if_neg (by decide +kernel)]; exact ⟨rfl, rfl⟩))
    (fun os started H enc _ => lineNormal_lifted os started H enc)
end
end Go.Proofs.Ytaldnhokclofnaa
