/-
  'calamuslaw05.ClassRunes' answers true for every text and every number: the class and the great class of anything in any text, and where runes of it stand, is what the document tells.
-/
import Derived.Test.YtgfafhbkmpgbjaaClassLives
import Derived.Test.YtgfafhbkmpgbjaaClassRefRun
import Derived.Test.YtgfafhbkmpgbjaaFrame
namespace Go.Proofs.Ytgfafhbkmpgbjaa
open Go.RowKit
set_option maxHeartbeats 1000000 in
set_option maxRecDepth 100000 in
theorem classRunes_walk (s : ByteArray) (p : Int) {w : World} (hs : s.size ≤ 140737488351232) :
    Calls Try.prog 3 #[.string s, .int .i64 p] w fun e w' => e = .returned (.bool true) ∧ Below w.heap.size w w' := by
  rcases Nat.lt_or_ge 500 s.size with h | h
  · go_enter Try.func3, Try.ntmps3
    go_wp2_with fail
    refine (class_lives _).mono ?_
    rintro e w1 ⟨rfl, rfl⟩
    go_wp2
    go_ret
    exact ⟨rfl, Below.refl _ _⟩
  · have a0 := Lib.hid (fun w => class_Run s p false (by omega) w)
    have b0 := Lib.hid (fun w => ref5_Run s p false (by omega) w)
    have a1 := Lib.hid (fun w => class_Run s p true (by omega) w)
    have b1 := Lib.hid (fun w => ref5_Run s p true (by omega) w)
    have a2 := Lib.hid (fun w => class_Of s p (by omega) w)
    have b2 := Lib.hid (fun w => ref5_Of s p false (by omega) w)
    have a3 := Lib.hid (fun w => class_Big s p (by omega) w)
    have b3 := Lib.hid (fun w => ref5_Of s p true (by omega) w)
    generalize Class.low_ s.data.toList p false = v0 at *
    generalize Class.high_ s.data.toList p false = v1 at *
    generalize Class.low_ s.data.toList p true = v2 at *
    generalize Class.high_ s.data.toList p true = v3 at *
    generalize Class.kind s.data.toList p false = v4 at *
    generalize Class.kind s.data.toList p true = v5 at *
    clear hs
    go_enter Try.func3, Try.ntmps3
    go_wp2_with fail
    refine (a0.out _).mono ?_
    rintro e w0 ⟨rfl, rfl⟩
    go_wp2_with fail
    refine (b0.out _).mono ?_
    rintro e w1 ⟨rfl, hb1⟩
    go_wp2_with fail
    refine (a1.out _).mono ?_
    rintro e w2 ⟨rfl, rfl⟩
    go_wp2_with fail
    refine (b1.out _).mono ?_
    rintro e w3 ⟨rfl, hb3⟩
    have kk3 := hb1.trans (hb3.mono hb1.size)
    clear hb3 hb1
    go_wp2_with fail
    refine (a2.out _).mono ?_
    rintro e w4 ⟨rfl, rfl⟩
    go_wp2_with fail
    refine (b2.out _).mono ?_
    rintro e w5 ⟨rfl, hb5⟩
    have kk5 := kk3.trans (hb5.mono kk3.size)
    clear hb5 kk3
    go_wp2_with fail
    refine (a3.out _).mono ?_
    rintro e w6 ⟨rfl, rfl⟩
    go_wp2_with fail
    refine (b3.out _).mono ?_
    rintro e w7 ⟨rfl, hb7⟩
    have kk7 := kk5.trans (hb7.mono kk5.size)
    clear hb7 kk5
    go_wp2_with fail
    refine (class_lives _).mono ?_
    rintro e w8 ⟨rfl, rfl⟩
    go_wp2
    go_ret
    exact ⟨rfl, kk7⟩
section
open Go.ChangeShapes Go.WideShapes Go.ChangeAt
open Go.ChangeMaps (open_string)
set_option maxRecDepth 100000 in
theorem classRunes_lifted (os : Os) (started : os.Started) (H : Type) (enc : TypeId × Value → H) :
    ReturnsInHanded {} Try.checked os 3 .any (Rows.classRunesSpec.pre6 enc Try.prog Try.f3 Rows.classRunesRow.domain false) (Rows.classRunesSpec.post enc Try.prog Try.f3 false true false false) := by
  refine returnsInHanded_of_change_sized (C := Try.checked) own_knob started (by kernel_rfl) Try.func3
    (ChangeSpec.witness6 (enc := enc) (C := Try.checked) false ⟨#[], #[.string .empty, .int .i64 0], []⟩ 8 (by kernel_rfl) (by kernel_rfl) (by kernel_rfl) (by kernel_rfl)) ?_
  intro W base args ds gs before hval0 hW _ hsz0 _
  have hsz : (DataW.weightsEach Try.prog (Try.f3.params.toList ++ Rows.classRunesSpec.plain.varTypes Try.prog) (ds ++ gs)).all (· ≤ reachBytes) = true := hsz0
  clear hsz0
  have hval : ∀ (j : Nat) t v, Try.f3.params[j]? = some t → args[j]? = some v → Value.okWide Try.prog W .any base t v := hval0
  have hW' := hW
  obtain ⟨p, q, hA0, hV, rfl, hfz, hnd⟩ := hW
  have hA : DataW.TrodAll enc Try.prog W 0 (fun _ => true) true Try.f3.params.toList args.toList ds p := hA0
  rw [Try.params3] at hA hval hsz
  obtain ⟨v0, vs0, d0, ds0, p0, q0, hargs, rfl, rfl, h0, r0⟩ := trodAll_cons hA
  obtain ⟨v1, vs1, d1, ds1, p1, q1, rfl, rfl, rfl, h1, r1⟩ := trodAll_cons r0
  obtain ⟨rfl, rfl, rfl⟩ := trodAll_nil r1
  obtain rfl : args = #[v0, v1] := by cases args; simp_all
  obtain ⟨rfl, rfl⟩ := trodVars_none hV
  obtain ⟨s0, rfl, rfl, rfl, hmax0⟩ := open_string Try.underlying9 (hval 0 9 v0 rfl rfl) h0
  have hs0 : s0.size ≤ 140737488351232 := by rw [← data_len]; exact sized_string hsz (j := 0) (t := 9) rfl rfl
  obtain ⟨n1, rfl, rfl, rfl, wn1⟩ := open_int Try.underlying3 (hval 1 3 v1 rfl rfl) h1
  refine (classRunes_walk s0 n1 hs0).mono fun e W' ⟨he, hb⟩ => ?_
  subst he
  exact ⟨_, rfl, law_post rfl rfl (by rw [Try.params3]; decide +kernel) ⟨rfl, rfl, rfl⟩ hW' hb⟩
theorem classRunes_holds : Rows.ClassRunesSaid :=
  OpenClaim.holds_of_wide 3 Try.f3 rfl rfl rfl rfl rfl rfl rfl ⟨rfl, rfl, rfl, rfl, rfl⟩ rfl rfl rfl rfl rfl (by kernel_rfl) Try.func3 (by kernel_rfl)
    (of_decide_eq_true (by kernel_rfl)) (by unfold Func.isWrapper; first | (rw [if_pos (by decide +kernel)]; kernel_rfl) | (rw [if_neg (by decide +kernel)]; exact ⟨rfl, rfl⟩))
    (fun os started H enc _ => classRunes_lifted os started H enc)
end
end Go.Proofs.Ytgfafhbkmpgbjaa
