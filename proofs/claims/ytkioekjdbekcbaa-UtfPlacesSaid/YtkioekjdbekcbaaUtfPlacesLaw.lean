/-
  'calamuslaw03.UtfPlaces' answers true for every text and every number: what package utf tells of a text and of its places is what the document tells.
-/
import Derived.Test.YtkioekjdbekcbaaUtfLives
import Derived.Test.YtkioekjdbekcbaaUtfRefs
import Derived.Test.YtkioekjdbekcbaaFrame
namespace Go.Proofs.Ytkioekjdbekcbaa
open Go.RowKit
set_option maxHeartbeats 400000 in
set_option maxRecDepth 100000 in
theorem utf_places_walk (s : ByteArray) (x : Int) {w : World} (hs : s.size ≤ 140737488351232) :
    Calls Try.prog 3 #[.string s, .int .i64 x] w fun e w' => e = .returned (.bool true) ∧ Below w.heap.size w w' := by
  rcases Nat.lt_or_ge 2000 s.size with h | h
  · go_enter Try.func3, Try.ntmps3
    go_wp2_with fail
    refine (utf_lives _).mono ?_
    rintro e w1 ⟨rfl, hb⟩
    go_wp2
    go_ret
    exact ⟨rfl, hb⟩
  · have a1 := Lib.hid (fun w => utf_Valid s (by omega) w)
    have b1 := Lib.hid (fun w => ref_Valid s (by omega) w)
    have a2 := Lib.hid (fun w => utf_Place s x (by omega) w)
    have b2 := Lib.hid (fun w => ref_Place s x (by omega) w)
    have a3 := Lib.hid (fun w => utf_Next s x (by omega) w)
    have b3 := Lib.hid (fun w => ref_Next s x (by omega) w)
    have a4 := Lib.hid (fun w => utf_Prev s x (by omega) w)
    have b4 := Lib.hid (fun w => ref_Prev s x (by omega) w)
    have a5 := Lib.hid (fun w => utf_Rune s x (by omega) w)
    have b5 := Lib.hid (fun w => ref_Rune s x (by omega) w)
    generalize Utf.valid s.data.toList = v1 at *
    generalize Utf.place s.data.toList x = v2 at *
    generalize Utf.next s.data.toList x = v3 at *
    generalize Utf.prev s.data.toList x = v4 at *
    generalize Utf.rune s.data.toList x = v5 at *
    clear hs
    go_enter Try.func3, Try.ntmps3
    go_wp2_with fail
    refine (a1.out _).mono ?_
    rintro e w1 ⟨rfl, rfl⟩
    go_wp2_with fail
    refine (b1.out _).mono ?_
    rintro e w1 ⟨rfl, hb1⟩
    go_wp2_with fail
    refine (a2.out _).mono ?_
    rintro e w2 ⟨rfl, rfl⟩
    go_wp2_with fail
    refine (b2.out _).mono ?_
    rintro e w2 ⟨rfl, hb2⟩
    go_wp2_with fail
    refine (a3.out _).mono ?_
    rintro e w3 ⟨rfl, rfl⟩
    go_wp2_with fail
    refine (b3.out _).mono ?_
    rintro e w3 ⟨rfl, hb3⟩
    go_wp2_with fail
    refine (a4.out _).mono ?_
    rintro e w4 ⟨rfl, rfl⟩
    go_wp2_with fail
    refine (b4.out _).mono ?_
    rintro e w4 ⟨rfl, hb4⟩
    go_wp2_with fail
    refine (a5.out _).mono ?_
    rintro e w5 ⟨rfl, hb5⟩
    go_wp2_with fail
    refine (b5.out _).mono ?_
    rintro e w6 ⟨rfl, hb6⟩
    go_wp2_with fail
    refine (utf_lives _).mono ?_
    rintro e w7 ⟨rfl, hb7⟩
    have h2 := hb1.trans (hb2.mono hb1.size)
    have h3 := h2.trans (hb3.mono h2.size)
    have h4 := h3.trans (hb4.mono h3.size)
    have h5 := h4.trans (hb5.mono h4.size)
    have h6 := h5.trans (hb6.mono h5.size)
    have h7 := h6.trans (hb7.mono h6.size)
    clear hb1 hb2 hb3 hb4 hb5 hb6 hb7 h2 h3 h4 h5 h6
    go_wp2
    go_ret
    exact ⟨rfl, h7⟩
section
open Go.ChangeShapes Go.WideShapes Go.ChangeAt
open Go.ChangeMaps (open_string)
set_option maxRecDepth 100000 in
theorem utfPlaces_lifted (os : Os) (started : os.Started) (H : Type) (enc : TypeId × Value → H) :
    ReturnsInHanded {} Try.checked os 3 .any (Rows.utfPlacesSpec.pre6 enc Try.prog Try.f3 Rows.utfPlacesRow.domain false) (Rows.utfPlacesSpec.post enc Try.prog Try.f3 false true false false) := by
  refine returnsInHanded_of_change_sized (C := Try.checked) own_knob started (by kernel_rfl) Try.func3
    (ChangeSpec.witness6 (enc := enc) (C := Try.checked) false ⟨#[], #[.string .empty, .int .i64 0], []⟩ 8 (by kernel_rfl) (by kernel_rfl) (by kernel_rfl) (by kernel_rfl)) ?_
  intro W base args ds gs before hval0 hW _ hsz0 _
  have hsz : (DataW.weightsEach Try.prog (Try.f3.params.toList ++ Rows.utfPlacesSpec.plain.varTypes Try.prog) (ds ++ gs)).all (· ≤ reachBytes) = true := hsz0
  clear hsz0
  have hval : ∀ (j : Nat) t v, Try.f3.params[j]? = some t → args[j]? = some v → Value.okWide Try.prog W .any base t v := hval0
  have hW' := hW
  obtain ⟨p, q, hA0, hV, rfl, hfz, hnd⟩ := hW
  have hA : DataW.TrodAll enc Try.prog W 0 (fun _ => true) true Try.f3.params.toList args.toList ds p := hA0
  rw [Try.params3] at hA hval hsz
  obtain ⟨v0, vs0, d0, ds0, p0, q0, hargs, rfl, rfl, h0, r0⟩ := trodAll_cons hA
  obtain ⟨v1, vs1, d1, ds1, p1, q1, rfl, rfl, rfl, h1, r1⟩ := trodAll_cons r0
  obtain ⟨rfl, rfl, rfl⟩ := trodAll_nil r1
  obtain rfl : args = #[v0, v1] := by cases args; simp_all
  obtain ⟨rfl, rfl⟩ := trodVars_none hV
  obtain ⟨s0, rfl, rfl, rfl, hmax0⟩ := open_string Try.underlying9 (hval 0 9 v0 rfl rfl) h0
  have hs0 : s0.size ≤ 140737488351232 := by rw [← data_len]; exact sized_string hsz (j := 0) (t := 9) rfl rfl
  obtain ⟨n1, rfl, rfl, rfl, wn1⟩ := open_int Try.underlying3 (hval 1 3 v1 rfl rfl) h1
  refine (utf_places_walk s0 n1 hs0).mono fun e W' ⟨he, hb⟩ => ?_
  subst he
  exact ⟨_, rfl, law_post rfl rfl (by rw [Try.params3]; decide +kernel) ⟨rfl, rfl, rfl⟩ hW' hb⟩
theorem utfPlaces_holds : Rows.UtfPlacesSaid :=
  OpenClaim.holds_of_wide 3 Try.f3 rfl rfl rfl rfl rfl rfl rfl ⟨rfl, rfl, rfl, rfl, rfl⟩ rfl rfl rfl rfl rfl (by kernel_rfl) Try.func3 (by kernel_rfl)
    (of_decide_eq_true (by kernel_rfl)) (by unfold Func.isWrapper; first | (rw [if_pos (by decide +kernel)]; kernel_rfl) | (rw [if_neg (by decide +kernel)]; exact ⟨rfl, rfl⟩))
    (fun os started H enc _ => utfPlaces_lifted os started H enc)
end
end Go.Proofs.Ytkioekjdbekcbaa
