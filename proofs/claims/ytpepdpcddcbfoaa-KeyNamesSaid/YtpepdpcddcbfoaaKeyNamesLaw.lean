/-
  'calamuslaw13.KeyNames' answers true for every text: whether anything is a key, or a sign, and its name, is what the document tells.
-/
import Derived.Test.YtpepdpcddcbfoaaKeyLives
import Derived.Test.YtpepdpcddcbfoaaKeyRef
import Derived.Test.YtpepdpcddcbfoaaFrame
namespace Go.Proofs.Ytpepdpcddcbfoaa
open Go.RowKit
set_option maxHeartbeats 1000000 in
set_option maxRecDepth 100000 in
theorem keyNames_walk (s : ByteArray) {w : World} (hs : s.size ≤ 140737488351232) :
    Calls Try.prog 3 #[.string s] w fun e w' => e = .returned (.bool true) ∧ Below w.heap.size w w' := by
  have a0 := Lib.hid (fun w => key_Right s (by omega) w)
  have b0 := Lib.hid (fun w => ref13_Right s w)
  have a1 := Lib.hid (fun w => key_Sign s (by omega) w)
  have b1 := Lib.hid (fun w => ref13_Sign s w)
  have a2 := Lib.hid (fun w => key_Name s (by omega) w)
  have b2 := Lib.hid (fun w => ref13_Name s w)
  rw [show Key.nameK s.data.toList = if Utf.one s.data.toList then Key.nameR s.data.toList else [] from rfl] at b2
  generalize (if Utf.one s.data.toList then Key.nameR s.data.toList else []) = v2 at *
  generalize (Utf.one s.data.toList && Key.sgn s.data.toList) = v1 at *
  generalize (Utf.one s.data.toList && Key.isKey s.data.toList) = v0 at *
  clear hs
  go_enter Try.func3, Try.ntmps3
  go_wp2_with fail
  refine (a0.out _).mono ?_
  rintro e w0 ⟨rfl, hb0⟩
  go_wp2_with fail
  refine (b0.out _).mono ?_
  rintro e w1 ⟨rfl, hb1⟩
  have kk1 := hb0.trans (hb1.mono hb0.size)
  clear hb1 hb0
  go_wp2_with fail
  refine (a1.out _).mono ?_
  rintro e w2 ⟨rfl, hb2⟩
  have kk2 := kk1.trans (hb2.mono kk1.size)
  clear hb2 kk1
  go_wp2_with fail
  refine (b1.out _).mono ?_
  rintro e w3 ⟨rfl, hb3⟩
  have kk3 := kk2.trans (hb3.mono kk2.size)
  clear hb3 kk2
  go_wp2_with fail
  refine (a2.out _).mono ?_
  rintro e w4 ⟨rfl, hb4⟩
  have kk4 := kk3.trans (hb4.mono kk3.size)
  clear hb4 kk3
  go_wp2_with fail
  refine (b2.out _).mono ?_
  rintro e w5 ⟨rfl, hb5⟩
  have kk5 := kk4.trans (hb5.mono kk4.size)
  clear hb5 kk4
  go_wp2_with fail
  refine (key_lives _).mono ?_
  rintro e w6 ⟨rfl, hb6⟩
  have kk6 := kk5.trans (hb6.mono kk5.size)
  clear hb6 kk5
  go_wp2
  go_ret
  exact ⟨rfl, kk6⟩
section
open Go.ChangeShapes Go.WideShapes Go.ChangeAt
open Go.ChangeMaps (open_string)
set_option maxRecDepth 100000 in
theorem keyNames_lifted (os : Os) (started : os.Started) (H : Type) (enc : TypeId × Value → H) :
    ReturnsInHanded {} Try.checked os 3 .any (Rows.keyNamesSpec.pre6 enc Try.prog Try.f3 Rows.keyNamesRow.domain false) (Rows.keyNamesSpec.post enc Try.prog Try.f3 false true false false) := by
  refine returnsInHanded_of_change_sized (C := Try.checked) own_knob started (by kernel_rfl) Try.func3
    (ChangeSpec.witness6 (enc := enc) (C := Try.checked) false ⟨#[], #[.string .empty], []⟩ 8 (by kernel_rfl) (by kernel_rfl) (by kernel_rfl) (by kernel_rfl)) ?_
  intro W base args ds gs before hval0 hW _ hsz0 _
  have hsz : (DataW.weightsEach Try.prog (Try.f3.params.toList ++ Rows.keyNamesSpec.plain.varTypes Try.prog) (ds ++ gs)).all (· ≤ reachBytes) = true := hsz0
  clear hsz0
  have hval : ∀ (j : Nat) t v, Try.f3.params[j]? = some t → args[j]? = some v → Value.okWide Try.prog W .any base t v := hval0
  have hW' := hW
  obtain ⟨p, q, hA0, hV, rfl, hfz, hnd⟩ := hW
  have hA : DataW.TrodAll enc Try.prog W 0 (fun _ => true) true Try.f3.params.toList args.toList ds p := hA0
  rw [Try.params3] at hA hval hsz
  obtain ⟨v0, vs0, d0, ds0, p0, q0, hargs, rfl, rfl, h0, r0⟩ := trodAll_cons hA
  obtain ⟨rfl, rfl, rfl⟩ := trodAll_nil r0
  obtain rfl : args = #[v0] := by cases args; simp_all
  obtain ⟨rfl, rfl⟩ := trodVars_none hV
  obtain ⟨s0, rfl, rfl, rfl, hmax0⟩ := open_string Try.underlying9 (hval 0 9 v0 rfl rfl) h0
  have hs0 : s0.size ≤ 140737488351232 := by rw [← data_len]; exact sized_string hsz (j := 0) (t := 9) rfl rfl
  refine (keyNames_walk s0 hs0).mono fun e W' ⟨he, hb⟩ => ?_
  subst he
  exact ⟨_, rfl, law_post rfl rfl (by rw [Try.params3]; decide +kernel) ⟨rfl, rfl, rfl⟩ hW' hb⟩
theorem keyNames_holds : Rows.KeyNamesSaid :=
  OpenClaim.holds_of_wide 3 Try.f3 rfl rfl rfl rfl rfl rfl rfl ⟨rfl, rfl, rfl, rfl, rfl⟩ rfl rfl rfl rfl rfl (by kernel_rfl) Try.func3 (by kernel_rfl)
    (of_decide_eq_true (by kernel_rfl)) (by unfold Func.isWrapper; first | (rw [if_pos (by decide +kernel)]; kernel_rfl) | (rw [if_neg (by decide +kernel)]; exact ⟨rfl, rfl⟩))
    (fun os started H enc _ => keyNames_lifted os started H enc)
end
end Go.Proofs.Ytpepdpcddcbfoaa
