/-
  'calamuslaw05.ClassLetters' answers true for every text: any bytes in other letters, and how many blanks lead, is what the document tells.
-/
import Derived.Test.YtgfafhbkmpgbjaaClassLives
import Derived.Test.YtgfafhbkmpgbjaaClassTurn
import Derived.Test.YtgfafhbkmpgbjaaClassSwap
import Derived.Test.YtgfafhbkmpgbjaaFrame
namespace Go.Proofs.Ytgfafhbkmpgbjaa
open Go.RowKit
set_option maxHeartbeats 1000000 in
set_option maxRecDepth 100000 in
theorem classLetters_walk (s : ByteArray) {w : World} (hs : s.size ≤ 140737488351232) :
    Calls Try.prog 4 #[.string s] w fun e w' => e = .returned (.bool true) ∧ Below w.heap.size w w' := by
  rcases Nat.lt_or_ge 2000 s.size with h | h
  · go_enter Try.func4, Try.ntmps4
    go_wp2_with fail
    refine (class_lives _).mono ?_
    rintro e w1 ⟨rfl, rfl⟩
    go_wp2
    go_ret
    exact ⟨rfl, Below.refl _ _⟩
  · have a0 := Lib.hid (fun w => class_Up s (by omega) w)
    have b0 := Lib.hid (fun w => ref5_Up s (by omega) w)
    have a1 := Lib.hid (fun w => class_Low s (by omega) w)
    have b1 := Lib.hid (fun w => ref5_Low s (by omega) w)
    have a2 := Lib.hid (fun w => class_Flip s (by omega) w)
    have b2 := Lib.hid (fun w => ref5_Flip s (by omega) w)
    have a3 := Lib.hid (fun w => class_Lead s (by omega) w)
    have b3 := Lib.hid (fun w => ref5_Lead s (by omega) w)
    generalize bs (Class.turn Class.small s.data.toList) = v0 at *
    generalize bs (Class.turn Class.capital s.data.toList) = v1 at *
    generalize bs (Class.turn Class.letter s.data.toList) = v2 at *
    generalize Class.lead s.data.toList = v3 at *
    clear hs
    go_enter Try.func4, Try.ntmps4
    go_wp2_with fail
    refine (a0.out _).mono ?_
    rintro e w0 ⟨rfl, hb0⟩
    go_wp2_with fail
    refine (b0.out _).mono ?_
    rintro e w1 ⟨rfl, rfl⟩
    go_wp2_with fail
    refine (a1.out _).mono ?_
    rintro e w2 ⟨rfl, hb2⟩
    have kk2 := hb0.trans (hb2.mono hb0.size)
    clear hb2 hb0
    go_wp2_with fail
    refine (b1.out _).mono ?_
    rintro e w3 ⟨rfl, rfl⟩
    go_wp2_with fail
    refine (a2.out _).mono ?_
    rintro e w4 ⟨rfl, hb4⟩
    have kk4 := kk2.trans (hb4.mono kk2.size)
    clear hb4 kk2
    go_wp2_with fail
    refine (b2.out _).mono ?_
    rintro e w5 ⟨rfl, rfl⟩
    go_wp2_with fail
    refine (a3.out _).mono ?_
    rintro e w6 ⟨rfl, rfl⟩
    go_wp2_with fail
    refine (b3.out _).mono ?_
    rintro e w7 ⟨rfl, rfl⟩
    go_wp2_with fail
    refine (class_lives _).mono ?_
    rintro e w8 ⟨rfl, rfl⟩
    go_wp2
    go_ret
    exact ⟨rfl, kk4⟩
section
open Go.ChangeShapes Go.WideShapes Go.ChangeAt
open Go.ChangeMaps (open_string)
set_option maxRecDepth 100000 in
theorem classLetters_lifted (os : Os) (started : os.Started) (H : Type) (enc : TypeId × Value → H) :
    ReturnsInHanded {} Try.checked os 4 .any (Rows.classLettersSpec.pre6 enc Try.prog Try.f4 Rows.classLettersRow.domain false) (Rows.classLettersSpec.post enc Try.prog Try.f4 false true false false) := by
  refine returnsInHanded_of_change_sized (C := Try.checked) own_knob started (by kernel_rfl) Try.func4
    (ChangeSpec.witness6 (enc := enc) (C := Try.checked) false ⟨#[], #[.string .empty], []⟩ 8 (by kernel_rfl) (by kernel_rfl) (by kernel_rfl) (by kernel_rfl)) ?_
  intro W base args ds gs before hval0 hW _ hsz0 _
  have hsz : (DataW.weightsEach Try.prog (Try.f4.params.toList ++ Rows.classLettersSpec.plain.varTypes Try.prog) (ds ++ gs)).all (· ≤ reachBytes) = true := hsz0
  clear hsz0
  have hval : ∀ (j : Nat) t v, Try.f4.params[j]? = some t → args[j]? = some v → Value.okWide Try.prog W .any base t v := hval0
  have hW' := hW
  obtain ⟨p, q, hA0, hV, rfl, hfz, hnd⟩ := hW
  have hA : DataW.TrodAll enc Try.prog W 0 (fun _ => true) true Try.f4.params.toList args.toList ds p := hA0
  rw [Try.params4] at hA hval hsz
  obtain ⟨v0, vs0, d0, ds0, p0, q0, hargs, rfl, rfl, h0, r0⟩ := trodAll_cons hA
  obtain ⟨rfl, rfl, rfl⟩ := trodAll_nil r0
  obtain rfl : args = #[v0] := by cases args; simp_all
  obtain ⟨rfl, rfl⟩ := trodVars_none hV
  obtain ⟨s0, rfl, rfl, rfl, hmax0⟩ := open_string Try.underlying9 (hval 0 9 v0 rfl rfl) h0
  have hs0 : s0.size ≤ 140737488351232 := by rw [← data_len]; exact sized_string hsz (j := 0) (t := 9) rfl rfl
  refine (classLetters_walk s0 hs0).mono fun e W' ⟨he, hb⟩ => ?_
  subst he
  exact ⟨_, rfl, law_post rfl rfl (by rw [Try.params4]; decide +kernel) ⟨rfl, rfl, rfl⟩ hW' hb⟩
theorem classLetters_holds : Rows.ClassLettersSaid :=
  OpenClaim.holds_of_wide 4 Try.f4 rfl rfl rfl rfl rfl rfl rfl ⟨rfl, rfl, rfl, rfl, rfl⟩ rfl rfl rfl rfl rfl (by kernel_rfl) Try.func4 (by kernel_rfl)
    (of_decide_eq_true (by kernel_rfl)) (by unfold Func.isWrapper; first | (rw [if_pos (by decide +kernel)]; kernel_rfl) | (rw [if_neg (by decide +kernel)]; exact ⟨rfl, rfl⟩))
    (fun os started H enc _ => classLetters_lifted os started H enc)
end
end Go.Proofs.Ytgfafhbkmpgbjaa
