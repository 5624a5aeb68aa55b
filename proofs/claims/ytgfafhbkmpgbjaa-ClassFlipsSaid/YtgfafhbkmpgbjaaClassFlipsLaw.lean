/-
  'calamuslaw05.ClassFlips' answers true for every text: letters that are flipped twice are the same; great and small ones stay so; nothing else changes.
-/
import Derived.Test.YtgfafhbkmpgbjaaClassLives
import Derived.Test.YtgfafhbkmpgbjaaClassTurn
import Derived.Test.YtgfafhbkmpgbjaaFrame
namespace Go.Proofs.Ytgfafhbkmpgbjaa
open Go.RowKit
set_option maxHeartbeats 1000000 in
set_option maxRecDepth 100000 in
theorem classFlips_walk (s : ByteArray) {w : World} (hs : s.size ≤ 140737488351232) :
    Calls Try.prog 6 #[.string s] w fun e w' => e = .returned (.bool true) ∧ Below w.heap.size w w' := by
  have z1 : (bs (Class.turn Class.small s.data.toList)).size = s.size := by rw [bs_size, Class.turn_length, data_len]
  have z2 : (bs (Class.turn Class.capital s.data.toList)).size = s.size := by rw [bs_size, Class.turn_length, data_len]
  have z3 : (bs (Class.turn Class.letter s.data.toList)).size = s.size := by rw [bs_size, Class.turn_length, data_len]
  have a0 := Lib.hid (fun w => class_Up s hs w)
  have a1 := Lib.hid (fun w => class_Low s hs w)
  have a2 := Lib.hid (fun w => class_Flip s hs w)
  have b3 := fun w => class_Flip (bs (Class.turn Class.letter s.data.toList)) (by omega) w
  have b4 := fun w => class_Up (bs (Class.turn Class.small s.data.toList)) (by omega) w
  have b5 := fun w => class_Low (bs (Class.turn Class.small s.data.toList)) (by omega) w
  have b6 := fun w => class_Up (bs (Class.turn Class.capital s.data.toList)) (by omega) w
  have b7 := fun w => class_Up (bs (Class.turn Class.letter s.data.toList)) (by omega) w
  have b8 := fun w => utf_Valid (bs (Class.turn Class.small s.data.toList)) (by omega) w
  rw [bs_toList, Class.flips, bs_data] at b3
  rw [bs_toList, Class.ups] at b4
  rw [bs_toList, Class.lows] at b5
  rw [bs_toList, Class.ups_low] at b6
  rw [bs_toList, Class.ups_flip] at b7
  rw [bs_toList, Class.valid_up] at b8
  have a3 := Lib.hid b3
  have a4 := Lib.hid b4
  have a5 := Lib.hid b5
  have a6 := Lib.hid b6
  have a7 := Lib.hid b7
  have a8 := Lib.hid b8
  have a9 := Lib.hid (fun w => utf_Valid s (by omega) w)
  clear b3 b4 b5 b6 b7 b8
  generalize Utf.valid s.data.toList = v at *
  generalize bs (Class.turn Class.small s.data.toList) = U at *
  generalize bs (Class.turn Class.capital s.data.toList) = L at *
  generalize bs (Class.turn Class.letter s.data.toList) = G at *
  have g1 : ((U.size : Int) != (s.size : Int)) = false := by simp; omega
  have g2 : ((L.size : Int) != (s.size : Int)) = false := by simp; omega
  have g3 : ((G.size : Int) != (s.size : Int)) = false := by simp; omega
  clear z1 z2 z3 hs
  go_enter Try.func6, Try.ntmps6
  go_wp2_with fail
  refine (a0.out _).mono ?_
  rintro e w0 ⟨rfl, hb0⟩
  go_wp2_with fail
  refine (a1.out _).mono ?_
  rintro e w1 ⟨rfl, hb1⟩
  have kk1 := hb0.trans (hb1.mono hb0.size)
  clear hb1 hb0
  go_wp2_with fail
  refine (a2.out _).mono ?_
  rintro e w2 ⟨rfl, hb2⟩
  have kk2 := kk1.trans (hb2.mono kk1.size)
  clear hb2 kk1
  go_wp2_with fail
  refine (a3.out _).mono ?_
  rintro e w3 ⟨rfl, hb3⟩
  have kk3 := kk2.trans (hb3.mono kk2.size)
  clear hb3 kk2
  go_wp2_with fail
  refine (a4.out _).mono ?_
  rintro e w4 ⟨rfl, hb4⟩
  have kk4 := kk3.trans (hb4.mono kk3.size)
  clear hb4 kk3
  go_wp2_with fail
  refine (a5.out _).mono ?_
  rintro e w5 ⟨rfl, hb5⟩
  have kk5 := kk4.trans (hb5.mono kk4.size)
  clear hb5 kk4
  go_wp2_with fail
  refine (a6.out _).mono ?_
  rintro e w6 ⟨rfl, hb6⟩
  have kk6 := kk5.trans (hb6.mono kk5.size)
  clear hb6 kk5
  go_wp2_with fail
  refine (a7.out _).mono ?_
  rintro e w7 ⟨rfl, hb7⟩
  have kk7 := kk6.trans (hb7.mono kk6.size)
  clear hb7 kk6
  go_wp2_with fail
  refine (a8.out _).mono ?_
  rintro e w8 ⟨rfl, rfl⟩
  go_wp2_with fail
  refine (a9.out _).mono ?_
  rintro e w9 ⟨rfl, rfl⟩
  go_wp2_with fail
  refine (class_lives _).mono ?_
  rintro e w10 ⟨rfl, rfl⟩
  go_wp2
  go_ret
  exact ⟨rfl, kk7⟩
section
open Go.ChangeShapes Go.WideShapes Go.ChangeAt
open Go.ChangeMaps (open_string)
set_option maxRecDepth 100000 in
theorem classFlips_lifted (os : Os) (started : os.Started) (H : Type) (enc : TypeId × Value → H) :
    ReturnsInHanded {} Try.checked os 6 .any (Rows.classFlipsSpec.pre6 enc Try.prog Try.f6 Rows.classFlipsRow.domain false) (Rows.classFlipsSpec.post enc Try.prog Try.f6 false true false false) := by
  refine returnsInHanded_of_change_sized (C := Try.checked) own_knob started (by kernel_rfl) Try.func6
    (ChangeSpec.witness6 (enc := enc) (C := Try.checked) false ⟨#[], #[.string .empty], []⟩ 8 (by kernel_rfl) (by kernel_rfl) (by kernel_rfl) (by kernel_rfl)) ?_
  intro W base args ds gs before hval0 hW _ hsz0 _
  have hsz : (DataW.weightsEach Try.prog (Try.f6.params.toList ++ Rows.classFlipsSpec.plain.varTypes Try.prog) (ds ++ gs)).all (· ≤ reachBytes) = true := hsz0
  clear hsz0
  have hval : ∀ (j : Nat) t v, Try.f6.params[j]? = some t → args[j]? = some v → Value.okWide Try.prog W .any base t v := hval0
  have hW' := hW
  obtain ⟨p, q, hA0, hV, rfl, hfz, hnd⟩ := hW
  have hA : DataW.TrodAll enc Try.prog W 0 (fun _ => true) true Try.f6.params.toList args.toList ds p := hA0
  rw [Try.params6] at hA hval hsz
  obtain ⟨v0, vs0, d0, ds0, p0, q0, hargs, rfl, rfl, h0, r0⟩ := trodAll_cons hA
  obtain ⟨rfl, rfl, rfl⟩ := trodAll_nil r0
  obtain rfl : args = #[v0] := by cases args; simp_all
  obtain ⟨rfl, rfl⟩ := trodVars_none hV
  obtain ⟨s0, rfl, rfl, rfl, hmax0⟩ := open_string Try.underlying9 (hval 0 9 v0 rfl rfl) h0
  have hs0 : s0.size ≤ 140737488351232 := by rw [← data_len]; exact sized_string hsz (j := 0) (t := 9) rfl rfl
  refine (classFlips_walk s0 hs0).mono fun e W' ⟨he, hb⟩ => ?_
  subst he
  exact ⟨_, rfl, law_post rfl rfl (by rw [Try.params6]; decide +kernel) ⟨rfl, rfl, rfl⟩ hW' hb⟩
theorem classFlips_holds : Rows.ClassFlipsSaid :=
  OpenClaim.holds_of_wide 6 Try.f6 rfl rfl rfl rfl rfl rfl rfl ⟨rfl, rfl, rfl, rfl, rfl⟩ rfl rfl rfl rfl rfl (by kernel_rfl) Try.func6 (by kernel_rfl)
    (of_decide_eq_true (by kernel_rfl)) (by unfold Func.isWrapper; first | (rw [if_pos (by decide +kernel)]; kernel_rfl) | (rw [if_neg (by decide +kernel)]; exact ⟨rfl, rfl⟩))
    (fun os started H enc _ => classFlips_lifted os started H enc)
end
end Go.Proofs.Ytgfafhbkmpgbjaa
