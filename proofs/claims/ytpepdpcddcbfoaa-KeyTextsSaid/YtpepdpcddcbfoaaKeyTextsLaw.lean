/-
  'calamuslaw13.KeyTexts' answers true for every two texts: any keys one by one, and their text, and the keys that any text tells, are what the document tells, or there is its error.
-/
import Derived.Test.YtpepdpcddcbfoaaKeyLives
import Derived.Test.YtpepdpcddcbfoaaKeyRefText
import Derived.Test.YtpepdpcddcbfoaaKeyRefParse
import Derived.Test.YtpepdpcddcbfoaaFrame
namespace Go.Proofs.Ytpepdpcddcbfoaa
open Go.RowKit
set_option maxHeartbeats 1000000 in
set_option maxRecDepth 100000 in
theorem keyTexts_walk (s t : ByteArray) {w : World} :
    Calls Try.prog 4 #[.string s, .string t] w fun e w' => e = .returned (.bool true) ∧ Below w.heap.size w w' := by
  by_cases h1 : 1000 < s.size
  · go_enter Try.func4, Try.ntmps4
    go_wp2_with fail
    refine (key_lives _).mono ?_
    rintro e w1 ⟨rfl, hb⟩
    go_wp2
    go_ret
    exact ⟨rfl, hb⟩
  by_cases h2 : 1000 < t.size
  · have g1 : decide ((1000 : Int) < (s.size : Int)) = false := by simp; omega
    go_enter Try.func4, Try.ntmps4
    go_wp2_with fail
    refine (key_lives _).mono ?_
    rintro e w1 ⟨rfl, hb⟩
    go_wp2
    go_ret
    exact ⟨rfl, hb⟩
  have g1 : decide ((1000 : Int) < (s.size : Int)) = false := by simp; omega
  have g2 : decide ((1000 : Int) < (t.size : Int)) = false := by simp; omega
  have hl : s.data.toList.length = s.size := by simp
  have hn := Key.split_len s.data.toList
  have hxs : ((Key.split s.data.toList).map bs).length = (Key.split s.data.toList).length := List.length_map _
  have a0 := Lib.hid (fun w => key_Split s (by omega) w)
  have b0 := Lib.hid (fun w => ref13_Split s (by omega) w)
  have a1 := Lib.hid (fun w => key_Text s (by omega) w)
  have b1 := Lib.hid (fun w => ref13_Text s (by omega) w)
  have a2 := Lib.hid (fun w => key_Parse t (by omega) w)
  have b2 := Lib.hid (fun w => ref13_Parse t (by omega) w)
  rw [← hxs] at a0 b0 hn
  generalize (Key.split s.data.toList).map bs = xs at *
  generalize Key.err s.data.toList = er at *
  generalize Key.text s.data.toList = tx at *
  generalize Key.parseK t.data.toList = pk at *
  generalize Key.parseE t.data.toList = pe at *
  clear hxs
  go_enter Try.func4, Try.ntmps4
  go_wp2_with fail
  refine (a0.out _).mono ?_
  rintro e w0 ⟨A, c, rfl, S0, hb0⟩
  go_wp2_with fail
  refine (b0.out _).mono ?_
  rintro e w1 ⟨B, d, rfl, S1, hb1⟩
  replace S0 := S0.below hb1
  have K1 := hb0.trans (hb1.mono hb0.size)
  clear hb0 hb1
  go_wp2_with fail
  refine (a1.out _).mono ?_
  rintro e w2 ⟨rfl, hb2⟩
  replace S0 := S0.below hb2
  replace S1 := S1.below hb2
  have K2 := K1.trans (hb2.mono K1.size)
  clear hb2 K1
  go_wp2_with fail
  refine (b1.out _).mono ?_
  rintro e w3 ⟨rfl, hb3⟩
  replace S0 := S0.below hb3
  replace S1 := S1.below hb3
  have K3 := K2.trans (hb3.mono K2.size)
  clear hb3 K2
  go_wp2_with fail
  refine (a2.out _).mono ?_
  rintro e w4 ⟨rfl, hb4⟩
  replace S0 := S0.below hb4
  replace S1 := S1.below hb4
  have K4 := K3.trans (hb4.mono K3.size)
  clear hb4 K3
  go_wp2_with fail
  refine (b2.out _).mono ?_
  rintro e w5 ⟨rfl, hb5⟩
  replace S0 := S0.below hb5
  replace S1 := S1.below hb5
  have K5 := K4.trans (hb5.mono K4.size)
  clear hb5 K4
  have q := Lib.hid (ref13_Same (c := c) (d := d) S0 S1 (by omega))
  clear S0 S1 hn
  go_wp2_with fail
  refine q.out.mono ?_
  rintro e w6 ⟨rfl, hb6⟩
  have K6 := K5.trans (hb6.mono K5.size)
  clear hb6 K5
  go_wp2_with fail
  refine (key_lives _).mono ?_
  rintro e w7 ⟨rfl, hb7⟩
  have K7 := K6.trans (hb7.mono K6.size)
  go_wp2
  go_ret
  exact ⟨rfl, K7⟩
section
open Go.ChangeShapes Go.WideShapes Go.ChangeAt
open Go.ChangeMaps (open_string)
set_option maxRecDepth 100000 in
theorem keyTexts_lifted (os : Os) (started : os.Started) (H : Type) (enc : TypeId × Value → H) :
    ReturnsInHanded {} Try.checked os 4 .any (Rows.keyTextsSpec.pre6 enc Try.prog Try.f4 Rows.keyTextsRow.domain false) (Rows.keyTextsSpec.post enc Try.prog Try.f4 false true false false) := by
  refine returnsInHanded_of_change_sized (C := Try.checked) own_knob started (by kernel_rfl) Try.func4
    (ChangeSpec.witness6 (enc := enc) (C := Try.checked) false ⟨#[], #[.string .empty, .string .empty], []⟩ 8 (by kernel_rfl) (by kernel_rfl) (by kernel_rfl) (by kernel_rfl)) ?_
  intro W base args ds gs before hval0 hW _ hsz0 _
  have hsz : (DataW.weightsEach Try.prog (Try.f4.params.toList ++ Rows.keyTextsSpec.plain.varTypes Try.prog) (ds ++ gs)).all (· ≤ reachBytes) = true := hsz0
  clear hsz0
  have hval : ∀ (j : Nat) t v, Try.f4.params[j]? = some t → args[j]? = some v → Value.okWide Try.prog W .any base t v := hval0
  have hW' := hW
  obtain ⟨p, q, hA0, hV, rfl, hfz, hnd⟩ := hW
  have hA : DataW.TrodAll enc Try.prog W 0 (fun _ => true) true Try.f4.params.toList args.toList ds p := hA0
  rw [Try.params4] at hA hval hsz
  obtain ⟨v0, vs0, d0, ds0, p0, q0, hargs, rfl, rfl, h0, r0⟩ := trodAll_cons hA
  obtain ⟨v1, vs1, d1, ds1, p1, q1, rfl, rfl, rfl, h1, r1⟩ := trodAll_cons r0
  obtain ⟨rfl, rfl, rfl⟩ := trodAll_nil r1
  obtain rfl : args = #[v0, v1] := by cases args; simp_all
  obtain ⟨rfl, rfl⟩ := trodVars_none hV
  obtain ⟨s0, rfl, rfl, rfl, hmax0⟩ := open_string Try.underlying9 (hval 0 9 v0 rfl rfl) h0
  have hs0 : s0.size ≤ 140737488351232 := by rw [← data_len]; exact sized_string hsz (j := 0) (t := 9) rfl rfl
  obtain ⟨s1, rfl, rfl, rfl, hmax1⟩ := open_string Try.underlying9 (hval 1 9 v1 rfl rfl) h1
  have hs1 : s1.size ≤ 140737488351232 := by rw [← data_len]; exact sized_string hsz (j := 1) (t := 9) rfl rfl
  refine (keyTexts_walk s0 s1).mono fun e W' ⟨he, hb⟩ => ?_
  subst he
  exact ⟨_, rfl, law_post rfl rfl (by rw [Try.params4]; decide +kernel) ⟨rfl, rfl, rfl⟩ hW' hb⟩
theorem keyTexts_holds : Rows.KeyTextsSaid :=
  OpenClaim.holds_of_wide 4 Try.f4 rfl rfl rfl rfl rfl rfl rfl ⟨rfl, rfl, rfl, rfl, rfl⟩ rfl rfl rfl rfl rfl (by kernel_rfl) Try.func4 (by kernel_rfl)
    (of_decide_eq_true (by kernel_rfl)) (by unfold Func.isWrapper; first | (rw [if_pos (by decide +kernel)]; kernel_rfl) | (rw [if_neg (by decide +kernel)]; exact ⟨rfl, rfl⟩))
    (fun os started H enc _ => keyTexts_lifted os started H enc)
end
end Go.Proofs.Ytpepdpcddcbfoaa
