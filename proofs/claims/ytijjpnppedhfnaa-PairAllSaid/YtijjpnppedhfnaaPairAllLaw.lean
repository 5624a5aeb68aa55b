/-
  'calamuslaw17.PairAll' answers true for every text and kind: all pairs are those that the document tells.
-/
import Derived.Test.YtijjpnppedhfnaaPairLives
namespace Go.Proofs.Ytijjpnppedhfnaa
open Go.RowKit
open Pair
set_option maxHeartbeats 2000000 in
set_option maxRecDepth 100000 in
theorem pairAll_walk (s k : ByteArray) (w : World) :
    Calls Try.prog 3 #[.string s, .string k] w fun e w' => e = .returned (.bool true) ∧ Below w.heap.size w w' := by
  have LV := Lib.hid pair_lives
  have hl := data_len s
  have hX := Below.refl w.heap.size w
  by_cases hs : 500 < s.size
  · go_enter Try.func3, Try.ntmps3
    go_wp2_with (go_at_call 7; (with_reducible refine (LV.out _).mono ?_); rintro e w4 ⟨rfl, hb⟩; replace hX := on hX hb; clear hb)
    go_ret
    exact ⟨rfl, hX⟩
  · have n0 := all_length s.data.toList k.data.toList
    have CA0 := Lib.hid (fun w => pair_All s k (by omega) w)
    have CR0 := Lib.hid (fun w => ref17_All s k (by omega) w)
    have CS0 := Lib.hid (same_yes (Pair.all s.data.toList k.data.toList) (by omega))
    generalize Pair.all s.data.toList k.data.toList = L0 at *
    have n1 := all_length s.data.toList ({ data := #[123] } : ByteArray).data.toList
    have CA1 := Lib.hid (fun w => pair_All s ({ data := #[123] } : ByteArray) (by omega) w)
    have CR1 := Lib.hid (fun w => ref17_All s ({ data := #[123] } : ByteArray) (by omega) w)
    have CS1 := Lib.hid (same_yes (Pair.all s.data.toList ({ data := #[123] } : ByteArray).data.toList) (by omega))
    generalize Pair.all s.data.toList ({ data := #[123] } : ByteArray).data.toList = L1 at *
    have n2 := all_length s.data.toList ({ data := #[60] } : ByteArray).data.toList
    have CA2 := Lib.hid (fun w => pair_All s ({ data := #[60] } : ByteArray) (by omega) w)
    have CR2 := Lib.hid (fun w => ref17_All s ({ data := #[60] } : ByteArray) (by omega) w)
    have CS2 := Lib.hid (same_yes (Pair.all s.data.toList ({ data := #[60] } : ByteArray).data.toList) (by omega))
    generalize Pair.all s.data.toList ({ data := #[60] } : ByteArray).data.toList = L2 at *
    clear n0 n1 n2
    go_enter Try.func3, Try.ntmps3
    go_wp2_with (first
      | (go_at_call 9; (with_reducible refine (CA0.out _).mono ?_); rintro e w1 ⟨⟨v, rfl, hr⟩, hb⟩; obtain ⟨A, ca, rfl⟩ := own_long hr; have hP := Lib.hid (Pairs.of_own hr rfl); replace hX := on hX hb; clear hr hb)
      | (go_at_call 10; (with_reducible refine (CR0.out _).mono ?_); rintro e w2 ⟨⟨v, rfl, hr⟩, hb⟩; obtain ⟨B, cb, rfl⟩ := own_long hr; have hQ := Lib.hid (Pairs.of_own hr rfl); replace hX := on hX hb; replace hP := Lib.hid (hP.out.below hb); clear hr hb)
      | (go_at_call 8; (with_reducible refine (CS0.out _ _ _ _ _ hP.out hQ.out).mono ?_); rintro e w3 ⟨rfl, hb⟩; replace hX := on hX hb; clear hP hQ hb)
      | (go_at_call 9; (with_reducible refine (CA1.out _).mono ?_); rintro e w1 ⟨⟨v, rfl, hr⟩, hb⟩; obtain ⟨A, ca, rfl⟩ := own_long hr; have hP := Lib.hid (Pairs.of_own hr rfl); replace hX := on hX hb; clear hr hb)
      | (go_at_call 10; (with_reducible refine (CR1.out _).mono ?_); rintro e w2 ⟨⟨v, rfl, hr⟩, hb⟩; obtain ⟨B, cb, rfl⟩ := own_long hr; have hQ := Lib.hid (Pairs.of_own hr rfl); replace hX := on hX hb; replace hP := Lib.hid (hP.out.below hb); clear hr hb)
      | (go_at_call 8; (with_reducible refine (CS1.out _ _ _ _ _ hP.out hQ.out).mono ?_); rintro e w3 ⟨rfl, hb⟩; replace hX := on hX hb; clear hP hQ hb)
      | (go_at_call 9; (with_reducible refine (CA2.out _).mono ?_); rintro e w1 ⟨⟨v, rfl, hr⟩, hb⟩; obtain ⟨A, ca, rfl⟩ := own_long hr; have hP := Lib.hid (Pairs.of_own hr rfl); replace hX := on hX hb; clear hr hb)
      | (go_at_call 10; (with_reducible refine (CR2.out _).mono ?_); rintro e w2 ⟨⟨v, rfl, hr⟩, hb⟩; obtain ⟨B, cb, rfl⟩ := own_long hr; have hQ := Lib.hid (Pairs.of_own hr rfl); replace hX := on hX hb; replace hP := Lib.hid (hP.out.below hb); clear hr hb)
      | (go_at_call 8; (with_reducible refine (CS2.out _ _ _ _ _ hP.out hQ.out).mono ?_); rintro e w3 ⟨rfl, hb⟩; replace hX := on hX hb; clear hP hQ hb)
      | (go_at_call 7; (with_reducible refine (LV.out _).mono ?_); rintro e w4 ⟨rfl, hb⟩; replace hX := on hX hb; clear hb))
    go_ret
    exact ⟨rfl, hX⟩
section
open Go.ChangeShapes Go.WideShapes Go.ChangeAt
open Go.ChangeMaps (open_string)
set_option maxRecDepth 100000 in
theorem pairAll_lifted (os : Os) (started : os.Started) (H : Type) (enc : TypeId × Value → H) :
    ReturnsInHanded {} Try.checked os 3 .any (Rows.pairAllSpec.pre6 enc Try.prog Try.f3 Rows.pairAllRow.domain false) (Rows.pairAllSpec.post enc Try.prog Try.f3 false true false false) := by
  refine returnsInHanded_of_change_sized (C := Try.checked) own_knob started (by kernel_rfl) Try.func3
    (ChangeSpec.witness6 (enc := enc) (C := Try.checked) false ⟨#[], #[.string .empty, .string .empty], []⟩ 8 (by kernel_rfl) (by kernel_rfl) (by kernel_rfl) (by kernel_rfl)) ?_
  intro W base args ds gs before hval0 hW _ hsz0 _
  have hsz : (DataW.weightsEach Try.prog (Try.f3.params.toList ++ Rows.pairAllSpec.plain.varTypes Try.prog) (ds ++ gs)).all (· ≤ reachBytes) = true := hsz0
  clear hsz0
  have hval : ∀ (j : Nat) t v, Try.f3.params[j]? = some t → args[j]? = some v → Value.okWide Try.prog W .any base t v := hval0
  have hW' := hW
  obtain ⟨p, q, hA0, hV, rfl, hfz, hnd⟩ := hW
  have hA : DataW.TrodAll enc Try.prog W 0 (fun _ => true) true Try.f3.params.toList args.toList ds p := hA0
  rw [Try.params3] at hA hval hsz
  obtain ⟨v0, vs0, d0, ds0, p0, q0, hargs, rfl, rfl, h0, r0⟩ := trodAll_cons hA
  obtain ⟨v1, vs1, d1, ds1, p1, q1, rfl, rfl, rfl, h1, r1⟩ := trodAll_cons r0
  obtain ⟨rfl, rfl, rfl⟩ := trodAll_nil r1
  obtain rfl : args = #[v0, v1] := by cases args; simp_all
  obtain ⟨rfl, rfl⟩ := trodVars_none hV
  obtain ⟨s0, rfl, rfl, rfl, hmax0⟩ := open_string Try.underlying9 (hval 0 9 v0 rfl rfl) h0
  have hs0 : s0.size ≤ 140737488351232 := by rw [← data_len]; exact sized_string hsz (j := 0) (t := 9) rfl rfl
  obtain ⟨s1, rfl, rfl, rfl, hmax1⟩ := open_string Try.underlying9 (hval 1 9 v1 rfl rfl) h1
  have hs1 : s1.size ≤ 140737488351232 := by rw [← data_len]; exact sized_string hsz (j := 1) (t := 9) rfl rfl
  refine (pairAll_walk s0 s1 _).mono fun e W' ⟨he, hb⟩ => ?_
  subst he
  exact ⟨_, rfl, law_post rfl rfl (by rw [Try.params3]; decide +kernel) ⟨rfl, rfl, rfl⟩ hW' hb⟩
theorem pairAll_holds : Rows.PairAllSaid :=
  OpenClaim.holds_of_wide 3 Try.f3 rfl rfl rfl rfl rfl rfl rfl ⟨rfl, rfl, rfl, rfl, rfl⟩ rfl rfl rfl rfl rfl (by kernel_rfl) Try.func3 (by kernel_rfl)
    (of_decide_eq_true (by kernel_rfl)) (by unfold Func.isWrapper; first | (rw [if_pos (by decide +kernel)]; kernel_rfl) | (rw [if_neg (by decide +kernel)]; exact ⟨rfl, rfl⟩))
    (fun os started H enc _ => pairAll_lifted os started H enc)
end
end Go.Proofs.Ytijjpnppedhfnaa
