/-
  'calamuslaw04.LineLeads' answers true for every text and every number: what anything is cut to is normal, and of what is normal itself; column and place lead back.
-/
import Derived.Test.YtaldnhokclofnaaLineLives
import Derived.Test.YtaldnhokclofnaaFrame
namespace Go.Proofs.Ytaldnhokclofnaa
open Go.RowKit
set_option maxHeartbeats 2000000 in
set_option maxRecDepth 100000 in
theorem lineLeads_walk (s : ByteArray) (p : Int) {w : World} (hs : s.size ≤ 140737488351232) :
    Calls Try.prog 7 #[.string s, .int .i64 p] w fun e w' => e = .returned (.bool true) ∧ Below w.heap.size w w' := by
  have hl := data_len s
  have cv := Lib.hid (fun w => utf_Valid s (by omega) w)
  have clv := Lib.hid (fun w => line_lives w)
  by_cases h5 : 1000 < s.size
  · go_enter Try.func7, Try.ntmps7
    go_wp2_with fail
    refine (clv.out _).mono ?_
    rintro e w1 ⟨rfl, hb⟩
    go_wp2
    go_ret
    exact ⟨rfl, hb⟩
  cases hv : Utf.valid s.data.toList with
  | false =>
    rw [hv] at cv
    clear hv
    go_enter Try.func7, Try.ntmps7
    go_wp2_with fail
    refine (cv.out _).mono ?_
    rintro e w1 ⟨rfl, rfl⟩
    go_wp2_with fail
    refine (clv.out _).mono ?_
    rintro e w1 ⟨rfl, hb⟩
    go_wp2
    go_ret
    exact ⟨rfl, hb⟩
  | true =>
    rw [hv] at cv
    obtain ⟨k, x, _, hk, h1, h2⟩ := Line.idx_find hv (Line.clip_le s.data.toList p)
    obtain ⟨c, hc, hcp, hcn, hc1, hc2⟩ := Line.clamp_ok hk h1 h2
    obtain ⟨f, hf, hfn, hf1, hf2⟩ := Line.first_ok hk
    have hx := Line.L_each hk
    have hln : Line.line s.data.toList ((k : Nat) : Int) = some x := by rw [Line.line_nat, hk]
    have m1 := fun w => line_Clamp s p (by omega) w
    rw [hc] at m1
    have M1 := Lib.hid m1
    have m2 := fun w => line_Normal s c (by omega) w
    rw [hcn] at m2
    have M2 := Lib.hid m2
    have m3 := fun w => line_Clamp s c (by omega) w
    rw [Line.clamp_same hcn] at m3
    have M3 := Lib.hid m3
    have m5 := fun w => line_Of s c (by omega) w
    rw [Line.of_at hk hc1 hc2] at m5
    have M5 := Lib.hid m5
    have M6 := Lib.hid (fun w => line_Column s c (by omega) w)
    have m7 := fun w => line_At s k (Line.column s.data.toList c) (by omega) w
    rw [Line.at_column hk hcp hc1 hc2] at m7
    have M7 := Lib.hid m7
    have m8 := fun w => line_First s k (by omega) w
    rw [hf] at m8
    have M8 := Lib.hid m8
    have m9 := fun w => line_Of s f (by omega) w
    rw [Line.of_at hk hf1 hf2] at m9
    have M9 := Lib.hid m9
    have m10 := fun w => line_Normal s f (by omega) w
    rw [hfn] at m10
    have M10 := Lib.hid m10
    have m11 := fun w => line_At s k (-1) (by omega) w
    rw [Line.at_low hk (by decide)] at m11
    have M11 := Lib.hid m11
    have m12 := fun w => line_Start s k (by omega) w
    rw [Line.start_some hln] at m12
    have M12 := Lib.hid m12
    have m13 := fun w => line_At s k ((s.size : Int) + 1) (by omega) w
    rw [Line.at_high hk (by omega)] at m13
    have M13 := Lib.hid m13
    have m14 := fun w => line_End s k (by omega) w
    rw [Line.stop_some hln] at m14
    have M14 := Lib.hid m14
    have hsz : s.size ≤ 1000 := by omega
    have hnp : Line.normal s.data.toList p = true → p = (c : Nat) := fun h => by rw [← hc, Line.clamp_same h]
    have m4 := fun w => line_Normal s p (by omega) w
    clear m1 m2 m3 m5 m7 m8 m9 m10 m11 m12 m13 m14 hv hk hc hcp hcn hf hfn hx hln h1 h2 hc1 hc2 hf1 hf2 h5 hs
    generalize Line.column s.data.toList c = col at *
    cases hn : Line.normal s.data.toList p with
    | false =>
      rw [hn] at m4
      have M4 := Lib.hid m4
      clear m4 hn hnp
      go_enter Try.func7, Try.ntmps7
      go_wp2_with fail
      refine (cv.out _).mono ?_
      rintro e w0 ⟨rfl, rfl⟩
      go_wp2_with fail
      refine (M1.out _).mono ?_
      rintro e w1 ⟨rfl, hb0⟩
      go_wp2_with fail
      refine (M2.out _).mono ?_
      rintro e w2 ⟨rfl, hb1⟩
      go_wp2_with fail
      refine (M3.out _).mono ?_
      rintro e w3 ⟨rfl, hb2⟩
      go_wp2_with fail
      refine (M4.out _).mono ?_
      rintro e w4 ⟨rfl, hb3⟩
      go_wp2_with fail
      refine (M5.out _).mono ?_
      rintro e w5 ⟨rfl, hb4⟩
      go_wp2_with fail
      refine (M6.out _).mono ?_
      rintro e w6 ⟨rfl, hb5⟩
      go_wp2_with fail
      refine (M7.out _).mono ?_
      rintro e w7 ⟨rfl, hb6⟩
      go_wp2_with fail
      refine (M8.out _).mono ?_
      rintro e w8 ⟨rfl, hb7⟩
      go_wp2_with fail
      refine (M9.out _).mono ?_
      rintro e w9 ⟨rfl, hb8⟩
      go_wp2_with fail
      refine (M8.out _).mono ?_
      rintro e w10 ⟨rfl, hb9⟩
      go_wp2_with fail
      refine (M10.out _).mono ?_
      rintro e w11 ⟨rfl, hb10⟩
      go_wp2_with fail
      refine (M11.out _).mono ?_
      rintro e w12 ⟨rfl, hb11⟩
      go_wp2_with fail
      refine (M12.out _).mono ?_
      rintro e w13 ⟨rfl, hb12⟩
      go_wp2_with fail
      refine (M13.out _).mono ?_
      rintro e w14 ⟨rfl, hb13⟩
      go_wp2_with fail
      refine (M14.out _).mono ?_
      rintro e w15 ⟨rfl, hb14⟩
      go_wp2_with fail
      refine (clv.out _).mono ?_
      rintro e w16 ⟨rfl, hb15⟩
      have k1 := hb0.trans (hb1.mono hb0.size)
      have k2 := k1.trans (hb2.mono k1.size)
      have k3 := k2.trans (hb3.mono k2.size)
      have k4 := k3.trans (hb4.mono k3.size)
      have k5 := k4.trans (hb5.mono k4.size)
      have k6 := k5.trans (hb6.mono k5.size)
      have k7 := k6.trans (hb7.mono k6.size)
      have k8 := k7.trans (hb8.mono k7.size)
      have k9 := k8.trans (hb9.mono k8.size)
      have k10 := k9.trans (hb10.mono k9.size)
      have k11 := k10.trans (hb11.mono k10.size)
      have k12 := k11.trans (hb12.mono k11.size)
      have k13 := k12.trans (hb13.mono k12.size)
      have k14 := k13.trans (hb14.mono k13.size)
      have k15 := k14.trans (hb15.mono k14.size)
      clear hb0 hb1 hb2 hb3 hb4 hb5 hb6 hb7 hb8 hb9 hb10 hb11 hb12 hb13 hb14 hb15 k1 k2 k3 k4 k5 k6 k7 k8 k9 k10 k11 k12 k13 k14
      go_wp2
      go_ret
      exact ⟨rfl, k15⟩
    | true =>
      obtain rfl := hnp hn
      rw [hn] at m4
      have M4 := Lib.hid m4
      have g : (((c : Nat) : Int) != ((c : Nat) : Int)) = false := by simp
      clear m4 hn hnp
      go_enter Try.func7, Try.ntmps7
      go_wp2_with fail
      refine (cv.out _).mono ?_
      rintro e w0 ⟨rfl, rfl⟩
      go_wp2_with fail
      refine (M1.out _).mono ?_
      rintro e w1 ⟨rfl, hb0⟩
      go_wp2_with fail
      refine (M2.out _).mono ?_
      rintro e w2 ⟨rfl, hb1⟩
      go_wp2_with fail
      refine (M3.out _).mono ?_
      rintro e w3 ⟨rfl, hb2⟩
      go_wp2_with fail
      refine (M4.out _).mono ?_
      rintro e w4 ⟨rfl, hb3⟩
      go_wp2_with fail
      refine (M5.out _).mono ?_
      rintro e w5 ⟨rfl, hb4⟩
      go_wp2_with fail
      refine (M6.out _).mono ?_
      rintro e w6 ⟨rfl, hb5⟩
      go_wp2_with fail
      refine (M7.out _).mono ?_
      rintro e w7 ⟨rfl, hb6⟩
      go_wp2_with fail
      refine (M8.out _).mono ?_
      rintro e w8 ⟨rfl, hb7⟩
      go_wp2_with fail
      refine (M9.out _).mono ?_
      rintro e w9 ⟨rfl, hb8⟩
      go_wp2_with fail
      refine (M8.out _).mono ?_
      rintro e w10 ⟨rfl, hb9⟩
      go_wp2_with fail
      refine (M10.out _).mono ?_
      rintro e w11 ⟨rfl, hb10⟩
      go_wp2_with fail
      refine (M11.out _).mono ?_
      rintro e w12 ⟨rfl, hb11⟩
      go_wp2_with fail
      refine (M12.out _).mono ?_
      rintro e w13 ⟨rfl, hb12⟩
      go_wp2_with fail
      refine (M13.out _).mono ?_
      rintro e w14 ⟨rfl, hb13⟩
      go_wp2_with fail
      refine (M14.out _).mono ?_
      rintro e w15 ⟨rfl, hb14⟩
      go_wp2_with fail
      refine (clv.out _).mono ?_
      rintro e w16 ⟨rfl, hb15⟩
      have k1 := hb0.trans (hb1.mono hb0.size)
      have k2 := k1.trans (hb2.mono k1.size)
      have k3 := k2.trans (hb3.mono k2.size)
      have k4 := k3.trans (hb4.mono k3.size)
      have k5 := k4.trans (hb5.mono k4.size)
      have k6 := k5.trans (hb6.mono k5.size)
      have k7 := k6.trans (hb7.mono k6.size)
      have k8 := k7.trans (hb8.mono k7.size)
      have k9 := k8.trans (hb9.mono k8.size)
      have k10 := k9.trans (hb10.mono k9.size)
      have k11 := k10.trans (hb11.mono k10.size)
      have k12 := k11.trans (hb12.mono k11.size)
      have k13 := k12.trans (hb13.mono k12.size)
      have k14 := k13.trans (hb14.mono k13.size)
      have k15 := k14.trans (hb15.mono k14.size)
      clear hb0 hb1 hb2 hb3 hb4 hb5 hb6 hb7 hb8 hb9 hb10 hb11 hb12 hb13 hb14 hb15 k1 k2 k3 k4 k5 k6 k7 k8 k9 k10 k11 k12 k13 k14
      go_wp2
      go_ret
      exact ⟨rfl, k15⟩
section
open Go.ChangeShapes Go.WideShapes Go.ChangeAt
open Go.ChangeMaps (open_string)
set_option maxRecDepth 100000 in
theorem lineLeads_lifted (os : Os) (started : os.Started) (H : Type) (enc : TypeId × Value → H) :
    ReturnsInHanded {} Try.checked os 7 .any (Rows.lineLeadsSpec.pre6 enc Try.prog Try.f7 Rows.lineLeadsRow.domain false) (Rows.lineLeadsSpec.post enc Try.prog Try.f7 false true false false) := by
  refine returnsInHanded_of_change_sized (C := Try.checked) own_knob started (by kernel_rfl) Try.func7
    (ChangeSpec.witness6 (enc := enc) (C := Try.checked) false ⟨#[], #[.string .empty, .int .i64 0], []⟩ 8 (by kernel_rfl) (by kernel_rfl) (by kernel_rfl) (by kernel_rfl)) ?_
  intro W base args ds gs before hval0 hW _ hsz0 _
  have hsz : (DataW.weightsEach Try.prog (Try.f7.params.toList ++ Rows.lineLeadsSpec.plain.varTypes Try.prog) (ds ++ gs)).all (· ≤ reachBytes) = true := hsz0
  clear hsz0
  have hval : ∀ (j : Nat) t v, Try.f7.params[j]? = some t → args[j]? = some v → Value.okWide Try.prog W .any base t v := hval0
  have hW' := hW
  obtain ⟨p, q, hA0, hV, rfl, hfz, hnd⟩ := hW
  have hA : DataW.TrodAll enc Try.prog W 0 (fun _ => true) true Try.f7.params.toList args.toList ds p := hA0
  rw [Try.params7] at hA hval hsz
  obtain ⟨v0, vs0, d0, ds0, p0, q0, hargs, rfl, rfl, h0, r0⟩ := trodAll_cons hA
  obtain ⟨v1, vs1, d1, ds1, p1, q1, rfl, rfl, rfl, h1, r1⟩ := trodAll_cons r0
  obtain ⟨rfl, rfl, rfl⟩ := trodAll_nil r1
  obtain rfl : args = #[v0, v1] := by cases args; simp_all
  obtain ⟨rfl, rfl⟩ := trodVars_none hV
  obtain ⟨s0, rfl, rfl, rfl, hmax0⟩ := open_string Try.underlying9 (hval 0 9 v0 rfl rfl) h0
  have hs0 : s0.size ≤ 140737488351232 := by rw [← data_len]; exact sized_string hsz (j := 0) (t := 9) rfl rfl
  obtain ⟨n1, rfl, rfl, rfl, wn1⟩ := open_int Try.underlying3 (hval 1 3 v1 rfl rfl) h1
  refine (lineLeads_walk s0 n1 hs0).mono fun e W' ⟨he, hb⟩ => ?_
  subst he
  exact ⟨_, rfl, law_post rfl rfl (by rw [Try.params7]; decide +kernel) ⟨rfl, rfl, rfl⟩ hW' hb⟩
theorem lineLeads_holds : Rows.LineLeadsSaid :=
  OpenClaim.holds_of_wide 7 Try.f7 rfl rfl rfl rfl rfl rfl rfl ⟨rfl, rfl, rfl, rfl, rfl⟩ rfl rfl rfl rfl rfl (by kernel_rfl) Try.func7 (by kernel_rfl)
    (of_decide_eq_true (by kernel_rfl)) (by unfold Func.isWrapper; first | (rw [if_pos (by decide +kernel)]; kernel_rfl) | (rw [if_neg (by decide +kernel)]; exact ⟨rfl, rfl⟩))
    (fun os started H enc _ => lineLeads_lifted os started H enc)
end
end Go.Proofs.Ytaldnhokclofnaa
