/-
  'calamuslaw04.LineWhole' answers true for every text and every number: the lines and line feeds, one behind the other, are the text; each offset is in its line.
-/
import Derived.Test.YtaldnhokclofnaaLineLives
import Derived.Test.YtaldnhokclofnaaFrame
namespace Go.Proofs.Ytaldnhokclofnaa
open Go.RowKit
namespace Line
/-- The first m lines, with the line feeds between them. -/
def upto (s : List UInt8) (m : Nat) : List UInt8 := if m = 0 then [] else s.take (((L s)[m - 1]?.map (·.2)).getD 0)
theorem upto_length (s : List UInt8) (m : Nat) : (upto s m).length ≤ s.length := by
  unfold upto; split
  · simp
  · rw [List.length_take]; omega
theorem upto_step {s : List UInt8} {m : Nat} {x : Nat × Nat} (h : (L s)[m]? = some x) : upto s m ++ (if 0 < m then [10] else []) ++ seg s x.1 x.2 = upto s (m + 1) := by
  have W := L_whole (L_valid h)
  have hx := L_each h
  have h1 : upto s (m + 1) = s.take x.2 := by rw [upto, if_neg (by omega)]; simp [h]
  have h2 : upto s m ++ (if 0 < m then [10] else []) = s.take x.1 := by
    cases m with
    | zero =>
      obtain ⟨z, hz, h0⟩ := W.head
      rw [hz] at h
      injection h with h
      subst h
      rw [h0]
      simp [upto]
    | succ m =>
      have hm : m < (L s).length := by have := (List.getElem?_eq_some_iff.1 h).1; omega
      have hz : (L s)[m]? = some (L s)[m] := List.getElem?_eq_getElem hm
      obtain ⟨h3, h4⟩ := W.more m _ x hz h
      rw [upto, if_neg (by omega), if_pos (by omega), Nat.add_sub_cancel, hz, h3, List.take_add_one, h4]
      rfl
  rw [h1, h2, seg]
  have h5 := List.take_append_drop x.1 (s.take x.2)
  rw [List.take_take, Nat.min_eq_left hx.1] at h5
  exact h5
theorem upto_all {s : List UInt8} (h : Utf.valid s = true) : upto s (L s).length = s := by
  have W := L_whole h
  have hp := W.pos
  have hz : (L s)[(L s).length - 1]? = some (L s)[(L s).length - 1] := List.getElem?_eq_getElem (by omega)
  have h1 := W.last _ _ hz (List.getElem?_eq_none (by omega))
  rw [upto, if_neg (by omega), hz]
  simp only [Option.map_some, Option.getD_some]
  rw [h1, List.take_length]
end Line
set_option maxHeartbeats 2000000 in
set_option maxRecDepth 100000 in
theorem lineWhole_walk (s : ByteArray) (p : Int) {w : World} (hs : s.size ≤ 140737488351232) :
    Calls Try.prog 6 #[.string s, .int .i64 p] w fun e w' => e = .returned (.bool true) ∧ Below w.heap.size w w' := by
  have hl := data_len s
  have cv := Lib.hid (fun w => utf_Valid s (by omega) w)
  have clv := Lib.hid (fun w => line_lives w)
  by_cases h5 : 1000 < s.size
  · go_enter Try.func6, Try.ntmps6
    go_wp2_with fail
    refine (clv.out _).mono ?_
    rintro e w1 ⟨rfl, hb⟩
    go_wp2
    go_ret
    exact ⟨rfl, hb⟩
  cases hv : Utf.valid s.data.toList with
  | false =>
    rw [hv] at cv
    clear hv
    go_enter Try.func6, Try.ntmps6
    go_wp2_with fail
    refine (cv.out _).mono ?_
    rintro e w1 ⟨rfl, rfl⟩
    go_wp2_with fail
    refine (clv.out _).mono ?_
    rintro e w1 ⟨rfl, hb⟩
    go_wp2
    go_ret
    exact ⟨rfl, hb⟩
  | true =>
    rw [hv] at cv
    have hsz : s.size ≤ 1000 := by omega
    have d5 : decide ((1000 : Int) < (s.size : Int)) = false := decide_eq_false (by omega)
    have V := Lib.hid hv
    have hlen := Line.L_length s.data.toList
    rw [hl] at hlen
    have cc := Lib.hid (fun w => line_Count s (by omega) w)
    have co := Lib.hid (fun w => line_Of s p (by omega) w)
    have U : Hid (bs (Line.upto s.data.toList (Line.L s.data.toList).length) = s) := by show _ = _; rw [Line.upto_all hv, bs_data]
    obtain ⟨R, hR⟩ : ∃ R, Hid (Line.L s.data.toList = R) := ⟨_, rfl⟩
    rw [hR.out] at cc hlen U
    clear hv h5 hs
    go_enter Try.func6, Try.ntmps6
    go_wp2_with fail
    refine (cv.out _).mono ?_
    rintro e w1 ⟨rfl, rfl⟩
    go_wp2_with fail
    go_loopw [5, 6, 7, 8] (fun al kk _ _ wr => ∃ m : Nat, m ≤ R.length ∧ al = .string (bs (Line.upto s.data.toList m)) ∧ kk = .int .i64 m ∧ Below w.heap.size w wr) (fun _ kk _ _ _ => R.length - (intOf kk).toNat)
    case atStart => exact ⟨0, Nat.zero_le _, rfl, rfl, Below.refl _ _⟩
    case round =>
      obtain ⟨m, hm, rfl, rfl, hbw⟩ := hrel
      rcases Nat.lt_or_ge m R.length with hlt | hge
      · obtain ⟨x, hxm⟩ : ∃ x, R[m]? = some x := ⟨_, List.getElem?_eq_getElem hlt⟩
        have hxk : (Line.L s.data.toList)[m]? = some x := by rw [hR.out]; exact hxm
        have hx := Line.L_each hxk
        have hln : Line.line s.data.toList ((m : Nat) : Int) = some x := by rw [Line.line_nat, hxk]
        have hx2 : x.2 ≤ s.size := by omega
        have hx1 : x.1 ≤ x.2 := hx.1
        rcases Nat.eq_zero_or_pos m with h0 | h0
        · subst h0
          have hln : Line.line s.data.toList 0 = some x := hln
          have m1 := fun w => line_Start s 0 (by omega) w
          rw [Line.start_some hln] at m1
          have M1 := Lib.hid m1
          have m2 := fun w => line_End s 0 (by omega) w
          rw [Line.stop_some hln] at m2
          have M2 := Lib.hid m2
          have m3 := fun w => line_Of s x.1 (by omega) w
          rw [Line.of_at hxk (Nat.le_refl _) hx.1, show ((0 : Nat) : Int) = 0 from rfl] at m3
          have M3 := Lib.hid m3
          have m4 := fun w => line_Of s x.2 (by omega) w
          rw [Line.of_at hxk hx.1 (Nat.le_refl _), show ((0 : Nat) : Int) = 0 from rfl] at m4
          have M4 := Lib.hid m4
          have hstep := Line.upto_step hxk
          have hul := Line.upto_length s.data.toList 0
          rw [hl] at hul
          have E := ext_seg s x.1 x.2
          have d0 : (0 : Int) ≤ (x.1 : Int) := by omega
          have d1 : (x.1 : Int) ≤ (x.2 : Int) := by omega
          have d2 : (x.2 : Int) ≤ (s.size : Int) := by omega
          have g1 : ((0 : Int) != (0 : Int)) = false := by simp
          clear m1 m2 m3 m4 hxm hxk hx hln
          have S : Hid (bs (Line.upto s.data.toList 0) ++ s.extract x.1 x.2 = bs (Line.upto s.data.toList (0 + 1))) := by
            show _ = _
            rw [E, bs_append]
            rw [if_neg (by omega), List.append_nil] at hstep
            rw [hstep]
          have hsum : ¬ 9223372036854775807 < (bs (Line.upto s.data.toList 0)).size + (s.extract x.1 x.2).size := by rw [bs_size, ByteArray.size_extract]; omega
          clear hstep E
          go_wp2_with fail
          refine (cc.out _).mono ?_
          rintro e w2 ⟨rfl, hb1⟩
          go_wp2_with fail
          refine (M1.out _).mono ?_
          rintro e w3 ⟨rfl, hb2⟩
          go_wp2_with fail
          refine (M2.out _).mono ?_
          rintro e w4 ⟨rfl, hb3⟩
          go_wp2_with fail
          refine (M3.out _).mono ?_
          rintro e w5 ⟨rfl, hb4⟩
          go_wp2_with fail
          refine (M4.out _).mono ?_
          rintro e w6 ⟨rfl, hb5⟩
          have k1 := hbw.trans (hb1.mono hbw.size)
          have k2 := k1.trans (hb2.mono k1.size)
          have k3 := k2.trans (hb3.mono k2.size)
          have k4 := k3.trans (hb4.mono k3.size)
          have k5 := k4.trans (hb5.mono k4.size)
          clear hb1 hb2 hb3 hb4 hb5 k1 k2 k3 k4
          go_wp2
          go_roundw
          case rel => exact ⟨0 + 1, by omega, by rw [← S.out], by go_num, k5⟩
          case measure => simp [intOf]; omega
        · have m1 := fun w => line_Start s m (by omega) w
          rw [Line.start_some hln] at m1
          have M1 := Lib.hid m1
          have m2 := fun w => line_End s m (by omega) w
          rw [Line.stop_some hln] at m2
          have M2 := Lib.hid m2
          have m3 := fun w => line_Of s x.1 (by omega) w
          rw [Line.of_at hxk (Nat.le_refl _) hx.1] at m3
          have M3 := Lib.hid m3
          have m4 := fun w => line_Of s x.2 (by omega) w
          rw [Line.of_at hxk hx.1 (Nat.le_refl _)] at m4
          have M4 := Lib.hid m4
          have hstep := Line.upto_step hxk
          have hul := Line.upto_length s.data.toList m
          rw [hl] at hul
          have E := ext_seg s x.1 x.2
          have d0 : (0 : Int) ≤ (x.1 : Int) := by omega
          have d1 : (x.1 : Int) ≤ (x.2 : Int) := by omega
          have d2 : (x.2 : Int) ≤ (s.size : Int) := by omega
          have g1 : ((m : Int) != (m : Int)) = false := by simp
          clear m1 m2 m3 m4 hxm hxk hx hln
          have S : Hid (bs (Line.upto s.data.toList m) ++ bs [10] ++ s.extract x.1 x.2 = bs (Line.upto s.data.toList (m + 1))) := by
            show _ = _
            rw [E, bs_append, bs_append]
            rw [if_pos h0] at hstep
            rw [hstep]
          have hsum1 : ¬ 9223372036854775807 < (bs (Line.upto s.data.toList m)).size + 1 := by rw [bs_size]; omega
          have hsum : ¬ 9223372036854775807 < (bs (Line.upto s.data.toList m)).size + 1 + (x.2 - x.1) := by rw [bs_size]; omega
          clear hstep E
          go_wp2_with fail
          refine (cc.out _).mono ?_
          rintro e w2 ⟨rfl, hb1⟩
          go_wp2_with fail
          refine (M1.out _).mono ?_
          rintro e w3 ⟨rfl, hb2⟩
          go_wp2_with fail
          refine (M2.out _).mono ?_
          rintro e w4 ⟨rfl, hb3⟩
          go_wp2_with fail
          refine (M3.out _).mono ?_
          rintro e w5 ⟨rfl, hb4⟩
          go_wp2_with fail
          refine (M4.out _).mono ?_
          rintro e w6 ⟨rfl, hb5⟩
          have k1 := hbw.trans (hb1.mono hbw.size)
          have k2 := k1.trans (hb2.mono k1.size)
          have k3 := k2.trans (hb3.mono k2.size)
          have k4 := k3.trans (hb4.mono k3.size)
          have k5 := k4.trans (hb5.mono k4.size)
          clear hb1 hb2 hb3 hb4 hb5 k1 k2 k3 k4
          go_wp2
          go_roundw
          case rel => exact ⟨m + 1, by omega, by rw [← S.out]; rfl, by go_num, k5⟩
          case measure => simp [intOf]; omega
      · obtain rfl : m = R.length := by omega
        rw [U.out]
        by_cases hin : 0 ≤ p ∧ p ≤ (s.size : Int)
        · obtain ⟨n, rfl⟩ : ∃ n : Nat, p = n := ⟨p.toNat, by omega⟩
          have hns : n ≤ s.size := by omega
          obtain ⟨k, x, _, hk, h1, h2⟩ := Line.idx_find V.out (p := n) (by omega)
          have hln : Line.line s.data.toList ((k : Nat) : Int) = some x := by rw [Line.line_nat, hk]
          rw [Line.of_at hk h1 h2] at co
          have m1 := fun w => line_Start s k (by omega) w
          rw [Line.start_some hln] at m1
          have M1 := Lib.hid m1
          have m2 := fun w => line_End s k (by omega) w
          rw [Line.stop_some hln] at m2
          have M2 := Lib.hid m2
          clear m1 m2 hin hk hln
          go_wp2_with fail
          refine (cc.out _).mono ?_
          rintro e w2 ⟨rfl, hb1⟩
          go_wp2_with fail
          refine (co.out _).mono ?_
          rintro e w3 ⟨rfl, hb2⟩
          go_wp2_with fail
          refine (M1.out _).mono ?_
          rintro e w4 ⟨rfl, hb3⟩
          go_wp2_with fail
          refine (M2.out _).mono ?_
          rintro e w5 ⟨rfl, hb4⟩
          go_wp2_with fail
          refine (clv.out _).mono ?_
          rintro e w6 ⟨rfl, hb5⟩
          have k1 := hbw.trans (hb1.mono hbw.size)
          have k2 := k1.trans (hb2.mono k1.size)
          have k3 := k2.trans (hb3.mono k2.size)
          have k4 := k3.trans (hb4.mono k3.size)
          have k5 := k4.trans (hb5.mono k4.size)
          clear hb1 hb2 hb3 hb4 hb5 k1 k2 k3 k4
          go_wp2
          go_ret
          exact ⟨rfl, k5⟩
        · generalize Line.of_ s.data.toList p = q at *
          by_cases hp0 : p < 0
          · go_wp2_with fail
            refine (cc.out _).mono ?_
            rintro e w2 ⟨rfl, hb1⟩
            go_wp2_with fail
            refine (co.out _).mono ?_
            rintro e w3 ⟨rfl, hb2⟩
            go_wp2_with fail
            refine (clv.out _).mono ?_
            rintro e w6 ⟨rfl, hb5⟩
            have k1 := hbw.trans (hb1.mono hbw.size)
            have k2 := k1.trans (hb2.mono k1.size)
            have k5 := k2.trans (hb5.mono k2.size)
            clear hb1 hb2 hb5 k1 k2
            go_wp2
            go_ret
            exact ⟨rfl, k5⟩
          · have hp1 : (s.size : Int) < p := by omega
            go_wp2_with fail
            refine (cc.out _).mono ?_
            rintro e w2 ⟨rfl, hb1⟩
            go_wp2_with fail
            refine (co.out _).mono ?_
            rintro e w3 ⟨rfl, hb2⟩
            go_wp2_with fail
            refine (clv.out _).mono ?_
            rintro e w6 ⟨rfl, hb5⟩
            have k1 := hbw.trans (hb1.mono hbw.size)
            have k2 := k1.trans (hb2.mono k1.size)
            have k5 := k2.trans (hb5.mono k2.size)
            clear hb1 hb2 hb5 k1 k2
            go_wp2
            go_ret
            exact ⟨rfl, k5⟩
section
open Go.ChangeShapes Go.WideShapes Go.ChangeAt
open Go.ChangeMaps (open_string)
set_option maxRecDepth 100000 in
theorem lineWhole_lifted (os : Os) (started : os.Started) (H : Type) (enc : TypeId × Value → H) :
    ReturnsInHanded {} Try.checked os 6 .any (Rows.lineWholeSpec.pre6 enc Try.prog Try.f6 Rows.lineWholeRow.domain false) (Rows.lineWholeSpec.post enc Try.prog Try.f6 false true false false) := by
  refine returnsInHanded_of_change_sized (C := Try.checked) own_knob started (by kernel_rfl) Try.func6
    (ChangeSpec.witness6 (enc := enc) (C := Try.checked) false ⟨#[], #[.string .empty, .int .i64 0], []⟩ 8 (by kernel_rfl) (by kernel_rfl) (by kernel_rfl) (by kernel_rfl)) ?_
  intro W base args ds gs before hval0 hW _ hsz0 _
  have hsz : (DataW.weightsEach Try.prog (Try.f6.params.toList ++ Rows.lineWholeSpec.plain.varTypes Try.prog) (ds ++ gs)).all (· ≤ reachBytes) = true := hsz0
  clear hsz0
  have hval : ∀ (j : Nat) t v, Try.f6.params[j]? = some t → args[j]? = some v → Value.okWide Try.prog W .any base t v := hval0
  have hW' := hW
  obtain ⟨p, q, hA0, hV, rfl, hfz, hnd⟩ := hW
  have hA : DataW.TrodAll enc Try.prog W 0 (fun _ => true) true Try.f6.params.toList args.toList ds p := hA0
  rw [Try.params6] at hA hval hsz
  obtain ⟨v0, vs0, d0, ds0, p0, q0, hargs, rfl, rfl, h0, r0⟩ := trodAll_cons hA
  obtain ⟨v1, vs1, d1, ds1, p1, q1, rfl, rfl, rfl, h1, r1⟩ := trodAll_cons r0
  obtain ⟨rfl, rfl, rfl⟩ := trodAll_nil r1
  obtain rfl : args = #[v0, v1] := by cases args; simp_all
  obtain ⟨rfl, rfl⟩ := trodVars_none hV
  obtain ⟨s0, rfl, rfl, rfl, hmax0⟩ := open_string Try.underlying9 (hval 0 9 v0 rfl rfl) h0
  have hs0 : s0.size ≤ 140737488351232 := by rw [← data_len]; exact sized_string hsz (j := 0) (t := 9) rfl rfl
  obtain ⟨n1, rfl, rfl, rfl, wn1⟩ := open_int Try.underlying3 (hval 1 3 v1 rfl rfl) h1
  refine (lineWhole_walk s0 n1 hs0).mono fun e W' ⟨he, hb⟩ => ?_
  subst he
  exact ⟨_, rfl, law_post rfl rfl (by rw [Try.params6]; decide +kernel) ⟨rfl, rfl, rfl⟩ hW' hb⟩
theorem lineWhole_holds : Rows.LineWholeSaid :=
  OpenClaim.holds_of_wide 6 Try.f6 rfl rfl rfl rfl rfl rfl rfl ⟨rfl, rfl, rfl, rfl, rfl⟩ rfl rfl rfl rfl rfl (by kernel_rfl) Try.func6 (by kernel_rfl)
    (of_decide_eq_true (by kernel_rfl)) (by unfold Func.isWrapper; first | (rw [if_pos (by decide +kernel)]; kernel_rfl) | (rw [if_neg (by decide +kernel)]; exact ⟨rfl, rfl⟩))
    (fun os started H enc _ => lineWhole_lifted os started H enc)
end
end Go.Proofs.Ytaldnhokclofnaa
