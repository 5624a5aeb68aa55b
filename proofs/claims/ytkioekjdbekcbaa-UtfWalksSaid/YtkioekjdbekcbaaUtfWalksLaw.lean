/-
  'calamuslaw03.UtfWalks' answers true for every text: from place to place, forwards and back, all of a text is gone through.
-/
import Derived.Test.YtkioekjdbekcbaaUtfLives
import Derived.Test.YtkioekjdbekcbaaFrame
import Derived.Deep.RegionHeld3
namespace Go.Proofs.Ytkioekjdbekcbaa
open Go.RowKit
theorem ext_bs (s : ByteArray) (a b : Nat) : s.extract a b = bs ((s.data.toList.take b).drop a) := by
  rw [Lib.extract_eq, List.drop_take]; rfl
set_option maxHeartbeats 1000000 in
set_option maxRecDepth 100000 in
theorem utf_walks_walk (s : ByteArray) {w : World} (hs : s.size ≤ 140737488351232) :
    Calls Try.prog 7 #[.string s] w fun e w' => e = .returned (.bool true) ∧ Below w.heap.size w w' := by
  have hl := data_len s
  have cv := Lib.hid (fun w => utf_Valid s (by omega) w)
  by_cases h5 : 500 < s.size
  · go_enter Try.func7, Try.ntmps7
    go_wp2_with fail
    refine (utf_lives _).mono ?_
    rintro e w1 ⟨rfl, hb⟩
    go_wp2
    go_ret
    exact ⟨rfl, hb⟩
  cases hd : Utf.dec s.data.toList with
  | none =>
    rw [Utf.valid_bad hd] at cv
    clear hd
    go_enter Try.func7, Try.ntmps7
    go_wp2_with fail
    refine (cv.out _).mono ?_
    rintro e w1 ⟨rfl, rfl⟩
    go_wp2_with fail
    refine (utf_lives _).mono ?_
    rintro e w1 ⟨rfl, hb⟩
    go_wp2
    go_ret
    exact ⟨rfl, hb⟩
  | some rs =>
    rw [Utf.valid_ok hd] at cv
    have D := Lib.hid hd
    have htop : Hid (Utf.off rs rs.length = s.size) := by show _ = _; rw [Utf.off_top hd (Nat.le_refl _)]; exact hl
    have hs5 : s.size ≤ 500 := by omega
    clear hd h5 hs
    go_enter Try.func7, Try.ntmps7
    go_wp2_with fail
    refine (cv.out _).mono ?_
    rintro e w1 ⟨rfl, rfl⟩
    go_wp2_with fail
    go_loopw [3, 4, 5, 6, 7] (fun X O N _ _ wr => ∃ (i y : Nat), i ≤ rs.length ∧ Hid (y = Utf.off rs i) ∧ y ≤ s.size ∧ i ≤ y ∧ X = .int .i64 y ∧ O = .string (bs (s.data.toList.take y)) ∧ N = .int .i64 i ∧ Below w.heap.size w wr) (fun X _ _ _ _ _ => s.size - (intOf X).toNat)
    case atStart => exact ⟨0, 0, Nat.zero_le _, (Utf.off_zero rs).symm, Nat.zero_le _, Nat.le_refl _, rfl, by simp; rfl, rfl, Below.refl _ _⟩
    case round =>
      obtain ⟨i, y, hi, Y, hys, hiy, rfl, rfl, rfl, hb⟩ := hrel
      rcases Nat.lt_or_ge i rs.length with hlt | hge
      · obtain ⟨z, hz⟩ : ∃ z, z = Utf.off rs (i + 1) := ⟨_, rfl⟩
        have hyz : y < z := by rw [Y.out, hz]; exact Utf.off_lt (Utf.dec_some D.out).1 (Nat.lt_succ_self _) hlt
        have hzs : z ≤ s.size := by rw [hz, ← hl]; exact Utf.off_in D.out _
        have cN := Lib.hid (fun w => utf_Next s y (by omega) w)
        rw [Y.out, Utf.next_at D.out hlt, ← Y.out, ← hz] at cN
        have cP := Lib.hid (fun w => utf_Prev s z (by omega) w)
        rw [hz, Utf.prev_at D.out hlt, ← Y.out, ← hz] at cP
        have cO := Lib.hid (fun w => utf_Offset s i (by omega) w)
        rw [Utf.offset_at D.out hi, ← Y.out] at cO
        have cR := Lib.hid (fun w => utf_Rune s y (by omega) w)
        have eR : bs (Utf.rune s.data.toList y) = s.extract y z := by
          rw [ext_bs, Y.out, hz, Utf.rune, Utf.next_at D.out hlt, if_neg (by omega)]; rfl
        rw [eR] at cR
        have Z := Lib.hid hz
        have hye : bs (s.data.toList.take y) ++ s.extract y z = bs (s.data.toList.take z) := by
          rw [ext_bs, bs_append]
          congr 1
          have h1 := List.take_append_drop y (s.data.toList.take z)
          rw [List.take_take, show min y z = y by omega] at h1
          exact h1
        clear hz eR
        have g1 : ((y : Int) != (y : Int)) = false := by simp
        have d1 : ¬ z ≤ y := by omega
        have d3 : (0 : Int) ≤ (y : Int) := by omega
        have d4 : (y : Int) ≤ (z : Int) := by omega
        have d5 : (z : Int) ≤ (s.size : Int) := by omega
        have d6 : y ≤ z := by omega
        have d2 : ¬ s.size < z := by omega
        have hzb : ¬ 9223372036854775807 < (bs (s.data.toList.take y)).size + (s.extract y z).size := by rw [bs_size, List.length_take, ByteArray.size_extract]; omega
        go_wp2_with fail
        refine (cN.out _).mono ?_
        rintro e w1 ⟨rfl, rfl⟩
        go_wp2_with fail
        go_region_held3 (fun _ => True) (exact trivial) (first | (go_at_call 15; refine (cP.out _).mono ?_; rintro e w2 ⟨rfl, rfl⟩) | (go_at_call 21; refine (cO.out _).mono ?_; rintro e w2 ⟨rfl, rfl⟩) | (go_at_call 17; refine (cR.out _).mono ?_; rintro e w2 ⟨rfl, hb2⟩))
        have hb3 : Below w.heap.size w w2 := (Below.drew hb).trans (hb2.mono hb.size)
        clear hb hb2 d1 d2 d3
        go_wp2_with fail
        refine (cR.out _).mono ?_
        rintro e w3 ⟨rfl, hb4⟩
        have hb5 := hb3.trans (hb4.mono hb3.size)
        clear hb3 hb4
        go_wp2_with fail
        go_loopw [7] (fun K w4 => ∃ k : Nat, y < k ∧ k ≤ z ∧ K = .int .i64 k ∧ Below w.heap.size w w4) (fun K _ => z - (intOf K).toNat)
        case atStart => exact ⟨y + 1, by omega, by omega, by go_num, hb5⟩
        case round =>
          obtain ⟨k, hk1, hk2, rfl, hb6⟩ := hrel
          clear hb5
          rcases Nat.lt_or_ge k z with hkz | hkz
          · have U : Utf.Under rs i k := ⟨hi, by rw [← Y.out]; omega, fun _ => by rw [← Z.out]; exact hkz⟩
            have cL := Lib.hid (fun w => utf_Place s k (by omega) w)
            rw [Utf.place_no D.out (fun m hm he => by
              rcases Nat.lt_or_ge i m with h1 | h1
              · have := Utf.off_mono (rs := rs) (i := i + 1) (j := m) h1
                have := Z.out
                omega
              · have := Utf.off_mono (rs := rs) (i := m) (j := i) h1
                have := Y.out
                omega)] at cL
            have cC := Lib.hid (fun w => utf_Cut s k (by omega) w)
            rw [Utf.under_cut D.out U, ← Y.out, show bs (s.data.toList.take y) = s.extract 0 y by rw [ext_bs]; rfl] at cC
            clear U
            have d1 : (0 : Int) ≤ (y : Int) := by omega
            have d2 : (y : Int) ≤ (s.size : Int) := by omega
            go_wp2_with fail
            go_region_held3 (fun _ => True) (exact trivial) (first | (go_at_call 11; refine (cL.out _).mono ?_; rintro e w5 ⟨rfl, rfl⟩) | (go_at_call 23; refine (cC.out _).mono ?_; rintro e w5 ⟨rfl, hb7⟩))
            have hb8 := (Below.drew hb6).trans (hb7.mono hb6.size)
            clear hb6 hb7 d1 d2
            go_wp2
            go_roundw
            case rel => exact ⟨k + 1, by omega, by omega, by go_num, hb8⟩
            case measure => simp [intOf]; omega
          · have hk : k = z := by omega
            clear hk1 hk2
            subst hk
            have E := Lib.hid hye
            go_wp2
            go_roundw
            case rel => exact ⟨i + 1, k, by omega, Z, by omega, by omega, rfl, by rw [← E.out], by go_num, hb6⟩
            case measure => simp [intOf]; omega
      · obtain rfl : i = rs.length := by omega
        have hy : y = s.size := by rw [Y.out]; exact htop.out
        clear Y htop hiy
        subst hy
        have cN := Lib.hid (fun w => utf_Next s s.size (by omega) w)
        rw [Utf.next_not (Or.inl (by rw [hl]))] at cN
        have cP := Lib.hid (fun w => utf_Prev s 0 (by omega) w)
        rw [Utf.prev_zero D.out] at cP
        have cC := Lib.hid (fun w => utf_Cut s s.size (by omega) w)
        have U : Utf.Under rs rs.length s.size := ⟨Nat.le_refl _, by have := Utf.off_in D.out rs.length; omega, fun h => absurd h (Nat.lt_irrefl _)⟩
        rw [Utf.under_cut D.out U, Utf.off_top D.out (Nat.le_refl _), List.take_length, bs_data] at cC
        rw [show s.data.toList.take s.size = s.data.toList by rw [← hl, List.take_length], bs_data]
        clear U
        go_wp2_with fail
        refine (cN.out _).mono ?_
        rintro e w1 ⟨rfl, rfl⟩
        go_wp2_with fail
        refine (cP.out _).mono ?_
        rintro e w1 ⟨rfl, rfl⟩
        go_wp2_with fail
        refine (cC.out _).mono ?_
        rintro e w1 ⟨rfl, hb1⟩
        go_wp2_with fail
        refine (utf_lives _).mono ?_
        rintro e w2 ⟨rfl, hb2⟩
        have hb3 := hb.trans (hb1.mono hb.size)
        go_wp2
        go_ret
        exact ⟨rfl, hb3.trans (hb2.mono hb3.size)⟩
section
open Go.ChangeShapes Go.WideShapes Go.ChangeAt
open Go.ChangeMaps (open_string)
set_option maxRecDepth 100000 in
theorem utfWalks_lifted (os : Os) (started : os.Started) (H : Type) (enc : TypeId × Value → H) :
    ReturnsInHanded {} Try.checked os 7 .any (Rows.utfWalksSpec.pre6 enc Try.prog Try.f7 Rows.utfWalksRow.domain false) (Rows.utfWalksSpec.post enc Try.prog Try.f7 false true false false) := by
  refine returnsInHanded_of_change_sized (C := Try.checked) own_knob started (by kernel_rfl) Try.func7
    (ChangeSpec.witness6 (enc := enc) (C := Try.checked) false ⟨#[], #[.string .empty], []⟩ 8 (by kernel_rfl) (by kernel_rfl) (by kernel_rfl) (by kernel_rfl)) ?_
  intro W base args ds gs before hval0 hW _ hsz0 _
  have hsz : (DataW.weightsEach Try.prog (Try.f7.params.toList ++ Rows.utfWalksSpec.plain.varTypes Try.prog) (ds ++ gs)).all (· ≤ reachBytes) = true := hsz0
  clear hsz0
  have hval : ∀ (j : Nat) t v, Try.f7.params[j]? = some t → args[j]? = some v → Value.okWide Try.prog W .any base t v := hval0
  have hW' := hW
  obtain ⟨p, q, hA0, hV, rfl, hfz, hnd⟩ := hW
  have hA : DataW.TrodAll enc Try.prog W 0 (fun _ => true) true Try.f7.params.toList args.toList ds p := hA0
  rw [Try.params7] at hA hval hsz
  obtain ⟨v0, vs0, d0, ds0, p0, q0, hargs, rfl, rfl, h0, r0⟩ := trodAll_cons hA
  obtain ⟨rfl, rfl, rfl⟩ := trodAll_nil r0
  obtain rfl : args = #[v0] := by cases args; simp_all
  obtain ⟨rfl, rfl⟩ := trodVars_none hV
  obtain ⟨s0, rfl, rfl, rfl, hmax0⟩ := open_string Try.underlying9 (hval 0 9 v0 rfl rfl) h0
  have hs0 : s0.size ≤ 140737488351232 := by rw [← data_len]; exact sized_string hsz (j := 0) (t := 9) rfl rfl
  refine (utf_walks_walk s0 hs0).mono fun e W' ⟨he, hb⟩ => ?_
  subst he
  exact ⟨_, rfl, law_post rfl rfl (by rw [Try.params7]; decide +kernel) ⟨rfl, rfl, rfl⟩ hW' hb⟩
theorem utfWalks_holds : Rows.UtfWalksSaid :=
  OpenClaim.holds_of_wide 7 Try.f7 rfl rfl rfl rfl rfl rfl rfl ⟨rfl, rfl, rfl, rfl, rfl⟩ rfl rfl rfl rfl rfl (by kernel_rfl) Try.func7 (by kernel_rfl)
    (of_decide_eq_true (by kernel_rfl)) (by unfold Func.isWrapper; first | (rw [if_pos (by decide +kernel)]; kernel_rfl) | (rw [if_neg (by decide +kernel)]; exact ⟨rfl, rfl⟩))
    (fun os started H enc _ => utfWalks_lifted os started H enc)
end
end Go.Proofs.Ytkioekjdbekcbaa
