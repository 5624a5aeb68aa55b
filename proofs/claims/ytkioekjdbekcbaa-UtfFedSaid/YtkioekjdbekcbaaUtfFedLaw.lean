/-
  'calamuslaw03.UtfFed' answers true for every text: fed byte by byte a valid text gives its runes, and only such a one does.
-/
import Derived.Test.YtkioekjdbekcbaaUtfLives
import Derived.Test.YtkioekjdbekcbaaFrame
namespace Go.Proofs.Ytkioekjdbekcbaa
open Go.RowKit
namespace Utf
/-- How far the feeding of s has come: the bytes h of a rune that has begun, the runes o that have ended. -/
def Fed (s : List UInt8) (ok : Bool) (j : Nat) (h o : List UInt8) : Prop :=
  if ok then ∃ rs : List (List UInt8), (∀ r ∈ rs, one r = true) ∧ o = rs.flatten ∧ s.take j = o ++ h ∧ (h = [] ∨ h.length < siz h) else valid s = false
theorem fed_more {s : List UInt8} {j : Nat} {h o : List UInt8} {b : UInt8} (H : Fed s true j h o) (hb : s[j]? = some b) :
    (h = [] ∨ h.length < siz h) ∧ (siz (h ++ [b]) = 0 → valid s = false) ∧ (siz (h ++ [b]) = h.length + 1 → Fed s true (j + 1) [] (o ++ (h ++ [b])))
      ∧ (siz (h ++ [b]) ≠ 0 → siz (h ++ [b]) ≠ h.length + 1 → Fed s true (j + 1) (h ++ [b]) o) := by
  obtain ⟨rs, h1, h2, h3, h4⟩ := H
  have hj : s.take (j + 1) = o ++ (h ++ [b]) := by rw [List.take_add_one, hb, h3]; simp
  refine ⟨h4, fun h0 => ?_, fun h5 => ?_, fun h5 h6 => ?_⟩
  · have hs : s = o ++ ((h ++ [b]) ++ s.drop (j + 1)) := by rw [← List.append_assoc, ← hj, List.take_append_drop]
    have hz : siz ((h ++ [b]) ++ s.drop (j + 1)) = 0 := by rw [siz_more _ (by simp) (by omega), h0]
    rw [valid, hs, h2, dec_all _ h1, dec_bad (by simp) (Or.inl hz)]
    rfl
  · refine ⟨rs ++ [h ++ [b]], ?_, by simp [h2], by rw [hj]; simp, Or.inl rfl⟩
    intro r hr
    rcases List.mem_append.1 hr with hr | hr
    · exact h1 r hr
    · simp only [List.mem_singleton] at hr
      subst hr
      rw [one_iff, snoc_len]
      omega
  · refine ⟨rs, h1, h2, hj, Or.inr ?_⟩
    have := feed_half h4 h5 h6
    rw [snoc_len]
    rcases h4 with rfl | h4
    · simp only [List.nil_append, List.length_nil] at *; omega
    · have hne : h ≠ [] := by rintro rfl; simp [siz] at h4
      have := siz_less (s := h) (t := [b]) hne (by omega)
      omega
theorem fed_end {s : List UInt8} {h o : List UInt8} (H : Fed s true s.length h o) : valid s = (h.isEmpty && (o == s)) := by
  obtain ⟨rs, h1, h2, h3, h4⟩ := H
  rw [List.take_length] at h3
  rcases Classical.em (h = []) with rfl | h5
  · rw [List.append_nil] at h3
    rw [valid, h3, h2, dec_of h1]
    simp
  · have h6 : h.length < siz h := by
      rcases h4 with h4 | h4
      · exact absurd h4 h5
      · exact h4
    have h7 : h.isEmpty = false := by simpa using h5
    rw [valid, h7]
    conv => lhs; rw [h3, h2, dec_all _ h1, dec_bad h5 (Or.inr h6)]
    rfl
end Utf
set_option maxHeartbeats 1000000 in
set_option maxRecDepth 100000 in
theorem utf_fed_walk (s : ByteArray) {w : World} (hs : s.size ≤ 140737488351232) :
    Calls Try.prog 6 #[.string s] w fun e w' => e = .returned (.bool true) ∧ Below w.heap.size w w' := by
  have hl := data_len s
  have cv := Lib.hid (fun w => utf_Valid s (by omega) w)
  go_enter Try.func6, Try.ntmps6
  go_wp2_with fail
  go_loopw [3, 4, 5, 6, 7, 8, 9] (fun H O K I _ _ _ wr => ∃ (j : Nat) (h o : List UInt8) (ok : Bool), j ≤ s.size ∧ I = .int .i64 j ∧ H = .string (bs h) ∧ O = .string (bs o) ∧ K = .bool ok ∧ h.length ≤ j ∧ o.length ≤ j ∧ Hid (Utf.Fed s.data.toList ok j h o) ∧ Below w.heap.size w wr)
    (fun _ _ _ I _ _ _ _ => s.size - (intOf I).toNat)
  case atStart => exact ⟨0, [], [], true, Nat.zero_le _, rfl, rfl, rfl, rfl, Nat.le_refl _, Nat.le_refl _, ⟨[], by simp, rfl, by simp, Or.inl rfl⟩, Below.refl _ _⟩
  case round =>
    obtain ⟨j, h, o, ok, hj, rfl, rfl, rfl, rfl, hh, ho, F, hb⟩ := hrel
    cases ok with
    | false =>
      have V : Utf.valid s.data.toList = false := F.out
      rw [V] at cv
      clear F V
      rcases Nat.lt_or_ge j s.size with hlt | hge
      · go_wp2_with fail
        refine (cv.out _).mono ?_
        rintro e w1 ⟨rfl, rfl⟩
        go_wp2_with fail
        refine (utf_lives _).mono ?_
        rintro e w1 ⟨rfl, hb2⟩
        go_wp2
        go_ret
        exact ⟨rfl, hb.trans (hb2.mono hb.size)⟩
      · go_wp2_with fail
        refine (cv.out _).mono ?_
        rintro e w1 ⟨rfl, rfl⟩
        go_wp2_with fail
        refine (utf_lives _).mono ?_
        rintro e w1 ⟨rfl, hb2⟩
        go_wp2
        go_ret
        exact ⟨rfl, hb.trans (hb2.mono hb.size)⟩
    | true =>
      rcases Nat.lt_or_ge j s.size with hlt | hge
      · obtain ⟨f1, f2, f3, f4⟩ := Utf.fed_more F.out (byte_get s hlt)
        have hbt := s[j].toNat_lt
        by_cases h0 : Utf.siz (h ++ [s[j]]) = 0
        · have c := Lib.hid (fun w => utf_Feed_at (Utf.feed_bad f1 h0) (by omega) w)
          have K : Hid (Utf.Fed s.data.toList false (j + 1) [] (o ++ [])) := f2 h0
          have hzb : ¬ 9223372036854775807 < (bs o).size + (bs []).size := by rw [bs_size, bs_size]; simp; omega
          clear F f1 f2 f3 f4 h0
          go_wp2_with fail
          refine (c.out _).mono ?_
          rintro e w1 ⟨rfl, hb2⟩
          have hb3 := hb.trans (hb2.mono hb.size)
          clear hb hb2
          go_wp2
          go_roundw
          case rel => exact ⟨j + 1, [], o ++ [], false, by omega, by go_num, rfl, by rw [← bs_append], rfl, by simp, by simp; omega, K, hb3⟩
          case measure => simp [intOf]; omega
        · by_cases h1 : Utf.siz (h ++ [s[j]]) = h.length + 1
          · have c := Lib.hid (fun w => utf_Feed_at (Utf.feed_one f1 h1) (by omega) w)
            have K : Hid (Utf.Fed s.data.toList true (j + 1) [] (o ++ (h ++ [s[j]]))) := f3 h1
            have KL : Hid ((h ++ [s[j]]).length = h.length + 1) := Utf.snoc_len _ _
            have K4 := Utf.siz_le (h ++ [s[j]])
            have KO : Hid ((o ++ (h ++ [s[j]])).length ≤ j + 1) := by
              obtain ⟨rs, k1, k2, k3, k4⟩ := K.out
              have := congrArg List.length k3
              rw [List.append_nil] at this
              show _ ≤ _
              rw [← this, List.length_take]; omega
            have hzb : ¬ 9223372036854775807 < (bs o).size + (bs (h ++ [s[j]])).size := by rw [bs_size, bs_size, KL.out]; omega
            clear F f1 f2 f3 f4 h0 h1 K4
            generalize h ++ [s[j]] = q at *
            go_wp2_with fail
            refine (c.out _).mono ?_
            rintro e w1 ⟨rfl, hb2⟩
            have hb3 := hb.trans (hb2.mono hb.size)
            clear hb hb2
            go_wp2
            go_roundw
            case rel => exact ⟨j + 1, [], o ++ q, true, by omega, by go_num, rfl, by rw [← bs_append], rfl, by simp, KO.out, K, hb3⟩
            case measure => simp [intOf]; omega
          · have c := Lib.hid (fun w => utf_Feed_at (Utf.feed_half f1 h0 h1) (by omega) w)
            have K : Hid (Utf.Fed s.data.toList true (j + 1) (h ++ [s[j]]) (o ++ [])) := by rw [List.append_nil]; exact f4 h0 h1
            have KL : Hid ((h ++ [s[j]]).length = h.length + 1) := Utf.snoc_len _ _
            have hzb : ¬ 9223372036854775807 < (bs o).size + (bs []).size := by rw [bs_size, bs_size]; simp; omega
            clear F f1 f2 f3 f4 h0 h1
            generalize h ++ [s[j]] = q at *
            go_wp2_with fail
            refine (c.out _).mono ?_
            rintro e w1 ⟨rfl, hb2⟩
            have hb3 := hb.trans (hb2.mono hb.size)
            clear hb hb2
            go_wp2
            go_roundw
            case rel => exact ⟨j + 1, q, o ++ [], true, by omega, by go_num, rfl, by rw [← bs_append], rfl, by have := KL.out; omega, by simp; omega, K, hb3⟩
            case measure => simp [intOf]; omega
      · obtain rfl : j = s.size := by omega
        have V := Utf.fed_end (by rw [hl]; exact F.out)
        rw [V] at cv
        have g1 := bs_isEmpty h
        have g2 : ((bs o).toList == s.toList) = (o == s.data.toList) := by rw [bs_tl, Lib.toList_data]
        clear F V
        generalize h.isEmpty = x at *
        generalize (o == s.data.toList) = y at *
        cases x
        · go_wp2_with fail
          refine (cv.out _).mono ?_
          rintro e w1 ⟨rfl, rfl⟩
          go_wp2_with fail
          refine (utf_lives _).mono ?_
          rintro e w1 ⟨rfl, hb2⟩
          go_wp2
          go_ret
          exact ⟨rfl, hb.trans (hb2.mono hb.size)⟩
        · go_wp2_with fail
          refine (cv.out _).mono ?_
          rintro e w1 ⟨rfl, rfl⟩
          go_wp2_with fail
          refine (utf_lives _).mono ?_
          rintro e w1 ⟨rfl, hb2⟩
          go_wp2
          go_ret
          exact ⟨rfl, hb.trans (hb2.mono hb.size)⟩
section
open Go.ChangeShapes Go.WideShapes Go.ChangeAt
open Go.ChangeMaps (open_string)
set_option maxRecDepth 100000 in
theorem utfFed_lifted (os : Os) (started : os.Started) (H : Type) (enc : TypeId × Value → H) :
    ReturnsInHanded {} Try.checked os 6 .any (Rows.utfFedSpec.pre6 enc Try.prog Try.f6 Rows.utfFedRow.domain false) (Rows.utfFedSpec.post enc Try.prog Try.f6 false true false false) := by
  refine returnsInHanded_of_change_sized (C := Try.checked) own_knob started (by kernel_rfl) Try.func6
    (ChangeSpec.witness6 (enc := enc) (C := Try.checked) false ⟨#[], #[.string .empty], []⟩ 8 (by kernel_rfl) (by kernel_rfl) (by kernel_rfl) (by kernel_rfl)) ?_
  intro W base args ds gs before hval0 hW _ hsz0 _
  have hsz : (DataW.weightsEach Try.prog (Try.f6.params.toList ++ Rows.utfFedSpec.plain.varTypes Try.prog) (ds ++ gs)).all (· ≤ reachBytes) = true := hsz0
  clear hsz0
  have hval : ∀ (j : Nat) t v, Try.f6.params[j]? = some t → args[j]? = some v → Value.okWide Try.prog W .any base t v := hval0
  have hW' := hW
  obtain ⟨p, q, hA0, hV, rfl, hfz, hnd⟩ := hW
  have hA : DataW.TrodAll enc Try.prog W 0 (fun _ => true) true Try.f6.params.toList args.toList ds p := hA0
  rw [Try.params6] at hA hval hsz
  obtain ⟨v0, vs0, d0, ds0, p0, q0, hargs, rfl, rfl, h0, r0⟩ := trodAll_cons hA
  obtain ⟨rfl, rfl, rfl⟩ := trodAll_nil r0
  obtain rfl : args = #[v0] := by cases args; simp_all
  obtain ⟨rfl, rfl⟩ := trodVars_none hV
  obtain ⟨s0, rfl, rfl, rfl, hmax0⟩ := open_string Try.underlying9 (hval 0 9 v0 rfl rfl) h0
  have hs0 : s0.size ≤ 140737488351232 := by rw [← data_len]; exact sized_string hsz (j := 0) (t := 9) rfl rfl
  refine (utf_fed_walk s0 hs0).mono fun e W' ⟨he, hb⟩ => ?_
  subst he
  exact ⟨_, rfl, law_post rfl rfl (by rw [Try.params6]; decide +kernel) ⟨rfl, rfl, rfl⟩ hW' hb⟩
theorem utfFed_holds : Rows.UtfFedSaid :=
  OpenClaim.holds_of_wide 6 Try.f6 rfl rfl rfl rfl rfl rfl rfl ⟨rfl, rfl, rfl, rfl, rfl⟩ rfl rfl rfl rfl rfl (by kernel_rfl) Try.func6 (by kernel_rfl)
    (of_decide_eq_true (by kernel_rfl)) (by unfold Func.isWrapper; first | (rw [if_pos (by decide +kernel)]; kernel_rfl) | (rw [if_neg (by decide +kernel)]; exact ⟨rfl, rfl⟩))
    (fun os started H enc _ => utfFed_lifted os started H enc)
end
end Go.Proofs.Ytkioekjdbekcbaa
