/-
  'calamuslaw03.UtfFeeds' answers true for every text and every byte: what becomes of bytes that begin a rune, and one more, is what the document tells.
-/
import Derived.Test.YtkioekjdbekcbaaUtfBeginsRun
import Derived.Test.YtkioekjdbekcbaaUtfLives
import Derived.Test.YtkioekjdbekcbaaFrame
namespace Go.Proofs.Ytkioekjdbekcbaa
open Go.RowKit
open Utf
set_option maxHeartbeats 800000 in
set_option maxRecDepth 100000 in
theorem ref_Feed (l : List UInt8) (b : UInt8) (hs : l.length ≤ 9223372036854775000) (w : World) :
    Calls Try.prog 26 #[.string (bs l), .int .u8 b.toNat] w fun e w' => e = fedAns (Utf.feed l b) ∧ Below w.heap.size w w' := by
  have hbt := b.toNat_lt
  have c0 := Lib.hid (fun w => ref_Begins (bs l) w)
  have c1 := Lib.hid (fun w => ref_Is (bs (l ++ [b])) w)
  have c2 := Lib.hid (fun w => ref_Begins (bs (l ++ [b])) w)
  rw [bs_toList] at c0 c1 c2
  have hcv := fun w x0 => run_bytes1 (P := Try.prog) w 39 9 5 x0 Try.underlying39 Try.underlying5 Try.underlying9
  have hcv2 := fun w => hcv w b.toNat
  have hz : (bs l).size = l.length := bs_size l
  have e1 : bs l ++ bs [UInt8.ofNat ((b.toNat : Int)).toNat] = bs (l ++ [b]) := by rw [bs_append]; simp
  have hzb : ¬ 9223372036854775807 < (bs l).size + (bs [UInt8.ofNat ((b.toNat : Int)).toNat]).size := by rw [bs_size, bs_size]; simp; omega
  have g1 := bs_isEmpty l
  have hf : Hid (Utf.feed l b = if l ≠ [] ∧ half l = false then ([], [], 1) else if one (l ++ [b]) = true then ([], l ++ [b], 0) else if half (l ++ [b]) = true then (l ++ [b], [], 0) else ([], [], 5)) := rfl
  clear hcv hz
  generalize bs [UInt8.ofNat ((b.toNat : Int)).toNat] = q at *
  have E := Lib.hid e1
  rw [← e1] at c1 c2
  clear e1
  generalize half (l ++ [b]) = hB at *
  generalize one (l ++ [b]) = oB at *
  by_cases h0 : l = []
  · have g2 : (bs l).toList.isEmpty = true := by rw [g1, h0]; rfl
    have hf2 : Hid (Utf.feed l b = if oB = true then ([], l ++ [b], 0) else if hB = true then (l ++ [b], [], 0) else ([], [], 5)) := by
      show _ = _
      rw [hf.out, if_neg (fun h => h.1 h0)]
    clear g1 h0 hf c0
    cases oB with
    | true =>
      have K : Hid (Utf.feed l b = ([], l ++ [b], 0)) := by show _ = _; rw [hf2.out]; rfl
      clear hf2
      go_enter Try.func26, Try.ntmps26
      go_wp2_with fail
      refine (c1.out _).mono ?_
      rintro e w1 ⟨rfl, hb1⟩
      go_wp2
      go_ret3
      exact ⟨by rw [K.out, fedAns, ← E.out]; rfl, ((Below.refl _ _).alloc (Nat.le_refl _) _).trans (hb1.mono (by simp))⟩
    | false =>
      cases hB with
      | true =>
        have K : Hid (Utf.feed l b = (l ++ [b], [], 0)) := by show _ = _; rw [hf2.out]; rfl
        clear hf2
        go_enter Try.func26, Try.ntmps26
        go_wp2_with fail
        refine (c1.out _).mono ?_
        rintro e w1 ⟨rfl, hb1⟩
        have hb2 := ((Below.refl _ w).alloc (Nat.le_refl _) _).trans (hb1.mono (by simp))
        go_wp2_with fail
        refine (c2.out _).mono ?_
        rintro e w2 ⟨rfl, hb3⟩
        go_wp2
        go_ret3
        exact ⟨by rw [K.out, fedAns, ← E.out]; rfl, hb2.trans (hb3.mono hb2.size)⟩
      | false =>
        have K : Hid (Utf.feed l b = ([], [], 5)) := by show _ = _; rw [hf2.out]; rfl
        clear hf2
        go_enter Try.func26, Try.ntmps26
        go_wp2_with fail
        refine (c1.out _).mono ?_
        rintro e w1 ⟨rfl, hb1⟩
        have hb2 := ((Below.refl _ w).alloc (Nat.le_refl _) _).trans (hb1.mono (by simp))
        go_wp2_with fail
        refine (c2.out _).mono ?_
        rintro e w2 ⟨rfl, hb3⟩
        go_wp2
        go_ret3
        exact ⟨by rw [K.out]; rfl, hb2.trans (hb3.mono hb2.size)⟩
  · have g2 : (bs l).toList.isEmpty = false := by rw [g1]; simpa using h0
    clear g1
    generalize half l = hL at *
    cases hL with
    | false =>
      have hf2 : Hid (Utf.feed l b = ([], [], 1)) := by show _ = _; rw [hf.out, if_pos ⟨h0, rfl⟩]
      clear h0 hf c1 c2 hcv2
      go_enter Try.func26, Try.ntmps26
      go_wp2_with fail
      refine (c0.out _).mono ?_
      rintro e w1 ⟨rfl, hb1⟩
      go_wp2
      go_ret3
      exact ⟨by rw [hf2.out]; rfl, hb1⟩
    | true =>
      have hf2 : Hid (Utf.feed l b = if oB = true then ([], l ++ [b], 0) else if hB = true then (l ++ [b], [], 0) else ([], [], 5)) := by
        show _ = _
        rw [hf.out, if_neg (fun h => by cases h.2)]
      clear h0 hf
      cases oB with
      | true =>
        have K : Hid (Utf.feed l b = ([], l ++ [b], 0)) := by show _ = _; rw [hf2.out]; rfl
        clear hf2
        go_enter Try.func26, Try.ntmps26
        go_wp2_with fail
        refine (c0.out _).mono ?_
        rintro e w0 ⟨rfl, hb0⟩
        have hcv3 := hcv2 w0
        go_wp2_with fail
        refine (c1.out _).mono ?_
        rintro e w1 ⟨rfl, hb1⟩
        go_wp2
        go_ret3
        exact ⟨by rw [K.out, fedAns, ← E.out]; rfl, (hb0.alloc hb0.size _).trans (hb1.mono (Nat.le_trans hb0.size (by simp)))⟩
      | false =>
        cases hB with
        | true =>
          have K : Hid (Utf.feed l b = (l ++ [b], [], 0)) := by show _ = _; rw [hf2.out]; rfl
          clear hf2
          go_enter Try.func26, Try.ntmps26
          go_wp2_with fail
          refine (c0.out _).mono ?_
          rintro e w0 ⟨rfl, hb0⟩
          have hcv3 := hcv2 w0
          go_wp2_with fail
          refine (c1.out _).mono ?_
          rintro e w1 ⟨rfl, hb1⟩
          have hb2 := (hb0.alloc hb0.size _).trans (hb1.mono (Nat.le_trans hb0.size (by simp)))
          go_wp2_with fail
          refine (c2.out _).mono ?_
          rintro e w2 ⟨rfl, hb3⟩
          go_wp2
          go_ret3
          exact ⟨by rw [K.out, fedAns, ← E.out]; rfl, hb2.trans (hb3.mono hb2.size)⟩
        | false =>
          have K : Hid (Utf.feed l b = ([], [], 5)) := by show _ = _; rw [hf2.out]; rfl
          clear hf2
          go_enter Try.func26, Try.ntmps26
          go_wp2_with fail
          refine (c0.out _).mono ?_
          rintro e w0 ⟨rfl, hb0⟩
          have hcv3 := hcv2 w0
          go_wp2_with fail
          refine (c1.out _).mono ?_
          rintro e w1 ⟨rfl, hb1⟩
          have hb2 := (hb0.alloc hb0.size _).trans (hb1.mono (Nat.le_trans hb0.size (by simp)))
          go_wp2_with fail
          refine (c2.out _).mono ?_
          rintro e w2 ⟨rfl, hb3⟩
          go_wp2
          go_ret3
          exact ⟨by rw [K.out]; rfl, hb2.trans (hb3.mono hb2.size)⟩
set_option maxHeartbeats 400000 in
set_option maxRecDepth 100000 in
theorem utf_feeds_walk (s : ByteArray) (x : Int) {w : World} (hs : s.size ≤ 140737488351232) (hw : (Lit.int .u8 x).wf = true) :
    Calls Try.prog 5 #[.string s, .int .u8 x] w fun e w' => e = .returned (.bool true) ∧ Below w.heap.size w w' := by
  obtain ⟨l, rfl⟩ : ∃ l, s = bs l := ⟨s.data.toList, rfl⟩
  have hx : 0 ≤ x ∧ x ≤ 255 := by simpa [Lit.wf, IntKind.min, IntKind.max, IntKind.signed, IntKind.bits] using hw
  clear hw
  obtain ⟨b, rfl⟩ : ∃ b : UInt8, x = b.toNat := ⟨UInt8.ofNat x.toNat, by simp; omega⟩
  rw [bs_size] at hs
  have c1 := fun w => utf_Feed l b (by omega) w
  have c2 := fun w => ref_Feed l b (by omega) w
  obtain ⟨h, r, k, hf⟩ : ∃ h r k, Utf.feed l b = (h, r, k) := ⟨_, _, _, rfl⟩
  rw [hf] at c1 c2
  simp only [fedAns] at c1 c2
  have C1 := Lib.hid c1
  have C2 := Lib.hid c2
  clear c1 c2 hf
  go_enter Try.func5, Try.ntmps5
  go_wp2_with fail
  refine (C1.out _).mono ?_
  rintro e w1 ⟨rfl, hb1⟩
  go_wp2_with fail
  refine (C2.out _).mono ?_
  rintro e w2 ⟨rfl, hb2⟩
  go_wp2_with fail
  refine (utf_lives _).mono ?_
  rintro e w3 ⟨rfl, hb3⟩
  have hb4 := hb1.trans (hb2.mono hb1.size)
  go_wp2
  go_ret
  exact ⟨rfl, hb4.trans (hb3.mono hb4.size)⟩
section
open Go.ChangeShapes Go.WideShapes Go.ChangeAt
open Go.ChangeMaps (open_string)
set_option maxRecDepth 100000 in
theorem utfFeeds_lifted (os : Os) (started : os.Started) (H : Type) (enc : TypeId × Value → H) :
    ReturnsInHanded {} Try.checked os 5 .any (Rows.utfFeedsSpec.pre6 enc Try.prog Try.f5 Rows.utfFeedsRow.domain false) (Rows.utfFeedsSpec.post enc Try.prog Try.f5 false true false false) := by
  refine returnsInHanded_of_change_sized (C := Try.checked) own_knob started (by kernel_rfl) Try.func5
    (ChangeSpec.witness6 (enc := enc) (C := Try.checked) false ⟨#[], #[.string .empty, .int .u8 0], []⟩ 8 (by kernel_rfl) (by kernel_rfl) (by kernel_rfl) (by kernel_rfl)) ?_
  intro W base args ds gs before hval0 hW _ hsz0 _
  have hsz : (DataW.weightsEach Try.prog (Try.f5.params.toList ++ Rows.utfFeedsSpec.plain.varTypes Try.prog) (ds ++ gs)).all (· ≤ reachBytes) = true := hsz0
  clear hsz0
  have hval : ∀ (j : Nat) t v, Try.f5.params[j]? = some t → args[j]? = some v → Value.okWide Try.prog W .any base t v := hval0
  have hW' := hW
  obtain ⟨p, q, hA0, hV, rfl, hfz, hnd⟩ := hW
  have hA : DataW.TrodAll enc Try.prog W 0 (fun _ => true) true Try.f5.params.toList args.toList ds p := hA0
  rw [Try.params5] at hA hval hsz
  obtain ⟨v0, vs0, d0, ds0, p0, q0, hargs, rfl, rfl, h0, r0⟩ := trodAll_cons hA
  obtain ⟨v1, vs1, d1, ds1, p1, q1, rfl, rfl, rfl, h1, r1⟩ := trodAll_cons r0
  obtain ⟨rfl, rfl, rfl⟩ := trodAll_nil r1
  obtain rfl : args = #[v0, v1] := by cases args; simp_all
  obtain ⟨rfl, rfl⟩ := trodVars_none hV
  obtain ⟨s0, rfl, rfl, rfl, hmax0⟩ := open_string Try.underlying9 (hval 0 9 v0 rfl rfl) h0
  have hs0 : s0.size ≤ 140737488351232 := by rw [← data_len]; exact sized_string hsz (j := 0) (t := 9) rfl rfl
  obtain ⟨n1, rfl, rfl, rfl, wn1⟩ := open_int Try.underlying5 (hval 1 5 v1 rfl rfl) h1
  refine (utf_feeds_walk s0 n1 hs0 wn1).mono fun e W' ⟨he, hb⟩ => ?_
  subst he
  exact ⟨_, rfl, law_post rfl rfl (by rw [Try.params5]; decide +kernel) ⟨rfl, rfl, rfl⟩ hW' hb⟩
theorem utfFeeds_holds : Rows.UtfFeedsSaid :=
  OpenClaim.holds_of_wide 5 Try.f5 rfl rfl rfl rfl rfl rfl rfl ⟨rfl, rfl, rfl, rfl, rfl⟩ rfl rfl rfl rfl rfl (by kernel_rfl) Try.func5 (by kernel_rfl)
    (of_decide_eq_true (by kernel_rfl)) (by unfold Func.isWrapper; first | (rw [if_pos (by decide +kernel)]; kernel_rfl) | (rw [if_neg (by decide +kernel)]; exact ⟨rfl, rfl⟩))
    (fun os started H enc _ => utfFeeds_lifted os started H enc)
end
end Go.Proofs.Ytkioekjdbekcbaa
