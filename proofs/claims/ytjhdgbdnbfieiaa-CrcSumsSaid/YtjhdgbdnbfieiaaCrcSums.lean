/-
  'calamuslaw02.CrcSums' answers true for every text and every number, and what came in reads as it did: sums, sums that go on, and the table are those of the document.
-/
import Derived.Test.YtjhdgbdnbfieiaaCrcTabs
import Derived.Test.YtjhdgbdnbfieiaaFrame
namespace Go.Proofs.Ytjhdgbdnbfieiaa
open Go.RowKit
open Crc
theorem crc_more_any (n : Int) (s : ByteArray) (hs : s.size ≤ 9223372036854775807) (w : World) :
    Calls Try.prog 9 #[.int .i64 n, .string s] w fun e w' => e = .returned (.int .i64 (if 0 ≤ n ∧ n ≤ 4294967295 then (more n.toNat s.data.toList : Nat) else 0)) ∧ Below w.heap.size w w' := by
  by_cases h : 0 ≤ n ∧ n ≤ 4294967295
  · rw [if_pos h]
    obtain ⟨k, rfl⟩ : ∃ k : Nat, n = k := ⟨n.toNat, by omega⟩
    exact crc_more_ok s (by omega) hs w
  · rw [if_neg h]
    refine (crc_more_no s (by omega) w).mono ?_
    rintro e w' ⟨rfl, rfl⟩
    exact ⟨rfl, Below.refl _ _⟩
theorem ref_more_any (n : Int) (s : ByteArray) (hs : s.size ≤ 9223372036854775807) (w : World) :
    Calls Try.prog 10 #[.int .i64 n, .string s] w fun e w' => e = .returned (.int .i64 (if 0 ≤ n ∧ n ≤ 4294967295 then (more n.toNat s.data.toList : Nat) else 0)) ∧ w = w' := by
  by_cases h : 0 ≤ n ∧ n ≤ 4294967295
  · rw [if_pos h]
    obtain ⟨k, rfl⟩ : ∃ k : Nat, n = k := ⟨n.toNat, by omega⟩
    exact ref_more_ok s (by omega) hs w
  · rw [if_neg h]
    exact ref_more_no s (by omega) w
set_option maxHeartbeats 800000 in
set_option maxRecDepth 100000 in
theorem sums_walk (s : ByteArray) (n : Int) {w : World} (hs : s.size ≤ 140737488351232) :
    Calls Try.prog 3 #[.string s, .int .i64 n] w fun e w' => e = .returned (.bool true) ∧ Below w.heap.size w w' := by
  obtain ⟨M, hM⟩ : ∃ M : Int, M = if 0 ≤ n ∧ n ≤ 4294967295 then ((more n.toNat s.data.toList : Nat) : Int) else 0 := ⟨_, rfl⟩
  have c1 := fun w => crc_more_any n s (by omega) w
  have c2 := fun w => ref_more_any n s (by omega) w
  rw [← hM] at c1 c2
  clear hM
  have C1 := Lib.hid c1
  have C2 := Lib.hid c2
  clear c1 c2
  go_enter Try.func3, Try.ntmps3
  go_wp2_with fail
  refine (crc_sum_one s (by omega) (strs_one w s)).mono ?_
  rintro e w1 ⟨rfl, hb1⟩
  have hW1 : Below w.heap.size w w1 := ((Below.refl _ w).alloc (Nat.le_refl _) _).trans (hb1.mono (by simp))
  clear hb1
  go_wp2_with fail
  refine (ref_sum s (by omega) _).mono ?_
  rintro e w1 ⟨rfl, rfl⟩
  go_wp2_with fail
  refine (C1.out _).mono ?_
  rintro e w2 ⟨rfl, hb2⟩
  have hW2 : Below w.heap.size w w2 := hW1.trans (hb2.mono hW1.size)
  clear hb2 hW1
  go_wp2_with fail
  refine (C2.out _).mono ?_
  rintro e w2 ⟨rfl, rfl⟩
  go_wp2_with fail
  refine (crc_Table _).mono ?_
  rintro e w3 ⟨⟨A, rfl, hA⟩, hb3⟩
  have hW3 : Below w.heap.size w w3 := hW2.trans (hb3.mono hW2.size)
  clear hb3 hW2
  go_wp2_with fail
  refine (ref_Table _).mono ?_
  rintro e w4 ⟨⟨v, rfl, hown⟩, hb4⟩
  obtain ⟨B, c, rfl⟩ := own_shape hown
  have hB := Ints.of_own hown rfl
  have hA4 := hA.grown (gb_below none hb4) (by simp)
  have hW4 : Below w.heap.size w w4 := hW3.trans (hb4.mono hW3.size)
  rw [tabList_length] at *
  clear hb4 hW3 hown hA
  go_wp2_with fail
  have hsame := ref_same (c := 256) (d := c) hA4 hB (by rw [tabList_length]; omega)
  rw [tabList_length] at hsame
  refine hsame.mono ?_
  rintro e w5 ⟨rfl, hb5⟩
  have hW5 : Below w.heap.size w w5 := hW4.trans ((below_gb hb5).mono hW4.size)
  clear hb5 hW4 hA4 hB hsame
  go_wp2_with fail
  refine (crc_lives _).mono ?_
  rintro e w6 ⟨rfl, hb6⟩
  go_wp2
  go_ret
  exact ⟨rfl, hW5.trans (hb6.mono hW5.size)⟩
section
open Go.ChangeShapes Go.WideShapes Go.ChangeAt
open Go.ChangeMaps (open_string)
set_option maxRecDepth 100000 in
theorem crcSums_lifted (os : Os) (started : os.Started) (H : Type) (enc : TypeId × Value → H) :
    ReturnsInHanded {} Try.checked os 3 .any (Rows.crcSumsSpec.pre6 enc Try.prog Try.f3 Rows.crcSumsRow.domain false) (Rows.crcSumsSpec.post enc Try.prog Try.f3 false true false false) := by
  refine returnsInHanded_of_change_sized (C := Try.checked) own_knob started (by kernel_rfl) Try.func3
    (ChangeSpec.witness6 (enc := enc) (C := Try.checked) false ⟨#[], #[.string .empty, .int .i64 0], []⟩ 8 (by kernel_rfl) (by kernel_rfl) (by kernel_rfl) (by kernel_rfl)) ?_
  intro W base args ds gs before hval0 hW _ hsz0 _
  have hsz : (DataW.weightsEach Try.prog (Try.f3.params.toList ++ Rows.crcSumsSpec.plain.varTypes Try.prog) (ds ++ gs)).all (· ≤ reachBytes) = true := hsz0
  clear hsz0
  have hval : ∀ (j : Nat) t v, Try.f3.params[j]? = some t → args[j]? = some v → Value.okWide Try.prog W .any base t v := hval0
  have hW' := hW
  obtain ⟨p, q, hA0, hV, rfl, hfz, hnd⟩ := hW
  have hA : DataW.TrodAll enc Try.prog W 0 (fun _ => true) true Try.f3.params.toList args.toList ds p := hA0
  rw [Try.params3] at hA hval hsz
  obtain ⟨v0, vs0, d0, ds0, p0, q0, hargs, rfl, rfl, h0, r0⟩ := trodAll_cons hA
  obtain ⟨v1, vs1, d1, ds1, p1, q1, rfl, rfl, rfl, h1, r1⟩ := trodAll_cons r0
  obtain ⟨rfl, rfl, rfl⟩ := trodAll_nil r1
  obtain rfl : args = #[v0, v1] := by cases args; simp_all
  obtain ⟨rfl, rfl⟩ := trodVars_none hV
  obtain ⟨s0, rfl, rfl, rfl, hmax0⟩ := open_string Try.underlying9 (hval 0 9 v0 rfl rfl) h0
  have hs0 : s0.size ≤ 140737488351232 := by rw [← data_len]; exact sized_string hsz (j := 0) (t := 9) rfl rfl
  obtain ⟨n1, rfl, rfl, rfl, wn1⟩ := open_int Try.underlying3 (hval 1 3 v1 rfl rfl) h1
  refine (sums_walk s0 n1 hs0).mono fun e W' ⟨he, hb⟩ => ?_
  subst he
  exact ⟨_, rfl, law_post rfl rfl (by rw [Try.params3]; decide +kernel) ⟨rfl, rfl, rfl⟩ hW' hb⟩
theorem crcSums_holds : Rows.CrcSumsSaid :=
  OpenClaim.holds_of_wide 3 Try.f3 rfl rfl rfl rfl rfl rfl rfl ⟨rfl, rfl, rfl, rfl, rfl⟩ rfl rfl rfl rfl rfl (by kernel_rfl) Try.func3 (by kernel_rfl)
    (of_decide_eq_true (by kernel_rfl)) (by unfold Func.isWrapper; first | (rw [if_pos (by decide +kernel)]; kernel_rfl) | (rw [if_neg (by decide +kernel)]; exact ⟨rfl, rfl⟩))
    (fun os started H enc _ => crcSums_lifted os started H enc)
end
end Go.Proofs.Ytjhdgbdnbfieiaa
