/-
  'calamuslaw24.PasteOver' answers true for every text, place, rune and number: letters flipped, and runes put over others, are what the document tells, or there is its error. Conditions: none.
-/
import Derived.Test.YtambboomabeioaaJR
import Derived.Test.YtambboomabeioaaJD
namespace Go.Proofs.Ytambboomabeioaa
open Go.RowKit
set_option maxHeartbeats 4000000 in
set_option maxRecDepth 100000 in
theorem pasteOver_walk (s : ByteArray) (p : Int) (k : ByteArray) (n : Int) (hk : k.size ≤ 140737488351232) (w : World) :
    Calls Try.prog 4 #[.string s, .int .i64 p, .string k, .int .i64 n] w fun e w' => e = .returned (.bool true) ∧ Below w.heap.size w w' := by
  have LV := Lib.hid paste_lives
  have hB := Below.refl w.heap.size w
  by_cases h0 : 500 < s.size
  · have g0 : decide ((500 : Int) < (s.size : Int)) = true := decide_eq_true (by omega)
    go_enter Try.func4, Try.ntmps4
    go_wp2_with (first
      | (go_at_call 7; (with_reducible refine (LV.out _).mono ?_); rintro e u ⟨rfl, hbn⟩; replace hB := hB.trans (hbn.mono hB.size); clear hbn))
    go_ret
    exact ⟨rfl, hB⟩
  have g0 : decide ((500 : Int) < (s.size : Int)) = false := decide_eq_false (by omega)
  have A0 := fun w => paste_Flip s p n (by omega) w
  have B0 := fun w => ref24_Flip s p n (by omega) w
  have C0 := fun w => paste_Over s p k n (by omega) (by omega) w
  have D0 := fun w => ref24_Over s p k n (by omega) w
  generalize Pst.flip s.data.toList p n = r1 at *
  obtain ⟨y1, q1, er1⟩ := r1
  generalize Pst.over s.data.toList p k.data.toList n = r2 at *
  obtain ⟨y2, q2, er2⟩ := r2
  rw [Pst.val_mk] at A0 B0 C0 D0
  have A1 := Lib.hid A0
  have B1 := Lib.hid B0
  have C1 := Lib.hid C0
  have D1 := Lib.hid D0
  have s1 : ((bs y1).toList == (bs y1).toList) = true := by simp
  have i1 : (q1 == q1) = true := by simp
  have j1 : (er1 == er1) = true := by simp
  have s2 : ((bs y2).toList == (bs y2).toList) = true := by simp
  have i2 : (q2 == q2) = true := by simp
  have j2 : (er2 == er2) = true := by simp
  clear A0 B0 C0 D0 h0 hk
  go_enter Try.func4, Try.ntmps4
  go_wp2_with (first
    | (go_at_call 10; (with_reducible refine (A1.out _).mono ?_); rintro e u ⟨rfl, hbn⟩; replace hB := hB.trans (hbn.mono hB.size); clear hbn)
    | (go_at_call 11; (with_reducible refine (B1.out _).mono ?_); rintro e u ⟨rfl, hbn⟩; replace hB := hB.trans (hbn.mono hB.size); clear hbn)
    | (go_at_call 12; (with_reducible refine (C1.out _).mono ?_); rintro e u ⟨rfl, hbn⟩; replace hB := hB.trans (hbn.mono hB.size); clear hbn)
    | (go_at_call 13; (with_reducible refine (D1.out _).mono ?_); rintro e u ⟨rfl, hbn⟩; replace hB := hB.trans (hbn.mono hB.size); clear hbn)
    | (go_at_call 7; (with_reducible refine (LV.out _).mono ?_); rintro e u ⟨rfl, hbn⟩; replace hB := hB.trans (hbn.mono hB.size); clear hbn))
  go_ret
  exact ⟨rfl, hB⟩
section
open Go.ChangeShapes Go.WideShapes Go.ChangeAt
open Go.ChangeMaps (open_string)
set_option maxRecDepth 100000 in
theorem pasteOver_lifted (os : Os) (started : os.Started) (H : Type) (enc : TypeId × Value → H) :
    ReturnsInHanded {} Try.checked os 4 .any (Rows.pasteOverSpec.pre6 enc Try.prog Try.f4 Rows.pasteOverRow.domain false) (Rows.pasteOverSpec.post enc Try.prog Try.f4 false true false false) := by
  refine returnsInHanded_of_change_sized (C := Try.checked) own_knob started (by kernel_rfl) Try.func4
    (ChangeSpec.witness6 (enc := enc) (C := Try.checked) false ⟨#[], #[.string .empty, .int .i64 0, .string .empty, .int .i64 0], []⟩ 8 (by kernel_rfl) (by kernel_rfl) (by kernel_rfl) (by kernel_rfl)) ?_
  intro W base args ds gs before hval0 hW _ hsz0 _
  have hsz : (DataW.weightsEach Try.prog (Try.f4.params.toList ++ Rows.pasteOverSpec.plain.varTypes Try.prog) (ds ++ gs)).all (· ≤ reachBytes) = true := hsz0
  clear hsz0
  have hval : ∀ (j : Nat) t v, Try.f4.params[j]? = some t → args[j]? = some v → Value.okWide Try.prog W .any base t v := hval0
  have hW' := hW
  obtain ⟨p, q, hA0, hV, rfl, hfz, hnd⟩ := hW
  have hA : DataW.TrodAll enc Try.prog W 0 (fun _ => true) true Try.f4.params.toList args.toList ds p := hA0
  rw [Try.params4] at hA hval hsz
  obtain ⟨v0, vs0, d0, ds0, p0, q0, hargs, rfl, rfl, h0, r0⟩ := trodAll_cons hA
  obtain ⟨v1, vs1, d1, ds1, p1, q1, rfl, rfl, rfl, h1, r1⟩ := trodAll_cons r0
  obtain ⟨v2, vs2, d2, ds2, p2, q2, rfl, rfl, rfl, h2, r2⟩ := trodAll_cons r1
  obtain ⟨v3, vs3, d3, ds3, p3, q3, rfl, rfl, rfl, h3, r3⟩ := trodAll_cons r2
  obtain ⟨rfl, rfl, rfl⟩ := trodAll_nil r3
  obtain rfl : args = #[v0, v1, v2, v3] := by cases args; simp_all
  obtain ⟨rfl, rfl⟩ := trodVars_none hV
  obtain ⟨s0, rfl, rfl, rfl, hmax0⟩ := open_string Try.underlying9 (hval 0 9 v0 rfl rfl) h0
  have hs0 : s0.size ≤ 140737488351232 := by rw [← data_len]; exact sized_string hsz (j := 0) (t := 9) rfl rfl
  obtain ⟨n1, rfl, rfl, rfl, wn1⟩ := open_int Try.underlying3 (hval 1 3 v1 rfl rfl) h1
  obtain ⟨s2, rfl, rfl, rfl, hmax2⟩ := open_string Try.underlying9 (hval 2 9 v2 rfl rfl) h2
  have hs2 : s2.size ≤ 140737488351232 := by rw [← data_len]; exact sized_string hsz (j := 2) (t := 9) rfl rfl
  obtain ⟨n3, rfl, rfl, rfl, wn3⟩ := open_int Try.underlying3 (hval 3 3 v3 rfl rfl) h3
  refine (pasteOver_walk s0 n1 s2 n3 hs2 _).mono fun e W' ⟨he, hb⟩ => ?_
  subst he
  exact ⟨_, rfl, law_post rfl rfl (by rw [Try.params4]; decide +kernel) ⟨rfl, rfl, rfl⟩ hW' hb⟩
theorem pasteOver_holds : Rows.PasteOverSaid :=
  OpenClaim.holds_of_wide 4 Try.f4 rfl rfl rfl rfl rfl rfl rfl ⟨rfl, rfl, rfl, rfl, rfl⟩ rfl rfl rfl rfl rfl (by kernel_rfl) Try.func4 (by kernel_rfl)
    (of_decide_eq_true (by kernel_rfl)) (by unfold Func.isWrapper; first | (rw [if_pos (by decide +kernel)]; kernel_rfl) | (rw [if_neg (by decide +kernel)]; exact ⟨rfl, rfl⟩))
    (fun os started H enc _ => pasteOver_lifted os started H enc)
end
end Go.Proofs.Ytambboomabeioaa
