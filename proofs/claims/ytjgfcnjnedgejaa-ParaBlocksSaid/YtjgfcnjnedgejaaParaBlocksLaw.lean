/-
  'calamuslaw18.ParaBlocks' answers true for every text and place: the block of anything, alone and with another one, is what the document tells.
-/
import Derived.Test.YtjgfcnjnedgejaaParaLives
namespace Go.Proofs.Ytjgfcnjnedgejaa
open Go.RowKit
theorem Para.blkT_form (s : List UInt8) (p : Int) (two : Bool) : ∃ (a b : Int), Para.blkT s p two = .tuple #[.int .i64 a, .int .i64 b] := by
  unfold Para.blkT
  split
  · exact ⟨_, _, rfl⟩
  · exact ⟨_, _, rfl⟩
set_option maxHeartbeats 2000000 in
set_option maxRecDepth 100000 in
theorem paraBlocks_walk (s : ByteArray) (p : Int) (w : World) :
    Calls Try.prog 4 #[.string s, .int .i64 p] w fun e w' => e = .returned (.bool true) ∧ Below w.heap.size w w' := by
  have LV := Lib.hid para_lives
  have hX := Below.refl w.heap.size w
  by_cases h0 : 300 < s.size
  · have g0 : decide ((300 : Int) < (s.size : Int)) = true := decide_eq_true (by omega)
    go_enter Try.func4, Try.ntmps4
    go_wp2_with (first
      | (go_at_call 7; (with_reducible refine (LV.out _).mono ?_); rintro e w8 ⟨rfl, hb⟩; replace hX := para_run hX hb; clear hb))
    go_ret
    exact ⟨rfl, hX⟩
  have g0 : decide ((300 : Int) < (s.size : Int)) = false := decide_eq_false (by omega)
  have c0 := fun w => para_Block s p false (by omega) w
  have c1 := fun w => ref18_Block s p false (by omega) w
  have c2 := fun w => para_Block s p true (by omega) w
  have c3 := fun w => ref18_Block s p true (by omega) w
  obtain ⟨a, b, h1⟩ := Para.blkT_form s.data.toList p false
  obtain ⟨c, d, h2⟩ := Para.blkT_form s.data.toList p true
  rw [h1] at c0 c1
  rw [h2] at c2 c3
  have C0 := Lib.hid c0
  have C1 := Lib.hid c1
  have C2 := Lib.hid c2
  have C3 := Lib.hid c3
  clear c0 c1 c2 c3 h0 h1 h2
  go_enter Try.func4, Try.ntmps4
  go_wp2_with (first
    | (go_at_call 10; (with_reducible refine (C0.out _).mono ?_); rintro e w1 ⟨rfl, hb⟩; replace hX := para_run hX hb; clear hb)
    | (go_at_call 11; (with_reducible refine (C1.out _).mono ?_); rintro e w2 ⟨rfl, hb⟩; replace hX := para_run hX hb; clear hb)
    | (go_at_call 10; (with_reducible refine (C2.out _).mono ?_); rintro e w3 ⟨rfl, hb⟩; replace hX := para_run hX hb; clear hb)
    | (go_at_call 11; (with_reducible refine (C3.out _).mono ?_); rintro e w4 ⟨rfl, hb⟩; replace hX := para_run hX hb; clear hb)
    | (go_at_call 7; (with_reducible refine (LV.out _).mono ?_); rintro e w8 ⟨rfl, hb⟩; replace hX := para_run hX hb; clear hb))
  go_ret
  exact ⟨rfl, hX⟩
section
open Go.ChangeShapes Go.WideShapes Go.ChangeAt
open Go.ChangeMaps (open_string)
set_option maxRecDepth 100000 in
theorem paraBlocks_lifted (os : Os) (started : os.Started) (H : Type) (enc : TypeId × Value → H) :
    ReturnsInHanded {} Try.checked os 4 .any (Rows.paraBlocksSpec.pre6 enc Try.prog Try.f4 Rows.paraBlocksRow.domain false) (Rows.paraBlocksSpec.post enc Try.prog Try.f4 false true false false) := by
  refine returnsInHanded_of_change_sized (C := Try.checked) own_knob started (by kernel_rfl) Try.func4
    (ChangeSpec.witness6 (enc := enc) (C := Try.checked) false ⟨#[], #[.string .empty, .int .i64 0], []⟩ 8 (by kernel_rfl) (by kernel_rfl) (by kernel_rfl) (by kernel_rfl)) ?_
  intro W base args ds gs before hval0 hW _ hsz0 _
  have hsz : (DataW.weightsEach Try.prog (Try.f4.params.toList ++ Rows.paraBlocksSpec.plain.varTypes Try.prog) (ds ++ gs)).all (· ≤ reachBytes) = true := hsz0
  clear hsz0
  have hval : ∀ (j : Nat) t v, Try.f4.params[j]? = some t → args[j]? = some v → Value.okWide Try.prog W .any base t v := hval0
  have hW' := hW
  obtain ⟨p, q, hA0, hV, rfl, hfz, hnd⟩ := hW
  have hA : DataW.TrodAll enc Try.prog W 0 (fun _ => true) true Try.f4.params.toList args.toList ds p := hA0
  rw [Try.params4] at hA hval hsz
  obtain ⟨v0, vs0, d0, ds0, p0, q0, hargs, rfl, rfl, h0, r0⟩ := trodAll_cons hA
  obtain ⟨v1, vs1, d1, ds1, p1, q1, rfl, rfl, rfl, h1, r1⟩ := trodAll_cons r0
  obtain ⟨rfl, rfl, rfl⟩ := trodAll_nil r1
  obtain rfl : args = #[v0, v1] := by cases args; simp_all
  obtain ⟨rfl, rfl⟩ := trodVars_none hV
  obtain ⟨s0, rfl, rfl, rfl, hmax0⟩ := open_string Try.underlying9 (hval 0 9 v0 rfl rfl) h0
  have hs0 : s0.size ≤ 140737488351232 := by rw [← data_len]; exact sized_string hsz (j := 0) (t := 9) rfl rfl
  obtain ⟨n1, rfl, rfl, rfl, wn1⟩ := open_int Try.underlying3 (hval 1 3 v1 rfl rfl) h1
  refine (paraBlocks_walk s0 n1 _).mono fun e W' ⟨he, hb⟩ => ?_
  subst he
  exact ⟨_, rfl, law_post rfl rfl (by rw [Try.params4]; decide +kernel) ⟨rfl, rfl, rfl⟩ hW' hb⟩
theorem paraBlocks_holds : Rows.ParaBlocksSaid :=
  OpenClaim.holds_of_wide 4 Try.f4 rfl rfl rfl rfl rfl rfl rfl ⟨rfl, rfl, rfl, rfl, rfl⟩ rfl rfl rfl rfl rfl (by kernel_rfl) Try.func4 (by kernel_rfl)
    (of_decide_eq_true (by kernel_rfl)) (by unfold Func.isWrapper; first | (rw [if_pos (by decide +kernel)]; kernel_rfl) | (rw [if_neg (by decide +kernel)]; exact ⟨rfl, rfl⟩))
    (fun os started H enc _ => paraBlocks_lifted os started H enc)
end
end Go.Proofs.Ytjgfcnjnedgejaa
