/-
  'calamuslaw17.PairBack' answers true for every text and place: Match leads back from where it leads.
-/
import Derived.Test.YtijjpnppedhfnaaPairLives
namespace Go.Proofs.Ytijjpnppedhfnaa
open Go.RowKit
open Pair
set_option maxHeartbeats 2000000 in
set_option maxRecDepth 100000 in
theorem pairBack_walk (s : ByteArray) (p : Int) (w : World) :
    Calls Try.prog 6 #[.string s, .int .i64 p] w fun e w' => e = .returned (.bool true) ∧ Below w.heap.size w w' := by
  have LV := Lib.hid pair_lives
  have hl := data_len s
  have hX := Below.refl w.heap.size w
  by_cases hs : 500 < s.size
  · go_enter Try.func6, Try.ntmps6
    go_wp2_with ((go_at_call 7; (with_reducible refine (LV.out _).mono ?_); rintro e w4 ⟨rfl, hb⟩; replace hX := on hX hb; clear hb))
    go_ret
    exact ⟨rfl, hX⟩
  · have c0 := fun w => pair_Match s p (by omega) w
    cases hq : mt s.data.toList p with
    | none =>
      rw [hq, show resM none = .tuple #[.int .i64 0, .bool false] from rfl] at c0
      have C0 := Lib.hid c0
      clear c0 hq
      go_enter Try.func6, Try.ntmps6
      go_wp2_with (first
        | (go_at_call 11; (with_reducible refine (C0.out _).mono ?_); rintro e w1 ⟨rfl, hb⟩; replace hX := on hX hb; clear hb)
        | (go_at_call 7; (with_reducible refine (LV.out _).mono ?_); rintro e w4 ⟨rfl, hb⟩; replace hX := on hX hb; clear hb))
      go_ret
      exact ⟨rfl, hX⟩
    | some q =>
      rw [hq, show resM (some q) = .tuple #[.int .i64 (q : Nat), .bool true] from rfl] at c0
      obtain ⟨r, h1, h2, h3, h4⟩ := mt_back hq
      have c1 := fun w => pair_Match s (q : Nat) (by omega) w
      rw [h1, show resM (some r) = .tuple #[.int .i64 (r : Nat), .bool true] from rfl] at c1
      have c2 := fun w => pair_Match s (r : Nat) (by omega) w
      rw [h2, show resM (some q) = .tuple #[.int .i64 (q : Nat), .bool true] from rfl] at c2
      have C0 := Lib.hid c0
      have C1 := Lib.hid c1
      have C2 := Lib.hid c2
      have g1 : ((r : Int) != (q : Int)) = true := by rw [bne_iff_ne]; omega
      have g2 : ((r : Int) == (q : Int)) = false := beq_eq_false_iff_ne.2 (by omega)
      clear c0 c1 c2 hq h1 h2 h4
      go_enter Try.func6, Try.ntmps6
      go_wp2_with (first
        | (go_at_call 11; (with_reducible refine (C0.out _).mono ?_); rintro e w1 ⟨rfl, hb⟩; replace hX := on hX hb; clear hb)
        | (go_at_call 11; (with_reducible refine (C1.out _).mono ?_); rintro e w2 ⟨rfl, hb⟩; replace hX := on hX hb; clear hb)
        | (go_at_call 11; (with_reducible refine (C2.out _).mono ?_); rintro e w3 ⟨rfl, hb⟩; replace hX := on hX hb; clear hb)
        | (go_at_call 7; (with_reducible refine (LV.out _).mono ?_); rintro e w4 ⟨rfl, hb⟩; replace hX := on hX hb; clear hb))
      go_ret
      exact ⟨rfl, hX⟩
section
open Go.ChangeShapes Go.WideShapes Go.ChangeAt
open Go.ChangeMaps (open_string)
set_option maxRecDepth 100000 in
theorem pairBack_lifted (os : Os) (started : os.Started) (H : Type) (enc : TypeId × Value → H) :
    ReturnsInHanded {} Try.checked os 6 .any (Rows.pairBackSpec.pre6 enc Try.prog Try.f6 Rows.pairBackRow.domain false) (Rows.pairBackSpec.post enc Try.prog Try.f6 false true false false) := by
  refine returnsInHanded_of_change_sized (C := Try.checked) own_knob started (by kernel_rfl) Try.func6
    (ChangeSpec.witness6 (enc := enc) (C := Try.checked) false ⟨#[], #[.string .empty, .int .i64 0], []⟩ 8 (by kernel_rfl) (by kernel_rfl) (by kernel_rfl) (by kernel_rfl)) ?_
  intro W base args ds gs before hval0 hW _ hsz0 _
  have hsz : (DataW.weightsEach Try.prog (Try.f6.params.toList ++ Rows.pairBackSpec.plain.varTypes Try.prog) (ds ++ gs)).all (· ≤ reachBytes) = true := hsz0
  clear hsz0
  have hval : ∀ (j : Nat) t v, Try.f6.params[j]? = some t → args[j]? = some v → Value.okWide Try.prog W .any base t v := hval0
  have hW' := hW
  obtain ⟨p, q, hA0, hV, rfl, hfz, hnd⟩ := hW
  have hA : DataW.TrodAll enc Try.prog W 0 (fun _ => true) true Try.f6.params.toList args.toList ds p := hA0
  rw [Try.params6] at hA hval hsz
  obtain ⟨v0, vs0, d0, ds0, p0, q0, hargs, rfl, rfl, h0, r0⟩ := trodAll_cons hA
  obtain ⟨v1, vs1, d1, ds1, p1, q1, rfl, rfl, rfl, h1, r1⟩ := trodAll_cons r0
  obtain ⟨rfl, rfl, rfl⟩ := trodAll_nil r1
  obtain rfl : args = #[v0, v1] := by cases args; simp_all
  obtain ⟨rfl, rfl⟩ := trodVars_none hV
  obtain ⟨s0, rfl, rfl, rfl, hmax0⟩ := open_string Try.underlying9 (hval 0 9 v0 rfl rfl) h0
  have hs0 : s0.size ≤ 140737488351232 := by rw [← data_len]; exact sized_string hsz (j := 0) (t := 9) rfl rfl
  obtain ⟨n1, rfl, rfl, rfl, wn1⟩ := open_int Try.underlying3 (hval 1 3 v1 rfl rfl) h1
  refine (pairBack_walk s0 n1 _).mono fun e W' ⟨he, hb⟩ => ?_
  subst he
  exact ⟨_, rfl, law_post rfl rfl (by rw [Try.params6]; decide +kernel) ⟨rfl, rfl, rfl⟩ hW' hb⟩
theorem pairBack_holds : Rows.PairBackSaid :=
  OpenClaim.holds_of_wide 6 Try.f6 rfl rfl rfl rfl rfl rfl rfl ⟨rfl, rfl, rfl, rfl, rfl⟩ rfl rfl rfl rfl rfl (by kernel_rfl) Try.func6 (by kernel_rfl)
    (of_decide_eq_true (by kernel_rfl)) (by unfold Func.isWrapper; first | (rw [if_pos (by decide +kernel)]; kernel_rfl) | (rw [if_neg (by decide +kernel)]; exact ⟨rfl, rfl⟩))
    (fun os started H enc _ => pairBack_lifted os started H enc)
end
end Go.Proofs.Ytijjpnppedhfnaa
