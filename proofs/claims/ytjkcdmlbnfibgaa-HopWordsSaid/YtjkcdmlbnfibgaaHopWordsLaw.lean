/-
  'calamuslaw15.HopWords' answers true for every text: where words begin and end is what the document tells.
-/
import Derived.Test.YtjkcdmlbnfibgaaHopLives
import Derived.Test.YtjkcdmlbnfibgaaHopRefStarts
import Derived.Test.YtjkcdmlbnfibgaaHopRefEnds
import Derived.Test.YtjkcdmlbnfibgaaSame
namespace Go.Proofs.Ytjkcdmlbnfibgaa
open Go.RowKit
set_option maxHeartbeats 1000000 in
set_option maxRecDepth 100000 in
theorem hopWords_walk (s : ByteArray) (big : Bool)  (w : World) :
    Calls Try.prog 3 #[.string s, .bool big] w fun e w' => e = .returned (.bool true) ∧ Below w.heap.size w w' := by
  by_cases h3 : 200 < s.size
  · go_enter Try.func3, Try.ntmps3
    go_wp2_with fail
    refine (hop_lives _).mono ?_
    rintro e w1 ⟨rfl, hb⟩
    go_wp2
    go_ret
    exact ⟨rfl, hb⟩
  have g0 : decide ((200 : Int) < (s.size : Int)) = false := by simp; omega
  have hl := data_len s
  have hwl := Hop.words_len s.data.toList big
  have h1 : (Hop.starts s.data.toList big).length ≤ 9223372036854775807 := by rw [Hop.starts, List.length_map]; omega
  have h2 : (Hop.ends s.data.toList big).length ≤ 9223372036854775807 := by
    have h1 : (Hop.ends s.data.toList big).length ≤ (Hop.words s.data.toList big).length := Nat.le_trans (List.length_filter_le ..) (by rw [List.length_map]; exact Nat.le_refl _)
    omega
  have A := Lib.hid (hop_Starts s big (by omega))
  have B := Lib.hid (ref15_Starts s big (by omega))
  have C := Lib.hid (hop_Ends s big (by omega))
  have D := Lib.hid (ref15_Ends s big (by omega))
  have HL := Lib.hid (And.intro h1 h2)
  generalize Hop.starts s.data.toList big = xs at *
  generalize Hop.ends s.data.toList big = ys at *
  clear h1 h2 hwl hl h3
  go_enter Try.func3, Try.ntmps3
  go_wp2_with fail
  refine (A.out _).mono ?_
  rintro e u0 ⟨⟨v, rfl, hr0⟩, hb0⟩
  obtain ⟨a0, c0, rfl⟩ := own_shape hr0
  have k0 := hb0
  go_wp2_with fail
  refine (B.out _).mono ?_
  rintro e v0 ⟨⟨v, rfl, hs0⟩, hd0⟩
  obtain ⟨b0, d0, rfl⟩ := own_shape hs0
  have I0 := Ints.of_own hs0 rfl
  have J0 := (Ints.of_own hr0 rfl).grown (gb_below none hd0) (fun _ _ h => by cases h)
  have m0 := hop_below k0 hd0
  clear hr0 hs0 hb0 hd0 k0
  go_wp2_with fail
  refine (ref_same J0 I0 HL.out.1).mono ?_
  rintro e z0 ⟨rfl, hz0⟩
  have n0 := hop_below m0 (below_gb hz0)
  clear I0 J0 hz0 m0
  go_wp2_with fail
  refine (C.out _).mono ?_
  rintro e u1 ⟨⟨v, rfl, hr1⟩, hb1⟩
  obtain ⟨a1, c1, rfl⟩ := own_shape hr1
  have k1 := hop_below n0 hb1
  go_wp2_with fail
  refine (D.out _).mono ?_
  rintro e v1 ⟨⟨v, rfl, hs1⟩, hd1⟩
  obtain ⟨b1, d1, rfl⟩ := own_shape hs1
  have I1 := Ints.of_own hs1 rfl
  have J1 := (Ints.of_own hr1 rfl).grown (gb_below none hd1) (fun _ _ h => by cases h)
  have m1 := hop_below k1 hd1
  clear hr1 hs1 hb1 hd1 k1
  go_wp2_with fail
  refine (ref_same J1 I1 HL.out.2).mono ?_
  rintro e z1 ⟨rfl, hz1⟩
  have n1 := hop_below m1 (below_gb hz1)
  clear I1 J1 hz1 m1
  go_wp2_with fail
  refine (hop_lives _).mono ?_
  rintro e z2 ⟨rfl, hz2⟩
  have n2 := hop_below n1 hz2
  go_wp2
  go_ret
  exact ⟨rfl, n2⟩
section
open Go.ChangeShapes Go.WideShapes Go.ChangeAt
open Go.ChangeMaps (open_string)
set_option maxRecDepth 100000 in
theorem hopWords_lifted (os : Os) (started : os.Started) (H : Type) (enc : TypeId × Value → H) :
    ReturnsInHanded {} Try.checked os 3 .any (Rows.hopWordsSpec.pre6 enc Try.prog Try.f3 Rows.hopWordsRow.domain false) (Rows.hopWordsSpec.post enc Try.prog Try.f3 false true false false) := by
  refine returnsInHanded_of_change_sized (C := Try.checked) own_knob started (by kernel_rfl) Try.func3
    (ChangeSpec.witness6 (enc := enc) (C := Try.checked) false ⟨#[], #[.string .empty, .bool false], []⟩ 8 (by kernel_rfl) (by kernel_rfl) (by kernel_rfl) (by kernel_rfl)) ?_
  intro W base args ds gs before hval0 hW _ hsz0 _
  have hsz : (DataW.weightsEach Try.prog (Try.f3.params.toList ++ Rows.hopWordsSpec.plain.varTypes Try.prog) (ds ++ gs)).all (· ≤ reachBytes) = true := hsz0
  clear hsz0
  have hval : ∀ (j : Nat) t v, Try.f3.params[j]? = some t → args[j]? = some v → Value.okWide Try.prog W .any base t v := hval0
  have hW' := hW
  obtain ⟨p, q, hA0, hV, rfl, hfz, hnd⟩ := hW
  have hA : DataW.TrodAll enc Try.prog W 0 (fun _ => true) true Try.f3.params.toList args.toList ds p := hA0
  rw [Try.params3] at hA hval hsz
  obtain ⟨v0, vs0, d0, ds0, p0, q0, hargs, rfl, rfl, h0, r0⟩ := trodAll_cons hA
  obtain ⟨v1, vs1, d1, ds1, p1, q1, rfl, rfl, rfl, h1, r1⟩ := trodAll_cons r0
  obtain ⟨rfl, rfl, rfl⟩ := trodAll_nil r1
  obtain rfl : args = #[v0, v1] := by cases args; simp_all
  obtain ⟨rfl, rfl⟩ := trodVars_none hV
  obtain ⟨s0, rfl, rfl, rfl, hmax0⟩ := open_string Try.underlying9 (hval 0 9 v0 rfl rfl) h0
  have hs0 : s0.size ≤ 140737488351232 := by rw [← data_len]; exact sized_string hsz (j := 0) (t := 9) rfl rfl
  obtain ⟨b1, rfl, rfl, rfl⟩ := open_bool Try.underlying4 (hval 1 4 v1 rfl rfl) h1
  refine (hopWords_walk s0 b1 _).mono fun e W' ⟨he, hb⟩ => ?_
  subst he
  exact ⟨_, rfl, law_post rfl rfl (by rw [Try.params3]; decide +kernel) ⟨rfl, rfl, rfl⟩ hW' hb⟩
theorem hopWords_holds : Rows.HopWordsSaid :=
  OpenClaim.holds_of_wide 3 Try.f3 rfl rfl rfl rfl rfl rfl rfl ⟨rfl, rfl, rfl, rfl, rfl⟩ rfl rfl rfl rfl rfl (by kernel_rfl) Try.func3 (by kernel_rfl)
    (of_decide_eq_true (by kernel_rfl)) (by unfold Func.isWrapper; first | (rw [if_pos (by decide +kernel)]; kernel_rfl) | (rw [if_neg (by decide +kernel)]; exact ⟨rfl, rfl⟩))
    (fun os started H enc _ => hopWords_lifted os started H enc)
end
end Go.Proofs.Ytjkcdmlbnfibgaa
