/-
  'calamuslaw24.PastePuts' answers true for every text, place, register, side and number: what a register makes of a text is what the document tells, or there is its error. Conditions: none.
-/
import Derived.Test.YtambboomabeioaaJR
import Derived.Test.YtambboomabeioaaJD
namespace Go.Proofs.Ytambboomabeioaa
open Go.RowKit
set_option maxHeartbeats 4000000 in
set_option maxRecDepth 100000 in
theorem pastePuts_walk (s : ByteArray) (p nm : Int) (l : Bool) (x : ByteArray) (ah : Bool) (n : Int) (hn : (Lit.int .i64 n).wf = true) (w : World) :
    Calls Try.prog 3 #[.string s, .int .i64 p, .agg #[.int .i64 nm, .bool l, .string x], .bool ah, .int .i64 n] w fun e w' => e = .returned (.bool true) ∧ Below w.heap.size w w' := by
  have LV := Lib.hid paste_lives
  have hn2 : n ≤ 9223372036854775807 := by
    have := hn
    simp [Lit.wf, IntKind.min, IntKind.max, IntKind.signed, IntKind.bits] at this
    omega
  clear hn
  have K := GBox.new w nm l x
  obtain ⟨c0, c1, c2⟩ := K.all
  by_cases h0 : 500 < s.size
  · have g0 : decide ((500 : Int) < (s.size : Int)) = true := decide_eq_true (by omega)
    go_enter Try.func3, Try.ntmps3
    go_wp2_with (first
      | (go_at_call 7; (with_reducible refine (LV.out _).mono ?_); rintro e u ⟨rfl, hbn⟩; replace K := K.on hbn; clear hbn; clear c0 c1 c2; obtain ⟨c0, c1, c2⟩ := K.all))
    go_ret
    exact ⟨rfl, K.below⟩
  have g0 : decide ((500 : Int) < (s.size : Int)) = false := decide_eq_false (by omega)
  by_cases hx0 : 5000 < x.size
  · have g1 : decide ((5000 : Int) < (x.size : Int)) = true := decide_eq_true (by omega)
    go_enter Try.func3, Try.ntmps3
    go_wp2_with (first
      | (go_at_call 7; (with_reducible refine (LV.out _).mono ?_); rintro e u ⟨rfl, hbn⟩; replace K := K.on hbn; clear hbn; clear c0 c1 c2; obtain ⟨c0, c1, c2⟩ := K.all))
    go_ret
    exact ⟨rfl, K.below⟩
  have g1 : decide ((5000 : Int) < (x.size : Int)) = false := decide_eq_false (by omega)
  have A0 := fun w => paste_Put s p nm x l ah n (by omega) (by omega) w
  have B0 := fun w => ref24_Put s p nm x l ah n (by omega) (by omega) hn2 w
  generalize Pst.put s.data.toList p x.data.toList l ah n = r at *
  obtain ⟨y, q, er⟩ := r
  rw [Pst.val_mk] at A0 B0
  have A1 := Lib.hid A0
  have B1 := Lib.hid B0
  have s1 : ((bs y).toList == (bs y).toList) = true := by simp
  have i1 : (q == q) = true := by simp
  have j1 : (er == er) = true := by simp
  clear A0 B0 h0 hx0 hn2
  go_enter Try.func3, Try.ntmps3
  go_wp2_with (first
    | (go_at_call 8; (with_reducible refine (A1.out _).mono ?_); rintro e u ⟨rfl, hbn⟩; replace K := K.on hbn; clear hbn; clear c0 c1 c2; obtain ⟨c0, c1, c2⟩ := K.all)
    | (go_at_call 9; (with_reducible refine (B1.out _).mono ?_); rintro e u ⟨rfl, hbn⟩; replace K := K.on hbn; clear hbn; clear c0 c1 c2; obtain ⟨c0, c1, c2⟩ := K.all)
    | (go_at_call 7; (with_reducible refine (LV.out _).mono ?_); rintro e u ⟨rfl, hbn⟩; replace K := K.on hbn; clear hbn; clear c0 c1 c2; obtain ⟨c0, c1, c2⟩ := K.all))
  go_ret
  exact ⟨rfl, K.below⟩
section
open Go.ChangeShapes Go.WideShapes Go.ChangeAt
open Go.ChangeMaps (open_string)
set_option maxRecDepth 100000 in
theorem pastePuts_lifted (os : Os) (started : os.Started) (H : Type) (enc : TypeId × Value → H) :
    ReturnsInHanded {} Try.checked os 3 .any (Rows.pastePutsSpec.pre6 enc Try.prog Try.f3 Rows.pastePutsRow.domain false) (Rows.pastePutsSpec.post enc Try.prog Try.f3 false true false false) := by
  refine returnsInHanded_of_change_sized (C := Try.checked) own_knob started (by kernel_rfl) Try.func3
    (ChangeSpec.witness6 (enc := enc) (C := Try.checked) false ⟨#[], #[.string .empty, .int .i64 0, .agg #[.int .i64 0, .bool false, .string .empty], .bool false, .int .i64 0], []⟩ 8 (by kernel_rfl) (by kernel_rfl) (by kernel_rfl) (by kernel_rfl)) ?_
  intro W base args ds gs before hval0 hW _ hsz0 _
  have hsz : (DataW.weightsEach Try.prog (Try.f3.params.toList ++ Rows.pastePutsSpec.plain.varTypes Try.prog) (ds ++ gs)).all (· ≤ reachBytes) = true := hsz0
  clear hsz0
  have hval : ∀ (j : Nat) t v, Try.f3.params[j]? = some t → args[j]? = some v → Value.okWide Try.prog W .any base t v := hval0
  have hW' := hW
  obtain ⟨p, q, hA0, hV, rfl, hfz, hnd⟩ := hW
  have hA : DataW.TrodAll enc Try.prog W 0 (fun _ => true) true Try.f3.params.toList args.toList ds p := hA0
  rw [Try.params3] at hA hval hsz
  obtain ⟨v0, vs0, d0, ds0, p0, q0, hargs, rfl, rfl, h0, r0⟩ := trodAll_cons hA
  obtain ⟨v1, vs1, d1, ds1, p1, q1, rfl, rfl, rfl, h1, r1⟩ := trodAll_cons r0
  obtain ⟨v2, vs2, d2, ds2, p2, q2, rfl, rfl, rfl, h2, r2⟩ := trodAll_cons r1
  obtain ⟨v3, vs3, d3, ds3, p3, q3, rfl, rfl, rfl, h3, r3⟩ := trodAll_cons r2
  obtain ⟨v4, vs4, d4, ds4, p4, q4, rfl, rfl, rfl, h4, r4⟩ := trodAll_cons r3
  obtain ⟨rfl, rfl, rfl⟩ := trodAll_nil r4
  obtain rfl : args = #[v0, v1, v2, v3, v4] := by cases args; simp_all
  obtain ⟨rfl, rfl⟩ := trodVars_none hV
  obtain ⟨s0, rfl, rfl, rfl, hmax0⟩ := open_string Try.underlying9 (hval 0 9 v0 rfl rfl) h0
  have hs0 : s0.size ≤ 140737488351232 := by rw [← data_len]; exact sized_string hsz (j := 0) (t := 9) rfl rfl
  obtain ⟨n1, rfl, rfl, rfl, wn1⟩ := open_int Try.underlying3 (hval 1 3 v1 rfl rfl) h1
  obtain ⟨gn2, gl2, gx2, rfl⟩ := open_reg (hval 2 23 v2 rfl rfl) h2
  obtain ⟨b3, rfl, rfl, rfl⟩ := open_bool Try.underlying4 (hval 3 4 v3 rfl rfl) h3
  obtain ⟨n4, rfl, rfl, rfl, wn4⟩ := open_int Try.underlying3 (hval 4 3 v4 rfl rfl) h4
  refine (pastePuts_walk s0 n1 gn2 gl2 gx2 b3 n4 wn4 _).mono fun e W' ⟨he, hb⟩ => ?_
  subst he
  exact ⟨_, rfl, law_post rfl rfl (by rw [Try.params3]; decide +kernel) ⟨rfl, rfl, rfl⟩ hW' hb⟩
theorem pastePuts_holds : Rows.PastePutsSaid :=
  OpenClaim.holds_of_wide 3 Try.f3 rfl rfl rfl rfl rfl rfl rfl ⟨rfl, rfl, rfl, rfl, rfl⟩ rfl rfl rfl rfl rfl (by kernel_rfl) Try.func3 (by kernel_rfl)
    (of_decide_eq_true (by kernel_rfl)) (by unfold Func.isWrapper; first | (rw [if_pos (by decide +kernel)]; kernel_rfl) | (rw [if_neg (by decide +kernel)]; exact ⟨rfl, rfl⟩))
    (fun os started H enc _ => pastePuts_lifted os started H enc)
end
end Go.Proofs.Ytambboomabeioaa
