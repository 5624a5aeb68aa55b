/-
  'calamuslaw21.RegGets' answers true for all registers and every number: whether registers may be, which one a number names, and what is in it, is what the document tells.
-/
import Derived.Test.YtopplkfbnpamdaaRegLives
import Derived.Test.YtopplkfbnpamdaaRegRefs
namespace Go.Proofs.Ytopplkfbnpamdaa
open Go.RowKit
open Reg
set_option maxHeartbeats 2000000 in
set_option maxRecDepth 100000 in
theorem regGets_walk (n : Int) {A : Option Addr} {c : Nat} {ks : List Rg} {w : World} (hx : Rgs w A ks) (hc : ks.length ≤ c) (hm : c ≤ maxLen) :
    Calls Try.prog 4 #[.slice A ks.length c, .int .i64 n] w fun e w' => e = .returned (.bool true) ∧ Below w.heap.size w w' := by
  by_cases h60 : 60 < ks.length
  · have g0 : decide ((60 : Int) < (ks.length : Int)) = true := decide_eq_true (by omega)
    have LV := Lib.hid reg_lives
    clear hx hc hm
    go_enter Try.func4, Try.ntmps4
    go_wp2_with (go_at_call 7; (with_reducible refine (LV.out _).mono ?_); rintro e w12 ⟨rfl, hb12⟩)
    go_ret
    exact ⟨rfl, hb12⟩
  have g0 : decide ((60 : Int) < (ks.length : Int)) = false := decide_eq_false (by omega)
  have hm' : ks.length ≤ maxLen := Nat.le_trans hc hm
  have EQ := eql_reg_same
  have N1 := Lib.hid (reg_Name n)
  have N2 := Lib.hid (ref21_Name n)
  have LV := Lib.hid reg_lives
  have G1 : Hid (∀ u, Below w.heap.size w u → Calls Try.prog 13 #[.slice A ks.length c, .int .i64 n] u fun e w' => e = .returned (.tuple #[.agg #[.int .i64 (get ks n).1.name, .bool (get ks n).1.lines, .string (get ks n).1.text], .bool (get ks n).2]) ∧ Below u.heap.size u w') := fun u hu => reg_Get n (hx.below hu) hm'
  have G2 : Hid (∀ u, Below w.heap.size w u → Calls Try.prog 14 #[.slice A ks.length c, .int .i64 n] u fun e w' => e = .returned (.tuple #[.agg #[.int .i64 (get ks n).1.name, .bool (get ks n).1.lines, .string (get ks n).1.text], .bool (get ks n).2]) ∧ Below u.heap.size u w') := fun u hu => ref21_Get n (hx.below hu) hm'
  have R1 : Hid (∀ u, Below w.heap.size w u → Calls Try.prog 15 #[.slice A ks.length c] u fun e w' => e = .returned (.bool (decide (Right ks))) ∧ Below u.heap.size u w') := fun u hu => reg_Right (hx.below hu) hm'
  have R2 : Hid (∀ u, Below w.heap.size w u → Calls Try.prog 16 #[.slice A ks.length c] u fun e w' => e = .returned (.bool (decide (Right ks))) ∧ Below u.heap.size u w') := fun u hu => ref21_Right (hx.below hu) hm'
  generalize (get ks n).1.name = gn at *
  generalize (get ks n).1.lines = gl at *
  generalize (get ks n).1.text = gt at *
  generalize (get ks n).2 = g2 at *
  generalize decide (Right ks) = rt at *
  generalize nameN n = nn at *
  have hW : Below w.heap.size w w := Below.refl _ _
  clear hx hm hm' hc h60
  go_enter Try.func4, Try.ntmps4
  go_wp2_with (first
    | (go_at_call 13; (with_reducible refine (G1.out _ hW).mono ?_); rintro e w3 ⟨rfl, hb3⟩; replace hW := hW.trans (hb3.mono hW.size); clear hb3; replace hW := hW.alloc hW.size (.cells #[.int .i64 gn, .bool gl, .string gt] 32); have B3 := Blk.new w3 32 #[.int .i64 gn, .bool gl, .string gt])
    | (go_at_call 14; (with_reducible refine (G2.out _ hW).mono ?_); rintro e w4 ⟨rfl, hb4⟩; replace hW := hW.trans (hb4.mono hW.size); replace B3 := B3.below hb4 B3.lt; clear hb4; replace B3 := B3.alloc (.cells #[.int .i64 gn, .bool gl, .string gt] 32); replace hW := hW.alloc hW.size (.cells #[.int .i64 gn, .bool gl, .string gt] 32); have B4 := Blk.new w4 32 #[.int .i64 gn, .bool gl, .string gt])
    | (go_at_call 15; (with_reducible refine (R1.out _ hW).mono ?_); rintro e w5 ⟨rfl, hb5⟩; replace hW := hW.trans (hb5.mono hW.size); replace B3 := B3.below hb5 B3.lt; replace B4 := B4.below hb5 B4.lt; clear hb5)
    | (go_at_call 16; (with_reducible refine (R2.out _ hW).mono ?_); rintro e w6 ⟨rfl, hb6⟩; replace hW := hW.trans (hb6.mono hW.size); replace B3 := B3.below hb6 B3.lt; replace B4 := B4.below hb6 B4.lt; clear hb6; obtain ⟨a0, a1, a2, _, _, _⟩ := row_three B3; obtain ⟨b0, b1, b2, _, _, _⟩ := row_three B4)
    | (go_at_call 17; (with_reducible refine (N1.out _).mono ?_); rintro e w7 ⟨rfl, rfl⟩)
    | (go_at_call 18; (with_reducible refine (N2.out _).mono ?_); rintro e w7 ⟨rfl, rfl⟩)
    | (go_at_call 7; (with_reducible refine (LV.out _).mono ?_); rintro e w12 ⟨rfl, hb12⟩; replace hW := hW.trans (hb12.mono hW.size)))
  go_ret
  exact ⟨rfl, hW⟩
section
open Go.ChangeShapes Go.WideShapes Go.ChangeAt
open Go.ChangeMaps (open_string)
set_option maxRecDepth 100000 in
theorem regGets_lifted (os : Os) (started : os.Started) (H : Type) (enc : TypeId × Value → H) :
    ReturnsInHanded {} Try.checked os 4 .any (Rows.regGetsSpec.pre6 enc Try.prog Try.f4 Rows.regGetsRow.domain false) (Rows.regGetsSpec.post enc Try.prog Try.f4 false true false false) := by
  refine returnsInHanded_of_change_sized (C := Try.checked) own_knob started (by kernel_rfl) Try.func4
    (ChangeSpec.witness6 (enc := enc) (C := Try.checked) false ⟨#[], #[.slice none 0 0, .int .i64 0], []⟩ 8 (by kernel_rfl) (by kernel_rfl) (by kernel_rfl) (by kernel_rfl)) ?_
  intro W base args ds gs before hval0 hW _ hsz0 _
  have hsz : (DataW.weightsEach Try.prog (Try.f4.params.toList ++ Rows.regGetsSpec.plain.varTypes Try.prog) (ds ++ gs)).all (· ≤ reachBytes) = true := hsz0
  clear hsz0
  have hval : ∀ (j : Nat) t v, Try.f4.params[j]? = some t → args[j]? = some v → Value.okWide Try.prog W .any base t v := hval0
  have hW' := hW
  obtain ⟨p, q, hA0, hV, rfl, hfz, hnd⟩ := hW
  have hA : DataW.TrodAll enc Try.prog W 0 (fun _ => true) true Try.f4.params.toList args.toList ds p := hA0
  rw [Try.params4] at hA hval hsz
  obtain ⟨v0, vs0, d0, ds0, p0, q0, hargs, rfl, rfl, h0, r0⟩ := trodAll_cons hA
  obtain ⟨v1, vs1, d1, ds1, p1, q1, rfl, rfl, rfl, h1, r1⟩ := trodAll_cons r0
  obtain ⟨rfl, rfl, rfl⟩ := trodAll_nil r1
  obtain rfl : args = #[v0, v1] := by cases args; simp_all
  obtain ⟨rfl, rfl⟩ := trodVars_none hV
  have hlt0 : ∀ x ∈ p0, x.block < W.heap.size := fun x hx => by simpa using hW'.lt x (by simp [hx])
  obtain ⟨A0, c0, xs0, rfl, hx0, hc0, hm0⟩ := open_rgs (hval 0 22 v0 rfl rfl) h0 hlt0
  obtain ⟨n1, rfl, rfl, rfl, wn1⟩ := open_int Try.underlying3 (hval 1 3 v1 rfl rfl) h1
  refine (regGets_walk n1 hx0 hc0 hm0).mono fun e W' ⟨he, hb⟩ => ?_
  subst he
  exact ⟨_, rfl, law_post rfl rfl (by rw [Try.params4]; decide +kernel) ⟨rfl, rfl, rfl⟩ hW' hb⟩
theorem regGets_holds : Rows.RegGetsSaid :=
  OpenClaim.holds_of_wide 4 Try.f4 rfl rfl rfl rfl rfl rfl rfl ⟨rfl, rfl, rfl, rfl, rfl⟩ rfl rfl rfl rfl rfl (by kernel_rfl) Try.func4 (by kernel_rfl)
    (of_decide_eq_true (by kernel_rfl)) (by unfold Func.isWrapper; first | (rw [if_pos (by decide +kernel)]; kernel_rfl) | (rw [if_neg (by decide +kernel)]; exact ⟨rfl, rfl⟩))
    (fun os started H enc _ => regGets_lifted os started H enc)
end
end Go.Proofs.Ytopplkfbnpamdaa
