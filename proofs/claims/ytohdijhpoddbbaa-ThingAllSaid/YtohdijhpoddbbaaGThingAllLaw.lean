/-
  'calamuslaw19.ThingAll' answers true for every text, place and 'all': the thing of each kind is what the document tells.
-/
import Derived.Test.YtohdijhpoddbbaaJT
import Derived.Test.YtohdijhpoddbbaaJR
import Derived.Test.YtohdijhpoddbbaaFrame
namespace Go.Proofs.Ytohdijhpoddbbaa
open Go.RowKit
open Thing (res thg num)
def Thing.tryCells : Array Value := #[.string ⟨#[119]⟩, .string ⟨#[87]⟩, .string ⟨#[40]⟩, .string ⟨#[41]⟩, .string ⟨#[98]⟩, .string ⟨#[91]⟩, .string ⟨#[93]⟩, .string ⟨#[123]⟩, .string ⟨#[125]⟩, .string ⟨#[66]⟩, .string ⟨#[60]⟩, .string ⟨#[62]⟩, .string ⟨#[34]⟩, .string ⟨#[39]⟩, .string ⟨#[96]⟩, .string ⟨#[112]⟩, .string ⟨#[120]⟩, .string ⟨#[]⟩]
theorem Thing.tryCells_at {j : Nat} (h : j < 18) : ∃ x : ByteArray, Thing.tryCells[j]? = some (.string x) ∧ x.size ≤ 2 := by
  rcases j with _ | _ | _ | _ | _ | _ | _ | _ | _ | _ | _ | _ | _ | _ | _ | _ | _ | _ | j <;> first | exact ⟨_, rfl, by decide⟩ | omega
set_option maxHeartbeats 2000000 in
set_option maxRecDepth 100000 in
theorem thingAll_walk (s : ByteArray) (p : Int) (all : Bool) (w : World) :
    Calls Try.prog 4 #[.string s, .int .i64 p, .bool all] w fun e w' => e = .returned (.bool true) ∧ Below w.heap.size w w' := by
  have LV := Lib.hid thing_lives
  by_cases h0 : 150 < s.size
  · have g0 : decide ((150 : Int) < (s.size : Int)) = true := decide_eq_true (by omega)
    go_enter Try.func4, Try.ntmps4
    go_wp2_with fail
    refine (LV.out _).mono ?_
    rintro e w1 ⟨rfl, hb⟩
    go_wp2
    go_ret
    exact ⟨rfl, hb⟩
  have g0 : decide ((150 : Int) < (s.size : Int)) = false := decide_eq_false (by omega)
  have A := Lib.hid (fun (key : ByteArray) (hk : key.size ≤ 2) w => thing_Of s p all key (by omega) (by omega) w)
  have B := Lib.hid (fun (key : ByteArray) w => ref19_Of s p all key (by omega) w)
  have C := Lib.hid (fun (key : ByteArray) (hk : key.size ≤ 2) w => thing_Has key (by omega) w)
  have D := Lib.hid (fun (key : ByteArray) w => ref19_Has key w)
  obtain ⟨W0, hW0⟩ : ∃ W0, w.alloc (.cells Thing.tryCells 9) = W0 := ⟨_, rfl⟩
  have hB : Blk W0 w.heap.size 9 Thing.tryCells := by rw [← hW0]; exact Blk.new w 9 _
  have hWb : Below w.heap.size w W0 := by rw [← hW0]; exact (Below.refl _ w).alloc (Nat.le_refl _) _
  have P4 : Hid (∀ u, Below W0.heap.size W0 u → ∀ (j : Nat) (x : ByteArray), Thing.tryCells[j]? = some (.string x) → u.cell? ⟨w.heap.size, j, none⟩ = some (.string x)) := fun u hu j x hp => by rw [(hB.below hu hB.lt).cell, hp]
  unfold Thing.tryCells at hW0
  have NS := @neq_same
  clear h0 hB
  go_enter Try.func4, Try.ntmps4
  go_wp2_with fail
  generalize hBB : w.heap.size = BB at P4
  go_loopw [19] (fun iv wr => ∃ j : Nat, j ≤ 18 ∧ iv = .int .i64 j ∧ Below W0.heap.size W0 wr) (fun iv _ => 18 - (intOf iv).toNat)
  case atStart => exact ⟨0, by omega, rfl, Below.refl _ _⟩
  case round =>
    obtain ⟨j, hj, rfl, kk⟩ := hrel
    by_cases hlt : j < 18
    · obtain ⟨x, hx, hx2⟩ := Thing.tryCells_at hlt
      have X1 := P4.out _ kk j x hx
      have a1 : (j : Int) < 18 := by omega
      have A1 := fun w => A.out x hx2 w
      have B1 := fun w => B.out x w
      have C1 := Lib.hid (fun w => C.out x hx2 w)
      have D1 := Lib.hid (fun w => D.out x w)
      obtain ⟨a, b, c, d, hr⟩ := Thing.res_form (thg s.data.toList p all x.data.toList)
      rw [hr] at A1 B1
      have A2 := Lib.hid A1
      have B2 := Lib.hid B1
      generalize (num x.data.toList).isSome = m at *
      have t2 : (d != d) = false := by simp
      have t3 : (m != m) = false := by simp
      clear A B C D P4 hW0 hx hx2 A1 B1 hr
      go_wp2_with fail
      refine (A2.out _).mono ?_
      rintro e w1 ⟨rfl, hb1⟩
      have E1 := Blk.new w1 24 #[.int .i64 a, .int .i64 b, .bool c]
      have kk1 := kk.trans (hb1.mono kk.size)
      replace kk1 := kk1.alloc kk1.size (.cells #[.int .i64 a, .int .i64 b, .bool c] 24)
      clear hb1 kk
      go_wp2_with fail
      refine (B2.out _).mono ?_
      rintro e w2 ⟨rfl, hb2⟩
      have E2 := (E1.below hb2 E1.lt).alloc (.cells #[.int .i64 a, .int .i64 b, .bool c] 24)
      have F2 := Blk.new w2 24 #[.int .i64 a, .int .i64 b, .bool c]
      have kk2 := kk1.trans (hb2.mono kk1.size)
      replace kk2 := kk2.alloc kk2.size (.cells #[.int .i64 a, .int .i64 b, .bool c] 24)
      obtain ⟨a0, a1, a2, _, _, _⟩ := row_three E2
      obtain ⟨b0, b1, b2, _, _, _⟩ := row_three F2
      clear hb2 kk1 E1 E2 F2
      go_wp2_with fail
      refine (C1.out _).mono ?_
      rintro e w3 ⟨rfl, hb3⟩
      have kk3 := kk2.trans (hb3.mono kk2.size)
      clear hb3 kk2
      go_wp2_with fail
      refine (D1.out _).mono ?_
      rintro e w4 ⟨rfl, hb4⟩
      have kk4 := kk3.trans (hb4.mono kk3.size)
      clear hb4 kk3
      go_wp2
      go_roundw
      case rel => exact ⟨j + 1, by omega, by go_num, kk4⟩
      case measure => simp [intOf]; omega
    · obtain rfl : j = 18 := by omega
      clear A B C D P4 hW0
      go_wp2_with fail
      refine (LV.out _).mono ?_
      rintro e w9 ⟨rfl, hb9⟩
      have kk2 := hWb.trans ((kk.trans (hb9.mono kk.size)).mono hWb.size)
      go_wp2
      go_ret
      exact ⟨rfl, kk2⟩
section
open Go.ChangeShapes Go.WideShapes Go.ChangeAt
open Go.ChangeMaps (open_string)
set_option maxRecDepth 100000 in
theorem thingAll_lifted (os : Os) (started : os.Started) (H : Type) (enc : TypeId × Value → H) :
    ReturnsInHanded {} Try.checked os 4 .any (Rows.thingAllSpec.pre6 enc Try.prog Try.f4 Rows.thingAllRow.domain false) (Rows.thingAllSpec.post enc Try.prog Try.f4 false true false false) := by
  refine returnsInHanded_of_change_sized (C := Try.checked) own_knob started (by kernel_rfl) Try.func4
    (ChangeSpec.witness6 (enc := enc) (C := Try.checked) false ⟨#[], #[.string .empty, .int .i64 0, .bool false], []⟩ 8 (by kernel_rfl) (by kernel_rfl) (by kernel_rfl) (by kernel_rfl)) ?_
  intro W base args ds gs before hval0 hW _ hsz0 _
  have hsz : (DataW.weightsEach Try.prog (Try.f4.params.toList ++ Rows.thingAllSpec.plain.varTypes Try.prog) (ds ++ gs)).all (· ≤ reachBytes) = true := hsz0
  clear hsz0
  have hval : ∀ (j : Nat) t v, Try.f4.params[j]? = some t → args[j]? = some v → Value.okWide Try.prog W .any base t v := hval0
  have hW' := hW
  obtain ⟨p, q, hA0, hV, rfl, hfz, hnd⟩ := hW
  have hA : DataW.TrodAll enc Try.prog W 0 (fun _ => true) true Try.f4.params.toList args.toList ds p := hA0
  rw [Try.params4] at hA hval hsz
  obtain ⟨v0, vs0, d0, ds0, p0, q0, hargs, rfl, rfl, h0, r0⟩ := trodAll_cons hA
  obtain ⟨v1, vs1, d1, ds1, p1, q1, rfl, rfl, rfl, h1, r1⟩ := trodAll_cons r0
  obtain ⟨v2, vs2, d2, ds2, p2, q2, rfl, rfl, rfl, h2, r2⟩ := trodAll_cons r1
  obtain ⟨rfl, rfl, rfl⟩ := trodAll_nil r2
  obtain rfl : args = #[v0, v1, v2] := by cases args; simp_all
  obtain ⟨rfl, rfl⟩ := trodVars_none hV
  obtain ⟨s0, rfl, rfl, rfl, hmax0⟩ := open_string Try.underlying9 (hval 0 9 v0 rfl rfl) h0
  have hs0 : s0.size ≤ 140737488351232 := by rw [← data_len]; exact sized_string hsz (j := 0) (t := 9) rfl rfl
  obtain ⟨n1, rfl, rfl, rfl, wn1⟩ := open_int Try.underlying3 (hval 1 3 v1 rfl rfl) h1
  obtain ⟨b2, rfl, rfl, rfl⟩ := open_bool Try.underlying4 (hval 2 4 v2 rfl rfl) h2
  refine (thingAll_walk s0 n1 b2 _).mono fun e W' ⟨he, hb⟩ => ?_
  subst he
  exact ⟨_, rfl, law_post rfl rfl (by rw [Try.params4]; decide +kernel) ⟨rfl, rfl, rfl⟩ hW' hb⟩
theorem thingAll_holds : Rows.ThingAllSaid :=
  OpenClaim.holds_of_wide 4 Try.f4 rfl rfl rfl rfl rfl rfl rfl ⟨rfl, rfl, rfl, rfl, rfl⟩ rfl rfl rfl rfl rfl (by kernel_rfl) Try.func4 (by kernel_rfl)
    (of_decide_eq_true (by kernel_rfl)) (by unfold Func.isWrapper; first | (rw [if_pos (by decide +kernel)]; kernel_rfl) | (rw [if_neg (by decide +kernel)]; exact ⟨rfl, rfl⟩))
    (fun os started H enc _ => thingAll_lifted os started H enc)
end
end Go.Proofs.Ytohdijhpoddbbaa
