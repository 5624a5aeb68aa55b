/-
  'calamuslaw23.OperShifts' answers true for every text, range, direction and letter: lines shifted and other letters are what the document tells, or there is its error. The row lists two tables of utf8 that the walk never reads.
-/
import Derived.Test.YtfhljddakhigdaaGreatDoorJ2
import Derived.Test.YtfhljddakhigdaaGreatDoorJS
import Derived.Test.YtfhljddakhigdaaGreatDoorJR
import Derived.Test.YtfhljddakhigdaaGreatDoorJC
import Derived.Test.YtfhljddakhigdaaGreatDoorFrame
import Derived.Test.YtfhljddakhigdaaGreatDoorCards
import Derived.Test.YtfhljddakhigdaaGreatDoorTie
import Derived.Lay
import Derived.Handed
import Derived.LaidLaws
import Derived.SevenTiedAt
import Derived.MakeChecks
namespace Go.Proofs.YtfhljddakhigdaaGreatDoor
open Go.RowKit
set_option maxHeartbeats 4000000 in
set_option maxRecDepth 100000 in
theorem operShifts_walk (s : ByteArray) (a b : Int) (l lf : Bool) (how : Int) (w : World) :
    Calls Tryz.prog 3 #[.string s, .agg #[.int .i64 a, .int .i64 b, .bool l], .bool lf, .int .i64 how] w fun e w' => e = .returned (.bool true) ∧ Below w.heap.size w w' := by
  have LV := Lib.hid oper_lives
  have K := RBox.new w a b l
  obtain ⟨q0, q1, q2, f0, f1, f2⟩ := K.cells
  by_cases h0 : 500 < s.size
  · have g0 : decide ((500 : Int) < (s.size : Int)) = true := decide_eq_true (by omega)
    go_enter Tryz.func3, Tryz.ntmps3
    go_wp2_with (first
      | (go_at_call 4; (with_reducible refine (LV.out _).mono ?_); rintro e u ⟨rfl, hb⟩; replace K := K.on hb; clear hb; clear q0 q1 q2 f0 f1 f2; obtain ⟨q0, q1, q2, f0, f1, f2⟩ := K.cells))
    go_ret
    exact ⟨rfl, K.below⟩
  have g0 : decide ((500 : Int) < (s.size : Int)) = false := decide_eq_false (by omega)
  have c1 := fun w => oper_Shift s a b l lf (by omega) w
  have c2 := fun w => ref23_Shift s a b l lf (by omega) w
  have c3 := fun w => oper_Case s a b l how (by omega) w
  have c4 := fun w => ref23_Case s a b l how (by omega) w
  generalize Opr.shift s.data.toList a b l lf = r1 at *
  obtain ⟨x1, p1, e1⟩ := r1
  generalize Opr.case_ s.data.toList a b l how = r2 at *
  obtain ⟨x2, p2, e2⟩ := r2
  rw [Opr.val_mk] at c1 c2 c3 c4
  have C1 := Lib.hid c1
  have C2 := Lib.hid c2
  have C3 := Lib.hid c3
  have C4 := Lib.hid c4
  have s1 : ((bs x1).toList == (bs x1).toList) = true := by simp
  have i1 : (p1 == p1) = true := by simp
  have j1 : (e1 == e1) = true := by simp
  have s2 : ((bs x2).toList == (bs x2).toList) = true := by simp
  have i2 : (p2 == p2) = true := by simp
  have j2 : (e2 == e2) = true := by simp
  clear c1 c2 c3 c4 h0
  go_enter Tryz.func3, Tryz.ntmps3
  go_wp2_with (first
    | (go_at_call 5; (with_reducible refine (C1.out _).mono ?_); rintro e u ⟨rfl, hb⟩; replace K := K.on hb; clear hb; clear q0 q1 q2 f0 f1 f2; obtain ⟨q0, q1, q2, f0, f1, f2⟩ := K.cells)
    | (go_at_call 6; (with_reducible refine (C2.out _).mono ?_); rintro e u ⟨rfl, hb⟩; replace K := K.on hb; clear hb; clear q0 q1 q2 f0 f1 f2; obtain ⟨q0, q1, q2, f0, f1, f2⟩ := K.cells)
    | (go_at_call 7; (with_reducible refine (C3.out _).mono ?_); rintro e u ⟨rfl, hb⟩; replace K := K.on hb; clear hb; clear q0 q1 q2 f0 f1 f2; obtain ⟨q0, q1, q2, f0, f1, f2⟩ := K.cells)
    | (go_at_call 8; (with_reducible refine (C4.out _).mono ?_); rintro e u ⟨rfl, hb⟩; replace K := K.on hb; clear hb; clear q0 q1 q2 f0 f1 f2; obtain ⟨q0, q1, q2, f0, f1, f2⟩ := K.cells)
    | (go_at_call 4; (with_reducible refine (LV.out _).mono ?_); rintro e u ⟨rfl, hb⟩; replace K := K.on hb; clear hb; clear q0 q1 q2 f0 f1 f2; obtain ⟨q0, q1, q2, f0, f1, f2⟩ := K.cells))
  go_ret
  exact ⟨rfl, K.below⟩
section
open Go.ChangeShapes Go.WideShapes Go.ChangeAt
open Go.ChangeMaps (open_string)
set_option maxRecDepth 100000 in
theorem operShifts_lifted (os : Os) (started : os.Started) (H : Type) (enc : TypeId × Value → H) :
    ReturnsInHanded {} Tryz.checked os 3 .any (fun w args => (Rows.operShiftsSpec.pre enc Tryz.prog Tryz.f3 [] false w args ∧ laidMetH Tryz.prog Rows.operShiftsRow.laid w) ∧ sizedMet enc Tryz.prog Tryz.f3 (OpenSpec.ofChange Rows.operShiftsSpec) false w args) (Rows.operShiftsSpec.post enc Tryz.prog Tryz.f3 false true false false) := by
  refine returnsInHanded_of_change_and (C := Tryz.checked) (X := fun w _ => laidMetH Tryz.prog Rows.operShiftsRow.laid w) (fun _ _ _ hh h => h.of_heap hh) own_knob started (by kernel_rfl) Tryz.func3
    (ChangeSpec.witness_shaped (enc := enc) (C := Tryz.checked) (os := os) (X := fun w _ => laidMetH Tryz.prog Rows.operShiftsRow.laid w) false (World.laidAll Tryz.prog os Rows.operShiftsRow.laid) #[.string .empty, .agg #[.int .i64 0, .int .i64 0, .bool false], .bool false, .int .i64 0] 8 (World.laidAll_os _ _ _)
      (World.shaped_of_ZipB (by kernel_rfl) (by kernel_rfl)) (by kernel_rfl) (by kernel_rfl) (by kernel_rfl)
      (by rw [MakeChecks.laidMetH_plain _ _ _ (by kernel_rfl)]; exact laidMet_laidAll _ (by kernel_rfl) (by kernel_rfl))) ?_
  intro W base args ds gs before hval0 hW _ hsz0 _ _
  have hsz : (DataW.weightsEach Tryz.prog (Tryz.f3.params.toList ++ Rows.operShiftsSpec.plain.varTypes Tryz.prog) (ds ++ gs)).all (· ≤ reachBytes) = true := hsz0
  clear hsz0
  have hval : ∀ (j : Nat) t v, Tryz.f3.params[j]? = some t → args[j]? = some v → Value.okWide Tryz.prog W .any base t v := hval0
  have hW' := hW
  obtain ⟨p, q, hA0, hV, rfl, hfz, hnd⟩ := hW
  have hA : DataW.TrodAll enc Tryz.prog W 0 (fun _ => true) true Tryz.f3.params.toList args.toList ds p := hA0
  rw [Tryz.params3] at hA hval hsz
  obtain ⟨v0, vs0, d0, ds0, p0, q0, hargs, rfl, rfl, h0, r0⟩ := trodAll_cons hA
  obtain ⟨v1, vs1, d1, ds1, p1, q1, rfl, rfl, rfl, h1, r1⟩ := trodAll_cons r0
  obtain ⟨v2, vs2, d2, ds2, p2, q2, rfl, rfl, rfl, h2, r2⟩ := trodAll_cons r1
  obtain ⟨v3, vs3, d3, ds3, p3, q3, rfl, rfl, rfl, h3, r3⟩ := trodAll_cons r2
  obtain ⟨rfl, rfl, rfl⟩ := trodAll_nil r3
  obtain rfl : args = #[v0, v1, v2, v3] := by cases args; simp_all
  obtain ⟨rfl, rfl⟩ := trodVars_none hV
  obtain ⟨s0, rfl, rfl, rfl, hmax0⟩ := open_string Tryz.underlying9 (hval 0 9 v0 rfl rfl) h0
  have hs0 : s0.size ≤ 140737488351232 := by rw [← data_len]; exact sized_string hsz (j := 0) (t := 9) rfl rfl
  obtain ⟨ra1, rb1, rl1, rfl⟩ := open_range (hval 1 23 v1 rfl rfl) h1
  obtain ⟨b2, rfl, rfl, rfl⟩ := open_bool Tryz.underlying4 (hval 2 4 v2 rfl rfl) h2
  obtain ⟨n3, rfl, rfl, rfl, wn3⟩ := open_int Tryz.underlying3 (hval 3 3 v3 rfl rfl) h3
  refine (operShifts_walk s0 ra1 rb1 rl1 b2 n3 _).mono fun e W' ⟨he, hb⟩ => ?_
  subst he
  exact ⟨_, rfl, law_post rfl rfl (by rw [Tryz.params3]; decide +kernel) ⟨rfl, rfl, rfl⟩ hW' hb⟩
theorem operShifts_row : Rows.OperShiftsSaid :=
  OpenClaim.holds_of_wide 3 Tryz.f3 rfl rfl rfl rfl rfl rfl rfl ⟨rfl, rfl, rfl, rfl, rfl⟩ rfl rfl rfl rfl rfl (by kernel_rfl) Tryz.func3 (by kernel_rfl)
    (of_decide_eq_true (by kernel_rfl)) (by unfold Func.isWrapper; first | (rw [if_pos (by decide +kernel)]; kernel_rfl) | (rw [if_neg (by decide +kernel)]; exact ⟨rfl, rfl⟩))
    (fun os started H enc _ => operShifts_lifted os started H enc)
theorem operShifts_holds : Rows.OperShiftsCardSaid :=
  Claim7.holds_tied_plain_at .later [] [.data, .pinned] true (true, _) false operShifts_row (fun _ h => by cases h) (by kernel_rfl) (fun _ h => by cases h) operShifts_row_tie rfl ⟨rfl, rfl⟩ (by kernel_rfl) rfl
    (fun f fn hf hfn => by
      obtain rfl : f = 3 := Option.some.inj ((show Tryz.prog.funcNamed "calamus/calamuslaw23.OperShifts" = some 3 by kernel_rfl).symm.trans hf) |>.symm
      obtain rfl : fn = Tryz.f3 := (Option.some.inj (Tryz.func3.symm.trans hfn)).symm
      exact ⟨by kernel_rfl, fun j t ht => by
        rw [Tryz.params3] at ht
        have hm := Array.mem_of_getElem? ht
        have hall : (#[9, 23, 4, 3].toList.all fun u => !Tryz.prog.wantsStandIn u) = true := by kernel_rfl
        exact (show Tryz.prog.wantsStandIn t = false by simpa using List.all_eq_true.1 hall t (by simpa using hm))⟩)
    (by kernel_rfl)
end
end Go.Proofs.YtfhljddakhigdaaGreatDoor
