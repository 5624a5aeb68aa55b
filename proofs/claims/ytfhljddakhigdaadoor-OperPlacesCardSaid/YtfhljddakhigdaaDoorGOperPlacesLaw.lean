/-
  'calamuslaw23.OperPlaces' answers true for every text, range, direction and letter: texts that operators leave stay valid, the places that they tell are places, and beside an error nothing else is told. The row lists two tables of utf8 that the walk never reads.
-/
import Derived.Test.YtfhljddakhigdaaDoorJ2
import Derived.Test.YtfhljddakhigdaaDoorJG
import Derived.Test.YtfhljddakhigdaaDoorJS
import Derived.Test.YtfhljddakhigdaaDoorFrame
import Derived.Test.YtfhljddakhigdaaDoorCards
import Derived.Test.YtfhljddakhigdaaDoorTie
import Derived.Lay
import Derived.Handed
import Derived.LaidLaws
import Derived.SevenTiedAt
import Derived.MakeChecks
namespace Go.Proofs.YtfhljddakhigdaaDoor
open Go.RowKit
set_option maxHeartbeats 1000000 in
set_option maxRecDepth 100000 in
theorem places_ok (x : List UInt8) (p e : Int) (nm : Bool) (hg : Opr.Good x p e nm) (hx : x.length ≤ 1000000) (w : World) :
    Calls Tryd.prog 17 #[.string (bs x), .int .i64 p, .int .i64 e, .bool nm] w fun r w' => r = .returned (.bool true) ∧ Below w.heap.size w w' := by
  have hB := Below.refl w.heap.size w
  by_cases h0 : e = 0
  · subst h0
    obtain ⟨hp, hn⟩ := hg.2 rfl
    have P0 := fun w => utf_Place (bs x) p (by rw [bs_size]; omega) w
    rw [bs_toList, hp] at P0
    have P1 := Lib.hid P0
    cases nm with
    | false =>
      clear P0 hg hp hn
      go_enter Tryd.func17, Tryd.ntmps17
      go_wp2_with (go_at_call 18; (with_reducible refine (P1.out _).mono ?_); rintro r u ⟨rfl, rfl⟩)
      go_ret
      exact ⟨rfl, hB⟩
    | true =>
      have N0 := fun w => line_Normal (bs x) p (by rw [bs_size]; omega) w
      rw [bs_toList, hn rfl] at N0
      have N1 := Lib.hid N0
      clear P0 N0 hg hp hn
      go_enter Tryd.func17, Tryd.ntmps17
      go_wp2_with (first
        | (go_at_call 18; (with_reducible refine (P1.out _).mono ?_); rintro r u ⟨rfl, rfl⟩)
        | (go_at_call 19; (with_reducible refine (N1.out _).mono ?_); rintro r u ⟨rfl, hb⟩; replace hB := hB.trans (hb.mono hB.size); clear hb))
      go_ret
      exact ⟨rfl, hB⟩
  · obtain ⟨rfl, rfl⟩ := hg.1 h0
    have g0 : (e != 0) = true := by simpa using h0
    have g1 : (bs []).toList.isEmpty = true := by rw [bs_isEmpty]; rfl
    clear hg h0
    generalize bs [] = E at *
    go_enter Tryd.func17, Tryd.ntmps17
    go_wp2
    go_ret
    exact ⟨rfl, hB⟩
set_option maxHeartbeats 4000000 in
set_option maxRecDepth 100000 in
theorem operPlaces_walk (s : ByteArray) (a b : Int) (l lf : Bool) (how : Int) (w : World) :
    Calls Tryd.prog 5 #[.string s, .agg #[.int .i64 a, .int .i64 b, .bool l], .bool lf, .int .i64 how] w fun e w' => e = .returned (.bool true) ∧ Below w.heap.size w w' := by
  have LV := Lib.hid oper_lives
  have K := RBox.new w a b l
  obtain ⟨q0, q1, q2, f0, f1, f2⟩ := K.cells
  by_cases h0 : 500 < s.size
  · have g0 : decide ((500 : Int) < (s.size : Int)) = true := decide_eq_true (by omega)
    go_enter Tryd.func5, Tryd.ntmps5
    go_wp2_with (first
      | (go_at_call 7; (with_reducible refine (LV.out _).mono ?_); rintro e u ⟨rfl, hb⟩; replace K := K.on hb; clear hb; clear q0 q1 q2 f0 f1 f2; obtain ⟨q0, q1, q2, f0, f1, f2⟩ := K.cells))
    go_ret
    exact ⟨rfl, K.below⟩
  have g0 : decide ((500 : Int) < (s.size : Int)) = false := decide_eq_false (by omega)
  have c1 := fun w => oper_Take s a b l (by omega) w
  have c2 := fun w => oper_Clear s a b l (by omega) w
  have c3 := fun w => oper_Shift s a b l lf (by omega) w
  have c4 := fun w => oper_Case s a b l how (by omega) w
  have c5 := fun w => oper_Join s (Span.lines s.data.toList a b l).1 2 (by omega) w
  have C6 := Lib.hid (fun w => span_Lines s a b l (by omega) w)
  have C7 := Lib.hid (fun w => span_Right s a b l (by omega) w)
  have h1 := Opr.take_good s.data.toList a b l
  have h2 := Opr.clear_good s.data.toList a b l
  have h3 := Opr.shift_good s.data.toList a b l lf
  have h4 := Opr.case_good s.data.toList a b l how
  have h5 := Opr.join_good s.data.toList (Span.lines s.data.toList a b l).1 2
  have z1 := Opr.take_small s.data.toList a b l
  have z2 := Opr.clear_small s.data.toList a b l
  have z3 := Opr.shift_small s.data.toList a b l lf
  have z4 := Opr.case_small s.data.toList a b l how
  have z5 := Opr.join_small s.data.toList (Span.lines s.data.toList a b l).1 2
  have hce := Opr.clear_error s.data.toList a b l
  rw [data_len] at z1 z2 z3 z4 z5
  generalize Opr.take s.data.toList a b l = r1 at *
  obtain ⟨x1, p1, e1⟩ := r1
  generalize Opr.clear s.data.toList a b l = r2 at *
  obtain ⟨x2, p2, e2⟩ := r2
  generalize Opr.shift s.data.toList a b l lf = r3 at *
  obtain ⟨x3, p3, e3⟩ := r3
  generalize Opr.case_ s.data.toList a b l how = r4 at *
  obtain ⟨x4, p4, e4⟩ := r4
  generalize Opr.join s.data.toList (Span.lines s.data.toList a b l).1 2 = r5 at *
  obtain ⟨x5, p5, e5⟩ := r5
  generalize Span.lines s.data.toList a b l = ll at *
  obtain ⟨la, lb⟩ := ll
  generalize Span.right s.data.toList a b l = R at *
  have hRR : (R == R) = true := by simp
  rw [Opr.val_mk] at c1 c2 c3 c4 c5
  have C1 := Lib.hid c1
  have C2 := Lib.hid c2
  have C3 := Lib.hid c3
  have C4 := Lib.hid c4
  have C5 := Lib.hid c5
  have O1 := Lib.hid (places_ok x1 p1 e1 true h1 (by simp only at z1; omega))
  have O2 := Lib.hid (places_ok x2 p2 e2 false h2 (by simp only at z2; omega))
  have O3 := Lib.hid (places_ok x3 p3 e3 true h3 (by simp only at z3; omega))
  have O4 := Lib.hid (places_ok x4 p4 e4 true h4 (by simp only at z4; omega))
  have O5 := Lib.hid (places_ok x5 p5 e5 true h5 (by simp only at z5; omega))
  clear c1 c2 c3 c4 c5 h0 h1 h2 h3 h4 h5 z1 z2 z3 z4 z5
  simp only at hce
  go_enter Tryd.func5, Tryd.ntmps5
  go_wp2_with (first
    | (go_at_call 8; (with_reducible refine (C1.out _).mono ?_); rintro e u ⟨rfl, hb⟩; replace K := K.on hb; clear hb; clear q0 q1 q2 f0 f1 f2; obtain ⟨q0, q1, q2, f0, f1, f2⟩ := K.cells)
    | (go_at_call 10; (with_reducible refine (C2.out _).mono ?_); rintro e u ⟨rfl, hb⟩; replace K := K.on hb; clear hb; clear q0 q1 q2 f0 f1 f2; obtain ⟨q0, q1, q2, f0, f1, f2⟩ := K.cells)
    | (go_at_call 14; (with_reducible refine (C3.out _).mono ?_); rintro e u ⟨rfl, hb⟩; replace K := K.on hb; clear hb; clear q0 q1 q2 f0 f1 f2; obtain ⟨q0, q1, q2, f0, f1, f2⟩ := K.cells)
    | (go_at_call 15; (with_reducible refine (C4.out _).mono ?_); rintro e u ⟨rfl, hb⟩; replace K := K.on hb; clear hb; clear q0 q1 q2 f0 f1 f2; obtain ⟨q0, q1, q2, f0, f1, f2⟩ := K.cells)
    | (go_at_call 16; (with_reducible refine (C6.out _).mono ?_); rintro e u ⟨rfl, hb⟩; replace K := K.on hb; clear hb; clear q0 q1 q2 f0 f1 f2; obtain ⟨q0, q1, q2, f0, f1, f2⟩ := K.cells)
    | (go_at_call 12; (with_reducible refine (C5.out _).mono ?_); rintro e u ⟨rfl, hb⟩; replace K := K.on hb; clear hb; clear q0 q1 q2 f0 f1 f2; obtain ⟨q0, q1, q2, f0, f1, f2⟩ := K.cells)
    | (go_at_call 17; (with_reducible refine (O1.out _).mono ?_); rintro e u ⟨rfl, hb⟩; replace K := K.on hb; clear hb; clear q0 q1 q2 f0 f1 f2; obtain ⟨q0, q1, q2, f0, f1, f2⟩ := K.cells)
    | (go_at_call 17; (with_reducible refine (O2.out _).mono ?_); rintro e u ⟨rfl, hb⟩; replace K := K.on hb; clear hb; clear q0 q1 q2 f0 f1 f2; obtain ⟨q0, q1, q2, f0, f1, f2⟩ := K.cells)
    | (go_at_call 17; (with_reducible refine (O3.out _).mono ?_); rintro e u ⟨rfl, hb⟩; replace K := K.on hb; clear hb; clear q0 q1 q2 f0 f1 f2; obtain ⟨q0, q1, q2, f0, f1, f2⟩ := K.cells)
    | (go_at_call 17; (with_reducible refine (O4.out _).mono ?_); rintro e u ⟨rfl, hb⟩; replace K := K.on hb; clear hb; clear q0 q1 q2 f0 f1 f2; obtain ⟨q0, q1, q2, f0, f1, f2⟩ := K.cells)
    | (go_at_call 17; (with_reducible refine (O5.out _).mono ?_); rintro e u ⟨rfl, hb⟩; replace K := K.on hb; clear hb; clear q0 q1 q2 f0 f1 f2; obtain ⟨q0, q1, q2, f0, f1, f2⟩ := K.cells)
    | (go_at_call 20; (with_reducible refine (C7.out _).mono ?_); rintro e u ⟨rfl, hb⟩; replace K := K.on hb; clear hb; clear q0 q1 q2 f0 f1 f2; obtain ⟨q0, q1, q2, f0, f1, f2⟩ := K.cells)
    | (go_at_call 7; (with_reducible refine (LV.out _).mono ?_); rintro e u ⟨rfl, hb⟩; replace K := K.on hb; clear hb; clear q0 q1 q2 f0 f1 f2; obtain ⟨q0, q1, q2, f0, f1, f2⟩ := K.cells))
  go_ret
  exact ⟨rfl, K.below⟩
section
open Go.ChangeShapes Go.WideShapes Go.ChangeAt
open Go.ChangeMaps (open_string)
set_option maxRecDepth 100000 in
theorem operPlaces_lifted (os : Os) (started : os.Started) (H : Type) (enc : TypeId × Value → H) :
    ReturnsInHanded {} Tryd.checked os 5 .any (fun w args => (Rows.operPlacesSpec.pre enc Tryd.prog Tryd.f5 [] false w args ∧ laidMetH Tryd.prog Rows.operPlacesRow.laid w) ∧ sizedMet enc Tryd.prog Tryd.f5 (OpenSpec.ofChange Rows.operPlacesSpec) false w args) (Rows.operPlacesSpec.post enc Tryd.prog Tryd.f5 false true false false) := by
  refine returnsInHanded_of_change_and (C := Tryd.checked) (X := fun w _ => laidMetH Tryd.prog Rows.operPlacesRow.laid w) (fun _ _ _ hh h => h.of_heap hh) own_knob started (by kernel_rfl) Tryd.func5
    (ChangeSpec.witness_shaped (enc := enc) (C := Tryd.checked) (os := os) (X := fun w _ => laidMetH Tryd.prog Rows.operPlacesRow.laid w) false (World.laidAll Tryd.prog os Rows.operPlacesRow.laid) #[.string .empty, .agg #[.int .i64 0, .int .i64 0, .bool false], .bool false, .int .i64 0] 8 (World.laidAll_os _ _ _)
      (World.shaped_of_ZipB (by kernel_rfl) (by kernel_rfl)) (by kernel_rfl) (by kernel_rfl) (by kernel_rfl)
      (by rw [MakeChecks.laidMetH_plain _ _ _ (by kernel_rfl)]; exact laidMet_laidAll _ (by kernel_rfl) (by kernel_rfl))) ?_
  intro W base args ds gs before hval0 hW _ hsz0 _ _
  have hsz : (DataW.weightsEach Tryd.prog (Tryd.f5.params.toList ++ Rows.operPlacesSpec.plain.varTypes Tryd.prog) (ds ++ gs)).all (· ≤ reachBytes) = true := hsz0
  clear hsz0
  have hval : ∀ (j : Nat) t v, Tryd.f5.params[j]? = some t → args[j]? = some v → Value.okWide Tryd.prog W .any base t v := hval0
  have hW' := hW
  obtain ⟨p, q, hA0, hV, rfl, hfz, hnd⟩ := hW
  have hA : DataW.TrodAll enc Tryd.prog W 0 (fun _ => true) true Tryd.f5.params.toList args.toList ds p := hA0
  rw [Tryd.params5] at hA hval hsz
  obtain ⟨v0, vs0, d0, ds0, p0, q0, hargs, rfl, rfl, h0, r0⟩ := trodAll_cons hA
  obtain ⟨v1, vs1, d1, ds1, p1, q1, rfl, rfl, rfl, h1, r1⟩ := trodAll_cons r0
  obtain ⟨v2, vs2, d2, ds2, p2, q2, rfl, rfl, rfl, h2, r2⟩ := trodAll_cons r1
  obtain ⟨v3, vs3, d3, ds3, p3, q3, rfl, rfl, rfl, h3, r3⟩ := trodAll_cons r2
  obtain ⟨rfl, rfl, rfl⟩ := trodAll_nil r3
  obtain rfl : args = #[v0, v1, v2, v3] := by cases args; simp_all
  obtain ⟨rfl, rfl⟩ := trodVars_none hV
  obtain ⟨s0, rfl, rfl, rfl, hmax0⟩ := open_string Tryd.underlying9 (hval 0 9 v0 rfl rfl) h0
  have hs0 : s0.size ≤ 140737488351232 := by rw [← data_len]; exact sized_string hsz (j := 0) (t := 9) rfl rfl
  obtain ⟨ra1, rb1, rl1, rfl⟩ := open_range (hval 1 23 v1 rfl rfl) h1
  obtain ⟨b2, rfl, rfl, rfl⟩ := open_bool Tryd.underlying4 (hval 2 4 v2 rfl rfl) h2
  obtain ⟨n3, rfl, rfl, rfl, wn3⟩ := open_int Tryd.underlying3 (hval 3 3 v3 rfl rfl) h3
  refine (operPlaces_walk s0 ra1 rb1 rl1 b2 n3 _).mono fun e W' ⟨he, hb⟩ => ?_
  subst he
  exact ⟨_, rfl, law_post rfl rfl (by rw [Tryd.params5]; decide +kernel) ⟨rfl, rfl, rfl⟩ hW' hb⟩
theorem operPlaces_row : Rows.OperPlacesSaid :=
  OpenClaim.holds_of_wide 5 Tryd.f5 rfl rfl rfl rfl rfl rfl rfl ⟨rfl, rfl, rfl, rfl, rfl⟩ rfl rfl rfl rfl rfl (by kernel_rfl) Tryd.func5 (by kernel_rfl)
    (of_decide_eq_true (by kernel_rfl)) (by unfold Func.isWrapper; first | (rw [if_pos (by decide +kernel)]; kernel_rfl) | (rw [if_neg (by decide +kernel)]; exact ⟨rfl, rfl⟩))
    (fun os started H enc _ => operPlaces_lifted os started H enc)
theorem operPlaces_holds : Rows.OperPlacesCardSaid :=
  Claim7.holds_tied_plain_at .later [] [.data, .pinned] true (true, _) false operPlaces_row (fun _ h => by cases h) (by kernel_rfl) (fun _ h => by cases h) operPlaces_row_tie rfl ⟨rfl, rfl⟩ (by kernel_rfl) rfl
    (fun f fn hf hfn => by
      obtain rfl : f = 5 := Option.some.inj ((show Tryd.prog.funcNamed "calamus/calamuslaw23.OperPlaces" = some 5 by kernel_rfl).symm.trans hf) |>.symm
      obtain rfl : fn = Tryd.f5 := (Option.some.inj (Tryd.func5.symm.trans hfn)).symm
      exact ⟨by kernel_rfl, fun j t ht => by
        rw [Tryd.params5] at ht
        have hm := Array.mem_of_getElem? ht
        have hall : (#[9, 23, 4, 3].toList.all fun u => !Tryd.prog.wantsStandIn u) = true := by kernel_rfl
        exact (show Tryd.prog.wantsStandIn t = false by simpa using List.all_eq_true.1 hall t (by simpa using hm))⟩)
    (by kernel_rfl)
end
end Go.Proofs.YtfhljddakhigdaaDoor
