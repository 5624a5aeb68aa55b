/-
  'calamuslaw25.EntryCuts' answers true for every text, place and beginning: what is taken out, and where the cursor goes, is what the document tells, or there is its error. Conditions: none.
-/
import Derived.Test.YtdclopfhffjkfaaDoorJR
import Derived.Test.YtdclopfhffjkfaaDoorJQ
import Derived.Test.YtdclopfhffjkfaaDoorCards
import Derived.Test.YtdclopfhffjkfaaDoorTie
import Derived.Lay
import Derived.SevenTiedAt
import Derived.MakeChecks
namespace Go.Proofs.YtdclopfhffjkfaaDoor
open Go.RowKit
set_option maxHeartbeats 4000000 in
set_option maxRecDepth 100000 in
theorem entryCuts_walk (s : ByteArray) (p b : Int) (w : World) (hT : Tabs w) :
    Calls Tryd.prog 4 #[.string s, .int .i64 p, .int .i64 b] w fun e w' => e = .returned (.bool true) ∧ Below w.heap.size w w' := by
  have LV : Hid (∀ u, Below w.heap.size w u → Calls Tryd.prog 7 #[] u fun e w' => e = .returned (.bool true) ∧ Below u.heap.size u w') := fun u hu => entry_lives u (tabs_below hT hu)
  have hB := Below.refl w.heap.size w
  by_cases h0 : 500 < s.size
  · have g0 : decide ((500 : Int) < (s.size : Int)) = true := decide_eq_true (by omega)
    go_enter Tryd.func4, Tryd.ntmps4
    go_wp2_with (first
      | (go_at_call 7; (with_reducible refine (LV.out _ hB).mono ?_); rintro e u ⟨rfl, hbn⟩; replace hB := hB.trans (hbn.mono hB.size); clear hbn))
    go_ret
    exact ⟨rfl, hB⟩
  have g0 : decide ((500 : Int) < (s.size : Int)) = false := decide_eq_false (by omega)
  have A0 := fun u (hu : Below w.heap.size w u) => entry_Back s p b (by omega) u
  have B0 := fun u => ref25_Back s p b (by omega) u
  generalize Ent.cut Ent.backQ s.data.toList p b = r0 at *
  obtain ⟨y0, q0, er0⟩ := r0
  rw [Pst.val_mk] at A0 B0
  have C0 := Lib.hid A0
  have D0 := Lib.hid B0
  clear A0 B0
  have s0 : ((bs y0).toList == (bs y0).toList) = true := by simp
  have t0 : ((bs y0).toList != (bs y0).toList) = false := by simp
  have i0 : (q0 == q0) = true := by simp
  have k0 : (q0 != q0) = false := by simp
  have j0 : (er0 == er0) = true := by simp
  have l0 : (er0 != er0) = false := by simp
  have A1 := fun u (hu : Below w.heap.size w u) => entry_Chop s p b (by omega) u (tabs_below hT hu)
  have B1 := fun u => ref25_Chop s p b (by omega) u
  generalize Ent.cut Ent.chopQ s.data.toList p b = r1 at *
  obtain ⟨y1, q1, er1⟩ := r1
  rw [Pst.val_mk] at A1 B1
  have C1 := Lib.hid A1
  have D1 := Lib.hid B1
  clear A1 B1
  have s1 : ((bs y1).toList == (bs y1).toList) = true := by simp
  have t1 : ((bs y1).toList != (bs y1).toList) = false := by simp
  have i1 : (q1 == q1) = true := by simp
  have k1 : (q1 != q1) = false := by simp
  have j1 : (er1 == er1) = true := by simp
  have l1 : (er1 != er1) = false := by simp
  have A2 := fun u (hu : Below w.heap.size w u) => entry_Wipe s p b (by omega) u (tabs_below hT hu)
  have B2 := fun u => ref25_Wipe s p b (by omega) u
  generalize Ent.cut Ent.wipeQ s.data.toList p b = r2 at *
  obtain ⟨y2, q2, er2⟩ := r2
  rw [Pst.val_mk] at A2 B2
  have C2 := Lib.hid A2
  have D2 := Lib.hid B2
  clear A2 B2
  have s2 : ((bs y2).toList == (bs y2).toList) = true := by simp
  have t2 : ((bs y2).toList != (bs y2).toList) = false := by simp
  have i2 : (q2 == q2) = true := by simp
  have k2 : (q2 != q2) = false := by simp
  have j2 : (er2 == er2) = true := by simp
  have l2 : (er2 != er2) = false := by simp
  have E1 := Lib.hid (fun u => entry_Leave s p (by omega) u)
  have F1 := Lib.hid (fun u => ref25_Leave s p (by omega) u)
  generalize Ent.leave s.data.toList p = z at *
  have i9 : (z == z) = true := by simp
  clear h0 hT
  go_enter Tryd.func4, Tryd.ntmps4
  go_wp2_with (first
    | (go_at_call 12; (with_reducible refine (C0.out _ hB).mono ?_); rintro e u ⟨rfl, hbn⟩; replace hB := hB.trans (hbn.mono hB.size); clear hbn)
    | (go_at_call 13; (with_reducible refine (D0.out _).mono ?_); rintro e u ⟨rfl, hbn⟩; replace hB := hB.trans (hbn.mono hB.size); clear hbn)
    | (go_at_call 14; (with_reducible refine (C1.out _ hB).mono ?_); rintro e u ⟨rfl, hbn⟩; replace hB := hB.trans (hbn.mono hB.size); clear hbn)
    | (go_at_call 15; (with_reducible refine (D1.out _).mono ?_); rintro e u ⟨rfl, hbn⟩; replace hB := hB.trans (hbn.mono hB.size); clear hbn)
    | (go_at_call 16; (with_reducible refine (C2.out _ hB).mono ?_); rintro e u ⟨rfl, hbn⟩; replace hB := hB.trans (hbn.mono hB.size); clear hbn)
    | (go_at_call 17; (with_reducible refine (D2.out _).mono ?_); rintro e u ⟨rfl, hbn⟩; replace hB := hB.trans (hbn.mono hB.size); clear hbn)
    | (go_at_call 18; (with_reducible refine (E1.out _).mono ?_); rintro e u ⟨rfl, hbn⟩; replace hB := hB.trans (hbn.mono hB.size); clear hbn)
    | (go_at_call 19; (with_reducible refine (F1.out _).mono ?_); rintro e u ⟨rfl, hbn⟩; replace hB := hB.trans (hbn.mono hB.size); clear hbn)
    | (go_at_call 7; (with_reducible refine (LV.out _ hB).mono ?_); rintro e u ⟨rfl, hbn⟩; replace hB := hB.trans (hbn.mono hB.size); clear hbn))
  go_ret
  exact ⟨rfl, hB⟩
section
open Go.ChangeShapes Go.WideShapes Go.ChangeAt
open Go.ChangeMaps (open_string)
set_option maxRecDepth 100000 in
theorem entryCuts_lifted (os : Os) (started : os.Started) (H : Type) (enc : TypeId × Value → H) :
    ReturnsInHanded {} Tryd.checked os 4 .any (fun w args => (Rows.entryCutsSpec.pre enc Tryd.prog Tryd.f4 [] false w args ∧ laidMetH Tryd.prog Rows.entryCutsRow.laid w) ∧ sizedMet enc Tryd.prog Tryd.f4 (OpenSpec.ofChange Rows.entryCutsSpec) false w args) (Rows.entryCutsSpec.post enc Tryd.prog Tryd.f4 false true false false) := by
  refine returnsInHanded_of_change_and (C := Tryd.checked) (X := fun w _ => laidMetH Tryd.prog Rows.entryCutsRow.laid w) (fun _ _ _ hh h => h.of_heap hh) own_knob started (by kernel_rfl) Tryd.func4
    (ChangeSpec.witness_shaped (enc := enc) (C := Tryd.checked) (os := os) (X := fun w _ => laidMetH Tryd.prog Rows.entryCutsRow.laid w) false (World.laidAll Tryd.prog os Rows.entryCutsRow.laid) #[.string .empty, .int .i64 0, .int .i64 0] 8 (World.laidAll_os _ _ _)
      (World.shaped_of_ZipB (by kernel_rfl) (by kernel_rfl)) (by kernel_rfl) (by kernel_rfl) (by kernel_rfl)
      (by rw [MakeChecks.laidMetH_plain _ _ _ (by kernel_rfl)]; exact laidMet_laidAll _ (by kernel_rfl) (by kernel_rfl))) ?_
  intro W base args ds gs before hval0 hW _ hsz0 hL0 _
  have hL : laidMetH Tryd.prog Rows.entryCutsRow.laid W := hL0
  rw [MakeChecks.laidMetH_plain _ _ _ (by kernel_rfl)] at hL
  have hsz : (DataW.weightsEach Tryd.prog (Tryd.f4.params.toList ++ Rows.entryCutsSpec.plain.varTypes Tryd.prog) (ds ++ gs)).all (· ≤ reachBytes) = true := hsz0
  clear hsz0
  have hval : ∀ (j : Nat) t v, Tryd.f4.params[j]? = some t → args[j]? = some v → Value.okWide Tryd.prog W .any base t v := hval0
  have hW' := hW
  obtain ⟨p, q, hA0, hV, rfl, hfz, hnd⟩ := hW
  have hA : DataW.TrodAll enc Tryd.prog W 0 (fun _ => true) true Tryd.f4.params.toList args.toList ds p := hA0
  rw [Tryd.params4] at hA hval hsz
  obtain ⟨v0, vs0, d0, ds0, p0, q0, hargs, rfl, rfl, h0, r0⟩ := trodAll_cons hA
  obtain ⟨v1, vs1, d1, ds1, p1, q1, rfl, rfl, rfl, h1, r1⟩ := trodAll_cons r0
  obtain ⟨v2, vs2, d2, ds2, p2, q2, rfl, rfl, rfl, h2, r2⟩ := trodAll_cons r1
  obtain ⟨rfl, rfl, rfl⟩ := trodAll_nil r2
  obtain rfl : args = #[v0, v1, v2] := by cases args; simp_all
  obtain ⟨rfl, rfl⟩ := trodVars_none hV
  obtain ⟨s0, rfl, rfl, rfl, hmax0⟩ := open_string Tryd.underlying9 (hval 0 9 v0 rfl rfl) h0
  have hs0 : s0.size ≤ 140737488351232 := by rw [← data_len]; exact sized_string hsz (j := 0) (t := 9) rfl rfl
  obtain ⟨n1, rfl, rfl, rfl, wn1⟩ := open_int Tryd.underlying3 (hval 1 3 v1 rfl rfl) h1
  obtain ⟨n2, rfl, rfl, rfl, wn2⟩ := open_int Tryd.underlying3 (hval 2 3 v2 rfl rfl) h2
  refine (entryCuts_walk s0 n1 n2 _ (tabs_of_laid hL)).mono fun e W' ⟨he, hb⟩ => ?_
  subst he
  exact ⟨_, rfl, law_post rfl rfl (by rw [Tryd.params4]; decide +kernel) ⟨rfl, rfl, rfl⟩ hW' hb⟩
theorem entryCuts_row : Rows.EntryCutsSaid :=
  OpenClaim.holds_of_wide 4 Tryd.f4 rfl rfl rfl rfl rfl rfl rfl ⟨rfl, rfl, rfl, rfl, rfl⟩ rfl rfl rfl rfl rfl (by kernel_rfl) Tryd.func4 (by kernel_rfl)
    (of_decide_eq_true (by kernel_rfl)) (by unfold Func.isWrapper; first | (rw [if_pos (by decide +kernel)]; kernel_rfl) | (rw [if_neg (by decide +kernel)]; exact ⟨rfl, rfl⟩))
    (fun os started H enc _ => entryCuts_lifted os started H enc)
theorem entryCuts_holds : Rows.EntryCutsCardSaid :=
  Claim7.holds_tied_plain_at .later [] [.data, .pinned] true (true, _) false entryCuts_row (fun _ h => by cases h) (by kernel_rfl) (fun _ h => by cases h) entryCuts_row_tie rfl ⟨rfl, rfl⟩ (by kernel_rfl) rfl
    (fun f fn hf hfn => by
      obtain rfl : f = 4 := Option.some.inj ((show Tryd.prog.funcNamed "calamus/calamuslaw25.EntryCuts" = some 4 by kernel_rfl).symm.trans hf) |>.symm
      obtain rfl : fn = Tryd.f4 := (Option.some.inj (Tryd.func4.symm.trans hfn)).symm
      exact ⟨by kernel_rfl, fun j t ht => by
        rw [Tryd.params4] at ht
        have hm := Array.mem_of_getElem? ht
        have hall : (#[9, 3, 3].toList.all fun u => !Tryd.prog.wantsStandIn u) = true := by kernel_rfl
        exact (show Tryd.prog.wantsStandIn t = false by simpa using List.all_eq_true.1 hall t (by simpa using hm))⟩)
    (by kernel_rfl)
end
end Go.Proofs.YtdclopfhffjkfaaDoor
