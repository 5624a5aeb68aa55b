/-
  'calamuslaw16.SeekKinds' answers true for every find: whether it may be, and it the other way, is what the document tells.
-/
import Derived.Test.YtkhihmkpmlokiaaSeekLives
import Derived.Test.YtkhihmkpmlokiaaSeekRef
namespace Go.Proofs.Ytkhihmkpmlokiaa
open Go.RowKit
set_option maxHeartbeats 1000000 in
set_option maxRecDepth 100000 in
theorem seekKinds_walk (k : Int) (r : ByteArray) (hr : r.size ≤ 140737488351232) (w : World) (hm : MaxAt w) :
    Calls Try.prog 4 #[findV k r] w fun e w' => e = .returned (.bool true) ∧ Below w.heap.size w w' := by
  have h0 := find_new w k r
  have HM : Hid (∀ u, Below (w.alloc (findO k r)).heap.size (w.alloc (findO k r)) u → MaxAt u) := fun u h => hm.below (h0.trans (h.mono h0.size))
  have CELL : Hid (∀ u, Below (w.alloc (findO k r)).heap.size (w.alloc (findO k r)) u → u.cell? ⟨w.heap.size, 0, none⟩ = some (.int .i64 k) ∧ u.cell? ⟨w.heap.size, 1, none⟩ = some (.string r)) := fun u h => find_after h
  obtain ⟨c0, c1⟩ := CELL.out _ (Below.refl _ _)
  have hX := Below.refl (w.alloc (findO k r)).heap.size (w.alloc (findO k r))
  have CR := Lib.hid (fun w => seek_Right k r (by omega) w)
  have DR := Lib.hid (fun w => ref16_Right k r w)
  have CT := fun w => seek_Turn k r (by omega) w
  have DT := fun w => ref16_Turn k r w
  obtain ⟨o, q, ho⟩ : ∃ (o : Int) (q : ByteArray), Seek.turnV k r = findV o q := by
    unfold Seek.turnV
    split
    · exact ⟨_, _, rfl⟩
    · exact ⟨_, _, rfl⟩
  simp only [ho] at CT DT
  have CT := Lib.hid CT
  have DT := Lib.hid DT
  clear ho hm hr
  generalize Seek.right k r.data.toList = b at *
  have LV := Lib.hid (fun (w : World) (hm : MaxAt w) => seek_lives w hm)
  go_enter Try.func4, Try.ntmps4
  go_wp2_with fail
  have HM1 := Lib.hid (fun (u : World) (h : Below (w.alloc (findO k r)).heap.size (w.alloc (findO k r)) u) => LV.out u (HM.out u h))
  have hXd := hX.drew
  go_region_held3 (fun u => u.cell? ⟨w.heap.size, 0, none⟩ = some (.int .i64 k) ∧ u.cell? ⟨w.heap.size, 1, none⟩ = some (.string r)) (first | (with_reducible exact ⟨by assumption, by assumption⟩) | go_keep)
    (first
      | (go_at_call 10; with_reducible refine (CR.out _).mono ?_; rintro e w6 ⟨rfl, hb6⟩; (first | (with_reducible replace hX := below_onr hX hb6) | (with_reducible replace hX := below_onrd hX hb6)); obtain ⟨c0, c1⟩ := CELL.out _ hX)
      | (go_at_call 11; with_reducible refine (DR.out _).mono ?_; rintro e w6 ⟨rfl, hb6⟩; (first | (with_reducible replace hX := below_onr hX hb6) | (with_reducible replace hX := below_onrd hX hb6)); obtain ⟨c0, c1⟩ := CELL.out _ hX)
      | (go_at_call 12; with_reducible refine (CT.out _).mono ?_; rintro e w6 ⟨rfl, hb6⟩; (first | (with_reducible replace hX := below_onr hX hb6) | (with_reducible replace hX := below_onrd hX hb6)); obtain ⟨c0, c1⟩ := CELL.out _ hX)
      | (go_at_call 13; with_reducible refine (DT.out _).mono ?_; rintro e w6 ⟨rfl, hb6⟩; (first | (with_reducible replace hX := below_onr hX hb6) | (with_reducible replace hX := below_onrd hX hb6)); obtain ⟨c0, c1⟩ := CELL.out _ hX)
      | (go_at_call 7; with_reducible refine (HM1.out _ hX).mono ?_; rintro e w6 ⟨rfl, hb6⟩; (first | (with_reducible replace hX := below_onr hX hb6) | (with_reducible replace hX := below_onrd hX hb6)); obtain ⟨c0, c1⟩ := CELL.out _ hX))
  all_goals
    go_wp2
    go_ret
    exact ⟨rfl, h0.trans (hX.mono h0.size)⟩
section
open Go.ChangeShapes Go.WideShapes Go.ChangeAt
open Go.ChangeMaps (open_string)
set_option maxRecDepth 100000 in
theorem seekKinds_lifted (os : Os) (started : os.Started) (H : Type) (enc : TypeId × Value → H) :
    ReturnsInHanded {} Try.checked os 4 .any (Rows.seekKindsSpec.pre6 enc Try.prog Try.f4 Rows.seekKindsRow.domain false) (Rows.seekKindsSpec.post enc Try.prog Try.f4 false true false false) := by
  refine returnsInHanded_of_change_shaped (C := Try.checked) own_knob started (by kernel_rfl) Try.func4
    (ChangeSpec.witness6 (enc := enc) (C := Try.checked) false ⟨#[], #[.agg #[.int .i64 0, .string .empty]], []⟩ 8 (by kernel_rfl) (by kernel_rfl) (by kernel_rfl) (by kernel_rfl)) ?_
  intro W base args ds gs before hval0 hW _ hsz0 hsh _
  have hsz : (DataW.weightsEach Try.prog (Try.f4.params.toList ++ Rows.seekKindsSpec.plain.varTypes Try.prog) (ds ++ gs)).all (· ≤ reachBytes) = true := hsz0
  clear hsz0
  have hval : ∀ (j : Nat) t v, Try.f4.params[j]? = some t → args[j]? = some v → Value.okWide Try.prog W .any base t v := hval0
  have hW' := hW
  obtain ⟨p, q, hA0, hV, rfl, hfz, hnd⟩ := hW
  have hA : DataW.TrodAll enc Try.prog W 0 (fun _ => true) true Try.f4.params.toList args.toList ds p := hA0
  rw [Try.params4] at hA hval hsz
  obtain ⟨v0, vs0, d0, ds0, p0, q0, hargs, rfl, rfl, h0, r0⟩ := trodAll_cons hA
  obtain ⟨rfl, rfl, rfl⟩ := trodAll_nil r0
  obtain rfl : args = #[v0] := by cases args; simp_all
  obtain ⟨rfl, rfl⟩ := trodVars_none hV
  obtain ⟨fk0, fr0, rfl, ⟨yc0, rfl⟩, wk0⟩ := open_find (hval 0 23 v0 rfl rfl) h0
  have hr0 : fr0.size ≤ 140737488351232 := by
    rw [← data_len]
    exact sized_find hsz (j := 0) rfl rfl
  refine (seekKinds_walk fk0 fr0 hr0 _ (Try.laysM143.s1_3 W hsh)).mono fun e W' ⟨he, hb⟩ => ?_
  subst he
  exact ⟨_, rfl, law_post rfl rfl (by rw [Try.params4]; decide +kernel) ⟨rfl, rfl, rfl⟩ hW' hb⟩
theorem seekKinds_holds : Rows.SeekKindsSaid :=
  OpenClaim.holds_of_wide 4 Try.f4 rfl rfl rfl rfl rfl rfl rfl ⟨rfl, rfl, rfl, rfl, rfl⟩ rfl rfl rfl rfl rfl (by kernel_rfl) Try.func4 (by kernel_rfl)
    (of_decide_eq_true (by kernel_rfl)) (by unfold Func.isWrapper; first | (rw [if_pos (by decide +kernel)]; kernel_rfl) | (rw [if_neg (by decide +kernel)]; exact ⟨rfl, rfl⟩))
    (fun os started H enc _ => seekKinds_lifted os started H enc)
end
end Go.Proofs.Ytkhihmkpmlokiaa
