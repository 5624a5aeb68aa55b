/-
  'calamuslaw16.SeekGoes' answers true for every text, place, find and count: where any find leads is what the document tells.
-/
import Derived.Test.YtkhihmkpmlokiaaSeekLives
import Derived.Test.YtkhihmkpmlokiaaSeekRefGoAll
namespace Go.Proofs.Ytkhihmkpmlokiaa
open Go.RowKit
set_option maxHeartbeats 1000000 in
set_option maxRecDepth 100000 in
theorem seekGoes_wide (s : ByteArray) (p k : Int) (r : ByteArray) (n : Int) (hs : 300 < s.size) (w : World) (hm : MaxAt w) :
    Calls Try.prog 3 #[.string s, .int .i64 p, findV k r, .int .i64 n] w fun e w' => e = .returned (.bool true) ∧ Below w.heap.size w w' := by
  have h0 := find_new w k r
  have HM : Hid (∀ u, Below (w.alloc (findO k r)).heap.size (w.alloc (findO k r)) u → MaxAt u) := fun u h => hm.below (h0.trans (h.mono h0.size))
  have CELL : Hid (∀ u, Below (w.alloc (findO k r)).heap.size (w.alloc (findO k r)) u → u.cell? ⟨w.heap.size, 0, none⟩ = some (.int .i64 k) ∧ u.cell? ⟨w.heap.size, 1, none⟩ = some (.string r)) := fun u h => find_after h
  obtain ⟨c0, c1⟩ := CELL.out _ (Below.refl _ _)
  have hX := Below.refl (w.alloc (findO k r)).heap.size (w.alloc (findO k r))
  have g0 : decide ((300 : Int) < (s.size : Int)) = true := by simp; omega
  clear hm
  go_enter Try.func3, Try.ntmps3
  go_wp2_with fail
  refine (seek_lives _ (HM.out _ hX)).mono ?_
  rintro e w1 ⟨rfl, hb1⟩
  replace hX := below_onr hX hb1
  obtain ⟨c0, c1⟩ := CELL.out _ hX
  clear hb1
  go_wp2
  go_ret
  exact ⟨rfl, h0.trans (hX.mono h0.size)⟩
set_option maxHeartbeats 1000000 in
set_option maxRecDepth 100000 in
theorem seekGoes_walk (s : ByteArray) (p k : Int) (r : ByteArray) (n : Int) (hr : r.size ≤ 140737488351232) (hn : n ≤ 9223372036854775807) (w : World) (hm : MaxAt w) :
    Calls Try.prog 3 #[.string s, .int .i64 p, findV k r, .int .i64 n] w fun e w' => e = .returned (.bool true) ∧ Below w.heap.size w w' := by
  by_cases hs : 300 < s.size
  · exact seekGoes_wide s p k r n hs w hm
  have h0 := find_new w k r
  have HM : Hid (∀ u, Below (w.alloc (findO k r)).heap.size (w.alloc (findO k r)) u → MaxAt u) := fun u h => hm.below (h0.trans (h.mono h0.size))
  have CELL : Hid (∀ u, Below (w.alloc (findO k r)).heap.size (w.alloc (findO k r)) u → u.cell? ⟨w.heap.size, 0, none⟩ = some (.int .i64 k) ∧ u.cell? ⟨w.heap.size, 1, none⟩ = some (.string r)) := fun u h => find_after h
  obtain ⟨c0, c1⟩ := CELL.out _ (Below.refl _ _)
  have hX := Below.refl (w.alloc (findO k r)).heap.size (w.alloc (findO k r))
  have g0 : decide ((300 : Int) < (s.size : Int)) = false := by simp; omega
  have A := fun (w : World) (hm : MaxAt w) => seek_Go s p k r n (by omega) (by omega) hn w hm
  have B := fun w => ref16_Go s p k r n (by omega) hn w
  generalize Seek.goV s.data.toList p k r.data.toList n = v at *
  clear hn hs hm hr
  by_cases hv : v < 0
  · simp only [Seek.res_no hv] at A B
    have A := Lib.hid A
    have B := Lib.hid B
    clear hv
    go_enter Try.func3, Try.ntmps3
    go_wp2_with fail
    refine (A.out _ (HM.out _ hX)).mono ?_
    rintro e w1 ⟨rfl, hb1⟩
    replace hX := below_onr hX hb1
    obtain ⟨c0, c1⟩ := CELL.out _ hX
    clear hb1
    go_wp2_with fail
    refine (B.out _).mono ?_
    rintro e w1 ⟨rfl, hb1⟩
    replace hX := below_onr hX hb1
    obtain ⟨c0, c1⟩ := CELL.out _ hX
    clear hb1
    go_wp2_with fail
    refine (seek_lives _ (HM.out _ hX)).mono ?_
    rintro e w1 ⟨rfl, hb1⟩
    replace hX := below_onr hX hb1
    obtain ⟨c0, c1⟩ := CELL.out _ hX
    clear hb1
    go_wp2
    go_ret
    exact ⟨rfl, h0.trans (hX.mono h0.size)⟩
  · simp only [Seek.res_at (Int.not_lt.1 hv)] at A B
    have A := Lib.hid A
    have B := Lib.hid B
    clear hv
    go_enter Try.func3, Try.ntmps3
    go_wp2_with fail
    refine (A.out _ (HM.out _ hX)).mono ?_
    rintro e w1 ⟨rfl, hb1⟩
    replace hX := below_onr hX hb1
    obtain ⟨c0, c1⟩ := CELL.out _ hX
    clear hb1
    go_wp2_with fail
    refine (B.out _).mono ?_
    rintro e w1 ⟨rfl, hb1⟩
    replace hX := below_onr hX hb1
    obtain ⟨c0, c1⟩ := CELL.out _ hX
    clear hb1
    go_wp2_with fail
    refine (seek_lives _ (HM.out _ hX)).mono ?_
    rintro e w1 ⟨rfl, hb1⟩
    replace hX := below_onr hX hb1
    obtain ⟨c0, c1⟩ := CELL.out _ hX
    clear hb1
    go_wp2
    go_ret
    exact ⟨rfl, h0.trans (hX.mono h0.size)⟩
theorem seek_i64 {n : Int} (h : (Lit.int .i64 n).wf = true) : n ≤ 9223372036854775807 := by
  simp only [Lit.wf, Bool.and_eq_true, decide_eq_true_eq] at h
  exact h.2
section
open Go.ChangeShapes Go.WideShapes Go.ChangeAt
open Go.ChangeMaps (open_string)
set_option maxRecDepth 100000 in
theorem seekGoes_lifted (os : Os) (started : os.Started) (H : Type) (enc : TypeId × Value → H) :
    ReturnsInHanded {} Try.checked os 3 .any (Rows.seekGoesSpec.pre6 enc Try.prog Try.f3 Rows.seekGoesRow.domain false) (Rows.seekGoesSpec.post enc Try.prog Try.f3 false true false false) := by
  refine returnsInHanded_of_change_shaped (C := Try.checked) own_knob started (by kernel_rfl) Try.func3
    (ChangeSpec.witness6 (enc := enc) (C := Try.checked) false ⟨#[], #[.string .empty, .int .i64 0, .agg #[.int .i64 0, .string .empty], .int .i64 0], []⟩ 8 (by kernel_rfl) (by kernel_rfl) (by kernel_rfl) (by kernel_rfl)) ?_
  intro W base args ds gs before hval0 hW _ hsz0 hsh _
  have hsz : (DataW.weightsEach Try.prog (Try.f3.params.toList ++ Rows.seekGoesSpec.plain.varTypes Try.prog) (ds ++ gs)).all (· ≤ reachBytes) = true := hsz0
  clear hsz0
  have hval : ∀ (j : Nat) t v, Try.f3.params[j]? = some t → args[j]? = some v → Value.okWide Try.prog W .any base t v := hval0
  have hW' := hW
  obtain ⟨p, q, hA0, hV, rfl, hfz, hnd⟩ := hW
  have hA : DataW.TrodAll enc Try.prog W 0 (fun _ => true) true Try.f3.params.toList args.toList ds p := hA0
  rw [Try.params3] at hA hval hsz
  obtain ⟨v0, vs0, d0, ds0, p0, q0, hargs, rfl, rfl, h0, r0⟩ := trodAll_cons hA
  obtain ⟨v1, vs1, d1, ds1, p1, q1, rfl, rfl, rfl, h1, r1⟩ := trodAll_cons r0
  obtain ⟨v2, vs2, d2, ds2, p2, q2, rfl, rfl, rfl, h2, r2⟩ := trodAll_cons r1
  obtain ⟨v3, vs3, d3, ds3, p3, q3, rfl, rfl, rfl, h3, r3⟩ := trodAll_cons r2
  obtain ⟨rfl, rfl, rfl⟩ := trodAll_nil r3
  obtain rfl : args = #[v0, v1, v2, v3] := by cases args; simp_all
  obtain ⟨rfl, rfl⟩ := trodVars_none hV
  obtain ⟨s0, rfl, rfl, rfl, hmax0⟩ := open_string Try.underlying9 (hval 0 9 v0 rfl rfl) h0
  have hs0 : s0.size ≤ 140737488351232 := by rw [← data_len]; exact sized_string hsz (j := 0) (t := 9) rfl rfl
  obtain ⟨n1, rfl, rfl, rfl, wn1⟩ := open_int Try.underlying3 (hval 1 3 v1 rfl rfl) h1
  obtain ⟨fk2, fr2, rfl, ⟨yc2, rfl⟩, wk2⟩ := open_find (hval 2 23 v2 rfl rfl) h2
  have hr2 : fr2.size ≤ 140737488351232 := by
    rw [← data_len]
    exact sized_find hsz (j := 2) rfl rfl
  obtain ⟨n3, rfl, rfl, rfl, wn3⟩ := open_int Try.underlying3 (hval 3 3 v3 rfl rfl) h3
  refine (seekGoes_walk s0 n1 fk2 fr2 n3 hr2 (seek_i64 wn3) _ (Try.laysM143.s1_3 W hsh)).mono fun e W' ⟨he, hb⟩ => ?_
  subst he
  exact ⟨_, rfl, law_post rfl rfl (by rw [Try.params3]; decide +kernel) ⟨rfl, rfl, rfl⟩ hW' hb⟩
theorem seekGoes_holds : Rows.SeekGoesSaid :=
  OpenClaim.holds_of_wide 3 Try.f3 rfl rfl rfl rfl rfl rfl rfl ⟨rfl, rfl, rfl, rfl, rfl⟩ rfl rfl rfl rfl rfl (by kernel_rfl) Try.func3 (by kernel_rfl)
    (of_decide_eq_true (by kernel_rfl)) (by unfold Func.isWrapper; first | (rw [if_pos (by decide +kernel)]; kernel_rfl) | (rw [if_neg (by decide +kernel)]; exact ⟨rfl, rfl⟩))
    (fun os started H enc _ => seekGoes_lifted os started H enc)
end
end Go.Proofs.Ytkhihmkpmlokiaa
