/-
  The document's answer on finds: which may be, and the other way.
-/
import Derived.Test.YtkhihmkpmlokiaaSeekGo
import Derived.Test.YtkhihmkpmlokiaaUtfIs
namespace Go.Proofs.Ytkhihmkpmlokiaa
open Go.RowKit
set_option maxHeartbeats 1000000 in
set_option maxRecDepth 100000 in
theorem ref16_Right_no (k : Int) (r : ByteArray) (h : ¬ (k = 102 ∨ k = 70 ∨ k = 116 ∨ k = 84)) (w : World) :
    Calls Try.prog 11 #[findV k r] w fun e w' => e = .returned (.bool (Seek.right k r.data.toList)) ∧ Below w.heap.size w w' := by
  have HV : Hid (Seek.right k r.data.toList = false) := by
    show _ = _
    cases hR : Seek.right k r.data.toList with
    | false => rfl
    | true => exact absurd (Seek.right_iff.1 hR).1 h
  obtain ⟨c0, c1⟩ := find_cells w k r
  have h0 := find_new w k r
  have g1 : (k == 102) = false := by rw [beq_eq_false_iff_ne]; omega
  have g2 : (k == 70) = false := by rw [beq_eq_false_iff_ne]; omega
  have g3 : (k == 116) = false := by rw [beq_eq_false_iff_ne]; omega
  have g4 : (k == 84) = false := by rw [beq_eq_false_iff_ne]; omega
  clear h
  go_enter Try.func11, Try.ntmps11
  go_wp2
  go_ret
  exact ⟨by rw [HV.out]; rfl, h0⟩
set_option maxHeartbeats 1000000 in
set_option maxRecDepth 100000 in
theorem ref16_Right_f (r : ByteArray) (w : World) :
    Calls Try.prog 11 #[findV 102 r] w fun e w' => e = .returned (.bool (Seek.right 102 r.data.toList)) ∧ Below w.heap.size w w' := by
  have HV : Hid (Seek.right 102 r.data.toList = (Utf.one r.data.toList && decide (r.data.toList ≠ [10]))) := by
    show _ = _
    rw [Seek.right, show decide (Seek.other 102 ≠ 0) = true by decide, Bool.true_and]
  have T := find_ten r
  have C := Lib.hid (fun w => ref_Is r w)
  obtain ⟨c0, c1⟩ := find_cells w 102 r
  have h0 := find_new w 102 r
  cases ho : Utf.one r.data.toList with
  | false =>
    rw [ho] at HV C
    clear T ho
    go_enter Try.func11, Try.ntmps11
    go_wp2_with (go_at_call 30; refine (C.out _).mono ?_; rintro e w1 ⟨rfl, hb1⟩)
    go_ret
    exact ⟨by rw [HV.out]; rfl, h0.trans (hb1.mono h0.size)⟩
  | true =>
    rw [ho] at HV C
    by_cases h10 : r.data.toList = [10]
    · have g2 : (r.toList == [10]) = true := by rw [T]; simp [h10]
      have HW : Hid (Seek.right 102 r.data.toList = false) := by show _ = _; rw [HV.out]; simp [h10]
      clear T ho h10 HV
      go_enter Try.func11, Try.ntmps11
      go_wp2_with fail
      refine (C.out _).mono ?_
      rintro e w1 ⟨rfl, hb1⟩
      obtain ⟨c0, c1⟩ := find_after hb1
      go_wp2
      go_ret
      exact ⟨by rw [HW.out]; rfl, h0.trans (hb1.mono h0.size)⟩
    · have g2 : (r.toList == [10]) = false := by rw [T]; simp [h10]
      have HW : Hid (Seek.right 102 r.data.toList = true) := by show _ = _; rw [HV.out]; simp [h10]
      clear T ho h10 HV
      go_enter Try.func11, Try.ntmps11
      go_wp2_with fail
      refine (C.out _).mono ?_
      rintro e w1 ⟨rfl, hb1⟩
      obtain ⟨c0, c1⟩ := find_after hb1
      go_wp2
      go_ret
      exact ⟨by rw [HW.out]; rfl, h0.trans (hb1.mono h0.size)⟩
set_option maxHeartbeats 1000000 in
set_option maxRecDepth 100000 in
theorem ref16_Right_bigF (r : ByteArray) (w : World) :
    Calls Try.prog 11 #[findV 70 r] w fun e w' => e = .returned (.bool (Seek.right 70 r.data.toList)) ∧ Below w.heap.size w w' := by
  have HV : Hid (Seek.right 70 r.data.toList = (Utf.one r.data.toList && decide (r.data.toList ≠ [10]))) := by
    show _ = _
    rw [Seek.right, show decide (Seek.other 70 ≠ 0) = true by decide, Bool.true_and]
  have T := find_ten r
  have C := Lib.hid (fun w => ref_Is r w)
  obtain ⟨c0, c1⟩ := find_cells w 70 r
  have h0 := find_new w 70 r
  cases ho : Utf.one r.data.toList with
  | false =>
    rw [ho] at HV C
    clear T ho
    go_enter Try.func11, Try.ntmps11
    go_wp2_with (go_at_call 30; refine (C.out _).mono ?_; rintro e w1 ⟨rfl, hb1⟩)
    go_ret
    exact ⟨by rw [HV.out]; rfl, h0.trans (hb1.mono h0.size)⟩
  | true =>
    rw [ho] at HV C
    by_cases h10 : r.data.toList = [10]
    · have g2 : (r.toList == [10]) = true := by rw [T]; simp [h10]
      have HW : Hid (Seek.right 70 r.data.toList = false) := by show _ = _; rw [HV.out]; simp [h10]
      clear T ho h10 HV
      go_enter Try.func11, Try.ntmps11
      go_wp2_with fail
      refine (C.out _).mono ?_
      rintro e w1 ⟨rfl, hb1⟩
      obtain ⟨c0, c1⟩ := find_after hb1
      go_wp2
      go_ret
      exact ⟨by rw [HW.out]; rfl, h0.trans (hb1.mono h0.size)⟩
    · have g2 : (r.toList == [10]) = false := by rw [T]; simp [h10]
      have HW : Hid (Seek.right 70 r.data.toList = true) := by show _ = _; rw [HV.out]; simp [h10]
      clear T ho h10 HV
      go_enter Try.func11, Try.ntmps11
      go_wp2_with fail
      refine (C.out _).mono ?_
      rintro e w1 ⟨rfl, hb1⟩
      obtain ⟨c0, c1⟩ := find_after hb1
      go_wp2
      go_ret
      exact ⟨by rw [HW.out]; rfl, h0.trans (hb1.mono h0.size)⟩
set_option maxHeartbeats 1000000 in
set_option maxRecDepth 100000 in
theorem ref16_Right_t (r : ByteArray) (w : World) :
    Calls Try.prog 11 #[findV 116 r] w fun e w' => e = .returned (.bool (Seek.right 116 r.data.toList)) ∧ Below w.heap.size w w' := by
  have HV : Hid (Seek.right 116 r.data.toList = (Utf.one r.data.toList && decide (r.data.toList ≠ [10]))) := by
    show _ = _
    rw [Seek.right, show decide (Seek.other 116 ≠ 0) = true by decide, Bool.true_and]
  have T := find_ten r
  have C := Lib.hid (fun w => ref_Is r w)
  obtain ⟨c0, c1⟩ := find_cells w 116 r
  have h0 := find_new w 116 r
  cases ho : Utf.one r.data.toList with
  | false =>
    rw [ho] at HV C
    clear T ho
    go_enter Try.func11, Try.ntmps11
    go_wp2_with (go_at_call 30; refine (C.out _).mono ?_; rintro e w1 ⟨rfl, hb1⟩)
    go_ret
    exact ⟨by rw [HV.out]; rfl, h0.trans (hb1.mono h0.size)⟩
  | true =>
    rw [ho] at HV C
    by_cases h10 : r.data.toList = [10]
    · have g2 : (r.toList == [10]) = true := by rw [T]; simp [h10]
      have HW : Hid (Seek.right 116 r.data.toList = false) := by show _ = _; rw [HV.out]; simp [h10]
      clear T ho h10 HV
      go_enter Try.func11, Try.ntmps11
      go_wp2_with fail
      refine (C.out _).mono ?_
      rintro e w1 ⟨rfl, hb1⟩
      obtain ⟨c0, c1⟩ := find_after hb1
      go_wp2
      go_ret
      exact ⟨by rw [HW.out]; rfl, h0.trans (hb1.mono h0.size)⟩
    · have g2 : (r.toList == [10]) = false := by rw [T]; simp [h10]
      have HW : Hid (Seek.right 116 r.data.toList = true) := by show _ = _; rw [HV.out]; simp [h10]
      clear T ho h10 HV
      go_enter Try.func11, Try.ntmps11
      go_wp2_with fail
      refine (C.out _).mono ?_
      rintro e w1 ⟨rfl, hb1⟩
      obtain ⟨c0, c1⟩ := find_after hb1
      go_wp2
      go_ret
      exact ⟨by rw [HW.out]; rfl, h0.trans (hb1.mono h0.size)⟩
set_option maxHeartbeats 1000000 in
set_option maxRecDepth 100000 in
theorem ref16_Right_bigT (r : ByteArray) (w : World) :
    Calls Try.prog 11 #[findV 84 r] w fun e w' => e = .returned (.bool (Seek.right 84 r.data.toList)) ∧ Below w.heap.size w w' := by
  have HV : Hid (Seek.right 84 r.data.toList = (Utf.one r.data.toList && decide (r.data.toList ≠ [10]))) := by
    show _ = _
    rw [Seek.right, show decide (Seek.other 84 ≠ 0) = true by decide, Bool.true_and]
  have T := find_ten r
  have C := Lib.hid (fun w => ref_Is r w)
  obtain ⟨c0, c1⟩ := find_cells w 84 r
  have h0 := find_new w 84 r
  cases ho : Utf.one r.data.toList with
  | false =>
    rw [ho] at HV C
    clear T ho
    go_enter Try.func11, Try.ntmps11
    go_wp2_with (go_at_call 30; refine (C.out _).mono ?_; rintro e w1 ⟨rfl, hb1⟩)
    go_ret
    exact ⟨by rw [HV.out]; rfl, h0.trans (hb1.mono h0.size)⟩
  | true =>
    rw [ho] at HV C
    by_cases h10 : r.data.toList = [10]
    · have g2 : (r.toList == [10]) = true := by rw [T]; simp [h10]
      have HW : Hid (Seek.right 84 r.data.toList = false) := by show _ = _; rw [HV.out]; simp [h10]
      clear T ho h10 HV
      go_enter Try.func11, Try.ntmps11
      go_wp2_with fail
      refine (C.out _).mono ?_
      rintro e w1 ⟨rfl, hb1⟩
      obtain ⟨c0, c1⟩ := find_after hb1
      go_wp2
      go_ret
      exact ⟨by rw [HW.out]; rfl, h0.trans (hb1.mono h0.size)⟩
    · have g2 : (r.toList == [10]) = false := by rw [T]; simp [h10]
      have HW : Hid (Seek.right 84 r.data.toList = true) := by show _ = _; rw [HV.out]; simp [h10]
      clear T ho h10 HV
      go_enter Try.func11, Try.ntmps11
      go_wp2_with fail
      refine (C.out _).mono ?_
      rintro e w1 ⟨rfl, hb1⟩
      obtain ⟨c0, c1⟩ := find_after hb1
      go_wp2
      go_ret
      exact ⟨by rw [HW.out]; rfl, h0.trans (hb1.mono h0.size)⟩
theorem ref16_Right (k : Int) (r : ByteArray) (w : World) :
    Calls Try.prog 11 #[findV k r] w fun e w' => e = .returned (.bool (Seek.right k r.data.toList)) ∧ Below w.heap.size w w' := by
  by_cases h : k = 102 ∨ k = 70 ∨ k = 116 ∨ k = 84
  · rcases h with rfl | rfl | rfl | rfl
    · exact ref16_Right_f r w
    · exact ref16_Right_bigF r w
    · exact ref16_Right_t r w
    · exact ref16_Right_bigT r w
  · exact ref16_Right_no k r h w
/-- Two finds' blocks, one behind the other. -/
theorem two_new (w : World) (k : Int) (r : ByteArray) : ∃ W, (w.alloc (findO k r)).alloc (findO 0 ⟨#[]⟩) = W ∧ Blk W w.heap.size 23 #[.int .i64 k, .string r] ∧ Blk W (w.heap.size + 1) 23 #[.int .i64 0, .string ⟨#[]⟩] ∧ Below w.heap.size w W := by
  refine ⟨_, rfl, (Blk.new w _ _).alloc _, ?_, ((Below.refl _ w).alloc (Nat.le_refl _) _).alloc (by simp) _⟩
  have := Blk.new (w.alloc (findO k r)) 23 #[.int .i64 0, .string ⟨#[]⟩]
  simpa using this
theorem find_blk {u : World} {g : Nat} {k : Int} {r : ByteArray} (h : Blk u g 23 #[.int .i64 k, .string r]) : u.cell? ⟨g, 0, none⟩ = some (.int .i64 k) ∧ u.cell? ⟨g, 1, none⟩ = some (.string r) ∧ u.frozen? ⟨g, 0, none⟩ = false ∧ u.frozen? ⟨g, 1, none⟩ = false := ⟨h.cell 0, h.cell 1, h.frozen 0, h.frozen 1⟩
theorem below_find {n g : Nat} {w u : World} {v0 v1 : Value} (h : Below n w u) (hg : n ≤ g) : Below n w ((u.setCell ⟨g, 0, none⟩ v0).setCell ⟨g, 1, none⟩ v1) := (h.setCell (p := ⟨g, 0, none⟩) hg v0).setCell (p := ⟨g, 1, none⟩) hg v1
set_option maxHeartbeats 1000000 in
set_option maxRecDepth 100000 in
theorem ref16_Turn_no (k : Int) (r : ByteArray) (h : Seek.right k r.data.toList = false) (w : World) :
    Calls Try.prog 13 #[findV k r] w fun e w' => e = .returned (Seek.turnV k r) ∧ Below w.heap.size w w' := by
  have CR := Lib.hid (fun w => ref16_Right k r w)
  rw [h] at CR
  rw [Seek.turnV_no h]
  obtain ⟨W, hWe, b1, b2, hW⟩ := two_new w k r
  obtain ⟨a0, a1, _, _⟩ := find_blk b1
  have B2 := Lib.hid b2
  have HW := Lib.hid hW
  clear h b1 b2 hW
  go_enter Try.func13, Try.ntmps13
  go_wp2_with fail
  refine (CR.out _).mono ?_
  rintro e w1 ⟨rfl, hb1⟩
  have B1 := B2.out.below hb1 B2.out.lt
  obtain ⟨k0, k1, z0, z1⟩ := find_blk B1
  go_wp2
  exact bodyPost_ret (v := findV 0 ⟨#[]⟩) (results_cell_row rfl _ _ (w.heap.size + 1) 23 #[.int .i64 0, .string ⟨#[]⟩] (0, 0) _ rfl (show Blk _ _ _ _ by simpa using (B1.set_ 0 (.int .i64 0)).set_ 1 (.string ⟨#[]⟩)) Try.underlying23 rfl rfl) rfl
    ⟨rfl, below_find (HW.out.trans (hb1.mono HW.out.size)) (by omega)⟩
set_option maxHeartbeats 1000000 in
set_option maxRecDepth 100000 in
theorem ref16_Turn_f (r : ByteArray) (h : Seek.right 102 r.data.toList = true) (w : World) :
    Calls Try.prog 13 #[findV 102 r] w fun e w' => e = .returned (Seek.turnV 102 r) ∧ Below w.heap.size w w' := by
  have CR := Lib.hid (fun w => ref16_Right 102 r w)
  rw [h] at CR
  rw [Seek.turnV_yes h, show Seek.other 102 = 70 from rfl]
  obtain ⟨W, hWe, b1, b2, hW⟩ := two_new w 102 r
  obtain ⟨a0, a1, _, _⟩ := find_blk b1
  have B1 := Lib.hid b1
  have B2 := Lib.hid b2
  have HW := Lib.hid hW
  clear h b1 b2 hW
  go_enter Try.func13, Try.ntmps13
  go_wp2_with fail
  refine (CR.out _).mono ?_
  rintro e w1 ⟨rfl, hb1⟩
  have D2 := B2.out.below hb1 B2.out.lt
  have D1 := B1.out.below hb1 B1.out.lt
  obtain ⟨a0, a1, y0, y1⟩ := find_blk D1
  obtain ⟨k0, k1, z0, z1⟩ := find_blk D2
  go_wp2
  have E2 := ((D2.far (p := ⟨w.heap.size, 0, none⟩) (by show w.heap.size + 1 ≠ w.heap.size; omega) (.int .i64 70)).set_ 0 (.int .i64 70)).set_ 1 (.string r)
  exact bodyPost_ret (v := findV 70 r) (results_cell_row rfl _ _ (w.heap.size + 1) 23 #[.int .i64 70, .string r] (0, 0) _ rfl (show Blk _ _ _ _ by simpa using E2) Try.underlying23 rfl rfl) rfl
    ⟨rfl, below_find ((HW.out.trans (hb1.mono HW.out.size)).setCell (p := ⟨w.heap.size, 0, none⟩) (Nat.le_refl _) _) (by omega)⟩
set_option maxHeartbeats 1000000 in
set_option maxRecDepth 100000 in
theorem ref16_Turn_bigF (r : ByteArray) (h : Seek.right 70 r.data.toList = true) (w : World) :
    Calls Try.prog 13 #[findV 70 r] w fun e w' => e = .returned (Seek.turnV 70 r) ∧ Below w.heap.size w w' := by
  have CR := Lib.hid (fun w => ref16_Right 70 r w)
  rw [h] at CR
  rw [Seek.turnV_yes h, show Seek.other 70 = 102 from rfl]
  obtain ⟨W, hWe, b1, b2, hW⟩ := two_new w 70 r
  obtain ⟨a0, a1, _, _⟩ := find_blk b1
  have B1 := Lib.hid b1
  have B2 := Lib.hid b2
  have HW := Lib.hid hW
  clear h b1 b2 hW
  go_enter Try.func13, Try.ntmps13
  go_wp2_with fail
  refine (CR.out _).mono ?_
  rintro e w1 ⟨rfl, hb1⟩
  have D2 := B2.out.below hb1 B2.out.lt
  have D1 := B1.out.below hb1 B1.out.lt
  obtain ⟨a0, a1, y0, y1⟩ := find_blk D1
  obtain ⟨k0, k1, z0, z1⟩ := find_blk D2
  go_wp2
  have E2 := ((D2.far (p := ⟨w.heap.size, 0, none⟩) (by show w.heap.size + 1 ≠ w.heap.size; omega) (.int .i64 102)).set_ 0 (.int .i64 102)).set_ 1 (.string r)
  exact bodyPost_ret (v := findV 102 r) (results_cell_row rfl _ _ (w.heap.size + 1) 23 #[.int .i64 102, .string r] (0, 0) _ rfl (show Blk _ _ _ _ by simpa using E2) Try.underlying23 rfl rfl) rfl
    ⟨rfl, below_find ((HW.out.trans (hb1.mono HW.out.size)).setCell (p := ⟨w.heap.size, 0, none⟩) (Nat.le_refl _) _) (by omega)⟩
set_option maxHeartbeats 1000000 in
set_option maxRecDepth 100000 in
theorem ref16_Turn_t (r : ByteArray) (h : Seek.right 116 r.data.toList = true) (w : World) :
    Calls Try.prog 13 #[findV 116 r] w fun e w' => e = .returned (Seek.turnV 116 r) ∧ Below w.heap.size w w' := by
  have CR := Lib.hid (fun w => ref16_Right 116 r w)
  rw [h] at CR
  rw [Seek.turnV_yes h, show Seek.other 116 = 84 from rfl]
  obtain ⟨W, hWe, b1, b2, hW⟩ := two_new w 116 r
  obtain ⟨a0, a1, _, _⟩ := find_blk b1
  have B1 := Lib.hid b1
  have B2 := Lib.hid b2
  have HW := Lib.hid hW
  clear h b1 b2 hW
  go_enter Try.func13, Try.ntmps13
  go_wp2_with fail
  refine (CR.out _).mono ?_
  rintro e w1 ⟨rfl, hb1⟩
  have D2 := B2.out.below hb1 B2.out.lt
  have D1 := B1.out.below hb1 B1.out.lt
  obtain ⟨a0, a1, y0, y1⟩ := find_blk D1
  obtain ⟨k0, k1, z0, z1⟩ := find_blk D2
  go_wp2
  have E2 := ((D2.far (p := ⟨w.heap.size, 0, none⟩) (by show w.heap.size + 1 ≠ w.heap.size; omega) (.int .i64 84)).set_ 0 (.int .i64 84)).set_ 1 (.string r)
  exact bodyPost_ret (v := findV 84 r) (results_cell_row rfl _ _ (w.heap.size + 1) 23 #[.int .i64 84, .string r] (0, 0) _ rfl (show Blk _ _ _ _ by simpa using E2) Try.underlying23 rfl rfl) rfl
    ⟨rfl, below_find ((HW.out.trans (hb1.mono HW.out.size)).setCell (p := ⟨w.heap.size, 0, none⟩) (Nat.le_refl _) _) (by omega)⟩
set_option maxHeartbeats 1000000 in
set_option maxRecDepth 100000 in
theorem ref16_Turn_bigT (r : ByteArray) (h : Seek.right 84 r.data.toList = true) (w : World) :
    Calls Try.prog 13 #[findV 84 r] w fun e w' => e = .returned (Seek.turnV 84 r) ∧ Below w.heap.size w w' := by
  have CR := Lib.hid (fun w => ref16_Right 84 r w)
  rw [h] at CR
  rw [Seek.turnV_yes h, show Seek.other 84 = 116 from rfl]
  obtain ⟨W, hWe, b1, b2, hW⟩ := two_new w 84 r
  obtain ⟨a0, a1, _, _⟩ := find_blk b1
  have B1 := Lib.hid b1
  have B2 := Lib.hid b2
  have HW := Lib.hid hW
  clear h b1 b2 hW
  go_enter Try.func13, Try.ntmps13
  go_wp2_with fail
  refine (CR.out _).mono ?_
  rintro e w1 ⟨rfl, hb1⟩
  have D2 := B2.out.below hb1 B2.out.lt
  have D1 := B1.out.below hb1 B1.out.lt
  obtain ⟨a0, a1, y0, y1⟩ := find_blk D1
  obtain ⟨k0, k1, z0, z1⟩ := find_blk D2
  go_wp2
  have E2 := ((D2.far (p := ⟨w.heap.size, 0, none⟩) (by show w.heap.size + 1 ≠ w.heap.size; omega) (.int .i64 116)).set_ 0 (.int .i64 116)).set_ 1 (.string r)
  exact bodyPost_ret (v := findV 116 r) (results_cell_row rfl _ _ (w.heap.size + 1) 23 #[.int .i64 116, .string r] (0, 0) _ rfl (show Blk _ _ _ _ by simpa using E2) Try.underlying23 rfl rfl) rfl
    ⟨rfl, below_find ((HW.out.trans (hb1.mono HW.out.size)).setCell (p := ⟨w.heap.size, 0, none⟩) (Nat.le_refl _) _) (by omega)⟩
theorem ref16_Turn (k : Int) (r : ByteArray) (w : World) :
    Calls Try.prog 13 #[findV k r] w fun e w' => e = .returned (Seek.turnV k r) ∧ Below w.heap.size w w' := by
  cases h : Seek.right k r.data.toList with
  | false => exact ref16_Turn_no k r h w
  | true =>
    rcases (Seek.right_iff.1 h).1 with rfl | rfl | rfl | rfl
    · exact ref16_Turn_f r h w
    · exact ref16_Turn_bigF r h w
    · exact ref16_Turn_t r h w
    · exact ref16_Turn_bigT r h w
end Go.Proofs.Ytkhihmkpmlokiaa
