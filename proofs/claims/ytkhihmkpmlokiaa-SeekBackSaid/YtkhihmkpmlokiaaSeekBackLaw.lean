/-
  'calamuslaw16.SeekBack' answers true for every text, place, find and count: what f leads to from such a rune F leads back from, as often; twice turned is the same.
-/
import Derived.Test.YtkhihmkpmlokiaaSeekGoesLaw
namespace Go.Proofs.Ytkhihmkpmlokiaa
open Go.RowKit
theorem below_drawn {n : Nat} {w u : World} (h : Below n w u) (j : Nat) : Below n w (u.drewN j) := ⟨h.os, h.tape, h.output, h.size, h.block⟩
set_option maxHeartbeats 1000000 in
set_option maxRecDepth 100000 in
theorem seekBack_wide (s : ByteArray) (p k : Int) (r : ByteArray) (n : Int) (hs : 300 < s.size) (w : World) (hm : MaxAt w) :
    Calls Try.prog 6 #[.string s, .int .i64 p, findV k r, .int .i64 n] w fun e w' => e = .returned (.bool true) ∧ Below w.heap.size w w' := by
  have h0 := find_new w k r
  have HM : Hid (∀ u, Below (w.alloc (findO k r)).heap.size (w.alloc (findO k r)) u → MaxAt u) := fun u h => hm.below (h0.trans (h.mono h0.size))
  have CELL : Hid (∀ u, Below (w.alloc (findO k r)).heap.size (w.alloc (findO k r)) u → u.cell? ⟨w.heap.size, 0, none⟩ = some (.int .i64 k) ∧ u.cell? ⟨w.heap.size, 1, none⟩ = some (.string r)) := fun u h => find_after h
  obtain ⟨c0, c1⟩ := CELL.out _ (Below.refl _ _)
  have hX := Below.refl (w.alloc (findO k r)).heap.size (w.alloc (findO k r))
  have g0 : decide ((300 : Int) < (s.size : Int)) = true := by simp; omega
  clear hm
  go_enter Try.func6, Try.ntmps6
  go_wp2_with fail
  refine (seek_lives _ (HM.out _ hX)).mono ?_
  rintro e w1 ⟨rfl, hb1⟩
  replace hX := below_onr hX hb1
  obtain ⟨c0, c1⟩ := CELL.out _ hX
  clear hb1
  go_wp2
  go_ret
  exact ⟨rfl, h0.trans (hX.mono h0.size)⟩
set_option maxHeartbeats 1000000 in
set_option maxRecDepth 100000 in
theorem seekBack_no (s : ByteArray) (p k : Int) (r : ByteArray) (n : Int) (hs : ¬ 300 < s.size) (hr : r.size ≤ 140737488351232) (w : World) (hm : MaxAt w) (h : Seek.right k r.data.toList = false) :
    Calls Try.prog 6 #[.string s, .int .i64 p, findV k r, .int .i64 n] w fun e w' => e = .returned (.bool true) ∧ Below w.heap.size w w' := by
  have h0 := find_new w k r
  have HM : Hid (∀ u, Below (w.alloc (findO k r)).heap.size (w.alloc (findO k r)) u → MaxAt u) := fun u h => hm.below (h0.trans (h.mono h0.size))
  have CELL : Hid (∀ u, Below (w.alloc (findO k r)).heap.size (w.alloc (findO k r)) u → u.cell? ⟨w.heap.size, 0, none⟩ = some (.int .i64 k) ∧ u.cell? ⟨w.heap.size, 1, none⟩ = some (.string r)) := fun u h => find_after h
  obtain ⟨c0, c1⟩ := CELL.out _ (Below.refl _ _)
  have hX := Below.refl (w.alloc (findO k r)).heap.size (w.alloc (findO k r))
  have g0 : decide ((300 : Int) < (s.size : Int)) = false := by simp; omega
  have CR := fun w => seek_Right k r (by omega) w
  simp only [h] at CR
  have CR := Lib.hid CR
  clear hs hm hr h
  go_enter Try.func6, Try.ntmps6
  go_wp2_with fail
  refine (CR.out _).mono ?_
  rintro e w1 ⟨rfl, hb1⟩
  replace hX := below_onr hX hb1
  obtain ⟨c0, c1⟩ := CELL.out _ hX
  clear hb1
  go_wp2_with fail
  refine (seek_lives _ (HM.out _ hX)).mono ?_
  rintro e w1 ⟨rfl, hb1⟩
  replace hX := below_onr hX hb1
  obtain ⟨c0, c1⟩ := CELL.out _ hX
  clear hb1
  go_wp2
  go_ret
  exact ⟨rfl, h0.trans (hX.mono h0.size)⟩
set_option maxHeartbeats 1000000 in
set_option maxRecDepth 100000 in
theorem seekBack_f_rune (s : ByteArray) (p : Int) (r : ByteArray) (n : Int) (hs : ¬ 300 < s.size) (hr : r.size ≤ 140737488351232) (w : World) (hm : MaxAt w) (hR : Seek.right 102 r.data.toList = true) (hu : Utf.rune s.data.toList p ≠ r.data.toList) :
    Calls Try.prog 6 #[.string s, .int .i64 p, findV 102 r, .int .i64 n] w fun e w' => e = .returned (.bool true) ∧ Below w.heap.size w w' := by
  have h0 := find_new w 102 r
  have HM : Hid (∀ u, Below (w.alloc (findO 102 r)).heap.size (w.alloc (findO 102 r)) u → MaxAt u) := fun u h => hm.below (h0.trans (h.mono h0.size))
  have CELL : Hid (∀ u, Below (w.alloc (findO 102 r)).heap.size (w.alloc (findO 102 r)) u → u.cell? ⟨w.heap.size, 0, none⟩ = some (.int .i64 102) ∧ u.cell? ⟨w.heap.size, 1, none⟩ = some (.string r)) := fun u h => find_after h
  obtain ⟨c0, c1⟩ := CELL.out _ (Below.refl _ _)
  have hX := Below.refl (w.alloc (findO 102 r)).heap.size (w.alloc (findO 102 r))
  have g0 : decide ((300 : Int) < (s.size : Int)) = false := by simp; omega
  have hR2 : Seek.right 70 r.data.toList = true := by
    rw [Seek.right_iff] at hR ⊢
    exact ⟨by omega, hR.2⟩
  have CR := fun w => seek_Right 102 r (by omega) w
  have CR2 := fun w => seek_Right 70 r (by omega) w
  have CT := fun w => seek_Turn 102 r (by omega) w
  have CT2 := fun w => seek_Turn 70 r (by omega) w
  rw [hR] at CR
  rw [hR2] at CR2
  rw [Seek.turnV_yes hR, show Seek.other 102 = 70 from rfl] at CT
  rw [Seek.turnV_yes hR2, show Seek.other 70 = 102 from rfl] at CT2
  have CR := Lib.hid CR
  have CR2 := Lib.hid CR2
  have CT := Lib.hid CT
  have CT2 := Lib.hid CT2
  have CU := Lib.hid (fun w => utf_Rune s p (by omega) w)
  have E := (text_differs hu).1
  have E2 := (text_differs hu).2
  have hE : (r.toList == r.toList) = true := beq_self_eq_true _
  clear hs hr hm hR hR2 hu
  generalize bs (Utf.rune s.data.toList p) = RR at *
  go_enter Try.func6, Try.ntmps6
  go_wp2_with fail
  refine (CR.out _).mono ?_
  rintro e w1 ⟨rfl, hb1⟩
  replace hX := below_onr hX hb1
  obtain ⟨c0, c1⟩ := CELL.out _ hX
  clear hb1
  go_wp2_with fail
  refine (CT.out _).mono ?_
  rintro e w1 ⟨rfl, hb1⟩
  replace hX := below_onr hX hb1
  obtain ⟨c0, c1⟩ := CELL.out _ hX
  clear hb1
  go_wp2_with fail
  replace hX := hX.alloc hX.size (findO 70 r)
  obtain ⟨c0, c1⟩ := CELL.out _ hX
  have CELG : Hid (∀ u, Below (w1.alloc (findO 70 r)).heap.size (w1.alloc (findO 70 r)) u → u.cell? ⟨w1.heap.size, 0, none⟩ = some (.int .i64 70) ∧ u.cell? ⟨w1.heap.size, 1, none⟩ = some (.string r)) := fun u h => find_after h
  obtain ⟨d0, d1⟩ := CELG.out _ (Below.refl _ _)
  have hY := Below.refl (w1.alloc (findO 70 r)).heap.size (w1.alloc (findO 70 r))
  go_region_held3 (fun u => u.cell? ⟨w.heap.size, 0, none⟩ = some (.int .i64 102) ∧ u.cell? ⟨w.heap.size, 1, none⟩ = some (.string r) ∧ u.cell? ⟨w1.heap.size, 0, none⟩ = some (.int .i64 70) ∧ u.cell? ⟨w1.heap.size, 1, none⟩ = some (.string r)) (first | (with_reducible exact ⟨by assumption, by assumption, by assumption, by assumption⟩) | go_keep)
    (first
      | (go_at_call 12; with_reducible refine (CT2.out _).mono ?_; rintro e w6 ⟨rfl, hb6⟩; (first | (with_reducible replace hX := below_onr hX hb6; replace hY := below_onr hY hb6) | (with_reducible replace hX := below_onrd hX hb6; replace hY := below_onrd hY hb6)); obtain ⟨c0, c1⟩ := CELL.out _ hX; obtain ⟨d0, d1⟩ := CELG.out _ hY)
      | (go_at_call 10; with_reducible refine (CR2.out _).mono ?_; rintro e w6 ⟨rfl, hb6⟩; (first | (with_reducible replace hX := below_onr hX hb6; replace hY := below_onr hY hb6) | (with_reducible replace hX := below_onrd hX hb6; replace hY := below_onrd hY hb6)); obtain ⟨c0, c1⟩ := CELL.out _ hX; obtain ⟨d0, d1⟩ := CELG.out _ hY))
  clear d0 d1 hY
  go_wp2_with fail
  first
  | (go_region_with (first
        | (go_at_call 18; with_reducible refine (CU.out _).mono ?_; rintro e w6 ⟨rfl, hb6⟩; (first | (with_reducible replace hX := below_onr hX hb6) | (with_reducible replace hX := below_onrd hX hb6)); obtain ⟨c0, c1⟩ := CELL.out _ hX)))
  | fail
  all_goals
    go_wp2_with fail
    refine (seek_lives _ (HM.out _ hX)).mono ?_
    rintro e w1 ⟨rfl, hb1⟩
    replace hX := below_onr hX hb1
    obtain ⟨c0, c1⟩ := CELL.out _ hX
    clear hb1
    go_wp2
    go_ret
    exact ⟨rfl, h0.trans (hX.mono h0.size)⟩
set_option maxHeartbeats 1000000 in
set_option maxRecDepth 100000 in
theorem seekBack_f_none (s : ByteArray) (p : Int) (r : ByteArray) (n : Int) (hs : ¬ 300 < s.size) (hr : r.size ≤ 140737488351232) (hn : n ≤ 9223372036854775807) (w : World) (hm : MaxAt w) (hR : Seek.right 102 r.data.toList = true) (hu : Utf.rune s.data.toList p = r.data.toList) (hV : Seek.goV s.data.toList p 102 r.data.toList n < 0) :
    Calls Try.prog 6 #[.string s, .int .i64 p, findV 102 r, .int .i64 n] w fun e w' => e = .returned (.bool true) ∧ Below w.heap.size w w' := by
  have h0 := find_new w 102 r
  have HM : Hid (∀ u, Below (w.alloc (findO 102 r)).heap.size (w.alloc (findO 102 r)) u → MaxAt u) := fun u h => hm.below (h0.trans (h.mono h0.size))
  have CELL : Hid (∀ u, Below (w.alloc (findO 102 r)).heap.size (w.alloc (findO 102 r)) u → u.cell? ⟨w.heap.size, 0, none⟩ = some (.int .i64 102) ∧ u.cell? ⟨w.heap.size, 1, none⟩ = some (.string r)) := fun u h => find_after h
  obtain ⟨c0, c1⟩ := CELL.out _ (Below.refl _ _)
  have hX := Below.refl (w.alloc (findO 102 r)).heap.size (w.alloc (findO 102 r))
  have g0 : decide ((300 : Int) < (s.size : Int)) = false := by simp; omega
  have hR2 : Seek.right 70 r.data.toList = true := by
    rw [Seek.right_iff] at hR ⊢
    exact ⟨by omega, hR.2⟩
  have CR := fun w => seek_Right 102 r (by omega) w
  have CR2 := fun w => seek_Right 70 r (by omega) w
  have CT := fun w => seek_Turn 102 r (by omega) w
  have CT2 := fun w => seek_Turn 70 r (by omega) w
  rw [hR] at CR
  rw [hR2] at CR2
  rw [Seek.turnV_yes hR, show Seek.other 102 = 70 from rfl] at CT
  rw [Seek.turnV_yes hR2, show Seek.other 70 = 102 from rfl] at CT2
  have CR := Lib.hid CR
  have CR2 := Lib.hid CR2
  have CT := Lib.hid CT
  have CT2 := Lib.hid CT2
  have CU := Lib.hid (fun w => utf_Rune s p (by omega) w)
  have E := (text_alike hu).1
  have E2 := (text_alike hu).2
  have A := fun (w : World) (hm : MaxAt w) => seek_Go s p 102 r n (by omega) (by omega) hn w hm
  simp only [Seek.res_no hV] at A
  have A := Lib.hid A
  have hE : (r.toList == r.toList) = true := beq_self_eq_true _
  clear hs hr hm hR hR2 hu hn hV
  generalize bs (Utf.rune s.data.toList p) = RR at *
  go_enter Try.func6, Try.ntmps6
  go_wp2_with fail
  refine (CR.out _).mono ?_
  rintro e w1 ⟨rfl, hb1⟩
  replace hX := below_onr hX hb1
  obtain ⟨c0, c1⟩ := CELL.out _ hX
  clear hb1
  go_wp2_with fail
  refine (CT.out _).mono ?_
  rintro e w1 ⟨rfl, hb1⟩
  replace hX := below_onr hX hb1
  obtain ⟨c0, c1⟩ := CELL.out _ hX
  clear hb1
  go_wp2_with fail
  replace hX := hX.alloc hX.size (findO 70 r)
  obtain ⟨c0, c1⟩ := CELL.out _ hX
  have CELG : Hid (∀ u, Below (w1.alloc (findO 70 r)).heap.size (w1.alloc (findO 70 r)) u → u.cell? ⟨w1.heap.size, 0, none⟩ = some (.int .i64 70) ∧ u.cell? ⟨w1.heap.size, 1, none⟩ = some (.string r)) := fun u h => find_after h
  obtain ⟨d0, d1⟩ := CELG.out _ (Below.refl _ _)
  have hY := Below.refl (w1.alloc (findO 70 r)).heap.size (w1.alloc (findO 70 r))
  go_region_held3 (fun u => u.cell? ⟨w.heap.size, 0, none⟩ = some (.int .i64 102) ∧ u.cell? ⟨w.heap.size, 1, none⟩ = some (.string r) ∧ u.cell? ⟨w1.heap.size, 0, none⟩ = some (.int .i64 70) ∧ u.cell? ⟨w1.heap.size, 1, none⟩ = some (.string r)) (first | (with_reducible exact ⟨by assumption, by assumption, by assumption, by assumption⟩) | go_keep)
    (first
      | (go_at_call 12; with_reducible refine (CT2.out _).mono ?_; rintro e w6 ⟨rfl, hb6⟩; (first | (with_reducible replace hX := below_onr hX hb6; replace hY := below_onr hY hb6) | (with_reducible replace hX := below_onrd hX hb6; replace hY := below_onrd hY hb6)); obtain ⟨c0, c1⟩ := CELL.out _ hX; obtain ⟨d0, d1⟩ := CELG.out _ hY)
      | (go_at_call 10; with_reducible refine (CR2.out _).mono ?_; rintro e w6 ⟨rfl, hb6⟩; (first | (with_reducible replace hX := below_onr hX hb6; replace hY := below_onr hY hb6) | (with_reducible replace hX := below_onrd hX hb6; replace hY := below_onrd hY hb6)); obtain ⟨c0, c1⟩ := CELL.out _ hX; obtain ⟨d0, d1⟩ := CELG.out _ hY))
  clear d0 d1 hY
  go_wp2_with fail
  first
  | (go_region_with (first
        | (go_at_call 18; with_reducible refine (CU.out _).mono ?_; rintro e w6 ⟨rfl, hb6⟩; (first | (with_reducible replace hX := below_onr hX hb6) | (with_reducible replace hX := below_onrd hX hb6)); obtain ⟨c0, c1⟩ := CELL.out _ hX)))
  | fail
  all_goals
    go_wp2_with fail
    refine (A.out _ (HM.out _ hX)).mono ?_
    rintro e w1 ⟨rfl, hb1⟩
    replace hX := below_onr hX hb1
    obtain ⟨c0, c1⟩ := CELL.out _ hX
    clear hb1
    go_wp2_with fail
    refine (seek_lives _ (HM.out _ hX)).mono ?_
    rintro e w1 ⟨rfl, hb1⟩
    replace hX := below_onr hX hb1
    obtain ⟨c0, c1⟩ := CELL.out _ hX
    clear hb1
    go_wp2
    go_ret
    exact ⟨rfl, h0.trans (hX.mono h0.size)⟩
set_option maxHeartbeats 1000000 in
set_option maxRecDepth 100000 in
theorem seekBack_f_found (s : ByteArray) (p : Int) (r : ByteArray) (n : Int) (hs : ¬ 300 < s.size) (hr : r.size ≤ 140737488351232) (hn : n ≤ 9223372036854775807) (w : World) (hm : MaxAt w) (hR : Seek.right 102 r.data.toList = true) (hu : Utf.rune s.data.toList p = r.data.toList) (hP : Utf.place s.data.toList p = true) (hV : 0 ≤ Seek.goV s.data.toList p 102 r.data.toList n) :
    Calls Try.prog 6 #[.string s, .int .i64 p, findV 102 r, .int .i64 n] w fun e w' => e = .returned (.bool true) ∧ Below w.heap.size w w' := by
  have h0 := find_new w 102 r
  have HM : Hid (∀ u, Below (w.alloc (findO 102 r)).heap.size (w.alloc (findO 102 r)) u → MaxAt u) := fun u h => hm.below (h0.trans (h.mono h0.size))
  have CELL : Hid (∀ u, Below (w.alloc (findO 102 r)).heap.size (w.alloc (findO 102 r)) u → u.cell? ⟨w.heap.size, 0, none⟩ = some (.int .i64 102) ∧ u.cell? ⟨w.heap.size, 1, none⟩ = some (.string r)) := fun u h => find_after h
  obtain ⟨c0, c1⟩ := CELL.out _ (Below.refl _ _)
  have hX := Below.refl (w.alloc (findO 102 r)).heap.size (w.alloc (findO 102 r))
  have g0 : decide ((300 : Int) < (s.size : Int)) = false := by simp; omega
  have hR2 : Seek.right 70 r.data.toList = true := by
    rw [Seek.right_iff] at hR ⊢
    exact ⟨by omega, hR.2⟩
  have CR := fun w => seek_Right 102 r (by omega) w
  have CR2 := fun w => seek_Right 70 r (by omega) w
  have CT := fun w => seek_Turn 102 r (by omega) w
  have CT2 := fun w => seek_Turn 70 r (by omega) w
  rw [hR] at CR
  rw [hR2] at CR2
  rw [Seek.turnV_yes hR, show Seek.other 102 = 70 from rfl] at CT
  rw [Seek.turnV_yes hR2, show Seek.other 70 = 102 from rfl] at CT2
  have CR := Lib.hid CR
  have CR2 := Lib.hid CR2
  have CT := Lib.hid CT
  have CT2 := Lib.hid CT2
  have CU := Lib.hid (fun w => utf_Rune s p (by omega) w)
  have E := (text_alike hu).1
  have E2 := (text_alike hu).2
  have A := fun (w : World) (hm : MaxAt w) => seek_Go s p 102 r n (by omega) (by omega) hn w hm
  simp only [Seek.res_at hV] at A
  have A := Lib.hid A
  have B := fun (w : World) (hm : MaxAt w) => seek_Go s (Seek.goV s.data.toList p 102 r.data.toList n) 70 r n (by omega) (by omega) hn w hm
  have hb := Seek.goV_back (n := n) hR (by omega) hP hu hV
  rw [show Seek.other 102 = 70 from rfl] at hb
  have hp0 : 0 ≤ p := by
    obtain ⟨m, rfl, _⟩ := Line.place_nat hP
    omega
  rw [hb, Seek.res_at hp0] at B
  have B := Lib.hid B
  have hE : (r.toList == r.toList) = true := beq_self_eq_true _
  clear hs hr hm hR hR2 hu hn hb hP hp0 hV
  generalize Seek.goV s.data.toList p 102 r.data.toList n = Q at *
  generalize bs (Utf.rune s.data.toList p) = RR at *
  go_enter Try.func6, Try.ntmps6
  go_wp2_with fail
  refine (CR.out _).mono ?_
  rintro e w1 ⟨rfl, hb1⟩
  replace hX := below_onr hX hb1
  obtain ⟨c0, c1⟩ := CELL.out _ hX
  clear hb1
  go_wp2_with fail
  refine (CT.out _).mono ?_
  rintro e w1 ⟨rfl, hb1⟩
  replace hX := below_onr hX hb1
  obtain ⟨c0, c1⟩ := CELL.out _ hX
  clear hb1
  go_wp2_with fail
  replace hX := hX.alloc hX.size (findO 70 r)
  obtain ⟨c0, c1⟩ := CELL.out _ hX
  have CELG : Hid (∀ u, Below (w1.alloc (findO 70 r)).heap.size (w1.alloc (findO 70 r)) u → u.cell? ⟨w1.heap.size, 0, none⟩ = some (.int .i64 70) ∧ u.cell? ⟨w1.heap.size, 1, none⟩ = some (.string r)) := fun u h => find_after h
  obtain ⟨d0, d1⟩ := CELG.out _ (Below.refl _ _)
  have hY := Below.refl (w1.alloc (findO 70 r)).heap.size (w1.alloc (findO 70 r))
  go_region_held3 (fun u => u.cell? ⟨w.heap.size, 0, none⟩ = some (.int .i64 102) ∧ u.cell? ⟨w.heap.size, 1, none⟩ = some (.string r) ∧ u.cell? ⟨w1.heap.size, 0, none⟩ = some (.int .i64 70) ∧ u.cell? ⟨w1.heap.size, 1, none⟩ = some (.string r)) (first | (with_reducible exact ⟨by assumption, by assumption, by assumption, by assumption⟩) | go_keep)
    (first
      | (go_at_call 12; with_reducible refine (CT2.out _).mono ?_; rintro e w6 ⟨rfl, hb6⟩; (first | (with_reducible replace hX := below_onr hX hb6; replace hY := below_onr hY hb6) | (with_reducible replace hX := below_onrd hX hb6; replace hY := below_onrd hY hb6)); obtain ⟨c0, c1⟩ := CELL.out _ hX; obtain ⟨d0, d1⟩ := CELG.out _ hY)
      | (go_at_call 10; with_reducible refine (CR2.out _).mono ?_; rintro e w6 ⟨rfl, hb6⟩; (first | (with_reducible replace hX := below_onr hX hb6; replace hY := below_onr hY hb6) | (with_reducible replace hX := below_onrd hX hb6; replace hY := below_onrd hY hb6)); obtain ⟨c0, c1⟩ := CELL.out _ hX; obtain ⟨d0, d1⟩ := CELG.out _ hY))
  clear d0 d1 hY
  go_wp2_with fail
  first
  | (go_region_with (first
        | (go_at_call 18; with_reducible refine (CU.out _).mono ?_; rintro e w6 ⟨rfl, hb6⟩; (first | (with_reducible replace hX := below_onr hX hb6) | (with_reducible replace hX := below_onrd hX hb6)); obtain ⟨c0, c1⟩ := CELL.out _ hX)))
  | fail
  all_goals
    go_wp2_with fail
    refine (A.out _ (HM.out _ hX)).mono ?_
    rintro e w1 ⟨rfl, hb1⟩
    replace hX := below_onr hX hb1
    obtain ⟨c0, c1⟩ := CELL.out _ hX
    clear hb1
    go_wp2_with fail
    refine (CT.out _).mono ?_
    rintro e w1 ⟨rfl, hb1⟩
    replace hX := below_onr hX hb1
    obtain ⟨c0, c1⟩ := CELL.out _ hX
    clear hb1
    go_wp2_with fail
    refine (B.out _ (HM.out _ hX)).mono ?_
    rintro e w1 ⟨rfl, hb1⟩
    replace hX := below_onr hX hb1
    obtain ⟨c0, c1⟩ := CELL.out _ hX
    clear hb1
    go_wp2_with fail
    refine (seek_lives _ (HM.out _ hX)).mono ?_
    rintro e w1 ⟨rfl, hb1⟩
    replace hX := below_onr hX hb1
    obtain ⟨c0, c1⟩ := CELL.out _ hX
    clear hb1
    go_wp2
    go_ret
    exact ⟨rfl, h0.trans (hX.mono h0.size)⟩
set_option maxHeartbeats 1000000 in
set_option maxRecDepth 100000 in
theorem seekBack_bigF_rune (s : ByteArray) (p : Int) (r : ByteArray) (n : Int) (hs : ¬ 300 < s.size) (hr : r.size ≤ 140737488351232) (w : World) (hm : MaxAt w) (hR : Seek.right 70 r.data.toList = true) (hu : Utf.rune s.data.toList p ≠ r.data.toList) :
    Calls Try.prog 6 #[.string s, .int .i64 p, findV 70 r, .int .i64 n] w fun e w' => e = .returned (.bool true) ∧ Below w.heap.size w w' := by
  have h0 := find_new w 70 r
  have HM : Hid (∀ u, Below (w.alloc (findO 70 r)).heap.size (w.alloc (findO 70 r)) u → MaxAt u) := fun u h => hm.below (h0.trans (h.mono h0.size))
  have CELL : Hid (∀ u, Below (w.alloc (findO 70 r)).heap.size (w.alloc (findO 70 r)) u → u.cell? ⟨w.heap.size, 0, none⟩ = some (.int .i64 70) ∧ u.cell? ⟨w.heap.size, 1, none⟩ = some (.string r)) := fun u h => find_after h
  obtain ⟨c0, c1⟩ := CELL.out _ (Below.refl _ _)
  have hX := Below.refl (w.alloc (findO 70 r)).heap.size (w.alloc (findO 70 r))
  have g0 : decide ((300 : Int) < (s.size : Int)) = false := by simp; omega
  have hR2 : Seek.right 102 r.data.toList = true := by
    rw [Seek.right_iff] at hR ⊢
    exact ⟨by omega, hR.2⟩
  have CR := fun w => seek_Right 70 r (by omega) w
  have CR2 := fun w => seek_Right 102 r (by omega) w
  have CT := fun w => seek_Turn 70 r (by omega) w
  have CT2 := fun w => seek_Turn 102 r (by omega) w
  rw [hR] at CR
  rw [hR2] at CR2
  rw [Seek.turnV_yes hR, show Seek.other 70 = 102 from rfl] at CT
  rw [Seek.turnV_yes hR2, show Seek.other 102 = 70 from rfl] at CT2
  have CR := Lib.hid CR
  have CR2 := Lib.hid CR2
  have CT := Lib.hid CT
  have CT2 := Lib.hid CT2
  have CU := Lib.hid (fun w => utf_Rune s p (by omega) w)
  have E := (text_differs hu).1
  have E2 := (text_differs hu).2
  have hE : (r.toList == r.toList) = true := beq_self_eq_true _
  clear hs hr hm hR hR2 hu
  generalize bs (Utf.rune s.data.toList p) = RR at *
  go_enter Try.func6, Try.ntmps6
  go_wp2_with fail
  refine (CR.out _).mono ?_
  rintro e w1 ⟨rfl, hb1⟩
  replace hX := below_onr hX hb1
  obtain ⟨c0, c1⟩ := CELL.out _ hX
  clear hb1
  go_wp2_with fail
  refine (CT.out _).mono ?_
  rintro e w1 ⟨rfl, hb1⟩
  replace hX := below_onr hX hb1
  obtain ⟨c0, c1⟩ := CELL.out _ hX
  clear hb1
  go_wp2_with fail
  replace hX := hX.alloc hX.size (findO 102 r)
  obtain ⟨c0, c1⟩ := CELL.out _ hX
  have CELG : Hid (∀ u, Below (w1.alloc (findO 102 r)).heap.size (w1.alloc (findO 102 r)) u → u.cell? ⟨w1.heap.size, 0, none⟩ = some (.int .i64 102) ∧ u.cell? ⟨w1.heap.size, 1, none⟩ = some (.string r)) := fun u h => find_after h
  obtain ⟨d0, d1⟩ := CELG.out _ (Below.refl _ _)
  have hY := Below.refl (w1.alloc (findO 102 r)).heap.size (w1.alloc (findO 102 r))
  go_region_held3 (fun u => u.cell? ⟨w.heap.size, 0, none⟩ = some (.int .i64 70) ∧ u.cell? ⟨w.heap.size, 1, none⟩ = some (.string r) ∧ u.cell? ⟨w1.heap.size, 0, none⟩ = some (.int .i64 102) ∧ u.cell? ⟨w1.heap.size, 1, none⟩ = some (.string r)) (first | (with_reducible exact ⟨by assumption, by assumption, by assumption, by assumption⟩) | go_keep)
    (first
      | (go_at_call 12; with_reducible refine (CT2.out _).mono ?_; rintro e w6 ⟨rfl, hb6⟩; (first | (with_reducible replace hX := below_onr hX hb6; replace hY := below_onr hY hb6) | (with_reducible replace hX := below_onrd hX hb6; replace hY := below_onrd hY hb6)); obtain ⟨c0, c1⟩ := CELL.out _ hX; obtain ⟨d0, d1⟩ := CELG.out _ hY)
      | (go_at_call 10; with_reducible refine (CR2.out _).mono ?_; rintro e w6 ⟨rfl, hb6⟩; (first | (with_reducible replace hX := below_onr hX hb6; replace hY := below_onr hY hb6) | (with_reducible replace hX := below_onrd hX hb6; replace hY := below_onrd hY hb6)); obtain ⟨c0, c1⟩ := CELL.out _ hX; obtain ⟨d0, d1⟩ := CELG.out _ hY))
  clear d0 d1 hY
  go_wp2_with fail
  go_region_held3 (fun u => u.cell? ⟨w.heap.size, 0, none⟩ = some (.int .i64 70) ∧ u.cell? ⟨w.heap.size, 1, none⟩ = some (.string r)) (first | (with_reducible exact ⟨by assumption, by assumption⟩) | go_keep)
    (first
      | (go_at_call 18; with_reducible refine (CU.out _).mono ?_; rintro e w6 ⟨rfl, hb6⟩; (first | (with_reducible replace hX := below_onr hX hb6) | (with_reducible replace hX := below_onrd hX hb6)); obtain ⟨c0, c1⟩ := CELL.out _ hX))
  go_wp2_with fail
  refine (seek_lives _ (HM.out _ hX)).mono ?_
  rintro e w1 ⟨rfl, hb1⟩
  replace hX := below_onr hX hb1
  obtain ⟨c0, c1⟩ := CELL.out _ hX
  clear hb1
  go_wp2
  go_ret
  exact ⟨rfl, h0.trans (hX.mono h0.size)⟩
set_option maxHeartbeats 1000000 in
set_option maxRecDepth 100000 in
theorem seekBack_bigF_none (s : ByteArray) (p : Int) (r : ByteArray) (n : Int) (hs : ¬ 300 < s.size) (hr : r.size ≤ 140737488351232) (hn : n ≤ 9223372036854775807) (w : World) (hm : MaxAt w) (hR : Seek.right 70 r.data.toList = true) (hu : Utf.rune s.data.toList p = r.data.toList) (hV : Seek.goV s.data.toList p 70 r.data.toList n < 0) :
    Calls Try.prog 6 #[.string s, .int .i64 p, findV 70 r, .int .i64 n] w fun e w' => e = .returned (.bool true) ∧ Below w.heap.size w w' := by
  have h0 := find_new w 70 r
  have HM : Hid (∀ u, Below (w.alloc (findO 70 r)).heap.size (w.alloc (findO 70 r)) u → MaxAt u) := fun u h => hm.below (h0.trans (h.mono h0.size))
  have CELL : Hid (∀ u, Below (w.alloc (findO 70 r)).heap.size (w.alloc (findO 70 r)) u → u.cell? ⟨w.heap.size, 0, none⟩ = some (.int .i64 70) ∧ u.cell? ⟨w.heap.size, 1, none⟩ = some (.string r)) := fun u h => find_after h
  obtain ⟨c0, c1⟩ := CELL.out _ (Below.refl _ _)
  have hX := Below.refl (w.alloc (findO 70 r)).heap.size (w.alloc (findO 70 r))
  have g0 : decide ((300 : Int) < (s.size : Int)) = false := by simp; omega
  have hR2 : Seek.right 102 r.data.toList = true := by
    rw [Seek.right_iff] at hR ⊢
    exact ⟨by omega, hR.2⟩
  have CR := fun w => seek_Right 70 r (by omega) w
  have CR2 := fun w => seek_Right 102 r (by omega) w
  have CT := fun w => seek_Turn 70 r (by omega) w
  have CT2 := fun w => seek_Turn 102 r (by omega) w
  rw [hR] at CR
  rw [hR2] at CR2
  rw [Seek.turnV_yes hR, show Seek.other 70 = 102 from rfl] at CT
  rw [Seek.turnV_yes hR2, show Seek.other 102 = 70 from rfl] at CT2
  have CR := Lib.hid CR
  have CR2 := Lib.hid CR2
  have CT := Lib.hid CT
  have CT2 := Lib.hid CT2
  have CU := Lib.hid (fun w => utf_Rune s p (by omega) w)
  have E := (text_alike hu).1
  have E2 := (text_alike hu).2
  have A := fun (w : World) (hm : MaxAt w) => seek_Go s p 70 r n (by omega) (by omega) hn w hm
  simp only [Seek.res_no hV] at A
  have A := Lib.hid A
  have hE : (r.toList == r.toList) = true := beq_self_eq_true _
  clear hs hr hm hR hR2 hu hn hV
  generalize bs (Utf.rune s.data.toList p) = RR at *
  go_enter Try.func6, Try.ntmps6
  go_wp2_with fail
  refine (CR.out _).mono ?_
  rintro e w1 ⟨rfl, hb1⟩
  replace hX := below_onr hX hb1
  obtain ⟨c0, c1⟩ := CELL.out _ hX
  clear hb1
  go_wp2_with fail
  refine (CT.out _).mono ?_
  rintro e w1 ⟨rfl, hb1⟩
  replace hX := below_onr hX hb1
  obtain ⟨c0, c1⟩ := CELL.out _ hX
  clear hb1
  go_wp2_with fail
  replace hX := hX.alloc hX.size (findO 102 r)
  obtain ⟨c0, c1⟩ := CELL.out _ hX
  have CELG : Hid (∀ u, Below (w1.alloc (findO 102 r)).heap.size (w1.alloc (findO 102 r)) u → u.cell? ⟨w1.heap.size, 0, none⟩ = some (.int .i64 102) ∧ u.cell? ⟨w1.heap.size, 1, none⟩ = some (.string r)) := fun u h => find_after h
  obtain ⟨d0, d1⟩ := CELG.out _ (Below.refl _ _)
  have hY := Below.refl (w1.alloc (findO 102 r)).heap.size (w1.alloc (findO 102 r))
  go_region_held3 (fun u => u.cell? ⟨w.heap.size, 0, none⟩ = some (.int .i64 70) ∧ u.cell? ⟨w.heap.size, 1, none⟩ = some (.string r) ∧ u.cell? ⟨w1.heap.size, 0, none⟩ = some (.int .i64 102) ∧ u.cell? ⟨w1.heap.size, 1, none⟩ = some (.string r)) (first | (with_reducible exact ⟨by assumption, by assumption, by assumption, by assumption⟩) | go_keep)
    (first
      | (go_at_call 12; with_reducible refine (CT2.out _).mono ?_; rintro e w6 ⟨rfl, hb6⟩; (first | (with_reducible replace hX := below_onr hX hb6; replace hY := below_onr hY hb6) | (with_reducible replace hX := below_onrd hX hb6; replace hY := below_onrd hY hb6)); obtain ⟨c0, c1⟩ := CELL.out _ hX; obtain ⟨d0, d1⟩ := CELG.out _ hY)
      | (go_at_call 10; with_reducible refine (CR2.out _).mono ?_; rintro e w6 ⟨rfl, hb6⟩; (first | (with_reducible replace hX := below_onr hX hb6; replace hY := below_onr hY hb6) | (with_reducible replace hX := below_onrd hX hb6; replace hY := below_onrd hY hb6)); obtain ⟨c0, c1⟩ := CELL.out _ hX; obtain ⟨d0, d1⟩ := CELG.out _ hY))
  clear d0 d1 hY
  go_wp2_with fail
  go_region_held3 (fun u => u.cell? ⟨w.heap.size, 0, none⟩ = some (.int .i64 70) ∧ u.cell? ⟨w.heap.size, 1, none⟩ = some (.string r)) (first | (with_reducible exact ⟨by assumption, by assumption⟩) | go_keep)
    (first
      | (go_at_call 18; with_reducible refine (CU.out _).mono ?_; rintro e w6 ⟨rfl, hb6⟩; (first | (with_reducible replace hX := below_onr hX hb6) | (with_reducible replace hX := below_onrd hX hb6)); obtain ⟨c0, c1⟩ := CELL.out _ hX))
  go_wp2_with fail
  refine (A.out _ (HM.out _ hX)).mono ?_
  rintro e w1 ⟨rfl, hb1⟩
  replace hX := below_onr hX hb1
  obtain ⟨c0, c1⟩ := CELL.out _ hX
  clear hb1
  go_wp2_with fail
  refine (seek_lives _ (HM.out _ hX)).mono ?_
  rintro e w1 ⟨rfl, hb1⟩
  replace hX := below_onr hX hb1
  obtain ⟨c0, c1⟩ := CELL.out _ hX
  clear hb1
  go_wp2
  go_ret
  exact ⟨rfl, h0.trans (hX.mono h0.size)⟩
set_option maxHeartbeats 1000000 in
set_option maxRecDepth 100000 in
theorem seekBack_bigF_found (s : ByteArray) (p : Int) (r : ByteArray) (n : Int) (hs : ¬ 300 < s.size) (hr : r.size ≤ 140737488351232) (hn : n ≤ 9223372036854775807) (w : World) (hm : MaxAt w) (hR : Seek.right 70 r.data.toList = true) (hu : Utf.rune s.data.toList p = r.data.toList) (hP : Utf.place s.data.toList p = true) (hV : 0 ≤ Seek.goV s.data.toList p 70 r.data.toList n) :
    Calls Try.prog 6 #[.string s, .int .i64 p, findV 70 r, .int .i64 n] w fun e w' => e = .returned (.bool true) ∧ Below w.heap.size w w' := by
  have h0 := find_new w 70 r
  have HM : Hid (∀ u, Below (w.alloc (findO 70 r)).heap.size (w.alloc (findO 70 r)) u → MaxAt u) := fun u h => hm.below (h0.trans (h.mono h0.size))
  have CELL : Hid (∀ u, Below (w.alloc (findO 70 r)).heap.size (w.alloc (findO 70 r)) u → u.cell? ⟨w.heap.size, 0, none⟩ = some (.int .i64 70) ∧ u.cell? ⟨w.heap.size, 1, none⟩ = some (.string r)) := fun u h => find_after h
  obtain ⟨c0, c1⟩ := CELL.out _ (Below.refl _ _)
  have hX := Below.refl (w.alloc (findO 70 r)).heap.size (w.alloc (findO 70 r))
  have g0 : decide ((300 : Int) < (s.size : Int)) = false := by simp; omega
  have hR2 : Seek.right 102 r.data.toList = true := by
    rw [Seek.right_iff] at hR ⊢
    exact ⟨by omega, hR.2⟩
  have CR := fun w => seek_Right 70 r (by omega) w
  have CR2 := fun w => seek_Right 102 r (by omega) w
  have CT := fun w => seek_Turn 70 r (by omega) w
  have CT2 := fun w => seek_Turn 102 r (by omega) w
  rw [hR] at CR
  rw [hR2] at CR2
  rw [Seek.turnV_yes hR, show Seek.other 70 = 102 from rfl] at CT
  rw [Seek.turnV_yes hR2, show Seek.other 102 = 70 from rfl] at CT2
  have CR := Lib.hid CR
  have CR2 := Lib.hid CR2
  have CT := Lib.hid CT
  have CT2 := Lib.hid CT2
  have CU := Lib.hid (fun w => utf_Rune s p (by omega) w)
  have E := (text_alike hu).1
  have E2 := (text_alike hu).2
  have A := fun (w : World) (hm : MaxAt w) => seek_Go s p 70 r n (by omega) (by omega) hn w hm
  simp only [Seek.res_at hV] at A
  have A := Lib.hid A
  have B := fun (w : World) (hm : MaxAt w) => seek_Go s (Seek.goV s.data.toList p 70 r.data.toList n) 102 r n (by omega) (by omega) hn w hm
  have hb := Seek.goV_back (n := n) hR (by omega) hP hu hV
  rw [show Seek.other 70 = 102 from rfl] at hb
  have hp0 : 0 ≤ p := by
    obtain ⟨m, rfl, _⟩ := Line.place_nat hP
    omega
  rw [hb, Seek.res_at hp0] at B
  have B := Lib.hid B
  have hE : (r.toList == r.toList) = true := beq_self_eq_true _
  clear hs hr hm hR hR2 hu hn hb hP hp0 hV
  generalize Seek.goV s.data.toList p 70 r.data.toList n = Q at *
  generalize bs (Utf.rune s.data.toList p) = RR at *
  go_enter Try.func6, Try.ntmps6
  go_wp2_with fail
  refine (CR.out _).mono ?_
  rintro e w1 ⟨rfl, hb1⟩
  replace hX := below_onr hX hb1
  obtain ⟨c0, c1⟩ := CELL.out _ hX
  clear hb1
  go_wp2_with fail
  refine (CT.out _).mono ?_
  rintro e w1 ⟨rfl, hb1⟩
  replace hX := below_onr hX hb1
  obtain ⟨c0, c1⟩ := CELL.out _ hX
  clear hb1
  go_wp2_with fail
  replace hX := hX.alloc hX.size (findO 102 r)
  obtain ⟨c0, c1⟩ := CELL.out _ hX
  have CELG : Hid (∀ u, Below (w1.alloc (findO 102 r)).heap.size (w1.alloc (findO 102 r)) u → u.cell? ⟨w1.heap.size, 0, none⟩ = some (.int .i64 102) ∧ u.cell? ⟨w1.heap.size, 1, none⟩ = some (.string r)) := fun u h => find_after h
  obtain ⟨d0, d1⟩ := CELG.out _ (Below.refl _ _)
  have hY := Below.refl (w1.alloc (findO 102 r)).heap.size (w1.alloc (findO 102 r))
  go_region_held3 (fun u => u.cell? ⟨w.heap.size, 0, none⟩ = some (.int .i64 70) ∧ u.cell? ⟨w.heap.size, 1, none⟩ = some (.string r) ∧ u.cell? ⟨w1.heap.size, 0, none⟩ = some (.int .i64 102) ∧ u.cell? ⟨w1.heap.size, 1, none⟩ = some (.string r)) (first | (with_reducible exact ⟨by assumption, by assumption, by assumption, by assumption⟩) | go_keep)
    (first
      | (go_at_call 12; with_reducible refine (CT2.out _).mono ?_; rintro e w6 ⟨rfl, hb6⟩; (first | (with_reducible replace hX := below_onr hX hb6; replace hY := below_onr hY hb6) | (with_reducible replace hX := below_onrd hX hb6; replace hY := below_onrd hY hb6)); obtain ⟨c0, c1⟩ := CELL.out _ hX; obtain ⟨d0, d1⟩ := CELG.out _ hY)
      | (go_at_call 10; with_reducible refine (CR2.out _).mono ?_; rintro e w6 ⟨rfl, hb6⟩; (first | (with_reducible replace hX := below_onr hX hb6; replace hY := below_onr hY hb6) | (with_reducible replace hX := below_onrd hX hb6; replace hY := below_onrd hY hb6)); obtain ⟨c0, c1⟩ := CELL.out _ hX; obtain ⟨d0, d1⟩ := CELG.out _ hY))
  clear d0 d1 hY
  go_wp2_with fail
  go_region_held3 (fun u => u.cell? ⟨w.heap.size, 0, none⟩ = some (.int .i64 70) ∧ u.cell? ⟨w.heap.size, 1, none⟩ = some (.string r)) (first | (with_reducible exact ⟨by assumption, by assumption⟩) | go_keep)
    (first
      | (go_at_call 18; with_reducible refine (CU.out _).mono ?_; rintro e w6 ⟨rfl, hb6⟩; (first | (with_reducible replace hX := below_onr hX hb6) | (with_reducible replace hX := below_onrd hX hb6)); obtain ⟨c0, c1⟩ := CELL.out _ hX))
  go_wp2_with fail
  refine (A.out _ (HM.out _ hX)).mono ?_
  rintro e w1 ⟨rfl, hb1⟩
  replace hX := below_onr hX hb1
  obtain ⟨c0, c1⟩ := CELL.out _ hX
  clear hb1
  go_wp2_with fail
  refine (CT.out _).mono ?_
  rintro e w1 ⟨rfl, hb1⟩
  replace hX := below_onr hX hb1
  obtain ⟨c0, c1⟩ := CELL.out _ hX
  clear hb1
  go_wp2_with fail
  refine (B.out _ (HM.out _ hX)).mono ?_
  rintro e w1 ⟨rfl, hb1⟩
  replace hX := below_onr hX hb1
  obtain ⟨c0, c1⟩ := CELL.out _ hX
  clear hb1
  go_wp2_with fail
  refine (seek_lives _ (HM.out _ hX)).mono ?_
  rintro e w1 ⟨rfl, hb1⟩
  replace hX := below_onr hX hb1
  obtain ⟨c0, c1⟩ := CELL.out _ hX
  clear hb1
  go_wp2
  go_ret
  exact ⟨rfl, h0.trans (hX.mono h0.size)⟩
set_option maxHeartbeats 1000000 in
set_option maxRecDepth 100000 in
theorem seekBack_t_kind (s : ByteArray) (p : Int) (r : ByteArray) (n : Int) (hs : ¬ 300 < s.size) (hr : r.size ≤ 140737488351232) (w : World) (hm : MaxAt w) (hR : Seek.right 116 r.data.toList = true) :
    Calls Try.prog 6 #[.string s, .int .i64 p, findV 116 r, .int .i64 n] w fun e w' => e = .returned (.bool true) ∧ Below w.heap.size w w' := by
  have h0 := find_new w 116 r
  have HM : Hid (∀ u, Below (w.alloc (findO 116 r)).heap.size (w.alloc (findO 116 r)) u → MaxAt u) := fun u h => hm.below (h0.trans (h.mono h0.size))
  have CELL : Hid (∀ u, Below (w.alloc (findO 116 r)).heap.size (w.alloc (findO 116 r)) u → u.cell? ⟨w.heap.size, 0, none⟩ = some (.int .i64 116) ∧ u.cell? ⟨w.heap.size, 1, none⟩ = some (.string r)) := fun u h => find_after h
  obtain ⟨c0, c1⟩ := CELL.out _ (Below.refl _ _)
  have hX := Below.refl (w.alloc (findO 116 r)).heap.size (w.alloc (findO 116 r))
  have g0 : decide ((300 : Int) < (s.size : Int)) = false := by simp; omega
  have hR2 : Seek.right 84 r.data.toList = true := by
    rw [Seek.right_iff] at hR ⊢
    exact ⟨by omega, hR.2⟩
  have CR := fun w => seek_Right 116 r (by omega) w
  have CR2 := fun w => seek_Right 84 r (by omega) w
  have CT := fun w => seek_Turn 116 r (by omega) w
  have CT2 := fun w => seek_Turn 84 r (by omega) w
  rw [hR] at CR
  rw [hR2] at CR2
  rw [Seek.turnV_yes hR, show Seek.other 116 = 84 from rfl] at CT
  rw [Seek.turnV_yes hR2, show Seek.other 84 = 116 from rfl] at CT2
  have CR := Lib.hid CR
  have CR2 := Lib.hid CR2
  have CT := Lib.hid CT
  have CT2 := Lib.hid CT2
  have hE : (r.toList == r.toList) = true := beq_self_eq_true _
  clear hs hr hm hR hR2
  go_enter Try.func6, Try.ntmps6
  go_wp2_with fail
  refine (CR.out _).mono ?_
  rintro e w1 ⟨rfl, hb1⟩
  replace hX := below_onr hX hb1
  obtain ⟨c0, c1⟩ := CELL.out _ hX
  clear hb1
  go_wp2_with fail
  refine (CT.out _).mono ?_
  rintro e w1 ⟨rfl, hb1⟩
  replace hX := below_onr hX hb1
  obtain ⟨c0, c1⟩ := CELL.out _ hX
  clear hb1
  go_wp2_with fail
  replace hX := hX.alloc hX.size (findO 84 r)
  obtain ⟨c0, c1⟩ := CELL.out _ hX
  have CELG : Hid (∀ u, Below (w1.alloc (findO 84 r)).heap.size (w1.alloc (findO 84 r)) u → u.cell? ⟨w1.heap.size, 0, none⟩ = some (.int .i64 84) ∧ u.cell? ⟨w1.heap.size, 1, none⟩ = some (.string r)) := fun u h => find_after h
  obtain ⟨d0, d1⟩ := CELG.out _ (Below.refl _ _)
  have hY := Below.refl (w1.alloc (findO 84 r)).heap.size (w1.alloc (findO 84 r))
  go_region_held3 (fun u => u.cell? ⟨w.heap.size, 0, none⟩ = some (.int .i64 116) ∧ u.cell? ⟨w.heap.size, 1, none⟩ = some (.string r) ∧ u.cell? ⟨w1.heap.size, 0, none⟩ = some (.int .i64 84) ∧ u.cell? ⟨w1.heap.size, 1, none⟩ = some (.string r)) (first | (with_reducible exact ⟨by assumption, by assumption, by assumption, by assumption⟩) | go_keep)
    (first
      | (go_at_call 12; with_reducible refine (CT2.out _).mono ?_; rintro e w6 ⟨rfl, hb6⟩; (first | (with_reducible replace hX := below_onr hX hb6; replace hY := below_onr hY hb6) | (with_reducible replace hX := below_onrd hX hb6; replace hY := below_onrd hY hb6)); obtain ⟨c0, c1⟩ := CELL.out _ hX; obtain ⟨d0, d1⟩ := CELG.out _ hY)
      | (go_at_call 10; with_reducible refine (CR2.out _).mono ?_; rintro e w6 ⟨rfl, hb6⟩; (first | (with_reducible replace hX := below_onr hX hb6; replace hY := below_onr hY hb6) | (with_reducible replace hX := below_onrd hX hb6; replace hY := below_onrd hY hb6)); obtain ⟨c0, c1⟩ := CELL.out _ hX; obtain ⟨d0, d1⟩ := CELG.out _ hY))
  clear d0 d1 hY
  go_wp2_with fail
  go_big_quiet (fail)
  have hXq := fun j => below_drawn hX j
  go_wp2_with fail
  refine (seek_lives _ (HM.out _ (hXq _))).mono ?_
  rintro e w1 ⟨rfl, hb1⟩
  replace hX := below_onr (hXq _) hb1
  obtain ⟨c0, c1⟩ := CELL.out _ hX
  clear hb1
  go_wp2
  go_ret
  exact ⟨rfl, h0.trans (hX.mono h0.size)⟩
set_option maxHeartbeats 1000000 in
set_option maxRecDepth 100000 in
theorem seekBack_bigT_kind (s : ByteArray) (p : Int) (r : ByteArray) (n : Int) (hs : ¬ 300 < s.size) (hr : r.size ≤ 140737488351232) (w : World) (hm : MaxAt w) (hR : Seek.right 84 r.data.toList = true) :
    Calls Try.prog 6 #[.string s, .int .i64 p, findV 84 r, .int .i64 n] w fun e w' => e = .returned (.bool true) ∧ Below w.heap.size w w' := by
  have h0 := find_new w 84 r
  have HM : Hid (∀ u, Below (w.alloc (findO 84 r)).heap.size (w.alloc (findO 84 r)) u → MaxAt u) := fun u h => hm.below (h0.trans (h.mono h0.size))
  have CELL : Hid (∀ u, Below (w.alloc (findO 84 r)).heap.size (w.alloc (findO 84 r)) u → u.cell? ⟨w.heap.size, 0, none⟩ = some (.int .i64 84) ∧ u.cell? ⟨w.heap.size, 1, none⟩ = some (.string r)) := fun u h => find_after h
  obtain ⟨c0, c1⟩ := CELL.out _ (Below.refl _ _)
  have hX := Below.refl (w.alloc (findO 84 r)).heap.size (w.alloc (findO 84 r))
  have g0 : decide ((300 : Int) < (s.size : Int)) = false := by simp; omega
  have hR2 : Seek.right 116 r.data.toList = true := by
    rw [Seek.right_iff] at hR ⊢
    exact ⟨by omega, hR.2⟩
  have CR := fun w => seek_Right 84 r (by omega) w
  have CR2 := fun w => seek_Right 116 r (by omega) w
  have CT := fun w => seek_Turn 84 r (by omega) w
  have CT2 := fun w => seek_Turn 116 r (by omega) w
  rw [hR] at CR
  rw [hR2] at CR2
  rw [Seek.turnV_yes hR, show Seek.other 84 = 116 from rfl] at CT
  rw [Seek.turnV_yes hR2, show Seek.other 116 = 84 from rfl] at CT2
  have CR := Lib.hid CR
  have CR2 := Lib.hid CR2
  have CT := Lib.hid CT
  have CT2 := Lib.hid CT2
  have hE : (r.toList == r.toList) = true := beq_self_eq_true _
  clear hs hr hm hR hR2
  go_enter Try.func6, Try.ntmps6
  go_wp2_with fail
  refine (CR.out _).mono ?_
  rintro e w1 ⟨rfl, hb1⟩
  replace hX := below_onr hX hb1
  obtain ⟨c0, c1⟩ := CELL.out _ hX
  clear hb1
  go_wp2_with fail
  refine (CT.out _).mono ?_
  rintro e w1 ⟨rfl, hb1⟩
  replace hX := below_onr hX hb1
  obtain ⟨c0, c1⟩ := CELL.out _ hX
  clear hb1
  go_wp2_with fail
  replace hX := hX.alloc hX.size (findO 116 r)
  obtain ⟨c0, c1⟩ := CELL.out _ hX
  have CELG : Hid (∀ u, Below (w1.alloc (findO 116 r)).heap.size (w1.alloc (findO 116 r)) u → u.cell? ⟨w1.heap.size, 0, none⟩ = some (.int .i64 116) ∧ u.cell? ⟨w1.heap.size, 1, none⟩ = some (.string r)) := fun u h => find_after h
  obtain ⟨d0, d1⟩ := CELG.out _ (Below.refl _ _)
  have hY := Below.refl (w1.alloc (findO 116 r)).heap.size (w1.alloc (findO 116 r))
  go_region_held3 (fun u => u.cell? ⟨w.heap.size, 0, none⟩ = some (.int .i64 84) ∧ u.cell? ⟨w.heap.size, 1, none⟩ = some (.string r) ∧ u.cell? ⟨w1.heap.size, 0, none⟩ = some (.int .i64 116) ∧ u.cell? ⟨w1.heap.size, 1, none⟩ = some (.string r)) (first | (with_reducible exact ⟨by assumption, by assumption, by assumption, by assumption⟩) | go_keep)
    (first
      | (go_at_call 12; with_reducible refine (CT2.out _).mono ?_; rintro e w6 ⟨rfl, hb6⟩; (first | (with_reducible replace hX := below_onr hX hb6; replace hY := below_onr hY hb6) | (with_reducible replace hX := below_onrd hX hb6; replace hY := below_onrd hY hb6)); obtain ⟨c0, c1⟩ := CELL.out _ hX; obtain ⟨d0, d1⟩ := CELG.out _ hY)
      | (go_at_call 10; with_reducible refine (CR2.out _).mono ?_; rintro e w6 ⟨rfl, hb6⟩; (first | (with_reducible replace hX := below_onr hX hb6; replace hY := below_onr hY hb6) | (with_reducible replace hX := below_onrd hX hb6; replace hY := below_onrd hY hb6)); obtain ⟨c0, c1⟩ := CELL.out _ hX; obtain ⟨d0, d1⟩ := CELG.out _ hY))
  clear d0 d1 hY
  go_wp2_with fail
  go_big_quiet (fail)
  have hXq := fun j => below_drawn hX j
  go_wp2_with fail
  refine (seek_lives _ (HM.out _ (hXq _))).mono ?_
  rintro e w1 ⟨rfl, hb1⟩
  replace hX := below_onr (hXq _) hb1
  obtain ⟨c0, c1⟩ := CELL.out _ hX
  clear hb1
  go_wp2
  go_ret
  exact ⟨rfl, h0.trans (hX.mono h0.size)⟩
set_option maxHeartbeats 1000000 in
set_option maxRecDepth 100000 in
theorem seekBack_walk (s : ByteArray) (p k : Int) (r : ByteArray) (n : Int) (hr : r.size ≤ 140737488351232) (hn : n ≤ 9223372036854775807) (w : World) (hm : MaxAt w) :
    Calls Try.prog 6 #[.string s, .int .i64 p, findV k r, .int .i64 n] w fun e w' => e = .returned (.bool true) ∧ Below w.heap.size w w' := by
  by_cases hs : 300 < s.size
  · exact seekBack_wide s p k r n hs w hm
  cases hR : Seek.right k r.data.toList with
  | false => exact seekBack_no s p k r n hs hr w hm hR
  | true =>
    have two : ∀ {P : Prop}, (k = 102 ∨ k = 70 → P) → (k = 116 → P) → (k = 84 → P) → P := fun h1 h2 h3 => by
      rcases (Seek.right_iff.1 hR).1 with h | h | h | h
      · exact h1 (.inl h)
      · exact h1 (.inr h)
      · exact h2 h
      · exact h3 h
    refine two (fun hk => ?_) (fun hk => ?_) (fun hk => ?_)
    · by_cases hu : Utf.rune s.data.toList p = r.data.toList
      · have hP : Utf.place s.data.toList p = true := by
          cases hP : Utf.place s.data.toList p with
          | true => rfl
          | false =>
            rw [Utf.rune, Utf.next_no hP] at hu
            exact absurd hu.symm (Utf.one_ne (Seek.right_iff.1 hR).2.1)
        by_cases hV : Seek.goV s.data.toList p k r.data.toList n < 0
        · rcases hk with rfl | rfl
          · exact seekBack_f_none s p r n hs hr hn w hm hR hu hV
          · exact seekBack_bigF_none s p r n hs hr hn w hm hR hu hV
        · have hV' := Int.not_lt.1 hV
          rcases hk with rfl | rfl
          · exact seekBack_f_found s p r n hs hr hn w hm hR hu hP hV'
          · exact seekBack_bigF_found s p r n hs hr hn w hm hR hu hP hV'
      · rcases hk with rfl | rfl
        · exact seekBack_f_rune s p r n hs hr w hm hR hu
        · exact seekBack_bigF_rune s p r n hs hr w hm hR hu
    · subst hk
      exact seekBack_t_kind s p r n hs hr w hm hR
    · subst hk
      exact seekBack_bigT_kind s p r n hs hr w hm hR
section
open Go.ChangeShapes Go.WideShapes Go.ChangeAt
open Go.ChangeMaps (open_string)
set_option maxRecDepth 100000 in
theorem seekBack_lifted (os : Os) (started : os.Started) (H : Type) (enc : TypeId × Value → H) :
    ReturnsInHanded {} Try.checked os 6 .any (Rows.seekBackSpec.pre6 enc Try.prog Try.f6 Rows.seekBackRow.domain false) (Rows.seekBackSpec.post enc Try.prog Try.f6 false true false false) := by
  refine returnsInHanded_of_change_shaped (C := Try.checked) own_knob started (by kernel_rfl) Try.func6
    (ChangeSpec.witness6 (enc := enc) (C := Try.checked) false ⟨#[], #[.string .empty, .int .i64 0, .agg #[.int .i64 0, .string .empty], .int .i64 0], []⟩ 8 (by kernel_rfl) (by kernel_rfl) (by kernel_rfl) (by kernel_rfl)) ?_
  intro W base args ds gs before hval0 hW _ hsz0 hsh _
  have hsz : (DataW.weightsEach Try.prog (Try.f6.params.toList ++ Rows.seekBackSpec.plain.varTypes Try.prog) (ds ++ gs)).all (· ≤ reachBytes) = true := hsz0
  clear hsz0
  have hval : ∀ (j : Nat) t v, Try.f6.params[j]? = some t → args[j]? = some v → Value.okWide Try.prog W .any base t v := hval0
  have hW' := hW
  obtain ⟨p, q, hA0, hV, rfl, hfz, hnd⟩ := hW
  have hA : DataW.TrodAll enc Try.prog W 0 (fun _ => true) true Try.f6.params.toList args.toList ds p := hA0
  rw [Try.params6] at hA hval hsz
  obtain ⟨v0, vs0, d0, ds0, p0, q0, hargs, rfl, rfl, h0, r0⟩ := trodAll_cons hA
  obtain ⟨v1, vs1, d1, ds1, p1, q1, rfl, rfl, rfl, h1, r1⟩ := trodAll_cons r0
  obtain ⟨v2, vs2, d2, ds2, p2, q2, rfl, rfl, rfl, h2, r2⟩ := trodAll_cons r1
  obtain ⟨v3, vs3, d3, ds3, p3, q3, rfl, rfl, rfl, h3, r3⟩ := trodAll_cons r2
  obtain ⟨rfl, rfl, rfl⟩ := trodAll_nil r3
  obtain rfl : args = #[v0, v1, v2, v3] := by cases args; simp_all
  obtain ⟨rfl, rfl⟩ := trodVars_none hV
  obtain ⟨s0, rfl, rfl, rfl, hmax0⟩ := open_string Try.underlying9 (hval 0 9 v0 rfl rfl) h0
  have hs0 : s0.size ≤ 140737488351232 := by rw [← data_len]; exact sized_string hsz (j := 0) (t := 9) rfl rfl
  obtain ⟨n1, rfl, rfl, rfl, wn1⟩ := open_int Try.underlying3 (hval 1 3 v1 rfl rfl) h1
  obtain ⟨fk2, fr2, rfl, ⟨yc2, rfl⟩, wk2⟩ := open_find (hval 2 23 v2 rfl rfl) h2
  have hr2 : fr2.size ≤ 140737488351232 := by
    rw [← data_len]
    exact sized_find hsz (j := 2) rfl rfl
  obtain ⟨n3, rfl, rfl, rfl, wn3⟩ := open_int Try.underlying3 (hval 3 3 v3 rfl rfl) h3
  refine (seekBack_walk s0 n1 fk2 fr2 n3 hr2 (seek_i64 wn3) _ (Try.laysM143.s1_3 W hsh)).mono fun e W' ⟨he, hb⟩ => ?_
  subst he
  exact ⟨_, rfl, law_post rfl rfl (by rw [Try.params6]; decide +kernel) ⟨rfl, rfl, rfl⟩ hW' hb⟩
theorem seekBack_holds : Rows.SeekBackSaid :=
  OpenClaim.holds_of_wide 6 Try.f6 rfl rfl rfl rfl rfl rfl rfl ⟨rfl, rfl, rfl, rfl, rfl⟩ rfl rfl rfl rfl rfl (by kernel_rfl) Try.func6 (by kernel_rfl)
    (of_decide_eq_true (by kernel_rfl)) (by unfold Func.isWrapper; first | (rw [if_pos (by decide +kernel)]; kernel_rfl) | (rw [if_neg (by decide +kernel)]; exact ⟨rfl, rfl⟩))
    (fun os started H enc _ => seekBack_lifted os started H enc)
end
end Go.Proofs.Ytkhihmkpmlokiaa
