/-
  'calamuslaw16.SeekLeads' answers true for every text, place, find and count: what is found is such a rune, or beside one, in the same line; no such rune is between; more often is further.
-/
import Derived.Test.YtkhihmkpmlokiaaSeekGoesLaw
namespace Go.Proofs.Ytkhihmkpmlokiaa
open Go.RowKit
namespace Seek
theorem place_in {s : List UInt8} {p : Int} (h : Utf.place s p = true) : 0 ≤ p ∧ p ≤ s.length := by
  obtain ⟨n, rfl, hn⟩ := Line.place_nat h
  omega
theorem rune_in {s r : List UInt8} {q : Int} (hr : r ≠ []) (h : Utf.rune s q = r) : 0 ≤ q ∧ q ≤ s.length := by
  refine place_in (Classical.byContradiction fun hn => hr ?_)
  have hp : Utf.place s q = false := by
    cases hp : Utf.place s q with
    | false => rfl
    | true => exact absurd hp hn
  rw [← h, Utf.rune, Utf.next_no hp]
  rfl
end Seek
set_option maxHeartbeats 1000000 in
set_option maxRecDepth 100000 in
theorem seekLeads_wide (s : ByteArray) (p k : Int) (r : ByteArray) (n : Int) (hs : 300 < s.size) (w : World) (hm : MaxAt w) :
    Calls Try.prog 5 #[.string s, .int .i64 p, findV k r, .int .i64 n] w fun e w' => e = .returned (.bool true) ∧ Below w.heap.size w w' := by
  have h0 := find_new w k r
  have HM : Hid (∀ u, Below (w.alloc (findO k r)).heap.size (w.alloc (findO k r)) u → MaxAt u) := fun u h => hm.below (h0.trans (h.mono h0.size))
  have CELL : Hid (∀ u, Below (w.alloc (findO k r)).heap.size (w.alloc (findO k r)) u → u.cell? ⟨w.heap.size, 0, none⟩ = some (.int .i64 k) ∧ u.cell? ⟨w.heap.size, 1, none⟩ = some (.string r)) := fun u h => find_after h
  obtain ⟨c0, c1⟩ := CELL.out _ (Below.refl _ _)
  have hX := Below.refl (w.alloc (findO k r)).heap.size (w.alloc (findO k r))
  have g0 : decide ((300 : Int) < (s.size : Int)) = true := by simp; omega
  clear hm
  go_enter Try.func5, Try.ntmps5
  go_wp2_with fail
  refine (seek_lives _ (HM.out _ hX)).mono ?_
  rintro e w1 ⟨rfl, hb1⟩
  replace hX := below_onr hX hb1
  obtain ⟨c0, c1⟩ := CELL.out _ hX
  clear hb1
  go_wp2
  go_ret
  exact ⟨rfl, h0.trans (hX.mono h0.size)⟩
set_option maxHeartbeats 1000000 in
set_option maxRecDepth 100000 in
theorem seekLeads_no (s : ByteArray) (p k : Int) (r : ByteArray) (n : Int) (hs : ¬ 300 < s.size) (hr : r.size ≤ 140737488351232) (hn : n ≤ 9223372036854775807) (w : World) (hm : MaxAt w) (h : Seek.goV s.data.toList p k r.data.toList 1 < 0) :
    Calls Try.prog 5 #[.string s, .int .i64 p, findV k r, .int .i64 n] w fun e w' => e = .returned (.bool true) ∧ Below w.heap.size w w' := by
  have h0 := find_new w k r
  have HM : Hid (∀ u, Below (w.alloc (findO k r)).heap.size (w.alloc (findO k r)) u → MaxAt u) := fun u h => hm.below (h0.trans (h.mono h0.size))
  have CELL : Hid (∀ u, Below (w.alloc (findO k r)).heap.size (w.alloc (findO k r)) u → u.cell? ⟨w.heap.size, 0, none⟩ = some (.int .i64 k) ∧ u.cell? ⟨w.heap.size, 1, none⟩ = some (.string r)) := fun u h => find_after h
  obtain ⟨c0, c1⟩ := CELL.out _ (Below.refl _ _)
  have hX := Below.refl (w.alloc (findO k r)).heap.size (w.alloc (findO k r))
  have g0 : decide ((300 : Int) < (s.size : Int)) = false := by simp; omega
  have h2 := Seek.goV_first n h
  have A := fun (w : World) (hm : MaxAt w) => seek_Go s p k r 1 (by omega) (by omega) (by omega) w hm
  have B := fun (w : World) (hm : MaxAt w) => seek_Go s p k r n (by omega) (by omega) hn w hm
  simp only [Seek.res_no h] at A
  simp only [Seek.res_no h2] at B
  have A := Lib.hid A
  have B := Lib.hid B
  clear hn hs hm hr h h2
  go_enter Try.func5, Try.ntmps5
  go_wp2_with fail
  refine (A.out _ (HM.out _ hX)).mono ?_
  rintro e w1 ⟨rfl, hb1⟩
  replace hX := below_onr hX hb1
  obtain ⟨c0, c1⟩ := CELL.out _ hX
  clear hb1
  go_wp2_with fail
  refine (B.out _ (HM.out _ hX)).mono ?_
  rintro e w1 ⟨rfl, hb1⟩
  replace hX := below_onr hX hb1
  obtain ⟨c0, c1⟩ := CELL.out _ hX
  clear hb1
  go_wp2_with fail
  refine (seek_lives _ (HM.out _ hX)).mono ?_
  rintro e w1 ⟨rfl, hb1⟩
  replace hX := below_onr hX hb1
  obtain ⟨c0, c1⟩ := CELL.out _ hX
  clear hb1
  go_wp2
  go_ret
  exact ⟨rfl, h0.trans (hX.mono h0.size)⟩
set_option maxHeartbeats 1000000 in
set_option maxRecDepth 100000 in
theorem seekLeads_f_more (s : ByteArray) (p : Int) (r : ByteArray) (n : Int) (hs : ¬ 300 < s.size) (hr : r.size ≤ 140737488351232) (hn : n ≤ 9223372036854775807) (w : World) (hm : MaxAt w) (hR : Seek.right 102 r.data.toList = true) (hP : Utf.place s.data.toList p = true) (h1 : 0 ≤ Seek.goV s.data.toList p 102 r.data.toList 1) (hM : 0 ≤ Seek.goV s.data.toList p 102 r.data.toList n) :
    Calls Try.prog 5 #[.string s, .int .i64 p, findV 102 r, .int .i64 n] w fun e w' => e = .returned (.bool true) ∧ Below w.heap.size w w' := by
  have h0 := find_new w 102 r
  have HM : Hid (∀ u, Below (w.alloc (findO 102 r)).heap.size (w.alloc (findO 102 r)) u → MaxAt u) := fun u h => hm.below (h0.trans (h.mono h0.size))
  have CELL : Hid (∀ u, Below (w.alloc (findO 102 r)).heap.size (w.alloc (findO 102 r)) u → u.cell? ⟨w.heap.size, 0, none⟩ = some (.int .i64 102) ∧ u.cell? ⟨w.heap.size, 1, none⟩ = some (.string r)) := fun u h => find_after h
  obtain ⟨c0, c1⟩ := CELL.out _ (Below.refl _ _)
  have hX := Below.refl (w.alloc (findO 102 r)).heap.size (w.alloc (findO 102 r))
  have g0 : decide ((300 : Int) < (s.size : Int)) = false := by simp; omega
  have hl := data_len s
  have hq0 : ¬ Seek.nth (Seek.ons 102) (Seek.lh s.data.toList r.data.toList p) p 1 < 0 := fun h => by have := (Seek.goV_neg (n := 1) hR hP).2 h; omega
  obtain ⟨q, hq⟩ : ∃ q, Seek.nth (Seek.ons 102) (Seek.lh s.data.toList r.data.toList p) p 1 = q := ⟨_, rfl⟩
  rw [hq] at hq0
  obtain ⟨_, a2, a3, a4, a5, a6, a7, a8⟩ := Seek.goV_ok (n := 1) hR hP (show Seek.nth (Seek.ons 102) (Seek.lh s.data.toList r.data.toList p) p (Seek.times 1) = q from hq) (Int.not_lt.1 hq0)
  have BT := Lib.hid (fun (y : Int) => Seek.goV_between hR hP hq (Int.not_lt.1 hq0) y)
  have FAR := Seek.goV_far hR hP h1 hM
  have A := fun (w : World) (hm : MaxAt w) => seek_Go s p 102 r 1 (by omega) (by omega) (by omega) w hm
  have B := fun (w : World) (hm : MaxAt w) => seek_Go s p 102 r n (by omega) (by omega) hn w hm
  simp only [Seek.res_at h1] at A
  simp only [Seek.res_at hM] at B
  obtain ⟨Q, hQ⟩ : ∃ Q, Seek.goV s.data.toList p 102 r.data.toList 1 = Q := ⟨_, rfl⟩
  rw [hQ] at a2 a4 a5 a6 h1 FAR
  simp only [hQ] at A
  obtain ⟨R, hRR⟩ : ∃ R, Seek.goV s.data.toList p 102 r.data.toList n = R := ⟨_, rfl⟩
  rw [hRR] at FAR
  simp only [hRR] at B
  have gfar : decide (Q ≤ R) = true := by simpa using FAR.1 rfl
  have gfar2 : Q ≤ R := by simpa using gfar
  have CO := fun (x : Int) w => line_Of s x (by omega) w
  have CO1 := CO Q
  rw [a5] at CO1
  have CO1 := Lib.hid CO1
  have CO2 := Lib.hid (CO p)
  have CP := fun w => utf_Place s Q (by omega) w
  rw [a4] at CP
  have CP := Lib.hid CP
  have CU := fun (x : Int) w => utf_Rune s x (by omega) w
  have CU1 := CU q
  rw [a3, bs_data] at CU1
  have CU1 := Lib.hid CU1
  have CU := Lib.hid CU
  have hpb := Seek.place_in hP
  have hqb := Seek.rune_in (Utf.one_ne (Seek.right_iff.1 hR).2.1) a3
  rw [hl] at hpb hqb
  have a7 : p < q := a7 rfl
  have a6 : Q = q := a6
  subst a6
  have hmin : min Q p = p := by omega
  have hmax : max Q p = Q := by omega
  rw [hmin, hmax] at BT
  have hwl : IntKind.i64.wrap (p + 1) = p + 1 := seek_wrap (by omega) (by omega)
  have ha1 : decide (p < Q) = true := by simp; omega
  have ha2 : p < Q := by omega
  have hb1 : Hid (p < Q ∧ -1 ≤ p ∧ Q ≤ s.size) := ⟨by omega, by omega, by omega⟩
  have hsz := Lib.hid hs
  have hE : (r.toList == r.toList) = true := beq_self_eq_true _
  have A := Lib.hid A
  have B := Lib.hid B
  clear hs hr hn hm hR hP h1 hM hl hq hq0 a2 a3 a4 a5 a7 a8 hpb hqb hQ FAR hRR
  generalize Line.of_ s.data.toList p = ln at *
  go_enter Try.func5, Try.ntmps5
  go_wp2_with fail
  refine (A.out _ (HM.out _ hX)).mono ?_
  rintro e w1 ⟨rfl, hb1⟩
  replace hX := below_onr hX hb1
  obtain ⟨c0, c1⟩ := CELL.out _ hX
  clear hb1
  go_wp2_with fail
  refine (B.out _ (HM.out _ hX)).mono ?_
  rintro e w1 ⟨rfl, hb1⟩
  replace hX := below_onr hX hb1
  obtain ⟨c0, c1⟩ := CELL.out _ hX
  clear hb1
  go_wp2_with fail
  refine (CO1.out _).mono ?_
  rintro e w1 ⟨rfl, hb1⟩
  replace hX := below_onr hX hb1
  obtain ⟨c0, c1⟩ := CELL.out _ hX
  clear hb1
  go_wp2_with fail
  refine (CO2.out _).mono ?_
  rintro e w1 ⟨rfl, hb1⟩
  replace hX := below_onr hX hb1
  obtain ⟨c0, c1⟩ := CELL.out _ hX
  clear hb1
  go_wp2_with fail
  refine (CP.out _).mono ?_
  rintro e w1 ⟨rfl, rfl⟩
  go_wp2_with fail
  go_region_held3 (fun u => u.cell? ⟨w.heap.size, 0, none⟩ = some (.int .i64 102) ∧ u.cell? ⟨w.heap.size, 1, none⟩ = some (.string r)) (first | (with_reducible exact ⟨by assumption, by assumption⟩) | go_keep)
    (first
      | (go_at_call 18; with_reducible refine (CU1.out _).mono ?_; rintro e w6 ⟨rfl, hb6⟩; (first | (with_reducible replace hX := below_onr hX hb6) | (with_reducible replace hX := below_onrd hX hb6)); obtain ⟨c0, c1⟩ := CELL.out _ hX))
  go_wp2
  go_loopw [14] (fun iv wr => ∃ y : Int, iv = .int .i64 y ∧ Hid (p < y ∧ y ≤ Q) ∧ Below (w.alloc (findO 102 r)).heap.size (w.alloc (findO 102 r)) wr) (fun iv _ => (Q - intOf iv).toNat)
  case atStart => exact ⟨p + 1, rfl, ⟨by omega, by have := hb1.out; omega⟩, hX⟩
  case round =>
    clear hX c0 c1
    obtain ⟨y, rfl, hy, hX⟩ := hrel
    obtain ⟨c0, c1⟩ := CELL.out _ hX
    by_cases hlt : y < Q
    · have gy : decide (y < Q) = true := by simp [hlt]
      have hne := BT.out y hy.out.1 hlt
      have CUY := Lib.hid (CU.out y)
      have E := (text_differs hne).1
      have hwy : IntKind.i64.wrap (y + 1) = y + 1 := seek_wrap (by have := hb1.out; have := hy.out; omega) (by have := hb1.out; have := hy.out; have := hsz.out; omega)
      have hy2 : Hid (p < y + 1 ∧ y + 1 ≤ Q) := ⟨by have := hy.out; omega, by omega⟩
      have hlt := Lib.hid hlt
      clear hne hy
      generalize bs (Utf.rune s.data.toList y) = RR at *
      go_wp2_with fail
      go_region_held3 (fun u => u.cell? ⟨w.heap.size, 0, none⟩ = some (.int .i64 102) ∧ u.cell? ⟨w.heap.size, 1, none⟩ = some (.string r)) (first | (with_reducible exact ⟨by assumption, by assumption⟩) | go_keep)
        (first
          | (go_at_call 18; with_reducible refine (CUY.out _).mono ?_; rintro e w6 ⟨rfl, hb6⟩; (first | (with_reducible replace hX := below_onr hX hb6) | (with_reducible replace hX := below_onrd hX hb6)); obtain ⟨c0, c1⟩ := CELL.out _ hX))
      go_wp2
      go_roundw
      case rel => exact ⟨y + 1, by go_num, hy2, hX⟩
      case measure => have := hlt.out; simp [intOf]; omega
    · have gy : decide (y < Q) = false := by simp; omega
      clear hlt hy
      go_wp2_with fail
      refine (seek_lives _ (HM.out _ hX)).mono ?_
      rintro e w1 ⟨rfl, hb1⟩
      replace hX := below_onr hX hb1
      obtain ⟨c0, c1⟩ := CELL.out _ hX
      clear hb1
      go_wp2
      go_ret
      exact ⟨rfl, h0.trans (hX.mono h0.size)⟩
set_option maxHeartbeats 1000000 in
set_option maxRecDepth 100000 in
theorem seekLeads_f_less (s : ByteArray) (p : Int) (r : ByteArray) (n : Int) (hs : ¬ 300 < s.size) (hr : r.size ≤ 140737488351232) (hn : n ≤ 9223372036854775807) (w : World) (hm : MaxAt w) (hR : Seek.right 102 r.data.toList = true) (hP : Utf.place s.data.toList p = true) (h1 : 0 ≤ Seek.goV s.data.toList p 102 r.data.toList 1) (hM : Seek.goV s.data.toList p 102 r.data.toList n < 0) :
    Calls Try.prog 5 #[.string s, .int .i64 p, findV 102 r, .int .i64 n] w fun e w' => e = .returned (.bool true) ∧ Below w.heap.size w w' := by
  have h0 := find_new w 102 r
  have HM : Hid (∀ u, Below (w.alloc (findO 102 r)).heap.size (w.alloc (findO 102 r)) u → MaxAt u) := fun u h => hm.below (h0.trans (h.mono h0.size))
  have CELL : Hid (∀ u, Below (w.alloc (findO 102 r)).heap.size (w.alloc (findO 102 r)) u → u.cell? ⟨w.heap.size, 0, none⟩ = some (.int .i64 102) ∧ u.cell? ⟨w.heap.size, 1, none⟩ = some (.string r)) := fun u h => find_after h
  obtain ⟨c0, c1⟩ := CELL.out _ (Below.refl _ _)
  have hX := Below.refl (w.alloc (findO 102 r)).heap.size (w.alloc (findO 102 r))
  have g0 : decide ((300 : Int) < (s.size : Int)) = false := by simp; omega
  have hl := data_len s
  have hq0 : ¬ Seek.nth (Seek.ons 102) (Seek.lh s.data.toList r.data.toList p) p 1 < 0 := fun h => by have := (Seek.goV_neg (n := 1) hR hP).2 h; omega
  obtain ⟨q, hq⟩ : ∃ q, Seek.nth (Seek.ons 102) (Seek.lh s.data.toList r.data.toList p) p 1 = q := ⟨_, rfl⟩
  rw [hq] at hq0
  obtain ⟨_, a2, a3, a4, a5, a6, a7, a8⟩ := Seek.goV_ok (n := 1) hR hP (show Seek.nth (Seek.ons 102) (Seek.lh s.data.toList r.data.toList p) p (Seek.times 1) = q from hq) (Int.not_lt.1 hq0)
  have BT := Lib.hid (fun (y : Int) => Seek.goV_between hR hP hq (Int.not_lt.1 hq0) y)
  have A := fun (w : World) (hm : MaxAt w) => seek_Go s p 102 r 1 (by omega) (by omega) (by omega) w hm
  have B := fun (w : World) (hm : MaxAt w) => seek_Go s p 102 r n (by omega) (by omega) hn w hm
  simp only [Seek.res_at h1] at A
  simp only [Seek.res_no hM] at B
  obtain ⟨Q, hQ⟩ : ∃ Q, Seek.goV s.data.toList p 102 r.data.toList 1 = Q := ⟨_, rfl⟩
  rw [hQ] at a2 a4 a5 a6 h1
  simp only [hQ] at A
  have CO := fun (x : Int) w => line_Of s x (by omega) w
  have CO1 := CO Q
  rw [a5] at CO1
  have CO1 := Lib.hid CO1
  have CO2 := Lib.hid (CO p)
  have CP := fun w => utf_Place s Q (by omega) w
  rw [a4] at CP
  have CP := Lib.hid CP
  have CU := fun (x : Int) w => utf_Rune s x (by omega) w
  have CU1 := CU q
  rw [a3, bs_data] at CU1
  have CU1 := Lib.hid CU1
  have CU := Lib.hid CU
  have hpb := Seek.place_in hP
  have hqb := Seek.rune_in (Utf.one_ne (Seek.right_iff.1 hR).2.1) a3
  rw [hl] at hpb hqb
  have a7 : p < q := a7 rfl
  have a6 : Q = q := a6
  subst a6
  have hmin : min Q p = p := by omega
  have hmax : max Q p = Q := by omega
  rw [hmin, hmax] at BT
  have hwl : IntKind.i64.wrap (p + 1) = p + 1 := seek_wrap (by omega) (by omega)
  have ha1 : decide (p < Q) = true := by simp; omega
  have ha2 : p < Q := by omega
  have hb1 : Hid (p < Q ∧ -1 ≤ p ∧ Q ≤ s.size) := ⟨by omega, by omega, by omega⟩
  have hsz := Lib.hid hs
  have hE : (r.toList == r.toList) = true := beq_self_eq_true _
  have A := Lib.hid A
  have B := Lib.hid B
  clear hs hr hn hm hR hP h1 hM hl hq hq0 a2 a3 a4 a5 a7 a8 hpb hqb hQ
  generalize Line.of_ s.data.toList p = ln at *
  go_enter Try.func5, Try.ntmps5
  go_wp2_with fail
  refine (A.out _ (HM.out _ hX)).mono ?_
  rintro e w1 ⟨rfl, hb1⟩
  replace hX := below_onr hX hb1
  obtain ⟨c0, c1⟩ := CELL.out _ hX
  clear hb1
  go_wp2_with fail
  refine (B.out _ (HM.out _ hX)).mono ?_
  rintro e w1 ⟨rfl, hb1⟩
  replace hX := below_onr hX hb1
  obtain ⟨c0, c1⟩ := CELL.out _ hX
  clear hb1
  go_wp2_with fail
  refine (CO1.out _).mono ?_
  rintro e w1 ⟨rfl, hb1⟩
  replace hX := below_onr hX hb1
  obtain ⟨c0, c1⟩ := CELL.out _ hX
  clear hb1
  go_wp2_with fail
  refine (CO2.out _).mono ?_
  rintro e w1 ⟨rfl, hb1⟩
  replace hX := below_onr hX hb1
  obtain ⟨c0, c1⟩ := CELL.out _ hX
  clear hb1
  go_wp2_with fail
  refine (CP.out _).mono ?_
  rintro e w1 ⟨rfl, rfl⟩
  go_wp2_with fail
  go_region_held3 (fun u => u.cell? ⟨w.heap.size, 0, none⟩ = some (.int .i64 102) ∧ u.cell? ⟨w.heap.size, 1, none⟩ = some (.string r)) (first | (with_reducible exact ⟨by assumption, by assumption⟩) | go_keep)
    (first
      | (go_at_call 18; with_reducible refine (CU1.out _).mono ?_; rintro e w6 ⟨rfl, hb6⟩; (first | (with_reducible replace hX := below_onr hX hb6) | (with_reducible replace hX := below_onrd hX hb6)); obtain ⟨c0, c1⟩ := CELL.out _ hX))
  go_wp2
  go_loopw [14] (fun iv wr => ∃ y : Int, iv = .int .i64 y ∧ Hid (p < y ∧ y ≤ Q) ∧ Below (w.alloc (findO 102 r)).heap.size (w.alloc (findO 102 r)) wr) (fun iv _ => (Q - intOf iv).toNat)
  case atStart => exact ⟨p + 1, rfl, ⟨by omega, by have := hb1.out; omega⟩, hX⟩
  case round =>
    clear hX c0 c1
    obtain ⟨y, rfl, hy, hX⟩ := hrel
    obtain ⟨c0, c1⟩ := CELL.out _ hX
    by_cases hlt : y < Q
    · have gy : decide (y < Q) = true := by simp [hlt]
      have hne := BT.out y hy.out.1 hlt
      have CUY := Lib.hid (CU.out y)
      have E := (text_differs hne).1
      have hwy : IntKind.i64.wrap (y + 1) = y + 1 := seek_wrap (by have := hb1.out; have := hy.out; omega) (by have := hb1.out; have := hy.out; have := hsz.out; omega)
      have hy2 : Hid (p < y + 1 ∧ y + 1 ≤ Q) := ⟨by have := hy.out; omega, by omega⟩
      have hlt := Lib.hid hlt
      clear hne hy
      generalize bs (Utf.rune s.data.toList y) = RR at *
      go_wp2_with fail
      go_region_held3 (fun u => u.cell? ⟨w.heap.size, 0, none⟩ = some (.int .i64 102) ∧ u.cell? ⟨w.heap.size, 1, none⟩ = some (.string r)) (first | (with_reducible exact ⟨by assumption, by assumption⟩) | go_keep)
        (first
          | (go_at_call 18; with_reducible refine (CUY.out _).mono ?_; rintro e w6 ⟨rfl, hb6⟩; (first | (with_reducible replace hX := below_onr hX hb6) | (with_reducible replace hX := below_onrd hX hb6)); obtain ⟨c0, c1⟩ := CELL.out _ hX))
      go_wp2
      go_roundw
      case rel => exact ⟨y + 1, by go_num, hy2, hX⟩
      case measure => have := hlt.out; simp [intOf]; omega
    · have gy : decide (y < Q) = false := by simp; omega
      clear hlt hy
      go_wp2_with fail
      refine (seek_lives _ (HM.out _ hX)).mono ?_
      rintro e w1 ⟨rfl, hb1⟩
      replace hX := below_onr hX hb1
      obtain ⟨c0, c1⟩ := CELL.out _ hX
      clear hb1
      go_wp2
      go_ret
      exact ⟨rfl, h0.trans (hX.mono h0.size)⟩
set_option maxHeartbeats 1000000 in
set_option maxRecDepth 100000 in
theorem seekLeads_bigF_more (s : ByteArray) (p : Int) (r : ByteArray) (n : Int) (hs : ¬ 300 < s.size) (hr : r.size ≤ 140737488351232) (hn : n ≤ 9223372036854775807) (w : World) (hm : MaxAt w) (hR : Seek.right 70 r.data.toList = true) (hP : Utf.place s.data.toList p = true) (h1 : 0 ≤ Seek.goV s.data.toList p 70 r.data.toList 1) (hM : 0 ≤ Seek.goV s.data.toList p 70 r.data.toList n) :
    Calls Try.prog 5 #[.string s, .int .i64 p, findV 70 r, .int .i64 n] w fun e w' => e = .returned (.bool true) ∧ Below w.heap.size w w' := by
  have h0 := find_new w 70 r
  have HM : Hid (∀ u, Below (w.alloc (findO 70 r)).heap.size (w.alloc (findO 70 r)) u → MaxAt u) := fun u h => hm.below (h0.trans (h.mono h0.size))
  have CELL : Hid (∀ u, Below (w.alloc (findO 70 r)).heap.size (w.alloc (findO 70 r)) u → u.cell? ⟨w.heap.size, 0, none⟩ = some (.int .i64 70) ∧ u.cell? ⟨w.heap.size, 1, none⟩ = some (.string r)) := fun u h => find_after h
  obtain ⟨c0, c1⟩ := CELL.out _ (Below.refl _ _)
  have hX := Below.refl (w.alloc (findO 70 r)).heap.size (w.alloc (findO 70 r))
  have g0 : decide ((300 : Int) < (s.size : Int)) = false := by simp; omega
  have hl := data_len s
  have hq0 : ¬ Seek.nth (Seek.ons 70) (Seek.lh s.data.toList r.data.toList p) p 1 < 0 := fun h => by have := (Seek.goV_neg (n := 1) hR hP).2 h; omega
  obtain ⟨q, hq⟩ : ∃ q, Seek.nth (Seek.ons 70) (Seek.lh s.data.toList r.data.toList p) p 1 = q := ⟨_, rfl⟩
  rw [hq] at hq0
  obtain ⟨_, a2, a3, a4, a5, a6, a7, a8⟩ := Seek.goV_ok (n := 1) hR hP (show Seek.nth (Seek.ons 70) (Seek.lh s.data.toList r.data.toList p) p (Seek.times 1) = q from hq) (Int.not_lt.1 hq0)
  have BT := Lib.hid (fun (y : Int) => Seek.goV_between hR hP hq (Int.not_lt.1 hq0) y)
  have FAR := Seek.goV_far hR hP h1 hM
  have A := fun (w : World) (hm : MaxAt w) => seek_Go s p 70 r 1 (by omega) (by omega) (by omega) w hm
  have B := fun (w : World) (hm : MaxAt w) => seek_Go s p 70 r n (by omega) (by omega) hn w hm
  simp only [Seek.res_at h1] at A
  simp only [Seek.res_at hM] at B
  obtain ⟨Q, hQ⟩ : ∃ Q, Seek.goV s.data.toList p 70 r.data.toList 1 = Q := ⟨_, rfl⟩
  rw [hQ] at a2 a4 a5 a6 h1 FAR
  simp only [hQ] at A
  obtain ⟨R, hRR⟩ : ∃ R, Seek.goV s.data.toList p 70 r.data.toList n = R := ⟨_, rfl⟩
  rw [hRR] at FAR
  simp only [hRR] at B
  have gfar : decide (R ≤ Q) = true := by simpa using FAR.2 rfl
  have gfar2 : R ≤ Q := by simpa using gfar
  have CO := fun (x : Int) w => line_Of s x (by omega) w
  have CO1 := CO Q
  rw [a5] at CO1
  have CO1 := Lib.hid CO1
  have CO2 := Lib.hid (CO p)
  have CP := fun w => utf_Place s Q (by omega) w
  rw [a4] at CP
  have CP := Lib.hid CP
  have CU := fun (x : Int) w => utf_Rune s x (by omega) w
  have CU1 := CU q
  rw [a3, bs_data] at CU1
  have CU1 := Lib.hid CU1
  have CU := Lib.hid CU
  have hpb := Seek.place_in hP
  have hqb := Seek.rune_in (Utf.one_ne (Seek.right_iff.1 hR).2.1) a3
  rw [hl] at hpb hqb
  have a7 : q < p := a8 rfl
  have a6 : Q = q := a6
  subst a6
  have hmin : min Q p = Q := by omega
  have hmax : max Q p = p := by omega
  rw [hmin, hmax] at BT
  have hwl : IntKind.i64.wrap (Q + 1) = Q + 1 := seek_wrap (by omega) (by omega)
  have ha1 : decide (p < Q) = false := by simp; omega
  have ha2 : ¬ p < Q := by omega
  have hb1 : Hid (Q < p ∧ -1 ≤ Q ∧ p ≤ s.size) := ⟨by omega, by omega, by omega⟩
  have hsz := Lib.hid hs
  have hE : (r.toList == r.toList) = true := beq_self_eq_true _
  have A := Lib.hid A
  have B := Lib.hid B
  clear hs hr hn hm hR hP h1 hM hl hq hq0 a2 a3 a4 a5 a7 a8 hpb hqb hQ FAR hRR
  generalize Line.of_ s.data.toList p = ln at *
  go_enter Try.func5, Try.ntmps5
  go_wp2_with fail
  refine (A.out _ (HM.out _ hX)).mono ?_
  rintro e w1 ⟨rfl, hb1⟩
  replace hX := below_onr hX hb1
  obtain ⟨c0, c1⟩ := CELL.out _ hX
  clear hb1
  go_wp2_with fail
  refine (B.out _ (HM.out _ hX)).mono ?_
  rintro e w1 ⟨rfl, hb1⟩
  replace hX := below_onr hX hb1
  obtain ⟨c0, c1⟩ := CELL.out _ hX
  clear hb1
  go_wp2_with fail
  refine (CO1.out _).mono ?_
  rintro e w1 ⟨rfl, hb1⟩
  replace hX := below_onr hX hb1
  obtain ⟨c0, c1⟩ := CELL.out _ hX
  clear hb1
  go_wp2_with fail
  refine (CO2.out _).mono ?_
  rintro e w1 ⟨rfl, hb1⟩
  replace hX := below_onr hX hb1
  obtain ⟨c0, c1⟩ := CELL.out _ hX
  clear hb1
  go_wp2_with fail
  refine (CP.out _).mono ?_
  rintro e w1 ⟨rfl, rfl⟩
  go_wp2_with fail
  go_region_held3 (fun u => u.cell? ⟨w.heap.size, 0, none⟩ = some (.int .i64 70) ∧ u.cell? ⟨w.heap.size, 1, none⟩ = some (.string r)) (first | (with_reducible exact ⟨by assumption, by assumption⟩) | go_keep)
    (first
      | (go_at_call 18; with_reducible refine (CU1.out _).mono ?_; rintro e w6 ⟨rfl, hb6⟩; (first | (with_reducible replace hX := below_onr hX hb6) | (with_reducible replace hX := below_onrd hX hb6)); obtain ⟨c0, c1⟩ := CELL.out _ hX))
  go_wp2
  go_loopw [14] (fun iv wr => ∃ y : Int, iv = .int .i64 y ∧ Hid (Q < y ∧ y ≤ p) ∧ Below (w.alloc (findO 70 r)).heap.size (w.alloc (findO 70 r)) wr) (fun iv _ => (p - intOf iv).toNat)
  case atStart => exact ⟨Q + 1, rfl, ⟨by omega, by have := hb1.out; omega⟩, hX⟩
  case round =>
    clear hX c0 c1
    obtain ⟨y, rfl, hy, hX⟩ := hrel
    obtain ⟨c0, c1⟩ := CELL.out _ hX
    by_cases hlt : y < p
    · have gy : decide (y < p) = true := by simp [hlt]
      have hne := BT.out y hy.out.1 hlt
      have CUY := Lib.hid (CU.out y)
      have E := (text_differs hne).1
      have hwy : IntKind.i64.wrap (y + 1) = y + 1 := seek_wrap (by have := hb1.out; have := hy.out; omega) (by have := hb1.out; have := hy.out; have := hsz.out; omega)
      have hy2 : Hid (Q < y + 1 ∧ y + 1 ≤ p) := ⟨by have := hy.out; omega, by omega⟩
      have hlt := Lib.hid hlt
      clear hne hy
      generalize bs (Utf.rune s.data.toList y) = RR at *
      go_wp2_with fail
      go_region_held3 (fun u => u.cell? ⟨w.heap.size, 0, none⟩ = some (.int .i64 70) ∧ u.cell? ⟨w.heap.size, 1, none⟩ = some (.string r)) (first | (with_reducible exact ⟨by assumption, by assumption⟩) | go_keep)
        (first
          | (go_at_call 18; with_reducible refine (CUY.out _).mono ?_; rintro e w6 ⟨rfl, hb6⟩; (first | (with_reducible replace hX := below_onr hX hb6) | (with_reducible replace hX := below_onrd hX hb6)); obtain ⟨c0, c1⟩ := CELL.out _ hX))
      go_wp2
      go_roundw
      case rel => exact ⟨y + 1, by go_num, hy2, hX⟩
      case measure => have := hlt.out; simp [intOf]; omega
    · have gy : decide (y < p) = false := by simp; omega
      clear hlt hy
      go_wp2_with fail
      refine (seek_lives _ (HM.out _ hX)).mono ?_
      rintro e w1 ⟨rfl, hb1⟩
      replace hX := below_onr hX hb1
      obtain ⟨c0, c1⟩ := CELL.out _ hX
      clear hb1
      go_wp2
      go_ret
      exact ⟨rfl, h0.trans (hX.mono h0.size)⟩
set_option maxHeartbeats 1000000 in
set_option maxRecDepth 100000 in
theorem seekLeads_bigF_less (s : ByteArray) (p : Int) (r : ByteArray) (n : Int) (hs : ¬ 300 < s.size) (hr : r.size ≤ 140737488351232) (hn : n ≤ 9223372036854775807) (w : World) (hm : MaxAt w) (hR : Seek.right 70 r.data.toList = true) (hP : Utf.place s.data.toList p = true) (h1 : 0 ≤ Seek.goV s.data.toList p 70 r.data.toList 1) (hM : Seek.goV s.data.toList p 70 r.data.toList n < 0) :
    Calls Try.prog 5 #[.string s, .int .i64 p, findV 70 r, .int .i64 n] w fun e w' => e = .returned (.bool true) ∧ Below w.heap.size w w' := by
  have h0 := find_new w 70 r
  have HM : Hid (∀ u, Below (w.alloc (findO 70 r)).heap.size (w.alloc (findO 70 r)) u → MaxAt u) := fun u h => hm.below (h0.trans (h.mono h0.size))
  have CELL : Hid (∀ u, Below (w.alloc (findO 70 r)).heap.size (w.alloc (findO 70 r)) u → u.cell? ⟨w.heap.size, 0, none⟩ = some (.int .i64 70) ∧ u.cell? ⟨w.heap.size, 1, none⟩ = some (.string r)) := fun u h => find_after h
  obtain ⟨c0, c1⟩ := CELL.out _ (Below.refl _ _)
  have hX := Below.refl (w.alloc (findO 70 r)).heap.size (w.alloc (findO 70 r))
  have g0 : decide ((300 : Int) < (s.size : Int)) = false := by simp; omega
  have hl := data_len s
  have hq0 : ¬ Seek.nth (Seek.ons 70) (Seek.lh s.data.toList r.data.toList p) p 1 < 0 := fun h => by have := (Seek.goV_neg (n := 1) hR hP).2 h; omega
  obtain ⟨q, hq⟩ : ∃ q, Seek.nth (Seek.ons 70) (Seek.lh s.data.toList r.data.toList p) p 1 = q := ⟨_, rfl⟩
  rw [hq] at hq0
  obtain ⟨_, a2, a3, a4, a5, a6, a7, a8⟩ := Seek.goV_ok (n := 1) hR hP (show Seek.nth (Seek.ons 70) (Seek.lh s.data.toList r.data.toList p) p (Seek.times 1) = q from hq) (Int.not_lt.1 hq0)
  have BT := Lib.hid (fun (y : Int) => Seek.goV_between hR hP hq (Int.not_lt.1 hq0) y)
  have A := fun (w : World) (hm : MaxAt w) => seek_Go s p 70 r 1 (by omega) (by omega) (by omega) w hm
  have B := fun (w : World) (hm : MaxAt w) => seek_Go s p 70 r n (by omega) (by omega) hn w hm
  simp only [Seek.res_at h1] at A
  simp only [Seek.res_no hM] at B
  obtain ⟨Q, hQ⟩ : ∃ Q, Seek.goV s.data.toList p 70 r.data.toList 1 = Q := ⟨_, rfl⟩
  rw [hQ] at a2 a4 a5 a6 h1
  simp only [hQ] at A
  have CO := fun (x : Int) w => line_Of s x (by omega) w
  have CO1 := CO Q
  rw [a5] at CO1
  have CO1 := Lib.hid CO1
  have CO2 := Lib.hid (CO p)
  have CP := fun w => utf_Place s Q (by omega) w
  rw [a4] at CP
  have CP := Lib.hid CP
  have CU := fun (x : Int) w => utf_Rune s x (by omega) w
  have CU1 := CU q
  rw [a3, bs_data] at CU1
  have CU1 := Lib.hid CU1
  have CU := Lib.hid CU
  have hpb := Seek.place_in hP
  have hqb := Seek.rune_in (Utf.one_ne (Seek.right_iff.1 hR).2.1) a3
  rw [hl] at hpb hqb
  have a7 : q < p := a8 rfl
  have a6 : Q = q := a6
  subst a6
  have hmin : min Q p = Q := by omega
  have hmax : max Q p = p := by omega
  rw [hmin, hmax] at BT
  have hwl : IntKind.i64.wrap (Q + 1) = Q + 1 := seek_wrap (by omega) (by omega)
  have ha1 : decide (p < Q) = false := by simp; omega
  have ha2 : ¬ p < Q := by omega
  have hb1 : Hid (Q < p ∧ -1 ≤ Q ∧ p ≤ s.size) := ⟨by omega, by omega, by omega⟩
  have hsz := Lib.hid hs
  have hE : (r.toList == r.toList) = true := beq_self_eq_true _
  have A := Lib.hid A
  have B := Lib.hid B
  clear hs hr hn hm hR hP h1 hM hl hq hq0 a2 a3 a4 a5 a7 a8 hpb hqb hQ
  generalize Line.of_ s.data.toList p = ln at *
  go_enter Try.func5, Try.ntmps5
  go_wp2_with fail
  refine (A.out _ (HM.out _ hX)).mono ?_
  rintro e w1 ⟨rfl, hb1⟩
  replace hX := below_onr hX hb1
  obtain ⟨c0, c1⟩ := CELL.out _ hX
  clear hb1
  go_wp2_with fail
  refine (B.out _ (HM.out _ hX)).mono ?_
  rintro e w1 ⟨rfl, hb1⟩
  replace hX := below_onr hX hb1
  obtain ⟨c0, c1⟩ := CELL.out _ hX
  clear hb1
  go_wp2_with fail
  refine (CO1.out _).mono ?_
  rintro e w1 ⟨rfl, hb1⟩
  replace hX := below_onr hX hb1
  obtain ⟨c0, c1⟩ := CELL.out _ hX
  clear hb1
  go_wp2_with fail
  refine (CO2.out _).mono ?_
  rintro e w1 ⟨rfl, hb1⟩
  replace hX := below_onr hX hb1
  obtain ⟨c0, c1⟩ := CELL.out _ hX
  clear hb1
  go_wp2_with fail
  refine (CP.out _).mono ?_
  rintro e w1 ⟨rfl, rfl⟩
  go_wp2_with fail
  go_region_held3 (fun u => u.cell? ⟨w.heap.size, 0, none⟩ = some (.int .i64 70) ∧ u.cell? ⟨w.heap.size, 1, none⟩ = some (.string r)) (first | (with_reducible exact ⟨by assumption, by assumption⟩) | go_keep)
    (first
      | (go_at_call 18; with_reducible refine (CU1.out _).mono ?_; rintro e w6 ⟨rfl, hb6⟩; (first | (with_reducible replace hX := below_onr hX hb6) | (with_reducible replace hX := below_onrd hX hb6)); obtain ⟨c0, c1⟩ := CELL.out _ hX))
  go_wp2
  go_loopw [14] (fun iv wr => ∃ y : Int, iv = .int .i64 y ∧ Hid (Q < y ∧ y ≤ p) ∧ Below (w.alloc (findO 70 r)).heap.size (w.alloc (findO 70 r)) wr) (fun iv _ => (p - intOf iv).toNat)
  case atStart => exact ⟨Q + 1, rfl, ⟨by omega, by have := hb1.out; omega⟩, hX⟩
  case round =>
    clear hX c0 c1
    obtain ⟨y, rfl, hy, hX⟩ := hrel
    obtain ⟨c0, c1⟩ := CELL.out _ hX
    by_cases hlt : y < p
    · have gy : decide (y < p) = true := by simp [hlt]
      have hne := BT.out y hy.out.1 hlt
      have CUY := Lib.hid (CU.out y)
      have E := (text_differs hne).1
      have hwy : IntKind.i64.wrap (y + 1) = y + 1 := seek_wrap (by have := hb1.out; have := hy.out; omega) (by have := hb1.out; have := hy.out; have := hsz.out; omega)
      have hy2 : Hid (Q < y + 1 ∧ y + 1 ≤ p) := ⟨by have := hy.out; omega, by omega⟩
      have hlt := Lib.hid hlt
      clear hne hy
      generalize bs (Utf.rune s.data.toList y) = RR at *
      go_wp2_with fail
      go_region_held3 (fun u => u.cell? ⟨w.heap.size, 0, none⟩ = some (.int .i64 70) ∧ u.cell? ⟨w.heap.size, 1, none⟩ = some (.string r)) (first | (with_reducible exact ⟨by assumption, by assumption⟩) | go_keep)
        (first
          | (go_at_call 18; with_reducible refine (CUY.out _).mono ?_; rintro e w6 ⟨rfl, hb6⟩; (first | (with_reducible replace hX := below_onr hX hb6) | (with_reducible replace hX := below_onrd hX hb6)); obtain ⟨c0, c1⟩ := CELL.out _ hX))
      go_wp2
      go_roundw
      case rel => exact ⟨y + 1, by go_num, hy2, hX⟩
      case measure => have := hlt.out; simp [intOf]; omega
    · have gy : decide (y < p) = false := by simp; omega
      clear hlt hy
      go_wp2_with fail
      refine (seek_lives _ (HM.out _ hX)).mono ?_
      rintro e w1 ⟨rfl, hb1⟩
      replace hX := below_onr hX hb1
      obtain ⟨c0, c1⟩ := CELL.out _ hX
      clear hb1
      go_wp2
      go_ret
      exact ⟨rfl, h0.trans (hX.mono h0.size)⟩
set_option maxHeartbeats 1000000 in
set_option maxRecDepth 100000 in
theorem seekLeads_t_more (s : ByteArray) (p : Int) (r : ByteArray) (n : Int) (hs : ¬ 300 < s.size) (hr : r.size ≤ 140737488351232) (hn : n ≤ 9223372036854775807) (w : World) (hm : MaxAt w) (hR : Seek.right 116 r.data.toList = true) (hP : Utf.place s.data.toList p = true) (h1 : 0 ≤ Seek.goV s.data.toList p 116 r.data.toList 1) (hM : 0 ≤ Seek.goV s.data.toList p 116 r.data.toList n) :
    Calls Try.prog 5 #[.string s, .int .i64 p, findV 116 r, .int .i64 n] w fun e w' => e = .returned (.bool true) ∧ Below w.heap.size w w' := by
  have h0 := find_new w 116 r
  have HM : Hid (∀ u, Below (w.alloc (findO 116 r)).heap.size (w.alloc (findO 116 r)) u → MaxAt u) := fun u h => hm.below (h0.trans (h.mono h0.size))
  have CELL : Hid (∀ u, Below (w.alloc (findO 116 r)).heap.size (w.alloc (findO 116 r)) u → u.cell? ⟨w.heap.size, 0, none⟩ = some (.int .i64 116) ∧ u.cell? ⟨w.heap.size, 1, none⟩ = some (.string r)) := fun u h => find_after h
  obtain ⟨c0, c1⟩ := CELL.out _ (Below.refl _ _)
  have hX := Below.refl (w.alloc (findO 116 r)).heap.size (w.alloc (findO 116 r))
  have g0 : decide ((300 : Int) < (s.size : Int)) = false := by simp; omega
  have hl := data_len s
  have hq0 : ¬ Seek.nth (Seek.ons 116) (Seek.lh s.data.toList r.data.toList p) p 1 < 0 := fun h => by have := (Seek.goV_neg (n := 1) hR hP).2 h; omega
  obtain ⟨q, hq⟩ : ∃ q, Seek.nth (Seek.ons 116) (Seek.lh s.data.toList r.data.toList p) p 1 = q := ⟨_, rfl⟩
  rw [hq] at hq0
  obtain ⟨_, a2, a3, a4, a5, a6, a7, a8⟩ := Seek.goV_ok (n := 1) hR hP (show Seek.nth (Seek.ons 116) (Seek.lh s.data.toList r.data.toList p) p (Seek.times 1) = q from hq) (Int.not_lt.1 hq0)
  have BT := Lib.hid (fun (y : Int) => Seek.goV_between hR hP hq (Int.not_lt.1 hq0) y)
  have FAR := Seek.goV_far hR hP h1 hM
  have A := fun (w : World) (hm : MaxAt w) => seek_Go s p 116 r 1 (by omega) (by omega) (by omega) w hm
  have B := fun (w : World) (hm : MaxAt w) => seek_Go s p 116 r n (by omega) (by omega) hn w hm
  simp only [Seek.res_at h1] at A
  simp only [Seek.res_at hM] at B
  obtain ⟨Q, hQ⟩ : ∃ Q, Seek.goV s.data.toList p 116 r.data.toList 1 = Q := ⟨_, rfl⟩
  rw [hQ] at a2 a4 a5 a6 h1 FAR
  simp only [hQ] at A
  obtain ⟨R, hRR⟩ : ∃ R, Seek.goV s.data.toList p 116 r.data.toList n = R := ⟨_, rfl⟩
  rw [hRR] at FAR
  simp only [hRR] at B
  have gfar : decide (Q ≤ R) = true := by simpa using FAR.1 rfl
  have gfar2 : Q ≤ R := by simpa using gfar
  have CO := fun (x : Int) w => line_Of s x (by omega) w
  have CO1 := CO Q
  rw [a5] at CO1
  have CO1 := Lib.hid CO1
  have CO2 := Lib.hid (CO p)
  have CP := fun w => utf_Place s Q (by omega) w
  rw [a4] at CP
  have CP := Lib.hid CP
  have CU := fun (x : Int) w => utf_Rune s x (by omega) w
  have CU1 := CU q
  rw [a3, bs_data] at CU1
  have CU1 := Lib.hid CU1
  have CU := Lib.hid CU
  have hpb := Seek.place_in hP
  have hqb := Seek.rune_in (Utf.one_ne (Seek.right_iff.1 hR).2.1) a3
  rw [hl] at hpb hqb
  have a7 : p < q := a7 rfl
  have CA := fun w => utf_Next s Q (by omega) w
  rw [show Utf.next s.data.toList Q = q from a6] at CA
  have CA := Lib.hid CA
  have hmin : min q p = p := by omega
  have hmax : max q p = q := by omega
  rw [hmin, hmax] at BT
  have hwl : IntKind.i64.wrap (p + 1) = p + 1 := seek_wrap (by omega) (by omega)
  have ha1 : decide (p < q) = true := by simp; omega
  have ha2 : p < q := by omega
  have hb1 : Hid (p < q ∧ -1 ≤ p ∧ q ≤ s.size) := ⟨by omega, by omega, by omega⟩
  have hsz := Lib.hid hs
  have hE : (r.toList == r.toList) = true := beq_self_eq_true _
  have A := Lib.hid A
  have B := Lib.hid B
  clear hs hr hn hm hR hP h1 hM hl hq hq0 a2 a3 a4 a5 a7 a8 hpb hqb hQ FAR hRR a6
  generalize Line.of_ s.data.toList p = ln at *
  go_enter Try.func5, Try.ntmps5
  go_wp2_with fail
  refine (A.out _ (HM.out _ hX)).mono ?_
  rintro e w1 ⟨rfl, hb1⟩
  replace hX := below_onr hX hb1
  obtain ⟨c0, c1⟩ := CELL.out _ hX
  clear hb1
  go_wp2_with fail
  refine (B.out _ (HM.out _ hX)).mono ?_
  rintro e w1 ⟨rfl, hb1⟩
  replace hX := below_onr hX hb1
  obtain ⟨c0, c1⟩ := CELL.out _ hX
  clear hb1
  go_wp2_with fail
  refine (CO1.out _).mono ?_
  rintro e w1 ⟨rfl, hb1⟩
  replace hX := below_onr hX hb1
  obtain ⟨c0, c1⟩ := CELL.out _ hX
  clear hb1
  go_wp2_with fail
  refine (CO2.out _).mono ?_
  rintro e w1 ⟨rfl, hb1⟩
  replace hX := below_onr hX hb1
  obtain ⟨c0, c1⟩ := CELL.out _ hX
  clear hb1
  go_wp2_with fail
  refine (CP.out _).mono ?_
  rintro e w1 ⟨rfl, rfl⟩
  go_wp2_with fail
  refine (CA.out _).mono ?_
  rintro e w1 ⟨rfl, rfl⟩
  go_wp2_with fail
  go_region_held3 (fun u => u.cell? ⟨w.heap.size, 0, none⟩ = some (.int .i64 116) ∧ u.cell? ⟨w.heap.size, 1, none⟩ = some (.string r)) (first | (with_reducible exact ⟨by assumption, by assumption⟩) | go_keep)
    (first
      | (go_at_call 18; with_reducible refine (CU1.out _).mono ?_; rintro e w6 ⟨rfl, hb6⟩; (first | (with_reducible replace hX := below_onr hX hb6) | (with_reducible replace hX := below_onrd hX hb6)); obtain ⟨c0, c1⟩ := CELL.out _ hX))
  go_wp2
  go_loopw [14] (fun iv wr => ∃ y : Int, iv = .int .i64 y ∧ Hid (p < y ∧ y ≤ q) ∧ Below (w.alloc (findO 116 r)).heap.size (w.alloc (findO 116 r)) wr) (fun iv _ => (q - intOf iv).toNat)
  case atStart => exact ⟨p + 1, rfl, ⟨by omega, by have := hb1.out; omega⟩, hX⟩
  case round =>
    clear hX c0 c1
    obtain ⟨y, rfl, hy, hX⟩ := hrel
    obtain ⟨c0, c1⟩ := CELL.out _ hX
    by_cases hlt : y < q
    · have gy : decide (y < q) = true := by simp [hlt]
      have hne := BT.out y hy.out.1 hlt
      have CUY := Lib.hid (CU.out y)
      have E := (text_differs hne).1
      have hwy : IntKind.i64.wrap (y + 1) = y + 1 := seek_wrap (by have := hb1.out; have := hy.out; omega) (by have := hb1.out; have := hy.out; have := hsz.out; omega)
      have hy2 : Hid (p < y + 1 ∧ y + 1 ≤ q) := ⟨by have := hy.out; omega, by omega⟩
      have hlt := Lib.hid hlt
      clear hne hy
      generalize bs (Utf.rune s.data.toList y) = RR at *
      go_wp2_with fail
      go_region_held3 (fun u => u.cell? ⟨w.heap.size, 0, none⟩ = some (.int .i64 116) ∧ u.cell? ⟨w.heap.size, 1, none⟩ = some (.string r)) (first | (with_reducible exact ⟨by assumption, by assumption⟩) | go_keep)
        (first
          | (go_at_call 18; with_reducible refine (CUY.out _).mono ?_; rintro e w6 ⟨rfl, hb6⟩; (first | (with_reducible replace hX := below_onr hX hb6) | (with_reducible replace hX := below_onrd hX hb6)); obtain ⟨c0, c1⟩ := CELL.out _ hX))
      go_wp2
      go_roundw
      case rel => exact ⟨y + 1, by go_num, hy2, hX⟩
      case measure => have := hlt.out; simp [intOf]; omega
    · have gy : decide (y < q) = false := by simp; omega
      clear hlt hy
      go_wp2_with fail
      refine (seek_lives _ (HM.out _ hX)).mono ?_
      rintro e w1 ⟨rfl, hb1⟩
      replace hX := below_onr hX hb1
      obtain ⟨c0, c1⟩ := CELL.out _ hX
      clear hb1
      go_wp2
      go_ret
      exact ⟨rfl, h0.trans (hX.mono h0.size)⟩
set_option maxHeartbeats 1000000 in
set_option maxRecDepth 100000 in
theorem seekLeads_t_less (s : ByteArray) (p : Int) (r : ByteArray) (n : Int) (hs : ¬ 300 < s.size) (hr : r.size ≤ 140737488351232) (hn : n ≤ 9223372036854775807) (w : World) (hm : MaxAt w) (hR : Seek.right 116 r.data.toList = true) (hP : Utf.place s.data.toList p = true) (h1 : 0 ≤ Seek.goV s.data.toList p 116 r.data.toList 1) (hM : Seek.goV s.data.toList p 116 r.data.toList n < 0) :
    Calls Try.prog 5 #[.string s, .int .i64 p, findV 116 r, .int .i64 n] w fun e w' => e = .returned (.bool true) ∧ Below w.heap.size w w' := by
  have h0 := find_new w 116 r
  have HM : Hid (∀ u, Below (w.alloc (findO 116 r)).heap.size (w.alloc (findO 116 r)) u → MaxAt u) := fun u h => hm.below (h0.trans (h.mono h0.size))
  have CELL : Hid (∀ u, Below (w.alloc (findO 116 r)).heap.size (w.alloc (findO 116 r)) u → u.cell? ⟨w.heap.size, 0, none⟩ = some (.int .i64 116) ∧ u.cell? ⟨w.heap.size, 1, none⟩ = some (.string r)) := fun u h => find_after h
  obtain ⟨c0, c1⟩ := CELL.out _ (Below.refl _ _)
  have hX := Below.refl (w.alloc (findO 116 r)).heap.size (w.alloc (findO 116 r))
  have g0 : decide ((300 : Int) < (s.size : Int)) = false := by simp; omega
  have hl := data_len s
  have hq0 : ¬ Seek.nth (Seek.ons 116) (Seek.lh s.data.toList r.data.toList p) p 1 < 0 := fun h => by have := (Seek.goV_neg (n := 1) hR hP).2 h; omega
  obtain ⟨q, hq⟩ : ∃ q, Seek.nth (Seek.ons 116) (Seek.lh s.data.toList r.data.toList p) p 1 = q := ⟨_, rfl⟩
  rw [hq] at hq0
  obtain ⟨_, a2, a3, a4, a5, a6, a7, a8⟩ := Seek.goV_ok (n := 1) hR hP (show Seek.nth (Seek.ons 116) (Seek.lh s.data.toList r.data.toList p) p (Seek.times 1) = q from hq) (Int.not_lt.1 hq0)
  have BT := Lib.hid (fun (y : Int) => Seek.goV_between hR hP hq (Int.not_lt.1 hq0) y)
  have A := fun (w : World) (hm : MaxAt w) => seek_Go s p 116 r 1 (by omega) (by omega) (by omega) w hm
  have B := fun (w : World) (hm : MaxAt w) => seek_Go s p 116 r n (by omega) (by omega) hn w hm
  simp only [Seek.res_at h1] at A
  simp only [Seek.res_no hM] at B
  obtain ⟨Q, hQ⟩ : ∃ Q, Seek.goV s.data.toList p 116 r.data.toList 1 = Q := ⟨_, rfl⟩
  rw [hQ] at a2 a4 a5 a6 h1
  simp only [hQ] at A
  have CO := fun (x : Int) w => line_Of s x (by omega) w
  have CO1 := CO Q
  rw [a5] at CO1
  have CO1 := Lib.hid CO1
  have CO2 := Lib.hid (CO p)
  have CP := fun w => utf_Place s Q (by omega) w
  rw [a4] at CP
  have CP := Lib.hid CP
  have CU := fun (x : Int) w => utf_Rune s x (by omega) w
  have CU1 := CU q
  rw [a3, bs_data] at CU1
  have CU1 := Lib.hid CU1
  have CU := Lib.hid CU
  have hpb := Seek.place_in hP
  have hqb := Seek.rune_in (Utf.one_ne (Seek.right_iff.1 hR).2.1) a3
  rw [hl] at hpb hqb
  have a7 : p < q := a7 rfl
  have CA := fun w => utf_Next s Q (by omega) w
  rw [show Utf.next s.data.toList Q = q from a6] at CA
  have CA := Lib.hid CA
  have hmin : min q p = p := by omega
  have hmax : max q p = q := by omega
  rw [hmin, hmax] at BT
  have hwl : IntKind.i64.wrap (p + 1) = p + 1 := seek_wrap (by omega) (by omega)
  have ha1 : decide (p < q) = true := by simp; omega
  have ha2 : p < q := by omega
  have hb1 : Hid (p < q ∧ -1 ≤ p ∧ q ≤ s.size) := ⟨by omega, by omega, by omega⟩
  have hsz := Lib.hid hs
  have hE : (r.toList == r.toList) = true := beq_self_eq_true _
  have A := Lib.hid A
  have B := Lib.hid B
  clear hs hr hn hm hR hP h1 hM hl hq hq0 a2 a3 a4 a5 a7 a8 hpb hqb hQ a6
  generalize Line.of_ s.data.toList p = ln at *
  go_enter Try.func5, Try.ntmps5
  go_wp2_with fail
  refine (A.out _ (HM.out _ hX)).mono ?_
  rintro e w1 ⟨rfl, hb1⟩
  replace hX := below_onr hX hb1
  obtain ⟨c0, c1⟩ := CELL.out _ hX
  clear hb1
  go_wp2_with fail
  refine (B.out _ (HM.out _ hX)).mono ?_
  rintro e w1 ⟨rfl, hb1⟩
  replace hX := below_onr hX hb1
  obtain ⟨c0, c1⟩ := CELL.out _ hX
  clear hb1
  go_wp2_with fail
  refine (CO1.out _).mono ?_
  rintro e w1 ⟨rfl, hb1⟩
  replace hX := below_onr hX hb1
  obtain ⟨c0, c1⟩ := CELL.out _ hX
  clear hb1
  go_wp2_with fail
  refine (CO2.out _).mono ?_
  rintro e w1 ⟨rfl, hb1⟩
  replace hX := below_onr hX hb1
  obtain ⟨c0, c1⟩ := CELL.out _ hX
  clear hb1
  go_wp2_with fail
  refine (CP.out _).mono ?_
  rintro e w1 ⟨rfl, rfl⟩
  go_wp2_with fail
  refine (CA.out _).mono ?_
  rintro e w1 ⟨rfl, rfl⟩
  go_wp2_with fail
  go_region_held3 (fun u => u.cell? ⟨w.heap.size, 0, none⟩ = some (.int .i64 116) ∧ u.cell? ⟨w.heap.size, 1, none⟩ = some (.string r)) (first | (with_reducible exact ⟨by assumption, by assumption⟩) | go_keep)
    (first
      | (go_at_call 18; with_reducible refine (CU1.out _).mono ?_; rintro e w6 ⟨rfl, hb6⟩; (first | (with_reducible replace hX := below_onr hX hb6) | (with_reducible replace hX := below_onrd hX hb6)); obtain ⟨c0, c1⟩ := CELL.out _ hX))
  go_wp2
  go_loopw [14] (fun iv wr => ∃ y : Int, iv = .int .i64 y ∧ Hid (p < y ∧ y ≤ q) ∧ Below (w.alloc (findO 116 r)).heap.size (w.alloc (findO 116 r)) wr) (fun iv _ => (q - intOf iv).toNat)
  case atStart => exact ⟨p + 1, rfl, ⟨by omega, by have := hb1.out; omega⟩, hX⟩
  case round =>
    clear hX c0 c1
    obtain ⟨y, rfl, hy, hX⟩ := hrel
    obtain ⟨c0, c1⟩ := CELL.out _ hX
    by_cases hlt : y < q
    · have gy : decide (y < q) = true := by simp [hlt]
      have hne := BT.out y hy.out.1 hlt
      have CUY := Lib.hid (CU.out y)
      have E := (text_differs hne).1
      have hwy : IntKind.i64.wrap (y + 1) = y + 1 := seek_wrap (by have := hb1.out; have := hy.out; omega) (by have := hb1.out; have := hy.out; have := hsz.out; omega)
      have hy2 : Hid (p < y + 1 ∧ y + 1 ≤ q) := ⟨by have := hy.out; omega, by omega⟩
      have hlt := Lib.hid hlt
      clear hne hy
      generalize bs (Utf.rune s.data.toList y) = RR at *
      go_wp2_with fail
      go_region_held3 (fun u => u.cell? ⟨w.heap.size, 0, none⟩ = some (.int .i64 116) ∧ u.cell? ⟨w.heap.size, 1, none⟩ = some (.string r)) (first | (with_reducible exact ⟨by assumption, by assumption⟩) | go_keep)
        (first
          | (go_at_call 18; with_reducible refine (CUY.out _).mono ?_; rintro e w6 ⟨rfl, hb6⟩; (first | (with_reducible replace hX := below_onr hX hb6) | (with_reducible replace hX := below_onrd hX hb6)); obtain ⟨c0, c1⟩ := CELL.out _ hX))
      go_wp2
      go_roundw
      case rel => exact ⟨y + 1, by go_num, hy2, hX⟩
      case measure => have := hlt.out; simp [intOf]; omega
    · have gy : decide (y < q) = false := by simp; omega
      clear hlt hy
      go_wp2_with fail
      refine (seek_lives _ (HM.out _ hX)).mono ?_
      rintro e w1 ⟨rfl, hb1⟩
      replace hX := below_onr hX hb1
      obtain ⟨c0, c1⟩ := CELL.out _ hX
      clear hb1
      go_wp2
      go_ret
      exact ⟨rfl, h0.trans (hX.mono h0.size)⟩
set_option maxHeartbeats 1000000 in
set_option maxRecDepth 100000 in
theorem seekLeads_bigT_more (s : ByteArray) (p : Int) (r : ByteArray) (n : Int) (hs : ¬ 300 < s.size) (hr : r.size ≤ 140737488351232) (hn : n ≤ 9223372036854775807) (w : World) (hm : MaxAt w) (hR : Seek.right 84 r.data.toList = true) (hP : Utf.place s.data.toList p = true) (h1 : 0 ≤ Seek.goV s.data.toList p 84 r.data.toList 1) (hM : 0 ≤ Seek.goV s.data.toList p 84 r.data.toList n) :
    Calls Try.prog 5 #[.string s, .int .i64 p, findV 84 r, .int .i64 n] w fun e w' => e = .returned (.bool true) ∧ Below w.heap.size w w' := by
  have h0 := find_new w 84 r
  have HM : Hid (∀ u, Below (w.alloc (findO 84 r)).heap.size (w.alloc (findO 84 r)) u → MaxAt u) := fun u h => hm.below (h0.trans (h.mono h0.size))
  have CELL : Hid (∀ u, Below (w.alloc (findO 84 r)).heap.size (w.alloc (findO 84 r)) u → u.cell? ⟨w.heap.size, 0, none⟩ = some (.int .i64 84) ∧ u.cell? ⟨w.heap.size, 1, none⟩ = some (.string r)) := fun u h => find_after h
  obtain ⟨c0, c1⟩ := CELL.out _ (Below.refl _ _)
  have hX := Below.refl (w.alloc (findO 84 r)).heap.size (w.alloc (findO 84 r))
  have g0 : decide ((300 : Int) < (s.size : Int)) = false := by simp; omega
  have hl := data_len s
  have hq0 : ¬ Seek.nth (Seek.ons 84) (Seek.lh s.data.toList r.data.toList p) p 1 < 0 := fun h => by have := (Seek.goV_neg (n := 1) hR hP).2 h; omega
  obtain ⟨q, hq⟩ : ∃ q, Seek.nth (Seek.ons 84) (Seek.lh s.data.toList r.data.toList p) p 1 = q := ⟨_, rfl⟩
  rw [hq] at hq0
  obtain ⟨_, a2, a3, a4, a5, a6, a7, a8⟩ := Seek.goV_ok (n := 1) hR hP (show Seek.nth (Seek.ons 84) (Seek.lh s.data.toList r.data.toList p) p (Seek.times 1) = q from hq) (Int.not_lt.1 hq0)
  have BT := Lib.hid (fun (y : Int) => Seek.goV_between hR hP hq (Int.not_lt.1 hq0) y)
  have FAR := Seek.goV_far hR hP h1 hM
  have A := fun (w : World) (hm : MaxAt w) => seek_Go s p 84 r 1 (by omega) (by omega) (by omega) w hm
  have B := fun (w : World) (hm : MaxAt w) => seek_Go s p 84 r n (by omega) (by omega) hn w hm
  simp only [Seek.res_at h1] at A
  simp only [Seek.res_at hM] at B
  obtain ⟨Q, hQ⟩ : ∃ Q, Seek.goV s.data.toList p 84 r.data.toList 1 = Q := ⟨_, rfl⟩
  rw [hQ] at a2 a4 a5 a6 h1 FAR
  simp only [hQ] at A
  obtain ⟨R, hRR⟩ : ∃ R, Seek.goV s.data.toList p 84 r.data.toList n = R := ⟨_, rfl⟩
  rw [hRR] at FAR
  simp only [hRR] at B
  have gfar : decide (R ≤ Q) = true := by simpa using FAR.2 rfl
  have gfar2 : R ≤ Q := by simpa using gfar
  have CO := fun (x : Int) w => line_Of s x (by omega) w
  have CO1 := CO Q
  rw [a5] at CO1
  have CO1 := Lib.hid CO1
  have CO2 := Lib.hid (CO p)
  have CP := fun w => utf_Place s Q (by omega) w
  rw [a4] at CP
  have CP := Lib.hid CP
  have CU := fun (x : Int) w => utf_Rune s x (by omega) w
  have CU1 := CU q
  rw [a3, bs_data] at CU1
  have CU1 := Lib.hid CU1
  have CU := Lib.hid CU
  have hpb := Seek.place_in hP
  have hqb := Seek.rune_in (Utf.one_ne (Seek.right_iff.1 hR).2.1) a3
  rw [hl] at hpb hqb
  have a7 : q < p := a8 rfl
  have CA := fun w => utf_Prev s Q (by omega) w
  rw [show Utf.prev s.data.toList Q = q from a6] at CA
  have CA := Lib.hid CA
  have hmin : min q p = q := by omega
  have hmax : max q p = p := by omega
  rw [hmin, hmax] at BT
  have hwl : IntKind.i64.wrap (q + 1) = q + 1 := seek_wrap (by omega) (by omega)
  have ha1 : decide (p < q) = false := by simp; omega
  have ha2 : ¬ p < q := by omega
  have hb1 : Hid (q < p ∧ -1 ≤ q ∧ p ≤ s.size) := ⟨by omega, by omega, by omega⟩
  have hsz := Lib.hid hs
  have hE : (r.toList == r.toList) = true := beq_self_eq_true _
  have A := Lib.hid A
  have B := Lib.hid B
  clear hs hr hn hm hR hP h1 hM hl hq hq0 a2 a3 a4 a5 a7 a8 hpb hqb hQ FAR hRR a6
  generalize Line.of_ s.data.toList p = ln at *
  go_enter Try.func5, Try.ntmps5
  go_wp2_with fail
  refine (A.out _ (HM.out _ hX)).mono ?_
  rintro e w1 ⟨rfl, hb1⟩
  replace hX := below_onr hX hb1
  obtain ⟨c0, c1⟩ := CELL.out _ hX
  clear hb1
  go_wp2_with fail
  refine (B.out _ (HM.out _ hX)).mono ?_
  rintro e w1 ⟨rfl, hb1⟩
  replace hX := below_onr hX hb1
  obtain ⟨c0, c1⟩ := CELL.out _ hX
  clear hb1
  go_wp2_with fail
  refine (CO1.out _).mono ?_
  rintro e w1 ⟨rfl, hb1⟩
  replace hX := below_onr hX hb1
  obtain ⟨c0, c1⟩ := CELL.out _ hX
  clear hb1
  go_wp2_with fail
  refine (CO2.out _).mono ?_
  rintro e w1 ⟨rfl, hb1⟩
  replace hX := below_onr hX hb1
  obtain ⟨c0, c1⟩ := CELL.out _ hX
  clear hb1
  go_wp2_with fail
  refine (CP.out _).mono ?_
  rintro e w1 ⟨rfl, rfl⟩
  go_wp2_with fail
  refine (CA.out _).mono ?_
  rintro e w1 ⟨rfl, rfl⟩
  go_wp2_with fail
  go_region_held3 (fun u => u.cell? ⟨w.heap.size, 0, none⟩ = some (.int .i64 84) ∧ u.cell? ⟨w.heap.size, 1, none⟩ = some (.string r)) (first | (with_reducible exact ⟨by assumption, by assumption⟩) | go_keep)
    (first
      | (go_at_call 18; with_reducible refine (CU1.out _).mono ?_; rintro e w6 ⟨rfl, hb6⟩; (first | (with_reducible replace hX := below_onr hX hb6) | (with_reducible replace hX := below_onrd hX hb6)); obtain ⟨c0, c1⟩ := CELL.out _ hX))
  go_wp2
  go_loopw [14] (fun iv wr => ∃ y : Int, iv = .int .i64 y ∧ Hid (q < y ∧ y ≤ p) ∧ Below (w.alloc (findO 84 r)).heap.size (w.alloc (findO 84 r)) wr) (fun iv _ => (p - intOf iv).toNat)
  case atStart => exact ⟨q + 1, rfl, ⟨by omega, by have := hb1.out; omega⟩, hX⟩
  case round =>
    clear hX c0 c1
    obtain ⟨y, rfl, hy, hX⟩ := hrel
    obtain ⟨c0, c1⟩ := CELL.out _ hX
    by_cases hlt : y < p
    · have gy : decide (y < p) = true := by simp [hlt]
      have hne := BT.out y hy.out.1 hlt
      have CUY := Lib.hid (CU.out y)
      have E := (text_differs hne).1
      have hwy : IntKind.i64.wrap (y + 1) = y + 1 := seek_wrap (by have := hb1.out; have := hy.out; omega) (by have := hb1.out; have := hy.out; have := hsz.out; omega)
      have hy2 : Hid (q < y + 1 ∧ y + 1 ≤ p) := ⟨by have := hy.out; omega, by omega⟩
      have hlt := Lib.hid hlt
      clear hne hy
      generalize bs (Utf.rune s.data.toList y) = RR at *
      go_wp2_with fail
      go_region_held3 (fun u => u.cell? ⟨w.heap.size, 0, none⟩ = some (.int .i64 84) ∧ u.cell? ⟨w.heap.size, 1, none⟩ = some (.string r)) (first | (with_reducible exact ⟨by assumption, by assumption⟩) | go_keep)
        (first
          | (go_at_call 18; with_reducible refine (CUY.out _).mono ?_; rintro e w6 ⟨rfl, hb6⟩; (first | (with_reducible replace hX := below_onr hX hb6) | (with_reducible replace hX := below_onrd hX hb6)); obtain ⟨c0, c1⟩ := CELL.out _ hX))
      go_wp2
      go_roundw
      case rel => exact ⟨y + 1, by go_num, hy2, hX⟩
      case measure => have := hlt.out; simp [intOf]; omega
    · have gy : decide (y < p) = false := by simp; omega
      clear hlt hy
      go_wp2_with fail
      refine (seek_lives _ (HM.out _ hX)).mono ?_
      rintro e w1 ⟨rfl, hb1⟩
      replace hX := below_onr hX hb1
      obtain ⟨c0, c1⟩ := CELL.out _ hX
      clear hb1
      go_wp2
      go_ret
      exact ⟨rfl, h0.trans (hX.mono h0.size)⟩
set_option maxHeartbeats 1000000 in
set_option maxRecDepth 100000 in
theorem seekLeads_bigT_less (s : ByteArray) (p : Int) (r : ByteArray) (n : Int) (hs : ¬ 300 < s.size) (hr : r.size ≤ 140737488351232) (hn : n ≤ 9223372036854775807) (w : World) (hm : MaxAt w) (hR : Seek.right 84 r.data.toList = true) (hP : Utf.place s.data.toList p = true) (h1 : 0 ≤ Seek.goV s.data.toList p 84 r.data.toList 1) (hM : Seek.goV s.data.toList p 84 r.data.toList n < 0) :
    Calls Try.prog 5 #[.string s, .int .i64 p, findV 84 r, .int .i64 n] w fun e w' => e = .returned (.bool true) ∧ Below w.heap.size w w' := by
  have h0 := find_new w 84 r
  have HM : Hid (∀ u, Below (w.alloc (findO 84 r)).heap.size (w.alloc (findO 84 r)) u → MaxAt u) := fun u h => hm.below (h0.trans (h.mono h0.size))
  have CELL : Hid (∀ u, Below (w.alloc (findO 84 r)).heap.size (w.alloc (findO 84 r)) u → u.cell? ⟨w.heap.size, 0, none⟩ = some (.int .i64 84) ∧ u.cell? ⟨w.heap.size, 1, none⟩ = some (.string r)) := fun u h => find_after h
  obtain ⟨c0, c1⟩ := CELL.out _ (Below.refl _ _)
  have hX := Below.refl (w.alloc (findO 84 r)).heap.size (w.alloc (findO 84 r))
  have g0 : decide ((300 : Int) < (s.size : Int)) = false := by simp; omega
  have hl := data_len s
  have hq0 : ¬ Seek.nth (Seek.ons 84) (Seek.lh s.data.toList r.data.toList p) p 1 < 0 := fun h => by have := (Seek.goV_neg (n := 1) hR hP).2 h; omega
  obtain ⟨q, hq⟩ : ∃ q, Seek.nth (Seek.ons 84) (Seek.lh s.data.toList r.data.toList p) p 1 = q := ⟨_, rfl⟩
  rw [hq] at hq0
  obtain ⟨_, a2, a3, a4, a5, a6, a7, a8⟩ := Seek.goV_ok (n := 1) hR hP (show Seek.nth (Seek.ons 84) (Seek.lh s.data.toList r.data.toList p) p (Seek.times 1) = q from hq) (Int.not_lt.1 hq0)
  have BT := Lib.hid (fun (y : Int) => Seek.goV_between hR hP hq (Int.not_lt.1 hq0) y)
  have A := fun (w : World) (hm : MaxAt w) => seek_Go s p 84 r 1 (by omega) (by omega) (by omega) w hm
  have B := fun (w : World) (hm : MaxAt w) => seek_Go s p 84 r n (by omega) (by omega) hn w hm
  simp only [Seek.res_at h1] at A
  simp only [Seek.res_no hM] at B
  obtain ⟨Q, hQ⟩ : ∃ Q, Seek.goV s.data.toList p 84 r.data.toList 1 = Q := ⟨_, rfl⟩
  rw [hQ] at a2 a4 a5 a6 h1
  simp only [hQ] at A
  have CO := fun (x : Int) w => line_Of s x (by omega) w
  have CO1 := CO Q
  rw [a5] at CO1
  have CO1 := Lib.hid CO1
  have CO2 := Lib.hid (CO p)
  have CP := fun w => utf_Place s Q (by omega) w
  rw [a4] at CP
  have CP := Lib.hid CP
  have CU := fun (x : Int) w => utf_Rune s x (by omega) w
  have CU1 := CU q
  rw [a3, bs_data] at CU1
  have CU1 := Lib.hid CU1
  have CU := Lib.hid CU
  have hpb := Seek.place_in hP
  have hqb := Seek.rune_in (Utf.one_ne (Seek.right_iff.1 hR).2.1) a3
  rw [hl] at hpb hqb
  have a7 : q < p := a8 rfl
  have CA := fun w => utf_Prev s Q (by omega) w
  rw [show Utf.prev s.data.toList Q = q from a6] at CA
  have CA := Lib.hid CA
  have hmin : min q p = q := by omega
  have hmax : max q p = p := by omega
  rw [hmin, hmax] at BT
  have hwl : IntKind.i64.wrap (q + 1) = q + 1 := seek_wrap (by omega) (by omega)
  have ha1 : decide (p < q) = false := by simp; omega
  have ha2 : ¬ p < q := by omega
  have hb1 : Hid (q < p ∧ -1 ≤ q ∧ p ≤ s.size) := ⟨by omega, by omega, by omega⟩
  have hsz := Lib.hid hs
  have hE : (r.toList == r.toList) = true := beq_self_eq_true _
  have A := Lib.hid A
  have B := Lib.hid B
  clear hs hr hn hm hR hP h1 hM hl hq hq0 a2 a3 a4 a5 a7 a8 hpb hqb hQ a6
  generalize Line.of_ s.data.toList p = ln at *
  go_enter Try.func5, Try.ntmps5
  go_wp2_with fail
  refine (A.out _ (HM.out _ hX)).mono ?_
  rintro e w1 ⟨rfl, hb1⟩
  replace hX := below_onr hX hb1
  obtain ⟨c0, c1⟩ := CELL.out _ hX
  clear hb1
  go_wp2_with fail
  refine (B.out _ (HM.out _ hX)).mono ?_
  rintro e w1 ⟨rfl, hb1⟩
  replace hX := below_onr hX hb1
  obtain ⟨c0, c1⟩ := CELL.out _ hX
  clear hb1
  go_wp2_with fail
  refine (CO1.out _).mono ?_
  rintro e w1 ⟨rfl, hb1⟩
  replace hX := below_onr hX hb1
  obtain ⟨c0, c1⟩ := CELL.out _ hX
  clear hb1
  go_wp2_with fail
  refine (CO2.out _).mono ?_
  rintro e w1 ⟨rfl, hb1⟩
  replace hX := below_onr hX hb1
  obtain ⟨c0, c1⟩ := CELL.out _ hX
  clear hb1
  go_wp2_with fail
  refine (CP.out _).mono ?_
  rintro e w1 ⟨rfl, rfl⟩
  go_wp2_with fail
  refine (CA.out _).mono ?_
  rintro e w1 ⟨rfl, rfl⟩
  go_wp2_with fail
  go_region_held3 (fun u => u.cell? ⟨w.heap.size, 0, none⟩ = some (.int .i64 84) ∧ u.cell? ⟨w.heap.size, 1, none⟩ = some (.string r)) (first | (with_reducible exact ⟨by assumption, by assumption⟩) | go_keep)
    (first
      | (go_at_call 18; with_reducible refine (CU1.out _).mono ?_; rintro e w6 ⟨rfl, hb6⟩; (first | (with_reducible replace hX := below_onr hX hb6) | (with_reducible replace hX := below_onrd hX hb6)); obtain ⟨c0, c1⟩ := CELL.out _ hX))
  go_wp2
  go_loopw [14] (fun iv wr => ∃ y : Int, iv = .int .i64 y ∧ Hid (q < y ∧ y ≤ p) ∧ Below (w.alloc (findO 84 r)).heap.size (w.alloc (findO 84 r)) wr) (fun iv _ => (p - intOf iv).toNat)
  case atStart => exact ⟨q + 1, rfl, ⟨by omega, by have := hb1.out; omega⟩, hX⟩
  case round =>
    clear hX c0 c1
    obtain ⟨y, rfl, hy, hX⟩ := hrel
    obtain ⟨c0, c1⟩ := CELL.out _ hX
    by_cases hlt : y < p
    · have gy : decide (y < p) = true := by simp [hlt]
      have hne := BT.out y hy.out.1 hlt
      have CUY := Lib.hid (CU.out y)
      have E := (text_differs hne).1
      have hwy : IntKind.i64.wrap (y + 1) = y + 1 := seek_wrap (by have := hb1.out; have := hy.out; omega) (by have := hb1.out; have := hy.out; have := hsz.out; omega)
      have hy2 : Hid (q < y + 1 ∧ y + 1 ≤ p) := ⟨by have := hy.out; omega, by omega⟩
      have hlt := Lib.hid hlt
      clear hne hy
      generalize bs (Utf.rune s.data.toList y) = RR at *
      go_wp2_with fail
      go_region_held3 (fun u => u.cell? ⟨w.heap.size, 0, none⟩ = some (.int .i64 84) ∧ u.cell? ⟨w.heap.size, 1, none⟩ = some (.string r)) (first | (with_reducible exact ⟨by assumption, by assumption⟩) | go_keep)
        (first
          | (go_at_call 18; with_reducible refine (CUY.out _).mono ?_; rintro e w6 ⟨rfl, hb6⟩; (first | (with_reducible replace hX := below_onr hX hb6) | (with_reducible replace hX := below_onrd hX hb6)); obtain ⟨c0, c1⟩ := CELL.out _ hX))
      go_wp2
      go_roundw
      case rel => exact ⟨y + 1, by go_num, hy2, hX⟩
      case measure => have := hlt.out; simp [intOf]; omega
    · have gy : decide (y < p) = false := by simp; omega
      clear hlt hy
      go_wp2_with fail
      refine (seek_lives _ (HM.out _ hX)).mono ?_
      rintro e w1 ⟨rfl, hb1⟩
      replace hX := below_onr hX hb1
      obtain ⟨c0, c1⟩ := CELL.out _ hX
      clear hb1
      go_wp2
      go_ret
      exact ⟨rfl, h0.trans (hX.mono h0.size)⟩
set_option maxHeartbeats 1000000 in
set_option maxRecDepth 100000 in
theorem seekLeads_walk (s : ByteArray) (p k : Int) (r : ByteArray) (n : Int) (hr : r.size ≤ 140737488351232) (hn : n ≤ 9223372036854775807) (w : World) (hm : MaxAt w) :
    Calls Try.prog 5 #[.string s, .int .i64 p, findV k r, .int .i64 n] w fun e w' => e = .returned (.bool true) ∧ Below w.heap.size w w' := by
  by_cases hs : 300 < s.size
  · exact seekLeads_wide s p k r n hs w hm
  by_cases h1 : Seek.goV s.data.toList p k r.data.toList 1 < 0
  · exact seekLeads_no s p k r n hs hr hn w hm h1
  have h1' := Int.not_lt.1 h1
  cases hR : Seek.right k r.data.toList with
  | false => rw [Seek.goV_off (.inl hR)] at h1'; omega
  | true =>
    cases hP : Utf.place s.data.toList p with
    | false => rw [Seek.goV_off (.inr hP)] at h1'; omega
    | true =>
      by_cases hM : Seek.goV s.data.toList p k r.data.toList n < 0
      · rcases (Seek.right_iff.1 hR).1 with rfl | rfl | rfl | rfl
        · exact seekLeads_f_less s p r n hs hr hn w hm hR hP h1' hM
        · exact seekLeads_bigF_less s p r n hs hr hn w hm hR hP h1' hM
        · exact seekLeads_t_less s p r n hs hr hn w hm hR hP h1' hM
        · exact seekLeads_bigT_less s p r n hs hr hn w hm hR hP h1' hM
      · have hM' := Int.not_lt.1 hM
        rcases (Seek.right_iff.1 hR).1 with rfl | rfl | rfl | rfl
        · exact seekLeads_f_more s p r n hs hr hn w hm hR hP h1' hM'
        · exact seekLeads_bigF_more s p r n hs hr hn w hm hR hP h1' hM'
        · exact seekLeads_t_more s p r n hs hr hn w hm hR hP h1' hM'
        · exact seekLeads_bigT_more s p r n hs hr hn w hm hR hP h1' hM'
section
open Go.ChangeShapes Go.WideShapes Go.ChangeAt
open Go.ChangeMaps (open_string)
set_option maxRecDepth 100000 in
theorem seekLeads_lifted (os : Os) (started : os.Started) (H : Type) (enc : TypeId × Value → H) :
    ReturnsInHanded {} Try.checked os 5 .any (Rows.seekLeadsSpec.pre6 enc Try.prog Try.f5 Rows.seekLeadsRow.domain false) (Rows.seekLeadsSpec.post enc Try.prog Try.f5 false true false false) := by
  refine returnsInHanded_of_change_shaped (C := Try.checked) own_knob started (by kernel_rfl) Try.func5
    (ChangeSpec.witness6 (enc := enc) (C := Try.checked) false ⟨#[], #[.string .empty, .int .i64 0, .agg #[.int .i64 0, .string .empty], .int .i64 0], []⟩ 8 (by kernel_rfl) (by kernel_rfl) (by kernel_rfl) (by kernel_rfl)) ?_
  intro W base args ds gs before hval0 hW _ hsz0 hsh _
  have hsz : (DataW.weightsEach Try.prog (Try.f5.params.toList ++ Rows.seekLeadsSpec.plain.varTypes Try.prog) (ds ++ gs)).all (· ≤ reachBytes) = true := hsz0
  clear hsz0
  have hval : ∀ (j : Nat) t v, Try.f5.params[j]? = some t → args[j]? = some v → Value.okWide Try.prog W .any base t v := hval0
  have hW' := hW
  obtain ⟨p, q, hA0, hV, rfl, hfz, hnd⟩ := hW
  have hA : DataW.TrodAll enc Try.prog W 0 (fun _ => true) true Try.f5.params.toList args.toList ds p := hA0
  rw [Try.params5] at hA hval hsz
  obtain ⟨v0, vs0, d0, ds0, p0, q0, hargs, rfl, rfl, h0, r0⟩ := trodAll_cons hA
  obtain ⟨v1, vs1, d1, ds1, p1, q1, rfl, rfl, rfl, h1, r1⟩ := trodAll_cons r0
  obtain ⟨v2, vs2, d2, ds2, p2, q2, rfl, rfl, rfl, h2, r2⟩ := trodAll_cons r1
  obtain ⟨v3, vs3, d3, ds3, p3, q3, rfl, rfl, rfl, h3, r3⟩ := trodAll_cons r2
  obtain ⟨rfl, rfl, rfl⟩ := trodAll_nil r3
  obtain rfl : args = #[v0, v1, v2, v3] := by cases args; simp_all
  obtain ⟨rfl, rfl⟩ := trodVars_none hV
  obtain ⟨s0, rfl, rfl, rfl, hmax0⟩ := open_string Try.underlying9 (hval 0 9 v0 rfl rfl) h0
  have hs0 : s0.size ≤ 140737488351232 := by rw [← data_len]; exact sized_string hsz (j := 0) (t := 9) rfl rfl
  obtain ⟨n1, rfl, rfl, rfl, wn1⟩ := open_int Try.underlying3 (hval 1 3 v1 rfl rfl) h1
  obtain ⟨fk2, fr2, rfl, ⟨yc2, rfl⟩, wk2⟩ := open_find (hval 2 23 v2 rfl rfl) h2
  have hr2 : fr2.size ≤ 140737488351232 := by
    rw [← data_len]
    exact sized_find hsz (j := 2) rfl rfl
  obtain ⟨n3, rfl, rfl, rfl, wn3⟩ := open_int Try.underlying3 (hval 3 3 v3 rfl rfl) h3
  refine (seekLeads_walk s0 n1 fk2 fr2 n3 hr2 (seek_i64 wn3) _ (Try.laysM143.s1_3 W hsh)).mono fun e W' ⟨he, hb⟩ => ?_
  subst he
  exact ⟨_, rfl, law_post rfl rfl (by rw [Try.params5]; decide +kernel) ⟨rfl, rfl, rfl⟩ hW' hb⟩
theorem seekLeads_holds : Rows.SeekLeadsSaid :=
  OpenClaim.holds_of_wide 5 Try.f5 rfl rfl rfl rfl rfl rfl rfl ⟨rfl, rfl, rfl, rfl, rfl⟩ rfl rfl rfl rfl rfl (by kernel_rfl) Try.func5 (by kernel_rfl)
    (of_decide_eq_true (by kernel_rfl)) (by unfold Func.isWrapper; first | (rw [if_pos (by decide +kernel)]; kernel_rfl) | (rw [if_neg (by decide +kernel)]; exact ⟨rfl, rfl⟩))
    (fun os started H enc _ => seekLeads_lifted os started H enc)
end
end Go.Proofs.Ytkhihmkpmlokiaa
