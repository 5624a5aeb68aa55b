/-
  What a motion begins from, as the program holds it: its count, and the place of a column of its line; and one motion.
-/
import Derived.Test.YtdmgjaobkfjgpaaMoveMap
import Derived.Test.YtdmgjaobkfjgpaaLineClamp
import Derived.Deep.RegionHeld3
namespace Go.Proofs.Ytdmgjaobkfjgpaa
open Go.RowKit
/-- What a motion begins from. -/
abbrev fromV (s : ByteArray) (p k last n want : Int) : Value := .agg #[.string s, .int .i64 p, .int .i64 k, .int .i64 last, .int .i64 n, .int .i64 want]
/-- It lies in block g. -/
abbrev fromO (s : ByteArray) (p k last n want : Int) : Obj := .cells #[.string s, .int .i64 p, .int .i64 k, .int .i64 last, .int .i64 n, .int .i64 want] 39
def FromAt (u : World) (g : Nat) (s : ByteArray) (p k last n want : Int) : Prop :=
  u.cell? ⟨g, 0, none⟩ = some (.string s) ∧ u.cell? ⟨g, 1, none⟩ = some (.int .i64 p) ∧ u.cell? ⟨g, 2, none⟩ = some (.int .i64 k) ∧ u.cell? ⟨g, 3, none⟩ = some (.int .i64 last) ∧ u.cell? ⟨g, 4, none⟩ = some (.int .i64 n) ∧ u.cell? ⟨g, 5, none⟩ = some (.int .i64 want)
theorem fromAt_new (w : World) (s : ByteArray) (p k last n want : Int) : FromAt (w.alloc (fromO s p k last n want)) w.heap.size s p k last n want := by
  have b0 := Blk.new w 39 #[.string s, .int .i64 p, .int .i64 k, .int .i64 last, .int .i64 n, .int .i64 want]
  exact ⟨b0.cell 0, b0.cell 1, b0.cell 2, b0.cell 3, b0.cell 4, b0.cell 5⟩
theorem fromAt_below (w : World) (s : ByteArray) (p k last n want : Int) {u : World} (h : Below (w.alloc (fromO s p k last n want)).heap.size (w.alloc (fromO s p k last n want)) u) : FromAt u w.heap.size s p k last n want := by
  have b0 := (Blk.new w 39 #[.string s, .int .i64 p, .int .i64 k, .int .i64 last, .int .i64 n, .int .i64 want])
  have b1 := b0.below h b0.lt
  exact ⟨b1.cell 0, b1.cell 1, b1.cell 2, b1.cell 3, b1.cell 4, b1.cell 5⟩
theorem from_new (w : World) (s : ByteArray) (p k last n want : Int) : Below w.heap.size w (w.alloc (fromO s p k last n want)) := (Below.refl _ w).alloc (Nat.le_refl _) _
set_option maxRecDepth 100000 in
theorem move_times (s : ByteArray) (p k last n want : Int) (w : World) :
    Calls Try.prog 51 #[fromV s p k last n want] w fun e w' => e = .returned (.int .i64 (max n 1)) ∧ Below w.heap.size w w' := by
  obtain ⟨c0, c1, c2, c3, c4, c5⟩ := fromAt_new w s p k last n want
  have h0 := from_new w s p k last n want
  by_cases hn : n < 1
  · have e : max n 1 = 1 := by omega
    rw [e]
    go_enter Try.func51, Try.ntmps51
    go_wp2
    go_ret
    exact ⟨rfl, h0⟩
  · have e : max n 1 = n := by omega
    rw [e]
    go_enter Try.func51, Try.ntmps51
    go_wp2
    go_ret
    exact ⟨rfl, h0⟩
set_option maxRecDepth 100000 in
theorem move_across (s : ByteArray) (hs : s.size ≤ 1000000000000) (p k last n want col : Int) (w : World) :
    Calls Try.prog 50 #[fromV s p k last n want, .int .i64 col] w fun e w' => e = .returned (.int .i64 (Line.at_ s.data.toList k col)) ∧ Below w.heap.size w w' := by
  obtain ⟨c0, c1, c2, c3, c4, c5⟩ := fromAt_new w s p k last n want
  have h0 := from_new w s p k last n want
  have C := Lib.hid (fun w => line_At s k col hs w)
  generalize Line.at_ s.data.toList k col = a at *
  go_enter Try.func50, Try.ntmps50
  go_wp2_with (go_at_call 54; refine (C.out _).mono ?_; rintro e w1 ⟨rfl, hb⟩)
  go_ret
  exact ⟨rfl, h0.trans (hb.mono h0.size)⟩
theorem below_on {w u v : World} (h : Below w.heap.size w u) (g : Below u.heap.size u v) : Below w.heap.size w v := h.trans (g.mono h.size)
theorem below_ond {w u v : World} (h : Below w.heap.size w u) (g : Below u.drew.heap.size u.drew v) : Below w.heap.size w v := h.trans (((below_gb (gb_drew u none)).trans g).mono h.size)
-- THE MOTIONS, BY PROGRAM
set_option maxHeartbeats 1000000 in
set_option maxRecDepth 100000 in
theorem move_left_no (s : ByteArray) (hs : s.size ≤ 1000000000000) {p k last n want : Int} (hp : p = Line.start s.data.toList k) (w : World) :
    Calls Try.prog 30 #[fromV s p k last n want] w fun e w' => e = .returned (.int .i64 (-1)) ∧ Below w.heap.size w w' := by
  obtain ⟨c0, c1, c2, c3, c4, c5⟩ := fromAt_new w s p k last n want
  have h0 := from_new w s p k last n want
  have CELL := Lib.hid (fun u h => fromAt_below w s p k last n want (u := u) h)
  have hX := Below.refl (w.alloc (fromO s p k last n want)).heap.size (w.alloc (fromO s p k last n want))
  have C1 := Lib.hid (fun w => line_Start s k hs w)
  have g1 : (p == Line.start s.data.toList k) = true := by rw [beq_iff_eq]; exact hp
  generalize Line.start s.data.toList k = st at *
  clear hp
  go_enter Try.func30, Try.ntmps30
  go_wp2_with fail
  go_region_held3 (fun u => u.cell? ⟨w.heap.size, 0, none⟩ = some (.string s) ∧ u.cell? ⟨w.heap.size, 1, none⟩ = some (.int .i64 p) ∧ u.cell? ⟨w.heap.size, 2, none⟩ = some (.int .i64 k) ∧ u.cell? ⟨w.heap.size, 3, none⟩ = some (.int .i64 last) ∧ u.cell? ⟨w.heap.size, 4, none⟩ = some (.int .i64 n) ∧ u.cell? ⟨w.heap.size, 5, none⟩ = some (.int .i64 want))
    (first | exact ⟨by assumption, by assumption, by assumption, by assumption, by assumption, by assumption⟩ | go_keep)
    (first
      | (go_at_call 49; (with_reducible refine (C1.out _).mono ?_); rintro e u ⟨rfl, hb1⟩; (first | replace hX := below_on hX hb1 | replace hX := below_ond hX hb1); obtain ⟨d0, d1, d2, d3, d4, d5⟩ := CELL.out _ hX))
  go_wp2
  go_ret
  exact ⟨rfl, h0.trans (hX.mono h0.size)⟩
set_option maxHeartbeats 1000000 in
set_option maxRecDepth 100000 in
theorem move_left (s : ByteArray) (hs : s.size ≤ 1000000000000) {p k last n want : Int} (hp : p ≠ Line.start s.data.toList k) (hc : IntKind.i64.wrap (Line.column s.data.toList p - max n 1) = Line.column s.data.toList p - max n 1) (w : World) :
    Calls Try.prog 30 #[fromV s p k last n want] w fun e w' => e = .returned (.int .i64 (Line.at_ s.data.toList k (Line.column s.data.toList p - max n 1))) ∧ Below w.heap.size w w' := by
  obtain ⟨c0, c1, c2, c3, c4, c5⟩ := fromAt_new w s p k last n want
  have h0 := from_new w s p k last n want
  have CELL := Lib.hid (fun u h => fromAt_below w s p k last n want (u := u) h)
  have hX := Below.refl (w.alloc (fromO s p k last n want)).heap.size (w.alloc (fromO s p k last n want))
  have C1 := Lib.hid (fun w => line_Start s k hs w)
  have C2 := Lib.hid (fun w => line_Column s p hs w)
  have CT := Lib.hid (fun w => move_times s p k last n want w)
  have C4 := Lib.hid (fun w => move_across s hs p k last n want (Line.column s.data.toList p - max n 1) w)
  have g1 : (p == Line.start s.data.toList k) = false := by rw [beq_eq_false_iff_ne]; exact hp
  generalize Line.at_ s.data.toList k (Line.column s.data.toList p - max n 1) = a at *
  generalize Line.column s.data.toList p = c at *
  generalize Line.start s.data.toList k = st at *
  generalize max n 1 = t at *
  generalize hq : c - t = q at *
  go_enter Try.func30, Try.ntmps30
  clear hp
  go_wp2_with fail
  go_region_held3 (fun u => u.cell? ⟨w.heap.size, 0, none⟩ = some (.string s) ∧ u.cell? ⟨w.heap.size, 1, none⟩ = some (.int .i64 p) ∧ u.cell? ⟨w.heap.size, 2, none⟩ = some (.int .i64 k) ∧ u.cell? ⟨w.heap.size, 3, none⟩ = some (.int .i64 last) ∧ u.cell? ⟨w.heap.size, 4, none⟩ = some (.int .i64 n) ∧ u.cell? ⟨w.heap.size, 5, none⟩ = some (.int .i64 want))
    (first | exact ⟨by assumption, by assumption, by assumption, by assumption, by assumption, by assumption⟩ | go_keep)
    (first
      | (go_at_call 49; (with_reducible refine (C1.out _).mono ?_); rintro e u ⟨rfl, hb1⟩; (first | replace hX := below_on hX hb1 | replace hX := below_ond hX hb1); obtain ⟨d0, d1, d2, d3, d4, d5⟩ := CELL.out _ hX))
  go_wp2_with fail
  go_region_held3 (fun u => u.cell? ⟨w.heap.size, 0, none⟩ = some (.string s) ∧ u.cell? ⟨w.heap.size, 1, none⟩ = some (.int .i64 p) ∧ u.cell? ⟨w.heap.size, 2, none⟩ = some (.int .i64 k) ∧ u.cell? ⟨w.heap.size, 3, none⟩ = some (.int .i64 last) ∧ u.cell? ⟨w.heap.size, 4, none⟩ = some (.int .i64 n) ∧ u.cell? ⟨w.heap.size, 5, none⟩ = some (.int .i64 want))
    (first | exact ⟨by assumption, by assumption, by assumption, by assumption, by assumption, by assumption⟩ | go_keep)
    (first
      | (go_at_call 14; (with_reducible refine (C2.out _).mono ?_); rintro e u ⟨rfl, hb1⟩; (first | replace hX := below_on hX hb1 | replace hX := below_ond hX hb1); obtain ⟨d0, d1, d2, d3, d4, d5⟩ := CELL.out _ hX)
      | (go_at_call 51; (with_reducible refine (CT.out _).mono ?_); rintro e u ⟨rfl, hb1⟩; (first | replace hX := below_on hX hb1 | replace hX := below_ond hX hb1); obtain ⟨d0, d1, d2, d3, d4, d5⟩ := CELL.out _ hX)
      | (go_at_call 50; (with_reducible refine (C4.out _).mono ?_); rintro e u ⟨rfl, hb1⟩; (first | replace hX := below_on hX hb1 | replace hX := below_ond hX hb1); obtain ⟨d0, d1, d2, d3, d4, d5⟩ := CELL.out _ hX))
  all_goals go_wp2
  all_goals go_ret
  all_goals exact ⟨rfl, h0.trans (hX.mono h0.size)⟩
set_option maxHeartbeats 1000000 in
set_option maxRecDepth 100000 in
theorem move_right_no (s : ByteArray) (hs : s.size ≤ 1000000000000) {p k last n want : Int} (hp : p = Line.stop s.data.toList k) (w : World) :
    Calls Try.prog 31 #[fromV s p k last n want] w fun e w' => e = .returned (.int .i64 (-1)) ∧ Below w.heap.size w w' := by
  obtain ⟨c0, c1, c2, c3, c4, c5⟩ := fromAt_new w s p k last n want
  have h0 := from_new w s p k last n want
  have CELL := Lib.hid (fun u h => fromAt_below w s p k last n want (u := u) h)
  have hX := Below.refl (w.alloc (fromO s p k last n want)).heap.size (w.alloc (fromO s p k last n want))
  have C1 := Lib.hid (fun w => line_End s k hs w)
  have g1 : (p == Line.stop s.data.toList k) = true := by rw [beq_iff_eq]; exact hp
  generalize Line.stop s.data.toList k = st at *
  clear hp
  go_enter Try.func31, Try.ntmps31
  go_wp2_with fail
  go_region_held3 (fun u => u.cell? ⟨w.heap.size, 0, none⟩ = some (.string s) ∧ u.cell? ⟨w.heap.size, 1, none⟩ = some (.int .i64 p) ∧ u.cell? ⟨w.heap.size, 2, none⟩ = some (.int .i64 k) ∧ u.cell? ⟨w.heap.size, 3, none⟩ = some (.int .i64 last) ∧ u.cell? ⟨w.heap.size, 4, none⟩ = some (.int .i64 n) ∧ u.cell? ⟨w.heap.size, 5, none⟩ = some (.int .i64 want))
    (first | exact ⟨by assumption, by assumption, by assumption, by assumption, by assumption, by assumption⟩ | go_keep)
    (first
      | (go_at_call 52; (with_reducible refine (C1.out _).mono ?_); rintro e u ⟨rfl, hb1⟩; (first | replace hX := below_on hX hb1 | replace hX := below_ond hX hb1); obtain ⟨d0, d1, d2, d3, d4, d5⟩ := CELL.out _ hX))
  go_wp2
  go_ret
  exact ⟨rfl, h0.trans (hX.mono h0.size)⟩
set_option maxHeartbeats 1000000 in
set_option maxRecDepth 100000 in
theorem move_right (s : ByteArray) (hs : s.size ≤ 1000000000000) {p k last n want : Int} (hp : p ≠ Line.stop s.data.toList k) (hc : IntKind.i64.wrap (Line.column s.data.toList p + max n 1) = Line.column s.data.toList p + max n 1) (w : World) :
    Calls Try.prog 31 #[fromV s p k last n want] w fun e w' => e = .returned (.int .i64 (Line.at_ s.data.toList k (Line.column s.data.toList p + max n 1))) ∧ Below w.heap.size w w' := by
  obtain ⟨c0, c1, c2, c3, c4, c5⟩ := fromAt_new w s p k last n want
  have h0 := from_new w s p k last n want
  have CELL := Lib.hid (fun u h => fromAt_below w s p k last n want (u := u) h)
  have hX := Below.refl (w.alloc (fromO s p k last n want)).heap.size (w.alloc (fromO s p k last n want))
  have C1 := Lib.hid (fun w => line_End s k hs w)
  have C2 := Lib.hid (fun w => line_Column s p hs w)
  have CT := Lib.hid (fun w => move_times s p k last n want w)
  have C4 := Lib.hid (fun w => move_across s hs p k last n want (Line.column s.data.toList p + max n 1) w)
  have g1 : (p == Line.stop s.data.toList k) = false := by rw [beq_eq_false_iff_ne]; exact hp
  generalize Line.at_ s.data.toList k (Line.column s.data.toList p + max n 1) = a at *
  generalize Line.column s.data.toList p = c at *
  generalize Line.stop s.data.toList k = st at *
  generalize max n 1 = t at *
  generalize hq : c + t = q at *
  go_enter Try.func31, Try.ntmps31
  clear hp
  go_wp2_with fail
  go_region_held3 (fun u => u.cell? ⟨w.heap.size, 0, none⟩ = some (.string s) ∧ u.cell? ⟨w.heap.size, 1, none⟩ = some (.int .i64 p) ∧ u.cell? ⟨w.heap.size, 2, none⟩ = some (.int .i64 k) ∧ u.cell? ⟨w.heap.size, 3, none⟩ = some (.int .i64 last) ∧ u.cell? ⟨w.heap.size, 4, none⟩ = some (.int .i64 n) ∧ u.cell? ⟨w.heap.size, 5, none⟩ = some (.int .i64 want))
    (first | exact ⟨by assumption, by assumption, by assumption, by assumption, by assumption, by assumption⟩ | go_keep)
    (first
      | (go_at_call 52; (with_reducible refine (C1.out _).mono ?_); rintro e u ⟨rfl, hb1⟩; (first | replace hX := below_on hX hb1 | replace hX := below_ond hX hb1); obtain ⟨d0, d1, d2, d3, d4, d5⟩ := CELL.out _ hX))
  go_wp2_with fail
  go_region_held3 (fun u => u.cell? ⟨w.heap.size, 0, none⟩ = some (.string s) ∧ u.cell? ⟨w.heap.size, 1, none⟩ = some (.int .i64 p) ∧ u.cell? ⟨w.heap.size, 2, none⟩ = some (.int .i64 k) ∧ u.cell? ⟨w.heap.size, 3, none⟩ = some (.int .i64 last) ∧ u.cell? ⟨w.heap.size, 4, none⟩ = some (.int .i64 n) ∧ u.cell? ⟨w.heap.size, 5, none⟩ = some (.int .i64 want))
    (first | exact ⟨by assumption, by assumption, by assumption, by assumption, by assumption, by assumption⟩ | go_keep)
    (first
      | (go_at_call 14; (with_reducible refine (C2.out _).mono ?_); rintro e u ⟨rfl, hb1⟩; (first | replace hX := below_on hX hb1 | replace hX := below_ond hX hb1); obtain ⟨d0, d1, d2, d3, d4, d5⟩ := CELL.out _ hX)
      | (go_at_call 51; (with_reducible refine (CT.out _).mono ?_); rintro e u ⟨rfl, hb1⟩; (first | replace hX := below_on hX hb1 | replace hX := below_ond hX hb1); obtain ⟨d0, d1, d2, d3, d4, d5⟩ := CELL.out _ hX)
      | (go_at_call 50; (with_reducible refine (C4.out _).mono ?_); rintro e u ⟨rfl, hb1⟩; (first | replace hX := below_on hX hb1 | replace hX := below_ond hX hb1); obtain ⟨d0, d1, d2, d3, d4, d5⟩ := CELL.out _ hX))
  all_goals go_wp2
  all_goals go_ret
  all_goals exact ⟨rfl, h0.trans (hX.mono h0.size)⟩
set_option maxHeartbeats 1000000 in
set_option maxRecDepth 100000 in
theorem move_begin (s : ByteArray) (hs : s.size ≤ 1000000000000) {p k last n want : Int}  (w : World) :
    Calls Try.prog 32 #[fromV s p k last n want] w fun e w' => e = .returned (.int .i64 (Line.start s.data.toList k)) ∧ Below w.heap.size w w' := by
  obtain ⟨c0, c1, c2, c3, c4, c5⟩ := fromAt_new w s p k last n want
  have h0 := from_new w s p k last n want
  have CELL := Lib.hid (fun u h => fromAt_below w s p k last n want (u := u) h)
  have hX := Below.refl (w.alloc (fromO s p k last n want)).heap.size (w.alloc (fromO s p k last n want))
  have C1 := Lib.hid (fun w => line_Start s k hs w)
  generalize Line.start s.data.toList k = a at *
  go_enter Try.func32, Try.ntmps32
  go_wp2_with (first
      | (go_at_call 49; (with_reducible refine (C1.out _).mono ?_); rintro e u ⟨rfl, hb1⟩; (first | replace hX := below_on hX hb1 | replace hX := below_ond hX hb1); obtain ⟨d0, d1, d2, d3, d4, d5⟩ := CELL.out _ hX))
  go_ret
  exact ⟨rfl, h0.trans (hX.mono h0.size)⟩
set_option maxHeartbeats 1000000 in
set_option maxRecDepth 100000 in
theorem move_first (s : ByteArray) (hs : s.size ≤ 1000000000000) {p k last n want : Int}  (w : World) :
    Calls Try.prog 33 #[fromV s p k last n want] w fun e w' => e = .returned (.int .i64 (Line.first s.data.toList k)) ∧ Below w.heap.size w w' := by
  obtain ⟨c0, c1, c2, c3, c4, c5⟩ := fromAt_new w s p k last n want
  have h0 := from_new w s p k last n want
  have CELL := Lib.hid (fun u h => fromAt_below w s p k last n want (u := u) h)
  have hX := Below.refl (w.alloc (fromO s p k last n want)).heap.size (w.alloc (fromO s p k last n want))
  have C1 := Lib.hid (fun w => line_First s k hs w)
  generalize Line.first s.data.toList k = a at *
  go_enter Try.func33, Try.ntmps33
  go_wp2_with (first
      | (go_at_call 53; (with_reducible refine (C1.out _).mono ?_); rintro e u ⟨rfl, hb1⟩; (first | replace hX := below_on hX hb1 | replace hX := below_ond hX hb1); obtain ⟨d0, d1, d2, d3, d4, d5⟩ := CELL.out _ hX))
  go_ret
  exact ⟨rfl, h0.trans (hX.mono h0.size)⟩
set_option maxHeartbeats 1000000 in
set_option maxRecDepth 100000 in
theorem move_end (s : ByteArray) (hs : s.size ≤ 1000000000000) {p k last n want : Int} (g1 : IntKind.i64.wrap (k + max n 1) = k + max n 1) (g2 : IntKind.i64.wrap (k + max n 1 - 1) = k + max n 1 - 1) (w : World) :
    Calls Try.prog 34 #[fromV s p k last n want] w fun e w' => e = .returned (.int .i64 (Line.stop s.data.toList (k + max n 1 - 1))) ∧ Below w.heap.size w w' := by
  obtain ⟨c0, c1, c2, c3, c4, c5⟩ := fromAt_new w s p k last n want
  have h0 := from_new w s p k last n want
  have CELL := Lib.hid (fun u h => fromAt_below w s p k last n want (u := u) h)
  have hX := Below.refl (w.alloc (fromO s p k last n want)).heap.size (w.alloc (fromO s p k last n want))
  have CT := Lib.hid (fun w => move_times s p k last n want w)
  have C1 := Lib.hid (fun w => line_End s (k + max n 1 - 1) hs w)
  generalize Line.stop s.data.toList (k + max n 1 - 1) = a at *
  generalize hq2 : k + max n 1 - 1 = q2 at *
  generalize hq1 : k + max n 1 = q1 at *
  generalize max n 1 = t at *
  go_enter Try.func34, Try.ntmps34
  go_wp2_with fail
  go_region_held3 (fun u => u.cell? ⟨w.heap.size, 0, none⟩ = some (.string s) ∧ u.cell? ⟨w.heap.size, 1, none⟩ = some (.int .i64 p) ∧ u.cell? ⟨w.heap.size, 2, none⟩ = some (.int .i64 k) ∧ u.cell? ⟨w.heap.size, 3, none⟩ = some (.int .i64 last) ∧ u.cell? ⟨w.heap.size, 4, none⟩ = some (.int .i64 n) ∧ u.cell? ⟨w.heap.size, 5, none⟩ = some (.int .i64 want))
    (first | exact ⟨by assumption, by assumption, by assumption, by assumption, by assumption, by assumption⟩ | go_keep)
    (first
      | (go_at_call 51; (with_reducible refine (CT.out _).mono ?_); rintro e u ⟨rfl, hb1⟩; (first | replace hX := below_on hX hb1 | replace hX := below_ond hX hb1); obtain ⟨d0, d1, d2, d3, d4, d5⟩ := CELL.out _ hX)
      | (go_at_call 52; (with_reducible refine (C1.out _).mono ?_); rintro e u ⟨rfl, hb1⟩; (first | replace hX := below_on hX hb1 | replace hX := below_ond hX hb1); obtain ⟨d0, d1, d2, d3, d4, d5⟩ := CELL.out _ hX))
  all_goals go_wp2
  go_ret
  exact ⟨rfl, h0.trans (hX.mono h0.size)⟩
set_option maxHeartbeats 1000000 in
set_option maxRecDepth 100000 in
theorem move_column (s : ByteArray) (hs : s.size ≤ 1000000000000) {p k last n want : Int} (g1 : IntKind.i64.wrap (max n 1 - 1) = max n 1 - 1) (w : World) :
    Calls Try.prog 35 #[fromV s p k last n want] w fun e w' => e = .returned (.int .i64 (Line.at_ s.data.toList k (max n 1 - 1))) ∧ Below w.heap.size w w' := by
  obtain ⟨c0, c1, c2, c3, c4, c5⟩ := fromAt_new w s p k last n want
  have h0 := from_new w s p k last n want
  have CELL := Lib.hid (fun u h => fromAt_below w s p k last n want (u := u) h)
  have hX := Below.refl (w.alloc (fromO s p k last n want)).heap.size (w.alloc (fromO s p k last n want))
  have CT := Lib.hid (fun w => move_times s p k last n want w)
  have C1 := Lib.hid (fun w => move_across s hs p k last n want (max n 1 - 1) w)
  generalize Line.at_ s.data.toList k (max n 1 - 1) = a at *
  generalize hq1 : max n 1 - 1 = q1 at *
  generalize max n 1 = t at *
  go_enter Try.func35, Try.ntmps35
  go_wp2_with fail
  go_region_held3 (fun u => u.cell? ⟨w.heap.size, 0, none⟩ = some (.string s) ∧ u.cell? ⟨w.heap.size, 1, none⟩ = some (.int .i64 p) ∧ u.cell? ⟨w.heap.size, 2, none⟩ = some (.int .i64 k) ∧ u.cell? ⟨w.heap.size, 3, none⟩ = some (.int .i64 last) ∧ u.cell? ⟨w.heap.size, 4, none⟩ = some (.int .i64 n) ∧ u.cell? ⟨w.heap.size, 5, none⟩ = some (.int .i64 want))
    (first | exact ⟨by assumption, by assumption, by assumption, by assumption, by assumption, by assumption⟩ | go_keep)
    (first
      | (go_at_call 51; (with_reducible refine (CT.out _).mono ?_); rintro e u ⟨rfl, hb1⟩; (first | replace hX := below_on hX hb1 | replace hX := below_ond hX hb1); obtain ⟨d0, d1, d2, d3, d4, d5⟩ := CELL.out _ hX)
      | (go_at_call 50; (with_reducible refine (C1.out _).mono ?_); rintro e u ⟨rfl, hb1⟩; (first | replace hX := below_on hX hb1 | replace hX := below_ond hX hb1); obtain ⟨d0, d1, d2, d3, d4, d5⟩ := CELL.out _ hX))
  all_goals go_wp2
  go_ret
  exact ⟨rfl, h0.trans (hX.mono h0.size)⟩
set_option maxHeartbeats 1000000 in
set_option maxRecDepth 100000 in
theorem move_down_no (s : ByteArray) (_ : s.size ≤ 1000000000000) {p k last n want : Int} (hk : k = last) (w : World) :
    Calls Try.prog 36 #[fromV s p k last n want] w fun e w' => e = .returned (.int .i64 (-1)) ∧ Below w.heap.size w w' := by
  obtain ⟨c0, c1, c2, c3, c4, c5⟩ := fromAt_new w s p k last n want
  have h0 := from_new w s p k last n want
  have CELL := Lib.hid (fun u h => fromAt_below w s p k last n want (u := u) h)
  have hX := Below.refl (w.alloc (fromO s p k last n want)).heap.size (w.alloc (fromO s p k last n want))
  have g1 : (k == last) = true := by rw [beq_iff_eq]; exact hk
  clear hk
  go_enter Try.func36, Try.ntmps36
  go_wp2
  go_ret
  exact ⟨rfl, h0.trans (hX.mono h0.size)⟩
set_option maxHeartbeats 1000000 in
set_option maxRecDepth 100000 in
theorem move_down (s : ByteArray) (hs : s.size ≤ 1000000000000) {p k last n want : Int} (hk : k ≠ last) (g1 : IntKind.i64.wrap (k + max n 1) = k + max n 1) (w : World) :
    Calls Try.prog 36 #[fromV s p k last n want] w fun e w' => e = .returned (.int .i64 (Line.at_ s.data.toList (min (k + max n 1) last) want)) ∧ Below w.heap.size w w' := by
  obtain ⟨c0, c1, c2, c3, c4, c5⟩ := fromAt_new w s p k last n want
  have h0 := from_new w s p k last n want
  have CELL := Lib.hid (fun u h => fromAt_below w s p k last n want (u := u) h)
  have hX := Below.refl (w.alloc (fromO s p k last n want)).heap.size (w.alloc (fromO s p k last n want))
  have CT := Lib.hid (fun w => move_times s p k last n want w)
  have C1 := Lib.hid (fun w => line_At s (min (k + max n 1) last) want hs w)
  have g2 : (k == last) = false := by rw [beq_eq_false_iff_ne]; exact hk
  clear hk
  generalize Line.at_ s.data.toList (min (k + max n 1) last) want = a at *
  generalize hq1 : k + max n 1 = q1 at *
  generalize max n 1 = t at *
  go_enter Try.func36, Try.ntmps36
  go_wp2_with fail
  go_region_held3 (fun u => u.cell? ⟨w.heap.size, 0, none⟩ = some (.string s) ∧ u.cell? ⟨w.heap.size, 1, none⟩ = some (.int .i64 p) ∧ u.cell? ⟨w.heap.size, 2, none⟩ = some (.int .i64 k) ∧ u.cell? ⟨w.heap.size, 3, none⟩ = some (.int .i64 last) ∧ u.cell? ⟨w.heap.size, 4, none⟩ = some (.int .i64 n) ∧ u.cell? ⟨w.heap.size, 5, none⟩ = some (.int .i64 want))
    (first | exact ⟨by assumption, by assumption, by assumption, by assumption, by assumption, by assumption⟩ | go_keep)
    (first
      | (go_at_call 51; (with_reducible refine (CT.out _).mono ?_); rintro e u ⟨rfl, hb1⟩; (first | replace hX := below_on hX hb1 | replace hX := below_ond hX hb1); obtain ⟨d0, d1, d2, d3, d4, d5⟩ := CELL.out _ hX)
      | (go_at_call 54; (with_reducible refine (C1.out _).mono ?_); rintro e u ⟨rfl, hb1⟩; (first | replace hX := below_on hX hb1 | replace hX := below_ond hX hb1); obtain ⟨d0, d1, d2, d3, d4, d5⟩ := CELL.out _ hX))
  all_goals go_wp2
  go_ret
  exact ⟨rfl, h0.trans (hX.mono h0.size)⟩
set_option maxHeartbeats 1000000 in
set_option maxRecDepth 100000 in
theorem move_up_no (s : ByteArray) (_ : s.size ≤ 1000000000000) {p k last n want : Int} (hk : k = 0) (w : World) :
    Calls Try.prog 37 #[fromV s p k last n want] w fun e w' => e = .returned (.int .i64 (-1)) ∧ Below w.heap.size w w' := by
  obtain ⟨c0, c1, c2, c3, c4, c5⟩ := fromAt_new w s p k last n want
  have h0 := from_new w s p k last n want
  have CELL := Lib.hid (fun u h => fromAt_below w s p k last n want (u := u) h)
  have hX := Below.refl (w.alloc (fromO s p k last n want)).heap.size (w.alloc (fromO s p k last n want))
  have g1 : (k == 0) = true := by rw [beq_iff_eq]; exact hk
  clear hk
  go_enter Try.func37, Try.ntmps37
  go_wp2
  go_ret
  exact ⟨rfl, h0.trans (hX.mono h0.size)⟩
set_option maxHeartbeats 1000000 in
set_option maxRecDepth 100000 in
theorem move_up (s : ByteArray) (hs : s.size ≤ 1000000000000) {p k last n want : Int} (hk : k ≠ 0) (g1 : IntKind.i64.wrap (k - max n 1) = k - max n 1) (w : World) :
    Calls Try.prog 37 #[fromV s p k last n want] w fun e w' => e = .returned (.int .i64 (Line.at_ s.data.toList (max (k - max n 1) 0) want)) ∧ Below w.heap.size w w' := by
  obtain ⟨c0, c1, c2, c3, c4, c5⟩ := fromAt_new w s p k last n want
  have h0 := from_new w s p k last n want
  have CELL := Lib.hid (fun u h => fromAt_below w s p k last n want (u := u) h)
  have hX := Below.refl (w.alloc (fromO s p k last n want)).heap.size (w.alloc (fromO s p k last n want))
  have CT := Lib.hid (fun w => move_times s p k last n want w)
  have C1 := Lib.hid (fun w => line_At s (max (k - max n 1) 0) want hs w)
  have g2 : (k == 0) = false := by rw [beq_eq_false_iff_ne]; exact hk
  clear hk
  generalize Line.at_ s.data.toList (max (k - max n 1) 0) want = a at *
  generalize hq1 : k - max n 1 = q1 at *
  generalize max n 1 = t at *
  go_enter Try.func37, Try.ntmps37
  go_wp2_with fail
  go_region_held3 (fun u => u.cell? ⟨w.heap.size, 0, none⟩ = some (.string s) ∧ u.cell? ⟨w.heap.size, 1, none⟩ = some (.int .i64 p) ∧ u.cell? ⟨w.heap.size, 2, none⟩ = some (.int .i64 k) ∧ u.cell? ⟨w.heap.size, 3, none⟩ = some (.int .i64 last) ∧ u.cell? ⟨w.heap.size, 4, none⟩ = some (.int .i64 n) ∧ u.cell? ⟨w.heap.size, 5, none⟩ = some (.int .i64 want))
    (first | exact ⟨by assumption, by assumption, by assumption, by assumption, by assumption, by assumption⟩ | go_keep)
    (first
      | (go_at_call 51; (with_reducible refine (CT.out _).mono ?_); rintro e u ⟨rfl, hb1⟩; (first | replace hX := below_on hX hb1 | replace hX := below_ond hX hb1); obtain ⟨d0, d1, d2, d3, d4, d5⟩ := CELL.out _ hX)
      | (go_at_call 54; (with_reducible refine (C1.out _).mono ?_); rintro e u ⟨rfl, hb1⟩; (first | replace hX := below_on hX hb1 | replace hX := below_ond hX hb1); obtain ⟨d0, d1, d2, d3, d4, d5⟩ := CELL.out _ hX))
  all_goals go_wp2
  go_ret
  exact ⟨rfl, h0.trans (hX.mono h0.size)⟩
set_option maxHeartbeats 1000000 in
set_option maxRecDepth 100000 in
theorem move_top (s : ByteArray) (hs : s.size ≤ 1000000000000) {p k last n want : Int} (g1 : IntKind.i64.wrap (max n 1 - 1) = max n 1 - 1) (w : World) :
    Calls Try.prog 38 #[fromV s p k last n want] w fun e w' => e = .returned (.int .i64 (Line.first s.data.toList (min (max n 1 - 1) last))) ∧ Below w.heap.size w w' := by
  obtain ⟨c0, c1, c2, c3, c4, c5⟩ := fromAt_new w s p k last n want
  have h0 := from_new w s p k last n want
  have CELL := Lib.hid (fun u h => fromAt_below w s p k last n want (u := u) h)
  have hX := Below.refl (w.alloc (fromO s p k last n want)).heap.size (w.alloc (fromO s p k last n want))
  have CT := Lib.hid (fun w => move_times s p k last n want w)
  have C1 := Lib.hid (fun w => line_First s (min (max n 1 - 1) last) hs w)
  generalize Line.first s.data.toList (min (max n 1 - 1) last) = a at *
  generalize hq1 : max n 1 - 1 = q1 at *
  generalize max n 1 = t at *
  go_enter Try.func38, Try.ntmps38
  go_wp2_with fail
  go_region_held3 (fun u => u.cell? ⟨w.heap.size, 0, none⟩ = some (.string s) ∧ u.cell? ⟨w.heap.size, 1, none⟩ = some (.int .i64 p) ∧ u.cell? ⟨w.heap.size, 2, none⟩ = some (.int .i64 k) ∧ u.cell? ⟨w.heap.size, 3, none⟩ = some (.int .i64 last) ∧ u.cell? ⟨w.heap.size, 4, none⟩ = some (.int .i64 n) ∧ u.cell? ⟨w.heap.size, 5, none⟩ = some (.int .i64 want))
    (first | exact ⟨by assumption, by assumption, by assumption, by assumption, by assumption, by assumption⟩ | go_keep)
    (first
      | (go_at_call 51; (with_reducible refine (CT.out _).mono ?_); rintro e u ⟨rfl, hb1⟩; (first | replace hX := below_on hX hb1 | replace hX := below_ond hX hb1); obtain ⟨d0, d1, d2, d3, d4, d5⟩ := CELL.out _ hX)
      | (go_at_call 53; (with_reducible refine (C1.out _).mono ?_); rintro e u ⟨rfl, hb1⟩; (first | replace hX := below_on hX hb1 | replace hX := below_ond hX hb1); obtain ⟨d0, d1, d2, d3, d4, d5⟩ := CELL.out _ hX))
  all_goals go_wp2
  go_ret
  exact ⟨rfl, h0.trans (hX.mono h0.size)⟩
set_option maxHeartbeats 1000000 in
set_option maxRecDepth 100000 in
theorem move_bottom_last (s : ByteArray) (hs : s.size ≤ 1000000000000) {p k last n want : Int} (hn : n = 0) (w : World) :
    Calls Try.prog 39 #[fromV s p k last n want] w fun e w' => e = .returned (.int .i64 (Line.first s.data.toList last)) ∧ Below w.heap.size w w' := by
  obtain ⟨c0, c1, c2, c3, c4, c5⟩ := fromAt_new w s p k last n want
  have h0 := from_new w s p k last n want
  have CELL := Lib.hid (fun u h => fromAt_below w s p k last n want (u := u) h)
  have hX := Below.refl (w.alloc (fromO s p k last n want)).heap.size (w.alloc (fromO s p k last n want))
  have C1 := Lib.hid (fun w => line_First s last hs w)
  have g2 : (n == 0) = true := by rw [beq_iff_eq]; exact hn
  clear hn
  generalize Line.first s.data.toList last = a at *
  go_enter Try.func39, Try.ntmps39
  go_wp2_with (first
      | (go_at_call 53; (with_reducible refine (C1.out _).mono ?_); rintro e u ⟨rfl, hb1⟩; (first | replace hX := below_on hX hb1 | replace hX := below_ond hX hb1); obtain ⟨d0, d1, d2, d3, d4, d5⟩ := CELL.out _ hX))
  go_ret
  exact ⟨rfl, h0.trans (hX.mono h0.size)⟩
set_option maxHeartbeats 1000000 in
set_option maxRecDepth 100000 in
theorem move_bottom (s : ByteArray) (hs : s.size ≤ 1000000000000) {p k last n want : Int} (hn : n ≠ 0) (g1 : IntKind.i64.wrap (max n 1 - 1) = max n 1 - 1) (w : World) :
    Calls Try.prog 39 #[fromV s p k last n want] w fun e w' => e = .returned (.int .i64 (Line.first s.data.toList (min (max n 1 - 1) last))) ∧ Below w.heap.size w w' := by
  obtain ⟨c0, c1, c2, c3, c4, c5⟩ := fromAt_new w s p k last n want
  have h0 := from_new w s p k last n want
  have CELL := Lib.hid (fun u h => fromAt_below w s p k last n want (u := u) h)
  have hX := Below.refl (w.alloc (fromO s p k last n want)).heap.size (w.alloc (fromO s p k last n want))
  have C1 := Lib.hid (fun w => move_top s hs (p := p) (k := k) (last := last) (n := n) (want := want) g1 w)
  have g2 : (n == 0) = false := by rw [beq_eq_false_iff_ne]; exact hn
  clear hn g1
  generalize Line.first s.data.toList (min (max n 1 - 1) last) = a at *
  go_enter Try.func39, Try.ntmps39
  go_wp2_with (first
      | (go_at_call 38; (with_reducible refine (C1.out _).mono ?_); rintro e u ⟨rfl, hb1⟩; (first | replace hX := below_on hX hb1 | replace hX := below_ond hX hb1); obtain ⟨d0, d1, d2, d3, d4, d5⟩ := CELL.out _ hX))
  go_ret
  exact ⟨rfl, h0.trans (hX.mono h0.size)⟩
end Go.Proofs.Ytdmgjaobkfjgpaa
