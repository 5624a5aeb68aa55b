/-
  'calamuslaw23.OperBack' answers true for every text, places and number: lines shifted right and left again are as they were, letters flipped twice, too; one line is left of those that are joined, and the text is no longer than it was. The row lists two tables of utf8 that the walk never reads.
-/
import Derived.Test.YtfhljddakhigdaaDoorJ1
import Derived.Test.YtfhljddakhigdaaDoorJG
import Derived.Test.YtfhljddakhigdaaDoorJ2
import Derived.Test.YtfhljddakhigdaaDoorJS
import Derived.Test.YtfhljddakhigdaaDoorLineCount
import Derived.Test.YtfhljddakhigdaaDoorFrame
import Derived.Test.YtfhljddakhigdaaDoorCards
import Derived.Test.YtfhljddakhigdaaDoorTie
import Derived.Lay
import Derived.Handed
import Derived.LaidLaws
import Derived.SevenTiedAt
import Derived.MakeChecks
/-
  Package span: what a motion of a kind goes over.
-/
namespace Go.Proofs.YtfhljddakhigdaaDoor
open Go.RowKit
open Span (starts ends rng res top)
namespace Span
theorem top_ends {s : List UInt8} {q : Int} (h : Utf.place s q = true) : top s q = if ends s q.toNat = true then q else Utf.next s q := by
  obtain ⟨n, k, x, rfl, hx, h1, h2, _, _, _, hst⟩ := Line.place_line h
  rw [top, hst, Int.toNat_natCast, ends_at hx h1 h2]
  rcases Nat.lt_or_ge n x.2 with h3 | h3
  · rw [if_pos (by omega), if_neg (by simp; omega)]
  · rw [if_neg (by omega), if_pos (by simp; omega)]
end Span
set_option maxHeartbeats 1000000 in
set_option maxRecDepth 100000 in
theorem span_Of_p (s : ByteArray) (p q kind : Int) (hs : s.size ≤ 1000000000000) (h1 : Utf.place s.data.toList p = false) (w : World) :
    Calls Tryd.prog 21 #[.string s, .int .i64 p, .int .i64 q, .int .i64 kind] w fun e w' => e = .returned (.tuple #[.agg #[.int .i64 0, .int .i64 0, .bool false], .bool false]) ∧ Below w.heap.size w w' := by
  have P1 := Lib.hid (fun w => utf_Place s p (by omega) w)
  have P2 := Lib.hid (fun w => utf_Place s q (by omega) w)
  rw [h1] at P1
  clear hs h1 P2
  go_enter Tryd.func21, Tryd.ntmps21
  go_wp2_with (first
    | (go_at_call 18; (with_reducible refine (P1.out _).mono ?_); rintro e u ⟨rfl, rfl⟩))
  exact ret_three1 rfl rfl (Blk.new _ _ _) rfl Tryd.underlying23 rfl ⟨rfl, (Below.refl w.heap.size w).alloc (Nat.le_refl _) _⟩
set_option maxHeartbeats 1000000 in
set_option maxRecDepth 100000 in
theorem span_Of_q (s : ByteArray) (p q kind : Int) (hs : s.size ≤ 1000000000000) (h1 : Utf.place s.data.toList p = true) (h2 : Utf.place s.data.toList q = false) (w : World) :
    Calls Tryd.prog 21 #[.string s, .int .i64 p, .int .i64 q, .int .i64 kind] w fun e w' => e = .returned (.tuple #[.agg #[.int .i64 0, .int .i64 0, .bool false], .bool false]) ∧ Below w.heap.size w w' := by
  have P1 := Lib.hid (fun w => utf_Place s p (by omega) w)
  have P2 := Lib.hid (fun w => utf_Place s q (by omega) w)
  rw [h1] at P1
  rw [h2] at P2
  clear hs h1 h2
  go_enter Tryd.func21, Tryd.ntmps21
  go_wp2_with (first
    | (go_at_call 18; (with_reducible refine (P1.out _).mono ?_); rintro e u ⟨rfl, rfl⟩)
    | (go_at_call 18; (with_reducible refine (P2.out _).mono ?_); rintro e u ⟨rfl, rfl⟩))
  exact ret_three1 rfl rfl (Blk.new _ _ _) rfl Tryd.underlying23 rfl ⟨rfl, (Below.refl w.heap.size w).alloc (Nat.le_refl _) _⟩
set_option maxHeartbeats 1000000 in
set_option maxRecDepth 100000 in
theorem span_Of_kind (s : ByteArray) (p q kind : Int) (hs : s.size ≤ 1000000000000) (h1 : Utf.place s.data.toList p = true) (h2 : Utf.place s.data.toList q = true) (k1 : kind ≠ 1) (k2 : kind ≠ 2) (k3 : kind ≠ 3) (w : World) :
    Calls Tryd.prog 21 #[.string s, .int .i64 p, .int .i64 q, .int .i64 kind] w fun e w' => e = .returned (.tuple #[.agg #[.int .i64 0, .int .i64 0, .bool false], .bool false]) ∧ Below w.heap.size w w' := by
  have P1 := Lib.hid (fun w => utf_Place s p (by omega) w)
  have P2 := Lib.hid (fun w => utf_Place s q (by omega) w)
  rw [h1] at P1
  rw [h2] at P2
  have g1 : (kind == 1) = false := by simpa using k1
  have g2 : (kind == 2) = false := by simpa using k2
  have g3 : (kind == 3) = false := by simpa using k3
  clear hs h1 h2 k1 k2 k3
  go_enter Tryd.func21, Tryd.ntmps21
  go_wp2_with (first
    | (go_at_call 18; (with_reducible refine (P1.out _).mono ?_); rintro e u ⟨rfl, rfl⟩)
    | (go_at_call 18; (with_reducible refine (P2.out _).mono ?_); rintro e u ⟨rfl, rfl⟩))
  exact ret_three1 rfl rfl (Blk.new _ _ _) rfl Tryd.underlying23 rfl ⟨rfl, (Below.refl w.heap.size w).alloc (Nat.le_refl _) _⟩
set_option maxHeartbeats 1000000 in
set_option maxRecDepth 100000 in
theorem span_Of_short (s : ByteArray) (p q : Int) (hs : s.size ≤ 1000000000000) (h1 : Utf.place s.data.toList p = true) (h2 : Utf.place s.data.toList q = true) (w : World) :
    Calls Tryd.prog 21 #[.string s, .int .i64 p, .int .i64 q, .int .i64 1] w fun e w' => e = .returned (.tuple #[.agg #[.int .i64 (min p q), .int .i64 (max p q), .bool false], .bool true]) ∧ Below w.heap.size w w' := by
  have P1 := Lib.hid (fun w => utf_Place s p (by omega) w)
  have P2 := Lib.hid (fun w => utf_Place s q (by omega) w)
  rw [h1] at P1
  rw [h2] at P2
  clear hs h1 h2
  go_enter Tryd.func21, Tryd.ntmps21
  go_wp2_with (first
    | (go_at_call 18; (with_reducible refine (P1.out _).mono ?_); rintro e u ⟨rfl, rfl⟩)
    | (go_at_call 18; (with_reducible refine (P2.out _).mono ?_); rintro e u ⟨rfl, rfl⟩))
  exact ret_three1 rfl rfl (Blk.new _ _ _) rfl Tryd.underlying23 rfl ⟨rfl, (Below.refl w.heap.size w).alloc (Nat.le_refl _) _⟩
set_option maxHeartbeats 1000000 in
set_option maxRecDepth 100000 in
theorem span_Of_edge (s : ByteArray) (p q : Int) (hs : s.size ≤ 1000000000000) (h1 : Utf.place s.data.toList p = true) (h2 : Utf.place s.data.toList q = true) (hE : ends s.data.toList (max p q).toNat = true) (w : World) :
    Calls Tryd.prog 21 #[.string s, .int .i64 p, .int .i64 q, .int .i64 2] w fun e w' => e = .returned (.tuple #[.agg #[.int .i64 (min p q), .int .i64 (max p q), .bool false], .bool true]) ∧ Below w.heap.size w w' := by
  have P1 := Lib.hid (fun w => utf_Place s p (by omega) w)
  have P2 := Lib.hid (fun w => utf_Place s q (by omega) w)
  rw [h1] at P1
  rw [h2] at P2
  have hm := Span.place_max h1 h2
  obtain ⟨m, hq, hmx⟩ := Line.place_nat hm
  rw [data_len] at hmx
  have E0 := fun w => span_ends s hmx w
  rw [← hq, show ends s.data.toList m = ends s.data.toList (max p q).toNat by rw [hq]; rfl, hE] at E0
  have E1 := Lib.hid E0
  clear hs h1 h2 hE hm hq hmx E0
  go_enter Tryd.func21, Tryd.ntmps21
  go_wp2_with (first
    | (go_at_call 18; (with_reducible refine (P1.out _).mono ?_); rintro e u ⟨rfl, rfl⟩)
    | (go_at_call 18; (with_reducible refine (P2.out _).mono ?_); rintro e u ⟨rfl, rfl⟩)
    | (go_at_call 52; (with_reducible refine (E1.out _).mono ?_); rintro e u ⟨rfl, rfl⟩))
  exact ret_three1 rfl rfl (Blk.new _ _ _) rfl Tryd.underlying23 rfl ⟨rfl, (Below.refl w.heap.size w).alloc (Nat.le_refl _) _⟩
set_option maxHeartbeats 1000000 in
set_option maxRecDepth 100000 in
theorem span_Of_rune (s : ByteArray) (p q : Int) (hs : s.size ≤ 1000000000000) (h1 : Utf.place s.data.toList p = true) (h2 : Utf.place s.data.toList q = true) (hE : ends s.data.toList (max p q).toNat = false) (w : World) :
    Calls Tryd.prog 21 #[.string s, .int .i64 p, .int .i64 q, .int .i64 2] w fun e w' => e = .returned (.tuple #[.agg #[.int .i64 (min p q), .int .i64 (Utf.next s.data.toList (max p q)), .bool false], .bool true]) ∧ Below w.heap.size w w' := by
  have P1 := Lib.hid (fun w => utf_Place s p (by omega) w)
  have P2 := Lib.hid (fun w => utf_Place s q (by omega) w)
  rw [h1] at P1
  rw [h2] at P2
  have hm := Span.place_max h1 h2
  obtain ⟨m, hq, hmx⟩ := Line.place_nat hm
  rw [data_len] at hmx
  have E0 := fun w => span_ends s hmx w
  rw [← hq, show ends s.data.toList m = ends s.data.toList (max p q).toNat by rw [hq]; rfl, hE] at E0
  have E1 := Lib.hid E0
  have N1 := Lib.hid (fun w => utf_Next s (max p q) (by omega) w)
  generalize Utf.next s.data.toList (max p q) = z at *
  clear hs h1 h2 hE hm hq hmx E0
  go_enter Tryd.func21, Tryd.ntmps21
  go_wp2_with (first
    | (go_at_call 18; (with_reducible refine (P1.out _).mono ?_); rintro e u ⟨rfl, rfl⟩)
    | (go_at_call 18; (with_reducible refine (P2.out _).mono ?_); rintro e u ⟨rfl, rfl⟩)
    | (go_at_call 52; (with_reducible refine (E1.out _).mono ?_); rintro e u ⟨rfl, rfl⟩)
    | (go_at_call 53; (with_reducible refine (N1.out _).mono ?_); rintro e u ⟨rfl, rfl⟩))
  exact ret_three1 rfl rfl (Blk.new _ _ _) rfl Tryd.underlying23 rfl ⟨rfl, (Below.refl w.heap.size w).alloc (Nat.le_refl _) _⟩
set_option maxHeartbeats 1000000 in
set_option maxRecDepth 100000 in
theorem span_Of_whole (s : ByteArray) (p q : Int) (hs : s.size ≤ 1000000000000) (h1 : Utf.place s.data.toList p = true) (h2 : Utf.place s.data.toList q = true) (w : World) :
    Calls Tryd.prog 21 #[.string s, .int .i64 p, .int .i64 q, .int .i64 3] w fun e w' => e = .returned (.tuple #[.agg #[.int .i64 (Line.start s.data.toList (Line.of_ s.data.toList (min p q))), .int .i64 (Line.stop s.data.toList (Line.of_ s.data.toList (max p q))), .bool true], .bool true]) ∧ Below w.heap.size w w' := by
  have P1 := Lib.hid (fun w => utf_Place s p (by omega) w)
  have P2 := Lib.hid (fun w => utf_Place s q (by omega) w)
  rw [h1] at P1
  rw [h2] at P2
  have K := RBox.new w 0 0 false
  obtain ⟨q0, q1, q2, f0, f1, f2⟩ := K.cells
  have A1 := Lib.hid (fun w => line_Of s (min p q) hs w)
  have A2 := Lib.hid (fun w => line_Start s (Line.of_ s.data.toList (min p q)) hs w)
  have A3 := Lib.hid (fun w => line_Of s (max p q) hs w)
  have A4 := Lib.hid (fun w => line_End s (Line.of_ s.data.toList (max p q)) hs w)
  generalize Line.start s.data.toList (Line.of_ s.data.toList (min p q)) = x at *
  generalize Line.stop s.data.toList (Line.of_ s.data.toList (max p q)) = y at *
  generalize Line.of_ s.data.toList (min p q) = i at *
  generalize Line.of_ s.data.toList (max p q) = j at *
  clear hs h1 h2
  go_enter Tryd.func21, Tryd.ntmps21
  go_wp2_with (first
    | (go_at_call 18; (with_reducible refine (P1.out _).mono ?_); rintro e u ⟨rfl, rfl⟩)
    | (go_at_call 18; (with_reducible refine (P2.out _).mono ?_); rintro e u ⟨rfl, rfl⟩)
    | (go_at_call 29; (with_reducible refine (A1.out _).mono ?_); rintro e u ⟨rfl, hb⟩; replace K := K.on hb; clear q0 q1 q2 f0 f1 f2 hb; obtain ⟨q0, q1, q2, f0, f1, f2⟩ := K.cells)
    | (go_at_call 22; (with_reducible refine (A2.out _).mono ?_); rintro e u ⟨rfl, hb⟩; replace K := K.on hb; clear q0 q1 q2 f0 f1 f2 hb; obtain ⟨q0, q1, q2, f0, f1, f2⟩ := K.cells)
    | (go_at_call 29; (with_reducible refine (A3.out _).mono ?_); rintro e u ⟨rfl, hb⟩; replace K := K.on hb; clear q0 q1 q2 f0 f1 f2 hb; obtain ⟨q0, q1, q2, f0, f1, f2⟩ := K.cells)
    | (go_at_call 23; (with_reducible refine (A4.out _).mono ?_); rintro e u ⟨rfl, hb⟩; replace K := K.on hb; clear q0 q1 q2 f0 f1 f2 hb; obtain ⟨q0, q1, q2, f0, f1, f2⟩ := K.cells))
  exact ret_three1 rfl rfl (three_row K.blk) rfl Tryd.underlying23 rfl ⟨rfl, below_three K.below (Nat.le_refl _)⟩
theorem span_Of (s : ByteArray) (p q kind : Int) (hs : s.size ≤ 1000000000000) (w : World) :
    Calls Tryd.prog 21 #[.string s, .int .i64 p, .int .i64 q, .int .i64 kind] w fun e w' => e = .returned (res (rng s.data.toList p q kind)) ∧ Below w.heap.size w w' := by
  cases h1 : Utf.place s.data.toList p with
  | false => rw [Span.rng_bad (by rw [h1]; rfl)]; exact span_Of_p s p q kind hs h1 w
  | true =>
    cases h2 : Utf.place s.data.toList q with
    | false => rw [Span.rng_bad (by rw [h1, h2]; rfl)]; exact span_Of_q s p q kind hs h1 h2 w
    | true =>
      by_cases k1 : kind = 1
      · subst k1; rw [Span.rng_short h1 h2]; exact span_Of_short s p q hs h1 h2 w
      by_cases k2 : kind = 2
      · subst k2
        rw [Span.rng_long h1 h2, Span.top_ends (Span.place_max h1 h2)]
        cases hE : ends s.data.toList (max p q).toNat with
        | true => rw [if_pos rfl]; exact span_Of_edge s p q hs h1 h2 hE w
        | false => rw [if_neg (by decide)]; exact span_Of_rune s p q hs h1 h2 hE w
      by_cases k3 : kind = 3
      · subst k3; rw [Span.rng_whole h1 h2]; exact span_Of_whole s p q hs h1 h2 w
      · rw [Span.rng_kind k1 k2 k3]; exact span_Of_kind s p q kind hs h1 h2 k1 k2 k3 w
end Go.Proofs.YtfhljddakhigdaaDoor
/-
  Operators there and back, without a program: lines shifted right and left again, letters flipped twice.
-/
namespace Go.Proofs.YtfhljddakhigdaaDoor
namespace Opr
open Utf (valid place)
open Line (L L_whole L_valid L_each seg lns)
open Gl
/-- Whole lines are a range, and its lines are these. -/
theorem whole_right {s : List UInt8} {j k : Nat} {x y : Nat × Nat} (hjk : j ≤ k) (hx : (L s)[j]? = some x) (hy : (L s)[k]? = some y) : Span.right s x.1 y.2 true = true ∧ Span.lines s x.1 y.2 true = ((j : Int), (k : Int)) := by
  have hxl := L_each hx
  have hyl := L_each hy
  have hxy : x.1 ≤ y.2 := by
    rcases Nat.eq_or_lt_of_le hjk with e | e
    · rw [← e, hx] at hy; injection hy with hy; rw [← hy]; exact hxl.1
    · have := (L_whole (L_valid hx)).mono hx hy e; omega
  have hr : Span.right s x.1 y.2 true = true := by
    rw [Span.right, decide_eq_true (by omega), Line.start_ok hx, Line.stop_ok hy, Int.toNat_natCast, Int.toNat_natCast, Span.starts_at hx, Span.ends_at hy hyl.1 (Nat.le_refl _)]
    simp
  refine ⟨hr, ?_⟩
  rw [Span.lines, if_pos hr, if_neg (by simp), Line.of_at hx (Nat.le_refl _) hxl.1, Line.of_at hy hyl.1 (Nat.le_refl _)]
/-- Lines shifted right and left again are as they were. -/
theorem shift_back {s : List UInt8} {j k : Nat} (hv : valid s = true) (hjk : j ≤ k) (hk : k < (L s).length) : shiftT (shiftT s j k false) j k true = s := by
  obtain ⟨hp, _, _⟩ := shift_lines hv hjk hk false
  rw [L_len hv] at hk
  rw [shiftT, hp]
  have hj : ((Ix.parts s).take j).length = j := by rw [List.length_take]; omega
  have hm : ((((Ix.parts s).drop j).take (k + 1 - j)).map (sh false)).length = k + 1 - j := by rw [List.length_map, List.length_take, List.length_drop]; omega
  have e : shiftR (shiftR (Ix.parts s) j k false) j k true = Ix.parts s := by
    rw [shiftR, shiftR, List.take_left' hj, List.drop_left' hj, List.take_left' hm, List.map_map, show sh true ∘ sh false = id from funext fun x => sh_back x, List.map_id]
    have h2 : ((Ix.parts s).take j ++ ((((Ix.parts s).drop j).take (k + 1 - j)).map (sh false) ++ (Ix.parts s).drop (k + 1))).drop (k + 1) = (Ix.parts s).drop (k + 1) := by
      rw [← List.append_assoc, List.drop_left' (by rw [List.length_append, hj, hm]; omega)]
    rw [h2]
    conv => rhs; rw [← List.take_append_drop j (Ix.parts s), ← List.take_append_drop (k + 1 - j) ((Ix.parts s).drop j), List.drop_drop, show j + (k + 1 - j) = k + 1 by omega]
  rw [e, glue_parts]
/-- Lines lie where line feeds do. -/
theorem lns_same (a i : Nat) {t u : List UInt8} (h : t.map (fun b => decide (b = 10)) = u.map (fun b => decide (b = 10))) : lns a i t = lns a i u := by
  induction t generalizing a i u with
  | nil => cases u with
    | nil => rfl
    | cons _ _ => cases h
  | cons b t ih =>
    cases u with
    | nil => cases h
    | cons c u =>
      rw [List.map_cons, List.map_cons] at h
      injection h with h1 h2
      rw [lns, lns]
      by_cases hb : b = 10
      · have hc : c = 10 := by rw [decide_eq_true hb] at h1; exact of_decide_eq_true h1.symm
        rw [if_pos hb, if_pos hc, ih _ _ h2]
      · have hc : ¬ c = 10 := by rw [decide_eq_false hb] at h1; exact of_decide_eq_false h1.symm
        rw [if_neg hb, if_neg hc, ih _ _ h2]
theorem flip_feed (b : UInt8) : decide (Class.flip Class.letter b = 10) = decide (b = 10) := Class.flip_all (fun b => decide (Class.flip Class.letter b = 10) = decide (b = 10)) (by decide +kernel) b
theorem three_parts {s : List UInt8} {p q : Nat} (h : p ≤ q) (hq : q ≤ s.length) : s = s.take p ++ (seg s p q ++ s.drop q) ∧ (s.take p).length = p ∧ (seg s p q).length = q - p := by
  refine ⟨?_, by rw [List.length_take]; omega, by rw [seg, List.length_drop, List.length_take]; omega⟩
  have e : s.take p = (s.take q).take p := by rw [List.take_take, Nat.min_eq_left h]
  rw [seg, ← List.append_assoc, e, List.take_append_drop, List.take_append_drop]
theorem flip_lines {s : List UInt8} {p q : Nat} (hp : place s (p : Int) = true) (hq : place s (q : Int) = true) (h : p ≤ q) (hl : q ≤ s.length) : L (caseT s p q Class.letter) = L s := by
  have hv := caseT_valid hp hq h (f := Class.letter) (.inr (.inr rfl))
  rw [Line.L_ok hv, Line.L_ok (Line.place_ok hp)]
  refine lns_same 0 0 ?_
  obtain ⟨h1, _, _⟩ := three_parts h hl
  rw [caseT_seg, put, Int.toNat_natCast, Int.toNat_natCast]
  conv => rhs; rw [h1]
  simp only [List.map_append, Class.turn, List.map_map]
  congr 2
  exact List.map_congr_left fun b _ => flip_feed b
theorem flip_back {s : List UInt8} {p q : Nat} (h : p ≤ q) (hq : q ≤ s.length) : caseT (caseT s p q Class.letter) p q Class.letter = s := by
  obtain ⟨h1, h2, h3⟩ := three_parts h hq
  have hu : caseT s p q Class.letter = s.take p ++ (Class.turn Class.letter (seg s p q) ++ s.drop q) := by rw [caseT_seg, put, Int.toNat_natCast, Int.toNat_natCast]
  have hm : (s.take p ++ Class.turn Class.letter (seg s p q)).length = q := by rw [List.length_append, Class.turn_length]; omega
  have e1 : (caseT s p q Class.letter).take p = s.take p := by rw [hu, List.take_left' h2]
  have e2 : (caseT s p q Class.letter).drop q = s.drop q := by rw [hu, ← List.append_assoc, List.drop_left' hm]
  have e3 : seg (caseT s p q Class.letter) p q = Class.turn Class.letter (seg s p q) := by rw [seg, hu, ← List.append_assoc, List.take_left' hm, List.drop_left' h2]
  rw [caseT_seg, put, Int.toNat_natCast, Int.toNat_natCast, e1, e2, e3, Class.flips]
  exact h1.symm
theorem case_whole {s : List UInt8} {a b : Int} (h : Span.right s a b true = true) : case_ s a b true 126 = (caseT s a b Class.letter, Line.clamp (caseT s a b Class.letter) a, 0) := by
  have hl : letters 126 = some Class.letter := by rw [letters, if_neg (by decide), if_neg (by decide), if_pos rfl]
  rw [case_, hl]
  show (if fault s a b true = 0 then _ else _) = _
  rw [if_pos (fault_ok h (by simp))]
end Opr
end Go.Proofs.YtfhljddakhigdaaDoor
namespace Go.Proofs.YtfhljddakhigdaaDoor
open Go.RowKit
set_option maxHeartbeats 4000000 in
set_option maxRecDepth 100000 in
theorem operBack_big (s : ByteArray) (p q n : Int) (h : 500 < s.size) (w : World) :
    Calls Tryd.prog 6 #[.string s, .int .i64 p, .int .i64 q, .int .i64 n] w fun e w' => e = .returned (.bool true) ∧ Below w.heap.size w w' := by
  have hB := Below.refl w.heap.size w
  have LV := Lib.hid oper_lives
  have g0 : decide ((500 : Int) < (s.size : Int)) = true := decide_eq_true (by omega)
  go_enter Tryd.func6, Tryd.ntmps6
  go_wp2_with (first
    | (go_at_call 7; (with_reducible refine (LV.out _).mono ?_); rintro e u ⟨rfl, hb⟩; replace hB := hB.trans (hb.mono hB.size); clear hb))
  go_ret
  exact ⟨rfl, hB⟩
set_option maxHeartbeats 4000000 in
set_option maxRecDepth 100000 in
theorem operBack_none (s : ByteArray) (p q n : Int) (hs : s.size ≤ 500) (h : Span.rng s.data.toList p q 3 = none) (w : World) :
    Calls Tryd.prog 6 #[.string s, .int .i64 p, .int .i64 q, .int .i64 n] w fun e w' => e = .returned (.bool true) ∧ Below w.heap.size w w' := by
  have hB := Below.refl w.heap.size w
  have LV := Lib.hid oper_lives
  have g0 : decide ((500 : Int) < (s.size : Int)) = false := decide_eq_false (by omega)
  have c0 := fun w => span_Of s p q 3 (by omega) w
  rw [h, Span.res_none] at c0
  have C0 := Lib.hid c0
  clear c0 h
  go_enter Tryd.func6, Tryd.ntmps6
  go_wp2_with fail
  with_reducible refine (C0.out _).mono ?_
  rintro e w1 ⟨rfl, hb⟩
  replace hB := hB.trans (hb.mono hB.size)
  have hB2 := hB.alloc hB.size (.cells #[.int .i64 0, .int .i64 0, .bool false] 23)
  clear hb
  go_wp2_with (first
    | (go_at_call 7; (with_reducible refine (LV.out _).mono ?_); rintro e u ⟨rfl, hb⟩; replace hB2 := hB2.trans (hb.mono hB2.size); clear hb))
  go_ret
  exact ⟨rfl, hB2⟩
set_option maxHeartbeats 4000000 in
set_option maxRecDepth 100000 in
theorem operBack_last (s : ByteArray) (p q n : Int) (hs : s.size ≤ 500) {j k : Nat} {x y : Nat × Nat} (hjk : j ≤ k) (hx : (Line.L s.data.toList)[j]? = some x) (hy : (Line.L s.data.toList)[k]? = some y) (h : Span.rng s.data.toList p q 3 = some ((x.1 : Int), (y.2 : Int), true)) (hj : j + 1 = (Line.L s.data.toList).length) (w : World) :
    Calls Tryd.prog 6 #[.string s, .int .i64 p, .int .i64 q, .int .i64 n] w fun e w' => e = .returned (.bool true) ∧ Below w.heap.size w w' := by
  have hB := Below.refl w.heap.size w
  have LV := Lib.hid oper_lives
  have g0 : decide ((500 : Int) < (s.size : Int)) = false := decide_eq_false (by omega)
  have hv := Line.L_valid hx
  have hkl := (List.getElem?_eq_some_iff.1 hy).1
  have hL := Line.L_length s.data.toList
  rw [data_len] at hL
  have hxl := Line.L_each hx
  have hyl := Line.L_each hy
  rw [data_len] at hxl hyl
  obtain ⟨hr, hln⟩ := Opr.whole_right hjk hx hy
  obtain ⟨hra, hrb, hrc⟩ := Span.right_in hr
  rw [data_len] at hrc
  have c0 := fun w => span_Of s p q 3 (by omega) w
  rw [h, Span.res_some] at c0
  have c1 := fun w => span_Lines s x.1 y.2 true (by omega) w
  rw [hln] at c1
  -- right
  have hTs := Opr.shiftT_small (s := s.data.toList) hjk false
  rw [data_len] at hTs
  obtain ⟨_, hTc, hTv⟩ := Opr.shift_lines hv hjk hkl false
  have c2 := fun w => oper_Shift_ok s x.1 y.2 true false (by omega) (by omega) hln hjk hx hy w
  have hTb := Opr.shift_back hv hjk hkl
  generalize Opr.shiftT s.data.toList j k false = T at *
  obtain ⟨x', hx'⟩ : ∃ x', (Line.L T)[j]? = some x' := ⟨_, List.getElem?_eq_getElem (by omega)⟩
  obtain ⟨y', hy'⟩ : ∃ y', (Line.L T)[k]? = some y' := ⟨_, List.getElem?_eq_getElem (by omega)⟩
  have c3 := fun w => line_Start (bs T) j (by rw [bs_size]; omega) w
  rw [bs_toList, Line.start_some (by rw [Line.line_nat]; exact hx')] at c3
  have c4 := fun w => line_End (bs T) k (by rw [bs_size]; omega) w
  rw [bs_toList, Line.stop_some (by rw [Line.line_nat]; exact hy')] at c4
  obtain ⟨hr', hln'⟩ := Opr.whole_right hjk hx' hy'
  -- left
  have c5 := fun w => oper_Shift_ok (bs T) x'.1 y'.2 true true (by rw [bs_size]; omega) (by rw [bs_toList, hTc]; omega) (by rw [bs_toList]; exact hln') hjk (by rw [bs_toList]; exact hx') (by rw [bs_toList]; exact hy') w
  rw [bs_toList, hTb, bs_data] at c5
  -- letters
  have c6 := fun w => oper_Case s x.1 y.2 true 126 (by omega) w
  rw [Opr.case_whole hr, Opr.val_mk] at c6
  have hpx := Line.start_ok hx
  have hpy := Line.stop_ok hy
  have hUL := Opr.flip_lines hpx hpy (by omega) (by rw [data_len]; omega)
  have hUb := Opr.flip_back (s := s.data.toList) (p := x.1) (q := y.2) (by omega) (by rw [data_len]; omega)
  have hUs := Opr.caseT_length (s := s.data.toList) (p := x.1) (q := y.2) Class.letter (by omega) (by rw [data_len]; omega)
  rw [data_len] at hUs
  generalize Opr.caseT s.data.toList x.1 y.2 Class.letter = U at *
  obtain ⟨hrU, _⟩ := Opr.whole_right (s := U) hjk (by rw [hUL]; exact hx) (by rw [hUL]; exact hy)
  have c7 := fun w => oper_Case (bs U) x.1 y.2 true 126 (by rw [bs_size]; omega) w
  rw [bs_toList, Opr.case_whole hrU, Opr.val_mk, hUb, bs_data] at c7
  have c8 := fun w => oper_Join_move s j n (by omega) hj w
  have C8 := Lib.hid c8
  have C9 := Lib.hid (fun w => line_Count s (by omega) w)
  have m1 : IntKind.i64.wrap (((Line.L s.data.toList).length : Int) - 1) = (j : Int) := by rw [IntKind.wrap_i64]; omega
  have m2 : wrap64 (((Line.L s.data.toList).length : Int) - 1) = (j : Int) := by unfold wrap64; omega
  have m3 : ((j : Int) == (j : Int)) = true := by simp
  clear c8
  generalize Line.first T j = z1 at *
  generalize Line.first s.data.toList j = z2 at *
  generalize Line.clamp U x.1 = z3 at *
  generalize Line.clamp s.data.toList x.1 = z4 at *
  have C0 := Lib.hid c0
  have C1 := Lib.hid c1
  have C2 := Lib.hid c2
  have C3 := Lib.hid c3
  have C4 := Lib.hid c4
  have C5 := Lib.hid c5
  have C6 := Lib.hid c6
  have C7 := Lib.hid c7
  have ss : (s.toList == s.toList) = true := by simp
  have d1 : decide ((x'.1 : Int) < 0) = false := decide_eq_false (by omega)
  have d2 : decide ((y'.2 : Int) < 0) = false := decide_eq_false (by omega)
  generalize bs T = BT at *
  generalize bs U = BU at *
  generalize (Line.L s.data.toList).length = N at *
  generalize x'.1 = a' at *
  generalize y'.2 = b' at *
  generalize x.1 = a at *
  generalize y.2 = b at *
  clear c0 c1 c2 c3 c4 c5 c6 c7 hr hln hr' hln' hrU hUL hUb hUs hTs hTc hTv hTb hpx hpy h hx hy hv hx' hy'
  go_enter Tryd.func6, Tryd.ntmps6
  go_wp2_with fail
  with_reducible refine (C0.out _).mono ?_
  rintro e w1 ⟨rfl, hb⟩
  replace hB := hB.trans (hb.mono hB.size)
  have KA := Blk.new w1 23 #[.int .i64 a, .int .i64 b, .bool true]
  replace hB := hB.alloc hB.size (.cells #[.int .i64 a, .int .i64 b, .bool true] 23)
  clear hb
  obtain ⟨a0, a1, a2, _, _, _⟩ := row_three KA
  go_wp2_with (first
    | (go_at_call 16; (with_reducible refine (C1.out _).mono ?_); rintro e u ⟨rfl, hb⟩; replace hB := hB.trans (hb.mono hB.size); replace KA := KA.below hb KA.lt; clear hb a0 a1 a2; obtain ⟨a0, a1, a2, _, _, _⟩ := row_three KA)
    | (go_at_call 14; (with_reducible refine (C2.out _).mono ?_); rintro e u ⟨rfl, hb⟩; replace hB := hB.trans (hb.mono hB.size); replace KA := KA.below hb KA.lt; clear hb a0 a1 a2; obtain ⟨a0, a1, a2, _, _, _⟩ := row_three KA)
    | (go_at_call 22; (with_reducible refine (C3.out _).mono ?_); rintro e u ⟨rfl, hb⟩; replace hB := hB.trans (hb.mono hB.size); replace KA := KA.below hb KA.lt; clear hb a0 a1 a2; obtain ⟨a0, a1, a2, _, _, _⟩ := row_three KA)
    | (go_at_call 23; (with_reducible refine (C4.out _).mono ?_); rintro e u ⟨rfl, hb⟩; replace hB := hB.trans (hb.mono hB.size); replace KA := KA.below hb KA.lt; clear hb a0 a1 a2; obtain ⟨a0, a1, a2, _, _, _⟩ := row_three KA)
    | (go_at_call 14; (with_reducible refine (C5.out _).mono ?_); rintro e u ⟨rfl, hb⟩; replace hB := hB.trans (hb.mono hB.size); replace KA := KA.below hb KA.lt; clear hb a0 a1 a2; obtain ⟨a0, a1, a2, _, _, _⟩ := row_three KA)
    | (go_at_call 15; (with_reducible refine (C6.out _).mono ?_); rintro e u ⟨rfl, hb⟩; replace hB := hB.trans (hb.mono hB.size); replace KA := KA.below hb KA.lt; clear hb a0 a1 a2; obtain ⟨a0, a1, a2, _, _, _⟩ := row_three KA)
    | (go_at_call 15; (with_reducible refine (C7.out _).mono ?_); rintro e u ⟨rfl, hb⟩; replace hB := hB.trans (hb.mono hB.size); replace KA := KA.below hb KA.lt; clear hb a0 a1 a2; obtain ⟨a0, a1, a2, _, _, _⟩ := row_three KA)
    | (go_at_call 12; (with_reducible refine (C8.out _).mono ?_); rintro e u ⟨rfl, hb⟩; replace hB := hB.trans (hb.mono hB.size); replace KA := KA.below hb KA.lt; clear hb a0 a1 a2; obtain ⟨a0, a1, a2, _, _, _⟩ := row_three KA)
    | (go_at_call 24; (with_reducible refine (C9.out _).mono ?_); rintro e u ⟨rfl, hb⟩; replace hB := hB.trans (hb.mono hB.size); replace KA := KA.below hb KA.lt; clear hb a0 a1 a2; obtain ⟨a0, a1, a2, _, _, _⟩ := row_three KA)
    | (go_at_call 7; (with_reducible refine (LV.out _).mono ?_); rintro e u ⟨rfl, hb⟩; replace hB := hB.trans (hb.mono hB.size); replace KA := KA.below hb KA.lt; clear hb a0 a1 a2; obtain ⟨a0, a1, a2, _, _, _⟩ := row_three KA))
  go_ret
  exact ⟨rfl, hB⟩
set_option maxHeartbeats 4000000 in
set_option maxRecDepth 100000 in
theorem operBack_more (s : ByteArray) (p q n : Int) (hs : s.size ≤ 500) {j k : Nat} {x y : Nat × Nat} (hjk : j ≤ k) (hx : (Line.L s.data.toList)[j]? = some x) (hy : (Line.L s.data.toList)[k]? = some y) (h : Span.rng s.data.toList p q 3 = some ((x.1 : Int), (y.2 : Int), true)) (hj : j + 1 < (Line.L s.data.toList).length) (w : World) :
    Calls Tryd.prog 6 #[.string s, .int .i64 p, .int .i64 q, .int .i64 n] w fun e w' => e = .returned (.bool true) ∧ Below w.heap.size w w' := by
  have hB := Below.refl w.heap.size w
  have LV := Lib.hid oper_lives
  have g0 : decide ((500 : Int) < (s.size : Int)) = false := decide_eq_false (by omega)
  have hv := Line.L_valid hx
  have hkl := (List.getElem?_eq_some_iff.1 hy).1
  have hL := Line.L_length s.data.toList
  rw [data_len] at hL
  have hxl := Line.L_each hx
  have hyl := Line.L_each hy
  rw [data_len] at hxl hyl
  obtain ⟨hr, hln⟩ := Opr.whole_right hjk hx hy
  obtain ⟨hra, hrb, hrc⟩ := Span.right_in hr
  rw [data_len] at hrc
  have c0 := fun w => span_Of s p q 3 (by omega) w
  rw [h, Span.res_some] at c0
  have c1 := fun w => span_Lines s x.1 y.2 true (by omega) w
  rw [hln] at c1
  -- right
  have hTs := Opr.shiftT_small (s := s.data.toList) hjk false
  rw [data_len] at hTs
  obtain ⟨_, hTc, hTv⟩ := Opr.shift_lines hv hjk hkl false
  have c2 := fun w => oper_Shift_ok s x.1 y.2 true false (by omega) (by omega) hln hjk hx hy w
  have hTb := Opr.shift_back hv hjk hkl
  generalize Opr.shiftT s.data.toList j k false = T at *
  obtain ⟨x', hx'⟩ : ∃ x', (Line.L T)[j]? = some x' := ⟨_, List.getElem?_eq_getElem (by omega)⟩
  obtain ⟨y', hy'⟩ : ∃ y', (Line.L T)[k]? = some y' := ⟨_, List.getElem?_eq_getElem (by omega)⟩
  have c3 := fun w => line_Start (bs T) j (by rw [bs_size]; omega) w
  rw [bs_toList, Line.start_some (by rw [Line.line_nat]; exact hx')] at c3
  have c4 := fun w => line_End (bs T) k (by rw [bs_size]; omega) w
  rw [bs_toList, Line.stop_some (by rw [Line.line_nat]; exact hy')] at c4
  obtain ⟨hr', hln'⟩ := Opr.whole_right hjk hx' hy'
  -- left
  have c5 := fun w => oper_Shift_ok (bs T) x'.1 y'.2 true true (by rw [bs_size]; omega) (by rw [bs_toList, hTc]; omega) (by rw [bs_toList]; exact hln') hjk (by rw [bs_toList]; exact hx') (by rw [bs_toList]; exact hy') w
  rw [bs_toList, hTb, bs_data] at c5
  -- letters
  have c6 := fun w => oper_Case s x.1 y.2 true 126 (by omega) w
  rw [Opr.case_whole hr, Opr.val_mk] at c6
  have hpx := Line.start_ok hx
  have hpy := Line.stop_ok hy
  have hUL := Opr.flip_lines hpx hpy (by omega) (by rw [data_len]; omega)
  have hUb := Opr.flip_back (s := s.data.toList) (p := x.1) (q := y.2) (by omega) (by rw [data_len]; omega)
  have hUs := Opr.caseT_length (s := s.data.toList) (p := x.1) (q := y.2) Class.letter (by omega) (by rw [data_len]; omega)
  rw [data_len] at hUs
  generalize Opr.caseT s.data.toList x.1 y.2 Class.letter = U at *
  obtain ⟨hrU, _⟩ := Opr.whole_right (s := U) hjk (by rw [hUL]; exact hx) (by rw [hUL]; exact hy)
  have c7 := fun w => oper_Case (bs U) x.1 y.2 true 126 (by rw [bs_size]; omega) w
  rw [bs_toList, Opr.case_whole hrU, Opr.val_mk, hUb, bs_data] at c7
  obtain ⟨m, hme, hm2, hkm, gmm⟩ := Opr.many_at (n := n) hj
  have c8 := fun w => oper_Join_ok s j n (by omega) hj w
  rw [hme] at c8
  obtain ⟨_, hXc⟩ := Opr.join_left hv (by omega) hkm
  have hXl := Opr.joinT_le (s := s.data.toList) (k := j) (m := m) (by omega) (by rw [← Gl.L_len hv]; exact hkm)
  rw [data_len] at hXl
  have c10 := fun w => line_Count (bs (Opr.joinT s.data.toList j m)) (by rw [bs_size]; omega) w
  rw [bs_toList] at c10
  have hXs := bs_size (Opr.joinT s.data.toList j m)
  have C9 := Lib.hid (fun w => line_Count s (by omega) w)
  generalize Line.clamp (Opr.joinT s.data.toList j m) (Opr.joinP s.data.toList j m : Nat) = z5 at *
  generalize (Line.L (Opr.joinT s.data.toList j m)).length = cx at *
  generalize Opr.joinT s.data.toList j m = X at *
  generalize bs X = BX at *
  have C8 := Lib.hid c8
  have C10 := Lib.hid c10
  have m1 : IntKind.i64.wrap (((Line.L s.data.toList).length : Int) - (j : Int)) = ((Line.L s.data.toList).length : Int) - (j : Int) := by rw [IntKind.wrap_i64]; omega
  have m2 : IntKind.i64.wrap (((Line.L s.data.toList).length : Int) - (m : Int)) = (cx : Int) - 1 := by rw [IntKind.wrap_i64]; omega
  have m3 : IntKind.i64.wrap (cx : Int) = (cx : Int) := by rw [IntKind.wrap_i64]; omega
  have m4 : ((cx : Int) == (cx : Int)) = true := by simp
  have m5 : decide ((BX.size : Int) ≤ (s.size : Int)) = true := decide_eq_true (by omega)
  clear c8 c10 hXc hme
  generalize Line.first T j = z1 at *
  generalize Line.first s.data.toList j = z2 at *
  generalize Line.clamp U x.1 = z3 at *
  generalize Line.clamp s.data.toList x.1 = z4 at *
  have C0 := Lib.hid c0
  have C1 := Lib.hid c1
  have C2 := Lib.hid c2
  have C3 := Lib.hid c3
  have C4 := Lib.hid c4
  have C5 := Lib.hid c5
  have C6 := Lib.hid c6
  have C7 := Lib.hid c7
  have ss : (s.toList == s.toList) = true := by simp
  have d1 : decide ((x'.1 : Int) < 0) = false := decide_eq_false (by omega)
  have d2 : decide ((y'.2 : Int) < 0) = false := decide_eq_false (by omega)
  generalize bs T = BT at *
  generalize bs U = BU at *
  generalize (Line.L s.data.toList).length = N at *
  generalize x'.1 = a' at *
  generalize y'.2 = b' at *
  generalize x.1 = a at *
  generalize y.2 = b at *
  clear c0 c1 c2 c3 c4 c5 c6 c7 hr hln hr' hln' hrU hUL hUb hUs hTs hTc hTv hTb hpx hpy h hx hy hv hx' hy'
  go_enter Tryd.func6, Tryd.ntmps6
  go_wp2_with fail
  with_reducible refine (C0.out _).mono ?_
  rintro e w1 ⟨rfl, hb⟩
  replace hB := hB.trans (hb.mono hB.size)
  have KA := Blk.new w1 23 #[.int .i64 a, .int .i64 b, .bool true]
  replace hB := hB.alloc hB.size (.cells #[.int .i64 a, .int .i64 b, .bool true] 23)
  clear hb
  obtain ⟨a0, a1, a2, _, _, _⟩ := row_three KA
  go_wp2_with (first
    | (go_at_call 16; (with_reducible refine (C1.out _).mono ?_); rintro e u ⟨rfl, hb⟩; replace hB := hB.trans (hb.mono hB.size); replace KA := KA.below hb KA.lt; clear hb a0 a1 a2; obtain ⟨a0, a1, a2, _, _, _⟩ := row_three KA)
    | (go_at_call 14; (with_reducible refine (C2.out _).mono ?_); rintro e u ⟨rfl, hb⟩; replace hB := hB.trans (hb.mono hB.size); replace KA := KA.below hb KA.lt; clear hb a0 a1 a2; obtain ⟨a0, a1, a2, _, _, _⟩ := row_three KA)
    | (go_at_call 22; (with_reducible refine (C3.out _).mono ?_); rintro e u ⟨rfl, hb⟩; replace hB := hB.trans (hb.mono hB.size); replace KA := KA.below hb KA.lt; clear hb a0 a1 a2; obtain ⟨a0, a1, a2, _, _, _⟩ := row_three KA)
    | (go_at_call 23; (with_reducible refine (C4.out _).mono ?_); rintro e u ⟨rfl, hb⟩; replace hB := hB.trans (hb.mono hB.size); replace KA := KA.below hb KA.lt; clear hb a0 a1 a2; obtain ⟨a0, a1, a2, _, _, _⟩ := row_three KA)
    | (go_at_call 14; (with_reducible refine (C5.out _).mono ?_); rintro e u ⟨rfl, hb⟩; replace hB := hB.trans (hb.mono hB.size); replace KA := KA.below hb KA.lt; clear hb a0 a1 a2; obtain ⟨a0, a1, a2, _, _, _⟩ := row_three KA)
    | (go_at_call 15; (with_reducible refine (C6.out _).mono ?_); rintro e u ⟨rfl, hb⟩; replace hB := hB.trans (hb.mono hB.size); replace KA := KA.below hb KA.lt; clear hb a0 a1 a2; obtain ⟨a0, a1, a2, _, _, _⟩ := row_three KA)
    | (go_at_call 15; (with_reducible refine (C7.out _).mono ?_); rintro e u ⟨rfl, hb⟩; replace hB := hB.trans (hb.mono hB.size); replace KA := KA.below hb KA.lt; clear hb a0 a1 a2; obtain ⟨a0, a1, a2, _, _, _⟩ := row_three KA)
    | (go_at_call 12; (with_reducible refine (C8.out _).mono ?_); rintro e u ⟨rfl, hb⟩; replace hB := hB.trans (hb.mono hB.size); replace KA := KA.below hb KA.lt; clear hb a0 a1 a2; obtain ⟨a0, a1, a2, _, _, _⟩ := row_three KA)
    | (go_at_call 24; (with_reducible refine (C10.out _).mono ?_); rintro e u ⟨rfl, hb⟩; replace hB := hB.trans (hb.mono hB.size); replace KA := KA.below hb KA.lt; clear hb a0 a1 a2; obtain ⟨a0, a1, a2, _, _, _⟩ := row_three KA)
    | (go_at_call 24; (with_reducible refine (C9.out _).mono ?_); rintro e u ⟨rfl, hb⟩; replace hB := hB.trans (hb.mono hB.size); replace KA := KA.below hb KA.lt; clear hb a0 a1 a2; obtain ⟨a0, a1, a2, _, _, _⟩ := row_three KA)
    | (go_at_call 7; (with_reducible refine (LV.out _).mono ?_); rintro e u ⟨rfl, hb⟩; replace hB := hB.trans (hb.mono hB.size); replace KA := KA.below hb KA.lt; clear hb a0 a1 a2; obtain ⟨a0, a1, a2, _, _, _⟩ := row_three KA))
  go_ret
  exact ⟨rfl, hB⟩
theorem operBack_walk (s : ByteArray) (p q n : Int) (w : World) :
    Calls Tryd.prog 6 #[.string s, .int .i64 p, .int .i64 q, .int .i64 n] w fun e w' => e = .returned (.bool true) ∧ Below w.heap.size w w' := by
  by_cases h0 : 500 < s.size
  · exact operBack_big s p q n h0 w
  · cases hp : (Utf.place s.data.toList p && Utf.place s.data.toList q) with
    | false => exact operBack_none s p q n (by omega) (Span.rng_bad hp) w
    | true =>
      rw [Bool.and_eq_true] at hp
      obtain ⟨j, k, x, y, hjk, hx, hy, h⟩ := Span.rng_lines hp.1 hp.2
      have hkl := (List.getElem?_eq_some_iff.1 hx).1
      by_cases hj : j + 1 = (Line.L s.data.toList).length
      · exact operBack_last s p q n (by omega) hjk hx hy h hj w
      · exact operBack_more s p q n (by omega) hjk hx hy h (by omega) w
section
open Go.ChangeShapes Go.WideShapes Go.ChangeAt
open Go.ChangeMaps (open_string)
set_option maxRecDepth 100000 in
theorem operBack_lifted (os : Os) (started : os.Started) (H : Type) (enc : TypeId × Value → H) :
    ReturnsInHanded {} Tryd.checked os 6 .any (fun w args => (Rows.operBackSpec.pre enc Tryd.prog Tryd.f6 [] false w args ∧ laidMetH Tryd.prog Rows.operBackRow.laid w) ∧ sizedMet enc Tryd.prog Tryd.f6 (OpenSpec.ofChange Rows.operBackSpec) false w args) (Rows.operBackSpec.post enc Tryd.prog Tryd.f6 false true false false) := by
  refine returnsInHanded_of_change_and (C := Tryd.checked) (X := fun w _ => laidMetH Tryd.prog Rows.operBackRow.laid w) (fun _ _ _ hh h => h.of_heap hh) own_knob started (by kernel_rfl) Tryd.func6
    (ChangeSpec.witness_shaped (enc := enc) (C := Tryd.checked) (os := os) (X := fun w _ => laidMetH Tryd.prog Rows.operBackRow.laid w) false (World.laidAll Tryd.prog os Rows.operBackRow.laid) #[.string .empty, .int .i64 0, .int .i64 0, .int .i64 0] 8 (World.laidAll_os _ _ _)
      (World.shaped_of_ZipB (by kernel_rfl) (by kernel_rfl)) (by kernel_rfl) (by kernel_rfl) (by kernel_rfl)
      (by rw [MakeChecks.laidMetH_plain _ _ _ (by kernel_rfl)]; exact laidMet_laidAll _ (by kernel_rfl) (by kernel_rfl))) ?_
  intro W base args ds gs before hval0 hW _ hsz0 _ _
  have hsz : (DataW.weightsEach Tryd.prog (Tryd.f6.params.toList ++ Rows.operBackSpec.plain.varTypes Tryd.prog) (ds ++ gs)).all (· ≤ reachBytes) = true := hsz0
  clear hsz0
  have hval : ∀ (j : Nat) t v, Tryd.f6.params[j]? = some t → args[j]? = some v → Value.okWide Tryd.prog W .any base t v := hval0
  have hW' := hW
  obtain ⟨p, q, hA0, hV, rfl, hfz, hnd⟩ := hW
  have hA : DataW.TrodAll enc Tryd.prog W 0 (fun _ => true) true Tryd.f6.params.toList args.toList ds p := hA0
  rw [Tryd.params6] at hA hval hsz
  obtain ⟨v0, vs0, d0, ds0, p0, q0, hargs, rfl, rfl, h0, r0⟩ := trodAll_cons hA
  obtain ⟨v1, vs1, d1, ds1, p1, q1, rfl, rfl, rfl, h1, r1⟩ := trodAll_cons r0
  obtain ⟨v2, vs2, d2, ds2, p2, q2, rfl, rfl, rfl, h2, r2⟩ := trodAll_cons r1
  obtain ⟨v3, vs3, d3, ds3, p3, q3, rfl, rfl, rfl, h3, r3⟩ := trodAll_cons r2
  obtain ⟨rfl, rfl, rfl⟩ := trodAll_nil r3
  obtain rfl : args = #[v0, v1, v2, v3] := by cases args; simp_all
  obtain ⟨rfl, rfl⟩ := trodVars_none hV
  obtain ⟨s0, rfl, rfl, rfl, hmax0⟩ := open_string Tryd.underlying9 (hval 0 9 v0 rfl rfl) h0
  have hs0 : s0.size ≤ 140737488351232 := by rw [← data_len]; exact sized_string hsz (j := 0) (t := 9) rfl rfl
  obtain ⟨n1, rfl, rfl, rfl, wn1⟩ := open_int Tryd.underlying3 (hval 1 3 v1 rfl rfl) h1
  obtain ⟨n2, rfl, rfl, rfl, wn2⟩ := open_int Tryd.underlying3 (hval 2 3 v2 rfl rfl) h2
  obtain ⟨n3, rfl, rfl, rfl, wn3⟩ := open_int Tryd.underlying3 (hval 3 3 v3 rfl rfl) h3
  refine (operBack_walk s0 n1 n2 n3 _).mono fun e W' ⟨he, hb⟩ => ?_
  subst he
  exact ⟨_, rfl, law_post rfl rfl (by rw [Tryd.params6]; decide +kernel) ⟨rfl, rfl, rfl⟩ hW' hb⟩
theorem operBack_row : Rows.OperBackSaid :=
  OpenClaim.holds_of_wide 6 Tryd.f6 rfl rfl rfl rfl rfl rfl rfl ⟨rfl, rfl, rfl, rfl, rfl⟩ rfl rfl rfl rfl rfl (by kernel_rfl) Tryd.func6 (by kernel_rfl)
    (of_decide_eq_true (by kernel_rfl)) (by unfold Func.isWrapper; first | (rw [if_pos (by decide +kernel)]; kernel_rfl) | (rw [if_neg (by decide +kernel)]; exact ⟨rfl, rfl⟩))
    (fun os started H enc _ => operBack_lifted os started H enc)
theorem operBack_holds : Rows.OperBackCardSaid :=
  Claim7.holds_tied_plain_at .later [] [.data, .pinned] true (true, _) false operBack_row (fun _ h => by cases h) (by kernel_rfl) (fun _ h => by cases h) operBack_row_tie rfl ⟨rfl, rfl⟩ (by kernel_rfl) rfl
    (fun f fn hf hfn => by
      obtain rfl : f = 6 := Option.some.inj ((show Tryd.prog.funcNamed "calamus/calamuslaw23.OperBack" = some 6 by kernel_rfl).symm.trans hf) |>.symm
      obtain rfl : fn = Tryd.f6 := (Option.some.inj (Tryd.func6.symm.trans hfn)).symm
      exact ⟨by kernel_rfl, fun j t ht => by
        rw [Tryd.params6] at ht
        have hm := Array.mem_of_getElem? ht
        have hall : (#[9, 3, 3, 3].toList.all fun u => !Tryd.prog.wantsStandIn u) = true := by kernel_rfl
        exact (show Tryd.prog.wantsStandIn t = false by simpa using List.all_eq_true.1 hall t (by simpa using hm))⟩)
    (by kernel_rfl)
end
end Go.Proofs.YtfhljddakhigdaaDoor
