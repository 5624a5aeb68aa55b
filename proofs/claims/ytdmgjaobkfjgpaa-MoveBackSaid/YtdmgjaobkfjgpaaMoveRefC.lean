/-
  Where a key leads, as the document's answer tells it: one key and one way a theorem.
-/
import Derived.Test.YtdmgjaobkfjgpaaMoveRef
namespace Go.Proofs.Ytdmgjaobkfjgpaa
open Go.RowKit
open Line (L of_ column)
open Utf (place)
set_option maxHeartbeats 1000000 in
set_option maxRecDepth 100000 in
theorem ref14_down_no_lo (s : ByteArray) (p n want : Int) (hs : s.size ≤ 1000000000000) (hn : n ≤ 9223372036854775807) (hwant : want ≤ 9223372036854775807) (hp : place s.data.toList p = true) (h1 : n < 1) (h2 : of_ s.data.toList p = ((L s.data.toList).length : Int) - 1) (w : World) :
    Calls Try.prog 9 #[.string s, .int .i64 p, .string ⟨#[106]⟩, .int .i64 n, .int .i64 want] w fun e w' => e = .returned (Move.res (Move.raw 6 s.data.toList p n want)) ∧ Below w.heap.size w w' := by
  have hl := data_len s
  have hu : n ≤ 9223372036854775807 ∧ want ≤ 9223372036854775807 := ⟨hn, hwant⟩
  obtain ⟨ha, hb', hc⟩ := Move.ref_facts s hp
  have C1 := Lib.hid (fun w => ref_Place s p (by omega) w)
  have C2 := Lib.hid (fun w => ref14_Has ⟨#[106]⟩ w)
  have C3 := Lib.hid (fun w => ref4_Of s p hs w)
  have C4 := Lib.hid (fun w => ref4_Start s (of_ s.data.toList p) hs w)
  have C5 := Lib.hid (fun w => ref4_End s (of_ s.data.toList p) hs w)
  have C6 := Lib.hid (fun w => ref4_Count s hs w)
  rw [hp] at C1
  rw [show (Move.mot (⟨#[106]⟩ : ByteArray).data.toList).isSome = true from rfl] at C2
  have r1 : IntKind.i64.wrap (((L s.data.toList).length : Int) - 1) = ((L s.data.toList).length : Int) - 1 := wrap_id (by omega) (by omega)
  have ht : max n 1 = 1 := by omega
  have H : Hid (Move.res (Move.raw 6 s.data.toList p n want) = .tuple #[.int .i64 0, .bool false]) := by show _ = _; simp only [Move.raw]; rw [if_pos (by omega)]; rfl
  have g1 : (of_ s.data.toList p == ((L s.data.toList).length : Int) - 1) = true := by rw [beq_iff_eq]; exact h2
  clear h2
  clear ha hb' hc hp hl ht hu
  generalize Line.start s.data.toList (of_ s.data.toList p) = st at *
  generalize Line.stop s.data.toList (of_ s.data.toList p) = sp at *
  generalize of_ s.data.toList p = k at *
  generalize (L s.data.toList).length = nl at *
  generalize column s.data.toList p = c at *
  go_enter Try.func9, Try.ntmps9
  go_wp2_with (first
    | (go_at_call 17; refine (C1.out _).mono ?_; rintro e w1 ⟨rfl, hb⟩)
    | (go_at_call 11; (with_reducible refine (C2.out _).mono ?_); rintro e w2 ⟨rfl, hb2⟩; replace hb := below_on hb hb2)
    | (go_at_call 18; (with_reducible refine (C3.out _).mono ?_); rintro e w2 ⟨rfl, hb2⟩; replace hb := below_on hb hb2)
    | (go_at_call 19; (with_reducible refine (C4.out _).mono ?_); rintro e w2 ⟨rfl, hb2⟩; replace hb := below_on hb hb2)
    | (go_at_call 20; (with_reducible refine (C5.out _).mono ?_); rintro e w2 ⟨rfl, hb2⟩; replace hb := below_on hb hb2)
    | (go_at_call 21; (with_reducible refine (C6.out _).mono ?_); rintro e w2 ⟨rfl, hb2⟩; replace hb := below_on hb hb2))
  go_ret2
  exact ⟨by rw [H.out]; rfl, hb⟩
set_option maxHeartbeats 1000000 in
set_option maxRecDepth 100000 in
theorem ref14_down_lo (s : ByteArray) (p n want : Int) (hs : s.size ≤ 1000000000000) (hn : n ≤ 9223372036854775807) (hwant : want ≤ 9223372036854775807) (hp : place s.data.toList p = true) (h1 : n < 1) (h2 : of_ s.data.toList p ≠ ((L s.data.toList).length : Int) - 1) (w : World) :
    Calls Try.prog 9 #[.string s, .int .i64 p, .string ⟨#[106]⟩, .int .i64 n, .int .i64 want] w fun e w' => e = .returned (Move.res (Move.raw 6 s.data.toList p n want)) ∧ Below w.heap.size w w' := by
  have hl := data_len s
  have hu : n ≤ 9223372036854775807 ∧ want ≤ 9223372036854775807 := ⟨hn, hwant⟩
  obtain ⟨ha, hb', hc⟩ := Move.ref_facts s hp
  have C1 := Lib.hid (fun w => ref_Place s p (by omega) w)
  have C2 := Lib.hid (fun w => ref14_Has ⟨#[106]⟩ w)
  have C3 := Lib.hid (fun w => ref4_Of s p hs w)
  have C4 := Lib.hid (fun w => ref4_Start s (of_ s.data.toList p) hs w)
  have C5 := Lib.hid (fun w => ref4_End s (of_ s.data.toList p) hs w)
  have C6 := Lib.hid (fun w => ref4_Count s hs w)
  rw [hp] at C1
  rw [show (Move.mot (⟨#[106]⟩ : ByteArray).data.toList).isSome = true from rfl] at C2
  have r1 : IntKind.i64.wrap (((L s.data.toList).length : Int) - 1) = ((L s.data.toList).length : Int) - 1 := wrap_id (by omega) (by omega)
  have ht : max n 1 = 1 := by omega
  have C7 := Lib.hid (fun w => ref14_least 1 (((L s.data.toList).length : Int) - 1 - of_ s.data.toList p) w)
  have C8 := Lib.hid (fun w => ref4_At s (of_ s.data.toList p + min 1 (((L s.data.toList).length : Int) - 1 - of_ s.data.toList p)) want hwant hs w)
  have r2 : IntKind.i64.wrap (((L s.data.toList).length : Int) - 1 - of_ s.data.toList p) = ((L s.data.toList).length : Int) - 1 - of_ s.data.toList p := wrap_id (by omega) (by omega)
  have r3 : IntKind.i64.wrap (of_ s.data.toList p + min 1 (((L s.data.toList).length : Int) - 1 - of_ s.data.toList p)) = of_ s.data.toList p + min 1 (((L s.data.toList).length : Int) - 1 - of_ s.data.toList p) := wrap_id (by omega) (by omega)
  have H : Hid (Move.res (Move.raw 6 s.data.toList p n want) = .tuple #[.int .i64 (Line.at_ s.data.toList (of_ s.data.toList p + min 1 (((L s.data.toList).length : Int) - 1 - of_ s.data.toList p)) want), .bool true]) := Move.raw_res (by omega) hp (by simp only [Move.raw]; rw [if_neg h2, ht]) (Line.at_ge2 (by omega) (by omega) _)
  have g1 : (of_ s.data.toList p == ((L s.data.toList).length : Int) - 1) = false := by rw [beq_eq_false_iff_ne]; exact h2
  clear h2
  clear ha hb' hc hp hl ht hu
  generalize Line.at_ s.data.toList (of_ s.data.toList p + min 1 (((L s.data.toList).length : Int) - 1 - of_ s.data.toList p)) want = V at *
  generalize Line.start s.data.toList (of_ s.data.toList p) = st at *
  generalize Line.stop s.data.toList (of_ s.data.toList p) = sp at *
  generalize of_ s.data.toList p = k at *
  generalize (L s.data.toList).length = nl at *
  generalize column s.data.toList p = c at *
  generalize hq1 : (nl : Int) - 1 - k = q1 at *
  generalize min 1 q1 = d at *
  generalize hq2 : k + d = q2 at *
  go_enter Try.func9, Try.ntmps9
  go_wp2_with (first
    | (go_at_call 17; refine (C1.out _).mono ?_; rintro e w1 ⟨rfl, hb⟩)
    | (go_at_call 11; (with_reducible refine (C2.out _).mono ?_); rintro e w2 ⟨rfl, hb2⟩; replace hb := below_on hb hb2)
    | (go_at_call 18; (with_reducible refine (C3.out _).mono ?_); rintro e w2 ⟨rfl, hb2⟩; replace hb := below_on hb hb2)
    | (go_at_call 19; (with_reducible refine (C4.out _).mono ?_); rintro e w2 ⟨rfl, hb2⟩; replace hb := below_on hb hb2)
    | (go_at_call 20; (with_reducible refine (C5.out _).mono ?_); rintro e w2 ⟨rfl, hb2⟩; replace hb := below_on hb hb2)
    | (go_at_call 21; (with_reducible refine (C6.out _).mono ?_); rintro e w2 ⟨rfl, hb2⟩; replace hb := below_on hb hb2)
    | (go_at_call 24; (with_reducible refine (C7.out _).mono ?_); rintro e w2 ⟨rfl, rfl⟩)
    | (go_at_call 22; (with_reducible refine (C8.out _).mono ?_); rintro e w2 ⟨rfl, hb2⟩; replace hb := below_on hb hb2))
  go_ret2
  exact ⟨by rw [H.out]; rfl, hb⟩
set_option maxHeartbeats 1000000 in
set_option maxRecDepth 100000 in
theorem ref14_up_no_lo (s : ByteArray) (p n want : Int) (hs : s.size ≤ 1000000000000) (hn : n ≤ 9223372036854775807) (hwant : want ≤ 9223372036854775807) (hp : place s.data.toList p = true) (h1 : n < 1) (h2 : of_ s.data.toList p = 0) (w : World) :
    Calls Try.prog 9 #[.string s, .int .i64 p, .string ⟨#[107]⟩, .int .i64 n, .int .i64 want] w fun e w' => e = .returned (Move.res (Move.raw 7 s.data.toList p n want)) ∧ Below w.heap.size w w' := by
  have hl := data_len s
  have hu : n ≤ 9223372036854775807 ∧ want ≤ 9223372036854775807 := ⟨hn, hwant⟩
  obtain ⟨ha, hb', hc⟩ := Move.ref_facts s hp
  have C1 := Lib.hid (fun w => ref_Place s p (by omega) w)
  have C2 := Lib.hid (fun w => ref14_Has ⟨#[107]⟩ w)
  have C3 := Lib.hid (fun w => ref4_Of s p hs w)
  have C4 := Lib.hid (fun w => ref4_Start s (of_ s.data.toList p) hs w)
  have C5 := Lib.hid (fun w => ref4_End s (of_ s.data.toList p) hs w)
  have C6 := Lib.hid (fun w => ref4_Count s hs w)
  rw [hp] at C1
  rw [show (Move.mot (⟨#[107]⟩ : ByteArray).data.toList).isSome = true from rfl] at C2
  have r1 : IntKind.i64.wrap (((L s.data.toList).length : Int) - 1) = ((L s.data.toList).length : Int) - 1 := wrap_id (by omega) (by omega)
  have ht : max n 1 = 1 := by omega
  have H : Hid (Move.res (Move.raw 7 s.data.toList p n want) = .tuple #[.int .i64 0, .bool false]) := by show _ = _; simp only [Move.raw]; rw [if_pos (by omega)]; rfl
  have g1 : (of_ s.data.toList p == 0) = true := by rw [beq_iff_eq]; exact h2
  clear h2
  clear ha hb' hc hp hl ht hu
  generalize Line.start s.data.toList (of_ s.data.toList p) = st at *
  generalize Line.stop s.data.toList (of_ s.data.toList p) = sp at *
  generalize of_ s.data.toList p = k at *
  generalize (L s.data.toList).length = nl at *
  generalize column s.data.toList p = c at *
  go_enter Try.func9, Try.ntmps9
  go_wp2_with (first
    | (go_at_call 17; refine (C1.out _).mono ?_; rintro e w1 ⟨rfl, hb⟩)
    | (go_at_call 11; (with_reducible refine (C2.out _).mono ?_); rintro e w2 ⟨rfl, hb2⟩; replace hb := below_on hb hb2)
    | (go_at_call 18; (with_reducible refine (C3.out _).mono ?_); rintro e w2 ⟨rfl, hb2⟩; replace hb := below_on hb hb2)
    | (go_at_call 19; (with_reducible refine (C4.out _).mono ?_); rintro e w2 ⟨rfl, hb2⟩; replace hb := below_on hb hb2)
    | (go_at_call 20; (with_reducible refine (C5.out _).mono ?_); rintro e w2 ⟨rfl, hb2⟩; replace hb := below_on hb hb2)
    | (go_at_call 21; (with_reducible refine (C6.out _).mono ?_); rintro e w2 ⟨rfl, hb2⟩; replace hb := below_on hb hb2))
  go_ret2
  exact ⟨by rw [H.out]; rfl, hb⟩
set_option maxHeartbeats 1000000 in
set_option maxRecDepth 100000 in
theorem ref14_up_lo (s : ByteArray) (p n want : Int) (hs : s.size ≤ 1000000000000) (hn : n ≤ 9223372036854775807) (hwant : want ≤ 9223372036854775807) (hp : place s.data.toList p = true) (h1 : n < 1) (h2 : of_ s.data.toList p ≠ 0) (w : World) :
    Calls Try.prog 9 #[.string s, .int .i64 p, .string ⟨#[107]⟩, .int .i64 n, .int .i64 want] w fun e w' => e = .returned (Move.res (Move.raw 7 s.data.toList p n want)) ∧ Below w.heap.size w w' := by
  have hl := data_len s
  have hu : n ≤ 9223372036854775807 ∧ want ≤ 9223372036854775807 := ⟨hn, hwant⟩
  obtain ⟨ha, hb', hc⟩ := Move.ref_facts s hp
  have C1 := Lib.hid (fun w => ref_Place s p (by omega) w)
  have C2 := Lib.hid (fun w => ref14_Has ⟨#[107]⟩ w)
  have C3 := Lib.hid (fun w => ref4_Of s p hs w)
  have C4 := Lib.hid (fun w => ref4_Start s (of_ s.data.toList p) hs w)
  have C5 := Lib.hid (fun w => ref4_End s (of_ s.data.toList p) hs w)
  have C6 := Lib.hid (fun w => ref4_Count s hs w)
  rw [hp] at C1
  rw [show (Move.mot (⟨#[107]⟩ : ByteArray).data.toList).isSome = true from rfl] at C2
  have r1 : IntKind.i64.wrap (((L s.data.toList).length : Int) - 1) = ((L s.data.toList).length : Int) - 1 := wrap_id (by omega) (by omega)
  have ht : max n 1 = 1 := by omega
  have C7 := Lib.hid (fun w => ref14_least 1 (of_ s.data.toList p) w)
  have C8 := Lib.hid (fun w => ref4_At s (of_ s.data.toList p - min 1 (of_ s.data.toList p)) want hwant hs w)
  have r3 : IntKind.i64.wrap (of_ s.data.toList p - min 1 (of_ s.data.toList p)) = of_ s.data.toList p - min 1 (of_ s.data.toList p) := wrap_id (by omega) (by omega)
  have H : Hid (Move.res (Move.raw 7 s.data.toList p n want) = .tuple #[.int .i64 (Line.at_ s.data.toList (of_ s.data.toList p - min 1 (of_ s.data.toList p)) want), .bool true]) := Move.raw_res (by omega) hp (by simp only [Move.raw]; rw [if_neg h2, ht]) (Line.at_ge2 (by omega) (by omega) _)
  have g1 : (of_ s.data.toList p == 0) = false := by rw [beq_eq_false_iff_ne]; exact h2
  clear h2
  clear ha hb' hc hp hl ht hu
  generalize Line.at_ s.data.toList (of_ s.data.toList p - min 1 (of_ s.data.toList p)) want = V at *
  generalize Line.start s.data.toList (of_ s.data.toList p) = st at *
  generalize Line.stop s.data.toList (of_ s.data.toList p) = sp at *
  generalize of_ s.data.toList p = k at *
  generalize (L s.data.toList).length = nl at *
  generalize column s.data.toList p = c at *
  generalize min 1 k = d at *
  generalize hq2 : k - d = q2 at *
  go_enter Try.func9, Try.ntmps9
  go_wp2_with (first
    | (go_at_call 17; refine (C1.out _).mono ?_; rintro e w1 ⟨rfl, hb⟩)
    | (go_at_call 11; (with_reducible refine (C2.out _).mono ?_); rintro e w2 ⟨rfl, hb2⟩; replace hb := below_on hb hb2)
    | (go_at_call 18; (with_reducible refine (C3.out _).mono ?_); rintro e w2 ⟨rfl, hb2⟩; replace hb := below_on hb hb2)
    | (go_at_call 19; (with_reducible refine (C4.out _).mono ?_); rintro e w2 ⟨rfl, hb2⟩; replace hb := below_on hb hb2)
    | (go_at_call 20; (with_reducible refine (C5.out _).mono ?_); rintro e w2 ⟨rfl, hb2⟩; replace hb := below_on hb hb2)
    | (go_at_call 21; (with_reducible refine (C6.out _).mono ?_); rintro e w2 ⟨rfl, hb2⟩; replace hb := below_on hb hb2)
    | (go_at_call 24; (with_reducible refine (C7.out _).mono ?_); rintro e w2 ⟨rfl, rfl⟩)
    | (go_at_call 22; (with_reducible refine (C8.out _).mono ?_); rintro e w2 ⟨rfl, hb2⟩; replace hb := below_on hb hb2))
  go_ret2
  exact ⟨by rw [H.out]; rfl, hb⟩
set_option maxHeartbeats 1000000 in
set_option maxRecDepth 100000 in
theorem ref14_top_lo (s : ByteArray) (p n want : Int) (hs : s.size ≤ 1000000000000) (hn : n ≤ 9223372036854775807) (hwant : want ≤ 9223372036854775807) (hp : place s.data.toList p = true) (h1 : n < 1) (w : World) :
    Calls Try.prog 9 #[.string s, .int .i64 p, .string ⟨#[103, 103]⟩, .int .i64 n, .int .i64 want] w fun e w' => e = .returned (Move.res (Move.raw 8 s.data.toList p n want)) ∧ Below w.heap.size w w' := by
  have hl := data_len s
  have hu : n ≤ 9223372036854775807 ∧ want ≤ 9223372036854775807 := ⟨hn, hwant⟩
  obtain ⟨ha, hb', hc⟩ := Move.ref_facts s hp
  have C1 := Lib.hid (fun w => ref_Place s p (by omega) w)
  have C2 := Lib.hid (fun w => ref14_Has ⟨#[103, 103]⟩ w)
  have C3 := Lib.hid (fun w => ref4_Of s p hs w)
  have C4 := Lib.hid (fun w => ref4_Start s (of_ s.data.toList p) hs w)
  have C5 := Lib.hid (fun w => ref4_End s (of_ s.data.toList p) hs w)
  have C6 := Lib.hid (fun w => ref4_Count s hs w)
  rw [hp] at C1
  rw [show (Move.mot (⟨#[103, 103]⟩ : ByteArray).data.toList).isSome = true from rfl] at C2
  have r1 : IntKind.i64.wrap (((L s.data.toList).length : Int) - 1) = ((L s.data.toList).length : Int) - 1 := wrap_id (by omega) (by omega)
  have ht : max n 1 = 1 := by omega
  have C7 := Lib.hid (fun w => ref14_least (0) (((L s.data.toList).length : Int) - 1) w)
  have C8 := Lib.hid (fun w => ref4_First s (min (0) (((L s.data.toList).length : Int) - 1)) hs w)
  have r2 : IntKind.i64.wrap (1 - 1) = 1 - 1 := wrap_id (by omega) (by omega)
  have H : Hid (Move.res (Move.raw 8 s.data.toList p n want) = .tuple #[.int .i64 (Line.first s.data.toList (min (0) (((L s.data.toList).length : Int) - 1))), .bool true]) := Move.raw_res (by omega) hp (by simp only [Move.raw]; rw [ht]; rfl) (Line.first_ge2 (by omega) (by omega))
  clear ha hb' hc hp hl ht hu
  generalize Line.first s.data.toList (min (0) (((L s.data.toList).length : Int) - 1)) = V at *
  generalize Line.start s.data.toList (of_ s.data.toList p) = st at *
  generalize Line.stop s.data.toList (of_ s.data.toList p) = sp at *
  generalize of_ s.data.toList p = k at *
  generalize (L s.data.toList).length = nl at *
  generalize column s.data.toList p = c at *
  go_enter Try.func9, Try.ntmps9
  go_wp2_with (first
    | (go_at_call 17; refine (C1.out _).mono ?_; rintro e w1 ⟨rfl, hb⟩)
    | (go_at_call 11; (with_reducible refine (C2.out _).mono ?_); rintro e w2 ⟨rfl, hb2⟩; replace hb := below_on hb hb2)
    | (go_at_call 18; (with_reducible refine (C3.out _).mono ?_); rintro e w2 ⟨rfl, hb2⟩; replace hb := below_on hb hb2)
    | (go_at_call 19; (with_reducible refine (C4.out _).mono ?_); rintro e w2 ⟨rfl, hb2⟩; replace hb := below_on hb hb2)
    | (go_at_call 20; (with_reducible refine (C5.out _).mono ?_); rintro e w2 ⟨rfl, hb2⟩; replace hb := below_on hb hb2)
    | (go_at_call 21; (with_reducible refine (C6.out _).mono ?_); rintro e w2 ⟨rfl, hb2⟩; replace hb := below_on hb hb2)
    | (go_at_call 24; (with_reducible refine (C7.out _).mono ?_); rintro e w2 ⟨rfl, rfl⟩)
    | (go_at_call 25; (with_reducible refine (C8.out _).mono ?_); rintro e w2 ⟨rfl, hb2⟩; replace hb := below_on hb hb2))
  go_ret2
  exact ⟨by rw [H.out]; rfl, hb⟩
set_option maxHeartbeats 1000000 in
set_option maxRecDepth 100000 in
theorem ref14_bottom_lo (s : ByteArray) (p n want : Int) (hs : s.size ≤ 1000000000000) (hn : n ≤ 9223372036854775807) (hwant : want ≤ 9223372036854775807) (hp : place s.data.toList p = true) (h1 : n < 1) (w : World) :
    Calls Try.prog 9 #[.string s, .int .i64 p, .string ⟨#[71]⟩, .int .i64 n, .int .i64 want] w fun e w' => e = .returned (Move.res (Move.raw 9 s.data.toList p n want)) ∧ Below w.heap.size w w' := by
  have hl := data_len s
  have hu : n ≤ 9223372036854775807 ∧ want ≤ 9223372036854775807 := ⟨hn, hwant⟩
  obtain ⟨ha, hb', hc⟩ := Move.ref_facts s hp
  have C1 := Lib.hid (fun w => ref_Place s p (by omega) w)
  have C2 := Lib.hid (fun w => ref14_Has ⟨#[71]⟩ w)
  have C3 := Lib.hid (fun w => ref4_Of s p hs w)
  have C4 := Lib.hid (fun w => ref4_Start s (of_ s.data.toList p) hs w)
  have C5 := Lib.hid (fun w => ref4_End s (of_ s.data.toList p) hs w)
  have C6 := Lib.hid (fun w => ref4_Count s hs w)
  rw [hp] at C1
  rw [show (Move.mot (⟨#[71]⟩ : ByteArray).data.toList).isSome = true from rfl] at C2
  have r1 : IntKind.i64.wrap (((L s.data.toList).length : Int) - 1) = ((L s.data.toList).length : Int) - 1 := wrap_id (by omega) (by omega)
  have ht : max n 1 = 1 := by omega
  have C7 := Lib.hid (fun w => ref14_least (((L s.data.toList).length : Int) - 1) (((L s.data.toList).length : Int) - 1) w)
  have C8 := Lib.hid (fun w => ref4_First s (((L s.data.toList).length : Int) - 1) hs w)
  have r2 : IntKind.i64.wrap (((L s.data.toList).length : Int)) = ((L s.data.toList).length : Int) := wrap_id (by omega) (by omega)
  have H : Hid (Move.res (Move.raw 9 s.data.toList p n want) = .tuple #[.int .i64 (Line.first s.data.toList (((L s.data.toList).length : Int) - 1)), .bool true]) := Move.raw_res (by omega) hp (by simp only [Move.raw]; rw [if_pos h1]; congr 1; omega) (Line.first_ge2 (by omega) (by omega))
  clear ha hb' hc hp hl ht hu
  generalize Line.first s.data.toList (((L s.data.toList).length : Int) - 1) = V at *
  generalize Line.start s.data.toList (of_ s.data.toList p) = st at *
  generalize Line.stop s.data.toList (of_ s.data.toList p) = sp at *
  generalize of_ s.data.toList p = k at *
  generalize (L s.data.toList).length = nl at *
  generalize column s.data.toList p = c at *
  go_enter Try.func9, Try.ntmps9
  go_wp2_with (first
    | (go_at_call 17; refine (C1.out _).mono ?_; rintro e w1 ⟨rfl, hb⟩)
    | (go_at_call 11; (with_reducible refine (C2.out _).mono ?_); rintro e w2 ⟨rfl, hb2⟩; replace hb := below_on hb hb2)
    | (go_at_call 18; (with_reducible refine (C3.out _).mono ?_); rintro e w2 ⟨rfl, hb2⟩; replace hb := below_on hb hb2)
    | (go_at_call 19; (with_reducible refine (C4.out _).mono ?_); rintro e w2 ⟨rfl, hb2⟩; replace hb := below_on hb hb2)
    | (go_at_call 20; (with_reducible refine (C5.out _).mono ?_); rintro e w2 ⟨rfl, hb2⟩; replace hb := below_on hb hb2)
    | (go_at_call 21; (with_reducible refine (C6.out _).mono ?_); rintro e w2 ⟨rfl, hb2⟩; replace hb := below_on hb hb2)
    | (go_at_call 24; (with_reducible refine (C7.out _).mono ?_); rintro e w2 ⟨rfl, rfl⟩)
    | (go_at_call 25; (with_reducible refine (C8.out _).mono ?_); rintro e w2 ⟨rfl, hb2⟩; replace hb := below_on hb hb2))
  go_ret2
  exact ⟨by rw [H.out]; rfl, hb⟩
set_option maxHeartbeats 1000000 in
set_option maxRecDepth 100000 in
theorem ref14_down_no_hi (s : ByteArray) (p n want : Int) (hs : s.size ≤ 1000000000000) (hn : n ≤ 9223372036854775807) (hwant : want ≤ 9223372036854775807) (hp : place s.data.toList p = true) (h1 : ¬ n < 1) (h2 : of_ s.data.toList p = ((L s.data.toList).length : Int) - 1) (w : World) :
    Calls Try.prog 9 #[.string s, .int .i64 p, .string ⟨#[106]⟩, .int .i64 n, .int .i64 want] w fun e w' => e = .returned (Move.res (Move.raw 6 s.data.toList p n want)) ∧ Below w.heap.size w w' := by
  have hl := data_len s
  have hu : n ≤ 9223372036854775807 ∧ want ≤ 9223372036854775807 := ⟨hn, hwant⟩
  obtain ⟨ha, hb', hc⟩ := Move.ref_facts s hp
  have C1 := Lib.hid (fun w => ref_Place s p (by omega) w)
  have C2 := Lib.hid (fun w => ref14_Has ⟨#[106]⟩ w)
  have C3 := Lib.hid (fun w => ref4_Of s p hs w)
  have C4 := Lib.hid (fun w => ref4_Start s (of_ s.data.toList p) hs w)
  have C5 := Lib.hid (fun w => ref4_End s (of_ s.data.toList p) hs w)
  have C6 := Lib.hid (fun w => ref4_Count s hs w)
  rw [hp] at C1
  rw [show (Move.mot (⟨#[106]⟩ : ByteArray).data.toList).isSome = true from rfl] at C2
  have r1 : IntKind.i64.wrap (((L s.data.toList).length : Int) - 1) = ((L s.data.toList).length : Int) - 1 := wrap_id (by omega) (by omega)
  have ht : max n 1 = n := by omega
  have H : Hid (Move.res (Move.raw 6 s.data.toList p n want) = .tuple #[.int .i64 0, .bool false]) := by show _ = _; simp only [Move.raw]; rw [if_pos (by omega)]; rfl
  have g1 : (of_ s.data.toList p == ((L s.data.toList).length : Int) - 1) = true := by rw [beq_iff_eq]; exact h2
  clear h2
  clear ha hb' hc hp hl ht hu
  generalize Line.start s.data.toList (of_ s.data.toList p) = st at *
  generalize Line.stop s.data.toList (of_ s.data.toList p) = sp at *
  generalize of_ s.data.toList p = k at *
  generalize (L s.data.toList).length = nl at *
  generalize column s.data.toList p = c at *
  go_enter Try.func9, Try.ntmps9
  go_wp2_with (first
    | (go_at_call 17; refine (C1.out _).mono ?_; rintro e w1 ⟨rfl, hb⟩)
    | (go_at_call 11; (with_reducible refine (C2.out _).mono ?_); rintro e w2 ⟨rfl, hb2⟩; replace hb := below_on hb hb2)
    | (go_at_call 18; (with_reducible refine (C3.out _).mono ?_); rintro e w2 ⟨rfl, hb2⟩; replace hb := below_on hb hb2)
    | (go_at_call 19; (with_reducible refine (C4.out _).mono ?_); rintro e w2 ⟨rfl, hb2⟩; replace hb := below_on hb hb2)
    | (go_at_call 20; (with_reducible refine (C5.out _).mono ?_); rintro e w2 ⟨rfl, hb2⟩; replace hb := below_on hb hb2)
    | (go_at_call 21; (with_reducible refine (C6.out _).mono ?_); rintro e w2 ⟨rfl, hb2⟩; replace hb := below_on hb hb2))
  go_ret2
  exact ⟨by rw [H.out]; rfl, hb⟩
set_option maxHeartbeats 1000000 in
set_option maxRecDepth 100000 in
theorem ref14_down_hi (s : ByteArray) (p n want : Int) (hs : s.size ≤ 1000000000000) (hn : n ≤ 9223372036854775807) (hwant : want ≤ 9223372036854775807) (hp : place s.data.toList p = true) (h1 : ¬ n < 1) (h2 : of_ s.data.toList p ≠ ((L s.data.toList).length : Int) - 1) (w : World) :
    Calls Try.prog 9 #[.string s, .int .i64 p, .string ⟨#[106]⟩, .int .i64 n, .int .i64 want] w fun e w' => e = .returned (Move.res (Move.raw 6 s.data.toList p n want)) ∧ Below w.heap.size w w' := by
  have hl := data_len s
  have hu : n ≤ 9223372036854775807 ∧ want ≤ 9223372036854775807 := ⟨hn, hwant⟩
  obtain ⟨ha, hb', hc⟩ := Move.ref_facts s hp
  have C1 := Lib.hid (fun w => ref_Place s p (by omega) w)
  have C2 := Lib.hid (fun w => ref14_Has ⟨#[106]⟩ w)
  have C3 := Lib.hid (fun w => ref4_Of s p hs w)
  have C4 := Lib.hid (fun w => ref4_Start s (of_ s.data.toList p) hs w)
  have C5 := Lib.hid (fun w => ref4_End s (of_ s.data.toList p) hs w)
  have C6 := Lib.hid (fun w => ref4_Count s hs w)
  rw [hp] at C1
  rw [show (Move.mot (⟨#[106]⟩ : ByteArray).data.toList).isSome = true from rfl] at C2
  have r1 : IntKind.i64.wrap (((L s.data.toList).length : Int) - 1) = ((L s.data.toList).length : Int) - 1 := wrap_id (by omega) (by omega)
  have ht : max n 1 = n := by omega
  have C7 := Lib.hid (fun w => ref14_least n (((L s.data.toList).length : Int) - 1 - of_ s.data.toList p) w)
  have C8 := Lib.hid (fun w => ref4_At s (of_ s.data.toList p + min n (((L s.data.toList).length : Int) - 1 - of_ s.data.toList p)) want hwant hs w)
  have r2 : IntKind.i64.wrap (((L s.data.toList).length : Int) - 1 - of_ s.data.toList p) = ((L s.data.toList).length : Int) - 1 - of_ s.data.toList p := wrap_id (by omega) (by omega)
  have r3 : IntKind.i64.wrap (of_ s.data.toList p + min n (((L s.data.toList).length : Int) - 1 - of_ s.data.toList p)) = of_ s.data.toList p + min n (((L s.data.toList).length : Int) - 1 - of_ s.data.toList p) := wrap_id (by omega) (by omega)
  have H : Hid (Move.res (Move.raw 6 s.data.toList p n want) = .tuple #[.int .i64 (Line.at_ s.data.toList (of_ s.data.toList p + min n (((L s.data.toList).length : Int) - 1 - of_ s.data.toList p)) want), .bool true]) := Move.raw_res (by omega) hp (by simp only [Move.raw]; rw [if_neg h2, ht]) (Line.at_ge2 (by omega) (by omega) _)
  have g1 : (of_ s.data.toList p == ((L s.data.toList).length : Int) - 1) = false := by rw [beq_eq_false_iff_ne]; exact h2
  clear h2
  clear ha hb' hc hp hl ht hu
  generalize Line.at_ s.data.toList (of_ s.data.toList p + min n (((L s.data.toList).length : Int) - 1 - of_ s.data.toList p)) want = V at *
  generalize Line.start s.data.toList (of_ s.data.toList p) = st at *
  generalize Line.stop s.data.toList (of_ s.data.toList p) = sp at *
  generalize of_ s.data.toList p = k at *
  generalize (L s.data.toList).length = nl at *
  generalize column s.data.toList p = c at *
  generalize hq1 : (nl : Int) - 1 - k = q1 at *
  generalize min n q1 = d at *
  generalize hq2 : k + d = q2 at *
  go_enter Try.func9, Try.ntmps9
  go_wp2_with (first
    | (go_at_call 17; refine (C1.out _).mono ?_; rintro e w1 ⟨rfl, hb⟩)
    | (go_at_call 11; (with_reducible refine (C2.out _).mono ?_); rintro e w2 ⟨rfl, hb2⟩; replace hb := below_on hb hb2)
    | (go_at_call 18; (with_reducible refine (C3.out _).mono ?_); rintro e w2 ⟨rfl, hb2⟩; replace hb := below_on hb hb2)
    | (go_at_call 19; (with_reducible refine (C4.out _).mono ?_); rintro e w2 ⟨rfl, hb2⟩; replace hb := below_on hb hb2)
    | (go_at_call 20; (with_reducible refine (C5.out _).mono ?_); rintro e w2 ⟨rfl, hb2⟩; replace hb := below_on hb hb2)
    | (go_at_call 21; (with_reducible refine (C6.out _).mono ?_); rintro e w2 ⟨rfl, hb2⟩; replace hb := below_on hb hb2)
    | (go_at_call 24; (with_reducible refine (C7.out _).mono ?_); rintro e w2 ⟨rfl, rfl⟩)
    | (go_at_call 22; (with_reducible refine (C8.out _).mono ?_); rintro e w2 ⟨rfl, hb2⟩; replace hb := below_on hb hb2))
  go_ret2
  exact ⟨by rw [H.out]; rfl, hb⟩
set_option maxHeartbeats 1000000 in
set_option maxRecDepth 100000 in
theorem ref14_up_no_hi (s : ByteArray) (p n want : Int) (hs : s.size ≤ 1000000000000) (hn : n ≤ 9223372036854775807) (hwant : want ≤ 9223372036854775807) (hp : place s.data.toList p = true) (h1 : ¬ n < 1) (h2 : of_ s.data.toList p = 0) (w : World) :
    Calls Try.prog 9 #[.string s, .int .i64 p, .string ⟨#[107]⟩, .int .i64 n, .int .i64 want] w fun e w' => e = .returned (Move.res (Move.raw 7 s.data.toList p n want)) ∧ Below w.heap.size w w' := by
  have hl := data_len s
  have hu : n ≤ 9223372036854775807 ∧ want ≤ 9223372036854775807 := ⟨hn, hwant⟩
  obtain ⟨ha, hb', hc⟩ := Move.ref_facts s hp
  have C1 := Lib.hid (fun w => ref_Place s p (by omega) w)
  have C2 := Lib.hid (fun w => ref14_Has ⟨#[107]⟩ w)
  have C3 := Lib.hid (fun w => ref4_Of s p hs w)
  have C4 := Lib.hid (fun w => ref4_Start s (of_ s.data.toList p) hs w)
  have C5 := Lib.hid (fun w => ref4_End s (of_ s.data.toList p) hs w)
  have C6 := Lib.hid (fun w => ref4_Count s hs w)
  rw [hp] at C1
  rw [show (Move.mot (⟨#[107]⟩ : ByteArray).data.toList).isSome = true from rfl] at C2
  have r1 : IntKind.i64.wrap (((L s.data.toList).length : Int) - 1) = ((L s.data.toList).length : Int) - 1 := wrap_id (by omega) (by omega)
  have ht : max n 1 = n := by omega
  have H : Hid (Move.res (Move.raw 7 s.data.toList p n want) = .tuple #[.int .i64 0, .bool false]) := by show _ = _; simp only [Move.raw]; rw [if_pos (by omega)]; rfl
  have g1 : (of_ s.data.toList p == 0) = true := by rw [beq_iff_eq]; exact h2
  clear h2
  clear ha hb' hc hp hl ht hu
  generalize Line.start s.data.toList (of_ s.data.toList p) = st at *
  generalize Line.stop s.data.toList (of_ s.data.toList p) = sp at *
  generalize of_ s.data.toList p = k at *
  generalize (L s.data.toList).length = nl at *
  generalize column s.data.toList p = c at *
  go_enter Try.func9, Try.ntmps9
  go_wp2_with (first
    | (go_at_call 17; refine (C1.out _).mono ?_; rintro e w1 ⟨rfl, hb⟩)
    | (go_at_call 11; (with_reducible refine (C2.out _).mono ?_); rintro e w2 ⟨rfl, hb2⟩; replace hb := below_on hb hb2)
    | (go_at_call 18; (with_reducible refine (C3.out _).mono ?_); rintro e w2 ⟨rfl, hb2⟩; replace hb := below_on hb hb2)
    | (go_at_call 19; (with_reducible refine (C4.out _).mono ?_); rintro e w2 ⟨rfl, hb2⟩; replace hb := below_on hb hb2)
    | (go_at_call 20; (with_reducible refine (C5.out _).mono ?_); rintro e w2 ⟨rfl, hb2⟩; replace hb := below_on hb hb2)
    | (go_at_call 21; (with_reducible refine (C6.out _).mono ?_); rintro e w2 ⟨rfl, hb2⟩; replace hb := below_on hb hb2))
  go_ret2
  exact ⟨by rw [H.out]; rfl, hb⟩
set_option maxHeartbeats 1000000 in
set_option maxRecDepth 100000 in
theorem ref14_up_hi (s : ByteArray) (p n want : Int) (hs : s.size ≤ 1000000000000) (hn : n ≤ 9223372036854775807) (hwant : want ≤ 9223372036854775807) (hp : place s.data.toList p = true) (h1 : ¬ n < 1) (h2 : of_ s.data.toList p ≠ 0) (w : World) :
    Calls Try.prog 9 #[.string s, .int .i64 p, .string ⟨#[107]⟩, .int .i64 n, .int .i64 want] w fun e w' => e = .returned (Move.res (Move.raw 7 s.data.toList p n want)) ∧ Below w.heap.size w w' := by
  have hl := data_len s
  have hu : n ≤ 9223372036854775807 ∧ want ≤ 9223372036854775807 := ⟨hn, hwant⟩
  obtain ⟨ha, hb', hc⟩ := Move.ref_facts s hp
  have C1 := Lib.hid (fun w => ref_Place s p (by omega) w)
  have C2 := Lib.hid (fun w => ref14_Has ⟨#[107]⟩ w)
  have C3 := Lib.hid (fun w => ref4_Of s p hs w)
  have C4 := Lib.hid (fun w => ref4_Start s (of_ s.data.toList p) hs w)
  have C5 := Lib.hid (fun w => ref4_End s (of_ s.data.toList p) hs w)
  have C6 := Lib.hid (fun w => ref4_Count s hs w)
  rw [hp] at C1
  rw [show (Move.mot (⟨#[107]⟩ : ByteArray).data.toList).isSome = true from rfl] at C2
  have r1 : IntKind.i64.wrap (((L s.data.toList).length : Int) - 1) = ((L s.data.toList).length : Int) - 1 := wrap_id (by omega) (by omega)
  have ht : max n 1 = n := by omega
  have C7 := Lib.hid (fun w => ref14_least n (of_ s.data.toList p) w)
  have C8 := Lib.hid (fun w => ref4_At s (of_ s.data.toList p - min n (of_ s.data.toList p)) want hwant hs w)
  have r3 : IntKind.i64.wrap (of_ s.data.toList p - min n (of_ s.data.toList p)) = of_ s.data.toList p - min n (of_ s.data.toList p) := wrap_id (by omega) (by omega)
  have H : Hid (Move.res (Move.raw 7 s.data.toList p n want) = .tuple #[.int .i64 (Line.at_ s.data.toList (of_ s.data.toList p - min n (of_ s.data.toList p)) want), .bool true]) := Move.raw_res (by omega) hp (by simp only [Move.raw]; rw [if_neg h2, ht]) (Line.at_ge2 (by omega) (by omega) _)
  have g1 : (of_ s.data.toList p == 0) = false := by rw [beq_eq_false_iff_ne]; exact h2
  clear h2
  clear ha hb' hc hp hl ht hu
  generalize Line.at_ s.data.toList (of_ s.data.toList p - min n (of_ s.data.toList p)) want = V at *
  generalize Line.start s.data.toList (of_ s.data.toList p) = st at *
  generalize Line.stop s.data.toList (of_ s.data.toList p) = sp at *
  generalize of_ s.data.toList p = k at *
  generalize (L s.data.toList).length = nl at *
  generalize column s.data.toList p = c at *
  generalize min n k = d at *
  generalize hq2 : k - d = q2 at *
  go_enter Try.func9, Try.ntmps9
  go_wp2_with (first
    | (go_at_call 17; refine (C1.out _).mono ?_; rintro e w1 ⟨rfl, hb⟩)
    | (go_at_call 11; (with_reducible refine (C2.out _).mono ?_); rintro e w2 ⟨rfl, hb2⟩; replace hb := below_on hb hb2)
    | (go_at_call 18; (with_reducible refine (C3.out _).mono ?_); rintro e w2 ⟨rfl, hb2⟩; replace hb := below_on hb hb2)
    | (go_at_call 19; (with_reducible refine (C4.out _).mono ?_); rintro e w2 ⟨rfl, hb2⟩; replace hb := below_on hb hb2)
    | (go_at_call 20; (with_reducible refine (C5.out _).mono ?_); rintro e w2 ⟨rfl, hb2⟩; replace hb := below_on hb hb2)
    | (go_at_call 21; (with_reducible refine (C6.out _).mono ?_); rintro e w2 ⟨rfl, hb2⟩; replace hb := below_on hb hb2)
    | (go_at_call 24; (with_reducible refine (C7.out _).mono ?_); rintro e w2 ⟨rfl, rfl⟩)
    | (go_at_call 22; (with_reducible refine (C8.out _).mono ?_); rintro e w2 ⟨rfl, hb2⟩; replace hb := below_on hb hb2))
  go_ret2
  exact ⟨by rw [H.out]; rfl, hb⟩
set_option maxHeartbeats 1000000 in
set_option maxRecDepth 100000 in
theorem ref14_top_hi (s : ByteArray) (p n want : Int) (hs : s.size ≤ 1000000000000) (hn : n ≤ 9223372036854775807) (hwant : want ≤ 9223372036854775807) (hp : place s.data.toList p = true) (h1 : ¬ n < 1) (w : World) :
    Calls Try.prog 9 #[.string s, .int .i64 p, .string ⟨#[103, 103]⟩, .int .i64 n, .int .i64 want] w fun e w' => e = .returned (Move.res (Move.raw 8 s.data.toList p n want)) ∧ Below w.heap.size w w' := by
  have hl := data_len s
  have hu : n ≤ 9223372036854775807 ∧ want ≤ 9223372036854775807 := ⟨hn, hwant⟩
  obtain ⟨ha, hb', hc⟩ := Move.ref_facts s hp
  have C1 := Lib.hid (fun w => ref_Place s p (by omega) w)
  have C2 := Lib.hid (fun w => ref14_Has ⟨#[103, 103]⟩ w)
  have C3 := Lib.hid (fun w => ref4_Of s p hs w)
  have C4 := Lib.hid (fun w => ref4_Start s (of_ s.data.toList p) hs w)
  have C5 := Lib.hid (fun w => ref4_End s (of_ s.data.toList p) hs w)
  have C6 := Lib.hid (fun w => ref4_Count s hs w)
  rw [hp] at C1
  rw [show (Move.mot (⟨#[103, 103]⟩ : ByteArray).data.toList).isSome = true from rfl] at C2
  have r1 : IntKind.i64.wrap (((L s.data.toList).length : Int) - 1) = ((L s.data.toList).length : Int) - 1 := wrap_id (by omega) (by omega)
  have ht : max n 1 = n := by omega
  have C7 := Lib.hid (fun w => ref14_least (n - 1) (((L s.data.toList).length : Int) - 1) w)
  have C8 := Lib.hid (fun w => ref4_First s (min (n - 1) (((L s.data.toList).length : Int) - 1)) hs w)
  have r2 : IntKind.i64.wrap (n - 1) = n - 1 := wrap_id (by omega) (by omega)
  have H : Hid (Move.res (Move.raw 8 s.data.toList p n want) = .tuple #[.int .i64 (Line.first s.data.toList (min (n - 1) (((L s.data.toList).length : Int) - 1))), .bool true]) := Move.raw_res (by omega) hp (by simp only [Move.raw]; rw [ht]) (Line.first_ge2 (by omega) (by omega))
  clear ha hb' hc hp hl ht hu
  generalize Line.first s.data.toList (min (n - 1) (((L s.data.toList).length : Int) - 1)) = V at *
  generalize Line.start s.data.toList (of_ s.data.toList p) = st at *
  generalize Line.stop s.data.toList (of_ s.data.toList p) = sp at *
  generalize of_ s.data.toList p = k at *
  generalize (L s.data.toList).length = nl at *
  generalize column s.data.toList p = c at *
  generalize hq1 : n - 1 = q1 at *
  go_enter Try.func9, Try.ntmps9
  go_wp2_with (first
    | (go_at_call 17; refine (C1.out _).mono ?_; rintro e w1 ⟨rfl, hb⟩)
    | (go_at_call 11; (with_reducible refine (C2.out _).mono ?_); rintro e w2 ⟨rfl, hb2⟩; replace hb := below_on hb hb2)
    | (go_at_call 18; (with_reducible refine (C3.out _).mono ?_); rintro e w2 ⟨rfl, hb2⟩; replace hb := below_on hb hb2)
    | (go_at_call 19; (with_reducible refine (C4.out _).mono ?_); rintro e w2 ⟨rfl, hb2⟩; replace hb := below_on hb hb2)
    | (go_at_call 20; (with_reducible refine (C5.out _).mono ?_); rintro e w2 ⟨rfl, hb2⟩; replace hb := below_on hb hb2)
    | (go_at_call 21; (with_reducible refine (C6.out _).mono ?_); rintro e w2 ⟨rfl, hb2⟩; replace hb := below_on hb hb2)
    | (go_at_call 24; (with_reducible refine (C7.out _).mono ?_); rintro e w2 ⟨rfl, rfl⟩)
    | (go_at_call 25; (with_reducible refine (C8.out _).mono ?_); rintro e w2 ⟨rfl, hb2⟩; replace hb := below_on hb hb2))
  go_ret2
  exact ⟨by rw [H.out]; rfl, hb⟩
set_option maxHeartbeats 1000000 in
set_option maxRecDepth 100000 in
theorem ref14_bottom_hi (s : ByteArray) (p n want : Int) (hs : s.size ≤ 1000000000000) (hn : n ≤ 9223372036854775807) (hwant : want ≤ 9223372036854775807) (hp : place s.data.toList p = true) (h1 : ¬ n < 1) (w : World) :
    Calls Try.prog 9 #[.string s, .int .i64 p, .string ⟨#[71]⟩, .int .i64 n, .int .i64 want] w fun e w' => e = .returned (Move.res (Move.raw 9 s.data.toList p n want)) ∧ Below w.heap.size w w' := by
  have hl := data_len s
  have hu : n ≤ 9223372036854775807 ∧ want ≤ 9223372036854775807 := ⟨hn, hwant⟩
  obtain ⟨ha, hb', hc⟩ := Move.ref_facts s hp
  have C1 := Lib.hid (fun w => ref_Place s p (by omega) w)
  have C2 := Lib.hid (fun w => ref14_Has ⟨#[71]⟩ w)
  have C3 := Lib.hid (fun w => ref4_Of s p hs w)
  have C4 := Lib.hid (fun w => ref4_Start s (of_ s.data.toList p) hs w)
  have C5 := Lib.hid (fun w => ref4_End s (of_ s.data.toList p) hs w)
  have C6 := Lib.hid (fun w => ref4_Count s hs w)
  rw [hp] at C1
  rw [show (Move.mot (⟨#[71]⟩ : ByteArray).data.toList).isSome = true from rfl] at C2
  have r1 : IntKind.i64.wrap (((L s.data.toList).length : Int) - 1) = ((L s.data.toList).length : Int) - 1 := wrap_id (by omega) (by omega)
  have ht : max n 1 = n := by omega
  have C7 := Lib.hid (fun w => ref14_least (n - 1) (((L s.data.toList).length : Int) - 1) w)
  have C8 := Lib.hid (fun w => ref4_First s (min (n - 1) (((L s.data.toList).length : Int) - 1)) hs w)
  have r2 : IntKind.i64.wrap (n - 1) = n - 1 := wrap_id (by omega) (by omega)
  have H : Hid (Move.res (Move.raw 9 s.data.toList p n want) = .tuple #[.int .i64 (Line.first s.data.toList (min (n - 1) (((L s.data.toList).length : Int) - 1))), .bool true]) := Move.raw_res (by omega) hp (by simp only [Move.raw]; rw [if_neg h1, ht]) (Line.first_ge2 (by omega) (by omega))
  clear ha hb' hc hp hl ht hu
  generalize Line.first s.data.toList (min (n - 1) (((L s.data.toList).length : Int) - 1)) = V at *
  generalize Line.start s.data.toList (of_ s.data.toList p) = st at *
  generalize Line.stop s.data.toList (of_ s.data.toList p) = sp at *
  generalize of_ s.data.toList p = k at *
  generalize (L s.data.toList).length = nl at *
  generalize column s.data.toList p = c at *
  generalize hq1 : n - 1 = q1 at *
  go_enter Try.func9, Try.ntmps9
  go_wp2_with (first
    | (go_at_call 17; refine (C1.out _).mono ?_; rintro e w1 ⟨rfl, hb⟩)
    | (go_at_call 11; (with_reducible refine (C2.out _).mono ?_); rintro e w2 ⟨rfl, hb2⟩; replace hb := below_on hb hb2)
    | (go_at_call 18; (with_reducible refine (C3.out _).mono ?_); rintro e w2 ⟨rfl, hb2⟩; replace hb := below_on hb hb2)
    | (go_at_call 19; (with_reducible refine (C4.out _).mono ?_); rintro e w2 ⟨rfl, hb2⟩; replace hb := below_on hb hb2)
    | (go_at_call 20; (with_reducible refine (C5.out _).mono ?_); rintro e w2 ⟨rfl, hb2⟩; replace hb := below_on hb hb2)
    | (go_at_call 21; (with_reducible refine (C6.out _).mono ?_); rintro e w2 ⟨rfl, hb2⟩; replace hb := below_on hb hb2)
    | (go_at_call 24; (with_reducible refine (C7.out _).mono ?_); rintro e w2 ⟨rfl, rfl⟩)
    | (go_at_call 25; (with_reducible refine (C8.out _).mono ?_); rintro e w2 ⟨rfl, hb2⟩; replace hb := below_on hb hb2))
  go_ret2
  exact ⟨by rw [H.out]; rfl, hb⟩
end Go.Proofs.Ytdmgjaobkfjgpaa
