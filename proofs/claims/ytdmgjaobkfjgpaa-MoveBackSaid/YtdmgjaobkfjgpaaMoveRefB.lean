/-
  Where a key leads, as the document's answer tells it: one key and one way a theorem.
-/
import Derived.Test.YtdmgjaobkfjgpaaMoveRef
namespace Go.Proofs.Ytdmgjaobkfjgpaa
open Go.RowKit
open Line (L of_ column)
open Utf (place)
set_option maxHeartbeats 1000000 in
set_option maxRecDepth 100000 in
theorem ref14_begin_lo (s : ByteArray) (p n want : Int) (hs : s.size ≤ 1000000000000) (hn : n ≤ 9223372036854775807) (hwant : want ≤ 9223372036854775807) (hp : place s.data.toList p = true) (h1 : n < 1) (w : World) :
    Calls Try.prog 9 #[.string s, .int .i64 p, .string ⟨#[48]⟩, .int .i64 n, .int .i64 want] w fun e w' => e = .returned (Move.res (Move.raw 2 s.data.toList p n want)) ∧ Below w.heap.size w w' := by
  have hl := data_len s
  have hu : n ≤ 9223372036854775807 ∧ want ≤ 9223372036854775807 := ⟨hn, hwant⟩
  obtain ⟨ha, hb', hc⟩ := Move.ref_facts s hp
  have C1 := Lib.hid (fun w => ref_Place s p (by omega) w)
  have C2 := Lib.hid (fun w => ref14_Has ⟨#[48]⟩ w)
  have C3 := Lib.hid (fun w => ref4_Of s p hs w)
  have C4 := Lib.hid (fun w => ref4_Start s (of_ s.data.toList p) hs w)
  have C5 := Lib.hid (fun w => ref4_End s (of_ s.data.toList p) hs w)
  have C6 := Lib.hid (fun w => ref4_Count s hs w)
  rw [hp] at C1
  rw [show (Move.mot (⟨#[48]⟩ : ByteArray).data.toList).isSome = true from rfl] at C2
  have r1 : IntKind.i64.wrap (((L s.data.toList).length : Int) - 1) = ((L s.data.toList).length : Int) - 1 := wrap_id (by omega) (by omega)
  have ht : max n 1 = 1 := by omega
  have H : Hid (Move.res (Move.raw 2 s.data.toList p n want) = .tuple #[.int .i64 (Line.start s.data.toList (of_ s.data.toList p)), .bool true]) := Move.raw_res (by omega) hp rfl (Line.start_ge hp)
  clear ha hb' hc hp hl ht hu
  generalize Line.start s.data.toList (of_ s.data.toList p) = st at *
  generalize Line.stop s.data.toList (of_ s.data.toList p) = sp at *
  generalize of_ s.data.toList p = k at *
  generalize (L s.data.toList).length = nl at *
  generalize column s.data.toList p = c at *
  go_enter Try.func9, Try.ntmps9
  go_wp2_with (first
    | (go_at_call 17; refine (C1.out _).mono ?_; rintro e w1 ⟨rfl, hb⟩)
    | (go_at_call 11; (with_reducible refine (C2.out _).mono ?_); rintro e w2 ⟨rfl, hb2⟩; replace hb := below_on hb hb2)
    | (go_at_call 18; (with_reducible refine (C3.out _).mono ?_); rintro e w2 ⟨rfl, hb2⟩; replace hb := below_on hb hb2)
    | (go_at_call 19; (with_reducible refine (C4.out _).mono ?_); rintro e w2 ⟨rfl, hb2⟩; replace hb := below_on hb hb2)
    | (go_at_call 20; (with_reducible refine (C5.out _).mono ?_); rintro e w2 ⟨rfl, hb2⟩; replace hb := below_on hb hb2)
    | (go_at_call 21; (with_reducible refine (C6.out _).mono ?_); rintro e w2 ⟨rfl, hb2⟩; replace hb := below_on hb hb2))
  go_ret2
  exact ⟨by rw [H.out]; rfl, hb⟩
set_option maxHeartbeats 1000000 in
set_option maxRecDepth 100000 in
theorem ref14_first_lo (s : ByteArray) (p n want : Int) (hs : s.size ≤ 1000000000000) (hn : n ≤ 9223372036854775807) (hwant : want ≤ 9223372036854775807) (hp : place s.data.toList p = true) (h1 : n < 1) (w : World) :
    Calls Try.prog 9 #[.string s, .int .i64 p, .string ⟨#[94]⟩, .int .i64 n, .int .i64 want] w fun e w' => e = .returned (Move.res (Move.raw 3 s.data.toList p n want)) ∧ Below w.heap.size w w' := by
  have hl := data_len s
  have hu : n ≤ 9223372036854775807 ∧ want ≤ 9223372036854775807 := ⟨hn, hwant⟩
  obtain ⟨ha, hb', hc⟩ := Move.ref_facts s hp
  have C1 := Lib.hid (fun w => ref_Place s p (by omega) w)
  have C2 := Lib.hid (fun w => ref14_Has ⟨#[94]⟩ w)
  have C3 := Lib.hid (fun w => ref4_Of s p hs w)
  have C4 := Lib.hid (fun w => ref4_Start s (of_ s.data.toList p) hs w)
  have C5 := Lib.hid (fun w => ref4_End s (of_ s.data.toList p) hs w)
  have C6 := Lib.hid (fun w => ref4_Count s hs w)
  rw [hp] at C1
  rw [show (Move.mot (⟨#[94]⟩ : ByteArray).data.toList).isSome = true from rfl] at C2
  have r1 : IntKind.i64.wrap (((L s.data.toList).length : Int) - 1) = ((L s.data.toList).length : Int) - 1 := wrap_id (by omega) (by omega)
  have ht : max n 1 = 1 := by omega
  have C7 := Lib.hid (fun w => ref4_First s (of_ s.data.toList p) hs w)
  have H : Hid (Move.res (Move.raw 3 s.data.toList p n want) = .tuple #[.int .i64 (Line.first s.data.toList (of_ s.data.toList p)), .bool true]) := Move.raw_res (by omega) hp rfl (Line.first_ge hp)
  clear ha hb' hc hp hl ht hu
  generalize Line.first s.data.toList (of_ s.data.toList p) = V at *
  generalize Line.start s.data.toList (of_ s.data.toList p) = st at *
  generalize Line.stop s.data.toList (of_ s.data.toList p) = sp at *
  generalize of_ s.data.toList p = k at *
  generalize (L s.data.toList).length = nl at *
  generalize column s.data.toList p = c at *
  go_enter Try.func9, Try.ntmps9
  go_wp2_with (first
    | (go_at_call 17; refine (C1.out _).mono ?_; rintro e w1 ⟨rfl, hb⟩)
    | (go_at_call 11; (with_reducible refine (C2.out _).mono ?_); rintro e w2 ⟨rfl, hb2⟩; replace hb := below_on hb hb2)
    | (go_at_call 18; (with_reducible refine (C3.out _).mono ?_); rintro e w2 ⟨rfl, hb2⟩; replace hb := below_on hb hb2)
    | (go_at_call 19; (with_reducible refine (C4.out _).mono ?_); rintro e w2 ⟨rfl, hb2⟩; replace hb := below_on hb hb2)
    | (go_at_call 20; (with_reducible refine (C5.out _).mono ?_); rintro e w2 ⟨rfl, hb2⟩; replace hb := below_on hb hb2)
    | (go_at_call 21; (with_reducible refine (C6.out _).mono ?_); rintro e w2 ⟨rfl, hb2⟩; replace hb := below_on hb hb2)
    | (go_at_call 25; (with_reducible refine (C7.out _).mono ?_); rintro e w2 ⟨rfl, hb2⟩; replace hb := below_on hb hb2))
  go_ret2
  exact ⟨by rw [H.out]; rfl, hb⟩
set_option maxHeartbeats 1000000 in
set_option maxRecDepth 100000 in
theorem ref14_end_no_lo (s : ByteArray) (p n want : Int) (hs : s.size ≤ 1000000000000) (hn : n ≤ 9223372036854775807) (hwant : want ≤ 9223372036854775807) (hp : place s.data.toList p = true) (h1 : n < 1) (h2 : ((L s.data.toList).length : Int) - 1 - of_ s.data.toList p < max n 1 - 1) (w : World) :
    Calls Try.prog 9 #[.string s, .int .i64 p, .string ⟨#[36]⟩, .int .i64 n, .int .i64 want] w fun e w' => e = .returned (Move.res (Move.raw 4 s.data.toList p n want)) ∧ Below w.heap.size w w' := by
  have hl := data_len s
  have hu : n ≤ 9223372036854775807 ∧ want ≤ 9223372036854775807 := ⟨hn, hwant⟩
  obtain ⟨ha, hb', hc⟩ := Move.ref_facts s hp
  have C1 := Lib.hid (fun w => ref_Place s p (by omega) w)
  have C2 := Lib.hid (fun w => ref14_Has ⟨#[36]⟩ w)
  have C3 := Lib.hid (fun w => ref4_Of s p hs w)
  have C4 := Lib.hid (fun w => ref4_Start s (of_ s.data.toList p) hs w)
  have C5 := Lib.hid (fun w => ref4_End s (of_ s.data.toList p) hs w)
  have C6 := Lib.hid (fun w => ref4_Count s hs w)
  rw [hp] at C1
  rw [show (Move.mot (⟨#[36]⟩ : ByteArray).data.toList).isSome = true from rfl] at C2
  have r1 : IntKind.i64.wrap (((L s.data.toList).length : Int) - 1) = ((L s.data.toList).length : Int) - 1 := wrap_id (by omega) (by omega)
  have ht : max n 1 = 1 := by omega
  have r2 : IntKind.i64.wrap (1 - 1) = 1 - 1 := wrap_id (by omega) (by omega)
  have r3 : IntKind.i64.wrap (((L s.data.toList).length : Int) - 1 - of_ s.data.toList p) = ((L s.data.toList).length : Int) - 1 - of_ s.data.toList p := wrap_id (by omega) (by omega)
  have H : Hid (Move.res (Move.raw 4 s.data.toList p n want) = .tuple #[.int .i64 0, .bool false]) := by show _ = _; simp only [Move.raw]; rw [if_pos (by omega)]; rfl
  rw [ht] at h2
  clear ha hb' hc hp hl ht hu
  generalize Line.start s.data.toList (of_ s.data.toList p) = st at *
  generalize Line.stop s.data.toList (of_ s.data.toList p) = sp at *
  generalize of_ s.data.toList p = k at *
  generalize (L s.data.toList).length = nl at *
  generalize column s.data.toList p = c at *
  go_enter Try.func9, Try.ntmps9
  go_wp2_with (first
    | (go_at_call 17; refine (C1.out _).mono ?_; rintro e w1 ⟨rfl, hb⟩)
    | (go_at_call 11; (with_reducible refine (C2.out _).mono ?_); rintro e w2 ⟨rfl, hb2⟩; replace hb := below_on hb hb2)
    | (go_at_call 18; (with_reducible refine (C3.out _).mono ?_); rintro e w2 ⟨rfl, hb2⟩; replace hb := below_on hb hb2)
    | (go_at_call 19; (with_reducible refine (C4.out _).mono ?_); rintro e w2 ⟨rfl, hb2⟩; replace hb := below_on hb hb2)
    | (go_at_call 20; (with_reducible refine (C5.out _).mono ?_); rintro e w2 ⟨rfl, hb2⟩; replace hb := below_on hb hb2)
    | (go_at_call 21; (with_reducible refine (C6.out _).mono ?_); rintro e w2 ⟨rfl, hb2⟩; replace hb := below_on hb hb2))
  go_ret2
  exact ⟨by rw [H.out]; rfl, hb⟩
set_option maxHeartbeats 1000000 in
set_option maxRecDepth 100000 in
theorem ref14_end_lo (s : ByteArray) (p n want : Int) (hs : s.size ≤ 1000000000000) (hn : n ≤ 9223372036854775807) (hwant : want ≤ 9223372036854775807) (hp : place s.data.toList p = true) (h1 : n < 1) (h2 : ¬ ((L s.data.toList).length : Int) - 1 - of_ s.data.toList p < max n 1 - 1) (w : World) :
    Calls Try.prog 9 #[.string s, .int .i64 p, .string ⟨#[36]⟩, .int .i64 n, .int .i64 want] w fun e w' => e = .returned (Move.res (Move.raw 4 s.data.toList p n want)) ∧ Below w.heap.size w w' := by
  have hl := data_len s
  have hu : n ≤ 9223372036854775807 ∧ want ≤ 9223372036854775807 := ⟨hn, hwant⟩
  obtain ⟨ha, hb', hc⟩ := Move.ref_facts s hp
  have C1 := Lib.hid (fun w => ref_Place s p (by omega) w)
  have C2 := Lib.hid (fun w => ref14_Has ⟨#[36]⟩ w)
  have C3 := Lib.hid (fun w => ref4_Of s p hs w)
  have C4 := Lib.hid (fun w => ref4_Start s (of_ s.data.toList p) hs w)
  have C5 := Lib.hid (fun w => ref4_End s (of_ s.data.toList p) hs w)
  have C6 := Lib.hid (fun w => ref4_Count s hs w)
  rw [hp] at C1
  rw [show (Move.mot (⟨#[36]⟩ : ByteArray).data.toList).isSome = true from rfl] at C2
  have r1 : IntKind.i64.wrap (((L s.data.toList).length : Int) - 1) = ((L s.data.toList).length : Int) - 1 := wrap_id (by omega) (by omega)
  have ht : max n 1 = 1 := by omega
  have r2 : IntKind.i64.wrap (1 - 1) = 1 - 1 := wrap_id (by omega) (by omega)
  have r3 : IntKind.i64.wrap (((L s.data.toList).length : Int) - 1 - of_ s.data.toList p) = ((L s.data.toList).length : Int) - 1 - of_ s.data.toList p := wrap_id (by omega) (by omega)
  have r4 : IntKind.i64.wrap (of_ s.data.toList p + 1) = of_ s.data.toList p + 1 := wrap_id (by omega) (by omega)
  have r5 : IntKind.i64.wrap (of_ s.data.toList p) = of_ s.data.toList p := wrap_id (by omega) (by omega)
  have H : Hid (Move.res (Move.raw 4 s.data.toList p n want) = .tuple #[.int .i64 (Line.stop s.data.toList (of_ s.data.toList p)), .bool true]) := Move.raw_res (by omega) hp (by simp only [Move.raw]; rw [if_neg h2, ht]; congr 1; omega) (Line.stop_ge (by omega) (by omega))
  rw [ht] at h2
  clear ha hb' hc hp hl ht hu
  generalize Line.start s.data.toList (of_ s.data.toList p) = st at *
  generalize Line.stop s.data.toList (of_ s.data.toList p) = sp at *
  generalize of_ s.data.toList p = k at *
  generalize (L s.data.toList).length = nl at *
  generalize column s.data.toList p = c at *
  go_enter Try.func9, Try.ntmps9
  go_wp2_with (first
    | (go_at_call 17; refine (C1.out _).mono ?_; rintro e w1 ⟨rfl, hb⟩)
    | (go_at_call 11; (with_reducible refine (C2.out _).mono ?_); rintro e w2 ⟨rfl, hb2⟩; replace hb := below_on hb hb2)
    | (go_at_call 18; (with_reducible refine (C3.out _).mono ?_); rintro e w2 ⟨rfl, hb2⟩; replace hb := below_on hb hb2)
    | (go_at_call 19; (with_reducible refine (C4.out _).mono ?_); rintro e w2 ⟨rfl, hb2⟩; replace hb := below_on hb hb2)
    | (go_at_call 20; (with_reducible refine (C5.out _).mono ?_); rintro e w2 ⟨rfl, hb2⟩; replace hb := below_on hb hb2)
    | (go_at_call 21; (with_reducible refine (C6.out _).mono ?_); rintro e w2 ⟨rfl, hb2⟩; replace hb := below_on hb hb2))
  go_ret2
  exact ⟨by rw [H.out]; rfl, hb⟩
set_option maxHeartbeats 1000000 in
set_option maxRecDepth 100000 in
theorem ref14_column_lo (s : ByteArray) (p n want : Int) (hs : s.size ≤ 1000000000000) (hn : n ≤ 9223372036854775807) (hwant : want ≤ 9223372036854775807) (hp : place s.data.toList p = true) (h1 : n < 1) (w : World) :
    Calls Try.prog 9 #[.string s, .int .i64 p, .string ⟨#[124]⟩, .int .i64 n, .int .i64 want] w fun e w' => e = .returned (Move.res (Move.raw 5 s.data.toList p n want)) ∧ Below w.heap.size w w' := by
  have hl := data_len s
  have hu : n ≤ 9223372036854775807 ∧ want ≤ 9223372036854775807 := ⟨hn, hwant⟩
  obtain ⟨ha, hb', hc⟩ := Move.ref_facts s hp
  have C1 := Lib.hid (fun w => ref_Place s p (by omega) w)
  have C2 := Lib.hid (fun w => ref14_Has ⟨#[124]⟩ w)
  have C3 := Lib.hid (fun w => ref4_Of s p hs w)
  have C4 := Lib.hid (fun w => ref4_Start s (of_ s.data.toList p) hs w)
  have C5 := Lib.hid (fun w => ref4_End s (of_ s.data.toList p) hs w)
  have C6 := Lib.hid (fun w => ref4_Count s hs w)
  rw [hp] at C1
  rw [show (Move.mot (⟨#[124]⟩ : ByteArray).data.toList).isSome = true from rfl] at C2
  have r1 : IntKind.i64.wrap (((L s.data.toList).length : Int) - 1) = ((L s.data.toList).length : Int) - 1 := wrap_id (by omega) (by omega)
  have ht : max n 1 = 1 := by omega
  have C7 := Lib.hid (fun w => ref4_At s (of_ s.data.toList p) (0) (by omega) hs w)
  have r2 : IntKind.i64.wrap (1 - 1) = 1 - 1 := wrap_id (by omega) (by omega)
  have H : Hid (Move.res (Move.raw 5 s.data.toList p n want) = .tuple #[.int .i64 (Line.at_ s.data.toList (of_ s.data.toList p) (0)), .bool true]) := Move.raw_res (by omega) hp (by simp only [Move.raw]; rw [ht]; rfl) (Line.at_ge hp _)
  clear ha hb' hc hp hl ht hu
  generalize Line.at_ s.data.toList (of_ s.data.toList p) (0) = V at *
  generalize Line.start s.data.toList (of_ s.data.toList p) = st at *
  generalize Line.stop s.data.toList (of_ s.data.toList p) = sp at *
  generalize of_ s.data.toList p = k at *
  generalize (L s.data.toList).length = nl at *
  generalize column s.data.toList p = c at *
  go_enter Try.func9, Try.ntmps9
  go_wp2_with (first
    | (go_at_call 17; refine (C1.out _).mono ?_; rintro e w1 ⟨rfl, hb⟩)
    | (go_at_call 11; (with_reducible refine (C2.out _).mono ?_); rintro e w2 ⟨rfl, hb2⟩; replace hb := below_on hb hb2)
    | (go_at_call 18; (with_reducible refine (C3.out _).mono ?_); rintro e w2 ⟨rfl, hb2⟩; replace hb := below_on hb hb2)
    | (go_at_call 19; (with_reducible refine (C4.out _).mono ?_); rintro e w2 ⟨rfl, hb2⟩; replace hb := below_on hb hb2)
    | (go_at_call 20; (with_reducible refine (C5.out _).mono ?_); rintro e w2 ⟨rfl, hb2⟩; replace hb := below_on hb hb2)
    | (go_at_call 21; (with_reducible refine (C6.out _).mono ?_); rintro e w2 ⟨rfl, hb2⟩; replace hb := below_on hb hb2)
    | (go_at_call 22; (with_reducible refine (C7.out _).mono ?_); rintro e w2 ⟨rfl, hb2⟩; replace hb := below_on hb hb2))
  go_ret2
  exact ⟨by rw [H.out]; rfl, hb⟩
set_option maxHeartbeats 1000000 in
set_option maxRecDepth 100000 in
theorem ref14_begin_hi (s : ByteArray) (p n want : Int) (hs : s.size ≤ 1000000000000) (hn : n ≤ 9223372036854775807) (hwant : want ≤ 9223372036854775807) (hp : place s.data.toList p = true) (h1 : ¬ n < 1) (w : World) :
    Calls Try.prog 9 #[.string s, .int .i64 p, .string ⟨#[48]⟩, .int .i64 n, .int .i64 want] w fun e w' => e = .returned (Move.res (Move.raw 2 s.data.toList p n want)) ∧ Below w.heap.size w w' := by
  have hl := data_len s
  have hu : n ≤ 9223372036854775807 ∧ want ≤ 9223372036854775807 := ⟨hn, hwant⟩
  obtain ⟨ha, hb', hc⟩ := Move.ref_facts s hp
  have C1 := Lib.hid (fun w => ref_Place s p (by omega) w)
  have C2 := Lib.hid (fun w => ref14_Has ⟨#[48]⟩ w)
  have C3 := Lib.hid (fun w => ref4_Of s p hs w)
  have C4 := Lib.hid (fun w => ref4_Start s (of_ s.data.toList p) hs w)
  have C5 := Lib.hid (fun w => ref4_End s (of_ s.data.toList p) hs w)
  have C6 := Lib.hid (fun w => ref4_Count s hs w)
  rw [hp] at C1
  rw [show (Move.mot (⟨#[48]⟩ : ByteArray).data.toList).isSome = true from rfl] at C2
  have r1 : IntKind.i64.wrap (((L s.data.toList).length : Int) - 1) = ((L s.data.toList).length : Int) - 1 := wrap_id (by omega) (by omega)
  have ht : max n 1 = n := by omega
  have H : Hid (Move.res (Move.raw 2 s.data.toList p n want) = .tuple #[.int .i64 (Line.start s.data.toList (of_ s.data.toList p)), .bool true]) := Move.raw_res (by omega) hp rfl (Line.start_ge hp)
  clear ha hb' hc hp hl ht hu
  generalize Line.start s.data.toList (of_ s.data.toList p) = st at *
  generalize Line.stop s.data.toList (of_ s.data.toList p) = sp at *
  generalize of_ s.data.toList p = k at *
  generalize (L s.data.toList).length = nl at *
  generalize column s.data.toList p = c at *
  go_enter Try.func9, Try.ntmps9
  go_wp2_with (first
    | (go_at_call 17; refine (C1.out _).mono ?_; rintro e w1 ⟨rfl, hb⟩)
    | (go_at_call 11; (with_reducible refine (C2.out _).mono ?_); rintro e w2 ⟨rfl, hb2⟩; replace hb := below_on hb hb2)
    | (go_at_call 18; (with_reducible refine (C3.out _).mono ?_); rintro e w2 ⟨rfl, hb2⟩; replace hb := below_on hb hb2)
    | (go_at_call 19; (with_reducible refine (C4.out _).mono ?_); rintro e w2 ⟨rfl, hb2⟩; replace hb := below_on hb hb2)
    | (go_at_call 20; (with_reducible refine (C5.out _).mono ?_); rintro e w2 ⟨rfl, hb2⟩; replace hb := below_on hb hb2)
    | (go_at_call 21; (with_reducible refine (C6.out _).mono ?_); rintro e w2 ⟨rfl, hb2⟩; replace hb := below_on hb hb2))
  go_ret2
  exact ⟨by rw [H.out]; rfl, hb⟩
set_option maxHeartbeats 1000000 in
set_option maxRecDepth 100000 in
theorem ref14_first_hi (s : ByteArray) (p n want : Int) (hs : s.size ≤ 1000000000000) (hn : n ≤ 9223372036854775807) (hwant : want ≤ 9223372036854775807) (hp : place s.data.toList p = true) (h1 : ¬ n < 1) (w : World) :
    Calls Try.prog 9 #[.string s, .int .i64 p, .string ⟨#[94]⟩, .int .i64 n, .int .i64 want] w fun e w' => e = .returned (Move.res (Move.raw 3 s.data.toList p n want)) ∧ Below w.heap.size w w' := by
  have hl := data_len s
  have hu : n ≤ 9223372036854775807 ∧ want ≤ 9223372036854775807 := ⟨hn, hwant⟩
  obtain ⟨ha, hb', hc⟩ := Move.ref_facts s hp
  have C1 := Lib.hid (fun w => ref_Place s p (by omega) w)
  have C2 := Lib.hid (fun w => ref14_Has ⟨#[94]⟩ w)
  have C3 := Lib.hid (fun w => ref4_Of s p hs w)
  have C4 := Lib.hid (fun w => ref4_Start s (of_ s.data.toList p) hs w)
  have C5 := Lib.hid (fun w => ref4_End s (of_ s.data.toList p) hs w)
  have C6 := Lib.hid (fun w => ref4_Count s hs w)
  rw [hp] at C1
  rw [show (Move.mot (⟨#[94]⟩ : ByteArray).data.toList).isSome = true from rfl] at C2
  have r1 : IntKind.i64.wrap (((L s.data.toList).length : Int) - 1) = ((L s.data.toList).length : Int) - 1 := wrap_id (by omega) (by omega)
  have ht : max n 1 = n := by omega
  have C7 := Lib.hid (fun w => ref4_First s (of_ s.data.toList p) hs w)
  have H : Hid (Move.res (Move.raw 3 s.data.toList p n want) = .tuple #[.int .i64 (Line.first s.data.toList (of_ s.data.toList p)), .bool true]) := Move.raw_res (by omega) hp rfl (Line.first_ge hp)
  clear ha hb' hc hp hl ht hu
  generalize Line.first s.data.toList (of_ s.data.toList p) = V at *
  generalize Line.start s.data.toList (of_ s.data.toList p) = st at *
  generalize Line.stop s.data.toList (of_ s.data.toList p) = sp at *
  generalize of_ s.data.toList p = k at *
  generalize (L s.data.toList).length = nl at *
  generalize column s.data.toList p = c at *
  go_enter Try.func9, Try.ntmps9
  go_wp2_with (first
    | (go_at_call 17; refine (C1.out _).mono ?_; rintro e w1 ⟨rfl, hb⟩)
    | (go_at_call 11; (with_reducible refine (C2.out _).mono ?_); rintro e w2 ⟨rfl, hb2⟩; replace hb := below_on hb hb2)
    | (go_at_call 18; (with_reducible refine (C3.out _).mono ?_); rintro e w2 ⟨rfl, hb2⟩; replace hb := below_on hb hb2)
    | (go_at_call 19; (with_reducible refine (C4.out _).mono ?_); rintro e w2 ⟨rfl, hb2⟩; replace hb := below_on hb hb2)
    | (go_at_call 20; (with_reducible refine (C5.out _).mono ?_); rintro e w2 ⟨rfl, hb2⟩; replace hb := below_on hb hb2)
    | (go_at_call 21; (with_reducible refine (C6.out _).mono ?_); rintro e w2 ⟨rfl, hb2⟩; replace hb := below_on hb hb2)
    | (go_at_call 25; (with_reducible refine (C7.out _).mono ?_); rintro e w2 ⟨rfl, hb2⟩; replace hb := below_on hb hb2))
  go_ret2
  exact ⟨by rw [H.out]; rfl, hb⟩
set_option maxHeartbeats 1000000 in
set_option maxRecDepth 100000 in
theorem ref14_end_no_hi (s : ByteArray) (p n want : Int) (hs : s.size ≤ 1000000000000) (hn : n ≤ 9223372036854775807) (hwant : want ≤ 9223372036854775807) (hp : place s.data.toList p = true) (h1 : ¬ n < 1) (h2 : ((L s.data.toList).length : Int) - 1 - of_ s.data.toList p < max n 1 - 1) (w : World) :
    Calls Try.prog 9 #[.string s, .int .i64 p, .string ⟨#[36]⟩, .int .i64 n, .int .i64 want] w fun e w' => e = .returned (Move.res (Move.raw 4 s.data.toList p n want)) ∧ Below w.heap.size w w' := by
  have hl := data_len s
  have hu : n ≤ 9223372036854775807 ∧ want ≤ 9223372036854775807 := ⟨hn, hwant⟩
  obtain ⟨ha, hb', hc⟩ := Move.ref_facts s hp
  have C1 := Lib.hid (fun w => ref_Place s p (by omega) w)
  have C2 := Lib.hid (fun w => ref14_Has ⟨#[36]⟩ w)
  have C3 := Lib.hid (fun w => ref4_Of s p hs w)
  have C4 := Lib.hid (fun w => ref4_Start s (of_ s.data.toList p) hs w)
  have C5 := Lib.hid (fun w => ref4_End s (of_ s.data.toList p) hs w)
  have C6 := Lib.hid (fun w => ref4_Count s hs w)
  rw [hp] at C1
  rw [show (Move.mot (⟨#[36]⟩ : ByteArray).data.toList).isSome = true from rfl] at C2
  have r1 : IntKind.i64.wrap (((L s.data.toList).length : Int) - 1) = ((L s.data.toList).length : Int) - 1 := wrap_id (by omega) (by omega)
  have ht : max n 1 = n := by omega
  have r2 : IntKind.i64.wrap (n - 1) = n - 1 := wrap_id (by omega) (by omega)
  have r3 : IntKind.i64.wrap (((L s.data.toList).length : Int) - 1 - of_ s.data.toList p) = ((L s.data.toList).length : Int) - 1 - of_ s.data.toList p := wrap_id (by omega) (by omega)
  have H : Hid (Move.res (Move.raw 4 s.data.toList p n want) = .tuple #[.int .i64 0, .bool false]) := by show _ = _; simp only [Move.raw]; rw [if_pos (by omega)]; rfl
  rw [ht] at h2
  clear ha hb' hc hp hl ht hu
  generalize Line.start s.data.toList (of_ s.data.toList p) = st at *
  generalize Line.stop s.data.toList (of_ s.data.toList p) = sp at *
  generalize of_ s.data.toList p = k at *
  generalize (L s.data.toList).length = nl at *
  generalize column s.data.toList p = c at *
  go_enter Try.func9, Try.ntmps9
  go_wp2_with (first
    | (go_at_call 17; refine (C1.out _).mono ?_; rintro e w1 ⟨rfl, hb⟩)
    | (go_at_call 11; (with_reducible refine (C2.out _).mono ?_); rintro e w2 ⟨rfl, hb2⟩; replace hb := below_on hb hb2)
    | (go_at_call 18; (with_reducible refine (C3.out _).mono ?_); rintro e w2 ⟨rfl, hb2⟩; replace hb := below_on hb hb2)
    | (go_at_call 19; (with_reducible refine (C4.out _).mono ?_); rintro e w2 ⟨rfl, hb2⟩; replace hb := below_on hb hb2)
    | (go_at_call 20; (with_reducible refine (C5.out _).mono ?_); rintro e w2 ⟨rfl, hb2⟩; replace hb := below_on hb hb2)
    | (go_at_call 21; (with_reducible refine (C6.out _).mono ?_); rintro e w2 ⟨rfl, hb2⟩; replace hb := below_on hb hb2))
  go_ret2
  exact ⟨by rw [H.out]; rfl, hb⟩
set_option maxHeartbeats 1000000 in
set_option maxRecDepth 100000 in
theorem ref14_end_hi (s : ByteArray) (p n want : Int) (hs : s.size ≤ 1000000000000) (hn : n ≤ 9223372036854775807) (hwant : want ≤ 9223372036854775807) (hp : place s.data.toList p = true) (h1 : ¬ n < 1) (h2 : ¬ ((L s.data.toList).length : Int) - 1 - of_ s.data.toList p < max n 1 - 1) (w : World) :
    Calls Try.prog 9 #[.string s, .int .i64 p, .string ⟨#[36]⟩, .int .i64 n, .int .i64 want] w fun e w' => e = .returned (Move.res (Move.raw 4 s.data.toList p n want)) ∧ Below w.heap.size w w' := by
  have hl := data_len s
  have hu : n ≤ 9223372036854775807 ∧ want ≤ 9223372036854775807 := ⟨hn, hwant⟩
  obtain ⟨ha, hb', hc⟩ := Move.ref_facts s hp
  have C1 := Lib.hid (fun w => ref_Place s p (by omega) w)
  have C2 := Lib.hid (fun w => ref14_Has ⟨#[36]⟩ w)
  have C3 := Lib.hid (fun w => ref4_Of s p hs w)
  have C4 := Lib.hid (fun w => ref4_Start s (of_ s.data.toList p) hs w)
  have C5 := Lib.hid (fun w => ref4_End s (of_ s.data.toList p) hs w)
  have C6 := Lib.hid (fun w => ref4_Count s hs w)
  rw [hp] at C1
  rw [show (Move.mot (⟨#[36]⟩ : ByteArray).data.toList).isSome = true from rfl] at C2
  have r1 : IntKind.i64.wrap (((L s.data.toList).length : Int) - 1) = ((L s.data.toList).length : Int) - 1 := wrap_id (by omega) (by omega)
  have ht : max n 1 = n := by omega
  have C7 := Lib.hid (fun w => ref4_End s (of_ s.data.toList p + n - 1) hs w)
  have r2 : IntKind.i64.wrap (n - 1) = n - 1 := wrap_id (by omega) (by omega)
  have r3 : IntKind.i64.wrap (((L s.data.toList).length : Int) - 1 - of_ s.data.toList p) = ((L s.data.toList).length : Int) - 1 - of_ s.data.toList p := wrap_id (by omega) (by omega)
  have r4 : IntKind.i64.wrap (of_ s.data.toList p + n) = of_ s.data.toList p + n := wrap_id (by omega) (by omega)
  have r5 : IntKind.i64.wrap (of_ s.data.toList p + n - 1) = of_ s.data.toList p + n - 1 := wrap_id (by omega) (by omega)
  have H : Hid (Move.res (Move.raw 4 s.data.toList p n want) = .tuple #[.int .i64 (Line.stop s.data.toList (of_ s.data.toList p + n - 1)), .bool true]) := Move.raw_res (by omega) hp (by simp only [Move.raw]; rw [if_neg h2, ht]) (Line.stop_ge (by omega) (by omega))
  rw [ht] at h2
  clear ha hb' hc hp hl ht hu
  generalize Line.stop s.data.toList (of_ s.data.toList p + n - 1) = V at *
  generalize Line.start s.data.toList (of_ s.data.toList p) = st at *
  generalize Line.stop s.data.toList (of_ s.data.toList p) = sp at *
  generalize of_ s.data.toList p = k at *
  generalize (L s.data.toList).length = nl at *
  generalize column s.data.toList p = c at *
  go_enter Try.func9, Try.ntmps9
  go_wp2_with (first
    | (go_at_call 17; refine (C1.out _).mono ?_; rintro e w1 ⟨rfl, hb⟩)
    | (go_at_call 11; (with_reducible refine (C2.out _).mono ?_); rintro e w2 ⟨rfl, hb2⟩; replace hb := below_on hb hb2)
    | (go_at_call 18; (with_reducible refine (C3.out _).mono ?_); rintro e w2 ⟨rfl, hb2⟩; replace hb := below_on hb hb2)
    | (go_at_call 19; (with_reducible refine (C4.out _).mono ?_); rintro e w2 ⟨rfl, hb2⟩; replace hb := below_on hb hb2)
    | (go_at_call 20; (with_reducible refine (C5.out _).mono ?_); rintro e w2 ⟨rfl, hb2⟩; replace hb := below_on hb hb2)
    | (go_at_call 21; (with_reducible refine (C6.out _).mono ?_); rintro e w2 ⟨rfl, hb2⟩; replace hb := below_on hb hb2)
    | (go_at_call 20; (with_reducible refine (C7.out _).mono ?_); rintro e w2 ⟨rfl, hb2⟩; replace hb := below_on hb hb2))
  go_ret2
  exact ⟨by rw [H.out]; rfl, hb⟩
set_option maxHeartbeats 1000000 in
set_option maxRecDepth 100000 in
theorem ref14_column_hi (s : ByteArray) (p n want : Int) (hs : s.size ≤ 1000000000000) (hn : n ≤ 9223372036854775807) (hwant : want ≤ 9223372036854775807) (hp : place s.data.toList p = true) (h1 : ¬ n < 1) (w : World) :
    Calls Try.prog 9 #[.string s, .int .i64 p, .string ⟨#[124]⟩, .int .i64 n, .int .i64 want] w fun e w' => e = .returned (Move.res (Move.raw 5 s.data.toList p n want)) ∧ Below w.heap.size w w' := by
  have hl := data_len s
  have hu : n ≤ 9223372036854775807 ∧ want ≤ 9223372036854775807 := ⟨hn, hwant⟩
  obtain ⟨ha, hb', hc⟩ := Move.ref_facts s hp
  have C1 := Lib.hid (fun w => ref_Place s p (by omega) w)
  have C2 := Lib.hid (fun w => ref14_Has ⟨#[124]⟩ w)
  have C3 := Lib.hid (fun w => ref4_Of s p hs w)
  have C4 := Lib.hid (fun w => ref4_Start s (of_ s.data.toList p) hs w)
  have C5 := Lib.hid (fun w => ref4_End s (of_ s.data.toList p) hs w)
  have C6 := Lib.hid (fun w => ref4_Count s hs w)
  rw [hp] at C1
  rw [show (Move.mot (⟨#[124]⟩ : ByteArray).data.toList).isSome = true from rfl] at C2
  have r1 : IntKind.i64.wrap (((L s.data.toList).length : Int) - 1) = ((L s.data.toList).length : Int) - 1 := wrap_id (by omega) (by omega)
  have ht : max n 1 = n := by omega
  have C7 := Lib.hid (fun w => ref4_At s (of_ s.data.toList p) (n - 1) (by omega) hs w)
  have r2 : IntKind.i64.wrap (n - 1) = n - 1 := wrap_id (by omega) (by omega)
  have H : Hid (Move.res (Move.raw 5 s.data.toList p n want) = .tuple #[.int .i64 (Line.at_ s.data.toList (of_ s.data.toList p) (n - 1)), .bool true]) := Move.raw_res (by omega) hp (by simp only [Move.raw]; rw [ht]) (Line.at_ge hp _)
  clear ha hb' hc hp hl ht hu
  generalize Line.at_ s.data.toList (of_ s.data.toList p) (n - 1) = V at *
  generalize Line.start s.data.toList (of_ s.data.toList p) = st at *
  generalize Line.stop s.data.toList (of_ s.data.toList p) = sp at *
  generalize of_ s.data.toList p = k at *
  generalize (L s.data.toList).length = nl at *
  generalize column s.data.toList p = c at *
  go_enter Try.func9, Try.ntmps9
  go_wp2_with (first
    | (go_at_call 17; refine (C1.out _).mono ?_; rintro e w1 ⟨rfl, hb⟩)
    | (go_at_call 11; (with_reducible refine (C2.out _).mono ?_); rintro e w2 ⟨rfl, hb2⟩; replace hb := below_on hb hb2)
    | (go_at_call 18; (with_reducible refine (C3.out _).mono ?_); rintro e w2 ⟨rfl, hb2⟩; replace hb := below_on hb hb2)
    | (go_at_call 19; (with_reducible refine (C4.out _).mono ?_); rintro e w2 ⟨rfl, hb2⟩; replace hb := below_on hb hb2)
    | (go_at_call 20; (with_reducible refine (C5.out _).mono ?_); rintro e w2 ⟨rfl, hb2⟩; replace hb := below_on hb hb2)
    | (go_at_call 21; (with_reducible refine (C6.out _).mono ?_); rintro e w2 ⟨rfl, hb2⟩; replace hb := below_on hb hb2)
    | (go_at_call 22; (with_reducible refine (C7.out _).mono ?_); rintro e w2 ⟨rfl, hb2⟩; replace hb := below_on hb hb2))
  go_ret2
  exact ⟨by rw [H.out]; rfl, hb⟩
end Go.Proofs.Ytdmgjaobkfjgpaa
