/-
  Where a key leads, as the document's answer tells it: one key and one way a theorem.
-/
import Derived.Test.YtdmgjaobkfjgpaaMoveRef
namespace Go.Proofs.Ytdmgjaobkfjgpaa
open Go.RowKit
open Line (L of_ column)
open Utf (place)
set_option maxHeartbeats 1000000 in
set_option maxRecDepth 100000 in
theorem ref14_left_no_lo (s : ByteArray) (p n want : Int) (hs : s.size ≤ 1000000000000) (hn : n ≤ 9223372036854775807) (hwant : want ≤ 9223372036854775807) (hp : place s.data.toList p = true) (h1 : n < 1) (h2 : p = Line.start s.data.toList (of_ s.data.toList p)) (w : World) :
    Calls Try.prog 9 #[.string s, .int .i64 p, .string ⟨#[104]⟩, .int .i64 n, .int .i64 want] w fun e w' => e = .returned (Move.res (Move.raw 0 s.data.toList p n want)) ∧ Below w.heap.size w w' := by
  have hl := data_len s
  have hu : n ≤ 9223372036854775807 ∧ want ≤ 9223372036854775807 := ⟨hn, hwant⟩
  obtain ⟨ha, hb', hc⟩ := Move.ref_facts s hp
  have C1 := Lib.hid (fun w => ref_Place s p (by omega) w)
  have C2 := Lib.hid (fun w => ref14_Has ⟨#[104]⟩ w)
  have C3 := Lib.hid (fun w => ref4_Of s p hs w)
  have C4 := Lib.hid (fun w => ref4_Start s (of_ s.data.toList p) hs w)
  have C5 := Lib.hid (fun w => ref4_End s (of_ s.data.toList p) hs w)
  have C6 := Lib.hid (fun w => ref4_Count s hs w)
  rw [hp] at C1
  rw [show (Move.mot (⟨#[104]⟩ : ByteArray).data.toList).isSome = true from rfl] at C2
  have r1 : IntKind.i64.wrap (((L s.data.toList).length : Int) - 1) = ((L s.data.toList).length : Int) - 1 := wrap_id (by omega) (by omega)
  have ht : max n 1 = 1 := by omega
  have H : Hid (Move.res (Move.raw 0 s.data.toList p n want) = .tuple #[.int .i64 0, .bool false]) := by show _ = _; simp only [Move.raw]; rw [if_pos (by omega)]; rfl
  have g1 : (p == Line.start s.data.toList (of_ s.data.toList p)) = true := by rw [beq_iff_eq]; exact h2
  clear h2
  clear ha hb' hc hp hl ht hu
  generalize Line.start s.data.toList (of_ s.data.toList p) = st at *
  generalize Line.stop s.data.toList (of_ s.data.toList p) = sp at *
  generalize of_ s.data.toList p = k at *
  generalize (L s.data.toList).length = nl at *
  generalize column s.data.toList p = c at *
  go_enter Try.func9, Try.ntmps9
  go_wp2_with (first
    | (go_at_call 17; refine (C1.out _).mono ?_; rintro e w1 ⟨rfl, hb⟩)
    | (go_at_call 11; (with_reducible refine (C2.out _).mono ?_); rintro e w2 ⟨rfl, hb2⟩; replace hb := below_on hb hb2)
    | (go_at_call 18; (with_reducible refine (C3.out _).mono ?_); rintro e w2 ⟨rfl, hb2⟩; replace hb := below_on hb hb2)
    | (go_at_call 19; (with_reducible refine (C4.out _).mono ?_); rintro e w2 ⟨rfl, hb2⟩; replace hb := below_on hb hb2)
    | (go_at_call 20; (with_reducible refine (C5.out _).mono ?_); rintro e w2 ⟨rfl, hb2⟩; replace hb := below_on hb hb2)
    | (go_at_call 21; (with_reducible refine (C6.out _).mono ?_); rintro e w2 ⟨rfl, hb2⟩; replace hb := below_on hb hb2))
  go_ret2
  exact ⟨by rw [H.out]; rfl, hb⟩
set_option maxHeartbeats 1000000 in
set_option maxRecDepth 100000 in
theorem ref14_left_lo (s : ByteArray) (p n want : Int) (hs : s.size ≤ 1000000000000) (hn : n ≤ 9223372036854775807) (hwant : want ≤ 9223372036854775807) (hp : place s.data.toList p = true) (h1 : n < 1) (h2 : p ≠ Line.start s.data.toList (of_ s.data.toList p)) (w : World) :
    Calls Try.prog 9 #[.string s, .int .i64 p, .string ⟨#[104]⟩, .int .i64 n, .int .i64 want] w fun e w' => e = .returned (Move.res (Move.raw 0 s.data.toList p n want)) ∧ Below w.heap.size w w' := by
  have hl := data_len s
  have hu : n ≤ 9223372036854775807 ∧ want ≤ 9223372036854775807 := ⟨hn, hwant⟩
  obtain ⟨ha, hb', hc⟩ := Move.ref_facts s hp
  have C1 := Lib.hid (fun w => ref_Place s p (by omega) w)
  have C2 := Lib.hid (fun w => ref14_Has ⟨#[104]⟩ w)
  have C3 := Lib.hid (fun w => ref4_Of s p hs w)
  have C4 := Lib.hid (fun w => ref4_Start s (of_ s.data.toList p) hs w)
  have C5 := Lib.hid (fun w => ref4_End s (of_ s.data.toList p) hs w)
  have C6 := Lib.hid (fun w => ref4_Count s hs w)
  rw [hp] at C1
  rw [show (Move.mot (⟨#[104]⟩ : ByteArray).data.toList).isSome = true from rfl] at C2
  have r1 : IntKind.i64.wrap (((L s.data.toList).length : Int) - 1) = ((L s.data.toList).length : Int) - 1 := wrap_id (by omega) (by omega)
  have ht : max n 1 = 1 := by omega
  have C7 := Lib.hid (fun w => ref4_Column s p hs w)
  have C8 := Lib.hid (fun w => ref14_least 1 (column s.data.toList p) w)
  have C9 := Lib.hid (fun w => ref4_At s (of_ s.data.toList p) (column s.data.toList p - min 1 (column s.data.toList p)) (by omega) hs w)
  have r2 : IntKind.i64.wrap (column s.data.toList p - min 1 (column s.data.toList p)) = column s.data.toList p - min 1 (column s.data.toList p) := wrap_id (by omega) (by omega)
  have H : Hid (Move.res (Move.raw 0 s.data.toList p n want) = .tuple #[.int .i64 (Line.at_ s.data.toList (of_ s.data.toList p) (column s.data.toList p - min 1 (column s.data.toList p))), .bool true]) := Move.raw_res (by omega) hp (by simp only [Move.raw]; rw [if_neg h2, ht]) (Line.at_ge hp _)
  have g1 : (p == Line.start s.data.toList (of_ s.data.toList p)) = false := by rw [beq_eq_false_iff_ne]; exact h2
  clear h2
  clear ha hb' hc hp hl ht hu
  generalize Line.at_ s.data.toList (of_ s.data.toList p) (column s.data.toList p - min 1 (column s.data.toList p)) = V at *
  generalize Line.start s.data.toList (of_ s.data.toList p) = st at *
  generalize Line.stop s.data.toList (of_ s.data.toList p) = sp at *
  generalize of_ s.data.toList p = k at *
  generalize (L s.data.toList).length = nl at *
  generalize column s.data.toList p = c at *
  generalize min 1 c = d at *
  generalize hq : c - d = q at *
  go_enter Try.func9, Try.ntmps9
  go_wp2_with (first
    | (go_at_call 17; refine (C1.out _).mono ?_; rintro e w1 ⟨rfl, hb⟩)
    | (go_at_call 11; (with_reducible refine (C2.out _).mono ?_); rintro e w2 ⟨rfl, hb2⟩; replace hb := below_on hb hb2)
    | (go_at_call 18; (with_reducible refine (C3.out _).mono ?_); rintro e w2 ⟨rfl, hb2⟩; replace hb := below_on hb hb2)
    | (go_at_call 19; (with_reducible refine (C4.out _).mono ?_); rintro e w2 ⟨rfl, hb2⟩; replace hb := below_on hb hb2)
    | (go_at_call 20; (with_reducible refine (C5.out _).mono ?_); rintro e w2 ⟨rfl, hb2⟩; replace hb := below_on hb hb2)
    | (go_at_call 21; (with_reducible refine (C6.out _).mono ?_); rintro e w2 ⟨rfl, hb2⟩; replace hb := below_on hb hb2)
    | (go_at_call 23; (with_reducible refine (C7.out _).mono ?_); rintro e w2 ⟨rfl, hb2⟩; replace hb := below_on hb hb2)
    | (go_at_call 24; (with_reducible refine (C8.out _).mono ?_); rintro e w2 ⟨rfl, rfl⟩)
    | (go_at_call 22; (with_reducible refine (C9.out _).mono ?_); rintro e w2 ⟨rfl, hb2⟩; replace hb := below_on hb hb2))
  go_ret2
  exact ⟨by rw [H.out]; rfl, hb⟩
set_option maxHeartbeats 1000000 in
set_option maxRecDepth 100000 in
theorem ref14_right_no_lo (s : ByteArray) (p n want : Int) (hs : s.size ≤ 1000000000000) (hn : n ≤ 9223372036854775807) (hwant : want ≤ 9223372036854775807) (hp : place s.data.toList p = true) (h1 : n < 1) (h2 : p = Line.stop s.data.toList (of_ s.data.toList p)) (w : World) :
    Calls Try.prog 9 #[.string s, .int .i64 p, .string ⟨#[108]⟩, .int .i64 n, .int .i64 want] w fun e w' => e = .returned (Move.res (Move.raw 1 s.data.toList p n want)) ∧ Below w.heap.size w w' := by
  have hl := data_len s
  have hu : n ≤ 9223372036854775807 ∧ want ≤ 9223372036854775807 := ⟨hn, hwant⟩
  obtain ⟨ha, hb', hc⟩ := Move.ref_facts s hp
  have C1 := Lib.hid (fun w => ref_Place s p (by omega) w)
  have C2 := Lib.hid (fun w => ref14_Has ⟨#[108]⟩ w)
  have C3 := Lib.hid (fun w => ref4_Of s p hs w)
  have C4 := Lib.hid (fun w => ref4_Start s (of_ s.data.toList p) hs w)
  have C5 := Lib.hid (fun w => ref4_End s (of_ s.data.toList p) hs w)
  have C6 := Lib.hid (fun w => ref4_Count s hs w)
  rw [hp] at C1
  rw [show (Move.mot (⟨#[108]⟩ : ByteArray).data.toList).isSome = true from rfl] at C2
  have r1 : IntKind.i64.wrap (((L s.data.toList).length : Int) - 1) = ((L s.data.toList).length : Int) - 1 := wrap_id (by omega) (by omega)
  have ht : max n 1 = 1 := by omega
  have H : Hid (Move.res (Move.raw 1 s.data.toList p n want) = .tuple #[.int .i64 0, .bool false]) := by show _ = _; simp only [Move.raw]; rw [if_pos (by omega)]; rfl
  have g1 : (p == Line.stop s.data.toList (of_ s.data.toList p)) = true := by rw [beq_iff_eq]; exact h2
  clear h2
  clear ha hb' hc hp hl ht hu
  generalize Line.start s.data.toList (of_ s.data.toList p) = st at *
  generalize Line.stop s.data.toList (of_ s.data.toList p) = sp at *
  generalize of_ s.data.toList p = k at *
  generalize (L s.data.toList).length = nl at *
  generalize column s.data.toList p = c at *
  go_enter Try.func9, Try.ntmps9
  go_wp2_with (first
    | (go_at_call 17; refine (C1.out _).mono ?_; rintro e w1 ⟨rfl, hb⟩)
    | (go_at_call 11; (with_reducible refine (C2.out _).mono ?_); rintro e w2 ⟨rfl, hb2⟩; replace hb := below_on hb hb2)
    | (go_at_call 18; (with_reducible refine (C3.out _).mono ?_); rintro e w2 ⟨rfl, hb2⟩; replace hb := below_on hb hb2)
    | (go_at_call 19; (with_reducible refine (C4.out _).mono ?_); rintro e w2 ⟨rfl, hb2⟩; replace hb := below_on hb hb2)
    | (go_at_call 20; (with_reducible refine (C5.out _).mono ?_); rintro e w2 ⟨rfl, hb2⟩; replace hb := below_on hb hb2)
    | (go_at_call 21; (with_reducible refine (C6.out _).mono ?_); rintro e w2 ⟨rfl, hb2⟩; replace hb := below_on hb hb2))
  go_ret2
  exact ⟨by rw [H.out]; rfl, hb⟩
set_option maxHeartbeats 1000000 in
set_option maxRecDepth 100000 in
theorem ref14_right_lo (s : ByteArray) (p n want : Int) (hs : s.size ≤ 1000000000000) (hn : n ≤ 9223372036854775807) (hwant : want ≤ 9223372036854775807) (hp : place s.data.toList p = true) (h1 : n < 1) (h2 : p ≠ Line.stop s.data.toList (of_ s.data.toList p)) (w : World) :
    Calls Try.prog 9 #[.string s, .int .i64 p, .string ⟨#[108]⟩, .int .i64 n, .int .i64 want] w fun e w' => e = .returned (Move.res (Move.raw 1 s.data.toList p n want)) ∧ Below w.heap.size w w' := by
  have hl := data_len s
  have hu : n ≤ 9223372036854775807 ∧ want ≤ 9223372036854775807 := ⟨hn, hwant⟩
  obtain ⟨ha, hb', hc⟩ := Move.ref_facts s hp
  have C1 := Lib.hid (fun w => ref_Place s p (by omega) w)
  have C2 := Lib.hid (fun w => ref14_Has ⟨#[108]⟩ w)
  have C3 := Lib.hid (fun w => ref4_Of s p hs w)
  have C4 := Lib.hid (fun w => ref4_Start s (of_ s.data.toList p) hs w)
  have C5 := Lib.hid (fun w => ref4_End s (of_ s.data.toList p) hs w)
  have C6 := Lib.hid (fun w => ref4_Count s hs w)
  rw [hp] at C1
  rw [show (Move.mot (⟨#[108]⟩ : ByteArray).data.toList).isSome = true from rfl] at C2
  have r1 : IntKind.i64.wrap (((L s.data.toList).length : Int) - 1) = ((L s.data.toList).length : Int) - 1 := wrap_id (by omega) (by omega)
  have ht : max n 1 = 1 := by omega
  have C7 := Lib.hid (fun w => ref4_Column s p hs w)
  have C8 := Lib.hid (fun w => ref14_least 1 ((s.size : Int)) w)
  have C9 := Lib.hid (fun w => ref4_At s (of_ s.data.toList p) (column s.data.toList p + min 1 ((s.size : Int))) (by omega) hs w)
  have r2 : IntKind.i64.wrap (column s.data.toList p + min 1 ((s.size : Int))) = column s.data.toList p + min 1 ((s.size : Int)) := wrap_id (by omega) (by omega)
  have H : Hid (Move.res (Move.raw 1 s.data.toList p n want) = .tuple #[.int .i64 (Line.at_ s.data.toList (of_ s.data.toList p) (column s.data.toList p + min 1 ((s.size : Int)))), .bool true]) := Move.raw_res (by omega) hp (by simp only [Move.raw]; rw [if_neg h2, ht, hl]) (Line.at_ge hp _)
  have g1 : (p == Line.stop s.data.toList (of_ s.data.toList p)) = false := by rw [beq_eq_false_iff_ne]; exact h2
  clear h2
  clear ha hb' hc hp hl ht hu
  generalize Line.at_ s.data.toList (of_ s.data.toList p) (column s.data.toList p + min 1 ((s.size : Int))) = V at *
  generalize Line.start s.data.toList (of_ s.data.toList p) = st at *
  generalize Line.stop s.data.toList (of_ s.data.toList p) = sp at *
  generalize of_ s.data.toList p = k at *
  generalize (L s.data.toList).length = nl at *
  generalize column s.data.toList p = c at *
  generalize min 1 (s.size : Int) = d at *
  generalize hq : c + d = q at *
  go_enter Try.func9, Try.ntmps9
  go_wp2_with (first
    | (go_at_call 17; refine (C1.out _).mono ?_; rintro e w1 ⟨rfl, hb⟩)
    | (go_at_call 11; (with_reducible refine (C2.out _).mono ?_); rintro e w2 ⟨rfl, hb2⟩; replace hb := below_on hb hb2)
    | (go_at_call 18; (with_reducible refine (C3.out _).mono ?_); rintro e w2 ⟨rfl, hb2⟩; replace hb := below_on hb hb2)
    | (go_at_call 19; (with_reducible refine (C4.out _).mono ?_); rintro e w2 ⟨rfl, hb2⟩; replace hb := below_on hb hb2)
    | (go_at_call 20; (with_reducible refine (C5.out _).mono ?_); rintro e w2 ⟨rfl, hb2⟩; replace hb := below_on hb hb2)
    | (go_at_call 21; (with_reducible refine (C6.out _).mono ?_); rintro e w2 ⟨rfl, hb2⟩; replace hb := below_on hb hb2)
    | (go_at_call 23; (with_reducible refine (C7.out _).mono ?_); rintro e w2 ⟨rfl, hb2⟩; replace hb := below_on hb hb2)
    | (go_at_call 24; (with_reducible refine (C8.out _).mono ?_); rintro e w2 ⟨rfl, rfl⟩)
    | (go_at_call 22; (with_reducible refine (C9.out _).mono ?_); rintro e w2 ⟨rfl, hb2⟩; replace hb := below_on hb hb2))
  go_ret2
  exact ⟨by rw [H.out]; rfl, hb⟩
set_option maxHeartbeats 1000000 in
set_option maxRecDepth 100000 in
theorem ref14_left_no_hi (s : ByteArray) (p n want : Int) (hs : s.size ≤ 1000000000000) (hn : n ≤ 9223372036854775807) (hwant : want ≤ 9223372036854775807) (hp : place s.data.toList p = true) (h1 : ¬ n < 1) (h2 : p = Line.start s.data.toList (of_ s.data.toList p)) (w : World) :
    Calls Try.prog 9 #[.string s, .int .i64 p, .string ⟨#[104]⟩, .int .i64 n, .int .i64 want] w fun e w' => e = .returned (Move.res (Move.raw 0 s.data.toList p n want)) ∧ Below w.heap.size w w' := by
  have hl := data_len s
  have hu : n ≤ 9223372036854775807 ∧ want ≤ 9223372036854775807 := ⟨hn, hwant⟩
  obtain ⟨ha, hb', hc⟩ := Move.ref_facts s hp
  have C1 := Lib.hid (fun w => ref_Place s p (by omega) w)
  have C2 := Lib.hid (fun w => ref14_Has ⟨#[104]⟩ w)
  have C3 := Lib.hid (fun w => ref4_Of s p hs w)
  have C4 := Lib.hid (fun w => ref4_Start s (of_ s.data.toList p) hs w)
  have C5 := Lib.hid (fun w => ref4_End s (of_ s.data.toList p) hs w)
  have C6 := Lib.hid (fun w => ref4_Count s hs w)
  rw [hp] at C1
  rw [show (Move.mot (⟨#[104]⟩ : ByteArray).data.toList).isSome = true from rfl] at C2
  have r1 : IntKind.i64.wrap (((L s.data.toList).length : Int) - 1) = ((L s.data.toList).length : Int) - 1 := wrap_id (by omega) (by omega)
  have ht : max n 1 = n := by omega
  have H : Hid (Move.res (Move.raw 0 s.data.toList p n want) = .tuple #[.int .i64 0, .bool false]) := by show _ = _; simp only [Move.raw]; rw [if_pos (by omega)]; rfl
  have g1 : (p == Line.start s.data.toList (of_ s.data.toList p)) = true := by rw [beq_iff_eq]; exact h2
  clear h2
  clear ha hb' hc hp hl ht hu
  generalize Line.start s.data.toList (of_ s.data.toList p) = st at *
  generalize Line.stop s.data.toList (of_ s.data.toList p) = sp at *
  generalize of_ s.data.toList p = k at *
  generalize (L s.data.toList).length = nl at *
  generalize column s.data.toList p = c at *
  go_enter Try.func9, Try.ntmps9
  go_wp2_with (first
    | (go_at_call 17; refine (C1.out _).mono ?_; rintro e w1 ⟨rfl, hb⟩)
    | (go_at_call 11; (with_reducible refine (C2.out _).mono ?_); rintro e w2 ⟨rfl, hb2⟩; replace hb := below_on hb hb2)
    | (go_at_call 18; (with_reducible refine (C3.out _).mono ?_); rintro e w2 ⟨rfl, hb2⟩; replace hb := below_on hb hb2)
    | (go_at_call 19; (with_reducible refine (C4.out _).mono ?_); rintro e w2 ⟨rfl, hb2⟩; replace hb := below_on hb hb2)
    | (go_at_call 20; (with_reducible refine (C5.out _).mono ?_); rintro e w2 ⟨rfl, hb2⟩; replace hb := below_on hb hb2)
    | (go_at_call 21; (with_reducible refine (C6.out _).mono ?_); rintro e w2 ⟨rfl, hb2⟩; replace hb := below_on hb hb2))
  go_ret2
  exact ⟨by rw [H.out]; rfl, hb⟩
set_option maxHeartbeats 1000000 in
set_option maxRecDepth 100000 in
theorem ref14_left_hi (s : ByteArray) (p n want : Int) (hs : s.size ≤ 1000000000000) (hn : n ≤ 9223372036854775807) (hwant : want ≤ 9223372036854775807) (hp : place s.data.toList p = true) (h1 : ¬ n < 1) (h2 : p ≠ Line.start s.data.toList (of_ s.data.toList p)) (w : World) :
    Calls Try.prog 9 #[.string s, .int .i64 p, .string ⟨#[104]⟩, .int .i64 n, .int .i64 want] w fun e w' => e = .returned (Move.res (Move.raw 0 s.data.toList p n want)) ∧ Below w.heap.size w w' := by
  have hl := data_len s
  have hu : n ≤ 9223372036854775807 ∧ want ≤ 9223372036854775807 := ⟨hn, hwant⟩
  obtain ⟨ha, hb', hc⟩ := Move.ref_facts s hp
  have C1 := Lib.hid (fun w => ref_Place s p (by omega) w)
  have C2 := Lib.hid (fun w => ref14_Has ⟨#[104]⟩ w)
  have C3 := Lib.hid (fun w => ref4_Of s p hs w)
  have C4 := Lib.hid (fun w => ref4_Start s (of_ s.data.toList p) hs w)
  have C5 := Lib.hid (fun w => ref4_End s (of_ s.data.toList p) hs w)
  have C6 := Lib.hid (fun w => ref4_Count s hs w)
  rw [hp] at C1
  rw [show (Move.mot (⟨#[104]⟩ : ByteArray).data.toList).isSome = true from rfl] at C2
  have r1 : IntKind.i64.wrap (((L s.data.toList).length : Int) - 1) = ((L s.data.toList).length : Int) - 1 := wrap_id (by omega) (by omega)
  have ht : max n 1 = n := by omega
  have C7 := Lib.hid (fun w => ref4_Column s p hs w)
  have C8 := Lib.hid (fun w => ref14_least n (column s.data.toList p) w)
  have C9 := Lib.hid (fun w => ref4_At s (of_ s.data.toList p) (column s.data.toList p - min n (column s.data.toList p)) (by omega) hs w)
  have r2 : IntKind.i64.wrap (column s.data.toList p - min n (column s.data.toList p)) = column s.data.toList p - min n (column s.data.toList p) := wrap_id (by omega) (by omega)
  have H : Hid (Move.res (Move.raw 0 s.data.toList p n want) = .tuple #[.int .i64 (Line.at_ s.data.toList (of_ s.data.toList p) (column s.data.toList p - min n (column s.data.toList p))), .bool true]) := Move.raw_res (by omega) hp (by simp only [Move.raw]; rw [if_neg h2, ht]) (Line.at_ge hp _)
  have g1 : (p == Line.start s.data.toList (of_ s.data.toList p)) = false := by rw [beq_eq_false_iff_ne]; exact h2
  clear h2
  clear ha hb' hc hp hl ht hu
  generalize Line.at_ s.data.toList (of_ s.data.toList p) (column s.data.toList p - min n (column s.data.toList p)) = V at *
  generalize Line.start s.data.toList (of_ s.data.toList p) = st at *
  generalize Line.stop s.data.toList (of_ s.data.toList p) = sp at *
  generalize of_ s.data.toList p = k at *
  generalize (L s.data.toList).length = nl at *
  generalize column s.data.toList p = c at *
  generalize min n c = d at *
  generalize hq : c - d = q at *
  go_enter Try.func9, Try.ntmps9
  go_wp2_with (first
    | (go_at_call 17; refine (C1.out _).mono ?_; rintro e w1 ⟨rfl, hb⟩)
    | (go_at_call 11; (with_reducible refine (C2.out _).mono ?_); rintro e w2 ⟨rfl, hb2⟩; replace hb := below_on hb hb2)
    | (go_at_call 18; (with_reducible refine (C3.out _).mono ?_); rintro e w2 ⟨rfl, hb2⟩; replace hb := below_on hb hb2)
    | (go_at_call 19; (with_reducible refine (C4.out _).mono ?_); rintro e w2 ⟨rfl, hb2⟩; replace hb := below_on hb hb2)
    | (go_at_call 20; (with_reducible refine (C5.out _).mono ?_); rintro e w2 ⟨rfl, hb2⟩; replace hb := below_on hb hb2)
    | (go_at_call 21; (with_reducible refine (C6.out _).mono ?_); rintro e w2 ⟨rfl, hb2⟩; replace hb := below_on hb hb2)
    | (go_at_call 23; (with_reducible refine (C7.out _).mono ?_); rintro e w2 ⟨rfl, hb2⟩; replace hb := below_on hb hb2)
    | (go_at_call 24; (with_reducible refine (C8.out _).mono ?_); rintro e w2 ⟨rfl, rfl⟩)
    | (go_at_call 22; (with_reducible refine (C9.out _).mono ?_); rintro e w2 ⟨rfl, hb2⟩; replace hb := below_on hb hb2))
  go_ret2
  exact ⟨by rw [H.out]; rfl, hb⟩
set_option maxHeartbeats 1000000 in
set_option maxRecDepth 100000 in
theorem ref14_right_no_hi (s : ByteArray) (p n want : Int) (hs : s.size ≤ 1000000000000) (hn : n ≤ 9223372036854775807) (hwant : want ≤ 9223372036854775807) (hp : place s.data.toList p = true) (h1 : ¬ n < 1) (h2 : p = Line.stop s.data.toList (of_ s.data.toList p)) (w : World) :
    Calls Try.prog 9 #[.string s, .int .i64 p, .string ⟨#[108]⟩, .int .i64 n, .int .i64 want] w fun e w' => e = .returned (Move.res (Move.raw 1 s.data.toList p n want)) ∧ Below w.heap.size w w' := by
  have hl := data_len s
  have hu : n ≤ 9223372036854775807 ∧ want ≤ 9223372036854775807 := ⟨hn, hwant⟩
  obtain ⟨ha, hb', hc⟩ := Move.ref_facts s hp
  have C1 := Lib.hid (fun w => ref_Place s p (by omega) w)
  have C2 := Lib.hid (fun w => ref14_Has ⟨#[108]⟩ w)
  have C3 := Lib.hid (fun w => ref4_Of s p hs w)
  have C4 := Lib.hid (fun w => ref4_Start s (of_ s.data.toList p) hs w)
  have C5 := Lib.hid (fun w => ref4_End s (of_ s.data.toList p) hs w)
  have C6 := Lib.hid (fun w => ref4_Count s hs w)
  rw [hp] at C1
  rw [show (Move.mot (⟨#[108]⟩ : ByteArray).data.toList).isSome = true from rfl] at C2
  have r1 : IntKind.i64.wrap (((L s.data.toList).length : Int) - 1) = ((L s.data.toList).length : Int) - 1 := wrap_id (by omega) (by omega)
  have ht : max n 1 = n := by omega
  have H : Hid (Move.res (Move.raw 1 s.data.toList p n want) = .tuple #[.int .i64 0, .bool false]) := by show _ = _; simp only [Move.raw]; rw [if_pos (by omega)]; rfl
  have g1 : (p == Line.stop s.data.toList (of_ s.data.toList p)) = true := by rw [beq_iff_eq]; exact h2
  clear h2
  clear ha hb' hc hp hl ht hu
  generalize Line.start s.data.toList (of_ s.data.toList p) = st at *
  generalize Line.stop s.data.toList (of_ s.data.toList p) = sp at *
  generalize of_ s.data.toList p = k at *
  generalize (L s.data.toList).length = nl at *
  generalize column s.data.toList p = c at *
  go_enter Try.func9, Try.ntmps9
  go_wp2_with (first
    | (go_at_call 17; refine (C1.out _).mono ?_; rintro e w1 ⟨rfl, hb⟩)
    | (go_at_call 11; (with_reducible refine (C2.out _).mono ?_); rintro e w2 ⟨rfl, hb2⟩; replace hb := below_on hb hb2)
    | (go_at_call 18; (with_reducible refine (C3.out _).mono ?_); rintro e w2 ⟨rfl, hb2⟩; replace hb := below_on hb hb2)
    | (go_at_call 19; (with_reducible refine (C4.out _).mono ?_); rintro e w2 ⟨rfl, hb2⟩; replace hb := below_on hb hb2)
    | (go_at_call 20; (with_reducible refine (C5.out _).mono ?_); rintro e w2 ⟨rfl, hb2⟩; replace hb := below_on hb hb2)
    | (go_at_call 21; (with_reducible refine (C6.out _).mono ?_); rintro e w2 ⟨rfl, hb2⟩; replace hb := below_on hb hb2))
  go_ret2
  exact ⟨by rw [H.out]; rfl, hb⟩
set_option maxHeartbeats 1000000 in
set_option maxRecDepth 100000 in
theorem ref14_right_hi (s : ByteArray) (p n want : Int) (hs : s.size ≤ 1000000000000) (hn : n ≤ 9223372036854775807) (hwant : want ≤ 9223372036854775807) (hp : place s.data.toList p = true) (h1 : ¬ n < 1) (h2 : p ≠ Line.stop s.data.toList (of_ s.data.toList p)) (w : World) :
    Calls Try.prog 9 #[.string s, .int .i64 p, .string ⟨#[108]⟩, .int .i64 n, .int .i64 want] w fun e w' => e = .returned (Move.res (Move.raw 1 s.data.toList p n want)) ∧ Below w.heap.size w w' := by
  have hl := data_len s
  have hu : n ≤ 9223372036854775807 ∧ want ≤ 9223372036854775807 := ⟨hn, hwant⟩
  obtain ⟨ha, hb', hc⟩ := Move.ref_facts s hp
  have C1 := Lib.hid (fun w => ref_Place s p (by omega) w)
  have C2 := Lib.hid (fun w => ref14_Has ⟨#[108]⟩ w)
  have C3 := Lib.hid (fun w => ref4_Of s p hs w)
  have C4 := Lib.hid (fun w => ref4_Start s (of_ s.data.toList p) hs w)
  have C5 := Lib.hid (fun w => ref4_End s (of_ s.data.toList p) hs w)
  have C6 := Lib.hid (fun w => ref4_Count s hs w)
  rw [hp] at C1
  rw [show (Move.mot (⟨#[108]⟩ : ByteArray).data.toList).isSome = true from rfl] at C2
  have r1 : IntKind.i64.wrap (((L s.data.toList).length : Int) - 1) = ((L s.data.toList).length : Int) - 1 := wrap_id (by omega) (by omega)
  have ht : max n 1 = n := by omega
  have C7 := Lib.hid (fun w => ref4_Column s p hs w)
  have C8 := Lib.hid (fun w => ref14_least n ((s.size : Int)) w)
  have C9 := Lib.hid (fun w => ref4_At s (of_ s.data.toList p) (column s.data.toList p + min n ((s.size : Int))) (by omega) hs w)
  have r2 : IntKind.i64.wrap (column s.data.toList p + min n ((s.size : Int))) = column s.data.toList p + min n ((s.size : Int)) := wrap_id (by omega) (by omega)
  have H : Hid (Move.res (Move.raw 1 s.data.toList p n want) = .tuple #[.int .i64 (Line.at_ s.data.toList (of_ s.data.toList p) (column s.data.toList p + min n ((s.size : Int)))), .bool true]) := Move.raw_res (by omega) hp (by simp only [Move.raw]; rw [if_neg h2, ht, hl]) (Line.at_ge hp _)
  have g1 : (p == Line.stop s.data.toList (of_ s.data.toList p)) = false := by rw [beq_eq_false_iff_ne]; exact h2
  clear h2
  clear ha hb' hc hp hl ht hu
  generalize Line.at_ s.data.toList (of_ s.data.toList p) (column s.data.toList p + min n ((s.size : Int))) = V at *
  generalize Line.start s.data.toList (of_ s.data.toList p) = st at *
  generalize Line.stop s.data.toList (of_ s.data.toList p) = sp at *
  generalize of_ s.data.toList p = k at *
  generalize (L s.data.toList).length = nl at *
  generalize column s.data.toList p = c at *
  generalize min n (s.size : Int) = d at *
  generalize hq : c + d = q at *
  go_enter Try.func9, Try.ntmps9
  go_wp2_with (first
    | (go_at_call 17; refine (C1.out _).mono ?_; rintro e w1 ⟨rfl, hb⟩)
    | (go_at_call 11; (with_reducible refine (C2.out _).mono ?_); rintro e w2 ⟨rfl, hb2⟩; replace hb := below_on hb hb2)
    | (go_at_call 18; (with_reducible refine (C3.out _).mono ?_); rintro e w2 ⟨rfl, hb2⟩; replace hb := below_on hb hb2)
    | (go_at_call 19; (with_reducible refine (C4.out _).mono ?_); rintro e w2 ⟨rfl, hb2⟩; replace hb := below_on hb hb2)
    | (go_at_call 20; (with_reducible refine (C5.out _).mono ?_); rintro e w2 ⟨rfl, hb2⟩; replace hb := below_on hb hb2)
    | (go_at_call 21; (with_reducible refine (C6.out _).mono ?_); rintro e w2 ⟨rfl, hb2⟩; replace hb := below_on hb hb2)
    | (go_at_call 23; (with_reducible refine (C7.out _).mono ?_); rintro e w2 ⟨rfl, hb2⟩; replace hb := below_on hb hb2)
    | (go_at_call 24; (with_reducible refine (C8.out _).mono ?_); rintro e w2 ⟨rfl, rfl⟩)
    | (go_at_call 22; (with_reducible refine (C9.out _).mono ?_); rintro e w2 ⟨rfl, hb2⟩; replace hb := below_on hb hb2))
  go_ret2
  exact ⟨by rw [H.out]; rfl, hb⟩
end Go.Proofs.Ytdmgjaobkfjgpaa
