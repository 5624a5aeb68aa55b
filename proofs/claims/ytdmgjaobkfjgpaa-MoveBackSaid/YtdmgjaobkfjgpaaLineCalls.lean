/-
  What package line tells: starts, ends, lines of offsets, columns, places of columns, normal places, first signs.
-/
import Derived.Test.YtdmgjaobkfjgpaaLineAround
import Derived.Test.YtdmgjaobkfjgpaaLineMore
import Derived.Test.YtdmgjaobkfjgpaaUtfCounts
namespace Go.Proofs.Ytdmgjaobkfjgpaa
open Go.RowKit
theorem ext_seg (s : ByteArray) (a b : Nat) : s.extract a b = bs (Line.seg s.data.toList a b) := by
  rw [Lib.extract_eq, Line.seg, List.drop_take]; rfl
theorem line_Start (s : ByteArray) (k : Int) (hs : s.size ≤ 1000000000000) (w : World) :
    Calls Try.prog 49 #[.string s, .int .i64 k] w fun e w' => e = .returned (.int .i64 (Line.start s.data.toList k)) ∧ Below w.heap.size w w' := by
  have c := Lib.hid (fun w => line_ends s k hs w)
  generalize Line.start s.data.toList k = a at *
  generalize Line.stop s.data.toList k = b at *
  go_enter Try.func49, Try.ntmps49
  go_wp2_with (go_at_call 62; refine (c.out _).mono ?_; rintro e w1 ⟨rfl, hb⟩)
  go_ret
  exact ⟨rfl, hb⟩
theorem line_End (s : ByteArray) (k : Int) (hs : s.size ≤ 1000000000000) (w : World) :
    Calls Try.prog 52 #[.string s, .int .i64 k] w fun e w' => e = .returned (.int .i64 (Line.stop s.data.toList k)) ∧ Below w.heap.size w w' := by
  have c := Lib.hid (fun w => line_ends s k hs w)
  generalize Line.start s.data.toList k = a at *
  generalize Line.stop s.data.toList k = b at *
  go_enter Try.func52, Try.ntmps52
  go_wp2_with (go_at_call 62; refine (c.out _).mono ?_; rintro e w1 ⟨rfl, hb⟩)
  go_ret
  exact ⟨rfl, hb⟩
theorem line_Of (s : ByteArray) (p : Int) (hs : s.size ≤ 1000000000000) (w : World) :
    Calls Try.prog 13 #[.string s, .int .i64 p] w fun e w' => e = .returned (.int .i64 (Line.of_ s.data.toList p)) ∧ Below w.heap.size w w' := by
  have c := Lib.hid (fun w => line_around s p hs w)
  dsimp only [Line.aroundT] at c
  generalize Line.start s.data.toList (Line.of_ s.data.toList p) = a at *
  generalize Line.stop s.data.toList (Line.of_ s.data.toList p) = b at *
  generalize Line.of_ s.data.toList p = k at *
  go_enter Try.func13, Try.ntmps13
  go_wp2_with (go_at_call 28; refine (c.out _).mono ?_; rintro e w1 ⟨rfl, hb⟩)
  go_ret
  exact ⟨rfl, hb⟩
/-- The line of a place. -/
theorem Line.place_line {s : List UInt8} {p : Int} (h : Utf.place s p = true) : ∃ (n k : Nat) (x : Nat × Nat), p = n ∧ (L s)[k]? = some x ∧ x.1 ≤ n ∧ n ≤ x.2 ∧ x.2 ≤ s.length ∧ of_ s p = k ∧ start s (of_ s p) = x.1 ∧ stop s (of_ s p) = x.2 := by
  obtain ⟨n, rfl, hn⟩ := place_nat h
  obtain ⟨k, x, _, hk, h1, h2⟩ := idx_find (place_ok h) hn
  have hl : line s ((k : Nat) : Int) = some x := by rw [line_nat, hk]
  exact ⟨n, k, x, rfl, hk, h1, h2, (L_each hk).2, of_at hk h1 h2, by rw [of_at hk h1 h2, start_some hl], by rw [of_at hk h1 h2, stop_some hl]⟩
set_option maxRecDepth 100000 in
theorem line_Column (s : ByteArray) (p : Int) (hs : s.size ≤ 1000000000000) (w : World) :
    Calls Try.prog 14 #[.string s, .int .i64 p] w fun e w' => e = .returned (.int .i64 (Line.column s.data.toList p)) ∧ Below w.heap.size w w' := by
  have hl := data_len s
  have c1 := Lib.hid (fun w => utf_Place s p (by omega) w)
  have c := Lib.hid (fun w => line_around s p hs w)
  dsimp only [Line.aroundT] at c
  cases hp : Utf.place s.data.toList p with
  | false =>
    rw [hp] at c1
    have H : Hid (Line.column s.data.toList p = -1) := by show _ = _; rw [Line.column, hp]; rfl
    clear hp
    go_enter Try.func14, Try.ntmps14
    go_wp2_with (go_at_call 12; refine (c1.out _).mono ?_; rintro e w1 ⟨rfl, rfl⟩)
    go_ret
    exact ⟨by rw [H.out]; rfl, Below.refl _ _⟩
  | true =>
    rw [hp] at c1
    obtain ⟨n, k, x, rfl, hk, h1, h2, h3, e1, e2, e3⟩ := Line.place_line hp
    have H : Hid (Line.column s.data.toList n = Utf.count (Line.seg s.data.toList x.1 n)) := by
      show _ = _; rw [Line.column, hp, if_pos rfl, e2]; rfl
    rw [e2, e3, e1] at c
    have E := ext_seg s x.1 n
    have cc := utf_Count (s.extract x.1 n) (by rw [ByteArray.size_extract]; omega)
    rw [E, bs_toList, ← E] at cc
    have C := Lib.hid cc
    have d1 : (0 : Int) ≤ (x.1 : Int) := by omega
    have d2 : (x.1 : Int) ≤ (n : Int) := by omega
    have d3 : (n : Int) ≤ (s.size : Int) := by omega
    clear hp hk e1 e2 e3 E cc hl
    go_enter Try.func14, Try.ntmps14
    go_wp2_with (first | (go_at_call 12; refine (c1.out _).mono ?_; rintro e w1 ⟨rfl, rfl⟩) | (go_at_call 28; refine (c.out _).mono ?_; rintro e w1 ⟨rfl, hb⟩) | (go_at_call 29; refine (C.out _).mono ?_; rintro e w1 ⟨rfl, rfl⟩))
    go_ret
    exact ⟨by rw [H.out]; rfl, hb⟩
set_option maxRecDepth 100000 in
theorem line_At (s : ByteArray) (k col : Int) (hs : s.size ≤ 1000000000000) (w : World) :
    Calls Try.prog 54 #[.string s, .int .i64 k, .int .i64 col] w fun e w' => e = .returned (.int .i64 (Line.at_ s.data.toList k col)) ∧ Below w.heap.size w w' := by
  have hl := data_len s
  have c := Lib.hid (fun w => line_ends s k hs w)
  cases hx : Line.line s.data.toList k with
  | none =>
    rw [Line.start_none hx, Line.stop_none hx] at c
    have H : Hid (Line.at_ s.data.toList k col = -1) := by show _ = _; rw [Line.at_, hx]
    clear hx
    go_enter Try.func54, Try.ntmps54
    go_wp2_with (go_at_call 62; refine (c.out _).mono ?_; rintro e w1 ⟨rfl, hb⟩)
    go_ret
    exact ⟨by rw [H.out]; rfl, hb⟩
  | some x =>
    rw [Line.start_some hx, Line.stop_some hx] at c
    obtain ⟨n, rfl, hk⟩ := Line.line_some hx
    obtain ⟨h1, h2⟩ := Line.L_each hk
    have H : Hid (Line.at_ s.data.toList n col = if Utf.offset (Line.seg s.data.toList x.1 x.2) (max col 0) < 0 then (x.2 : Int) else (x.1 : Int) + Utf.offset (Line.seg s.data.toList x.1 x.2) (max col 0)) := by
      show _ = _; rw [Line.at_, hx]
    have E := ext_seg s x.1 x.2
    have cc := utf_Offset (s.extract x.1 x.2) (max col 0) (by rw [ByteArray.size_extract]; omega)
    rw [E, bs_toList, ← E] at cc
    have C := Lib.hid cc
    have hle : Utf.offset (Line.seg s.data.toList x.1 x.2) (max col 0) ≤ s.size := by
      have hseg : (Line.seg s.data.toList x.1 x.2).length ≤ s.size := by rw [Line.seg, List.length_drop, List.length_take]; omega
      cases hd : Utf.dec (Line.seg s.data.toList x.1 x.2) with
      | none => rw [Utf.offset_bad hd]; omega
      | some rs =>
        by_cases hb : (rs.length : Int) < max col 0
        · rw [Utf.offset_past hd (Or.inr hb)]; omega
        · obtain ⟨m, hm⟩ : ∃ m : Nat, max col 0 = m := ⟨(max col 0).toNat, by omega⟩
          rw [hm, Utf.offset_at hd (by omega)]
          have := Utf.off_in hd m
          omega
    have d1 : (0 : Int) ≤ (x.1 : Int) := by omega
    have d2 : (x.1 : Int) ≤ (x.2 : Int) := by omega
    have d3 : (x.2 : Int) ≤ (s.size : Int) := by omega
    clear hx hk E cc
    generalize Utf.offset (Line.seg s.data.toList x.1 x.2) (max col 0) = o at *
    by_cases ho : o < 0
    · have K : Hid (Line.at_ s.data.toList n col = x.2) := by show _ = _; rw [H.out, if_pos ho]
      clear H
      go_enter Try.func54, Try.ntmps54
      go_wp2_with (first | (go_at_call 62; refine (c.out _).mono ?_; rintro e w1 ⟨rfl, hb⟩) | (go_at_call 64; refine (C.out _).mono ?_; rintro e w1 ⟨rfl, rfl⟩))
      go_ret
      exact ⟨by rw [K.out]; rfl, hb⟩
    · have K : Hid (Line.at_ s.data.toList n col = x.1 + o) := by show _ = _; rw [H.out, if_neg ho]
      clear H
      go_enter Try.func54, Try.ntmps54
      go_wp2_with (first | (go_at_call 62; refine (c.out _).mono ?_; rintro e w1 ⟨rfl, hb⟩) | (go_at_call 64; refine (C.out _).mono ?_; rintro e w1 ⟨rfl, rfl⟩))
      go_ret
      exact ⟨by rw [K.out]; rfl, hb⟩
end Go.Proofs.Ytdmgjaobkfjgpaa
