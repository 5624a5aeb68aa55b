/-
  The document's answer: what is typed, what is taken out, where the cursor goes; and the program's own cursor.
-/
import Derived.Test.YtdclopfhffjkfaaDoorJT
import Derived.Test.YtdclopfhffjkfaaDoorUtfRefs
import Derived.Test.YtdclopfhffjkfaaDoorClassRefs
import Derived.Test.YtdclopfhffjkfaaDoorLineRefs2
import Derived.Test.YtdclopfhffjkfaaDoorLineClamp
import Derived.Test.YtdclopfhffjkfaaDoorLineCalls
namespace Go.Proofs.YtdclopfhffjkfaaDoor
open Go.RowKit
open Ent (cl lef wordQ backQ chopQ wipeQ cut)
namespace Ent
open Utf (place dec off prev)
/-- Why nothing is taken out. -/
def wrong (s : List UInt8) (x b : Int) : Int := if place s x = true ∧ place s b = true then (if x ≤ b then 10 else 0) else 1
theorem wrong_cut (Q : List UInt8 → List (List UInt8) → Nat → Nat → Nat) {s : List UInt8} {x b : Int} (h : wrong s x b ≠ 0) : cut Q s x b = Pst.no (wrong s x b) ∧ (wrong s x b = 1 ∨ wrong s x b = 10) := by
  cases h1 : place s x with
  | false => rw [cut_no _ (.inl h1), wrong, if_neg (by simp [h1])]; exact ⟨rfl, .inl rfl⟩
  | true =>
    cases h2 : place s b with
    | false => rw [cut_no _ (.inr h2), wrong, if_neg (by simp [h2])]; exact ⟨rfl, .inl rfl⟩
    | true =>
      obtain ⟨rs, hd⟩ := Utf.valid_of (Line.place_ok h1)
      obtain ⟨i, hi, rfl⟩ := (Utf.place_iff hd).1 h1
      obtain ⟨a, ha, rfl⟩ := (Utf.place_iff hd).1 h2
      rw [wrong, if_pos ⟨h1, h2⟩] at h ⊢
      by_cases hle : (off rs i : Int) ≤ (off rs a : Int)
      · rw [if_pos hle, cut_at _ hd hi ha, if_pos ((off_le_iff hd hi).1 (by omega))]
        exact ⟨rfl, .inr rfl⟩
      · rw [if_neg hle] at h; exact absurd rfl h
theorem right_cut (Q : List UInt8 → List (List UInt8) → Nat → Nat → Nat) {s : List UInt8} {x b : Int} (h : wrong s x b = 0) : ∃ (rs : List (List UInt8)) (i a : Nat), dec s = some rs ∧ i ≤ rs.length ∧ a < i ∧ x = (off rs i : Nat) ∧ b = (off rs a : Nat) ∧ cut Q s x b = (Pst.mid s (off rs (Q s rs a i)) (off rs i) [], ((off rs (Q s rs a i) : Nat) : Int), 0) := by
  by_cases h1 : place s x = true ∧ place s b = true
  · obtain ⟨rs, hd⟩ := Utf.valid_of (Line.place_ok h1.1)
    obtain ⟨i, hi, rfl⟩ := (Utf.place_iff hd).1 h1.1
    obtain ⟨a, ha, rfl⟩ := (Utf.place_iff hd).1 h1.2
    rw [wrong, if_pos h1] at h
    by_cases hle : (off rs i : Int) ≤ (off rs a : Int)
    · rw [if_pos hle] at h; cases h
    · have hai : ¬ i ≤ a := fun e => hle (by have := Utf.off_mono (rs := rs) e; omega)
      exact ⟨rs, i, a, hd, hi, by omega, rfl, rfl, by rw [cut_at _ hd hi ha, if_neg hai]⟩
  · rw [wrong, if_neg h1] at h; cases h
/-- Where the cursor goes, by runes. -/
theorem leave_at {s : List UInt8} {rs : List (List UInt8)} (hd : dec s = some rs) {i : Nat} (hi : i ≤ rs.length) : leave s (off rs i : Int) = Line.clamp s (if 0 < i ∧ cl s rs (i - 1) ≠ 4 then (off rs (i - 1) : Int) else (off rs i : Int)) := by
  rw [leave, if_pos (Utf.place_at hd hi), Int.toNat_natCast]
  congr 1
  rcases Nat.eq_zero_or_pos i with h | h
  · subst h
    rw [if_neg (by rw [Utf.off_zero]; simp), if_neg (by simp)]
  · obtain ⟨k, rfl⟩ : ∃ k, i = k + 1 := ⟨i - 1, by omega⟩
    have hpos : off rs 0 < off rs (k + 1) := Utf.off_lt (Utf.dec_some hd).1 (Nat.succ_pos k) hi
    rw [Utf.off_zero] at hpos
    rw [Nat.add_sub_cancel]
    have h4 := cl_last hd (i := k) (by omega)
    by_cases h5 : cl s rs k = 4
    · rw [if_neg (by rw [h4.1 h5]; simp), if_neg (by simp [h5])]
    · rw [if_pos ⟨by omega, fun e => h5 (h4.2 e)⟩, if_pos ⟨by omega, h5⟩, Utf.prev_at hd (by omega)]
theorem leave_no {s : List UInt8} {x : Int} (h : place s x = false) : leave s x = 0 := by rw [leave, if_neg (by simp [h])]
/-- A place's column, by runes. -/
theorem column_at {s : List UInt8} {rs : List (List UInt8)} (hd : dec s = some rs) {i : Nat} (hi : i ≤ rs.length) : 0 < Line.column s (off rs i : Int) ↔ (0 < i ∧ cl s rs (i - 1) ≠ 4) := by
  obtain ⟨b, hb, hst, hk, h0⟩ := line_rune hd hi
  have hc : Line.column s (off rs i : Int) = ((i - b : Nat) : Int) := by
    rw [Line.column, if_pos (Utf.place_at hd hi), hst, Int.toNat_natCast, Int.toNat_natCast, Utf.count_ok (Line.seg_dec hd b i), List.length_drop, List.length_take, Nat.min_eq_left hi]
  rw [hc]
  constructor
  · intro h
    exact ⟨by omega, hk (i - 1) (by omega) (by omega)⟩
  · rintro ⟨h1, h2⟩
    rcases h0 with h0 | h0
    · omega
    · rcases Nat.eq_or_lt_of_le hb with e | e
      · rw [e] at h0; exact absurd h0 h2
      · omega
end Ent
set_option maxHeartbeats 2000000 in
set_option maxRecDepth 100000 in
theorem ref25_without (s : ByteArray) (q p : Nat) (hq : q ≤ s.size) (hp : p ≤ s.size) (hs : s.size ≤ 1000000000000) (w : World) :
    Calls Tryd.prog 31 #[.string s, .int .i64 q, .int .i64 p] w fun e w' => e = .returned (.tuple #[.string (bs (Pst.mid s.data.toList q p [])), .int .i64 q, .int .i64 0]) ∧ Below w.heap.size w w' := by
  have hl := data_len s
  have e1 := Ent.ext_to s q
  have e2 := Ent.ext_from s p
  have e3 : bs (s.data.toList.take q) ++ bs (s.data.toList.drop p) = bs (Pst.mid s.data.toList q p []) := by rw [bs_append, Pst.mid, List.nil_append]
  have hz1 : (bs (s.data.toList.take q)).size ≤ s.size := by rw [bs_size, List.length_take]; omega
  have hz2 : (bs (s.data.toList.drop p)).size ≤ s.size := by rw [bs_size, List.length_drop]; omega
  generalize bs (Pst.mid s.data.toList q p []) = R at *
  generalize bs (s.data.toList.take q) = Y1 at *
  generalize bs (s.data.toList.drop p) = Y2 at *
  have c1 : (q : Int) ≤ (s.size : Int) := by omega
  have c2 : (p : Int) ≤ (s.size : Int) := by omega
  have c3 : ¬ 9223372036854775807 < Y1.size + Y2.size := by omega
  clear hl
  have hB := Below.refl w.heap.size w
  go_enter Tryd.func31, Tryd.ntmps31
  go_wp2
  go_region
  all_goals go_wp2
  all_goals go_ret3
  all_goals exact ⟨rfl, by first | exact hB | exact hB.drew⟩
set_option maxHeartbeats 2000000 in
set_option maxRecDepth 100000 in
theorem ref25_wrong_no1 (s : ByteArray) (x b : Int) (h1 : Utf.place s.data.toList x = false) (hs : s.size ≤ 1000000000000) (w : World) :
    Calls Tryd.prog 30 #[.string s, .int .i64 x, .int .i64 b] w fun e w' => e = .returned (.int .i64 1) ∧ Below w.heap.size w w' := by
  have c1 := fun w => ref_Place s x (by omega) w
  rw [h1] at c1
  have C1 := Lib.hid c1
  clear c1 h1
  have hB := Below.refl w.heap.size w
  go_enter Tryd.func30, Tryd.ntmps30
  go_wp2_with (first
    | (go_at_call 25; (with_reducible refine (C1.out _).mono ?_); rintro e u ⟨rfl, hbn⟩; (first | replace hB := hB.trans (hbn.mono hB.size) | replace hB := hB.drew.trans (hbn.mono hB.drew.size)); clear hbn))
  go_ret
  exact ⟨rfl, hB⟩
set_option maxHeartbeats 2000000 in
set_option maxRecDepth 100000 in
theorem ref25_wrong_no2 (s : ByteArray) (x b : Int) (h1 : Utf.place s.data.toList x = true) (h2 : Utf.place s.data.toList b = false) (hs : s.size ≤ 1000000000000) (w : World) :
    Calls Tryd.prog 30 #[.string s, .int .i64 x, .int .i64 b] w fun e w' => e = .returned (.int .i64 1) ∧ Below w.heap.size w w' := by
  have c1 := fun w => ref_Place s x (by omega) w
  rw [h1] at c1
  have c2 := fun w => ref_Place s b (by omega) w
  rw [h2] at c2
  have C1 := Lib.hid c1
  have C2 := Lib.hid c2
  clear c1 h1 c2 h2
  have hB := Below.refl w.heap.size w
  go_enter Tryd.func30, Tryd.ntmps30
  go_wp2_with (first
    | (go_at_call 25; (with_reducible refine (C1.out _).mono ?_); rintro e u ⟨rfl, hbn⟩; (first | replace hB := hB.trans (hbn.mono hB.size) | replace hB := hB.drew.trans (hbn.mono hB.drew.size)); clear hbn)
    | (go_at_call 25; (with_reducible refine (C2.out _).mono ?_); rintro e u ⟨rfl, hbn⟩; (first | replace hB := hB.trans (hbn.mono hB.size) | replace hB := hB.drew.trans (hbn.mono hB.drew.size)); clear hbn))
  go_ret
  exact ⟨rfl, hB⟩
set_option maxHeartbeats 2000000 in
set_option maxRecDepth 100000 in
theorem ref25_wrong_move (s : ByteArray) (x b : Int) (h1 : Utf.place s.data.toList x = true) (h2 : Utf.place s.data.toList b = true) (h : x ≤ b) (hs : s.size ≤ 1000000000000) (w : World) :
    Calls Tryd.prog 30 #[.string s, .int .i64 x, .int .i64 b] w fun e w' => e = .returned (.int .i64 10) ∧ Below w.heap.size w w' := by
  have c1 := fun w => ref_Place s x (by omega) w
  rw [h1] at c1
  have c2 := fun w => ref_Place s b (by omega) w
  rw [h2] at c2
  have C1 := Lib.hid c1
  have C2 := Lib.hid c2
  clear c1 h1 c2 h2
  have hB := Below.refl w.heap.size w
  go_enter Tryd.func30, Tryd.ntmps30
  go_wp2_with (first
    | (go_at_call 25; (with_reducible refine (C1.out _).mono ?_); rintro e u ⟨rfl, hbn⟩; (first | replace hB := hB.trans (hbn.mono hB.size) | replace hB := hB.drew.trans (hbn.mono hB.drew.size)); clear hbn)
    | (go_at_call 25; (with_reducible refine (C2.out _).mono ?_); rintro e u ⟨rfl, hbn⟩; (first | replace hB := hB.trans (hbn.mono hB.size) | replace hB := hB.drew.trans (hbn.mono hB.drew.size)); clear hbn))
  go_ret
  exact ⟨rfl, hB⟩
set_option maxHeartbeats 2000000 in
set_option maxRecDepth 100000 in
theorem ref25_wrong_ok (s : ByteArray) (x b : Int) (h1 : Utf.place s.data.toList x = true) (h2 : Utf.place s.data.toList b = true) (h : ¬ x ≤ b) (hs : s.size ≤ 1000000000000) (w : World) :
    Calls Tryd.prog 30 #[.string s, .int .i64 x, .int .i64 b] w fun e w' => e = .returned (.int .i64 0) ∧ Below w.heap.size w w' := by
  have c1 := fun w => ref_Place s x (by omega) w
  rw [h1] at c1
  have c2 := fun w => ref_Place s b (by omega) w
  rw [h2] at c2
  have C1 := Lib.hid c1
  have C2 := Lib.hid c2
  clear c1 h1 c2 h2
  have hB := Below.refl w.heap.size w
  go_enter Tryd.func30, Tryd.ntmps30
  go_wp2_with (first
    | (go_at_call 25; (with_reducible refine (C1.out _).mono ?_); rintro e u ⟨rfl, hbn⟩; (first | replace hB := hB.trans (hbn.mono hB.size) | replace hB := hB.drew.trans (hbn.mono hB.drew.size)); clear hbn)
    | (go_at_call 25; (with_reducible refine (C2.out _).mono ?_); rintro e u ⟨rfl, hbn⟩; (first | replace hB := hB.trans (hbn.mono hB.size) | replace hB := hB.drew.trans (hbn.mono hB.drew.size)); clear hbn))
  go_ret
  exact ⟨rfl, hB⟩
theorem ref25_wrong (s : ByteArray) (x b : Int) (hs : s.size ≤ 1000000000000) (w : World) :
    Calls Tryd.prog 30 #[.string s, .int .i64 x, .int .i64 b] w fun e w' => e = .returned (.int .i64 (Ent.wrong s.data.toList x b)) ∧ Below w.heap.size w w' := by
  rw [Ent.wrong]
  cases h1 : Utf.place s.data.toList x with
  | false => rw [if_neg (by simp)]; exact ref25_wrong_no1 s x b h1 hs w
  | true =>
    cases h2 : Utf.place s.data.toList b with
    | false => rw [if_neg (by simp)]; exact ref25_wrong_no2 s x b h1 h2 hs w
    | true =>
      rw [if_pos ⟨rfl, rfl⟩]
      by_cases h : x ≤ b
      · rw [if_pos h]; exact ref25_wrong_move s x b h1 h2 h hs w
      · rw [if_neg h]; exact ref25_wrong_ok s x b h1 h2 h hs w
set_option maxHeartbeats 2000000 in
set_option maxRecDepth 100000 in
theorem ref25_Type_no (s : ByteArray) (x : Int) (y : ByteArray) (h1 : Utf.place s.data.toList x = false) (hs : s.size ≤ 1000000000000) (w : World) :
    Calls Tryd.prog 9 #[.string s, .int .i64 x, .string y] w fun e w' => e = .returned (.tuple #[.string ⟨#[]⟩, .int .i64 0, .int .i64 1]) ∧ Below w.heap.size w w' := by
  have c1 := fun w => ref_Place s x (by omega) w
  rw [h1] at c1
  have C1 := Lib.hid c1
  clear c1 h1
  have hB := Below.refl w.heap.size w
  go_enter Tryd.func9, Tryd.ntmps9
  go_wp2_with (first
    | (go_at_call 25; (with_reducible refine (C1.out _).mono ?_); rintro e u ⟨rfl, hbn⟩; (first | replace hB := hB.trans (hbn.mono hB.size) | replace hB := hB.drew.trans (hbn.mono hB.drew.size)); clear hbn))
  go_ret3
  exact ⟨rfl, hB⟩
set_option maxHeartbeats 2000000 in
set_option maxRecDepth 100000 in
theorem ref25_Type_bad (s : ByteArray) (x : Int) (y : ByteArray) (h1 : Utf.place s.data.toList x = true) (h2 : Utf.valid y.data.toList = false) (hs : s.size ≤ 1000000000000) (hy : y.size ≤ 1000000000000) (w : World) :
    Calls Tryd.prog 9 #[.string s, .int .i64 x, .string y] w fun e w' => e = .returned (.tuple #[.string ⟨#[]⟩, .int .i64 0, .int .i64 1]) ∧ Below w.heap.size w w' := by
  have c1 := fun w => ref_Place s x (by omega) w
  rw [h1] at c1
  have c2 := fun w => ref_Valid y (by omega) w
  rw [h2] at c2
  have C1 := Lib.hid c1
  have C2 := Lib.hid c2
  clear c1 h1 c2 h2
  have hB := Below.refl w.heap.size w
  go_enter Tryd.func9, Tryd.ntmps9
  go_wp2_with (first
    | (go_at_call 25; (with_reducible refine (C1.out _).mono ?_); rintro e u ⟨rfl, hbn⟩; (first | replace hB := hB.trans (hbn.mono hB.size) | replace hB := hB.drew.trans (hbn.mono hB.drew.size)); clear hbn)
    | (go_at_call 26; (with_reducible refine (C2.out _).mono ?_); rintro e u ⟨rfl, hbn⟩; (first | replace hB := hB.trans (hbn.mono hB.size) | replace hB := hB.drew.trans (hbn.mono hB.drew.size)); clear hbn))
  go_ret3
  exact ⟨rfl, hB⟩
set_option maxHeartbeats 2000000 in
set_option maxRecDepth 100000 in
theorem ref25_Type_room (s : ByteArray) (n : Nat) (y : ByteArray) (hn : n ≤ s.size) (h1 : Utf.place s.data.toList (n : Int) = true) (h2 : Utf.valid y.data.toList = true) (hr : 4096 < s.size + y.size) (hs : s.size ≤ 1000000000000) (hy : y.size ≤ 1000000000000) (w : World) :
    Calls Tryd.prog 9 #[.string s, .int .i64 n, .string y] w fun e w' => e = .returned (.tuple #[.string ⟨#[]⟩, .int .i64 0, .int .i64 8]) ∧ Below w.heap.size w w' := by
  have c1 := fun w => ref_Place s (n : Int) (by omega) w
  rw [h1] at c1
  have c2 := fun w => ref_Valid y (by omega) w
  rw [h2] at c2
  have C1 := Lib.hid c1
  have C2 := Lib.hid c2
  have hl := data_len s
  have hl2 := data_len y
  have e1 := Ent.ext_to s n
  have e2 := Ent.ext_from s n
  have hyb := bs_data y
  have e3 : bs (s.data.toList.take n) ++ y = bs (s.data.toList.take n ++ y.data.toList) := by conv => lhs; rw [← hyb]
                                                                                              exact bs_append _ _
  have e4 : bs (s.data.toList.take n ++ y.data.toList) ++ bs (s.data.toList.drop n) = bs (Pst.mid s.data.toList n n y.data.toList) := by rw [bs_append, Pst.mid, List.append_assoc]
  have hz1 : (bs (s.data.toList.take n)).size ≤ s.size := by rw [bs_size, List.length_take]; omega
  have hz2 : (bs (s.data.toList.drop n)).size ≤ s.size := by rw [bs_size, List.length_drop]; omega
  have hz3 : (bs (s.data.toList.take n ++ y.data.toList)).size ≤ s.size + y.size := by rw [bs_size, List.length_append, List.length_take]; omega
  have hz4 : (bs (Pst.mid s.data.toList n n y.data.toList)).size = s.size + y.size := by
    have := Pst.mid_length (s := s.data.toList) y.data.toList (Nat.le_refl n) (by omega)
    rw [bs_size]; omega
  generalize bs (Pst.mid s.data.toList n n y.data.toList) = X at *
  generalize bs (s.data.toList.take n ++ y.data.toList) = G at *
  generalize bs (s.data.toList.take n) = Y1 at *
  generalize bs (s.data.toList.drop n) = Y2 at *
  have g1 : (n : Int) ≤ (s.size : Int) := by omega
  have g3 : ¬ 9223372036854775807 < Y1.size + y.size := by omega
  have g5 : ¬ 9223372036854775807 < G.size + Y2.size := by omega
  have g6 : (X.size : Int) = (s.size : Int) + (y.size : Int) := by omega
  clear c1 c2 h1 h2 hl hl2 hyb hz1 hz2 hz3 hz4
  have hB := Below.refl w.heap.size w
  go_enter Tryd.func9, Tryd.ntmps9
  go_wp2_with (first
    | (go_at_call 25; (with_reducible refine (C1.out _).mono ?_); rintro e u ⟨rfl, hbn⟩; (first | replace hB := hB.trans (hbn.mono hB.size) | replace hB := hB.drew.trans (hbn.mono hB.drew.size)); clear hbn)
    | (go_at_call 26; (with_reducible refine (C2.out _).mono ?_); rintro e u ⟨rfl, hbn⟩; (first | replace hB := hB.trans (hbn.mono hB.size) | replace hB := hB.drew.trans (hbn.mono hB.drew.size)); clear hbn))
  go_region
  all_goals go_wp2
  all_goals go_ret3
  all_goals exact ⟨rfl, by first | exact hB | exact hB.drew⟩
set_option maxHeartbeats 2000000 in
set_option maxRecDepth 100000 in
theorem ref25_Type_ok (s : ByteArray) (n : Nat) (y : ByteArray) (hn : n ≤ s.size) (h1 : Utf.place s.data.toList (n : Int) = true) (h2 : Utf.valid y.data.toList = true) (hr : s.size + y.size ≤ 4096) (hs : s.size ≤ 1000000000000) (hy : y.size ≤ 1000000000000) (w : World) :
    Calls Tryd.prog 9 #[.string s, .int .i64 n, .string y] w fun e w' => e = .returned (.tuple #[.string (bs (Pst.mid s.data.toList n n y.data.toList)), .int .i64 ((n : Int) + y.size), .int .i64 0]) ∧ Below w.heap.size w w' := by
  have c1 := fun w => ref_Place s (n : Int) (by omega) w
  rw [h1] at c1
  have c2 := fun w => ref_Valid y (by omega) w
  rw [h2] at c2
  have C1 := Lib.hid c1
  have C2 := Lib.hid c2
  have hl := data_len s
  have hl2 := data_len y
  have e1 := Ent.ext_to s n
  have e2 := Ent.ext_from s n
  have hyb := bs_data y
  have e3 : bs (s.data.toList.take n) ++ y = bs (s.data.toList.take n ++ y.data.toList) := by conv => lhs; rw [← hyb]
                                                                                              exact bs_append _ _
  have e4 : bs (s.data.toList.take n ++ y.data.toList) ++ bs (s.data.toList.drop n) = bs (Pst.mid s.data.toList n n y.data.toList) := by rw [bs_append, Pst.mid, List.append_assoc]
  have hz1 : (bs (s.data.toList.take n)).size ≤ s.size := by rw [bs_size, List.length_take]; omega
  have hz2 : (bs (s.data.toList.drop n)).size ≤ s.size := by rw [bs_size, List.length_drop]; omega
  have hz3 : (bs (s.data.toList.take n ++ y.data.toList)).size ≤ s.size + y.size := by rw [bs_size, List.length_append, List.length_take]; omega
  have hz4 : (bs (Pst.mid s.data.toList n n y.data.toList)).size = s.size + y.size := by
    have := Pst.mid_length (s := s.data.toList) y.data.toList (Nat.le_refl n) (by omega)
    rw [bs_size]; omega
  generalize bs (Pst.mid s.data.toList n n y.data.toList) = X at *
  generalize bs (s.data.toList.take n ++ y.data.toList) = G at *
  generalize bs (s.data.toList.take n) = Y1 at *
  generalize bs (s.data.toList.drop n) = Y2 at *
  have g1 : (n : Int) ≤ (s.size : Int) := by omega
  have g3 : ¬ 9223372036854775807 < Y1.size + y.size := by omega
  have g5 : ¬ 9223372036854775807 < G.size + Y2.size := by omega
  have g6 : (X.size : Int) = (s.size : Int) + (y.size : Int) := by omega
  clear c1 c2 h1 h2 hl hl2 hyb hz1 hz2 hz3 hz4
  have hB := Below.refl w.heap.size w
  go_enter Tryd.func9, Tryd.ntmps9
  go_wp2_with (first
    | (go_at_call 25; (with_reducible refine (C1.out _).mono ?_); rintro e u ⟨rfl, hbn⟩; (first | replace hB := hB.trans (hbn.mono hB.size) | replace hB := hB.drew.trans (hbn.mono hB.drew.size)); clear hbn)
    | (go_at_call 26; (with_reducible refine (C2.out _).mono ?_); rintro e u ⟨rfl, hbn⟩; (first | replace hB := hB.trans (hbn.mono hB.size) | replace hB := hB.drew.trans (hbn.mono hB.drew.size)); clear hbn))
  go_region
  all_goals go_wp2
  all_goals go_ret3
  all_goals exact ⟨rfl, by first | exact hB | exact hB.drew⟩
theorem ref25_Type (s : ByteArray) (x : Int) (y : ByteArray) (hs : s.size ≤ 1000000000000) (hy : y.size ≤ 1000000000000) (w : World) :
    Calls Tryd.prog 9 #[.string s, .int .i64 x, .string y] w fun e w' => e = .returned (Pst.val (Ent.typ s.data.toList x y.data.toList)) ∧ Below w.heap.size w w' := by
  have hl := data_len s
  have hl2 := data_len y
  cases h : Utf.place s.data.toList x with
  | false => rw [Ent.typ_no (.inl h)]; exact ref25_Type_no s x y h hs w
  | true =>
    cases hv : Utf.valid y.data.toList with
    | false => rw [Ent.typ_no (.inr hv)]; exact ref25_Type_bad s x y h hv hs hy w
    | true =>
      rw [Ent.typ_yes h hv, hl, hl2]
      obtain ⟨n, rfl, hn⟩ := Line.place_nat h
      by_cases hr : s.size + y.size ≤ 4096
      · rw [if_pos hr, Int.toNat_natCast]
        exact ref25_Type_ok s n y (by omega) h hv hr hs hy w
      · rw [if_neg hr]
        exact ref25_Type_room s n y (by omega) h hv (by omega) hs hy w
set_option maxHeartbeats 2000000 in
set_option maxRecDepth 100000 in
theorem ref25_Back_wrong (s : ByteArray) (x b z : Int) (hz : z = 1 ∨ z = 10) (h : Ent.wrong s.data.toList x b = z) (hs : s.size ≤ 1000000000000) (w : World) :
    Calls Tryd.prog 13 #[.string s, .int .i64 x, .int .i64 b] w fun e w' => e = .returned (Pst.val (Pst.no z)) ∧ Below w.heap.size w w' := by
  rw [Pst.val_no]
  have c1 := fun w => ref25_wrong s x b hs w
  rw [h] at c1
  have C1 := Lib.hid c1
  clear c1 h
  rcases hz with rfl | rfl
  · have hB := Below.refl w.heap.size w
    go_enter Tryd.func13, Tryd.ntmps13
    go_wp2_with (go_at_call 30; (with_reducible refine (C1.out _).mono ?_); rintro e u ⟨rfl, hbn⟩; (first | replace hB := hB.trans (hbn.mono hB.size) | replace hB := hB.drew.trans (hbn.mono hB.drew.size)); clear hbn)
    go_ret3
    exact ⟨rfl, hB⟩
  · have hB := Below.refl w.heap.size w
    go_enter Tryd.func13, Tryd.ntmps13
    go_wp2_with (go_at_call 30; (with_reducible refine (C1.out _).mono ?_); rintro e u ⟨rfl, hbn⟩; (first | replace hB := hB.trans (hbn.mono hB.size) | replace hB := hB.drew.trans (hbn.mono hB.drew.size)); clear hbn)
    go_ret3
    exact ⟨rfl, hB⟩
set_option maxHeartbeats 2000000 in
set_option maxRecDepth 100000 in
theorem ref25_Chop_wrong (s : ByteArray) (x b z : Int) (hz : z = 1 ∨ z = 10) (h : Ent.wrong s.data.toList x b = z) (hs : s.size ≤ 1000000000000) (w : World) :
    Calls Tryd.prog 15 #[.string s, .int .i64 x, .int .i64 b] w fun e w' => e = .returned (Pst.val (Pst.no z)) ∧ Below w.heap.size w w' := by
  rw [Pst.val_no]
  have c1 := fun w => ref25_wrong s x b hs w
  rw [h] at c1
  have C1 := Lib.hid c1
  clear c1 h
  rcases hz with rfl | rfl
  · have hB := Below.refl w.heap.size w
    go_enter Tryd.func15, Tryd.ntmps15
    go_wp2_with (go_at_call 30; (with_reducible refine (C1.out _).mono ?_); rintro e u ⟨rfl, hbn⟩; (first | replace hB := hB.trans (hbn.mono hB.size) | replace hB := hB.drew.trans (hbn.mono hB.drew.size)); clear hbn)
    go_ret3
    exact ⟨rfl, hB⟩
  · have hB := Below.refl w.heap.size w
    go_enter Tryd.func15, Tryd.ntmps15
    go_wp2_with (go_at_call 30; (with_reducible refine (C1.out _).mono ?_); rintro e u ⟨rfl, hbn⟩; (first | replace hB := hB.trans (hbn.mono hB.size) | replace hB := hB.drew.trans (hbn.mono hB.drew.size)); clear hbn)
    go_ret3
    exact ⟨rfl, hB⟩
set_option maxHeartbeats 2000000 in
set_option maxRecDepth 100000 in
theorem ref25_Wipe_wrong (s : ByteArray) (x b z : Int) (hz : z = 1 ∨ z = 10) (h : Ent.wrong s.data.toList x b = z) (hs : s.size ≤ 1000000000000) (w : World) :
    Calls Tryd.prog 17 #[.string s, .int .i64 x, .int .i64 b] w fun e w' => e = .returned (Pst.val (Pst.no z)) ∧ Below w.heap.size w w' := by
  rw [Pst.val_no]
  have c1 := fun w => ref25_wrong s x b hs w
  rw [h] at c1
  have C1 := Lib.hid c1
  clear c1 h
  rcases hz with rfl | rfl
  · have hB := Below.refl w.heap.size w
    go_enter Tryd.func17, Tryd.ntmps17
    go_wp2_with (go_at_call 30; (with_reducible refine (C1.out _).mono ?_); rintro e u ⟨rfl, hbn⟩; (first | replace hB := hB.trans (hbn.mono hB.size) | replace hB := hB.drew.trans (hbn.mono hB.drew.size)); clear hbn)
    go_ret3
    exact ⟨rfl, hB⟩
  · have hB := Below.refl w.heap.size w
    go_enter Tryd.func17, Tryd.ntmps17
    go_wp2_with (go_at_call 30; (with_reducible refine (C1.out _).mono ?_); rintro e u ⟨rfl, hbn⟩; (first | replace hB := hB.trans (hbn.mono hB.size) | replace hB := hB.drew.trans (hbn.mono hB.drew.size)); clear hbn)
    go_ret3
    exact ⟨rfl, hB⟩
set_option maxHeartbeats 2000000 in
set_option maxRecDepth 100000 in
theorem ref25_Back (s : ByteArray) (x b : Int) (hs : s.size ≤ 1000000000000) (w : World) :
    Calls Tryd.prog 13 #[.string s, .int .i64 x, .int .i64 b] w fun e w' => e = .returned (Pst.val (cut backQ s.data.toList x b)) ∧ Below w.heap.size w w' := by
  by_cases h : Ent.wrong s.data.toList x b = 0
  · obtain ⟨rs, i, a, hd, hi, ha, hx, hb, hc⟩ := Ent.right_cut backQ h
    rw [hc, Pst.val_mk]
    have c1 := fun w => ref25_wrong s x b hs w
    rw [h] at c1
    have C1 := Lib.hid c1
    obtain ⟨k, rfl⟩ : ∃ k, i = k + 1 := ⟨i - 1, by omega⟩
    have hl := data_len s
    have c2 := fun w => ref_Prev s x (by omega) w
    rw [hx, Utf.prev_at hd (by omega)] at c2
    rw [← hx] at c2
    have C2 := Lib.hid c2
    have c3 := fun w => ref25_without s (Utf.off rs k) (Utf.off rs (k + 1)) (by have := Utf.off_in hd k; omega) (by have := Utf.off_in hd (k + 1); omega) hs w
    rw [← hx] at c3
    have C3 := Lib.hid c3
    rw [show backQ s.data.toList rs a (k + 1) = k by unfold backQ; omega]
    generalize bs (Pst.mid s.data.toList (Utf.off rs k) (Utf.off rs (k + 1)) []) = X at *
    generalize Utf.off rs k = K at *
    clear c1 c2 c3 h hc hx hb hd hi ha
    have hB := Below.refl w.heap.size w
    go_enter Tryd.func13, Tryd.ntmps13
    go_wp2_with (first
      | (go_at_call 30; (with_reducible refine (C1.out _).mono ?_); rintro e u ⟨rfl, hbn⟩; (first | replace hB := hB.trans (hbn.mono hB.size) | replace hB := hB.drew.trans (hbn.mono hB.drew.size)); clear hbn)
      | (go_at_call 32; (with_reducible refine (C2.out _).mono ?_); rintro e u ⟨rfl, hbn⟩; (first | replace hB := hB.trans (hbn.mono hB.size) | replace hB := hB.drew.trans (hbn.mono hB.drew.size)); clear hbn)
      | (go_at_call 31; (with_reducible refine (C3.out _).mono ?_); rintro e u ⟨rfl, hbn⟩; (first | replace hB := hB.trans (hbn.mono hB.size) | replace hB := hB.drew.trans (hbn.mono hB.drew.size)); clear hbn))
    go_ret3
    exact ⟨rfl, hB⟩
  · obtain ⟨h1, h2⟩ := Ent.wrong_cut backQ h
    rw [h1]
    exact ref25_Back_wrong s x b _ h2 rfl hs w
set_option maxHeartbeats 2000000 in
set_option maxRecDepth 100000 in
theorem ref25_Wipe_feed (s : ByteArray) {rs : List (List UInt8)} (hd : Utf.dec s.data.toList = some rs) {a i : Nat} (ha : a < i) (hi : i ≤ rs.length) (h4 : cl s.data.toList rs (i - 1) = 4) (h : Ent.wrong s.data.toList (Utf.off rs i : Nat) (Utf.off rs a : Nat) = 0) (hs : s.size ≤ 1000000000000) (w : World) :
    Calls Tryd.prog 17 #[.string s, .int .i64 (Utf.off rs i : Nat), .int .i64 (Utf.off rs a : Nat)] w fun e w' => e = .returned (Pst.val (Pst.mid s.data.toList (Utf.off rs (wipeQ s.data.toList rs a i)) (Utf.off rs i) [], ((Utf.off rs (wipeQ s.data.toList rs a i) : Nat) : Int), 0)) ∧ Below w.heap.size w w' := by
  rw [Pst.val_mk]
  have c1 := fun w => ref25_wrong s (Utf.off rs i : Nat) (Utf.off rs a : Nat) hs w
  rw [h] at c1
  have C1 := Lib.hid c1
  have hl := data_len s
  have hil := Utf.off_in hd i
  have hai := Utf.off_lt (Utf.dec_some hd).1 ha hi
  have C2 := Lib.hid (fun w => ref4_Of s (Utf.off rs i : Int) hs w)
  have c3 := fun w => ref4_Start s (Line.of_ s.data.toList (Utf.off rs i : Int)) hs w
  obtain ⟨b, hb, hst, hbk, hb0⟩ := Ent.line_rune hd hi
  have hbi : b = i := by
    rcases Nat.eq_or_lt_of_le hb with e | e
    · exact e
    · exact absurd h4 (hbk (i - 1) (by omega) (by omega))
  subst hbi
  rw [hst] at c3
  have C3 := Lib.hid c3
  obtain ⟨k, rfl⟩ : ∃ k, b = k + 1 := ⟨b - 1, by omega⟩
  rw [Nat.add_sub_cancel] at h4
  have hQ : wipeQ s.data.toList rs a (k + 1) = k := by unfold wipeQ; rw [Nat.add_sub_cancel, if_pos h4]
  rw [hQ]
  have hk := Ent.feed_one hd (by omega) h4
  have hka := Utf.off_mono (rs := rs) (show a ≤ k by omega)
  have c4 := fun w => ref25_without s (Utf.off rs k) (Utf.off rs (k + 1)) (by omega) (by omega) hs w
  have C4 := Lib.hid c4
  have gk : (Utf.off rs (k + 1) : Int) - 1 = (Utf.off rs k : Nat) := by omega
  have g2 : ¬ ((Utf.off rs k : Int) < (Utf.off rs a : Int)) := by omega
  have g6 : (Utf.off rs (k + 1) : Int) ≤ 1000000000000 := by omega
  have g7 : (1 : Int) ≤ (Utf.off rs (k + 1) : Int) := by omega
  clear c1 c3 c4 h h4 hb hbk hb0 hQ hk hst
  generalize Line.of_ s.data.toList (Utf.off rs (k + 1) : Int) = z at *
  generalize bs (Pst.mid s.data.toList (Utf.off rs k) (Utf.off rs (k + 1)) []) = X at *
  generalize Utf.off rs k = K at *
  generalize Utf.off rs (k + 1) = I at *
  generalize Utf.off rs a = A at *
  clear hd hi ha hil hl hka hai
  have hB := Below.refl w.heap.size w
  go_enter Tryd.func17, Tryd.ntmps17
  go_wp2_with (first
    | (go_at_call 30; (with_reducible refine (C1.out _).mono ?_); rintro e u ⟨rfl, hbn⟩; (first | replace hB := hB.trans (hbn.mono hB.size) | replace hB := hB.drew.trans (hbn.mono hB.drew.size)); clear hbn)
    | (go_at_call 37; (with_reducible refine (C2.out _).mono ?_); rintro e u ⟨rfl, hbn⟩; (first | replace hB := hB.trans (hbn.mono hB.size) | replace hB := hB.drew.trans (hbn.mono hB.drew.size)); clear hbn)
    | (go_at_call 36; (with_reducible refine (C3.out _).mono ?_); rintro e u ⟨rfl, hbn⟩; (first | replace hB := hB.trans (hbn.mono hB.size) | replace hB := hB.drew.trans (hbn.mono hB.drew.size)); clear hbn)
    | (go_at_call 31; (with_reducible refine (C4.out _).mono ?_); rintro e u ⟨rfl, hbn⟩; (first | replace hB := hB.trans (hbn.mono hB.size) | replace hB := hB.drew.trans (hbn.mono hB.drew.size)); clear hbn))
  go_ret3
  exact ⟨rfl, hB⟩
set_option maxHeartbeats 2000000 in
set_option maxRecDepth 100000 in
theorem ref25_Wipe_low (s : ByteArray) {rs : List (List UInt8)} (hd : Utf.dec s.data.toList = some rs) {a i : Nat} (ha : a < i) (hi : i ≤ rs.length) {b : Nat} (hst : Line.start s.data.toList (Line.of_ s.data.toList (Utf.off rs i : Int)) = Utf.off rs b) (hb : b < i) (hlo : b < a) (hQ : wipeQ s.data.toList rs a i = a) (h : Ent.wrong s.data.toList (Utf.off rs i : Nat) (Utf.off rs a : Nat) = 0) (hs : s.size ≤ 1000000000000) (w : World) :
    Calls Tryd.prog 17 #[.string s, .int .i64 (Utf.off rs i : Nat), .int .i64 (Utf.off rs a : Nat)] w fun e w' => e = .returned (Pst.val (Pst.mid s.data.toList (Utf.off rs (wipeQ s.data.toList rs a i)) (Utf.off rs i) [], ((Utf.off rs (wipeQ s.data.toList rs a i) : Nat) : Int), 0)) ∧ Below w.heap.size w w' := by
  rw [Pst.val_mk]
  have c1 := fun w => ref25_wrong s (Utf.off rs i : Nat) (Utf.off rs a : Nat) hs w
  rw [h] at c1
  have C1 := Lib.hid c1
  have hl := data_len s
  have hil := Utf.off_in hd i
  have hai := Utf.off_lt (Utf.dec_some hd).1 ha hi
  have C2 := Lib.hid (fun w => ref4_Of s (Utf.off rs i : Int) hs w)
  have c3 := fun w => ref4_Start s (Line.of_ s.data.toList (Utf.off rs i : Int)) hs w
  rw [hst] at c3
  have C3 := Lib.hid c3
  rw [hQ]
  have hbi := Utf.off_lt (Utf.dec_some hd).1 hb hi
  have hba := Utf.off_lt (Utf.dec_some hd).1 hlo (by omega)
  have c4 := fun w => ref25_without s (Utf.off rs a) (Utf.off rs i) (by omega) (by omega) hs w
  have C4 := Lib.hid c4
  have g1 : ((Utf.off rs b : Int) == (Utf.off rs i : Int)) = false := by simp; omega
  have g2 : ((Utf.off rs b : Int) < (Utf.off rs a : Int)) := by omega
  clear c1 c3 c4 h hQ hst
  generalize Line.of_ s.data.toList (Utf.off rs i : Int) = z at *
  generalize bs (Pst.mid s.data.toList (Utf.off rs a) (Utf.off rs i) []) = X at *
  generalize Utf.off rs b = K at *
  generalize Utf.off rs i = I at *
  generalize Utf.off rs a = A at *
  clear hd hi ha hil hl hai hlo hb hbi hba
  have hB := Below.refl w.heap.size w
  go_enter Tryd.func17, Tryd.ntmps17
  go_wp2_with (first
    | (go_at_call 30; (with_reducible refine (C1.out _).mono ?_); rintro e u ⟨rfl, hbn⟩; (first | replace hB := hB.trans (hbn.mono hB.size) | replace hB := hB.drew.trans (hbn.mono hB.drew.size)); clear hbn)
    | (go_at_call 37; (with_reducible refine (C2.out _).mono ?_); rintro e u ⟨rfl, hbn⟩; (first | replace hB := hB.trans (hbn.mono hB.size) | replace hB := hB.drew.trans (hbn.mono hB.drew.size)); clear hbn)
    | (go_at_call 36; (with_reducible refine (C3.out _).mono ?_); rintro e u ⟨rfl, hbn⟩; (first | replace hB := hB.trans (hbn.mono hB.size) | replace hB := hB.drew.trans (hbn.mono hB.drew.size)); clear hbn)
    | (go_at_call 31; (with_reducible refine (C4.out _).mono ?_); rintro e u ⟨rfl, hbn⟩; (first | replace hB := hB.trans (hbn.mono hB.size) | replace hB := hB.drew.trans (hbn.mono hB.drew.size)); clear hbn))
  go_ret3
  exact ⟨rfl, hB⟩
set_option maxHeartbeats 2000000 in
set_option maxRecDepth 100000 in
theorem ref25_Wipe_high (s : ByteArray) {rs : List (List UInt8)} (hd : Utf.dec s.data.toList = some rs) {a i : Nat} (ha : a < i) (hi : i ≤ rs.length) {b : Nat} (hst : Line.start s.data.toList (Line.of_ s.data.toList (Utf.off rs i : Int)) = Utf.off rs b) (hb : b < i) (hlo : a ≤ b) (hQ : wipeQ s.data.toList rs a i = b) (h : Ent.wrong s.data.toList (Utf.off rs i : Nat) (Utf.off rs a : Nat) = 0) (hs : s.size ≤ 1000000000000) (w : World) :
    Calls Tryd.prog 17 #[.string s, .int .i64 (Utf.off rs i : Nat), .int .i64 (Utf.off rs a : Nat)] w fun e w' => e = .returned (Pst.val (Pst.mid s.data.toList (Utf.off rs (wipeQ s.data.toList rs a i)) (Utf.off rs i) [], ((Utf.off rs (wipeQ s.data.toList rs a i) : Nat) : Int), 0)) ∧ Below w.heap.size w w' := by
  rw [Pst.val_mk]
  have c1 := fun w => ref25_wrong s (Utf.off rs i : Nat) (Utf.off rs a : Nat) hs w
  rw [h] at c1
  have C1 := Lib.hid c1
  have hl := data_len s
  have hil := Utf.off_in hd i
  have hai := Utf.off_lt (Utf.dec_some hd).1 ha hi
  have C2 := Lib.hid (fun w => ref4_Of s (Utf.off rs i : Int) hs w)
  have c3 := fun w => ref4_Start s (Line.of_ s.data.toList (Utf.off rs i : Int)) hs w
  rw [hst] at c3
  have C3 := Lib.hid c3
  rw [hQ]
  have hbi := Utf.off_lt (Utf.dec_some hd).1 hb hi
  have hba := Utf.off_mono (rs := rs) hlo
  have c4 := fun w => ref25_without s (Utf.off rs b) (Utf.off rs i) (by omega) (by omega) hs w
  have C4 := Lib.hid c4
  have g1 : ((Utf.off rs b : Int) == (Utf.off rs i : Int)) = false := by simp; omega
  have g2 : ¬ ((Utf.off rs b : Int) < (Utf.off rs a : Int)) := by omega
  clear c1 c3 c4 h hQ hst
  generalize Line.of_ s.data.toList (Utf.off rs i : Int) = z at *
  generalize bs (Pst.mid s.data.toList (Utf.off rs b) (Utf.off rs i) []) = X at *
  generalize Utf.off rs b = K at *
  generalize Utf.off rs i = I at *
  generalize Utf.off rs a = A at *
  clear hd hi ha hil hl hai hlo hb hbi hba
  have hB := Below.refl w.heap.size w
  go_enter Tryd.func17, Tryd.ntmps17
  go_wp2_with (first
    | (go_at_call 30; (with_reducible refine (C1.out _).mono ?_); rintro e u ⟨rfl, hbn⟩; (first | replace hB := hB.trans (hbn.mono hB.size) | replace hB := hB.drew.trans (hbn.mono hB.drew.size)); clear hbn)
    | (go_at_call 37; (with_reducible refine (C2.out _).mono ?_); rintro e u ⟨rfl, hbn⟩; (first | replace hB := hB.trans (hbn.mono hB.size) | replace hB := hB.drew.trans (hbn.mono hB.drew.size)); clear hbn)
    | (go_at_call 36; (with_reducible refine (C3.out _).mono ?_); rintro e u ⟨rfl, hbn⟩; (first | replace hB := hB.trans (hbn.mono hB.size) | replace hB := hB.drew.trans (hbn.mono hB.drew.size)); clear hbn)
    | (go_at_call 31; (with_reducible refine (C4.out _).mono ?_); rintro e u ⟨rfl, hbn⟩; (first | replace hB := hB.trans (hbn.mono hB.size) | replace hB := hB.drew.trans (hbn.mono hB.drew.size)); clear hbn))
  go_ret3
  exact ⟨rfl, hB⟩
theorem ref25_Wipe (s : ByteArray) (x b : Int) (hs : s.size ≤ 1000000000000) (w : World) :
    Calls Tryd.prog 17 #[.string s, .int .i64 x, .int .i64 b] w fun e w' => e = .returned (Pst.val (cut wipeQ s.data.toList x b)) ∧ Below w.heap.size w w' := by
  by_cases h : Ent.wrong s.data.toList x b = 0
  · obtain ⟨rs, i, a, hd, hi, ha, rfl, rfl, hc⟩ := Ent.right_cut wipeQ h
    rw [hc]
    by_cases h4 : cl s.data.toList rs (i - 1) = 4
    · exact ref25_Wipe_feed s hd ha hi h4 h hs w
    · obtain ⟨c, hcb, hst, hbk, hb0⟩ := Ent.line_rune hd hi
      obtain ⟨hQ, hci⟩ := Ent.wipe_line ha h4 hcb hbk hb0
      rcases Nat.lt_or_ge c a with hlo | hlo
      · exact ref25_Wipe_low s hd ha hi hst hci hlo (by rw [hQ]; omega) h hs w
      · exact ref25_Wipe_high s hd ha hi hst hci hlo (by rw [hQ]; omega) h hs w
  · obtain ⟨h1, h2⟩ := Ent.wrong_cut wipeQ h
    rw [h1]
    exact ref25_Wipe_wrong s x b _ h2 rfl hs w
set_option maxHeartbeats 2000000 in
set_option maxRecDepth 100000 in
theorem ref25_Leave (s : ByteArray) (x : Int) (hs : s.size ≤ 1000000000000) (w : World) :
    Calls Tryd.prog 19 #[.string s, .int .i64 x] w fun e w' => e = .returned (.int .i64 (Ent.leave s.data.toList x)) ∧ Below w.heap.size w w' := by
  have c1 := fun w => ref_Place s x (by omega) w
  cases h1 : Utf.place s.data.toList x with
  | false =>
    rw [h1] at c1
    have C1 := Lib.hid c1
    rw [Ent.leave_no h1]
    clear c1 h1
    have hB := Below.refl w.heap.size w
    go_enter Tryd.func19, Tryd.ntmps19
    go_wp2_with (go_at_call 25; (with_reducible refine (C1.out _).mono ?_); rintro e u ⟨rfl, hbn⟩; (first | replace hB := hB.trans (hbn.mono hB.size) | replace hB := hB.drew.trans (hbn.mono hB.drew.size)); clear hbn)
    go_ret
    exact ⟨rfl, hB⟩
  | true =>
    rw [h1] at c1
    have C1 := Lib.hid c1
    obtain ⟨rs, hd⟩ := Utf.valid_of (Line.place_ok h1)
    obtain ⟨i, hi, rfl⟩ := (Utf.place_iff hd).1 h1
    rw [Ent.leave_at hd hi]
    have C2 := Lib.hid (fun w => ref4_Column s (Utf.off rs i : Int) hs w)
    have hcol := Ent.column_at hd hi
    have C4 := Lib.hid (fun p w => ref4_Clamp s p hs w)
    by_cases h : 0 < i ∧ cl s.data.toList rs (i - 1) ≠ 4
    · rw [if_pos h]
      obtain ⟨k, rfl⟩ : ∃ k, i = k + 1 := ⟨i - 1, by omega⟩
      rw [Nat.add_sub_cancel]
      have c3 := fun w => ref_Prev s (Utf.off rs (k + 1) : Int) (by omega) w
      rw [Utf.prev_at hd (by omega)] at c3
      have C3 := Lib.hid c3
      have C5 := Lib.hid (C4.out (Utf.off rs k : Int))
      have g := hcol.2 h
      clear c1 c3 C4 hcol h h1
      generalize Line.column s.data.toList (Utf.off rs (k + 1) : Int) = z at *
      generalize Line.clamp s.data.toList (Utf.off rs k : Int) = y at *
      generalize Utf.off rs k = K at *
      generalize Utf.off rs (k + 1) = I at *
      clear hd hi
      have hB := Below.refl w.heap.size w
      go_enter Tryd.func19, Tryd.ntmps19
      go_wp2_with (first
        | (go_at_call 25; (with_reducible refine (C1.out _).mono ?_); rintro e u ⟨rfl, hbn⟩; (first | replace hB := hB.trans (hbn.mono hB.size) | replace hB := hB.drew.trans (hbn.mono hB.drew.size)); clear hbn)
        | (go_at_call 40; (with_reducible refine (C2.out _).mono ?_); rintro e u ⟨rfl, hbn⟩; (first | replace hB := hB.trans (hbn.mono hB.size) | replace hB := hB.drew.trans (hbn.mono hB.drew.size)); clear hbn)
        | (go_at_call 32; (with_reducible refine (C3.out _).mono ?_); rintro e u ⟨rfl, hbn⟩; (first | replace hB := hB.trans (hbn.mono hB.size) | replace hB := hB.drew.trans (hbn.mono hB.drew.size)); clear hbn)
        | (go_at_call 41; (with_reducible refine (C5.out _).mono ?_); rintro e u ⟨rfl, hbn⟩; (first | replace hB := hB.trans (hbn.mono hB.size) | replace hB := hB.drew.trans (hbn.mono hB.drew.size)); clear hbn))
      go_ret
      exact ⟨rfl, hB⟩
    · rw [if_neg h]
      have C5 := Lib.hid (C4.out (Utf.off rs i : Int))
      have g := mt hcol.1 h
      clear c1 C4 hcol h h1
      generalize Line.column s.data.toList (Utf.off rs i : Int) = z at *
      generalize Line.clamp s.data.toList (Utf.off rs i : Int) = y at *
      generalize Utf.off rs i = I at *
      clear hd hi
      have hB := Below.refl w.heap.size w
      go_enter Tryd.func19, Tryd.ntmps19
      go_wp2_with (first
        | (go_at_call 25; (with_reducible refine (C1.out _).mono ?_); rintro e u ⟨rfl, hbn⟩; (first | replace hB := hB.trans (hbn.mono hB.size) | replace hB := hB.drew.trans (hbn.mono hB.drew.size)); clear hbn)
        | (go_at_call 40; (with_reducible refine (C2.out _).mono ?_); rintro e u ⟨rfl, hbn⟩; (first | replace hB := hB.trans (hbn.mono hB.size) | replace hB := hB.drew.trans (hbn.mono hB.drew.size)); clear hbn)
        | (go_at_call 41; (with_reducible refine (C5.out _).mono ?_); rintro e u ⟨rfl, hbn⟩; (first | replace hB := hB.trans (hbn.mono hB.size) | replace hB := hB.drew.trans (hbn.mono hB.drew.size)); clear hbn))
      go_ret
      exact ⟨rfl, hB⟩
set_option maxHeartbeats 2000000 in
set_option maxRecDepth 100000 in
theorem entry_Leave (s : ByteArray) (x : Int) (hs : s.size ≤ 1000000000000) (w : World) :
    Calls Tryd.prog 18 #[.string s, .int .i64 x] w fun e w' => e = .returned (.int .i64 (Ent.leave s.data.toList x)) ∧ Below w.heap.size w w' := by
  have c1 := fun w => utf_Place s x (by omega) w
  cases h1 : Utf.place s.data.toList x with
  | false =>
    rw [h1] at c1
    have C1 := Lib.hid c1
    rw [Ent.leave_no h1]
    clear c1 h1
    go_enter Tryd.func18, Tryd.ntmps18
    go_wp2_with (go_at_call 21; (with_reducible refine (C1.out _).mono ?_); rintro e u ⟨rfl, rfl⟩)
    go_ret
    exact ⟨rfl, Below.refl _ _⟩
  | true =>
    rw [h1] at c1
    have C1 := Lib.hid c1
    obtain ⟨rs, hd⟩ := Utf.valid_of (Line.place_ok h1)
    obtain ⟨i, hi, rfl⟩ := (Utf.place_iff hd).1 h1
    rw [Ent.leave_at hd hi]
    have hl := data_len s
    have hil := Utf.off_in hd i
    have C4 := Lib.hid (fun p w => line_Clamp s p hs w)
    have c3 := fun w => utf_Prev s (Utf.off rs i : Int) (by omega) w
    have hB := Below.refl w.heap.size w
    rcases Nat.eq_zero_or_pos i with h0 | h0
    · subst h0
      rw [if_neg (by simp)]
      have C5 := Lib.hid (C4.out (Utf.off rs 0 : Int))
      rw [show Utf.prev s.data.toList ((Utf.off rs 0 : Nat) : Int) = -1 from Utf.prev_zero hd] at c3
      have C3 := Lib.hid c3
      clear c1 c3 C4 h1
      generalize Line.clamp s.data.toList (Utf.off rs 0 : Int) = y at *
      generalize Utf.off rs 0 = I at *
      clear hd hi hil
      go_enter Tryd.func18, Tryd.ntmps18
      go_wp2_with (first
        | (go_at_call 21; (with_reducible refine (C1.out _).mono ?_); rintro e u ⟨rfl, rfl⟩)
        | (go_at_call 38; (with_reducible refine (C3.out _).mono ?_); rintro e u ⟨rfl, rfl⟩)
        | (go_at_call 39; (with_reducible refine (C5.out _).mono ?_); rintro e u ⟨rfl, hbn⟩; (first | replace hB := hB.trans (hbn.mono hB.size) | replace hB := hB.drew.trans (hbn.mono hB.drew.size)); clear hbn))
      go_ret
      exact ⟨rfl, hB⟩
    · obtain ⟨k, rfl⟩ : ∃ k, i = k + 1 := ⟨i - 1, by omega⟩
      rw [Nat.add_sub_cancel]
      rw [Utf.prev_at hd (by omega)] at c3
      have C3 := Lib.hid c3
      have hlt := Utf.off_lt (Utf.dec_some hd).1 (Nat.lt_succ_self k) hi
      have hkb : Utf.off rs k < s.size := by have e : Utf.off rs k.succ = Utf.off rs (k + 1) := rfl; omega
      have h4 := Ent.cl_first (s := s.data.toList) (rs := rs) (i := k)
      rw [byte_get s hkb] at h4
      by_cases h : cl s.data.toList rs k = 4
      · rw [if_neg (by simp [h])]
        have C5 := Lib.hid (C4.out (Utf.off rs (k + 1) : Int))
        have g10 : s[Utf.off rs k].toNat = 10 := by
          have := h4.1 h
          injection this with this
          rw [this]; rfl
        clear c1 c3 C4 h1 h4 h hlt
        generalize Line.clamp s.data.toList (Utf.off rs (k + 1) : Int) = y at *
        generalize Utf.off rs (k + 1) = I at *
        generalize Utf.off rs k = K at *
        clear hd hi hil
        go_enter Tryd.func18, Tryd.ntmps18
        go_wp2_with (first
          | (go_at_call 21; (with_reducible refine (C1.out _).mono ?_); rintro e u ⟨rfl, rfl⟩)
          | (go_at_call 38; (with_reducible refine (C3.out _).mono ?_); rintro e u ⟨rfl, rfl⟩)
          | (go_at_call 39; (with_reducible refine (C5.out _).mono ?_); rintro e u ⟨rfl, hbn⟩; (first | replace hB := hB.trans (hbn.mono hB.size) | replace hB := hB.drew.trans (hbn.mono hB.drew.size)); clear hbn))
        go_ret
        exact ⟨rfl, hB⟩
      · rw [if_pos ⟨by omega, h⟩]
        have C5 := Lib.hid (C4.out (Utf.off rs k : Int))
        have g10 : s[Utf.off rs k].toNat ≠ 10 := fun e => h (h4.2 (by rw [show s[Utf.off rs k] = 10 from UInt8.toNat_inj.1 (by rw [e]; rfl)]))
        clear c1 c3 C4 h1 h4 h hlt
        generalize Line.clamp s.data.toList (Utf.off rs k : Int) = y at *
        generalize Utf.off rs (k + 1) = I at *
        generalize Utf.off rs k = K at *
        clear hd hi hil
        go_enter Tryd.func18, Tryd.ntmps18
        go_wp2_with (first
          | (go_at_call 21; (with_reducible refine (C1.out _).mono ?_); rintro e u ⟨rfl, rfl⟩)
          | (go_at_call 38; (with_reducible refine (C3.out _).mono ?_); rintro e u ⟨rfl, rfl⟩)
          | (go_at_call 39; (with_reducible refine (C5.out _).mono ?_); rintro e u ⟨rfl, hbn⟩; (first | replace hB := hB.trans (hbn.mono hB.size) | replace hB := hB.drew.trans (hbn.mono hB.drew.size)); clear hbn))
        go_ret
        exact ⟨rfl, hB⟩
end Go.Proofs.YtdclopfhffjkfaaDoor
/-
  The document's answer: a word taken out, rune by rune.
-/
namespace Go.Proofs.YtdclopfhffjkfaaDoor
open Go.RowKit
open Ent (cl lef wordQ backQ chopQ wipeQ cut)
namespace Ent
section
variable {s : List UInt8} {rs : List (List UInt8)} {a i : Nat}
theorem chop_from (h4 : cl s rs (i - 1) ≠ 4) (h : lef s rs (· == 1) a i = a) : chopQ s rs a i = a := by
  rw [chopQ, if_neg h4, h, wordQ]
  split
  · rfl
  · exact lef_stay (Nat.le_refl _)
theorem chop_feed {j : Nat} (h4 : cl s rs (i - 1) ≠ 4) (h : lef s rs (· == 1) a i = j + 1) (hj : cl s rs j = 4) : chopQ s rs a i = j + 1 := by
  rw [chopQ, if_neg h4, h, wordQ, Nat.add_sub_cancel, if_pos hj]
theorem chop_runes {j : Nat} (h4 : cl s rs (i - 1) ≠ 4) (h : lef s rs (· == 1) a i = j + 1) (hj : cl s rs j ≠ 4) : chopQ s rs a i = lef s rs (· == cl s rs j) a (j + 1) := by
  rw [chopQ, if_neg h4, h, wordQ, Nat.add_sub_cancel, if_neg hj]
theorem chop_one (h4 : cl s rs (i - 1) = 4) : chopQ s rs a i = i - 1 := by rw [chopQ, if_pos h4]
end
end Ent
set_option maxHeartbeats 2000000 in
set_option maxRecDepth 100000 in
theorem ref25_Chop_feed (s : ByteArray) {rs : List (List UInt8)} (hd : Utf.dec s.data.toList = some rs) {a i : Nat} (ha : a < i) (hi : i ≤ rs.length) (h4 : cl s.data.toList rs (i - 1) = 4) (h : Ent.wrong s.data.toList (Utf.off rs i : Nat) (Utf.off rs a : Nat) = 0) (hs : s.size ≤ 1000000000000) (w : World) :
    Calls Tryd.prog 15 #[.string s, .int .i64 (Utf.off rs i : Nat), .int .i64 (Utf.off rs a : Nat)] w fun e w' => e = .returned (Pst.val (Pst.mid s.data.toList (Utf.off rs (chopQ s.data.toList rs a i)) (Utf.off rs i) [], ((Utf.off rs (chopQ s.data.toList rs a i) : Nat) : Int), 0)) ∧ Below w.heap.size w w' := by
  rw [Pst.val_mk, Ent.chop_one h4]
  have c1 := fun w => ref25_wrong s (Utf.off rs i : Nat) (Utf.off rs a : Nat) hs w
  rw [h] at c1
  have C1 := Lib.hid c1
  have hl := data_len s
  obtain ⟨k, rfl⟩ : ∃ k, i = k + 1 := ⟨i - 1, by omega⟩
  rw [Nat.add_sub_cancel] at h4 ⊢
  have hkb : Utf.off rs k < s.size := by
    have e : Utf.off rs k < Utf.off rs (k + 1) := Utf.off_lt (Utf.dec_some hd).1 (Nat.lt_succ_self k) hi
    have := Utf.off_in hd (k + 1); omega
  have h10 := (Ent.cl_first (s := s.data.toList) (rs := rs) (i := k)).1 h4
  rw [byte_get s hkb] at h10
  have g10 : s[Utf.off rs k].toNat = 10 := by
    injection h10 with h10
    rw [h10]; rfl
  have c2 := fun w => ref_Prev s (Utf.off rs (k + 1) : Int) (by omega) w
  rw [Utf.prev_at hd (by omega)] at c2
  have C2 := Lib.hid c2
  have C3 := Lib.hid (fun w => ref25_without s (Utf.off rs k) (Utf.off rs (k + 1)) (by omega) (by have := Utf.off_in hd (k + 1); omega) hs w)
  clear c1 c2 h h4 h10
  generalize bs (Pst.mid s.data.toList (Utf.off rs k) (Utf.off rs (k + 1)) []) = X at *
  generalize Utf.off rs k = K at *
  generalize Utf.off rs (k + 1) = I at *
  generalize Utf.off rs a = A at *
  clear hd hi ha hl
  have hB := Below.refl w.heap.size w
  go_enter Tryd.func15, Tryd.ntmps15
  go_wp2_with (first
    | (go_at_call 30; (with_reducible refine (C1.out _).mono ?_); rintro e u ⟨rfl, hbn⟩; replace hB := hB.trans (hbn.mono hB.size); clear hbn)
    | (go_at_call 32; (with_reducible refine (C2.out _).mono ?_); rintro e u ⟨rfl, hbn⟩; replace hB := hB.trans (hbn.mono hB.size); clear hbn)
    | (go_at_call 31; (with_reducible refine (C3.out _).mono ?_); rintro e u ⟨rfl, hbn⟩; replace hB := hB.trans (hbn.mono hB.size); clear hbn))
  go_ret3
  exact ⟨rfl, hB⟩
set_option maxHeartbeats 4000000 in
set_option maxRecDepth 100000 in
theorem ref25_Chop_runes (s : ByteArray) {rs : List (List UInt8)} (hd : Utf.dec s.data.toList = some rs) {a i : Nat} (ha : a < i) (hi : i ≤ rs.length) (h4 : cl s.data.toList rs (i - 1) ≠ 4) (h : Ent.wrong s.data.toList (Utf.off rs i : Nat) (Utf.off rs a : Nat) = 0) (hs : s.size ≤ 1000000000000) (w : World) :
    Calls Tryd.prog 15 #[.string s, .int .i64 (Utf.off rs i : Nat), .int .i64 (Utf.off rs a : Nat)] w fun e w' => e = .returned (Pst.val (Pst.mid s.data.toList (Utf.off rs (chopQ s.data.toList rs a i)) (Utf.off rs i) [], ((Utf.off rs (chopQ s.data.toList rs a i) : Nat) : Int), 0)) ∧ Below w.heap.size w w' := by
  rw [Pst.val_mk]
  have c1 := fun w => ref25_wrong s (Utf.off rs i : Nat) (Utf.off rs a : Nat) hs w
  rw [h] at c1
  have C1 := Lib.hid c1
  have hl := data_len s
  have Q1 := Lib.hid (fun h => Ent.chop_from (a := a) h4 h)
  have Q2 := Lib.hid (fun j h hj => Ent.chop_feed (a := a) (j := j) h4 h hj)
  have Q3 := Lib.hid (fun j h hj => Ent.chop_runes (a := a) (j := j) h4 h hj)
  have PV : Hid (∀ j, j < rs.length → ∀ w, Calls Tryd.prog 32 #[.string s, .int .i64 (Utf.off rs (j + 1) : Nat)] w fun e w' => e = .returned (.int .i64 (Utf.off rs j : Nat)) ∧ Below w.heap.size w w') := fun j hj w => by
    have := ref_Prev s (Utf.off rs (j + 1) : Int) (by omega) w
    rw [Utf.prev_at hd hj] at this
    exact this
  have OF : Hid (∀ j, j < rs.length → ∀ w, Calls Tryd.prog 34 #[.string s, .int .i64 (Utf.off rs j : Nat), .bool false] w fun e w' => e = .returned (.int .i64 (cl s.data.toList rs j : Nat)) ∧ Below w.heap.size w w') := fun j hj w => by
    have := ref5_Of s (Utf.off rs j : Int) false (by omega) w
    rw [Ent.cl_kind hd hj] at this
    exact this
  have WT : Hid (∀ j, j ≤ rs.length → ∀ w, Calls Tryd.prog 31 #[.string s, .int .i64 (Utf.off rs j : Nat), .int .i64 (Utf.off rs i : Nat)] w fun e w' => e = .returned (.tuple #[.string (bs (Pst.mid s.data.toList (Utf.off rs j) (Utf.off rs i) [])), .int .i64 (Utf.off rs j : Nat), .int .i64 0]) ∧ Below w.heap.size w w') := fun j hj w =>
    ref25_without s (Utf.off rs j) (Utf.off rs i) (by have := Utf.off_in hd j; omega) (by have := Utf.off_in hd i; omega) hs w
  have LT : Hid (∀ j k, j < k → k ≤ rs.length → Utf.off rs j < Utf.off rs k) := fun j k h1 h2 => Utf.off_lt (Utf.dec_some hd).1 h1 h2
  obtain ⟨n, rfl⟩ : ∃ n, i = n + 1 := ⟨i - 1, by omega⟩
  rw [Nat.add_sub_cancel] at h4
  have hkb : Utf.off rs n < s.size := by
    have e := LT.out n (n + 1) (by omega) hi
    have := Utf.off_in hd (n + 1); omega
  have h10 := Ent.cl_first (s := s.data.toList) (rs := rs) (i := n)
  rw [byte_get s hkb] at h10
  have g10 : s[Utf.off rs n].toNat ≠ 10 := fun e => h4 (h10.2 (by rw [show s[Utf.off rs n] = 10 from UInt8.toNat_inj.1 (by rw [e]; rfl)]))
  have g11 : ((s[Utf.off rs n].toNat : Int) == 10) = false := by simp; omega
  have C2 := Lib.hid (PV.out n (by omega))
  have hn : n + 1 ≤ rs.length := hi
  clear c1 h h4 h10 hd
  generalize Utf.off rs = O at *
  have hB0 := Below.refl w.heap.size w
  go_enter Tryd.func15, Tryd.ntmps15
  go_wp2_with (first
    | (go_at_call 30; (with_reducible refine (C1.out _).mono ?_); rintro e u ⟨rfl, hbn⟩; replace hB0 := hB0.trans (hbn.mono hB0.size); clear hbn)
    | (go_at_call 32; (with_reducible refine (C2.out _).mono ?_); rintro e u ⟨rfl, hbn⟩; replace hB0 := hB0.trans (hbn.mono hB0.size); clear hbn))
  go_loopw [10] (fun qv wr => ∃ k : Nat, a ≤ k ∧ k ≤ n + 1 ∧ qv = .int .i64 (O k : Nat) ∧ Hid (lef s.data.toList rs (· == 1) a (n + 1) = lef s.data.toList rs (· == 1) a k) ∧ Below w.heap.size w wr) (fun qv _ => (intOf qv).toNat)
  case atStart => exact ⟨n + 1, by omega, by omega, rfl, Lib.hid rfl, hB0⟩
  case round =>
    obtain ⟨k, hak, hkn, rfl, HK, hB⟩ := hrel
    clear hB0 C1 C2
    rcases Nat.eq_or_lt_of_le hak with e | hlt
    · subst e
      have HQ : Hid (chopQ s.data.toList rs a (n + 1) = a) := Q1.out (HK.out.trans (Ent.lef_stay (Nat.le_refl _)))
      have WJ := Lib.hid (WT.out a (by omega))
      clear Q1 Q2 Q3 PV OF WT LT HK
      go_wp2_with (first
        | (go_at_call 31; (with_reducible refine (WJ.out _).mono ?_); rintro e u ⟨rfl, hbn⟩; replace hB := hB.trans (hbn.mono hB.size); clear hbn))
      go_ret3
      exact ⟨by rw [HQ.out]; rfl, hB⟩
    · obtain ⟨j, rfl⟩ : ∃ j, k = j + 1 := ⟨k - 1, by omega⟩
      have PJ := Lib.hid (PV.out j (by omega))
      have OJ := Lib.hid (OF.out j (by omega))
      have g1 : (O a : Int) < (O (j + 1) : Int) := by have := LT.out a (j + 1) (by omega) (by omega); omega
      have g2 := LT.out j (j + 1) (by omega) (by omega)
      by_cases h1 : cl s.data.toList rs j = 1
      · have HJ : Hid (lef s.data.toList rs (· == 1) a (n + 1) = lef s.data.toList rs (· == 1) a j) := HK.out.trans (Ent.lef_yes (by omega) (by rw [h1]; rfl))
        rw [h1] at OJ
        clear Q1 Q2 Q3 PV OF WT LT HK h1
        go_wp2_with (first
          | (go_at_call 32; (with_reducible refine (PJ.out _).mono ?_); rintro e u ⟨rfl, hbn⟩; replace hB := hB.trans (hbn.mono hB.size); clear hbn)
          | (go_at_call 34; (with_reducible refine (OJ.out _).mono ?_); rintro e u ⟨rfl, hbn⟩; replace hB := hB.trans (hbn.mono hB.size); clear hbn))
        go_roundw
        case rel => exact ⟨j, by omega, by omega, rfl, HJ, hB⟩
        case measure => simp [intOf]; omega
      · have HJ : Hid (lef s.data.toList rs (· == 1) a (n + 1) = j + 1) := HK.out.trans (Ent.lef_no (by simpa using h1))
        have g3 : ((cl s.data.toList rs j : Int) == 1) = false := by simp; omega
        have F4 : Hid (cl s.data.toList rs j = 4 → chopQ s.data.toList rs a (n + 1) = j + 1) := Q2.out j HJ.out
        have F5 : Hid (cl s.data.toList rs j ≠ 4 → chopQ s.data.toList rs a (n + 1) = lef s.data.toList rs (· == cl s.data.toList rs j) a (j + 1)) := Q3.out j HJ.out
        clear Q1 Q2 Q3 HK HJ h1
        generalize cl s.data.toList rs j = c at *
        go_wp2_with (first
          | (go_at_call 32; (with_reducible refine (PJ.out _).mono ?_); rintro e u ⟨rfl, hbn⟩; replace hB := hB.trans (hbn.mono hB.size); clear hbn)
          | (go_at_call 34; (with_reducible refine (OJ.out _).mono ?_); rintro e u ⟨rfl, hbn⟩; replace hB := hB.trans (hbn.mono hB.size); clear hbn))
        have hB0 := hB
        clear hB PJ OJ
        go_loopw [10] (fun qv wq => ∃ k : Nat, a ≤ k ∧ k ≤ j + 1 ∧ qv = .int .i64 (O k : Nat) ∧ Hid (lef s.data.toList rs (· == c) a (j + 1) = lef s.data.toList rs (· == c) a k) ∧ Hid (c = 4 → k = j + 1) ∧ Below w.heap.size w wq) (fun qv _ => (intOf qv).toNat)
        case atStart => exact ⟨j + 1, by omega, by omega, rfl, Lib.hid rfl, Lib.hid (fun _ => rfl), hB0⟩
        case round =>
          obtain ⟨k, hak2, hkj, rfl, HK, H4, hB⟩ := hrel
          clear hB0
          by_cases h4 : c = 4
          · obtain rfl := H4.out h4
            have HQ : Hid (chopQ s.data.toList rs a (n + 1) = j + 1) := F4.out h4
            have WJ := Lib.hid (WT.out (j + 1) (by omega))
            subst h4
            clear F4 F5 PV OF WT LT HK H4
            go_wp2_with (first
              | (go_at_call 31; (with_reducible refine (WJ.out _).mono ?_); rintro e u ⟨rfl, hbn⟩; replace hB := hB.trans (hbn.mono hB.size); clear hbn))
            go_ret3
            exact ⟨by rw [HQ.out]; rfl, hB⟩
          · have HC := Lib.hid (F5.out h4)
            have g4 : ((c : Int) != 4) = true := by simp; omega
            clear F4 F5 H4 h4
            rcases Nat.eq_or_lt_of_le hak2 with e | hlt2
            · subst e
              have HQ : Hid (chopQ s.data.toList rs a (n + 1) = a) := HC.out.trans (HK.out.trans (Ent.lef_stay (Nat.le_refl _)))
              have WJ := Lib.hid (WT.out a (by omega))
              clear PV OF WT LT HK HC
              go_wp2_with (first
                | (go_at_call 31; (with_reducible refine (WJ.out _).mono ?_); rintro e u ⟨rfl, hbn⟩; replace hB := hB.trans (hbn.mono hB.size); clear hbn))
              go_ret3
              exact ⟨by rw [HQ.out]; rfl, hB⟩
            · obtain ⟨m, rfl⟩ : ∃ m, k = m + 1 := ⟨k - 1, by omega⟩
              have PM := Lib.hid (PV.out m (by omega))
              have OM := Lib.hid (OF.out m (by omega))
              have g5 : (O a : Int) < (O (m + 1) : Int) := by have := LT.out a (m + 1) (by omega) (by omega); omega
              have g6 := LT.out m (m + 1) (by omega) (by omega)
              by_cases h1 : cl s.data.toList rs m = c
              · have HJ : Hid (lef s.data.toList rs (· == c) a (j + 1) = lef s.data.toList rs (· == c) a m) := HK.out.trans (Ent.lef_yes (by omega) (by rw [h1]; simp))
                have HN : Hid (c = 4 → m = j + 1) := fun e => by subst e; simp at g4
                rw [h1] at OM
                clear PV OF WT LT HK HC h1
                go_wp2_with (first
                  | (go_at_call 32; (with_reducible refine (PM.out _).mono ?_); rintro e u ⟨rfl, hbn⟩; replace hB := hB.trans (hbn.mono hB.size); clear hbn)
                  | (go_at_call 34; (with_reducible refine (OM.out _).mono ?_); rintro e u ⟨rfl, hbn⟩; replace hB := hB.trans (hbn.mono hB.size); clear hbn))
                go_roundw
                case rel => exact ⟨m, by omega, by omega, rfl, HJ, HN, hB⟩
                case measure => simp [intOf]; omega
              · have HQ : Hid (chopQ s.data.toList rs a (n + 1) = m + 1) := HC.out.trans (HK.out.trans (Ent.lef_no (by simpa using h1)))
                have g7 : ((cl s.data.toList rs m : Int) == (c : Int)) = false := by simp; omega
                have WJ := Lib.hid (WT.out (m + 1) (by omega))
                clear PV OF WT LT HK HC h1
                go_wp2_with (first
                  | (go_at_call 32; (with_reducible refine (PM.out _).mono ?_); rintro e u ⟨rfl, hbn⟩; replace hB := hB.trans (hbn.mono hB.size); clear hbn)
                  | (go_at_call 34; (with_reducible refine (OM.out _).mono ?_); rintro e u ⟨rfl, hbn⟩; replace hB := hB.trans (hbn.mono hB.size); clear hbn)
                  | (go_at_call 31; (with_reducible refine (WJ.out _).mono ?_); rintro e u ⟨rfl, hbn⟩; replace hB := hB.trans (hbn.mono hB.size); clear hbn))
                go_ret3
                exact ⟨by rw [HQ.out]; rfl, hB⟩
theorem ref25_Chop (s : ByteArray) (x b : Int) (hs : s.size ≤ 1000000000000) (w : World) :
    Calls Tryd.prog 15 #[.string s, .int .i64 x, .int .i64 b] w fun e w' => e = .returned (Pst.val (cut chopQ s.data.toList x b)) ∧ Below w.heap.size w w' := by
  by_cases h : Ent.wrong s.data.toList x b = 0
  · obtain ⟨rs, i, a, hd, hi, ha, rfl, rfl, hc⟩ := Ent.right_cut chopQ h
    rw [hc]
    by_cases h4 : cl s.data.toList rs (i - 1) = 4
    · exact ref25_Chop_feed s hd ha hi h4 h hs w
    · exact ref25_Chop_runes s hd ha hi h4 h hs w
  · obtain ⟨h1, h2⟩ := Ent.wrong_cut chopQ h
    rw [h1]
    exact ref25_Chop_wrong s x b _ h2 rfl hs w
end Go.Proofs.YtdclopfhffjkfaaDoor
/-
  Package entry: what was typed, again.
-/
namespace Go.Proofs.YtdclopfhffjkfaaDoor
open Go.RowKit
namespace Ent
open Utf (place valid)
theorem repeat_reps (l : List UInt8) (n : Nat) : Lib.repeatL l n = Pst.reps n l := by
  induction n with
  | zero => rfl
  | succ n ih => rw [Lib.repeatL, ih]; rfl
theorem again_no {s : List UInt8} {p b n : Int} (h : ¬ (place s p = true ∧ place s b = true ∧ b ≤ p)) : again s p b n = Pst.no 1 := by rw [again, if_neg h]
theorem again_typ {s : List UInt8} {p b : Int} (n : Int) (hp : place s p = true) (hb : place s b = true) (h : b ≤ p) : again s p b n = typ s p (Pst.reps (more n) (Line.seg s b.toNat p.toNat)) := by
  obtain ⟨i, rfl, hi⟩ := Line.place_nat hp
  obtain ⟨j, rfl, hj⟩ := Line.place_nat hb
  have hv : valid (Pst.reps (more n) (Line.seg s j i)) = true := Pst.valid_reps (Opr.seg_valid hb hp (by omega))
  rw [again, if_pos ⟨hp, hb, h⟩]
  simp only [Int.toNat_natCast]
  rw [typ_yes hp hv, Pst.reps_length, Int.toNat_natCast]
theorem again_room {s : List UInt8} {p b n : Int} (hp : place s p = true) (hb : place s b = true) (h : b ≤ p) (hr : 4096 < more n * (Line.seg s b.toNat p.toNat).length) : again s p b n = Pst.no 8 := by
  rw [again, if_pos ⟨hp, hb, h⟩, if_neg (by omega)]
/-- Is there room for so many? -/
theorem room_div {z m : Nat} (hm : 1 ≤ m) : (4096 : Int) / (m : Int) < (z : Int) ↔ 4096 < m * z := by
  rw [Int.ediv_lt_iff_lt_mul (by omega), ← Int.natCast_mul, Nat.mul_comm]
  omega
end Ent
/-- strings.Repeat. -/
theorem repeat_reps (s : ByteArray) (c : Nat) (hc : c ≤ 9223372036854775807) (h : s.size * c ≤ 140737488355328) (w : World) :
    Calls Tryd.prog 27 #[.string s, .int .i64 c] w fun e w' => e = .returned (.string (bs (Pst.reps c s.data.toList))) ∧ Below w.heap.size w w' := by
  have := Tryd.strings_Repeat s c w hc h
  rw [Ent.repeat_reps] at this
  exact this
set_option maxHeartbeats 1000000 in
set_option maxRecDepth 100000 in
theorem entry_Again_no1 (s : ByteArray) (x b n : Int) (h : Utf.place s.data.toList x = false) (hs : s.size ≤ 1000000000000) (w : World) :
    Calls Tryd.prog 10 #[.string s, .int .i64 x, .int .i64 b, .int .i64 n] w fun e w' => e = .returned (.tuple #[.string ⟨#[]⟩, .int .i64 0, .int .i64 1]) ∧ Below w.heap.size w w' := by
  have c1 := Lib.hid (utf_Place s x (by omega))
  rw [h] at c1
  clear h
  go_enter Tryd.func10, Tryd.ntmps10
  go_wp2_with (go_at_call 21; (with_reducible refine (c1.out _).mono ?_); rintro e w1 ⟨rfl, rfl⟩)
  go_ret3
  exact ⟨rfl, Below.refl _ _⟩
set_option maxHeartbeats 1000000 in
set_option maxRecDepth 100000 in
theorem entry_Again_no2 (s : ByteArray) (x b n : Int) (h1 : Utf.place s.data.toList x = true) (h : Utf.place s.data.toList b = false) (hs : s.size ≤ 1000000000000) (w : World) :
    Calls Tryd.prog 10 #[.string s, .int .i64 x, .int .i64 b, .int .i64 n] w fun e w' => e = .returned (.tuple #[.string ⟨#[]⟩, .int .i64 0, .int .i64 1]) ∧ Below w.heap.size w w' := by
  have c1 := Lib.hid (utf_Place s x (by omega))
  have c2 := Lib.hid (utf_Place s b (by omega))
  rw [h1] at c1
  rw [h] at c2
  clear h h1
  go_enter Tryd.func10, Tryd.ntmps10
  go_wp2_with (first
    | (go_at_call 21; (with_reducible refine (c1.out _).mono ?_); rintro e w1 ⟨rfl, rfl⟩)
    | (go_at_call 21; (with_reducible refine (c2.out _).mono ?_); rintro e w1 ⟨rfl, rfl⟩))
  go_ret3
  exact ⟨rfl, Below.refl _ _⟩
set_option maxHeartbeats 1000000 in
set_option maxRecDepth 100000 in
theorem entry_Again_no3 (s : ByteArray) (x b n : Int) (h1 : Utf.place s.data.toList x = true) (h2 : Utf.place s.data.toList b = true) (h : x < b) (hs : s.size ≤ 1000000000000) (w : World) :
    Calls Tryd.prog 10 #[.string s, .int .i64 x, .int .i64 b, .int .i64 n] w fun e w' => e = .returned (.tuple #[.string ⟨#[]⟩, .int .i64 0, .int .i64 1]) ∧ Below w.heap.size w w' := by
  have c1 := Lib.hid (utf_Place s x (by omega))
  have c2 := Lib.hid (utf_Place s b (by omega))
  rw [h1] at c1
  rw [h2] at c2
  clear h1 h2
  go_enter Tryd.func10, Tryd.ntmps10
  go_wp2_with (first
    | (go_at_call 21; (with_reducible refine (c1.out _).mono ?_); rintro e w1 ⟨rfl, rfl⟩)
    | (go_at_call 21; (with_reducible refine (c2.out _).mono ?_); rintro e w1 ⟨rfl, rfl⟩))
  go_ret3
  exact ⟨rfl, Below.refl _ _⟩
set_option maxHeartbeats 2000000 in
set_option maxRecDepth 100000 in
theorem entry_Again_room (s : ByteArray) (i j : Nat) (n : Int) (m : Nat) (hm : max n 1 - 1 = (m : Int)) (h1 : Utf.place s.data.toList (i : Int) = true) (h2 : Utf.place s.data.toList (j : Int) = true) (h : j ≤ i) (hi : i ≤ s.size) (hm1 : 1 ≤ m) (hm2 : m ≤ 9223372036854775807) (hr : 4096 < m * (i - j)) (hs : s.size ≤ 1000000000000) (w : World) :
    Calls Tryd.prog 10 #[.string s, .int .i64 i, .int .i64 j, .int .i64 n] w fun e w' => e = .returned (.tuple #[.string ⟨#[]⟩, .int .i64 0, .int .i64 8]) ∧ Below w.heap.size w w' := by
  have c1 := Lib.hid (utf_Place s (i : Int) (by omega))
  have c2 := Lib.hid (utf_Place s (j : Int) (by omega))
  rw [h1] at c1
  rw [h2] at c2
  have e1 := ext_seg s j i
  have hl := data_len s
  have hz : (bs (Line.seg s.data.toList j i)).size = i - j := by
    rw [bs_size, Line.seg, List.length_drop, List.length_take]; omega
  have hd := (Ent.room_div hm1 (z := i - j)).2 hr
  generalize bs (Line.seg s.data.toList j i) = Y at *
  have g1 : (j : Int) ≤ (i : Int) := by omega
  have g2 : (i : Int) ≤ (s.size : Int) := by omega
  clear h1 h2 hl hr
  go_enter Tryd.func10, Tryd.ntmps10
  go_wp2_with (first
    | (go_at_call 21; (with_reducible refine (c1.out _).mono ?_); rintro e w1 ⟨rfl, rfl⟩)
    | (go_at_call 21; (with_reducible refine (c2.out _).mono ?_); rintro e w1 ⟨rfl, rfl⟩))
  go_ret3
  exact ⟨rfl, Below.refl _ _⟩
set_option maxHeartbeats 2000000 in
set_option maxRecDepth 100000 in
theorem entry_Again_ok (s : ByteArray) (i j : Nat) (n : Int) (m : Nat) (hm : max n 1 - 1 = (m : Int)) (hm2 : m ≤ 9223372036854775807) (h1 : Utf.place s.data.toList (i : Int) = true) (h2 : Utf.place s.data.toList (j : Int) = true) (h : j ≤ i) (hi : i ≤ s.size) (hr : m * (i - j) ≤ 4096) (hs : s.size ≤ 1000000000000) (w : World) :
    Calls Tryd.prog 10 #[.string s, .int .i64 i, .int .i64 j, .int .i64 n] w fun e w' => e = .returned (Pst.val (Ent.typ s.data.toList (i : Int) (Pst.reps m (Line.seg s.data.toList j i)))) ∧ Below w.heap.size w w' := by
  have c1 := Lib.hid (utf_Place s (i : Int) (by omega))
  have c2 := Lib.hid (utf_Place s (j : Int) (by omega))
  rw [h1] at c1
  rw [h2] at c2
  have e1 := ext_seg s j i
  have hl := data_len s
  have hz : (bs (Line.seg s.data.toList j i)).size = i - j := by
    rw [bs_size, Line.seg, List.length_drop, List.length_take]; omega
  have c3 := Lib.hid (fun w => repeat_reps (bs (Line.seg s.data.toList j i)) m hm2 (by rw [hz, Nat.mul_comm]; omega) w)
  rw [bs_toList] at c3
  have hzr : (bs (Pst.reps m (Line.seg s.data.toList j i))).size ≤ 4096 := by
    rw [bs_size, Pst.reps_length, ← bs_size, hz]; exact hr
  have c4 := Lib.hid (fun w => entry_Type s (i : Int) (bs (Pst.reps m (Line.seg s.data.toList j i))) hs (by omega) w)
  rw [bs_toList, Pst.val] at c4
  rw [Pst.val]
  generalize bs (Ent.typ s.data.toList (i : Int) (Pst.reps m (Line.seg s.data.toList j i))).1 = R at *
  generalize (Ent.typ s.data.toList (i : Int) (Pst.reps m (Line.seg s.data.toList j i))).2.1 = R1 at *
  generalize (Ent.typ s.data.toList (i : Int) (Pst.reps m (Line.seg s.data.toList j i))).2.2 = R2 at *
  generalize bs (Pst.reps m (Line.seg s.data.toList j i)) = Z at *
  have hd := fun (h0 : 1 ≤ m) => mt (Ent.room_div h0 (z := i - j)).1 (by omega)
  generalize bs (Line.seg s.data.toList j i) = Y at *
  have g1 : (j : Int) ≤ (i : Int) := by omega
  have g2 : (i : Int) ≤ (s.size : Int) := by omega
  clear h1 h2 hl hr hzr
  rcases Nat.eq_zero_or_pos m with h0 | h0
  · subst h0
    clear hd
    have c3 : Hid (∀ w, Calls Tryd.prog 27 #[.string Y, .int .i64 0] w fun e w' => e = .returned (.string Z) ∧ Below w.heap.size w w') := c3
    go_enter Tryd.func10, Tryd.ntmps10
    go_wp2_with (first
      | (go_at_call 21; (with_reducible refine (c1.out _).mono ?_); rintro e w1 ⟨rfl, rfl⟩)
      | (go_at_call 21; (with_reducible refine (c2.out _).mono ?_); rintro e w1 ⟨rfl, rfl⟩)
      | (go_at_call 27; (with_reducible refine (c3.out _).mono ?_); rintro e w1 ⟨rfl, hb⟩)
      | (go_at_call 8; (with_reducible refine (c4.out _).mono ?_); rintro e w2 ⟨rfl, hb2⟩))
    go_ret3
    exact ⟨rfl, hb.trans (hb2.mono hb.size)⟩
  · have hd2 := hd h0
    clear hd
    go_enter Tryd.func10, Tryd.ntmps10
    go_wp2_with (first
      | (go_at_call 21; (with_reducible refine (c1.out _).mono ?_); rintro e w1 ⟨rfl, rfl⟩)
      | (go_at_call 21; (with_reducible refine (c2.out _).mono ?_); rintro e w1 ⟨rfl, rfl⟩)
      | (go_at_call 27; (with_reducible refine (c3.out _).mono ?_); rintro e w1 ⟨rfl, hb⟩)
      | (go_at_call 8; (with_reducible refine (c4.out _).mono ?_); rintro e w2 ⟨rfl, hb2⟩))
    go_ret3
    exact ⟨rfl, hb.trans (hb2.mono hb.size)⟩
theorem entry_Again (s : ByteArray) (x b n : Int) (hn : n ≤ 9223372036854775807) (hs : s.size ≤ 1000000000000) (w : World) :
    Calls Tryd.prog 10 #[.string s, .int .i64 x, .int .i64 b, .int .i64 n] w fun e w' => e = .returned (Pst.val (Ent.again s.data.toList x b n)) ∧ Below w.heap.size w w' := by
  cases h1 : Utf.place s.data.toList x with
  | false => rw [Ent.again_no (by simp [h1])]; exact entry_Again_no1 s x b n h1 hs w
  | true =>
    cases h2 : Utf.place s.data.toList b with
    | false => rw [Ent.again_no (by simp [h2])]; exact entry_Again_no2 s x b n h1 h2 hs w
    | true =>
      by_cases h3 : b ≤ x
      · obtain ⟨i, rfl, hi⟩ := Line.place_nat h1
        obtain ⟨j, rfl, hj⟩ := Line.place_nat h2
        have hl := data_len s
        have hm := Ent.more_int n
        have hlen : (Line.seg s.data.toList j i).length = i - j := by rw [Line.seg, List.length_drop, List.length_take]; omega
        by_cases hr : Ent.more n * (i - j) ≤ 4096
        · rw [Ent.again_typ n h1 h2 h3, Int.toNat_natCast, Int.toNat_natCast]
          exact entry_Again_ok s i j n (Ent.more n) hm.symm (by omega) h1 h2 (by omega) (by omega) hr hs w
        · have h0 : 1 ≤ Ent.more n := by
            rcases Nat.eq_zero_or_pos (Ent.more n) with h | h
            · rw [h, Nat.zero_mul] at hr; omega
            · exact h
          rw [Ent.again_room h1 h2 h3 (by rw [Int.toNat_natCast, Int.toNat_natCast, hlen]; omega)]
          exact entry_Again_room s i j n (Ent.more n) hm.symm h1 h2 (by omega) (by omega) h0 (by omega) (by omega) hs w
      · rw [Ent.again_no (by simp [h3])]
        exact entry_Again_no3 s x b n h1 h2 (by omega) hs w
end Go.Proofs.YtdclopfhffjkfaaDoor
/-
  The document's answer: what was typed, put in again and again.
-/
namespace Go.Proofs.YtdclopfhffjkfaaDoor
open Go.RowKit
namespace Ent
/-- One more behind so many. -/
theorem mid_more {s x : List UInt8} {p m : Nat} (hp : p ≤ s.length) :
    (Pst.mid s p p (Pst.reps m x)).take (p + m * x.length) ++ x ++ (Pst.mid s p p (Pst.reps m x)).drop (p + m * x.length) = Pst.mid s p p (Pst.reps (m + 1) x) := by
  have h1 : (s.take p ++ Pst.reps m x).length = p + m * x.length := by rw [List.length_append, List.length_take, Pst.reps_length, Nat.min_eq_left hp]
  have e : Pst.mid s p p (Pst.reps m x) = (s.take p ++ Pst.reps m x) ++ s.drop p := by rw [Pst.mid, List.append_assoc]
  rw [e, List.take_left' h1, List.drop_left' h1, Pst.mid, Pst.reps_snoc]
  simp only [List.append_assoc]
theorem reps_none (n : Nat) : Pst.reps n [] = [] := by
  induction n with
  | zero => rfl
  | succ n ih => rw [Pst.reps_succ, ih]; rfl
theorem mid_nothing (s : List UInt8) (p n : Nat) : Pst.mid s p p (Pst.reps n []) = s := by rw [reps_none, mid_none]
theorem again_fits {s : List UInt8} {i j : Nat} {n : Int} (hp : Utf.place s (i : Int) = true) (hb : Utf.place s (j : Int) = true) (h : j ≤ i) (hr : s.length + more n * (Line.seg s j i).length ≤ 4096) : again s (i : Int) (j : Int) n = (Pst.mid s i i (Pst.reps (more n) (Line.seg s j i)), ((i + more n * (Line.seg s j i).length : Nat) : Int), 0) := by
  rw [again, if_pos ⟨hp, hb, by omega⟩]
  simp only [Int.toNat_natCast]
  rw [if_pos hr]
  simp
theorem again_over {s : List UInt8} {i j : Nat} {n : Int} (hp : Utf.place s (i : Int) = true) (hb : Utf.place s (j : Int) = true) (h : j ≤ i) (hr : 4096 < s.length + more n * (Line.seg s j i).length) : again s (i : Int) (j : Int) n = Pst.no 8 := by
  rw [again, if_pos ⟨hp, hb, by omega⟩]
  simp only [Int.toNat_natCast]
  rw [if_neg (by omega)]
end Ent
set_option maxHeartbeats 1000000 in
set_option maxRecDepth 100000 in
theorem ref25_Again_no1 (s : ByteArray) (x b n : Int) (h1 : Utf.place s.data.toList x = false) (hs : s.size ≤ 1000000000000) (w : World) :
    Calls Tryd.prog 11 #[.string s, .int .i64 x, .int .i64 b, .int .i64 n] w fun e w' => e = .returned (.tuple #[.string ⟨#[]⟩, .int .i64 0, .int .i64 1]) ∧ Below w.heap.size w w' := by
  have c1 := fun w => ref_Place s x (by omega) w
  rw [h1] at c1
  have C1 := Lib.hid c1
  clear c1 h1
  have hB := Below.refl w.heap.size w
  go_enter Tryd.func11, Tryd.ntmps11
  go_wp2_with (first
    | (go_at_call 25; (with_reducible refine (C1.out _).mono ?_); rintro e u ⟨rfl, hbn⟩; replace hB := hB.trans (hbn.mono hB.size); clear hbn))
  go_ret3
  exact ⟨rfl, hB⟩
set_option maxHeartbeats 1000000 in
set_option maxRecDepth 100000 in
theorem ref25_Again_no2 (s : ByteArray) (x b n : Int) (h1 : Utf.place s.data.toList x = true) (h2 : Utf.place s.data.toList b = false) (hs : s.size ≤ 1000000000000) (w : World) :
    Calls Tryd.prog 11 #[.string s, .int .i64 x, .int .i64 b, .int .i64 n] w fun e w' => e = .returned (.tuple #[.string ⟨#[]⟩, .int .i64 0, .int .i64 1]) ∧ Below w.heap.size w w' := by
  have c1 := fun w => ref_Place s x (by omega) w
  rw [h1] at c1
  have C1 := Lib.hid c1
  have c2 := fun w => ref_Place s b (by omega) w
  rw [h2] at c2
  have C2 := Lib.hid c2
  clear c1 h1 c2 h2
  have hB := Below.refl w.heap.size w
  go_enter Tryd.func11, Tryd.ntmps11
  go_wp2_with (first
    | (go_at_call 25; (with_reducible refine (C1.out _).mono ?_); rintro e u ⟨rfl, hbn⟩; replace hB := hB.trans (hbn.mono hB.size); clear hbn)
    | (go_at_call 25; (with_reducible refine (C2.out _).mono ?_); rintro e u ⟨rfl, hbn⟩; replace hB := hB.trans (hbn.mono hB.size); clear hbn))
  go_ret3
  exact ⟨rfl, hB⟩
set_option maxHeartbeats 1000000 in
set_option maxRecDepth 100000 in
theorem ref25_Again_no3 (s : ByteArray) (x b n : Int) (h1 : Utf.place s.data.toList x = true) (h2 : Utf.place s.data.toList b = true) (h : x < b) (hs : s.size ≤ 1000000000000) (w : World) :
    Calls Tryd.prog 11 #[.string s, .int .i64 x, .int .i64 b, .int .i64 n] w fun e w' => e = .returned (.tuple #[.string ⟨#[]⟩, .int .i64 0, .int .i64 1]) ∧ Below w.heap.size w w' := by
  have c1 := fun w => ref_Place s x (by omega) w
  rw [h1] at c1
  have C1 := Lib.hid c1
  have c2 := fun w => ref_Place s b (by omega) w
  rw [h2] at c2
  have C2 := Lib.hid c2
  clear c1 h1 c2 h2
  have hB := Below.refl w.heap.size w
  go_enter Tryd.func11, Tryd.ntmps11
  go_wp2_with (first
    | (go_at_call 25; (with_reducible refine (C1.out _).mono ?_); rintro e u ⟨rfl, hbn⟩; replace hB := hB.trans (hbn.mono hB.size); clear hbn)
    | (go_at_call 25; (with_reducible refine (C2.out _).mono ?_); rintro e u ⟨rfl, hbn⟩; replace hB := hB.trans (hbn.mono hB.size); clear hbn))
  go_ret3
  exact ⟨rfl, hB⟩
set_option maxHeartbeats 4000000 in
set_option maxRecDepth 100000 in
theorem ref25_Again_ok (s : ByteArray) (i j : Nat) (n : Int) (hn : n ≤ 9223372036854775807) (h1 : Utf.place s.data.toList (i : Int) = true) (h2 : Utf.place s.data.toList (j : Int) = true) (h : j ≤ i) (hi : i ≤ s.size) (hs : s.size ≤ 4096) (w : World) :
    Calls Tryd.prog 11 #[.string s, .int .i64 i, .int .i64 j, .int .i64 n] w fun e w' => e = .returned (Pst.val (Ent.again s.data.toList (i : Int) (j : Int) n)) ∧ Below w.heap.size w w' := by
  have c1 := fun w => ref_Place s (i : Int) (by omega) w
  rw [h1] at c1
  have C1 := Lib.hid c1
  have c2 := fun w => ref_Place s (j : Int) (by omega) w
  rw [h2] at c2
  have C2 := Lib.hid c2
  have hl := data_len s
  have hm := Ent.more_int n
  have AF := Lib.hid (fun hr => Ent.again_fits (n := n) h1 h2 h hr)
  have AO := Lib.hid (fun hr => Ent.again_over (n := n) h1 h2 h hr)
  have hlen : (Line.seg s.data.toList j i).length = i - j := by rw [Line.seg, List.length_drop, List.length_take]; omega
  have ML := Lib.hid (fun m => Pst.mid_length (s := s.data.toList) (Pst.reps m (Line.seg s.data.toList j i)) (Nat.le_refl i) (by omega))
  have MM := Lib.hid (fun m => Ent.mid_more (s := s.data.toList) (x := Line.seg s.data.toList j i) (p := i) (m := m) (by omega))
  have MN := Lib.hid (fun p n => Ent.mid_nothing s.data.toList p n)
  have M0 : Hid (Pst.mid s.data.toList i i (Pst.reps 0 (Line.seg s.data.toList j i)) = s.data.toList) := by show _ = _; rw [Pst.reps, Ent.mid_none]
  have RL := Lib.hid (fun m => Pst.reps_length m (Line.seg s.data.toList j i))
  have e1 := ext_seg s j i
  have hsd := bs_data s
  have g1 : (j : Int) ≤ (i : Int) := by omega
  have g2 : (i : Int) ≤ (s.size : Int) := by omega
  generalize Line.seg s.data.toList j i = Y at *
  generalize Ent.more n = M at *
  generalize Ent.again s.data.toList (i : Int) (j : Int) n = R at *
  have hM : ∀ m : Nat, (m : Int) + 1 < n → m < M := fun m h => by omega
  have hM2 : ∀ m : Nat, m ≤ M → ¬ ((m : Int) + 1 < n) → m = M := fun m h1 h2 => by omega
  have HM := Lib.hid hM
  have HM2 := Lib.hid hM2
  clear hM hM2 hm c1 c2 h1 h2
  have hyz : (bs Y).size = i - j := by rw [bs_size]; exact hlen
  rw [← hlen] at hyz
  have hyl : Y.length ≤ 4096 := by omega
  clear hlen
  have g0 : decide (i < j) = false := by simp; omega
  have hB0 := Below.refl w.heap.size w
  go_enter Tryd.func11, Tryd.ntmps11
  go_wp2_with (first
    | (go_at_call 25; (with_reducible refine (C1.out _).mono ?_); rintro e u ⟨rfl, hbn⟩; replace hB0 := hB0.trans (hbn.mono hB0.size); clear hbn)
    | (go_at_call 25; (with_reducible refine (C2.out _).mono ?_); rintro e u ⟨rfl, hbn⟩; replace hB0 := hB0.trans (hbn.mono hB0.size); clear hbn))
  clear C1 C2
  go_loopw [0, 1, 12] (fun tv pv iv wr => ∃ m : Nat, m ≤ M ∧ tv = .string (bs (Pst.mid s.data.toList i i (Pst.reps m Y))) ∧ pv = .int .i64 ((i + m * Y.length : Nat) : Int) ∧ iv = .int .i64 ((m + 1 : Nat) : Int) ∧ Hid (s.size + m * Y.length ≤ 4096) ∧ Below w.heap.size w wr) (fun _ _ iv _ => M + 1 - (intOf iv).toNat)
  case atStart => exact ⟨0, Nat.zero_le _, by rw [M0.out, hsd], by simp, rfl, Lib.hid (by simpa using hs), hB0⟩
  case round =>
    obtain ⟨m, hmM, rfl, rfl, rfl, HR, hB⟩ := hrel
    clear hB0
    by_cases hlt : n ≤ (m : Int) + 1
    · have hlt2 : ¬ ((m + 1 : Nat) : Int) < n := by omega
      have e : m = M := HM2.out m hmM (by omega)
      subst e
      have HE := Lib.hid (AF.out (by rw [hl]; exact HR.out))
      clear AF AO ML MM MN M0 RL HM HM2 HR
      go_wp2
      go_ret3
      exact ⟨by rw [HE.out]; rfl, hB⟩
    · have hlt2 : ((m + 1 : Nat) : Int) < n := by omega
      by_cases hY : Y = []
      · have gE : (bs Y).toList.isEmpty = true := by rw [hY, bs_tl]; rfl
        have HE := Lib.hid (AF.out (by rw [hY, hl]; simpa using hs))
        have HT : Hid (bs (Pst.mid s.data.toList i i (Pst.reps m Y)) = bs (Pst.mid s.data.toList i i (Pst.reps M Y)) ∧ i + m * Y.length = i + M * Y.length) := by
          subst hY
          exact ⟨by rw [MN.out, MN.out], by simp⟩
        clear AF AO ML MM MN M0 RL HM HM2 HR hY
        go_wp2
        go_ret3
        exact ⟨by rw [HE.out, Pst.val_mk, ← HT.out.1, ← HT.out.2]; rfl, hB⟩
      · have gE : (bs Y).toList.isEmpty = false := by rw [bs_tl]; simpa using hY
        have hY1 : 1 ≤ Y.length := by
          cases Y with
          | nil => exact absurd rfl hY
          | cons b t => simp
        have hmM1 : m + 1 ≤ M := HM.out m (by omega)
        have hR := HR.out
        have hml := ML.out m
        have hml1 := ML.out (m + 1)
        rw [RL.out] at hml hml1
        have hsucc : (m + 1) * Y.length = m * Y.length + Y.length := Nat.succ_mul m Y.length
        have hMle : (m + 1) * Y.length ≤ M * Y.length := Nat.mul_le_mul_right _ hmM1
        have AO1 : Hid (4096 < s.size + (m + 1) * Y.length → R = Pst.no 8) := fun h => AO.out (by rw [hl]; omega)
        have e2 := Ent.ext_to (bs (Pst.mid s.data.toList i i (Pst.reps m Y))) (i + m * Y.length)
        have e3 := Ent.ext_from (bs (Pst.mid s.data.toList i i (Pst.reps m Y))) (i + m * Y.length)
        rw [bs_toList] at e2 e3
        have e4 : bs ((Pst.mid s.data.toList i i (Pst.reps m Y)).take (i + m * Y.length)) ++ bs Y = bs ((Pst.mid s.data.toList i i (Pst.reps m Y)).take (i + m * Y.length) ++ Y) := bs_append _ _
        have e5 : bs ((Pst.mid s.data.toList i i (Pst.reps m Y)).take (i + m * Y.length) ++ Y) ++ bs ((Pst.mid s.data.toList i i (Pst.reps m Y)).drop (i + m * Y.length)) = bs (Pst.mid s.data.toList i i (Pst.reps (m + 1) Y)) := by rw [bs_append, MM.out]
        have z1 : (bs ((Pst.mid s.data.toList i i (Pst.reps m Y)).take (i + m * Y.length))).size ≤ 4096 := by rw [bs_size, List.length_take]; omega
        have z2 : (bs ((Pst.mid s.data.toList i i (Pst.reps m Y)).drop (i + m * Y.length))).size ≤ 4096 := by rw [bs_size, List.length_drop]; omega
        have z3 : (bs ((Pst.mid s.data.toList i i (Pst.reps m Y)).take (i + m * Y.length) ++ Y)).size ≤ 8192 := by rw [bs_size, List.length_append, List.length_take]; omega
        have z4 : (bs (Pst.mid s.data.toList i i (Pst.reps (m + 1) Y))).size = s.size + (m + 1) * Y.length := by rw [bs_size]; omega
        have z5 : (bs (Pst.mid s.data.toList i i (Pst.reps m Y))).size = s.size + m * Y.length := by rw [bs_size]; omega
        have gP : ((i + m * Y.length : Nat) : Int) + (Y.length : Int) = ((i + (m + 1) * Y.length : Nat) : Int) := by omega
        have gQ : ((i + m * Y.length : Nat) : Int) ≤ ((bs (Pst.mid s.data.toList i i (Pst.reps m Y))).size : Int) := by rw [z5]; omega
        have gR : ((i + (m + 1) * Y.length : Nat) : Int) ≤ 100000 := by omega
        obtain ⟨T', hT'⟩ : ∃ T', bs (Pst.mid s.data.toList i i (Pst.reps (m + 1) Y)) = T' := ⟨_, rfl⟩
        obtain ⟨P', hP'⟩ : ∃ P', i + (m + 1) * Y.length = P' := ⟨_, rfl⟩
        rw [hT'] at e5 z4
        rw [hP'] at gP gR
        have HT := Lib.hid hT'
        have HP := Lib.hid hP'
        clear hT' hP' ML MM MN M0 RL AF AO HM HM2 hml hml1 HR hMle
        generalize bs ((Pst.mid s.data.toList i i (Pst.reps m Y)).take (i + m * Y.length) ++ Y) = G at *
        generalize bs ((Pst.mid s.data.toList i i (Pst.reps m Y)).take (i + m * Y.length)) = B1 at *
        generalize bs ((Pst.mid s.data.toList i i (Pst.reps m Y)).drop (i + m * Y.length)) = B2 at *
        generalize bs (Pst.mid s.data.toList i i (Pst.reps m Y)) = T at *
        have hP0 : (0 : Int) ≤ ((i + m * Y.length : Nat) : Int) := by omega
        have hV : (bs Y).size ≤ 4096 := by omega
        generalize i + m * Y.length = P at *
        generalize bs Y = V at *
        have k1 : ¬ 9223372036854775807 < B1.size + V.size := by omega
        have k2 : ¬ 9223372036854775807 < G.size + B2.size := by omega
        by_cases hov : 4096 < s.size + (m + 1) * Y.length
        · have HE := Lib.hid (AO1.out hov)
          have k3 : (4096 : Int) < (T'.size : Int) := by omega
          clear AO1 z1 z2 z3 z4 z5 hov hR hsucc
          go_wp2
          go_region
          all_goals go_wp2
          all_goals go_ret3
          all_goals exact ⟨by rw [HE.out]; rfl, by first | exact hB | exact hB.drew⟩
        · have HR' : Hid (s.size + (m + 1) * Y.length ≤ 4096) := by show _ ≤ _; omega
          have k3 : ¬ (4096 : Int) < (T'.size : Int) := by omega
          clear AO1 z1 z2 z3 z4 z5 hov hR hsucc
          go_wp2
          go_region
          all_goals go_wp2
          all_goals go_roundw
          case rel => exact ⟨m + 1, hmM1, by rw [HT.out], by rw [HP.out], by go_num, HR', by first | exact hB | exact hB.drew⟩
          case measure => simp [intOf]; omega
theorem ref25_Again (s : ByteArray) (x b n : Int) (hn : n ≤ 9223372036854775807) (hs : s.size ≤ 4096) (w : World) :
    Calls Tryd.prog 11 #[.string s, .int .i64 x, .int .i64 b, .int .i64 n] w fun e w' => e = .returned (Pst.val (Ent.again s.data.toList x b n)) ∧ Below w.heap.size w w' := by
  cases h1 : Utf.place s.data.toList x with
  | false => rw [Ent.again_no (by simp [h1])]; exact ref25_Again_no1 s x b n h1 (by omega) w
  | true =>
    cases h2 : Utf.place s.data.toList b with
    | false => rw [Ent.again_no (by simp [h2])]; exact ref25_Again_no2 s x b n h1 h2 (by omega) w
    | true =>
      by_cases h3 : b ≤ x
      · obtain ⟨i, rfl, hi⟩ := Line.place_nat h1
        obtain ⟨j, rfl, hj⟩ := Line.place_nat h2
        have hl := data_len s
        exact ref25_Again_ok s i j n hn h1 h2 (by omega) (by omega) hs w
      · rw [Ent.again_no (by simp [h3])]
        exact ref25_Again_no3 s x b n h1 h2 (by omega) (by omega) w
end Go.Proofs.YtdclopfhffjkfaaDoor
