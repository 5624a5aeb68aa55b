/-
  Package ex on a text's signs: its first byte among some, a byte cut off at its beginning, digits and letters that it begins with, numbers, an address, a word, a file's name.
-/
import Derived.Test.YtcddbdefdenecaaGreatDoorExWays
import Derived.Test.YtcddbdefdenecaaGreatDoorClone
import Derived.Test.YtcddbdefdenecaaGreatDoorShelf
import Derived.Lib.ConvBytes
import Derived.Shelf.Strings.SlTrimAscii
import Derived.Lib.SmallJoins
namespace Go.Proofs.YtcddbdefdenecaaGreatDoor
open Go.RowKit
namespace Ex
theorem head_at {s : ByteArray} (h : 0 < s.size) : s.data.toList.head? = some s[0] := by
  have e := byte_get s h
  cases hl : s.data.toList with
  | nil => rw [hl] at e; cases e
  | cons b t => rw [hl] at e; exact e
theorem front_one {s : ByteArray} (h : 0 < s.size) : s.extract 0 1 = ⟨#[s[0]]⟩ := by
  have e := byte_get s h
  have : (s.extract 0 1).data.toList = [s[0]] := by
    rw [Lib.extract_data]
    cases hl : s.data.toList with
    | nil => rw [hl] at e; cases e
    | cons b t => rw [hl] at e; injection e with e; rw [← e]; rfl
  rw [← bs_data (s.extract 0 1), this]; rfl
theorem tail_one (s : ByteArray) : s.extract 1 s.size = bs s.data.toList.tail := by
  have hl := data_len s
  rw [← bs_data (s.extract 1 s.size), Lib.extract_data, List.take_of_length_le (by rw [List.length_drop]; omega), List.drop_one]
theorem prefix_one (l : List UInt8) (c : UInt8) : Lib.hasPrefix l [c] = decide (l.head? = some c) := by
  unfold Lib.hasPrefix
  cases l with
  | nil => rfl
  | cons b t =>
    show (c == b && true) = decide (some b = some c)
    rw [Bool.and_true, Bool.eq_iff_iff, beq_iff_eq, decide_eq_true_eq]
    exact ⟨fun h => by rw [h], fun h => by injection h with h; exact h.symm⟩
theorem trim_hit {l : List UInt8} {c : UInt8} (h : l.head? = some c) : Lib.trimPrefix l [c] = l.tail := by
  unfold Lib.trimPrefix
  rw [prefix_one, h, decide_eq_true rfl, if_pos rfl]
  exact List.drop_one
theorem trim_miss {l : List UInt8} {c : UInt8} (h : l.head? ≠ some c) : Lib.trimPrefix l [c] = l := by
  unfold Lib.trimPrefix
  rw [prefix_one, decide_eq_false h, if_neg (by simp)]
theorem has_index (l : List UInt8) (c : UInt8) : decide (0 ≤ Lib.indexByte l c) = l.contains c := by
  induction l with
  | nil => rfl
  | cons b r ih =>
    have hge := Lib.indexByte_ge r c
    unfold Lib.indexByte
    by_cases hb : b = c
    · subst hb; simp
    · have h1 : (b == c) = false := by simpa using hb
      have h2 : (c == b) = false := by simpa using fun e => hb e.symm
      rw [List.contains_cons, h2, Bool.false_or, ← ih, h1]
      simp only [Bool.false_eq_true, if_false]
      by_cases hi : Lib.indexByte r c = -1
      · rw [hi]; rfl
      · have : (Lib.indexByte r c == -1) = false := by simpa using hi
        rw [this]
        simp only [Bool.false_eq_true, if_false]
        rw [decide_eq_decide]
        omega
end Ex
theorem str_has (T s : ByteArray) (h : 0 < s.size) (w : World) :
    Calls Tryz.prog 26 #[.string T, .string (s.extract 0 1)] w fun e w' => e = .returned (.bool (T.data.toList.contains s[0])) ∧ w = w' := by
  have C := Lib.hid (Tryz.strings_Index_one T s[0])
  have H : Hid (decide (0 ≤ Lib.indexByte T.data.toList s[0]) = T.data.toList.contains s[0]) := Ex.has_index _ _
  rw [Ex.front_one h]
  generalize Lib.indexByte T.data.toList s[0] = z at *
  go_enter Tryz.func26, Tryz.ntmps26
  go_wp2_with (go_at_call 42; refine (C.out _).mono ?_; rintro e w1 ⟨rfl, rfl⟩)
  go_ret
  exact ⟨by rw [← H.out]; rfl, rfl⟩
theorem cut_hit {s : ByteArray} {c : UInt8} (h : s.data.toList.head? = some c) (w : World) :
    Calls Tryz.prog 36 #[.string s, .string ⟨#[c]⟩] w fun e w' => e = .returned (.tuple #[.string (bs s.data.toList.tail), .bool true]) ∧ w = w' := by
  refine (Tryz.strings_CutPrefix s ⟨#[c]⟩ w).mono ?_
  rintro e w' ⟨rfl, rfl⟩
  refine ⟨?_, rfl⟩
  show _ = Ending.returned (.tuple #[.string (bs s.data.toList.tail), .bool true])
  rw [show (⟨#[c]⟩ : ByteArray).data.toList = [c] from rfl, Ex.trim_hit h, Ex.prefix_one, decide_eq_true h]; rfl
theorem cut_miss {s : ByteArray} {c : UInt8} (h : s.data.toList.head? ≠ some c) (w : World) :
    Calls Tryz.prog 36 #[.string s, .string ⟨#[c]⟩] w fun e w' => e = .returned (.tuple #[.string s, .bool false]) ∧ w = w' := by
  refine (Tryz.strings_CutPrefix s ⟨#[c]⟩ w).mono ?_
  rintro e w' ⟨rfl, rfl⟩
  refine ⟨?_, rfl⟩
  rw [show (⟨#[c]⟩ : ByteArray).data.toList = [c] from rfl, Ex.trim_miss h, Ex.prefix_one, decide_eq_false h]
theorem str_trim (s : ByteArray) (T : List UInt8) (hs : s.size ≤ 1000000000000) (hT : (bs T).size < 4294967281) (ha : T.all (fun b => decide (b.toNat < 128)) = true) (w : World) :
    Calls Tryz.prog 27 #[.string s, .string (bs T)] w fun e w' => e = .returned (.string (bs (Lib.trimS s.data.toList T))) ∧ Below w.heap.size w w' :=
  Any.strings_Trim_laid Tryz.lays160 (by kernel_rfl) s (bs T) w (by omega) hT (ascii_of_all ha)
theorem str_left (s : ByteArray) (T : List UInt8) (hT : (bs T).size < 4294967281) (ha : T.all (fun b => decide (b.toNat < 128)) = true) (w : World) :
    Calls Tryz.prog 60 #[.string s, .string (bs T)] w fun e w' => e = .returned (.string (bs (Lib.trimLeftS s.data.toList T))) ∧ Below w.heap.size w w' :=
  Any.strings_TrimLeft_laid Tryz.lays161 (by kernel_rfl) s (bs T) w hT (ascii_of_all ha)
set_option maxHeartbeats 1000000 in
/-- As many of some signs as a text begins with, and what is behind them. -/
theorem ex_lead (s : ByteArray) (T : List UInt8) (p : UInt8 → Bool) (hs : s.size ≤ 1000000000000) (hT : (bs T).size < 4294967281) (ha : T.all (fun b => decide (b.toNat < 128)) = true) (hp : Lib.trimLeftS s.data.toList T = s.data.toList.dropWhile p) (w : World) :
    Calls Tryz.prog 39 #[.string s, .string (bs T)] w fun e w' => e = .returned (.tuple #[.string (bs (s.data.toList.takeWhile p)), .string (bs (s.data.toList.dropWhile p))]) ∧ Below w.heap.size w w' := by
  have C := Lib.hid (str_left s T hT ha w)
  rw [hp] at C
  obtain ⟨h1, h2⟩ := Ex.take_while p s.data.toList
  rw [data_len] at h1 h2
  have hz : (bs (s.data.toList.dropWhile p)).size ≤ s.size := by rw [bs_size]; exact h2
  have H : Hid (s.extract 0 (s.size - (bs (s.data.toList.dropWhile p)).size) = bs (s.data.toList.takeWhile p)) := by
    show _ = _
    rw [bs_size, ← h1, Lib.extract_eq, List.drop_zero, Nat.sub_zero]; rfl
  generalize bs (s.data.toList.dropWhile p) = R at *
  generalize bs (s.data.toList.takeWhile p) = Q at *
  have hw : IntKind.i64.wrap ((s.size : Int) - (R.size : Int)) = ((s.size - R.size : Nat) : Int) := by rw [IntKind.wrap_i64]; omega
  have h0 : s.size - R.size ≤ s.size := Nat.sub_le _ _
  clear h1 h2 hp ha hT
  go_enter Tryz.func39, Tryz.ntmps39
  go_wp2_with (go_at_call 60; refine C.out.mono ?_; rintro e w1 ⟨rfl, hb⟩)
  go_ret2
  exact ⟨by rw [H.out]; rfl, hb⟩
theorem ex_digits (s : ByteArray) (hs : s.size ≤ 1000000000000) (w : World) :
    Calls Tryz.prog 39 #[.string s, .string ⟨#[48, 49, 50, 51, 52, 53, 54, 55, 56, 57]⟩] w fun e w' => e = .returned (.tuple #[.string (bs (s.data.toList.takeWhile Ex.digit)), .string (bs (s.data.toList.dropWhile Ex.digit))]) ∧ Below w.heap.size w w' :=
  ex_lead s Ex.digitsT Ex.digit hs (by rw [bs_size]; decide) (by decide) (Ex.trimLeft_digits _) w
theorem ex_letters (s : ByteArray) (hs : s.size ≤ 1000000000000) (w : World) :
    Calls Tryz.prog 39 #[.string s, .string ⟨#[97, 98, 99, 100, 101, 102, 103, 104, 105, 106, 107, 108, 109, 110, 111, 112, 113, 114, 115, 116, 117, 118, 119, 120, 121, 122]⟩] w fun e w' => e = .returned (.tuple #[.string (bs (s.data.toList.takeWhile Ex.small)), .string (bs (s.data.toList.dropWhile Ex.small))]) ∧ Below w.heap.size w w' :=
  ex_lead s Ex.lettersT Ex.small hs (by rw [bs_size]; decide) (by decide) (Ex.trimLeft_letters _) w
end Go.Proofs.YtcddbdefdenecaaGreatDoor
