/-
  What is sealed, and what is opened, as the program and as the document say it.
-/
import Derived.Test.YtjhdgbdnbfieiaaCrcRef
import Derived.Test.YtjhdgbdnbfieiaaClone
namespace Go.Proofs.Ytjhdgbdnbfieiaa
open Go.RowKit
open Crc
/-- The bytes of a sum. -/
def sum4 (n : Nat) : List UInt8 := [UInt8.ofNat (n % 256), UInt8.ofNat (n / 256 % 256), UInt8.ofNat (n / 65536 % 256), UInt8.ofNat (n / 16777216)]
/-- The bytes of the sum of bytes. -/
def tailB (l : List UInt8) : List UInt8 := sum4 (Crc.sum l)
theorem tailB_length (l : List UInt8) : (tailB l).length = 4 := rfl
set_option maxHeartbeats 400000 in
theorem crc_tail (s : ByteArray) (hs : s.size ≤ 9223372036854775807) (w : World) :
    Calls Try.prog 22 #[.string s] w fun e w' => e = .returned (.string (bs (tailB s.data.toList))) ∧ Below w.heap.size w w' := by
  have h1 := crc_sum_one s hs (strs_one w s) (c := 1)
  have hl := sum_lt s.data.toList
  have H : Hid (tailB s.data.toList = sum4 (Crc.sum s.data.toList)) := rfl
  obtain ⟨n, hn⟩ : ∃ n, n = Crc.sum s.data.toList := ⟨_, rfl⟩
  rw [← hn] at h1 H hl
  clear hn
  have hcv := fun w x0 x1 x2 x3 => run_bytes4 (P := Try.prog) w 40 9 5 x0 x1 x2 x3 Try.underlying40 Try.underlying5 Try.underlying9
  go_enter Try.func22, Try.ntmps22
  go_wp2_with (go_at_call 7; refine h1.mono ?_; rintro e w1 ⟨rfl, hb⟩)
  go_ret
  exact ⟨by rw [H.out]; rfl, (((Below.refl _ _).alloc (Nat.le_refl _) _).trans (hb.mono (by simp))).alloc (by have := hb.size; simp at this; omega) _⟩
set_option maxHeartbeats 400000 in
theorem ref_bytes (n : Nat) (hl : n < 4294967296) (w : World) :
    Calls Try.prog 24 #[.int .i64 n] w fun e w' => e = .returned (.string (bs (sum4 n))) ∧ Below w.heap.size w w' := by
  have hcv := fun x0 x1 x2 x3 => run_bytes4 (P := Try.prog) w 40 9 5 x0 x1 x2 x3 Try.underlying40 Try.underlying5 Try.underlying9
  have H : Hid (sum4 n = [UInt8.ofNat (n % 256), UInt8.ofNat (n / 256 % 256), UInt8.ofNat (n / 65536 % 256), UInt8.ofNat (n / 16777216 % 256)]) := by
    show _ = _
    unfold sum4
    rw [Nat.mod_eq_of_lt (show n / 16777216 < 256 by omega)]
  go_enter Try.func24, Try.ntmps24
  go_wp2
  go_ret
  exact ⟨by rw [H.out]; rfl, (Below.refl _ _).alloc (Nat.le_refl _) _⟩
theorem str_app (s : ByteArray) (l : List UInt8) : s ++ bs l = bs (s.data.toList ++ l) := by rw [← bs_append]; rfl
set_option maxHeartbeats 400000 in
theorem crc_seal (s : ByteArray) (hs : s.size ≤ 9223372036854775803) (w : World) :
    Calls Try.prog 17 #[.string s] w fun e w' => e = .returned (.string (bs (s.data.toList ++ tailB s.data.toList))) ∧ Below w.heap.size w w' := by
  have H := Lib.hid (str_app s (tailB s.data.toList))
  have g2 : ¬ 9223372036854775807 < s.size + (bs (tailB s.data.toList)).size := by rw [bs_size, tailB_length]; omega
  go_enter Try.func17, Try.ntmps17
  go_wp2_with (go_at_call 22; refine (crc_tail s (by omega) _).mono ?_; rintro e w1 ⟨rfl, hb⟩)
  go_ret
  exact ⟨by rw [← H.out]; rfl, hb⟩
set_option maxHeartbeats 400000 in
theorem ref_seal (s : ByteArray) (hs : s.size ≤ 9223372036854775803) (w : World) :
    Calls Try.prog 18 #[.string s] w fun e w' => e = .returned (.string (bs (s.data.toList ++ tailB s.data.toList))) ∧ Below w.heap.size w w' := by
  have H := Lib.hid (str_app s (tailB s.data.toList))
  have g2 : ¬ 9223372036854775807 < s.size + (bs (tailB s.data.toList)).size := by rw [bs_size, tailB_length]; omega
  have h1 := fun w => ref_bytes (Crc.sum s.data.toList) (sum_lt _) w
  go_enter Try.func18, Try.ntmps18
  go_wp2_with fail
  refine (ref_sum s (by omega) _).mono ?_
  rintro e w1 ⟨rfl, rfl⟩
  go_wp2_with fail
  refine (h1 _).mono ?_
  rintro e w1 ⟨rfl, hb⟩
  go_wp2
  go_ret
  exact ⟨by rw [← H.out]; rfl, hb⟩
/-- What bytes are when they are opened, and the error. -/
def openB (l : List UInt8) : List UInt8 × Int :=
  if l.length < 4 then ([], 2) else if l.drop (l.length - 4) = tailB (l.take (l.length - 4)) then (l.take (l.length - 4), 0) else ([], 4)
theorem openB_short {l : List UInt8} (h : l.length < 4) : openB l = ([], 2) := by unfold openB; rw [if_pos h]
theorem openB_ok {l : List UInt8} (h : 4 ≤ l.length) (e : l.drop (l.length - 4) = tailB (l.take (l.length - 4))) : openB l = (l.take (l.length - 4), 0) := by
  unfold openB; rw [if_neg (by omega), if_pos e]
theorem openB_no {l : List UInt8} (h : 4 ≤ l.length) (e : ¬ l.drop (l.length - 4) = tailB (l.take (l.length - 4))) : openB l = ([], 4) := by
  unfold openB; rw [if_neg (by omega), if_neg e]
set_option maxHeartbeats 400000 in
theorem crc_open (s : ByteArray) (hs : s.size ≤ 281474976710656) (w : World) :
    Calls Try.prog 15 #[.string s] w fun e w' => e = .returned (.tuple #[.string (bs (openB s.data.toList).1), .int .i64 (openB s.data.toList).2]) ∧ Below w.heap.size w w' := by
  by_cases h4 : s.size < 4
  · have H := Lib.hid (openB_short (l := s.data.toList) (by rw [data_len]; exact h4))
    go_enter Try.func15, Try.ntmps15
    go_wp2
    go_ret2
    exact ⟨by rw [H.out]; rfl, Below.refl _ _⟩
  · have e0 : ((s.size : Int) - 4).toNat = s.size - 4 := by omega
    have e1 : s.extract 0 (s.size - 4) = bs (s.data.toList.take (s.size - 4)) := by
      rw [Lib.extract_eq]; simp [bs]
    have e2 : s.extract (s.size - 4) s.size = bs (s.data.toList.drop (s.size - 4)) := by
      rw [Lib.extract_eq]
      have : (s.data.toList.drop (s.size - 4)).take (s.size - (s.size - 4)) = s.data.toList.drop (s.size - 4) := List.take_of_length_le (by rw [List.length_drop, data_len]; exact Nat.le_refl _)
      rw [this]; rfl
    have h5 : (bs (s.data.toList.take (s.size - 4))).size ≤ 281474976710656 := by rw [bs_size, List.length_take]; omega
    have h6 := fun w => crc_tail (bs (s.data.toList.take (s.size - 4))) (by omega) w
    rw [bs_toList] at h6
    have h4' : 4 ≤ s.data.toList.length := by rw [data_len]; omega
    by_cases hq : s.data.toList.drop (s.size - 4) = tailB (s.data.toList.take (s.size - 4))
    · have H := Lib.hid (openB_ok h4' (by rw [data_len]; exact hq))
      have g : (!(bs (List.drop (s.size - 4) s.data.toList)).toList == (bs (tailB (s.data.toList.take (s.size - 4)))).toList) = false := by rw [← hq]; simp
      clear hq
      rw [data_len] at H
      have H6 := Lib.hid h6
      clear h6
      go_enter Try.func15, Try.ntmps15
      go_wp2
      go_region_with (go_at_call 22; refine (H6.out _).mono ?_; rintro e w1 ⟨rfl, hb⟩)
      all_goals
        go_wp2_with (go_at_call 23; refine (str_clone _ _ h5).mono ?_; rintro e w2 ⟨rfl, hb2⟩)
        go_ret2
        exact ⟨by rw [H.out]; rfl, (((Below.refl _ w).drew).trans hb).trans (hb2.mono hb.size)⟩
    · have H := Lib.hid (openB_no h4' (by rw [data_len]; exact hq))
      have g : (!(bs (List.drop (s.size - 4) s.data.toList)).toList == (bs (tailB (s.data.toList.take (s.size - 4)))).toList) = true := by rw [bs_tl, bs_tl]; simpa using hq
      clear hq
      have H6 := Lib.hid h6
      clear h6
      go_enter Try.func15, Try.ntmps15
      go_wp2
      go_region_with (go_at_call 22; refine (H6.out _).mono ?_; rintro e w1 ⟨rfl, hb⟩)
      all_goals
        go_wp2
        go_ret2
        exact ⟨by rw [H.out]; rfl, ((Below.refl _ w).drew).trans hb⟩
set_option maxHeartbeats 800000 in
theorem ref_open (s : ByteArray) (hs : s.size ≤ 281474976710656) (w : World) :
    Calls Try.prog 16 #[.string s] w fun e w' => e = .returned (.tuple #[.string (bs (openB s.data.toList).1), .int .i64 (openB s.data.toList).2]) ∧ Below w.heap.size w w' := by
  by_cases h4 : s.size < 4
  · have H := Lib.hid (openB_short (l := s.data.toList) (by rw [data_len]; exact h4))
    go_enter Try.func16, Try.ntmps16
    go_wp2
    go_ret2
    exact ⟨by rw [H.out]; rfl, Below.refl _ _⟩
  · have e0 : ((s.size : Int) - 4).toNat = s.size - 4 := by omega
    have e1 : s.extract 0 (s.size - 4) = bs (s.data.toList.take (s.size - 4)) := by
      rw [Lib.extract_eq]; simp [bs]
    have h5 : (bs (s.data.toList.take (s.size - 4))).size ≤ 281474976710656 := by rw [bs_size, List.length_take]; omega
    have h6 := fun w => ref_seal (bs (s.data.toList.take (s.size - 4))) (by omega) w
    rw [bs_toList] at h6
    have h4' : 4 ≤ s.data.toList.length := by rw [data_len]; omega
    have hcut : s.data.toList = s.data.toList.take (s.size - 4) ++ s.data.toList.drop (s.size - 4) := (List.take_append_drop _ _).symm
    by_cases hq : s.data.toList.drop (s.size - 4) = tailB (s.data.toList.take (s.size - 4))
    · have H := Lib.hid (openB_ok h4' (by rw [data_len]; exact hq))
      have g : (!(bs (s.data.toList.take (s.size - 4) ++ tailB (s.data.toList.take (s.size - 4)))).toList == s.toList) = false := by
        rw [← hq, List.take_append_drop, bs_data]; simp
      clear hq hcut
      rw [data_len] at H
      have H6 := Lib.hid h6
      clear h6
      go_enter Try.func16, Try.ntmps16
      go_wp2_with (go_at_call 18; refine (H6.out _).mono ?_; rintro e w1 ⟨rfl, hb⟩)
      go_ret2
      exact ⟨by rw [H.out]; rfl, hb⟩
    · have H := Lib.hid (openB_no h4' (by rw [data_len]; exact hq))
      have g : (!(bs (s.data.toList.take (s.size - 4) ++ tailB (s.data.toList.take (s.size - 4)))).toList == s.toList) = true := by
        have hne : s.data.toList.take (s.size - 4) ++ tailB (s.data.toList.take (s.size - 4)) ≠ s.data.toList := by
          intro h
          rw [hcut] at h
          simp only [List.take_append_drop] at h
          have h2 : s.data.toList.take (s.size - 4) ++ tailB (s.data.toList.take (s.size - 4)) = s.data.toList.take (s.size - 4) ++ s.data.toList.drop (s.size - 4) := h.trans hcut
          exact hq (List.append_cancel_left h2).symm
        rw [bs_tl]
        have : s.toList = s.data.toList := by have := bs_tl s.data.toList; rw [bs_data] at this; exact this
        rw [this]
        simpa using hne
      clear hq hcut
      have H6 := Lib.hid h6
      clear h6
      go_enter Try.func16, Try.ntmps16
      go_wp2_with (go_at_call 18; refine (H6.out _).mono ?_; rintro e w1 ⟨rfl, hb⟩)
      go_ret2
      exact ⟨by rw [H.out]; rfl, hb⟩
end Go.Proofs.Ytjhdgbdnbfieiaa
