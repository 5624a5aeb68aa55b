/-
  The document's sums of any bytes; its example, as the program tells it.
-/
import Derived.Test.YtjhdgbdnbfieiaaCrcSum
namespace Go.Proofs.Ytjhdgbdnbfieiaa
open Go.RowKit
open Crc
theorem xor_full64 {r : Nat} (h : r < 4294967296) : bits .xor .i64 (r : Int) 4294967295 = ((r ^^^ full : Nat) : Int) := i64_xor_nat r 4294967295 h (by omega)
set_option maxHeartbeats 400000 in
theorem ref_more_ok {n : Nat} (s : ByteArray) (hn : n < 4294967296) (hs : s.size ≤ 9223372036854775807) (w : World) :
    Calls Try.prog 10 #[.int .i64 n, .string s] w fun e w' => e = .returned (.int .i64 (more n s.data.toList : Nat)) ∧ w = w' := by
  have hnf : n ^^^ full < 4294967296 := Nat.xor_lt_two_pow hn full_lt
  have hxf := xor_full64 hn
  go_enter Try.func10, Try.ntmps10
  go_wp2
  clear hxf
  go_loop [5, 6] (fun x i => ∃ j : Nat, j ≤ s.size ∧ i = .int .i64 j ∧ x = .int .i64 (over (n ^^^ full) (s.data.toList.take j) : Nat)) (fun _ i => s.size - (intOf i).toNat)
  case atStart => exact ⟨0, Nat.zero_le _, rfl, by simp [over]⟩
  case round =>
    obtain ⟨j, hj, rfl, rfl⟩ := hrel
    have hX : over (n ^^^ full) (s.data.toList.take j) < 4294967296 := over_lt _ hnf
    by_cases hjl : j < s.size
    · have hb := s[j].toNat_lt
      have hx := i64_xor_nat (over (n ^^^ full) (s.data.toList.take j)) s[j].toNat hX (by omega)
      have hxl : over (n ^^^ full) (s.data.toList.take j) ^^^ s[j].toNat < 4294967296 := Nat.xor_lt_two_pow hX (byte_lt _)
      have hn' : Hid (over (n ^^^ full) (s.data.toList.take (j + 1)) = step8 (over (n ^^^ full) (s.data.toList.take j) ^^^ s[j].toNat)) := by
        show _ = _
        rw [byte_snoc s j hjl, over_snoc]
      go_wp2_with (go_at_call 20; refine (ref_step _ hxl _).mono ?_; rintro e w1 ⟨rfl, rfl⟩)
      go_round
      case rel => exact ⟨j + 1, by omega, by go_num, by rw [hn'.out]⟩
      case measure => simp [intOf]; omega
    · have hv2 : over (n ^^^ full) (s.data.toList.take j) ^^^ full < 4294967296 := Nat.xor_lt_two_pow hX full_lt
      have hxg := xor_full64 hX
      have H : Hid (more n s.data.toList = over (n ^^^ full) (s.data.toList.take j) ^^^ full) := by
        show _ = _
        rw [show s.data.toList.take j = s.data.toList from List.take_of_length_le (by simp; omega)]
        rfl
      go_wp2
      go_ret
      exact ⟨by rw [H.out]; rfl, rfl⟩
set_option maxHeartbeats 400000 in
theorem ref_more_no {n : Int} (s : ByteArray) (hn : n < 0 ∨ 4294967295 < n) (w : World) :
    Calls Try.prog 10 #[.int .i64 n, .string s] w fun e w' => e = .returned (.int .i64 0) ∧ w = w' := by
  by_cases h : n < 0
  · have g1 : decide (n < 0) = true := by simpa using h
    go_enter Try.func10, Try.ntmps10
    go_wp2
    go_ret
    exact ⟨rfl, rfl⟩
  · have g1 : decide (n < 0) = false := by simpa using h
    have g2 : 4294967295 < n := by omega
    go_enter Try.func10, Try.ntmps10
    go_wp2
    go_ret
    exact ⟨rfl, rfl⟩
set_option maxHeartbeats 400000 in
theorem ref_sum (s : ByteArray) (hs : s.size ≤ 9223372036854775807) (w : World) :
    Calls Try.prog 8 #[.string s] w fun e w' => e = .returned (.int .i64 (Crc.sum s.data.toList : Nat)) ∧ w = w' := by
  have h := ref_more_ok (n := 0) s (by omega) hs w
  have h' : Calls Try.prog 10 #[.int .i64 0, .string s] w fun e w' => e = .returned (.int .i64 (Crc.sum s.data.toList : Nat)) ∧ w = w' := h
  go_enter Try.func8, Try.ntmps8
  go_wp2_with (go_at_call 10; refine h'.mono ?_; rintro e w1 ⟨rfl, rfl⟩)
  go_ret
  exact ⟨rfl, rfl⟩
theorem crc_sum_one (s : ByteArray) (hs : s.size ≤ 9223372036854775807) {w : World} {g c : Nat} (hg : Strs w (some ⟨g, 0, none⟩) [s]) :
    Calls Try.prog 7 #[.slice (some ⟨g, 0, none⟩) 1 c] w fun e w' => e = .returned (.int .i64 (Crc.sum s.data.toList : Nat)) ∧ Below w.heap.size w w' := by
  have := crc_sum hg (by simp) (by simpa using hs) (c := c)
  rw [flat_one] at this
  exact this
theorem sample_sum : Crc.sum (flat [⟨#[49, 50, 51, 52]⟩, ⟨#[53, 54, 55, 56, 57]⟩]) = 3421780262 := by decide +kernel
set_option maxHeartbeats 400000 in
theorem crc_lives (w : World) :
    Calls Try.prog 14 #[] w fun e w' => e = .returned (.bool true) ∧ Below w.heap.size w w' := by
  have h := crc_sum (strs_two w ⟨#[49, 50, 51, 52]⟩ ⟨#[53, 54, 55, 56, 57]⟩) (by simp) (by intro s hs; simp at hs; rcases hs with rfl | rfl <;> decide) (c := 2)
  rw [sample_sum] at h
  go_enter Try.func14, Try.ntmps14
  go_wp2_with (go_at_call 7; refine h.mono ?_; rintro e w1 ⟨rfl, hb⟩)
  go_ret
  exact ⟨rfl, ((Below.refl _ _).alloc (Nat.le_refl _) _).trans (hb.mono (by simp))⟩
end Go.Proofs.Ytjhdgbdnbfieiaa
