/-
  What package utf tells of a first byte, of the second one, and of the rune that bytes begin with, or begin.
-/
import Derived.Test.YtlfhfpjffdaomaaDoorUtf
namespace Go.Proofs.YtlfhfpjffdaomaaDoor
open Go.RowKit
set_option maxRecDepth 100000 in
theorem utf_length_at (a : Nat) {k : Nat} (h : (244 < a ∧ k = 0) ∨ (240 ≤ a ∧ a ≤ 244 ∧ k = 4) ∨ (224 ≤ a ∧ a < 240 ∧ k = 3) ∨ (194 ≤ a ∧ a < 224 ∧ k = 2) ∨ (128 ≤ a ∧ a < 194 ∧ k = 0) ∨ (a < 128 ∧ k = 1)) (w : World) :
    Calls Tryd.prog 78 #[.int .u8 a] w fun e w' => e = .returned (.int .i64 k) ∧ w = w' := by
  rcases h with ⟨h, rfl⟩ | ⟨h, h', rfl⟩ | ⟨h, h', rfl⟩ | ⟨h, h', rfl⟩ | ⟨h, h', rfl⟩ | ⟨h, rfl⟩ <;>
  · go_enter Tryd.func78, Tryd.ntmps78
    go_wp2
    go_ret
    exact ⟨rfl, rfl⟩
theorem utf_length (a : Nat) (w : World) :
    Calls Tryd.prog 78 #[.int .u8 a] w fun e w' => e = .returned (.int .i64 (Utf.len a : Nat)) ∧ w = w' := by
  refine utf_length_at a ?_ w
  unfold Utf.len
  split <;> (try split) <;> (try split) <;> (try split) <;> (try split) <;> omega
theorem utf_second_at (a : Nat) {k m : Nat} (h : (a = 224 ∧ k = 160 ∧ m = 191) ∨ (a = 237 ∧ k = 128 ∧ m = 159) ∨ (a = 240 ∧ k = 144 ∧ m = 191) ∨ (a = 244 ∧ k = 128 ∧ m = 143) ∨ (a ≠ 224 ∧ a ≠ 237 ∧ a ≠ 240 ∧ a ≠ 244 ∧ k = 128 ∧ m = 191)) (w : World) :
    Calls Tryd.prog 79 #[.int .u8 a] w fun e w' => e = .returned (.tuple #[.int .u8 k, .int .u8 m]) ∧ w = w' := by
  rcases h with ⟨rfl, rfl, rfl⟩ | ⟨rfl, rfl, rfl⟩ | ⟨rfl, rfl, rfl⟩ | ⟨rfl, rfl, rfl⟩ | ⟨h1, h2, h3, h4, rfl, rfl⟩
  iterate 4
    · go_enter Tryd.func79, Tryd.ntmps79
      go_wp2
      go_ret2
      exact ⟨rfl, rfl⟩
  · have g1 : ((a : Int) == 224) = false := by simp; omega
    have g2 : ((a : Int) == 237) = false := by simp; omega
    have g3 : ((a : Int) == 240) = false := by simp; omega
    have g4 : ((a : Int) == 244) = false := by simp; omega
    go_enter Tryd.func79, Tryd.ntmps79
    go_wp2
    go_ret2
    exact ⟨rfl, rfl⟩
theorem utf_second (a : Nat) (w : World) :
    Calls Tryd.prog 79 #[.int .u8 a] w fun e w' => e = .returned (.tuple #[.int .u8 (Utf.low a : Nat), .int .u8 (Utf.high a : Nat)]) ∧ w = w' := by
  refine utf_second_at a ?_ w
  unfold Utf.low Utf.high
  split <;> split <;> (try split) <;> (try split) <;> omega
theorem goes_bad {lo hi n : Nat} {b : UInt8} {t : List UInt8} (h : b.toNat < lo ∨ hi < b.toNat) : Utf.goes lo hi (n + 1) (b :: t) = false := by
  rw [Utf.goes]
  rcases h with h | h
  · simp [show ¬ lo ≤ b.toNat by omega]
  · simp [show ¬ b.toNat ≤ hi by omega]
theorem goes_ok {lo hi n : Nat} {b : UInt8} {t : List UInt8} (h : lo ≤ b.toNat) (h' : b.toNat ≤ hi) : Utf.goes lo hi (n + 1) (b :: t) = Utf.goes 128 191 n t := by
  rw [Utf.goes]
  simp [h, h']
theorem byte_drop (s : ByteArray) (j : Nat) (h : j < s.size) : s.data.toList.drop j = s[j] :: s.data.toList.drop (j + 1) := by
  rw [List.drop_eq_getElem_cons (by simpa using h)]
  rfl
theorem goes_end (lo hi n : Nat) : Utf.goes lo hi n [] = true := by cases n <;> rfl
theorem size_empty {s : ByteArray} (h : s.size = 0) : s = bs [] := by
  have h1 : s.data.toList = [] := List.eq_nil_of_length_eq_zero h
  rw [← bs_data s, h1]
theorem tl_empty {s : ByteArray} : s.toList.isEmpty = decide (s.size = 0) := by
  rw [← bs_data s, bs_tl, bs_size]
  cases s.data.toList <;> simp
set_option maxHeartbeats 400000 in
theorem utf_size (s : ByteArray) (hs : s.size ≤ 9223372036854775807) (w : World) :
    Calls Tryd.prog 64 #[.string s] w fun e w' => e = .returned (.int .i64 (Utf.siz s.data.toList : Nat)) ∧ w = w' := by
  have g1 := tl_empty (s := s)
  rcases Nat.eq_zero_or_pos s.size with h0 | h0
  · have H : Hid (Utf.siz s.data.toList = 0) := by show _ = _; rw [size_empty h0]; rfl
    rw [decide_eq_true h0] at g1
    go_enter Tryd.func64, Tryd.ntmps64
    go_wp2
    go_ret
    exact ⟨by rw [H.out]; rfl, rfl⟩
  · rw [decide_eq_false (by omega)] at g1
    have hb := s[0].toNat_lt
    have hn := Utf.len_le s[0].toNat
    have H : Hid (Utf.siz s.data.toList = if Utf.goes (Utf.low s[0].toNat) (Utf.high s[0].toNat) (Utf.len s[0].toNat - 1) (s.data.toList.drop 1) then Utf.len s[0].toNat else 0) := by
      show _ = _
      have := byte_drop s 0 h0
      rw [List.drop_zero] at this
      conv => lhs; rw [this]
      rw [Utf.siz_cons]
    have c1 := Lib.hid (utf_length s[0].toNat)
    have c2 := Lib.hid (utf_second s[0].toNat)
    have hlo : Utf.low s[0].toNat ≤ 255 := by unfold Utf.low; split <;> (try split) <;> omega
    have hhi : Utf.high s[0].toNat ≤ 255 := by unfold Utf.high; split <;> (try split) <;> omega
    generalize Utf.len s[0].toNat = n at *
    generalize Utf.low s[0].toNat = lo at *
    generalize Utf.high s[0].toNat = hi at *
    go_enter Tryd.func64, Tryd.ntmps64
    go_wp2_with (first | (go_at_call 78; refine (c1.out _).mono ?_; rintro e w1 ⟨rfl, rfl⟩) | (go_at_call 79; refine (c2.out _).mono ?_; rintro e w1 ⟨rfl, rfl⟩))
    go_loop [4, 5, 6] (fun x y i => ∃ j p q : Nat, 1 ≤ j ∧ (j ≤ n ∨ j = 1) ∧ p ≤ 255 ∧ q ≤ 255 ∧ i = .int .i64 j ∧ x = .int .u8 p ∧ y = .int .u8 q ∧ Hid (Utf.siz s.data.toList = if Utf.goes p q (n - j) (s.data.toList.drop j) then n else 0)) (fun _ _ i => n - (intOf i).toNat)
    case atStart => exact ⟨1, lo, hi, by omega, by omega, hlo, hhi, rfl, rfl, rfl, H⟩
    case round =>
      obtain ⟨j, p, q, hj1, hj2, hp, hq, rfl, rfl, rfl, K⟩ := hrel
      by_cases hc : j < n ∧ j < s.size
      · have g2 : j < n := hc.1
        have g3 : j < s.size := hc.2
        have hbj := s[j].toNat_lt
        have hd := byte_drop s j g3
        by_cases hr : p ≤ s[j].toNat ∧ s[j].toNat ≤ q
        · have K2 : Hid (Utf.siz s.data.toList = if Utf.goes 128 191 (n - (j + 1)) (s.data.toList.drop (j + 1)) then n else 0) := by
            show _ = _
            rw [K.out, hd, show n - j = (n - (j + 1)) + 1 by omega, goes_ok hr.1 hr.2]
          clear K hd
          have g4 : p ≤ s[j].toNat := hr.1
          have g5 : s[j].toNat ≤ q := hr.2
          go_wp2
          all_goals go_round
          all_goals first | exact ⟨j + 1, 128, 191, by omega, by omega, by omega, by omega, by go_num, rfl, rfl, K2⟩ | (simp [intOf]; omega)
        · have K2 : Hid (Utf.siz s.data.toList = 0) := by
            show _ = _
            rw [K.out, hd, show n - j = (n - (j + 1)) + 1 by omega, goes_bad (by omega)]
            rfl
          clear K hd
          by_cases g4 : s[j].toNat < p
          · go_wp2
            all_goals (go_ret; exact ⟨by rw [K2.out]; rfl, rfl⟩)
          · have g5 : q < s[j].toNat := by omega
            go_wp2
            all_goals (go_ret; exact ⟨by rw [K2.out]; rfl, rfl⟩)
      · have K2 : Hid (Utf.siz s.data.toList = n) := by
          show _ = _
          rw [K.out]
          rcases Nat.lt_or_ge j n with h1 | h1
          · rw [List.drop_eq_nil_of_le (by simp; omega), goes_end]; rfl
          · rw [show n - j = 0 by omega]; rfl
        clear K
        have g2 : ¬ ((j : Int) < (if s.size < n then (s.size : Int) else n)) := by split <;> omega
        go_wp2
        all_goals (go_ret; exact ⟨by rw [K2.out]; rfl, rfl⟩)
end Go.Proofs.YtlfhfpjffdaomaaDoor
