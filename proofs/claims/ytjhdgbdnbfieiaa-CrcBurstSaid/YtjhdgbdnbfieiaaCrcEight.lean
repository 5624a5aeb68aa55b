/-
  Eight steps of a register, as the program and as the document takes them.
-/
import Derived.Test.YtjhdgbdnbfieiaaBase
import Derived.Test.YtjhdgbdnbfieiaaCrcPlain
import Derived.Laws.BitsAllLaws
namespace Go.Proofs.Ytjhdgbdnbfieiaa
open Go.RowKit
open Crc
theorem steps_succ : ∀ (k r : Nat), steps (k + 1) r = step1 (steps k r)
  | 0, _ => rfl
  | k + 1, r => by rw [steps, steps_succ k]; rfl
theorem i64_xor_nat (a b : Nat) (ha : a < 4294967296) (hb : b < 4294967296) : bits .xor .i64 (a : Int) (b : Int) = ((a ^^^ b : Nat) : Int) := by
  have hx : a ^^^ b < 2 ^ 32 := Nat.xor_lt_two_pow (by omega) (by omega)
  have h1 : (BitVec.ofInt 64 (a : Int)).toNat = a := by
    rw [BitVec.ofInt_natCast, BitVec.toNat_ofNat]; exact Nat.mod_eq_of_lt (by omega)
  have h2 : (BitVec.ofInt 64 (b : Int)).toNat = b := by
    rw [BitVec.ofInt_natCast, BitVec.toNat_ofNat]; exact Nat.mod_eq_of_lt (by omega)
  show IntKind.i64.wrap ((BitVec.ofInt 64 (a : Int) ^^^ BitVec.ofInt 64 (b : Int)).toNat : Int) = _
  rw [BitVec.toNat_xor, h1, h2]
  exact IntWalk.i64_in _ (by omega)
theorem step1_u32 {r : Nat} (h : r < 4294967296) : bits .xor .u32 ((r : Int) / 2) (bits .and .u32 (r : Int) 1 * 3988292384 % 4294967296) = ((step1 r : Nat) : Int) := by
  have h1 : bits .and .u32 (r : Int) 1 = ((r % 2 : Nat) : Int) := by
    have := u32_and_nat r 1 h (by omega)
    rw [Nat.and_one_is_mod] at this
    exact this
  rw [h1]
  have h2 : ((r % 2 : Nat) : Int) * 3988292384 % 4294967296 = ((r % 2 * 3988292384 : Nat) : Int) := by omega
  rw [h2, show ((r : Int) / 2) = ((r / 2 : Nat) : Int) by omega, u32_xor_nat _ _ (by omega) (by omega)]
  unfold step1
  rcases Nat.mod_two_eq_zero_or_one r with e | e
  · rw [e]; simp
  · rw [e]; simp [poly]
theorem step1_i64 {r : Nat} (h : r < 4294967296) : (if (r : Int) % 2 = 1 then bits .xor .i64 ((r : Int) / 2) 3988292384 else (r : Int) / 2) = ((step1 r : Nat) : Int) := by
  rw [show ((r : Int) / 2) = ((r / 2 : Nat) : Int) by omega]
  have := i64_xor_nat (r / 2) 3988292384 (by omega) (by omega)
  unfold step1 poly
  rcases Nat.mod_two_eq_zero_or_one r with e | e
  · rw [if_neg (by omega), if_neg (by omega)]
  · rw [if_pos (by omega), if_pos e]; exact this
set_option maxHeartbeats 400000 in
theorem crc_eight (r : Nat) (hr : r < 4294967296) (w : World) :
    Calls Try.prog 25 #[.int .u32 r] w fun e w' => e = .returned (.int .u32 (step8 r : Nat)) ∧ w = w' := by
  go_enter Try.func25, Try.ntmps25
  go_wp2
  go_loop [0, 4] (fun x i => ∃ k : Nat, k ≤ 8 ∧ i = .int .i64 k ∧ x = .int .u32 (steps k r : Nat)) (fun _ i => 8 - (intOf i).toNat)
  case atStart => exact ⟨0, Nat.zero_le _, rfl, rfl⟩
  case round =>
    obtain ⟨k, hk, rfl, rfl⟩ := hrel
    have hlt32 : steps k r < 4294967296 := steps_lt k hr
    have hsc := steps_succ k r
    by_cases hlt : k < 8
    · have hst := step1_u32 hlt32
      rw [← hsc] at hst
      have HS := Lib.hid hst
      clear hst hsc
      go_wp2
      go_round
      case rel => exact ⟨k + 1, by omega, by go_num, by rw [HS.out]⟩
      case measure => simp [intOf]; omega
    · have H : Hid (step8 r = steps k r) := by
        have : k = 8 := by omega
        subst this; rfl
      clear hsc hlt32
      go_wp2
      go_ret
      exact ⟨by rw [H.out]; rfl, rfl⟩
set_option maxHeartbeats 400000 in
theorem ref_step (r : Nat) (hr : r < 4294967296) (w : World) :
    Calls Try.prog 20 #[.int .i64 r] w fun e w' => e = .returned (.int .i64 (step8 r : Nat)) ∧ w = w' := by
  go_enter Try.func20, Try.ntmps20
  go_wp2
  go_loop [0, 3] (fun x i => ∃ k : Nat, k ≤ 8 ∧ i = .int .i64 k ∧ x = .int .i64 (steps k r : Nat)) (fun _ i => 8 - (intOf i).toNat)
  case atStart => exact ⟨0, Nat.zero_le _, rfl, rfl⟩
  case round =>
    obtain ⟨k, hk, rfl, rfl⟩ := hrel
    have hlt32 : steps k r < 4294967296 := steps_lt k hr
    have hsc := steps_succ k r
    by_cases hlt : k < 8
    · have hst := step1_i64 hlt32
      rw [← hsc] at hst
      clear hsc
      by_cases ho : ((steps k r : Nat) : Int) % 2 = 1
      · rw [if_pos ho] at hst
        have HS := Lib.hid hst
        have g1 : (((steps k r : Nat) : Int) % 2 == 1) = true := by simpa using ho
        clear hst ho
        go_wp2
        go_round
        case rel => exact ⟨k + 1, by omega, by go_num, by rw [HS.out]⟩
        case measure => simp [intOf]; omega
      · rw [if_neg ho] at hst
        have HS := Lib.hid hst
        have g1 : (((steps k r : Nat) : Int) % 2 == 1) = false := by simpa using ho
        clear hst ho
        go_wp2
        go_round
        case rel => exact ⟨k + 1, by omega, by go_num, by rw [HS.out]⟩
        case measure => simp [intOf]; omega
    · have H : Hid (step8 r = steps k r) := by
        have : k = 8 := by omega
        subst this; rfl
      clear hsc hlt32
      go_wp2
      go_ret
      exact ⟨by rw [H.out]; rfl, rfl⟩
end Go.Proofs.Ytjhdgbdnbfieiaa
