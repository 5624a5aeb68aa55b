/-
  Two lists that are the same are told to be the same.
-/
import Derived.Test.YtpgonbibekffhaaInts
namespace Go.Proofs.Ytpgonbibekffhaa
open Go.RowKit
set_option maxHeartbeats 800000 in
theorem ref_same {A B : Option Addr} {c d : Nat} {xs : List Int} {w : World} (ha : Ints w A xs) (hb : Ints w B xs) (hl : xs.length ≤ 9223372036854775807) :
    Calls Try.prog 7 #[.slice A xs.length c, .slice B xs.length d] w fun x w' => x = .returned (.bool true) ∧ w.grownBy w' none := by
  go_enter Try.func7, Try.ntmps7
  go_wp2
  go_loopw [5] (fun i wr => ∃ k : Nat, k ≤ xs.length ∧ i = .int .i64 k ∧ w.grownBy wr none) (fun i _ => xs.length - (intOf i).toNat)
  case atStart => exact ⟨0, Nat.zero_le _, rfl, World.grownBy.refl _ _⟩
  case round =>
    obtain ⟨k, hk, rfl, hG⟩ := hrel
    by_cases hlt : k < xs.length
    · obtain ⟨aa, rfl, h1⟩ := (ha.grown hG (by simp)).at_ hlt
      obtain ⟨bb, rfl, h2⟩ := (hb.grown hG (by simp)).at_ hlt
      clear ha hb
      go_wp2
      go_quiet (fail)
      go_wp2
      exact ⟨⟨k + 1, by omega, by go_num, gb_trans hG (gb_drewN _ _ _)⟩, by simp [intOf]; omega⟩
    · go_wp2
      go_ret
      exact ⟨rfl, hG⟩
end Go.Proofs.Ytpgonbibekffhaa
