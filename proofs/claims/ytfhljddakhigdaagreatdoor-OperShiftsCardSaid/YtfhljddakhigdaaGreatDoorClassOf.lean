/-
  Package class: at, Of, Big, Lead.
-/
import Derived.LoopTactic
import Derived.Test.YtfhljddakhigdaaGreatDoorClassBytes
namespace Go.Proofs.YtfhljddakhigdaaGreatDoor
open Go.RowKit
attribute [local go_sem] Oper.semAt_some
theorem Class.lead_step {s : List UInt8} {k : Nat} (h : k < s.length) (hk : Class.plain s[k].toNat = 1) : k + Class.lead (s.drop k) = k + 1 + Class.lead (s.drop (k + 1)) := by
  rw [List.drop_eq_getElem_cons h, Class.lead, if_pos hk]; omega
theorem Class.lead_stop {s : List UInt8} {k : Nat} (h : k < s.length) (hk : Class.plain s[k].toNat ≠ 1) : k + Class.lead (s.drop k) = k := by
  rw [List.drop_eq_getElem_cons h, Class.lead, if_neg hk]; omega
theorem Class.lead_end {s : List UInt8} {k : Nat} (h : s.length ≤ k) : k + Class.lead (s.drop k) = k := by
  rw [List.drop_eq_nil_of_le h, Class.lead]; omega
set_option maxHeartbeats 400000 in
theorem class_Lead (s : ByteArray) (hs : s.size ≤ 9223372036854775807) (w : World) :
    Calls Tryz.prog 62 #[.string s] w fun e w' => e = .returned (.int .i64 (Class.lead s.data.toList : Nat)) ∧ w = w' := by
  have hl : s.data.toList.length = s.size := by simp
  go_enter Tryz.func62, Tryz.ntmps62
  go_wp2
  go_loop [3] (fun i => ∃ k : Nat, k ≤ s.size ∧ i = .int .i64 k ∧ Hid (k + Class.lead (s.data.toList.drop k) = Class.lead s.data.toList)) (fun i => s.size - (intOf i).toNat)
  case atStart => exact ⟨0, Nat.zero_le _, rfl, by show _ = _; simp⟩
  case round =>
    obtain ⟨k, hk, rfl, K⟩ := hrel
    by_cases hlt : k < s.size
    · have hb : s.data.toList[k]'(by omega) = s[k] := rfl
      have c1 := Lib.hid (class_plain s[k].toNat)
      by_cases he : Class.plain s[k].toNat = 1
      · have K2 : Hid (k + 1 + Class.lead (s.data.toList.drop (k + 1)) = Class.lead s.data.toList) := by
          show _ = _
          rw [← K.out]
          exact (Class.lead_step (s := s.data.toList) (by omega) (by rw [hb]; exact he)).symm
        rw [he] at c1
        clear K he hb hl
        go_wp2_with (go_at_call 87; refine (c1.out _).mono ?_; rintro e w1 ⟨rfl, rfl⟩)
        go_round
        case rel => exact ⟨k + 1, by omega, by go_num, K2⟩
        case measure => simp [intOf]; omega
      · have K2 : Hid (Class.lead s.data.toList = k) := by
          show _ = _
          rw [← K.out]
          exact Class.lead_stop (s := s.data.toList) (by omega) (by rw [hb]; exact he)
        have g : ((Class.plain s[k].toNat : Int) == 1) = false := by simp; omega
        clear K he hb hl
        go_wp2_with (go_at_call 87; refine (c1.out _).mono ?_; rintro e w1 ⟨rfl, rfl⟩)
        go_ret
        exact ⟨by rw [K2.out]; rfl, rfl⟩
    · have K2 : Hid (Class.lead s.data.toList = k) := by
        show _ = _
        rw [← K.out]
        exact Class.lead_end (by omega)
      clear K hl
      go_wp2
      go_ret
      exact ⟨by rw [K2.out]; rfl, rfl⟩
end Go.Proofs.YtfhljddakhigdaaGreatDoor
