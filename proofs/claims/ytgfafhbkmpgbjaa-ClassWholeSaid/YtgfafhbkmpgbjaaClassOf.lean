/-
  Package class: at, Of, Big, Lead.
-/
import Derived.LoopTactic
import Derived.Test.YtgfafhbkmpgbjaaClassBytes
namespace Go.Proofs.Ytgfafhbkmpgbjaa
open Go.RowKit
attribute [local go_sem] Oper.semAt_some
/-- What tells the class of a byte, as a value. -/
def telling (big : Bool) : Value := match big with | true => .func (.func 26) #[] #[] | false => .func (.func 25) #[] #[]
theorem telling_true : telling true = .func (.func 26) #[] #[] := rfl
theorem telling_false : telling false = .func (.func 25) #[] #[] := rfl
theorem class_at (s : ByteArray) (x : Int) (big : Bool) (hs : s.size ≤ 9223372036854775807) (w : World) :
    Calls Try.prog 27 #[.string s, .int .i64 x, telling big] w fun e w' => e = .returned (.int .i64 (Class.kind s.data.toList x big : Nat)) ∧ w = w' := by
  have hl : s.data.toList.length = s.size := by simp
  have c1 := Lib.hid (utf_Next s x hs)
  by_cases hn : Utf.next s.data.toList x < 0
  · have H : Hid (Class.kind s.data.toList x big = 0) := Class.kind_none hn big
    generalize Utf.next s.data.toList x = z at *
    generalize telling big = tl
    go_enter Try.func27, Try.ntmps27
    go_wp2_with (go_at_call 23; refine (c1.out _).mono ?_; rintro e w1 ⟨rfl, rfl⟩)
    go_ret
    exact ⟨by rw [H.out]; rfl, rfl⟩
  · obtain ⟨rs, i, hd, hi, rfl⟩ := Class.next_place hn
    have hk := Class.kind_at hd hi big
    have hlt : Utf.off rs i < s.size := by have := Class.off_below hd hi; omega
    rw [Class.at_some (byte_get s hlt)] at hk
    have H := Lib.hid hk
    clear hk hd hi
    have hz : 0 ≤ Utf.next s.data.toList (Utf.off rs i : Int) := by omega
    clear hn
    generalize Utf.next s.data.toList (Utf.off rs i : Int) = z at *
    generalize Class.kind s.data.toList (Utf.off rs i : Int) big = m at *
    generalize Utf.off rs i = y at *
    cases big
    · have c2 := Lib.hid (class_plain s[y].toNat)
      rw [telling_false]
      go_enter Try.func27, Try.ntmps27
      go_wp2_with (first | (go_at_call 23; refine (c1.out _).mono ?_; rintro e w1 ⟨rfl, rfl⟩) | (go_at_call 25; refine (c2.out _).mono ?_; rintro e w1 ⟨rfl, rfl⟩))
      go_ret
      exact ⟨by rw [H.out]; rfl, rfl⟩
    · have c2 := Lib.hid (class_great s[y].toNat)
      rw [telling_true]
      go_enter Try.func27, Try.ntmps27
      go_wp2_with (first | (go_at_call 23; refine (c1.out _).mono ?_; rintro e w1 ⟨rfl, rfl⟩) | (go_at_call 26; refine (c2.out _).mono ?_; rintro e w1 ⟨rfl, rfl⟩))
      go_ret
      exact ⟨by rw [H.out]; rfl, rfl⟩
theorem class_Of (s : ByteArray) (x : Int) (hs : s.size ≤ 9223372036854775807) (w : World) :
    Calls Try.prog 10 #[.string s, .int .i64 x] w fun e w' => e = .returned (.int .i64 (Class.kind s.data.toList x false : Nat)) ∧ w = w' := by
  have c1 := Lib.hid (class_at s x false hs)
  rw [telling_false] at c1
  generalize Class.kind s.data.toList x false = m at *
  go_enter Try.func10, Try.ntmps10
  go_wp2_with (go_at_call 27; refine (c1.out _).mono ?_; rintro e w1 ⟨rfl, rfl⟩)
  go_ret
  exact ⟨rfl, rfl⟩
theorem class_Big (s : ByteArray) (x : Int) (hs : s.size ≤ 9223372036854775807) (w : World) :
    Calls Try.prog 12 #[.string s, .int .i64 x] w fun e w' => e = .returned (.int .i64 (Class.kind s.data.toList x true : Nat)) ∧ w = w' := by
  have c1 := Lib.hid (class_at s x true hs)
  rw [telling_true] at c1
  generalize Class.kind s.data.toList x true = m at *
  go_enter Try.func12, Try.ntmps12
  go_wp2_with (go_at_call 27; refine (c1.out _).mono ?_; rintro e w1 ⟨rfl, rfl⟩)
  go_ret
  exact ⟨rfl, rfl⟩
theorem Class.lead_step {s : List UInt8} {k : Nat} (h : k < s.length) (hk : Class.plain s[k].toNat = 1) : k + Class.lead (s.drop k) = k + 1 + Class.lead (s.drop (k + 1)) := by
  rw [List.drop_eq_getElem_cons h, Class.lead, if_pos hk]; omega
theorem Class.lead_stop {s : List UInt8} {k : Nat} (h : k < s.length) (hk : Class.plain s[k].toNat ≠ 1) : k + Class.lead (s.drop k) = k := by
  rw [List.drop_eq_getElem_cons h, Class.lead, if_neg hk]; omega
theorem Class.lead_end {s : List UInt8} {k : Nat} (h : s.length ≤ k) : k + Class.lead (s.drop k) = k := by
  rw [List.drop_eq_nil_of_le h, Class.lead]; omega
set_option maxHeartbeats 400000 in
theorem class_Lead (s : ByteArray) (hs : s.size ≤ 9223372036854775807) (w : World) :
    Calls Try.prog 19 #[.string s] w fun e w' => e = .returned (.int .i64 (Class.lead s.data.toList : Nat)) ∧ w = w' := by
  have hl : s.data.toList.length = s.size := by simp
  go_enter Try.func19, Try.ntmps19
  go_wp2
  go_loop [3] (fun i => ∃ k : Nat, k ≤ s.size ∧ i = .int .i64 k ∧ Hid (k + Class.lead (s.data.toList.drop k) = Class.lead s.data.toList)) (fun i => s.size - (intOf i).toNat)
  case atStart => exact ⟨0, Nat.zero_le _, rfl, by show _ = _; simp⟩
  case round =>
    obtain ⟨k, hk, rfl, K⟩ := hrel
    by_cases hlt : k < s.size
    · have hb : s.data.toList[k]'(by omega) = s[k] := rfl
      have c1 := Lib.hid (class_plain s[k].toNat)
      by_cases he : Class.plain s[k].toNat = 1
      · have K2 : Hid (k + 1 + Class.lead (s.data.toList.drop (k + 1)) = Class.lead s.data.toList) := by
          show _ = _
          rw [← K.out]
          exact (Class.lead_step (s := s.data.toList) (by omega) (by rw [hb]; exact he)).symm
        rw [he] at c1
        clear K he hb hl
        go_wp2_with (go_at_call 25; refine (c1.out _).mono ?_; rintro e w1 ⟨rfl, rfl⟩)
        go_round
        case rel => exact ⟨k + 1, by omega, by go_num, K2⟩
        case measure => simp [intOf]; omega
      · have K2 : Hid (Class.lead s.data.toList = k) := by
          show _ = _
          rw [← K.out]
          exact Class.lead_stop (s := s.data.toList) (by omega) (by rw [hb]; exact he)
        have g : ((Class.plain s[k].toNat : Int) == 1) = false := by simp; omega
        clear K he hb hl
        go_wp2_with (go_at_call 25; refine (c1.out _).mono ?_; rintro e w1 ⟨rfl, rfl⟩)
        go_ret
        exact ⟨by rw [K2.out]; rfl, rfl⟩
    · have K2 : Hid (Class.lead s.data.toList = k) := by
        show _ = _
        rw [← K.out]
        exact Class.lead_end (by omega)
      clear K hl
      go_wp2
      go_ret
      exact ⟨by rw [K2.out]; rfl, rfl⟩
end Go.Proofs.Ytgfafhbkmpgbjaa
