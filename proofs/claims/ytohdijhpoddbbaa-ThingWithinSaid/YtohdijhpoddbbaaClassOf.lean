/-
  Package class: at, Of, Big, Lead.
-/
import Derived.LoopTactic
import Derived.Test.YtohdijhpoddbbaaClassBytes
namespace Go.Proofs.Ytohdijhpoddbbaa
open Go.RowKit
attribute [local go_sem] Oper.semAt_some
/-- What tells the class of a byte, as a value. -/
def telling (big : Bool) : Value := match big with | true => .func (.func 64) #[] #[] | false => .func (.func 63) #[] #[]
theorem telling_true : telling true = .func (.func 64) #[] #[] := rfl
theorem telling_false : telling false = .func (.func 63) #[] #[] := rfl
theorem class_at (s : ByteArray) (x : Int) (big : Bool) (hs : s.size ≤ 9223372036854775807) (w : World) :
    Calls Try.prog 65 #[.string s, .int .i64 x, telling big] w fun e w' => e = .returned (.int .i64 (Class.kind s.data.toList x big : Nat)) ∧ w = w' := by
  have hl : s.data.toList.length = s.size := by simp
  have c1 := Lib.hid (utf_Next s x hs)
  by_cases hn : Utf.next s.data.toList x < 0
  · have H : Hid (Class.kind s.data.toList x big = 0) := Class.kind_none hn big
    generalize Utf.next s.data.toList x = z at *
    generalize telling big = tl
    go_enter Try.func65, Try.ntmps65
    go_wp2_with (go_at_call 80; refine (c1.out _).mono ?_; rintro e w1 ⟨rfl, rfl⟩)
    go_ret
    exact ⟨by rw [H.out]; rfl, rfl⟩
  · obtain ⟨rs, i, hd, hi, rfl⟩ := Class.next_place hn
    have hk := Class.kind_at hd hi big
    have hlt : Utf.off rs i < s.size := by have := Class.off_below hd hi; omega
    rw [Class.at_some (byte_get s hlt)] at hk
    have H := Lib.hid hk
    clear hk hd hi
    have hz : 0 ≤ Utf.next s.data.toList (Utf.off rs i : Int) := by omega
    clear hn
    generalize Utf.next s.data.toList (Utf.off rs i : Int) = z at *
    generalize Class.kind s.data.toList (Utf.off rs i : Int) big = m at *
    generalize Utf.off rs i = y at *
    cases big
    · have c2 := Lib.hid (class_plain s[y].toNat)
      rw [telling_false]
      go_enter Try.func65, Try.ntmps65
      go_wp2_with (first | (go_at_call 80; refine (c1.out _).mono ?_; rintro e w1 ⟨rfl, rfl⟩) | (go_at_call 63; refine (c2.out _).mono ?_; rintro e w1 ⟨rfl, rfl⟩))
      go_ret
      exact ⟨by rw [H.out]; rfl, rfl⟩
    · have c2 := Lib.hid (class_great s[y].toNat)
      rw [telling_true]
      go_enter Try.func65, Try.ntmps65
      go_wp2_with (first | (go_at_call 80; refine (c1.out _).mono ?_; rintro e w1 ⟨rfl, rfl⟩) | (go_at_call 64; refine (c2.out _).mono ?_; rintro e w1 ⟨rfl, rfl⟩))
      go_ret
      exact ⟨by rw [H.out]; rfl, rfl⟩
theorem class_Of (s : ByteArray) (x : Int) (hs : s.size ≤ 9223372036854775807) (w : World) :
    Calls Try.prog 82 #[.string s, .int .i64 x] w fun e w' => e = .returned (.int .i64 (Class.kind s.data.toList x false : Nat)) ∧ w = w' := by
  have c1 := Lib.hid (class_at s x false hs)
  rw [telling_false] at c1
  generalize Class.kind s.data.toList x false = m at *
  go_enter Try.func82, Try.ntmps82
  go_wp2_with (go_at_call 65; refine (c1.out _).mono ?_; rintro e w1 ⟨rfl, rfl⟩)
  go_ret
  exact ⟨rfl, rfl⟩
theorem Class.lead_step {s : List UInt8} {k : Nat} (h : k < s.length) (hk : Class.plain s[k].toNat = 1) : k + Class.lead (s.drop k) = k + 1 + Class.lead (s.drop (k + 1)) := by
  rw [List.drop_eq_getElem_cons h, Class.lead, if_pos hk]; omega
theorem Class.lead_stop {s : List UInt8} {k : Nat} (h : k < s.length) (hk : Class.plain s[k].toNat ≠ 1) : k + Class.lead (s.drop k) = k := by
  rw [List.drop_eq_getElem_cons h, Class.lead, if_neg hk]; omega
theorem Class.lead_end {s : List UInt8} {k : Nat} (h : s.length ≤ k) : k + Class.lead (s.drop k) = k := by
  rw [List.drop_eq_nil_of_le h, Class.lead]; omega
end Go.Proofs.Ytohdijhpoddbbaa
