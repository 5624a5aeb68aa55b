/-
  What package utf tells of the places of bytes.
-/
import Derived.Test.YtpgonbibekffhaaUtfValid
import Derived.Test.YtpgonbibekffhaaClone
namespace Go.Proofs.Ytpgonbibekffhaa
open Go.RowKit
namespace Utf
theorem place_out {s : List UInt8} {x : Int} (h : x < 0 ∨ (s.length : Int) < x) : place s x = false := by
  cases hd : dec s with
  | none => exact place_bad hd x
  | some rs =>
    refine place_no hd fun i _ he => ?_
    have := off_in hd i
    omega
theorem place_valid {s : List UInt8} {x : Nat} (hx : x ≤ s.length) : place s x = (valid s && apart s x) := by
  cases hd : dec s with
  | none => rw [place_bad hd, valid_bad hd]; rfl
  | some rs => rw [valid_ok hd, apart_place hd hx]; rfl
theorem valid_of {s : List UInt8} (h : valid s = true) : ∃ rs, dec s = some rs := by
  cases hd : dec s with
  | none => rw [valid_bad hd] at h; cases h
  | some rs => exact ⟨rs, rfl⟩
theorem place_of {s : List UInt8} {x : Int} (h : place s x = true) : ∃ rs i, dec s = some rs ∧ i ≤ rs.length ∧ x = (off rs i : Int) := by
  cases hd : dec s with
  | none => rw [place_bad hd] at h; cases h
  | some rs =>
    obtain ⟨i, hi, he⟩ := (place_iff hd).1 h
    exact ⟨rs, i, rfl, hi, he.symm⟩
theorem next_not {s : List UInt8} {x : Int} (h : x = s.length ∨ place s x = false) : next s x = -1 := by
  rcases h with rfl | h
  · cases hd : dec s with
    | none => exact next_bad hd _
    | some rs => exact next_end hd
  · exact next_no h
theorem prev_not {s : List UInt8} {x : Int} (h : x = 0 ∨ place s x = false) : prev s x = -1 := by
  rcases h with rfl | h
  · cases hd : dec s with
    | none => exact prev_bad hd _
    | some rs => exact prev_zero hd
  · exact prev_no h
end Utf
set_option maxRecDepth 100000 in
theorem utf_Place (s : ByteArray) (x : Int) (hs : s.size ≤ 9223372036854775807) (w : World) :
    Calls Try.prog 12 #[.string s, .int .i64 x] w fun e w' => e = .returned (.bool (Utf.place s.data.toList x)) ∧ w = w' := by
  have hl : s.data.toList.length = s.size := by simp
  by_cases h0 : x < 0
  · have H : Hid (Utf.place s.data.toList x = false) := Utf.place_out (Or.inl h0)
    go_enter Try.func12, Try.ntmps12
    go_wp2
    go_ret
    exact ⟨by rw [H.out]; rfl, rfl⟩
  · by_cases h1 : (s.size : Int) < x
    · have H : Hid (Utf.place s.data.toList x = false) := Utf.place_out (Or.inr (by omega))
      go_enter Try.func12, Try.ntmps12
      go_wp2
      go_ret
      exact ⟨by rw [H.out]; rfl, rfl⟩
    · obtain ⟨n, rfl⟩ : ∃ n : Nat, x = n := ⟨x.toNat, by omega⟩
      have H : Hid (Utf.place s.data.toList n = (Utf.valid s.data.toList && Utf.apart s.data.toList n)) := Utf.place_valid (by omega)
      have c1 := Lib.hid (utf_Valid s hs)
      have c2 := Lib.hid (utf_apart s (x := n) (by omega))
      generalize Utf.valid s.data.toList = a at *
      generalize Utf.apart s.data.toList n = b at *
      cases a with
      | false =>
        go_enter Try.func12, Try.ntmps12
        go_wp2_with (go_at_call 17; refine (c1.out _).mono ?_; rintro e w1 ⟨rfl, rfl⟩)
        go_ret
        exact ⟨by rw [H.out]; rfl, rfl⟩
      | true =>
        go_enter Try.func12, Try.ntmps12
        go_wp2_with (first | (go_at_call 17; refine (c1.out _).mono ?_; rintro e w1 ⟨rfl, rfl⟩) | (go_at_call 18; refine (c2.out _).mono ?_; rintro e w1 ⟨rfl, rfl⟩))
        go_ret
        exact ⟨by rw [H.out]; rfl, rfl⟩
end Go.Proofs.Ytpgonbibekffhaa
