/-
  What package utf tells of the places of bytes.
-/
import Derived.Test.YtlfhfpjffdaomaaDoorUtfValid
import Derived.Test.YtlfhfpjffdaomaaDoorClone
namespace Go.Proofs.YtlfhfpjffdaomaaDoor
open Go.RowKit
namespace Utf
theorem place_out {s : List UInt8} {x : Int} (h : x < 0 ∨ (s.length : Int) < x) : place s x = false := by
  cases hd : dec s with
  | none => exact place_bad hd x
  | some rs =>
    refine place_no hd fun i _ he => ?_
    have := off_in hd i
    omega
theorem place_valid {s : List UInt8} {x : Nat} (hx : x ≤ s.length) : place s x = (valid s && apart s x) := by
  cases hd : dec s with
  | none => rw [place_bad hd, valid_bad hd]; rfl
  | some rs => rw [valid_ok hd, apart_place hd hx]; rfl
theorem valid_of {s : List UInt8} (h : valid s = true) : ∃ rs, dec s = some rs := by
  cases hd : dec s with
  | none => rw [valid_bad hd] at h; cases h
  | some rs => exact ⟨rs, rfl⟩
theorem place_of {s : List UInt8} {x : Int} (h : place s x = true) : ∃ rs i, dec s = some rs ∧ i ≤ rs.length ∧ x = (off rs i : Int) := by
  cases hd : dec s with
  | none => rw [place_bad hd] at h; cases h
  | some rs =>
    obtain ⟨i, hi, he⟩ := (place_iff hd).1 h
    exact ⟨rs, i, rfl, hi, he.symm⟩
theorem next_not {s : List UInt8} {x : Int} (h : x = s.length ∨ place s x = false) : next s x = -1 := by
  rcases h with rfl | h
  · cases hd : dec s with
    | none => exact next_bad hd _
    | some rs => exact next_end hd
  · exact next_no h
theorem prev_not {s : List UInt8} {x : Int} (h : x = 0 ∨ place s x = false) : prev s x = -1 := by
  rcases h with rfl | h
  · cases hd : dec s with
    | none => exact prev_bad hd _
    | some rs => exact prev_zero hd
  · exact prev_no h
end Utf
set_option maxRecDepth 100000 in
theorem utf_Place (s : ByteArray) (x : Int) (hs : s.size ≤ 9223372036854775807) (w : World) :
    Calls Tryd.prog 34 #[.string s, .int .i64 x] w fun e w' => e = .returned (.bool (Utf.place s.data.toList x)) ∧ w = w' := by
  have hl : s.data.toList.length = s.size := by simp
  by_cases h0 : x < 0
  · have H : Hid (Utf.place s.data.toList x = false) := Utf.place_out (Or.inl h0)
    go_enter Tryd.func34, Tryd.ntmps34
    go_wp2
    go_ret
    exact ⟨by rw [H.out]; rfl, rfl⟩
  · by_cases h1 : (s.size : Int) < x
    · have H : Hid (Utf.place s.data.toList x = false) := Utf.place_out (Or.inr (by omega))
      go_enter Tryd.func34, Tryd.ntmps34
      go_wp2
      go_ret
      exact ⟨by rw [H.out]; rfl, rfl⟩
    · obtain ⟨n, rfl⟩ : ∃ n : Nat, x = n := ⟨x.toNat, by omega⟩
      have H : Hid (Utf.place s.data.toList n = (Utf.valid s.data.toList && Utf.apart s.data.toList n)) := Utf.place_valid (by omega)
      have c1 := Lib.hid (utf_Valid s hs)
      have c2 := Lib.hid (utf_apart s (x := n) (by omega))
      generalize Utf.valid s.data.toList = a at *
      generalize Utf.apart s.data.toList n = b at *
      cases a with
      | false =>
        go_enter Tryd.func34, Tryd.ntmps34
        go_wp2_with (go_at_call 49; refine (c1.out _).mono ?_; rintro e w1 ⟨rfl, rfl⟩)
        go_ret
        exact ⟨by rw [H.out]; rfl, rfl⟩
      | true =>
        go_enter Tryd.func34, Tryd.ntmps34
        go_wp2_with (first | (go_at_call 49; refine (c1.out _).mono ?_; rintro e w1 ⟨rfl, rfl⟩) | (go_at_call 51; refine (c2.out _).mono ?_; rintro e w1 ⟨rfl, rfl⟩))
        go_ret
        exact ⟨by rw [H.out]; rfl, rfl⟩
set_option maxRecDepth 100000 in
theorem utf_Prev (s : ByteArray) (x : Int) (hs : s.size ≤ 9223372036854775807) (w : World) :
    Calls Tryd.prog 58 #[.string s, .int .i64 x] w fun e w' => e = .returned (.int .i64 (Utf.prev s.data.toList x)) ∧ w = w' := by
  have hl : s.data.toList.length = s.size := by simp
  have c1 := Lib.hid (utf_Place s x hs)
  by_cases h0 : x = 0
  · have H : Hid (Utf.prev s.data.toList x = -1) := Utf.prev_not (Or.inl h0)
    have g : (x == 0) = true := by simp [h0]
    go_enter Tryd.func58, Tryd.ntmps58
    go_wp2
    go_ret
    exact ⟨by rw [H.out]; rfl, rfl⟩
  · have g : (x == 0) = false := by simp [h0]
    cases hp : Utf.place s.data.toList x with
    | false =>
      rw [hp] at c1
      have H : Hid (Utf.prev s.data.toList x = -1) := Utf.prev_not (Or.inr hp)
      clear hp
      go_enter Tryd.func58, Tryd.ntmps58
      go_wp2_with (go_at_call 34; refine (c1.out _).mono ?_; rintro e w1 ⟨rfl, rfl⟩)
      go_ret
      exact ⟨by rw [H.out]; rfl, rfl⟩
    | true =>
      rw [hp] at c1
      obtain ⟨rs, i, hd, hi, rfl⟩ := Utf.place_of hp
      clear hp
      cases i with
      | zero => rw [Utf.off_zero] at h0; exact absurd rfl h0
      | succ i =>
        have hlt := Utf.off_lt (Utf.dec_some hd).1 (show i < i + 1 by omega) hi
        have hin := Utf.off_in hd (i + 1)
        have hu : Utf.Under rs i (Utf.off rs (i + 1) - 1) := ⟨by omega, by omega, fun _ => by omega⟩
        have H : Hid (Utf.prev s.data.toList (Utf.off rs (i + 1) : Int) = (Utf.off rs i : Nat)) := Utf.prev_at hd hi
        have c2 := Lib.hid (utf_back s hd (x := Utf.off rs (i + 1) - 1) (by omega) hs)
        have hx : (((Utf.off rs (i + 1) - 1 : Nat) : Int)) = (Utf.off rs (i + 1) : Int) - 1 := by omega
        rw [hx] at c2
        clear hx
        have hin2 : Utf.off rs (i + 1) ≤ s.size := by omega
        have hU := Lib.hid hu
        clear hin hd hu
        generalize Utf.off rs (i + 1) = y at *
        go_enter Tryd.func58, Tryd.ntmps58
        go_wp2_with (first | (go_at_call 34; refine (c1.out _).mono ?_; rintro e w1 ⟨rfl, rfl⟩) | (go_at_call 71; refine (c2.out _).mono ?_; rintro e w1 ⟨⟨j, hj, rfl⟩, rfl⟩))
        go_ret
        exact ⟨by rw [H.out, Utf.under_unique hU.out hj]; rfl, rfl⟩
end Go.Proofs.YtlfhfpjffdaomaaDoor
