/-
  The document's answers about any bytes, by their places.
-/
import Derived.Test.YtlfhfpjffdaomaaDoorUtfSplit
namespace Go.Proofs.YtlfhfpjffdaomaaDoor
open Go.RowKit
open Utf
namespace Utf
/-- Which of a list one is; -1: none. -/
def find (l : List Int) (x : Int) : Int := match idx l x with | none => -1 | some i => (i : Int)
theorem find_some {l : List Int} {x : Int} {i : Nat} (h : l[i]? = some x) (hn : ∀ j, j < i → l[j]? ≠ some x) : find l x = i := by rw [find, idx_some h hn]
theorem find_none {l : List Int} {x : Int} (hn : ∀ j : Nat, l[j]? ≠ some x) : find l x = -1 := by rw [find, idx_none hn]
theorem idx_lt {l : List Int} {x : Int} {i : Nat} (h : idx l x = some i) : i < l.length := by
  rw [idx, List.findIdx?_eq_some_iff_getElem] at h
  exact h.1
theorem places_size (s : List UInt8) : (places s).length ≤ s.length + 1 := by
  cases h : dec s with
  | none => simp [places_none h]
  | some rs =>
    rw [places_length h]
    have h1 := off_top h (Nat.le_refl _)
    have h2 : ∀ i, i ≤ rs.length → i ≤ off rs i := fun i hi => by
      induction i with
      | zero => omega
      | succ i ih =>
        have := ih (by omega)
        have := off_lt (dec_some h).1 (show i < i + 1 by omega) hi
        omega
    have := h2 _ (Nat.le_refl _)
    omega
end Utf
set_option maxHeartbeats 400000 in
theorem ref_find {A : Option Addr} {c : Nat} {xs : List Int} (x : Int) {w : World} (ha : Ints w A xs) (hl : xs.length ≤ 9223372036854775807) :
    Calls Tryd.prog 73 #[.slice A xs.length c, .int .i64 x] w fun e w' => e = .returned (.int .i64 (Utf.find xs x)) ∧ Below w.heap.size w w' := by
  go_enter Tryd.func73, Tryd.ntmps73
  go_wp2_with fail
  go_loop [5] (fun i => ∃ k : Nat, k ≤ xs.length ∧ i = .int .i64 k ∧ Hid (∀ j, j < k → xs[j]? ≠ some x)) (fun i => xs.length - (intOf i).toNat)
  case atStart => exact ⟨0, Nat.zero_le _, rfl, fun j hj => absurd hj (by omega)⟩
  case round =>
    obtain ⟨k, hk, rfl, N⟩ := hrel
    by_cases hlt : k < xs.length
    · obtain ⟨aa, rfl, h1⟩ := ha.at_ hlt
      have hg : xs[k]? = some xs[k] := List.getElem?_eq_getElem hlt
      clear ha
      by_cases he : xs[k] = x
      · have H : Hid (Utf.find xs x = k) := Utf.find_some (by rw [hg, he]) N.out
        have g : (xs[k] == x) = true := by simp [he]
        clear N hg he
        go_wp2
        go_ret
        exact ⟨by rw [H.out]; rfl, Below.refl _ _⟩
      · have N2 : Hid (∀ j, j < k + 1 → xs[j]? ≠ some x) := fun j hj h => by
          rcases Nat.lt_or_ge j k with h2 | h2
          · exact N.out j h2 h
          · rw [show j = k by omega, hg] at h
            injection h with h
            exact he h
        have g : (xs[k] == x) = false := by simp [he]
        clear N hg he
        go_wp2
        go_round
        case rel => exact ⟨k + 1, by omega, by go_num, N2⟩
        case measure => simp [intOf]; omega
    · have H : Hid (Utf.find xs x = -1) := Utf.find_none (fun j h => by
        rcases Nat.lt_or_ge j k with h2 | h2
        · exact N.out j h2 h
        · rw [List.getElem?_eq_none (by omega)] at h; cases h)
      clear N
      go_wp2
      go_ret
      exact ⟨by rw [H.out]; rfl, Below.refl _ _⟩
/-- The document's places, as memory holds them. -/
theorem split_got (s : ByteArray) (hs : s.size ≤ 17592186044000) (w : World) :
    Calls Tryd.prog 59 #[.string s] w fun e w' => (∃ A c, e = .returned (.slice A (places s.data.toList).length c) ∧ Ints w' A (places s.data.toList)) ∧ Below w.heap.size w w' := by
  refine (ref_Split s hs w).mono ?_
  rintro e w' ⟨⟨v, rfl, hown⟩, hb⟩
  obtain ⟨a, c, rfl⟩ := own_shape hown
  exact ⟨⟨a, c, rfl, Ints.of_own hown rfl⟩, hb⟩
theorem ref_Valid (s : ByteArray) (hs : s.size ≤ 17592186044000) (w : World) :
    Calls Tryd.prog 42 #[.string s] w fun e w' => e = .returned (.bool (Utf.valid s.data.toList)) ∧ Below w.heap.size w w' := by
  have c1 := Lib.hid (split_got s hs w)
  have H : Hid (decide (0 < (places s.data.toList).length) = Utf.valid s.data.toList) := by
    show _ = _
    have := places_empty (s := s.data.toList)
    rw [Utf.valid]
    apply Bool.eq_iff_iff.2
    simpa using this
  generalize places s.data.toList = P at *
  go_enter Tryd.func42, Tryd.ntmps42
  go_wp2_with (go_at_call 59; refine c1.out.mono ?_; rintro e w1 ⟨⟨A, c, rfl, hI⟩, hb⟩)
  go_ret
  exact ⟨by rw [← H.out]; first | rfl | simp, hb⟩
theorem ref_Place (s : ByteArray) (x : Int) (hs : s.size ≤ 17592186044000) (w : World) :
    Calls Tryd.prog 60 #[.string s, .int .i64 x] w fun e w' => e = .returned (.bool (Utf.place s.data.toList x)) ∧ Below w.heap.size w w' := by
  have hl := places_size s.data.toList
  rw [data_len] at hl
  have c1 := Lib.hid (split_got s hs w)
  have H : Hid (decide (0 ≤ Utf.find (places s.data.toList) x) = Utf.place s.data.toList x) := by
    show _ = _
    rw [Utf.find, Utf.place]
    cases idx (places s.data.toList) x <;> simp
  generalize places s.data.toList = P at *
  go_enter Tryd.func60, Tryd.ntmps60
  go_wp2_with (first | (go_at_call 59; refine c1.out.mono ?_; rintro e w1 ⟨⟨A, c, rfl, hI⟩, hb⟩) | (go_at_call 73; refine (ref_find x hI (by omega)).mono ?_; rintro e w2 ⟨rfl, hb2⟩))
  go_ret
  exact ⟨by rw [← H.out]; rfl, hb.trans (hb2.mono hb.size)⟩
end Go.Proofs.YtlfhfpjffdaomaaDoor
