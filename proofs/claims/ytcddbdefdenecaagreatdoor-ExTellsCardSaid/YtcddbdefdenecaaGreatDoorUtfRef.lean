/-
  The document's answers about any bytes, by their places.
-/
import Derived.Test.YtcddbdefdenecaaGreatDoorUtfSplit
namespace Go.Proofs.YtcddbdefdenecaaGreatDoor
open Go.RowKit
open Utf
namespace Utf
/-- Which of a list one is; -1: none. -/
def find (l : List Int) (x : Int) : Int := match idx l x with | none => -1 | some i => (i : Int)
theorem find_some {l : List Int} {x : Int} {i : Nat} (h : l[i]? = some x) (hn : ∀ j, j < i → l[j]? ≠ some x) : find l x = i := by rw [find, idx_some h hn]
theorem find_none {l : List Int} {x : Int} (hn : ∀ j : Nat, l[j]? ≠ some x) : find l x = -1 := by rw [find, idx_none hn]
theorem idx_lt {l : List Int} {x : Int} {i : Nat} (h : idx l x = some i) : i < l.length := by
  rw [idx, List.findIdx?_eq_some_iff_getElem] at h
  exact h.1
theorem places_size (s : List UInt8) : (places s).length ≤ s.length + 1 := by
  cases h : dec s with
  | none => simp [places_none h]
  | some rs =>
    rw [places_length h]
    have h1 := off_top h (Nat.le_refl _)
    have h2 : ∀ i, i ≤ rs.length → i ≤ off rs i := fun i hi => by
      induction i with
      | zero => omega
      | succ i ih =>
        have := ih (by omega)
        have := off_lt (dec_some h).1 (show i < i + 1 by omega) hi
        omega
    have := h2 _ (Nat.le_refl _)
    omega
end Utf
/-- The document's places, as memory holds them. -/
theorem split_got (s : ByteArray) (hs : s.size ≤ 17592186044000) (w : World) :
    Calls Tryz.prog 41 #[.string s] w fun e w' => (∃ A c, e = .returned (.slice A (places s.data.toList).length c) ∧ Ints w' A (places s.data.toList)) ∧ Below w.heap.size w w' := by
  refine (ref_Split s hs w).mono ?_
  rintro e w' ⟨⟨v, rfl, hown⟩, hb⟩
  obtain ⟨a, c, rfl⟩ := own_shape hown
  exact ⟨⟨a, c, rfl, Ints.of_own hown rfl⟩, hb⟩
theorem ref_Valid (s : ByteArray) (hs : s.size ≤ 17592186044000) (w : World) :
    Calls Tryz.prog 19 #[.string s] w fun e w' => e = .returned (.bool (Utf.valid s.data.toList)) ∧ Below w.heap.size w w' := by
  have c1 := Lib.hid (split_got s hs w)
  have H : Hid (decide (0 < (places s.data.toList).length) = Utf.valid s.data.toList) := by
    show _ = _
    have := places_empty (s := s.data.toList)
    rw [Utf.valid]
    apply Bool.eq_iff_iff.2
    simpa using this
  generalize places s.data.toList = P at *
  go_enter Tryz.func19, Tryz.ntmps19
  go_wp2_with (go_at_call 41; refine c1.out.mono ?_; rintro e w1 ⟨⟨A, c, rfl, hI⟩, hb⟩)
  go_ret
  exact ⟨by rw [← H.out]; first | rfl | simp, hb⟩
end Go.Proofs.YtcddbdefdenecaaGreatDoor
