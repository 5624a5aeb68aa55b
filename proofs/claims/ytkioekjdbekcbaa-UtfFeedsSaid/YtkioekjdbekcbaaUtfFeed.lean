/-
  What becomes of bytes that begin a rune, and one more: package utf.
-/
import Derived.Test.YtkioekjdbekcbaaUtfValid
import Derived.Test.YtkioekjdbekcbaaBytes
import Derived.OwnWalk
namespace Go.Proofs.Ytkioekjdbekcbaa
open Go.RowKit
namespace Utf
/-- Do bytes begin a rune that they do not end? -/
def half (l : List UInt8) : Bool := decide (l.length < siz l) && decide (l ≠ [])
theorem half_iff {l : List UInt8} : half l = true ↔ l.length < siz l ∧ l ≠ [] := by simp [half]
/-- What becomes of bytes that begin a rune, and one more. -/
def feed (l : List UInt8) (b : UInt8) : List UInt8 × List UInt8 × Int :=
  if l ≠ [] ∧ half l = false then ([], [], 1)
  else if one (l ++ [b]) = true then ([], l ++ [b], 0)
  else if half (l ++ [b]) = true then (l ++ [b], [], 0)
  else ([], [], 5)
theorem feed_arg {l : List UInt8} (b : UInt8) (h : l ≠ []) (h2 : siz l ≤ l.length) : feed l b = ([], [], 1) := by
  have : half l = false := by
    cases hh : half l with
    | false => rfl
    | true => have := half_iff.1 hh; omega
  rw [feed, if_pos ⟨h, this⟩]
theorem feed_on {l : List UInt8} (h : l = [] ∨ l.length < siz l) : ¬ (l ≠ [] ∧ half l = false) := by
  rintro ⟨h1, h2⟩
  rcases h with h | h
  · exact h1 h
  · rw [half_iff.2 ⟨h, h1⟩] at h2; cases h2
theorem feed_bad {l : List UInt8} {b : UInt8} (h : l = [] ∨ l.length < siz l) (hs : siz (l ++ [b]) = 0) : feed l b = ([], [], 5) := by
  rw [feed, if_neg (feed_on h), if_neg (by rw [one_iff]; omega), if_neg (by rw [half_iff]; omega)]
theorem snoc_len (l : List UInt8) (b : UInt8) : (l ++ [b]).length = l.length + 1 := by simp
theorem feed_one {l : List UInt8} {b : UInt8} (h : l = [] ∨ l.length < siz l) (hs : siz (l ++ [b]) = l.length + 1) : feed l b = ([], l ++ [b], 0) := by
  rw [feed, if_neg (feed_on h), if_pos (by rw [one_iff, snoc_len]; omega)]
theorem feed_half {l : List UInt8} {b : UInt8} (h : l = [] ∨ l.length < siz l) (h0 : siz (l ++ [b]) ≠ 0) (hs : siz (l ++ [b]) ≠ l.length + 1) : feed l b = (l ++ [b], [], 0) := by
  have h1 : l.length + 1 < siz (l ++ [b]) := by
    rcases h with rfl | h
    · simp only [List.nil_append, List.length_nil] at h0 hs ⊢; omega
    · have hne : l ≠ [] := by rintro rfl; simp [siz] at h
      have := siz_less (s := l) (t := [b]) hne (by omega)
      omega
  rw [feed, if_neg (feed_on h), if_neg (by rw [one_iff, snoc_len]; omega), if_pos (by rw [half_iff, snoc_len]; exact ⟨h1, by simp⟩)]
end Utf
/-- What a feeding answers. -/
def fedAns (f : List UInt8 × List UInt8 × Int) : Ending := .returned (.tuple #[.string (bs f.1), .string (bs f.2.1), .int .i64 f.2.2])
set_option maxHeartbeats 800000 in
set_option maxRecDepth 100000 in
theorem utf_Feed (l : List UInt8) (b : UInt8) (hs : l.length ≤ 9223372036854775000) (w : World) :
    Calls Try.prog 25 #[.string (bs l), .int .u8 b.toNat] w fun e w' => e = fedAns (Utf.feed l b) ∧ Below w.heap.size w w' := by
  have hbt := b.toNat_lt
  have c1 := Lib.hid (utf_size (bs l) (by rw [bs_size]; omega))
  have hcv1 := fun x0 => run_bytes1 (P := Try.prog) w 39 9 5 x0 Try.underlying39 Try.underlying5 Try.underlying9
  have hz : (bs l).size = l.length := bs_size l
  rw [bs_toList] at c1
  have g1 := bs_isEmpty l
  by_cases h : l ≠ [] ∧ Utf.siz l ≤ l.length
  · have H := Lib.hid (Utf.feed_arg b h.1 h.2)
    have g2 : l.isEmpty = false := by simpa using h.1
    have g3 := h.2
    rw [g2] at g1
    clear h g2 hcv1
    generalize Utf.siz l = n at *
    go_enter Try.func25, Try.ntmps25
    go_wp2_with (go_at_call 27; refine (c1.out _).mono ?_; rintro e w1 ⟨rfl, rfl⟩)
    go_ret3
    exact ⟨by rw [H.out]; rfl, Below.refl _ _⟩
  · have ho : l = [] ∨ l.length < Utf.siz l := by
      rcases Classical.em (l = []) with h1 | h1
      · exact Or.inl h1
      · refine Or.inr (Nat.lt_of_not_le fun h2 => h ⟨h1, h2⟩)
    have c2 := Lib.hid (utf_size (bs (l ++ [b])) (by rw [bs_size]; simp; omega))
    rw [bs_toList] at c2
    have hz2 : (bs (l ++ [b])).size = l.length + 1 := by rw [bs_size]; simp
    have e1 : bs l ++ bs [UInt8.ofNat ((b.toNat : Int)).toNat] = bs (l ++ [b]) := by rw [bs_append]; simp
    have hn4 := Utf.siz_le (l ++ [b])
    have hzb : ¬ 9223372036854775807 < (bs l).size + (bs [UInt8.ofNat ((b.toNat : Int)).toNat]).size := by rw [bs_size, bs_size]; simp; omega
    have hcv2 := hcv1 b.toNat
    have hq : (bs [UInt8.ofNat ((b.toNat : Int)).toNat]).size = 1 := by rw [bs_size]; rfl
    generalize bs [UInt8.ofNat ((b.toNat : Int)).toNat] = q at *
    have E := Lib.hid e1
    rw [← e1] at c2
    clear hcv1 e1 h
    have hm4 := Utf.siz_le l
    by_cases h0 : Utf.siz (l ++ [b]) = 0
    · have H := Lib.hid (Utf.feed_bad ho h0)
      rw [h0] at c2
      clear hn4 h0
      rcases ho with ho | ho
      · have g2 : (bs l).toList.isEmpty = true := by rw [g1, ho]; rfl
        clear g1 ho
        go_enter Try.func25, Try.ntmps25
        go_wp2_with (go_at_call 27; refine (c2.out _).mono ?_; rintro e w1 ⟨rfl, rfl⟩)
        go_ret3
        exact ⟨by rw [H.out]; rfl, (Below.refl _ _).alloc (Nat.le_refl _) _⟩
      · have g2 : (bs l).toList.isEmpty = false := by rw [g1]; cases l with | nil => simp [Utf.siz] at ho | cons a t => rfl
        clear g1
        generalize Utf.siz l = m at *
        go_enter Try.func25, Try.ntmps25
        go_wp2_with fail
        refine (c1.out _).mono ?_
        rintro e w1 ⟨rfl, rfl⟩
        go_wp2_with fail
        refine (c2.out _).mono ?_
        rintro e w1 ⟨rfl, rfl⟩
        go_wp2
        go_ret3
        exact ⟨by rw [H.out]; rfl, (Below.refl _ _).alloc (Nat.le_refl _) _⟩
    · by_cases h1 : Utf.siz (l ++ [b]) = l.length + 1
      · have H := Lib.hid (Utf.feed_one ho h1)
        have g3 : (((l.length : Int) + 1) == 0) = false := beq_false_of_ne (by omega)
        have g4 : (((l.length : Int) + 1) == (l.length : Int) + (q.size : Int)) = true := by rw [hq]; simp
        rw [h1] at c2
        clear hn4 h0 h1 hz2 hq
        rcases ho with ho | ho
        · have g2 : (bs l).toList.isEmpty = true := by rw [g1, ho]; rfl
          clear g1 ho
          go_enter Try.func25, Try.ntmps25
          go_wp2_with (go_at_call 27; refine (c2.out _).mono ?_; rintro e w1 ⟨rfl, rfl⟩)
          go_ret3
          exact ⟨by rw [H.out, fedAns, ← E.out]; rfl, (Below.refl _ _).alloc (Nat.le_refl _) _⟩
        · have g2 : (bs l).toList.isEmpty = false := by rw [g1]; cases l with | nil => simp [Utf.siz] at ho | cons a t => rfl
          clear g1
          generalize Utf.siz l = m at *
          go_enter Try.func25, Try.ntmps25
          go_wp2_with fail
          refine (c1.out _).mono ?_
          rintro e w1 ⟨rfl, rfl⟩
          go_wp2_with fail
          refine (c2.out _).mono ?_
          rintro e w1 ⟨rfl, rfl⟩
          go_wp2
          go_ret3
          exact ⟨by rw [H.out, fedAns, ← E.out]; rfl, (Below.refl _ _).alloc (Nat.le_refl _) _⟩
      · have H := Lib.hid (Utf.feed_half ho h0 h1)
        have g3 : ((Utf.siz (l ++ [b]) : Int) == 0) = false := beq_false_of_ne (by omega)
        have g4 : ((Utf.siz (l ++ [b]) : Int) == (l.length : Int) + (q.size : Int)) = false := by rw [hq]; exact beq_false_of_ne (by omega)
        clear h0 h1 hz2 hq
        generalize Utf.siz (l ++ [b]) = k at *
        rcases ho with ho | ho
        · have g2 : (bs l).toList.isEmpty = true := by rw [g1, ho]; rfl
          clear g1 ho
          go_enter Try.func25, Try.ntmps25
          go_wp2_with (go_at_call 27; refine (c2.out _).mono ?_; rintro e w1 ⟨rfl, rfl⟩)
          go_ret3
          exact ⟨by rw [H.out, fedAns, ← E.out]; rfl, (Below.refl _ _).alloc (Nat.le_refl _) _⟩
        · have g2 : (bs l).toList.isEmpty = false := by rw [g1]; cases l with | nil => simp [Utf.siz] at ho | cons a t => rfl
          clear g1
          generalize Utf.siz l = m at *
          go_enter Try.func25, Try.ntmps25
          go_wp2_with fail
          refine (c1.out _).mono ?_
          rintro e w1 ⟨rfl, rfl⟩
          go_wp2_with fail
          refine (c2.out _).mono ?_
          rintro e w1 ⟨rfl, rfl⟩
          go_wp2
          go_ret3
          exact ⟨by rw [H.out, fedAns, ← E.out]; rfl, (Below.refl _ _).alloc (Nat.le_refl _) _⟩
end Go.Proofs.Ytkioekjdbekcbaa
