/-
  Plain facts on bytes: what was written is read.
-/
import Derived.Test.YtdeilomdinmonaaNums
namespace Go.Proofs.Ytdeilomdinmonaa
open Go.RowKit
theorem val4_num4 {n : Int} (h0 : 0 ≤ n) (h1 : n ≤ 2147483647) : val4 (UInt8.ofNat (n % 256).toNat) (UInt8.ofNat (n / 256 % 256).toNat) (UInt8.ofNat (n / 65536 % 256).toNat) (UInt8.ofNat (n / 16777216).toNat) = n := by
  unfold val4
  simp only [UInt8.toNat_ofNat']
  omega
theorem rdNum_numB {n : Int} (r : List UInt8) (e : Int) (h0 : 0 ≤ n) (h1 : n ≤ 2147483647) : rdNum (numB n ++ r) e = (n, r, e) := by
  have hv := val4_num4 h0 h1
  rw [numB_ok h0 h1]
  unfold num4
  have := rdNum_ok (a := UInt8.ofNat (n % 256).toNat) (b := UInt8.ofNat (n / 256 % 256).toNat) (c := UInt8.ofNat (n / 65536 % 256).toNat) (d := UInt8.ofNat (n / 16777216).toNat) r e (by rw [hv]; exact h1)
  rw [hv] at this
  exact this
theorem rdText_back (s r : List UInt8) (h : s.length ≤ 2147483647) : rdText s.length (numB s.length ++ (s ++ r)) 0 = (s, r, 0) := by
  unfold rdText
  rw [rdNum_numB _ 0 (by omega) (by omega)]
  simp only []
  rw [if_neg (by simp), if_neg (by omega), if_neg (by rw [List.length_append]; omega)]
  simp
theorem rdMany_back (xs : List Int) (r : List UInt8) : ∀ acc : List Int, xs.all isNum = true → rdMany xs.length acc (catB xs ++ r) = (acc ++ xs, r, 0) := by
  induction xs with
  | nil => intro acc _; simp [rdMany, catB]
  | cons x xs ih =>
    intro acc h
    simp only [List.all_cons, Bool.and_eq_true] at h
    have hx : 0 ≤ x ∧ x ≤ 2147483647 := by simpa [isNum] using h.1
    have hq := rdNum_numB (catB xs ++ r) 0 hx.1 hx.2
    rw [List.length_cons, catB, List.append_assoc, rdMany_ok hq, ih _ h.2]
    simp
theorem rdNums_back (xs : List Int) (r : List UInt8) (h : xs.length ≤ 2147483647) (ha : xs.all isNum = true) : rdNums xs.length (numsB xs ++ r) 0 = (xs, r, 0) := by
  unfold rdNums
  rw [numsB_ok ha, List.append_assoc, rdNum_numB _ 0 (by omega) (by omega)]
  simp only []
  rw [if_neg (by simp), if_neg (by omega), Int.toNat_natCast, rdMany_back xs r [] ha]
  simp
theorem numsB_length (xs : List Int) : (numsB xs).length ≤ 4 + 4 * xs.length := by
  unfold numsB
  split
  · have := numB_length (xs.length : Int); have := catB_length xs; rw [List.length_append]; omega
  · simp
theorem numsB_full {xs : List Int} (h : xs.length ≤ 2147483647) (ha : xs.all isNum = true) : (bs (numsB xs)).toList.isEmpty = false := by
  rw [bs_tl, numsB_ok ha, numB_ok (by omega) (by omega)]; rfl
theorem numsB_none {xs : List Int} (ha : ¬ xs.all isNum = true) : numsB xs = [] := by unfold numsB; rw [if_neg ha]
theorem back_text {p : Nat} {s : ByteArray} {r : List UInt8} {w : World} (hr : Rd p (numB s.size ++ (s.data.toList ++ r)) 0 w) (hs : s.size ≤ 2147483647) :
    Calls Try.prog 17 #[.pointer (some ⟨p, 0, none⟩), .int .i64 s.size] w fun x w' => x = .returned (.string s) ∧ Rd p r 0 w' ∧ w.grownBy w' (some p) := by
  have hT := rd_text (s.size : Int) hr
  have e := rdText_back s.data.toList r (by rw [data_len]; exact hs)
  rw [data_len] at e
  rw [e] at hT
  exact hT
theorem back_nums {p : Nat} {xs : List Int} {r : List UInt8} {w : World} (hr : Rd p (numsB xs ++ r) 0 w) (hl : xs.length ≤ 2147483647) (ha : xs.all isNum = true) :
    Calls Try.prog 20 #[.pointer (some ⟨p, 0, none⟩), .int .i64 xs.length] w fun x w' => GotInts w.heap.size xs x w' ∧ Rd p r 0 w' ∧ w.grownBy w' (some p) := by
  have hT := rd_nums (xs.length : Int) hr
  rw [rdNums_back xs r hl ha] at hT
  exact hT
end Go.Proofs.Ytdeilomdinmonaa
