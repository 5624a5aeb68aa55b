/-
  Plain facts on bytes: of what is read the bytes are those that were there.
-/
import Derived.Test.YtdeilomdinmonaaBackPlain
namespace Go.Proofs.Ytdeilomdinmonaa
open Go.RowKit
theorem num4_val4 (a b c d : UInt8) : num4 (val4 a b c d) = [a, b, c, d] := by
  have ha := a.toNat_lt
  have hb := b.toNat_lt
  have hc := c.toNat_lt
  have hd := d.toNat_lt
  have e0 : UInt8.ofNat (val4 a b c d % 256).toNat = a := by
    apply UInt8.toNat_inj.1; rw [UInt8.toNat_ofNat']; unfold val4; omega
  have e1 : UInt8.ofNat (val4 a b c d / 256 % 256).toNat = b := by
    apply UInt8.toNat_inj.1; rw [UInt8.toNat_ofNat']; unfold val4; omega
  have e2 : UInt8.ofNat (val4 a b c d / 65536 % 256).toNat = c := by
    apply UInt8.toNat_inj.1; rw [UInt8.toNat_ofNat']; unfold val4; omega
  have e3 : UInt8.ofNat (val4 a b c d / 16777216).toNat = d := by
    apply UInt8.toNat_inj.1; rw [UInt8.toNat_ofNat']; unfold val4; omega
  unfold num4
  rw [e0, e1, e2, e3]
theorem once_num {l r : List UInt8} {n : Int} (h : rdNum l 0 = (n, r, 0)) : l = numB n ++ r ∧ 0 ≤ n ∧ n ≤ 2147483647 := by
  by_cases hl : l.length < 4
  · rw [rdNum_short 0 hl] at h; simp [first] at h
  · obtain ⟨a, b, c, d, q, rfl⟩ := four_of (l := l) (by omega)
    by_cases hv : val4 a b c d ≤ 2147483647
    · rw [rdNum_ok q 0 hv] at h
      simp only [Prod.mk.injEq] at h
      obtain ⟨rfl, rfl, _⟩ := h
      have h0 := val4_low a b c d
      rw [numB_ok h0 hv, num4_val4]
      exact ⟨rfl, h0, hv⟩
    · rw [rdNum_high q 0 (by omega)] at h; simp [first] at h
theorem once_text {l t r : List UInt8} {most : Int} (h : rdText most l 0 = (t, r, 0)) : l = numB t.length ++ (t ++ r) ∧ t.length ≤ 2147483647 := by
  obtain ⟨n, q, e, hq⟩ : ∃ n q e, rdNum l 0 = (n, q, e) := ⟨_, _, _, rfl⟩
  unfold rdText at h
  rw [hq] at h
  simp only [] at h
  by_cases he : e = 0
  · subst he
    obtain ⟨hl, h0, h1⟩ := once_num hq
    rw [if_neg (by simp)] at h
    by_cases hm : most < n
    · rw [if_pos hm] at h; simp at h
    · rw [if_neg hm] at h
      by_cases hx : (q.length : Int) < n
      · rw [if_pos hx] at h; simp at h
      · rw [if_neg hx] at h
        simp only [Prod.mk.injEq] at h
        obtain ⟨rfl, rfl, _⟩ := h
        have e1 : (q.take n.toNat).length = n.toNat := by rw [List.length_take]; omega
        rw [e1, Int.toNat_of_nonneg h0, List.take_append_drop]
        exact ⟨hl, by omega⟩
  · rw [if_pos he] at h
    simp only [Prod.mk.injEq] at h
    exact absurd h.2.2 he
theorem once_many {r : List UInt8} : ∀ (k : Nat) (acc ys : List Int) (l : List UInt8), rdMany k acc l = (ys, r, 0) → ∃ zs, ys = acc ++ zs ∧ zs.length = k ∧ zs.all isNum = true ∧ l = catB zs ++ r
  | 0, acc, ys, l, h => by
    simp only [rdMany, Prod.mk.injEq] at h
    exact ⟨[], by simp [h.1], rfl, rfl, by simp [catB, h.2.1]⟩
  | k + 1, acc, ys, l, h => by
    obtain ⟨n, q, e, hq⟩ : ∃ n q e, rdNum l 0 = (n, q, e) := ⟨_, _, _, rfl⟩
    by_cases he : e = 0
    · subst he
      rw [rdMany_ok hq] at h
      obtain ⟨zs, h1, h2, h3, h4⟩ := once_many k _ _ _ h
      obtain ⟨hl, h5, h6⟩ := once_num hq
      refine ⟨n :: zs, by simp [h1], by simp [h2], ?_, by rw [hl, h4]; simp [catB]⟩
      simp only [List.all_cons, Bool.and_eq_true]
      exact ⟨by simp [isNum, h5, h6], h3⟩
    · rw [rdMany_bad hq he] at h
      simp only [Prod.mk.injEq] at h
      exact absurd h.2.2 he
theorem once_nums {l r : List UInt8} {xs : List Int} {most : Int} (h : rdNums most l 0 = (xs, r, 0)) : l = numsB xs ++ r ∧ xs.length ≤ 2147483647 := by
  obtain ⟨n, q, e, hq⟩ : ∃ n q e, rdNum l 0 = (n, q, e) := ⟨_, _, _, rfl⟩
  unfold rdNums at h
  rw [hq] at h
  simp only [] at h
  by_cases he : e = 0
  · subst he
    obtain ⟨hl, h0, h1⟩ := once_num hq
    rw [if_neg (by simp)] at h
    by_cases hm : most < n
    · rw [if_pos hm] at h; simp at h
    · rw [if_neg hm] at h
      obtain ⟨zs, h2, h3, h4, h5⟩ := once_many _ _ _ _ h
      rw [List.nil_append] at h2
      subst h2
      rw [numsB_ok h4, h3, Int.toNat_of_nonneg h0, List.append_assoc, ← h5]
      exact ⟨hl, by omega⟩
  · rw [if_pos he] at h
    simp only [Prod.mk.injEq] at h
    exact absurd h.2.2 he
/-- What is behind what was read, with the bytes of it ahead, is all. -/
theorem slice_back (s : ByteArray) {p r : List UInt8} (h : s.data.toList = p ++ r) :
    ((bs p ++ s.extract ((s.size : Int) - min (s.size : Int) (r.length : Int)).toNat s.size).toList == s.toList) = true := by
  have hl : s.size = p.length + r.length := by rw [← data_len, h, List.length_append]
  have e : ((s.size : Int) - min (s.size : Int) (r.length : Int)).toNat = p.length := by omega
  have e2 : s.extract p.length s.size = bs r := by
    rw [Lib.extract_eq, h]
    rw [List.drop_left, List.take_of_length_le (by omega)]
    rfl
  rw [e, e2, bs_append, ← h, bs_data]
  simp
theorem slice_room (s : ByteArray) {p r : List UInt8} (h : s.data.toList = p ++ r) (hs : s.size ≤ 140737488351232) :
    ¬ 9223372036854775807 < (bs p).size + (s.size - ((s.size : Int) - min (s.size : Int) (r.length : Int)).toNat) := by
  have hl : s.size = p.length + r.length := by rw [← data_len, h, List.length_append]
  rw [bs_size]
  omega
end Go.Proofs.Ytdeilomdinmonaa
