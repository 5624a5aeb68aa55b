/-
  Plain facts on the bytes of a number and of a text: what was written is read, and of what is read the bytes are those that were there.
-/
import Derived.Test.YtchmiigjiojiaaaDoorRdText
namespace Go.Proofs.YtchmiigjiojiaaaDoor
open Go.RowKit
theorem val4_num4 {n : Int} (h0 : 0 ≤ n) (h1 : n ≤ 2147483647) : val4 (UInt8.ofNat (n % 256).toNat) (UInt8.ofNat (n / 256 % 256).toNat) (UInt8.ofNat (n / 65536 % 256).toNat) (UInt8.ofNat (n / 16777216).toNat) = n := by
  unfold val4
  simp only [UInt8.toNat_ofNat']
  omega
theorem rdNum_numB {n : Int} (r : List UInt8) (e : Int) (h0 : 0 ≤ n) (h1 : n ≤ 2147483647) : rdNum (numB n ++ r) e = (n, r, e) := by
  have hv := val4_num4 h0 h1
  rw [numB_ok h0 h1]
  unfold num4
  have := rdNum_ok (a := UInt8.ofNat (n % 256).toNat) (b := UInt8.ofNat (n / 256 % 256).toNat) (c := UInt8.ofNat (n / 65536 % 256).toNat) (d := UInt8.ofNat (n / 16777216).toNat) r e (by rw [hv]; exact h1)
  rw [hv] at this
  exact this
theorem rdText_back (s r : List UInt8) (h : s.length ≤ 2147483647) : rdText s.length (numB s.length ++ (s ++ r)) 0 = (s, r, 0) := by
  unfold rdText
  rw [rdNum_numB _ 0 (by omega) (by omega)]
  simp only []
  rw [if_neg (by simp), if_neg (by omega), if_neg (by rw [List.length_append]; omega)]
  simp
theorem num4_val4 (a b c d : UInt8) : num4 (val4 a b c d) = [a, b, c, d] := by
  have ha := a.toNat_lt
  have hb := b.toNat_lt
  have hc := c.toNat_lt
  have hd := d.toNat_lt
  have e0 : UInt8.ofNat (val4 a b c d % 256).toNat = a := by
    apply UInt8.toNat_inj.1; rw [UInt8.toNat_ofNat']; unfold val4; omega
  have e1 : UInt8.ofNat (val4 a b c d / 256 % 256).toNat = b := by
    apply UInt8.toNat_inj.1; rw [UInt8.toNat_ofNat']; unfold val4; omega
  have e2 : UInt8.ofNat (val4 a b c d / 65536 % 256).toNat = c := by
    apply UInt8.toNat_inj.1; rw [UInt8.toNat_ofNat']; unfold val4; omega
  have e3 : UInt8.ofNat (val4 a b c d / 16777216).toNat = d := by
    apply UInt8.toNat_inj.1; rw [UInt8.toNat_ofNat']; unfold val4; omega
  unfold num4
  rw [e0, e1, e2, e3]
theorem once_num {l r : List UInt8} {n : Int} (h : rdNum l 0 = (n, r, 0)) : l = numB n ++ r ∧ 0 ≤ n ∧ n ≤ 2147483647 := by
  by_cases hl : l.length < 4
  · rw [rdNum_short 0 hl] at h; simp [first] at h
  · obtain ⟨a, b, c, d, q, rfl⟩ := four_of (l := l) (by omega)
    by_cases hv : val4 a b c d ≤ 2147483647
    · rw [rdNum_ok q 0 hv] at h
      simp only [Prod.mk.injEq] at h
      obtain ⟨rfl, rfl, _⟩ := h
      have h0 := val4_low a b c d
      rw [numB_ok h0 hv, num4_val4]
      exact ⟨rfl, h0, hv⟩
    · rw [rdNum_high q 0 (by omega)] at h; simp [first] at h
theorem once_text {l t r : List UInt8} {most : Int} (h : rdText most l 0 = (t, r, 0)) : l = numB t.length ++ (t ++ r) ∧ t.length ≤ 2147483647 := by
  obtain ⟨n, q, e, hq⟩ : ∃ n q e, rdNum l 0 = (n, q, e) := ⟨_, _, _, rfl⟩
  unfold rdText at h
  rw [hq] at h
  simp only [] at h
  by_cases he : e = 0
  · subst he
    obtain ⟨hl, h0, h1⟩ := once_num hq
    rw [if_neg (by simp)] at h
    by_cases hm : most < n
    · rw [if_pos hm] at h; simp at h
    · rw [if_neg hm] at h
      by_cases hx : (q.length : Int) < n
      · rw [if_pos hx] at h; simp at h
      · rw [if_neg hx] at h
        simp only [Prod.mk.injEq] at h
        obtain ⟨rfl, rfl, _⟩ := h
        have e1 : (q.take n.toNat).length = n.toNat := by rw [List.length_take]; omega
        rw [e1, Int.toNat_of_nonneg h0, List.take_append_drop]
        exact ⟨hl, by omega⟩
  · rw [if_pos he] at h
    simp only [Prod.mk.injEq] at h
    exact absurd h.2.2 he
end Go.Proofs.YtchmiigjiojiaaaDoor
