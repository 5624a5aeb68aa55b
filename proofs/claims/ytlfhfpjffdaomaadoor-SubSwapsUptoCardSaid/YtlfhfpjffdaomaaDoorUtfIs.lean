/-
  Bytes are one rune by the document's numbers just when they are one by how they go on.
-/
import Derived.Test.YtlfhfpjffdaomaaDoorUtfNum
namespace Go.Proofs.YtlfhfpjffdaomaaDoor
open Go.RowKit
namespace Utf
theorem one_cons (a : UInt8) (t : List UInt8) : one (a :: t) = true ↔ len a.toNat = t.length + 1 ∧ goes (low a.toNat) (high a.toNat) t.length t = true := by
  rw [one_iff, siz_cons, List.length_cons]
  constructor
  · rintro ⟨h0, h1⟩
    split at h1
    · next hg => rw [h1] at hg; exact ⟨h1, hg⟩
    · omega
  · rintro ⟨h0, h1⟩
    rw [h0, Nat.add_sub_cancel, if_pos h1]
    omega
theorem len_one {a : Nat} : len a = 1 ↔ a < 128 := by
  unfold len
  split <;> (try split) <;> (try split) <;> (try split) <;> (try split) <;> omega
theorem len_two {a : Nat} : len a = 2 ↔ 194 ≤ a ∧ a < 224 := by
  unfold len
  split <;> (try split) <;> (try split) <;> (try split) <;> (try split) <;> omega
theorem len_three {a : Nat} : len a = 3 ↔ 224 ≤ a ∧ a < 240 := by
  unfold len
  split <;> (try split) <;> (try split) <;> (try split) <;> (try split) <;> omega
theorem len_four {a : Nat} : len a = 4 ↔ 240 ≤ a ∧ a ≤ 244 := by
  unfold len
  split <;> (try split) <;> (try split) <;> (try split) <;> (try split) <;> omega
theorem one1 (a : UInt8) : one [a] = true ↔ a.toNat < 128 := by
  rw [one_cons, ← len_one]; simp [goes]
theorem one2 (a b : UInt8) : one [a, b] = true ↔ (194 ≤ a.toNat ∧ a.toNat < 224) ∧ 128 ≤ b.toNat ∧ b.toNat ≤ 191 := by
  rw [one_cons, ← len_two]
  simp only [List.length_cons, List.length_nil, Nat.zero_add, goes, Bool.and_true, Bool.and_eq_true, decide_eq_true_eq]
  constructor
  · rintro ⟨h0, h1, h2⟩
    refine ⟨h0, ?_⟩
    have := len_two.1 h0
    unfold low at h1; unfold high at h2
    rw [if_neg (by omega), if_neg (by omega)] at h1 h2
    omega
  · rintro ⟨h0, h1, h2⟩
    have := len_two.1 h0
    refine ⟨h0, ?_, ?_⟩
    · unfold low; rw [if_neg (by omega), if_neg (by omega)]; exact h1
    · unfold high; rw [if_neg (by omega), if_neg (by omega)]; exact h2
theorem one3 (a b c : UInt8) : one [a, b, c] = true ↔ (224 ≤ a.toNat ∧ a.toNat < 240) ∧ (low a.toNat ≤ b.toNat ∧ b.toNat ≤ high a.toNat) ∧ 128 ≤ c.toNat ∧ c.toNat ≤ 191 := by
  rw [one_cons, ← len_three]
  simp only [List.length_cons, List.length_nil, Nat.zero_add, goes, Bool.and_true, Bool.and_eq_true, decide_eq_true_eq]
theorem one4 (a b c d : UInt8) : one [a, b, c, d] = true ↔ (240 ≤ a.toNat ∧ a.toNat ≤ 244) ∧ (low a.toNat ≤ b.toNat ∧ b.toNat ≤ high a.toNat) ∧ (128 ≤ c.toNat ∧ c.toNat ≤ 191) ∧ 128 ≤ d.toNat ∧ d.toNat ≤ 191 := by
  rw [one_cons, ← len_four]
  simp only [List.length_cons, List.length_nil, Nat.zero_add, goes, Bool.and_true, Bool.and_eq_true, decide_eq_true_eq]
theorem enc_len1 {n : Int} (h : (enc n).length = 1) : 0 ≤ n ∧ n < 128 := by
  unfold enc at h
  split at h <;> (try split at h) <;> (try split at h) <;> (try split at h) <;> simp at h <;> omega
theorem enc_len2 {n : Int} (h : (enc n).length = 2) : 128 ≤ n ∧ n < 2048 := by
  unfold enc at h
  split at h <;> (try split at h) <;> (try split at h) <;> (try split at h) <;> simp at h <;> omega
theorem enc_len3 {n : Int} (h : (enc n).length = 3) : 2048 ≤ n ∧ n < 65536 ∧ (n < 55296 ∨ 57344 ≤ n) := by
  unfold enc at h
  split at h <;> (try split at h) <;> (try split at h) <;> (try split at h) <;> simp at h <;> omega
theorem enc_len4 {n : Int} (h : (enc n).length = 4) : 65536 ≤ n ∧ n ≤ 1114111 := by
  unfold enc at h
  split at h <;> (try split at h) <;> (try split at h) <;> (try split at h) <;> simp at h <;> omega
theorem byte_of {x : Int} {a : UInt8} (h : x = a.toNat) : UInt8.ofNat x.toNat = a := by
  subst h; simp
theorem num2 {a b : UInt8} (h : 0 ≤ num [a, b]) : num [a, b] = 64 * (a.toNat - 192) + (b.toNat - 128) ∧ 192 ≤ a.toNat ∧ 128 ≤ b.toNat ∧ b.toNat ≤ 191 := by
  simp only [num, List.length_nil, Nat.zero_add, show base 2 = 192 from rfl, numF] at h ⊢
  split at h
  · omega
  · split at h
    · omega
    · rw [if_neg (by omega), if_neg (by omega)]; omega
theorem num3 {a b c : UInt8} (h : 0 ≤ num [a, b, c]) : num [a, b, c] = 64 * (64 * (a.toNat - 224) + (b.toNat - 128)) + (c.toNat - 128) ∧ 224 ≤ a.toNat ∧ 128 ≤ b.toNat ∧ b.toNat ≤ 191 ∧ 128 ≤ c.toNat ∧ c.toNat ≤ 191 := by
  simp only [num, List.length_cons, List.length_nil, Nat.zero_add, show base (1 + 2) = 224 from rfl, numF] at h ⊢
  split at h
  · omega
  · split at h
    · omega
    · split at h
      · omega
      · rw [if_neg (by omega), if_neg (by omega), if_neg (by omega)]; omega
theorem num4' {a b c d : UInt8} (h : 0 ≤ num [a, b, c, d]) : num [a, b, c, d] = 64 * (64 * (64 * (a.toNat - 240) + (b.toNat - 128)) + (c.toNat - 128)) + (d.toNat - 128) ∧ 240 ≤ a.toNat ∧ (128 ≤ b.toNat ∧ b.toNat ≤ 191) ∧ (128 ≤ c.toNat ∧ c.toNat ≤ 191) ∧ 128 ≤ d.toNat ∧ d.toNat ≤ 191 := by
  simp only [num, List.length_cons, List.length_nil, Nat.zero_add, show base (1 + 1 + 2) = 240 from rfl, numF] at h ⊢
  split at h
  · omega
  · split at h
    · omega
    · split at h
      · omega
      · split at h
        · omega
        · rw [if_neg (by omega), if_neg (by omega), if_neg (by omega), if_neg (by omega)]; omega
theorem low_spec (a : Nat) : (a = 224 ∧ low a = 160) ∨ (a = 240 ∧ low a = 144) ∨ (a ≠ 224 ∧ a ≠ 240 ∧ low a = 128) := by
  unfold low; split <;> (try split) <;> omega
theorem high_spec (a : Nat) : (a = 237 ∧ high a = 159) ∨ (a = 244 ∧ high a = 143) ∨ (a ≠ 237 ∧ a ≠ 244 ∧ high a = 191) := by
  unfold high; split <;> (try split) <;> omega
theorem enc_one {l : List UInt8} (h1 : 1 ≤ l.length) (h4 : l.length ≤ 4) : enc (num l) = l ↔ one l = true := by
  match l, h1, h4 with
  | [a], _, _ =>
    rw [one1]
    constructor
    · intro h
      have := enc_len1 (n := num [a]) (by rw [h]; rfl)
      simp only [num] at this
      omega
    · intro h
      rw [show num [a] = (a.toNat : Int) from rfl, enc, if_neg (by omega), if_pos (by omega), byte_of rfl]
  | [a, b], _, _ =>
    rw [one2]
    constructor
    · intro h
      have h2 := enc_len2 (n := num [a, b]) (by rw [h]; rfl)
      have h3 := num2 (a := a) (b := b) (by omega)
      omega
    · rintro ⟨⟨h1, h2⟩, h3, h4⟩
      have hn : num [a, b] = 64 * (a.toNat - 192) + (b.toNat - 128) := by
        simp only [num, List.length_nil, Nat.zero_add, show base 2 = 192 from rfl, numF]
        rw [if_neg (by omega), if_neg (by omega)]
      rw [hn, enc, if_neg (by omega), if_neg (by omega), if_pos (by omega), byte_of (a := a) (by omega), byte_of (a := b) (by omega)]
  | [a, b, c], _, _ =>
    rw [one3]
    have hlo := low_spec a.toNat
    have hhi := high_spec a.toNat
    constructor
    · intro h
      have h2 := enc_len3 (n := num [a, b, c]) (by rw [h]; rfl)
      have h3 := num3 (a := a) (b := b) (c := c) (by omega)
      refine ⟨by omega, ⟨?_, ?_⟩, by omega⟩
      · omega
      · omega
    · rintro ⟨⟨h1, h2⟩, ⟨h3, h4⟩, h5, h6⟩
      have hb : 128 ≤ b.toNat ∧ b.toNat ≤ 191 := by omega
      have hn : num [a, b, c] = 64 * (64 * (a.toNat - 224) + (b.toNat - 128)) + (c.toNat - 128) := by
        simp only [num, List.length_cons, List.length_nil, Nat.zero_add, show base (1 + 2) = 224 from rfl, numF]
        rw [if_neg (by omega), if_neg (by omega), if_neg (by omega)]
      rw [hn, enc, if_neg (by omega), if_neg (by omega), if_neg (by omega), if_pos (by omega), byte_of (a := a) (by omega), byte_of (a := b) (by omega), byte_of (a := c) (by omega)]
  | [a, b, c, d], _, _ =>
    rw [one4]
    have hlo := low_spec a.toNat
    have hhi := high_spec a.toNat
    constructor
    · intro h
      have h2 := enc_len4 (n := num [a, b, c, d]) (by rw [h]; rfl)
      have h3 := num4' (a := a) (b := b) (c := c) (d := d) (by omega)
      refine ⟨by omega, ⟨?_, ?_⟩, by omega, by omega⟩
      · omega
      · omega
    · rintro ⟨⟨h1, h2⟩, ⟨h3, h4⟩, ⟨h5, h6⟩, h7, h8⟩
      have hb : 128 ≤ b.toNat ∧ b.toNat ≤ 191 := by omega
      have hn : num [a, b, c, d] = 64 * (64 * (64 * (a.toNat - 240) + (b.toNat - 128)) + (c.toNat - 128)) + (d.toNat - 128) := by
        simp only [num, List.length_cons, List.length_nil, Nat.zero_add, show base (1 + 1 + 2) = 240 from rfl, numF]
        rw [if_neg (by omega), if_neg (by omega), if_neg (by omega), if_neg (by omega)]
      rw [hn, enc, if_neg (by omega), if_neg (by omega), if_neg (by omega), if_neg (by omega), byte_of (a := a) (by omega), byte_of (a := b) (by omega), byte_of (a := c) (by omega), byte_of (a := d) (by omega)]
theorem one_big {l : List UInt8} (h : l.length < 1 ∨ 4 < l.length) : one l = false := by
  cases ho : one l with
  | false => rfl
  | true => have := one_pos ho; have := one_le ho; omega
end Utf
theorem ref_Is (s : ByteArray) (w : World) :
    Calls Tryd.prog 72 #[.string s] w fun e w' => e = .returned (.bool (Utf.one s.data.toList)) ∧ Below w.heap.size w w' := by
  have hl : s.data.toList.length = s.size := by simp
  by_cases h1 : s.size < 1
  · have H : Hid (Utf.one s.data.toList = false) := Utf.one_big (Or.inl (by omega))
    go_enter Tryd.func72, Tryd.ntmps72
    go_wp2
    go_ret
    exact ⟨by rw [H.out]; rfl, Below.refl _ _⟩
  by_cases h4 : 4 < s.size
  · have H : Hid (Utf.one s.data.toList = false) := Utf.one_big (Or.inr (by omega))
    go_enter Tryd.func72, Tryd.ntmps72
    go_wp2
    go_ret
    exact ⟨by rw [H.out]; rfl, Below.refl _ _⟩
  · have c1 := Lib.hid (fun w => ref_number s (by omega) (by omega) w)
    have c2 := Lib.hid (fun w => ref_Bytes (Utf.num s.data.toList) w)
    have H : Hid (((bs (Utf.enc (Utf.num s.data.toList))).toList == s.toList) = Utf.one s.data.toList) := by
      show _ = _
      rw [bs_tl, Lib.toList_data]
      have := Utf.enc_one (l := s.data.toList) (by omega) (by omega)
      cases ho : Utf.one s.data.toList with
      | true => rw [ho] at this; rw [this.2 rfl]; simp
      | false => rw [ho] at this; simpa using this
    have h5 : 1 ≤ s.size := by omega
    have h6 : s.size ≤ 4 := by omega
    generalize Utf.num s.data.toList = n at *
    generalize Utf.enc n = q at *
    go_enter Tryd.func72, Tryd.ntmps72
    go_wp2_with (first | (go_at_call 86; refine (c1.out _).mono ?_; rintro e w1 ⟨rfl, hb1⟩) | (go_at_call 85; refine (c2.out _).mono ?_; rintro e w2 ⟨rfl, hb2⟩))
    go_ret
    exact ⟨by rw [← H.out]; rfl, hb1.trans (hb2.mono hb1.size)⟩
end Go.Proofs.YtlfhfpjffdaomaaDoor
