/-
  Plain facts: bits of a text that are turned, one behind the other.
-/
import Derived.Test.YtjhdgbdnbfieiaaCrcSeal
namespace Go.Proofs.Ytjhdgbdnbfieiaa
open Crc
/-- A text with bit q turned. -/
def turnBit (B : List UInt8) (q : Nat) : List UInt8 := B.set (q / 8) (B.getD (q / 8) 0 ^^^ UInt8.ofNat (2 ^ (q % 8)))
theorem turnBit_length (B : List UInt8) (q : Nat) : (turnBit B q).length = B.length := by simp [turnBit]
theorem pow_lt8 (q : Nat) : 2 ^ (q % 8) < 256 := by
  have := Nat.pow_lt_pow_right (a := 2) (n := 8) (m := q % 8) (by omega) (by omega)
  simpa using this
theorem turn_byte (b : UInt8) (q : Nat) : (b ^^^ UInt8.ofNat (2 ^ (q % 8))).toNat = b.toNat ^^^ 2 ^ (q % 8) := by
  rw [UInt8.toNat_xor, UInt8.toNat_ofNat']
  rw [Nat.mod_eq_of_lt (pow_lt8 q)]
theorem turnBit_get (B : List UInt8) {q j : Nat} (hj : j < 8 * B.length) (hq : q < 8 * B.length) : (bitsAll (turnBit B q))[j]? = if j = q then ((bitsAll B)[j]?).map (!·) else (bitsAll B)[j]? := by
  rw [bitsAll_get _ j (by rw [turnBit_length]; exact hj), bitsAll_get _ j hj]
  unfold turnBit
  by_cases h8 : j / 8 = q / 8
  · have e : (B.set (q / 8) (B.getD (q / 8) 0 ^^^ UInt8.ofNat (2 ^ (q % 8)))).getD (j / 8) 0 = B.getD (q / 8) 0 ^^^ UInt8.ofNat (2 ^ (q % 8)) := by
      rw [h8, List.getD_eq_getElem?_getD, List.getElem?_set_self (by omega)]
      rfl
    rw [e, turn_byte, Nat.testBit_xor, Nat.testBit_two_pow, h8]
    by_cases hjq : j = q
    · subst hjq; simp
    · have : q % 8 ≠ j % 8 := by omega
      rw [if_neg hjq]
      simp [this]
  · have e : (B.set (q / 8) (B.getD (q / 8) 0 ^^^ UInt8.ofNat (2 ^ (q % 8)))).getD (j / 8) 0 = B.getD (j / 8) 0 := by
      rw [List.getD_eq_getElem?_getD, List.getD_eq_getElem?_getD, List.getElem?_set_ne (Ne.symm h8), ← List.getD_eq_getElem?_getD]
    have hjq : j ≠ q := fun h => h8 (by rw [h])
    rw [e, if_neg hjq]
/-- What is known of a text of which bits were turned, from bit 'at' on, i of them looked at: whether any was turned. -/
structure Turned (L B : List UInt8) (k i : Nat) (t : Bool) : Prop where
  len : B.length = L.length
  out : ∀ j, (j < k ∨ k + i ≤ j) → j < 8 * L.length → (bitsAll B)[j]? = (bitsAll L)[j]?
  no : t = false → B = L
  yes : t = true → ∃ j, j < k + i ∧ j < 8 * L.length ∧ (bitsAll B)[j]? ≠ (bitsAll L)[j]?
theorem Turned.start (L : List UInt8) (k : Nat) : Turned L L k 0 false := ⟨rfl, fun _ _ _ => rfl, fun _ => rfl, fun h => by cases h⟩
theorem Turned.skip {L B : List UInt8} {k i : Nat} {t : Bool} (h : Turned L B k i t) : Turned L B k (i + 1) t :=
  ⟨h.len, fun j hj hl => h.out j (by omega) hl, h.no, fun ht => by
    obtain ⟨j, h1, h2, h3⟩ := h.yes ht
    exact ⟨j, by omega, h2, h3⟩⟩
theorem Turned.turn {L B : List UInt8} {k i : Nat} {t : Bool} (h : Turned L B k i t) (hl : k + i < 8 * L.length) : Turned L (turnBit B (k + i)) k (i + 1) true := by
  have hB : k + i < 8 * B.length := by rw [h.len]; exact hl
  refine ⟨by rw [turnBit_length, h.len], fun j hj hjl => ?_, (fun h => by cases h), fun _ => ⟨k + i, by omega, hl, ?_⟩⟩
  · rw [turnBit_get B (by rw [h.len]; exact hjl) hB, if_neg (by omega)]
    exact h.out j (by omega) hjl
  · rw [turnBit_get B hB hB, if_pos rfl]
    have := h.out (k + i) (by omega) hl
    rw [this, bitsAll_get _ _ hl]
    simp
theorem Turned.sum {L B : List UInt8} {k i : Nat} {t : Bool} (h : Turned L B k i t) (hi : i ≤ 32) : decide (Crc.sum B ≠ Crc.sum L) = t := by
  cases t with
  | false => rw [h.no rfl]; simp
  | true =>
    obtain ⟨j, _, _, hne⟩ := h.yes rfl
    have : Crc.sum B ≠ Crc.sum L := by
      intro hs
      have := sum_burst (k := k) h.len (fun j hj hl => h.out j (by omega) (by rw [← h.len]; exact hl)) hs
      exact hne (by rw [this])
    simp [this]
theorem sum4_inj {a b : Nat} (ha : a < 4294967296) (hb : b < 4294967296) (h : sum4 a = sum4 b) : a = b := by
  unfold sum4 at h
  simp only [List.cons.injEq, and_true] at h
  obtain ⟨h1, h2, h3, h4⟩ := h
  have t := fun (x y : Nat) (hx : x < 256) (hy : y < 256) (e : UInt8.ofNat x = UInt8.ofNat y) => by
    have := congrArg UInt8.toNat e
    rw [UInt8.toNat_ofNat', UInt8.toNat_ofNat', Nat.mod_eq_of_lt hx, Nat.mod_eq_of_lt hy] at this
    exact this
  have e1 := t _ _ (by omega) (by omega) h1
  have e2 := t _ _ (by omega) (by omega) h2
  have e3 := t _ _ (by omega) (by omega) h3
  have e4 := t _ _ (by omega) (by omega) h4
  omega
theorem Turned.opened {L B : List UInt8} {k i : Nat} {t : Bool} (h : Turned L B k i t) (hi : i ≤ 32) : openB (B ++ tailB L) = (if t then [] else B, if t then 4 else 0) := by
  have hl : (B ++ tailB L).length - 4 = B.length := by rw [List.length_append, tailB_length]; omega
  have h4 : 4 ≤ (B ++ tailB L).length := by rw [List.length_append, tailB_length]; omega
  have hs := h.sum hi
  cases t with
  | false =>
    have e := h.no rfl
    subst e
    rw [openB_ok h4 (by rw [hl]; simp), hl]
    simp
  | true =>
    have hne : Crc.sum B ≠ Crc.sum L := by simpa using hs
    rw [openB_no h4]
    · rfl
    · rw [hl]
      simp only [List.drop_left, List.take_left]
      intro e
      exact hne (sum4_inj (sum_lt _) (sum_lt _) e.symm)
end Go.Proofs.Ytjhdgbdnbfieiaa
