/-
  Do bytes begin a rune that they do not end, as the document asks it: by trying what could stand behind them.
-/
import Derived.Test.YtkioekjdbekcbaaUtfIs
import Derived.Test.YtkioekjdbekcbaaUtfFeed
namespace Go.Proofs.Ytkioekjdbekcbaa
open Go.RowKit
open Utf
namespace Utf
/-- What the document tries behind bytes. -/
def fill : Nat → List Int
  | 0 => [128, 128, 128]
  | 1 => [191, 191, 191]
  | 2 => [160, 128, 128]
  | 3 => [144, 128, 128]
  | 4 => [159, 128, 128]
  | _ => [143, 128, 128]
def fillB (k : Nat) : List UInt8 := (fill k).map fun x => UInt8.ofNat x.toNat
theorem fill_length (k : Nat) : (fill k).length = 3 := by
  match k with
  | 0 => rfl
  | 1 => rfl
  | 2 => rfl
  | 3 => rfl
  | 4 => rfl
  | _ + 5 => rfl
theorem fillB_length (k : Nat) : (fillB k).length = 3 := by rw [fillB, List.length_map, fill_length]
theorem one_fill {l t : List UInt8} (h0 : l ≠ []) (ht : t ≠ []) (h : one (l ++ t) = true) : half l = true := by
  have h1 := one_iff.1 h
  have h2 := siz_less h0 h1.1
  have h3 : 0 < t.length := List.length_pos_iff.2 ht
  rw [List.length_append] at h1
  rw [half_iff]
  exact ⟨by omega, h0⟩
theorem fill_one {l : List UInt8} (h : half l = true) : ∃ k, k < 6 ∧ one (l ++ (fillB k).take (siz l - l.length)) = true := by
  obtain ⟨h1, h0⟩ := half_iff.1 h
  have h4 := siz_le l
  match l, h0 with
  | [a], _ =>
    have hs : siz [a] = len a.toNat := by rw [siz_cons]; simp [goes_end]
    rw [hs] at h1 h4
    simp only [List.length_cons, List.length_nil, Nat.zero_add] at h1
    rw [hs]
    rcases (show len a.toNat = 2 ∨ len a.toNat = 3 ∨ len a.toNat = 4 by omega) with h | h | h
    · rw [h]
      refine ⟨0, by omega, ?_⟩
      show one [a, 128] = true
      rw [one2]
      exact ⟨len_two.1 h, by decide⟩
    · rw [h]
      have hl := len_three.1 h
      have hlo := low_spec a.toNat
      have hhi := high_spec a.toNat
      by_cases ha : a.toNat = 224
      · refine ⟨2, by omega, ?_⟩
        show one [a, 160, 128] = true
        rw [one3]
        refine ⟨hl, ⟨?_, ?_⟩, by decide⟩
        · show low a.toNat ≤ 160; omega
        · show 160 ≤ high a.toNat; omega
      · refine ⟨0, by omega, ?_⟩
        show one [a, 128, 128] = true
        rw [one3]
        refine ⟨hl, ⟨?_, ?_⟩, by decide⟩
        · show low a.toNat ≤ 128; omega
        · show 128 ≤ high a.toNat; omega
    · rw [h]
      have hl := len_four.1 h
      have hlo := low_spec a.toNat
      have hhi := high_spec a.toNat
      by_cases ha : a.toNat = 240
      · refine ⟨3, by omega, ?_⟩
        show one [a, 144, 128, 128] = true
        rw [one4]
        refine ⟨hl, ⟨?_, ?_⟩, by decide, by decide⟩
        · show low a.toNat ≤ 144; omega
        · show 144 ≤ high a.toNat; omega
      · refine ⟨0, by omega, ?_⟩
        show one [a, 128, 128, 128] = true
        rw [one4]
        refine ⟨hl, ⟨?_, ?_⟩, by decide, by decide⟩
        · show low a.toNat ≤ 128; omega
        · show 128 ≤ high a.toNat; omega
  | [a, b], _ =>
    have hg : goes (low a.toNat) (high a.toNat) (len a.toNat - 1) [b] = true ∧ siz [a, b] = len a.toNat := by
      rw [siz_cons] at h1 ⊢
      split
      · next hg => exact ⟨hg, rfl⟩
      · next hg => rw [if_neg hg] at h1; omega
    obtain ⟨hg, hs⟩ := hg
    rw [hs] at h1 h4
    simp only [List.length_cons, List.length_nil, Nat.zero_add] at h1
    rw [hs]
    rcases (show len a.toNat = 3 ∨ len a.toNat = 4 by omega) with h | h
    · rw [h] at hg ⊢
      simp only [goes, Bool.and_true, Bool.and_eq_true, decide_eq_true_eq] at hg
      refine ⟨0, by omega, ?_⟩
      show one [a, b, 128] = true
      rw [one3]
      exact ⟨len_three.1 h, hg, by decide⟩
    · rw [h] at hg ⊢
      simp only [goes, Bool.and_true, Bool.and_eq_true, decide_eq_true_eq] at hg
      refine ⟨0, by omega, ?_⟩
      show one [a, b, 128, 128] = true
      rw [one4]
      exact ⟨len_four.1 h, hg, by decide, by decide⟩
  | [a, b, c], _ =>
    have hg : goes (low a.toNat) (high a.toNat) (len a.toNat - 1) [b, c] = true ∧ siz [a, b, c] = len a.toNat := by
      rw [siz_cons] at h1 ⊢
      split
      · next hg => exact ⟨hg, rfl⟩
      · next hg => rw [if_neg hg] at h1; omega
    obtain ⟨hg, hs⟩ := hg
    rw [hs] at h1 h4
    simp only [List.length_cons, List.length_nil, Nat.zero_add] at h1
    rw [hs]
    have h : len a.toNat = 4 := by omega
    rw [h] at hg ⊢
    simp only [goes, Bool.and_true, Bool.and_eq_true, decide_eq_true_eq] at hg
    refine ⟨0, by omega, ?_⟩
    show one [a, b, c, 128] = true
    rw [one4]
    exact ⟨len_four.1 h, hg.1, hg.2, by decide⟩
  | a :: b :: c :: d :: t, _ => simp only [List.length_cons] at h1; omega
/-- What the loops of the document have tried so far: lengths below m, and of the length m those below k. -/
theorem half_no {l : List UInt8} (h : ∀ m k, l.length < m → m ≤ 4 → k < 6 → one (l ++ (fillB k).take (m - l.length)) = false) : half l = false := by
  cases hh : half l with
  | false => rfl
  | true =>
    obtain ⟨k, hk, ho⟩ := fill_one hh
    have h1 := half_iff.1 hh
    rw [h (siz l) k h1.1 (siz_le l) hk] at ho
    cases ho
end Utf
theorem run_bytes_of {P : Program} {w : World} {g : Nat} {xs : List Int} {ts td te : TypeId} (hb : Blk w g te (xs.map (Value.int .u8)).toArray) {j : Nat} (hj : j ≤ xs.length) (c : Nat) (hs : P.underlying ts = some (.slice te)) (he : P.underlying te = some (.int .u8)) (hd : P.underlying td = some .string) :
    (convert ts td (.slice (some ⟨g, 0, none⟩) j c)).run P w = .ok (.string (bs ((xs.map fun x => UInt8.ofNat x.toNat).take j))) w := by
  rw [run_convert_bytes_string _ ts td te _ _ _ hs he hd]
  rw [run_bytesToString _ _ j c (xs.take j)]
  · rw [push_all]; simp [bs, List.map_take]
  · have := run_loadCells_list (P := P) w ⟨g, 0, none⟩ ((xs.take j).map (Value.int .u8)) (fun i v h => by
      have e : (⟨g, 0, none⟩ : Addr).add i = ⟨g, i, none⟩ := by unfold Addr.add; split <;> simp_all
      rw [e, hb.cell]
      rw [List.getElem?_map] at h
      have hi : i < j := by
        rcases Nat.lt_or_ge i j with h' | h'
        · exact h'
        · rw [List.getElem?_take, if_neg (by omega)] at h; simp at h
      rw [List.getElem?_take, if_pos hi] at h
      simpa using h)
    rw [show ((xs.take j).map (Value.int .u8)).length = j by rw [List.length_map, List.length_take]; omega] at this
    exact this
end Go.Proofs.Ytkioekjdbekcbaa
