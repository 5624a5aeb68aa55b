/-
  An argument that is a list of texts, and how long it can be in the second form.
-/
import Derived.Test.YtopplkfbnpamdaaStrs
import Derived.Test.YtopplkfbnpamdaaFrame
import Derived.Test.YtopplkfbnpamdaaBulk
import Derived.SliceStrings
namespace Go.Proofs.Ytopplkfbnpamdaa
open Go.ChangeShapes Go.WideShapes Go.ChangeAt Go.RowKit
theorem cells_string : Try.prog.cellsOf 9 = 1 := by kernel_rfl
theorem open_texts {H : Type} {enc : TypeId × Value → H} {W : World} {base : Nat} {v : Value} {d : DataW H} {p : List MemPlace} (ho : Value.okWide Try.prog W .any base 39 v)
    (h : DataW.Trod enc Try.prog W 0 (fun _ => true) true 39 v d p) (hl : ∀ x ∈ p, x.block < W.heap.size) :
    ∃ (A : Option Addr) (c : Nat) (xs : List ByteArray), v = .slice A xs.length c ∧ Strs W A xs ∧ (xs.length ≤ maxLen ∧ ∀ s ∈ xs, s.size ≤ maxLen) ∧ (xs = [] ∨ ∃ sp, d = .slice (strs xs) sp) := by
  obtain ⟨a0, len, cap, rfl⟩ := okWide_slice Try.underlying39 ho
  obtain ⟨fuel, hf⟩ := h
  rcases open_strings Try.underlying39 Try.underlying9 cells_string hf with ⟨hcs, hx⟩ | ⟨a, len', cap', zs, hcs, _, hl', hm, hz, hx, hcell, hwz⟩
  · simp [Value.cells] at hcs
    obtain ⟨rfl, rfl, rfl⟩ := hcs
    exact ⟨none, 0, [], rfl, fun h0 => absurd h0 (by simp), ⟨by simp, by simp⟩, .inl rfl⟩
  · simp [Value.cells] at hcs
    obtain ⟨rfl, rfl, rfl⟩ := hcs
    simp only [Prod.mk.injEq] at hx
    obtain ⟨rfl, rfl⟩ := hx
    simp only [if_true] at hz
    have hlen : (zs.take len).length = len := by rw [List.length_take]; omega
    refine ⟨some a, cap, zs.take len, by rw [hlen], fun h0 => ⟨a, rfl, ?_, fun j x hx => ?_⟩, ⟨by rw [hlen]; omega, fun s hs => hwz s (List.mem_of_mem_take hs)⟩, .inr ⟨_, rfl⟩⟩
    · have hm0 : MemPlace.cell (a.add 0).block (a.add 0).off ∈ MemPlace.row a zs.length := MemPlace.mem_row.2 ⟨0, by omega, by simp [Addr.add]⟩
      have := hl _ hm0
      rw [block_of_add] at this
      exact this
    · have hj : j < len := by
        rcases Nat.lt_or_ge j len with h' | h'
        · exact h'
        · rw [List.getElem?_eq_none (by rw [hlen]; exact h')] at hx; cases hx
      rw [hcell j (by omega)]
      rw [List.getElem?_take, if_pos hj] at hx
      simp [List.getD, hx]
theorem bulk_strs {H : Type} : ∀ xs : List ByteArray, (flat xs).length + xs.length ≤ Rows.uptoBulkAll (strs (H := H) xs)
  | [] => by simp [flat]
  | s :: r => by
    have ih := bulk_strs (H := H) r
    have e : strs (H := H) (s :: r) = .lit (.string s.data.toList) :: strs r := rfl
    rw [e]
    simp only [Rows.uptoBulkAll, bulk_string]
    simp only [flat, List.flatMap_cons, List.length_append, List.length_cons] at ih ⊢
    omega
theorem small_texts {H : Type} {xs : List ByteArray} {d : DataW H} {l : List (DataW H)} (hk : Rows.uptoSmall H l = true) (hd : xs = [] ∨ ∃ sp, d = .slice (strs xs) sp) (h : d ∈ l) : (flat xs).length + xs.length ≤ 1048576 := by
  rcases hd with rfl | ⟨sp, rfl⟩
  · simp [flat]
  · have h1 := bulk_bound hk
    have h2 := bulk_part h
    have h3 := bulk_strs (H := H) xs
    simp only [Rows.uptoBulk] at h2
    omega
theorem flat_mem {xs : List ByteArray} {s : ByteArray} (h : s ∈ xs) : s.size ≤ (flat xs).length := by
  induction xs with
  | nil => cases h
  | cons x r ih =>
    simp only [flat, List.flatMap_cons, List.length_append] at ih ⊢
    rcases List.mem_cons.1 h with rfl | h
    · rw [data_len]; omega
    · have := ih h; omega
end Go.Proofs.Ytopplkfbnpamdaa
