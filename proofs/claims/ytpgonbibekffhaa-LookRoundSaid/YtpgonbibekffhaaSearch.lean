/-
  slices.BinarySearch in a list of numbers that a function has made.
-/
import Derived.Test.YtpgonbibekffhaaInts
import Derived.Test.YtpgonbibekffhaaShelf
namespace Go.Proofs.Ytpgonbibekffhaa
open Go.RowKit Go.Shelf
theorem wrap_in {x : Int} (h1 : -9223372036854775808 ≤ x) (h2 : x ≤ 9223372036854775807) : IntKind.i64.wrap x = x := by rw [IntKind.wrap_i64]; omega
/-- slices.BinarySearch in a list that a function has made. -/
theorem search_int {B : Nat} {v : Value} {xs : List Int} {w : World} (hr : w.ownsRow B 3 1 v xs.length (xs.map (Value.int .i64))) (hl : xs.length < 4611686018427387904) (hs : xs.Pairwise (· ≤ ·)) (x : Int) :
    Calls Try.prog 15 #[v, .int .i64 x] w fun e w' => (∃ b, e = .returned (.tuple #[.int .i64 (xs.countP (· < x) : Nat), .bool b])) ∧ Below w.heap.size w w' := by
  rcases hr.2 with ⟨rfl, h0⟩ | ⟨g, cap, cur, rfl, hB, hg, hn, hcap, hcs, htk⟩
  · obtain rfl : xs = [] := List.eq_nil_of_length_eq_zero h0
    go_enter Try.func15, Try.ntmps15
    go_wp2
    go_loopw [7, 8] (fun a b wr => a = .int .i64 0 ∧ b = .int .i64 0 ∧ wr = w) (fun _ _ _ => 0)
    case atStart => exact ⟨rfl, rfl, rfl⟩
    case round =>
      obtain ⟨rfl, rfl, rfl⟩ := hrel
      go_wp2
      go_ret2
      exact ⟨⟨false, rfl⟩, Below.refl _ _⟩
  · have hc : ∀ j, j < xs.length → w.cell? ⟨g, 0 + j, none⟩ = some (.int .i64 (xs.getD j 0)) := fun j hj => by
      have := hr.cells (g := g) rfl j (.int .i64 (xs.getD j 0)) (by simp [List.getD_eq_getElem?_getD, List.getElem?_eq_getElem hj])
      rw [Nat.zero_add]
      have e : (⟨g, 0, none⟩ : Addr).add j = ⟨g, j, none⟩ := by unfold Addr.add; split <;> simp_all
      rw [e] at this
      exact this
    refine (Try.slices_BinarySearch_int g 0 xs.length cap xs x w (Nat.le_refl _) hl hc (by rw [List.take_length]; exact hs)).mono ?_
    rintro e w' ⟨rfl, q, rfl⟩
    rw [List.take_length]
    exact ⟨⟨_, rfl⟩, below_gb (gb_drewN w q none)⟩
end Go.Proofs.Ytpgonbibekffhaa
