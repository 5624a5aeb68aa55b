/-
  Lists of texts in memory.
-/
import Derived.Test.YtlfhfpjffdaomaaDoorBase
namespace Go.Proofs.YtlfhfpjffdaomaaDoor
open Go.RowKit
/-- A slice at A holds these texts. -/
def Strs (w : World) (A : Option Addr) (xs : List ByteArray) : Prop := 0 < xs.length → ∃ ad, A = some ad ∧ ad.block < w.heap.size ∧ ∀ j x, xs[j]? = some x → w.cell? (ad.add j) = some (.string x)
theorem Strs.at_ {w : World} {A : Option Addr} {xs : List ByteArray} (h : Strs w A xs) {k : Nat} (hk : k < xs.length) : ∃ ad, A = some ad ∧ w.cell? (ad.add k) = some (.string xs[k]) := by
  obtain ⟨ad, e, _, hc⟩ := h (by omega)
  exact ⟨ad, e, hc k _ (List.getElem?_eq_getElem hk)⟩
theorem Strs.grown {w w' : World} {A : Option Addr} {xs : List ByteArray} {r : Option Nat} (h : Strs w A xs) (g : w.grownBy w' r) (hr : ∀ ad, A = some ad → some ad.block ≠ r) : Strs w' A xs := fun h0 => by
  obtain ⟨ad, e, hb, hc⟩ := h h0
  refine ⟨ad, e, Nat.lt_of_lt_of_le hb g.size, fun j x hx => ?_⟩
  rw [World.cell?_of_block (g.block _ (by rw [block_of_add]; exact hb) (by rw [block_of_add]; exact hr ad e))]
  exact hc j x hx
theorem Strs.below {w w' : World} {A : Option Addr} {xs : List ByteArray} (h : Strs w A xs) (g : Below w.heap.size w w') : Strs w' A xs := h.grown (gb_below none g) (by simp)
/-- All bytes of texts, one behind the other. -/
def flat (xs : List ByteArray) : List UInt8 := xs.flatMap fun s => s.data.toList
theorem flat_snoc (xs : List ByteArray) (k : Nat) (h : k < xs.length) : flat (xs.take (k + 1)) = flat (xs.take k) ++ xs[k].data.toList := by
  unfold flat
  rw [List.take_succ_eq_append_getElem h, List.flatMap_append]
  simp
theorem strs_one (w : World) (s : ByteArray) : Strs (w.alloc (.cells #[.string s] 9)) (some ⟨w.heap.size, 0, none⟩) [s] := fun _ => by
  refine ⟨_, rfl, by simp, fun j x hx => ?_⟩
  have hb := Blk.new w 9 #[.string s]
  have e : (⟨w.heap.size, 0, none⟩ : Addr).add j = ⟨w.heap.size, j, none⟩ := by unfold Addr.add; split <;> simp_all
  rw [e, hb.cell]
  match j, hx with
  | 0, hx => simpa using hx
theorem flat_one (s : ByteArray) : flat [s] = s.data.toList := by simp [flat]
theorem strs_two (w : World) (s t : ByteArray) : Strs (w.alloc (.cells #[.string s, .string t] 9)) (some ⟨w.heap.size, 0, none⟩) [s, t] := fun _ => by
  refine ⟨_, rfl, by simp, fun j x hx => ?_⟩
  have hb := Blk.new w 9 #[.string s, .string t]
  have e : (⟨w.heap.size, 0, none⟩ : Addr).add j = ⟨w.heap.size, j, none⟩ := by unfold Addr.add; split <;> simp_all
  rw [e, hb.cell]
  match j, hx with
  | 0, hx => simpa using hx
  | 1, hx => simpa using hx
end Go.Proofs.YtlfhfpjffdaomaaDoor
