/-
  A block that begins with these bytes, none of them frozen: what '[]byte(s)' makes, what stores leave, and the text that it is.
-/
import Derived.WalkKit
import Derived.Laws.IdiomStrings
import Derived.Test.YtambboomabeioaaBase
namespace Go.Proofs.Ytambboomabeioaa
open Go.RowKit
/-- Block g begins with these bytes, none of them frozen. -/
def Held8 (w : World) (g : Nat) (B : List UInt8) : Prop := ∃ (cs : Array Value) (m : Nat), w.heap[g]? = some (.cells cs 5 (m, m + 1)) ∧ B.length ≤ m ∧ ∀ (i : Nat) (b : UInt8), B[i]? = some b → cs[i]? = some (Value.int .u8 (b.toNat : Int))
section
variable {w w' : World} {g : Nat} {B : List UInt8}
theorem Held8.cell (h : Held8 w g B) {i : Nat} {b : UInt8} (hb : B[i]? = some b) : w.cell? ⟨g, i, none⟩ = some (.int .u8 (b.toNat : Int)) := by
  obtain ⟨cs, m, hg, _, hc⟩ := h
  rw [cell_of_row w g i cs _ _ hg]
  exact hc i b hb
theorem Held8.frozen (h : Held8 w g B) {i : Nat} (hi : i < B.length) : w.frozen? ⟨g, i, none⟩ = false := by
  obtain ⟨cs, m, hg, hm, _⟩ := h
  simp only [World.frozen?, hg]
  simp
  omega
theorem Held8.drew (h : Held8 w g B) : Held8 w.drew g B := by
  obtain ⟨cs, m, h1, h2⟩ := h
  exact ⟨cs, m, h1, h2⟩
theorem Held8.below {n : Nat} (h : Held8 w g B) (hb : Below n w w') (hg : g < n) : Held8 w' g B := by
  obtain ⟨cs, m, h1, h2⟩ := h
  exact ⟨cs, m, (hb.block g hg).trans h1, h2⟩
theorem Held8.lt (h : Held8 w g B) : g < w.heap.size := by
  obtain ⟨cs, m, h1, _⟩ := h
  rcases Nat.lt_or_ge g w.heap.size with hlt | hge
  · exact hlt
  · rw [Array.getElem?_eq_none hge] at h1; cases h1
theorem Held8.set_ (h : Held8 w g B) (i : Nat) (b : UInt8) : Held8 (w.setCell ⟨g, i, none⟩ (.int .u8 (b.toNat : Int))) g (B.set i b) := by
  obtain ⟨cs, m, hg, hm, hc⟩ := h
  refine ⟨cs.setIfInBounds i (.int .u8 (b.toNat : Int)), m, ?_, by simpa using hm, fun j x hx => ?_⟩
  · simp [World.setCell, Array.getElem?_modify, hg]
  · rw [List.getElem?_set] at hx
    rw [Array.getElem?_setIfInBounds]
    by_cases e : i = j
    · subst e
      rw [if_pos rfl] at hx ⊢
      split at hx
      · rename_i hl
        have := hc i _ (List.getElem?_eq_getElem hl)
        have hlt : i < cs.size := (Array.getElem?_eq_some_iff.1 this).1
        rw [if_pos hlt]
        injection hx with hx
        rw [hx]
      · cases hx
    · rw [if_neg e] at hx ⊢
      exact hc j x hx
theorem Held8.made (w : World) (s : ByteArray) (cap : Nat) : Held8 (w.alloc (.cells (bytesRow s cap) 5 ((bytesRow s cap).size, (bytesRow s cap).size + 1))).drew w.heap.size s.data.toList := by
  refine ⟨_, _, heap_alloc_new w _, ?_, fun i b hb => ?_⟩
  · unfold bytesRow
    rw [Array.size_append, Array.size_map, Array.size_replicate, data_len]
    have : s.data.size = s.size := rfl
    omega
  · have hi : i < s.data.size := by
      rcases Nat.lt_or_ge i s.data.size with h | h
      · exact h
      · rw [List.getElem?_eq_none (by simpa using h)] at hb; cases hb
    rw [bytesRow_at s cap i hi]
    rw [Array.getElem?_toList, Array.getElem?_eq_getElem hi] at hb
    injection hb with hb
    rw [hb]
end
theorem Held8.text {w : World} {g : Nat} {B : List UInt8} (h : Held8 w g B) {n : Nat} (hn : n = B.length) (cap : Nat) :
    (convert 70 9 (.slice (some ⟨g, 0, none⟩) n cap)).run Try.prog w = .ok (.string (bs B)) w := by
  subst hn
  exact run_convert_bytes_back (P := Try.prog) w 70 9 5 ⟨g, 0, none⟩ cap B Try.underlying70 Try.underlying5 Try.underlying9 (fun j hj => by
    have e : (⟨g, 0, none⟩ : Addr).add j = ⟨g, j, none⟩ := by unfold Addr.add; split <;> simp_all
    rw [e]
    exact h.cell (List.getElem?_eq_getElem hj))
end Go.Proofs.Ytambboomabeioaa
