/-
  A list that is made in a loop over an iterator: its variable's box, and its row.
-/
import Derived.Test.YtpgonbibekffhaaSeqList
import Derived.Maps.OwnIn
namespace Go.Proofs.Ytpgonbibekffhaa
open Go.RowKit
namespace Para
theorem ownsRow_steps {q m : Nat} {A B : World} (h : Steps q m A B) {n₀ : Nat} {e : TypeId} {size : Nat} {v : Value} {k : Nat} {xs : List Value} (hr : A.ownsRow n₀ e size v k xs) (hv : ∀ g, v.ownBlock = some g → m + q ≤ g) : B.ownsRow n₀ e size v k xs := by
  refine ⟨hr.1, ?_⟩
  rcases hr.2 with h1 | ⟨g, cap, cur, rfl, h2, h3, h4⟩
  · exact .inl h1
  · exact .inr ⟨g, cap, cur, rfl, h2, h.same g _ h3 (.inr ⟨hv g rfl, rfl⟩), h4⟩
/-- A list that is made: its variable's box is block B, its row lies from block b on; what lay below block n is as in w. -/
structure Lst (T e : TypeId) (size n B b : Nat) (w : World) (k : Nat) (l : List Value) (W : World) : Prop where
  row : ∃ v, Boxed W B T v ∧ W.ownsRow n e size v k l ∧ ∀ g, v.ownBlock = some g → b ≤ g
  below : Below n w W
theorem Lst.steps {T e : TypeId} {size n B b : Nat} {w : World} {k : Nat} {l : List Value} {X Y : World} {q m : Nat} (h : Lst T e size n B b w k l X) (hs : Steps q m X Y) (h0 : n ≤ B) (h1 : B < m) (h2 : m + q ≤ b) (h3 : n ≤ w.heap.size) : Lst T e size n B b w k l Y := by
  obtain ⟨⟨v, hb, hr, hv⟩, hB⟩ := h
  exact ⟨⟨v, hs.boxed (.inl h1) hb, ownsRow_steps hs hr (fun g e => Nat.le_trans h2 (hv g e)), hv⟩, hs.below hB (by omega) h3⟩
theorem Lst.alloc {T e : TypeId} {size n B b : Nat} {w : World} {k : Nat} {l : List Value} {X : World} (h : Lst T e size n B b w k l X) (h3 : n ≤ w.heap.size) (o : Obj) : Lst T e size n B b w k l (X.alloc o) := by
  obtain ⟨⟨v, hb, hr, hv⟩, hB⟩ := h
  exact ⟨⟨v, hb.alloc _, hr.alloc _, hv⟩, hB.alloc (Nat.le_trans h3 hB.size) _⟩
/-- The row that an append may write. -/
theorem row_cells {A : World} {n b m q : Nat} {T : List Nat} {e : TypeId} {size : Nat} {v : Value} {k : Nat} {xs : List Value} (hr : A.ownsRow n e size v k xs) (hv : ∀ g, v.ownBlock = some g → b ≤ g) {r : Nat} (e : v.ownBlock = some r) (hb : m + q ≤ b) (hT : ∀ k ∈ T, k < b) :
    (r < m ∨ m + q ≤ r) ∧ r ∉ T ∧ ∀ o, A.heap[r]? = some o → o.isCells = true := by
  have hbr := hv r e
  refine ⟨.inr (by omega), fun h => by have := hT r h; omega, fun o ho => ?_⟩
  rcases hr.2 with ⟨rfl, _⟩ | ⟨g, cap, cur, rfl, h2, h3, _⟩
  · cases e
  · obtain rfl : g = r := by simpa [Value.ownBlock] using e
    rw [h3] at ho; cases ho; rfl
end Para
end Go.Proofs.Ytpgonbibekffhaa
