/-
  Lists of pairs of numbers in memory.
-/
import Derived.Test.YtlfhfpjffdaomaaDoorInts
namespace Go.Proofs.YtlfhfpjffdaomaaDoor
open Go.RowKit
/-- The cells of pairs. -/
def flat2 (xs : List (Nat × Nat)) : List Value := xs.flatMap fun x => [.int .i64 (x.1 : Nat), .int .i64 (x.2 : Nat)]
theorem flat2_length (xs : List (Nat × Nat)) : (flat2 xs).length = xs.length * 2 := by
  induction xs with
  | nil => rfl
  | cons x xs ih => simp only [flat2, List.flatMap_cons] at ih ⊢; simp at ih ⊢; omega
theorem flat2_snoc (xs : List (Nat × Nat)) (x : Nat × Nat) : flat2 (xs ++ [x]) = flat2 xs ++ [.int .i64 (x.1 : Nat), .int .i64 (x.2 : Nat)] := by simp [flat2]
theorem flat2_get (xs : List (Nat × Nat)) {j : Nat} {x : Nat × Nat} (h : xs[j]? = some x) : (flat2 xs)[j * 2]? = some (.int .i64 (x.1 : Nat)) ∧ (flat2 xs)[j * 2 + 1]? = some (.int .i64 (x.2 : Nat)) := by
  induction xs generalizing j with
  | nil => simp at h
  | cons y xs ih =>
    cases j with
    | zero => simp at h; subst h; simp [flat2]
    | succ j =>
      have := ih (j := j) (by simpa using h)
      rw [show flat2 (y :: xs) = [.int .i64 (y.1 : Nat), .int .i64 (y.2 : Nat)] ++ flat2 xs by simp [flat2]]
      rw [List.getElem?_append_right (by simp; omega), List.getElem?_append_right (by simp; omega)]
      simpa [show (j + 1) * 2 - 2 = j * 2 by omega, show (j + 1) * 2 + 1 - 2 = j * 2 + 1 by omega] using this
/-- A slice at A holds these pairs. -/
def Pairs (w : World) (A : Option Addr) (xs : List (Nat × Nat)) : Prop := 0 < xs.length → ∃ g : Nat, A = some ⟨g, 0, none⟩ ∧ g < w.heap.size ∧ ∀ j x, xs[j]? = some x → w.cell? ⟨g, j * 2, none⟩ = some (.int .i64 (x.1 : Nat)) ∧ w.cell? ⟨g, j * 2 + 1, none⟩ = some (.int .i64 (x.2 : Nat))
theorem Pairs.of_own {w : World} {B : Nat} {v : Value} {A : Option Addr} {n c : Nat} {t : TypeId} {xs : List (Nat × Nat)} (h : w.ownsRow B t 2 v xs.length (flat2 xs)) (hv : v = .slice A n c) : Pairs w A xs := fun h0 => by
  subst hv
  rcases h.2 with ⟨_, h2⟩ | ⟨g, cap, cur, hv, hb, hh, _⟩
  · omega
  · injection hv with hA
    subst hA
    have key : ∀ (i : Nat) u, (flat2 xs)[i]? = some u → w.cell? ⟨g, i, none⟩ = some u := fun i u hu => by
      have h1 := h.cells (g := g) rfl i u hu
      have e : (⟨g, 0, none⟩ : Addr).add i = ⟨g, i, none⟩ := by unfold Addr.add; split <;> simp_all
      rwa [e] at h1
    refine ⟨g, rfl, (Array.getElem?_eq_some_iff.1 hh).1, fun j x hx => ?_⟩
    obtain ⟨h3, h4⟩ := flat2_get xs hx
    exact ⟨key _ _ h3, key _ _ h4⟩
theorem Pairs.below {w w' : World} {A : Option Addr} {xs : List (Nat × Nat)} (h : Pairs w A xs) (hb : Below w.heap.size w w') : Pairs w' A xs := fun h0 => by
  obtain ⟨g, e, hg, hc⟩ := h h0
  refine ⟨g, e, Nat.lt_of_lt_of_le hg hb.size, fun j x hx => ?_⟩
  rw [World.cell?_of_block (hb.block _ hg), World.cell?_of_block (hb.block _ hg)]
  exact hc j x hx
theorem Pairs.at_ {w : World} {A : Option Addr} {xs : List (Nat × Nat)} (h : Pairs w A xs) {k : Nat} {x : Nat × Nat} (hk : xs[k]? = some x) : ∃ g, A = some ⟨g, 0, none⟩ ∧ w.cell? ⟨g, k * 2, none⟩ = some (.int .i64 (x.1 : Nat)) ∧ w.cell? ⟨g, k * 2 + 1, none⟩ = some (.int .i64 (x.2 : Nat)) := by
  obtain ⟨g, e, _, hc⟩ := h (by have := (List.getElem?_eq_some_iff.1 hk).1; omega)
  exact ⟨g, e, hc k x hk⟩
theorem info_pair : (Tryd.prog.info? 67).map (fun i => (i.zero, i.size, i.bytes)) = some (some (.agg #[.int .i64 0, .int .i64 0]), 2, 16) := by kernel_rfl
theorem zero_pair (w : World) : (zeroValue 67).run Tryd.prog w = .ok (.agg #[.int .i64 0, .int .i64 0]) w := by kernel_rfl
theorem pair_cells (w : World) (t : TypeId) (a b : Value) (j : Nat) (u : Value) (h : [a, b][j]? = some u) : (w.alloc (.cells #[a, b] t)).cell? ((⟨w.heap.size, 0, none⟩ : Addr).add j) = some u := by
  have hb := Blk.new w t #[a, b]
  have e : (⟨w.heap.size, 0, none⟩ : Addr).add j = ⟨w.heap.size, j, none⟩ := by unfold Addr.add; split <;> simp_all
  rw [e, hb.cell]
  match j, h with
  | 0, h => simpa using h
  | 1, h => simpa using h
theorem own_long {w : World} {base : Nat} {e : TypeId} {size n : Nat} {v : Value} {xs : List Value} (h : w.ownsRow base e size v n xs) : ∃ a c, v = .slice a n c := by
  rcases h.2 with ⟨rfl, rfl⟩ | ⟨g, cap, cur, rfl, _⟩
  · exact ⟨_, _, rfl⟩
  · exact ⟨_, _, rfl⟩
end Go.Proofs.YtlfhfpjffdaomaaDoor
