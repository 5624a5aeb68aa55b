/-
  What undoes changes made at once, as package batch tells it.
-/
import Derived.Test.YtlfhfpjffdaomaaDoorBatchRight
import Derived.WalkLawsBesides
namespace Go.Proofs.YtlfhfpjffdaomaaDoor
open Go.RowKit
open Utf Chg Btc
namespace Btc
/-- The cells of changes, one behind the other. -/
def rows (l : List Cg) : List Value := l.flatMap fun k => [.int .i64 k.at_, .string k.old, .string k.new]
theorem rows_append (a b : List Cg) : rows (a ++ b) = rows a ++ rows b := by simp [rows]
theorem rows_get : ∀ {l : List Cg} {j : Nat} {k : Cg}, l[j]? = some k → (rows l)[j * 3]? = some (.int .i64 k.at_) ∧ (rows l)[j * 3 + 1]? = some (.string k.old) ∧ (rows l)[j * 3 + 2]? = some (.string k.new)
  | [], _, _, h => by simp at h
  | x :: r, 0, k, h => by
    simp only [List.getElem?_cons_zero, Option.some.injEq] at h
    subst h
    exact ⟨rfl, rfl, rfl⟩
  | x :: r, j + 1, k, h => by
    have ih := rows_get (l := r) (j := j) (by simpa using h)
    have e : rows (x :: r) = .int .i64 x.at_ :: .string x.old :: .string x.new :: rows r := rfl
    rw [e, show (j + 1) * 3 = j * 3 + 1 + 1 + 1 by omega]
    exact ih
/-- What undoes changes: nothing, if they do not stand in their order. -/
def turns (ks : List Cg) : List Cg := if apart ks = true then turned 0 ks else []
end Btc
theorem info_cg : (Tryd.prog.info? 48).map (fun i => (i.zero, i.size, i.bytes)) = some (some (.agg #[.int .i64 0, .string ⟨#[]⟩, .string ⟨#[]⟩]), 3, 40) := by kernel_rfl
/-- Changes that the call has laid. -/
theorem own_cgs {w : World} {B : Nat} {e : TypeId} {A : Option Addr} {n c : Nat} {l : List Cg} (h : w.ownsRow B e 3 (.slice A n c) n (rows l)) (hn : l.length = n) : Cgs w A l := fun h0 => by
  rcases h.2 with ⟨_, h1⟩ | ⟨g, cap, cur, hv, _, hh, _⟩
  · omega
  · injection hv with e1 e2 e3
    subst e1
    have hc := h.cells (g := g) rfl
    have hp : ∀ j, (⟨g, 0, none⟩ : Addr).add j = ⟨g, 0 + j, none⟩ := fun j => add_plain g 0 j
    refine ⟨g, 0, rfl, Blk.lt (w := w) hh, fun j k hj => ?_⟩
    obtain ⟨h1, h2, h3⟩ := rows_get hj
    refine ⟨?_, ?_, ?_⟩
    · rw [← hp]; exact hc _ _ h1
    · rw [Nat.add_assoc, ← hp]; exact hc _ _ h2
    · rw [Nat.add_assoc, ← hp]; exact hc _ _ h3
/-- An answer of changes that the call has laid. -/
def TurnIs (l : List Cg) (w : World) (e : Ending) (w' : World) : Prop := ∃ (A : Option Addr) (c : Nat), e = .returned (.slice A l.length c) ∧ Cgs w' A l ∧ Below w.heap.size w w'
end Go.Proofs.YtlfhfpjffdaomaaDoor
