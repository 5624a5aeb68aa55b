/-
  Lists of numbers in memory.
-/
import Derived.Test.YtlfhfpjffdaomaaDoorBase
namespace Go.Proofs.YtlfhfpjffdaomaaDoor
open Go.RowKit
/-- A slice at A holds these numbers. -/
def Ints (w : World) (A : Option Addr) (xs : List Int) : Prop := 0 < xs.length → ∃ ad, A = some ad ∧ ad.block < w.heap.size ∧ ∀ j x, xs[j]? = some x → w.cell? (ad.add j) = some (.int .i64 x)
theorem Ints.at_ {w : World} {A : Option Addr} {xs : List Int} (h : Ints w A xs) {k : Nat} (hk : k < xs.length) : ∃ ad, A = some ad ∧ w.cell? (ad.add k) = some (.int .i64 xs[k]) := by
  obtain ⟨ad, e, _, hc⟩ := h (by omega)
  exact ⟨ad, e, hc k _ (List.getElem?_eq_getElem hk)⟩
theorem Ints.grown {w w' : World} {A : Option Addr} {xs : List Int} {r : Option Nat} (h : Ints w A xs) (g : w.grownBy w' r) (hr : ∀ ad, A = some ad → some ad.block ≠ r) : Ints w' A xs := fun h0 => by
  obtain ⟨ad, e, hb, hc⟩ := h h0
  refine ⟨ad, e, Nat.lt_of_lt_of_le hb g.size, fun j x hx => ?_⟩
  rw [World.cell?_of_block (g.block _ (by rw [block_of_add]; exact hb) (by rw [block_of_add]; exact hr ad e))]
  exact hc j x hx
theorem Ints.of_own {w : World} {B : Nat} {v : Value} {A : Option Addr} {n c : Nat} {xs : List Int} (h : w.ownsRow B 3 1 v xs.length (xs.map (Value.int .i64))) (hv : v = .slice A n c) : Ints w A xs := fun h0 => by
  subst hv
  rcases h.2 with ⟨_, h2⟩ | ⟨g, cap, cur, hv, hb, hh, _⟩
  · omega
  · injection hv with hA
    subst hA
    refine ⟨_, rfl, (Array.getElem?_eq_some_iff.1 hh).1, fun j x hx => ?_⟩
    exact h.cells (g := g) rfl j _ (by simp [hx])
/-- An answer that is a list of these numbers, in memory from block B on. -/
def GotInts (B : Nat) (xs : List Int) (e : Ending) (w' : World) : Prop := ∃ v, e = .returned v ∧ w'.ownsRow B 3 1 v xs.length (xs.map (Value.int .i64))
theorem gotInts_nil (B : Nat) (w' : World) : GotInts B [] (.returned (.slice none 0 0)) w' := ⟨_, rfl, World.ownsRow_nil _ _ _ _⟩
theorem info_int : (Tryd.prog.info? 3).map (fun i => (i.zero, i.size, i.bytes)) = some (some (.int .i64 0), 1, 8) := by kernel_rfl
end Go.Proofs.YtlfhfpjffdaomaaDoor
